/-
  The document's text of a set, and its reading of a text. A text of at most a million bytes.
-/
import Derived.Test.YtlpdilkenbjajaaDoorBRefList
import Derived.Test.YtlpdilkenbjajaaDoorBDigits
import Derived.Test.YtlpdilkenbjajaaDoorBSame
import Derived.Test.YtlpdilkenbjajaaDoorBParts
namespace Go.Proofs.YtlpdilkenbjajaaDoor.bits
open Go.RowKit Go.ChangeShapes

theorem size_mk (l : List UInt8) : (ByteArray.mk l.toArray).size = l.length := by
  show l.toArray.size = _
  simp

theorem ret_text {a b : List UInt8} (h : a = b) : Ending.returned (.string ⟨a.toArray⟩) = .returned (.string ⟨b.toArray⟩) := by rw [h]

set_option maxHeartbeats 1000000 in
theorem refText_any (s : Nat) (hs : Is64 s) (w : World) :
    Calls Tryd.prog 7 #[.int .u64 (s : Int)] w fun e w' => e = .returned (.string ⟨(text s).toArray⟩) ∧ Below w.heap.size w w' := by
  have hlen := els_length_le s
  go_enter Tryd.func7, Tryd.ntmps7
  go_wp2_with fail
  refine (refList_any s hs _).mono ?_
  rintro e w1 ⟨g, cap, rfl, hl, hb, _⟩
  have HL := Lib.hid hl
  have HB := Lib.hid hb
  clear hl hb
  generalize hN : (els s).length = N at *
  have HN := Lib.hid hN
  clear hN
  go_wp2_with fail
  go_loopw [4, 5] (fun t i wr => ∃ k : Nat, k ≤ N ∧ i = .int .i64 (k : Int) ∧ t = .string ⟨(txt ((els s).take k)).toArray⟩ ∧ ListAt wr g (els s) ∧ Below w.heap.size w wr) (fun _ i _ => N - (intOf i).toNat)
  case atStart => exact ⟨0, Nat.zero_le _, rfl, rfl, HL.out, HB.out⟩
  case round =>
    obtain ⟨k, hk, rfl, rfl, hl, hb⟩ := hrel
    rename_i wr
    have HB1 := Lib.hid hb
    have HL1 := Lib.hid hl
    by_cases hlt : k < N
    · obtain ⟨x, hx⟩ : ∃ x : Nat, (els s)[k]? = some x := ⟨_, List.getElem?_eq_getElem (by rw [HN.out]; exact hlt)⟩
      have hc := hl.cell hx
      have hx64 := els_get_lt hx
      have HTX := Lib.hid (txt_take hx)
      have hll := txt_length_le ((els s).take k)
      have htk : ((els s).take k).length ≤ k := List.length_take_le _ _
      have hps := size_mk (txt ((els s).take k))
      have hds := size_mk (dig x)
      have hdl := dig_length_le x
      have hpl : (txt ((els s).take k)).length ≤ 192 := by omega
      have hc1 : (ByteArray.mk #[44]).size = 1 := rfl
      clear hx hl hb hll htk
      by_cases hk0 : k = 0
      · have HTX0 : Hid (txt ((els s).take (k + 1)) = txt ((els s).take k) ++ dig x) := Lib.hid (by rw [HTX.out, if_pos hk0]; rfl)
        subst hk0
        clear HTX
        generalize txt (List.take 0 (els s)) = pre at *
        go_wp2_with fail
        refine (refDigits_any x hx64 _).mono ?_
        rintro e w2 ⟨rfl, hb2⟩
        have HB2 := Lib.hid (HB1.out.trans (hb2.mono HB1.out.size))
        have HL2 := Lib.hid (HL1.out.below hb2 HL1.out.lt)
        clear hb2
        go_wp2
        go_roundw
        case rel =>
          refine ⟨0 + 1, by omega, by go_num, ?_, HL2.out, HB2.out⟩
          rw [HTX0.out, ← mk_append]
        case measure => simp [intOf]; omega
      · have HTX0 : Hid (txt ((els s).take (k + 1)) = (txt ((els s).take k) ++ [44]) ++ dig x) := Lib.hid (by rw [HTX.out, if_neg hk0, List.append_assoc])
        have hkp : 0 < k := by omega
        clear HTX hk0
        generalize txt (List.take k (els s)) = pre at *
        have hqs : (ByteArray.mk pre.toArray ++ ByteArray.mk #[44]).size = pre.length + 1 := by
          rw [show ByteArray.mk #[44] = ByteArray.mk ([44] : List UInt8).toArray from rfl, mk_append, size_mk]
          simp
        go_wp2_with fail
        refine (refDigits_any x hx64 _).mono ?_
        rintro e w2 ⟨rfl, hb2⟩
        have HB2 := Lib.hid (HB1.out.trans (hb2.mono HB1.out.size))
        have HL2 := Lib.hid (HL1.out.below hb2 HL1.out.lt)
        clear hb2
        go_wp2
        go_roundw
        case rel =>
          refine ⟨k + 1, by omega, by go_num, ?_, HL2.out, HB2.out⟩
          rw [HTX0.out, ← mk_append, ← mk_append]
        case measure => simp [intOf]; omega
    · obtain rfl : k = N := by omega
      have e : (els s).take k = els s := List.take_of_length_le (by rw [HN.out]; exact Nat.le_refl _)
      rw [e]
      clear e hl hb
      by_cases h0 : k = 0
      · have HT : Hid (text s = [45]) := Lib.hid (by unfold text; rw [if_pos (List.eq_nil_of_length_eq_zero (by rw [HN.out]; exact h0))])
        subst h0
        go_wp2
        go_ret
        exact ⟨ret_text HT.out.symm, HB1.out⟩
      · have HT : Hid (text s = txt (els s)) := Lib.hid (by
          unfold text
          rw [if_neg]
          intro h
          have := HN.out
          rw [h] at this
          exact h0 this.symm)
        have hb0 : ((k : Int) == 0) = false := by simp [h0]
        clear h0
        go_wp2
        go_ret
        exact ⟨ret_text HT.out.symm, HB1.out⟩
end Go.Proofs.YtlpdilkenbjajaaDoor.bits
