/-
  The program's reading of a set's text. A text of at most a million bytes; the library's two errors must be there.
-/
import Derived.Test.YtlpdilkenbjajaaDoorBCut
namespace Go.Proofs.YtlpdilkenbjajaaDoor.bits
open Go.RowKit Go.ChangeShapes

def goesOn : Value → Value → Nat
  | .string x, .bool true => x.size + 1
  | _, _ => 0

set_option maxHeartbeats 1000000 in
theorem parse_any (t : ByteArray) (ht : t.size ≤ 1048576) (w : World) (hE : Errs w) (hg : 3 < w.heap.size ∧ 4 < w.heap.size ∧ 2 < w.heap.size) :
    Calls Tryd.prog 4 #[.string t] w fun e w' => e = .returned (.tuple #[.int .u64 (((prog t.data.toList).1 : Nat) : Int), .bool (prog t.data.toList).2]) ∧ Below w.heap.size w w' := by
  by_cases h45 : t.data.toList = [45]
  · obtain rfl : t = ⟨#[45]⟩ := WideShapes.bytes_inj h45
    have hp : prog (ByteArray.mk #[45]).data.toList = (0, true) := by unfold prog; rw [if_pos h45]
    rw [hp]
    clear hp h45 hE
    go_enter Tryd.func4, Tryd.ntmps4
    go_wp2
    go_ret2
    exact ⟨rfl, Below.refl _ _⟩
  · have hq : (t.toList == [45]) = false := by rw [ByteArray.toList_eq, beq_eq_false_iff_ne]; exact h45
    have hp : prog t.data.toList = run (parts t.data.toList) 0 (-1) := by unfold prog; rw [if_neg h45]
    rw [hp]
    clear hp h45
    have HE := Lib.hid hE
    clear hE
    obtain ⟨R, hR⟩ : ∃ R, run (parts t.data.toList) 0 (-1) = R := ⟨_, rfl⟩
    rw [hR]
    have HR := Lib.hid hR
    clear hR
    go_enter Tryd.func4, Tryd.ntmps4
    go_wp2
    have H0 : Hid ((true = true ∧ run (parts t.data.toList) 0 (-1) = R) ∨ (true = false ∧ R = (0, true))) := Lib.hid (.inl ⟨rfl, HR.out⟩)
    clear HR
    go_loopw [0, 4, 5, 6] (fun tv sv lv mv wr => ∃ (x : ByteArray) (y : Nat) (z : Int) (m : Bool), tv = .string x ∧ sv = .int .u64 (y : Int) ∧ lv = .int .i64 z ∧ mv = .bool m ∧ x.size ≤ 1048576 ∧ Is64 y ∧ (-1 ≤ z ∧ z < 64) ∧
      Hid ((m = true ∧ run (parts x.data.toList) y z = R) ∨ (m = false ∧ R = (y, true))) ∧ Below w.heap.size w wr) (fun tv _ _ mv _ => goesOn tv mv)
    case atStart => exact ⟨t, 0, -1, true, rfl, rfl, rfl, rfl, ht, by unfold Is64; omega, by omega, H0, Below.refl _ _⟩
    case round =>
      obtain ⟨x, y, z, m, rfl, rfl, rfl, rfl, hx, hy, hz, HR, hb⟩ := hrel
      have HB := Lib.hid hb
      have HEr := Lib.hid (HE.out.below hb hg)
      clear hb
      cases m
      · have HRe : Hid (R = (y, true)) := Lib.hid (by
          rcases HR.out with ⟨h, _⟩ | ⟨_, h⟩
          · cases h
          · exact h)
        obtain rfl := HRe.out
        clear HR HRe
        go_wp2
        go_ret2
        exact ⟨rfl, HB.out⟩
      · have HRr : Hid (run (parts x.data.toList) y z = R) := Lib.hid (by
          rcases HR.out with ⟨_, h⟩ | ⟨h, _⟩
          · exact h
          · cases h)
        clear HR
        have hge := Lib.indexByte_ge x.data.toList 44
        have hxl : x.data.toList.length = x.size := by rw [Array.length_toList]; rfl
        by_cases hi : Lib.indexByte x.data.toList 44 = -1
        · have HC := fun u => Lib.hid (cut_no x hi u)
          have hr := HRr.out
          rw [cut_none hi, run] at hr
          have HN := fun u hu => Lib.hid (number_any x hx u hu)
          have hpn := pnum_ge x.data.toList
          by_cases hle : pnum x.data.toList ≤ z
          · rw [if_pos hle] at hr
            subst hr
            clear hi hge hxl
            generalize pnum x.data.toList = n at *
            go_wp2_with fail
            refine (HC _).out.mono ?_
            rintro e w1 ⟨rfl, hb1⟩
            have HB1 := Lib.hid (HB.out.trans (hb1.mono HB.out.size))
            clear hb1
            go_wp2_with fail
            refine (HN _ (HE.out.below HB1.out hg)).out.mono ?_
            rintro e w2 ⟨rfl, hb2⟩
            have HB2 := Lib.hid (HB1.out.trans (hb2.mono HB1.out.size))
            clear hb2
            go_wp2
            go_ret2
            exact ⟨rfl, HB2.out⟩
          · rw [if_neg hle, run] at hr
            have HRN : Hid (R = (wth y (pnum x.data.toList), true)) := Lib.hid hr.symm
            have hw := wth_lt hy (pnum x.data.toList)
            clear hi hge hxl hr HRr
            generalize pnum x.data.toList = n at *
            go_wp2_with fail
            refine (HC _).out.mono ?_
            rintro e w1 ⟨rfl, hb1⟩
            have HB1 := Lib.hid (HB.out.trans (hb1.mono HB.out.size))
            clear hb1
            go_wp2_with fail
            refine (HN _ (HE.out.below HB1.out hg)).out.mono ?_
            rintro e w2 ⟨rfl, hb2⟩
            have HB2 := Lib.hid (HB1.out.trans (hb2.mono HB1.out.size))
            clear hb2
            go_wp2_with fail
            refine (with_any y hy n _).mono ?_
            rintro e w3 ⟨rfl, rfl⟩
            go_wp2
            go_roundw
            case rel => exact ⟨⟨#[]⟩, _, n, false, rfl, rfl, rfl, rfl, by decide, hw, by omega, Lib.hid (.inr ⟨rfl, HRN.out⟩), HB2.out⟩
            case measure => simp [goesOn]
        · obtain ⟨o, ho⟩ : ∃ o : Nat, Lib.indexByte x.data.toList 44 = (o : Int) := ⟨(Lib.indexByte x.data.toList 44).toNat, by omega⟩
          obtain ⟨hol, hpt⟩ := cut_some ho
          have hox : o < x.size := by omega
          have HC := fun u => Lib.hid (cut_at x o ho hox hx u)
          have hr := HRr.out
          have e1 : (x.extract 0 o).data.toList = x.data.toList.take o := by rw [Lib.extract_data, List.drop_zero, Nat.sub_zero]
          have e2 : (x.extract (o + 1) x.size).data.toList = x.data.toList.drop (o + 1) := by
            rw [Lib.extract_data]
            exact List.take_of_length_le (by rw [List.length_drop]; omega)
          have s1 : (x.extract 0 o).size ≤ 1048576 := by
            have h : (x.extract 0 o).data.toList.length = (x.extract 0 o).size := by rw [Array.length_toList]; rfl
            rw [e1, List.length_take] at h
            omega
          have s2 : (x.extract (o + 1) x.size).size < x.size := by
            have h : (x.extract (o + 1) x.size).data.toList.length = (x.extract (o + 1) x.size).size := by rw [Array.length_toList]; rfl
            rw [e2, List.length_drop] at h
            omega
          rw [hpt, run, ← e1, ← e2] at hr
          have HN := fun u hu => Lib.hid (number_any (x.extract 0 o) s1 u hu)
          have hpn := pnum_ge (x.extract 0 o).data.toList
          clear e1 e2 hpt hol ho hi hge hxl HRr s1
          generalize x.extract 0 o = h0 at *
          generalize x.extract (o + 1) x.size = h1 at *
          by_cases hle : pnum h0.data.toList ≤ z
          · rw [if_pos hle] at hr
            subst hr
            generalize pnum h0.data.toList = n at *
            go_wp2_with fail
            refine (HC _).out.mono ?_
            rintro e w1 ⟨rfl, hb1⟩
            have HB1 := Lib.hid (HB.out.trans (hb1.mono HB.out.size))
            clear hb1
            go_wp2_with fail
            refine (HN _ (HE.out.below HB1.out hg)).out.mono ?_
            rintro e w2 ⟨rfl, hb2⟩
            have HB2 := Lib.hid (HB1.out.trans (hb2.mono HB1.out.size))
            clear hb2
            go_wp2
            go_ret2
            exact ⟨rfl, HB2.out⟩
          · rw [if_neg hle] at hr
            have HRN : Hid (run (parts h1.data.toList) (wth y (pnum h0.data.toList)) (pnum h0.data.toList) = R) := Lib.hid hr
            have hw := wth_lt hy (pnum h0.data.toList)
            clear hr
            generalize pnum h0.data.toList = n at *
            go_wp2_with fail
            refine (HC _).out.mono ?_
            rintro e w1 ⟨rfl, hb1⟩
            have HB1 := Lib.hid (HB.out.trans (hb1.mono HB.out.size))
            clear hb1
            go_wp2_with fail
            refine (HN _ (HE.out.below HB1.out hg)).out.mono ?_
            rintro e w2 ⟨rfl, hb2⟩
            have HB2 := Lib.hid (HB1.out.trans (hb2.mono HB1.out.size))
            clear hb2
            go_wp2_with fail
            refine (with_any y hy n _).mono ?_
            rintro e w3 ⟨rfl, rfl⟩
            go_wp2
            go_roundw
            case rel => exact ⟨h1, _, n, true, rfl, rfl, rfl, rfl, by omega, hw, by omega, Lib.hid (.inl ⟨rfl, HRN.out⟩), HB2.out⟩
            case measure => simp [goesOn]; omega
end Go.Proofs.YtlpdilkenbjajaaDoor.bits
