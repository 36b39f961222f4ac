/-
  The document's own answer whether an object is of a kind that a letter stands for, and the names of kinds. No condition.
-/
import Derived.Test.YtjlmgoaglpkhoaaDRefFits
namespace Go.Proofs.Ytjlmgoaglpkhoaa.objs
open Go.RowKit Go.ChangeShapes
open Go.Proofs.Ytjlmgoaglpkhoaa.word (Word)
set_option linter.unusedVariables false

theorem contains_at {ks : List Int} {x : Int} {j : Nat} (hj : j < ks.length) (h : ks.getD j 0 = x) : ks.contains x = true := by
  rw [List.contains_iff_mem]
  rw [List.getD_eq_getElem?_getD, List.getElem?_eq_getElem hj, Option.getD_some] at h
  rw [← h]
  exact List.getElem_mem hj
theorem contains_no {ks : List Int} {x : Int} (h : ∀ k, k < ks.length → ks.getD k 0 ≠ x) : ks.contains x = false := by
  cases hc : ks.contains x with
  | false => rfl
  | true =>
    rw [List.contains_iff_mem] at hc
    obtain ⟨k, hk, e⟩ := List.getElem_of_mem hc
    exact absurd (by rw [List.getD_eq_getElem?_getD, List.getElem?_eq_getElem hk, Option.getD_some]; exact e) (h k hk)
theorem KAt.next {w w' : World} {A : Option Addr} {ks : List Int} (h : KAt w A ks) (hb : Below w.heap.size w w') : KAt w' A ks := fun j hj => by
  obtain ⟨b, h1, h2⟩ := h j hj
  refine ⟨b, h1, ?_⟩
  have hlt : b < w.heap.size := by
    rcases Nat.lt_or_ge b w.heap.size with h3 | h3
    · exact h3
    · simp [World.cell?, Array.getElem?_eq_none h3] at h2
  exact (hb.cell (p := ⟨b, j, none⟩) hlt).trans h2
theorem KAt.drewN {w : World} {A : Option Addr} {ks : List Int} (h : KAt w A ks) (n : Nat) : KAt (w.drewN n) A ks := fun j hj => by
  obtain ⟨b, h1, h2⟩ := h j hj
  exact ⟨b, h1, by simpa using h2⟩
theorem kinds_le (c : UInt8) : (kindsOf c).length ≤ 2 := by
  unfold kindsOf
  split
  · decide
  · split
    · decide
    · split
      · decide
      · split
        · decide
        · split
          · decide
          · split
            · decide
            · split
              · decide
              · split <;> decide
theorem below_drewN {B : Nat} {a w : World} (h : Below B a w) : ∀ n, Below B a (w.drewN n)
  | 0 => h
  | n + 1 => (below_drewN h n).drew

set_option maxRecDepth 100000 in
set_option maxHeartbeats 4000000 in
theorem refFits_in (A : Option Addr) (cap : Nat) (l : List De) (c : UInt8) (m : Nat) (hm : m < l.length) (hl : l.length ≤ 9223372036854775807) (w : World) (hA : DAt w A l) :
    Calls Try.prog 32 #[.slice A l.length cap, .int .u8 (c.toNat : Int), .int .i64 (m : Int)] w fun e w' => e = .returned (.bool (fits l c m)) ∧ Below w.heap.size w w' := by
  have HK := Lib.hid (refKinds_any c w)
  have HF : Hid (fits l c m = (kindsOf c).contains (l.getD m zero).1) := Lib.hid (by unfold fits; rw [decide_eq_true (by omega), Bool.true_and, Int.toNat_natCast])
  obtain ⟨b, off, rfl, hb, c0, _, _⟩ := hA m hm
  have h2 := kinds_le c
  rw [HF.out]
  unfold KindsPost at HK
  clear hA HF
  generalize kindsOf c = ks at *
  generalize (l.getD m zero).1 = x at *
  go_enter Try.func32, Try.ntmps32
  go_wp2_with fail
  refine HK.out.mono ?_
  rintro e w1 ⟨B, rfl, hk, hb1⟩
  have hc1 : w1.cell? ⟨b, off + m * 3, none⟩ = some (.int .i64 x) := (hb1.cell (p := ⟨b, off + m * 3, none⟩) hb).trans c0
  have HK1 := Lib.hid hk
  have HB1 := Lib.hid hb1
  clear HK hk hb1 c0
  have hm' : (m : Int) < (l.length : Int) := by omega
  have hm0 : (0 : Int) ≤ (m : Int) := by omega
  go_wp2_with fail
  go_loopw [8] (fun i wr => ∃ j : Nat, j ≤ ks.length ∧ i = .int .i64 (j : Int) ∧ Hid (∀ k, k < j → ks.getD k 0 ≠ x) ∧ Hid (KAt wr B ks ∧ Below w.heap.size w wr) ∧ wr.cell? ⟨b, off + m * 3, none⟩ = some (.int .i64 x)) (fun i _ => ks.length - (intOf i).toNat)
  case atStart => exact ⟨0, Nat.zero_le _, rfl, Lib.hid (fun k hk => absurd hk (Nat.not_lt_zero k)), Lib.hid ⟨HK1.out, HB1.out⟩, hc1⟩
  case round =>
    obtain ⟨j, hj, rfl, HO, HS, hc⟩ := hrel
    clear hc1
    by_cases hlt : j < ks.length
    · obtain ⟨g, rfl, hg⟩ := HS.out.1 j hlt
      have hlt' : (j : Int) < (ks.length : Int) := by omega
      by_cases hx : ks.getD j 0 = x
      · have HE := Lib.hid (contains_at hlt hx)
        rw [hx] at hg
        clear hx
        go_wp2_with fail
        go_quiet (fail)
        go_wp2
        go_ret
        exact ⟨ret_bool HE.out.symm, below_drewN HS.out.2 _⟩
      · have HE : Hid (∀ k, k < j + 1 → ks.getD k 0 ≠ x) := Lib.hid (fun k hk => by
          rcases Nat.lt_or_ge k j with h1 | h1
          · exact HO.out k h1
          · obtain rfl : k = j := by omega
            exact hx)
        have hx' : (x == ks.getD j 0) = false := by rw [beq_eq_false_iff_ne]; exact fun e => hx e.symm
        clear hx
        generalize ks.getD j 0 = y at *
        go_wp2_with fail
        go_quiet (fail)
        go_wp2
        go_roundw
        case rel => exact ⟨j + 1, by omega, by go_num, HE, Lib.hid ⟨HS.out.1.drewN _, below_drewN HS.out.2 _⟩, by simpa using hc⟩
        case measure => simp [intOf]; omega
    · obtain rfl : j = ks.length := by omega
      have HE := Lib.hid (contains_no HO.out)
      go_wp2_with fail
      go_ret
      exact ⟨ret_bool HE.out.symm, HS.out.2⟩

set_option maxRecDepth 100000 in
set_option maxHeartbeats 4000000 in
theorem refFits_out (A : Option Addr) (cap : Nat) (l : List De) (c : UInt8) (o : Int) (ho : o < 0 ∨ (l.length : Int) ≤ o) (hl : l.length ≤ 9223372036854775807) (w : World) :
    Calls Try.prog 32 #[.slice A l.length cap, .int .u8 (c.toNat : Int), .int .i64 o] w fun e w' => e = .returned (.bool (fits l c o)) ∧ Below w.heap.size w w' := by
  have HK := Lib.hid (refKinds_any c w)
  have HF : Hid (fits l c o = false) := Lib.hid (by unfold fits; rw [decide_eq_false (by omega), Bool.false_and])
  have h2 := kinds_le c
  rw [HF.out]
  unfold KindsPost at HK
  clear HF
  generalize kindsOf c = ks at *
  have hd : (0 ≤ o) → ¬ (o < (l.length : Int)) := fun h => by omega
  have HD := Lib.hid hd
  clear hd ho
  go_enter Try.func32, Try.ntmps32
  go_wp2_with fail
  refine HK.out.mono ?_
  rintro e w1 ⟨B, rfl, hk, hb1⟩
  have HB1 := Lib.hid hb1
  clear HK hk hb1
  go_wp2_with fail
  go_loopw [8] (fun i wr => i = .int .i64 0 ∧ Hid (Below w.heap.size w wr)) (fun i _ => 0)
  case atStart => exact ⟨rfl, HB1⟩
  case round =>
    obtain ⟨rfl, HB⟩ := hrel
    by_cases hk : ks.length = 0
    · go_wp2_with fail
      go_ret
      exact ⟨rfl, HB.out⟩
    · have hk' : (0 : Int) < (ks.length : Int) := by omega
      by_cases h0 : 0 ≤ o
      · have h1 : decide (o < (l.length : Int)) = false := by simpa using HD.out h0
        clear hk
        go_wp2_with fail
        go_ret
        exact ⟨rfl, HB.out⟩
      · have h1 : decide (0 ≤ o) = false := by simpa using h0
        clear hk
        go_wp2_with fail
        go_ret
        exact ⟨rfl, HB.out⟩
theorem refFits_any (A : Option Addr) (cap : Nat) (l : List De) (c : UInt8) (o : Int) (hl : l.length ≤ 9223372036854775807) (w : World) (hA : DAt w A l) :
    Calls Try.prog 32 #[.slice A l.length cap, .int .u8 (c.toNat : Int), .int .i64 o] w fun e w' => e = .returned (.bool (fits l c o)) ∧ Below w.heap.size w w' := by
  by_cases h : 0 ≤ o ∧ o < (l.length : Int)
  · obtain ⟨m, rfl⟩ : ∃ m : Nat, o = (m : Int) := ⟨o.toNat, by omega⟩
    exact refFits_in A cap l c m (by omega) hl w hA
  · exact refFits_out A cap l c o (by omega) hl w
end Go.Proofs.Ytjlmgoaglpkhoaa.objs
