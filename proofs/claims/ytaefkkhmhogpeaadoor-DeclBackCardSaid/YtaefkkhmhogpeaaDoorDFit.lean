/-
  The program's own answer whether an object is of a kind that a letter stands for (typed over the code of 392f5a9). No condition but that a list is no longer than an int can say.
-/
import Derived.Test.YtaefkkhmhogpeaaDoorDTab
namespace Go.Proofs.YtaefkkhmhogpeaaDoor.objs
open Go.RowKit Go.ChangeShapes
set_option linter.unusedVariables false

theorem fits_out {l : List De} {c : UInt8} {o : Int} (h : ¬ (0 ≤ o ∧ o < (l.length : Int))) : fits l c o = false := by
  unfold fits
  rw [decide_eq_false h, Bool.false_and]
theorem u8_of {c k : UInt8} (h : ((c.toNat : Int) == (k.toNat : Int)) = true) : c = k := by
  have h1 := eq_of_beq h
  exact UInt8.toNat_inj.1 (by omega)
theorem u8_not {c k : UInt8} (h : ((c.toNat : Int) == (k.toNat : Int)) = false) : c ≠ k := fun e => by
  subst e
  simp at h
theorem kinds_rest {c : UInt8} {x : Int} (h0 : ((c.toNat : Int) == 117) = false) (h1 : ((c.toNat : Int) == 115) = false) (h2 : ((c.toNat : Int) == 112) = false) (h3 : ((c.toNat : Int) == 99) = false) (h4 : ((c.toNat : Int) == 109) = false) (h5 : ((c.toNat : Int) == 98) = false) (h6 : ((c.toNat : Int) == 118) = false) (h7 : ((c.toNat : Int) == 113) = false) :
    (kindsOf c).contains x = false := by
  unfold kindsOf
  rw [if_neg (u8_not (k := 117) h0), if_neg (u8_not (k := 115) h1), if_neg (u8_not (k := 112) h2), if_neg (u8_not (k := 99) h3), if_neg (u8_not (k := 109) h4), if_neg (u8_not (k := 98) h5), if_neg (u8_not (k := 118) h6), if_neg (u8_not (k := 113) h7)]
  rfl
theorem kinds_one {c : UInt8} {x m : Int} (h : kindsOf c = [m]) : (x == m) = (kindsOf c).contains x := by rw [h, List.contains_cons, List.contains_nil, Bool.or_false]
theorem kinds_two {c : UInt8} {x m n : Int} (h : kindsOf c = [m, n]) : (x == m || x == n) = (kindsOf c).contains x := by rw [h, List.contains_cons, List.contains_cons, List.contains_nil, Bool.or_false]

set_option maxRecDepth 100000 in
set_option maxHeartbeats 2000000 in
theorem fit_any (A : Option Addr) (cap : Nat) (l : List De) (c : UInt8) (o : Int) (hl : l.length ≤ 9223372036854775807) (w : World) (hA : DAt w A l) :
    Calls Tryd.prog 28 #[.slice A l.length cap, .int .u8 (c.toNat : Int), .int .i64 o] w fun e w' => e = .returned (.bool (fits l c o)) ∧ w = w' := by
  by_cases h0 : o < 0
  · have HE : Hid (fits l c o = false) := Lib.hid (fits_out (by omega))
    rw [HE.out]
    have hd : decide (o < 0) = true := by simpa using h0
    clear hA h0
    go_enter Tryd.func28, Tryd.ntmps28
    go_wp2_with fail
    go_ret
    exact ⟨rfl, rfl⟩
  · have hd : decide (o < 0) = false := by simpa using h0
    by_cases h1 : (l.length : Int) ≤ o
    · have HE : Hid (fits l c o = false) := Lib.hid (fits_out (by omega))
      rw [HE.out]
      have hd2 : decide ((l.length : Int) ≤ o) = true := by simpa using h1
      clear hA h0 h1
      go_enter Tryd.func28, Tryd.ntmps28
      go_wp2_with fail
      go_ret
      exact ⟨rfl, rfl⟩
    · obtain ⟨m, rfl⟩ : ∃ m : Nat, o = (m : Int) := ⟨o.toNat, by omega⟩
      have hm : m < l.length := by omega
      have hd2 : decide ((l.length : Int) ≤ (m : Int)) = false := by simpa using h1
      have hm2 : (m : Int) < (l.length : Int) := by omega
      have hm0 : (0 : Int) ≤ (m : Int) := by omega
      have HF : Hid (fits l c m = (kindsOf c).contains (l.getD m zero).1) := Lib.hid (by unfold fits; rw [decide_eq_true (by omega), Bool.true_and, Int.toNat_natCast])
      rw [HF.out]
      obtain ⟨b, off, rfl, hb, c0, _, _⟩ := hA m hm
      generalize (l.getD m zero).1 = x at *
      clear hA h0 h1 HF
      go_enter Tryd.func28, Tryd.ntmps28
      go_wp2
      all_goals go_ret
      all_goals refine ⟨ret_bool ?_, rfl⟩
      all_goals first
        | exact (kinds_rest ‹_› ‹_› ‹_› ‹_› ‹_› ‹_› ‹_› ‹_›).symm
        | (have hq : c = 117 := u8_of (k := 117) ‹((c.toNat : Int) == 117) = true›; subst hq; first | exact kinds_one rfl | exact kinds_two rfl | (rw [← kinds_two (x := x) (m := 1) (n := 2) rfl]; simp [*]))
        | (have hq : c = 115 := u8_of (k := 115) ‹((c.toNat : Int) == 115) = true›; subst hq; exact kinds_one rfl)
        | (have hq : c = 112 := u8_of (k := 112) ‹((c.toNat : Int) == 112) = true›; subst hq; exact kinds_one rfl)
        | (have hq : c = 99 := u8_of (k := 99) ‹((c.toNat : Int) == 99) = true›; subst hq; exact kinds_one rfl)
        | (have hq : c = 109 := u8_of (k := 109) ‹((c.toNat : Int) == 109) = true›; subst hq; exact kinds_one rfl)
        | (have hq : c = 98 := u8_of (k := 98) ‹((c.toNat : Int) == 98) = true›; subst hq; exact kinds_one rfl)
        | (have hq : c = 118 := u8_of (k := 118) ‹((c.toNat : Int) == 118) = true›; subst hq; exact kinds_one rfl)
        | (have hq : c = 113 := u8_of (k := 113) ‹((c.toNat : Int) == 113) = true›; subst hq; first | exact kinds_two rfl | (rw [← kinds_two (x := x) (m := 1) (n := 6) rfl]; simp [*]))
end Go.Proofs.YtaefkkhmhogpeaaDoor.objs
