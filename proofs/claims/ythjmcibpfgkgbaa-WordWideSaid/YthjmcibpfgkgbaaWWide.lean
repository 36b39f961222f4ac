/-
  What was added is taken away again, a quotient times the divisor and the rest are the dividend; the highest and the lowest bits of a product are all of it; what is moved up and down again: walked over the bundle of what the program's calls come to.
-/
import Derived.Test.YthjmcibpfgkgbaaWSpec
import Derived.WalkLawsBesides
namespace Go.Proofs.Ythjmcibpfgkgbaa.word
open Go.RowKit Go.ChangeShapes

theorem mul_i64 (a b : Int) : I64 (low a * low b) := by
  have h := mul_bound (low_word a) (low_word b)
  unfold I64
  omega
theorem ex_yes {n : Int} (h : Word n) : ex n = (n, 0) := by unfold ex; rw [if_pos h]
theorem ex_no {n : Int} (h : ¬ Word n) : ex n = (0, 1) := by unfold ex; rw [if_neg h]

set_option maxHeartbeats 4000000 in
theorem wide_walk (K : Keeps) (a b : Int) (ha : I64 a) (hb : I64 b) (w : World) :
    Calls Try.prog 6 #[.int .i64 a, .int .i64 b] w fun e w' => e = .returned (.bool true) ∧ w = w' := by
  have HHI := Lib.hid (K.high a b ha hb w)
  have HRH := Lib.hid (refHigh_any a b w)
  have HLA := Lib.hid (K.low a ha w)
  have HLB := Lib.hid (K.low b hb w)
  have HLP := Lib.hid (K.low (low a * low b) (mul_i64 a b) w)
  have HFP := Lib.hid (K.fits (low a * low b) (mul_i64 a b) w)
  have HDO := Lib.hid (K.does 5 a b (by unfold I64; omega) ha hb w)
  have hhw := hi_word (low_word a) (low_word b)
  have HFH := Lib.hid (K.fits (hi (low a) (low b)) hhw.i64 w)
  rw [show decide (Word (hi (low a) (low b))) = true from by rw [decide_eq_true_iff]; exact hhw] at HFH
  have hm := mul_bound (low_word a) (low_word b)
  have HAL := Lib.hid (hi_low (low a * low b))
  have HL := Lib.hid (lives_any K w)
  have hlw := low_word (low a * low b)
  have HDW : Hid (doW 5 (low a) (low b) = ex (low a * low b)) := Lib.hid (by unfold doW; simp)
  rw [HDW.out] at HDO
  have HHE : Hid (hi (low a) (low b) = low a * low b / 4294967296) := Lib.hid rfl
  rw [← HHE.out] at HAL
  unfold Word at hhw hlw
  clear HDW HHE ha hb
  generalize hi (low a) (low b) = h at *
  generalize low (low a * low b) = l at *
  generalize low a = x at *
  generalize low b = y at *
  by_cases h0 : l < 0
  · rw [if_pos h0] at HAL
    have hle : -9223372036854775808 ≤ h * 4294967296 ∧ h * 4294967296 ≤ 9223372032559808512 := by omega
    have hsum : h * 4294967296 + (l + 4294967296) = x * y := HAL.out.symm
    by_cases hp : Word (x * y)
    · rw [ex_yes hp] at HDO
      rw [show decide (Word (x * y)) = true from by rw [decide_eq_true_iff]; exact hp] at HFP
      unfold two at HDO
      have HSUM := Lib.hid hsum
      clear hp HAL hsum
      go_enter Try.func6, Try.ntmps6
      go_wp2_with fail
      refine HHI.out.mono ?_
      rintro e w1 ⟨rfl, rfl⟩
      go_wp2_with fail
      refine HLA.out.mono ?_
      rintro e w1 ⟨rfl, rfl⟩
      go_wp2_with fail
      refine HLB.out.mono ?_
      rintro e w1 ⟨rfl, rfl⟩
      go_wp2_with fail
      refine HLP.out.mono ?_
      rintro e w1 ⟨rfl, rfl⟩
      go_wp2_with fail
      refine HDO.out.mono ?_
      rintro e w1 ⟨rfl, rfl⟩
      go_wp2_with fail
      refine HRH.out.mono ?_
      rintro e w1 ⟨rfl, rfl⟩
      have hsum := HSUM.out
      go_wp2_with fail
      refine HFH.out.mono ?_
      rintro e w1 ⟨rfl, rfl⟩
      go_wp2_with fail
      refine HFP.out.mono ?_
      rintro e w1 ⟨rfl, rfl⟩
      go_wp2_with fail
      refine HL.out.mono ?_
      rintro e w1 ⟨rfl, rfl⟩
      go_wp2
      go_ret
      exact ⟨rfl, rfl⟩
    · rw [ex_no hp] at HDO
      rw [show decide (Word (x * y)) = false from by rw [decide_eq_false_iff_not]; exact hp] at HFP
      unfold two at HDO
      have HSUM := Lib.hid hsum
      clear hp HAL hsum
      go_enter Try.func6, Try.ntmps6
      go_wp2_with fail
      refine HHI.out.mono ?_
      rintro e w1 ⟨rfl, rfl⟩
      go_wp2_with fail
      refine HLA.out.mono ?_
      rintro e w1 ⟨rfl, rfl⟩
      go_wp2_with fail
      refine HLB.out.mono ?_
      rintro e w1 ⟨rfl, rfl⟩
      go_wp2_with fail
      refine HLP.out.mono ?_
      rintro e w1 ⟨rfl, rfl⟩
      go_wp2_with fail
      refine HDO.out.mono ?_
      rintro e w1 ⟨rfl, rfl⟩
      go_wp2_with fail
      refine HRH.out.mono ?_
      rintro e w1 ⟨rfl, rfl⟩
      have hsum := HSUM.out
      go_wp2_with fail
      refine HFH.out.mono ?_
      rintro e w1 ⟨rfl, rfl⟩
      go_wp2_with fail
      refine HFP.out.mono ?_
      rintro e w1 ⟨rfl, rfl⟩
      go_wp2_with fail
      refine HL.out.mono ?_
      rintro e w1 ⟨rfl, rfl⟩
      go_wp2
      go_ret
      exact ⟨rfl, rfl⟩
  · rw [if_neg h0] at HAL
    have hle : -9223372036854775808 ≤ h * 4294967296 ∧ h * 4294967296 ≤ 9223372032559808512 := by omega
    have hsum : h * 4294967296 + l = x * y := HAL.out.symm
    by_cases hp : Word (x * y)
    · rw [ex_yes hp] at HDO
      rw [show decide (Word (x * y)) = true from by rw [decide_eq_true_iff]; exact hp] at HFP
      unfold two at HDO
      have HSUM := Lib.hid hsum
      clear hp HAL hsum
      go_enter Try.func6, Try.ntmps6
      go_wp2_with fail
      refine HHI.out.mono ?_
      rintro e w1 ⟨rfl, rfl⟩
      go_wp2_with fail
      refine HLA.out.mono ?_
      rintro e w1 ⟨rfl, rfl⟩
      go_wp2_with fail
      refine HLB.out.mono ?_
      rintro e w1 ⟨rfl, rfl⟩
      go_wp2_with fail
      refine HLP.out.mono ?_
      rintro e w1 ⟨rfl, rfl⟩
      go_wp2_with fail
      refine HDO.out.mono ?_
      rintro e w1 ⟨rfl, rfl⟩
      go_wp2_with fail
      refine HRH.out.mono ?_
      rintro e w1 ⟨rfl, rfl⟩
      have hsum := HSUM.out
      go_wp2_with fail
      refine HFH.out.mono ?_
      rintro e w1 ⟨rfl, rfl⟩
      go_wp2_with fail
      refine HFP.out.mono ?_
      rintro e w1 ⟨rfl, rfl⟩
      go_wp2_with fail
      refine HL.out.mono ?_
      rintro e w1 ⟨rfl, rfl⟩
      go_wp2
      go_ret
      exact ⟨rfl, rfl⟩
    · rw [ex_no hp] at HDO
      rw [show decide (Word (x * y)) = false from by rw [decide_eq_false_iff_not]; exact hp] at HFP
      unfold two at HDO
      have HSUM := Lib.hid hsum
      clear hp HAL hsum
      go_enter Try.func6, Try.ntmps6
      go_wp2_with fail
      refine HHI.out.mono ?_
      rintro e w1 ⟨rfl, rfl⟩
      go_wp2_with fail
      refine HLA.out.mono ?_
      rintro e w1 ⟨rfl, rfl⟩
      go_wp2_with fail
      refine HLB.out.mono ?_
      rintro e w1 ⟨rfl, rfl⟩
      go_wp2_with fail
      refine HLP.out.mono ?_
      rintro e w1 ⟨rfl, rfl⟩
      go_wp2_with fail
      refine HDO.out.mono ?_
      rintro e w1 ⟨rfl, rfl⟩
      go_wp2_with fail
      refine HRH.out.mono ?_
      rintro e w1 ⟨rfl, rfl⟩
      have hsum := HSUM.out
      go_wp2_with fail
      refine HFH.out.mono ?_
      rintro e w1 ⟨rfl, rfl⟩
      go_wp2_with fail
      refine HFP.out.mono ?_
      rintro e w1 ⟨rfl, rfl⟩
      go_wp2_with fail
      refine HL.out.mono ?_
      rintro e w1 ⟨rfl, rfl⟩
      go_wp2
      go_ret
      exact ⟨rfl, rfl⟩
end Go.Proofs.Ythjmcibpfgkgbaa.word
