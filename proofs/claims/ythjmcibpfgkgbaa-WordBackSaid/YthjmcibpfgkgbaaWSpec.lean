/-
  What the program's calls on words must come to, as one bundle, so that the statements can be walked whatever the program's own text is; and the common end of all of them. No condition but that bundle.
-/
import Derived.Test.YthjmcibpfgkgbaaWRefHigh
namespace Go.Proofs.Ythjmcibpfgkgbaa.word
open Go.RowKit Go.ChangeShapes

/-- An int. -/
def I64 (n : Int) : Prop := -9223372036854775808 ≤ n ∧ n ≤ 9223372036854775807
theorem Word.i64 {n : Int} (h : Word n) : I64 n := by unfold Word at h; unfold I64; omega
/-- The program's calls come to what the document says, and leave memory as it was. -/
structure Keeps : Prop where
  low : ∀ n, I64 n → ∀ w, Calls Try.prog 12 #[.int .i64 n] w fun e w' => e = .returned (.int .i64 (low n)) ∧ w = w'
  fits : ∀ n, I64 n → ∀ w, Calls Try.prog 13 #[.int .i64 n] w fun e w' => e = .returned (.bool (decide (Word n))) ∧ w = w'
  does : ∀ op a b, I64 op → I64 a → I64 b → ∀ w, Calls Try.prog 8 #[.int .i64 op, .int .i64 a, .int .i64 b] w fun e w' => e = .returned (two (doW op (word.low a) (word.low b))) ∧ w = w'
  high : ∀ a b, I64 a → I64 b → ∀ w, Calls Try.prog 15 #[.int .i64 a, .int .i64 b] w fun e w' => e = .returned (.int .i64 (hi (word.low a) (word.low b))) ∧ w = w'

theorem five_in : doW 3 (low 2) (low 3) = (5, 0) := by decide +kernel
theorem great_in : doW 3 (low 2147483647) (low 1) = (0, 1) := by decide +kernel
theorem turned : low 2147483648 = -2147483648 := by decide +kernel

set_option maxHeartbeats 1000000 in
theorem lives_any (K : Keeps) (w : World) :
    Calls Try.prog 11 #[] w fun e w' => e = .returned (.bool true) ∧ w = w' := by
  have H1 := Lib.hid (K.does 3 2 3 (by unfold I64; omega) (by unfold I64; omega) (by unfold I64; omega) w)
  rw [five_in] at H1
  have H2 := Lib.hid (K.does 3 2147483647 1 (by unfold I64; omega) (by unfold I64; omega) (by unfold I64; omega) w)
  rw [great_in] at H2
  have H3 := Lib.hid (K.low 2147483648 (by unfold I64; omega) w)
  rw [turned] at H3
  unfold two at H1 H2
  go_enter Try.func11, Try.ntmps11
  go_wp2_with fail
  refine H1.out.mono ?_
  rintro e w1 ⟨rfl, rfl⟩
  go_wp2_with fail
  refine H2.out.mono ?_
  rintro e w1 ⟨rfl, rfl⟩
  go_wp2_with fail
  refine H3.out.mono ?_
  rintro e w1 ⟨rfl, rfl⟩
  go_wp2
  go_ret
  exact ⟨rfl, rfl⟩

set_option maxHeartbeats 1000000 in
theorem does_walk (K : Keeps) (op a b : Int) (ho : I64 op) (ha : I64 a) (hb : I64 b) (w : World) :
    Calls Try.prog 3 #[.int .i64 op, .int .i64 a, .int .i64 b] w fun e w' => e = .returned (.bool true) ∧ w = w' := by
  have H1 := Lib.hid (K.does op a b ho ha hb w)
  have H2 := Lib.hid (refDo_any op a b w)
  have H3 := Lib.hid (refFits_any (doW op (low a) (low b)).1 w)
  rw [show decide (Word (doW op (low a) (low b)).1) = true from by rw [decide_eq_true_iff]; exact doW_word (low_word a) op] at H3
  have HL := Lib.hid (lives_any K w)
  unfold two at H1 H2
  generalize doW op (low a) (low b) = p at *
  clear ho ha hb
  go_enter Try.func3, Try.ntmps3
  go_wp2_with fail
  refine H1.out.mono ?_
  rintro e w1 ⟨rfl, rfl⟩
  go_wp2_with fail
  refine H2.out.mono ?_
  rintro e w1 ⟨rfl, rfl⟩
  go_wp2_with fail
  refine H3.out.mono ?_
  rintro e w1 ⟨rfl, rfl⟩
  go_wp2_with fail
  refine HL.out.mono ?_
  rintro e w1 ⟨rfl, rfl⟩
  go_wp2
  go_ret
  exact ⟨rfl, rfl⟩

theorem near (a : Int) : (a.tmod 4294967296 - low a).tmod 4294967296 = 0 := by
  have h : (a.tmod 4294967296 - low a) % 4294967296 = 0 := by
    unfold low
    by_cases h0 : 0 ≤ a
    · rw [tmod_pos h0]; omega
    · rw [tmod_neg (by omega)]; omega
  by_cases h0 : 0 ≤ a.tmod 4294967296 - low a
  · rw [tmod_pos h0]; exact h
  · rw [tmod_neg (by omega)]; omega
theorem alike (a b : Int) : (low a == low b) = ((a.tmod 4294967296 - b.tmod 4294967296).tmod 4294967296 == 0) := by
  rw [Bool.eq_iff_iff, beq_iff_eq, beq_iff_eq, low_eq]
  have e : (a.tmod 4294967296 - b.tmod 4294967296) % 4294967296 = (a - b) % 4294967296 := by
    by_cases h0 : 0 ≤ a
    · by_cases h1 : 0 ≤ b
      · rw [tmod_pos h0, tmod_pos h1]; omega
      · rw [tmod_pos h0, tmod_neg (show b < 0 by omega)]; omega
    · by_cases h1 : 0 ≤ b
      · rw [tmod_neg (show a < 0 by omega), tmod_pos h1]; omega
      · rw [tmod_neg (show a < 0 by omega), tmod_neg (show b < 0 by omega)]; omega
  generalize a.tmod 4294967296 - b.tmod 4294967296 = d at *
  rw [← e]
  by_cases h0 : 0 ≤ d
  · rw [tmod_pos h0]
  · rw [tmod_neg (by omega)]; omega

set_option maxHeartbeats 2000000 in
theorem low_walk (K : Keeps) (a b : Int) (ha : I64 a) (hb : I64 b) (w : World) :
    Calls Try.prog 4 #[.int .i64 a, .int .i64 b] w fun e w' => e = .returned (.bool true) ∧ w = w' := by
  have HLA := Lib.hid (K.low a ha w)
  have HLB := Lib.hid (K.low b hb w)
  have HFA := Lib.hid (K.fits a ha w)
  have HRF := Lib.hid (refFits_any a w)
  have HRL := Lib.hid (refLow_any a w)
  have HLL := Lib.hid (K.low (low a) (low_word a).i64 w)
  have HFL := Lib.hid (K.fits (low a) (low_word a).i64 w)
  rw [low_low] at HLL
  rw [show decide (Word (low a)) = true from by rw [decide_eq_true_iff]; exact low_word a] at HFL
  have HL := Lib.hid (lives_any K w)
  have HN := Lib.hid (near a)
  have HA := Lib.hid (alike a b)
  have hr1 := tmod_range a
  have hr2 := tmod_range b
  have hw := low_word a
  unfold Word at hw
  generalize decide (Word a) = fa at *
  generalize low a = x at *
  generalize low b = y at *
  clear ha hb
  go_enter Try.func4, Try.ntmps4
  go_wp2_with fail
  refine HLA.out.mono ?_
  rintro e w1 ⟨rfl, rfl⟩
  go_wp2_with fail
  refine HFA.out.mono ?_
  rintro e w1 ⟨rfl, rfl⟩
  go_wp2_with fail
  refine HRF.out.mono ?_
  rintro e w1 ⟨rfl, rfl⟩
  go_wp2_with fail
  refine HRL.out.mono ?_
  rintro e w1 ⟨rfl, rfl⟩
  have hn := HN.out
  go_wp2_with fail
  refine HLL.out.mono ?_
  rintro e w1 ⟨rfl, rfl⟩
  go_wp2_with fail
  refine HFL.out.mono ?_
  rintro e w1 ⟨rfl, rfl⟩
  go_wp2_with fail
  refine HLA.out.mono ?_
  rintro e w1 ⟨rfl, rfl⟩
  go_wp2_with fail
  refine HLB.out.mono ?_
  rintro e w1 ⟨rfl, rfl⟩
  have hA := HA.out
  go_wp2_with fail
  refine HL.out.mono ?_
  rintro e w1 ⟨rfl, rfl⟩
  go_wp2
  go_ret
  exact ⟨rfl, rfl⟩
end Go.Proofs.Ythjmcibpfgkgbaa.word
