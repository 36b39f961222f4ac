/-
  The document's own answers of words that are moved, and of operations and products. No condition.
-/
import Derived.Test.YtlkcpplpjjbiaaaWRef
namespace Go.Proofs.Ytlkcpplpjjbiaaa.word
open Go.RowKit Go.ChangeShapes

theorem far_neg {b : Int} (h : b.tmod 32 < 0) : b.tmod 32 + 32 = (far b : Int) := by
  unfold far
  by_cases h0 : 0 ≤ b
  · rw [tmod_pos h0] at h; omega
  · rw [tmod_neg (by omega)] at h ⊢; omega
theorem far_pos {b : Int} (h : ¬ b.tmod 32 < 0) : b.tmod 32 = (far b : Int) := by
  unfold far
  by_cases h0 : 0 ≤ b
  · rw [tmod_pos h0]; omega
  · rw [tmod_neg (by omega)] at h ⊢; omega
theorem far_range (b : Int) : -32 < b.tmod 32 ∧ b.tmod 32 < 32 := by
  by_cases h0 : 0 ≤ b
  · rw [tmod_pos h0]; omega
  · rw [tmod_neg (by omega)]; omega

theorem mod_eq (a b : Int) : a - a.tdiv b * b = a.tmod b := by
  have h := Int.tmod_add_mul_tdiv a b
  rw [Int.mul_comm] at h
  omega
theorem tdiv_bound {a b : Int} (ha : Word a) : -2147483648 ≤ a.tdiv b ∧ a.tdiv b ≤ 2147483648 := by
  have h1 : (a.tdiv b).natAbs ≤ a.natAbs := by
    rw [Int.natAbs_tdiv]
    exact Nat.div_le_self _ _
  unfold Word at ha
  omega
theorem tdiv_mul_bound {a b : Int} (ha : Word a) : -4294967296 ≤ a.tdiv b * b ∧ a.tdiv b * b ≤ 4294967296 := by
  have h1 := mod_eq a b
  have h2 := tmod_word (b := b) ha
  unfold Word at *
  omega

end Go.Proofs.Ytlkcpplpjjbiaaa.word
