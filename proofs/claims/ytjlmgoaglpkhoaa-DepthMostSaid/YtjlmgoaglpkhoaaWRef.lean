/-
  The document's own answers of words, each by itself: the word of the lowest bits, which numbers are words, a bit, two words bit by bit, a word that is moved, and what an operation comes to. No condition.
-/
import Derived.Test.YtjlmgoaglpkhoaaProg
import Derived.Test.YtjlmgoaglpkhoaaWPlain
import Derived.WalkKit
import Derived.ProofKit
import Derived.IntWalk
import Derived.LoopTactic
import Derived.Lib.Hide
import Derived.Outline
namespace Go.Proofs.Ytjlmgoaglpkhoaa.word
open Go.RowKit Go.ChangeShapes

theorem ret_int {k : IntKind} {a b : Int} (h : a = b) : Ending.returned (.int k a) = .returned (.int k b) := by rw [h]
theorem ret_bool {a b : Bool} (h : a = b) : Ending.returned (.bool a) = .returned (.bool b) := by rw [h]

set_option maxHeartbeats 400000 in
theorem refFits_any (n : Int) (w : World) :
    Calls Try.prog 31 #[.int .i64 n] w fun e w' => e = .returned (.bool (decide (Word n))) ∧ w = w' := by
  by_cases h1 : -2147483648 ≤ n
  · by_cases h2 : n < 2147483648
    · have HE : Hid (decide (Word n) = true) := Lib.hid (by rw [decide_eq_true_iff]; unfold Word; omega)
      go_enter Try.func31, Try.ntmps31
      go_wp2
      go_ret
      exact ⟨ret_bool HE.out.symm, rfl⟩
    · have HE : Hid (decide (Word n) = false) := Lib.hid (by rw [decide_eq_false_iff_not]; unfold Word; omega)
      have hd : decide (n < 2147483648) = false := by simpa using h2
      go_enter Try.func31, Try.ntmps31
      go_wp2
      go_ret
      exact ⟨ret_bool HE.out.symm, rfl⟩
  · have HE : Hid (decide (Word n) = false) := Lib.hid (by rw [decide_eq_false_iff_not]; unfold Word; omega)
    have hd : decide (-2147483648 ≤ n) = false := by simpa using h1
    go_enter Try.func31, Try.ntmps31
    go_wp2
    go_ret
    exact ⟨ret_bool HE.out.symm, rfl⟩

/-- Two numbers, as a call tells them. -/
def two (p : Int × Int) : Value := .tuple #[.int .i64 p.1, .int .i64 p.2]

end Go.Proofs.Ytjlmgoaglpkhoaa.word
