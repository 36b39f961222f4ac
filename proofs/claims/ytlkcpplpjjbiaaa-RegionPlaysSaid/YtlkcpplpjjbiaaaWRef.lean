/-
  The document's own answers of words, each by itself: the word of the lowest bits, which numbers are words, a bit, two words bit by bit, a word that is moved, and what an operation comes to. No condition.
-/
import Derived.Test.YtlkcpplpjjbiaaaProg
import Derived.Test.YtlkcpplpjjbiaaaWPlain
import Derived.WalkKit
import Derived.ProofKit
import Derived.IntWalk
import Derived.LoopTactic
import Derived.Lib.Hide
import Derived.Outline
namespace Go.Proofs.Ytlkcpplpjjbiaaa.word
open Go.RowKit Go.ChangeShapes

theorem ret_int {k : IntKind} {a b : Int} (h : a = b) : Ending.returned (.int k a) = .returned (.int k b) := by rw [h]
theorem ret_bool {a b : Bool} (h : a = b) : Ending.returned (.bool a) = .returned (.bool b) := by rw [h]

set_option maxHeartbeats 400000 in
theorem refLow_any (n : Int) (w : World) :
    Calls Try.prog 63 #[.int .i64 n] w fun e w' => e = .returned (.int .i64 (low n)) ∧ w = w' := by
  have HL := Lib.hid (low_tmod n)
  have hr := tmod_range n
  by_cases h1 : 2147483648 ≤ n.tmod 4294967296
  · have HE : Hid (low n = n.tmod 4294967296 - 4294967296) := Lib.hid (by rw [HL.out, if_pos h1])
    go_enter Try.func63, Try.ntmps63
    go_wp2
    go_ret
    exact ⟨ret_int HE.out.symm, rfl⟩
  · by_cases h2 : n.tmod 4294967296 < -2147483648
    · have HE : Hid (low n = n.tmod 4294967296 + 4294967296) := Lib.hid (by rw [HL.out, if_neg h1, if_pos h2])
      go_enter Try.func63, Try.ntmps63
      go_wp2
      go_ret
      exact ⟨ret_int HE.out.symm, rfl⟩
    · have HE : Hid (low n = n.tmod 4294967296) := Lib.hid (by rw [HL.out, if_neg h1, if_neg h2])
      go_enter Try.func63, Try.ntmps63
      go_wp2
      go_ret
      exact ⟨ret_int HE.out.symm, rfl⟩

/-- Two numbers, as a call tells them. -/
def two (p : Int × Int) : Value := .tuple #[.int .i64 p.1, .int .i64 p.2]

end Go.Proofs.Ytlkcpplpjjbiaaa.word
