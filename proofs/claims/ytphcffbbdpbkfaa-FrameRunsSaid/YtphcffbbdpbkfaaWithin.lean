/-
  Whether a number lies in a span (code of 392f5a9). No condition.
-/
import Derived.Test.YtphcffbbdpbkfaaProg
import Derived.WalkKit
import Derived.ProofKit
import Derived.IntWalk
import Derived.Outline
namespace Go.Proofs.Ytphcffbbdpbkfaa.within
open Go.RowKit Go.ChangeShapes
set_option linter.unusedVariables false

theorem within_any (v lo hi : Int) (w : World) : Calls Try.prog 20 #[.int .i64 v, .int .i64 lo, .int .i64 hi] w fun e w' => e = .returned (.bool (decide (lo ≤ v ∧ v ≤ hi))) ∧ w = w' := by
  by_cases h1 : lo ≤ v
  · by_cases h2 : v ≤ hi
    · rw [decide_eq_true ⟨h1, h2⟩]
      go_enter Try.func20, Try.ntmps20
      go_wp2
      go_ret
      exact ⟨rfl, rfl⟩
    · rw [decide_eq_false (fun h => h2 h.2)]
      have hd : decide (v ≤ hi) = false := by simpa using h2
      go_enter Try.func20, Try.ntmps20
      go_wp2
      go_ret
      exact ⟨rfl, rfl⟩
  · rw [decide_eq_false (fun h => h1 h.1)]
    have hd : decide (lo ≤ v) = false := by simpa using h1
    go_enter Try.func20, Try.ntmps20
    go_wp2
    go_ret
    exact ⟨rfl, rfl⟩
end Go.Proofs.Ytphcffbbdpbkfaa.within
