/-
  Package span: a number that is read, held below two to the thirty-first, and whether a number lies in a span ; what is wrong with how many there are (typed over the code of 4b95722). A text of at most two to the forty-seventh bytes.
-/
import Derived.Test.YtjlmgoaglpkhoaaInNum
import Derived.LoopTactic
import Derived.Outline
namespace Go.Proofs.Ytjlmgoaglpkhoaa.span
open Go.RowKit Go.ChangeShapes
open Go.Proofs.Ytjlmgoaglpkhoaa.octet (St Frm rdNum)
set_option linter.unusedVariables false

theorem ret_int {k : IntKind} {a b : Int} (h : a = b) : Ending.returned (.int k a) = .returned (.int k b) := by rw [h]
theorem within_any (v lo hi : Int) (w : World) : Calls Try.prog 14 #[.int .i64 v, .int .i64 lo, .int .i64 hi] w fun e w' => e = .returned (.bool (decide (lo ≤ v ∧ v ≤ hi))) ∧ w = w' := by
  by_cases h1 : lo ≤ v
  · by_cases h2 : v ≤ hi
    · rw [decide_eq_true ⟨h1, h2⟩]
      go_enter Try.func14, Try.ntmps14
      go_wp2
      go_ret
      exact ⟨rfl, rfl⟩
    · rw [decide_eq_false (fun h => h2 h.2)]
      have hd : decide (v ≤ hi) = false := by simpa using h2
      go_enter Try.func14, Try.ntmps14
      go_wp2
      go_ret
      exact ⟨rfl, rfl⟩
  · rw [decide_eq_false (fun h => h1 h.1)]
    have hd : decide (lo ≤ v) = false := by simpa using h1
    go_enter Try.func14, Try.ntmps14
    go_wp2
    go_ret
    exact ⟨rfl, rfl⟩

/-- A number as it is read here: a great one is two to the thirty-first less one. -/
def pN (s : St) : Int × St := (((min (rdNum s).1 2147483647 : Nat) : Int), (rdNum s).2)
/-- What is wrong with how many there are, where there may be as many as m. -/
def cntC (n m : Nat) : Nat := if n = 0 then 2 else if m < n then 4 else 0
end Go.Proofs.Ytjlmgoaglpkhoaa.span
