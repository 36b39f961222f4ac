/-
  Texts of one claim in one file: DRefRead2. Each has its own sentence, with its conditions.
-/
import Derived.Test.YtnhoeboighndlaaGreatDoorYall19
/-
  The document's own answer of the objects that are read behind what was read ahead, and of those with which bytes begin. A text of at most two to the forty-seventh bytes.
-/
namespace Go.Proofs.YtnhoeboighndlaaGreatDoor.objs
open Go.RowKit Go.ChangeShapes
open Go.Proofs.YtnhoeboighndlaaGreatDoor.octet (St rdByte rdNum rdInt Stands rdNum_lt)
set_option linter.unusedVariables false

def readR (n : Nat) (S : St) : List De × St × Nat :=
  let p := rdL S n
  if p.2.2 ≠ 0 then ([], p.2.1, p.2.2)
  else if (chk p.1).2 ≠ 0 then ([], p.2.1, (chk p.1).2)
  else (p.1, p.2.1, 0)
theorem rdL_stop {s : St} {j : Nat} {q : List De × St × Nat} (h : rdL s j = q) (hq : q.2.2 ≠ 0) : ∀ k, j ≤ k → rdL s k = q := by
  intro k hk
  induction k with
  | zero =>
    obtain rfl : j = 0 := by omega
    exact h
  | succ k ih =>
    rcases Nat.eq_or_lt_of_le hk with e | e
    · subst e; exact h
    · have := ih (by omega)
      simp only [rdL, this]
      rw [if_pos hq]
theorem rdByte_lt (s : St) : (rdByte s).1 < 256 := by
  unfold rdByte
  split
  · omega
  · split
    · omega
    · exact UInt8.toNat_lt _

end Go.Proofs.YtnhoeboighndlaaGreatDoor.objs
