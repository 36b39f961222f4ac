/-
  The document's own frames behind a return, and behind any call. At most nine hundred frames, each of twenty-seven numbers.
-/
import Derived.Test.YtlkcpplpjjbiaaaFRefTurn
import Derived.StillTailTactics
import Derived.BigQuiet
import Derived.Deep.QuietTactic
namespace Go.Proofs.Ytlkcpplpjjbiaaa.frames
open Go.RowKit Go.ChangeShapes
open Go.Proofs.Ytlkcpplpjjbiaaa.nums (NAt)
set_option linter.unusedVariables false
set_option linter.unusedSimpArgs false

/-- Frames, what was returned, and true; nil, 0 and false: there are none. -/
def RetPost (x : Option (List Fr × Int)) (w : World) (e : Ending) (w' : World) : Prop :=
  Below w.heap.size w w' ∧ match x with
  | none => e = .returned (.tuple #[.slice none 0 0, .int .i64 0, .bool false])
  | some (l, v) => ∃ A c, e = .returned (.tuple #[.slice A l.length c, .int .i64 v, .bool true]) ∧ In w' A c l
theorem below_drewN' {B : Nat} {a w : World} (h : Below B a w) (n : Nat) : Below B a (w.drewN n) := ⟨h.os, h.tape, h.output, h.size, h.block⟩
theorem pop_one {l x : List Fr} {a : List Int} (h : popF l 1 = some (x, a)) : l.length ≠ 0 ∧ ∃ v, a = [v] := by
  unfold popF at h
  split at h
  · cases h
  · rename_i hc
    have ha := congrArg Prod.snd (Option.some.inj h)
    dsimp only at ha
    exact ⟨fun e => hc (.inl e), _, ha.symm⟩

end Go.Proofs.Ytlkcpplpjjbiaaa.frames
