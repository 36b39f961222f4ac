/-
  The document's own frames with another local, or at another place. At most a thousand frames, each of twenty-seven numbers.
-/
import Derived.Test.YtlkcpplpjjbiaaaFRefPush
namespace Go.Proofs.Ytlkcpplpjjbiaaa.frames
open Go.RowKit Go.ChangeShapes
open Go.Proofs.Ytlkcpplpjjbiaaa.word (low refLow_any)
set_option linter.unusedVariables false
set_option linter.unusedSimpArgs false

/-- Frames. -/
def FrsPost (x : List Fr) (w : World) (e : Ending) (w' : World) : Prop :=
  ∃ A c, e = .returned (.slice A x.length c) ∧ In w' A c x ∧ Below w.heap.size w w'

end Go.Proofs.Ytlkcpplpjjbiaaa.frames
