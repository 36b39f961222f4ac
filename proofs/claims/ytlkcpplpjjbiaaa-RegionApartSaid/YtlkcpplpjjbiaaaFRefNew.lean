/-
  The document's own first frame. At most a thousand arguments.
-/
import Derived.Test.YtlkcpplpjjbiaaaFStep
import Derived.Test.YtlkcpplpjjbiaaaWRef
import Derived.Test.YtlkcpplpjjbiaaaNums
namespace Go.Proofs.Ytlkcpplpjjbiaaa.frames
open Go.RowKit Go.ChangeShapes
open Go.Proofs.Ytlkcpplpjjbiaaa.nums (NAt)
open Go.Proofs.Ytlkcpplpjjbiaaa.word (low refLow_any)
set_option linter.unusedVariables false

theorem low_i64 (n : Int) : IntKind.i64.wrap (low n) = low n := by
  unfold low
  rw [IntKind.wrap_i64]
  omega

end Go.Proofs.Ytlkcpplpjjbiaaa.frames
