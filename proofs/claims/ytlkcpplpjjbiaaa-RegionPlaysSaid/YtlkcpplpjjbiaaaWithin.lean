/-
  Whether a number lies in a span (code of 392f5a9). No condition.
-/
import Derived.Test.YtlkcpplpjjbiaaaProg
import Derived.WalkKit
import Derived.ProofKit
import Derived.IntWalk
import Derived.Outline
namespace Go.Proofs.Ytlkcpplpjjbiaaa.within
open Go.RowKit Go.ChangeShapes
set_option linter.unusedVariables false

end Go.Proofs.Ytlkcpplpjjbiaaa.within
