/-
  What a call makes of frames, by the document. At most nine hundred frames, each of twenty-seven numbers.
-/
import Derived.Test.YtlkcpplpjjbiaaaFRefRet
namespace Go.Proofs.Ytlkcpplpjjbiaaa.frames
open Go.RowKit Go.ChangeShapes
set_option linter.unusedVariables false
set_option linter.unusedSimpArgs false

end Go.Proofs.Ytlkcpplpjjbiaaa.frames
