/-
  Two lists that lie in memory, held against each other: where both are one list they are found to be the same. No condition.
-/
import Derived.Test.YtlpdilkenbjajaaDoorBLives
import Derived.Deep.QuietTactic
import Derived.BigQuiet
namespace Go.Proofs.YtlpdilkenbjajaaDoor.bits
open Go.RowKit Go.ChangeShapes

theorem ListAt.below {B : Nat} {w w' : World} {g : Nat} {l : List Nat} (h : ListAt w g l) (hb : Below B w w') (hB : g < B) : ListAt w' g l := h.kept (hb.block g hB)

end Go.Proofs.YtlpdilkenbjajaaDoor.bits
