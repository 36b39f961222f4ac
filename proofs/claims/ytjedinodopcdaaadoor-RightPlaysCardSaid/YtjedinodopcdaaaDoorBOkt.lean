/-
  That the table by which the least of a set is found lies where it should, and stays. No condition.
-/
import Derived.Test.YtjedinodopcdaaaDoorBFirst
namespace Go.Proofs.YtjedinodopcdaaaDoor.bits.one
open Go.RowKit Go.ChangeShapes
open Go.Proofs.YtjedinodopcdaaaDoor.bits (Tab)

/-- The table lies where it should, below all that is made. -/
def Okt (w : World) : Prop := Tab w ∧ 0 < w.heap.size
theorem okt_mono (w w' : World) (h : Okt w) (hb : Below w.heap.size w w') : Okt w' := ⟨h.1.below hb h.2, Nat.lt_of_lt_of_le h.2 hb.size⟩
end Go.Proofs.YtjedinodopcdaaaDoor.bits.one
