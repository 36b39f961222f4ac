/-
  What a row's condition on the one table by which the least of a set is found gives, and that the door's own heap meets it. No condition.
-/
import Derived.Test.YtjedinodopcdaaaDoorRows
import Derived.Test.YtjedinodopcdaaaDoorBOkt
import Derived.Below
import Derived.ChangeSame
import Derived.Carry
import Derived.ProofKit
import Derived.LaidMore
import Derived.OpenShut
import Derived.Stop.Joined
import Derived.Lib.LaidTab
namespace Go.Proofs.YtjedinodopcdaaaDoor.bits.one
open Go.RowKit Go.WideShapes Go.ChangeShapes
open Go.Proofs.YtjedinodopcdaaaDoor.bits (Tab)
set_option linter.unusedVariables false

/-- The table that each of these rows lists. -/
def laidB : List (String × DataW Unit) := [("math/bits.deBruijn64tab", Rows.laid_math_bits_deBruijn64tab)]
theorem gTab : Tryd.prog.globalNamed "math/bits.deBruijn64tab" = some 0 := by kernel_rfl
theorem gTabType : (Tryd.prog.globals[0]?).map (·.type) = some 66 := by kernel_rfl
theorem tabCells : Tryd.prog.cellsOf 66 = 64 := by kernel_rfl
theorem byteCells : Tryd.prog.cellsOf 5 = 1 := by kernel_rfl
theorem tab_of_head {W : World} {rest : List (String × DataW Unit)} (h : laidMet Tryd.prog (("math/bits.deBruijn64tab", Rows.laid_math_bits_deBruijn64tab) :: rest) W) : Okt W := by
  have hT : Lib.TabIs Tryd.prog W "math/bits.deBruijn64tab" .u8 (Lib.deBruijn64tab.map fun n : Nat => (n : Int)) :=
    Lib.tabIs_of_head gTab gTabType Tryd.underlying66 Tryd.underlying5 byteCells tabCells (zs := Lib.deBruijn64tab.map fun n : Nat => (n : Int)) h
  have hc : Tab W := by
    intro j hj
    have h1 := hT.cell gTab j (by simpa [Lib.deBruijn64tab] using hj)
    rw [h1]
    congr 2
    have hj' : j < Lib.deBruijn64tab.length := hj
    simp [List.getD, List.getElem?_map, List.getElem?_eq_getElem hj']
  refine ⟨hc, ?_⟩
  have h0 := hc 0 (by omega)
  rcases Nat.lt_or_ge 0 W.heap.size with h1 | h1
  · exact h1
  · simp [World.cell?, Array.getElem?_eq_none h1] at h0
theorem of_laidB {W : World} (h : laidMetH Tryd.prog laidB W) : Okt W := by
  rw [MakeChecks.laidMetH_plain _ _ _ (by kernel_rfl)] at h
  exact tab_of_head h

/-- The door's own heap meets the condition: three closed facts. -/
theorem door_metB (os : Go.Os) (args : Array Value) : laidMetH Tryd.prog laidB ((World.doorLaid Tryd.prog 14 os).forCall (fun _ _ => 0) ⟨#[], args, []⟩).memory :=
  laidMetH_of_parts3 (fuel := 8) (laidMet_of_run' 8 (by kernel_rfl) (by kernel_rfl)) (by kernel_rfl) (by kernel_rfl)
end Go.Proofs.YtjedinodopcdaaaDoor.bits.one
