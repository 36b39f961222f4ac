/-
  What a row's condition on the table of kinds' names gives, and that the door's own heap meets it. No condition.
-/
import Derived.Test.YtaefkkhmhogpeaaDoorShut
import Derived.Test.YtaefkkhmhogpeaaDoorDTab
import Derived.LaidMore
import Derived.Stop.Joined
import Derived.Lib.LaidTab
namespace Go.Proofs.YtaefkkhmhogpeaaDoor.objs
open Go.RowKit Go.WideShapes Go.ChangeShapes
open Go.Proofs.YtaefkkhmhogpeaaDoor.shut (cells_of_texts)

/-- The table that each of these rows lists. -/
def laidD : List (String × DataW Unit) := [("logjam/decl.names", Rows.laid_logjam_decl_names)]
theorem laid_names : (Rows.laid_logjam_decl_names : DataW Unit) = .agg (names.map fun z => .lit (.string z.data.toList)) := rfl
theorem gTabd : Tryd.prog.globalNamed "logjam/decl.names" = some 0 := by kernel_rfl
theorem gTabdType : (Tryd.prog.globals[0]?).map (·.type) = some 90 := by kernel_rfl
theorem tabdCells : Tryd.prog.cellsOf 90 = 8 := by kernel_rfl
theorem textCellsD : Tryd.prog.cellsOf 9 = 1 := by kernel_rfl
theorem tabd_of_head {W : World} {rest : List (String × DataW Unit)} (h : laidMet Tryd.prog (("logjam/decl.names", Rows.laid_logjam_decl_names) :: rest) W) : Tabd W ∧ 0 < W.heap.size := by
  obtain ⟨ps, ⟨g', t', cs, fuel, p, q, hg', ht', hvar, hd, _, _⟩, _⟩ := h
  obtain rfl := Option.some.inj (gTabd.symm.trans hg')
  obtain rfl := Option.some.inj (gTabdType.symm.trans ht')
  rw [laid_names] at hd
  have hcs := cells_of_texts Tryd.underlying90 Tryd.underlying9 textCellsD tabdCells hd
  have hc : Tabd W := by
    intro j hj
    have h1 := World.var?_cell gTabd hvar j
    have hj' : j < names.length := hj
    rw [h1, ← Array.getElem?_toList, hcs, List.getElem?_map, List.getElem?_eq_getElem hj', Option.map_some, List.getD_eq_getElem?_getD, List.getElem?_eq_getElem hj', Option.getD_some]
  refine ⟨hc, ?_⟩
  have h0 := hc 0 (by omega)
  rcases Nat.lt_or_ge 0 W.heap.size with h1 | h1
  · exact h1
  · simp [World.cell?, Array.getElem?_eq_none h1] at h0
theorem of_laidD {W : World} (h : laidMetH Tryd.prog laidD W) : Tabd W ∧ 0 < W.heap.size := by
  rw [MakeChecks.laidMetH_plain _ _ _ (by kernel_rfl)] at h
  exact tabd_of_head h

/-- The door's own heap meets the condition: three closed facts. -/
theorem door_metD (os : Os) (args : Array Value) : laidMetH Tryd.prog laidD ((World.doorLaid Tryd.prog 19 os).forCall (fun _ _ => 0) ⟨#[], args, []⟩).memory :=
  laidMetH_of_parts3 (fuel := 8) (laidMet_of_run' 8 (by kernel_rfl) (by kernel_rfl)) (by kernel_rfl) (by kernel_rfl)
end Go.Proofs.YtaefkkhmhogpeaaDoor.objs
