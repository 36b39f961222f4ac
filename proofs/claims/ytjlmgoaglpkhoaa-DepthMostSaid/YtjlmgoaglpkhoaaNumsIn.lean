/-
  Lists of numbers, and of yes and no, that came in, as they lie in memory. No condition.
-/
import Derived.Test.YtjlmgoaglpkhoaaNums
import Derived.Deep.Slices
import Derived.OpenShut
import Derived.ChangeArms
import Derived.Carry
import Derived.WideKeyArgs
namespace Go.Proofs.Ytjlmgoaglpkhoaa.nums
open Go.ChangeShapes Go.WideShapes Go.RowKit
set_option linter.unusedVariables false

theorem cellsInt : Try.prog.cellsOf 3 = 1 := by kernel_rfl
theorem cellsBool : Try.prog.cellsOf 4 = 1 := by kernel_rfl
/-- A list of yes and no, from where a slice begins. -/
def YsAt (w : World) (A : Option Addr) (l : List Bool) : Prop := ∀ j, j < l.length → ∃ b off, A = some ⟨b, off, none⟩ ∧ b < w.heap.size ∧ w.cell? ⟨b, off + j, none⟩ = some (.bool (l.getD j false))
theorem YsAt.next {w w' : World} {A : Option Addr} {l : List Bool} (h : YsAt w A l) (hb : Below w.heap.size w w') : YsAt w' A l := fun j hj => by
  obtain ⟨b, off, h1, h2, h3⟩ := h j hj
  exact ⟨b, off, h1, Nat.lt_of_lt_of_le h2 hb.size, (hb.cell (p := ⟨b, off + j, none⟩) h2).trans h3⟩
theorem YsAt.nil (w : World) (A : Option Addr) : YsAt w A [] := fun j hj => absurd hj (Nat.not_lt_zero j)

/-- Is it a yes? -/
def isYes : Value → Bool
  | .bool b => b
  | _ => false

section
variable {H : Type} {enc : TypeId × Value → H} {w : World} {base : Nat} {spare : Nat → Bool} {held : Bool}
/-- A list of numbers: nil, or its numbers in their order. -/
theorem open_nums {fuel : Nat} {cs : List Value} {x : DataW H × List MemPlace} (h : DataW.trod enc Try.prog w base spare held fuel 30 cs = some x) :
    ∃ (A : Option Addr) (n cap : Nat) (l : List Int), cs = [.slice A n cap] ∧ (A = none → n = 0 ∧ cap = 0) ∧ n ≤ cap ∧ cap ≤ 9223372036854775807 ∧ l.length = n ∧ NAt w A l ∧ ∀ z ∈ l, (Lit.int .i64 z).wf = true := by
  rcases open_ints Try.underlying30 Try.underlying3 cellsInt h with ⟨hcs, hx⟩ | ⟨a, len, cap, zs, hcs, _, hl, hm, hz, hx, hcell, hwz⟩
  · exact ⟨none, 0, 0, [], hcs, fun _ => ⟨rfl, rfl⟩, Nat.le_refl _, by omega, rfl, NAt.nil _ _, fun z hz => by cases hz⟩
  · have hm' : cap ≤ 9223372036854775807 := by simpa [maxLen] using hm
    have hzl : len ≤ zs.length := by rw [hz]; split <;> omega
    refine ⟨some a, len, cap, zs.take len, hcs, fun h => (by cases h), hl, hm', by rw [List.length_take]; omega, fun j hj => ?_, fun z hz => hwz z (List.mem_of_mem_take hz)⟩
    rw [List.length_take] at hj
    obtain ⟨b, off, spot⟩ := a
    have hspot : spot = none := by simpa [Addr.add] using World.cell?_spot (hcell 0 (by omega))
    subst hspot
    have hbW : b < w.heap.size := World.block_lt_of_cell? w _ (hcell 0 (by omega))
    have h1 := hcell j (by omega)
    rw [add_plain] at h1
    refine ⟨b, off, rfl, hbW, h1.trans ?_⟩
    rw [List.getD_eq_getElem?_getD, List.getD_eq_getElem?_getD, List.getElem?_take_of_lt (by omega)]
/-- A list of yes and no. -/
theorem open_yes {fuel : Nat} {cs : List Value} {x : DataW H × List MemPlace} (h : DataW.trod enc Try.prog w base spare held fuel 27 cs = some x) :
    ∃ (A : Option Addr) (n cap : Nat) (l : List Bool), cs = [.slice A n cap] ∧ (A = none → n = 0 ∧ cap = 0) ∧ n ≤ cap ∧ cap ≤ 9223372036854775807 ∧ l.length = n ∧ YsAt w A l := by
  rcases Go.Deep.open_slice1 Try.underlying27 cellsBool h with ⟨hcs, hx⟩ | ⟨a, len, cap, m, n, V, D, Pl, hcs, _, hl, hm, hz, hx, hcell⟩
  · exact ⟨none, 0, 0, [], hcs, fun _ => ⟨rfl, rfl⟩, Nat.le_refl _, by omega, rfl, YsAt.nil _ _⟩
  · have hm' : cap ≤ 9223372036854775807 := by simpa [maxLen] using hm
    have hzl : len ≤ m := by rw [hz]; split <;> omega
    refine ⟨some a, len, cap, (List.range len).map fun i => isYes (V i), hcs, fun h => (by cases h), hl, hm', by simp, fun j hj => ?_⟩
    have hj2 : j < len := by simpa using hj
    obtain ⟨h1, h2⟩ := hcell j (by omega)
    obtain ⟨b1, e1, _⟩ := DataW.trod_bool Try.underlying4 h2
    simp only [List.cons.injEq, and_true] at e1
    obtain ⟨b, off, spot⟩ := a
    have hspot : spot = none := by simpa [Addr.add] using World.cell?_spot (hcell 0 (by omega)).1
    subst hspot
    have hbW : b < w.heap.size := World.block_lt_of_cell? w _ (hcell 0 (by omega)).1
    rw [add_plain] at h1
    refine ⟨b, off, rfl, hbW, h1.trans ?_⟩
    rw [List.getD_eq_getElem?_getD, List.getElem?_map, List.getElem?_range hj2]
    show some (V j) = some (Value.bool (isYes (V j)))
    rw [e1]
    rfl
end
end Go.Proofs.Ytjlmgoaglpkhoaa.nums
