/-
  A list of objects that came in, and what a copy of it leaves. No condition.
-/
import Derived.Test.YtdmcmgcecdgegaaDMem
namespace Go.Proofs.Ytdmcmgcecdgegaa.objs
open Go.RowKit Go.ChangeShapes
set_option linter.unusedVariables false

/-- An int. -/
def I64 (n : Int) : Prop := -9223372036854775808 ≤ n ∧ n ≤ 9223372036854775807
def Ints (l : List De) : Prop := ∀ j, j < l.length → I64 (l.getD j zero).1 ∧ I64 (l.getD j zero).2.1 ∧ I64 (l.getD j zero).2.2
/-- A list that came in: of at most a hundred, or the first hundred of it. -/
def LIn (w : World) (A : Option Addr) (n cap : Nat) (l : List De) : Prop := (A = none → n = 0 ∧ cap = 0) ∧ n ≤ cap ∧ cap ≤ 9223372036854775807 ∧ DAt w A l ∧ Ints l ∧ l.length = min n 100
theorem own_new (W : World) : Own (W.alloc (.cells #[] 38)) W.heap.size (.slice (some ⟨W.heap.size, 0, none⟩) 0 0) [] := Own.empty (heap_alloc_new W _)
/-- Behind the copy: what is as it was, and the copy. -/
theorem own_copy {w W W2 : World} {A : Option Addr} {l : List De} {v2 : Value} {r : Option Nat} (hA : DAt w A l) (hb : Below w.heap.size w W) (h1 : Own W2 W.heap.size v2 l) (hg : (W.alloc (.cells #[] 38)).grownBy W2 r) (hr : ∀ k, r = some k → k = W.heap.size) :
    Below w.heap.size w W2 ∧ DAt W2 A l ∧ ∃ A2 c2, v2 = .slice A2 l.length c2 ∧ DAt W2 A2 l := by
  have hb2 : Below w.heap.size w W2 := (hb.alloc hb.size _).grown hg (by simp; have := hb.size; omega) (fun k e => by rw [hr k e]; exact hb.size)
  obtain ⟨A2, c2, rfl⟩ := h1.slice
  exact ⟨hb2, hA.next hb2, A2, c2, rfl, h1.at⟩

theorem DAt.two {w : World} {g : Nat} {d e : De} (h : w.heap[g]? = some (.cells #[.int .i64 d.1, .int .i64 d.2.1, .int .i64 d.2.2, .int .i64 e.1, .int .i64 e.2.1, .int .i64 e.2.2] 38 (0, 0))) : DAt w (some ⟨g, 0, none⟩) [d, e] := fun j hj => by
  have hj2 : j < 2 := hj
  refine ⟨g, 0, rfl, lt_of_block h, ?_⟩
  unfold CellsAt World.cell?
  rw [h]
  match j, hj2 with
  | 0, _ => exact ⟨rfl, rfl, rfl⟩
  | 1, _ => exact ⟨rfl, rfl, rfl⟩
end Go.Proofs.Ytdmcmgcecdgegaa.objs
