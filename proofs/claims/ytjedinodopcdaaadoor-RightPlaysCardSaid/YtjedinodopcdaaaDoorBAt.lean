/-
  Lists of numbers that lie in a block, and the set of a list. No condition.
-/
import Derived.Test.YtjedinodopcdaaaDoorBList
import Derived.Test.YtjedinodopcdaaaDoorBText
namespace Go.Proofs.YtjedinodopcdaaaDoor.bits
open Go.RowKit Go.ChangeShapes

/-- The numbers lie in block g, one behind the other. -/
def ListAt (w : World) (g : Nat) (l : List Nat) : Prop := ∃ cur, w.heap[g]? = some (.cells cur 3 (0, 0)) ∧ ∀ (j x : Nat), l[j]? = some x → cur[j]? = some (.int .i64 (x : Int))
theorem ListAt.lt {w : World} {g : Nat} {l : List Nat} (h : ListAt w g l) : g < w.heap.size := by
  obtain ⟨_, h, _⟩ := h
  exact lt_of_block h
theorem ListAt.kept {w w' : World} {g : Nat} {l : List Nat} (h : ListAt w g l) (hk : w'.heap[g]? = w.heap[g]?) : ListAt w' g l := by
  obtain ⟨c, h1, h2⟩ := h
  exact ⟨c, hk.trans h1, h2⟩
theorem ListAt.cell {w : World} {g : Nat} {l : List Nat} (h : ListAt w g l) {j x : Nat} (hx : l[j]? = some x) : w.cell? ⟨g, j, none⟩ = some (.int .i64 (x : Int)) := by
  obtain ⟨c, h1, h2⟩ := h
  have := h2 j x hx
  simp [World.cell?, h1, this]
theorem listAt_of {w : World} {base n : Nat} {g cap : Nat} {l : List Nat} (h : w.ownsRow base 3 1 (.slice (some ⟨g, 0, none⟩) n cap) n (icells l)) : ListAt w g l ∧ base ≤ g := by
  obtain ⟨hl, h⟩ := h
  rcases h with ⟨h, _⟩ | ⟨g', cap', cur, hv, hg, hh, h1, h2, h3, h4⟩
  · cases h
  · injection hv with e1 e2 e3
    injection e1 with e1
    injection e1 with e1 _ _
    subst e1
    refine ⟨⟨cur, hh, fun j x hx => ?_⟩, hg⟩
    have hj : (icells l)[j]? = some (.int .i64 (x : Int)) := by
      unfold icells
      rw [List.getElem?_map, hx]
      rfl
    rw [← h4, List.getElem?_take] at hj
    split at hj
    · rw [← Array.getElem?_toList]
      exact hj
    · cases hj

/-- The list of a set lies in a block of its own. -/
theorem list_lies (s : Nat) (hs : Is64 s) (w : World) (hT : Tab w) (hg : 0 < w.heap.size) :
    Calls Tryd.prog 33 #[.int .u64 (s : Int)] w fun e w' => e = .returned (.slice (some ⟨w.heap.size, 0, none⟩) (els s).length (els s).length) ∧ ListAt w' w.heap.size (els s) ∧ Below w.heap.size w w' :=
  (list_any s hs w hT hg).mono fun _ _ ⟨h1, h2, h3⟩ => ⟨h1, (listAt_of h2).1, h3⟩

/-- The set of a list, whatever numbers stand there. -/
def ofI (s : Nat) (l : List Int) : Nat := l.foldl wth s
theorem ofI_lt (l : List Int) : ∀ s, Is64 s → Is64 (ofI s l) := by
  induction l with
  | nil => intro s h; exact h
  | cons n l ih => intro s h; exact ih _ (wth_lt h n)
theorem ofI_take {l : List Int} {k : Nat} (h : k < l.length) (s : Nat) : ofI s (l.take (k + 1)) = wth (ofI s (l.take k)) l[k] := by
  unfold ofI
  rw [List.take_succ_eq_append_getElem h, List.foldl_append]
  rfl

/-- The numbers lie at a place of a block, one behind the other. -/
def RowAt (w : World) (b off : Nat) (l : List Int) : Prop := ∀ (j : Nat) (h : j < l.length), w.cell? ⟨b, off + j, none⟩ = some (.int .i64 l[j])
theorem RowAt.below {B : Nat} {w w' : World} {b off : Nat} {l : List Int} (h : RowAt w b off l) (hb : Below B w w') (hB : b < B) : RowAt w' b off l := fun j hj => (hb.cell (p := ⟨b, off + j, none⟩) hB).trans (h j hj)
end Go.Proofs.YtjedinodopcdaaaDoor.bits
