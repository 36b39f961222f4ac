/-
  Rows that stay as they are while the blocks of an interval stay. No condition.
-/
import Derived.Test.YtjlmgoaglpkhoaaGOwn
import Derived.Test.YtjlmgoaglpkhoaaDBox
namespace Go.Proofs.Ytjlmgoaglpkhoaa.pgm
open Go.RowKit Go.ChangeShapes
open Go.Proofs.Ytjlmgoaglpkhoaa.objs (De zero Own)
set_option linter.unusedVariables false

/-- What holds as long as the blocks of an interval stay. -/
def Stays (W : World) (lo hi : Nat) (p : World → Prop) : Prop := hi ≤ W.heap.size ∧ ∀ W' : World, W.heap.size ≤ W'.heap.size → (∀ g, lo ≤ g → g < hi → W'.heap[g]? = W.heap[g]?) → p W'
theorem Stays.now {W : World} {lo hi : Nat} {p : World → Prop} (h : Stays W lo hi p) : p W := h.2 W (Nat.le_refl _) fun _ _ _ => rfl
theorem Stays.keep {W W1 : World} {lo hi : Nat} {p : World → Prop} (h : Stays W lo hi p) (hs : W.heap.size ≤ W1.heap.size) (hk : ∀ g, lo ≤ g → g < hi → W1.heap[g]? = W.heap[g]?) : Stays W1 lo hi p :=
  ⟨Nat.le_trans h.1 hs, fun W' h1 h2 => h.2 W' (Nat.le_trans hs h1) fun g hl hg => (h2 g hl hg).trans (hk g hl hg)⟩
theorem Stays.next {W W1 : World} {lo hi : Nat} {p : World → Prop} (h : Stays W lo hi p) (hb : Below W.heap.size W W1) : Stays W1 lo hi p := h.keep hb.size fun g _ hg => hb.block g (Nat.lt_of_lt_of_le hg h.1)
theorem Own.stays {W : World} {base : Nat} {v : Value} {l : List De} (h : Own W base v l) : Stays W base W.heap.size (fun W' => Own W' base v l) := ⟨Nat.le_refl _, fun W' _ hk => h.keep fun g hg => hk g (h.lt hg).1 (h.lt hg).2⟩
theorem OwnV.stays {W : World} {base : Nat} {v : Value} {l : List (List (List De))} (h : OwnV W base v l) : Stays W base W.heap.size (fun W' => OwnV W' base v l) := ⟨Nat.le_refl _, fun W' _ hk => h.hold hk⟩

def pgB (a v u : Value) : Obj := .cells #[a, v, u] 26
abbrev sN : Value := .slice none 0 0
theorem pg_set1 {W : World} {b : Nat} {a v u : Value} (h : W.heap[b]? = some (pgB a v u)) (x : Value) : (W.setCell ⟨b, 1, none⟩ x).heap[b]? = some (pgB a x u) := by
  simp [World.setCell, Array.getElem?_modify, h, pgB]
theorem pg_set2 {W : World} {b : Nat} {a v u : Value} (h : W.heap[b]? = some (pgB a v u)) (x : Value) : (W.setCell ⟨b, 2, none⟩ x).heap[b]? = some (pgB a v x) := by
  simp [World.setCell, Array.getElem?_modify, h, pgB]
theorem OwnV.inB {w : World} {base g : Nat} {v : Value} {l : List (List (List De))} (h : OwnV w base v l) (hg : v.ownBlock = some g) : base ≤ g ∧ g < w.heap.size := by
  obtain ⟨xs, h1, _⟩ := h
  exact World.ownsRow.lt h1 g hg
theorem OwnF.inB {w : World} {base g : Nat} {v : Value} {l : List Fn} (h : OwnF w base v l) (hg : v.ownBlock = some g) : base ≤ g ∧ g < w.heap.size := by
  obtain ⟨xs, h1, _⟩ := h
  exact World.ownsRow.lt h1 g hg
theorem OwnV.kind {w : World} {base g : Nat} {v : Value} {l : List (List (List De))} (h : OwnV w base v l) (hg : v.ownBlock = some g) : ∃ cur, w.heap[g]? = some (.cells cur 47 (0, 0)) := by
  obtain ⟨xs, h1, _⟩ := h
  rcases h1.2 with ⟨rfl, _⟩ | ⟨g', cap, cur, rfl, _, hh, _⟩
  · cases hg
  · simp [Value.ownBlock] at hg
    subst hg
    exact ⟨cur, hh⟩
theorem OwnF.kind {w : World} {base g : Nat} {v : Value} {l : List Fn} (h : OwnF w base v l) (hg : v.ownBlock = some g) : ∃ cur, w.heap[g]? = some (.cells cur 37 (0, 0)) := by
  obtain ⟨xs, h1, _⟩ := h
  rcases h1.2 with ⟨rfl, _⟩ | ⟨g', cap, cur, rfl, _, hh, _⟩
  · cases hg
  · simp [Value.ownBlock] at hg
    subst hg
    exact ⟨cur, hh⟩
end Go.Proofs.Ytjlmgoaglpkhoaa.pgm
