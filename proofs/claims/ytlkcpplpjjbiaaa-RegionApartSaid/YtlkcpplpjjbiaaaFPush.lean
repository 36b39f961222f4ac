/-
  The program's own first frame, the top value, and a value that is laid. At most a thousand frames, each of twenty-seven numbers.
-/
import Derived.Test.YtlkcpplpjjbiaaaFChange
import Derived.Test.YtlkcpplpjjbiaaaFSpec
import Derived.Test.YtlkcpplpjjbiaaaWProg
namespace Go.Proofs.Ytlkcpplpjjbiaaa.frames
open Go.RowKit Go.ChangeShapes
open Go.Proofs.Ytlkcpplpjjbiaaa.nums (NAt)
open Go.Proofs.Ytlkcpplpjjbiaaa.word (low low_any)
set_option linter.unusedVariables false
set_option linter.unusedSimpArgs false

/-- The last frame in a block of the call's own, and what is known of the old. -/
structure Lf (w W : World) (g : Nat) (f : Fr) : Prop where
  block : W.heap[g]? = some (frB f)
  far : w.heap.size ≤ g
  below : Below w.heap.size w W
theorem lf_new {w W : World} (h : Below w.heap.size w W) (f : Fr) : Lf w (W.alloc (frB f)) W.heap.size f := ⟨heap_alloc_new W _, h.size, h.alloc h.size _⟩
theorem Lf.set {w W : World} {g : Nat} {f : Fr} (h : Lf w W g f) (hl : f.length = 27) {k : Nat} (hk : k < 27) (v : Int) : Lf w (W.setCell ⟨g, k, none⟩ (.int .i64 v)) g (f.set k v) := ⟨set_block h.block hl hk v, h.far, h.below.setCell (p := ⟨g, k, none⟩) h.far _⟩
theorem Lf.drew {w W : World} {g : Nat} {f : Fr} (h : Lf w W g f) : Lf w W.drew g f := ⟨h.block, h.far, h.below.drew⟩
theorem frs_of_ch {x : List Fr} {w W : World} {e : Ending} {w' : World} (h : ChPost x W e w') (hl : x.length ≤ 1000) (ha : ∀ f ∈ x, f.length = 27) (hb : Below w.heap.size w W) : FrsPost x w e w' := by
  obtain ⟨A, c, h1, h2, h3⟩ := h
  exact ⟨A, c, h1, h2.ins hl ha, hb.trans (h3.mono hb.size)⟩
theorem with_all {l : List Fr} {f : Fr} (h : ∀ f ∈ l, f.length = 27) (hf : f.length = 27) : ∀ g ∈ withF l f, g.length = 27 := fun g hg => by
  unfold withF at hg
  rcases List.mem_append.1 hg with hg | hg
  · exact h g (mem_take_any hg)
  · rw [List.mem_singleton.1 hg]; exact hf

end Go.Proofs.Ytlkcpplpjjbiaaa.frames
