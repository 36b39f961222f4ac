/-
  What is due and the document's list beside it, call by call: what holds of the world between two calls. No condition.
-/
import Derived.Test.YtfhkaedpbandiaaTDo
namespace Go.Proofs.Ytfhkaedpbandiaa.timer
open Go.RowKit

abbrev O := Int × Int × Int
/-- What is due at bt is the list m, the document's list at gg is m; of what was there ahead nothing has turned. -/
structure Inv (w : World) (bt : Nat) (wr : World) (bh bm gg cap : Nat) (m : List E) : Prop where
  lies : Lies wr bt bh bm m
  row : Row 57 wr 0 gg cap m
  below : Below w.heap.size w wr
  l1 : w.heap.size ≤ bt
  l2 : w.heap.size ≤ bh
  l3 : w.heap.size ≤ bm
theorem Inv.did {w wr w' : World} {bt bh bm gg cap : Nat} {m m' : List E} {e : Ending} (h : Inv w bt wr bh bm gg cap m) (d : Did wr bt bh bm m' e w') :
    ∃ bh' bm' gg' cap', e = .returned (.tuple #[.slice (some ⟨gg', 0, none⟩) m'.length cap', .bool true]) ∧ Inv w bt w' bh' bm' gg' cap' m' := by
  obtain ⟨bh', bm', gg', cap', he, h1, h2, h3, h4, h5⟩ := d
  have hs := h.below.size
  have := h.l2
  have := h.l3
  exact ⟨bh', bm', gg', cap', he, h1, h2, below_frm h.below hs h3 h.l1 h.l2 h.l3, h.l1, by omega, by omega⟩
theorem Inv.drewN {w wr : World} {bt bh bm gg cap : Nat} {m : List E} (h : Inv w bt wr bh bm gg cap m) (n : Nat) : Inv w bt (wr.drewN n) bh bm gg cap m :=
  ⟨h.lies.drewN n, h.row.keep rfl, below_drewN h.below n, h.l1, h.l2, h.l3⟩
theorem Inv.on {w wr w' : World} {bt bh bm gg cap : Nat} {m : List E} (h : Inv w bt wr bh bm gg cap m) (b : Below wr.heap.size wr w') : Inv w bt w' bh bm gg cap m :=
  ⟨h.lies.below b, h.row.keep (b.block _ h.row.lt.2), h.below.trans (b.mono h.below.size), h.l1, h.l2, h.l3⟩
/-- A zero one, and an empty list. -/
theorem inv_new (w : World) : Inv w w.heap.size ((w.alloc (.cells #[.slice none 0 0, .map none] 27)).alloc (.cells #[] 57)) w.heap.size w.heap.size (w.heap.size + 1) 0 [] := by
  have h1 := heap_alloc_new w (.cells #[.slice none 0 0, .map none] 27)
  have h2 := heap_alloc_new (w.alloc (.cells #[.slice none 0 0, .map none] 27)) (.cells #[] 57)
  have hz : (w.alloc (.cells #[.slice none 0 0, .map none] 27)).heap.size = w.heap.size + 1 := by simp
  rw [hz] at h2
  refine ⟨.inl ⟨?_, rfl, rfl, rfl⟩, (Row.nil h2).base (Nat.zero_le _), ((Below.refl _ _).alloc (Nat.le_refl _) _).alloc (by rw [hz]; omega) _, Nat.le_refl _, Nat.le_refl _, Nat.le_refl _⟩
  rw [Below.heap_alloc _ _ _ (by rw [hz]; omega)]
  exact h1

/-- The calls as they lie in memory. -/
def OpsAt (w : World) (b off len : Nat) (ops : Nat → O) : Prop := ∀ i, i < len →
  w.cell? ⟨b, off + i * 3, none⟩ = some (.int .i64 (ops i).1) ∧ w.cell? ⟨b, off + i * 3 + 1, none⟩ = some (.int .i64 (ops i).2.1) ∧ w.cell? ⟨b, off + i * 3 + 2, none⟩ = some (.int .i64 (ops i).2.2) ∧ Wf (ops i).2.1
theorem OpsAt.keep {w w' : World} {b off len : Nat} {ops : Nat → O} (h : OpsAt w b off len ops) (hb : w'.heap[b]? = w.heap[b]?) : OpsAt w' b off len ops := fun i hi =>
  ⟨(World.cell?_of_block (a := ⟨b, off + i * 3, none⟩) hb).trans (h i hi).1, (World.cell?_of_block (a := ⟨b, off + i * 3 + 1, none⟩) hb).trans (h i hi).2.1, (World.cell?_of_block (a := ⟨b, off + i * 3 + 2, none⟩) hb).trans (h i hi).2.2.1, (h i hi).2.2.2⟩
/-- The calls of a list that came in. -/
def OpsIn (w : World) (a : Option Addr) (len : Nat) (ops : Nat → O) : Prop := len = 0 ∨ ∃ b off, a = some ⟨b, off, none⟩ ∧ b < w.heap.size ∧ OpsAt w b off len ops
end Go.Proofs.Ytfhkaedpbandiaa.timer
