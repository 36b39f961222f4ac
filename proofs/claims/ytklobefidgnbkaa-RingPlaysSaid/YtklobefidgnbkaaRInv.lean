/-
  A row and the document's list beside it, call by call: what holds of the world between two calls. No condition.
-/
import Derived.Test.YtklobefidgnbkaaRRef2
namespace Go.Proofs.Ytklobefidgnbkaa.ring
open Go.RowKit

/-- The row at br holds lr, the document's list at g is lm; since w0 none but the row's own blocks has turned. -/
structure Inv (w0 : World) (br b0 room : Nat) (wr : World) (bi g cap : Nat) (lr lm : List Int) : Prop where
  lies : Lies wr br bi room lr
  row : Row wr 0 g cap lm
  ne1 : g ≠ br
  ne2 : g ≠ bi
  frm : Frm br b0 w0 wr
  own : bi = b0 ∨ w0.heap.size ≤ bi
  base : w0.heap.size ≤ wr.heap.size

theorem Inv.room {w0 wr : World} {br b0 room bi g cap : Nat} {lr lm : List Int} (h : Inv w0 br b0 room wr bi g cap lr lm) : lr.length ≤ room ∧ room ≤ 4096 := h.lies.room
theorem Inv.did {w0 wr w1 : World} {br b0 room bi g cap : Nat} {lr lm : List Int} {r : List Int × Int × Bool} {e : Ending} (h : Inv w0 br b0 room wr bi g cap lr lm) (hd : Did wr br bi room r e w1) :
    e = .returned (.tuple #[.int .i64 r.2.1, .bool r.2.2]) ∧ ∃ bi', Inv w0 br b0 room w1 bi' g cap r.1 lm := by
  obtain ⟨he, bi', h1, h2, h3⟩ := hd
  have hg := h.row.lt.2
  have hs := h.base
  have ho := h.own
  have hn := h.ne2
  refine ⟨he, bi', h1, h.row.keep (h2.block g hg h.ne1 h.ne2), h.ne1, ?_, h.frm.trans h2 (.inl rfl) (by omega), ?_, Nat.le_trans hs h2.size⟩
  · rcases h3 with rfl | h3
    · exact hn
    · omega
  · rcases h3 with rfl | h3
    · exact ho
    · omega
theorem Inv.below {w0 wr w1 : World} {br b0 room bi g cap : Nat} {lr lm : List Int} (h : Inv w0 br b0 room wr bi g cap lr lm) (hb : Below wr.heap.size wr w1) : Inv w0 br b0 room w1 bi g cap lr lm :=
  ⟨h.lies.below hb, h.row.keep (hb.block g h.row.lt.2), h.ne1, h.ne2, h.frm.trans (Frm.of_below (x := br) (y := b0) hb) (.inl rfl) (.inr (.inl rfl)), h.own, Nat.le_trans h.base hb.size⟩
theorem Inv.drewN {w0 wr : World} {br b0 room bi g cap : Nat} {lr lm : List Int} (h : Inv w0 br b0 room wr bi g cap lr lm) (n : Nat) : Inv w0 br b0 room (wr.drewN n) bi g cap lr lm := h.below (below_drewN (Below.refl _ _) n)
theorem Inv.told {w0 wr w1 : World} {br b0 room bi g cap : Nat} {lr lm : List Int} {r : List Int × Int × Bool} {e : Ending} (h : Inv w0 br b0 room wr bi g cap lr lm) (ht : Told wr g cap lm r e w1) :
    ∃ g' cap', e = .returned (.tuple #[.slice (some ⟨g', 0, none⟩) r.1.length cap', .int .i64 r.2.1, .bool r.2.2]) ∧ Inv w0 br b0 room w1 bi g' cap' lr r.1 := by
  obtain ⟨g', cap', he, h1, hb⟩ := ht
  have hk := h.below hb
  refine ⟨g', cap', he, ?_⟩
  rcases h1 with ⟨rfl, rfl, e1⟩ | h1
  · rw [e1]
    exact hk
  · have hl := h.lies.lt
    have h2 := h1.lt.1
    exact ⟨hk.lies, h1.base (Nat.zero_le _), by omega, by omega, hk.frm, hk.own, hk.base⟩
/-- What was there ahead and is none of the row's own is as it was. -/
theorem Inv.kept {w0 wr : World} {br b0 room bi g cap : Nat} {lr lm : List Int} (h : Inv w0 br b0 room wr bi g cap lr lm) {k : Nat} (hk : k < w0.heap.size) (h1 : k ≠ br) (h2 : k ≠ b0) : wr.heap[k]? = w0.heap[k]? := h.frm.block k hk h1 h2

/-- The calls as they lie in memory. -/
def OpsAt (w : World) (b off len : Nat) (ops : Nat → Int × Int) : Prop := ∀ i, i < len → w.cell? ⟨b, off + i * 2, none⟩ = some (.int .i64 (ops i).1) ∧ w.cell? ⟨b, off + i * 2 + 1, none⟩ = some (.int .i64 (ops i).2)
theorem OpsAt.keep {w w' : World} {b off len : Nat} {ops : Nat → Int × Int} (h : OpsAt w b off len ops) (hb : w'.heap[b]? = w.heap[b]?) : OpsAt w' b off len ops := fun i hi =>
  ⟨(World.cell?_of_block (a := ⟨b, off + i * 2, none⟩) hb).trans (h i hi).1, (World.cell?_of_block (a := ⟨b, off + i * 2 + 1, none⟩) hb).trans (h i hi).2⟩

/-- A new row and a new list beside it. -/
theorem inv_new {w w1 : World} {room : Nat} (h : Lies w1 w.heap.size w.heap.size room []) :
    Inv (w1.alloc (.cells #[] 3)) w.heap.size w.heap.size room (w1.alloc (.cells #[] 3)) w.heap.size w1.heap.size 0 [] [] := by
  have hl := h.lt.1
  have h1 := heap_alloc_new w1 (.cells #[] 3)
  exact ⟨h.below ((Below.refl _ _).alloc (Nat.le_refl _) _), (Row.nil h1).base (Nat.zero_le _), by omega, by omega, Frm.refl _ _ _, .inl rfl, Nat.le_refl _⟩
end Go.Proofs.Ytklobefidgnbkaa.ring
