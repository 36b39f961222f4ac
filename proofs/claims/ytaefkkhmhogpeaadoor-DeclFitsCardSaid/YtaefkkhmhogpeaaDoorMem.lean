/-
  How the writer and the reader lie in memory, and what a step leaves alone: a writer's block holds a slice of bytes of its own; a reader's block holds the bytes that are left and the first error. No condition.
-/
import Derived.Test.YtaefkkhmhogpeaaDoorPlain
import Derived.OneCell
import Derived.Laws.Rows
import Derived.WalkKit
namespace Go.Proofs.YtaefkkhmhogpeaaDoor.octet
open Go.RowKit

def cells (l : List UInt8) : List Value := l.map fun b => Value.int .u8 (b.toNat : Int)
theorem cells_length (l : List UInt8) : (cells l).length = l.length := by simp [cells]
theorem cells_append (l r : List UInt8) : cells (l ++ r) = cells l ++ cells r := by simp [cells]

/-- Of the blocks below B none has turned but x; no block has gone. -/
structure Frm (B x : Nat) (w w' : World) : Prop where
  os : w'.os = w.os
  tape : w'.tape = w.tape
  output : w'.output = w.output
  size : w.heap.size ≤ w'.heap.size
  block : ∀ k, k < B → k ≠ x → w'.heap[k]? = w.heap[k]?
theorem Frm.refl (B x : Nat) (w : World) : Frm B x w w := ⟨rfl, rfl, rfl, Nat.le_refl _, fun _ _ _ => rfl⟩
theorem Frm.trans {B x : Nat} {a b c : World} (h : Frm B x a b) (k : Frm B x b c) : Frm B x a c :=
  ⟨k.os.trans h.os, k.tape.trans h.tape, k.output.trans h.output, Nat.le_trans h.size k.size, fun i hi hx => (k.block i hi hx).trans (h.block i hi hx)⟩
theorem Frm.mono {B B' x : Nat} {w w' : World} (h : Frm B x w w') (hB : B' ≤ B) : Frm B' x w w' := ⟨h.os, h.tape, h.output, h.size, fun k hk hx => h.block k (Nat.lt_of_lt_of_le hk hB) hx⟩
theorem Frm.drew {B x : Nat} {a w : World} (h : Frm B x a w) : Frm B x a w.drew := ⟨h.os, h.tape, h.output, h.size, h.block⟩
theorem Frm.alloc {B x : Nat} {a w : World} (h : Frm B x a w) (hB : B ≤ w.heap.size) (o : Obj) : Frm B x a (w.alloc o) :=
  h.trans ⟨rfl, rfl, rfl, by simp, fun k hk _ => Below.heap_alloc _ _ _ (by omega)⟩
theorem Frm.setCell {B x : Nat} {a w : World} (h : Frm B x a w) {p : Addr} (hp : p.block = x ∨ B ≤ p.block) (u : Value) : Frm B x a (w.setCell p u) :=
  h.trans ⟨rfl, rfl, rfl, by simp [World.setCell], fun k hk hx => Below.heap_setCell _ _ _ _ (by omega)⟩
theorem Frm.below {B B' x : Nat} {w w' : World} (h : Frm B x w w') (hx : B' ≤ x) (hB : B' ≤ B) : Below B' w w' :=
  ⟨h.os, h.tape, h.output, h.size, fun k hk => h.block k (by omega) (by omega)⟩
theorem Frm.of_below {B x : Nat} {w w' : World} (h : Below B w w') : Frm B x w w' := ⟨h.os, h.tape, h.output, h.size, fun k hk _ => h.block k hk⟩
theorem Frm.grown {B x : Nat} {a w w' : World} {row : Option Nat} (h : Frm B x a w) (hg : w.grownBy w' row) (hB : B ≤ w.heap.size) (hr : ∀ k, row = some k → B ≤ k ∨ k = x) : Frm B x a w' :=
  h.trans ⟨hg.os, hg.tape, hg.output, hg.size, fun k hk hx => hg.block k (by omega) (fun e => by rcases hr k e.symm with h | h <;> omega)⟩

/-- The writer at block bo holds the bytes l; what it owns besides lies from base on. -/
def OutAt (w : World) (base bo : Nat) (l : List UInt8) : Prop :=
  ∃ v, w.heap[bo]? = some (.cells #[v] 62 (0, 0)) ∧ w.ownsRow base 5 1 v l.length (cells l) ∧ bo < base ∧ base ≤ w.heap.size

theorem OutAt.lt {w : World} {base bo : Nat} {l : List UInt8} (h : OutAt w base bo l) : bo < w.heap.size := by
  obtain ⟨v, h1, _, _, _⟩ := h
  exact lt_of_block h1
theorem OutAt.base_le {w : World} {base bo : Nat} {l : List UInt8} (h : OutAt w base bo l) : base ≤ w.heap.size := by
  obtain ⟨v, _, _, _, h4⟩ := h
  exact h4
/-- A world in which the writer's own blocks are as they were. -/
theorem OutAt.keep {w w' : World} {base bo : Nat} {l : List UInt8} (h : OutAt w base bo l) (hs : w.heap.size ≤ w'.heap.size) (hbo : w'.heap[bo]? = w.heap[bo]?) (hk : ∀ k, base ≤ k → k < w.heap.size → w'.heap[k]? = w.heap[k]?) : OutAt w' base bo l := by
  obtain ⟨v, h1, h2, h3, h4⟩ := h
  refine ⟨v, hbo.trans h1, ⟨h2.1, ?_⟩, h3, by omega⟩
  rcases h2.2 with h5 | ⟨g, cap, cur, hv, hg, hh, r⟩
  · exact .inl h5
  · exact .inr ⟨g, cap, cur, hv, hg, by rw [hk g hg (lt_of_block hh)]; exact hh, r⟩
theorem OutAt.kept {w w' : World} {base bo B : Nat} {l : List UInt8} (h : OutAt w base bo l) (hb : Below B w w') (hB : w.heap.size ≤ B) : OutAt w' base bo l :=
  h.keep hb.size (hb.block _ (by have := h.lt; omega)) fun k _ hk => hb.block k (by omega)

/-- The reader at block bi: the bytes that are left, the first error. -/
def InAt (w : World) (bi : Nat) (s : St) : Prop :=
  w.heap[bi]? = some (.cells #[.string ⟨s.rest.toArray⟩, .int .i64 (s.err : Int)] 93 (0, 0))
theorem InAt.lt {w : World} {bi : Nat} {s : St} (h : InAt w bi s) : bi < w.heap.size := lt_of_block h
theorem InAt.cell0 {w : World} {bi : Nat} {s : St} (h : InAt w bi s) : w.cell? ⟨bi, 0, none⟩ = some (.string ⟨s.rest.toArray⟩) := by unfold InAt at h; simp [World.cell?, h]
theorem InAt.cell1 {w : World} {bi : Nat} {s : St} (h : InAt w bi s) : w.cell? ⟨bi, 1, none⟩ = some (.int .i64 (s.err : Int)) := by unfold InAt at h; simp [World.cell?, h]
theorem InAt.free {w : World} {bi : Nat} {s : St} (h : InAt w bi s) (i : Nat) : w.frozen? ⟨bi, i, none⟩ = false := by unfold InAt at h; simp [World.frozen?, h]
theorem InAt.kept {w w' : World} {bi : Nat} {s : St} (h : InAt w bi s) (hb : w'.heap[bi]? = w.heap[bi]?) : InAt w' bi s := hb.trans h
theorem InAt.set0 {w : World} {bi : Nat} {s : St} (h : InAt w bi s) (r : List UInt8) : InAt (w.setCell ⟨bi, 0, none⟩ (.string ⟨r.toArray⟩)) bi ⟨r, s.err⟩ := by
  have h' : w.heap[bi]? = some (.cells #[.string ⟨s.rest.toArray⟩, .int .i64 (s.err : Int)] 93 (0, 0)) := h
  unfold InAt
  simp [World.setCell, Array.getElem?_modify, h']
theorem InAt.set1 {w : World} {bi : Nat} {s : St} (h : InAt w bi s) (e : Nat) : InAt (w.setCell ⟨bi, 1, none⟩ (.int .i64 (e : Int))) bi ⟨s.rest, e⟩ := by
  have h' : w.heap[bi]? = some (.cells #[.string ⟨s.rest.toArray⟩, .int .i64 (s.err : Int)] 93 (0, 0)) := h
  unfold InAt
  simp [World.setCell, Array.getElem?_modify, h']

end Go.Proofs.YtaefkkhmhogpeaaDoor.octet
