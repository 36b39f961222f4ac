/-
  How a row lies in memory: a block of four cells, and one of its elements; what a call may turn. No condition.
-/
import Derived.Test.YtklobefidgnbkaaRPlain
import Derived.OneCell
import Derived.Laws.Rows
import Derived.WalkKit
import Derived.Deep.Draws
namespace Go.Proofs.Ytklobefidgnbkaa.ring
open Go.RowKit

def ints (l : List Int) : List Value := l.map (Value.int .i64)
theorem ints_length (l : List Int) : (ints l).length = l.length := by simp [ints]

/-- Of the blocks that were there none has turned but x and y; no block has gone. -/
structure Frm (x y : Nat) (w w' : World) : Prop where
  os : w'.os = w.os
  tape : w'.tape = w.tape
  output : w'.output = w.output
  size : w.heap.size ≤ w'.heap.size
  block : ∀ k, k < w.heap.size → k ≠ x → k ≠ y → w'.heap[k]? = w.heap[k]?
theorem Frm.refl (x y : Nat) (w : World) : Frm x y w w := ⟨rfl, rfl, rfl, Nat.le_refl _, fun _ _ _ _ => rfl⟩
/-- The second call may turn what is new besides. -/
theorem Frm.trans {x y x' y' : Nat} {a b c : World} (h : Frm x y a b) (k : Frm x' y' b c) (hx : x' = x ∨ x' = y ∨ a.heap.size ≤ x') (hy : y' = x ∨ y' = y ∨ a.heap.size ≤ y') : Frm x y a c :=
  ⟨k.os.trans h.os, k.tape.trans h.tape, k.output.trans h.output, Nat.le_trans h.size k.size, fun i hi h1 h2 =>
    (k.block i (Nat.lt_of_lt_of_le hi h.size) (by omega) (by omega)).trans (h.block i hi h1 h2)⟩
theorem Frm.drewN {x y : Nat} {a w : World} (h : Frm x y a w) (n : Nat) : Frm x y a (w.drewN n) := ⟨h.os, h.tape, h.output, h.size, h.block⟩
theorem Frm.drew {x y : Nat} {a w : World} (h : Frm x y a w) : Frm x y a w.drew := ⟨h.os, h.tape, h.output, h.size, h.block⟩
theorem Frm.alloc {x y : Nat} {a w : World} (h : Frm x y a w) (o : Obj) : Frm x y a (w.alloc o) :=
  ⟨h.os, h.tape, h.output, Nat.le_trans h.size (by simp), fun k hk h1 h2 => (Below.heap_alloc _ _ _ (Nat.lt_of_lt_of_le hk h.size)).trans (h.block k hk h1 h2)⟩
theorem Frm.setCell {x y : Nat} {a w : World} (h : Frm x y a w) {p : Addr} (hp : p.block = x ∨ p.block = y ∨ a.heap.size ≤ p.block) (u : Value) : Frm x y a (w.setCell p u) :=
  ⟨h.os, h.tape, h.output, Nat.le_trans h.size (by simp [World.setCell]), fun k hk h1 h2 => (Below.heap_setCell _ _ _ _ (by omega)).trans (h.block k hk h1 h2)⟩
theorem Frm.of_below {x y : Nat} {w w' : World} (h : Below w.heap.size w w') : Frm x y w w' := ⟨h.os, h.tape, h.output, h.size, fun k hk _ _ => h.block k hk⟩
theorem Frm.below {x y B : Nat} {w w' : World} (h : Frm x y w w') (hx : B ≤ x) (hy : B ≤ y) (hB : B ≤ w.heap.size) : Below B w w' :=
  ⟨h.os, h.tape, h.output, h.size, fun k hk => h.block k (by omega) (by omega) (by omega)⟩
theorem below_drewN {B : Nat} {a w : World} (h : Below B a w) (n : Nat) : Below B a (w.drewN n) := ⟨h.os, h.tape, h.output, h.size, h.block⟩

/-- The row at block br: its elements' slice is at a, of D; k of them stand, from f on; and its room. -/
structure At (w : World) (br bi : Nat) (a : Option Addr) (D : List Int) (f k room : Nat) : Prop where
  ring : w.heap[br]? = some (.cells #[.slice a D.length D.length, .int .i64 (f : Int), .int .i64 (k : Int), .int .i64 (room : Int)] 46 (0, 0))
  row : (D = [] ∧ bi = br) ∨ (a = some ⟨bi, 0, none⟩ ∧ bi ≠ br ∧ w.heap[bi]? = some (.cells (ints D).toArray 3 (0, 0)))
  hk : k ≤ D.length
  hn : D.length ≤ room
  hroom : room ≤ 4096
  hf : f ≤ 4096

theorem At.lt {w : World} {br bi : Nat} {a : Option Addr} {D : List Int} {f k room : Nat} (h : At w br bi a D f k room) : br < w.heap.size ∧ bi < w.heap.size := by
  have h1 := lt_of_block h.ring
  rcases h.row with ⟨_, h2⟩ | ⟨_, _, h2⟩
  · exact ⟨h1, by omega⟩
  · exact ⟨h1, lt_of_block h2⟩
theorem At.keep {w w' : World} {br bi : Nat} {a : Option Addr} {D : List Int} {f k room : Nat} (h : At w br bi a D f k room) (h1 : w'.heap[br]? = w.heap[br]?) (h2 : w'.heap[bi]? = w.heap[bi]?) : At w' br bi a D f k room :=
  ⟨h1.trans h.ring, h.row.imp id fun ⟨x, y, z⟩ => ⟨x, y, h2.trans z⟩, h.hk, h.hn, h.hroom, h.hf⟩
theorem At.cells {w : World} {br bi : Nat} {a : Option Addr} {D : List Int} {f k room : Nat} (h : At w br bi a D f k room) :
    w.cell? ⟨br, 0, none⟩ = some (.slice a D.length D.length) ∧ w.cell? ⟨br, 1, none⟩ = some (.int .i64 (f : Int)) ∧ w.cell? ⟨br, 2, none⟩ = some (.int .i64 (k : Int)) ∧ w.cell? ⟨br, 3, none⟩ = some (.int .i64 (room : Int)) ∧
    w.frozen? ⟨br, 0, none⟩ = false ∧ w.frozen? ⟨br, 1, none⟩ = false ∧ w.frozen? ⟨br, 2, none⟩ = false := by
  have h1 := h.ring
  simp [World.cell?, World.frozen?, h1]
theorem At.elem {w : World} {br bi : Nat} {a : Option Addr} {D : List Int} {f k room : Nat} (h : At w br bi a D f k room) {p : Nat} (hp : p < D.length) :
    a = some ⟨bi, 0, none⟩ ∧ w.cell? ⟨bi, p, none⟩ = some (.int .i64 (D.getD p 0)) ∧ w.frozen? ⟨bi, p, none⟩ = false ∧ bi ≠ br := by
  rcases h.row with ⟨rfl, _⟩ | ⟨h1, h2, h3⟩
  · simp at hp
  · refine ⟨h1, ?_, ?_, h2⟩
    · rw [cell_of_row w bi p _ _ (0, 0) h3]
      simp [ints, List.getD, hp]
    · exact frozen_of_row w bi p _ _ h3
theorem At.drewN {w : World} {br bi : Nat} {a : Option Addr} {D : List Int} {f k room : Nat} (h : At w br bi a D f k room) (n : Nat) : At (w.drewN n) br bi a D f k room := ⟨h.ring, h.row, h.hk, h.hn, h.hroom, h.hf⟩

theorem at_setCell {w : World} {b j : Nat} {cur : Array Value} {t : TypeId} (h : w.heap[b]? = some (.cells cur t (0, 0))) (u : Value) : (w.setCell ⟨b, j, none⟩ u).heap[b]? = some (.cells (cur.setIfInBounds j u) t (0, 0)) :=
  heap_setCell_same w b j cur t u h
theorem ints_set (D : List Int) (p : Nat) (x : Int) : (ints D).toArray.setIfInBounds p (.int .i64 x) = (ints (D.set p x)).toArray := by
  simp [ints, List.map_set]

/-- A store of an element. -/
theorem At.put {w : World} {br bi : Nat} {a : Option Addr} {D : List Int} {f k room : Nat} (h : At w br bi a D f k room) {p : Nat} (hp : p < D.length) (x : Int) :
    At (w.setCell ⟨bi, p, none⟩ (.int .i64 x)) br bi a (D.set p x) f k room := by
  rcases h.row with ⟨rfl, _⟩ | ⟨h1, h2, h3⟩
  · simp at hp
  · refine ⟨?_, .inr ⟨h1, h2, ?_⟩, by rw [List.length_set]; exact h.hk, by rw [List.length_set]; exact h.hn, h.hroom, h.hf⟩
    · rw [Below.heap_setCell _ _ _ _ (Ne.symm h2), List.length_set]
      exact h.ring
    · rw [at_setCell h3, ints_set]
theorem At.setFirst {w : World} {br bi : Nat} {a : Option Addr} {D : List Int} {f k room : Nat} (h : At w br bi a D f k room) (g : Nat) (hg : g ≤ 4096) :
    At (w.setCell ⟨br, 1, none⟩ (.int .i64 (g : Int))) br bi a D g k room := by
  refine ⟨?_, h.row.imp id fun ⟨x, y, z⟩ => ⟨x, y, ?_⟩, h.hk, h.hn, h.hroom, hg⟩
  · rw [at_setCell h.ring]
    rfl
  · rw [Below.heap_setCell _ _ _ _ y]
    exact z
theorem At.setCount {w : World} {br bi : Nat} {a : Option Addr} {D : List Int} {f k room : Nat} (h : At w br bi a D f k room) (g : Nat) (hg : g ≤ D.length) :
    At (w.setCell ⟨br, 2, none⟩ (.int .i64 (g : Int))) br bi a D f g room := by
  refine ⟨?_, h.row.imp id fun ⟨x, y, z⟩ => ⟨x, y, ?_⟩, hg, h.hn, h.hroom, h.hf⟩
  · rw [at_setCell h.ring]
    rfl
  · rw [Below.heap_setCell _ _ _ _ y]
    exact z

/-- The row at block br holds l; its own blocks are br and bi. -/
def Lies (w : World) (br bi room : Nat) (l : List Int) : Prop := ∃ a D f, At w br bi a D f l.length room ∧ view D f l.length = l
theorem Lies.lt {w : World} {br bi room : Nat} {l : List Int} (h : Lies w br bi room l) : br < w.heap.size ∧ bi < w.heap.size := by
  obtain ⟨_, _, _, h, _⟩ := h
  exact h.lt
theorem Lies.keep {w w' : World} {br bi room : Nat} {l : List Int} (h : Lies w br bi room l) (h1 : w'.heap[br]? = w.heap[br]?) (h2 : w'.heap[bi]? = w.heap[bi]?) : Lies w' br bi room l := by
  obtain ⟨a, D, f, h, e⟩ := h
  exact ⟨a, D, f, h.keep h1 h2, e⟩
theorem Lies.kept {w w' : World} {br bi room x y : Nat} {l : List Int} (h : Lies w br bi room l) (hf : Frm x y w w') (h1 : br ≠ x) (h2 : br ≠ y) (h3 : bi ≠ x) (h4 : bi ≠ y) : Lies w' br bi room l :=
  h.keep (hf.block _ h.lt.1 h1 h2) (hf.block _ h.lt.2 h3 h4)
theorem Lies.below {w w' : World} {br bi room : Nat} {l : List Int} (h : Lies w br bi room l) (hf : Below w.heap.size w w') : Lies w' br bi room l :=
  h.keep (hf.block _ h.lt.1) (hf.block _ h.lt.2)
theorem Lies.drewN {w : World} {br bi room : Nat} {l : List Int} (h : Lies w br bi room l) (n : Nat) : Lies (w.drewN n) br bi room l := h.keep rfl rfl
theorem Lies.room {w : World} {br bi room : Nat} {l : List Int} (h : Lies w br bi room l) : l.length ≤ room ∧ room ≤ 4096 := by
  obtain ⟨_, _, _, h, _⟩ := h
  exact ⟨Nat.le_trans h.hk h.hn, h.hroom⟩
end Go.Proofs.Ytklobefidgnbkaa.ring
