/-
  How a walk over a function's instructions lies in memory: a block of seven cells, the depths, and which are to be looked at; what a call may turn. No condition.
-/
import Derived.Test.YtjlmgoaglpkhoaaHStep
import Derived.Test.YtjlmgoaglpkhoaaGMem
import Derived.Test.YtjlmgoaglpkhoaaGStay
import Derived.Test.YtjlmgoaglpkhoaaNums
import Derived.Laws.Rows
namespace Go.Proofs.Ytjlmgoaglpkhoaa.pgm.dep
open Go.RowKit Go.ChangeShapes
open Go.Proofs.Ytjlmgoaglpkhoaa.pgm
open Go.Proofs.Ytjlmgoaglpkhoaa.objs (De zero DAt cells3)
open Go.Proofs.Ytjlmgoaglpkhoaa.nums (NAt ints ints_length ints_at)
set_option linter.unusedVariables false

/-- Of the blocks that were there none has turned but x, y and z; no block has gone. -/
structure Trn (x y z : Nat) (w w' : World) : Prop where
  os : w'.os = w.os
  tape : w'.tape = w.tape
  output : w'.output = w.output
  size : w.heap.size ≤ w'.heap.size
  block : ∀ k, k < w.heap.size → k ≠ x → k ≠ y → k ≠ z → w'.heap[k]? = w.heap[k]?
theorem Trn.refl (x y z : Nat) (w : World) : Trn x y z w w := ⟨rfl, rfl, rfl, Nat.le_refl _, fun _ _ _ _ _ => rfl⟩
theorem Trn.and {x y z : Nat} {a b c : World} (h : Trn x y z a b) (k : Trn x y z b c) : Trn x y z a c :=
  ⟨k.os.trans h.os, k.tape.trans h.tape, k.output.trans h.output, Nat.le_trans h.size k.size, fun i hi h1 h2 h3 => (k.block i (Nat.lt_of_lt_of_le hi h.size) h1 h2 h3).trans (h.block i hi h1 h2 h3)⟩
theorem Trn.drewN {x y z : Nat} {a w : World} (h : Trn x y z a w) (n : Nat) : Trn x y z a (w.drewN n) := ⟨h.os, h.tape, h.output, h.size, h.block⟩
theorem Trn.drew {x y z : Nat} {a w : World} (h : Trn x y z a w) : Trn x y z a w.drew := ⟨h.os, h.tape, h.output, h.size, h.block⟩
theorem Trn.setCell {x y z : Nat} {a w : World} (h : Trn x y z a w) {p : Addr} (hp : p.block = x ∨ p.block = y ∨ p.block = z) (u : Value) : Trn x y z a (w.setCell p u) :=
  ⟨h.os, h.tape, h.output, Nat.le_trans h.size (by simp [World.setCell]), fun k hk h1 h2 h3 => (Below.heap_setCell _ _ _ _ (by omega)).trans (h.block k hk h1 h2 h3)⟩
theorem Trn.of_below {x y z : Nat} {w w' : World} (h : Below w.heap.size w w') : Trn x y z w w' := ⟨h.os, h.tape, h.output, h.size, fun k hk _ _ _ => h.block k hk⟩
theorem Trn.below {x y z B : Nat} {w w' : World} (h : Trn x y z w w') (hx : B ≤ x) (hy : B ≤ y) (hz : B ≤ z) (hB : B ≤ w.heap.size) : Below B w w' :=
  ⟨h.os, h.tape, h.output, h.size, fun k hk => h.block k (by omega) (by omega) (by omega) (by omega)⟩

def yess (l : List Bool) : List Value := l.map Value.bool
theorem yess_length (l : List Bool) : (yess l).length = l.length := by simp [yess]
theorem yess_at {l : List Bool} {j : Nat} (h : j < l.length) : (yess l)[j]? = some (.bool (l.getD j false)) := by
  simp [yess, List.getD_eq_getElem?_getD, List.getElem?_eq_getElem h]
def wkB (vF vC : Value) (bd ba n : Nat) (le : Nat) (pl er : Int) : Obj := .cells #[vF, vC, .slice (some ⟨bd, 0, none⟩) n n, .slice (some ⟨ba, 0, none⟩) n n, .int .i64 (le : Int), .int .i64 pl, .int .i64 er] 57
/-- A walk lies in its three blocks. -/
structure Wk (W : World) (bw bd ba n : Nat) (vF vC : Value) (z : Z) (pl er : Int) : Prop where
  box : W.heap[bw]? = some (wkB vF vC bd ba n z.le pl er)
  rd : W.heap[bd]? = some (.cells (ints z.dp).toArray 3 (0, 0))
  ra : W.heap[ba]? = some (.cells (yess z.ah).toArray 4 (0, 0))
  n1 : bw ≠ bd
  n2 : bw ≠ ba
  n3 : bd ≠ ba
  ld : z.dp.length = n
  la : z.ah.length = n
theorem cells7 {W : World} {b : Nat} {x0 x1 x2 x3 x4 x5 x6 : Value} {T : TypeId} (h : W.heap[b]? = some (.cells #[x0, x1, x2, x3, x4, x5, x6] T (0, 0))) :
    W.cell? ⟨b, 0, none⟩ = some x0 ∧ W.cell? ⟨b, 1, none⟩ = some x1 ∧ W.cell? ⟨b, 2, none⟩ = some x2 ∧ W.cell? ⟨b, 3, none⟩ = some x3 ∧ W.cell? ⟨b, 4, none⟩ = some x4 ∧ W.cell? ⟨b, 5, none⟩ = some x5 ∧ W.cell? ⟨b, 6, none⟩ = some x6 ∧
    W.frozen? ⟨b, 4, none⟩ = false ∧ W.frozen? ⟨b, 5, none⟩ = false ∧ W.frozen? ⟨b, 6, none⟩ = false := by
  simp [World.cell?, World.frozen?, h]
theorem Wk.cells {W : World} {bw bd ba n : Nat} {vF vC : Value} {z : Z} {pl er : Int} (h : Wk W bw bd ba n vF vC z pl er) :
    W.cell? ⟨bw, 0, none⟩ = some vF ∧ W.cell? ⟨bw, 1, none⟩ = some vC ∧ W.cell? ⟨bw, 2, none⟩ = some (.slice (some ⟨bd, 0, none⟩) n n) ∧ W.cell? ⟨bw, 3, none⟩ = some (.slice (some ⟨ba, 0, none⟩) n n) ∧
    W.cell? ⟨bw, 4, none⟩ = some (.int .i64 (z.le : Int)) ∧ W.cell? ⟨bw, 5, none⟩ = some (.int .i64 pl) ∧ W.cell? ⟨bw, 6, none⟩ = some (.int .i64 er) ∧ W.frozen? ⟨bw, 4, none⟩ = false ∧ W.frozen? ⟨bw, 5, none⟩ = false ∧ W.frozen? ⟨bw, 6, none⟩ = false := cells7 h.box
theorem Wk.depth {W : World} {bw bd ba n : Nat} {vF vC : Value} {z : Z} {pl er : Int} (h : Wk W bw bd ba n vF vC z pl er) {t : Nat} (ht : t < n) :
    W.cell? ⟨bd, t, none⟩ = some (.int .i64 (z.dp.getD t (-1))) ∧ W.frozen? ⟨bd, t, none⟩ = false := by
  refine ⟨?_, frozen_of_row W bd t _ _ h.rd⟩
  rw [cell_of_row W bd t _ _ (0, 0) h.rd, List.getElem?_toArray, ints_at (by rw [h.ld]; exact ht), Go.Proofs.Ytjlmgoaglpkhoaa.nums.getD_any (by rw [h.ld]; exact ht) 0 (-1)]
theorem Wk.yes {W : World} {bw bd ba n : Nat} {vF vC : Value} {z : Z} {pl er : Int} (h : Wk W bw bd ba n vF vC z pl er) {t : Nat} (ht : t < n) :
    W.cell? ⟨ba, t, none⟩ = some (.bool (z.ah.getD t false)) ∧ W.frozen? ⟨ba, t, none⟩ = false := by
  refine ⟨?_, frozen_of_row W ba t _ _ h.ra⟩
  rw [cell_of_row W ba t _ _ (0, 0) h.ra, List.getElem?_toArray, yess_at (by rw [h.la]; exact ht)]
theorem Wk.lt {W : World} {bw bd ba n : Nat} {vF vC : Value} {z : Z} {pl er : Int} (h : Wk W bw bd ba n vF vC z pl er) : bw < W.heap.size ∧ bd < W.heap.size ∧ ba < W.heap.size := ⟨lt_of_block h.box, lt_of_block h.rd, lt_of_block h.ra⟩
theorem Wk.drewN {W : World} {bw bd ba n : Nat} {vF vC : Value} {z : Z} {pl er : Int} (h : Wk W bw bd ba n vF vC z pl er) (m : Nat) : Wk (W.drewN m) bw bd ba n vF vC z pl er := ⟨h.box, h.rd, h.ra, h.n1, h.n2, h.n3, h.ld, h.la⟩
theorem Wk.drew {W : World} {bw bd ba n : Nat} {vF vC : Value} {z : Z} {pl er : Int} (h : Wk W bw bd ba n vF vC z pl er) : Wk W.drew bw bd ba n vF vC z pl er := ⟨h.box, h.rd, h.ra, h.n1, h.n2, h.n3, h.ld, h.la⟩
theorem Wk.next {W W' : World} {bw bd ba n : Nat} {vF vC : Value} {z : Z} {pl er : Int} (h : Wk W bw bd ba n vF vC z pl er) (hb : Below W.heap.size W W') : Wk W' bw bd ba n vF vC z pl er :=
  ⟨(hb.block _ h.lt.1).trans h.box, (hb.block _ h.lt.2.1).trans h.rd, (hb.block _ h.lt.2.2).trans h.ra, h.n1, h.n2, h.n3, h.ld, h.la⟩
theorem row_setCell {w : World} {b j : Nat} {cur : Array Value} {t : TypeId} (h : w.heap[b]? = some (.cells cur t (0, 0))) (u : Value) : (w.setCell ⟨b, j, none⟩ u).heap[b]? = some (.cells (cur.setIfInBounds j u) t (0, 0)) :=
  heap_setCell_same w b j cur t u h
/-- The least place is stored. -/
theorem Wk.least {W : World} {bw bd ba n : Nat} {vF vC : Value} {z : Z} {pl er : Int} (h : Wk W bw bd ba n vF vC z pl er) (m : Nat) : Wk (W.setCell ⟨bw, 4, none⟩ (.int .i64 (m : Int))) bw bd ba n vF vC ⟨z.dp, z.ah, m⟩ pl er :=
  ⟨row_setCell h.box _, (Below.heap_setCell _ _ _ _ (Ne.symm h.n1)).trans h.rd, (Below.heap_setCell _ _ _ _ (Ne.symm h.n2)).trans h.ra, h.n1, h.n2, h.n3, h.ld, h.la⟩
/-- What is wrong, and where, is stored. -/
theorem Wk.wrong {W : World} {bw bd ba n : Nat} {vF vC : Value} {z : Z} {pl er : Int} (h : Wk W bw bd ba n vF vC z pl er) (p e : Int) : Wk ((W.setCell ⟨bw, 5, none⟩ (.int .i64 p)).setCell ⟨bw, 6, none⟩ (.int .i64 e)) bw bd ba n vF vC z p e :=
  ⟨row_setCell (row_setCell h.box _) _, (Below.heap_setCell _ _ _ _ (Ne.symm h.n1)).trans ((Below.heap_setCell _ _ _ _ (Ne.symm h.n1)).trans h.rd), (Below.heap_setCell _ _ _ _ (Ne.symm h.n2)).trans ((Below.heap_setCell _ _ _ _ (Ne.symm h.n2)).trans h.ra), h.n1, h.n2, h.n3, h.ld, h.la⟩
/-- A depth is stored. -/
theorem Wk.deep {W : World} {bw bd ba n : Nat} {vF vC : Value} {z : Z} {pl er : Int} (h : Wk W bw bd ba n vF vC z pl er) (t : Nat) (d : Int) : Wk (W.setCell ⟨bd, t, none⟩ (.int .i64 d)) bw bd ba n vF vC ⟨z.dp.set t d, z.ah, z.le⟩ pl er :=
  ⟨(Below.heap_setCell _ _ _ _ h.n1).trans h.box, (row_setCell h.rd _).trans (by simp [ints, List.map_set]), (Below.heap_setCell _ _ _ _ (Ne.symm h.n3)).trans h.ra, h.n1, h.n2, h.n3, by rw [List.length_set]; exact h.ld, h.la⟩
/-- Whether one is to be looked at is stored. -/
theorem Wk.mark {W : World} {bw bd ba n : Nat} {vF vC : Value} {z : Z} {pl er : Int} (h : Wk W bw bd ba n vF vC z pl er) (t : Nat) (b : Bool) : Wk (W.setCell ⟨ba, t, none⟩ (.bool b)) bw bd ba n vF vC ⟨z.dp, z.ah.set t b, z.le⟩ pl er :=
  ⟨(Below.heap_setCell _ _ _ _ h.n2).trans h.box, (Below.heap_setCell _ _ _ _ h.n3).trans h.rd, (row_setCell h.ra _).trans (by simp [yess, List.map_set]), h.n1, h.n2, h.n3, h.ld, by rw [List.length_set]; exact h.la⟩
end Go.Proofs.Ytjlmgoaglpkhoaa.pgm.dep
