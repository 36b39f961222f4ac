/-
  Texts of one claim in one file: DSame, ESame, Out, Put, EInt, ERefPut, DRefPut, JRefPut, GRefPut, GSame, GLawOwn. Each has its own sentence, with its conditions.
-/
import Derived.Test.YtjbcmedljgafkaaDoorZq3
import Derived.Test.YtjbcmedljgafkaaDoorZq2
import Derived.Test.YtjbcmedljgafkaaDoorProg
import Derived.Test.YtjbcmedljgafkaaDoorZq28
import Derived.Lib.AppendStr
import Derived.Lib.Hide
import Derived.Laws.IdiomStrings
import Derived.ProofKit
import Derived.Handy
import Derived.Lib.Strings
import Derived.Lib.SmallJoins
import Derived.Test.YtjbcmedljgafkaaDoorZq31
import Derived.Test.YtjbcmedljgafkaaDoorZq5
import Derived.Test.YtjbcmedljgafkaaDoorZq30
import Derived.Test.YtjbcmedljgafkaaDoorZq9
/-
  Whether two lists of objects are one, as the statements ask it. No condition but that both are of at most a hundred.
-/

namespace Go.Proofs.YtjbcmedljgafkaaDoor.objs
open Go.RowKit Go.ChangeShapes
set_option linter.unusedVariables false

end Go.Proofs.YtjbcmedljgafkaaDoor.objs

/-
  Whether two waits are one, as the statements ask it. No condition but that both have at most six ways, each of at most six needs.
-/

namespace Go.Proofs.YtjbcmedljgafkaaDoor.need
open Go.RowKit Go.ChangeShapes
open Go.Proofs.YtjbcmedljgafkaaDoor.objs (De zero CellsAt DAt below_drewN)
set_option linter.unusedVariables false

end Go.Proofs.YtjbcmedljgafkaaDoor.need

/-
  The writer's calls, each by itself: what bytes a byte, a number, a number with a sign and a text lay behind what was put. The bytes put are together at most two to the forty-seventh.
-/

namespace Go.Proofs.YtjbcmedljgafkaaDoor.octet
open Go.RowKit Go.ChangeShapes

/-- The number is one of sixty-four bits. -/
def Fits (n : Nat) : Prop := n < 18446744073709551616

end Go.Proofs.YtjbcmedljgafkaaDoor.octet

/-
  One call that puts something: what it lays behind what was put; and the document's own bytes of it. The bytes put are together at most two to the forty-seventh.
-/

namespace Go.Proofs.YtjbcmedljgafkaaDoor.octet
open Go.RowKit Go.ChangeShapes
set_option linter.unusedVariables false

/-- What is put: which kind, and its number, number with a sign, text. -/
structure OpD where
  kind : Int
  n : Nat
  i : Int
  s : ByteArray
def OpD.fits (o : OpD) : Prop := Fits o.n ∧ -9223372036854775808 ≤ o.i ∧ o.i ≤ 9223372036854775807
def OpD.bytes (o : OpD) : List UInt8 := if o.kind = 0 then [UInt8.ofNat (o.n % 256)] else if o.kind = 1 then num o.n else if o.kind = 2 then num (zig o.i) else num o.s.size ++ o.s.data.toList
end Go.Proofs.YtjbcmedljgafkaaDoor.octet

/-
  The document's decimals of any number. No condition but that it is an int.
-/

namespace Go.Proofs.YtjbcmedljgafkaaDoor.need
open Go.RowKit Go.ChangeShapes

set_option linter.unusedVariables false

end Go.Proofs.YtjbcmedljgafkaaDoor.need

/-
  The document's own bytes of a wait. No condition but that its numbers are small.
-/

namespace Go.Proofs.YtjbcmedljgafkaaDoor.need
open Go.RowKit Go.ChangeShapes
open Go.Proofs.YtjbcmedljgafkaaDoor.octet (num Fits)
open Go.Proofs.YtjbcmedljgafkaaDoor.objs (De zero CellsAt DAt)
set_option linter.unusedVariables false

/-- While a need is put: the wait, and the need that is put, in a block of its own. -/
structure P9 (w : World) (A : Option Addr) (l : List (List De)) (g : Nat) (k a b : Int) (W : World) : Prop where
  list : WAt W A l
  below : Below w.heap.size w W
  box : W.heap[g]? = some (needBox k a b)
theorem P9.next {w W W' : World} {A : Option Addr} {l : List (List De)} {g : Nat} {k a b : Int} (h : P9 w A l g k a b W) (hb : Below W.heap.size W W') : P9 w A l g k a b W' :=
  ⟨h.list.next hb, h.below.trans (hb.mono h.below.size), (hb.block g (lt_of_block h.box)).trans h.box⟩
theorem P9.cells {w W : World} {A : Option Addr} {l : List (List De)} {g : Nat} {k a b : Int} (h : P9 w A l g k a b W) :
    W.cell? ⟨g, 0, none⟩ = some (.int .i64 k) ∧ W.cell? ⟨g, 1, none⟩ = some (.int .i64 a) ∧ W.cell? ⟨g, 2, none⟩ = some (.int .i64 b) := by
  unfold World.cell?
  rw [h.box]
  exact ⟨rfl, rfl, rfl⟩
end Go.Proofs.YtjbcmedljgafkaaDoor.need

/-
  The document's own bytes of objects that may be. No condition but that they may be.
-/

namespace Go.Proofs.YtjbcmedljgafkaaDoor.objs
open Go.RowKit Go.ChangeShapes
open Go.Proofs.YtjbcmedljgafkaaDoor.octet (num zig Fits)
open Go.Proofs.YtjbcmedljgafkaaDoor.word (Word)
set_option linter.unusedVariables false

/-- While objects are put: the list, and the one that is put, in a block of its own. -/
structure PS (w : World) (A : Option Addr) (l : List De) (g : Nat) (k a b : Int) (W : World) : Prop where
  list : DAt W A l
  below : Below w.heap.size w W
  box : W.heap[g]? = some (declBox k a b)
  old : w.heap.size ≤ g
theorem PS.next {w W W' : World} {A : Option Addr} {l : List De} {g : Nat} {k a b : Int} (h : PS w A l g k a b W) (hb : Below W.heap.size W W') : PS w A l g k a b W' :=
  ⟨h.list.next hb, h.below.trans (hb.mono h.below.size), (hb.block g (lt_of_block h.box)).trans h.box, h.old⟩
theorem PS.cells {w W : World} {A : Option Addr} {l : List De} {g : Nat} {k a b : Int} (h : PS w A l g k a b W) :
    W.cell? ⟨g, 0, none⟩ = some (.int .i64 k) ∧ W.cell? ⟨g, 1, none⟩ = some (.int .i64 a) ∧ W.cell? ⟨g, 2, none⟩ = some (.int .i64 b) := by
  have := h.box
  unfold World.cell?
  rw [this]
  exact ⟨rfl, rfl, rfl⟩
end Go.Proofs.YtjbcmedljgafkaaDoor.objs

/-
  The document's own bytes of an instruction that may be. No condition but that it may be.
-/

namespace Go.Proofs.YtjbcmedljgafkaaDoor.inst
open Go.RowKit Go.ChangeShapes
open Go.Proofs.YtjbcmedljgafkaaDoor.oper (ret_int ret_bool)
open Go.Proofs.YtjbcmedljgafkaaDoor.octet (num zig)
open Go.Proofs.YtjbcmedljgafkaaDoor.word (Word)
set_option linter.unusedVariables false

theorem Stand.glt {w W : World} {o a b : Int} {g : Nat} (h : Stand w o a b g W) : g < W.heap.size := by
  rcases Nat.lt_or_ge g W.heap.size with h1 | h1
  · exact h1
  · have := h.s0
    simp [World.cell?, Array.getElem?_eq_none h1] at this
theorem Stand.next {w W W' : World} {o a b : Int} {g : Nat} (h : Stand w o a b g W) (hb : Below W.heap.size W W') : Stand w o a b g W' :=
  ⟨h.below.trans (hb.mono (Nat.le_of_lt h.size)), Nat.lt_of_lt_of_le h.size hb.size, (hb.cell (p := ⟨w.heap.size, 0, none⟩) h.size).trans h.c0, (hb.cell (p := ⟨w.heap.size, 1, none⟩) h.size).trans h.c1, (hb.cell (p := ⟨w.heap.size, 2, none⟩) h.size).trans h.c2, (hb.cell (p := ⟨g, 0, none⟩) h.glt).trans h.s0, (hb.cell (p := ⟨g, 1, none⟩) h.glt).trans h.s1⟩

end Go.Proofs.YtjbcmedljgafkaaDoor.inst

/-
  The document's own bytes of a program that may be. No condition but that it may be.
-/

namespace Go.Proofs.YtjbcmedljgafkaaDoor.pgm
open Go.RowKit Go.ChangeShapes
open Go.Proofs.YtjbcmedljgafkaaDoor.octet (num Fits)
open Go.Proofs.YtjbcmedljgafkaaDoor.objs (De zero DAt)
open Go.Proofs.YtjbcmedljgafkaaDoor.need (WAt chkW chkW_zero)
set_option linter.unusedVariables false

/-- While a function is put: it stands in a block of its own. -/
structure PF (w W0 : World) (g : Nat) (a l : Int) (A : Option Addr) (n c : Nat) (co : List De) (W : World) : Prop where
  below : Below (w.heap.size + 1) W0 W
  size : w.heap.size + 1 ≤ W.heap.size
  box : W.heap[g]? = some (fnBox a l (.slice A n c))
  code : DAt W A co
theorem PF.next {w W0 W W' : World} {g : Nat} {a l : Int} {A : Option Addr} {n c : Nat} {co : List De} (h : PF w W0 g a l A n c co W) (hb : Below W.heap.size W W') : PF w W0 g a l A n c co W' :=
  ⟨h.below.trans (hb.mono h.size), Nat.le_trans h.size hb.size, (hb.block g (lt_of_block h.box)).trans h.box, h.code.next hb⟩
theorem PF.drew {w W0 W : World} {g : Nat} {a l : Int} {A : Option Addr} {n c : Nat} {co : List De} (h : PF w W0 g a l A n c co W) : PF w W0 g a l A n c co W.drew := ⟨h.below.drew, h.size, h.box, h.code.drew⟩
theorem PF.cells {w W0 W : World} {g : Nat} {a l : Int} {A : Option Addr} {n c : Nat} {co : List De} (h : PF w W0 g a l A n c co W) :
    W.cell? ⟨g, 0, none⟩ = some (.int .i64 a) ∧ W.cell? ⟨g, 1, none⟩ = some (.int .i64 l) ∧ W.cell? ⟨g, 2, none⟩ = some (.slice A n c) := by
  unfold World.cell?
  rw [h.box]
  exact ⟨rfl, rfl, rfl⟩

end Go.Proofs.YtjbcmedljgafkaaDoor.pgm

/-
  Whether two programs are one, as the statements ask it. No condition but that no list of either is long.
-/

namespace Go.Proofs.YtjbcmedljgafkaaDoor.pgm
open Go.RowKit Go.ChangeShapes
open Go.Proofs.YtjbcmedljgafkaaDoor.objs (De zero DAt below_drewN cells3)
open Go.Proofs.YtjbcmedljgafkaaDoor.need (WAt)
set_option linter.unusedVariables false

def pgX (a v u : Value) : Obj := .cells #[a, v, u] 26
def fnX (ar lo : Int) (v : Value) : Obj := .cells #[.int .i64 ar, .int .i64 lo, v] 58
/-- The boxes of both programs. -/
structure Bx (w : World) (a0 a1 a2 b0 b1 b2 : Value) (W : World) : Prop where
  below : Below w.heap.size w W
  a : W.heap[w.heap.size]? = some (pgX a0 a1 a2)
  b : W.heap[w.heap.size + 1]? = some (pgX b0 b1 b2)
theorem Bx.next {w W W' : World} {a0 a1 a2 b0 b1 b2 : Value} (h : Bx w a0 a1 a2 b0 b1 b2 W) (hb : Below W.heap.size W W') : Bx w a0 a1 a2 b0 b1 b2 W' :=
  ⟨h.below.trans (hb.mono h.below.size), (hb.block _ (lt_of_block h.a)).trans h.a, (hb.block _ (lt_of_block h.b)).trans h.b⟩
theorem Bx.drewN {w W : World} {a0 a1 a2 b0 b1 b2 : Value} (h : Bx w a0 a1 a2 b0 b1 b2 W) (n : Nat) : Bx w a0 a1 a2 b0 b1 b2 (W.drewN n) := h.next (Go.Proofs.YtjbcmedljgafkaaDoor.objs.below_drewN (Below.refl _ W) n)
theorem Bx.new (w : World) (a0 a1 a2 b0 b1 b2 : Value) : Bx w a0 a1 a2 b0 b1 b2 ((w.alloc (pgX a0 a1 a2)).alloc (pgX b0 b1 b2)) := by
  have hz : (w.alloc (pgX a0 a1 a2)).heap.size = w.heap.size + 1 := World.size_alloc _ _
  refine ⟨((Below.refl _ w).alloc (Nat.le_refl _) _).alloc (by omega) _, (Below.heap_alloc _ _ _ (by omega)).trans (heap_alloc_new w _), ?_⟩
  rw [← hz]
  exact heap_alloc_new _ _
/-- The boxes of two functions beside them. -/
structure Bf (w : World) (a0 a1 a2 b0 b1 b2 : Value) (g h : Nat) (la ll : Int) (va : Value) (ma ml : Int) (vb : Value) (W : World) : Prop where
  bx : Bx w a0 a1 a2 b0 b1 b2 W
  f : W.heap[g]? = some (fnX la ll va)
  k : W.heap[h]? = some (fnX ma ml vb)
theorem Bf.next {w W W' : World} {a0 a1 a2 b0 b1 b2 : Value} {g h : Nat} {la ll ma ml : Int} {va vb : Value} (H : Bf w a0 a1 a2 b0 b1 b2 g h la ll va ma ml vb W) (hb : Below W.heap.size W W') : Bf w a0 a1 a2 b0 b1 b2 g h la ll va ma ml vb W' :=
  ⟨H.bx.next hb, (hb.block _ (lt_of_block H.f)).trans H.f, (hb.block _ (lt_of_block H.k)).trans H.k⟩
theorem Bf.drewN {w W : World} {a0 a1 a2 b0 b1 b2 : Value} {g h : Nat} {la ll ma ml : Int} {va vb : Value} (H : Bf w a0 a1 a2 b0 b1 b2 g h la ll va ma ml vb W) (n : Nat) : Bf w a0 a1 a2 b0 b1 b2 g h la ll va ma ml vb (W.drewN n) := H.next (Go.Proofs.YtjbcmedljgafkaaDoor.objs.below_drewN (Below.refl _ W) n)
theorem two_below (W : World) (O O2 : Obj) : Below W.heap.size W ((W.alloc O).alloc O2).drew := (((Below.refl _ W).alloc (Nat.le_refl _) _).alloc (by rw [World.size_alloc]; omega) _).drew
theorem two_first (W : World) (O O2 : Obj) : ((W.alloc O).alloc O2).heap[W.heap.size]? = some O := (Below.heap_alloc _ _ _ (by rw [World.size_alloc]; omega)).trans (heap_alloc_new W _)
theorem two_last (W : World) (O O2 : Obj) : ((W.alloc O).alloc O2).heap[W.heap.size + 1]? = some O2 := by rw [← World.size_alloc W O]; exact heap_alloc_new _ _
theorem Bx.two {w W : World} {a0 a1 a2 b0 b1 b2 : Value} (h : Bx w a0 a1 a2 b0 b1 b2 W) (la ll : Int) (va : Value) (ma ml : Int) (vb : Value) : Bf w a0 a1 a2 b0 b1 b2 W.heap.size (W.heap.size + 1) la ll va ma ml vb ((W.alloc (fnX la ll va)).alloc (fnX ma ml vb)).drew :=
  ⟨h.next (two_below _ _ _), two_first _ _ _, two_last _ _ _⟩
end Go.Proofs.YtjbcmedljgafkaaDoor.pgm

/-
  A program copied into memory of its own, as the statements do it. No condition.
-/

namespace Go.Proofs.YtjbcmedljgafkaaDoor.pgm
open Go.RowKit Go.ChangeShapes
open Go.Proofs.YtjbcmedljgafkaaDoor.objs (De zero DAt put3 cells3 put3_same put3_far put3_below step_appD)
open Go.Proofs.YtjbcmedljgafkaaDoor.need (WAt WG OwnW own_more OwnMore)
set_option linter.unusedVariables false

/-- What a copy of a program is. -/
def OwnPost10 (p : Pg) (w : World) (e : Ending) (w' : World) : Prop := ∃ v, e = .returned v ∧ Stays w' w.heap.size w'.heap.size (fun W' => PAt W' v p ∧ PG W' v p) ∧ Below w.heap.size w w'
theorem OwnV.wg6 {W : World} {base n cap : Nat} {A : Option Addr} {l : List (List (List De))} (h : OwnV W base (.slice A n cap) l) (hl : l.length ≤ 40) (hll : ∀ x ∈ l, x.length ≤ 6 ∧ ∀ y ∈ x, y.length ≤ 6) : WsG W A l.length l := by
  refine ⟨by omega, fun j hj => ?_⟩
  obtain ⟨xs, h1, h2⟩ := h
  obtain ⟨x, h3, h4⟩ := h2 j hj
  have h6 := hll _ (getD_in (d := []) hj)
  rcases h1.2 with ⟨e, h0⟩ | ⟨g, cap', cur, e, hb, hh, _⟩
  · omega
  · injection e with e1 e2 e3
    subst e1
    have hcell : W.cell? ⟨g, 0 + j, none⟩ = some x := by
      have := World.ownsRow.cells h1 (g := g) rfl _ _ h3
      rwa [Addr.add_lit] at this
    obtain ⟨Aj, cj, rfl⟩ := h4.slice
    have hw := h4.whole h6.1 h6.2
    obtain ⟨ys, k1, _⟩ := h4
    rcases k1.2 with ⟨e, h0⟩ | ⟨g', c', cur', e, hb', hh', hn, hm, _⟩
    · injection e with q1 q2 q3
      subst q1 q3
      exact ⟨g, 0, none, (l.getD j []).length, 0, rfl, lt_of_block hh, hcell, hw, by omega, by omega, fun _ => ⟨h0, rfl⟩⟩
    · injection e with q1 q2 q3
      subst q1 q3
      exact ⟨g, 0, some ⟨g', 0, none⟩, (l.getD j []).length, cj, rfl, lt_of_block hh, hcell, hw, hn, by simpa [maxLen] using hm, fun h => by cases h⟩
theorem OwnF.fg6 {W : World} {base n cap : Nat} {A : Option Addr} {l : List Fn} (h : OwnF W base (.slice A n cap) l) (hl : l.length ≤ 20) (hll : ∀ f ∈ l, f.co.length ≤ 250) : FsG W A l.length l := by
  refine ⟨by omega, fun j hj => ?_⟩
  obtain ⟨xs, h1, h2⟩ := h
  obtain ⟨e1, e2, x, h3, h4⟩ := h2 j hj
  have h6 := hll _ (getD_in (d := Fn.zero) hj)
  rcases h1.2 with ⟨e, h0⟩ | ⟨g, cap', cur, e, hb, hh, _⟩
  · omega
  · injection e with q1 q2 q3
    subst q1
    obtain ⟨Aj, cj, rfl⟩ := h4.slice
    have at_ : ∀ i u, xs[i]? = some u → W.cell? ⟨g, 0 + i, none⟩ = some u := fun i u hu => by
      have := World.ownsRow.cells h1 (g := g) rfl _ _ hu
      rwa [Addr.add_lit] at this
    have hd := h4.at
    rcases h4.2 with ⟨e, h0⟩ | ⟨g', c', cur', e, hb', hh', hn, hm, _⟩
    · injection e with q1 q2 q3
      subst q1 q3
      exact ⟨g, 0, none, (l.getD j Fn.zero).co.length, 0, rfl, lt_of_block hh, ⟨at_ _ _ e1, at_ _ _ e2, at_ _ _ h3⟩, hd, by omega, by omega, by omega, fun _ => ⟨h0, rfl⟩⟩
    · injection e with q1 q2 q3
      subst q1 q3
      exact ⟨g, 0, some ⟨g', 0, none⟩, (l.getD j Fn.zero).co.length, cj, rfl, lt_of_block hh, ⟨at_ _ _ e1, at_ _ _ e2, at_ _ _ h3⟩, hd, by omega, hn, by simpa [maxLen] using hm, fun h => by cases h⟩
/-- What came in is short, as the copy cuts it. -/
theorem WsG.short {w : World} {A : Option Addr} {n : Nat} {l : List (List (List De))} (h : WsG w A n l) : l.length ≤ 40 ∧ ∀ x ∈ l, x.length ≤ 6 ∧ ∀ y ∈ x, y.length ≤ 6 := by
  refine ⟨by have := h.1; omega, fun x hx => ?_⟩
  obtain ⟨j, hj, rfl⟩ := List.getElem_of_mem hx
  obtain ⟨_, _, _, _, _, _, _, _, hw, _⟩ := h.2 j hj
  rw [getD_at hj] at hw
  exact hw.short
theorem FsG.short {w : World} {A : Option Addr} {n : Nat} {l : List Fn} (h : FsG w A n l) : l.length ≤ 20 ∧ ∀ f ∈ l, f.co.length ≤ 250 := by
  refine ⟨by have := h.1; omega, fun x hx => ?_⟩
  obtain ⟨j, hj, rfl⟩ := List.getElem_of_mem hx
  obtain ⟨_, _, _, _, _, _, _, _, _, h5, _⟩ := h.2 j hj
  rw [getD_at hj] at h5
  omega
theorem take_one {α : Type} {l : List α} {j : Nat} {d : α} (h : j < l.length) : l.take (j + 1) = l.take j ++ [l.getD j d] := by
  rw [List.take_add_one, getD_at h, List.getElem?_eq_getElem h]
  rfl
theorem pg_set0 {W : World} {b : Nat} {a v u : Value} (h : W.heap[b]? = some (pgB a v u)) (x : Value) : (W.setCell ⟨b, 0, none⟩ x).heap[b]? = some (pgB x v u) := by
  simp [World.setCell, Array.getElem?_modify, h, pgB]
/-- The boxes: the program that came in, the result, the copy as it grows. -/
structure Ob (w : World) (p0 p1 p2 d v u : Value) (W : World) : Prop where
  below : Below w.heap.size w W
  a : W.heap[w.heap.size]? = some (pgB p0 p1 p2)
  r : W.heap[w.heap.size + 1]? = some (pgB sN sN sN)
  q : W.heap[w.heap.size + 1 + 1]? = some (pgB d v u)
theorem Ob.next {w W W' : World} {p0 p1 p2 d v u : Value} (h : Ob w p0 p1 p2 d v u W) (hb : Below W.heap.size W W') : Ob w p0 p1 p2 d v u W' :=
  ⟨h.below.trans (hb.mono h.below.size), (hb.block _ (lt_of_block h.a)).trans h.a, (hb.block _ (lt_of_block h.r)).trans h.r, (hb.block _ (lt_of_block h.q)).trans h.q⟩
theorem Ob.lt {w W : World} {p0 p1 p2 d v u : Value} (h : Ob w p0 p1 p2 d v u W) : w.heap.size + 1 + 1 + 1 ≤ W.heap.size := lt_of_block h.q
theorem Ob.grown {w W Wa W3 : World} {p0 p1 p2 d v u : Value} {ob : Option Nat} (h : Ob w p0 p1 p2 d v u W) (h1 : Below W.heap.size W Wa) (hg : Wa.grownBy W3 ob) (hlo : ∀ i, ob = some i → w.heap.size + 1 + 1 < i) : Ob w p0 p1 p2 d v u W3 := by
  have hs := h1.size
  have hfar : ∀ i, i < W.heap.size → i ≤ w.heap.size + 1 + 1 → W3.heap[i]? = W.heap[i]? := fun i hi hne => (hg.block i (by omega) (fun e => by have := hlo i e.symm; omega)).trans (h1.block i hi)
  exact ⟨(h.below.trans (h1.mono h.below.size)).grown hg (by have := h.below.size; omega) (fun i e => by have := hlo i e; omega), (hfar _ (lt_of_block h.a) (by omega)).trans h.a, (hfar _ (lt_of_block h.r) (by omega)).trans h.r, (hfar _ (lt_of_block h.q) (Nat.le_refl _)).trans h.q⟩
theorem Ob.set {w W : World} {p0 p1 p2 d v u d' v' u' : Value} (h : Ob w p0 p1 p2 d v u W) {i : Nat} {x : Value} (hx : (W.setCell ⟨w.heap.size + 1 + 1, i, none⟩ x).heap[w.heap.size + 1 + 1]? = some (pgB d' v' u')) : Ob w p0 p1 p2 d' v' u' (W.setCell ⟨w.heap.size + 1 + 1, i, none⟩ x) := by
  have hs : ∀ g, g ≠ w.heap.size + 1 + 1 → (W.setCell ⟨w.heap.size + 1 + 1, i, none⟩ x).heap[g]? = W.heap[g]? := fun g hg => Below.heap_setCell W ⟨w.heap.size + 1 + 1, i, none⟩ _ g hg
  exact ⟨h.below.setCell (p := ⟨w.heap.size + 1 + 1, i, none⟩) (by show w.heap.size ≤ w.heap.size + 1 + 1; omega) _, (hs _ (by omega)).trans h.a, (hs _ (by omega)).trans h.r, hx⟩
theorem Ob.new (w : World) (p0 p1 p2 : Value) : Ob w p0 p1 p2 sN sN sN (((w.alloc (pgB p0 p1 p2)).alloc (pgB sN sN sN)).alloc (pgB sN sN sN)) := by
  have hz1 : (w.alloc (pgB p0 p1 p2)).heap.size = w.heap.size + 1 := World.size_alloc _ _
  have hz2 : ((w.alloc (pgB p0 p1 p2)).alloc (pgB sN sN sN)).heap.size = w.heap.size + 1 + 1 := by rw [World.size_alloc, hz1]
  refine ⟨(((Below.refl _ w).alloc (Nat.le_refl _) _).alloc (by omega) _).alloc (by omega) _, (Below.heap_alloc _ _ _ (by omega)).trans ((Below.heap_alloc _ _ _ (by omega)).trans (heap_alloc_new w _)), (Below.heap_alloc _ _ _ (by omega)).trans (by rw [← hz1]; exact heap_alloc_new _ _), by rw [← hz2]; exact heap_alloc_new _ _⟩
/-- The objects are copied: the waits grow. -/
structure Om (w : World) (p0 p1 p2 d v u : Value) (ds : List De) (M : Nat) (W : World) : Prop where
  o : Ob w p0 p1 p2 d v u W
  hd : Stays W (w.heap.size + 1 + 1 + 1) M (fun W' => Go.Proofs.YtjbcmedljgafkaaDoor.objs.Own W' (w.heap.size + 1 + 1 + 1) d ds)
  hm : w.heap.size + 1 + 1 + 1 ≤ M
theorem Om.next {w W W' : World} {p0 p1 p2 d v u : Value} {ds : List De} {M : Nat} (h : Om w p0 p1 p2 d v u ds M W) (hb : Below W.heap.size W W') : Om w p0 p1 p2 d v u ds M W' := ⟨h.o.next hb, h.hd.next hb, h.hm⟩
theorem Om.grown {w W Wa W3 : World} {p0 p1 p2 d v u : Value} {ds : List De} {M : Nat} {ob : Option Nat} (h : Om w p0 p1 p2 d v u ds M W) (h1 : Below W.heap.size W Wa) (hg : Wa.grownBy W3 ob) (hlo : ∀ i, ob = some i → M ≤ i) : Om w p0 p1 p2 d v u ds M W3 :=
  have hm := h.hm
  ⟨h.o.grown h1 hg fun i e => by have := hlo i e; omega, h.hd.keep (Nat.le_trans h1.size hg.size) fun g _ hgm => (hg.block g (by have := h.hd.1; have := h1.size; omega) (fun e => by have := hlo _ e.symm; omega)).trans (h1.block g (by have := h.hd.1; omega)), hm⟩
theorem Om.set {w W : World} {p0 p1 p2 d v u v' u' : Value} {ds : List De} {M : Nat} (h : Om w p0 p1 p2 d v u ds M W) {i : Nat} {x : Value} (hx : (W.setCell ⟨w.heap.size + 1 + 1, i, none⟩ x).heap[w.heap.size + 1 + 1]? = some (pgB d v' u')) : Om w p0 p1 p2 d v' u' ds M (W.setCell ⟨w.heap.size + 1 + 1, i, none⟩ x) :=
  ⟨h.o.set hx, h.hd.keep (by simp [World.setCell]) fun g hl _ => Below.heap_setCell W ⟨w.heap.size + 1 + 1, i, none⟩ _ g (by show g ≠ w.heap.size + 1 + 1; omega), h.hm⟩
theorem Om.start {w W : World} {p0 p1 p2 d : Value} {ds : List De} (h : Ob w p0 p1 p2 d sN sN W) (ho : Go.Proofs.YtjbcmedljgafkaaDoor.objs.Own W (w.heap.size + 1 + 1 + 1) d ds) : Om w p0 p1 p2 d sN sN ds W.heap.size W := ⟨h, Own.stays ho, h.lt⟩
/-- The waits are copied, too: the functions grow. -/
structure On (w : World) (p0 p1 p2 d v u : Value) (ds : List De) (ws : List (List (List De))) (M N : Nat) (W : World) : Prop where
  m : Om w p0 p1 p2 d v u ds M W
  hv : Stays W M N (fun W' => OwnV W' M v ws)
  hn : M ≤ N
theorem On.next {w W W' : World} {p0 p1 p2 d v u : Value} {ds : List De} {ws : List (List (List De))} {M N : Nat} (h : On w p0 p1 p2 d v u ds ws M N W) (hb : Below W.heap.size W W') : On w p0 p1 p2 d v u ds ws M N W' := ⟨h.m.next hb, h.hv.next hb, h.hn⟩
theorem On.grown {w W Wa W3 : World} {p0 p1 p2 d v u : Value} {ds : List De} {ws : List (List (List De))} {M N : Nat} {ob : Option Nat} (h : On w p0 p1 p2 d v u ds ws M N W) (h1 : Below W.heap.size W Wa) (hg : Wa.grownBy W3 ob) (hlo : ∀ i, ob = some i → N ≤ i) : On w p0 p1 p2 d v u ds ws M N W3 :=
  have hm := h.hn
  ⟨h.m.grown h1 hg fun i e => by have := hlo i e; omega, h.hv.keep (Nat.le_trans h1.size hg.size) fun g _ hgm => (hg.block g (by have := h.hv.1; have := h1.size; omega) (fun e => by have := hlo _ e.symm; omega)).trans (h1.block g (by have := h.hv.1; omega)), hm⟩
theorem On.set {w W : World} {p0 p1 p2 d v u u' : Value} {ds : List De} {ws : List (List (List De))} {M N : Nat} (h : On w p0 p1 p2 d v u ds ws M N W) {i : Nat} {x : Value} (hx : (W.setCell ⟨w.heap.size + 1 + 1, i, none⟩ x).heap[w.heap.size + 1 + 1]? = some (pgB d v u')) : On w p0 p1 p2 d v u' ds ws M N (W.setCell ⟨w.heap.size + 1 + 1, i, none⟩ x) :=
  ⟨h.m.set hx, h.hv.keep (by simp [World.setCell]) fun g hl _ => Below.heap_setCell W ⟨w.heap.size + 1 + 1, i, none⟩ _ g (by have := h.m.hm; show g ≠ w.heap.size + 1 + 1; omega), h.hn⟩
theorem On.start {w W : World} {p0 p1 p2 d v : Value} {ds : List De} {ws : List (List (List De))} {M : Nat} (h : Om w p0 p1 p2 d v sN ds M W) (ho : OwnV W M v ws) : On w p0 p1 p2 d v sN ds ws M W.heap.size W := ⟨h, ho.stays, h.hd.1⟩
theorem OwnF.stays {W : World} {base : Nat} {v : Value} {l : List Fn} (h : OwnF W base v l) : Stays W base W.heap.size (fun W' => OwnF W' base v l) := ⟨Nat.le_refl _, fun W' _ hk => h.hold hk⟩
/-- A function is copied: its block, and its code as it grows. -/
structure Of (w : World) (p0 p1 p2 d v u : Value) (ds : List De) (ws : List (List (List De))) (M N : Nat) (fl : List Fn) (g : Nat) (ar lo : Int) (c : Value) (W : World) : Prop where
  n : On w p0 p1 p2 d v u ds ws M N W
  hf : Stays W N g (fun W' => OwnF W' N u fl)
  hg : W.heap[g]? = some (fnX ar lo c)
  hn : N ≤ g
theorem Of.next {w W W' : World} {p0 p1 p2 d v u : Value} {ds : List De} {ws : List (List (List De))} {M N : Nat} {fl : List Fn} {g : Nat} {ar lo : Int} {c : Value} (h : Of w p0 p1 p2 d v u ds ws M N fl g ar lo c W) (hb : Below W.heap.size W W') : Of w p0 p1 p2 d v u ds ws M N fl g ar lo c W' :=
  ⟨h.n.next hb, h.hf.next hb, (hb.block _ (lt_of_block h.hg)).trans h.hg, h.hn⟩
theorem Of.new {w W : World} {p0 p1 p2 d v u : Value} {ds : List De} {ws : List (List (List De))} {M N : Nat} {fl : List Fn} (h : On w p0 p1 p2 d v u ds ws M N W) (ho : OwnF W N u fl) (ar lo : Int) (c : Value) : Of w p0 p1 p2 d v u ds ws M N fl W.heap.size ar lo c (W.alloc (fnX ar lo c)).drew := by
  have hb : Below W.heap.size W (W.alloc (fnX ar lo c)).drew := ((Below.refl _ W).alloc (Nat.le_refl _) _).drew
  exact ⟨h.next hb, ho.stays.next hb, heap_alloc_new W _, h.hv.1⟩
theorem Of.grown {w W Wa W3 : World} {p0 p1 p2 d v u : Value} {ds : List De} {ws : List (List (List De))} {M N : Nat} {fl : List Fn} {g : Nat} {ar lo : Int} {c : Value} {ob : Option Nat} (h : Of w p0 p1 p2 d v u ds ws M N fl g ar lo c W) (h1 : Below W.heap.size W Wa) (hg : Wa.grownBy W3 ob) (hlo : ∀ i, ob = some i → g < i) : Of w p0 p1 p2 d v u ds ws M N fl g ar lo c W3 :=
  have hm := h.hn
  have hgl := lt_of_block h.hg
  have hs := h1.size
  ⟨h.n.grown h1 hg fun i e => by have := hlo i e; omega, h.hf.keep (Nat.le_trans h1.size hg.size) fun b _ hgm => (hg.block b (by omega) (fun e => by have := hlo _ e.symm; omega)).trans (h1.block b (by omega)), ((hg.block g (by omega) (fun e => by have := hlo _ e.symm; omega)).trans (h1.block g hgl)).trans h.hg, hm⟩
theorem Of.set {w W : World} {p0 p1 p2 d v u : Value} {ds : List De} {ws : List (List (List De))} {M N : Nat} {fl : List Fn} {g : Nat} {ar lo : Int} {c : Value} (h : Of w p0 p1 p2 d v u ds ws M N fl g ar lo c W) (x : Value) : Of w p0 p1 p2 d v u ds ws M N fl g ar lo x (W.setCell ⟨g, 2, none⟩ x) := by
  have e1 := h.n.m.hm
  have e2 := h.n.hn
  have e3 := h.hn
  have hs : ∀ b, b ≠ g → (W.setCell ⟨g, 2, none⟩ x).heap[b]? = W.heap[b]? := fun b hb => Below.heap_setCell W ⟨g, 2, none⟩ _ b hb
  have hz : (W.setCell ⟨g, 2, none⟩ x).heap.size = W.heap.size := by simp [World.setCell]
  refine ⟨⟨⟨⟨h.n.m.o.below.setCell (p := ⟨g, 2, none⟩) (by show w.heap.size ≤ g; omega) _, (hs _ (by omega)).trans h.n.m.o.a, (hs _ (by omega)).trans h.n.m.o.r, (hs _ (by omega)).trans h.n.m.o.q⟩, h.n.m.hd.keep (by omega) fun b _ hb => hs b (by omega), h.n.m.hm⟩, h.n.hv.keep (by omega) fun b _ hb => hs b (by omega), h.n.hn⟩, h.hf.keep (by omega) fun b _ hb => hs b (by omega), ?_, h.hn⟩
  have := h.hg
  simp [World.setCell, Array.getElem?_modify, this, fnX]
theorem Own.caps {W : World} {base n c : Nat} {A : Option Addr} {l : List De} (h : Go.Proofs.YtjbcmedljgafkaaDoor.objs.Own W base (.slice A n c) l) : (A = none → n = 0 ∧ c = 0) ∧ n ≤ c ∧ c ≤ 9223372036854775807 := by
  rcases h.2 with ⟨e, h0⟩ | ⟨g, cap, cur, e, hb, hh, hn, hm, _⟩
  · injection e with q1 q2 q3
    subst q1 q2 q3
    exact ⟨fun _ => ⟨rfl, rfl⟩, by omega, by omega⟩
  · injection e with q1 q2 q3
    subst q1 q2 q3
    exact ⟨fun h => (by cases h), hn, by simpa [maxLen] using hm⟩
theorem OwnV.caps {W : World} {base n c : Nat} {A : Option Addr} {l : List (List (List De))} (h : OwnV W base (.slice A n c) l) : (A = none → n = 0 ∧ c = 0) ∧ n ≤ c ∧ c ≤ 9223372036854775807 := by
  obtain ⟨xs, h, _⟩ := h
  rcases h.2 with ⟨e, h0⟩ | ⟨g, cap, cur, e, hb, hh, hn, hm, _⟩
  · injection e with q1 q2 q3
    subst q1 q2 q3
    exact ⟨fun _ => ⟨rfl, rfl⟩, by omega, by omega⟩
  · injection e with q1 q2 q3
    subst q1 q2 q3
    exact ⟨fun h => (by cases h), hn, by simpa [maxLen] using hm⟩
theorem OwnF.caps {W : World} {base n c : Nat} {A : Option Addr} {l : List Fn} (h : OwnF W base (.slice A n c) l) : (A = none → n = 0 ∧ c = 0) ∧ n ≤ c ∧ c ≤ 9223372036854775807 := by
  obtain ⟨xs, h, _⟩ := h
  rcases h.2 with ⟨e, h0⟩ | ⟨g, cap, cur, e, hb, hh, hn, hm, _⟩
  · injection e with q1 q2 q3
    subst q1 q2 q3
    exact ⟨fun _ => ⟨rfl, rfl⟩, by omega, by omega⟩
  · injection e with q1 q2 q3
    subst q1 q2 q3
    exact ⟨fun h => (by cases h), hn, by simpa [maxLen] using hm⟩
/-- What is answered at the end. -/
theorem On.copy {w W : World} {p0 p1 p2 d v u x y z : Value} {ds : List De} {ws : List (List (List De))} {fs : List Fn} {M N : Nat} (h : On w p0 p1 p2 d v u ds ws M N W) (hF : OwnF W N u fs) (h1 : ds.length ≤ 40) (h2 : ws.length ≤ 40) (h3 : ∀ x ∈ ws, x.length ≤ 6 ∧ ∀ y ∈ x, y.length ≤ 6) (h4 : fs.length ≤ 20) (h5 : ∀ f ∈ fs, f.co.length ≤ 250) :
    Stays (put3 W (w.heap.size + 1) x y z) w.heap.size (put3 W (w.heap.size + 1) x y z).heap.size (fun W' => PAt W' (.agg #[d, v, u]) ⟨ds, ws, fs⟩ ∧ PG W' (.agg #[d, v, u]) ⟨ds, ws, fs⟩) ∧ Below w.heap.size w (put3 W (w.heap.size + 1) x y z) := by
  have e1 := h.m.hm
  have e2 := h.hn
  have far : ∀ g, w.heap.size + 1 + 1 ≤ g → (put3 W (w.heap.size + 1) x y z).heap[g]? = W.heap[g]? := fun g hg => put3_far (by omega) _ _ _
  have hs : (put3 W (w.heap.size + 1) x y z).heap.size = W.heap.size := by simp [put3, World.setCell]
  have sD := h.m.hd.keep (W1 := put3 W (w.heap.size + 1) x y z) (by omega) fun g hl _ => far g (by omega)
  have sV := h.hv.keep (W1 := put3 W (w.heap.size + 1) x y z) (by omega) fun g hl _ => far g (by omega)
  have sF := hF.hold (w' := put3 W (w.heap.size + 1) x y z) fun g hl _ => far g (by omega)
  refine ⟨⟨Nat.le_refl _, fun W' hw hk => ?_⟩, put3_below h.m.o.below (by omega) _ _ _⟩
  have b1 := sD.1
  have b2 := sV.1
  have hD := (sD.keep (W1 := W') hw fun g hl hg => hk g (by omega) (by omega)).now
  have hV := (sV.keep (W1 := W') hw fun g hl hg => hk g (by omega) (by omega)).now
  have hF := sF.hold (w' := W') fun g hl hg => hk g (by omega) hg
  obtain ⟨A, ca, rfl⟩ := hD.slice
  obtain ⟨B, cb, rfl⟩ := hV.slice
  obtain ⟨C, cc, rfl⟩ := hF.slice
  exact ⟨⟨A, B, C, ca, cb, cc, rfl, hD.at, hV.at, hF.at⟩, ⟨A, B, C, _, _, _, ca, cb, cc, rfl, by dsimp only; omega, hD.at, hV.wg6 h2 h3, hF.fg6 h4 h5, (Own.caps hD).1, hV.caps.1, hF.caps.1, (Own.caps hD).2, hV.caps.2, hF.caps.2⟩⟩
end Go.Proofs.YtjbcmedljgafkaaDoor.pgm
