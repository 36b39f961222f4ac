/-
  Texts of one claim in one file: GLawOwn. Each has its own sentence, with its conditions.
-/
import Derived.Test.YtnhoeboighndlaaGreatDoorYall26
import Derived.Test.YtnhoeboighndlaaGreatDoorYall38
import Derived.Test.YtnhoeboighndlaaGreatDoorYall22
/-
  A program copied into memory of its own, as the statements do it. No condition.
-/
namespace Go.Proofs.YtnhoeboighndlaaGreatDoor.pgm
open Go.RowKit Go.ChangeShapes
open Go.Proofs.YtnhoeboighndlaaGreatDoor.objs (De zero DAt put3 cells3 put3_same put3_far put3_below step_appD)
open Go.Proofs.YtnhoeboighndlaaGreatDoor.need (WAt WG OwnW own_more OwnMore)
set_option linter.unusedVariables false

/-- What a copy of a program is. -/
def OwnPost10 (p : Pg) (w : World) (e : Ending) (w' : World) : Prop := ∃ v, e = .returned v ∧ Stays w' w.heap.size w'.heap.size (fun W' => PAt W' v p ∧ PG W' v p) ∧ Below w.heap.size w w'
theorem OwnV.wg6 {W : World} {base n cap : Nat} {A : Option Addr} {l : List (List (List De))} (h : OwnV W base (.slice A n cap) l) (hl : l.length ≤ 40) (hll : ∀ x ∈ l, x.length ≤ 6 ∧ ∀ y ∈ x, y.length ≤ 6) : WsG W A l.length l := by
  refine ⟨by omega, fun j hj => ?_⟩
  obtain ⟨xs, h1, h2⟩ := h
  obtain ⟨x, h3, h4⟩ := h2 j hj
  have h6 := hll _ (getD_in (d := []) hj)
  rcases h1.2 with ⟨e, h0⟩ | ⟨g, cap', cur, e, hb, hh, _⟩
  · omega
  · injection e with e1 e2 e3
    subst e1
    have hcell : W.cell? ⟨g, 0 + j, none⟩ = some x := by
      have := World.ownsRow.cells h1 (g := g) rfl _ _ h3
      rwa [Addr.add_lit] at this
    obtain ⟨Aj, cj, rfl⟩ := h4.slice
    have hw := h4.whole h6.1 h6.2
    obtain ⟨ys, k1, _⟩ := h4
    rcases k1.2 with ⟨e, h0⟩ | ⟨g', c', cur', e, hb', hh', hn, hm, _⟩
    · injection e with q1 q2 q3
      subst q1 q3
      exact ⟨g, 0, none, (l.getD j []).length, 0, rfl, lt_of_block hh, hcell, hw, by omega, by omega, fun _ => ⟨h0, rfl⟩⟩
    · injection e with q1 q2 q3
      subst q1 q3
      exact ⟨g, 0, some ⟨g', 0, none⟩, (l.getD j []).length, cj, rfl, lt_of_block hh, hcell, hw, hn, by simpa [maxLen] using hm, fun h => by cases h⟩
theorem OwnF.fg6 {W : World} {base n cap : Nat} {A : Option Addr} {l : List Fn} (h : OwnF W base (.slice A n cap) l) (hl : l.length ≤ 20) (hll : ∀ f ∈ l, f.co.length ≤ 250) : FsG W A l.length l := by
  refine ⟨by omega, fun j hj => ?_⟩
  obtain ⟨xs, h1, h2⟩ := h
  obtain ⟨e1, e2, x, h3, h4⟩ := h2 j hj
  have h6 := hll _ (getD_in (d := Fn.zero) hj)
  rcases h1.2 with ⟨e, h0⟩ | ⟨g, cap', cur, e, hb, hh, _⟩
  · omega
  · injection e with q1 q2 q3
    subst q1
    obtain ⟨Aj, cj, rfl⟩ := h4.slice
    have at_ : ∀ i u, xs[i]? = some u → W.cell? ⟨g, 0 + i, none⟩ = some u := fun i u hu => by
      have := World.ownsRow.cells h1 (g := g) rfl _ _ hu
      rwa [Addr.add_lit] at this
    have hd := h4.at
    rcases h4.2 with ⟨e, h0⟩ | ⟨g', c', cur', e, hb', hh', hn, hm, _⟩
    · injection e with q1 q2 q3
      subst q1 q3
      exact ⟨g, 0, none, (l.getD j Fn.zero).co.length, 0, rfl, lt_of_block hh, ⟨at_ _ _ e1, at_ _ _ e2, at_ _ _ h3⟩, hd, by omega, by omega, by omega, fun _ => ⟨h0, rfl⟩⟩
    · injection e with q1 q2 q3
      subst q1 q3
      exact ⟨g, 0, some ⟨g', 0, none⟩, (l.getD j Fn.zero).co.length, cj, rfl, lt_of_block hh, ⟨at_ _ _ e1, at_ _ _ e2, at_ _ _ h3⟩, hd, by omega, hn, by simpa [maxLen] using hm, fun h => by cases h⟩
/-- What came in is short, as the copy cuts it. -/
theorem WsG.short {w : World} {A : Option Addr} {n : Nat} {l : List (List (List De))} (h : WsG w A n l) : l.length ≤ 40 ∧ ∀ x ∈ l, x.length ≤ 6 ∧ ∀ y ∈ x, y.length ≤ 6 := by
  refine ⟨by have := h.1; omega, fun x hx => ?_⟩
  obtain ⟨j, hj, rfl⟩ := List.getElem_of_mem hx
  obtain ⟨_, _, _, _, _, _, _, _, hw, _⟩ := h.2 j hj
  rw [getD_at hj] at hw
  exact hw.short
theorem FsG.short {w : World} {A : Option Addr} {n : Nat} {l : List Fn} (h : FsG w A n l) : l.length ≤ 20 ∧ ∀ f ∈ l, f.co.length ≤ 250 := by
  refine ⟨by have := h.1; omega, fun x hx => ?_⟩
  obtain ⟨j, hj, rfl⟩ := List.getElem_of_mem hx
  obtain ⟨_, _, _, _, _, _, _, _, _, h5, _⟩ := h.2 j hj
  rw [getD_at hj] at h5
  omega
theorem take_one {α : Type} {l : List α} {j : Nat} {d : α} (h : j < l.length) : l.take (j + 1) = l.take j ++ [l.getD j d] := by
  rw [List.take_add_one, getD_at h, List.getElem?_eq_getElem h]
  rfl
theorem pg_set0 {W : World} {b : Nat} {a v u : Value} (h : W.heap[b]? = some (pgB a v u)) (x : Value) : (W.setCell ⟨b, 0, none⟩ x).heap[b]? = some (pgB x v u) := by
  simp [World.setCell, Array.getElem?_modify, h, pgB]
/-- The boxes: the program that came in, the result, the copy as it grows. -/
structure Ob (w : World) (p0 p1 p2 d v u : Value) (W : World) : Prop where
  below : Below w.heap.size w W
  a : W.heap[w.heap.size]? = some (pgB p0 p1 p2)
  r : W.heap[w.heap.size + 1]? = some (pgB sN sN sN)
  q : W.heap[w.heap.size + 1 + 1]? = some (pgB d v u)
theorem Ob.next {w W W' : World} {p0 p1 p2 d v u : Value} (h : Ob w p0 p1 p2 d v u W) (hb : Below W.heap.size W W') : Ob w p0 p1 p2 d v u W' :=
  ⟨h.below.trans (hb.mono h.below.size), (hb.block _ (lt_of_block h.a)).trans h.a, (hb.block _ (lt_of_block h.r)).trans h.r, (hb.block _ (lt_of_block h.q)).trans h.q⟩
theorem Ob.lt {w W : World} {p0 p1 p2 d v u : Value} (h : Ob w p0 p1 p2 d v u W) : w.heap.size + 1 + 1 + 1 ≤ W.heap.size := lt_of_block h.q
theorem Ob.grown {w W Wa W3 : World} {p0 p1 p2 d v u : Value} {ob : Option Nat} (h : Ob w p0 p1 p2 d v u W) (h1 : Below W.heap.size W Wa) (hg : Wa.grownBy W3 ob) (hlo : ∀ i, ob = some i → w.heap.size + 1 + 1 < i) : Ob w p0 p1 p2 d v u W3 := by
  have hs := h1.size
  have hfar : ∀ i, i < W.heap.size → i ≤ w.heap.size + 1 + 1 → W3.heap[i]? = W.heap[i]? := fun i hi hne => (hg.block i (by omega) (fun e => by have := hlo i e.symm; omega)).trans (h1.block i hi)
  exact ⟨(h.below.trans (h1.mono h.below.size)).grown hg (by have := h.below.size; omega) (fun i e => by have := hlo i e; omega), (hfar _ (lt_of_block h.a) (by omega)).trans h.a, (hfar _ (lt_of_block h.r) (by omega)).trans h.r, (hfar _ (lt_of_block h.q) (Nat.le_refl _)).trans h.q⟩
theorem Ob.set {w W : World} {p0 p1 p2 d v u d' v' u' : Value} (h : Ob w p0 p1 p2 d v u W) {i : Nat} {x : Value} (hx : (W.setCell ⟨w.heap.size + 1 + 1, i, none⟩ x).heap[w.heap.size + 1 + 1]? = some (pgB d' v' u')) : Ob w p0 p1 p2 d' v' u' (W.setCell ⟨w.heap.size + 1 + 1, i, none⟩ x) := by
  have hs : ∀ g, g ≠ w.heap.size + 1 + 1 → (W.setCell ⟨w.heap.size + 1 + 1, i, none⟩ x).heap[g]? = W.heap[g]? := fun g hg => Below.heap_setCell W ⟨w.heap.size + 1 + 1, i, none⟩ _ g hg
  exact ⟨h.below.setCell (p := ⟨w.heap.size + 1 + 1, i, none⟩) (by show w.heap.size ≤ w.heap.size + 1 + 1; omega) _, (hs _ (by omega)).trans h.a, (hs _ (by omega)).trans h.r, hx⟩
theorem Ob.new (w : World) (p0 p1 p2 : Value) : Ob w p0 p1 p2 sN sN sN (((w.alloc (pgB p0 p1 p2)).alloc (pgB sN sN sN)).alloc (pgB sN sN sN)) := by
  have hz1 : (w.alloc (pgB p0 p1 p2)).heap.size = w.heap.size + 1 := World.size_alloc _ _
  have hz2 : ((w.alloc (pgB p0 p1 p2)).alloc (pgB sN sN sN)).heap.size = w.heap.size + 1 + 1 := by rw [World.size_alloc, hz1]
  refine ⟨(((Below.refl _ w).alloc (Nat.le_refl _) _).alloc (by omega) _).alloc (by omega) _, (Below.heap_alloc _ _ _ (by omega)).trans ((Below.heap_alloc _ _ _ (by omega)).trans (heap_alloc_new w _)), (Below.heap_alloc _ _ _ (by omega)).trans (by rw [← hz1]; exact heap_alloc_new _ _), by rw [← hz2]; exact heap_alloc_new _ _⟩
/-- The objects are copied: the waits grow. -/
structure Om (w : World) (p0 p1 p2 d v u : Value) (ds : List De) (M : Nat) (W : World) : Prop where
  o : Ob w p0 p1 p2 d v u W
  hd : Stays W (w.heap.size + 1 + 1 + 1) M (fun W' => Go.Proofs.YtnhoeboighndlaaGreatDoor.objs.Own W' (w.heap.size + 1 + 1 + 1) d ds)
  hm : w.heap.size + 1 + 1 + 1 ≤ M
theorem Om.next {w W W' : World} {p0 p1 p2 d v u : Value} {ds : List De} {M : Nat} (h : Om w p0 p1 p2 d v u ds M W) (hb : Below W.heap.size W W') : Om w p0 p1 p2 d v u ds M W' := ⟨h.o.next hb, h.hd.next hb, h.hm⟩
theorem Om.grown {w W Wa W3 : World} {p0 p1 p2 d v u : Value} {ds : List De} {M : Nat} {ob : Option Nat} (h : Om w p0 p1 p2 d v u ds M W) (h1 : Below W.heap.size W Wa) (hg : Wa.grownBy W3 ob) (hlo : ∀ i, ob = some i → M ≤ i) : Om w p0 p1 p2 d v u ds M W3 :=
  have hm := h.hm
  ⟨h.o.grown h1 hg fun i e => by have := hlo i e; omega, h.hd.keep (Nat.le_trans h1.size hg.size) fun g _ hgm => (hg.block g (by have := h.hd.1; have := h1.size; omega) (fun e => by have := hlo _ e.symm; omega)).trans (h1.block g (by have := h.hd.1; omega)), hm⟩
theorem Om.set {w W : World} {p0 p1 p2 d v u v' u' : Value} {ds : List De} {M : Nat} (h : Om w p0 p1 p2 d v u ds M W) {i : Nat} {x : Value} (hx : (W.setCell ⟨w.heap.size + 1 + 1, i, none⟩ x).heap[w.heap.size + 1 + 1]? = some (pgB d v' u')) : Om w p0 p1 p2 d v' u' ds M (W.setCell ⟨w.heap.size + 1 + 1, i, none⟩ x) :=
  ⟨h.o.set hx, h.hd.keep (by simp [World.setCell]) fun g hl _ => Below.heap_setCell W ⟨w.heap.size + 1 + 1, i, none⟩ _ g (by show g ≠ w.heap.size + 1 + 1; omega), h.hm⟩
theorem Om.start {w W : World} {p0 p1 p2 d : Value} {ds : List De} (h : Ob w p0 p1 p2 d sN sN W) (ho : Go.Proofs.YtnhoeboighndlaaGreatDoor.objs.Own W (w.heap.size + 1 + 1 + 1) d ds) : Om w p0 p1 p2 d sN sN ds W.heap.size W := ⟨h, Own.stays ho, h.lt⟩
/-- The waits are copied, too: the functions grow. -/
structure On (w : World) (p0 p1 p2 d v u : Value) (ds : List De) (ws : List (List (List De))) (M N : Nat) (W : World) : Prop where
  m : Om w p0 p1 p2 d v u ds M W
  hv : Stays W M N (fun W' => OwnV W' M v ws)
  hn : M ≤ N
theorem On.next {w W W' : World} {p0 p1 p2 d v u : Value} {ds : List De} {ws : List (List (List De))} {M N : Nat} (h : On w p0 p1 p2 d v u ds ws M N W) (hb : Below W.heap.size W W') : On w p0 p1 p2 d v u ds ws M N W' := ⟨h.m.next hb, h.hv.next hb, h.hn⟩
theorem On.grown {w W Wa W3 : World} {p0 p1 p2 d v u : Value} {ds : List De} {ws : List (List (List De))} {M N : Nat} {ob : Option Nat} (h : On w p0 p1 p2 d v u ds ws M N W) (h1 : Below W.heap.size W Wa) (hg : Wa.grownBy W3 ob) (hlo : ∀ i, ob = some i → N ≤ i) : On w p0 p1 p2 d v u ds ws M N W3 :=
  have hm := h.hn
  ⟨h.m.grown h1 hg fun i e => by have := hlo i e; omega, h.hv.keep (Nat.le_trans h1.size hg.size) fun g _ hgm => (hg.block g (by have := h.hv.1; have := h1.size; omega) (fun e => by have := hlo _ e.symm; omega)).trans (h1.block g (by have := h.hv.1; omega)), hm⟩
theorem On.set {w W : World} {p0 p1 p2 d v u u' : Value} {ds : List De} {ws : List (List (List De))} {M N : Nat} (h : On w p0 p1 p2 d v u ds ws M N W) {i : Nat} {x : Value} (hx : (W.setCell ⟨w.heap.size + 1 + 1, i, none⟩ x).heap[w.heap.size + 1 + 1]? = some (pgB d v u')) : On w p0 p1 p2 d v u' ds ws M N (W.setCell ⟨w.heap.size + 1 + 1, i, none⟩ x) :=
  ⟨h.m.set hx, h.hv.keep (by simp [World.setCell]) fun g hl _ => Below.heap_setCell W ⟨w.heap.size + 1 + 1, i, none⟩ _ g (by have := h.m.hm; show g ≠ w.heap.size + 1 + 1; omega), h.hn⟩
theorem On.start {w W : World} {p0 p1 p2 d v : Value} {ds : List De} {ws : List (List (List De))} {M : Nat} (h : Om w p0 p1 p2 d v sN ds M W) (ho : OwnV W M v ws) : On w p0 p1 p2 d v sN ds ws M W.heap.size W := ⟨h, ho.stays, h.hd.1⟩
theorem OwnF.stays {W : World} {base : Nat} {v : Value} {l : List Fn} (h : OwnF W base v l) : Stays W base W.heap.size (fun W' => OwnF W' base v l) := ⟨Nat.le_refl _, fun W' _ hk => h.hold hk⟩
/-- A function is copied: its block, and its code as it grows. -/
structure Of (w : World) (p0 p1 p2 d v u : Value) (ds : List De) (ws : List (List (List De))) (M N : Nat) (fl : List Fn) (g : Nat) (ar lo : Int) (c : Value) (W : World) : Prop where
  n : On w p0 p1 p2 d v u ds ws M N W
  hf : Stays W N g (fun W' => OwnF W' N u fl)
  hg : W.heap[g]? = some (fnX ar lo c)
  hn : N ≤ g
theorem Of.next {w W W' : World} {p0 p1 p2 d v u : Value} {ds : List De} {ws : List (List (List De))} {M N : Nat} {fl : List Fn} {g : Nat} {ar lo : Int} {c : Value} (h : Of w p0 p1 p2 d v u ds ws M N fl g ar lo c W) (hb : Below W.heap.size W W') : Of w p0 p1 p2 d v u ds ws M N fl g ar lo c W' :=
  ⟨h.n.next hb, h.hf.next hb, (hb.block _ (lt_of_block h.hg)).trans h.hg, h.hn⟩
theorem Of.new {w W : World} {p0 p1 p2 d v u : Value} {ds : List De} {ws : List (List (List De))} {M N : Nat} {fl : List Fn} (h : On w p0 p1 p2 d v u ds ws M N W) (ho : OwnF W N u fl) (ar lo : Int) (c : Value) : Of w p0 p1 p2 d v u ds ws M N fl W.heap.size ar lo c (W.alloc (fnX ar lo c)).drew := by
  have hb : Below W.heap.size W (W.alloc (fnX ar lo c)).drew := ((Below.refl _ W).alloc (Nat.le_refl _) _).drew
  exact ⟨h.next hb, ho.stays.next hb, heap_alloc_new W _, h.hv.1⟩
theorem Of.grown {w W Wa W3 : World} {p0 p1 p2 d v u : Value} {ds : List De} {ws : List (List (List De))} {M N : Nat} {fl : List Fn} {g : Nat} {ar lo : Int} {c : Value} {ob : Option Nat} (h : Of w p0 p1 p2 d v u ds ws M N fl g ar lo c W) (h1 : Below W.heap.size W Wa) (hg : Wa.grownBy W3 ob) (hlo : ∀ i, ob = some i → g < i) : Of w p0 p1 p2 d v u ds ws M N fl g ar lo c W3 :=
  have hm := h.hn
  have hgl := lt_of_block h.hg
  have hs := h1.size
  ⟨h.n.grown h1 hg fun i e => by have := hlo i e; omega, h.hf.keep (Nat.le_trans h1.size hg.size) fun b _ hgm => (hg.block b (by omega) (fun e => by have := hlo _ e.symm; omega)).trans (h1.block b (by omega)), ((hg.block g (by omega) (fun e => by have := hlo _ e.symm; omega)).trans (h1.block g hgl)).trans h.hg, hm⟩
theorem Of.set {w W : World} {p0 p1 p2 d v u : Value} {ds : List De} {ws : List (List (List De))} {M N : Nat} {fl : List Fn} {g : Nat} {ar lo : Int} {c : Value} (h : Of w p0 p1 p2 d v u ds ws M N fl g ar lo c W) (x : Value) : Of w p0 p1 p2 d v u ds ws M N fl g ar lo x (W.setCell ⟨g, 2, none⟩ x) := by
  have e1 := h.n.m.hm
  have e2 := h.n.hn
  have e3 := h.hn
  have hs : ∀ b, b ≠ g → (W.setCell ⟨g, 2, none⟩ x).heap[b]? = W.heap[b]? := fun b hb => Below.heap_setCell W ⟨g, 2, none⟩ _ b hb
  have hz : (W.setCell ⟨g, 2, none⟩ x).heap.size = W.heap.size := by simp [World.setCell]
  refine ⟨⟨⟨⟨h.n.m.o.below.setCell (p := ⟨g, 2, none⟩) (by show w.heap.size ≤ g; omega) _, (hs _ (by omega)).trans h.n.m.o.a, (hs _ (by omega)).trans h.n.m.o.r, (hs _ (by omega)).trans h.n.m.o.q⟩, h.n.m.hd.keep (by omega) fun b _ hb => hs b (by omega), h.n.m.hm⟩, h.n.hv.keep (by omega) fun b _ hb => hs b (by omega), h.n.hn⟩, h.hf.keep (by omega) fun b _ hb => hs b (by omega), ?_, h.hn⟩
  have := h.hg
  simp [World.setCell, Array.getElem?_modify, this, fnX]
theorem Own.caps {W : World} {base n c : Nat} {A : Option Addr} {l : List De} (h : Go.Proofs.YtnhoeboighndlaaGreatDoor.objs.Own W base (.slice A n c) l) : (A = none → n = 0 ∧ c = 0) ∧ n ≤ c ∧ c ≤ 9223372036854775807 := by
  rcases h.2 with ⟨e, h0⟩ | ⟨g, cap, cur, e, hb, hh, hn, hm, _⟩
  · injection e with q1 q2 q3
    subst q1 q2 q3
    exact ⟨fun _ => ⟨rfl, rfl⟩, by omega, by omega⟩
  · injection e with q1 q2 q3
    subst q1 q2 q3
    exact ⟨fun h => (by cases h), hn, by simpa [maxLen] using hm⟩
theorem OwnV.caps {W : World} {base n c : Nat} {A : Option Addr} {l : List (List (List De))} (h : OwnV W base (.slice A n c) l) : (A = none → n = 0 ∧ c = 0) ∧ n ≤ c ∧ c ≤ 9223372036854775807 := by
  obtain ⟨xs, h, _⟩ := h
  rcases h.2 with ⟨e, h0⟩ | ⟨g, cap, cur, e, hb, hh, hn, hm, _⟩
  · injection e with q1 q2 q3
    subst q1 q2 q3
    exact ⟨fun _ => ⟨rfl, rfl⟩, by omega, by omega⟩
  · injection e with q1 q2 q3
    subst q1 q2 q3
    exact ⟨fun h => (by cases h), hn, by simpa [maxLen] using hm⟩
theorem OwnF.caps {W : World} {base n c : Nat} {A : Option Addr} {l : List Fn} (h : OwnF W base (.slice A n c) l) : (A = none → n = 0 ∧ c = 0) ∧ n ≤ c ∧ c ≤ 9223372036854775807 := by
  obtain ⟨xs, h, _⟩ := h
  rcases h.2 with ⟨e, h0⟩ | ⟨g, cap, cur, e, hb, hh, hn, hm, _⟩
  · injection e with q1 q2 q3
    subst q1 q2 q3
    exact ⟨fun _ => ⟨rfl, rfl⟩, by omega, by omega⟩
  · injection e with q1 q2 q3
    subst q1 q2 q3
    exact ⟨fun h => (by cases h), hn, by simpa [maxLen] using hm⟩
/-- What is answered at the end. -/
theorem On.copy {w W : World} {p0 p1 p2 d v u x y z : Value} {ds : List De} {ws : List (List (List De))} {fs : List Fn} {M N : Nat} (h : On w p0 p1 p2 d v u ds ws M N W) (hF : OwnF W N u fs) (h1 : ds.length ≤ 40) (h2 : ws.length ≤ 40) (h3 : ∀ x ∈ ws, x.length ≤ 6 ∧ ∀ y ∈ x, y.length ≤ 6) (h4 : fs.length ≤ 20) (h5 : ∀ f ∈ fs, f.co.length ≤ 250) :
    Stays (put3 W (w.heap.size + 1) x y z) w.heap.size (put3 W (w.heap.size + 1) x y z).heap.size (fun W' => PAt W' (.agg #[d, v, u]) ⟨ds, ws, fs⟩ ∧ PG W' (.agg #[d, v, u]) ⟨ds, ws, fs⟩) ∧ Below w.heap.size w (put3 W (w.heap.size + 1) x y z) := by
  have e1 := h.m.hm
  have e2 := h.hn
  have far : ∀ g, w.heap.size + 1 + 1 ≤ g → (put3 W (w.heap.size + 1) x y z).heap[g]? = W.heap[g]? := fun g hg => put3_far (by omega) _ _ _
  have hs : (put3 W (w.heap.size + 1) x y z).heap.size = W.heap.size := by simp [put3, World.setCell]
  have sD := h.m.hd.keep (W1 := put3 W (w.heap.size + 1) x y z) (by omega) fun g hl _ => far g (by omega)
  have sV := h.hv.keep (W1 := put3 W (w.heap.size + 1) x y z) (by omega) fun g hl _ => far g (by omega)
  have sF := hF.hold (w' := put3 W (w.heap.size + 1) x y z) fun g hl _ => far g (by omega)
  refine ⟨⟨Nat.le_refl _, fun W' hw hk => ?_⟩, put3_below h.m.o.below (by omega) _ _ _⟩
  have b1 := sD.1
  have b2 := sV.1
  have hD := (sD.keep (W1 := W') hw fun g hl hg => hk g (by omega) (by omega)).now
  have hV := (sV.keep (W1 := W') hw fun g hl hg => hk g (by omega) (by omega)).now
  have hF := sF.hold (w' := W') fun g hl hg => hk g (by omega) hg
  obtain ⟨A, ca, rfl⟩ := hD.slice
  obtain ⟨B, cb, rfl⟩ := hV.slice
  obtain ⟨C, cc, rfl⟩ := hF.slice
  exact ⟨⟨A, B, C, ca, cb, cc, rfl, hD.at, hV.at, hF.at⟩, ⟨A, B, C, _, _, _, ca, cb, cc, rfl, by dsimp only; omega, hD.at, hV.wg6 h2 h3, hF.fg6 h4 h5, (Own.caps hD).1, hV.caps.1, hF.caps.1, (Own.caps hD).2, hV.caps.2, hF.caps.2⟩⟩
end Go.Proofs.YtnhoeboighndlaaGreatDoor.pgm
