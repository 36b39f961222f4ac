/-
  Memory while the document's reader goes over objects: the reader, the row that grows, the object that is read. No condition.
-/
import Derived.Test.YtaefkkhmhogpeaaDoorDRefNum
import Derived.Test.YtaefkkhmhogpeaaDoorDRefCheck
namespace Go.Proofs.YtaefkkhmhogpeaaDoor.objs
open Go.RowKit Go.ChangeShapes
open Go.Proofs.YtaefkkhmhogpeaaDoor.octet (St rdByte rdNum rdInt Stands RefAt refByte_plain refInt_plain refNum_plain rdNum_lt)
set_option linter.unusedVariables false

/-- Between two objects: the empty answer, the reader, the row. -/
structure Rs (w : World) (t : ByteArray) (bx : Nat) (v : Value) (ls : List De) (S : St) (W : World) : Prop where
  below : Below w.heap.size w W
  nil : W.heap[w.heap.size + 1]? = some RNil
  x : ∃ k : Nat, W.heap[bx]? = some (RBox t k S.err) ∧ Stands t k S.err S
  own : Own W (bx + 1) v ls
  hx : w.heap.size + 1 < bx
theorem Rs.next {w W W' : World} {t : ByteArray} {bx : Nat} {v : Value} {ls : List De} {S : St} (h : Rs w t bx v ls S W) (hb : Below W.heap.size W W') : Rs w t bx v ls S W' := by
  obtain ⟨k, h1, h2⟩ := h.x
  exact ⟨h.below.trans (hb.mono h.below.size), (hb.block _ (lt_of_block h.nil)).trans h.nil, ⟨k, (hb.block _ (lt_of_block h1)).trans h1, h2⟩, h.own.next hb, h.hx⟩
/-- In the midst of an object: what stands so far of it, and the reader of its own. -/
structure Yd (w : World) (t : ByteArray) (bx b d : Nat) (v : Value) (ls : List De) (S : St) (k x y : Int) (S' : St) (W : World) : Prop where
  rs : Rs w t bx v ls S W
  ry : ∃ kk : Nat, W.heap[b]? = some (RBox t kk S'.err) ∧ Stands t kk S'.err S'
  rd : W.heap[d]? = some (declBox k x y)
  hb : bx < b
  hd : b < d
  ho : ∀ g, v.ownBlock = some g → g < b
theorem Yd.next {w W W' : World} {t : ByteArray} {bx b d : Nat} {v : Value} {ls : List De} {S S' : St} {k x y : Int} (h : Yd w t bx b d v ls S k x y S' W) (hb : Below W.heap.size W W') : Yd w t bx b d v ls S k x y S' W' := by
  obtain ⟨kk, h1, h2⟩ := h.ry
  exact ⟨h.rs.next hb, ⟨kk, (hb.block _ (lt_of_block h1)).trans h1, h2⟩, (hb.block _ (lt_of_block h.rd)).trans h.rd, h.hb, h.hd, h.ho⟩
theorem Rs.far {w W W' : World} {t : ByteArray} {bx : Nat} {v : Value} {ls : List De} {S : St} (h : Rs w t bx v ls S W) (B : Nat) (hB : bx < B) (ho : ∀ g, v.ownBlock = some g → g < B) (hk : ∀ k, k < B → W'.heap[k]? = W.heap[k]?) (hb : Below w.heap.size W W') : Rs w t bx v ls S W' := by
  obtain ⟨k, h1, h2⟩ := h.x
  have := h.hx
  exact ⟨h.below.trans hb, (hk _ (by omega)).trans h.nil, ⟨k, (hk _ hB).trans h1, h2⟩, h.own.keep fun g hg => hk g (ho g hg), h.hx⟩
theorem Yd.setA {w W : World} {t : ByteArray} {bx b d : Nat} {v : Value} {ls : List De} {S S' S2 : St} {k x y : Int} {k2 : Nat} (h : Yd w t bx b d v ls S k x y S' W) (n : Int) (hS : Stands t k2 S2.err S2) :
    Yd w t bx b d v ls S k n y S2 (put3 (W.setCell ⟨d, 1, none⟩ (.int .i64 n)) b (.string t) (.int .i64 (k2 : Int)) (.int .i64 (S2.err : Int))).drew := by
  obtain ⟨kk, h1, h2⟩ := h.ry
  have e1 := h.hb
  have e2 := h.hd
  have e3 := h.rs.hx
  have hf : ∀ i, i ≠ d → (W.setCell ⟨d, 1, none⟩ (.int .i64 n)).heap[i]? = W.heap[i]? := fun i hi => Below.heap_setCell W ⟨d, 1, none⟩ _ i hi
  refine ⟨h.rs.far b e1 h.ho (fun i hi => (put3_far (by omega) _ _ _).trans (hf i (by omega))) (Below.drew (put3_below ((Below.refl _ W).setCell (p := ⟨d, 1, none⟩) (by show w.heap.size ≤ d; omega) _) (by omega) _ _ _)), ⟨k2, put3_same ((hf b (by omega)).trans h1) _ _ _, hS⟩, ?_, e1, e2, h.ho⟩
  refine (put3_far (by omega) _ _ _).trans ?_
  have := h.rd
  unfold declBox at this ⊢
  simp [World.setCell, Array.getElem?_modify, this]
theorem Yd.setB {w W : World} {t : ByteArray} {bx b d : Nat} {v : Value} {ls : List De} {S S' S2 : St} {k x y : Int} {k2 : Nat} (h : Yd w t bx b d v ls S k x y S' W) (n : Int) (hS : Stands t k2 S2.err S2) :
    Yd w t bx b d v ls S k x n S2 (put3 (W.setCell ⟨d, 2, none⟩ (.int .i64 n)) b (.string t) (.int .i64 (k2 : Int)) (.int .i64 (S2.err : Int))).drew := by
  obtain ⟨kk, h1, h2⟩ := h.ry
  have e1 := h.hb
  have e2 := h.hd
  have e3 := h.rs.hx
  have hf : ∀ i, i ≠ d → (W.setCell ⟨d, 2, none⟩ (.int .i64 n)).heap[i]? = W.heap[i]? := fun i hi => Below.heap_setCell W ⟨d, 2, none⟩ _ i hi
  refine ⟨h.rs.far b e1 h.ho (fun i hi => (put3_far (by omega) _ _ _).trans (hf i (by omega))) (Below.drew (put3_below ((Below.refl _ W).setCell (p := ⟨d, 2, none⟩) (by show w.heap.size ≤ d; omega) _) (by omega) _ _ _)), ⟨k2, put3_same ((hf b (by omega)).trans h1) _ _ _, hS⟩, ?_, e1, e2, h.ho⟩
  refine (put3_far (by omega) _ _ _).trans ?_
  have := h.rd
  unfold declBox at this ⊢
  simp [World.setCell, Array.getElem?_modify, this]
theorem yd_new {w w3 : World} {t : ByteArray} {bx : Nat} {v : Value} {ls : List De} {S S1 : St} {k1 : Nat} {k : Int} (h : Rs w t bx v ls S w3) (hS : Stands t k1 S1.err S1) :
    Yd w t bx w3.heap.size (w3.heap.size + 1) v ls S k 0 0 S1 ((w3.alloc (RBox t k1 S1.err)).alloc (declBox k 0 0)) := by
  have hb : Below w3.heap.size w3 ((w3.alloc (RBox t k1 S1.err)).alloc (declBox k 0 0)) := ((Below.refl _ w3).alloc (Nat.le_refl _) _).alloc (by simp) _
  obtain ⟨_, hx, _⟩ := h.x
  refine ⟨h.next hb, ⟨k1, (Below.heap_alloc _ _ _ (by simp)).trans (heap_alloc_new w3 _), hS⟩, ?_, lt_of_block hx, Nat.lt_succ_self _, fun g hg => (h.own.lt hg).2⟩
  rw [← World.size_alloc w3 (RBox t k1 S1.err)]
  exact heap_alloc_new _ _
theorem yd_at {w W : World} {t : ByteArray} {bx b : Nat} {v : Value} {ls : List De} {S S1 : St} {k1 : Nat} {k : Int} (h : Rs w t bx v ls S W) (hS : Stands t k1 S1.err S1) (hy : W.heap[b]? = some (RBox t k1 S1.err)) (hb : bx < b) (ho : ∀ g, v.ownBlock = some g → g < b) :
    Yd w t bx b W.heap.size v ls S k 0 0 S1 (W.alloc (declBox k 0 0)) := by
  have hn : Below W.heap.size W (W.alloc (declBox k 0 0)) := (Below.refl _ W).alloc (Nat.le_refl _) _
  exact ⟨h.next hn, ⟨k1, (hn.block b (lt_of_block hy)).trans hy, hS⟩, heap_alloc_new W _, hb, lt_of_block hy, ho⟩
/-- Behind the append. -/
structure Ap (w : World) (t : ByteArray) (bx b : Nat) (v : Value) (ls : List De) (kk : Nat) (S' : St) (W : World) : Prop where
  below : Below w.heap.size w W
  nil : W.heap[w.heap.size + 1]? = some RNil
  x : ∃ (k err : Nat), W.heap[bx]? = some (RBox t k err)
  y : W.heap[b]? = some (RBox t kk S'.err)
  own : Own W (bx + 1) v ls
  hx : w.heap.size + 1 < bx
theorem Yd.app {w W W1 W2 : World} {t : ByteArray} {bx b d kk : Nat} {v v2 : Value} {ls ls2 : List De} {S S' : St} {k x y : Int} (h : Yd w t bx b d v ls S k x y S' W) (hk : W.heap[b]? = some (RBox t kk S'.err)) (h1 : Below W.heap.size W W1) (h2 : Own W2 (bx + 1) v2 ls2) (hg : W1.grownBy W2 v.ownBlock) : Ap w t bx b v2 ls2 kk S' W2 := by
  have e1 := h.hb
  have e3 := h.rs.hx
  have hn : W.heap.size ≤ W1.heap.size := h1.size
  have hf : ∀ i, i < W.heap.size → v.ownBlock ≠ some i → W2.heap[i]? = W.heap[i]? := fun i hi hne => (hg.block i (by omega) (fun e => hne e.symm)).trans (h1.block i hi)
  have hlo : ∀ i, i ≤ bx → v.ownBlock ≠ some i := fun i hi e => by have := (h.rs.own.lt e).1; omega
  have hhi : v.ownBlock ≠ some b := fun e => Nat.lt_irrefl _ (h.ho b e)
  obtain ⟨kx, hx1, _⟩ := h.rs.x
  refine ⟨(h.rs.below.trans (h1.mono h.rs.below.size)).grown hg (by have := h.rs.below.size; omega) (fun i e => by have := (h.rs.own.lt e).1; omega), (hf _ (lt_of_block h.rs.nil) (hlo _ (by omega))).trans h.rs.nil, ⟨kx, _, (hf _ (lt_of_block hx1) (hlo _ (Nat.le_refl _))).trans hx1⟩, (hf _ (lt_of_block hk) hhi).trans hk, h2, e3⟩
theorem Ap.store {w W : World} {t : ByteArray} {bx b kk : Nat} {v : Value} {ls : List De} {S' : St} (h : Ap w t bx b v ls kk S' W) (hS : Stands t kk S'.err S') : Rs w t bx v ls S' (put3 W bx (.string t) (.int .i64 (kk : Int)) (.int .i64 (S'.err : Int))) := by
  obtain ⟨k, err, hx⟩ := h.x
  have e := h.hx
  refine ⟨put3_below h.below (by omega) _ _ _, (put3_far (by omega) _ _ _).trans h.nil, ⟨kk, put3_same hx _ _ _, hS⟩, h.own.keep fun g hg => put3_far (by have := (h.own.lt hg).1; omega) _ _ _, e⟩

/-- What Read tells, and leaves. -/
def ReadPost8 (t : ByteArray) (r : List De × St × Nat) (w : World) (e : Ending) (w' : World) : Prop :=
  ∃ (v : Value) (k : Nat), e = .returned (.tuple #[v, .agg #[.string t, .int .i64 (k : Int), .int .i64 (r.2.1.err : Int)], .int .i64 (r.2.2 : Int)]) ∧ Stands t k r.2.1.err r.2.1 ∧ (∃ base, Own w' base v r.1 ∧ w.heap.size ≤ base) ∧ Below w.heap.size w w'
/-- At the end: the answer, and the reader in the result's block. -/
structure Ends8 (w : World) (t : ByteArray) (v : Value) (ls : List De) (k err : Nat) (W : World) : Prop where
  below : Below w.heap.size w W
  r : W.heap[w.heap.size + 1]? = some (RBox t k err)
  own : ∃ base, Own W base v ls ∧ w.heap.size ≤ base
theorem ends8_ret {w Z : World} {t : ByteArray} {v : Value} {k err : Nat} {act : Act} {r r' : List De × St × Nat} (hr : r = r') (h2 : act.tmps[2]?.getD undef = v) (h3 : act.tmps[3]?.getD undef = .pointer (some ⟨w.heap.size + 1, 0, none⟩)) (h4 : act.tmps[4]?.getD undef = .int .i64 (r'.2.2 : Int)) (hd : act.defers = [])
    (hE : Ends8 w t v r'.1 k err Z) (hS : Stands t k err r'.2.1) (hs : r'.2.1.err = err) : bodyPost Tryd.prog Tryd.f54 (ReadPost8 t r w) .ret act Z := by
  subst hr hs
  have hb := hE.r
  unfold RBox at hb
  obtain ⟨y0, y1, y2, _, _, _⟩ := cells3 hb
  refine bodyPost_ret (v := .tuple #[v, .agg #[.string t, .int .i64 (k : Int), .int .i64 (r.2.1.err : Int)], .int .i64 (r.2.2 : Int)]) ?_ hd ⟨v, k, rfl, hS, hE.own, hE.below⟩
  simp [results, Tryd.results54, go_sem, h2, h3, h4, y0, y1, y2]
theorem Rs.ends {w W : World} {t : ByteArray} {bx kk : Nat} {v : Value} {ls : List De} {S S' : St} (h : Rs w t bx v ls S W) : Ends8 w t v ls kk S'.err (put3 W (w.heap.size + 1) (.string t) (.int .i64 (kk : Int)) (.int .i64 (S'.err : Int))).drew := by
  have e := h.hx
  have hn := h.nil
  unfold RNil at hn
  exact ⟨Below.drew (put3_below h.below (by omega) _ _ _), put3_same hn _ _ _, bx + 1, h.own.keep fun g hg => put3_far (by have := (h.own.lt hg).1; omega) _ _ _, by omega⟩
theorem Rs.ends0 {w W : World} {t : ByteArray} {bx kk : Nat} {v : Value} {ls : List De} {S S' : St} (h : Rs w t bx v ls S W) : Ends8 w t (.slice none 0 0) [] kk S'.err (put3 W (w.heap.size + 1) (.string t) (.int .i64 (kk : Int)) (.int .i64 (S'.err : Int))).drew := by
  have e := h.hx
  have hn := h.nil
  unfold RNil at hn
  exact ⟨Below.drew (put3_below h.below (by omega) _ _ _), put3_same hn _ _ _, bx + 1, Own.nil _ _, by omega⟩
/-- Behind the count. -/
theorem rs_new {w w1 : World} {t : ByteArray} {k err k1 : Nat} {S : St} (hb : Below ((w.alloc (RBox t k err)).alloc RNil).heap.size ((w.alloc (RBox t k err)).alloc RNil) w1) (hS : Stands t k1 S.err S) :
    Rs w t w1.heap.size (.slice none 0 0) [] S (w1.alloc (RBox t k1 S.err)) := by
  have hz : ((w.alloc (RBox t k err)).alloc RNil).heap.size = w.heap.size + 1 + 1 := by rw [World.size_alloc, World.size_alloc]
  have hs := hb.size
  have hb0 : Below w.heap.size w ((w.alloc (RBox t k err)).alloc RNil) := ((Below.refl _ w).alloc (Nat.le_refl _) _).alloc (by simp) _
  have hi0 : ((w.alloc (RBox t k err)).alloc RNil).heap[w.heap.size + 1]? = some RNil := by rw [← World.size_alloc w (RBox t k err)]; exact heap_alloc_new _ _
  have hb2 : Below w1.heap.size w1 (w1.alloc (RBox t k1 S.err)) := (Below.refl _ _).alloc (Nat.le_refl _) _
  exact ⟨(hb0.trans (hb.mono (by omega))).trans (hb2.mono (by omega)), (hb2.block _ (by omega)).trans ((hb.block _ (by omega)).trans hi0), ⟨k1, heap_alloc_new _ _, hS⟩, Own.nil _ _, by omega⟩
/-- The empty row is made. -/
theorem Rs.row {w W : World} {t : ByteArray} {bx : Nat} {S : St} (h : Rs w t bx (.slice none 0 0) [] S W) : Rs w t bx (.slice (some ⟨W.heap.size, 0, none⟩) 0 0) [] S (W.alloc (.cells #[] 80)) := by
  have hb : Below W.heap.size W (W.alloc (.cells #[] 80)) := (Below.refl _ W).alloc (Nat.le_refl _) _
  have h' := h.next hb
  obtain ⟨k, hx, _⟩ := h.x
  have := lt_of_block hx
  exact ⟨h'.below, h'.nil, h'.x, (Own.empty (heap_alloc_new W _)).base (by omega), h'.hx⟩
end Go.Proofs.YtaefkkhmhogpeaaDoor.objs
