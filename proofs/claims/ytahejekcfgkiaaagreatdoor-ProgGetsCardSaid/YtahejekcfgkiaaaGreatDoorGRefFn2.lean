/-
  The document's own answer of a function that is read. A text of at most two to the forty-seventh bytes.
-/
import Derived.Test.YtahejekcfgkiaaaGreatDoorGRefMany
import Derived.Test.YtahejekcfgkiaaaGreatDoorGall19
import Derived.Deep.RegionLaw
namespace Go.Proofs.YtahejekcfgkiaaaGreatDoor.pgm
open Go.RowKit Go.ChangeShapes
open Go.Proofs.YtahejekcfgkiaaaGreatDoor.objs (De zero DAt put3 cells3 put3_same put3_far put3_below RBox RNil)
open Go.Proofs.YtahejekcfgkiaaaGreatDoor.octet (St rdNum Stands refNum_plain rdNum_lt)
open Go.Proofs.YtahejekcfgkiaaaGreatDoor.inst (readI refRead_any ReadPost)
set_option linter.unusedVariables false

/-- What is told of a function that is read: where there is an error, that alone. -/
def FnPost (t : ByteArray) (r : Fn × St × Nat) (w : World) (e : Ending) (w' : World) : Prop :=
  ∃ (ar lo : Int) (A : Option Addr) (n c : Nat) (t1 : ByteArray) (k1 e1 : Nat), e = .returned (.tuple #[.agg #[.int .i64 ar, .int .i64 lo, .slice A n c], .agg #[.string t1, .int .i64 (k1 : Int), .int .i64 (e1 : Int)], .int .i64 (r.2.2 : Int)]) ∧ Below w.heap.size w w' ∧
    (r.2.2 = 0 → ar = r.1.ar ∧ lo = r.1.lo ∧ OwnJ w' w.heap.size (.slice A n c) r.1.co ∧ t1 = t ∧ e1 = r.2.1.err ∧ Stands t k1 r.2.1.err r.2.1)
/-- At the end: the function and the reader in the results' blocks. -/
structure En10 (w : World) (B1 B2 : Nat) (ar lo : Int) (A : Option Addr) (n c : Nat) (t1 : ByteArray) (k1 e1 : Nat) (Z : World) : Prop where
  f : Z.heap[B1]? = some (.cells #[.int .i64 ar, .int .i64 lo, .slice A n c] 49 (0, 0))
  r : Z.heap[B2]? = some (.cells #[.string t1, .int .i64 (k1 : Int), .int .i64 (e1 : Int)] 79 (0, 0))
  below : Below w.heap.size w Z
theorem fn2_ret {w Z : World} {B1 B2 : Nat} {t : ByteArray} {r : Fn × St × Nat} {ar lo : Int} {A : Option Addr} {n c k1 e1 er : Nat} {t1 : ByteArray} {act : Act} (he : r.2.2 = er) (hE : En10 w B1 B2 ar lo A n c t1 k1 e1 Z)
    (h2 : act.tmps[2]?.getD undef = .pointer (some ⟨B1, 0, none⟩)) (h3 : act.tmps[3]?.getD undef = .pointer (some ⟨B2, 0, none⟩)) (h4 : act.tmps[4]?.getD undef = .int .i64 (er : Int)) (hd : act.defers = [])
    (hG : r.2.2 = 0 → ar = r.1.ar ∧ lo = r.1.lo ∧ OwnJ Z w.heap.size (.slice A n c) r.1.co ∧ t1 = t ∧ e1 = r.2.1.err ∧ Stands t k1 r.2.1.err r.2.1) :
    bodyPost Tryz.prog Tryz.f38 (FnPost t r w) .ret act Z := by
  subst he
  obtain ⟨f0, f1, f2, _, _, _⟩ := cells3 hE.f
  obtain ⟨r0, r1, r2, _, _, _⟩ := cells3 hE.r
  refine bodyPost_ret (v := .tuple #[.agg #[.int .i64 ar, .int .i64 lo, .slice A n c], .agg #[.string t1, .int .i64 (k1 : Int), .int .i64 (e1 : Int)], .int .i64 (r.2.2 : Int)]) ?_ hd ⟨ar, lo, A, n, c, t1, k1, e1, rfl, hE.below, hG⟩
  simp [results, Tryz.results38, go_sem, h2, h3, h4, f0, f1, f2, r0, r1, r2]

def fnZ : Obj := .cells #[.int .i64 0, .int .i64 0, .slice none 0 0] 49
/-- Between two instructions that are read: the results' boxes, the function's, the reader's, the row. -/
structure R10 (w : World) (t : ByteArray) (bf bx : Nat) (ar lo : Int) (v : Value) (ls : List De) (S : St) (W : World) : Prop where
  below : Below w.heap.size w W
  rf : W.heap[w.heap.size + 1]? = some fnZ
  rr : W.heap[w.heap.size + 1 + 1]? = some RNil
  f : W.heap[bf]? = some (.cells #[.int .i64 ar, .int .i64 lo, v] 49 (0, 0))
  x : ∃ k : Nat, W.heap[bx]? = some (RBox t k S.err) ∧ Stands t k S.err S
  own : OwnJ W (bx + 1) v ls
  hf : w.heap.size + 1 + 1 < bf
  hx : bf < bx
theorem R10.next {w W W' : World} {t : ByteArray} {bf bx : Nat} {ar lo : Int} {v : Value} {ls : List De} {S : St} (h : R10 w t bf bx ar lo v ls S W) (hb : Below W.heap.size W W') : R10 w t bf bx ar lo v ls S W' := by
  obtain ⟨k, h1, h2⟩ := h.x
  exact ⟨h.below.trans (hb.mono h.below.size), (hb.block _ (lt_of_block h.rf)).trans h.rf, (hb.block _ (lt_of_block h.rr)).trans h.rr, (hb.block _ (lt_of_block h.f)).trans h.f, ⟨k, (hb.block _ (lt_of_block h1)).trans h1, h2⟩, h.own.next hb, h.hf, h.hx⟩
theorem R10.lt {w W : World} {t : ByteArray} {bf bx : Nat} {ar lo : Int} {v : Value} {ls : List De} {S : St} (h : R10 w t bf bx ar lo v ls S W) : bx < W.heap.size := by
  obtain ⟨_, h1, _⟩ := h.x
  exact lt_of_block h1

theorem ownJ_drew {w : World} {base : Nat} {v : Value} {l : List De} (h : OwnJ w base v l) : OwnJ w.drew base v l := h
def insC (o a b : Int) : Obj := .cells #[.int .i64 o, .int .i64 a, .int .i64 b] 51
/-- Behind the append of an instruction. -/
structure A10 (w : World) (t : ByteArray) (bf bx bz : Nat) (ar lo : Int) (v0 v2 : Value) (ls : List De) (kz : Nat) (S : St) (W : World) : Prop where
  below : Below w.heap.size w W
  rf : W.heap[w.heap.size + 1]? = some fnZ
  rr : W.heap[w.heap.size + 1 + 1]? = some RNil
  f : W.heap[bf]? = some (.cells #[.int .i64 ar, .int .i64 lo, v0] 49 (0, 0))
  x : ∃ k err : Nat, W.heap[bx]? = some (RBox t k err)
  z : W.heap[bz]? = some (RBox t kz S.err)
  own : OwnJ W (bx + 1) v2 ls
  hf : w.heap.size + 1 + 1 < bf
  hx : bf < bx
  hz : bx < bz
theorem R10.app {w W Wa W3 : World} {t : ByteArray} {bf bx bz kz : Nat} {ar lo : Int} {v v2 : Value} {ls ls2 : List De} {S S' : St} (h : R10 w t bf bx ar lo v ls S W) (hz : W.heap[bz]? = some (RBox t kz S'.err)) (hlt : bx < bz)
    (h1 : Below W.heap.size W Wa) (h2 : OwnJ W3 (bx + 1) v2 ls2) (hg : Wa.grownBy W3 v.ownBlock) : A10 w t bf bx bz ar lo v v2 ls2 kz S' W3 := by
  have e1 := h.hf
  have e2 := h.hx
  have hlo : ∀ i, v.ownBlock = some i → bx < i := fun i e => by have := h.own.lt e; omega
  have hs := h1.size
  have hfar : ∀ i, i < W.heap.size → v.ownBlock ≠ some i → W3.heap[i]? = W.heap[i]? := fun i hi hne => (hg.block i (by omega) (fun e => hne e.symm)).trans (h1.block i hi)
  obtain ⟨kx, hx1, _⟩ := h.x
  refine ⟨(h.below.trans (h1.mono h.below.size)).grown hg (by have := h.below.size; omega) (fun i e => by have := hlo i e; omega), (hfar _ (lt_of_block h.rf) (fun e => by have := hlo _ e; omega)).trans h.rf, (hfar _ (lt_of_block h.rr) (fun e => by have := hlo _ e; omega)).trans h.rr, (hfar _ (lt_of_block h.f) (fun e => by have := hlo _ e; omega)).trans h.f, ⟨kx, _, (hfar _ (lt_of_block hx1) (fun e => by have := hlo _ e; omega)).trans hx1⟩, (hfar _ (lt_of_block hz) (fun e => ?_)).trans hz, h2, e1, e2, hlt⟩
  obtain ⟨cur, hk⟩ := h.own.kind e
  rw [hk] at hz
  unfold RBox at hz
  injection hz with hz
  injection hz with _ hz _
  exact absurd hz (by decide)
theorem A10.store {w W : World} {t : ByteArray} {bf bx bz kz : Nat} {ar lo : Int} {v0 v2 : Value} {ls : List De} {S : St} (h : A10 w t bf bx bz ar lo v0 v2 ls kz S W) (hS : Stands t kz S.err S) :
    R10 w t bf bx ar lo v2 ls S (put3 (W.setCell ⟨bf, 2, none⟩ v2) bx (.string t) (.int .i64 (kz : Int)) (.int .i64 (S.err : Int))) := by
  have e1 := h.hf
  have e2 := h.hx
  have hs : ∀ i, i ≠ bf → (W.setCell ⟨bf, 2, none⟩ v2).heap[i]? = W.heap[i]? := fun i hi => Below.heap_setCell W ⟨bf, 2, none⟩ _ i hi
  have hfar : ∀ i, i ≠ bf → i ≠ bx → (put3 (W.setCell ⟨bf, 2, none⟩ v2) bx (.string t) (.int .i64 (kz : Int)) (.int .i64 (S.err : Int))).heap[i]? = W.heap[i]? := fun i h1 h2 => (put3_far h2 _ _ _).trans (hs i h1)
  obtain ⟨k, err, hx⟩ := h.x
  refine ⟨put3_below (h.below.setCell (p := ⟨bf, 2, none⟩) (by show w.heap.size ≤ bf; omega) _) (by omega) _ _ _, (hfar _ (by omega) (by omega)).trans h.rf, (hfar _ (by omega) (by omega)).trans h.rr, ?_, ⟨kz, put3_same ((hs bx (by omega)).trans hx) _ _ _, hS⟩, h.own.keep fun g hg => hfar g (by have := (h.own.lt hg).1; omega) (by have := (h.own.lt hg).1; omega), e1, e2⟩
  refine (put3_far (by omega) _ _ _).trans ?_
  have := h.f
  simp [World.setCell, Array.getElem?_modify, this]
/-- What a return tells: the function's box, a reader's box, laid into the results. -/
theorem ends10 {w W : World} {k1 e1 : Nat} {ar lo : Int} {A : Option Addr} {n c : Nat} {t1 : ByteArray} {u0 u1 u2 y0 y1 y2 : Value} (hb : Below w.heap.size w W) (h1 : W.heap[w.heap.size + 1]? = some (.cells #[u0, u1, u2] 49 (0, 0))) (h2 : W.heap[w.heap.size + 1 + 1]? = some (.cells #[y0, y1, y2] 79 (0, 0))) :
    En10 w (w.heap.size + 1) (w.heap.size + 1 + 1) ar lo A n c t1 k1 e1 (put3 (put3 W (w.heap.size + 1) (.int .i64 ar) (.int .i64 lo) (.slice A n c)) (w.heap.size + 1 + 1) (.string t1) (.int .i64 (k1 : Int)) (.int .i64 (e1 : Int))).drew := by
  have hW1 := put3_same h1 (.int .i64 ar) (.int .i64 lo) (.slice A n c)
  have hW2 : (put3 W (w.heap.size + 1) (.int .i64 ar) (.int .i64 lo) (.slice A n c)).heap[w.heap.size + 1 + 1]? = _ := (put3_far (by omega) _ _ _).trans h2
  have hb1 := put3_below hb (show w.heap.size ≤ w.heap.size + 1 by omega) (.int .i64 ar) (.int .i64 lo) (.slice A n c)
  generalize put3 W (w.heap.size + 1) (.int .i64 ar) (.int .i64 lo) (.slice A n c) = W1 at *
  have hZ1 : (put3 W1 (w.heap.size + 1 + 1) (.string t1) (.int .i64 (k1 : Int)) (.int .i64 (e1 : Int))).heap[w.heap.size + 1]? = _ := (put3_far (by omega) _ _ _).trans hW1
  have hZ2 := put3_same hW2 (.string t1) (.int .i64 (k1 : Int)) (.int .i64 (e1 : Int))
  have hb2 := put3_below hb1 (show w.heap.size ≤ w.heap.size + 1 + 1 by omega) (.string t1) (.int .i64 (k1 : Int)) (.int .i64 (e1 : Int))
  generalize put3 W1 (w.heap.size + 1 + 1) (.string t1) (.int .i64 (k1 : Int)) (.int .i64 (e1 : Int)) = W2 at *
  exact ⟨hZ1, hZ2, Below.drew hb2⟩
/-- Behind the function's numbers. -/
structure F10 (w : World) (t : ByteArray) (bf by_ : Nat) (ar lo : Int) (T : St) (W : World) : Prop where
  below : Below w.heap.size w W
  rf : W.heap[w.heap.size + 1]? = some fnZ
  rr : W.heap[w.heap.size + 1 + 1]? = some RNil
  f : W.heap[bf]? = some (.cells #[.int .i64 ar, .int .i64 lo, .slice none 0 0] 49 (0, 0))
  y : ∃ k : Nat, W.heap[by_]? = some (RBox t k T.err) ∧ Stands t k T.err T
  hf : w.heap.size + 1 + 1 < bf
  hy : w.heap.size + 1 + 1 < by_
theorem F10.next {w W W' : World} {t : ByteArray} {bf by_ : Nat} {ar lo : Int} {T : St} (h : F10 w t bf by_ ar lo T W) (hb : Below W.heap.size W W') : F10 w t bf by_ ar lo T W' := by
  obtain ⟨k, h1, h2⟩ := h.y
  exact ⟨h.below.trans (hb.mono h.below.size), (hb.block _ (lt_of_block h.rf)).trans h.rf, (hb.block _ (lt_of_block h.rr)).trans h.rr, (hb.block _ (lt_of_block h.f)).trans h.f, ⟨k, (hb.block _ (lt_of_block h1)).trans h1, h2⟩, h.hf, h.hy⟩
theorem F10.row {w W : World} {t : ByteArray} {bf by_ k : Nat} {ar lo : Int} {T U : St} (h : F10 w t bf by_ ar lo T W) (hS : Stands t k U.err U) : R10 w t bf W.heap.size ar lo (.slice none 0 0) [] U (W.alloc (RBox t k U.err)) := by
  have hb : Below W.heap.size W (W.alloc (RBox t k U.err)) := (Below.refl _ _).alloc (Nat.le_refl _) _
  have h' := h.next hb
  exact ⟨h'.below, h'.rf, h'.rr, h'.f, ⟨k, heap_alloc_new _ _, hS⟩, World.ownsRow_nil .., h'.hf, lt_of_block h.f⟩

set_option maxRecDepth 100000 in
set_option maxHeartbeats 32000000 in
theorem refFn2_any (w : World) (t : ByteArray) (k err : Nat) (s : St) (ht : t.size ≤ 140737489403904) (hst : Stands t k err s) :
    Calls Tryz.prog 38 #[.agg #[.string t, .int .i64 (k : Int), .int .i64 (err : Int)]] w (FnPost t (rdFn rdIns s) w) := by
  have HN := fun W => Lib.hid (refNum_plain W t k err s ht hst)
  obtain ⟨r, hr⟩ : ∃ r, r = rdFn rdIns s := ⟨_, rfl⟩
  rw [← hr]
  unfold rdFn at hr
  dsimp only at hr
  obtain ⟨a, S, hNa⟩ : ∃ a S, rdNum s = (a, S) := ⟨_, _, rfl⟩
  rw [hNa] at HN hr
  dsimp only at HN hr
  have hlta := rdNum_lt s
  rw [hNa] at hlta
  dsimp only at hlta
  obtain ⟨b, T, hNb⟩ : ∃ b T, rdNum S = (b, T) := ⟨_, _, rfl⟩
  have hltb := rdNum_lt S
  rw [hNb] at hltb hr
  dsimp only at hltb hr
  obtain ⟨m, U, e, hM⟩ : ∃ m U e, rdMany T 200 = (m, U, e) := ⟨_, _, _, rfl⟩
  rw [hM] at hr
  dsimp only at hr
  have HR := Lib.hid hr
  have HNb := Lib.hid hNb
  have HM := Lib.hid hM
  clear hst hr hNa hNb hM
  -- the four boxes that are made first
  have hb0 : Below w.heap.size w (((w.alloc (RBox t k err)).alloc fnZ).alloc RNil) := (((Below.refl _ w).alloc (Nat.le_refl _) _).alloc (by simp) _).alloc (by simp; omega) _
  have hz1 : (w.alloc (RBox t k err)).heap.size = w.heap.size + 1 := World.size_alloc _ _
  have hz2 : ((w.alloc (RBox t k err)).alloc fnZ).heap.size = w.heap.size + 1 + 1 := by rw [World.size_alloc, hz1]
  have hz3 : (((w.alloc (RBox t k err)).alloc fnZ).alloc RNil).heap.size = w.heap.size + 1 + 1 + 1 := by rw [World.size_alloc, hz2]
  have hrr : (((w.alloc (RBox t k err)).alloc fnZ).alloc RNil).heap[w.heap.size + 1 + 1]? = some RNil := by rw [← hz2]; exact heap_alloc_new _ _
  have hrf : (((w.alloc (RBox t k err)).alloc fnZ).alloc RNil).heap[w.heap.size + 1]? = some fnZ := (Below.heap_alloc _ _ _ (by omega)).trans (by rw [← hz1]; exact heap_alloc_new _ _)
  have HB0 := Lib.hid hb0
  have HRR := Lib.hid hrr
  have HRF := Lib.hid hrf
  have HZ3 := Lib.hid hz3
  have h10 : (((w.alloc (RBox t k err)).alloc fnZ).alloc RNil).heap[w.heap.size]? = some (RBox t k err) := (Below.heap_alloc _ _ _ (by omega)).trans ((Below.heap_alloc _ _ _ (by omega)).trans (heap_alloc_new w _))
  unfold RBox at h10
  obtain ⟨p0, p1, p2, _, _, _⟩ := cells3 h10
  clear hb0 hz1 hz2 hz3 hrr hrf h10
  unfold RBox fnZ RNil at HB0 HRR HRF HZ3
  unfold fnZ RNil at p0 p1 p2
  go_enter Tryz.func38, Tryz.ntmps38
  go_upto_region 1 with fail
  generalize ((w.alloc (.cells #[.string t, .int .i64 (k : Int), .int .i64 (err : Int)] 79)).alloc (.cells #[.int .i64 0, .int .i64 0, .slice none 0 0] 49)).alloc (.cells #[.string ⟨#[]⟩, .int .i64 0, .int .i64 0] 79) = W0 at *
  go_wp2_with fail
  refine (HN _).out.mono ?_
  rintro e1 w1 ⟨k1, rfl, hS, hb1⟩
  have hz1 : Hid (w.heap.size + 1 + 1 < w1.heap.size) := Lib.hid (by have := hb1.size; have := HZ3.out; omega)
  have hZ1 : Below w.heap.size w w1 ∧ w1.heap[w.heap.size + 1]? = some fnZ ∧ w1.heap[w.heap.size + 1 + 1]? = some RNil := ⟨HB0.out.trans (hb1.mono HB0.out.size), (hb1.block _ (lt_of_block HRF.out)).trans HRF.out, (hb1.block _ (lt_of_block HRR.out)).trans HRR.out⟩
  have hbx1 : Below w1.heap.size w1 (w1.alloc (RBox t k1 S.err)) := (Below.refl _ _).alloc (Nat.le_refl _) _
  have hnew1 := heap_alloc_new w1 (RBox t k1 S.err)
  have HZ1 : Hid (Below w.heap.size w (w1.alloc (RBox t k1 S.err)) ∧ (w1.alloc (RBox t k1 S.err)).heap[w.heap.size + 1]? = some fnZ ∧ (w1.alloc (RBox t k1 S.err)).heap[w.heap.size + 1 + 1]? = some RNil) := Lib.hid ⟨hZ1.1.trans (hbx1.mono hZ1.1.size), (hbx1.block _ (lt_of_block hZ1.2.1)).trans hZ1.2.1, (hbx1.block _ (lt_of_block hZ1.2.2)).trans hZ1.2.2⟩
  unfold RBox at HZ1 hnew1
  obtain ⟨q0, q1, q2, _, _, _⟩ := cells3 hnew1
  have HN2 := fun W => Lib.hid (refNum_plain W t k1 S.err S ht hS)
  rw [HNb.out] at HN2
  clear hb1 hZ1 hbx1 hnew1 hS HN HB0 HRF HRR HZ3 p0 p1 p2
  go_upto_region 2 with fail
  have hsz1 : Hid (w.heap.size + 1 + 1 < (w1.alloc (.cells #[.string t, .int .i64 (k1 : Int), .int .i64 (S.err : Int)] 79)).heap.size) := Lib.hid (by have := hz1.out; rw [World.size_alloc]; omega)
  generalize w1.alloc (.cells #[.string t, .int .i64 (k1 : Int), .int .i64 (S.err : Int)] 79) = W1 at *
  generalize w1.heap.size = b6 at *
  go_wp2_with fail
  refine (HN2 _).out.mono ?_
  rintro e2 w2 ⟨k2, rfl, hT, hb2⟩
  have hz2 : w.heap.size + 1 + 1 < w2.heap.size := by have := hb2.size; have := hsz1.out; omega
  have hZ2 : Below w.heap.size w w2 ∧ w2.heap[w.heap.size + 1]? = some fnZ ∧ w2.heap[w.heap.size + 1 + 1]? = some RNil := ⟨HZ1.out.1.trans (hb2.mono HZ1.out.1.size), (hb2.block _ (lt_of_block HZ1.out.2.1)).trans HZ1.out.2.1, (hb2.block _ (lt_of_block HZ1.out.2.2)).trans HZ1.out.2.2⟩
  have HF3 := fun (x y a' b' : Int) (hx : x = a') (hy : y = b') => Lib.hid (by
    subst hx hy
    have e1 : Below w2.heap.size w2 (w2.alloc (RBox t k2 T.err)) := (Below.refl _ _).alloc (Nat.le_refl _) _
    have e2 : Below (w2.alloc (RBox t k2 T.err)).heap.size (w2.alloc (RBox t k2 T.err)) ((w2.alloc (RBox t k2 T.err)).alloc (.cells #[.int .i64 x, .int .i64 y, .slice none 0 0] 49)) := (Below.refl _ _).alloc (Nat.le_refl _) _
    have e3 : (w2.alloc (RBox t k2 T.err)).heap.size = w2.heap.size + 1 := World.size_alloc _ _
    have e4 : Below w2.heap.size w2 ((w2.alloc (RBox t k2 T.err)).alloc (.cells #[.int .i64 x, .int .i64 y, .slice none 0 0] 49)) := e1.trans (e2.mono e1.size)
    refine ⟨hZ2.1.trans (e4.mono hZ2.1.size), (e4.block _ (by omega)).trans hZ2.2.1, (e4.block _ (by omega)).trans hZ2.2.2, ?_, ⟨k2, (e2.block _ (by omega)).trans (heap_alloc_new _ _), hT⟩, by omega, hz2⟩
    rw [← e3]
    exact heap_alloc_new _ _ : F10 w t (w2.heap.size + 1) w2.heap.size a' b' T ((w2.alloc (RBox t k2 T.err)).alloc (.cells #[.int .i64 x, .int .i64 y, .slice none 0 0] 49)))
  unfold RBox at HF3
  have hz3 : (w2.alloc (.cells #[.string t, .int .i64 (k2 : Int), .int .i64 (T.err : Int)] 79)).heap.size = w2.heap.size + 1 := World.size_alloc _ _
  clear hT hb2 hZ2 HN2 HZ1 q0 q1 q2 hz1 hsz1
  obtain ⟨a', ha'⟩ : ∃ a' : Int, ((min a 2147483648 : Nat) : Int) = a' := ⟨_, rfl⟩
  obtain ⟨b', hb'⟩ : ∃ b' : Int, ((min b 2147483648 : Nat) : Int) = b' := ⟨_, rfl⟩
  rw [ha', hb'] at HR
  have HA' := Lib.hid ha'
  have HB' := Lib.hid hb'
  clear ha' hb'
  go_upto_region 3 with fail
  generalize w2.alloc (.cells #[.string t, .int .i64 (k2 : Int), .int .i64 (T.err : Int)] 79) = W2 at *
  generalize w2.heap.size = b8 at *
  go_cut [9] (fun p wx => ∃ bf : Nat, p = .pointer (some ⟨bf, 0, none⟩) ∧ Hid (F10 w t bf b8 a' b' T wx))
  case first =>
    go_wp2_with fail
    all_goals
      go_meet
      exact ⟨b8 + 1, rfl, HF3 _ _ a' b' (by have := HA'.out; omega) (by have := HB'.out; omega)⟩
  case rest =>
    obtain ⟨bf, rfl, HF⟩ := hcut
    clear HF3 hz3
    (rename (∀ (a : Act) (w : World), Code.wp _ _ _ a w → _) => hK; refine hK _ _ ?_; clear hK; apply wp_seq_k; intro _ _)
    obtain ⟨ky, hyy, hSy⟩ := HF.out.y
    have HMn := fun W => Lib.hid (refMany_any W t ky T.err T 200 (by decide) ht hSy)
    rw [HM.out] at HMn
    unfold ManyPost at HMn
    unfold RBox at hyy
    obtain ⟨y0, y1, y2, _, _, _⟩ := cells3 hyy
    clear hyy hSy
    go_wp2_with fail
    refine (HMn _).out.mono ?_
    rintro e4 w4 ⟨k3, rfl, hU, hb4⟩
    have hF4 := HF.out.next hb4
    have HR5 := Lib.hid (F10.row hF4 hU)
    have HF5 := Lib.hid (hF4.next ((Below.refl _ _).alloc (Nat.le_refl _) (RBox t k3 U.err)))
    unfold RBox at HR5 HF5
    clear hF4 hb4 hU HMn HF y0 y1 y2 HNb HA' HB' hlta hltb hz2
    go_upto_region 5 with fail
    generalize w4.alloc (.cells #[.string t, .int .i64 (k3 : Int), .int .i64 (U.err : Int)] 79) = W5 at *
    generalize w4.heap.size = bx at *
    obtain ⟨kt, hyy, hSy⟩ := HF5.out.y
    unfold RBox at hyy
    obtain ⟨y0, y1, y2, _, _, _⟩ := cells3 hyy
    clear hyy hSy
    by_cases hT : T.err = 0
    · have hT' : ((T.err : Int) != 0) = false := by simp [hT]
      have HT0 := Lib.hid hT
      clear hT
      by_cases he : e = 0
      · subst he
        have HRl : Hid (r = if (rdAll rdIns U m).2.2 ≠ 0 then (Fn.zero, (rdAll rdIns U m).2.1, (rdAll rdIns U m).2.2) else (⟨a', b', (rdAll rdIns U m).1⟩, (rdAll rdIns U m).2.1, 0)) := Lib.hid (by rw [HR.out, if_neg (by simp [HT0.out]), if_neg (by decide)])
        have hm : m ≤ 200 := by
          have h1 := HM.out
          unfold rdMany at h1
          split at h1
          · injection h1 with h1 h2
            injection h2 with h2 h3
            cases h3
          · injection h1 with h1 h2
            omega
        have HStop : Hid (∀ j, j < m → ∀ (ls : List De) (S1 S2 : St) (x : De) (e : Nat), rdAll rdIns U j = (ls, S1, 0) → rdIns S1 = (x, S2, e) → e ≠ 0 → r = (Fn.zero, S2, e)) := Lib.hid (fun j hj ls S1 S2 x e h1 h2 h3 => by rw [HRl.out, rdAll_stop hj h1 h2 h3, if_pos h3])
        clear HR HF5
        go_wp2_with fail
        clear y0 y1 y2
        go_loopw [13] (fun i wr => ∃ (j : Nat) (ls : List De) (S1 : St) (v : Value), j ≤ m ∧ i = .int .i64 (j : Int) ∧ Hid (rdAll rdIns U j = (ls, S1, 0)) ∧ Hid (R10 w t bf bx a' b' v ls S1 wr)) (fun i _ => m - (intOf i).toNat)
        case atStart => exact ⟨0, [], U, _, Nat.zero_le _, rfl, Lib.hid rfl, HR5⟩
        case round =>
          obtain ⟨j, ls, S1, v, hj, rfl, HL, HRr⟩ := hrel
          have hlen : ls.length = j := by have := rdAll_length j (by rw [HL.out] : (rdAll rdIns U j).2.2 = 0); rwa [HL.out] at this
          obtain ⟨Ao, co, hv⟩ := HRr.out.own.slice
          rw [hlen] at hv
          subst hv
          obtain ⟨kx, hxx, hSx⟩ := HRr.out.x
          unfold RBox at hxx
          obtain ⟨x0, x1, x2, _, _, _⟩ := cells3 hxx
          clear hxx
          by_cases hlt : j < m
          · have hlt' : (j : Int) < (m : Int) := by omega
            have HI := fun W => Lib.hid (refRead_any W t kx S1.err S1 ht hSx)
            unfold ReadPost at HI
            obtain ⟨o, aa, bb, Sz, ez, hI⟩ : ∃ o aa bb Sz ez, readI S1 = ⟨o, aa, bb, Sz, ez⟩ := ⟨(readI S1).o, (readI S1).a, (readI S1).b, (readI S1).s, (readI S1).e, by cases readI S1; rfl⟩
            have HY : Hid (rdIns S1 = ((o, aa, bb), Sz, ez)) := Lib.hid (by unfold rdIns; rw [hI])
            rw [hI] at HI
            dsimp only at HI
            clear hI hSx
            go_upto_block 1 with fail
            go_cut [13] (fun i wx => i = .int .i64 (j : Int) ∧ ∃ (x : De) (Sz : St) (v2 : Value), Hid (rdAll rdIns U (j + 1) = (ls ++ [x], Sz, 0)) ∧ Hid (R10 w t bf bx a' b' v2 (ls ++ [x]) Sz wx))
            case first =>
              go_wp2_with fail
              refine (HI _).out.mono ?_
              rintro e6 w6 ⟨kz, rfl, hSz, hb6⟩
              have hR6 := HRr.out.next hb6
              have hbi : Below w6.heap.size w6 (w6.alloc (.cells #[.int .i64 o, .int .i64 aa, .int .i64 bb] 51)) := (Below.refl _ _).alloc (Nat.le_refl _) _
              have hbz : Below (w6.alloc (.cells #[.int .i64 o, .int .i64 aa, .int .i64 bb] 51)).heap.size (w6.alloc (.cells #[.int .i64 o, .int .i64 aa, .int .i64 bb] 51)) ((w6.alloc (.cells #[.int .i64 o, .int .i64 aa, .int .i64 bb] 51)).alloc (RBox t kz Sz.err)) := (Below.refl _ _).alloc (Nat.le_refl _) _
              have hzi : (w6.alloc (.cells #[.int .i64 o, .int .i64 aa, .int .i64 bb] 51)).heap.size = w6.heap.size + 1 := World.size_alloc _ _
              have HR7 := Lib.hid ((hR6.next hbi).next hbz)
              have hyn := (hbz.block w6.heap.size (by omega)).trans (heap_alloc_new w6 (.cells #[.int .i64 o, .int .i64 aa, .int .i64 bb] 51))
              have hzn := heap_alloc_new (w6.alloc (.cells #[.int .i64 o, .int .i64 aa, .int .i64 bb] 51)) (RBox t kz Sz.err)
              rw [hzi] at hzn
              have hltb : bx < w6.heap.size := hR6.lt
              have HSz := Lib.hid hSz
              unfold RBox at HR7 hyn hzn
              clear hR6 hbi hbz hb6 hSz HI x0 x1 x2 HRr
              go_upto_region 13 with fail
              have HHz := Lib.hid hzi
              clear hzi
              generalize (w6.alloc (.cells #[.int .i64 o, .int .i64 aa, .int .i64 bb] 51)).alloc (.cells #[.string t, .int .i64 (kz : Int), .int .i64 (Sz.err : Int)] 79) = W7 at *
              clear HHz
              generalize w6.heap.size = gy at *
              obtain ⟨y0, y1, y2, _, _, _⟩ := cells3 hyn
              obtain ⟨z0, z1, z2, _, _, _⟩ := cells3 hzn
              obtain ⟨d0, d1, d2, df0, df1, df2⟩ := cells3 HR7.out.f
              by_cases hez : ez = 0
              · subst hez
                have HQ1 := Lib.hid (rdAll_next HL.out HY.out)
                have hez' : ((0 : Int) != 0) = false := rfl
                have hbA : Below W7.heap.size W7 (W7.alloc (insC o aa bb)) := (Below.refl _ _).alloc (Nat.le_refl _) _
                have hown1 : OwnJ (W7.alloc (insC o aa bb)) (bx + 1) (.slice Ao j co) ls := HR7.out.own.next hbA
                have hone : DAt (W7.alloc (insC o aa bb)) (some ⟨W7.heap.size, 0, none⟩) [(o, aa, bb)] := DAt.oneJ (d := (o, aa, bb)) (heap_alloc_new W7 _)
                have hbase : bx + 1 ≤ (W7.alloc (insC o aa bb)).heap.size := by have := HR7.out.lt; rw [World.size_alloc]; omega
                have hll : ls.length ≤ 200 := by omega
                have HLn : Hid ((ls ++ [(o, aa, bb)]).length = j + 1) := Lib.hid (by rw [List.length_append, hlen]; rfl)
                have Hap := fun (v2 : Value) (W2 : World) (h1 : OwnJ W2 (bx + 1) v2 (ls ++ [(o, aa, bb)])) (h2 : (W7.alloc (insC o aa bb)).grownBy W2 (Value.slice Ao j co).ownBlock) => HR7.out.app (bz := gy + 1) (S' := Sz) hzn (by omega) hbA h1 h2
                have hzA := (hbA.block (gy + 1) (lt_of_block hzn)).trans hzn
                have hfA := (hbA.block bf (lt_of_block HR7.out.f)).trans HR7.out.f
                unfold insC at hown1 hone Hap hzA hfA hbase
                obtain ⟨b0, b1, b2, _, _, _⟩ := cells3 hzA
                obtain ⟨_, _, c2, _, _, _⟩ := cells3 hfA
                have m1 : bx ≠ bf := by have := HR7.out.hx; omega
                have m2 : bf ≠ bx := fun e => m1 e.symm
                have m3 : gy + 1 ≠ bf := by have := HR7.out.hx; omega
                clear hbA hzA hfA hyn hzn
                go_wp2_with fail
                go_region_law (first
                  | (refine step_appJ (w := (W7.alloc (.cells #[.int .i64 o, .int .i64 aa, .int .i64 bb] 51)).drew) (by rfl) (.tmp 69) (.tmp 71) (by rfl) (bx + 1) 1 1 (.slice Ao j co) (some ⟨W7.heap.size, 0, none⟩) ls [(o, aa, bb)] (by rfl) hown1 (by rfl) rfl (fun h => by cases h) hone (by simp; omega) hbase ?_; intro v2 W9 hv2 hg2; have hAp := Hap v2 W9 hv2 ⟨hg2.os, hg2.tape, hg2.output, hg2.size, hg2.block⟩; have HAp := Lib.hid hAp; have hzW := hAp.z; unfold RBox at hzW; obtain ⟨a0, a1, a2, _, _, _⟩ := cells3 hzW; obtain ⟨ka, ea, hxa⟩ := hAp.x; unfold RBox at hxa; obtain ⟨x0, x1, x2, xf0, xf1, xf2⟩ := cells3 hxa; obtain ⟨g0, g1, g2, gf0, gf1, gf2⟩ := cells3 hAp.f; obtain ⟨Av, cv, hve⟩ := hv2.slice; rw [HLn.out] at hve; subst hve; clear hAp hzW hxa)
                  | (refine step_appJ (w := W7.drew.alloc (.cells #[.int .i64 o, .int .i64 aa, .int .i64 bb] 51)) (by rfl) (.tmp 69) (.tmp 71) (by rfl) (bx + 1) 1 1 (.slice Ao j co) (some ⟨W7.heap.size, 0, none⟩) ls [(o, aa, bb)] (by rfl) hown1 (by rfl) rfl (fun h => by cases h) hone (by simp; omega) hbase ?_; intro v2 W9 hv2 hg2; have hAp := Hap v2 W9 hv2 ⟨hg2.os, hg2.tape, hg2.output, hg2.size, hg2.block⟩; have HAp := Lib.hid hAp; have hzW := hAp.z; unfold RBox at hzW; obtain ⟨a0, a1, a2, _, _, _⟩ := cells3 hzW; obtain ⟨ka, ea, hxa⟩ := hAp.x; unfold RBox at hxa; obtain ⟨x0, x1, x2, xf0, xf1, xf2⟩ := cells3 hxa; obtain ⟨g0, g1, g2, gf0, gf1, gf2⟩ := cells3 hAp.f; obtain ⟨Av, cv, hve⟩ := hv2.slice; rw [HLn.out] at hve; subst hve; clear hAp hzW hxa))
                all_goals
                  go_wp2_with fail
                  go_meet
                  exact ⟨rfl, (o, aa, bb), Sz, _, HQ1, Lib.hid (HAp.out.store HSz.out)⟩
              · have HV := Lib.hid (HStop.out j hlt _ _ _ _ _ HL.out HY.out hez)
                have HE0 := Lib.hid hez
                have hez' : ((ez : Int) != 0) = true := by simpa using hez
                have hrf := HR7.out.rf
                have hrr := HR7.out.rr
                have e1 := HR7.out.hf
                have e2 := HR7.out.hx
                unfold fnZ at hrf
                unfold RNil at hrr
                obtain ⟨r0, r1, r2, rf0, rf1, rf2⟩ := cells3 hrf
                obtain ⟨q0, q1, q2, qf0, qf1, qf2⟩ := cells3 hrr
                have n1 : bf ≠ w.heap.size + 1 := by omega
                have n2 : bf ≠ w.heap.size + 1 + 1 := by omega
                have n3 : gy + 1 ≠ w.heap.size + 1 := by omega
                have n4 : gy + 1 ≠ w.heap.size + 1 + 1 := by omega
                have n5 : gy ≠ w.heap.size := by omega
                have n6 : gy ≠ w.heap.size + 1 := by omega
                have HE := Lib.hid (ends10 (ar := a') (lo := b') (A := Ao) (n := j) (c := co) (t1 := t) (k1 := kz) (e1 := Sz.err) HR7.out.below hrf hrr)
                clear hez hrf hrr e1 e2 HL HY HStop HRl HR7 hyn hzn hltb
                have n0 : w.heap.size + 1 + 1 ≠ w.heap.size + 1 := by omega
                have n00 : w.heap.size + 1 ≠ w.heap.size + 1 + 1 := by omega
                generalize w.heap.size + 1 + 1 = B2 at *
                generalize w.heap.size + 1 = B1 at *
                go_wp2_with fail
                go_region
                go_wp2_with fail
                exact fn2_ret (by rw [HV.out]) HE.out (by rfl) (by rfl) (by rfl) rfl (fun h => absurd (by rw [HV.out] at h; exact h) HE0.out)
            case rest =>
              obtain ⟨rfl, x, Sn, v2, HQn, HRn⟩ := hcut
              clear HI HY x0 x1 x2 HRr HL HStop
              go_wp2_with fail
              go_roundw
              case rel => exact ⟨j + 1, ls ++ [x], Sn, v2, by omega, by go_num, HQn, HRn⟩
              case measure => simp [intOf]; omega
          · obtain rfl : j = m := by omega
            have HV : Hid (r = (⟨a', b', ls⟩, S1, 0)) := Lib.hid (by rw [HRl.out, HL.out]; rfl)
            have hrf := HRr.out.rf
            have hrr := HRr.out.rr
            have e1 := HRr.out.hf
            have e2 := HRr.out.hx
            unfold fnZ at hrf
            unfold RNil at hrr
            obtain ⟨d0, d1, d2, _, _, _⟩ := cells3 HRr.out.f
            obtain ⟨r0, r1, r2, rf0, rf1, rf2⟩ := cells3 hrf
            obtain ⟨q0, q1, q2, qf0, qf1, qf2⟩ := cells3 hrr
            have n1 : bf ≠ w.heap.size + 1 := by omega
            have n2 : bf ≠ w.heap.size + 1 + 1 := by omega
            have n3 : bx ≠ w.heap.size + 1 := by omega
            have n4 : bx ≠ w.heap.size + 1 + 1 := by omega
            have HE := Lib.hid (ends10 (ar := a') (lo := b') (A := Ao) (n := j) (c := co) (t1 := t) (k1 := kx) (e1 := S1.err) HRr.out.below hrf hrr)
            have hO0 := (HRr.out.own.keep (w' := put3 (put3 wr (w.heap.size + 1) (.int .i64 a') (.int .i64 b') (.slice Ao j co)) (w.heap.size + 1 + 1) (.string t) (.int .i64 (kx : Int)) (.int .i64 (S1.err : Int))) fun g hg => (put3_far (by have := (HRr.out.own.lt hg).1; omega) _ _ _).trans (put3_far (by have := (HRr.out.own.lt hg).1; omega) _ _ _)).base (base' := w.heap.size) (by omega)
            have HO := Lib.hid (ownJ_drew hO0)
            clear hO0
            have HS1 := Lib.hid hSx
            clear hrf hrr e1 e2 HL HStop HRl HRr hSx
            have n0 : w.heap.size + 1 + 1 ≠ w.heap.size + 1 := by omega
            have n00 : w.heap.size + 1 ≠ w.heap.size + 1 + 1 := by omega
            generalize w.heap.size + 1 + 1 = B2 at *
            generalize w.heap.size + 1 = B1 at *
            go_wp2_with fail
            go_region
            go_wp2_with fail
            exact fn2_ret (by rw [HV.out]) HE.out (by rfl) (by rfl) (by rfl) rfl (fun _ => by rw [HV.out]; exact ⟨rfl, rfl, HO.out, rfl, rfl, HS1.out⟩)
      · have he' : ((e : Int) != 0) = true := by simpa using he
        have HV : Hid (r = (Fn.zero, U, e)) := Lib.hid (by rw [HR.out, if_neg (by simp [HT0.out]), if_pos he])
        have HE0 := Lib.hid he
        obtain ⟨kx, hxx, _⟩ := HR5.out.x
        have hrf := HR5.out.rf
        have hrr := HR5.out.rr
        have e1 := HR5.out.hf
        have e2 := HR5.out.hx
        unfold RBox at hxx
        unfold fnZ at hrf
        unfold RNil at hrr
        obtain ⟨x0, x1, x2, _, _, _⟩ := cells3 hxx
        obtain ⟨d0, d1, d2, _, _, _⟩ := cells3 HR5.out.f
        obtain ⟨r0, r1, r2, rf0, rf1, rf2⟩ := cells3 hrf
        obtain ⟨q0, q1, q2, qf0, qf1, qf2⟩ := cells3 hrr
        have n1 : bf ≠ w.heap.size + 1 := by omega
        have n2 : bf ≠ w.heap.size + 1 + 1 := by omega
        have n3 : bx ≠ w.heap.size + 1 := by omega
        have n4 : bx ≠ w.heap.size + 1 + 1 := by omega
        have HE := Lib.hid (ends10 (ar := a') (lo := b') (A := none) (n := 0) (c := 0) (t1 := t) (k1 := kx) (e1 := U.err) HR5.out.below hrf hrr)
        clear he hxx hrf hrr e1 e2 HR HF5 HR5
        have n0 : w.heap.size + 1 + 1 ≠ w.heap.size + 1 := by omega
        have n00 : w.heap.size + 1 ≠ w.heap.size + 1 + 1 := by omega
        generalize w.heap.size + 1 + 1 = B2 at *
        generalize w.heap.size + 1 = B1 at *
        go_wp2_with fail
        go_region
        go_wp2_with fail
        exact fn2_ret (by rw [HV.out]) HE.out (by rfl) (by rfl) (by rfl) rfl (fun h => absurd (by rw [HV.out] at h; exact h) HE0.out)
    · have hT' : ((T.err : Int) != 0) = true := by simpa using hT
      have HV : Hid (r = (Fn.zero, T, T.err)) := Lib.hid (by rw [HR.out, if_pos hT])
      have HE0 := Lib.hid hT
      have hrf := HF5.out.rf
      have hrr := HF5.out.rr
      have e1 := HF5.out.hf
      have e2 := HF5.out.hy
      unfold fnZ at hrf
      unfold RNil at hrr
      obtain ⟨d0, d1, d2, _, _, _⟩ := cells3 HF5.out.f
      obtain ⟨r0, r1, r2, rf0, rf1, rf2⟩ := cells3 hrf
      obtain ⟨q0, q1, q2, qf0, qf1, qf2⟩ := cells3 hrr
      have n1 : bf ≠ w.heap.size + 1 := by omega
      have n2 : bf ≠ w.heap.size + 1 + 1 := by omega
      have n3 : b8 ≠ w.heap.size + 1 := by omega
      have n4 : b8 ≠ w.heap.size + 1 + 1 := by omega
      have HE := Lib.hid (ends10 (ar := a') (lo := b') (A := none) (n := 0) (c := 0) (t1 := t) (k1 := kt) (e1 := T.err) HF5.out.below hrf hrr)
      clear hT hrf hrr e1 e2 HR HF5 HR5
      have n0 : w.heap.size + 1 + 1 ≠ w.heap.size + 1 := by omega
      have n00 : w.heap.size + 1 ≠ w.heap.size + 1 + 1 := by omega
      generalize w.heap.size + 1 + 1 = B2 at *
      generalize w.heap.size + 1 = B1 at *
      go_wp2_with fail
      go_region
      go_wp2_with fail
      exact fn2_ret (by rw [HV.out]) HE.out (by rfl) (by rfl) (by rfl) rfl (fun h => absurd (by rw [HV.out] at h; exact h) HE0.out)
end Go.Proofs.YtahejekcfgkiaaaGreatDoor.pgm
