/-
  Memory while the document's own reader goes over a program's waits and functions. No condition.
-/
import Derived.Test.YtahejekcfgkiaaaGreatDoorGall24
import Derived.Test.YtahejekcfgkiaaaGreatDoorGRefFn2
import Derived.Test.YtahejekcfgkiaaaGreatDoorGall23
import Derived.Test.YtahejekcfgkiaaaGreatDoorERefRead2
import Derived.Test.YtahejekcfgkiaaaGreatDoorGall18
namespace Go.Proofs.YtahejekcfgkiaaaGreatDoor.pgm
open Go.RowKit Go.ChangeShapes
open Go.Proofs.YtahejekcfgkiaaaGreatDoor.objs (De zero DAt put3 cells3 put3_same put3_far put3_below RBox RNil Own)
open Go.Proofs.YtahejekcfgkiaaaGreatDoor.octet (St rdNum Stands)
open Go.Proofs.YtahejekcfgkiaaaGreatDoor.need (WAt WG OwnW readW chkW chkW_zero)
set_option linter.unusedVariables false

/-- Behind what is read of a list without an error, each of it was read so. -/
theorem rdAll_each {α : Type} {rd : St → α × St × Nat} {ok : α → Prop} (h : ∀ s, (rd s).2.2 = 0 → ok (rd s).1) {s : St} : ∀ j, (rdAll rd s j).2.2 = 0 → ∀ x ∈ (rdAll rd s j).1, ok x := by
  intro j
  induction j with
  | zero => intro _ x hx; cases hx
  | succ j ih =>
    intro h0 x hx
    by_cases h1 : (rdAll rd s j).2.2 = 0
    · by_cases h2 : (rd (rdAll rd s j).2.1).2.2 = 0
      · have e := rdAll_next (rd := rd) (s := s) (j := j) (ls := (rdAll rd s j).1) (S := (rdAll rd s j).2.1) (x := (rd (rdAll rd s j).2.1).1) (T := (rd (rdAll rd s j).2.1).2.1) (by rw [← h1]) (by rw [← h2])
        rw [e] at hx
        rcases List.mem_append.1 hx with hx | hx
        · exact ih h1 x hx
        · rw [List.mem_singleton.1 hx]
          exact h _ h2
      · have e := rdAll_stop (rd := rd) (s := s) (n := j + 1) (j := j) (ls := (rdAll rd s j).1) (S := (rdAll rd s j).2.1) (x := (rd (rdAll rd s j).2.1).1) (T := (rd (rdAll rd s j).2.1).2.1) (e := (rd (rdAll rd s j).2.1).2.2) (Nat.lt_succ_self _) (by rw [← h1]) rfl h2
        rw [e] at h0
        exact absurd h0 h2
    · rw [rdAll_err (j := j) h1 (j + 1) (by omega)] at h0
      exact absurd h0 h1
def SmallW (l : List (List De)) : Prop := l.length ≤ 4 ∧ ∀ x ∈ l, x.length ≤ 4
theorem readW_small (d : List De) (s : St) (h : (readW d s).2.2 = 0) : SmallW (readW d s).1 := by
  unfold readW at h ⊢
  dsimp only at h ⊢
  split
  · exact ⟨by simp, fun x hx => by cases hx⟩
  · split
    · exact ⟨by simp, fun x hx => by cases hx⟩
    · split
      · exact ⟨by simp, fun x hx => by cases hx⟩
      · split
        · exact ⟨by simp, fun x hx => by cases hx⟩
        · rename_i hc
          obtain ⟨_, h1, h2⟩ := chkW_zero (Classical.not_not.1 hc)
          exact ⟨h1, fun x hx => (h2 x hx).2.1⟩
theorem rdMany_le {s : St} {most : Nat} (h : (rdMany s most).2.2 = 0) : (rdMany s most).1 ≤ most := by
  unfold rdMany at h ⊢
  split
  · exact Nat.zero_le _
  · omega
theorem rdFn_small {rdI : St → De × St × Nat} (s : St) (h : (rdFn rdI s).2.2 = 0) : (rdFn rdI s).1.co.length ≤ 200 := by
  unfold rdFn at h ⊢
  dsimp only at h ⊢
  split
  · exact Nat.zero_le _
  · split
    · exact Nat.zero_le _
    · split
      · exact Nat.zero_le _
      · rename_i h1 h2 h3
        have hm := rdMany_le (Classical.not_not.1 h2)
        have := rdAll_length _ (Classical.not_not.1 h3)
        dsimp only
        omega

theorem OwnV.wg {W : World} {base n cap : Nat} {A : Option Addr} {l : List (List (List De))} (h : OwnV W base (.slice A n cap) l) (hl : l.length ≤ 32) (hll : ∀ x ∈ l, SmallW x) : WsG W A l.length l := by
  refine ⟨by omega, fun j hj => ?_⟩
  obtain ⟨xs, h1, h2⟩ := h
  obtain ⟨x, h3, h4⟩ := h2 j hj
  have h6 := hll _ (getD_in (d := []) hj)
  rcases h1.2 with ⟨e, h0⟩ | ⟨g, cap', cur, e, hb, hh, _⟩
  · omega
  · injection e with e1 e2 e3
    subst e1
    have hcell : W.cell? ⟨g, 0 + j, none⟩ = some x := by
      have := World.ownsRow.cells h1 (g := g) rfl _ _ h3
      rwa [Addr.add_lit] at this
    obtain ⟨Aj, cj, rfl⟩ := h4.slice
    have hw := h4.wg (by have := h6.1; omega) (fun y hy => by have := h6.2 y hy; omega)
    obtain ⟨ys, k1, _⟩ := h4
    rcases k1.2 with ⟨e, h0⟩ | ⟨g', c', cur', e, hb', hh', hn, hm, _⟩
    · injection e with q1 q2 q3
      subst q1 q3
      exact ⟨g, 0, none, (l.getD j []).length, 0, rfl, lt_of_block hh, hcell, hw, by omega, by omega, fun _ => ⟨h0, rfl⟩⟩
    · injection e with q1 q2 q3
      subst q1 q3
      exact ⟨g, 0, some ⟨g', 0, none⟩, (l.getD j []).length, cj, rfl, lt_of_block hh, hcell, hw, hn, by simpa [maxLen] using hm, fun h => by cases h⟩
theorem OwnF.fg {W : World} {base n cap : Nat} {A : Option Addr} {l : List Fn} (h : OwnF W base (.slice A n cap) l) (hl : l.length ≤ 16) (hll : ∀ f ∈ l, f.co.length ≤ 200) : FsG W A l.length l := by
  refine ⟨by omega, fun j hj => ?_⟩
  obtain ⟨xs, h1, h2⟩ := h
  obtain ⟨e1, e2, x, h3, h4⟩ := h2 j hj
  have h6 := hll _ (getD_in (d := Fn.zero) hj)
  rcases h1.2 with ⟨e, h0⟩ | ⟨g, cap', cur, e, hb, hh, _⟩
  · omega
  · injection e with q1 q2 q3
    subst q1
    obtain ⟨Aj, cj, rfl⟩ := h4.slice
    have at_ : ∀ i u, xs[i]? = some u → W.cell? ⟨g, 0 + i, none⟩ = some u := fun i u hu => by
      have := World.ownsRow.cells h1 (g := g) rfl _ _ hu
      rwa [Addr.add_lit] at this
    have hd := h4.at
    rcases h4.2 with ⟨e, h0⟩ | ⟨g', c', cur', e, hb', hh', hn, hm, _⟩
    · injection e with q1 q2 q3
      subst q1 q3
      exact ⟨g, 0, none, (l.getD j Fn.zero).co.length, 0, rfl, lt_of_block hh, ⟨at_ _ _ e1, at_ _ _ e2, at_ _ _ h3⟩, hd, by omega, by omega, by omega, fun _ => ⟨h0, rfl⟩⟩
    · injection e with q1 q2 q3
      subst q1 q3
      exact ⟨g, 0, some ⟨g', 0, none⟩, (l.getD j Fn.zero).co.length, cj, rfl, lt_of_block hh, ⟨at_ _ _ e1, at_ _ _ e2, at_ _ _ h3⟩, hd, by omega, hn, by simpa [maxLen] using hm, fun h => by cases h⟩

/-- Between two waits, and between two functions: the result's box, the empty program's, that of the one that grows, the reader's; its objects, its waits, its functions. -/
structure P0 (w : World) (t : ByteArray) (bx : Nat) (dv v u : Value) (ds : List De) (S : St) (W : World) : Prop where
  below : Below w.heap.size w W
  r0 : W.heap[w.heap.size]? = some (pgB sN sN sN)
  n : W.heap[w.heap.size + 1]? = some (pgB sN sN sN)
  p : W.heap[w.heap.size + 1 + 1]? = some (pgB dv v u)
  x : ∃ k : Nat, W.heap[bx]? = some (RBox t k S.err) ∧ Stands t k S.err S
  ds : ∃ base, w.heap.size + 1 + 1 < base ∧ Stays W base bx (fun W' => Own W' base dv ds)
  hx : w.heap.size + 1 + 1 < bx
theorem P0.lt {w W : World} {t : ByteArray} {bx : Nat} {dv v u : Value} {ds : List De} {S : St} (h : P0 w t bx dv v u ds S W) : bx < W.heap.size := by
  obtain ⟨_, h1, _⟩ := h.x
  exact lt_of_block h1
theorem P0.next {w W W' : World} {t : ByteArray} {bx : Nat} {dv v u : Value} {ds : List De} {S : St} (h : P0 w t bx dv v u ds S W) (hb : Below W.heap.size W W') : P0 w t bx dv v u ds S W' := by
  obtain ⟨k, h1, h2⟩ := h.x
  obtain ⟨base, h3, h4⟩ := h.ds
  exact ⟨h.below.trans (hb.mono h.below.size), (hb.block _ (lt_of_block h.r0)).trans h.r0, (hb.block _ (lt_of_block h.n)).trans h.n, (hb.block _ (lt_of_block h.p)).trans h.p, ⟨k, (hb.block _ (lt_of_block h1)).trans h1, h2⟩, ⟨base, h3, h4.next hb⟩, h.hx⟩
/-- A row above the reader's box has grown. -/
theorem P0.grown {w W Wa W3 : World} {t : ByteArray} {bx : Nat} {dv v u : Value} {ds : List De} {S : St} {ob : Option Nat} (h : P0 w t bx dv v u ds S W) (h1 : Below W.heap.size W Wa) (hg : Wa.grownBy W3 ob) (hlo : ∀ i, ob = some i → bx < i) : P0 w t bx dv v u ds S W3 := by
  have e2 := h.hx
  have hs := h1.size
  have hfar : ∀ i, i < W.heap.size → i ≤ bx → W3.heap[i]? = W.heap[i]? := fun i hi hne => (hg.block i (by omega) (fun e => by have := hlo i e.symm; omega)).trans (h1.block i hi)
  obtain ⟨k, k1, k2⟩ := h.x
  obtain ⟨base, h3, h4⟩ := h.ds
  refine ⟨(h.below.trans (h1.mono h.below.size)).grown hg (by have := h.below.size; omega) (fun i e => by have := hlo i e; omega), (hfar _ (lt_of_block h.r0) (by omega)).trans h.r0, (hfar _ (lt_of_block h.n) (by omega)).trans h.n, (hfar _ (lt_of_block h.p) (by omega)).trans h.p, ⟨k, (hfar _ (lt_of_block k1) (Nat.le_refl _)).trans k1, k2⟩, ⟨base, h3, h4.keep (Nat.le_trans hs hg.size) fun g _ hgx => hfar g (by have := h4.1; omega) (by omega)⟩, e2⟩
/-- The program's and the reader's box are stored. -/
theorem P0.store {w W : World} {t : ByteArray} {bx k : Nat} {dv v u v2 u2 : Value} {ds : List De} {S S2 : St} (h : P0 w t bx dv v u ds S W) (W1 : World) (hs1 : W.heap.size = W1.heap.size) (hp : W1.heap[w.heap.size + 1 + 1]? = some (pgB dv v2 u2)) (ho : ∀ i, i ≠ w.heap.size + 1 + 1 → W1.heap[i]? = W.heap[i]?) (hbl : Below w.heap.size w W1) (hS : Stands t k S2.err S2) :
    P0 w t bx dv v2 u2 ds S2 (put3 W1 bx (.string t) (.int .i64 (k : Int)) (.int .i64 (S2.err : Int))) := by
  have e2 := h.hx
  obtain ⟨k0, h1, h2⟩ := h.x
  obtain ⟨base, h3, h4⟩ := h.ds
  have hfar : ∀ i, i ≠ w.heap.size + 1 + 1 → i ≠ bx → (put3 W1 bx (.string t) (.int .i64 (k : Int)) (.int .i64 (S2.err : Int))).heap[i]? = W.heap[i]? := fun i h1 h2 => (put3_far h2 _ _ _).trans (ho i h1)
  refine ⟨put3_below hbl (by omega) _ _ _, (hfar _ (by omega) (by omega)).trans h.r0, (hfar _ (by omega) (by omega)).trans h.n, (put3_far (by omega) _ _ _).trans hp, ⟨k, put3_same ((ho bx (by omega)).trans h1) _ _ _, hS⟩, ⟨base, h3, h4.keep (by simp [put3, World.setCell, hs1]) fun g hl hg => hfar g (by omega) (by omega)⟩, e2⟩
/-- Between two waits. -/
structure P1 (w : World) (t : ByteArray) (bx : Nat) (dv v : Value) (ds : List De) (ws : List (List (List De))) (S : St) (W : World) : Prop where
  o : P0 w t bx dv v sN ds S W
  own : OwnV W (bx + 1) v ws
theorem P1.next {w W W' : World} {t : ByteArray} {bx : Nat} {dv v : Value} {ds : List De} {ws : List (List (List De))} {S : St} (h : P1 w t bx dv v ds ws S W) (hb : Below W.heap.size W W') : P1 w t bx dv v ds ws S W' := ⟨h.o.next hb, h.own.next hb⟩
/-- Behind the append of a wait: the new reader's box is still there. -/
theorem P1.app {w W Wa W3 : World} {t : ByteArray} {bx bz kz : Nat} {dv v v2 : Value} {ds : List De} {ws ws2 : List (List (List De))} {S S' : St} (h : P1 w t bx dv v ds ws S W) (hz : W.heap[bz]? = some (RBox t kz S'.err)) (h1 : Below W.heap.size W Wa) (h2 : OwnV W3 (bx + 1) v2 ws2) (hg : Wa.grownBy W3 v.ownBlock) :
    P0 w t bx dv v sN ds S W3 ∧ W3.heap[bz]? = some (RBox t kz S'.err) ∧ OwnV W3 (bx + 1) v2 ws2 := by
  refine ⟨h.o.grown h1 hg (fun i e => by have := (h.own.inB e).1; omega), (hg.block bz (by have := lt_of_block hz; have := h1.size; omega) (fun e => ?_)).trans ((h1.block bz (lt_of_block hz)).trans hz), h2⟩
  obtain ⟨cur, hk⟩ := h.own.kind e.symm
  rw [hk] at hz
  unfold RBox at hz
  injection hz with hz
  injection hz with _ hz _
  exact absurd hz (by decide)
theorem P1.stored {w W : World} {t : ByteArray} {bx kz : Nat} {dv v v2 : Value} {ds : List De} {ws : List (List (List De))} {S S' : St} (h : P0 w t bx dv v sN ds S W) (ho : OwnV W (bx + 1) v2 ws) (hS : Stands t kz S'.err S') :
    P1 w t bx dv v2 ds ws S' (put3 (W.setCell ⟨w.heap.size + 1 + 1, 1, none⟩ v2) bx (.string t) (.int .i64 (kz : Int)) (.int .i64 (S'.err : Int))) := by
  have e2 := h.hx
  have hs : ∀ i, i ≠ w.heap.size + 1 + 1 → (W.setCell ⟨w.heap.size + 1 + 1, 1, none⟩ v2).heap[i]? = W.heap[i]? := fun i hi => Below.heap_setCell W ⟨w.heap.size + 1 + 1, 1, none⟩ _ i hi
  refine ⟨h.store _ (by simp [World.setCell]) (pg_set1 h.p v2) hs (h.below.setCell (p := ⟨w.heap.size + 1 + 1, 1, none⟩) (by show w.heap.size ≤ w.heap.size + 1 + 1; omega) _) hS, ho.hold fun g hg _ => (put3_far (by omega) _ _ _).trans (hs g (by omega))⟩
/-- Between two functions. -/
structure P2 (w : World) (t : ByteArray) (bx M : Nat) (dv v u : Value) (ds : List De) (ws : List (List (List De))) (fs : List Fn) (S : St) (W : World) : Prop where
  o : P0 w t bx dv v u ds S W
  ws : Stays W (bx + 1) M (fun W' => OwnV W' (bx + 1) v ws)
  own : OwnF W M u fs
  hM : bx < M
theorem P2.next {w W W' : World} {t : ByteArray} {bx M : Nat} {dv v u : Value} {ds : List De} {ws : List (List (List De))} {fs : List Fn} {S : St} (h : P2 w t bx M dv v u ds ws fs S W) (hb : Below W.heap.size W W') : P2 w t bx M dv v u ds ws fs S W' := ⟨h.o.next hb, h.ws.next hb, h.own.next hb, h.hM⟩
theorem P2.app {w W Wa W3 : World} {t : ByteArray} {bx M bz kz : Nat} {dv v u u2 : Value} {ds : List De} {ws : List (List (List De))} {fs fs2 : List Fn} {S S' : St} (h : P2 w t bx M dv v u ds ws fs S W) (hz : W.heap[bz]? = some (RBox t kz S'.err)) (h1 : Below W.heap.size W Wa) (h2 : OwnF W3 M u2 fs2) (hg : Wa.grownBy W3 u.ownBlock) :
    P0 w t bx dv v u ds S W3 ∧ W3.heap[bz]? = some (RBox t kz S'.err) ∧ OwnF W3 M u2 fs2 ∧ Stays W3 (bx + 1) M (fun W' => OwnV W' (bx + 1) v ws) := by
  have hM := h.hM
  refine ⟨h.o.grown h1 hg (fun i e => by have := (h.own.inB e).1; omega), (hg.block bz (by have := lt_of_block hz; have := h1.size; omega) (fun e => ?_)).trans ((h1.block bz (lt_of_block hz)).trans hz), h2, h.ws.keep (Nat.le_trans h1.size hg.size) fun g _ hgm => (hg.block g (by have := h.ws.1; have := h1.size; omega) (fun e => by have := (h.own.inB e.symm).1; omega)).trans (h1.block g (by have := h.ws.1; omega))⟩
  obtain ⟨cur, hk⟩ := h.own.kind e.symm
  rw [hk] at hz
  unfold RBox at hz
  injection hz with hz
  injection hz with _ hz _
  exact absurd hz (by decide)
theorem P2.stored {w W : World} {t : ByteArray} {bx M kz : Nat} {dv v u u2 : Value} {ds : List De} {ws : List (List (List De))} {fs : List Fn} {S S' : St} (h : P0 w t bx dv v u ds S W) (hw : Stays W (bx + 1) M (fun W' => OwnV W' (bx + 1) v ws)) (ho : OwnF W M u2 fs) (hM : bx < M) (hS : Stands t kz S'.err S') :
    P2 w t bx M dv v u2 ds ws fs S' (put3 (W.setCell ⟨w.heap.size + 1 + 1, 2, none⟩ u2) bx (.string t) (.int .i64 (kz : Int)) (.int .i64 (S'.err : Int))) := by
  have e2 := h.hx
  have hs : ∀ i, i ≠ w.heap.size + 1 + 1 → (W.setCell ⟨w.heap.size + 1 + 1, 2, none⟩ u2).heap[i]? = W.heap[i]? := fun i hi => Below.heap_setCell W ⟨w.heap.size + 1 + 1, 2, none⟩ _ i hi
  refine ⟨h.store _ (by simp [World.setCell]) (pg_set2 h.p u2) hs (h.below.setCell (p := ⟨w.heap.size + 1 + 1, 2, none⟩) (by show w.heap.size ≤ w.heap.size + 1 + 1; omega) _) hS, hw.keep (by simp [put3, World.setCell]) fun g hl _ => (put3_far (by omega) _ _ _).trans (hs g (by omega)), ho.hold fun g hg _ => (put3_far (by omega) _ _ _).trans (hs g (by omega)), hM⟩
/-- The waits are read: the functions begin, behind a count. -/
theorem P1.turn {w W : World} {t : ByteArray} {bx k : Nat} {dv v : Value} {ds : List De} {ws : List (List (List De))} {S S' : St} (h : P1 w t bx dv v ds ws S W) (hS : Stands t k S'.err S') :
    P2 w t bx W.heap.size dv v sN ds ws [] S' (put3 W bx (.string t) (.int .i64 (k : Int)) (.int .i64 (S'.err : Int))) :=
  have e2 := h.o.hx
  ⟨h.o.store W rfl h.o.p (fun _ _ => rfl) h.o.below hS, h.own.stays.keep (by simp [put3, World.setCell]) fun g hl _ => put3_far (by omega) _ _ _, OwnF.nil _ _, h.o.lt⟩
/-- What the program that was read is for the check, and for the answer. -/
theorem P2.head {w W : World} {t : ByteArray} {bx M : Nat} {dv v u : Value} {ds : List De} {ws : List (List (List De))} {fs : List Fn} {S : St} (h : P2 w t bx M dv v u ds ws fs S W) (h1 : ds.length ≤ 32) (h2 : ws.length ≤ 32) (h3 : ∀ x ∈ ws, SmallW x) (h4 : fs.length ≤ 16) (h5 : ∀ f ∈ fs, f.co.length ≤ 200) : PH W (.agg #[dv, v, u]) ⟨ds, ws, fs⟩ ∧ PAt W (.agg #[dv, v, u]) ⟨ds, ws, fs⟩ := by
  obtain ⟨base, _, hd⟩ := h.o.ds
  have hD := hd.now
  have hV := h.ws.now
  have hF := h.own
  obtain ⟨A, ca, rfl⟩ := hD.slice
  obtain ⟨B, cb, rfl⟩ := hV.slice
  obtain ⟨C, cc, rfl⟩ := hF.slice
  exact ⟨⟨A, B, C, _, _, _, ca, cb, cc, rfl, by dsimp only; omega, hD.at, hV.wg h2 h3, hF.fg h4 h5, by omega, by omega, by omega⟩, ⟨A, B, C, ca, cb, cc, rfl, hD.at, hV.at, hF.at⟩⟩
end Go.Proofs.YtahejekcfgkiaaaGreatDoor.pgm
