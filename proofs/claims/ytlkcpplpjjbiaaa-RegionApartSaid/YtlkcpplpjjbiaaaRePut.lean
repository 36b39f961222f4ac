/-
  The program's calls that change a region: Wrote, Got, Lost; and Clone; of nil, too (typed over the code of cce19aa). No condition.
-/
import Derived.Test.YtlkcpplpjjbiaaaReGet
import Derived.Test.YtlkcpplpjjbiaaaReDel
import Derived.BigQuiet
import Derived.Deep.DeepCutAuto
namespace Go.Proofs.Ytlkcpplpjjbiaaa.reg
open Go.RowKit Go.ChangeShapes
open Go.Proofs.Ytlkcpplpjjbiaaa.frames (Fr In GoodN)
open Go.Proofs.Ytlkcpplpjjbiaaa.pr (SAt)
set_option linter.unusedVariables false
set_option linter.unusedSimpArgs false

theorem Went.back {w w1 w' : World} {g c : Nat} {A : Option Addr} {vw vh : Value} {s : St} (hb : Below w.heap.size w w1) (h : Went w1 g A c vw vh s w') : Went w g A c vw vh s w' := by
  obtain ⟨v1, v2, h1, h2, h3, h4⟩ := h
  exact ⟨v1, v2, h1, (Mv.of_below hb).trans h2, h3.later hb.size, h4.later hb.size⟩
theorem Went.none {w w' : World} {g c : Nat} {A : Option Addr} {vw vh : Value} {s : St} (h : AtG w g A c vw vh s) (hb : Below w.heap.size w w') : Went w g A c vw vh s w' :=
  ⟨vw, vh, h.next hb, Mv.of_below hb, Kept.refl _ _, Kept.refl _ _⟩
def pairO (o n : Int) : Obj := .cells #[.int .i64 o, .int .i64 n] 47
theorem wrote_nil (c v : Int) (w : World) : Calls Try.prog 14 #[.pointer none, .int .i64 c, .int .i64 v] w fun e w' => e = .returned (.tuple #[]) ∧ w = w' := by
  go_enter Try.func14, Try.ntmps14
  go_wp2
  (try simp only [Exit.inBlock, Exit.then]); refine bodyPost_ret (results_none rfl _ _ _) rfl ?_
  exact ⟨rfl, rfl⟩
theorem got_nil (c v : Int) (w : World) : Calls Try.prog 17 #[.pointer none, .int .i64 c, .int .i64 v] w fun e w' => e = .returned (.tuple #[]) ∧ w = w' := by
  go_enter Try.func17, Try.ntmps17
  go_wp2
  (try simp only [Exit.inBlock, Exit.then]); refine bodyPost_ret (results_none rfl _ _ _) rfl ?_
  exact ⟨rfl, rfl⟩
theorem lost_nil (c v : Int) (w : World) : Calls Try.prog 18 #[.pointer none, .int .i64 c, .int .i64 v] w fun e w' => e = .returned (.tuple #[]) ∧ w = w' := by
  go_enter Try.func18, Try.ntmps18
  go_wp2
  (try simp only [Exit.inBlock, Exit.then]); refine bodyPost_ret (results_none rfl _ _ _) rfl ?_
  exact ⟨rfl, rfl⟩
section
variable {w : World} {g c : Nat} {A : Option Addr} {vw vh : Value} {s : St}
theorem got_few (o n : Int) (hn : n < 1) (w : World) (g : Nat) : Calls Try.prog 17 #[.pointer (some ⟨g, 0, none⟩), .int .i64 o, .int .i64 n] w fun e w' => e = .returned (.tuple #[]) ∧ w = w' := by
  have hd : decide (n < 1) = true := decide_eq_true hn
  go_enter Try.func17, Try.ntmps17
  go_wp2
  (try simp only [Exit.inBlock, Exit.then]); refine bodyPost_ret (results_none rfl _ _ _) rfl ?_
  exact ⟨rfl, rfl⟩
theorem lost_few (o n : Int) (hn : n < 1) (w : World) (g : Nat) : Calls Try.prog 18 #[.pointer (some ⟨g, 0, none⟩), .int .i64 o, .int .i64 n] w fun e w' => e = .returned (.tuple #[]) ∧ w = w' := by
  have hd : decide (n < 1) = true := decide_eq_true hn
  go_enter Try.func18, Try.ntmps18
  go_wp2
  (try simp only [Exit.inBlock, Exit.then]); refine bodyPost_ret (results_none rfl _ _ _) rfl ?_
  exact ⟨rfl, rfl⟩
set_option maxHeartbeats 1000000 in
theorem wrote_any (h : AtG w g A c vw vh s) (hl : s.was.length ≤ 1000) (o v : Int) : Calls Try.prog 14 #[.pointer (some ⟨g, 0, none⟩), .int .i64 o, .int .i64 v] w fun e w' => e = .returned (.tuple #[]) ∧ Went w g A c vw vh { s with was := wrote s.was o v } w' := by
  have h3 := (lg_cells h.box).2.2.2.1
  rcases stands_or o s.was with ⟨k, hk⟩ | hk
  · rw [wrote_stands hk]
    have HF : Hid (Calls Try.prog 32 #[vw, .int .i64 o] w fun e w' => e = .returned (.int .i64 (k : Int)) ∧ Hid (Below w.heap.size w w')) := Lib.hid ((find_stands w vw s.was o k h.was hk).mono fun e w' hh => ⟨hh.1, Lib.hid hh.2⟩)
    have HA := Lib.hid h
    have k0 : (0 : Int) ≤ (k : Int) := by omega
    clear h hk hl
    go_enter Try.func14, Try.ntmps14
    go_wp2_with (refine HF.out.mono ?_; rintro _ w1 ⟨rfl, HB⟩)
    all_goals
      (try simp only [Exit.inBlock, Exit.then]); refine bodyPost_ret (results_none rfl _ _ _) rfl ?_
      exact ⟨rfl, Went.none HA.out HB.out⟩
  · rw [wrote_lacks hk]
    have HF : Hid (Calls Try.prog 32 #[vw, .int .i64 o] w fun e w' => e = .returned (.int .i64 (-1)) ∧ w'.cell? ⟨g, 3, none⟩ = some vw ∧ Hid (Below w.heap.size w w')) := Lib.hid ((find_lacks w vw s.was o h.was hk).mono fun e w' hh => ⟨hh.1, (hh.2.cell (p := ⟨g, 3, none⟩) h.lt.1).trans h3, Lib.hid hh.2⟩)
    have HA := Lib.hid h
    have HN : Hid (∀ W, Below w.heap.size w W → (pr.Own (W.alloc (pairO o v)) 0 vw s.was ∧ SAt (W.alloc (pairO o v)) (fun j => W.heap.size ≤ j) (some ⟨W.heap.size, 0, none⟩) [(o, v)]) ∧ ∀ v2 w2, pr.Own w2 0 v2 (s.was ++ [(o, v)]) → (W.alloc (pairO o v)).grownBy w2 vw.ownBlock → (v2.ownBlock = vw.ownBlock ∨ v2.ownBlock = some (W.alloc (pairO o v)).heap.size) → w2.cell? ⟨g, 3, none⟩ = some vw ∧ w2.frozen? ⟨g, 3, none⟩ = false ∧ Went w g A c vw vh { s with was := s.was ++ [(o, v)] } (w2.setCell ⟨g, 3, none⟩ v2)) := Lib.hid fun W hb => by
      have hb2 : Below w.heap.size w (W.alloc (pairO o v)) := hb.alloc hb.size _
      have hA := h.next hb2
      refine ⟨⟨hA.was, SAt.one (heap_alloc_new W _)⟩, fun v2 w2 ho hg hm => ?_⟩
      have hbx : w2.heap[g]? = some (lgO (.slice A s.fr.length c) s.num s.ab vw vh) := (hg.block g hA.lt.1 fun e => hA.neW e.symm rfl).trans hA.box
      exact ⟨(lg_cells hbx).2.2.2.1, lg_free hbx 3, Went.back hb2 (hA.wrote (by rw [List.length_append]; simp; omega) ho hg hm)⟩
    have HL : Hid (s.was.length + [(o, v)].length ≤ 100000) := Lib.hid (by simp; omega)
    unfold pairO at HN
    clear h hk hl
    go_enter Try.func14, Try.ntmps14
    go_wp2_with (first
      | (go_at_call 32; refine HF.out.mono ?_; rintro _ w1 ⟨rfl, h1, HB⟩; have HO := Lib.hid (HN.out w1 HB.out))
      | (at_builtin; refine pr.wpList_appS (by rfl) (.tmp 21) (.tmp 25) (by rfl) 0 1 1 _ vw ⟨w1.heap.size, 0, none⟩ s.was [(o, v)] (by rfl) HO.out.1.1 (by rfl) (by rfl) HO.out.1.2 HL.out (Nat.zero_le _) ?_))
    intro v2 w2 ho2 hg2 hm2
    obtain ⟨e0, e1, W⟩ := HO.out.2 v2 w2 ho2 hg2 (by simpa using hm2)
    have HW := Lib.hid W
    obtain ⟨A2, c2, rfl⟩ := ho2.slice
    clear W ho2 hg2 hm2 HO HN HF HA h3 h1
    generalize (s.was ++ [(o, v)]).length = n2 at *
    go_wp2_with fail
    go_end0
    exact ⟨rfl, HW.out⟩
theorem put_row (h : AtG w g A c vw vh s) {k : Nat} (hk : k < s.held.length) : ∃ b cap, vh = .slice (some ⟨b, 0, none⟩) s.held.length cap := by
  obtain ⟨b, cap, e, _⟩ := h.held.where_ (fun e => by rw [e] at hk; exact absurd hk (Nat.not_lt_zero _))
  exact ⟨b, cap, e⟩
theorem getD_mem {l : List E} {k : Nat} (hk : k < l.length) : l.getD k (0, 0) ∈ l := by
  rw [List.getD_eq_getElem?_getD, List.getElem?_eq_getElem hk]
  exact List.getElem_mem hk
set_option maxHeartbeats 4000000 in
theorem got_any (h : AtG w g A c vw vh s) (hl : s.held.length ≤ 1000) (o n : Int) (hn : 1 ≤ n ∧ n ≤ 2305843009213693952) (hy : ∀ p ∈ s.held, 0 ≤ p.2 ∧ p.2 ≤ 2305843009213693952) : Calls Try.prog 17 #[.pointer (some ⟨g, 0, none⟩), .int .i64 o, .int .i64 n] w fun e w' => e = .returned (.tuple #[]) ∧ Went w g A c vw vh { s with held := gotH s.held o n } w' := by
  have h3 := (lg_cells h.box).2.2.2.2
  have hd : decide (n < 1) = false := decide_eq_false (by omega)
  rcases stands_or o s.held with ⟨k, hk⟩ | hk
  · rw [gotH_stands hk]
    obtain ⟨b, cap, rfl⟩ := put_row h hk.1
    have hyk := hy _ (getD_mem hk.1)
    have HF : Hid (Calls Try.prog 32 #[.slice (some ⟨b, 0, none⟩) s.held.length cap, .int .i64 o] w fun e w' => e = .returned (.int .i64 (k : Int)) ∧ w'.cell? ⟨g, 4, none⟩ = some (.slice (some ⟨b, 0, none⟩) s.held.length cap) ∧ w'.cell? ⟨b, k * 2 + 1, none⟩ = some (.int .i64 (s.held.getD k (0, 0)).2) ∧ w'.frozen? ⟨b, k * 2 + 1, none⟩ = false ∧ Hid (Below w.heap.size w w')) := Lib.hid ((find_stands w _ s.held o k h.held hk).mono fun e w' hh =>
      have hc := (h.next hh.2).held.cell hk.1
      ⟨hh.1, (hh.2.cell (p := ⟨g, 4, none⟩) h.lt.1).trans h3, hc.2.1, hc.2.2, Lib.hid hh.2⟩)
    have HP : Hid (∀ W, Below w.heap.size w W → ∀ x, Went w g A c vw (.slice (some ⟨b, 0, none⟩) s.held.length cap) { s with held := s.held.set k ((s.held.getD k (0, 0)).1, x) } (W.setCell ⟨b, k * 2 + 1, none⟩ (.int .i64 x)).drew) := Lib.hid fun W hb x => by
      have hp := AtG.put (h.next hb) hk.1 x
      have hd := (Below.refl (W.setCell ⟨b, k * 2 + 1, none⟩ (.int .i64 x)).heap.size (W.setCell ⟨b, k * 2 + 1, none⟩ (.int .i64 x))).drew
      exact ⟨_, _, hp.1.next hd, ((Mv.of_below hb).trans hp.2).trans (Mv.of_below hd), Kept.refl _ _, Kept.refl _ _⟩
    have k0 : (0 : Int) ≤ (k : Int) := by omega
    have k1 : (k : Int) < (s.held.length : Int) := by have := hk.1; omega
    obtain ⟨x0, hx0⟩ : ∃ x, x = (s.held.getD k (0, 0)).1 := ⟨_, rfl⟩
    rw [← hx0] at HP ⊢
    generalize (s.held.getD k (0, 0)).2 = y at *
    obtain ⟨y0, y1⟩ := hyk
    have hw1 : wrap64 (9223372036854775807 - y) = 9223372036854775807 - y := IntWalk.wrap64_in _ (by omega)
    have hw2 : wrap64 (y + n) = y + n := IntWalk.wrap64_in _ (by omega)
    have hle : n ≤ 9223372036854775807 - y := by omega
    have hmin : min n (9223372036854775807 - y) = n := by omega
    clear hx0 hk h hl hy
    go_enter Try.func17, Try.ntmps17
    go_wp2_with (refine HF.out.mono ?_; rintro _ w1 ⟨rfl, e0, e1, e2, HB⟩; have HQ := Lib.hid (HP.out w1 HB.out); clear HF HP h3)
    have hq : ¬ 9223372036854775807 - y < n := by omega
    go_region
    go_wp2_with fail
    go_end0
    exact ⟨rfl, HQ.out _⟩
  · rw [gotH_lacks hk]
    have HF : Hid (Calls Try.prog 32 #[vh, .int .i64 o] w fun e w' => e = .returned (.int .i64 (-1)) ∧ w'.cell? ⟨g, 4, none⟩ = some vh ∧ Hid (Below w.heap.size w w')) := Lib.hid ((find_lacks w vh s.held o h.held hk).mono fun e w' hh => ⟨hh.1, (hh.2.cell (p := ⟨g, 4, none⟩) h.lt.1).trans h3, Lib.hid hh.2⟩)
    have HA := Lib.hid h
    have HN : Hid (∀ W, Below w.heap.size w W → (pr.Own (W.alloc (pairO o n)) 0 vh s.held ∧ SAt (W.alloc (pairO o n)) (fun j => W.heap.size ≤ j) (some ⟨W.heap.size, 0, none⟩) [(o, n)]) ∧ ∀ v2 w2, pr.Own w2 0 v2 (s.held ++ [(o, n)]) → (W.alloc (pairO o n)).grownBy w2 vh.ownBlock → (v2.ownBlock = vh.ownBlock ∨ v2.ownBlock = some (W.alloc (pairO o n)).heap.size) → w2.cell? ⟨g, 4, none⟩ = some vh ∧ w2.frozen? ⟨g, 4, none⟩ = false ∧ Went w g A c vw vh { s with held := s.held ++ [(o, n)] } (w2.setCell ⟨g, 4, none⟩ v2)) := Lib.hid fun W hb => by
      have hb2 : Below w.heap.size w (W.alloc (pairO o n)) := hb.alloc hb.size _
      have hA := h.next hb2
      refine ⟨⟨hA.held, SAt.one (heap_alloc_new W _)⟩, fun v2 w2 ho hg hm => ?_⟩
      have hbx : w2.heap[g]? = some (lgO (.slice A s.fr.length c) s.num s.ab vw vh) := (hg.block g hA.lt.1 fun e => hA.neH e.symm rfl).trans hA.box
      exact ⟨(lg_cells hbx).2.2.2.2, lg_free hbx 4, Went.back hb2 (hA.more (by rw [List.length_append]; simp; omega) ho hg hm)⟩
    have HL : Hid (s.held.length + [(o, n)].length ≤ 100000) := Lib.hid (by simp; omega)
    unfold pairO at HN
    clear h hk hl hy
    go_enter Try.func17, Try.ntmps17
    go_wp2_with (first
      | (go_at_call 32; refine HF.out.mono ?_; rintro _ w1 ⟨rfl, h1, HB⟩; have HO := Lib.hid (HN.out w1 HB.out))
      | (at_builtin; refine pr.wpList_appS (by rfl) (.tmp 25) (.tmp 29) (by rfl) 0 1 1 _ vh ⟨w1.heap.size, 0, none⟩ s.held [(o, n)] (by rfl) HO.out.1.1 (by rfl) (by rfl) HO.out.1.2 HL.out (Nat.zero_le _) ?_))
    intro v2 w2 ho2 hg2 hm2
    obtain ⟨e0, e1, W⟩ := HO.out.2 v2 w2 ho2 hg2 (by simpa using hm2)
    have HW := Lib.hid W
    obtain ⟨A2, c2, rfl⟩ := ho2.slice
    clear W ho2 hg2 hm2 HO HN HF HA h3 h1
    generalize (s.held ++ [(o, n)]).length = n2 at *
    go_wp2_with fail
    (try simp only [Exit.inBlock, Exit.then]); refine bodyPost_ret (results_none rfl _ _ _) rfl ?_
    exact ⟨rfl, HW.out⟩
theorem take_set_same (l : List E) (k : Nat) (x : E) : (l.set k x).take k ++ (l.set k x).drop (k + 1) = l.take k ++ l.drop (k + 1) := by
  rw [List.take_set_of_le (Nat.le_refl k), List.drop_set_of_lt (Nat.lt_succ_self k)]
/-- An object of which nothing is held has gone. -/
theorem AtG.gone {w w' : World} {b n cap k : Nat} (h : AtG w g A c vw (.slice (some ⟨b, 0, none⟩) n cap) s) (hk : k < s.held.length) (hp : GoneP 0 b cap k s.held w w') :
    w'.cell? ⟨g, 4, none⟩ = some (.slice (some ⟨b, 0, none⟩) n cap) ∧ w'.frozen? ⟨g, 4, none⟩ = false ∧ Went w g A c vw (.slice (some ⟨b, 0, none⟩) n cap) { s with held := s.held.take k ++ s.held.drop (k + 1) } (w'.setCell ⟨g, 4, none⟩ (.slice (some ⟨b, 0, none⟩) (s.held.length - 1) cap)) := by
  obtain ⟨h1, h2, h3, h4, h5, h6⟩ := hp
  have hbg : g ≠ b := fun e => h.neH (b := b) rfl e.symm
  have hbx : w'.heap[g]? = some (lgO (.slice A s.fr.length c) s.num s.ab vw (.slice (some ⟨b, 0, none⟩) n cap)) := (h2 g hbg).trans h.box
  have hoth : ∀ j, j ≠ g → (w'.setCell ⟨g, 4, none⟩ (.slice (some ⟨b, 0, none⟩) (s.held.length - 1) cap)).heap[j]? = w'.heap[j]? := fun j hj => heap_setCell_other w' ⟨g, 4, none⟩ j _ hj
  refine ⟨(lg_cells hbx).2.2.2.2, lg_free hbx 4, vw, .slice (some ⟨b, 0, none⟩) (s.held.length - 1) cap, ⟨lg_held hbx _, ?_, h.good, ?_, ?_, fun j e e2 => h.ne j e e2, h.wlen, ?_⟩, ⟨h4, h5, h6, Nat.le_of_eq (by rw [← h3]; simp [World.setCell]), fun j hj j1 j2 j3 => (hoth j j1).trans (h2 j fun e => j3 (by rw [e]; rfl))⟩, Kept.refl _ _, .inl rfl⟩
  · exact h.fr.keep fun j e => (hoth j (h.neF e).1).trans (h2 j fun e2 => by subst e2; exact (h.neF e).2.2 rfl)
  · exact h.was.keep fun j e => (hoth j (h.neW e)).trans (h2 j fun e2 => by subst e2; exact h.ne j e rfl)
  · exact h1.keep fun j e => hoth j fun e2 => by
      subst e2
      exact h.neH (b := j) e rfl
  · have := h.hlen
    rw [List.length_append, List.length_take, List.length_drop]
    omega
set_option maxHeartbeats 8000000 in
theorem lost_any (h : AtG w g A c vw vh s) (hl : s.held.length ≤ 1000) (o n : Int) (hn : 1 ≤ n ∧ n ≤ 2305843009213693952) (hy : ∀ p ∈ s.held, 0 ≤ p.2 ∧ p.2 ≤ 2305843009213693952) : Calls Try.prog 18 #[.pointer (some ⟨g, 0, none⟩), .int .i64 o, .int .i64 n] w fun e w' => e = .returned (.tuple #[]) ∧ Went w g A c vw vh { s with held := lostH s.held o n } w' := by
  have h3 := (lg_cells h.box).2.2.2.2
  have hd : decide (n < 1) = false := decide_eq_false (by omega)
  rcases stands_or o s.held with ⟨k, hk⟩ | hk
  · obtain ⟨b, cap, rfl⟩ := put_row h hk.1
    have hyk := hy _ (getD_mem hk.1)
    have HF : Hid (Calls Try.prog 32 #[.slice (some ⟨b, 0, none⟩) s.held.length cap, .int .i64 o] w fun e w' => e = .returned (.int .i64 (k : Int)) ∧ w'.cell? ⟨g, 4, none⟩ = some (.slice (some ⟨b, 0, none⟩) s.held.length cap) ∧ w'.cell? ⟨b, k * 2 + 1, none⟩ = some (.int .i64 (s.held.getD k (0, 0)).2) ∧ w'.frozen? ⟨b, k * 2 + 1, none⟩ = false ∧ Hid (Below w.heap.size w w')) := Lib.hid ((find_stands w _ s.held o k h.held hk).mono fun e w' hh =>
      have hc := (h.next hh.2).held.cell hk.1
      ⟨hh.1, (hh.2.cell (p := ⟨g, 4, none⟩) h.lt.1).trans h3, hc.2.1, hc.2.2, Lib.hid hh.2⟩)
    have HP : Hid (∀ W, Below w.heap.size w W → ∀ x, (W.setCell ⟨b, k * 2 + 1, none⟩ (.int .i64 x)).drew.cell? ⟨g, 4, none⟩ = some (.slice (some ⟨b, 0, none⟩) s.held.length cap) ∧ (W.setCell ⟨b, k * 2 + 1, none⟩ (.int .i64 x)).drew.cell? ⟨b, k * 2 + 1, none⟩ = some (.int .i64 x) ∧ Hid (AtG (W.setCell ⟨b, k * 2 + 1, none⟩ (.int .i64 x)).drew g A c vw (.slice (some ⟨b, 0, none⟩) s.held.length cap) { s with held := s.held.set k ((s.held.getD k (0, 0)).1, x) } ∧ Mv g vw (.slice (some ⟨b, 0, none⟩) s.held.length cap) w (W.setCell ⟨b, k * 2 + 1, none⟩ (.int .i64 x)).drew)) := Lib.hid fun W hb x => by
      have hp := AtG.put (h.next hb) hk.1 x
      have hd := (Below.refl (W.setCell ⟨b, k * 2 + 1, none⟩ (.int .i64 x)).heap.size (W.setCell ⟨b, k * 2 + 1, none⟩ (.int .i64 x))).drew
      have ha := hp.1.next hd
      have hc := (ha.held.cell (k := k) (by rw [List.length_set]; exact hk.1)).2.1
      rw [List.getD_eq_getElem?_getD, List.getElem?_set_self hk.1] at hc
      exact ⟨(lg_cells ha.box).2.2.2.2, hc, Lib.hid ⟨ha, ((Mv.of_below hb).trans hp.2).trans (Mv.of_below hd)⟩⟩
    have k0 : (0 : Int) ≤ (k : Int) := by omega
    have k1 : (k : Int) < (s.held.length : Int) := by have := hk.1; omega
    have hw3 : wrap64 ((k : Int) + 1) = (k : Int) + 1 := IntWalk.wrap64_in _ (by omega)
    by_cases hlt : n < (s.held.getD k (0, 0)).2
    · rw [lostH_less hk n hlt]
      obtain ⟨x0, hx0⟩ : ∃ x, x = (s.held.getD k (0, 0)).1 := ⟨_, rfl⟩
      rw [← hx0] at HP ⊢
      generalize (s.held.getD k (0, 0)).2 = y at *
      obtain ⟨y0, y1⟩ := hyk
      have hw2 : wrap64 (y - n) = y - n := IntWalk.wrap64_in _ (by omega)
      have hq : ¬ y < n := by omega
      have hmin : min n y = n := by omega
      have hz : (y - n == 0) = false := by simp; omega
      clear hx0 hk h hl hy
      go_enter Try.func18, Try.ntmps18
      go_wp2_with (refine HF.out.mono ?_; rintro _ w1 ⟨rfl, e0, e1, e2, HB⟩; have HQ := Lib.hid (HP.out w1 HB.out); clear HF HP h3)
      go_region
      obtain ⟨e5, e6, HR⟩ := HQ.out (y - n)
      generalize (w1.setCell ⟨b, k * 2 + 1, none⟩ (.int .i64 (y - n))).drew = W3 at *
      clear e0 e1 e2 HQ
      go_wp2_with fail
      go_end0
      exact ⟨rfl, _, _, HR.out.1, HR.out.2, Kept.refl _ _, Kept.refl _ _⟩
    · rw [lostH_all hk n hlt]
      have HG : Hid (∀ W, AtG W g A c vw (.slice (some ⟨b, 0, none⟩) s.held.length cap) { s with held := s.held.set k ((s.held.getD k (0, 0)).1, 0) } ∧ Mv g vw (.slice (some ⟨b, 0, none⟩) s.held.length cap) w W → Calls Try.prog 35 #[.slice (some ⟨b, 0, none⟩) s.held.length cap, .int .i64 (k : Int), .int .i64 ((k : Int) + 1)] W fun e w' => e = .returned (.slice (some ⟨b, 0, none⟩) (s.held.length - 1) cap) ∧ w'.cell? ⟨g, 4, none⟩ = some (.slice (some ⟨b, 0, none⟩) s.held.length cap) ∧ w'.frozen? ⟨g, 4, none⟩ = false ∧ Hid (Went w g A c vw (.slice (some ⟨b, 0, none⟩) s.held.length cap) { s with held := s.held.take k ++ s.held.drop (k + 1) } (w'.setCell ⟨g, 4, none⟩ (.slice (some ⟨b, 0, none⟩) (s.held.length - 1) cap)))) := Lib.hid fun W ha => by
        have hkl : k < (s.held.set k ((s.held.getD k (0, 0)).1, (0 : Int))).length := by rw [List.length_set]; exact hk.1
        refine (delete_any W 0 b s.held.length cap k _ ha.1.held hkl).mono fun e w' hh => ?_
        have hg := ha.1.gone hkl hh.2
        simp only [take_set_same, List.length_set] at hg
        refine ⟨by rw [hh.1, List.length_set], hg.1, hg.2.1, Lib.hid ?_⟩
        obtain ⟨v1, v2, q1, q2, q3, q4⟩ := hg.2.2
        exact ⟨v1, v2, q1, ha.2.trans q2, q3.later ha.2.size, q4.later ha.2.size⟩
      obtain ⟨x0, hx0⟩ : ∃ x, x = (s.held.getD k (0, 0)).1 := ⟨_, rfl⟩
      rw [← hx0] at HP HG
      generalize (s.held.getD k (0, 0)).2 = y at *
      obtain ⟨y0, y1⟩ := hyk
      clear hx0 hk h hl hy
      have hyn : y < n ∨ y = n := by omega
      have hmin : min n y = y := by omega
      have hsub : wrap64 (y - y) = 0 := by rw [Int.sub_self]; exact IntWalk.wrap64_in 0 (by omega)
      clear hyn
      all_goals
        go_enter Try.func18, Try.ntmps18
        go_wp2_with (refine HF.out.mono ?_; rintro _ w1 ⟨rfl, e0, e1, e2, HB⟩; have HQ := Lib.hid (HP.out w1 HB.out); clear HF HP h3)
        go_region
        obtain ⟨e5, e6, HR⟩ := HQ.out 0
        generalize (w1.setCell ⟨b, k * 2 + 1, none⟩ (.int .i64 0)).drew = W3 at *
        have HD := Lib.hid (HG.out W3 HR.out)
        clear e0 e1 e2 HQ HG HR
        go_wp2_with (refine HD.out.mono ?_; rintro _ w4 ⟨rfl, e7, e8, HW⟩; clear HD e5 e6)
        go_end0
        exact ⟨rfl, HW.out⟩
  · rw [lostH_lacks hk]
    have HF : Hid (Calls Try.prog 32 #[vh, .int .i64 o] w fun e w' => e = .returned (.int .i64 (-1)) ∧ Hid (Below w.heap.size w w')) := Lib.hid ((find_lacks w vh s.held o h.held hk).mono fun e w' hh => ⟨hh.1, Lib.hid hh.2⟩)
    have HA := Lib.hid h
    clear h hk hl hy
    go_enter Try.func18, Try.ntmps18
    go_wp2_with (refine HF.out.mono ?_; rintro _ w1 ⟨rfl, HB⟩)
    all_goals
      (try simp only [Exit.inBlock, Exit.then]); refine bodyPost_ret (results_none rfl _ _ _) rfl ?_
      exact ⟨rfl, Went.none HA.out HB.out⟩
end
end Go.Proofs.Ytlkcpplpjjbiaaa.reg
