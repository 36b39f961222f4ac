/-
  A call, of the program and by the document: they answer alike. No condition.
-/
import Derived.Test.YtfhkaedpbandiaaTLives
namespace Go.Proofs.Ytfhkaedpbandiaa.timer
open Go.RowKit
attribute [local go_sem ↓] Go.wp_at_zero Go.wp_at_succ

/-- What a call makes of the document's list. -/
def step (m : List E) (k x y : Int) : List E := if k = 0 then setl m x y else if k = 1 then drop m x else (due m y).2
theorem step_length (m : List E) (k x y : Int) : (step m k x y).length ≤ m.length + 1 := by
  unfold step
  split
  · exact setl_length m x y
  · split
    · have := drop_length m x
      omega
    · have := due_length m.length m y (Nat.le_refl _)
      omega
theorem row_ne {w : World} {bt bh bm gg cap base : Nat} {m l : List E} (o : Lies w bt bh bm m) (k : Row 57 w base gg cap l) : gg ≠ bt ∧ gg ≠ bh ∧ gg ≠ bm := by
  obtain ⟨cur, hk⟩ := k.tag
  rcases o with ⟨h, _, rfl, rfl⟩ | ⟨_, _, _, _, o, _⟩
  · have h0 : gg ≠ bm := by
      rintro rfl
      rw [hk] at h
      simp at h
    exact ⟨h0, h0, h0⟩
  · refine ⟨?_, ?_, ?_⟩
    · rintro rfl
      have := o.tim
      rw [hk] at this
      simp at this
    · rintro rfl
      obtain ⟨c2, h2⟩ := o.row.tag
      rw [hk] at h2
      simp at h2
    · rintro rfl
      obtain ⟨_, ⟨_, _, h2, _⟩, _⟩ := o.map
      rw [hk] at h2
      simp at h2

/-- Behind a call: what is due is the list m, and so is the document's list. -/
def Did (w : World) (bt bh bm : Nat) (m : List E) (e : Ending) (w' : World) : Prop :=
  ∃ bh' bm' gg cap, e = .returned (.tuple #[.slice (some ⟨gg, 0, none⟩) m.length cap, .bool true]) ∧ Lies w' bt bh' bm' m ∧ Row 57 w' 0 gg cap m ∧ Frm bt bh bm w w' ∧ (bh' = bh ∨ w.heap.size ≤ bh') ∧ (bm' = bm ∨ w.heap.size ≤ bm')

/-- Behind the box of the call. -/
structure Do0 (w W : World) (bt bh bm gg cap : Nat) (m : List E) (k x y : Int) : Prop where
  c0 : W.cell? ⟨w.heap.size, 0, none⟩ = some (.int .i64 k)
  c1 : W.cell? ⟨w.heap.size, 1, none⟩ = some (.int .i64 x)
  c2 : W.cell? ⟨w.heap.size, 2, none⟩ = some (.int .i64 y)
  size : w.heap.size < W.heap.size
  lies : Lies W bt bh bm m
  row : Row 57 W 0 gg cap m
  frm : Frm bt bh bm w W
theorem do0 {w : World} {bt bh bm gg cap : Nat} {m : List E} (o : Lies w bt bh bm m) (r : Row 57 w 0 gg cap m) (k x y : Int) :
    Do0 w (w.alloc (.cells #[.int .i64 k, .int .i64 x, .int .i64 y] 32)) bt bh bm gg cap m k x y := by
  have h := heap_alloc_new w (.cells #[.int .i64 k, .int .i64 x, .int .i64 y] 32)
  refine ⟨?_, ?_, ?_, by simp, o.below ((Below.refl _ _).alloc (Nat.le_refl _) _), r.keep (Below.heap_alloc _ _ _ r.lt.2), (Frm.refl _ _ _ _).alloc _⟩
  all_goals
    generalize w.alloc (.cells #[.int .i64 k, .int .i64 x, .int .i64 y] 32) = W at *
    simp [World.cell?, h]

set_option maxHeartbeats 1000000 in
theorem do_set (w : World) (bt bh bm gg cap : Nat) (m : List E) (x y : Int) (o : Lies w bt bh bm m) (r : Row 57 w 0 gg cap m) (hm : m.length ≤ 3000) (hx : Wf x) :
    Calls Try.prog 7 #[.pointer (some ⟨bt, 0, none⟩), .slice (some ⟨gg, 0, none⟩) m.length cap, .agg #[.int .i64 0, .int .i64 x, .int .i64 y]] w (Did w bt bh bm (setl m x y)) := by
  have hlt := o.lt
  have H0 := Lib.hid (do0 o r 0 x y)
  clear o r
  go_enter Try.func7, Try.ntmps7
  go_wp2_with fail
  generalize w.alloc (.cells #[.int .i64 0, .int .i64 x, .int .i64 y] 32) = W at *
  have h0 := H0.out
  have c1 := h0.c1
  have c2 := h0.c2
  have hs := set_any W bt bh bm m h0.lies (by omega) x y hx
  have hne := row_ne h0.lies h0.row
  clear h0
  refine hs.mono ?_
  rintro e w1 ⟨rfl, bh1, bm1, o1, f1, s1, s2⟩
  have hz := H0.out.size
  have e1 : w1.heap[w.heap.size]? = W.heap[w.heap.size]? := f1.block _ hz (by omega) (by omega) (by omega)
  have d1 : w1.cell? ⟨w.heap.size, 1, none⟩ = some (.int .i64 x) := (World.cell?_of_block (a := ⟨w.heap.size, 1, none⟩) e1).trans c1
  have d2 : w1.cell? ⟨w.heap.size, 2, none⟩ = some (.int .i64 y) := (World.cell?_of_block (a := ⟨w.heap.size, 2, none⟩) e1).trans c2
  have r1 := H0.out.row.keep (f1.block gg H0.out.row.lt.2 hne.1 hne.2.1 hne.2.2)
  have hr := refSet_any w1 gg cap m x y r1 (by omega)
  have HO := Lib.hid o1
  have HF := Lib.hid (H0.out.frm.and f1)
  have HS : Hid ((bh1 = bh ∨ w.heap.size ≤ bh1) ∧ (bm1 = bm ∨ w.heap.size ≤ bm1)) := Lib.hid ⟨by omega, by omega⟩
  clear hs o1 f1 s1 s2 e1 r1 c1 c2 hz hne H0
  go_wp2_with fail
  refine hr.mono ?_
  rintro e w2 ⟨g2, cap2, rfl, r2, b2⟩
  have HT : Hid (Did w bt bh bm (setl m x y) (.returned (.tuple #[.slice (some ⟨g2, 0, none⟩) (setl m x y).length cap2, .bool true])) w2) :=
    ⟨bh1, bm1, g2, cap2, rfl, HO.out.below b2, r2.base (Nat.zero_le _), HF.out.and (Frm.of_below ⟨b2.os, b2.tape, b2.output, b2.size, b2.block⟩), HS.out.1, HS.out.2⟩
  clear hr r2 b2 d1 d2 HO HF HS
  go_wp2_with fail
  go_ret2
  exact HT.out

set_option maxHeartbeats 1000000 in
theorem do_due (w : World) (bt bh bm gg cap : Nat) (m : List E) (k x y : Int) (k0 : k ≠ 0) (k1 : k ≠ 1) (o : Lies w bt bh bm m) (r : Row 57 w 0 gg cap m) (hm : m.length ≤ 3000) :
    Calls Try.prog 7 #[.pointer (some ⟨bt, 0, none⟩), .slice (some ⟨gg, 0, none⟩) m.length cap, .agg #[.int .i64 k, .int .i64 x, .int .i64 y]] w (Did w bt bh bm (due m y).2) := by
  have hlt := o.lt
  have H0 := Lib.hid (do0 o r k x y)
  have e0 : (k == 0) = false := by simpa using k0
  have e1 : (k == 1) = false := by simpa using k1
  clear o r k0 k1
  go_enter Try.func7, Try.ntmps7
  go_wp2_with fail
  generalize w.alloc (.cells #[.int .i64 k, .int .i64 x, .int .i64 y] 32) = W at *
  have h0 := H0.out
  have c2 := h0.c2
  have hr := refDue_any W gg cap m y h0.row (by omega)
  clear h0
  refine hr.mono ?_
  rintro e w1 ⟨v, g1, cap1, rfl, v1, r1, b1⟩
  have hz := H0.out.size
  have d2 : w1.cell? ⟨w.heap.size, 2, none⟩ = some (.int .i64 y) := (World.cell?_of_block (a := ⟨w.heap.size, 2, none⟩) (b1.block _ hz)).trans c2
  have o1 := H0.out.lies.below b1
  have hd := due_any w1 bt bh bm m y o1 (by omega)
  have hne := row_ne o1 r1
  have HN := Lib.hid hne
  have HR := Lib.hid r1
  have HV := Lib.hid v1
  have HB := Lib.hid b1
  have HO1 := Lib.hid o1
  clear hr v1 r1 b1 c2 o1 hne
  go_wp2_with fail
  refine hd.mono ?_
  rintro e w2 ⟨v2, rfl, hv2, o2, f2⟩
  have hl := HO1.out.lt
  have hl0 := H0.out.lies.lt
  have r2 := HR.out.keep (f2.block g1 HR.out.lt.2 HN.out.1 HN.out.2.1 HN.out.2.2)
  have v3 : OwnI w2 W.heap.size v (due m y).1 := HV.out.keep fun b h1 h2 _ => f2.block b h2 (by omega) (by omega) (by omega)
  have hsm := same_any w2 _ _ v2 v (due m y).1 (by have := due_length m.length m y (Nat.le_refl _); omega) hv2 v3
  have HT := Lib.hid fun n => (show Did w bt bh bm (due m y).2 (.returned (.tuple #[.slice (some ⟨g1, 0, none⟩) (due m y).2.length cap1, .bool true])) (w2.drewN n) from
    ⟨bh, bm, g1, cap1, rfl, o2.drewN n, r2.keep rfl, ((H0.out.frm.and (Frm.of_below ⟨HB.out.os, HB.out.tape, HB.out.output, HB.out.size, HB.out.block⟩)).and f2).drewN n, .inl rfl, .inl rfl⟩)
  clear hd hv2 o2 f2 r2 v3 HR HV HB HO1 HN H0 d2 hl hl0 hz
  go_wp2_with fail
  refine hsm.mono ?_
  rintro e w3 ⟨rfl, n, rfl⟩
  clear hsm
  go_wp2_with fail
  go_ret2
  exact HT.out _

theorem Do0.below {w W V : World} {bt bh bm gg cap : Nat} {m : List E} {k x y : Int} (h : Do0 w W bt bh bm gg cap m k x y) (hb : Below W.heap.size W V) : Do0 w V bt bh bm gg cap m k x y :=
  ⟨(World.cell?_of_block (a := ⟨w.heap.size, 0, none⟩) (hb.block _ h.size)).trans h.c0, (World.cell?_of_block (a := ⟨w.heap.size, 1, none⟩) (hb.block _ h.size)).trans h.c1, (World.cell?_of_block (a := ⟨w.heap.size, 2, none⟩) (hb.block _ h.size)).trans h.c2,
    Nat.lt_of_lt_of_le h.size hb.size, h.lies.below hb, h.row.keep (hb.block _ h.row.lt.2), h.frm.and (Frm.of_below hb)⟩
theorem do_drop_A {w W : World} {bt bh bm gg cap : Nat} {m : List E} {x y : Int} (h0 : Do0 w W bt bh bm gg cap m 1 x y) (hm : m.length ≤ 3000) : ∀ V : World, Below W.heap.size W V →
    Calls Try.prog 20 #[.slice (some ⟨gg, 0, none⟩) m.length cap, .int .i64 x] V fun e w' =>
      ∃ g1 cap1, e = .returned (.slice (some ⟨g1, 0, none⟩) (drop m x).length cap1) ∧ w'.cell? ⟨w.heap.size, 1, none⟩ = some (.int .i64 x) ∧ Hid (Row 57 w' 0 g1 cap1 (drop m x)) ∧ Hid (Do0 w w' bt bh bm gg cap m 1 x y) := by
  intro V hV
  have hD := h0.below hV
  refine (refDrop_any V gg cap m x hD.row (by omega)).mono ?_
  rintro e w1 ⟨g1, cap1, rfl, r1, b1⟩
  have hD1 := hD.below b1
  exact ⟨g1, cap1, rfl, hD1.c1, r1.base (Nat.zero_le _), hD1⟩
/-- Behind the program's own Drop. -/
def DropB (w V : World) (bt bh bm gg cap : Nat) (m : List E) (x : Int) (w' : World) : Prop := Lies w' bt bh bm (drop m x) ∧ Frm bt bh bm w w' ∧ Row 57 w' 0 gg cap m ∧ Frm bt bh bm V w'
theorem do_drop_B {w V w' : World} {bt bh bm gg cap : Nat} {m : List E} {x y : Int} (hD : Do0 w V bt bh bm gg cap m 1 x y) (hlt : bt < w.heap.size ∧ bh < w.heap.size ∧ bm < w.heap.size) (o : Lies w' bt bh bm (drop m x)) (f : Frm bt bh bm V w') :
    w'.cell? ⟨w.heap.size, 1, none⟩ = some (.int .i64 x) ∧ DropB w V bt bh bm gg cap m x w' := by
  have hne := row_ne hD.lies hD.row
  have e1 := f.block _ hD.size (by omega) (by omega) (by omega)
  exact ⟨(World.cell?_of_block (a := ⟨w.heap.size, 1, none⟩) e1).trans hD.c1, o, hD.frm.and f, hD.row.keep (f.block gg hD.row.lt.2 hne.1 hne.2.1 hne.2.2), f⟩
theorem do_drop_end {w V w' : World} {bt bh bm gg cap g1 cap1 : Nat} {m : List E} {x y : Int} (hD : Do0 w V bt bh bm gg cap m 1 x y) (r1 : Row 57 V 0 g1 cap1 (drop m x)) (h : DropB w V bt bh bm gg cap m x w') :
    Did w bt bh bm (drop m x) (.returned (.tuple #[.slice (some ⟨g1, 0, none⟩) (drop m x).length cap1, .bool true])) w' := by
  have hne := row_ne hD.lies r1
  exact ⟨bh, bm, g1, cap1, rfl, h.1, r1.keep (h.2.2.2.block g1 r1.lt.2 hne.1 hne.2.1 hne.2.2), h.2.1, .inl rfl, .inl rfl⟩

set_option maxHeartbeats 1000000 in
theorem do_drop (w : World) (bt bh bm gg cap : Nat) (m : List E) (x y : Int) (o : Lies w bt bh bm m) (r : Row 57 w 0 gg cap m) (hm : m.length ≤ 3000) (hx : Wf x) :
    Calls Try.prog 7 #[.pointer (some ⟨bt, 0, none⟩), .slice (some ⟨gg, 0, none⟩) m.length cap, .agg #[.int .i64 1, .int .i64 x, .int .i64 y]] w (Did w bt bh bm (drop m x)) := by
  have hlt := o.lt
  have H0 := Lib.hid (do0 o r 1 x y)
  clear o r
  go_enter Try.func7, Try.ntmps7
  go_wp2_with fail
  generalize w.alloc (.cells #[.int .i64 1, .int .i64 x, .int .i64 y] 32) = W at *
  have c1 := H0.out.c1
  have hA := do_drop_A H0.out hm
  have HE := Lib.hid fun V w' g1 cap1 hD r1 h => do_drop_end (w := w) (V := V) (w' := w') (bt := bt) (bh := bh) (bm := bm) (gg := gg) (cap := cap) (g1 := g1) (cap1 := cap1) (m := m) (x := x) (y := y) hD r1 h
  by_cases hin : ∃ e ∈ m, e.1 = x
  · have hB : ∀ V : World, Do0 w V bt bh bm gg cap m 1 x y → Calls Try.prog 19 #[.pointer (some ⟨bt, 0, none⟩), .int .i64 x] V fun e w' => e = .returned (.bool true) ∧ w'.cell? ⟨w.heap.size, 1, none⟩ = some (.int .i64 x) ∧ Hid (DropB w V bt bh bm gg cap m x w') := by
      intro V hD
      refine ((drop_any V bt bh bm m hD.lies x hx).resolve_right (fun h => ?_)).2.mono ?_
      · obtain ⟨e, h1, h2⟩ := hin
        exact h.1 e h1 h2
      · rintro e w' ⟨rfl, o, f⟩
        obtain ⟨h1, h2⟩ := do_drop_B hD hlt o f
        exact ⟨rfl, h1, h2⟩
    have hC : ∀ V : World, Row 57 V 0 gg cap m → Calls Try.prog 21 #[.slice (some ⟨gg, 0, none⟩) m.length cap, .int .i64 x] V fun e w' => ∃ j : Nat, e = .returned (.int .i64 (j : Int)) ∧ V = w' := by
      intro V hr
      refine (refFind_any V gg cap m x hr (by omega)).mono ?_
      rintro e w' ⟨h, ⟨j, h1, _⟩ | ⟨_, h2⟩⟩
      · exact ⟨j, h1, h⟩
      · obtain ⟨e, h3, h4⟩ := hin
        exact absurd h4 (h2 e h3)
    clear hin H0
    go_wp2_with fail
    go_region_held3 (fun w' => w'.cell? ⟨w.heap.size, 1, none⟩ = some (.int .i64 x)) (go_keep)
      (first
        | (go_at_call 20; refine (hA _ ?_).mono ?_; (exact (Below.refl _ _).drew); rintro e w1 ⟨g1, cap1, rfl, d1, HR, HD⟩)
        | (go_at_call 19; refine (hB _ ?_).mono ?_; (exact HD.out); rintro e w2 ⟨rfl, d2, HX⟩)
        | (go_at_call 21; refine (hC _ ?_).mono ?_; (exact HX.out.2.2.1); rintro e w3 ⟨j, rfl, rfl⟩))
    all_goals
      have HT := Lib.hid (HE.out _ _ _ _ HD.out HR.out HX.out)
      clear hA hB hC HE HD HR HX c1 d1 d2
      go_wp2_with fail
      go_ret2
      exact HT.out
  · have hB : ∀ V : World, Do0 w V bt bh bm gg cap m 1 x y → Calls Try.prog 19 #[.pointer (some ⟨bt, 0, none⟩), .int .i64 x] V fun e w' => e = .returned (.bool false) ∧ w'.cell? ⟨w.heap.size, 1, none⟩ = some (.int .i64 x) ∧ Hid (DropB w V bt bh bm gg cap m x w') := by
      intro V hD
      refine ((drop_any V bt bh bm m hD.lies x hx).resolve_left (fun h => hin h.1)).2.mono ?_
      rintro e w' ⟨rfl, o, f⟩
      obtain ⟨h1, h2⟩ := do_drop_B hD hlt o f
      exact ⟨rfl, h1, h2⟩
    have hC : ∀ V : World, Row 57 V 0 gg cap m → Calls Try.prog 21 #[.slice (some ⟨gg, 0, none⟩) m.length cap, .int .i64 x] V fun e w' => e = .returned (.int .i64 (-1)) ∧ V = w' := by
      intro V hr
      refine (refFind_any V gg cap m x hr (by omega)).mono ?_
      rintro e w' ⟨h, ⟨j, _, h1, h2⟩ | ⟨h1, _⟩⟩
      · exact absurd ⟨_, g_mem h1, h2⟩ hin
      · exact ⟨h1, h⟩
    clear hin H0
    go_wp2_with fail
    go_region_held3 (fun w' => w'.cell? ⟨w.heap.size, 1, none⟩ = some (.int .i64 x)) (go_keep)
      (first
        | (go_at_call 20; refine (hA _ ?_).mono ?_; (exact (Below.refl _ _).drew); rintro e w1 ⟨g1, cap1, rfl, d1, HR, HD⟩)
        | (go_at_call 19; refine (hB _ ?_).mono ?_; (exact HD.out); rintro e w2 ⟨rfl, d2, HX⟩)
        | (go_at_call 21; refine (hC _ ?_).mono ?_; (exact HX.out.2.2.1); rintro e w3 ⟨rfl, rfl⟩))
    all_goals
      have HT := Lib.hid (HE.out _ _ _ _ HD.out HR.out HX.out)
      clear hA hB hC HE HD HR HX c1 d1 d2
      go_wp2_with fail
      go_ret2
      exact HT.out

/-- Any call. -/
theorem do_any (w : World) (bt bh bm gg cap : Nat) (m : List E) (k x y : Int) (o : Lies w bt bh bm m) (r : Row 57 w 0 gg cap m) (hm : m.length ≤ 3000) (hx : Wf x) :
    Calls Try.prog 7 #[.pointer (some ⟨bt, 0, none⟩), .slice (some ⟨gg, 0, none⟩) m.length cap, .agg #[.int .i64 k, .int .i64 x, .int .i64 y]] w (Did w bt bh bm (step m k x y)) := by
  unfold step
  by_cases k0 : k = 0
  · subst k0
    rw [if_pos rfl]
    exact do_set w bt bh bm gg cap m x y o r hm hx
  · rw [if_neg k0]
    by_cases k1 : k = 1
    · subst k1
      rw [if_pos rfl]
      exact do_drop w bt bh bm gg cap m x y o r hm hx
    · rw [if_neg k1]
      exact do_due w bt bh bm gg cap m k x y k0 k1 o r hm
end Go.Proofs.Ytfhkaedpbandiaa.timer
