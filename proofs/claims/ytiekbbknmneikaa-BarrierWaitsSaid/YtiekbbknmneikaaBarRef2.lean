/-
  The document's own barrier: one without a member, one with a member more, one at which a member has not arrived. No condition. Printed by tools/mkbar2.py.
-/
import Derived.Test.YtiekbbknmneikaaBarRef
namespace Go.Proofs.Ytiekbbknmneikaa.bar
open Go.RowKit Go.ChangeShapes
open Go.Proofs.Ytiekbbknmneikaa.obj
open Go.Proofs.Ytiekbbknmneikaa.bits (Is64 hasB wth wout minus els refHas_any refWith_any refWithout_any)
set_option linter.unusedVariables false
set_option linter.unusedSimpArgs false

/-- While a call goes: the boxes of the barrier and of what is answered. -/
structure Lz (w : World) (s q : Bx) (W : World) : Prop where
  below : Below w.heap.size w W
  b0 : W.heap[w.heap.size]? = some (bxO s)
  b1 : W.heap[w.heap.size + 1]? = some (bxO q)
theorem lz_new (w : World) (s : Bx) : Lz w s bxZ ((w.alloc (bxO s)).alloc (bxO bxZ)) := by
  have z1 : (w.alloc (bxO s)).heap.size = w.heap.size + 1 := World.size_alloc _ _
  refine ⟨((Below.refl _ w).alloc (Nat.le_refl _) _).alloc (by omega) _, (Below.heap_alloc _ _ _ (by omega)).trans (heap_alloc_new w _), ?_⟩
  rw [← z1]
  exact heap_alloc_new _ _
theorem Lz.setm {w W : World} {s q : Bx} (h : Lz w s q W) (r : Nat) : Lz w ⟨r, s.a⟩ q (W.setCell ⟨w.heap.size, 0, none⟩ (.int .u64 (r : Int))) :=
  ⟨set_below h.below (Nat.le_refl _) _, bx_setm h.b0 r, (set_far _ (by omega)).trans h.b1⟩
theorem Lz.store {w W : World} {s q0 : Bx} (h : Lz w s q0 W) (q : Bx) : Lz w s q (W.setRow (w.heap.size + 1) (bxC q).toArray) :=
  ⟨row_below h.below (by omega) _, (row_far _ (by omega)).trans h.b0, bx_turned h.b1 q⟩
theorem Lz.drew {w W : World} {s q : Bx} (h : Lz w s q W) : Lz w s q W.drew := ⟨h.below.drew, h.b0, h.b1⟩
theorem Lz.next {w W W' : World} {s q : Bx} (h : Lz w s q W) (hb : Below W.heap.size W W') : Lz w s q W' :=
  ⟨h.below.trans (hb.mono h.below.size), (hb.block _ (lt_of_block h.b0)).trans h.b0, (hb.block _ (lt_of_block h.b1)).trans h.b1⟩
theorem lz_more {w W : World} {s q : Bx} (h : Lz w s q W) (x : Bx) : Lz w s q ((W.alloc (bxO bxZ)).setRow W.heap.size (bxC x).toArray) ∧ ((W.alloc (bxO bxZ)).setRow W.heap.size (bxC x).toArray).heap[W.heap.size]? = some (bxO x) ∧ w.heap.size + 1 < W.heap.size := by
  have h1 := lt_of_block h.b1
  have h2 := h.next ((Below.refl _ W).alloc (Nat.le_refl _) (bxO bxZ))
  exact ⟨⟨row_below h2.below (by omega) _, (row_far _ (by omega)).trans h2.b0, (row_far _ (by omega)).trans h2.b1⟩, bx_turned (heap_alloc_new W (bxO bxZ)) x, h1⟩
theorem ret_out {W w : World} {act : Act} {s m : Bx}  {R : Ending → World → Prop} (h4 : act.tmps[4]?.getD undef = .pointer (some ⟨w.heap.size + 1, 0, none⟩))  (hd : act.defers = []) (hE : Lz w s m W) (hR : R (.returned (bxV m)) W) :
    bodyPost Try.prog Try.f36 R .ret act W := by
  have hL := run_loadVar_mid (P := Try.prog) W (w.heap.size + 1) 0 29 (bxC m) _ (bx_range hE.b1) Try.underlying29 rfl (bx_size rfl)
  refine bodyPost_ret (v := bxV m) ?_ hd hR
  simp [results, Try.results36, asAddr, h4, hL, Sem.run_bind, Sem.run_pure, Result.andThen, bxV]
set_option maxRecDepth 100000 in
set_option maxHeartbeats 4000000 in
theorem refOut_any (s : Bx) (t : Int) (w : World) (hm : Is64 s.m) (ha : Is64 s.a) : Calls Try.prog 36 #[bxV s, .int .i64 t] w fun e w' => e = .returned (bxV (outB s t)) ∧ Below w.heap.size w w' := by
  have HM := fun W => Lib.hid (refWithout_any s.m hm t W)
  have HA := fun W => Lib.hid (refWithout_any s.a ha t W)
  have HQ : Hid (outB s t = ⟨wout s.m t, wout s.a t⟩) := Lib.hid rfl
  generalize wout s.m t = ym at *
  generalize wout s.a t = ya at *
  clear hm ha
  have HZ := Lib.hid (lz_new w s)
  go_enter Try.func36, Try.ntmps36
  go_upto_region 1 with (first | refine wbx_box rfl _ rfl s rfl ?_ | refine wbx_alloc rfl rfl ?_)
  try simp only [Act.put, List.setIfInBounds_toArray, List.set_cons_zero, List.set_cons_succ, World.size_alloc]
  generalize (w.alloc (bxO s)).alloc (bxO bxZ) = W1 at *
  refine wp_hold_act (fun a0 HA0 => ?_)
  have z0 : a0.tmps.size = 14 := by rw [HA0.out]; rfl
  have dd0 : a0.defers = [] := by rw [HA0.out]
  have f0_1 : a0.eval (.tmp 1) = .int .i64 t := by rw [HA0.out]; rfl
  have f0_2 : a0.eval (.tmp 2) = .pointer (some ⟨w.heap.size, 0, none⟩) := by rw [HA0.out]; rfl
  have f0_4 : a0.eval (.tmp 4) = .pointer (some ⟨w.heap.size + 1, 0, none⟩) := by rw [HA0.out]; rfl
  clear HA0
  refine wp_region_held_drew (S := fun w' => ∃ q, Lz w s q w') (by kernel_rfl) (⟨_, HZ.out.drew⟩) (fun hS => ?_)
  refine wpAnyH_take (i := 0) (v := .pointer (some ⟨w.heap.size, 0, none⟩)) rfl (by kernel_rfl) (by kernel_rfl) (by kernel_rfl) (fun _ _ _ h => h) (yields_bfld rfl (.tmp 2) 0 (by omega) rfl _ f0_2) hS ?_
  obtain ⟨a1, hA1⟩ : ∃ a', a' = a0.put (some 5) (.pointer (some ⟨w.heap.size, 0, none⟩)) := ⟨_, rfl⟩
  change wpAnyH _ _ _ _ _ _ _ (a0.put (some 5) (.pointer (some ⟨w.heap.size, 0, none⟩))) _
  rw [← hA1]
  have f1_5 : a1.eval (.tmp 5) = .pointer (some ⟨w.heap.size, 0, none⟩) := by rw [hA1]; exact Act.eval_put_same _ _ _ (by omega)
  have f1_1 : a1.eval (.tmp 1) = .int .i64 t := by rw [hA1]; exact (Act.eval_put_ne _ _ _ _ (by decide)).trans f0_1
  have f1_2 : a1.eval (.tmp 2) = .pointer (some ⟨w.heap.size, 0, none⟩) := by rw [hA1]; exact (Act.eval_put_ne _ _ _ _ (by decide)).trans f0_2
  have f1_4 : a1.eval (.tmp 4) = .pointer (some ⟨w.heap.size + 1, 0, none⟩) := by rw [hA1]; exact (Act.eval_put_ne _ _ _ _ (by decide)).trans f0_4
  have z1 : a1.tmps.size = 14 := by rw [hA1, Act.size_put]; exact z0
  have dd1 : a1.defers = [] := by rw [hA1, Act.defers_put']; exact dd0
  clear hA1 z0 dd0 f0_1 f0_2 f0_4
  refine wpAnyH_take (i := 1) (v := .int .u64 (s.m : Int)) rfl (by kernel_rfl) (by kernel_rfl) (by kernel_rfl) (fun _ _ _ h => h) (yields_u64 rfl (.tmp 5) rfl _ f1_5 _ (fun _ h => (bx_cells h.choose_spec.b0).1)) hS ?_
  obtain ⟨a2, hA2⟩ : ∃ a', a' = a1.put (some 6) (.int .u64 (s.m : Int)) := ⟨_, rfl⟩
  change wpAnyH _ _ _ _ _ _ _ (a1.put (some 6) (.int .u64 (s.m : Int))) _
  rw [← hA2]
  have f2_6 : a2.eval (.tmp 6) = .int .u64 (s.m : Int) := by rw [hA2]; exact Act.eval_put_same _ _ _ (by omega)
  have f2_1 : a2.eval (.tmp 1) = .int .i64 t := by rw [hA2]; exact (Act.eval_put_ne _ _ _ _ (by decide)).trans f1_1
  have f2_2 : a2.eval (.tmp 2) = .pointer (some ⟨w.heap.size, 0, none⟩) := by rw [hA2]; exact (Act.eval_put_ne _ _ _ _ (by decide)).trans f1_2
  have f2_4 : a2.eval (.tmp 4) = .pointer (some ⟨w.heap.size + 1, 0, none⟩) := by rw [hA2]; exact (Act.eval_put_ne _ _ _ _ (by decide)).trans f1_4
  have z2 : a2.tmps.size = 14 := by rw [hA2, Act.size_put]; exact z1
  have dd2 : a2.defers = [] := by rw [hA2, Act.defers_put']; exact dd1
  clear hA2 z1 dd1 f1_5 f1_1 f1_2 f1_4
  refine wpAnyH_take (i := 2) (v := .int .i64 t) rfl (by kernel_rfl) (by kernel_rfl) (by kernel_rfl) (fun _ _ _ h => h) (yields_move rfl (.tmp 1) rfl f2_1) hS ?_
  obtain ⟨a3, hA3⟩ : ∃ a', a' = a2.put (some 7) (.int .i64 t) := ⟨_, rfl⟩
  change wpAnyH _ _ _ _ _ _ _ (a2.put (some 7) (.int .i64 t)) _
  rw [← hA3]
  have f3_7 : a3.eval (.tmp 7) = .int .i64 t := by rw [hA3]; exact Act.eval_put_same _ _ _ (by omega)
  have f3_6 : a3.eval (.tmp 6) = .int .u64 (s.m : Int) := by rw [hA3]; exact (Act.eval_put_ne _ _ _ _ (by decide)).trans f2_6
  have f3_1 : a3.eval (.tmp 1) = .int .i64 t := by rw [hA3]; exact (Act.eval_put_ne _ _ _ _ (by decide)).trans f2_1
  have f3_2 : a3.eval (.tmp 2) = .pointer (some ⟨w.heap.size, 0, none⟩) := by rw [hA3]; exact (Act.eval_put_ne _ _ _ _ (by decide)).trans f2_2
  have f3_4 : a3.eval (.tmp 4) = .pointer (some ⟨w.heap.size + 1, 0, none⟩) := by rw [hA3]; exact (Act.eval_put_ne _ _ _ _ (by decide)).trans f2_4
  have z3 : a3.tmps.size = 14 := by rw [hA3, Act.size_put]; exact z2
  have dd3 : a3.defers = [] := by rw [hA3, Act.defers_put']; exact dd2
  clear hA3 z2 dd2 f2_6 f2_1 f2_2 f2_4
  refine wpAnyH_take (i := 4) (v := .pointer (some ⟨w.heap.size, 1, none⟩)) rfl (by kernel_rfl) (by kernel_rfl) (by kernel_rfl) (fun _ _ _ h => h) (yields_bfld rfl (.tmp 2) 1 (by omega) rfl _ f3_2) hS ?_
  obtain ⟨a4, hA4⟩ : ∃ a', a' = a3.put (some 9) (.pointer (some ⟨w.heap.size, 1, none⟩)) := ⟨_, rfl⟩
  change wpAnyH _ _ _ _ _ _ _ (a3.put (some 9) (.pointer (some ⟨w.heap.size, 1, none⟩))) _
  rw [← hA4]
  have f4_9 : a4.eval (.tmp 9) = .pointer (some ⟨w.heap.size, 1, none⟩) := by rw [hA4]; exact Act.eval_put_same _ _ _ (by omega)
  have f4_7 : a4.eval (.tmp 7) = .int .i64 t := by rw [hA4]; exact (Act.eval_put_ne _ _ _ _ (by decide)).trans f3_7
  have f4_6 : a4.eval (.tmp 6) = .int .u64 (s.m : Int) := by rw [hA4]; exact (Act.eval_put_ne _ _ _ _ (by decide)).trans f3_6
  have f4_1 : a4.eval (.tmp 1) = .int .i64 t := by rw [hA4]; exact (Act.eval_put_ne _ _ _ _ (by decide)).trans f3_1
  have f4_4 : a4.eval (.tmp 4) = .pointer (some ⟨w.heap.size + 1, 0, none⟩) := by rw [hA4]; exact (Act.eval_put_ne _ _ _ _ (by decide)).trans f3_4
  have z4 : a4.tmps.size = 14 := by rw [hA4, Act.size_put]; exact z3
  have dd4 : a4.defers = [] := by rw [hA4, Act.defers_put']; exact dd3
  clear hA4 z3 dd3 f3_7 f3_6 f3_1 f3_2 f3_4
  refine wpAnyH_take (i := 5) (v := .int .u64 (s.a : Int)) rfl (by kernel_rfl) (by kernel_rfl) (by kernel_rfl) (fun _ _ _ h => h) (yields_u64 rfl (.tmp 9) rfl _ f4_9 _ (fun _ h => (bx_cells h.choose_spec.b0).2)) hS ?_
  obtain ⟨a5, hA5⟩ : ∃ a', a' = a4.put (some 10) (.int .u64 (s.a : Int)) := ⟨_, rfl⟩
  change wpAnyH _ _ _ _ _ _ _ (a4.put (some 10) (.int .u64 (s.a : Int))) _
  rw [← hA5]
  have f5_10 : a5.eval (.tmp 10) = .int .u64 (s.a : Int) := by rw [hA5]; exact Act.eval_put_same _ _ _ (by omega)
  have f5_7 : a5.eval (.tmp 7) = .int .i64 t := by rw [hA5]; exact (Act.eval_put_ne _ _ _ _ (by decide)).trans f4_7
  have f5_6 : a5.eval (.tmp 6) = .int .u64 (s.m : Int) := by rw [hA5]; exact (Act.eval_put_ne _ _ _ _ (by decide)).trans f4_6
  have f5_1 : a5.eval (.tmp 1) = .int .i64 t := by rw [hA5]; exact (Act.eval_put_ne _ _ _ _ (by decide)).trans f4_1
  have f5_4 : a5.eval (.tmp 4) = .pointer (some ⟨w.heap.size + 1, 0, none⟩) := by rw [hA5]; exact (Act.eval_put_ne _ _ _ _ (by decide)).trans f4_4
  have z5 : a5.tmps.size = 14 := by rw [hA5, Act.size_put]; exact z4
  have dd5 : a5.defers = [] := by rw [hA5, Act.defers_put']; exact dd4
  clear hA5 z4 dd4 f4_9 f4_7 f4_6 f4_1 f4_4
  refine wpAnyH_take (i := 6) (v := .int .i64 t) rfl (by kernel_rfl) (by kernel_rfl) (by kernel_rfl) (fun _ _ _ h => h) (yields_move rfl (.tmp 1) rfl f5_1) hS ?_
  obtain ⟨a6, hA6⟩ : ∃ a', a' = a5.put (some 11) (.int .i64 t) := ⟨_, rfl⟩
  change wpAnyH _ _ _ _ _ _ _ (a5.put (some 11) (.int .i64 t)) _
  rw [← hA6]
  have f6_11 : a6.eval (.tmp 11) = .int .i64 t := by rw [hA6]; exact Act.eval_put_same _ _ _ (by omega)
  have f6_10 : a6.eval (.tmp 10) = .int .u64 (s.a : Int) := by rw [hA6]; exact (Act.eval_put_ne _ _ _ _ (by decide)).trans f5_10
  have f6_7 : a6.eval (.tmp 7) = .int .i64 t := by rw [hA6]; exact (Act.eval_put_ne _ _ _ _ (by decide)).trans f5_7
  have f6_6 : a6.eval (.tmp 6) = .int .u64 (s.m : Int) := by rw [hA6]; exact (Act.eval_put_ne _ _ _ _ (by decide)).trans f5_6
  have f6_4 : a6.eval (.tmp 4) = .pointer (some ⟨w.heap.size + 1, 0, none⟩) := by rw [hA6]; exact (Act.eval_put_ne _ _ _ _ (by decide)).trans f5_4
  have z6 : a6.tmps.size = 14 := by rw [hA6, Act.size_put]; exact z5
  have dd6 : a6.defers = [] := by rw [hA6, Act.defers_put']; exact dd5
  clear hA6 z5 dd5 f5_10 f5_7 f5_6 f5_1 f5_4
  refine wpAnyH_ready (rs := [3]) (by kernel_rfl) (by simp) (AllReadyH.cons (by simp only [List.getElem?_toArray, List.getElem?_cons_succ, List.getElem?_cons_zero]; rfl) (fun K hK => ?_) AllReadyH.nil)
  refine step_call (by rfl) 25 #[.tmp 6, .tmp 7] #[24, 3] (by rfl) #[.int .u64 (s.m : Int), .int .i64 t] (by simp only [List.map_toArray, List.map_cons, List.map_nil, f6_6, f6_7]) Try.func25 (by kernel_rfl) rfl ((HM W1.drew).out) (fun e w' hR => ?_)
  obtain ⟨rfl, rfl⟩ := hR
  refine ⟨_, rfl, hK.out _ _ (hS) (fun hS => ?_)⟩
  obtain ⟨a7, hA7⟩ : ∃ a', a' = a6.put (some 8) (.int .u64 (ym : Int)) := ⟨_, rfl⟩
  change wpAnyH _ _ _ _ _ _ _ (a6.put (some 8) (.int .u64 (ym : Int))) _
  rw [← hA7]
  have f7_8 : a7.eval (.tmp 8) = .int .u64 (ym : Int) := by rw [hA7]; exact Act.eval_put_same _ _ _ (by omega)
  have f7_11 : a7.eval (.tmp 11) = .int .i64 t := by rw [hA7]; exact (Act.eval_put_ne _ _ _ _ (by decide)).trans f6_11
  have f7_10 : a7.eval (.tmp 10) = .int .u64 (s.a : Int) := by rw [hA7]; exact (Act.eval_put_ne _ _ _ _ (by decide)).trans f6_10
  have f7_4 : a7.eval (.tmp 4) = .pointer (some ⟨w.heap.size + 1, 0, none⟩) := by rw [hA7]; exact (Act.eval_put_ne _ _ _ _ (by decide)).trans f6_4
  have z7 : a7.tmps.size = 14 := by rw [hA7, Act.size_put]; exact z6
  have dd7 : a7.defers = [] := by rw [hA7, Act.defers_put']; exact dd6
  clear hA7 z6 dd6 f6_11 f6_10 f6_7 f6_6 f6_4
  refine wpAnyH_ready (rs := [7]) (by kernel_rfl) (by simp) (AllReadyH.cons (by simp only [List.getElem?_toArray, List.getElem?_cons_succ, List.getElem?_cons_zero]; rfl) (fun K hK => ?_) AllReadyH.nil)
  refine step_call (by rfl) 25 #[.tmp 10, .tmp 11] #[24, 3] (by rfl) #[.int .u64 (s.a : Int), .int .i64 t] (by simp only [List.map_toArray, List.map_cons, List.map_nil, f7_10, f7_11]) Try.func25 (by kernel_rfl) rfl ((HA W1.drew).out) (fun e w' hR => ?_)
  obtain ⟨rfl, rfl⟩ := hR
  refine ⟨_, rfl, hK.out _ _ (hS) (fun hS => ?_)⟩
  obtain ⟨a8, hA8⟩ : ∃ a', a' = a7.put (some 12) (.int .u64 (ya : Int)) := ⟨_, rfl⟩
  change wpAnyH _ _ _ _ _ _ _ (a7.put (some 12) (.int .u64 (ya : Int))) _
  rw [← hA8]
  have f8_12 : a8.eval (.tmp 12) = .int .u64 (ya : Int) := by rw [hA8]; exact Act.eval_put_same _ _ _ (by omega)
  have f8_8 : a8.eval (.tmp 8) = .int .u64 (ym : Int) := by rw [hA8]; exact (Act.eval_put_ne _ _ _ _ (by decide)).trans f7_8
  have f8_4 : a8.eval (.tmp 4) = .pointer (some ⟨w.heap.size + 1, 0, none⟩) := by rw [hA8]; exact (Act.eval_put_ne _ _ _ _ (by decide)).trans f7_4
  have z8 : a8.tmps.size = 14 := by rw [hA8, Act.size_put]; exact z7
  have dd8 : a8.defers = [] := by rw [hA8, Act.defers_put']; exact dd7
  clear hA8 z7 dd7 f7_8 f7_11 f7_10 f7_4
  refine wpAnyH_take (i := 8) (v := bxV ⟨ym, ya⟩) rfl (by kernel_rfl) (by kernel_rfl) (by kernel_rfl) (fun _ _ _ h => h) (yields_bbuild rfl (.tmp 8) (.tmp 12) rfl ym ya f8_8 f8_12) hS ?_
  obtain ⟨a9, hA9⟩ : ∃ a', a' = a8.put (some 13) (bxV ⟨ym, ya⟩) := ⟨_, rfl⟩
  change wpAnyH _ _ _ _ _ _ _ (a8.put (some 13) (bxV ⟨ym, ya⟩)) _
  rw [← hA9]
  have f9_13 : a9.eval (.tmp 13) = bxV ⟨ym, ya⟩ := by rw [hA9]; exact Act.eval_put_same _ _ _ (by omega)
  have f9_4 : a9.eval (.tmp 4) = .pointer (some ⟨w.heap.size + 1, 0, none⟩) := by rw [hA9]; exact (Act.eval_put_ne _ _ _ _ (by decide)).trans f8_4
  have z9 : a9.tmps.size = 14 := by rw [hA9, Act.size_put]; exact z8
  have dd9 : a9.defers = [] := by rw [hA9, Act.defers_put']; exact dd8
  clear hA9 z8 dd8 f8_12 f8_8 f8_4
  refine wpAnyH_ready (rs := [9]) (by kernel_rfl) (by simp) (AllReadyH.cons (by simp only [List.getElem?_toArray, List.getElem?_cons_succ, List.getElem?_cons_zero]; rfl) (fun K hK => ?_) AllReadyH.nil)
  refine sbx_store (by rfl) (.tmp 4) (.tmp 13) (by rfl) (w.heap.size + 1) bxZ ⟨ym, ya⟩ f9_4 f9_13 HZ.out.drew.b1 ?_
  refine hK.out _ _ (⟨_, HZ.out.drew.store _⟩) (fun hS => ?_)
  change wpAnyH _ _ _ _ _ _ _ a9 _
  refine wpAnyH_done (by kernel_rfl) ?_ _
  go_wp2_with fail
  exact ret_out (by rw [← Array.getD_eq_getD_getElem?]; exact f9_4) dd9 (HZ.out.drew.store ⟨ym, ya⟩) ⟨by rw [HQ.out], (HZ.out.drew.store ⟨ym, ya⟩).below⟩
theorem ret_draw {W w : World} {act : Act} {s m : Bx} {y : Bool} {R : Ending → World → Prop} (h4 : act.tmps[4]?.getD undef = .pointer (some ⟨w.heap.size + 1, 0, none⟩)) (h5 : act.tmps[5]?.getD undef = .bool y) (hd : act.defers = []) (hE : Lz w s m W) (hR : R (.returned (.tuple #[bxV m, .bool y])) W) :
    bodyPost Try.prog Try.f22 R .ret act W := by
  have hL := run_loadVar_mid (P := Try.prog) W (w.heap.size + 1) 0 29 (bxC m) _ (bx_range hE.b1) Try.underlying29 rfl (bx_size rfl)
  refine bodyPost_ret (v := .tuple #[bxV m, .bool y]) ?_ hd hR
  simp [results, Try.results22, asAddr, h4, h5, hL, Sem.run_bind, Sem.run_pure, Result.andThen, bxV]
set_option maxRecDepth 100000 in
set_option maxHeartbeats 4000000 in
theorem refWithdraw_any (s : Bx) (t : Int) (w : World) (ha : Is64 s.a) : Calls Try.prog 22 #[bxV s, .int .i64 t] w fun e w' => e = .returned (.tuple #[bxV (drawB s t).1, .bool (drawB s t).2]) ∧ Below w.heap.size w w' := by
  have HM := fun W => Lib.hid (refHas_any s.a ha t W)
  have HA := fun W => Lib.hid (refWithout_any s.a ha t W)
  have HQ : Hid (drawB s t = (⟨s.m, wout s.a t⟩, hasB s.a t)) := Lib.hid rfl
  generalize hasB s.a t = ym at *
  generalize wout s.a t = ya at *
  clear ha
  have HZ := Lib.hid (lz_new w s)
  go_enter Try.func22, Try.ntmps22
  go_upto_region 1 with (first | refine wbx_box rfl _ rfl s rfl ?_ | refine wbx_alloc rfl rfl ?_)
  try simp only [Act.put, List.setIfInBounds_toArray, List.set_cons_zero, List.set_cons_succ, World.size_alloc]
  generalize (w.alloc (bxO s)).alloc (bxO bxZ) = W1 at *
  refine wp_hold_act (fun a0 HA0 => ?_)
  have z0 : a0.tmps.size = 17 := by rw [HA0.out]; rfl
  have dd0 : a0.defers = [] := by rw [HA0.out]
  have f0_1 : a0.eval (.tmp 1) = .int .i64 t := by rw [HA0.out]; rfl
  have f0_2 : a0.eval (.tmp 2) = .pointer (some ⟨w.heap.size, 0, none⟩) := by rw [HA0.out]; rfl
  have f0_4 : a0.eval (.tmp 4) = .pointer (some ⟨w.heap.size + 1, 0, none⟩) := by rw [HA0.out]; rfl
  clear HA0
  refine wp_region_held_drew (S := fun w' => ∃ q, Lz w s q w') (by kernel_rfl) (⟨_, HZ.out.drew⟩) (fun hS => ?_)
  refine wpAnyH_take (i := 0) (v := .pointer (some ⟨w.heap.size, 0, none⟩)) rfl (by kernel_rfl) (by kernel_rfl) (by kernel_rfl) (fun _ _ _ h => h) (yields_bfld rfl (.tmp 2) 0 (by omega) rfl _ f0_2) hS ?_
  obtain ⟨a1, hA1⟩ : ∃ a', a' = a0.put (some 6) (.pointer (some ⟨w.heap.size, 0, none⟩)) := ⟨_, rfl⟩
  change wpAnyH _ _ _ _ _ _ _ (a0.put (some 6) (.pointer (some ⟨w.heap.size, 0, none⟩))) _
  rw [← hA1]
  have f1_6 : a1.eval (.tmp 6) = .pointer (some ⟨w.heap.size, 0, none⟩) := by rw [hA1]; exact Act.eval_put_same _ _ _ (by omega)
  have f1_1 : a1.eval (.tmp 1) = .int .i64 t := by rw [hA1]; exact (Act.eval_put_ne _ _ _ _ (by decide)).trans f0_1
  have f1_2 : a1.eval (.tmp 2) = .pointer (some ⟨w.heap.size, 0, none⟩) := by rw [hA1]; exact (Act.eval_put_ne _ _ _ _ (by decide)).trans f0_2
  have f1_4 : a1.eval (.tmp 4) = .pointer (some ⟨w.heap.size + 1, 0, none⟩) := by rw [hA1]; exact (Act.eval_put_ne _ _ _ _ (by decide)).trans f0_4
  have z1 : a1.tmps.size = 17 := by rw [hA1, Act.size_put]; exact z0
  have dd1 : a1.defers = [] := by rw [hA1, Act.defers_put']; exact dd0
  clear hA1 z0 dd0 f0_1 f0_2 f0_4
  refine wpAnyH_take (i := 1) (v := .int .u64 (s.m : Int)) rfl (by kernel_rfl) (by kernel_rfl) (by kernel_rfl) (fun _ _ _ h => h) (yields_u64 rfl (.tmp 6) rfl _ f1_6 _ (fun _ h => (bx_cells h.choose_spec.b0).1)) hS ?_
  obtain ⟨a2, hA2⟩ : ∃ a', a' = a1.put (some 7) (.int .u64 (s.m : Int)) := ⟨_, rfl⟩
  change wpAnyH _ _ _ _ _ _ _ (a1.put (some 7) (.int .u64 (s.m : Int))) _
  rw [← hA2]
  have f2_7 : a2.eval (.tmp 7) = .int .u64 (s.m : Int) := by rw [hA2]; exact Act.eval_put_same _ _ _ (by omega)
  have f2_1 : a2.eval (.tmp 1) = .int .i64 t := by rw [hA2]; exact (Act.eval_put_ne _ _ _ _ (by decide)).trans f1_1
  have f2_2 : a2.eval (.tmp 2) = .pointer (some ⟨w.heap.size, 0, none⟩) := by rw [hA2]; exact (Act.eval_put_ne _ _ _ _ (by decide)).trans f1_2
  have f2_4 : a2.eval (.tmp 4) = .pointer (some ⟨w.heap.size + 1, 0, none⟩) := by rw [hA2]; exact (Act.eval_put_ne _ _ _ _ (by decide)).trans f1_4
  have z2 : a2.tmps.size = 17 := by rw [hA2, Act.size_put]; exact z1
  have dd2 : a2.defers = [] := by rw [hA2, Act.defers_put']; exact dd1
  clear hA2 z1 dd1 f1_6 f1_1 f1_2 f1_4
  refine wpAnyH_take (i := 2) (v := .pointer (some ⟨w.heap.size, 1, none⟩)) rfl (by kernel_rfl) (by kernel_rfl) (by kernel_rfl) (fun _ _ _ h => h) (yields_bfld rfl (.tmp 2) 1 (by omega) rfl _ f2_2) hS ?_
  obtain ⟨a3, hA3⟩ : ∃ a', a' = a2.put (some 8) (.pointer (some ⟨w.heap.size, 1, none⟩)) := ⟨_, rfl⟩
  change wpAnyH _ _ _ _ _ _ _ (a2.put (some 8) (.pointer (some ⟨w.heap.size, 1, none⟩))) _
  rw [← hA3]
  have f3_8 : a3.eval (.tmp 8) = .pointer (some ⟨w.heap.size, 1, none⟩) := by rw [hA3]; exact Act.eval_put_same _ _ _ (by omega)
  have f3_7 : a3.eval (.tmp 7) = .int .u64 (s.m : Int) := by rw [hA3]; exact (Act.eval_put_ne _ _ _ _ (by decide)).trans f2_7
  have f3_1 : a3.eval (.tmp 1) = .int .i64 t := by rw [hA3]; exact (Act.eval_put_ne _ _ _ _ (by decide)).trans f2_1
  have f3_2 : a3.eval (.tmp 2) = .pointer (some ⟨w.heap.size, 0, none⟩) := by rw [hA3]; exact (Act.eval_put_ne _ _ _ _ (by decide)).trans f2_2
  have f3_4 : a3.eval (.tmp 4) = .pointer (some ⟨w.heap.size + 1, 0, none⟩) := by rw [hA3]; exact (Act.eval_put_ne _ _ _ _ (by decide)).trans f2_4
  have z3 : a3.tmps.size = 17 := by rw [hA3, Act.size_put]; exact z2
  have dd3 : a3.defers = [] := by rw [hA3, Act.defers_put']; exact dd2
  clear hA3 z2 dd2 f2_7 f2_1 f2_2 f2_4
  refine wpAnyH_take (i := 3) (v := .int .u64 (s.a : Int)) rfl (by kernel_rfl) (by kernel_rfl) (by kernel_rfl) (fun _ _ _ h => h) (yields_u64 rfl (.tmp 8) rfl _ f3_8 _ (fun _ h => (bx_cells h.choose_spec.b0).2)) hS ?_
  obtain ⟨a4, hA4⟩ : ∃ a', a' = a3.put (some 9) (.int .u64 (s.a : Int)) := ⟨_, rfl⟩
  change wpAnyH _ _ _ _ _ _ _ (a3.put (some 9) (.int .u64 (s.a : Int))) _
  rw [← hA4]
  have f4_9 : a4.eval (.tmp 9) = .int .u64 (s.a : Int) := by rw [hA4]; exact Act.eval_put_same _ _ _ (by omega)
  have f4_7 : a4.eval (.tmp 7) = .int .u64 (s.m : Int) := by rw [hA4]; exact (Act.eval_put_ne _ _ _ _ (by decide)).trans f3_7
  have f4_1 : a4.eval (.tmp 1) = .int .i64 t := by rw [hA4]; exact (Act.eval_put_ne _ _ _ _ (by decide)).trans f3_1
  have f4_2 : a4.eval (.tmp 2) = .pointer (some ⟨w.heap.size, 0, none⟩) := by rw [hA4]; exact (Act.eval_put_ne _ _ _ _ (by decide)).trans f3_2
  have f4_4 : a4.eval (.tmp 4) = .pointer (some ⟨w.heap.size + 1, 0, none⟩) := by rw [hA4]; exact (Act.eval_put_ne _ _ _ _ (by decide)).trans f3_4
  have z4 : a4.tmps.size = 17 := by rw [hA4, Act.size_put]; exact z3
  have dd4 : a4.defers = [] := by rw [hA4, Act.defers_put']; exact dd3
  clear hA4 z3 dd3 f3_8 f3_7 f3_1 f3_2 f3_4
  refine wpAnyH_take (i := 4) (v := .int .i64 t) rfl (by kernel_rfl) (by kernel_rfl) (by kernel_rfl) (fun _ _ _ h => h) (yields_move rfl (.tmp 1) rfl f4_1) hS ?_
  obtain ⟨a5, hA5⟩ : ∃ a', a' = a4.put (some 10) (.int .i64 t) := ⟨_, rfl⟩
  change wpAnyH _ _ _ _ _ _ _ (a4.put (some 10) (.int .i64 t)) _
  rw [← hA5]
  have f5_10 : a5.eval (.tmp 10) = .int .i64 t := by rw [hA5]; exact Act.eval_put_same _ _ _ (by omega)
  have f5_9 : a5.eval (.tmp 9) = .int .u64 (s.a : Int) := by rw [hA5]; exact (Act.eval_put_ne _ _ _ _ (by decide)).trans f4_9
  have f5_7 : a5.eval (.tmp 7) = .int .u64 (s.m : Int) := by rw [hA5]; exact (Act.eval_put_ne _ _ _ _ (by decide)).trans f4_7
  have f5_1 : a5.eval (.tmp 1) = .int .i64 t := by rw [hA5]; exact (Act.eval_put_ne _ _ _ _ (by decide)).trans f4_1
  have f5_2 : a5.eval (.tmp 2) = .pointer (some ⟨w.heap.size, 0, none⟩) := by rw [hA5]; exact (Act.eval_put_ne _ _ _ _ (by decide)).trans f4_2
  have f5_4 : a5.eval (.tmp 4) = .pointer (some ⟨w.heap.size + 1, 0, none⟩) := by rw [hA5]; exact (Act.eval_put_ne _ _ _ _ (by decide)).trans f4_4
  have z5 : a5.tmps.size = 17 := by rw [hA5, Act.size_put]; exact z4
  have dd5 : a5.defers = [] := by rw [hA5, Act.defers_put']; exact dd4
  clear hA5 z4 dd4 f4_9 f4_7 f4_1 f4_2 f4_4
  refine wpAnyH_take (i := 7) (v := .pointer (some ⟨w.heap.size, 1, none⟩)) rfl (by kernel_rfl) (by kernel_rfl) (by kernel_rfl) (fun _ _ _ h => h) (yields_bfld rfl (.tmp 2) 1 (by omega) rfl _ f5_2) hS ?_
  obtain ⟨a6, hA6⟩ : ∃ a', a' = a5.put (some 13) (.pointer (some ⟨w.heap.size, 1, none⟩)) := ⟨_, rfl⟩
  change wpAnyH _ _ _ _ _ _ _ (a5.put (some 13) (.pointer (some ⟨w.heap.size, 1, none⟩))) _
  rw [← hA6]
  have f6_13 : a6.eval (.tmp 13) = .pointer (some ⟨w.heap.size, 1, none⟩) := by rw [hA6]; exact Act.eval_put_same _ _ _ (by omega)
  have f6_10 : a6.eval (.tmp 10) = .int .i64 t := by rw [hA6]; exact (Act.eval_put_ne _ _ _ _ (by decide)).trans f5_10
  have f6_9 : a6.eval (.tmp 9) = .int .u64 (s.a : Int) := by rw [hA6]; exact (Act.eval_put_ne _ _ _ _ (by decide)).trans f5_9
  have f6_7 : a6.eval (.tmp 7) = .int .u64 (s.m : Int) := by rw [hA6]; exact (Act.eval_put_ne _ _ _ _ (by decide)).trans f5_7
  have f6_1 : a6.eval (.tmp 1) = .int .i64 t := by rw [hA6]; exact (Act.eval_put_ne _ _ _ _ (by decide)).trans f5_1
  have f6_4 : a6.eval (.tmp 4) = .pointer (some ⟨w.heap.size + 1, 0, none⟩) := by rw [hA6]; exact (Act.eval_put_ne _ _ _ _ (by decide)).trans f5_4
  have z6 : a6.tmps.size = 17 := by rw [hA6, Act.size_put]; exact z5
  have dd6 : a6.defers = [] := by rw [hA6, Act.defers_put']; exact dd5
  clear hA6 z5 dd5 f5_10 f5_9 f5_7 f5_1 f5_2 f5_4
  refine wpAnyH_take (i := 8) (v := .int .u64 (s.a : Int)) rfl (by kernel_rfl) (by kernel_rfl) (by kernel_rfl) (fun _ _ _ h => h) (yields_u64 rfl (.tmp 13) rfl _ f6_13 _ (fun _ h => (bx_cells h.choose_spec.b0).2)) hS ?_
  obtain ⟨a7, hA7⟩ : ∃ a', a' = a6.put (some 14) (.int .u64 (s.a : Int)) := ⟨_, rfl⟩
  change wpAnyH _ _ _ _ _ _ _ (a6.put (some 14) (.int .u64 (s.a : Int))) _
  rw [← hA7]
  have f7_14 : a7.eval (.tmp 14) = .int .u64 (s.a : Int) := by rw [hA7]; exact Act.eval_put_same _ _ _ (by omega)
  have f7_10 : a7.eval (.tmp 10) = .int .i64 t := by rw [hA7]; exact (Act.eval_put_ne _ _ _ _ (by decide)).trans f6_10
  have f7_9 : a7.eval (.tmp 9) = .int .u64 (s.a : Int) := by rw [hA7]; exact (Act.eval_put_ne _ _ _ _ (by decide)).trans f6_9
  have f7_7 : a7.eval (.tmp 7) = .int .u64 (s.m : Int) := by rw [hA7]; exact (Act.eval_put_ne _ _ _ _ (by decide)).trans f6_7
  have f7_1 : a7.eval (.tmp 1) = .int .i64 t := by rw [hA7]; exact (Act.eval_put_ne _ _ _ _ (by decide)).trans f6_1
  have f7_4 : a7.eval (.tmp 4) = .pointer (some ⟨w.heap.size + 1, 0, none⟩) := by rw [hA7]; exact (Act.eval_put_ne _ _ _ _ (by decide)).trans f6_4
  have z7 : a7.tmps.size = 17 := by rw [hA7, Act.size_put]; exact z6
  have dd7 : a7.defers = [] := by rw [hA7, Act.defers_put']; exact dd6
  clear hA7 z6 dd6 f6_13 f6_10 f6_9 f6_7 f6_1 f6_4
  refine wpAnyH_take (i := 9) (v := .int .i64 t) rfl (by kernel_rfl) (by kernel_rfl) (by kernel_rfl) (fun _ _ _ h => h) (yields_move rfl (.tmp 1) rfl f7_1) hS ?_
  obtain ⟨a8, hA8⟩ : ∃ a', a' = a7.put (some 15) (.int .i64 t) := ⟨_, rfl⟩
  change wpAnyH _ _ _ _ _ _ _ (a7.put (some 15) (.int .i64 t)) _
  rw [← hA8]
  have f8_15 : a8.eval (.tmp 15) = .int .i64 t := by rw [hA8]; exact Act.eval_put_same _ _ _ (by omega)
  have f8_14 : a8.eval (.tmp 14) = .int .u64 (s.a : Int) := by rw [hA8]; exact (Act.eval_put_ne _ _ _ _ (by decide)).trans f7_14
  have f8_10 : a8.eval (.tmp 10) = .int .i64 t := by rw [hA8]; exact (Act.eval_put_ne _ _ _ _ (by decide)).trans f7_10
  have f8_9 : a8.eval (.tmp 9) = .int .u64 (s.a : Int) := by rw [hA8]; exact (Act.eval_put_ne _ _ _ _ (by decide)).trans f7_9
  have f8_7 : a8.eval (.tmp 7) = .int .u64 (s.m : Int) := by rw [hA8]; exact (Act.eval_put_ne _ _ _ _ (by decide)).trans f7_7
  have f8_4 : a8.eval (.tmp 4) = .pointer (some ⟨w.heap.size + 1, 0, none⟩) := by rw [hA8]; exact (Act.eval_put_ne _ _ _ _ (by decide)).trans f7_4
  have z8 : a8.tmps.size = 17 := by rw [hA8, Act.size_put]; exact z7
  have dd8 : a8.defers = [] := by rw [hA8, Act.defers_put']; exact dd7
  clear hA8 z7 dd7 f7_14 f7_10 f7_9 f7_7 f7_1 f7_4
  refine wpAnyH_ready (rs := [5]) (by kernel_rfl) (by simp) (AllReadyH.cons (by simp only [List.getElem?_toArray, List.getElem?_cons_succ, List.getElem?_cons_zero]; rfl) (fun K hK => ?_) AllReadyH.nil)
  refine step_call (by rfl) 25 #[.tmp 9, .tmp 10] #[24, 3] (by rfl) #[.int .u64 (s.a : Int), .int .i64 t] (by simp only [List.map_toArray, List.map_cons, List.map_nil, f8_9, f8_10]) Try.func25 (by kernel_rfl) rfl ((HA W1.drew).out) (fun e w' hR => ?_)
  obtain ⟨rfl, rfl⟩ := hR
  refine ⟨_, rfl, hK.out _ _ (hS) (fun hS => ?_)⟩
  obtain ⟨a9, hA9⟩ : ∃ a', a' = a8.put (some 11) (.int .u64 (ya : Int)) := ⟨_, rfl⟩
  change wpAnyH _ _ _ _ _ _ _ (a8.put (some 11) (.int .u64 (ya : Int))) _
  rw [← hA9]
  have f9_11 : a9.eval (.tmp 11) = .int .u64 (ya : Int) := by rw [hA9]; exact Act.eval_put_same _ _ _ (by omega)
  have f9_15 : a9.eval (.tmp 15) = .int .i64 t := by rw [hA9]; exact (Act.eval_put_ne _ _ _ _ (by decide)).trans f8_15
  have f9_14 : a9.eval (.tmp 14) = .int .u64 (s.a : Int) := by rw [hA9]; exact (Act.eval_put_ne _ _ _ _ (by decide)).trans f8_14
  have f9_7 : a9.eval (.tmp 7) = .int .u64 (s.m : Int) := by rw [hA9]; exact (Act.eval_put_ne _ _ _ _ (by decide)).trans f8_7
  have f9_4 : a9.eval (.tmp 4) = .pointer (some ⟨w.heap.size + 1, 0, none⟩) := by rw [hA9]; exact (Act.eval_put_ne _ _ _ _ (by decide)).trans f8_4
  have z9 : a9.tmps.size = 17 := by rw [hA9, Act.size_put]; exact z8
  have dd9 : a9.defers = [] := by rw [hA9, Act.defers_put']; exact dd8
  clear hA9 z8 dd8 f8_15 f8_14 f8_10 f8_9 f8_7 f8_4
  refine wpAnyH_take (i := 6) (v := bxV ⟨s.m, ya⟩) rfl (by kernel_rfl) (by kernel_rfl) (by kernel_rfl) (fun _ _ _ h => h) (yields_bbuild rfl (.tmp 7) (.tmp 11) rfl s.m ya f9_7 f9_11) hS ?_
  obtain ⟨a10, hA10⟩ : ∃ a', a' = a9.put (some 12) (bxV ⟨s.m, ya⟩) := ⟨_, rfl⟩
  change wpAnyH _ _ _ _ _ _ _ (a9.put (some 12) (bxV ⟨s.m, ya⟩)) _
  rw [← hA10]
  have f10_12 : a10.eval (.tmp 12) = bxV ⟨s.m, ya⟩ := by rw [hA10]; exact Act.eval_put_same _ _ _ (by omega)
  have f10_15 : a10.eval (.tmp 15) = .int .i64 t := by rw [hA10]; exact (Act.eval_put_ne _ _ _ _ (by decide)).trans f9_15
  have f10_14 : a10.eval (.tmp 14) = .int .u64 (s.a : Int) := by rw [hA10]; exact (Act.eval_put_ne _ _ _ _ (by decide)).trans f9_14
  have f10_4 : a10.eval (.tmp 4) = .pointer (some ⟨w.heap.size + 1, 0, none⟩) := by rw [hA10]; exact (Act.eval_put_ne _ _ _ _ (by decide)).trans f9_4
  have z10 : a10.tmps.size = 17 := by rw [hA10, Act.size_put]; exact z9
  have dd10 : a10.defers = [] := by rw [hA10, Act.defers_put']; exact dd9
  clear hA10 z9 dd9 f9_11 f9_15 f9_14 f9_7 f9_4
  refine wpAnyH_ready (rs := [10]) (by kernel_rfl) (by simp) (AllReadyH.cons (by simp only [List.getElem?_toArray, List.getElem?_cons_succ, List.getElem?_cons_zero]; rfl) (fun K hK => ?_) AllReadyH.nil)
  refine step_call (by rfl) 34 #[.tmp 14, .tmp 15] #[24, 3] (by rfl) #[.int .u64 (s.a : Int), .int .i64 t] (by simp only [List.map_toArray, List.map_cons, List.map_nil, f10_14, f10_15]) Try.func34 (by kernel_rfl) rfl ((HM W1.drew).out) (fun e w' hR => ?_)
  obtain ⟨rfl, rfl⟩ := hR
  refine ⟨_, rfl, hK.out _ _ (hS) (fun hS => ?_)⟩
  obtain ⟨a11, hA11⟩ : ∃ a', a' = a10.put (some 16) (.bool ym) := ⟨_, rfl⟩
  change wpAnyH _ _ _ _ _ _ _ (a10.put (some 16) (.bool ym)) _
  rw [← hA11]
  have f11_16 : a11.eval (.tmp 16) = .bool ym := by rw [hA11]; exact Act.eval_put_same _ _ _ (by omega)
  have f11_12 : a11.eval (.tmp 12) = bxV ⟨s.m, ya⟩ := by rw [hA11]; exact (Act.eval_put_ne _ _ _ _ (by decide)).trans f10_12
  have f11_4 : a11.eval (.tmp 4) = .pointer (some ⟨w.heap.size + 1, 0, none⟩) := by rw [hA11]; exact (Act.eval_put_ne _ _ _ _ (by decide)).trans f10_4
  have z11 : a11.tmps.size = 17 := by rw [hA11, Act.size_put]; exact z10
  have dd11 : a11.defers = [] := by rw [hA11, Act.defers_put']; exact dd10
  clear hA11 z10 dd10 f10_12 f10_15 f10_14 f10_4
  refine wpAnyH_ready (rs := [11]) (by kernel_rfl) (by simp) (AllReadyH.cons (by simp only [List.getElem?_toArray, List.getElem?_cons_succ, List.getElem?_cons_zero]; rfl) (fun K hK => ?_) AllReadyH.nil)
  refine sbx_store (by rfl) (.tmp 4) (.tmp 12) (by rfl) (w.heap.size + 1) bxZ ⟨s.m, ya⟩ f11_4 f11_12 HZ.out.drew.b1 ?_
  refine hK.out _ _ (⟨_, HZ.out.drew.store _⟩) (fun hS => ?_)
  change wpAnyH _ _ _ _ _ _ _ a11 _
  refine wpAnyH_take (i := 12) (v := .bool ym) rfl (by kernel_rfl) (by kernel_rfl) (by kernel_rfl) (fun _ _ _ h => h) (yields_assign rfl (.tmp 16) rfl f11_16) hS ?_
  obtain ⟨a12, hA12⟩ : ∃ a', a' = a11.put (some 5) (.bool ym) := ⟨_, rfl⟩
  change wpAnyH _ _ _ _ _ _ _ (a11.put (some 5) (.bool ym)) _
  rw [← hA12]
  have f12_5 : a12.eval (.tmp 5) = .bool ym := by rw [hA12]; exact Act.eval_put_same _ _ _ (by omega)
  have f12_4 : a12.eval (.tmp 4) = .pointer (some ⟨w.heap.size + 1, 0, none⟩) := by rw [hA12]; exact (Act.eval_put_ne _ _ _ _ (by decide)).trans f11_4
  have z12 : a12.tmps.size = 17 := by rw [hA12, Act.size_put]; exact z11
  have dd12 : a12.defers = [] := by rw [hA12, Act.defers_put']; exact dd11
  clear hA12 z11 dd11 f11_16 f11_12 f11_4
  refine wpAnyH_done (by kernel_rfl) ?_ _
  go_wp2_with fail
  exact ret_draw (by rw [← Array.getD_eq_getD_getElem?]; exact f12_4) (by rw [← Array.getD_eq_getD_getElem?]; exact f12_5) dd12 (HZ.out.drew.store ⟨s.m, ya⟩) ⟨by rw [HQ.out], (HZ.out.drew.store ⟨s.m, ya⟩).below⟩
theorem ret_enrol {W w : World} {act : Act} {s m : Bx} {y : Int} {R : Ending → World → Prop} (h4 : act.tmps[4]?.getD undef = .pointer (some ⟨w.heap.size + 1, 0, none⟩)) (h5 : act.tmps[5]?.getD undef = .int .i64 y) (hd : act.defers = []) (hE : Lz w s m W) (hR : R (.returned (.tuple #[bxV m, .int .i64 y])) W) :
    bodyPost Try.prog Try.f19 R .ret act W := by
  have hL := run_loadVar_mid (P := Try.prog) W (w.heap.size + 1) 0 29 (bxC m) _ (bx_range hE.b1) Try.underlying29 rfl (bx_size rfl)
  refine bodyPost_ret (v := .tuple #[bxV m, .int .i64 y]) ?_ hd hR
  simp [results, Try.results19, asAddr, h4, h5, hL, Sem.run_bind, Sem.run_pure, Result.andThen, bxV]
set_option maxRecDepth 100000 in
set_option maxHeartbeats 4000000 in
theorem refEnrol_any (s : Bx) (t : Int) (w : World) (hm : Is64 s.m) (ha : Is64 s.a) : Calls Try.prog 19 #[bxV s, .int .i64 t] w fun e w' => e = .returned (.tuple #[bxV (enrolB s t).1, .int .i64 (enrolB s t).2]) ∧ Below w.heap.size w w' := by
  have HH := fun W => Lib.hid (refHas_any s.m hm t W)
  have HW := fun W => Lib.hid (refWith_any s.m hm t W)
  clear hm ha
  have HZ := Lib.hid (lz_new w s)
  go_enter Try.func19, Try.ntmps19
  go_upto_region 1 with (first | refine wbx_box rfl _ rfl s rfl ?_ | refine wbx_alloc rfl rfl ?_)
  try simp only [Act.put, List.setIfInBounds_toArray, List.set_cons_zero, List.set_cons_succ, World.size_alloc]
  generalize (w.alloc (bxO s)).alloc (bxO bxZ) = W1 at *
  obtain ⟨x0, x1⟩ := bx_cells HZ.out.b0
  by_cases h1 : t < 0
  · have HR : Hid (enrolB s t = (s, 1)) := Lib.hid (by unfold enrolB; rw [if_pos (.inl h1)])
    clear HH HW
    go_upto_region 2 with fail
    go_wp2_with (first | refine wbx_load rfl _ rfl w.heap.size rfl s HZ.out.b0 ?_ | refine wbx_store rfl _ _ rfl (w.heap.size + 1) bxZ _ rfl rfl HZ.out.b1 ?_)
    exact ret_enrol rfl rfl rfl (HZ.out.store _) ⟨by rw [HR.out], (HZ.out.store _).below⟩
  have h1f : 0 ≤ t := by omega
  by_cases h2 : 63 < t
  · have HR : Hid (enrolB s t = (s, 1)) := Lib.hid (by unfold enrolB; rw [if_pos (.inr h2)])
    clear HH HW h1
    go_upto_region 2 with fail
    go_wp2_with (first | refine wbx_load rfl _ rfl w.heap.size rfl s HZ.out.b0 ?_ | refine wbx_store rfl _ _ rfl (w.heap.size + 1) bxZ _ rfl rfl HZ.out.b1 ?_)
    exact ret_enrol rfl rfl rfl (HZ.out.store _) ⟨by rw [HR.out], (HZ.out.store _).below⟩
  have ht : ¬ (t < 0 ∨ 63 < t) := by omega
  have d1 : decide (t < 0) = false := decide_eq_false h1
  have d2 : decide (t > 63) = false := decide_eq_false h2
  have d3 : decide (63 < t) = false := decide_eq_false h2
  clear h1 h2 h1f
  by_cases hb : hasB s.m t = true
  · have HR : Hid (enrolB s t = (s, 8)) := Lib.hid (by unfold enrolB; rw [if_neg ht, if_pos hb])
    rw [hb] at HH
    clear hb HW ht
    go_wp2_with fail
    refine (HH _).out.mono ?_
    rintro _ w2 ⟨rfl, rfl⟩
    go_wp2_with (first | refine wbx_load rfl _ rfl w.heap.size rfl s HZ.out.b0 ?_ | refine wbx_store rfl _ _ rfl (w.heap.size + 1) bxZ _ rfl rfl HZ.out.b1 ?_)
    exact ret_enrol rfl rfl rfl (HZ.out.store _) ⟨by rw [HR.out], (HZ.out.store _).below⟩
  have hb' : hasB s.m t = false := by simpa using hb
  rw [hb'] at HH
  by_cases hn : s.a ≠ 0
  · have HR : Hid (enrolB s t = (s, 7)) := Lib.hid (by unfold enrolB; rw [if_neg ht, if_neg hb, if_pos hn])
    have e1 : ((s.a : Int) != 0) = true := by rw [bne_iff_ne]; omega
    clear hb hb' hn HW ht
    go_wp2_with fail
    refine (HH _).out.mono ?_
    rintro _ w2 ⟨rfl, rfl⟩
    go_wp2_with (first | refine wbx_load rfl _ rfl w.heap.size rfl s HZ.out.b0 ?_ | refine wbx_store rfl _ _ rfl (w.heap.size + 1) bxZ _ rfl rfl HZ.out.b1 ?_)
    exact ret_enrol rfl rfl rfl (HZ.out.store _) ⟨by rw [HR.out], (HZ.out.store _).below⟩
  have hz : s.a = 0 := by omega
  have e1 : ((s.a : Int) != 0) = false := by rw [hz]; rfl
  have HR : Hid (enrolB s t = (⟨wth s.m t, s.a⟩, 0)) := Lib.hid (by unfold enrolB; rw [if_neg ht, if_neg hb, if_neg hn])
  clear hb hb' hn hz ht
  generalize wth s.m t = r2 at *
  have f0 := bx_soft HZ.out.b0 0
  go_wp2_with fail
  refine (HH _).out.mono ?_
  rintro _ w2 ⟨rfl, rfl⟩
  go_wp2_with fail
  refine (HW _).out.mono ?_
  rintro _ w3 ⟨rfl, rfl⟩
  go_upto_region 8 with fail
  have HZ3 := Lib.hid (HZ.out.setm r2)
  generalize W1.setCell ⟨w.heap.size, 0, none⟩ (.int .u64 (r2 : Int)) = W3 at *
  clear HZ x0 x1 f0 HW HH
  go_wp2_with (first | refine wbx_load rfl _ rfl w.heap.size rfl ⟨r2, s.a⟩ HZ3.out.b0 ?_ | refine wbx_store rfl _ _ rfl (w.heap.size + 1) bxZ _ rfl rfl HZ3.out.b1 ?_)
  exact ret_enrol rfl rfl rfl (HZ3.out.store _) ⟨by rw [HR.out], (HZ3.out.store _).below⟩
end Go.Proofs.Ytiekbbknmneikaa.bar
