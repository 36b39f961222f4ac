/-
  The document's own barrier: a member arrives. No condition. Printed by tools/mkbar4.py.
-/
import Derived.Test.YtiekbbknmneikaaBarRef3
namespace Go.Proofs.Ytiekbbknmneikaa.bar
open Go.RowKit Go.ChangeShapes
open Go.Proofs.Ytiekbbknmneikaa.obj
open Go.Proofs.Ytiekbbknmneikaa.bits (Is64 hasB wth wout minus els refHas_any refWith_any refWithout_any wth_lt wout_lt)
set_option linter.unusedVariables false
set_option linter.unusedSimpArgs false

theorem ret_arrive {W w : World} {act : Act} {s m : Bx} {u : Nat} {b : Bool} {y : Int} {R : Ending → World → Prop} (h4 : act.tmps[4]?.getD undef = .pointer (some ⟨w.heap.size + 1, 0, none⟩)) (h5 : act.tmps[5]?.getD undef = .int .u64 (u : Int)) (h6 : act.tmps[6]?.getD undef = .bool b) (h7 : act.tmps[7]?.getD undef = .int .i64 y) (hd : act.defers = []) (hE : Lz w s m W) (hR : R (.returned (.tuple #[bxV m, .int .u64 (u : Int), .bool b, .int .i64 y])) W) :
    bodyPost Try.prog Try.f21 R .ret act W := by
  have hL := run_loadVar_mid (P := Try.prog) W (w.heap.size + 1) 0 29 (bxC m) _ (bx_range hE.b1) Try.underlying29 rfl (bx_size rfl)
  refine bodyPost_ret (v := .tuple #[bxV m, .int .u64 (u : Int), .bool b, .int .i64 y]) ?_ hd hR
  simp [results, Try.results21, asAddr, h4, h5, h6, h7, hL, Sem.run_bind, Sem.run_pure, Result.andThen, bxV]
set_option maxRecDepth 100000 in
set_option maxHeartbeats 4000000 in
theorem refArrive_any (s : Bx) (t : Int) (w : World) (hm : Is64 s.m) (ha : Is64 s.a) : Calls Try.prog 21 #[bxV s, .int .i64 t] w fun e w' => e = .returned (.tuple #[bxV (arriveB s t).1, .int .u64 ((arriveB s t).2.1 : Int), .bool (arriveB s t).2.2.1, .int .i64 (arriveB s t).2.2.2]) ∧ Below w.heap.size w w' := by
  have HH := fun W => Lib.hid (refHas_any s.m hm t W)
  have HA := fun W => Lib.hid (refHas_any s.a ha t W)
  have HW := fun W => Lib.hid (refWith_any s.a ha t W)
  have HMi := fun W => Lib.hid (refMissing_any ⟨s.m, wth s.a t⟩ W hm (wth_lt ha t))
  clear hm ha
  have HZ := Lib.hid (lz_new w s)
  go_enter Try.func21, Try.ntmps21
  go_upto_region 1 with (first | refine wbx_box rfl _ rfl s rfl ?_ | refine wbx_alloc rfl rfl ?_)
  try simp only [Act.put, List.setIfInBounds_toArray, List.set_cons_zero, List.set_cons_succ, World.size_alloc]
  generalize (w.alloc (bxO s)).alloc (bxO bxZ) = W1 at *
  obtain ⟨x0, x1⟩ := bx_cells HZ.out.b0
  by_cases h1 : t < 0
  · have HR : Hid (arriveB s t = (s, 0, false, 1)) := Lib.hid (by unfold arriveB; rw [if_pos (.inl h1)])
    clear HH
    go_upto_region 2 with fail
    go_wp2_with (first | refine wbx_load rfl _ rfl w.heap.size rfl s HZ.out.b0 ?_ | refine wbx_store rfl _ _ rfl (w.heap.size + 1) bxZ _ rfl rfl HZ.out.b1 ?_)
    exact ret_arrive rfl rfl rfl rfl rfl (HZ.out.store _) ⟨by rw [HR.out], (HZ.out.store _).below⟩
  have h1f : 0 ≤ t := by omega
  by_cases h2 : 63 < t
  · have HR : Hid (arriveB s t = (s, 0, false, 1)) := Lib.hid (by unfold arriveB; rw [if_pos (.inr h2)])
    clear HH h1
    go_upto_region 2 with fail
    go_wp2_with (first | refine wbx_load rfl _ rfl w.heap.size rfl s HZ.out.b0 ?_ | refine wbx_store rfl _ _ rfl (w.heap.size + 1) bxZ _ rfl rfl HZ.out.b1 ?_)
    exact ret_arrive rfl rfl rfl rfl rfl (HZ.out.store _) ⟨by rw [HR.out], (HZ.out.store _).below⟩
  have ht : ¬ (t < 0 ∨ 63 < t) := by omega
  have d1 : decide (t < 0) = false := decide_eq_false h1
  have d2 : decide (t > 63) = false := decide_eq_false h2
  have d3 : decide (63 < t) = false := decide_eq_false h2
  clear h1 h2 h1f
  by_cases hb : hasB s.m t = false
  · have HR : Hid (arriveB s t = (s, 0, false, 9)) := Lib.hid (by unfold arriveB; rw [if_neg ht, if_pos hb])
    rw [hb] at HH
    clear hb HW HA HMi ht
    go_wp2_with fail
    refine (HH _).out.mono ?_
    rintro _ w2 ⟨rfl, rfl⟩
    go_wp2_with (first | refine wbx_load rfl _ rfl w.heap.size rfl s HZ.out.b0 ?_ | refine wbx_store rfl _ _ rfl (w.heap.size + 1) bxZ _ rfl rfl HZ.out.b1 ?_)
    exact ret_arrive rfl rfl rfl rfl rfl (HZ.out.store _) ⟨by rw [HR.out], (HZ.out.store _).below⟩
  have hb' : hasB s.m t = true := by simpa using hb
  rw [hb'] at HH
  by_cases hc : hasB s.a t = true
  · have HR : Hid (arriveB s t = (s, 0, false, 7)) := Lib.hid (by unfold arriveB; rw [if_neg ht, if_neg hb, if_pos hc])
    rw [hc] at HA
    clear hb hb' hc HW HMi ht
    go_wp2_with fail
    refine (HH _).out.mono ?_
    rintro _ w2 ⟨rfl, rfl⟩
    go_wp2_with fail
    refine (HA _).out.mono ?_
    rintro _ w3 ⟨rfl, rfl⟩
    go_wp2_with (first | refine wbx_load rfl _ rfl w.heap.size rfl s HZ.out.b0 ?_ | refine wbx_store rfl _ _ rfl (w.heap.size + 1) bxZ _ rfl rfl HZ.out.b1 ?_)
    exact ret_arrive rfl rfl rfl rfl rfl (HZ.out.store _) ⟨by rw [HR.out], (HZ.out.store _).below⟩
  have hc' : hasB s.a t = false := by simpa using hc
  rw [hc'] at HA
  have HR0 : Hid (arriveB s t = if missB ⟨s.m, wth s.a t⟩ = 0 then (⟨s.m, 0⟩, s.a, true, 0) else (⟨s.m, wth s.a t⟩, 0, false, 0)) := Lib.hid (by unfold arriveB; rw [if_neg ht, if_neg hb, if_neg hc])
  clear hb hb' hc hc' ht
  generalize wth s.a t = ya at *
  go_wp2_with fail
  refine (HH _).out.mono ?_
  rintro _ w2 ⟨rfl, rfl⟩
  go_wp2_with fail
  refine (HA _).out.mono ?_
  rintro _ w3 ⟨rfl, rfl⟩
  clear HH HA
  go_upto_region 7 with fail
  try simp only [Act.put, List.setIfInBounds_toArray, List.set_cons_zero, List.set_cons_succ]
  go_cut [8] (fun p wx => ∃ gx, p = .pointer (some ⟨gx, 0, none⟩) ∧ Hid (Xz w s bxZ gx ⟨s.m, ya⟩ wx))
  case first =>
    refine wp_hold_act (fun a0 HA0 => ?_)
    have z0 : a0.tmps.size = 43 := by rw [HA0.out]; rfl
    have dd0 : a0.defers = [] := by rw [HA0.out]
    have f0_1 : a0.eval (.tmp 1) = .int .i64 t := by rw [HA0.out]; rfl
    have f0_2 : a0.eval (.tmp 2) = .pointer (some ⟨w.heap.size, 0, none⟩) := by rw [HA0.out]; rfl
    refine wp_region_held_drew (S := fun w' => Lz w s bxZ w') (by kernel_rfl) (HZ.out.drew) (fun hS => ?_)
    refine wpAnyH_take (i := 0) (v := .pointer (some ⟨w.heap.size, 0, none⟩)) rfl (by kernel_rfl) (by kernel_rfl) (by kernel_rfl) (fun _ _ _ h => h) (yields_bfld rfl (.tmp 2) 0 (by omega) rfl _ f0_2) hS ?_
    obtain ⟨a1, hA1⟩ : ∃ a', a' = a0.put (some 27) (.pointer (some ⟨w.heap.size, 0, none⟩)) := ⟨_, rfl⟩
    change wpAnyH _ _ _ _ _ _ _ (a0.put (some 27) (.pointer (some ⟨w.heap.size, 0, none⟩))) _
    rw [← hA1]
    have f1_27 : a1.eval (.tmp 27) = .pointer (some ⟨w.heap.size, 0, none⟩) := by rw [hA1]; exact Act.eval_put_same _ _ _ (by omega)
    have f1_1 : a1.eval (.tmp 1) = .int .i64 t := by rw [hA1]; exact (Act.eval_put_ne _ _ _ _ (by decide)).trans f0_1
    have f1_2 : a1.eval (.tmp 2) = .pointer (some ⟨w.heap.size, 0, none⟩) := by rw [hA1]; exact (Act.eval_put_ne _ _ _ _ (by decide)).trans f0_2
    have z1 : a1.tmps.size = 43 := by rw [hA1, Act.size_put]; exact z0
    have dd1 : a1.defers = [] := by rw [hA1, Act.defers_put']; exact dd0
    have HA1 := Lib.hid hA1
    clear hA1 z0 dd0 f0_1 f0_2
    refine wpAnyH_take (i := 1) (v := .int .u64 (s.m : Int)) rfl (by kernel_rfl) (by kernel_rfl) (by kernel_rfl) (fun _ _ _ h => h) (yields_u64 rfl (.tmp 27) rfl _ f1_27 _ (fun _ h => (bx_cells h.b0).1)) hS ?_
    obtain ⟨a2, hA2⟩ : ∃ a', a' = a1.put (some 28) (.int .u64 (s.m : Int)) := ⟨_, rfl⟩
    change wpAnyH _ _ _ _ _ _ _ (a1.put (some 28) (.int .u64 (s.m : Int))) _
    rw [← hA2]
    have f2_28 : a2.eval (.tmp 28) = .int .u64 (s.m : Int) := by rw [hA2]; exact Act.eval_put_same _ _ _ (by omega)
    have f2_1 : a2.eval (.tmp 1) = .int .i64 t := by rw [hA2]; exact (Act.eval_put_ne _ _ _ _ (by decide)).trans f1_1
    have f2_2 : a2.eval (.tmp 2) = .pointer (some ⟨w.heap.size, 0, none⟩) := by rw [hA2]; exact (Act.eval_put_ne _ _ _ _ (by decide)).trans f1_2
    have z2 : a2.tmps.size = 43 := by rw [hA2, Act.size_put]; exact z1
    have dd2 : a2.defers = [] := by rw [hA2, Act.defers_put']; exact dd1
    have HA2 := Lib.hid hA2
    clear hA2 z1 dd1 f1_27 f1_1 f1_2
    refine wpAnyH_take (i := 2) (v := .pointer (some ⟨w.heap.size, 1, none⟩)) rfl (by kernel_rfl) (by kernel_rfl) (by kernel_rfl) (fun _ _ _ h => h) (yields_bfld rfl (.tmp 2) 1 (by omega) rfl _ f2_2) hS ?_
    obtain ⟨a3, hA3⟩ : ∃ a', a' = a2.put (some 29) (.pointer (some ⟨w.heap.size, 1, none⟩)) := ⟨_, rfl⟩
    change wpAnyH _ _ _ _ _ _ _ (a2.put (some 29) (.pointer (some ⟨w.heap.size, 1, none⟩))) _
    rw [← hA3]
    have f3_29 : a3.eval (.tmp 29) = .pointer (some ⟨w.heap.size, 1, none⟩) := by rw [hA3]; exact Act.eval_put_same _ _ _ (by omega)
    have f3_28 : a3.eval (.tmp 28) = .int .u64 (s.m : Int) := by rw [hA3]; exact (Act.eval_put_ne _ _ _ _ (by decide)).trans f2_28
    have f3_1 : a3.eval (.tmp 1) = .int .i64 t := by rw [hA3]; exact (Act.eval_put_ne _ _ _ _ (by decide)).trans f2_1
    have z3 : a3.tmps.size = 43 := by rw [hA3, Act.size_put]; exact z2
    have dd3 : a3.defers = [] := by rw [hA3, Act.defers_put']; exact dd2
    have HA3 := Lib.hid hA3
    clear hA3 z2 dd2 f2_28 f2_1 f2_2
    refine wpAnyH_take (i := 3) (v := .int .u64 (s.a : Int)) rfl (by kernel_rfl) (by kernel_rfl) (by kernel_rfl) (fun _ _ _ h => h) (yields_u64 rfl (.tmp 29) rfl _ f3_29 _ (fun _ h => (bx_cells h.b0).2)) hS ?_
    obtain ⟨a4, hA4⟩ : ∃ a', a' = a3.put (some 30) (.int .u64 (s.a : Int)) := ⟨_, rfl⟩
    change wpAnyH _ _ _ _ _ _ _ (a3.put (some 30) (.int .u64 (s.a : Int))) _
    rw [← hA4]
    have f4_30 : a4.eval (.tmp 30) = .int .u64 (s.a : Int) := by rw [hA4]; exact Act.eval_put_same _ _ _ (by omega)
    have f4_28 : a4.eval (.tmp 28) = .int .u64 (s.m : Int) := by rw [hA4]; exact (Act.eval_put_ne _ _ _ _ (by decide)).trans f3_28
    have f4_1 : a4.eval (.tmp 1) = .int .i64 t := by rw [hA4]; exact (Act.eval_put_ne _ _ _ _ (by decide)).trans f3_1
    have z4 : a4.tmps.size = 43 := by rw [hA4, Act.size_put]; exact z3
    have dd4 : a4.defers = [] := by rw [hA4, Act.defers_put']; exact dd3
    have HA4 := Lib.hid hA4
    clear hA4 z3 dd3 f3_29 f3_28 f3_1
    refine wpAnyH_take (i := 4) (v := .int .i64 t) rfl (by kernel_rfl) (by kernel_rfl) (by kernel_rfl) (fun _ _ _ h => h) (yields_move rfl (.tmp 1) rfl f4_1) hS ?_
    obtain ⟨a5, hA5⟩ : ∃ a', a' = a4.put (some 31) (.int .i64 t) := ⟨_, rfl⟩
    change wpAnyH _ _ _ _ _ _ _ (a4.put (some 31) (.int .i64 t)) _
    rw [← hA5]
    have f5_31 : a5.eval (.tmp 31) = .int .i64 t := by rw [hA5]; exact Act.eval_put_same _ _ _ (by omega)
    have f5_30 : a5.eval (.tmp 30) = .int .u64 (s.a : Int) := by rw [hA5]; exact (Act.eval_put_ne _ _ _ _ (by decide)).trans f4_30
    have f5_28 : a5.eval (.tmp 28) = .int .u64 (s.m : Int) := by rw [hA5]; exact (Act.eval_put_ne _ _ _ _ (by decide)).trans f4_28
    have z5 : a5.tmps.size = 43 := by rw [hA5, Act.size_put]; exact z4
    have dd5 : a5.defers = [] := by rw [hA5, Act.defers_put']; exact dd4
    have HA5 := Lib.hid hA5
    clear hA5 z4 dd4 f4_30 f4_28 f4_1
    refine wpAnyH_ready (rs := [5, 7]) (by kernel_rfl) (by simp) (AllReadyH.cons (by simp only [List.getElem?_toArray, List.getElem?_cons_succ, List.getElem?_cons_zero]; rfl) (fun K hK => ?_) (AllReadyH.cons (by simp only [List.getElem?_toArray, List.getElem?_cons_succ, List.getElem?_cons_zero]; rfl) (fun K hK => ?_) AllReadyH.nil))
    · skip
      refine step_call (by rfl) 35 #[.tmp 30, .tmp 31] #[24, 3] (by rfl) #[.int .u64 (s.a : Int), .int .i64 t] (by simp only [List.map_toArray, List.map_cons, List.map_nil, f5_30, f5_31]) Try.func35 (by kernel_rfl) rfl (HW W1.drew).out (fun e' W2 hR => ?_)
      obtain ⟨rfl, rfl⟩ := hR
      refine ⟨_, rfl, hK.out _ _ hS (fun hS => ?_)⟩
      obtain ⟨a6, hA6⟩ : ∃ a', a' = a5.put (some 32) (.int .u64 (ya : Int)) := ⟨_, rfl⟩
      change wpAnyH _ _ _ _ _ _ _ (a5.put (some 32) (.int .u64 (ya : Int))) _
      rw [← hA6]
      have f6_32 : a6.eval (.tmp 32) = .int .u64 (ya : Int) := by rw [hA6]; exact Act.eval_put_same _ _ _ (by omega)
      have f6_28 : a6.eval (.tmp 28) = .int .u64 (s.m : Int) := by rw [hA6]; exact (Act.eval_put_ne _ _ _ _ (by decide)).trans f5_28
      have z6 : a6.tmps.size = 43 := by rw [hA6, Act.size_put]; exact z5
      have dd6 : a6.defers = [] := by rw [hA6, Act.defers_put']; exact dd5
      have HA6 := Lib.hid hA6
      clear hA6 z5 dd5 f5_31 f5_30 f5_28
      refine wpAnyH_take (i := 6) (v := bxV ⟨s.m, ya⟩) rfl (by kernel_rfl) (by kernel_rfl) (by kernel_rfl) (fun _ _ _ h => h) (yields_bbuild rfl (.tmp 28) (.tmp 32) rfl s.m ya f6_28 f6_32) hS ?_
      obtain ⟨a7, hA7⟩ : ∃ a', a' = a6.put (some 33) (bxV ⟨s.m, ya⟩) := ⟨_, rfl⟩
      change wpAnyH _ _ _ _ _ _ _ (a6.put (some 33) (bxV ⟨s.m, ya⟩)) _
      rw [← hA7]
      have f7_33 : a7.eval (.tmp 33) = bxV ⟨s.m, ya⟩ := by rw [hA7]; exact Act.eval_put_same _ _ _ (by omega)
      have z7 : a7.tmps.size = 43 := by rw [hA7, Act.size_put]; exact z6
      have dd7 : a7.defers = [] := by rw [hA7, Act.defers_put']; exact dd6
      have HA7 := Lib.hid hA7
      clear hA7 z6 dd6 f6_32 f6_28
      refine wpAnyH_ready (rs := [7]) (by kernel_rfl) (by simp) (AllReadyH.cons (by simp only [List.getElem?_toArray, List.getElem?_cons_succ, List.getElem?_cons_zero]; rfl) (fun K hK => ?_) AllReadyH.nil)
      refine sbx_alloc (by rfl) (by rfl) ?_
      refine hK.out _ _ (hS.next ((Below.refl _ _).alloc (Nat.le_refl _) _)) (fun hS => ?_)
      obtain ⟨a8, hA8⟩ : ∃ a', a' = a7.put (some 8) (.pointer (some ⟨W1.drew.heap.size, 0, none⟩)) := ⟨_, rfl⟩
      change wpAnyH _ _ _ _ _ _ _ (a7.put (some 8) (.pointer (some ⟨W1.drew.heap.size, 0, none⟩))) _
      rw [← hA8]
      have f8_8 : a8.eval (.tmp 8) = .pointer (some ⟨W1.drew.heap.size, 0, none⟩) := by rw [hA8]; exact Act.eval_put_same _ _ _ (by omega)
      have f8_33 : a8.eval (.tmp 33) = bxV ⟨s.m, ya⟩ := by rw [hA8]; exact (Act.eval_put_ne _ _ _ _ (by decide)).trans f7_33
      have z8 : a8.tmps.size = 43 := by rw [hA8, Act.size_put]; exact z7
      have dd8 : a8.defers = [] := by rw [hA8, Act.defers_put']; exact dd7
      have HA8 := Lib.hid hA8
      clear hA8 z7 dd7 f7_33
      refine wpAnyH_ready (rs := [8]) (by kernel_rfl) (by simp) (AllReadyH.cons (by simp only [List.getElem?_toArray, List.getElem?_cons_succ, List.getElem?_cons_zero]; rfl) (fun K hK => ?_) AllReadyH.nil)
      refine sbx_store (by rfl) (.tmp 8) (.tmp 33) (by rfl) W1.drew.heap.size bxZ ⟨s.m, ya⟩ f8_8 f8_33 (heap_alloc_new W1.drew (bxO bxZ)) ?_
      refine hK.out _ _ (lz_more HZ.out.drew ⟨s.m, ya⟩).1 (fun hS => ?_)
      change wpAnyH _ _ _ _ _ _ _ a8 _
      refine wpAnyH_done (by kernel_rfl) ?_ _
      have HE : Hid (Xz w s bxZ W1.drew.heap.size ⟨s.m, ya⟩ ((W1.drew.alloc (bxO bxZ)).setRow W1.drew.heap.size (bxC ⟨s.m, ya⟩).toArray)) := Lib.hid ⟨(lz_more HZ.out.drew ⟨s.m, ya⟩).1, (lz_more HZ.out.drew ⟨s.m, ya⟩).2.1, (lz_more HZ.out.drew ⟨s.m, ya⟩).2.2⟩
      clear hS hK
      rw [HA8.out]
      rw [HA7.out]
      rw [HA6.out]
      rw [HA5.out]
      rw [HA4.out]
      rw [HA3.out]
      rw [HA2.out]
      rw [HA1.out]
      rw [HA0.out]
      simp only [Act.put, List.setIfInBounds_toArray, List.set_cons_zero, List.set_cons_succ]
      go_wp2_with fail
      go_meet
      exact ⟨_, rfl, HE⟩
    · skip
      refine sbx_alloc (by rfl) (by rfl) ?_
      refine hK.out _ _ (hS.next ((Below.refl _ _).alloc (Nat.le_refl _) _)) (fun hS => ?_)
      obtain ⟨a6, hA6⟩ : ∃ a', a' = a5.put (some 8) (.pointer (some ⟨W1.drew.heap.size, 0, none⟩)) := ⟨_, rfl⟩
      change wpAnyH _ _ _ _ _ _ _ (a5.put (some 8) (.pointer (some ⟨W1.drew.heap.size, 0, none⟩))) _
      rw [← hA6]
      have f6_8 : a6.eval (.tmp 8) = .pointer (some ⟨W1.drew.heap.size, 0, none⟩) := by rw [hA6]; exact Act.eval_put_same _ _ _ (by omega)
      have f6_31 : a6.eval (.tmp 31) = .int .i64 t := by rw [hA6]; exact (Act.eval_put_ne _ _ _ _ (by decide)).trans f5_31
      have f6_30 : a6.eval (.tmp 30) = .int .u64 (s.a : Int) := by rw [hA6]; exact (Act.eval_put_ne _ _ _ _ (by decide)).trans f5_30
      have f6_28 : a6.eval (.tmp 28) = .int .u64 (s.m : Int) := by rw [hA6]; exact (Act.eval_put_ne _ _ _ _ (by decide)).trans f5_28
      have z6 : a6.tmps.size = 43 := by rw [hA6, Act.size_put]; exact z5
      have dd6 : a6.defers = [] := by rw [hA6, Act.defers_put']; exact dd5
      have HA6 := Lib.hid hA6
      clear hA6 z5 dd5 f5_31 f5_30 f5_28
      refine wpAnyH_ready (rs := [5]) (by kernel_rfl) (by simp) (AllReadyH.cons (by simp only [List.getElem?_toArray, List.getElem?_cons_succ, List.getElem?_cons_zero]; rfl) (fun K hK => ?_) AllReadyH.nil)
      refine step_call (by rfl) 35 #[.tmp 30, .tmp 31] #[24, 3] (by rfl) #[.int .u64 (s.a : Int), .int .i64 t] (by simp only [List.map_toArray, List.map_cons, List.map_nil, f6_30, f6_31]) Try.func35 (by kernel_rfl) rfl (HW (W1.drew.alloc (bxO bxZ))).out (fun e' W2 hR => ?_)
      obtain ⟨rfl, rfl⟩ := hR
      refine ⟨_, rfl, hK.out _ _ hS (fun hS => ?_)⟩
      obtain ⟨a7, hA7⟩ : ∃ a', a' = a6.put (some 32) (.int .u64 (ya : Int)) := ⟨_, rfl⟩
      change wpAnyH _ _ _ _ _ _ _ (a6.put (some 32) (.int .u64 (ya : Int))) _
      rw [← hA7]
      have f7_32 : a7.eval (.tmp 32) = .int .u64 (ya : Int) := by rw [hA7]; exact Act.eval_put_same _ _ _ (by omega)
      have f7_8 : a7.eval (.tmp 8) = .pointer (some ⟨W1.drew.heap.size, 0, none⟩) := by rw [hA7]; exact (Act.eval_put_ne _ _ _ _ (by decide)).trans f6_8
      have f7_28 : a7.eval (.tmp 28) = .int .u64 (s.m : Int) := by rw [hA7]; exact (Act.eval_put_ne _ _ _ _ (by decide)).trans f6_28
      have z7 : a7.tmps.size = 43 := by rw [hA7, Act.size_put]; exact z6
      have dd7 : a7.defers = [] := by rw [hA7, Act.defers_put']; exact dd6
      have HA7 := Lib.hid hA7
      clear hA7 z6 dd6 f6_8 f6_31 f6_30 f6_28
      refine wpAnyH_take (i := 6) (v := bxV ⟨s.m, ya⟩) rfl (by kernel_rfl) (by kernel_rfl) (by kernel_rfl) (fun _ _ _ h => h) (yields_bbuild rfl (.tmp 28) (.tmp 32) rfl s.m ya f7_28 f7_32) hS ?_
      obtain ⟨a8, hA8⟩ : ∃ a', a' = a7.put (some 33) (bxV ⟨s.m, ya⟩) := ⟨_, rfl⟩
      change wpAnyH _ _ _ _ _ _ _ (a7.put (some 33) (bxV ⟨s.m, ya⟩)) _
      rw [← hA8]
      have f8_33 : a8.eval (.tmp 33) = bxV ⟨s.m, ya⟩ := by rw [hA8]; exact Act.eval_put_same _ _ _ (by omega)
      have f8_8 : a8.eval (.tmp 8) = .pointer (some ⟨W1.drew.heap.size, 0, none⟩) := by rw [hA8]; exact (Act.eval_put_ne _ _ _ _ (by decide)).trans f7_8
      have z8 : a8.tmps.size = 43 := by rw [hA8, Act.size_put]; exact z7
      have dd8 : a8.defers = [] := by rw [hA8, Act.defers_put']; exact dd7
      have HA8 := Lib.hid hA8
      clear hA8 z7 dd7 f7_32 f7_8 f7_28
      refine wpAnyH_ready (rs := [8]) (by kernel_rfl) (by simp) (AllReadyH.cons (by simp only [List.getElem?_toArray, List.getElem?_cons_succ, List.getElem?_cons_zero]; rfl) (fun K hK => ?_) AllReadyH.nil)
      refine sbx_store (by rfl) (.tmp 8) (.tmp 33) (by rfl) W1.drew.heap.size bxZ ⟨s.m, ya⟩ f8_8 f8_33 (heap_alloc_new W1.drew (bxO bxZ)) ?_
      refine hK.out _ _ (lz_more HZ.out.drew ⟨s.m, ya⟩).1 (fun hS => ?_)
      change wpAnyH _ _ _ _ _ _ _ a8 _
      refine wpAnyH_done (by kernel_rfl) ?_ _
      have HE : Hid (Xz w s bxZ W1.drew.heap.size ⟨s.m, ya⟩ ((W1.drew.alloc (bxO bxZ)).setRow W1.drew.heap.size (bxC ⟨s.m, ya⟩).toArray)) := Lib.hid ⟨(lz_more HZ.out.drew ⟨s.m, ya⟩).1, (lz_more HZ.out.drew ⟨s.m, ya⟩).2.1, (lz_more HZ.out.drew ⟨s.m, ya⟩).2.2⟩
      clear hS hK
      rw [HA8.out]
      rw [HA7.out]
      rw [HA6.out]
      rw [HA5.out]
      rw [HA4.out]
      rw [HA3.out]
      rw [HA2.out]
      rw [HA1.out]
      rw [HA0.out]
      simp only [Act.put, List.setIfInBounds_toArray, List.set_cons_zero, List.set_cons_succ]
      go_wp2_with fail
      go_meet
      exact ⟨_, rfl, HE⟩
  case rest =>
    obtain ⟨gx, rfl, HX4⟩ := hcut
    clear HZ x0 x1 HW
    generalize hx : (⟨s.m, ya⟩ : Bx) = x at *
    clear hx
    by_cases hz : missB x = 0
    · have HR := Lib.hid (HR0.out.trans (if_pos hz))
      rw [hz, show ((0 : Nat) : Int) = 0 from rfl] at HMi
      clear hz HR0
      go_wp2_with (first | refine wbx_load rfl _ rfl gx rfl x HX4.out.bx ?_)
      refine (HMi _).out.mono ?_
      rintro _ w5 ⟨rfl, hb5⟩
      have HX5 := Lib.hid (HX4.out.next hb5)
      clear hb5 HX4 HMi
      go_upto_region 9 with fail
      refine wp_hold_act (fun a0 HA0 => ?_)
      have z0 : a0.tmps.size = 43 := by rw [HA0.out]; rfl
      have dd0 : a0.defers = [] := by rw [HA0.out]
      have f0_4 : a0.eval (.tmp 4) = .pointer (some ⟨w.heap.size + 1, 0, none⟩) := by rw [HA0.out]; rfl
      have f0_2 : a0.eval (.tmp 2) = .pointer (some ⟨w.heap.size, 0, none⟩) := by rw [HA0.out]; rfl
      clear HA0
      refine wp_region_held_drew (S := fun w' => ∃ q, Xz w s q gx x w') (by kernel_rfl) (⟨_, HX5.out.drew⟩) (fun hS => ?_)
      refine wpAnyH_take (i := 0) (v := .pointer (some ⟨w.heap.size, 0, none⟩)) rfl (by kernel_rfl) (by kernel_rfl) (by kernel_rfl) (fun _ _ _ h => h) (yields_bfld rfl (.tmp 2) 0 (by omega) rfl _ f0_2) hS ?_
      obtain ⟨a1, hA1⟩ : ∃ a', a' = a0.put (some 37) (.pointer (some ⟨w.heap.size, 0, none⟩)) := ⟨_, rfl⟩
      change wpAnyH _ _ _ _ _ _ _ (a0.put (some 37) (.pointer (some ⟨w.heap.size, 0, none⟩))) _
      rw [← hA1]
      have f1_37 : a1.eval (.tmp 37) = .pointer (some ⟨w.heap.size, 0, none⟩) := by rw [hA1]; exact Act.eval_put_same _ _ _ (by omega)
      have f1_4 : a1.eval (.tmp 4) = .pointer (some ⟨w.heap.size + 1, 0, none⟩) := by rw [hA1]; exact (Act.eval_put_ne _ _ _ _ (by decide)).trans f0_4
      have f1_2 : a1.eval (.tmp 2) = .pointer (some ⟨w.heap.size, 0, none⟩) := by rw [hA1]; exact (Act.eval_put_ne _ _ _ _ (by decide)).trans f0_2
      have z1 : a1.tmps.size = 43 := by rw [hA1, Act.size_put]; exact z0
      have dd1 : a1.defers = [] := by rw [hA1, Act.defers_put']; exact dd0
      clear hA1 z0 dd0 f0_4 f0_2
      refine wpAnyH_take (i := 1) (v := .int .u64 (s.m : Int)) rfl (by kernel_rfl) (by kernel_rfl) (by kernel_rfl) (fun _ _ _ h => h) (yields_u64 rfl (.tmp 37) rfl _ f1_37 _ (fun _ h => (bx_cells h.choose_spec.lz.b0).1)) hS ?_
      obtain ⟨a2, hA2⟩ : ∃ a', a' = a1.put (some 38) (.int .u64 (s.m : Int)) := ⟨_, rfl⟩
      change wpAnyH _ _ _ _ _ _ _ (a1.put (some 38) (.int .u64 (s.m : Int))) _
      rw [← hA2]
      have f2_38 : a2.eval (.tmp 38) = .int .u64 (s.m : Int) := by rw [hA2]; exact Act.eval_put_same _ _ _ (by omega)
      have f2_4 : a2.eval (.tmp 4) = .pointer (some ⟨w.heap.size + 1, 0, none⟩) := by rw [hA2]; exact (Act.eval_put_ne _ _ _ _ (by decide)).trans f1_4
      have f2_2 : a2.eval (.tmp 2) = .pointer (some ⟨w.heap.size, 0, none⟩) := by rw [hA2]; exact (Act.eval_put_ne _ _ _ _ (by decide)).trans f1_2
      have z2 : a2.tmps.size = 43 := by rw [hA2, Act.size_put]; exact z1
      have dd2 : a2.defers = [] := by rw [hA2, Act.defers_put']; exact dd1
      clear hA2 z1 dd1 f1_37 f1_4 f1_2
      refine wpAnyH_take (i := 2) (v := bxV ⟨s.m, 0⟩) rfl (by kernel_rfl) (by kernel_rfl) (by kernel_rfl) (fun _ _ _ h => h) (yields_bbuild1 rfl (.tmp 38) rfl s.m f2_38) hS ?_
      obtain ⟨a3, hA3⟩ : ∃ a', a' = a2.put (some 39) (bxV ⟨s.m, 0⟩) := ⟨_, rfl⟩
      change wpAnyH _ _ _ _ _ _ _ (a2.put (some 39) (bxV ⟨s.m, 0⟩)) _
      rw [← hA3]
      have f3_39 : a3.eval (.tmp 39) = bxV ⟨s.m, 0⟩ := by rw [hA3]; exact Act.eval_put_same _ _ _ (by omega)
      have f3_4 : a3.eval (.tmp 4) = .pointer (some ⟨w.heap.size + 1, 0, none⟩) := by rw [hA3]; exact (Act.eval_put_ne _ _ _ _ (by decide)).trans f2_4
      have f3_2 : a3.eval (.tmp 2) = .pointer (some ⟨w.heap.size, 0, none⟩) := by rw [hA3]; exact (Act.eval_put_ne _ _ _ _ (by decide)).trans f2_2
      have z3 : a3.tmps.size = 43 := by rw [hA3, Act.size_put]; exact z2
      have dd3 : a3.defers = [] := by rw [hA3, Act.defers_put']; exact dd2
      clear hA3 z2 dd2 f2_38 f2_4 f2_2
      refine wpAnyH_take (i := 3) (v := .pointer (some ⟨w.heap.size, 1, none⟩)) rfl (by kernel_rfl) (by kernel_rfl) (by kernel_rfl) (fun _ _ _ h => h) (yields_bfld rfl (.tmp 2) 1 (by omega) rfl _ f3_2) hS ?_
      obtain ⟨a4, hA4⟩ : ∃ a', a' = a3.put (some 40) (.pointer (some ⟨w.heap.size, 1, none⟩)) := ⟨_, rfl⟩
      change wpAnyH _ _ _ _ _ _ _ (a3.put (some 40) (.pointer (some ⟨w.heap.size, 1, none⟩))) _
      rw [← hA4]
      have f4_40 : a4.eval (.tmp 40) = .pointer (some ⟨w.heap.size, 1, none⟩) := by rw [hA4]; exact Act.eval_put_same _ _ _ (by omega)
      have f4_39 : a4.eval (.tmp 39) = bxV ⟨s.m, 0⟩ := by rw [hA4]; exact (Act.eval_put_ne _ _ _ _ (by decide)).trans f3_39
      have f4_4 : a4.eval (.tmp 4) = .pointer (some ⟨w.heap.size + 1, 0, none⟩) := by rw [hA4]; exact (Act.eval_put_ne _ _ _ _ (by decide)).trans f3_4
      have z4 : a4.tmps.size = 43 := by rw [hA4, Act.size_put]; exact z3
      have dd4 : a4.defers = [] := by rw [hA4, Act.defers_put']; exact dd3
      clear hA4 z3 dd3 f3_39 f3_4 f3_2
      refine wpAnyH_take (i := 4) (v := .int .u64 (s.a : Int)) rfl (by kernel_rfl) (by kernel_rfl) (by kernel_rfl) (fun _ _ _ h => h) (yields_u64 rfl (.tmp 40) rfl _ f4_40 _ (fun _ h => (bx_cells h.choose_spec.lz.b0).2)) hS ?_
      obtain ⟨a5, hA5⟩ : ∃ a', a' = a4.put (some 41) (.int .u64 (s.a : Int)) := ⟨_, rfl⟩
      change wpAnyH _ _ _ _ _ _ _ (a4.put (some 41) (.int .u64 (s.a : Int))) _
      rw [← hA5]
      have f5_41 : a5.eval (.tmp 41) = .int .u64 (s.a : Int) := by rw [hA5]; exact Act.eval_put_same _ _ _ (by omega)
      have f5_39 : a5.eval (.tmp 39) = bxV ⟨s.m, 0⟩ := by rw [hA5]; exact (Act.eval_put_ne _ _ _ _ (by decide)).trans f4_39
      have f5_4 : a5.eval (.tmp 4) = .pointer (some ⟨w.heap.size + 1, 0, none⟩) := by rw [hA5]; exact (Act.eval_put_ne _ _ _ _ (by decide)).trans f4_4
      have z5 : a5.tmps.size = 43 := by rw [hA5, Act.size_put]; exact z4
      have dd5 : a5.defers = [] := by rw [hA5, Act.defers_put']; exact dd4
      clear hA5 z4 dd4 f4_40 f4_39 f4_4
      refine wpAnyH_ready (rs := [5]) (by kernel_rfl) (by simp) (AllReadyH.cons (by simp only [List.getElem?_toArray, List.getElem?_cons_succ, List.getElem?_cons_zero]; rfl) (fun K hK => ?_) AllReadyH.nil)
      refine sbx_store (by rfl) (.tmp 4) (.tmp 39) (by rfl) (w.heap.size + 1) bxZ ⟨s.m, 0⟩ f5_4 f5_39 HX5.out.drew.lz.b1 ?_
      refine hK.out _ _ (⟨_, HX5.out.drew.store _⟩) (fun hS => ?_)
      change wpAnyH _ _ _ _ _ _ _ a5 _
      refine wpAnyH_take (i := 6) (v := .int .u64 (s.a : Int)) rfl (by kernel_rfl) (by kernel_rfl) (by kernel_rfl) (fun _ _ _ h => h) (yields_assign rfl (.tmp 41) rfl f5_41) hS ?_
      obtain ⟨a6, hA6⟩ : ∃ a', a' = a5.put (some 5) (.int .u64 (s.a : Int)) := ⟨_, rfl⟩
      change wpAnyH _ _ _ _ _ _ _ (a5.put (some 5) (.int .u64 (s.a : Int))) _
      rw [← hA6]
      have f6_5 : a6.eval (.tmp 5) = .int .u64 (s.a : Int) := by rw [hA6]; exact Act.eval_put_same _ _ _ (by omega)
      have f6_4 : a6.eval (.tmp 4) = .pointer (some ⟨w.heap.size + 1, 0, none⟩) := by rw [hA6]; exact (Act.eval_put_ne _ _ _ _ (by decide)).trans f5_4
      have z6 : a6.tmps.size = 43 := by rw [hA6, Act.size_put]; exact z5
      have dd6 : a6.defers = [] := by rw [hA6, Act.defers_put']; exact dd5
      clear hA6 z5 dd5 f5_41 f5_39 f5_4
      refine wpAnyH_take (i := 7) (v := .bool true) rfl (by kernel_rfl) (by kernel_rfl) (by kernel_rfl) (fun _ _ _ h => h) (yields_assign rfl _ rfl rfl) hS ?_
      obtain ⟨a7, hA7⟩ : ∃ a', a' = a6.put (some 6) (.bool true) := ⟨_, rfl⟩
      change wpAnyH _ _ _ _ _ _ _ (a6.put (some 6) (.bool true)) _
      rw [← hA7]
      have f7_6 : a7.eval (.tmp 6) = .bool true := by rw [hA7]; exact Act.eval_put_same _ _ _ (by omega)
      have f7_5 : a7.eval (.tmp 5) = .int .u64 (s.a : Int) := by rw [hA7]; exact (Act.eval_put_ne _ _ _ _ (by decide)).trans f6_5
      have f7_4 : a7.eval (.tmp 4) = .pointer (some ⟨w.heap.size + 1, 0, none⟩) := by rw [hA7]; exact (Act.eval_put_ne _ _ _ _ (by decide)).trans f6_4
      have z7 : a7.tmps.size = 43 := by rw [hA7, Act.size_put]; exact z6
      have dd7 : a7.defers = [] := by rw [hA7, Act.defers_put']; exact dd6
      clear hA7 z6 dd6 f6_5 f6_4
      refine wpAnyH_take (i := 8) (v := .int .i64 0) rfl (by kernel_rfl) (by kernel_rfl) (by kernel_rfl) (fun _ _ _ h => h) (yields_assign rfl _ rfl rfl) hS ?_
      obtain ⟨a8, hA8⟩ : ∃ a', a' = a7.put (some 7) (.int .i64 0) := ⟨_, rfl⟩
      change wpAnyH _ _ _ _ _ _ _ (a7.put (some 7) (.int .i64 0)) _
      rw [← hA8]
      have f8_7 : a8.eval (.tmp 7) = .int .i64 0 := by rw [hA8]; exact Act.eval_put_same _ _ _ (by omega)
      have f8_6 : a8.eval (.tmp 6) = .bool true := by rw [hA8]; exact (Act.eval_put_ne _ _ _ _ (by decide)).trans f7_6
      have f8_5 : a8.eval (.tmp 5) = .int .u64 (s.a : Int) := by rw [hA8]; exact (Act.eval_put_ne _ _ _ _ (by decide)).trans f7_5
      have f8_4 : a8.eval (.tmp 4) = .pointer (some ⟨w.heap.size + 1, 0, none⟩) := by rw [hA8]; exact (Act.eval_put_ne _ _ _ _ (by decide)).trans f7_4
      have z8 : a8.tmps.size = 43 := by rw [hA8, Act.size_put]; exact z7
      have dd8 : a8.defers = [] := by rw [hA8, Act.defers_put']; exact dd7
      clear hA8 z7 dd7 f7_6 f7_5 f7_4
      refine wpAnyH_done (by kernel_rfl) ?_ _
      go_wp2_with fail
      exact ret_arrive (by rw [← Array.getD_eq_getD_getElem?]; exact f8_4) (by rw [← Array.getD_eq_getD_getElem?]; exact f8_5) (by rw [← Array.getD_eq_getD_getElem?]; exact f8_6) (by rw [← Array.getD_eq_getD_getElem?]; exact f8_7) dd8 (HX5.out.drew.store ⟨s.m, 0⟩).lz ⟨by rw [HR.out], (HX5.out.drew.store ⟨s.m, 0⟩).lz.below⟩
    have HR := Lib.hid (HR0.out.trans (if_neg hz))
    have e0 : ((missB x : Nat) : Int) ≠ 0 := by omega
    have e1 : (((missB x : Nat) : Int) == 0) = false := by rw [beq_eq_false_iff_ne]; exact e0
    clear e0 hz HR0
    generalize missB x = z at *
    go_wp2_with (first | refine wbx_load rfl _ rfl gx rfl x HX4.out.bx ?_)
    refine (HMi _).out.mono ?_
    rintro _ w5 ⟨rfl, hb5⟩
    have HX5 := Lib.hid (HX4.out.next hb5)
    clear hb5 HX4 HMi
    go_wp2_with (first | refine wbx_load rfl _ rfl gx rfl x HX5.out.bx ?_ | refine wbx_store rfl _ _ rfl (w.heap.size + 1) bxZ x rfl rfl HX5.out.lz.b1 ?_)
    exact ret_arrive rfl rfl rfl rfl rfl (HX5.out.store x).lz ⟨by rw [HR.out], (HX5.out.store x).lz.below⟩
end Go.Proofs.Ytiekbbknmneikaa.bar
