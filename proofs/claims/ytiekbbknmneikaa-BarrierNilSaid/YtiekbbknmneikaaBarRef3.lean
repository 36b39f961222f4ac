/-
  The document's own barrier: a member leaves, one is taken out, one arrives. No condition. Printed by tools/mkbar3.py.
-/
import Derived.Test.YtiekbbknmneikaaBarRef2
import Derived.Deep.DeepCutAuto
namespace Go.Proofs.Ytiekbbknmneikaa.bar
open Go.RowKit Go.ChangeShapes
open Go.Proofs.Ytiekbbknmneikaa.obj
open Go.Proofs.Ytiekbbknmneikaa.bits (Is64 hasB wth wout minus els refHas_any refWith_any refWithout_any wth_lt wout_lt)
set_option linter.unusedVariables false
set_option linter.unusedSimpArgs false

/-- The boxes, and one made on the way. -/
structure Xz (w : World) (s q : Bx) (gx : Nat) (x : Bx) (W : World) : Prop where
  lz : Lz w s q W
  bx : W.heap[gx]? = some (bxO x)
  far : w.heap.size + 1 < gx
theorem Xz.next {w W W' : World} {s q x : Bx} {gx : Nat} (h : Xz w s q gx x W) (hb : Below W.heap.size W W') : Xz w s q gx x W' :=
  ⟨h.lz.next hb, (hb.block _ (lt_of_block h.bx)).trans h.bx, h.far⟩
theorem Xz.store {w W : World} {s q0 x : Bx} {gx : Nat} (h : Xz w s q0 gx x W) (q : Bx) : Xz w s q gx x (W.setRow (w.heap.size + 1) (bxC q).toArray) :=
  ⟨h.lz.store q, (row_far _ (by have := h.far; omega)).trans h.bx, h.far⟩
theorem Xz.drew {w W : World} {s q x : Bx} {gx : Nat} (h : Xz w s q gx x W) : Xz w s q gx x W.drew := ⟨h.lz.drew, h.bx, h.far⟩
theorem ret_leave {W w : World} {act : Act} {s m : Bx} {u : Nat} {y : Int} {R : Ending → World → Prop} (h4 : act.tmps[4]?.getD undef = .pointer (some ⟨w.heap.size + 1, 0, none⟩)) (h5 : act.tmps[5]?.getD undef = .int .u64 (u : Int)) (h6 : act.tmps[6]?.getD undef = .int .i64 y) (hd : act.defers = []) (hE : Lz w s m W) (hR : R (.returned (.tuple #[bxV m, .int .u64 (u : Int), .int .i64 y])) W) :
    bodyPost Try.prog Try.f20 R .ret act W := by
  have hL := run_loadVar_mid (P := Try.prog) W (w.heap.size + 1) 0 29 (bxC m) _ (bx_range hE.b1) Try.underlying29 rfl (bx_size rfl)
  refine bodyPost_ret (v := .tuple #[bxV m, .int .u64 (u : Int), .int .i64 y]) ?_ hd hR
  simp [results, Try.results20, asAddr, h4, h5, h6, hL, Sem.run_bind, Sem.run_pure, Result.andThen, bxV]
set_option maxRecDepth 100000 in
set_option maxHeartbeats 4000000 in
theorem refLeave_any (s : Bx) (t : Int) (w : World) (hm : Is64 s.m) (ha : Is64 s.a) : Calls Try.prog 20 #[bxV s, .int .i64 t] w fun e w' => e = .returned (.tuple #[bxV (leaveB s t).1, .int .u64 ((leaveB s t).2.1 : Int), .int .i64 (leaveB s t).2.2]) ∧ Below w.heap.size w w' := by
  have HH := fun W => Lib.hid (refHas_any s.m hm t W)
  have HO := fun W => Lib.hid (refOut_any s t W hm ha)
  have HMi := fun W => Lib.hid (refMissing_any (outB s t) W (wout_lt hm t) (wout_lt ha t))
  clear hm ha
  have HZ := Lib.hid (lz_new w s)
  go_enter Try.func20, Try.ntmps20
  go_upto_region 1 with (first | refine wbx_box rfl _ rfl s rfl ?_ | refine wbx_alloc rfl rfl ?_)
  try simp only [Act.put, List.setIfInBounds_toArray, List.set_cons_zero, List.set_cons_succ, World.size_alloc]
  generalize (w.alloc (bxO s)).alloc (bxO bxZ) = W1 at *
  obtain ⟨x0, x1⟩ := bx_cells HZ.out.b0
  by_cases h1 : t < 0
  · have HR : Hid (leaveB s t = (s, 0, 1)) := Lib.hid (by unfold leaveB; rw [if_pos (.inl h1)])
    clear HH
    go_upto_region 2 with fail
    go_wp2_with (first | refine wbx_load rfl _ rfl w.heap.size rfl s HZ.out.b0 ?_ | refine wbx_store rfl _ _ rfl (w.heap.size + 1) bxZ _ rfl rfl HZ.out.b1 ?_)
    exact ret_leave rfl rfl rfl rfl (HZ.out.store _) ⟨by rw [HR.out], (HZ.out.store _).below⟩
  have h1f : 0 ≤ t := by omega
  by_cases h2 : 63 < t
  · have HR : Hid (leaveB s t = (s, 0, 1)) := Lib.hid (by unfold leaveB; rw [if_pos (.inr h2)])
    clear HH h1
    go_upto_region 2 with fail
    go_wp2_with (first | refine wbx_load rfl _ rfl w.heap.size rfl s HZ.out.b0 ?_ | refine wbx_store rfl _ _ rfl (w.heap.size + 1) bxZ _ rfl rfl HZ.out.b1 ?_)
    exact ret_leave rfl rfl rfl rfl (HZ.out.store _) ⟨by rw [HR.out], (HZ.out.store _).below⟩
  have ht : ¬ (t < 0 ∨ 63 < t) := by omega
  have d1 : decide (t < 0) = false := decide_eq_false h1
  have d2 : decide (t > 63) = false := decide_eq_false h2
  have d3 : decide (63 < t) = false := decide_eq_false h2
  clear h1 h2 h1f
  by_cases hb : hasB s.m t = false
  · have HR : Hid (leaveB s t = (s, 0, 9)) := Lib.hid (by unfold leaveB; rw [if_neg ht, if_pos hb])
    rw [hb] at HH
    clear hb HO HMi ht
    go_wp2_with fail
    refine (HH _).out.mono ?_
    rintro _ w2 ⟨rfl, rfl⟩
    go_wp2_with (first | refine wbx_load rfl _ rfl w.heap.size rfl s HZ.out.b0 ?_ | refine wbx_store rfl _ _ rfl (w.heap.size + 1) bxZ _ rfl rfl HZ.out.b1 ?_)
    exact ret_leave rfl rfl rfl rfl (HZ.out.store _) ⟨by rw [HR.out], (HZ.out.store _).below⟩
  have hb' : hasB s.m t = true := by simpa using hb
  rw [hb'] at HH
  by_cases hz : missB (outB s t) = 0
  · have HR : Hid (leaveB s t = (⟨(outB s t).m, 0⟩, (outB s t).a, 0)) := Lib.hid (by unfold leaveB; rw [if_neg ht, if_neg hb, if_pos hz])
    rw [hz, show ((0 : Nat) : Int) = 0 from rfl] at HMi
    clear hz hb hb' ht
    generalize outB s t = x at *
    go_wp2_with fail
    refine (HH _).out.mono ?_
    rintro _ w2 ⟨rfl, rfl⟩
    go_wp2_with (first | refine wbx_load rfl _ rfl w.heap.size rfl s HZ.out.b0 ?_ | refine wbx_store rfl _ _ rfl (w.heap.size + 1) bxZ _ rfl rfl HZ.out.b1 ?_)
    refine (HO _).out.mono ?_
    rintro _ w3 ⟨rfl, hb3⟩
    have HX := Lib.hid (lz_more (HZ.out.next hb3) x)
    clear hb3 HO x0 x1
    go_upto_region 6 with (first | refine wbx_alloc rfl rfl ?_ | refine wbx_store rfl _ _ rfl w3.heap.size bxZ x rfl rfl (heap_alloc_new w3 (bxO bxZ)) ?_)
    try simp only [Act.put, List.setIfInBounds_toArray, List.set_cons_zero, List.set_cons_succ]
    generalize (w3.alloc (bxO bxZ)).setRow w3.heap.size (bxC x).toArray = W4 at *
    generalize w3.heap.size = gx at *
    have HX4 : Hid (Xz w s bxZ gx x W4) := Lib.hid ⟨HX.out.1, HX.out.2.1, HX.out.2.2⟩
    clear HX HZ
    go_wp2_with (first | refine wbx_load rfl _ rfl gx rfl x HX4.out.bx ?_)
    refine (HMi _).out.mono ?_
    rintro _ w5 ⟨rfl, hb5⟩
    have HX5 := Lib.hid (HX4.out.next hb5)
    clear hb5 HX4 HMi
    go_upto_region 7 with fail
    clear HH
    refine wp_hold_act (fun a0 HA0 => ?_)
    have z0 : a0.tmps.size = 33 := by rw [HA0.out]; rfl
    have dd0 : a0.defers = [] := by rw [HA0.out]
    have f0_4 : a0.eval (.tmp 4) = .pointer (some ⟨w.heap.size + 1, 0, none⟩) := by rw [HA0.out]; rfl
    have f0_7 : a0.eval (.tmp 7) = .pointer (some ⟨gx, 0, none⟩) := by rw [HA0.out]; rfl
    clear HA0
    refine wp_region_held_drew (S := fun w' => ∃ q, Xz w s q gx x w') (by kernel_rfl) (⟨_, HX5.out.drew⟩) (fun hS => ?_)
    refine wpAnyH_take (i := 0) (v := .pointer (some ⟨gx, 0, none⟩)) rfl (by kernel_rfl) (by kernel_rfl) (by kernel_rfl) (fun _ _ _ h => h) (yields_bfld rfl (.tmp 7) 0 (by omega) rfl _ f0_7) hS ?_
    obtain ⟨a1, hA1⟩ : ∃ a', a' = a0.put (some 27) (.pointer (some ⟨gx, 0, none⟩)) := ⟨_, rfl⟩
    change wpAnyH _ _ _ _ _ _ _ (a0.put (some 27) (.pointer (some ⟨gx, 0, none⟩))) _
    rw [← hA1]
    have f1_27 : a1.eval (.tmp 27) = .pointer (some ⟨gx, 0, none⟩) := by rw [hA1]; exact Act.eval_put_same _ _ _ (by omega)
    have f1_4 : a1.eval (.tmp 4) = .pointer (some ⟨w.heap.size + 1, 0, none⟩) := by rw [hA1]; exact (Act.eval_put_ne _ _ _ _ (by decide)).trans f0_4
    have f1_7 : a1.eval (.tmp 7) = .pointer (some ⟨gx, 0, none⟩) := by rw [hA1]; exact (Act.eval_put_ne _ _ _ _ (by decide)).trans f0_7
    have z1 : a1.tmps.size = 33 := by rw [hA1, Act.size_put]; exact z0
    have dd1 : a1.defers = [] := by rw [hA1, Act.defers_put']; exact dd0
    clear hA1 z0 dd0 f0_4 f0_7
    refine wpAnyH_take (i := 1) (v := .int .u64 (x.m : Int)) rfl (by kernel_rfl) (by kernel_rfl) (by kernel_rfl) (fun _ _ _ h => h) (yields_u64 rfl (.tmp 27) rfl _ f1_27 _ (fun _ h => (bx_cells h.choose_spec.bx).1)) hS ?_
    obtain ⟨a2, hA2⟩ : ∃ a', a' = a1.put (some 28) (.int .u64 (x.m : Int)) := ⟨_, rfl⟩
    change wpAnyH _ _ _ _ _ _ _ (a1.put (some 28) (.int .u64 (x.m : Int))) _
    rw [← hA2]
    have f2_28 : a2.eval (.tmp 28) = .int .u64 (x.m : Int) := by rw [hA2]; exact Act.eval_put_same _ _ _ (by omega)
    have f2_4 : a2.eval (.tmp 4) = .pointer (some ⟨w.heap.size + 1, 0, none⟩) := by rw [hA2]; exact (Act.eval_put_ne _ _ _ _ (by decide)).trans f1_4
    have f2_7 : a2.eval (.tmp 7) = .pointer (some ⟨gx, 0, none⟩) := by rw [hA2]; exact (Act.eval_put_ne _ _ _ _ (by decide)).trans f1_7
    have z2 : a2.tmps.size = 33 := by rw [hA2, Act.size_put]; exact z1
    have dd2 : a2.defers = [] := by rw [hA2, Act.defers_put']; exact dd1
    clear hA2 z1 dd1 f1_27 f1_4 f1_7
    refine wpAnyH_take (i := 2) (v := bxV ⟨x.m, 0⟩) rfl (by kernel_rfl) (by kernel_rfl) (by kernel_rfl) (fun _ _ _ h => h) (yields_bbuild1 rfl (.tmp 28) rfl x.m f2_28) hS ?_
    obtain ⟨a3, hA3⟩ : ∃ a', a' = a2.put (some 29) (bxV ⟨x.m, 0⟩) := ⟨_, rfl⟩
    change wpAnyH _ _ _ _ _ _ _ (a2.put (some 29) (bxV ⟨x.m, 0⟩)) _
    rw [← hA3]
    have f3_29 : a3.eval (.tmp 29) = bxV ⟨x.m, 0⟩ := by rw [hA3]; exact Act.eval_put_same _ _ _ (by omega)
    have f3_4 : a3.eval (.tmp 4) = .pointer (some ⟨w.heap.size + 1, 0, none⟩) := by rw [hA3]; exact (Act.eval_put_ne _ _ _ _ (by decide)).trans f2_4
    have f3_7 : a3.eval (.tmp 7) = .pointer (some ⟨gx, 0, none⟩) := by rw [hA3]; exact (Act.eval_put_ne _ _ _ _ (by decide)).trans f2_7
    have z3 : a3.tmps.size = 33 := by rw [hA3, Act.size_put]; exact z2
    have dd3 : a3.defers = [] := by rw [hA3, Act.defers_put']; exact dd2
    clear hA3 z2 dd2 f2_28 f2_4 f2_7
    refine wpAnyH_take (i := 3) (v := .pointer (some ⟨gx, 1, none⟩)) rfl (by kernel_rfl) (by kernel_rfl) (by kernel_rfl) (fun _ _ _ h => h) (yields_bfld rfl (.tmp 7) 1 (by omega) rfl _ f3_7) hS ?_
    obtain ⟨a4, hA4⟩ : ∃ a', a' = a3.put (some 30) (.pointer (some ⟨gx, 1, none⟩)) := ⟨_, rfl⟩
    change wpAnyH _ _ _ _ _ _ _ (a3.put (some 30) (.pointer (some ⟨gx, 1, none⟩))) _
    rw [← hA4]
    have f4_30 : a4.eval (.tmp 30) = .pointer (some ⟨gx, 1, none⟩) := by rw [hA4]; exact Act.eval_put_same _ _ _ (by omega)
    have f4_29 : a4.eval (.tmp 29) = bxV ⟨x.m, 0⟩ := by rw [hA4]; exact (Act.eval_put_ne _ _ _ _ (by decide)).trans f3_29
    have f4_4 : a4.eval (.tmp 4) = .pointer (some ⟨w.heap.size + 1, 0, none⟩) := by rw [hA4]; exact (Act.eval_put_ne _ _ _ _ (by decide)).trans f3_4
    have z4 : a4.tmps.size = 33 := by rw [hA4, Act.size_put]; exact z3
    have dd4 : a4.defers = [] := by rw [hA4, Act.defers_put']; exact dd3
    clear hA4 z3 dd3 f3_29 f3_4 f3_7
    refine wpAnyH_take (i := 4) (v := .int .u64 (x.a : Int)) rfl (by kernel_rfl) (by kernel_rfl) (by kernel_rfl) (fun _ _ _ h => h) (yields_u64 rfl (.tmp 30) rfl _ f4_30 _ (fun _ h => (bx_cells h.choose_spec.bx).2)) hS ?_
    obtain ⟨a5, hA5⟩ : ∃ a', a' = a4.put (some 31) (.int .u64 (x.a : Int)) := ⟨_, rfl⟩
    change wpAnyH _ _ _ _ _ _ _ (a4.put (some 31) (.int .u64 (x.a : Int))) _
    rw [← hA5]
    have f5_31 : a5.eval (.tmp 31) = .int .u64 (x.a : Int) := by rw [hA5]; exact Act.eval_put_same _ _ _ (by omega)
    have f5_29 : a5.eval (.tmp 29) = bxV ⟨x.m, 0⟩ := by rw [hA5]; exact (Act.eval_put_ne _ _ _ _ (by decide)).trans f4_29
    have f5_4 : a5.eval (.tmp 4) = .pointer (some ⟨w.heap.size + 1, 0, none⟩) := by rw [hA5]; exact (Act.eval_put_ne _ _ _ _ (by decide)).trans f4_4
    have z5 : a5.tmps.size = 33 := by rw [hA5, Act.size_put]; exact z4
    have dd5 : a5.defers = [] := by rw [hA5, Act.defers_put']; exact dd4
    clear hA5 z4 dd4 f4_30 f4_29 f4_4
    refine wpAnyH_ready (rs := [5]) (by kernel_rfl) (by simp) (AllReadyH.cons (by simp only [List.getElem?_toArray, List.getElem?_cons_succ, List.getElem?_cons_zero]; rfl) (fun K hK => ?_) AllReadyH.nil)
    refine sbx_store (by rfl) (.tmp 4) (.tmp 29) (by rfl) (w.heap.size + 1) bxZ ⟨x.m, 0⟩ f5_4 f5_29 HX5.out.drew.lz.b1 ?_
    refine hK.out _ _ (⟨_, HX5.out.drew.store _⟩) (fun hS => ?_)
    change wpAnyH _ _ _ _ _ _ _ a5 _
    refine wpAnyH_take (i := 6) (v := .int .u64 (x.a : Int)) rfl (by kernel_rfl) (by kernel_rfl) (by kernel_rfl) (fun _ _ _ h => h) (yields_assign rfl (.tmp 31) rfl f5_31) hS ?_
    obtain ⟨a6, hA6⟩ : ∃ a', a' = a5.put (some 5) (.int .u64 (x.a : Int)) := ⟨_, rfl⟩
    change wpAnyH _ _ _ _ _ _ _ (a5.put (some 5) (.int .u64 (x.a : Int))) _
    rw [← hA6]
    have f6_5 : a6.eval (.tmp 5) = .int .u64 (x.a : Int) := by rw [hA6]; exact Act.eval_put_same _ _ _ (by omega)
    have f6_4 : a6.eval (.tmp 4) = .pointer (some ⟨w.heap.size + 1, 0, none⟩) := by rw [hA6]; exact (Act.eval_put_ne _ _ _ _ (by decide)).trans f5_4
    have z6 : a6.tmps.size = 33 := by rw [hA6, Act.size_put]; exact z5
    have dd6 : a6.defers = [] := by rw [hA6, Act.defers_put']; exact dd5
    clear hA6 z5 dd5 f5_31 f5_29 f5_4
    refine wpAnyH_take (i := 7) (v := .int .i64 0) rfl (by kernel_rfl) (by kernel_rfl) (by kernel_rfl) (fun _ _ _ h => h) (yields_assign rfl _ rfl rfl) hS ?_
    obtain ⟨a7, hA7⟩ : ∃ a', a' = a6.put (some 6) (.int .i64 0) := ⟨_, rfl⟩
    change wpAnyH _ _ _ _ _ _ _ (a6.put (some 6) (.int .i64 0)) _
    rw [← hA7]
    have f7_6 : a7.eval (.tmp 6) = .int .i64 0 := by rw [hA7]; exact Act.eval_put_same _ _ _ (by omega)
    have f7_5 : a7.eval (.tmp 5) = .int .u64 (x.a : Int) := by rw [hA7]; exact (Act.eval_put_ne _ _ _ _ (by decide)).trans f6_5
    have f7_4 : a7.eval (.tmp 4) = .pointer (some ⟨w.heap.size + 1, 0, none⟩) := by rw [hA7]; exact (Act.eval_put_ne _ _ _ _ (by decide)).trans f6_4
    have z7 : a7.tmps.size = 33 := by rw [hA7, Act.size_put]; exact z6
    have dd7 : a7.defers = [] := by rw [hA7, Act.defers_put']; exact dd6
    clear hA7 z6 dd6 f6_5 f6_4
    refine wpAnyH_done (by kernel_rfl) ?_ _
    go_wp2_with fail
    exact ret_leave (by rw [← Array.getD_eq_getD_getElem?]; exact f7_4) (by rw [← Array.getD_eq_getD_getElem?]; exact f7_5) (by rw [← Array.getD_eq_getD_getElem?]; exact f7_6) dd7 (HX5.out.drew.store ⟨x.m, 0⟩).lz ⟨by rw [HR.out], (HX5.out.drew.store ⟨x.m, 0⟩).lz.below⟩
  have HR : Hid (leaveB s t = (outB s t, 0, 0)) := Lib.hid (by unfold leaveB; rw [if_neg ht, if_neg hb, if_neg hz])
  have e0 : ((missB (outB s t) : Nat) : Int) ≠ 0 := by omega
  have e1 : (((missB (outB s t) : Nat) : Int) == 0) = false := by rw [beq_eq_false_iff_ne]; exact e0
  clear e0
  clear hz hb hb' ht
  generalize missB (outB s t) = z at *
  generalize outB s t = x at *
  go_wp2_with fail
  refine (HH _).out.mono ?_
  rintro _ w2 ⟨rfl, rfl⟩
  go_wp2_with (first | refine wbx_load rfl _ rfl w.heap.size rfl s HZ.out.b0 ?_ | refine wbx_store rfl _ _ rfl (w.heap.size + 1) bxZ _ rfl rfl HZ.out.b1 ?_)
  refine (HO _).out.mono ?_
  rintro _ w3 ⟨rfl, hb3⟩
  have HX := Lib.hid (lz_more (HZ.out.next hb3) x)
  clear hb3 HO x0 x1
  go_upto_region 6 with (first | refine wbx_alloc rfl rfl ?_ | refine wbx_store rfl _ _ rfl w3.heap.size bxZ x rfl rfl (heap_alloc_new w3 (bxO bxZ)) ?_)
  try simp only [Act.put, List.setIfInBounds_toArray, List.set_cons_zero, List.set_cons_succ]
  generalize (w3.alloc (bxO bxZ)).setRow w3.heap.size (bxC x).toArray = W4 at *
  generalize w3.heap.size = gx at *
  have HX4 : Hid (Xz w s bxZ gx x W4) := Lib.hid ⟨HX.out.1, HX.out.2.1, HX.out.2.2⟩
  clear HX HZ
  go_wp2_with (first | refine wbx_load rfl _ rfl gx rfl x HX4.out.bx ?_)
  refine (HMi _).out.mono ?_
  rintro _ w5 ⟨rfl, hb5⟩
  have HX5 := Lib.hid (HX4.out.next hb5)
  clear hb5 HX4 HMi
  go_wp2_with (first | refine wbx_load rfl _ rfl gx rfl x HX5.out.bx ?_ | refine wbx_store rfl _ _ rfl (w.heap.size + 1) bxZ x rfl rfl HX5.out.lz.b1 ?_)
  exact ret_leave rfl rfl rfl rfl (HX5.out.store x).lz ⟨by rw [HR.out], (HX5.out.store x).lz.below⟩
theorem ret_break {W w : World} {act : Act} {s m : Bx} {u : Nat} {y : Bool} {R : Ending → World → Prop} (h4 : act.tmps[4]?.getD undef = .pointer (some ⟨w.heap.size + 1, 0, none⟩)) (h5 : act.tmps[5]?.getD undef = .int .u64 (u : Int)) (h6 : act.tmps[6]?.getD undef = .bool y) (hd : act.defers = []) (hE : Lz w s m W) (hR : R (.returned (.tuple #[bxV m, .int .u64 (u : Int), .bool y])) W) :
    bodyPost Try.prog Try.f23 R .ret act W := by
  have hL := run_loadVar_mid (P := Try.prog) W (w.heap.size + 1) 0 29 (bxC m) _ (bx_range hE.b1) Try.underlying29 rfl (bx_size rfl)
  refine bodyPost_ret (v := .tuple #[bxV m, .int .u64 (u : Int), .bool y]) ?_ hd hR
  simp [results, Try.results23, asAddr, h4, h5, h6, hL, Sem.run_bind, Sem.run_pure, Result.andThen, bxV]
set_option maxRecDepth 100000 in
set_option maxHeartbeats 4000000 in
theorem refBreak_any (s : Bx) (t : Int) (w : World) (hm : Is64 s.m) (ha : Is64 s.a) : Calls Try.prog 23 #[bxV s, .int .i64 t] w fun e w' => e = .returned (.tuple #[bxV (breakB s t).1, .int .u64 ((breakB s t).2.1 : Int), .bool (breakB s t).2.2]) ∧ Below w.heap.size w w' := by
  have HH := fun W => Lib.hid (refHas_any s.m hm t W)
  have HO := fun W => Lib.hid (refOut_any s t W hm ha)
  clear hm ha
  have HZ := Lib.hid (lz_new w s)
  go_enter Try.func23, Try.ntmps23
  go_upto_region 1 with (first | refine wbx_box rfl _ rfl s rfl ?_ | refine wbx_alloc rfl rfl ?_)
  try simp only [Act.put, List.setIfInBounds_toArray, List.set_cons_zero, List.set_cons_succ, World.size_alloc]
  generalize (w.alloc (bxO s)).alloc (bxO bxZ) = W1 at *
  obtain ⟨x0, x1⟩ := bx_cells HZ.out.b0
  by_cases hb : hasB s.m t = false
  · have HR : Hid (breakB s t = (s, 0, false)) := Lib.hid (by unfold breakB; rw [if_pos hb])
    rw [hb] at HH
    clear hb HO
    go_wp2_with fail
    refine (HH _).out.mono ?_
    rintro _ w2 ⟨rfl, rfl⟩
    go_wp2_with (first | refine wbx_load rfl _ rfl w.heap.size rfl s HZ.out.b0 ?_ | refine wbx_store rfl _ _ rfl (w.heap.size + 1) bxZ _ rfl rfl HZ.out.b1 ?_)
    exact ret_break rfl rfl rfl rfl (HZ.out.store _) ⟨by rw [HR.out], (HZ.out.store _).below⟩
  have hb' : hasB s.m t = true := by simpa using hb
  rw [hb'] at HH
  have HR : Hid (breakB s t = (⟨(outB s t).m, 0⟩, (outB s t).a, true)) := Lib.hid (by unfold breakB; rw [if_neg hb])
  clear hb hb'
  generalize outB s t = x at *
  go_wp2_with fail
  refine (HH _).out.mono ?_
  rintro _ w2 ⟨rfl, rfl⟩
  go_wp2_with (first | refine wbx_load rfl _ rfl w.heap.size rfl s HZ.out.b0 ?_ | refine wbx_store rfl _ _ rfl (w.heap.size + 1) bxZ _ rfl rfl HZ.out.b1 ?_)
  refine (HO _).out.mono ?_
  rintro _ w3 ⟨rfl, hb3⟩
  have HX := Lib.hid (lz_more (HZ.out.next hb3) x)
  clear hb3 HO x0 x1
  go_upto_region 4 with (first | refine wbx_alloc rfl rfl ?_ | refine wbx_store rfl _ _ rfl w3.heap.size bxZ x rfl rfl (heap_alloc_new w3 (bxO bxZ)) ?_)
  try simp only [Act.put, List.setIfInBounds_toArray, List.set_cons_zero, List.set_cons_succ]
  generalize (w3.alloc (bxO bxZ)).setRow w3.heap.size (bxC x).toArray = W4 at *
  generalize w3.heap.size = gx at *
  have HX4 : Hid (Xz w s bxZ gx x W4) := Lib.hid ⟨HX.out.1, HX.out.2.1, HX.out.2.2⟩
  clear HX HZ
  clear HH
  refine wp_hold_act (fun a0 HA0 => ?_)
  have z0 : a0.tmps.size = 22 := by rw [HA0.out]; rfl
  have dd0 : a0.defers = [] := by rw [HA0.out]
  have f0_4 : a0.eval (.tmp 4) = .pointer (some ⟨w.heap.size + 1, 0, none⟩) := by rw [HA0.out]; rfl
  have f0_7 : a0.eval (.tmp 7) = .pointer (some ⟨gx, 0, none⟩) := by rw [HA0.out]; rfl
  clear HA0
  refine wp_region_held_drew (S := fun w' => ∃ q, Xz w s q gx x w') (by kernel_rfl) (⟨_, HX4.out.drew⟩) (fun hS => ?_)
  refine wpAnyH_take (i := 0) (v := .pointer (some ⟨gx, 0, none⟩)) rfl (by kernel_rfl) (by kernel_rfl) (by kernel_rfl) (fun _ _ _ h => h) (yields_bfld rfl (.tmp 7) 0 (by omega) rfl _ f0_7) hS ?_
  obtain ⟨a1, hA1⟩ : ∃ a', a' = a0.put (some 17) (.pointer (some ⟨gx, 0, none⟩)) := ⟨_, rfl⟩
  change wpAnyH _ _ _ _ _ _ _ (a0.put (some 17) (.pointer (some ⟨gx, 0, none⟩))) _
  rw [← hA1]
  have f1_17 : a1.eval (.tmp 17) = .pointer (some ⟨gx, 0, none⟩) := by rw [hA1]; exact Act.eval_put_same _ _ _ (by omega)
  have f1_4 : a1.eval (.tmp 4) = .pointer (some ⟨w.heap.size + 1, 0, none⟩) := by rw [hA1]; exact (Act.eval_put_ne _ _ _ _ (by decide)).trans f0_4
  have f1_7 : a1.eval (.tmp 7) = .pointer (some ⟨gx, 0, none⟩) := by rw [hA1]; exact (Act.eval_put_ne _ _ _ _ (by decide)).trans f0_7
  have z1 : a1.tmps.size = 22 := by rw [hA1, Act.size_put]; exact z0
  have dd1 : a1.defers = [] := by rw [hA1, Act.defers_put']; exact dd0
  clear hA1 z0 dd0 f0_4 f0_7
  refine wpAnyH_take (i := 1) (v := .int .u64 (x.m : Int)) rfl (by kernel_rfl) (by kernel_rfl) (by kernel_rfl) (fun _ _ _ h => h) (yields_u64 rfl (.tmp 17) rfl _ f1_17 _ (fun _ h => (bx_cells h.choose_spec.bx).1)) hS ?_
  obtain ⟨a2, hA2⟩ : ∃ a', a' = a1.put (some 18) (.int .u64 (x.m : Int)) := ⟨_, rfl⟩
  change wpAnyH _ _ _ _ _ _ _ (a1.put (some 18) (.int .u64 (x.m : Int))) _
  rw [← hA2]
  have f2_18 : a2.eval (.tmp 18) = .int .u64 (x.m : Int) := by rw [hA2]; exact Act.eval_put_same _ _ _ (by omega)
  have f2_4 : a2.eval (.tmp 4) = .pointer (some ⟨w.heap.size + 1, 0, none⟩) := by rw [hA2]; exact (Act.eval_put_ne _ _ _ _ (by decide)).trans f1_4
  have f2_7 : a2.eval (.tmp 7) = .pointer (some ⟨gx, 0, none⟩) := by rw [hA2]; exact (Act.eval_put_ne _ _ _ _ (by decide)).trans f1_7
  have z2 : a2.tmps.size = 22 := by rw [hA2, Act.size_put]; exact z1
  have dd2 : a2.defers = [] := by rw [hA2, Act.defers_put']; exact dd1
  clear hA2 z1 dd1 f1_17 f1_4 f1_7
  refine wpAnyH_take (i := 2) (v := bxV ⟨x.m, 0⟩) rfl (by kernel_rfl) (by kernel_rfl) (by kernel_rfl) (fun _ _ _ h => h) (yields_bbuild1 rfl (.tmp 18) rfl x.m f2_18) hS ?_
  obtain ⟨a3, hA3⟩ : ∃ a', a' = a2.put (some 19) (bxV ⟨x.m, 0⟩) := ⟨_, rfl⟩
  change wpAnyH _ _ _ _ _ _ _ (a2.put (some 19) (bxV ⟨x.m, 0⟩)) _
  rw [← hA3]
  have f3_19 : a3.eval (.tmp 19) = bxV ⟨x.m, 0⟩ := by rw [hA3]; exact Act.eval_put_same _ _ _ (by omega)
  have f3_4 : a3.eval (.tmp 4) = .pointer (some ⟨w.heap.size + 1, 0, none⟩) := by rw [hA3]; exact (Act.eval_put_ne _ _ _ _ (by decide)).trans f2_4
  have f3_7 : a3.eval (.tmp 7) = .pointer (some ⟨gx, 0, none⟩) := by rw [hA3]; exact (Act.eval_put_ne _ _ _ _ (by decide)).trans f2_7
  have z3 : a3.tmps.size = 22 := by rw [hA3, Act.size_put]; exact z2
  have dd3 : a3.defers = [] := by rw [hA3, Act.defers_put']; exact dd2
  clear hA3 z2 dd2 f2_18 f2_4 f2_7
  refine wpAnyH_take (i := 3) (v := .pointer (some ⟨gx, 1, none⟩)) rfl (by kernel_rfl) (by kernel_rfl) (by kernel_rfl) (fun _ _ _ h => h) (yields_bfld rfl (.tmp 7) 1 (by omega) rfl _ f3_7) hS ?_
  obtain ⟨a4, hA4⟩ : ∃ a', a' = a3.put (some 20) (.pointer (some ⟨gx, 1, none⟩)) := ⟨_, rfl⟩
  change wpAnyH _ _ _ _ _ _ _ (a3.put (some 20) (.pointer (some ⟨gx, 1, none⟩))) _
  rw [← hA4]
  have f4_20 : a4.eval (.tmp 20) = .pointer (some ⟨gx, 1, none⟩) := by rw [hA4]; exact Act.eval_put_same _ _ _ (by omega)
  have f4_19 : a4.eval (.tmp 19) = bxV ⟨x.m, 0⟩ := by rw [hA4]; exact (Act.eval_put_ne _ _ _ _ (by decide)).trans f3_19
  have f4_4 : a4.eval (.tmp 4) = .pointer (some ⟨w.heap.size + 1, 0, none⟩) := by rw [hA4]; exact (Act.eval_put_ne _ _ _ _ (by decide)).trans f3_4
  have z4 : a4.tmps.size = 22 := by rw [hA4, Act.size_put]; exact z3
  have dd4 : a4.defers = [] := by rw [hA4, Act.defers_put']; exact dd3
  clear hA4 z3 dd3 f3_19 f3_4 f3_7
  refine wpAnyH_take (i := 4) (v := .int .u64 (x.a : Int)) rfl (by kernel_rfl) (by kernel_rfl) (by kernel_rfl) (fun _ _ _ h => h) (yields_u64 rfl (.tmp 20) rfl _ f4_20 _ (fun _ h => (bx_cells h.choose_spec.bx).2)) hS ?_
  obtain ⟨a5, hA5⟩ : ∃ a', a' = a4.put (some 21) (.int .u64 (x.a : Int)) := ⟨_, rfl⟩
  change wpAnyH _ _ _ _ _ _ _ (a4.put (some 21) (.int .u64 (x.a : Int))) _
  rw [← hA5]
  have f5_21 : a5.eval (.tmp 21) = .int .u64 (x.a : Int) := by rw [hA5]; exact Act.eval_put_same _ _ _ (by omega)
  have f5_19 : a5.eval (.tmp 19) = bxV ⟨x.m, 0⟩ := by rw [hA5]; exact (Act.eval_put_ne _ _ _ _ (by decide)).trans f4_19
  have f5_4 : a5.eval (.tmp 4) = .pointer (some ⟨w.heap.size + 1, 0, none⟩) := by rw [hA5]; exact (Act.eval_put_ne _ _ _ _ (by decide)).trans f4_4
  have z5 : a5.tmps.size = 22 := by rw [hA5, Act.size_put]; exact z4
  have dd5 : a5.defers = [] := by rw [hA5, Act.defers_put']; exact dd4
  clear hA5 z4 dd4 f4_20 f4_19 f4_4
  refine wpAnyH_ready (rs := [5]) (by kernel_rfl) (by simp) (AllReadyH.cons (by simp only [List.getElem?_toArray, List.getElem?_cons_succ, List.getElem?_cons_zero]; rfl) (fun K hK => ?_) AllReadyH.nil)
  refine sbx_store (by rfl) (.tmp 4) (.tmp 19) (by rfl) (w.heap.size + 1) bxZ ⟨x.m, 0⟩ f5_4 f5_19 HX4.out.drew.lz.b1 ?_
  refine hK.out _ _ (⟨_, HX4.out.drew.store _⟩) (fun hS => ?_)
  change wpAnyH _ _ _ _ _ _ _ a5 _
  refine wpAnyH_take (i := 6) (v := .int .u64 (x.a : Int)) rfl (by kernel_rfl) (by kernel_rfl) (by kernel_rfl) (fun _ _ _ h => h) (yields_assign rfl (.tmp 21) rfl f5_21) hS ?_
  obtain ⟨a6, hA6⟩ : ∃ a', a' = a5.put (some 5) (.int .u64 (x.a : Int)) := ⟨_, rfl⟩
  change wpAnyH _ _ _ _ _ _ _ (a5.put (some 5) (.int .u64 (x.a : Int))) _
  rw [← hA6]
  have f6_5 : a6.eval (.tmp 5) = .int .u64 (x.a : Int) := by rw [hA6]; exact Act.eval_put_same _ _ _ (by omega)
  have f6_4 : a6.eval (.tmp 4) = .pointer (some ⟨w.heap.size + 1, 0, none⟩) := by rw [hA6]; exact (Act.eval_put_ne _ _ _ _ (by decide)).trans f5_4
  have z6 : a6.tmps.size = 22 := by rw [hA6, Act.size_put]; exact z5
  have dd6 : a6.defers = [] := by rw [hA6, Act.defers_put']; exact dd5
  clear hA6 z5 dd5 f5_21 f5_19 f5_4
  refine wpAnyH_take (i := 7) (v := .bool true) rfl (by kernel_rfl) (by kernel_rfl) (by kernel_rfl) (fun _ _ _ h => h) (yields_assign rfl _ rfl rfl) hS ?_
  obtain ⟨a7, hA7⟩ : ∃ a', a' = a6.put (some 6) (.bool true) := ⟨_, rfl⟩
  change wpAnyH _ _ _ _ _ _ _ (a6.put (some 6) (.bool true)) _
  rw [← hA7]
  have f7_6 : a7.eval (.tmp 6) = .bool true := by rw [hA7]; exact Act.eval_put_same _ _ _ (by omega)
  have f7_5 : a7.eval (.tmp 5) = .int .u64 (x.a : Int) := by rw [hA7]; exact (Act.eval_put_ne _ _ _ _ (by decide)).trans f6_5
  have f7_4 : a7.eval (.tmp 4) = .pointer (some ⟨w.heap.size + 1, 0, none⟩) := by rw [hA7]; exact (Act.eval_put_ne _ _ _ _ (by decide)).trans f6_4
  have z7 : a7.tmps.size = 22 := by rw [hA7, Act.size_put]; exact z6
  have dd7 : a7.defers = [] := by rw [hA7, Act.defers_put']; exact dd6
  clear hA7 z6 dd6 f6_5 f6_4
  refine wpAnyH_done (by kernel_rfl) ?_ _
  go_wp2_with fail
  exact ret_break (by rw [← Array.getD_eq_getD_getElem?]; exact f7_4) (by rw [← Array.getD_eq_getD_getElem?]; exact f7_5) (by rw [← Array.getD_eq_getD_getElem?]; exact f7_6) dd7 (HX4.out.drew.store ⟨x.m, 0⟩).lz ⟨by rw [HR.out], (HX4.out.drew.store ⟨x.m, 0⟩).lz.below⟩
end Go.Proofs.Ytiekbbknmneikaa.bar
