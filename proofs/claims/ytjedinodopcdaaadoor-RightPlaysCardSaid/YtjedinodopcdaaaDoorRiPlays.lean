/-
  Any calls on rights, and on the document's beside them: for every list of calls that came in. No condition. Printed by tools/mkriplays.py.
-/
import Derived.Test.YtjedinodopcdaaaDoorRiTwo
import Derived.LoopTactic
import Derived.Deep.DeepCutAuto
namespace Go.Proofs.YtjedinodopcdaaaDoor.rig
open Go.RowKit Go.ChangeShapes
open Go.Proofs.YtjedinodopcdaaaDoor.obj
open Go.Proofs.YtjedinodopcdaaaDoor.bits (Is64 hasB minus)
open Go.Proofs.YtjedinodopcdaaaDoor.bits.one (Okt okt_mono)
set_option linter.unusedVariables false
set_option linter.unusedSimpArgs false

set_option maxRecDepth 100000 in
set_option maxHeartbeats 8000000 in
theorem plays_walk (A : Option Addr) (cap : Nat) (ops : List (Int × Int × Int × Nat)) (o : Int) (w : World) (ho : OpsAt w A ops) (hi : ∀ j, j < ops.length → I64 (ops.getD j (0, 0, 0, 0)).1 ∧ I64 (ops.getD j (0, 0, 0, 0)).2.1 ∧ I64 (ops.getD j (0, 0, 0, 0)).2.2.1 ∧ U64 (ops.getD j (0, 0, 0, 0)).2.2.2) (hl : ops.length ≤ 9223372036854775807) (hoo : I64 o) (hOk : Okt w) :
    Calls Tryd.prog 3 #[.slice A ops.length cap, .int .i64 o] w fun e w' => e = .returned (.bool true) ∧ Below w.heap.size w w' := by
  have HO := Lib.hid ho
  have HI := Lib.hid hi
  have HOi := Lib.hid hoo
  have HOk := Lib.hid hOk
  have HL : ∀ W, Below w.heap.size w W → Hid (Calls Tryd.prog 12 #[] W fun e w' => e = .returned (.bool true) ∧ Below W.heap.size W w') := fun W h => Lib.hid (lives_any W (okt_mono _ _ HOk.out h))
  have CN := Lib.hid (new_any w)
  have HC0 := Lib.hid (cz_new w)
  have z1 : (w.alloc (riO none)).heap.size = w.heap.size + 1 := World.size_alloc _ _
  have hb1 : ((w.alloc (riO none)).alloc (rO zerosR)).heap[w.heap.size + 1]? = some (rO zerosR) := by rw [← z1]; exact heap_alloc_new _ _
  clear ho hi hoo hOk
  go_enter Tryd.func3, Tryd.ntmps3
  go_upto_region 1 with fail
  go_cut [5, 6] (fun x y wx => x = .pointer (some ⟨w.heap.size, 0, none⟩) ∧ y = .pointer (some ⟨w.heap.size + 1, 0, none⟩) ∧ Hid (Cz w w.heap.size (w.heap.size + 1) zerosR zerosR wx))
  case first =>
    clear HL HO HI HOk
    have hbt := r_built
    go_wp2_with fail
    all_goals
      refine CN.out.mono ?_
      rintro _ w1 ⟨rfl, rfl⟩
      simp only [Act.put, List.setIfInBounds_toArray, List.set_cons_zero, List.set_cons_succ]
      apply_assumption
      try refine wr_build rfl rfl ?_
      go_wp2_with (first | refine wr_build rfl rfl ?_ | refine wr_alloc rfl rfl ?_ | refine wr_store rfl _ _ rfl (w.heap.size + 1) zerosR zerosR (by first | rfl | simp [z1]) rfl hb1 ?_)
      go_meet
      try rw [z1]
      exact ⟨rfl, rfl, HC0⟩
  case rest =>
    obtain ⟨rfl, rfl, HC⟩ := hcut
    clear CN HC0 z1 hb1
    generalize w.heap.size + 1 = gx at *
    go_wp2_with fail
    go_loopw [7] (fun i wr => ∃ (j : Nat) (x : List Nat), i = .int .i64 (j : Int) ∧ j ≤ ops.length ∧ j ≤ 50 ∧ Hid (Cz w w.heap.size gx x x wr)) (fun i _ => ops.length - (intOf i).toNat)
    case atStart => exact ⟨0, zerosR, rfl, Nat.zero_le _, Nat.zero_le _, HC⟩
    case round =>
      clear HC
      obtain ⟨j, x, rfl, hj, hj50, HP⟩ := hrel
      by_cases hlt : j < ops.length ∧ j < 50
      · obtain ⟨hlt, h50⟩ := hlt
        have d1 : decide (j < ops.length) = true := by simp; omega
        have d2 : decide ((j : Int) < 50) = true := by simp; omega
        obtain ⟨b, off, rfl, hb, c0, c1, c2, c3⟩ := HO.out j hlt
        obtain ⟨i0, i1, i2, i3⟩ := HI.out j hlt
        generalize ops.getD j (0, 0, 0, 0) = o1 at *
        obtain ⟨k, f, t, m⟩ := o1
        dsimp only at c0 c1 c2 c3 i0 i1 i2 i3
        have HCe : Hid (∀ W, Below w.heap.size w W → W.cell? ⟨b, off + j * 4, none⟩ = some (.int .i64 k) ∧ W.cell? ⟨b, off + j * 4 + 1, none⟩ = some (.int .i64 f) ∧ W.cell? ⟨b, off + j * 4 + 2, none⟩ = some (.int .i64 t) ∧ W.cell? ⟨b, off + j * 4 + 3, none⟩ = some (.int .u64 (m : Int))) := Lib.hid (fun W h => ⟨(h.cell (p := ⟨b, off + j * 4, none⟩) hb).trans c0, (h.cell (p := ⟨b, off + j * 4 + 1, none⟩) hb).trans c1, (h.cell (p := ⟨b, off + j * 4 + 2, none⟩) hb).trans c2, (h.cell (p := ⟨b, off + j * 4 + 3, none⟩) hb).trans c3⟩)
        have HIk := Lib.hid (And.intro i1 (And.intro i2 i3))
        have k1 : (0 : Int) ≤ (j : Int) := by omega
        clear c0 c1 c2 c3 i0 i1 i2 i3 hb
        have k2 : (j : Int) < (ops.length : Int) := by omega
        have HJ := Lib.hid (And.intro hlt h50)
        clear hj hj50 hlt h50
        obtain ⟨l2, hl2⟩ : ∃ l2, l2 = doR x k f t m := ⟨_, rfl⟩
        have HDo := Lib.hid (HP.out.hs.c_do k f t m HIk.out.1 HIk.out.2.1 HIk.out.2.2 HOk.out)
        have HRd := fun W => Lib.hid (refDo21_any x k f t m W HP.out.hs.fine HIk.out.2.2)
        rw [← hl2] at HDo HRd
        clear hl2
        unfold opV at HDo
        go_wp2_with (first | refine wop_load rfl _ rfl b (off + j * 4) k f t m rfl (HCe.out _ HP.out.hs.1) ?_)
        refine HDo.out.mono ?_
        rintro _ w2 ⟨rfl, h1, h2⟩
        have HP2 := Lib.hid (HP.out.move h1 h2)
        clear h1 h2 HDo HP
        go_upto_region 8 with fail
        refine wp_hold_act (fun a0 HA0 => ?_)
        have z0 : a0.tmps.size = 57 := by rw [HA0.out]; rfl
        have dd0 : a0.defers = [] := by rw [HA0.out]
        have f0_0 : a0.eval (.tmp 0) = .slice (some ⟨b, off, none⟩) ops.length cap := by rw [HA0.out]; rfl
        have f0_6 : a0.eval (.tmp 6) = .pointer (some ⟨gx, 0, none⟩) := by rw [HA0.out]; rfl
        have f0_7 : a0.eval (.tmp 7) = .int .i64 (j : Int) := by rw [HA0.out]; rfl
        refine wp_region_held_drew (S := fun w' => ∃ q, Cz w w.heap.size gx l2 q w') (by kernel_rfl) (⟨_, HP2.out.drew⟩) (fun hS => ?_)
        refine wpAnyH_take (i := 1) (v := .slice (some ⟨b, off, none⟩) ops.length cap) rfl (by kernel_rfl) (by kernel_rfl) (by kernel_rfl) (fun _ _ _ h => h) (yields_move rfl (.tmp 0) rfl f0_0) hS ?_
        obtain ⟨a1, hA1⟩ : ∃ a', a' = a0.put (some 30) (.slice (some ⟨b, off, none⟩) ops.length cap) := ⟨_, rfl⟩
        change wpAnyH _ _ _ _ _ _ _ (a0.put (some 30) (.slice (some ⟨b, off, none⟩) ops.length cap)) _
        rw [← hA1]
        have f1_30 : a1.eval (.tmp 30) = .slice (some ⟨b, off, none⟩) ops.length cap := by rw [hA1]; exact Act.eval_put_same _ _ _ (by omega)
        have f1_6 : a1.eval (.tmp 6) = .pointer (some ⟨gx, 0, none⟩) := by rw [hA1]; exact (Act.eval_put_ne _ _ _ _ (by decide)).trans f0_6
        have f1_7 : a1.eval (.tmp 7) = .int .i64 (j : Int) := by rw [hA1]; exact (Act.eval_put_ne _ _ _ _ (by decide)).trans f0_7
        have z1 : a1.tmps.size = 57 := by rw [hA1, Act.size_put]; exact z0
        have dd1 : a1.defers = [] := by rw [hA1, Act.defers_put']; exact dd0
        have HA1 := Lib.hid hA1
        clear hA1 z0 dd0 f0_0 f0_6 f0_7
        refine wpAnyH_take (i := 2) (v := .int .i64 (j : Int)) rfl (by kernel_rfl) (by kernel_rfl) (by kernel_rfl) (fun _ _ _ h => h) (yields_move rfl (.tmp 7) rfl f1_7) hS ?_
        obtain ⟨a2, hA2⟩ : ∃ a', a' = a1.put (some 31) (.int .i64 (j : Int)) := ⟨_, rfl⟩
        change wpAnyH _ _ _ _ _ _ _ (a1.put (some 31) (.int .i64 (j : Int))) _
        rw [← hA2]
        have f2_31 : a2.eval (.tmp 31) = .int .i64 (j : Int) := by rw [hA2]; exact Act.eval_put_same _ _ _ (by omega)
        have f2_30 : a2.eval (.tmp 30) = .slice (some ⟨b, off, none⟩) ops.length cap := by rw [hA2]; exact (Act.eval_put_ne _ _ _ _ (by decide)).trans f1_30
        have f2_6 : a2.eval (.tmp 6) = .pointer (some ⟨gx, 0, none⟩) := by rw [hA2]; exact (Act.eval_put_ne _ _ _ _ (by decide)).trans f1_6
        have z2 : a2.tmps.size = 57 := by rw [hA2, Act.size_put]; exact z1
        have dd2 : a2.defers = [] := by rw [hA2, Act.defers_put']; exact dd1
        have HA2 := Lib.hid hA2
        clear hA2 z1 dd1 f1_30 f1_6 f1_7
        refine wpAnyH_take (i := 3) (v := .pointer (some ⟨b, off + j * 4, none⟩)) rfl (by kernel_rfl) (by kernel_rfl) (by kernel_rfl) (fun _ _ _ h => h) (yields_idx rfl (.tmp 30) (.tmp 31) rfl _ _ _ _ j f2_30 f2_31 k1 k2) hS ?_
        obtain ⟨a3, hA3⟩ : ∃ a', a' = a2.put (some 32) (.pointer (some ⟨b, off + j * 4, none⟩)) := ⟨_, rfl⟩
        change wpAnyH _ _ _ _ _ _ _ (a2.put (some 32) (.pointer (some ⟨b, off + j * 4, none⟩))) _
        rw [← hA3]
        have f3_32 : a3.eval (.tmp 32) = .pointer (some ⟨b, off + j * 4, none⟩) := by rw [hA3]; exact Act.eval_put_same _ _ _ (by omega)
        have f3_6 : a3.eval (.tmp 6) = .pointer (some ⟨gx, 0, none⟩) := by rw [hA3]; exact (Act.eval_put_ne _ _ _ _ (by decide)).trans f2_6
        have z3 : a3.tmps.size = 57 := by rw [hA3, Act.size_put]; exact z2
        have dd3 : a3.defers = [] := by rw [hA3, Act.defers_put']; exact dd2
        have HA3 := Lib.hid hA3
        clear hA3 z2 dd2 f2_31 f2_30 f2_6
        refine wpAnyH_take (i := 4) (v := .agg #[.int .i64 k, .int .i64 f, .int .i64 t, .int .u64 (m : Int)]) rfl (by kernel_rfl) (by kernel_rfl) (by kernel_rfl) (fun _ _ _ h => h) (yields_op rfl (.tmp 32) rfl _ _ f3_32 k f t m (fun _ h => HCe.out _ h.choose_spec.hs.1)) hS ?_
        obtain ⟨a4, hA4⟩ : ∃ a', a' = a3.put (some 33) (.agg #[.int .i64 k, .int .i64 f, .int .i64 t, .int .u64 (m : Int)]) := ⟨_, rfl⟩
        change wpAnyH _ _ _ _ _ _ _ (a3.put (some 33) (.agg #[.int .i64 k, .int .i64 f, .int .i64 t, .int .u64 (m : Int)])) _
        rw [← hA4]
        have f4_33 : a4.eval (.tmp 33) = .agg #[.int .i64 k, .int .i64 f, .int .i64 t, .int .u64 (m : Int)] := by rw [hA4]; exact Act.eval_put_same _ _ _ (by omega)
        have f4_6 : a4.eval (.tmp 6) = .pointer (some ⟨gx, 0, none⟩) := by rw [hA4]; exact (Act.eval_put_ne _ _ _ _ (by decide)).trans f3_6
        have z4 : a4.tmps.size = 57 := by rw [hA4, Act.size_put]; exact z3
        have dd4 : a4.defers = [] := by rw [hA4, Act.defers_put']; exact dd3
        have HA4 := Lib.hid hA4
        clear hA4 z3 dd3 f3_32 f3_6
        refine wpAnyH_ready (rs := [0]) (by kernel_rfl) (by simp) (AllReadyH.cons (by simp only [List.getElem?_toArray, List.getElem?_cons_succ, List.getElem?_cons_zero]; rfl) (fun K hK => ?_) AllReadyH.nil)
        refine sr_load (by rfl) (.tmp 6) (by rfl) gx x f4_6 HP2.out.drew.box ?_
        refine hK.out _ _ (⟨_, HP2.out.drew⟩) (fun hS => ?_)
        obtain ⟨a5, hA5⟩ : ∃ a', a' = a4.put (some 29) (rV x) := ⟨_, rfl⟩
        change wpAnyH _ _ _ _ _ _ _ (a4.put (some 29) (rV x)) _
        rw [← hA5]
        have f5_29 : a5.eval (.tmp 29) = rV x := by rw [hA5]; exact Act.eval_put_same _ _ _ (by omega)
        have f5_33 : a5.eval (.tmp 33) = .agg #[.int .i64 k, .int .i64 f, .int .i64 t, .int .u64 (m : Int)] := by rw [hA5]; exact (Act.eval_put_ne _ _ _ _ (by decide)).trans f4_33
        have f5_6 : a5.eval (.tmp 6) = .pointer (some ⟨gx, 0, none⟩) := by rw [hA5]; exact (Act.eval_put_ne _ _ _ _ (by decide)).trans f4_6
        have z5 : a5.tmps.size = 57 := by rw [hA5, Act.size_put]; exact z4
        have dd5 : a5.defers = [] := by rw [hA5, Act.defers_put']; exact dd4
        have HA5 := Lib.hid hA5
        clear hA5 z4 dd4 f4_33 f4_6
        refine wpAnyH_ready (rs := [5]) (by kernel_rfl) (by simp) (AllReadyH.cons (by simp only [List.getElem?_toArray, List.getElem?_cons_succ, List.getElem?_cons_zero]; rfl) (fun K hK => ?_) AllReadyH.nil)
        refine step_call (by rfl) 9 #[.tmp 29, .tmp 33] #[28, 31] (by rfl) #[rV x, .agg #[.int .i64 k, .int .i64 f, .int .i64 t, .int .u64 (m : Int)]] (by simp only [List.map_toArray, List.map_cons, List.map_nil, f5_29, f5_33]) Tryd.func9 (by kernel_rfl) rfl ((HRd w2.drew).out) (fun e w' hR => ?_)
        obtain ⟨rfl, hb9⟩ := hR
        have H9 := Lib.hid (HP2.out.drew.next hb9)
        clear hb9
        refine ⟨_, rfl, hK.out _ _ (⟨_, H9.out⟩) (fun hS => ?_)⟩
        obtain ⟨a6, hA6⟩ : ∃ a', a' = a5.put (some 34) (rV l2) := ⟨_, rfl⟩
        change wpAnyH _ _ _ _ _ _ _ (a5.put (some 34) (rV l2)) _
        rw [← hA6]
        have f6_34 : a6.eval (.tmp 34) = rV l2 := by rw [hA6]; exact Act.eval_put_same _ _ _ (by omega)
        have f6_6 : a6.eval (.tmp 6) = .pointer (some ⟨gx, 0, none⟩) := by rw [hA6]; exact (Act.eval_put_ne _ _ _ _ (by decide)).trans f5_6
        have z6 : a6.tmps.size = 57 := by rw [hA6, Act.size_put]; exact z5
        have dd6 : a6.defers = [] := by rw [hA6, Act.defers_put']; exact dd5
        have HA6 := Lib.hid hA6
        clear hA6 z5 dd5 f5_29 f5_33 f5_6
        refine wpAnyH_ready (rs := [6]) (by kernel_rfl) (by simp) (AllReadyH.cons (by simp only [List.getElem?_toArray, List.getElem?_cons_succ, List.getElem?_cons_zero]; rfl) (fun K hK => ?_) AllReadyH.nil)
        refine sr_store (by rfl) (.tmp 6) (.tmp 34) (by rfl) gx x l2 f6_6 f6_34 H9.out.box ?_
        have H8 := Lib.hid (H9.out.store l2)
        refine hK.out _ _ (⟨_, H8.out⟩) (fun _ => ?_)
        change wpAnyH _ _ _ _ _ _ _ a6 _
        refine wpAnyH_done (by kernel_rfl) ?_ _
        clear hK hS H9
        rw [HA6.out]
        rw [HA5.out]
        rw [HA4.out]
        rw [HA3.out]
        rw [HA2.out]
        rw [HA1.out]
        rw [HA0.out]
        simp only [Act.put, List.setIfInBounds_toArray, List.set_cons_zero, List.set_cons_succ]
        generalize w'.setRow gx (rC l2).toArray = W3 at *
        have H7 := H8
        clear H8
        go_upto_region 9 with fail
        refine wp_hold_act (fun a0 HA0 => ?_)
        have z0 : a0.tmps.size = 57 := by rw [HA0.out]; rfl
        have dd0 : a0.defers = [] := by rw [HA0.out]
        have f0_5 : a0.eval (.tmp 5) = .pointer (some ⟨w.heap.size, 0, none⟩) := by rw [HA0.out]; rfl
        have f0_6 : a0.eval (.tmp 6) = .pointer (some ⟨gx, 0, none⟩) := by rw [HA0.out]; rfl
        have f0_0 : a0.eval (.tmp 0) = .slice (some ⟨b, off, none⟩) ops.length cap := by rw [HA0.out]; rfl
        have f0_7 : a0.eval (.tmp 7) = .int .i64 (j : Int) := by rw [HA0.out]; rfl
        have f0_1 : a0.eval (.tmp 1) = .int .i64 o := by rw [HA0.out]; rfl
        refine wp_region_held_drew (S := fun w' => Cz w w.heap.size gx l2 l2 w') (by kernel_rfl) (H7.out.drew) (fun hS => ?_)
        refine wpAnyH_take (i := 0) (v := .pointer (some ⟨w.heap.size, 0, none⟩)) rfl (by kernel_rfl) (by kernel_rfl) (by kernel_rfl) (fun _ _ _ h => h) (yields_move rfl (.tmp 5) rfl f0_5) hS ?_
        obtain ⟨a1, hA1⟩ : ∃ a', a' = a0.put (some 35) (.pointer (some ⟨w.heap.size, 0, none⟩)) := ⟨_, rfl⟩
        change wpAnyH _ _ _ _ _ _ _ (a0.put (some 35) (.pointer (some ⟨w.heap.size, 0, none⟩))) _
        rw [← hA1]
        have f1_35 : a1.eval (.tmp 35) = .pointer (some ⟨w.heap.size, 0, none⟩) := by rw [hA1]; exact Act.eval_put_same _ _ _ (by omega)
        have f1_6 : a1.eval (.tmp 6) = .pointer (some ⟨gx, 0, none⟩) := by rw [hA1]; exact (Act.eval_put_ne _ _ _ _ (by decide)).trans f0_6
        have f1_0 : a1.eval (.tmp 0) = .slice (some ⟨b, off, none⟩) ops.length cap := by rw [hA1]; exact (Act.eval_put_ne _ _ _ _ (by decide)).trans f0_0
        have f1_7 : a1.eval (.tmp 7) = .int .i64 (j : Int) := by rw [hA1]; exact (Act.eval_put_ne _ _ _ _ (by decide)).trans f0_7
        have f1_1 : a1.eval (.tmp 1) = .int .i64 o := by rw [hA1]; exact (Act.eval_put_ne _ _ _ _ (by decide)).trans f0_1
        have z1 : a1.tmps.size = 57 := by rw [hA1, Act.size_put]; exact z0
        have dd1 : a1.defers = [] := by rw [hA1, Act.defers_put']; exact dd0
        have HA1 := Lib.hid hA1
        clear hA1 z0 dd0 f0_5 f0_6 f0_0 f0_7 f0_1
        refine wpAnyH_take (i := 1) (v := rV l2) rfl (by kernel_rfl) (by kernel_rfl) (by kernel_rfl) (fun _ _ _ h => h) (yields_r rfl (.tmp 6) rfl _ f1_6 l2 (fun _ h => h.box)) hS ?_
        obtain ⟨a2, hA2⟩ : ∃ a', a' = a1.put (some 36) (rV l2) := ⟨_, rfl⟩
        change wpAnyH _ _ _ _ _ _ _ (a1.put (some 36) (rV l2)) _
        rw [← hA2]
        have f2_36 : a2.eval (.tmp 36) = rV l2 := by rw [hA2]; exact Act.eval_put_same _ _ _ (by omega)
        have f2_35 : a2.eval (.tmp 35) = .pointer (some ⟨w.heap.size, 0, none⟩) := by rw [hA2]; exact (Act.eval_put_ne _ _ _ _ (by decide)).trans f1_35
        have f2_0 : a2.eval (.tmp 0) = .slice (some ⟨b, off, none⟩) ops.length cap := by rw [hA2]; exact (Act.eval_put_ne _ _ _ _ (by decide)).trans f1_0
        have f2_7 : a2.eval (.tmp 7) = .int .i64 (j : Int) := by rw [hA2]; exact (Act.eval_put_ne _ _ _ _ (by decide)).trans f1_7
        have f2_1 : a2.eval (.tmp 1) = .int .i64 o := by rw [hA2]; exact (Act.eval_put_ne _ _ _ _ (by decide)).trans f1_1
        have z2 : a2.tmps.size = 57 := by rw [hA2, Act.size_put]; exact z1
        have dd2 : a2.defers = [] := by rw [hA2, Act.defers_put']; exact dd1
        have HA2 := Lib.hid hA2
        clear hA2 z1 dd1 f1_35 f1_6 f1_0 f1_7 f1_1
        refine wpAnyH_take (i := 2) (v := .slice (some ⟨b, off, none⟩) ops.length cap) rfl (by kernel_rfl) (by kernel_rfl) (by kernel_rfl) (fun _ _ _ h => h) (yields_move rfl (.tmp 0) rfl f2_0) hS ?_
        obtain ⟨a3, hA3⟩ : ∃ a', a' = a2.put (some 37) (.slice (some ⟨b, off, none⟩) ops.length cap) := ⟨_, rfl⟩
        change wpAnyH _ _ _ _ _ _ _ (a2.put (some 37) (.slice (some ⟨b, off, none⟩) ops.length cap)) _
        rw [← hA3]
        have f3_37 : a3.eval (.tmp 37) = .slice (some ⟨b, off, none⟩) ops.length cap := by rw [hA3]; exact Act.eval_put_same _ _ _ (by omega)
        have f3_36 : a3.eval (.tmp 36) = rV l2 := by rw [hA3]; exact (Act.eval_put_ne _ _ _ _ (by decide)).trans f2_36
        have f3_35 : a3.eval (.tmp 35) = .pointer (some ⟨w.heap.size, 0, none⟩) := by rw [hA3]; exact (Act.eval_put_ne _ _ _ _ (by decide)).trans f2_35
        have f3_7 : a3.eval (.tmp 7) = .int .i64 (j : Int) := by rw [hA3]; exact (Act.eval_put_ne _ _ _ _ (by decide)).trans f2_7
        have f3_1 : a3.eval (.tmp 1) = .int .i64 o := by rw [hA3]; exact (Act.eval_put_ne _ _ _ _ (by decide)).trans f2_1
        have z3 : a3.tmps.size = 57 := by rw [hA3, Act.size_put]; exact z2
        have dd3 : a3.defers = [] := by rw [hA3, Act.defers_put']; exact dd2
        have HA3 := Lib.hid hA3
        clear hA3 z2 dd2 f2_36 f2_35 f2_0 f2_7 f2_1
        refine wpAnyH_take (i := 3) (v := .int .i64 (j : Int)) rfl (by kernel_rfl) (by kernel_rfl) (by kernel_rfl) (fun _ _ _ h => h) (yields_move rfl (.tmp 7) rfl f3_7) hS ?_
        obtain ⟨a4, hA4⟩ : ∃ a', a' = a3.put (some 38) (.int .i64 (j : Int)) := ⟨_, rfl⟩
        change wpAnyH _ _ _ _ _ _ _ (a3.put (some 38) (.int .i64 (j : Int))) _
        rw [← hA4]
        have f4_38 : a4.eval (.tmp 38) = .int .i64 (j : Int) := by rw [hA4]; exact Act.eval_put_same _ _ _ (by omega)
        have f4_37 : a4.eval (.tmp 37) = .slice (some ⟨b, off, none⟩) ops.length cap := by rw [hA4]; exact (Act.eval_put_ne _ _ _ _ (by decide)).trans f3_37
        have f4_36 : a4.eval (.tmp 36) = rV l2 := by rw [hA4]; exact (Act.eval_put_ne _ _ _ _ (by decide)).trans f3_36
        have f4_35 : a4.eval (.tmp 35) = .pointer (some ⟨w.heap.size, 0, none⟩) := by rw [hA4]; exact (Act.eval_put_ne _ _ _ _ (by decide)).trans f3_35
        have f4_1 : a4.eval (.tmp 1) = .int .i64 o := by rw [hA4]; exact (Act.eval_put_ne _ _ _ _ (by decide)).trans f3_1
        have z4 : a4.tmps.size = 57 := by rw [hA4, Act.size_put]; exact z3
        have dd4 : a4.defers = [] := by rw [hA4, Act.defers_put']; exact dd3
        have HA4 := Lib.hid hA4
        clear hA4 z3 dd3 f3_37 f3_36 f3_35 f3_7 f3_1
        refine wpAnyH_take (i := 4) (v := .pointer (some ⟨b, off + j * 4, none⟩)) rfl (by kernel_rfl) (by kernel_rfl) (by kernel_rfl) (fun _ _ _ h => h) (yields_idx rfl (.tmp 37) (.tmp 38) rfl _ _ _ _ j f4_37 f4_38 k1 k2) hS ?_
        obtain ⟨a5, hA5⟩ : ∃ a', a' = a4.put (some 39) (.pointer (some ⟨b, off + j * 4, none⟩)) := ⟨_, rfl⟩
        change wpAnyH _ _ _ _ _ _ _ (a4.put (some 39) (.pointer (some ⟨b, off + j * 4, none⟩))) _
        rw [← hA5]
        have f5_39 : a5.eval (.tmp 39) = .pointer (some ⟨b, off + j * 4, none⟩) := by rw [hA5]; exact Act.eval_put_same _ _ _ (by omega)
        have f5_36 : a5.eval (.tmp 36) = rV l2 := by rw [hA5]; exact (Act.eval_put_ne _ _ _ _ (by decide)).trans f4_36
        have f5_35 : a5.eval (.tmp 35) = .pointer (some ⟨w.heap.size, 0, none⟩) := by rw [hA5]; exact (Act.eval_put_ne _ _ _ _ (by decide)).trans f4_35
        have f5_1 : a5.eval (.tmp 1) = .int .i64 o := by rw [hA5]; exact (Act.eval_put_ne _ _ _ _ (by decide)).trans f4_1
        have z5 : a5.tmps.size = 57 := by rw [hA5, Act.size_put]; exact z4
        have dd5 : a5.defers = [] := by rw [hA5, Act.defers_put']; exact dd4
        have HA5 := Lib.hid hA5
        clear hA5 z4 dd4 f4_38 f4_37 f4_36 f4_35 f4_1
        refine wpAnyH_take (i := 5) (v := .agg #[.int .i64 k, .int .i64 f, .int .i64 t, .int .u64 (m : Int)]) rfl (by kernel_rfl) (by kernel_rfl) (by kernel_rfl) (fun _ _ _ h => h) (yields_op rfl (.tmp 39) rfl _ _ f5_39 k f t m (fun _ h => HCe.out _ h.hs.1)) hS ?_
        obtain ⟨a6, hA6⟩ : ∃ a', a' = a5.put (some 40) (.agg #[.int .i64 k, .int .i64 f, .int .i64 t, .int .u64 (m : Int)]) := ⟨_, rfl⟩
        change wpAnyH _ _ _ _ _ _ _ (a5.put (some 40) (.agg #[.int .i64 k, .int .i64 f, .int .i64 t, .int .u64 (m : Int)])) _
        rw [← hA6]
        have f6_40 : a6.eval (.tmp 40) = .agg #[.int .i64 k, .int .i64 f, .int .i64 t, .int .u64 (m : Int)] := by rw [hA6]; exact Act.eval_put_same _ _ _ (by omega)
        have f6_36 : a6.eval (.tmp 36) = rV l2 := by rw [hA6]; exact (Act.eval_put_ne _ _ _ _ (by decide)).trans f5_36
        have f6_35 : a6.eval (.tmp 35) = .pointer (some ⟨w.heap.size, 0, none⟩) := by rw [hA6]; exact (Act.eval_put_ne _ _ _ _ (by decide)).trans f5_35
        have f6_1 : a6.eval (.tmp 1) = .int .i64 o := by rw [hA6]; exact (Act.eval_put_ne _ _ _ _ (by decide)).trans f5_1
        have z6 : a6.tmps.size = 57 := by rw [hA6, Act.size_put]; exact z5
        have dd6 : a6.defers = [] := by rw [hA6, Act.defers_put']; exact dd5
        have HA6 := Lib.hid hA6
        clear hA6 z5 dd5 f5_39 f5_36 f5_35 f5_1
        refine wpAnyH_take (i := 6) (v := .int .i64 o) rfl (by kernel_rfl) (by kernel_rfl) (by kernel_rfl) (fun _ _ _ h => h) (yields_move rfl (.tmp 1) rfl f6_1) hS ?_
        obtain ⟨a7, hA7⟩ : ∃ a', a' = a6.put (some 41) (.int .i64 o) := ⟨_, rfl⟩
        change wpAnyH _ _ _ _ _ _ _ (a6.put (some 41) (.int .i64 o)) _
        rw [← hA7]
        have f7_41 : a7.eval (.tmp 41) = .int .i64 o := by rw [hA7]; exact Act.eval_put_same _ _ _ (by omega)
        have f7_40 : a7.eval (.tmp 40) = .agg #[.int .i64 k, .int .i64 f, .int .i64 t, .int .u64 (m : Int)] := by rw [hA7]; exact (Act.eval_put_ne _ _ _ _ (by decide)).trans f6_40
        have f7_36 : a7.eval (.tmp 36) = rV l2 := by rw [hA7]; exact (Act.eval_put_ne _ _ _ _ (by decide)).trans f6_36
        have f7_35 : a7.eval (.tmp 35) = .pointer (some ⟨w.heap.size, 0, none⟩) := by rw [hA7]; exact (Act.eval_put_ne _ _ _ _ (by decide)).trans f6_35
        have z7 : a7.tmps.size = 57 := by rw [hA7, Act.size_put]; exact z6
        have dd7 : a7.defers = [] := by rw [hA7, Act.defers_put']; exact dd6
        have HA7 := Lib.hid hA7
        clear hA7 z6 dd6 f6_40 f6_36 f6_35 f6_1
        refine wpAnyH_ready (rs := [7]) (by kernel_rfl) (by simp) (AllReadyH.cons (by simp only [List.getElem?_toArray, List.getElem?_cons_succ, List.getElem?_cons_zero]; rfl) (fun K hK => ?_) AllReadyH.nil)
        refine step_call (by rfl) 10 #[.tmp 35, .tmp 36, .tmp 40, .tmp 41] #[23, 28, 31, 3] (by rfl) #[.pointer (some ⟨w.heap.size, 0, none⟩), rV l2, .agg #[.int .i64 k, .int .i64 f, .int .i64 t, .int .u64 (m : Int)], .int .i64 o] (by simp only [List.map_toArray, List.map_cons, List.map_nil, f7_35, f7_36, f7_40, f7_41]) Tryd.func10 (by kernel_rfl) rfl (hS.hs.c_same k f t o m HIk.out.1 HIk.out.2.1 HOi.out) (fun e w' hR => ?_)
        obtain ⟨rfl, hb9⟩ := hR
        have H9 := Lib.hid (hS.next hb9)
        clear hb9
        refine ⟨_, rfl, hK.out _ _ (H9.out) (fun hS => ?_)⟩
        obtain ⟨a8, hA8⟩ : ∃ a', a' = a7.put (some 42) (.bool true) := ⟨_, rfl⟩
        change wpAnyH _ _ _ _ _ _ _ (a7.put (some 42) (.bool true)) _
        rw [← hA8]
        have f8_42 : a8.eval (.tmp 42) = .bool true := by rw [hA8]; exact Act.eval_put_same _ _ _ (by omega)
        have z8 : a8.tmps.size = 57 := by rw [hA8, Act.size_put]; exact z7
        have dd8 : a8.defers = [] := by rw [hA8, Act.defers_put']; exact dd7
        have HA8 := Lib.hid hA8
        clear hA8 z7 dd7 f7_41 f7_40 f7_36 f7_35
        refine wpAnyH_take (i := 8) (v := .bool false) rfl (by kernel_rfl) (by kernel_rfl) (by kernel_rfl) (fun _ _ _ h => h) (yields_not rfl (.tmp 42) rfl true false f8_42 rfl) hS ?_
        obtain ⟨a9, hA9⟩ : ∃ a', a' = a8.put (some 43) (.bool false) := ⟨_, rfl⟩
        change wpAnyH _ _ _ _ _ _ _ (a8.put (some 43) (.bool false)) _
        rw [← hA9]
        have f9_43 : a9.eval (.tmp 43) = .bool false := by rw [hA9]; exact Act.eval_put_same _ _ _ (by omega)
        have z9 : a9.tmps.size = 57 := by rw [hA9, Act.size_put]; exact z8
        have dd9 : a9.defers = [] := by rw [hA9, Act.defers_put']; exact dd8
        have HA9 := Lib.hid hA9
        clear hA9 z8 dd8 f8_42
        refine wpAnyH_done (by kernel_rfl) ?_ _
        clear hK hS
        rw [HA9.out]
        rw [HA8.out]
        rw [HA7.out]
        rw [HA6.out]
        rw [HA5.out]
        rw [HA4.out]
        rw [HA3.out]
        rw [HA2.out]
        rw [HA1.out]
        rw [HA0.out]
        simp only [Act.put, List.setIfInBounds_toArray, List.set_cons_zero, List.set_cons_succ]
        go_wp2_with fail
        have hj := HJ.out.1
        have h50 := HJ.out.2
        have hw : wrap64 ((j : Int) + 1) = ((j + 1 : Nat) : Int) := by unfold wrap64; omega
        go_roundw
        case rel => exact ⟨j + 1, l2, by first | rw [hw] | rfl, by omega, by omega, H9⟩
        case measure => (try rw [hw]); simp only [intOf]; omega
      · have HE := HP
        clear HP HI HO HOi HOk
        have d2 : decide ((j : Int) < 50) = decide (j < 50) := decide_eq_decide.2 (by omega)
        have hno : ¬ j < ops.length ∨ ¬ j < 50 := by omega
        clear hj hj50 hlt
        go_wp2_with fail
        all_goals
          clear hno d2
          go_loopw [8] (fun i wr => ∃ j : Nat, j ≤ 64 ∧ i = .int .i64 (j : Int) ∧ Hid (Cz w w.heap.size gx x x wr)) (fun i _ => 64 - (intOf i).toNat)
          case atStart => exact ⟨0, Nat.zero_le _, rfl, HE⟩
          case round =>
            clear HE
            obtain ⟨j, hj, rfl, HE⟩ := hrel
            by_cases hlt : j < 64
            · have d0 : decide ((j : Int) < 64) = true := decide_eq_true (by omega)
              have k1 : (0 : Int) ≤ (j : Int) := by omega
              have k2 : (j : Int) < 64 := by omega
              obtain ⟨y, hy⟩ : ∃ y, y = rv x (j : Int) := ⟨_, rfl⟩
              have CO : ∀ W, Cz w w.heap.size gx x x W → Hid (Calls Tryd.prog 11 #[.pointer (some ⟨w.heap.size, 0, none⟩), .int .i64 (j : Int)] W fun e w' => e = .returned (.int .u64 ((y : Nat) : Int)) ∧ Below W.heap.size W w') := fun W h => Lib.hid (by rw [hy]; exact h.hs.c_of _ (by unfold I64; omega))
              have HG : Hid (∀ W, Cz w w.heap.size gx x x W → W.cell? ⟨gx, j, none⟩ = some (.int .u64 ((y : Nat) : Int))) := Lib.hid (fun W h => by rw [hy, rv_nat x hlt]; exact r_cell h.box hlt)
              have HJ := Lib.hid hlt
              clear hy hj hlt
              go_upto_region 14 with fail
              refine wp_hold_act (fun a0 HA0 => ?_)
              have z0 : a0.tmps.size = 57 := by rw [HA0.out]; rfl
              have dd0 : a0.defers = [] := by rw [HA0.out]
              have f0_5 : a0.eval (.tmp 5) = .pointer (some ⟨w.heap.size, 0, none⟩) := by rw [HA0.out]; rfl
              have f0_8 : a0.eval (.tmp 8) = .int .i64 (j : Int) := by rw [HA0.out]; rfl
              have f0_6 : a0.eval (.tmp 6) = .pointer (some ⟨gx, 0, none⟩) := by rw [HA0.out]; rfl
              refine wp_region_held_drew (S := fun w' => Cz w w.heap.size gx x x w') (by kernel_rfl) (HE.out.drew) (fun hS => ?_)
              refine wpAnyH_take (i := 0) (v := .pointer (some ⟨w.heap.size, 0, none⟩)) rfl (by kernel_rfl) (by kernel_rfl) (by kernel_rfl) (fun _ _ _ h => h) (yields_move rfl (.tmp 5) rfl f0_5) hS ?_
              obtain ⟨a1, hA1⟩ : ∃ a', a' = a0.put (some 48) (.pointer (some ⟨w.heap.size, 0, none⟩)) := ⟨_, rfl⟩
              change wpAnyH _ _ _ _ _ _ _ (a0.put (some 48) (.pointer (some ⟨w.heap.size, 0, none⟩))) _
              rw [← hA1]
              have f1_48 : a1.eval (.tmp 48) = .pointer (some ⟨w.heap.size, 0, none⟩) := by rw [hA1]; exact Act.eval_put_same _ _ _ (by omega)
              have f1_8 : a1.eval (.tmp 8) = .int .i64 (j : Int) := by rw [hA1]; exact (Act.eval_put_ne _ _ _ _ (by decide)).trans f0_8
              have f1_6 : a1.eval (.tmp 6) = .pointer (some ⟨gx, 0, none⟩) := by rw [hA1]; exact (Act.eval_put_ne _ _ _ _ (by decide)).trans f0_6
              have z1 : a1.tmps.size = 57 := by rw [hA1, Act.size_put]; exact z0
              have dd1 : a1.defers = [] := by rw [hA1, Act.defers_put']; exact dd0
              have HA1 := Lib.hid hA1
              clear hA1 z0 dd0 f0_5 f0_8 f0_6
              refine wpAnyH_take (i := 1) (v := .int .i64 (j : Int)) rfl (by kernel_rfl) (by kernel_rfl) (by kernel_rfl) (fun _ _ _ h => h) (yields_move rfl (.tmp 8) rfl f1_8) hS ?_
              obtain ⟨a2, hA2⟩ : ∃ a', a' = a1.put (some 49) (.int .i64 (j : Int)) := ⟨_, rfl⟩
              change wpAnyH _ _ _ _ _ _ _ (a1.put (some 49) (.int .i64 (j : Int))) _
              rw [← hA2]
              have f2_49 : a2.eval (.tmp 49) = .int .i64 (j : Int) := by rw [hA2]; exact Act.eval_put_same _ _ _ (by omega)
              have f2_48 : a2.eval (.tmp 48) = .pointer (some ⟨w.heap.size, 0, none⟩) := by rw [hA2]; exact (Act.eval_put_ne _ _ _ _ (by decide)).trans f1_48
              have f2_8 : a2.eval (.tmp 8) = .int .i64 (j : Int) := by rw [hA2]; exact (Act.eval_put_ne _ _ _ _ (by decide)).trans f1_8
              have f2_6 : a2.eval (.tmp 6) = .pointer (some ⟨gx, 0, none⟩) := by rw [hA2]; exact (Act.eval_put_ne _ _ _ _ (by decide)).trans f1_6
              have z2 : a2.tmps.size = 57 := by rw [hA2, Act.size_put]; exact z1
              have dd2 : a2.defers = [] := by rw [hA2, Act.defers_put']; exact dd1
              have HA2 := Lib.hid hA2
              clear hA2 z1 dd1 f1_48 f1_8 f1_6
              refine wpAnyH_take (i := 3) (v := .int .i64 (j : Int)) rfl (by kernel_rfl) (by kernel_rfl) (by kernel_rfl) (fun _ _ _ h => h) (yields_move rfl (.tmp 8) rfl f2_8) hS ?_
              obtain ⟨a3, hA3⟩ : ∃ a', a' = a2.put (some 51) (.int .i64 (j : Int)) := ⟨_, rfl⟩
              change wpAnyH _ _ _ _ _ _ _ (a2.put (some 51) (.int .i64 (j : Int))) _
              rw [← hA3]
              have f3_51 : a3.eval (.tmp 51) = .int .i64 (j : Int) := by rw [hA3]; exact Act.eval_put_same _ _ _ (by omega)
              have f3_49 : a3.eval (.tmp 49) = .int .i64 (j : Int) := by rw [hA3]; exact (Act.eval_put_ne _ _ _ _ (by decide)).trans f2_49
              have f3_48 : a3.eval (.tmp 48) = .pointer (some ⟨w.heap.size, 0, none⟩) := by rw [hA3]; exact (Act.eval_put_ne _ _ _ _ (by decide)).trans f2_48
              have f3_6 : a3.eval (.tmp 6) = .pointer (some ⟨gx, 0, none⟩) := by rw [hA3]; exact (Act.eval_put_ne _ _ _ _ (by decide)).trans f2_6
              have z3 : a3.tmps.size = 57 := by rw [hA3, Act.size_put]; exact z2
              have dd3 : a3.defers = [] := by rw [hA3, Act.defers_put']; exact dd2
              have HA3 := Lib.hid hA3
              clear hA3 z2 dd2 f2_49 f2_48 f2_8 f2_6
              refine wpAnyH_take (i := 4) (v := .pointer (some ⟨gx, 0, none⟩)) rfl (by kernel_rfl) (by kernel_rfl) (by kernel_rfl) (fun _ _ _ h => h) (yields_fr rfl (.tmp 6) 0 (by omega) rfl _ _ f3_6 _ rfl) hS ?_
              obtain ⟨a4, hA4⟩ : ∃ a', a' = a3.put (some 52) (.pointer (some ⟨gx, 0, none⟩)) := ⟨_, rfl⟩
              change wpAnyH _ _ _ _ _ _ _ (a3.put (some 52) (.pointer (some ⟨gx, 0, none⟩))) _
              rw [← hA4]
              have f4_52 : a4.eval (.tmp 52) = .pointer (some ⟨gx, 0, none⟩) := by rw [hA4]; exact Act.eval_put_same _ _ _ (by omega)
              have f4_51 : a4.eval (.tmp 51) = .int .i64 (j : Int) := by rw [hA4]; exact (Act.eval_put_ne _ _ _ _ (by decide)).trans f3_51
              have f4_49 : a4.eval (.tmp 49) = .int .i64 (j : Int) := by rw [hA4]; exact (Act.eval_put_ne _ _ _ _ (by decide)).trans f3_49
              have f4_48 : a4.eval (.tmp 48) = .pointer (some ⟨w.heap.size, 0, none⟩) := by rw [hA4]; exact (Act.eval_put_ne _ _ _ _ (by decide)).trans f3_48
              have z4 : a4.tmps.size = 57 := by rw [hA4, Act.size_put]; exact z3
              have dd4 : a4.defers = [] := by rw [hA4, Act.defers_put']; exact dd3
              have HA4 := Lib.hid hA4
              clear hA4 z3 dd3 f3_51 f3_49 f3_48 f3_6
              refine wpAnyH_take (i := 5) (v := .pointer (some ⟨gx, j, none⟩)) rfl (by kernel_rfl) (by kernel_rfl) (by kernel_rfl) (fun _ _ _ h => h) (yields_ridx rfl (.tmp 52) (.tmp 51) rfl gx j f4_52 f4_51 k1 k2) hS ?_
              obtain ⟨a5, hA5⟩ : ∃ a', a' = a4.put (some 53) (.pointer (some ⟨gx, j, none⟩)) := ⟨_, rfl⟩
              change wpAnyH _ _ _ _ _ _ _ (a4.put (some 53) (.pointer (some ⟨gx, j, none⟩))) _
              rw [← hA5]
              have f5_53 : a5.eval (.tmp 53) = .pointer (some ⟨gx, j, none⟩) := by rw [hA5]; exact Act.eval_put_same _ _ _ (by omega)
              have f5_49 : a5.eval (.tmp 49) = .int .i64 (j : Int) := by rw [hA5]; exact (Act.eval_put_ne _ _ _ _ (by decide)).trans f4_49
              have f5_48 : a5.eval (.tmp 48) = .pointer (some ⟨w.heap.size, 0, none⟩) := by rw [hA5]; exact (Act.eval_put_ne _ _ _ _ (by decide)).trans f4_48
              have z5 : a5.tmps.size = 57 := by rw [hA5, Act.size_put]; exact z4
              have dd5 : a5.defers = [] := by rw [hA5, Act.defers_put']; exact dd4
              have HA5 := Lib.hid hA5
              clear hA5 z4 dd4 f4_52 f4_51 f4_49 f4_48
              refine wpAnyH_take (i := 6) (v := .int .u64 ((y : Nat) : Int)) rfl (by kernel_rfl) (by kernel_rfl) (by kernel_rfl) (fun _ _ _ h => h) (yields_u64 rfl (.tmp 53) rfl _ f5_53 _ (fun _ h => HG.out _ h)) hS ?_
              obtain ⟨a6, hA6⟩ : ∃ a', a' = a5.put (some 54) (.int .u64 ((y : Nat) : Int)) := ⟨_, rfl⟩
              change wpAnyH _ _ _ _ _ _ _ (a5.put (some 54) (.int .u64 ((y : Nat) : Int))) _
              rw [← hA6]
              have f6_54 : a6.eval (.tmp 54) = .int .u64 ((y : Nat) : Int) := by rw [hA6]; exact Act.eval_put_same _ _ _ (by omega)
              have f6_49 : a6.eval (.tmp 49) = .int .i64 (j : Int) := by rw [hA6]; exact (Act.eval_put_ne _ _ _ _ (by decide)).trans f5_49
              have f6_48 : a6.eval (.tmp 48) = .pointer (some ⟨w.heap.size, 0, none⟩) := by rw [hA6]; exact (Act.eval_put_ne _ _ _ _ (by decide)).trans f5_48
              have z6 : a6.tmps.size = 57 := by rw [hA6, Act.size_put]; exact z5
              have dd6 : a6.defers = [] := by rw [hA6, Act.defers_put']; exact dd5
              have HA6 := Lib.hid hA6
              clear hA6 z5 dd5 f5_53 f5_49 f5_48
              refine wpAnyH_ready (rs := [2]) (by kernel_rfl) (by simp) (AllReadyH.cons (by simp only [List.getElem?_toArray, List.getElem?_cons_succ, List.getElem?_cons_zero]; rfl) (fun K hK => ?_) AllReadyH.nil)
              refine step_call (by rfl) 11 #[.tmp 48, .tmp 49] #[23, 3] (by rfl) #[.pointer (some ⟨w.heap.size, 0, none⟩), .int .i64 (j : Int)] (by simp only [List.map_toArray, List.map_cons, List.map_nil, f6_48, f6_49]) Tryd.func11 (by kernel_rfl) rfl ((CO _ hS).out) (fun e w' hR => ?_)
              obtain ⟨rfl, hb9⟩ := hR
              have H9 := Lib.hid (hS.next hb9)
              clear hb9
              refine ⟨_, rfl, hK.out _ _ (H9.out) (fun hS => ?_)⟩
              obtain ⟨a7, hA7⟩ : ∃ a', a' = a6.put (some 50) (.int .u64 ((y : Nat) : Int)) := ⟨_, rfl⟩
              change wpAnyH _ _ _ _ _ _ _ (a6.put (some 50) (.int .u64 ((y : Nat) : Int))) _
              rw [← hA7]
              have f7_50 : a7.eval (.tmp 50) = .int .u64 ((y : Nat) : Int) := by rw [hA7]; exact Act.eval_put_same _ _ _ (by omega)
              have f7_54 : a7.eval (.tmp 54) = .int .u64 ((y : Nat) : Int) := by rw [hA7]; exact (Act.eval_put_ne _ _ _ _ (by decide)).trans f6_54
              have z7 : a7.tmps.size = 57 := by rw [hA7, Act.size_put]; exact z6
              have dd7 : a7.defers = [] := by rw [hA7, Act.defers_put']; exact dd6
              have HA7 := Lib.hid hA7
              clear hA7 z6 dd6 f6_54 f6_49 f6_48
              refine wpAnyH_take (i := 7) (v := .bool false) rfl (by kernel_rfl) (by kernel_rfl) (by kernel_rfl) (fun _ _ _ h => h) (yields_nequ rfl (.tmp 50) (.tmp 54) rfl _ _ f7_50 f7_54 false (bne_self_eq_false _)) hS ?_
              obtain ⟨a8, hA8⟩ : ∃ a', a' = a7.put (some 55) (.bool false) := ⟨_, rfl⟩
              change wpAnyH _ _ _ _ _ _ _ (a7.put (some 55) (.bool false)) _
              rw [← hA8]
              have f8_55 : a8.eval (.tmp 55) = .bool false := by rw [hA8]; exact Act.eval_put_same _ _ _ (by omega)
              have z8 : a8.tmps.size = 57 := by rw [hA8, Act.size_put]; exact z7
              have dd8 : a8.defers = [] := by rw [hA8, Act.defers_put']; exact dd7
              have HA8 := Lib.hid hA8
              clear hA8 z7 dd7 f7_50 f7_54
              refine wpAnyH_done (by kernel_rfl) ?_ _
              clear hK hS
              rw [HA8.out]
              rw [HA7.out]
              rw [HA6.out]
              rw [HA5.out]
              rw [HA4.out]
              rw [HA3.out]
              rw [HA2.out]
              rw [HA1.out]
              rw [HA0.out]
              simp only [Act.put, List.setIfInBounds_toArray, List.set_cons_zero, List.set_cons_succ]
              go_wp2_with fail
              have hj := HJ.out
              have hw : wrap64 ((j : Int) + 1) = ((j + 1 : Nat) : Int) := by unfold wrap64; omega
              go_roundw
              case rel => exact ⟨j + 1, by omega, by first | rw [hw] | rfl, H9⟩
              case measure => (try rw [hw]); simp only [intOf]; omega
            · have d0 : decide ((j : Int) < 64) = false := decide_eq_false (by omega)
              clear hj hlt
              have HB := Lib.hid HE.out.hs.1
              have C := HL _ HB.out
              clear HL HE
              go_wp2_with fail
              refine C.out.mono ?_
              rintro _ w9 ⟨rfl, hb⟩
              clear C
              go_wp2
              go_ret
              exact ⟨rfl, HB.out.trans (hb.mono HB.out.size)⟩
end Go.Proofs.YtjedinodopcdaaaDoor.rig
