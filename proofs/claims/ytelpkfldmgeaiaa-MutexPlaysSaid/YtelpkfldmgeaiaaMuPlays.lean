/-
  Any calls on a mutex, and on the document's beside it: the walk over what is asked of the program's calls. No condition. Printed by tools/mkmuplays.py.
-/
import Derived.Test.YtelpkfldmgeaiaaMuKit
import Derived.LoopTactic
import Derived.Deep.DeepCutAuto
namespace Go.Proofs.Ytelpkfldmgeaiaa.mut
open Go.RowKit Go.ChangeShapes
set_option linter.unusedVariables false
set_option linter.unusedSimpArgs false

theorem wm_alloc {ops : Array Oper} {rest : List Oper} {o : Oper} {a : Act} {w : World} {Q : Exit → Act → World → Prop} (hgd : o.guard = none) (ho : o.op = .alloc 28)
    (h : wpList Try.prog ops Q rest (a.put o.dst (.pointer (some ⟨w.heap.size, 0, none⟩))) (w.alloc (mxO zM))) : wpList Try.prog ops Q (o :: rest) a w := by
  refine Go.Great.wpList_runTo hgd o.dst rfl _ _ ?_ h
  unfold execOp
  simp only [ho, Instr.alloc, Sem.run_bind, zM_run, Result.andThen_ok, newVar, newRow, Sem.run_pure, Value.cells]
  rfl
theorem pz_new {At : World → Nat → Mx → Prop} (K : Keeps At) {w w1 : World} (hb : Below (w.alloc mzB).heap.size (w.alloc mzB) w1) :
    Pz At w w1.heap.size newM ((w1.alloc (mxO zM)).setRow w1.heap.size (mxC newM).toArray) := by
  have hs : (w.alloc mzB).heap.size = w.heap.size + 1 := World.size_alloc _ _
  have hsz := hb.size
  have h0 : Below w.heap.size w (w.alloc mzB) := (Below.refl _ w).alloc (Nat.le_refl _) _
  have h1 : Below w.heap.size w w1 := h0.trans (hb.mono (by omega))
  have a1 := K.loc _ _ _ _ (K.new w) (hb.block _ (by omega)) hb.size
  have hb2 : Below w1.heap.size w1 (w1.alloc (mxO zM)) := (Below.refl _ w1).alloc (Nat.le_refl _) _
  have a2 := K.loc _ _ _ _ a1 (hb2.block _ (by omega)) hb2.size
  refine ⟨row_belowM (h1.trans (hb2.mono h1.size)) h1.size _, K.loc _ _ _ _ a2 (row_far _ (by omega)) (by show (w1.alloc (mxO zM)).heap.size ≤ ((w1.alloc (mxO zM)).heap.modify _ _).size; rw [Array.size_modify]; exact Nat.le_refl _), mx_turned (heap_alloc_new w1 (mxO zM)) _, by omega⟩
set_option maxRecDepth 100000 in
set_option maxHeartbeats 4000000 in
theorem plays_walk {At : World → Nat → Mx → Prop} (K : Keeps At) (A : Option Addr) (cap : Nat) (ops : List (Int × Int)) (w : World) (ho : OpsAt w A ops) (hi : ∀ j, j < ops.length → I64 (ops.getD j (0, 0)).1 ∧ I64 (ops.getD j (0, 0)).2) (hl : ops.length ≤ 9223372036854775807) :
    Calls Try.prog 3 #[.slice A ops.length cap] w fun e w' => e = .returned (.bool true) ∧ Below w.heap.size w w' := by
  have HK := Lib.hid K
  have HO := Lib.hid ho
  have HI := Lib.hid hi
  have HL := fun W => Lib.hid (lives_any K W)
  have HN := fun W => Lib.hid (refNew16_any W)
  unfold MxPost at HN
  have HPn : ∀ w1, Below (w.alloc mzB).heap.size (w.alloc mzB) w1 → Hid (Pz At w w1.heap.size newM ((w1.alloc (mxO zM)).setRow w1.heap.size (mxC newM).toArray)) := fun w1 h => Lib.hid (pz_new K h)
  clear K ho hi
  go_enter Try.func3, Try.ntmps3
  go_wp2_with (first | refine wq_build rfl rfl ?_ | refine wq_box rfl _ rfl rfl ?_)
  refine (HN _).out.mono ?_
  rintro _ w1 ⟨rfl, hb1⟩
  have HP1 := HPn w1 hb1
  clear hb1 HPn HN
  go_upto_region 2 with (first | refine wm_alloc rfl rfl ?_ | refine wm_store rfl _ _ rfl w1.heap.size zM newM rfl rfl (heap_alloc_new w1 (mxO zM)) ?_)
  try simp only [Act.put, List.setIfInBounds_toArray, List.set_cons_zero, List.set_cons_succ]
  generalize (w1.alloc (mxO zM)).setRow w1.heap.size (mxC newM).toArray = W1 at *
  generalize w1.heap.size = gx at *
  go_wp2_with fail
  go_loopw [5] (fun i wr => ∃ (j : Nat) (m : Mx), i = .int .i64 (j : Int) ∧ j ≤ ops.length ∧ j ≤ 80 ∧ Fine m ∧ Pz At w gx m wr) (fun i _ => ops.length - (intOf i).toNat)
  case atStart => exact ⟨0, newM, rfl, Nat.zero_le _, Nat.zero_le _, new_fine, HP1.out⟩
  case round =>
    obtain ⟨j, m, rfl, hj, hj80, hfm, hP⟩ := hrel
    clear HP1
    by_cases hlt : j < ops.length ∧ j < 80
    · obtain ⟨hlt, h80⟩ := hlt
      have d1 : decide (j < ops.length) = true := by simp; omega
      have d2 : decide ((j : Int) < 80) = true := by simp; omega
      obtain ⟨b, off, rfl, hb, c0, c1⟩ := HO.out j hlt
      obtain ⟨i0, i1⟩ := HI.out j hlt
      generalize ops.getD j (0, 0) = o at *
      obtain ⟨k, t⟩ := o
      dsimp only at c0 c1 i0 i1
      have HC : Hid (b < w.heap.size ∧ w.cell? ⟨b, off + j * 2, none⟩ = some (.int .i64 k) ∧ w.cell? ⟨b, off + j * 2 + 1, none⟩ = some (.int .i64 t)) := Lib.hid ⟨hb, c0, c1⟩
      have HCe : ∀ W, Below w.heap.size w W → W.cell? ⟨b, off + j * 2, none⟩ = some (.int .i64 k) ∧ W.cell? ⟨b, off + j * 2 + 1, none⟩ = some (.int .i64 t) := fun W h => ⟨(h.cell (p := ⟨b, off + j * 2, none⟩) hb).trans c0, (h.cell (p := ⟨b, off + j * 2 + 1, none⟩) hb).trans c1⟩
      have HRd := fun W => Lib.hid (refDo16_any m k t W)
      unfold MxPost2 at HRd
      have HDo := fun W h => Lib.hid (do_any HK.out m w.heap.size k t W h hfm i1)
      unfold DoPost at HDo
      obtain ⟨q, hq⟩ : ∃ q, q = doM m k t := ⟨_, rfl⟩
      rw [← hq] at HRd HDo
      have hf' : Fine q.1 := by rw [hq]; exact do_fine hfm k t
      obtain ⟨m', y⟩ := q
      dsimp only at HRd HDo hf'
      have HF' := Lib.hid hf'
      have HP := Lib.hid hP
      have n0 : (0 : Int) ≤ (j : Int) := by omega
      have n1 : (j : Int) < (ops.length : Int) := by omega
      have HJ := Lib.hid (And.intro hlt h80)
      clear c0 c1 i0 i1 hb hq hf' hfm hP hj hj80 hlt h80
      go_upto_region 5 with fail
      try simp only [Act.put, List.setIfInBounds_toArray, List.set_cons_zero, List.set_cons_succ]
      go_cut [6, 7] (fun x z wx => ∃ gn, x = .pointer (some ⟨gn, 0, none⟩) ∧ z = .int .i64 y ∧ Hid (Pz At w gx m wx ∧ wx.heap[gn]? = some (mxO m') ∧ w.heap.size < gn ∧ gn ≠ gx))
      case first =>
        refine wp_hold_act (fun a0 HA0 => ?_)
        have z0 : a0.tmps.size = 61 := by rw [HA0.out]; rfl
        have dd0 : a0.defers = [] := by rw [HA0.out]
        have f0_0 : a0.eval (.tmp 0) = .slice (some ⟨b, off, none⟩) ops.length cap := by rw [HA0.out]; rfl
        have f0_4 : a0.eval (.tmp 4) = .pointer (some ⟨gx, 0, none⟩) := by rw [HA0.out]; rfl
        have f0_5 : a0.eval (.tmp 5) = .int .i64 (j : Int) := by rw [HA0.out]; rfl
        refine wp_region_held_drew (S := fun w' => Pz At w gx m w') (by kernel_rfl) (HP.out.next HK.out (Below.refl _ _).drew) (fun hS => ?_)
        refine wpAnyH_take (i := 0) (v := mxV m) rfl (by kernel_rfl) (by kernel_rfl) (by kernel_rfl) (fun _ _ _ h => h) (yields_mx rfl (.tmp 4) rfl _ f0_4 m (fun _ h => h.x)) hS ?_
        obtain ⟨a1, hA1⟩ : ∃ a', a' = a0.put (some 22) (mxV m) := ⟨_, rfl⟩
        change wpAnyH _ _ _ _ _ _ _ (a0.put (some 22) (mxV m)) _
        rw [← hA1]
        have f1_22 : a1.eval (.tmp 22) = mxV m := by rw [hA1]; exact Act.eval_put_same _ _ _ (by omega)
        have f1_0 : a1.eval (.tmp 0) = .slice (some ⟨b, off, none⟩) ops.length cap := by rw [hA1]; exact (Act.eval_put_ne _ _ _ _ (by decide)).trans f0_0
        have f1_5 : a1.eval (.tmp 5) = .int .i64 (j : Int) := by rw [hA1]; exact (Act.eval_put_ne _ _ _ _ (by decide)).trans f0_5
        have z1 : a1.tmps.size = 61 := by rw [hA1, Act.size_put]; exact z0
        have dd1 : a1.defers = [] := by rw [hA1, Act.defers_put']; exact dd0
        have HA1 := Lib.hid hA1
        clear hA1 z0 dd0 f0_0 f0_4 f0_5
        refine wpAnyH_take (i := 1) (v := .slice (some ⟨b, off, none⟩) ops.length cap) rfl (by kernel_rfl) (by kernel_rfl) (by kernel_rfl) (fun _ _ _ h => h) (yields_move rfl (.tmp 0) rfl f1_0) hS ?_
        obtain ⟨a2, hA2⟩ : ∃ a', a' = a1.put (some 23) (.slice (some ⟨b, off, none⟩) ops.length cap) := ⟨_, rfl⟩
        change wpAnyH _ _ _ _ _ _ _ (a1.put (some 23) (.slice (some ⟨b, off, none⟩) ops.length cap)) _
        rw [← hA2]
        have f2_23 : a2.eval (.tmp 23) = .slice (some ⟨b, off, none⟩) ops.length cap := by rw [hA2]; exact Act.eval_put_same _ _ _ (by omega)
        have f2_22 : a2.eval (.tmp 22) = mxV m := by rw [hA2]; exact (Act.eval_put_ne _ _ _ _ (by decide)).trans f1_22
        have f2_5 : a2.eval (.tmp 5) = .int .i64 (j : Int) := by rw [hA2]; exact (Act.eval_put_ne _ _ _ _ (by decide)).trans f1_5
        have z2 : a2.tmps.size = 61 := by rw [hA2, Act.size_put]; exact z1
        have dd2 : a2.defers = [] := by rw [hA2, Act.defers_put']; exact dd1
        have HA2 := Lib.hid hA2
        clear hA2 z1 dd1 f1_22 f1_0 f1_5
        refine wpAnyH_take (i := 2) (v := .int .i64 (j : Int)) rfl (by kernel_rfl) (by kernel_rfl) (by kernel_rfl) (fun _ _ _ h => h) (yields_move rfl (.tmp 5) rfl f2_5) hS ?_
        obtain ⟨a3, hA3⟩ : ∃ a', a' = a2.put (some 24) (.int .i64 (j : Int)) := ⟨_, rfl⟩
        change wpAnyH _ _ _ _ _ _ _ (a2.put (some 24) (.int .i64 (j : Int))) _
        rw [← hA3]
        have f3_24 : a3.eval (.tmp 24) = .int .i64 (j : Int) := by rw [hA3]; exact Act.eval_put_same _ _ _ (by omega)
        have f3_23 : a3.eval (.tmp 23) = .slice (some ⟨b, off, none⟩) ops.length cap := by rw [hA3]; exact (Act.eval_put_ne _ _ _ _ (by decide)).trans f2_23
        have f3_22 : a3.eval (.tmp 22) = mxV m := by rw [hA3]; exact (Act.eval_put_ne _ _ _ _ (by decide)).trans f2_22
        have z3 : a3.tmps.size = 61 := by rw [hA3, Act.size_put]; exact z2
        have dd3 : a3.defers = [] := by rw [hA3, Act.defers_put']; exact dd2
        have HA3 := Lib.hid hA3
        clear hA3 z2 dd2 f2_23 f2_22 f2_5
        refine wpAnyH_take (i := 3) (v := .pointer (some ⟨b, off + j * 2, none⟩)) rfl (by kernel_rfl) (by kernel_rfl) (by kernel_rfl) (fun _ _ _ h => h) (yields_idx rfl (.tmp 23) (.tmp 24) rfl _ _ _ _ j f3_23 f3_24 n0 n1) hS ?_
        obtain ⟨a4, hA4⟩ : ∃ a', a' = a3.put (some 25) (.pointer (some ⟨b, off + j * 2, none⟩)) := ⟨_, rfl⟩
        change wpAnyH _ _ _ _ _ _ _ (a3.put (some 25) (.pointer (some ⟨b, off + j * 2, none⟩))) _
        rw [← hA4]
        have f4_25 : a4.eval (.tmp 25) = .pointer (some ⟨b, off + j * 2, none⟩) := by rw [hA4]; exact Act.eval_put_same _ _ _ (by omega)
        have f4_22 : a4.eval (.tmp 22) = mxV m := by rw [hA4]; exact (Act.eval_put_ne _ _ _ _ (by decide)).trans f3_22
        have z4 : a4.tmps.size = 61 := by rw [hA4, Act.size_put]; exact z3
        have dd4 : a4.defers = [] := by rw [hA4, Act.defers_put']; exact dd3
        have HA4 := Lib.hid hA4
        clear hA4 z3 dd3 f3_24 f3_23 f3_22
        refine wpAnyH_take (i := 4) (v := .agg #[.int .i64 k, .int .i64 t]) rfl (by kernel_rfl) (by kernel_rfl) (by kernel_rfl) (fun _ _ _ h => h) (yields_op rfl (.tmp 25) rfl _ _ f4_25 k t (fun _ h => HCe _ h.below)) hS ?_
        obtain ⟨a5, hA5⟩ : ∃ a', a' = a4.put (some 26) (.agg #[.int .i64 k, .int .i64 t]) := ⟨_, rfl⟩
        change wpAnyH _ _ _ _ _ _ _ (a4.put (some 26) (.agg #[.int .i64 k, .int .i64 t])) _
        rw [← hA5]
        have f5_26 : a5.eval (.tmp 26) = .agg #[.int .i64 k, .int .i64 t] := by rw [hA5]; exact Act.eval_put_same _ _ _ (by omega)
        have f5_22 : a5.eval (.tmp 22) = mxV m := by rw [hA5]; exact (Act.eval_put_ne _ _ _ _ (by decide)).trans f4_22
        have z5 : a5.tmps.size = 61 := by rw [hA5, Act.size_put]; exact z4
        have dd5 : a5.defers = [] := by rw [hA5, Act.defers_put']; exact dd4
        have HA5 := Lib.hid hA5
        clear hA5 z4 dd4 f4_25 f4_22
        refine wpAnyH_ready (rs := [5, 9]) (by kernel_rfl) (by simp) (AllReadyH.cons (by simp only [List.getElem?_toArray, List.getElem?_cons_succ, List.getElem?_cons_zero]; rfl) (fun K hK => ?_) (AllReadyH.cons (by simp only [List.getElem?_toArray, List.getElem?_cons_succ, List.getElem?_cons_zero]; rfl) (fun K hK => ?_) AllReadyH.nil))
        · skip
          refine step_call (by rfl) 7 #[.tmp 22, .tmp 26] #[28, 33] (by rfl) #[mxV m, .agg #[.int .i64 k, .int .i64 t]] (by simp only [List.map_toArray, List.map_cons, List.map_nil, f5_22, f5_26]) Try.func7 (by kernel_rfl) rfl (HRd wr.drew).out (fun e' W2 hR => ?_)
          obtain ⟨rfl, hb2⟩ := hR
          refine ⟨_, rfl, hK.out _ _ (hS.next HK.out hb2) (fun hS => ?_)⟩
          obtain ⟨a6, hA6⟩ : ∃ a', a' = a5.put (some 27) (.tuple #[mxV m', .int .i64 y]) := ⟨_, rfl⟩
          change wpAnyH _ _ _ _ _ _ _ (a5.put (some 27) (.tuple #[mxV m', .int .i64 y])) _
          rw [← hA6]
          have f6_27 : a6.eval (.tmp 27) = .tuple #[mxV m', .int .i64 y] := by rw [hA6]; exact Act.eval_put_same _ _ _ (by omega)
          have z6 : a6.tmps.size = 61 := by rw [hA6, Act.size_put]; exact z5
          have dd6 : a6.defers = [] := by rw [hA6, Act.defers_put']; exact dd5
          have HA6 := Lib.hid hA6
          clear hA6 z5 dd5 f5_26 f5_22
          refine wpAnyH_take (i := 6) (v := .tuple #[mxV m', .int .i64 y]) rfl (by kernel_rfl) (by kernel_rfl) (by kernel_rfl) (fun _ _ _ h => h) (yields_move rfl (.tmp 27) rfl f6_27) hS ?_
          obtain ⟨a7, hA7⟩ : ∃ a', a' = a6.put (some 21) (.tuple #[mxV m', .int .i64 y]) := ⟨_, rfl⟩
          change wpAnyH _ _ _ _ _ _ _ (a6.put (some 21) (.tuple #[mxV m', .int .i64 y])) _
          rw [← hA7]
          have f7_21 : a7.eval (.tmp 21) = .tuple #[mxV m', .int .i64 y] := by rw [hA7]; exact Act.eval_put_same _ _ _ (by omega)
          have z7 : a7.tmps.size = 61 := by rw [hA7, Act.size_put]; exact z6
          have dd7 : a7.defers = [] := by rw [hA7, Act.defers_put']; exact dd6
          have HA7 := Lib.hid hA7
          clear hA7 z6 dd6 f6_27
          refine wpAnyH_take (i := 7) (v := mxV m') rfl (by kernel_rfl) (by kernel_rfl) (by kernel_rfl) (fun _ _ _ h => h) (yields_part rfl (.tmp 21) 0 rfl _ _ f7_21 rfl) hS ?_
          obtain ⟨a8, hA8⟩ : ∃ a', a' = a7.put (some 28) (mxV m') := ⟨_, rfl⟩
          change wpAnyH _ _ _ _ _ _ _ (a7.put (some 28) (mxV m')) _
          rw [← hA8]
          have f8_28 : a8.eval (.tmp 28) = mxV m' := by rw [hA8]; exact Act.eval_put_same _ _ _ (by omega)
          have f8_21 : a8.eval (.tmp 21) = .tuple #[mxV m', .int .i64 y] := by rw [hA8]; exact (Act.eval_put_ne _ _ _ _ (by decide)).trans f7_21
          have z8 : a8.tmps.size = 61 := by rw [hA8, Act.size_put]; exact z7
          have dd8 : a8.defers = [] := by rw [hA8, Act.defers_put']; exact dd7
          have HA8 := Lib.hid hA8
          clear hA8 z7 dd7 f7_21
          refine wpAnyH_take (i := 8) (v := .int .i64 y) rfl (by kernel_rfl) (by kernel_rfl) (by kernel_rfl) (fun _ _ _ h => h) (yields_part rfl (.tmp 21) 1 rfl _ _ f8_21 rfl) hS ?_
          obtain ⟨a9, hA9⟩ : ∃ a', a' = a8.put (some 29) (.int .i64 y) := ⟨_, rfl⟩
          change wpAnyH _ _ _ _ _ _ _ (a8.put (some 29) (.int .i64 y)) _
          rw [← hA9]
          have f9_29 : a9.eval (.tmp 29) = .int .i64 y := by rw [hA9]; exact Act.eval_put_same _ _ _ (by omega)
          have f9_28 : a9.eval (.tmp 28) = mxV m' := by rw [hA9]; exact (Act.eval_put_ne _ _ _ _ (by decide)).trans f8_28
          have z9 : a9.tmps.size = 61 := by rw [hA9, Act.size_put]; exact z8
          have dd9 : a9.defers = [] := by rw [hA9, Act.defers_put']; exact dd8
          have HA9 := Lib.hid hA9
          clear hA9 z8 dd8 f8_28 f8_21
          refine wpAnyH_ready (rs := [9]) (by kernel_rfl) (by simp) (AllReadyH.cons (by simp only [List.getElem?_toArray, List.getElem?_cons_succ, List.getElem?_cons_zero]; rfl) (fun K hK => ?_) AllReadyH.nil)
          refine step_malloc (by rfl) (by rfl) ?_
          have hg := heap_alloc_new W2 (mxO zM)
          have hfar : w.heap.size < W2.heap.size ∧ W2.heap.size ≠ gx := by have h1 := lt_of_block hS.x; have h2 := hS.far; omega
          refine hK.out _ _ (hS.next HK.out ((Below.refl _ _).alloc (Nat.le_refl _) _)) (fun hS => ?_)
          obtain ⟨a10, hA10⟩ : ∃ a', a' = a9.put (some 6) (.pointer (some ⟨W2.heap.size, 0, none⟩)) := ⟨_, rfl⟩
          change wpAnyH _ _ _ _ _ _ _ (a9.put (some 6) (.pointer (some ⟨W2.heap.size, 0, none⟩))) _
          rw [← hA10]
          have f10_6 : a10.eval (.tmp 6) = .pointer (some ⟨W2.heap.size, 0, none⟩) := by rw [hA10]; exact Act.eval_put_same _ _ _ (by omega)
          have f10_29 : a10.eval (.tmp 29) = .int .i64 y := by rw [hA10]; exact (Act.eval_put_ne _ _ _ _ (by decide)).trans f9_29
          have f10_28 : a10.eval (.tmp 28) = mxV m' := by rw [hA10]; exact (Act.eval_put_ne _ _ _ _ (by decide)).trans f9_28
          have z10 : a10.tmps.size = 61 := by rw [hA10, Act.size_put]; exact z9
          have dd10 : a10.defers = [] := by rw [hA10, Act.defers_put']; exact dd9
          have HA10 := Lib.hid hA10
          clear hA10 z9 dd9 f9_29 f9_28
          refine wpAnyH_ready (rs := [10]) (by kernel_rfl) (by simp) (AllReadyH.cons (by simp only [List.getElem?_toArray, List.getElem?_cons_succ, List.getElem?_cons_zero]; rfl) (fun K hK => ?_) AllReadyH.nil)
          refine step_mstore (by rfl) (.tmp 6) (.tmp 28) (by rfl) W2.heap.size zM m' f10_6 f10_28 hg ?_
          have hg2 := mx_turned hg m'
          refine hK.out _ _ (hS.row HK.out hfar.1 hfar.2 _) (fun hS => ?_)
          change wpAnyH _ _ _ _ _ _ _ a10 _
          refine wpAnyH_take (i := 11) (v := .int .i64 y) rfl (by kernel_rfl) (by kernel_rfl) (by kernel_rfl) (fun _ _ _ h => h) (yields_assign rfl (.tmp 29) rfl f10_29) hS ?_
          obtain ⟨a11, hA11⟩ : ∃ a', a' = a10.put (some 7) (.int .i64 y) := ⟨_, rfl⟩
          change wpAnyH _ _ _ _ _ _ _ (a10.put (some 7) (.int .i64 y)) _
          rw [← hA11]
          have f11_7 : a11.eval (.tmp 7) = .int .i64 y := by rw [hA11]; exact Act.eval_put_same _ _ _ (by omega)
          have z11 : a11.tmps.size = 61 := by rw [hA11, Act.size_put]; exact z10
          have dd11 : a11.defers = [] := by rw [hA11, Act.defers_put']; exact dd10
          have HA11 := Lib.hid hA11
          clear hA11 z10 dd10 f10_6 f10_29 f10_28
          refine wpAnyH_done (by kernel_rfl) ?_ _
          have HE := Lib.hid (And.intro hS (And.intro hg2 hfar))
          clear hS hg2 hfar hK
          rw [HA11.out]
          rw [HA10.out]
          rw [HA9.out]
          rw [HA8.out]
          rw [HA7.out]
          rw [HA6.out]
          rw [HA5.out]
          rw [HA4.out]
          rw [HA3.out]
          rw [HA2.out]
          rw [HA1.out]
          rw [HA0.out]
          simp only [Act.put, List.setIfInBounds_toArray, List.set_cons_zero, List.set_cons_succ]
          go_wp2_with fail
          go_meet
          exact ⟨_, rfl, rfl, HE⟩
        · skip
          refine step_malloc (by rfl) (by rfl) ?_
          have hg := heap_alloc_new wr.drew (mxO zM)
          have hfar : w.heap.size < wr.drew.heap.size ∧ wr.drew.heap.size ≠ gx := by have h1 := lt_of_block hS.x; have h2 := hS.far; omega
          refine hK.out _ _ (hS.next HK.out ((Below.refl _ _).alloc (Nat.le_refl _) _)) (fun hS => ?_)
          obtain ⟨a6, hA6⟩ : ∃ a', a' = a5.put (some 6) (.pointer (some ⟨wr.drew.heap.size, 0, none⟩)) := ⟨_, rfl⟩
          change wpAnyH _ _ _ _ _ _ _ (a5.put (some 6) (.pointer (some ⟨wr.drew.heap.size, 0, none⟩))) _
          rw [← hA6]
          have f6_6 : a6.eval (.tmp 6) = .pointer (some ⟨wr.drew.heap.size, 0, none⟩) := by rw [hA6]; exact Act.eval_put_same _ _ _ (by omega)
          have f6_26 : a6.eval (.tmp 26) = .agg #[.int .i64 k, .int .i64 t] := by rw [hA6]; exact (Act.eval_put_ne _ _ _ _ (by decide)).trans f5_26
          have f6_22 : a6.eval (.tmp 22) = mxV m := by rw [hA6]; exact (Act.eval_put_ne _ _ _ _ (by decide)).trans f5_22
          have z6 : a6.tmps.size = 61 := by rw [hA6, Act.size_put]; exact z5
          have dd6 : a6.defers = [] := by rw [hA6, Act.defers_put']; exact dd5
          have HA6 := Lib.hid hA6
          clear hA6 z5 dd5 f5_26 f5_22
          refine wpAnyH_ready (rs := [5]) (by kernel_rfl) (by simp) (AllReadyH.cons (by simp only [List.getElem?_toArray, List.getElem?_cons_succ, List.getElem?_cons_zero]; rfl) (fun K hK => ?_) AllReadyH.nil)
          refine step_call (by rfl) 7 #[.tmp 22, .tmp 26] #[28, 33] (by rfl) #[mxV m, .agg #[.int .i64 k, .int .i64 t]] (by simp only [List.map_toArray, List.map_cons, List.map_nil, f6_22, f6_26]) Try.func7 (by kernel_rfl) rfl (HRd (wr.drew.alloc (mxO zM))).out (fun e' W2 hR => ?_)
          obtain ⟨rfl, hb2⟩ := hR
          refine ⟨_, rfl, hK.out _ _ (hS.next HK.out hb2) (fun hS => ?_)⟩
          obtain ⟨a7, hA7⟩ : ∃ a', a' = a6.put (some 27) (.tuple #[mxV m', .int .i64 y]) := ⟨_, rfl⟩
          change wpAnyH _ _ _ _ _ _ _ (a6.put (some 27) (.tuple #[mxV m', .int .i64 y])) _
          rw [← hA7]
          have f7_27 : a7.eval (.tmp 27) = .tuple #[mxV m', .int .i64 y] := by rw [hA7]; exact Act.eval_put_same _ _ _ (by omega)
          have f7_6 : a7.eval (.tmp 6) = .pointer (some ⟨wr.drew.heap.size, 0, none⟩) := by rw [hA7]; exact (Act.eval_put_ne _ _ _ _ (by decide)).trans f6_6
          have z7 : a7.tmps.size = 61 := by rw [hA7, Act.size_put]; exact z6
          have dd7 : a7.defers = [] := by rw [hA7, Act.defers_put']; exact dd6
          have HA7 := Lib.hid hA7
          clear hA7 z6 dd6 f6_6 f6_26 f6_22
          replace hg := (hb2.block _ (lt_of_block hg)).trans hg
          refine wpAnyH_take (i := 6) (v := .tuple #[mxV m', .int .i64 y]) rfl (by kernel_rfl) (by kernel_rfl) (by kernel_rfl) (fun _ _ _ h => h) (yields_move rfl (.tmp 27) rfl f7_27) hS ?_
          obtain ⟨a8, hA8⟩ : ∃ a', a' = a7.put (some 21) (.tuple #[mxV m', .int .i64 y]) := ⟨_, rfl⟩
          change wpAnyH _ _ _ _ _ _ _ (a7.put (some 21) (.tuple #[mxV m', .int .i64 y])) _
          rw [← hA8]
          have f8_21 : a8.eval (.tmp 21) = .tuple #[mxV m', .int .i64 y] := by rw [hA8]; exact Act.eval_put_same _ _ _ (by omega)
          have f8_6 : a8.eval (.tmp 6) = .pointer (some ⟨wr.drew.heap.size, 0, none⟩) := by rw [hA8]; exact (Act.eval_put_ne _ _ _ _ (by decide)).trans f7_6
          have z8 : a8.tmps.size = 61 := by rw [hA8, Act.size_put]; exact z7
          have dd8 : a8.defers = [] := by rw [hA8, Act.defers_put']; exact dd7
          have HA8 := Lib.hid hA8
          clear hA8 z7 dd7 f7_27 f7_6
          refine wpAnyH_take (i := 7) (v := mxV m') rfl (by kernel_rfl) (by kernel_rfl) (by kernel_rfl) (fun _ _ _ h => h) (yields_part rfl (.tmp 21) 0 rfl _ _ f8_21 rfl) hS ?_
          obtain ⟨a9, hA9⟩ : ∃ a', a' = a8.put (some 28) (mxV m') := ⟨_, rfl⟩
          change wpAnyH _ _ _ _ _ _ _ (a8.put (some 28) (mxV m')) _
          rw [← hA9]
          have f9_28 : a9.eval (.tmp 28) = mxV m' := by rw [hA9]; exact Act.eval_put_same _ _ _ (by omega)
          have f9_21 : a9.eval (.tmp 21) = .tuple #[mxV m', .int .i64 y] := by rw [hA9]; exact (Act.eval_put_ne _ _ _ _ (by decide)).trans f8_21
          have f9_6 : a9.eval (.tmp 6) = .pointer (some ⟨wr.drew.heap.size, 0, none⟩) := by rw [hA9]; exact (Act.eval_put_ne _ _ _ _ (by decide)).trans f8_6
          have z9 : a9.tmps.size = 61 := by rw [hA9, Act.size_put]; exact z8
          have dd9 : a9.defers = [] := by rw [hA9, Act.defers_put']; exact dd8
          have HA9 := Lib.hid hA9
          clear hA9 z8 dd8 f8_21 f8_6
          refine wpAnyH_take (i := 8) (v := .int .i64 y) rfl (by kernel_rfl) (by kernel_rfl) (by kernel_rfl) (fun _ _ _ h => h) (yields_part rfl (.tmp 21) 1 rfl _ _ f9_21 rfl) hS ?_
          obtain ⟨a10, hA10⟩ : ∃ a', a' = a9.put (some 29) (.int .i64 y) := ⟨_, rfl⟩
          change wpAnyH _ _ _ _ _ _ _ (a9.put (some 29) (.int .i64 y)) _
          rw [← hA10]
          have f10_29 : a10.eval (.tmp 29) = .int .i64 y := by rw [hA10]; exact Act.eval_put_same _ _ _ (by omega)
          have f10_28 : a10.eval (.tmp 28) = mxV m' := by rw [hA10]; exact (Act.eval_put_ne _ _ _ _ (by decide)).trans f9_28
          have f10_6 : a10.eval (.tmp 6) = .pointer (some ⟨wr.drew.heap.size, 0, none⟩) := by rw [hA10]; exact (Act.eval_put_ne _ _ _ _ (by decide)).trans f9_6
          have z10 : a10.tmps.size = 61 := by rw [hA10, Act.size_put]; exact z9
          have dd10 : a10.defers = [] := by rw [hA10, Act.defers_put']; exact dd9
          have HA10 := Lib.hid hA10
          clear hA10 z9 dd9 f9_28 f9_21 f9_6
          refine wpAnyH_ready (rs := [10]) (by kernel_rfl) (by simp) (AllReadyH.cons (by simp only [List.getElem?_toArray, List.getElem?_cons_succ, List.getElem?_cons_zero]; rfl) (fun K hK => ?_) AllReadyH.nil)
          refine step_mstore (by rfl) (.tmp 6) (.tmp 28) (by rfl) wr.drew.heap.size zM m' f10_6 f10_28 hg ?_
          have hg2 := mx_turned hg m'
          refine hK.out _ _ (hS.row HK.out hfar.1 hfar.2 _) (fun hS => ?_)
          change wpAnyH _ _ _ _ _ _ _ a10 _
          refine wpAnyH_take (i := 11) (v := .int .i64 y) rfl (by kernel_rfl) (by kernel_rfl) (by kernel_rfl) (fun _ _ _ h => h) (yields_assign rfl (.tmp 29) rfl f10_29) hS ?_
          obtain ⟨a11, hA11⟩ : ∃ a', a' = a10.put (some 7) (.int .i64 y) := ⟨_, rfl⟩
          change wpAnyH _ _ _ _ _ _ _ (a10.put (some 7) (.int .i64 y)) _
          rw [← hA11]
          have f11_7 : a11.eval (.tmp 7) = .int .i64 y := by rw [hA11]; exact Act.eval_put_same _ _ _ (by omega)
          have z11 : a11.tmps.size = 61 := by rw [hA11, Act.size_put]; exact z10
          have dd11 : a11.defers = [] := by rw [hA11, Act.defers_put']; exact dd10
          have HA11 := Lib.hid hA11
          clear hA11 z10 dd10 f10_29 f10_28 f10_6
          refine wpAnyH_done (by kernel_rfl) ?_ _
          have HE := Lib.hid (And.intro hS (And.intro hg2 hfar))
          clear hS hg2 hfar hK
          rw [HA11.out]
          rw [HA10.out]
          rw [HA9.out]
          rw [HA8.out]
          rw [HA7.out]
          rw [HA6.out]
          rw [HA5.out]
          rw [HA4.out]
          rw [HA3.out]
          rw [HA2.out]
          rw [HA1.out]
          rw [HA0.out]
          simp only [Act.put, List.setIfInBounds_toArray, List.set_cons_zero, List.set_cons_succ]
          go_wp2_with fail
          go_meet
          exact ⟨_, rfl, rfl, HE⟩
      case rest =>
        obtain ⟨gn, rfl, rfl, HW⟩ := hcut
        clear HP HRd
        go_upto_region 7 with (first | refine wm_load rfl _ rfl gn rfl m' HW.out.2.1 ?_ | refine wm_store rfl _ _ rfl gx m m' rfl rfl HW.out.1.x ?_)
        try simp only [Act.put, List.setIfInBounds_toArray, List.set_cons_zero, List.set_cons_succ]
        refine wp_hold_worldM (fun W3 HW3 => ?_)
        have H3 : Hid (Below w.heap.size w W3 ∧ At W3 w.heap.size m ∧ W3.heap[gx]? = some (mxO m') ∧ w.heap.size < gx) := Lib.hid (by
          rw [HW3.out]
          have h := HW.out.1
          exact ⟨row_belowM h.below (Nat.le_of_lt h.far) _, HK.out.loc _ _ _ _ h.at' (row_far _ (by have := h.far; omega)) (by show wc.heap.size ≤ (wc.heap.modify _ _).size; rw [Array.size_modify]; exact Nat.le_refl _), mx_turned h.x _, h.far⟩)
        clear HW3 HW
        obtain ⟨c0, c1⟩ := HCe W3 H3.out.1
        obtain ⟨x0, x1, x2⟩ := mx_cells H3.out.2.2.1
        have HX := fun W (h : Below w.heap.size w W) (hx : W.heap[gx]? = some (mxO m')) => And.intro (HCe W h) (mx_cells hx)
        have qy : (y != y) = false := by simp
        have q0 : (m'.o != m'.o) = false := by simp
        have q1 : (m'.bad != m'.bad) = false := by simp
        have q2 : (m'.lost != m'.lost) = false := by simp
        have HD3 := HDo W3.drew (HK.out.loc _ _ _ _ H3.out.2.1 rfl (Nat.le_refl _))
        have HOw := fun W h => Lib.hid (HK.out.owner W w.heap.size m' h HF'.out)
        have HBa := fun W h => Lib.hid (HK.out.bad W w.heap.size m' h HF'.out)
        have HLo := fun W h => Lib.hid (HK.out.lost W w.heap.size m' h HF'.out)
        go_region_held3 (fun w' => w'.cell? ⟨b, off + j * 2, none⟩ = some (.int .i64 k) ∧ w'.cell? ⟨b, off + j * 2 + 1, none⟩ = some (.int .i64 t) ∧ w'.cell? ⟨gx, 0, none⟩ = some (.int .i64 m'.o) ∧ w'.cell? ⟨gx, 1, none⟩ = some (.bool m'.bad) ∧ w'.cell? ⟨gx, 2, none⟩ = some (.bool m'.lost)) (go_keep)
          (first
            | (go_at_call 8; refine HD3.out.mono ?_; rintro _ w4 ⟨rfl, ha4, ho4⟩; have H4 : Hid (Below w.heap.size w w4 ∧ At w4 w.heap.size m' ∧ w4.heap[gx]? = some (mxO m')) := Lib.hid ⟨ho4.below H3.out.1.drew (Nat.le_refl _) H3.out.1.drew.size, ha4, (ho4.block gx (lt_of_block H3.out.2.2.1) (by have := H3.out.2.2.2; omega)).trans H3.out.2.2.1⟩; obtain ⟨⟨e4, f4⟩, y4, z4, u4⟩ := HX w4 H4.out.1 H4.out.2.2)
            | (go_at_call 9; refine (HOw w4 H4.out.2.1).out.mono ?_; rintro _ w5 ⟨rfl, hb5⟩; have H5 : Hid (Below w.heap.size w w5 ∧ At w5 w.heap.size m' ∧ w5.heap[gx]? = some (mxO m')) := Lib.hid ⟨H4.out.1.trans (hb5.mono H4.out.1.size), HK.out.loc _ _ _ _ H4.out.2.1 (hb5.block _ (HK.out.lt _ _ _ H4.out.2.1)) hb5.size, (hb5.block _ (lt_of_block H4.out.2.2)).trans H4.out.2.2⟩; obtain ⟨⟨e5, f5⟩, y5, z5, u5⟩ := HX w5 H5.out.1 H5.out.2.2)
            | (go_at_call 10; refine (HBa w5 H5.out.2.1).out.mono ?_; rintro _ w6 ⟨rfl, hb6⟩; have H6 : Hid (Below w.heap.size w w6 ∧ At w6 w.heap.size m' ∧ w6.heap[gx]? = some (mxO m')) := Lib.hid ⟨H5.out.1.trans (hb6.mono H5.out.1.size), HK.out.loc _ _ _ _ H5.out.2.1 (hb6.block _ (HK.out.lt _ _ _ H5.out.2.1)) hb6.size, (hb6.block _ (lt_of_block H5.out.2.2)).trans H5.out.2.2⟩; obtain ⟨⟨e6, f6⟩, y6, z6, u6⟩ := HX w6 H6.out.1 H6.out.2.2)
            | (go_at_call 11; refine (HLo w6 H6.out.2.1).out.mono ?_; rintro _ w7 ⟨rfl, hb7⟩; have H7 : Hid (Below w.heap.size w w7 ∧ At w7 w.heap.size m' ∧ w7.heap[gx]? = some (mxO m')) := Lib.hid ⟨H6.out.1.trans (hb7.mono H6.out.1.size), HK.out.loc _ _ _ _ H6.out.2.1 (hb7.block _ (HK.out.lt _ _ _ H6.out.2.1)) hb7.size, (hb7.block _ (lt_of_block H6.out.2.2)).trans H6.out.2.2⟩; obtain ⟨⟨e7, f7⟩, y7, z7, u7⟩ := HX w7 H7.out.1 H7.out.2.2))
        all_goals
          have H8 := Lib.hid (And.intro H7.out H3.out.2.2.2)
          clear H4 H5 H6 H7 ha4 ho4 hb5 hb6 hb7 e4 f4 y4 z4 u4 e5 f5 y5 z5 u5 e6 f6 y6 z6 u6 e7 f7 y7 z7 u7 c0 c1 x0 x1 x2 HX
          go_wp2_with fail
          exact ⟨⟨j + 1, m', by go_num, by have := HJ.out.1; omega, by have := HJ.out.2; omega, HF'.out, ⟨H8.out.1.1, H8.out.1.2.1, H8.out.1.2.2, H8.out.2⟩⟩, by have := HJ.out.1; simp [intOf]; omega⟩
    · have HB := Lib.hid hP.below
      clear hP hfm HI HO
      go_wp2_with fail
      all_goals
        refine (HL _).out.mono ?_
        rintro _ w2 ⟨rfl, hb⟩
        go_wp2
        go_ret
        exact ⟨rfl, HB.out.trans (hb.mono HB.out.size)⟩
end Go.Proofs.Ytelpkfldmgeaiaa.mut
