/-
  A clone has the same, and goes on by itself: the walk over what is asked of the program's calls. No condition. Printed by tools/mkpoapart.py.
-/
import Derived.Test.YthdencddocgbjaaPoTwo
namespace Go.Proofs.Ythdencddocgbjaa.pol
open Go.RowKit Go.ChangeShapes
open Go.Proofs.Ythdencddocgbjaa.obj
set_option linter.unusedVariables false
set_option linter.unusedSimpArgs false

/-- The same, and the clone beside it. -/
def Ez (At : World → Nat → Px → Prop) (w : World) (g gx gc : Nat) (m m2 : Px) (r : Rx) (W : World) : Prop := Cz At w g gx m m2 r W ∧ At W gc m2 ∧ g ≠ gc
section
variable {At : World → Nat → Px → Prop} {w W W' : World} {g gx gc : Nat} {m m2 : Px} {r : Rx}
theorem Ez.next (K : Keeps At) (h : Ez At w g gx gc m m2 r W) (hb : Below W.heap.size W W') : Ez At w g gx gc m m2 r W' :=
  ⟨h.1.next K hb, K.loc _ _ _ _ h.2.1 (hb.block _ (K.lt _ _ _ h.2.1)) hb.size, h.2.2⟩
theorem Ez.only (K : Keeps At) {m' : Px} (h : Ez At w g gx gc m m2 r W) (ho : Only g W W') (ha : At W' g m') : Ez At w g gx gc m' m2 r W' :=
  ⟨h.1.only ho ha, K.loc _ _ _ _ h.2.1 (ho.block _ (K.lt _ _ _ h.2.1) (fun e => h.2.2 e.symm)) ho.size, h.2.2⟩
end

set_option maxRecDepth 100000 in
set_option maxHeartbeats 8000000 in
theorem apart_walk {At : World → Nat → Px → Prop} (K : Keeps At) (total : Int) (A : Option Addr) (cap : Nat) (ops : List (Int × Int × Int)) (A2 : Option Addr) (cap2 : Nat) (ops2 : List (Int × Int × Int)) (w : World) (hi1 : I64 total) (ho : OpsAt w A ops) (hi : ∀ j, j < ops.length → I64 (ops.getD j (0, 0, 0)).1 ∧ I64 (ops.getD j (0, 0, 0)).2.1 ∧ I64 (ops.getD j (0, 0, 0)).2.2) (ho2 : OpsAt w A2 ops2) (hi2 : ∀ j, j < ops2.length → I64 (ops2.getD j (0, 0, 0)).1 ∧ I64 (ops2.getD j (0, 0, 0)).2.1 ∧ I64 (ops2.getD j (0, 0, 0)).2.2) (hl : ops.length ≤ 9223372036854775807) (hl2 : ops2.length ≤ 9223372036854775807) :
    Calls Try.prog 5 #[.int .i64 total, .slice A ops.length cap, .slice A2 ops2.length cap2] w fun e w' => e = .returned (.bool true) ∧ Below w.heap.size w w' := by
  have HK := Lib.hid K
  have HO := Lib.hid ho
  have HI := Lib.hid hi
  have HO2 := Lib.hid ho2
  have HI2 := Lib.hid hi2
  have HL := fun W => Lib.hid (lives_any K W)
  have C0 := Lib.hid (K.new total w hi1)
  have HN := fun W => Lib.hid (refNew20_any total W)
  unfold NewPost at HN
  have hf0 := new_fine total
  have hz0 : shares (newP total).h = [] := shares_zero
  generalize newP total = m0 at *
  obtain ⟨r0, hr0⟩ : ∃ r0 : Rx, r0 = ⟨m0.total, none, 0, 0⟩ := ⟨_, rfl⟩
  have HR0 : Hid (Rof r0 m0 ∧ r0.A = none) := Lib.hid (by
    unfold Rof
    rw [hz0, hr0]
    exact ⟨rfl, rfl⟩)
  rw [← hr0] at HN
  have HF0 := Lib.hid hf0
  have HZ0 := Lib.hid hz0
  clear K ho hi ho2 hi2 hi1 hf0 hz0 hr0
  go_enter Try.func5, Try.ntmps5
  go_wp2_with fail
  refine C0.out.mono ?_
  rintro _ w1 ⟨g, rfl, hg, ha, hb⟩
  have H1 : Hid (Hs At w g m0 w1) := Lib.hid ⟨hb, hg, ha⟩
  clear hg ha hb C0
  go_wp2_with fail
  refine (HN _).out.mono ?_
  rintro _ w2 ⟨rfl, hb⟩
  have H2 := Lib.hid (hs_next HK.out H1.out hb)
  have HP2 : Hid (Cz At w g w2.heap.size m0 m0 r0 ((w2.alloc (rxO rxZ)).setRow w2.heap.size (rxC r0).toArray)) := Lib.hid ⟨bz_new HK.out H2.out r0, by
    rw [HZ0.out]
    exact SAt.nil _ _ _⟩
  clear hb HN H1
  go_upto_region 2 with (first | refine wrx_alloc rfl rfl ?_ | refine wrx_store rfl _ _ rfl w2.heap.size rxZ r0 rfl rfl (heap_alloc_new w2 (rxO rxZ)) ?_)
  try simp only [Act.put, List.setIfInBounds_toArray, List.set_cons_zero, List.set_cons_succ]
  generalize (w2.alloc (rxO rxZ)).setRow w2.heap.size (rxC r0).toArray = W2 at *
  generalize w2.heap.size = gx at *
  clear H2
  go_wp2_with fail
  go_loopw [9] (fun i wr => ∃ (j : Nat) (m : Px) (r : Rx), i = .int .i64 (j : Int) ∧ j ≤ ops.length ∧ j ≤ 30 ∧ Fine m ∧ Rof r m ∧ Cz At w g gx m m r wr) (fun i _ => ops.length - (intOf i).toNat)
  case atStart => exact ⟨0, m0, r0, rfl, Nat.zero_le _, Nat.zero_le _, HF0.out, HR0.out.1, HP2.out⟩
  case round =>
    obtain ⟨j, m, r, rfl, hj, hj80, hfm, hrm, hP⟩ := hrel
    clear HP2 HF0 HR0 HZ0
    by_cases hlt : j < ops.length ∧ j < 30
    · obtain ⟨hlt, h80⟩ := hlt
      have d1 : decide (j < ops.length) = true := by simp; omega
      have d2 : decide ((j : Int) < 30) = true := by simp; omega
      obtain ⟨b, off, rfl, hb, c0w, c1w, c2w⟩ := HO.out j hlt
      obtain ⟨i0, i1, i2⟩ := HI.out j hlt
      generalize ops.getD j (0, 0, 0) = o at *
      obtain ⟨k, t, n⟩ := o
      dsimp only at c0w c1w c2w i0 i1 i2
      have HCe : ∀ W, Below w.heap.size w W → W.cell? ⟨b, off + j * 3, none⟩ = some (.int .i64 k) ∧ W.cell? ⟨b, off + j * 3 + 1, none⟩ = some (.int .i64 t) ∧ W.cell? ⟨b, off + j * 3 + 2, none⟩ = some (.int .i64 n) := fun W h => ⟨(h.cell (p := ⟨b, off + j * 3, none⟩) hb).trans c0w, (h.cell (p := ⟨b, off + j * 3 + 1, none⟩) hb).trans c1w, (h.cell (p := ⟨b, off + j * 3 + 2, none⟩) hb).trans c2w⟩
      have HRd := fun W B h1 h2 => Lib.hid (rd_any hfm hrm k t n W B h1 h2)
      have D := Lib.hid (do_any HK.out m g k t n wr hP.1.hs.2.2 hfm i1 i2)
      unfold DoPost at D
      obtain ⟨q, hq⟩ : ∃ q, q = doP m k t n := ⟨_, rfl⟩
      rw [← hq] at HRd D
      have hf' : Fine q.1 := by rw [hq]; exact do_fine hfm k t n
      obtain ⟨m', y⟩ := q
      dsimp only at HRd D hf'
      have HF' := Lib.hid hf'
      have HP0 := Lib.hid hP
      have n0 : (0 : Int) ≤ (j : Int) := by omega
      have n1 : (j : Int) < (ops.length : Int) := by omega
      have HJ := Lib.hid (And.intro hlt h80)
      obtain ⟨c0, c1, c2⟩ := HCe wr hP.1.hs.1
      clear c0w c1w c2w i0 i1 i2 hb hq hf' hfm hrm hP hj hj80 hlt h80
      go_wp2_with fail
      refine D.out.mono ?_
      rintro _ wr ⟨rfl, ha, ho⟩
      have HP := Lib.hid (HP0.out.only ho ha)
      clear ha ho D HP0 c0 c1 c2
      go_upto_region 6 with fail
      try simp only [Act.put, List.setIfInBounds_toArray, List.set_cons_zero, List.set_cons_succ]
      go_cut [10, 11] (fun x z wx => ∃ gn r2, x = .pointer (some ⟨gn, 0, none⟩) ∧ z = .int .i64 y ∧ Hid (Bz At w g gx m' r wx ∧ wx.heap[gn]? = some (rxO r2) ∧ Rof r2 m' ∧ SAt wx (fun b => gx < b) r2.A (shares m'.h)))
      case first =>
        refine wp_hold_act (fun a0 HA0 => ?_)
        have z0 : a0.tmps.size = 88 := by rw [HA0.out]; rfl
        have dd0 : a0.defers = [] := by rw [HA0.out]
        have f0_1 : a0.eval (.tmp 1) = .slice (some ⟨b, off, none⟩) ops.length cap := by rw [HA0.out]; rfl
        have f0_8 : a0.eval (.tmp 8) = .pointer (some ⟨gx, 0, none⟩) := by rw [HA0.out]; rfl
        have f0_9 : a0.eval (.tmp 9) = .int .i64 (j : Int) := by rw [HA0.out]; rfl
        refine wp_region_held_drew (S := fun w' => Bz At w g gx m' r w') (by kernel_rfl) (HP.out.1.next HK.out (Below.refl _ _).drew) (fun hS => ?_)
        refine wpAnyH_take (i := 0) (v := rxV r) rfl (by kernel_rfl) (by kernel_rfl) (by kernel_rfl) (fun _ _ _ h => h) (yields_rx rfl (.tmp 8) rfl _ f0_8 r (fun _ h => h.x)) hS ?_
        obtain ⟨a1, hA1⟩ : ∃ a', a' = a0.put (some 35) (rxV r) := ⟨_, rfl⟩
        change wpAnyH _ _ _ _ _ _ _ (a0.put (some 35) (rxV r)) _
        rw [← hA1]
        have f1_35 : a1.eval (.tmp 35) = rxV r := by rw [hA1]; exact Act.eval_put_same _ _ _ (by omega)
        have f1_1 : a1.eval (.tmp 1) = .slice (some ⟨b, off, none⟩) ops.length cap := by rw [hA1]; exact (Act.eval_put_ne _ _ _ _ (by decide)).trans f0_1
        have f1_9 : a1.eval (.tmp 9) = .int .i64 (j : Int) := by rw [hA1]; exact (Act.eval_put_ne _ _ _ _ (by decide)).trans f0_9
        have z1 : a1.tmps.size = 88 := by rw [hA1, Act.size_put]; exact z0
        have dd1 : a1.defers = [] := by rw [hA1, Act.defers_put']; exact dd0
        have HA1 := Lib.hid hA1
        clear hA1 z0 dd0 f0_1 f0_8 f0_9
        refine wpAnyH_take (i := 1) (v := .slice (some ⟨b, off, none⟩) ops.length cap) rfl (by kernel_rfl) (by kernel_rfl) (by kernel_rfl) (fun _ _ _ h => h) (yields_move rfl (.tmp 1) rfl f1_1) hS ?_
        obtain ⟨a2, hA2⟩ : ∃ a', a' = a1.put (some 36) (.slice (some ⟨b, off, none⟩) ops.length cap) := ⟨_, rfl⟩
        change wpAnyH _ _ _ _ _ _ _ (a1.put (some 36) (.slice (some ⟨b, off, none⟩) ops.length cap)) _
        rw [← hA2]
        have f2_36 : a2.eval (.tmp 36) = .slice (some ⟨b, off, none⟩) ops.length cap := by rw [hA2]; exact Act.eval_put_same _ _ _ (by omega)
        have f2_35 : a2.eval (.tmp 35) = rxV r := by rw [hA2]; exact (Act.eval_put_ne _ _ _ _ (by decide)).trans f1_35
        have f2_9 : a2.eval (.tmp 9) = .int .i64 (j : Int) := by rw [hA2]; exact (Act.eval_put_ne _ _ _ _ (by decide)).trans f1_9
        have z2 : a2.tmps.size = 88 := by rw [hA2, Act.size_put]; exact z1
        have dd2 : a2.defers = [] := by rw [hA2, Act.defers_put']; exact dd1
        have HA2 := Lib.hid hA2
        clear hA2 z1 dd1 f1_35 f1_1 f1_9
        refine wpAnyH_take (i := 2) (v := .int .i64 (j : Int)) rfl (by kernel_rfl) (by kernel_rfl) (by kernel_rfl) (fun _ _ _ h => h) (yields_move rfl (.tmp 9) rfl f2_9) hS ?_
        obtain ⟨a3, hA3⟩ : ∃ a', a' = a2.put (some 37) (.int .i64 (j : Int)) := ⟨_, rfl⟩
        change wpAnyH _ _ _ _ _ _ _ (a2.put (some 37) (.int .i64 (j : Int))) _
        rw [← hA3]
        have f3_37 : a3.eval (.tmp 37) = .int .i64 (j : Int) := by rw [hA3]; exact Act.eval_put_same _ _ _ (by omega)
        have f3_36 : a3.eval (.tmp 36) = .slice (some ⟨b, off, none⟩) ops.length cap := by rw [hA3]; exact (Act.eval_put_ne _ _ _ _ (by decide)).trans f2_36
        have f3_35 : a3.eval (.tmp 35) = rxV r := by rw [hA3]; exact (Act.eval_put_ne _ _ _ _ (by decide)).trans f2_35
        have z3 : a3.tmps.size = 88 := by rw [hA3, Act.size_put]; exact z2
        have dd3 : a3.defers = [] := by rw [hA3, Act.defers_put']; exact dd2
        have HA3 := Lib.hid hA3
        clear hA3 z2 dd2 f2_36 f2_35 f2_9
        refine wpAnyH_take (i := 3) (v := .pointer (some ⟨b, off + j * 3, none⟩)) rfl (by kernel_rfl) (by kernel_rfl) (by kernel_rfl) (fun _ _ _ h => h) (yields_idx rfl (.tmp 36) (.tmp 37) rfl _ _ _ _ j f3_36 f3_37 n0 n1) hS ?_
        obtain ⟨a4, hA4⟩ : ∃ a', a' = a3.put (some 38) (.pointer (some ⟨b, off + j * 3, none⟩)) := ⟨_, rfl⟩
        change wpAnyH _ _ _ _ _ _ _ (a3.put (some 38) (.pointer (some ⟨b, off + j * 3, none⟩))) _
        rw [← hA4]
        have f4_38 : a4.eval (.tmp 38) = .pointer (some ⟨b, off + j * 3, none⟩) := by rw [hA4]; exact Act.eval_put_same _ _ _ (by omega)
        have f4_35 : a4.eval (.tmp 35) = rxV r := by rw [hA4]; exact (Act.eval_put_ne _ _ _ _ (by decide)).trans f3_35
        have z4 : a4.tmps.size = 88 := by rw [hA4, Act.size_put]; exact z3
        have dd4 : a4.defers = [] := by rw [hA4, Act.defers_put']; exact dd3
        have HA4 := Lib.hid hA4
        clear hA4 z3 dd3 f3_37 f3_36 f3_35
        refine wpAnyH_take (i := 4) (v := .agg #[.int .i64 k, .int .i64 t, .int .i64 n]) rfl (by kernel_rfl) (by kernel_rfl) (by kernel_rfl) (fun _ _ _ h => h) (yields_op rfl (.tmp 38) rfl _ _ f4_38 k t n (fun _ h => HCe _ h.hs.1)) hS ?_
        obtain ⟨a5, hA5⟩ : ∃ a', a' = a4.put (some 39) (.agg #[.int .i64 k, .int .i64 t, .int .i64 n]) := ⟨_, rfl⟩
        change wpAnyH _ _ _ _ _ _ _ (a4.put (some 39) (.agg #[.int .i64 k, .int .i64 t, .int .i64 n])) _
        rw [← hA5]
        have f5_39 : a5.eval (.tmp 39) = .agg #[.int .i64 k, .int .i64 t, .int .i64 n] := by rw [hA5]; exact Act.eval_put_same _ _ _ (by omega)
        have f5_35 : a5.eval (.tmp 35) = rxV r := by rw [hA5]; exact (Act.eval_put_ne _ _ _ _ (by decide)).trans f4_35
        have z5 : a5.tmps.size = 88 := by rw [hA5, Act.size_put]; exact z4
        have dd5 : a5.defers = [] := by rw [hA5, Act.defers_put']; exact dd4
        have HA5 := Lib.hid hA5
        clear hA5 z4 dd4 f4_38 f4_35
        refine wpAnyH_ready (rs := [5, 9]) (by kernel_rfl) (by simp) (AllReadyH.cons (by simp only [List.getElem?_toArray, List.getElem?_cons_succ, List.getElem?_cons_zero]; rfl) (fun K hK => ?_) (AllReadyH.cons (by simp only [List.getElem?_toArray, List.getElem?_cons_succ, List.getElem?_cons_zero]; rfl) (fun K hK => ?_) AllReadyH.nil))
        · skip
          have hsat : SAt wr.drew (fun b => gx < b) r.A (shares m.h) := HP.out.2.next (Below.refl _ _).drew
          refine step_call (by rfl) 10 #[.tmp 35, .tmp 39] #[27, 33] (by rfl) #[rxV r, .agg #[.int .i64 k, .int .i64 t, .int .i64 n]] (by simp only [List.map_toArray, List.map_cons, List.map_nil, f5_35, f5_39]) Try.func10 (by kernel_rfl) rfl (HRd wr.drew (fun b => gx < b) hsat (by intro b hb; have := lt_of_block hS.x; omega)).out (fun e' W2 hR => ?_)
          obtain ⟨r2, rfl, hr2, hs2, hb2⟩ := hR
          clear hsat
          refine ⟨_, rfl, hK.out _ _ (hS.next HK.out hb2) (fun hS => ?_)⟩
          obtain ⟨a6, hA6⟩ : ∃ a', a' = a5.put (some 40) (.tuple #[rxV r2, .int .i64 y]) := ⟨_, rfl⟩
          change wpAnyH _ _ _ _ _ _ _ (a5.put (some 40) (.tuple #[rxV r2, .int .i64 y])) _
          rw [← hA6]
          have f6_40 : a6.eval (.tmp 40) = .tuple #[rxV r2, .int .i64 y] := by rw [hA6]; exact Act.eval_put_same _ _ _ (by omega)
          have z6 : a6.tmps.size = 88 := by rw [hA6, Act.size_put]; exact z5
          have dd6 : a6.defers = [] := by rw [hA6, Act.defers_put']; exact dd5
          have HA6 := Lib.hid hA6
          clear hA6 z5 dd5 f5_39 f5_35
          refine wpAnyH_take (i := 6) (v := .tuple #[rxV r2, .int .i64 y]) rfl (by kernel_rfl) (by kernel_rfl) (by kernel_rfl) (fun _ _ _ h => h) (yields_move rfl (.tmp 40) rfl f6_40) hS ?_
          obtain ⟨a7, hA7⟩ : ∃ a', a' = a6.put (some 34) (.tuple #[rxV r2, .int .i64 y]) := ⟨_, rfl⟩
          change wpAnyH _ _ _ _ _ _ _ (a6.put (some 34) (.tuple #[rxV r2, .int .i64 y])) _
          rw [← hA7]
          have f7_34 : a7.eval (.tmp 34) = .tuple #[rxV r2, .int .i64 y] := by rw [hA7]; exact Act.eval_put_same _ _ _ (by omega)
          have z7 : a7.tmps.size = 88 := by rw [hA7, Act.size_put]; exact z6
          have dd7 : a7.defers = [] := by rw [hA7, Act.defers_put']; exact dd6
          have HA7 := Lib.hid hA7
          clear hA7 z6 dd6 f6_40
          refine wpAnyH_take (i := 7) (v := rxV r2) rfl (by kernel_rfl) (by kernel_rfl) (by kernel_rfl) (fun _ _ _ h => h) (yields_part rfl (.tmp 34) 0 rfl _ _ f7_34 rfl) hS ?_
          obtain ⟨a8, hA8⟩ : ∃ a', a' = a7.put (some 41) (rxV r2) := ⟨_, rfl⟩
          change wpAnyH _ _ _ _ _ _ _ (a7.put (some 41) (rxV r2)) _
          rw [← hA8]
          have f8_41 : a8.eval (.tmp 41) = rxV r2 := by rw [hA8]; exact Act.eval_put_same _ _ _ (by omega)
          have f8_34 : a8.eval (.tmp 34) = .tuple #[rxV r2, .int .i64 y] := by rw [hA8]; exact (Act.eval_put_ne _ _ _ _ (by decide)).trans f7_34
          have z8 : a8.tmps.size = 88 := by rw [hA8, Act.size_put]; exact z7
          have dd8 : a8.defers = [] := by rw [hA8, Act.defers_put']; exact dd7
          have HA8 := Lib.hid hA8
          clear hA8 z7 dd7 f7_34
          refine wpAnyH_take (i := 8) (v := .int .i64 y) rfl (by kernel_rfl) (by kernel_rfl) (by kernel_rfl) (fun _ _ _ h => h) (yields_part rfl (.tmp 34) 1 rfl _ _ f8_34 rfl) hS ?_
          obtain ⟨a9, hA9⟩ : ∃ a', a' = a8.put (some 42) (.int .i64 y) := ⟨_, rfl⟩
          change wpAnyH _ _ _ _ _ _ _ (a8.put (some 42) (.int .i64 y)) _
          rw [← hA9]
          have f9_42 : a9.eval (.tmp 42) = .int .i64 y := by rw [hA9]; exact Act.eval_put_same _ _ _ (by omega)
          have f9_41 : a9.eval (.tmp 41) = rxV r2 := by rw [hA9]; exact (Act.eval_put_ne _ _ _ _ (by decide)).trans f8_41
          have z9 : a9.tmps.size = 88 := by rw [hA9, Act.size_put]; exact z8
          have dd9 : a9.defers = [] := by rw [hA9, Act.defers_put']; exact dd8
          have HA9 := Lib.hid hA9
          clear hA9 z8 dd8 f8_41 f8_34
          refine wpAnyH_ready (rs := [9]) (by kernel_rfl) (by simp) (AllReadyH.cons (by simp only [List.getElem?_toArray, List.getElem?_cons_succ, List.getElem?_cons_zero]; rfl) (fun K hK => ?_) AllReadyH.nil)
          refine srx_alloc (by rfl) (by rfl) ?_
          have hg := heap_alloc_new W2 (rxO rxZ)
          have hfar : w.heap.size ≤ W2.heap.size ∧ W2.heap.size ≠ gx ∧ W2.heap.size ≠ g := by have h1 := lt_of_block hS.x; have h2 := hS.hs.1.size; have h3 := HK.out.lt _ _ _ hS.hs.2.2; omega
          refine hK.out _ _ (hS.next HK.out ((Below.refl _ _).alloc (Nat.le_refl _) _)) (fun hS => ?_)
          obtain ⟨a10, hA10⟩ : ∃ a', a' = a9.put (some 10) (.pointer (some ⟨W2.heap.size, 0, none⟩)) := ⟨_, rfl⟩
          change wpAnyH _ _ _ _ _ _ _ (a9.put (some 10) (.pointer (some ⟨W2.heap.size, 0, none⟩))) _
          rw [← hA10]
          have f10_10 : a10.eval (.tmp 10) = .pointer (some ⟨W2.heap.size, 0, none⟩) := by rw [hA10]; exact Act.eval_put_same _ _ _ (by omega)
          have f10_42 : a10.eval (.tmp 42) = .int .i64 y := by rw [hA10]; exact (Act.eval_put_ne _ _ _ _ (by decide)).trans f9_42
          have f10_41 : a10.eval (.tmp 41) = rxV r2 := by rw [hA10]; exact (Act.eval_put_ne _ _ _ _ (by decide)).trans f9_41
          have z10 : a10.tmps.size = 88 := by rw [hA10, Act.size_put]; exact z9
          have dd10 : a10.defers = [] := by rw [hA10, Act.defers_put']; exact dd9
          have HA10 := Lib.hid hA10
          clear hA10 z9 dd9 f9_42 f9_41
          replace hs2 : SAt (W2.alloc (rxO rxZ)) (fun b => gx < b ∧ b ≠ W2.heap.size) r2.A (shares m'.h) := (hs2.base (fun b h1 h2 => ⟨h1, by omega⟩)).next ((Below.refl _ _).alloc (Nat.le_refl _) _)
          refine wpAnyH_ready (rs := [10]) (by kernel_rfl) (by simp) (AllReadyH.cons (by simp only [List.getElem?_toArray, List.getElem?_cons_succ, List.getElem?_cons_zero]; rfl) (fun K hK => ?_) AllReadyH.nil)
          refine srx_store (by rfl) (.tmp 10) (.tmp 41) (by rfl) W2.heap.size rxZ r2 f10_10 f10_41 hg ?_
          have hg2 := rx_turned hg r2
          replace hs2 := (hs2.keep (fun b h1 h2 => row_far (rxC r2).toArray h1.2) (row_size _ _ _)).base (B' := fun b => gx < b) (fun b h _ => h.1)
          refine hK.out _ _ (hS.row HK.out hfar.1 hfar.2.2 hfar.2.1 _) (fun hS => ?_)
          change wpAnyH _ _ _ _ _ _ _ a10 _
          refine wpAnyH_take (i := 11) (v := .int .i64 y) rfl (by kernel_rfl) (by kernel_rfl) (by kernel_rfl) (fun _ _ _ h => h) (yields_assign rfl (.tmp 42) rfl f10_42) hS ?_
          obtain ⟨a11, hA11⟩ : ∃ a', a' = a10.put (some 11) (.int .i64 y) := ⟨_, rfl⟩
          change wpAnyH _ _ _ _ _ _ _ (a10.put (some 11) (.int .i64 y)) _
          rw [← hA11]
          have f11_11 : a11.eval (.tmp 11) = .int .i64 y := by rw [hA11]; exact Act.eval_put_same _ _ _ (by omega)
          have f11_10 : a11.eval (.tmp 10) = .pointer (some ⟨W2.heap.size, 0, none⟩) := by rw [hA11]; exact (Act.eval_put_ne _ _ _ _ (by decide)).trans f10_10
          have f11_42 : a11.eval (.tmp 42) = .int .i64 y := by rw [hA11]; exact (Act.eval_put_ne _ _ _ _ (by decide)).trans f10_42
          have f11_41 : a11.eval (.tmp 41) = rxV r2 := by rw [hA11]; exact (Act.eval_put_ne _ _ _ _ (by decide)).trans f10_41
          have z11 : a11.tmps.size = 88 := by rw [hA11, Act.size_put]; exact z10
          have dd11 : a11.defers = [] := by rw [hA11, Act.defers_put']; exact dd10
          have HA11 := Lib.hid hA11
          clear hA11 z10 dd10 f10_10 f10_42 f10_41
          refine wpAnyH_done (by kernel_rfl) ?_ _
          have HE := Lib.hid (And.intro hS (And.intro hg2 (And.intro hr2 hs2)))
          clear hS hg2 hr2 hs2 hfar hK
          rw [HA11.out]
          rw [HA10.out]
          rw [HA9.out]
          rw [HA8.out]
          rw [HA7.out]
          rw [HA6.out]
          rw [HA5.out]
          rw [HA4.out]
          rw [HA3.out]
          rw [HA2.out]
          rw [HA1.out]
          rw [HA0.out]
          simp only [Act.put, List.setIfInBounds_toArray, List.set_cons_zero, List.set_cons_succ]
          go_wp2_with fail
          go_meet
          exact ⟨_, _, rfl, rfl, HE⟩
        · skip
          refine srx_alloc (by rfl) (by rfl) ?_
          have hg := heap_alloc_new wr.drew (rxO rxZ)
          have hfar : w.heap.size ≤ wr.drew.heap.size ∧ wr.drew.heap.size ≠ gx ∧ wr.drew.heap.size ≠ g := by have h1 := lt_of_block hS.x; have h2 := hS.hs.1.size; have h3 := HK.out.lt _ _ _ hS.hs.2.2; omega
          refine hK.out _ _ (hS.next HK.out ((Below.refl _ _).alloc (Nat.le_refl _) _)) (fun hS => ?_)
          obtain ⟨a6, hA6⟩ : ∃ a', a' = a5.put (some 10) (.pointer (some ⟨wr.drew.heap.size, 0, none⟩)) := ⟨_, rfl⟩
          change wpAnyH _ _ _ _ _ _ _ (a5.put (some 10) (.pointer (some ⟨wr.drew.heap.size, 0, none⟩))) _
          rw [← hA6]
          have f6_10 : a6.eval (.tmp 10) = .pointer (some ⟨wr.drew.heap.size, 0, none⟩) := by rw [hA6]; exact Act.eval_put_same _ _ _ (by omega)
          have f6_39 : a6.eval (.tmp 39) = .agg #[.int .i64 k, .int .i64 t, .int .i64 n] := by rw [hA6]; exact (Act.eval_put_ne _ _ _ _ (by decide)).trans f5_39
          have f6_35 : a6.eval (.tmp 35) = rxV r := by rw [hA6]; exact (Act.eval_put_ne _ _ _ _ (by decide)).trans f5_35
          have z6 : a6.tmps.size = 88 := by rw [hA6, Act.size_put]; exact z5
          have dd6 : a6.defers = [] := by rw [hA6, Act.defers_put']; exact dd5
          have HA6 := Lib.hid hA6
          clear hA6 z5 dd5 f5_39 f5_35
          refine wpAnyH_ready (rs := [5]) (by kernel_rfl) (by simp) (AllReadyH.cons (by simp only [List.getElem?_toArray, List.getElem?_cons_succ, List.getElem?_cons_zero]; rfl) (fun K hK => ?_) AllReadyH.nil)
          have hsat : SAt (wr.drew.alloc (rxO rxZ)) (fun b => gx < b ∧ b ≠ wr.drew.heap.size) r.A (shares m.h) := ((HP.out.2.next (Below.refl _ _).drew).base (fun b h1 h2 => ⟨h1, by omega⟩)).next ((Below.refl _ _).alloc (Nat.le_refl _) _)
          refine step_call (by rfl) 10 #[.tmp 35, .tmp 39] #[27, 33] (by rfl) #[rxV r, .agg #[.int .i64 k, .int .i64 t, .int .i64 n]] (by simp only [List.map_toArray, List.map_cons, List.map_nil, f6_35, f6_39]) Try.func10 (by kernel_rfl) rfl (HRd (wr.drew.alloc (rxO rxZ)) (fun b => gx < b ∧ b ≠ wr.drew.heap.size) hsat (by intro b hb; have := lt_of_block hS.x; rw [World.size_alloc] at hb this; refine ⟨?_, ?_⟩ <;> omega)).out (fun e' W2 hR => ?_)
          obtain ⟨r2, rfl, hr2, hs2, hb2⟩ := hR
          clear hsat
          refine ⟨_, rfl, hK.out _ _ (hS.next HK.out hb2) (fun hS => ?_)⟩
          obtain ⟨a7, hA7⟩ : ∃ a', a' = a6.put (some 40) (.tuple #[rxV r2, .int .i64 y]) := ⟨_, rfl⟩
          change wpAnyH _ _ _ _ _ _ _ (a6.put (some 40) (.tuple #[rxV r2, .int .i64 y])) _
          rw [← hA7]
          have f7_40 : a7.eval (.tmp 40) = .tuple #[rxV r2, .int .i64 y] := by rw [hA7]; exact Act.eval_put_same _ _ _ (by omega)
          have f7_10 : a7.eval (.tmp 10) = .pointer (some ⟨wr.drew.heap.size, 0, none⟩) := by rw [hA7]; exact (Act.eval_put_ne _ _ _ _ (by decide)).trans f6_10
          have z7 : a7.tmps.size = 88 := by rw [hA7, Act.size_put]; exact z6
          have dd7 : a7.defers = [] := by rw [hA7, Act.defers_put']; exact dd6
          have HA7 := Lib.hid hA7
          clear hA7 z6 dd6 f6_10 f6_39 f6_35
          replace hg := (hb2.block _ (lt_of_block hg)).trans hg
          refine wpAnyH_take (i := 6) (v := .tuple #[rxV r2, .int .i64 y]) rfl (by kernel_rfl) (by kernel_rfl) (by kernel_rfl) (fun _ _ _ h => h) (yields_move rfl (.tmp 40) rfl f7_40) hS ?_
          obtain ⟨a8, hA8⟩ : ∃ a', a' = a7.put (some 34) (.tuple #[rxV r2, .int .i64 y]) := ⟨_, rfl⟩
          change wpAnyH _ _ _ _ _ _ _ (a7.put (some 34) (.tuple #[rxV r2, .int .i64 y])) _
          rw [← hA8]
          have f8_34 : a8.eval (.tmp 34) = .tuple #[rxV r2, .int .i64 y] := by rw [hA8]; exact Act.eval_put_same _ _ _ (by omega)
          have f8_10 : a8.eval (.tmp 10) = .pointer (some ⟨wr.drew.heap.size, 0, none⟩) := by rw [hA8]; exact (Act.eval_put_ne _ _ _ _ (by decide)).trans f7_10
          have z8 : a8.tmps.size = 88 := by rw [hA8, Act.size_put]; exact z7
          have dd8 : a8.defers = [] := by rw [hA8, Act.defers_put']; exact dd7
          have HA8 := Lib.hid hA8
          clear hA8 z7 dd7 f7_40 f7_10
          refine wpAnyH_take (i := 7) (v := rxV r2) rfl (by kernel_rfl) (by kernel_rfl) (by kernel_rfl) (fun _ _ _ h => h) (yields_part rfl (.tmp 34) 0 rfl _ _ f8_34 rfl) hS ?_
          obtain ⟨a9, hA9⟩ : ∃ a', a' = a8.put (some 41) (rxV r2) := ⟨_, rfl⟩
          change wpAnyH _ _ _ _ _ _ _ (a8.put (some 41) (rxV r2)) _
          rw [← hA9]
          have f9_41 : a9.eval (.tmp 41) = rxV r2 := by rw [hA9]; exact Act.eval_put_same _ _ _ (by omega)
          have f9_34 : a9.eval (.tmp 34) = .tuple #[rxV r2, .int .i64 y] := by rw [hA9]; exact (Act.eval_put_ne _ _ _ _ (by decide)).trans f8_34
          have f9_10 : a9.eval (.tmp 10) = .pointer (some ⟨wr.drew.heap.size, 0, none⟩) := by rw [hA9]; exact (Act.eval_put_ne _ _ _ _ (by decide)).trans f8_10
          have z9 : a9.tmps.size = 88 := by rw [hA9, Act.size_put]; exact z8
          have dd9 : a9.defers = [] := by rw [hA9, Act.defers_put']; exact dd8
          have HA9 := Lib.hid hA9
          clear hA9 z8 dd8 f8_34 f8_10
          refine wpAnyH_take (i := 8) (v := .int .i64 y) rfl (by kernel_rfl) (by kernel_rfl) (by kernel_rfl) (fun _ _ _ h => h) (yields_part rfl (.tmp 34) 1 rfl _ _ f9_34 rfl) hS ?_
          obtain ⟨a10, hA10⟩ : ∃ a', a' = a9.put (some 42) (.int .i64 y) := ⟨_, rfl⟩
          change wpAnyH _ _ _ _ _ _ _ (a9.put (some 42) (.int .i64 y)) _
          rw [← hA10]
          have f10_42 : a10.eval (.tmp 42) = .int .i64 y := by rw [hA10]; exact Act.eval_put_same _ _ _ (by omega)
          have f10_41 : a10.eval (.tmp 41) = rxV r2 := by rw [hA10]; exact (Act.eval_put_ne _ _ _ _ (by decide)).trans f9_41
          have f10_10 : a10.eval (.tmp 10) = .pointer (some ⟨wr.drew.heap.size, 0, none⟩) := by rw [hA10]; exact (Act.eval_put_ne _ _ _ _ (by decide)).trans f9_10
          have z10 : a10.tmps.size = 88 := by rw [hA10, Act.size_put]; exact z9
          have dd10 : a10.defers = [] := by rw [hA10, Act.defers_put']; exact dd9
          have HA10 := Lib.hid hA10
          clear hA10 z9 dd9 f9_41 f9_34 f9_10
          refine wpAnyH_ready (rs := [10]) (by kernel_rfl) (by simp) (AllReadyH.cons (by simp only [List.getElem?_toArray, List.getElem?_cons_succ, List.getElem?_cons_zero]; rfl) (fun K hK => ?_) AllReadyH.nil)
          refine srx_store (by rfl) (.tmp 10) (.tmp 41) (by rfl) wr.drew.heap.size rxZ r2 f10_10 f10_41 hg ?_
          have hg2 := rx_turned hg r2
          replace hs2 := (hs2.keep (fun b h1 h2 => row_far (rxC r2).toArray h1.2) (row_size _ _ _)).base (B' := fun b => gx < b) (fun b h _ => h.1)
          refine hK.out _ _ (hS.row HK.out hfar.1 hfar.2.2 hfar.2.1 _) (fun hS => ?_)
          change wpAnyH _ _ _ _ _ _ _ a10 _
          refine wpAnyH_take (i := 11) (v := .int .i64 y) rfl (by kernel_rfl) (by kernel_rfl) (by kernel_rfl) (fun _ _ _ h => h) (yields_assign rfl (.tmp 42) rfl f10_42) hS ?_
          obtain ⟨a11, hA11⟩ : ∃ a', a' = a10.put (some 11) (.int .i64 y) := ⟨_, rfl⟩
          change wpAnyH _ _ _ _ _ _ _ (a10.put (some 11) (.int .i64 y)) _
          rw [← hA11]
          have f11_11 : a11.eval (.tmp 11) = .int .i64 y := by rw [hA11]; exact Act.eval_put_same _ _ _ (by omega)
          have f11_42 : a11.eval (.tmp 42) = .int .i64 y := by rw [hA11]; exact (Act.eval_put_ne _ _ _ _ (by decide)).trans f10_42
          have f11_41 : a11.eval (.tmp 41) = rxV r2 := by rw [hA11]; exact (Act.eval_put_ne _ _ _ _ (by decide)).trans f10_41
          have f11_10 : a11.eval (.tmp 10) = .pointer (some ⟨wr.drew.heap.size, 0, none⟩) := by rw [hA11]; exact (Act.eval_put_ne _ _ _ _ (by decide)).trans f10_10
          have z11 : a11.tmps.size = 88 := by rw [hA11, Act.size_put]; exact z10
          have dd11 : a11.defers = [] := by rw [hA11, Act.defers_put']; exact dd10
          have HA11 := Lib.hid hA11
          clear hA11 z10 dd10 f10_42 f10_41 f10_10
          refine wpAnyH_done (by kernel_rfl) ?_ _
          have HE := Lib.hid (And.intro hS (And.intro hg2 (And.intro hr2 hs2)))
          clear hS hg2 hr2 hs2 hfar hK
          rw [HA11.out]
          rw [HA10.out]
          rw [HA9.out]
          rw [HA8.out]
          rw [HA7.out]
          rw [HA6.out]
          rw [HA5.out]
          rw [HA4.out]
          rw [HA3.out]
          rw [HA2.out]
          rw [HA1.out]
          rw [HA0.out]
          simp only [Act.put, List.setIfInBounds_toArray, List.set_cons_zero, List.set_cons_succ]
          go_wp2_with fail
          go_meet
          exact ⟨_, _, rfl, rfl, HE⟩
      case rest =>
        obtain ⟨gn, r2, rfl, rfl, HW⟩ := hcut
        clear HP HRd
        go_upto_region 4 with (first | refine wrx_load rfl _ rfl gn rfl r2 HW.out.2.1 ?_ | refine wrx_store rfl _ _ rfl gx r r2 rfl rfl HW.out.1.x ?_)
        try simp only [Act.put, List.setIfInBounds_toArray, List.set_cons_zero, List.set_cons_succ]
        refine wp_hold_world (fun W3 HW3 => ?_)
        have H3 : Hid (Cz At w g gx m' m' r2 W3) := Lib.hid (by
          rw [HW3.out]
          exact ⟨HW.out.1.box HK.out r2, HW.out.2.2.2.keep (fun b h1 _ => row_far _ (by omega)) (row_size _ _ _)⟩)
        have HRo := Lib.hid HW.out.2.2.1
        clear HW3 HW HCe
        go_wp2_with fail
        exact ⟨⟨j + 1, m', r2, by go_num, by have := HJ.out.1; omega, by have := HJ.out.2; omega, HF'.out, HRo.out, H3.out⟩, by have := HJ.out.1; simp [intOf]; omega⟩
    · have HB := Lib.hid hP
      have HFm := Lib.hid hfm
      have HRm := Lib.hid hrm
      have HCl := Lib.hid (HK.out.clone wr g m hP.1.hs.2.2 hfm)
      clear hP hfm hrm HI HO
      go_wp2_with fail
      all_goals
        refine HCl.out.mono ?_
        rintro _ w4 ⟨gc, rfl, hgc, hac, hb⟩
        have HE : Hid (Ez At w g gx gc m m r w4) := Lib.hid ⟨HB.out.next HK.out hb, hac, by have := HK.out.lt _ _ _ HB.out.1.hs.2.2; omega⟩
        clear hgc hac hb HCl HB hj hj80 hlt
        go_wp2_with fail
        go_loopw [13] (fun i wq => ∃ (j : Nat) (m2 : Px), i = .int .i64 (j : Int) ∧ j ≤ ops2.length ∧ j ≤ 30 ∧ Fine m2 ∧ Ez At w g gx gc m2 m r wq) (fun i _ => ops2.length - (intOf i).toNat)
        case atStart => exact ⟨0, m, rfl, Nat.zero_le _, Nat.zero_le _, HFm.out, HE.out⟩
        case round =>
          obtain ⟨j2, m2, rfl, hj, hj80, hfm, hP⟩ := hrel
          clear HE
          by_cases hlt : j2 < ops2.length ∧ j2 < 30
          · obtain ⟨hlt, h80⟩ := hlt
            have d1 : decide (j2 < ops2.length) = true := by simp; omega
            have d2 : decide ((j2 : Int) < 30) = true := by simp; omega
            obtain ⟨b, off, rfl, hb, c0w, c1w, c2w⟩ := HO2.out j2 hlt
            obtain ⟨i0, i1, i2⟩ := HI2.out j2 hlt
            generalize ops2.getD j2 (0, 0, 0) = o at *
            obtain ⟨k, t, n⟩ := o
            dsimp only at c0w c1w c2w i0 i1 i2
            have c0 := (hP.1.1.hs.1.cell (p := ⟨b, off + j2 * 3, none⟩) hb).trans c0w
            have c1 := (hP.1.1.hs.1.cell (p := ⟨b, off + j2 * 3 + 1, none⟩) hb).trans c1w
            have c2 := (hP.1.1.hs.1.cell (p := ⟨b, off + j2 * 3 + 2, none⟩) hb).trans c2w
            have D := Lib.hid (do_any HK.out m2 g k t n wr hP.1.1.hs.2.2 hfm i1 i2)
            unfold DoPost at D
            obtain ⟨q, hq⟩ : ∃ q, q = doP m2 k t n := ⟨_, rfl⟩
            rw [← hq] at D
            have hf' : Fine q.1 := by rw [hq]; exact do_fine hfm k t n
            obtain ⟨m', y⟩ := q
            dsimp only at D hf'
            have HF' := Lib.hid hf'
            have HP := Lib.hid hP
            have n0 : (0 : Int) ≤ (j2 : Int) := by omega
            have n1 : (j2 : Int) < (ops2.length : Int) := by omega
            have HJ := Lib.hid (And.intro hlt h80)
            clear c0w c1w c2w i0 i1 i2 hb hq hf' hfm hP hj hj80 hlt h80
            go_wp2_with fail
            refine D.out.mono ?_
            rintro _ w5 ⟨rfl, ha, ho⟩
            have H5 := Lib.hid (HP.out.only HK.out ho ha)
            clear ha ho D HP c0 c1 c2
            go_wp2_with fail
            go_roundw
            case rel => exact ⟨j2 + 1, m', by go_num, by have := HJ.out.1; omega, by have := HJ.out.2; omega, HF'.out, H5.out⟩
            case measure => have := HJ.out.1; simp [intOf]; omega
          · have HM := Lib.hid (hP.next HK.out (Below.refl _ _).drew)
            obtain ⟨x0, x1⟩ := rx_cells hP.1.1.x
            have HX := fun W (h : Ez At w g gx gc m2 m r W) => rx_cells h.1.1.x
            have HSh := fun W h => Lib.hid (HK.out.shares W gc m h HFm.out)
            have HSa := fun W A3 c3 B2 h3 hs => Lib.hid (rsame_any HRm.out A3 c3 W (fun b => gx < b) B2 h3 hs)
            have HFr := fun W h => Lib.hid (HK.out.free W gc m h HFm.out)
            have HRF := fun W hs => Lib.hid (rfree_any HFm.out HRm.out W (fun b => gx < b) hs)
            have HTo := fun W h => Lib.hid (HK.out.total W gc m h HFm.out)
            rw [← HRm.out.t] at HTo
            generalize (shares m.h).length = L at *
            generalize freeP m = fr at *
            have q0 : (fr == fr) = true := by simp
            have q2 : (r.t == r.t) = true := by simp
            clear hP hfm hj hj80 HO2 HI2
            go_upto_region 13 with fail
            all_goals
              go_region_held3 (fun w' => w'.cell? ⟨gx, 0, none⟩ = some (.int .i64 r.t) ∧ w'.cell? ⟨gx, 1, none⟩ = some (.slice r.A r.n r.c)) (go_keep)
                (first
                  | (go_at_call 13; refine (HSh _ ?_).out.mono ?_; (exact HM.out.2.1); rintro _ w5 ⟨A3, c3, rfl, hs3, hb5⟩; have HS3 := Lib.hid hs3; clear hs3; have HM := Lib.hid (HM.out.next HK.out hb5); obtain ⟨y4, z4⟩ := HX w5 HM.out)
                  | (go_at_call 12; refine (HSa _ _ _ _ HS3.out HM.out.1.2).out.mono ?_; rintro _ w6 ⟨rfl, hb5⟩; have HM := Lib.hid (HM.out.next HK.out hb5); obtain ⟨y4, z4⟩ := HX w6 HM.out)
                  | (go_at_call 14; refine (HFr _ ?_).out.mono ?_; (exact HM.out.2.1); rintro _ w7 ⟨rfl, hb5⟩; have HM := Lib.hid (HM.out.next HK.out hb5); obtain ⟨y4, z4⟩ := HX w7 HM.out)
                  | (go_at_call 15; refine (HRF _ HM.out.1.2).out.mono ?_; rintro _ w8 ⟨rfl, hb5⟩; have HM := Lib.hid (HM.out.next HK.out hb5); obtain ⟨y4, z4⟩ := HX w8 HM.out)
                  | (go_at_call 9; refine (HTo _ ?_).out.mono ?_; (exact HM.out.2.1); rintro _ w9 ⟨rfl, hb5⟩; have HM := Lib.hid (HM.out.next HK.out hb5); obtain ⟨y4, z4⟩ := HX w9 HM.out)
                  | (go_at_call 18; refine (HL _).out.mono ?_; rintro _ w10 ⟨rfl, hb5⟩; have HM := Lib.hid (HM.out.next HK.out hb5); obtain ⟨y4, z4⟩ := HX w10 HM.out))
              have HF := Lib.hid HM.out.1.1.hs.1
              clear HM hb5 y4 z4 x0 x1 HX
              go_wp2_with fail
              go_ret
              exact ⟨rfl, HF.out⟩
end Go.Proofs.Ythdencddocgbjaa.pol
