/-
  Any calls on a pool, and on the document's units beside it: the walk over what is asked of the program's calls. No condition. Printed by tools/mkpoplays.py.
-/
import Derived.Test.YthdencddocgbjaaPoTwo
namespace Go.Proofs.Ythdencddocgbjaa.pol
open Go.RowKit Go.ChangeShapes
open Go.Proofs.Ythdencddocgbjaa.obj
set_option linter.unusedVariables false
set_option linter.unusedSimpArgs false

set_option maxRecDepth 100000 in
set_option maxHeartbeats 8000000 in
theorem plays_walk {At : World → Nat → Px → Prop} (K : Keeps At) (total : Int) (A : Option Addr) (cap : Nat) (ops : List (Int × Int × Int)) (w : World) (hi1 : I64 total) (ho : OpsAt w A ops) (hi : ∀ j, j < ops.length → I64 (ops.getD j (0, 0, 0)).1 ∧ I64 (ops.getD j (0, 0, 0)).2.1 ∧ I64 (ops.getD j (0, 0, 0)).2.2) (hl : ops.length ≤ 9223372036854775807) :
    Calls Try.prog 3 #[.int .i64 total, .slice A ops.length cap] w fun e w' => e = .returned (.bool true) ∧ Below w.heap.size w w' := by
  have HK := Lib.hid K
  have HO := Lib.hid ho
  have HI := Lib.hid hi
  have HL := fun W => Lib.hid (lives_any K W)
  have C0 := Lib.hid (K.new total w hi1)
  have HN := fun W => Lib.hid (refNew20_any total W)
  unfold NewPost at HN
  have hf0 := new_fine total
  have hz0 : shares (newP total).h = [] := shares_zero
  generalize newP total = m0 at *
  obtain ⟨r0, hr0⟩ : ∃ r0 : Rx, r0 = ⟨m0.total, none, 0, 0⟩ := ⟨_, rfl⟩
  have HR0 : Hid (Rof r0 m0 ∧ r0.A = none) := Lib.hid (by
    unfold Rof
    rw [hz0, hr0]
    exact ⟨rfl, rfl⟩)
  have CT0 := fun W g h => Lib.hid (HK.out.total W g m0 h hf0)
  rw [← hr0] at HN
  rw [← HR0.out.1.t] at CT0
  have HF0 := Lib.hid hf0
  have HZ0 := Lib.hid hz0
  clear K ho hi hi1 hf0 hz0 hr0
  go_enter Try.func3, Try.ntmps3
  go_wp2_with fail
  refine C0.out.mono ?_
  rintro _ w1 ⟨g, rfl, hg, ha, hb⟩
  have H1 : Hid (Hs At w g m0 w1) := Lib.hid ⟨hb, hg, ha⟩
  clear hg ha hb C0
  go_wp2_with fail
  refine (HN _).out.mono ?_
  rintro _ w2 ⟨rfl, hb⟩
  have H2 := Lib.hid (hs_next HK.out H1.out hb)
  have HP2 := Lib.hid (bz_new HK.out H2.out r0)
  clear hb HN H1
  go_upto_region 2 with (first | refine wrx_alloc rfl rfl ?_ | refine wrx_store rfl _ _ rfl w2.heap.size rxZ r0 rfl rfl (heap_alloc_new w2 (rxO rxZ)) ?_)
  try simp only [Act.put, List.setIfInBounds_toArray, List.set_cons_zero, List.set_cons_succ]
  generalize (w2.alloc (rxO rxZ)).setRow w2.heap.size (rxC r0).toArray = W2 at *
  generalize w2.heap.size = gx at *
  clear H2
  have e0 : (r0.t != r0.t) = false := by simp
  have HM := Lib.hid (HP2.out.next HK.out (Below.refl _ _).drew)
  obtain ⟨x0, x1⟩ := rx_cells HP2.out.x
  go_region_held3 (fun w' => w'.cell? ⟨gx, 0, none⟩ = some (.int .i64 r0.t)) (go_keep)
    (first
      | (go_at_call 9; refine (CT0 _ _ ?_).out.mono ?_; (exact HM.out.hs.2.2); rintro _ w' ⟨rfl, hb⟩; have HM := Lib.hid (HM.out.next HK.out hb); obtain ⟨d0, d1⟩ := rx_cells HM.out.x))
  clear HP2 CT0 x0 x1 d0 d1 hb e0
  have HP1 : Hid (∀ W, W = w' → Cz At w g gx m0 m0 r0 W) := Lib.hid (fun W e => by
    rw [e]
    refine ⟨HM.out, ?_⟩
    rw [HZ0.out]
    exact SAt.nil _ _ _)
  clear HM
  go_wp2_with fail
  go_loopw [7] (fun i wr => ∃ (j : Nat) (m : Px) (r : Rx), i = .int .i64 (j : Int) ∧ j ≤ ops.length ∧ j ≤ 60 ∧ Fine m ∧ Rof r m ∧ Cz At w g gx m m r wr) (fun i _ => ops.length - (intOf i).toNat)
  case atStart => exact ⟨0, m0, r0, rfl, Nat.zero_le _, Nat.zero_le _, HF0.out, HR0.out.1, HP1.out _ rfl⟩
  case round =>
    obtain ⟨j, m, r, rfl, hj, hj80, hfm, hrm, hP⟩ := hrel
    clear HP1 HF0 HR0 HZ0
    by_cases hlt : j < ops.length ∧ j < 60
    · obtain ⟨hlt, h80⟩ := hlt
      have d1 : decide (j < ops.length) = true := by simp; omega
      have d2 : decide ((j : Int) < 60) = true := by simp; omega
      obtain ⟨b, off, rfl, hb, c0, c1, c2⟩ := HO.out j hlt
      obtain ⟨i0, i1, i2⟩ := HI.out j hlt
      generalize ops.getD j (0, 0, 0) = o at *
      obtain ⟨k, t, n⟩ := o
      dsimp only at c0 c1 c2 i0 i1 i2
      have HCe : ∀ W, Below w.heap.size w W → W.cell? ⟨b, off + j * 3, none⟩ = some (.int .i64 k) ∧ W.cell? ⟨b, off + j * 3 + 1, none⟩ = some (.int .i64 t) ∧ W.cell? ⟨b, off + j * 3 + 2, none⟩ = some (.int .i64 n) := fun W h => ⟨(h.cell (p := ⟨b, off + j * 3, none⟩) hb).trans c0, (h.cell (p := ⟨b, off + j * 3 + 1, none⟩) hb).trans c1, (h.cell (p := ⟨b, off + j * 3 + 2, none⟩) hb).trans c2⟩
      have HRd := fun W B h1 h2 => Lib.hid (rd_any hfm hrm k t n W B h1 h2)
      have HDo := fun W h => Lib.hid (do_any HK.out m g k t n W h hfm i1 i2)
      unfold DoPost at HDo
      obtain ⟨q, hq⟩ : ∃ q, q = doP m k t n := ⟨_, rfl⟩
      rw [← hq] at HRd HDo
      have hf' : Fine q.1 := by rw [hq]; exact do_fine hfm k t n
      obtain ⟨m', y⟩ := q
      dsimp only at HRd HDo hf'
      have HF' := Lib.hid hf'
      have HT := Lib.hid i1
      have HP := Lib.hid hP
      have n0 : (0 : Int) ≤ (j : Int) := by omega
      have n1 : (j : Int) < (ops.length : Int) := by omega
      have HJ := Lib.hid (And.intro hlt h80)
      clear c0 c1 c2 i0 i1 i2 hb hq hf' hfm hrm hP hj hj80 hlt h80
      go_upto_region 7 with fail
      try simp only [Act.put, List.setIfInBounds_toArray, List.set_cons_zero, List.set_cons_succ]
      go_cut [8, 9] (fun x z wx => ∃ gn r2, x = .pointer (some ⟨gn, 0, none⟩) ∧ z = .int .i64 y ∧ Hid (Bz At w g gx m r wx ∧ wx.heap[gn]? = some (rxO r2) ∧ Rof r2 m' ∧ SAt wx (fun b => gx < b) r2.A (shares m'.h)))
      case first =>
        refine wp_hold_act (fun a0 HA0 => ?_)
        have z0 : a0.tmps.size = 91 := by rw [HA0.out]; rfl
        have dd0 : a0.defers = [] := by rw [HA0.out]
        have f0_1 : a0.eval (.tmp 1) = .slice (some ⟨b, off, none⟩) ops.length cap := by rw [HA0.out]; rfl
        have f0_6 : a0.eval (.tmp 6) = .pointer (some ⟨gx, 0, none⟩) := by rw [HA0.out]; rfl
        have f0_7 : a0.eval (.tmp 7) = .int .i64 (j : Int) := by rw [HA0.out]; rfl
        refine wp_region_held_drew (S := fun w' => Bz At w g gx m r w') (by kernel_rfl) (HP.out.1.next HK.out (Below.refl _ _).drew) (fun hS => ?_)
        refine wpAnyH_take (i := 0) (v := rxV r) rfl (by kernel_rfl) (by kernel_rfl) (by kernel_rfl) (fun _ _ _ h => h) (yields_rx rfl (.tmp 6) rfl _ f0_6 r (fun _ h => h.x)) hS ?_
        obtain ⟨a1, hA1⟩ : ∃ a', a' = a0.put (some 34) (rxV r) := ⟨_, rfl⟩
        change wpAnyH _ _ _ _ _ _ _ (a0.put (some 34) (rxV r)) _
        rw [← hA1]
        have f1_34 : a1.eval (.tmp 34) = rxV r := by rw [hA1]; exact Act.eval_put_same _ _ _ (by omega)
        have f1_1 : a1.eval (.tmp 1) = .slice (some ⟨b, off, none⟩) ops.length cap := by rw [hA1]; exact (Act.eval_put_ne _ _ _ _ (by decide)).trans f0_1
        have f1_7 : a1.eval (.tmp 7) = .int .i64 (j : Int) := by rw [hA1]; exact (Act.eval_put_ne _ _ _ _ (by decide)).trans f0_7
        have z1 : a1.tmps.size = 91 := by rw [hA1, Act.size_put]; exact z0
        have dd1 : a1.defers = [] := by rw [hA1, Act.defers_put']; exact dd0
        have HA1 := Lib.hid hA1
        clear hA1 z0 dd0 f0_1 f0_6 f0_7
        refine wpAnyH_take (i := 1) (v := .slice (some ⟨b, off, none⟩) ops.length cap) rfl (by kernel_rfl) (by kernel_rfl) (by kernel_rfl) (fun _ _ _ h => h) (yields_move rfl (.tmp 1) rfl f1_1) hS ?_
        obtain ⟨a2, hA2⟩ : ∃ a', a' = a1.put (some 35) (.slice (some ⟨b, off, none⟩) ops.length cap) := ⟨_, rfl⟩
        change wpAnyH _ _ _ _ _ _ _ (a1.put (some 35) (.slice (some ⟨b, off, none⟩) ops.length cap)) _
        rw [← hA2]
        have f2_35 : a2.eval (.tmp 35) = .slice (some ⟨b, off, none⟩) ops.length cap := by rw [hA2]; exact Act.eval_put_same _ _ _ (by omega)
        have f2_34 : a2.eval (.tmp 34) = rxV r := by rw [hA2]; exact (Act.eval_put_ne _ _ _ _ (by decide)).trans f1_34
        have f2_7 : a2.eval (.tmp 7) = .int .i64 (j : Int) := by rw [hA2]; exact (Act.eval_put_ne _ _ _ _ (by decide)).trans f1_7
        have z2 : a2.tmps.size = 91 := by rw [hA2, Act.size_put]; exact z1
        have dd2 : a2.defers = [] := by rw [hA2, Act.defers_put']; exact dd1
        have HA2 := Lib.hid hA2
        clear hA2 z1 dd1 f1_34 f1_1 f1_7
        refine wpAnyH_take (i := 2) (v := .int .i64 (j : Int)) rfl (by kernel_rfl) (by kernel_rfl) (by kernel_rfl) (fun _ _ _ h => h) (yields_move rfl (.tmp 7) rfl f2_7) hS ?_
        obtain ⟨a3, hA3⟩ : ∃ a', a' = a2.put (some 36) (.int .i64 (j : Int)) := ⟨_, rfl⟩
        change wpAnyH _ _ _ _ _ _ _ (a2.put (some 36) (.int .i64 (j : Int))) _
        rw [← hA3]
        have f3_36 : a3.eval (.tmp 36) = .int .i64 (j : Int) := by rw [hA3]; exact Act.eval_put_same _ _ _ (by omega)
        have f3_35 : a3.eval (.tmp 35) = .slice (some ⟨b, off, none⟩) ops.length cap := by rw [hA3]; exact (Act.eval_put_ne _ _ _ _ (by decide)).trans f2_35
        have f3_34 : a3.eval (.tmp 34) = rxV r := by rw [hA3]; exact (Act.eval_put_ne _ _ _ _ (by decide)).trans f2_34
        have z3 : a3.tmps.size = 91 := by rw [hA3, Act.size_put]; exact z2
        have dd3 : a3.defers = [] := by rw [hA3, Act.defers_put']; exact dd2
        have HA3 := Lib.hid hA3
        clear hA3 z2 dd2 f2_35 f2_34 f2_7
        refine wpAnyH_take (i := 3) (v := .pointer (some ⟨b, off + j * 3, none⟩)) rfl (by kernel_rfl) (by kernel_rfl) (by kernel_rfl) (fun _ _ _ h => h) (yields_idx rfl (.tmp 35) (.tmp 36) rfl _ _ _ _ j f3_35 f3_36 n0 n1) hS ?_
        obtain ⟨a4, hA4⟩ : ∃ a', a' = a3.put (some 37) (.pointer (some ⟨b, off + j * 3, none⟩)) := ⟨_, rfl⟩
        change wpAnyH _ _ _ _ _ _ _ (a3.put (some 37) (.pointer (some ⟨b, off + j * 3, none⟩))) _
        rw [← hA4]
        have f4_37 : a4.eval (.tmp 37) = .pointer (some ⟨b, off + j * 3, none⟩) := by rw [hA4]; exact Act.eval_put_same _ _ _ (by omega)
        have f4_34 : a4.eval (.tmp 34) = rxV r := by rw [hA4]; exact (Act.eval_put_ne _ _ _ _ (by decide)).trans f3_34
        have z4 : a4.tmps.size = 91 := by rw [hA4, Act.size_put]; exact z3
        have dd4 : a4.defers = [] := by rw [hA4, Act.defers_put']; exact dd3
        have HA4 := Lib.hid hA4
        clear hA4 z3 dd3 f3_36 f3_35 f3_34
        refine wpAnyH_take (i := 4) (v := .agg #[.int .i64 k, .int .i64 t, .int .i64 n]) rfl (by kernel_rfl) (by kernel_rfl) (by kernel_rfl) (fun _ _ _ h => h) (yields_op rfl (.tmp 37) rfl _ _ f4_37 k t n (fun _ h => HCe _ h.hs.1)) hS ?_
        obtain ⟨a5, hA5⟩ : ∃ a', a' = a4.put (some 38) (.agg #[.int .i64 k, .int .i64 t, .int .i64 n]) := ⟨_, rfl⟩
        change wpAnyH _ _ _ _ _ _ _ (a4.put (some 38) (.agg #[.int .i64 k, .int .i64 t, .int .i64 n])) _
        rw [← hA5]
        have f5_38 : a5.eval (.tmp 38) = .agg #[.int .i64 k, .int .i64 t, .int .i64 n] := by rw [hA5]; exact Act.eval_put_same _ _ _ (by omega)
        have f5_34 : a5.eval (.tmp 34) = rxV r := by rw [hA5]; exact (Act.eval_put_ne _ _ _ _ (by decide)).trans f4_34
        have z5 : a5.tmps.size = 91 := by rw [hA5, Act.size_put]; exact z4
        have dd5 : a5.defers = [] := by rw [hA5, Act.defers_put']; exact dd4
        have HA5 := Lib.hid hA5
        clear hA5 z4 dd4 f4_37 f4_34
        refine wpAnyH_ready (rs := [5, 9]) (by kernel_rfl) (by simp) (AllReadyH.cons (by simp only [List.getElem?_toArray, List.getElem?_cons_succ, List.getElem?_cons_zero]; rfl) (fun K hK => ?_) (AllReadyH.cons (by simp only [List.getElem?_toArray, List.getElem?_cons_succ, List.getElem?_cons_zero]; rfl) (fun K hK => ?_) AllReadyH.nil))
        · skip
          have hsat : SAt wr.drew (fun b => gx < b) r.A (shares m.h) := HP.out.2.next (Below.refl _ _).drew
          refine step_call (by rfl) 10 #[.tmp 34, .tmp 38] #[27, 33] (by rfl) #[rxV r, .agg #[.int .i64 k, .int .i64 t, .int .i64 n]] (by simp only [List.map_toArray, List.map_cons, List.map_nil, f5_34, f5_38]) Try.func10 (by kernel_rfl) rfl (HRd wr.drew (fun b => gx < b) hsat (by intro b hb; have := lt_of_block hS.x; omega)).out (fun e' W2 hR => ?_)
          obtain ⟨r2, rfl, hr2, hs2, hb2⟩ := hR
          clear hsat
          refine ⟨_, rfl, hK.out _ _ (hS.next HK.out hb2) (fun hS => ?_)⟩
          obtain ⟨a6, hA6⟩ : ∃ a', a' = a5.put (some 39) (.tuple #[rxV r2, .int .i64 y]) := ⟨_, rfl⟩
          change wpAnyH _ _ _ _ _ _ _ (a5.put (some 39) (.tuple #[rxV r2, .int .i64 y])) _
          rw [← hA6]
          have f6_39 : a6.eval (.tmp 39) = .tuple #[rxV r2, .int .i64 y] := by rw [hA6]; exact Act.eval_put_same _ _ _ (by omega)
          have z6 : a6.tmps.size = 91 := by rw [hA6, Act.size_put]; exact z5
          have dd6 : a6.defers = [] := by rw [hA6, Act.defers_put']; exact dd5
          have HA6 := Lib.hid hA6
          clear hA6 z5 dd5 f5_38 f5_34
          refine wpAnyH_take (i := 6) (v := .tuple #[rxV r2, .int .i64 y]) rfl (by kernel_rfl) (by kernel_rfl) (by kernel_rfl) (fun _ _ _ h => h) (yields_move rfl (.tmp 39) rfl f6_39) hS ?_
          obtain ⟨a7, hA7⟩ : ∃ a', a' = a6.put (some 33) (.tuple #[rxV r2, .int .i64 y]) := ⟨_, rfl⟩
          change wpAnyH _ _ _ _ _ _ _ (a6.put (some 33) (.tuple #[rxV r2, .int .i64 y])) _
          rw [← hA7]
          have f7_33 : a7.eval (.tmp 33) = .tuple #[rxV r2, .int .i64 y] := by rw [hA7]; exact Act.eval_put_same _ _ _ (by omega)
          have z7 : a7.tmps.size = 91 := by rw [hA7, Act.size_put]; exact z6
          have dd7 : a7.defers = [] := by rw [hA7, Act.defers_put']; exact dd6
          have HA7 := Lib.hid hA7
          clear hA7 z6 dd6 f6_39
          refine wpAnyH_take (i := 7) (v := rxV r2) rfl (by kernel_rfl) (by kernel_rfl) (by kernel_rfl) (fun _ _ _ h => h) (yields_part rfl (.tmp 33) 0 rfl _ _ f7_33 rfl) hS ?_
          obtain ⟨a8, hA8⟩ : ∃ a', a' = a7.put (some 40) (rxV r2) := ⟨_, rfl⟩
          change wpAnyH _ _ _ _ _ _ _ (a7.put (some 40) (rxV r2)) _
          rw [← hA8]
          have f8_40 : a8.eval (.tmp 40) = rxV r2 := by rw [hA8]; exact Act.eval_put_same _ _ _ (by omega)
          have f8_33 : a8.eval (.tmp 33) = .tuple #[rxV r2, .int .i64 y] := by rw [hA8]; exact (Act.eval_put_ne _ _ _ _ (by decide)).trans f7_33
          have z8 : a8.tmps.size = 91 := by rw [hA8, Act.size_put]; exact z7
          have dd8 : a8.defers = [] := by rw [hA8, Act.defers_put']; exact dd7
          have HA8 := Lib.hid hA8
          clear hA8 z7 dd7 f7_33
          refine wpAnyH_take (i := 8) (v := .int .i64 y) rfl (by kernel_rfl) (by kernel_rfl) (by kernel_rfl) (fun _ _ _ h => h) (yields_part rfl (.tmp 33) 1 rfl _ _ f8_33 rfl) hS ?_
          obtain ⟨a9, hA9⟩ : ∃ a', a' = a8.put (some 41) (.int .i64 y) := ⟨_, rfl⟩
          change wpAnyH _ _ _ _ _ _ _ (a8.put (some 41) (.int .i64 y)) _
          rw [← hA9]
          have f9_41 : a9.eval (.tmp 41) = .int .i64 y := by rw [hA9]; exact Act.eval_put_same _ _ _ (by omega)
          have f9_40 : a9.eval (.tmp 40) = rxV r2 := by rw [hA9]; exact (Act.eval_put_ne _ _ _ _ (by decide)).trans f8_40
          have z9 : a9.tmps.size = 91 := by rw [hA9, Act.size_put]; exact z8
          have dd9 : a9.defers = [] := by rw [hA9, Act.defers_put']; exact dd8
          have HA9 := Lib.hid hA9
          clear hA9 z8 dd8 f8_40 f8_33
          refine wpAnyH_ready (rs := [9]) (by kernel_rfl) (by simp) (AllReadyH.cons (by simp only [List.getElem?_toArray, List.getElem?_cons_succ, List.getElem?_cons_zero]; rfl) (fun K hK => ?_) AllReadyH.nil)
          refine srx_alloc (by rfl) (by rfl) ?_
          have hg := heap_alloc_new W2 (rxO rxZ)
          have hfar : w.heap.size ≤ W2.heap.size ∧ W2.heap.size ≠ gx ∧ W2.heap.size ≠ g := by have h1 := lt_of_block hS.x; have h2 := hS.hs.1.size; have h3 := HK.out.lt _ _ _ hS.hs.2.2; omega
          refine hK.out _ _ (hS.next HK.out ((Below.refl _ _).alloc (Nat.le_refl _) _)) (fun hS => ?_)
          obtain ⟨a10, hA10⟩ : ∃ a', a' = a9.put (some 8) (.pointer (some ⟨W2.heap.size, 0, none⟩)) := ⟨_, rfl⟩
          change wpAnyH _ _ _ _ _ _ _ (a9.put (some 8) (.pointer (some ⟨W2.heap.size, 0, none⟩))) _
          rw [← hA10]
          have f10_8 : a10.eval (.tmp 8) = .pointer (some ⟨W2.heap.size, 0, none⟩) := by rw [hA10]; exact Act.eval_put_same _ _ _ (by omega)
          have f10_41 : a10.eval (.tmp 41) = .int .i64 y := by rw [hA10]; exact (Act.eval_put_ne _ _ _ _ (by decide)).trans f9_41
          have f10_40 : a10.eval (.tmp 40) = rxV r2 := by rw [hA10]; exact (Act.eval_put_ne _ _ _ _ (by decide)).trans f9_40
          have z10 : a10.tmps.size = 91 := by rw [hA10, Act.size_put]; exact z9
          have dd10 : a10.defers = [] := by rw [hA10, Act.defers_put']; exact dd9
          have HA10 := Lib.hid hA10
          clear hA10 z9 dd9 f9_41 f9_40
          replace hs2 : SAt (W2.alloc (rxO rxZ)) (fun b => gx < b ∧ b ≠ W2.heap.size) r2.A (shares m'.h) := (hs2.base (fun b h1 h2 => ⟨h1, by omega⟩)).next ((Below.refl _ _).alloc (Nat.le_refl _) _)
          refine wpAnyH_ready (rs := [10]) (by kernel_rfl) (by simp) (AllReadyH.cons (by simp only [List.getElem?_toArray, List.getElem?_cons_succ, List.getElem?_cons_zero]; rfl) (fun K hK => ?_) AllReadyH.nil)
          refine srx_store (by rfl) (.tmp 8) (.tmp 40) (by rfl) W2.heap.size rxZ r2 f10_8 f10_40 hg ?_
          have hg2 := rx_turned hg r2
          replace hs2 := (hs2.keep (fun b h1 h2 => row_far (rxC r2).toArray h1.2) (row_size _ _ _)).base (B' := fun b => gx < b) (fun b h _ => h.1)
          refine hK.out _ _ (hS.row HK.out hfar.1 hfar.2.2 hfar.2.1 _) (fun hS => ?_)
          change wpAnyH _ _ _ _ _ _ _ a10 _
          refine wpAnyH_take (i := 11) (v := .int .i64 y) rfl (by kernel_rfl) (by kernel_rfl) (by kernel_rfl) (fun _ _ _ h => h) (yields_assign rfl (.tmp 41) rfl f10_41) hS ?_
          obtain ⟨a11, hA11⟩ : ∃ a', a' = a10.put (some 9) (.int .i64 y) := ⟨_, rfl⟩
          change wpAnyH _ _ _ _ _ _ _ (a10.put (some 9) (.int .i64 y)) _
          rw [← hA11]
          have f11_9 : a11.eval (.tmp 9) = .int .i64 y := by rw [hA11]; exact Act.eval_put_same _ _ _ (by omega)
          have f11_8 : a11.eval (.tmp 8) = .pointer (some ⟨W2.heap.size, 0, none⟩) := by rw [hA11]; exact (Act.eval_put_ne _ _ _ _ (by decide)).trans f10_8
          have f11_41 : a11.eval (.tmp 41) = .int .i64 y := by rw [hA11]; exact (Act.eval_put_ne _ _ _ _ (by decide)).trans f10_41
          have f11_40 : a11.eval (.tmp 40) = rxV r2 := by rw [hA11]; exact (Act.eval_put_ne _ _ _ _ (by decide)).trans f10_40
          have z11 : a11.tmps.size = 91 := by rw [hA11, Act.size_put]; exact z10
          have dd11 : a11.defers = [] := by rw [hA11, Act.defers_put']; exact dd10
          have HA11 := Lib.hid hA11
          clear hA11 z10 dd10 f10_8 f10_41 f10_40
          refine wpAnyH_done (by kernel_rfl) ?_ _
          have HE := Lib.hid (And.intro hS (And.intro hg2 (And.intro hr2 hs2)))
          clear hS hg2 hr2 hs2 hfar hK
          rw [HA11.out]
          rw [HA10.out]
          rw [HA9.out]
          rw [HA8.out]
          rw [HA7.out]
          rw [HA6.out]
          rw [HA5.out]
          rw [HA4.out]
          rw [HA3.out]
          rw [HA2.out]
          rw [HA1.out]
          rw [HA0.out]
          simp only [Act.put, List.setIfInBounds_toArray, List.set_cons_zero, List.set_cons_succ]
          go_wp2_with fail
          go_meet
          exact ⟨_, _, rfl, rfl, HE⟩
        · skip
          refine srx_alloc (by rfl) (by rfl) ?_
          have hg := heap_alloc_new wr.drew (rxO rxZ)
          have hfar : w.heap.size ≤ wr.drew.heap.size ∧ wr.drew.heap.size ≠ gx ∧ wr.drew.heap.size ≠ g := by have h1 := lt_of_block hS.x; have h2 := hS.hs.1.size; have h3 := HK.out.lt _ _ _ hS.hs.2.2; omega
          refine hK.out _ _ (hS.next HK.out ((Below.refl _ _).alloc (Nat.le_refl _) _)) (fun hS => ?_)
          obtain ⟨a6, hA6⟩ : ∃ a', a' = a5.put (some 8) (.pointer (some ⟨wr.drew.heap.size, 0, none⟩)) := ⟨_, rfl⟩
          change wpAnyH _ _ _ _ _ _ _ (a5.put (some 8) (.pointer (some ⟨wr.drew.heap.size, 0, none⟩))) _
          rw [← hA6]
          have f6_8 : a6.eval (.tmp 8) = .pointer (some ⟨wr.drew.heap.size, 0, none⟩) := by rw [hA6]; exact Act.eval_put_same _ _ _ (by omega)
          have f6_38 : a6.eval (.tmp 38) = .agg #[.int .i64 k, .int .i64 t, .int .i64 n] := by rw [hA6]; exact (Act.eval_put_ne _ _ _ _ (by decide)).trans f5_38
          have f6_34 : a6.eval (.tmp 34) = rxV r := by rw [hA6]; exact (Act.eval_put_ne _ _ _ _ (by decide)).trans f5_34
          have z6 : a6.tmps.size = 91 := by rw [hA6, Act.size_put]; exact z5
          have dd6 : a6.defers = [] := by rw [hA6, Act.defers_put']; exact dd5
          have HA6 := Lib.hid hA6
          clear hA6 z5 dd5 f5_38 f5_34
          refine wpAnyH_ready (rs := [5]) (by kernel_rfl) (by simp) (AllReadyH.cons (by simp only [List.getElem?_toArray, List.getElem?_cons_succ, List.getElem?_cons_zero]; rfl) (fun K hK => ?_) AllReadyH.nil)
          have hsat : SAt (wr.drew.alloc (rxO rxZ)) (fun b => gx < b ∧ b ≠ wr.drew.heap.size) r.A (shares m.h) := ((HP.out.2.next (Below.refl _ _).drew).base (fun b h1 h2 => ⟨h1, by omega⟩)).next ((Below.refl _ _).alloc (Nat.le_refl _) _)
          refine step_call (by rfl) 10 #[.tmp 34, .tmp 38] #[27, 33] (by rfl) #[rxV r, .agg #[.int .i64 k, .int .i64 t, .int .i64 n]] (by simp only [List.map_toArray, List.map_cons, List.map_nil, f6_34, f6_38]) Try.func10 (by kernel_rfl) rfl (HRd (wr.drew.alloc (rxO rxZ)) (fun b => gx < b ∧ b ≠ wr.drew.heap.size) hsat (by intro b hb; have := lt_of_block hS.x; rw [World.size_alloc] at hb this; refine ⟨?_, ?_⟩ <;> omega)).out (fun e' W2 hR => ?_)
          obtain ⟨r2, rfl, hr2, hs2, hb2⟩ := hR
          clear hsat
          refine ⟨_, rfl, hK.out _ _ (hS.next HK.out hb2) (fun hS => ?_)⟩
          obtain ⟨a7, hA7⟩ : ∃ a', a' = a6.put (some 39) (.tuple #[rxV r2, .int .i64 y]) := ⟨_, rfl⟩
          change wpAnyH _ _ _ _ _ _ _ (a6.put (some 39) (.tuple #[rxV r2, .int .i64 y])) _
          rw [← hA7]
          have f7_39 : a7.eval (.tmp 39) = .tuple #[rxV r2, .int .i64 y] := by rw [hA7]; exact Act.eval_put_same _ _ _ (by omega)
          have f7_8 : a7.eval (.tmp 8) = .pointer (some ⟨wr.drew.heap.size, 0, none⟩) := by rw [hA7]; exact (Act.eval_put_ne _ _ _ _ (by decide)).trans f6_8
          have z7 : a7.tmps.size = 91 := by rw [hA7, Act.size_put]; exact z6
          have dd7 : a7.defers = [] := by rw [hA7, Act.defers_put']; exact dd6
          have HA7 := Lib.hid hA7
          clear hA7 z6 dd6 f6_8 f6_38 f6_34
          replace hg := (hb2.block _ (lt_of_block hg)).trans hg
          refine wpAnyH_take (i := 6) (v := .tuple #[rxV r2, .int .i64 y]) rfl (by kernel_rfl) (by kernel_rfl) (by kernel_rfl) (fun _ _ _ h => h) (yields_move rfl (.tmp 39) rfl f7_39) hS ?_
          obtain ⟨a8, hA8⟩ : ∃ a', a' = a7.put (some 33) (.tuple #[rxV r2, .int .i64 y]) := ⟨_, rfl⟩
          change wpAnyH _ _ _ _ _ _ _ (a7.put (some 33) (.tuple #[rxV r2, .int .i64 y])) _
          rw [← hA8]
          have f8_33 : a8.eval (.tmp 33) = .tuple #[rxV r2, .int .i64 y] := by rw [hA8]; exact Act.eval_put_same _ _ _ (by omega)
          have f8_8 : a8.eval (.tmp 8) = .pointer (some ⟨wr.drew.heap.size, 0, none⟩) := by rw [hA8]; exact (Act.eval_put_ne _ _ _ _ (by decide)).trans f7_8
          have z8 : a8.tmps.size = 91 := by rw [hA8, Act.size_put]; exact z7
          have dd8 : a8.defers = [] := by rw [hA8, Act.defers_put']; exact dd7
          have HA8 := Lib.hid hA8
          clear hA8 z7 dd7 f7_39 f7_8
          refine wpAnyH_take (i := 7) (v := rxV r2) rfl (by kernel_rfl) (by kernel_rfl) (by kernel_rfl) (fun _ _ _ h => h) (yields_part rfl (.tmp 33) 0 rfl _ _ f8_33 rfl) hS ?_
          obtain ⟨a9, hA9⟩ : ∃ a', a' = a8.put (some 40) (rxV r2) := ⟨_, rfl⟩
          change wpAnyH _ _ _ _ _ _ _ (a8.put (some 40) (rxV r2)) _
          rw [← hA9]
          have f9_40 : a9.eval (.tmp 40) = rxV r2 := by rw [hA9]; exact Act.eval_put_same _ _ _ (by omega)
          have f9_33 : a9.eval (.tmp 33) = .tuple #[rxV r2, .int .i64 y] := by rw [hA9]; exact (Act.eval_put_ne _ _ _ _ (by decide)).trans f8_33
          have f9_8 : a9.eval (.tmp 8) = .pointer (some ⟨wr.drew.heap.size, 0, none⟩) := by rw [hA9]; exact (Act.eval_put_ne _ _ _ _ (by decide)).trans f8_8
          have z9 : a9.tmps.size = 91 := by rw [hA9, Act.size_put]; exact z8
          have dd9 : a9.defers = [] := by rw [hA9, Act.defers_put']; exact dd8
          have HA9 := Lib.hid hA9
          clear hA9 z8 dd8 f8_33 f8_8
          refine wpAnyH_take (i := 8) (v := .int .i64 y) rfl (by kernel_rfl) (by kernel_rfl) (by kernel_rfl) (fun _ _ _ h => h) (yields_part rfl (.tmp 33) 1 rfl _ _ f9_33 rfl) hS ?_
          obtain ⟨a10, hA10⟩ : ∃ a', a' = a9.put (some 41) (.int .i64 y) := ⟨_, rfl⟩
          change wpAnyH _ _ _ _ _ _ _ (a9.put (some 41) (.int .i64 y)) _
          rw [← hA10]
          have f10_41 : a10.eval (.tmp 41) = .int .i64 y := by rw [hA10]; exact Act.eval_put_same _ _ _ (by omega)
          have f10_40 : a10.eval (.tmp 40) = rxV r2 := by rw [hA10]; exact (Act.eval_put_ne _ _ _ _ (by decide)).trans f9_40
          have f10_8 : a10.eval (.tmp 8) = .pointer (some ⟨wr.drew.heap.size, 0, none⟩) := by rw [hA10]; exact (Act.eval_put_ne _ _ _ _ (by decide)).trans f9_8
          have z10 : a10.tmps.size = 91 := by rw [hA10, Act.size_put]; exact z9
          have dd10 : a10.defers = [] := by rw [hA10, Act.defers_put']; exact dd9
          have HA10 := Lib.hid hA10
          clear hA10 z9 dd9 f9_40 f9_33 f9_8
          refine wpAnyH_ready (rs := [10]) (by kernel_rfl) (by simp) (AllReadyH.cons (by simp only [List.getElem?_toArray, List.getElem?_cons_succ, List.getElem?_cons_zero]; rfl) (fun K hK => ?_) AllReadyH.nil)
          refine srx_store (by rfl) (.tmp 8) (.tmp 40) (by rfl) wr.drew.heap.size rxZ r2 f10_8 f10_40 hg ?_
          have hg2 := rx_turned hg r2
          replace hs2 := (hs2.keep (fun b h1 h2 => row_far (rxC r2).toArray h1.2) (row_size _ _ _)).base (B' := fun b => gx < b) (fun b h _ => h.1)
          refine hK.out _ _ (hS.row HK.out hfar.1 hfar.2.2 hfar.2.1 _) (fun hS => ?_)
          change wpAnyH _ _ _ _ _ _ _ a10 _
          refine wpAnyH_take (i := 11) (v := .int .i64 y) rfl (by kernel_rfl) (by kernel_rfl) (by kernel_rfl) (fun _ _ _ h => h) (yields_assign rfl (.tmp 41) rfl f10_41) hS ?_
          obtain ⟨a11, hA11⟩ : ∃ a', a' = a10.put (some 9) (.int .i64 y) := ⟨_, rfl⟩
          change wpAnyH _ _ _ _ _ _ _ (a10.put (some 9) (.int .i64 y)) _
          rw [← hA11]
          have f11_9 : a11.eval (.tmp 9) = .int .i64 y := by rw [hA11]; exact Act.eval_put_same _ _ _ (by omega)
          have f11_41 : a11.eval (.tmp 41) = .int .i64 y := by rw [hA11]; exact (Act.eval_put_ne _ _ _ _ (by decide)).trans f10_41
          have f11_40 : a11.eval (.tmp 40) = rxV r2 := by rw [hA11]; exact (Act.eval_put_ne _ _ _ _ (by decide)).trans f10_40
          have f11_8 : a11.eval (.tmp 8) = .pointer (some ⟨wr.drew.heap.size, 0, none⟩) := by rw [hA11]; exact (Act.eval_put_ne _ _ _ _ (by decide)).trans f10_8
          have z11 : a11.tmps.size = 91 := by rw [hA11, Act.size_put]; exact z10
          have dd11 : a11.defers = [] := by rw [hA11, Act.defers_put']; exact dd10
          have HA11 := Lib.hid hA11
          clear hA11 z10 dd10 f10_41 f10_40 f10_8
          refine wpAnyH_done (by kernel_rfl) ?_ _
          have HE := Lib.hid (And.intro hS (And.intro hg2 (And.intro hr2 hs2)))
          clear hS hg2 hr2 hs2 hfar hK
          rw [HA11.out]
          rw [HA10.out]
          rw [HA9.out]
          rw [HA8.out]
          rw [HA7.out]
          rw [HA6.out]
          rw [HA5.out]
          rw [HA4.out]
          rw [HA3.out]
          rw [HA2.out]
          rw [HA1.out]
          rw [HA0.out]
          simp only [Act.put, List.setIfInBounds_toArray, List.set_cons_zero, List.set_cons_succ]
          go_wp2_with fail
          go_meet
          exact ⟨_, _, rfl, rfl, HE⟩
      case rest =>
        obtain ⟨gn, r2, rfl, rfl, HW⟩ := hcut
        clear HP HRd
        go_upto_region 9 with (first | refine wrx_load rfl _ rfl gn rfl r2 HW.out.2.1 ?_ | refine wrx_store rfl _ _ rfl gx r r2 rfl rfl HW.out.1.x ?_)
        try simp only [Act.put, List.setIfInBounds_toArray, List.set_cons_zero, List.set_cons_succ]
        refine wp_hold_world (fun W3 HW3 => ?_)
        have H3 : Hid (Cz At w g gx m m' r2 W3) := Lib.hid (by
          rw [HW3.out]
          exact ⟨HW.out.1.box HK.out r2, HW.out.2.2.2.keep (fun b h1 _ => row_far _ (by omega)) (row_size _ _ _)⟩)
        have HRo := Lib.hid HW.out.2.2.1
        clear HW3 HW
        obtain ⟨c0, c1, c2⟩ := HCe W3 H3.out.1.hs.1
        obtain ⟨x0, x1⟩ := rx_cells H3.out.1.x
        have HX := fun W (h : Cz At w g gx m' m' r2 W) => And.intro (HCe W h.1.hs.1) (rx_cells h.1.x)
        have HD3 := HDo W3.drew (HK.out.loc _ _ _ _ H3.out.1.hs.2.2 rfl (Nat.le_refl _))
        have H3d := Lib.hid (H3.out.next HK.out (Below.refl _ _).drew)
        have HSh := fun W h => Lib.hid (HK.out.shares W g m' h HF'.out)
        have HSa := fun W A3 c3 B2 h3 hs => Lib.hid (rsame_any HRo.out A3 c3 W (fun b => gx < b) B2 h3 hs)
        have HFr := fun W h => Lib.hid (HK.out.free W g m' h HF'.out)
        have HRF := fun W hs => Lib.hid (rfree_any HF'.out HRo.out W (fun b => gx < b) hs)
        have HHe := fun W h => Lib.hid (HK.out.held W g m' t h HF'.out HT.out)
        have HRH := fun W hs => Lib.hid (rheld_any HF'.out HRo.out t W (fun b => gx < b) hs)
        have HTo := fun W h => Lib.hid (HK.out.total W g m' h HF'.out)
        rw [← HRo.out.t] at HTo
        generalize (shares m'.h).length = L at *
        generalize freeP m' = fr at *
        generalize hv m'.h t = hd at *
        have qy : (y != y) = false := by simp
        have q0 : (fr != fr) = false := by simp
        have q1 : (hd != hd) = false := by simp
        have q2 : (r2.t != r2.t) = false := by simp
        go_region_held3 (fun w' => w'.cell? ⟨b, off + j * 3, none⟩ = some (.int .i64 k) ∧ w'.cell? ⟨b, off + j * 3 + 1, none⟩ = some (.int .i64 t) ∧ w'.cell? ⟨b, off + j * 3 + 2, none⟩ = some (.int .i64 n) ∧ w'.cell? ⟨gx, 0, none⟩ = some (.int .i64 r2.t) ∧ w'.cell? ⟨gx, 1, none⟩ = some (.slice r2.A r2.n r2.c)) (go_keep)
          (first
            | (go_at_call 11; refine HD3.out.mono ?_; rintro _ w4 ⟨rfl, ha4, ho4⟩; have HM := Lib.hid (H3d.out.only ho4 ha4); obtain ⟨⟨e4, e5, e6⟩, y4, z4⟩ := HX w4 HM.out)
            | (go_at_call 13; refine (HSh _ ?_).out.mono ?_; (exact HM.out.1.hs.2.2); rintro _ w5 ⟨A3, c3, rfl, hs3, hb5⟩; have HS3 := Lib.hid hs3; clear hs3; have HM := Lib.hid (HM.out.next HK.out hb5); obtain ⟨⟨e4, e5, e6⟩, y4, z4⟩ := HX w5 HM.out)
            | (go_at_call 12; refine (HSa _ _ _ _ HS3.out HM.out.2).out.mono ?_; rintro _ w6 ⟨rfl, hb5⟩; have HM := Lib.hid (HM.out.next HK.out hb5); obtain ⟨⟨e4, e5, e6⟩, y4, z4⟩ := HX w6 HM.out)
            | (go_at_call 14; refine (HFr _ ?_).out.mono ?_; (exact HM.out.1.hs.2.2); rintro _ w7 ⟨rfl, hb5⟩; have HM := Lib.hid (HM.out.next HK.out hb5); obtain ⟨⟨e4, e5, e6⟩, y4, z4⟩ := HX w7 HM.out)
            | (go_at_call 15; refine (HRF _ HM.out.2).out.mono ?_; rintro _ w8 ⟨rfl, hb5⟩; have HM := Lib.hid (HM.out.next HK.out hb5); obtain ⟨⟨e4, e5, e6⟩, y4, z4⟩ := HX w8 HM.out)
            | (go_at_call 16; refine (HHe _ ?_).out.mono ?_; (exact HM.out.1.hs.2.2); rintro _ w9 ⟨rfl, hb5⟩; have HM := Lib.hid (HM.out.next HK.out hb5); obtain ⟨⟨e4, e5, e6⟩, y4, z4⟩ := HX w9 HM.out)
            | (go_at_call 17; refine (HRH _ HM.out.2).out.mono ?_; rintro _ w10 ⟨rfl, hb5⟩; have HM := Lib.hid (HM.out.next HK.out hb5); obtain ⟨⟨e4, e5, e6⟩, y4, z4⟩ := HX w10 HM.out)
            | (go_at_call 9; refine (HTo _ ?_).out.mono ?_; (exact HM.out.1.hs.2.2); rintro _ w11 ⟨rfl, hb5⟩; have HM := Lib.hid (HM.out.next HK.out hb5); obtain ⟨⟨e4, e5, e6⟩, y4, z4⟩ := HX w11 HM.out))
        all_goals
          have H8 := HM
          clear HM ha4 ho4 hb5 e4 e5 e6 y4 z4 c0 c1 c2 x0 x1 HX
          go_wp2_with fail
          exact ⟨⟨j + 1, m', r2, by go_num, by have := HJ.out.1; omega, by have := HJ.out.2; omega, HF'.out, HRo.out, H8.out⟩, by have := HJ.out.1; simp [intOf]; omega⟩
    · have HB := Lib.hid hP.1.hs.1
      clear hP hfm hrm HI HO
      go_wp2_with fail
      all_goals
        refine (HL _).out.mono ?_
        rintro _ w2 ⟨rfl, hb⟩
        go_wp2
        go_ret
        exact ⟨rfl, HB.out.trans (hb.mono HB.out.size)⟩
end Go.Proofs.Ythdencddocgbjaa.pol
