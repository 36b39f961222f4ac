/-
  Any calls on a lock that many read or one writes, and on the document's beside it: the walk over what is asked of the program's calls. No condition. Printed by tools/mkrwplays.py.
-/
import Derived.Test.YthfgaflfnnlhnaaDoorRwSpec
import Derived.LoopTactic
import Derived.Deep.DeepCutAuto
namespace Go.Proofs.YthfgaflfnnlhnaaDoor.rwl
open Go.RowKit Go.ChangeShapes
open Go.Proofs.YthfgaflfnnlhnaaDoor.obj
open Go.Proofs.YthfgaflfnnlhnaaDoor.bits (Is64 hasB wth wout)
set_option linter.unusedVariables false
set_option linter.unusedSimpArgs false

/-- What holds while calls are made: the program's lock, the document's in its box. -/
structure Pz (At : World → Nat → Rx → Prop) (w : World) (g gx : Nat) (m : Rx) (W : World) : Prop where
  hs : Hs At w g m W
  x : W.heap[gx]? = some (rxO m)
  far : w.heap.size ≤ gx
  ne : g ≠ gx
theorem Pz.next {Ok : World → Prop} {At : World → Nat → Rx → Prop} (K : Keeps Ok At) {w W W' : World} {g gx : Nat} {m : Rx} (h : Pz At w g gx m W) (hb : Below W.heap.size W W') : Pz At w g gx m W' :=
  ⟨hs_next K h.hs hb, (hb.block _ (lt_of_block h.x)).trans h.x, h.far, h.ne⟩
theorem Pz.row {Ok : World → Prop} {At : World → Nat → Rx → Prop} (K : Keeps Ok At) {w W : World} {g gx : Nat} {m : Rx} (h : Pz At w g gx m W) {k : Nat} (hk : w.heap.size ≤ k) (hg : k ≠ g) (hx : k ≠ gx) (rs : Array Value) : Pz At w g gx m (W.setRow k rs) :=
  ⟨⟨row_below h.hs.1 hk rs, h.hs.2.1, K.loc _ _ _ _ h.hs.2.2 (row_far rs (fun e => hg e.symm)) (row_size _ _ _)⟩, (row_far rs (Ne.symm hx)).trans h.x, h.far, h.ne⟩
theorem pz_new {Ok : World → Prop} {At : World → Nat → Rx → Prop} (K : Keeps Ok At) {w W : World} {g : Nat} {m : Rx} (h : Hs At w g m W) : Pz At w g W.heap.size m ((W.alloc (rxO rxZ)).setRow W.heap.size (rxC m).toArray) := by
  have hl := K.lt _ _ _ h.2.2
  have h2 := hs_next K h ((Below.refl _ W).alloc (Nat.le_refl _) (rxO rxZ))
  exact ⟨⟨row_below h2.1 h.1.size _, h2.2.1, K.loc _ _ _ _ h2.2.2 (row_far _ (by omega)) (row_size _ _ _)⟩, rx_turned (heap_alloc_new W (rxO rxZ)) m, h.1.size, by omega⟩
set_option maxRecDepth 100000 in
set_option maxHeartbeats 8000000 in
theorem plays_walk {Ok : World → Prop} {At : World → Nat → Rx → Prop} (K : Keeps Ok At) (A : Option Addr) (cap : Nat) (ops : List (Int × Int)) (u : Int) (w : World) (hu : I64 u) (ho : OpsAt w A ops) (hi : ∀ j, j < ops.length → I64 (ops.getD j (0, 0)).1 ∧ I64 (ops.getD j (0, 0)).2) (hl : ops.length ≤ 9223372036854775807) (hok : Ok w) :
    Calls Tryd.prog 3 #[.slice A ops.length cap, .int .i64 u] w fun e w' => e = .returned (.bool true) ∧ Below w.heap.size w w' := by
  have HK := Lib.hid K
  have HO := Lib.hid ho
  have HI := Lib.hid hi
  have HU := Lib.hid hu
  have HL := fun W (h : Below w.heap.size w W) => Lib.hid (lives_any K W (K.mono _ _ hok h))
  have HOk := Lib.hid hok
  have HN := fun W => Lib.hid (refNew17_any W)
  unfold RxPost at HN
  have H1 : Hid (Hs At w w.heap.size newR (w.alloc rzB)) := Lib.hid ⟨(Below.refl _ w).alloc (Nat.le_refl _) _, Nat.le_refl _, K.new w⟩
  clear K ho hi hu hok
  go_enter Tryd.func3, Tryd.ntmps3
  go_wp2_with (first | refine wq_build rfl rfl ?_ | refine wq_box rfl _ rfl rfl ?_)
  refine (HN _).out.mono ?_
  rintro _ w2 ⟨rfl, hb⟩
  have H2 := Lib.hid (hs_next HK.out H1.out hb)
  have HP2 := Lib.hid (pz_new HK.out H2.out)
  clear hb HN H1
  go_upto_region 2 with (first | refine wrx_alloc rfl rfl ?_ | refine wrx_store rfl _ _ rfl w2.heap.size rxZ newR rfl rfl (heap_alloc_new w2 (rxO rxZ)) ?_)
  try simp only [Act.put, List.setIfInBounds_toArray, List.set_cons_zero, List.set_cons_succ]
  generalize (w2.alloc (rxO rxZ)).setRow w2.heap.size (rxC newR).toArray = W2 at *
  generalize w2.heap.size = gx at *
  clear H2
  have HG : Hid (∃ g, g = w.heap.size) := Lib.hid ⟨_, rfl⟩
  go_wp2_with fail
  go_loopw [7] (fun i wr => ∃ (j : Nat) (m : Rx), i = .int .i64 (j : Int) ∧ j ≤ ops.length ∧ j ≤ 80 ∧ Fine m ∧ Pz At w w.heap.size gx m wr) (fun i _ => ops.length - (intOf i).toNat)
  case atStart => exact ⟨0, newR, rfl, Nat.zero_le _, Nat.zero_le _, new_fine, HP2.out⟩
  case round =>
    obtain ⟨j, m, rfl, hj, hj80, hfm, hP⟩ := hrel
    clear HP2 HG
    by_cases hlt : j < ops.length ∧ j < 80
    · obtain ⟨hlt, h80⟩ := hlt
      have d1 : decide (j < ops.length) = true := by simp; omega
      have d2 : decide ((j : Int) < 80) = true := by simp; omega
      obtain ⟨b, off, rfl, hb, c0, c1⟩ := HO.out j hlt
      obtain ⟨i0, i1⟩ := HI.out j hlt
      generalize ops.getD j (0, 0) = o at *
      obtain ⟨k, t⟩ := o
      dsimp only at c0 c1 i0 i1
      have HCe : ∀ W, Below w.heap.size w W → W.cell? ⟨b, off + j * 2, none⟩ = some (.int .i64 k) ∧ W.cell? ⟨b, off + j * 2 + 1, none⟩ = some (.int .i64 t) := fun W h => ⟨(h.cell (p := ⟨b, off + j * 2, none⟩) hb).trans c0, (h.cell (p := ⟨b, off + j * 2 + 1, none⟩) hb).trans c1⟩
      have HRd := fun W => Lib.hid (refDo17_any m k t W hfm.1)
      unfold RxPost2 at HRd
      have HDo := fun W h => Lib.hid (do_any HK.out m w.heap.size k t W h hfm i1)
      unfold DoPost at HDo
      obtain ⟨q, hq⟩ : ∃ q, q = doR m k t := ⟨_, rfl⟩
      rw [← hq] at HRd HDo
      have hf' : Fine q.1 := by rw [hq]; exact do_fine hfm k t
      obtain ⟨m', y⟩ := q
      dsimp only at HRd HDo hf'
      have HF' := Lib.hid hf'
      have HP := Lib.hid hP
      have HT := Lib.hid i1
      have n0 : (0 : Int) ≤ (j : Int) := by omega
      have n1 : (j : Int) < (ops.length : Int) := by omega
      have HJ := Lib.hid (And.intro hlt h80)
      clear c0 c1 i0 i1 hb hq hf' hfm hP hj hj80 hlt h80
      go_upto_region 5 with fail
      try simp only [Act.put, List.setIfInBounds_toArray, List.set_cons_zero, List.set_cons_succ]
      go_cut [8, 9] (fun x z wx => ∃ gn, x = .pointer (some ⟨gn, 0, none⟩) ∧ z = .int .i64 y ∧ Hid (Pz At w w.heap.size gx m wx ∧ wx.heap[gn]? = some (rxO m') ∧ w.heap.size ≤ gn ∧ gn ≠ gx ∧ gn ≠ w.heap.size))
      case first =>
        refine wp_hold_act (fun a0 HA0 => ?_)
        have z0 : a0.tmps.size = 89 := by rw [HA0.out]; rfl
        have dd0 : a0.defers = [] := by rw [HA0.out]
        have f0_0 : a0.eval (.tmp 0) = .slice (some ⟨b, off, none⟩) ops.length cap := by rw [HA0.out]; rfl
        have f0_6 : a0.eval (.tmp 6) = .pointer (some ⟨gx, 0, none⟩) := by rw [HA0.out]; rfl
        have f0_7 : a0.eval (.tmp 7) = .int .i64 (j : Int) := by rw [HA0.out]; rfl
        refine wp_region_held_drew (S := fun w' => Pz At w w.heap.size gx m w') (by kernel_rfl) (HP.out.next HK.out (Below.refl _ _).drew) (fun hS => ?_)
        refine wpAnyH_take (i := 0) (v := rxV m) rfl (by kernel_rfl) (by kernel_rfl) (by kernel_rfl) (fun _ _ _ h => h) (yields_rx rfl (.tmp 6) rfl _ f0_6 m (fun _ h => h.x)) hS ?_
        obtain ⟨a1, hA1⟩ : ∃ a', a' = a0.put (some 24) (rxV m) := ⟨_, rfl⟩
        change wpAnyH _ _ _ _ _ _ _ (a0.put (some 24) (rxV m)) _
        rw [← hA1]
        have f1_24 : a1.eval (.tmp 24) = rxV m := by rw [hA1]; exact Act.eval_put_same _ _ _ (by omega)
        have f1_0 : a1.eval (.tmp 0) = .slice (some ⟨b, off, none⟩) ops.length cap := by rw [hA1]; exact (Act.eval_put_ne _ _ _ _ (by decide)).trans f0_0
        have f1_7 : a1.eval (.tmp 7) = .int .i64 (j : Int) := by rw [hA1]; exact (Act.eval_put_ne _ _ _ _ (by decide)).trans f0_7
        have z1 : a1.tmps.size = 89 := by rw [hA1, Act.size_put]; exact z0
        have dd1 : a1.defers = [] := by rw [hA1, Act.defers_put']; exact dd0
        have HA1 := Lib.hid hA1
        clear hA1 z0 dd0 f0_0 f0_6 f0_7
        refine wpAnyH_take (i := 1) (v := .slice (some ⟨b, off, none⟩) ops.length cap) rfl (by kernel_rfl) (by kernel_rfl) (by kernel_rfl) (fun _ _ _ h => h) (yields_move rfl (.tmp 0) rfl f1_0) hS ?_
        obtain ⟨a2, hA2⟩ : ∃ a', a' = a1.put (some 25) (.slice (some ⟨b, off, none⟩) ops.length cap) := ⟨_, rfl⟩
        change wpAnyH _ _ _ _ _ _ _ (a1.put (some 25) (.slice (some ⟨b, off, none⟩) ops.length cap)) _
        rw [← hA2]
        have f2_25 : a2.eval (.tmp 25) = .slice (some ⟨b, off, none⟩) ops.length cap := by rw [hA2]; exact Act.eval_put_same _ _ _ (by omega)
        have f2_24 : a2.eval (.tmp 24) = rxV m := by rw [hA2]; exact (Act.eval_put_ne _ _ _ _ (by decide)).trans f1_24
        have f2_7 : a2.eval (.tmp 7) = .int .i64 (j : Int) := by rw [hA2]; exact (Act.eval_put_ne _ _ _ _ (by decide)).trans f1_7
        have z2 : a2.tmps.size = 89 := by rw [hA2, Act.size_put]; exact z1
        have dd2 : a2.defers = [] := by rw [hA2, Act.defers_put']; exact dd1
        have HA2 := Lib.hid hA2
        clear hA2 z1 dd1 f1_24 f1_0 f1_7
        refine wpAnyH_take (i := 2) (v := .int .i64 (j : Int)) rfl (by kernel_rfl) (by kernel_rfl) (by kernel_rfl) (fun _ _ _ h => h) (yields_move rfl (.tmp 7) rfl f2_7) hS ?_
        obtain ⟨a3, hA3⟩ : ∃ a', a' = a2.put (some 26) (.int .i64 (j : Int)) := ⟨_, rfl⟩
        change wpAnyH _ _ _ _ _ _ _ (a2.put (some 26) (.int .i64 (j : Int))) _
        rw [← hA3]
        have f3_26 : a3.eval (.tmp 26) = .int .i64 (j : Int) := by rw [hA3]; exact Act.eval_put_same _ _ _ (by omega)
        have f3_25 : a3.eval (.tmp 25) = .slice (some ⟨b, off, none⟩) ops.length cap := by rw [hA3]; exact (Act.eval_put_ne _ _ _ _ (by decide)).trans f2_25
        have f3_24 : a3.eval (.tmp 24) = rxV m := by rw [hA3]; exact (Act.eval_put_ne _ _ _ _ (by decide)).trans f2_24
        have z3 : a3.tmps.size = 89 := by rw [hA3, Act.size_put]; exact z2
        have dd3 : a3.defers = [] := by rw [hA3, Act.defers_put']; exact dd2
        have HA3 := Lib.hid hA3
        clear hA3 z2 dd2 f2_25 f2_24 f2_7
        refine wpAnyH_take (i := 3) (v := .pointer (some ⟨b, off + j * 2, none⟩)) rfl (by kernel_rfl) (by kernel_rfl) (by kernel_rfl) (fun _ _ _ h => h) (yields_idx rfl (.tmp 25) (.tmp 26) rfl _ _ _ _ j f3_25 f3_26 n0 n1) hS ?_
        obtain ⟨a4, hA4⟩ : ∃ a', a' = a3.put (some 27) (.pointer (some ⟨b, off + j * 2, none⟩)) := ⟨_, rfl⟩
        change wpAnyH _ _ _ _ _ _ _ (a3.put (some 27) (.pointer (some ⟨b, off + j * 2, none⟩))) _
        rw [← hA4]
        have f4_27 : a4.eval (.tmp 27) = .pointer (some ⟨b, off + j * 2, none⟩) := by rw [hA4]; exact Act.eval_put_same _ _ _ (by omega)
        have f4_24 : a4.eval (.tmp 24) = rxV m := by rw [hA4]; exact (Act.eval_put_ne _ _ _ _ (by decide)).trans f3_24
        have z4 : a4.tmps.size = 89 := by rw [hA4, Act.size_put]; exact z3
        have dd4 : a4.defers = [] := by rw [hA4, Act.defers_put']; exact dd3
        have HA4 := Lib.hid hA4
        clear hA4 z3 dd3 f3_26 f3_25 f3_24
        refine wpAnyH_take (i := 4) (v := .agg #[.int .i64 k, .int .i64 t]) rfl (by kernel_rfl) (by kernel_rfl) (by kernel_rfl) (fun _ _ _ h => h) (yields_op rfl (.tmp 27) rfl _ _ f4_27 k t (fun _ h => HCe _ h.hs.1)) hS ?_
        obtain ⟨a5, hA5⟩ : ∃ a', a' = a4.put (some 28) (.agg #[.int .i64 k, .int .i64 t]) := ⟨_, rfl⟩
        change wpAnyH _ _ _ _ _ _ _ (a4.put (some 28) (.agg #[.int .i64 k, .int .i64 t])) _
        rw [← hA5]
        have f5_28 : a5.eval (.tmp 28) = .agg #[.int .i64 k, .int .i64 t] := by rw [hA5]; exact Act.eval_put_same _ _ _ (by omega)
        have f5_24 : a5.eval (.tmp 24) = rxV m := by rw [hA5]; exact (Act.eval_put_ne _ _ _ _ (by decide)).trans f4_24
        have z5 : a5.tmps.size = 89 := by rw [hA5, Act.size_put]; exact z4
        have dd5 : a5.defers = [] := by rw [hA5, Act.defers_put']; exact dd4
        have HA5 := Lib.hid hA5
        clear hA5 z4 dd4 f4_27 f4_24
        refine wpAnyH_ready (rs := [5, 9]) (by kernel_rfl) (by simp) (AllReadyH.cons (by simp only [List.getElem?_toArray, List.getElem?_cons_succ, List.getElem?_cons_zero]; rfl) (fun K hK => ?_) (AllReadyH.cons (by simp only [List.getElem?_toArray, List.getElem?_cons_succ, List.getElem?_cons_zero]; rfl) (fun K hK => ?_) AllReadyH.nil))
        · skip
          refine step_call (by rfl) 7 #[.tmp 24, .tmp 28] #[29, 34] (by rfl) #[rxV m, .agg #[.int .i64 k, .int .i64 t]] (by simp only [List.map_toArray, List.map_cons, List.map_nil, f5_24, f5_28]) Tryd.func7 (by kernel_rfl) rfl (HRd wr.drew).out (fun e' W2 hR => ?_)
          obtain ⟨rfl, hb2⟩ := hR
          refine ⟨_, rfl, hK.out _ _ (hS.next HK.out hb2) (fun hS => ?_)⟩
          obtain ⟨a6, hA6⟩ : ∃ a', a' = a5.put (some 29) (.tuple #[rxV m', .int .i64 y]) := ⟨_, rfl⟩
          change wpAnyH _ _ _ _ _ _ _ (a5.put (some 29) (.tuple #[rxV m', .int .i64 y])) _
          rw [← hA6]
          have f6_29 : a6.eval (.tmp 29) = .tuple #[rxV m', .int .i64 y] := by rw [hA6]; exact Act.eval_put_same _ _ _ (by omega)
          have z6 : a6.tmps.size = 89 := by rw [hA6, Act.size_put]; exact z5
          have dd6 : a6.defers = [] := by rw [hA6, Act.defers_put']; exact dd5
          have HA6 := Lib.hid hA6
          clear hA6 z5 dd5 f5_28 f5_24
          refine wpAnyH_take (i := 6) (v := .tuple #[rxV m', .int .i64 y]) rfl (by kernel_rfl) (by kernel_rfl) (by kernel_rfl) (fun _ _ _ h => h) (yields_move rfl (.tmp 29) rfl f6_29) hS ?_
          obtain ⟨a7, hA7⟩ : ∃ a', a' = a6.put (some 23) (.tuple #[rxV m', .int .i64 y]) := ⟨_, rfl⟩
          change wpAnyH _ _ _ _ _ _ _ (a6.put (some 23) (.tuple #[rxV m', .int .i64 y])) _
          rw [← hA7]
          have f7_23 : a7.eval (.tmp 23) = .tuple #[rxV m', .int .i64 y] := by rw [hA7]; exact Act.eval_put_same _ _ _ (by omega)
          have z7 : a7.tmps.size = 89 := by rw [hA7, Act.size_put]; exact z6
          have dd7 : a7.defers = [] := by rw [hA7, Act.defers_put']; exact dd6
          have HA7 := Lib.hid hA7
          clear hA7 z6 dd6 f6_29
          refine wpAnyH_take (i := 7) (v := rxV m') rfl (by kernel_rfl) (by kernel_rfl) (by kernel_rfl) (fun _ _ _ h => h) (yields_part rfl (.tmp 23) 0 rfl _ _ f7_23 rfl) hS ?_
          obtain ⟨a8, hA8⟩ : ∃ a', a' = a7.put (some 30) (rxV m') := ⟨_, rfl⟩
          change wpAnyH _ _ _ _ _ _ _ (a7.put (some 30) (rxV m')) _
          rw [← hA8]
          have f8_30 : a8.eval (.tmp 30) = rxV m' := by rw [hA8]; exact Act.eval_put_same _ _ _ (by omega)
          have f8_23 : a8.eval (.tmp 23) = .tuple #[rxV m', .int .i64 y] := by rw [hA8]; exact (Act.eval_put_ne _ _ _ _ (by decide)).trans f7_23
          have z8 : a8.tmps.size = 89 := by rw [hA8, Act.size_put]; exact z7
          have dd8 : a8.defers = [] := by rw [hA8, Act.defers_put']; exact dd7
          have HA8 := Lib.hid hA8
          clear hA8 z7 dd7 f7_23
          refine wpAnyH_take (i := 8) (v := .int .i64 y) rfl (by kernel_rfl) (by kernel_rfl) (by kernel_rfl) (fun _ _ _ h => h) (yields_part rfl (.tmp 23) 1 rfl _ _ f8_23 rfl) hS ?_
          obtain ⟨a9, hA9⟩ : ∃ a', a' = a8.put (some 31) (.int .i64 y) := ⟨_, rfl⟩
          change wpAnyH _ _ _ _ _ _ _ (a8.put (some 31) (.int .i64 y)) _
          rw [← hA9]
          have f9_31 : a9.eval (.tmp 31) = .int .i64 y := by rw [hA9]; exact Act.eval_put_same _ _ _ (by omega)
          have f9_30 : a9.eval (.tmp 30) = rxV m' := by rw [hA9]; exact (Act.eval_put_ne _ _ _ _ (by decide)).trans f8_30
          have z9 : a9.tmps.size = 89 := by rw [hA9, Act.size_put]; exact z8
          have dd9 : a9.defers = [] := by rw [hA9, Act.defers_put']; exact dd8
          have HA9 := Lib.hid hA9
          clear hA9 z8 dd8 f8_30 f8_23
          refine wpAnyH_ready (rs := [9]) (by kernel_rfl) (by simp) (AllReadyH.cons (by simp only [List.getElem?_toArray, List.getElem?_cons_succ, List.getElem?_cons_zero]; rfl) (fun K hK => ?_) AllReadyH.nil)
          refine srx_alloc (by rfl) (by rfl) ?_
          have hg := heap_alloc_new W2 (rxO rxZ)
          have hfar : w.heap.size ≤ W2.heap.size ∧ W2.heap.size ≠ gx ∧ W2.heap.size ≠ w.heap.size := by have h1 := lt_of_block hS.x; have h2 := hS.hs.1.size; have h3 := HK.out.lt _ _ _ hS.hs.2.2; omega
          refine hK.out _ _ (hS.next HK.out ((Below.refl _ _).alloc (Nat.le_refl _) _)) (fun hS => ?_)
          obtain ⟨a10, hA10⟩ : ∃ a', a' = a9.put (some 8) (.pointer (some ⟨W2.heap.size, 0, none⟩)) := ⟨_, rfl⟩
          change wpAnyH _ _ _ _ _ _ _ (a9.put (some 8) (.pointer (some ⟨W2.heap.size, 0, none⟩))) _
          rw [← hA10]
          have f10_8 : a10.eval (.tmp 8) = .pointer (some ⟨W2.heap.size, 0, none⟩) := by rw [hA10]; exact Act.eval_put_same _ _ _ (by omega)
          have f10_31 : a10.eval (.tmp 31) = .int .i64 y := by rw [hA10]; exact (Act.eval_put_ne _ _ _ _ (by decide)).trans f9_31
          have f10_30 : a10.eval (.tmp 30) = rxV m' := by rw [hA10]; exact (Act.eval_put_ne _ _ _ _ (by decide)).trans f9_30
          have z10 : a10.tmps.size = 89 := by rw [hA10, Act.size_put]; exact z9
          have dd10 : a10.defers = [] := by rw [hA10, Act.defers_put']; exact dd9
          have HA10 := Lib.hid hA10
          clear hA10 z9 dd9 f9_31 f9_30
          refine wpAnyH_ready (rs := [10]) (by kernel_rfl) (by simp) (AllReadyH.cons (by simp only [List.getElem?_toArray, List.getElem?_cons_succ, List.getElem?_cons_zero]; rfl) (fun K hK => ?_) AllReadyH.nil)
          refine srx_store (by rfl) (.tmp 8) (.tmp 30) (by rfl) W2.heap.size rxZ m' f10_8 f10_30 hg ?_
          have hg2 := rx_turned hg m'
          refine hK.out _ _ (hS.row HK.out hfar.1 hfar.2.2 hfar.2.1 _) (fun hS => ?_)
          change wpAnyH _ _ _ _ _ _ _ a10 _
          refine wpAnyH_take (i := 11) (v := .int .i64 y) rfl (by kernel_rfl) (by kernel_rfl) (by kernel_rfl) (fun _ _ _ h => h) (yields_assign rfl (.tmp 31) rfl f10_31) hS ?_
          obtain ⟨a11, hA11⟩ : ∃ a', a' = a10.put (some 9) (.int .i64 y) := ⟨_, rfl⟩
          change wpAnyH _ _ _ _ _ _ _ (a10.put (some 9) (.int .i64 y)) _
          rw [← hA11]
          have f11_9 : a11.eval (.tmp 9) = .int .i64 y := by rw [hA11]; exact Act.eval_put_same _ _ _ (by omega)
          have f11_8 : a11.eval (.tmp 8) = .pointer (some ⟨W2.heap.size, 0, none⟩) := by rw [hA11]; exact (Act.eval_put_ne _ _ _ _ (by decide)).trans f10_8
          have f11_31 : a11.eval (.tmp 31) = .int .i64 y := by rw [hA11]; exact (Act.eval_put_ne _ _ _ _ (by decide)).trans f10_31
          have f11_30 : a11.eval (.tmp 30) = rxV m' := by rw [hA11]; exact (Act.eval_put_ne _ _ _ _ (by decide)).trans f10_30
          have z11 : a11.tmps.size = 89 := by rw [hA11, Act.size_put]; exact z10
          have dd11 : a11.defers = [] := by rw [hA11, Act.defers_put']; exact dd10
          have HA11 := Lib.hid hA11
          clear hA11 z10 dd10 f10_8 f10_31 f10_30
          refine wpAnyH_done (by kernel_rfl) ?_ _
          have HE := Lib.hid (And.intro hS (And.intro hg2 hfar))
          clear hS hg2 hfar hK
          rw [HA11.out]
          rw [HA10.out]
          rw [HA9.out]
          rw [HA8.out]
          rw [HA7.out]
          rw [HA6.out]
          rw [HA5.out]
          rw [HA4.out]
          rw [HA3.out]
          rw [HA2.out]
          rw [HA1.out]
          rw [HA0.out]
          simp only [Act.put, List.setIfInBounds_toArray, List.set_cons_zero, List.set_cons_succ]
          go_wp2_with fail
          go_meet
          exact ⟨_, rfl, rfl, HE⟩
        · skip
          refine srx_alloc (by rfl) (by rfl) ?_
          have hg := heap_alloc_new wr.drew (rxO rxZ)
          have hfar : w.heap.size ≤ wr.drew.heap.size ∧ wr.drew.heap.size ≠ gx ∧ wr.drew.heap.size ≠ w.heap.size := by have h1 := lt_of_block hS.x; have h2 := hS.hs.1.size; have h3 := HK.out.lt _ _ _ hS.hs.2.2; omega
          refine hK.out _ _ (hS.next HK.out ((Below.refl _ _).alloc (Nat.le_refl _) _)) (fun hS => ?_)
          obtain ⟨a6, hA6⟩ : ∃ a', a' = a5.put (some 8) (.pointer (some ⟨wr.drew.heap.size, 0, none⟩)) := ⟨_, rfl⟩
          change wpAnyH _ _ _ _ _ _ _ (a5.put (some 8) (.pointer (some ⟨wr.drew.heap.size, 0, none⟩))) _
          rw [← hA6]
          have f6_8 : a6.eval (.tmp 8) = .pointer (some ⟨wr.drew.heap.size, 0, none⟩) := by rw [hA6]; exact Act.eval_put_same _ _ _ (by omega)
          have f6_28 : a6.eval (.tmp 28) = .agg #[.int .i64 k, .int .i64 t] := by rw [hA6]; exact (Act.eval_put_ne _ _ _ _ (by decide)).trans f5_28
          have f6_24 : a6.eval (.tmp 24) = rxV m := by rw [hA6]; exact (Act.eval_put_ne _ _ _ _ (by decide)).trans f5_24
          have z6 : a6.tmps.size = 89 := by rw [hA6, Act.size_put]; exact z5
          have dd6 : a6.defers = [] := by rw [hA6, Act.defers_put']; exact dd5
          have HA6 := Lib.hid hA6
          clear hA6 z5 dd5 f5_28 f5_24
          refine wpAnyH_ready (rs := [5]) (by kernel_rfl) (by simp) (AllReadyH.cons (by simp only [List.getElem?_toArray, List.getElem?_cons_succ, List.getElem?_cons_zero]; rfl) (fun K hK => ?_) AllReadyH.nil)
          refine step_call (by rfl) 7 #[.tmp 24, .tmp 28] #[29, 34] (by rfl) #[rxV m, .agg #[.int .i64 k, .int .i64 t]] (by simp only [List.map_toArray, List.map_cons, List.map_nil, f6_24, f6_28]) Tryd.func7 (by kernel_rfl) rfl (HRd (wr.drew.alloc (rxO rxZ))).out (fun e' W2 hR => ?_)
          obtain ⟨rfl, hb2⟩ := hR
          refine ⟨_, rfl, hK.out _ _ (hS.next HK.out hb2) (fun hS => ?_)⟩
          obtain ⟨a7, hA7⟩ : ∃ a', a' = a6.put (some 29) (.tuple #[rxV m', .int .i64 y]) := ⟨_, rfl⟩
          change wpAnyH _ _ _ _ _ _ _ (a6.put (some 29) (.tuple #[rxV m', .int .i64 y])) _
          rw [← hA7]
          have f7_29 : a7.eval (.tmp 29) = .tuple #[rxV m', .int .i64 y] := by rw [hA7]; exact Act.eval_put_same _ _ _ (by omega)
          have f7_8 : a7.eval (.tmp 8) = .pointer (some ⟨wr.drew.heap.size, 0, none⟩) := by rw [hA7]; exact (Act.eval_put_ne _ _ _ _ (by decide)).trans f6_8
          have z7 : a7.tmps.size = 89 := by rw [hA7, Act.size_put]; exact z6
          have dd7 : a7.defers = [] := by rw [hA7, Act.defers_put']; exact dd6
          have HA7 := Lib.hid hA7
          clear hA7 z6 dd6 f6_8 f6_28 f6_24
          replace hg := (hb2.block _ (lt_of_block hg)).trans hg
          refine wpAnyH_take (i := 6) (v := .tuple #[rxV m', .int .i64 y]) rfl (by kernel_rfl) (by kernel_rfl) (by kernel_rfl) (fun _ _ _ h => h) (yields_move rfl (.tmp 29) rfl f7_29) hS ?_
          obtain ⟨a8, hA8⟩ : ∃ a', a' = a7.put (some 23) (.tuple #[rxV m', .int .i64 y]) := ⟨_, rfl⟩
          change wpAnyH _ _ _ _ _ _ _ (a7.put (some 23) (.tuple #[rxV m', .int .i64 y])) _
          rw [← hA8]
          have f8_23 : a8.eval (.tmp 23) = .tuple #[rxV m', .int .i64 y] := by rw [hA8]; exact Act.eval_put_same _ _ _ (by omega)
          have f8_8 : a8.eval (.tmp 8) = .pointer (some ⟨wr.drew.heap.size, 0, none⟩) := by rw [hA8]; exact (Act.eval_put_ne _ _ _ _ (by decide)).trans f7_8
          have z8 : a8.tmps.size = 89 := by rw [hA8, Act.size_put]; exact z7
          have dd8 : a8.defers = [] := by rw [hA8, Act.defers_put']; exact dd7
          have HA8 := Lib.hid hA8
          clear hA8 z7 dd7 f7_29 f7_8
          refine wpAnyH_take (i := 7) (v := rxV m') rfl (by kernel_rfl) (by kernel_rfl) (by kernel_rfl) (fun _ _ _ h => h) (yields_part rfl (.tmp 23) 0 rfl _ _ f8_23 rfl) hS ?_
          obtain ⟨a9, hA9⟩ : ∃ a', a' = a8.put (some 30) (rxV m') := ⟨_, rfl⟩
          change wpAnyH _ _ _ _ _ _ _ (a8.put (some 30) (rxV m')) _
          rw [← hA9]
          have f9_30 : a9.eval (.tmp 30) = rxV m' := by rw [hA9]; exact Act.eval_put_same _ _ _ (by omega)
          have f9_23 : a9.eval (.tmp 23) = .tuple #[rxV m', .int .i64 y] := by rw [hA9]; exact (Act.eval_put_ne _ _ _ _ (by decide)).trans f8_23
          have f9_8 : a9.eval (.tmp 8) = .pointer (some ⟨wr.drew.heap.size, 0, none⟩) := by rw [hA9]; exact (Act.eval_put_ne _ _ _ _ (by decide)).trans f8_8
          have z9 : a9.tmps.size = 89 := by rw [hA9, Act.size_put]; exact z8
          have dd9 : a9.defers = [] := by rw [hA9, Act.defers_put']; exact dd8
          have HA9 := Lib.hid hA9
          clear hA9 z8 dd8 f8_23 f8_8
          refine wpAnyH_take (i := 8) (v := .int .i64 y) rfl (by kernel_rfl) (by kernel_rfl) (by kernel_rfl) (fun _ _ _ h => h) (yields_part rfl (.tmp 23) 1 rfl _ _ f9_23 rfl) hS ?_
          obtain ⟨a10, hA10⟩ : ∃ a', a' = a9.put (some 31) (.int .i64 y) := ⟨_, rfl⟩
          change wpAnyH _ _ _ _ _ _ _ (a9.put (some 31) (.int .i64 y)) _
          rw [← hA10]
          have f10_31 : a10.eval (.tmp 31) = .int .i64 y := by rw [hA10]; exact Act.eval_put_same _ _ _ (by omega)
          have f10_30 : a10.eval (.tmp 30) = rxV m' := by rw [hA10]; exact (Act.eval_put_ne _ _ _ _ (by decide)).trans f9_30
          have f10_8 : a10.eval (.tmp 8) = .pointer (some ⟨wr.drew.heap.size, 0, none⟩) := by rw [hA10]; exact (Act.eval_put_ne _ _ _ _ (by decide)).trans f9_8
          have z10 : a10.tmps.size = 89 := by rw [hA10, Act.size_put]; exact z9
          have dd10 : a10.defers = [] := by rw [hA10, Act.defers_put']; exact dd9
          have HA10 := Lib.hid hA10
          clear hA10 z9 dd9 f9_30 f9_23 f9_8
          refine wpAnyH_ready (rs := [10]) (by kernel_rfl) (by simp) (AllReadyH.cons (by simp only [List.getElem?_toArray, List.getElem?_cons_succ, List.getElem?_cons_zero]; rfl) (fun K hK => ?_) AllReadyH.nil)
          refine srx_store (by rfl) (.tmp 8) (.tmp 30) (by rfl) wr.drew.heap.size rxZ m' f10_8 f10_30 hg ?_
          have hg2 := rx_turned hg m'
          refine hK.out _ _ (hS.row HK.out hfar.1 hfar.2.2 hfar.2.1 _) (fun hS => ?_)
          change wpAnyH _ _ _ _ _ _ _ a10 _
          refine wpAnyH_take (i := 11) (v := .int .i64 y) rfl (by kernel_rfl) (by kernel_rfl) (by kernel_rfl) (fun _ _ _ h => h) (yields_assign rfl (.tmp 31) rfl f10_31) hS ?_
          obtain ⟨a11, hA11⟩ : ∃ a', a' = a10.put (some 9) (.int .i64 y) := ⟨_, rfl⟩
          change wpAnyH _ _ _ _ _ _ _ (a10.put (some 9) (.int .i64 y)) _
          rw [← hA11]
          have f11_9 : a11.eval (.tmp 9) = .int .i64 y := by rw [hA11]; exact Act.eval_put_same _ _ _ (by omega)
          have f11_31 : a11.eval (.tmp 31) = .int .i64 y := by rw [hA11]; exact (Act.eval_put_ne _ _ _ _ (by decide)).trans f10_31
          have f11_30 : a11.eval (.tmp 30) = rxV m' := by rw [hA11]; exact (Act.eval_put_ne _ _ _ _ (by decide)).trans f10_30
          have f11_8 : a11.eval (.tmp 8) = .pointer (some ⟨wr.drew.heap.size, 0, none⟩) := by rw [hA11]; exact (Act.eval_put_ne _ _ _ _ (by decide)).trans f10_8
          have z11 : a11.tmps.size = 89 := by rw [hA11, Act.size_put]; exact z10
          have dd11 : a11.defers = [] := by rw [hA11, Act.defers_put']; exact dd10
          have HA11 := Lib.hid hA11
          clear hA11 z10 dd10 f10_31 f10_30 f10_8
          refine wpAnyH_done (by kernel_rfl) ?_ _
          have HE := Lib.hid (And.intro hS (And.intro hg2 hfar))
          clear hS hg2 hfar hK
          rw [HA11.out]
          rw [HA10.out]
          rw [HA9.out]
          rw [HA8.out]
          rw [HA7.out]
          rw [HA6.out]
          rw [HA5.out]
          rw [HA4.out]
          rw [HA3.out]
          rw [HA2.out]
          rw [HA1.out]
          rw [HA0.out]
          simp only [Act.put, List.setIfInBounds_toArray, List.set_cons_zero, List.set_cons_succ]
          go_wp2_with fail
          go_meet
          exact ⟨_, rfl, rfl, HE⟩
      case rest =>
        obtain ⟨gn, rfl, rfl, HW⟩ := hcut
        clear HP HRd
        go_upto_region 7 with (first | refine wrx_load rfl _ rfl gn rfl m' HW.out.2.1 ?_ | refine wrx_store rfl _ _ rfl gx m m' rfl rfl HW.out.1.x ?_)
        try simp only [Act.put, List.setIfInBounds_toArray, List.set_cons_zero, List.set_cons_succ]
        refine wp_hold_world (fun W3 HW3 => ?_)
        have H3 : Hid (Hs At w w.heap.size m W3 ∧ W3.heap[gx]? = some (rxO m') ∧ w.heap.size ≤ gx ∧ w.heap.size ≠ gx) := Lib.hid (by
          rw [HW3.out]
          have h := HW.out.1
          exact ⟨⟨row_below h.hs.1 h.far _, h.hs.2.1, HK.out.loc _ _ _ _ h.hs.2.2 (row_far _ h.ne) (row_size _ _ _)⟩, rx_turned h.x _, h.far, h.ne⟩)
        clear HW3 HW
        obtain ⟨c0, c1⟩ := HCe W3 H3.out.1.1
        obtain ⟨x0, x1⟩ := rx_cells H3.out.2.1
        have HX := fun W (h : Pz At w w.heap.size gx m' W) => And.intro (HCe W h.hs.1) (rx_cells h.x)
        have HD3 := HDo W3.drew (HK.out.loc _ _ _ _ H3.out.1.2.2 rfl (Nat.le_refl _))
        have HWr := fun W (h : Hs At w w.heap.size m' W) => Lib.hid (HK.out.writer W w.heap.size m' h.2.2 HF'.out (HK.out.mono _ _ HOk.out h.1))
        have HRe := fun W h => Lib.hid (HK.out.readers W w.heap.size m' h HF'.out)
        have HHo := fun W h => Lib.hid (HK.out.holders W w.heap.size m' h HF'.out)
        have HMd := fun W v h hv => Lib.hid (HK.out.mode W w.heap.size m' v h HF'.out hv)
        have HRh := fun W => Lib.hid (refHolders_any m' W HF'.out.1)
        have HRm := fun W v => Lib.hid (refMode_any m' v W HF'.out.1)
        unfold rxV rxC at HRh HRm
        obtain ⟨fm, hfm⟩ : ∃ fm : Int → Int, fm = modeR m' := ⟨_, rfl⟩
        rw [← hfm] at HMd HRm
        generalize holdR m' = hd' at *
        clear hfm
        have qy : (y != y) = false := by simp
        have q0 : (m'.p != m'.p) = false := by simp
        have q1 : ((m'.r : Int) != (m'.r : Int)) = false := by simp
        have q2 : ((hd' : Int) != (hd' : Int)) = false := by simp
        have q3 : (fm u != fm u) = false := by simp
        have q4 : (fm t != fm t) = false := by simp
        go_region_held3 (fun w' => w'.cell? ⟨b, off + j * 2, none⟩ = some (.int .i64 k) ∧ w'.cell? ⟨b, off + j * 2 + 1, none⟩ = some (.int .i64 t) ∧ w'.cell? ⟨gx, 0, none⟩ = some (.int .u64 (m'.r : Int)) ∧ w'.cell? ⟨gx, 1, none⟩ = some (.int .i64 m'.p)) (go_keep)
          (first
            | (go_at_call 8; refine HD3.out.mono ?_; rintro _ w4 ⟨rfl, ha4, ho4⟩; have HM : Hid (Pz At w w.heap.size gx m' w4) := Lib.hid ⟨⟨ho4.below H3.out.1.1.drew H3.out.1.2.1 H3.out.1.1.drew.size, H3.out.1.2.1, ha4⟩, (ho4.block gx (lt_of_block H3.out.2.1) (by have := H3.out.2.2.2; omega)).trans H3.out.2.1, H3.out.2.2.1, H3.out.2.2.2⟩; obtain ⟨⟨e4, f4⟩, y4, z4⟩ := HX w4 HM.out)
            | (go_at_call 9; refine (HWr _ ?_).out.mono ?_; (exact HM.out.hs); rintro _ w5 ⟨rfl, hb5⟩; have HM := Lib.hid (HM.out.next HK.out hb5); obtain ⟨⟨e4, f4⟩, y4, z4⟩ := HX w5 HM.out)
            | (go_at_call 10; refine (HRe _ ?_).out.mono ?_; (exact HM.out.hs.2.2); rintro _ w5 ⟨rfl, hb5⟩; have HM := Lib.hid (HM.out.next HK.out hb5); obtain ⟨⟨e4, f4⟩, y4, z4⟩ := HX w5 HM.out)
            | (go_at_call 11; refine (HHo _ ?_).out.mono ?_; (exact HM.out.hs.2.2); rintro _ w5 ⟨rfl, hb5⟩; have HM := Lib.hid (HM.out.next HK.out hb5); obtain ⟨⟨e4, f4⟩, y4, z4⟩ := HX w5 HM.out)
            | (go_at_call 12; refine (HRh _).out.mono ?_; rintro _ w5 ⟨rfl, hb5⟩; have HM := Lib.hid (HM.out.next HK.out hb5); obtain ⟨⟨e4, f4⟩, y4, z4⟩ := HX w5 HM.out)
            | (go_at_call 13; refine (HMd _ _ ?_ ?_).out.mono ?_; (exact HM.out.hs.2.2); (first | exact HU.out | exact HT.out); rintro _ w5 ⟨rfl, hb5⟩; have HM := Lib.hid (HM.out.next HK.out hb5); obtain ⟨⟨e4, f4⟩, y4, z4⟩ := HX w5 HM.out)
            | (go_at_call 14; refine (HRm _ _).out.mono ?_; rintro _ w5 ⟨rfl, hb5⟩; have HM := Lib.hid (HM.out.next HK.out hb5); obtain ⟨⟨e4, f4⟩, y4, z4⟩ := HX w5 HM.out))
        all_goals
          have H8 := HM
          clear HM ha4 ho4 hb5 e4 f4 y4 z4 c0 c1 x0 x1 HX
          go_wp2_with fail
          exact ⟨⟨j + 1, m', by go_num, by have := HJ.out.1; omega, by have := HJ.out.2; omega, HF'.out, H8.out⟩, by have := HJ.out.1; simp [intOf]; omega⟩
    · have HB := Lib.hid hP.hs.1
      clear hP hfm HI HO
      go_wp2_with fail
      all_goals
        refine (HL _ HB.out).out.mono ?_
        rintro _ w2 ⟨rfl, hb⟩
        go_wp2
        go_ret
        exact ⟨rfl, HB.out.trans (hb.mono HB.out.size)⟩
end Go.Proofs.YthfgaflfnnlhnaaDoor.rwl
