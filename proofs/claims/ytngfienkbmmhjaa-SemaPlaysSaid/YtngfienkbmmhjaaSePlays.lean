/-
  Any calls on a counter, and on the document's beside it: the walk over what is asked of the program's calls. No condition. Printed by tools/mkseplays.py.
-/
import Derived.Test.YtngfienkbmmhjaaSeSpec
import Derived.LoopTactic
import Derived.Deep.DeepCutAuto
namespace Go.Proofs.Ytngfienkbmmhjaa.sem
open Go.RowKit Go.ChangeShapes
open Go.Proofs.Ytngfienkbmmhjaa.obj
set_option linter.unusedVariables false
set_option linter.unusedSimpArgs false

/-- What holds while calls are made: the program's counter, the document's in its box. -/
structure Pz (At : World → Nat → Sx → Prop) (w : World) (g gx : Nat) (m : Sx) (W : World) : Prop where
  hs : Hs At w g m W
  x : W.heap[gx]? = some (sxO m)
  far : w.heap.size ≤ gx
  ne : g ≠ gx
theorem Pz.next {At : World → Nat → Sx → Prop} (K : Keeps At) {w W W' : World} {g gx : Nat} {m : Sx} (h : Pz At w g gx m W) (hb : Below W.heap.size W W') : Pz At w g gx m W' :=
  ⟨hs_next K h.hs hb, (hb.block _ (lt_of_block h.x)).trans h.x, h.far, h.ne⟩
theorem Pz.row {At : World → Nat → Sx → Prop} (K : Keeps At) {w W : World} {g gx : Nat} {m : Sx} (h : Pz At w g gx m W) {k : Nat} (hk : w.heap.size ≤ k) (hg : k ≠ g) (hx : k ≠ gx) (rs : Array Value) : Pz At w g gx m (W.setRow k rs) :=
  ⟨⟨row_below h.hs.1 hk rs, h.hs.2.1, K.loc _ _ _ _ h.hs.2.2 (row_far rs (fun e => hg e.symm)) (row_size _ _ _)⟩, (row_far rs (Ne.symm hx)).trans h.x, h.far, h.ne⟩
theorem pz_new {At : World → Nat → Sx → Prop} (K : Keeps At) {w W : World} {g : Nat} {m : Sx} (h : Hs At w g m W) : Pz At w g W.heap.size m ((W.alloc (sxO sxZ)).setRow W.heap.size (sxC m).toArray) := by
  have hl := K.lt _ _ _ h.2.2
  have h2 := hs_next K h ((Below.refl _ W).alloc (Nat.le_refl _) (sxO sxZ))
  exact ⟨⟨row_below h2.1 h.1.size _, h2.2.1, K.loc _ _ _ _ h2.2.2 (row_far _ (by omega)) (row_size _ _ _)⟩, sx_turned (heap_alloc_new W (sxO sxZ)) m, h.1.size, by omega⟩
set_option maxRecDepth 100000 in
set_option maxHeartbeats 4000000 in
theorem plays_walk {At : World → Nat → Sx → Prop} (K : Keeps At) (first most : Int) (A : Option Addr) (cap : Nat) (ops : List (Int × Int)) (w : World) (hi1 : I64 first) (hi2 : I64 most) (ho : OpsAt w A ops) (hi : ∀ j, j < ops.length → I64 (ops.getD j (0, 0)).1 ∧ I64 (ops.getD j (0, 0)).2) (hl : ops.length ≤ 9223372036854775807) :
    Calls Try.prog 3 #[.int .i64 first, .int .i64 most, .slice A ops.length cap] w fun e w' => e = .returned (.bool true) ∧ Below w.heap.size w w' := by
  have HK := Lib.hid K
  have HO := Lib.hid ho
  have HI := Lib.hid hi
  have HL := fun W => Lib.hid (lives_any K W)
  have C0 := Lib.hid (K.new first most w hi1 hi2)
  have HN := fun W => Lib.hid (refNew18_any first most W)
  unfold SxPost at HN
  have hf0 := new_fine first most
  generalize newS first most = m0 at *
  have CV0 := fun W g h => Lib.hid (HK.out.value W g m0 h hf0)
  have CM0 := fun W g h => Lib.hid (HK.out.most W g m0 h hf0)
  have HF0 := Lib.hid hf0
  clear K ho hi hi1 hi2 hf0
  go_enter Try.func3, Try.ntmps3
  go_wp2_with fail
  refine C0.out.mono ?_
  rintro _ w1 ⟨g, rfl, hg, ha, hb⟩
  have H1 : Hid (Hs At w g m0 w1) := Lib.hid ⟨hb, hg, ha⟩
  clear hg ha hb C0
  go_wp2_with fail
  refine (HN _).out.mono ?_
  rintro _ w2 ⟨rfl, hb⟩
  have H2 := Lib.hid (hs_next HK.out H1.out hb)
  have HP2 := Lib.hid (pz_new HK.out H2.out)
  clear hb HN H1
  go_upto_region 2 with (first | refine wsx_alloc rfl rfl ?_ | refine wsx_store rfl _ _ rfl w2.heap.size sxZ m0 rfl rfl (heap_alloc_new w2 (sxO sxZ)) ?_)
  try simp only [Act.put, List.setIfInBounds_toArray, List.set_cons_zero, List.set_cons_succ]
  generalize (w2.alloc (sxO sxZ)).setRow w2.heap.size (sxC m0).toArray = W2 at *
  generalize w2.heap.size = gx at *
  clear H2
  have e0 : (m0.v != m0.v) = false := by simp
  have e1 : (m0.m != m0.m) = false := by simp
  have HM := Lib.hid (HP2.out.next HK.out (Below.refl _ _).drew)
  obtain ⟨x0, x1⟩ := sx_cells HP2.out.x
  go_region_held3 (fun w' => w'.cell? ⟨gx, 0, none⟩ = some (.int .i64 m0.v) ∧ w'.cell? ⟨gx, 1, none⟩ = some (.int .i64 m0.m)) (go_keep)
    (first
      | (go_at_call 8; refine (CV0 _ _ ?_).out.mono ?_; (exact HM.out.hs.2.2); rintro _ w' ⟨rfl, hb⟩; have HM := Lib.hid (HM.out.next HK.out hb); obtain ⟨d0, d1⟩ := sx_cells HM.out.x)
      | (go_at_call 9; refine (CM0 _ _ ?_).out.mono ?_; (exact HM.out.hs.2.2); rintro _ w' ⟨rfl, hb⟩; have HM := Lib.hid (HM.out.next HK.out hb); obtain ⟨d0, d1⟩ := sx_cells HM.out.x))
  clear HP2 CV0 CM0 x0 x1 d0 d1 hb e0 e1
  have HP1 := HM
  clear HM
  go_wp2_with fail
  go_loopw [9] (fun i wr => ∃ (j : Nat) (m : Sx), i = .int .i64 (j : Int) ∧ j ≤ ops.length ∧ j ≤ 80 ∧ Fine m ∧ Pz At w g gx m wr) (fun i _ => ops.length - (intOf i).toNat)
  case atStart => exact ⟨0, m0, rfl, Nat.zero_le _, Nat.zero_le _, HF0.out, HP1.out⟩
  case round =>
    obtain ⟨j, m, rfl, hj, hj80, hfm, hP⟩ := hrel
    clear HP1 HF0
    by_cases hlt : j < ops.length ∧ j < 80
    · obtain ⟨hlt, h80⟩ := hlt
      have d1 : decide (j < ops.length) = true := by simp; omega
      have d2 : decide ((j : Int) < 80) = true := by simp; omega
      obtain ⟨b, off, rfl, hb, c0, c1⟩ := HO.out j hlt
      obtain ⟨i0, i1⟩ := HI.out j hlt
      generalize ops.getD j (0, 0) = o at *
      obtain ⟨k, t⟩ := o
      dsimp only at c0 c1 i0 i1
      have HCe : ∀ W, Below w.heap.size w W → W.cell? ⟨b, off + j * 2, none⟩ = some (.int .i64 k) ∧ W.cell? ⟨b, off + j * 2 + 1, none⟩ = some (.int .i64 t) := fun W h => ⟨(h.cell (p := ⟨b, off + j * 2, none⟩) hb).trans c0, (h.cell (p := ⟨b, off + j * 2 + 1, none⟩) hb).trans c1⟩
      have HRd := fun W => Lib.hid (refDo18_any m k t W hfm)
      unfold SxPost2 at HRd
      have HDo := fun W h => Lib.hid (do_any HK.out m g k t W h hfm i1)
      unfold DoPost at HDo
      obtain ⟨q, hq⟩ : ∃ q, q = doS m k t := ⟨_, rfl⟩
      rw [← hq] at HRd HDo
      have hf' : Fine q.1 := by rw [hq]; exact do_fine hfm k t
      obtain ⟨m', y⟩ := q
      dsimp only at HRd HDo hf'
      have HF' := Lib.hid hf'
      have HP := Lib.hid hP
      have n0 : (0 : Int) ≤ (j : Int) := by omega
      have n1 : (j : Int) < (ops.length : Int) := by omega
      have HJ := Lib.hid (And.intro hlt h80)
      clear c0 c1 i0 i1 hb hq hf' hfm hP hj hj80 hlt h80
      go_upto_region 7 with fail
      try simp only [Act.put, List.setIfInBounds_toArray, List.set_cons_zero, List.set_cons_succ]
      go_cut [10, 11] (fun x z wx => ∃ gn, x = .pointer (some ⟨gn, 0, none⟩) ∧ z = .int .i64 y ∧ Hid (Pz At w g gx m wx ∧ wx.heap[gn]? = some (sxO m') ∧ w.heap.size ≤ gn ∧ gn ≠ gx ∧ gn ≠ g))
      case first =>
        refine wp_hold_act (fun a0 HA0 => ?_)
        have z0 : a0.tmps.size = 77 := by rw [HA0.out]; rfl
        have dd0 : a0.defers = [] := by rw [HA0.out]
        have f0_2 : a0.eval (.tmp 2) = .slice (some ⟨b, off, none⟩) ops.length cap := by rw [HA0.out]; rfl
        have f0_8 : a0.eval (.tmp 8) = .pointer (some ⟨gx, 0, none⟩) := by rw [HA0.out]; rfl
        have f0_9 : a0.eval (.tmp 9) = .int .i64 (j : Int) := by rw [HA0.out]; rfl
        refine wp_region_held_drew (S := fun w' => Pz At w g gx m w') (by kernel_rfl) (HP.out.next HK.out (Below.refl _ _).drew) (fun hS => ?_)
        refine wpAnyH_take (i := 0) (v := sxV m) rfl (by kernel_rfl) (by kernel_rfl) (by kernel_rfl) (fun _ _ _ h => h) (yields_sx rfl (.tmp 8) rfl _ f0_8 m (fun _ h => h.x)) hS ?_
        obtain ⟨a1, hA1⟩ : ∃ a', a' = a0.put (some 45) (sxV m) := ⟨_, rfl⟩
        change wpAnyH _ _ _ _ _ _ _ (a0.put (some 45) (sxV m)) _
        rw [← hA1]
        have f1_45 : a1.eval (.tmp 45) = sxV m := by rw [hA1]; exact Act.eval_put_same _ _ _ (by omega)
        have f1_2 : a1.eval (.tmp 2) = .slice (some ⟨b, off, none⟩) ops.length cap := by rw [hA1]; exact (Act.eval_put_ne _ _ _ _ (by decide)).trans f0_2
        have f1_9 : a1.eval (.tmp 9) = .int .i64 (j : Int) := by rw [hA1]; exact (Act.eval_put_ne _ _ _ _ (by decide)).trans f0_9
        have z1 : a1.tmps.size = 77 := by rw [hA1, Act.size_put]; exact z0
        have dd1 : a1.defers = [] := by rw [hA1, Act.defers_put']; exact dd0
        have HA1 := Lib.hid hA1
        clear hA1 z0 dd0 f0_2 f0_8 f0_9
        refine wpAnyH_take (i := 1) (v := .slice (some ⟨b, off, none⟩) ops.length cap) rfl (by kernel_rfl) (by kernel_rfl) (by kernel_rfl) (fun _ _ _ h => h) (yields_move rfl (.tmp 2) rfl f1_2) hS ?_
        obtain ⟨a2, hA2⟩ : ∃ a', a' = a1.put (some 46) (.slice (some ⟨b, off, none⟩) ops.length cap) := ⟨_, rfl⟩
        change wpAnyH _ _ _ _ _ _ _ (a1.put (some 46) (.slice (some ⟨b, off, none⟩) ops.length cap)) _
        rw [← hA2]
        have f2_46 : a2.eval (.tmp 46) = .slice (some ⟨b, off, none⟩) ops.length cap := by rw [hA2]; exact Act.eval_put_same _ _ _ (by omega)
        have f2_45 : a2.eval (.tmp 45) = sxV m := by rw [hA2]; exact (Act.eval_put_ne _ _ _ _ (by decide)).trans f1_45
        have f2_9 : a2.eval (.tmp 9) = .int .i64 (j : Int) := by rw [hA2]; exact (Act.eval_put_ne _ _ _ _ (by decide)).trans f1_9
        have z2 : a2.tmps.size = 77 := by rw [hA2, Act.size_put]; exact z1
        have dd2 : a2.defers = [] := by rw [hA2, Act.defers_put']; exact dd1
        have HA2 := Lib.hid hA2
        clear hA2 z1 dd1 f1_45 f1_2 f1_9
        refine wpAnyH_take (i := 2) (v := .int .i64 (j : Int)) rfl (by kernel_rfl) (by kernel_rfl) (by kernel_rfl) (fun _ _ _ h => h) (yields_move rfl (.tmp 9) rfl f2_9) hS ?_
        obtain ⟨a3, hA3⟩ : ∃ a', a' = a2.put (some 47) (.int .i64 (j : Int)) := ⟨_, rfl⟩
        change wpAnyH _ _ _ _ _ _ _ (a2.put (some 47) (.int .i64 (j : Int))) _
        rw [← hA3]
        have f3_47 : a3.eval (.tmp 47) = .int .i64 (j : Int) := by rw [hA3]; exact Act.eval_put_same _ _ _ (by omega)
        have f3_46 : a3.eval (.tmp 46) = .slice (some ⟨b, off, none⟩) ops.length cap := by rw [hA3]; exact (Act.eval_put_ne _ _ _ _ (by decide)).trans f2_46
        have f3_45 : a3.eval (.tmp 45) = sxV m := by rw [hA3]; exact (Act.eval_put_ne _ _ _ _ (by decide)).trans f2_45
        have z3 : a3.tmps.size = 77 := by rw [hA3, Act.size_put]; exact z2
        have dd3 : a3.defers = [] := by rw [hA3, Act.defers_put']; exact dd2
        have HA3 := Lib.hid hA3
        clear hA3 z2 dd2 f2_46 f2_45 f2_9
        refine wpAnyH_take (i := 3) (v := .pointer (some ⟨b, off + j * 2, none⟩)) rfl (by kernel_rfl) (by kernel_rfl) (by kernel_rfl) (fun _ _ _ h => h) (yields_idx rfl (.tmp 46) (.tmp 47) rfl _ _ _ _ j f3_46 f3_47 n0 n1) hS ?_
        obtain ⟨a4, hA4⟩ : ∃ a', a' = a3.put (some 48) (.pointer (some ⟨b, off + j * 2, none⟩)) := ⟨_, rfl⟩
        change wpAnyH _ _ _ _ _ _ _ (a3.put (some 48) (.pointer (some ⟨b, off + j * 2, none⟩))) _
        rw [← hA4]
        have f4_48 : a4.eval (.tmp 48) = .pointer (some ⟨b, off + j * 2, none⟩) := by rw [hA4]; exact Act.eval_put_same _ _ _ (by omega)
        have f4_45 : a4.eval (.tmp 45) = sxV m := by rw [hA4]; exact (Act.eval_put_ne _ _ _ _ (by decide)).trans f3_45
        have z4 : a4.tmps.size = 77 := by rw [hA4, Act.size_put]; exact z3
        have dd4 : a4.defers = [] := by rw [hA4, Act.defers_put']; exact dd3
        have HA4 := Lib.hid hA4
        clear hA4 z3 dd3 f3_47 f3_46 f3_45
        refine wpAnyH_take (i := 4) (v := .agg #[.int .i64 k, .int .i64 t]) rfl (by kernel_rfl) (by kernel_rfl) (by kernel_rfl) (fun _ _ _ h => h) (yields_op rfl (.tmp 48) rfl _ _ f4_48 k t (fun _ h => HCe _ h.hs.1)) hS ?_
        obtain ⟨a5, hA5⟩ : ∃ a', a' = a4.put (some 49) (.agg #[.int .i64 k, .int .i64 t]) := ⟨_, rfl⟩
        change wpAnyH _ _ _ _ _ _ _ (a4.put (some 49) (.agg #[.int .i64 k, .int .i64 t])) _
        rw [← hA5]
        have f5_49 : a5.eval (.tmp 49) = .agg #[.int .i64 k, .int .i64 t] := by rw [hA5]; exact Act.eval_put_same _ _ _ (by omega)
        have f5_45 : a5.eval (.tmp 45) = sxV m := by rw [hA5]; exact (Act.eval_put_ne _ _ _ _ (by decide)).trans f4_45
        have z5 : a5.tmps.size = 77 := by rw [hA5, Act.size_put]; exact z4
        have dd5 : a5.defers = [] := by rw [hA5, Act.defers_put']; exact dd4
        have HA5 := Lib.hid hA5
        clear hA5 z4 dd4 f4_48 f4_45
        refine wpAnyH_ready (rs := [5, 9]) (by kernel_rfl) (by simp) (AllReadyH.cons (by simp only [List.getElem?_toArray, List.getElem?_cons_succ, List.getElem?_cons_zero]; rfl) (fun K hK => ?_) (AllReadyH.cons (by simp only [List.getElem?_toArray, List.getElem?_cons_succ, List.getElem?_cons_zero]; rfl) (fun K hK => ?_) AllReadyH.nil))
        · skip
          refine step_call (by rfl) 10 #[.tmp 45, .tmp 49] #[26, 32] (by rfl) #[sxV m, .agg #[.int .i64 k, .int .i64 t]] (by simp only [List.map_toArray, List.map_cons, List.map_nil, f5_45, f5_49]) Try.func10 (by kernel_rfl) rfl (HRd wr.drew).out (fun e' W2 hR => ?_)
          obtain ⟨rfl, hb2⟩ := hR
          refine ⟨_, rfl, hK.out _ _ (hS.next HK.out hb2) (fun hS => ?_)⟩
          obtain ⟨a6, hA6⟩ : ∃ a', a' = a5.put (some 50) (.tuple #[sxV m', .int .i64 y]) := ⟨_, rfl⟩
          change wpAnyH _ _ _ _ _ _ _ (a5.put (some 50) (.tuple #[sxV m', .int .i64 y])) _
          rw [← hA6]
          have f6_50 : a6.eval (.tmp 50) = .tuple #[sxV m', .int .i64 y] := by rw [hA6]; exact Act.eval_put_same _ _ _ (by omega)
          have z6 : a6.tmps.size = 77 := by rw [hA6, Act.size_put]; exact z5
          have dd6 : a6.defers = [] := by rw [hA6, Act.defers_put']; exact dd5
          have HA6 := Lib.hid hA6
          clear hA6 z5 dd5 f5_49 f5_45
          refine wpAnyH_take (i := 6) (v := .tuple #[sxV m', .int .i64 y]) rfl (by kernel_rfl) (by kernel_rfl) (by kernel_rfl) (fun _ _ _ h => h) (yields_move rfl (.tmp 50) rfl f6_50) hS ?_
          obtain ⟨a7, hA7⟩ : ∃ a', a' = a6.put (some 44) (.tuple #[sxV m', .int .i64 y]) := ⟨_, rfl⟩
          change wpAnyH _ _ _ _ _ _ _ (a6.put (some 44) (.tuple #[sxV m', .int .i64 y])) _
          rw [← hA7]
          have f7_44 : a7.eval (.tmp 44) = .tuple #[sxV m', .int .i64 y] := by rw [hA7]; exact Act.eval_put_same _ _ _ (by omega)
          have z7 : a7.tmps.size = 77 := by rw [hA7, Act.size_put]; exact z6
          have dd7 : a7.defers = [] := by rw [hA7, Act.defers_put']; exact dd6
          have HA7 := Lib.hid hA7
          clear hA7 z6 dd6 f6_50
          refine wpAnyH_take (i := 7) (v := sxV m') rfl (by kernel_rfl) (by kernel_rfl) (by kernel_rfl) (fun _ _ _ h => h) (yields_part rfl (.tmp 44) 0 rfl _ _ f7_44 rfl) hS ?_
          obtain ⟨a8, hA8⟩ : ∃ a', a' = a7.put (some 51) (sxV m') := ⟨_, rfl⟩
          change wpAnyH _ _ _ _ _ _ _ (a7.put (some 51) (sxV m')) _
          rw [← hA8]
          have f8_51 : a8.eval (.tmp 51) = sxV m' := by rw [hA8]; exact Act.eval_put_same _ _ _ (by omega)
          have f8_44 : a8.eval (.tmp 44) = .tuple #[sxV m', .int .i64 y] := by rw [hA8]; exact (Act.eval_put_ne _ _ _ _ (by decide)).trans f7_44
          have z8 : a8.tmps.size = 77 := by rw [hA8, Act.size_put]; exact z7
          have dd8 : a8.defers = [] := by rw [hA8, Act.defers_put']; exact dd7
          have HA8 := Lib.hid hA8
          clear hA8 z7 dd7 f7_44
          refine wpAnyH_take (i := 8) (v := .int .i64 y) rfl (by kernel_rfl) (by kernel_rfl) (by kernel_rfl) (fun _ _ _ h => h) (yields_part rfl (.tmp 44) 1 rfl _ _ f8_44 rfl) hS ?_
          obtain ⟨a9, hA9⟩ : ∃ a', a' = a8.put (some 52) (.int .i64 y) := ⟨_, rfl⟩
          change wpAnyH _ _ _ _ _ _ _ (a8.put (some 52) (.int .i64 y)) _
          rw [← hA9]
          have f9_52 : a9.eval (.tmp 52) = .int .i64 y := by rw [hA9]; exact Act.eval_put_same _ _ _ (by omega)
          have f9_51 : a9.eval (.tmp 51) = sxV m' := by rw [hA9]; exact (Act.eval_put_ne _ _ _ _ (by decide)).trans f8_51
          have z9 : a9.tmps.size = 77 := by rw [hA9, Act.size_put]; exact z8
          have dd9 : a9.defers = [] := by rw [hA9, Act.defers_put']; exact dd8
          have HA9 := Lib.hid hA9
          clear hA9 z8 dd8 f8_51 f8_44
          refine wpAnyH_ready (rs := [9]) (by kernel_rfl) (by simp) (AllReadyH.cons (by simp only [List.getElem?_toArray, List.getElem?_cons_succ, List.getElem?_cons_zero]; rfl) (fun K hK => ?_) AllReadyH.nil)
          refine ssx_alloc (by rfl) (by rfl) ?_
          have hg := heap_alloc_new W2 (sxO sxZ)
          have hfar : w.heap.size ≤ W2.heap.size ∧ W2.heap.size ≠ gx ∧ W2.heap.size ≠ g := by have h1 := lt_of_block hS.x; have h2 := hS.hs.1.size; have h3 := HK.out.lt _ _ _ hS.hs.2.2; omega
          refine hK.out _ _ (hS.next HK.out ((Below.refl _ _).alloc (Nat.le_refl _) _)) (fun hS => ?_)
          obtain ⟨a10, hA10⟩ : ∃ a', a' = a9.put (some 10) (.pointer (some ⟨W2.heap.size, 0, none⟩)) := ⟨_, rfl⟩
          change wpAnyH _ _ _ _ _ _ _ (a9.put (some 10) (.pointer (some ⟨W2.heap.size, 0, none⟩))) _
          rw [← hA10]
          have f10_10 : a10.eval (.tmp 10) = .pointer (some ⟨W2.heap.size, 0, none⟩) := by rw [hA10]; exact Act.eval_put_same _ _ _ (by omega)
          have f10_52 : a10.eval (.tmp 52) = .int .i64 y := by rw [hA10]; exact (Act.eval_put_ne _ _ _ _ (by decide)).trans f9_52
          have f10_51 : a10.eval (.tmp 51) = sxV m' := by rw [hA10]; exact (Act.eval_put_ne _ _ _ _ (by decide)).trans f9_51
          have z10 : a10.tmps.size = 77 := by rw [hA10, Act.size_put]; exact z9
          have dd10 : a10.defers = [] := by rw [hA10, Act.defers_put']; exact dd9
          have HA10 := Lib.hid hA10
          clear hA10 z9 dd9 f9_52 f9_51
          refine wpAnyH_ready (rs := [10]) (by kernel_rfl) (by simp) (AllReadyH.cons (by simp only [List.getElem?_toArray, List.getElem?_cons_succ, List.getElem?_cons_zero]; rfl) (fun K hK => ?_) AllReadyH.nil)
          refine ssx_store (by rfl) (.tmp 10) (.tmp 51) (by rfl) W2.heap.size sxZ m' f10_10 f10_51 hg ?_
          have hg2 := sx_turned hg m'
          refine hK.out _ _ (hS.row HK.out hfar.1 hfar.2.2 hfar.2.1 _) (fun hS => ?_)
          change wpAnyH _ _ _ _ _ _ _ a10 _
          refine wpAnyH_take (i := 11) (v := .int .i64 y) rfl (by kernel_rfl) (by kernel_rfl) (by kernel_rfl) (fun _ _ _ h => h) (yields_assign rfl (.tmp 52) rfl f10_52) hS ?_
          obtain ⟨a11, hA11⟩ : ∃ a', a' = a10.put (some 11) (.int .i64 y) := ⟨_, rfl⟩
          change wpAnyH _ _ _ _ _ _ _ (a10.put (some 11) (.int .i64 y)) _
          rw [← hA11]
          have f11_11 : a11.eval (.tmp 11) = .int .i64 y := by rw [hA11]; exact Act.eval_put_same _ _ _ (by omega)
          have f11_10 : a11.eval (.tmp 10) = .pointer (some ⟨W2.heap.size, 0, none⟩) := by rw [hA11]; exact (Act.eval_put_ne _ _ _ _ (by decide)).trans f10_10
          have f11_52 : a11.eval (.tmp 52) = .int .i64 y := by rw [hA11]; exact (Act.eval_put_ne _ _ _ _ (by decide)).trans f10_52
          have f11_51 : a11.eval (.tmp 51) = sxV m' := by rw [hA11]; exact (Act.eval_put_ne _ _ _ _ (by decide)).trans f10_51
          have z11 : a11.tmps.size = 77 := by rw [hA11, Act.size_put]; exact z10
          have dd11 : a11.defers = [] := by rw [hA11, Act.defers_put']; exact dd10
          have HA11 := Lib.hid hA11
          clear hA11 z10 dd10 f10_10 f10_52 f10_51
          refine wpAnyH_done (by kernel_rfl) ?_ _
          have HE := Lib.hid (And.intro hS (And.intro hg2 hfar))
          clear hS hg2 hfar hK
          rw [HA11.out]
          rw [HA10.out]
          rw [HA9.out]
          rw [HA8.out]
          rw [HA7.out]
          rw [HA6.out]
          rw [HA5.out]
          rw [HA4.out]
          rw [HA3.out]
          rw [HA2.out]
          rw [HA1.out]
          rw [HA0.out]
          simp only [Act.put, List.setIfInBounds_toArray, List.set_cons_zero, List.set_cons_succ]
          go_wp2_with fail
          go_meet
          exact ⟨_, rfl, rfl, HE⟩
        · skip
          refine ssx_alloc (by rfl) (by rfl) ?_
          have hg := heap_alloc_new wr.drew (sxO sxZ)
          have hfar : w.heap.size ≤ wr.drew.heap.size ∧ wr.drew.heap.size ≠ gx ∧ wr.drew.heap.size ≠ g := by have h1 := lt_of_block hS.x; have h2 := hS.hs.1.size; have h3 := HK.out.lt _ _ _ hS.hs.2.2; omega
          refine hK.out _ _ (hS.next HK.out ((Below.refl _ _).alloc (Nat.le_refl _) _)) (fun hS => ?_)
          obtain ⟨a6, hA6⟩ : ∃ a', a' = a5.put (some 10) (.pointer (some ⟨wr.drew.heap.size, 0, none⟩)) := ⟨_, rfl⟩
          change wpAnyH _ _ _ _ _ _ _ (a5.put (some 10) (.pointer (some ⟨wr.drew.heap.size, 0, none⟩))) _
          rw [← hA6]
          have f6_10 : a6.eval (.tmp 10) = .pointer (some ⟨wr.drew.heap.size, 0, none⟩) := by rw [hA6]; exact Act.eval_put_same _ _ _ (by omega)
          have f6_49 : a6.eval (.tmp 49) = .agg #[.int .i64 k, .int .i64 t] := by rw [hA6]; exact (Act.eval_put_ne _ _ _ _ (by decide)).trans f5_49
          have f6_45 : a6.eval (.tmp 45) = sxV m := by rw [hA6]; exact (Act.eval_put_ne _ _ _ _ (by decide)).trans f5_45
          have z6 : a6.tmps.size = 77 := by rw [hA6, Act.size_put]; exact z5
          have dd6 : a6.defers = [] := by rw [hA6, Act.defers_put']; exact dd5
          have HA6 := Lib.hid hA6
          clear hA6 z5 dd5 f5_49 f5_45
          refine wpAnyH_ready (rs := [5]) (by kernel_rfl) (by simp) (AllReadyH.cons (by simp only [List.getElem?_toArray, List.getElem?_cons_succ, List.getElem?_cons_zero]; rfl) (fun K hK => ?_) AllReadyH.nil)
          refine step_call (by rfl) 10 #[.tmp 45, .tmp 49] #[26, 32] (by rfl) #[sxV m, .agg #[.int .i64 k, .int .i64 t]] (by simp only [List.map_toArray, List.map_cons, List.map_nil, f6_45, f6_49]) Try.func10 (by kernel_rfl) rfl (HRd (wr.drew.alloc (sxO sxZ))).out (fun e' W2 hR => ?_)
          obtain ⟨rfl, hb2⟩ := hR
          refine ⟨_, rfl, hK.out _ _ (hS.next HK.out hb2) (fun hS => ?_)⟩
          obtain ⟨a7, hA7⟩ : ∃ a', a' = a6.put (some 50) (.tuple #[sxV m', .int .i64 y]) := ⟨_, rfl⟩
          change wpAnyH _ _ _ _ _ _ _ (a6.put (some 50) (.tuple #[sxV m', .int .i64 y])) _
          rw [← hA7]
          have f7_50 : a7.eval (.tmp 50) = .tuple #[sxV m', .int .i64 y] := by rw [hA7]; exact Act.eval_put_same _ _ _ (by omega)
          have f7_10 : a7.eval (.tmp 10) = .pointer (some ⟨wr.drew.heap.size, 0, none⟩) := by rw [hA7]; exact (Act.eval_put_ne _ _ _ _ (by decide)).trans f6_10
          have z7 : a7.tmps.size = 77 := by rw [hA7, Act.size_put]; exact z6
          have dd7 : a7.defers = [] := by rw [hA7, Act.defers_put']; exact dd6
          have HA7 := Lib.hid hA7
          clear hA7 z6 dd6 f6_10 f6_49 f6_45
          replace hg := (hb2.block _ (lt_of_block hg)).trans hg
          refine wpAnyH_take (i := 6) (v := .tuple #[sxV m', .int .i64 y]) rfl (by kernel_rfl) (by kernel_rfl) (by kernel_rfl) (fun _ _ _ h => h) (yields_move rfl (.tmp 50) rfl f7_50) hS ?_
          obtain ⟨a8, hA8⟩ : ∃ a', a' = a7.put (some 44) (.tuple #[sxV m', .int .i64 y]) := ⟨_, rfl⟩
          change wpAnyH _ _ _ _ _ _ _ (a7.put (some 44) (.tuple #[sxV m', .int .i64 y])) _
          rw [← hA8]
          have f8_44 : a8.eval (.tmp 44) = .tuple #[sxV m', .int .i64 y] := by rw [hA8]; exact Act.eval_put_same _ _ _ (by omega)
          have f8_10 : a8.eval (.tmp 10) = .pointer (some ⟨wr.drew.heap.size, 0, none⟩) := by rw [hA8]; exact (Act.eval_put_ne _ _ _ _ (by decide)).trans f7_10
          have z8 : a8.tmps.size = 77 := by rw [hA8, Act.size_put]; exact z7
          have dd8 : a8.defers = [] := by rw [hA8, Act.defers_put']; exact dd7
          have HA8 := Lib.hid hA8
          clear hA8 z7 dd7 f7_50 f7_10
          refine wpAnyH_take (i := 7) (v := sxV m') rfl (by kernel_rfl) (by kernel_rfl) (by kernel_rfl) (fun _ _ _ h => h) (yields_part rfl (.tmp 44) 0 rfl _ _ f8_44 rfl) hS ?_
          obtain ⟨a9, hA9⟩ : ∃ a', a' = a8.put (some 51) (sxV m') := ⟨_, rfl⟩
          change wpAnyH _ _ _ _ _ _ _ (a8.put (some 51) (sxV m')) _
          rw [← hA9]
          have f9_51 : a9.eval (.tmp 51) = sxV m' := by rw [hA9]; exact Act.eval_put_same _ _ _ (by omega)
          have f9_44 : a9.eval (.tmp 44) = .tuple #[sxV m', .int .i64 y] := by rw [hA9]; exact (Act.eval_put_ne _ _ _ _ (by decide)).trans f8_44
          have f9_10 : a9.eval (.tmp 10) = .pointer (some ⟨wr.drew.heap.size, 0, none⟩) := by rw [hA9]; exact (Act.eval_put_ne _ _ _ _ (by decide)).trans f8_10
          have z9 : a9.tmps.size = 77 := by rw [hA9, Act.size_put]; exact z8
          have dd9 : a9.defers = [] := by rw [hA9, Act.defers_put']; exact dd8
          have HA9 := Lib.hid hA9
          clear hA9 z8 dd8 f8_44 f8_10
          refine wpAnyH_take (i := 8) (v := .int .i64 y) rfl (by kernel_rfl) (by kernel_rfl) (by kernel_rfl) (fun _ _ _ h => h) (yields_part rfl (.tmp 44) 1 rfl _ _ f9_44 rfl) hS ?_
          obtain ⟨a10, hA10⟩ : ∃ a', a' = a9.put (some 52) (.int .i64 y) := ⟨_, rfl⟩
          change wpAnyH _ _ _ _ _ _ _ (a9.put (some 52) (.int .i64 y)) _
          rw [← hA10]
          have f10_52 : a10.eval (.tmp 52) = .int .i64 y := by rw [hA10]; exact Act.eval_put_same _ _ _ (by omega)
          have f10_51 : a10.eval (.tmp 51) = sxV m' := by rw [hA10]; exact (Act.eval_put_ne _ _ _ _ (by decide)).trans f9_51
          have f10_10 : a10.eval (.tmp 10) = .pointer (some ⟨wr.drew.heap.size, 0, none⟩) := by rw [hA10]; exact (Act.eval_put_ne _ _ _ _ (by decide)).trans f9_10
          have z10 : a10.tmps.size = 77 := by rw [hA10, Act.size_put]; exact z9
          have dd10 : a10.defers = [] := by rw [hA10, Act.defers_put']; exact dd9
          have HA10 := Lib.hid hA10
          clear hA10 z9 dd9 f9_51 f9_44 f9_10
          refine wpAnyH_ready (rs := [10]) (by kernel_rfl) (by simp) (AllReadyH.cons (by simp only [List.getElem?_toArray, List.getElem?_cons_succ, List.getElem?_cons_zero]; rfl) (fun K hK => ?_) AllReadyH.nil)
          refine ssx_store (by rfl) (.tmp 10) (.tmp 51) (by rfl) wr.drew.heap.size sxZ m' f10_10 f10_51 hg ?_
          have hg2 := sx_turned hg m'
          refine hK.out _ _ (hS.row HK.out hfar.1 hfar.2.2 hfar.2.1 _) (fun hS => ?_)
          change wpAnyH _ _ _ _ _ _ _ a10 _
          refine wpAnyH_take (i := 11) (v := .int .i64 y) rfl (by kernel_rfl) (by kernel_rfl) (by kernel_rfl) (fun _ _ _ h => h) (yields_assign rfl (.tmp 52) rfl f10_52) hS ?_
          obtain ⟨a11, hA11⟩ : ∃ a', a' = a10.put (some 11) (.int .i64 y) := ⟨_, rfl⟩
          change wpAnyH _ _ _ _ _ _ _ (a10.put (some 11) (.int .i64 y)) _
          rw [← hA11]
          have f11_11 : a11.eval (.tmp 11) = .int .i64 y := by rw [hA11]; exact Act.eval_put_same _ _ _ (by omega)
          have f11_52 : a11.eval (.tmp 52) = .int .i64 y := by rw [hA11]; exact (Act.eval_put_ne _ _ _ _ (by decide)).trans f10_52
          have f11_51 : a11.eval (.tmp 51) = sxV m' := by rw [hA11]; exact (Act.eval_put_ne _ _ _ _ (by decide)).trans f10_51
          have f11_10 : a11.eval (.tmp 10) = .pointer (some ⟨wr.drew.heap.size, 0, none⟩) := by rw [hA11]; exact (Act.eval_put_ne _ _ _ _ (by decide)).trans f10_10
          have z11 : a11.tmps.size = 77 := by rw [hA11, Act.size_put]; exact z10
          have dd11 : a11.defers = [] := by rw [hA11, Act.defers_put']; exact dd10
          have HA11 := Lib.hid hA11
          clear hA11 z10 dd10 f10_52 f10_51 f10_10
          refine wpAnyH_done (by kernel_rfl) ?_ _
          have HE := Lib.hid (And.intro hS (And.intro hg2 hfar))
          clear hS hg2 hfar hK
          rw [HA11.out]
          rw [HA10.out]
          rw [HA9.out]
          rw [HA8.out]
          rw [HA7.out]
          rw [HA6.out]
          rw [HA5.out]
          rw [HA4.out]
          rw [HA3.out]
          rw [HA2.out]
          rw [HA1.out]
          rw [HA0.out]
          simp only [Act.put, List.setIfInBounds_toArray, List.set_cons_zero, List.set_cons_succ]
          go_wp2_with fail
          go_meet
          exact ⟨_, rfl, rfl, HE⟩
      case rest =>
        obtain ⟨gn, rfl, rfl, HW⟩ := hcut
        clear HP HRd
        go_upto_region 9 with (first | refine wsx_load rfl _ rfl gn rfl m' HW.out.2.1 ?_ | refine wsx_store rfl _ _ rfl gx m m' rfl rfl HW.out.1.x ?_)
        try simp only [Act.put, List.setIfInBounds_toArray, List.set_cons_zero, List.set_cons_succ]
        refine wp_hold_world (fun W3 HW3 => ?_)
        have H3 : Hid (Hs At w g m W3 ∧ W3.heap[gx]? = some (sxO m') ∧ w.heap.size ≤ gx ∧ g ≠ gx) := Lib.hid (by
          rw [HW3.out]
          have h := HW.out.1
          exact ⟨⟨row_below h.hs.1 h.far _, h.hs.2.1, HK.out.loc _ _ _ _ h.hs.2.2 (row_far _ h.ne) (row_size _ _ _)⟩, sx_turned h.x _, h.far, h.ne⟩)
        clear HW3 HW
        obtain ⟨c0, c1⟩ := HCe W3 H3.out.1.1
        obtain ⟨x0, x1⟩ := sx_cells H3.out.2.1
        have HX := fun W (h : Pz At w g gx m' W) => And.intro (HCe W h.hs.1) (sx_cells h.x)
        have qy : (y != y) = false := by simp
        have q0 : (m'.v != m'.v) = false := by simp
        have q1 : (m'.m != m'.m) = false := by simp
        have HD3 := HDo W3.drew (HK.out.loc _ _ _ _ H3.out.1.2.2 rfl (Nat.le_refl _))
        have HVa := fun W h => Lib.hid (HK.out.value W g m' h HF'.out)
        have HMo := fun W h => Lib.hid (HK.out.most W g m' h HF'.out)
        go_region_held3 (fun w' => w'.cell? ⟨b, off + j * 2, none⟩ = some (.int .i64 k) ∧ w'.cell? ⟨b, off + j * 2 + 1, none⟩ = some (.int .i64 t) ∧ w'.cell? ⟨gx, 0, none⟩ = some (.int .i64 m'.v) ∧ w'.cell? ⟨gx, 1, none⟩ = some (.int .i64 m'.m)) (go_keep)
          (first
            | (go_at_call 11; refine HD3.out.mono ?_; rintro _ w4 ⟨rfl, ha4, ho4⟩; have HM : Hid (Pz At w g gx m' w4) := Lib.hid ⟨⟨ho4.below H3.out.1.1.drew H3.out.1.2.1 H3.out.1.1.drew.size, H3.out.1.2.1, ha4⟩, (ho4.block gx (lt_of_block H3.out.2.1) (by have := H3.out.2.2.2; omega)).trans H3.out.2.1, H3.out.2.2.1, H3.out.2.2.2⟩; obtain ⟨⟨e4, f4⟩, y4, z4⟩ := HX w4 HM.out)
            | (go_at_call 8; refine (HVa _ ?_).out.mono ?_; (exact HM.out.hs.2.2); rintro _ w5 ⟨rfl, hb5⟩; have HM := Lib.hid (HM.out.next HK.out hb5); obtain ⟨⟨e4, f4⟩, y4, z4⟩ := HX w5 HM.out)
            | (go_at_call 9; refine (HMo _ ?_).out.mono ?_; (exact HM.out.hs.2.2); rintro _ w6 ⟨rfl, hb6⟩; have HM := Lib.hid (HM.out.next HK.out hb6); obtain ⟨⟨e4, f4⟩, y4, z4⟩ := HX w6 HM.out))
        all_goals
          have H8 := HM
          clear HM ha4 ho4 hb5 hb6 e4 f4 y4 z4 c0 c1 x0 x1 HX
          go_wp2_with fail
          exact ⟨⟨j + 1, m', by go_num, by have := HJ.out.1; omega, by have := HJ.out.2; omega, HF'.out, H8.out⟩, by have := HJ.out.1; simp [intOf]; omega⟩
    · have HB := Lib.hid hP.hs.1
      clear hP hfm HI HO
      go_wp2_with fail
      all_goals
        refine (HL _).out.mono ?_
        rintro _ w2 ⟨rfl, hb⟩
        go_wp2
        go_ret
        exact ⟨rfl, HB.out.trans (hb.mono HB.out.size)⟩
end Go.Proofs.Ytngfienkbmmhjaa.sem
