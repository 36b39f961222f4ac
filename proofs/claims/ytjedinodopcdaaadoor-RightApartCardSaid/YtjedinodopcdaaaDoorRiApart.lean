/-
  A clone has the same, and goes on by itself: for every two lists of calls that came in. No condition. Printed by tools/mkriplays.py.
-/
import Derived.Test.YtjedinodopcdaaaDoorRiTwo
import Derived.LoopTactic
import Derived.Deep.DeepCutAuto
namespace Go.Proofs.YtjedinodopcdaaaDoor.rig
open Go.RowKit Go.ChangeShapes
open Go.Proofs.YtjedinodopcdaaaDoor.obj
open Go.Proofs.YtjedinodopcdaaaDoor.bits (Is64 hasB minus)
open Go.Proofs.YtjedinodopcdaaaDoor.bits.one (Okt okt_mono)
set_option linter.unusedVariables false
set_option linter.unusedSimpArgs false

/-- Rights, a clone of them, and the document's in their box: each in blocks of its own. -/
structure Ez (w : World) (g gx g2 : Nat) (l x : List Nat) (W : World) : Prop where
  below : Below w.heap.size w W
  fg : w.heap.size ≤ g
  fx : w.heap.size ≤ gx
  f2 : w.heap.size ≤ g2
  nx : gx ≠ g
  n2 : g2 ≠ g
  box : W.heap[gx]? = some (rO x)
  maps : ∃ B B2 : Option Nat, (∀ b, B = some b → w.heap.size ≤ b) ∧ (∀ b, B2 = some b → w.heap.size ≤ b) ∧ AtM W g B l ∧ AtM W g2 B2 x ∧ ∀ b, B = some b → B2 ≠ some b
theorem riO_map (B : Option Nat) (es : Array MapEntry) (c : Nat) : riO B ≠ .map es c := by
  unfold riO
  intro h
  cases h
section
variable {w W W' : World} {g gx g2 : Nat} {l x : List Nat}
theorem Ez.next (h : Ez w g gx g2 l x W) (hb : Below W.heap.size W W') : Ez w g gx g2 l x W' := by
  obtain ⟨B, B2, h1, h2, h3, h4, h5⟩ := h.maps
  exact ⟨h.below.trans (hb.mono h.below.size), h.fg, h.fx, h.f2, h.nx, h.n2, (hb.block _ (lt_of_block h.box)).trans h.box, B, B2, h1, h2, h3.next hb, h4.next hb, h5⟩
theorem Ez.drew (h : Ez w g gx g2 l x W) : Ez w g gx g2 l x W.drew := h.next ((Below.refl _ W).drew)
theorem Ez.hs2 (h : Ez w g gx g2 l x W) : Ls w g2 x W := by
  obtain ⟨B, B2, h1, h2, h3, h4, h5⟩ := h.maps
  exact ⟨h.below, h.f2, B2, h2, h4⟩
theorem Ez.c_do (h : Ez w g gx g2 l x W) (k f t : Int) (m : Nat) (hf : I64 f) (ht : I64 t) (hm : Is64 m) (hO : Okt w) :
    Calls Tryd.prog 8 #[.pointer (some ⟨g, 0, none⟩), opV k f t m] W fun e W' => e = .returned (.tuple #[]) ∧ Ez w g gx g2 (doR l k f t m) x W' := by
  obtain ⟨B, B2, h1, h2, h3, h4, h5⟩ := h.maps
  refine (do_any W g B l k f t m h3 hf ht hm (okt_mono _ _ hO h.below)).mono ?_
  rintro e W' ⟨rfl, B', h6, h7, h8⟩
  have hk : ∀ j o, j ≠ g → W.heap[j]? = some o → (∀ es c, o ≠ .map es c) → W'.heap[j]? = some o := fun j o hj ho hm => by
    rw [h7.block j (lt_of_block ho) hj (fun e => ?_)]
    · exact ho
    · obtain ⟨es, c, hh⟩ := (h3.2.2.2 j e).isMap
      rw [ho] at hh
      exact hm es c (Option.some.inj hh)
  refine ⟨rfl, h7.below h.below h.fg h1 h.below.size, h.fg, h.fx, h.f2, h.nx, h.n2, hk gx _ h.nx h.box (rO_map x), B', B2, fun b hb => ?_, h2, h6, h4.same ?_ (fun b2 e2 => ?_), fun b hb e2 => ?_⟩
  · rcases h8 b hb with e | e
    · exact h1 b e
    · exact Nat.le_trans h.below.size e
  · rw [hk g2 _ h.n2 h4.1 (riO_map B2), h4.1]
  · refine h7.block b2 (h4.lt.2 b2 e2) (fun e => ?_) (fun e => h5 b2 e e2)
    obtain ⟨es, c, hh⟩ := (h4.2.2.2 b2 e2).isMap
    rw [e, h3.1] at hh
    cases hh
  · rcases h8 b hb with e | e
    · exact h5 b e e2
    · have := h4.lt.2 b e2
      omega
end
theorem ez_new {w W W' : World} {g gx g2 : Nat} {B2 : Option Nat} {x : List Nat} (h : Cz w g gx x x W) (hg : W.heap.size ≤ g2) (hB : ∀ b, B2 = some b → W.heap.size ≤ b) (ha : AtM W' g2 B2 x) (hb : Below W.heap.size W W') : Ez w g gx g2 x x W' := by
  have hx := h.next hb
  obtain ⟨h1, h2, B, h3, h4⟩ := h.hs
  have hl := h4.lt
  refine ⟨hx.hs.1, h2, h.far, Nat.le_trans h1.size hg, h.ne, by omega, hx.box, B, B2, h3, fun b e => Nat.le_trans h1.size (hB b e), h4.next hb, ha, fun b e e2 => ?_⟩
  have h5 := hl.2 b e
  have h6 := hB b e2
  omega
theorem Ls.c_clone {w W : World} {g : Nat} {l : List Nat} (h : Ls w g l W) : Calls Tryd.prog 14 #[.pointer (some ⟨g, 0, none⟩)] W (Cloned l W) := by
  obtain ⟨h1, h2, B, h3, h4⟩ := h
  exact clone_any W g B l h4
set_option maxRecDepth 100000 in
set_option maxHeartbeats 8000000 in
theorem apart_walk (A : Option Addr) (cap : Nat) (ops : List (Int × Int × Int × Nat)) (A2 : Option Addr) (cap2 : Nat) (ops2 : List (Int × Int × Int × Nat)) (w : World) (ho : OpsAt w A ops) (hi : ∀ j, j < ops.length → I64 (ops.getD j (0, 0, 0, 0)).1 ∧ I64 (ops.getD j (0, 0, 0, 0)).2.1 ∧ I64 (ops.getD j (0, 0, 0, 0)).2.2.1 ∧ U64 (ops.getD j (0, 0, 0, 0)).2.2.2) (hl : ops.length ≤ 9223372036854775807) (ho2 : OpsAt w A2 ops2) (hi2 : ∀ j, j < ops2.length → I64 (ops2.getD j (0, 0, 0, 0)).1 ∧ I64 (ops2.getD j (0, 0, 0, 0)).2.1 ∧ I64 (ops2.getD j (0, 0, 0, 0)).2.2.1 ∧ U64 (ops2.getD j (0, 0, 0, 0)).2.2.2) (hl2 : ops2.length ≤ 9223372036854775807) (hOk : Okt w) :
    Calls Tryd.prog 5 #[.slice A ops.length cap, .slice A2 ops2.length cap2] w fun e w' => e = .returned (.bool true) ∧ Below w.heap.size w w' := by
  have HO := Lib.hid ho
  have HI := Lib.hid hi
  have HO2 := Lib.hid ho2
  have HI2 := Lib.hid hi2
  have HOk := Lib.hid hOk
  have HL : ∀ W, Below w.heap.size w W → Hid (Calls Tryd.prog 12 #[] W fun e w' => e = .returned (.bool true) ∧ Below W.heap.size W w') := fun W h => Lib.hid (lives_any W (okt_mono _ _ HOk.out h))
  have CN := Lib.hid (new_any w)
  have HC0 := Lib.hid (cz_new w)
  have z1 : (w.alloc (riO none)).heap.size = w.heap.size + 1 := World.size_alloc _ _
  have hb1 : ((w.alloc (riO none)).alloc (rO zerosR)).heap[w.heap.size + 1]? = some (rO zerosR) := by rw [← z1]; exact heap_alloc_new _ _
  clear ho hi ho2 hi2 hOk
  go_enter Tryd.func5, Tryd.ntmps5
  go_upto_region 1 with fail
  go_cut [5, 6] (fun x y wx => x = .pointer (some ⟨w.heap.size, 0, none⟩) ∧ y = .pointer (some ⟨w.heap.size + 1, 0, none⟩) ∧ Hid (Cz w w.heap.size (w.heap.size + 1) zerosR zerosR wx))
  case first =>
    clear HL HO HI HOk
    have hbt := r_built
    go_wp2_with fail
    all_goals
      refine CN.out.mono ?_
      rintro _ w1 ⟨rfl, rfl⟩
      simp only [Act.put, List.setIfInBounds_toArray, List.set_cons_zero, List.set_cons_succ]
      apply_assumption
      try refine wr_build rfl rfl ?_
      go_wp2_with (first | refine wr_build rfl rfl ?_ | refine wr_alloc rfl rfl ?_ | refine wr_store rfl _ _ rfl (w.heap.size + 1) zerosR zerosR (by first | rfl | simp [z1]) rfl hb1 ?_)
      go_meet
      try rw [z1]
      exact ⟨rfl, rfl, HC0⟩
  case rest =>
    obtain ⟨rfl, rfl, HC⟩ := hcut
    clear CN HC0 z1 hb1
    generalize w.heap.size + 1 = gx at *
    go_wp2_with fail
    go_loopw [7] (fun i wr => ∃ (j : Nat) (x : List Nat), i = .int .i64 (j : Int) ∧ j ≤ ops.length ∧ j ≤ 30 ∧ Hid (Cz w w.heap.size gx x x wr)) (fun i _ => ops.length - (intOf i).toNat)
    case atStart => exact ⟨0, zerosR, rfl, Nat.zero_le _, Nat.zero_le _, HC⟩
    case round =>
      clear HC
      obtain ⟨j, x, rfl, hj, hj50, HP⟩ := hrel
      by_cases hlt : j < ops.length ∧ j < 30
      · obtain ⟨hlt, h50⟩ := hlt
        have d1 : decide (j < ops.length) = true := by simp; omega
        have d2 : decide ((j : Int) < 30) = true := by simp; omega
        obtain ⟨b, off, rfl, hb, c0, c1, c2, c3⟩ := HO.out j hlt
        obtain ⟨i0, i1, i2, i3⟩ := HI.out j hlt
        generalize ops.getD j (0, 0, 0, 0) = o1 at *
        obtain ⟨k, f, t, m⟩ := o1
        dsimp only at c0 c1 c2 c3 i0 i1 i2 i3
        have HCe : Hid (∀ W, Below w.heap.size w W → W.cell? ⟨b, off + j * 4, none⟩ = some (.int .i64 k) ∧ W.cell? ⟨b, off + j * 4 + 1, none⟩ = some (.int .i64 f) ∧ W.cell? ⟨b, off + j * 4 + 2, none⟩ = some (.int .i64 t) ∧ W.cell? ⟨b, off + j * 4 + 3, none⟩ = some (.int .u64 (m : Int))) := Lib.hid (fun W h => ⟨(h.cell (p := ⟨b, off + j * 4, none⟩) hb).trans c0, (h.cell (p := ⟨b, off + j * 4 + 1, none⟩) hb).trans c1, (h.cell (p := ⟨b, off + j * 4 + 2, none⟩) hb).trans c2, (h.cell (p := ⟨b, off + j * 4 + 3, none⟩) hb).trans c3⟩)
        have HIk := Lib.hid (And.intro i1 (And.intro i2 i3))
        have k1 : (0 : Int) ≤ (j : Int) := by omega
        clear c0 c1 c2 c3 i0 i1 i2 i3 hb
        have k2 : (j : Int) < (ops.length : Int) := by omega
        have HJ := Lib.hid (And.intro hlt h50)
        clear hj hj50 hlt h50
        obtain ⟨l2, hl2⟩ : ∃ l2, l2 = doR x k f t m := ⟨_, rfl⟩
        have HDo := Lib.hid (HP.out.hs.c_do k f t m HIk.out.1 HIk.out.2.1 HIk.out.2.2 HOk.out)
        have HRd := fun W => Lib.hid (refDo21_any x k f t m W HP.out.hs.fine HIk.out.2.2)
        rw [← hl2] at HDo HRd
        clear hl2
        unfold opV at HDo
        go_wp2_with (first | refine wop_load rfl _ rfl b (off + j * 4) k f t m rfl (HCe.out _ HP.out.hs.1) ?_)
        refine HDo.out.mono ?_
        rintro _ w2 ⟨rfl, h1, h2⟩
        have HP2 := Lib.hid (HP.out.move h1 h2)
        clear h1 h2 HDo HP
        go_upto_region 6 with fail
        refine wp_hold_act (fun a0 HA0 => ?_)
        have z0 : a0.tmps.size = 70 := by rw [HA0.out]; rfl
        have dd0 : a0.defers = [] := by rw [HA0.out]
        have f0_0 : a0.eval (.tmp 0) = .slice (some ⟨b, off, none⟩) ops.length cap := by rw [HA0.out]; rfl
        have f0_6 : a0.eval (.tmp 6) = .pointer (some ⟨gx, 0, none⟩) := by rw [HA0.out]; rfl
        have f0_7 : a0.eval (.tmp 7) = .int .i64 (j : Int) := by rw [HA0.out]; rfl
        refine wp_region_held_drew (S := fun w' => ∃ q, Cz w w.heap.size gx l2 q w') (by kernel_rfl) (⟨_, HP2.out.drew⟩) (fun hS => ?_)
        refine wpAnyH_take (i := 1) (v := .slice (some ⟨b, off, none⟩) ops.length cap) rfl (by kernel_rfl) (by kernel_rfl) (by kernel_rfl) (fun _ _ _ h => h) (yields_move rfl (.tmp 0) rfl f0_0) hS ?_
        obtain ⟨a1, hA1⟩ : ∃ a', a' = a0.put (some 30) (.slice (some ⟨b, off, none⟩) ops.length cap) := ⟨_, rfl⟩
        change wpAnyH _ _ _ _ _ _ _ (a0.put (some 30) (.slice (some ⟨b, off, none⟩) ops.length cap)) _
        rw [← hA1]
        have f1_30 : a1.eval (.tmp 30) = .slice (some ⟨b, off, none⟩) ops.length cap := by rw [hA1]; exact Act.eval_put_same _ _ _ (by omega)
        have f1_6 : a1.eval (.tmp 6) = .pointer (some ⟨gx, 0, none⟩) := by rw [hA1]; exact (Act.eval_put_ne _ _ _ _ (by decide)).trans f0_6
        have f1_7 : a1.eval (.tmp 7) = .int .i64 (j : Int) := by rw [hA1]; exact (Act.eval_put_ne _ _ _ _ (by decide)).trans f0_7
        have z1 : a1.tmps.size = 70 := by rw [hA1, Act.size_put]; exact z0
        have dd1 : a1.defers = [] := by rw [hA1, Act.defers_put']; exact dd0
        have HA1 := Lib.hid hA1
        clear hA1 z0 dd0 f0_0 f0_6 f0_7
        refine wpAnyH_take (i := 2) (v := .int .i64 (j : Int)) rfl (by kernel_rfl) (by kernel_rfl) (by kernel_rfl) (fun _ _ _ h => h) (yields_move rfl (.tmp 7) rfl f1_7) hS ?_
        obtain ⟨a2, hA2⟩ : ∃ a', a' = a1.put (some 31) (.int .i64 (j : Int)) := ⟨_, rfl⟩
        change wpAnyH _ _ _ _ _ _ _ (a1.put (some 31) (.int .i64 (j : Int))) _
        rw [← hA2]
        have f2_31 : a2.eval (.tmp 31) = .int .i64 (j : Int) := by rw [hA2]; exact Act.eval_put_same _ _ _ (by omega)
        have f2_30 : a2.eval (.tmp 30) = .slice (some ⟨b, off, none⟩) ops.length cap := by rw [hA2]; exact (Act.eval_put_ne _ _ _ _ (by decide)).trans f1_30
        have f2_6 : a2.eval (.tmp 6) = .pointer (some ⟨gx, 0, none⟩) := by rw [hA2]; exact (Act.eval_put_ne _ _ _ _ (by decide)).trans f1_6
        have z2 : a2.tmps.size = 70 := by rw [hA2, Act.size_put]; exact z1
        have dd2 : a2.defers = [] := by rw [hA2, Act.defers_put']; exact dd1
        have HA2 := Lib.hid hA2
        clear hA2 z1 dd1 f1_30 f1_6 f1_7
        refine wpAnyH_take (i := 3) (v := .pointer (some ⟨b, off + j * 4, none⟩)) rfl (by kernel_rfl) (by kernel_rfl) (by kernel_rfl) (fun _ _ _ h => h) (yields_idx rfl (.tmp 30) (.tmp 31) rfl _ _ _ _ j f2_30 f2_31 k1 k2) hS ?_
        obtain ⟨a3, hA3⟩ : ∃ a', a' = a2.put (some 32) (.pointer (some ⟨b, off + j * 4, none⟩)) := ⟨_, rfl⟩
        change wpAnyH _ _ _ _ _ _ _ (a2.put (some 32) (.pointer (some ⟨b, off + j * 4, none⟩))) _
        rw [← hA3]
        have f3_32 : a3.eval (.tmp 32) = .pointer (some ⟨b, off + j * 4, none⟩) := by rw [hA3]; exact Act.eval_put_same _ _ _ (by omega)
        have f3_6 : a3.eval (.tmp 6) = .pointer (some ⟨gx, 0, none⟩) := by rw [hA3]; exact (Act.eval_put_ne _ _ _ _ (by decide)).trans f2_6
        have z3 : a3.tmps.size = 70 := by rw [hA3, Act.size_put]; exact z2
        have dd3 : a3.defers = [] := by rw [hA3, Act.defers_put']; exact dd2
        have HA3 := Lib.hid hA3
        clear hA3 z2 dd2 f2_31 f2_30 f2_6
        refine wpAnyH_take (i := 4) (v := .agg #[.int .i64 k, .int .i64 f, .int .i64 t, .int .u64 (m : Int)]) rfl (by kernel_rfl) (by kernel_rfl) (by kernel_rfl) (fun _ _ _ h => h) (yields_op rfl (.tmp 32) rfl _ _ f3_32 k f t m (fun _ h => HCe.out _ h.choose_spec.hs.1)) hS ?_
        obtain ⟨a4, hA4⟩ : ∃ a', a' = a3.put (some 33) (.agg #[.int .i64 k, .int .i64 f, .int .i64 t, .int .u64 (m : Int)]) := ⟨_, rfl⟩
        change wpAnyH _ _ _ _ _ _ _ (a3.put (some 33) (.agg #[.int .i64 k, .int .i64 f, .int .i64 t, .int .u64 (m : Int)])) _
        rw [← hA4]
        have f4_33 : a4.eval (.tmp 33) = .agg #[.int .i64 k, .int .i64 f, .int .i64 t, .int .u64 (m : Int)] := by rw [hA4]; exact Act.eval_put_same _ _ _ (by omega)
        have f4_6 : a4.eval (.tmp 6) = .pointer (some ⟨gx, 0, none⟩) := by rw [hA4]; exact (Act.eval_put_ne _ _ _ _ (by decide)).trans f3_6
        have z4 : a4.tmps.size = 70 := by rw [hA4, Act.size_put]; exact z3
        have dd4 : a4.defers = [] := by rw [hA4, Act.defers_put']; exact dd3
        have HA4 := Lib.hid hA4
        clear hA4 z3 dd3 f3_32 f3_6
        refine wpAnyH_ready (rs := [0]) (by kernel_rfl) (by simp) (AllReadyH.cons (by simp only [List.getElem?_toArray, List.getElem?_cons_succ, List.getElem?_cons_zero]; rfl) (fun K hK => ?_) AllReadyH.nil)
        refine sr_load (by rfl) (.tmp 6) (by rfl) gx x f4_6 HP2.out.drew.box ?_
        refine hK.out _ _ (⟨_, HP2.out.drew⟩) (fun hS => ?_)
        obtain ⟨a5, hA5⟩ : ∃ a', a' = a4.put (some 29) (rV x) := ⟨_, rfl⟩
        change wpAnyH _ _ _ _ _ _ _ (a4.put (some 29) (rV x)) _
        rw [← hA5]
        have f5_29 : a5.eval (.tmp 29) = rV x := by rw [hA5]; exact Act.eval_put_same _ _ _ (by omega)
        have f5_33 : a5.eval (.tmp 33) = .agg #[.int .i64 k, .int .i64 f, .int .i64 t, .int .u64 (m : Int)] := by rw [hA5]; exact (Act.eval_put_ne _ _ _ _ (by decide)).trans f4_33
        have f5_6 : a5.eval (.tmp 6) = .pointer (some ⟨gx, 0, none⟩) := by rw [hA5]; exact (Act.eval_put_ne _ _ _ _ (by decide)).trans f4_6
        have z5 : a5.tmps.size = 70 := by rw [hA5, Act.size_put]; exact z4
        have dd5 : a5.defers = [] := by rw [hA5, Act.defers_put']; exact dd4
        have HA5 := Lib.hid hA5
        clear hA5 z4 dd4 f4_33 f4_6
        refine wpAnyH_ready (rs := [5]) (by kernel_rfl) (by simp) (AllReadyH.cons (by simp only [List.getElem?_toArray, List.getElem?_cons_succ, List.getElem?_cons_zero]; rfl) (fun K hK => ?_) AllReadyH.nil)
        refine step_call (by rfl) 9 #[.tmp 29, .tmp 33] #[28, 31] (by rfl) #[rV x, .agg #[.int .i64 k, .int .i64 f, .int .i64 t, .int .u64 (m : Int)]] (by simp only [List.map_toArray, List.map_cons, List.map_nil, f5_29, f5_33]) Tryd.func9 (by kernel_rfl) rfl ((HRd w2.drew).out) (fun e w' hR => ?_)
        obtain ⟨rfl, hb9⟩ := hR
        have H9 := Lib.hid (HP2.out.drew.next hb9)
        clear hb9
        refine ⟨_, rfl, hK.out _ _ (⟨_, H9.out⟩) (fun hS => ?_)⟩
        obtain ⟨a6, hA6⟩ : ∃ a', a' = a5.put (some 34) (rV l2) := ⟨_, rfl⟩
        change wpAnyH _ _ _ _ _ _ _ (a5.put (some 34) (rV l2)) _
        rw [← hA6]
        have f6_34 : a6.eval (.tmp 34) = rV l2 := by rw [hA6]; exact Act.eval_put_same _ _ _ (by omega)
        have f6_6 : a6.eval (.tmp 6) = .pointer (some ⟨gx, 0, none⟩) := by rw [hA6]; exact (Act.eval_put_ne _ _ _ _ (by decide)).trans f5_6
        have z6 : a6.tmps.size = 70 := by rw [hA6, Act.size_put]; exact z5
        have dd6 : a6.defers = [] := by rw [hA6, Act.defers_put']; exact dd5
        have HA6 := Lib.hid hA6
        clear hA6 z5 dd5 f5_29 f5_33 f5_6
        refine wpAnyH_ready (rs := [6]) (by kernel_rfl) (by simp) (AllReadyH.cons (by simp only [List.getElem?_toArray, List.getElem?_cons_succ, List.getElem?_cons_zero]; rfl) (fun K hK => ?_) AllReadyH.nil)
        refine sr_store (by rfl) (.tmp 6) (.tmp 34) (by rfl) gx x l2 f6_6 f6_34 H9.out.box ?_
        have H8 := Lib.hid (H9.out.store l2)
        refine hK.out _ _ (⟨_, H8.out⟩) (fun _ => ?_)
        change wpAnyH _ _ _ _ _ _ _ a6 _
        refine wpAnyH_done (by kernel_rfl) ?_ _
        clear hK hS H9
        rw [HA6.out]
        rw [HA5.out]
        rw [HA4.out]
        rw [HA3.out]
        rw [HA2.out]
        rw [HA1.out]
        rw [HA0.out]
        simp only [Act.put, List.setIfInBounds_toArray, List.set_cons_zero, List.set_cons_succ]
        generalize w'.setRow gx (rC l2).toArray = W3 at *
        go_wp2_with fail
        have hj := HJ.out.1
        have h50 := HJ.out.2
        have hw : wrap64 ((j : Int) + 1) = ((j + 1 : Nat) : Int) := by unfold wrap64; omega
        go_roundw
        case rel => exact ⟨j + 1, l2, by first | rw [hw] | rfl, by omega, by omega, H8⟩
        case measure => (try rw [hw]); simp only [intOf]; omega
      · have d2 : decide ((j : Int) < 30) = decide (j < 30) := decide_eq_decide.2 (by omega)
        have hno : ¬ j < ops.length ∨ ¬ j < 30 := by omega
        have C := Lib.hid HP.out.hs.c_clone
        unfold Cloned at C
        clear hj hj50 hlt HI HO
        go_wp2_with fail
        all_goals
          refine C.out.mono ?_
          rintro _ w4 ⟨g2, B2, rfl, hg2, hB2, ha2, hb2⟩
          have HE := Lib.hid (ez_new HP.out hg2 hB2 ha2 hb2)
          clear hg2 hB2 ha2 hb2 C HP hno d2
          go_wp2_with fail
          go_loopw [9] (fun i wr => ∃ (j : Nat) (l : List Nat), i = .int .i64 (j : Int) ∧ j ≤ ops2.length ∧ j ≤ 30 ∧ Hid (Ez w w.heap.size gx g2 l x wr)) (fun i _ => ops2.length - (intOf i).toNat)
          case atStart => exact ⟨0, x, rfl, Nat.zero_le _, Nat.zero_le _, HE⟩
          case round =>
            clear HE
            obtain ⟨j, l, rfl, hj, hj50, HP⟩ := hrel
            by_cases hlt : j < ops2.length ∧ j < 30
            · obtain ⟨hlt, h50⟩ := hlt
              have d1 : decide (j < ops2.length) = true := by simp; omega
              have d2 : decide ((j : Int) < 30) = true := by simp; omega
              obtain ⟨b, off, rfl, hb, c0, c1, c2, c3⟩ := HO2.out j hlt
              obtain ⟨i0, i1, i2, i3⟩ := HI2.out j hlt
              generalize ops2.getD j (0, 0, 0, 0) = o1 at *
              obtain ⟨k, f, t, m⟩ := o1
              dsimp only at c0 c1 c2 c3 i0 i1 i2 i3
              have HCe : Hid (∀ W, Below w.heap.size w W → W.cell? ⟨b, off + j * 4, none⟩ = some (.int .i64 k) ∧ W.cell? ⟨b, off + j * 4 + 1, none⟩ = some (.int .i64 f) ∧ W.cell? ⟨b, off + j * 4 + 2, none⟩ = some (.int .i64 t) ∧ W.cell? ⟨b, off + j * 4 + 3, none⟩ = some (.int .u64 (m : Int))) := Lib.hid (fun W h => ⟨(h.cell (p := ⟨b, off + j * 4, none⟩) hb).trans c0, (h.cell (p := ⟨b, off + j * 4 + 1, none⟩) hb).trans c1, (h.cell (p := ⟨b, off + j * 4 + 2, none⟩) hb).trans c2, (h.cell (p := ⟨b, off + j * 4 + 3, none⟩) hb).trans c3⟩)
              have HIk := Lib.hid (And.intro i1 (And.intro i2 i3))
              have k1 : (0 : Int) ≤ (j : Int) := by omega
              clear c0 c1 c2 c3 i0 i1 i2 i3 hb
              have k2 : (j : Int) < (ops2.length : Int) := by omega
              have HJ := Lib.hid (And.intro hlt h50)
              clear hj hj50 hlt h50
              have HDo := Lib.hid (HP.out.c_do k f t m HIk.out.1 HIk.out.2.1 HIk.out.2.2 HOk.out)
              generalize doR l k f t m = l2 at *
              unfold opV at HDo
              go_wp2_with (first | refine wop_load rfl _ rfl b (off + j * 4) k f t m rfl (HCe.out _ HP.out.below) ?_)
              refine HDo.out.mono ?_
              rintro _ w5 ⟨rfl, h1⟩
              have HX := Lib.hid h1
              clear h1 HDo HP
              go_wp2_with fail
              have hj := HJ.out.1
              have h50 := HJ.out.2
              have hw : wrap64 ((j : Int) + 1) = ((j + 1 : Nat) : Int) := by unfold wrap64; omega
              go_roundw
              case rel => exact ⟨j + 1, l2, by first | rw [hw] | rfl, by omega, by omega, HX⟩
              case measure => (try rw [hw]); simp only [intOf]; omega
            · have HE := HP
              clear HP HI2 HO2 HOk
              have d2 : decide ((j : Int) < 30) = decide (j < 30) := decide_eq_decide.2 (by omega)
              have hno : ¬ j < ops2.length ∨ ¬ j < 30 := by omega
              clear hj hj50 hlt
              go_wp2_with fail
              all_goals
                clear hno d2
                go_loopw [10] (fun i wr => ∃ j : Nat, j ≤ 64 ∧ i = .int .i64 (j : Int) ∧ Hid (Ez w w.heap.size gx g2 l x wr)) (fun i _ => 64 - (intOf i).toNat)
                case atStart => exact ⟨0, Nat.zero_le _, rfl, HE⟩
                case round =>
                  clear HE
                  obtain ⟨j, hj, rfl, HE⟩ := hrel
                  by_cases hlt : j < 64
                  · have d0 : decide ((j : Int) < 64) = true := decide_eq_true (by omega)
                    have k1 : (0 : Int) ≤ (j : Int) := by omega
                    have k2 : (j : Int) < 64 := by omega
                    obtain ⟨y, hy⟩ : ∃ y, y = rv x (j : Int) := ⟨_, rfl⟩
                    have CO : ∀ W, Ez w w.heap.size gx g2 l x W → Hid (Calls Tryd.prog 11 #[.pointer (some ⟨g2, 0, none⟩), .int .i64 (j : Int)] W fun e w' => e = .returned (.int .u64 ((y : Nat) : Int)) ∧ Below W.heap.size W w') := fun W h => Lib.hid (by rw [hy]; exact h.hs2.c_of _ (by unfold I64; omega))
                    have HG : Hid (∀ W, Ez w w.heap.size gx g2 l x W → W.cell? ⟨gx, j, none⟩ = some (.int .u64 ((y : Nat) : Int))) := Lib.hid (fun W h => by rw [hy, rv_nat x hlt]; exact r_cell h.box hlt)
                    have HJ := Lib.hid hlt
                    clear hy hj hlt
                    go_upto_region 15 with fail
                    refine wp_hold_act (fun a0 HA0 => ?_)
                    have z0 : a0.tmps.size = 70 := by rw [HA0.out]; rfl
                    have dd0 : a0.defers = [] := by rw [HA0.out]
                    have f0_8 : a0.eval (.tmp 8) = .pointer (some ⟨g2, 0, none⟩) := by rw [HA0.out]; rfl
                    have f0_10 : a0.eval (.tmp 10) = .int .i64 (j : Int) := by rw [HA0.out]; rfl
                    have f0_6 : a0.eval (.tmp 6) = .pointer (some ⟨gx, 0, none⟩) := by rw [HA0.out]; rfl
                    refine wp_region_held_drew (S := fun w' => Ez w w.heap.size gx g2 l x w') (by kernel_rfl) (HE.out.drew) (fun hS => ?_)
                    refine wpAnyH_take (i := 0) (v := .pointer (some ⟨g2, 0, none⟩)) rfl (by kernel_rfl) (by kernel_rfl) (by kernel_rfl) (fun _ _ _ h => h) (yields_move rfl (.tmp 8) rfl f0_8) hS ?_
                    obtain ⟨a1, hA1⟩ : ∃ a', a' = a0.put (some 57) (.pointer (some ⟨g2, 0, none⟩)) := ⟨_, rfl⟩
                    change wpAnyH _ _ _ _ _ _ _ (a0.put (some 57) (.pointer (some ⟨g2, 0, none⟩))) _
                    rw [← hA1]
                    have f1_57 : a1.eval (.tmp 57) = .pointer (some ⟨g2, 0, none⟩) := by rw [hA1]; exact Act.eval_put_same _ _ _ (by omega)
                    have f1_10 : a1.eval (.tmp 10) = .int .i64 (j : Int) := by rw [hA1]; exact (Act.eval_put_ne _ _ _ _ (by decide)).trans f0_10
                    have f1_6 : a1.eval (.tmp 6) = .pointer (some ⟨gx, 0, none⟩) := by rw [hA1]; exact (Act.eval_put_ne _ _ _ _ (by decide)).trans f0_6
                    have z1 : a1.tmps.size = 70 := by rw [hA1, Act.size_put]; exact z0
                    have dd1 : a1.defers = [] := by rw [hA1, Act.defers_put']; exact dd0
                    have HA1 := Lib.hid hA1
                    clear hA1 z0 dd0 f0_8 f0_10 f0_6
                    refine wpAnyH_take (i := 1) (v := .int .i64 (j : Int)) rfl (by kernel_rfl) (by kernel_rfl) (by kernel_rfl) (fun _ _ _ h => h) (yields_move rfl (.tmp 10) rfl f1_10) hS ?_
                    obtain ⟨a2, hA2⟩ : ∃ a', a' = a1.put (some 58) (.int .i64 (j : Int)) := ⟨_, rfl⟩
                    change wpAnyH _ _ _ _ _ _ _ (a1.put (some 58) (.int .i64 (j : Int))) _
                    rw [← hA2]
                    have f2_58 : a2.eval (.tmp 58) = .int .i64 (j : Int) := by rw [hA2]; exact Act.eval_put_same _ _ _ (by omega)
                    have f2_57 : a2.eval (.tmp 57) = .pointer (some ⟨g2, 0, none⟩) := by rw [hA2]; exact (Act.eval_put_ne _ _ _ _ (by decide)).trans f1_57
                    have f2_10 : a2.eval (.tmp 10) = .int .i64 (j : Int) := by rw [hA2]; exact (Act.eval_put_ne _ _ _ _ (by decide)).trans f1_10
                    have f2_6 : a2.eval (.tmp 6) = .pointer (some ⟨gx, 0, none⟩) := by rw [hA2]; exact (Act.eval_put_ne _ _ _ _ (by decide)).trans f1_6
                    have z2 : a2.tmps.size = 70 := by rw [hA2, Act.size_put]; exact z1
                    have dd2 : a2.defers = [] := by rw [hA2, Act.defers_put']; exact dd1
                    have HA2 := Lib.hid hA2
                    clear hA2 z1 dd1 f1_57 f1_10 f1_6
                    refine wpAnyH_take (i := 3) (v := .int .i64 (j : Int)) rfl (by kernel_rfl) (by kernel_rfl) (by kernel_rfl) (fun _ _ _ h => h) (yields_move rfl (.tmp 10) rfl f2_10) hS ?_
                    obtain ⟨a3, hA3⟩ : ∃ a', a' = a2.put (some 60) (.int .i64 (j : Int)) := ⟨_, rfl⟩
                    change wpAnyH _ _ _ _ _ _ _ (a2.put (some 60) (.int .i64 (j : Int))) _
                    rw [← hA3]
                    have f3_60 : a3.eval (.tmp 60) = .int .i64 (j : Int) := by rw [hA3]; exact Act.eval_put_same _ _ _ (by omega)
                    have f3_58 : a3.eval (.tmp 58) = .int .i64 (j : Int) := by rw [hA3]; exact (Act.eval_put_ne _ _ _ _ (by decide)).trans f2_58
                    have f3_57 : a3.eval (.tmp 57) = .pointer (some ⟨g2, 0, none⟩) := by rw [hA3]; exact (Act.eval_put_ne _ _ _ _ (by decide)).trans f2_57
                    have f3_6 : a3.eval (.tmp 6) = .pointer (some ⟨gx, 0, none⟩) := by rw [hA3]; exact (Act.eval_put_ne _ _ _ _ (by decide)).trans f2_6
                    have z3 : a3.tmps.size = 70 := by rw [hA3, Act.size_put]; exact z2
                    have dd3 : a3.defers = [] := by rw [hA3, Act.defers_put']; exact dd2
                    have HA3 := Lib.hid hA3
                    clear hA3 z2 dd2 f2_58 f2_57 f2_10 f2_6
                    refine wpAnyH_take (i := 4) (v := .pointer (some ⟨gx, 0, none⟩)) rfl (by kernel_rfl) (by kernel_rfl) (by kernel_rfl) (fun _ _ _ h => h) (yields_fr rfl (.tmp 6) 0 (by omega) rfl _ _ f3_6 _ rfl) hS ?_
                    obtain ⟨a4, hA4⟩ : ∃ a', a' = a3.put (some 61) (.pointer (some ⟨gx, 0, none⟩)) := ⟨_, rfl⟩
                    change wpAnyH _ _ _ _ _ _ _ (a3.put (some 61) (.pointer (some ⟨gx, 0, none⟩))) _
                    rw [← hA4]
                    have f4_61 : a4.eval (.tmp 61) = .pointer (some ⟨gx, 0, none⟩) := by rw [hA4]; exact Act.eval_put_same _ _ _ (by omega)
                    have f4_60 : a4.eval (.tmp 60) = .int .i64 (j : Int) := by rw [hA4]; exact (Act.eval_put_ne _ _ _ _ (by decide)).trans f3_60
                    have f4_58 : a4.eval (.tmp 58) = .int .i64 (j : Int) := by rw [hA4]; exact (Act.eval_put_ne _ _ _ _ (by decide)).trans f3_58
                    have f4_57 : a4.eval (.tmp 57) = .pointer (some ⟨g2, 0, none⟩) := by rw [hA4]; exact (Act.eval_put_ne _ _ _ _ (by decide)).trans f3_57
                    have z4 : a4.tmps.size = 70 := by rw [hA4, Act.size_put]; exact z3
                    have dd4 : a4.defers = [] := by rw [hA4, Act.defers_put']; exact dd3
                    have HA4 := Lib.hid hA4
                    clear hA4 z3 dd3 f3_60 f3_58 f3_57 f3_6
                    refine wpAnyH_take (i := 5) (v := .pointer (some ⟨gx, j, none⟩)) rfl (by kernel_rfl) (by kernel_rfl) (by kernel_rfl) (fun _ _ _ h => h) (yields_ridx rfl (.tmp 61) (.tmp 60) rfl gx j f4_61 f4_60 k1 k2) hS ?_
                    obtain ⟨a5, hA5⟩ : ∃ a', a' = a4.put (some 62) (.pointer (some ⟨gx, j, none⟩)) := ⟨_, rfl⟩
                    change wpAnyH _ _ _ _ _ _ _ (a4.put (some 62) (.pointer (some ⟨gx, j, none⟩))) _
                    rw [← hA5]
                    have f5_62 : a5.eval (.tmp 62) = .pointer (some ⟨gx, j, none⟩) := by rw [hA5]; exact Act.eval_put_same _ _ _ (by omega)
                    have f5_58 : a5.eval (.tmp 58) = .int .i64 (j : Int) := by rw [hA5]; exact (Act.eval_put_ne _ _ _ _ (by decide)).trans f4_58
                    have f5_57 : a5.eval (.tmp 57) = .pointer (some ⟨g2, 0, none⟩) := by rw [hA5]; exact (Act.eval_put_ne _ _ _ _ (by decide)).trans f4_57
                    have z5 : a5.tmps.size = 70 := by rw [hA5, Act.size_put]; exact z4
                    have dd5 : a5.defers = [] := by rw [hA5, Act.defers_put']; exact dd4
                    have HA5 := Lib.hid hA5
                    clear hA5 z4 dd4 f4_61 f4_60 f4_58 f4_57
                    refine wpAnyH_take (i := 6) (v := .int .u64 ((y : Nat) : Int)) rfl (by kernel_rfl) (by kernel_rfl) (by kernel_rfl) (fun _ _ _ h => h) (yields_u64 rfl (.tmp 62) rfl _ f5_62 _ (fun _ h => HG.out _ h)) hS ?_
                    obtain ⟨a6, hA6⟩ : ∃ a', a' = a5.put (some 63) (.int .u64 ((y : Nat) : Int)) := ⟨_, rfl⟩
                    change wpAnyH _ _ _ _ _ _ _ (a5.put (some 63) (.int .u64 ((y : Nat) : Int))) _
                    rw [← hA6]
                    have f6_63 : a6.eval (.tmp 63) = .int .u64 ((y : Nat) : Int) := by rw [hA6]; exact Act.eval_put_same _ _ _ (by omega)
                    have f6_58 : a6.eval (.tmp 58) = .int .i64 (j : Int) := by rw [hA6]; exact (Act.eval_put_ne _ _ _ _ (by decide)).trans f5_58
                    have f6_57 : a6.eval (.tmp 57) = .pointer (some ⟨g2, 0, none⟩) := by rw [hA6]; exact (Act.eval_put_ne _ _ _ _ (by decide)).trans f5_57
                    have z6 : a6.tmps.size = 70 := by rw [hA6, Act.size_put]; exact z5
                    have dd6 : a6.defers = [] := by rw [hA6, Act.defers_put']; exact dd5
                    have HA6 := Lib.hid hA6
                    clear hA6 z5 dd5 f5_62 f5_58 f5_57
                    refine wpAnyH_ready (rs := [2]) (by kernel_rfl) (by simp) (AllReadyH.cons (by simp only [List.getElem?_toArray, List.getElem?_cons_succ, List.getElem?_cons_zero]; rfl) (fun K hK => ?_) AllReadyH.nil)
                    refine step_call (by rfl) 11 #[.tmp 57, .tmp 58] #[23, 3] (by rfl) #[.pointer (some ⟨g2, 0, none⟩), .int .i64 (j : Int)] (by simp only [List.map_toArray, List.map_cons, List.map_nil, f6_57, f6_58]) Tryd.func11 (by kernel_rfl) rfl ((CO _ hS).out) (fun e w' hR => ?_)
                    obtain ⟨rfl, hb9⟩ := hR
                    have H9 := Lib.hid (hS.next hb9)
                    clear hb9
                    refine ⟨_, rfl, hK.out _ _ (H9.out) (fun hS => ?_)⟩
                    obtain ⟨a7, hA7⟩ : ∃ a', a' = a6.put (some 59) (.int .u64 ((y : Nat) : Int)) := ⟨_, rfl⟩
                    change wpAnyH _ _ _ _ _ _ _ (a6.put (some 59) (.int .u64 ((y : Nat) : Int))) _
                    rw [← hA7]
                    have f7_59 : a7.eval (.tmp 59) = .int .u64 ((y : Nat) : Int) := by rw [hA7]; exact Act.eval_put_same _ _ _ (by omega)
                    have f7_63 : a7.eval (.tmp 63) = .int .u64 ((y : Nat) : Int) := by rw [hA7]; exact (Act.eval_put_ne _ _ _ _ (by decide)).trans f6_63
                    have z7 : a7.tmps.size = 70 := by rw [hA7, Act.size_put]; exact z6
                    have dd7 : a7.defers = [] := by rw [hA7, Act.defers_put']; exact dd6
                    have HA7 := Lib.hid hA7
                    clear hA7 z6 dd6 f6_63 f6_58 f6_57
                    refine wpAnyH_take (i := 7) (v := .bool false) rfl (by kernel_rfl) (by kernel_rfl) (by kernel_rfl) (fun _ _ _ h => h) (yields_nequ rfl (.tmp 59) (.tmp 63) rfl _ _ f7_59 f7_63 false (bne_self_eq_false _)) hS ?_
                    obtain ⟨a8, hA8⟩ : ∃ a', a' = a7.put (some 64) (.bool false) := ⟨_, rfl⟩
                    change wpAnyH _ _ _ _ _ _ _ (a7.put (some 64) (.bool false)) _
                    rw [← hA8]
                    have f8_64 : a8.eval (.tmp 64) = .bool false := by rw [hA8]; exact Act.eval_put_same _ _ _ (by omega)
                    have z8 : a8.tmps.size = 70 := by rw [hA8, Act.size_put]; exact z7
                    have dd8 : a8.defers = [] := by rw [hA8, Act.defers_put']; exact dd7
                    have HA8 := Lib.hid hA8
                    clear hA8 z7 dd7 f7_59 f7_63
                    refine wpAnyH_done (by kernel_rfl) ?_ _
                    clear hK hS
                    rw [HA8.out]
                    rw [HA7.out]
                    rw [HA6.out]
                    rw [HA5.out]
                    rw [HA4.out]
                    rw [HA3.out]
                    rw [HA2.out]
                    rw [HA1.out]
                    rw [HA0.out]
                    simp only [Act.put, List.setIfInBounds_toArray, List.set_cons_zero, List.set_cons_succ]
                    go_wp2_with fail
                    have hj := HJ.out
                    have hw : wrap64 ((j : Int) + 1) = ((j + 1 : Nat) : Int) := by unfold wrap64; omega
                    go_roundw
                    case rel => exact ⟨j + 1, by omega, by first | rw [hw] | rfl, H9⟩
                    case measure => (try rw [hw]); simp only [intOf]; omega
                  · have d0 : decide ((j : Int) < 64) = false := decide_eq_false (by omega)
                    clear hj hlt
                    have HB := Lib.hid HE.out.below
                    have C := HL _ HB.out
                    clear HL HE
                    go_wp2_with fail
                    refine C.out.mono ?_
                    rintro _ w9 ⟨rfl, hb⟩
                    clear C
                    go_wp2
                    go_ret
                    exact ⟨rfl, HB.out.trans (hb.mono HB.out.size)⟩
end Go.Proofs.YtjedinodopcdaaaDoor.rig
