/-
  Texts of one claim in one file: ZCall. Each has its own sentence, with its conditions.
-/
import Derived.Test.YtjbcmedljgafkaaDoorZq42
import Derived.Deep.RegionHeld3
/-
  The program's own call of a function (typed over the code of 8d70ec2). At most a thousand frames, each of twenty-seven numbers; a program of at most twenty functions.
-/

namespace Go.Proofs.YtjbcmedljgafkaaDoor.pgm.exe
open Go.RowKit Go.ChangeShapes
open Go.Proofs.YtjbcmedljgafkaaDoor.pgm (Fn FsAt getD_in)
open Go.Proofs.YtjbcmedljgafkaaDoor.objs (De zero cells3)
open Go.Proofs.YtjbcmedljgafkaaDoor.frames (Fr In callO num topF FrsPost)
open Go.Proofs.YtjbcmedljgafkaaDoor.within (within_any)
set_option linter.unusedVariables false
set_option linter.unusedSimpArgs false

/-- Memory while a function goes that has a program's box, and then what it answers. -/
structure Zb (w : World) (pb : Obj) (g : Nat) (q : Oc) (W : World) : Prop where
  zo : Zo w g q W
  b0 : W.heap[w.heap.size]? = some pb
theorem Zb.next {w W W' : World} {pb : Obj} {g : Nat} {q : Oc} (h : Zb w pb g q W) (hb : Below W.heap.size W W') : Zb w pb g q W' := ⟨h.zo.next hb, (hb.block _ (lt_of_block h.b0)).trans h.b0⟩
theorem Zb.store {w W : World} {pb : Obj} {g : Nat} {q0 : Oc} (h : Zb w pb g q0 W) (q : Oc) (hg : g ≠ w.heap.size := by omega) : Zb w pb g q (W.setRow g (ocC q).toArray) := ⟨h.zo.store q, (Go.Proofs.YtjbcmedljgafkaaDoor.frames.row_far _ (fun e => hg e.symm)).trans h.b0⟩
theorem Zb.drew {w W : World} {pb : Obj} {g : Nat} {q : Oc} (h : Zb w pb g q W) : Zb w pb g q W.drew := h.next (Below.refl _ _).drew

set_option maxRecDepth 100000 in
set_option maxHeartbeats 4000000 in
theorem xcall_any (x y : Value) (C : Option Addr) (cc : Nat) (fs : List Fn) (fn : Int) (A : Option Addr) (c : Nat) (l : List Fr) (w : World) (hF : FsAt w C fs) (hsm : fs.length ≤ 20) (hI : In w A c l) (h0 : l.length ≠ 0) :
    Calls Tryd.prog 39 #[.agg #[x, y, .slice C fs.length cc], .slice A l.length c, .int .i64 fn] w (OutPost (callR fs l fn) w) := by
  have hb0 : Below w.heap.size w (w.alloc (.cells #[x, y, .slice C fs.length cc] 26)) := (Below.refl _ w).alloc (Nat.le_refl _) _
  have hz := zo_new hb0
  rw [show (w.alloc (.cells #[x, y, .slice C fs.length cc] 26)).heap.size = w.heap.size + 1 from World.size_alloc _ _] at hz
  have HZ : Hid (Zb w (.cells #[x, y, .slice C fs.length cc] 26 (0, 0)) (w.heap.size + 1) zO ((w.alloc (.cells #[x, y, .slice C fs.length cc] 26)).alloc (ocB zO))) := Lib.hid ⟨hz, (Below.heap_alloc _ _ _ (by rw [World.size_alloc]; omega)).trans (heap_alloc_new w _)⟩
  have HI := Lib.hid hI
  have HF := Lib.hid hF
  obtain ⟨r, hR⟩ : ∃ r, r = callR fs l fn := ⟨_, rfl⟩
  rw [← hR]
  unfold callR at hR
  have HWi := fun (W : World) => Lib.hid (within_any fn 0 ((fs.length : Int) - 1) W)
  have hw0 : IntKind.i64.wrap ((fs.length : Int) - 1) = (fs.length : Int) - 1 := by rw [IntKind.wrap_i64]; omega
  have hw1 : wrap64 ((fs.length : Int) - 1) = (fs.length : Int) - 1 := by unfold wrap64; omega
  by_cases h8 : 8 ≤ l.length
  · rw [if_pos h8] at hR
    have HR := Lib.hid hR
    have q1 : decide ((l.length : Int) ≥ 8) = true := decide_eq_true (by omega)
    have q2 : decide (8 ≤ l.length) = true := decide_eq_true h8
    clear hR hb0 hz hF hI h0 h8 HWi hw0 hw1
    go_enter Tryd.func39, Tryd.ntmps39
    go_upto_region 1 with (first | refine wo_alloc rfl rfl ?_)
    try simp only [Act.put, List.setIfInBounds_toArray, List.set_cons_zero, List.set_cons_succ, World.size_alloc]
    generalize (w.alloc (.cells #[x, y, .slice C fs.length cc] 26)).alloc (ocB zO) = W1 at *
    go_wp2_with (first | refine wo_buildk rfl _ rfl 3 rfl ?_ | refine wo_store rfl _ _ rfl (w.heap.size + 1) zO ⟨false, none, 0, 0, zE, 3⟩ rfl rfl HZ.out.zo.block ?_)
    rw [HR.out]
    exact oc_ret Tryd.results39 rfl rfl (HZ.out.zo.store _).block ⟨(HZ.out.zo.store _).below, _, rfl, rfl, rfl⟩
  rw [if_neg h8] at hR
  have q1 : decide ((l.length : Int) ≥ 8) = false := decide_eq_false (by omega)
  have q2 : decide (8 ≤ l.length) = false := decide_eq_false h8
  by_cases hw : 0 ≤ fn ∧ fn ≤ (fs.length : Int) - 1
  · rw [if_pos hw] at hR
    rw [decide_eq_true hw] at HWi
    have HR := Lib.hid hR
    obtain ⟨j, rfl⟩ : ∃ j : Nat, fn = (j : Int) := ⟨fn.toNat, by omega⟩
    have hj : j < fs.length := by omega
    rw [Int.toNat_natCast] at HR
    obtain ⟨bf, of, Aj, cj, rfl, hbf, ⟨f0w, f1w, f2w⟩, hDw⟩ := hF j hj
    have HFc := Lib.hid (And.intro hbf f0w)
    have HOn : ∀ W, Zb w (.cells #[x, y, .slice (some ⟨bf, of, none⟩) fs.length cc] 26 (0, 0)) (w.heap.size + 1) zO W → Hid (Calls Tryd.prog 42 #[.slice A l.length c] W fun e w' => ∃ A1 c1, e = .returned (.slice A1 (onwO l).length c1) ∧ (Zb w (.cells #[x, y, .slice (some ⟨bf, of, none⟩) fs.length cc] 26 (0, 0)) (w.heap.size + 1) zO w') ∧ In w' A1 c1 (onwO l)) := fun W hW => Lib.hid (by
      refine (onward_any A c l W (hI.next hW.zo.below) h0).mono fun e w' h => ?_
      obtain ⟨A1, c1, h1, h2, h3⟩ := h
      have hW' := hW.next h3
      exact ⟨A1, c1, h1, hW', h2⟩)
    generalize onwO l = lo at *
    generalize (fs.getD j Fn.zero).ar = ar at *
    have HCa : ∀ W A1 c1, Zb w (.cells #[x, y, .slice (some ⟨bf, of, none⟩) fs.length cc] 26 (0, 0)) (w.heap.size + 1) zO W → In W A1 c1 lo → Hid (Calls Tryd.prog 59 #[.slice A1 lo.length c1, .int .i64 (j : Int), .int .i64 ar] W fun e w' => ∃ A' n' c' b, e = .returned (.tuple #[.slice A' n' c', .bool b]) ∧ (Zb w (.cells #[x, y, .slice (some ⟨bf, of, none⟩) fs.length cc] 26 (0, 0)) (w.heap.size + 1) zO w') ∧ QI w' (callO lo (j : Int) ar) A' n' c' b) := fun W A1 c1 hW h => Lib.hid (by
      refine (call_q A1 c1 lo (j : Int) ar W h).mono fun e w' h => ?_
      obtain ⟨A', n', c', b, h1, h2, h3⟩ := h
      have hW' := hW.next h2
      exact ⟨A', n', c', b, h1, hW', h3.out⟩)
    have HQu : ∀ W A1 n1 c1 b1, Zb w (.cells #[x, y, .slice (some ⟨bf, of, none⟩) fs.length cc] 26 (0, 0)) (w.heap.size + 1) zO W → QI W (callO lo (j : Int) ar) A1 n1 c1 b1 → Hid (Calls Tryd.prog 58 #[.slice A1 n1 c1, .bool b1] W fun e w' => e = .returned (ocV ⟨b1, A1, n1, c1, noE, 0⟩) ∧ (Zb w (.cells #[x, y, .slice (some ⟨bf, of, none⟩) fs.length cc] 26 (0, 0)) (w.heap.size + 1) zO w') ∧ QI w' (callO lo (j : Int) ar) A1 n1 c1 b1) := fun W A1 n1 c1 b1 hW h => Lib.hid (by
      refine (quiet_any A1 n1 c1 b1 W).mono fun e w' h1 => ?_
      obtain ⟨h1, h2⟩ := h1
      have hW' := hW.next h2
      exact ⟨h1, hW', h.next h2⟩)
    have k0 : (0 : Int) ≤ (j : Int) := by omega
    have k1 : (j : Int) < (fs.length : Int) := by omega
    clear hR hb0 hz hF hI h0 h8 hw f0w f1w f2w hDw hbf
    generalize callO lo (j : Int) ar = cq at *
    go_enter Tryd.func39, Tryd.ntmps39
    go_upto_region 1 with (first | refine wo_alloc rfl rfl ?_)
    try simp only [Act.put, List.setIfInBounds_toArray, List.set_cons_zero, List.set_cons_succ, World.size_alloc]
    generalize (w.alloc (.cells #[x, y, .slice (some ⟨bf, of, none⟩) fs.length cc] 26)).alloc (ocB zO) = W1 at *
    obtain ⟨y0, y1, y2, -, -, -⟩ := cells3 HZ.out.b0
    go_upto_region 3 with fail
    go_wp2_with fail
    refine (HWi _).out.mono ?_
    rintro _ _ ⟨rfl, rfl⟩
    go_upto_region 5 with fail
    -- REGION
    refine Go.Proofs.YtjbcmedljgafkaaDoor.frames.wp_hold_act (fun a0 HA0 => ?_)
    have z0 : a0.tmps.size = 32 := by rw [HA0.out]; rfl
    have dd0 : a0.defers = [] := by rw [HA0.out]
    have f0_1 : a0.eval (.tmp 1) = .slice A l.length c := by rw [HA0.out]; rfl
    have f0_2 : a0.eval (.tmp 2) = .int .i64 (j : Int) := by rw [HA0.out]; rfl
    have f0_3 : a0.eval (.tmp 3) = .pointer (some ⟨w.heap.size, 0, none⟩) := by rw [HA0.out]; rfl
    have f0_6 : a0.eval (.tmp 6) = .pointer (some ⟨w.heap.size + 1, 0, none⟩) := by rw [HA0.out]; rfl
    clear HA0
    refine wp_region_held_drew (S := fun w' => ∃ q, Zb w (.cells #[x, y, .slice (some ⟨bf, of, none⟩) fs.length cc] 26 (0, 0)) (w.heap.size + 1) q w') (by kernel_rfl) (⟨_, HZ.out.drew⟩) (fun hS => ?_)
    refine wpAnyH_take (i := 0) (v := .slice A l.length c) rfl (by kernel_rfl) (by kernel_rfl) (by kernel_rfl) (fun _ _ _ h => h) (Go.Proofs.YtjbcmedljgafkaaDoor.frames.yields_move rfl (.tmp 1) rfl f0_1) hS ?_
    obtain ⟨a1, hA1⟩ : ∃ a', a' = a0.put (some 19) (.slice A l.length c) := ⟨_, rfl⟩
    change wpAnyH _ _ _ _ _ _ _ (a0.put (some 19) (.slice A l.length c)) _
    rw [← hA1]
    have f1_19 : a1.eval (.tmp 19) = .slice A l.length c := by rw [hA1]; exact Act.eval_put_same _ _ _ (by omega)
    have f1_2 : a1.eval (.tmp 2) = .int .i64 (j : Int) := by rw [hA1]; exact (Act.eval_put_ne _ _ _ _ (by decide)).trans f0_2
    have f1_3 : a1.eval (.tmp 3) = .pointer (some ⟨w.heap.size, 0, none⟩) := by rw [hA1]; exact (Act.eval_put_ne _ _ _ _ (by decide)).trans f0_3
    have f1_6 : a1.eval (.tmp 6) = .pointer (some ⟨w.heap.size + 1, 0, none⟩) := by rw [hA1]; exact (Act.eval_put_ne _ _ _ _ (by decide)).trans f0_6
    have z1 : a1.tmps.size = 32 := by rw [hA1, Act.size_put]; exact z0
    have dd1 : a1.defers = [] := by rw [hA1, Act.defers_put']; exact dd0
    clear hA1 z0 dd0 f0_1 f0_2 f0_3 f0_6
    refine wpAnyH_take (i := 2) (v := .int .i64 (j : Int)) rfl (by kernel_rfl) (by kernel_rfl) (by kernel_rfl) (fun _ _ _ h => h) (Go.Proofs.YtjbcmedljgafkaaDoor.frames.yields_move rfl (.tmp 2) rfl f1_2) hS ?_
    obtain ⟨a2, hA2⟩ : ∃ a', a' = a1.put (some 21) (.int .i64 (j : Int)) := ⟨_, rfl⟩
    change wpAnyH _ _ _ _ _ _ _ (a1.put (some 21) (.int .i64 (j : Int))) _
    rw [← hA2]
    have f2_21 : a2.eval (.tmp 21) = .int .i64 (j : Int) := by rw [hA2]; exact Act.eval_put_same _ _ _ (by omega)
    have f2_19 : a2.eval (.tmp 19) = .slice A l.length c := by rw [hA2]; exact (Act.eval_put_ne _ _ _ _ (by decide)).trans f1_19
    have f2_2 : a2.eval (.tmp 2) = .int .i64 (j : Int) := by rw [hA2]; exact (Act.eval_put_ne _ _ _ _ (by decide)).trans f1_2
    have f2_3 : a2.eval (.tmp 3) = .pointer (some ⟨w.heap.size, 0, none⟩) := by rw [hA2]; exact (Act.eval_put_ne _ _ _ _ (by decide)).trans f1_3
    have f2_6 : a2.eval (.tmp 6) = .pointer (some ⟨w.heap.size + 1, 0, none⟩) := by rw [hA2]; exact (Act.eval_put_ne _ _ _ _ (by decide)).trans f1_6
    have z2 : a2.tmps.size = 32 := by rw [hA2, Act.size_put]; exact z1
    have dd2 : a2.defers = [] := by rw [hA2, Act.defers_put']; exact dd1
    clear hA2 z1 dd1 f1_19 f1_2 f1_3 f1_6
    refine wpAnyH_take (i := 3) (v := .pointer (some ⟨w.heap.size, 2, none⟩)) rfl (by kernel_rfl) (by kernel_rfl) (by kernel_rfl) (fun _ _ _ h => h) (yields_pfld rfl (.tmp 3) rfl _ f2_3) hS ?_
    obtain ⟨a3, hA3⟩ : ∃ a', a' = a2.put (some 22) (.pointer (some ⟨w.heap.size, 2, none⟩)) := ⟨_, rfl⟩
    change wpAnyH _ _ _ _ _ _ _ (a2.put (some 22) (.pointer (some ⟨w.heap.size, 2, none⟩))) _
    rw [← hA3]
    have f3_22 : a3.eval (.tmp 22) = .pointer (some ⟨w.heap.size, 2, none⟩) := by rw [hA3]; exact Act.eval_put_same _ _ _ (by omega)
    have f3_21 : a3.eval (.tmp 21) = .int .i64 (j : Int) := by rw [hA3]; exact (Act.eval_put_ne _ _ _ _ (by decide)).trans f2_21
    have f3_19 : a3.eval (.tmp 19) = .slice A l.length c := by rw [hA3]; exact (Act.eval_put_ne _ _ _ _ (by decide)).trans f2_19
    have f3_2 : a3.eval (.tmp 2) = .int .i64 (j : Int) := by rw [hA3]; exact (Act.eval_put_ne _ _ _ _ (by decide)).trans f2_2
    have f3_6 : a3.eval (.tmp 6) = .pointer (some ⟨w.heap.size + 1, 0, none⟩) := by rw [hA3]; exact (Act.eval_put_ne _ _ _ _ (by decide)).trans f2_6
    have z3 : a3.tmps.size = 32 := by rw [hA3, Act.size_put]; exact z2
    have dd3 : a3.defers = [] := by rw [hA3, Act.defers_put']; exact dd2
    clear hA3 z2 dd2 f2_21 f2_19 f2_2 f2_3 f2_6
    refine wpAnyH_take (i := 4) (v := .slice (some ⟨bf, of, none⟩) fs.length cc) rfl (by kernel_rfl) (by kernel_rfl) (by kernel_rfl) (fun _ _ _ h => h) (yields_fsl rfl (.tmp 22) rfl _ f3_22 _ _ _ (fun _ h => (cells3 h.choose_spec.b0).2.2.1)) hS ?_
    obtain ⟨a4, hA4⟩ : ∃ a', a' = a3.put (some 23) (.slice (some ⟨bf, of, none⟩) fs.length cc) := ⟨_, rfl⟩
    change wpAnyH _ _ _ _ _ _ _ (a3.put (some 23) (.slice (some ⟨bf, of, none⟩) fs.length cc)) _
    rw [← hA4]
    have f4_23 : a4.eval (.tmp 23) = .slice (some ⟨bf, of, none⟩) fs.length cc := by rw [hA4]; exact Act.eval_put_same _ _ _ (by omega)
    have f4_21 : a4.eval (.tmp 21) = .int .i64 (j : Int) := by rw [hA4]; exact (Act.eval_put_ne _ _ _ _ (by decide)).trans f3_21
    have f4_19 : a4.eval (.tmp 19) = .slice A l.length c := by rw [hA4]; exact (Act.eval_put_ne _ _ _ _ (by decide)).trans f3_19
    have f4_2 : a4.eval (.tmp 2) = .int .i64 (j : Int) := by rw [hA4]; exact (Act.eval_put_ne _ _ _ _ (by decide)).trans f3_2
    have f4_6 : a4.eval (.tmp 6) = .pointer (some ⟨w.heap.size + 1, 0, none⟩) := by rw [hA4]; exact (Act.eval_put_ne _ _ _ _ (by decide)).trans f3_6
    have z4 : a4.tmps.size = 32 := by rw [hA4, Act.size_put]; exact z3
    have dd4 : a4.defers = [] := by rw [hA4, Act.defers_put']; exact dd3
    clear hA4 z3 dd3 f3_22 f3_21 f3_19 f3_2 f3_6
    refine wpAnyH_take (i := 5) (v := .int .i64 (j : Int)) rfl (by kernel_rfl) (by kernel_rfl) (by kernel_rfl) (fun _ _ _ h => h) (Go.Proofs.YtjbcmedljgafkaaDoor.frames.yields_move rfl (.tmp 2) rfl f4_2) hS ?_
    obtain ⟨a5, hA5⟩ : ∃ a', a' = a4.put (some 24) (.int .i64 (j : Int)) := ⟨_, rfl⟩
    change wpAnyH _ _ _ _ _ _ _ (a4.put (some 24) (.int .i64 (j : Int))) _
    rw [← hA5]
    have f5_24 : a5.eval (.tmp 24) = .int .i64 (j : Int) := by rw [hA5]; exact Act.eval_put_same _ _ _ (by omega)
    have f5_23 : a5.eval (.tmp 23) = .slice (some ⟨bf, of, none⟩) fs.length cc := by rw [hA5]; exact (Act.eval_put_ne _ _ _ _ (by decide)).trans f4_23
    have f5_21 : a5.eval (.tmp 21) = .int .i64 (j : Int) := by rw [hA5]; exact (Act.eval_put_ne _ _ _ _ (by decide)).trans f4_21
    have f5_19 : a5.eval (.tmp 19) = .slice A l.length c := by rw [hA5]; exact (Act.eval_put_ne _ _ _ _ (by decide)).trans f4_19
    have f5_6 : a5.eval (.tmp 6) = .pointer (some ⟨w.heap.size + 1, 0, none⟩) := by rw [hA5]; exact (Act.eval_put_ne _ _ _ _ (by decide)).trans f4_6
    have z5 : a5.tmps.size = 32 := by rw [hA5, Act.size_put]; exact z4
    have dd5 : a5.defers = [] := by rw [hA5, Act.defers_put']; exact dd4
    clear hA5 z4 dd4 f4_23 f4_21 f4_19 f4_2 f4_6
    refine wpAnyH_take (i := 6) (v := .pointer (some ⟨bf, of + j * 3, none⟩)) rfl (by kernel_rfl) (by kernel_rfl) (by kernel_rfl) (fun _ _ _ h => h) (yields_fidx rfl (.tmp 23) (.tmp 24) rfl _ _ _ _ j f5_23 f5_24 k0 k1) hS ?_
    obtain ⟨a6, hA6⟩ : ∃ a', a' = a5.put (some 25) (.pointer (some ⟨bf, of + j * 3, none⟩)) := ⟨_, rfl⟩
    change wpAnyH _ _ _ _ _ _ _ (a5.put (some 25) (.pointer (some ⟨bf, of + j * 3, none⟩))) _
    rw [← hA6]
    have f6_25 : a6.eval (.tmp 25) = .pointer (some ⟨bf, of + j * 3, none⟩) := by rw [hA6]; exact Act.eval_put_same _ _ _ (by omega)
    have f6_21 : a6.eval (.tmp 21) = .int .i64 (j : Int) := by rw [hA6]; exact (Act.eval_put_ne _ _ _ _ (by decide)).trans f5_21
    have f6_19 : a6.eval (.tmp 19) = .slice A l.length c := by rw [hA6]; exact (Act.eval_put_ne _ _ _ _ (by decide)).trans f5_19
    have f6_6 : a6.eval (.tmp 6) = .pointer (some ⟨w.heap.size + 1, 0, none⟩) := by rw [hA6]; exact (Act.eval_put_ne _ _ _ _ (by decide)).trans f5_6
    have z6 : a6.tmps.size = 32 := by rw [hA6, Act.size_put]; exact z5
    have dd6 : a6.defers = [] := by rw [hA6, Act.defers_put']; exact dd5
    clear hA6 z5 dd5 f5_24 f5_23 f5_21 f5_19 f5_6
    refine wpAnyH_take (i := 7) (v := .pointer (some ⟨bf, of + j * 3, none⟩)) rfl (by kernel_rfl) (by kernel_rfl) (by kernel_rfl) (fun _ _ _ h => h) (yields_ff0 rfl (.tmp 25) rfl _ _ f6_25) hS ?_
    obtain ⟨a7, hA7⟩ : ∃ a', a' = a6.put (some 26) (.pointer (some ⟨bf, of + j * 3, none⟩)) := ⟨_, rfl⟩
    change wpAnyH _ _ _ _ _ _ _ (a6.put (some 26) (.pointer (some ⟨bf, of + j * 3, none⟩))) _
    rw [← hA7]
    have f7_26 : a7.eval (.tmp 26) = .pointer (some ⟨bf, of + j * 3, none⟩) := by rw [hA7]; exact Act.eval_put_same _ _ _ (by omega)
    have f7_21 : a7.eval (.tmp 21) = .int .i64 (j : Int) := by rw [hA7]; exact (Act.eval_put_ne _ _ _ _ (by decide)).trans f6_21
    have f7_19 : a7.eval (.tmp 19) = .slice A l.length c := by rw [hA7]; exact (Act.eval_put_ne _ _ _ _ (by decide)).trans f6_19
    have f7_6 : a7.eval (.tmp 6) = .pointer (some ⟨w.heap.size + 1, 0, none⟩) := by rw [hA7]; exact (Act.eval_put_ne _ _ _ _ (by decide)).trans f6_6
    have z7 : a7.tmps.size = 32 := by rw [hA7, Act.size_put]; exact z6
    have dd7 : a7.defers = [] := by rw [hA7, Act.defers_put']; exact dd6
    clear hA7 z6 dd6 f6_25 f6_21 f6_19 f6_6
    refine wpAnyH_take (i := 8) (v := .int .i64 ar) rfl (by kernel_rfl) (by kernel_rfl) (by kernel_rfl) (fun _ _ _ h => h) (yields_int rfl (.tmp 26) rfl _ f7_26 _ (fun _ h => (h.choose_spec.zo.below.cell (p := ⟨bf, of + j * 3, none⟩) HFc.out.1).trans HFc.out.2)) hS ?_
    obtain ⟨a8, hA8⟩ : ∃ a', a' = a7.put (some 27) (.int .i64 ar) := ⟨_, rfl⟩
    change wpAnyH _ _ _ _ _ _ _ (a7.put (some 27) (.int .i64 ar)) _
    rw [← hA8]
    have f8_27 : a8.eval (.tmp 27) = .int .i64 ar := by rw [hA8]; exact Act.eval_put_same _ _ _ (by omega)
    have f8_21 : a8.eval (.tmp 21) = .int .i64 (j : Int) := by rw [hA8]; exact (Act.eval_put_ne _ _ _ _ (by decide)).trans f7_21
    have f8_19 : a8.eval (.tmp 19) = .slice A l.length c := by rw [hA8]; exact (Act.eval_put_ne _ _ _ _ (by decide)).trans f7_19
    have f8_6 : a8.eval (.tmp 6) = .pointer (some ⟨w.heap.size + 1, 0, none⟩) := by rw [hA8]; exact (Act.eval_put_ne _ _ _ _ (by decide)).trans f7_6
    have z8 : a8.tmps.size = 32 := by rw [hA8, Act.size_put]; exact z7
    have dd8 : a8.defers = [] := by rw [hA8, Act.defers_put']; exact dd7
    clear hA8 z7 dd7 f7_26 f7_21 f7_19 f7_6
    refine wpAnyH_ready (rs := [1]) (by kernel_rfl) (by simp) (AllReadyH.cons (by simp only [List.getElem?_toArray, List.getElem?_cons_succ, List.getElem?_cons_zero]; rfl) (fun K hK => ?_) AllReadyH.nil)
    refine step_call (by rfl) 42 #[.tmp 19] #[30] (by rfl) #[.slice A l.length c] (by simp only [List.map_toArray, List.map_cons, List.map_nil, f8_19]) Tryd.func42 (by kernel_rfl) rfl ((HOn _ HZ.out.drew).out) (fun e w' hR => ?_)
    obtain ⟨A1, c1, rfl, hz1, hi1⟩ := hR
    have HZ1 := Lib.hid hz1
    have HI1 := Lib.hid hi1
    clear hz1 hi1
    refine ⟨_, rfl, hK.out _ _ (⟨_, HZ1.out⟩) (fun hS => ?_)⟩
    obtain ⟨a9, hA9⟩ : ∃ a', a' = a8.put (some 20) (.slice A1 lo.length c1) := ⟨_, rfl⟩
    change wpAnyH _ _ _ _ _ _ _ (a8.put (some 20) (.slice A1 lo.length c1)) _
    rw [← hA9]
    have f9_20 : a9.eval (.tmp 20) = .slice A1 lo.length c1 := by rw [hA9]; exact Act.eval_put_same _ _ _ (by omega)
    have f9_27 : a9.eval (.tmp 27) = .int .i64 ar := by rw [hA9]; exact (Act.eval_put_ne _ _ _ _ (by decide)).trans f8_27
    have f9_21 : a9.eval (.tmp 21) = .int .i64 (j : Int) := by rw [hA9]; exact (Act.eval_put_ne _ _ _ _ (by decide)).trans f8_21
    have f9_6 : a9.eval (.tmp 6) = .pointer (some ⟨w.heap.size + 1, 0, none⟩) := by rw [hA9]; exact (Act.eval_put_ne _ _ _ _ (by decide)).trans f8_6
    have z9 : a9.tmps.size = 32 := by rw [hA9, Act.size_put]; exact z8
    have dd9 : a9.defers = [] := by rw [hA9, Act.defers_put']; exact dd8
    clear hA9 z8 dd8 f8_27 f8_21 f8_19 f8_6
    refine wpAnyH_ready (rs := [9]) (by kernel_rfl) (by simp) (AllReadyH.cons (by simp only [List.getElem?_toArray, List.getElem?_cons_succ, List.getElem?_cons_zero]; rfl) (fun K hK => ?_) AllReadyH.nil)
    refine step_call (by rfl) 59 #[.tmp 20, .tmp 21, .tmp 27] #[30, 3, 3] (by rfl) #[.slice A1 lo.length c1, .int .i64 (j : Int), .int .i64 ar] (by simp only [List.map_toArray, List.map_cons, List.map_nil, f9_20, f9_21, f9_27]) Tryd.func59 (by kernel_rfl) rfl ((HCa _ A1 c1 HZ1.out HI1.out).out) (fun e w' hR => ?_)
    obtain ⟨A2, n2, c2, b2, rfl, hz2, hq2⟩ := hR
    have HZ2 := Lib.hid hz2
    have HQ2 := Lib.hid hq2
    clear hz2 hq2 HZ1 HI1
    refine ⟨_, rfl, hK.out _ _ (⟨_, HZ2.out⟩) (fun hS => ?_)⟩
    obtain ⟨a10, hA10⟩ : ∃ a', a' = a9.put (some 28) (.tuple #[.slice A2 n2 c2, .bool b2]) := ⟨_, rfl⟩
    change wpAnyH _ _ _ _ _ _ _ (a9.put (some 28) (.tuple #[.slice A2 n2 c2, .bool b2])) _
    rw [← hA10]
    have f10_28 : a10.eval (.tmp 28) = .tuple #[.slice A2 n2 c2, .bool b2] := by rw [hA10]; exact Act.eval_put_same _ _ _ (by omega)
    have f10_6 : a10.eval (.tmp 6) = .pointer (some ⟨w.heap.size + 1, 0, none⟩) := by rw [hA10]; exact (Act.eval_put_ne _ _ _ _ (by decide)).trans f9_6
    have z10 : a10.tmps.size = 32 := by rw [hA10, Act.size_put]; exact z9
    have dd10 : a10.defers = [] := by rw [hA10, Act.defers_put']; exact dd9
    clear hA10 z9 dd9 f9_20 f9_27 f9_21 f9_6
    refine wpAnyH_take (i := 10) (v := .slice A2 n2 c2) rfl (by kernel_rfl) (by kernel_rfl) (by kernel_rfl) (fun _ _ _ h => h) (yields_part rfl (.tmp 28) 0 rfl _ _ f10_28 rfl) hS ?_
    obtain ⟨a11, hA11⟩ : ∃ a', a' = a10.put (some 29) (.slice A2 n2 c2) := ⟨_, rfl⟩
    change wpAnyH _ _ _ _ _ _ _ (a10.put (some 29) (.slice A2 n2 c2)) _
    rw [← hA11]
    have f11_29 : a11.eval (.tmp 29) = .slice A2 n2 c2 := by rw [hA11]; exact Act.eval_put_same _ _ _ (by omega)
    have f11_28 : a11.eval (.tmp 28) = .tuple #[.slice A2 n2 c2, .bool b2] := by rw [hA11]; exact (Act.eval_put_ne _ _ _ _ (by decide)).trans f10_28
    have f11_6 : a11.eval (.tmp 6) = .pointer (some ⟨w.heap.size + 1, 0, none⟩) := by rw [hA11]; exact (Act.eval_put_ne _ _ _ _ (by decide)).trans f10_6
    have z11 : a11.tmps.size = 32 := by rw [hA11, Act.size_put]; exact z10
    have dd11 : a11.defers = [] := by rw [hA11, Act.defers_put']; exact dd10
    clear hA11 z10 dd10 f10_28 f10_6
    refine wpAnyH_take (i := 11) (v := .bool b2) rfl (by kernel_rfl) (by kernel_rfl) (by kernel_rfl) (fun _ _ _ h => h) (yields_part rfl (.tmp 28) 1 rfl _ _ f11_28 rfl) hS ?_
    obtain ⟨a12, hA12⟩ : ∃ a', a' = a11.put (some 30) (.bool b2) := ⟨_, rfl⟩
    change wpAnyH _ _ _ _ _ _ _ (a11.put (some 30) (.bool b2)) _
    rw [← hA12]
    have f12_30 : a12.eval (.tmp 30) = .bool b2 := by rw [hA12]; exact Act.eval_put_same _ _ _ (by omega)
    have f12_29 : a12.eval (.tmp 29) = .slice A2 n2 c2 := by rw [hA12]; exact (Act.eval_put_ne _ _ _ _ (by decide)).trans f11_29
    have f12_6 : a12.eval (.tmp 6) = .pointer (some ⟨w.heap.size + 1, 0, none⟩) := by rw [hA12]; exact (Act.eval_put_ne _ _ _ _ (by decide)).trans f11_6
    have z12 : a12.tmps.size = 32 := by rw [hA12, Act.size_put]; exact z11
    have dd12 : a12.defers = [] := by rw [hA12, Act.defers_put']; exact dd11
    clear hA12 z11 dd11 f11_29 f11_28 f11_6
    refine wpAnyH_ready (rs := [12]) (by kernel_rfl) (by simp) (AllReadyH.cons (by simp only [List.getElem?_toArray, List.getElem?_cons_succ, List.getElem?_cons_zero]; rfl) (fun K hK => ?_) AllReadyH.nil)
    refine step_call (by rfl) 58 #[.tmp 29, .tmp 30] #[30, 4] (by rfl) #[.slice A2 n2 c2, .bool b2] (by simp only [List.map_toArray, List.map_cons, List.map_nil, f12_29, f12_30]) Tryd.func58 (by kernel_rfl) rfl ((HQu _ A2 n2 c2 b2 HZ2.out HQ2.out).out) (fun e w' hR => ?_)
    obtain ⟨rfl, hz3, hq3⟩ := hR
    have HZ3 := Lib.hid hz3
    have HQ3 := Lib.hid hq3
    clear hz3 hq3 HZ2 HQ2
    refine ⟨_, rfl, hK.out _ _ (⟨_, HZ3.out⟩) (fun hS => ?_)⟩
    obtain ⟨a13, hA13⟩ : ∃ a', a' = a12.put (some 31) (ocV ⟨b2, A2, n2, c2, noE, 0⟩) := ⟨_, rfl⟩
    change wpAnyH _ _ _ _ _ _ _ (a12.put (some 31) (ocV ⟨b2, A2, n2, c2, noE, 0⟩)) _
    rw [← hA13]
    have f13_31 : a13.eval (.tmp 31) = ocV ⟨b2, A2, n2, c2, noE, 0⟩ := by rw [hA13]; exact Act.eval_put_same _ _ _ (by omega)
    have f13_6 : a13.eval (.tmp 6) = .pointer (some ⟨w.heap.size + 1, 0, none⟩) := by rw [hA13]; exact (Act.eval_put_ne _ _ _ _ (by decide)).trans f12_6
    have z13 : a13.tmps.size = 32 := by rw [hA13, Act.size_put]; exact z12
    have dd13 : a13.defers = [] := by rw [hA13, Act.defers_put']; exact dd12
    clear hA13 z12 dd12 f12_30 f12_29 f12_6
    refine wpAnyH_ready (rs := [13]) (by kernel_rfl) (by simp) (AllReadyH.cons (by simp only [List.getElem?_toArray, List.getElem?_cons_succ, List.getElem?_cons_zero]; rfl) (fun K hK => ?_) AllReadyH.nil)
    refine step_oc (by rfl) (.tmp 6) (.tmp 31) (by rfl) (w.heap.size + 1) zO ⟨b2, A2, n2, c2, noE, 0⟩ f13_6 f13_31 HZ3.out.zo.block ?_
    refine hK.out _ _ (⟨_, HZ3.out.store _⟩) (fun hS => ?_)
    change wpAnyH _ _ _ _ _ _ _ a13 _
    refine wpAnyH_done (by kernel_rfl) ?_ _
    go_wp2_with fail
    rw [HR.out]
    exact oc_done Tryd.results39 (by rw [← Array.getD_eq_getD_getElem?]; exact f13_6) dd13 HZ3.out.zo HQ3.out
    -- END
  · rw [if_neg hw] at hR
    rw [decide_eq_false hw] at HWi
    have HR := Lib.hid hR
    clear hR hb0 hz hF hI h0 h8 hw
    go_enter Tryd.func39, Tryd.ntmps39
    go_upto_region 1 with (first | refine wo_alloc rfl rfl ?_)
    try simp only [Act.put, List.setIfInBounds_toArray, List.set_cons_zero, List.set_cons_succ, World.size_alloc]
    generalize (w.alloc (.cells #[x, y, .slice C fs.length cc] 26)).alloc (ocB zO) = W1 at *
    obtain ⟨y0, y1, y2, -, -, -⟩ := cells3 HZ.out.b0
    go_wp2_with fail
    refine (HWi _).out.mono ?_
    rintro _ _ ⟨rfl, rfl⟩
    go_wp2_with (first | refine wo_build0 rfl rfl ?_ | refine wo_store rfl _ _ rfl (w.heap.size + 1) zO zO rfl rfl HZ.out.zo.block ?_)
    rw [HR.out]
    exact oc_ret Tryd.results39 rfl rfl (HZ.out.zo.store _).block ⟨(HZ.out.zo.store _).below, _, rfl, rfl, rfl⟩
end Go.Proofs.YtjbcmedljgafkaaDoor.pgm.exe
