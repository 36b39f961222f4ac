/-
  Texts of one claim in one file: ZDoD. Each has its own sentence, with its conditions.
-/
import Derived.Test.YtjbcmedljgafkaaDoorZq17
/-
  The document's own Do: call where there is room. The program may run, and the frames come of it.
-/

namespace Go.Proofs.YtjbcmedljgafkaaDoor.pgm.exe
open Go.RowKit Go.ChangeShapes
open Go.Proofs.YtjbcmedljgafkaaDoor.pgm
open Go.Proofs.YtjbcmedljgafkaaDoor.objs (De zero cells3 put3 put3_same put3_below put3_far DAt)
open Go.Proofs.YtjbcmedljgafkaaDoor.frames (Fr num cnt topF goF In refGo_any FrsPost)
open Go.Proofs.YtjbcmedljgafkaaDoor.oper (pops numb tk)
set_option linter.unusedVariables false
set_option linter.unusedSimpArgs false

set_option maxRecDepth 100000 in
set_option maxHeartbeats 4000000 in
theorem do_call (v : Value) (p : Pg) (A : Option Addr) (c : Nat) (l : List Fr) (self now : Int) (w : World) (hv : PAt w v p) (hI : In w A c l) (hm : May p.fs) (hfit : FitL p.fs 0 l) (hop : (insZ p.fs l).1 = 20) (h8 : l.length ≠ 8) :
    Calls Tryd.prog 11 #[v, .slice A l.length c, .int .i64 self, .int .i64 now] w (DoPost (doZ p.fs l self now) w) := by
  obtain ⟨h0, hl8, i, a, hi, ha, hfn, hpc, hins, hchk, ha200⟩ := fit_facts hm hfit
  have HAt := fun W (h : Below w.heap.size w W) => Lib.hid (refAt_any v p A c l W (hv.next h) (hI.next h) h0 hi ha hfn hpc)
  rw [← hins] at HAt
  have HGo := fun W (h : Below w.heap.size w W) => Lib.hid (refGo_any A c l ((a : Int) + 1) W (hI.next h))
  have hqe : doZ p.fs l self now = doZ p.fs l self now := rfl
  obtain ⟨q, hq⟩ : ∃ q, q = doZ p.fs l self now := ⟨_, rfl⟩
  rw [← hq]
  have hnext : nextF l = goF l ((a : Int) + 1) := by unfold nextF; rw [hpc]
  unfold doZ at hq
  rw [hnext] at hq
  dsimp only at hq
  obtain ⟨fi, y, hAf, hfi, hcall, hnl⟩ := fit_call hm hfit hop h8
  rw [if_pos hop, if_neg h8, hAf, Int.toNat_natCast, ← hnext, hcall] at hq
  replace hq : q = (y, noE, 0) := hq
  rw [hnext] at hcall hnl
  have HCa : ∀ W A1 c3, In W A1 c3 (goF l ((a : Int) + 1)) → Hid (Calls Tryd.prog 24 #[.slice A1 (goF l ((a : Int) + 1)).length c3, .int .i64 (fi : Int), .int .i64 (p.fs.getD fi Fn.zero).ar] W fun e w' => Below W.heap.size W w' ∧ ∃ A c, e = .returned (.tuple #[.slice A y.length c, .bool true]) ∧ In w' A c y) := fun W A1 c3 h => Lib.hid (by
    have h1 := Go.Proofs.YtjbcmedljgafkaaDoor.frames.refCall_any A1 c3 _ (fi : Int) (p.fs.getD fi Fn.zero).ar W h hnl
    unfold Go.Proofs.YtjbcmedljgafkaaDoor.frames.ListPost at h1
    rw [hcall] at h1
    exact h1)
  have HQ := Lib.hid hq
  obtain ⟨A0, B0, C0, ca, cb, cc, rfl, -, -, hF⟩ := id hv
  obtain ⟨b, off, m, rfl, hm1, hb, hFc, hl27⟩ := hI.top h0
  have hlen := hI.len
  have hcap := hI.cap
  have HI := Lib.hid hI
  have hpcc := hFc 1 (by omega)
  rw [hpc] at hpcc
  have HPc := Lib.hid (And.intro hb hpcc)
  have HM := Lib.hid hm1
  have e20 : ((insZ p.fs l).1 == 20) = true := by rw [hop]; rfl
  have e8 : (((m + 1 : Nat) : Int) == 8) = false := by simp; omega
  obtain ⟨gb, offb, Aj, cj, hC0, hgb, ⟨f0, -, -⟩, -⟩ := hF fi hfi
  have HC0 := Lib.hid hC0
  have HF0 := Lib.hid (And.intro hgb f0)
  have n0 : (0 : Int) ≤ (fi : Int) := by omega
  have n1 : (fi : Int) < (p.fs.length : Int) := by omega
  have HAf := Lib.hid hAf
  generalize (p.fs.getD fi Fn.zero).ar = ar at *
  clear hcall hnl hfi hgb f0 hAf hC0
  clear hop h8
  generalize insZ p.fs l = x at *
  rw [hm1] at HAt HGo hlen hcap ⊢
  have k0 : (0 : Int) ≤ (m : Int) := by omega
  have k1 : (m : Int) < ((m + 1 : Nat) : Int) := by omega
  have k2 : (m : Int) < (m : Int) + 1 := by omega
  have hw0 : IntKind.i64.wrap ((m : Int) + 1 - 1) = (m : Int) := by rw [IntKind.wrap_i64]; omega
  have hw1 : IntKind.i64.wrap (m : Int) = (m : Int) := by rw [IntKind.wrap_i64]; omega
  have hwa : IntKind.i64.wrap ((a : Int) + 1) = (a : Int) + 1 := by rw [IntKind.wrap_i64]; omega
  clear hl8 hm1 hv hI hfit h0 hi ha hfn hpc hins hq hnext hqe hF hFc hl27 hm hpcc
  go_enter Tryd.func11, Tryd.ntmps11
  go_upto_region 1 with fail
  refine wp_hold_world (fun W1 HW1 => ?_)
  have h1 := HW1.out
  have hb1 : Below w.heap.size w W1 := by rw [h1]; exact ((Below.refl _ w).alloc (Nat.le_refl _) _).alloc (by rw [World.size_alloc]; omega) _
  have hx1 : W1.heap[w.heap.size]? = some (.cells #[.slice A0 p.ds.length ca, .slice B0 p.ws.length cb, .slice C0 p.fs.length cc] 26 (0, 0)) := by rw [h1]; exact (Below.heap_alloc _ _ _ (by rw [World.size_alloc]; omega)).trans (heap_alloc_new w _)
  obtain ⟨p0, p1, p2, -, -, -⟩ := cells3 hx1
  have HA1 := HAt W1 hb1
  have H1 := Lib.hid h1
  have HB1 := Lib.hid hb1
  clear h1 hb1 hx1 HAt
  go_wp2_with fail
  refine HA1.out.mono ?_
  rintro _ w1 ⟨rfl, hbw⟩
  have m0 := Lib.hid ((Below.heap_alloc (w1.alloc (insO zero)) (efB zE) _ (by rw [World.size_alloc]; omega)).trans (heap_alloc_new w1 (insO zero)))
  have m1 := Lib.hid ((Go.Proofs.YtjbcmedljgafkaaDoor.frames.row_far (insC x).toArray (show (w1.alloc (insO zero)).heap.size ≠ w1.heap.size by rw [World.size_alloc]; omega)).trans (heap_alloc_new (w1.alloc (insO zero)) (efB zE)))
  go_upto_region 2 with (first | refine we_build rfl rfl ?_ | refine wi_alloc rfl rfl ?_ | refine we_alloc rfl rfl ?_ | refine wi_store rfl _ _ rfl w1.heap.size zero x rfl rfl m0.out ?_ | refine we_store rfl _ _ rfl (w1.alloc (insO zero)).heap.size zE noE rfl rfl m1.out ?_)
  simp only [Go.Act.put, List.setIfInBounds_toArray, List.set_cons_zero, List.set_cons_succ, World.size_alloc]
  refine wp_hold_world (fun W2 HW2 => ?_)
  have HZ : Hid (Zd w _ w1.heap.size x W2) := Lib.hid (by rw [HW2.out]; exact zd_new H1.out hbw)
  generalize w1.heap.size = g at *
  clear HW2 m0 m1 hbw p0 p1 p2 H1 HB1 HA1
  have c1 := (HZ.out.below.cell (p := ⟨b, off + m * 27 + 1, none⟩) HPc.out.1).trans HPc.out.2
  have HGo2 := HGo W2 HZ.out.below
  clear HGo
  go_wp2_with fail
  refine HGo2.out.mono ?_
  rintro _ w3 ⟨A1, c3, rfl, hI1, hb3⟩
  have HZ3 := Lib.hid (HZ.out.next hb3)
  have HI1 := Lib.hid hI1
  clear hI1 hb3 HZ HGo2 c1 HPc
  obtain ⟨x0, x1, x2⟩ := ins_cells HZ3.out.b2
  rw [HAf.out] at x1
  obtain ⟨p0, p1, p2, -, -, -⟩ := cells3 HZ3.out.b0
  rw [HC0.out] at p2
  have c1 := (HZ3.out.below.cell (p := ⟨gb, offb + fi * 3, none⟩) HF0.out.1).trans HF0.out.2
  have RL0 := lt_of_block HZ3.out.b0
  have RLg := lt_of_block HZ3.out.b2
  have RLb : gb < w3.heap.size := Nat.lt_of_lt_of_le HF0.out.1 HZ3.out.below.size
  have HC2 := Lib.hid (HCa w3.drew A1 c3 (HI1.out.next (Below.refl _ _).drew)).out
  clear HCa p0 p1 HF0 x2
  go_upto_region 6 with fail
  refine Go.Proofs.YtjbcmedljgafkaaDoor.frames.wp_hold_act (fun a0 HA0 => ?_)
  have z0 : a0.tmps.size = 234 := by rw [HA0.out]; rfl
  have dd0 : a0.defers = [] := by rw [HA0.out]
  have f0_13 : a0.eval (.tmp 13) = .slice A1 (goF l ((a : Int) + 1)).length c3 := by rw [HA0.out]; rfl
  have f0_11 : a0.eval (.tmp 11) = .pointer (some ⟨g, 0, none⟩) := by rw [HA0.out]; rfl
  have f0_4 : a0.eval (.tmp 4) = .pointer (some ⟨w.heap.size, 0, none⟩) := by rw [HA0.out]; rfl
  have f0_12 : a0.eval (.tmp 12) = .pointer (some ⟨g + 1, 0, none⟩) := by rw [HA0.out]; rfl
  have f0_9 : a0.eval (.tmp 9) = .pointer (some ⟨w.heap.size + 1, 0, none⟩) := by rw [HA0.out]; rfl
  clear HA0
  refine wp_region_held_drew (S := fun w' => w'.cell? ⟨g, 1, none⟩ = some (.int .i64 (fi : Int)) ∧ w'.cell? ⟨w.heap.size, 2, none⟩ = some (.slice (some ⟨gb, offb, none⟩) p.fs.length cc) ∧ w'.cell? ⟨gb, offb + fi * 3, none⟩ = some (.int .i64 ar)) (by kernel_rfl) ⟨x1, p2, c1⟩ (fun hS => ?_)
  refine wpAnyH_take (i := 0) (v := .slice A1 (goF l ((a : Int) + 1)).length c3) rfl (by kernel_rfl) (by kernel_rfl) (by kernel_rfl) (fun _ _ _ h => h) (Go.Proofs.YtjbcmedljgafkaaDoor.frames.yields_move rfl (.tmp 13) rfl f0_13) hS ?_
  obtain ⟨a1, hA1⟩ : ∃ a', a' = a0.put (some 51) (.slice A1 (goF l ((a : Int) + 1)).length c3) := ⟨_, rfl⟩
  change wpAnyH _ _ _ _ _ _ _ (a0.put (some 51) (.slice A1 (goF l ((a : Int) + 1)).length c3)) _
  rw [← hA1]
  have f1_51 : a1.eval (.tmp 51) = .slice A1 (goF l ((a : Int) + 1)).length c3 := by rw [hA1]; exact Act.eval_put_same _ _ _ (by omega)
  have f1_11 : a1.eval (.tmp 11) = .pointer (some ⟨g, 0, none⟩) := by rw [hA1]; exact (Act.eval_put_ne _ _ _ _ (by decide)).trans f0_11
  have f1_4 : a1.eval (.tmp 4) = .pointer (some ⟨w.heap.size, 0, none⟩) := by rw [hA1]; exact (Act.eval_put_ne _ _ _ _ (by decide)).trans f0_4
  have f1_12 : a1.eval (.tmp 12) = .pointer (some ⟨g + 1, 0, none⟩) := by rw [hA1]; exact (Act.eval_put_ne _ _ _ _ (by decide)).trans f0_12
  have f1_9 : a1.eval (.tmp 9) = .pointer (some ⟨w.heap.size + 1, 0, none⟩) := by rw [hA1]; exact (Act.eval_put_ne _ _ _ _ (by decide)).trans f0_9
  have z1 : a1.tmps.size = 234 := by rw [hA1, Act.size_put]; exact z0
  have dd1 : a1.defers = [] := by rw [hA1, Act.defers_put']; exact dd0
  clear hA1 z0 dd0 f0_13 f0_11 f0_4 f0_12 f0_9
  refine wpAnyH_take (i := 1) (v := .pointer (some ⟨g, 1, none⟩)) rfl (by kernel_rfl) (by kernel_rfl) (by kernel_rfl) (fun _ _ _ h => h) (yields_fld rfl (.tmp 11) 1 (by decide) rfl _ f1_11) hS ?_
  obtain ⟨a2, hA2⟩ : ∃ a', a' = a1.put (some 52) (.pointer (some ⟨g, 1, none⟩)) := ⟨_, rfl⟩
  change wpAnyH _ _ _ _ _ _ _ (a1.put (some 52) (.pointer (some ⟨g, 1, none⟩))) _
  rw [← hA2]
  have f2_52 : a2.eval (.tmp 52) = .pointer (some ⟨g, 1, none⟩) := by rw [hA2]; exact Act.eval_put_same _ _ _ (by omega)
  have f2_51 : a2.eval (.tmp 51) = .slice A1 (goF l ((a : Int) + 1)).length c3 := by rw [hA2]; exact (Act.eval_put_ne _ _ _ _ (by decide)).trans f1_51
  have f2_11 : a2.eval (.tmp 11) = .pointer (some ⟨g, 0, none⟩) := by rw [hA2]; exact (Act.eval_put_ne _ _ _ _ (by decide)).trans f1_11
  have f2_4 : a2.eval (.tmp 4) = .pointer (some ⟨w.heap.size, 0, none⟩) := by rw [hA2]; exact (Act.eval_put_ne _ _ _ _ (by decide)).trans f1_4
  have f2_12 : a2.eval (.tmp 12) = .pointer (some ⟨g + 1, 0, none⟩) := by rw [hA2]; exact (Act.eval_put_ne _ _ _ _ (by decide)).trans f1_12
  have f2_9 : a2.eval (.tmp 9) = .pointer (some ⟨w.heap.size + 1, 0, none⟩) := by rw [hA2]; exact (Act.eval_put_ne _ _ _ _ (by decide)).trans f1_9
  have z2 : a2.tmps.size = 234 := by rw [hA2, Act.size_put]; exact z1
  have dd2 : a2.defers = [] := by rw [hA2, Act.defers_put']; exact dd1
  clear hA2 z1 dd1 f1_51 f1_11 f1_4 f1_12 f1_9
  refine wpAnyH_take (i := 2) (v := .int .i64 (fi : Int)) rfl (by kernel_rfl) (by kernel_rfl) (by kernel_rfl) (fun _ _ _ h => h) (yields_int rfl (.tmp 52) rfl _ f2_52 _ (fun _ h => h.1)) hS ?_
  obtain ⟨a3, hA3⟩ : ∃ a', a' = a2.put (some 53) (.int .i64 (fi : Int)) := ⟨_, rfl⟩
  change wpAnyH _ _ _ _ _ _ _ (a2.put (some 53) (.int .i64 (fi : Int))) _
  rw [← hA3]
  have f3_53 : a3.eval (.tmp 53) = .int .i64 (fi : Int) := by rw [hA3]; exact Act.eval_put_same _ _ _ (by omega)
  have f3_51 : a3.eval (.tmp 51) = .slice A1 (goF l ((a : Int) + 1)).length c3 := by rw [hA3]; exact (Act.eval_put_ne _ _ _ _ (by decide)).trans f2_51
  have f3_11 : a3.eval (.tmp 11) = .pointer (some ⟨g, 0, none⟩) := by rw [hA3]; exact (Act.eval_put_ne _ _ _ _ (by decide)).trans f2_11
  have f3_4 : a3.eval (.tmp 4) = .pointer (some ⟨w.heap.size, 0, none⟩) := by rw [hA3]; exact (Act.eval_put_ne _ _ _ _ (by decide)).trans f2_4
  have f3_12 : a3.eval (.tmp 12) = .pointer (some ⟨g + 1, 0, none⟩) := by rw [hA3]; exact (Act.eval_put_ne _ _ _ _ (by decide)).trans f2_12
  have f3_9 : a3.eval (.tmp 9) = .pointer (some ⟨w.heap.size + 1, 0, none⟩) := by rw [hA3]; exact (Act.eval_put_ne _ _ _ _ (by decide)).trans f2_9
  have z3 : a3.tmps.size = 234 := by rw [hA3, Act.size_put]; exact z2
  have dd3 : a3.defers = [] := by rw [hA3, Act.defers_put']; exact dd2
  clear hA3 z2 dd2 f2_52 f2_51 f2_11 f2_4 f2_12 f2_9
  refine wpAnyH_take (i := 3) (v := .pointer (some ⟨w.heap.size, 2, none⟩)) rfl (by kernel_rfl) (by kernel_rfl) (by kernel_rfl) (fun _ _ _ h => h) (yields_pfld rfl (.tmp 4) rfl _ f3_4) hS ?_
  obtain ⟨a4, hA4⟩ : ∃ a', a' = a3.put (some 54) (.pointer (some ⟨w.heap.size, 2, none⟩)) := ⟨_, rfl⟩
  change wpAnyH _ _ _ _ _ _ _ (a3.put (some 54) (.pointer (some ⟨w.heap.size, 2, none⟩))) _
  rw [← hA4]
  have f4_54 : a4.eval (.tmp 54) = .pointer (some ⟨w.heap.size, 2, none⟩) := by rw [hA4]; exact Act.eval_put_same _ _ _ (by omega)
  have f4_53 : a4.eval (.tmp 53) = .int .i64 (fi : Int) := by rw [hA4]; exact (Act.eval_put_ne _ _ _ _ (by decide)).trans f3_53
  have f4_51 : a4.eval (.tmp 51) = .slice A1 (goF l ((a : Int) + 1)).length c3 := by rw [hA4]; exact (Act.eval_put_ne _ _ _ _ (by decide)).trans f3_51
  have f4_11 : a4.eval (.tmp 11) = .pointer (some ⟨g, 0, none⟩) := by rw [hA4]; exact (Act.eval_put_ne _ _ _ _ (by decide)).trans f3_11
  have f4_12 : a4.eval (.tmp 12) = .pointer (some ⟨g + 1, 0, none⟩) := by rw [hA4]; exact (Act.eval_put_ne _ _ _ _ (by decide)).trans f3_12
  have f4_9 : a4.eval (.tmp 9) = .pointer (some ⟨w.heap.size + 1, 0, none⟩) := by rw [hA4]; exact (Act.eval_put_ne _ _ _ _ (by decide)).trans f3_9
  have z4 : a4.tmps.size = 234 := by rw [hA4, Act.size_put]; exact z3
  have dd4 : a4.defers = [] := by rw [hA4, Act.defers_put']; exact dd3
  clear hA4 z3 dd3 f3_53 f3_51 f3_11 f3_4 f3_12 f3_9
  refine wpAnyH_take (i := 4) (v := .slice (some ⟨gb, offb, none⟩) p.fs.length cc) rfl (by kernel_rfl) (by kernel_rfl) (by kernel_rfl) (fun _ _ _ h => h) (yields_fsl rfl (.tmp 54) rfl _ f4_54 _ _ _ (fun _ h => h.2.1)) hS ?_
  obtain ⟨a5, hA5⟩ : ∃ a', a' = a4.put (some 55) (.slice (some ⟨gb, offb, none⟩) p.fs.length cc) := ⟨_, rfl⟩
  change wpAnyH _ _ _ _ _ _ _ (a4.put (some 55) (.slice (some ⟨gb, offb, none⟩) p.fs.length cc)) _
  rw [← hA5]
  have f5_55 : a5.eval (.tmp 55) = .slice (some ⟨gb, offb, none⟩) p.fs.length cc := by rw [hA5]; exact Act.eval_put_same _ _ _ (by omega)
  have f5_53 : a5.eval (.tmp 53) = .int .i64 (fi : Int) := by rw [hA5]; exact (Act.eval_put_ne _ _ _ _ (by decide)).trans f4_53
  have f5_51 : a5.eval (.tmp 51) = .slice A1 (goF l ((a : Int) + 1)).length c3 := by rw [hA5]; exact (Act.eval_put_ne _ _ _ _ (by decide)).trans f4_51
  have f5_11 : a5.eval (.tmp 11) = .pointer (some ⟨g, 0, none⟩) := by rw [hA5]; exact (Act.eval_put_ne _ _ _ _ (by decide)).trans f4_11
  have f5_12 : a5.eval (.tmp 12) = .pointer (some ⟨g + 1, 0, none⟩) := by rw [hA5]; exact (Act.eval_put_ne _ _ _ _ (by decide)).trans f4_12
  have f5_9 : a5.eval (.tmp 9) = .pointer (some ⟨w.heap.size + 1, 0, none⟩) := by rw [hA5]; exact (Act.eval_put_ne _ _ _ _ (by decide)).trans f4_9
  have z5 : a5.tmps.size = 234 := by rw [hA5, Act.size_put]; exact z4
  have dd5 : a5.defers = [] := by rw [hA5, Act.defers_put']; exact dd4
  clear hA5 z4 dd4 f4_54 f4_53 f4_51 f4_11 f4_12 f4_9
  refine wpAnyH_take (i := 5) (v := .pointer (some ⟨g, 1, none⟩)) rfl (by kernel_rfl) (by kernel_rfl) (by kernel_rfl) (fun _ _ _ h => h) (yields_fld rfl (.tmp 11) 1 (by decide) rfl _ f5_11) hS ?_
  obtain ⟨a6, hA6⟩ : ∃ a', a' = a5.put (some 56) (.pointer (some ⟨g, 1, none⟩)) := ⟨_, rfl⟩
  change wpAnyH _ _ _ _ _ _ _ (a5.put (some 56) (.pointer (some ⟨g, 1, none⟩))) _
  rw [← hA6]
  have f6_56 : a6.eval (.tmp 56) = .pointer (some ⟨g, 1, none⟩) := by rw [hA6]; exact Act.eval_put_same _ _ _ (by omega)
  have f6_55 : a6.eval (.tmp 55) = .slice (some ⟨gb, offb, none⟩) p.fs.length cc := by rw [hA6]; exact (Act.eval_put_ne _ _ _ _ (by decide)).trans f5_55
  have f6_53 : a6.eval (.tmp 53) = .int .i64 (fi : Int) := by rw [hA6]; exact (Act.eval_put_ne _ _ _ _ (by decide)).trans f5_53
  have f6_51 : a6.eval (.tmp 51) = .slice A1 (goF l ((a : Int) + 1)).length c3 := by rw [hA6]; exact (Act.eval_put_ne _ _ _ _ (by decide)).trans f5_51
  have f6_12 : a6.eval (.tmp 12) = .pointer (some ⟨g + 1, 0, none⟩) := by rw [hA6]; exact (Act.eval_put_ne _ _ _ _ (by decide)).trans f5_12
  have f6_9 : a6.eval (.tmp 9) = .pointer (some ⟨w.heap.size + 1, 0, none⟩) := by rw [hA6]; exact (Act.eval_put_ne _ _ _ _ (by decide)).trans f5_9
  have z6 : a6.tmps.size = 234 := by rw [hA6, Act.size_put]; exact z5
  have dd6 : a6.defers = [] := by rw [hA6, Act.defers_put']; exact dd5
  clear hA6 z5 dd5 f5_55 f5_53 f5_51 f5_11 f5_12 f5_9
  refine wpAnyH_take (i := 6) (v := .int .i64 (fi : Int)) rfl (by kernel_rfl) (by kernel_rfl) (by kernel_rfl) (fun _ _ _ h => h) (yields_int rfl (.tmp 56) rfl _ f6_56 _ (fun _ h => h.1)) hS ?_
  obtain ⟨a7, hA7⟩ : ∃ a', a' = a6.put (some 57) (.int .i64 (fi : Int)) := ⟨_, rfl⟩
  change wpAnyH _ _ _ _ _ _ _ (a6.put (some 57) (.int .i64 (fi : Int))) _
  rw [← hA7]
  have f7_57 : a7.eval (.tmp 57) = .int .i64 (fi : Int) := by rw [hA7]; exact Act.eval_put_same _ _ _ (by omega)
  have f7_55 : a7.eval (.tmp 55) = .slice (some ⟨gb, offb, none⟩) p.fs.length cc := by rw [hA7]; exact (Act.eval_put_ne _ _ _ _ (by decide)).trans f6_55
  have f7_53 : a7.eval (.tmp 53) = .int .i64 (fi : Int) := by rw [hA7]; exact (Act.eval_put_ne _ _ _ _ (by decide)).trans f6_53
  have f7_51 : a7.eval (.tmp 51) = .slice A1 (goF l ((a : Int) + 1)).length c3 := by rw [hA7]; exact (Act.eval_put_ne _ _ _ _ (by decide)).trans f6_51
  have f7_12 : a7.eval (.tmp 12) = .pointer (some ⟨g + 1, 0, none⟩) := by rw [hA7]; exact (Act.eval_put_ne _ _ _ _ (by decide)).trans f6_12
  have f7_9 : a7.eval (.tmp 9) = .pointer (some ⟨w.heap.size + 1, 0, none⟩) := by rw [hA7]; exact (Act.eval_put_ne _ _ _ _ (by decide)).trans f6_9
  have z7 : a7.tmps.size = 234 := by rw [hA7, Act.size_put]; exact z6
  have dd7 : a7.defers = [] := by rw [hA7, Act.defers_put']; exact dd6
  clear hA7 z6 dd6 f6_56 f6_55 f6_53 f6_51 f6_12 f6_9
  refine wpAnyH_take (i := 7) (v := .pointer (some ⟨gb, offb + fi * 3, none⟩)) rfl (by kernel_rfl) (by kernel_rfl) (by kernel_rfl) (fun _ _ _ h => h) (yields_fidx rfl (.tmp 55) (.tmp 57) rfl _ _ _ _ fi f7_55 f7_57 n0 n1) hS ?_
  obtain ⟨a8, hA8⟩ : ∃ a', a' = a7.put (some 58) (.pointer (some ⟨gb, offb + fi * 3, none⟩)) := ⟨_, rfl⟩
  change wpAnyH _ _ _ _ _ _ _ (a7.put (some 58) (.pointer (some ⟨gb, offb + fi * 3, none⟩))) _
  rw [← hA8]
  have f8_58 : a8.eval (.tmp 58) = .pointer (some ⟨gb, offb + fi * 3, none⟩) := by rw [hA8]; exact Act.eval_put_same _ _ _ (by omega)
  have f8_53 : a8.eval (.tmp 53) = .int .i64 (fi : Int) := by rw [hA8]; exact (Act.eval_put_ne _ _ _ _ (by decide)).trans f7_53
  have f8_51 : a8.eval (.tmp 51) = .slice A1 (goF l ((a : Int) + 1)).length c3 := by rw [hA8]; exact (Act.eval_put_ne _ _ _ _ (by decide)).trans f7_51
  have f8_12 : a8.eval (.tmp 12) = .pointer (some ⟨g + 1, 0, none⟩) := by rw [hA8]; exact (Act.eval_put_ne _ _ _ _ (by decide)).trans f7_12
  have f8_9 : a8.eval (.tmp 9) = .pointer (some ⟨w.heap.size + 1, 0, none⟩) := by rw [hA8]; exact (Act.eval_put_ne _ _ _ _ (by decide)).trans f7_9
  have z8 : a8.tmps.size = 234 := by rw [hA8, Act.size_put]; exact z7
  have dd8 : a8.defers = [] := by rw [hA8, Act.defers_put']; exact dd7
  clear hA8 z7 dd7 f7_57 f7_55 f7_53 f7_51 f7_12 f7_9
  refine wpAnyH_take (i := 8) (v := .pointer (some ⟨gb, offb + fi * 3, none⟩)) rfl (by kernel_rfl) (by kernel_rfl) (by kernel_rfl) (fun _ _ _ h => h) (yields_ff0 rfl (.tmp 58) rfl _ _ f8_58) hS ?_
  obtain ⟨a9, hA9⟩ : ∃ a', a' = a8.put (some 59) (.pointer (some ⟨gb, offb + fi * 3, none⟩)) := ⟨_, rfl⟩
  change wpAnyH _ _ _ _ _ _ _ (a8.put (some 59) (.pointer (some ⟨gb, offb + fi * 3, none⟩))) _
  rw [← hA9]
  have f9_59 : a9.eval (.tmp 59) = .pointer (some ⟨gb, offb + fi * 3, none⟩) := by rw [hA9]; exact Act.eval_put_same _ _ _ (by omega)
  have f9_53 : a9.eval (.tmp 53) = .int .i64 (fi : Int) := by rw [hA9]; exact (Act.eval_put_ne _ _ _ _ (by decide)).trans f8_53
  have f9_51 : a9.eval (.tmp 51) = .slice A1 (goF l ((a : Int) + 1)).length c3 := by rw [hA9]; exact (Act.eval_put_ne _ _ _ _ (by decide)).trans f8_51
  have f9_12 : a9.eval (.tmp 12) = .pointer (some ⟨g + 1, 0, none⟩) := by rw [hA9]; exact (Act.eval_put_ne _ _ _ _ (by decide)).trans f8_12
  have f9_9 : a9.eval (.tmp 9) = .pointer (some ⟨w.heap.size + 1, 0, none⟩) := by rw [hA9]; exact (Act.eval_put_ne _ _ _ _ (by decide)).trans f8_9
  have z9 : a9.tmps.size = 234 := by rw [hA9, Act.size_put]; exact z8
  have dd9 : a9.defers = [] := by rw [hA9, Act.defers_put']; exact dd8
  clear hA9 z8 dd8 f8_58 f8_53 f8_51 f8_12 f8_9
  refine wpAnyH_take (i := 9) (v := .int .i64 ar) rfl (by kernel_rfl) (by kernel_rfl) (by kernel_rfl) (fun _ _ _ h => h) (yields_int rfl (.tmp 59) rfl _ f9_59 _ (fun _ h => h.2.2)) hS ?_
  obtain ⟨a10, hA10⟩ : ∃ a', a' = a9.put (some 60) (.int .i64 ar) := ⟨_, rfl⟩
  change wpAnyH _ _ _ _ _ _ _ (a9.put (some 60) (.int .i64 ar)) _
  rw [← hA10]
  have f10_60 : a10.eval (.tmp 60) = .int .i64 ar := by rw [hA10]; exact Act.eval_put_same _ _ _ (by omega)
  have f10_53 : a10.eval (.tmp 53) = .int .i64 (fi : Int) := by rw [hA10]; exact (Act.eval_put_ne _ _ _ _ (by decide)).trans f9_53
  have f10_51 : a10.eval (.tmp 51) = .slice A1 (goF l ((a : Int) + 1)).length c3 := by rw [hA10]; exact (Act.eval_put_ne _ _ _ _ (by decide)).trans f9_51
  have f10_12 : a10.eval (.tmp 12) = .pointer (some ⟨g + 1, 0, none⟩) := by rw [hA10]; exact (Act.eval_put_ne _ _ _ _ (by decide)).trans f9_12
  have f10_9 : a10.eval (.tmp 9) = .pointer (some ⟨w.heap.size + 1, 0, none⟩) := by rw [hA10]; exact (Act.eval_put_ne _ _ _ _ (by decide)).trans f9_9
  have z10 : a10.tmps.size = 234 := by rw [hA10, Act.size_put]; exact z9
  have dd10 : a10.defers = [] := by rw [hA10, Act.defers_put']; exact dd9
  clear hA10 z9 dd9 f9_59 f9_53 f9_51 f9_12 f9_9
  refine wpAnyH_ready (rs := [10]) (by kernel_rfl) (by simp) (AllReadyH.cons (by simp only [List.getElem?_toArray, List.getElem?_cons_succ, List.getElem?_cons_zero]; rfl) (fun K hK => ?_) AllReadyH.nil)
  refine step_call (by rfl) 24 #[.tmp 51, .tmp 53, .tmp 60] #[30, 3, 3] (by rfl) #[.slice A1 (goF l ((a : Int) + 1)).length c3, .int .i64 (fi : Int), .int .i64 ar] (by simp only [List.map_toArray, List.map_cons, List.map_nil, f10_51, f10_53, f10_60]) Tryd.func24 (by kernel_rfl) rfl HC2.out (fun e w4 hR => ?_)
  obtain ⟨hb, A2, c2, rfl, hi⟩ := hR
  have HZ4 := Lib.hid (HZ3.out.drew.next hb)
  have HI2 := Lib.hid hi
  refine ⟨_, rfl, hK.out _ _ ⟨(hb.cell (p := ⟨g, 1, none⟩) RLg).trans x1, (hb.cell (p := ⟨w.heap.size, 2, none⟩) RL0).trans p2, (hb.cell (p := ⟨gb, offb + fi * 3, none⟩) RLb).trans c1⟩ (fun hS => ?_)⟩
  obtain ⟨a11, hA11⟩ : ∃ a', a' = a10.put (some 61) (.tuple #[.slice A2 y.length c2, .bool true]) := ⟨_, rfl⟩
  change wpAnyH _ _ _ _ _ _ _ (a10.put (some 61) (.tuple #[.slice A2 y.length c2, .bool true])) _
  rw [← hA11]
  have f11_61 : a11.eval (.tmp 61) = .tuple #[.slice A2 y.length c2, .bool true] := by rw [hA11]; exact Act.eval_put_same _ _ _ (by omega)
  have f11_12 : a11.eval (.tmp 12) = .pointer (some ⟨g + 1, 0, none⟩) := by rw [hA11]; exact (Act.eval_put_ne _ _ _ _ (by decide)).trans f10_12
  have f11_9 : a11.eval (.tmp 9) = .pointer (some ⟨w.heap.size + 1, 0, none⟩) := by rw [hA11]; exact (Act.eval_put_ne _ _ _ _ (by decide)).trans f10_9
  have z11 : a11.tmps.size = 234 := by rw [hA11, Act.size_put]; exact z10
  have dd11 : a11.defers = [] := by rw [hA11, Act.defers_put']; exact dd10
  clear hA11 z10 dd10 f10_60 f10_53 f10_51 f10_12 f10_9
  refine wpAnyH_take (i := 11) (v := .tuple #[.slice A2 y.length c2, .bool true]) rfl (by kernel_rfl) (by kernel_rfl) (by kernel_rfl) (fun _ _ _ h => h) (Go.Proofs.YtjbcmedljgafkaaDoor.frames.yields_move rfl (.tmp 61) rfl f11_61) hS ?_
  obtain ⟨a12, hA12⟩ : ∃ a', a' = a11.put (some 50) (.tuple #[.slice A2 y.length c2, .bool true]) := ⟨_, rfl⟩
  change wpAnyH _ _ _ _ _ _ _ (a11.put (some 50) (.tuple #[.slice A2 y.length c2, .bool true])) _
  rw [← hA12]
  have f12_50 : a12.eval (.tmp 50) = .tuple #[.slice A2 y.length c2, .bool true] := by rw [hA12]; exact Act.eval_put_same _ _ _ (by omega)
  have f12_12 : a12.eval (.tmp 12) = .pointer (some ⟨g + 1, 0, none⟩) := by rw [hA12]; exact (Act.eval_put_ne _ _ _ _ (by decide)).trans f11_12
  have f12_9 : a12.eval (.tmp 9) = .pointer (some ⟨w.heap.size + 1, 0, none⟩) := by rw [hA12]; exact (Act.eval_put_ne _ _ _ _ (by decide)).trans f11_9
  have z12 : a12.tmps.size = 234 := by rw [hA12, Act.size_put]; exact z11
  have dd12 : a12.defers = [] := by rw [hA12, Act.defers_put']; exact dd11
  clear hA12 z11 dd11 f11_61 f11_12 f11_9
  refine wpAnyH_take (i := 12) (v := .slice A2 y.length c2) rfl (by kernel_rfl) (by kernel_rfl) (by kernel_rfl) (fun _ _ _ h => h) (yields_part rfl (.tmp 50) 0 rfl _ _ f12_50 rfl) hS ?_
  obtain ⟨a13, hA13⟩ : ∃ a', a' = a12.put (some 62) (.slice A2 y.length c2) := ⟨_, rfl⟩
  change wpAnyH _ _ _ _ _ _ _ (a12.put (some 62) (.slice A2 y.length c2)) _
  rw [← hA13]
  have f13_62 : a13.eval (.tmp 62) = .slice A2 y.length c2 := by rw [hA13]; exact Act.eval_put_same _ _ _ (by omega)
  have f13_50 : a13.eval (.tmp 50) = .tuple #[.slice A2 y.length c2, .bool true] := by rw [hA13]; exact (Act.eval_put_ne _ _ _ _ (by decide)).trans f12_50
  have f13_12 : a13.eval (.tmp 12) = .pointer (some ⟨g + 1, 0, none⟩) := by rw [hA13]; exact (Act.eval_put_ne _ _ _ _ (by decide)).trans f12_12
  have f13_9 : a13.eval (.tmp 9) = .pointer (some ⟨w.heap.size + 1, 0, none⟩) := by rw [hA13]; exact (Act.eval_put_ne _ _ _ _ (by decide)).trans f12_9
  have z13 : a13.tmps.size = 234 := by rw [hA13, Act.size_put]; exact z12
  have dd13 : a13.defers = [] := by rw [hA13, Act.defers_put']; exact dd12
  clear hA13 z12 dd12 f12_50 f12_12 f12_9
  refine wpAnyH_take (i := 13) (v := .bool true) rfl (by kernel_rfl) (by kernel_rfl) (by kernel_rfl) (fun _ _ _ h => h) (yields_part rfl (.tmp 50) 1 rfl _ _ f13_50 rfl) hS ?_
  obtain ⟨a14, hA14⟩ : ∃ a', a' = a13.put (some 63) (.bool true) := ⟨_, rfl⟩
  change wpAnyH _ _ _ _ _ _ _ (a13.put (some 63) (.bool true)) _
  rw [← hA14]
  have f14_63 : a14.eval (.tmp 63) = .bool true := by rw [hA14]; exact Act.eval_put_same _ _ _ (by omega)
  have f14_62 : a14.eval (.tmp 62) = .slice A2 y.length c2 := by rw [hA14]; exact (Act.eval_put_ne _ _ _ _ (by decide)).trans f13_62
  have f14_12 : a14.eval (.tmp 12) = .pointer (some ⟨g + 1, 0, none⟩) := by rw [hA14]; exact (Act.eval_put_ne _ _ _ _ (by decide)).trans f13_12
  have f14_9 : a14.eval (.tmp 9) = .pointer (some ⟨w.heap.size + 1, 0, none⟩) := by rw [hA14]; exact (Act.eval_put_ne _ _ _ _ (by decide)).trans f13_9
  have z14 : a14.tmps.size = 234 := by rw [hA14, Act.size_put]; exact z13
  have dd14 : a14.defers = [] := by rw [hA14, Act.defers_put']; exact dd13
  clear hA14 z13 dd13 f13_62 f13_50 f13_12 f13_9
  refine wpAnyH_take (i := 14) (v := .slice A2 y.length c2) rfl (by kernel_rfl) (by kernel_rfl) (by kernel_rfl) (fun _ _ _ h => h) (yields_assign rfl (.tmp 62) rfl f14_62) hS ?_
  obtain ⟨a15, hA15⟩ : ∃ a', a' = a14.put (some 14) (.slice A2 y.length c2) := ⟨_, rfl⟩
  change wpAnyH _ _ _ _ _ _ _ (a14.put (some 14) (.slice A2 y.length c2)) _
  rw [← hA15]
  have f15_14 : a15.eval (.tmp 14) = .slice A2 y.length c2 := by rw [hA15]; exact Act.eval_put_same _ _ _ (by omega)
  have f15_63 : a15.eval (.tmp 63) = .bool true := by rw [hA15]; exact (Act.eval_put_ne _ _ _ _ (by decide)).trans f14_63
  have f15_12 : a15.eval (.tmp 12) = .pointer (some ⟨g + 1, 0, none⟩) := by rw [hA15]; exact (Act.eval_put_ne _ _ _ _ (by decide)).trans f14_12
  have f15_9 : a15.eval (.tmp 9) = .pointer (some ⟨w.heap.size + 1, 0, none⟩) := by rw [hA15]; exact (Act.eval_put_ne _ _ _ _ (by decide)).trans f14_9
  have z15 : a15.tmps.size = 234 := by rw [hA15, Act.size_put]; exact z14
  have dd15 : a15.defers = [] := by rw [hA15, Act.defers_put']; exact dd14
  clear hA15 z14 dd14 f14_63 f14_62 f14_12 f14_9
  refine wpAnyH_take (i := 15) (v := .bool true) rfl (by kernel_rfl) (by kernel_rfl) (by kernel_rfl) (fun _ _ _ h => h) (yields_assign rfl (.tmp 63) rfl f15_63) hS ?_
  obtain ⟨a16, hA16⟩ : ∃ a', a' = a15.put (some 15) (.bool true) := ⟨_, rfl⟩
  change wpAnyH _ _ _ _ _ _ _ (a15.put (some 15) (.bool true)) _
  rw [← hA16]
  have f16_15 : a16.eval (.tmp 15) = .bool true := by rw [hA16]; exact Act.eval_put_same _ _ _ (by omega)
  have f16_14 : a16.eval (.tmp 14) = .slice A2 y.length c2 := by rw [hA16]; exact (Act.eval_put_ne _ _ _ _ (by decide)).trans f15_14
  have f16_12 : a16.eval (.tmp 12) = .pointer (some ⟨g + 1, 0, none⟩) := by rw [hA16]; exact (Act.eval_put_ne _ _ _ _ (by decide)).trans f15_12
  have f16_9 : a16.eval (.tmp 9) = .pointer (some ⟨w.heap.size + 1, 0, none⟩) := by rw [hA16]; exact (Act.eval_put_ne _ _ _ _ (by decide)).trans f15_9
  have z16 : a16.tmps.size = 234 := by rw [hA16, Act.size_put]; exact z15
  have dd16 : a16.defers = [] := by rw [hA16, Act.defers_put']; exact dd15
  clear hA16 z15 dd15 f15_14 f15_63 f15_12 f15_9
  refine wpAnyH_done (by kernel_rfl) ?_ _
  clear hS x1 p2 c1 HC2 hb hi RL0 RLg RLb
  go_upto_region 7 with fail
  have RB1 := HZ4.out.b1
  have RNE : g + 1 ≠ w.heap.size + 1 := by have := HZ4.out.far; omega
  refine wp_region_held_drew (S := fun w' => w'.heap[g + 1]? = some (efB noE) ∧ Below w.heap.size w w') (by kernel_rfl) (And.intro HZ4.out.b3 HZ4.out.below.drew) (fun hS => ?_)
  refine wpAnyH_take (i := 0) (v := .slice A2 y.length c2) rfl (by kernel_rfl) (by kernel_rfl) (by kernel_rfl) (fun _ _ _ h => h) (Go.Proofs.YtjbcmedljgafkaaDoor.frames.yields_move rfl (.tmp 14) rfl f16_14) hS ?_
  obtain ⟨a17, hA17⟩ : ∃ a', a' = a16.put (some 64) (.slice A2 y.length c2) := ⟨_, rfl⟩
  change wpAnyH _ _ _ _ _ _ _ (a16.put (some 64) (.slice A2 y.length c2)) _
  rw [← hA17]
  have f17_64 : a17.eval (.tmp 64) = .slice A2 y.length c2 := by rw [hA17]; exact Act.eval_put_same _ _ _ (by omega)
  have f17_12 : a17.eval (.tmp 12) = .pointer (some ⟨g + 1, 0, none⟩) := by rw [hA17]; exact (Act.eval_put_ne _ _ _ _ (by decide)).trans f16_12
  have f17_9 : a17.eval (.tmp 9) = .pointer (some ⟨w.heap.size + 1, 0, none⟩) := by rw [hA17]; exact (Act.eval_put_ne _ _ _ _ (by decide)).trans f16_9
  have z17 : a17.tmps.size = 234 := by rw [hA17, Act.size_put]; exact z16
  have dd17 : a17.defers = [] := by rw [hA17, Act.defers_put']; exact dd16
  clear hA17 z16 dd16 f16_15 f16_14 f16_12 f16_9
  refine wpAnyH_take (i := 1) (v := efV noE) rfl (by kernel_rfl) (by kernel_rfl) (by kernel_rfl) (fun _ _ _ h => h) (yields_ef rfl (.tmp 12) rfl _ f17_12 noE (fun _ h => h.1)) hS ?_
  obtain ⟨a18, hA18⟩ : ∃ a', a' = a17.put (some 65) (efV noE) := ⟨_, rfl⟩
  change wpAnyH _ _ _ _ _ _ _ (a17.put (some 65) (efV noE)) _
  rw [← hA18]
  have f18_65 : a18.eval (.tmp 65) = efV noE := by rw [hA18]; exact Act.eval_put_same _ _ _ (by omega)
  have f18_64 : a18.eval (.tmp 64) = .slice A2 y.length c2 := by rw [hA18]; exact (Act.eval_put_ne _ _ _ _ (by decide)).trans f17_64
  have f18_9 : a18.eval (.tmp 9) = .pointer (some ⟨w.heap.size + 1, 0, none⟩) := by rw [hA18]; exact (Act.eval_put_ne _ _ _ _ (by decide)).trans f17_9
  have z18 : a18.tmps.size = 234 := by rw [hA18, Act.size_put]; exact z17
  have dd18 : a18.defers = [] := by rw [hA18, Act.defers_put']; exact dd17
  clear hA18 z17 dd17 f17_64 f17_12 f17_9
  refine wpAnyH_take (i := 2) (v := .slice A2 y.length c2) rfl (by kernel_rfl) (by kernel_rfl) (by kernel_rfl) (fun _ _ _ h => h) (yields_assign rfl (.tmp 64) rfl f18_64) hS ?_
  obtain ⟨a19, hA19⟩ : ∃ a', a' = a18.put (some 8) (.slice A2 y.length c2) := ⟨_, rfl⟩
  change wpAnyH _ _ _ _ _ _ _ (a18.put (some 8) (.slice A2 y.length c2)) _
  rw [← hA19]
  have f19_8 : a19.eval (.tmp 8) = .slice A2 y.length c2 := by rw [hA19]; exact Act.eval_put_same _ _ _ (by omega)
  have f19_65 : a19.eval (.tmp 65) = efV noE := by rw [hA19]; exact (Act.eval_put_ne _ _ _ _ (by decide)).trans f18_65
  have f19_9 : a19.eval (.tmp 9) = .pointer (some ⟨w.heap.size + 1, 0, none⟩) := by rw [hA19]; exact (Act.eval_put_ne _ _ _ _ (by decide)).trans f18_9
  have z19 : a19.tmps.size = 234 := by rw [hA19, Act.size_put]; exact z18
  have dd19 : a19.defers = [] := by rw [hA19, Act.defers_put']; exact dd18
  clear hA19 z18 dd18 f18_65 f18_64 f18_9
  refine wpAnyH_ready (rs := [3]) (by kernel_rfl) (by simp) (AllReadyH.cons (by simp only [List.getElem?_toArray, List.getElem?_cons_succ, List.getElem?_cons_zero]; rfl) (fun K hK => ?_) AllReadyH.nil)
  refine step_ef (by rfl) (.tmp 9) (.tmp 65) (by rfl) (w.heap.size + 1) zE noE f19_9 f19_65 RB1 ?_
  refine hK.out _ _ ⟨(Go.Proofs.YtjbcmedljgafkaaDoor.frames.row_far _ RNE).trans hS.1, Go.Proofs.YtjbcmedljgafkaaDoor.frames.row_below hS.2 (Nat.le_succ _) _⟩ (fun hS => ?_)
  change wpAnyH _ _ _ _ _ _ _ a19 _
  refine wpAnyH_take (i := 4) (v := .int .i64 0) rfl (by kernel_rfl) (by kernel_rfl) (by kernel_rfl) (fun _ _ _ h => h) (yields_assign rfl _ rfl rfl) hS ?_
  obtain ⟨a20, hA20⟩ : ∃ a', a' = a19.put (some 10) (.int .i64 0) := ⟨_, rfl⟩
  change wpAnyH _ _ _ _ _ _ _ (a19.put (some 10) (.int .i64 0)) _
  rw [← hA20]
  have f20_10 : a20.eval (.tmp 10) = .int .i64 0 := by rw [hA20]; exact Act.eval_put_same _ _ _ (by omega)
  have f20_8 : a20.eval (.tmp 8) = .slice A2 y.length c2 := by rw [hA20]; exact (Act.eval_put_ne _ _ _ _ (by decide)).trans f19_8
  have f20_9 : a20.eval (.tmp 9) = .pointer (some ⟨w.heap.size + 1, 0, none⟩) := by rw [hA20]; exact (Act.eval_put_ne _ _ _ _ (by decide)).trans f19_9
  have z20 : a20.tmps.size = 234 := by rw [hA20, Act.size_put]; exact z19
  have dd20 : a20.defers = [] := by rw [hA20, Act.defers_put']; exact dd19
  clear hA20 z19 dd19 f19_8 f19_65 f19_9
  refine wpAnyH_done (by kernel_rfl) ?_ _
  go_wp2_with fail
  exact do_ret HQ.out rfl f20_8 f20_9 f20_10 dd20 (row_turned RB1 _) (in_row (HI2.out.next (Below.refl _ _).drew) RB1 (by decide) _) hS.2

end Go.Proofs.YtjbcmedljgafkaaDoor.pgm.exe
