/-
  Texts of one claim in one file: ZDoB. Each has its own sentence, with its conditions.
-/
import Derived.Test.YtjbcmedljgafkaaDoorZq17
/-
  The document's own Do: store, jump, zero. The program may run, and the frames come of it.
-/

namespace Go.Proofs.YtjbcmedljgafkaaDoor.pgm.exe
open Go.RowKit Go.ChangeShapes
open Go.Proofs.YtjbcmedljgafkaaDoor.pgm
open Go.Proofs.YtjbcmedljgafkaaDoor.objs (De zero cells3 put3 put3_same put3_below put3_far DAt)
open Go.Proofs.YtjbcmedljgafkaaDoor.frames (Fr num cnt topF goF In refGo_any FrsPost)
open Go.Proofs.YtjbcmedljgafkaaDoor.oper (pops numb tk)
set_option linter.unusedVariables false
set_option linter.unusedSimpArgs false

set_option maxRecDepth 100000 in
set_option maxHeartbeats 4000000 in
theorem do_store (v : Value) (p : Pg) (A : Option Addr) (c : Nat) (l : List Fr) (self now : Int) (w : World) (hv : PAt w v p) (hI : In w A c l) (hm : May p.fs) (hfit : FitL p.fs 0 l) (hop : (insZ p.fs l).1 = 2) :
    Calls Tryd.prog 11 #[v, .slice A l.length c, .int .i64 self, .int .i64 now] w (DoPost (doZ p.fs l self now) w) := by
  obtain ⟨h0, hl8, i, a, hi, ha, hfn, hpc, hins, hchk, ha200⟩ := fit_facts hm hfit
  have HAt := fun W (h : Below w.heap.size w W) => Lib.hid (refAt_any v p A c l W (hv.next h) (hI.next h) h0 hi ha hfn hpc)
  rw [← hins] at HAt
  have HGo := fun W (h : Below w.heap.size w W) => Lib.hid (refGo_any A c l ((a : Int) + 1) W (hI.next h))
  have hqe : doZ p.fs l self now = doZ p.fs l self now := rfl
  obtain ⟨q, hq⟩ : ∃ q, q = doZ p.fs l self now := ⟨_, rfl⟩
  rw [← hq]
  have hnext : nextF l = goF l ((a : Int) + 1) := by unfold nextF; rw [hpc]
  unfold doZ at hq
  rw [hnext] at hq
  dsimp only at hq
  obtain ⟨rest, vs, ht, hpo, hvl, ⟨hp0, hp5⟩, rr, gg, hrg, hg0, hg1, hgl⟩ := fit_take hm hfit (by omega)
  rw [ht] at hq
  dsimp only at hq
  rw [hnext] at hpo
  have hbs := Go.Proofs.YtjbcmedljgafkaaDoor.pgm.dep.b_small hchk
  have HPs : ∀ W, Hid (Calls Tryd.prog 27 #[insV (insZ p.fs l), .int .i64 0] W fun e w' => e = .returned (.int .i64 (pops (insZ p.fs l).1 (insZ p.fs l).2.2 0)) ∧ Below W.heap.size W w') := fun W => Lib.hid (Go.Proofs.YtjbcmedljgafkaaDoor.oper.refPops_any _ _ _ 0 (by omega) (by omega) W)
  have HPo : ∀ W A1 c3, In W A1 c3 (goF l ((a : Int) + 1)) → Hid (Calls Tryd.prog 26 #[.slice A1 (goF l ((a : Int) + 1)).length c3, .int .i64 (pops (insZ p.fs l).1 (insZ p.fs l).2.2 0)] W fun e w' => Below W.heap.size W w' ∧ ∃ A c B d, e = .returned (.tuple #[.slice A rest.length c, .slice B vs.length d, .bool true]) ∧ In w' A c rest ∧ Go.Proofs.YtjbcmedljgafkaaDoor.nums.NAt w' B vs ∧ Go.Proofs.YtjbcmedljgafkaaDoor.frames.Own w' W.heap.size (.slice A rest.length c) rest ∧ ∀ b off, B = some ⟨b, off, none⟩ → W.heap.size ≤ b) := fun W A1 c3 h => Lib.hid (by
    have h1 := Go.Proofs.YtjbcmedljgafkaaDoor.frames.refPopB_any A1 c3 _ (pops (insZ p.fs l).1 (insZ p.fs l).2.2 0) W h
    unfold Go.Proofs.YtjbcmedljgafkaaDoor.frames.PopPostB at h1
    rw [hpo] at h1
    exact h1)
  rw [if_neg (by omega), if_neg (by omega), if_neg (by omega), if_pos hop] at hq
  have HQ := Lib.hid hq
  obtain ⟨A0, B0, C0, ca, cb, cc, rfl, -, -, hF⟩ := id hv
  obtain ⟨b, off, m, rfl, hm1, hb, hFc, hl27⟩ := hI.top h0
  have hlen := hI.len
  have hcap := hI.cap
  have HI := Lib.hid hI
  have hpcc := hFc 1 (by omega)
  rw [hpc] at hpcc
  have HPc := Lib.hid (And.intro hb hpcc)
  have HM := Lib.hid hm1
  have e20 : ((insZ p.fs l).1 == 20) = false := by rw [hop]; rfl
  have e21 : ((insZ p.fs l).1 == 21) = false := by rw [hop]; rfl
  have e2 : ((insZ p.fs l).1 == 2) = true := by rw [hop]; rfl
  have e17 : ((insZ p.fs l).1 == 17) = false := by rw [hop]; rfl
  have e18 : ((insZ p.fs l).1 == 18) = false := by rw [hop]; rfl
  have e19 : ((insZ p.fs l).1 == 19) = false := by rw [hop]; rfl
  have e0 : ((insZ p.fs l).1 == 0) = false := by rw [hop]; rfl
  have e1 : ((insZ p.fs l).1 == 1) = false := by rw [hop]; rfl
  have e22 : ((insZ p.fs l).1 == 22) = false := by rw [hop]; rfl
  have e23 : ((insZ p.fs l).1 == 23) = false := by rw [hop]; rfl
  have e8 : ((insZ p.fs l).1 == 8) = false := by rw [hop]; rfl
  have e16 : ((insZ p.fs l).1 == 16) = false := by rw [hop]; rfl
  have g23 : decide ((insZ p.fs l).1 > 23) = false := by rw [hop]; rfl
  have g3 : decide ((insZ p.fs l).1 ≥ 3) = false := by rw [hop]; rfl
  have g15 : decide ((insZ p.fs l).1 ≤ 15) = true := by rw [hop]; rfl
  have HV : Hid (vs.length = 1) := Lib.hid (by rw [hvl, hop]; rfl)
  clear ht hpo hvl hp0 hp5 hrg hg0 hg1 hgl hbs hop
  generalize insZ p.fs l = x at *
  rw [hm1] at HAt HGo hlen hcap ⊢
  have k0 : (0 : Int) ≤ (m : Int) := by omega
  have k1 : (m : Int) < ((m + 1 : Nat) : Int) := by omega
  have k2 : (m : Int) < (m : Int) + 1 := by omega
  have hw0 : IntKind.i64.wrap ((m : Int) + 1 - 1) = (m : Int) := by rw [IntKind.wrap_i64]; omega
  have hw1 : IntKind.i64.wrap (m : Int) = (m : Int) := by rw [IntKind.wrap_i64]; omega
  have hwa : IntKind.i64.wrap ((a : Int) + 1) = (a : Int) + 1 := by rw [IntKind.wrap_i64]; omega
  clear hl8 hm1 hv hI hfit h0 hi ha hfn hpc hins hq hnext hqe hF hFc hl27 hm hpcc
  go_enter Tryd.func11, Tryd.ntmps11
  go_upto_region 1 with fail
  refine wp_hold_world (fun W1 HW1 => ?_)
  have h1 := HW1.out
  have hb1 : Below w.heap.size w W1 := by rw [h1]; exact ((Below.refl _ w).alloc (Nat.le_refl _) _).alloc (by rw [World.size_alloc]; omega) _
  have hx1 : W1.heap[w.heap.size]? = some (.cells #[.slice A0 p.ds.length ca, .slice B0 p.ws.length cb, .slice C0 p.fs.length cc] 26 (0, 0)) := by rw [h1]; exact (Below.heap_alloc _ _ _ (by rw [World.size_alloc]; omega)).trans (heap_alloc_new w _)
  obtain ⟨p0, p1, p2, -, -, -⟩ := cells3 hx1
  have HA1 := HAt W1 hb1
  have H1 := Lib.hid h1
  have HB1 := Lib.hid hb1
  clear h1 hb1 hx1 HAt
  go_wp2_with fail
  refine HA1.out.mono ?_
  rintro _ w1 ⟨rfl, hbw⟩
  have m0 := Lib.hid ((Below.heap_alloc (w1.alloc (insO zero)) (efB zE) _ (by rw [World.size_alloc]; omega)).trans (heap_alloc_new w1 (insO zero)))
  have m1 := Lib.hid ((Go.Proofs.YtjbcmedljgafkaaDoor.frames.row_far (insC x).toArray (show (w1.alloc (insO zero)).heap.size ≠ w1.heap.size by rw [World.size_alloc]; omega)).trans (heap_alloc_new (w1.alloc (insO zero)) (efB zE)))
  go_upto_region 2 with (first | refine we_build rfl rfl ?_ | refine wi_alloc rfl rfl ?_ | refine we_alloc rfl rfl ?_ | refine wi_store rfl _ _ rfl w1.heap.size zero x rfl rfl m0.out ?_ | refine we_store rfl _ _ rfl (w1.alloc (insO zero)).heap.size zE noE rfl rfl m1.out ?_)
  simp only [Go.Act.put, List.setIfInBounds_toArray, List.set_cons_zero, List.set_cons_succ, World.size_alloc]
  refine wp_hold_world (fun W2 HW2 => ?_)
  have HZ : Hid (Zd w _ w1.heap.size x W2) := Lib.hid (by rw [HW2.out]; exact zd_new H1.out hbw)
  generalize w1.heap.size = g at *
  clear HW2 m0 m1 hbw p0 p1 p2 H1 HB1 HA1
  have c1 := (HZ.out.below.cell (p := ⟨b, off + m * 27 + 1, none⟩) HPc.out.1).trans HPc.out.2
  have HGo2 := HGo W2 HZ.out.below
  clear HGo
  go_wp2_with fail
  refine HGo2.out.mono ?_
  rintro _ w3 ⟨A1, c3, rfl, hI1, hb3⟩
  have HZ3 := Lib.hid (HZ.out.next hb3)
  have HI1 := Lib.hid hI1
  clear hI1 hb3 HZ HGo2 c1 HPc
  obtain ⟨x0, x1, x2⟩ := ins_cells HZ3.out.b2
  generalize pops x.1 x.2.2 0 = P at *
  go_wp2_with (first | refine wi_load rfl _ rfl g rfl x HZ3.out.b2 ?_)
  refine (HPs _).out.mono ?_
  rintro _ w4 ⟨rfl, hb4⟩
  have HZ4 := Lib.hid (HZ3.out.next hb4)
  have HPo4 := HPo w4 A1 c3 (HI1.out.next hb4)
  clear hb4 x0 x1 x2 HZ3 HI1 HPs HPo
  go_wp2_with fail
  refine HPo4.out.mono ?_
  rintro _ w5 ⟨hb5, A2, c2, B2, d2, rfl, hI2, hN2, -, hB2⟩
  have HZ5 := Lib.hid (HZ4.out.next hb5)
  have HI2 := Lib.hid hI2
  have HN2 := Lib.hid hN2
  have HB2 : Hid (∀ b off, B2 = some ⟨b, off, none⟩ → w.heap.size + 1 < b) := Lib.hid fun b off e => by
    have h1 := hB2 b off e
    have h2 := lt_of_block HZ4.out.b3
    have h3 := HZ4.out.far
    omega
  clear hb5 hI2 hN2 hB2 HZ4 HPo4
  obtain ⟨x0, x1, x2⟩ := ins_cells HZ5.out.b2
  obtain ⟨b2, o2, rfl, hb2, cv⟩ := HN2.out 0 (by have := HV.out; omega)
  rw [Nat.add_zero] at cv
  have HB2' := Lib.hid (HB2.out _ _ rfl)
  have hv0 : (0 : Int) < (vs.length : Int) := by have := HV.out; omega
  generalize vs.getD 0 0 = v0 at *
  go_upto_region 22 with fail
  refine Go.Proofs.YtjbcmedljgafkaaDoor.frames.wp_hold_act (fun a0 HA0 => ?_)
  have z0 : a0.tmps.size = 234 := by rw [HA0.out]; rfl
  have dd0 : a0.defers = [] := by rw [HA0.out]
  have f0_19 : a0.eval (.tmp 19) = .slice A2 rest.length c2 := by rw [HA0.out]; rfl
  have f0_11 : a0.eval (.tmp 11) = .pointer (some ⟨g, 0, none⟩) := by rw [HA0.out]; rfl
  have f0_12 : a0.eval (.tmp 12) = .pointer (some ⟨g + 1, 0, none⟩) := by rw [HA0.out]; rfl
  have f0_9 : a0.eval (.tmp 9) = .pointer (some ⟨w.heap.size + 1, 0, none⟩) := by rw [HA0.out]; rfl
  have f0_20 : a0.eval (.tmp 20) = .slice (some ⟨b2, o2, none⟩) vs.length d2 := by rw [HA0.out]; rfl
  clear HA0
  have RNE : g + 1 ≠ w.heap.size + 1 := by have := HZ5.out.far; omega
  have RNG : g ≠ w.heap.size + 1 := by have := HZ5.out.far; omega
  have RLT : g < w5.drew.heap.size := lt_of_block HZ5.out.b2
  have RNB : b2 ≠ w.heap.size + 1 := by have := HB2'.out; omega
  refine wp_region_held_drew (S := fun w' => w'.cell? ⟨g, 1, none⟩ = some (.int .i64 x.2.1) ∧ w'.heap[g + 1]? = some (efB noE) ∧ Below w.heap.size w w' ∧ w'.cell? ⟨b2, o2, none⟩ = some (.int .i64 v0)) (by kernel_rfl) ⟨x1, HZ5.out.b3, HZ5.out.below.drew, cv⟩ (fun hS => ?_)
  refine wpAnyH_take (i := 0) (v := .slice A2 rest.length c2) rfl (by kernel_rfl) (by kernel_rfl) (by kernel_rfl) (fun _ _ _ h => h) (Go.Proofs.YtjbcmedljgafkaaDoor.frames.yields_move rfl (.tmp 19) rfl f0_19) hS ?_
  obtain ⟨a1, hA1⟩ : ∃ a', a' = a0.put (some 120) (.slice A2 rest.length c2) := ⟨_, rfl⟩
  change wpAnyH _ _ _ _ _ _ _ (a0.put (some 120) (.slice A2 rest.length c2)) _
  rw [← hA1]
  have f1_120 : a1.eval (.tmp 120) = .slice A2 rest.length c2 := by rw [hA1]; exact Act.eval_put_same _ _ _ (by omega)
  have f1_11 : a1.eval (.tmp 11) = .pointer (some ⟨g, 0, none⟩) := by rw [hA1]; exact (Act.eval_put_ne _ _ _ _ (by decide)).trans f0_11
  have f1_12 : a1.eval (.tmp 12) = .pointer (some ⟨g + 1, 0, none⟩) := by rw [hA1]; exact (Act.eval_put_ne _ _ _ _ (by decide)).trans f0_12
  have f1_9 : a1.eval (.tmp 9) = .pointer (some ⟨w.heap.size + 1, 0, none⟩) := by rw [hA1]; exact (Act.eval_put_ne _ _ _ _ (by decide)).trans f0_9
  have f1_20 : a1.eval (.tmp 20) = .slice (some ⟨b2, o2, none⟩) vs.length d2 := by rw [hA1]; exact (Act.eval_put_ne _ _ _ _ (by decide)).trans f0_20
  have z1 : a1.tmps.size = 234 := by rw [hA1, Act.size_put]; exact z0
  have dd1 : a1.defers = [] := by rw [hA1, Act.defers_put']; exact dd0
  clear hA1 z0 dd0 f0_19 f0_11 f0_12 f0_9 f0_20
  refine wpAnyH_take (i := 1) (v := .pointer (some ⟨g, 1, none⟩)) rfl (by kernel_rfl) (by kernel_rfl) (by kernel_rfl) (fun _ _ _ h => h) (yields_fld rfl (.tmp 11) 1 (by decide) rfl _ f1_11) hS ?_
  obtain ⟨a2, hA2⟩ : ∃ a', a' = a1.put (some 121) (.pointer (some ⟨g, 1, none⟩)) := ⟨_, rfl⟩
  change wpAnyH _ _ _ _ _ _ _ (a1.put (some 121) (.pointer (some ⟨g, 1, none⟩))) _
  rw [← hA2]
  have f2_121 : a2.eval (.tmp 121) = .pointer (some ⟨g, 1, none⟩) := by rw [hA2]; exact Act.eval_put_same _ _ _ (by omega)
  have f2_120 : a2.eval (.tmp 120) = .slice A2 rest.length c2 := by rw [hA2]; exact (Act.eval_put_ne _ _ _ _ (by decide)).trans f1_120
  have f2_12 : a2.eval (.tmp 12) = .pointer (some ⟨g + 1, 0, none⟩) := by rw [hA2]; exact (Act.eval_put_ne _ _ _ _ (by decide)).trans f1_12
  have f2_9 : a2.eval (.tmp 9) = .pointer (some ⟨w.heap.size + 1, 0, none⟩) := by rw [hA2]; exact (Act.eval_put_ne _ _ _ _ (by decide)).trans f1_9
  have f2_20 : a2.eval (.tmp 20) = .slice (some ⟨b2, o2, none⟩) vs.length d2 := by rw [hA2]; exact (Act.eval_put_ne _ _ _ _ (by decide)).trans f1_20
  have z2 : a2.tmps.size = 234 := by rw [hA2, Act.size_put]; exact z1
  have dd2 : a2.defers = [] := by rw [hA2, Act.defers_put']; exact dd1
  clear hA2 z1 dd1 f1_120 f1_11 f1_12 f1_9 f1_20
  refine wpAnyH_take (i := 2) (v := .int .i64 x.2.1) rfl (by kernel_rfl) (by kernel_rfl) (by kernel_rfl) (fun _ _ _ h => h) (yields_int rfl (.tmp 121) rfl _ f2_121 _ (fun _ h => h.1)) hS ?_
  obtain ⟨a3, hA3⟩ : ∃ a', a' = a2.put (some 122) (.int .i64 x.2.1) := ⟨_, rfl⟩
  change wpAnyH _ _ _ _ _ _ _ (a2.put (some 122) (.int .i64 x.2.1)) _
  rw [← hA3]
  have f3_122 : a3.eval (.tmp 122) = .int .i64 x.2.1 := by rw [hA3]; exact Act.eval_put_same _ _ _ (by omega)
  have f3_120 : a3.eval (.tmp 120) = .slice A2 rest.length c2 := by rw [hA3]; exact (Act.eval_put_ne _ _ _ _ (by decide)).trans f2_120
  have f3_12 : a3.eval (.tmp 12) = .pointer (some ⟨g + 1, 0, none⟩) := by rw [hA3]; exact (Act.eval_put_ne _ _ _ _ (by decide)).trans f2_12
  have f3_9 : a3.eval (.tmp 9) = .pointer (some ⟨w.heap.size + 1, 0, none⟩) := by rw [hA3]; exact (Act.eval_put_ne _ _ _ _ (by decide)).trans f2_9
  have f3_20 : a3.eval (.tmp 20) = .slice (some ⟨b2, o2, none⟩) vs.length d2 := by rw [hA3]; exact (Act.eval_put_ne _ _ _ _ (by decide)).trans f2_20
  have z3 : a3.tmps.size = 234 := by rw [hA3, Act.size_put]; exact z2
  have dd3 : a3.defers = [] := by rw [hA3, Act.defers_put']; exact dd2
  clear hA3 z2 dd2 f2_121 f2_120 f2_12 f2_9 f2_20
  refine wpAnyH_take (i := 3) (v := .slice (some ⟨b2, o2, none⟩) vs.length d2) rfl (by kernel_rfl) (by kernel_rfl) (by kernel_rfl) (fun _ _ _ h => h) (Go.Proofs.YtjbcmedljgafkaaDoor.frames.yields_move rfl (.tmp 20) rfl f3_20) hS ?_
  obtain ⟨a4, hA4⟩ : ∃ a', a' = a3.put (some 123) (.slice (some ⟨b2, o2, none⟩) vs.length d2) := ⟨_, rfl⟩
  change wpAnyH _ _ _ _ _ _ _ (a3.put (some 123) (.slice (some ⟨b2, o2, none⟩) vs.length d2)) _
  rw [← hA4]
  have f4_123 : a4.eval (.tmp 123) = .slice (some ⟨b2, o2, none⟩) vs.length d2 := by rw [hA4]; exact Act.eval_put_same _ _ _ (by omega)
  have f4_122 : a4.eval (.tmp 122) = .int .i64 x.2.1 := by rw [hA4]; exact (Act.eval_put_ne _ _ _ _ (by decide)).trans f3_122
  have f4_120 : a4.eval (.tmp 120) = .slice A2 rest.length c2 := by rw [hA4]; exact (Act.eval_put_ne _ _ _ _ (by decide)).trans f3_120
  have f4_12 : a4.eval (.tmp 12) = .pointer (some ⟨g + 1, 0, none⟩) := by rw [hA4]; exact (Act.eval_put_ne _ _ _ _ (by decide)).trans f3_12
  have f4_9 : a4.eval (.tmp 9) = .pointer (some ⟨w.heap.size + 1, 0, none⟩) := by rw [hA4]; exact (Act.eval_put_ne _ _ _ _ (by decide)).trans f3_9
  have z4 : a4.tmps.size = 234 := by rw [hA4, Act.size_put]; exact z3
  have dd4 : a4.defers = [] := by rw [hA4, Act.defers_put']; exact dd3
  clear hA4 z3 dd3 f3_122 f3_120 f3_12 f3_9 f3_20
  refine wpAnyH_take (i := 4) (v := .pointer (some ⟨b2, o2, none⟩)) rfl (by kernel_rfl) (by kernel_rfl) (by kernel_rfl) (fun _ _ _ h => h) (yields_at rfl (.tmp 123) 0 rfl _ _ _ _ f4_123 hv0) hS ?_
  obtain ⟨a5, hA5⟩ : ∃ a', a' = a4.put (some 124) (.pointer (some ⟨b2, o2, none⟩)) := ⟨_, rfl⟩
  change wpAnyH _ _ _ _ _ _ _ (a4.put (some 124) (.pointer (some ⟨b2, o2, none⟩))) _
  rw [← hA5]
  have f5_124 : a5.eval (.tmp 124) = .pointer (some ⟨b2, o2, none⟩) := by rw [hA5]; exact Act.eval_put_same _ _ _ (by omega)
  have f5_122 : a5.eval (.tmp 122) = .int .i64 x.2.1 := by rw [hA5]; exact (Act.eval_put_ne _ _ _ _ (by decide)).trans f4_122
  have f5_120 : a5.eval (.tmp 120) = .slice A2 rest.length c2 := by rw [hA5]; exact (Act.eval_put_ne _ _ _ _ (by decide)).trans f4_120
  have f5_12 : a5.eval (.tmp 12) = .pointer (some ⟨g + 1, 0, none⟩) := by rw [hA5]; exact (Act.eval_put_ne _ _ _ _ (by decide)).trans f4_12
  have f5_9 : a5.eval (.tmp 9) = .pointer (some ⟨w.heap.size + 1, 0, none⟩) := by rw [hA5]; exact (Act.eval_put_ne _ _ _ _ (by decide)).trans f4_9
  have z5 : a5.tmps.size = 234 := by rw [hA5, Act.size_put]; exact z4
  have dd5 : a5.defers = [] := by rw [hA5, Act.defers_put']; exact dd4
  clear hA5 z4 dd4 f4_123 f4_122 f4_120 f4_12 f4_9
  refine wpAnyH_take (i := 5) (v := .int .i64 v0) rfl (by kernel_rfl) (by kernel_rfl) (by kernel_rfl) (fun _ _ _ h => h) (yields_int rfl (.tmp 124) rfl _ f5_124 _ (fun _ h => h.2.2.2)) hS ?_
  obtain ⟨a6, hA6⟩ : ∃ a', a' = a5.put (some 125) (.int .i64 v0) := ⟨_, rfl⟩
  change wpAnyH _ _ _ _ _ _ _ (a5.put (some 125) (.int .i64 v0)) _
  rw [← hA6]
  have f6_125 : a6.eval (.tmp 125) = .int .i64 v0 := by rw [hA6]; exact Act.eval_put_same _ _ _ (by omega)
  have f6_122 : a6.eval (.tmp 122) = .int .i64 x.2.1 := by rw [hA6]; exact (Act.eval_put_ne _ _ _ _ (by decide)).trans f5_122
  have f6_120 : a6.eval (.tmp 120) = .slice A2 rest.length c2 := by rw [hA6]; exact (Act.eval_put_ne _ _ _ _ (by decide)).trans f5_120
  have f6_12 : a6.eval (.tmp 12) = .pointer (some ⟨g + 1, 0, none⟩) := by rw [hA6]; exact (Act.eval_put_ne _ _ _ _ (by decide)).trans f5_12
  have f6_9 : a6.eval (.tmp 9) = .pointer (some ⟨w.heap.size + 1, 0, none⟩) := by rw [hA6]; exact (Act.eval_put_ne _ _ _ _ (by decide)).trans f5_9
  have z6 : a6.tmps.size = 234 := by rw [hA6, Act.size_put]; exact z5
  have dd6 : a6.defers = [] := by rw [hA6, Act.defers_put']; exact dd5
  clear hA6 z5 dd5 f5_124 f5_122 f5_120 f5_12 f5_9
  refine wpAnyH_take (i := 7) (v := efV noE) rfl (by kernel_rfl) (by kernel_rfl) (by kernel_rfl) (fun _ _ _ h => h) (yields_ef rfl (.tmp 12) rfl _ f6_12 noE (fun _ h => h.2.1)) hS ?_
  obtain ⟨a7, hA7⟩ : ∃ a', a' = a6.put (some 127) (efV noE) := ⟨_, rfl⟩
  change wpAnyH _ _ _ _ _ _ _ (a6.put (some 127) (efV noE)) _
  rw [← hA7]
  have f7_127 : a7.eval (.tmp 127) = efV noE := by rw [hA7]; exact Act.eval_put_same _ _ _ (by omega)
  have f7_125 : a7.eval (.tmp 125) = .int .i64 v0 := by rw [hA7]; exact (Act.eval_put_ne _ _ _ _ (by decide)).trans f6_125
  have f7_122 : a7.eval (.tmp 122) = .int .i64 x.2.1 := by rw [hA7]; exact (Act.eval_put_ne _ _ _ _ (by decide)).trans f6_122
  have f7_120 : a7.eval (.tmp 120) = .slice A2 rest.length c2 := by rw [hA7]; exact (Act.eval_put_ne _ _ _ _ (by decide)).trans f6_120
  have f7_9 : a7.eval (.tmp 9) = .pointer (some ⟨w.heap.size + 1, 0, none⟩) := by rw [hA7]; exact (Act.eval_put_ne _ _ _ _ (by decide)).trans f6_9
  have z7 : a7.tmps.size = 234 := by rw [hA7, Act.size_put]; exact z6
  have dd7 : a7.defers = [] := by rw [hA7, Act.defers_put']; exact dd6
  clear hA7 z6 dd6 f6_125 f6_122 f6_120 f6_12 f6_9
  refine wpAnyH_ready (rs := [6]) (by kernel_rfl) (by simp) (AllReadyH.cons (by simp only [List.getElem?_toArray, List.getElem?_cons_succ, List.getElem?_cons_zero]; rfl) (fun K hK => ?_) AllReadyH.nil)
  refine step_call (by rfl) 28 #[.tmp 120, .tmp 122, .tmp 125] #[30, 3, 3] (by rfl) #[.slice A2 rest.length c2, .int .i64 x.2.1, .int .i64 v0] (by simp only [List.map_toArray, List.map_cons, List.map_nil, f7_120, f7_122, f7_125]) Tryd.func28 (by kernel_rfl) rfl (Go.Proofs.YtjbcmedljgafkaaDoor.frames.refStore_any A2 c2 rest x.2.1 v0 w5.drew (HI2.out.next (Below.refl _ _).drew)) (fun e w7 hR => ?_)
  obtain ⟨A3, c5, rfl, hI3, hb7⟩ := hR
  have HZ7 := HZ5.out.drew.next hb7
  have RB1 := HZ7.b1
  have HI3 := Lib.hid hI3
  refine ⟨_, rfl, hK.out _ _ ⟨(hb7.cell (p := ⟨g, 1, none⟩) RLT).trans x1, HZ7.b3, HZ7.below, (hb7.cell (p := ⟨b2, o2, none⟩) hb2).trans cv⟩ (fun hS => ?_)⟩
  obtain ⟨a8, hA8⟩ : ∃ a', a' = a7.put (some 126) (.slice A3 (Go.Proofs.YtjbcmedljgafkaaDoor.frames.storeF rest x.2.1 v0).length c5) := ⟨_, rfl⟩
  change wpAnyH _ _ _ _ _ _ _ (a7.put (some 126) (.slice A3 (Go.Proofs.YtjbcmedljgafkaaDoor.frames.storeF rest x.2.1 v0).length c5)) _
  rw [← hA8]
  have f8_126 : a8.eval (.tmp 126) = .slice A3 (Go.Proofs.YtjbcmedljgafkaaDoor.frames.storeF rest x.2.1 v0).length c5 := by rw [hA8]; exact Act.eval_put_same _ _ _ (by omega)
  have f8_127 : a8.eval (.tmp 127) = efV noE := by rw [hA8]; exact (Act.eval_put_ne _ _ _ _ (by decide)).trans f7_127
  have f8_9 : a8.eval (.tmp 9) = .pointer (some ⟨w.heap.size + 1, 0, none⟩) := by rw [hA8]; exact (Act.eval_put_ne _ _ _ _ (by decide)).trans f7_9
  have z8 : a8.tmps.size = 234 := by rw [hA8, Act.size_put]; exact z7
  have dd8 : a8.defers = [] := by rw [hA8, Act.defers_put']; exact dd7
  clear hA8 z7 dd7 f7_127 f7_125 f7_122 f7_120 f7_9
  refine wpAnyH_take (i := 8) (v := .slice A3 (Go.Proofs.YtjbcmedljgafkaaDoor.frames.storeF rest x.2.1 v0).length c5) rfl (by kernel_rfl) (by kernel_rfl) (by kernel_rfl) (fun _ _ _ h => h) (yields_assign rfl (.tmp 126) rfl f8_126) hS ?_
  obtain ⟨a9, hA9⟩ : ∃ a', a' = a8.put (some 8) (.slice A3 (Go.Proofs.YtjbcmedljgafkaaDoor.frames.storeF rest x.2.1 v0).length c5) := ⟨_, rfl⟩
  change wpAnyH _ _ _ _ _ _ _ (a8.put (some 8) (.slice A3 (Go.Proofs.YtjbcmedljgafkaaDoor.frames.storeF rest x.2.1 v0).length c5)) _
  rw [← hA9]
  have f9_8 : a9.eval (.tmp 8) = .slice A3 (Go.Proofs.YtjbcmedljgafkaaDoor.frames.storeF rest x.2.1 v0).length c5 := by rw [hA9]; exact Act.eval_put_same _ _ _ (by omega)
  have f9_127 : a9.eval (.tmp 127) = efV noE := by rw [hA9]; exact (Act.eval_put_ne _ _ _ _ (by decide)).trans f8_127
  have f9_9 : a9.eval (.tmp 9) = .pointer (some ⟨w.heap.size + 1, 0, none⟩) := by rw [hA9]; exact (Act.eval_put_ne _ _ _ _ (by decide)).trans f8_9
  have z9 : a9.tmps.size = 234 := by rw [hA9, Act.size_put]; exact z8
  have dd9 : a9.defers = [] := by rw [hA9, Act.defers_put']; exact dd8
  clear hA9 z8 dd8 f8_126 f8_127 f8_9
  refine wpAnyH_ready (rs := [9]) (by kernel_rfl) (by simp) (AllReadyH.cons (by simp only [List.getElem?_toArray, List.getElem?_cons_succ, List.getElem?_cons_zero]; rfl) (fun K hK => ?_) AllReadyH.nil)
  refine step_ef (by rfl) (.tmp 9) (.tmp 127) (by rfl) (w.heap.size + 1) zE noE f9_9 f9_127 RB1 ?_
  refine hK.out _ _ ⟨(World.cell?_of_block (a := ⟨g, 1, none⟩) (Go.Proofs.YtjbcmedljgafkaaDoor.frames.row_far _ RNG)).trans hS.1, (Go.Proofs.YtjbcmedljgafkaaDoor.frames.row_far _ RNE).trans hS.2.1, Go.Proofs.YtjbcmedljgafkaaDoor.frames.row_below hS.2.2.1 (Nat.le_succ _) _, (World.cell?_of_block (a := ⟨b2, o2, none⟩) (Go.Proofs.YtjbcmedljgafkaaDoor.frames.row_far _ RNB)).trans hS.2.2.2⟩ (fun hS => ?_)
  change wpAnyH _ _ _ _ _ _ _ a9 _
  refine wpAnyH_take (i := 10) (v := .int .i64 0) rfl (by kernel_rfl) (by kernel_rfl) (by kernel_rfl) (fun _ _ _ h => h) (yields_assign rfl _ rfl rfl) hS ?_
  obtain ⟨a10, hA10⟩ : ∃ a', a' = a9.put (some 10) (.int .i64 0) := ⟨_, rfl⟩
  change wpAnyH _ _ _ _ _ _ _ (a9.put (some 10) (.int .i64 0)) _
  rw [← hA10]
  have f10_10 : a10.eval (.tmp 10) = .int .i64 0 := by rw [hA10]; exact Act.eval_put_same _ _ _ (by omega)
  have f10_8 : a10.eval (.tmp 8) = .slice A3 (Go.Proofs.YtjbcmedljgafkaaDoor.frames.storeF rest x.2.1 v0).length c5 := by rw [hA10]; exact (Act.eval_put_ne _ _ _ _ (by decide)).trans f9_8
  have f10_9 : a10.eval (.tmp 9) = .pointer (some ⟨w.heap.size + 1, 0, none⟩) := by rw [hA10]; exact (Act.eval_put_ne _ _ _ _ (by decide)).trans f9_9
  have z10 : a10.tmps.size = 234 := by rw [hA10, Act.size_put]; exact z9
  have dd10 : a10.defers = [] := by rw [hA10, Act.defers_put']; exact dd9
  clear hA10 z9 dd9 f9_8 f9_127 f9_9
  refine wpAnyH_done (by kernel_rfl) ?_ _
  go_wp2_with fail
  exact do_ret HQ.out rfl f10_8 f10_9 f10_10 dd10 (row_turned RB1 _) (in_row HI3.out RB1 (by decide) _) hS.2.2.1

set_option maxRecDepth 100000 in
set_option maxHeartbeats 4000000 in
theorem do_jump (v : Value) (p : Pg) (A : Option Addr) (c : Nat) (l : List Fr) (self now : Int) (w : World) (hv : PAt w v p) (hI : In w A c l) (hm : May p.fs) (hfit : FitL p.fs 0 l) (hop : (insZ p.fs l).1 = 18) :
    Calls Tryd.prog 11 #[v, .slice A l.length c, .int .i64 self, .int .i64 now] w (DoPost (doZ p.fs l self now) w) := by
  obtain ⟨h0, hl8, i, a, hi, ha, hfn, hpc, hins, hchk, ha200⟩ := fit_facts hm hfit
  have HAt := fun W (h : Below w.heap.size w W) => Lib.hid (refAt_any v p A c l W (hv.next h) (hI.next h) h0 hi ha hfn hpc)
  rw [← hins] at HAt
  have HGo := fun W (h : Below w.heap.size w W) => Lib.hid (refGo_any A c l ((a : Int) + 1) W (hI.next h))
  have hqe : doZ p.fs l self now = doZ p.fs l self now := rfl
  obtain ⟨q, hq⟩ : ∃ q, q = doZ p.fs l self now := ⟨_, rfl⟩
  rw [← hq]
  have hnext : nextF l = goF l ((a : Int) + 1) := by unfold nextF; rw [hpc]
  unfold doZ at hq
  rw [hnext] at hq
  dsimp only at hq
  obtain ⟨rest, vs, ht, hpo, hvl, ⟨hp0, hp5⟩, rr, gg, hrg, hg0, hg1, hgl⟩ := fit_take hm hfit (by omega)
  rw [ht] at hq
  dsimp only at hq
  rw [hnext] at hpo
  have hbs := Go.Proofs.YtjbcmedljgafkaaDoor.pgm.dep.b_small hchk
  have HPs : ∀ W, Hid (Calls Tryd.prog 27 #[insV (insZ p.fs l), .int .i64 0] W fun e w' => e = .returned (.int .i64 (pops (insZ p.fs l).1 (insZ p.fs l).2.2 0)) ∧ Below W.heap.size W w') := fun W => Lib.hid (Go.Proofs.YtjbcmedljgafkaaDoor.oper.refPops_any _ _ _ 0 (by omega) (by omega) W)
  have HPo : ∀ W A1 c3, In W A1 c3 (goF l ((a : Int) + 1)) → Hid (Calls Tryd.prog 26 #[.slice A1 (goF l ((a : Int) + 1)).length c3, .int .i64 (pops (insZ p.fs l).1 (insZ p.fs l).2.2 0)] W fun e w' => Below W.heap.size W w' ∧ ∃ A c B d, e = .returned (.tuple #[.slice A rest.length c, .slice B vs.length d, .bool true]) ∧ In w' A c rest ∧ Go.Proofs.YtjbcmedljgafkaaDoor.nums.NAt w' B vs ∧ Go.Proofs.YtjbcmedljgafkaaDoor.frames.Own w' W.heap.size (.slice A rest.length c) rest ∧ ∀ b off, B = some ⟨b, off, none⟩ → W.heap.size ≤ b) := fun W A1 c3 h => Lib.hid (by
    have h1 := Go.Proofs.YtjbcmedljgafkaaDoor.frames.refPopB_any A1 c3 _ (pops (insZ p.fs l).1 (insZ p.fs l).2.2 0) W h
    unfold Go.Proofs.YtjbcmedljgafkaaDoor.frames.PopPostB at h1
    rw [hpo] at h1
    exact h1)
  rw [if_neg (by omega), if_neg (by omega), if_neg (by omega), if_neg (by omega), if_neg (by omega), if_pos (.inl hop)] at hq
  have HQ := Lib.hid hq
  obtain ⟨A0, B0, C0, ca, cb, cc, rfl, -, -, hF⟩ := id hv
  obtain ⟨b, off, m, rfl, hm1, hb, hFc, hl27⟩ := hI.top h0
  have hlen := hI.len
  have hcap := hI.cap
  have HI := Lib.hid hI
  have hpcc := hFc 1 (by omega)
  rw [hpc] at hpcc
  have HPc := Lib.hid (And.intro hb hpcc)
  have HM := Lib.hid hm1
  have e20 : ((insZ p.fs l).1 == 20) = false := by rw [hop]; rfl
  have e21 : ((insZ p.fs l).1 == 21) = false := by rw [hop]; rfl
  have e2 : ((insZ p.fs l).1 == 2) = false := by rw [hop]; rfl
  have e17 : ((insZ p.fs l).1 == 17) = false := by rw [hop]; rfl
  have e18 : ((insZ p.fs l).1 == 18) = true := by rw [hop]; rfl
  have e19 : ((insZ p.fs l).1 == 19) = false := by rw [hop]; rfl
  have e0 : ((insZ p.fs l).1 == 0) = false := by rw [hop]; rfl
  have e1 : ((insZ p.fs l).1 == 1) = false := by rw [hop]; rfl
  have e22 : ((insZ p.fs l).1 == 22) = false := by rw [hop]; rfl
  have e23 : ((insZ p.fs l).1 == 23) = false := by rw [hop]; rfl
  have e8 : ((insZ p.fs l).1 == 8) = false := by rw [hop]; rfl
  have e16 : ((insZ p.fs l).1 == 16) = false := by rw [hop]; rfl
  have g23 : decide ((insZ p.fs l).1 > 23) = false := by rw [hop]; rfl
  have g3 : decide ((insZ p.fs l).1 ≥ 3) = true := by rw [hop]; rfl
  have g15 : decide ((insZ p.fs l).1 ≤ 15) = false := by rw [hop]; rfl
  have HV : Hid (vs.length = (pops (insZ p.fs l).1 (insZ p.fs l).2.2 0).toNat) := Lib.hid hvl
  clear ht hpo hvl hp0 hp5 hrg hg0 hg1 hgl hbs hop
  generalize insZ p.fs l = x at *
  rw [hm1] at HAt HGo hlen hcap ⊢
  have k0 : (0 : Int) ≤ (m : Int) := by omega
  have k1 : (m : Int) < ((m + 1 : Nat) : Int) := by omega
  have k2 : (m : Int) < (m : Int) + 1 := by omega
  have hw0 : IntKind.i64.wrap ((m : Int) + 1 - 1) = (m : Int) := by rw [IntKind.wrap_i64]; omega
  have hw1 : IntKind.i64.wrap (m : Int) = (m : Int) := by rw [IntKind.wrap_i64]; omega
  have hwa : IntKind.i64.wrap ((a : Int) + 1) = (a : Int) + 1 := by rw [IntKind.wrap_i64]; omega
  clear hl8 hm1 hv hI hfit h0 hi ha hfn hpc hins hq hnext hqe hF hFc hl27 hm hpcc
  go_enter Tryd.func11, Tryd.ntmps11
  go_upto_region 1 with fail
  refine wp_hold_world (fun W1 HW1 => ?_)
  have h1 := HW1.out
  have hb1 : Below w.heap.size w W1 := by rw [h1]; exact ((Below.refl _ w).alloc (Nat.le_refl _) _).alloc (by rw [World.size_alloc]; omega) _
  have hx1 : W1.heap[w.heap.size]? = some (.cells #[.slice A0 p.ds.length ca, .slice B0 p.ws.length cb, .slice C0 p.fs.length cc] 26 (0, 0)) := by rw [h1]; exact (Below.heap_alloc _ _ _ (by rw [World.size_alloc]; omega)).trans (heap_alloc_new w _)
  obtain ⟨p0, p1, p2, -, -, -⟩ := cells3 hx1
  have HA1 := HAt W1 hb1
  have H1 := Lib.hid h1
  have HB1 := Lib.hid hb1
  clear h1 hb1 hx1 HAt
  go_wp2_with fail
  refine HA1.out.mono ?_
  rintro _ w1 ⟨rfl, hbw⟩
  have m0 := Lib.hid ((Below.heap_alloc (w1.alloc (insO zero)) (efB zE) _ (by rw [World.size_alloc]; omega)).trans (heap_alloc_new w1 (insO zero)))
  have m1 := Lib.hid ((Go.Proofs.YtjbcmedljgafkaaDoor.frames.row_far (insC x).toArray (show (w1.alloc (insO zero)).heap.size ≠ w1.heap.size by rw [World.size_alloc]; omega)).trans (heap_alloc_new (w1.alloc (insO zero)) (efB zE)))
  go_upto_region 2 with (first | refine we_build rfl rfl ?_ | refine wi_alloc rfl rfl ?_ | refine we_alloc rfl rfl ?_ | refine wi_store rfl _ _ rfl w1.heap.size zero x rfl rfl m0.out ?_ | refine we_store rfl _ _ rfl (w1.alloc (insO zero)).heap.size zE noE rfl rfl m1.out ?_)
  simp only [Go.Act.put, List.setIfInBounds_toArray, List.set_cons_zero, List.set_cons_succ, World.size_alloc]
  refine wp_hold_world (fun W2 HW2 => ?_)
  have HZ : Hid (Zd w _ w1.heap.size x W2) := Lib.hid (by rw [HW2.out]; exact zd_new H1.out hbw)
  generalize w1.heap.size = g at *
  clear HW2 m0 m1 hbw p0 p1 p2 H1 HB1 HA1
  have c1 := (HZ.out.below.cell (p := ⟨b, off + m * 27 + 1, none⟩) HPc.out.1).trans HPc.out.2
  have HGo2 := HGo W2 HZ.out.below
  clear HGo
  go_wp2_with fail
  refine HGo2.out.mono ?_
  rintro _ w3 ⟨A1, c3, rfl, hI1, hb3⟩
  have HZ3 := Lib.hid (HZ.out.next hb3)
  have HI1 := Lib.hid hI1
  clear hI1 hb3 HZ HGo2 c1 HPc
  obtain ⟨x0, x1, x2⟩ := ins_cells HZ3.out.b2
  generalize pops x.1 x.2.2 0 = P at *
  go_wp2_with (first | refine wi_load rfl _ rfl g rfl x HZ3.out.b2 ?_)
  refine (HPs _).out.mono ?_
  rintro _ w4 ⟨rfl, hb4⟩
  have HZ4 := Lib.hid (HZ3.out.next hb4)
  have HPo4 := HPo w4 A1 c3 (HI1.out.next hb4)
  clear hb4 x0 x1 x2 HZ3 HI1 HPs HPo
  go_wp2_with fail
  refine HPo4.out.mono ?_
  rintro _ w5 ⟨hb5, A2, c2, B2, d2, rfl, hI2, hN2, -, hB2⟩
  have HZ5 := Lib.hid (HZ4.out.next hb5)
  have HI2 := Lib.hid hI2
  have HN2 := Lib.hid hN2
  have HB2 : Hid (∀ b off, B2 = some ⟨b, off, none⟩ → w.heap.size + 1 < b) := Lib.hid fun b off e => by
    have h1 := hB2 b off e
    have h2 := lt_of_block HZ4.out.b3
    have h3 := HZ4.out.far
    omega
  clear hb5 hI2 hN2 hB2 HZ4 HPo4
  obtain ⟨x0, x1, x2⟩ := ins_cells HZ5.out.b2
  go_upto_region 26 with fail
  refine Go.Proofs.YtjbcmedljgafkaaDoor.frames.wp_hold_act (fun a0 HA0 => ?_)
  have z0 : a0.tmps.size = 234 := by rw [HA0.out]; rfl
  have dd0 : a0.defers = [] := by rw [HA0.out]
  have f0_19 : a0.eval (.tmp 19) = .slice A2 rest.length c2 := by rw [HA0.out]; rfl
  have f0_11 : a0.eval (.tmp 11) = .pointer (some ⟨g, 0, none⟩) := by rw [HA0.out]; rfl
  have f0_12 : a0.eval (.tmp 12) = .pointer (some ⟨g + 1, 0, none⟩) := by rw [HA0.out]; rfl
  have f0_9 : a0.eval (.tmp 9) = .pointer (some ⟨w.heap.size + 1, 0, none⟩) := by rw [HA0.out]; rfl
  clear HA0
  have RNE : g + 1 ≠ w.heap.size + 1 := by have := HZ5.out.far; omega
  have RNG : g ≠ w.heap.size + 1 := by have := HZ5.out.far; omega
  have RLT : g < w5.drew.heap.size := lt_of_block HZ5.out.b2
  refine wp_region_held_drew (S := fun w' => w'.cell? ⟨g, 1, none⟩ = some (.int .i64 x.2.1) ∧ w'.heap[g + 1]? = some (efB noE) ∧ Below w.heap.size w w') (by kernel_rfl) ⟨x1, HZ5.out.b3, HZ5.out.below.drew⟩ (fun hS => ?_)
  refine wpAnyH_take (i := 0) (v := .slice A2 rest.length c2) rfl (by kernel_rfl) (by kernel_rfl) (by kernel_rfl) (fun _ _ _ h => h) (Go.Proofs.YtjbcmedljgafkaaDoor.frames.yields_move rfl (.tmp 19) rfl f0_19) hS ?_
  obtain ⟨a1, hA1⟩ : ∃ a', a' = a0.put (some 147) (.slice A2 rest.length c2) := ⟨_, rfl⟩
  change wpAnyH _ _ _ _ _ _ _ (a0.put (some 147) (.slice A2 rest.length c2)) _
  rw [← hA1]
  have f1_147 : a1.eval (.tmp 147) = .slice A2 rest.length c2 := by rw [hA1]; exact Act.eval_put_same _ _ _ (by omega)
  have f1_11 : a1.eval (.tmp 11) = .pointer (some ⟨g, 0, none⟩) := by rw [hA1]; exact (Act.eval_put_ne _ _ _ _ (by decide)).trans f0_11
  have f1_12 : a1.eval (.tmp 12) = .pointer (some ⟨g + 1, 0, none⟩) := by rw [hA1]; exact (Act.eval_put_ne _ _ _ _ (by decide)).trans f0_12
  have f1_9 : a1.eval (.tmp 9) = .pointer (some ⟨w.heap.size + 1, 0, none⟩) := by rw [hA1]; exact (Act.eval_put_ne _ _ _ _ (by decide)).trans f0_9
  have z1 : a1.tmps.size = 234 := by rw [hA1, Act.size_put]; exact z0
  have dd1 : a1.defers = [] := by rw [hA1, Act.defers_put']; exact dd0
  clear hA1 z0 dd0 f0_19 f0_11 f0_12 f0_9
  refine wpAnyH_take (i := 1) (v := .pointer (some ⟨g, 1, none⟩)) rfl (by kernel_rfl) (by kernel_rfl) (by kernel_rfl) (fun _ _ _ h => h) (yields_fld rfl (.tmp 11) 1 (by decide) rfl _ f1_11) hS ?_
  obtain ⟨a2, hA2⟩ : ∃ a', a' = a1.put (some 148) (.pointer (some ⟨g, 1, none⟩)) := ⟨_, rfl⟩
  change wpAnyH _ _ _ _ _ _ _ (a1.put (some 148) (.pointer (some ⟨g, 1, none⟩))) _
  rw [← hA2]
  have f2_148 : a2.eval (.tmp 148) = .pointer (some ⟨g, 1, none⟩) := by rw [hA2]; exact Act.eval_put_same _ _ _ (by omega)
  have f2_147 : a2.eval (.tmp 147) = .slice A2 rest.length c2 := by rw [hA2]; exact (Act.eval_put_ne _ _ _ _ (by decide)).trans f1_147
  have f2_12 : a2.eval (.tmp 12) = .pointer (some ⟨g + 1, 0, none⟩) := by rw [hA2]; exact (Act.eval_put_ne _ _ _ _ (by decide)).trans f1_12
  have f2_9 : a2.eval (.tmp 9) = .pointer (some ⟨w.heap.size + 1, 0, none⟩) := by rw [hA2]; exact (Act.eval_put_ne _ _ _ _ (by decide)).trans f1_9
  have z2 : a2.tmps.size = 234 := by rw [hA2, Act.size_put]; exact z1
  have dd2 : a2.defers = [] := by rw [hA2, Act.defers_put']; exact dd1
  clear hA2 z1 dd1 f1_147 f1_11 f1_12 f1_9
  refine wpAnyH_take (i := 2) (v := .int .i64 x.2.1) rfl (by kernel_rfl) (by kernel_rfl) (by kernel_rfl) (fun _ _ _ h => h) (yields_int rfl (.tmp 148) rfl _ f2_148 _ (fun _ h => h.1)) hS ?_
  obtain ⟨a3, hA3⟩ : ∃ a', a' = a2.put (some 149) (.int .i64 x.2.1) := ⟨_, rfl⟩
  change wpAnyH _ _ _ _ _ _ _ (a2.put (some 149) (.int .i64 x.2.1)) _
  rw [← hA3]
  have f3_149 : a3.eval (.tmp 149) = .int .i64 x.2.1 := by rw [hA3]; exact Act.eval_put_same _ _ _ (by omega)
  have f3_147 : a3.eval (.tmp 147) = .slice A2 rest.length c2 := by rw [hA3]; exact (Act.eval_put_ne _ _ _ _ (by decide)).trans f2_147
  have f3_12 : a3.eval (.tmp 12) = .pointer (some ⟨g + 1, 0, none⟩) := by rw [hA3]; exact (Act.eval_put_ne _ _ _ _ (by decide)).trans f2_12
  have f3_9 : a3.eval (.tmp 9) = .pointer (some ⟨w.heap.size + 1, 0, none⟩) := by rw [hA3]; exact (Act.eval_put_ne _ _ _ _ (by decide)).trans f2_9
  have z3 : a3.tmps.size = 234 := by rw [hA3, Act.size_put]; exact z2
  have dd3 : a3.defers = [] := by rw [hA3, Act.defers_put']; exact dd2
  clear hA3 z2 dd2 f2_148 f2_147 f2_12 f2_9
  refine wpAnyH_take (i := 4) (v := efV noE) rfl (by kernel_rfl) (by kernel_rfl) (by kernel_rfl) (fun _ _ _ h => h) (yields_ef rfl (.tmp 12) rfl _ f3_12 noE (fun _ h => h.2.1)) hS ?_
  obtain ⟨a4, hA4⟩ : ∃ a', a' = a3.put (some 151) (efV noE) := ⟨_, rfl⟩
  change wpAnyH _ _ _ _ _ _ _ (a3.put (some 151) (efV noE)) _
  rw [← hA4]
  have f4_151 : a4.eval (.tmp 151) = efV noE := by rw [hA4]; exact Act.eval_put_same _ _ _ (by omega)
  have f4_149 : a4.eval (.tmp 149) = .int .i64 x.2.1 := by rw [hA4]; exact (Act.eval_put_ne _ _ _ _ (by decide)).trans f3_149
  have f4_147 : a4.eval (.tmp 147) = .slice A2 rest.length c2 := by rw [hA4]; exact (Act.eval_put_ne _ _ _ _ (by decide)).trans f3_147
  have f4_9 : a4.eval (.tmp 9) = .pointer (some ⟨w.heap.size + 1, 0, none⟩) := by rw [hA4]; exact (Act.eval_put_ne _ _ _ _ (by decide)).trans f3_9
  have z4 : a4.tmps.size = 234 := by rw [hA4, Act.size_put]; exact z3
  have dd4 : a4.defers = [] := by rw [hA4, Act.defers_put']; exact dd3
  clear hA4 z3 dd3 f3_149 f3_147 f3_12 f3_9
  refine wpAnyH_ready (rs := [3]) (by kernel_rfl) (by simp) (AllReadyH.cons (by simp only [List.getElem?_toArray, List.getElem?_cons_succ, List.getElem?_cons_zero]; rfl) (fun K hK => ?_) AllReadyH.nil)
  refine step_call (by rfl) 23 #[.tmp 147, .tmp 149] #[30, 3] (by rfl) #[.slice A2 rest.length c2, .int .i64 x.2.1] (by simp only [List.map_toArray, List.map_cons, List.map_nil, f4_147, f4_149]) Tryd.func23 (by kernel_rfl) rfl (Go.Proofs.YtjbcmedljgafkaaDoor.frames.refGo_any A2 c2 rest x.2.1 w5.drew (HI2.out.next (Below.refl _ _).drew)) (fun e w7 hR => ?_)
  obtain ⟨A3, c5, rfl, hI3, hb7⟩ := hR
  have HZ7 := HZ5.out.drew.next hb7
  have RB1 := HZ7.b1
  have HI3 := Lib.hid hI3
  refine ⟨_, rfl, hK.out _ _ ⟨(hb7.cell (p := ⟨g, 1, none⟩) RLT).trans x1, HZ7.b3, HZ7.below⟩ (fun hS => ?_)⟩
  obtain ⟨a5, hA5⟩ : ∃ a', a' = a4.put (some 150) (.slice A3 (Go.Proofs.YtjbcmedljgafkaaDoor.frames.goF rest x.2.1).length c5) := ⟨_, rfl⟩
  change wpAnyH _ _ _ _ _ _ _ (a4.put (some 150) (.slice A3 (Go.Proofs.YtjbcmedljgafkaaDoor.frames.goF rest x.2.1).length c5)) _
  rw [← hA5]
  have f5_150 : a5.eval (.tmp 150) = .slice A3 (Go.Proofs.YtjbcmedljgafkaaDoor.frames.goF rest x.2.1).length c5 := by rw [hA5]; exact Act.eval_put_same _ _ _ (by omega)
  have f5_151 : a5.eval (.tmp 151) = efV noE := by rw [hA5]; exact (Act.eval_put_ne _ _ _ _ (by decide)).trans f4_151
  have f5_9 : a5.eval (.tmp 9) = .pointer (some ⟨w.heap.size + 1, 0, none⟩) := by rw [hA5]; exact (Act.eval_put_ne _ _ _ _ (by decide)).trans f4_9
  have z5 : a5.tmps.size = 234 := by rw [hA5, Act.size_put]; exact z4
  have dd5 : a5.defers = [] := by rw [hA5, Act.defers_put']; exact dd4
  clear hA5 z4 dd4 f4_151 f4_149 f4_147 f4_9
  refine wpAnyH_take (i := 5) (v := .slice A3 (Go.Proofs.YtjbcmedljgafkaaDoor.frames.goF rest x.2.1).length c5) rfl (by kernel_rfl) (by kernel_rfl) (by kernel_rfl) (fun _ _ _ h => h) (yields_assign rfl (.tmp 150) rfl f5_150) hS ?_
  obtain ⟨a6, hA6⟩ : ∃ a', a' = a5.put (some 8) (.slice A3 (Go.Proofs.YtjbcmedljgafkaaDoor.frames.goF rest x.2.1).length c5) := ⟨_, rfl⟩
  change wpAnyH _ _ _ _ _ _ _ (a5.put (some 8) (.slice A3 (Go.Proofs.YtjbcmedljgafkaaDoor.frames.goF rest x.2.1).length c5)) _
  rw [← hA6]
  have f6_8 : a6.eval (.tmp 8) = .slice A3 (Go.Proofs.YtjbcmedljgafkaaDoor.frames.goF rest x.2.1).length c5 := by rw [hA6]; exact Act.eval_put_same _ _ _ (by omega)
  have f6_151 : a6.eval (.tmp 151) = efV noE := by rw [hA6]; exact (Act.eval_put_ne _ _ _ _ (by decide)).trans f5_151
  have f6_9 : a6.eval (.tmp 9) = .pointer (some ⟨w.heap.size + 1, 0, none⟩) := by rw [hA6]; exact (Act.eval_put_ne _ _ _ _ (by decide)).trans f5_9
  have z6 : a6.tmps.size = 234 := by rw [hA6, Act.size_put]; exact z5
  have dd6 : a6.defers = [] := by rw [hA6, Act.defers_put']; exact dd5
  clear hA6 z5 dd5 f5_150 f5_151 f5_9
  refine wpAnyH_ready (rs := [6]) (by kernel_rfl) (by simp) (AllReadyH.cons (by simp only [List.getElem?_toArray, List.getElem?_cons_succ, List.getElem?_cons_zero]; rfl) (fun K hK => ?_) AllReadyH.nil)
  refine step_ef (by rfl) (.tmp 9) (.tmp 151) (by rfl) (w.heap.size + 1) zE noE f6_9 f6_151 RB1 ?_
  refine hK.out _ _ ⟨(World.cell?_of_block (a := ⟨g, 1, none⟩) (Go.Proofs.YtjbcmedljgafkaaDoor.frames.row_far _ RNG)).trans hS.1, (Go.Proofs.YtjbcmedljgafkaaDoor.frames.row_far _ RNE).trans hS.2.1, Go.Proofs.YtjbcmedljgafkaaDoor.frames.row_below hS.2.2 (Nat.le_succ _) _⟩ (fun hS => ?_)
  change wpAnyH _ _ _ _ _ _ _ a6 _
  refine wpAnyH_take (i := 7) (v := .int .i64 0) rfl (by kernel_rfl) (by kernel_rfl) (by kernel_rfl) (fun _ _ _ h => h) (yields_assign rfl _ rfl rfl) hS ?_
  obtain ⟨a7, hA7⟩ : ∃ a', a' = a6.put (some 10) (.int .i64 0) := ⟨_, rfl⟩
  change wpAnyH _ _ _ _ _ _ _ (a6.put (some 10) (.int .i64 0)) _
  rw [← hA7]
  have f7_10 : a7.eval (.tmp 10) = .int .i64 0 := by rw [hA7]; exact Act.eval_put_same _ _ _ (by omega)
  have f7_8 : a7.eval (.tmp 8) = .slice A3 (Go.Proofs.YtjbcmedljgafkaaDoor.frames.goF rest x.2.1).length c5 := by rw [hA7]; exact (Act.eval_put_ne _ _ _ _ (by decide)).trans f6_8
  have f7_9 : a7.eval (.tmp 9) = .pointer (some ⟨w.heap.size + 1, 0, none⟩) := by rw [hA7]; exact (Act.eval_put_ne _ _ _ _ (by decide)).trans f6_9
  have z7 : a7.tmps.size = 234 := by rw [hA7, Act.size_put]; exact z6
  have dd7 : a7.defers = [] := by rw [hA7, Act.defers_put']; exact dd6
  clear hA7 z6 dd6 f6_8 f6_151 f6_9
  refine wpAnyH_done (by kernel_rfl) ?_ _
  go_wp2_with fail
  exact do_ret HQ.out rfl f7_8 f7_9 f7_10 dd7 (row_turned RB1 _) (in_row HI3.out RB1 (by decide) _) hS.2.2

set_option maxRecDepth 100000 in
set_option maxHeartbeats 4000000 in
theorem do_zero (v : Value) (p : Pg) (A : Option Addr) (c : Nat) (l : List Fr) (self now : Int) (w : World) (hv : PAt w v p) (hI : In w A c l) (hm : May p.fs) (hfit : FitL p.fs 0 l) (hop : (insZ p.fs l).1 = 19) :
    Calls Tryd.prog 11 #[v, .slice A l.length c, .int .i64 self, .int .i64 now] w (DoPost (doZ p.fs l self now) w) := by
  obtain ⟨h0, hl8, i, a, hi, ha, hfn, hpc, hins, hchk, ha200⟩ := fit_facts hm hfit
  have HAt := fun W (h : Below w.heap.size w W) => Lib.hid (refAt_any v p A c l W (hv.next h) (hI.next h) h0 hi ha hfn hpc)
  rw [← hins] at HAt
  have HGo := fun W (h : Below w.heap.size w W) => Lib.hid (refGo_any A c l ((a : Int) + 1) W (hI.next h))
  have hqe : doZ p.fs l self now = doZ p.fs l self now := rfl
  obtain ⟨q, hq⟩ : ∃ q, q = doZ p.fs l self now := ⟨_, rfl⟩
  rw [← hq]
  have hnext : nextF l = goF l ((a : Int) + 1) := by unfold nextF; rw [hpc]
  unfold doZ at hq
  rw [hnext] at hq
  dsimp only at hq
  obtain ⟨rest, vs, ht, hpo, hvl, ⟨hp0, hp5⟩, rr, gg, hrg, hg0, hg1, hgl⟩ := fit_take hm hfit (by omega)
  rw [ht] at hq
  dsimp only at hq
  rw [hnext] at hpo
  have hbs := Go.Proofs.YtjbcmedljgafkaaDoor.pgm.dep.b_small hchk
  have HPs : ∀ W, Hid (Calls Tryd.prog 27 #[insV (insZ p.fs l), .int .i64 0] W fun e w' => e = .returned (.int .i64 (pops (insZ p.fs l).1 (insZ p.fs l).2.2 0)) ∧ Below W.heap.size W w') := fun W => Lib.hid (Go.Proofs.YtjbcmedljgafkaaDoor.oper.refPops_any _ _ _ 0 (by omega) (by omega) W)
  have HPo : ∀ W A1 c3, In W A1 c3 (goF l ((a : Int) + 1)) → Hid (Calls Tryd.prog 26 #[.slice A1 (goF l ((a : Int) + 1)).length c3, .int .i64 (pops (insZ p.fs l).1 (insZ p.fs l).2.2 0)] W fun e w' => Below W.heap.size W w' ∧ ∃ A c B d, e = .returned (.tuple #[.slice A rest.length c, .slice B vs.length d, .bool true]) ∧ In w' A c rest ∧ Go.Proofs.YtjbcmedljgafkaaDoor.nums.NAt w' B vs ∧ Go.Proofs.YtjbcmedljgafkaaDoor.frames.Own w' W.heap.size (.slice A rest.length c) rest ∧ ∀ b off, B = some ⟨b, off, none⟩ → W.heap.size ≤ b) := fun W A1 c3 h => Lib.hid (by
    have h1 := Go.Proofs.YtjbcmedljgafkaaDoor.frames.refPopB_any A1 c3 _ (pops (insZ p.fs l).1 (insZ p.fs l).2.2 0) W h
    unfold Go.Proofs.YtjbcmedljgafkaaDoor.frames.PopPostB at h1
    rw [hpo] at h1
    exact h1)
  rw [if_neg (by omega), if_neg (by omega), if_neg (by omega), if_neg (by omega), if_neg (by omega)] at hq
  have HQ := Lib.hid hq
  obtain ⟨A0, B0, C0, ca, cb, cc, rfl, -, -, hF⟩ := id hv
  obtain ⟨b, off, m, rfl, hm1, hb, hFc, hl27⟩ := hI.top h0
  have hlen := hI.len
  have hcap := hI.cap
  have HI := Lib.hid hI
  have hpcc := hFc 1 (by omega)
  rw [hpc] at hpcc
  have HPc := Lib.hid (And.intro hb hpcc)
  have HM := Lib.hid hm1
  have e20 : ((insZ p.fs l).1 == 20) = false := by rw [hop]; rfl
  have e21 : ((insZ p.fs l).1 == 21) = false := by rw [hop]; rfl
  have e2 : ((insZ p.fs l).1 == 2) = false := by rw [hop]; rfl
  have e17 : ((insZ p.fs l).1 == 17) = false := by rw [hop]; rfl
  have e18 : ((insZ p.fs l).1 == 18) = false := by rw [hop]; rfl
  have e19 : ((insZ p.fs l).1 == 19) = true := by rw [hop]; rfl
  have e0 : ((insZ p.fs l).1 == 0) = false := by rw [hop]; rfl
  have e1 : ((insZ p.fs l).1 == 1) = false := by rw [hop]; rfl
  have e22 : ((insZ p.fs l).1 == 22) = false := by rw [hop]; rfl
  have e23 : ((insZ p.fs l).1 == 23) = false := by rw [hop]; rfl
  have e8 : ((insZ p.fs l).1 == 8) = false := by rw [hop]; rfl
  have e16 : ((insZ p.fs l).1 == 16) = false := by rw [hop]; rfl
  have g23 : decide ((insZ p.fs l).1 > 23) = false := by rw [hop]; rfl
  have g3 : decide ((insZ p.fs l).1 ≥ 3) = true := by rw [hop]; rfl
  have g15 : decide ((insZ p.fs l).1 ≤ 15) = false := by rw [hop]; rfl
  have HQ1 : Hid (vs.getD 0 0 = 0 → q = (goF rest (insZ p.fs l).2.1, noE, 0)) := Lib.hid fun e => by rw [hq, if_pos (.inr ⟨hop, e⟩)]
  have HQ2 : Hid (vs.getD 0 0 ≠ 0 → q = (rest, noE, 0)) := Lib.hid fun e => by rw [hq, if_neg (by rintro (h | h); omega; exact e h.2), if_pos hop]
  have HV : Hid (vs.length = 1) := Lib.hid (by rw [hvl, hop]; rfl)
  clear ht hpo hvl hp0 hp5 hrg hg0 hg1 hgl hbs hop
  generalize insZ p.fs l = x at *
  rw [hm1] at HAt HGo hlen hcap ⊢
  have k0 : (0 : Int) ≤ (m : Int) := by omega
  have k1 : (m : Int) < ((m + 1 : Nat) : Int) := by omega
  have k2 : (m : Int) < (m : Int) + 1 := by omega
  have hw0 : IntKind.i64.wrap ((m : Int) + 1 - 1) = (m : Int) := by rw [IntKind.wrap_i64]; omega
  have hw1 : IntKind.i64.wrap (m : Int) = (m : Int) := by rw [IntKind.wrap_i64]; omega
  have hwa : IntKind.i64.wrap ((a : Int) + 1) = (a : Int) + 1 := by rw [IntKind.wrap_i64]; omega
  clear hl8 hm1 hv hI hfit h0 hi ha hfn hpc hins hq hnext hqe hF hFc hl27 hm hpcc
  go_enter Tryd.func11, Tryd.ntmps11
  go_upto_region 1 with fail
  refine wp_hold_world (fun W1 HW1 => ?_)
  have h1 := HW1.out
  have hb1 : Below w.heap.size w W1 := by rw [h1]; exact ((Below.refl _ w).alloc (Nat.le_refl _) _).alloc (by rw [World.size_alloc]; omega) _
  have hx1 : W1.heap[w.heap.size]? = some (.cells #[.slice A0 p.ds.length ca, .slice B0 p.ws.length cb, .slice C0 p.fs.length cc] 26 (0, 0)) := by rw [h1]; exact (Below.heap_alloc _ _ _ (by rw [World.size_alloc]; omega)).trans (heap_alloc_new w _)
  obtain ⟨p0, p1, p2, -, -, -⟩ := cells3 hx1
  have HA1 := HAt W1 hb1
  have H1 := Lib.hid h1
  have HB1 := Lib.hid hb1
  clear h1 hb1 hx1 HAt
  go_wp2_with fail
  refine HA1.out.mono ?_
  rintro _ w1 ⟨rfl, hbw⟩
  have m0 := Lib.hid ((Below.heap_alloc (w1.alloc (insO zero)) (efB zE) _ (by rw [World.size_alloc]; omega)).trans (heap_alloc_new w1 (insO zero)))
  have m1 := Lib.hid ((Go.Proofs.YtjbcmedljgafkaaDoor.frames.row_far (insC x).toArray (show (w1.alloc (insO zero)).heap.size ≠ w1.heap.size by rw [World.size_alloc]; omega)).trans (heap_alloc_new (w1.alloc (insO zero)) (efB zE)))
  go_upto_region 2 with (first | refine we_build rfl rfl ?_ | refine wi_alloc rfl rfl ?_ | refine we_alloc rfl rfl ?_ | refine wi_store rfl _ _ rfl w1.heap.size zero x rfl rfl m0.out ?_ | refine we_store rfl _ _ rfl (w1.alloc (insO zero)).heap.size zE noE rfl rfl m1.out ?_)
  simp only [Go.Act.put, List.setIfInBounds_toArray, List.set_cons_zero, List.set_cons_succ, World.size_alloc]
  refine wp_hold_world (fun W2 HW2 => ?_)
  have HZ : Hid (Zd w _ w1.heap.size x W2) := Lib.hid (by rw [HW2.out]; exact zd_new H1.out hbw)
  generalize w1.heap.size = g at *
  clear HW2 m0 m1 hbw p0 p1 p2 H1 HB1 HA1
  have c1 := (HZ.out.below.cell (p := ⟨b, off + m * 27 + 1, none⟩) HPc.out.1).trans HPc.out.2
  have HGo2 := HGo W2 HZ.out.below
  clear HGo
  go_wp2_with fail
  refine HGo2.out.mono ?_
  rintro _ w3 ⟨A1, c3, rfl, hI1, hb3⟩
  have HZ3 := Lib.hid (HZ.out.next hb3)
  have HI1 := Lib.hid hI1
  clear hI1 hb3 HZ HGo2 c1 HPc
  obtain ⟨x0, x1, x2⟩ := ins_cells HZ3.out.b2
  generalize pops x.1 x.2.2 0 = P at *
  go_wp2_with (first | refine wi_load rfl _ rfl g rfl x HZ3.out.b2 ?_)
  refine (HPs _).out.mono ?_
  rintro _ w4 ⟨rfl, hb4⟩
  have HZ4 := Lib.hid (HZ3.out.next hb4)
  have HPo4 := HPo w4 A1 c3 (HI1.out.next hb4)
  clear hb4 x0 x1 x2 HZ3 HI1 HPs HPo
  go_wp2_with fail
  refine HPo4.out.mono ?_
  rintro _ w5 ⟨hb5, A2, c2, B2, d2, rfl, hI2, hN2, -, hB2⟩
  have HZ5 := Lib.hid (HZ4.out.next hb5)
  have HI2 := Lib.hid hI2
  have HN2 := Lib.hid hN2
  have HB2 : Hid (∀ b off, B2 = some ⟨b, off, none⟩ → w.heap.size + 1 < b) := Lib.hid fun b off e => by
    have h1 := hB2 b off e
    have h2 := lt_of_block HZ4.out.b3
    have h3 := HZ4.out.far
    omega
  clear hb5 hI2 hN2 hB2 HZ4 HPo4
  obtain ⟨x0, x1, x2⟩ := ins_cells HZ5.out.b2
  obtain ⟨b2, o2, rfl, hb2, cv⟩ := HN2.out 0 (by have := HV.out; omega)
  rw [Nat.add_zero] at cv
  have HB2' := Lib.hid (HB2.out _ _ rfl)
  have hv0 : (0 : Int) < (vs.length : Int) := by have := HV.out; omega
  generalize vs.getD 0 0 = v0 at *
  by_cases hz : v0 = 0
  · have ez : (v0 == 0) = true := by simpa using hz
    have HQz := Lib.hid (HQ1.out hz)
    clear hz
    go_upto_region 26 with fail
    refine Go.Proofs.YtjbcmedljgafkaaDoor.frames.wp_hold_act (fun a0 HA0 => ?_)
    have z0 : a0.tmps.size = 234 := by rw [HA0.out]; rfl
    have dd0 : a0.defers = [] := by rw [HA0.out]
    have f0_19 : a0.eval (.tmp 19) = .slice A2 rest.length c2 := by rw [HA0.out]; rfl
    have f0_11 : a0.eval (.tmp 11) = .pointer (some ⟨g, 0, none⟩) := by rw [HA0.out]; rfl
    have f0_12 : a0.eval (.tmp 12) = .pointer (some ⟨g + 1, 0, none⟩) := by rw [HA0.out]; rfl
    have f0_9 : a0.eval (.tmp 9) = .pointer (some ⟨w.heap.size + 1, 0, none⟩) := by rw [HA0.out]; rfl
    clear HA0
    have RNE : g + 1 ≠ w.heap.size + 1 := by have := HZ5.out.far; omega
    have RNG : g ≠ w.heap.size + 1 := by have := HZ5.out.far; omega
    have RLT : g < w5.drew.heap.size := lt_of_block HZ5.out.b2
    refine wp_region_held_drew (S := fun w' => w'.cell? ⟨g, 1, none⟩ = some (.int .i64 x.2.1) ∧ w'.heap[g + 1]? = some (efB noE) ∧ Below w.heap.size w w') (by kernel_rfl) ⟨x1, HZ5.out.b3, HZ5.out.below.drew⟩ (fun hS => ?_)
    refine wpAnyH_take (i := 0) (v := .slice A2 rest.length c2) rfl (by kernel_rfl) (by kernel_rfl) (by kernel_rfl) (fun _ _ _ h => h) (Go.Proofs.YtjbcmedljgafkaaDoor.frames.yields_move rfl (.tmp 19) rfl f0_19) hS ?_
    obtain ⟨a1, hA1⟩ : ∃ a', a' = a0.put (some 147) (.slice A2 rest.length c2) := ⟨_, rfl⟩
    change wpAnyH _ _ _ _ _ _ _ (a0.put (some 147) (.slice A2 rest.length c2)) _
    rw [← hA1]
    have f1_147 : a1.eval (.tmp 147) = .slice A2 rest.length c2 := by rw [hA1]; exact Act.eval_put_same _ _ _ (by omega)
    have f1_11 : a1.eval (.tmp 11) = .pointer (some ⟨g, 0, none⟩) := by rw [hA1]; exact (Act.eval_put_ne _ _ _ _ (by decide)).trans f0_11
    have f1_12 : a1.eval (.tmp 12) = .pointer (some ⟨g + 1, 0, none⟩) := by rw [hA1]; exact (Act.eval_put_ne _ _ _ _ (by decide)).trans f0_12
    have f1_9 : a1.eval (.tmp 9) = .pointer (some ⟨w.heap.size + 1, 0, none⟩) := by rw [hA1]; exact (Act.eval_put_ne _ _ _ _ (by decide)).trans f0_9
    have z1 : a1.tmps.size = 234 := by rw [hA1, Act.size_put]; exact z0
    have dd1 : a1.defers = [] := by rw [hA1, Act.defers_put']; exact dd0
    clear hA1 z0 dd0 f0_19 f0_11 f0_12 f0_9
    refine wpAnyH_take (i := 1) (v := .pointer (some ⟨g, 1, none⟩)) rfl (by kernel_rfl) (by kernel_rfl) (by kernel_rfl) (fun _ _ _ h => h) (yields_fld rfl (.tmp 11) 1 (by decide) rfl _ f1_11) hS ?_
    obtain ⟨a2, hA2⟩ : ∃ a', a' = a1.put (some 148) (.pointer (some ⟨g, 1, none⟩)) := ⟨_, rfl⟩
    change wpAnyH _ _ _ _ _ _ _ (a1.put (some 148) (.pointer (some ⟨g, 1, none⟩))) _
    rw [← hA2]
    have f2_148 : a2.eval (.tmp 148) = .pointer (some ⟨g, 1, none⟩) := by rw [hA2]; exact Act.eval_put_same _ _ _ (by omega)
    have f2_147 : a2.eval (.tmp 147) = .slice A2 rest.length c2 := by rw [hA2]; exact (Act.eval_put_ne _ _ _ _ (by decide)).trans f1_147
    have f2_12 : a2.eval (.tmp 12) = .pointer (some ⟨g + 1, 0, none⟩) := by rw [hA2]; exact (Act.eval_put_ne _ _ _ _ (by decide)).trans f1_12
    have f2_9 : a2.eval (.tmp 9) = .pointer (some ⟨w.heap.size + 1, 0, none⟩) := by rw [hA2]; exact (Act.eval_put_ne _ _ _ _ (by decide)).trans f1_9
    have z2 : a2.tmps.size = 234 := by rw [hA2, Act.size_put]; exact z1
    have dd2 : a2.defers = [] := by rw [hA2, Act.defers_put']; exact dd1
    clear hA2 z1 dd1 f1_147 f1_11 f1_12 f1_9
    refine wpAnyH_take (i := 2) (v := .int .i64 x.2.1) rfl (by kernel_rfl) (by kernel_rfl) (by kernel_rfl) (fun _ _ _ h => h) (yields_int rfl (.tmp 148) rfl _ f2_148 _ (fun _ h => h.1)) hS ?_
    obtain ⟨a3, hA3⟩ : ∃ a', a' = a2.put (some 149) (.int .i64 x.2.1) := ⟨_, rfl⟩
    change wpAnyH _ _ _ _ _ _ _ (a2.put (some 149) (.int .i64 x.2.1)) _
    rw [← hA3]
    have f3_149 : a3.eval (.tmp 149) = .int .i64 x.2.1 := by rw [hA3]; exact Act.eval_put_same _ _ _ (by omega)
    have f3_147 : a3.eval (.tmp 147) = .slice A2 rest.length c2 := by rw [hA3]; exact (Act.eval_put_ne _ _ _ _ (by decide)).trans f2_147
    have f3_12 : a3.eval (.tmp 12) = .pointer (some ⟨g + 1, 0, none⟩) := by rw [hA3]; exact (Act.eval_put_ne _ _ _ _ (by decide)).trans f2_12
    have f3_9 : a3.eval (.tmp 9) = .pointer (some ⟨w.heap.size + 1, 0, none⟩) := by rw [hA3]; exact (Act.eval_put_ne _ _ _ _ (by decide)).trans f2_9
    have z3 : a3.tmps.size = 234 := by rw [hA3, Act.size_put]; exact z2
    have dd3 : a3.defers = [] := by rw [hA3, Act.defers_put']; exact dd2
    clear hA3 z2 dd2 f2_148 f2_147 f2_12 f2_9
    refine wpAnyH_take (i := 4) (v := efV noE) rfl (by kernel_rfl) (by kernel_rfl) (by kernel_rfl) (fun _ _ _ h => h) (yields_ef rfl (.tmp 12) rfl _ f3_12 noE (fun _ h => h.2.1)) hS ?_
    obtain ⟨a4, hA4⟩ : ∃ a', a' = a3.put (some 151) (efV noE) := ⟨_, rfl⟩
    change wpAnyH _ _ _ _ _ _ _ (a3.put (some 151) (efV noE)) _
    rw [← hA4]
    have f4_151 : a4.eval (.tmp 151) = efV noE := by rw [hA4]; exact Act.eval_put_same _ _ _ (by omega)
    have f4_149 : a4.eval (.tmp 149) = .int .i64 x.2.1 := by rw [hA4]; exact (Act.eval_put_ne _ _ _ _ (by decide)).trans f3_149
    have f4_147 : a4.eval (.tmp 147) = .slice A2 rest.length c2 := by rw [hA4]; exact (Act.eval_put_ne _ _ _ _ (by decide)).trans f3_147
    have f4_9 : a4.eval (.tmp 9) = .pointer (some ⟨w.heap.size + 1, 0, none⟩) := by rw [hA4]; exact (Act.eval_put_ne _ _ _ _ (by decide)).trans f3_9
    have z4 : a4.tmps.size = 234 := by rw [hA4, Act.size_put]; exact z3
    have dd4 : a4.defers = [] := by rw [hA4, Act.defers_put']; exact dd3
    clear hA4 z3 dd3 f3_149 f3_147 f3_12 f3_9
    refine wpAnyH_ready (rs := [3]) (by kernel_rfl) (by simp) (AllReadyH.cons (by simp only [List.getElem?_toArray, List.getElem?_cons_succ, List.getElem?_cons_zero]; rfl) (fun K hK => ?_) AllReadyH.nil)
    refine step_call (by rfl) 23 #[.tmp 147, .tmp 149] #[30, 3] (by rfl) #[.slice A2 rest.length c2, .int .i64 x.2.1] (by simp only [List.map_toArray, List.map_cons, List.map_nil, f4_147, f4_149]) Tryd.func23 (by kernel_rfl) rfl (Go.Proofs.YtjbcmedljgafkaaDoor.frames.refGo_any A2 c2 rest x.2.1 w5.drew (HI2.out.next (Below.refl _ _).drew)) (fun e w7 hR => ?_)
    obtain ⟨A3, c5, rfl, hI3, hb7⟩ := hR
    have HZ7 := HZ5.out.drew.next hb7
    have RB1 := HZ7.b1
    have HI3 := Lib.hid hI3
    refine ⟨_, rfl, hK.out _ _ ⟨(hb7.cell (p := ⟨g, 1, none⟩) RLT).trans x1, HZ7.b3, HZ7.below⟩ (fun hS => ?_)⟩
    obtain ⟨a5, hA5⟩ : ∃ a', a' = a4.put (some 150) (.slice A3 (Go.Proofs.YtjbcmedljgafkaaDoor.frames.goF rest x.2.1).length c5) := ⟨_, rfl⟩
    change wpAnyH _ _ _ _ _ _ _ (a4.put (some 150) (.slice A3 (Go.Proofs.YtjbcmedljgafkaaDoor.frames.goF rest x.2.1).length c5)) _
    rw [← hA5]
    have f5_150 : a5.eval (.tmp 150) = .slice A3 (Go.Proofs.YtjbcmedljgafkaaDoor.frames.goF rest x.2.1).length c5 := by rw [hA5]; exact Act.eval_put_same _ _ _ (by omega)
    have f5_151 : a5.eval (.tmp 151) = efV noE := by rw [hA5]; exact (Act.eval_put_ne _ _ _ _ (by decide)).trans f4_151
    have f5_9 : a5.eval (.tmp 9) = .pointer (some ⟨w.heap.size + 1, 0, none⟩) := by rw [hA5]; exact (Act.eval_put_ne _ _ _ _ (by decide)).trans f4_9
    have z5 : a5.tmps.size = 234 := by rw [hA5, Act.size_put]; exact z4
    have dd5 : a5.defers = [] := by rw [hA5, Act.defers_put']; exact dd4
    clear hA5 z4 dd4 f4_151 f4_149 f4_147 f4_9
    refine wpAnyH_take (i := 5) (v := .slice A3 (Go.Proofs.YtjbcmedljgafkaaDoor.frames.goF rest x.2.1).length c5) rfl (by kernel_rfl) (by kernel_rfl) (by kernel_rfl) (fun _ _ _ h => h) (yields_assign rfl (.tmp 150) rfl f5_150) hS ?_
    obtain ⟨a6, hA6⟩ : ∃ a', a' = a5.put (some 8) (.slice A3 (Go.Proofs.YtjbcmedljgafkaaDoor.frames.goF rest x.2.1).length c5) := ⟨_, rfl⟩
    change wpAnyH _ _ _ _ _ _ _ (a5.put (some 8) (.slice A3 (Go.Proofs.YtjbcmedljgafkaaDoor.frames.goF rest x.2.1).length c5)) _
    rw [← hA6]
    have f6_8 : a6.eval (.tmp 8) = .slice A3 (Go.Proofs.YtjbcmedljgafkaaDoor.frames.goF rest x.2.1).length c5 := by rw [hA6]; exact Act.eval_put_same _ _ _ (by omega)
    have f6_151 : a6.eval (.tmp 151) = efV noE := by rw [hA6]; exact (Act.eval_put_ne _ _ _ _ (by decide)).trans f5_151
    have f6_9 : a6.eval (.tmp 9) = .pointer (some ⟨w.heap.size + 1, 0, none⟩) := by rw [hA6]; exact (Act.eval_put_ne _ _ _ _ (by decide)).trans f5_9
    have z6 : a6.tmps.size = 234 := by rw [hA6, Act.size_put]; exact z5
    have dd6 : a6.defers = [] := by rw [hA6, Act.defers_put']; exact dd5
    clear hA6 z5 dd5 f5_150 f5_151 f5_9
    refine wpAnyH_ready (rs := [6]) (by kernel_rfl) (by simp) (AllReadyH.cons (by simp only [List.getElem?_toArray, List.getElem?_cons_succ, List.getElem?_cons_zero]; rfl) (fun K hK => ?_) AllReadyH.nil)
    refine step_ef (by rfl) (.tmp 9) (.tmp 151) (by rfl) (w.heap.size + 1) zE noE f6_9 f6_151 RB1 ?_
    refine hK.out _ _ ⟨(World.cell?_of_block (a := ⟨g, 1, none⟩) (Go.Proofs.YtjbcmedljgafkaaDoor.frames.row_far _ RNG)).trans hS.1, (Go.Proofs.YtjbcmedljgafkaaDoor.frames.row_far _ RNE).trans hS.2.1, Go.Proofs.YtjbcmedljgafkaaDoor.frames.row_below hS.2.2 (Nat.le_succ _) _⟩ (fun hS => ?_)
    change wpAnyH _ _ _ _ _ _ _ a6 _
    refine wpAnyH_take (i := 7) (v := .int .i64 0) rfl (by kernel_rfl) (by kernel_rfl) (by kernel_rfl) (fun _ _ _ h => h) (yields_assign rfl _ rfl rfl) hS ?_
    obtain ⟨a7, hA7⟩ : ∃ a', a' = a6.put (some 10) (.int .i64 0) := ⟨_, rfl⟩
    change wpAnyH _ _ _ _ _ _ _ (a6.put (some 10) (.int .i64 0)) _
    rw [← hA7]
    have f7_10 : a7.eval (.tmp 10) = .int .i64 0 := by rw [hA7]; exact Act.eval_put_same _ _ _ (by omega)
    have f7_8 : a7.eval (.tmp 8) = .slice A3 (Go.Proofs.YtjbcmedljgafkaaDoor.frames.goF rest x.2.1).length c5 := by rw [hA7]; exact (Act.eval_put_ne _ _ _ _ (by decide)).trans f6_8
    have f7_9 : a7.eval (.tmp 9) = .pointer (some ⟨w.heap.size + 1, 0, none⟩) := by rw [hA7]; exact (Act.eval_put_ne _ _ _ _ (by decide)).trans f6_9
    have z7 : a7.tmps.size = 234 := by rw [hA7, Act.size_put]; exact z6
    have dd7 : a7.defers = [] := by rw [hA7, Act.defers_put']; exact dd6
    clear hA7 z6 dd6 f6_8 f6_151 f6_9
    refine wpAnyH_done (by kernel_rfl) ?_ _
    go_wp2_with fail
    exact do_ret HQz.out rfl f7_8 f7_9 f7_10 dd7 (row_turned RB1 _) (in_row HI3.out RB1 (by decide) _) hS.2.2
  · have ez : (v0 == 0) = false := by simpa using hz
    have HQz := Lib.hid (HQ2.out hz)
    clear hz
    go_upto_region 28 with fail
    refine Go.Proofs.YtjbcmedljgafkaaDoor.frames.wp_hold_act (fun a0 HA0 => ?_)
    have z0 : a0.tmps.size = 234 := by rw [HA0.out]; rfl
    have dd0 : a0.defers = [] := by rw [HA0.out]
    have f0_19 : a0.eval (.tmp 19) = .slice A2 rest.length c2 := by rw [HA0.out]; rfl
    have f0_12 : a0.eval (.tmp 12) = .pointer (some ⟨g + 1, 0, none⟩) := by rw [HA0.out]; rfl
    have f0_9 : a0.eval (.tmp 9) = .pointer (some ⟨w.heap.size + 1, 0, none⟩) := by rw [HA0.out]; rfl
    clear HA0
    have RB1 := HZ5.out.b1
    have RNE : g + 1 ≠ w.heap.size + 1 := by have := HZ5.out.far; omega
    refine wp_region_held_drew (S := fun w' => w'.heap[g + 1]? = some (efB noE) ∧ Below w.heap.size w w') (by kernel_rfl) (And.intro HZ5.out.b3 HZ5.out.below.drew) (fun hS => ?_)
    refine wpAnyH_take (i := 0) (v := .slice A2 rest.length c2) rfl (by kernel_rfl) (by kernel_rfl) (by kernel_rfl) (fun _ _ _ h => h) (Go.Proofs.YtjbcmedljgafkaaDoor.frames.yields_move rfl (.tmp 19) rfl f0_19) hS ?_
    obtain ⟨a1, hA1⟩ : ∃ a', a' = a0.put (some 155) (.slice A2 rest.length c2) := ⟨_, rfl⟩
    change wpAnyH _ _ _ _ _ _ _ (a0.put (some 155) (.slice A2 rest.length c2)) _
    rw [← hA1]
    have f1_155 : a1.eval (.tmp 155) = .slice A2 rest.length c2 := by rw [hA1]; exact Act.eval_put_same _ _ _ (by omega)
    have f1_12 : a1.eval (.tmp 12) = .pointer (some ⟨g + 1, 0, none⟩) := by rw [hA1]; exact (Act.eval_put_ne _ _ _ _ (by decide)).trans f0_12
    have f1_9 : a1.eval (.tmp 9) = .pointer (some ⟨w.heap.size + 1, 0, none⟩) := by rw [hA1]; exact (Act.eval_put_ne _ _ _ _ (by decide)).trans f0_9
    have z1 : a1.tmps.size = 234 := by rw [hA1, Act.size_put]; exact z0
    have dd1 : a1.defers = [] := by rw [hA1, Act.defers_put']; exact dd0
    clear hA1 z0 dd0 f0_19 f0_12 f0_9
    refine wpAnyH_take (i := 1) (v := efV noE) rfl (by kernel_rfl) (by kernel_rfl) (by kernel_rfl) (fun _ _ _ h => h) (yields_ef rfl (.tmp 12) rfl _ f1_12 noE (fun _ h => h.1)) hS ?_
    obtain ⟨a2, hA2⟩ : ∃ a', a' = a1.put (some 156) (efV noE) := ⟨_, rfl⟩
    change wpAnyH _ _ _ _ _ _ _ (a1.put (some 156) (efV noE)) _
    rw [← hA2]
    have f2_156 : a2.eval (.tmp 156) = efV noE := by rw [hA2]; exact Act.eval_put_same _ _ _ (by omega)
    have f2_155 : a2.eval (.tmp 155) = .slice A2 rest.length c2 := by rw [hA2]; exact (Act.eval_put_ne _ _ _ _ (by decide)).trans f1_155
    have f2_9 : a2.eval (.tmp 9) = .pointer (some ⟨w.heap.size + 1, 0, none⟩) := by rw [hA2]; exact (Act.eval_put_ne _ _ _ _ (by decide)).trans f1_9
    have z2 : a2.tmps.size = 234 := by rw [hA2, Act.size_put]; exact z1
    have dd2 : a2.defers = [] := by rw [hA2, Act.defers_put']; exact dd1
    clear hA2 z1 dd1 f1_155 f1_12 f1_9
    refine wpAnyH_take (i := 2) (v := .slice A2 rest.length c2) rfl (by kernel_rfl) (by kernel_rfl) (by kernel_rfl) (fun _ _ _ h => h) (yields_assign rfl (.tmp 155) rfl f2_155) hS ?_
    obtain ⟨a3, hA3⟩ : ∃ a', a' = a2.put (some 8) (.slice A2 rest.length c2) := ⟨_, rfl⟩
    change wpAnyH _ _ _ _ _ _ _ (a2.put (some 8) (.slice A2 rest.length c2)) _
    rw [← hA3]
    have f3_8 : a3.eval (.tmp 8) = .slice A2 rest.length c2 := by rw [hA3]; exact Act.eval_put_same _ _ _ (by omega)
    have f3_156 : a3.eval (.tmp 156) = efV noE := by rw [hA3]; exact (Act.eval_put_ne _ _ _ _ (by decide)).trans f2_156
    have f3_9 : a3.eval (.tmp 9) = .pointer (some ⟨w.heap.size + 1, 0, none⟩) := by rw [hA3]; exact (Act.eval_put_ne _ _ _ _ (by decide)).trans f2_9
    have z3 : a3.tmps.size = 234 := by rw [hA3, Act.size_put]; exact z2
    have dd3 : a3.defers = [] := by rw [hA3, Act.defers_put']; exact dd2
    clear hA3 z2 dd2 f2_156 f2_155 f2_9
    refine wpAnyH_ready (rs := [3]) (by kernel_rfl) (by simp) (AllReadyH.cons (by simp only [List.getElem?_toArray, List.getElem?_cons_succ, List.getElem?_cons_zero]; rfl) (fun K hK => ?_) AllReadyH.nil)
    refine step_ef (by rfl) (.tmp 9) (.tmp 156) (by rfl) (w.heap.size + 1) zE noE f3_9 f3_156 RB1 ?_
    refine hK.out _ _ ⟨(Go.Proofs.YtjbcmedljgafkaaDoor.frames.row_far _ RNE).trans hS.1, Go.Proofs.YtjbcmedljgafkaaDoor.frames.row_below hS.2 (Nat.le_succ _) _⟩ (fun hS => ?_)
    change wpAnyH _ _ _ _ _ _ _ a3 _
    refine wpAnyH_take (i := 4) (v := .int .i64 0) rfl (by kernel_rfl) (by kernel_rfl) (by kernel_rfl) (fun _ _ _ h => h) (yields_assign rfl _ rfl rfl) hS ?_
    obtain ⟨a4, hA4⟩ : ∃ a', a' = a3.put (some 10) (.int .i64 0) := ⟨_, rfl⟩
    change wpAnyH _ _ _ _ _ _ _ (a3.put (some 10) (.int .i64 0)) _
    rw [← hA4]
    have f4_10 : a4.eval (.tmp 10) = .int .i64 0 := by rw [hA4]; exact Act.eval_put_same _ _ _ (by omega)
    have f4_8 : a4.eval (.tmp 8) = .slice A2 rest.length c2 := by rw [hA4]; exact (Act.eval_put_ne _ _ _ _ (by decide)).trans f3_8
    have f4_9 : a4.eval (.tmp 9) = .pointer (some ⟨w.heap.size + 1, 0, none⟩) := by rw [hA4]; exact (Act.eval_put_ne _ _ _ _ (by decide)).trans f3_9
    have z4 : a4.tmps.size = 234 := by rw [hA4, Act.size_put]; exact z3
    have dd4 : a4.defers = [] := by rw [hA4, Act.defers_put']; exact dd3
    clear hA4 z3 dd3 f3_8 f3_156 f3_9
    refine wpAnyH_done (by kernel_rfl) ?_ _
    go_wp2_with fail
    exact do_ret HQz.out rfl f4_8 f4_9 f4_10 dd4 (row_turned RB1 _) (in_row (HI2.out.next (Below.refl _ _).drew) RB1 (by decide) _) hS.2

end Go.Proofs.YtjbcmedljgafkaaDoor.pgm.exe
