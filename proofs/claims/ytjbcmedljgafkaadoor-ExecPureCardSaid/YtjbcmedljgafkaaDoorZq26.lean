/-
  Texts of one claim in one file: ZDoI, ZRefDo, ZRefRun, VRefObj. Each has its own sentence, with its conditions.
-/
import Derived.Test.YtjbcmedljgafkaaDoorZq17
import Derived.Test.YtjbcmedljgafkaaDoorZq18
import Derived.Test.YtjbcmedljgafkaaDoorZq19
import Derived.Test.YtjbcmedljgafkaaDoorZq20
import Derived.Test.YtjbcmedljgafkaaDoorZq21
import Derived.Test.YtjbcmedljgafkaaDoorZq22
import Derived.Test.YtjbcmedljgafkaaDoorZq23
import Derived.Test.YtjbcmedljgafkaaDoorZq24
import Derived.Test.YtjbcmedljgafkaaDoorZq25
import Derived.Test.YtjbcmedljgafkaaDoorZq14
import Derived.Test.YtjbcmedljgafkaaDoorZq7
import Derived.Test.YtjbcmedljgafkaaDoorZq3
import Derived.Test.YtjbcmedljgafkaaDoorZq5
import Derived.Test.YtjbcmedljgafkaaDoorZq9
import Derived.Test.YtjbcmedljgafkaaDoorZq6
/-
  The document's own Do: dup. The program may run, and the frames come of it.
-/

namespace Go.Proofs.YtjbcmedljgafkaaDoor.pgm.exe
open Go.RowKit Go.ChangeShapes
open Go.Proofs.YtjbcmedljgafkaaDoor.pgm
open Go.Proofs.YtjbcmedljgafkaaDoor.objs (De zero cells3 put3 put3_same put3_below put3_far DAt)
open Go.Proofs.YtjbcmedljgafkaaDoor.frames (Fr num cnt topF goF In refGo_any FrsPost)
open Go.Proofs.YtjbcmedljgafkaaDoor.oper (pops numb tk)
set_option linter.unusedVariables false
set_option linter.unusedSimpArgs false

set_option maxRecDepth 100000 in
set_option maxHeartbeats 4000000 in
theorem do_dup (v : Value) (p : Pg) (A : Option Addr) (c : Nat) (l : List Fr) (self now : Int) (w : World) (hv : PAt w v p) (hI : In w A c l) (hm : May p.fs) (hfit : FitL p.fs 0 l) (hop : (insZ p.fs l).1 = 16) :
    Calls Tryd.prog 11 #[v, .slice A l.length c, .int .i64 self, .int .i64 now] w (DoPost (doZ p.fs l self now) w) := by
  obtain ⟨h0, hl8, i, a, hi, ha, hfn, hpc, hins, hchk, ha200⟩ := fit_facts hm hfit
  have HAt := fun W (h : Below w.heap.size w W) => Lib.hid (refAt_any v p A c l W (hv.next h) (hI.next h) h0 hi ha hfn hpc)
  rw [← hins] at HAt
  have HGo := fun W (h : Below w.heap.size w W) => Lib.hid (refGo_any A c l ((a : Int) + 1) W (hI.next h))
  have hqe : doZ p.fs l self now = doZ p.fs l self now := rfl
  obtain ⟨q, hq⟩ : ∃ q, q = doZ p.fs l self now := ⟨_, rfl⟩
  rw [← hq]
  have hnext : nextF l = goF l ((a : Int) + 1) := by unfold nextF; rw [hpc]
  unfold doZ at hq
  rw [hnext] at hq
  dsimp only at hq
  obtain ⟨rest, vs, ht, hpo, hvl, ⟨hp0, hp5⟩, rr, gg, hrg, hg0, hg1, hgl⟩ := fit_take hm hfit (by omega)
  rw [ht] at hq
  dsimp only at hq
  rw [hnext] at hpo
  have hbs := Go.Proofs.YtjbcmedljgafkaaDoor.pgm.dep.b_small hchk
  have HPs : ∀ W, Hid (Calls Tryd.prog 27 #[insV (insZ p.fs l), .int .i64 0] W fun e w' => e = .returned (.int .i64 (pops (insZ p.fs l).1 (insZ p.fs l).2.2 0)) ∧ Below W.heap.size W w') := fun W => Lib.hid (Go.Proofs.YtjbcmedljgafkaaDoor.oper.refPops_any _ _ _ 0 (by omega) (by omega) W)
  have HPo : ∀ W A1 c3, In W A1 c3 (goF l ((a : Int) + 1)) → Hid (Calls Tryd.prog 26 #[.slice A1 (goF l ((a : Int) + 1)).length c3, .int .i64 (pops (insZ p.fs l).1 (insZ p.fs l).2.2 0)] W fun e w' => Below W.heap.size W w' ∧ ∃ A c B d, e = .returned (.tuple #[.slice A rest.length c, .slice B vs.length d, .bool true]) ∧ In w' A c rest ∧ Go.Proofs.YtjbcmedljgafkaaDoor.nums.NAt w' B vs ∧ Go.Proofs.YtjbcmedljgafkaaDoor.frames.Own w' W.heap.size (.slice A rest.length c) rest ∧ ∀ b off, B = some ⟨b, off, none⟩ → W.heap.size ≤ b) := fun W A1 c3 h => Lib.hid (by
    have h1 := Go.Proofs.YtjbcmedljgafkaaDoor.frames.refPopB_any A1 c3 _ (pops (insZ p.fs l).1 (insZ p.fs l).2.2 0) W h
    unfold Go.Proofs.YtjbcmedljgafkaaDoor.frames.PopPostB at h1
    rw [hpo] at h1
    exact h1)
  have hly : numb Go.Proofs.YtjbcmedljgafkaaDoor.oper.ly (insZ p.fs l).1 = 2 := by rw [hop]; rfl
  rw [hly] at hg1
  have hp1 : Go.Proofs.YtjbcmedljgafkaaDoor.frames.pushF rest (vs.getD 0 0) = some (rr ++ [Go.Proofs.YtjbcmedljgafkaaDoor.frames.pushed gg (vs.getD 0 0)]) := by rw [hrg]; exact f_push rr gg _ hg0 (by omega)
  have hc1 : cnt (Go.Proofs.YtjbcmedljgafkaaDoor.frames.pushed gg (vs.getD 0 0)) = cnt gg + 1 := Go.Proofs.YtjbcmedljgafkaaDoor.frames.cnt_here (by rw [List.length_set]; exact hgl) _
  have hp2 : Go.Proofs.YtjbcmedljgafkaaDoor.frames.pushF (rr ++ [Go.Proofs.YtjbcmedljgafkaaDoor.frames.pushed gg (vs.getD 0 0)]) (vs.getD 0 0) = some (rr ++ [Go.Proofs.YtjbcmedljgafkaaDoor.frames.pushed (Go.Proofs.YtjbcmedljgafkaaDoor.frames.pushed gg (vs.getD 0 0)) (vs.getD 0 0)]) := f_push rr _ _ (by omega) (by omega)
  obtain ⟨y, hy⟩ : ∃ y, y = rr ++ [Go.Proofs.YtjbcmedljgafkaaDoor.frames.pushed (Go.Proofs.YtjbcmedljgafkaaDoor.frames.pushed gg (vs.getD 0 0)) (vs.getD 0 0)] := ⟨_, rfl⟩
  rw [← hy] at hp2
  obtain ⟨y1, hy1⟩ : ∃ y1, y1 = rr ++ [Go.Proofs.YtjbcmedljgafkaaDoor.frames.pushed gg (vs.getD 0 0)] := ⟨_, rfl⟩
  rw [← hy1] at hp1 hp2
  have hval : valZ (insZ p.fs l) rest vs self now = (0, 0) := by unfold valZ; rw [if_neg (by omega), if_neg (by omega), if_neg (by omega), if_neg (by omega), if_neg (by omega), if_neg (by omega)]
  replace hq : q = (y, noE, 0) := by
    rw [hq, if_neg (by omega), if_neg (by omega), if_neg (by omega), if_neg (by omega), if_neg (by omega), if_neg (by rintro (h | h) <;> omega), if_neg (by omega), hval, if_neg (fun h => h rfl), if_pos hop]
    show ((Go.Proofs.YtjbcmedljgafkaaDoor.frames.pushF ((Go.Proofs.YtjbcmedljgafkaaDoor.frames.pushF rest (vs.getD 0 0)).getD []) (vs.getD 0 0)).getD [], noE, (0 : Int)) = _
    rw [hp1]
    show ((Go.Proofs.YtjbcmedljgafkaaDoor.frames.pushF y1 (vs.getD 0 0)).getD [], noE, (0 : Int)) = _
    rw [hp2]
    rfl
  have HPu1 : ∀ W A2 c2, In W A2 c2 rest → Hid (Calls Tryd.prog 31 #[.slice A2 (rest).length c2, .int .i64 (vs.getD 0 0)] W fun e w' => Below W.heap.size W w' ∧ ∃ A c, e = .returned (.tuple #[.slice A (y1).length c, .bool true]) ∧ In w' A c y1) := fun W A2 c2 h => Lib.hid (by
    have h1 := Go.Proofs.YtjbcmedljgafkaaDoor.frames.refPush_any A2 c2 _ (vs.getD 0 0) W h
    unfold Go.Proofs.YtjbcmedljgafkaaDoor.frames.ListPost at h1
    rw [hp1] at h1
    exact h1)
  have HPu2 : ∀ W A2 c2, In W A2 c2 y1 → Hid (Calls Tryd.prog 31 #[.slice A2 (y1).length c2, .int .i64 (vs.getD 0 0)] W fun e w' => Below W.heap.size W w' ∧ ∃ A c, e = .returned (.tuple #[.slice A (y).length c, .bool true]) ∧ In w' A c y) := fun W A2 c2 h => Lib.hid (by
    have h1 := Go.Proofs.YtjbcmedljgafkaaDoor.frames.refPush_any A2 c2 _ (vs.getD 0 0) W h
    unfold Go.Proofs.YtjbcmedljgafkaaDoor.frames.ListPost at h1
    rw [hp2] at h1
    exact h1)
  have HQ := Lib.hid hq
  obtain ⟨A0, B0, C0, ca, cb, cc, rfl, -, -, hF⟩ := id hv
  obtain ⟨b, off, m, rfl, hm1, hb, hFc, hl27⟩ := hI.top h0
  have hlen := hI.len
  have hcap := hI.cap
  have HI := Lib.hid hI
  have hpcc := hFc 1 (by omega)
  rw [hpc] at hpcc
  have HPc := Lib.hid (And.intro hb hpcc)
  have HM := Lib.hid hm1
  have e20 : ((insZ p.fs l).1 == 20) = false := by rw [hop]; rfl
  have e21 : ((insZ p.fs l).1 == 21) = false := by rw [hop]; rfl
  have e2 : ((insZ p.fs l).1 == 2) = false := by rw [hop]; rfl
  have e17 : ((insZ p.fs l).1 == 17) = false := by rw [hop]; rfl
  have e18 : ((insZ p.fs l).1 == 18) = false := by rw [hop]; rfl
  have e19 : ((insZ p.fs l).1 == 19) = false := by rw [hop]; rfl
  have e0 : ((insZ p.fs l).1 == 0) = false := by rw [hop]; rfl
  have e1 : ((insZ p.fs l).1 == 1) = false := by rw [hop]; rfl
  have e22 : ((insZ p.fs l).1 == 22) = false := by rw [hop]; rfl
  have e23 : ((insZ p.fs l).1 == 23) = false := by rw [hop]; rfl
  have e8 : ((insZ p.fs l).1 == 8) = false := by rw [hop]; rfl
  have e16 : ((insZ p.fs l).1 == 16) = true := by rw [hop]; rfl
  have g23 : decide ((insZ p.fs l).1 > 23) = false := by rw [hop]; rfl
  have g3 : decide ((insZ p.fs l).1 ≥ 3) = true := by rw [hop]; rfl
  have g15 : decide ((insZ p.fs l).1 ≤ 15) = false := by rw [hop]; rfl
  have HV : Hid (vs.length = 1) := Lib.hid (by rw [hvl, hop]; rfl)
  clear hy hy1 hp1 hp2 hc1 hval hly
  clear ht hpo hvl hp0 hp5 hrg hg0 hg1 hgl hbs hop
  generalize insZ p.fs l = x at *
  rw [hm1] at HAt HGo hlen hcap ⊢
  have k0 : (0 : Int) ≤ (m : Int) := by omega
  have k1 : (m : Int) < ((m + 1 : Nat) : Int) := by omega
  have k2 : (m : Int) < (m : Int) + 1 := by omega
  have hw0 : IntKind.i64.wrap ((m : Int) + 1 - 1) = (m : Int) := by rw [IntKind.wrap_i64]; omega
  have hw1 : IntKind.i64.wrap (m : Int) = (m : Int) := by rw [IntKind.wrap_i64]; omega
  have hwa : IntKind.i64.wrap ((a : Int) + 1) = (a : Int) + 1 := by rw [IntKind.wrap_i64]; omega
  clear hl8 hm1 hv hI hfit h0 hi ha hfn hpc hins hq hnext hqe hF hFc hl27 hm hpcc
  go_enter Tryd.func11, Tryd.ntmps11
  go_upto_region 1 with fail
  refine wp_hold_world (fun W1 HW1 => ?_)
  have h1 := HW1.out
  have hb1 : Below w.heap.size w W1 := by rw [h1]; exact ((Below.refl _ w).alloc (Nat.le_refl _) _).alloc (by rw [World.size_alloc]; omega) _
  have hx1 : W1.heap[w.heap.size]? = some (.cells #[.slice A0 p.ds.length ca, .slice B0 p.ws.length cb, .slice C0 p.fs.length cc] 26 (0, 0)) := by rw [h1]; exact (Below.heap_alloc _ _ _ (by rw [World.size_alloc]; omega)).trans (heap_alloc_new w _)
  obtain ⟨p0, p1, p2, -, -, -⟩ := cells3 hx1
  have HA1 := HAt W1 hb1
  have H1 := Lib.hid h1
  have HB1 := Lib.hid hb1
  clear h1 hb1 hx1 HAt
  go_wp2_with fail
  refine HA1.out.mono ?_
  rintro _ w1 ⟨rfl, hbw⟩
  have m0 := Lib.hid ((Below.heap_alloc (w1.alloc (insO zero)) (efB zE) _ (by rw [World.size_alloc]; omega)).trans (heap_alloc_new w1 (insO zero)))
  have m1 := Lib.hid ((Go.Proofs.YtjbcmedljgafkaaDoor.frames.row_far (insC x).toArray (show (w1.alloc (insO zero)).heap.size ≠ w1.heap.size by rw [World.size_alloc]; omega)).trans (heap_alloc_new (w1.alloc (insO zero)) (efB zE)))
  go_upto_region 2 with (first | refine we_build rfl rfl ?_ | refine wi_alloc rfl rfl ?_ | refine we_alloc rfl rfl ?_ | refine wi_store rfl _ _ rfl w1.heap.size zero x rfl rfl m0.out ?_ | refine we_store rfl _ _ rfl (w1.alloc (insO zero)).heap.size zE noE rfl rfl m1.out ?_)
  simp only [Go.Act.put, List.setIfInBounds_toArray, List.set_cons_zero, List.set_cons_succ, World.size_alloc]
  refine wp_hold_world (fun W2 HW2 => ?_)
  have HZ : Hid (Zd w _ w1.heap.size x W2) := Lib.hid (by rw [HW2.out]; exact zd_new H1.out hbw)
  generalize w1.heap.size = g at *
  clear HW2 m0 m1 hbw p0 p1 p2 H1 HB1 HA1
  have c1 := (HZ.out.below.cell (p := ⟨b, off + m * 27 + 1, none⟩) HPc.out.1).trans HPc.out.2
  have HGo2 := HGo W2 HZ.out.below
  clear HGo
  go_wp2_with fail
  refine HGo2.out.mono ?_
  rintro _ w3 ⟨A1, c3, rfl, hI1, hb3⟩
  have HZ3 := Lib.hid (HZ.out.next hb3)
  have HI1 := Lib.hid hI1
  clear hI1 hb3 HZ HGo2 c1 HPc
  obtain ⟨x0, x1, x2⟩ := ins_cells HZ3.out.b2
  generalize pops x.1 x.2.2 0 = P at *
  go_wp2_with (first | refine wi_load rfl _ rfl g rfl x HZ3.out.b2 ?_)
  refine (HPs _).out.mono ?_
  rintro _ w4 ⟨rfl, hb4⟩
  have HZ4 := Lib.hid (HZ3.out.next hb4)
  have HPo4 := HPo w4 A1 c3 (HI1.out.next hb4)
  clear hb4 x0 x1 x2 HZ3 HI1 HPs HPo
  go_wp2_with fail
  refine HPo4.out.mono ?_
  rintro _ w5 ⟨hb5, A2, c2, B2, d2, rfl, hI2, hN2, -, hB2⟩
  have HZ5 := Lib.hid (HZ4.out.next hb5)
  have HI2 := Lib.hid hI2
  have HN2 := Lib.hid hN2
  have HB2 : Hid (∀ b off, B2 = some ⟨b, off, none⟩ → w.heap.size + 1 < b) := Lib.hid fun b off e => by
    have h1 := hB2 b off e
    have h2 := lt_of_block HZ4.out.b3
    have h3 := HZ4.out.far
    omega
  clear hb5 hI2 hN2 hB2 HZ4 HPo4
  obtain ⟨x0, x1, x2⟩ := ins_cells HZ5.out.b2
  obtain ⟨b2, o2, rfl, hb2, cv⟩ := HN2.out 0 (by have := HV.out; omega)
  rw [Nat.add_zero] at cv
  have HB2' := Lib.hid (HB2.out _ _ rfl)
  have hv0 : (0 : Int) < (vs.length : Int) := by have := HV.out; omega
  generalize vs.getD 0 0 = v0 at *
  have HPa := HPu1 w5 A2 c2 HI2.out
  clear HPu1
  go_wp2_with fail
  refine HPa.out.mono ?_
  rintro _ w7 ⟨hb7, A4, c7, rfl, hI4⟩
  have HPb := HPu2 w7 A4 c7 hI4
  replace HZ5 := Lib.hid (HZ5.out.next hb7)
  replace cv := (hb7.cell (p := ⟨b2, o2, none⟩) hb2).trans cv
  clear hb7 hI4 HPu2 HPa x0 x1 x2 hb2
  go_wp2_with fail
  refine HPb.out.mono ?_
  have x0 := True.intro
  have x1 := True.intro
  have x2 := True.intro
  rintro _ w6 ⟨hb6, A3, c5, rfl, hI3⟩
  have HZ6 := Lib.hid (HZ5.out.next hb6)
  have HI3 := Lib.hid hI3
  clear hb6 hI3 x0 x1 x2
  go_upto_region 48 with fail
  refine Go.Proofs.YtjbcmedljgafkaaDoor.frames.wp_hold_act (fun a0 HA0 => ?_)
  have z0 : a0.tmps.size = 234 := by rw [HA0.out]; rfl
  have dd0 : a0.defers = [] := by rw [HA0.out]
  have f0_26 : a0.eval (.tmp 26) = .slice A3 y.length c5 := by rw [HA0.out]; rfl
  have f0_12 : a0.eval (.tmp 12) = .pointer (some ⟨g + 1, 0, none⟩) := by rw [HA0.out]; rfl
  have f0_9 : a0.eval (.tmp 9) = .pointer (some ⟨w.heap.size + 1, 0, none⟩) := by rw [HA0.out]; rfl
  clear HA0
  have RB1 := HZ6.out.b1
  have RNE : g + 1 ≠ w.heap.size + 1 := by have := HZ6.out.far; omega
  refine wp_region_held_drew (S := fun w' => w'.heap[g + 1]? = some (efB noE) ∧ Below w.heap.size w w') (by kernel_rfl) (And.intro HZ6.out.b3 HZ6.out.below.drew) (fun hS => ?_)
  refine wpAnyH_take (i := 0) (v := .slice A3 y.length c5) rfl (by kernel_rfl) (by kernel_rfl) (by kernel_rfl) (fun _ _ _ h => h) (Go.Proofs.YtjbcmedljgafkaaDoor.frames.yields_move rfl (.tmp 26) rfl f0_26) hS ?_
  obtain ⟨a1, hA1⟩ : ∃ a', a' = a0.put (some 232) (.slice A3 y.length c5) := ⟨_, rfl⟩
  change wpAnyH _ _ _ _ _ _ _ (a0.put (some 232) (.slice A3 y.length c5)) _
  rw [← hA1]
  have f1_232 : a1.eval (.tmp 232) = .slice A3 y.length c5 := by rw [hA1]; exact Act.eval_put_same _ _ _ (by omega)
  have f1_12 : a1.eval (.tmp 12) = .pointer (some ⟨g + 1, 0, none⟩) := by rw [hA1]; exact (Act.eval_put_ne _ _ _ _ (by decide)).trans f0_12
  have f1_9 : a1.eval (.tmp 9) = .pointer (some ⟨w.heap.size + 1, 0, none⟩) := by rw [hA1]; exact (Act.eval_put_ne _ _ _ _ (by decide)).trans f0_9
  have z1 : a1.tmps.size = 234 := by rw [hA1, Act.size_put]; exact z0
  have dd1 : a1.defers = [] := by rw [hA1, Act.defers_put']; exact dd0
  clear hA1 z0 dd0 f0_26 f0_12 f0_9
  refine wpAnyH_take (i := 1) (v := efV noE) rfl (by kernel_rfl) (by kernel_rfl) (by kernel_rfl) (fun _ _ _ h => h) (yields_ef rfl (.tmp 12) rfl _ f1_12 noE (fun _ h => h.1)) hS ?_
  obtain ⟨a2, hA2⟩ : ∃ a', a' = a1.put (some 233) (efV noE) := ⟨_, rfl⟩
  change wpAnyH _ _ _ _ _ _ _ (a1.put (some 233) (efV noE)) _
  rw [← hA2]
  have f2_233 : a2.eval (.tmp 233) = efV noE := by rw [hA2]; exact Act.eval_put_same _ _ _ (by omega)
  have f2_232 : a2.eval (.tmp 232) = .slice A3 y.length c5 := by rw [hA2]; exact (Act.eval_put_ne _ _ _ _ (by decide)).trans f1_232
  have f2_9 : a2.eval (.tmp 9) = .pointer (some ⟨w.heap.size + 1, 0, none⟩) := by rw [hA2]; exact (Act.eval_put_ne _ _ _ _ (by decide)).trans f1_9
  have z2 : a2.tmps.size = 234 := by rw [hA2, Act.size_put]; exact z1
  have dd2 : a2.defers = [] := by rw [hA2, Act.defers_put']; exact dd1
  clear hA2 z1 dd1 f1_232 f1_12 f1_9
  refine wpAnyH_take (i := 2) (v := .slice A3 y.length c5) rfl (by kernel_rfl) (by kernel_rfl) (by kernel_rfl) (fun _ _ _ h => h) (yields_assign rfl (.tmp 232) rfl f2_232) hS ?_
  obtain ⟨a3, hA3⟩ : ∃ a', a' = a2.put (some 8) (.slice A3 y.length c5) := ⟨_, rfl⟩
  change wpAnyH _ _ _ _ _ _ _ (a2.put (some 8) (.slice A3 y.length c5)) _
  rw [← hA3]
  have f3_8 : a3.eval (.tmp 8) = .slice A3 y.length c5 := by rw [hA3]; exact Act.eval_put_same _ _ _ (by omega)
  have f3_233 : a3.eval (.tmp 233) = efV noE := by rw [hA3]; exact (Act.eval_put_ne _ _ _ _ (by decide)).trans f2_233
  have f3_9 : a3.eval (.tmp 9) = .pointer (some ⟨w.heap.size + 1, 0, none⟩) := by rw [hA3]; exact (Act.eval_put_ne _ _ _ _ (by decide)).trans f2_9
  have z3 : a3.tmps.size = 234 := by rw [hA3, Act.size_put]; exact z2
  have dd3 : a3.defers = [] := by rw [hA3, Act.defers_put']; exact dd2
  clear hA3 z2 dd2 f2_233 f2_232 f2_9
  refine wpAnyH_ready (rs := [3]) (by kernel_rfl) (by simp) (AllReadyH.cons (by simp only [List.getElem?_toArray, List.getElem?_cons_succ, List.getElem?_cons_zero]; rfl) (fun K hK => ?_) AllReadyH.nil)
  refine step_ef (by rfl) (.tmp 9) (.tmp 233) (by rfl) (w.heap.size + 1) zE noE f3_9 f3_233 RB1 ?_
  refine hK.out _ _ ⟨(Go.Proofs.YtjbcmedljgafkaaDoor.frames.row_far _ RNE).trans hS.1, Go.Proofs.YtjbcmedljgafkaaDoor.frames.row_below hS.2 (Nat.le_succ _) _⟩ (fun hS => ?_)
  change wpAnyH _ _ _ _ _ _ _ a3 _
  refine wpAnyH_take (i := 4) (v := .int .i64 0) rfl (by kernel_rfl) (by kernel_rfl) (by kernel_rfl) (fun _ _ _ h => h) (yields_assign rfl _ rfl rfl) hS ?_
  obtain ⟨a4, hA4⟩ : ∃ a', a' = a3.put (some 10) (.int .i64 0) := ⟨_, rfl⟩
  change wpAnyH _ _ _ _ _ _ _ (a3.put (some 10) (.int .i64 0)) _
  rw [← hA4]
  have f4_10 : a4.eval (.tmp 10) = .int .i64 0 := by rw [hA4]; exact Act.eval_put_same _ _ _ (by omega)
  have f4_8 : a4.eval (.tmp 8) = .slice A3 y.length c5 := by rw [hA4]; exact (Act.eval_put_ne _ _ _ _ (by decide)).trans f3_8
  have f4_9 : a4.eval (.tmp 9) = .pointer (some ⟨w.heap.size + 1, 0, none⟩) := by rw [hA4]; exact (Act.eval_put_ne _ _ _ _ (by decide)).trans f3_9
  have z4 : a4.tmps.size = 234 := by rw [hA4, Act.size_put]; exact z3
  have dd4 : a4.defers = [] := by rw [hA4, Act.defers_put']; exact dd3
  clear hA4 z3 dd3 f3_8 f3_233 f3_9
  refine wpAnyH_done (by kernel_rfl) ?_ _
  go_wp2_with fail
  exact do_ret HQ.out rfl f4_8 f4_9 f4_10 dd4 (row_turned RB1 _) (in_row (HI3.out.next (Below.refl _ _).drew) RB1 (by decide) _) hS.2

end Go.Proofs.YtjbcmedljgafkaaDoor.pgm.exe

/-
  The document's own Do, of a program that may run and frames that come of it: what it makes of them, the effect, and the fault. At most a thousand frames, each of twenty-seven numbers.
-/

namespace Go.Proofs.YtjbcmedljgafkaaDoor.pgm.exe
open Go.RowKit Go.ChangeShapes
open Go.Proofs.YtjbcmedljgafkaaDoor.pgm
open Go.Proofs.YtjbcmedljgafkaaDoor.frames (Fr In)
set_option linter.unusedVariables false

theorem refDo15_any (v : Value) (p : Pg) (A : Option Addr) (c : Nat) (l : List Fr) (self now : Int) (w : World) (hv : PAt w v p) (hI : In w A c l) (hm : May p.fs) (hf : FitL p.fs 0 l) :
    Calls Tryd.prog 11 #[v, .slice A l.length c, .int .i64 self, .int .i64 now] w (DoPost (doZ p.fs l self now) w) := by
  obtain ⟨h0, hl8, i, a, hi, ha, hfn, hpc, hins, hchk, ha200⟩ := fit_facts hm hf
  have hk := known_of hchk
  by_cases h20 : (insZ p.fs l).1 = 20
  · by_cases h8 : l.length = 8
    · exact do_deep v p A c l self now w hv hI hm hf h20 h8
    · exact do_call v p A c l self now w hv hI hm hf h20 h8
  by_cases h21 : (insZ p.fs l).1 = 21
  · by_cases h1 : l.length = 1
    · exact do_ret1 v p A c l self now w hv hI hm hf h21 h1
    · exact do_retn v p A c l self now w hv hI hm hf h21 h1
  by_cases h23 : 23 < (insZ p.fs l).1
  · exact do_ask v p A c l self now w hv hI hm hf h23
  by_cases h2 : (insZ p.fs l).1 = 2
  · exact do_store v p A c l self now w hv hI hm hf h2
  by_cases h17 : (insZ p.fs l).1 = 17
  · exact do_drop v p A c l self now w hv hI hm hf h17
  by_cases h18 : (insZ p.fs l).1 = 18
  · exact do_jump v p A c l self now w hv hI hm hf h18
  by_cases h19 : (insZ p.fs l).1 = 19
  · exact do_zero v p A c l self now w hv hI hm hf h19
  by_cases e0 : (insZ p.fs l).1 = 0
  · exact do_push v p A c l self now w hv hI hm hf e0
  by_cases e1 : (insZ p.fs l).1 = 1
  · exact do_load v p A c l self now w hv hI hm hf e1
  by_cases e22 : (insZ p.fs l).1 = 22
  · exact do_self v p A c l self now w hv hI hm hf e22
  by_cases e23 : (insZ p.fs l).1 = 23
  · exact do_now v p A c l self now w hv hI hm hf e23
  by_cases e8 : (insZ p.fs l).1 = 8
  · exact do_neg v p A c l self now w hv hI hm hf e8
  by_cases e16 : (insZ p.fs l).1 = 16
  · exact do_dup v p A c l self now w hv hI hm hf e16
  exact do_word v p A c l self now w hv hI hm hf (by omega) (by omega) e8
end Go.Proofs.YtjbcmedljgafkaaDoor.pgm.exe

/-
  The document's own frames behind so many instructions, of a program that may run. At most a thousand arguments; at most 2^62 steps.
-/

namespace Go.Proofs.YtjbcmedljgafkaaDoor.pgm.exe
open Go.RowKit Go.ChangeShapes
open Go.Proofs.YtjbcmedljgafkaaDoor.pgm
open Go.Proofs.YtjbcmedljgafkaaDoor.objs (De zero cells3)
open Go.Proofs.YtjbcmedljgafkaaDoor.frames (Fr num cnt topF In newF FsAt)
open Go.Proofs.YtjbcmedljgafkaaDoor.nums (NAt)
open Go.Proofs.YtjbcmedljgafkaaDoor.oper (numb ly)
set_option linter.unusedVariables false
set_option linter.unusedSimpArgs false

theorem fit_push {fs : List Fn} (hm : May fs) {k : Nat} {l : List Fr} (h : FitL fs ((k + 1 : Nat) : Int) l) : ∃ y, Go.Proofs.YtjbcmedljgafkaaDoor.frames.pushF l 1 = some y ∧ FitL fs (k : Int) y := by
  obtain ⟨r, f, rfl, hr, ⟨i, a, d, hA, hi, ha, hd, h0⟩, hrs⟩ := h
  have h16 := (hm.sound hi).2 a
  refine ⟨_, f_push r f 1 (by rw [hA.n]; exact h0) (by rw [hA.n]; omega), r, _, rfl, hr, ⟨i, a, d, ?_, hi, ha, hd, by omega⟩, hrs⟩
  have := hA.push 1
  rwa [show d - ((k + 1 : Nat) : Int) + 1 = d - (k : Int) by omega] at this
theorem FitL.short {fs : List Fn} {k : Int} {l : List Fr} (h : FitL fs k l) : l.length ≤ 8 := by
  obtain ⟨r, f, rfl, hr, _⟩ := h
  rw [List.length_append, List.length_singleton]
  omega

theorem field_op (x : De) (W : World) : (Instr.field 55 (.agg #[.int .i64 x.1, .int .i64 x.2.1, .int .i64 x.2.2]) 0).run Tryd.prog W = .ok (.int .i64 x.1) W := by
  simp [Instr.field, run_underlying Tryd.underlying55, go_sem, asAgg, part, isAgg, run_underlying Tryd.underlying3, Result.andThen]
set_option maxRecDepth 100000 in
set_option maxHeartbeats 16000000 in
theorem refRun_any (v : Value) (p : Pg) (B : Option Addr) (cb' : Nat) (args : List Int) (i N : Nat) (steps : Int) (w : World) (hv : PAt w v p) (hm : May p.fs) (hi : i < p.fs.length) (hB : NAt w B args) (hl : args.length ≤ 1000) (hN : N = steps.toNat) (hs : steps ≤ 4611686018427387904) :
    Calls Tryd.prog 17 #[v, .int .i64 (i : Int), .slice B args.length cb', .int .i64 steps] w fun e w' => ∃ A c n, e = .returned (.tuple #[.slice A (runZ p.fs N [newF (i : Int) args]).length c, .int .i64 n]) ∧ In w' A c (runZ p.fs N [newF (i : Int) args]) ∧ Below w.heap.size w w' := by
  obtain ⟨R, hR⟩ : ∃ R, R = runZ p.fs N [newF (i : Int) args] := ⟨_, rfl⟩
  rw [← hR]
  have HR0 := Lib.hid hR
  have HF0 := Lib.hid (new_fit hm hi args)
  have HM := Lib.hid hm
  have HNw := fun W (h : Below w.heap.size w W) => Lib.hid (Go.Proofs.YtjbcmedljgafkaaDoor.frames.refNew_row (i : Int) B cb' args hl W (hB.next h))
  have HV := Lib.hid hv
  obtain ⟨A0, B0, C0, ca, cb, cc, rfl, -, -, -⟩ := hv
  have HNn := Lib.hid hN
  clear hR hm hB hl hi hN
  have HBx0 : Hid (Below w.heap.size w (w.alloc (.cells #[.slice A0 p.ds.length ca, .slice B0 p.ws.length cb, .slice C0 p.fs.length cc] 26)) ∧ (w.alloc (.cells #[.slice A0 p.ds.length ca, .slice B0 p.ws.length cb, .slice C0 p.fs.length cc] 26)).heap[w.heap.size]? = some (.cells #[.slice A0 p.ds.length ca, .slice B0 p.ws.length cb, .slice C0 p.fs.length cc] 26 (0, 0))) := Lib.hid ⟨(Below.refl _ w).alloc (Nat.le_refl _) _, heap_alloc_new w _⟩
  go_enter Tryd.func17, Tryd.ntmps17
  go_upto_region 1 with fail
  generalize w.alloc (.cells #[.slice A0 p.ds.length ca, .slice B0 p.ws.length cb, .slice C0 p.fs.length cc] 26) = W0 at *
  have HNw0 := HNw W0 HBx0.out.1
  clear HNw
  go_wp2_with fail
  refine HNw0.out.mono ?_
  rintro _ w1 ⟨A1, c1, rfl, hF1, hb1, hc1, hn1⟩
  have HS1 : Hid (Below w.heap.size w w1 ∧ w1.heap[w.heap.size]? = some (.cells #[.slice A0 p.ds.length ca, .slice B0 p.ws.length cb, .slice C0 p.fs.length cc] 26 (0, 0))) := Lib.hid ⟨HBx0.out.1.trans (hb1.mono HBx0.out.1.size), (hb1.block _ (lt_of_block HBx0.out.2)).trans HBx0.out.2⟩
  have HI1 : Hid (In w1 A1 c1 [newF (i : Int) args]) := Lib.hid ⟨hF1, hc1, by simp, fun f hf => by rw [List.mem_singleton.1 hf]; exact (Go.Proofs.YtjbcmedljgafkaaDoor.frames.new_good _ _).1, fun h => absurd h hn1⟩
  clear hF1 hb1 hc1 hn1 HNw0 HBx0
  go_wp2_with fail
  go_loopw [10, 11] (fun s n wr => ∃ (k : Nat) (l : List Fr) (A : Option Addr) (c : Nat), s = .slice A l.length c ∧ n = .int .i64 (k : Int) ∧ k ≤ N ∧ Hid (R = runZ p.fs (N - k) l ∧ FitL p.fs 0 l ∧ In wr A c l) ∧ Hid (Below w.heap.size w wr ∧ wr.heap[w.heap.size]? = some (.cells #[.slice A0 p.ds.length ca, .slice B0 p.ws.length cb, .slice C0 p.fs.length cc] 26 (0, 0)))) (fun _ n _ => N - (intOf n).toNat)
  case atStart => exact ⟨0, [newF (i : Int) args], A1, c1, rfl, rfl, Nat.zero_le _, Lib.hid ⟨by rw [HR0.out]; rfl, HF0.out, HI1.out⟩, HS1⟩
  case round =>
    clear HR0 HF0 HI1 HS1
    obtain ⟨k, l, A, c, rfl, rfl, hk, HH, HW⟩ := hrel
    by_cases hlt : k < N
    · have hN := HNn.out
      have q1 : decide ((k : Int) < steps) = true := decide_eq_true (by omega)
      obtain ⟨hRl, hfit, hIl⟩ := HH.out
      obtain ⟨h0, hl8, i', a', hi', ha', hfn, hpc, hins, hchk, -⟩ := fit_facts HM.out hfit
      have HAt := Lib.hid (refAt_any _ p A c l wr (HV.out.next HW.out.1) hIl h0 hi' ha' hfn hpc)
      rw [← hins] at HAt
      unfold insV at HAt
      have hfo := field_op (insZ p.fs l)
      have HPs := fun W => Lib.hid (Go.Proofs.YtjbcmedljgafkaaDoor.oper.refPushes_any (insZ p.fs l).1 W)
      have HDo := fun W h1 h2 => Lib.hid (refDo15_any (.agg #[.slice A0 p.ds.length ca, .slice B0 p.ws.length cb, .slice C0 p.fs.length cc]) p A c l 3 5 W h1 h2 HM.out hfit)
      have hcame := do_came HM.out hfit 3 5
      have hly := Go.Proofs.YtjbcmedljgafkaaDoor.pgm.dep.lays_small (insZ p.fs l).1
      have hRs : R = match stepZ p.fs l with
        | none => l
        | some x => runZ p.fs (N - (k + 1)) x := by
        rw [hRl, show N - k = (N - (k + 1)) + 1 by omega]
        rfl
      unfold stepZ at hRs
      unfold DoPost at HDo
      have HIl := Lib.hid hIl
      generalize insZ p.fs l = x at *
      generalize doZ p.fs l 3 5 = q at *
      obtain ⟨dl, de, df⟩ := q
      dsimp only at hRs HDo hcame
      obtain ⟨L, hL⟩ : ∃ L : Nat, numb ly x.1 = (L : Int) := ⟨(numb ly x.1).toNat, by omega⟩
      rw [hL] at HPs hRs
      rw [Int.toNat_natCast] at hRs
      have HRs := Lib.hid hRs
      have HCame := Lib.hid hcame
      have HL := Lib.hid hL
      have HL8 := Lib.hid hl8
      obtain ⟨p0, p1, p2, -, -, -⟩ := cells3 HW.out.2
      clear hRl hfit hIl h0 hi' ha' hfn hpc hins hchk hRs hcame hly HH hL hl8 hN
      go_wp2_with fail
      refine HAt.out.mono ?_
      rintro _ w2 ⟨rfl, hb2⟩
      have HW2 : Hid (Below w.heap.size w w2 ∧ w2.heap[w.heap.size]? = some (.cells #[.slice A0 p.ds.length ca, .slice B0 p.ws.length cb, .slice C0 p.fs.length cc] 26 (0, 0))) := Lib.hid ⟨HW.out.1.trans (hb2.mono HW.out.1.size), (hb2.block _ (lt_of_block HW.out.2)).trans HW.out.2⟩
      have HI2 := Lib.hid (HIl.out.next hb2)
      clear hb2 HW HIl HAt p0 p1 p2
      go_wp2_with fail
      refine (HPs _).out.mono ?_
      rintro _ w3 ⟨rfl, hb3⟩
      have HW3 : Hid (Below w.heap.size w w3 ∧ w3.heap[w.heap.size]? = some (.cells #[.slice A0 p.ds.length ca, .slice B0 p.ws.length cb, .slice C0 p.fs.length cc] 26 (0, 0))) := Lib.hid ⟨HW2.out.1.trans (hb3.mono HW2.out.1.size), (hb3.block _ (lt_of_block HW2.out.2)).trans HW2.out.2⟩
      have HI3 := Lib.hid (HI2.out.next hb3)
      have HD3 := HDo w3 (HV.out.next HW3.out.1) HI3.out
      obtain ⟨p0, p1, p2, -, -, -⟩ := cells3 HW3.out.2
      clear hb3 HW2 HI2 HPs HDo hfo
      go_wp2_with fail
      refine HD3.out.mono ?_
      rintro _ w4 ⟨A4, c4, rfl, hI4, hb4⟩
      have HW4 : Hid (Below w.heap.size w w4 ∧ w4.heap[w.heap.size]? = some (.cells #[.slice A0 p.ds.length ca, .slice B0 p.ws.length cb, .slice C0 p.fs.length cc] 26 (0, 0))) := Lib.hid ⟨HW3.out.1.trans (hb4.mono HW3.out.1.size), (hb4.block _ (lt_of_block HW3.out.2)).trans HW3.out.2⟩
      have HI4 := Lib.hid hI4
      have HIl4 := Lib.hid (HI3.out.next hb4)
      clear hI4 hb4 HW3 HI3 HD3 p0 p1 p2
      go_upto_region 7 with (first | refine we_alloc rfl rfl ?_ | refine we_store rfl _ _ rfl w4.heap.size zE de rfl rfl (heap_alloc_new w4 (efB zE)) ?_)
      try simp only [Go.Act.put, List.setIfInBounds_toArray, List.set_cons_zero, List.set_cons_succ]
      refine wp_hold_world (fun W5 HW5 => ?_)
      have HB5 : Hid (Below w4.heap.size w4 W5 ∧ W5.heap[w4.heap.size]? = some (efB de)) := Lib.hid (by rw [HW5.out]; exact ⟨Go.Proofs.YtjbcmedljgafkaaDoor.frames.row_below ((Below.refl _ _).alloc (Nat.le_refl _) _) (Nat.le_refl _) _, row_turned (heap_alloc_new w4 (efB zE)) _⟩)
      have HW6 : Hid (Below w.heap.size w W5 ∧ W5.heap[w.heap.size]? = some (.cells #[.slice A0 p.ds.length ca, .slice B0 p.ws.length cb, .slice C0 p.fs.length cc] 26 (0, 0))) := Lib.hid ⟨HW4.out.1.trans (HB5.out.1.mono HW4.out.1.size), (HB5.out.1.block _ (lt_of_block HW4.out.2)).trans HW4.out.2⟩
      have HI5 := Lib.hid (HI4.out.next HB5.out.1)
      have HIl5 := Lib.hid (HIl4.out.next HB5.out.1)
      have o0 := ef_cell HB5.out.2 (j := 0) (v := .int .i64 de.op) rfl
      have HE5 := Lib.hid HB5.out.2
      generalize w4.heap.size = ge at *
      clear HW5 HB5 HW4 HI4 HIl4
      by_cases hf : df = 0
      · have e1 : (df != 0) = false := by simpa using hf
        by_cases ho : de.op = -2
        · have e2 : (de.op == -2) = true := by simpa using ho
          have HRl : Hid (R = l) := Lib.hid (by have := HRs.out; rw [if_pos (.inr ho)] at this; exact this)
          clear hf ho HRs HCame
          go_wp2_with fail
          go_ret2
          exact ⟨A, c, (k : Int), by rw [HRl.out]; rfl, by rw [HRl.out]; exact HIl5.out, HW6.out.1⟩
        · have e2 : (de.op == -2) = false := by simpa using ho
          have HRn : Hid (R = runZ p.fs (N - (k + 1)) (onesZ (if 0 ≤ de.op then L else 0) dl)) := Lib.hid (by have := HRs.out; rw [if_neg (by rintro (e | e); exact e hf; exact ho e)] at this; exact this)
          have HFn : Hid (FitL p.fs (((if 0 ≤ de.op then L else 0) : Nat) : Int) dl) := Lib.hid (by
            rcases HCame.out with ⟨h1, _⟩ | ⟨_, h1, _⟩ | ⟨_, _, h1, h2⟩
            · exact absurd hf h1
            · exact absurd h1 ho
            · by_cases h3 : 0 ≤ de.op
              · rw [if_pos h3] at h2 ⊢
                rw [h1 h3, HL.out] at h2
                exact h2
              · rw [if_neg h3] at h2 ⊢
                exact h2)
          obtain ⟨M, hM⟩ : ∃ M : Nat, M = if 0 ≤ de.op then L else 0 := ⟨_, rfl⟩
          rw [← hM] at HRn HFn
          have HMm := Lib.hid hM
          clear hf ho HRs HCame hM
          go_wp2_with fail
          clear o0 e1 e2
          go_loopw [13, 16] (fun s n wq => ∃ (j : Nat) (l2 : List Fr) (A2 : Option Addr) (c2 : Nat), s = .slice A2 l2.length c2 ∧ n = .int .i64 (j : Int) ∧ j ≤ M ∧ Hid (onesZ M dl = onesZ (M - j) l2 ∧ FitL p.fs ((M - j : Nat) : Int) l2 ∧ In wq A2 c2 l2) ∧ Hid (Below w.heap.size w wq ∧ wq.heap[w.heap.size]? = some (.cells #[.slice A0 p.ds.length ca, .slice B0 p.ws.length cb, .slice C0 p.fs.length cc] 26 (0, 0)) ∧ wq.heap[ge]? = some (efB de))) (fun _ n _ => M - (intOf n).toNat)
          case atStart => exact ⟨0, dl, A4, c4, rfl, rfl, Nat.zero_le _, Lib.hid ⟨rfl, HFn.out, HI5.out⟩, Lib.hid ⟨HW6.out.1, HW6.out.2, HE5.out⟩⟩
          case round =>
            clear HFn HI5 HW6 HE5 HIl5
            obtain ⟨j, l2, A2, c2, rfl, rfl, hj, HJ, HQ⟩ := hrel
            have o0 := ef_cell HQ.out.2.2 (j := 0) (v := .int .i64 de.op) rfl
            by_cases hjl : j < M
            · have hM := HMm.out
              have ho : 0 ≤ de.op := by
                by_cases h : 0 ≤ de.op
                · exact h
                · rw [if_neg h] at hM; omega
              rw [if_pos ho] at hM
              have t0 : decide ((j : Int) < (L : Int)) = true := decide_eq_true (by omega)
              have t0n : j < L := by omega
              have t1 : decide (de.op ≥ 0) = true := decide_eq_true ho
              have hlL : (L : Int) ≤ 2 := by have := Go.Proofs.YtjbcmedljgafkaaDoor.pgm.dep.lays_small x.1; rw [HL.out] at this; exact this.2
              obtain ⟨g1, g2, g3⟩ := HJ.out
              rw [show M - j = (M - (j + 1)) + 1 by omega] at g1 g2
              obtain ⟨y, hy, hfy⟩ := fit_push HM.out g2
              have HPu := Lib.hid (Go.Proofs.YtjbcmedljgafkaaDoor.frames.refPush_any A2 c2 l2 1 wr g3)
              unfold Go.Proofs.YtjbcmedljgafkaaDoor.frames.ListPost at HPu
              rw [hy] at HPu
              have HJ2 : Hid (onesZ M dl = onesZ (M - (j + 1)) y ∧ FitL p.fs ((M - (j + 1) : Nat) : Int) y) := Lib.hid ⟨by rw [g1]; show onesZ (M - (j + 1)) ((Go.Proofs.YtjbcmedljgafkaaDoor.frames.pushF l2 1).getD []) = _; rw [hy]; rfl, hfy⟩
              have HLg := Lib.hid (lt_of_block HQ.out.2.2)
              clear HJ g1 g2 g3 hy hfy hM ho
              go_wp2_with fail
              refine HPu.out.mono ?_
              rintro _ w7 ⟨hb7, A7, c7, rfl, hI7⟩
              have HQ7 : Hid (Below w.heap.size w w7 ∧ w7.heap[w.heap.size]? = some (.cells #[.slice A0 p.ds.length ca, .slice B0 p.ws.length cb, .slice C0 p.fs.length cc] 26 (0, 0)) ∧ w7.heap[ge]? = some (efB de)) := Lib.hid ⟨HQ.out.1.trans (hb7.mono HQ.out.1.size), (hb7.block _ (lt_of_block HQ.out.2.1)).trans HQ.out.2.1, (hb7.block _ HLg.out).trans HQ.out.2.2⟩
              have HI7 := Lib.hid hI7
              clear hb7 hI7 HQ HPu HLg o0
              go_wp2_with fail
              go_roundw
              case rel => exact ⟨j + 1, y, A7, c7, rfl, by go_num, by omega, Lib.hid ⟨HJ2.out.1, HJ2.out.2, HI7.out⟩, HQ7⟩
              case measure => simp [intOf]; omega
            · obtain rfl : j = M := by omega
              have hlL : 0 ≤ (L : Int) ∧ (L : Int) ≤ 2 := by have := Go.Proofs.YtjbcmedljgafkaaDoor.pgm.dep.lays_small x.1; rw [HL.out] at this; exact this
              obtain ⟨g1, g2, g3⟩ := HJ.out
              rw [Nat.sub_self] at g1 g2
              have HRx : Hid (R = runZ p.fs (N - (k + 1)) l2 ∧ FitL p.fs 0 l2 ∧ In wr A2 c2 l2) := Lib.hid ⟨by rw [HRn.out, g1]; rfl, g2, g3⟩
              have HQ2 := Lib.hid (And.intro HQ.out.1 HQ.out.2.1)
              have hM := HMm.out
              have hkN : (k : Int) + 1 ≤ 4611686018427387904 := by have := HNn.out; omega
              have hL8 : l2.length ≤ 8 := g2.short
              have HLe := Lib.hid hL8
              clear HJ g1 g2 g3 HRn hL8 HQ
              by_cases ho : 0 ≤ de.op
              · rw [if_pos ho] at hM
                subst hM
                have t0 : decide ((j : Int) < (j : Int)) = false := decide_eq_false (by omega)
                have t0n : (j < j) = False := eq_false (by omega)
                clear ho
                go_wp2_with fail
                go_roundw
                case rel => exact ⟨k + 1, l2, A2, c2, rfl, by go_num, by omega, HRx, HQ2⟩
                case measure => simp [intOf]; omega
              · rw [if_neg ho] at hM
                have t1 : decide (de.op ≥ 0) = false := decide_eq_false ho
                clear ho
                by_cases hL0 : (j : Int) < (L : Int)
                · have t0 : decide ((j : Int) < (L : Int)) = true := decide_eq_true hL0
                  have t0n : j < L := by omega
                  clear hM hL0
                  go_wp2_with fail
                  go_roundw
                  case rel => exact ⟨k + 1, l2, A2, c2, rfl, by go_num, by omega, HRx, HQ2⟩
                  case measure => simp [intOf]; omega
                · have t0 : decide ((j : Int) < (L : Int)) = false := decide_eq_false hL0
                  have t0n : (j < L) = False := eq_false (by omega)
                  clear hM hL0
                  go_wp2_with fail
                  go_roundw
                  case rel => exact ⟨k + 1, l2, A2, c2, rfl, by go_num, by omega, HRx, HQ2⟩
                  case measure => simp [intOf]; omega
      · have e1 : (df != 0) = true := by simpa using hf
        have HRl : Hid (R = l) := Lib.hid (by have := HRs.out; rw [if_pos (.inl hf)] at this; exact this)
        clear hf HRs HCame
        go_wp2_with fail
        go_ret2
        exact ⟨A, c, (k : Int), by rw [HRl.out]; rfl, by rw [HRl.out]; exact HIl5.out, HW6.out.1⟩
    · obtain rfl : k = N := by omega
      have hN := HNn.out
      have q1 : decide ((k : Int) < steps) = false := decide_eq_false (by omega)
      obtain ⟨hRl, -, hIl⟩ := HH.out
      rw [Nat.sub_self] at hRl
      have HRl : Hid (R = l ∧ In wr A c l) := Lib.hid ⟨hRl, hIl⟩
      clear HH hRl hIl hN
      go_wp2_with fail
      go_ret2
      exact ⟨A, c, steps, by rw [HRl.out.1]; rfl, by rw [HRl.out.1]; exact HRl.out.2, HW.out.1⟩
end Go.Proofs.YtjbcmedljgafkaaDoor.pgm.exe

/-
  The document's own answer of what is wrong with an operand. A function's number is not below 0; at most 32 objects.
-/

namespace Go.Proofs.YtjbcmedljgafkaaDoor.pgm.ver
open Go.RowKit Go.ChangeShapes
open Go.Proofs.YtjbcmedljgafkaaDoor.pgm
open Go.Proofs.YtjbcmedljgafkaaDoor.objs (De zero DAt cells3 fits refFits_any)
open Go.Proofs.YtjbcmedljgafkaaDoor.oper (insBox)
set_option linter.unusedVariables false

theorem letter_ne {c d : UInt8} (h : c ≠ d) : ((c.toNat : Int) == (d.toNat : Int)) = false ∧ ((c.toNat : Int) != (d.toNat : Int)) = true := by
  have : c.toNat ≠ d.toNat := fun e => h (UInt8.toNat_inj.1 e)
  constructor
  · exact beq_eq_false_iff_ne.2 (by omega)
  · exact bne_iff_ne.2 (by omega)

set_option maxRecDepth 100000 in
set_option maxHeartbeats 2000000 in
theorem refObject_any (c : UInt8) (w : World) : Calls Tryd.prog 75 #[.int .u8 (c.toNat : Int)] w fun e w' => e = .returned (.bool (objV c)) ∧ w = w' := by
  by_cases h1 : c = 110
  · subst h1
    go_enter Tryd.func75, Tryd.ntmps75
    go_wp2
    go_ret
    exact ⟨rfl, rfl⟩
  by_cases h2 : c = 107
  · subst h2
    go_enter Tryd.func75, Tryd.ntmps75
    go_wp2
    go_ret
    exact ⟨rfl, rfl⟩
  by_cases h3 : c = 116
  · subst h3
    go_enter Tryd.func75, Tryd.ntmps75
    go_wp2
    go_ret
    exact ⟨rfl, rfl⟩
  by_cases h4 : c = 102
  · subst h4
    go_enter Tryd.func75, Tryd.ntmps75
    go_wp2
    go_ret
    exact ⟨rfl, rfl⟩
  by_cases h5 : c = 119
  · subst h5
    go_enter Tryd.func75, Tryd.ntmps75
    go_wp2
    go_ret
    exact ⟨rfl, rfl⟩
  by_cases h6 : c = 106
  · subst h6
    go_enter Tryd.func75, Tryd.ntmps75
    go_wp2
    go_ret
    exact ⟨rfl, rfl⟩
  have hv : objV c = true := decide_eq_true ⟨h1, h2, h3, h4, h5, h6⟩
  rw [hv]
  have n1 : ((c.toNat : Int) != 110) = true := (letter_ne h1).2
  have n2 : ((c.toNat : Int) != 107) = true := (letter_ne h2).2
  have n3 : ((c.toNat : Int) != 116) = true := (letter_ne h3).2
  have n4 : ((c.toNat : Int) != 102) = true := (letter_ne h4).2
  have n5 : ((c.toNat : Int) != 119) = true := (letter_ne h5).2
  have n6 : ((c.toNat : Int) != 106) = true := (letter_ne h6).2
  clear h1 h2 h3 h4 h5 h6 hv
  go_enter Tryd.func75, Tryd.ntmps75
  go_wp2
  go_ret
  exact ⟨rfl, rfl⟩
end Go.Proofs.YtjbcmedljgafkaaDoor.pgm.ver
