/-
  Texts of one claim in one file: ZDoC. Each has its own sentence, with its conditions.
-/
import Derived.Test.YtjbcmedljgafkaaDoorZq17
/-
  The document's own Do: ret. The program may run, and the frames come of it.
-/

namespace Go.Proofs.YtjbcmedljgafkaaDoor.pgm.exe
open Go.RowKit Go.ChangeShapes
open Go.Proofs.YtjbcmedljgafkaaDoor.pgm
open Go.Proofs.YtjbcmedljgafkaaDoor.objs (De zero cells3 put3 put3_same put3_below put3_far DAt)
open Go.Proofs.YtjbcmedljgafkaaDoor.frames (Fr num cnt topF goF In refGo_any FrsPost)
open Go.Proofs.YtjbcmedljgafkaaDoor.oper (pops numb tk)
set_option linter.unusedVariables false
set_option linter.unusedSimpArgs false

set_option maxRecDepth 100000 in
set_option maxHeartbeats 4000000 in
theorem do_ret1 (v : Value) (p : Pg) (A : Option Addr) (c : Nat) (l : List Fr) (self now : Int) (w : World) (hv : PAt w v p) (hI : In w A c l) (hm : May p.fs) (hfit : FitL p.fs 0 l) (hop : (insZ p.fs l).1 = 21) (hl1 : l.length = 1) :
    Calls Tryd.prog 11 #[v, .slice A l.length c, .int .i64 self, .int .i64 now] w (DoPost (doZ p.fs l self now) w) := by
  obtain ⟨h0, hl8, i, a, hi, ha, hfn, hpc, hins, hchk, ha200⟩ := fit_facts hm hfit
  have HAt := fun W (h : Below w.heap.size w W) => Lib.hid (refAt_any v p A c l W (hv.next h) (hI.next h) h0 hi ha hfn hpc)
  rw [← hins] at HAt
  have HGo := fun W (h : Below w.heap.size w W) => Lib.hid (refGo_any A c l ((a : Int) + 1) W (hI.next h))
  have hqe : doZ p.fs l self now = doZ p.fs l self now := rfl
  obtain ⟨q, hq⟩ : ∃ q, q = doZ p.fs l self now := ⟨_, rfl⟩
  rw [← hq]
  have hnext : nextF l = goF l ((a : Int) + 1) := by unfold nextF; rw [hpc]
  unfold doZ at hq
  rw [hnext] at hq
  dsimp only at hq
  obtain ⟨rv, hret⟩ := (fit_ret hm hfit hop).1 hl1
  rw [if_neg (by omega), if_pos hop, if_pos hl1, hret] at hq
  replace hq : q = ([], (⟨-2, 0, 0, [rv]⟩ : Ef), 0) := hq
  have HRe : ∀ W, Below w.heap.size w W → Hid (Calls Tryd.prog 25 #[.slice A l.length c] W fun e w' => Below W.heap.size W w' ∧ ∃ A c, e = .returned (.tuple #[.slice A 0 c, .int .i64 rv, .bool true]) ∧ In w' A c []) := fun W h => Lib.hid (by
    have h1 := Go.Proofs.YtjbcmedljgafkaaDoor.frames.refRet_any A c l W (hI.next h)
    unfold Go.Proofs.YtjbcmedljgafkaaDoor.frames.RetPost at h1
    rw [hret] at h1
    exact h1)
  have HQ := Lib.hid hq
  obtain ⟨A0, B0, C0, ca, cb, cc, rfl, -, -, hF⟩ := id hv
  obtain ⟨b, off, m, rfl, hm1, hb, hFc, hl27⟩ := hI.top h0
  have hlen := hI.len
  have hcap := hI.cap
  have HI := Lib.hid hI
  have hpcc := hFc 1 (by omega)
  rw [hpc] at hpcc
  have HPc := Lib.hid (And.intro hb hpcc)
  have HM := Lib.hid hm1
  have e20 : ((insZ p.fs l).1 == 20) = false := by rw [hop]; rfl
  have e21 : ((insZ p.fs l).1 == 21) = true := by rw [hop]; rfl
  have e1 : (((m + 1 : Nat) : Int) == 1) = true := by simp; omega
  rw [hm1] at HRe
  clear hret
  clear hop hl1
  generalize insZ p.fs l = x at *
  rw [hm1] at HAt HGo hlen hcap ⊢
  have k0 : (0 : Int) ≤ (m : Int) := by omega
  have k1 : (m : Int) < ((m + 1 : Nat) : Int) := by omega
  have k2 : (m : Int) < (m : Int) + 1 := by omega
  have hw0 : IntKind.i64.wrap ((m : Int) + 1 - 1) = (m : Int) := by rw [IntKind.wrap_i64]; omega
  have hw1 : IntKind.i64.wrap (m : Int) = (m : Int) := by rw [IntKind.wrap_i64]; omega
  have hwa : IntKind.i64.wrap ((a : Int) + 1) = (a : Int) + 1 := by rw [IntKind.wrap_i64]; omega
  clear hl8 hm1 hv hI hfit h0 hi ha hfn hpc hins hq hnext hqe hF hFc hl27 hm hpcc
  go_enter Tryd.func11, Tryd.ntmps11
  go_upto_region 1 with fail
  refine wp_hold_world (fun W1 HW1 => ?_)
  have h1 := HW1.out
  have hb1 : Below w.heap.size w W1 := by rw [h1]; exact ((Below.refl _ w).alloc (Nat.le_refl _) _).alloc (by rw [World.size_alloc]; omega) _
  have hx1 : W1.heap[w.heap.size]? = some (.cells #[.slice A0 p.ds.length ca, .slice B0 p.ws.length cb, .slice C0 p.fs.length cc] 26 (0, 0)) := by rw [h1]; exact (Below.heap_alloc _ _ _ (by rw [World.size_alloc]; omega)).trans (heap_alloc_new w _)
  obtain ⟨p0, p1, p2, -, -, -⟩ := cells3 hx1
  have HA1 := HAt W1 hb1
  have H1 := Lib.hid h1
  have HB1 := Lib.hid hb1
  clear h1 hb1 hx1 HAt
  go_wp2_with fail
  refine HA1.out.mono ?_
  rintro _ w1 ⟨rfl, hbw⟩
  have m0 := Lib.hid ((Below.heap_alloc (w1.alloc (insO zero)) (efB zE) _ (by rw [World.size_alloc]; omega)).trans (heap_alloc_new w1 (insO zero)))
  have m1 := Lib.hid ((Go.Proofs.YtjbcmedljgafkaaDoor.frames.row_far (insC x).toArray (show (w1.alloc (insO zero)).heap.size ≠ w1.heap.size by rw [World.size_alloc]; omega)).trans (heap_alloc_new (w1.alloc (insO zero)) (efB zE)))
  go_upto_region 2 with (first | refine we_build rfl rfl ?_ | refine wi_alloc rfl rfl ?_ | refine we_alloc rfl rfl ?_ | refine wi_store rfl _ _ rfl w1.heap.size zero x rfl rfl m0.out ?_ | refine we_store rfl _ _ rfl (w1.alloc (insO zero)).heap.size zE noE rfl rfl m1.out ?_)
  simp only [Go.Act.put, List.setIfInBounds_toArray, List.set_cons_zero, List.set_cons_succ, World.size_alloc]
  refine wp_hold_world (fun W2 HW2 => ?_)
  have HZ : Hid (Zd w _ w1.heap.size x W2) := Lib.hid (by rw [HW2.out]; exact zd_new H1.out hbw)
  generalize w1.heap.size = g at *
  clear HW2 m0 m1 hbw p0 p1 p2 H1 HB1 HA1
  have c1 := (HZ.out.below.cell (p := ⟨b, off + m * 27 + 1, none⟩) HPc.out.1).trans HPc.out.2
  have HGo2 := HGo W2 HZ.out.below
  clear HGo
  go_wp2_with fail
  refine HGo2.out.mono ?_
  rintro _ w3 ⟨A1, c3, rfl, hI1, hb3⟩
  have HZ3 := Lib.hid (HZ.out.next hb3)
  have HI1 := Lib.hid hI1
  clear hI1 hb3 HZ HGo2 c1 HPc
  obtain ⟨x0, x1, x2⟩ := ins_cells HZ3.out.b2
  have HRe3 := HRe w3 HZ3.out.below
  clear HRe
  go_wp2_with fail
  refine HRe3.out.mono ?_
  rintro _ w4 ⟨hb4, A2, c2, rfl, hI2⟩
  have HZ4 := Lib.hid (HZ3.out.next hb4)
  have HI2 := Lib.hid hI2
  clear hI2 hb4 HRe3 x0 x1 x2
  have y0 := ef_cell HZ4.out.b3 (j := 0) (v := .int .i64 (-1)) rfl
  have y3 := ef_cell HZ4.out.b3 (j := 3) (v := .int .i64 0) rfl
  have yf0 := ef_free HZ4.out.b3 0
  have yf3 := ef_free HZ4.out.b3 3
  go_upto_region 12 with fail
  refine wp_hold_world (fun W6 HW6 => ?_)
  have HZ6 : Hid (Zq w (g + 1) ⟨-2, 0, 0, [rv]⟩ W6) := Lib.hid (by rw [HW6.out]; exact zq_set0 HZ4.out (-2) rv)
  clear HW6 y0 y3 yf0 yf3
  refine Go.Proofs.YtjbcmedljgafkaaDoor.frames.wp_hold_act (fun a0 HA0 => ?_)
  have z0 : a0.tmps.size = 234 := by rw [HA0.out]; rfl
  have dd0 : a0.defers = [] := by rw [HA0.out]
  have f0_16 : a0.eval (.tmp 16) = .slice A2 0 c2 := by rw [HA0.out]; rfl
  have f0_12 : a0.eval (.tmp 12) = .pointer (some ⟨g + 1, 0, none⟩) := by rw [HA0.out]; rfl
  have f0_9 : a0.eval (.tmp 9) = .pointer (some ⟨w.heap.size + 1, 0, none⟩) := by rw [HA0.out]; rfl
  clear HA0
  have RB1 := HZ6.out.b1
  have RNE : g + 1 ≠ w.heap.size + 1 := by have := HZ6.out.far; omega
  refine wp_region_held_drew (S := fun w' => w'.heap[g + 1]? = some (efB (⟨-2, 0, 0, [rv]⟩ : Ef)) ∧ Below w.heap.size w w') (by kernel_rfl) (And.intro HZ6.out.be HZ6.out.below.drew) (fun hS => ?_)
  refine wpAnyH_take (i := 0) (v := .slice A2 0 c2) rfl (by kernel_rfl) (by kernel_rfl) (by kernel_rfl) (fun _ _ _ h => h) (Go.Proofs.YtjbcmedljgafkaaDoor.frames.yields_move rfl (.tmp 16) rfl f0_16) hS ?_
  obtain ⟨a1, hA1⟩ : ∃ a', a' = a0.put (some 82) (.slice A2 0 c2) := ⟨_, rfl⟩
  change wpAnyH _ _ _ _ _ _ _ (a0.put (some 82) (.slice A2 0 c2)) _
  rw [← hA1]
  have f1_82 : a1.eval (.tmp 82) = .slice A2 0 c2 := by rw [hA1]; exact Act.eval_put_same _ _ _ (by omega)
  have f1_12 : a1.eval (.tmp 12) = .pointer (some ⟨g + 1, 0, none⟩) := by rw [hA1]; exact (Act.eval_put_ne _ _ _ _ (by decide)).trans f0_12
  have f1_9 : a1.eval (.tmp 9) = .pointer (some ⟨w.heap.size + 1, 0, none⟩) := by rw [hA1]; exact (Act.eval_put_ne _ _ _ _ (by decide)).trans f0_9
  have z1 : a1.tmps.size = 234 := by rw [hA1, Act.size_put]; exact z0
  have dd1 : a1.defers = [] := by rw [hA1, Act.defers_put']; exact dd0
  clear hA1 z0 dd0 f0_16 f0_12 f0_9
  refine wpAnyH_take (i := 1) (v := efV (⟨-2, 0, 0, [rv]⟩ : Ef)) rfl (by kernel_rfl) (by kernel_rfl) (by kernel_rfl) (fun _ _ _ h => h) (yields_ef rfl (.tmp 12) rfl _ f1_12 (⟨-2, 0, 0, [rv]⟩ : Ef) (fun _ h => h.1)) hS ?_
  obtain ⟨a2, hA2⟩ : ∃ a', a' = a1.put (some 83) (efV (⟨-2, 0, 0, [rv]⟩ : Ef)) := ⟨_, rfl⟩
  change wpAnyH _ _ _ _ _ _ _ (a1.put (some 83) (efV (⟨-2, 0, 0, [rv]⟩ : Ef))) _
  rw [← hA2]
  have f2_83 : a2.eval (.tmp 83) = efV (⟨-2, 0, 0, [rv]⟩ : Ef) := by rw [hA2]; exact Act.eval_put_same _ _ _ (by omega)
  have f2_82 : a2.eval (.tmp 82) = .slice A2 0 c2 := by rw [hA2]; exact (Act.eval_put_ne _ _ _ _ (by decide)).trans f1_82
  have f2_9 : a2.eval (.tmp 9) = .pointer (some ⟨w.heap.size + 1, 0, none⟩) := by rw [hA2]; exact (Act.eval_put_ne _ _ _ _ (by decide)).trans f1_9
  have z2 : a2.tmps.size = 234 := by rw [hA2, Act.size_put]; exact z1
  have dd2 : a2.defers = [] := by rw [hA2, Act.defers_put']; exact dd1
  clear hA2 z1 dd1 f1_82 f1_12 f1_9
  refine wpAnyH_take (i := 2) (v := .slice A2 0 c2) rfl (by kernel_rfl) (by kernel_rfl) (by kernel_rfl) (fun _ _ _ h => h) (yields_assign rfl (.tmp 82) rfl f2_82) hS ?_
  obtain ⟨a3, hA3⟩ : ∃ a', a' = a2.put (some 8) (.slice A2 0 c2) := ⟨_, rfl⟩
  change wpAnyH _ _ _ _ _ _ _ (a2.put (some 8) (.slice A2 0 c2)) _
  rw [← hA3]
  have f3_8 : a3.eval (.tmp 8) = .slice A2 0 c2 := by rw [hA3]; exact Act.eval_put_same _ _ _ (by omega)
  have f3_83 : a3.eval (.tmp 83) = efV (⟨-2, 0, 0, [rv]⟩ : Ef) := by rw [hA3]; exact (Act.eval_put_ne _ _ _ _ (by decide)).trans f2_83
  have f3_9 : a3.eval (.tmp 9) = .pointer (some ⟨w.heap.size + 1, 0, none⟩) := by rw [hA3]; exact (Act.eval_put_ne _ _ _ _ (by decide)).trans f2_9
  have z3 : a3.tmps.size = 234 := by rw [hA3, Act.size_put]; exact z2
  have dd3 : a3.defers = [] := by rw [hA3, Act.defers_put']; exact dd2
  clear hA3 z2 dd2 f2_83 f2_82 f2_9
  refine wpAnyH_ready (rs := [3]) (by kernel_rfl) (by simp) (AllReadyH.cons (by simp only [List.getElem?_toArray, List.getElem?_cons_succ, List.getElem?_cons_zero]; rfl) (fun K hK => ?_) AllReadyH.nil)
  refine step_ef (by rfl) (.tmp 9) (.tmp 83) (by rfl) (w.heap.size + 1) zE (⟨-2, 0, 0, [rv]⟩ : Ef) f3_9 f3_83 RB1 ?_
  refine hK.out _ _ ⟨(Go.Proofs.YtjbcmedljgafkaaDoor.frames.row_far _ RNE).trans hS.1, Go.Proofs.YtjbcmedljgafkaaDoor.frames.row_below hS.2 (Nat.le_succ _) _⟩ (fun hS => ?_)
  change wpAnyH _ _ _ _ _ _ _ a3 _
  refine wpAnyH_take (i := 4) (v := .int .i64 0) rfl (by kernel_rfl) (by kernel_rfl) (by kernel_rfl) (fun _ _ _ h => h) (yields_assign rfl _ rfl rfl) hS ?_
  obtain ⟨a4, hA4⟩ : ∃ a', a' = a3.put (some 10) (.int .i64 0) := ⟨_, rfl⟩
  change wpAnyH _ _ _ _ _ _ _ (a3.put (some 10) (.int .i64 0)) _
  rw [← hA4]
  have f4_10 : a4.eval (.tmp 10) = .int .i64 0 := by rw [hA4]; exact Act.eval_put_same _ _ _ (by omega)
  have f4_8 : a4.eval (.tmp 8) = .slice A2 0 c2 := by rw [hA4]; exact (Act.eval_put_ne _ _ _ _ (by decide)).trans f3_8
  have f4_9 : a4.eval (.tmp 9) = .pointer (some ⟨w.heap.size + 1, 0, none⟩) := by rw [hA4]; exact (Act.eval_put_ne _ _ _ _ (by decide)).trans f3_9
  have z4 : a4.tmps.size = 234 := by rw [hA4, Act.size_put]; exact z3
  have dd4 : a4.defers = [] := by rw [hA4, Act.defers_put']; exact dd3
  clear hA4 z3 dd3 f3_8 f3_83 f3_9
  refine wpAnyH_done (by kernel_rfl) ?_ _
  go_wp2_with fail
  exact do_ret HQ.out rfl f4_8 f4_9 f4_10 dd4 (row_turned RB1 _) (in_row (in_empty HI2.out W6.drew) RB1 (by decide) _) hS.2

set_option maxRecDepth 100000 in
set_option maxHeartbeats 4000000 in
theorem do_retn (v : Value) (p : Pg) (A : Option Addr) (c : Nat) (l : List Fr) (self now : Int) (w : World) (hv : PAt w v p) (hI : In w A c l) (hm : May p.fs) (hfit : FitL p.fs 0 l) (hop : (insZ p.fs l).1 = 21) (hl1 : l.length ≠ 1) :
    Calls Tryd.prog 11 #[v, .slice A l.length c, .int .i64 self, .int .i64 now] w (DoPost (doZ p.fs l self now) w) := by
  obtain ⟨h0, hl8, i, a, hi, ha, hfn, hpc, hins, hchk, ha200⟩ := fit_facts hm hfit
  have HAt := fun W (h : Below w.heap.size w W) => Lib.hid (refAt_any v p A c l W (hv.next h) (hI.next h) h0 hi ha hfn hpc)
  rw [← hins] at HAt
  have HGo := fun W (h : Below w.heap.size w W) => Lib.hid (refGo_any A c l ((a : Int) + 1) W (hI.next h))
  have hqe : doZ p.fs l self now = doZ p.fs l self now := rfl
  obtain ⟨q, hq⟩ : ∃ q, q = doZ p.fs l self now := ⟨_, rfl⟩
  rw [← hq]
  have hnext : nextF l = goF l ((a : Int) + 1) := by unfold nextF; rw [hpc]
  unfold doZ at hq
  rw [hnext] at hq
  dsimp only at hq
  obtain ⟨y, rv, hret⟩ := (fit_ret hm hfit hop).2 hl1
  rw [if_neg (by omega), if_pos hop, if_neg hl1, hret] at hq
  replace hq : q = (y, noE, 0) := hq
  have HRe : ∀ W, Below w.heap.size w W → Hid (Calls Tryd.prog 25 #[.slice A l.length c] W fun e w' => Below W.heap.size W w' ∧ ∃ A c, e = .returned (.tuple #[.slice A y.length c, .int .i64 rv, .bool true]) ∧ In w' A c y) := fun W h => Lib.hid (by
    have h1 := Go.Proofs.YtjbcmedljgafkaaDoor.frames.refRet_any A c l W (hI.next h)
    unfold Go.Proofs.YtjbcmedljgafkaaDoor.frames.RetPost at h1
    rw [hret] at h1
    exact h1)
  have HQ := Lib.hid hq
  obtain ⟨A0, B0, C0, ca, cb, cc, rfl, -, -, hF⟩ := id hv
  obtain ⟨b, off, m, rfl, hm1, hb, hFc, hl27⟩ := hI.top h0
  have hlen := hI.len
  have hcap := hI.cap
  have HI := Lib.hid hI
  have hpcc := hFc 1 (by omega)
  rw [hpc] at hpcc
  have HPc := Lib.hid (And.intro hb hpcc)
  have HM := Lib.hid hm1
  have e20 : ((insZ p.fs l).1 == 20) = false := by rw [hop]; rfl
  have e21 : ((insZ p.fs l).1 == 21) = true := by rw [hop]; rfl
  have e1 : (((m + 1 : Nat) : Int) == 1) = false := by simp; omega
  rw [hm1] at HRe
  clear hret
  clear hop hl1
  generalize insZ p.fs l = x at *
  rw [hm1] at HAt HGo hlen hcap ⊢
  have k0 : (0 : Int) ≤ (m : Int) := by omega
  have k1 : (m : Int) < ((m + 1 : Nat) : Int) := by omega
  have k2 : (m : Int) < (m : Int) + 1 := by omega
  have hw0 : IntKind.i64.wrap ((m : Int) + 1 - 1) = (m : Int) := by rw [IntKind.wrap_i64]; omega
  have hw1 : IntKind.i64.wrap (m : Int) = (m : Int) := by rw [IntKind.wrap_i64]; omega
  have hwa : IntKind.i64.wrap ((a : Int) + 1) = (a : Int) + 1 := by rw [IntKind.wrap_i64]; omega
  clear hl8 hm1 hv hI hfit h0 hi ha hfn hpc hins hq hnext hqe hF hFc hl27 hm hpcc
  go_enter Tryd.func11, Tryd.ntmps11
  go_upto_region 1 with fail
  refine wp_hold_world (fun W1 HW1 => ?_)
  have h1 := HW1.out
  have hb1 : Below w.heap.size w W1 := by rw [h1]; exact ((Below.refl _ w).alloc (Nat.le_refl _) _).alloc (by rw [World.size_alloc]; omega) _
  have hx1 : W1.heap[w.heap.size]? = some (.cells #[.slice A0 p.ds.length ca, .slice B0 p.ws.length cb, .slice C0 p.fs.length cc] 26 (0, 0)) := by rw [h1]; exact (Below.heap_alloc _ _ _ (by rw [World.size_alloc]; omega)).trans (heap_alloc_new w _)
  obtain ⟨p0, p1, p2, -, -, -⟩ := cells3 hx1
  have HA1 := HAt W1 hb1
  have H1 := Lib.hid h1
  have HB1 := Lib.hid hb1
  clear h1 hb1 hx1 HAt
  go_wp2_with fail
  refine HA1.out.mono ?_
  rintro _ w1 ⟨rfl, hbw⟩
  have m0 := Lib.hid ((Below.heap_alloc (w1.alloc (insO zero)) (efB zE) _ (by rw [World.size_alloc]; omega)).trans (heap_alloc_new w1 (insO zero)))
  have m1 := Lib.hid ((Go.Proofs.YtjbcmedljgafkaaDoor.frames.row_far (insC x).toArray (show (w1.alloc (insO zero)).heap.size ≠ w1.heap.size by rw [World.size_alloc]; omega)).trans (heap_alloc_new (w1.alloc (insO zero)) (efB zE)))
  go_upto_region 2 with (first | refine we_build rfl rfl ?_ | refine wi_alloc rfl rfl ?_ | refine we_alloc rfl rfl ?_ | refine wi_store rfl _ _ rfl w1.heap.size zero x rfl rfl m0.out ?_ | refine we_store rfl _ _ rfl (w1.alloc (insO zero)).heap.size zE noE rfl rfl m1.out ?_)
  simp only [Go.Act.put, List.setIfInBounds_toArray, List.set_cons_zero, List.set_cons_succ, World.size_alloc]
  refine wp_hold_world (fun W2 HW2 => ?_)
  have HZ : Hid (Zd w _ w1.heap.size x W2) := Lib.hid (by rw [HW2.out]; exact zd_new H1.out hbw)
  generalize w1.heap.size = g at *
  clear HW2 m0 m1 hbw p0 p1 p2 H1 HB1 HA1
  have c1 := (HZ.out.below.cell (p := ⟨b, off + m * 27 + 1, none⟩) HPc.out.1).trans HPc.out.2
  have HGo2 := HGo W2 HZ.out.below
  clear HGo
  go_wp2_with fail
  refine HGo2.out.mono ?_
  rintro _ w3 ⟨A1, c3, rfl, hI1, hb3⟩
  have HZ3 := Lib.hid (HZ.out.next hb3)
  have HI1 := Lib.hid hI1
  clear hI1 hb3 HZ HGo2 c1 HPc
  obtain ⟨x0, x1, x2⟩ := ins_cells HZ3.out.b2
  have HRe3 := HRe w3 HZ3.out.below
  clear HRe
  go_wp2_with fail
  refine HRe3.out.mono ?_
  rintro _ w4 ⟨hb4, A2, c2, rfl, hI2⟩
  have HZ4 := Lib.hid (HZ3.out.next hb4)
  have HI2 := Lib.hid hI2
  clear hI2 hb4 HRe3 x0 x1 x2
  go_upto_region 12 with fail
  refine Go.Proofs.YtjbcmedljgafkaaDoor.frames.wp_hold_act (fun a0 HA0 => ?_)
  have z0 : a0.tmps.size = 234 := by rw [HA0.out]; rfl
  have dd0 : a0.defers = [] := by rw [HA0.out]
  have f0_16 : a0.eval (.tmp 16) = .slice A2 y.length c2 := by rw [HA0.out]; rfl
  have f0_12 : a0.eval (.tmp 12) = .pointer (some ⟨g + 1, 0, none⟩) := by rw [HA0.out]; rfl
  have f0_9 : a0.eval (.tmp 9) = .pointer (some ⟨w.heap.size + 1, 0, none⟩) := by rw [HA0.out]; rfl
  clear HA0
  have RB1 := HZ4.out.b1
  have RNE : g + 1 ≠ w.heap.size + 1 := by have := HZ4.out.far; omega
  refine wp_region_held_drew (S := fun w' => w'.heap[g + 1]? = some (efB noE) ∧ Below w.heap.size w w') (by kernel_rfl) (And.intro HZ4.out.b3 HZ4.out.below.drew) (fun hS => ?_)
  refine wpAnyH_take (i := 0) (v := .slice A2 y.length c2) rfl (by kernel_rfl) (by kernel_rfl) (by kernel_rfl) (fun _ _ _ h => h) (Go.Proofs.YtjbcmedljgafkaaDoor.frames.yields_move rfl (.tmp 16) rfl f0_16) hS ?_
  obtain ⟨a1, hA1⟩ : ∃ a', a' = a0.put (some 82) (.slice A2 y.length c2) := ⟨_, rfl⟩
  change wpAnyH _ _ _ _ _ _ _ (a0.put (some 82) (.slice A2 y.length c2)) _
  rw [← hA1]
  have f1_82 : a1.eval (.tmp 82) = .slice A2 y.length c2 := by rw [hA1]; exact Act.eval_put_same _ _ _ (by omega)
  have f1_12 : a1.eval (.tmp 12) = .pointer (some ⟨g + 1, 0, none⟩) := by rw [hA1]; exact (Act.eval_put_ne _ _ _ _ (by decide)).trans f0_12
  have f1_9 : a1.eval (.tmp 9) = .pointer (some ⟨w.heap.size + 1, 0, none⟩) := by rw [hA1]; exact (Act.eval_put_ne _ _ _ _ (by decide)).trans f0_9
  have z1 : a1.tmps.size = 234 := by rw [hA1, Act.size_put]; exact z0
  have dd1 : a1.defers = [] := by rw [hA1, Act.defers_put']; exact dd0
  clear hA1 z0 dd0 f0_16 f0_12 f0_9
  refine wpAnyH_take (i := 1) (v := efV noE) rfl (by kernel_rfl) (by kernel_rfl) (by kernel_rfl) (fun _ _ _ h => h) (yields_ef rfl (.tmp 12) rfl _ f1_12 noE (fun _ h => h.1)) hS ?_
  obtain ⟨a2, hA2⟩ : ∃ a', a' = a1.put (some 83) (efV noE) := ⟨_, rfl⟩
  change wpAnyH _ _ _ _ _ _ _ (a1.put (some 83) (efV noE)) _
  rw [← hA2]
  have f2_83 : a2.eval (.tmp 83) = efV noE := by rw [hA2]; exact Act.eval_put_same _ _ _ (by omega)
  have f2_82 : a2.eval (.tmp 82) = .slice A2 y.length c2 := by rw [hA2]; exact (Act.eval_put_ne _ _ _ _ (by decide)).trans f1_82
  have f2_9 : a2.eval (.tmp 9) = .pointer (some ⟨w.heap.size + 1, 0, none⟩) := by rw [hA2]; exact (Act.eval_put_ne _ _ _ _ (by decide)).trans f1_9
  have z2 : a2.tmps.size = 234 := by rw [hA2, Act.size_put]; exact z1
  have dd2 : a2.defers = [] := by rw [hA2, Act.defers_put']; exact dd1
  clear hA2 z1 dd1 f1_82 f1_12 f1_9
  refine wpAnyH_take (i := 2) (v := .slice A2 y.length c2) rfl (by kernel_rfl) (by kernel_rfl) (by kernel_rfl) (fun _ _ _ h => h) (yields_assign rfl (.tmp 82) rfl f2_82) hS ?_
  obtain ⟨a3, hA3⟩ : ∃ a', a' = a2.put (some 8) (.slice A2 y.length c2) := ⟨_, rfl⟩
  change wpAnyH _ _ _ _ _ _ _ (a2.put (some 8) (.slice A2 y.length c2)) _
  rw [← hA3]
  have f3_8 : a3.eval (.tmp 8) = .slice A2 y.length c2 := by rw [hA3]; exact Act.eval_put_same _ _ _ (by omega)
  have f3_83 : a3.eval (.tmp 83) = efV noE := by rw [hA3]; exact (Act.eval_put_ne _ _ _ _ (by decide)).trans f2_83
  have f3_9 : a3.eval (.tmp 9) = .pointer (some ⟨w.heap.size + 1, 0, none⟩) := by rw [hA3]; exact (Act.eval_put_ne _ _ _ _ (by decide)).trans f2_9
  have z3 : a3.tmps.size = 234 := by rw [hA3, Act.size_put]; exact z2
  have dd3 : a3.defers = [] := by rw [hA3, Act.defers_put']; exact dd2
  clear hA3 z2 dd2 f2_83 f2_82 f2_9
  refine wpAnyH_ready (rs := [3]) (by kernel_rfl) (by simp) (AllReadyH.cons (by simp only [List.getElem?_toArray, List.getElem?_cons_succ, List.getElem?_cons_zero]; rfl) (fun K hK => ?_) AllReadyH.nil)
  refine step_ef (by rfl) (.tmp 9) (.tmp 83) (by rfl) (w.heap.size + 1) zE noE f3_9 f3_83 RB1 ?_
  refine hK.out _ _ ⟨(Go.Proofs.YtjbcmedljgafkaaDoor.frames.row_far _ RNE).trans hS.1, Go.Proofs.YtjbcmedljgafkaaDoor.frames.row_below hS.2 (Nat.le_succ _) _⟩ (fun hS => ?_)
  change wpAnyH _ _ _ _ _ _ _ a3 _
  refine wpAnyH_take (i := 4) (v := .int .i64 0) rfl (by kernel_rfl) (by kernel_rfl) (by kernel_rfl) (fun _ _ _ h => h) (yields_assign rfl _ rfl rfl) hS ?_
  obtain ⟨a4, hA4⟩ : ∃ a', a' = a3.put (some 10) (.int .i64 0) := ⟨_, rfl⟩
  change wpAnyH _ _ _ _ _ _ _ (a3.put (some 10) (.int .i64 0)) _
  rw [← hA4]
  have f4_10 : a4.eval (.tmp 10) = .int .i64 0 := by rw [hA4]; exact Act.eval_put_same _ _ _ (by omega)
  have f4_8 : a4.eval (.tmp 8) = .slice A2 y.length c2 := by rw [hA4]; exact (Act.eval_put_ne _ _ _ _ (by decide)).trans f3_8
  have f4_9 : a4.eval (.tmp 9) = .pointer (some ⟨w.heap.size + 1, 0, none⟩) := by rw [hA4]; exact (Act.eval_put_ne _ _ _ _ (by decide)).trans f3_9
  have z4 : a4.tmps.size = 234 := by rw [hA4, Act.size_put]; exact z3
  have dd4 : a4.defers = [] := by rw [hA4, Act.defers_put']; exact dd3
  clear hA4 z3 dd3 f3_8 f3_83 f3_9
  refine wpAnyH_done (by kernel_rfl) ?_ _
  go_wp2_with fail
  exact do_ret HQ.out rfl f4_8 f4_9 f4_10 dd4 (row_turned RB1 _) (in_row (HI2.out.next (Below.refl _ _).drew) RB1 (by decide) _) hS.2

end Go.Proofs.YtjbcmedljgafkaaDoor.pgm.exe
