/-
  Texts of one claim in one file: ZGoes. Each has its own sentence, with its conditions.
-/
import Derived.Test.YtjbcmedljgafkaaDoorZq48
import Derived.Test.YtjbcmedljgafkaaDoorZq29
import Derived.Test.YtjbcmedljgafkaaDoorZq10
/-
  That a program that may run never takes what is not there: the walk over what is asked of the program's calls. No condition but that the arguments came in. Printed by tools/zcome.py.
-/

namespace Go.Proofs.YtjbcmedljgafkaaDoor.pgm.exe
open Go.RowKit Go.ChangeShapes
open Go.Proofs.YtjbcmedljgafkaaDoor.pgm
open Go.Proofs.YtjbcmedljgafkaaDoor.objs (De zero DAt cells3)
open Go.Proofs.YtjbcmedljgafkaaDoor.frames (Fr num In zeroF refSame_yes topF)
open Go.Proofs.YtjbcmedljgafkaaDoor.nums (NAt)
open Go.Proofs.YtjbcmedljgafkaaDoor.pgm.ver (progV)
set_option linter.unusedVariables false
set_option linter.unusedSimpArgs false

set_option maxRecDepth 100000 in
set_option maxHeartbeats 3000000 in
theorem goes_walk {Ok : World → Prop} (K : Keeps Ok) (v : Value) (p : Pg) (s : St) (B : Option Addr) (cb' : Nat) (w : World) (hw : Ok w) (hg : PG w v p) (hB : NAt w B s.args) (hself : I64 s.self) (hnow : I64 s.now) :
    Calls Tryd.prog 4 #[v, stV s B s.args.length cb'] w fun e w' => e = .returned (.bool true) ∧ Below w.heap.size w w' := by
  have HK := Lib.hid K
  have HO := Lib.hid hw
  have HG := Lib.hid hg
  have HN := Lib.hid hB
  have HSe := Lib.hid (And.intro hself hnow)
  have HBe := fun v W h1 h2 => Lib.hid (begun_any v p s B cb' W h1 h2)
  have HL := fun W h => Lib.hid (lives_any K W h)
  have HM := Lib.hid K.mono
  have HOw := fun v W h => Lib.hid (own10_any v p W h)
  unfold OwnPost10 at HOw
  obtain ⟨r, hr⟩ : ∃ r, r = begunZ p s := ⟨_, rfl⟩
  rw [← hr] at HBe
  obtain ⟨A0, B0, C0, na, nb, nc, ca, cb, cc, hve, -⟩ := id hg
  subst hve
  have hBA : Below w.heap.size w ((w.alloc (.cells #[.slice A0 na ca, .slice B0 nb cb, .slice C0 nc cc] 26)).alloc (.cells #[.int .i64 s.fn, .slice B s.args.length cb', .int .i64 s.steps, .int .i64 s.self, .int .i64 s.now] 29)) := ((Below.refl _ w).alloc (Nat.le_refl _) _).alloc (by rw [World.size_alloc]; omega) _
  have hXA : ((w.alloc (.cells #[.slice A0 na ca, .slice B0 nb cb, .slice C0 nc cc] 26)).alloc (.cells #[.int .i64 s.fn, .slice B s.args.length cb', .int .i64 s.steps, .int .i64 s.self, .int .i64 s.now] 29)).heap[w.heap.size]? = some (.cells #[.slice A0 na ca, .slice B0 nb cb, .slice C0 nc cc] 26 (0, 0)) := (Below.heap_alloc _ _ _ (by rw [World.size_alloc]; omega)).trans (heap_alloc_new w _)
  have hYA : ((w.alloc (.cells #[.slice A0 na ca, .slice B0 nb cb, .slice C0 nc cc] 26)).alloc (.cells #[.int .i64 s.fn, .slice B s.args.length cb', .int .i64 s.steps, .int .i64 s.self, .int .i64 s.now] 29)).heap[w.heap.size + 1]? = some (.cells #[.int .i64 s.fn, .slice B s.args.length cb', .int .i64 s.steps, .int .i64 s.self, .int .i64 s.now] 29 (0, 0)) := by
    have h := heap_alloc_new (w.alloc (.cells #[.slice A0 na ca, .slice B0 nb cb, .slice C0 nc cc] 26)) (.cells #[.int .i64 s.fn, .slice B s.args.length cb', .int .i64 s.steps, .int .i64 s.self, .int .i64 s.now] 29)
    rwa [World.size_alloc] at h
  have H0 := Lib.hid (And.intro hBA (And.intro hXA hYA))
  unfold stV
  unfold stV at HBe
  clear hBA hXA hYA hB hw hg hself hnow K
  go_enter Tryd.func4, Tryd.ntmps4
  go_upto_region 1 with fail
  try simp only [World.size_alloc]
  generalize ((w.alloc (.cells #[.slice A0 na ca, .slice B0 nb cb, .slice C0 nc cc] 26)).alloc (.cells #[.int .i64 s.fn, .slice B s.args.length cb', .int .i64 s.steps, .int .i64 s.self, .int .i64 s.now] 29)) = W0 at *
  obtain ⟨x0, x1, x2, -, -, -⟩ := cells3 H0.out.2.1
  obtain ⟨y0, y1, y2, y3, y4⟩ := st_cells H0.out.2.2
  have HBg := HBe _ _ (HG.out.next H0.out.1) (HN.out.next H0.out.1)
  clear HBe HN
  go_wp2_with fail
  refine HBg.out.mono ?_
  rintro _ w1 ⟨hb1, hcase⟩
  clear x0 x1 x2 y0 y1 y2 y3 y4
  have H1 := Lib.hid (And.intro (H0.out.1.trans (hb1.mono H0.out.1.size)) (And.intro ((hb1.block _ (lt_of_block H0.out.2.1)).trans H0.out.2.1) ((hb1.block _ (lt_of_block H0.out.2.2)).trans H0.out.2.2)))
  clear hb1 HBg H0
  cases r with
  | none =>
    obtain rfl := hcase
    have HL1 := HL w1 (HM.out _ _ HO.out H1.out.1)
    clear HL HOw hr
    go_wp2_with fail
    refine HL1.out.mono ?_
    rintro _ w2 ⟨rfl, hb2⟩
    have H2 := Lib.hid (H1.out.1.trans (hb2.mono H1.out.1.size))
    clear hb2
    go_wp2
    go_ret
    exact ⟨rfl, H2.out⟩
  | some l =>
    obtain ⟨A, c, rfl, hI⟩ := hcase
    have HF := Lib.hid (begun_fit hr.symm)
    have hv := HG.out.whole (Go.Proofs.YtjbcmedljgafkaaDoor.pgm.ver.progV_zero HF.out.1).1
    have HV := Lib.hid hv
    have HI := Lib.hid hI
    obtain ⟨q, hq⟩ : ∃ q, q = doZ p.fs l s.self s.now := ⟨_, rfl⟩
    have HQ := Lib.hid hq
    obtain ⟨l2, e, k⟩ := q
    have HD : ∀ v3 W, Ok W → PAt W v3 p → In W A c l → Hid (Calls Tryd.prog 9 #[v3, .slice A l.length c, .int .i64 s.self, .int .i64 s.now] W fun e' w' => ∃ A3 c3, e' = .returned (.tuple #[.slice A3 l2.length c3, efV e, .int .i64 k]) ∧ In w' A3 c3 l2 ∧ Below W.heap.size W w') := fun v3 W h1 h2 h3 => Lib.hid (by
      have h := HK.out.do' v3 p A c l s.self s.now W h1 h2 HF.out.1 h3 HF.out.2.2 HSe.out.1 HSe.out.2
      unfold DoPost at h
      rw [← HQ.out] at h
      exact h)
    clear hI hr hv hq
    have HZ : Hid (Bz w [.slice A0 na ca, .slice B0 nb cb, .slice C0 nc cc] [.int .i64 s.fn, .slice B s.args.length cb', .int .i64 s.steps, .int .i64 s.self, .int .i64 s.now] A c A c l w1) := Lib.hid ⟨H1.out.1, H1.out.2.1, H1.out.2.2, HI.out, HI.out⟩
    have hcame := do_came HF.out.2.1 HF.out.2.2 s.self s.now
    rw [← HQ.out] at hcame
    unfold Came at hcame
    dsimp only at hcame
    have HC := Lib.hid hcame
    have HOf := fun fn W h => Lib.hid (Go.Proofs.YtjbcmedljgafkaaDoor.pgm.dep.refOf_any (.agg #[.slice A0 na ca, .slice B0 nb cb, .slice C0 nc cc]) p fn W h (Go.Proofs.YtjbcmedljgafkaaDoor.pgm.ver.progV_zero HF.out.1).1)
    unfold Go.Proofs.YtjbcmedljgafkaaDoor.pgm.dep.OfPost at HOf
    clear hcame HQ H1 HI HSe HK
    go_upto_region 4 with fail
    try simp only [Act.put, List.setIfInBounds_toArray, List.set_cons_zero, List.set_cons_succ]
    go_cut [7, 8, 9] (fun x y z wx => ∃ A3 c3 g, x = .slice A3 l2.length c3 ∧ y = .pointer (some ⟨g, 0, none⟩) ∧ z = .int .i64 k ∧ Hid (Bz w [.slice A0 na ca, .slice B0 nb cb, .slice C0 nc cc] [.int .i64 s.fn, .slice B s.args.length cb', .int .i64 s.steps, .int .i64 s.self, .int .i64 s.now] A c A c l wx ∧ In wx A3 c3 l2 ∧ wx.heap[g]? = some (efB e) ∧ w.heap.size + 1 < g))
    case first =>
      refine Go.Proofs.YtjbcmedljgafkaaDoor.frames.wp_hold_act (fun a0 HA0 => ?_)
      have z0 : a0.tmps.size = 120 := by rw [HA0.out]; rfl
      have dd0 : a0.defers = [] := by rw [HA0.out]
      have f0_2 : a0.eval (.tmp 2) = .pointer (some ⟨w.heap.size, 0, none⟩) := by rw [HA0.out]; rfl
      have f0_3 : a0.eval (.tmp 3) = .pointer (some ⟨w.heap.size + 1, 0, none⟩) := by rw [HA0.out]; rfl
      have f0_5 : a0.eval (.tmp 5) = .slice A l.length c := by rw [HA0.out]; rfl
      refine wp_region_held_drew (S := fun w' => Bz w [.slice A0 na ca, .slice B0 nb cb, .slice C0 nc cc] [.int .i64 s.fn, .slice B s.args.length cb', .int .i64 s.steps, .int .i64 s.self, .int .i64 s.now] A c A c l w') (by kernel_rfl) (HZ.out.next (Below.refl _ _).drew) (fun hS => ?_)
      refine wpAnyH_take (i := 0) (v := .agg #[.slice A0 na ca, .slice B0 nb cb, .slice C0 nc cc]) rfl (by kernel_rfl) (by kernel_rfl) (by kernel_rfl) (fun _ _ _ h => h) (yields_prog rfl (.tmp 2) rfl _ f0_2 _ rfl (fun _ h => h.b0)) hS ?_
      obtain ⟨a1, hA1⟩ : ∃ a', a' = a0.put (some 25) (.agg #[.slice A0 na ca, .slice B0 nb cb, .slice C0 nc cc]) := ⟨_, rfl⟩
      change wpAnyH _ _ _ _ _ _ _ (a0.put (some 25) (.agg #[.slice A0 na ca, .slice B0 nb cb, .slice C0 nc cc])) _
      rw [← hA1]
      have f1_25 : a1.eval (.tmp 25) = .agg #[.slice A0 na ca, .slice B0 nb cb, .slice C0 nc cc] := by rw [hA1]; exact Act.eval_put_same _ _ _ (by omega)
      have f1_3 : a1.eval (.tmp 3) = .pointer (some ⟨w.heap.size + 1, 0, none⟩) := by rw [hA1]; exact (Act.eval_put_ne _ _ _ _ (by decide)).trans f0_3
      have f1_5 : a1.eval (.tmp 5) = .slice A l.length c := by rw [hA1]; exact (Act.eval_put_ne _ _ _ _ (by decide)).trans f0_5
      have z1 : a1.tmps.size = 120 := by rw [hA1, Act.size_put]; exact z0
      have dd1 : a1.defers = [] := by rw [hA1, Act.defers_put']; exact dd0
      have HA1 := Lib.hid hA1
      clear hA1 z0 dd0 f0_2 f0_3 f0_5
      refine wpAnyH_take (i := 2) (v := .slice A l.length c) rfl (by kernel_rfl) (by kernel_rfl) (by kernel_rfl) (fun _ _ _ h => h) (Go.Proofs.YtjbcmedljgafkaaDoor.frames.yields_move rfl (.tmp 5) rfl f1_5) hS ?_
      obtain ⟨a2, hA2⟩ : ∃ a', a' = a1.put (some 27) (.slice A l.length c) := ⟨_, rfl⟩
      change wpAnyH _ _ _ _ _ _ _ (a1.put (some 27) (.slice A l.length c)) _
      rw [← hA2]
      have f2_27 : a2.eval (.tmp 27) = .slice A l.length c := by rw [hA2]; exact Act.eval_put_same _ _ _ (by omega)
      have f2_25 : a2.eval (.tmp 25) = .agg #[.slice A0 na ca, .slice B0 nb cb, .slice C0 nc cc] := by rw [hA2]; exact (Act.eval_put_ne _ _ _ _ (by decide)).trans f1_25
      have f2_3 : a2.eval (.tmp 3) = .pointer (some ⟨w.heap.size + 1, 0, none⟩) := by rw [hA2]; exact (Act.eval_put_ne _ _ _ _ (by decide)).trans f1_3
      have f2_5 : a2.eval (.tmp 5) = .slice A l.length c := by rw [hA2]; exact (Act.eval_put_ne _ _ _ _ (by decide)).trans f1_5
      have z2 : a2.tmps.size = 120 := by rw [hA2, Act.size_put]; exact z1
      have dd2 : a2.defers = [] := by rw [hA2, Act.defers_put']; exact dd1
      have HA2 := Lib.hid hA2
      clear hA2 z1 dd1 f1_25 f1_3 f1_5
      refine wpAnyH_take (i := 3) (v := .pointer (some ⟨w.heap.size + 1, 3, none⟩)) rfl (by kernel_rfl) (by kernel_rfl) (by kernel_rfl) (fun _ _ _ h => h) (yields_sfld rfl (.tmp 3) 3 (.inl rfl) rfl _ f2_3) hS ?_
      obtain ⟨a3, hA3⟩ : ∃ a', a' = a2.put (some 28) (.pointer (some ⟨w.heap.size + 1, 3, none⟩)) := ⟨_, rfl⟩
      change wpAnyH _ _ _ _ _ _ _ (a2.put (some 28) (.pointer (some ⟨w.heap.size + 1, 3, none⟩))) _
      rw [← hA3]
      have f3_28 : a3.eval (.tmp 28) = .pointer (some ⟨w.heap.size + 1, 3, none⟩) := by rw [hA3]; exact Act.eval_put_same _ _ _ (by omega)
      have f3_27 : a3.eval (.tmp 27) = .slice A l.length c := by rw [hA3]; exact (Act.eval_put_ne _ _ _ _ (by decide)).trans f2_27
      have f3_25 : a3.eval (.tmp 25) = .agg #[.slice A0 na ca, .slice B0 nb cb, .slice C0 nc cc] := by rw [hA3]; exact (Act.eval_put_ne _ _ _ _ (by decide)).trans f2_25
      have f3_3 : a3.eval (.tmp 3) = .pointer (some ⟨w.heap.size + 1, 0, none⟩) := by rw [hA3]; exact (Act.eval_put_ne _ _ _ _ (by decide)).trans f2_3
      have z3 : a3.tmps.size = 120 := by rw [hA3, Act.size_put]; exact z2
      have dd3 : a3.defers = [] := by rw [hA3, Act.defers_put']; exact dd2
      have HA3 := Lib.hid hA3
      clear hA3 z2 dd2 f2_27 f2_25 f2_3 f2_5
      refine wpAnyH_take (i := 4) (v := .int .i64 s.self) rfl (by kernel_rfl) (by kernel_rfl) (by kernel_rfl) (fun _ _ _ h => h) (yields_int rfl (.tmp 28) rfl _ f3_28 _ (fun _ h => cell_of h.b1 rfl)) hS ?_
      obtain ⟨a4, hA4⟩ : ∃ a', a' = a3.put (some 29) (.int .i64 s.self) := ⟨_, rfl⟩
      change wpAnyH _ _ _ _ _ _ _ (a3.put (some 29) (.int .i64 s.self)) _
      rw [← hA4]
      have f4_29 : a4.eval (.tmp 29) = .int .i64 s.self := by rw [hA4]; exact Act.eval_put_same _ _ _ (by omega)
      have f4_27 : a4.eval (.tmp 27) = .slice A l.length c := by rw [hA4]; exact (Act.eval_put_ne _ _ _ _ (by decide)).trans f3_27
      have f4_25 : a4.eval (.tmp 25) = .agg #[.slice A0 na ca, .slice B0 nb cb, .slice C0 nc cc] := by rw [hA4]; exact (Act.eval_put_ne _ _ _ _ (by decide)).trans f3_25
      have f4_3 : a4.eval (.tmp 3) = .pointer (some ⟨w.heap.size + 1, 0, none⟩) := by rw [hA4]; exact (Act.eval_put_ne _ _ _ _ (by decide)).trans f3_3
      have z4 : a4.tmps.size = 120 := by rw [hA4, Act.size_put]; exact z3
      have dd4 : a4.defers = [] := by rw [hA4, Act.defers_put']; exact dd3
      have HA4 := Lib.hid hA4
      clear hA4 z3 dd3 f3_28 f3_27 f3_25 f3_3
      refine wpAnyH_take (i := 5) (v := .pointer (some ⟨w.heap.size + 1, 4, none⟩)) rfl (by kernel_rfl) (by kernel_rfl) (by kernel_rfl) (fun _ _ _ h => h) (yields_sfld rfl (.tmp 3) 4 (.inr rfl) rfl _ f4_3) hS ?_
      obtain ⟨a5, hA5⟩ : ∃ a', a' = a4.put (some 30) (.pointer (some ⟨w.heap.size + 1, 4, none⟩)) := ⟨_, rfl⟩
      change wpAnyH _ _ _ _ _ _ _ (a4.put (some 30) (.pointer (some ⟨w.heap.size + 1, 4, none⟩))) _
      rw [← hA5]
      have f5_30 : a5.eval (.tmp 30) = .pointer (some ⟨w.heap.size + 1, 4, none⟩) := by rw [hA5]; exact Act.eval_put_same _ _ _ (by omega)
      have f5_29 : a5.eval (.tmp 29) = .int .i64 s.self := by rw [hA5]; exact (Act.eval_put_ne _ _ _ _ (by decide)).trans f4_29
      have f5_27 : a5.eval (.tmp 27) = .slice A l.length c := by rw [hA5]; exact (Act.eval_put_ne _ _ _ _ (by decide)).trans f4_27
      have f5_25 : a5.eval (.tmp 25) = .agg #[.slice A0 na ca, .slice B0 nb cb, .slice C0 nc cc] := by rw [hA5]; exact (Act.eval_put_ne _ _ _ _ (by decide)).trans f4_25
      have f5_3 : a5.eval (.tmp 3) = .pointer (some ⟨w.heap.size + 1, 0, none⟩) := by rw [hA5]; exact (Act.eval_put_ne _ _ _ _ (by decide)).trans f4_3
      have z5 : a5.tmps.size = 120 := by rw [hA5, Act.size_put]; exact z4
      have dd5 : a5.defers = [] := by rw [hA5, Act.defers_put']; exact dd4
      have HA5 := Lib.hid hA5
      clear hA5 z4 dd4 f4_29 f4_27 f4_25 f4_3
      refine wpAnyH_take (i := 6) (v := .int .i64 s.now) rfl (by kernel_rfl) (by kernel_rfl) (by kernel_rfl) (fun _ _ _ h => h) (yields_int rfl (.tmp 30) rfl _ f5_30 _ (fun _ h => cell_of h.b1 rfl)) hS ?_
      obtain ⟨a6, hA6⟩ : ∃ a', a' = a5.put (some 31) (.int .i64 s.now) := ⟨_, rfl⟩
      change wpAnyH _ _ _ _ _ _ _ (a5.put (some 31) (.int .i64 s.now)) _
      rw [← hA6]
      have f6_31 : a6.eval (.tmp 31) = .int .i64 s.now := by rw [hA6]; exact Act.eval_put_same _ _ _ (by omega)
      have f6_29 : a6.eval (.tmp 29) = .int .i64 s.self := by rw [hA6]; exact (Act.eval_put_ne _ _ _ _ (by decide)).trans f5_29
      have f6_27 : a6.eval (.tmp 27) = .slice A l.length c := by rw [hA6]; exact (Act.eval_put_ne _ _ _ _ (by decide)).trans f5_27
      have f6_25 : a6.eval (.tmp 25) = .agg #[.slice A0 na ca, .slice B0 nb cb, .slice C0 nc cc] := by rw [hA6]; exact (Act.eval_put_ne _ _ _ _ (by decide)).trans f5_25
      have z6 : a6.tmps.size = 120 := by rw [hA6, Act.size_put]; exact z5
      have dd6 : a6.defers = [] := by rw [hA6, Act.defers_put']; exact dd5
      have HA6 := Lib.hid hA6
      clear hA6 z5 dd5 f5_30 f5_29 f5_27 f5_25 f5_3
      refine wpAnyH_ready (rs := [1, 12]) (by kernel_rfl) (by simp) (AllReadyH.cons (by simp only [List.getElem?_toArray, List.getElem?_cons_succ, List.getElem?_cons_zero]; rfl) (fun K hK => ?_) (AllReadyH.cons (by simp only [List.getElem?_toArray, List.getElem?_cons_succ, List.getElem?_cons_zero]; rfl) (fun K hK => ?_) AllReadyH.nil))
      · skip
        have HO1 := HOw (.agg #[.slice A0 na ca, .slice B0 nb cb, .slice C0 nc cc]) w1.drew (HG.out.next hS.below)
        refine step_call (by rfl) 10 #[.tmp 25] #[26] (by rfl) #[.agg #[.slice A0 na ca, .slice B0 nb cb, .slice C0 nc cc]] (by simp only [List.map_toArray, List.map_cons, List.map_nil, f6_25]) Tryd.func10 (by kernel_rfl) rfl HO1.out (fun e' W1 hR => ?_)
        obtain ⟨v3, rfl, hst, hb1⟩ := hR
        refine ⟨_, rfl, hK.out _ _ (hS.next hb1) (fun hS => ?_)⟩
        have HP3 := Lib.hid hst.now.1
        obtain ⟨a7, hA7⟩ : ∃ a', a' = a6.put (some 26) (v3) := ⟨_, rfl⟩
        change wpAnyH _ _ _ _ _ _ _ (a6.put (some 26) (v3)) _
        rw [← hA7]
        have f7_26 : a7.eval (.tmp 26) = v3 := by rw [hA7]; exact Act.eval_put_same _ _ _ (by omega)
        have f7_31 : a7.eval (.tmp 31) = .int .i64 s.now := by rw [hA7]; exact (Act.eval_put_ne _ _ _ _ (by decide)).trans f6_31
        have f7_29 : a7.eval (.tmp 29) = .int .i64 s.self := by rw [hA7]; exact (Act.eval_put_ne _ _ _ _ (by decide)).trans f6_29
        have f7_27 : a7.eval (.tmp 27) = .slice A l.length c := by rw [hA7]; exact (Act.eval_put_ne _ _ _ _ (by decide)).trans f6_27
        have z7 : a7.tmps.size = 120 := by rw [hA7, Act.size_put]; exact z6
        have dd7 : a7.defers = [] := by rw [hA7, Act.defers_put']; exact dd6
        have HA7 := Lib.hid hA7
        clear hA7 z6 dd6 f6_31 f6_29 f6_27 f6_25
        refine wpAnyH_ready (rs := [7, 12]) (by kernel_rfl) (by simp) (AllReadyH.cons (by simp only [List.getElem?_toArray, List.getElem?_cons_succ, List.getElem?_cons_zero]; rfl) (fun K hK => ?_) (AllReadyH.cons (by simp only [List.getElem?_toArray, List.getElem?_cons_succ, List.getElem?_cons_zero]; rfl) (fun K hK => ?_) AllReadyH.nil))
        · skip
          have HD1 := HD v3 W1 (HM.out _ _ HO.out hS.below) HP3.out hS.i1
          refine step_call (by rfl) 9 #[.tmp 26, .tmp 27, .tmp 29, .tmp 31] #[26, 30, 3, 3] (by rfl) #[v3, .slice A l.length c, .int .i64 s.self, .int .i64 s.now] (by simp only [List.map_toArray, List.map_cons, List.map_nil, f7_26, f7_27, f7_29, f7_31]) Tryd.func9 (by kernel_rfl) rfl HD1.out (fun e' W2 hR => ?_)
          obtain ⟨A3, c3, rfl, hI3, hb2⟩ := hR
          refine ⟨_, rfl, hK.out _ _ (hS.next hb2) (fun hS => ?_)⟩
          obtain ⟨a8, hA8⟩ : ∃ a', a' = a7.put (some 32) (.tuple #[.slice A3 l2.length c3, efV e, .int .i64 k]) := ⟨_, rfl⟩
          change wpAnyH _ _ _ _ _ _ _ (a7.put (some 32) (.tuple #[.slice A3 l2.length c3, efV e, .int .i64 k])) _
          rw [← hA8]
          have f8_32 : a8.eval (.tmp 32) = .tuple #[.slice A3 l2.length c3, efV e, .int .i64 k] := by rw [hA8]; exact Act.eval_put_same _ _ _ (by omega)
          have z8 : a8.tmps.size = 120 := by rw [hA8, Act.size_put]; exact z7
          have dd8 : a8.defers = [] := by rw [hA8, Act.defers_put']; exact dd7
          have HA8 := Lib.hid hA8
          clear hA8 z7 dd7 f7_26 f7_31 f7_29 f7_27
          refine wpAnyH_take (i := 8) (v := .tuple #[.slice A3 l2.length c3, efV e, .int .i64 k]) rfl (by kernel_rfl) (by kernel_rfl) (by kernel_rfl) (fun _ _ _ h => h) (Go.Proofs.YtjbcmedljgafkaaDoor.frames.yields_move rfl (.tmp 32) rfl f8_32) hS ?_
          obtain ⟨a9, hA9⟩ : ∃ a', a' = a8.put (some 24) (.tuple #[.slice A3 l2.length c3, efV e, .int .i64 k]) := ⟨_, rfl⟩
          change wpAnyH _ _ _ _ _ _ _ (a8.put (some 24) (.tuple #[.slice A3 l2.length c3, efV e, .int .i64 k])) _
          rw [← hA9]
          have f9_24 : a9.eval (.tmp 24) = .tuple #[.slice A3 l2.length c3, efV e, .int .i64 k] := by rw [hA9]; exact Act.eval_put_same _ _ _ (by omega)
          have z9 : a9.tmps.size = 120 := by rw [hA9, Act.size_put]; exact z8
          have dd9 : a9.defers = [] := by rw [hA9, Act.defers_put']; exact dd8
          have HA9 := Lib.hid hA9
          clear hA9 z8 dd8 f8_32
          refine wpAnyH_take (i := 9) (v := .slice A3 l2.length c3) rfl (by kernel_rfl) (by kernel_rfl) (by kernel_rfl) (fun _ _ _ h => h) (yields_part rfl (.tmp 24) 0 rfl _ _ f9_24 rfl) hS ?_
          obtain ⟨a10, hA10⟩ : ∃ a', a' = a9.put (some 33) (.slice A3 l2.length c3) := ⟨_, rfl⟩
          change wpAnyH _ _ _ _ _ _ _ (a9.put (some 33) (.slice A3 l2.length c3)) _
          rw [← hA10]
          have f10_33 : a10.eval (.tmp 33) = .slice A3 l2.length c3 := by rw [hA10]; exact Act.eval_put_same _ _ _ (by omega)
          have f10_24 : a10.eval (.tmp 24) = .tuple #[.slice A3 l2.length c3, efV e, .int .i64 k] := by rw [hA10]; exact (Act.eval_put_ne _ _ _ _ (by decide)).trans f9_24
          have z10 : a10.tmps.size = 120 := by rw [hA10, Act.size_put]; exact z9
          have dd10 : a10.defers = [] := by rw [hA10, Act.defers_put']; exact dd9
          have HA10 := Lib.hid hA10
          clear hA10 z9 dd9 f9_24
          refine wpAnyH_take (i := 10) (v := efV e) rfl (by kernel_rfl) (by kernel_rfl) (by kernel_rfl) (fun _ _ _ h => h) (yields_part rfl (.tmp 24) 1 rfl _ _ f10_24 rfl) hS ?_
          obtain ⟨a11, hA11⟩ : ∃ a', a' = a10.put (some 34) (efV e) := ⟨_, rfl⟩
          change wpAnyH _ _ _ _ _ _ _ (a10.put (some 34) (efV e)) _
          rw [← hA11]
          have f11_34 : a11.eval (.tmp 34) = efV e := by rw [hA11]; exact Act.eval_put_same _ _ _ (by omega)
          have f11_33 : a11.eval (.tmp 33) = .slice A3 l2.length c3 := by rw [hA11]; exact (Act.eval_put_ne _ _ _ _ (by decide)).trans f10_33
          have f11_24 : a11.eval (.tmp 24) = .tuple #[.slice A3 l2.length c3, efV e, .int .i64 k] := by rw [hA11]; exact (Act.eval_put_ne _ _ _ _ (by decide)).trans f10_24
          have z11 : a11.tmps.size = 120 := by rw [hA11, Act.size_put]; exact z10
          have dd11 : a11.defers = [] := by rw [hA11, Act.defers_put']; exact dd10
          have HA11 := Lib.hid hA11
          clear hA11 z10 dd10 f10_33 f10_24
          refine wpAnyH_take (i := 11) (v := .int .i64 k) rfl (by kernel_rfl) (by kernel_rfl) (by kernel_rfl) (fun _ _ _ h => h) (yields_part rfl (.tmp 24) 2 rfl _ _ f11_24 rfl) hS ?_
          obtain ⟨a12, hA12⟩ : ∃ a', a' = a11.put (some 35) (.int .i64 k) := ⟨_, rfl⟩
          change wpAnyH _ _ _ _ _ _ _ (a11.put (some 35) (.int .i64 k)) _
          rw [← hA12]
          have f12_35 : a12.eval (.tmp 35) = .int .i64 k := by rw [hA12]; exact Act.eval_put_same _ _ _ (by omega)
          have f12_34 : a12.eval (.tmp 34) = efV e := by rw [hA12]; exact (Act.eval_put_ne _ _ _ _ (by decide)).trans f11_34
          have f12_33 : a12.eval (.tmp 33) = .slice A3 l2.length c3 := by rw [hA12]; exact (Act.eval_put_ne _ _ _ _ (by decide)).trans f11_33
          have f12_24 : a12.eval (.tmp 24) = .tuple #[.slice A3 l2.length c3, efV e, .int .i64 k] := by rw [hA12]; exact (Act.eval_put_ne _ _ _ _ (by decide)).trans f11_24
          have z12 : a12.tmps.size = 120 := by rw [hA12, Act.size_put]; exact z11
          have dd12 : a12.defers = [] := by rw [hA12, Act.defers_put']; exact dd11
          have HA12 := Lib.hid hA12
          clear hA12 z11 dd11 f11_34 f11_33 f11_24
          refine wpAnyH_ready (rs := [12]) (by kernel_rfl) (by simp) (AllReadyH.cons (by simp only [List.getElem?_toArray, List.getElem?_cons_succ, List.getElem?_cons_zero]; rfl) (fun K hK => ?_) AllReadyH.nil)
          refine step_ealloc (by rfl) (by rfl) ?_
          have hg := heap_alloc_new W2 (efB zE)
          have hlt := hS.far
          refine hK.out _ _ (hS.alloc _) (fun hS => ?_)
          obtain ⟨a13, hA13⟩ : ∃ a', a' = a12.put (some 8) (.pointer (some ⟨W2.heap.size, 0, none⟩)) := ⟨_, rfl⟩
          change wpAnyH _ _ _ _ _ _ _ (a12.put (some 8) (.pointer (some ⟨W2.heap.size, 0, none⟩))) _
          rw [← hA13]
          have f13_8 : a13.eval (.tmp 8) = .pointer (some ⟨W2.heap.size, 0, none⟩) := by rw [hA13]; exact Act.eval_put_same _ _ _ (by omega)
          have f13_35 : a13.eval (.tmp 35) = .int .i64 k := by rw [hA13]; exact (Act.eval_put_ne _ _ _ _ (by decide)).trans f12_35
          have f13_34 : a13.eval (.tmp 34) = efV e := by rw [hA13]; exact (Act.eval_put_ne _ _ _ _ (by decide)).trans f12_34
          have f13_33 : a13.eval (.tmp 33) = .slice A3 l2.length c3 := by rw [hA13]; exact (Act.eval_put_ne _ _ _ _ (by decide)).trans f12_33
          have f13_24 : a13.eval (.tmp 24) = .tuple #[.slice A3 l2.length c3, efV e, .int .i64 k] := by rw [hA13]; exact (Act.eval_put_ne _ _ _ _ (by decide)).trans f12_24
          have z13 : a13.tmps.size = 120 := by rw [hA13, Act.size_put]; exact z12
          have dd13 : a13.defers = [] := by rw [hA13, Act.defers_put']; exact dd12
          have HA13 := Lib.hid hA13
          clear hA13 z12 dd12 f12_35 f12_34 f12_33 f12_24
          refine wpAnyH_take (i := 13) (v := .slice A3 l2.length c3) rfl (by kernel_rfl) (by kernel_rfl) (by kernel_rfl) (fun _ _ _ h => h) (yields_assign rfl (.tmp 33) rfl f13_33) hS ?_
          obtain ⟨a14, hA14⟩ : ∃ a', a' = a13.put (some 7) (.slice A3 l2.length c3) := ⟨_, rfl⟩
          change wpAnyH _ _ _ _ _ _ _ (a13.put (some 7) (.slice A3 l2.length c3)) _
          rw [← hA14]
          have f14_7 : a14.eval (.tmp 7) = .slice A3 l2.length c3 := by rw [hA14]; exact Act.eval_put_same _ _ _ (by omega)
          have f14_8 : a14.eval (.tmp 8) = .pointer (some ⟨W2.heap.size, 0, none⟩) := by rw [hA14]; exact (Act.eval_put_ne _ _ _ _ (by decide)).trans f13_8
          have f14_35 : a14.eval (.tmp 35) = .int .i64 k := by rw [hA14]; exact (Act.eval_put_ne _ _ _ _ (by decide)).trans f13_35
          have f14_34 : a14.eval (.tmp 34) = efV e := by rw [hA14]; exact (Act.eval_put_ne _ _ _ _ (by decide)).trans f13_34
          have z14 : a14.tmps.size = 120 := by rw [hA14, Act.size_put]; exact z13
          have dd14 : a14.defers = [] := by rw [hA14, Act.defers_put']; exact dd13
          have HA14 := Lib.hid hA14
          clear hA14 z13 dd13 f13_8 f13_35 f13_34 f13_33 f13_24
          refine wpAnyH_ready (rs := [14]) (by kernel_rfl) (by simp) (AllReadyH.cons (by simp only [List.getElem?_toArray, List.getElem?_cons_succ, List.getElem?_cons_zero]; rfl) (fun K hK => ?_) AllReadyH.nil)
          refine step_ef (by rfl) (.tmp 8) (.tmp 34) (by rfl) W2.heap.size zE e f14_8 f14_34 hg ?_
          have hi3 := in_row (hI3.next ((Below.refl _ _).alloc (Nat.le_refl _) _)) hg (by simp [efC]) (efC e).toArray
          have hg2 := row_turned hg (efC e).toArray
          refine hK.out _ _ (hS.row hg hlt _) (fun hS => ?_)
          change wpAnyH _ _ _ _ _ _ _ a14 _
          refine wpAnyH_take (i := 15) (v := .int .i64 k) rfl (by kernel_rfl) (by kernel_rfl) (by kernel_rfl) (fun _ _ _ h => h) (yields_assign rfl (.tmp 35) rfl f14_35) hS ?_
          obtain ⟨a15, hA15⟩ : ∃ a', a' = a14.put (some 9) (.int .i64 k) := ⟨_, rfl⟩
          change wpAnyH _ _ _ _ _ _ _ (a14.put (some 9) (.int .i64 k)) _
          rw [← hA15]
          have f15_9 : a15.eval (.tmp 9) = .int .i64 k := by rw [hA15]; exact Act.eval_put_same _ _ _ (by omega)
          have z15 : a15.tmps.size = 120 := by rw [hA15, Act.size_put]; exact z14
          have dd15 : a15.defers = [] := by rw [hA15, Act.defers_put']; exact dd14
          have HA15 := Lib.hid hA15
          clear hA15 z14 dd14 f14_7 f14_8 f14_35 f14_34
          refine wpAnyH_done (by kernel_rfl) ?_ _
          have HE := Lib.hid (And.intro hS (And.intro hi3 (And.intro hg2 hlt)))
          clear hS hi3 hg2 hlt hK
          rw [HA15.out]
          rw [HA14.out]
          rw [HA13.out]
          rw [HA12.out]
          rw [HA11.out]
          rw [HA10.out]
          rw [HA9.out]
          rw [HA8.out]
          rw [HA7.out]
          rw [HA6.out]
          rw [HA5.out]
          rw [HA4.out]
          rw [HA3.out]
          rw [HA2.out]
          rw [HA1.out]
          rw [HA0.out]
          simp only [Act.put, List.setIfInBounds_toArray, List.set_cons_zero, List.set_cons_succ]
          go_wp2_with fail
          go_meet
          exact ⟨_, _, _, rfl, rfl, rfl, HE⟩
        · skip
          refine step_ealloc (by rfl) (by rfl) ?_
          have hg := heap_alloc_new W1 (efB zE)
          have hlt := hS.far
          refine hK.out _ _ (hS.alloc _) (fun hS => ?_)
          obtain ⟨a8, hA8⟩ : ∃ a', a' = a7.put (some 8) (.pointer (some ⟨W1.heap.size, 0, none⟩)) := ⟨_, rfl⟩
          change wpAnyH _ _ _ _ _ _ _ (a7.put (some 8) (.pointer (some ⟨W1.heap.size, 0, none⟩))) _
          rw [← hA8]
          have f8_8 : a8.eval (.tmp 8) = .pointer (some ⟨W1.heap.size, 0, none⟩) := by rw [hA8]; exact Act.eval_put_same _ _ _ (by omega)
          have f8_26 : a8.eval (.tmp 26) = v3 := by rw [hA8]; exact (Act.eval_put_ne _ _ _ _ (by decide)).trans f7_26
          have f8_31 : a8.eval (.tmp 31) = .int .i64 s.now := by rw [hA8]; exact (Act.eval_put_ne _ _ _ _ (by decide)).trans f7_31
          have f8_29 : a8.eval (.tmp 29) = .int .i64 s.self := by rw [hA8]; exact (Act.eval_put_ne _ _ _ _ (by decide)).trans f7_29
          have f8_27 : a8.eval (.tmp 27) = .slice A l.length c := by rw [hA8]; exact (Act.eval_put_ne _ _ _ _ (by decide)).trans f7_27
          have z8 : a8.tmps.size = 120 := by rw [hA8, Act.size_put]; exact z7
          have dd8 : a8.defers = [] := by rw [hA8, Act.defers_put']; exact dd7
          have HA8 := Lib.hid hA8
          clear hA8 z7 dd7 f7_26 f7_31 f7_29 f7_27
          refine wpAnyH_ready (rs := [7]) (by kernel_rfl) (by simp) (AllReadyH.cons (by simp only [List.getElem?_toArray, List.getElem?_cons_succ, List.getElem?_cons_zero]; rfl) (fun K hK => ?_) AllReadyH.nil)
          have HD1 := HD v3 (W1.alloc (efB zE)) (HM.out _ _ HO.out hS.below) ((hst.now.1).next ((Below.refl _ _).alloc (Nat.le_refl _) _)) hS.i1
          refine step_call (by rfl) 9 #[.tmp 26, .tmp 27, .tmp 29, .tmp 31] #[26, 30, 3, 3] (by rfl) #[v3, .slice A l.length c, .int .i64 s.self, .int .i64 s.now] (by simp only [List.map_toArray, List.map_cons, List.map_nil, f8_26, f8_27, f8_29, f8_31]) Tryd.func9 (by kernel_rfl) rfl HD1.out (fun e' W2 hR => ?_)
          obtain ⟨A3, c3, rfl, hI3, hb2⟩ := hR
          refine ⟨_, rfl, hK.out _ _ (hS.next hb2) (fun hS => ?_)⟩
          obtain ⟨a9, hA9⟩ : ∃ a', a' = a8.put (some 32) (.tuple #[.slice A3 l2.length c3, efV e, .int .i64 k]) := ⟨_, rfl⟩
          change wpAnyH _ _ _ _ _ _ _ (a8.put (some 32) (.tuple #[.slice A3 l2.length c3, efV e, .int .i64 k])) _
          rw [← hA9]
          have f9_32 : a9.eval (.tmp 32) = .tuple #[.slice A3 l2.length c3, efV e, .int .i64 k] := by rw [hA9]; exact Act.eval_put_same _ _ _ (by omega)
          have f9_8 : a9.eval (.tmp 8) = .pointer (some ⟨W1.heap.size, 0, none⟩) := by rw [hA9]; exact (Act.eval_put_ne _ _ _ _ (by decide)).trans f8_8
          have z9 : a9.tmps.size = 120 := by rw [hA9, Act.size_put]; exact z8
          have dd9 : a9.defers = [] := by rw [hA9, Act.defers_put']; exact dd8
          have HA9 := Lib.hid hA9
          clear hA9 z8 dd8 f8_8 f8_26 f8_31 f8_29 f8_27
          replace hg := (hb2.block _ (lt_of_block hg)).trans hg
          refine wpAnyH_take (i := 8) (v := .tuple #[.slice A3 l2.length c3, efV e, .int .i64 k]) rfl (by kernel_rfl) (by kernel_rfl) (by kernel_rfl) (fun _ _ _ h => h) (Go.Proofs.YtjbcmedljgafkaaDoor.frames.yields_move rfl (.tmp 32) rfl f9_32) hS ?_
          obtain ⟨a10, hA10⟩ : ∃ a', a' = a9.put (some 24) (.tuple #[.slice A3 l2.length c3, efV e, .int .i64 k]) := ⟨_, rfl⟩
          change wpAnyH _ _ _ _ _ _ _ (a9.put (some 24) (.tuple #[.slice A3 l2.length c3, efV e, .int .i64 k])) _
          rw [← hA10]
          have f10_24 : a10.eval (.tmp 24) = .tuple #[.slice A3 l2.length c3, efV e, .int .i64 k] := by rw [hA10]; exact Act.eval_put_same _ _ _ (by omega)
          have f10_8 : a10.eval (.tmp 8) = .pointer (some ⟨W1.heap.size, 0, none⟩) := by rw [hA10]; exact (Act.eval_put_ne _ _ _ _ (by decide)).trans f9_8
          have z10 : a10.tmps.size = 120 := by rw [hA10, Act.size_put]; exact z9
          have dd10 : a10.defers = [] := by rw [hA10, Act.defers_put']; exact dd9
          have HA10 := Lib.hid hA10
          clear hA10 z9 dd9 f9_32 f9_8
          refine wpAnyH_take (i := 9) (v := .slice A3 l2.length c3) rfl (by kernel_rfl) (by kernel_rfl) (by kernel_rfl) (fun _ _ _ h => h) (yields_part rfl (.tmp 24) 0 rfl _ _ f10_24 rfl) hS ?_
          obtain ⟨a11, hA11⟩ : ∃ a', a' = a10.put (some 33) (.slice A3 l2.length c3) := ⟨_, rfl⟩
          change wpAnyH _ _ _ _ _ _ _ (a10.put (some 33) (.slice A3 l2.length c3)) _
          rw [← hA11]
          have f11_33 : a11.eval (.tmp 33) = .slice A3 l2.length c3 := by rw [hA11]; exact Act.eval_put_same _ _ _ (by omega)
          have f11_24 : a11.eval (.tmp 24) = .tuple #[.slice A3 l2.length c3, efV e, .int .i64 k] := by rw [hA11]; exact (Act.eval_put_ne _ _ _ _ (by decide)).trans f10_24
          have f11_8 : a11.eval (.tmp 8) = .pointer (some ⟨W1.heap.size, 0, none⟩) := by rw [hA11]; exact (Act.eval_put_ne _ _ _ _ (by decide)).trans f10_8
          have z11 : a11.tmps.size = 120 := by rw [hA11, Act.size_put]; exact z10
          have dd11 : a11.defers = [] := by rw [hA11, Act.defers_put']; exact dd10
          have HA11 := Lib.hid hA11
          clear hA11 z10 dd10 f10_24 f10_8
          refine wpAnyH_take (i := 10) (v := efV e) rfl (by kernel_rfl) (by kernel_rfl) (by kernel_rfl) (fun _ _ _ h => h) (yields_part rfl (.tmp 24) 1 rfl _ _ f11_24 rfl) hS ?_
          obtain ⟨a12, hA12⟩ : ∃ a', a' = a11.put (some 34) (efV e) := ⟨_, rfl⟩
          change wpAnyH _ _ _ _ _ _ _ (a11.put (some 34) (efV e)) _
          rw [← hA12]
          have f12_34 : a12.eval (.tmp 34) = efV e := by rw [hA12]; exact Act.eval_put_same _ _ _ (by omega)
          have f12_33 : a12.eval (.tmp 33) = .slice A3 l2.length c3 := by rw [hA12]; exact (Act.eval_put_ne _ _ _ _ (by decide)).trans f11_33
          have f12_24 : a12.eval (.tmp 24) = .tuple #[.slice A3 l2.length c3, efV e, .int .i64 k] := by rw [hA12]; exact (Act.eval_put_ne _ _ _ _ (by decide)).trans f11_24
          have f12_8 : a12.eval (.tmp 8) = .pointer (some ⟨W1.heap.size, 0, none⟩) := by rw [hA12]; exact (Act.eval_put_ne _ _ _ _ (by decide)).trans f11_8
          have z12 : a12.tmps.size = 120 := by rw [hA12, Act.size_put]; exact z11
          have dd12 : a12.defers = [] := by rw [hA12, Act.defers_put']; exact dd11
          have HA12 := Lib.hid hA12
          clear hA12 z11 dd11 f11_33 f11_24 f11_8
          refine wpAnyH_take (i := 11) (v := .int .i64 k) rfl (by kernel_rfl) (by kernel_rfl) (by kernel_rfl) (fun _ _ _ h => h) (yields_part rfl (.tmp 24) 2 rfl _ _ f12_24 rfl) hS ?_
          obtain ⟨a13, hA13⟩ : ∃ a', a' = a12.put (some 35) (.int .i64 k) := ⟨_, rfl⟩
          change wpAnyH _ _ _ _ _ _ _ (a12.put (some 35) (.int .i64 k)) _
          rw [← hA13]
          have f13_35 : a13.eval (.tmp 35) = .int .i64 k := by rw [hA13]; exact Act.eval_put_same _ _ _ (by omega)
          have f13_34 : a13.eval (.tmp 34) = efV e := by rw [hA13]; exact (Act.eval_put_ne _ _ _ _ (by decide)).trans f12_34
          have f13_33 : a13.eval (.tmp 33) = .slice A3 l2.length c3 := by rw [hA13]; exact (Act.eval_put_ne _ _ _ _ (by decide)).trans f12_33
          have f13_24 : a13.eval (.tmp 24) = .tuple #[.slice A3 l2.length c3, efV e, .int .i64 k] := by rw [hA13]; exact (Act.eval_put_ne _ _ _ _ (by decide)).trans f12_24
          have f13_8 : a13.eval (.tmp 8) = .pointer (some ⟨W1.heap.size, 0, none⟩) := by rw [hA13]; exact (Act.eval_put_ne _ _ _ _ (by decide)).trans f12_8
          have z13 : a13.tmps.size = 120 := by rw [hA13, Act.size_put]; exact z12
          have dd13 : a13.defers = [] := by rw [hA13, Act.defers_put']; exact dd12
          have HA13 := Lib.hid hA13
          clear hA13 z12 dd12 f12_34 f12_33 f12_24 f12_8
          refine wpAnyH_take (i := 13) (v := .slice A3 l2.length c3) rfl (by kernel_rfl) (by kernel_rfl) (by kernel_rfl) (fun _ _ _ h => h) (yields_assign rfl (.tmp 33) rfl f13_33) hS ?_
          obtain ⟨a14, hA14⟩ : ∃ a', a' = a13.put (some 7) (.slice A3 l2.length c3) := ⟨_, rfl⟩
          change wpAnyH _ _ _ _ _ _ _ (a13.put (some 7) (.slice A3 l2.length c3)) _
          rw [← hA14]
          have f14_7 : a14.eval (.tmp 7) = .slice A3 l2.length c3 := by rw [hA14]; exact Act.eval_put_same _ _ _ (by omega)
          have f14_35 : a14.eval (.tmp 35) = .int .i64 k := by rw [hA14]; exact (Act.eval_put_ne _ _ _ _ (by decide)).trans f13_35
          have f14_34 : a14.eval (.tmp 34) = efV e := by rw [hA14]; exact (Act.eval_put_ne _ _ _ _ (by decide)).trans f13_34
          have f14_8 : a14.eval (.tmp 8) = .pointer (some ⟨W1.heap.size, 0, none⟩) := by rw [hA14]; exact (Act.eval_put_ne _ _ _ _ (by decide)).trans f13_8
          have z14 : a14.tmps.size = 120 := by rw [hA14, Act.size_put]; exact z13
          have dd14 : a14.defers = [] := by rw [hA14, Act.defers_put']; exact dd13
          have HA14 := Lib.hid hA14
          clear hA14 z13 dd13 f13_35 f13_34 f13_33 f13_24 f13_8
          refine wpAnyH_ready (rs := [14]) (by kernel_rfl) (by simp) (AllReadyH.cons (by simp only [List.getElem?_toArray, List.getElem?_cons_succ, List.getElem?_cons_zero]; rfl) (fun K hK => ?_) AllReadyH.nil)
          refine step_ef (by rfl) (.tmp 8) (.tmp 34) (by rfl) W1.heap.size zE e f14_8 f14_34 hg ?_
          have hi3 := in_row hI3 hg (by simp [efC]) (efC e).toArray
          have hg2 := row_turned hg (efC e).toArray
          refine hK.out _ _ (hS.row hg hlt _) (fun hS => ?_)
          change wpAnyH _ _ _ _ _ _ _ a14 _
          refine wpAnyH_take (i := 15) (v := .int .i64 k) rfl (by kernel_rfl) (by kernel_rfl) (by kernel_rfl) (fun _ _ _ h => h) (yields_assign rfl (.tmp 35) rfl f14_35) hS ?_
          obtain ⟨a15, hA15⟩ : ∃ a', a' = a14.put (some 9) (.int .i64 k) := ⟨_, rfl⟩
          change wpAnyH _ _ _ _ _ _ _ (a14.put (some 9) (.int .i64 k)) _
          rw [← hA15]
          have f15_9 : a15.eval (.tmp 9) = .int .i64 k := by rw [hA15]; exact Act.eval_put_same _ _ _ (by omega)
          have z15 : a15.tmps.size = 120 := by rw [hA15, Act.size_put]; exact z14
          have dd15 : a15.defers = [] := by rw [hA15, Act.defers_put']; exact dd14
          have HA15 := Lib.hid hA15
          clear hA15 z14 dd14 f14_7 f14_35 f14_34 f14_8
          refine wpAnyH_done (by kernel_rfl) ?_ _
          have HE := Lib.hid (And.intro hS (And.intro hi3 (And.intro hg2 hlt)))
          clear hS hi3 hg2 hlt hK
          rw [HA15.out]
          rw [HA14.out]
          rw [HA13.out]
          rw [HA12.out]
          rw [HA11.out]
          rw [HA10.out]
          rw [HA9.out]
          rw [HA8.out]
          rw [HA7.out]
          rw [HA6.out]
          rw [HA5.out]
          rw [HA4.out]
          rw [HA3.out]
          rw [HA2.out]
          rw [HA1.out]
          rw [HA0.out]
          simp only [Act.put, List.setIfInBounds_toArray, List.set_cons_zero, List.set_cons_succ]
          go_wp2_with fail
          go_meet
          exact ⟨_, _, _, rfl, rfl, rfl, HE⟩
      · skip
        refine step_ealloc (by rfl) (by rfl) ?_
        have hg := heap_alloc_new w1.drew (efB zE)
        have hlt := hS.far
        refine hK.out _ _ (hS.alloc _) (fun hS => ?_)
        obtain ⟨a7, hA7⟩ : ∃ a', a' = a6.put (some 8) (.pointer (some ⟨w1.drew.heap.size, 0, none⟩)) := ⟨_, rfl⟩
        change wpAnyH _ _ _ _ _ _ _ (a6.put (some 8) (.pointer (some ⟨w1.drew.heap.size, 0, none⟩))) _
        rw [← hA7]
        have f7_8 : a7.eval (.tmp 8) = .pointer (some ⟨w1.drew.heap.size, 0, none⟩) := by rw [hA7]; exact Act.eval_put_same _ _ _ (by omega)
        have f7_31 : a7.eval (.tmp 31) = .int .i64 s.now := by rw [hA7]; exact (Act.eval_put_ne _ _ _ _ (by decide)).trans f6_31
        have f7_29 : a7.eval (.tmp 29) = .int .i64 s.self := by rw [hA7]; exact (Act.eval_put_ne _ _ _ _ (by decide)).trans f6_29
        have f7_27 : a7.eval (.tmp 27) = .slice A l.length c := by rw [hA7]; exact (Act.eval_put_ne _ _ _ _ (by decide)).trans f6_27
        have f7_25 : a7.eval (.tmp 25) = .agg #[.slice A0 na ca, .slice B0 nb cb, .slice C0 nc cc] := by rw [hA7]; exact (Act.eval_put_ne _ _ _ _ (by decide)).trans f6_25
        have z7 : a7.tmps.size = 120 := by rw [hA7, Act.size_put]; exact z6
        have dd7 : a7.defers = [] := by rw [hA7, Act.defers_put']; exact dd6
        have HA7 := Lib.hid hA7
        clear hA7 z6 dd6 f6_31 f6_29 f6_27 f6_25
        refine wpAnyH_ready (rs := [1]) (by kernel_rfl) (by simp) (AllReadyH.cons (by simp only [List.getElem?_toArray, List.getElem?_cons_succ, List.getElem?_cons_zero]; rfl) (fun K hK => ?_) AllReadyH.nil)
        have HO1 := HOw (.agg #[.slice A0 na ca, .slice B0 nb cb, .slice C0 nc cc]) (w1.drew.alloc (efB zE)) (HG.out.next hS.below)
        refine step_call (by rfl) 10 #[.tmp 25] #[26] (by rfl) #[.agg #[.slice A0 na ca, .slice B0 nb cb, .slice C0 nc cc]] (by simp only [List.map_toArray, List.map_cons, List.map_nil, f7_25]) Tryd.func10 (by kernel_rfl) rfl HO1.out (fun e' W1 hR => ?_)
        obtain ⟨v3, rfl, hst, hb1⟩ := hR
        refine ⟨_, rfl, hK.out _ _ (hS.next hb1) (fun hS => ?_)⟩
        have HP3 := Lib.hid hst.now.1
        obtain ⟨a8, hA8⟩ : ∃ a', a' = a7.put (some 26) (v3) := ⟨_, rfl⟩
        change wpAnyH _ _ _ _ _ _ _ (a7.put (some 26) (v3)) _
        rw [← hA8]
        have f8_26 : a8.eval (.tmp 26) = v3 := by rw [hA8]; exact Act.eval_put_same _ _ _ (by omega)
        have f8_8 : a8.eval (.tmp 8) = .pointer (some ⟨w1.drew.heap.size, 0, none⟩) := by rw [hA8]; exact (Act.eval_put_ne _ _ _ _ (by decide)).trans f7_8
        have f8_31 : a8.eval (.tmp 31) = .int .i64 s.now := by rw [hA8]; exact (Act.eval_put_ne _ _ _ _ (by decide)).trans f7_31
        have f8_29 : a8.eval (.tmp 29) = .int .i64 s.self := by rw [hA8]; exact (Act.eval_put_ne _ _ _ _ (by decide)).trans f7_29
        have f8_27 : a8.eval (.tmp 27) = .slice A l.length c := by rw [hA8]; exact (Act.eval_put_ne _ _ _ _ (by decide)).trans f7_27
        have z8 : a8.tmps.size = 120 := by rw [hA8, Act.size_put]; exact z7
        have dd8 : a8.defers = [] := by rw [hA8, Act.defers_put']; exact dd7
        have HA8 := Lib.hid hA8
        clear hA8 z7 dd7 f7_8 f7_31 f7_29 f7_27 f7_25
        replace hg := (hb1.block _ (lt_of_block hg)).trans hg
        refine wpAnyH_ready (rs := [7]) (by kernel_rfl) (by simp) (AllReadyH.cons (by simp only [List.getElem?_toArray, List.getElem?_cons_succ, List.getElem?_cons_zero]; rfl) (fun K hK => ?_) AllReadyH.nil)
        have HD1 := HD v3 W1 (HM.out _ _ HO.out hS.below) HP3.out hS.i1
        refine step_call (by rfl) 9 #[.tmp 26, .tmp 27, .tmp 29, .tmp 31] #[26, 30, 3, 3] (by rfl) #[v3, .slice A l.length c, .int .i64 s.self, .int .i64 s.now] (by simp only [List.map_toArray, List.map_cons, List.map_nil, f8_26, f8_27, f8_29, f8_31]) Tryd.func9 (by kernel_rfl) rfl HD1.out (fun e' W2 hR => ?_)
        obtain ⟨A3, c3, rfl, hI3, hb2⟩ := hR
        refine ⟨_, rfl, hK.out _ _ (hS.next hb2) (fun hS => ?_)⟩
        obtain ⟨a9, hA9⟩ : ∃ a', a' = a8.put (some 32) (.tuple #[.slice A3 l2.length c3, efV e, .int .i64 k]) := ⟨_, rfl⟩
        change wpAnyH _ _ _ _ _ _ _ (a8.put (some 32) (.tuple #[.slice A3 l2.length c3, efV e, .int .i64 k])) _
        rw [← hA9]
        have f9_32 : a9.eval (.tmp 32) = .tuple #[.slice A3 l2.length c3, efV e, .int .i64 k] := by rw [hA9]; exact Act.eval_put_same _ _ _ (by omega)
        have f9_8 : a9.eval (.tmp 8) = .pointer (some ⟨w1.drew.heap.size, 0, none⟩) := by rw [hA9]; exact (Act.eval_put_ne _ _ _ _ (by decide)).trans f8_8
        have z9 : a9.tmps.size = 120 := by rw [hA9, Act.size_put]; exact z8
        have dd9 : a9.defers = [] := by rw [hA9, Act.defers_put']; exact dd8
        have HA9 := Lib.hid hA9
        clear hA9 z8 dd8 f8_26 f8_8 f8_31 f8_29 f8_27
        replace hg := (hb2.block _ (lt_of_block hg)).trans hg
        refine wpAnyH_take (i := 8) (v := .tuple #[.slice A3 l2.length c3, efV e, .int .i64 k]) rfl (by kernel_rfl) (by kernel_rfl) (by kernel_rfl) (fun _ _ _ h => h) (Go.Proofs.YtjbcmedljgafkaaDoor.frames.yields_move rfl (.tmp 32) rfl f9_32) hS ?_
        obtain ⟨a10, hA10⟩ : ∃ a', a' = a9.put (some 24) (.tuple #[.slice A3 l2.length c3, efV e, .int .i64 k]) := ⟨_, rfl⟩
        change wpAnyH _ _ _ _ _ _ _ (a9.put (some 24) (.tuple #[.slice A3 l2.length c3, efV e, .int .i64 k])) _
        rw [← hA10]
        have f10_24 : a10.eval (.tmp 24) = .tuple #[.slice A3 l2.length c3, efV e, .int .i64 k] := by rw [hA10]; exact Act.eval_put_same _ _ _ (by omega)
        have f10_8 : a10.eval (.tmp 8) = .pointer (some ⟨w1.drew.heap.size, 0, none⟩) := by rw [hA10]; exact (Act.eval_put_ne _ _ _ _ (by decide)).trans f9_8
        have z10 : a10.tmps.size = 120 := by rw [hA10, Act.size_put]; exact z9
        have dd10 : a10.defers = [] := by rw [hA10, Act.defers_put']; exact dd9
        have HA10 := Lib.hid hA10
        clear hA10 z9 dd9 f9_32 f9_8
        refine wpAnyH_take (i := 9) (v := .slice A3 l2.length c3) rfl (by kernel_rfl) (by kernel_rfl) (by kernel_rfl) (fun _ _ _ h => h) (yields_part rfl (.tmp 24) 0 rfl _ _ f10_24 rfl) hS ?_
        obtain ⟨a11, hA11⟩ : ∃ a', a' = a10.put (some 33) (.slice A3 l2.length c3) := ⟨_, rfl⟩
        change wpAnyH _ _ _ _ _ _ _ (a10.put (some 33) (.slice A3 l2.length c3)) _
        rw [← hA11]
        have f11_33 : a11.eval (.tmp 33) = .slice A3 l2.length c3 := by rw [hA11]; exact Act.eval_put_same _ _ _ (by omega)
        have f11_24 : a11.eval (.tmp 24) = .tuple #[.slice A3 l2.length c3, efV e, .int .i64 k] := by rw [hA11]; exact (Act.eval_put_ne _ _ _ _ (by decide)).trans f10_24
        have f11_8 : a11.eval (.tmp 8) = .pointer (some ⟨w1.drew.heap.size, 0, none⟩) := by rw [hA11]; exact (Act.eval_put_ne _ _ _ _ (by decide)).trans f10_8
        have z11 : a11.tmps.size = 120 := by rw [hA11, Act.size_put]; exact z10
        have dd11 : a11.defers = [] := by rw [hA11, Act.defers_put']; exact dd10
        have HA11 := Lib.hid hA11
        clear hA11 z10 dd10 f10_24 f10_8
        refine wpAnyH_take (i := 10) (v := efV e) rfl (by kernel_rfl) (by kernel_rfl) (by kernel_rfl) (fun _ _ _ h => h) (yields_part rfl (.tmp 24) 1 rfl _ _ f11_24 rfl) hS ?_
        obtain ⟨a12, hA12⟩ : ∃ a', a' = a11.put (some 34) (efV e) := ⟨_, rfl⟩
        change wpAnyH _ _ _ _ _ _ _ (a11.put (some 34) (efV e)) _
        rw [← hA12]
        have f12_34 : a12.eval (.tmp 34) = efV e := by rw [hA12]; exact Act.eval_put_same _ _ _ (by omega)
        have f12_33 : a12.eval (.tmp 33) = .slice A3 l2.length c3 := by rw [hA12]; exact (Act.eval_put_ne _ _ _ _ (by decide)).trans f11_33
        have f12_24 : a12.eval (.tmp 24) = .tuple #[.slice A3 l2.length c3, efV e, .int .i64 k] := by rw [hA12]; exact (Act.eval_put_ne _ _ _ _ (by decide)).trans f11_24
        have f12_8 : a12.eval (.tmp 8) = .pointer (some ⟨w1.drew.heap.size, 0, none⟩) := by rw [hA12]; exact (Act.eval_put_ne _ _ _ _ (by decide)).trans f11_8
        have z12 : a12.tmps.size = 120 := by rw [hA12, Act.size_put]; exact z11
        have dd12 : a12.defers = [] := by rw [hA12, Act.defers_put']; exact dd11
        have HA12 := Lib.hid hA12
        clear hA12 z11 dd11 f11_33 f11_24 f11_8
        refine wpAnyH_take (i := 11) (v := .int .i64 k) rfl (by kernel_rfl) (by kernel_rfl) (by kernel_rfl) (fun _ _ _ h => h) (yields_part rfl (.tmp 24) 2 rfl _ _ f12_24 rfl) hS ?_
        obtain ⟨a13, hA13⟩ : ∃ a', a' = a12.put (some 35) (.int .i64 k) := ⟨_, rfl⟩
        change wpAnyH _ _ _ _ _ _ _ (a12.put (some 35) (.int .i64 k)) _
        rw [← hA13]
        have f13_35 : a13.eval (.tmp 35) = .int .i64 k := by rw [hA13]; exact Act.eval_put_same _ _ _ (by omega)
        have f13_34 : a13.eval (.tmp 34) = efV e := by rw [hA13]; exact (Act.eval_put_ne _ _ _ _ (by decide)).trans f12_34
        have f13_33 : a13.eval (.tmp 33) = .slice A3 l2.length c3 := by rw [hA13]; exact (Act.eval_put_ne _ _ _ _ (by decide)).trans f12_33
        have f13_24 : a13.eval (.tmp 24) = .tuple #[.slice A3 l2.length c3, efV e, .int .i64 k] := by rw [hA13]; exact (Act.eval_put_ne _ _ _ _ (by decide)).trans f12_24
        have f13_8 : a13.eval (.tmp 8) = .pointer (some ⟨w1.drew.heap.size, 0, none⟩) := by rw [hA13]; exact (Act.eval_put_ne _ _ _ _ (by decide)).trans f12_8
        have z13 : a13.tmps.size = 120 := by rw [hA13, Act.size_put]; exact z12
        have dd13 : a13.defers = [] := by rw [hA13, Act.defers_put']; exact dd12
        have HA13 := Lib.hid hA13
        clear hA13 z12 dd12 f12_34 f12_33 f12_24 f12_8
        refine wpAnyH_take (i := 13) (v := .slice A3 l2.length c3) rfl (by kernel_rfl) (by kernel_rfl) (by kernel_rfl) (fun _ _ _ h => h) (yields_assign rfl (.tmp 33) rfl f13_33) hS ?_
        obtain ⟨a14, hA14⟩ : ∃ a', a' = a13.put (some 7) (.slice A3 l2.length c3) := ⟨_, rfl⟩
        change wpAnyH _ _ _ _ _ _ _ (a13.put (some 7) (.slice A3 l2.length c3)) _
        rw [← hA14]
        have f14_7 : a14.eval (.tmp 7) = .slice A3 l2.length c3 := by rw [hA14]; exact Act.eval_put_same _ _ _ (by omega)
        have f14_35 : a14.eval (.tmp 35) = .int .i64 k := by rw [hA14]; exact (Act.eval_put_ne _ _ _ _ (by decide)).trans f13_35
        have f14_34 : a14.eval (.tmp 34) = efV e := by rw [hA14]; exact (Act.eval_put_ne _ _ _ _ (by decide)).trans f13_34
        have f14_8 : a14.eval (.tmp 8) = .pointer (some ⟨w1.drew.heap.size, 0, none⟩) := by rw [hA14]; exact (Act.eval_put_ne _ _ _ _ (by decide)).trans f13_8
        have z14 : a14.tmps.size = 120 := by rw [hA14, Act.size_put]; exact z13
        have dd14 : a14.defers = [] := by rw [hA14, Act.defers_put']; exact dd13
        have HA14 := Lib.hid hA14
        clear hA14 z13 dd13 f13_35 f13_34 f13_33 f13_24 f13_8
        refine wpAnyH_ready (rs := [14]) (by kernel_rfl) (by simp) (AllReadyH.cons (by simp only [List.getElem?_toArray, List.getElem?_cons_succ, List.getElem?_cons_zero]; rfl) (fun K hK => ?_) AllReadyH.nil)
        refine step_ef (by rfl) (.tmp 8) (.tmp 34) (by rfl) w1.drew.heap.size zE e f14_8 f14_34 hg ?_
        have hi3 := in_row hI3 hg (by simp [efC]) (efC e).toArray
        have hg2 := row_turned hg (efC e).toArray
        refine hK.out _ _ (hS.row hg hlt _) (fun hS => ?_)
        change wpAnyH _ _ _ _ _ _ _ a14 _
        refine wpAnyH_take (i := 15) (v := .int .i64 k) rfl (by kernel_rfl) (by kernel_rfl) (by kernel_rfl) (fun _ _ _ h => h) (yields_assign rfl (.tmp 35) rfl f14_35) hS ?_
        obtain ⟨a15, hA15⟩ : ∃ a', a' = a14.put (some 9) (.int .i64 k) := ⟨_, rfl⟩
        change wpAnyH _ _ _ _ _ _ _ (a14.put (some 9) (.int .i64 k)) _
        rw [← hA15]
        have f15_9 : a15.eval (.tmp 9) = .int .i64 k := by rw [hA15]; exact Act.eval_put_same _ _ _ (by omega)
        have z15 : a15.tmps.size = 120 := by rw [hA15, Act.size_put]; exact z14
        have dd15 : a15.defers = [] := by rw [hA15, Act.defers_put']; exact dd14
        have HA15 := Lib.hid hA15
        clear hA15 z14 dd14 f14_7 f14_35 f14_34 f14_8
        refine wpAnyH_done (by kernel_rfl) ?_ _
        have HE := Lib.hid (And.intro hS (And.intro hi3 (And.intro hg2 hlt)))
        clear hS hi3 hg2 hlt hK
        rw [HA15.out]
        rw [HA14.out]
        rw [HA13.out]
        rw [HA12.out]
        rw [HA11.out]
        rw [HA10.out]
        rw [HA9.out]
        rw [HA8.out]
        rw [HA7.out]
        rw [HA6.out]
        rw [HA5.out]
        rw [HA4.out]
        rw [HA3.out]
        rw [HA2.out]
        rw [HA1.out]
        rw [HA0.out]
        simp only [Act.put, List.setIfInBounds_toArray, List.set_cons_zero, List.set_cons_succ]
        go_wp2_with fail
        go_meet
        exact ⟨_, _, _, rfl, rfl, rfl, HE⟩
    case rest =>
      obtain ⟨A3, c3, g, rfl, rfl, rfl, HW⟩ := hcut
      clear HZ HOw HD
      rcases HC.out with ⟨h1, h2, h3⟩ | ⟨h1, h2, h3, h4⟩ | ⟨h1, h2, h3, h4⟩
      · subst h2
        have q0 : (k != 0) = true := by simpa using h1
        have x0 := ef_cell HW.out.2.2.1 (j := 0) (v := .int .i64 (-1)) (by rw [h3]; rfl)
        have HS := Lib.hid (refSame_yes A3 A c3 c l2 wc HW.out.2.1.at' HW.out.1.i1.at' HW.out.2.1.len)
        have hq1 : ((-1 : Int) == -1) = true := by decide
        clear HC h1 h3
        go_wp2_with fail
        refine HS.out.mono ?_
        rintro _ w4 ⟨rfl, hb4⟩
        have H4 := Lib.hid (And.intro (HW.out.1.below.trans (hb4.mono HW.out.1.below.size)) ((hb4.block _ (lt_of_block HW.out.2.2.1)).trans HW.out.2.2.1))
        have hlt := lt_of_block HW.out.2.2.1
        have x4 := (hb4.cell (p := ⟨g, 0, none⟩) hlt).trans x0
        clear x0 hb4 hlt HW HS
        have HL4 := HL w4 (HM.out _ _ HO.out H4.out.1)
        go_wp2_with fail
        refine HL4.out.mono ?_
        rintro _ w5 ⟨rfl, hb5⟩
        have H5 := Lib.hid (H4.out.1.trans (hb5.mono H4.out.1.size))
        clear hb5 H4 x4
        go_wp2
        go_ret
        exact ⟨rfl, H5.out⟩
      · subst h1 h3
        have x0 := ef_cell HW.out.2.2.1 (j := 0) (v := .int .i64 (-2)) (by rw [← h2]; rfl)
        have hq1 : ((-2 : Int) == -2) = true := by decide
        have hl1 : l.length = 1 := h4
        have HL4 := HL wc (HM.out _ _ HO.out HW.out.1.below)
        have HB4 := Lib.hid HW.out.1.below
        rw [hl1]
        clear HC h2 h4 HW hl1
        go_wp2_with fail
        refine HL4.out.mono ?_
        rintro _ w5 ⟨rfl, hb5⟩
        have H5 := Lib.hid (HB4.out.trans (hb5.mono HB4.out.size))
        clear hb5 HB4 x0
        go_wp2
        go_ret
        exact ⟨rfl, H5.out⟩
      · subst h1
        obtain ⟨o, ho⟩ : ∃ o, o = e.op := ⟨_, rfl⟩
        have x0 := ef_cell HW.out.2.2.1 (j := 0) (v := .int .i64 o) (by rw [ho]; rfl)
        rw [← ho] at h2 h4
        have qo : (o == -2) = false := by simpa using h2
        obtain ⟨lay, hlay⟩ : ∃ lay, lay = (if 0 ≤ o then Go.Proofs.YtjbcmedljgafkaaDoor.oper.numb Go.Proofs.YtjbcmedljgafkaaDoor.oper.ly o else 0) := ⟨_, rfl⟩
        rw [← hlay] at h4
        obtain ⟨r, f, hl2, hr, ⟨i, a, d, hA, hi, ha, hd, h0⟩, hrs⟩ := h4
        have htop : topF l2 = f := by rw [hl2, f_top]
        have hne : l2.length ≠ 0 := by rw [hl2]; simp
        have hl8 : l2.length ≤ 8 := by rw [hl2, List.length_append, List.length_singleton]; omega
        obtain ⟨b, off, m, rfl, hm1, hb, hFc, hl27⟩ := HW.out.2.1.top hne
        rw [htop] at hFc
        obtain ⟨dp, hdp⟩ := HF.out.2.1.deps i hi
        obtain ⟨-, -, -, hsd, hrg⟩ := Go.Proofs.YtjbcmedljgafkaaDoor.pgm.dep.depths_sound hdp
        rw [Int.toNat_natCast] at hsd
        have hdl := hsd.1
        rw [hdp] at hd
        dsimp only at hd
        have had : a < dp.length := by omega
        have hda : dp.getD a 0 = d := by rw [← hd, getD_at had, getD_at had]
        have hd16 := hrg _ (getD_in (d := (-1)) had)
        rw [hd] at hd16
        have hf0 : num f 0 = (i : Int) := hA.fn
        have hf1 : num f 1 = (a : Int) := hA.pc
        have hf2 : num f 2 = d - lay := hA.n
        rw [hm1] at hl8 ⊢
        have e0 : ((m : Int) + 1 == 0) = false := by simp; omega
        have e8 : decide ((8 : Int) < (m : Int) + 1) = false := decide_eq_false (by omega)
        have k0 : (0 : Int) ≤ (m : Int) := by omega
        have k1 : (m : Int) < ((m + 1 : Nat) : Int) := by omega
        have k2 : (m : Int) < (m : Int) + 1 := by omega
        have hw0 : IntKind.i64.wrap ((m : Int) + 1 - 1) = (m : Int) := by rw [IntKind.wrap_i64]; omega
        have hw1 : IntKind.i64.wrap (m : Int) = (m : Int) := by rw [IntKind.wrap_i64]; omega
        have HFc := Lib.hid hFc
        have HX := Lib.hid (And.intro hf0 (And.intro hf1 (And.intro hf2 (And.intro hda (And.intro had (And.intro hd16 (And.intro hlay h0)))))))
        have HDp := Lib.hid hdp
        have HOf' : ∀ W, PAt W (.agg #[.slice A0 na ca, .slice B0 nb cb, .slice C0 nc cc]) p → Hid (Calls Tryd.prog 13 #[.agg #[.slice A0 na ca, .slice B0 nb cb, .slice C0 nc cc], .int .i64 (i : Int)] W fun e' w' => ∃ A4 c4, e' = .returned (.tuple #[.slice A4 dp.length c4, .int .i64 0, .int .i64 0]) ∧ NAt w' A4 dp ∧ Below W.heap.size W w') := fun W h => Lib.hid (by
          have h' := (HOf (i : Int) W h).out
          rw [HDp.out] at h'
          exact h')
        clear HC h2 h3 ho hr hrs hl2 htop hne hl8 hm1 hi ha hd hdl hsd hrg hd16 hf0 hf1 hf2 hda hA hFc hl27 hdp HDp HOf HF hb hlay h0
        go_upto_region 11 with fail
        go_upto_region 12 with (first | refine Go.Proofs.YtjbcmedljgafkaaDoor.frames.wl_load rfl _ rfl b (off + m * 27) rfl f HFc.out ?_ | refine Go.Proofs.YtjbcmedljgafkaaDoor.frames.wl_alloc rfl rfl ?_ | refine Go.Proofs.YtjbcmedljgafkaaDoor.frames.wl_store rfl _ _ rfl wc zeroF f rfl rfl rfl ?_)
        try simp only [Go.Act.put, List.setIfInBounds_toArray, List.set_cons_zero, List.set_cons_succ]
        refine wp_hold_world (fun W5 HW5 => ?_)
        have H5 : Hid (Below w.heap.size w W5 ∧ W5.heap[w.heap.size]? = some (.cells #[.slice A0 na ca, .slice B0 nb cb, .slice C0 nc cc] 26 (0, 0)) ∧ W5.heap[g]? = some (efB e) ∧ W5.heap[wc.heap.size]? = some (Go.Proofs.YtjbcmedljgafkaaDoor.frames.frB f)) := Lib.hid (by
          rw [HW5.out]
          have hb : Below wc.heap.size wc (wc.alloc (Go.Proofs.YtjbcmedljgafkaaDoor.frames.frB f)) := (Below.refl _ _).alloc (Nat.le_refl _) _
          have hz := HW.out.1.next hb
          exact ⟨hz.below, hz.b0, (hb.block _ (lt_of_block HW.out.2.2.1)).trans HW.out.2.2.1, heap_alloc_new wc _⟩)
        have y0 : W5.cell? ⟨g, 0, none⟩ = some (.int .i64 o) := by
          rw [HW5.out]
          exact (Below.cell ((Below.refl wc.heap.size wc).alloc (Nat.le_refl _) _) (p := ⟨g, 0, none⟩) (lt_of_block HW.out.2.2.1)).trans x0
        clear HW5 HW x0 HFc
        generalize wc.heap.size = g5 at *
        have f0 := Go.Proofs.YtjbcmedljgafkaaDoor.frames.cell_block H5.out.2.2.2 (k := 0) (by omega)
        rw [HX.out.1] at f0
        obtain ⟨p0, p1, p2, -, -, -⟩ := cells3 H5.out.2.1
        have HOf5 := HOf' W5 (HV.out.next H5.out.1)
        clear HOf'
        go_wp2_with fail
        refine HOf5.out.mono ?_
        rintro _ w6 ⟨A4, c4, rfl, hN4, hb6⟩
        have x0 := (hb6.cell (p := ⟨g, 0, none⟩) (lt_of_block H5.out.2.2.1)).trans y0
        have hg6 := (hb6.block _ (lt_of_block H5.out.2.2.2)).trans H5.out.2.2.2
        obtain ⟨b4, o4, rfl, hb4, d1⟩ := hN4 a HX.out.2.2.2.2.1
        rw [HX.out.2.2.2.1] at d1
        have x1 := Go.Proofs.YtjbcmedljgafkaaDoor.frames.cell_block hg6 (k := 1) (by omega)
        have x2 := Go.Proofs.YtjbcmedljgafkaaDoor.frames.cell_block hg6 (k := 2) (by omega)
        rw [HX.out.2.1] at x1
        rw [HX.out.2.2.1] at x2
        have H6 := Lib.hid (And.intro (H5.out.1.trans (hb6.mono H5.out.1.size)) (And.intro (lt_of_block hg6) (And.intro hb4 (Nat.lt_of_lt_of_le (lt_of_block H5.out.2.2.1) hb6.size))))
        have a0 : decide ((a : Int) ≥ 0) = true := decide_eq_true (by omega)
        have a1 : decide ((a : Int) < (dp.length : Int)) = true := decide_eq_true (by omega)
        have a1' : decide (a < dp.length) = true := decide_eq_true had
        have a2 : (0 : Int) ≤ (a : Int) := by omega
        have a3 : (a : Int) < (dp.length : Int) := by omega
        have qd : (d == d) = true := by simp
        by_cases h0 : 0 ≤ o
        · have q0 : decide (o ≥ 0) = true := decide_eq_true h0
          have hl : lay = Go.Proofs.YtjbcmedljgafkaaDoor.oper.numb Go.Proofs.YtjbcmedljgafkaaDoor.oper.ly o := by rw [HX.out.2.2.2.2.2.2.1, if_pos h0]
          have hwx : IntKind.i64.wrap d = d := by rw [IntKind.wrap_i64]; have := HX.out.2.2.2.2.2.1; omega
          have HPu := Lib.hid (Go.Proofs.YtjbcmedljgafkaaDoor.oper.refPushes_any o w6)
          rw [← hl] at HPu
          clear h0 hl p0 p1 p2 y0 f0 hb6 hg6 HOf5 H5 hb4
          go_wp2_with fail
          refine HPu.out.mono ?_
          rintro _ w7 ⟨rfl, hb7⟩
          have H7 := Lib.hid (And.intro (H6.out.1.trans (hb7.mono H6.out.1.size)) (And.intro (Nat.lt_of_lt_of_le H6.out.2.1 hb7.size) (Nat.lt_of_lt_of_le H6.out.2.2.1 hb7.size)))
          replace x0 := (hb7.cell (p := ⟨g, 0, none⟩) H6.out.2.2.2).trans x0
          replace x1 := (hb7.cell (p := ⟨g5, 1, none⟩) H6.out.2.1).trans x1
          replace x2 := (hb7.cell (p := ⟨g5, 2, none⟩) H6.out.2.1).trans x2
          replace d1 := (hb7.cell (p := ⟨b4, o4 + a, none⟩) H6.out.2.2.1).trans d1
          clear hb7 H6 HPu
          have HL7 := HL w7.drew (HM.out _ _ HO.out H7.out.1.drew)
          go_upto_region 16 with fail
          go_region_held3 (fun w' => w'.cell? ⟨g5, 1, none⟩ = some (.int .i64 (a : Int)) ∧ w'.cell? ⟨g5, 2, none⟩ = some (.int .i64 (d - lay)) ∧ w'.cell? ⟨b4, o4 + a, none⟩ = some (.int .i64 d)) (go_keep)
            (first | (go_at_call 8; refine HL7.out.mono ?_; rintro _ w8 ⟨rfl, hb8⟩; have t1 := (hb8.cell (p := ⟨g5, 1, none⟩) H7.out.2.1).trans x1; have t2 := (hb8.cell (p := ⟨g5, 2, none⟩) H7.out.2.1).trans x2; have t3 := (hb8.cell (p := ⟨b4, o4 + a, none⟩) H7.out.2.2).trans d1))
          all_goals
            have H8 := Lib.hid (H7.out.1.drew.trans (hb8.mono H7.out.1.drew.size))
            clear hb8 H7 x0 x1 x2 d1 t1 t2 t3
            go_wp2
            go_ret
            exact ⟨rfl, H8.out⟩
        · have q0 : decide (o ≥ 0) = false := decide_eq_false h0
          have hl : lay = 0 := by rw [HX.out.2.2.2.2.2.2.1, if_neg h0]
          have hwy : IntKind.i64.wrap (d - lay) = d := by rw [hl, IntKind.wrap_i64]; have := HX.out.2.2.2.2.2.1; omega
          clear hb6 hg6
          obtain ⟨w7, hw7⟩ : ∃ w7, w7 = w6 := ⟨_, rfl⟩
          have H7 : Hid (Below w.heap.size w w7 ∧ g5 < w7.heap.size ∧ b4 < w7.heap.size) := Lib.hid (by rw [hw7]; exact ⟨H6.out.1, H6.out.2.1, H6.out.2.2.1⟩)
          rw [← hw7] at x0 x1 x2 d1 ⊢
          clear hw7
          clear h0 hl p0 p1 p2 y0 f0 HOf5 H5 hb4 H6
          have HL7 := HL w7.drew (HM.out _ _ HO.out H7.out.1.drew)
          go_upto_region 16 with fail
          go_region_held3 (fun w' => w'.cell? ⟨g5, 1, none⟩ = some (.int .i64 (a : Int)) ∧ w'.cell? ⟨g5, 2, none⟩ = some (.int .i64 (d - lay)) ∧ w'.cell? ⟨b4, o4 + a, none⟩ = some (.int .i64 d)) (go_keep)
            (first | (go_at_call 8; refine HL7.out.mono ?_; rintro _ w8 ⟨rfl, hb8⟩; have t1 := (hb8.cell (p := ⟨g5, 1, none⟩) H7.out.2.1).trans x1; have t2 := (hb8.cell (p := ⟨g5, 2, none⟩) H7.out.2.1).trans x2; have t3 := (hb8.cell (p := ⟨b4, o4 + a, none⟩) H7.out.2.2).trans d1))
          all_goals
            have H8 := Lib.hid (H7.out.1.drew.trans (hb8.mono H7.out.1.drew.size))
            clear hb8 H7 x0 x1 x2 d1 t1 t2 t3
            go_wp2
            go_ret
            exact ⟨rfl, H8.out⟩
end Go.Proofs.YtjbcmedljgafkaaDoor.pgm.exe
