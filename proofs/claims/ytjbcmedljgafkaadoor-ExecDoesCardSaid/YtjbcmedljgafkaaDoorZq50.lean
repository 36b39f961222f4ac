/-
  Texts of one claim in one file: ZDoes. Each has its own sentence, with its conditions.
-/
import Derived.Test.YtjbcmedljgafkaaDoorZq48
/-
  What the next instruction makes of frames that come of a program that may run: the walk over what is asked of the program's calls. No condition but that the arguments came in. Printed by tools/zcome.py.
-/

namespace Go.Proofs.YtjbcmedljgafkaaDoor.pgm.exe
open Go.RowKit Go.ChangeShapes
open Go.Proofs.YtjbcmedljgafkaaDoor.pgm
open Go.Proofs.YtjbcmedljgafkaaDoor.objs (De zero DAt cells3)
open Go.Proofs.YtjbcmedljgafkaaDoor.frames (Fr num In zeroF refSame_yes)
open Go.Proofs.YtjbcmedljgafkaaDoor.nums (NAt)
open Go.Proofs.YtjbcmedljgafkaaDoor.pgm.ver (progV)
set_option linter.unusedVariables false
set_option linter.unusedSimpArgs false

set_option maxRecDepth 100000 in
set_option maxHeartbeats 3000000 in
theorem does_walk {Ok : World → Prop} (K : Keeps Ok) (v : Value) (p : Pg) (s : St) (B : Option Addr) (cb' : Nat) (w : World) (hw : Ok w) (hg : PG w v p) (hB : NAt w B s.args) (hself : I64 s.self) (hnow : I64 s.now) :
    Calls Tryd.prog 3 #[v, stV s B s.args.length cb'] w fun e w' => e = .returned (.bool true) ∧ Below w.heap.size w w' := by
  have HK := Lib.hid K
  have HO := Lib.hid hw
  have HG := Lib.hid hg
  have HN := Lib.hid hB
  have HSe := Lib.hid (And.intro hself hnow)
  have HBe := fun v W h1 h2 => Lib.hid (begun_any v p s B cb' W h1 h2)
  have HL := fun W h => Lib.hid (lives_any K W h)
  have HM := Lib.hid K.mono
  have HOw := fun v W h => Lib.hid (own10_any v p W h)
  unfold OwnPost10 at HOw
  obtain ⟨r, hr⟩ : ∃ r, r = begunZ p s := ⟨_, rfl⟩
  rw [← hr] at HBe
  obtain ⟨A0, B0, C0, na, nb, nc, ca, cb, cc, hve, -⟩ := id hg
  subst hve
  have hBA : Below w.heap.size w ((w.alloc (.cells #[.slice A0 na ca, .slice B0 nb cb, .slice C0 nc cc] 26)).alloc (.cells #[.int .i64 s.fn, .slice B s.args.length cb', .int .i64 s.steps, .int .i64 s.self, .int .i64 s.now] 29)) := ((Below.refl _ w).alloc (Nat.le_refl _) _).alloc (by rw [World.size_alloc]; omega) _
  have hXA : ((w.alloc (.cells #[.slice A0 na ca, .slice B0 nb cb, .slice C0 nc cc] 26)).alloc (.cells #[.int .i64 s.fn, .slice B s.args.length cb', .int .i64 s.steps, .int .i64 s.self, .int .i64 s.now] 29)).heap[w.heap.size]? = some (.cells #[.slice A0 na ca, .slice B0 nb cb, .slice C0 nc cc] 26 (0, 0)) := (Below.heap_alloc _ _ _ (by rw [World.size_alloc]; omega)).trans (heap_alloc_new w _)
  have hYA : ((w.alloc (.cells #[.slice A0 na ca, .slice B0 nb cb, .slice C0 nc cc] 26)).alloc (.cells #[.int .i64 s.fn, .slice B s.args.length cb', .int .i64 s.steps, .int .i64 s.self, .int .i64 s.now] 29)).heap[w.heap.size + 1]? = some (.cells #[.int .i64 s.fn, .slice B s.args.length cb', .int .i64 s.steps, .int .i64 s.self, .int .i64 s.now] 29 (0, 0)) := by
    have h := heap_alloc_new (w.alloc (.cells #[.slice A0 na ca, .slice B0 nb cb, .slice C0 nc cc] 26)) (.cells #[.int .i64 s.fn, .slice B s.args.length cb', .int .i64 s.steps, .int .i64 s.self, .int .i64 s.now] 29)
    rwa [World.size_alloc] at h
  have H0 := Lib.hid (And.intro hBA (And.intro hXA hYA))
  unfold stV
  unfold stV at HBe
  clear hBA hXA hYA hB hw hg hself hnow K
  go_enter Tryd.func3, Tryd.ntmps3
  go_upto_region 1 with fail
  try simp only [World.size_alloc]
  generalize ((w.alloc (.cells #[.slice A0 na ca, .slice B0 nb cb, .slice C0 nc cc] 26)).alloc (.cells #[.int .i64 s.fn, .slice B s.args.length cb', .int .i64 s.steps, .int .i64 s.self, .int .i64 s.now] 29)) = W0 at *
  obtain ⟨x0, x1, x2, -, -, -⟩ := cells3 H0.out.2.1
  obtain ⟨y0, y1, y2, y3, y4⟩ := st_cells H0.out.2.2
  have HBg := HBe _ _ (HG.out.next H0.out.1) (HN.out.next H0.out.1)
  clear HBe HN
  go_wp2_with fail
  refine HBg.out.mono ?_
  rintro _ w1 ⟨hb1, hcase⟩
  clear x0 x1 x2 y0 y1 y2 y3 y4
  have H1 := Lib.hid (And.intro (H0.out.1.trans (hb1.mono H0.out.1.size)) (And.intro ((hb1.block _ (lt_of_block H0.out.2.1)).trans H0.out.2.1) ((hb1.block _ (lt_of_block H0.out.2.2)).trans H0.out.2.2)))
  clear hb1 HBg H0
  cases r with
  | none =>
    obtain rfl := hcase
    have HL1 := HL w1 (HM.out _ _ HO.out H1.out.1)
    clear HL HOw hr
    go_wp2_with fail
    refine HL1.out.mono ?_
    rintro _ w2 ⟨rfl, hb2⟩
    have H2 := Lib.hid (H1.out.1.trans (hb2.mono H1.out.1.size))
    clear hb2
    go_wp2
    go_ret
    exact ⟨rfl, H2.out⟩
  | some l =>
    obtain ⟨A, c, rfl, hI⟩ := hcase
    have HF := Lib.hid (begun_fit hr.symm)
    have hv := HG.out.whole (Go.Proofs.YtjbcmedljgafkaaDoor.pgm.ver.progV_zero HF.out.1).1
    have HV := Lib.hid hv
    have HI := Lib.hid hI
    obtain ⟨q, hq⟩ : ∃ q, q = doZ p.fs l s.self s.now := ⟨_, rfl⟩
    have HQ := Lib.hid hq
    obtain ⟨l2, e, k⟩ := q
    have HD : ∀ v3 W, Ok W → PAt W v3 p → In W A c l → Hid (Calls Tryd.prog 9 #[v3, .slice A l.length c, .int .i64 s.self, .int .i64 s.now] W fun e' w' => ∃ A3 c3, e' = .returned (.tuple #[.slice A3 l2.length c3, efV e, .int .i64 k]) ∧ In w' A3 c3 l2 ∧ Below W.heap.size W w') := fun v3 W h1 h2 h3 => Lib.hid (by
      have h := HK.out.do' v3 p A c l s.self s.now W h1 h2 HF.out.1 h3 HF.out.2.2 HSe.out.1 HSe.out.2
      unfold DoPost at h
      rw [← HQ.out] at h
      exact h)
    clear hI hr hv hq
    have HRd : ∀ W B2 d2, PAt W (.agg #[.slice A0 na ca, .slice B0 nb cb, .slice C0 nc cc]) p → In W B2 d2 l → Hid (Calls Tryd.prog 11 #[.agg #[.slice A0 na ca, .slice B0 nb cb, .slice C0 nc cc], .slice B2 l.length d2, .int .i64 s.self, .int .i64 s.now] W fun e' w' => ∃ A3 c3, e' = .returned (.tuple #[.slice A3 l2.length c3, efV e, .int .i64 k]) ∧ In w' A3 c3 l2 ∧ Below W.heap.size W w') := fun W B2 d2 h2 h3 => Lib.hid (by
      have h := refDo15_any _ p B2 d2 l s.self s.now W h2 h3 HF.out.2.1 HF.out.2.2
      unfold DoPost at h
      rw [← HQ.out] at h
      exact h)
    have HE := Lib.hid (heap_alloc_new w1 (.cells #[] 45))
    have HBe := Lib.hid ((Below.refl w1.heap.size w1).alloc (Nat.le_refl _) (.cells #[] 45))
    clear HQ HF HSe HK
    go_wp2_with (at_builtin; refine Go.Proofs.YtjbcmedljgafkaaDoor.frames.wpList_appF (by rfl) (.tmp 23) (.tmp 24) (by rfl) w1.heap.size l.length c (.slice (some ⟨w1.heap.size, 0, none⟩) 0 0) A [] l (by rfl) (Go.Proofs.YtjbcmedljgafkaaDoor.frames.Own.empty HE.out) (by rfl) rfl (fun h => HI.out.nil h) (HI.out.at'.next HBe.out) (by have := HI.out.len; simp; omega) (by simp) ?_)
    intro v' w2 h1 h2
    have HB2 : Hid (Below w1.heap.size w1 w2) := Lib.hid (HBe.out.grown h2 (by simp) (fun k e => by simp [Value.ownBlock] at e; omega))
    try rw [List.nil_append] at h1
    obtain ⟨B2, d2, rfl⟩ := h1.slice
    have HZ : Hid (Bz w [.slice A0 na ca, .slice B0 nb cb, .slice C0 nc cc] [.int .i64 s.fn, .slice B s.args.length cb', .int .i64 s.steps, .int .i64 s.self, .int .i64 s.now] A c B2 d2 l w2) := Lib.hid ⟨H1.out.1.trans (HB2.out.mono H1.out.1.size), (HB2.out.block _ (lt_of_block H1.out.2.1)).trans H1.out.2.1, (HB2.out.block _ (lt_of_block H1.out.2.2)).trans H1.out.2.2, HI.out.next HB2.out, own_in h1 HI.out.len HI.out.all⟩
    clear h1 h2 HE HBe HB2 H1 HI
    go_upto_region 5 with fail
    try simp only [Act.put, List.setIfInBounds_toArray, List.set_cons_zero, List.set_cons_succ]
    go_cut [8, 9, 10] (fun x y z wx => ∃ A3 c3 g, x = .slice A3 l2.length c3 ∧ y = .pointer (some ⟨g, 0, none⟩) ∧ z = .int .i64 k ∧ Hid (Bz w [.slice A0 na ca, .slice B0 nb cb, .slice C0 nc cc] [.int .i64 s.fn, .slice B s.args.length cb', .int .i64 s.steps, .int .i64 s.self, .int .i64 s.now] A c B2 d2 l wx ∧ In wx A3 c3 l2 ∧ wx.heap[g]? = some (efB e) ∧ w.heap.size + 1 < g))
    case first =>
      refine Go.Proofs.YtjbcmedljgafkaaDoor.frames.wp_hold_act (fun a0 HA0 => ?_)
      have z0 : a0.tmps.size = 70 := by rw [HA0.out]; rfl
      have dd0 : a0.defers = [] := by rw [HA0.out]
      have f0_2 : a0.eval (.tmp 2) = .pointer (some ⟨w.heap.size, 0, none⟩) := by rw [HA0.out]; rfl
      have f0_3 : a0.eval (.tmp 3) = .pointer (some ⟨w.heap.size + 1, 0, none⟩) := by rw [HA0.out]; rfl
      have f0_5 : a0.eval (.tmp 5) = .slice A l.length c := by rw [HA0.out]; rfl
      refine wp_region_held_drew (S := fun w' => Bz w [.slice A0 na ca, .slice B0 nb cb, .slice C0 nc cc] [.int .i64 s.fn, .slice B s.args.length cb', .int .i64 s.steps, .int .i64 s.self, .int .i64 s.now] A c B2 d2 l w') (by kernel_rfl) (HZ.out.next (Below.refl _ _).drew) (fun hS => ?_)
      refine wpAnyH_take (i := 0) (v := .agg #[.slice A0 na ca, .slice B0 nb cb, .slice C0 nc cc]) rfl (by kernel_rfl) (by kernel_rfl) (by kernel_rfl) (fun _ _ _ h => h) (yields_prog rfl (.tmp 2) rfl _ f0_2 _ rfl (fun _ h => h.b0)) hS ?_
      obtain ⟨a1, hA1⟩ : ∃ a', a' = a0.put (some 27) (.agg #[.slice A0 na ca, .slice B0 nb cb, .slice C0 nc cc]) := ⟨_, rfl⟩
      change wpAnyH _ _ _ _ _ _ _ (a0.put (some 27) (.agg #[.slice A0 na ca, .slice B0 nb cb, .slice C0 nc cc])) _
      rw [← hA1]
      have f1_27 : a1.eval (.tmp 27) = .agg #[.slice A0 na ca, .slice B0 nb cb, .slice C0 nc cc] := by rw [hA1]; exact Act.eval_put_same _ _ _ (by omega)
      have f1_3 : a1.eval (.tmp 3) = .pointer (some ⟨w.heap.size + 1, 0, none⟩) := by rw [hA1]; exact (Act.eval_put_ne _ _ _ _ (by decide)).trans f0_3
      have f1_5 : a1.eval (.tmp 5) = .slice A l.length c := by rw [hA1]; exact (Act.eval_put_ne _ _ _ _ (by decide)).trans f0_5
      have z1 : a1.tmps.size = 70 := by rw [hA1, Act.size_put]; exact z0
      have dd1 : a1.defers = [] := by rw [hA1, Act.defers_put']; exact dd0
      have HA1 := Lib.hid hA1
      clear hA1 z0 dd0 f0_2 f0_3 f0_5
      refine wpAnyH_take (i := 2) (v := .slice A l.length c) rfl (by kernel_rfl) (by kernel_rfl) (by kernel_rfl) (fun _ _ _ h => h) (Go.Proofs.YtjbcmedljgafkaaDoor.frames.yields_move rfl (.tmp 5) rfl f1_5) hS ?_
      obtain ⟨a2, hA2⟩ : ∃ a', a' = a1.put (some 29) (.slice A l.length c) := ⟨_, rfl⟩
      change wpAnyH _ _ _ _ _ _ _ (a1.put (some 29) (.slice A l.length c)) _
      rw [← hA2]
      have f2_29 : a2.eval (.tmp 29) = .slice A l.length c := by rw [hA2]; exact Act.eval_put_same _ _ _ (by omega)
      have f2_27 : a2.eval (.tmp 27) = .agg #[.slice A0 na ca, .slice B0 nb cb, .slice C0 nc cc] := by rw [hA2]; exact (Act.eval_put_ne _ _ _ _ (by decide)).trans f1_27
      have f2_3 : a2.eval (.tmp 3) = .pointer (some ⟨w.heap.size + 1, 0, none⟩) := by rw [hA2]; exact (Act.eval_put_ne _ _ _ _ (by decide)).trans f1_3
      have f2_5 : a2.eval (.tmp 5) = .slice A l.length c := by rw [hA2]; exact (Act.eval_put_ne _ _ _ _ (by decide)).trans f1_5
      have z2 : a2.tmps.size = 70 := by rw [hA2, Act.size_put]; exact z1
      have dd2 : a2.defers = [] := by rw [hA2, Act.defers_put']; exact dd1
      have HA2 := Lib.hid hA2
      clear hA2 z1 dd1 f1_27 f1_3 f1_5
      refine wpAnyH_take (i := 3) (v := .pointer (some ⟨w.heap.size + 1, 3, none⟩)) rfl (by kernel_rfl) (by kernel_rfl) (by kernel_rfl) (fun _ _ _ h => h) (yields_sfld rfl (.tmp 3) 3 (.inl rfl) rfl _ f2_3) hS ?_
      obtain ⟨a3, hA3⟩ : ∃ a', a' = a2.put (some 30) (.pointer (some ⟨w.heap.size + 1, 3, none⟩)) := ⟨_, rfl⟩
      change wpAnyH _ _ _ _ _ _ _ (a2.put (some 30) (.pointer (some ⟨w.heap.size + 1, 3, none⟩))) _
      rw [← hA3]
      have f3_30 : a3.eval (.tmp 30) = .pointer (some ⟨w.heap.size + 1, 3, none⟩) := by rw [hA3]; exact Act.eval_put_same _ _ _ (by omega)
      have f3_29 : a3.eval (.tmp 29) = .slice A l.length c := by rw [hA3]; exact (Act.eval_put_ne _ _ _ _ (by decide)).trans f2_29
      have f3_27 : a3.eval (.tmp 27) = .agg #[.slice A0 na ca, .slice B0 nb cb, .slice C0 nc cc] := by rw [hA3]; exact (Act.eval_put_ne _ _ _ _ (by decide)).trans f2_27
      have f3_3 : a3.eval (.tmp 3) = .pointer (some ⟨w.heap.size + 1, 0, none⟩) := by rw [hA3]; exact (Act.eval_put_ne _ _ _ _ (by decide)).trans f2_3
      have z3 : a3.tmps.size = 70 := by rw [hA3, Act.size_put]; exact z2
      have dd3 : a3.defers = [] := by rw [hA3, Act.defers_put']; exact dd2
      have HA3 := Lib.hid hA3
      clear hA3 z2 dd2 f2_29 f2_27 f2_3 f2_5
      refine wpAnyH_take (i := 4) (v := .int .i64 s.self) rfl (by kernel_rfl) (by kernel_rfl) (by kernel_rfl) (fun _ _ _ h => h) (yields_int rfl (.tmp 30) rfl _ f3_30 _ (fun _ h => cell_of h.b1 rfl)) hS ?_
      obtain ⟨a4, hA4⟩ : ∃ a', a' = a3.put (some 31) (.int .i64 s.self) := ⟨_, rfl⟩
      change wpAnyH _ _ _ _ _ _ _ (a3.put (some 31) (.int .i64 s.self)) _
      rw [← hA4]
      have f4_31 : a4.eval (.tmp 31) = .int .i64 s.self := by rw [hA4]; exact Act.eval_put_same _ _ _ (by omega)
      have f4_29 : a4.eval (.tmp 29) = .slice A l.length c := by rw [hA4]; exact (Act.eval_put_ne _ _ _ _ (by decide)).trans f3_29
      have f4_27 : a4.eval (.tmp 27) = .agg #[.slice A0 na ca, .slice B0 nb cb, .slice C0 nc cc] := by rw [hA4]; exact (Act.eval_put_ne _ _ _ _ (by decide)).trans f3_27
      have f4_3 : a4.eval (.tmp 3) = .pointer (some ⟨w.heap.size + 1, 0, none⟩) := by rw [hA4]; exact (Act.eval_put_ne _ _ _ _ (by decide)).trans f3_3
      have z4 : a4.tmps.size = 70 := by rw [hA4, Act.size_put]; exact z3
      have dd4 : a4.defers = [] := by rw [hA4, Act.defers_put']; exact dd3
      have HA4 := Lib.hid hA4
      clear hA4 z3 dd3 f3_30 f3_29 f3_27 f3_3
      refine wpAnyH_take (i := 5) (v := .pointer (some ⟨w.heap.size + 1, 4, none⟩)) rfl (by kernel_rfl) (by kernel_rfl) (by kernel_rfl) (fun _ _ _ h => h) (yields_sfld rfl (.tmp 3) 4 (.inr rfl) rfl _ f4_3) hS ?_
      obtain ⟨a5, hA5⟩ : ∃ a', a' = a4.put (some 32) (.pointer (some ⟨w.heap.size + 1, 4, none⟩)) := ⟨_, rfl⟩
      change wpAnyH _ _ _ _ _ _ _ (a4.put (some 32) (.pointer (some ⟨w.heap.size + 1, 4, none⟩))) _
      rw [← hA5]
      have f5_32 : a5.eval (.tmp 32) = .pointer (some ⟨w.heap.size + 1, 4, none⟩) := by rw [hA5]; exact Act.eval_put_same _ _ _ (by omega)
      have f5_31 : a5.eval (.tmp 31) = .int .i64 s.self := by rw [hA5]; exact (Act.eval_put_ne _ _ _ _ (by decide)).trans f4_31
      have f5_29 : a5.eval (.tmp 29) = .slice A l.length c := by rw [hA5]; exact (Act.eval_put_ne _ _ _ _ (by decide)).trans f4_29
      have f5_27 : a5.eval (.tmp 27) = .agg #[.slice A0 na ca, .slice B0 nb cb, .slice C0 nc cc] := by rw [hA5]; exact (Act.eval_put_ne _ _ _ _ (by decide)).trans f4_27
      have f5_3 : a5.eval (.tmp 3) = .pointer (some ⟨w.heap.size + 1, 0, none⟩) := by rw [hA5]; exact (Act.eval_put_ne _ _ _ _ (by decide)).trans f4_3
      have z5 : a5.tmps.size = 70 := by rw [hA5, Act.size_put]; exact z4
      have dd5 : a5.defers = [] := by rw [hA5, Act.defers_put']; exact dd4
      have HA5 := Lib.hid hA5
      clear hA5 z4 dd4 f4_31 f4_29 f4_27 f4_3
      refine wpAnyH_take (i := 6) (v := .int .i64 s.now) rfl (by kernel_rfl) (by kernel_rfl) (by kernel_rfl) (fun _ _ _ h => h) (yields_int rfl (.tmp 32) rfl _ f5_32 _ (fun _ h => cell_of h.b1 rfl)) hS ?_
      obtain ⟨a6, hA6⟩ : ∃ a', a' = a5.put (some 33) (.int .i64 s.now) := ⟨_, rfl⟩
      change wpAnyH _ _ _ _ _ _ _ (a5.put (some 33) (.int .i64 s.now)) _
      rw [← hA6]
      have f6_33 : a6.eval (.tmp 33) = .int .i64 s.now := by rw [hA6]; exact Act.eval_put_same _ _ _ (by omega)
      have f6_31 : a6.eval (.tmp 31) = .int .i64 s.self := by rw [hA6]; exact (Act.eval_put_ne _ _ _ _ (by decide)).trans f5_31
      have f6_29 : a6.eval (.tmp 29) = .slice A l.length c := by rw [hA6]; exact (Act.eval_put_ne _ _ _ _ (by decide)).trans f5_29
      have f6_27 : a6.eval (.tmp 27) = .agg #[.slice A0 na ca, .slice B0 nb cb, .slice C0 nc cc] := by rw [hA6]; exact (Act.eval_put_ne _ _ _ _ (by decide)).trans f5_27
      have z6 : a6.tmps.size = 70 := by rw [hA6, Act.size_put]; exact z5
      have dd6 : a6.defers = [] := by rw [hA6, Act.defers_put']; exact dd5
      have HA6 := Lib.hid hA6
      clear hA6 z5 dd5 f5_32 f5_31 f5_29 f5_27 f5_3
      refine wpAnyH_ready (rs := [1, 12]) (by kernel_rfl) (by simp) (AllReadyH.cons (by simp only [List.getElem?_toArray, List.getElem?_cons_succ, List.getElem?_cons_zero]; rfl) (fun K hK => ?_) (AllReadyH.cons (by simp only [List.getElem?_toArray, List.getElem?_cons_succ, List.getElem?_cons_zero]; rfl) (fun K hK => ?_) AllReadyH.nil))
      · skip
        have HO1 := HOw (.agg #[.slice A0 na ca, .slice B0 nb cb, .slice C0 nc cc]) w2.drew (HG.out.next hS.below)
        refine step_call (by rfl) 10 #[.tmp 27] #[26] (by rfl) #[.agg #[.slice A0 na ca, .slice B0 nb cb, .slice C0 nc cc]] (by simp only [List.map_toArray, List.map_cons, List.map_nil, f6_27]) Tryd.func10 (by kernel_rfl) rfl HO1.out (fun e' W1 hR => ?_)
        obtain ⟨v3, rfl, hst, hb1⟩ := hR
        refine ⟨_, rfl, hK.out _ _ (hS.next hb1) (fun hS => ?_)⟩
        have HP3 := Lib.hid hst.now.1
        obtain ⟨a7, hA7⟩ : ∃ a', a' = a6.put (some 28) (v3) := ⟨_, rfl⟩
        change wpAnyH _ _ _ _ _ _ _ (a6.put (some 28) (v3)) _
        rw [← hA7]
        have f7_28 : a7.eval (.tmp 28) = v3 := by rw [hA7]; exact Act.eval_put_same _ _ _ (by omega)
        have f7_33 : a7.eval (.tmp 33) = .int .i64 s.now := by rw [hA7]; exact (Act.eval_put_ne _ _ _ _ (by decide)).trans f6_33
        have f7_31 : a7.eval (.tmp 31) = .int .i64 s.self := by rw [hA7]; exact (Act.eval_put_ne _ _ _ _ (by decide)).trans f6_31
        have f7_29 : a7.eval (.tmp 29) = .slice A l.length c := by rw [hA7]; exact (Act.eval_put_ne _ _ _ _ (by decide)).trans f6_29
        have z7 : a7.tmps.size = 70 := by rw [hA7, Act.size_put]; exact z6
        have dd7 : a7.defers = [] := by rw [hA7, Act.defers_put']; exact dd6
        have HA7 := Lib.hid hA7
        clear hA7 z6 dd6 f6_33 f6_31 f6_29 f6_27
        refine wpAnyH_ready (rs := [7, 12]) (by kernel_rfl) (by simp) (AllReadyH.cons (by simp only [List.getElem?_toArray, List.getElem?_cons_succ, List.getElem?_cons_zero]; rfl) (fun K hK => ?_) (AllReadyH.cons (by simp only [List.getElem?_toArray, List.getElem?_cons_succ, List.getElem?_cons_zero]; rfl) (fun K hK => ?_) AllReadyH.nil))
        · skip
          have HD1 := HD v3 W1 (HM.out _ _ HO.out hS.below) HP3.out hS.i1
          refine step_call (by rfl) 9 #[.tmp 28, .tmp 29, .tmp 31, .tmp 33] #[26, 30, 3, 3] (by rfl) #[v3, .slice A l.length c, .int .i64 s.self, .int .i64 s.now] (by simp only [List.map_toArray, List.map_cons, List.map_nil, f7_28, f7_29, f7_31, f7_33]) Tryd.func9 (by kernel_rfl) rfl HD1.out (fun e' W2 hR => ?_)
          obtain ⟨A3, c3, rfl, hI3, hb2⟩ := hR
          refine ⟨_, rfl, hK.out _ _ (hS.next hb2) (fun hS => ?_)⟩
          obtain ⟨a8, hA8⟩ : ∃ a', a' = a7.put (some 34) (.tuple #[.slice A3 l2.length c3, efV e, .int .i64 k]) := ⟨_, rfl⟩
          change wpAnyH _ _ _ _ _ _ _ (a7.put (some 34) (.tuple #[.slice A3 l2.length c3, efV e, .int .i64 k])) _
          rw [← hA8]
          have f8_34 : a8.eval (.tmp 34) = .tuple #[.slice A3 l2.length c3, efV e, .int .i64 k] := by rw [hA8]; exact Act.eval_put_same _ _ _ (by omega)
          have z8 : a8.tmps.size = 70 := by rw [hA8, Act.size_put]; exact z7
          have dd8 : a8.defers = [] := by rw [hA8, Act.defers_put']; exact dd7
          have HA8 := Lib.hid hA8
          clear hA8 z7 dd7 f7_28 f7_33 f7_31 f7_29
          refine wpAnyH_take (i := 8) (v := .tuple #[.slice A3 l2.length c3, efV e, .int .i64 k]) rfl (by kernel_rfl) (by kernel_rfl) (by kernel_rfl) (fun _ _ _ h => h) (Go.Proofs.YtjbcmedljgafkaaDoor.frames.yields_move rfl (.tmp 34) rfl f8_34) hS ?_
          obtain ⟨a9, hA9⟩ : ∃ a', a' = a8.put (some 26) (.tuple #[.slice A3 l2.length c3, efV e, .int .i64 k]) := ⟨_, rfl⟩
          change wpAnyH _ _ _ _ _ _ _ (a8.put (some 26) (.tuple #[.slice A3 l2.length c3, efV e, .int .i64 k])) _
          rw [← hA9]
          have f9_26 : a9.eval (.tmp 26) = .tuple #[.slice A3 l2.length c3, efV e, .int .i64 k] := by rw [hA9]; exact Act.eval_put_same _ _ _ (by omega)
          have z9 : a9.tmps.size = 70 := by rw [hA9, Act.size_put]; exact z8
          have dd9 : a9.defers = [] := by rw [hA9, Act.defers_put']; exact dd8
          have HA9 := Lib.hid hA9
          clear hA9 z8 dd8 f8_34
          refine wpAnyH_take (i := 9) (v := .slice A3 l2.length c3) rfl (by kernel_rfl) (by kernel_rfl) (by kernel_rfl) (fun _ _ _ h => h) (yields_part rfl (.tmp 26) 0 rfl _ _ f9_26 rfl) hS ?_
          obtain ⟨a10, hA10⟩ : ∃ a', a' = a9.put (some 35) (.slice A3 l2.length c3) := ⟨_, rfl⟩
          change wpAnyH _ _ _ _ _ _ _ (a9.put (some 35) (.slice A3 l2.length c3)) _
          rw [← hA10]
          have f10_35 : a10.eval (.tmp 35) = .slice A3 l2.length c3 := by rw [hA10]; exact Act.eval_put_same _ _ _ (by omega)
          have f10_26 : a10.eval (.tmp 26) = .tuple #[.slice A3 l2.length c3, efV e, .int .i64 k] := by rw [hA10]; exact (Act.eval_put_ne _ _ _ _ (by decide)).trans f9_26
          have z10 : a10.tmps.size = 70 := by rw [hA10, Act.size_put]; exact z9
          have dd10 : a10.defers = [] := by rw [hA10, Act.defers_put']; exact dd9
          have HA10 := Lib.hid hA10
          clear hA10 z9 dd9 f9_26
          refine wpAnyH_take (i := 10) (v := efV e) rfl (by kernel_rfl) (by kernel_rfl) (by kernel_rfl) (fun _ _ _ h => h) (yields_part rfl (.tmp 26) 1 rfl _ _ f10_26 rfl) hS ?_
          obtain ⟨a11, hA11⟩ : ∃ a', a' = a10.put (some 36) (efV e) := ⟨_, rfl⟩
          change wpAnyH _ _ _ _ _ _ _ (a10.put (some 36) (efV e)) _
          rw [← hA11]
          have f11_36 : a11.eval (.tmp 36) = efV e := by rw [hA11]; exact Act.eval_put_same _ _ _ (by omega)
          have f11_35 : a11.eval (.tmp 35) = .slice A3 l2.length c3 := by rw [hA11]; exact (Act.eval_put_ne _ _ _ _ (by decide)).trans f10_35
          have f11_26 : a11.eval (.tmp 26) = .tuple #[.slice A3 l2.length c3, efV e, .int .i64 k] := by rw [hA11]; exact (Act.eval_put_ne _ _ _ _ (by decide)).trans f10_26
          have z11 : a11.tmps.size = 70 := by rw [hA11, Act.size_put]; exact z10
          have dd11 : a11.defers = [] := by rw [hA11, Act.defers_put']; exact dd10
          have HA11 := Lib.hid hA11
          clear hA11 z10 dd10 f10_35 f10_26
          refine wpAnyH_take (i := 11) (v := .int .i64 k) rfl (by kernel_rfl) (by kernel_rfl) (by kernel_rfl) (fun _ _ _ h => h) (yields_part rfl (.tmp 26) 2 rfl _ _ f11_26 rfl) hS ?_
          obtain ⟨a12, hA12⟩ : ∃ a', a' = a11.put (some 37) (.int .i64 k) := ⟨_, rfl⟩
          change wpAnyH _ _ _ _ _ _ _ (a11.put (some 37) (.int .i64 k)) _
          rw [← hA12]
          have f12_37 : a12.eval (.tmp 37) = .int .i64 k := by rw [hA12]; exact Act.eval_put_same _ _ _ (by omega)
          have f12_36 : a12.eval (.tmp 36) = efV e := by rw [hA12]; exact (Act.eval_put_ne _ _ _ _ (by decide)).trans f11_36
          have f12_35 : a12.eval (.tmp 35) = .slice A3 l2.length c3 := by rw [hA12]; exact (Act.eval_put_ne _ _ _ _ (by decide)).trans f11_35
          have f12_26 : a12.eval (.tmp 26) = .tuple #[.slice A3 l2.length c3, efV e, .int .i64 k] := by rw [hA12]; exact (Act.eval_put_ne _ _ _ _ (by decide)).trans f11_26
          have z12 : a12.tmps.size = 70 := by rw [hA12, Act.size_put]; exact z11
          have dd12 : a12.defers = [] := by rw [hA12, Act.defers_put']; exact dd11
          have HA12 := Lib.hid hA12
          clear hA12 z11 dd11 f11_36 f11_35 f11_26
          refine wpAnyH_ready (rs := [12]) (by kernel_rfl) (by simp) (AllReadyH.cons (by simp only [List.getElem?_toArray, List.getElem?_cons_succ, List.getElem?_cons_zero]; rfl) (fun K hK => ?_) AllReadyH.nil)
          refine step_ealloc (by rfl) (by rfl) ?_
          have hg := heap_alloc_new W2 (efB zE)
          have hlt := hS.far
          refine hK.out _ _ (hS.alloc _) (fun hS => ?_)
          obtain ⟨a13, hA13⟩ : ∃ a', a' = a12.put (some 9) (.pointer (some ⟨W2.heap.size, 0, none⟩)) := ⟨_, rfl⟩
          change wpAnyH _ _ _ _ _ _ _ (a12.put (some 9) (.pointer (some ⟨W2.heap.size, 0, none⟩))) _
          rw [← hA13]
          have f13_9 : a13.eval (.tmp 9) = .pointer (some ⟨W2.heap.size, 0, none⟩) := by rw [hA13]; exact Act.eval_put_same _ _ _ (by omega)
          have f13_37 : a13.eval (.tmp 37) = .int .i64 k := by rw [hA13]; exact (Act.eval_put_ne _ _ _ _ (by decide)).trans f12_37
          have f13_36 : a13.eval (.tmp 36) = efV e := by rw [hA13]; exact (Act.eval_put_ne _ _ _ _ (by decide)).trans f12_36
          have f13_35 : a13.eval (.tmp 35) = .slice A3 l2.length c3 := by rw [hA13]; exact (Act.eval_put_ne _ _ _ _ (by decide)).trans f12_35
          have f13_26 : a13.eval (.tmp 26) = .tuple #[.slice A3 l2.length c3, efV e, .int .i64 k] := by rw [hA13]; exact (Act.eval_put_ne _ _ _ _ (by decide)).trans f12_26
          have z13 : a13.tmps.size = 70 := by rw [hA13, Act.size_put]; exact z12
          have dd13 : a13.defers = [] := by rw [hA13, Act.defers_put']; exact dd12
          have HA13 := Lib.hid hA13
          clear hA13 z12 dd12 f12_37 f12_36 f12_35 f12_26
          refine wpAnyH_take (i := 13) (v := .slice A3 l2.length c3) rfl (by kernel_rfl) (by kernel_rfl) (by kernel_rfl) (fun _ _ _ h => h) (yields_assign rfl (.tmp 35) rfl f13_35) hS ?_
          obtain ⟨a14, hA14⟩ : ∃ a', a' = a13.put (some 8) (.slice A3 l2.length c3) := ⟨_, rfl⟩
          change wpAnyH _ _ _ _ _ _ _ (a13.put (some 8) (.slice A3 l2.length c3)) _
          rw [← hA14]
          have f14_8 : a14.eval (.tmp 8) = .slice A3 l2.length c3 := by rw [hA14]; exact Act.eval_put_same _ _ _ (by omega)
          have f14_9 : a14.eval (.tmp 9) = .pointer (some ⟨W2.heap.size, 0, none⟩) := by rw [hA14]; exact (Act.eval_put_ne _ _ _ _ (by decide)).trans f13_9
          have f14_37 : a14.eval (.tmp 37) = .int .i64 k := by rw [hA14]; exact (Act.eval_put_ne _ _ _ _ (by decide)).trans f13_37
          have f14_36 : a14.eval (.tmp 36) = efV e := by rw [hA14]; exact (Act.eval_put_ne _ _ _ _ (by decide)).trans f13_36
          have z14 : a14.tmps.size = 70 := by rw [hA14, Act.size_put]; exact z13
          have dd14 : a14.defers = [] := by rw [hA14, Act.defers_put']; exact dd13
          have HA14 := Lib.hid hA14
          clear hA14 z13 dd13 f13_9 f13_37 f13_36 f13_35 f13_26
          refine wpAnyH_ready (rs := [14]) (by kernel_rfl) (by simp) (AllReadyH.cons (by simp only [List.getElem?_toArray, List.getElem?_cons_succ, List.getElem?_cons_zero]; rfl) (fun K hK => ?_) AllReadyH.nil)
          refine step_ef (by rfl) (.tmp 9) (.tmp 36) (by rfl) W2.heap.size zE e f14_9 f14_36 hg ?_
          have hi3 := in_row (hI3.next ((Below.refl _ _).alloc (Nat.le_refl _) _)) hg (by simp [efC]) (efC e).toArray
          have hg2 := row_turned hg (efC e).toArray
          refine hK.out _ _ (hS.row hg hlt _) (fun hS => ?_)
          change wpAnyH _ _ _ _ _ _ _ a14 _
          refine wpAnyH_take (i := 15) (v := .int .i64 k) rfl (by kernel_rfl) (by kernel_rfl) (by kernel_rfl) (fun _ _ _ h => h) (yields_assign rfl (.tmp 37) rfl f14_37) hS ?_
          obtain ⟨a15, hA15⟩ : ∃ a', a' = a14.put (some 10) (.int .i64 k) := ⟨_, rfl⟩
          change wpAnyH _ _ _ _ _ _ _ (a14.put (some 10) (.int .i64 k)) _
          rw [← hA15]
          have f15_10 : a15.eval (.tmp 10) = .int .i64 k := by rw [hA15]; exact Act.eval_put_same _ _ _ (by omega)
          have z15 : a15.tmps.size = 70 := by rw [hA15, Act.size_put]; exact z14
          have dd15 : a15.defers = [] := by rw [hA15, Act.defers_put']; exact dd14
          have HA15 := Lib.hid hA15
          clear hA15 z14 dd14 f14_8 f14_9 f14_37 f14_36
          refine wpAnyH_done (by kernel_rfl) ?_ _
          have HE := Lib.hid (And.intro hS (And.intro hi3 (And.intro hg2 hlt)))
          clear hS hi3 hg2 hlt hK
          rw [HA15.out]
          rw [HA14.out]
          rw [HA13.out]
          rw [HA12.out]
          rw [HA11.out]
          rw [HA10.out]
          rw [HA9.out]
          rw [HA8.out]
          rw [HA7.out]
          rw [HA6.out]
          rw [HA5.out]
          rw [HA4.out]
          rw [HA3.out]
          rw [HA2.out]
          rw [HA1.out]
          rw [HA0.out]
          simp only [Act.put, List.setIfInBounds_toArray, List.set_cons_zero, List.set_cons_succ]
          go_wp2_with fail
          go_meet
          exact ⟨_, _, _, rfl, rfl, rfl, HE⟩
        · skip
          refine step_ealloc (by rfl) (by rfl) ?_
          have hg := heap_alloc_new W1 (efB zE)
          have hlt := hS.far
          refine hK.out _ _ (hS.alloc _) (fun hS => ?_)
          obtain ⟨a8, hA8⟩ : ∃ a', a' = a7.put (some 9) (.pointer (some ⟨W1.heap.size, 0, none⟩)) := ⟨_, rfl⟩
          change wpAnyH _ _ _ _ _ _ _ (a7.put (some 9) (.pointer (some ⟨W1.heap.size, 0, none⟩))) _
          rw [← hA8]
          have f8_9 : a8.eval (.tmp 9) = .pointer (some ⟨W1.heap.size, 0, none⟩) := by rw [hA8]; exact Act.eval_put_same _ _ _ (by omega)
          have f8_28 : a8.eval (.tmp 28) = v3 := by rw [hA8]; exact (Act.eval_put_ne _ _ _ _ (by decide)).trans f7_28
          have f8_33 : a8.eval (.tmp 33) = .int .i64 s.now := by rw [hA8]; exact (Act.eval_put_ne _ _ _ _ (by decide)).trans f7_33
          have f8_31 : a8.eval (.tmp 31) = .int .i64 s.self := by rw [hA8]; exact (Act.eval_put_ne _ _ _ _ (by decide)).trans f7_31
          have f8_29 : a8.eval (.tmp 29) = .slice A l.length c := by rw [hA8]; exact (Act.eval_put_ne _ _ _ _ (by decide)).trans f7_29
          have z8 : a8.tmps.size = 70 := by rw [hA8, Act.size_put]; exact z7
          have dd8 : a8.defers = [] := by rw [hA8, Act.defers_put']; exact dd7
          have HA8 := Lib.hid hA8
          clear hA8 z7 dd7 f7_28 f7_33 f7_31 f7_29
          refine wpAnyH_ready (rs := [7]) (by kernel_rfl) (by simp) (AllReadyH.cons (by simp only [List.getElem?_toArray, List.getElem?_cons_succ, List.getElem?_cons_zero]; rfl) (fun K hK => ?_) AllReadyH.nil)
          have HD1 := HD v3 (W1.alloc (efB zE)) (HM.out _ _ HO.out hS.below) ((hst.now.1).next ((Below.refl _ _).alloc (Nat.le_refl _) _)) hS.i1
          refine step_call (by rfl) 9 #[.tmp 28, .tmp 29, .tmp 31, .tmp 33] #[26, 30, 3, 3] (by rfl) #[v3, .slice A l.length c, .int .i64 s.self, .int .i64 s.now] (by simp only [List.map_toArray, List.map_cons, List.map_nil, f8_28, f8_29, f8_31, f8_33]) Tryd.func9 (by kernel_rfl) rfl HD1.out (fun e' W2 hR => ?_)
          obtain ⟨A3, c3, rfl, hI3, hb2⟩ := hR
          refine ⟨_, rfl, hK.out _ _ (hS.next hb2) (fun hS => ?_)⟩
          obtain ⟨a9, hA9⟩ : ∃ a', a' = a8.put (some 34) (.tuple #[.slice A3 l2.length c3, efV e, .int .i64 k]) := ⟨_, rfl⟩
          change wpAnyH _ _ _ _ _ _ _ (a8.put (some 34) (.tuple #[.slice A3 l2.length c3, efV e, .int .i64 k])) _
          rw [← hA9]
          have f9_34 : a9.eval (.tmp 34) = .tuple #[.slice A3 l2.length c3, efV e, .int .i64 k] := by rw [hA9]; exact Act.eval_put_same _ _ _ (by omega)
          have f9_9 : a9.eval (.tmp 9) = .pointer (some ⟨W1.heap.size, 0, none⟩) := by rw [hA9]; exact (Act.eval_put_ne _ _ _ _ (by decide)).trans f8_9
          have z9 : a9.tmps.size = 70 := by rw [hA9, Act.size_put]; exact z8
          have dd9 : a9.defers = [] := by rw [hA9, Act.defers_put']; exact dd8
          have HA9 := Lib.hid hA9
          clear hA9 z8 dd8 f8_9 f8_28 f8_33 f8_31 f8_29
          replace hg := (hb2.block _ (lt_of_block hg)).trans hg
          refine wpAnyH_take (i := 8) (v := .tuple #[.slice A3 l2.length c3, efV e, .int .i64 k]) rfl (by kernel_rfl) (by kernel_rfl) (by kernel_rfl) (fun _ _ _ h => h) (Go.Proofs.YtjbcmedljgafkaaDoor.frames.yields_move rfl (.tmp 34) rfl f9_34) hS ?_
          obtain ⟨a10, hA10⟩ : ∃ a', a' = a9.put (some 26) (.tuple #[.slice A3 l2.length c3, efV e, .int .i64 k]) := ⟨_, rfl⟩
          change wpAnyH _ _ _ _ _ _ _ (a9.put (some 26) (.tuple #[.slice A3 l2.length c3, efV e, .int .i64 k])) _
          rw [← hA10]
          have f10_26 : a10.eval (.tmp 26) = .tuple #[.slice A3 l2.length c3, efV e, .int .i64 k] := by rw [hA10]; exact Act.eval_put_same _ _ _ (by omega)
          have f10_9 : a10.eval (.tmp 9) = .pointer (some ⟨W1.heap.size, 0, none⟩) := by rw [hA10]; exact (Act.eval_put_ne _ _ _ _ (by decide)).trans f9_9
          have z10 : a10.tmps.size = 70 := by rw [hA10, Act.size_put]; exact z9
          have dd10 : a10.defers = [] := by rw [hA10, Act.defers_put']; exact dd9
          have HA10 := Lib.hid hA10
          clear hA10 z9 dd9 f9_34 f9_9
          refine wpAnyH_take (i := 9) (v := .slice A3 l2.length c3) rfl (by kernel_rfl) (by kernel_rfl) (by kernel_rfl) (fun _ _ _ h => h) (yields_part rfl (.tmp 26) 0 rfl _ _ f10_26 rfl) hS ?_
          obtain ⟨a11, hA11⟩ : ∃ a', a' = a10.put (some 35) (.slice A3 l2.length c3) := ⟨_, rfl⟩
          change wpAnyH _ _ _ _ _ _ _ (a10.put (some 35) (.slice A3 l2.length c3)) _
          rw [← hA11]
          have f11_35 : a11.eval (.tmp 35) = .slice A3 l2.length c3 := by rw [hA11]; exact Act.eval_put_same _ _ _ (by omega)
          have f11_26 : a11.eval (.tmp 26) = .tuple #[.slice A3 l2.length c3, efV e, .int .i64 k] := by rw [hA11]; exact (Act.eval_put_ne _ _ _ _ (by decide)).trans f10_26
          have f11_9 : a11.eval (.tmp 9) = .pointer (some ⟨W1.heap.size, 0, none⟩) := by rw [hA11]; exact (Act.eval_put_ne _ _ _ _ (by decide)).trans f10_9
          have z11 : a11.tmps.size = 70 := by rw [hA11, Act.size_put]; exact z10
          have dd11 : a11.defers = [] := by rw [hA11, Act.defers_put']; exact dd10
          have HA11 := Lib.hid hA11
          clear hA11 z10 dd10 f10_26 f10_9
          refine wpAnyH_take (i := 10) (v := efV e) rfl (by kernel_rfl) (by kernel_rfl) (by kernel_rfl) (fun _ _ _ h => h) (yields_part rfl (.tmp 26) 1 rfl _ _ f11_26 rfl) hS ?_
          obtain ⟨a12, hA12⟩ : ∃ a', a' = a11.put (some 36) (efV e) := ⟨_, rfl⟩
          change wpAnyH _ _ _ _ _ _ _ (a11.put (some 36) (efV e)) _
          rw [← hA12]
          have f12_36 : a12.eval (.tmp 36) = efV e := by rw [hA12]; exact Act.eval_put_same _ _ _ (by omega)
          have f12_35 : a12.eval (.tmp 35) = .slice A3 l2.length c3 := by rw [hA12]; exact (Act.eval_put_ne _ _ _ _ (by decide)).trans f11_35
          have f12_26 : a12.eval (.tmp 26) = .tuple #[.slice A3 l2.length c3, efV e, .int .i64 k] := by rw [hA12]; exact (Act.eval_put_ne _ _ _ _ (by decide)).trans f11_26
          have f12_9 : a12.eval (.tmp 9) = .pointer (some ⟨W1.heap.size, 0, none⟩) := by rw [hA12]; exact (Act.eval_put_ne _ _ _ _ (by decide)).trans f11_9
          have z12 : a12.tmps.size = 70 := by rw [hA12, Act.size_put]; exact z11
          have dd12 : a12.defers = [] := by rw [hA12, Act.defers_put']; exact dd11
          have HA12 := Lib.hid hA12
          clear hA12 z11 dd11 f11_35 f11_26 f11_9
          refine wpAnyH_take (i := 11) (v := .int .i64 k) rfl (by kernel_rfl) (by kernel_rfl) (by kernel_rfl) (fun _ _ _ h => h) (yields_part rfl (.tmp 26) 2 rfl _ _ f12_26 rfl) hS ?_
          obtain ⟨a13, hA13⟩ : ∃ a', a' = a12.put (some 37) (.int .i64 k) := ⟨_, rfl⟩
          change wpAnyH _ _ _ _ _ _ _ (a12.put (some 37) (.int .i64 k)) _
          rw [← hA13]
          have f13_37 : a13.eval (.tmp 37) = .int .i64 k := by rw [hA13]; exact Act.eval_put_same _ _ _ (by omega)
          have f13_36 : a13.eval (.tmp 36) = efV e := by rw [hA13]; exact (Act.eval_put_ne _ _ _ _ (by decide)).trans f12_36
          have f13_35 : a13.eval (.tmp 35) = .slice A3 l2.length c3 := by rw [hA13]; exact (Act.eval_put_ne _ _ _ _ (by decide)).trans f12_35
          have f13_26 : a13.eval (.tmp 26) = .tuple #[.slice A3 l2.length c3, efV e, .int .i64 k] := by rw [hA13]; exact (Act.eval_put_ne _ _ _ _ (by decide)).trans f12_26
          have f13_9 : a13.eval (.tmp 9) = .pointer (some ⟨W1.heap.size, 0, none⟩) := by rw [hA13]; exact (Act.eval_put_ne _ _ _ _ (by decide)).trans f12_9
          have z13 : a13.tmps.size = 70 := by rw [hA13, Act.size_put]; exact z12
          have dd13 : a13.defers = [] := by rw [hA13, Act.defers_put']; exact dd12
          have HA13 := Lib.hid hA13
          clear hA13 z12 dd12 f12_36 f12_35 f12_26 f12_9
          refine wpAnyH_take (i := 13) (v := .slice A3 l2.length c3) rfl (by kernel_rfl) (by kernel_rfl) (by kernel_rfl) (fun _ _ _ h => h) (yields_assign rfl (.tmp 35) rfl f13_35) hS ?_
          obtain ⟨a14, hA14⟩ : ∃ a', a' = a13.put (some 8) (.slice A3 l2.length c3) := ⟨_, rfl⟩
          change wpAnyH _ _ _ _ _ _ _ (a13.put (some 8) (.slice A3 l2.length c3)) _
          rw [← hA14]
          have f14_8 : a14.eval (.tmp 8) = .slice A3 l2.length c3 := by rw [hA14]; exact Act.eval_put_same _ _ _ (by omega)
          have f14_37 : a14.eval (.tmp 37) = .int .i64 k := by rw [hA14]; exact (Act.eval_put_ne _ _ _ _ (by decide)).trans f13_37
          have f14_36 : a14.eval (.tmp 36) = efV e := by rw [hA14]; exact (Act.eval_put_ne _ _ _ _ (by decide)).trans f13_36
          have f14_9 : a14.eval (.tmp 9) = .pointer (some ⟨W1.heap.size, 0, none⟩) := by rw [hA14]; exact (Act.eval_put_ne _ _ _ _ (by decide)).trans f13_9
          have z14 : a14.tmps.size = 70 := by rw [hA14, Act.size_put]; exact z13
          have dd14 : a14.defers = [] := by rw [hA14, Act.defers_put']; exact dd13
          have HA14 := Lib.hid hA14
          clear hA14 z13 dd13 f13_37 f13_36 f13_35 f13_26 f13_9
          refine wpAnyH_ready (rs := [14]) (by kernel_rfl) (by simp) (AllReadyH.cons (by simp only [List.getElem?_toArray, List.getElem?_cons_succ, List.getElem?_cons_zero]; rfl) (fun K hK => ?_) AllReadyH.nil)
          refine step_ef (by rfl) (.tmp 9) (.tmp 36) (by rfl) W1.heap.size zE e f14_9 f14_36 hg ?_
          have hi3 := in_row hI3 hg (by simp [efC]) (efC e).toArray
          have hg2 := row_turned hg (efC e).toArray
          refine hK.out _ _ (hS.row hg hlt _) (fun hS => ?_)
          change wpAnyH _ _ _ _ _ _ _ a14 _
          refine wpAnyH_take (i := 15) (v := .int .i64 k) rfl (by kernel_rfl) (by kernel_rfl) (by kernel_rfl) (fun _ _ _ h => h) (yields_assign rfl (.tmp 37) rfl f14_37) hS ?_
          obtain ⟨a15, hA15⟩ : ∃ a', a' = a14.put (some 10) (.int .i64 k) := ⟨_, rfl⟩
          change wpAnyH _ _ _ _ _ _ _ (a14.put (some 10) (.int .i64 k)) _
          rw [← hA15]
          have f15_10 : a15.eval (.tmp 10) = .int .i64 k := by rw [hA15]; exact Act.eval_put_same _ _ _ (by omega)
          have z15 : a15.tmps.size = 70 := by rw [hA15, Act.size_put]; exact z14
          have dd15 : a15.defers = [] := by rw [hA15, Act.defers_put']; exact dd14
          have HA15 := Lib.hid hA15
          clear hA15 z14 dd14 f14_8 f14_37 f14_36 f14_9
          refine wpAnyH_done (by kernel_rfl) ?_ _
          have HE := Lib.hid (And.intro hS (And.intro hi3 (And.intro hg2 hlt)))
          clear hS hi3 hg2 hlt hK
          rw [HA15.out]
          rw [HA14.out]
          rw [HA13.out]
          rw [HA12.out]
          rw [HA11.out]
          rw [HA10.out]
          rw [HA9.out]
          rw [HA8.out]
          rw [HA7.out]
          rw [HA6.out]
          rw [HA5.out]
          rw [HA4.out]
          rw [HA3.out]
          rw [HA2.out]
          rw [HA1.out]
          rw [HA0.out]
          simp only [Act.put, List.setIfInBounds_toArray, List.set_cons_zero, List.set_cons_succ]
          go_wp2_with fail
          go_meet
          exact ⟨_, _, _, rfl, rfl, rfl, HE⟩
      · skip
        refine step_ealloc (by rfl) (by rfl) ?_
        have hg := heap_alloc_new w2.drew (efB zE)
        have hlt := hS.far
        refine hK.out _ _ (hS.alloc _) (fun hS => ?_)
        obtain ⟨a7, hA7⟩ : ∃ a', a' = a6.put (some 9) (.pointer (some ⟨w2.drew.heap.size, 0, none⟩)) := ⟨_, rfl⟩
        change wpAnyH _ _ _ _ _ _ _ (a6.put (some 9) (.pointer (some ⟨w2.drew.heap.size, 0, none⟩))) _
        rw [← hA7]
        have f7_9 : a7.eval (.tmp 9) = .pointer (some ⟨w2.drew.heap.size, 0, none⟩) := by rw [hA7]; exact Act.eval_put_same _ _ _ (by omega)
        have f7_33 : a7.eval (.tmp 33) = .int .i64 s.now := by rw [hA7]; exact (Act.eval_put_ne _ _ _ _ (by decide)).trans f6_33
        have f7_31 : a7.eval (.tmp 31) = .int .i64 s.self := by rw [hA7]; exact (Act.eval_put_ne _ _ _ _ (by decide)).trans f6_31
        have f7_29 : a7.eval (.tmp 29) = .slice A l.length c := by rw [hA7]; exact (Act.eval_put_ne _ _ _ _ (by decide)).trans f6_29
        have f7_27 : a7.eval (.tmp 27) = .agg #[.slice A0 na ca, .slice B0 nb cb, .slice C0 nc cc] := by rw [hA7]; exact (Act.eval_put_ne _ _ _ _ (by decide)).trans f6_27
        have z7 : a7.tmps.size = 70 := by rw [hA7, Act.size_put]; exact z6
        have dd7 : a7.defers = [] := by rw [hA7, Act.defers_put']; exact dd6
        have HA7 := Lib.hid hA7
        clear hA7 z6 dd6 f6_33 f6_31 f6_29 f6_27
        refine wpAnyH_ready (rs := [1]) (by kernel_rfl) (by simp) (AllReadyH.cons (by simp only [List.getElem?_toArray, List.getElem?_cons_succ, List.getElem?_cons_zero]; rfl) (fun K hK => ?_) AllReadyH.nil)
        have HO1 := HOw (.agg #[.slice A0 na ca, .slice B0 nb cb, .slice C0 nc cc]) (w2.drew.alloc (efB zE)) (HG.out.next hS.below)
        refine step_call (by rfl) 10 #[.tmp 27] #[26] (by rfl) #[.agg #[.slice A0 na ca, .slice B0 nb cb, .slice C0 nc cc]] (by simp only [List.map_toArray, List.map_cons, List.map_nil, f7_27]) Tryd.func10 (by kernel_rfl) rfl HO1.out (fun e' W1 hR => ?_)
        obtain ⟨v3, rfl, hst, hb1⟩ := hR
        refine ⟨_, rfl, hK.out _ _ (hS.next hb1) (fun hS => ?_)⟩
        have HP3 := Lib.hid hst.now.1
        obtain ⟨a8, hA8⟩ : ∃ a', a' = a7.put (some 28) (v3) := ⟨_, rfl⟩
        change wpAnyH _ _ _ _ _ _ _ (a7.put (some 28) (v3)) _
        rw [← hA8]
        have f8_28 : a8.eval (.tmp 28) = v3 := by rw [hA8]; exact Act.eval_put_same _ _ _ (by omega)
        have f8_9 : a8.eval (.tmp 9) = .pointer (some ⟨w2.drew.heap.size, 0, none⟩) := by rw [hA8]; exact (Act.eval_put_ne _ _ _ _ (by decide)).trans f7_9
        have f8_33 : a8.eval (.tmp 33) = .int .i64 s.now := by rw [hA8]; exact (Act.eval_put_ne _ _ _ _ (by decide)).trans f7_33
        have f8_31 : a8.eval (.tmp 31) = .int .i64 s.self := by rw [hA8]; exact (Act.eval_put_ne _ _ _ _ (by decide)).trans f7_31
        have f8_29 : a8.eval (.tmp 29) = .slice A l.length c := by rw [hA8]; exact (Act.eval_put_ne _ _ _ _ (by decide)).trans f7_29
        have z8 : a8.tmps.size = 70 := by rw [hA8, Act.size_put]; exact z7
        have dd8 : a8.defers = [] := by rw [hA8, Act.defers_put']; exact dd7
        have HA8 := Lib.hid hA8
        clear hA8 z7 dd7 f7_9 f7_33 f7_31 f7_29 f7_27
        replace hg := (hb1.block _ (lt_of_block hg)).trans hg
        refine wpAnyH_ready (rs := [7]) (by kernel_rfl) (by simp) (AllReadyH.cons (by simp only [List.getElem?_toArray, List.getElem?_cons_succ, List.getElem?_cons_zero]; rfl) (fun K hK => ?_) AllReadyH.nil)
        have HD1 := HD v3 W1 (HM.out _ _ HO.out hS.below) HP3.out hS.i1
        refine step_call (by rfl) 9 #[.tmp 28, .tmp 29, .tmp 31, .tmp 33] #[26, 30, 3, 3] (by rfl) #[v3, .slice A l.length c, .int .i64 s.self, .int .i64 s.now] (by simp only [List.map_toArray, List.map_cons, List.map_nil, f8_28, f8_29, f8_31, f8_33]) Tryd.func9 (by kernel_rfl) rfl HD1.out (fun e' W2 hR => ?_)
        obtain ⟨A3, c3, rfl, hI3, hb2⟩ := hR
        refine ⟨_, rfl, hK.out _ _ (hS.next hb2) (fun hS => ?_)⟩
        obtain ⟨a9, hA9⟩ : ∃ a', a' = a8.put (some 34) (.tuple #[.slice A3 l2.length c3, efV e, .int .i64 k]) := ⟨_, rfl⟩
        change wpAnyH _ _ _ _ _ _ _ (a8.put (some 34) (.tuple #[.slice A3 l2.length c3, efV e, .int .i64 k])) _
        rw [← hA9]
        have f9_34 : a9.eval (.tmp 34) = .tuple #[.slice A3 l2.length c3, efV e, .int .i64 k] := by rw [hA9]; exact Act.eval_put_same _ _ _ (by omega)
        have f9_9 : a9.eval (.tmp 9) = .pointer (some ⟨w2.drew.heap.size, 0, none⟩) := by rw [hA9]; exact (Act.eval_put_ne _ _ _ _ (by decide)).trans f8_9
        have z9 : a9.tmps.size = 70 := by rw [hA9, Act.size_put]; exact z8
        have dd9 : a9.defers = [] := by rw [hA9, Act.defers_put']; exact dd8
        have HA9 := Lib.hid hA9
        clear hA9 z8 dd8 f8_28 f8_9 f8_33 f8_31 f8_29
        replace hg := (hb2.block _ (lt_of_block hg)).trans hg
        refine wpAnyH_take (i := 8) (v := .tuple #[.slice A3 l2.length c3, efV e, .int .i64 k]) rfl (by kernel_rfl) (by kernel_rfl) (by kernel_rfl) (fun _ _ _ h => h) (Go.Proofs.YtjbcmedljgafkaaDoor.frames.yields_move rfl (.tmp 34) rfl f9_34) hS ?_
        obtain ⟨a10, hA10⟩ : ∃ a', a' = a9.put (some 26) (.tuple #[.slice A3 l2.length c3, efV e, .int .i64 k]) := ⟨_, rfl⟩
        change wpAnyH _ _ _ _ _ _ _ (a9.put (some 26) (.tuple #[.slice A3 l2.length c3, efV e, .int .i64 k])) _
        rw [← hA10]
        have f10_26 : a10.eval (.tmp 26) = .tuple #[.slice A3 l2.length c3, efV e, .int .i64 k] := by rw [hA10]; exact Act.eval_put_same _ _ _ (by omega)
        have f10_9 : a10.eval (.tmp 9) = .pointer (some ⟨w2.drew.heap.size, 0, none⟩) := by rw [hA10]; exact (Act.eval_put_ne _ _ _ _ (by decide)).trans f9_9
        have z10 : a10.tmps.size = 70 := by rw [hA10, Act.size_put]; exact z9
        have dd10 : a10.defers = [] := by rw [hA10, Act.defers_put']; exact dd9
        have HA10 := Lib.hid hA10
        clear hA10 z9 dd9 f9_34 f9_9
        refine wpAnyH_take (i := 9) (v := .slice A3 l2.length c3) rfl (by kernel_rfl) (by kernel_rfl) (by kernel_rfl) (fun _ _ _ h => h) (yields_part rfl (.tmp 26) 0 rfl _ _ f10_26 rfl) hS ?_
        obtain ⟨a11, hA11⟩ : ∃ a', a' = a10.put (some 35) (.slice A3 l2.length c3) := ⟨_, rfl⟩
        change wpAnyH _ _ _ _ _ _ _ (a10.put (some 35) (.slice A3 l2.length c3)) _
        rw [← hA11]
        have f11_35 : a11.eval (.tmp 35) = .slice A3 l2.length c3 := by rw [hA11]; exact Act.eval_put_same _ _ _ (by omega)
        have f11_26 : a11.eval (.tmp 26) = .tuple #[.slice A3 l2.length c3, efV e, .int .i64 k] := by rw [hA11]; exact (Act.eval_put_ne _ _ _ _ (by decide)).trans f10_26
        have f11_9 : a11.eval (.tmp 9) = .pointer (some ⟨w2.drew.heap.size, 0, none⟩) := by rw [hA11]; exact (Act.eval_put_ne _ _ _ _ (by decide)).trans f10_9
        have z11 : a11.tmps.size = 70 := by rw [hA11, Act.size_put]; exact z10
        have dd11 : a11.defers = [] := by rw [hA11, Act.defers_put']; exact dd10
        have HA11 := Lib.hid hA11
        clear hA11 z10 dd10 f10_26 f10_9
        refine wpAnyH_take (i := 10) (v := efV e) rfl (by kernel_rfl) (by kernel_rfl) (by kernel_rfl) (fun _ _ _ h => h) (yields_part rfl (.tmp 26) 1 rfl _ _ f11_26 rfl) hS ?_
        obtain ⟨a12, hA12⟩ : ∃ a', a' = a11.put (some 36) (efV e) := ⟨_, rfl⟩
        change wpAnyH _ _ _ _ _ _ _ (a11.put (some 36) (efV e)) _
        rw [← hA12]
        have f12_36 : a12.eval (.tmp 36) = efV e := by rw [hA12]; exact Act.eval_put_same _ _ _ (by omega)
        have f12_35 : a12.eval (.tmp 35) = .slice A3 l2.length c3 := by rw [hA12]; exact (Act.eval_put_ne _ _ _ _ (by decide)).trans f11_35
        have f12_26 : a12.eval (.tmp 26) = .tuple #[.slice A3 l2.length c3, efV e, .int .i64 k] := by rw [hA12]; exact (Act.eval_put_ne _ _ _ _ (by decide)).trans f11_26
        have f12_9 : a12.eval (.tmp 9) = .pointer (some ⟨w2.drew.heap.size, 0, none⟩) := by rw [hA12]; exact (Act.eval_put_ne _ _ _ _ (by decide)).trans f11_9
        have z12 : a12.tmps.size = 70 := by rw [hA12, Act.size_put]; exact z11
        have dd12 : a12.defers = [] := by rw [hA12, Act.defers_put']; exact dd11
        have HA12 := Lib.hid hA12
        clear hA12 z11 dd11 f11_35 f11_26 f11_9
        refine wpAnyH_take (i := 11) (v := .int .i64 k) rfl (by kernel_rfl) (by kernel_rfl) (by kernel_rfl) (fun _ _ _ h => h) (yields_part rfl (.tmp 26) 2 rfl _ _ f12_26 rfl) hS ?_
        obtain ⟨a13, hA13⟩ : ∃ a', a' = a12.put (some 37) (.int .i64 k) := ⟨_, rfl⟩
        change wpAnyH _ _ _ _ _ _ _ (a12.put (some 37) (.int .i64 k)) _
        rw [← hA13]
        have f13_37 : a13.eval (.tmp 37) = .int .i64 k := by rw [hA13]; exact Act.eval_put_same _ _ _ (by omega)
        have f13_36 : a13.eval (.tmp 36) = efV e := by rw [hA13]; exact (Act.eval_put_ne _ _ _ _ (by decide)).trans f12_36
        have f13_35 : a13.eval (.tmp 35) = .slice A3 l2.length c3 := by rw [hA13]; exact (Act.eval_put_ne _ _ _ _ (by decide)).trans f12_35
        have f13_26 : a13.eval (.tmp 26) = .tuple #[.slice A3 l2.length c3, efV e, .int .i64 k] := by rw [hA13]; exact (Act.eval_put_ne _ _ _ _ (by decide)).trans f12_26
        have f13_9 : a13.eval (.tmp 9) = .pointer (some ⟨w2.drew.heap.size, 0, none⟩) := by rw [hA13]; exact (Act.eval_put_ne _ _ _ _ (by decide)).trans f12_9
        have z13 : a13.tmps.size = 70 := by rw [hA13, Act.size_put]; exact z12
        have dd13 : a13.defers = [] := by rw [hA13, Act.defers_put']; exact dd12
        have HA13 := Lib.hid hA13
        clear hA13 z12 dd12 f12_36 f12_35 f12_26 f12_9
        refine wpAnyH_take (i := 13) (v := .slice A3 l2.length c3) rfl (by kernel_rfl) (by kernel_rfl) (by kernel_rfl) (fun _ _ _ h => h) (yields_assign rfl (.tmp 35) rfl f13_35) hS ?_
        obtain ⟨a14, hA14⟩ : ∃ a', a' = a13.put (some 8) (.slice A3 l2.length c3) := ⟨_, rfl⟩
        change wpAnyH _ _ _ _ _ _ _ (a13.put (some 8) (.slice A3 l2.length c3)) _
        rw [← hA14]
        have f14_8 : a14.eval (.tmp 8) = .slice A3 l2.length c3 := by rw [hA14]; exact Act.eval_put_same _ _ _ (by omega)
        have f14_37 : a14.eval (.tmp 37) = .int .i64 k := by rw [hA14]; exact (Act.eval_put_ne _ _ _ _ (by decide)).trans f13_37
        have f14_36 : a14.eval (.tmp 36) = efV e := by rw [hA14]; exact (Act.eval_put_ne _ _ _ _ (by decide)).trans f13_36
        have f14_9 : a14.eval (.tmp 9) = .pointer (some ⟨w2.drew.heap.size, 0, none⟩) := by rw [hA14]; exact (Act.eval_put_ne _ _ _ _ (by decide)).trans f13_9
        have z14 : a14.tmps.size = 70 := by rw [hA14, Act.size_put]; exact z13
        have dd14 : a14.defers = [] := by rw [hA14, Act.defers_put']; exact dd13
        have HA14 := Lib.hid hA14
        clear hA14 z13 dd13 f13_37 f13_36 f13_35 f13_26 f13_9
        refine wpAnyH_ready (rs := [14]) (by kernel_rfl) (by simp) (AllReadyH.cons (by simp only [List.getElem?_toArray, List.getElem?_cons_succ, List.getElem?_cons_zero]; rfl) (fun K hK => ?_) AllReadyH.nil)
        refine step_ef (by rfl) (.tmp 9) (.tmp 36) (by rfl) w2.drew.heap.size zE e f14_9 f14_36 hg ?_
        have hi3 := in_row hI3 hg (by simp [efC]) (efC e).toArray
        have hg2 := row_turned hg (efC e).toArray
        refine hK.out _ _ (hS.row hg hlt _) (fun hS => ?_)
        change wpAnyH _ _ _ _ _ _ _ a14 _
        refine wpAnyH_take (i := 15) (v := .int .i64 k) rfl (by kernel_rfl) (by kernel_rfl) (by kernel_rfl) (fun _ _ _ h => h) (yields_assign rfl (.tmp 37) rfl f14_37) hS ?_
        obtain ⟨a15, hA15⟩ : ∃ a', a' = a14.put (some 10) (.int .i64 k) := ⟨_, rfl⟩
        change wpAnyH _ _ _ _ _ _ _ (a14.put (some 10) (.int .i64 k)) _
        rw [← hA15]
        have f15_10 : a15.eval (.tmp 10) = .int .i64 k := by rw [hA15]; exact Act.eval_put_same _ _ _ (by omega)
        have z15 : a15.tmps.size = 70 := by rw [hA15, Act.size_put]; exact z14
        have dd15 : a15.defers = [] := by rw [hA15, Act.defers_put']; exact dd14
        have HA15 := Lib.hid hA15
        clear hA15 z14 dd14 f14_8 f14_37 f14_36 f14_9
        refine wpAnyH_done (by kernel_rfl) ?_ _
        have HE := Lib.hid (And.intro hS (And.intro hi3 (And.intro hg2 hlt)))
        clear hS hi3 hg2 hlt hK
        rw [HA15.out]
        rw [HA14.out]
        rw [HA13.out]
        rw [HA12.out]
        rw [HA11.out]
        rw [HA10.out]
        rw [HA9.out]
        rw [HA8.out]
        rw [HA7.out]
        rw [HA6.out]
        rw [HA5.out]
        rw [HA4.out]
        rw [HA3.out]
        rw [HA2.out]
        rw [HA1.out]
        rw [HA0.out]
        simp only [Act.put, List.setIfInBounds_toArray, List.set_cons_zero, List.set_cons_succ]
        go_wp2_with fail
        go_meet
        exact ⟨_, _, _, rfl, rfl, rfl, HE⟩
    case rest =>
      obtain ⟨A3, c3, g, rfl, rfl, rfl, HW⟩ := hcut
      clear HZ HOw HD
      obtain ⟨x0, x1, x2, -, -, -⟩ := cells3 HW.out.1.b0
      obtain ⟨y0, y1, y2, y3, y4⟩ := st_cells HW.out.1.b1
      have HR := HRd wc B2 d2 (HV.out.next HW.out.1.below) HW.out.1.i2
      clear HRd
      go_wp2_with fail
      refine HR.out.mono ?_
      rintro _ w4 ⟨A4, c4, rfl, hI4, hb4⟩
      have H4 := Lib.hid (And.intro (HW.out.1.next hb4) (And.intro (HW.out.2.1.next hb4) (And.intro ((hb4.block _ (lt_of_block HW.out.2.2.1)).trans HW.out.2.2.1) hI4)))
      clear hI4 hb4 HR HW x0 x1 x2 y0 y1 y2 y3 y4
      go_upto_region 7 with (first | refine we_alloc rfl rfl ?_ | refine we_store rfl _ _ rfl w4.heap.size zE e rfl rfl (heap_alloc_new w4 (efB zE)) ?_)
      try simp only [Go.Act.put, List.setIfInBounds_toArray, List.set_cons_zero, List.set_cons_succ]
      refine wp_hold_world (fun W5 HW5 => ?_)
      have H5 : Hid (Below w.heap.size w W5 ∧ In W5 A c l ∧ In W5 B2 d2 l ∧ In W5 A3 c3 l2 ∧ In W5 A4 c4 l2 ∧ W5.heap[g]? = some (efB e) ∧ W5.heap[w4.heap.size]? = some (efB e)) := Lib.hid (by
        have hb : Below w4.heap.size w4 W5 := by rw [HW5.out]; exact Go.Proofs.YtjbcmedljgafkaaDoor.frames.row_below ((Below.refl _ _).alloc (Nat.le_refl _) _) (Nat.le_refl _) _
        have hz := H4.out.1.next hb
        refine ⟨hz.below, hz.i1, hz.i2, H4.out.2.1.next hb, H4.out.2.2.2.next hb, (hb.block _ (lt_of_block H4.out.2.2.1)).trans H4.out.2.2.1, ?_⟩
        rw [HW5.out]
        exact row_turned (heap_alloc_new w4 (efB zE)) _)
      clear HW5 H4
      generalize w4.heap.size = g4 at *
      have HS := Lib.hid (refSame_yes A3 A4 c3 c4 l2 W5 H5.out.2.2.2.1.at' H5.out.2.2.2.2.1.at' H5.out.2.2.2.1.len)
      go_wp2_with fail
      refine HS.out.mono ?_
      rintro _ w6 ⟨rfl, hb6⟩
      have H6 : Hid (Below w.heap.size w w6 ∧ In w6 A c l ∧ In w6 B2 d2 l ∧ w6.heap[g]? = some (efB e) ∧ w6.heap[g4]? = some (efB e)) := Lib.hid ⟨H5.out.1.trans (hb6.mono H5.out.1.size), H5.out.2.1.next hb6, H5.out.2.2.1.next hb6, (hb6.block _ (lt_of_block H5.out.2.2.2.2.2.1)).trans H5.out.2.2.2.2.2.1, (hb6.block _ (lt_of_block H5.out.2.2.2.2.2.2)).trans H5.out.2.2.2.2.2.2⟩
      clear HS H5 hb6
      obtain ⟨a0, a1, a2, a3, a4, a5, a6, a7, he, -⟩ := ef_eight e
      have x0 := ef_cell H6.out.2.2.2.1 (j := 0) (v := .int .i64 a0) (by rw [he]; rfl)
      have x1 := ef_cell H6.out.2.2.2.1 (j := 1) (v := .int .i64 a1) (by rw [he]; rfl)
      have x2 := ef_cell H6.out.2.2.2.1 (j := 2) (v := .int .i64 a2) (by rw [he]; rfl)
      have x3 := ef_cell H6.out.2.2.2.1 (j := 3) (v := .int .i64 a3) (by rw [he]; rfl)
      have x4 := ef_cell H6.out.2.2.2.1 (j := 4) (v := .int .i64 a4) (by rw [he]; rfl)
      have x5 := ef_cell H6.out.2.2.2.1 (j := 5) (v := .int .i64 a5) (by rw [he]; rfl)
      have x6 := ef_cell H6.out.2.2.2.1 (j := 6) (v := .int .i64 a6) (by rw [he]; rfl)
      have x7 := ef_cell H6.out.2.2.2.1 (j := 7) (v := .int .i64 a7) (by rw [he]; rfl)
      have y0 := ef_cell H6.out.2.2.2.2 (j := 0) (v := .int .i64 a0) (by rw [he]; rfl)
      have y1 := ef_cell H6.out.2.2.2.2 (j := 1) (v := .int .i64 a1) (by rw [he]; rfl)
      have y2 := ef_cell H6.out.2.2.2.2 (j := 2) (v := .int .i64 a2) (by rw [he]; rfl)
      have y3 := ef_cell H6.out.2.2.2.2 (j := 3) (v := .int .i64 a3) (by rw [he]; rfl)
      have y4 := ef_cell H6.out.2.2.2.2 (j := 4) (v := .int .i64 a4) (by rw [he]; rfl)
      have y5 := ef_cell H6.out.2.2.2.2 (j := 5) (v := .int .i64 a5) (by rw [he]; rfl)
      have y6 := ef_cell H6.out.2.2.2.2 (j := 6) (v := .int .i64 a6) (by rw [he]; rfl)
      have y7 := ef_cell H6.out.2.2.2.2 (j := 7) (v := .int .i64 a7) (by rw [he]; rfl)
      have hq8 := fun W => eql8 a0 a1 a2 a3 a4 a5 a6 a7 W
      have hg8 := fun x y W => guard8 x y a0 a1 a2 a3 a4 a5 a6 a7 W
      have hk : (k == k) = true := by simp
      have HS := Lib.hid (refSame_yes A B2 c d2 l w6 H6.out.2.1.at' H6.out.2.2.1.at' H6.out.2.1.len)
      have H7 := Lib.hid H6.out.1
      clear H6 he
      go_wp2_with fail
      refine HS.out.mono ?_
      rintro _ w7 ⟨rfl, hb7⟩
      have H8 := Lib.hid (H7.out.trans (hb7.mono H7.out.size))
      have HL8 := HL w7 (HM.out _ _ HO.out H8.out)
      clear HS hb7 H7 HL x0 x1 x2 x3 x4 x5 x6 x7 y0 y1 y2 y3 y4 y5 y6 y7 hq8 hg8
      go_wp2_with fail
      refine HL8.out.mono ?_
      rintro _ w9 ⟨rfl, hb9⟩
      have H9 := Lib.hid (H8.out.trans (hb9.mono H8.out.size))
      clear hb9
      go_wp2
      go_ret
      exact ⟨rfl, H9.out⟩
end Go.Proofs.YtjbcmedljgafkaaDoor.pgm.exe
