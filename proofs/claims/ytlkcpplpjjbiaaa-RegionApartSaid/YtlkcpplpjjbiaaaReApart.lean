/-
  A clone has the same, and the region goes on by itself; and what is not there: the walk of RegionApart. No condition. Printed by tools/mkreapart.py.
-/
import Derived.Test.YtlkcpplpjjbiaaaReApt
namespace Go.Proofs.Ytlkcpplpjjbiaaa.reg
open Go.RowKit Go.ChangeShapes
open Go.Proofs.Ytlkcpplpjjbiaaa.frames (Fr In GoodN FrsPost)
open Go.Proofs.Ytlkcpplpjjbiaaa.ro (De GAt zero)
open Go.Proofs.Ytlkcpplpjjbiaaa.obj
open Go.Proofs.Ytlkcpplpjjbiaaa.reg.fri (FrIn GoodP good_any)
set_option linter.unusedVariables false
set_option linter.unusedSimpArgs false

set_option maxRecDepth 100000 in
set_option maxHeartbeats 16000000 in
theorem apart_walk (A : Option Addr) (c : Nat) (l : List Fr) (A' : Option Addr) (c' : Nat) (ops : List De) (A'' : Option Addr) (c'' : Nat) (ops2 : List De) (w : World) (hI : FrIn w A c l) (ho : OpsAt w A' ops) (hl : ops.length ≤ 9223372036854775807) (ho2 : OpsAt w A'' ops2) (hl2 : ops2.length ≤ 9223372036854775807) :
    Calls Try.prog 5 #[.slice A l.length c, .slice A' ops.length c', .slice A'' ops2.length c''] w fun e w' => e = .returned (.bool true) ∧ Below w.heap.size w w' := by
  have HG := Lib.hid (good_any A c l w hI)
  have HL := fun W => Lib.hid (lives_any W)
  have HF := Lib.hid (few_any A' c' ops w ho hl)
  have HF2 := fun W h => Lib.hid (few_any A'' c'' ops2 W (ho2.next h) hl2)
  have HI := Lib.hid hI
  have hcut := fewL_cut ops
  have hfl := fewL_length ops
  have hcut2 := fewL_cut ops2
  have hfl2 := fewL_length ops2
  unfold FewP at HF HF2
  generalize fewL ops = fl at *
  generalize fewL ops2 = fk at *
  have HCut := Lib.hid hcut
  have HFl := Lib.hid hfl
  have HCut2 := Lib.hid hcut2
  have HFl2 := Lib.hid hfl2
  clear hI ho hl hcut hfl ho2 hl2 hcut2 hfl2
  go_enter Try.func5, Try.ntmps5
  go_wp2_with fail
  refine HG.out.mono ?_
  rintro _ _ ⟨r, rfl, hr, rfl⟩
  cases r with
  | false =>
    have D := HL w
    clear HL hr HF HF2 HG HI HCut HFl HCut2 HFl2
    go_wp2_with (refine D.out.mono ?_; rintro _ w1 ⟨rfl, hb1⟩; have H1 := Lib.hid hb1; clear hb1)
    go_ret
    exact ⟨rfl, H1.out⟩
  | true =>
    have HGo := Lib.hid (hr rfl)
    clear hr HG
    go_wp2_with fail
    refine HF.out.mono ?_
    rintro _ w00 ⟨A1, c1, rfl, hg1, hb1⟩
    have HO0 := Lib.hid hg1
    have HB0 := Lib.hid hb1
    have D := HF2 w00 HB0.out
    clear hg1 hb1 HF HF2
    go_wp2_with fail
    refine D.out.mono ?_
    rintro _ w1 ⟨A12, c12, rfl, hg1, hb1⟩
    have HO := Lib.hid (HO0.out.next hb1)
    have HO2 := Lib.hid hg1
    have HB1 := Lib.hid (HB0.out.trans (hb1.mono HB0.out.size))
    clear hg1 hb1 D HO0 HB0
    have HE : Hid (frames.Own (w1.alloc (.cells #[] 56)) w1.heap.size (.slice (some ⟨w1.heap.size, 0, none⟩) 0 0) [] ∧ Below w1.heap.size w1 (w1.alloc (.cells #[] 56))) := Lib.hid ⟨frames.Own.empty (heap_alloc_new w1 _), (Below.refl _ w1).alloc (Nat.le_refl _) _⟩
    have HS := Lib.hid ((HI.out.next HB1.out).next HE.out.2)
    have HLn : Hid (([] : List Fr).length + l.length ≤ 100000) := Lib.hid (by have := HGo.out.1; simp; omega)
    go_wp2_with (at_builtin; refine frames.wpList_appF (by rfl) (.tmp 21) (.tmp 22) (by rfl) w1.heap.size l.length c (.slice (some ⟨w1.heap.size, 0, none⟩) 0 0) A [] l (by rfl) HE.out.1 (by rfl) rfl HS.out.nil HS.out.at' HLn.out HE.out.2.size ?_)
    intro v2 w2 ho2 hg2
    have HB2 : Hid (Below w1.heap.size w1 w2) := Lib.hid (pol.below_grown HE.out.2 hg2 (fun j e => (HE.out.1.lt e).1) HE.out.2.size)
    obtain ⟨A2, c2, rfl⟩ := ho2.slice
    try rw [List.nil_append] at ho2
    have hI2 : In w2 A2 c2 l := frames.Own.ins ho2 (by have := HGo.out.1; omega) fun f hf => (HGo.out.2 f hf).1
    have HN := Lib.hid (begins HB2.out hI2 HGo.out 9)
    clear ho2 hg2 hI2 HE HS
    try simp only [List.nil_append]
    go_upto_region 5 with (first
      | (go_at_call 9; refine HN.out.mono ?_; rintro _ w3 ⟨g, rfl, H3⟩)
      | (go_at_call 10; refine (refBegin_any A l.length c 9 w3).mono ?_; rintro _ w4 ⟨rfl, hb4⟩; have H4 := Lib.hid (H3.out.next hb4); clear hb4)
      | refine wrg_alloc rfl rfl ?_
      | refine wrg_store rfl _ _ rfl w4.heap.size rgZ ⟨A, l.length, c, 9, 0, none, 0, 0, none, 0, 0⟩ rfl rfl (heap_alloc_new w4 _) ?_)
    try simp only [Act.put, List.setIfInBounds_toArray, List.set_cons_zero, List.set_cons_succ]
    have H5 : Hid (Bz w1 w4.heap.size g ⟨l, 9, 0, [], []⟩ A l.length c ⟨A, l.length, c, 9, 0, none, 0, 0, none, 0, 0⟩ ⟨9, 0, [], []⟩ ⟨A, l.length, c, 9, 0, none, 0, 0, none, 0, 0⟩ ((w4.alloc (rgO rgZ)).setRow w4.heap.size (rgC ⟨A, l.length, c, 9, 0, none, 0, 0, none, 0, 0⟩).toArray)) := Lib.hid (Bz.store (mx := rgZ) ⟨⟨H4.out.next ((Below.refl _ w4).alloc (Nat.le_refl _) _), rg_at _ _ _ _ _⟩, heap_alloc_new w4 _, H4.out.below.size⟩)
    have HV : Hid (Inv2 0 l ⟨l, 9, 0, [], []⟩ ⟨9, 0, [], []⟩) := Lib.hid (inv2_new l 9)
    generalize (w4.alloc (rgO rgZ)).setRow w4.heap.size (rgC ⟨A, l.length, c, 9, 0, none, 0, 0, none, 0, 0⟩).toArray = W5 at *
    generalize w4.heap.size = gx at *
    generalize (⟨A, l.length, c, 9, 0, none, 0, 0, none, 0, 0⟩ : Rg) = m0 at *
    generalize (⟨l, 9, 0, [], []⟩ : St) = s0 at *
    generalize (⟨9, 0, [], []⟩ : Ds) = d0 at *
    have HIn : Hid (In w1 A c l) := Lib.hid ((HI.out.ins HGo.out.1).next HB1.out)
    have H6 := Lib.hid (And.intro HV.out H5.out)
    clear HN H3 H4 HB2 HI HGo H5 HV
    go_wp2_with fail
    go_loopw [7, 9] (fun s7 s9 wr => ∃ (j g : Nat) (s : St) (m : Rg) (d : Ds), s7 = .pointer (some ⟨g, 0, none⟩) ∧ s9 = .int .i64 (j : Int) ∧ j ≤ fl.length ∧ Hid (Inv2 j l s d ∧ Bz w1 gx g s A l.length c m d m wr)) (fun _ s9 _ => fl.length - (intOf s9).toNat)
    case atStart => exact ⟨0, g, s0, m0, d0, rfl, rfl, Nat.zero_le _, H6⟩
    case round =>
      obtain ⟨j, g, s, m, d, rfl, rfl, hj, HW⟩ := hrel
      clear H6
      by_cases hlt : j < fl.length
      · have hbw := HW.out.2.two.ls.below
        obtain ⟨b, off, rfl, hb, _, _, _⟩ := HO.out j hlt
        have HCe : Hid (∀ W, Below w1.heap.size w1 W → W.cell? ⟨b, off + j * 3, none⟩ = some (.int .i64 (fl.getD j zero).1) ∧ W.cell? ⟨b, off + j * 3 + 1, none⟩ = some (.int .i64 (fl.getD j zero).2.1) ∧ W.cell? ⟨b, off + j * 3 + 2, none⟩ = some (.int .i64 (fl.getD j zero).2.2)) := Lib.hid fun W h => by
          obtain ⟨b', off', e, hb', x0, x1, x2⟩ := (HO.out.next h) j hlt
          injection e with e
          injection e with e1 e2
          subst e1 e2
          exact ⟨x0, x1, x2⟩
        have hn := HCut.out (fl.getD j zero) (by rw [List.getD_eq_getElem?_getD, List.getElem?_eq_getElem hlt]; exact List.getElem_mem hlt)
        have hj5 : j ≤ 50 := Nat.le_trans hj HFl.out
        generalize fl.getD j zero = op at *
        obtain ⟨k, o, n⟩ := op
        dsimp only at HCe hn
        have HD : Hid (∀ W, Bz w1 gx g s A l.length c m d m W → Calls Try.prog 12 #[.pointer (some ⟨g, 0, none⟩), .agg #[.int .i64 k, .int .i64 o, .int .i64 n]] W fun e w' => ∃ g2, e = .returned (.pointer (some ⟨g2, 0, none⟩)) ∧ Hid (Bz w1 gx g2 (s.op k o n) A l.length c m d m w')) := Lib.hid fun W h =>
          (h.c_do HW.out.1 (by omega) k o n hn).mono fun e w' hh => by
            obtain ⟨g2, h1, h2⟩ := hh
            exact ⟨g2, h1, Lib.hid h2⟩
        have HR : Hid (∀ W g2, Bz w1 gx g2 (s.op k o n) A l.length c m d m W → Calls Try.prog 13 #[rgV m, .agg #[.int .i64 k, .int .i64 o, .int .i64 n]] W fun e w' => ∃ m2, e = .returned (rgV m2) ∧ Hid (Bz w1 gx g2 (s.op k o n) A l.length c m2 (d.op k o n) m w')) := Lib.hid fun W g2 h =>
          (h.c_rdo (HW.out.1.fits (by omega)) k o n hn).mono fun e w' hh => by
            obtain ⟨m2, h1, h2⟩ := hh
            exact ⟨m2, h1, Lib.hid h2⟩
        have HV2 := Lib.hid (HW.out.1.op k o n hn)
        have HM := Lib.hid (HW.out.2.next (Below.refl _ _).drew)
        have n0 : (0 : Int) ≤ (j : Int) := by omega
        have n1 : (j : Int) < (fl.length : Int) := by omega
        have HJ : Hid (j + 1 ≤ fl.length ∧ j + 1 ≤ 51) := Lib.hid ⟨hlt, by omega⟩
        clear hb hn hj hj5 hlt HW hbw
        go_upto_region 8 with fail
        try simp only [Act.put, List.setIfInBounds_toArray, List.set_cons_zero, List.set_cons_succ]
        have hw1 : wrap64 ((j : Int) + 1) = (j : Int) + 1 := IntWalk.wrap64_in _ (by have := HJ.out.2; omega)
        have hw2 : IntKind.i64.wrap ((j : Int) + 1) = (j : Int) + 1 := by rw [IntWalk.i64_left, hw1]
        refine Go.Proofs.Ytlkcpplpjjbiaaa.frames.wp_hold_act (fun a0 HA0 => ?_)
        have z0 : a0.tmps.size = 111 := by rw [HA0.out]; rfl
        have dd0 : a0.defers = [] := by rw [HA0.out]
        have f0_7 : a0.eval (.tmp 7) = .pointer (some ⟨g, 0, none⟩) := by rw [HA0.out]; rfl
        have f0_1 : a0.eval (.tmp 1) = .slice (some ⟨b, off, none⟩) fl.length c1 := by rw [HA0.out]; rfl
        have f0_9 : a0.eval (.tmp 9) = .int .i64 (j : Int) := by rw [HA0.out]; rfl
        have f0_8 : a0.eval (.tmp 8) = .pointer (some ⟨gx, 0, none⟩) := by rw [HA0.out]; rfl
        refine wp_region_held_drew (S := fun w' => Below w1.heap.size w1 w') (by kernel_rfl) (HM.out.two.ls.below) (fun hS => ?_)
        refine wpAnyH_take (i := 0) (v := .pointer (some ⟨g, 0, none⟩)) rfl (by kernel_rfl) (by kernel_rfl) (by kernel_rfl) (fun _ _ _ h => h) (Go.Proofs.Ytlkcpplpjjbiaaa.frames.yields_move rfl (.tmp 7) rfl f0_7) hS ?_
        obtain ⟨a1, hA1⟩ : ∃ a', a' = a0.put (some 33) (.pointer (some ⟨g, 0, none⟩)) := ⟨_, rfl⟩
        change wpAnyH _ _ _ _ _ _ _ (a0.put (some 33) (.pointer (some ⟨g, 0, none⟩))) _
        rw [← hA1]
        have f1_33 : a1.eval (.tmp 33) = .pointer (some ⟨g, 0, none⟩) := by rw [hA1]; exact Act.eval_put_same _ _ _ (by omega)
        have f1_1 : a1.eval (.tmp 1) = .slice (some ⟨b, off, none⟩) fl.length c1 := by rw [hA1]; exact (Act.eval_put_ne _ _ _ _ (by decide)).trans f0_1
        have f1_9 : a1.eval (.tmp 9) = .int .i64 (j : Int) := by rw [hA1]; exact (Act.eval_put_ne _ _ _ _ (by decide)).trans f0_9
        have f1_8 : a1.eval (.tmp 8) = .pointer (some ⟨gx, 0, none⟩) := by rw [hA1]; exact (Act.eval_put_ne _ _ _ _ (by decide)).trans f0_8
        have z1 : a1.tmps.size = 111 := by rw [hA1, Act.size_put]; exact z0
        have dd1 : a1.defers = [] := by rw [hA1, Act.defers_put']; exact dd0
        have HA1 := Lib.hid hA1
        clear hA1 z0 dd0 f0_7 f0_1 f0_9 f0_8
        refine wpAnyH_take (i := 1) (v := .slice (some ⟨b, off, none⟩) fl.length c1) rfl (by kernel_rfl) (by kernel_rfl) (by kernel_rfl) (fun _ _ _ h => h) (Go.Proofs.Ytlkcpplpjjbiaaa.frames.yields_move rfl (.tmp 1) rfl f1_1) hS ?_
        obtain ⟨a2, hA2⟩ : ∃ a', a' = a1.put (some 34) (.slice (some ⟨b, off, none⟩) fl.length c1) := ⟨_, rfl⟩
        change wpAnyH _ _ _ _ _ _ _ (a1.put (some 34) (.slice (some ⟨b, off, none⟩) fl.length c1)) _
        rw [← hA2]
        have f2_34 : a2.eval (.tmp 34) = .slice (some ⟨b, off, none⟩) fl.length c1 := by rw [hA2]; exact Act.eval_put_same _ _ _ (by omega)
        have f2_33 : a2.eval (.tmp 33) = .pointer (some ⟨g, 0, none⟩) := by rw [hA2]; exact (Act.eval_put_ne _ _ _ _ (by decide)).trans f1_33
        have f2_1 : a2.eval (.tmp 1) = .slice (some ⟨b, off, none⟩) fl.length c1 := by rw [hA2]; exact (Act.eval_put_ne _ _ _ _ (by decide)).trans f1_1
        have f2_9 : a2.eval (.tmp 9) = .int .i64 (j : Int) := by rw [hA2]; exact (Act.eval_put_ne _ _ _ _ (by decide)).trans f1_9
        have f2_8 : a2.eval (.tmp 8) = .pointer (some ⟨gx, 0, none⟩) := by rw [hA2]; exact (Act.eval_put_ne _ _ _ _ (by decide)).trans f1_8
        have z2 : a2.tmps.size = 111 := by rw [hA2, Act.size_put]; exact z1
        have dd2 : a2.defers = [] := by rw [hA2, Act.defers_put']; exact dd1
        have HA2 := Lib.hid hA2
        clear hA2 z1 dd1 f1_33 f1_1 f1_9 f1_8
        refine wpAnyH_take (i := 2) (v := .int .i64 (j : Int)) rfl (by kernel_rfl) (by kernel_rfl) (by kernel_rfl) (fun _ _ _ h => h) (Go.Proofs.Ytlkcpplpjjbiaaa.frames.yields_move rfl (.tmp 9) rfl f2_9) hS ?_
        obtain ⟨a3, hA3⟩ : ∃ a', a' = a2.put (some 35) (.int .i64 (j : Int)) := ⟨_, rfl⟩
        change wpAnyH _ _ _ _ _ _ _ (a2.put (some 35) (.int .i64 (j : Int))) _
        rw [← hA3]
        have f3_35 : a3.eval (.tmp 35) = .int .i64 (j : Int) := by rw [hA3]; exact Act.eval_put_same _ _ _ (by omega)
        have f3_34 : a3.eval (.tmp 34) = .slice (some ⟨b, off, none⟩) fl.length c1 := by rw [hA3]; exact (Act.eval_put_ne _ _ _ _ (by decide)).trans f2_34
        have f3_33 : a3.eval (.tmp 33) = .pointer (some ⟨g, 0, none⟩) := by rw [hA3]; exact (Act.eval_put_ne _ _ _ _ (by decide)).trans f2_33
        have f3_1 : a3.eval (.tmp 1) = .slice (some ⟨b, off, none⟩) fl.length c1 := by rw [hA3]; exact (Act.eval_put_ne _ _ _ _ (by decide)).trans f2_1
        have f3_9 : a3.eval (.tmp 9) = .int .i64 (j : Int) := by rw [hA3]; exact (Act.eval_put_ne _ _ _ _ (by decide)).trans f2_9
        have f3_8 : a3.eval (.tmp 8) = .pointer (some ⟨gx, 0, none⟩) := by rw [hA3]; exact (Act.eval_put_ne _ _ _ _ (by decide)).trans f2_8
        have z3 : a3.tmps.size = 111 := by rw [hA3, Act.size_put]; exact z2
        have dd3 : a3.defers = [] := by rw [hA3, Act.defers_put']; exact dd2
        have HA3 := Lib.hid hA3
        clear hA3 z2 dd2 f2_34 f2_33 f2_1 f2_9 f2_8
        refine wpAnyH_take (i := 3) (v := .pointer (some ⟨b, off + j * 3, none⟩)) rfl (by kernel_rfl) (by kernel_rfl) (by kernel_rfl) (fun _ _ _ h => h) (yields_idx rfl (.tmp 34) (.tmp 35) rfl _ _ _ _ j f3_34 f3_35 n0 n1) hS ?_
        obtain ⟨a4, hA4⟩ : ∃ a', a' = a3.put (some 36) (.pointer (some ⟨b, off + j * 3, none⟩)) := ⟨_, rfl⟩
        change wpAnyH _ _ _ _ _ _ _ (a3.put (some 36) (.pointer (some ⟨b, off + j * 3, none⟩))) _
        rw [← hA4]
        have f4_36 : a4.eval (.tmp 36) = .pointer (some ⟨b, off + j * 3, none⟩) := by rw [hA4]; exact Act.eval_put_same _ _ _ (by omega)
        have f4_33 : a4.eval (.tmp 33) = .pointer (some ⟨g, 0, none⟩) := by rw [hA4]; exact (Act.eval_put_ne _ _ _ _ (by decide)).trans f3_33
        have f4_1 : a4.eval (.tmp 1) = .slice (some ⟨b, off, none⟩) fl.length c1 := by rw [hA4]; exact (Act.eval_put_ne _ _ _ _ (by decide)).trans f3_1
        have f4_9 : a4.eval (.tmp 9) = .int .i64 (j : Int) := by rw [hA4]; exact (Act.eval_put_ne _ _ _ _ (by decide)).trans f3_9
        have f4_8 : a4.eval (.tmp 8) = .pointer (some ⟨gx, 0, none⟩) := by rw [hA4]; exact (Act.eval_put_ne _ _ _ _ (by decide)).trans f3_8
        have z4 : a4.tmps.size = 111 := by rw [hA4, Act.size_put]; exact z3
        have dd4 : a4.defers = [] := by rw [hA4, Act.defers_put']; exact dd3
        have HA4 := Lib.hid hA4
        clear hA4 z3 dd3 f3_35 f3_34 f3_33 f3_1 f3_9 f3_8
        refine wpAnyH_take (i := 4) (v := .agg #[.int .i64 k, .int .i64 o, .int .i64 n]) rfl (by kernel_rfl) (by kernel_rfl) (by kernel_rfl) (fun _ _ _ h => h) (yields_op rfl (.tmp 36) rfl _ _ f4_36 k o n (fun _ h => HCe.out _ h)) hS ?_
        obtain ⟨a5, hA5⟩ : ∃ a', a' = a4.put (some 37) (.agg #[.int .i64 k, .int .i64 o, .int .i64 n]) := ⟨_, rfl⟩
        change wpAnyH _ _ _ _ _ _ _ (a4.put (some 37) (.agg #[.int .i64 k, .int .i64 o, .int .i64 n])) _
        rw [← hA5]
        have f5_37 : a5.eval (.tmp 37) = .agg #[.int .i64 k, .int .i64 o, .int .i64 n] := by rw [hA5]; exact Act.eval_put_same _ _ _ (by omega)
        have f5_33 : a5.eval (.tmp 33) = .pointer (some ⟨g, 0, none⟩) := by rw [hA5]; exact (Act.eval_put_ne _ _ _ _ (by decide)).trans f4_33
        have f5_1 : a5.eval (.tmp 1) = .slice (some ⟨b, off, none⟩) fl.length c1 := by rw [hA5]; exact (Act.eval_put_ne _ _ _ _ (by decide)).trans f4_1
        have f5_9 : a5.eval (.tmp 9) = .int .i64 (j : Int) := by rw [hA5]; exact (Act.eval_put_ne _ _ _ _ (by decide)).trans f4_9
        have f5_8 : a5.eval (.tmp 8) = .pointer (some ⟨gx, 0, none⟩) := by rw [hA5]; exact (Act.eval_put_ne _ _ _ _ (by decide)).trans f4_8
        have z5 : a5.tmps.size = 111 := by rw [hA5, Act.size_put]; exact z4
        have dd5 : a5.defers = [] := by rw [hA5, Act.defers_put']; exact dd4
        have HA5 := Lib.hid hA5
        clear hA5 z4 dd4 f4_36 f4_33 f4_1 f4_9 f4_8
        refine wpAnyH_take (i := 7) (v := .slice (some ⟨b, off, none⟩) fl.length c1) rfl (by kernel_rfl) (by kernel_rfl) (by kernel_rfl) (fun _ _ _ h => h) (Go.Proofs.Ytlkcpplpjjbiaaa.frames.yields_move rfl (.tmp 1) rfl f5_1) hS ?_
        obtain ⟨a6, hA6⟩ : ∃ a', a' = a5.put (some 40) (.slice (some ⟨b, off, none⟩) fl.length c1) := ⟨_, rfl⟩
        change wpAnyH _ _ _ _ _ _ _ (a5.put (some 40) (.slice (some ⟨b, off, none⟩) fl.length c1)) _
        rw [← hA6]
        have f6_40 : a6.eval (.tmp 40) = .slice (some ⟨b, off, none⟩) fl.length c1 := by rw [hA6]; exact Act.eval_put_same _ _ _ (by omega)
        have f6_37 : a6.eval (.tmp 37) = .agg #[.int .i64 k, .int .i64 o, .int .i64 n] := by rw [hA6]; exact (Act.eval_put_ne _ _ _ _ (by decide)).trans f5_37
        have f6_33 : a6.eval (.tmp 33) = .pointer (some ⟨g, 0, none⟩) := by rw [hA6]; exact (Act.eval_put_ne _ _ _ _ (by decide)).trans f5_33
        have f6_9 : a6.eval (.tmp 9) = .int .i64 (j : Int) := by rw [hA6]; exact (Act.eval_put_ne _ _ _ _ (by decide)).trans f5_9
        have f6_8 : a6.eval (.tmp 8) = .pointer (some ⟨gx, 0, none⟩) := by rw [hA6]; exact (Act.eval_put_ne _ _ _ _ (by decide)).trans f5_8
        have z6 : a6.tmps.size = 111 := by rw [hA6, Act.size_put]; exact z5
        have dd6 : a6.defers = [] := by rw [hA6, Act.defers_put']; exact dd5
        have HA6 := Lib.hid hA6
        clear hA6 z5 dd5 f5_37 f5_33 f5_1 f5_9 f5_8
        refine wpAnyH_take (i := 8) (v := .int .i64 (j : Int)) rfl (by kernel_rfl) (by kernel_rfl) (by kernel_rfl) (fun _ _ _ h => h) (Go.Proofs.Ytlkcpplpjjbiaaa.frames.yields_move rfl (.tmp 9) rfl f6_9) hS ?_
        obtain ⟨a7, hA7⟩ : ∃ a', a' = a6.put (some 41) (.int .i64 (j : Int)) := ⟨_, rfl⟩
        change wpAnyH _ _ _ _ _ _ _ (a6.put (some 41) (.int .i64 (j : Int))) _
        rw [← hA7]
        have f7_41 : a7.eval (.tmp 41) = .int .i64 (j : Int) := by rw [hA7]; exact Act.eval_put_same _ _ _ (by omega)
        have f7_40 : a7.eval (.tmp 40) = .slice (some ⟨b, off, none⟩) fl.length c1 := by rw [hA7]; exact (Act.eval_put_ne _ _ _ _ (by decide)).trans f6_40
        have f7_37 : a7.eval (.tmp 37) = .agg #[.int .i64 k, .int .i64 o, .int .i64 n] := by rw [hA7]; exact (Act.eval_put_ne _ _ _ _ (by decide)).trans f6_37
        have f7_33 : a7.eval (.tmp 33) = .pointer (some ⟨g, 0, none⟩) := by rw [hA7]; exact (Act.eval_put_ne _ _ _ _ (by decide)).trans f6_33
        have f7_8 : a7.eval (.tmp 8) = .pointer (some ⟨gx, 0, none⟩) := by rw [hA7]; exact (Act.eval_put_ne _ _ _ _ (by decide)).trans f6_8
        have z7 : a7.tmps.size = 111 := by rw [hA7, Act.size_put]; exact z6
        have dd7 : a7.defers = [] := by rw [hA7, Act.defers_put']; exact dd6
        have HA7 := Lib.hid hA7
        clear hA7 z6 dd6 f6_40 f6_37 f6_33 f6_9 f6_8
        refine wpAnyH_take (i := 9) (v := .pointer (some ⟨b, off + j * 3, none⟩)) rfl (by kernel_rfl) (by kernel_rfl) (by kernel_rfl) (fun _ _ _ h => h) (yields_idx rfl (.tmp 40) (.tmp 41) rfl _ _ _ _ j f7_40 f7_41 n0 n1) hS ?_
        obtain ⟨a8, hA8⟩ : ∃ a', a' = a7.put (some 42) (.pointer (some ⟨b, off + j * 3, none⟩)) := ⟨_, rfl⟩
        change wpAnyH _ _ _ _ _ _ _ (a7.put (some 42) (.pointer (some ⟨b, off + j * 3, none⟩))) _
        rw [← hA8]
        have f8_42 : a8.eval (.tmp 42) = .pointer (some ⟨b, off + j * 3, none⟩) := by rw [hA8]; exact Act.eval_put_same _ _ _ (by omega)
        have f8_37 : a8.eval (.tmp 37) = .agg #[.int .i64 k, .int .i64 o, .int .i64 n] := by rw [hA8]; exact (Act.eval_put_ne _ _ _ _ (by decide)).trans f7_37
        have f8_33 : a8.eval (.tmp 33) = .pointer (some ⟨g, 0, none⟩) := by rw [hA8]; exact (Act.eval_put_ne _ _ _ _ (by decide)).trans f7_33
        have f8_8 : a8.eval (.tmp 8) = .pointer (some ⟨gx, 0, none⟩) := by rw [hA8]; exact (Act.eval_put_ne _ _ _ _ (by decide)).trans f7_8
        have z8 : a8.tmps.size = 111 := by rw [hA8, Act.size_put]; exact z7
        have dd8 : a8.defers = [] := by rw [hA8, Act.defers_put']; exact dd7
        have HA8 := Lib.hid hA8
        clear hA8 z7 dd7 f7_41 f7_40 f7_37 f7_33 f7_8
        refine wpAnyH_take (i := 10) (v := .agg #[.int .i64 k, .int .i64 o, .int .i64 n]) rfl (by kernel_rfl) (by kernel_rfl) (by kernel_rfl) (fun _ _ _ h => h) (yields_op rfl (.tmp 42) rfl _ _ f8_42 k o n (fun _ h => HCe.out _ h)) hS ?_
        obtain ⟨a9, hA9⟩ : ∃ a', a' = a8.put (some 43) (.agg #[.int .i64 k, .int .i64 o, .int .i64 n]) := ⟨_, rfl⟩
        change wpAnyH _ _ _ _ _ _ _ (a8.put (some 43) (.agg #[.int .i64 k, .int .i64 o, .int .i64 n])) _
        rw [← hA9]
        have f9_43 : a9.eval (.tmp 43) = .agg #[.int .i64 k, .int .i64 o, .int .i64 n] := by rw [hA9]; exact Act.eval_put_same _ _ _ (by omega)
        have f9_37 : a9.eval (.tmp 37) = .agg #[.int .i64 k, .int .i64 o, .int .i64 n] := by rw [hA9]; exact (Act.eval_put_ne _ _ _ _ (by decide)).trans f8_37
        have f9_33 : a9.eval (.tmp 33) = .pointer (some ⟨g, 0, none⟩) := by rw [hA9]; exact (Act.eval_put_ne _ _ _ _ (by decide)).trans f8_33
        have f9_8 : a9.eval (.tmp 8) = .pointer (some ⟨gx, 0, none⟩) := by rw [hA9]; exact (Act.eval_put_ne _ _ _ _ (by decide)).trans f8_8
        have z9 : a9.tmps.size = 111 := by rw [hA9, Act.size_put]; exact z8
        have dd9 : a9.defers = [] := by rw [hA9, Act.defers_put']; exact dd8
        have HA9 := Lib.hid hA9
        clear hA9 z8 dd8 f8_42 f8_37 f8_33 f8_8
        refine wpAnyH_ready (rs := [5, 6]) (by kernel_rfl) (by simp) (AllReadyH.cons (by simp only [List.getElem?_toArray, List.getElem?_cons_succ, List.getElem?_cons_zero]; rfl) (fun K hK => ?_) (AllReadyH.cons (by simp only [List.getElem?_toArray, List.getElem?_cons_succ, List.getElem?_cons_zero]; rfl) (fun K hK => ?_) AllReadyH.nil))
        · skip
          refine step_call (by rfl) 12 #[.tmp 33, .tmp 37] #[27, 36] (by rfl) #[.pointer (some ⟨g, 0, none⟩), .agg #[.int .i64 k, .int .i64 o, .int .i64 n]] (by simp only [List.map_toArray, List.map_cons, List.map_nil, f9_33, f9_37]) Try.func12 (by kernel_rfl) rfl (HD.out wr.drew HM.out) (fun e' W2 hR => ?_)
          obtain ⟨g2, rfl, HM2⟩ := hR
          refine ⟨_, rfl, hK.out _ _ HM2.out.two.ls.below (fun hS => ?_)⟩
          obtain ⟨a10, hA10⟩ : ∃ a', a' = a9.put (some 38) (.pointer (some ⟨g2, 0, none⟩)) := ⟨_, rfl⟩
          change wpAnyH _ _ _ _ _ _ _ (a9.put (some 38) (.pointer (some ⟨g2, 0, none⟩))) _
          rw [← hA10]
          have f10_38 : a10.eval (.tmp 38) = .pointer (some ⟨g2, 0, none⟩) := by rw [hA10]; exact Act.eval_put_same _ _ _ (by omega)
          have f10_43 : a10.eval (.tmp 43) = .agg #[.int .i64 k, .int .i64 o, .int .i64 n] := by rw [hA10]; exact (Act.eval_put_ne _ _ _ _ (by decide)).trans f9_43
          have f10_8 : a10.eval (.tmp 8) = .pointer (some ⟨gx, 0, none⟩) := by rw [hA10]; exact (Act.eval_put_ne _ _ _ _ (by decide)).trans f9_8
          have z10 : a10.tmps.size = 111 := by rw [hA10, Act.size_put]; exact z9
          have dd10 : a10.defers = [] := by rw [hA10, Act.defers_put']; exact dd9
          have HA10 := Lib.hid hA10
          clear hA10 z9 dd9 f9_43 f9_37 f9_33 f9_8
          refine wpAnyH_ready (rs := [6]) (by kernel_rfl) (by simp) (AllReadyH.cons (by simp only [List.getElem?_toArray, List.getElem?_cons_succ, List.getElem?_cons_zero]; rfl) (fun K hK => ?_) AllReadyH.nil)
          refine srg_load (by rfl) (.tmp 8) (by rfl) gx f10_8 m HM2.out.box ?_
          refine hK.out _ _ hS (fun hS => ?_)
          obtain ⟨a11, hA11⟩ : ∃ a', a' = a10.put (some 39) (rgV m) := ⟨_, rfl⟩
          change wpAnyH _ _ _ _ _ _ _ (a10.put (some 39) (rgV m)) _
          rw [← hA11]
          have f11_39 : a11.eval (.tmp 39) = rgV m := by rw [hA11]; exact Act.eval_put_same _ _ _ (by omega)
          have f11_38 : a11.eval (.tmp 38) = .pointer (some ⟨g2, 0, none⟩) := by rw [hA11]; exact (Act.eval_put_ne _ _ _ _ (by decide)).trans f10_38
          have f11_43 : a11.eval (.tmp 43) = .agg #[.int .i64 k, .int .i64 o, .int .i64 n] := by rw [hA11]; exact (Act.eval_put_ne _ _ _ _ (by decide)).trans f10_43
          have f11_8 : a11.eval (.tmp 8) = .pointer (some ⟨gx, 0, none⟩) := by rw [hA11]; exact (Act.eval_put_ne _ _ _ _ (by decide)).trans f10_8
          have z11 : a11.tmps.size = 111 := by rw [hA11, Act.size_put]; exact z10
          have dd11 : a11.defers = [] := by rw [hA11, Act.defers_put']; exact dd10
          have HA11 := Lib.hid hA11
          clear hA11 z10 dd10 f10_38 f10_43 f10_8
          refine wpAnyH_ready (rs := [11]) (by kernel_rfl) (by simp) (AllReadyH.cons (by simp only [List.getElem?_toArray, List.getElem?_cons_succ, List.getElem?_cons_zero]; rfl) (fun K hK => ?_) AllReadyH.nil)
          refine step_call (by rfl) 13 #[.tmp 39, .tmp 43] #[31, 36] (by rfl) #[rgV m, .agg #[.int .i64 k, .int .i64 o, .int .i64 n]] (by simp only [List.map_toArray, List.map_cons, List.map_nil, f11_39, f11_43]) Try.func13 (by kernel_rfl) rfl (HR.out W2 g2 HM2.out) (fun e' W3 hR => ?_)
          obtain ⟨m2, rfl, HM3⟩ := hR
          refine ⟨_, rfl, hK.out _ _ HM3.out.two.ls.below (fun hS => ?_)⟩
          obtain ⟨a12, hA12⟩ : ∃ a', a' = a11.put (some 44) (rgV m2) := ⟨_, rfl⟩
          change wpAnyH _ _ _ _ _ _ _ (a11.put (some 44) (rgV m2)) _
          rw [← hA12]
          have f12_44 : a12.eval (.tmp 44) = rgV m2 := by rw [hA12]; exact Act.eval_put_same _ _ _ (by omega)
          have f12_38 : a12.eval (.tmp 38) = .pointer (some ⟨g2, 0, none⟩) := by rw [hA12]; exact (Act.eval_put_ne _ _ _ _ (by decide)).trans f11_38
          have f12_8 : a12.eval (.tmp 8) = .pointer (some ⟨gx, 0, none⟩) := by rw [hA12]; exact (Act.eval_put_ne _ _ _ _ (by decide)).trans f11_8
          have z12 : a12.tmps.size = 111 := by rw [hA12, Act.size_put]; exact z11
          have dd12 : a12.defers = [] := by rw [hA12, Act.defers_put']; exact dd11
          have HA12 := Lib.hid hA12
          clear hA12 z11 dd11 f11_39 f11_38 f11_43 f11_8
          refine wpAnyH_take (i := 12) (v := .pointer (some ⟨g2, 0, none⟩)) rfl (by kernel_rfl) (by kernel_rfl) (by kernel_rfl) (fun _ _ _ h => h) (yields_assign rfl (.tmp 38) rfl f12_38) hS ?_
          obtain ⟨a13, hA13⟩ : ∃ a', a' = a12.put (some 7) (.pointer (some ⟨g2, 0, none⟩)) := ⟨_, rfl⟩
          change wpAnyH _ _ _ _ _ _ _ (a12.put (some 7) (.pointer (some ⟨g2, 0, none⟩))) _
          rw [← hA13]
          have f13_7 : a13.eval (.tmp 7) = .pointer (some ⟨g2, 0, none⟩) := by rw [hA13]; exact Act.eval_put_same _ _ _ (by omega)
          have f13_44 : a13.eval (.tmp 44) = rgV m2 := by rw [hA13]; exact (Act.eval_put_ne _ _ _ _ (by decide)).trans f12_44
          have f13_8 : a13.eval (.tmp 8) = .pointer (some ⟨gx, 0, none⟩) := by rw [hA13]; exact (Act.eval_put_ne _ _ _ _ (by decide)).trans f12_8
          have z13 : a13.tmps.size = 111 := by rw [hA13, Act.size_put]; exact z12
          have dd13 : a13.defers = [] := by rw [hA13, Act.defers_put']; exact dd12
          have HA13 := Lib.hid hA13
          clear hA13 z12 dd12 f12_44 f12_38 f12_8
          refine wpAnyH_ready (rs := [13]) (by kernel_rfl) (by simp) (AllReadyH.cons (by simp only [List.getElem?_toArray, List.getElem?_cons_succ, List.getElem?_cons_zero]; rfl) (fun K hK => ?_) AllReadyH.nil)
          refine srg_store (by rfl) (.tmp 8) (.tmp 44) (by rfl) gx m m2 f13_8 f13_44 HM3.out.box ?_
          have HE := Lib.hid HM3.out.store
          refine hK.out _ _ HE.out.two.ls.below (fun hS => ?_)
          change wpAnyH _ _ _ _ _ _ _ a13 _
          refine wpAnyH_done (by kernel_rfl) ?_ _
          clear hS hK HM2 HM3
          rw [HA13.out]
          rw [HA12.out]
          rw [HA11.out]
          rw [HA10.out]
          rw [HA9.out]
          rw [HA8.out]
          rw [HA7.out]
          rw [HA6.out]
          rw [HA5.out]
          rw [HA4.out]
          rw [HA3.out]
          rw [HA2.out]
          rw [HA1.out]
          rw [HA0.out]
          simp only [Act.put, List.setIfInBounds_toArray, List.set_cons_zero, List.set_cons_succ]
          have H6 := Lib.hid (And.intro HV2.out HE.out)
          clear HE HM HD HR HCe HV2
          go_wp2_with fail
          go_roundw
          case rel => exact ⟨j + 1, g2, _, m2, _, rfl, by go_num, HJ.out.1, H6⟩
          case measure => have := HJ.out.1; simp [intOf, hw1]; omega
        · skip
          refine srg_load (by rfl) (.tmp 8) (by rfl) gx f9_8 m HM.out.box ?_
          refine hK.out _ _ hS (fun hS => ?_)
          obtain ⟨a10, hA10⟩ : ∃ a', a' = a9.put (some 39) (rgV m) := ⟨_, rfl⟩
          change wpAnyH _ _ _ _ _ _ _ (a9.put (some 39) (rgV m)) _
          rw [← hA10]
          have f10_39 : a10.eval (.tmp 39) = rgV m := by rw [hA10]; exact Act.eval_put_same _ _ _ (by omega)
          have f10_43 : a10.eval (.tmp 43) = .agg #[.int .i64 k, .int .i64 o, .int .i64 n] := by rw [hA10]; exact (Act.eval_put_ne _ _ _ _ (by decide)).trans f9_43
          have f10_37 : a10.eval (.tmp 37) = .agg #[.int .i64 k, .int .i64 o, .int .i64 n] := by rw [hA10]; exact (Act.eval_put_ne _ _ _ _ (by decide)).trans f9_37
          have f10_33 : a10.eval (.tmp 33) = .pointer (some ⟨g, 0, none⟩) := by rw [hA10]; exact (Act.eval_put_ne _ _ _ _ (by decide)).trans f9_33
          have f10_8 : a10.eval (.tmp 8) = .pointer (some ⟨gx, 0, none⟩) := by rw [hA10]; exact (Act.eval_put_ne _ _ _ _ (by decide)).trans f9_8
          have z10 : a10.tmps.size = 111 := by rw [hA10, Act.size_put]; exact z9
          have dd10 : a10.defers = [] := by rw [hA10, Act.defers_put']; exact dd9
          have HA10 := Lib.hid hA10
          clear hA10 z9 dd9 f9_43 f9_37 f9_33 f9_8
          refine wpAnyH_ready (rs := [5]) (by kernel_rfl) (by simp) (AllReadyH.cons (by simp only [List.getElem?_toArray, List.getElem?_cons_succ, List.getElem?_cons_zero]; rfl) (fun K hK => ?_) AllReadyH.nil)
          refine step_call (by rfl) 12 #[.tmp 33, .tmp 37] #[27, 36] (by rfl) #[.pointer (some ⟨g, 0, none⟩), .agg #[.int .i64 k, .int .i64 o, .int .i64 n]] (by simp only [List.map_toArray, List.map_cons, List.map_nil, f10_33, f10_37]) Try.func12 (by kernel_rfl) rfl (HD.out wr.drew HM.out) (fun e' W2 hR => ?_)
          obtain ⟨g2, rfl, HM2⟩ := hR
          refine ⟨_, rfl, hK.out _ _ HM2.out.two.ls.below (fun hS => ?_)⟩
          obtain ⟨a11, hA11⟩ : ∃ a', a' = a10.put (some 38) (.pointer (some ⟨g2, 0, none⟩)) := ⟨_, rfl⟩
          change wpAnyH _ _ _ _ _ _ _ (a10.put (some 38) (.pointer (some ⟨g2, 0, none⟩))) _
          rw [← hA11]
          have f11_38 : a11.eval (.tmp 38) = .pointer (some ⟨g2, 0, none⟩) := by rw [hA11]; exact Act.eval_put_same _ _ _ (by omega)
          have f11_39 : a11.eval (.tmp 39) = rgV m := by rw [hA11]; exact (Act.eval_put_ne _ _ _ _ (by decide)).trans f10_39
          have f11_43 : a11.eval (.tmp 43) = .agg #[.int .i64 k, .int .i64 o, .int .i64 n] := by rw [hA11]; exact (Act.eval_put_ne _ _ _ _ (by decide)).trans f10_43
          have f11_8 : a11.eval (.tmp 8) = .pointer (some ⟨gx, 0, none⟩) := by rw [hA11]; exact (Act.eval_put_ne _ _ _ _ (by decide)).trans f10_8
          have z11 : a11.tmps.size = 111 := by rw [hA11, Act.size_put]; exact z10
          have dd11 : a11.defers = [] := by rw [hA11, Act.defers_put']; exact dd10
          have HA11 := Lib.hid hA11
          clear hA11 z10 dd10 f10_39 f10_43 f10_37 f10_33 f10_8
          refine wpAnyH_ready (rs := [11]) (by kernel_rfl) (by simp) (AllReadyH.cons (by simp only [List.getElem?_toArray, List.getElem?_cons_succ, List.getElem?_cons_zero]; rfl) (fun K hK => ?_) AllReadyH.nil)
          refine step_call (by rfl) 13 #[.tmp 39, .tmp 43] #[31, 36] (by rfl) #[rgV m, .agg #[.int .i64 k, .int .i64 o, .int .i64 n]] (by simp only [List.map_toArray, List.map_cons, List.map_nil, f11_39, f11_43]) Try.func13 (by kernel_rfl) rfl (HR.out W2 g2 HM2.out) (fun e' W3 hR => ?_)
          obtain ⟨m2, rfl, HM3⟩ := hR
          refine ⟨_, rfl, hK.out _ _ HM3.out.two.ls.below (fun hS => ?_)⟩
          obtain ⟨a12, hA12⟩ : ∃ a', a' = a11.put (some 44) (rgV m2) := ⟨_, rfl⟩
          change wpAnyH _ _ _ _ _ _ _ (a11.put (some 44) (rgV m2)) _
          rw [← hA12]
          have f12_44 : a12.eval (.tmp 44) = rgV m2 := by rw [hA12]; exact Act.eval_put_same _ _ _ (by omega)
          have f12_38 : a12.eval (.tmp 38) = .pointer (some ⟨g2, 0, none⟩) := by rw [hA12]; exact (Act.eval_put_ne _ _ _ _ (by decide)).trans f11_38
          have f12_8 : a12.eval (.tmp 8) = .pointer (some ⟨gx, 0, none⟩) := by rw [hA12]; exact (Act.eval_put_ne _ _ _ _ (by decide)).trans f11_8
          have z12 : a12.tmps.size = 111 := by rw [hA12, Act.size_put]; exact z11
          have dd12 : a12.defers = [] := by rw [hA12, Act.defers_put']; exact dd11
          have HA12 := Lib.hid hA12
          clear hA12 z11 dd11 f11_38 f11_39 f11_43 f11_8
          refine wpAnyH_take (i := 12) (v := .pointer (some ⟨g2, 0, none⟩)) rfl (by kernel_rfl) (by kernel_rfl) (by kernel_rfl) (fun _ _ _ h => h) (yields_assign rfl (.tmp 38) rfl f12_38) hS ?_
          obtain ⟨a13, hA13⟩ : ∃ a', a' = a12.put (some 7) (.pointer (some ⟨g2, 0, none⟩)) := ⟨_, rfl⟩
          change wpAnyH _ _ _ _ _ _ _ (a12.put (some 7) (.pointer (some ⟨g2, 0, none⟩))) _
          rw [← hA13]
          have f13_7 : a13.eval (.tmp 7) = .pointer (some ⟨g2, 0, none⟩) := by rw [hA13]; exact Act.eval_put_same _ _ _ (by omega)
          have f13_44 : a13.eval (.tmp 44) = rgV m2 := by rw [hA13]; exact (Act.eval_put_ne _ _ _ _ (by decide)).trans f12_44
          have f13_8 : a13.eval (.tmp 8) = .pointer (some ⟨gx, 0, none⟩) := by rw [hA13]; exact (Act.eval_put_ne _ _ _ _ (by decide)).trans f12_8
          have z13 : a13.tmps.size = 111 := by rw [hA13, Act.size_put]; exact z12
          have dd13 : a13.defers = [] := by rw [hA13, Act.defers_put']; exact dd12
          have HA13 := Lib.hid hA13
          clear hA13 z12 dd12 f12_44 f12_38 f12_8
          refine wpAnyH_ready (rs := [13]) (by kernel_rfl) (by simp) (AllReadyH.cons (by simp only [List.getElem?_toArray, List.getElem?_cons_succ, List.getElem?_cons_zero]; rfl) (fun K hK => ?_) AllReadyH.nil)
          refine srg_store (by rfl) (.tmp 8) (.tmp 44) (by rfl) gx m m2 f13_8 f13_44 HM3.out.box ?_
          have HE := Lib.hid HM3.out.store
          refine hK.out _ _ HE.out.two.ls.below (fun hS => ?_)
          change wpAnyH _ _ _ _ _ _ _ a13 _
          refine wpAnyH_done (by kernel_rfl) ?_ _
          clear hS hK HM2 HM3
          rw [HA13.out]
          rw [HA12.out]
          rw [HA11.out]
          rw [HA10.out]
          rw [HA9.out]
          rw [HA8.out]
          rw [HA7.out]
          rw [HA6.out]
          rw [HA5.out]
          rw [HA4.out]
          rw [HA3.out]
          rw [HA2.out]
          rw [HA1.out]
          rw [HA0.out]
          simp only [Act.put, List.setIfInBounds_toArray, List.set_cons_zero, List.set_cons_succ]
          have H6 := Lib.hid (And.intro HV2.out HE.out)
          clear HE HM HD HR HCe HV2
          go_wp2_with fail
          go_roundw
          case rel => exact ⟨j + 1, g2, _, m2, _, rfl, by go_num, HJ.out.1, H6⟩
          case measure => have := HJ.out.1; simp [intOf, hw1]; omega
      · have hge : decide (j < fl.length) = false := decide_eq_false hlt
        have hj5 : j ≤ 50 := Nat.le_trans hj HFl.out
        have HC := Lib.hid (apx_clone HW.out.2)
        have HV := Lib.hid HW.out.1
        have HJ := Lib.hid hj5
        clear HW hlt hj HO HCut HFl hj5
        go_wp2_with fail
        refine HC.out.mono ?_
        rintro _ w7 ⟨kk, rfl, h7⟩
        have H7 : Hid (∃ d2, Inv2 (j + 0) l s d2 ∧ ApX w1 gx kk s A l.length c m d g s w7) := Lib.hid ⟨d, HV.out, h7⟩
        clear h7 HC
        go_wp2_with fail
        go_loopw [7, 11] (fun s7 s11 wr => ∃ (j2 g2 : Nat) (s2 : St), s7 = .pointer (some ⟨g2, 0, none⟩) ∧ s11 = .int .i64 (j2 : Int) ∧ j2 ≤ fk.length ∧ Hid (∃ d2, Inv2 (j + j2) l s2 d2 ∧ ApX w1 gx kk s A l.length c m d g2 s2 wr)) (fun _ s11 _ => fk.length - (intOf s11).toNat)
        case atStart => exact ⟨0, g, s, rfl, rfl, Nat.zero_le _, H7⟩
        case round =>
          obtain ⟨j2, g2, s2, rfl, rfl, hj2, HW⟩ := hrel
          clear H7
          by_cases hlt : j2 < fk.length
          · obtain ⟨d2, hv2, ha2⟩ := HW.out
            obtain ⟨b, off, rfl, hb, x0, x1, x2⟩ := (HO2.out.next ha2.below) j2 hlt
            have hn := HCut2.out (fk.getD j2 zero) (by rw [List.getD_eq_getElem?_getD, List.getElem?_eq_getElem hlt]; exact List.getElem_mem hlt)
            have hj5 : j2 ≤ 50 := Nat.le_trans hj2 HFl2.out
            generalize fk.getD j2 zero = op at *
            obtain ⟨k, o, n⟩ := op
            dsimp only at x0 x1 x2 hn
            have HD := Lib.hid (ha2.c_do hv2 (by have := HJ.out; omega) k o n hn)
            have HV2 : Hid (Inv2 (j + (j2 + 1)) l (s2.op k o n) (d2.op k o n)) := Lib.hid (hv2.op k o n hn)
            have n0 : (0 : Int) ≤ (j2 : Int) := by omega
            have n1 : (j2 : Int) < (fk.length : Int) := by omega
            have HJ2 : Hid (j2 + 1 ≤ fk.length ∧ j2 + 1 ≤ 51) := Lib.hid ⟨hlt, by omega⟩
            have hw1 : wrap64 ((j2 : Int) + 1) = (j2 : Int) + 1 := IntWalk.wrap64_in _ (by omega)
            have hw2 : IntKind.i64.wrap ((j2 : Int) + 1) = (j2 : Int) + 1 := by rw [IntWalk.i64_left, hw1]
            clear hb hn hj2 hj5 hlt HW hv2 ha2
            go_wp2_with fail
            refine HD.out.mono ?_
            rintro _ w8 ⟨g3, rfl, h8⟩
            have H8 : Hid (∃ d2, Inv2 (j + (j2 + 1)) l (s2.op k o n) d2 ∧ ApX w1 gx kk s A l.length c m d g3 (s2.op k o n) w8) := Lib.hid ⟨_, HV2.out, h8⟩
            clear h8 HD HV2 x0 x1 x2
            go_wp2_with fail
            go_roundw
            case rel => exact ⟨j2 + 1, g3, _, rfl, by go_num, HJ2.out.1, H8⟩
            case measure => have := HJ2.out.1; simp [intOf, hw1]; omega
          · have hge2 : decide (j2 < fk.length) = false := decide_eq_false hlt
            obtain ⟨d2, hv2, ha2⟩ := HW.out
            have D := Lib.hid (ha2.c_same HV.out (by have := HJ.out; omega) HIn.out rfl)
            obtain ⟨z0, z1, z2, z3, z4⟩ := rg_cells ha2.box
            unfold rgV rgC at D
            clear HW hlt hj2 HO2 HCut2 HFl2 hv2 ha2 HIn HV
            go_wp2_with (first
              | (go_at_call 14; refine (wrote_nil 1 1 _).mono ?_; rintro _ _ ⟨rfl, rfl⟩)
              | (go_at_call 17; refine (got_nil 1 1 _).mono ?_; rintro _ _ ⟨rfl, rfl⟩)
              | (go_at_call 18; refine (lost_nil 1 1 _).mono ?_; rintro _ _ ⟨rfl, rfl⟩)
              | (go_at_call 11; refine D.out.mono ?_; rintro _ w9 ⟨rfl, h9⟩; have H9 := Lib.hid h9; have D9 := HL w9; clear h9)
              | (go_at_call 15; refine (undo_nil _).mono ?_; rintro _ _ ⟨rfl, rfl⟩)
              | (go_at_call 19; refine (held_nil _).mono ?_; rintro _ _ ⟨rfl, rfl⟩)
              | (go_at_call 20; refine (frames_nil _).mono ?_; rintro _ _ ⟨rfl, rfl⟩)
              | (go_at_call 21; refine (number_nil _).mono ?_; rintro _ _ ⟨rfl, rfl⟩)
              | (go_at_call 22; refine (aborts_nil _).mono ?_; rintro _ _ ⟨rfl, rfl⟩)
              | (go_at_call 23; refine (again_nil 1 _).mono ?_; rintro _ _ ⟨rfl, rfl⟩)
              | (go_at_call 16; refine (clone_nil _).mono ?_; rintro _ _ ⟨rfl, rfl⟩)
              | (go_at_call 7; refine D9.out.mono ?_; rintro _ w10 ⟨rfl, h10⟩; have H10 := Lib.hid h10; clear h10))
            go_ret
            exact ⟨by simp, HB1.out.trans ((H9.out.trans (H10.out.mono H9.out.size)).mono HB1.out.size)⟩
end Go.Proofs.Ytlkcpplpjjbiaaa.reg
