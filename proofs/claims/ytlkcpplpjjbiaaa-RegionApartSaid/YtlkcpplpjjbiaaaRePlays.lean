/-
  What was written and got, and from which frames on, behind any calls: the walk of RegionPlays. No condition.
-/
import Derived.Test.YtlkcpplpjjbiaaaReLaw
namespace Go.Proofs.Ytlkcpplpjjbiaaa.reg
open Go.RowKit Go.ChangeShapes
open Go.Proofs.Ytlkcpplpjjbiaaa.frames (Fr In GoodN FrsPost)
open Go.Proofs.Ytlkcpplpjjbiaaa.ro (De GAt zero)
open Go.Proofs.Ytlkcpplpjjbiaaa.obj
open Go.Proofs.Ytlkcpplpjjbiaaa.reg.fri (FrIn GoodP good_any)
set_option linter.unusedVariables false
set_option linter.unusedSimpArgs false

/-- Behind the region's beginning: the program's in new blocks, the document's as a value. -/
theorem begins {w0 W : World} {l : List Fr} {A2 : Option Addr} {c2 : Nat} (hb : Below w0.heap.size w0 W) (hI : In W A2 c2 l) (hg : GoodN l) (num : Int) :
    Calls Try.prog 9 #[.slice A2 l.length c2, .int .i64 num] W fun e w' => ∃ g, e = .returned (.pointer (some ⟨g, 0, none⟩)) ∧ Hid (Lx w0 g ⟨l, num, 0, [], []⟩ w') :=
  (begin_any A2 c2 l num W hI hg).mono fun e w' hh => by
    obtain ⟨g, h1, h2⟩ := lx_made hb hh
    exact ⟨g, h1, Lib.hid h2⟩
theorem rg_at (A : Option Addr) (n c : Nat) (num : Int) (W : World) : RgAt W A n c ⟨A, n, c, num, 0, none, 0, 0, none, 0, 0⟩ ⟨num, 0, [], []⟩ := ⟨rfl, rfl, rfl, rfl, rfl, rfl, rfl, pol.Own.nil _ _, pol.Own.nil _ _⟩
set_option maxRecDepth 100000 in
set_option maxHeartbeats 8000000 in
theorem plays_walk (A : Option Addr) (c : Nat) (l : List Fr) (num : Int) (A' : Option Addr) (c' : Nat) (ops : List De) (w : World) (hI : FrIn w A c l) (ho : OpsAt w A' ops) (hl : ops.length ≤ 9223372036854775807) :
    Calls Try.prog 3 #[.slice A l.length c, .int .i64 num, .slice A' ops.length c'] w fun e w' => e = .returned (.bool true) ∧ Below w.heap.size w w' := by
  have HG := Lib.hid (good_any A c l w hI)
  have HL := fun W => Lib.hid (lives_any W)
  have HF := Lib.hid (few_any A' c' ops w ho hl)
  have HI := Lib.hid hI
  have hcut := fewL_cut ops
  have hfl := fewL_length ops
  unfold FewP at HF
  generalize fewL ops = fl at *
  have HCut := Lib.hid hcut
  have HFl := Lib.hid hfl
  clear hI ho hl hcut hfl
  go_enter Try.func3, Try.ntmps3
  go_wp2_with fail
  refine HG.out.mono ?_
  rintro _ _ ⟨r, rfl, hr, rfl⟩
  cases r with
  | false =>
    have D := HL w
    clear HL hr HF HG HI HCut HFl
    go_wp2_with (refine D.out.mono ?_; rintro _ w1 ⟨rfl, hb1⟩; have H1 := Lib.hid hb1; clear hb1)
    go_ret
    exact ⟨rfl, H1.out⟩
  | true =>
    have HGo := Lib.hid (hr rfl)
    clear hr HG
    go_wp2_with fail
    refine HF.out.mono ?_
    rintro _ w1 ⟨A1, c1, rfl, hg1, hb1⟩
    have HO := Lib.hid hg1
    have HB1 := Lib.hid hb1
    clear hg1 hb1 HF
    -- the copy of the frames
    have HE : Hid (frames.Own (w1.alloc (.cells #[] 56)) w1.heap.size (.slice (some ⟨w1.heap.size, 0, none⟩) 0 0) [] ∧ Below w1.heap.size w1 (w1.alloc (.cells #[] 56))) := Lib.hid ⟨frames.Own.empty (heap_alloc_new w1 _), (Below.refl _ w1).alloc (Nat.le_refl _) _⟩
    have HS := Lib.hid ((HI.out.next HB1.out).next HE.out.2)
    have HLn : Hid (([] : List Fr).length + l.length ≤ 100000) := Lib.hid (by have := HGo.out.1; simp; omega)
    go_wp2_with (at_builtin; refine frames.wpList_appF (by rfl) (.tmp 16) (.tmp 17) (by rfl) w1.heap.size l.length c (.slice (some ⟨w1.heap.size, 0, none⟩) 0 0) A [] l (by rfl) HE.out.1 (by rfl) rfl HS.out.nil HS.out.at' HLn.out HE.out.2.size ?_)
    intro v2 w2 ho2 hg2
    have HB2 : Hid (Below w1.heap.size w1 w2) := Lib.hid (pol.below_grown HE.out.2 hg2 (fun j e => (HE.out.1.lt e).1) HE.out.2.size)
    obtain ⟨A2, c2, rfl⟩ := ho2.slice
    try rw [List.nil_append] at ho2
    have hI2 : In w2 A2 c2 l := frames.Own.ins ho2 (by have := HGo.out.1; omega) fun f hf => (HGo.out.2 f hf).1
    have HN := Lib.hid (begins HB2.out hI2 HGo.out num)
    clear ho2 hg2 hI2 HE HS
    try simp only [List.nil_append]
    go_upto_region 5 with (first
      | (go_at_call 9; refine HN.out.mono ?_; rintro _ w3 ⟨g, rfl, H3⟩)
      | (go_at_call 10; refine (refBegin_any A l.length c num w3).mono ?_; rintro _ w4 ⟨rfl, hb4⟩; have H4 := Lib.hid (H3.out.next hb4); clear hb4)
      | refine wrg_alloc rfl rfl ?_
      | refine wrg_store rfl _ _ rfl w4.heap.size rgZ ⟨A, l.length, c, num, 0, none, 0, 0, none, 0, 0⟩ rfl rfl (heap_alloc_new w4 _) ?_)
    try simp only [Act.put, List.setIfInBounds_toArray, List.set_cons_zero, List.set_cons_succ]
    have H5 : Hid (Bz w1 w4.heap.size g ⟨l, num, 0, [], []⟩ A l.length c ⟨A, l.length, c, num, 0, none, 0, 0, none, 0, 0⟩ ⟨num, 0, [], []⟩ ⟨A, l.length, c, num, 0, none, 0, 0, none, 0, 0⟩ ((w4.alloc (rgO rgZ)).setRow w4.heap.size (rgC ⟨A, l.length, c, num, 0, none, 0, 0, none, 0, 0⟩).toArray)) := Lib.hid (Bz.store (mx := rgZ) ⟨⟨H4.out.next ((Below.refl _ w4).alloc (Nat.le_refl _) _), rg_at _ _ _ _ _⟩, heap_alloc_new w4 _, H4.out.below.size⟩)
    have HV : Hid (Inv2 0 l ⟨l, num, 0, [], []⟩ ⟨num, 0, [], []⟩) := Lib.hid (inv2_new l num)
    generalize (w4.alloc (rgO rgZ)).setRow w4.heap.size (rgC ⟨A, l.length, c, num, 0, none, 0, 0, none, 0, 0⟩).toArray = W5 at *
    generalize w4.heap.size = gx at *
    generalize (⟨A, l.length, c, num, 0, none, 0, 0, none, 0, 0⟩ : Rg) = m0 at *
    generalize (⟨l, num, 0, [], []⟩ : St) = s0 at *
    generalize (⟨num, 0, [], []⟩ : Ds) = d0 at *
    have HIn : Hid (In w1 A c l) := Lib.hid ((HI.out.ins HGo.out.1).next HB1.out)
    have D := Lib.hid (H5.out.c_same HV.out (by omega) HIn.out rfl)
    clear HN H3 H4 HB2 HI HGo
    unfold rgV rgC at D
    obtain ⟨z0, z1, z2, z3, z4⟩ := rg_cells H5.out.box
    go_wp2_with (first
      | (go_at_call 11; refine D.out.mono ?_; rintro _ w6 ⟨rfl, h6⟩; have H6 := Lib.hid (And.intro HV.out h6); clear h6))
    clear D H5 HV z0 z1 z2 z3 z4
    go_loopw [7, 9] (fun s7 s9 wr => ∃ (j g : Nat) (s : St) (m : Rg) (d : Ds), s7 = .pointer (some ⟨g, 0, none⟩) ∧ s9 = .int .i64 (j : Int) ∧ j ≤ fl.length ∧ Hid (Inv2 j l s d ∧ Bz w1 gx g s A l.length c m d m wr)) (fun _ s9 _ => fl.length - (intOf s9).toNat)
    case atStart => exact ⟨0, g, s0, m0, d0, rfl, rfl, Nat.zero_le _, H6⟩
    case round =>
      obtain ⟨j, g, s, m, d, rfl, rfl, hj, HW⟩ := hrel
      clear H6
      by_cases hlt : j < fl.length
      · have hbw := HW.out.2.two.ls.below
        obtain ⟨b, off, rfl, hb, _, _, _⟩ := HO.out j hlt
        have HCe : Hid (∀ W, Below w1.heap.size w1 W → W.cell? ⟨b, off + j * 3, none⟩ = some (.int .i64 (fl.getD j zero).1) ∧ W.cell? ⟨b, off + j * 3 + 1, none⟩ = some (.int .i64 (fl.getD j zero).2.1) ∧ W.cell? ⟨b, off + j * 3 + 2, none⟩ = some (.int .i64 (fl.getD j zero).2.2)) := Lib.hid fun W h => by
          obtain ⟨b', off', e, hb', x0, x1, x2⟩ := (HO.out.next h) j hlt
          injection e with e
          injection e with e1 e2
          subst e1 e2
          exact ⟨x0, x1, x2⟩
        have hn := HCut.out (fl.getD j zero) (by rw [List.getD_eq_getElem?_getD, List.getElem?_eq_getElem hlt]; exact List.getElem_mem hlt)
        have hj5 : j ≤ 50 := Nat.le_trans hj HFl.out
        generalize fl.getD j zero = op at *
        obtain ⟨k, o, n⟩ := op
        dsimp only at HCe hn
        have HD : Hid (∀ W, Bz w1 gx g s A l.length c m d m W → Calls Try.prog 12 #[.pointer (some ⟨g, 0, none⟩), .agg #[.int .i64 k, .int .i64 o, .int .i64 n]] W fun e w' => ∃ g2, e = .returned (.pointer (some ⟨g2, 0, none⟩)) ∧ Hid (Bz w1 gx g2 (s.op k o n) A l.length c m d m w')) := Lib.hid fun W h =>
          (h.c_do HW.out.1 (by omega) k o n hn).mono fun e w' hh => by
            obtain ⟨g2, h1, h2⟩ := hh
            exact ⟨g2, h1, Lib.hid h2⟩
        have HR : Hid (∀ W g2, Bz w1 gx g2 (s.op k o n) A l.length c m d m W → Calls Try.prog 13 #[rgV m, .agg #[.int .i64 k, .int .i64 o, .int .i64 n]] W fun e w' => ∃ m2, e = .returned (rgV m2) ∧ Hid (Bz w1 gx g2 (s.op k o n) A l.length c m2 (d.op k o n) m w')) := Lib.hid fun W g2 h =>
          (h.c_rdo (HW.out.1.fits (by omega)) k o n hn).mono fun e w' hh => by
            obtain ⟨m2, h1, h2⟩ := hh
            exact ⟨m2, h1, Lib.hid h2⟩
        have HV2 := Lib.hid (HW.out.1.op k o n hn)
        have HM := Lib.hid (HW.out.2.next (Below.refl _ _).drew)
        have n0 : (0 : Int) ≤ (j : Int) := by omega
        have n1 : (j : Int) < (fl.length : Int) := by omega
        have HJ : Hid (j + 1 ≤ fl.length ∧ j + 1 ≤ 51) := Lib.hid ⟨hlt, by omega⟩
        clear hb hn hj hj5 hlt HW hbw
        go_upto_region 10 with fail
        try simp only [Act.put, List.setIfInBounds_toArray, List.set_cons_zero, List.set_cons_succ]
        go_cut [7] (fun t wx => ∃ (g2 : Nat) (m2 : Rg), t = .pointer (some ⟨g2, 0, none⟩) ∧ Hid (Bz w1 gx g2 (s.op k o n) A l.length c m2 (d.op k o n) m2 wx))
        case first =>
          refine Go.Proofs.Ytlkcpplpjjbiaaa.frames.wp_hold_act (fun a0 HA0 => ?_)
          have z0 : a0.tmps.size = 59 := by rw [HA0.out]; rfl
          have dd0 : a0.defers = [] := by rw [HA0.out]
          have f0_7 : a0.eval (.tmp 7) = .pointer (some ⟨g, 0, none⟩) := by rw [HA0.out]; rfl
          have f0_2 : a0.eval (.tmp 2) = .slice (some ⟨b, off, none⟩) fl.length c1 := by rw [HA0.out]; rfl
          have f0_9 : a0.eval (.tmp 9) = .int .i64 (j : Int) := by rw [HA0.out]; rfl
          have f0_8 : a0.eval (.tmp 8) = .pointer (some ⟨gx, 0, none⟩) := by rw [HA0.out]; rfl
          refine wp_region_held_drew (S := fun w' => Below w1.heap.size w1 w') (by kernel_rfl) (HM.out.two.ls.below) (fun hS => ?_)
          refine wpAnyH_take (i := 0) (v := .pointer (some ⟨g, 0, none⟩)) rfl (by kernel_rfl) (by kernel_rfl) (by kernel_rfl) (fun _ _ _ h => h) (Go.Proofs.Ytlkcpplpjjbiaaa.frames.yields_move rfl (.tmp 7) rfl f0_7) hS ?_
          obtain ⟨a1, hA1⟩ : ∃ a', a' = a0.put (some 38) (.pointer (some ⟨g, 0, none⟩)) := ⟨_, rfl⟩
          change wpAnyH _ _ _ _ _ _ _ (a0.put (some 38) (.pointer (some ⟨g, 0, none⟩))) _
          rw [← hA1]
          have f1_38 : a1.eval (.tmp 38) = .pointer (some ⟨g, 0, none⟩) := by rw [hA1]; exact Act.eval_put_same _ _ _ (by omega)
          have f1_2 : a1.eval (.tmp 2) = .slice (some ⟨b, off, none⟩) fl.length c1 := by rw [hA1]; exact (Act.eval_put_ne _ _ _ _ (by decide)).trans f0_2
          have f1_9 : a1.eval (.tmp 9) = .int .i64 (j : Int) := by rw [hA1]; exact (Act.eval_put_ne _ _ _ _ (by decide)).trans f0_9
          have f1_8 : a1.eval (.tmp 8) = .pointer (some ⟨gx, 0, none⟩) := by rw [hA1]; exact (Act.eval_put_ne _ _ _ _ (by decide)).trans f0_8
          have z1 : a1.tmps.size = 59 := by rw [hA1, Act.size_put]; exact z0
          have dd1 : a1.defers = [] := by rw [hA1, Act.defers_put']; exact dd0
          have HA1 := Lib.hid hA1
          clear hA1 z0 dd0 f0_7 f0_2 f0_9 f0_8
          refine wpAnyH_take (i := 1) (v := .slice (some ⟨b, off, none⟩) fl.length c1) rfl (by kernel_rfl) (by kernel_rfl) (by kernel_rfl) (fun _ _ _ h => h) (Go.Proofs.Ytlkcpplpjjbiaaa.frames.yields_move rfl (.tmp 2) rfl f1_2) hS ?_
          obtain ⟨a2, hA2⟩ : ∃ a', a' = a1.put (some 39) (.slice (some ⟨b, off, none⟩) fl.length c1) := ⟨_, rfl⟩
          change wpAnyH _ _ _ _ _ _ _ (a1.put (some 39) (.slice (some ⟨b, off, none⟩) fl.length c1)) _
          rw [← hA2]
          have f2_39 : a2.eval (.tmp 39) = .slice (some ⟨b, off, none⟩) fl.length c1 := by rw [hA2]; exact Act.eval_put_same _ _ _ (by omega)
          have f2_38 : a2.eval (.tmp 38) = .pointer (some ⟨g, 0, none⟩) := by rw [hA2]; exact (Act.eval_put_ne _ _ _ _ (by decide)).trans f1_38
          have f2_2 : a2.eval (.tmp 2) = .slice (some ⟨b, off, none⟩) fl.length c1 := by rw [hA2]; exact (Act.eval_put_ne _ _ _ _ (by decide)).trans f1_2
          have f2_9 : a2.eval (.tmp 9) = .int .i64 (j : Int) := by rw [hA2]; exact (Act.eval_put_ne _ _ _ _ (by decide)).trans f1_9
          have f2_8 : a2.eval (.tmp 8) = .pointer (some ⟨gx, 0, none⟩) := by rw [hA2]; exact (Act.eval_put_ne _ _ _ _ (by decide)).trans f1_8
          have z2 : a2.tmps.size = 59 := by rw [hA2, Act.size_put]; exact z1
          have dd2 : a2.defers = [] := by rw [hA2, Act.defers_put']; exact dd1
          have HA2 := Lib.hid hA2
          clear hA2 z1 dd1 f1_38 f1_2 f1_9 f1_8
          refine wpAnyH_take (i := 2) (v := .int .i64 (j : Int)) rfl (by kernel_rfl) (by kernel_rfl) (by kernel_rfl) (fun _ _ _ h => h) (Go.Proofs.Ytlkcpplpjjbiaaa.frames.yields_move rfl (.tmp 9) rfl f2_9) hS ?_
          obtain ⟨a3, hA3⟩ : ∃ a', a' = a2.put (some 40) (.int .i64 (j : Int)) := ⟨_, rfl⟩
          change wpAnyH _ _ _ _ _ _ _ (a2.put (some 40) (.int .i64 (j : Int))) _
          rw [← hA3]
          have f3_40 : a3.eval (.tmp 40) = .int .i64 (j : Int) := by rw [hA3]; exact Act.eval_put_same _ _ _ (by omega)
          have f3_39 : a3.eval (.tmp 39) = .slice (some ⟨b, off, none⟩) fl.length c1 := by rw [hA3]; exact (Act.eval_put_ne _ _ _ _ (by decide)).trans f2_39
          have f3_38 : a3.eval (.tmp 38) = .pointer (some ⟨g, 0, none⟩) := by rw [hA3]; exact (Act.eval_put_ne _ _ _ _ (by decide)).trans f2_38
          have f3_2 : a3.eval (.tmp 2) = .slice (some ⟨b, off, none⟩) fl.length c1 := by rw [hA3]; exact (Act.eval_put_ne _ _ _ _ (by decide)).trans f2_2
          have f3_9 : a3.eval (.tmp 9) = .int .i64 (j : Int) := by rw [hA3]; exact (Act.eval_put_ne _ _ _ _ (by decide)).trans f2_9
          have f3_8 : a3.eval (.tmp 8) = .pointer (some ⟨gx, 0, none⟩) := by rw [hA3]; exact (Act.eval_put_ne _ _ _ _ (by decide)).trans f2_8
          have z3 : a3.tmps.size = 59 := by rw [hA3, Act.size_put]; exact z2
          have dd3 : a3.defers = [] := by rw [hA3, Act.defers_put']; exact dd2
          have HA3 := Lib.hid hA3
          clear hA3 z2 dd2 f2_39 f2_38 f2_2 f2_9 f2_8
          refine wpAnyH_take (i := 3) (v := .pointer (some ⟨b, off + j * 3, none⟩)) rfl (by kernel_rfl) (by kernel_rfl) (by kernel_rfl) (fun _ _ _ h => h) (yields_idx rfl (.tmp 39) (.tmp 40) rfl _ _ _ _ j f3_39 f3_40 n0 n1) hS ?_
          obtain ⟨a4, hA4⟩ : ∃ a', a' = a3.put (some 41) (.pointer (some ⟨b, off + j * 3, none⟩)) := ⟨_, rfl⟩
          change wpAnyH _ _ _ _ _ _ _ (a3.put (some 41) (.pointer (some ⟨b, off + j * 3, none⟩))) _
          rw [← hA4]
          have f4_41 : a4.eval (.tmp 41) = .pointer (some ⟨b, off + j * 3, none⟩) := by rw [hA4]; exact Act.eval_put_same _ _ _ (by omega)
          have f4_38 : a4.eval (.tmp 38) = .pointer (some ⟨g, 0, none⟩) := by rw [hA4]; exact (Act.eval_put_ne _ _ _ _ (by decide)).trans f3_38
          have f4_2 : a4.eval (.tmp 2) = .slice (some ⟨b, off, none⟩) fl.length c1 := by rw [hA4]; exact (Act.eval_put_ne _ _ _ _ (by decide)).trans f3_2
          have f4_9 : a4.eval (.tmp 9) = .int .i64 (j : Int) := by rw [hA4]; exact (Act.eval_put_ne _ _ _ _ (by decide)).trans f3_9
          have f4_8 : a4.eval (.tmp 8) = .pointer (some ⟨gx, 0, none⟩) := by rw [hA4]; exact (Act.eval_put_ne _ _ _ _ (by decide)).trans f3_8
          have z4 : a4.tmps.size = 59 := by rw [hA4, Act.size_put]; exact z3
          have dd4 : a4.defers = [] := by rw [hA4, Act.defers_put']; exact dd3
          have HA4 := Lib.hid hA4
          clear hA4 z3 dd3 f3_40 f3_39 f3_38 f3_2 f3_9 f3_8
          refine wpAnyH_take (i := 4) (v := .agg #[.int .i64 k, .int .i64 o, .int .i64 n]) rfl (by kernel_rfl) (by kernel_rfl) (by kernel_rfl) (fun _ _ _ h => h) (yields_op rfl (.tmp 41) rfl _ _ f4_41 k o n (fun _ h => HCe.out _ h)) hS ?_
          obtain ⟨a5, hA5⟩ : ∃ a', a' = a4.put (some 42) (.agg #[.int .i64 k, .int .i64 o, .int .i64 n]) := ⟨_, rfl⟩
          change wpAnyH _ _ _ _ _ _ _ (a4.put (some 42) (.agg #[.int .i64 k, .int .i64 o, .int .i64 n])) _
          rw [← hA5]
          have f5_42 : a5.eval (.tmp 42) = .agg #[.int .i64 k, .int .i64 o, .int .i64 n] := by rw [hA5]; exact Act.eval_put_same _ _ _ (by omega)
          have f5_38 : a5.eval (.tmp 38) = .pointer (some ⟨g, 0, none⟩) := by rw [hA5]; exact (Act.eval_put_ne _ _ _ _ (by decide)).trans f4_38
          have f5_2 : a5.eval (.tmp 2) = .slice (some ⟨b, off, none⟩) fl.length c1 := by rw [hA5]; exact (Act.eval_put_ne _ _ _ _ (by decide)).trans f4_2
          have f5_9 : a5.eval (.tmp 9) = .int .i64 (j : Int) := by rw [hA5]; exact (Act.eval_put_ne _ _ _ _ (by decide)).trans f4_9
          have f5_8 : a5.eval (.tmp 8) = .pointer (some ⟨gx, 0, none⟩) := by rw [hA5]; exact (Act.eval_put_ne _ _ _ _ (by decide)).trans f4_8
          have z5 : a5.tmps.size = 59 := by rw [hA5, Act.size_put]; exact z4
          have dd5 : a5.defers = [] := by rw [hA5, Act.defers_put']; exact dd4
          have HA5 := Lib.hid hA5
          clear hA5 z4 dd4 f4_41 f4_38 f4_2 f4_9 f4_8
          refine wpAnyH_take (i := 7) (v := .slice (some ⟨b, off, none⟩) fl.length c1) rfl (by kernel_rfl) (by kernel_rfl) (by kernel_rfl) (fun _ _ _ h => h) (Go.Proofs.Ytlkcpplpjjbiaaa.frames.yields_move rfl (.tmp 2) rfl f5_2) hS ?_
          obtain ⟨a6, hA6⟩ : ∃ a', a' = a5.put (some 45) (.slice (some ⟨b, off, none⟩) fl.length c1) := ⟨_, rfl⟩
          change wpAnyH _ _ _ _ _ _ _ (a5.put (some 45) (.slice (some ⟨b, off, none⟩) fl.length c1)) _
          rw [← hA6]
          have f6_45 : a6.eval (.tmp 45) = .slice (some ⟨b, off, none⟩) fl.length c1 := by rw [hA6]; exact Act.eval_put_same _ _ _ (by omega)
          have f6_42 : a6.eval (.tmp 42) = .agg #[.int .i64 k, .int .i64 o, .int .i64 n] := by rw [hA6]; exact (Act.eval_put_ne _ _ _ _ (by decide)).trans f5_42
          have f6_38 : a6.eval (.tmp 38) = .pointer (some ⟨g, 0, none⟩) := by rw [hA6]; exact (Act.eval_put_ne _ _ _ _ (by decide)).trans f5_38
          have f6_9 : a6.eval (.tmp 9) = .int .i64 (j : Int) := by rw [hA6]; exact (Act.eval_put_ne _ _ _ _ (by decide)).trans f5_9
          have f6_8 : a6.eval (.tmp 8) = .pointer (some ⟨gx, 0, none⟩) := by rw [hA6]; exact (Act.eval_put_ne _ _ _ _ (by decide)).trans f5_8
          have z6 : a6.tmps.size = 59 := by rw [hA6, Act.size_put]; exact z5
          have dd6 : a6.defers = [] := by rw [hA6, Act.defers_put']; exact dd5
          have HA6 := Lib.hid hA6
          clear hA6 z5 dd5 f5_42 f5_38 f5_2 f5_9 f5_8
          refine wpAnyH_take (i := 8) (v := .int .i64 (j : Int)) rfl (by kernel_rfl) (by kernel_rfl) (by kernel_rfl) (fun _ _ _ h => h) (Go.Proofs.Ytlkcpplpjjbiaaa.frames.yields_move rfl (.tmp 9) rfl f6_9) hS ?_
          obtain ⟨a7, hA7⟩ : ∃ a', a' = a6.put (some 46) (.int .i64 (j : Int)) := ⟨_, rfl⟩
          change wpAnyH _ _ _ _ _ _ _ (a6.put (some 46) (.int .i64 (j : Int))) _
          rw [← hA7]
          have f7_46 : a7.eval (.tmp 46) = .int .i64 (j : Int) := by rw [hA7]; exact Act.eval_put_same _ _ _ (by omega)
          have f7_45 : a7.eval (.tmp 45) = .slice (some ⟨b, off, none⟩) fl.length c1 := by rw [hA7]; exact (Act.eval_put_ne _ _ _ _ (by decide)).trans f6_45
          have f7_42 : a7.eval (.tmp 42) = .agg #[.int .i64 k, .int .i64 o, .int .i64 n] := by rw [hA7]; exact (Act.eval_put_ne _ _ _ _ (by decide)).trans f6_42
          have f7_38 : a7.eval (.tmp 38) = .pointer (some ⟨g, 0, none⟩) := by rw [hA7]; exact (Act.eval_put_ne _ _ _ _ (by decide)).trans f6_38
          have f7_8 : a7.eval (.tmp 8) = .pointer (some ⟨gx, 0, none⟩) := by rw [hA7]; exact (Act.eval_put_ne _ _ _ _ (by decide)).trans f6_8
          have z7 : a7.tmps.size = 59 := by rw [hA7, Act.size_put]; exact z6
          have dd7 : a7.defers = [] := by rw [hA7, Act.defers_put']; exact dd6
          have HA7 := Lib.hid hA7
          clear hA7 z6 dd6 f6_45 f6_42 f6_38 f6_9 f6_8
          refine wpAnyH_take (i := 9) (v := .pointer (some ⟨b, off + j * 3, none⟩)) rfl (by kernel_rfl) (by kernel_rfl) (by kernel_rfl) (fun _ _ _ h => h) (yields_idx rfl (.tmp 45) (.tmp 46) rfl _ _ _ _ j f7_45 f7_46 n0 n1) hS ?_
          obtain ⟨a8, hA8⟩ : ∃ a', a' = a7.put (some 47) (.pointer (some ⟨b, off + j * 3, none⟩)) := ⟨_, rfl⟩
          change wpAnyH _ _ _ _ _ _ _ (a7.put (some 47) (.pointer (some ⟨b, off + j * 3, none⟩))) _
          rw [← hA8]
          have f8_47 : a8.eval (.tmp 47) = .pointer (some ⟨b, off + j * 3, none⟩) := by rw [hA8]; exact Act.eval_put_same _ _ _ (by omega)
          have f8_42 : a8.eval (.tmp 42) = .agg #[.int .i64 k, .int .i64 o, .int .i64 n] := by rw [hA8]; exact (Act.eval_put_ne _ _ _ _ (by decide)).trans f7_42
          have f8_38 : a8.eval (.tmp 38) = .pointer (some ⟨g, 0, none⟩) := by rw [hA8]; exact (Act.eval_put_ne _ _ _ _ (by decide)).trans f7_38
          have f8_8 : a8.eval (.tmp 8) = .pointer (some ⟨gx, 0, none⟩) := by rw [hA8]; exact (Act.eval_put_ne _ _ _ _ (by decide)).trans f7_8
          have z8 : a8.tmps.size = 59 := by rw [hA8, Act.size_put]; exact z7
          have dd8 : a8.defers = [] := by rw [hA8, Act.defers_put']; exact dd7
          have HA8 := Lib.hid hA8
          clear hA8 z7 dd7 f7_46 f7_45 f7_42 f7_38 f7_8
          refine wpAnyH_take (i := 10) (v := .agg #[.int .i64 k, .int .i64 o, .int .i64 n]) rfl (by kernel_rfl) (by kernel_rfl) (by kernel_rfl) (fun _ _ _ h => h) (yields_op rfl (.tmp 47) rfl _ _ f8_47 k o n (fun _ h => HCe.out _ h)) hS ?_
          obtain ⟨a9, hA9⟩ : ∃ a', a' = a8.put (some 48) (.agg #[.int .i64 k, .int .i64 o, .int .i64 n]) := ⟨_, rfl⟩
          change wpAnyH _ _ _ _ _ _ _ (a8.put (some 48) (.agg #[.int .i64 k, .int .i64 o, .int .i64 n])) _
          rw [← hA9]
          have f9_48 : a9.eval (.tmp 48) = .agg #[.int .i64 k, .int .i64 o, .int .i64 n] := by rw [hA9]; exact Act.eval_put_same _ _ _ (by omega)
          have f9_42 : a9.eval (.tmp 42) = .agg #[.int .i64 k, .int .i64 o, .int .i64 n] := by rw [hA9]; exact (Act.eval_put_ne _ _ _ _ (by decide)).trans f8_42
          have f9_38 : a9.eval (.tmp 38) = .pointer (some ⟨g, 0, none⟩) := by rw [hA9]; exact (Act.eval_put_ne _ _ _ _ (by decide)).trans f8_38
          have f9_8 : a9.eval (.tmp 8) = .pointer (some ⟨gx, 0, none⟩) := by rw [hA9]; exact (Act.eval_put_ne _ _ _ _ (by decide)).trans f8_8
          have z9 : a9.tmps.size = 59 := by rw [hA9, Act.size_put]; exact z8
          have dd9 : a9.defers = [] := by rw [hA9, Act.defers_put']; exact dd8
          have HA9 := Lib.hid hA9
          clear hA9 z8 dd8 f8_47 f8_42 f8_38 f8_8
          refine wpAnyH_ready (rs := [5, 6]) (by kernel_rfl) (by simp) (AllReadyH.cons (by simp only [List.getElem?_toArray, List.getElem?_cons_succ, List.getElem?_cons_zero]; rfl) (fun K hK => ?_) (AllReadyH.cons (by simp only [List.getElem?_toArray, List.getElem?_cons_succ, List.getElem?_cons_zero]; rfl) (fun K hK => ?_) AllReadyH.nil))
          · skip
            refine step_call (by rfl) 12 #[.tmp 38, .tmp 42] #[27, 36] (by rfl) #[.pointer (some ⟨g, 0, none⟩), .agg #[.int .i64 k, .int .i64 o, .int .i64 n]] (by simp only [List.map_toArray, List.map_cons, List.map_nil, f9_38, f9_42]) Try.func12 (by kernel_rfl) rfl (HD.out wr.drew HM.out) (fun e' W2 hR => ?_)
            obtain ⟨g2, rfl, HM2⟩ := hR
            refine ⟨_, rfl, hK.out _ _ HM2.out.two.ls.below (fun hS => ?_)⟩
            obtain ⟨a10, hA10⟩ : ∃ a', a' = a9.put (some 43) (.pointer (some ⟨g2, 0, none⟩)) := ⟨_, rfl⟩
            change wpAnyH _ _ _ _ _ _ _ (a9.put (some 43) (.pointer (some ⟨g2, 0, none⟩))) _
            rw [← hA10]
            have f10_43 : a10.eval (.tmp 43) = .pointer (some ⟨g2, 0, none⟩) := by rw [hA10]; exact Act.eval_put_same _ _ _ (by omega)
            have f10_48 : a10.eval (.tmp 48) = .agg #[.int .i64 k, .int .i64 o, .int .i64 n] := by rw [hA10]; exact (Act.eval_put_ne _ _ _ _ (by decide)).trans f9_48
            have f10_8 : a10.eval (.tmp 8) = .pointer (some ⟨gx, 0, none⟩) := by rw [hA10]; exact (Act.eval_put_ne _ _ _ _ (by decide)).trans f9_8
            have z10 : a10.tmps.size = 59 := by rw [hA10, Act.size_put]; exact z9
            have dd10 : a10.defers = [] := by rw [hA10, Act.defers_put']; exact dd9
            have HA10 := Lib.hid hA10
            clear hA10 z9 dd9 f9_48 f9_42 f9_38 f9_8
            refine wpAnyH_ready (rs := [6]) (by kernel_rfl) (by simp) (AllReadyH.cons (by simp only [List.getElem?_toArray, List.getElem?_cons_succ, List.getElem?_cons_zero]; rfl) (fun K hK => ?_) AllReadyH.nil)
            refine srg_load (by rfl) (.tmp 8) (by rfl) gx f10_8 m HM2.out.box ?_
            refine hK.out _ _ hS (fun hS => ?_)
            obtain ⟨a11, hA11⟩ : ∃ a', a' = a10.put (some 44) (rgV m) := ⟨_, rfl⟩
            change wpAnyH _ _ _ _ _ _ _ (a10.put (some 44) (rgV m)) _
            rw [← hA11]
            have f11_44 : a11.eval (.tmp 44) = rgV m := by rw [hA11]; exact Act.eval_put_same _ _ _ (by omega)
            have f11_43 : a11.eval (.tmp 43) = .pointer (some ⟨g2, 0, none⟩) := by rw [hA11]; exact (Act.eval_put_ne _ _ _ _ (by decide)).trans f10_43
            have f11_48 : a11.eval (.tmp 48) = .agg #[.int .i64 k, .int .i64 o, .int .i64 n] := by rw [hA11]; exact (Act.eval_put_ne _ _ _ _ (by decide)).trans f10_48
            have f11_8 : a11.eval (.tmp 8) = .pointer (some ⟨gx, 0, none⟩) := by rw [hA11]; exact (Act.eval_put_ne _ _ _ _ (by decide)).trans f10_8
            have z11 : a11.tmps.size = 59 := by rw [hA11, Act.size_put]; exact z10
            have dd11 : a11.defers = [] := by rw [hA11, Act.defers_put']; exact dd10
            have HA11 := Lib.hid hA11
            clear hA11 z10 dd10 f10_43 f10_48 f10_8
            refine wpAnyH_ready (rs := [11]) (by kernel_rfl) (by simp) (AllReadyH.cons (by simp only [List.getElem?_toArray, List.getElem?_cons_succ, List.getElem?_cons_zero]; rfl) (fun K hK => ?_) AllReadyH.nil)
            refine step_call (by rfl) 13 #[.tmp 44, .tmp 48] #[31, 36] (by rfl) #[rgV m, .agg #[.int .i64 k, .int .i64 o, .int .i64 n]] (by simp only [List.map_toArray, List.map_cons, List.map_nil, f11_44, f11_48]) Try.func13 (by kernel_rfl) rfl (HR.out W2 g2 HM2.out) (fun e' W3 hR => ?_)
            obtain ⟨m2, rfl, HM3⟩ := hR
            refine ⟨_, rfl, hK.out _ _ HM3.out.two.ls.below (fun hS => ?_)⟩
            obtain ⟨a12, hA12⟩ : ∃ a', a' = a11.put (some 49) (rgV m2) := ⟨_, rfl⟩
            change wpAnyH _ _ _ _ _ _ _ (a11.put (some 49) (rgV m2)) _
            rw [← hA12]
            have f12_49 : a12.eval (.tmp 49) = rgV m2 := by rw [hA12]; exact Act.eval_put_same _ _ _ (by omega)
            have f12_43 : a12.eval (.tmp 43) = .pointer (some ⟨g2, 0, none⟩) := by rw [hA12]; exact (Act.eval_put_ne _ _ _ _ (by decide)).trans f11_43
            have f12_8 : a12.eval (.tmp 8) = .pointer (some ⟨gx, 0, none⟩) := by rw [hA12]; exact (Act.eval_put_ne _ _ _ _ (by decide)).trans f11_8
            have z12 : a12.tmps.size = 59 := by rw [hA12, Act.size_put]; exact z11
            have dd12 : a12.defers = [] := by rw [hA12, Act.defers_put']; exact dd11
            have HA12 := Lib.hid hA12
            clear hA12 z11 dd11 f11_44 f11_43 f11_48 f11_8
            refine wpAnyH_take (i := 12) (v := .pointer (some ⟨g2, 0, none⟩)) rfl (by kernel_rfl) (by kernel_rfl) (by kernel_rfl) (fun _ _ _ h => h) (yields_assign rfl (.tmp 43) rfl f12_43) hS ?_
            obtain ⟨a13, hA13⟩ : ∃ a', a' = a12.put (some 7) (.pointer (some ⟨g2, 0, none⟩)) := ⟨_, rfl⟩
            change wpAnyH _ _ _ _ _ _ _ (a12.put (some 7) (.pointer (some ⟨g2, 0, none⟩))) _
            rw [← hA13]
            have f13_7 : a13.eval (.tmp 7) = .pointer (some ⟨g2, 0, none⟩) := by rw [hA13]; exact Act.eval_put_same _ _ _ (by omega)
            have f13_49 : a13.eval (.tmp 49) = rgV m2 := by rw [hA13]; exact (Act.eval_put_ne _ _ _ _ (by decide)).trans f12_49
            have f13_8 : a13.eval (.tmp 8) = .pointer (some ⟨gx, 0, none⟩) := by rw [hA13]; exact (Act.eval_put_ne _ _ _ _ (by decide)).trans f12_8
            have z13 : a13.tmps.size = 59 := by rw [hA13, Act.size_put]; exact z12
            have dd13 : a13.defers = [] := by rw [hA13, Act.defers_put']; exact dd12
            have HA13 := Lib.hid hA13
            clear hA13 z12 dd12 f12_49 f12_43 f12_8
            refine wpAnyH_ready (rs := [13]) (by kernel_rfl) (by simp) (AllReadyH.cons (by simp only [List.getElem?_toArray, List.getElem?_cons_succ, List.getElem?_cons_zero]; rfl) (fun K hK => ?_) AllReadyH.nil)
            refine srg_store (by rfl) (.tmp 8) (.tmp 49) (by rfl) gx m m2 f13_8 f13_49 HM3.out.box ?_
            have HE := Lib.hid HM3.out.store
            refine hK.out _ _ HE.out.two.ls.below (fun hS => ?_)
            change wpAnyH _ _ _ _ _ _ _ a13 _
            refine wpAnyH_done (by kernel_rfl) ?_ _
            clear hS hK HM2 HM3
            rw [HA13.out]
            rw [HA12.out]
            rw [HA11.out]
            rw [HA10.out]
            rw [HA9.out]
            rw [HA8.out]
            rw [HA7.out]
            rw [HA6.out]
            rw [HA5.out]
            rw [HA4.out]
            rw [HA3.out]
            rw [HA2.out]
            rw [HA1.out]
            rw [HA0.out]
            simp only [Act.put, List.setIfInBounds_toArray, List.set_cons_zero, List.set_cons_succ]
            go_wp2_with fail
            go_meet
            exact ⟨_, _, rfl, HE⟩
          · skip
            refine srg_load (by rfl) (.tmp 8) (by rfl) gx f9_8 m HM.out.box ?_
            refine hK.out _ _ hS (fun hS => ?_)
            obtain ⟨a10, hA10⟩ : ∃ a', a' = a9.put (some 44) (rgV m) := ⟨_, rfl⟩
            change wpAnyH _ _ _ _ _ _ _ (a9.put (some 44) (rgV m)) _
            rw [← hA10]
            have f10_44 : a10.eval (.tmp 44) = rgV m := by rw [hA10]; exact Act.eval_put_same _ _ _ (by omega)
            have f10_48 : a10.eval (.tmp 48) = .agg #[.int .i64 k, .int .i64 o, .int .i64 n] := by rw [hA10]; exact (Act.eval_put_ne _ _ _ _ (by decide)).trans f9_48
            have f10_42 : a10.eval (.tmp 42) = .agg #[.int .i64 k, .int .i64 o, .int .i64 n] := by rw [hA10]; exact (Act.eval_put_ne _ _ _ _ (by decide)).trans f9_42
            have f10_38 : a10.eval (.tmp 38) = .pointer (some ⟨g, 0, none⟩) := by rw [hA10]; exact (Act.eval_put_ne _ _ _ _ (by decide)).trans f9_38
            have f10_8 : a10.eval (.tmp 8) = .pointer (some ⟨gx, 0, none⟩) := by rw [hA10]; exact (Act.eval_put_ne _ _ _ _ (by decide)).trans f9_8
            have z10 : a10.tmps.size = 59 := by rw [hA10, Act.size_put]; exact z9
            have dd10 : a10.defers = [] := by rw [hA10, Act.defers_put']; exact dd9
            have HA10 := Lib.hid hA10
            clear hA10 z9 dd9 f9_48 f9_42 f9_38 f9_8
            refine wpAnyH_ready (rs := [5]) (by kernel_rfl) (by simp) (AllReadyH.cons (by simp only [List.getElem?_toArray, List.getElem?_cons_succ, List.getElem?_cons_zero]; rfl) (fun K hK => ?_) AllReadyH.nil)
            refine step_call (by rfl) 12 #[.tmp 38, .tmp 42] #[27, 36] (by rfl) #[.pointer (some ⟨g, 0, none⟩), .agg #[.int .i64 k, .int .i64 o, .int .i64 n]] (by simp only [List.map_toArray, List.map_cons, List.map_nil, f10_38, f10_42]) Try.func12 (by kernel_rfl) rfl (HD.out wr.drew HM.out) (fun e' W2 hR => ?_)
            obtain ⟨g2, rfl, HM2⟩ := hR
            refine ⟨_, rfl, hK.out _ _ HM2.out.two.ls.below (fun hS => ?_)⟩
            obtain ⟨a11, hA11⟩ : ∃ a', a' = a10.put (some 43) (.pointer (some ⟨g2, 0, none⟩)) := ⟨_, rfl⟩
            change wpAnyH _ _ _ _ _ _ _ (a10.put (some 43) (.pointer (some ⟨g2, 0, none⟩))) _
            rw [← hA11]
            have f11_43 : a11.eval (.tmp 43) = .pointer (some ⟨g2, 0, none⟩) := by rw [hA11]; exact Act.eval_put_same _ _ _ (by omega)
            have f11_44 : a11.eval (.tmp 44) = rgV m := by rw [hA11]; exact (Act.eval_put_ne _ _ _ _ (by decide)).trans f10_44
            have f11_48 : a11.eval (.tmp 48) = .agg #[.int .i64 k, .int .i64 o, .int .i64 n] := by rw [hA11]; exact (Act.eval_put_ne _ _ _ _ (by decide)).trans f10_48
            have f11_8 : a11.eval (.tmp 8) = .pointer (some ⟨gx, 0, none⟩) := by rw [hA11]; exact (Act.eval_put_ne _ _ _ _ (by decide)).trans f10_8
            have z11 : a11.tmps.size = 59 := by rw [hA11, Act.size_put]; exact z10
            have dd11 : a11.defers = [] := by rw [hA11, Act.defers_put']; exact dd10
            have HA11 := Lib.hid hA11
            clear hA11 z10 dd10 f10_44 f10_48 f10_42 f10_38 f10_8
            refine wpAnyH_ready (rs := [11]) (by kernel_rfl) (by simp) (AllReadyH.cons (by simp only [List.getElem?_toArray, List.getElem?_cons_succ, List.getElem?_cons_zero]; rfl) (fun K hK => ?_) AllReadyH.nil)
            refine step_call (by rfl) 13 #[.tmp 44, .tmp 48] #[31, 36] (by rfl) #[rgV m, .agg #[.int .i64 k, .int .i64 o, .int .i64 n]] (by simp only [List.map_toArray, List.map_cons, List.map_nil, f11_44, f11_48]) Try.func13 (by kernel_rfl) rfl (HR.out W2 g2 HM2.out) (fun e' W3 hR => ?_)
            obtain ⟨m2, rfl, HM3⟩ := hR
            refine ⟨_, rfl, hK.out _ _ HM3.out.two.ls.below (fun hS => ?_)⟩
            obtain ⟨a12, hA12⟩ : ∃ a', a' = a11.put (some 49) (rgV m2) := ⟨_, rfl⟩
            change wpAnyH _ _ _ _ _ _ _ (a11.put (some 49) (rgV m2)) _
            rw [← hA12]
            have f12_49 : a12.eval (.tmp 49) = rgV m2 := by rw [hA12]; exact Act.eval_put_same _ _ _ (by omega)
            have f12_43 : a12.eval (.tmp 43) = .pointer (some ⟨g2, 0, none⟩) := by rw [hA12]; exact (Act.eval_put_ne _ _ _ _ (by decide)).trans f11_43
            have f12_8 : a12.eval (.tmp 8) = .pointer (some ⟨gx, 0, none⟩) := by rw [hA12]; exact (Act.eval_put_ne _ _ _ _ (by decide)).trans f11_8
            have z12 : a12.tmps.size = 59 := by rw [hA12, Act.size_put]; exact z11
            have dd12 : a12.defers = [] := by rw [hA12, Act.defers_put']; exact dd11
            have HA12 := Lib.hid hA12
            clear hA12 z11 dd11 f11_43 f11_44 f11_48 f11_8
            refine wpAnyH_take (i := 12) (v := .pointer (some ⟨g2, 0, none⟩)) rfl (by kernel_rfl) (by kernel_rfl) (by kernel_rfl) (fun _ _ _ h => h) (yields_assign rfl (.tmp 43) rfl f12_43) hS ?_
            obtain ⟨a13, hA13⟩ : ∃ a', a' = a12.put (some 7) (.pointer (some ⟨g2, 0, none⟩)) := ⟨_, rfl⟩
            change wpAnyH _ _ _ _ _ _ _ (a12.put (some 7) (.pointer (some ⟨g2, 0, none⟩))) _
            rw [← hA13]
            have f13_7 : a13.eval (.tmp 7) = .pointer (some ⟨g2, 0, none⟩) := by rw [hA13]; exact Act.eval_put_same _ _ _ (by omega)
            have f13_49 : a13.eval (.tmp 49) = rgV m2 := by rw [hA13]; exact (Act.eval_put_ne _ _ _ _ (by decide)).trans f12_49
            have f13_8 : a13.eval (.tmp 8) = .pointer (some ⟨gx, 0, none⟩) := by rw [hA13]; exact (Act.eval_put_ne _ _ _ _ (by decide)).trans f12_8
            have z13 : a13.tmps.size = 59 := by rw [hA13, Act.size_put]; exact z12
            have dd13 : a13.defers = [] := by rw [hA13, Act.defers_put']; exact dd12
            have HA13 := Lib.hid hA13
            clear hA13 z12 dd12 f12_49 f12_43 f12_8
            refine wpAnyH_ready (rs := [13]) (by kernel_rfl) (by simp) (AllReadyH.cons (by simp only [List.getElem?_toArray, List.getElem?_cons_succ, List.getElem?_cons_zero]; rfl) (fun K hK => ?_) AllReadyH.nil)
            refine srg_store (by rfl) (.tmp 8) (.tmp 49) (by rfl) gx m m2 f13_8 f13_49 HM3.out.box ?_
            have HE := Lib.hid HM3.out.store
            refine hK.out _ _ HE.out.two.ls.below (fun hS => ?_)
            change wpAnyH _ _ _ _ _ _ _ a13 _
            refine wpAnyH_done (by kernel_rfl) ?_ _
            clear hS hK HM2 HM3
            rw [HA13.out]
            rw [HA12.out]
            rw [HA11.out]
            rw [HA10.out]
            rw [HA9.out]
            rw [HA8.out]
            rw [HA7.out]
            rw [HA6.out]
            rw [HA5.out]
            rw [HA4.out]
            rw [HA3.out]
            rw [HA2.out]
            rw [HA1.out]
            rw [HA0.out]
            simp only [Act.put, List.setIfInBounds_toArray, List.set_cons_zero, List.set_cons_succ]
            go_wp2_with fail
            go_meet
            exact ⟨_, _, rfl, HE⟩
        case rest =>
          obtain ⟨g2, m2, rfl, HW⟩ := hcut
          have D := Lib.hid (HW.out.c_same HV2.out (by have := HJ.out.2; omega) HIn.out rfl)
          unfold rgV rgC at D
          obtain ⟨z0, z1, z2, z3, z4⟩ := rg_cells HW.out.box
          have hw1 : wrap64 ((j : Int) + 1) = (j : Int) + 1 := IntWalk.wrap64_in _ (by have := HJ.out.2; omega)
          have hw2 : IntKind.i64.wrap ((j : Int) + 1) = (j : Int) + 1 := by rw [IntWalk.i64_left, hw1]
          clear HM HD HR HCe
          go_wp2_with (first
            | (go_at_call 11; refine D.out.mono ?_; rintro _ w6 ⟨rfl, h6⟩; have H6 := Lib.hid (And.intro HV2.out h6); clear h6))
          clear D z0 z1 z2 z3 z4 HW HV2
          go_roundw
          case rel => exact ⟨j + 1, g2, _, m2, _, rfl, by go_num, HJ.out.1, H6⟩
          case measure => have := HJ.out.1; simp [intOf, hw1]; omega
      · have HB := Lib.hid (HB1.out.trans (HW.out.2.two.ls.below.mono HB1.out.size))
        have D := HL wr
        have hge : decide (j < fl.length) = false := decide_eq_false hlt
        clear HW HL hlt hj HO HCut HFl HIn
        go_wp2_with (refine D.out.mono ?_; rintro _ w7 ⟨rfl, hb7⟩; have H7 := Lib.hid hb7; clear hb7)
        go_ret
        exact ⟨rfl, HB.out.trans (H7.out.mono HB.out.size)⟩
end Go.Proofs.Ytlkcpplpjjbiaaa.reg
