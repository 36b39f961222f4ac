/-
  What any calls, one behind the other, come to: the walk over what is asked of the program's calls. Conditions: calls that lie there, each of three numbers.
-/
import Derived.Test.YtphcffbbdpbkfaaFSpec
namespace Go.Proofs.Ytphcffbbdpbkfaa.frames
open Go.RowKit Go.ChangeShapes
open Go.Proofs.Ytphcffbbdpbkfaa.nums (NAt)
set_option linter.unusedVariables false
set_option linter.unusedSimpArgs false

set_option maxRecDepth 100000 in
set_option maxHeartbeats 8000000 in
theorem runs_walk (K : Keeps) (HLv : ∀ w, Calls Try.prog 15 #[] w fun e w' => e = .returned (.bool true) ∧ Below w.heap.size w w') (fn : Int) (A0 : Option Addr) (c0 : Nat) (ops : List (Int × Int × Int)) (w : World) (hO : OpsAt w A0 ops) (hI : ∀ j, j < ops.length → I64 (ops.getD j (0, 0, 0)).1 ∧ I64 (ops.getD j (0, 0, 0)).2.1 ∧ I64 (ops.getD j (0, 0, 0)).2.2) (hf : I64 fn) (hl : ops.length ≤ 9223372036854775807) :
    Calls Try.prog 3 #[.int .i64 fn, .slice A0 ops.length c0] w fun e w' => e = .returned (.bool true) ∧ Below w.heap.size w w' := by
  have HK := Lib.hid K
  have HL := fun W => Lib.hid (HLv W)
  have HO := Lib.hid hO
  have HI := Lib.hid hI
  have HN := Lib.hid (K.new fn none 0 [] w (fun j hj => absurd hj (Nat.not_lt_zero j)) (Nat.zero_le _) (Nat.le_refl _) (fun _ => ⟨rfl, rfl⟩) hf)
  have HM := fun W => Lib.hid (refNew_row fn none 0 [] (Nat.zero_le _) W (fun j hj => absurd hj (Nat.not_lt_zero j)))
  unfold FrsPost at HN
  simp only [List.length_nil, List.length_singleton] at HN HM
  clear K HLv hO hI hf
  go_enter Try.func3, Try.ntmps3
  go_wp2_with fail
  refine HN.out.mono ?_
  rintro _ w1 ⟨A1, c1, rfl, hx1, hb1⟩
  have HB1 := Lib.hid (And.intro hx1 hb1)
  clear hx1 hb1 HN
  go_wp2_with fail
  refine (HM w1).out.mono ?_
  rintro _ w2 ⟨B1, d1, rfl, hy1, hb2, hy2, hy3⟩
  have HX0 : Hid (Ru w A1 c1 B1 d1 [newF fn []] w2) := Lib.hid ⟨HB1.out.2.trans (hb2.mono HB1.out.2.size), HB1.out.1.next hb2, ⟨hy1, hy2, by simp, fun g hg => by rw [List.mem_singleton.1 hg]; exact (new_good fn []).1, fun e => absurd e hy3⟩, ⟨by simp, fun g hg => by rw [List.mem_singleton.1 hg]; exact new_good fn []⟩⟩
  clear HB1 HM hy1 hb2 hy2 hy3
  go_wp2_with fail
  go_loopw [5, 6, 7] (fun x y i wr => ∃ (j : Nat) (l : List Fr) (A B : Option Addr) (c d : Nat), j ≤ ops.length ∧ j ≤ 100 ∧ x = .slice A l.length c ∧ y = .slice B l.length d ∧ i = .int .i64 (j : Int) ∧ Hid (Ru w A c B d l wr)) (fun _ _ i _ => 100 - (intOf i).toNat)
  case atStart => exact ⟨0, [newF fn []], A1, B1, c1, d1, Nat.zero_le _, Nat.zero_le _, rfl, rfl, rfl, HX0⟩
  case round =>
    clear HX0
    obtain ⟨j, l, A, B, c, d, hj, hj2, rfl, rfl, rfl, HX⟩ := hrel
    by_cases hlt : j < ops.length ∧ j < 100
    · obtain ⟨b, off, rfl, hbl, x0, x1, x2⟩ := HO.out.next HX.out.below j hlt.1
      obtain ⟨i0, i1, i2⟩ := HI.out j hlt.1
      have q1 : decide ((j : Int) < (ops.length : Int)) = true := decide_eq_true (by omega)
      have q2 : decide ((j : Int) < 100) = true := decide_eq_true (by omega)
      have k0 : (0 : Int) ≤ (j : Int) := by omega
      have k1 : (j : Int) < (ops.length : Int) := by omega
      have k2 : (j : Int) < 100 := by omega
      generalize (ops.getD j (0, 0, 0)).1 = kd at *
      generalize (ops.getD j (0, 0, 0)).2.1 = k at *
      generalize (ops.getD j (0, 0, 0)).2.2 = v at *
      have hb0 : Below wr.heap.size wr (wr.alloc (opB kd k v)) := (Below.refl _ wr).alloc (Nat.le_refl _) _
      have HX1 := Lib.hid (HX.out.next hb0)
      have HBx := Lib.hid (heap_alloc_new wr (opB kd k v))
      unfold opB at HX1 HBx
      obtain ⟨r, hr⟩ : ∃ r, r = doF l kd k v := ⟨_, rfl⟩
      have HD : Hid (∀ B d W, In W B d l → Calls Try.prog 13 #[.slice B l.length d, .agg #[.int .i64 kd, .int .i64 k, .int .i64 v]] W (FrsPost r W)) := Lib.hid fun B d W h => by rw [hr]; exact refDo_any B d l kd k v W h (by have := HX.out.good.1; omega)
      have HG : Hid (Good r) := Lib.hid (by rw [hr]; exact do_good HX.out.good kd k v)
      unfold doF at hr
      unfold FrsPost at HD
      have HSz : Hid (wr.heap.size < (wr.alloc (.cells #[.int .i64 kd, .int .i64 k, .int .i64 v] 27)).heap.size) := Lib.hid (by simp)
      clear hb0 HX hbl
      go_upto_region 6 with fail
      generalize wr.alloc (.cells #[.int .i64 kd, .int .i64 k, .int .i64 v] 27) = W1 at *
      generalize wr.heap.size = g at *
      clear x0 x1 x2
      obtain ⟨c0, c1, c2⟩ := op_cells (k := kd) (a := k) (v := v) HBx.out
      by_cases e0 : kd = 0
      · rw [if_pos e0] at hr
        subst e0
        have HQ := Lib.hid (HK.out.push A c l v W1 HX1.out.x HX1.out.good i2)
        unfold YesPost at HQ
        cases hq : pushF l v with
        | none =>
          rw [hq] at hr HQ
          dsimp only [Option.getD] at hr HQ
          subst hr
          clear hq
          go_wp2_with fail
          refine HQ.out.mono ?_
          rintro _ w2 ⟨hb2, u, rfl⟩
          have HB2 := Lib.hid ((hb2.block _ HSz.out).trans HBx.out)
          have HY2 := Lib.hid (HX1.out.y.next hb2)
          have HW2 := Lib.hid (HX1.out.below.trans (hb2.mono HX1.out.below.size))
          have HN2 := Lib.hid (HX1.out.x.next hb2)
          clear hb2 c0 c1 c2 HBx HX1 HSz HQ
          obtain ⟨e0, e1, e2⟩ := op_cells HB2.out
          go_wp2_with fail
          refine (HD.out B d w2 HY2.out).mono ?_
          rintro _ w3 ⟨B3, d3, rfl, hy3, hb3⟩
          have HS3 := Lib.hid (refSame_yes A B3 c d3 r w3 (HN2.out.next hb3).at' hy3.at' hy3.len)
          have HR3 : Hid (Ru w A c B3 d3 r w3) := Lib.hid ⟨HW2.out.trans (hb3.mono HW2.out.size), HN2.out.next hb3, hy3, HG.out⟩
          clear hy3 hb3 e0 e1 e2 HB2 HY2 HN2 HW2 HD
          go_wp2_with fail
          refine HS3.out.mono ?_
          rintro _ w4 ⟨rfl, hb4⟩
          have HR4 := Lib.hid (HR3.out.next hb4)
          clear hb4 HS3 HR3
          go_wp2_with fail
          go_roundw
          case rel => exact ⟨j + 1, r, A, B3, c, d3, by omega, by omega, rfl, rfl, by go_num, HR4⟩
          case measure => simp [intOf]; omega
        | some y =>
          rw [hq] at hr HQ
          dsimp only [Option.getD] at hr HQ
          subst hr
          clear hq
          go_wp2_with fail
          refine HQ.out.mono ?_
          rintro _ w2 ⟨hb2, A2, d2, rfl, hI2⟩
          have HB2 := Lib.hid ((hb2.block _ HSz.out).trans HBx.out)
          have HY2 := Lib.hid (HX1.out.y.next hb2)
          have HW2 := Lib.hid (HX1.out.below.trans (hb2.mono HX1.out.below.size))
          have HN2 := Lib.hid hI2
          clear hI2
          clear hb2 c0 c1 c2 HBx HX1 HSz HQ
          obtain ⟨e0, e1, e2⟩ := op_cells HB2.out
          go_wp2_with fail
          refine (HD.out B d w2 HY2.out).mono ?_
          rintro _ w3 ⟨B3, d3, rfl, hy3, hb3⟩
          have HS3 := Lib.hid (refSame_yes A2 B3 d2 d3 r w3 (HN2.out.next hb3).at' hy3.at' hy3.len)
          have HR3 : Hid (Ru w A2 d2 B3 d3 r w3) := Lib.hid ⟨HW2.out.trans (hb3.mono HW2.out.size), HN2.out.next hb3, hy3, HG.out⟩
          clear hy3 hb3 e0 e1 e2 HB2 HY2 HN2 HW2 HD
          go_wp2_with fail
          refine HS3.out.mono ?_
          rintro _ w4 ⟨rfl, hb4⟩
          have HR4 := Lib.hid (HR3.out.next hb4)
          clear hb4 HS3 HR3
          go_wp2_with fail
          go_roundw
          case rel => exact ⟨j + 1, r, A2, B3, d2, d3, by omega, by omega, rfl, rfl, by go_num, HR4⟩
          case measure => simp [intOf]; omega
      by_cases e1 : kd = 1
      · rw [if_neg e0, if_pos e1] at hr
        subst e1
        have HQ := Lib.hid (HK.out.pop A c l k W1 HX1.out.x HX1.out.good i1)
        unfold YesPost3 at HQ
        cases hq : (popF l k).map (·.1) with
        | none =>
          rw [hq] at hr HQ
          dsimp only [Option.getD] at hr HQ
          subst hr
          clear hq
          go_wp2_with fail
          refine HQ.out.mono ?_
          rintro _ w2 ⟨hb2, u, z, rfl⟩
          have HB2 := Lib.hid ((hb2.block _ HSz.out).trans HBx.out)
          have HY2 := Lib.hid (HX1.out.y.next hb2)
          have HW2 := Lib.hid (HX1.out.below.trans (hb2.mono HX1.out.below.size))
          have HN2 := Lib.hid (HX1.out.x.next hb2)
          clear hb2 c0 c1 c2 HBx HX1 HSz HQ
          obtain ⟨e0, e1, e2⟩ := op_cells HB2.out
          go_wp2_with fail
          refine (HD.out B d w2 HY2.out).mono ?_
          rintro _ w3 ⟨B3, d3, rfl, hy3, hb3⟩
          have HS3 := Lib.hid (refSame_yes A B3 c d3 r w3 (HN2.out.next hb3).at' hy3.at' hy3.len)
          have HR3 : Hid (Ru w A c B3 d3 r w3) := Lib.hid ⟨HW2.out.trans (hb3.mono HW2.out.size), HN2.out.next hb3, hy3, HG.out⟩
          clear hy3 hb3 e0 e1 e2 HB2 HY2 HN2 HW2 HD
          go_wp2_with fail
          refine HS3.out.mono ?_
          rintro _ w4 ⟨rfl, hb4⟩
          have HR4 := Lib.hid (HR3.out.next hb4)
          clear hb4 HS3 HR3
          go_wp2_with fail
          go_roundw
          case rel => exact ⟨j + 1, r, A, B3, c, d3, by omega, by omega, rfl, rfl, by go_num, HR4⟩
          case measure => simp [intOf]; omega
        | some y =>
          rw [hq] at hr HQ
          dsimp only [Option.getD] at hr HQ
          subst hr
          clear hq
          go_wp2_with fail
          refine HQ.out.mono ?_
          rintro _ w2 ⟨hb2, A2, d2, z, rfl, hI2⟩
          have HB2 := Lib.hid ((hb2.block _ HSz.out).trans HBx.out)
          have HY2 := Lib.hid (HX1.out.y.next hb2)
          have HW2 := Lib.hid (HX1.out.below.trans (hb2.mono HX1.out.below.size))
          have HN2 := Lib.hid hI2
          clear hI2
          clear hb2 c0 c1 c2 HBx HX1 HSz HQ
          obtain ⟨e0, e1, e2⟩ := op_cells HB2.out
          go_wp2_with fail
          refine (HD.out B d w2 HY2.out).mono ?_
          rintro _ w3 ⟨B3, d3, rfl, hy3, hb3⟩
          have HS3 := Lib.hid (refSame_yes A2 B3 d2 d3 r w3 (HN2.out.next hb3).at' hy3.at' hy3.len)
          have HR3 : Hid (Ru w A2 d2 B3 d3 r w3) := Lib.hid ⟨HW2.out.trans (hb3.mono HW2.out.size), HN2.out.next hb3, hy3, HG.out⟩
          clear hy3 hb3 e0 e1 e2 HB2 HY2 HN2 HW2 HD
          go_wp2_with fail
          refine HS3.out.mono ?_
          rintro _ w4 ⟨rfl, hb4⟩
          have HR4 := Lib.hid (HR3.out.next hb4)
          clear hb4 HS3 HR3
          go_wp2_with fail
          go_roundw
          case rel => exact ⟨j + 1, r, A2, B3, d2, d3, by omega, by omega, rfl, rfl, by go_num, HR4⟩
          case measure => simp [intOf]; omega
      by_cases e2 : kd = 2
      · rw [if_neg e0, if_neg e1, if_pos e2] at hr
        subst e2
        have HQ := Lib.hid (HK.out.turn A c l v W1 HX1.out.x HX1.out.good i2)
        unfold FrsPost at HQ
        rw [← hr] at HQ
        clear hr
        go_wp2_with fail
        refine HQ.out.mono ?_
        rintro _ w2 ⟨A2, d2, rfl, hI2, hb2⟩
        have HB2 := Lib.hid ((hb2.block _ HSz.out).trans HBx.out)
        have HY2 := Lib.hid (HX1.out.y.next hb2)
        have HW2 := Lib.hid (HX1.out.below.trans (hb2.mono HX1.out.below.size))
        have HN2 := Lib.hid hI2
        clear hI2
        clear hb2 c0 c1 c2 HBx HX1 HSz HQ
        obtain ⟨e0, e1, e2⟩ := op_cells HB2.out
        go_wp2_with fail
        refine (HD.out B d w2 HY2.out).mono ?_
        rintro _ w3 ⟨B3, d3, rfl, hy3, hb3⟩
        have HS3 := Lib.hid (refSame_yes A2 B3 d2 d3 r w3 (HN2.out.next hb3).at' hy3.at' hy3.len)
        have HR3 : Hid (Ru w A2 d2 B3 d3 r w3) := Lib.hid ⟨HW2.out.trans (hb3.mono HW2.out.size), HN2.out.next hb3, hy3, HG.out⟩
        clear hy3 hb3 e0 e1 e2 HB2 HY2 HN2 HW2 HD
        go_wp2_with fail
        refine HS3.out.mono ?_
        rintro _ w4 ⟨rfl, hb4⟩
        have HR4 := Lib.hid (HR3.out.next hb4)
        clear hb4 HS3 HR3
        go_wp2_with fail
        go_roundw
        case rel => exact ⟨j + 1, r, A2, B3, d2, d3, by omega, by omega, rfl, rfl, by go_num, HR4⟩
        case measure => simp [intOf]; omega
      by_cases e3 : kd = 3
      · rw [if_neg e0, if_neg e1, if_neg e2, if_pos e3] at hr
        subst e3
        have HQ := Lib.hid (HK.out.call A c l v k W1 HX1.out.x HX1.out.good i2 i1)
        unfold YesPost at HQ
        cases hq : callF l v k with
        | none =>
          rw [hq] at hr HQ
          dsimp only [Option.getD] at hr HQ
          subst hr
          clear hq
          go_wp2_with fail
          refine HQ.out.mono ?_
          rintro _ w2 ⟨hb2, u, rfl⟩
          have HB2 := Lib.hid ((hb2.block _ HSz.out).trans HBx.out)
          have HY2 := Lib.hid (HX1.out.y.next hb2)
          have HW2 := Lib.hid (HX1.out.below.trans (hb2.mono HX1.out.below.size))
          have HN2 := Lib.hid (HX1.out.x.next hb2)
          clear hb2 c0 c1 c2 HBx HX1 HSz HQ
          obtain ⟨e0, e1, e2⟩ := op_cells HB2.out
          go_wp2_with fail
          refine (HD.out B d w2 HY2.out).mono ?_
          rintro _ w3 ⟨B3, d3, rfl, hy3, hb3⟩
          have HS3 := Lib.hid (refSame_yes A B3 c d3 r w3 (HN2.out.next hb3).at' hy3.at' hy3.len)
          have HR3 : Hid (Ru w A c B3 d3 r w3) := Lib.hid ⟨HW2.out.trans (hb3.mono HW2.out.size), HN2.out.next hb3, hy3, HG.out⟩
          clear hy3 hb3 e0 e1 e2 HB2 HY2 HN2 HW2 HD
          go_wp2_with fail
          refine HS3.out.mono ?_
          rintro _ w4 ⟨rfl, hb4⟩
          have HR4 := Lib.hid (HR3.out.next hb4)
          clear hb4 HS3 HR3
          go_wp2_with fail
          go_roundw
          case rel => exact ⟨j + 1, r, A, B3, c, d3, by omega, by omega, rfl, rfl, by go_num, HR4⟩
          case measure => simp [intOf]; omega
        | some y =>
          rw [hq] at hr HQ
          dsimp only [Option.getD] at hr HQ
          subst hr
          clear hq
          go_wp2_with fail
          refine HQ.out.mono ?_
          rintro _ w2 ⟨hb2, A2, d2, rfl, hI2⟩
          have HB2 := Lib.hid ((hb2.block _ HSz.out).trans HBx.out)
          have HY2 := Lib.hid (HX1.out.y.next hb2)
          have HW2 := Lib.hid (HX1.out.below.trans (hb2.mono HX1.out.below.size))
          have HN2 := Lib.hid hI2
          clear hI2
          clear hb2 c0 c1 c2 HBx HX1 HSz HQ
          obtain ⟨e0, e1, e2⟩ := op_cells HB2.out
          go_wp2_with fail
          refine (HD.out B d w2 HY2.out).mono ?_
          rintro _ w3 ⟨B3, d3, rfl, hy3, hb3⟩
          have HS3 := Lib.hid (refSame_yes A2 B3 d2 d3 r w3 (HN2.out.next hb3).at' hy3.at' hy3.len)
          have HR3 : Hid (Ru w A2 d2 B3 d3 r w3) := Lib.hid ⟨HW2.out.trans (hb3.mono HW2.out.size), HN2.out.next hb3, hy3, HG.out⟩
          clear hy3 hb3 e0 e1 e2 HB2 HY2 HN2 HW2 HD
          go_wp2_with fail
          refine HS3.out.mono ?_
          rintro _ w4 ⟨rfl, hb4⟩
          have HR4 := Lib.hid (HR3.out.next hb4)
          clear hb4 HS3 HR3
          go_wp2_with fail
          go_roundw
          case rel => exact ⟨j + 1, r, A2, B3, d2, d3, by omega, by omega, rfl, rfl, by go_num, HR4⟩
          case measure => simp [intOf]; omega
      by_cases e4 : kd = 4
      · rw [if_neg e0, if_neg e1, if_neg e2, if_neg e3, if_pos e4] at hr
        subst e4
        have HQ := Lib.hid (HK.out.ret A c l W1 HX1.out.x HX1.out.good)
        unfold YesPost3 at HQ
        cases hq : (retF l).map (·.1) with
        | none =>
          rw [hq] at hr HQ
          dsimp only [Option.getD] at hr HQ
          subst hr
          clear hq
          go_wp2_with fail
          refine HQ.out.mono ?_
          rintro _ w2 ⟨hb2, u, z, rfl⟩
          have HB2 := Lib.hid ((hb2.block _ HSz.out).trans HBx.out)
          have HY2 := Lib.hid (HX1.out.y.next hb2)
          have HW2 := Lib.hid (HX1.out.below.trans (hb2.mono HX1.out.below.size))
          have HN2 := Lib.hid (HX1.out.x.next hb2)
          clear hb2 c0 c1 c2 HBx HX1 HSz HQ
          obtain ⟨e0, e1, e2⟩ := op_cells HB2.out
          go_wp2_with fail
          refine (HD.out B d w2 HY2.out).mono ?_
          rintro _ w3 ⟨B3, d3, rfl, hy3, hb3⟩
          have HS3 := Lib.hid (refSame_yes A B3 c d3 r w3 (HN2.out.next hb3).at' hy3.at' hy3.len)
          have HR3 : Hid (Ru w A c B3 d3 r w3) := Lib.hid ⟨HW2.out.trans (hb3.mono HW2.out.size), HN2.out.next hb3, hy3, HG.out⟩
          clear hy3 hb3 e0 e1 e2 HB2 HY2 HN2 HW2 HD
          go_wp2_with fail
          refine HS3.out.mono ?_
          rintro _ w4 ⟨rfl, hb4⟩
          have HR4 := Lib.hid (HR3.out.next hb4)
          clear hb4 HS3 HR3
          go_wp2_with fail
          go_roundw
          case rel => exact ⟨j + 1, r, A, B3, c, d3, by omega, by omega, rfl, rfl, by go_num, HR4⟩
          case measure => simp [intOf]; omega
        | some y =>
          rw [hq] at hr HQ
          dsimp only [Option.getD] at hr HQ
          subst hr
          clear hq
          go_wp2_with fail
          refine HQ.out.mono ?_
          rintro _ w2 ⟨hb2, A2, d2, z, rfl, hI2⟩
          have HB2 := Lib.hid ((hb2.block _ HSz.out).trans HBx.out)
          have HY2 := Lib.hid (HX1.out.y.next hb2)
          have HW2 := Lib.hid (HX1.out.below.trans (hb2.mono HX1.out.below.size))
          have HN2 := Lib.hid hI2
          clear hI2
          clear hb2 c0 c1 c2 HBx HX1 HSz HQ
          obtain ⟨e0, e1, e2⟩ := op_cells HB2.out
          go_wp2_with fail
          refine (HD.out B d w2 HY2.out).mono ?_
          rintro _ w3 ⟨B3, d3, rfl, hy3, hb3⟩
          have HS3 := Lib.hid (refSame_yes A2 B3 d2 d3 r w3 (HN2.out.next hb3).at' hy3.at' hy3.len)
          have HR3 : Hid (Ru w A2 d2 B3 d3 r w3) := Lib.hid ⟨HW2.out.trans (hb3.mono HW2.out.size), HN2.out.next hb3, hy3, HG.out⟩
          clear hy3 hb3 e0 e1 e2 HB2 HY2 HN2 HW2 HD
          go_wp2_with fail
          refine HS3.out.mono ?_
          rintro _ w4 ⟨rfl, hb4⟩
          have HR4 := Lib.hid (HR3.out.next hb4)
          clear hb4 HS3 HR3
          go_wp2_with fail
          go_roundw
          case rel => exact ⟨j + 1, r, A2, B3, d2, d3, by omega, by omega, rfl, rfl, by go_num, HR4⟩
          case measure => simp [intOf]; omega
      by_cases e5 : kd = 5
      · rw [if_neg e0, if_neg e1, if_neg e2, if_neg e3, if_neg e4, if_pos e5] at hr
        subst e5
        have HQ := Lib.hid (HK.out.store A c l k v W1 HX1.out.x HX1.out.good i1 i2)
        unfold FrsPost at HQ
        rw [← hr] at HQ
        clear hr
        go_wp2_with fail
        refine HQ.out.mono ?_
        rintro _ w2 ⟨A2, d2, rfl, hI2, hb2⟩
        have HB2 := Lib.hid ((hb2.block _ HSz.out).trans HBx.out)
        have HY2 := Lib.hid (HX1.out.y.next hb2)
        have HW2 := Lib.hid (HX1.out.below.trans (hb2.mono HX1.out.below.size))
        have HN2 := Lib.hid hI2
        clear hI2
        clear hb2 c0 c1 c2 HBx HX1 HSz HQ
        obtain ⟨e0, e1, e2⟩ := op_cells HB2.out
        go_wp2_with fail
        refine (HD.out B d w2 HY2.out).mono ?_
        rintro _ w3 ⟨B3, d3, rfl, hy3, hb3⟩
        have HS3 := Lib.hid (refSame_yes A2 B3 d2 d3 r w3 (HN2.out.next hb3).at' hy3.at' hy3.len)
        have HR3 : Hid (Ru w A2 d2 B3 d3 r w3) := Lib.hid ⟨HW2.out.trans (hb3.mono HW2.out.size), HN2.out.next hb3, hy3, HG.out⟩
        clear hy3 hb3 e0 e1 e2 HB2 HY2 HN2 HW2 HD
        go_wp2_with fail
        refine HS3.out.mono ?_
        rintro _ w4 ⟨rfl, hb4⟩
        have HR4 := Lib.hid (HR3.out.next hb4)
        clear hb4 HS3 HR3
        go_wp2_with fail
        go_roundw
        case rel => exact ⟨j + 1, r, A2, B3, d2, d3, by omega, by omega, rfl, rfl, by go_num, HR4⟩
        case measure => simp [intOf]; omega
      · rw [if_neg e0, if_neg e1, if_neg e2, if_neg e3, if_neg e4, if_neg e5] at hr
        have m0 : (kd == 0) = false := by simpa using e0
        have m1 : (kd == 1) = false := by simpa using e1
        have m2 : (kd == 2) = false := by simpa using e2
        have m3 : (kd == 3) = false := by simpa using e3
        have m4 : (kd == 4) = false := by simpa using e4
        have m5 : (kd == 5) = false := by simpa using e5
        clear e0 e1 e2 e3 e4 e5
        have HQ := Lib.hid (HK.out.go A c l v W1 HX1.out.x HX1.out.good i2)
        unfold FrsPost at HQ
        rw [← hr] at HQ
        clear hr
        go_wp2_with fail
        refine HQ.out.mono ?_
        rintro _ w2 ⟨A2, d2, rfl, hI2, hb2⟩
        have HB2 := Lib.hid ((hb2.block _ HSz.out).trans HBx.out)
        have HY2 := Lib.hid (HX1.out.y.next hb2)
        have HW2 := Lib.hid (HX1.out.below.trans (hb2.mono HX1.out.below.size))
        have HN2 := Lib.hid hI2
        clear hI2
        clear hb2 c0 c1 c2 HBx HX1 HSz HQ
        obtain ⟨e0, e1, e2⟩ := op_cells HB2.out
        go_wp2_with fail
        refine (HD.out B d w2 HY2.out).mono ?_
        rintro _ w3 ⟨B3, d3, rfl, hy3, hb3⟩
        have HS3 := Lib.hid (refSame_yes A2 B3 d2 d3 r w3 (HN2.out.next hb3).at' hy3.at' hy3.len)
        have HR3 : Hid (Ru w A2 d2 B3 d3 r w3) := Lib.hid ⟨HW2.out.trans (hb3.mono HW2.out.size), HN2.out.next hb3, hy3, HG.out⟩
        clear hy3 hb3 e0 e1 e2 HB2 HY2 HN2 HW2 HD
        go_wp2_with fail
        refine HS3.out.mono ?_
        rintro _ w4 ⟨rfl, hb4⟩
        have HR4 := Lib.hid (HR3.out.next hb4)
        clear hb4 HS3 HR3
        go_wp2_with fail
        go_roundw
        case rel => exact ⟨j + 1, r, A2, B3, d2, d3, by omega, by omega, rfl, rfl, by go_num, HR4⟩
        case measure => simp [intOf]; omega
    · have q : (decide ((j : Int) < (ops.length : Int)) && decide ((j : Int) < 100)) = false := by
        rw [Bool.and_eq_false_iff]
        rcases Nat.lt_or_ge j ops.length with h | h
        · exact .inr (decide_eq_false (by omega))
        · exact .inl (decide_eq_false (by omega))
      have HL2 := Lib.hid ((HL wr).out)
      by_cases h : j < ops.length
      · have q1 : decide ((j : Int) < (ops.length : Int)) = true := decide_eq_true (by omega)
        have q2 : decide ((j : Int) < 100) = false := decide_eq_false (by omega)
        clear q
        go_wp2_with fail
        refine HL2.out.mono ?_
        rintro _ w5 ⟨rfl, hb5⟩
        go_wp2
        go_ret
        exact ⟨rfl, HX.out.below.trans (hb5.mono HX.out.below.size)⟩
      · have q1 : decide ((j : Int) < (ops.length : Int)) = false := decide_eq_false (by omega)
        clear q
        go_wp2_with fail
        refine HL2.out.mono ?_
        rintro _ w5 ⟨rfl, hb5⟩
        go_wp2
        go_ret
        exact ⟨rfl, HX.out.below.trans (hb5.mono HX.out.below.size)⟩
end Go.Proofs.Ytphcffbbdpbkfaa.frames
