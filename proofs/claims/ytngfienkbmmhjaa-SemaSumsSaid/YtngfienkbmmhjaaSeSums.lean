/-
  The value is what it was at first, and what was posted, without what was taken, and never out of its bounds: the walk over what is asked of the program's calls. No condition.
-/
import Derived.Test.YtngfienkbmmhjaaSeSpec
import Derived.LoopTactic
import Derived.Deep.DeepCutAuto
namespace Go.Proofs.Ytngfienkbmmhjaa.sem
open Go.RowKit Go.ChangeShapes
open Go.Proofs.Ytngfienkbmmhjaa.obj
set_option linter.unusedVariables false
set_option linter.unusedSimpArgs false

theorem sum_cases (s : Sx) (k n : Int) : (k = 0 ∧ (doS s k n).2 = 1 ∧ (doS s k n).1.v = s.v - n) ∨ (k = 0 ∧ (doS s k n).2 ≠ 1 ∧ (doS s k n).1.v = s.v) ∨ (k = 1 ∧ (doS s k n).2 = 0 ∧ (doS s k n).1.v = s.v + n) ∨ (k = 1 ∧ (doS s k n).2 ≠ 0 ∧ (doS s k n).1.v = s.v) ∨ (k ≠ 0 ∧ k ≠ 1 ∧ (doS s k n).1.v = s.v + (doS s k n).2) := by
  have h := do_sum s k n
  by_cases k0 : k = 0
  · rw [if_neg (by omega), if_neg (by omega)] at h
    by_cases hy : (doS s k n).2 = 1
    · rw [if_pos ⟨k0, hy⟩] at h
      exact .inl ⟨k0, hy, h⟩
    · rw [if_neg (fun e => hy e.2)] at h
      exact .inr (.inl ⟨k0, hy, h⟩)
  by_cases k1 : k = 1
  · rw [if_neg (by omega)] at h
    by_cases hy : (doS s k n).2 = 0
    · rw [if_pos ⟨k1, hy⟩] at h
      exact .inr (.inr (.inl ⟨k1, hy, h⟩))
    · rw [if_neg (fun e => hy e.2), if_neg (by omega)] at h
      exact .inr (.inr (.inr (.inl ⟨k1, hy, h⟩)))
  · rw [if_pos ⟨k0, k1⟩] at h
    exact .inr (.inr (.inr (.inr ⟨k0, k1, h⟩)))

set_option maxRecDepth 100000 in
set_option maxHeartbeats 4000000 in
theorem sums_walk {At : World → Nat → Sx → Prop} (K : Keeps At) (first most : Int) (A : Option Addr) (cap : Nat) (ops : List (Int × Int)) (w : World) (hi1 : I64 first) (hi2 : I64 most) (ho : OpsAt w A ops) (hi : ∀ j, j < ops.length → I64 (ops.getD j (0, 0)).1 ∧ I64 (ops.getD j (0, 0)).2) (hl : ops.length ≤ 9223372036854775807) :
    Calls Try.prog 4 #[.int .i64 first, .int .i64 most, .slice A ops.length cap] w fun e w' => e = .returned (.bool true) ∧ Below w.heap.size w w' := by
  have HK := Lib.hid K
  have HO := Lib.hid ho
  have HI := Lib.hid hi
  have HL := fun W => Lib.hid (lives_any K W)
  have C0 := Lib.hid (K.new first most w hi1 hi2)
  have hf0 := new_fine first most
  generalize newS first most = m0 at *
  have CV0 := fun W g h => Lib.hid (HK.out.value W g m0 h hf0)
  have HF0 := Lib.hid hf0
  clear K ho hi hi1 hi2 hf0
  go_enter Try.func4, Try.ntmps4
  go_wp2_with fail
  refine C0.out.mono ?_
  rintro _ w1 ⟨g, rfl, hg, ha, hb⟩
  have H1 : Hid (Hs At w g m0 w1) := Lib.hid ⟨hb, hg, ha⟩
  clear hg ha hb C0
  have D := CV0 w1 g H1.out.2.2
  go_wp2_with fail
  refine D.out.mono ?_
  rintro _ w2 ⟨rfl, hb⟩
  have H2 := Lib.hid (hs_next HK.out H1.out hb)
  clear hb D CV0 H1
  go_wp2_with fail
  go_loopw [8, 9] (fun x i wr => ∃ (j : Nat) (m : Sx), x = .int .i64 m.v ∧ i = .int .i64 (j : Int) ∧ j ≤ ops.length ∧ j ≤ 80 ∧ Fine m ∧ Hs At w g m wr) (fun x i _ => ops.length - (intOf i).toNat)
  case atStart => exact ⟨0, m0, rfl, rfl, Nat.zero_le _, Nat.zero_le _, HF0.out, H2.out⟩
  case round =>
    obtain ⟨j, m, rfl, rfl, hj, hj80, hfm, hP⟩ := hrel
    clear H2 HF0
    by_cases hlt : j < ops.length ∧ j < 80
    · obtain ⟨hlt, h80⟩ := hlt
      have d1 : decide (j < ops.length) = true := by simp; omega
      have d2 : decide ((j : Int) < 80) = true := by simp; omega
      obtain ⟨b, off, rfl, hb, c0w, c1w⟩ := HO.out j hlt
      obtain ⟨i0, i1⟩ := HI.out j hlt
      generalize ops.getD j (0, 0) = o at *
      obtain ⟨k, t⟩ := o
      dsimp only at c0w c1w i0 i1
      have c0 := (hP.1.cell (p := ⟨b, off + j * 2, none⟩) hb).trans c0w
      have c1 := (hP.1.cell (p := ⟨b, off + j * 2 + 1, none⟩) hb).trans c1w
      have HDo := fun W h => Lib.hid (do_any HK.out m g k t W h hfm i1)
      unfold DoPost at HDo
      have hsc := sum_cases m k t
      obtain ⟨q, hq⟩ : ∃ q, q = doS m k t := ⟨_, rfl⟩
      rw [← hq] at HDo hsc
      have hf' : Fine q.1 := by rw [hq]; exact do_fine hfm k t
      obtain ⟨m', y⟩ := q
      dsimp only at HDo hf' hsc
      have HVa := fun W h => Lib.hid (HK.out.value W g m' h hf')
      have HMo := fun W h => Lib.hid (HK.out.most W g m' h hf')
      have HF' := Lib.hid hf'
      have n0 : (0 : Int) ≤ (j : Int) := by omega
      have n1 : (j : Int) < (ops.length : Int) := by omega
      have HJ := Lib.hid (And.intro hlt h80)
      have HX := Lib.hid (heap_alloc_new wr (.cells #[.int .i64 k, .int .i64 t] 32))
      have H3 := Lib.hid (hs_next HK.out hP ((Below.refl wr.heap.size wr).alloc (Nat.le_refl _) (.cells #[.int .i64 k, .int .i64 t] 32)))
      have hgx : g < wr.heap.size := HK.out.lt _ _ _ hP.2.2
      have HNe : Hid (wr.heap.size ≠ g) := Lib.hid (by omega)
      obtain ⟨v, mm⟩ := m
      obtain ⟨v', mm'⟩ := m'
      unfold Fine at hf' hfm
      dsimp only at hsc hf' hfm HVa HMo
      have HB' := Lib.hid hf'
      have HBm := Lib.hid hfm
      have HSc := Lib.hid hsc
      clear c0w c1w i0 i1 hb hq hf' hfm hP hj hj80 hlt h80 hsc hgx
      go_upto_region 9 with fail
      try simp only [Act.put, List.setIfInBounds_toArray, List.set_cons_zero, List.set_cons_succ]
      clear c0 c1
      generalize wr.alloc (.cells #[.int .i64 k, .int .i64 t] 32) = W3 at *
      generalize wr.heap.size = gb at *
      obtain ⟨c0, c1⟩ := cells2 HX.out
      have D := HDo W3 H3.out.2.2
      go_wp2_with fail
      refine D.out.mono ?_
      rintro _ w4 ⟨rfl, ha4, ho4⟩
      have H4 := Lib.hid (hs_only H3.out ho4 ha4)
      have HX4 := Lib.hid ((ho4.block gb (lt_of_block HX.out) HNe.out).trans HX.out)
      clear ha4 ho4 D HDo H3 HX c0 c1
      obtain ⟨c0, c1⟩ := cells2 HX4.out
      have hh := HB'.out
      rcases HSc.out with ⟨rfl, rfl, rfl⟩ | ⟨rfl, hy, rfl⟩ | ⟨rfl, rfl, rfl⟩ | ⟨rfl, hy, rfl⟩ | ⟨hk0, hk1, rfl⟩
      · have hw : IntKind.i64.wrap (v - t) = v - t := by rw [IntKind.wrap_i64]; omega
        have hw2 : wrap64 (v - t) = v - t := by unfold wrap64; omega
        clear hh
        go_upto_region 16 with fail
        have d5 : decide ((v - t) < 0) = false := decide_eq_false (by have := HB'.out; omega)
        have d6 : decide ((v - t) > mm') = false := decide_eq_false (by have := HB'.out; omega)
        have d7 : decide (mm' < (v - t)) = false := decide_eq_false (by have := HB'.out; omega)
        have qv : ((v - t) != (v - t)) = false := by simp
        have D := HVa w4 H4.out.2.2
        clear c0 c1
        go_wp2_with fail
        refine D.out.mono ?_
        rintro _ w5 ⟨rfl, hb⟩
        have H5 := Lib.hid (hs_next HK.out H4.out hb)
        clear hb D H4
        have D := HMo w5 H5.out.2.2
        go_wp2_with fail
        refine D.out.mono ?_
        rintro _ w6 ⟨rfl, hb⟩
        have H6 := Lib.hid (hs_next HK.out H5.out hb)
        clear hb D H5
        go_wp2_with fail
        exact ⟨⟨j + 1, ⟨(v - t), mm'⟩, rfl, by go_num, by have := HJ.out.1; omega, by have := HJ.out.2; omega, HF'.out, H6.out⟩, by have := HJ.out.1; simp [intOf]; omega⟩
      · have e1 : (y == 1) = false := by rw [beq_eq_false_iff_ne]; exact hy
        clear hh hy
        go_upto_region 16 with fail
        have d5 : decide (v' < 0) = false := decide_eq_false (by have := HB'.out; omega)
        have d6 : decide (v' > mm') = false := decide_eq_false (by have := HB'.out; omega)
        have d7 : decide (mm' < v') = false := decide_eq_false (by have := HB'.out; omega)
        have qv : (v' != v') = false := by simp
        have D := HVa w4 H4.out.2.2
        clear c0 c1
        go_wp2_with fail
        refine D.out.mono ?_
        rintro _ w5 ⟨rfl, hb⟩
        have H5 := Lib.hid (hs_next HK.out H4.out hb)
        clear hb D H4
        have D := HMo w5 H5.out.2.2
        go_wp2_with fail
        refine D.out.mono ?_
        rintro _ w6 ⟨rfl, hb⟩
        have H6 := Lib.hid (hs_next HK.out H5.out hb)
        clear hb D H5
        go_wp2_with fail
        exact ⟨⟨j + 1, ⟨v', mm'⟩, rfl, by go_num, by have := HJ.out.1; omega, by have := HJ.out.2; omega, HF'.out, H6.out⟩, by have := HJ.out.1; simp [intOf]; omega⟩
      · have hw : IntKind.i64.wrap (v + t) = v + t := by rw [IntKind.wrap_i64]; omega
        have hw2 : wrap64 (v + t) = v + t := by unfold wrap64; omega
        clear hh
        go_upto_region 16 with fail
        have d5 : decide ((v + t) < 0) = false := decide_eq_false (by have := HB'.out; omega)
        have d6 : decide ((v + t) > mm') = false := decide_eq_false (by have := HB'.out; omega)
        have d7 : decide (mm' < (v + t)) = false := decide_eq_false (by have := HB'.out; omega)
        have qv : ((v + t) != (v + t)) = false := by simp
        have D := HVa w4 H4.out.2.2
        clear c0 c1
        go_wp2_with fail
        refine D.out.mono ?_
        rintro _ w5 ⟨rfl, hb⟩
        have H5 := Lib.hid (hs_next HK.out H4.out hb)
        clear hb D H4
        have D := HMo w5 H5.out.2.2
        go_wp2_with fail
        refine D.out.mono ?_
        rintro _ w6 ⟨rfl, hb⟩
        have H6 := Lib.hid (hs_next HK.out H5.out hb)
        clear hb D H5
        go_wp2_with fail
        exact ⟨⟨j + 1, ⟨(v + t), mm'⟩, rfl, by go_num, by have := HJ.out.1; omega, by have := HJ.out.2; omega, HF'.out, H6.out⟩, by have := HJ.out.1; simp [intOf]; omega⟩
      · have e1 : (y == 0) = false := by rw [beq_eq_false_iff_ne]; exact hy
        clear hh hy
        go_upto_region 16 with fail
        have d5 : decide (v' < 0) = false := decide_eq_false (by have := HB'.out; omega)
        have d6 : decide (v' > mm') = false := decide_eq_false (by have := HB'.out; omega)
        have d7 : decide (mm' < v') = false := decide_eq_false (by have := HB'.out; omega)
        have qv : (v' != v') = false := by simp
        have D := HVa w4 H4.out.2.2
        clear c0 c1
        go_wp2_with fail
        refine D.out.mono ?_
        rintro _ w5 ⟨rfl, hb⟩
        have H5 := Lib.hid (hs_next HK.out H4.out hb)
        clear hb D H4
        have D := HMo w5 H5.out.2.2
        go_wp2_with fail
        refine D.out.mono ?_
        rintro _ w6 ⟨rfl, hb⟩
        have H6 := Lib.hid (hs_next HK.out H5.out hb)
        clear hb D H5
        go_wp2_with fail
        exact ⟨⟨j + 1, ⟨v', mm'⟩, rfl, by go_num, by have := HJ.out.1; omega, by have := HJ.out.2; omega, HF'.out, H6.out⟩, by have := HJ.out.1; simp [intOf]; omega⟩
      · have e0 : (k == 0) = false := by rw [beq_eq_false_iff_ne]; exact hk0
        have e1 : (k == 1) = false := by rw [beq_eq_false_iff_ne]; exact hk1
        have e2 : (k != 0) = true := by simpa using hk0
        have e3 : (k != 1) = true := by simpa using hk1
        have hw : IntKind.i64.wrap (v + y) = v + y := by rw [IntKind.wrap_i64]; omega
        have hw2 : wrap64 (v + y) = v + y := by unfold wrap64; omega
        clear hh hk0 hk1
        go_upto_region 16 with fail
        have d5 : decide ((v + y) < 0) = false := decide_eq_false (by have := HB'.out; omega)
        have d6 : decide ((v + y) > mm') = false := decide_eq_false (by have := HB'.out; omega)
        have d7 : decide (mm' < (v + y)) = false := decide_eq_false (by have := HB'.out; omega)
        have qv : ((v + y) != (v + y)) = false := by simp
        have D := HVa w4 H4.out.2.2
        clear c0 c1
        go_wp2_with fail
        refine D.out.mono ?_
        rintro _ w5 ⟨rfl, hb⟩
        have H5 := Lib.hid (hs_next HK.out H4.out hb)
        clear hb D H4
        have D := HMo w5 H5.out.2.2
        go_wp2_with fail
        refine D.out.mono ?_
        rintro _ w6 ⟨rfl, hb⟩
        have H6 := Lib.hid (hs_next HK.out H5.out hb)
        clear hb D H5
        go_wp2_with fail
        exact ⟨⟨j + 1, ⟨(v + y), mm'⟩, rfl, by go_num, by have := HJ.out.1; omega, by have := HJ.out.2; omega, HF'.out, H6.out⟩, by have := HJ.out.1; simp [intOf]; omega⟩
    · have HB := Lib.hid hP.1
      clear hP hfm HI HO
      go_wp2_with fail
      all_goals
        refine (HL _).out.mono ?_
        rintro _ w2 ⟨rfl, hb⟩
        go_wp2
        go_ret
        exact ⟨rfl, HB.out.trans (hb.mono HB.out.size)⟩
end Go.Proofs.Ytngfienkbmmhjaa.sem
