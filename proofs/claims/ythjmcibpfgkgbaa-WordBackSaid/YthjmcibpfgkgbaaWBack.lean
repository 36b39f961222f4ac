/-
  What was added, and was no fault, is taken away again; a quotient times the divisor, and the rest, are the dividend: walked over the bundle of what the program's calls come to.
-/
import Derived.Test.YthjmcibpfgkgbaaWWide
namespace Go.Proofs.Ythjmcibpfgkgbaa.word
open Go.RowKit Go.ChangeShapes

theorem tmod_sign {x y : Int} (h : x.tmod y ≠ 0) : (x.tmod y < 0 ∧ x < 0) ∨ (0 < x.tmod y ∧ 0 < x) := by
  rcases Int.lt_trichotomy x 0 with h0 | h0 | h0
  · left
    have e : (-x).tmod y = -(x.tmod y) := Int.neg_tmod _ _
    have := Int.tmod_nonneg y (show 0 ≤ -x by omega)
    omega
  · rw [h0, Int.zero_tmod] at h
    exact absurd rfl h
  · right
    have := Int.tmod_nonneg y (show 0 ≤ x by omega)
    omega
theorem tmod_small {x y : Int} (hy : y ≠ 0) : max (x.tmod y) (-(x.tmod y)) < max y (-y) := by
  have h1 : (x.tmod y).natAbs < y.natAbs := by
    rw [Int.natAbs_tmod]
    exact Nat.mod_lt _ (by omega)
  omega
theorem quot_rest (x y : Int) : x.tdiv y * y + x.tmod y = x := by
  have h := Int.tmod_add_mul_tdiv x y
  rw [Int.mul_comm] at h
  omega
theorem quot_great {x y : Int} (hx : Word x) (hy0 : y ≠ 0) (h : ¬ Word (x.tdiv y)) : x = -2147483648 ∧ y = -1 := by
  have hq := tdiv_bound (b := y) hx
  have h1 : x.tdiv y = 2147483648 := by unfold Word at h; omega
  have h2 : (x.tdiv y).natAbs = x.natAbs / y.natAbs := Int.natAbs_tdiv _ _
  rw [h1] at h2
  have hxa : x.natAbs ≤ 2147483648 := by unfold Word at hx; omega
  have hya : y.natAbs = 1 := by
    rcases (show y.natAbs = 1 ∨ 2 ≤ y.natAbs by omega) with h3 | h3
    · exact h3
    · have h4 : x.natAbs / y.natAbs ≤ x.natAbs / 2 := Nat.div_le_div_left h3 (by omega)
      have h5 : (2147483648 : Int).natAbs = 2147483648 := rfl
      omega
  rw [hya, Nat.div_one] at h2
  have h5 : (2147483648 : Int).natAbs = 2147483648 := rfl
  rcases (show y = 1 ∨ y = -1 by omega) with rfl | rfl
  · rw [Int.tdiv_one] at h1
    unfold Word at hx
    omega
  · unfold Word at hx
    omega

set_option maxRecDepth 100000 in
set_option maxHeartbeats 8000000 in
theorem back_walk (K : Keeps) (a b : Int) (ha : I64 a) (hb : I64 b) (w : World) :
    Calls Try.prog 5 #[.int .i64 a, .int .i64 b] w fun e w' => e = .returned (.bool true) ∧ w = w' := by
  have HLA := Lib.hid (K.low a ha w)
  have HLB := Lib.hid (K.low b hb w)
  have HADD := Lib.hid (K.does 3 a b (by unfold I64; omega) ha hb w)
  have HDIV := Lib.hid (K.does 6 a b (by unfold I64; omega) ha hb w)
  have HMOD := Lib.hid (K.does 7 a b (by unfold I64; omega) ha hb w)
  have HSUB := Lib.hid (fun s (hs : Word s) => K.does 4 s b (by unfold I64; omega) hs.i64 hb w)
  have HL := Lib.hid (lives_any K w)
  have hx := low_word a
  have hy := low_word b
  have HLS := Lib.hid (fun s (hs : Word s) => low_id hs)
  clear ha hb
  generalize low a = x at *
  generalize low b = y at *
  have HA : Hid (doW 3 x y = ex (x + y)) := Lib.hid (by unfold doW; simp)
  rw [HA.out] at HADD
  by_cases hs : Word (x + y)
  · have HSUB1 := Lib.hid (HSUB.out (x + y) hs)
    rw [HLS.out _ hs, show doW 4 (x + y) y = ex (x + y - y) from by unfold doW; simp, show x + y - y = x by omega, ex_yes hx] at HSUB1
    rw [ex_yes hs] at HADD
    unfold two at HSUB1 HADD
    clear HA HSUB HLS hs
    by_cases hy0 : y = 0
    · subst hy0
      have HD : Hid (doW 6 x 0 = (0, 2)) := Lib.hid (by unfold doW; simp)
      have HM : Hid (doW 7 x 0 = (0, 2)) := Lib.hid (by unfold doW; simp)
      rw [HD.out] at HDIV
      rw [HM.out] at HMOD
      unfold two at HDIV HMOD
      simp only [Int.add_zero] at HADD HSUB1
      go_enter Try.func5, Try.ntmps5
      go_wp2_with fail
      refine HLA.out.mono ?_
      rintro e w1 ⟨rfl, rfl⟩
      go_wp2_with fail
      refine HLB.out.mono ?_
      rintro e w1 ⟨rfl, rfl⟩
      go_wp2_with fail
      refine HADD.out.mono ?_
      rintro e w1 ⟨rfl, rfl⟩
      go_wp2_with fail
      refine HSUB1.out.mono ?_
      rintro e w1 ⟨rfl, rfl⟩
      go_wp2_with fail
      refine HDIV.out.mono ?_
      rintro e w1 ⟨rfl, rfl⟩
      go_wp2_with fail
      refine HMOD.out.mono ?_
      rintro e w1 ⟨rfl, rfl⟩
      go_wp2_with fail
      refine HL.out.mono ?_
      rintro e w1 ⟨rfl, rfl⟩
      go_wp2
      go_ret
      exact ⟨rfl, rfl⟩
    · have HD : Hid (doW 6 x y = ex (x.tdiv y)) := Lib.hid (by unfold doW; simp [hy0])
      have HM : Hid (doW 7 x y = (x.tmod y, 0)) := Lib.hid (by unfold doW; simp [hy0])
      rw [HD.out] at HDIV
      rw [HM.out] at HMOD
      by_cases hq : Word (x.tdiv y)
      · rw [ex_yes hq] at HDIV
        unfold two at HDIV HMOD
        have hyn : (y == 0) = false := by simp [hy0]
        have hqb := tdiv_mul_bound (b := y) hx
        have hrw := tmod_word (b := y) hx
        have hsm := tmod_small (x := x) hy0
        have HQR := Lib.hid (quot_rest x y)
        have HSG := Lib.hid (fun h => tmod_sign (x := x) (y := y) h)
        unfold Word at hx hy hq hrw
        clear HD HM
        generalize x.tmod y = r at *
        generalize x.tdiv y = q at *
        rcases (show y < 0 ∨ 0 < y by omega) with hys | hys
        · have my : max y (-y) = -y := by omega
          by_cases hr0 : r = 0
          · subst hr0
            have hlt : (0 : Int) < -y := by omega
            have mr : max (0 : Int) (-0) = 0 := by omega
            clear HSG hsm
            go_enter Try.func5, Try.ntmps5
            go_wp2_with fail
            refine HLA.out.mono ?_
            rintro e w1 ⟨rfl, rfl⟩
            go_wp2_with fail
            refine HLB.out.mono ?_
            rintro e w1 ⟨rfl, rfl⟩
            go_wp2_with fail
            refine HADD.out.mono ?_
            rintro e w1 ⟨rfl, rfl⟩
            go_wp2_with fail
            refine HSUB1.out.mono ?_
            rintro e w1 ⟨rfl, rfl⟩
            go_wp2_with fail
            refine HDIV.out.mono ?_
            rintro e w1 ⟨rfl, rfl⟩
            go_wp2_with fail
            refine HMOD.out.mono ?_
            rintro e w1 ⟨rfl, rfl⟩
            have hqr := HQR.out
            go_wp2_with fail
            refine HL.out.mono ?_
            rintro e w1 ⟨rfl, rfl⟩
            go_wp2
            go_ret
            exact ⟨rfl, rfl⟩
          · have hrn : (r == 0) = false := by simp [hr0]
            rcases HSG.out hr0 with ⟨s1, s2⟩ | ⟨s1, s2⟩
            · have mr : max r (-r) = -r := by omega
              have hlt : -r < -y := by omega
              clear HSG hr0 hsm
              go_enter Try.func5, Try.ntmps5
              go_wp2_with fail
              refine HLA.out.mono ?_
              rintro e w1 ⟨rfl, rfl⟩
              go_wp2_with fail
              refine HLB.out.mono ?_
              rintro e w1 ⟨rfl, rfl⟩
              go_wp2_with fail
              refine HADD.out.mono ?_
              rintro e w1 ⟨rfl, rfl⟩
              go_wp2_with fail
              refine HSUB1.out.mono ?_
              rintro e w1 ⟨rfl, rfl⟩
              go_wp2_with fail
              refine HDIV.out.mono ?_
              rintro e w1 ⟨rfl, rfl⟩
              go_wp2_with fail
              refine HMOD.out.mono ?_
              rintro e w1 ⟨rfl, rfl⟩
              have hqr := HQR.out
              go_wp2_with fail
              refine HL.out.mono ?_
              rintro e w1 ⟨rfl, rfl⟩
              go_wp2
              go_ret
              exact ⟨rfl, rfl⟩
            · have d1 : decide (r < 0) = false := by simp; omega
              have d2 : decide (x < 0) = false := by simp; omega
              have mr : max r (-r) = r := by omega
              have hlt : r < -y := by omega
              clear HSG hr0 hsm
              go_enter Try.func5, Try.ntmps5
              go_wp2_with fail
              refine HLA.out.mono ?_
              rintro e w1 ⟨rfl, rfl⟩
              go_wp2_with fail
              refine HLB.out.mono ?_
              rintro e w1 ⟨rfl, rfl⟩
              go_wp2_with fail
              refine HADD.out.mono ?_
              rintro e w1 ⟨rfl, rfl⟩
              go_wp2_with fail
              refine HSUB1.out.mono ?_
              rintro e w1 ⟨rfl, rfl⟩
              go_wp2_with fail
              refine HDIV.out.mono ?_
              rintro e w1 ⟨rfl, rfl⟩
              go_wp2_with fail
              refine HMOD.out.mono ?_
              rintro e w1 ⟨rfl, rfl⟩
              have hqr := HQR.out
              go_wp2_with fail
              refine HL.out.mono ?_
              rintro e w1 ⟨rfl, rfl⟩
              go_wp2
              go_ret
              exact ⟨rfl, rfl⟩
        · have my : max y (-y) = y := by omega
          by_cases hr0 : r = 0
          · subst hr0
            have hlt : (0 : Int) < y := by omega
            have mr : max (0 : Int) (-0) = 0 := by omega
            clear HSG hsm
            go_enter Try.func5, Try.ntmps5
            go_wp2_with fail
            refine HLA.out.mono ?_
            rintro e w1 ⟨rfl, rfl⟩
            go_wp2_with fail
            refine HLB.out.mono ?_
            rintro e w1 ⟨rfl, rfl⟩
            go_wp2_with fail
            refine HADD.out.mono ?_
            rintro e w1 ⟨rfl, rfl⟩
            go_wp2_with fail
            refine HSUB1.out.mono ?_
            rintro e w1 ⟨rfl, rfl⟩
            go_wp2_with fail
            refine HDIV.out.mono ?_
            rintro e w1 ⟨rfl, rfl⟩
            go_wp2_with fail
            refine HMOD.out.mono ?_
            rintro e w1 ⟨rfl, rfl⟩
            have hqr := HQR.out
            go_wp2_with fail
            refine HL.out.mono ?_
            rintro e w1 ⟨rfl, rfl⟩
            go_wp2
            go_ret
            exact ⟨rfl, rfl⟩
          · have hrn : (r == 0) = false := by simp [hr0]
            rcases HSG.out hr0 with ⟨s1, s2⟩ | ⟨s1, s2⟩
            · have mr : max r (-r) = -r := by omega
              have hlt : -r < y := by omega
              clear HSG hr0 hsm
              go_enter Try.func5, Try.ntmps5
              go_wp2_with fail
              refine HLA.out.mono ?_
              rintro e w1 ⟨rfl, rfl⟩
              go_wp2_with fail
              refine HLB.out.mono ?_
              rintro e w1 ⟨rfl, rfl⟩
              go_wp2_with fail
              refine HADD.out.mono ?_
              rintro e w1 ⟨rfl, rfl⟩
              go_wp2_with fail
              refine HSUB1.out.mono ?_
              rintro e w1 ⟨rfl, rfl⟩
              go_wp2_with fail
              refine HDIV.out.mono ?_
              rintro e w1 ⟨rfl, rfl⟩
              go_wp2_with fail
              refine HMOD.out.mono ?_
              rintro e w1 ⟨rfl, rfl⟩
              have hqr := HQR.out
              go_wp2_with fail
              refine HL.out.mono ?_
              rintro e w1 ⟨rfl, rfl⟩
              go_wp2
              go_ret
              exact ⟨rfl, rfl⟩
            · have d1 : decide (r < 0) = false := by simp; omega
              have d2 : decide (x < 0) = false := by simp; omega
              have mr : max r (-r) = r := by omega
              have hlt : r < y := by omega
              clear HSG hr0 hsm
              go_enter Try.func5, Try.ntmps5
              go_wp2_with fail
              refine HLA.out.mono ?_
              rintro e w1 ⟨rfl, rfl⟩
              go_wp2_with fail
              refine HLB.out.mono ?_
              rintro e w1 ⟨rfl, rfl⟩
              go_wp2_with fail
              refine HADD.out.mono ?_
              rintro e w1 ⟨rfl, rfl⟩
              go_wp2_with fail
              refine HSUB1.out.mono ?_
              rintro e w1 ⟨rfl, rfl⟩
              go_wp2_with fail
              refine HDIV.out.mono ?_
              rintro e w1 ⟨rfl, rfl⟩
              go_wp2_with fail
              refine HMOD.out.mono ?_
              rintro e w1 ⟨rfl, rfl⟩
              have hqr := HQR.out
              go_wp2_with fail
              refine HL.out.mono ?_
              rintro e w1 ⟨rfl, rfl⟩
              go_wp2
              go_ret
              exact ⟨rfl, rfl⟩
      · obtain ⟨rfl, rfl⟩ := quot_great hx hy0 hq
        rw [ex_no hq] at HDIV
        rw [show (-2147483648 : Int).tmod (-1) = 0 from by decide +kernel] at HMOD
        unfold two at HDIV HMOD
        clear HD HM hq hy0
        go_enter Try.func5, Try.ntmps5
        go_wp2_with fail
        refine HLA.out.mono ?_
        rintro e w1 ⟨rfl, rfl⟩
        go_wp2_with fail
        refine HLB.out.mono ?_
        rintro e w1 ⟨rfl, rfl⟩
        go_wp2_with fail
        refine HADD.out.mono ?_
        rintro e w1 ⟨rfl, rfl⟩
        go_wp2_with fail
        refine HSUB1.out.mono ?_
        rintro e w1 ⟨rfl, rfl⟩
        go_wp2_with fail
        refine HDIV.out.mono ?_
        rintro e w1 ⟨rfl, rfl⟩
        go_wp2_with fail
        refine HMOD.out.mono ?_
        rintro e w1 ⟨rfl, rfl⟩
        go_wp2_with fail
        refine HL.out.mono ?_
        rintro e w1 ⟨rfl, rfl⟩
        go_wp2
        go_ret
        exact ⟨rfl, rfl⟩
  · rw [ex_no hs] at HADD
    unfold two at HADD
    clear HA HSUB HLS hs
    by_cases hy0 : y = 0
    · subst hy0
      have HD : Hid (doW 6 x 0 = (0, 2)) := Lib.hid (by unfold doW; simp)
      have HM : Hid (doW 7 x 0 = (0, 2)) := Lib.hid (by unfold doW; simp)
      rw [HD.out] at HDIV
      rw [HM.out] at HMOD
      unfold two at HDIV HMOD
      go_enter Try.func5, Try.ntmps5
      go_wp2_with fail
      refine HLA.out.mono ?_
      rintro e w1 ⟨rfl, rfl⟩
      go_wp2_with fail
      refine HLB.out.mono ?_
      rintro e w1 ⟨rfl, rfl⟩
      go_wp2_with fail
      refine HADD.out.mono ?_
      rintro e w1 ⟨rfl, rfl⟩
      go_wp2_with fail
      refine HDIV.out.mono ?_
      rintro e w1 ⟨rfl, rfl⟩
      go_wp2_with fail
      refine HMOD.out.mono ?_
      rintro e w1 ⟨rfl, rfl⟩
      go_wp2_with fail
      refine HL.out.mono ?_
      rintro e w1 ⟨rfl, rfl⟩
      go_wp2
      go_ret
      exact ⟨rfl, rfl⟩
    · have HD : Hid (doW 6 x y = ex (x.tdiv y)) := Lib.hid (by unfold doW; simp [hy0])
      have HM : Hid (doW 7 x y = (x.tmod y, 0)) := Lib.hid (by unfold doW; simp [hy0])
      rw [HD.out] at HDIV
      rw [HM.out] at HMOD
      by_cases hq : Word (x.tdiv y)
      · rw [ex_yes hq] at HDIV
        unfold two at HDIV HMOD
        have hyn : (y == 0) = false := by simp [hy0]
        have hqb := tdiv_mul_bound (b := y) hx
        have hrw := tmod_word (b := y) hx
        have hsm := tmod_small (x := x) hy0
        have HQR := Lib.hid (quot_rest x y)
        have HSG := Lib.hid (fun h => tmod_sign (x := x) (y := y) h)
        unfold Word at hx hy hq hrw
        clear HD HM
        generalize x.tmod y = r at *
        generalize x.tdiv y = q at *
        rcases (show y < 0 ∨ 0 < y by omega) with hys | hys
        · have my : max y (-y) = -y := by omega
          by_cases hr0 : r = 0
          · subst hr0
            have hlt : (0 : Int) < -y := by omega
            have mr : max (0 : Int) (-0) = 0 := by omega
            clear HSG hsm
            go_enter Try.func5, Try.ntmps5
            go_wp2_with fail
            refine HLA.out.mono ?_
            rintro e w1 ⟨rfl, rfl⟩
            go_wp2_with fail
            refine HLB.out.mono ?_
            rintro e w1 ⟨rfl, rfl⟩
            go_wp2_with fail
            refine HADD.out.mono ?_
            rintro e w1 ⟨rfl, rfl⟩
            go_wp2_with fail
            refine HDIV.out.mono ?_
            rintro e w1 ⟨rfl, rfl⟩
            go_wp2_with fail
            refine HMOD.out.mono ?_
            rintro e w1 ⟨rfl, rfl⟩
            have hqr := HQR.out
            go_wp2_with fail
            refine HL.out.mono ?_
            rintro e w1 ⟨rfl, rfl⟩
            go_wp2
            go_ret
            exact ⟨rfl, rfl⟩
          · have hrn : (r == 0) = false := by simp [hr0]
            rcases HSG.out hr0 with ⟨s1, s2⟩ | ⟨s1, s2⟩
            · have mr : max r (-r) = -r := by omega
              have hlt : -r < -y := by omega
              clear HSG hr0 hsm
              go_enter Try.func5, Try.ntmps5
              go_wp2_with fail
              refine HLA.out.mono ?_
              rintro e w1 ⟨rfl, rfl⟩
              go_wp2_with fail
              refine HLB.out.mono ?_
              rintro e w1 ⟨rfl, rfl⟩
              go_wp2_with fail
              refine HADD.out.mono ?_
              rintro e w1 ⟨rfl, rfl⟩
              go_wp2_with fail
              refine HDIV.out.mono ?_
              rintro e w1 ⟨rfl, rfl⟩
              go_wp2_with fail
              refine HMOD.out.mono ?_
              rintro e w1 ⟨rfl, rfl⟩
              have hqr := HQR.out
              go_wp2_with fail
              refine HL.out.mono ?_
              rintro e w1 ⟨rfl, rfl⟩
              go_wp2
              go_ret
              exact ⟨rfl, rfl⟩
            · have d1 : decide (r < 0) = false := by simp; omega
              have d2 : decide (x < 0) = false := by simp; omega
              have mr : max r (-r) = r := by omega
              have hlt : r < -y := by omega
              clear HSG hr0 hsm
              go_enter Try.func5, Try.ntmps5
              go_wp2_with fail
              refine HLA.out.mono ?_
              rintro e w1 ⟨rfl, rfl⟩
              go_wp2_with fail
              refine HLB.out.mono ?_
              rintro e w1 ⟨rfl, rfl⟩
              go_wp2_with fail
              refine HADD.out.mono ?_
              rintro e w1 ⟨rfl, rfl⟩
              go_wp2_with fail
              refine HDIV.out.mono ?_
              rintro e w1 ⟨rfl, rfl⟩
              go_wp2_with fail
              refine HMOD.out.mono ?_
              rintro e w1 ⟨rfl, rfl⟩
              have hqr := HQR.out
              go_wp2_with fail
              refine HL.out.mono ?_
              rintro e w1 ⟨rfl, rfl⟩
              go_wp2
              go_ret
              exact ⟨rfl, rfl⟩
        · have my : max y (-y) = y := by omega
          by_cases hr0 : r = 0
          · subst hr0
            have hlt : (0 : Int) < y := by omega
            have mr : max (0 : Int) (-0) = 0 := by omega
            clear HSG hsm
            go_enter Try.func5, Try.ntmps5
            go_wp2_with fail
            refine HLA.out.mono ?_
            rintro e w1 ⟨rfl, rfl⟩
            go_wp2_with fail
            refine HLB.out.mono ?_
            rintro e w1 ⟨rfl, rfl⟩
            go_wp2_with fail
            refine HADD.out.mono ?_
            rintro e w1 ⟨rfl, rfl⟩
            go_wp2_with fail
            refine HDIV.out.mono ?_
            rintro e w1 ⟨rfl, rfl⟩
            go_wp2_with fail
            refine HMOD.out.mono ?_
            rintro e w1 ⟨rfl, rfl⟩
            have hqr := HQR.out
            go_wp2_with fail
            refine HL.out.mono ?_
            rintro e w1 ⟨rfl, rfl⟩
            go_wp2
            go_ret
            exact ⟨rfl, rfl⟩
          · have hrn : (r == 0) = false := by simp [hr0]
            rcases HSG.out hr0 with ⟨s1, s2⟩ | ⟨s1, s2⟩
            · have mr : max r (-r) = -r := by omega
              have hlt : -r < y := by omega
              clear HSG hr0 hsm
              go_enter Try.func5, Try.ntmps5
              go_wp2_with fail
              refine HLA.out.mono ?_
              rintro e w1 ⟨rfl, rfl⟩
              go_wp2_with fail
              refine HLB.out.mono ?_
              rintro e w1 ⟨rfl, rfl⟩
              go_wp2_with fail
              refine HADD.out.mono ?_
              rintro e w1 ⟨rfl, rfl⟩
              go_wp2_with fail
              refine HDIV.out.mono ?_
              rintro e w1 ⟨rfl, rfl⟩
              go_wp2_with fail
              refine HMOD.out.mono ?_
              rintro e w1 ⟨rfl, rfl⟩
              have hqr := HQR.out
              go_wp2_with fail
              refine HL.out.mono ?_
              rintro e w1 ⟨rfl, rfl⟩
              go_wp2
              go_ret
              exact ⟨rfl, rfl⟩
            · have d1 : decide (r < 0) = false := by simp; omega
              have d2 : decide (x < 0) = false := by simp; omega
              have mr : max r (-r) = r := by omega
              have hlt : r < y := by omega
              clear HSG hr0 hsm
              go_enter Try.func5, Try.ntmps5
              go_wp2_with fail
              refine HLA.out.mono ?_
              rintro e w1 ⟨rfl, rfl⟩
              go_wp2_with fail
              refine HLB.out.mono ?_
              rintro e w1 ⟨rfl, rfl⟩
              go_wp2_with fail
              refine HADD.out.mono ?_
              rintro e w1 ⟨rfl, rfl⟩
              go_wp2_with fail
              refine HDIV.out.mono ?_
              rintro e w1 ⟨rfl, rfl⟩
              go_wp2_with fail
              refine HMOD.out.mono ?_
              rintro e w1 ⟨rfl, rfl⟩
              have hqr := HQR.out
              go_wp2_with fail
              refine HL.out.mono ?_
              rintro e w1 ⟨rfl, rfl⟩
              go_wp2
              go_ret
              exact ⟨rfl, rfl⟩
      · obtain ⟨rfl, rfl⟩ := quot_great hx hy0 hq
        rw [ex_no hq] at HDIV
        rw [show (-2147483648 : Int).tmod (-1) = 0 from by decide +kernel] at HMOD
        unfold two at HDIV HMOD
        clear HD HM hq hy0
        go_enter Try.func5, Try.ntmps5
        go_wp2_with fail
        refine HLA.out.mono ?_
        rintro e w1 ⟨rfl, rfl⟩
        go_wp2_with fail
        refine HLB.out.mono ?_
        rintro e w1 ⟨rfl, rfl⟩
        go_wp2_with fail
        refine HADD.out.mono ?_
        rintro e w1 ⟨rfl, rfl⟩
        go_wp2_with fail
        refine HDIV.out.mono ?_
        rintro e w1 ⟨rfl, rfl⟩
        go_wp2_with fail
        refine HMOD.out.mono ?_
        rintro e w1 ⟨rfl, rfl⟩
        go_wp2_with fail
        refine HL.out.mono ?_
        rintro e w1 ⟨rfl, rfl⟩
        go_wp2
        go_ret
        exact ⟨rfl, rfl⟩
end Go.Proofs.Ythjmcibpfgkgbaa.word
