/-
  The document's own answers of words that are moved, and of operations and products. No condition.
-/
import Derived.Test.YthjmcibpfgkgbaaWRef
namespace Go.Proofs.Ythjmcibpfgkgbaa.word
open Go.RowKit Go.ChangeShapes

theorem far_neg {b : Int} (h : b.tmod 32 < 0) : b.tmod 32 + 32 = (far b : Int) := by
  unfold far
  by_cases h0 : 0 ≤ b
  · rw [tmod_pos h0] at h; omega
  · rw [tmod_neg (by omega)] at h ⊢; omega
theorem far_pos {b : Int} (h : ¬ b.tmod 32 < 0) : b.tmod 32 = (far b : Int) := by
  unfold far
  by_cases h0 : 0 ≤ b
  · rw [tmod_pos h0]; omega
  · rw [tmod_neg (by omega)] at h ⊢; omega
theorem far_range (b : Int) : -32 < b.tmod 32 ∧ b.tmod 32 < 32 := by
  by_cases h0 : 0 ≤ b
  · rw [tmod_pos h0]; omega
  · rw [tmod_neg (by omega)]; omega

set_option maxHeartbeats 2000000 in
theorem refUp_any (a : Int) (ha : Word a) (b : Int) (w : World) :
    Calls Try.prog 24 #[.int .i64 14, .int .i64 a, .int .i64 b] w fun e w' => e = .returned (.int .i64 (low (a * 2 ^ far b))) ∧ w = w' := by
  have H0 : Hid (a = low (a * 2 ^ 0)) := Lib.hid (by rw [Int.pow_zero, Int.mul_one, low_id ha])
  have hr := far_range b
  have hk := far_lt b
  by_cases hneg : b.tmod 32 < 0
  · have HK := Lib.hid (far_neg hneg)
    generalize far b = k at *
    go_enter Try.func24, Try.ntmps24
    go_wp2
    rw [HK.out]
    clear hneg hr HK
    go_loop [1, 8] (fun t i => ∃ (j : Nat) (x : Int), i = .int .i64 (j : Int) ∧ t = .int .i64 x ∧ j ≤ k ∧ (-2147483648 ≤ x ∧ x ≤ 2147483647) ∧ Hid (x = low (a * 2 ^ j))) (fun _ i => k - (intOf i).toNat)
    case atStart => exact ⟨0, a, rfl, rfl, by omega, ha, H0⟩
    case round =>
      obtain ⟨j, x, rfl, rfl, hj, hx, HE⟩ := hrel
      by_cases hlt : j < k
      · have hl := low_word (2 * x)
        unfold Word at hl
        go_wp2_with fail
        refine (refLow_any _ _).mono ?_
        rintro e w1 ⟨rfl, rfl⟩
        go_wp2
        go_round
        case rel => exact ⟨j + 1, low (2 * x), by go_num, rfl, by omega, hl, Lib.hid (by rw [HE.out, low_double])⟩
        case measure => simp [intOf]; omega
      · obtain rfl : j = k := by omega
        go_wp2
        go_ret
        exact ⟨ret_int HE.out, rfl⟩
  · have HK := Lib.hid (far_pos hneg)
    generalize far b = k at *
    go_enter Try.func24, Try.ntmps24
    go_wp2
    rw [HK.out]
    clear hneg hr HK
    go_loop [1, 8] (fun t i => ∃ (j : Nat) (x : Int), i = .int .i64 (j : Int) ∧ t = .int .i64 x ∧ j ≤ k ∧ (-2147483648 ≤ x ∧ x ≤ 2147483647) ∧ Hid (x = low (a * 2 ^ j))) (fun _ i => k - (intOf i).toNat)
    case atStart => exact ⟨0, a, rfl, rfl, by omega, ha, H0⟩
    case round =>
      obtain ⟨j, x, rfl, rfl, hj, hx, HE⟩ := hrel
      by_cases hlt : j < k
      · have hl := low_word (2 * x)
        unfold Word at hl
        go_wp2_with fail
        refine (refLow_any _ _).mono ?_
        rintro e w1 ⟨rfl, rfl⟩
        go_wp2
        go_round
        case rel => exact ⟨j + 1, low (2 * x), by go_num, rfl, by omega, hl, Lib.hid (by rw [HE.out, low_double])⟩
        case measure => simp [intOf]; omega
      · obtain rfl : j = k := by omega
        go_wp2
        go_ret
        exact ⟨ret_int HE.out, rfl⟩

set_option maxHeartbeats 2000000 in
theorem refDown_any (a : Int) (ha : Word a) (b : Int) (w : World) :
    Calls Try.prog 24 #[.int .i64 15, .int .i64 a, .int .i64 b] w fun e w' => e = .returned (.int .i64 (a / 2 ^ far b)) ∧ w = w' := by
  have H0 : Hid (a = a / 2 ^ 0) := Lib.hid (by rw [Int.pow_zero, Int.ediv_one])
  have hr := far_range b
  have hk := far_lt b
  by_cases hneg : b.tmod 32 < 0
  · have HK := Lib.hid (far_neg hneg)
    generalize far b = k at *
    go_enter Try.func24, Try.ntmps24
    go_wp2
    rw [HK.out]
    clear hneg hr HK
    go_loop [1, 8] (fun t i => ∃ (j : Nat) (x : Int), i = .int .i64 (j : Int) ∧ t = .int .i64 x ∧ j ≤ k ∧ (-2147483648 ≤ x ∧ x ≤ 2147483647) ∧ Hid (x = a / 2 ^ j)) (fun _ i => k - (intOf i).toNat)
    case atStart => exact ⟨0, a, rfl, rfl, by omega, ha, H0⟩
    case round =>
      obtain ⟨j, x, rfl, rfl, hj, hx, HE⟩ := hrel
      by_cases hlt : j < k
      · have HS : Hid (x / 2 = a / 2 ^ (j + 1)) := Lib.hid (by rw [HE.out, half_step])
        by_cases h0 : x < 0
        · have HD := Lib.hid (half_neg h0)
          go_wp2
          go_round
          case rel => exact ⟨j + 1, x / 2, by go_num, by rw [HD.out], by omega, by omega, HS⟩
          case measure => simp [intOf]; omega
        · have HD := Lib.hid (half_pos h0)
          go_wp2
          go_round
          case rel => exact ⟨j + 1, x / 2, by go_num, by first | rfl | rw [HD.out], by omega, by omega, HS⟩
          case measure => simp [intOf]; omega
      · obtain rfl : j = k := by omega
        go_wp2
        go_ret
        exact ⟨ret_int HE.out, rfl⟩
  · have HK := Lib.hid (far_pos hneg)
    generalize far b = k at *
    go_enter Try.func24, Try.ntmps24
    go_wp2
    rw [HK.out]
    clear hneg hr HK
    go_loop [1, 8] (fun t i => ∃ (j : Nat) (x : Int), i = .int .i64 (j : Int) ∧ t = .int .i64 x ∧ j ≤ k ∧ (-2147483648 ≤ x ∧ x ≤ 2147483647) ∧ Hid (x = a / 2 ^ j)) (fun _ i => k - (intOf i).toNat)
    case atStart => exact ⟨0, a, rfl, rfl, by omega, ha, H0⟩
    case round =>
      obtain ⟨j, x, rfl, rfl, hj, hx, HE⟩ := hrel
      by_cases hlt : j < k
      · have HS : Hid (x / 2 = a / 2 ^ (j + 1)) := Lib.hid (by rw [HE.out, half_step])
        by_cases h0 : x < 0
        · have HD := Lib.hid (half_neg h0)
          go_wp2
          go_round
          case rel => exact ⟨j + 1, x / 2, by go_num, by rw [HD.out], by omega, by omega, HS⟩
          case measure => simp [intOf]; omega
        · have HD := Lib.hid (half_pos h0)
          go_wp2
          go_round
          case rel => exact ⟨j + 1, x / 2, by go_num, by first | rfl | rw [HD.out], by omega, by omega, HS⟩
          case measure => simp [intOf]; omega
      · obtain rfl : j = k := by omega
        go_wp2
        go_ret
        exact ⟨ret_int HE.out, rfl⟩

theorem mod_eq (a b : Int) : a - a.tdiv b * b = a.tmod b := by
  have h := Int.tmod_add_mul_tdiv a b
  rw [Int.mul_comm] at h
  omega
theorem tdiv_bound {a b : Int} (ha : Word a) : -2147483648 ≤ a.tdiv b ∧ a.tdiv b ≤ 2147483648 := by
  have h1 : (a.tdiv b).natAbs ≤ a.natAbs := by
    rw [Int.natAbs_tdiv]
    exact Nat.div_le_self _ _
  unfold Word at ha
  omega
theorem tdiv_mul_bound {a b : Int} (ha : Word a) : -4294967296 ≤ a.tdiv b * b ∧ a.tdiv b * b ≤ 4294967296 := by
  have h1 := mod_eq a b
  have h2 := tmod_word (b := b) ha
  unfold Word at *
  omega

set_option maxHeartbeats 4000000 in
theorem refDo_any (op a b : Int) (w : World) :
    Calls Try.prog 9 #[.int .i64 op, .int .i64 a, .int .i64 b] w fun e w' => e = .returned (two (doW op (low a) (low b))) ∧ w = w' := by
  have ha := low_word a
  have hb := low_word b
  have HLA := Lib.hid (fun u : World => refLow_any a u)
  have HLB := Lib.hid (fun u : World => refLow_any b u)
  generalize low a = x at *
  generalize low b = y at *
  by_cases h3 : op = 3
  · subst h3
    have HD : Hid (doW 3 x y = ex (x + y)) := Lib.hid (by unfold doW; simp)
    rw [HD.out]
    unfold Word at ha hb
    go_enter Try.func9, Try.ntmps9
    go_wp2_with fail
    refine (HLA.out _).mono ?_
    rintro e w1 ⟨rfl, rfl⟩
    go_wp2_with fail
    refine (HLB.out _).mono ?_
    rintro e w1 ⟨rfl, rfl⟩
    go_wp2_with fail
    refine (refExact_any _ _).mono ?_
    rintro e w1 ⟨rfl, rfl⟩
    unfold two
    go_wp2
    go_ret2
    exact ⟨rfl, rfl⟩

  by_cases h4 : op = 4
  · subst h4
    have HD : Hid (doW 4 x y = ex (x - y)) := Lib.hid (by unfold doW; simp)
    rw [HD.out]
    unfold Word at ha hb
    go_enter Try.func9, Try.ntmps9
    go_wp2_with fail
    refine (HLA.out _).mono ?_
    rintro e w1 ⟨rfl, rfl⟩
    go_wp2_with fail
    refine (HLB.out _).mono ?_
    rintro e w1 ⟨rfl, rfl⟩
    go_wp2_with fail
    refine (refExact_any _ _).mono ?_
    rintro e w1 ⟨rfl, rfl⟩
    unfold two
    go_wp2
    go_ret2
    exact ⟨rfl, rfl⟩

  by_cases h5 : op = 5
  · subst h5
    have HD : Hid (doW 5 x y = ex (x * y)) := Lib.hid (by unfold doW; simp)
    rw [HD.out]
    have hm := mul_bound ha hb
    unfold Word at ha hb
    go_enter Try.func9, Try.ntmps9
    go_wp2_with fail
    refine (HLA.out _).mono ?_
    rintro e w1 ⟨rfl, rfl⟩
    go_wp2_with fail
    refine (HLB.out _).mono ?_
    rintro e w1 ⟨rfl, rfl⟩
    go_wp2_with fail
    refine (refExact_any _ _).mono ?_
    rintro e w1 ⟨rfl, rfl⟩
    unfold two
    go_wp2
    go_ret2
    exact ⟨rfl, rfl⟩

  by_cases h6 : op = 6
  · subst h6
    by_cases hy0 : y = 0
    · subst hy0
      have HD : Hid (doW 6 x 0 = (0, 2)) := Lib.hid (by unfold doW; simp)
      rw [HD.out]
      unfold two
      go_enter Try.func9, Try.ntmps9
      go_wp2_with fail
      refine (HLA.out _).mono ?_
      rintro e w1 ⟨rfl, rfl⟩
      go_wp2_with fail
      refine (HLB.out _).mono ?_
      rintro e w1 ⟨rfl, rfl⟩
      go_wp2
      go_ret2
      exact ⟨rfl, rfl⟩
    · have hyn : (y == 0) = false := by simp [hy0]
      have HD : Hid (doW 6 x y = ex (x.tdiv y)) := Lib.hid (by unfold doW; simp [hy0])
      rw [HD.out]
      have hq := tdiv_bound (b := y) ha
      unfold Word at ha hb
      go_enter Try.func9, Try.ntmps9
      go_wp2_with fail
      refine (HLA.out _).mono ?_
      rintro e w1 ⟨rfl, rfl⟩
      go_wp2_with fail
      refine (HLB.out _).mono ?_
      rintro e w1 ⟨rfl, rfl⟩
      go_wp2_with fail
      refine (refExact_any _ _).mono ?_
      rintro e w1 ⟨rfl, rfl⟩
      unfold two
      go_wp2
      go_ret2
      exact ⟨rfl, rfl⟩

  by_cases h7 : op = 7
  · subst h7
    by_cases hy0 : y = 0
    · subst hy0
      have HD : Hid (doW 7 x 0 = (0, 2)) := Lib.hid (by unfold doW; simp)
      rw [HD.out]
      unfold two
      go_enter Try.func9, Try.ntmps9
      go_wp2_with fail
      refine (HLA.out _).mono ?_
      rintro e w1 ⟨rfl, rfl⟩
      go_wp2_with fail
      refine (HLB.out _).mono ?_
      rintro e w1 ⟨rfl, rfl⟩
      go_wp2
      go_ret2
      exact ⟨rfl, rfl⟩
    · have hyn : (y == 0) = false := by simp [hy0]
      have HD : Hid (doW 7 x y = (x.tmod y, 0)) := Lib.hid (by unfold doW; simp [hy0])
      rw [HD.out]
      have hq := tdiv_bound (b := y) ha
      have hqb := tdiv_mul_bound (b := y) ha
      have HM := Lib.hid (mod_eq x y)
      unfold Word at ha hb
      unfold two
      go_enter Try.func9, Try.ntmps9
      go_wp2_with fail
      refine (HLA.out _).mono ?_
      rintro e w1 ⟨rfl, rfl⟩
      go_wp2_with fail
      refine (HLB.out _).mono ?_
      rintro e w1 ⟨rfl, rfl⟩
      go_wp2
      go_ret2
      exact ⟨by rw [← HM.out]; rfl, rfl⟩

  by_cases h8 : op = 8
  · subst h8
    have HD : Hid (doW 8 x y = ex (-x)) := Lib.hid (by unfold doW; simp)
    rw [HD.out]
    unfold Word at ha hb
    go_enter Try.func9, Try.ntmps9
    go_wp2_with fail
    refine (HLA.out _).mono ?_
    rintro e w1 ⟨rfl, rfl⟩
    go_wp2_with fail
    refine (HLB.out _).mono ?_
    rintro e w1 ⟨rfl, rfl⟩
    go_wp2_with fail
    refine (refExact_any _ _).mono ?_
    rintro e w1 ⟨rfl, rfl⟩
    unfold two
    go_wp2
    go_ret2
    exact ⟨rfl, rfl⟩

  by_cases h9 : op = 9
  · subst h9
    by_cases h : x < y
    · have HD : Hid (doW 9 x y = (1, 0)) := Lib.hid (by unfold doW; simp [h])
      rw [HD.out]
      unfold two
      go_enter Try.func9, Try.ntmps9
      go_wp2_with fail
      refine (HLA.out _).mono ?_
      rintro e w1 ⟨rfl, rfl⟩
      go_wp2_with fail
      refine (HLB.out _).mono ?_
      rintro e w1 ⟨rfl, rfl⟩
      go_wp2
      go_ret2
      exact ⟨rfl, rfl⟩
    · have HD : Hid (doW 9 x y = (0, 0)) := Lib.hid (by unfold doW; simp [h])
      rw [HD.out]
      have hd : decide (x < y) = false := by simpa using h
      unfold two
      go_enter Try.func9, Try.ntmps9
      go_wp2_with fail
      refine (HLA.out _).mono ?_
      rintro e w1 ⟨rfl, rfl⟩
      go_wp2_with fail
      refine (HLB.out _).mono ?_
      rintro e w1 ⟨rfl, rfl⟩
      go_wp2
      go_ret2
      exact ⟨rfl, rfl⟩

  by_cases h10 : op = 10
  · subst h10
    by_cases h : x = y
    · subst h
      have HD : Hid (doW 10 x x = (1, 0)) := Lib.hid (by unfold doW; simp)
      rw [HD.out]
      unfold two
      go_enter Try.func9, Try.ntmps9
      go_wp2_with fail
      refine (HLA.out _).mono ?_
      rintro e w1 ⟨rfl, rfl⟩
      go_wp2_with fail
      refine (HLB.out _).mono ?_
      rintro e w1 ⟨rfl, rfl⟩
      go_wp2
      go_ret2
      exact ⟨rfl, rfl⟩
    · have HD : Hid (doW 10 x y = (0, 0)) := Lib.hid (by unfold doW; simp [h])
      rw [HD.out]
      have hd : (x == y) = false := by simp [h]
      unfold two
      go_enter Try.func9, Try.ntmps9
      go_wp2_with fail
      refine (HLA.out _).mono ?_
      rintro e w1 ⟨rfl, rfl⟩
      go_wp2_with fail
      refine (HLB.out _).mono ?_
      rintro e w1 ⟨rfl, rfl⟩
      go_wp2
      go_ret2
      exact ⟨rfl, rfl⟩

  by_cases h11 : op = 11
  · subst h11
    have HD : Hid (doW 11 x y = (low (bitop 11 (un x) (un y) : Nat), 0)) := Lib.hid (by unfold doW; simp)
    rw [HD.out]
    unfold two
    go_enter Try.func9, Try.ntmps9
    go_wp2_with fail
    refine (HLA.out _).mono ?_
    rintro e w1 ⟨rfl, rfl⟩
    go_wp2_with fail
    refine (HLB.out _).mono ?_
    rintro e w1 ⟨rfl, rfl⟩
    go_wp2_with fail
    refine (refBits_any 11 (by omega) x y ha hb _).mono ?_
    rintro e w1 ⟨rfl, rfl⟩
    go_wp2
    go_ret2
    exact ⟨rfl, rfl⟩

  by_cases h12 : op = 12
  · subst h12
    have HD : Hid (doW 12 x y = (low (bitop 12 (un x) (un y) : Nat), 0)) := Lib.hid (by unfold doW; simp)
    rw [HD.out]
    unfold two
    go_enter Try.func9, Try.ntmps9
    go_wp2_with fail
    refine (HLA.out _).mono ?_
    rintro e w1 ⟨rfl, rfl⟩
    go_wp2_with fail
    refine (HLB.out _).mono ?_
    rintro e w1 ⟨rfl, rfl⟩
    go_wp2_with fail
    refine (refBits_any 12 (by omega) x y ha hb _).mono ?_
    rintro e w1 ⟨rfl, rfl⟩
    go_wp2
    go_ret2
    exact ⟨rfl, rfl⟩

  by_cases h13 : op = 13
  · subst h13
    have HD : Hid (doW 13 x y = (low (bitop 13 (un x) (un y) : Nat), 0)) := Lib.hid (by unfold doW; simp)
    rw [HD.out]
    unfold two
    go_enter Try.func9, Try.ntmps9
    go_wp2_with fail
    refine (HLA.out _).mono ?_
    rintro e w1 ⟨rfl, rfl⟩
    go_wp2_with fail
    refine (HLB.out _).mono ?_
    rintro e w1 ⟨rfl, rfl⟩
    go_wp2_with fail
    refine (refBits_any 13 (by omega) x y ha hb _).mono ?_
    rintro e w1 ⟨rfl, rfl⟩
    go_wp2
    go_ret2
    exact ⟨rfl, rfl⟩

  by_cases h14 : op = 14
  · subst h14
    have HD : Hid (doW 14 x y = (low (x * 2 ^ far y), 0)) := Lib.hid (by unfold doW; simp)
    rw [HD.out]
    unfold two
    go_enter Try.func9, Try.ntmps9
    go_wp2_with fail
    refine (HLA.out _).mono ?_
    rintro e w1 ⟨rfl, rfl⟩
    go_wp2_with fail
    refine (HLB.out _).mono ?_
    rintro e w1 ⟨rfl, rfl⟩
    go_wp2_with fail
    refine (refUp_any x ha y _).mono ?_
    rintro e w1 ⟨rfl, rfl⟩
    go_wp2
    go_ret2
    exact ⟨rfl, rfl⟩

  by_cases h15 : op = 15
  · subst h15
    have HD : Hid (doW 15 x y = (x / 2 ^ far y, 0)) := Lib.hid (by unfold doW; simp)
    rw [HD.out]
    unfold two
    go_enter Try.func9, Try.ntmps9
    go_wp2_with fail
    refine (HLA.out _).mono ?_
    rintro e w1 ⟨rfl, rfl⟩
    go_wp2_with fail
    refine (HLB.out _).mono ?_
    rintro e w1 ⟨rfl, rfl⟩
    go_wp2_with fail
    refine (refDown_any x ha y _).mono ?_
    rintro e w1 ⟨rfl, rfl⟩
    go_wp2
    go_ret2
    exact ⟨rfl, rfl⟩

  have HD : Hid (doW op x y = (0, 0)) := Lib.hid (by unfold doW; simp [h3, h4, h5, h6, h7, h8, h9, h10, h11, h12, h13, h14, h15])
  rw [HD.out]
  have n3 : (op == 3) = false := by simp [h3]
  have n4 : (op == 4) = false := by simp [h4]
  have n5 : (op == 5) = false := by simp [h5]
  have n6 : (op == 6) = false := by simp [h6]
  have n7 : (op == 7) = false := by simp [h7]
  have n8 : (op == 8) = false := by simp [h8]
  have n9 : (op == 9) = false := by simp [h9]
  have n10 : (op == 10) = false := by simp [h10]
  have n11 : (op == 11) = false := by simp [h11]
  have n12 : (op == 12) = false := by simp [h12]
  have n13 : (op == 13) = false := by simp [h13]
  have n14 : (op == 14) = false := by simp [h14]
  have n15 : (op == 15) = false := by simp [h15]
  unfold two
  clear h3 h4 h5 h6 h7 h8 h9 h10 h11 h12 h13 h14 h15
  go_enter Try.func9, Try.ntmps9
  go_wp2_with fail
  refine (HLA.out _).mono ?_
  rintro e w1 ⟨rfl, rfl⟩
  go_wp2_with fail
  refine (HLB.out _).mono ?_
  rintro e w1 ⟨rfl, rfl⟩
  go_wp2
  go_ret2
  exact ⟨rfl, rfl⟩
end Go.Proofs.Ythjmcibpfgkgbaa.word
