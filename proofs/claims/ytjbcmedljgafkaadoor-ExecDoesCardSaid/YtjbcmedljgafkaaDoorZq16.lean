/-
  Texts of one claim in one file: WRefDo, FRefSame. Each has its own sentence, with its conditions.
-/
import Derived.Test.YtjbcmedljgafkaaDoorZq2
import Derived.Test.YtjbcmedljgafkaaDoorZq12
import Derived.Test.YtjbcmedljgafkaaDoorZq10
import Derived.BigQuiet
import Derived.Great.Frames
import Derived.Deep.QuietTactic
/-
  The document's own answers of words that are moved, and of operations and products. No condition.
-/

namespace Go.Proofs.YtjbcmedljgafkaaDoor.word
open Go.RowKit Go.ChangeShapes

theorem far_neg {b : Int} (h : b.tmod 32 < 0) : b.tmod 32 + 32 = (far b : Int) := by
  unfold far
  by_cases h0 : 0 ≤ b
  · rw [tmod_pos h0] at h; omega
  · rw [tmod_neg (by omega)] at h ⊢; omega
theorem far_pos {b : Int} (h : ¬ b.tmod 32 < 0) : b.tmod 32 = (far b : Int) := by
  unfold far
  by_cases h0 : 0 ≤ b
  · rw [tmod_pos h0]; omega
  · rw [tmod_neg (by omega)] at h ⊢; omega
theorem far_range (b : Int) : -32 < b.tmod 32 ∧ b.tmod 32 < 32 := by
  by_cases h0 : 0 ≤ b
  · rw [tmod_pos h0]; omega
  · rw [tmod_neg (by omega)]; omega

set_option maxHeartbeats 2000000 in
theorem refUp_any (a : Int) (ha : Word a) (b : Int) (w : World) :
    Calls Tryd.prog 51 #[.int .i64 14, .int .i64 a, .int .i64 b] w fun e w' => e = .returned (.int .i64 (low (a * 2 ^ far b))) ∧ w = w' := by
  have H0 : Hid (a = low (a * 2 ^ 0)) := Lib.hid (by rw [Int.pow_zero, Int.mul_one, low_id ha])
  have hr := far_range b
  have hk := far_lt b
  by_cases hneg : b.tmod 32 < 0
  · have HK := Lib.hid (far_neg hneg)
    generalize far b = k at *
    go_enter Tryd.func51, Tryd.ntmps51
    go_wp2
    rw [HK.out]
    clear hneg hr HK
    go_loop [1, 8] (fun t i => ∃ (j : Nat) (x : Int), i = .int .i64 (j : Int) ∧ t = .int .i64 x ∧ j ≤ k ∧ (-2147483648 ≤ x ∧ x ≤ 2147483647) ∧ Hid (x = low (a * 2 ^ j))) (fun _ i => k - (intOf i).toNat)
    case atStart => exact ⟨0, a, rfl, rfl, by omega, ha, H0⟩
    case round =>
      obtain ⟨j, x, rfl, rfl, hj, hx, HE⟩ := hrel
      by_cases hlt : j < k
      · have hl := low_word (2 * x)
        unfold Word at hl
        go_wp2_with fail
        refine (refLow_any _ _).mono ?_
        rintro e w1 ⟨rfl, rfl⟩
        go_wp2
        go_round
        case rel => exact ⟨j + 1, low (2 * x), by go_num, rfl, by omega, hl, Lib.hid (by rw [HE.out, low_double])⟩
        case measure => simp [intOf]; omega
      · obtain rfl : j = k := by omega
        go_wp2
        go_ret
        exact ⟨ret_int HE.out, rfl⟩
  · have HK := Lib.hid (far_pos hneg)
    generalize far b = k at *
    go_enter Tryd.func51, Tryd.ntmps51
    go_wp2
    rw [HK.out]
    clear hneg hr HK
    go_loop [1, 8] (fun t i => ∃ (j : Nat) (x : Int), i = .int .i64 (j : Int) ∧ t = .int .i64 x ∧ j ≤ k ∧ (-2147483648 ≤ x ∧ x ≤ 2147483647) ∧ Hid (x = low (a * 2 ^ j))) (fun _ i => k - (intOf i).toNat)
    case atStart => exact ⟨0, a, rfl, rfl, by omega, ha, H0⟩
    case round =>
      obtain ⟨j, x, rfl, rfl, hj, hx, HE⟩ := hrel
      by_cases hlt : j < k
      · have hl := low_word (2 * x)
        unfold Word at hl
        go_wp2_with fail
        refine (refLow_any _ _).mono ?_
        rintro e w1 ⟨rfl, rfl⟩
        go_wp2
        go_round
        case rel => exact ⟨j + 1, low (2 * x), by go_num, rfl, by omega, hl, Lib.hid (by rw [HE.out, low_double])⟩
        case measure => simp [intOf]; omega
      · obtain rfl : j = k := by omega
        go_wp2
        go_ret
        exact ⟨ret_int HE.out, rfl⟩

set_option maxHeartbeats 2000000 in
theorem refDown_any (a : Int) (ha : Word a) (b : Int) (w : World) :
    Calls Tryd.prog 51 #[.int .i64 15, .int .i64 a, .int .i64 b] w fun e w' => e = .returned (.int .i64 (a / 2 ^ far b)) ∧ w = w' := by
  have H0 : Hid (a = a / 2 ^ 0) := Lib.hid (by rw [Int.pow_zero, Int.ediv_one])
  have hr := far_range b
  have hk := far_lt b
  by_cases hneg : b.tmod 32 < 0
  · have HK := Lib.hid (far_neg hneg)
    generalize far b = k at *
    go_enter Tryd.func51, Tryd.ntmps51
    go_wp2
    rw [HK.out]
    clear hneg hr HK
    go_loop [1, 8] (fun t i => ∃ (j : Nat) (x : Int), i = .int .i64 (j : Int) ∧ t = .int .i64 x ∧ j ≤ k ∧ (-2147483648 ≤ x ∧ x ≤ 2147483647) ∧ Hid (x = a / 2 ^ j)) (fun _ i => k - (intOf i).toNat)
    case atStart => exact ⟨0, a, rfl, rfl, by omega, ha, H0⟩
    case round =>
      obtain ⟨j, x, rfl, rfl, hj, hx, HE⟩ := hrel
      by_cases hlt : j < k
      · have HS : Hid (x / 2 = a / 2 ^ (j + 1)) := Lib.hid (by rw [HE.out, half_step])
        by_cases h0 : x < 0
        · have HD := Lib.hid (half_neg h0)
          go_wp2
          go_round
          case rel => exact ⟨j + 1, x / 2, by go_num, by rw [HD.out], by omega, by omega, HS⟩
          case measure => simp [intOf]; omega
        · have HD := Lib.hid (half_pos h0)
          go_wp2
          go_round
          case rel => exact ⟨j + 1, x / 2, by go_num, by first | rfl | rw [HD.out], by omega, by omega, HS⟩
          case measure => simp [intOf]; omega
      · obtain rfl : j = k := by omega
        go_wp2
        go_ret
        exact ⟨ret_int HE.out, rfl⟩
  · have HK := Lib.hid (far_pos hneg)
    generalize far b = k at *
    go_enter Tryd.func51, Tryd.ntmps51
    go_wp2
    rw [HK.out]
    clear hneg hr HK
    go_loop [1, 8] (fun t i => ∃ (j : Nat) (x : Int), i = .int .i64 (j : Int) ∧ t = .int .i64 x ∧ j ≤ k ∧ (-2147483648 ≤ x ∧ x ≤ 2147483647) ∧ Hid (x = a / 2 ^ j)) (fun _ i => k - (intOf i).toNat)
    case atStart => exact ⟨0, a, rfl, rfl, by omega, ha, H0⟩
    case round =>
      obtain ⟨j, x, rfl, rfl, hj, hx, HE⟩ := hrel
      by_cases hlt : j < k
      · have HS : Hid (x / 2 = a / 2 ^ (j + 1)) := Lib.hid (by rw [HE.out, half_step])
        by_cases h0 : x < 0
        · have HD := Lib.hid (half_neg h0)
          go_wp2
          go_round
          case rel => exact ⟨j + 1, x / 2, by go_num, by rw [HD.out], by omega, by omega, HS⟩
          case measure => simp [intOf]; omega
        · have HD := Lib.hid (half_pos h0)
          go_wp2
          go_round
          case rel => exact ⟨j + 1, x / 2, by go_num, by first | rfl | rw [HD.out], by omega, by omega, HS⟩
          case measure => simp [intOf]; omega
      · obtain rfl : j = k := by omega
        go_wp2
        go_ret
        exact ⟨ret_int HE.out, rfl⟩

theorem mod_eq (a b : Int) : a - a.tdiv b * b = a.tmod b := by
  have h := Int.tmod_add_mul_tdiv a b
  rw [Int.mul_comm] at h
  omega
theorem tdiv_bound {a b : Int} (ha : Word a) : -2147483648 ≤ a.tdiv b ∧ a.tdiv b ≤ 2147483648 := by
  have h1 : (a.tdiv b).natAbs ≤ a.natAbs := by
    rw [Int.natAbs_tdiv]
    exact Nat.div_le_self _ _
  unfold Word at ha
  omega
theorem tdiv_mul_bound {a b : Int} (ha : Word a) : -4294967296 ≤ a.tdiv b * b ∧ a.tdiv b * b ≤ 4294967296 := by
  have h1 := mod_eq a b
  have h2 := tmod_word (b := b) ha
  unfold Word at *
  omega

set_option maxHeartbeats 4000000 in
theorem refDo_any (op a b : Int) (w : World) :
    Calls Tryd.prog 30 #[.int .i64 op, .int .i64 a, .int .i64 b] w fun e w' => e = .returned (two (doW op (low a) (low b))) ∧ w = w' := by
  have ha := low_word a
  have hb := low_word b
  have HLA := Lib.hid (fun u : World => refLow_any a u)
  have HLB := Lib.hid (fun u : World => refLow_any b u)
  generalize low a = x at *
  generalize low b = y at *
  by_cases h3 : op = 3
  · subst h3
    have HD : Hid (doW 3 x y = ex (x + y)) := Lib.hid (by unfold doW; simp)
    rw [HD.out]
    unfold Word at ha hb
    go_enter Tryd.func30, Tryd.ntmps30
    go_wp2_with fail
    refine (HLA.out _).mono ?_
    rintro e w1 ⟨rfl, rfl⟩
    go_wp2_with fail
    refine (HLB.out _).mono ?_
    rintro e w1 ⟨rfl, rfl⟩
    go_wp2_with fail
    refine (refExact_any _ _).mono ?_
    rintro e w1 ⟨rfl, rfl⟩
    unfold two
    go_wp2
    go_ret2
    exact ⟨rfl, rfl⟩

  by_cases h4 : op = 4
  · subst h4
    have HD : Hid (doW 4 x y = ex (x - y)) := Lib.hid (by unfold doW; simp)
    rw [HD.out]
    unfold Word at ha hb
    go_enter Tryd.func30, Tryd.ntmps30
    go_wp2_with fail
    refine (HLA.out _).mono ?_
    rintro e w1 ⟨rfl, rfl⟩
    go_wp2_with fail
    refine (HLB.out _).mono ?_
    rintro e w1 ⟨rfl, rfl⟩
    go_wp2_with fail
    refine (refExact_any _ _).mono ?_
    rintro e w1 ⟨rfl, rfl⟩
    unfold two
    go_wp2
    go_ret2
    exact ⟨rfl, rfl⟩

  by_cases h5 : op = 5
  · subst h5
    have HD : Hid (doW 5 x y = ex (x * y)) := Lib.hid (by unfold doW; simp)
    rw [HD.out]
    have hm := mul_bound ha hb
    unfold Word at ha hb
    go_enter Tryd.func30, Tryd.ntmps30
    go_wp2_with fail
    refine (HLA.out _).mono ?_
    rintro e w1 ⟨rfl, rfl⟩
    go_wp2_with fail
    refine (HLB.out _).mono ?_
    rintro e w1 ⟨rfl, rfl⟩
    go_wp2_with fail
    refine (refExact_any _ _).mono ?_
    rintro e w1 ⟨rfl, rfl⟩
    unfold two
    go_wp2
    go_ret2
    exact ⟨rfl, rfl⟩

  by_cases h6 : op = 6
  · subst h6
    by_cases hy0 : y = 0
    · subst hy0
      have HD : Hid (doW 6 x 0 = (0, 2)) := Lib.hid (by unfold doW; simp)
      rw [HD.out]
      unfold two
      go_enter Tryd.func30, Tryd.ntmps30
      go_wp2_with fail
      refine (HLA.out _).mono ?_
      rintro e w1 ⟨rfl, rfl⟩
      go_wp2_with fail
      refine (HLB.out _).mono ?_
      rintro e w1 ⟨rfl, rfl⟩
      go_wp2
      go_ret2
      exact ⟨rfl, rfl⟩
    · have hyn : (y == 0) = false := by simp [hy0]
      have HD : Hid (doW 6 x y = ex (x.tdiv y)) := Lib.hid (by unfold doW; simp [hy0])
      rw [HD.out]
      have hq := tdiv_bound (b := y) ha
      unfold Word at ha hb
      go_enter Tryd.func30, Tryd.ntmps30
      go_wp2_with fail
      refine (HLA.out _).mono ?_
      rintro e w1 ⟨rfl, rfl⟩
      go_wp2_with fail
      refine (HLB.out _).mono ?_
      rintro e w1 ⟨rfl, rfl⟩
      go_wp2_with fail
      refine (refExact_any _ _).mono ?_
      rintro e w1 ⟨rfl, rfl⟩
      unfold two
      go_wp2
      go_ret2
      exact ⟨rfl, rfl⟩

  by_cases h7 : op = 7
  · subst h7
    by_cases hy0 : y = 0
    · subst hy0
      have HD : Hid (doW 7 x 0 = (0, 2)) := Lib.hid (by unfold doW; simp)
      rw [HD.out]
      unfold two
      go_enter Tryd.func30, Tryd.ntmps30
      go_wp2_with fail
      refine (HLA.out _).mono ?_
      rintro e w1 ⟨rfl, rfl⟩
      go_wp2_with fail
      refine (HLB.out _).mono ?_
      rintro e w1 ⟨rfl, rfl⟩
      go_wp2
      go_ret2
      exact ⟨rfl, rfl⟩
    · have hyn : (y == 0) = false := by simp [hy0]
      have HD : Hid (doW 7 x y = (x.tmod y, 0)) := Lib.hid (by unfold doW; simp [hy0])
      rw [HD.out]
      have hq := tdiv_bound (b := y) ha
      have hqb := tdiv_mul_bound (b := y) ha
      have HM := Lib.hid (mod_eq x y)
      unfold Word at ha hb
      unfold two
      go_enter Tryd.func30, Tryd.ntmps30
      go_wp2_with fail
      refine (HLA.out _).mono ?_
      rintro e w1 ⟨rfl, rfl⟩
      go_wp2_with fail
      refine (HLB.out _).mono ?_
      rintro e w1 ⟨rfl, rfl⟩
      go_wp2
      go_ret2
      exact ⟨by rw [← HM.out]; rfl, rfl⟩

  by_cases h8 : op = 8
  · subst h8
    have HD : Hid (doW 8 x y = ex (-x)) := Lib.hid (by unfold doW; simp)
    rw [HD.out]
    unfold Word at ha hb
    go_enter Tryd.func30, Tryd.ntmps30
    go_wp2_with fail
    refine (HLA.out _).mono ?_
    rintro e w1 ⟨rfl, rfl⟩
    go_wp2_with fail
    refine (HLB.out _).mono ?_
    rintro e w1 ⟨rfl, rfl⟩
    go_wp2_with fail
    refine (refExact_any _ _).mono ?_
    rintro e w1 ⟨rfl, rfl⟩
    unfold two
    go_wp2
    go_ret2
    exact ⟨rfl, rfl⟩

  by_cases h9 : op = 9
  · subst h9
    by_cases h : x < y
    · have HD : Hid (doW 9 x y = (1, 0)) := Lib.hid (by unfold doW; simp [h])
      rw [HD.out]
      unfold two
      go_enter Tryd.func30, Tryd.ntmps30
      go_wp2_with fail
      refine (HLA.out _).mono ?_
      rintro e w1 ⟨rfl, rfl⟩
      go_wp2_with fail
      refine (HLB.out _).mono ?_
      rintro e w1 ⟨rfl, rfl⟩
      go_wp2
      go_ret2
      exact ⟨rfl, rfl⟩
    · have HD : Hid (doW 9 x y = (0, 0)) := Lib.hid (by unfold doW; simp [h])
      rw [HD.out]
      have hd : decide (x < y) = false := by simpa using h
      unfold two
      go_enter Tryd.func30, Tryd.ntmps30
      go_wp2_with fail
      refine (HLA.out _).mono ?_
      rintro e w1 ⟨rfl, rfl⟩
      go_wp2_with fail
      refine (HLB.out _).mono ?_
      rintro e w1 ⟨rfl, rfl⟩
      go_wp2
      go_ret2
      exact ⟨rfl, rfl⟩

  by_cases h10 : op = 10
  · subst h10
    by_cases h : x = y
    · subst h
      have HD : Hid (doW 10 x x = (1, 0)) := Lib.hid (by unfold doW; simp)
      rw [HD.out]
      unfold two
      go_enter Tryd.func30, Tryd.ntmps30
      go_wp2_with fail
      refine (HLA.out _).mono ?_
      rintro e w1 ⟨rfl, rfl⟩
      go_wp2_with fail
      refine (HLB.out _).mono ?_
      rintro e w1 ⟨rfl, rfl⟩
      go_wp2
      go_ret2
      exact ⟨rfl, rfl⟩
    · have HD : Hid (doW 10 x y = (0, 0)) := Lib.hid (by unfold doW; simp [h])
      rw [HD.out]
      have hd : (x == y) = false := by simp [h]
      unfold two
      go_enter Tryd.func30, Tryd.ntmps30
      go_wp2_with fail
      refine (HLA.out _).mono ?_
      rintro e w1 ⟨rfl, rfl⟩
      go_wp2_with fail
      refine (HLB.out _).mono ?_
      rintro e w1 ⟨rfl, rfl⟩
      go_wp2
      go_ret2
      exact ⟨rfl, rfl⟩

  by_cases h11 : op = 11
  · subst h11
    have HD : Hid (doW 11 x y = (low (bitop 11 (un x) (un y) : Nat), 0)) := Lib.hid (by unfold doW; simp)
    rw [HD.out]
    unfold two
    go_enter Tryd.func30, Tryd.ntmps30
    go_wp2_with fail
    refine (HLA.out _).mono ?_
    rintro e w1 ⟨rfl, rfl⟩
    go_wp2_with fail
    refine (HLB.out _).mono ?_
    rintro e w1 ⟨rfl, rfl⟩
    go_wp2_with fail
    refine (refBits_any 11 (by omega) x y ha hb _).mono ?_
    rintro e w1 ⟨rfl, rfl⟩
    go_wp2
    go_ret2
    exact ⟨rfl, rfl⟩

  by_cases h12 : op = 12
  · subst h12
    have HD : Hid (doW 12 x y = (low (bitop 12 (un x) (un y) : Nat), 0)) := Lib.hid (by unfold doW; simp)
    rw [HD.out]
    unfold two
    go_enter Tryd.func30, Tryd.ntmps30
    go_wp2_with fail
    refine (HLA.out _).mono ?_
    rintro e w1 ⟨rfl, rfl⟩
    go_wp2_with fail
    refine (HLB.out _).mono ?_
    rintro e w1 ⟨rfl, rfl⟩
    go_wp2_with fail
    refine (refBits_any 12 (by omega) x y ha hb _).mono ?_
    rintro e w1 ⟨rfl, rfl⟩
    go_wp2
    go_ret2
    exact ⟨rfl, rfl⟩

  by_cases h13 : op = 13
  · subst h13
    have HD : Hid (doW 13 x y = (low (bitop 13 (un x) (un y) : Nat), 0)) := Lib.hid (by unfold doW; simp)
    rw [HD.out]
    unfold two
    go_enter Tryd.func30, Tryd.ntmps30
    go_wp2_with fail
    refine (HLA.out _).mono ?_
    rintro e w1 ⟨rfl, rfl⟩
    go_wp2_with fail
    refine (HLB.out _).mono ?_
    rintro e w1 ⟨rfl, rfl⟩
    go_wp2_with fail
    refine (refBits_any 13 (by omega) x y ha hb _).mono ?_
    rintro e w1 ⟨rfl, rfl⟩
    go_wp2
    go_ret2
    exact ⟨rfl, rfl⟩

  by_cases h14 : op = 14
  · subst h14
    have HD : Hid (doW 14 x y = (low (x * 2 ^ far y), 0)) := Lib.hid (by unfold doW; simp)
    rw [HD.out]
    unfold two
    go_enter Tryd.func30, Tryd.ntmps30
    go_wp2_with fail
    refine (HLA.out _).mono ?_
    rintro e w1 ⟨rfl, rfl⟩
    go_wp2_with fail
    refine (HLB.out _).mono ?_
    rintro e w1 ⟨rfl, rfl⟩
    go_wp2_with fail
    refine (refUp_any x ha y _).mono ?_
    rintro e w1 ⟨rfl, rfl⟩
    go_wp2
    go_ret2
    exact ⟨rfl, rfl⟩

  by_cases h15 : op = 15
  · subst h15
    have HD : Hid (doW 15 x y = (x / 2 ^ far y, 0)) := Lib.hid (by unfold doW; simp)
    rw [HD.out]
    unfold two
    go_enter Tryd.func30, Tryd.ntmps30
    go_wp2_with fail
    refine (HLA.out _).mono ?_
    rintro e w1 ⟨rfl, rfl⟩
    go_wp2_with fail
    refine (HLB.out _).mono ?_
    rintro e w1 ⟨rfl, rfl⟩
    go_wp2_with fail
    refine (refDown_any x ha y _).mono ?_
    rintro e w1 ⟨rfl, rfl⟩
    go_wp2
    go_ret2
    exact ⟨rfl, rfl⟩

  have HD : Hid (doW op x y = (0, 0)) := Lib.hid (by unfold doW; simp [h3, h4, h5, h6, h7, h8, h9, h10, h11, h12, h13, h14, h15])
  rw [HD.out]
  have n3 : (op == 3) = false := by simp [h3]
  have n4 : (op == 4) = false := by simp [h4]
  have n5 : (op == 5) = false := by simp [h5]
  have n6 : (op == 6) = false := by simp [h6]
  have n7 : (op == 7) = false := by simp [h7]
  have n8 : (op == 8) = false := by simp [h8]
  have n9 : (op == 9) = false := by simp [h9]
  have n10 : (op == 10) = false := by simp [h10]
  have n11 : (op == 11) = false := by simp [h11]
  have n12 : (op == 12) = false := by simp [h12]
  have n13 : (op == 13) = false := by simp [h13]
  have n14 : (op == 14) = false := by simp [h14]
  have n15 : (op == 15) = false := by simp [h15]
  unfold two
  clear h3 h4 h5 h6 h7 h8 h9 h10 h11 h12 h13 h14 h15
  go_enter Tryd.func30, Tryd.ntmps30
  go_wp2_with fail
  refine (HLA.out _).mono ?_
  rintro e w1 ⟨rfl, rfl⟩
  go_wp2_with fail
  refine (HLB.out _).mono ?_
  rintro e w1 ⟨rfl, rfl⟩
  go_wp2
  go_ret2
  exact ⟨rfl, rfl⟩
end Go.Proofs.YtjbcmedljgafkaaDoor.word

/-
  The document's own answer whether two lists of frames are one: of two that are. At most a thousand frames.
-/

namespace Go.Proofs.YtjbcmedljgafkaaDoor.frames
open Go.RowKit Go.ChangeShapes
set_option linter.unusedVariables false
set_option linter.unusedSimpArgs false

theorem below_drewN2 {B : Nat} {a w : World} (h : Below B a w) (n : Nat) : Below B a (w.drewN n) := ⟨h.os, h.tape, h.output, h.size, h.block⟩

theorem wp_hold_act {P : Program} {Q : Exit → Act → World → Prop} {c : Code} {a : Act} {w : World} (h : ∀ a', Hid (a' = a) → c.wp P Q a' w) : c.wp P Q a w := h a (Lib.hid rfl)
theorem yields_move {P : Program} {ops : Array Oper} {S : World → Prop} {o : Oper} {a : Act} {v : Value} (hg : o.guard = none) (x : Operand) (ho : o.op = .move x) (hx : a.eval x = v) : YieldsIf P ops S o v a :=
  .inl ⟨by simp [Region.wanted, hg], fun w' _ => by
    unfold execOp
    simp only [ho, hx, Sem.run_bind, Sem.run_pure, Result.andThen_ok]⟩
theorem yields_index {ops : Array Oper} {S : World → Prop} {o : Oper} {a : Act} (hg : o.guard = none) (x y : Operand) (ho : o.op = .indexAddr 30 x y) (b i n c j : Nat) (hx : a.eval x = .slice (some ⟨b, i, none⟩) n c) (hy : a.eval y = .int .i64 (j : Int)) (k0 : (0 : Int) ≤ (j : Int)) (k1 : (j : Int) < (n : Int)) : YieldsIf Tryd.prog ops S o (.pointer (some ⟨b, i + j * 27, none⟩)) a :=
  .inl ⟨by simp [Region.wanted, hg], fun w' _ => by
    unfold execOp
    simp only [ho, hx, hy]
    go_simp⟩

set_option maxRecDepth 100000 in
set_option maxHeartbeats 8000000 in
theorem refSame_yes (A B : Option Addr) (c d : Nat) (l : List Fr) (w : World) (hA : FsAt w A l) (hB : FsAt w B l) (hl : l.length ≤ 1000) :
    Calls Tryd.prog 12 #[.slice A l.length c, .slice B l.length d] w fun e w' => e = .returned (.bool true) ∧ Below w.heap.size w w' := by
  have HA := Lib.hid hA
  have HB := Lib.hid hB
  have q0 : ((l.length : Int) != (l.length : Int)) = false := by simp
  clear hA hB
  go_enter Tryd.func12, Tryd.ntmps12
  go_wp2_with fail
  go_loopw [5] (fun i wr => ∃ j : Nat, j ≤ l.length ∧ i = .int .i64 (j : Int) ∧ Hid (Below w.heap.size w wr)) (fun i _ => l.length - (intOf i).toNat)
  case atStart => exact ⟨0, Nat.zero_le _, rfl, Lib.hid (Below.refl _ _)⟩
  case round =>
    obtain ⟨j, hj, rfl, HW⟩ := hrel
    by_cases hlt : j < l.length
    · have q1 : decide ((j : Int) < (l.length : Int)) = true := decide_eq_true (by omega)
      obtain ⟨b1, o1, rfl, hb1, hF1⟩ := HA.out.next HW.out j hlt
      obtain ⟨b2, o2, rfl, hb2, hF2⟩ := HB.out.next HW.out j hlt
      have k0 : (0 : Int) ≤ (j : Int) := by omega
      have k1 : (j : Int) < (l.length : Int) := by omega
      generalize l.getD j zeroF = f at *
      have HF1 := Lib.hid hF1
      have HF2 := Lib.hid hF2
      clear hF1 hF2
      go_upto_region 6 with fail
      try simp only [Act.put, List.setIfInBounds_toArray, List.set_cons_zero, List.set_cons_succ]
      go_cut [6, 7] (fun x y wx => ∃ g6 g7 : Nat, x = .pointer (some ⟨g6, 0, none⟩) ∧ y = .pointer (some ⟨g7, 0, none⟩) ∧ Hid (wx.heap[g6]? = some (frB f) ∧ wx.heap[g7]? = some (frB f) ∧ Below w.heap.size w wx))
      case first =>
        obtain ⟨cs, hcs⟩ : ∃ cs, cs = (cellsF f).toArray := ⟨_, rfl⟩
        refine wp_hold_act (fun a0 HA0 => ?_)
        have z0 : a0.tmps.size = 75 := by rw [HA0.out]; rfl
        have f0_0 : a0.eval (.tmp 0) = .slice (some ⟨b1, o1, none⟩) l.length c := by rw [HA0.out]; rfl
        have f0_1 : a0.eval (.tmp 1) = .slice (some ⟨b2, o2, none⟩) l.length d := by rw [HA0.out]; rfl
        have f0_5 : a0.eval (.tmp 5) = .int .i64 (j : Int) := by rw [HA0.out]; rfl
        refine wp_region_held_drew (S := fun w' => Below wr.heap.size wr w') (by kernel_rfl) (Below.refl _ _).drew (fun hS => ?_)
        refine wpAnyH_take (i := 0) (v := .slice (some ⟨b1, o1, none⟩) l.length c) rfl (by kernel_rfl) (by kernel_rfl) (by kernel_rfl) (fun _ _ _ h => h) (yields_move rfl (.tmp 0) rfl f0_0) hS ?_
        obtain ⟨a1, hA1⟩ : ∃ a', a' = a0.put (some 20) (.slice (some ⟨b1, o1, none⟩) l.length c) := ⟨_, rfl⟩
        change wpAnyH _ _ _ _ _ _ _ (a0.put (some 20) (.slice (some ⟨b1, o1, none⟩) l.length c)) _
        rw [← hA1]
        have f1_20 : a1.eval (.tmp 20) = .slice (some ⟨b1, o1, none⟩) l.length c := by rw [hA1]; exact Act.eval_put_same _ _ _ (by omega)
        have f1_0 : a1.eval (.tmp 0) = .slice (some ⟨b1, o1, none⟩) l.length c := by rw [hA1]; exact (Act.eval_put_ne _ _ _ _ (by decide)).trans f0_0
        have f1_1 : a1.eval (.tmp 1) = .slice (some ⟨b2, o2, none⟩) l.length d := by rw [hA1]; exact (Act.eval_put_ne _ _ _ _ (by decide)).trans f0_1
        have f1_5 : a1.eval (.tmp 5) = .int .i64 (j : Int) := by rw [hA1]; exact (Act.eval_put_ne _ _ _ _ (by decide)).trans f0_5
        have z1 : a1.tmps.size = 75 := by rw [hA1, Act.size_put]; exact z0
        have HA1 := Lib.hid hA1
        clear hA1 z0 f0_0 f0_1 f0_5
        refine wpAnyH_take (i := 1) (v := .int .i64 (j : Int)) rfl (by kernel_rfl) (by kernel_rfl) (by kernel_rfl) (fun _ _ _ h => h) (yields_move rfl (.tmp 5) rfl f1_5) hS ?_
        obtain ⟨a2, hA2⟩ : ∃ a', a' = a1.put (some 21) (.int .i64 (j : Int)) := ⟨_, rfl⟩
        change wpAnyH _ _ _ _ _ _ _ (a1.put (some 21) (.int .i64 (j : Int))) _
        rw [← hA2]
        have f2_21 : a2.eval (.tmp 21) = .int .i64 (j : Int) := by rw [hA2]; exact Act.eval_put_same _ _ _ (by omega)
        have f2_20 : a2.eval (.tmp 20) = .slice (some ⟨b1, o1, none⟩) l.length c := by rw [hA2]; exact (Act.eval_put_ne _ _ _ _ (by decide)).trans f1_20
        have f2_1 : a2.eval (.tmp 1) = .slice (some ⟨b2, o2, none⟩) l.length d := by rw [hA2]; exact (Act.eval_put_ne _ _ _ _ (by decide)).trans f1_1
        have f2_5 : a2.eval (.tmp 5) = .int .i64 (j : Int) := by rw [hA2]; exact (Act.eval_put_ne _ _ _ _ (by decide)).trans f1_5
        have z2 : a2.tmps.size = 75 := by rw [hA2, Act.size_put]; exact z1
        have HA2 := Lib.hid hA2
        clear hA2 z1 f1_20 f1_0 f1_1 f1_5
        refine wpAnyH_take (i := 2) (v := .pointer (some ⟨b1, o1 + j * 27, none⟩)) rfl (by kernel_rfl) (by kernel_rfl) (by kernel_rfl) (fun _ _ _ h => h) (yields_index rfl (.tmp 20) (.tmp 21) rfl _ _ _ _ j f2_20 f2_21 k0 k1) hS ?_
        obtain ⟨a3, hA3⟩ : ∃ a', a' = a2.put (some 22) (.pointer (some ⟨b1, o1 + j * 27, none⟩)) := ⟨_, rfl⟩
        change wpAnyH _ _ _ _ _ _ _ (a2.put (some 22) (.pointer (some ⟨b1, o1 + j * 27, none⟩))) _
        rw [← hA3]
        have f3_22 : a3.eval (.tmp 22) = .pointer (some ⟨b1, o1 + j * 27, none⟩) := by rw [hA3]; exact Act.eval_put_same _ _ _ (by omega)
        have f3_21 : a3.eval (.tmp 21) = .int .i64 (j : Int) := by rw [hA3]; exact (Act.eval_put_ne _ _ _ _ (by decide)).trans f2_21
        have f3_20 : a3.eval (.tmp 20) = .slice (some ⟨b1, o1, none⟩) l.length c := by rw [hA3]; exact (Act.eval_put_ne _ _ _ _ (by decide)).trans f2_20
        have f3_1 : a3.eval (.tmp 1) = .slice (some ⟨b2, o2, none⟩) l.length d := by rw [hA3]; exact (Act.eval_put_ne _ _ _ _ (by decide)).trans f2_1
        have f3_5 : a3.eval (.tmp 5) = .int .i64 (j : Int) := by rw [hA3]; exact (Act.eval_put_ne _ _ _ _ (by decide)).trans f2_5
        have z3 : a3.tmps.size = 75 := by rw [hA3, Act.size_put]; exact z2
        have HA3 := Lib.hid hA3
        clear hA3 z2 f2_21 f2_20 f2_1 f2_5
        refine wpAnyH_take (i := 3) (v := .agg cs) rfl (by kernel_rfl) (by kernel_rfl) (by kernel_rfl) (fun _ _ _ h => h) (by rw [hcs]; exact yieldsIf_load_mid (by rfl) _ (.tmp 22) rfl b1 (o1 + j * 27) f3_22 (cellsF f) _ (fun w' h => range_of (HF1.out.keep (h.block b1 (by assumption)))) Tryd.underlying45 rfl (sizeF (cellsF_length f))) hS ?_
        obtain ⟨a4, hA4⟩ : ∃ a', a' = a3.put (some 23) (.agg cs) := ⟨_, rfl⟩
        change wpAnyH _ _ _ _ _ _ _ (a3.put (some 23) (.agg cs)) _
        rw [← hA4]
        have f4_23 : a4.eval (.tmp 23) = .agg cs := by rw [hA4]; exact Act.eval_put_same _ _ _ (by omega)
        have f4_22 : a4.eval (.tmp 22) = .pointer (some ⟨b1, o1 + j * 27, none⟩) := by rw [hA4]; exact (Act.eval_put_ne _ _ _ _ (by decide)).trans f3_22
        have f4_1 : a4.eval (.tmp 1) = .slice (some ⟨b2, o2, none⟩) l.length d := by rw [hA4]; exact (Act.eval_put_ne _ _ _ _ (by decide)).trans f3_1
        have f4_5 : a4.eval (.tmp 5) = .int .i64 (j : Int) := by rw [hA4]; exact (Act.eval_put_ne _ _ _ _ (by decide)).trans f3_5
        have z4 : a4.tmps.size = 75 := by rw [hA4, Act.size_put]; exact z3
        have HA4 := Lib.hid hA4
        clear hA4 z3 f3_22 f3_21 f3_20 f3_1 f3_5
        refine wpAnyH_take (i := 4) (v := .slice (some ⟨b2, o2, none⟩) l.length d) rfl (by kernel_rfl) (by kernel_rfl) (by kernel_rfl) (fun _ _ _ h => h) (yields_move rfl (.tmp 1) rfl f4_1) hS ?_
        obtain ⟨a5, hA5⟩ : ∃ a', a' = a4.put (some 24) (.slice (some ⟨b2, o2, none⟩) l.length d) := ⟨_, rfl⟩
        change wpAnyH _ _ _ _ _ _ _ (a4.put (some 24) (.slice (some ⟨b2, o2, none⟩) l.length d)) _
        rw [← hA5]
        have f5_24 : a5.eval (.tmp 24) = .slice (some ⟨b2, o2, none⟩) l.length d := by rw [hA5]; exact Act.eval_put_same _ _ _ (by omega)
        have f5_23 : a5.eval (.tmp 23) = .agg cs := by rw [hA5]; exact (Act.eval_put_ne _ _ _ _ (by decide)).trans f4_23
        have f5_1 : a5.eval (.tmp 1) = .slice (some ⟨b2, o2, none⟩) l.length d := by rw [hA5]; exact (Act.eval_put_ne _ _ _ _ (by decide)).trans f4_1
        have f5_5 : a5.eval (.tmp 5) = .int .i64 (j : Int) := by rw [hA5]; exact (Act.eval_put_ne _ _ _ _ (by decide)).trans f4_5
        have z5 : a5.tmps.size = 75 := by rw [hA5, Act.size_put]; exact z4
        have HA5 := Lib.hid hA5
        clear hA5 z4 f4_23 f4_22 f4_1 f4_5
        refine wpAnyH_take (i := 5) (v := .int .i64 (j : Int)) rfl (by kernel_rfl) (by kernel_rfl) (by kernel_rfl) (fun _ _ _ h => h) (yields_move rfl (.tmp 5) rfl f5_5) hS ?_
        obtain ⟨a6, hA6⟩ : ∃ a', a' = a5.put (some 25) (.int .i64 (j : Int)) := ⟨_, rfl⟩
        change wpAnyH _ _ _ _ _ _ _ (a5.put (some 25) (.int .i64 (j : Int))) _
        rw [← hA6]
        have f6_25 : a6.eval (.tmp 25) = .int .i64 (j : Int) := by rw [hA6]; exact Act.eval_put_same _ _ _ (by omega)
        have f6_24 : a6.eval (.tmp 24) = .slice (some ⟨b2, o2, none⟩) l.length d := by rw [hA6]; exact (Act.eval_put_ne _ _ _ _ (by decide)).trans f5_24
        have f6_23 : a6.eval (.tmp 23) = .agg cs := by rw [hA6]; exact (Act.eval_put_ne _ _ _ _ (by decide)).trans f5_23
        have f6_5 : a6.eval (.tmp 5) = .int .i64 (j : Int) := by rw [hA6]; exact (Act.eval_put_ne _ _ _ _ (by decide)).trans f5_5
        have z6 : a6.tmps.size = 75 := by rw [hA6, Act.size_put]; exact z5
        have HA6 := Lib.hid hA6
        clear hA6 z5 f5_24 f5_23 f5_1 f5_5
        refine wpAnyH_take (i := 6) (v := .pointer (some ⟨b2, o2 + j * 27, none⟩)) rfl (by kernel_rfl) (by kernel_rfl) (by kernel_rfl) (fun _ _ _ h => h) (yields_index rfl (.tmp 24) (.tmp 25) rfl _ _ _ _ j f6_24 f6_25 k0 k1) hS ?_
        obtain ⟨a7, hA7⟩ : ∃ a', a' = a6.put (some 26) (.pointer (some ⟨b2, o2 + j * 27, none⟩)) := ⟨_, rfl⟩
        change wpAnyH _ _ _ _ _ _ _ (a6.put (some 26) (.pointer (some ⟨b2, o2 + j * 27, none⟩))) _
        rw [← hA7]
        have f7_26 : a7.eval (.tmp 26) = .pointer (some ⟨b2, o2 + j * 27, none⟩) := by rw [hA7]; exact Act.eval_put_same _ _ _ (by omega)
        have f7_25 : a7.eval (.tmp 25) = .int .i64 (j : Int) := by rw [hA7]; exact (Act.eval_put_ne _ _ _ _ (by decide)).trans f6_25
        have f7_24 : a7.eval (.tmp 24) = .slice (some ⟨b2, o2, none⟩) l.length d := by rw [hA7]; exact (Act.eval_put_ne _ _ _ _ (by decide)).trans f6_24
        have f7_23 : a7.eval (.tmp 23) = .agg cs := by rw [hA7]; exact (Act.eval_put_ne _ _ _ _ (by decide)).trans f6_23
        have z7 : a7.tmps.size = 75 := by rw [hA7, Act.size_put]; exact z6
        have HA7 := Lib.hid hA7
        clear hA7 z6 f6_25 f6_24 f6_23 f6_5
        refine wpAnyH_take (i := 7) (v := .agg cs) rfl (by kernel_rfl) (by kernel_rfl) (by kernel_rfl) (fun _ _ _ h => h) (by rw [hcs]; exact yieldsIf_load_mid (by rfl) _ (.tmp 26) rfl b2 (o2 + j * 27) f7_26 (cellsF f) _ (fun w' h => range_of (HF2.out.keep (h.block b2 (by assumption)))) Tryd.underlying45 rfl (sizeF (cellsF_length f))) hS ?_
        obtain ⟨a8, hA8⟩ : ∃ a', a' = a7.put (some 27) (.agg cs) := ⟨_, rfl⟩
        change wpAnyH _ _ _ _ _ _ _ (a7.put (some 27) (.agg cs)) _
        rw [← hA8]
        have f8_27 : a8.eval (.tmp 27) = .agg cs := by rw [hA8]; exact Act.eval_put_same _ _ _ (by omega)
        have f8_26 : a8.eval (.tmp 26) = .pointer (some ⟨b2, o2 + j * 27, none⟩) := by rw [hA8]; exact (Act.eval_put_ne _ _ _ _ (by decide)).trans f7_26
        have f8_23 : a8.eval (.tmp 23) = .agg cs := by rw [hA8]; exact (Act.eval_put_ne _ _ _ _ (by decide)).trans f7_23
        have z8 : a8.tmps.size = 75 := by rw [hA8, Act.size_put]; exact z7
        have HA8 := Lib.hid hA8
        clear hA8 z7 f7_26 f7_25 f7_24 f7_23
        refine wpAnyH_ready (rs := [8, 9]) (by kernel_rfl) (by simp) (AllReadyH.cons (by simp only [List.getElem?_toArray, List.getElem?_cons_succ, List.getElem?_cons_zero]; rfl) (fun K hK => ?_) (AllReadyH.cons (by simp only [List.getElem?_toArray, List.getElem?_cons_succ, List.getElem?_cons_zero]; rfl) (fun K hK => ?_) AllReadyH.nil))
        · refine step_alloc (by rfl) (by rfl) ?_
          have h6 := heap_alloc_new wr.drew (frB zeroF)
          refine hK.out _ _ (hS.alloc hS.size _) (fun hS => ?_)
          obtain ⟨a9, hA9⟩ : ∃ a', a' = a8.put (some 6) (.pointer (some ⟨wr.drew.heap.size, 0, none⟩)) := ⟨_, rfl⟩
          change wpAnyH _ _ _ _ _ _ _ (a8.put (some 6) (.pointer (some ⟨wr.drew.heap.size, 0, none⟩))) _
          rw [← hA9]
          have f9_6 : a9.eval (.tmp 6) = .pointer (some ⟨wr.drew.heap.size, 0, none⟩) := by rw [hA9]; exact Act.eval_put_same _ _ _ (by omega)
          have f9_27 : a9.eval (.tmp 27) = .agg cs := by rw [hA9]; exact (Act.eval_put_ne _ _ _ _ (by decide)).trans f8_27
          have f9_23 : a9.eval (.tmp 23) = .agg cs := by rw [hA9]; exact (Act.eval_put_ne _ _ _ _ (by decide)).trans f8_23
          have z9 : a9.tmps.size = 75 := by rw [hA9, Act.size_put]; exact z8
          have HA9 := Lib.hid hA9
          clear hA9 z8 f8_27 f8_26 f8_23
          refine wpAnyH_ready (rs := [9]) (by kernel_rfl) (by simp) (AllReadyH.cons (by simp only [List.getElem?_toArray, List.getElem?_cons_succ, List.getElem?_cons_zero]; rfl) (fun K hK => ?_) AllReadyH.nil)
          refine step_alloc (by rfl) (by rfl) ?_
          have h7 := heap_alloc_new (wr.drew.alloc (frB zeroF)) (frB zeroF)
          have hne := Nat.ne_of_lt (lt_of_block h6)
          have h6' := keepA h6 (frB zeroF)
          refine hK.out _ _ (hS.alloc hS.size _) (fun hS => ?_)
          obtain ⟨a10, hA10⟩ : ∃ a', a' = a9.put (some 7) (.pointer (some ⟨(wr.drew.alloc (frB zeroF)).heap.size, 0, none⟩)) := ⟨_, rfl⟩
          change wpAnyH _ _ _ _ _ _ _ (a9.put (some 7) (.pointer (some ⟨(wr.drew.alloc (frB zeroF)).heap.size, 0, none⟩))) _
          rw [← hA10]
          have f10_7 : a10.eval (.tmp 7) = .pointer (some ⟨(wr.drew.alloc (frB zeroF)).heap.size, 0, none⟩) := by rw [hA10]; exact Act.eval_put_same _ _ _ (by omega)
          have f10_6 : a10.eval (.tmp 6) = .pointer (some ⟨wr.drew.heap.size, 0, none⟩) := by rw [hA10]; exact (Act.eval_put_ne _ _ _ _ (by decide)).trans f9_6
          have f10_27 : a10.eval (.tmp 27) = .agg cs := by rw [hA10]; exact (Act.eval_put_ne _ _ _ _ (by decide)).trans f9_27
          have f10_23 : a10.eval (.tmp 23) = .agg cs := by rw [hA10]; exact (Act.eval_put_ne _ _ _ _ (by decide)).trans f9_23
          have z10 : a10.tmps.size = 75 := by rw [hA10, Act.size_put]; exact z9
          have HA10 := Lib.hid hA10
          clear hA10 z9 f9_6 f9_27 f9_23
          have hs6 : wr.heap.size ≤ (wr.drew.alloc (frB zeroF)).heap.size := by rw [World.size_alloc]; exact Nat.le_succ _
          refine wpAnyH_ready (rs := [10]) (by kernel_rfl) (by simp) (AllReadyH.cons (by simp only [List.getElem?_toArray, List.getElem?_cons_succ, List.getElem?_cons_zero]; rfl) (fun K hK => ?_) AllReadyH.nil)
          refine step_store (by rfl) (.tmp 6) (.tmp 23) (by rfl) (wr.drew.heap.size) zeroF f f10_6 (by rw [← hcs]; exact f10_23) h6' ?_
          have i1 := row_same (f := f) h6'
          have i2 := (row_far (cellsF f).toArray (hne.symm)).trans h7
          refine hK.out _ _ (row_below hS (Nat.le_refl _) _) (fun hS => ?_)
          change wpAnyH _ _ _ _ _ _ _ a10 _
          refine wpAnyH_ready (rs := [11]) (by kernel_rfl) (by simp) (AllReadyH.cons (by simp only [List.getElem?_toArray, List.getElem?_cons_succ, List.getElem?_cons_zero]; rfl) (fun K hK => ?_) AllReadyH.nil)
          refine step_store (by rfl) (.tmp 7) (.tmp 27) (by rfl) ((wr.drew.alloc (frB zeroF)).heap.size) zeroF f f10_7 (by rw [← hcs]; exact f10_27) i2 ?_
          have i3 := (row_far (cellsF f).toArray (hne)).trans i1
          have i4 := row_same (f := f) i2
          refine hK.out _ _ (row_below hS (hs6) _) (fun hS => ?_)
          change wpAnyH _ _ _ _ _ _ _ a10 _
          refine wpAnyH_done (by kernel_rfl) ?_ _
          have HS9 := Lib.hid hS
          have HI9 := Lib.hid (And.intro i3 i4)
          clear hS i1 i2 i3 i4 hK h6 h7 h6' hne hs6
          rw [HA10.out]
          rw [HA9.out]
          rw [HA8.out]
          rw [HA7.out]
          rw [HA6.out]
          rw [HA5.out]
          rw [HA4.out]
          rw [HA3.out]
          rw [HA2.out]
          rw [HA1.out]
          rw [HA0.out]
          simp only [Act.put, List.setIfInBounds_toArray, List.set_cons_zero, List.set_cons_succ]
          go_wp2_with fail
          go_meet
          exact ⟨_, _, rfl, rfl, Lib.hid ⟨HI9.out.1, HI9.out.2, HW.out.trans (HS9.out.mono HW.out.size)⟩⟩
        · refine step_alloc (by rfl) (by rfl) ?_
          have h7 := heap_alloc_new wr.drew (frB zeroF)
          refine hK.out _ _ (hS.alloc hS.size _) (fun hS => ?_)
          obtain ⟨a9, hA9⟩ : ∃ a', a' = a8.put (some 7) (.pointer (some ⟨wr.drew.heap.size, 0, none⟩)) := ⟨_, rfl⟩
          change wpAnyH _ _ _ _ _ _ _ (a8.put (some 7) (.pointer (some ⟨wr.drew.heap.size, 0, none⟩))) _
          rw [← hA9]
          have f9_7 : a9.eval (.tmp 7) = .pointer (some ⟨wr.drew.heap.size, 0, none⟩) := by rw [hA9]; exact Act.eval_put_same _ _ _ (by omega)
          have f9_27 : a9.eval (.tmp 27) = .agg cs := by rw [hA9]; exact (Act.eval_put_ne _ _ _ _ (by decide)).trans f8_27
          have f9_23 : a9.eval (.tmp 23) = .agg cs := by rw [hA9]; exact (Act.eval_put_ne _ _ _ _ (by decide)).trans f8_23
          have z9 : a9.tmps.size = 75 := by rw [hA9, Act.size_put]; exact z8
          have HA9 := Lib.hid hA9
          clear hA9 z8 f8_27 f8_26 f8_23
          refine wpAnyH_ready (rs := [8]) (by kernel_rfl) (by simp) (AllReadyH.cons (by simp only [List.getElem?_toArray, List.getElem?_cons_succ, List.getElem?_cons_zero]; rfl) (fun K hK => ?_) AllReadyH.nil)
          refine step_alloc (by rfl) (by rfl) ?_
          have h6 := heap_alloc_new (wr.drew.alloc (frB zeroF)) (frB zeroF)
          have hne := Nat.ne_of_lt (lt_of_block h7)
          have h7' := keepA h7 (frB zeroF)
          refine hK.out _ _ (hS.alloc hS.size _) (fun hS => ?_)
          obtain ⟨a10, hA10⟩ : ∃ a', a' = a9.put (some 6) (.pointer (some ⟨(wr.drew.alloc (frB zeroF)).heap.size, 0, none⟩)) := ⟨_, rfl⟩
          change wpAnyH _ _ _ _ _ _ _ (a9.put (some 6) (.pointer (some ⟨(wr.drew.alloc (frB zeroF)).heap.size, 0, none⟩))) _
          rw [← hA10]
          have f10_6 : a10.eval (.tmp 6) = .pointer (some ⟨(wr.drew.alloc (frB zeroF)).heap.size, 0, none⟩) := by rw [hA10]; exact Act.eval_put_same _ _ _ (by omega)
          have f10_7 : a10.eval (.tmp 7) = .pointer (some ⟨wr.drew.heap.size, 0, none⟩) := by rw [hA10]; exact (Act.eval_put_ne _ _ _ _ (by decide)).trans f9_7
          have f10_27 : a10.eval (.tmp 27) = .agg cs := by rw [hA10]; exact (Act.eval_put_ne _ _ _ _ (by decide)).trans f9_27
          have f10_23 : a10.eval (.tmp 23) = .agg cs := by rw [hA10]; exact (Act.eval_put_ne _ _ _ _ (by decide)).trans f9_23
          have z10 : a10.tmps.size = 75 := by rw [hA10, Act.size_put]; exact z9
          have HA10 := Lib.hid hA10
          clear hA10 z9 f9_7 f9_27 f9_23
          have hs6 : wr.heap.size ≤ (wr.drew.alloc (frB zeroF)).heap.size := by rw [World.size_alloc]; exact Nat.le_succ _
          refine wpAnyH_ready (rs := [10]) (by kernel_rfl) (by simp) (AllReadyH.cons (by simp only [List.getElem?_toArray, List.getElem?_cons_succ, List.getElem?_cons_zero]; rfl) (fun K hK => ?_) AllReadyH.nil)
          refine step_store (by rfl) (.tmp 6) (.tmp 23) (by rfl) ((wr.drew.alloc (frB zeroF)).heap.size) zeroF f f10_6 (by rw [← hcs]; exact f10_23) h6 ?_
          have i1 := row_same (f := f) h6
          have i2 := (row_far (cellsF f).toArray (hne)).trans h7'
          refine hK.out _ _ (row_below hS (hs6) _) (fun hS => ?_)
          change wpAnyH _ _ _ _ _ _ _ a10 _
          refine wpAnyH_ready (rs := [11]) (by kernel_rfl) (by simp) (AllReadyH.cons (by simp only [List.getElem?_toArray, List.getElem?_cons_succ, List.getElem?_cons_zero]; rfl) (fun K hK => ?_) AllReadyH.nil)
          refine step_store (by rfl) (.tmp 7) (.tmp 27) (by rfl) (wr.drew.heap.size) zeroF f f10_7 (by rw [← hcs]; exact f10_27) i2 ?_
          have i3 := (row_far (cellsF f).toArray (hne.symm)).trans i1
          have i4 := row_same (f := f) i2
          refine hK.out _ _ (row_below hS (Nat.le_refl _) _) (fun hS => ?_)
          change wpAnyH _ _ _ _ _ _ _ a10 _
          refine wpAnyH_done (by kernel_rfl) ?_ _
          have HS9 := Lib.hid hS
          have HI9 := Lib.hid (And.intro i3 i4)
          clear hS i1 i2 i3 i4 hK h6 h7 h7' hne hs6
          rw [HA10.out]
          rw [HA9.out]
          rw [HA8.out]
          rw [HA7.out]
          rw [HA6.out]
          rw [HA5.out]
          rw [HA4.out]
          rw [HA3.out]
          rw [HA2.out]
          rw [HA1.out]
          rw [HA0.out]
          simp only [Act.put, List.setIfInBounds_toArray, List.set_cons_zero, List.set_cons_succ]
          go_wp2_with fail
          go_meet
          exact ⟨_, _, rfl, rfl, Lib.hid ⟨HI9.out.1, HI9.out.2, HW.out.trans (HS9.out.mono HW.out.size)⟩⟩
      case rest =>
        obtain ⟨g6, g7, rfl, rfl, HG⟩ := hcut
        have hg := HG.out
        have x0 := cell_block hg.1 (k := 0) (by omega)
        have x1 := cell_block hg.1 (k := 1) (by omega)
        have x2 := cell_block hg.1 (k := 2) (by omega)
        have y0 := cell_block hg.2.1 (k := 0) (by omega)
        have y1 := cell_block hg.2.1 (k := 1) (by omega)
        have y2 := cell_block hg.2.1 (k := 2) (by omega)
        have p0 : (num f 0 != num f 0) = false := by simp
        have p1 : (num f 1 != num f 1) = false := by simp
        have p2 : (num f 2 != num f 2) = false := by simp
        clear hg hb1 hb2 HF1 HF2
        go_upto_region 9 with fail
        clear x0 x1 x2 y0 y1 y2 p0 p1 p2
        go_wp2_with fail
        go_loopw [8] (fun i wq => ∃ k : Nat, k ≤ 16 ∧ i = .int .i64 (k : Int) ∧ Hid (wq.heap[g6]? = some (frB f) ∧ wq.heap[g7]? = some (frB f) ∧ Below w.heap.size w wq)) (fun i _ => 16 - (intOf i).toNat)
        case atStart => exact ⟨0, by omega, rfl, HG⟩
        case round =>
          clear HG
          obtain ⟨k, hk, rfl, HG⟩ := hrel
          have hg := HG.out
          by_cases h16 : k < 16
          · have t0 : decide ((k : Int) < 16) = true := decide_eq_true (by omega)
            have s1 := cell_block hg.1 (k := 11 + k) (by omega)
            have s2 := cell_block hg.2.1 (k := 11 + k) (by omega)
            have p0 : (num f (11 + k) != num f (11 + k)) = false := by simp
            have n0 : (0 : Int) ≤ (k : Int) := by omega
            have n1 : (k : Int) < 16 := by omega
            by_cases h8 : k < 8
            · have t1 : decide ((k : Int) < 8) = true := decide_eq_true (by omega)
              have l1 := cell_block hg.1 (k := 3 + k) (by omega)
              have l2 := cell_block hg.2.1 (k := 3 + k) (by omega)
              have p1 : (num f (3 + k) != num f (3 + k)) = false := by simp
              have n2 : (k : Int) < 8 := by omega
              clear hg
              go_upto_region 12 with fail
              go_quiet (fail)
              go_wp2
              go_roundw
              case rel => exact ⟨k + 1, by omega, by go_num, Lib.hid ⟨HG.out.1, HG.out.2.1, below_drewN2 HG.out.2.2 _⟩⟩
              case measure => simp [intOf]; omega
            · have t1 : decide ((k : Int) < 8) = false := decide_eq_false (by omega)
              clear hg
              go_upto_region 12 with fail
              go_quiet (fail)
              go_wp2
              go_roundw
              case rel => exact ⟨k + 1, by omega, by go_num, Lib.hid ⟨HG.out.1, HG.out.2.1, below_drewN2 HG.out.2.2 _⟩⟩
              case measure => simp [intOf]; omega
          · obtain rfl : k = 16 := by omega
            have t0 : decide (((16 : Nat) : Int) < 16) = false := decide_eq_false (by omega)
            clear hg
            go_wp2
            go_roundw
            case rel => exact ⟨j + 1, by omega, by go_num, Lib.hid HG.out.2.2⟩
            case measure => simp [intOf]; omega
    · obtain rfl : j = l.length := by omega
      have q1 : decide ((l.length : Int) < (l.length : Int)) = false := decide_eq_false (by omega)
      go_wp2
      go_ret
      exact ⟨rfl, HW.out⟩
end Go.Proofs.YtjbcmedljgafkaaDoor.frames
