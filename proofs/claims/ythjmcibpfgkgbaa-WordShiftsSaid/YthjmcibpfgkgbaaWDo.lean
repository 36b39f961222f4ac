/-
  The program's operations on words come to what the document says (typed over the code of 2169cae), and the bundle of all its calls. No condition.
-/
import Derived.Test.YthjmcibpfgkgbaaWProg
import Derived.Test.YthjmcibpfgkgbaaWShifts
namespace Go.Proofs.Ythjmcibpfgkgbaa.word
open Go.RowKit Go.ChangeShapes

set_option maxRecDepth 100000 in
set_option maxHeartbeats 4000000 in
theorem do_any (op a b : Int) (w : World) :
    Calls Try.prog 8 #[.int .i64 op, .int .i64 a, .int .i64 b] w fun e w' => e = .returned (two (doW op (low a) (low b))) ∧ w = w' := by
  have ha := low_word a
  have hb := low_word b
  have HLA := Lib.hid (fun u : World => low_any a u)
  have HLB := Lib.hid (fun u : World => low_any b u)
  generalize low a = x at *
  generalize low b = y at *
  by_cases h3 : op = 3
  · subst h3
    have HD : Hid (doW 3 x y = ex (x + y)) := Lib.hid (by unfold doW; simp)
    rw [HD.out]
    unfold Word at ha hb
    go_enter Try.func8, Try.ntmps8
    go_wp2_with fail
    refine (HLA.out _).mono ?_
    rintro e w1 ⟨rfl, rfl⟩
    go_wp2_with fail
    refine (HLB.out _).mono ?_
    rintro e w1 ⟨rfl, rfl⟩
    go_wp2_with fail
    refine (exact_any _ _).mono ?_
    rintro e w1 ⟨rfl, rfl⟩
    unfold two
    go_wp2
    go_ret2
    exact ⟨rfl, rfl⟩
  by_cases h4 : op = 4
  · subst h4
    have HD : Hid (doW 4 x y = ex (x - y)) := Lib.hid (by unfold doW; simp)
    rw [HD.out]
    unfold Word at ha hb
    go_enter Try.func8, Try.ntmps8
    go_wp2_with fail
    refine (HLA.out _).mono ?_
    rintro e w1 ⟨rfl, rfl⟩
    go_wp2_with fail
    refine (HLB.out _).mono ?_
    rintro e w1 ⟨rfl, rfl⟩
    go_wp2_with fail
    refine (exact_any _ _).mono ?_
    rintro e w1 ⟨rfl, rfl⟩
    unfold two
    go_wp2
    go_ret2
    exact ⟨rfl, rfl⟩
  by_cases h5 : op = 5
  · subst h5
    have HD : Hid (doW 5 x y = ex (x * y)) := Lib.hid (by unfold doW; simp)
    rw [HD.out]
    have HP := Lib.hid (fun u : World => product_any _ _ ha hb u)
    clear ha hb HD
    generalize x * y = p at *
    go_enter Try.func8, Try.ntmps8
    go_wp2_with fail
    refine (HLA.out _).mono ?_
    rintro e w1 ⟨rfl, rfl⟩
    go_wp2_with fail
    refine (HLB.out _).mono ?_
    rintro e w1 ⟨rfl, rfl⟩
    go_wp2_with fail
    refine (HP.out _).mono ?_
    rintro e w1 ⟨rfl, rfl⟩
    go_wp2_with fail
    refine (exact_any _ _).mono ?_
    rintro e w1 ⟨rfl, rfl⟩
    unfold two
    go_wp2
    go_ret2
    exact ⟨rfl, rfl⟩
  by_cases h6 : op = 6
  · subst h6
    have HD : Hid (doW 6 x y = quo x y) := Lib.hid (by unfold doW quo; simp)
    rw [HD.out]
    have HP := Lib.hid (fun u : World => quotient_any x y ha u)
    clear ha hb HD
    generalize quo x y = p at *
    go_enter Try.func8, Try.ntmps8
    go_wp2_with fail
    refine (HLA.out _).mono ?_
    rintro e w1 ⟨rfl, rfl⟩
    go_wp2_with fail
    refine (HLB.out _).mono ?_
    rintro e w1 ⟨rfl, rfl⟩
    go_wp2_with fail
    refine (HP.out _).mono ?_
    rintro e w1 ⟨rfl, rfl⟩
    unfold two
    go_wp2
    go_ret2
    exact ⟨rfl, rfl⟩
  by_cases h7 : op = 7
  · subst h7
    have HD : Hid (doW 7 x y = left x y) := Lib.hid (by unfold doW left; simp)
    rw [HD.out]
    have HP := Lib.hid (fun u : World => rest_any x y ha u)
    clear ha hb HD
    generalize left x y = p at *
    go_enter Try.func8, Try.ntmps8
    go_wp2_with fail
    refine (HLA.out _).mono ?_
    rintro e w1 ⟨rfl, rfl⟩
    go_wp2_with fail
    refine (HLB.out _).mono ?_
    rintro e w1 ⟨rfl, rfl⟩
    go_wp2_with fail
    refine (HP.out _).mono ?_
    rintro e w1 ⟨rfl, rfl⟩
    unfold two
    go_wp2
    go_ret2
    exact ⟨rfl, rfl⟩
  by_cases h8 : op = 8
  · subst h8
    have HD : Hid (doW 8 x y = ex (-x)) := Lib.hid (by unfold doW; simp)
    rw [HD.out]
    unfold Word at ha hb
    go_enter Try.func8, Try.ntmps8
    go_wp2_with fail
    refine (HLA.out _).mono ?_
    rintro e w1 ⟨rfl, rfl⟩
    go_wp2_with fail
    refine (HLB.out _).mono ?_
    rintro e w1 ⟨rfl, rfl⟩
    go_wp2_with fail
    refine (exact_any _ _).mono ?_
    rintro e w1 ⟨rfl, rfl⟩
    unfold two
    go_wp2
    go_ret2
    exact ⟨rfl, rfl⟩
  by_cases h9 : op = 9
  · subst h9
    by_cases h : x < y
    · have hd : decide (x < y) = true := by simp [h]
      have HD : Hid (doW 9 x y = (1, 0)) := Lib.hid (by unfold doW; simp [h])
      rw [HD.out]
      unfold two
      clear h HD
      go_enter Try.func8, Try.ntmps8
      go_wp2_with fail
      refine (HLA.out _).mono ?_
      rintro e w1 ⟨rfl, rfl⟩
      go_wp2_with fail
      refine (HLB.out _).mono ?_
      rintro e w1 ⟨rfl, rfl⟩
      go_wp2_with fail
      refine (truth_any true _).mono ?_
      rintro e w1 ⟨rfl, rfl⟩
      go_wp2
      go_ret2
      exact ⟨rfl, rfl⟩
    · have hd : decide (x < y) = false := by simp [h]
      have HD : Hid (doW 9 x y = (0, 0)) := Lib.hid (by unfold doW; simp [h])
      rw [HD.out]
      unfold two
      clear h HD
      go_enter Try.func8, Try.ntmps8
      go_wp2_with fail
      refine (HLA.out _).mono ?_
      rintro e w1 ⟨rfl, rfl⟩
      go_wp2_with fail
      refine (HLB.out _).mono ?_
      rintro e w1 ⟨rfl, rfl⟩
      go_wp2_with fail
      refine (truth_any false _).mono ?_
      rintro e w1 ⟨rfl, rfl⟩
      go_wp2
      go_ret2
      exact ⟨rfl, rfl⟩
  by_cases h10 : op = 10
  · subst h10
    by_cases h : x = y
    · have hd : (x == y) = true := by simp [h]
      have HD : Hid (doW 10 x y = (1, 0)) := Lib.hid (by unfold doW; simp [h])
      rw [HD.out]
      unfold two
      clear h HD
      go_enter Try.func8, Try.ntmps8
      go_wp2_with fail
      refine (HLA.out _).mono ?_
      rintro e w1 ⟨rfl, rfl⟩
      go_wp2_with fail
      refine (HLB.out _).mono ?_
      rintro e w1 ⟨rfl, rfl⟩
      go_wp2_with fail
      refine (truth_any true _).mono ?_
      rintro e w1 ⟨rfl, rfl⟩
      go_wp2
      go_ret2
      exact ⟨rfl, rfl⟩
    · have hd : (x == y) = false := by simp [h]
      have HD : Hid (doW 10 x y = (0, 0)) := Lib.hid (by unfold doW; simp [h])
      rw [HD.out]
      unfold two
      clear h HD
      go_enter Try.func8, Try.ntmps8
      go_wp2_with fail
      refine (HLA.out _).mono ?_
      rintro e w1 ⟨rfl, rfl⟩
      go_wp2_with fail
      refine (HLB.out _).mono ?_
      rintro e w1 ⟨rfl, rfl⟩
      go_wp2_with fail
      refine (truth_any false _).mono ?_
      rintro e w1 ⟨rfl, rfl⟩
      go_wp2
      go_ret2
      exact ⟨rfl, rfl⟩
  by_cases h11 : op = 11
  · subst h11
    have HD : Hid (doW 11 x y = (low (bitop 11 (un x) (un y) : Nat), 0)) := Lib.hid (by unfold doW; simp)
    rw [HD.out]
    unfold two
    have HB := Lib.hid (and_words ha hb)
    go_enter Try.func8, Try.ntmps8
    go_wp2_with fail
    refine (HLA.out _).mono ?_
    rintro e w1 ⟨rfl, rfl⟩
    go_wp2_with fail
    refine (HLB.out _).mono ?_
    rintro e w1 ⟨rfl, rfl⟩
    go_wp2
    go_ret2
    exact ⟨by rw [← HB.out]; rfl, rfl⟩
  by_cases h12 : op = 12
  · subst h12
    have HD : Hid (doW 12 x y = (low (bitop 12 (un x) (un y) : Nat), 0)) := Lib.hid (by unfold doW; simp)
    rw [HD.out]
    unfold two
    have HB := Lib.hid (or_words ha hb)
    go_enter Try.func8, Try.ntmps8
    go_wp2_with fail
    refine (HLA.out _).mono ?_
    rintro e w1 ⟨rfl, rfl⟩
    go_wp2_with fail
    refine (HLB.out _).mono ?_
    rintro e w1 ⟨rfl, rfl⟩
    go_wp2
    go_ret2
    exact ⟨by rw [← HB.out]; rfl, rfl⟩
  by_cases h13 : op = 13
  · subst h13
    have HD : Hid (doW 13 x y = (low (bitop 13 (un x) (un y) : Nat), 0)) := Lib.hid (by unfold doW; simp)
    rw [HD.out]
    unfold two
    have HB := Lib.hid (xor_words ha hb)
    go_enter Try.func8, Try.ntmps8
    go_wp2_with fail
    refine (HLA.out _).mono ?_
    rintro e w1 ⟨rfl, rfl⟩
    go_wp2_with fail
    refine (HLB.out _).mono ?_
    rintro e w1 ⟨rfl, rfl⟩
    go_wp2
    go_ret2
    exact ⟨by rw [← HB.out]; rfl, rfl⟩
  by_cases h14 : op = 14
  · subst h14
    have HD : Hid (doW 14 x y = (low (x * 2 ^ far y), 0)) := Lib.hid (by unfold doW; simp)
    rw [HD.out]
    unfold two
    have hM := mask5 y
    have hf := far_lt y
    have HB : Hid (-4611686018427387904 ≤ x * 2 ^ far y ∧ x * 2 ^ far y ≤ 4611686018427387904) := Lib.hid (moved_bound ha (Int.le_of_lt (pow_pos' _)) (by_bound hf))
    generalize far y = m at *
    have hm0 : (0 : Int) ≤ (m : Int) := by omega
    have hmb := HB.out
    unfold Word at ha hb
    go_enter Try.func8, Try.ntmps8
    go_wp2_with fail
    refine (HLA.out _).mono ?_
    rintro e w1 ⟨rfl, rfl⟩
    go_wp2_with fail
    refine (HLB.out _).mono ?_
    rintro e w1 ⟨rfl, rfl⟩
    go_wp2_with fail
    refine (low_any _ _).mono ?_
    rintro e w1 ⟨rfl, rfl⟩
    go_wp2
    go_ret2
    exact ⟨rfl, rfl⟩
  by_cases h15 : op = 15
  · subst h15
    have HD : Hid (doW 15 x y = (x / 2 ^ far y, 0)) := Lib.hid (by unfold doW; simp)
    rw [HD.out]
    unfold two
    have hM := mask5 y
    have hf := far_lt y
    generalize far y = m at *
    have hm0 : (0 : Int) ≤ (m : Int) := by omega
    go_enter Try.func8, Try.ntmps8
    go_wp2_with fail
    refine (HLA.out _).mono ?_
    rintro e w1 ⟨rfl, rfl⟩
    go_wp2_with fail
    refine (HLB.out _).mono ?_
    rintro e w1 ⟨rfl, rfl⟩
    go_wp2
    go_ret2
    exact ⟨rfl, rfl⟩
  have HD : Hid (doW op x y = (0, 0)) := Lib.hid (by unfold doW; simp [h3, h4, h5, h6, h7, h8, h9, h10, h11, h12, h13, h14, h15])
  rw [HD.out]
  have n3 : (op == 3) = false := by simp [h3]
  have n4 : (op == 4) = false := by simp [h4]
  have n5 : (op == 5) = false := by simp [h5]
  have n6 : (op == 6) = false := by simp [h6]
  have n7 : (op == 7) = false := by simp [h7]
  have n8 : (op == 8) = false := by simp [h8]
  have n9 : (op == 9) = false := by simp [h9]
  have n10 : (op == 10) = false := by simp [h10]
  have n11 : (op == 11) = false := by simp [h11]
  have n12 : (op == 12) = false := by simp [h12]
  have n13 : (op == 13) = false := by simp [h13]
  have n14 : (op == 14) = false := by simp [h14]
  have n15 : (op == 15) = false := by simp [h15]
  unfold two
  clear h3 h4 h5 h6 h7 h8 h9 h10 h11 h12 h13 h14 h15
  go_enter Try.func8, Try.ntmps8
  go_wp2_with fail
  refine (HLA.out _).mono ?_
  rintro e w1 ⟨rfl, rfl⟩
  go_wp2_with fail
  refine (HLB.out _).mono ?_
  rintro e w1 ⟨rfl, rfl⟩
  go_wp2
  go_ret2
  exact ⟨rfl, rfl⟩
theorem keeps : Keeps where
  low n _ w := low_any n w
  fits n _ w := fits_any n w
  does op a b _ _ _ w := do_any op a b w
  high a b _ _ w := high_any a b w
end Go.Proofs.Ythjmcibpfgkgbaa.word
