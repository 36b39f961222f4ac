/-
  What is moved up and down again is as it was, where no bit went; and moving down by one is half, rounded down: walked over the bundle of what the program's calls come to.
-/
import Derived.Test.YthjmcibpfgkgbaaWSpec
namespace Go.Proofs.Ythjmcibpfgkgbaa.word
open Go.RowKit Go.ChangeShapes

theorem far_low (k : Int) : far (low k) = far k := by unfold far low; omega
theorem pow_pos' (m : Nat) : (0 : Int) < 2 ^ m := Int.pow_pos (by omega)
theorem by_bound {m : Nat} (h : m < 32) : (2 : Int) ^ m ≤ 2147483648 := by
  have h1 : 2 ^ m ≤ 2 ^ 31 := Nat.pow_le_pow_right (by omega) (by omega)
  have h2 : ((2 ^ m : Nat) : Int) ≤ ((2 ^ 31 : Nat) : Int) := Int.ofNat_le.2 h1
  rw [Int.natCast_pow] at h2
  exact h2
theorem moved_bound {x : Int} (hx : Word x) {p : Int} (h0 : 0 ≤ p) (hp : p ≤ 2147483648) : -4611686018427387904 ≤ x * p ∧ x * p ≤ 4611686018427387904 := by
  have hm : (x * p).natAbs ≤ 2147483648 * 2147483648 := by
    rw [Int.natAbs_mul]
    unfold Word at hx
    exact Nat.mul_le_mul (by omega) (by omega)
  omega
theorem shl_in (x y : Int) : doW 14 x y = (low (x * 2 ^ far y), 0) := by unfold doW; simp
theorem shr_in (x y : Int) : doW 15 x y = (x / 2 ^ far y, 0) := by unfold doW; simp
theorem down_one (x : Int) : x / 2 ^ far (low 1) = x / 2 := by
  have h : far (low 1) = 1 := by decide +kernel
  rw [h, Int.pow_one]

set_option maxRecDepth 100000 in
set_option maxHeartbeats 4000000 in
theorem shifts_walk (K : Keeps) (a k : Int) (ha : I64 a) (hk : I64 k) (w : World) :
    Calls Try.prog 7 #[.int .i64 a, .int .i64 k] w fun e w' => e = .returned (.bool true) ∧ w = w' := by
  have HLA := Lib.hid (K.low a ha w)
  have HUP := Lib.hid (K.does 14 a k (by unfold I64; omega) ha hk w)
  have HBK := Lib.hid (fun s (hs : Word s) => K.does 15 s k (by unfold I64; omega) hs.i64 hk w)
  have HDN := Lib.hid (K.does 15 a 1 (by unfold I64; omega) ha (by unfold I64; omega) w)
  have HFT := Lib.hid (fun p (hp : I64 p) => K.fits p hp w)
  have HL := Lib.hid (lives_any K w)
  have hx := low_word a
  have hr := far_range k
  have hm := far_lt k
  rw [shl_in, far_low] at HUP
  rw [shr_in, down_one] at HDN
  clear ha hk
  generalize low a = x at *
  have hpp := pow_pos' (far k)
  have hpb := by_bound hm
  have hmb := moved_bound hx (Int.le_of_lt hpp) hpb
  have HB1 := Lib.hid (HBK.out (low (x * 2 ^ far k)) (low_word _))
  rw [shr_in, low_low, far_low] at HB1
  have HF1 := Lib.hid (HFT.out (x * 2 ^ far k) (by unfold I64; omega))
  have hd : -1073741824 ≤ x / 2 ∧ x / 2 ≤ 1073741823 ∧ 2 * (x / 2) ≤ x ∧ x ≤ 2 * (x / 2) + 1 := by unfold Word at hx; omega
  have hulw := low_word (x * 2 ^ far k)
  have HEQ : Hid (Word (x * 2 ^ far k) → low (x * 2 ^ far k) = x * 2 ^ far k ∧ low (x * 2 ^ far k) / 2 ^ far k = x) := Lib.hid (fun h => by
    rw [low_id h]
    exact ⟨rfl, Int.mul_ediv_cancel _ (Int.ne_of_gt hpp)⟩)
  have hbw : Word (low (x * 2 ^ far k) / 2 ^ far k) := down_word hulw _
  unfold two at HUP HDN HB1
  have HPW : Hid ((2 : Int) ^ far k = ((2 ^ far k : Nat) : Int)) := Lib.hid (by rw [Int.natCast_pow]; rfl)
  have HKN := Lib.hid (fun h => far_neg (b := k) h)
  have HKP := Lib.hid (fun h => far_pos (b := k) h)
  clear HBK HFT hpp hpb
  generalize low (x * 2 ^ far k) / 2 ^ far k = bk at *
  generalize low (x * 2 ^ far k) = up at *
  generalize far k = m at *
  generalize (2 : Int) ^ m = q at *
  unfold Word at hx hulw hbw
  by_cases hfw : Word (x * q)
  · obtain ⟨h1, h2⟩ := HEQ.out hfw
    subst h1
    obtain rfl := h2.symm
    rw [show decide (Word (x * q)) = true from by rw [decide_eq_true_iff]; exact hfw] at HF1
    clear HEQ hfw
    by_cases hneg : k.tmod 32 < 0
    · have HKE := Lib.hid (HKN.out hneg)
      go_enter Try.func7, Try.ntmps7
      go_wp2_with fail
      refine HLA.out.mono ?_
      rintro e w1 ⟨rfl, rfl⟩
      go_wp2_with fail
      rw [HKE.out]
      refine HUP.out.mono ?_
      rintro e w1 ⟨rfl, rfl⟩
      clear hneg hr HKN HKP
      go_wp2_with fail
      refine HB1.out.mono ?_
      rintro e w1 ⟨rfl, rfl⟩
      go_wp2_with fail
      refine HDN.out.mono ?_
      rintro e w1 ⟨rfl, rfl⟩
      go_wp2_with fail
      go_loop [13, 14] (fun bv iv => ∃ j p : Nat, iv = .int .i64 (j : Int) ∧ bv = .int .i64 (p : Int) ∧ j ≤ m ∧ Hid (p = 2 ^ j)) (fun _ iv => m - (intOf iv).toNat)
      case atStart => exact ⟨0, 1, rfl, rfl, by omega, Lib.hid rfl⟩
      case round =>
        obtain ⟨j, p, rfl, rfl, hj, HP⟩ := hrel
        have hpb : p ≤ 2147483648 := by
          have h1 := HP.out
          have h2 : 2 ^ j ≤ 2 ^ 31 := Nat.pow_le_pow_right (by omega) (by omega)
          have h3 : (2 : Nat) ^ 31 = 2147483648 := rfl
          omega
        by_cases hlt : j < m
        · go_wp2
          go_round
          case rel => exact ⟨j + 1, p * 2, by go_num, by go_num, by omega, Lib.hid (by rw [HP.out, Nat.pow_succ])⟩
          case measure => simp [intOf]; omega
        · obtain rfl : j = m := by omega
          have HPQ : Hid ((p : Int) = q) := Lib.hid (by rw [HPW.out, HP.out])
          rw [HPQ.out]
          go_wp2_with fail
          refine HF1.out.mono ?_
          rintro e w1 ⟨rfl, rfl⟩
          go_wp2_with fail
          refine HL.out.mono ?_
          rintro e w1 ⟨rfl, rfl⟩
          go_wp2
          go_ret
          exact ⟨rfl, rfl⟩
    · have HKE := Lib.hid (HKP.out hneg)
      go_enter Try.func7, Try.ntmps7
      go_wp2_with fail
      refine HLA.out.mono ?_
      rintro e w1 ⟨rfl, rfl⟩
      go_wp2_with fail
      rw [HKE.out]
      refine HUP.out.mono ?_
      rintro e w1 ⟨rfl, rfl⟩
      clear hneg hr HKN HKP
      go_wp2_with fail
      refine HB1.out.mono ?_
      rintro e w1 ⟨rfl, rfl⟩
      go_wp2_with fail
      refine HDN.out.mono ?_
      rintro e w1 ⟨rfl, rfl⟩
      go_wp2_with fail
      go_loop [13, 14] (fun bv iv => ∃ j p : Nat, iv = .int .i64 (j : Int) ∧ bv = .int .i64 (p : Int) ∧ j ≤ m ∧ Hid (p = 2 ^ j)) (fun _ iv => m - (intOf iv).toNat)
      case atStart => exact ⟨0, 1, rfl, rfl, by omega, Lib.hid rfl⟩
      case round =>
        obtain ⟨j, p, rfl, rfl, hj, HP⟩ := hrel
        have hpb : p ≤ 2147483648 := by
          have h1 := HP.out
          have h2 : 2 ^ j ≤ 2 ^ 31 := Nat.pow_le_pow_right (by omega) (by omega)
          have h3 : (2 : Nat) ^ 31 = 2147483648 := rfl
          omega
        by_cases hlt : j < m
        · go_wp2
          go_round
          case rel => exact ⟨j + 1, p * 2, by go_num, by go_num, by omega, Lib.hid (by rw [HP.out, Nat.pow_succ])⟩
          case measure => simp [intOf]; omega
        · obtain rfl : j = m := by omega
          have HPQ : Hid ((p : Int) = q) := Lib.hid (by rw [HPW.out, HP.out])
          rw [HPQ.out]
          go_wp2_with fail
          refine HF1.out.mono ?_
          rintro e w1 ⟨rfl, rfl⟩
          go_wp2_with fail
          refine HL.out.mono ?_
          rintro e w1 ⟨rfl, rfl⟩
          go_wp2
          go_ret
          exact ⟨rfl, rfl⟩
  · rw [show decide (Word (x * q)) = false from by rw [decide_eq_false_iff_not]; exact hfw] at HF1
    clear HEQ hfw
    by_cases hneg : k.tmod 32 < 0
    · have HKE := Lib.hid (HKN.out hneg)
      go_enter Try.func7, Try.ntmps7
      go_wp2_with fail
      refine HLA.out.mono ?_
      rintro e w1 ⟨rfl, rfl⟩
      go_wp2_with fail
      rw [HKE.out]
      refine HUP.out.mono ?_
      rintro e w1 ⟨rfl, rfl⟩
      clear hneg hr HKN HKP
      go_wp2_with fail
      refine HB1.out.mono ?_
      rintro e w1 ⟨rfl, rfl⟩
      go_wp2_with fail
      refine HDN.out.mono ?_
      rintro e w1 ⟨rfl, rfl⟩
      go_wp2_with fail
      go_loop [13, 14] (fun bv iv => ∃ j p : Nat, iv = .int .i64 (j : Int) ∧ bv = .int .i64 (p : Int) ∧ j ≤ m ∧ Hid (p = 2 ^ j)) (fun _ iv => m - (intOf iv).toNat)
      case atStart => exact ⟨0, 1, rfl, rfl, by omega, Lib.hid rfl⟩
      case round =>
        obtain ⟨j, p, rfl, rfl, hj, HP⟩ := hrel
        have hpb : p ≤ 2147483648 := by
          have h1 := HP.out
          have h2 : 2 ^ j ≤ 2 ^ 31 := Nat.pow_le_pow_right (by omega) (by omega)
          have h3 : (2 : Nat) ^ 31 = 2147483648 := rfl
          omega
        by_cases hlt : j < m
        · go_wp2
          go_round
          case rel => exact ⟨j + 1, p * 2, by go_num, by go_num, by omega, Lib.hid (by rw [HP.out, Nat.pow_succ])⟩
          case measure => simp [intOf]; omega
        · obtain rfl : j = m := by omega
          have HPQ : Hid ((p : Int) = q) := Lib.hid (by rw [HPW.out, HP.out])
          rw [HPQ.out]
          go_wp2_with fail
          refine HF1.out.mono ?_
          rintro e w1 ⟨rfl, rfl⟩
          go_wp2_with fail
          refine HL.out.mono ?_
          rintro e w1 ⟨rfl, rfl⟩
          go_wp2
          go_ret
          exact ⟨rfl, rfl⟩
    · have HKE := Lib.hid (HKP.out hneg)
      go_enter Try.func7, Try.ntmps7
      go_wp2_with fail
      refine HLA.out.mono ?_
      rintro e w1 ⟨rfl, rfl⟩
      go_wp2_with fail
      rw [HKE.out]
      refine HUP.out.mono ?_
      rintro e w1 ⟨rfl, rfl⟩
      clear hneg hr HKN HKP
      go_wp2_with fail
      refine HB1.out.mono ?_
      rintro e w1 ⟨rfl, rfl⟩
      go_wp2_with fail
      refine HDN.out.mono ?_
      rintro e w1 ⟨rfl, rfl⟩
      go_wp2_with fail
      go_loop [13, 14] (fun bv iv => ∃ j p : Nat, iv = .int .i64 (j : Int) ∧ bv = .int .i64 (p : Int) ∧ j ≤ m ∧ Hid (p = 2 ^ j)) (fun _ iv => m - (intOf iv).toNat)
      case atStart => exact ⟨0, 1, rfl, rfl, by omega, Lib.hid rfl⟩
      case round =>
        obtain ⟨j, p, rfl, rfl, hj, HP⟩ := hrel
        have hpb : p ≤ 2147483648 := by
          have h1 := HP.out
          have h2 : 2 ^ j ≤ 2 ^ 31 := Nat.pow_le_pow_right (by omega) (by omega)
          have h3 : (2 : Nat) ^ 31 = 2147483648 := rfl
          omega
        by_cases hlt : j < m
        · go_wp2
          go_round
          case rel => exact ⟨j + 1, p * 2, by go_num, by go_num, by omega, Lib.hid (by rw [HP.out, Nat.pow_succ])⟩
          case measure => simp [intOf]; omega
        · obtain rfl : j = m := by omega
          have HPQ : Hid ((p : Int) = q) := Lib.hid (by rw [HPW.out, HP.out])
          rw [HPQ.out]
          go_wp2_with fail
          refine HF1.out.mono ?_
          rintro e w1 ⟨rfl, rfl⟩
          go_wp2_with fail
          refine HL.out.mono ?_
          rintro e w1 ⟨rfl, rfl⟩
          go_wp2
          go_ret
          exact ⟨rfl, rfl⟩
end Go.Proofs.Ythjmcibpfgkgbaa.word
