/-
  The document's own answers of words, each by itself: the word of the lowest bits, which numbers are words, a bit, two words bit by bit, a word that is moved, and what an operation comes to. No condition.
-/
import Derived.Test.YthjmcibpfgkgbaaProg
import Derived.Test.YthjmcibpfgkgbaaWPlain
import Derived.WalkKit
import Derived.ProofKit
import Derived.IntWalk
import Derived.LoopTactic
import Derived.Lib.Hide
import Derived.Outline
namespace Go.Proofs.Ythjmcibpfgkgbaa.word
open Go.RowKit Go.ChangeShapes

theorem ret_int {k : IntKind} {a b : Int} (h : a = b) : Ending.returned (.int k a) = .returned (.int k b) := by rw [h]
theorem ret_bool {a b : Bool} (h : a = b) : Ending.returned (.bool a) = .returned (.bool b) := by rw [h]

set_option maxHeartbeats 400000 in
theorem refLow_any (n : Int) (w : World) :
    Calls Try.prog 14 #[.int .i64 n] w fun e w' => e = .returned (.int .i64 (low n)) ∧ w = w' := by
  have HL := Lib.hid (low_tmod n)
  have hr := tmod_range n
  by_cases h1 : 2147483648 ≤ n.tmod 4294967296
  · have HE : Hid (low n = n.tmod 4294967296 - 4294967296) := Lib.hid (by rw [HL.out, if_pos h1])
    go_enter Try.func14, Try.ntmps14
    go_wp2
    go_ret
    exact ⟨ret_int HE.out.symm, rfl⟩
  · by_cases h2 : n.tmod 4294967296 < -2147483648
    · have HE : Hid (low n = n.tmod 4294967296 + 4294967296) := Lib.hid (by rw [HL.out, if_neg h1, if_pos h2])
      go_enter Try.func14, Try.ntmps14
      go_wp2
      go_ret
      exact ⟨ret_int HE.out.symm, rfl⟩
    · have HE : Hid (low n = n.tmod 4294967296) := Lib.hid (by rw [HL.out, if_neg h1, if_neg h2])
      go_enter Try.func14, Try.ntmps14
      go_wp2
      go_ret
      exact ⟨ret_int HE.out.symm, rfl⟩

set_option maxHeartbeats 400000 in
theorem refFits_any (n : Int) (w : World) :
    Calls Try.prog 10 #[.int .i64 n] w fun e w' => e = .returned (.bool (decide (Word n))) ∧ w = w' := by
  by_cases h1 : -2147483648 ≤ n
  · by_cases h2 : n < 2147483648
    · have HE : Hid (decide (Word n) = true) := Lib.hid (by rw [decide_eq_true_iff]; unfold Word; omega)
      go_enter Try.func10, Try.ntmps10
      go_wp2
      go_ret
      exact ⟨ret_bool HE.out.symm, rfl⟩
    · have HE : Hid (decide (Word n) = false) := Lib.hid (by rw [decide_eq_false_iff_not]; unfold Word; omega)
      have hd : decide (n < 2147483648) = false := by simpa using h2
      go_enter Try.func10, Try.ntmps10
      go_wp2
      go_ret
      exact ⟨ret_bool HE.out.symm, rfl⟩
  · have HE : Hid (decide (Word n) = false) := Lib.hid (by rw [decide_eq_false_iff_not]; unfold Word; omega)
    have hd : decide (-2147483648 ≤ n) = false := by simpa using h1
    go_enter Try.func10, Try.ntmps10
    go_wp2
    go_ret
    exact ⟨ret_bool HE.out.symm, rfl⟩

/-- Two numbers, as a call tells them. -/
def two (p : Int × Int) : Value := .tuple #[.int .i64 p.1, .int .i64 p.2]

set_option maxHeartbeats 400000 in
theorem refExact_any (n : Int) (w : World) :
    Calls Try.prog 22 #[.int .i64 n] w fun e w' => e = .returned (two (ex n)) ∧ w = w' := by
  have HF := Lib.hid (refFits_any n w)
  by_cases h : Word n
  · rw [show decide (Word n) = true from by rw [decide_eq_true_iff]; exact h] at HF
    have HE : Hid (ex n = (n, 0)) := Lib.hid (by unfold ex; rw [if_pos h])
    rw [HE.out]
    clear h
    go_enter Try.func22, Try.ntmps22
    go_wp2_with fail
    refine HF.out.mono ?_
    rintro e w1 ⟨rfl, rfl⟩
    go_wp2
    go_ret2
    exact ⟨rfl, rfl⟩
  · rw [show decide (Word n) = false from by rw [decide_eq_false_iff_not]; exact h] at HF
    have HE : Hid (ex n = (0, 1)) := Lib.hid (by unfold ex; rw [if_neg h])
    rw [HE.out]
    clear h
    go_enter Try.func22, Try.ntmps22
    go_wp2_with fail
    refine HF.out.mono ?_
    rintro e w1 ⟨rfl, rfl⟩
    go_wp2
    go_ret2
    exact ⟨rfl, rfl⟩

set_option maxHeartbeats 1000000 in
theorem refBit_any (n : Int) (hn : Word n) (k : Nat) (hk : k < 32) (w : World) :
    Calls Try.prog 25 #[.int .i64 n, .int .i64 (k : Int)] w fun e w' => e = .returned (.int .i64 ((bitAt (un n) k : Nat) : Int)) ∧ w = w' := by
  have HU := Lib.hid (un_word hn)
  have hul := un_lt n
  have HB : Hid (bitAt (un n) k = un n / 2 ^ k % 2) := Lib.hid rfl
  generalize un n = u at *
  by_cases h0 : n < 0
  · have HUE : Hid (n + 4294967296 = (u : Int)) := Lib.hid (by rw [HU.out, if_pos h0])
    unfold Word at hn
    go_enter Try.func25, Try.ntmps25
    go_wp2
    rw [HUE.out]
    clear HU h0 hn
    go_loop [0, 5] (fun t i => ∃ j x : Nat, i = .int .i64 (j : Int) ∧ t = .int .i64 (x : Int) ∧ j ≤ k ∧ x < 4294967296 ∧ Hid (x = u / 2 ^ j)) (fun _ i => k - (intOf i).toNat)
    case atStart => exact ⟨0, u, rfl, rfl, by omega, hul, Lib.hid (by simp)⟩
    case round =>
      obtain ⟨j, x, rfl, rfl, hj, hx, HE⟩ := hrel
      by_cases hlt : j < k
      · go_wp2
        go_round
        case rel => exact ⟨j + 1, x / 2, by go_num, rfl, by omega, by omega, Lib.hid (by rw [HE.out, bitAt_succ])⟩
        case measure => simp [intOf]; omega
      · obtain rfl : j = k := by omega
        go_wp2
        go_ret
        exact ⟨ret_int (by rw [HB.out, ← HE.out]; rfl), rfl⟩
  · have HUE : Hid (n = (u : Int)) := Lib.hid (by rw [HU.out, if_neg h0])
    unfold Word at hn
    go_enter Try.func25, Try.ntmps25
    go_wp2
    obtain rfl := HUE.out
    clear HU h0 hn HUE
    go_loop [0, 5] (fun t i => ∃ j x : Nat, i = .int .i64 (j : Int) ∧ t = .int .i64 (x : Int) ∧ j ≤ k ∧ x < 4294967296 ∧ Hid (x = u / 2 ^ j)) (fun _ i => k - (intOf i).toNat)
    case atStart => exact ⟨0, u, rfl, rfl, by omega, hul, Lib.hid (by simp)⟩
    case round =>
      obtain ⟨j, x, rfl, rfl, hj, hx, HE⟩ := hrel
      by_cases hlt : j < k
      · go_wp2
        go_round
        case rel => exact ⟨j + 1, x / 2, by go_num, rfl, by omega, by omega, Lib.hid (by rw [HE.out, bitAt_succ])⟩
        case measure => simp [intOf]; omega
      · obtain rfl : j = k := by omega
        go_wp2
        go_ret
        exact ⟨ret_int (by rw [HB.out, ← HE.out]; rfl), rfl⟩

set_option maxHeartbeats 4000000 in
theorem refBits_any (op : Int) (hop : op = 11 ∨ op = 12 ∨ op = 13) (a b : Int) (ha : Word a) (hb : Word b) (w : World) :
    Calls Try.prog 23 #[.int .i64 op, .int .i64 a, .int .i64 b] w fun e w' => e = .returned (.int .i64 (low (bitop op (un a) (un b) : Nat))) ∧ w = w' := by
  have hN := bitop_lt op (un_lt a) (un_lt b)
  have HAT := Lib.hid (bitop_at hop (un a) (un b))
  generalize bitop op (un a) (un b) = N at *
  have HA := Lib.hid (fun k hk (u : World) => refBit_any a ha k hk u)
  have HB := Lib.hid (fun k hk (u : World) => refBit_any b hb k hk u)
  clear ha hb
  go_enter Try.func23, Try.ntmps23
  go_wp2
  go_loop [7, 8, 9] (fun nv bv iv => ∃ (k p q : Nat), iv = .int .i64 (k : Int) ∧ nv = .int .i64 (p : Int) ∧ bv = .int .i64 (q : Int) ∧ k ≤ 32 ∧ Hid (q = 2 ^ k) ∧ Hid (p = N % 2 ^ k)) (fun _ _ iv => 32 - (intOf iv).toNat)
  case atStart => exact ⟨0, 0, 1, rfl, rfl, rfl, by omega, Lib.hid rfl, Lib.hid (by rw [Nat.pow_zero, Nat.mod_one])⟩
  case round =>
    obtain ⟨k, p, q, rfl, rfl, rfl, hk, HQ, HP⟩ := hrel
    by_cases hlt : k < 32
    · have hq : q ≤ 2147483648 := by
        have h1 := HQ.out
        have h2 : 2 ^ k ≤ 2 ^ 31 := Nat.pow_le_pow_right (by omega) (by omega)
        have h3 : (2 : Nat) ^ 31 = 2147483648 := rfl
        omega
      have hp : p ≤ 4294967295 := by
        have h1 := HP.out
        have h2 := Nat.mod_le N (2 ^ k)
        omega
      obtain ⟨x, hx⟩ : ∃ x, x = bitAt (un a) k := ⟨_, rfl⟩
      obtain ⟨y, hy⟩ : ∃ y, y = bitAt (un b) k := ⟨_, rfl⟩
      have hx2 : x < 2 := by rw [hx]; exact bitAt_lt _ _
      have hy2 : y < 2 := by rw [hy]; exact bitAt_lt _ _
      have HBA := Lib.hid (HA.out k hlt)
      have HBB := Lib.hid (HB.out k hlt)
      have HMS : Hid (N % 2 ^ (k + 1) = p + q * (if joins op x y then 1 else 0)) := Lib.hid (by rw [mod_succ, HAT.out k, ← hx, ← hy, ← HP.out, ← HQ.out])
      rw [← hx] at HBA
      rw [← hy] at HBB
      have HQ1 : Hid (q * 2 = 2 ^ (k + 1)) := Lib.hid (by rw [HQ.out, Nat.pow_succ])
      clear hx hy
      rcases hop with rfl | rfl | rfl <;> rcases (show x = 0 ∨ x = 1 by omega) with rfl | rfl <;> rcases (show y = 0 ∨ y = 1 by omega) with rfl | rfl
      · have HE : Hid (N % 2 ^ (k + 1) = p) := Lib.hid (by rw [HMS.out, if_neg (by decide), Nat.mul_zero, Nat.add_zero])
        clear HMS HAT
        go_wp2_with fail
        refine (HBA.out _).mono ?_
        rintro e w1 ⟨rfl, rfl⟩
        go_wp2_with fail
        refine (HBB.out _).mono ?_
        rintro e w1 ⟨rfl, rfl⟩
        go_wp2
        go_round
        case rel => exact ⟨k + 1, p, q * 2, by go_num, by first | rfl | go_num, by go_num, by omega, HQ1, Lib.hid HE.out.symm⟩
        case measure => simp [intOf]; omega
      · have HE : Hid (N % 2 ^ (k + 1) = p) := Lib.hid (by rw [HMS.out, if_neg (by decide), Nat.mul_zero, Nat.add_zero])
        clear HMS HAT
        go_wp2_with fail
        refine (HBA.out _).mono ?_
        rintro e w1 ⟨rfl, rfl⟩
        go_wp2_with fail
        refine (HBB.out _).mono ?_
        rintro e w1 ⟨rfl, rfl⟩
        go_wp2
        go_round
        case rel => exact ⟨k + 1, p, q * 2, by go_num, by first | rfl | go_num, by go_num, by omega, HQ1, Lib.hid HE.out.symm⟩
        case measure => simp [intOf]; omega
      · have HE : Hid (N % 2 ^ (k + 1) = p) := Lib.hid (by rw [HMS.out, if_neg (by decide), Nat.mul_zero, Nat.add_zero])
        clear HMS HAT
        go_wp2_with fail
        refine (HBA.out _).mono ?_
        rintro e w1 ⟨rfl, rfl⟩
        go_wp2_with fail
        refine (HBB.out _).mono ?_
        rintro e w1 ⟨rfl, rfl⟩
        go_wp2
        go_round
        case rel => exact ⟨k + 1, p, q * 2, by go_num, by first | rfl | go_num, by go_num, by omega, HQ1, Lib.hid HE.out.symm⟩
        case measure => simp [intOf]; omega
      · have HE : Hid (N % 2 ^ (k + 1) = p + q) := Lib.hid (by rw [HMS.out, if_pos (by decide), Nat.mul_one])
        clear HMS HAT
        go_wp2_with fail
        refine (HBA.out _).mono ?_
        rintro e w1 ⟨rfl, rfl⟩
        go_wp2_with fail
        refine (HBB.out _).mono ?_
        rintro e w1 ⟨rfl, rfl⟩
        go_wp2
        go_round
        case rel => exact ⟨k + 1, p + q, q * 2, by go_num, by first | rfl | go_num, by go_num, by omega, HQ1, Lib.hid HE.out.symm⟩
        case measure => simp [intOf]; omega
      · have HE : Hid (N % 2 ^ (k + 1) = p) := Lib.hid (by rw [HMS.out, if_neg (by decide), Nat.mul_zero, Nat.add_zero])
        clear HMS HAT
        go_wp2_with fail
        refine (HBA.out _).mono ?_
        rintro e w1 ⟨rfl, rfl⟩
        go_wp2_with fail
        refine (HBB.out _).mono ?_
        rintro e w1 ⟨rfl, rfl⟩
        go_wp2
        go_round
        case rel => exact ⟨k + 1, p, q * 2, by go_num, by first | rfl | go_num, by go_num, by omega, HQ1, Lib.hid HE.out.symm⟩
        case measure => simp [intOf]; omega
      · have HE : Hid (N % 2 ^ (k + 1) = p + q) := Lib.hid (by rw [HMS.out, if_pos (by decide), Nat.mul_one])
        clear HMS HAT
        go_wp2_with fail
        refine (HBA.out _).mono ?_
        rintro e w1 ⟨rfl, rfl⟩
        go_wp2_with fail
        refine (HBB.out _).mono ?_
        rintro e w1 ⟨rfl, rfl⟩
        go_wp2
        go_round
        case rel => exact ⟨k + 1, p + q, q * 2, by go_num, by first | rfl | go_num, by go_num, by omega, HQ1, Lib.hid HE.out.symm⟩
        case measure => simp [intOf]; omega
      · have HE : Hid (N % 2 ^ (k + 1) = p + q) := Lib.hid (by rw [HMS.out, if_pos (by decide), Nat.mul_one])
        clear HMS HAT
        go_wp2_with fail
        refine (HBA.out _).mono ?_
        rintro e w1 ⟨rfl, rfl⟩
        go_wp2_with fail
        refine (HBB.out _).mono ?_
        rintro e w1 ⟨rfl, rfl⟩
        go_wp2
        go_round
        case rel => exact ⟨k + 1, p + q, q * 2, by go_num, by first | rfl | go_num, by go_num, by omega, HQ1, Lib.hid HE.out.symm⟩
        case measure => simp [intOf]; omega
      · have HE : Hid (N % 2 ^ (k + 1) = p + q) := Lib.hid (by rw [HMS.out, if_pos (by decide), Nat.mul_one])
        clear HMS HAT
        go_wp2_with fail
        refine (HBA.out _).mono ?_
        rintro e w1 ⟨rfl, rfl⟩
        go_wp2_with fail
        refine (HBB.out _).mono ?_
        rintro e w1 ⟨rfl, rfl⟩
        go_wp2
        go_round
        case rel => exact ⟨k + 1, p + q, q * 2, by go_num, by first | rfl | go_num, by go_num, by omega, HQ1, Lib.hid HE.out.symm⟩
        case measure => simp [intOf]; omega
      · have HE : Hid (N % 2 ^ (k + 1) = p) := Lib.hid (by rw [HMS.out, if_neg (by decide), Nat.mul_zero, Nat.add_zero])
        clear HMS HAT
        go_wp2_with fail
        refine (HBA.out _).mono ?_
        rintro e w1 ⟨rfl, rfl⟩
        go_wp2_with fail
        refine (HBB.out _).mono ?_
        rintro e w1 ⟨rfl, rfl⟩
        go_wp2
        go_round
        case rel => exact ⟨k + 1, p, q * 2, by go_num, by first | rfl | go_num, by go_num, by omega, HQ1, Lib.hid HE.out.symm⟩
        case measure => simp [intOf]; omega
      · have HE : Hid (N % 2 ^ (k + 1) = p + q) := Lib.hid (by rw [HMS.out, if_pos (by decide), Nat.mul_one])
        clear HMS HAT
        go_wp2_with fail
        refine (HBA.out _).mono ?_
        rintro e w1 ⟨rfl, rfl⟩
        go_wp2_with fail
        refine (HBB.out _).mono ?_
        rintro e w1 ⟨rfl, rfl⟩
        go_wp2
        go_round
        case rel => exact ⟨k + 1, p + q, q * 2, by go_num, by first | rfl | go_num, by go_num, by omega, HQ1, Lib.hid HE.out.symm⟩
        case measure => simp [intOf]; omega
      · have HE : Hid (N % 2 ^ (k + 1) = p + q) := Lib.hid (by rw [HMS.out, if_pos (by decide), Nat.mul_one])
        clear HMS HAT
        go_wp2_with fail
        refine (HBA.out _).mono ?_
        rintro e w1 ⟨rfl, rfl⟩
        go_wp2_with fail
        refine (HBB.out _).mono ?_
        rintro e w1 ⟨rfl, rfl⟩
        go_wp2
        go_round
        case rel => exact ⟨k + 1, p + q, q * 2, by go_num, by first | rfl | go_num, by go_num, by omega, HQ1, Lib.hid HE.out.symm⟩
        case measure => simp [intOf]; omega
      · have HE : Hid (N % 2 ^ (k + 1) = p) := Lib.hid (by rw [HMS.out, if_neg (by decide), Nat.mul_zero, Nat.add_zero])
        clear HMS HAT
        go_wp2_with fail
        refine (HBA.out _).mono ?_
        rintro e w1 ⟨rfl, rfl⟩
        go_wp2_with fail
        refine (HBB.out _).mono ?_
        rintro e w1 ⟨rfl, rfl⟩
        go_wp2
        go_round
        case rel => exact ⟨k + 1, p, q * 2, by go_num, by first | rfl | go_num, by go_num, by omega, HQ1, Lib.hid HE.out.symm⟩
        case measure => simp [intOf]; omega
    · obtain rfl : k = 32 := by omega
      have HPN : Hid ((p : Int) = (N : Int)) := Lib.hid (by
        have h := HP.out
        rw [show (2 : Nat) ^ 32 = 4294967296 from rfl, Nat.mod_eq_of_lt hN] at h
        omega)
      clear hop HAT
      go_wp2_with fail
      rw [HPN.out]
      refine (refLow_any _ _).mono ?_
      rintro e w1 ⟨rfl, rfl⟩
      go_wp2
      go_ret
      exact ⟨rfl, rfl⟩
end Go.Proofs.Ythjmcibpfgkgbaa.word
