/-
  The document's own answers that only compute: whether a number is in a set, its weight, a set with it and without it. No condition.
-/
import Derived.Test.YtjedinodopcdaaaDoorBCount
namespace Go.Proofs.YtjedinodopcdaaaDoor.bits
open Go.RowKit Go.ChangeShapes

theorem half_pow (s j : Nat) : s / 2 ^ j / 2 = s / 2 ^ (j + 1) := by rw [Nat.div_div_eq_div_mul, Nat.pow_succ]
theorem half_val {x : Nat} (hx : Is64 x) : Value.int .u64 (IntKind.u64.wrap ((x : Int) / 2)) = .int .u64 ((x / 2 : Nat) : Int) := by
  unfold Is64 at hx
  rw [IntKind.wrap_u64]
  congr 1
  omega
theorem odd_eq (x : Nat) : (((x : Int) % 2) == 1) = decide (x % 2 = 1) := by
  rw [Bool.eq_iff_iff]
  simp
  omega

set_option maxHeartbeats 1000000 in
theorem refHas_any (s : Nat) (hs : Is64 s) (n : Int) (w : World) :
    Calls Tryd.prog 25 #[.int .u64 (s : Int), .int .i64 n] w fun e w' => e = .returned (.bool (hasB s n)) ∧ w = w' := by
  by_cases h0 : n < 0
  · have hb : hasB s n = false := by unfold hasB; rw [decide_eq_false (by unfold may; omega)]; rfl
    rw [hb]
    clear hb
    go_enter Tryd.func25, Tryd.ntmps25
    go_wp2
    go_ret
    exact ⟨rfl, rfl⟩
  · by_cases h1 : 63 < n
    · have hb : hasB s n = false := by unfold hasB; rw [decide_eq_false (by unfold may; omega)]; rfl
      rw [hb]
      clear hb
      go_enter Tryd.func25, Tryd.ntmps25
      go_wp2
      go_ret
      exact ⟨rfl, rfl⟩
    · obtain ⟨k, rfl⟩ : ∃ k : Nat, n = (k : Int) := ⟨n.toNat, by omega⟩
      have hk : k < 64 := by omega
      have hb : hasB s (k : Int) = decide (s / 2 ^ k % 2 = 1) := by
        unfold hasB
        rw [decide_eq_true (by unfold may; omega), Bool.true_and, testBit_div]
        rfl
      rw [hb]
      clear hb h0 h1
      have hd : decide ((63 : Int) < (k : Int)) = false := by simp; omega
      go_enter Tryd.func25, Tryd.ntmps25
      go_wp2
      go_loop [0, 5] (fun t i => ∃ j x : Nat, j ≤ k ∧ i = .int .i64 (j : Int) ∧ t = .int .u64 (x : Int) ∧ Is64 x ∧ Hid (x = s / 2 ^ j)) (fun _ i => k - (intOf i).toNat)
      case atStart => exact ⟨0, s, Nat.zero_le _, rfl, rfl, hs, Lib.hid (by simp)⟩
      case round =>
        obtain ⟨j, x, hj, rfl, rfl, hx, HE⟩ := hrel
        by_cases hlt : j < k
        · go_wp2
          go_round
          case rel => exact ⟨j + 1, x / 2, by omega, by go_num, half_val hx, by unfold Is64 at *; omega, Lib.hid (by rw [HE.out, half_pow])⟩
          case measure => simp [intOf]; omega
        · obtain rfl : j = k := by omega
          go_wp2
          go_ret
          exact ⟨ret_bool (by rw [← HE.out]; exact odd_eq x), rfl⟩

set_option maxHeartbeats 1000000 in
theorem power_any (k : Nat) (hk : k < 64) (w : World) :
    Calls Tryd.prog 34 #[.int .i64 (k : Int)] w fun e w' => e = .returned (.int .u64 ((2 ^ k : Nat) : Int)) ∧ w = w' := by
  go_enter Tryd.func34, Tryd.ntmps34
  go_wp2
  go_loop [3, 4] (fun t i => ∃ j x : Nat, j ≤ k ∧ i = .int .i64 (j : Int) ∧ t = .int .u64 (x : Int) ∧ Hid (x = 2 ^ j)) (fun _ i => k - (intOf i).toNat)
  case atStart => exact ⟨0, 1, Nat.zero_le _, rfl, rfl, Lib.hid rfl⟩
  case round =>
    obtain ⟨j, x, hj, rfl, rfl, HE⟩ := hrel
    by_cases hlt : j < k
    · have hb : x < 9223372036854775808 := by
        have h1 := HE.out
        have h2 : 2 ^ j < 2 ^ 63 := Nat.pow_lt_pow_right (by omega) (by omega)
        have h3 : (2 : Nat) ^ 63 = 9223372036854775808 := rfl
        omega
      go_wp2
      go_round
      case rel => exact ⟨j + 1, x * 2, by omega, by go_num, by go_num, Lib.hid (by rw [HE.out, Nat.pow_succ])⟩
      case measure => simp [intOf]; omega
    · obtain rfl : j = k := by omega
      go_wp2
      go_ret
      exact ⟨ret_int (congrArg (fun y : Nat => (y : Int)) HE.out), rfl⟩

theorem wth_yes {s : Nat} {n : Int} (h : hasB s n = true) : wth s n = s := by
  unfold hasB at h
  rw [Bool.and_eq_true, decide_eq_true_iff] at h
  unfold wth ins
  rw [if_pos h.1, if_pos h.2]
theorem wth_no {s : Nat} {n : Int} (hm : may n) (h : hasB s n = false) : wth s n = s + 2 ^ n.toNat := by
  unfold hasB at h
  rw [decide_eq_true hm, Bool.true_and] at h
  unfold wth ins
  rw [if_pos hm, if_neg (by rw [h]; exact Bool.false_ne_true)]
theorem wout_no {s : Nat} {n : Int} (h : hasB s n = false) : wout s n = s := by
  unfold hasB at h
  unfold wout del
  split
  · rename_i hm
    rw [decide_eq_true hm, Bool.true_and] at h
    rw [if_neg (by rw [h]; exact Bool.false_ne_true)]
  · rfl
theorem wout_yes {s : Nat} {n : Int} (h : hasB s n = true) : wout s n = s - 2 ^ n.toNat ∧ may n ∧ 2 ^ n.toNat ≤ s := by
  unfold hasB at h
  rw [Bool.and_eq_true, decide_eq_true_iff] at h
  obtain ⟨t, h1, _, _⟩ := del_spec h.2
  refine ⟨?_, h.1, by omega⟩
  unfold wout del
  rw [if_pos h.1, if_pos h.2]

set_option maxHeartbeats 1000000 in
theorem refWith_any (s : Nat) (hs : Is64 s) (n : Int) (w : World) :
    Calls Tryd.prog 30 #[.int .u64 (s : Int), .int .i64 n] w fun e w' => e = .returned (.int .u64 ((wth s n : Nat) : Int)) ∧ w = w' := by
  by_cases h0 : n < 0
  · have hb : wth s n = s := by unfold wth; rw [if_neg (by unfold may; omega)]
    rw [hb]
    clear hb
    go_enter Tryd.func30, Tryd.ntmps30
    go_wp2
    go_ret
    exact ⟨rfl, rfl⟩
  · by_cases h1 : 63 < n
    · have hb : wth s n = s := by unfold wth; rw [if_neg (by unfold may; omega)]
      rw [hb]
      clear hb
      go_enter Tryd.func30, Tryd.ntmps30
      go_wp2
      go_ret
      exact ⟨rfl, rfl⟩
    · have hm : may n := by unfold may; omega
      obtain ⟨k, rfl⟩ : ∃ k : Nat, n = (k : Int) := ⟨n.toNat, by omega⟩
      have hk : k < 64 := by omega
      have hd : decide ((63 : Int) < (k : Int)) = false := by simp; omega
      have HH := Lib.hid (refHas_any s hs (k : Int) w)
      by_cases hb : hasB s (k : Int) = true
      · rw [wth_yes hb]
        rw [hb] at HH
        clear hb h0 h1 hm
        go_enter Tryd.func30, Tryd.ntmps30
        go_wp2_with fail
        refine HH.out.mono ?_
        rintro e w1 ⟨rfl, rfl⟩
        go_wp2
        go_ret
        exact ⟨rfl, rfl⟩
      · have hb' : hasB s (k : Int) = false := by simpa using hb
        have hl := wth_lt hs (k : Int)
        have HW : Hid (wth s (k : Int) = s + 2 ^ k) := Lib.hid (wth_no hm hb')
        have HS : Hid (IntKind.u64.wrap ((s : Int) + ((2 ^ k : Nat) : Int)) = ((wth s (k : Int) : Nat) : Int)) := Lib.hid (by
          have h := HW.out
          rw [h] at hl ⊢
          exact two_sum hl)
        rw [hb'] at HH
        clear hb hb' h0 h1 hm hl
        go_enter Tryd.func30, Tryd.ntmps30
        go_wp2_with fail
        refine HH.out.mono ?_
        rintro e w1 ⟨rfl, rfl⟩
        go_wp2_with fail
        refine (power_any k hk _).mono ?_
        rintro e w1 ⟨rfl, rfl⟩
        go_wp2
        go_ret
        exact ⟨ret_int HS.out, rfl⟩

end Go.Proofs.YtjedinodopcdaaaDoor.bits
