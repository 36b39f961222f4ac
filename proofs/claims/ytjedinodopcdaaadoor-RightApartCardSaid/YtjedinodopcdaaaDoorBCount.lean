/-
  How many numbers a set has, as math/bits counts them. The program's call. No condition.
-/
import Derived.Test.YtjedinodopcdaaaDoorBOnes
import Derived.LoopTactic
import Derived.IntWalk
namespace Go.Proofs.YtjedinodopcdaaaDoor.bits
open Go.RowKit Go.ChangeShapes

theorem i64_mask (n : Int) (k : Nat) (hk : k < 62) (m : Int) (hm : m = ((2 ^ k - 1 : Nat) : Int)) : bits .and .i64 n m = n % ((2 ^ k : Nat) : Int) := by
  have hp : 2 ^ k ≤ 2 ^ 61 := Nat.pow_le_pow_right (by omega) (by omega)
  have h0 : 0 < 2 ^ k := Nat.two_pow_pos k
  have p61 : (2 : Nat) ^ 61 = 2305843009213693952 := rfl
  have hd : (2 ^ k : Nat) ∣ 2 ^ 64 := Nat.pow_dvd_pow 2 (by omega)
  rw [hm]
  show IntKind.i64.wrap ((BitVec.ofInt 64 n &&& BitVec.ofInt 64 ((2 ^ k - 1 : Nat) : Int)).toNat : Int) = _
  have e2 : (BitVec.ofInt 64 ((2 ^ k - 1 : Nat) : Int)).toNat = 2 ^ k - 1 := by
    rw [BitVec.ofInt_natCast, BitVec.toNat_ofNat]
    exact Nat.mod_eq_of_lt (by omega)
  have hl : (n % 18446744073709551616).toNat % 2 ^ k < 2 ^ k := Nat.mod_lt _ h0
  rw [BitVec.toNat_and, e2, BitVec.toNat_ofInt, Nat.and_two_pow_sub_one_eq_mod]
  have e3 : (((n % ((2 ^ 64 : Nat) : Int)).toNat % 2 ^ k : Nat) : Int) = n % ((2 ^ k : Nat) : Int) := by
    rw [Int.natCast_emod, Int.toNat_of_nonneg (Int.emod_nonneg _ (by decide)), Int.emod_emod_of_dvd n (Int.natCast_dvd_natCast.2 hd)]
  rw [e3, IntKind.wrap_i64]
  have h1 : 0 ≤ n % ((2 ^ k : Nat) : Int) := Int.emod_nonneg _ (by omega)
  have h2 : n % ((2 ^ k : Nat) : Int) < ((2 ^ k : Nat) : Int) := Int.emod_lt_of_pos _ (by omega)
  omega
theorem i64_low7 (n : Int) : bits .and .i64 n 127 = n % 128 := i64_mask n 7 (by omega) 127 rfl
theorem i64_low6 (n : Int) : bits .and .i64 n 63 = n % 64 := i64_mask n 6 (by omega) 63 rfl

set_option maxHeartbeats 400000 in
theorem ones_any (s : Nat) (hs : Is64 s) (w : World) :
    Calls Tryd.prog 38 #[.int .u64 (s : Int)] w fun e w' => e = .returned (.int .i64 ((els s).length : Int)) ∧ w = w' := by
  obtain ⟨g1, b1⟩ := ones1 hs
  obtain ⟨g2, b2⟩ := ones2 b1
  have g3 := ones3 s b2
  obtain ⟨x, y, z, g4, g5, g6, hz, hp⟩ := ones4 s
  rw [← hp]
  have H1 := Lib.hid g1
  have H2 := Lib.hid g2
  have H3 := Lib.hid g3
  have H4 := Lib.hid g4
  have H5 := Lib.hid g5
  have H6 := Lib.hid g6
  have H7 : Hid (bits .and .i64 (z : Int) 127 = ((z % 128 : Nat) : Int)) := by rw [i64_low7]; rfl
  clear g1 g2 g3 g4 g5 g6 hp b1 b2
  go_enter Tryd.func38, Tryd.ntmps38
  go_upto_region 2 with fail
  simp only [H1.out]
  go_upto_region 3 with fail
  simp only [H2.out]
  go_upto_region 4 with fail
  simp only [H3.out]
  go_upto_region 5 with fail
  simp only [H4.out]
  go_upto_region 6 with fail
  simp only [H5.out]
  go_upto_region 7 with fail
  simp only [H6.out]
  go_wp2
  go_ret
  exact ⟨ret_int H7.out, rfl⟩

set_option maxHeartbeats 400000 in
theorem count_any (s : Nat) (hs : Is64 s) (w : World) :
    Calls Tryd.prog 35 #[.int .u64 (s : Int)] w fun e w' => e = .returned (.int .i64 ((els s).length : Int)) ∧ w = w' := by
  go_enter Tryd.func35, Tryd.ntmps35
  go_wp2_with fail
  refine (ones_any s hs _).mono ?_
  rintro e w1 ⟨rfl, rfl⟩
  go_wp2
  go_ret
  exact ⟨rfl, rfl⟩

end Go.Proofs.YtjedinodopcdaaaDoor.bits
