/-
  The program's call that moves all numbers of a set. No condition.
-/
import Derived.Test.YthpkndiegnhnbaaDoorBCount
namespace Go.Proofs.YthpkndiegnhnbaaDoor.bits
open Go.RowKit Go.ChangeShapes

theorem turn_eq {s k : Nat} (hs : Is64 s) (hk : k < 64) : bits BinOp.or IntKind.u64 (IntKind.u64.wrap ((s : Int) * 2 ^ k)) ((s : Int) / 2 ^ (64 - k)) = ((up s k : Nat) : Int) := by
  have e1 : IntKind.u64.wrap ((s : Int) * 2 ^ k) = ((s * 2 ^ k % 18446744073709551616 : Nat) : Int) := by
    rw [IntKind.wrap_u64, Int.natCast_emod, Int.natCast_mul, Int.natCast_pow]
    rfl
  have e2 : ((s : Int) / 2 ^ (64 - k)) = ((s / 2 ^ (64 - k) : Nat) : Int) := by
    rw [Int.natCast_ediv, Int.natCast_pow]
    rfl
  rw [e1, e2, or_u64 (Nat.mod_lt _ (by omega)) (Nat.lt_of_le_of_lt (Nat.div_le_self _ _) hs), ← up_turn hs hk]
set_option maxHeartbeats 400000 in
theorem turn_any (s : Nat) (hs : Is64 s) (k : Nat) (hk : k < 64) (w : World) :
    Calls Tryd.prog 36 #[.int .u64 (s : Int), .int .i64 (k : Int)] w fun e w' => e = .returned (.int .u64 ((up s k : Nat) : Int)) ∧ w = w' := by
  have HA : Hid (bits .and .u64 (k : Int) 63 = (k : Int)) := Lib.hid (by
    have h := and_cast (a := k) (by unfold Is64; omega) 63 (by unfold Is64; omega) 63 rfl
    rw [h, show (63 : Nat) = 2 ^ 6 - 1 from rfl, Nat.and_two_pow_sub_one_eq_mod]
    omega)
  have HU := Lib.hid (turn_eq hs hk)
  go_enter Tryd.func36, Tryd.ntmps36
  go_upto_region 2 with fail
  simp only [HA.out]
  go_wp2
  go_ret
  exact ⟨ret_int HU.out, rfl⟩

set_option maxHeartbeats 400000 in
theorem up_any (s : Nat) (hs : Is64 s) (n : Int) (w : World) :
    Calls Tryd.prog 26 #[.int .u64 (s : Int), .int .i64 n] w fun e w' => e = .returned (.int .u64 ((up s (n % 64).toNat : Nat) : Int)) ∧ w = w' := by
  have HM : Hid (bits .and .i64 n 63 = ((n % 64).toNat : Int)) := Lib.hid (by rw [i64_low6]; omega)
  have hk : (n % 64).toNat < 64 := by omega
  generalize (n % 64).toNat = k at *
  go_enter Tryd.func26, Tryd.ntmps26
  go_wp2_with fail
  rw [HM.out]
  refine (turn_any s hs k hk _).mono ?_
  rintro e w1 ⟨rfl, rfl⟩
  go_wp2
  go_ret
  exact ⟨rfl, rfl⟩
end Go.Proofs.YthpkndiegnhnbaaDoor.bits
