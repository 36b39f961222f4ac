/-
  The program's calls on a set that only compute: the bit of a number, what is below one, whether one is in it, with one and without one. No condition.
-/
import Derived.Test.YtjedinodopcdaaaDoorProg
import Derived.Test.YtjedinodopcdaaaDoorBMore
import Derived.WalkKit
import Derived.ProofKit
import Derived.Lib.Hide
import Derived.Outline
import Derived.Laws.ShiftsVarLaws
import Derived.Laws.Bits64b
namespace Go.Proofs.YtjedinodopcdaaaDoor.bits
open Go.RowKit Go.ChangeShapes

theorem shl_one {n : Int} (h : may n) : IntKind.u64.wrap (2 ^ n.toNat) = ((bitN n : Nat) : Int) := by
  unfold may at h
  have hb : bitN n = 2 ^ n.toNat := by unfold bitN; rw [if_pos (by unfold may; omega)]
  have hl := pow_lt64 (show n.toNat < 64 by omega)
  rw [hb, IntKind.wrap_u64]
  unfold Is64 at hl
  have e : ((2 : Int) ^ n.toNat) = ((2 ^ n.toNat : Nat) : Int) := by rw [Int.natCast_pow]; rfl
  rw [e]
  omega

theorem ret_int {k : IntKind} {a b : Int} (h : a = b) : Ending.returned (.int k a) = .returned (.int k b) := by rw [h]
set_option maxHeartbeats 400000 in
theorem bit_any (n : Int) (w : World) :
    Calls Tryd.prog 31 #[.int .i64 n] w fun e w' => e = .returned (.int .u64 ((bitN n : Nat) : Int)) ∧ w = w' := by
  by_cases h0 : n < 0
  · have hb : bitN n = 0 := by unfold bitN; rw [if_neg (by unfold may; omega)]
    rw [hb]
    clear hb
    go_enter Tryd.func31, Tryd.ntmps31
    go_wp2
    go_ret
    exact ⟨rfl, rfl⟩
  · by_cases h1 : 63 < n
    · have hb : bitN n = 0 := by unfold bitN; rw [if_neg (by unfold may; omega)]
      rw [hb]
      clear hb
      go_enter Tryd.func31, Tryd.ntmps31
      go_wp2
      go_ret
      exact ⟨rfl, rfl⟩
    · have hm : may n := by unfold may; omega
      have hp : 0 ≤ n := by omega
      have HB := Lib.hid (shl_one hm)
      go_enter Tryd.func31, Tryd.ntmps31
      go_wp2
      go_ret
      exact ⟨ret_int HB.out, rfl⟩

theorem and_u64 {a b : Nat} (ha : Is64 a) (hb : Is64 b) : bits .and .u64 (a : Int) (b : Int) = ((a &&& b : Nat) : Int) := bits_and_u64_nat a b ha hb
theorem or_u64 {a b : Nat} (ha : Is64 a) (hb : Is64 b) : bits .or .u64 (a : Int) (b : Int) = ((a ||| b : Nat) : Int) := bits_or_u64_nat a b ha hb
theorem andNot_u64 {a b : Nat} (ha : Is64 a) (hb : Is64 b) : bits .andNot .u64 (a : Int) (b : Int) = ((minus a b : Nat) : Int) := by
  have hx : a &&& (18446744073709551615 - b) < 2 ^ 64 := Nat.and_lt_two_pow _ (by unfold Is64 at *; omega)
  have h1 : (BitVec.ofInt 64 (a : Int)).toNat = a := by
    rw [BitVec.ofInt_natCast, BitVec.toNat_ofNat]; exact Nat.mod_eq_of_lt (by unfold Is64 at *; omega)
  have h2 : (BitVec.ofInt 64 (b : Int)).toNat = b := by
    rw [BitVec.ofInt_natCast, BitVec.toNat_ofNat]; exact Nat.mod_eq_of_lt (by unfold Is64 at *; omega)
  show IntKind.u64.wrap ((BitVec.ofInt 64 (a : Int) &&& ~~~BitVec.ofInt 64 (b : Int)).toNat : Int) = _
  rw [BitVec.toNat_and, BitVec.toNat_not, h1, h2, IntKind.wrap_u64]
  have e : 2 ^ 64 - 1 - b = 18446744073709551615 - b := by omega
  rw [e]
  unfold minus
  omega

theorem ret_bool {a b : Bool} (h : a = b) : Ending.returned (.bool a) = .returned (.bool b) := by rw [h]
theorem bne_cast (x : Nat) : ((x : Int) != 0) = (x != 0) := by
  rw [Bool.eq_iff_iff]
  simp
set_option maxHeartbeats 400000 in
theorem has_any (s : Nat) (hs : Is64 s) (n : Int) (w : World) :
    Calls Tryd.prog 29 #[.int .u64 (s : Int), .int .i64 n] w fun e w' => e = .returned (.bool (hasB s n)) ∧ w = w' := by
  have HB := Lib.hid (and_u64 hs (bitN_lt n))
  have HH := Lib.hid (hasB_and s n)
  go_enter Tryd.func29, Tryd.ntmps29
  go_wp2_with fail
  refine (bit_any _ _).mono ?_
  rintro e w1 ⟨rfl, rfl⟩
  go_wp2
  go_ret
  exact ⟨ret_bool (by rw [HB.out, HH.out, bne_cast]), rfl⟩

set_option maxHeartbeats 400000 in
theorem with_any (s : Nat) (hs : Is64 s) (n : Int) (w : World) :
    Calls Tryd.prog 26 #[.int .u64 (s : Int), .int .i64 n] w fun e w' => e = .returned (.int .u64 ((wth s n : Nat) : Int)) ∧ w = w' := by
  have HB := Lib.hid (or_u64 hs (bitN_lt n))
  have HH := Lib.hid (wth_or s n)
  go_enter Tryd.func26, Tryd.ntmps26
  go_wp2_with fail
  refine (bit_any _ _).mono ?_
  rintro e w1 ⟨rfl, rfl⟩
  go_wp2
  go_ret
  exact ⟨ret_int (by rw [HB.out, HH.out]), rfl⟩

set_option maxHeartbeats 400000 in
theorem without_any (s : Nat) (hs : Is64 s) (n : Int) (w : World) :
    Calls Tryd.prog 41 #[.int .u64 (s : Int), .int .i64 n] w fun e w' => e = .returned (.int .u64 ((wout s n : Nat) : Int)) ∧ w = w' := by
  have HB := Lib.hid (andNot_u64 hs (bitN_lt n))
  have HH := Lib.hid (wout_minus hs n)
  go_enter Tryd.func41, Tryd.ntmps41
  go_wp2_with fail
  refine (bit_any _ _).mono ?_
  rintro e w1 ⟨rfl, rfl⟩
  go_wp2
  go_ret
  exact ⟨ret_int (by rw [HB.out, HH.out]), rfl⟩

theorem all_some {n : Int} (h0 : ¬ n < 0) (h1 : ¬ 63 < n) : IntKind.u64.wrap ((bitN n : Nat) - 1) = ((allN n : Nat) : Int) := by
  have hb : bitN n = 2 ^ n.toNat := by unfold bitN; rw [if_pos (by unfold may; omega)]
  have hl := bitN_lt n
  have hp : 0 < 2 ^ n.toNat := Nat.two_pow_pos _
  unfold allN
  rw [if_neg h1, if_neg h0, hb, IntKind.wrap_u64]
  unfold Is64 at hl
  rw [hb] at hl
  omega

set_option maxHeartbeats 400000 in
theorem all_any (n : Int) (w : World) :
    Calls Tryd.prog 40 #[.int .i64 n] w fun e w' => e = .returned (.int .u64 ((allN n : Nat) : Int)) ∧ w = w' := by
  by_cases h1 : 63 < n
  · have hb : allN n = 18446744073709551615 := by unfold allN; rw [if_pos h1]
    rw [hb]
    clear hb
    go_enter Tryd.func40, Tryd.ntmps40
    go_wp2
    go_ret
    exact ⟨rfl, rfl⟩
  · by_cases h0 : n < 0
    · have hb : allN n = 0 := by unfold allN; rw [if_neg h1, if_pos h0]
      rw [hb]
      clear hb
      go_enter Tryd.func40, Tryd.ntmps40
      go_wp2
      go_ret
      exact ⟨rfl, rfl⟩
    · have HA := Lib.hid (all_some h0 h1)
      go_enter Tryd.func40, Tryd.ntmps40
      go_wp2_with fail
      refine (bit_any _ _).mono ?_
      rintro e w1 ⟨rfl, rfl⟩
      go_wp2
      go_ret
      exact ⟨ret_int HA.out, rfl⟩
end Go.Proofs.YtjedinodopcdaaaDoor.bits
