/-
  The program's calls on words come to what the document says (typed over the code of 2169cae). No condition.
-/
import Derived.Test.YtlkcpplpjjbiaaaWRef
import Derived.Test.YtlkcpplpjjbiaaaWRefDo
namespace Go.Proofs.Ytlkcpplpjjbiaaa.word
open Go.RowKit Go.ChangeShapes

theorem conv_low (n : Int) : wrap64 (wrap32 n) = low n := by
  unfold wrap64 wrap32 low
  omega

set_option maxHeartbeats 400000 in
theorem low_any (n : Int) (w : World) :
    Calls Try.prog 48 #[.int .i64 n] w fun e w' => e = .returned (.int .i64 (low n)) ∧ w = w' := by
  have HW := Lib.hid (conv_low n)
  go_enter Try.func48, Try.ntmps48
  go_wp2
  go_ret
  exact ⟨ret_int HW.out, rfl⟩

/-- The numbers of sixty-four bits that a word's bits are. -/
def wd (n : Int) : Nat := (n % 18446744073709551616).toNat
theorem wd_low (n : Int) : wd n % 4294967296 = un n := by unfold wd un; omega
theorem wd_high {n : Int} (h : Word n) : wd n / 2147483648 = 0 ∨ wd n / 2147483648 = 8589934591 := by
  unfold Word at h
  unfold wd
  by_cases h0 : 0 ≤ n
  · left; omega
  · right; omega
theorem wrap_back {z : Nat} (_ : z < 18446744073709551616) (h : z / 2147483648 = 0 ∨ z / 2147483648 = 8589934591) : IntKind.i64.wrap (z : Int) = low ((z % 4294967296 : Nat) : Int) := by
  rw [IntKind.wrap_i64]
  unfold low
  omega
theorem ofInt_wd (n : Int) : (BitVec.ofInt 64 n).toNat = wd n := by
  rw [BitVec.toNat_ofInt]
  rfl
theorem wd_lt (n : Int) : wd n < 18446744073709551616 := by unfold wd; omega
theorem and_words {x y : Int} (hx : Word x) (hy : Word y) : bits .and .i64 x y = low (bitop 11 (un x) (un y) : Nat) := by
  show IntKind.i64.wrap ((BitVec.ofInt 64 x &&& BitVec.ofInt 64 y).toNat : Int) = _
  rw [BitVec.toNat_and, ofInt_wd, ofInt_wd]
  have h1 : (wd x &&& wd y) / 2 ^ 31 = wd x / 2 ^ 31 &&& wd y / 2 ^ 31 := Nat.and_div_two_pow
  have h2 : (wd x &&& wd y) % 2 ^ 32 = wd x % 2 ^ 32 &&& wd y % 2 ^ 32 := Nat.and_mod_two_pow
  have e1 : (2 : Nat) ^ 31 = 2147483648 := rfl
  have e2 : (2 : Nat) ^ 32 = 4294967296 := rfl
  rw [e1] at h1
  rw [e2, wd_low, wd_low] at h2
  rw [wrap_back (Nat.lt_of_le_of_lt Nat.and_le_left (wd_lt x)) ?_, h2]
  · rfl
  · rw [h1]
    rcases wd_high hx with a | a <;> rcases wd_high hy with b | b <;> rw [a, b] <;> decide
theorem or_words {x y : Int} (hx : Word x) (hy : Word y) : bits .or .i64 x y = low (bitop 12 (un x) (un y) : Nat) := by
  show IntKind.i64.wrap ((BitVec.ofInt 64 x ||| BitVec.ofInt 64 y).toNat : Int) = _
  rw [BitVec.toNat_or, ofInt_wd, ofInt_wd]
  have h1 : (wd x ||| wd y) / 2 ^ 31 = wd x / 2 ^ 31 ||| wd y / 2 ^ 31 := Nat.or_div_two_pow
  have h2 : (wd x ||| wd y) % 2 ^ 32 = wd x % 2 ^ 32 ||| wd y % 2 ^ 32 := Nat.or_mod_two_pow
  have e1 : (2 : Nat) ^ 31 = 2147483648 := rfl
  have e2 : (2 : Nat) ^ 32 = 4294967296 := rfl
  have hlt : wd x ||| wd y < 2 ^ 64 := Nat.or_lt_two_pow (wd_lt x) (wd_lt y)
  rw [e1] at h1
  rw [e2, wd_low, wd_low] at h2
  rw [wrap_back hlt ?_, h2]
  · rfl
  · rw [h1]
    rcases wd_high hx with a | a <;> rcases wd_high hy with b | b <;> rw [a, b] <;> decide
theorem xor_words {x y : Int} (hx : Word x) (hy : Word y) : bits .xor .i64 x y = low (bitop 13 (un x) (un y) : Nat) := by
  show IntKind.i64.wrap ((BitVec.ofInt 64 x ^^^ BitVec.ofInt 64 y).toNat : Int) = _
  rw [BitVec.toNat_xor, ofInt_wd, ofInt_wd]
  have h1 : (wd x ^^^ wd y) / 2 ^ 31 = wd x / 2 ^ 31 ^^^ wd y / 2 ^ 31 := Nat.xor_div_two_pow
  have h2 : (wd x ^^^ wd y) % 2 ^ 32 = wd x % 2 ^ 32 ^^^ wd y % 2 ^ 32 := Nat.xor_mod_two_pow
  have e1 : (2 : Nat) ^ 31 = 2147483648 := rfl
  have e2 : (2 : Nat) ^ 32 = 4294967296 := rfl
  have hlt : wd x ^^^ wd y < 2 ^ 64 := Nat.xor_lt_two_pow (wd_lt x) (wd_lt y)
  rw [e1] at h1
  rw [e2, wd_low, wd_low] at h2
  rw [wrap_back hlt ?_, h2]
  · rfl
  · rw [h1]
    rcases wd_high hx with a | a <;> rcases wd_high hy with b | b <;> rw [a, b] <;> decide
theorem mask5 (n : Int) : bits .and .i64 n 31 = (far n : Int) := by
  show IntKind.i64.wrap ((BitVec.ofInt 64 n &&& BitVec.ofInt 64 31).toNat : Int) = _
  rw [BitVec.toNat_and, ofInt_wd, show (BitVec.ofInt 64 31).toNat = 2 ^ 5 - 1 from rfl, Nat.and_two_pow_sub_one_eq_mod, IntKind.wrap_i64]
  have e : (2 : Nat) ^ 5 = 32 := rfl
  rw [e]
  unfold wd far
  omega

theorem fits_low (n : Int) : (low n == n) = decide (Word n) := by
  rw [Bool.eq_iff_iff, beq_iff_eq, decide_eq_true_iff]
  constructor
  · intro h
    rw [← h]
    exact low_word n
  · intro h
    exact low_id h
theorem conv_half (n : Int) : wrap32 n = low n := by
  unfold wrap32 low
  omega
theorem wide_low (n : Int) : wrap64 (low n) = low n := by
  have := low_word n
  unfold Word at this
  unfold wrap64
  omega
/-- A quotient of words, and its fault. -/
def quo (a b : Int) : Int × Int := if b = 0 then (0, 2) else ex (a.tdiv b)
def left (a b : Int) : Int × Int := if b = 0 then (0, 2) else (a.tmod b, 0)
end Go.Proofs.Ytlkcpplpjjbiaaa.word
