/-
  The reader's numbers: what bytes are read as one, byte by byte, and the first error. The reader lies in a block of its own, holds no bytes behind an error, and at most two to the forty-seventh of them.
-/
import Derived.Test.YtjlmgoaglpkhoaaIn
namespace Go.Proofs.Ytjlmgoaglpkhoaa.octet
open Go.RowKit Go.ChangeShapes
set_option linter.unusedVariables false

/-- What the reader makes of its bytes behind k bytes that made acc. -/
def decS (s : St) (k acc : Nat) : Nat × St := if s.err ≠ 0 then (0, s) else ((dec s.rest k acc).1, ⟨(dec s.rest k acc).2.1, (dec s.rest k acc).2.2⟩)

theorem rdByte_some {s : St} (h : (rdByte s).2.err = 0) : ∃ b r, s = ⟨b :: r, 0⟩ := by
  obtain ⟨rest, err⟩ := s
  unfold rdByte at h
  by_cases he : err = 0
  · subst he
    cases rest with
    | nil => simp at h
    | cons b r => exact ⟨b, r, rfl⟩
  · simp [he] at h
theorem rdByte_none {s : St} (h : (rdByte s).2.err ≠ 0) {k acc : Nat} : decS s k acc = (0, (rdByte s).2) := by
  obtain ⟨rest, err⟩ := s
  unfold rdByte at h ⊢
  unfold decS
  by_cases he : err = 0
  · subst he
    cases rest with
    | nil => simp [dec]
    | cons b r => simp at h
  · simp [he]

theorem pow7 (k : Nat) : (2 : Nat) ^ (7 * k) = 128 ^ k := by rw [Nat.pow_mul]
theorem acc_next {c kk acc : Nat} (ha : acc < 128 ^ kk) : acc + c % 128 * 128 ^ kk < 128 ^ (kk + 1) := by
  have h1 : c % 128 * 128 ^ kk ≤ 127 * 128 ^ kk := Nat.mul_le_mul_right _ (by omega)
  rw [Nat.pow_succ]
  omega
theorem or_shl_u64 {c kk acc : Nat} (hbad : ¬ ((kk = 9 ∧ 1 < c) ∨ (0 < kk ∧ c = 0))) (hk : kk ≤ 9) (hc : c < 256) (ha : acc < 128 ^ kk) :
    bits .or .u64 (acc : Int) (IntKind.u64.wrap (IntKind.u64.wrap (bits .and .u8 (c : Int) 127) * 2 ^ (7 * kk))) = ((acc + c % 128 * 128 ^ kk : Nat) : Int) := by
  have e1 : bits .and .u8 (c : Int) 127 = ((c % 128 : Nat) : Int) := by
    rw [← nat_mask7]; exact u8_and_nat c 127 hc (by omega)
  have e2 : IntKind.u64.wrap ((c % 128 : Nat) : Int) = ((c % 128 : Nat) : Int) := by
    rw [IntKind.wrap_u64]; omega
  have e3 : ((2 : Int) ^ (7 * kk)) = ((128 ^ kk : Nat) : Int) := by
    rw [← pow7]; simp
  have hle : (128 : Nat) ^ kk ≤ 128 ^ 9 := Nat.pow_le_pow_right (by omega) hk
  have h9 : (128 : Nat) ^ 9 = 9223372036854775808 := rfl
  have hX : c % 128 * 128 ^ kk < 18446744073709551616 := by
    by_cases h8 : kk = 9
    · subst h8
      have hc1 : c ≤ 1 := by omega
      have : c % 128 * 128 ^ 9 ≤ 1 * 128 ^ 9 := Nat.mul_le_mul_right _ (by omega)
      omega
    · have h1 : c % 128 * 128 ^ kk ≤ 127 * 128 ^ kk := Nat.mul_le_mul_right _ (by omega)
      have h2 : (128 : Nat) ^ kk ≤ 128 ^ 8 := Nat.pow_le_pow_right (by omega) (by omega)
      have h3 : (128 : Nat) ^ 8 = 72057594037927936 := rfl
      omega
  have e4 : IntKind.u64.wrap (((c % 128 : Nat) : Int) * ((128 ^ kk : Nat) : Int)) = ((c % 128 * 128 ^ kk : Nat) : Int) := by
    rw [← Int.natCast_mul, IntKind.wrap_u64]
    omega
  rw [e1, e2, e3, e4, u64_or_nat acc _ (by omega) hX, Nat.or_comm, nat_join (7 * kk) (c % 128 * 128 ^ kk) acc (by rw [pow7]; exact Nat.mul_mod_left _ _) (by rw [pow7]; exact ha), Nat.add_comm]

end Go.Proofs.Ytjlmgoaglpkhoaa.octet
