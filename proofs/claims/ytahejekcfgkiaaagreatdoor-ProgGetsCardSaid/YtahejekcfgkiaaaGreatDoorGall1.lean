/-
  Texts of one claim in one file: Plain, PPlain, WPlain, JPlain, PProg, PTab, PRef, WRef. Each has its own sentence, with its conditions.
-/
import Derived.Below
import Derived.Lib.Strings
import Derived.Test.YtahejekcfgkiaaaGreatDoorProg
import Derived.WalkKit
import Derived.ProofKit
import Derived.IntWalk
import Derived.LoopTactic
import Derived.Lib.Hide
import Derived.Outline
import Derived.Deep.Cut
import Derived.Deep.CutBlock
import Derived.Deep.DeepCutAuto
import Derived.PlainAid
import Derived.BigQuiet
import Derived.Deep.QuietTactic
import Derived.Deep.RegionHeld3
/-
  The plain mathematics of numbers and texts as bytes: what a number's bytes are, what bytes are read as, and that reading and writing undo each other. It speaks of lists and numbers alone, under no condition but a number below two to the sixty-fourth.
-/
namespace Go.Proofs.YtahejekcfgkiaaaGreatDoor.octet

/-- A number's bytes, of at most f + 1. -/
def enc : Nat → Nat → List UInt8
  | 0, n => [UInt8.ofNat n]
  | f + 1, n => if n < 128 then [UInt8.ofNat n] else UInt8.ofNat (n % 128 + 128) :: enc f (n / 128)
def num (n : Nat) : List UInt8 := enc 9 n

theorem enc_small (f n : Nat) (h : n < 128) : enc f n = [UInt8.ofNat n] := by
  cases f with
  | zero => rfl
  | succ f => simp [enc, h]
theorem enc_more (f : Nat) : ∀ n, n < 128 ^ (f + 1) → enc (f + 1) n = enc f n := by
  induction f with
  | zero => intro n h; rw [enc_small _ _ (by omega), enc_small _ _ (by omega)]
  | succ f ih =>
    intro n h
    by_cases hn : n < 128
    · rw [enc_small _ _ hn, enc_small _ _ hn]
    · have hd : n / 128 < 128 ^ (f + 1) := by
        rw [Nat.div_lt_iff_lt_mul (by omega), ← Nat.pow_succ]; exact h
      have e1 : enc (f + 1 + 1) n = UInt8.ofNat (n % 128 + 128) :: enc (f + 1) (n / 128) := by rw [enc, if_neg hn]
      have e2 : enc (f + 1) n = UInt8.ofNat (n % 128 + 128) :: enc f (n / 128) := by rw [enc, if_neg hn]
      rw [e1, e2, ih _ hd]
theorem num_small {n : Nat} (h : n < 128) : num n = [UInt8.ofNat n] := enc_small 9 n h
theorem num_big {n : Nat} (h : 128 ≤ n) (h64 : n < 18446744073709551616) : num n = UInt8.ofNat (n % 128 + 128) :: num (n / 128) := by
  have e1 : num n = UInt8.ofNat (n % 128 + 128) :: enc 8 (n / 128) := by
    unfold num
    rw [enc, if_neg (by omega)]
  rw [e1]
  unfold num
  rw [enc_more 8 (n / 128) (by have : (128 : Nat) ^ (8 + 1) = 9223372036854775808 := rfl; omega)]

theorem enc_length_pos (f n : Nat) : 0 < (enc f n).length := by
  cases f with
  | zero => simp [enc]
  | succ f => simp only [enc]; split <;> simp
theorem enc_length_le (f : Nat) : ∀ n, (enc f n).length ≤ f + 1 := by
  induction f with
  | zero => intro n; simp [enc]
  | succ f ih =>
    intro n
    simp only [enc]
    split
    · simp
    · have := ih (n / 128); simp; omega
theorem num_length_le (n : Nat) : (num n).length ≤ 10 := enc_length_le 9 n
theorem enc_length_mono (f : Nat) : ∀ m n, m ≤ n → (enc f m).length ≤ (enc f n).length := by
  induction f with
  | zero => intro m n _; simp [enc]
  | succ f ih =>
    intro m n h
    by_cases hm : m < 128
    · rw [enc_small _ _ hm]
      exact enc_length_pos _ _
    · have hn : ¬ n < 128 := by omega
      rw [enc, if_neg hm, enc, if_neg hn]
      have := ih (m / 128) (n / 128) (Nat.div_le_div_right h)
      simpa using this
theorem num_length_mono {m n : Nat} (h : m ≤ n) : (num m).length ≤ (num n).length := enc_length_mono 9 m n h

/-- What bytes are read as, behind k bytes that made acc: the number, what is left, the error. -/
def dec : List UInt8 → Nat → Nat → Nat × List UInt8 × Nat
  | [], _, _ => (0, [], 3)
  | b :: r, k, acc =>
    if (k = 9 ∧ 1 < b.toNat) ∨ (0 < k ∧ b.toNat = 0) then (0, [], 2)
    else if b.toNat < 128 then (acc + b.toNat % 128 * 128 ^ k, r, 0)
    else dec r (k + 1) (acc + b.toNat % 128 * 128 ^ k)

theorem dec_err {b : UInt8} {r : List UInt8} {k acc : Nat} (h : (k = 9 ∧ 1 < b.toNat) ∨ (0 < k ∧ b.toNat = 0)) : dec (b :: r) k acc = (0, [], 2) := by rw [dec, if_pos h]
theorem dec_last {b : UInt8} {r : List UInt8} {k acc : Nat} (h : ¬ ((k = 9 ∧ 1 < b.toNat) ∨ (0 < k ∧ b.toNat = 0))) (hb : b.toNat < 128) : dec (b :: r) k acc = (acc + b.toNat % 128 * 128 ^ k, r, 0) := by rw [dec, if_neg h, if_pos hb]
theorem dec_next {b : UInt8} {r : List UInt8} {k acc : Nat} (h : ¬ ((k = 9 ∧ 1 < b.toNat) ∨ (0 < k ∧ b.toNat = 0))) (hb : ¬ b.toNat < 128) : dec (b :: r) k acc = dec r (k + 1) (acc + b.toNat % 128 * 128 ^ k) := by rw [dec, if_neg h, if_neg hb]

/-- Behind an error nothing is read: zero, and nothing is left. -/
theorem dec_fails (l : List UInt8) : ∀ k acc, (dec l k acc).2.2 ≠ 0 → (dec l k acc).1 = 0 ∧ (dec l k acc).2.1 = [] := by
  induction l with
  | nil => intro k acc _; simp [dec]
  | cons b r ih =>
    intro k acc
    by_cases h : (k = 9 ∧ 1 < b.toNat) ∨ (0 < k ∧ b.toNat = 0)
    · rw [dec_err h]; simp
    · by_cases hb : b.toNat < 128
      · rw [dec_last h hb]; simp
      · rw [dec_next h hb]; exact ih _ _
theorem dec_code (l : List UInt8) : ∀ k acc, (dec l k acc).2.2 ≤ 3 := by
  induction l with
  | nil => intro k acc; simp [dec]
  | cons b r ih =>
    intro k acc
    by_cases h : (k = 9 ∧ 1 < b.toNat) ∨ (0 < k ∧ b.toNat = 0)
    · rw [dec_err h]; simp
    · by_cases hb : b.toNat < 128
      · rw [dec_last h hb]; simp
      · rw [dec_next h hb]; exact ih _ _
theorem dec_left (l : List UInt8) : ∀ k acc, (dec l k acc).2.1.length ≤ l.length := by
  induction l with
  | nil => intro k acc; simp [dec]
  | cons b r ih =>
    intro k acc
    by_cases h : (k = 9 ∧ 1 < b.toNat) ∨ (0 < k ∧ b.toNat = 0)
    · rw [dec_err h]; simp
    · by_cases hb : b.toNat < 128
      · rw [dec_last h hb]; simp
      · rw [dec_next h hb]; have := ih (k + 1) (acc + b.toNat % 128 * 128 ^ k); simp; omega

theorem pow_step {k : Nat} (x : Nat) : x * 128 ^ (k + 1) = 128 * x * 128 ^ k := by
  rw [Nat.pow_succ, Nat.mul_comm (128 ^ k) 128, ← Nat.mul_assoc, Nat.mul_comm x 128]

/-- What is read without an error, put again, is just the bytes that were read. -/
theorem dec_once (l : List UInt8) : ∀ k acc v rest, k ≤ 9 → dec l k acc = (v, rest, 0) →
    ∃ m, v = acc + m * 128 ^ k ∧ l = enc (9 - k) m ++ rest ∧ (0 < k → 0 < m) ∧ m < 2 * 128 ^ (9 - k) := by
  induction l with
  | nil => intro k acc v rest _ h; simp [dec] at h
  | cons b r ih =>
    intro k acc v rest hk h
    by_cases he : (k = 9 ∧ 1 < b.toNat) ∨ (0 < k ∧ b.toNat = 0)
    · rw [dec_err he] at h; simp at h
    · have h9 : k = 9 → b.toNat ≤ 1 := fun e => by
        rcases Nat.lt_or_ge 1 b.toNat with hh | hh
        · exact absurd (Or.inl ⟨e, hh⟩) he
        · exact hh
      have h0 : 0 < k → 0 < b.toNat := fun e => by
        rcases Nat.eq_zero_or_pos b.toNat with hh | hh
        · exact absurd (Or.inr ⟨e, hh⟩) he
        · exact hh
      have hp : 0 < 128 ^ (9 - k) := Nat.pow_pos (by omega)
      have h256 : b.toNat < 256 := b.toNat_lt
      by_cases hb : b.toNat < 128
      · rw [dec_last he hb] at h
        simp only [Prod.mk.injEq] at h
        obtain ⟨hv, hr, _⟩ := h
        refine ⟨b.toNat, by rw [← hv, Nat.mod_eq_of_lt hb], ?_, h0, ?_⟩
        · rw [enc_small _ _ hb, hr]; simp
        · by_cases e : k = 9
          · have := h9 e; omega
          · have : (128 : Nat) ^ 1 ≤ 128 ^ (9 - k) := Nat.pow_le_pow_right (by omega) (by omega)
            omega
      · have hk9 : k < 9 := by
          rcases Nat.lt_or_ge k 9 with hh | hh
          · exact hh
          · have := h9 (by omega); omega
        rw [dec_next he hb] at h
        obtain ⟨m, hv, hr, hm, hlt⟩ := ih (k + 1) _ v rest (by omega) h
        have hm0 := hm (by omega)
        have hf : 9 - k = (9 - (k + 1)) + 1 := by omega
        refine ⟨b.toNat % 128 + 128 * m, ?_, ?_, fun _ => by omega, ?_⟩
        · rw [hv, pow_step, Nat.add_mul, Nat.add_assoc]
        · have e1 : (b.toNat % 128 + 128 * m) % 128 + 128 = b.toNat := by omega
          have e2 : (b.toNat % 128 + 128 * m) / 128 = m := by omega
          rw [hf, enc, if_neg (by omega), e1, e2, hr]
          simp
        · rw [hf, Nat.pow_succ]; omega

/-- What was put is read again, whatever stands behind. -/
theorem dec_back (f : Nat) : ∀ m acc more, f ≤ 9 → m < 2 * 128 ^ f → (f < 9 → 0 < m) → dec (enc f m ++ more) (9 - f) acc = (acc + m * 128 ^ (9 - f), more, 0) := by
  induction f with
  | zero =>
    intro m acc more _ h h0
    have hm : m < 2 := by simpa using h
    have hm0 := h0 (by omega)
    obtain rfl : m = 1 := by omega
    rfl
  | succ f ih =>
    intro m acc more hf h h0
    by_cases hm : m < 128
    · have ht : (UInt8.ofNat m).toNat = m := by rw [UInt8.toNat_ofNat']; omega
      rw [enc_small _ _ hm]
      show dec (UInt8.ofNat m :: more) _ acc = _
      rw [dec_last (by rw [ht]; omega) (by rw [ht]; exact hm), ht, Nat.mod_eq_of_lt hm]
    · have ht : (UInt8.ofNat (m % 128 + 128)).toNat = m % 128 + 128 := by rw [UInt8.toNat_ofNat']; omega
      rw [enc, if_neg hm]
      show dec (UInt8.ofNat (m % 128 + 128) :: (enc f (m / 128) ++ more)) _ acc = _
      rw [dec_next (by rw [ht]; omega) (by rw [ht]; omega), ht]
      have hlt : m / 128 < 2 * 128 ^ f := by rw [Nat.div_lt_iff_lt_mul (by omega), Nat.mul_assoc, ← Nat.pow_succ]; exact h
      have e : 9 - (f + 1) + 1 = 9 - f := by omega
      rw [e, ih (m / 128) _ more (by omega) hlt (fun _ => by omega)]
      have e' : 9 - f = (9 - (f + 1)) + 1 := by omega
      rw [e', pow_step, Nat.add_assoc, ← Nat.add_mul]
      congr 3
      omega

theorem num_back {n : Nat} (h : n < 18446744073709551616) (more : List UInt8) : dec (num n ++ more) 0 0 = (n, more, 0) := by
  have := dec_back 9 n 0 more (Nat.le_refl _) (by have : (2 : Nat) * 128 ^ 9 = 18446744073709551616 := rfl; omega) (by omega)
  show dec (enc 9 n ++ more) 0 0 = _
  simpa using this
theorem num_once {l : List UInt8} {v : Nat} {rest : List UInt8} (h : dec l 0 0 = (v, rest, 0)) : l = num v ++ rest ∧ v < 18446744073709551616 := by
  obtain ⟨m, hv, hl, _, hm⟩ := dec_once l 0 0 v rest (by omega) h
  obtain rfl : v = m := by omega
  have e : (2 : Nat) * 128 ^ (9 - 0) = 18446744073709551616 := rfl
  exact ⟨hl, by omega⟩
theorem dec_lt (l : List UInt8) : (dec l 0 0).1 < 18446744073709551616 := by
  by_cases h : (dec l 0 0).2.2 = 0
  · exact (num_once (l := l) (v := (dec l 0 0).1) (rest := (dec l 0 0).2.1) (Prod.ext rfl (Prod.ext rfl h))).2
  · rw [(dec_fails l 0 0 h).1]; omega

/-- A number with a sign as one without. -/
def zig (n : Int) : Nat := if 0 ≤ n then (2 * n).toNat else (-2 * n - 1).toNat
def zag (v : Nat) : Int := if v % 2 = 1 then -((v / 2 : Nat) : Int) - 1 else ((v / 2 : Nat) : Int)
theorem zag_zig (n : Int) : zag (zig n) = n := by unfold zag zig; split <;> split <;> omega
theorem zig_zag (v : Nat) : zig (zag v) = v := by unfold zag zig; split <;> split <;> omega
theorem zig_lt {n : Int} (h1 : -9223372036854775808 ≤ n) (h2 : n ≤ 9223372036854775807) : zig n < 18446744073709551616 := by unfold zig; split <;> omega
theorem zag_ge {v : Nat} (h : v < 18446744073709551616) : -9223372036854775808 ≤ zag v ∧ zag v ≤ 9223372036854775807 := by unfold zag; split <;> omega

/-- What the reader holds: the bytes that are left, and the first error. -/
structure St where
  rest : List UInt8
  err : Nat
def St.ok (s : St) : Prop := s.err ≠ 0 → s.rest = []

def rdByte (s : St) : Nat × St :=
  if s.err ≠ 0 then (0, s) else match s.rest with
    | [] => (0, ⟨[], 3⟩)
    | b :: r => (b.toNat, ⟨r, 0⟩)
def rdNum (s : St) : Nat × St :=
  if s.err ≠ 0 then (0, s) else ((dec s.rest 0 0).1, ⟨(dec s.rest 0 0).2.1, (dec s.rest 0 0).2.2⟩)
def rdInt (s : St) : Int × St := (zag (rdNum s).1, (rdNum s).2)
def St.fail (s : St) (e : Nat) : St := if s.err ≠ 0 then s else ⟨[], e⟩
def rdText (s : St) : List UInt8 × St :=
  if (rdNum s).2.rest.length < (rdNum s).1 then ([], (rdNum s).2.fail 3)
  else ((rdNum s).2.rest.take (rdNum s).1, ⟨(rdNum s).2.rest.drop (rdNum s).1, (rdNum s).2.err⟩)

theorem rdByte_ok {s : St} (h : s.ok) : (rdByte s).2.ok := by
  unfold rdByte
  split
  · exact h
  · split
    · intro _; rfl
    · intro he; exact absurd rfl he
theorem rdNum_ok {s : St} (h : s.ok) : (rdNum s).2.ok := by
  unfold rdNum
  split
  · exact h
  · intro he; exact (dec_fails _ _ _ he).2
theorem fail_ok {s : St} (h : s.ok) (e : Nat) : (s.fail e).ok := by
  unfold St.fail
  split
  · exact h
  · intro _; rfl
theorem rdText_ok {s : St} (h : s.ok) : (rdText s).2.ok := by
  unfold rdText
  split
  · exact fail_ok (rdNum_ok h) 3
  · intro he
    show List.drop _ _ = []
    rw [(rdNum_ok h) he]; simp
theorem rdNum_lt (s : St) : (rdNum s).1 < 18446744073709551616 := by
  unfold rdNum
  split
  · omega
  · exact dec_lt _
theorem rdNum_left (s : St) : (rdNum s).2.rest.length ≤ s.rest.length := by
  unfold rdNum
  split
  · exact Nat.le_refl _
  · exact dec_left _ _ _

end Go.Proofs.YtahejekcfgkiaaaGreatDoor.octet

/-
  The document's table of operations: names, forms, what is taken and laid, by number; and the first number that has a name. No condition.
-/
namespace Go.Proofs.YtahejekcfgkiaaaGreatDoor.oper

def nm : List ByteArray := [⟨#[112, 117, 115, 104]⟩, ⟨#[108, 111, 97, 100]⟩, ⟨#[115, 116, 111, 114, 101]⟩, ⟨#[97, 100, 100]⟩, ⟨#[115, 117, 98]⟩, ⟨#[109, 117, 108]⟩, ⟨#[100, 105, 118]⟩, ⟨#[109, 111, 100]⟩, ⟨#[110, 101, 103]⟩, ⟨#[108, 116]⟩, ⟨#[101, 113]⟩, ⟨#[97, 110, 100]⟩, ⟨#[111, 114]⟩, ⟨#[120, 111, 114]⟩, ⟨#[115, 104, 108]⟩, ⟨#[115, 104, 114]⟩, ⟨#[100, 117, 112]⟩, ⟨#[100, 114, 111, 112]⟩, ⟨#[106, 117, 109, 112]⟩, ⟨#[122, 101, 114, 111]⟩, ⟨#[99, 97, 108, 108]⟩, ⟨#[114, 101, 116]⟩, ⟨#[115, 101, 108, 102]⟩, ⟨#[110, 111, 119]⟩, ⟨#[111, 117, 116]⟩, ⟨#[121, 105, 101, 108, 100]⟩, ⟨#[119, 97, 105, 116]⟩, ⟨#[119, 97, 105, 116, 102, 111, 114]⟩, ⟨#[115, 108, 101, 101, 112]⟩, ⟨#[117, 110, 108, 111, 99, 107]⟩, ⟨#[112, 111, 115, 116]⟩, ⟨#[103, 105, 118, 101]⟩, ⟨#[99, 119, 97, 105, 116]⟩, ⟨#[99, 119, 97, 105, 116, 102, 111, 114]⟩, ⟨#[115, 105, 103, 110, 97, 108]⟩, ⟨#[98, 114, 111, 97, 100, 99, 97, 115, 116]⟩, ⟨#[101, 110, 114, 111, 108]⟩, ⟨#[108, 101, 97, 118, 101]⟩, ⟨#[97, 114, 114, 105, 118, 101]⟩, ⟨#[97, 114, 114, 105, 118, 101, 102, 111, 114]⟩, ⟨#[115, 112, 97, 119, 110]⟩, ⟨#[106, 111, 105, 110]⟩, ⟨#[106, 111, 105, 110, 102, 111, 114]⟩, ⟨#[103, 114, 97, 110, 116]⟩, ⟨#[119, 97, 105, 118, 101]⟩, ⟨#[114, 101, 97, 100]⟩, ⟨#[119, 114, 105, 116, 101]⟩, ⟨#[98, 101, 103, 105, 110]⟩, ⟨#[99, 111, 109, 109, 105, 116]⟩, ⟨#[99, 108, 97, 105, 109]⟩, ⟨#[100, 101, 97, 100]⟩, ⟨#[109, 101, 110, 100]⟩]
def fm : List ByteArray := [⟨#[110]⟩, ⟨#[107]⟩, ⟨#[107]⟩, ⟨#[]⟩, ⟨#[]⟩, ⟨#[]⟩, ⟨#[]⟩, ⟨#[]⟩, ⟨#[]⟩, ⟨#[]⟩, ⟨#[]⟩, ⟨#[]⟩, ⟨#[]⟩, ⟨#[]⟩, ⟨#[]⟩, ⟨#[]⟩, ⟨#[]⟩, ⟨#[]⟩, ⟨#[116]⟩, ⟨#[116]⟩, ⟨#[102]⟩, ⟨#[]⟩, ⟨#[]⟩, ⟨#[]⟩, ⟨#[]⟩, ⟨#[]⟩, ⟨#[119]⟩, ⟨#[119]⟩, ⟨#[]⟩, ⟨#[117]⟩, ⟨#[115]⟩, ⟨#[112]⟩, ⟨#[99, 109]⟩, ⟨#[99, 109]⟩, ⟨#[99]⟩, ⟨#[99]⟩, ⟨#[98]⟩, ⟨#[98]⟩, ⟨#[98]⟩, ⟨#[98]⟩, ⟨#[102]⟩, ⟨#[106, 106]⟩, ⟨#[106, 106]⟩, ⟨#[]⟩, ⟨#[]⟩, ⟨#[118]⟩, ⟨#[118]⟩, ⟨#[]⟩, ⟨#[]⟩, ⟨#[113]⟩, ⟨#[109]⟩, ⟨#[109]⟩]
def tk : List Int := [0, 0, 1, 2, 2, 2, 2, 2, 1, 2, 2, 2, 2, 2, 2, 2, 1, 1, 0, 1, 0, 1, 0, 0, 1, 0, 0, 1, 1, 0, 1, 1, 0, 1, 0, 0, 0, 0, 0, 1, 2, 0, 1, 2, 1, 0, 1, 0, 0, 1, 0, 0]
def ly : List Int := [1, 1, 0, 1, 1, 1, 1, 1, 1, 1, 1, 1, 1, 1, 1, 1, 2, 0, 0, 0, 1, 0, 1, 1, 1, 0, 1, 1, 1, 1, 1, 1, 1, 1, 1, 1, 1, 1, 1, 1, 1, 1, 1, 1, 1, 2, 1, 1, 1, 1, 1, 1]
/-- What stands in a list of texts at a number; the empty text where nothing does. -/
def txt (l : List ByteArray) (n : Int) : ByteArray := if 0 ≤ n ∧ n ≤ 51 then l.getD n.toNat ⟨#[]⟩ else ⟨#[]⟩
def numb (l : List Int) (n : Int) : Int := if 0 ≤ n ∧ n ≤ 51 then l.getD n.toNat 0 else 0
def same (a b : ByteArray) : Bool := a.toList == b.toList
theorem same_iff {a b : ByteArray} : same a b = true ↔ a = b := by
  unfold same
  rw [beq_iff_eq, ByteArray.toList_eq, ByteArray.toList_eq]
  constructor
  · intro h
    cases a; cases b
    simp only [Array.toList_inj] at h
    rw [h]
  · rintro rfl; rfl
/-- The first number that has this name; 52: none. -/
def idx (s : ByteArray) : Nat := nm.findIdx fun x => same x s
theorem nm_length : nm.length = 52 := rfl
theorem fm_length : fm.length = 52 := rfl
theorem tk_length : tk.length = 52 := rfl
theorem ly_length : ly.length = 52 := rfl
theorem idx_le (s : ByteArray) : idx s ≤ 52 := List.findIdx_le_length
theorem idx_of {s : ByteArray} {k : Nat} (h : k ≤ idx s) (hk : k < 52) (he : same (nm.getD k ⟨#[]⟩) s = true) : idx s = k := by
  have hk' : k < nm.length := hk
  rcases Nat.lt_or_ge k (idx s) with h1 | h1
  · have := List.not_of_lt_findIdx (p := fun x => same x s) (xs := nm) h1
    rw [List.getD_eq_getElem?_getD, List.getElem?_eq_getElem hk', Option.getD_some] at he
    simp [he] at this
  · omega
theorem idx_next {s : ByteArray} {k : Nat} (h : k ≤ idx s) (hk : k < 52) (he : same (nm.getD k ⟨#[]⟩) s = false) : k + 1 ≤ idx s := by
  rcases Nat.eq_or_lt_of_le h with h1 | h1
  · exfalso
    have hl : nm.findIdx (fun x => same x s) < nm.length := by show idx s < 52; omega
    have := List.findIdx_getElem (p := fun x => same x s) (xs := nm) (w := hl)
    have e : nm[nm.findIdx (fun x => same x s)]'hl = nm.getD k ⟨#[]⟩ := by
      rw [List.getD_eq_getElem?_getD, List.getElem?_eq_getElem (show k < nm.length from hk), Option.getD_some]
      congr 1
      exact h1.symm
    rw [e, he] at this
    cases this
  · omega
theorem idx_name : ∀ k, k < 52 → idx (nm.getD k ⟨#[]⟩) = k := by decide +kernel
theorem small : ∀ k, k < 52 → ∀ i, i < (nm.getD k ⟨#[]⟩).data.toList.length → 97 ≤ ((nm.getD k ⟨#[]⟩).data.toList.getD i 0).toNat ∧ ((nm.getD k ⟨#[]⟩).data.toList.getD i 0).toNat ≤ 122 := by decide +kernel
theorem name_size : ∀ k, k < 52 → 0 < (nm.getD k ⟨#[]⟩).size ∧ (nm.getD k ⟨#[]⟩).size ≤ 9 := by decide +kernel
theorem form_size : ∀ k, k < 52 → (fm.getD k ⟨#[]⟩).size ≤ 2 := by decide +kernel
end Go.Proofs.YtahejekcfgkiaaaGreatDoor.oper

/-
  The plain mathematics of words: the word of a number's lowest bits, bit by bit, moved up and down, and what each operation comes to. It speaks of numbers alone.
-/
namespace Go.Proofs.YtahejekcfgkiaaaGreatDoor.word

/-- The word of the lowest 32 bits. -/
def low (n : Int) : Int := (n + 2147483648) % 4294967296 - 2147483648
def Word (n : Int) : Prop := -2147483648 ≤ n ∧ n ≤ 2147483647
instance (n : Int) : Decidable (Word n) := inferInstanceAs (Decidable (-2147483648 ≤ n ∧ n ≤ 2147483647))
theorem low_word (n : Int) : Word (low n) := by unfold Word low; omega
theorem low_id {n : Int} (h : Word n) : low n = n := by unfold Word at h; unfold low; omega
theorem low_low (n : Int) : low (low n) = low n := low_id (low_word n)
theorem low_diff (n : Int) : (n - low n) % 4294967296 = 0 := by unfold low; omega
theorem low_eq (a b : Int) : low a = low b ↔ (a - b) % 4294967296 = 0 := by unfold low; omega
theorem low_mod (n : Int) : low (n % 4294967296) = low n := by unfold low; omega

/-- What is left in a division that is rounded towards 0, by a number above 0. -/
theorem tmod_pos {n : Int} (h : 0 ≤ n) (d : Int) : n.tmod d = n % d := Int.tmod_eq_emod_of_nonneg h
theorem tmod_neg {n : Int} (h : n < 0) (d : Int) : n.tmod d = -((-n) % d) := by
  have h1 : (-n).tmod d = -(n.tmod d) := Int.neg_tmod _ _
  rw [Int.tmod_eq_emod_of_nonneg (by omega)] at h1
  omega
theorem low_tmod (n : Int) : low n = if 2147483648 ≤ n.tmod 4294967296 then n.tmod 4294967296 - 4294967296 else if n.tmod 4294967296 < -2147483648 then n.tmod 4294967296 + 4294967296 else n.tmod 4294967296 := by
  unfold low
  by_cases h : 0 ≤ n
  · rw [tmod_pos h]
    split
    · omega
    · split <;> omega
  · rw [tmod_neg (by omega)]
    split
    · omega
    · split <;> omega
theorem tmod_range (n : Int) : -4294967296 < n.tmod 4294967296 ∧ n.tmod 4294967296 < 4294967296 := by
  by_cases h : 0 ≤ n
  · rw [tmod_pos h]; omega
  · rw [tmod_neg (by omega)]; omega

/-- The bits of a word, as a number from 0 on. -/
def un (n : Int) : Nat := (n % 4294967296).toNat
theorem un_lt (n : Int) : un n < 4294967296 := by unfold un; omega
theorem un_word {n : Int} (h : Word n) : (un n : Int) = if n < 0 then n + 4294967296 else n := by
  unfold Word at h
  unfold un
  split <;> omega
theorem low_un (n : Int) : low (un n : Int) = low n := by unfold low un; omega

/-- Two words of ones, bit by bit. -/
def bitop (op : Int) (x y : Nat) : Nat := if op = 11 then x &&& y else if op = 12 then x ||| y else x ^^^ y
theorem bitop_lt (op : Int) {x y : Nat} (hx : x < 4294967296) (hy : y < 4294967296) : bitop op x y < 4294967296 := by
  have e : (2 : Nat) ^ 32 = 4294967296 := rfl
  unfold bitop
  split
  · exact Nat.lt_of_le_of_lt Nat.and_le_left hx
  · split
    · rw [← e] at *; exact Nat.or_lt_two_pow hx hy
    · rw [← e] at *; exact Nat.xor_lt_two_pow hx hy
def bitAt (x k : Nat) : Nat := x / 2 ^ k % 2
theorem bitAt_lt (x k : Nat) : bitAt x k < 2 := Nat.mod_lt _ (by omega)
theorem bitAt_test (x k : Nat) : bitAt x k = if x.testBit k then 1 else 0 := by
  unfold bitAt
  rw [Nat.testBit_eq_decide_div_mod_eq]
  by_cases h : x / 2 ^ k % 2 = 1
  · simp [h]
  · have h0 : x / 2 ^ k % 2 = 0 := by omega
    simp [h0]
/-- Whether a bit of the two stands in what comes. -/
def joins (op : Int) (x y : Nat) : Prop := (op = 11 ∧ x + y = 2) ∨ (op = 12 ∧ 0 < x + y) ∨ (op = 13 ∧ x + y = 1)
instance (op : Int) (x y : Nat) : Decidable (joins op x y) := inferInstanceAs (Decidable ((op = 11 ∧ x + y = 2) ∨ (op = 12 ∧ 0 < x + y) ∨ (op = 13 ∧ x + y = 1)))
theorem bitop_at {op : Int} (hop : op = 11 ∨ op = 12 ∨ op = 13) (x y k : Nat) : bitAt (bitop op x y) k = if joins op (bitAt x k) (bitAt y k) then 1 else 0 := by
  rw [bitAt_test, bitAt_test x, bitAt_test y]
  unfold bitop joins
  rcases hop with rfl | rfl | rfl
  · simp only [if_true, Nat.testBit_and]
    cases x.testBit k <;> cases y.testBit k <;> simp
  · simp only [show ¬ ((12 : Int) = 11) from by decide, if_false, if_true, Nat.testBit_or]
    cases x.testBit k <;> cases y.testBit k <;> simp
  · simp only [show ¬ ((13 : Int) = 11) from by decide, show ¬ ((13 : Int) = 12) from by decide, if_false, Nat.testBit_xor]
    cases x.testBit k <;> cases y.testBit k <;> simp
theorem mod_succ (x k : Nat) : x % 2 ^ (k + 1) = x % 2 ^ k + 2 ^ k * bitAt x k := Nat.mod_pow_succ
theorem bitAt_succ (x k : Nat) : x / 2 ^ k / 2 = x / 2 ^ (k + 1) := by rw [Nat.div_div_eq_div_mul, Nat.pow_succ]

/-- A step up, and a step down. -/
theorem low_double (a : Int) (k : Nat) : low (2 * low (a * 2 ^ k)) = low (a * 2 ^ (k + 1)) := by
  rw [show a * 2 ^ (k + 1) = 2 * (a * 2 ^ k) from by rw [Int.pow_succ, ← Int.mul_assoc, Int.mul_comm]]
  generalize a * 2 ^ k = x
  unfold low
  omega
theorem half_step (a : Int) (k : Nat) : a / 2 ^ k / 2 = a / 2 ^ (k + 1) := by
  rw [Int.pow_succ, Int.ediv_ediv_of_nonneg]
  exact Int.le_of_lt (Int.pow_pos (by omega))
/-- Half, rounded down, by a division that is rounded towards 0. -/
theorem half_neg {a : Int} (h : a < 0) : (a - 1).tdiv 2 = a / 2 := by
  have h1 : (-(a - 1)).tdiv 2 = -((a - 1).tdiv 2) := Int.neg_tdiv _ _
  rw [Int.tdiv_eq_ediv_of_nonneg (by omega)] at h1
  omega
theorem half_pos {a : Int} (h : ¬ a < 0) : a.tdiv 2 = a / 2 := Int.tdiv_eq_ediv_of_nonneg (by omega)

theorem mul_bound {a b : Int} (ha : Word a) (hb : Word b) : -4611686018427387904 ≤ a * b ∧ a * b ≤ 4611686018427387904 := by
  unfold Word at ha hb
  have hm : (a * b).natAbs ≤ 2147483648 * 2147483648 := by
    rw [Int.natAbs_mul]
    exact Nat.mul_le_mul (by omega) (by omega)
  omega

/-- A number, or the fault that it is no word. -/
def ex (n : Int) : Int × Int := if Word n then (n, 0) else (0, 1)
/-- How far a word is moved. -/
def far (b : Int) : Nat := (b % 32).toNat
theorem far_lt (b : Int) : far b < 32 := by unfold far; omega
/-- What an operation makes of two words, and its fault. -/
def doW (op a b : Int) : Int × Int :=
  if op = 3 then ex (a + b) else if op = 4 then ex (a - b) else if op = 5 then ex (a * b)
  else if op = 6 then (if b = 0 then (0, 2) else ex (a.tdiv b)) else if op = 7 then (if b = 0 then (0, 2) else (a.tmod b, 0))
  else if op = 8 then ex (-a) else if op = 9 then (if a < b then (1, 0) else (0, 0)) else if op = 10 then (if a = b then (1, 0) else (0, 0))
  else if op = 11 ∨ op = 12 ∨ op = 13 then (low (bitop op (un a) (un b) : Nat), 0)
  else if op = 14 then (low (a * 2 ^ far b), 0) else if op = 15 then (a / 2 ^ far b, 0) else (0, 0)
theorem ex_word (n : Int) : Word (ex n).1 := by
  unfold ex
  split
  · assumption
  · unfold Word; omega
theorem tmod_word {a b : Int} (ha : Word a) : Word (a.tmod b) := by
  have h1 : (a.tmod b).natAbs ≤ a.natAbs := by
    rw [Int.natAbs_tmod]
    exact Nat.mod_le _ _
  have h2 : 0 ≤ a → 0 ≤ a.tmod b := fun h => Int.tmod_nonneg b h
  have h3 : a ≤ 0 → a.tmod b ≤ 0 := fun h => by
    have e : (-a).tmod b = -(a.tmod b) := Int.neg_tmod _ _
    have := Int.tmod_nonneg b (show 0 ≤ -a by omega)
    omega
  unfold Word at *
  omega
theorem down_word {a : Int} (ha : Word a) (k : Nat) : Word (a / 2 ^ k) := by
  have hp : (0 : Int) < 2 ^ k := Int.pow_pos (by omega)
  unfold Word at *
  constructor
  · refine (Int.le_ediv_iff_mul_le hp).2 ?_
    have h1 : (1 : Int) ≤ 2 ^ k := hp
    have h2 : -2147483648 * (2 : Int) ^ k ≤ -2147483648 * 1 := Int.mul_le_mul_of_nonpos_left (by omega) h1
    omega
  · by_cases h : 0 ≤ a
    · have := Int.ediv_le_self (2 ^ k) h
      omega
    · have := Int.ediv_neg_of_neg_of_pos (show a < 0 by omega) hp
      omega
theorem doW_word {a b : Int} (ha : Word a) (op : Int) : Word (doW op a b).1 := by
  have h0 : Word 0 := by unfold Word; omega
  have h1 : Word 1 := by unfold Word; omega
  unfold doW
  split
  · exact ex_word _
  split
  · exact ex_word _
  split
  · exact ex_word _
  split
  · split
    · exact h0
    · exact ex_word _
  split
  · split
    · exact h0
    · exact tmod_word ha
  split
  · exact ex_word _
  split
  · split
    · exact h1
    · exact h0
  split
  · split
    · exact h1
    · exact h0
  split
  · exact low_word _
  split
  · exact low_word _
  split
  · exact down_word ha _
  · exact h0
/-- The highest bits of a product. -/
def hi (a b : Int) : Int := a * b / 4294967296
theorem hi_word {a b : Int} (ha : Word a) (hb : Word b) : Word (hi a b) := by
  have h := mul_bound ha hb
  unfold Word hi
  generalize a * b = p at *
  omega
theorem hi_down {p : Int} : p / 4294967296 = if p.tmod 4294967296 < 0 then p.tdiv 4294967296 - 1 else p.tdiv 4294967296 := by
  by_cases h : 0 ≤ p
  · rw [tmod_pos h, Int.tdiv_eq_ediv_of_nonneg h]
    split <;> omega
  · rw [tmod_neg (by omega)]
    have h1 : (-p).tdiv 4294967296 = -(p.tdiv 4294967296) := Int.neg_tdiv _ _
    rw [Int.tdiv_eq_ediv_of_nonneg (by omega)] at h1
    split <;> omega
theorem hi_low (p : Int) : p = p / 4294967296 * 4294967296 + (if low p < 0 then low p + 4294967296 else low p) := by
  unfold low
  split <;> omega
end Go.Proofs.YtahejekcfgkiaaaGreatDoor.word

/-
  What is wrong with an instruction, its bytes, and the instruction with which bytes begin: plain mathematics of lists and numbers, and that putting and getting undo each other. No condition but that operands are ints.
-/
namespace Go.Proofs.YtahejekcfgkiaaaGreatDoor.inst
open Go.Proofs.YtahejekcfgkiaaaGreatDoor.octet (St rdByte rdNum rdInt num zig zag num_back num_once zig_zag zag_zig zig_lt num_length_le dec enc_length_pos rdNum_ok rdByte_ok)
open Go.Proofs.YtahejekcfgkiaaaGreatDoor.oper (fm txt)
open Go.Proofs.YtahejekcfgkiaaaGreatDoor.word (Word)

/-- The letters of an operation's operands. -/
def form (o : Int) : List UInt8 := (txt fm o).data.toList
def most (c : UInt8) : Int := if c = 107 then 7 else if c = 116 then 199 else if c = 102 then 15 else if c = 106 then 4 else 31
def least (c : UInt8) : Int := if c = 106 then 1 else 0
/-- Is a number in the range of a letter? -/
def fitsB (c : UInt8) (v : Int) : Bool := if c = 110 then decide (Word v) else decide (least c ≤ v ∧ v ≤ most c)
def opd (a b : Int) (j : Nat) : Int := if j = 0 then a else b
def okAt (f : List UInt8) (a b : Int) (j : Nat) : Bool := fitsB (f.getD j 0) (opd a b j)
/-- What is wrong with the operands of an operation of this form. -/
def chkF (f : List UInt8) (a b : Int) : Nat :=
  if (List.range f.length).all (okAt f a b) = false then 1
  else if f = [106, 106] ∧ b < a then 1
  else if (List.range 2).all (fun j => decide (j < f.length) || (opd a b j == 0)) = false then 2 else 0
def Known (o : Int) : Prop := 0 ≤ o ∧ o ≤ 51
instance (o : Int) : Decidable (Known o) := by unfold Known; infer_instance
/-- What is wrong with an instruction. -/
def chk (o a b : Int) : Nat := if Known o then chkF (form o) a b else 6

theorem chkF_arg {f : List UInt8} {a b : Int} {j : Nat} (hj : j < f.length) (h : okAt f a b j = false) : chkF f a b = 1 := by
  unfold chkF
  rw [if_pos]
  cases hh : (List.range f.length).all (okAt f a b) with
  | false => rfl
  | true => rw [List.all_eq_true] at hh; rw [hh j (List.mem_range.2 hj)] at h; cases h
theorem all_ok {f : List UInt8} {a b : Int} (h : ∀ j, j < f.length → okAt f a b j = true) : (List.range f.length).all (okAt f a b) = true := by
  rw [List.all_eq_true]
  exact fun j hj => h j (List.mem_range.1 hj)
theorem chkF_two {f : List UInt8} {a b : Int} (h : ∀ j, j < f.length → okAt f a b j = true) (hf : f = [106, 106]) (hab : b < a) : chkF f a b = 1 := by
  unfold chkF
  rw [all_ok h, if_neg (by decide), if_pos ⟨hf, hab⟩]
theorem chkF_form {f : List UInt8} {a b : Int} (h : ∀ j, j < f.length → okAt f a b j = true) (h2 : ¬ (f = [106, 106] ∧ b < a)) {j : Nat} (hj : f.length ≤ j) (hj2 : j < 2) (hv : opd a b j ≠ 0) : chkF f a b = 2 := by
  unfold chkF
  rw [all_ok h, if_neg (by decide), if_neg h2, if_pos]
  cases hh : (List.range 2).all (fun j => decide (j < f.length) || (opd a b j == 0)) with
  | false => rfl
  | true =>
    rw [List.all_eq_true] at hh
    have := hh j (List.mem_range.2 hj2)
    simp only [Bool.or_eq_true, decide_eq_true_iff, beq_iff_eq] at this
    rcases this with h | h
    · omega
    · exact absurd h hv
theorem chkF_fine {f : List UInt8} {a b : Int} (h : ∀ j, j < f.length → okAt f a b j = true) (h2 : ¬ (f = [106, 106] ∧ b < a)) (h3 : ∀ j, f.length ≤ j → j < 2 → opd a b j = 0) : chkF f a b = 0 := by
  unfold chkF
  rw [all_ok h, if_neg (by decide), if_neg h2, if_neg]
  rw [Bool.not_eq_false, List.all_eq_true]
  intro j hj
  rcases Nat.lt_or_ge j f.length with hl | hl
  · simp [hl]
  · simp [h3 j hl (List.mem_range.1 hj)]
theorem chkF_zero {f : List UInt8} {a b : Int} (h : chkF f a b = 0) : (∀ j, j < f.length → okAt f a b j = true) ∧ ¬ (f = [106, 106] ∧ b < a) ∧ ∀ j, f.length ≤ j → j < 2 → opd a b j = 0 := by
  have h1 : ∀ j, j < f.length → okAt f a b j = true := fun j hj => by
    cases hh : okAt f a b j with
    | true => rfl
    | false => rw [chkF_arg hj hh] at h; cases h
  have h2 : ¬ (f = [106, 106] ∧ b < a) := fun ⟨hf, hab⟩ => by rw [chkF_two h1 hf hab] at h; cases h
  refine ⟨h1, h2, fun j hj hj2 => ?_⟩
  by_cases hv : opd a b j = 0
  · exact hv
  · rw [chkF_form h1 h2 hj hj2 hv] at h; cases h
theorem chkF_le (f : List UInt8) (a b : Int) : chkF f a b ≤ 2 := by unfold chkF; split; omega; split; omega; split <;> omega
theorem chk_le (o a b : Int) : chk o a b ≤ 6 := by
  unfold chk
  split
  · have := chkF_le (form o) a b; omega
  · omega

theorem forms2 : ∀ k, k < 52 → (fm.getD k ⟨#[]⟩).data.toList.length ≤ 2 := by decide +kernel
theorem form_at {k : Nat} (h : k < 52) : form (k : Int) = (fm.getD k ⟨#[]⟩).data.toList := by
  unfold form txt
  rw [if_pos (by omega), Int.toNat_natCast]
theorem form_le (o : Int) : (form o).length ≤ 2 := by
  by_cases h : 0 ≤ o ∧ o ≤ 51
  · have := forms2 o.toNat (by omega)
    have e := form_at (k := o.toNat) (by omega)
    rw [show ((o.toNat : Nat) : Int) = o from by omega] at e
    rw [e]; exact this
  · unfold form txt
    rw [if_neg h]
    exact Nat.zero_le _

/-- The bytes of an operand. -/
def piece (c : UInt8) (v : Int) : List UInt8 := if c = 110 then num (zig v) else num v.toNat
/-- The bytes of the first j operands. -/
def pieces (f : List UInt8) (a b : Int) : Nat → List UInt8
  | 0 => []
  | j + 1 => pieces f a b j ++ piece (f.getD j 0) (opd a b j)
def encI (o a b : Int) : List UInt8 := UInt8.ofNat o.toNat :: pieces (form o) a b (form o).length
theorem piece_le (c : UInt8) (v : Int) : (piece c v).length ≤ 10 := by unfold piece; split <;> exact num_length_le _
theorem pieces_le (f : List UInt8) (a b : Int) : ∀ j, (pieces f a b j).length ≤ 10 * j := by
  intro j
  induction j with
  | zero => simp [pieces]
  | succ j ih =>
    have := piece_le (f.getD j 0) (opd a b j)
    simp only [pieces, List.length_append]
    omega
theorem encI_le (o a b : Int) : (encI o a b).length ≤ 21 := by
  have h1 := pieces_le (form o) a b (form o).length
  have h2 := form_le o
  simp only [encI, List.length_cons]
  omega

/-- An operand that is read: its number, and what is left. -/
def rdOpd (c : UInt8) (s : St) : Int × St := if c = 110 then rdInt s else (((min (rdNum s).1 2147483648 : Nat) : Int), (rdNum s).2)
/-- What the first j operands are read as, and what is left. -/
def rdOpds (f : List UInt8) (s : St) : Nat → List Int × St
  | 0 => ([], s)
  | j + 1 => ((rdOpds f s j).1 ++ [(rdOpd (f.getD j 0) (rdOpds f s j).2).1], (rdOpd (f.getD j 0) (rdOpds f s j).2).2)
structure Got where
  o : Int
  a : Int
  b : Int
  n : Nat
  e : Nat
def Got.bad (e : Nat) : Got := ⟨0, 0, 0, 0, e⟩
/-- What bytes begin with. -/
def getI (l : List UInt8) : Got :=
  let b := rdByte ⟨l, 0⟩
  if b.2.err ≠ 0 then .bad b.2.err
  else if 51 < b.1 then .bad 6
  else
    let r := rdOpds (form b.1) b.2 (form b.1).length
    if r.2.err ≠ 0 then .bad r.2.err
    else if chk b.1 (r.1.getD 0 0) (r.1.getD 1 0) ≠ 0 then .bad (chk b.1 (r.1.getD 0 0) (r.1.getD 1 0))
    else ⟨b.1, r.1.getD 0 0, r.1.getD 1 0, l.length - r.2.rest.length, 0⟩

theorem rdOpd_err {c : UInt8} {s : St} (h : s.err ≠ 0) : (rdOpd c s).2 = s := by
  unfold rdOpd rdInt rdNum
  rw [if_pos h]
  split <;> rfl
theorem rdOpds_length (f : List UInt8) (s : St) (j : Nat) : (rdOpds f s j).1.length = j := by
  induction j with
  | zero => rfl
  | succ j ih => simp [rdOpds, ih]
theorem rdOpds_err {f : List UInt8} {s : St} {j : Nat} (h : (rdOpds f s j).2.err ≠ 0) : ∀ k, j ≤ k → (rdOpds f s k).2 = (rdOpds f s j).2 := by
  intro k hk
  induction k with
  | zero =>
    obtain rfl : j = 0 := by omega
    rfl
  | succ k ih =>
    rcases Nat.eq_or_lt_of_le hk with e | e
    · subst e; rfl
    · have := ih (by omega)
      simp only [rdOpds]
      rw [this, rdOpd_err h]

/-- What was put of an operand is read again. -/
theorem rdOpd_back {c : UInt8} {v : Int} (h : fitsB c v = true) (more : List UInt8) : rdOpd c ⟨piece c v ++ more, 0⟩ = (v, ⟨more, 0⟩) := by
  unfold rdOpd piece
  unfold fitsB at h
  by_cases hc : c = 110
  · rw [if_pos hc] at h
    rw [if_pos hc, if_pos hc]
    have hw : Word v := by simpa using h
    unfold Word at hw
    have hz := num_back (zig_lt (n := v) (by omega) (by omega)) more
    unfold rdInt rdNum
    simp only [ne_eq, not_true_eq_false, if_false, hz, zag_zig]
  · rw [if_neg hc] at h
    rw [if_neg hc, if_neg hc]
    have hw : least c ≤ v ∧ v ≤ most c := by simpa using h
    have h0 : 0 ≤ least c := by unfold least; split <;> omega
    have h1 : most c ≤ 199 := by unfold most; split; omega; split; omega; split; omega; split <;> omega
    have hz := num_back (n := v.toNat) (by omega) more
    unfold rdNum
    simp only [ne_eq, not_true_eq_false, if_false, hz]
    congr 1
    omega
/-- What is read of an operand, put again, is just what was read. -/
theorem rdOpd_once {c : UInt8} {l : List UInt8} {v : Int} {s : St} (h : rdOpd c ⟨l, 0⟩ = (v, s)) (he : s.err = 0) (hf : fitsB c v = true) : l = piece c v ++ s.rest := by
  unfold rdOpd at h
  unfold fitsB at hf
  unfold piece
  by_cases hc : c = 110
  · rw [if_pos hc] at h ⊢
    unfold rdInt rdNum at h
    simp only [ne_eq, not_true_eq_false, if_false, Prod.mk.injEq] at h
    obtain ⟨h1, h2⟩ := h
    have := num_once (l := l) (v := (dec l 0 0).1) (rest := (dec l 0 0).2.1) (Prod.ext rfl (Prod.ext rfl (by rw [← h2] at he; exact he)))
    rw [← h1, zig_zag, ← h2]
    exact this.1
  · rw [if_neg hc] at h hf ⊢
    unfold rdNum at h
    simp only [ne_eq, not_true_eq_false, if_false, Prod.mk.injEq] at h
    obtain ⟨h1, h2⟩ := h
    have hw : least c ≤ v ∧ v ≤ most c := by simpa using hf
    have hm : most c ≤ 199 := by unfold most; split; omega; split; omega; split; omega; split <;> omega
    have := num_once (l := l) (v := (dec l 0 0).1) (rest := (dec l 0 0).2.1) (Prod.ext rfl (Prod.ext rfl (by rw [← h2] at he; exact he)))
    have e : v.toNat = (dec l 0 0).1 := by omega
    rw [e, ← h2]
    exact this.1

theorem getD_left {α : Type} {l r : List α} {d : α} {i : Nat} (h : i < l.length) : (l ++ r).getD i d = l.getD i d := by
  rw [List.getD_eq_getElem?_getD, List.getD_eq_getElem?_getD, List.getElem?_append_left h]
theorem getD_last {α : Type} {l : List α} {x d : α} {i : Nat} (h : l.length = i) : (l ++ [x]).getD i d = x := by
  subst h
  rw [List.getD_eq_getElem?_getD, List.getElem?_append_right (Nat.le_refl _), Nat.sub_self]
  rfl
theorem opds_back {f : List UInt8} {a b : Int} : ∀ j, (∀ i, i < j → okAt f a b i = true) → ∀ more, rdOpds f ⟨pieces f a b j ++ more, 0⟩ j = ((List.range j).map (opd a b), ⟨more, 0⟩) := by
  intro j
  induction j with
  | zero => intro _ more; rfl
  | succ j ih =>
    intro h more
    have h1 := ih (fun i hi => h i (by omega)) (piece (f.getD j 0) (opd a b j) ++ more)
    simp only [pieces, List.append_assoc, rdOpds]
    rw [h1]
    have h2 := rdOpd_back (h j (by omega)) more
    rw [h2, List.range_succ, List.map_append]
    rfl
theorem opds_once {f : List UInt8} : ∀ j (l : List UInt8), (rdOpds f ⟨l, 0⟩ j).2.err = 0 → ∀ a b : Int, (∀ i, i < j → (rdOpds f ⟨l, 0⟩ j).1.getD i 0 = opd a b i) → (∀ i, i < j → okAt f a b i = true) → l = pieces f a b j ++ (rdOpds f ⟨l, 0⟩ j).2.rest := by
  intro j
  induction j with
  | zero => intro l _ a b _ _; simp [pieces, rdOpds]
  | succ j ih =>
    intro l he a b hv hok
    have he' : (rdOpds f ⟨l, 0⟩ j).2.err = 0 := by
      rcases Nat.eq_zero_or_pos (rdOpds f ⟨l, 0⟩ j).2.err with h | h
      · exact h
      · have := rdOpds_err (f := f) (s := ⟨l, 0⟩) (j := j) (by omega) (j + 1) (by omega)
        rw [this] at he; omega
    have hlen := rdOpds_length f ⟨l, 0⟩ j
    have h1 := ih l he' a b (fun i hi => by
      have := hv i (by omega)
      simp only [rdOpds] at this
      rwa [getD_left (by omega)] at this) (fun i hi => hok i (by omega))
    have hj := hv j (by omega)
    simp only [rdOpds] at hj he ⊢
    rw [getD_last hlen] at hj
    generalize (rdOpds f ⟨l, 0⟩ j).2 = S at *
    obtain ⟨R, E⟩ := S
    dsimp only at he'
    subst he'
    have h2 := rdOpd_once (c := f.getD j 0) (l := R) (v := opd a b j) (s := (rdOpd (f.getD j 0) ⟨R, 0⟩).2) (Prod.ext hj rfl) he (hok j (by omega))
    dsimp only at h1
    simp only [pieces, List.append_assoc]
    rw [← h2]
    exact h1

theorem chk_zero {o a b : Int} (h : chk o a b = 0) : Known o ∧ chkF (form o) a b = 0 := by
  unfold chk at h
  split at h
  · exact ⟨‹_›, h⟩
  · cases h
theorem back {o a b : Int} (h : chk o a b = 0) (more : List UInt8) : getI (encI o a b ++ more) = ⟨o, a, b, (encI o a b).length, 0⟩ := by
  obtain ⟨hk, hf⟩ := chk_zero h
  obtain ⟨h1, h2, h3⟩ := chkF_zero hf
  unfold Known at hk
  have hb : rdByte ⟨encI o a b ++ more, 0⟩ = (o.toNat, ⟨pieces (form o) a b (form o).length ++ more, 0⟩) := by
    unfold rdByte encI
    simp only [ne_eq, not_true_eq_false, if_false, List.cons_append]
    congr 1
    rw [UInt8.toNat_ofNat']
    omega
  have ho : ((o.toNat : Nat) : Int) = o := by omega
  have hr := opds_back (f := form o) (a := a) (b := b) (form o).length h1 more
  have hl := form_le o
  have ha : ((List.range (form o).length).map (opd a b)).getD 0 0 = a := by
    rcases Nat.lt_or_ge 0 (form o).length with hh | hh
    · rw [List.getD_eq_getElem?_getD, List.getElem?_map, List.getElem?_range hh]; rfl
    · have := h3 0 hh (by omega)
      rw [List.getD_eq_getElem?_getD, List.getElem?_eq_none (by simpa using hh)]
      exact this.symm
  have hb' : ((List.range (form o).length).map (opd a b)).getD 1 0 = b := by
    rcases Nat.lt_or_ge 1 (form o).length with hh | hh
    · rw [List.getD_eq_getElem?_getD, List.getElem?_map, List.getElem?_range hh]; rfl
    · have := h3 1 hh (by omega)
      rw [List.getD_eq_getElem?_getD, List.getElem?_eq_none (by simpa using hh)]
      exact this.symm
  unfold getI
  simp only [hb, ho, hr, ha, hb', h, ne_eq, not_true_eq_false, if_false]
  rw [if_neg (by omega)]
  congr 1
  simp
theorem got_bad {l : List UInt8} (h : (getI l).e ≠ 0) : getI l = .bad (getI l).e := by
  unfold getI at h ⊢
  dsimp only at h ⊢
  split
  · rfl
  · split
    · rfl
    · split
      · rfl
      · split
        · rfl
        · rename_i h1 h2 h3 h4
          rw [if_neg h1, if_neg h2, if_neg h3, if_neg h4] at h
          exact absurd rfl h
theorem once {l : List UInt8} (h : (getI l).e = 0) : chk (getI l).o (getI l).a (getI l).b = 0 ∧ 0 < (getI l).n ∧ (getI l).n ≤ l.length ∧ encI (getI l).o (getI l).a (getI l).b = l.take (getI l).n := by
  unfold getI at h ⊢
  dsimp only at h ⊢
  by_cases h1 : (rdByte ⟨l, 0⟩).2.err ≠ 0
  · rw [if_pos h1] at h; exact absurd h h1
  · rw [if_neg h1] at h ⊢
    by_cases h2 : 51 < (rdByte ⟨l, 0⟩).1
    · rw [if_pos h2] at h; cases h
    · rw [if_neg h2] at h ⊢
      obtain ⟨x, r, rfl⟩ : ∃ x r, l = x :: r := by
        cases l with
        | nil => exact absurd (show (rdByte ⟨[], 0⟩).2.err ≠ 0 by decide) h1
        | cons x r => exact ⟨x, r, rfl⟩
      have hb : rdByte ⟨x :: r, 0⟩ = (x.toNat, ⟨r, 0⟩) := rfl
      rw [hb] at h h2 ⊢
      dsimp only at h h2 ⊢
      have hk : Known (x.toNat : Int) := by unfold Known; omega
      by_cases h3 : (rdOpds (form (x.toNat : Int)) ⟨r, 0⟩ (form (x.toNat : Int)).length).2.err ≠ 0
      · rw [if_pos h3] at h; exact absurd h h3
      · rw [if_neg h3] at h ⊢
        by_cases h4 : chk (x.toNat : Int) ((rdOpds (form (x.toNat : Int)) ⟨r, 0⟩ (form (x.toNat : Int)).length).1.getD 0 0) ((rdOpds (form (x.toNat : Int)) ⟨r, 0⟩ (form (x.toNat : Int)).length).1.getD 1 0) ≠ 0
        · rw [if_pos h4] at h; exact absurd h h4
        · rw [if_neg h4]
          dsimp only
          have h4' : chk (x.toNat : Int) ((rdOpds (form (x.toNat : Int)) ⟨r, 0⟩ (form (x.toNat : Int)).length).1.getD 0 0) ((rdOpds (form (x.toNat : Int)) ⟨r, 0⟩ (form (x.toNat : Int)).length).1.getD 1 0) = 0 := by omega
          have hok := (chkF_zero (chk_zero h4').2).1
          have hl := form_le (x.toNat : Int)
          have hr := opds_once (f := form (x.toNat : Int)) (form (x.toNat : Int)).length r (by omega) _ _ (fun i hi => by
            unfold opd
            split
            · subst_vars; rfl
            · obtain rfl : i = 1 := by omega
              rfl) hok
          have henc : x :: r = encI (x.toNat : Int) ((rdOpds (form (x.toNat : Int)) ⟨r, 0⟩ (form (x.toNat : Int)).length).1.getD 0 0) ((rdOpds (form (x.toNat : Int)) ⟨r, 0⟩ (form (x.toNat : Int)).length).1.getD 1 0) ++ (rdOpds (form (x.toNat : Int)) ⟨r, 0⟩ (form (x.toNat : Int)).length).2.rest := by
            unfold encI
            rw [List.cons_append, ← hr]
            congr 1
            rw [Int.toNat_natCast, UInt8.ofNat_toNat]
          have hlen := congrArg List.length henc
          rw [List.length_append] at hlen
          have hpos : 0 < (encI (x.toNat : Int) ((rdOpds (form (x.toNat : Int)) ⟨r, 0⟩ (form (x.toNat : Int)).length).1.getD 0 0) ((rdOpds (form (x.toNat : Int)) ⟨r, 0⟩ (form (x.toNat : Int)).length).1.getD 1 0)).length := by unfold encI; simp
          refine ⟨h4', by omega, by omega, ?_⟩
          generalize encI (x.toNat : Int) _ _ = E at *
          generalize (rdOpds (form (x.toNat : Int)) ⟨r, 0⟩ (form (x.toNat : Int)).length).2.rest = R at *
          rw [henc, show (E ++ R).length - R.length = E.length from by simp, List.take_left']
          rfl
end Go.Proofs.YtahejekcfgkiaaaGreatDoor.inst

/-
  The program's own calls on operations: which numbers are one, its form, what is laid, and whether the next one follows. No condition.
-/
namespace Go.Proofs.YtahejekcfgkiaaaGreatDoor.oper
open Go.RowKit Go.ChangeShapes

theorem ret_int {k : IntKind} {a b : Int} (h : a = b) : Ending.returned (.int k a) = .returned (.int k b) := by rw [h]
theorem ret_bool {a b : Bool} (h : a = b) : Ending.returned (.bool a) = .returned (.bool b) := by rw [h]
theorem ret_string {a b : ByteArray} (h : a = b) : Ending.returned (.string a) = .returned (.string b) := by rw [h]

theorem known_yes (n : Int) (h0 : 0 ≤ n) (h1 : n ≤ 51) (w : World) : Calls Tryz.prog 115 #[.int .i64 n] w fun e w' => e = .returned (.bool true) ∧ w = w' := by
  have h2 : n < 52 := by omega
  go_enter Tryz.func115, Tryz.ntmps115
  go_wp2
  go_ret
  exact ⟨rfl, rfl⟩
theorem known_no (n : Int) (h : n < 0 ∨ 51 < n) (w : World) : Calls Tryz.prog 115 #[.int .i64 n] w fun e w' => e = .returned (.bool false) ∧ w = w' := by
  by_cases h0 : 0 ≤ n
  · have h1 : ¬ n < 52 := by omega
    have hd : decide (n < 52) = false := by simpa using h1
    go_enter Tryz.func115, Tryz.ntmps115
    go_wp2
    go_ret
    exact ⟨rfl, rfl⟩
  · have hd : decide (0 ≤ n) = false := by simpa using h0
    go_enter Tryz.func115, Tryz.ntmps115
    go_wp2
    go_ret
    exact ⟨rfl, rfl⟩

def fmL : List Int := [0, 1, 2, 18, 19, 20, 40, 26, 27, 29, 30, 31, 32, 33, 34, 35, 36, 37, 38, 39, 41, 42, 45, 46, 49, 50, 51]
def lyL : List Int := [2, 17, 18, 19, 21, 25, 16, 45]
theorem nat_of {n : Int} (h : 0 ≤ n ∧ n ≤ 51) : ∃ k : Nat, k < 52 ∧ n = (k : Int) := ⟨n.toNat, by omega, by omega⟩
theorem txt_at {l : List ByteArray} {k : Nat} (h : k < 52) : txt l (k : Int) = l.getD k ⟨#[]⟩ := by
  unfold txt
  rw [if_pos (by omega), Int.toNat_natCast]
theorem numb_at {l : List Int} {k : Nat} (h : k < 52) : numb l (k : Int) = l.getD k 0 := by
  unfold numb
  rw [if_pos (by omega), Int.toNat_natCast]
theorem txt_no {l : List ByteArray} {n : Int} (h : n < 0 ∨ 51 < n) : txt l n = ⟨#[]⟩ := by
  unfold txt
  rw [if_neg (by omega)]
theorem numb_no {l : List Int} {n : Int} (h : n < 0 ∨ 51 < n) : numb l n = 0 := by
  unfold numb
  rw [if_neg (by omega)]
theorem fm_rest : ∀ k : Nat, k < 52 → (fmL.all fun j => !((k : Int) == j)) = true → fm.getD k ⟨#[]⟩ = ⟨#[]⟩ := by decide +kernel
theorem fm_other (n : Int) (h : (fmL.all fun j => !(n == j)) = true) : txt fm n = ⟨#[]⟩ := by
  by_cases hk : 0 ≤ n ∧ n ≤ 51
  · obtain ⟨k, hk', rfl⟩ := nat_of hk
    rw [txt_at hk']
    exact fm_rest k hk' h
  · exact txt_no (by omega)
theorem ly_rest : ∀ k : Nat, k < 52 → (lyL.all fun j => !((k : Int) == j)) = true → ly.getD k 0 = 1 := by decide +kernel
theorem ly_other (n : Int) (h0 : 0 ≤ n) (h1 : n ≤ 51) (h : (lyL.all fun j => !(n == j)) = true) : numb ly n = 1 := by
  obtain ⟨k, hk, rfl⟩ := nat_of ⟨h0, h1⟩
  rw [numb_at hk]
  exact ly_rest k hk h

set_option maxHeartbeats 1000000 in
theorem form_any (n : Int) (w : World) : Calls Tryz.prog 72 #[.int .i64 n] w fun e w' => e = .returned (.string (txt fm n)) ∧ w = w' := by
  go_enter Tryz.func72, Tryz.ntmps72
  go_wp2
  all_goals go_ret
  all_goals refine ⟨ret_string ?_, rfl⟩
  all_goals first
    | (have hq := eq_of_beq ‹(n == _) = true›; subst hq; rfl)
    | (rw [fm_other n (by simp only [fmL, List.all_cons, List.all_nil, Bool.not_false, Bool.and_self, *])])

/-- Whether the next instruction follows. -/
def goesB (n : Int) : Bool := decide (0 ≤ n ∧ n ≤ 51 ∧ n ≠ 18 ∧ n ≠ 21)
end Go.Proofs.YtahejekcfgkiaaaGreatDoor.oper

/-
  The program's table of names lies where its initialiser lays it; with that: an operation's name, and the operation of a name. The card ties the table to the program's text.
-/
namespace Go.Proofs.YtahejekcfgkiaaaGreatDoor.oper
open Go.RowKit Go.ChangeShapes

/-- The table of names lies where its initialiser lays it. -/
def Tab (w : World) : Prop := ∀ j, j < 52 → w.cell? ⟨2, j, none⟩ = some (.string (nm.getD j ⟨#[]⟩))
theorem Tab.below {B : Nat} {w w' : World} (h : Tab w) (hb : Below B w w') (hB : 2 < B) : Tab w' := fun j hj => (hb.cell (p := ⟨2, j, none⟩) hB).trans (h j hj)
theorem Tab.cell {w w' : World} (h : Tab w) (hc : ∀ p, w'.cell? p = w.cell? p) : Tab w' := fun j hj => (hc _).trans (h j hj)

theorem name_yes (k : Nat) (hk : k < 52) (w : World) (hT : Tab w) : Calls Tryz.prog 107 #[.int .i64 (k : Int)] w fun e w' => e = .returned (.string (nm.getD k ⟨#[]⟩)) ∧ w = w' := by
  have hc := hT k hk
  have H := Lib.hid (known_yes k (by omega) (by omega) w)
  have h1 : (k : Int) < 52 := by omega
  clear hT
  generalize nm.getD k ⟨#[]⟩ = x at *
  go_enter Tryz.func107, Tryz.ntmps107
  go_wp2_with fail
  refine H.out.mono ?_
  rintro e w' ⟨rfl, rfl⟩
  go_wp2
  go_ret
  exact ⟨rfl, rfl⟩
theorem name_no (n : Int) (h : n < 0 ∨ 51 < n) (w : World) : Calls Tryz.prog 107 #[.int .i64 n] w fun e w' => e = .returned (.string ⟨#[]⟩) ∧ w = w' := by
  have H := Lib.hid (known_no n h w)
  clear h
  go_enter Tryz.func107, Tryz.ntmps107
  go_wp2_with fail
  refine H.out.mono ?_
  rintro e w' ⟨rfl, rfl⟩
  go_wp2
  go_ret
  exact ⟨rfl, rfl⟩
theorem name_any (n : Int) (w : World) (hT : Tab w) : Calls Tryz.prog 107 #[.int .i64 n] w fun e w' => e = .returned (.string (txt nm n)) ∧ w = w' := by
  by_cases h : 0 ≤ n ∧ n ≤ 51
  · obtain ⟨k, hk, rfl⟩ := nat_of h
    rw [txt_at hk]
    exact name_yes k hk w hT
  · rw [txt_no (by omega)]
    exact name_no n (by omega) w

/-- What Of answers of a name: the operation, and whether there is one. -/
def ofK (s : ByteArray) : Int := if idx s < 52 then idx s else 0
def ofB (s : ByteArray) : Bool := decide (idx s < 52)
def OfPost (s : ByteArray) (w : World) (e : Ending) (w' : World) : Prop := e = .returned (.tuple #[.int .i64 (ofK s), .bool (ofB s)]) ∧ w = w'

end Go.Proofs.YtahejekcfgkiaaaGreatDoor.oper

/-
  The document's own answers of operations, each by itself: its tables, which numbers are operations, the operation of a name, form, what is taken and laid. No condition but that an operand is not the greatest number.
-/
namespace Go.Proofs.YtahejekcfgkiaaaGreatDoor.oper
open Go.RowKit Go.ChangeShapes
set_option linter.unusedVariables false

theorem row_cell {α : Type} (f : α → Value) (l : List α) (d : α) (T : TypeId) (w : World) {j : Nat} (hj : j < l.length) : (w.alloc (.cells (l.map f).toArray T)).cell? ⟨w.heap.size, j, none⟩ = some (f (l.getD j d)) := by
  have hb : (w.alloc (.cells (l.map f).toArray T)).heap[w.heap.size]? = some (.cells (l.map f).toArray T) := heap_alloc_new w _
  unfold World.cell?
  rw [hb]
  simp [List.getElem?_eq_getElem hj]

def nmBlock : Obj := .cells (nm.map fun x => .string x).toArray 9
theorem nmBlock_cell (w : World) {j : Nat} (hj : j < 52) : (w.alloc nmBlock).cell? ⟨w.heap.size, j, none⟩ = some (.string (nm.getD j ⟨#[]⟩)) :=
  row_cell (fun x => .string x) nm ⟨#[]⟩ 9 w hj

def fmBlock : Obj := .cells (fm.map fun x => .string x).toArray 9
theorem fmBlock_cell (w : World) {j : Nat} (hj : j < 52) : (w.alloc fmBlock).cell? ⟨w.heap.size, j, none⟩ = some (.string (fm.getD j ⟨#[]⟩)) :=
  row_cell (fun x => .string x) fm ⟨#[]⟩ 9 w hj

def tkBlock : Obj := .cells (tk.map fun x => .int .i64 x).toArray 3
theorem tkBlock_cell (w : World) {j : Nat} (hj : j < 52) : (w.alloc tkBlock).cell? ⟨w.heap.size, j, none⟩ = some (.int .i64 (tk.getD j 0)) :=
  row_cell (fun x => .int .i64 x) tk 0 3 w hj

def lyBlock : Obj := .cells (ly.map fun x => .int .i64 x).toArray 3
theorem lyBlock_cell (w : World) {j : Nat} (hj : j < 52) : (w.alloc lyBlock).cell? ⟨w.heap.size, j, none⟩ = some (.int .i64 (ly.getD j 0)) :=
  row_cell (fun x => .int .i64 x) ly 0 3 w hj

theorem refForms_any (w : World) : Calls Tryz.prog 78 #[] w fun e w' => e = .returned (.slice (some ⟨w.heap.size, 0, none⟩) 52 52) ∧ w' = w.alloc fmBlock := by
  go_enter Tryz.func78, Tryz.ntmps78
  go_wp2
  go_ret
  exact ⟨rfl, rfl⟩

theorem refKnown_yes (n : Int) (h0 : 0 ≤ n) (h1 : n ≤ 51) (w : World) : Calls Tryz.prog 65 #[.int .i64 n] w fun e w' => e = .returned (.bool true) ∧ w = w' := by
  go_enter Tryz.func65, Tryz.ntmps65
  go_wp2
  go_ret
  exact ⟨rfl, rfl⟩
theorem refKnown_no (n : Int) (h : n < 0 ∨ 51 < n) (w : World) : Calls Tryz.prog 65 #[.int .i64 n] w fun e w' => e = .returned (.bool false) ∧ w = w' := by
  by_cases h0 : 0 ≤ n
  · have hd : decide (n ≤ 51) = false := by rw [decide_eq_false_iff_not]; omega
    go_enter Tryz.func65, Tryz.ntmps65
    go_wp2
    go_ret
    exact ⟨rfl, rfl⟩
  · have hd : decide (0 ≤ n) = false := by simpa using h0
    go_enter Tryz.func65, Tryz.ntmps65
    go_wp2
    go_ret
    exact ⟨rfl, rfl⟩

/-- The operation of a name, or -1. -/
def refI (s : ByteArray) : Int := if idx s < 52 then idx s else -1
theorem refForm_yes (k : Nat) (hk : k < 52) (w : World) : Calls Tryz.prog 53 #[.int .i64 (k : Int)] w fun e w' => e = .returned (.string (txt fm (k : Int))) ∧ Below w.heap.size w w' := by
  rw [txt_at hk]
  have HK := Lib.hid (refKnown_yes k (by omega) (by omega) w)
  have HT := Lib.hid (refForms_any w)
  have hc := fmBlock_cell w hk
  have h1 : (k : Int) < 52 := by omega
  have HB := Lib.hid ((Below.refl w.heap.size w).alloc (Nat.le_refl _) fmBlock)
  generalize fm.getD k ⟨#[]⟩ = x at *
  generalize fmBlock = B at *
  go_enter Tryz.func53, Tryz.ntmps53
  go_wp2_with fail
  refine HK.out.mono ?_
  rintro e w1 ⟨rfl, rfl⟩
  go_wp2_with fail
  refine HT.out.mono ?_
  rintro e w1 ⟨rfl, rfl⟩
  go_wp2
  go_ret
  exact ⟨rfl, HB.out⟩
theorem refForm_no (n : Int) (h : n < 0 ∨ 51 < n) (w : World) : Calls Tryz.prog 53 #[.int .i64 n] w fun e w' => e = .returned (.string (txt fm n)) ∧ Below w.heap.size w w' := by
  rw [txt_no h]
  have HK := Lib.hid (refKnown_no n h w)
  clear h
  go_enter Tryz.func53, Tryz.ntmps53
  go_wp2_with fail
  refine HK.out.mono ?_
  rintro e w1 ⟨rfl, rfl⟩
  go_wp2
  go_ret
  exact ⟨rfl, Below.refl _ _⟩
theorem refForm_any (n : Int) (w : World) : Calls Tryz.prog 53 #[.int .i64 n] w fun e w' => e = .returned (.string (txt fm n)) ∧ Below w.heap.size w w' := by
  by_cases h : 0 ≤ n ∧ n ≤ 51
  · obtain ⟨k, hk, rfl⟩ := nat_of h
    exact refForm_yes k hk w
  · exact refForm_no n (by omega) w

end Go.Proofs.YtahejekcfgkiaaaGreatDoor.oper

/-
  The document's own answers of words, each by itself: the word of the lowest bits, which numbers are words, a bit, two words bit by bit, a word that is moved, and what an operation comes to. No condition.
-/
namespace Go.Proofs.YtahejekcfgkiaaaGreatDoor.word
open Go.RowKit Go.ChangeShapes

theorem ret_int {k : IntKind} {a b : Int} (h : a = b) : Ending.returned (.int k a) = .returned (.int k b) := by rw [h]
theorem ret_bool {a b : Bool} (h : a = b) : Ending.returned (.bool a) = .returned (.bool b) := by rw [h]

set_option maxHeartbeats 400000 in
theorem refFits_any (n : Int) (w : World) :
    Calls Tryz.prog 63 #[.int .i64 n] w fun e w' => e = .returned (.bool (decide (Word n))) ∧ w = w' := by
  by_cases h1 : -2147483648 ≤ n
  · by_cases h2 : n < 2147483648
    · have HE : Hid (decide (Word n) = true) := Lib.hid (by rw [decide_eq_true_iff]; unfold Word; omega)
      go_enter Tryz.func63, Tryz.ntmps63
      go_wp2
      go_ret
      exact ⟨ret_bool HE.out.symm, rfl⟩
    · have HE : Hid (decide (Word n) = false) := Lib.hid (by rw [decide_eq_false_iff_not]; unfold Word; omega)
      have hd : decide (n < 2147483648) = false := by simpa using h2
      go_enter Tryz.func63, Tryz.ntmps63
      go_wp2
      go_ret
      exact ⟨ret_bool HE.out.symm, rfl⟩
  · have HE : Hid (decide (Word n) = false) := Lib.hid (by rw [decide_eq_false_iff_not]; unfold Word; omega)
    have hd : decide (-2147483648 ≤ n) = false := by simpa using h1
    go_enter Tryz.func63, Tryz.ntmps63
    go_wp2
    go_ret
    exact ⟨ret_bool HE.out.symm, rfl⟩

/-- Two numbers, as a call tells them. -/
def two (p : Int × Int) : Value := .tuple #[.int .i64 p.1, .int .i64 p.2]

end Go.Proofs.YtahejekcfgkiaaaGreatDoor.word
