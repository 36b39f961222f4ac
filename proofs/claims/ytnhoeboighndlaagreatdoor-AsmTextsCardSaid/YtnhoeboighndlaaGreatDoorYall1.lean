/-
  Texts of one claim in one file: Plain, WPlain, DPlain, EPlain. Each has its own sentence, with its conditions.
-/
import Derived.Below
/-
  The plain mathematics of numbers and texts as bytes: what a number's bytes are, what bytes are read as, and that reading and writing undo each other. It speaks of lists and numbers alone, under no condition but a number below two to the sixty-fourth.
-/
namespace Go.Proofs.YtnhoeboighndlaaGreatDoor.octet

/-- A number's bytes, of at most f + 1. -/
def enc : Nat → Nat → List UInt8
  | 0, n => [UInt8.ofNat n]
  | f + 1, n => if n < 128 then [UInt8.ofNat n] else UInt8.ofNat (n % 128 + 128) :: enc f (n / 128)
def num (n : Nat) : List UInt8 := enc 9 n

theorem enc_small (f n : Nat) (h : n < 128) : enc f n = [UInt8.ofNat n] := by
  cases f with
  | zero => rfl
  | succ f => simp [enc, h]
theorem enc_more (f : Nat) : ∀ n, n < 128 ^ (f + 1) → enc (f + 1) n = enc f n := by
  induction f with
  | zero => intro n h; rw [enc_small _ _ (by omega), enc_small _ _ (by omega)]
  | succ f ih =>
    intro n h
    by_cases hn : n < 128
    · rw [enc_small _ _ hn, enc_small _ _ hn]
    · have hd : n / 128 < 128 ^ (f + 1) := by
        rw [Nat.div_lt_iff_lt_mul (by omega), ← Nat.pow_succ]; exact h
      have e1 : enc (f + 1 + 1) n = UInt8.ofNat (n % 128 + 128) :: enc (f + 1) (n / 128) := by rw [enc, if_neg hn]
      have e2 : enc (f + 1) n = UInt8.ofNat (n % 128 + 128) :: enc f (n / 128) := by rw [enc, if_neg hn]
      rw [e1, e2, ih _ hd]
theorem num_small {n : Nat} (h : n < 128) : num n = [UInt8.ofNat n] := enc_small 9 n h
theorem num_big {n : Nat} (h : 128 ≤ n) (h64 : n < 18446744073709551616) : num n = UInt8.ofNat (n % 128 + 128) :: num (n / 128) := by
  have e1 : num n = UInt8.ofNat (n % 128 + 128) :: enc 8 (n / 128) := by
    unfold num
    rw [enc, if_neg (by omega)]
  rw [e1]
  unfold num
  rw [enc_more 8 (n / 128) (by have : (128 : Nat) ^ (8 + 1) = 9223372036854775808 := rfl; omega)]

theorem enc_length_pos (f n : Nat) : 0 < (enc f n).length := by
  cases f with
  | zero => simp [enc]
  | succ f => simp only [enc]; split <;> simp
theorem enc_length_le (f : Nat) : ∀ n, (enc f n).length ≤ f + 1 := by
  induction f with
  | zero => intro n; simp [enc]
  | succ f ih =>
    intro n
    simp only [enc]
    split
    · simp
    · have := ih (n / 128); simp; omega
theorem num_length_le (n : Nat) : (num n).length ≤ 10 := enc_length_le 9 n
theorem enc_length_mono (f : Nat) : ∀ m n, m ≤ n → (enc f m).length ≤ (enc f n).length := by
  induction f with
  | zero => intro m n _; simp [enc]
  | succ f ih =>
    intro m n h
    by_cases hm : m < 128
    · rw [enc_small _ _ hm]
      exact enc_length_pos _ _
    · have hn : ¬ n < 128 := by omega
      rw [enc, if_neg hm, enc, if_neg hn]
      have := ih (m / 128) (n / 128) (Nat.div_le_div_right h)
      simpa using this
theorem num_length_mono {m n : Nat} (h : m ≤ n) : (num m).length ≤ (num n).length := enc_length_mono 9 m n h

/-- What bytes are read as, behind k bytes that made acc: the number, what is left, the error. -/
def dec : List UInt8 → Nat → Nat → Nat × List UInt8 × Nat
  | [], _, _ => (0, [], 3)
  | b :: r, k, acc =>
    if (k = 9 ∧ 1 < b.toNat) ∨ (0 < k ∧ b.toNat = 0) then (0, [], 2)
    else if b.toNat < 128 then (acc + b.toNat % 128 * 128 ^ k, r, 0)
    else dec r (k + 1) (acc + b.toNat % 128 * 128 ^ k)

theorem dec_err {b : UInt8} {r : List UInt8} {k acc : Nat} (h : (k = 9 ∧ 1 < b.toNat) ∨ (0 < k ∧ b.toNat = 0)) : dec (b :: r) k acc = (0, [], 2) := by rw [dec, if_pos h]
theorem dec_last {b : UInt8} {r : List UInt8} {k acc : Nat} (h : ¬ ((k = 9 ∧ 1 < b.toNat) ∨ (0 < k ∧ b.toNat = 0))) (hb : b.toNat < 128) : dec (b :: r) k acc = (acc + b.toNat % 128 * 128 ^ k, r, 0) := by rw [dec, if_neg h, if_pos hb]
theorem dec_next {b : UInt8} {r : List UInt8} {k acc : Nat} (h : ¬ ((k = 9 ∧ 1 < b.toNat) ∨ (0 < k ∧ b.toNat = 0))) (hb : ¬ b.toNat < 128) : dec (b :: r) k acc = dec r (k + 1) (acc + b.toNat % 128 * 128 ^ k) := by rw [dec, if_neg h, if_neg hb]

/-- Behind an error nothing is read: zero, and nothing is left. -/
theorem dec_fails (l : List UInt8) : ∀ k acc, (dec l k acc).2.2 ≠ 0 → (dec l k acc).1 = 0 ∧ (dec l k acc).2.1 = [] := by
  induction l with
  | nil => intro k acc _; simp [dec]
  | cons b r ih =>
    intro k acc
    by_cases h : (k = 9 ∧ 1 < b.toNat) ∨ (0 < k ∧ b.toNat = 0)
    · rw [dec_err h]; simp
    · by_cases hb : b.toNat < 128
      · rw [dec_last h hb]; simp
      · rw [dec_next h hb]; exact ih _ _
theorem dec_code (l : List UInt8) : ∀ k acc, (dec l k acc).2.2 ≤ 3 := by
  induction l with
  | nil => intro k acc; simp [dec]
  | cons b r ih =>
    intro k acc
    by_cases h : (k = 9 ∧ 1 < b.toNat) ∨ (0 < k ∧ b.toNat = 0)
    · rw [dec_err h]; simp
    · by_cases hb : b.toNat < 128
      · rw [dec_last h hb]; simp
      · rw [dec_next h hb]; exact ih _ _
theorem dec_left (l : List UInt8) : ∀ k acc, (dec l k acc).2.1.length ≤ l.length := by
  induction l with
  | nil => intro k acc; simp [dec]
  | cons b r ih =>
    intro k acc
    by_cases h : (k = 9 ∧ 1 < b.toNat) ∨ (0 < k ∧ b.toNat = 0)
    · rw [dec_err h]; simp
    · by_cases hb : b.toNat < 128
      · rw [dec_last h hb]; simp
      · rw [dec_next h hb]; have := ih (k + 1) (acc + b.toNat % 128 * 128 ^ k); simp; omega

theorem pow_step {k : Nat} (x : Nat) : x * 128 ^ (k + 1) = 128 * x * 128 ^ k := by
  rw [Nat.pow_succ, Nat.mul_comm (128 ^ k) 128, ← Nat.mul_assoc, Nat.mul_comm x 128]

/-- What is read without an error, put again, is just the bytes that were read. -/
theorem dec_once (l : List UInt8) : ∀ k acc v rest, k ≤ 9 → dec l k acc = (v, rest, 0) →
    ∃ m, v = acc + m * 128 ^ k ∧ l = enc (9 - k) m ++ rest ∧ (0 < k → 0 < m) ∧ m < 2 * 128 ^ (9 - k) := by
  induction l with
  | nil => intro k acc v rest _ h; simp [dec] at h
  | cons b r ih =>
    intro k acc v rest hk h
    by_cases he : (k = 9 ∧ 1 < b.toNat) ∨ (0 < k ∧ b.toNat = 0)
    · rw [dec_err he] at h; simp at h
    · have h9 : k = 9 → b.toNat ≤ 1 := fun e => by
        rcases Nat.lt_or_ge 1 b.toNat with hh | hh
        · exact absurd (Or.inl ⟨e, hh⟩) he
        · exact hh
      have h0 : 0 < k → 0 < b.toNat := fun e => by
        rcases Nat.eq_zero_or_pos b.toNat with hh | hh
        · exact absurd (Or.inr ⟨e, hh⟩) he
        · exact hh
      have hp : 0 < 128 ^ (9 - k) := Nat.pow_pos (by omega)
      have h256 : b.toNat < 256 := b.toNat_lt
      by_cases hb : b.toNat < 128
      · rw [dec_last he hb] at h
        simp only [Prod.mk.injEq] at h
        obtain ⟨hv, hr, _⟩ := h
        refine ⟨b.toNat, by rw [← hv, Nat.mod_eq_of_lt hb], ?_, h0, ?_⟩
        · rw [enc_small _ _ hb, hr]; simp
        · by_cases e : k = 9
          · have := h9 e; omega
          · have : (128 : Nat) ^ 1 ≤ 128 ^ (9 - k) := Nat.pow_le_pow_right (by omega) (by omega)
            omega
      · have hk9 : k < 9 := by
          rcases Nat.lt_or_ge k 9 with hh | hh
          · exact hh
          · have := h9 (by omega); omega
        rw [dec_next he hb] at h
        obtain ⟨m, hv, hr, hm, hlt⟩ := ih (k + 1) _ v rest (by omega) h
        have hm0 := hm (by omega)
        have hf : 9 - k = (9 - (k + 1)) + 1 := by omega
        refine ⟨b.toNat % 128 + 128 * m, ?_, ?_, fun _ => by omega, ?_⟩
        · rw [hv, pow_step, Nat.add_mul, Nat.add_assoc]
        · have e1 : (b.toNat % 128 + 128 * m) % 128 + 128 = b.toNat := by omega
          have e2 : (b.toNat % 128 + 128 * m) / 128 = m := by omega
          rw [hf, enc, if_neg (by omega), e1, e2, hr]
          simp
        · rw [hf, Nat.pow_succ]; omega

/-- What was put is read again, whatever stands behind. -/
theorem dec_back (f : Nat) : ∀ m acc more, f ≤ 9 → m < 2 * 128 ^ f → (f < 9 → 0 < m) → dec (enc f m ++ more) (9 - f) acc = (acc + m * 128 ^ (9 - f), more, 0) := by
  induction f with
  | zero =>
    intro m acc more _ h h0
    have hm : m < 2 := by simpa using h
    have hm0 := h0 (by omega)
    obtain rfl : m = 1 := by omega
    rfl
  | succ f ih =>
    intro m acc more hf h h0
    by_cases hm : m < 128
    · have ht : (UInt8.ofNat m).toNat = m := by rw [UInt8.toNat_ofNat']; omega
      rw [enc_small _ _ hm]
      show dec (UInt8.ofNat m :: more) _ acc = _
      rw [dec_last (by rw [ht]; omega) (by rw [ht]; exact hm), ht, Nat.mod_eq_of_lt hm]
    · have ht : (UInt8.ofNat (m % 128 + 128)).toNat = m % 128 + 128 := by rw [UInt8.toNat_ofNat']; omega
      rw [enc, if_neg hm]
      show dec (UInt8.ofNat (m % 128 + 128) :: (enc f (m / 128) ++ more)) _ acc = _
      rw [dec_next (by rw [ht]; omega) (by rw [ht]; omega), ht]
      have hlt : m / 128 < 2 * 128 ^ f := by rw [Nat.div_lt_iff_lt_mul (by omega), Nat.mul_assoc, ← Nat.pow_succ]; exact h
      have e : 9 - (f + 1) + 1 = 9 - f := by omega
      rw [e, ih (m / 128) _ more (by omega) hlt (fun _ => by omega)]
      have e' : 9 - f = (9 - (f + 1)) + 1 := by omega
      rw [e', pow_step, Nat.add_assoc, ← Nat.add_mul]
      congr 3
      omega

theorem num_back {n : Nat} (h : n < 18446744073709551616) (more : List UInt8) : dec (num n ++ more) 0 0 = (n, more, 0) := by
  have := dec_back 9 n 0 more (Nat.le_refl _) (by have : (2 : Nat) * 128 ^ 9 = 18446744073709551616 := rfl; omega) (by omega)
  show dec (enc 9 n ++ more) 0 0 = _
  simpa using this
theorem num_once {l : List UInt8} {v : Nat} {rest : List UInt8} (h : dec l 0 0 = (v, rest, 0)) : l = num v ++ rest ∧ v < 18446744073709551616 := by
  obtain ⟨m, hv, hl, _, hm⟩ := dec_once l 0 0 v rest (by omega) h
  obtain rfl : v = m := by omega
  have e : (2 : Nat) * 128 ^ (9 - 0) = 18446744073709551616 := rfl
  exact ⟨hl, by omega⟩
theorem dec_lt (l : List UInt8) : (dec l 0 0).1 < 18446744073709551616 := by
  by_cases h : (dec l 0 0).2.2 = 0
  · exact (num_once (l := l) (v := (dec l 0 0).1) (rest := (dec l 0 0).2.1) (Prod.ext rfl (Prod.ext rfl h))).2
  · rw [(dec_fails l 0 0 h).1]; omega

/-- A number with a sign as one without. -/
def zig (n : Int) : Nat := if 0 ≤ n then (2 * n).toNat else (-2 * n - 1).toNat
def zag (v : Nat) : Int := if v % 2 = 1 then -((v / 2 : Nat) : Int) - 1 else ((v / 2 : Nat) : Int)
theorem zag_zig (n : Int) : zag (zig n) = n := by unfold zag zig; split <;> split <;> omega
theorem zig_zag (v : Nat) : zig (zag v) = v := by unfold zag zig; split <;> split <;> omega
theorem zig_lt {n : Int} (h1 : -9223372036854775808 ≤ n) (h2 : n ≤ 9223372036854775807) : zig n < 18446744073709551616 := by unfold zig; split <;> omega
theorem zag_ge {v : Nat} (h : v < 18446744073709551616) : -9223372036854775808 ≤ zag v ∧ zag v ≤ 9223372036854775807 := by unfold zag; split <;> omega

/-- What the reader holds: the bytes that are left, and the first error. -/
structure St where
  rest : List UInt8
  err : Nat
def St.ok (s : St) : Prop := s.err ≠ 0 → s.rest = []

def rdByte (s : St) : Nat × St :=
  if s.err ≠ 0 then (0, s) else match s.rest with
    | [] => (0, ⟨[], 3⟩)
    | b :: r => (b.toNat, ⟨r, 0⟩)
def rdNum (s : St) : Nat × St :=
  if s.err ≠ 0 then (0, s) else ((dec s.rest 0 0).1, ⟨(dec s.rest 0 0).2.1, (dec s.rest 0 0).2.2⟩)
def rdInt (s : St) : Int × St := (zag (rdNum s).1, (rdNum s).2)
def St.fail (s : St) (e : Nat) : St := if s.err ≠ 0 then s else ⟨[], e⟩
def rdText (s : St) : List UInt8 × St :=
  if (rdNum s).2.rest.length < (rdNum s).1 then ([], (rdNum s).2.fail 3)
  else ((rdNum s).2.rest.take (rdNum s).1, ⟨(rdNum s).2.rest.drop (rdNum s).1, (rdNum s).2.err⟩)

theorem rdByte_ok {s : St} (h : s.ok) : (rdByte s).2.ok := by
  unfold rdByte
  split
  · exact h
  · split
    · intro _; rfl
    · intro he; exact absurd rfl he
theorem rdNum_ok {s : St} (h : s.ok) : (rdNum s).2.ok := by
  unfold rdNum
  split
  · exact h
  · intro he; exact (dec_fails _ _ _ he).2
theorem fail_ok {s : St} (h : s.ok) (e : Nat) : (s.fail e).ok := by
  unfold St.fail
  split
  · exact h
  · intro _; rfl
theorem rdText_ok {s : St} (h : s.ok) : (rdText s).2.ok := by
  unfold rdText
  split
  · exact fail_ok (rdNum_ok h) 3
  · intro he
    show List.drop _ _ = []
    rw [(rdNum_ok h) he]; simp
theorem rdNum_lt (s : St) : (rdNum s).1 < 18446744073709551616 := by
  unfold rdNum
  split
  · omega
  · exact dec_lt _
theorem rdNum_left (s : St) : (rdNum s).2.rest.length ≤ s.rest.length := by
  unfold rdNum
  split
  · exact Nat.le_refl _
  · exact dec_left _ _ _

end Go.Proofs.YtnhoeboighndlaaGreatDoor.octet

/-
  The plain mathematics of words: the word of a number's lowest bits, bit by bit, moved up and down, and what each operation comes to. It speaks of numbers alone.
-/
namespace Go.Proofs.YtnhoeboighndlaaGreatDoor.word

/-- The word of the lowest 32 bits. -/
def low (n : Int) : Int := (n + 2147483648) % 4294967296 - 2147483648
def Word (n : Int) : Prop := -2147483648 ≤ n ∧ n ≤ 2147483647
instance (n : Int) : Decidable (Word n) := inferInstanceAs (Decidable (-2147483648 ≤ n ∧ n ≤ 2147483647))
theorem low_word (n : Int) : Word (low n) := by unfold Word low; omega
theorem low_id {n : Int} (h : Word n) : low n = n := by unfold Word at h; unfold low; omega
theorem low_low (n : Int) : low (low n) = low n := low_id (low_word n)
theorem low_diff (n : Int) : (n - low n) % 4294967296 = 0 := by unfold low; omega
theorem low_eq (a b : Int) : low a = low b ↔ (a - b) % 4294967296 = 0 := by unfold low; omega
theorem low_mod (n : Int) : low (n % 4294967296) = low n := by unfold low; omega

/-- What is left in a division that is rounded towards 0, by a number above 0. -/
theorem tmod_pos {n : Int} (h : 0 ≤ n) (d : Int) : n.tmod d = n % d := Int.tmod_eq_emod_of_nonneg h
theorem tmod_neg {n : Int} (h : n < 0) (d : Int) : n.tmod d = -((-n) % d) := by
  have h1 : (-n).tmod d = -(n.tmod d) := Int.neg_tmod _ _
  rw [Int.tmod_eq_emod_of_nonneg (by omega)] at h1
  omega
theorem low_tmod (n : Int) : low n = if 2147483648 ≤ n.tmod 4294967296 then n.tmod 4294967296 - 4294967296 else if n.tmod 4294967296 < -2147483648 then n.tmod 4294967296 + 4294967296 else n.tmod 4294967296 := by
  unfold low
  by_cases h : 0 ≤ n
  · rw [tmod_pos h]
    split
    · omega
    · split <;> omega
  · rw [tmod_neg (by omega)]
    split
    · omega
    · split <;> omega
theorem tmod_range (n : Int) : -4294967296 < n.tmod 4294967296 ∧ n.tmod 4294967296 < 4294967296 := by
  by_cases h : 0 ≤ n
  · rw [tmod_pos h]; omega
  · rw [tmod_neg (by omega)]; omega

/-- The bits of a word, as a number from 0 on. -/
def un (n : Int) : Nat := (n % 4294967296).toNat
theorem un_lt (n : Int) : un n < 4294967296 := by unfold un; omega
theorem un_word {n : Int} (h : Word n) : (un n : Int) = if n < 0 then n + 4294967296 else n := by
  unfold Word at h
  unfold un
  split <;> omega
theorem low_un (n : Int) : low (un n : Int) = low n := by unfold low un; omega

/-- Two words of ones, bit by bit. -/
def bitop (op : Int) (x y : Nat) : Nat := if op = 11 then x &&& y else if op = 12 then x ||| y else x ^^^ y
theorem bitop_lt (op : Int) {x y : Nat} (hx : x < 4294967296) (hy : y < 4294967296) : bitop op x y < 4294967296 := by
  have e : (2 : Nat) ^ 32 = 4294967296 := rfl
  unfold bitop
  split
  · exact Nat.lt_of_le_of_lt Nat.and_le_left hx
  · split
    · rw [← e] at *; exact Nat.or_lt_two_pow hx hy
    · rw [← e] at *; exact Nat.xor_lt_two_pow hx hy
def bitAt (x k : Nat) : Nat := x / 2 ^ k % 2
theorem bitAt_lt (x k : Nat) : bitAt x k < 2 := Nat.mod_lt _ (by omega)
theorem bitAt_test (x k : Nat) : bitAt x k = if x.testBit k then 1 else 0 := by
  unfold bitAt
  rw [Nat.testBit_eq_decide_div_mod_eq]
  by_cases h : x / 2 ^ k % 2 = 1
  · simp [h]
  · have h0 : x / 2 ^ k % 2 = 0 := by omega
    simp [h0]
/-- Whether a bit of the two stands in what comes. -/
def joins (op : Int) (x y : Nat) : Prop := (op = 11 ∧ x + y = 2) ∨ (op = 12 ∧ 0 < x + y) ∨ (op = 13 ∧ x + y = 1)
instance (op : Int) (x y : Nat) : Decidable (joins op x y) := inferInstanceAs (Decidable ((op = 11 ∧ x + y = 2) ∨ (op = 12 ∧ 0 < x + y) ∨ (op = 13 ∧ x + y = 1)))
theorem bitop_at {op : Int} (hop : op = 11 ∨ op = 12 ∨ op = 13) (x y k : Nat) : bitAt (bitop op x y) k = if joins op (bitAt x k) (bitAt y k) then 1 else 0 := by
  rw [bitAt_test, bitAt_test x, bitAt_test y]
  unfold bitop joins
  rcases hop with rfl | rfl | rfl
  · simp only [if_true, Nat.testBit_and]
    cases x.testBit k <;> cases y.testBit k <;> simp
  · simp only [show ¬ ((12 : Int) = 11) from by decide, if_false, if_true, Nat.testBit_or]
    cases x.testBit k <;> cases y.testBit k <;> simp
  · simp only [show ¬ ((13 : Int) = 11) from by decide, show ¬ ((13 : Int) = 12) from by decide, if_false, Nat.testBit_xor]
    cases x.testBit k <;> cases y.testBit k <;> simp
theorem mod_succ (x k : Nat) : x % 2 ^ (k + 1) = x % 2 ^ k + 2 ^ k * bitAt x k := Nat.mod_pow_succ
theorem bitAt_succ (x k : Nat) : x / 2 ^ k / 2 = x / 2 ^ (k + 1) := by rw [Nat.div_div_eq_div_mul, Nat.pow_succ]

/-- A step up, and a step down. -/
theorem low_double (a : Int) (k : Nat) : low (2 * low (a * 2 ^ k)) = low (a * 2 ^ (k + 1)) := by
  rw [show a * 2 ^ (k + 1) = 2 * (a * 2 ^ k) from by rw [Int.pow_succ, ← Int.mul_assoc, Int.mul_comm]]
  generalize a * 2 ^ k = x
  unfold low
  omega
theorem half_step (a : Int) (k : Nat) : a / 2 ^ k / 2 = a / 2 ^ (k + 1) := by
  rw [Int.pow_succ, Int.ediv_ediv_of_nonneg]
  exact Int.le_of_lt (Int.pow_pos (by omega))
/-- Half, rounded down, by a division that is rounded towards 0. -/
theorem half_neg {a : Int} (h : a < 0) : (a - 1).tdiv 2 = a / 2 := by
  have h1 : (-(a - 1)).tdiv 2 = -((a - 1).tdiv 2) := Int.neg_tdiv _ _
  rw [Int.tdiv_eq_ediv_of_nonneg (by omega)] at h1
  omega
theorem half_pos {a : Int} (h : ¬ a < 0) : a.tdiv 2 = a / 2 := Int.tdiv_eq_ediv_of_nonneg (by omega)

theorem mul_bound {a b : Int} (ha : Word a) (hb : Word b) : -4611686018427387904 ≤ a * b ∧ a * b ≤ 4611686018427387904 := by
  unfold Word at ha hb
  have hm : (a * b).natAbs ≤ 2147483648 * 2147483648 := by
    rw [Int.natAbs_mul]
    exact Nat.mul_le_mul (by omega) (by omega)
  omega

/-- A number, or the fault that it is no word. -/
def ex (n : Int) : Int × Int := if Word n then (n, 0) else (0, 1)
/-- How far a word is moved. -/
def far (b : Int) : Nat := (b % 32).toNat
theorem far_lt (b : Int) : far b < 32 := by unfold far; omega
/-- What an operation makes of two words, and its fault. -/
def doW (op a b : Int) : Int × Int :=
  if op = 3 then ex (a + b) else if op = 4 then ex (a - b) else if op = 5 then ex (a * b)
  else if op = 6 then (if b = 0 then (0, 2) else ex (a.tdiv b)) else if op = 7 then (if b = 0 then (0, 2) else (a.tmod b, 0))
  else if op = 8 then ex (-a) else if op = 9 then (if a < b then (1, 0) else (0, 0)) else if op = 10 then (if a = b then (1, 0) else (0, 0))
  else if op = 11 ∨ op = 12 ∨ op = 13 then (low (bitop op (un a) (un b) : Nat), 0)
  else if op = 14 then (low (a * 2 ^ far b), 0) else if op = 15 then (a / 2 ^ far b, 0) else (0, 0)
theorem ex_word (n : Int) : Word (ex n).1 := by
  unfold ex
  split
  · assumption
  · unfold Word; omega
theorem tmod_word {a b : Int} (ha : Word a) : Word (a.tmod b) := by
  have h1 : (a.tmod b).natAbs ≤ a.natAbs := by
    rw [Int.natAbs_tmod]
    exact Nat.mod_le _ _
  have h2 : 0 ≤ a → 0 ≤ a.tmod b := fun h => Int.tmod_nonneg b h
  have h3 : a ≤ 0 → a.tmod b ≤ 0 := fun h => by
    have e : (-a).tmod b = -(a.tmod b) := Int.neg_tmod _ _
    have := Int.tmod_nonneg b (show 0 ≤ -a by omega)
    omega
  unfold Word at *
  omega
theorem down_word {a : Int} (ha : Word a) (k : Nat) : Word (a / 2 ^ k) := by
  have hp : (0 : Int) < 2 ^ k := Int.pow_pos (by omega)
  unfold Word at *
  constructor
  · refine (Int.le_ediv_iff_mul_le hp).2 ?_
    have h1 : (1 : Int) ≤ 2 ^ k := hp
    have h2 : -2147483648 * (2 : Int) ^ k ≤ -2147483648 * 1 := Int.mul_le_mul_of_nonpos_left (by omega) h1
    omega
  · by_cases h : 0 ≤ a
    · have := Int.ediv_le_self (2 ^ k) h
      omega
    · have := Int.ediv_neg_of_neg_of_pos (show a < 0 by omega) hp
      omega
theorem doW_word {a b : Int} (ha : Word a) (op : Int) : Word (doW op a b).1 := by
  have h0 : Word 0 := by unfold Word; omega
  have h1 : Word 1 := by unfold Word; omega
  unfold doW
  split
  · exact ex_word _
  split
  · exact ex_word _
  split
  · exact ex_word _
  split
  · split
    · exact h0
    · exact ex_word _
  split
  · split
    · exact h0
    · exact tmod_word ha
  split
  · exact ex_word _
  split
  · split
    · exact h1
    · exact h0
  split
  · split
    · exact h1
    · exact h0
  split
  · exact low_word _
  split
  · exact low_word _
  split
  · exact down_word ha _
  · exact h0
/-- The highest bits of a product. -/
def hi (a b : Int) : Int := a * b / 4294967296
theorem hi_word {a b : Int} (ha : Word a) (hb : Word b) : Word (hi a b) := by
  have h := mul_bound ha hb
  unfold Word hi
  generalize a * b = p at *
  omega
theorem hi_down {p : Int} : p / 4294967296 = if p.tmod 4294967296 < 0 then p.tdiv 4294967296 - 1 else p.tdiv 4294967296 := by
  by_cases h : 0 ≤ p
  · rw [tmod_pos h, Int.tdiv_eq_ediv_of_nonneg h]
    split <;> omega
  · rw [tmod_neg (by omega)]
    have h1 : (-p).tdiv 4294967296 = -(p.tdiv 4294967296) := Int.neg_tdiv _ _
    rw [Int.tdiv_eq_ediv_of_nonneg (by omega)] at h1
    split <;> omega
theorem hi_low (p : Int) : p = p / 4294967296 * 4294967296 + (if low p < 0 then low p + 4294967296 else low p) := by
  unfold low
  split <;> omega
end Go.Proofs.YtnhoeboighndlaaGreatDoor.word

/-
  What is wrong with declared objects, and where, their bytes, and the objects with which bytes begin: plain mathematics of lists and numbers, and that putting and getting undo each other. No condition.
-/
namespace Go.Proofs.YtnhoeboighndlaaGreatDoor.objs
open Go.Proofs.YtnhoeboighndlaaGreatDoor.octet (St rdByte rdNum rdInt num zig zag num_back num_once zig_zag zag_zig zig_lt num_length_le dec enc_length_pos rdNum_ok rdByte_ok)
open Go.Proofs.YtnhoeboighndlaaGreatDoor.word (Word)

/-- An object: its kind, and two numbers. -/
abbrev De := Int × Int × Int
def zero : De := (0, 0, 0)
def names : List ByteArray := [⟨#[]⟩, ⟨#[109, 117, 116, 101, 120]⟩, ⟨#[114, 119]⟩, ⟨#[115, 101, 109]⟩, ⟨#[99, 111, 110, 100]⟩, ⟨#[98, 97, 114]⟩, ⟨#[112, 111, 111, 108]⟩, ⟨#[99, 101, 108, 108]⟩]
/-- A kind's name. -/
def nameK (k : Int) : ByteArray := if 0 < k ∧ k < 8 then names.getD k.toNat ⟨#[]⟩ else ⟨#[]⟩
/-- The kinds that a letter stands for. -/
def kindsOf (c : UInt8) : List Int :=
  if c = 117 then [1, 2] else if c = 115 then [3] else if c = 112 then [6] else if c = 99 then [4] else if c = 109 then [1] else if c = 98 then [5] else if c = 118 then [7] else if c = 113 then [1, 6] else []
/-- Is an object there, and of a kind that a letter stands for? -/
def fits (l : List De) (c : UInt8) (o : Int) : Bool := decide (0 ≤ o ∧ o < (l.length : Int)) && (kindsOf c).contains (l.getD o.toNat zero).1
/-- What is wrong with an object. -/
def one (l : List De) (d : De) : Nat :=
  if d.1 < 1 ∨ 7 < d.1 then 6
  else if d.1 = 3 ∧ (d.2.2 < 1 ∨ 1000 < d.2.2 ∨ d.2.1 < 0 ∨ d.2.2 < d.2.1) then 1
  else if d.1 = 6 ∧ (d.2.1 < 1 ∨ 1000 < d.2.1) then 1
  else if d.1 = 7 ∧ (¬ Word d.2.1 ∨ fits l 117 d.2.2 = false) then 1
  else if (d.1 ≠ 3 ∧ d.1 ≠ 7 ∧ d.2.2 ≠ 0) ∨ (d.1 ≠ 3 ∧ d.1 ≠ 6 ∧ d.1 ≠ 7 ∧ d.2.1 ≠ 0) then 2 else 0
/-- Where the first one stands that may not be, and why. -/
def bad (l : List De) : Nat := l.findIdx fun d => one l d != 0
def chk (l : List De) : Int × Nat := if 32 < l.length then (0, 4) else if bad l < l.length then ((bad l : Int), one l (l.getD (bad l) zero)) else (0, 0)

theorem one_le (l : List De) (d : De) : one l d ≤ 6 := by
  unfold one
  split
  · omega
  · split
    · omega
    · split
      · omega
      · split
        · omega
        · split <;> omega
/-- An object that may be: its kind is one, and its numbers are small. -/
theorem one_zero {l : List De} {d : De} (h : one l d = 0) : (1 ≤ d.1 ∧ d.1 ≤ 7) ∧ (d.1 = 3 → 1 ≤ d.2.2 ∧ d.2.2 ≤ 1000 ∧ 0 ≤ d.2.1 ∧ d.2.1 ≤ d.2.2) ∧ (d.1 = 6 → 1 ≤ d.2.1 ∧ d.2.1 ≤ 1000) ∧ (d.1 = 7 → Word d.2.1 ∧ fits l 117 d.2.2 = true) ∧ (d.1 ≠ 3 → d.1 ≠ 7 → d.2.2 = 0) ∧ (d.1 ≠ 3 → d.1 ≠ 6 → d.1 ≠ 7 → d.2.1 = 0) := by
  unfold one at h
  split at h
  · cases h
  · split at h
    · cases h
    · split at h
      · cases h
      · split at h
        · cases h
        · split at h
          · cases h
          · rename_i h1 h2 h3 h4 h5
            refine ⟨by omega, fun e => ?_, fun e => ?_, fun e => ?_, fun e1 e2 => ?_, fun e1 e2 e3 => ?_⟩
            · have : ¬ (d.2.2 < 1 ∨ 1000 < d.2.2 ∨ d.2.1 < 0 ∨ d.2.2 < d.2.1) := fun h => h2 ⟨e, h⟩
              omega
            · have : ¬ (d.2.1 < 1 ∨ 1000 < d.2.1) := fun h => h3 ⟨e, h⟩
              omega
            · have : ¬ (¬ Word d.2.1 ∨ fits l 117 d.2.2 = false) := fun h => h4 ⟨e, h⟩
              refine ⟨Classical.byContradiction fun h => this (.inl h), ?_⟩
              cases hf : fits l 117 d.2.2 with
              | true => rfl
              | false => exact absurd (.inr hf) this
            · exact Classical.byContradiction fun h => h5 (.inl ⟨e1, e2, h⟩)
            · exact Classical.byContradiction fun h => h5 (.inr ⟨e1, e2, e3, h⟩)
theorem fits_lt {l : List De} {c : UInt8} {o : Int} (h : fits l c o = true) : 0 ≤ o ∧ o < (l.length : Int) := by
  unfold fits at h
  rw [Bool.and_eq_true, decide_eq_true_iff] at h
  exact h.1
theorem bad_le (l : List De) : bad l ≤ l.length := List.findIdx_le_length
theorem bad_of {l : List De} {j : Nat} (h : j ≤ bad l) (hj : j < l.length) (he : one l (l.getD j zero) ≠ 0) : bad l = j := by
  rcases Nat.lt_or_ge j (bad l) with h1 | h1
  · have := List.not_of_lt_findIdx (p := fun d => one l d != 0) (xs := l) h1
    rw [List.getD_eq_getElem?_getD, List.getElem?_eq_getElem hj, Option.getD_some] at he
    simp [he] at this
  · omega
theorem bad_next {l : List De} {j : Nat} (h : j ≤ bad l) (hj : j < l.length) (he : one l (l.getD j zero) = 0) : j + 1 ≤ bad l := by
  rcases Nat.eq_or_lt_of_le h with h1 | h1
  · exfalso
    have hl : l.findIdx (fun d => one l d != 0) < l.length := by show bad l < l.length; omega
    have := List.findIdx_getElem (p := fun d => one l d != 0) (xs := l) (w := hl)
    have e : l[l.findIdx (fun d => one l d != 0)]'hl = l.getD j zero := by
      rw [List.getD_eq_getElem?_getD, List.getElem?_eq_getElem hj, Option.getD_some]
      congr 1
      exact h1.symm
    rw [e, he] at this
    cases this
  · omega
theorem chk_long {l : List De} (h : 32 < l.length) : chk l = (0, 4) := by unfold chk; rw [if_pos h]
theorem chk_bad {l : List De} {j : Nat} (hl : ¬ 32 < l.length) (h : j ≤ bad l) (hj : j < l.length) (he : one l (l.getD j zero) ≠ 0) : chk l = ((j : Int), one l (l.getD j zero)) := by
  unfold chk
  rw [if_neg hl, bad_of h hj he, if_pos hj]
theorem chk_fine {l : List De} (hl : ¬ 32 < l.length) (h : l.length ≤ bad l) : chk l = (0, 0) := by
  unfold chk
  rw [if_neg hl, if_neg (by omega)]
theorem chk_zero {l : List De} (h : (chk l).2 = 0) : l.length ≤ 32 ∧ chk l = (0, 0) ∧ ∀ j, j < l.length → one l (l.getD j zero) = 0 := by
  unfold chk at h ⊢
  by_cases h1 : 32 < l.length
  · rw [if_pos h1] at h; cases h
  · rw [if_neg h1] at h ⊢
    by_cases h2 : bad l < l.length
    · rw [if_pos h2] at h
      exfalso
      have hl : l.findIdx (fun d => one l d != 0) < l.length := h2
      have := List.findIdx_getElem (p := fun d => one l d != 0) (xs := l) (w := hl)
      have e : l.getD (bad l) zero = l[l.findIdx (fun d => one l d != 0)]'hl := by
        rw [List.getD_eq_getElem?_getD, List.getElem?_eq_getElem h2, Option.getD_some]
        rfl
      dsimp only at h
      rw [e] at h
      simp [h] at this
    · rw [if_neg h2]
      refine ⟨by omega, rfl, fun j hj => ?_⟩
      have hj2 : j < bad l := by omega
      have := List.not_of_lt_findIdx (p := fun d => one l d != 0) (xs := l) hj2
      rw [List.getD_eq_getElem?_getD, List.getElem?_eq_getElem hj, Option.getD_some]
      simpa using this

/-- The bytes of an object. -/
def pieceA (k a : Int) : List UInt8 := if k = 3 ∨ k = 6 then num a.toNat else if k = 7 then num (zig a) else []
def pieceB (k b : Int) : List UInt8 := if k = 3 ∨ k = 7 then num b.toNat else []
def encD (d : De) : List UInt8 := UInt8.ofNat d.1.toNat :: (pieceA d.1 d.2.1 ++ pieceB d.1 d.2.2)
/-- The bytes of the first j of some. -/
def encs (l : List De) : Nat → List UInt8
  | 0 => []
  | j + 1 => encs l j ++ encD (l.getD j zero)
def encL (l : List De) : List UInt8 := num l.length ++ encs l l.length
theorem encD_le (d : De) : (encD d).length ≤ 21 := by
  have h1 : (pieceA d.1 d.2.1).length ≤ 10 := by
    unfold pieceA
    split
    · exact num_length_le _
    · split
      · exact num_length_le _
      · simp
  have h2 : (pieceB d.1 d.2.2).length ≤ 10 := by
    unfold pieceB
    split
    · exact num_length_le _
    · simp
  simp only [encD, List.length_cons, List.length_append]
  omega
theorem encs_le (l : List De) : ∀ j, (encs l j).length ≤ 21 * j := by
  intro j
  induction j with
  | zero => simp [encs]
  | succ j ih =>
    have := encD_le (l.getD j zero)
    simp only [encs, List.length_append]
    omega
theorem encL_le (l : List De) : (encL l).length ≤ 10 + 21 * l.length := by
  have h1 := num_length_le l.length
  have h2 := encs_le l l.length
  simp only [encL, List.length_append]
  omega

/-- A number that is read; a great one is out of every range. -/
def rdN (s : St) : Int × St := (((min (rdNum s).1 2147483648 : Nat) : Int), (rdNum s).2)
def rdA (k : Nat) (s : St) : Int × St := if k = 3 ∨ k = 6 then rdN s else if k = 7 then rdInt s else (0, s)
def rdB (k : Nat) (s : St) : Int × St := if k = 3 ∨ k = 7 then rdN s else (0, s)
/-- An object that is read: what is left, and what is wrong. -/
def rdD (s : St) : De × St × Nat :=
  let y := rdByte s
  if y.2.err = 0 ∧ (y.1 < 1 ∨ 7 < y.1) then (zero, y.2, 6)
  else (((y.1 : Int), (rdA y.1 y.2).1, (rdB y.1 (rdA y.1 y.2).2).1), (rdB y.1 (rdA y.1 y.2).2).2, (rdB y.1 (rdA y.1 y.2).2).2.err)
/-- The first j of them. -/
def rdL (s : St) : Nat → List De × St × Nat
  | 0 => ([], s, 0)
  | j + 1 =>
    let p := rdL s j
    if p.2.2 ≠ 0 then p
    else if (rdD p.2.1).2.2 ≠ 0 then ([], (rdD p.2.1).2.1, (rdD p.2.1).2.2)
    else (p.1 ++ [(rdD p.2.1).1], (rdD p.2.1).2.1, 0)
def readL (s : St) : List De × St × Nat :=
  let n := rdN s
  if n.2.err ≠ 0 then ([], n.2, n.2.err)
  else if 32 < n.1 then ([], n.2, 4)
  else
    let p := rdL n.2 n.1.toNat
    if p.2.2 ≠ 0 then ([], p.2.1, p.2.2)
    else if (chk p.1).2 ≠ 0 then ([], p.2.1, (chk p.1).2)
    else (p.1, p.2.1, 0)
/-- The objects with which bytes begin, how many bytes they are, the first error. -/
def getL (l : List UInt8) : List De × Nat × Nat :=
  let r := readL ⟨l, 0⟩
  if r.2.2 ≠ 0 then ([], 0, r.2.2) else (r.1, l.length - r.2.1.rest.length, 0)
end Go.Proofs.YtnhoeboighndlaaGreatDoor.objs

/-
  What is wrong with a wait, its bytes, the wait with which bytes begin, its text, and the objects of a kind of needs: plain mathematics of lists and numbers. No condition.
-/
namespace Go.Proofs.YtnhoeboighndlaaGreatDoor.need
open Go.Proofs.YtnhoeboighndlaaGreatDoor.octet (St rdByte rdNum num num_length_le)
open Go.Proofs.YtnhoeboighndlaaGreatDoor.objs (De zero rdN)
set_option linter.unusedVariables false

/-- The kind of object that a kind of need asks. -/
def kn (k : Int) : Int := if k = 1 then 1 else if k = 2 ∨ k = 3 then 2 else if k = 4 then 3 else 6
def lo (n : De) : Int := if n.1 = 4 ∨ n.1 = 5 then 1 else 0
def hi (d : List De) (n : De) : Int := if n.1 = 4 then (d.getD n.2.1.toNat zero).2.2 else if n.1 = 5 then (d.getD n.2.1.toNat zero).2.1 else 0
/-- What is wrong with a need (its kind, the object, the number). -/
def oneN (d : List De) (n : De) : Nat :=
  if n.1 < 1 ∨ 5 < n.1 then 6
  else if n.2.1 < 0 ∨ (d.length : Int) ≤ n.2.1 ∨ (d.getD n.2.1.toNat zero).1 ≠ kn n.1 then 1
  else if n.2.2 < lo n ∨ hi d n < n.2.2 then 1 else 0
/-- Two needs that may not stand in one way. -/
def clash (a b : De) : Bool := a.2.1 == b.2.1 || (a.1 == 4 || b.1 == 4)
def ones (d : List De) : List De → Nat
  | [] => 0
  | n :: l => if oneN d n ≠ 0 then oneN d n else ones d l
/-- Is there a clash of the k-th one with one of the first j? -/
def clashTo (l : List De) (k : Nat) : Nat → Bool
  | 0 => false
  | j + 1 => clashTo l k j || clash (l.getD j zero) (l.getD k zero)
def twiceTo (l : List De) : Nat → Bool
  | 0 => false
  | k + 1 => twiceTo l k || clashTo l k k
def chkWay (d l : List De) : Nat :=
  if l.length = 0 then 2 else if 4 < l.length then 4 else if ones d l ≠ 0 then ones d l else if twiceTo l l.length then 2 else 0
def ways (d : List De) : List (List De) → Nat
  | [] => 0
  | l :: w => if chkWay d l ≠ 0 then chkWay d l else ways d w
/-- What is wrong with a wait. -/
def chkW (d : List De) (w : List (List De)) : Nat := if w.length = 0 then 2 else if 4 < w.length then 4 else ways d w

theorem oneN_le (d : List De) (n : De) : oneN d n ≤ 6 := by
  unfold oneN
  split
  · omega
  · split
    · omega
    · split <;> omega
theorem ones_le (d l : List De) : ones d l ≤ 6 := by
  induction l with
  | nil => simp [ones]
  | cons n l ih =>
    unfold ones
    split
    · exact oneN_le d n
    · exact ih
theorem chkWay_le (d l : List De) : chkWay d l ≤ 6 := by
  unfold chkWay
  split
  · omega
  · split
    · omega
    · split
      · exact ones_le d l
      · split <;> omega
theorem ones_drop {d l : List De} {k : Nat} (h : k < l.length) : ones d (l.drop k) = if oneN d (l.getD k zero) ≠ 0 then oneN d (l.getD k zero) else ones d (l.drop (k + 1)) := by
  rw [List.drop_eq_getElem_cons h]
  have e : l.getD k zero = l[k] := by rw [List.getD_eq_getElem?_getD, List.getElem?_eq_getElem h]; rfl
  rw [e]
  rfl
theorem ways_drop {d : List De} {w : List (List De)} {k : Nat} (h : k < w.length) : ways d (w.drop k) = if chkWay d (w.getD k []) ≠ 0 then chkWay d (w.getD k []) else ways d (w.drop (k + 1)) := by
  rw [List.drop_eq_getElem_cons h]
  have e : w.getD k [] = w[k] := by rw [List.getD_eq_getElem?_getD, List.getElem?_eq_getElem h]; rfl
  rw [e]
  rfl
theorem ones_zero {d l : List De} (h : ones d l = 0) : ∀ n ∈ l, oneN d n = 0 := by
  induction l with
  | nil => intro n hn; cases hn
  | cons m l ih =>
    unfold ones at h
    by_cases hm : oneN d m ≠ 0
    · rw [if_pos hm] at h
      exact absurd h hm
    · rw [if_neg hm] at h
      intro n hn
      rcases List.mem_cons.1 hn with rfl | hn
      · omega
      · exact ih h n hn
theorem ways_zero {d : List De} {w : List (List De)} (h : ways d w = 0) : ∀ l ∈ w, chkWay d l = 0 := by
  induction w with
  | nil => intro n hn; cases hn
  | cons m l ih =>
    unfold ways at h
    by_cases hm : chkWay d m ≠ 0
    · rw [if_pos hm] at h
      exact absurd h hm
    · rw [if_neg hm] at h
      intro n hn
      rcases List.mem_cons.1 hn with rfl | hn
      · omega
      · exact ih h n hn
theorem chkWay_zero {d l : List De} (h : chkWay d l = 0) : 0 < l.length ∧ l.length ≤ 4 ∧ ∀ n ∈ l, oneN d n = 0 := by
  unfold chkWay at h
  split at h
  · cases h
  · split at h
    · cases h
    · split at h
      · omega
      · rename_i h1 h2 h3
        exact ⟨by omega, by omega, ones_zero (by omega)⟩
theorem chkW_zero {d : List De} {w : List (List De)} (h : chkW d w = 0) : 0 < w.length ∧ w.length ≤ 4 ∧ ∀ l ∈ w, 0 < l.length ∧ l.length ≤ 4 ∧ ∀ n ∈ l, oneN d n = 0 := by
  unfold chkW at h
  split at h
  · cases h
  · split at h
    · cases h
    · rename_i h1 h2
      exact ⟨by omega, by omega, fun l hl => chkWay_zero (ways_zero h l hl)⟩
/-- A need that may be has small numbers. -/
theorem oneN_zero {d : List De} {n : De} (h : oneN d n = 0) : (1 ≤ n.1 ∧ n.1 ≤ 5) ∧ (0 ≤ n.2.1 ∧ n.2.1 < (d.length : Int)) ∧ (n.1 ≤ 3 → n.2.2 = 0) ∧ 0 ≤ n.2.2 ∧ n.2.2 ≤ hi d n := by
  unfold oneN at h
  split at h
  · cases h
  · split at h
    · cases h
    · split at h
      · cases h
      · rename_i h1 h2 h3
        refine ⟨by omega, by omega, fun h4 => ?_, ?_, by omega⟩
        · have e1 : lo n = 0 := by unfold lo; rw [if_neg (by omega)]
          have e2 : hi d n = 0 := by unfold hi; rw [if_neg (by omega), if_neg (by omega)]
          omega
        · have e1 : 0 ≤ lo n := by unfold lo; split <;> omega
          omega

/-- The bytes of a need. -/
def pieceN (k n : Int) : List UInt8 := if 3 < k then num n.toNat else []
def encN (n : De) : List UInt8 := UInt8.ofNat n.1.toNat :: (num n.2.1.toNat ++ pieceN n.1 n.2.2)
def encNs (l : List De) : Nat → List UInt8
  | 0 => []
  | k + 1 => encNs l k ++ encN (l.getD k zero)
def encWay (l : List De) : List UInt8 := num l.length ++ encNs l l.length
def encWs (w : List (List De)) : Nat → List UInt8
  | 0 => []
  | k + 1 => encWs w k ++ encWay (w.getD k [])
def encW (w : List (List De)) : List UInt8 := num w.length ++ encWs w w.length
theorem encN_le (n : De) : (encN n).length ≤ 21 := by
  have h1 := num_length_le n.2.1.toNat
  have h2 : (pieceN n.1 n.2.2).length ≤ 10 := by
    unfold pieceN
    split
    · exact num_length_le _
    · simp
  simp only [encN, List.length_cons, List.length_append]
  omega
theorem encNs_le (l : List De) : ∀ j, (encNs l j).length ≤ 21 * j := by
  intro j
  induction j with
  | zero => simp [encNs]
  | succ j ih =>
    have := encN_le (l.getD j zero)
    simp only [encNs, List.length_append]
    omega
theorem encWay_le {l : List De} (h : l.length ≤ 6) : (encWay l).length ≤ 136 := by
  have h1 := num_length_le l.length
  have h2 := encNs_le l l.length
  simp only [encWay, List.length_append]
  omega
theorem encWs_le {w : List (List De)} (h : ∀ l ∈ w, l.length ≤ 6) : ∀ j, j ≤ w.length → (encWs w j).length ≤ 136 * j := by
  intro j
  induction j with
  | zero => intro _; simp [encWs]
  | succ j ih =>
    intro hj
    have h1 := ih (by omega)
    have h2 : (encWay (w.getD j [])).length ≤ 136 := encWay_le (by
      rw [List.getD_eq_getElem?_getD, List.getElem?_eq_getElem (by omega), Option.getD_some]
      exact h _ (List.getElem_mem _))
    simp only [encWs, List.length_append]
    omega

/-- A number that only some kinds have. -/
def rdC (k : Nat) (s : St) : Int × St := if 3 < k then rdN s else (0, s)
/-- A need that is read: what is left, and what is wrong. -/
def rdNeed (s : St) : De × St × Nat :=
  let y := rdByte s
  if y.2.err = 0 ∧ (y.1 < 1 ∨ 5 < y.1) then (zero, y.2, 6)
  else (((y.1 : Int), (rdN y.2).1, (rdC y.1 (rdN y.2).2).1), (rdC y.1 (rdN y.2).2).2, (rdC y.1 (rdN y.2).2).2.err)
def rdNeeds (s : St) : Nat → List De × St × Nat
  | 0 => ([], s, 0)
  | j + 1 =>
    let p := rdNeeds s j
    if p.2.2 ≠ 0 then p
    else if (rdNeed p.2.1).2.2 ≠ 0 then ([], (rdNeed p.2.1).2.1, (rdNeed p.2.1).2.2)
    else (p.1 ++ [(rdNeed p.2.1).1], (rdNeed p.2.1).2.1, 0)
def rdWay (s : St) : List De × St × Nat :=
  if 4 < (rdNum s).1 then ([], (rdNum s).2, 4) else if (rdNum s).2.err ≠ 0 then ([], (rdNum s).2, (rdNum s).2.err) else rdNeeds (rdNum s).2 (rdNum s).1
def rdWays (s : St) : Nat → List (List De) × St × Nat
  | 0 => ([], s, 0)
  | j + 1 =>
    let p := rdWays s j
    if p.2.2 ≠ 0 then p
    else if (rdWay p.2.1).2.2 ≠ 0 then ([], (rdWay p.2.1).2.1, (rdWay p.2.1).2.2)
    else (p.1 ++ [(rdWay p.2.1).1], (rdWay p.2.1).2.1, 0)
def readW (d : List De) (s : St) : List (List De) × St × Nat :=
  if 4 < (rdNum s).1 then ([], (rdNum s).2, 4) else if (rdNum s).2.err ≠ 0 then ([], (rdNum s).2, (rdNum s).2.err)
  else
    let p := rdWays (rdNum s).2 (rdNum s).1
    if p.2.2 ≠ 0 then ([], p.2.1, p.2.2)
    else if chkW d p.1 ≠ 0 then ([], p.2.1, chkW d p.1)
    else (p.1, p.2.1, 0)
/-- The wait with which bytes begin, how many bytes it has, the first error. -/
def getW (d : List De) (l : List UInt8) : List (List De) × Nat × Nat :=
  let r := readW d ⟨l, 0⟩
  if r.2.2 ≠ 0 then ([], 0, r.2.2) else (r.1, l.length - r.2.1.rest.length, 0)

/-- A number in decimals. -/
def digs (n : Nat) : List UInt8 := if h : n < 10 then [UInt8.ofNat (48 + n)] else digs (n / 10) ++ [UInt8.ofNat (48 + n % 10)]
termination_by n
decreasing_by omega
def intT (n : Int) : List UInt8 := if n < 0 then 45 :: digs (-n).toNat else digs n.toNat
theorem digs_small {n : Nat} (h : n < 10) : digs n = [UInt8.ofNat (48 + n)] := by unfold digs; rw [dif_pos h]
theorem digs_big {n : Nat} (h : ¬ n < 10) : digs n = digs (n / 10) ++ [UInt8.ofNat (48 + n % 10)] := by
  conv => lhs; unfold digs
  rw [dif_neg h]
theorem digs_le : ∀ k n, n < 10 ^ k → (digs n).length ≤ k + 1 := by
  intro k
  induction k with
  | zero =>
    intro n hn
    have : n < 1 := by simpa using hn
    rw [digs_small (by omega)]
    simp
  | succ k ih =>
    intro n hn
    by_cases h : n < 10
    · rw [digs_small h]; simp
    · rw [digs_big h, List.length_append]
      have h1 : n / 10 < 10 ^ k := by
        rw [Nat.pow_succ] at hn
        omega
      have := ih _ h1
      simp
      omega
theorem digs_64 {n : Nat} (h : n ≤ 9223372036854775808) : (digs n).length ≤ 20 := digs_le 19 n (by
  have : (10 : Nat) ^ 19 = 10000000000000000000 := by decide
  omega)
theorem intT_le {n : Int} (h : -9223372036854775808 ≤ n ∧ n ≤ 9223372036854775807) : (intT n).length ≤ 21 := by
  unfold intT
  split
  · have := digs_64 (n := (-n).toNat) (by omega)
    simp
    omega
  · have := digs_64 (n := n.toNat) (by omega)
    omega
/-- A kind's word. -/
def word (k : Int) : List UInt8 := if k = 1 then [108, 111, 99, 107] else if k = 2 then [114, 101, 97, 100] else if k = 3 then [119, 114, 105, 116, 101] else if k = 4 then [100, 111, 119, 110] else if k = 5 then [116, 97, 107, 101] else [110, 111, 110, 101]
theorem word_le (k : Int) : (word k).length ≤ 5 := by
  unfold word
  split
  · decide
  · split
    · decide
    · split
      · decide
      · split
        · decide
        · split <;> decide
def tailT (k n : Int) : List UInt8 := if k = 4 ∨ k = 5 then 58 :: intT n else []
def needT (n : De) : List UInt8 := word n.1 ++ [32] ++ intT n.2.1 ++ tailT n.1 n.2.2
def needsT (l : List De) : Nat → List UInt8
  | 0 => []
  | k + 1 => needsT l k ++ (if 0 < k then [32, 43, 32] else []) ++ needT (l.getD k zero)
def waysT (w : List (List De)) : Nat → List UInt8
  | 0 => []
  | k + 1 => waysT w k ++ (if 0 < k then [32, 124, 32] else []) ++ needsT (w.getD k []) (w.getD k []).length
/-- A wait's text. -/
def textW (w : List (List De)) : List UInt8 := waysT w w.length
def Small (n : De) : Prop := (-9223372036854775808 ≤ n.1 ∧ n.1 ≤ 9223372036854775807) ∧ (-9223372036854775808 ≤ n.2.1 ∧ n.2.1 ≤ 9223372036854775807) ∧ (-9223372036854775808 ≤ n.2.2 ∧ n.2.2 ≤ 9223372036854775807)
theorem needT_le {n : De} (h : Small n) : (needT n).length ≤ 49 := by
  have h1 := word_le n.1
  have h2 := intT_le h.2.1
  have h3 : (tailT n.1 n.2.2).length ≤ 22 := by
    unfold tailT
    split
    · have := intT_le h.2.2
      simp
      omega
    · simp
  simp only [needT, List.length_append, List.length_cons, List.length_nil]
  omega
theorem getD_mem {l : List De} {k : Nat} (h : k < l.length) : l.getD k zero ∈ l := by
  rw [List.getD_eq_getElem?_getD, List.getElem?_eq_getElem h]
  exact List.getElem_mem h
theorem getW_mem {w : List (List De)} {k : Nat} (h : k < w.length) : w.getD k [] ∈ w := by
  rw [List.getD_eq_getElem?_getD, List.getElem?_eq_getElem h]
  exact List.getElem_mem h
theorem needsT_le {l : List De} (h : ∀ n ∈ l, Small n) : ∀ j, j ≤ l.length → (needsT l j).length ≤ 52 * j := by
  intro j
  induction j with
  | zero => intro _; simp [needsT]
  | succ j ih =>
    intro hj
    have h1 := ih (by omega)
    have h2 := needT_le (h _ (getD_mem (l := l) (k := j) (by omega)))
    have h3 : (if 0 < j then ([32, 43, 32] : List UInt8) else []).length ≤ 3 := by split <;> simp
    simp only [needsT, List.length_append]
    omega
theorem waysT_le {w : List (List De)} (h : ∀ l ∈ w, l.length ≤ 6 ∧ ∀ n ∈ l, Small n) : ∀ j, j ≤ w.length → (waysT w j).length ≤ 315 * j := by
  intro j
  induction j with
  | zero => intro _; simp [waysT]
  | succ j ih =>
    intro hj
    have h1 := ih (by omega)
    have hm := h _ (getW_mem (w := w) (k := j) (by omega))
    have h2 := needsT_le hm.2 _ (Nat.le_refl _)
    have h4 := hm.1
    have h3 : (if 0 < j then ([32, 124, 32] : List UInt8) else []).length ≤ 3 := by split <;> simp
    simp only [waysT, List.length_append]
    omega
end Go.Proofs.YtnhoeboighndlaaGreatDoor.need
