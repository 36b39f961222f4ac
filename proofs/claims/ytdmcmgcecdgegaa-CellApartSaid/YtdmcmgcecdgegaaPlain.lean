/-
  The plain mathematics of numbers and texts as bytes: what a number's bytes are, what bytes are read as, and that reading and writing undo each other. It speaks of lists and numbers alone, under no condition but a number below two to the sixty-fourth.
-/
import Derived.Below
namespace Go.Proofs.Ytdmcmgcecdgegaa.octet

/-- A number's bytes, of at most f + 1. -/
def enc : Nat → Nat → List UInt8
  | 0, n => [UInt8.ofNat n]
  | f + 1, n => if n < 128 then [UInt8.ofNat n] else UInt8.ofNat (n % 128 + 128) :: enc f (n / 128)
def num (n : Nat) : List UInt8 := enc 9 n

theorem enc_small (f n : Nat) (h : n < 128) : enc f n = [UInt8.ofNat n] := by
  cases f with
  | zero => rfl
  | succ f => simp [enc, h]
theorem enc_more (f : Nat) : ∀ n, n < 128 ^ (f + 1) → enc (f + 1) n = enc f n := by
  induction f with
  | zero => intro n h; rw [enc_small _ _ (by omega), enc_small _ _ (by omega)]
  | succ f ih =>
    intro n h
    by_cases hn : n < 128
    · rw [enc_small _ _ hn, enc_small _ _ hn]
    · have hd : n / 128 < 128 ^ (f + 1) := by
        rw [Nat.div_lt_iff_lt_mul (by omega), ← Nat.pow_succ]; exact h
      have e1 : enc (f + 1 + 1) n = UInt8.ofNat (n % 128 + 128) :: enc (f + 1) (n / 128) := by rw [enc, if_neg hn]
      have e2 : enc (f + 1) n = UInt8.ofNat (n % 128 + 128) :: enc f (n / 128) := by rw [enc, if_neg hn]
      rw [e1, e2, ih _ hd]
theorem num_small {n : Nat} (h : n < 128) : num n = [UInt8.ofNat n] := enc_small 9 n h
theorem num_big {n : Nat} (h : 128 ≤ n) (h64 : n < 18446744073709551616) : num n = UInt8.ofNat (n % 128 + 128) :: num (n / 128) := by
  have e1 : num n = UInt8.ofNat (n % 128 + 128) :: enc 8 (n / 128) := by
    unfold num
    rw [enc, if_neg (by omega)]
  rw [e1]
  unfold num
  rw [enc_more 8 (n / 128) (by have : (128 : Nat) ^ (8 + 1) = 9223372036854775808 := rfl; omega)]

theorem enc_length_pos (f n : Nat) : 0 < (enc f n).length := by
  cases f with
  | zero => simp [enc]
  | succ f => simp only [enc]; split <;> simp
theorem enc_length_le (f : Nat) : ∀ n, (enc f n).length ≤ f + 1 := by
  induction f with
  | zero => intro n; simp [enc]
  | succ f ih =>
    intro n
    simp only [enc]
    split
    · simp
    · have := ih (n / 128); simp; omega
theorem num_length_le (n : Nat) : (num n).length ≤ 10 := enc_length_le 9 n
theorem enc_length_mono (f : Nat) : ∀ m n, m ≤ n → (enc f m).length ≤ (enc f n).length := by
  induction f with
  | zero => intro m n _; simp [enc]
  | succ f ih =>
    intro m n h
    by_cases hm : m < 128
    · rw [enc_small _ _ hm]
      exact enc_length_pos _ _
    · have hn : ¬ n < 128 := by omega
      rw [enc, if_neg hm, enc, if_neg hn]
      have := ih (m / 128) (n / 128) (Nat.div_le_div_right h)
      simpa using this
theorem num_length_mono {m n : Nat} (h : m ≤ n) : (num m).length ≤ (num n).length := enc_length_mono 9 m n h

/-- What bytes are read as, behind k bytes that made acc: the number, what is left, the error. -/
def dec : List UInt8 → Nat → Nat → Nat × List UInt8 × Nat
  | [], _, _ => (0, [], 3)
  | b :: r, k, acc =>
    if (k = 9 ∧ 1 < b.toNat) ∨ (0 < k ∧ b.toNat = 0) then (0, [], 2)
    else if b.toNat < 128 then (acc + b.toNat % 128 * 128 ^ k, r, 0)
    else dec r (k + 1) (acc + b.toNat % 128 * 128 ^ k)

theorem dec_err {b : UInt8} {r : List UInt8} {k acc : Nat} (h : (k = 9 ∧ 1 < b.toNat) ∨ (0 < k ∧ b.toNat = 0)) : dec (b :: r) k acc = (0, [], 2) := by rw [dec, if_pos h]
theorem dec_last {b : UInt8} {r : List UInt8} {k acc : Nat} (h : ¬ ((k = 9 ∧ 1 < b.toNat) ∨ (0 < k ∧ b.toNat = 0))) (hb : b.toNat < 128) : dec (b :: r) k acc = (acc + b.toNat % 128 * 128 ^ k, r, 0) := by rw [dec, if_neg h, if_pos hb]
theorem dec_next {b : UInt8} {r : List UInt8} {k acc : Nat} (h : ¬ ((k = 9 ∧ 1 < b.toNat) ∨ (0 < k ∧ b.toNat = 0))) (hb : ¬ b.toNat < 128) : dec (b :: r) k acc = dec r (k + 1) (acc + b.toNat % 128 * 128 ^ k) := by rw [dec, if_neg h, if_neg hb]

/-- Behind an error nothing is read: zero, and nothing is left. -/
theorem dec_fails (l : List UInt8) : ∀ k acc, (dec l k acc).2.2 ≠ 0 → (dec l k acc).1 = 0 ∧ (dec l k acc).2.1 = [] := by
  induction l with
  | nil => intro k acc _; simp [dec]
  | cons b r ih =>
    intro k acc
    by_cases h : (k = 9 ∧ 1 < b.toNat) ∨ (0 < k ∧ b.toNat = 0)
    · rw [dec_err h]; simp
    · by_cases hb : b.toNat < 128
      · rw [dec_last h hb]; simp
      · rw [dec_next h hb]; exact ih _ _
theorem dec_code (l : List UInt8) : ∀ k acc, (dec l k acc).2.2 ≤ 3 := by
  induction l with
  | nil => intro k acc; simp [dec]
  | cons b r ih =>
    intro k acc
    by_cases h : (k = 9 ∧ 1 < b.toNat) ∨ (0 < k ∧ b.toNat = 0)
    · rw [dec_err h]; simp
    · by_cases hb : b.toNat < 128
      · rw [dec_last h hb]; simp
      · rw [dec_next h hb]; exact ih _ _
theorem dec_left (l : List UInt8) : ∀ k acc, (dec l k acc).2.1.length ≤ l.length := by
  induction l with
  | nil => intro k acc; simp [dec]
  | cons b r ih =>
    intro k acc
    by_cases h : (k = 9 ∧ 1 < b.toNat) ∨ (0 < k ∧ b.toNat = 0)
    · rw [dec_err h]; simp
    · by_cases hb : b.toNat < 128
      · rw [dec_last h hb]; simp
      · rw [dec_next h hb]; have := ih (k + 1) (acc + b.toNat % 128 * 128 ^ k); simp; omega

theorem pow_step {k : Nat} (x : Nat) : x * 128 ^ (k + 1) = 128 * x * 128 ^ k := by
  rw [Nat.pow_succ, Nat.mul_comm (128 ^ k) 128, ← Nat.mul_assoc, Nat.mul_comm x 128]

/-- What is read without an error, put again, is just the bytes that were read. -/
theorem dec_once (l : List UInt8) : ∀ k acc v rest, k ≤ 9 → dec l k acc = (v, rest, 0) →
    ∃ m, v = acc + m * 128 ^ k ∧ l = enc (9 - k) m ++ rest ∧ (0 < k → 0 < m) ∧ m < 2 * 128 ^ (9 - k) := by
  induction l with
  | nil => intro k acc v rest _ h; simp [dec] at h
  | cons b r ih =>
    intro k acc v rest hk h
    by_cases he : (k = 9 ∧ 1 < b.toNat) ∨ (0 < k ∧ b.toNat = 0)
    · rw [dec_err he] at h; simp at h
    · have h9 : k = 9 → b.toNat ≤ 1 := fun e => by
        rcases Nat.lt_or_ge 1 b.toNat with hh | hh
        · exact absurd (Or.inl ⟨e, hh⟩) he
        · exact hh
      have h0 : 0 < k → 0 < b.toNat := fun e => by
        rcases Nat.eq_zero_or_pos b.toNat with hh | hh
        · exact absurd (Or.inr ⟨e, hh⟩) he
        · exact hh
      have hp : 0 < 128 ^ (9 - k) := Nat.pow_pos (by omega)
      have h256 : b.toNat < 256 := b.toNat_lt
      by_cases hb : b.toNat < 128
      · rw [dec_last he hb] at h
        simp only [Prod.mk.injEq] at h
        obtain ⟨hv, hr, _⟩ := h
        refine ⟨b.toNat, by rw [← hv, Nat.mod_eq_of_lt hb], ?_, h0, ?_⟩
        · rw [enc_small _ _ hb, hr]; simp
        · by_cases e : k = 9
          · have := h9 e; omega
          · have : (128 : Nat) ^ 1 ≤ 128 ^ (9 - k) := Nat.pow_le_pow_right (by omega) (by omega)
            omega
      · have hk9 : k < 9 := by
          rcases Nat.lt_or_ge k 9 with hh | hh
          · exact hh
          · have := h9 (by omega); omega
        rw [dec_next he hb] at h
        obtain ⟨m, hv, hr, hm, hlt⟩ := ih (k + 1) _ v rest (by omega) h
        have hm0 := hm (by omega)
        have hf : 9 - k = (9 - (k + 1)) + 1 := by omega
        refine ⟨b.toNat % 128 + 128 * m, ?_, ?_, fun _ => by omega, ?_⟩
        · rw [hv, pow_step, Nat.add_mul, Nat.add_assoc]
        · have e1 : (b.toNat % 128 + 128 * m) % 128 + 128 = b.toNat := by omega
          have e2 : (b.toNat % 128 + 128 * m) / 128 = m := by omega
          rw [hf, enc, if_neg (by omega), e1, e2, hr]
          simp
        · rw [hf, Nat.pow_succ]; omega

/-- What was put is read again, whatever stands behind. -/
theorem dec_back (f : Nat) : ∀ m acc more, f ≤ 9 → m < 2 * 128 ^ f → (f < 9 → 0 < m) → dec (enc f m ++ more) (9 - f) acc = (acc + m * 128 ^ (9 - f), more, 0) := by
  induction f with
  | zero =>
    intro m acc more _ h h0
    have hm : m < 2 := by simpa using h
    have hm0 := h0 (by omega)
    obtain rfl : m = 1 := by omega
    rfl
  | succ f ih =>
    intro m acc more hf h h0
    by_cases hm : m < 128
    · have ht : (UInt8.ofNat m).toNat = m := by rw [UInt8.toNat_ofNat']; omega
      rw [enc_small _ _ hm]
      show dec (UInt8.ofNat m :: more) _ acc = _
      rw [dec_last (by rw [ht]; omega) (by rw [ht]; exact hm), ht, Nat.mod_eq_of_lt hm]
    · have ht : (UInt8.ofNat (m % 128 + 128)).toNat = m % 128 + 128 := by rw [UInt8.toNat_ofNat']; omega
      rw [enc, if_neg hm]
      show dec (UInt8.ofNat (m % 128 + 128) :: (enc f (m / 128) ++ more)) _ acc = _
      rw [dec_next (by rw [ht]; omega) (by rw [ht]; omega), ht]
      have hlt : m / 128 < 2 * 128 ^ f := by rw [Nat.div_lt_iff_lt_mul (by omega), Nat.mul_assoc, ← Nat.pow_succ]; exact h
      have e : 9 - (f + 1) + 1 = 9 - f := by omega
      rw [e, ih (m / 128) _ more (by omega) hlt (fun _ => by omega)]
      have e' : 9 - f = (9 - (f + 1)) + 1 := by omega
      rw [e', pow_step, Nat.add_assoc, ← Nat.add_mul]
      congr 3
      omega

theorem num_back {n : Nat} (h : n < 18446744073709551616) (more : List UInt8) : dec (num n ++ more) 0 0 = (n, more, 0) := by
  have := dec_back 9 n 0 more (Nat.le_refl _) (by have : (2 : Nat) * 128 ^ 9 = 18446744073709551616 := rfl; omega) (by omega)
  show dec (enc 9 n ++ more) 0 0 = _
  simpa using this
theorem num_once {l : List UInt8} {v : Nat} {rest : List UInt8} (h : dec l 0 0 = (v, rest, 0)) : l = num v ++ rest ∧ v < 18446744073709551616 := by
  obtain ⟨m, hv, hl, _, hm⟩ := dec_once l 0 0 v rest (by omega) h
  obtain rfl : v = m := by omega
  have e : (2 : Nat) * 128 ^ (9 - 0) = 18446744073709551616 := rfl
  exact ⟨hl, by omega⟩
theorem dec_lt (l : List UInt8) : (dec l 0 0).1 < 18446744073709551616 := by
  by_cases h : (dec l 0 0).2.2 = 0
  · exact (num_once (l := l) (v := (dec l 0 0).1) (rest := (dec l 0 0).2.1) (Prod.ext rfl (Prod.ext rfl h))).2
  · rw [(dec_fails l 0 0 h).1]; omega

/-- A number with a sign as one without. -/
def zig (n : Int) : Nat := if 0 ≤ n then (2 * n).toNat else (-2 * n - 1).toNat
def zag (v : Nat) : Int := if v % 2 = 1 then -((v / 2 : Nat) : Int) - 1 else ((v / 2 : Nat) : Int)
theorem zag_zig (n : Int) : zag (zig n) = n := by unfold zag zig; split <;> split <;> omega
theorem zig_zag (v : Nat) : zig (zag v) = v := by unfold zag zig; split <;> split <;> omega
theorem zig_lt {n : Int} (h1 : -9223372036854775808 ≤ n) (h2 : n ≤ 9223372036854775807) : zig n < 18446744073709551616 := by unfold zig; split <;> omega
theorem zag_ge {v : Nat} (h : v < 18446744073709551616) : -9223372036854775808 ≤ zag v ∧ zag v ≤ 9223372036854775807 := by unfold zag; split <;> omega

/-- What the reader holds: the bytes that are left, and the first error. -/
structure St where
  rest : List UInt8
  err : Nat
def St.ok (s : St) : Prop := s.err ≠ 0 → s.rest = []

def rdByte (s : St) : Nat × St :=
  if s.err ≠ 0 then (0, s) else match s.rest with
    | [] => (0, ⟨[], 3⟩)
    | b :: r => (b.toNat, ⟨r, 0⟩)
def rdNum (s : St) : Nat × St :=
  if s.err ≠ 0 then (0, s) else ((dec s.rest 0 0).1, ⟨(dec s.rest 0 0).2.1, (dec s.rest 0 0).2.2⟩)
def rdInt (s : St) : Int × St := (zag (rdNum s).1, (rdNum s).2)
def St.fail (s : St) (e : Nat) : St := if s.err ≠ 0 then s else ⟨[], e⟩
def rdText (s : St) : List UInt8 × St :=
  if (rdNum s).2.rest.length < (rdNum s).1 then ([], (rdNum s).2.fail 3)
  else ((rdNum s).2.rest.take (rdNum s).1, ⟨(rdNum s).2.rest.drop (rdNum s).1, (rdNum s).2.err⟩)

theorem rdByte_ok {s : St} (h : s.ok) : (rdByte s).2.ok := by
  unfold rdByte
  split
  · exact h
  · split
    · intro _; rfl
    · intro he; exact absurd rfl he
theorem rdNum_ok {s : St} (h : s.ok) : (rdNum s).2.ok := by
  unfold rdNum
  split
  · exact h
  · intro he; exact (dec_fails _ _ _ he).2
theorem fail_ok {s : St} (h : s.ok) (e : Nat) : (s.fail e).ok := by
  unfold St.fail
  split
  · exact h
  · intro _; rfl
theorem rdText_ok {s : St} (h : s.ok) : (rdText s).2.ok := by
  unfold rdText
  split
  · exact fail_ok (rdNum_ok h) 3
  · intro he
    show List.drop _ _ = []
    rw [(rdNum_ok h) he]; simp
theorem rdNum_lt (s : St) : (rdNum s).1 < 18446744073709551616 := by
  unfold rdNum
  split
  · omega
  · exact dec_lt _
theorem rdNum_left (s : St) : (rdNum s).2.rest.length ≤ s.rest.length := by
  unfold rdNum
  split
  · exact Nat.le_refl _
  · exact dec_left _ _ _

end Go.Proofs.Ytdmcmgcecdgegaa.octet
