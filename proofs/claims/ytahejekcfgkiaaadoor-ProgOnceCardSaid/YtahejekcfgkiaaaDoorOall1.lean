/-
  Texts of one claim in one file: Plain, PPlain, WPlain, JPlain, PProg, PTab, PRef, WRef, JRefChk, Mem, Out, In, Put, JRefPut, InNum, Ref, RefNum, InText, RefText, RefPlain, JRefRead, JRefGet, JSpec, WProg, Span, JChk. Each has its own sentence, with its conditions.
-/
import Derived.Below
import Derived.Lib.Strings
import Derived.Test.YtahejekcfgkiaaaDoorProg
import Derived.WalkKit
import Derived.ProofKit
import Derived.IntWalk
import Derived.LoopTactic
import Derived.Lib.Hide
import Derived.Outline
import Derived.Deep.Cut
import Derived.Deep.CutBlock
import Derived.Deep.DeepCutAuto
import Derived.PlainAid
import Derived.BigQuiet
import Derived.Deep.QuietTactic
import Derived.Deep.RegionHeld3
import Derived.OneCell
import Derived.Laws.Rows
import Derived.Lib.AppendStr
import Derived.Laws.IdiomStrings
import Derived.Handy
import Derived.Lib.SmallJoins
import Derived.RegionTactic
import Derived.ChangeAlike
import Derived.Lib.Walk
import Derived.Lib.BufferWrite
import Derived.Lib.UnsafeStr
import Derived.Laws.MakeOwn
import Derived.BigRegion
import Derived.WalkLawsBesides
/-
  The plain mathematics of numbers and texts as bytes: what a number's bytes are, what bytes are read as, and that reading and writing undo each other. It speaks of lists and numbers alone, under no condition but a number below two to the sixty-fourth.
-/
namespace Go.Proofs.YtahejekcfgkiaaaDoor.octet

/-- A number's bytes, of at most f + 1. -/
def enc : Nat → Nat → List UInt8
  | 0, n => [UInt8.ofNat n]
  | f + 1, n => if n < 128 then [UInt8.ofNat n] else UInt8.ofNat (n % 128 + 128) :: enc f (n / 128)
def num (n : Nat) : List UInt8 := enc 9 n

theorem enc_small (f n : Nat) (h : n < 128) : enc f n = [UInt8.ofNat n] := by
  cases f with
  | zero => rfl
  | succ f => simp [enc, h]
theorem enc_more (f : Nat) : ∀ n, n < 128 ^ (f + 1) → enc (f + 1) n = enc f n := by
  induction f with
  | zero => intro n h; rw [enc_small _ _ (by omega), enc_small _ _ (by omega)]
  | succ f ih =>
    intro n h
    by_cases hn : n < 128
    · rw [enc_small _ _ hn, enc_small _ _ hn]
    · have hd : n / 128 < 128 ^ (f + 1) := by
        rw [Nat.div_lt_iff_lt_mul (by omega), ← Nat.pow_succ]; exact h
      have e1 : enc (f + 1 + 1) n = UInt8.ofNat (n % 128 + 128) :: enc (f + 1) (n / 128) := by rw [enc, if_neg hn]
      have e2 : enc (f + 1) n = UInt8.ofNat (n % 128 + 128) :: enc f (n / 128) := by rw [enc, if_neg hn]
      rw [e1, e2, ih _ hd]
theorem num_small {n : Nat} (h : n < 128) : num n = [UInt8.ofNat n] := enc_small 9 n h
theorem num_big {n : Nat} (h : 128 ≤ n) (h64 : n < 18446744073709551616) : num n = UInt8.ofNat (n % 128 + 128) :: num (n / 128) := by
  have e1 : num n = UInt8.ofNat (n % 128 + 128) :: enc 8 (n / 128) := by
    unfold num
    rw [enc, if_neg (by omega)]
  rw [e1]
  unfold num
  rw [enc_more 8 (n / 128) (by have : (128 : Nat) ^ (8 + 1) = 9223372036854775808 := rfl; omega)]

theorem enc_length_pos (f n : Nat) : 0 < (enc f n).length := by
  cases f with
  | zero => simp [enc]
  | succ f => simp only [enc]; split <;> simp
theorem enc_length_le (f : Nat) : ∀ n, (enc f n).length ≤ f + 1 := by
  induction f with
  | zero => intro n; simp [enc]
  | succ f ih =>
    intro n
    simp only [enc]
    split
    · simp
    · have := ih (n / 128); simp; omega
theorem num_length_le (n : Nat) : (num n).length ≤ 10 := enc_length_le 9 n
theorem enc_length_mono (f : Nat) : ∀ m n, m ≤ n → (enc f m).length ≤ (enc f n).length := by
  induction f with
  | zero => intro m n _; simp [enc]
  | succ f ih =>
    intro m n h
    by_cases hm : m < 128
    · rw [enc_small _ _ hm]
      exact enc_length_pos _ _
    · have hn : ¬ n < 128 := by omega
      rw [enc, if_neg hm, enc, if_neg hn]
      have := ih (m / 128) (n / 128) (Nat.div_le_div_right h)
      simpa using this
theorem num_length_mono {m n : Nat} (h : m ≤ n) : (num m).length ≤ (num n).length := enc_length_mono 9 m n h

/-- What bytes are read as, behind k bytes that made acc: the number, what is left, the error. -/
def dec : List UInt8 → Nat → Nat → Nat × List UInt8 × Nat
  | [], _, _ => (0, [], 3)
  | b :: r, k, acc =>
    if (k = 9 ∧ 1 < b.toNat) ∨ (0 < k ∧ b.toNat = 0) then (0, [], 2)
    else if b.toNat < 128 then (acc + b.toNat % 128 * 128 ^ k, r, 0)
    else dec r (k + 1) (acc + b.toNat % 128 * 128 ^ k)

theorem dec_err {b : UInt8} {r : List UInt8} {k acc : Nat} (h : (k = 9 ∧ 1 < b.toNat) ∨ (0 < k ∧ b.toNat = 0)) : dec (b :: r) k acc = (0, [], 2) := by rw [dec, if_pos h]
theorem dec_last {b : UInt8} {r : List UInt8} {k acc : Nat} (h : ¬ ((k = 9 ∧ 1 < b.toNat) ∨ (0 < k ∧ b.toNat = 0))) (hb : b.toNat < 128) : dec (b :: r) k acc = (acc + b.toNat % 128 * 128 ^ k, r, 0) := by rw [dec, if_neg h, if_pos hb]
theorem dec_next {b : UInt8} {r : List UInt8} {k acc : Nat} (h : ¬ ((k = 9 ∧ 1 < b.toNat) ∨ (0 < k ∧ b.toNat = 0))) (hb : ¬ b.toNat < 128) : dec (b :: r) k acc = dec r (k + 1) (acc + b.toNat % 128 * 128 ^ k) := by rw [dec, if_neg h, if_neg hb]

/-- Behind an error nothing is read: zero, and nothing is left. -/
theorem dec_fails (l : List UInt8) : ∀ k acc, (dec l k acc).2.2 ≠ 0 → (dec l k acc).1 = 0 ∧ (dec l k acc).2.1 = [] := by
  induction l with
  | nil => intro k acc _; simp [dec]
  | cons b r ih =>
    intro k acc
    by_cases h : (k = 9 ∧ 1 < b.toNat) ∨ (0 < k ∧ b.toNat = 0)
    · rw [dec_err h]; simp
    · by_cases hb : b.toNat < 128
      · rw [dec_last h hb]; simp
      · rw [dec_next h hb]; exact ih _ _
theorem dec_code (l : List UInt8) : ∀ k acc, (dec l k acc).2.2 ≤ 3 := by
  induction l with
  | nil => intro k acc; simp [dec]
  | cons b r ih =>
    intro k acc
    by_cases h : (k = 9 ∧ 1 < b.toNat) ∨ (0 < k ∧ b.toNat = 0)
    · rw [dec_err h]; simp
    · by_cases hb : b.toNat < 128
      · rw [dec_last h hb]; simp
      · rw [dec_next h hb]; exact ih _ _
theorem dec_left (l : List UInt8) : ∀ k acc, (dec l k acc).2.1.length ≤ l.length := by
  induction l with
  | nil => intro k acc; simp [dec]
  | cons b r ih =>
    intro k acc
    by_cases h : (k = 9 ∧ 1 < b.toNat) ∨ (0 < k ∧ b.toNat = 0)
    · rw [dec_err h]; simp
    · by_cases hb : b.toNat < 128
      · rw [dec_last h hb]; simp
      · rw [dec_next h hb]; have := ih (k + 1) (acc + b.toNat % 128 * 128 ^ k); simp; omega

theorem pow_step {k : Nat} (x : Nat) : x * 128 ^ (k + 1) = 128 * x * 128 ^ k := by
  rw [Nat.pow_succ, Nat.mul_comm (128 ^ k) 128, ← Nat.mul_assoc, Nat.mul_comm x 128]

/-- What is read without an error, put again, is just the bytes that were read. -/
theorem dec_once (l : List UInt8) : ∀ k acc v rest, k ≤ 9 → dec l k acc = (v, rest, 0) →
    ∃ m, v = acc + m * 128 ^ k ∧ l = enc (9 - k) m ++ rest ∧ (0 < k → 0 < m) ∧ m < 2 * 128 ^ (9 - k) := by
  induction l with
  | nil => intro k acc v rest _ h; simp [dec] at h
  | cons b r ih =>
    intro k acc v rest hk h
    by_cases he : (k = 9 ∧ 1 < b.toNat) ∨ (0 < k ∧ b.toNat = 0)
    · rw [dec_err he] at h; simp at h
    · have h9 : k = 9 → b.toNat ≤ 1 := fun e => by
        rcases Nat.lt_or_ge 1 b.toNat with hh | hh
        · exact absurd (Or.inl ⟨e, hh⟩) he
        · exact hh
      have h0 : 0 < k → 0 < b.toNat := fun e => by
        rcases Nat.eq_zero_or_pos b.toNat with hh | hh
        · exact absurd (Or.inr ⟨e, hh⟩) he
        · exact hh
      have hp : 0 < 128 ^ (9 - k) := Nat.pow_pos (by omega)
      have h256 : b.toNat < 256 := b.toNat_lt
      by_cases hb : b.toNat < 128
      · rw [dec_last he hb] at h
        simp only [Prod.mk.injEq] at h
        obtain ⟨hv, hr, _⟩ := h
        refine ⟨b.toNat, by rw [← hv, Nat.mod_eq_of_lt hb], ?_, h0, ?_⟩
        · rw [enc_small _ _ hb, hr]; simp
        · by_cases e : k = 9
          · have := h9 e; omega
          · have : (128 : Nat) ^ 1 ≤ 128 ^ (9 - k) := Nat.pow_le_pow_right (by omega) (by omega)
            omega
      · have hk9 : k < 9 := by
          rcases Nat.lt_or_ge k 9 with hh | hh
          · exact hh
          · have := h9 (by omega); omega
        rw [dec_next he hb] at h
        obtain ⟨m, hv, hr, hm, hlt⟩ := ih (k + 1) _ v rest (by omega) h
        have hm0 := hm (by omega)
        have hf : 9 - k = (9 - (k + 1)) + 1 := by omega
        refine ⟨b.toNat % 128 + 128 * m, ?_, ?_, fun _ => by omega, ?_⟩
        · rw [hv, pow_step, Nat.add_mul, Nat.add_assoc]
        · have e1 : (b.toNat % 128 + 128 * m) % 128 + 128 = b.toNat := by omega
          have e2 : (b.toNat % 128 + 128 * m) / 128 = m := by omega
          rw [hf, enc, if_neg (by omega), e1, e2, hr]
          simp
        · rw [hf, Nat.pow_succ]; omega

/-- What was put is read again, whatever stands behind. -/
theorem dec_back (f : Nat) : ∀ m acc more, f ≤ 9 → m < 2 * 128 ^ f → (f < 9 → 0 < m) → dec (enc f m ++ more) (9 - f) acc = (acc + m * 128 ^ (9 - f), more, 0) := by
  induction f with
  | zero =>
    intro m acc more _ h h0
    have hm : m < 2 := by simpa using h
    have hm0 := h0 (by omega)
    obtain rfl : m = 1 := by omega
    rfl
  | succ f ih =>
    intro m acc more hf h h0
    by_cases hm : m < 128
    · have ht : (UInt8.ofNat m).toNat = m := by rw [UInt8.toNat_ofNat']; omega
      rw [enc_small _ _ hm]
      show dec (UInt8.ofNat m :: more) _ acc = _
      rw [dec_last (by rw [ht]; omega) (by rw [ht]; exact hm), ht, Nat.mod_eq_of_lt hm]
    · have ht : (UInt8.ofNat (m % 128 + 128)).toNat = m % 128 + 128 := by rw [UInt8.toNat_ofNat']; omega
      rw [enc, if_neg hm]
      show dec (UInt8.ofNat (m % 128 + 128) :: (enc f (m / 128) ++ more)) _ acc = _
      rw [dec_next (by rw [ht]; omega) (by rw [ht]; omega), ht]
      have hlt : m / 128 < 2 * 128 ^ f := by rw [Nat.div_lt_iff_lt_mul (by omega), Nat.mul_assoc, ← Nat.pow_succ]; exact h
      have e : 9 - (f + 1) + 1 = 9 - f := by omega
      rw [e, ih (m / 128) _ more (by omega) hlt (fun _ => by omega)]
      have e' : 9 - f = (9 - (f + 1)) + 1 := by omega
      rw [e', pow_step, Nat.add_assoc, ← Nat.add_mul]
      congr 3
      omega

theorem num_back {n : Nat} (h : n < 18446744073709551616) (more : List UInt8) : dec (num n ++ more) 0 0 = (n, more, 0) := by
  have := dec_back 9 n 0 more (Nat.le_refl _) (by have : (2 : Nat) * 128 ^ 9 = 18446744073709551616 := rfl; omega) (by omega)
  show dec (enc 9 n ++ more) 0 0 = _
  simpa using this
theorem num_once {l : List UInt8} {v : Nat} {rest : List UInt8} (h : dec l 0 0 = (v, rest, 0)) : l = num v ++ rest ∧ v < 18446744073709551616 := by
  obtain ⟨m, hv, hl, _, hm⟩ := dec_once l 0 0 v rest (by omega) h
  obtain rfl : v = m := by omega
  have e : (2 : Nat) * 128 ^ (9 - 0) = 18446744073709551616 := rfl
  exact ⟨hl, by omega⟩
theorem dec_lt (l : List UInt8) : (dec l 0 0).1 < 18446744073709551616 := by
  by_cases h : (dec l 0 0).2.2 = 0
  · exact (num_once (l := l) (v := (dec l 0 0).1) (rest := (dec l 0 0).2.1) (Prod.ext rfl (Prod.ext rfl h))).2
  · rw [(dec_fails l 0 0 h).1]; omega

/-- A number with a sign as one without. -/
def zig (n : Int) : Nat := if 0 ≤ n then (2 * n).toNat else (-2 * n - 1).toNat
def zag (v : Nat) : Int := if v % 2 = 1 then -((v / 2 : Nat) : Int) - 1 else ((v / 2 : Nat) : Int)
theorem zag_zig (n : Int) : zag (zig n) = n := by unfold zag zig; split <;> split <;> omega
theorem zig_zag (v : Nat) : zig (zag v) = v := by unfold zag zig; split <;> split <;> omega
theorem zig_lt {n : Int} (h1 : -9223372036854775808 ≤ n) (h2 : n ≤ 9223372036854775807) : zig n < 18446744073709551616 := by unfold zig; split <;> omega
theorem zag_ge {v : Nat} (h : v < 18446744073709551616) : -9223372036854775808 ≤ zag v ∧ zag v ≤ 9223372036854775807 := by unfold zag; split <;> omega

/-- What the reader holds: the bytes that are left, and the first error. -/
structure St where
  rest : List UInt8
  err : Nat
def St.ok (s : St) : Prop := s.err ≠ 0 → s.rest = []

def rdByte (s : St) : Nat × St :=
  if s.err ≠ 0 then (0, s) else match s.rest with
    | [] => (0, ⟨[], 3⟩)
    | b :: r => (b.toNat, ⟨r, 0⟩)
def rdNum (s : St) : Nat × St :=
  if s.err ≠ 0 then (0, s) else ((dec s.rest 0 0).1, ⟨(dec s.rest 0 0).2.1, (dec s.rest 0 0).2.2⟩)
def rdInt (s : St) : Int × St := (zag (rdNum s).1, (rdNum s).2)
def St.fail (s : St) (e : Nat) : St := if s.err ≠ 0 then s else ⟨[], e⟩
def rdText (s : St) : List UInt8 × St :=
  if (rdNum s).2.rest.length < (rdNum s).1 then ([], (rdNum s).2.fail 3)
  else ((rdNum s).2.rest.take (rdNum s).1, ⟨(rdNum s).2.rest.drop (rdNum s).1, (rdNum s).2.err⟩)

theorem rdByte_ok {s : St} (h : s.ok) : (rdByte s).2.ok := by
  unfold rdByte
  split
  · exact h
  · split
    · intro _; rfl
    · intro he; exact absurd rfl he
theorem rdNum_ok {s : St} (h : s.ok) : (rdNum s).2.ok := by
  unfold rdNum
  split
  · exact h
  · intro he; exact (dec_fails _ _ _ he).2
theorem fail_ok {s : St} (h : s.ok) (e : Nat) : (s.fail e).ok := by
  unfold St.fail
  split
  · exact h
  · intro _; rfl
theorem rdText_ok {s : St} (h : s.ok) : (rdText s).2.ok := by
  unfold rdText
  split
  · exact fail_ok (rdNum_ok h) 3
  · intro he
    show List.drop _ _ = []
    rw [(rdNum_ok h) he]; simp
theorem rdNum_lt (s : St) : (rdNum s).1 < 18446744073709551616 := by
  unfold rdNum
  split
  · omega
  · exact dec_lt _
theorem rdNum_left (s : St) : (rdNum s).2.rest.length ≤ s.rest.length := by
  unfold rdNum
  split
  · exact Nat.le_refl _
  · exact dec_left _ _ _

end Go.Proofs.YtahejekcfgkiaaaDoor.octet

/-
  The document's table of operations: names, forms, what is taken and laid, by number; and the first number that has a name. No condition.
-/
namespace Go.Proofs.YtahejekcfgkiaaaDoor.oper

def nm : List ByteArray := [⟨#[112, 117, 115, 104]⟩, ⟨#[108, 111, 97, 100]⟩, ⟨#[115, 116, 111, 114, 101]⟩, ⟨#[97, 100, 100]⟩, ⟨#[115, 117, 98]⟩, ⟨#[109, 117, 108]⟩, ⟨#[100, 105, 118]⟩, ⟨#[109, 111, 100]⟩, ⟨#[110, 101, 103]⟩, ⟨#[108, 116]⟩, ⟨#[101, 113]⟩, ⟨#[97, 110, 100]⟩, ⟨#[111, 114]⟩, ⟨#[120, 111, 114]⟩, ⟨#[115, 104, 108]⟩, ⟨#[115, 104, 114]⟩, ⟨#[100, 117, 112]⟩, ⟨#[100, 114, 111, 112]⟩, ⟨#[106, 117, 109, 112]⟩, ⟨#[122, 101, 114, 111]⟩, ⟨#[99, 97, 108, 108]⟩, ⟨#[114, 101, 116]⟩, ⟨#[115, 101, 108, 102]⟩, ⟨#[110, 111, 119]⟩, ⟨#[111, 117, 116]⟩, ⟨#[121, 105, 101, 108, 100]⟩, ⟨#[119, 97, 105, 116]⟩, ⟨#[119, 97, 105, 116, 102, 111, 114]⟩, ⟨#[115, 108, 101, 101, 112]⟩, ⟨#[117, 110, 108, 111, 99, 107]⟩, ⟨#[112, 111, 115, 116]⟩, ⟨#[103, 105, 118, 101]⟩, ⟨#[99, 119, 97, 105, 116]⟩, ⟨#[99, 119, 97, 105, 116, 102, 111, 114]⟩, ⟨#[115, 105, 103, 110, 97, 108]⟩, ⟨#[98, 114, 111, 97, 100, 99, 97, 115, 116]⟩, ⟨#[101, 110, 114, 111, 108]⟩, ⟨#[108, 101, 97, 118, 101]⟩, ⟨#[97, 114, 114, 105, 118, 101]⟩, ⟨#[97, 114, 114, 105, 118, 101, 102, 111, 114]⟩, ⟨#[115, 112, 97, 119, 110]⟩, ⟨#[106, 111, 105, 110]⟩, ⟨#[106, 111, 105, 110, 102, 111, 114]⟩, ⟨#[103, 114, 97, 110, 116]⟩, ⟨#[119, 97, 105, 118, 101]⟩, ⟨#[114, 101, 97, 100]⟩, ⟨#[119, 114, 105, 116, 101]⟩, ⟨#[98, 101, 103, 105, 110]⟩, ⟨#[99, 111, 109, 109, 105, 116]⟩, ⟨#[99, 108, 97, 105, 109]⟩, ⟨#[100, 101, 97, 100]⟩, ⟨#[109, 101, 110, 100]⟩]
def fm : List ByteArray := [⟨#[110]⟩, ⟨#[107]⟩, ⟨#[107]⟩, ⟨#[]⟩, ⟨#[]⟩, ⟨#[]⟩, ⟨#[]⟩, ⟨#[]⟩, ⟨#[]⟩, ⟨#[]⟩, ⟨#[]⟩, ⟨#[]⟩, ⟨#[]⟩, ⟨#[]⟩, ⟨#[]⟩, ⟨#[]⟩, ⟨#[]⟩, ⟨#[]⟩, ⟨#[116]⟩, ⟨#[116]⟩, ⟨#[102]⟩, ⟨#[]⟩, ⟨#[]⟩, ⟨#[]⟩, ⟨#[]⟩, ⟨#[]⟩, ⟨#[119]⟩, ⟨#[119]⟩, ⟨#[]⟩, ⟨#[117]⟩, ⟨#[115]⟩, ⟨#[112]⟩, ⟨#[99, 109]⟩, ⟨#[99, 109]⟩, ⟨#[99]⟩, ⟨#[99]⟩, ⟨#[98]⟩, ⟨#[98]⟩, ⟨#[98]⟩, ⟨#[98]⟩, ⟨#[102]⟩, ⟨#[106, 106]⟩, ⟨#[106, 106]⟩, ⟨#[]⟩, ⟨#[]⟩, ⟨#[118]⟩, ⟨#[118]⟩, ⟨#[]⟩, ⟨#[]⟩, ⟨#[113]⟩, ⟨#[109]⟩, ⟨#[109]⟩]
def tk : List Int := [0, 0, 1, 2, 2, 2, 2, 2, 1, 2, 2, 2, 2, 2, 2, 2, 1, 1, 0, 1, 0, 1, 0, 0, 1, 0, 0, 1, 1, 0, 1, 1, 0, 1, 0, 0, 0, 0, 0, 1, 2, 0, 1, 2, 1, 0, 1, 0, 0, 1, 0, 0]
def ly : List Int := [1, 1, 0, 1, 1, 1, 1, 1, 1, 1, 1, 1, 1, 1, 1, 1, 2, 0, 0, 0, 1, 0, 1, 1, 1, 0, 1, 1, 1, 1, 1, 1, 1, 1, 1, 1, 1, 1, 1, 1, 1, 1, 1, 1, 1, 2, 1, 1, 1, 1, 1, 1]
/-- What stands in a list of texts at a number; the empty text where nothing does. -/
def txt (l : List ByteArray) (n : Int) : ByteArray := if 0 ≤ n ∧ n ≤ 51 then l.getD n.toNat ⟨#[]⟩ else ⟨#[]⟩
def numb (l : List Int) (n : Int) : Int := if 0 ≤ n ∧ n ≤ 51 then l.getD n.toNat 0 else 0
def same (a b : ByteArray) : Bool := a.toList == b.toList
theorem same_iff {a b : ByteArray} : same a b = true ↔ a = b := by
  unfold same
  rw [beq_iff_eq, ByteArray.toList_eq, ByteArray.toList_eq]
  constructor
  · intro h
    cases a; cases b
    simp only [Array.toList_inj] at h
    rw [h]
  · rintro rfl; rfl
/-- The first number that has this name; 52: none. -/
def idx (s : ByteArray) : Nat := nm.findIdx fun x => same x s
theorem nm_length : nm.length = 52 := rfl
theorem fm_length : fm.length = 52 := rfl
theorem tk_length : tk.length = 52 := rfl
theorem ly_length : ly.length = 52 := rfl
theorem idx_le (s : ByteArray) : idx s ≤ 52 := List.findIdx_le_length
theorem idx_of {s : ByteArray} {k : Nat} (h : k ≤ idx s) (hk : k < 52) (he : same (nm.getD k ⟨#[]⟩) s = true) : idx s = k := by
  have hk' : k < nm.length := hk
  rcases Nat.lt_or_ge k (idx s) with h1 | h1
  · have := List.not_of_lt_findIdx (p := fun x => same x s) (xs := nm) h1
    rw [List.getD_eq_getElem?_getD, List.getElem?_eq_getElem hk', Option.getD_some] at he
    simp [he] at this
  · omega
theorem idx_next {s : ByteArray} {k : Nat} (h : k ≤ idx s) (hk : k < 52) (he : same (nm.getD k ⟨#[]⟩) s = false) : k + 1 ≤ idx s := by
  rcases Nat.eq_or_lt_of_le h with h1 | h1
  · exfalso
    have hl : nm.findIdx (fun x => same x s) < nm.length := by show idx s < 52; omega
    have := List.findIdx_getElem (p := fun x => same x s) (xs := nm) (w := hl)
    have e : nm[nm.findIdx (fun x => same x s)]'hl = nm.getD k ⟨#[]⟩ := by
      rw [List.getD_eq_getElem?_getD, List.getElem?_eq_getElem (show k < nm.length from hk), Option.getD_some]
      congr 1
      exact h1.symm
    rw [e, he] at this
    cases this
  · omega
theorem idx_name : ∀ k, k < 52 → idx (nm.getD k ⟨#[]⟩) = k := by decide +kernel
theorem small : ∀ k, k < 52 → ∀ i, i < (nm.getD k ⟨#[]⟩).data.toList.length → 97 ≤ ((nm.getD k ⟨#[]⟩).data.toList.getD i 0).toNat ∧ ((nm.getD k ⟨#[]⟩).data.toList.getD i 0).toNat ≤ 122 := by decide +kernel
theorem name_size : ∀ k, k < 52 → 0 < (nm.getD k ⟨#[]⟩).size ∧ (nm.getD k ⟨#[]⟩).size ≤ 9 := by decide +kernel
theorem form_size : ∀ k, k < 52 → (fm.getD k ⟨#[]⟩).size ≤ 2 := by decide +kernel
end Go.Proofs.YtahejekcfgkiaaaDoor.oper

/-
  The plain mathematics of words: the word of a number's lowest bits, bit by bit, moved up and down, and what each operation comes to. It speaks of numbers alone.
-/
namespace Go.Proofs.YtahejekcfgkiaaaDoor.word

/-- The word of the lowest 32 bits. -/
def low (n : Int) : Int := (n + 2147483648) % 4294967296 - 2147483648
def Word (n : Int) : Prop := -2147483648 ≤ n ∧ n ≤ 2147483647
instance (n : Int) : Decidable (Word n) := inferInstanceAs (Decidable (-2147483648 ≤ n ∧ n ≤ 2147483647))
theorem low_word (n : Int) : Word (low n) := by unfold Word low; omega
theorem low_id {n : Int} (h : Word n) : low n = n := by unfold Word at h; unfold low; omega
theorem low_low (n : Int) : low (low n) = low n := low_id (low_word n)
theorem low_diff (n : Int) : (n - low n) % 4294967296 = 0 := by unfold low; omega
theorem low_eq (a b : Int) : low a = low b ↔ (a - b) % 4294967296 = 0 := by unfold low; omega
theorem low_mod (n : Int) : low (n % 4294967296) = low n := by unfold low; omega

/-- What is left in a division that is rounded towards 0, by a number above 0. -/
theorem tmod_pos {n : Int} (h : 0 ≤ n) (d : Int) : n.tmod d = n % d := Int.tmod_eq_emod_of_nonneg h
theorem tmod_neg {n : Int} (h : n < 0) (d : Int) : n.tmod d = -((-n) % d) := by
  have h1 : (-n).tmod d = -(n.tmod d) := Int.neg_tmod _ _
  rw [Int.tmod_eq_emod_of_nonneg (by omega)] at h1
  omega
theorem low_tmod (n : Int) : low n = if 2147483648 ≤ n.tmod 4294967296 then n.tmod 4294967296 - 4294967296 else if n.tmod 4294967296 < -2147483648 then n.tmod 4294967296 + 4294967296 else n.tmod 4294967296 := by
  unfold low
  by_cases h : 0 ≤ n
  · rw [tmod_pos h]
    split
    · omega
    · split <;> omega
  · rw [tmod_neg (by omega)]
    split
    · omega
    · split <;> omega
theorem tmod_range (n : Int) : -4294967296 < n.tmod 4294967296 ∧ n.tmod 4294967296 < 4294967296 := by
  by_cases h : 0 ≤ n
  · rw [tmod_pos h]; omega
  · rw [tmod_neg (by omega)]; omega

/-- The bits of a word, as a number from 0 on. -/
def un (n : Int) : Nat := (n % 4294967296).toNat
theorem un_lt (n : Int) : un n < 4294967296 := by unfold un; omega
theorem un_word {n : Int} (h : Word n) : (un n : Int) = if n < 0 then n + 4294967296 else n := by
  unfold Word at h
  unfold un
  split <;> omega
theorem low_un (n : Int) : low (un n : Int) = low n := by unfold low un; omega

/-- Two words of ones, bit by bit. -/
def bitop (op : Int) (x y : Nat) : Nat := if op = 11 then x &&& y else if op = 12 then x ||| y else x ^^^ y
theorem bitop_lt (op : Int) {x y : Nat} (hx : x < 4294967296) (hy : y < 4294967296) : bitop op x y < 4294967296 := by
  have e : (2 : Nat) ^ 32 = 4294967296 := rfl
  unfold bitop
  split
  · exact Nat.lt_of_le_of_lt Nat.and_le_left hx
  · split
    · rw [← e] at *; exact Nat.or_lt_two_pow hx hy
    · rw [← e] at *; exact Nat.xor_lt_two_pow hx hy
def bitAt (x k : Nat) : Nat := x / 2 ^ k % 2
theorem bitAt_lt (x k : Nat) : bitAt x k < 2 := Nat.mod_lt _ (by omega)
theorem bitAt_test (x k : Nat) : bitAt x k = if x.testBit k then 1 else 0 := by
  unfold bitAt
  rw [Nat.testBit_eq_decide_div_mod_eq]
  by_cases h : x / 2 ^ k % 2 = 1
  · simp [h]
  · have h0 : x / 2 ^ k % 2 = 0 := by omega
    simp [h0]
/-- Whether a bit of the two stands in what comes. -/
def joins (op : Int) (x y : Nat) : Prop := (op = 11 ∧ x + y = 2) ∨ (op = 12 ∧ 0 < x + y) ∨ (op = 13 ∧ x + y = 1)
instance (op : Int) (x y : Nat) : Decidable (joins op x y) := inferInstanceAs (Decidable ((op = 11 ∧ x + y = 2) ∨ (op = 12 ∧ 0 < x + y) ∨ (op = 13 ∧ x + y = 1)))
theorem bitop_at {op : Int} (hop : op = 11 ∨ op = 12 ∨ op = 13) (x y k : Nat) : bitAt (bitop op x y) k = if joins op (bitAt x k) (bitAt y k) then 1 else 0 := by
  rw [bitAt_test, bitAt_test x, bitAt_test y]
  unfold bitop joins
  rcases hop with rfl | rfl | rfl
  · simp only [if_true, Nat.testBit_and]
    cases x.testBit k <;> cases y.testBit k <;> simp
  · simp only [show ¬ ((12 : Int) = 11) from by decide, if_false, if_true, Nat.testBit_or]
    cases x.testBit k <;> cases y.testBit k <;> simp
  · simp only [show ¬ ((13 : Int) = 11) from by decide, show ¬ ((13 : Int) = 12) from by decide, if_false, Nat.testBit_xor]
    cases x.testBit k <;> cases y.testBit k <;> simp
theorem mod_succ (x k : Nat) : x % 2 ^ (k + 1) = x % 2 ^ k + 2 ^ k * bitAt x k := Nat.mod_pow_succ
theorem bitAt_succ (x k : Nat) : x / 2 ^ k / 2 = x / 2 ^ (k + 1) := by rw [Nat.div_div_eq_div_mul, Nat.pow_succ]

/-- A step up, and a step down. -/
theorem low_double (a : Int) (k : Nat) : low (2 * low (a * 2 ^ k)) = low (a * 2 ^ (k + 1)) := by
  rw [show a * 2 ^ (k + 1) = 2 * (a * 2 ^ k) from by rw [Int.pow_succ, ← Int.mul_assoc, Int.mul_comm]]
  generalize a * 2 ^ k = x
  unfold low
  omega
theorem half_step (a : Int) (k : Nat) : a / 2 ^ k / 2 = a / 2 ^ (k + 1) := by
  rw [Int.pow_succ, Int.ediv_ediv_of_nonneg]
  exact Int.le_of_lt (Int.pow_pos (by omega))
/-- Half, rounded down, by a division that is rounded towards 0. -/
theorem half_neg {a : Int} (h : a < 0) : (a - 1).tdiv 2 = a / 2 := by
  have h1 : (-(a - 1)).tdiv 2 = -((a - 1).tdiv 2) := Int.neg_tdiv _ _
  rw [Int.tdiv_eq_ediv_of_nonneg (by omega)] at h1
  omega
theorem half_pos {a : Int} (h : ¬ a < 0) : a.tdiv 2 = a / 2 := Int.tdiv_eq_ediv_of_nonneg (by omega)

theorem mul_bound {a b : Int} (ha : Word a) (hb : Word b) : -4611686018427387904 ≤ a * b ∧ a * b ≤ 4611686018427387904 := by
  unfold Word at ha hb
  have hm : (a * b).natAbs ≤ 2147483648 * 2147483648 := by
    rw [Int.natAbs_mul]
    exact Nat.mul_le_mul (by omega) (by omega)
  omega

/-- A number, or the fault that it is no word. -/
def ex (n : Int) : Int × Int := if Word n then (n, 0) else (0, 1)
/-- How far a word is moved. -/
def far (b : Int) : Nat := (b % 32).toNat
theorem far_lt (b : Int) : far b < 32 := by unfold far; omega
/-- What an operation makes of two words, and its fault. -/
def doW (op a b : Int) : Int × Int :=
  if op = 3 then ex (a + b) else if op = 4 then ex (a - b) else if op = 5 then ex (a * b)
  else if op = 6 then (if b = 0 then (0, 2) else ex (a.tdiv b)) else if op = 7 then (if b = 0 then (0, 2) else (a.tmod b, 0))
  else if op = 8 then ex (-a) else if op = 9 then (if a < b then (1, 0) else (0, 0)) else if op = 10 then (if a = b then (1, 0) else (0, 0))
  else if op = 11 ∨ op = 12 ∨ op = 13 then (low (bitop op (un a) (un b) : Nat), 0)
  else if op = 14 then (low (a * 2 ^ far b), 0) else if op = 15 then (a / 2 ^ far b, 0) else (0, 0)
theorem ex_word (n : Int) : Word (ex n).1 := by
  unfold ex
  split
  · assumption
  · unfold Word; omega
theorem tmod_word {a b : Int} (ha : Word a) : Word (a.tmod b) := by
  have h1 : (a.tmod b).natAbs ≤ a.natAbs := by
    rw [Int.natAbs_tmod]
    exact Nat.mod_le _ _
  have h2 : 0 ≤ a → 0 ≤ a.tmod b := fun h => Int.tmod_nonneg b h
  have h3 : a ≤ 0 → a.tmod b ≤ 0 := fun h => by
    have e : (-a).tmod b = -(a.tmod b) := Int.neg_tmod _ _
    have := Int.tmod_nonneg b (show 0 ≤ -a by omega)
    omega
  unfold Word at *
  omega
theorem down_word {a : Int} (ha : Word a) (k : Nat) : Word (a / 2 ^ k) := by
  have hp : (0 : Int) < 2 ^ k := Int.pow_pos (by omega)
  unfold Word at *
  constructor
  · refine (Int.le_ediv_iff_mul_le hp).2 ?_
    have h1 : (1 : Int) ≤ 2 ^ k := hp
    have h2 : -2147483648 * (2 : Int) ^ k ≤ -2147483648 * 1 := Int.mul_le_mul_of_nonpos_left (by omega) h1
    omega
  · by_cases h : 0 ≤ a
    · have := Int.ediv_le_self (2 ^ k) h
      omega
    · have := Int.ediv_neg_of_neg_of_pos (show a < 0 by omega) hp
      omega
theorem doW_word {a b : Int} (ha : Word a) (op : Int) : Word (doW op a b).1 := by
  have h0 : Word 0 := by unfold Word; omega
  have h1 : Word 1 := by unfold Word; omega
  unfold doW
  split
  · exact ex_word _
  split
  · exact ex_word _
  split
  · exact ex_word _
  split
  · split
    · exact h0
    · exact ex_word _
  split
  · split
    · exact h0
    · exact tmod_word ha
  split
  · exact ex_word _
  split
  · split
    · exact h1
    · exact h0
  split
  · split
    · exact h1
    · exact h0
  split
  · exact low_word _
  split
  · exact low_word _
  split
  · exact down_word ha _
  · exact h0
/-- The highest bits of a product. -/
def hi (a b : Int) : Int := a * b / 4294967296
theorem hi_word {a b : Int} (ha : Word a) (hb : Word b) : Word (hi a b) := by
  have h := mul_bound ha hb
  unfold Word hi
  generalize a * b = p at *
  omega
theorem hi_down {p : Int} : p / 4294967296 = if p.tmod 4294967296 < 0 then p.tdiv 4294967296 - 1 else p.tdiv 4294967296 := by
  by_cases h : 0 ≤ p
  · rw [tmod_pos h, Int.tdiv_eq_ediv_of_nonneg h]
    split <;> omega
  · rw [tmod_neg (by omega)]
    have h1 : (-p).tdiv 4294967296 = -(p.tdiv 4294967296) := Int.neg_tdiv _ _
    rw [Int.tdiv_eq_ediv_of_nonneg (by omega)] at h1
    split <;> omega
theorem hi_low (p : Int) : p = p / 4294967296 * 4294967296 + (if low p < 0 then low p + 4294967296 else low p) := by
  unfold low
  split <;> omega
end Go.Proofs.YtahejekcfgkiaaaDoor.word

/-
  What is wrong with an instruction, its bytes, and the instruction with which bytes begin: plain mathematics of lists and numbers, and that putting and getting undo each other. No condition but that operands are ints.
-/
namespace Go.Proofs.YtahejekcfgkiaaaDoor.inst
open Go.Proofs.YtahejekcfgkiaaaDoor.octet (St rdByte rdNum rdInt num zig zag num_back num_once zig_zag zag_zig zig_lt num_length_le dec enc_length_pos rdNum_ok rdByte_ok)
open Go.Proofs.YtahejekcfgkiaaaDoor.oper (fm txt)
open Go.Proofs.YtahejekcfgkiaaaDoor.word (Word)

/-- The letters of an operation's operands. -/
def form (o : Int) : List UInt8 := (txt fm o).data.toList
def most (c : UInt8) : Int := if c = 107 then 7 else if c = 116 then 199 else if c = 102 then 15 else if c = 106 then 4 else 31
def least (c : UInt8) : Int := if c = 106 then 1 else 0
/-- Is a number in the range of a letter? -/
def fitsB (c : UInt8) (v : Int) : Bool := if c = 110 then decide (Word v) else decide (least c ≤ v ∧ v ≤ most c)
def opd (a b : Int) (j : Nat) : Int := if j = 0 then a else b
def okAt (f : List UInt8) (a b : Int) (j : Nat) : Bool := fitsB (f.getD j 0) (opd a b j)
/-- What is wrong with the operands of an operation of this form. -/
def chkF (f : List UInt8) (a b : Int) : Nat :=
  if (List.range f.length).all (okAt f a b) = false then 1
  else if f = [106, 106] ∧ b < a then 1
  else if (List.range 2).all (fun j => decide (j < f.length) || (opd a b j == 0)) = false then 2 else 0
def Known (o : Int) : Prop := 0 ≤ o ∧ o ≤ 51
instance (o : Int) : Decidable (Known o) := by unfold Known; infer_instance
/-- What is wrong with an instruction. -/
def chk (o a b : Int) : Nat := if Known o then chkF (form o) a b else 6

theorem chkF_arg {f : List UInt8} {a b : Int} {j : Nat} (hj : j < f.length) (h : okAt f a b j = false) : chkF f a b = 1 := by
  unfold chkF
  rw [if_pos]
  cases hh : (List.range f.length).all (okAt f a b) with
  | false => rfl
  | true => rw [List.all_eq_true] at hh; rw [hh j (List.mem_range.2 hj)] at h; cases h
theorem all_ok {f : List UInt8} {a b : Int} (h : ∀ j, j < f.length → okAt f a b j = true) : (List.range f.length).all (okAt f a b) = true := by
  rw [List.all_eq_true]
  exact fun j hj => h j (List.mem_range.1 hj)
theorem chkF_two {f : List UInt8} {a b : Int} (h : ∀ j, j < f.length → okAt f a b j = true) (hf : f = [106, 106]) (hab : b < a) : chkF f a b = 1 := by
  unfold chkF
  rw [all_ok h, if_neg (by decide), if_pos ⟨hf, hab⟩]
theorem chkF_form {f : List UInt8} {a b : Int} (h : ∀ j, j < f.length → okAt f a b j = true) (h2 : ¬ (f = [106, 106] ∧ b < a)) {j : Nat} (hj : f.length ≤ j) (hj2 : j < 2) (hv : opd a b j ≠ 0) : chkF f a b = 2 := by
  unfold chkF
  rw [all_ok h, if_neg (by decide), if_neg h2, if_pos]
  cases hh : (List.range 2).all (fun j => decide (j < f.length) || (opd a b j == 0)) with
  | false => rfl
  | true =>
    rw [List.all_eq_true] at hh
    have := hh j (List.mem_range.2 hj2)
    simp only [Bool.or_eq_true, decide_eq_true_iff, beq_iff_eq] at this
    rcases this with h | h
    · omega
    · exact absurd h hv
theorem chkF_fine {f : List UInt8} {a b : Int} (h : ∀ j, j < f.length → okAt f a b j = true) (h2 : ¬ (f = [106, 106] ∧ b < a)) (h3 : ∀ j, f.length ≤ j → j < 2 → opd a b j = 0) : chkF f a b = 0 := by
  unfold chkF
  rw [all_ok h, if_neg (by decide), if_neg h2, if_neg]
  rw [Bool.not_eq_false, List.all_eq_true]
  intro j hj
  rcases Nat.lt_or_ge j f.length with hl | hl
  · simp [hl]
  · simp [h3 j hl (List.mem_range.1 hj)]
theorem chkF_zero {f : List UInt8} {a b : Int} (h : chkF f a b = 0) : (∀ j, j < f.length → okAt f a b j = true) ∧ ¬ (f = [106, 106] ∧ b < a) ∧ ∀ j, f.length ≤ j → j < 2 → opd a b j = 0 := by
  have h1 : ∀ j, j < f.length → okAt f a b j = true := fun j hj => by
    cases hh : okAt f a b j with
    | true => rfl
    | false => rw [chkF_arg hj hh] at h; cases h
  have h2 : ¬ (f = [106, 106] ∧ b < a) := fun ⟨hf, hab⟩ => by rw [chkF_two h1 hf hab] at h; cases h
  refine ⟨h1, h2, fun j hj hj2 => ?_⟩
  by_cases hv : opd a b j = 0
  · exact hv
  · rw [chkF_form h1 h2 hj hj2 hv] at h; cases h
theorem chkF_le (f : List UInt8) (a b : Int) : chkF f a b ≤ 2 := by unfold chkF; split; omega; split; omega; split <;> omega
theorem chk_le (o a b : Int) : chk o a b ≤ 6 := by
  unfold chk
  split
  · have := chkF_le (form o) a b; omega
  · omega

theorem forms2 : ∀ k, k < 52 → (fm.getD k ⟨#[]⟩).data.toList.length ≤ 2 := by decide +kernel
theorem form_at {k : Nat} (h : k < 52) : form (k : Int) = (fm.getD k ⟨#[]⟩).data.toList := by
  unfold form txt
  rw [if_pos (by omega), Int.toNat_natCast]
theorem form_le (o : Int) : (form o).length ≤ 2 := by
  by_cases h : 0 ≤ o ∧ o ≤ 51
  · have := forms2 o.toNat (by omega)
    have e := form_at (k := o.toNat) (by omega)
    rw [show ((o.toNat : Nat) : Int) = o from by omega] at e
    rw [e]; exact this
  · unfold form txt
    rw [if_neg h]
    exact Nat.zero_le _

/-- The bytes of an operand. -/
def piece (c : UInt8) (v : Int) : List UInt8 := if c = 110 then num (zig v) else num v.toNat
/-- The bytes of the first j operands. -/
def pieces (f : List UInt8) (a b : Int) : Nat → List UInt8
  | 0 => []
  | j + 1 => pieces f a b j ++ piece (f.getD j 0) (opd a b j)
def encI (o a b : Int) : List UInt8 := UInt8.ofNat o.toNat :: pieces (form o) a b (form o).length
theorem piece_le (c : UInt8) (v : Int) : (piece c v).length ≤ 10 := by unfold piece; split <;> exact num_length_le _
theorem pieces_le (f : List UInt8) (a b : Int) : ∀ j, (pieces f a b j).length ≤ 10 * j := by
  intro j
  induction j with
  | zero => simp [pieces]
  | succ j ih =>
    have := piece_le (f.getD j 0) (opd a b j)
    simp only [pieces, List.length_append]
    omega
theorem encI_le (o a b : Int) : (encI o a b).length ≤ 21 := by
  have h1 := pieces_le (form o) a b (form o).length
  have h2 := form_le o
  simp only [encI, List.length_cons]
  omega

/-- An operand that is read: its number, and what is left. -/
def rdOpd (c : UInt8) (s : St) : Int × St := if c = 110 then rdInt s else (((min (rdNum s).1 2147483648 : Nat) : Int), (rdNum s).2)
/-- What the first j operands are read as, and what is left. -/
def rdOpds (f : List UInt8) (s : St) : Nat → List Int × St
  | 0 => ([], s)
  | j + 1 => ((rdOpds f s j).1 ++ [(rdOpd (f.getD j 0) (rdOpds f s j).2).1], (rdOpd (f.getD j 0) (rdOpds f s j).2).2)
structure Got where
  o : Int
  a : Int
  b : Int
  n : Nat
  e : Nat
def Got.bad (e : Nat) : Got := ⟨0, 0, 0, 0, e⟩
/-- What bytes begin with. -/
def getI (l : List UInt8) : Got :=
  let b := rdByte ⟨l, 0⟩
  if b.2.err ≠ 0 then .bad b.2.err
  else if 51 < b.1 then .bad 6
  else
    let r := rdOpds (form b.1) b.2 (form b.1).length
    if r.2.err ≠ 0 then .bad r.2.err
    else if chk b.1 (r.1.getD 0 0) (r.1.getD 1 0) ≠ 0 then .bad (chk b.1 (r.1.getD 0 0) (r.1.getD 1 0))
    else ⟨b.1, r.1.getD 0 0, r.1.getD 1 0, l.length - r.2.rest.length, 0⟩

theorem rdOpd_err {c : UInt8} {s : St} (h : s.err ≠ 0) : (rdOpd c s).2 = s := by
  unfold rdOpd rdInt rdNum
  rw [if_pos h]
  split <;> rfl
theorem rdOpds_length (f : List UInt8) (s : St) (j : Nat) : (rdOpds f s j).1.length = j := by
  induction j with
  | zero => rfl
  | succ j ih => simp [rdOpds, ih]
theorem rdOpds_err {f : List UInt8} {s : St} {j : Nat} (h : (rdOpds f s j).2.err ≠ 0) : ∀ k, j ≤ k → (rdOpds f s k).2 = (rdOpds f s j).2 := by
  intro k hk
  induction k with
  | zero =>
    obtain rfl : j = 0 := by omega
    rfl
  | succ k ih =>
    rcases Nat.eq_or_lt_of_le hk with e | e
    · subst e; rfl
    · have := ih (by omega)
      simp only [rdOpds]
      rw [this, rdOpd_err h]

/-- What was put of an operand is read again. -/
theorem rdOpd_back {c : UInt8} {v : Int} (h : fitsB c v = true) (more : List UInt8) : rdOpd c ⟨piece c v ++ more, 0⟩ = (v, ⟨more, 0⟩) := by
  unfold rdOpd piece
  unfold fitsB at h
  by_cases hc : c = 110
  · rw [if_pos hc] at h
    rw [if_pos hc, if_pos hc]
    have hw : Word v := by simpa using h
    unfold Word at hw
    have hz := num_back (zig_lt (n := v) (by omega) (by omega)) more
    unfold rdInt rdNum
    simp only [ne_eq, not_true_eq_false, if_false, hz, zag_zig]
  · rw [if_neg hc] at h
    rw [if_neg hc, if_neg hc]
    have hw : least c ≤ v ∧ v ≤ most c := by simpa using h
    have h0 : 0 ≤ least c := by unfold least; split <;> omega
    have h1 : most c ≤ 199 := by unfold most; split; omega; split; omega; split; omega; split <;> omega
    have hz := num_back (n := v.toNat) (by omega) more
    unfold rdNum
    simp only [ne_eq, not_true_eq_false, if_false, hz]
    congr 1
    omega
/-- What is read of an operand, put again, is just what was read. -/
theorem rdOpd_once {c : UInt8} {l : List UInt8} {v : Int} {s : St} (h : rdOpd c ⟨l, 0⟩ = (v, s)) (he : s.err = 0) (hf : fitsB c v = true) : l = piece c v ++ s.rest := by
  unfold rdOpd at h
  unfold fitsB at hf
  unfold piece
  by_cases hc : c = 110
  · rw [if_pos hc] at h ⊢
    unfold rdInt rdNum at h
    simp only [ne_eq, not_true_eq_false, if_false, Prod.mk.injEq] at h
    obtain ⟨h1, h2⟩ := h
    have := num_once (l := l) (v := (dec l 0 0).1) (rest := (dec l 0 0).2.1) (Prod.ext rfl (Prod.ext rfl (by rw [← h2] at he; exact he)))
    rw [← h1, zig_zag, ← h2]
    exact this.1
  · rw [if_neg hc] at h hf ⊢
    unfold rdNum at h
    simp only [ne_eq, not_true_eq_false, if_false, Prod.mk.injEq] at h
    obtain ⟨h1, h2⟩ := h
    have hw : least c ≤ v ∧ v ≤ most c := by simpa using hf
    have hm : most c ≤ 199 := by unfold most; split; omega; split; omega; split; omega; split <;> omega
    have := num_once (l := l) (v := (dec l 0 0).1) (rest := (dec l 0 0).2.1) (Prod.ext rfl (Prod.ext rfl (by rw [← h2] at he; exact he)))
    have e : v.toNat = (dec l 0 0).1 := by omega
    rw [e, ← h2]
    exact this.1

theorem getD_left {α : Type} {l r : List α} {d : α} {i : Nat} (h : i < l.length) : (l ++ r).getD i d = l.getD i d := by
  rw [List.getD_eq_getElem?_getD, List.getD_eq_getElem?_getD, List.getElem?_append_left h]
theorem getD_last {α : Type} {l : List α} {x d : α} {i : Nat} (h : l.length = i) : (l ++ [x]).getD i d = x := by
  subst h
  rw [List.getD_eq_getElem?_getD, List.getElem?_append_right (Nat.le_refl _), Nat.sub_self]
  rfl
theorem opds_back {f : List UInt8} {a b : Int} : ∀ j, (∀ i, i < j → okAt f a b i = true) → ∀ more, rdOpds f ⟨pieces f a b j ++ more, 0⟩ j = ((List.range j).map (opd a b), ⟨more, 0⟩) := by
  intro j
  induction j with
  | zero => intro _ more; rfl
  | succ j ih =>
    intro h more
    have h1 := ih (fun i hi => h i (by omega)) (piece (f.getD j 0) (opd a b j) ++ more)
    simp only [pieces, List.append_assoc, rdOpds]
    rw [h1]
    have h2 := rdOpd_back (h j (by omega)) more
    rw [h2, List.range_succ, List.map_append]
    rfl
theorem opds_once {f : List UInt8} : ∀ j (l : List UInt8), (rdOpds f ⟨l, 0⟩ j).2.err = 0 → ∀ a b : Int, (∀ i, i < j → (rdOpds f ⟨l, 0⟩ j).1.getD i 0 = opd a b i) → (∀ i, i < j → okAt f a b i = true) → l = pieces f a b j ++ (rdOpds f ⟨l, 0⟩ j).2.rest := by
  intro j
  induction j with
  | zero => intro l _ a b _ _; simp [pieces, rdOpds]
  | succ j ih =>
    intro l he a b hv hok
    have he' : (rdOpds f ⟨l, 0⟩ j).2.err = 0 := by
      rcases Nat.eq_zero_or_pos (rdOpds f ⟨l, 0⟩ j).2.err with h | h
      · exact h
      · have := rdOpds_err (f := f) (s := ⟨l, 0⟩) (j := j) (by omega) (j + 1) (by omega)
        rw [this] at he; omega
    have hlen := rdOpds_length f ⟨l, 0⟩ j
    have h1 := ih l he' a b (fun i hi => by
      have := hv i (by omega)
      simp only [rdOpds] at this
      rwa [getD_left (by omega)] at this) (fun i hi => hok i (by omega))
    have hj := hv j (by omega)
    simp only [rdOpds] at hj he ⊢
    rw [getD_last hlen] at hj
    generalize (rdOpds f ⟨l, 0⟩ j).2 = S at *
    obtain ⟨R, E⟩ := S
    dsimp only at he'
    subst he'
    have h2 := rdOpd_once (c := f.getD j 0) (l := R) (v := opd a b j) (s := (rdOpd (f.getD j 0) ⟨R, 0⟩).2) (Prod.ext hj rfl) he (hok j (by omega))
    dsimp only at h1
    simp only [pieces, List.append_assoc]
    rw [← h2]
    exact h1

theorem chk_zero {o a b : Int} (h : chk o a b = 0) : Known o ∧ chkF (form o) a b = 0 := by
  unfold chk at h
  split at h
  · exact ⟨‹_›, h⟩
  · cases h
theorem back {o a b : Int} (h : chk o a b = 0) (more : List UInt8) : getI (encI o a b ++ more) = ⟨o, a, b, (encI o a b).length, 0⟩ := by
  obtain ⟨hk, hf⟩ := chk_zero h
  obtain ⟨h1, h2, h3⟩ := chkF_zero hf
  unfold Known at hk
  have hb : rdByte ⟨encI o a b ++ more, 0⟩ = (o.toNat, ⟨pieces (form o) a b (form o).length ++ more, 0⟩) := by
    unfold rdByte encI
    simp only [ne_eq, not_true_eq_false, if_false, List.cons_append]
    congr 1
    rw [UInt8.toNat_ofNat']
    omega
  have ho : ((o.toNat : Nat) : Int) = o := by omega
  have hr := opds_back (f := form o) (a := a) (b := b) (form o).length h1 more
  have hl := form_le o
  have ha : ((List.range (form o).length).map (opd a b)).getD 0 0 = a := by
    rcases Nat.lt_or_ge 0 (form o).length with hh | hh
    · rw [List.getD_eq_getElem?_getD, List.getElem?_map, List.getElem?_range hh]; rfl
    · have := h3 0 hh (by omega)
      rw [List.getD_eq_getElem?_getD, List.getElem?_eq_none (by simpa using hh)]
      exact this.symm
  have hb' : ((List.range (form o).length).map (opd a b)).getD 1 0 = b := by
    rcases Nat.lt_or_ge 1 (form o).length with hh | hh
    · rw [List.getD_eq_getElem?_getD, List.getElem?_map, List.getElem?_range hh]; rfl
    · have := h3 1 hh (by omega)
      rw [List.getD_eq_getElem?_getD, List.getElem?_eq_none (by simpa using hh)]
      exact this.symm
  unfold getI
  simp only [hb, ho, hr, ha, hb', h, ne_eq, not_true_eq_false, if_false]
  rw [if_neg (by omega)]
  congr 1
  simp
theorem got_bad {l : List UInt8} (h : (getI l).e ≠ 0) : getI l = .bad (getI l).e := by
  unfold getI at h ⊢
  dsimp only at h ⊢
  split
  · rfl
  · split
    · rfl
    · split
      · rfl
      · split
        · rfl
        · rename_i h1 h2 h3 h4
          rw [if_neg h1, if_neg h2, if_neg h3, if_neg h4] at h
          exact absurd rfl h
theorem once {l : List UInt8} (h : (getI l).e = 0) : chk (getI l).o (getI l).a (getI l).b = 0 ∧ 0 < (getI l).n ∧ (getI l).n ≤ l.length ∧ encI (getI l).o (getI l).a (getI l).b = l.take (getI l).n := by
  unfold getI at h ⊢
  dsimp only at h ⊢
  by_cases h1 : (rdByte ⟨l, 0⟩).2.err ≠ 0
  · rw [if_pos h1] at h; exact absurd h h1
  · rw [if_neg h1] at h ⊢
    by_cases h2 : 51 < (rdByte ⟨l, 0⟩).1
    · rw [if_pos h2] at h; cases h
    · rw [if_neg h2] at h ⊢
      obtain ⟨x, r, rfl⟩ : ∃ x r, l = x :: r := by
        cases l with
        | nil => exact absurd (show (rdByte ⟨[], 0⟩).2.err ≠ 0 by decide) h1
        | cons x r => exact ⟨x, r, rfl⟩
      have hb : rdByte ⟨x :: r, 0⟩ = (x.toNat, ⟨r, 0⟩) := rfl
      rw [hb] at h h2 ⊢
      dsimp only at h h2 ⊢
      have hk : Known (x.toNat : Int) := by unfold Known; omega
      by_cases h3 : (rdOpds (form (x.toNat : Int)) ⟨r, 0⟩ (form (x.toNat : Int)).length).2.err ≠ 0
      · rw [if_pos h3] at h; exact absurd h h3
      · rw [if_neg h3] at h ⊢
        by_cases h4 : chk (x.toNat : Int) ((rdOpds (form (x.toNat : Int)) ⟨r, 0⟩ (form (x.toNat : Int)).length).1.getD 0 0) ((rdOpds (form (x.toNat : Int)) ⟨r, 0⟩ (form (x.toNat : Int)).length).1.getD 1 0) ≠ 0
        · rw [if_pos h4] at h; exact absurd h h4
        · rw [if_neg h4]
          dsimp only
          have h4' : chk (x.toNat : Int) ((rdOpds (form (x.toNat : Int)) ⟨r, 0⟩ (form (x.toNat : Int)).length).1.getD 0 0) ((rdOpds (form (x.toNat : Int)) ⟨r, 0⟩ (form (x.toNat : Int)).length).1.getD 1 0) = 0 := by omega
          have hok := (chkF_zero (chk_zero h4').2).1
          have hl := form_le (x.toNat : Int)
          have hr := opds_once (f := form (x.toNat : Int)) (form (x.toNat : Int)).length r (by omega) _ _ (fun i hi => by
            unfold opd
            split
            · subst_vars; rfl
            · obtain rfl : i = 1 := by omega
              rfl) hok
          have henc : x :: r = encI (x.toNat : Int) ((rdOpds (form (x.toNat : Int)) ⟨r, 0⟩ (form (x.toNat : Int)).length).1.getD 0 0) ((rdOpds (form (x.toNat : Int)) ⟨r, 0⟩ (form (x.toNat : Int)).length).1.getD 1 0) ++ (rdOpds (form (x.toNat : Int)) ⟨r, 0⟩ (form (x.toNat : Int)).length).2.rest := by
            unfold encI
            rw [List.cons_append, ← hr]
            congr 1
            rw [Int.toNat_natCast, UInt8.ofNat_toNat]
          have hlen := congrArg List.length henc
          rw [List.length_append] at hlen
          have hpos : 0 < (encI (x.toNat : Int) ((rdOpds (form (x.toNat : Int)) ⟨r, 0⟩ (form (x.toNat : Int)).length).1.getD 0 0) ((rdOpds (form (x.toNat : Int)) ⟨r, 0⟩ (form (x.toNat : Int)).length).1.getD 1 0)).length := by unfold encI; simp
          refine ⟨h4', by omega, by omega, ?_⟩
          generalize encI (x.toNat : Int) _ _ = E at *
          generalize (rdOpds (form (x.toNat : Int)) ⟨r, 0⟩ (form (x.toNat : Int)).length).2.rest = R at *
          rw [henc, show (E ++ R).length - R.length = E.length from by simp, List.take_left']
          rfl
end Go.Proofs.YtahejekcfgkiaaaDoor.inst

/-
  The program's own calls on operations: which numbers are one, its form, what is laid, and whether the next one follows. No condition.
-/
namespace Go.Proofs.YtahejekcfgkiaaaDoor.oper
open Go.RowKit Go.ChangeShapes

theorem ret_int {k : IntKind} {a b : Int} (h : a = b) : Ending.returned (.int k a) = .returned (.int k b) := by rw [h]
theorem ret_bool {a b : Bool} (h : a = b) : Ending.returned (.bool a) = .returned (.bool b) := by rw [h]
theorem ret_string {a b : ByteArray} (h : a = b) : Ending.returned (.string a) = .returned (.string b) := by rw [h]

theorem known_yes (n : Int) (h0 : 0 ≤ n) (h1 : n ≤ 51) (w : World) : Calls Tryd.prog 85 #[.int .i64 n] w fun e w' => e = .returned (.bool true) ∧ w = w' := by
  have h2 : n < 52 := by omega
  go_enter Tryd.func85, Tryd.ntmps85
  go_wp2
  go_ret
  exact ⟨rfl, rfl⟩
theorem known_no (n : Int) (h : n < 0 ∨ 51 < n) (w : World) : Calls Tryd.prog 85 #[.int .i64 n] w fun e w' => e = .returned (.bool false) ∧ w = w' := by
  by_cases h0 : 0 ≤ n
  · have h1 : ¬ n < 52 := by omega
    have hd : decide (n < 52) = false := by simpa using h1
    go_enter Tryd.func85, Tryd.ntmps85
    go_wp2
    go_ret
    exact ⟨rfl, rfl⟩
  · have hd : decide (0 ≤ n) = false := by simpa using h0
    go_enter Tryd.func85, Tryd.ntmps85
    go_wp2
    go_ret
    exact ⟨rfl, rfl⟩

def fmL : List Int := [0, 1, 2, 18, 19, 20, 40, 26, 27, 29, 30, 31, 32, 33, 34, 35, 36, 37, 38, 39, 41, 42, 45, 46, 49, 50, 51]
def lyL : List Int := [2, 17, 18, 19, 21, 25, 16, 45]
theorem nat_of {n : Int} (h : 0 ≤ n ∧ n ≤ 51) : ∃ k : Nat, k < 52 ∧ n = (k : Int) := ⟨n.toNat, by omega, by omega⟩
theorem txt_at {l : List ByteArray} {k : Nat} (h : k < 52) : txt l (k : Int) = l.getD k ⟨#[]⟩ := by
  unfold txt
  rw [if_pos (by omega), Int.toNat_natCast]
theorem numb_at {l : List Int} {k : Nat} (h : k < 52) : numb l (k : Int) = l.getD k 0 := by
  unfold numb
  rw [if_pos (by omega), Int.toNat_natCast]
theorem txt_no {l : List ByteArray} {n : Int} (h : n < 0 ∨ 51 < n) : txt l n = ⟨#[]⟩ := by
  unfold txt
  rw [if_neg (by omega)]
theorem numb_no {l : List Int} {n : Int} (h : n < 0 ∨ 51 < n) : numb l n = 0 := by
  unfold numb
  rw [if_neg (by omega)]
theorem fm_rest : ∀ k : Nat, k < 52 → (fmL.all fun j => !((k : Int) == j)) = true → fm.getD k ⟨#[]⟩ = ⟨#[]⟩ := by decide +kernel
theorem fm_other (n : Int) (h : (fmL.all fun j => !(n == j)) = true) : txt fm n = ⟨#[]⟩ := by
  by_cases hk : 0 ≤ n ∧ n ≤ 51
  · obtain ⟨k, hk', rfl⟩ := nat_of hk
    rw [txt_at hk']
    exact fm_rest k hk' h
  · exact txt_no (by omega)
theorem ly_rest : ∀ k : Nat, k < 52 → (lyL.all fun j => !((k : Int) == j)) = true → ly.getD k 0 = 1 := by decide +kernel
theorem ly_other (n : Int) (h0 : 0 ≤ n) (h1 : n ≤ 51) (h : (lyL.all fun j => !(n == j)) = true) : numb ly n = 1 := by
  obtain ⟨k, hk, rfl⟩ := nat_of ⟨h0, h1⟩
  rw [numb_at hk]
  exact ly_rest k hk h

set_option maxHeartbeats 1000000 in
theorem form_any (n : Int) (w : World) : Calls Tryd.prog 46 #[.int .i64 n] w fun e w' => e = .returned (.string (txt fm n)) ∧ w = w' := by
  go_enter Tryd.func46, Tryd.ntmps46
  go_wp2
  all_goals go_ret
  all_goals refine ⟨ret_string ?_, rfl⟩
  all_goals first
    | (have hq := eq_of_beq ‹(n == _) = true›; subst hq; rfl)
    | (rw [fm_other n (by simp only [fmL, List.all_cons, List.all_nil, Bool.not_false, Bool.and_self, *])])

/-- Whether the next instruction follows. -/
def goesB (n : Int) : Bool := decide (0 ≤ n ∧ n ≤ 51 ∧ n ≠ 18 ∧ n ≠ 21)
end Go.Proofs.YtahejekcfgkiaaaDoor.oper

/-
  The program's table of names lies where its initialiser lays it; with that: an operation's name, and the operation of a name. The card ties the table to the program's text.
-/
namespace Go.Proofs.YtahejekcfgkiaaaDoor.oper
open Go.RowKit Go.ChangeShapes

/-- The table of names lies where its initialiser lays it. -/
def Tab (w : World) : Prop := ∀ j, j < 52 → w.cell? ⟨2, j, none⟩ = some (.string (nm.getD j ⟨#[]⟩))
theorem Tab.below {B : Nat} {w w' : World} (h : Tab w) (hb : Below B w w') (hB : 2 < B) : Tab w' := fun j hj => (hb.cell (p := ⟨2, j, none⟩) hB).trans (h j hj)
theorem Tab.cell {w w' : World} (h : Tab w) (hc : ∀ p, w'.cell? p = w.cell? p) : Tab w' := fun j hj => (hc _).trans (h j hj)

theorem name_yes (k : Nat) (hk : k < 52) (w : World) (hT : Tab w) : Calls Tryd.prog 76 #[.int .i64 (k : Int)] w fun e w' => e = .returned (.string (nm.getD k ⟨#[]⟩)) ∧ w = w' := by
  have hc := hT k hk
  have H := Lib.hid (known_yes k (by omega) (by omega) w)
  have h1 : (k : Int) < 52 := by omega
  clear hT
  generalize nm.getD k ⟨#[]⟩ = x at *
  go_enter Tryd.func76, Tryd.ntmps76
  go_wp2_with fail
  refine H.out.mono ?_
  rintro e w' ⟨rfl, rfl⟩
  go_wp2
  go_ret
  exact ⟨rfl, rfl⟩
theorem name_no (n : Int) (h : n < 0 ∨ 51 < n) (w : World) : Calls Tryd.prog 76 #[.int .i64 n] w fun e w' => e = .returned (.string ⟨#[]⟩) ∧ w = w' := by
  have H := Lib.hid (known_no n h w)
  clear h
  go_enter Tryd.func76, Tryd.ntmps76
  go_wp2_with fail
  refine H.out.mono ?_
  rintro e w' ⟨rfl, rfl⟩
  go_wp2
  go_ret
  exact ⟨rfl, rfl⟩
theorem name_any (n : Int) (w : World) (hT : Tab w) : Calls Tryd.prog 76 #[.int .i64 n] w fun e w' => e = .returned (.string (txt nm n)) ∧ w = w' := by
  by_cases h : 0 ≤ n ∧ n ≤ 51
  · obtain ⟨k, hk, rfl⟩ := nat_of h
    rw [txt_at hk]
    exact name_yes k hk w hT
  · rw [txt_no (by omega)]
    exact name_no n (by omega) w

/-- What Of answers of a name: the operation, and whether there is one. -/
def ofK (s : ByteArray) : Int := if idx s < 52 then idx s else 0
def ofB (s : ByteArray) : Bool := decide (idx s < 52)
def OfPost (s : ByteArray) (w : World) (e : Ending) (w' : World) : Prop := e = .returned (.tuple #[.int .i64 (ofK s), .bool (ofB s)]) ∧ w = w'

end Go.Proofs.YtahejekcfgkiaaaDoor.oper

/-
  The document's own answers of operations, each by itself: its tables, which numbers are operations, the operation of a name, form, what is taken and laid. No condition but that an operand is not the greatest number.
-/
namespace Go.Proofs.YtahejekcfgkiaaaDoor.oper
open Go.RowKit Go.ChangeShapes
set_option linter.unusedVariables false

theorem row_cell {α : Type} (f : α → Value) (l : List α) (d : α) (T : TypeId) (w : World) {j : Nat} (hj : j < l.length) : (w.alloc (.cells (l.map f).toArray T)).cell? ⟨w.heap.size, j, none⟩ = some (f (l.getD j d)) := by
  have hb : (w.alloc (.cells (l.map f).toArray T)).heap[w.heap.size]? = some (.cells (l.map f).toArray T) := heap_alloc_new w _
  unfold World.cell?
  rw [hb]
  simp [List.getElem?_eq_getElem hj]

def nmBlock : Obj := .cells (nm.map fun x => .string x).toArray 9
theorem nmBlock_cell (w : World) {j : Nat} (hj : j < 52) : (w.alloc nmBlock).cell? ⟨w.heap.size, j, none⟩ = some (.string (nm.getD j ⟨#[]⟩)) :=
  row_cell (fun x => .string x) nm ⟨#[]⟩ 9 w hj

def fmBlock : Obj := .cells (fm.map fun x => .string x).toArray 9
theorem fmBlock_cell (w : World) {j : Nat} (hj : j < 52) : (w.alloc fmBlock).cell? ⟨w.heap.size, j, none⟩ = some (.string (fm.getD j ⟨#[]⟩)) :=
  row_cell (fun x => .string x) fm ⟨#[]⟩ 9 w hj

def tkBlock : Obj := .cells (tk.map fun x => .int .i64 x).toArray 3
theorem tkBlock_cell (w : World) {j : Nat} (hj : j < 52) : (w.alloc tkBlock).cell? ⟨w.heap.size, j, none⟩ = some (.int .i64 (tk.getD j 0)) :=
  row_cell (fun x => .int .i64 x) tk 0 3 w hj

def lyBlock : Obj := .cells (ly.map fun x => .int .i64 x).toArray 3
theorem lyBlock_cell (w : World) {j : Nat} (hj : j < 52) : (w.alloc lyBlock).cell? ⟨w.heap.size, j, none⟩ = some (.int .i64 (ly.getD j 0)) :=
  row_cell (fun x => .int .i64 x) ly 0 3 w hj

/-- The operation of a name, or -1. -/
def refI (s : ByteArray) : Int := if idx s < 52 then idx s else -1
end Go.Proofs.YtahejekcfgkiaaaDoor.oper

/-
  The document's own answers of words, each by itself: the word of the lowest bits, which numbers are words, a bit, two words bit by bit, a word that is moved, and what an operation comes to. No condition.
-/
namespace Go.Proofs.YtahejekcfgkiaaaDoor.word
open Go.RowKit Go.ChangeShapes

theorem ret_int {k : IntKind} {a b : Int} (h : a = b) : Ending.returned (.int k a) = .returned (.int k b) := by rw [h]
theorem ret_bool {a b : Bool} (h : a = b) : Ending.returned (.bool a) = .returned (.bool b) := by rw [h]

/-- Two numbers, as a call tells them. -/
def two (p : Int × Int) : Value := .tuple #[.int .i64 p.1, .int .i64 p.2]

end Go.Proofs.YtahejekcfgkiaaaDoor.word

/-
  The document's own answer of what is wrong with an instruction. No condition.
-/
namespace Go.Proofs.YtahejekcfgkiaaaDoor.inst
open Go.RowKit Go.ChangeShapes
open Go.Proofs.YtahejekcfgkiaaaDoor.oper (ret_int ret_bool ret_string)
open Go.Proofs.YtahejekcfgkiaaaDoor.word (Word)
set_option linter.unusedVariables false

theorem u8_ne {c d : UInt8} (h : c ≠ d) : ((c.toNat : Int) == (d.toNat : Int)) = false ∧ ((c.toNat : Int) != (d.toNat : Int)) = true := by
  have : c.toNat ≠ d.toNat := fun e => h (UInt8.toNat_inj.1 e)
  constructor <;> simp <;> omega
/-- An instruction stands at a place of its own, and its operands in a list of their own. -/
structure Stand (w : World) (o a b : Int) (g : Nat) (W : World) : Prop where
  below : Below w.heap.size w W
  size : w.heap.size < W.heap.size
  c0 : W.cell? ⟨w.heap.size, 0, none⟩ = some (.int .i64 o)
  c1 : W.cell? ⟨w.heap.size, 1, none⟩ = some (.int .i64 a)
  c2 : W.cell? ⟨w.heap.size, 2, none⟩ = some (.int .i64 b)
  s0 : W.cell? ⟨g, 0, none⟩ = some (.int .i64 a)
  s1 : W.cell? ⟨g, 1, none⟩ = some (.int .i64 b)
theorem below_drewN {B : Nat} {a w : World} (h : Below B a w) : ∀ n, Below B a (w.drewN n)
  | 0 => h
  | n + 1 => (below_drewN h n).drew
theorem Stand.drewN {w W : World} {o a b : Int} {g : Nat} (h : Stand w o a b g W) (n : Nat) : Stand w o a b g (W.drewN n) := ⟨below_drewN h.below n, by simpa using h.size, by simpa using h.c0, by simpa using h.c1, by simpa using h.c2, by simpa using h.s0, by simpa using h.s1⟩
theorem Stand.at {w W : World} {o a b : Int} {g : Nat} (h : Stand w o a b g W) {j : Nat} (hj : j < 2) : W.cell? ⟨g, j, none⟩ = some (.int .i64 (opd a b j)) := by
  match j, hj with
  | 0, _ => exact h.s0
  | 1, _ => exact h.s1

theorem letter_at {y : ByteArray} {j : Nat} (h : j < y.size) : y[j] = y.data.toList.getD j 0 := by
  rw [List.getD_eq_getElem?_getD, List.getElem?_eq_getElem (by rw [Array.length_toList]; exact h), Option.getD_some, Array.getElem_toList]
  rfl
theorem size_list (y : ByteArray) : y.size = y.data.toList.length := by rw [Array.length_toList]; rfl
/-- The form's text and the list of both operands, made. -/
def Forms (w : World) (o a b : Int) (y : ByteArray) (t l : Value) (wx : World) : Prop := t = .string y ∧ ∃ g : Nat, l = .slice (some ⟨g, 0, none⟩) 2 2 ∧ Stand w o a b g wx
def insBox (o a b : Int) : Obj := .cells #[.int .i64 o, .int .i64 a, .int .i64 b] 48

def opdBox (a b : Int) : Obj := .cells #[.int .i64 a, .int .i64 b] 3
theorem stand_late {w w1 : World} {o a b : Int} (hX : Below (w.alloc (insBox o a b)).heap.size (w.alloc (insBox o a b)) w1) : Stand w o a b w1.heap.size (w1.alloc (opdBox a b)) := by
  have h0 : (w.alloc (insBox o a b)).heap[w.heap.size]? = some (insBox o a b) := heap_alloc_new w _
  have hz : (w.alloc (insBox o a b)).heap.size = w.heap.size + 1 := World.size_alloc w _
  have hs := hX.size
  have h1 : (w1.alloc (opdBox a b)).heap[w1.heap.size]? = some (opdBox a b) := heap_alloc_new w1 _
  have hb : Below (w.alloc (insBox o a b)).heap.size (w.alloc (insBox o a b)) (w1.alloc (opdBox a b)) := hX.alloc hs _
  have h2 : (w1.alloc (opdBox a b)).heap[w.heap.size]? = some (insBox o a b) := (hb.block _ (by omega)).trans h0
  refine ⟨((Below.refl _ w).alloc (Nat.le_refl _) _).trans (hb.mono (by omega)), by rw [World.size_alloc]; omega, ?_, ?_, ?_, ?_, ?_⟩
  all_goals
    unfold World.cell?
    first | rw [h2] | rw [h1]
    rfl
theorem stand_early {w w1 : World} {o a b : Int} (hX : Below ((w.alloc (insBox o a b)).alloc (opdBox a b)).heap.size ((w.alloc (insBox o a b)).alloc (opdBox a b)) w1) : Stand w o a b (w.heap.size + 1) w1 := by
  have hz : (w.alloc (insBox o a b)).heap.size = w.heap.size + 1 := World.size_alloc w _
  have hz' : ((w.alloc (insBox o a b)).alloc (opdBox a b)).heap.size = w.heap.size + 1 + 1 := by rw [World.size_alloc, hz]
  have h0 : (w.alloc (insBox o a b)).heap[w.heap.size]? = some (insBox o a b) := heap_alloc_new w _
  have h1 : ((w.alloc (insBox o a b)).alloc (opdBox a b)).heap[w.heap.size + 1]? = some (opdBox a b) := by rw [← hz]; exact heap_alloc_new _ _
  have h2 : ((w.alloc (insBox o a b)).alloc (opdBox a b)).heap[w.heap.size]? = some (insBox o a b) := (Below.heap_alloc _ _ _ (by omega)).trans h0
  have hs := hX.size
  have h3 : w1.heap[w.heap.size + 1]? = some (opdBox a b) := (hX.block _ (by omega)).trans h1
  have h4 : w1.heap[w.heap.size]? = some (insBox o a b) := (hX.block _ (by omega)).trans h2
  refine ⟨(((Below.refl _ w).alloc (Nat.le_refl _) _).alloc (by omega) _).trans (hX.mono (by omega)), by omega, ?_, ?_, ?_, ?_, ?_⟩
  all_goals
    unfold World.cell?
    first | rw [h4] | rw [h3]
    rfl

end Go.Proofs.YtahejekcfgkiaaaDoor.inst

/-
  How the writer and the reader lie in memory, and what a step leaves alone: a writer's block holds a slice of bytes of its own; a reader's block holds the bytes that are left and the first error. No condition.
-/
namespace Go.Proofs.YtahejekcfgkiaaaDoor.octet
open Go.RowKit

def cells (l : List UInt8) : List Value := l.map fun b => Value.int .u8 (b.toNat : Int)
theorem cells_length (l : List UInt8) : (cells l).length = l.length := by simp [cells]
theorem cells_append (l r : List UInt8) : cells (l ++ r) = cells l ++ cells r := by simp [cells]

/-- Of the blocks below B none has turned but x; no block has gone. -/
structure Frm (B x : Nat) (w w' : World) : Prop where
  os : w'.os = w.os
  tape : w'.tape = w.tape
  output : w'.output = w.output
  size : w.heap.size ≤ w'.heap.size
  block : ∀ k, k < B → k ≠ x → w'.heap[k]? = w.heap[k]?
theorem Frm.refl (B x : Nat) (w : World) : Frm B x w w := ⟨rfl, rfl, rfl, Nat.le_refl _, fun _ _ _ => rfl⟩
theorem Frm.trans {B x : Nat} {a b c : World} (h : Frm B x a b) (k : Frm B x b c) : Frm B x a c :=
  ⟨k.os.trans h.os, k.tape.trans h.tape, k.output.trans h.output, Nat.le_trans h.size k.size, fun i hi hx => (k.block i hi hx).trans (h.block i hi hx)⟩
theorem Frm.mono {B B' x : Nat} {w w' : World} (h : Frm B x w w') (hB : B' ≤ B) : Frm B' x w w' := ⟨h.os, h.tape, h.output, h.size, fun k hk hx => h.block k (Nat.lt_of_lt_of_le hk hB) hx⟩
theorem Frm.drew {B x : Nat} {a w : World} (h : Frm B x a w) : Frm B x a w.drew := ⟨h.os, h.tape, h.output, h.size, h.block⟩
theorem Frm.alloc {B x : Nat} {a w : World} (h : Frm B x a w) (hB : B ≤ w.heap.size) (o : Obj) : Frm B x a (w.alloc o) :=
  h.trans ⟨rfl, rfl, rfl, by simp, fun k hk _ => Below.heap_alloc _ _ _ (by omega)⟩
theorem Frm.setCell {B x : Nat} {a w : World} (h : Frm B x a w) {p : Addr} (hp : p.block = x ∨ B ≤ p.block) (u : Value) : Frm B x a (w.setCell p u) :=
  h.trans ⟨rfl, rfl, rfl, by simp [World.setCell], fun k hk hx => Below.heap_setCell _ _ _ _ (by omega)⟩
theorem Frm.below {B B' x : Nat} {w w' : World} (h : Frm B x w w') (hx : B' ≤ x) (hB : B' ≤ B) : Below B' w w' :=
  ⟨h.os, h.tape, h.output, h.size, fun k hk => h.block k (by omega) (by omega)⟩
theorem Frm.of_below {B x : Nat} {w w' : World} (h : Below B w w') : Frm B x w w' := ⟨h.os, h.tape, h.output, h.size, fun k hk _ => h.block k hk⟩
theorem Frm.grown {B x : Nat} {a w w' : World} {row : Option Nat} (h : Frm B x a w) (hg : w.grownBy w' row) (hB : B ≤ w.heap.size) (hr : ∀ k, row = some k → B ≤ k ∨ k = x) : Frm B x a w' :=
  h.trans ⟨hg.os, hg.tape, hg.output, hg.size, fun k hk hx => hg.block k (by omega) (fun e => by rcases hr k e.symm with h | h <;> omega)⟩

/-- The writer at block bo holds the bytes l; what it owns besides lies from base on. -/
def OutAt (w : World) (base bo : Nat) (l : List UInt8) : Prop :=
  ∃ v, w.heap[bo]? = some (.cells #[v] 52 (0, 0)) ∧ w.ownsRow base 5 1 v l.length (cells l) ∧ bo < base ∧ base ≤ w.heap.size

theorem OutAt.lt {w : World} {base bo : Nat} {l : List UInt8} (h : OutAt w base bo l) : bo < w.heap.size := by
  obtain ⟨v, h1, _, _, _⟩ := h
  exact lt_of_block h1
theorem OutAt.base_le {w : World} {base bo : Nat} {l : List UInt8} (h : OutAt w base bo l) : base ≤ w.heap.size := by
  obtain ⟨v, _, _, _, h4⟩ := h
  exact h4
/-- A world in which the writer's own blocks are as they were. -/
theorem OutAt.keep {w w' : World} {base bo : Nat} {l : List UInt8} (h : OutAt w base bo l) (hs : w.heap.size ≤ w'.heap.size) (hbo : w'.heap[bo]? = w.heap[bo]?) (hk : ∀ k, base ≤ k → k < w.heap.size → w'.heap[k]? = w.heap[k]?) : OutAt w' base bo l := by
  obtain ⟨v, h1, h2, h3, h4⟩ := h
  refine ⟨v, hbo.trans h1, ⟨h2.1, ?_⟩, h3, by omega⟩
  rcases h2.2 with h5 | ⟨g, cap, cur, hv, hg, hh, r⟩
  · exact .inl h5
  · exact .inr ⟨g, cap, cur, hv, hg, by rw [hk g hg (lt_of_block hh)]; exact hh, r⟩
theorem OutAt.kept {w w' : World} {base bo B : Nat} {l : List UInt8} (h : OutAt w base bo l) (hb : Below B w w') (hB : w.heap.size ≤ B) : OutAt w' base bo l :=
  h.keep hb.size (hb.block _ (by have := h.lt; omega)) fun k _ hk => hb.block k (by omega)

/-- The reader at block bi: the bytes that are left, the first error. -/
def InAt (w : World) (bi : Nat) (s : St) : Prop :=
  w.heap[bi]? = some (.cells #[.string ⟨s.rest.toArray⟩, .int .i64 (s.err : Int)] 117 (0, 0))
theorem InAt.lt {w : World} {bi : Nat} {s : St} (h : InAt w bi s) : bi < w.heap.size := lt_of_block h
theorem InAt.cell0 {w : World} {bi : Nat} {s : St} (h : InAt w bi s) : w.cell? ⟨bi, 0, none⟩ = some (.string ⟨s.rest.toArray⟩) := by unfold InAt at h; simp [World.cell?, h]
theorem InAt.cell1 {w : World} {bi : Nat} {s : St} (h : InAt w bi s) : w.cell? ⟨bi, 1, none⟩ = some (.int .i64 (s.err : Int)) := by unfold InAt at h; simp [World.cell?, h]
theorem InAt.free {w : World} {bi : Nat} {s : St} (h : InAt w bi s) (i : Nat) : w.frozen? ⟨bi, i, none⟩ = false := by unfold InAt at h; simp [World.frozen?, h]
theorem InAt.kept {w w' : World} {bi : Nat} {s : St} (h : InAt w bi s) (hb : w'.heap[bi]? = w.heap[bi]?) : InAt w' bi s := hb.trans h
theorem InAt.set0 {w : World} {bi : Nat} {s : St} (h : InAt w bi s) (r : List UInt8) : InAt (w.setCell ⟨bi, 0, none⟩ (.string ⟨r.toArray⟩)) bi ⟨r, s.err⟩ := by
  have h' : w.heap[bi]? = some (.cells #[.string ⟨s.rest.toArray⟩, .int .i64 (s.err : Int)] 117 (0, 0)) := h
  unfold InAt
  simp [World.setCell, Array.getElem?_modify, h']
theorem InAt.set1 {w : World} {bi : Nat} {s : St} (h : InAt w bi s) (e : Nat) : InAt (w.setCell ⟨bi, 1, none⟩ (.int .i64 (e : Int))) bi ⟨s.rest, e⟩ := by
  have h' : w.heap[bi]? = some (.cells #[.string ⟨s.rest.toArray⟩, .int .i64 (s.err : Int)] 117 (0, 0)) := h
  unfold InAt
  simp [World.setCell, Array.getElem?_modify, h']

end Go.Proofs.YtahejekcfgkiaaaDoor.octet

/-
  The writer's calls, each by itself: what bytes a byte, a number, a number with a sign and a text lay behind what was put. The bytes put are together at most two to the forty-seventh.
-/
namespace Go.Proofs.YtahejekcfgkiaaaDoor.octet
open Go.RowKit Go.ChangeShapes

theorem info5 : (Tryd.prog.info? 5).map (fun i => (i.zero, i.size, i.bytes)) = some (some (.int .u8 0), 1, 1) := by kernel_rfl

def bof (n : Int) : UInt8 := UInt8.ofNat (n % 256).toNat
theorem bof_cell (n : Int) : Value.int .u8 ((bof n).toNat : Int) = .int .u8 (n % 256) := by
  congr 1
  unfold bof
  rw [UInt8.toNat_ofNat']
  omega

/-- Behind an append to the writer's own bytes, the slice stored back. -/
theorem out_store {w w1 : World} {base bo : Nat} {l r : List UInt8} {v v' : Value} (h1 : w.heap[bo]? = some (.cells #[v] 52 (0, 0))) (h2 : w.ownsRow base 5 1 v l.length (cells l)) (h3 : bo < base) (h4 : base ≤ w.heap.size)
    {W : World} (hW : ∃ o, W = w.alloc o ∨ W = w) (hown : w1.ownsRow base 5 1 v' (l.length + r.length) (cells l ++ cells r)) (hg : W.grownBy w1 v.ownBlock) :
    w1.heap[bo]? = some (.cells #[v] 52 (0, 0)) ∧ OutAt (w1.setCell ⟨bo, 0, none⟩ v') base bo (l ++ r) ∧ Frm base bo w (w1.setCell ⟨bo, 0, none⟩ v') := by
  have hlt := lt_of_block h1
  have hob : ∀ k, v.ownBlock = some k → base ≤ k ∧ k < w.heap.size := h2.lt
  have hWs : w.heap.size ≤ W.heap.size ∧ ∀ k, k < w.heap.size → W.heap[k]? = w.heap[k]? := by
    obtain ⟨o, rfl | rfl⟩ := hW
    · exact ⟨by simp, fun k hk => Below.heap_alloc _ _ _ hk⟩
    · exact ⟨Nat.le_refl _, fun _ _ => rfl⟩
  have hWo : W.os = w.os ∧ W.tape = w.tape ∧ W.output = w.output := by
    obtain ⟨o, rfl | rfl⟩ := hW <;> exact ⟨rfl, rfl, rfl⟩
  have hb : w1.heap[bo]? = some (.cells #[v] 52 (0, 0)) := by
    rw [hg.block bo (by omega) (fun e => by have := (hob bo e.symm).1; omega), hWs.2 bo hlt]
    exact h1
  have hv' : v'.ownBlock ≠ some bo := fun e => by have := (hown.lt bo e).1; omega
  refine ⟨hb, ⟨v', one_setCell hb, ?_, h3, ?_⟩, ?_⟩
  · rw [List.length_append, cells_append]
    exact ownsRow_setCell_other hown hv' _
  · have := hg.size
    simp [World.setCell]
    omega
  · refine Frm.setCell (p := ⟨bo, 0, none⟩) ⟨hg.os.trans hWo.1, hg.tape.trans hWo.2.1, hg.output.trans hWo.2.2, Nat.le_trans hWs.1 hg.size, fun k hk hx => ?_⟩ (.inl rfl) _
    rw [hg.block k (by omega) (fun e => by have := (hob k e.symm).1; omega), hWs.2 k (by omega)]

theorem own_slice {w : World} {base : Nat} {e : TypeId} {size n : Nat} {v : Value} {xs : List Value} (h : w.ownsRow base e size v n xs) : ∃ A m c, v = .slice A m c := by
  rcases h.2 with ⟨rfl, _⟩ | ⟨g, cap, cur, rfl, _⟩
  · exact ⟨_, _, _, rfl⟩
  · exact ⟨_, _, _, rfl⟩

set_option maxHeartbeats 400000 in
theorem byte_any (w : World) (base bo : Nat) (l : List UInt8) (n : Int) (h : OutAt w base bo l) (hl : l.length + 1 ≤ 140737488355328) :
    Calls Tryd.prog 26 #[.pointer (some ⟨bo, 0, none⟩), .int .i64 n] w fun e w' => e = .returned (.tuple #[]) ∧ OutAt w' base bo (l ++ [bof n]) ∧ Frm base bo w w' := by
  obtain ⟨v, h1, h2, h3, h4⟩ := h
  obtain ⟨i0, hi, hz0, hz1, hz2⟩ := info_parts info5
  have hc := cell_of_one h1
  have hf := free_of_one h1
  go_enter Tryd.func26, Tryd.ntmps26
  go_wp2_with (
    at_builtin
    refine wpList_append_own _ rfl (.tmp 10) (.tmp 13) _ rfl base 5 i0 _ 1 1 Tryd.underlying50 hi hz0 hz1 hz2 rfl (by omega) v l.length (cells l) rfl (h2.alloc _)
      ⟨w.heap.size, 0, none⟩ 1 1 [.int .u8 (n % 256)] rfl rfl ?c1 ?c2 ?c3 ?c4 ?c5 ?_)
  case c1 =>
    intro j u hu
    rcases j with _ | j
    · simp only [List.getElem?_cons_zero, Option.some.injEq] at hu
      subst hu
      exact cell_of_one (heap_alloc_new w _)
    · simp at hu
  case c2 => intro u hu; simp only [List.mem_singleton] at hu; subst hu; rfl
  case c3 => simp only [maxLen]; omega
  case c4 => omega
  case c5 => simp; omega
  intro v' w1 hown hg _
  have hs := out_store (r := [bof n]) h1 h2 h3 h4 ⟨_, .inl rfl⟩ (by simpa [cells, bof_cell] using hown) hg
  have hc1 := cell_of_one hs.1
  have hf1 := free_of_one hs.1
  obtain ⟨_, hs2, hs3⟩ := hs
  obtain ⟨A', m', c', rfl⟩ := own_slice hown
  go_wp2
  go_end0
  exact ⟨rfl, hs2, hs3⟩
/-- The number is one of sixty-four bits. -/
def Fits (n : Nat) : Prop := n < 18446744073709551616

theorem bof_nat (m : Nat) : bof (m : Int) = UInt8.ofNat m := by
  unfold bof
  apply UInt8.toNat_inj.1
  rw [UInt8.toNat_ofNat', UInt8.toNat_ofNat']
  omega
theorem or_and_u64 (m : Nat) (hm : Fits m) : wrap64 (bits .or .u64 (bits .and .u64 (m : Int) 127) 128) = ((m % 128 + 128 : Nat) : Int) := by
  unfold Fits at hm
  have e1 : bits .and .u64 (m : Int) 127 = ((m % 128 : Nat) : Int) := by
    rw [← nat_mask7]; exact u64_and_nat m 127 hm (by omega)
  have e2 : bits .or .u64 ((m % 128 : Nat) : Int) 128 = ((m % 128 + 128 : Nat) : Int) := by
    have h := u64_or_nat (m % 128) 128 (by omega) (by omega)
    rw [Nat.or_comm, nat_join 7 128 (m % 128) rfl (by omega), Nat.add_comm] at h
    exact h
  rw [e1, e2]
  unfold wrap64
  omega

set_option maxHeartbeats 400000 in
theorem num_any (w : World) (base bo : Nat) (l : List UInt8) (n : Nat) (hn : Fits n) (h : OutAt w base bo l) (hl : l.length + 10 ≤ 140737488355328) :
    Calls Tryd.prog 27 #[.pointer (some ⟨bo, 0, none⟩), .int .u64 (n : Int)] w fun e w' => e = .returned (.tuple #[]) ∧ OutAt w' base bo (l ++ num n) ∧ Frm base bo w w' := by
  go_enter Tryd.func27, Tryd.ntmps27
  go_wp2
  go_loopw [1] (fun t wr => ∃ (m : Nat) (pre : List UInt8), t = .int .u64 (m : Int) ∧ Fits m ∧ pre ++ num m = num n ∧ OutAt wr base bo (l ++ pre) ∧ Frm base bo w wr) (fun t _ => (intOf t).toNat)
  case atStart => exact ⟨n, [], rfl, hn, rfl, by simpa using h, Frm.refl _ _ _⟩
  case round =>
    obtain ⟨m, pre, rfl, hm, he, ho, hfr⟩ := hrel
    have hpl : (l ++ pre).length + 1 ≤ 140737488355328 := by
      have e1 := congrArg List.length he
      have e2 := num_length_le n
      have e3 := enc_length_pos 9 m
      have e4 : (num m).length = (enc 9 m).length := rfl
      simp only [List.length_append] at e1 ⊢
      omega
    have HE := Lib.hid he
    clear he
    by_cases hlt : m < 128
    · go_wp2_with fail
      refine (byte_any _ base bo (l ++ pre) _ ho hpl).mono ?_
      rintro e w1 ⟨rfl, ho1, hf1⟩
      go_wp2
      go_end0
      refine ⟨rfl, ?_, hfr.trans hf1⟩
      rw [← HE.out, num_small hlt, ← List.append_assoc]
      rw [bof_nat] at ho1
      exact ho1
    · go_wp2_with fail
      rw [or_and_u64 m hm]
      refine (byte_any _ base bo (l ++ pre) _ ho hpl).mono ?_
      rintro e w1 ⟨rfl, ho1, hf1⟩
      go_wp2
      refine ⟨⟨m / 128, pre ++ [UInt8.ofNat (m % 128 + 128)], ?_, ?_, ?_, ?_, hfr.trans hf1⟩, ?_⟩
      · congr 1
      · unfold Fits at hm ⊢; omega
      · rw [← HE.out, num_big (by omega) hm, List.append_assoc]
        rfl
      · rw [← List.append_assoc, ← bof_nat]; exact ho1
      · simp [intOf]; omega

theorem i64_not_neg (n : Int) (h1 : -9223372036854775808 ≤ n) (h2 : n < 0) : bits .xor .i64 (-1) n = -1 - n := by
  show IntKind.i64.wrap ((BitVec.ofInt 64 (-1) ^^^ BitVec.ofInt 64 n).toNat : Int) = _
  have e1 : BitVec.ofInt 64 (-1) = BitVec.allOnes 64 := by decide
  have e2 : (BitVec.ofInt 64 n).toNat = (n + 18446744073709551616).toNat := by
    rw [BitVec.toNat_ofInt]
    omega
  rw [e1, BitVec.allOnes_xor, BitVec.toNat_not, e2]
  simp only [IntKind.wrap_i64]
  omega
theorem zig_neg (n : Int) (h1 : -9223372036854775808 ≤ n) (h2 : n < 0) :
    bits .or .u64 (IntKind.u64.wrap (IntKind.u64.wrap (bits .xor .i64 (-1) n) * 2)) 1 = ((zig n : Nat) : Int) := by
  rw [i64_not_neg n h1 h2]
  have e1 : IntKind.u64.wrap (IntKind.u64.wrap (-1 - n) * 2) = (((-1 - n).toNat * 2 : Nat) : Int) := by
    simp only [IntKind.wrap_u64]
    omega
  have e2 := u64_or_nat ((-1 - n).toNat * 2) 1 (by omega) (by omega)
  rw [nat_join 1 ((-1 - n).toNat * 2) 1 (by omega) (by omega)] at e2
  rw [e1]
  refine e2.trans ?_
  unfold zig
  rw [if_neg (by omega)]
  omega
theorem zig_pos (n : Int) (h1 : ¬ n < 0) : n * 2 = ((zig n : Nat) : Int) := by
  unfold zig
  rw [if_pos (by omega)]
  omega

set_option maxHeartbeats 400000 in
theorem int_any (w : World) (base bo : Nat) (l : List UInt8) (n : Int) (h1 : -9223372036854775808 ≤ n) (h2 : n ≤ 9223372036854775807) (ho : OutAt w base bo l) (hl : l.length + 10 ≤ 140737488355328) :
    Calls Tryd.prog 42 #[.pointer (some ⟨bo, 0, none⟩), .int .i64 n] w fun e w' => e = .returned (.tuple #[]) ∧ OutAt w' base bo (l ++ num (zig n)) ∧ Frm base bo w w' := by
  by_cases hlt : n < 0
  · go_enter Tryd.func42, Tryd.ntmps42
    go_wp2_with fail
    rw [zig_neg n h1 hlt]
    refine (num_any _ base bo l (zig n) (zig_lt h1 h2) ho hl).mono ?_
    rintro e w1 ⟨rfl, ho1, hf1⟩
    go_wp2
    refine bodyPost_ret (results_none rfl _ _ _) rfl ?_
    exact ⟨rfl, ho1, hf1⟩
  · go_enter Tryd.func42, Tryd.ntmps42
    go_wp2_with fail
    rw [zig_pos n (by omega)]
    refine (num_any _ base bo l (zig n) (zig_lt h1 h2) ho hl).mono ?_
    rintro e w1 ⟨rfl, ho1, hf1⟩
    go_wp2
    go_end0
    exact ⟨rfl, ho1, hf1⟩

theorem run_own_string {w : World} {base : Nat} {v : Value} {l : List UInt8} (h : w.ownsRow base 5 1 v l.length (cells l)) :
    (convert 50 9 v).run Tryd.prog w = .ok (.string ⟨l.toArray⟩) w := by
  rcases h.2 with ⟨rfl, h0⟩ | ⟨g, cap, cur, rfl, hg⟩
  · have : l = [] := List.eq_nil_of_length_eq_zero h0
    subst this
    rw [run_convert_bytes_string w 50 9 5 none 0 0 Tryd.underlying50 Tryd.underlying5 Tryd.underlying9]
    rfl
  · exact run_convert_bytes_back w 50 9 5 ⟨g, 0, none⟩ cap l Tryd.underlying50 Tryd.underlying5 Tryd.underlying9 (fun j hj => by
      refine World.ownsRow.cells h (g := g) rfl j _ ?_
      simp [cells, List.getElem?_eq_getElem hj])

set_option maxHeartbeats 400000 in
theorem done_any (w : World) (base bo : Nat) (l : List UInt8) (h : OutAt w base bo l) :
    Calls Tryd.prog 18 #[.pointer (some ⟨bo, 0, none⟩)] w fun e w' => e = .returned (.string ⟨l.toArray⟩) ∧ w = w' := by
  obtain ⟨v, h1, h2, h3, h4⟩ := h
  have hc := cell_of_one h1
  have hrun := run_own_string h2
  obtain ⟨A, m, c, rfl⟩ := own_slice h2
  go_enter Tryd.func18, Tryd.ntmps18
  go_wp2
  go_ret
  exact ⟨rfl, rfl⟩
end Go.Proofs.YtahejekcfgkiaaaDoor.octet

/-
  The reader's calls, each by itself: what is left, the first error, one byte, a failure. The reader lies in a block of its own, and holds no bytes behind an error.
-/
set_option linter.unusedVariables false
namespace Go.Proofs.YtahejekcfgkiaaaDoor.octet
open Go.RowKit Go.ChangeShapes

theorem size_mk (l : List UInt8) : (ByteArray.mk l.toArray).size = l.length := by
  show l.toArray.size = l.length
  simp

theorem extract_mk (l : List UInt8) (i j : Nat) : (ByteArray.mk l.toArray).extract i j = ⟨((l.take j).drop i).toArray⟩ := by
  apply ByteArray.ext
  rw [ByteArray.data_extract]
  simp [List.extract_eq_take_drop, List.drop_take]

set_option maxHeartbeats 400000 in
theorem left_any (w : World) (bi : Nat) (s : St) (hi : InAt w bi s) :
    Calls Tryd.prog 51 #[.pointer (some ⟨bi, 0, none⟩)] w fun e w' => e = .returned (.int .i64 (s.rest.length : Int)) ∧ w = w' := by
  have hc := hi.cell0
  have hsz := size_mk s.rest
  go_enter Tryd.func51, Tryd.ntmps51
  go_wp2
  go_ret
  exact ⟨rfl, rfl⟩

set_option maxHeartbeats 400000 in
theorem err_any (w : World) (bi : Nat) (s : St) (hi : InAt w bi s) :
    Calls Tryd.prog 54 #[.pointer (some ⟨bi, 0, none⟩)] w fun e w' => e = .returned (.int .i64 (s.err : Int)) ∧ w = w' := by
  have hc := hi.cell1
  go_enter Tryd.func54, Tryd.ntmps54
  go_wp2
  go_ret
  exact ⟨rfl, rfl⟩

set_option maxHeartbeats 400000 in
theorem fail_any (w : World) (bi : Nat) (s : St) (e : Nat) (hi : InAt w bi s) :
    Calls Tryd.prog 81 #[.pointer (some ⟨bi, 0, none⟩), .int .i64 (e : Int)] w fun r w' => r = .returned (.tuple #[]) ∧ InAt w' bi (s.fail e) ∧ Frm w.heap.size bi w w' := by
  have hc0 := hi.cell0
  have hc1 := hi.cell1
  have hf0 := hi.free 0
  have hf1 := hi.free 1
  by_cases he : s.err = 0
  · have hb : ((s.err : Int) == 0) = true := by simp [he]
    have hb' : ((s.err : Int) != 0) = false := by simp [he]
    have hfin : InAt ((w.setCell ⟨bi, 1, none⟩ (.int .i64 (e : Int))).setCell ⟨bi, 0, none⟩ (.string ⟨#[]⟩)) bi (s.fail e) := by
      have h2 := (hi.set1 e).set0 []
      unfold St.fail
      rw [if_neg (by omega)]
      exact h2
    have HF := Lib.hid hfin
    clear hfin
    have HE := Lib.hid he
    clear he
    go_enter Tryd.func81, Tryd.ntmps81
    go_wp2
    go_end0
    refine ⟨rfl, HF.out, ?_⟩
    exact ((Frm.refl _ _ _).setCell (p := ⟨bi, 1, none⟩) (.inl rfl) _).setCell (p := ⟨bi, 0, none⟩) (.inl rfl) _
  · have hb : ((s.err : Int) != 0) = true := by simp [he]
    have hfin : s.fail e = s := by unfold St.fail; rw [if_pos he]
    have HF := Lib.hid hfin
    clear hfin
    have HE := Lib.hid he
    clear he
    go_enter Tryd.func81, Tryd.ntmps81
    go_wp2
    refine bodyPost_ret (results_none rfl _ _ _) rfl ?_
    refine ⟨rfl, ?_, Frm.refl _ _ _⟩
    rw [HF.out]
    exact hi

set_option maxHeartbeats 400000 in
theorem next_any (w : World) (bi : Nat) (s : St) (hi : InAt w bi s) (hok : s.ok) (hl : s.rest.length ≤ 140737489403904) :
    Calls Tryd.prog 80 #[.pointer (some ⟨bi, 0, none⟩)] w fun r w' => r = .returned (.int .u8 ((rdByte s).1 : Int)) ∧ InAt w' bi (rdByte s).2 ∧ Frm w.heap.size bi w w' := by
  obtain ⟨rest, err⟩ := s
  cases rest with
  | nil =>
    have hfin : (rdByte ⟨[], err⟩).1 = 0 ∧ (rdByte ⟨[], err⟩).2 = St.fail ⟨[], err⟩ 3 := by
      unfold rdByte St.fail
      split <;> simp
    have HF := Lib.hid hfin
    clear hfin
    go_enter Tryd.func80, Tryd.ntmps80
    go_wp2_with fail
    refine (left_any _ bi ⟨[], err⟩ hi).mono ?_
    rintro e w1 ⟨rfl, rfl⟩
    go_wp2_with fail
    refine (fail_any _ bi ⟨[], err⟩ 3 hi).mono ?_
    rintro e w1 ⟨rfl, hi1, hf1⟩
    go_wp2
    go_ret
    rw [HF.out.1, HF.out.2]
    exact ⟨rfl, hi1, hf1⟩
  | cons b r =>
    have he : err = 0 := by
      rcases Nat.eq_zero_or_pos err with h0 | h0
      · exact h0
      · have := hok (by show err ≠ 0; omega)
        simp at this
    subst he
    have hc0 := hi.cell0
    have hf0 := hi.free 0
    have hsz := size_mk (b :: r)
    have hl' : r.length + 1 ≤ 140737489403904 := by simpa using hl
    have hset := hi.set0 r
    have HS := Lib.hid hset
    clear hset
    go_enter Tryd.func80, Tryd.ntmps80
    go_wp2_with fail
    refine (left_any _ bi _ hi).mono ?_
    rintro e w1 ⟨rfl, rfl⟩
    go_wp2
    go_ret
    rw [extract_mk, show ((b :: r).take (r.length + 1)).drop 1 = r from by simp]
    refine ⟨rfl, HS.out, ?_⟩
    exact (Frm.refl _ _ _).setCell (p := ⟨bi, 0, none⟩) (.inl rfl) _

set_option maxHeartbeats 400000 in
theorem byteIn_any (w : World) (bi : Nat) (s : St) (hi : InAt w bi s) (hok : s.ok) (hl : s.rest.length ≤ 140737489403904) :
    Calls Tryd.prog 77 #[.pointer (some ⟨bi, 0, none⟩)] w fun r w' => r = .returned (.int .i64 ((rdByte s).1 : Int)) ∧ InAt w' bi (rdByte s).2 ∧ Frm w.heap.size bi w w' := by
  have h256 : (rdByte s).1 < 256 := by
    unfold rdByte
    split
    · omega
    · split
      · omega
      · exact UInt8.toNat_lt _
  go_enter Tryd.func77, Tryd.ntmps77
  go_wp2_with fail
  refine (next_any _ bi s hi hok hl).mono ?_
  rintro e w1 ⟨rfl, hi1, hf1⟩
  go_wp2
  go_ret
  exact ⟨rfl, hi1, hf1⟩
end Go.Proofs.YtahejekcfgkiaaaDoor.octet

/-
  One call that puts something: what it lays behind what was put; and the document's own bytes of it. The bytes put are together at most two to the forty-seventh.
-/
namespace Go.Proofs.YtahejekcfgkiaaaDoor.octet
open Go.RowKit Go.ChangeShapes
set_option linter.unusedVariables false

/-- What is put: which kind, and its number, number with a sign, text. -/
structure OpD where
  kind : Int
  n : Nat
  i : Int
  s : ByteArray
def OpD.fits (o : OpD) : Prop := Fits o.n ∧ -9223372036854775808 ≤ o.i ∧ o.i ≤ 9223372036854775807
def OpD.bytes (o : OpD) : List UInt8 := if o.kind = 0 then [UInt8.ofNat (o.n % 256)] else if o.kind = 1 then num o.n else if o.kind = 2 then num (zig o.i) else num o.s.size ++ o.s.data.toList
theorem OpD.length_le (o : OpD) : o.bytes.length ≤ o.s.size + 10 := by
  have h1 := num_length_le o.n
  have h2 := num_length_le (zig o.i)
  have h3 := num_length_le o.s.size
  have h4 : o.s.data.toList.length = o.s.size := by rw [Array.length_toList]; rfl
  unfold OpD.bytes
  split
  · simp
  · split
    · omega
    · split
      · omega
      · rw [List.length_append]; omega

theorem mk_append (l r : List UInt8) : ByteArray.mk l.toArray ++ ByteArray.mk r.toArray = ByteArray.mk (l ++ r).toArray := by
  apply ByteArray.ext
  apply Array.toList_inj.1
  simp [ByteArray.data_append]
theorem run_one (w : World) (x : Int) (b : UInt8) (hx : x = (b.toNat : Int)) :
    (convert 50 9 (.slice (some ⟨w.heap.size, 0, none⟩) 1 1)).run Tryd.prog (w.alloc (.cells #[.int .u8 x] 5)) = .ok (.string ⟨[b].toArray⟩) (w.alloc (.cells #[.int .u8 x] 5)) := by
  subst hx
  refine run_convert_bytes_back _ 50 9 5 ⟨w.heap.size, 0, none⟩ 1 [b] Tryd.underlying50 Tryd.underlying5 Tryd.underlying9 (fun j hj => ?_)
  have hj0 : j = 0 := by simp at hj; exact hj
  subst hj0
  exact cell_of_one (heap_alloc_new w _)

end Go.Proofs.YtahejekcfgkiaaaDoor.octet

/-
  The document's own bytes of an instruction that may be. No condition but that it may be.
-/
namespace Go.Proofs.YtahejekcfgkiaaaDoor.inst
open Go.RowKit Go.ChangeShapes
open Go.Proofs.YtahejekcfgkiaaaDoor.oper (ret_int ret_bool ret_string)
open Go.Proofs.YtahejekcfgkiaaaDoor.octet (run_one mk_append size_mk num zig)
open Go.Proofs.YtahejekcfgkiaaaDoor.word (Word)
set_option linter.unusedVariables false

theorem Stand.glt {w W : World} {o a b : Int} {g : Nat} (h : Stand w o a b g W) : g < W.heap.size := by
  rcases Nat.lt_or_ge g W.heap.size with h1 | h1
  · exact h1
  · have := h.s0
    simp [World.cell?, Array.getElem?_eq_none h1] at this
theorem Stand.next {w W W' : World} {o a b : Int} {g : Nat} (h : Stand w o a b g W) (hb : Below W.heap.size W W') : Stand w o a b g W' :=
  ⟨h.below.trans (hb.mono (Nat.le_of_lt h.size)), Nat.lt_of_lt_of_le h.size hb.size, (hb.cell (p := ⟨w.heap.size, 0, none⟩) h.size).trans h.c0, (hb.cell (p := ⟨w.heap.size, 1, none⟩) h.size).trans h.c1, (hb.cell (p := ⟨w.heap.size, 2, none⟩) h.size).trans h.c2, (hb.cell (p := ⟨g, 0, none⟩) h.glt).trans h.s0, (hb.cell (p := ⟨g, 1, none⟩) h.glt).trans h.s1⟩

end Go.Proofs.YtahejekcfgkiaaaDoor.inst

/-
  The reader's numbers: what bytes are read as one, byte by byte, and the first error. The reader lies in a block of its own, holds no bytes behind an error, and at most two to the forty-seventh of them.
-/
namespace Go.Proofs.YtahejekcfgkiaaaDoor.octet
open Go.RowKit Go.ChangeShapes
set_option linter.unusedVariables false

/-- What the reader makes of its bytes behind k bytes that made acc. -/
def decS (s : St) (k acc : Nat) : Nat × St := if s.err ≠ 0 then (0, s) else ((dec s.rest k acc).1, ⟨(dec s.rest k acc).2.1, (dec s.rest k acc).2.2⟩)

theorem rdByte_some {s : St} (h : (rdByte s).2.err = 0) : ∃ b r, s = ⟨b :: r, 0⟩ := by
  obtain ⟨rest, err⟩ := s
  unfold rdByte at h
  by_cases he : err = 0
  · subst he
    cases rest with
    | nil => simp at h
    | cons b r => exact ⟨b, r, rfl⟩
  · simp [he] at h
theorem rdByte_none {s : St} (h : (rdByte s).2.err ≠ 0) {k acc : Nat} : decS s k acc = (0, (rdByte s).2) := by
  obtain ⟨rest, err⟩ := s
  unfold rdByte at h ⊢
  unfold decS
  by_cases he : err = 0
  · subst he
    cases rest with
    | nil => simp [dec]
    | cons b r => simp at h
  · simp [he]

theorem pow7 (k : Nat) : (2 : Nat) ^ (7 * k) = 128 ^ k := by rw [Nat.pow_mul]
theorem acc_next {c kk acc : Nat} (ha : acc < 128 ^ kk) : acc + c % 128 * 128 ^ kk < 128 ^ (kk + 1) := by
  have h1 : c % 128 * 128 ^ kk ≤ 127 * 128 ^ kk := Nat.mul_le_mul_right _ (by omega)
  rw [Nat.pow_succ]
  omega
theorem or_shl_u64 {c kk acc : Nat} (hbad : ¬ ((kk = 9 ∧ 1 < c) ∨ (0 < kk ∧ c = 0))) (hk : kk ≤ 9) (hc : c < 256) (ha : acc < 128 ^ kk) :
    bits .or .u64 (acc : Int) (IntKind.u64.wrap (IntKind.u64.wrap (bits .and .u8 (c : Int) 127) * 2 ^ (7 * kk))) = ((acc + c % 128 * 128 ^ kk : Nat) : Int) := by
  have e1 : bits .and .u8 (c : Int) 127 = ((c % 128 : Nat) : Int) := by
    rw [← nat_mask7]; exact u8_and_nat c 127 hc (by omega)
  have e2 : IntKind.u64.wrap ((c % 128 : Nat) : Int) = ((c % 128 : Nat) : Int) := by
    rw [IntKind.wrap_u64]; omega
  have e3 : ((2 : Int) ^ (7 * kk)) = ((128 ^ kk : Nat) : Int) := by
    rw [← pow7]; simp
  have hle : (128 : Nat) ^ kk ≤ 128 ^ 9 := Nat.pow_le_pow_right (by omega) hk
  have h9 : (128 : Nat) ^ 9 = 9223372036854775808 := rfl
  have hX : c % 128 * 128 ^ kk < 18446744073709551616 := by
    by_cases h8 : kk = 9
    · subst h8
      have hc1 : c ≤ 1 := by omega
      have : c % 128 * 128 ^ 9 ≤ 1 * 128 ^ 9 := Nat.mul_le_mul_right _ (by omega)
      omega
    · have h1 : c % 128 * 128 ^ kk ≤ 127 * 128 ^ kk := Nat.mul_le_mul_right _ (by omega)
      have h2 : (128 : Nat) ^ kk ≤ 128 ^ 8 := Nat.pow_le_pow_right (by omega) (by omega)
      have h3 : (128 : Nat) ^ 8 = 72057594037927936 := rfl
      omega
  have e4 : IntKind.u64.wrap (((c % 128 : Nat) : Int) * ((128 ^ kk : Nat) : Int)) = ((c % 128 * 128 ^ kk : Nat) : Int) := by
    rw [← Int.natCast_mul, IntKind.wrap_u64]
    omega
  rw [e1, e2, e3, e4, u64_or_nat acc _ (by omega) hX, Nat.or_comm, nat_join (7 * kk) (c % 128 * 128 ^ kk) acc (by rw [pow7]; exact Nat.mul_mod_left _ _) (by rw [pow7]; exact ha), Nat.add_comm]

set_option maxHeartbeats 1000000 in
set_option maxRecDepth 100000 in
theorem numIn_any (w : World) (bi : Nat) (s : St) (hi : InAt w bi s) (hok : s.ok) (hl : s.rest.length ≤ 140737489403904) :
    Calls Tryd.prog 68 #[.pointer (some ⟨bi, 0, none⟩)] w fun r w' => r = .returned (.int .u64 ((rdNum s).1 : Int)) ∧ InAt w' bi (rdNum s).2 ∧ Frm w.heap.size bi w w' := by
  go_enter Tryd.func68, Tryd.ntmps68
  go_wp2
  go_loopw [3, 6] (fun n k wr => ∃ (kk acc : Nat) (s' : St), k = .int .i64 (kk : Int) ∧ kk ≤ 9 ∧ n = .int .u64 (acc : Int) ∧ acc < 128 ^ kk ∧ InAt wr bi s' ∧ s'.ok ∧ s'.rest.length ≤ 140737489403904 ∧ decS s' kk acc = rdNum s ∧ Frm w.heap.size bi w wr) (fun _ k _ => 9 - (intOf k).toNat)
  case atStart => exact ⟨0, 0, s, rfl, by omega, rfl, by simp, hi, hok, hl, rfl, Frm.refl _ _ _⟩
  case round =>
    obtain ⟨kk, acc, s', rfl, hk, rfl, hacc, hi', hok', hl', hd, hfr⟩ := hrel
    have HD := Lib.hid hd
    have HA := Lib.hid hacc
    clear hd hacc
    by_cases he : (rdByte s').2.err = 0
    · obtain ⟨b, r, rfl⟩ : ∃ b r, s' = ⟨b :: r, 0⟩ := rdByte_some he
      clear he
      have e1 : rdByte ⟨b :: r, 0⟩ = (b.toNat, ⟨r, 0⟩) := rfl
      have hb256 : b.toNat < 256 := b.toNat_lt
      have hok1 : St.ok ⟨r, 0⟩ := fun h0 => absurd rfl h0
      have hl1 : r.length + 1 ≤ 140737489403904 := hl'
      by_cases hbad : (kk = 9 ∧ 1 < b.toNat) ∨ (0 < kk ∧ b.toNat = 0)
      · have hfin : rdNum s = (0, ⟨[], 2⟩) := by
          rw [← HD.out]
          unfold decS
          rw [if_neg (by simp), dec_err hbad]
        have HF := Lib.hid hfin
        have HB := Lib.hid hbad
        clear hbad hfin
        have hcase : ((((kk : Int) == 9) = true ∧ decide (1 < (b.toNat : Int)) = true ∧ decide (0 < (kk : Int)) = true ∧ ((b.toNat : Int) == 0) = false) ∨
          (((kk : Int) == 9) = true ∧ decide (1 < (b.toNat : Int)) = false ∧ decide (0 < (kk : Int)) = true ∧ ((b.toNat : Int) == 0) = true)) ∨
          (((kk : Int) == 9) = false ∧ decide (1 < (b.toNat : Int)) = false ∧ decide (0 < (kk : Int)) = true ∧ ((b.toNat : Int) == 0) = true) := by
          have h1 := HB.out
          simp only [beq_iff_eq, beq_eq_false_iff_ne, decide_eq_true_eq, decide_eq_false_iff_not]
          omega
        have hnext := next_any wr bi _ hi' hok' hl'
        rw [e1] at hnext
        clear e1
        have HN := Lib.hid hnext
        clear hnext
        generalize b.toNat = c at *
        go_wp2_with fail
        refine HN.out.mono ?_
        rintro e w1 ⟨rfl, hi1, hf1⟩
        go_wp2_with fail
        refine (err_any _ bi _ hi1).mono ?_
        rintro e w2 ⟨rfl, rfl⟩
        rcases hcase with (⟨f1, f2, f3, f4⟩ | ⟨f1, f2, f3, f4⟩) | ⟨f1, f2, f3, f4⟩
        all_goals
          have g3 : 0 < kk := by simpa using f3
          go_wp2_with fail
          refine (fail_any _ bi _ 2 hi1).mono ?_
          rintro e w3 ⟨rfl, hi3, hf3⟩
          go_wp2
          go_ret
          rw [HF.out]
          exact ⟨rfl, hi3, hfr.trans ((hf1.mono hfr.size).trans (hf3.mono (by have := hf1.size; have := hfr.size; omega)))⟩
      · have hfin : decS ⟨b :: r, 0⟩ kk acc = if b.toNat < 128 then (acc + b.toNat % 128 * 128 ^ kk, ⟨r, 0⟩) else decS ⟨r, 0⟩ (kk + 1) (acc + b.toNat % 128 * 128 ^ kk) := by
          unfold decS
          by_cases hb : b.toNat < 128
          · rw [if_neg (by simp), dec_last hbad hb, if_pos hb]
          · rw [if_neg (by simp), dec_next hbad hb, if_neg hb, if_neg (by simp)]
        have HF := Lib.hid hfin
        have HB := Lib.hid hbad
        clear hbad hfin
        have hcase : ((((kk : Int) == 9) = true ∧ decide (1 < (b.toNat : Int)) = false ∧ decide (0 < (kk : Int)) = true ∧ ((b.toNat : Int) == 0) = false) ∨
          (((kk : Int) == 9) = false ∧ decide (0 < (kk : Int)) = true ∧ ((b.toNat : Int) == 0) = false)) ∨
          (((kk : Int) == 9) = false ∧ decide (0 < (kk : Int)) = false) := by
          have h1 := HB.out
          simp only [beq_iff_eq, beq_eq_false_iff_ne, decide_eq_true_eq, decide_eq_false_iff_not]
          omega
        have hnext := next_any wr bi _ hi' hok' hl'
        rw [e1] at hnext
        clear e1
        have HN := Lib.hid hnext
        clear hnext
        generalize b.toNat = c at *
        go_wp2_with fail
        refine HN.out.mono ?_
        rintro e w1 ⟨rfl, hi1, hf1⟩
        go_wp2_with fail
        refine (err_any _ bi _ hi1).mono ?_
        rintro e w2 ⟨rfl, rfl⟩
        have hor := or_shl_u64 HB.out hk hb256 HA.out
        have HO := Lib.hid hor
        clear hor
        by_cases hb : c < 128
        · have g1 : decide ((c : Int) < 128) = true := by simp; omega
          have h2 := HF.out
          rw [if_pos hb] at h2
          have hfin : rdNum s = (acc + c % 128 * 128 ^ kk, ⟨r, 0⟩) := by rw [← HD.out]; exact h2
          have HR := Lib.hid hfin
          clear h2 hfin
          rcases hcase with (⟨f1, f2, f3, f4⟩ | ⟨f1, f3, f4⟩) | ⟨f1, f3⟩
          all_goals
            go_wp2
            all_goals first
              | (exfalso; simp only [beq_iff_eq, beq_eq_false_iff_ne, decide_eq_true_eq, decide_eq_false_iff_not] at *; omega)
              | (rw [HO.out]; go_ret; rw [HR.out]; exact ⟨rfl, hi1, hfr.trans (hf1.mono hfr.size)⟩)
        · have g1 : decide ((c : Int) < 128) = false := by simp; omega
          have hcase' : (((kk : Int) == 9) = false ∧ decide (0 < (kk : Int)) = true ∧ ((c : Int) == 0) = false) ∨ (((kk : Int) == 9) = false ∧ decide (0 < (kk : Int)) = false) := by
            simp only [beq_iff_eq, beq_eq_false_iff_ne, decide_eq_true_eq, decide_eq_false_iff_not] at hcase ⊢
            omega
          have hk9 : kk + 1 ≤ 9 := by
            have h1 := HB.out
            omega
          clear hcase
          rcases hcase' with ⟨f1, f3, f4⟩ | ⟨f1, f3⟩
          all_goals
            go_wp2
            all_goals try (exfalso; simp only [beq_eq_false_iff_ne, decide_eq_true_eq, decide_eq_false_iff_not] at *; omega)
            rw [HO.out]
            refine ⟨⟨kk + 1, acc + c % 128 * 128 ^ kk, ⟨r, 0⟩, by go_num, hk9, rfl, acc_next HA.out, hi1, hok1, ?_, ?_, hfr.trans (hf1.mono hfr.size)⟩, ?_⟩
            · show r.length ≤ _
              omega
            · have h1 := HF.out
              rw [if_neg hb] at h1
              rw [← h1]
              exact HD.out
            · simp [intOf]
              omega
    · have hfin : rdNum s = (0, (rdByte s').2) := by
        rw [← HD.out]
        exact rdByte_none he
      have HF := Lib.hid hfin
      clear hfin
      go_wp2_with fail
      refine (next_any _ bi s' hi' hok' hl').mono ?_
      rintro e w1 ⟨rfl, hi1, hf1⟩
      go_wp2_with fail
      refine (err_any _ bi _ hi1).mono ?_
      rintro e w2 ⟨rfl, rfl⟩
      have he' : (((rdByte s').2.err : Int) != 0) = true := by simp [he]
      have HE := Lib.hid he
      clear he
      go_wp2_with fail
      go_ret
      rw [HF.out]
      exact ⟨rfl, hi1, hfr.trans (hf1.mono hfr.size)⟩
end Go.Proofs.YtahejekcfgkiaaaDoor.octet

/-
  The document's own answers, each by itself: what its functions make of bytes that are read. A text of at most two to the forty-seventh bytes.
-/
namespace Go.Proofs.YtahejekcfgkiaaaDoor.octet
open Go.RowKit Go.ChangeShapes
set_option linter.unusedVariables false

theorem bcell {W w1 : World} (hb : Below W.heap.size W w1) : (∀ b o, b < W.heap.size → w1.cell? ⟨b, o, none⟩ = W.cell? ⟨b, o, none⟩) ∧ (∀ b o, b < W.heap.size → w1.frozen? ⟨b, o, none⟩ = W.frozen? ⟨b, o, none⟩) :=
  ⟨fun b o h => hb.cell (p := ⟨b, o, none⟩) h, fun b o h => hb.frozen (p := ⟨b, o, none⟩) h⟩

/-- The document's reader: the text, where, the first error. -/
def RV (t : ByteArray) (at' err : Nat) : Value := .agg #[.string t, .int .i64 (at' : Int), .int .i64 (err : Int)]
/-- It stands where the program's reader stands. -/
def Stands (t : ByteArray) (k err : Nat) (s : St) : Prop := k ≤ t.size ∧ s.rest = t.data.toList.drop k ∧ s.err = err ∧ s.ok

/-- What the document's reader reads as one byte. -/
def refByte (t : ByteArray) (k err : Nat) : Nat × Nat × Nat :=
  if k < t.size then ((t.data.toList.getD k 0).toNat, k + 1, err) else (0, if err = 0 then (t.size, 3) else (k, err))

end Go.Proofs.YtahejekcfgkiaaaDoor.octet

/-
  The document's numbers as they are read: it reads what the program's reader reads, from the same place, with the same first error. A text of at most two to the forty-seventh bytes.
-/
namespace Go.Proofs.YtahejekcfgkiaaaDoor.octet
open Go.RowKit Go.ChangeShapes
set_option linter.unusedVariables false

theorem stands_byte {t : ByteArray} {k err : Nat} {s : St} (h : Stands t k err s) : (refByte t k err).1 = (rdByte s).1 ∧ Stands t (refByte t k err).2.1 (refByte t k err).2.2 (rdByte s).2 := by
  obtain ⟨rest, e0⟩ := s
  obtain ⟨hk, hr, he, hok⟩ := h
  simp only at hr he
  subst he
  have hsz : t.data.toList.length = t.size := by rw [Array.length_toList]; rfl
  by_cases hlt : k < t.size
  · have hcons : rest = t.data.toList.getD k 0 :: t.data.toList.drop (k + 1) := by
      rw [hr, List.getD_eq_getElem?_getD, List.getElem?_eq_getElem (by omega), Option.getD_some]
      exact List.drop_eq_getElem_cons (by omega)
    have he0 : e0 = 0 := by
      rcases Nat.eq_zero_or_pos e0 with h0 | h0
      · exact h0
      · have h1 : rest = [] := hok (by show e0 ≠ 0; omega)
        rw [hcons] at h1
        cases h1
    subst he0
    have e1 : refByte t k 0 = ((t.data.toList.getD k 0).toNat, k + 1, 0) := by unfold refByte; rw [if_pos hlt]
    have e2 : rdByte ⟨rest, 0⟩ = ((t.data.toList.getD k 0).toNat, ⟨t.data.toList.drop (k + 1), 0⟩) := by rw [hcons]; rfl
    rw [e1, e2]
    exact ⟨rfl, by show k + 1 ≤ _; omega, rfl, rfl, fun h => absurd rfl h⟩
  · have hnil : rest = [] := by rw [hr]; exact List.drop_of_length_le (by omega)
    subst hnil
    have e1 : refByte t k e0 = (0, if e0 = 0 then (t.size, 3) else (k, e0)) := by unfold refByte; rw [if_neg hlt]
    rw [e1]
    by_cases he0 : e0 = 0
    · subst he0
      have e2 : rdByte ⟨[], 0⟩ = (0, ⟨[], 3⟩) := rfl
      rw [e2, if_pos rfl]
      exact ⟨rfl, Nat.le_refl _, (List.drop_of_length_le (by rw [hsz]; exact Nat.le_refl _)).symm, rfl, fun _ => rfl⟩
    · have e2 : rdByte ⟨[], e0⟩ = (0, ⟨[], e0⟩) := by unfold rdByte; simp [he0]
      rw [e2, if_neg he0]
      exact ⟨rfl, hk, hr, rfl, hok⟩

theorem stands_fail {t : ByteArray} {k err : Nat} {s : St} (h : Stands t k err s) (e : Nat) : Stands t (if err = 0 then t.size else k) (if err = 0 then e else err) (s.fail e) := by
  obtain ⟨hk, hr, he, hok⟩ := h
  have hsz : t.data.toList.length = t.size := by rw [Array.length_toList]; rfl
  unfold St.fail
  by_cases h0 : err = 0
  · rw [if_pos h0, if_pos h0, if_neg (by omega)]
    exact ⟨Nat.le_refl _, (List.drop_of_length_le (by omega)).symm, rfl, fun _ => rfl⟩
  · rw [if_neg h0, if_neg h0, if_pos (by omega)]
    exact ⟨hk, hr, he, hok⟩

section
variable {w : World} {b : Nat} {t : ByteArray} {k err : Nat}
end

theorem alloc_two (w : World) (o1 o2 : Obj) : ((w.alloc o1).alloc o2).heap[w.heap.size + 1]? = some o2 := by
  have h := heap_alloc_new (w.alloc o1) o2
  rwa [World.size_alloc] at h
theorem cast_pow (kk : Nat) : ((128 : Int) ^ kk) = ((128 ^ kk : Nat) : Int) := by simp
theorem ref_sum {c kk acc : Nat} (hbad : ¬ ((kk = 9 ∧ 1 < c) ∨ (0 < kk ∧ c = 0))) (hk : kk ≤ 9) (hc : c < 256) (ha : acc < 128 ^ kk) :
    IntKind.u64.wrap ((acc : Int) + IntKind.u64.wrap ((c : Int) % 128 * 128 ^ kk)) = ((acc + c % 128 * 128 ^ kk : Nat) : Int) := by
  have hle : (128 : Nat) ^ kk ≤ 128 ^ 9 := Nat.pow_le_pow_right (by omega) hk
  have h9 : (128 : Nat) ^ 9 = 9223372036854775808 := rfl
  have hX : c % 128 * 128 ^ kk ≤ 9223372036854775808 := by
    by_cases h8 : kk = 9
    · subst h8
      have : c % 128 * 128 ^ 9 ≤ 1 * 128 ^ 9 := Nat.mul_le_mul_right _ (by omega)
      omega
    · have h1 : c % 128 * 128 ^ kk ≤ 127 * 128 ^ kk := Nat.mul_le_mul_right _ (by omega)
      have h2 : (128 : Nat) ^ kk ≤ 128 ^ 8 := Nat.pow_le_pow_right (by omega) (by omega)
      have h3 : (128 : Nat) ^ 8 = 72057594037927936 := rfl
      omega
  have e1 : (c : Int) % 128 * 128 ^ kk = ((c % 128 * 128 ^ kk : Nat) : Int) := by
    rw [cast_pow, Int.natCast_mul, Int.natCast_emod]
    rfl
  rw [e1]
  generalize c % 128 * 128 ^ kk = x at *
  rw [IntKind.wrap_u64, IntKind.wrap_u64]
  omega
theorem ref_by {kk : Nat} (hk : kk + 1 ≤ 9) : IntKind.u64.wrap ((128 : Int) ^ kk * 128) = ((128 ^ (kk + 1) : Nat) : Int) := by
  have hle : (128 : Nat) ^ (kk + 1) ≤ 128 ^ 9 := Nat.pow_le_pow_right (by omega) hk
  have h9 : (128 : Nat) ^ 9 = 9223372036854775808 := rfl
  rw [cast_pow, show ((128 ^ kk : Nat) : Int) * 128 = ((128 ^ (kk + 1) : Nat) : Int) from by rw [Nat.pow_succ, Int.natCast_mul]; rfl]
  generalize (128 : Nat) ^ (kk + 1) = x at *
  rw [IntKind.wrap_u64]
  omega

/-- What the document's reading ends in: a value, and its reader, which stands where the program's does. -/
def RefEnds (t : ByteArray) (x : Value) (s : St) (e : Ending) : Prop := ∃ k, e = .returned (.tuple #[x, RV t k s.err]) ∧ Stands t k s.err s

end Go.Proofs.YtahejekcfgkiaaaDoor.octet

/-
  The reader's numbers with a sign, and texts: what bytes are read as one, and the first error. The reader lies in a block of its own, holds no bytes behind an error, and at most two to the forty-seventh of them.
-/
namespace Go.Proofs.YtahejekcfgkiaaaDoor.octet
open Go.RowKit Go.ChangeShapes
set_option linter.unusedVariables false

theorem info5' : (Tryd.prog.info? 5).map (fun i => (i.zero, i.size, i.bytes)) = some (some (.int .u8 0), 1, 1) := by kernel_rfl

theorem i64_not_nat (a : Nat) (ha : a < 9223372036854775808) : bits .xor .i64 (-1) (a : Int) = -(a : Int) - 1 := by
  show IntKind.i64.wrap ((BitVec.ofInt 64 (-1) ^^^ BitVec.ofInt 64 (a : Int)).toNat : Int) = _
  have h1 : BitVec.ofInt 64 (-1) = BitVec.allOnes 64 := by decide
  rw [h1, BitVec.allOnes_xor, BitVec.toNat_not, ofInt_u64 a (by omega)]
  simp only [IntKind.wrap_i64]
  omega
theorem and1_u64 (v : Nat) (hv : v < 18446744073709551616) : bits .and .u64 (v : Int) 1 = ((v % 2 : Nat) : Int) := by
  rw [← nat_mask1]; exact u64_and_nat v 1 hv (by omega)

set_option maxHeartbeats 1000000 in
theorem intIn_any (w : World) (bi : Nat) (s : St) (hi : InAt w bi s) (hok : s.ok) (hl : s.rest.length ≤ 140737489403904) :
    Calls Tryd.prog 78 #[.pointer (some ⟨bi, 0, none⟩)] w fun r w' => r = .returned (.int .i64 (rdInt s).1) ∧ InAt w' bi (rdInt s).2 ∧ Frm w.heap.size bi w w' := by
  have hlt := rdNum_lt s
  have HN := Lib.hid (numIn_any w bi s hi hok hl)
  have HI : Hid (rdInt s = (zag (rdNum s).1, (rdNum s).2)) := rfl
  generalize rdNum s = p at *
  obtain ⟨v, s1⟩ := p
  have hlt' : v < 18446744073709551616 := hlt
  have hand := and1_u64 v hlt'
  have HX : Hid (bits .xor .i64 (-1) ((v : Int) / 2) = -((v / 2 : Nat) : Int) - 1) := Lib.hid (i64_not_nat (v / 2) (by omega))
  by_cases hv : v % 2 = 1
  · rw [hv] at hand
    have hfin : zag v = -((v / 2 : Nat) : Int) - 1 := by unfold zag; rw [if_pos hv]
    have HZ := Lib.hid hfin
    have HV := Lib.hid hv
    clear hfin hv
    go_enter Tryd.func78, Tryd.ntmps78
    go_wp2_with fail
    refine HN.out.mono ?_
    rintro e w1 ⟨rfl, hi1, hf1⟩
    go_wp2
    go_ret
    rw [HI.out]
    refine ⟨?_, hi1, hf1⟩
    rw [show (zag v, s1).1 = zag v from rfl, HZ.out]
    exact congrArg (fun x => Ending.returned (Value.int .i64 x)) HX.out
  · have hv0 : v % 2 = 0 := by omega
    rw [hv0] at hand
    have hfin : zag v = ((v / 2 : Nat) : Int) := by unfold zag; rw [if_neg hv]
    have HZ := Lib.hid hfin
    have HV := Lib.hid hv
    clear hfin hv hv0
    go_enter Tryd.func78, Tryd.ntmps78
    go_wp2_with fail
    refine HN.out.mono ?_
    rintro e w1 ⟨rfl, hi1, hf1⟩
    go_wp2
    go_ret
    rw [HI.out]
    refine ⟨?_, hi1, hf1⟩
    rw [show (zag v, s1).1 = zag v from rfl, HZ.out]
    rfl

end Go.Proofs.YtahejekcfgkiaaaDoor.octet

/-
  The document's numbers with a sign, and texts, as they are read: it reads what the program's reader reads, from the same place, with the same first error. A text of at most two to the forty-seventh bytes.
-/
namespace Go.Proofs.YtahejekcfgkiaaaDoor.octet
open Go.RowKit Go.ChangeShapes
set_option linter.unusedVariables false

theorem extract_eq (t : ByteArray) (a n : Nat) : t.extract a (a + n) = ⟨((t.data.toList.drop a).take n).toArray⟩ := by
  apply ByteArray.ext
  apply Array.toList_inj.1
  rw [Lib.extract_data, Nat.add_sub_cancel_left]

end Go.Proofs.YtahejekcfgkiaaaDoor.octet

/-
  The document's reader, its calls by plain values: a byte, a number, a number with a sign, each from where it stands. A text of at most two to the forty-seventh bytes.
-/
namespace Go.Proofs.YtahejekcfgkiaaaDoor.octet
open Go.RowKit Go.ChangeShapes
set_option linter.unusedVariables false

theorem rest_le {t : ByteArray} {k err : Nat} {s : St} (h : Stands t k err s) (ht : t.size ≤ 140737489403904) : s.rest.length ≤ 140737489403904 := by
  have hsz : t.data.toList.length = t.size := by rw [Array.length_toList]; rfl
  rw [h.2.1, List.length_drop]
  omega
end Go.Proofs.YtahejekcfgkiaaaDoor.octet

/-
  The document's own answer of the instruction that is read behind what was read ahead. A text of at most two to the forty-seventh bytes.
-/
namespace Go.Proofs.YtahejekcfgkiaaaDoor.inst
open Go.RowKit Go.ChangeShapes
open Go.Proofs.YtahejekcfgkiaaaDoor.oper (ret_int ret_bool ret_string)
open Go.Proofs.YtahejekcfgkiaaaDoor.octet (St rdByte rdNum rdInt Stands)
open Go.Proofs.YtahejekcfgkiaaaDoor.word (Word)
set_option linter.unusedVariables false

/-- What is read of an instruction: its numbers, where the reader stands then, and the error. -/
structure Rd where
  o : Int
  a : Int
  b : Int
  s : St
  e : Nat
def readI (s : St) : Rd :=
  let b := rdByte s
  if b.2.err ≠ 0 then ⟨0, 0, 0, b.2, b.2.err⟩
  else if 51 < b.1 then ⟨0, 0, 0, b.2, 6⟩
  else
    let r := rdOpds (form b.1) b.2 (form b.1).length
    if r.2.err ≠ 0 then ⟨0, 0, 0, r.2, r.2.err⟩
    else if chk b.1 (r.1.getD 0 0) (r.1.getD 1 0) ≠ 0 then ⟨0, 0, 0, r.2, chk b.1 (r.1.getD 0 0) (r.1.getD 1 0)⟩
    else ⟨b.1, r.1.getD 0 0, r.1.getD 1 0, r.2, 0⟩

/-- What is read behind an operation's byte. -/
def readF (c : Nat) (s : St) : Rd :=
  let r := rdOpds (form c) s (form c).length
  if r.2.err ≠ 0 then ⟨0, 0, 0, r.2, r.2.err⟩
  else if chk c (r.1.getD 0 0) (r.1.getD 1 0) ≠ 0 then ⟨0, 0, 0, r.2, chk c (r.1.getD 0 0) (r.1.getD 1 0)⟩
  else ⟨c, r.1.getD 0 0, r.1.getD 1 0, r.2, 0⟩
theorem byte_lt (s : St) : (rdByte s).1 < 256 := by
  unfold rdByte
  split
  · omega
  · split
    · omega
    · exact UInt8.toNat_lt _
/-- What Read tells, and leaves. -/
def ReadPost (t : ByteArray) (r : Rd) (w : World) (e : Ending) (w' : World) : Prop :=
  ∃ k : Nat, e = .returned (.tuple #[.agg #[.int .i64 r.o, .int .i64 r.a, .int .i64 r.b], .agg #[.string t, .int .i64 (k : Int), .int .i64 (r.s.err : Int)], .int .i64 (r.e : Int)]) ∧ Stands t k r.s.err r.s ∧ Below w.heap.size w w'

/-- Three cells of a block, set one behind the other. -/
abbrev put3 (W : World) (b : Nat) (x y z : Value) : World := ((W.setCell ⟨b, 0, none⟩ x).setCell ⟨b, 1, none⟩ y).setCell ⟨b, 2, none⟩ z
theorem put3_same {W : World} {b : Nat} {u v m : Value} {T : TypeId} (h : W.heap[b]? = some (.cells #[u, v, m] T (0, 0))) (x y z : Value) : (put3 W b x y z).heap[b]? = some (.cells #[x, y, z] T (0, 0)) := by
  simp [World.setCell, Array.getElem?_modify, h]
theorem cells3 {W : World} {b : Nat} {x y z : Value} {T : TypeId} (h : W.heap[b]? = some (.cells #[x, y, z] T (0, 0))) :
    W.cell? ⟨b, 0, none⟩ = some x ∧ W.cell? ⟨b, 1, none⟩ = some y ∧ W.cell? ⟨b, 2, none⟩ = some z ∧ W.frozen? ⟨b, 0, none⟩ = false ∧ W.frozen? ⟨b, 1, none⟩ = false ∧ W.frozen? ⟨b, 2, none⟩ = false := by
  simp [World.cell?, World.frozen?, h]
theorem put3_far {W : World} {b c : Nat} (h : c ≠ b) (x y z : Value) : (put3 W b x y z).heap[c]? = W.heap[c]? :=
  (Below.heap_setCell _ ⟨b, 2, none⟩ _ c h).trans ((Below.heap_setCell _ ⟨b, 1, none⟩ _ c h).trans (Below.heap_setCell _ ⟨b, 0, none⟩ _ c h))
theorem put3_below {B b : Nat} {a W : World} (h : Below B a W) (hb : B ≤ b) (x y z : Value) : Below B a (put3 W b x y z) :=
  ((h.setCell (p := ⟨b, 0, none⟩) hb _).setCell (p := ⟨b, 1, none⟩) hb _).setCell (p := ⟨b, 2, none⟩) hb _

/-- A list of two numbers that nobody else sees. -/
def RowIs (W : World) (gl : Nat) (V : List Int) : Prop := ∀ i, i < 2 → W.cell? ⟨gl, i, none⟩ = some (.int .i64 (V.getD i 0)) ∧ W.frozen? ⟨gl, i, none⟩ = false
theorem RowIs.lt {W : World} {gl : Nat} {V : List Int} (h : RowIs W gl V) : gl < W.heap.size := by
  rcases Nat.lt_or_ge gl W.heap.size with h1 | h1
  · exact h1
  · have := (h 0 (by omega)).1
    simp [World.cell?, Array.getElem?_eq_none h1] at this
theorem getD_snoc {V : List Int} {n : Int} {j i : Nat} (h : V.length = j) : (V ++ [n]).getD i 0 = if i = j then n else V.getD i 0 := by
  by_cases hi : i = j
  · rw [if_pos hi]; exact getD_last (h.trans hi.symm)
  · rw [if_neg hi]
    rcases Nat.lt_or_ge i V.length with h1 | h1
    · exact getD_left h1
    · rw [List.getD_eq_getElem?_getD, List.getD_eq_getElem?_getD, List.getElem?_eq_none (by simp; omega), List.getElem?_eq_none h1]
theorem row_set {W : World} {gl : Nat} {V : List Int} (h : RowIs W gl V) {j : Nat} (hj : j < 2) (hlen : V.length = j) (n : Int) : RowIs (W.setCell ⟨gl, j, none⟩ (.int .i64 n)) gl (V ++ [n]) := by
  intro i hi
  rw [getD_snoc hlen, World.frozen?_setCell]
  refine ⟨?_, (h i hi).2⟩
  by_cases hij : i = j
  · subst hij
    rw [if_pos rfl]
    exact World.cell?_setCell_same _ _ _ (h i hi).1
  · rw [if_neg hij]
    refine (World.cell?_setCell_other _ _ _ _ (fun e => hij ?_)).trans (h i hi).1
    exact (congrArg Addr.off e).symm
theorem row_far {W W' : World} {gl : Nat} {V : List Int} (h : RowIs W gl V) (hb : W'.heap[gl]? = W.heap[gl]?) : RowIs W' gl V := fun i hi =>
  ⟨(World.cell?_of_block (a := ⟨gl, i, none⟩) hb).trans (h i hi).1, (World.frozen?_of_block (a := ⟨gl, i, none⟩) hb).trans (h i hi).2⟩
end Go.Proofs.YtahejekcfgkiaaaDoor.inst

/-
  The document's own answer of the instruction with which bytes begin. A text of at most two to the forty-seventh bytes.
-/
namespace Go.Proofs.YtahejekcfgkiaaaDoor.inst
open Go.RowKit Go.ChangeShapes
open Go.Proofs.YtahejekcfgkiaaaDoor.oper (ret_int ret_bool ret_string)
open Go.Proofs.YtahejekcfgkiaaaDoor.octet (St rdByte rdNum rdInt Stands)
set_option linter.unusedVariables false

theorem got_read (l : List UInt8) : getI l = if (readI ⟨l, 0⟩).e ≠ 0 then .bad (readI ⟨l, 0⟩).e else ⟨(readI ⟨l, 0⟩).o, (readI ⟨l, 0⟩).a, (readI ⟨l, 0⟩).b, l.length - (readI ⟨l, 0⟩).s.rest.length, 0⟩ := by
  unfold getI readI
  dsimp only
  by_cases h1 : (rdByte ⟨l, 0⟩).2.err ≠ 0
  · simp only [if_pos h1]
  · simp only [if_neg h1]
    by_cases h2 : 51 < (rdByte ⟨l, 0⟩).1
    · simp only [if_pos h2]
      rfl
    · simp only [if_neg h2]
      by_cases h3 : (rdOpds (form ((rdByte ⟨l, 0⟩).1 : Int)) (rdByte ⟨l, 0⟩).2 (form ((rdByte ⟨l, 0⟩).1 : Int)).length).2.err ≠ 0
      · simp only [if_pos h3]
      · simp only [if_neg h3]
        by_cases h4 : chk ((rdByte ⟨l, 0⟩).1 : Int) ((rdOpds (form ((rdByte ⟨l, 0⟩).1 : Int)) (rdByte ⟨l, 0⟩).2 (form ((rdByte ⟨l, 0⟩).1 : Int)).length).1.getD 0 0) ((rdOpds (form ((rdByte ⟨l, 0⟩).1 : Int)) (rdByte ⟨l, 0⟩).2 (form ((rdByte ⟨l, 0⟩).1 : Int)).length).1.getD 1 0) ≠ 0
        · simp only [if_pos h4]
        · simp only [if_neg h4]
          rfl

/-- What a reading of bytes tells. -/
def GotPost (g : Got) (w : World) (e : Ending) (w' : World) : Prop :=
  e = .returned (.tuple #[.agg #[.int .i64 g.o, .int .i64 g.a, .int .i64 g.b], .int .i64 (g.n : Int), .int .i64 (g.e : Int)]) ∧ Below w.heap.size w w'

end Go.Proofs.YtahejekcfgkiaaaDoor.inst

/-
  What the program's calls on instructions must come to, as one bundle, so that the statements can be walked whatever the program's own text is; and the common end of all of them. No condition but that bundle.
-/
namespace Go.Proofs.YtahejekcfgkiaaaDoor.inst
open Go.RowKit Go.ChangeShapes
open Go.Proofs.YtahejekcfgkiaaaDoor.oper (ret_int ret_bool ret_string)
open Go.Proofs.YtahejekcfgkiaaaDoor.word (Word)
set_option linter.unusedVariables false

/-- An int. -/
def I64 (n : Int) : Prop := -9223372036854775808 ≤ n ∧ n ≤ 9223372036854775807
/-- An instruction that may be has small numbers alone. -/
theorem chk_i64 (o a b : Int) (h : chk o a b = 0) : I64 o ∧ I64 a ∧ I64 b := by
  obtain ⟨hk, hf⟩ := chk_zero h
  obtain ⟨h1, _, h3⟩ := chkF_zero hf
  have hj : ∀ j, j < 2 → I64 (opd a b j) := fun j hj => by
    rcases Nat.lt_or_ge j (form o).length with hl | hl
    · have := h1 j hl
      unfold okAt fitsB at this
      by_cases hc : (form o).getD j 0 = 110
      · rw [if_pos hc] at this
        have hw : Word (opd a b j) := by simpa using this
        unfold Word at hw; unfold I64; omega
      · rw [if_neg hc] at this
        have hw : least ((form o).getD j 0) ≤ opd a b j ∧ opd a b j ≤ most ((form o).getD j 0) := by simpa using this
        have h0 : 0 ≤ least ((form o).getD j 0) := by unfold least; split <;> omega
        have hm : most ((form o).getD j 0) ≤ 199 := by unfold most; split; omega; split; omega; split; omega; split <;> omega
        unfold I64; omega
    · rw [h3 j hl hj]; unfold I64; omega
  unfold Known at hk
  exact ⟨by unfold I64; omega, hj 0 (by omega), hj 1 (by omega)⟩
/-- The bytes that Put answers. -/
def putL (o a b : Int) : List UInt8 := if chk o a b = 0 then encI o a b else []
theorem putL_le (o a b : Int) : (putL o a b).length ≤ 21 := by
  unfold putL
  split
  · exact encI_le o a b
  · simp
/-- The program's calls come to what the document says, while Ok holds of the world, which nothing that makes memory breaks. -/
structure Keeps (Ok : World → Prop) : Prop where
  mono : ∀ W W' : World, Ok W → Below W.heap.size W W' → Ok W'
  check : ∀ (o a b : Int) (W : World), I64 o → I64 a → I64 b → Ok W → Calls Tryd.prog 45 #[.agg #[.int .i64 o, .int .i64 a, .int .i64 b]] W fun e w' => e = .returned (.int .i64 (chk o a b : Nat)) ∧ Below W.heap.size W w'
  put : ∀ (o a b : Int) (W : World), I64 o → I64 a → I64 b → Ok W → Calls Tryd.prog 31 #[.agg #[.int .i64 o, .int .i64 a, .int .i64 b]] W fun e w' => e = .returned (.tuple #[.string ⟨(putL o a b).toArray⟩, .int .i64 (chk o a b : Nat)]) ∧ Below W.heap.size W w'
  get : ∀ (t : ByteArray) (W : World), t.size ≤ 140737489403904 → Ok W → Calls Tryd.prog 55 #[.string t] W (GotPost (getI t.data.toList) W)

theorem putL_push : putL 0 (-1) 0 = [0, 1] := by decide +kernel
theorem chk_push : chk 0 (-1) 0 = 0 := by decide +kernel
theorem chk_99 : chk 99 0 0 = 6 := by decide +kernel
theorem get_load : getI [1, 7, 109, 111, 114, 101] = ⟨1, 7, 0, 2, 0⟩ := by
  have h : ∀ g : Got, g.o = 1 → g.a = 7 → g.b = 0 → g.n = 2 → g.e = 0 → g = ⟨1, 7, 0, 2, 0⟩ := fun g h1 h2 h3 h4 h5 => by cases g; simp_all
  exact h _ (by decide +kernel) (by decide +kernel) (by decide +kernel) (by decide +kernel) (by decide +kernel)

/-- An instruction stands at a place of its own, behind all that was there. -/
structure Box (w : World) (o a b : Int) (W : World) : Prop where
  below : Below w.heap.size w W
  blk : W.heap[w.heap.size]? = some (.cells #[.int .i64 o, .int .i64 a, .int .i64 b] 48 (0, 0))
theorem box_new (w : World) (o a b : Int) : Box w o a b (w.alloc (.cells #[.int .i64 o, .int .i64 a, .int .i64 b] 48)) := ⟨(Below.refl _ _).alloc (Nat.le_refl _) _, heap_alloc_new w _⟩
theorem Box.next {w W W' : World} {o a b : Int} (h : Box w o a b W) (hb : Below W.heap.size W W') : Box w o a b W' := by
  have h1 := lt_of_block h.blk
  exact ⟨h.below.trans (hb.mono (Nat.le_of_lt h1)), (hb.block _ h1).trans h.blk⟩

end Go.Proofs.YtahejekcfgkiaaaDoor.inst

/-
  The program's calls on words come to what the document says (typed over the code of 2169cae). No condition.
-/
namespace Go.Proofs.YtahejekcfgkiaaaDoor.word
open Go.RowKit Go.ChangeShapes

theorem conv_low (n : Int) : wrap64 (wrap32 n) = low n := by
  unfold wrap64 wrap32 low
  omega

set_option maxHeartbeats 400000 in
theorem low_any (n : Int) (w : World) :
    Calls Tryd.prog 83 #[.int .i64 n] w fun e w' => e = .returned (.int .i64 (low n)) ∧ w = w' := by
  have HW := Lib.hid (conv_low n)
  go_enter Tryd.func83, Tryd.ntmps83
  go_wp2
  go_ret
  exact ⟨ret_int HW.out, rfl⟩

/-- The numbers of sixty-four bits that a word's bits are. -/
def wd (n : Int) : Nat := (n % 18446744073709551616).toNat
theorem wd_low (n : Int) : wd n % 4294967296 = un n := by unfold wd un; omega
theorem wd_high {n : Int} (h : Word n) : wd n / 2147483648 = 0 ∨ wd n / 2147483648 = 8589934591 := by
  unfold Word at h
  unfold wd
  by_cases h0 : 0 ≤ n
  · left; omega
  · right; omega
theorem wrap_back {z : Nat} (_ : z < 18446744073709551616) (h : z / 2147483648 = 0 ∨ z / 2147483648 = 8589934591) : IntKind.i64.wrap (z : Int) = low ((z % 4294967296 : Nat) : Int) := by
  rw [IntKind.wrap_i64]
  unfold low
  omega
theorem ofInt_wd (n : Int) : (BitVec.ofInt 64 n).toNat = wd n := by
  rw [BitVec.toNat_ofInt]
  rfl
theorem wd_lt (n : Int) : wd n < 18446744073709551616 := by unfold wd; omega
theorem and_words {x y : Int} (hx : Word x) (hy : Word y) : bits .and .i64 x y = low (bitop 11 (un x) (un y) : Nat) := by
  show IntKind.i64.wrap ((BitVec.ofInt 64 x &&& BitVec.ofInt 64 y).toNat : Int) = _
  rw [BitVec.toNat_and, ofInt_wd, ofInt_wd]
  have h1 : (wd x &&& wd y) / 2 ^ 31 = wd x / 2 ^ 31 &&& wd y / 2 ^ 31 := Nat.and_div_two_pow
  have h2 : (wd x &&& wd y) % 2 ^ 32 = wd x % 2 ^ 32 &&& wd y % 2 ^ 32 := Nat.and_mod_two_pow
  have e1 : (2 : Nat) ^ 31 = 2147483648 := rfl
  have e2 : (2 : Nat) ^ 32 = 4294967296 := rfl
  rw [e1] at h1
  rw [e2, wd_low, wd_low] at h2
  rw [wrap_back (Nat.lt_of_le_of_lt Nat.and_le_left (wd_lt x)) ?_, h2]
  · rfl
  · rw [h1]
    rcases wd_high hx with a | a <;> rcases wd_high hy with b | b <;> rw [a, b] <;> decide
theorem or_words {x y : Int} (hx : Word x) (hy : Word y) : bits .or .i64 x y = low (bitop 12 (un x) (un y) : Nat) := by
  show IntKind.i64.wrap ((BitVec.ofInt 64 x ||| BitVec.ofInt 64 y).toNat : Int) = _
  rw [BitVec.toNat_or, ofInt_wd, ofInt_wd]
  have h1 : (wd x ||| wd y) / 2 ^ 31 = wd x / 2 ^ 31 ||| wd y / 2 ^ 31 := Nat.or_div_two_pow
  have h2 : (wd x ||| wd y) % 2 ^ 32 = wd x % 2 ^ 32 ||| wd y % 2 ^ 32 := Nat.or_mod_two_pow
  have e1 : (2 : Nat) ^ 31 = 2147483648 := rfl
  have e2 : (2 : Nat) ^ 32 = 4294967296 := rfl
  have hlt : wd x ||| wd y < 2 ^ 64 := Nat.or_lt_two_pow (wd_lt x) (wd_lt y)
  rw [e1] at h1
  rw [e2, wd_low, wd_low] at h2
  rw [wrap_back hlt ?_, h2]
  · rfl
  · rw [h1]
    rcases wd_high hx with a | a <;> rcases wd_high hy with b | b <;> rw [a, b] <;> decide
theorem xor_words {x y : Int} (hx : Word x) (hy : Word y) : bits .xor .i64 x y = low (bitop 13 (un x) (un y) : Nat) := by
  show IntKind.i64.wrap ((BitVec.ofInt 64 x ^^^ BitVec.ofInt 64 y).toNat : Int) = _
  rw [BitVec.toNat_xor, ofInt_wd, ofInt_wd]
  have h1 : (wd x ^^^ wd y) / 2 ^ 31 = wd x / 2 ^ 31 ^^^ wd y / 2 ^ 31 := Nat.xor_div_two_pow
  have h2 : (wd x ^^^ wd y) % 2 ^ 32 = wd x % 2 ^ 32 ^^^ wd y % 2 ^ 32 := Nat.xor_mod_two_pow
  have e1 : (2 : Nat) ^ 31 = 2147483648 := rfl
  have e2 : (2 : Nat) ^ 32 = 4294967296 := rfl
  have hlt : wd x ^^^ wd y < 2 ^ 64 := Nat.xor_lt_two_pow (wd_lt x) (wd_lt y)
  rw [e1] at h1
  rw [e2, wd_low, wd_low] at h2
  rw [wrap_back hlt ?_, h2]
  · rfl
  · rw [h1]
    rcases wd_high hx with a | a <;> rcases wd_high hy with b | b <;> rw [a, b] <;> decide
theorem mask5 (n : Int) : bits .and .i64 n 31 = (far n : Int) := by
  show IntKind.i64.wrap ((BitVec.ofInt 64 n &&& BitVec.ofInt 64 31).toNat : Int) = _
  rw [BitVec.toNat_and, ofInt_wd, show (BitVec.ofInt 64 31).toNat = 2 ^ 5 - 1 from rfl, Nat.and_two_pow_sub_one_eq_mod, IntKind.wrap_i64]
  have e : (2 : Nat) ^ 5 = 32 := rfl
  rw [e]
  unfold wd far
  omega

theorem fits_low (n : Int) : (low n == n) = decide (Word n) := by
  rw [Bool.eq_iff_iff, beq_iff_eq, decide_eq_true_iff]
  constructor
  · intro h
    rw [← h]
    exact low_word n
  · intro h
    exact low_id h
set_option maxHeartbeats 400000 in
theorem fits_any (n : Int) (w : World) :
    Calls Tryd.prog 71 #[.int .i64 n] w fun e w' => e = .returned (.bool (decide (Word n))) ∧ w = w' := by
  have HF := Lib.hid (fits_low n)
  go_enter Tryd.func71, Tryd.ntmps71
  go_wp2_with fail
  refine (low_any _ _).mono ?_
  rintro e w1 ⟨rfl, rfl⟩
  go_wp2
  go_ret
  exact ⟨ret_bool HF.out, rfl⟩

theorem conv_half (n : Int) : wrap32 n = low n := by
  unfold wrap32 low
  omega
theorem wide_low (n : Int) : wrap64 (low n) = low n := by
  have := low_word n
  unfold Word at this
  unfold wrap64
  omega
/-- A quotient of words, and its fault. -/
def quo (a b : Int) : Int × Int := if b = 0 then (0, 2) else ex (a.tdiv b)
def left (a b : Int) : Int × Int := if b = 0 then (0, 2) else (a.tmod b, 0)
end Go.Proofs.YtahejekcfgkiaaaDoor.word

/-
  Package span: a number that is read, held below two to the thirty-first, and whether a number lies in a span ; what is wrong with how many there are (typed over the code of 4b95722). A text of at most two to the forty-seventh bytes.
-/
namespace Go.Proofs.YtahejekcfgkiaaaDoor.span
open Go.RowKit Go.ChangeShapes
open Go.Proofs.YtahejekcfgkiaaaDoor.octet (St InAt Frm rdNum numIn_any)
set_option linter.unusedVariables false

theorem ret_int {k : IntKind} {a b : Int} (h : a = b) : Ending.returned (.int k a) = .returned (.int k b) := by rw [h]
theorem within_any (v lo hi : Int) (w : World) : Calls Tryd.prog 59 #[.int .i64 v, .int .i64 lo, .int .i64 hi] w fun e w' => e = .returned (.bool (decide (lo ≤ v ∧ v ≤ hi))) ∧ w = w' := by
  by_cases h1 : lo ≤ v
  · by_cases h2 : v ≤ hi
    · rw [decide_eq_true ⟨h1, h2⟩]
      go_enter Tryd.func59, Tryd.ntmps59
      go_wp2
      go_ret
      exact ⟨rfl, rfl⟩
    · rw [decide_eq_false (fun h => h2 h.2)]
      have hd : decide (v ≤ hi) = false := by simpa using h2
      go_enter Tryd.func59, Tryd.ntmps59
      go_wp2
      go_ret
      exact ⟨rfl, rfl⟩
  · rw [decide_eq_false (fun h => h1 h.1)]
    have hd : decide (lo ≤ v) = false := by simpa using h1
    go_enter Tryd.func59, Tryd.ntmps59
    go_wp2
    go_ret
    exact ⟨rfl, rfl⟩

/-- A number as it is read here: a great one is two to the thirty-first less one. -/
def pN (s : St) : Int × St := (((min (rdNum s).1 2147483647 : Nat) : Int), (rdNum s).2)
set_option maxHeartbeats 400000 in
theorem num_any (w : World) (bi : Nat) (s : St) (hi : InAt w bi s) (hok : s.ok) (hl : s.rest.length ≤ 140737489403904) :
    Calls Tryd.prog 53 #[.pointer (some ⟨bi, 0, none⟩)] w fun e w' => e = .returned (.int .i64 (pN s).1) ∧ InAt w' bi (pN s).2 ∧ Frm w.heap.size bi w w' := by
  have HI := Lib.hid (numIn_any w bi s hi hok hl)
  unfold pN
  generalize rdNum s = p at *
  obtain ⟨v, S⟩ := p
  dsimp only at HI ⊢
  go_enter Tryd.func53, Tryd.ntmps53
  go_wp2_with fail
  refine HI.out.mono ?_
  rintro e w1 ⟨rfl, h1, h2⟩
  go_wp2
  all_goals
    go_ret
    refine ⟨ret_int ?_, h1, h2⟩
    omega
/-- What is wrong with how many there are, where there may be as many as m. -/
def cntC (n m : Nat) : Nat := if n = 0 then 2 else if m < n then 4 else 0
theorem count_any (n m : Nat) (w : World) : Calls Tryd.prog 40 #[.int .i64 (n : Int), .int .i64 (m : Int)] w fun e w' => e = .returned (.int .i64 ((cntC n m : Nat) : Int)) ∧ w = w' := by
  unfold cntC
  by_cases h0 : n = 0
  · subst h0
    go_enter Tryd.func40, Tryd.ntmps40
    go_wp2
    go_ret
    exact ⟨rfl, rfl⟩
  · rw [if_neg h0]
    have e0 : ((n : Int) == 0) = false := by simp; omega
    by_cases h4 : m < n
    · rw [if_pos h4]
      have e4 : decide ((m : Int) < (n : Int)) = true := by simp; omega
      have e5 : decide (m < n) = true := by simp; omega
      clear h0 h4
      go_enter Tryd.func40, Tryd.ntmps40
      go_wp2
      go_ret
      exact ⟨rfl, rfl⟩
    · rw [if_neg h4]
      have e4 : decide ((m : Int) < (n : Int)) = false := by simp; omega
      have e5 : decide (m < n) = false := by simp; omega
      clear h0 h4
      go_enter Tryd.func40, Tryd.ntmps40
      go_wp2
      go_ret
      exact ⟨rfl, rfl⟩
end Go.Proofs.YtahejekcfgkiaaaDoor.span

/-
  The program's own check of an instruction (typed over the code of 392f5a9): for every instruction. The table of names must lie where its initialiser lays it.
-/
namespace Go.Proofs.YtahejekcfgkiaaaDoor.inst
open Go.RowKit Go.ChangeShapes
open Go.Proofs.YtahejekcfgkiaaaDoor.oper (ret_int ret_bool ret_string Tab nm txt)
open Go.Proofs.YtahejekcfgkiaaaDoor.word (Word)
set_option linter.unusedVariables false

/-- What the program's calls ask of the world: the table of names lies where it should, below all that is made. -/
def Okw (w : World) : Prop := Tab w ∧ 2 < w.heap.size
theorem Okw.below {B : Nat} {w w' : World} (h : Okw w) (hb : Below B w w') (hB : 2 < B) : Okw w' := ⟨h.1.below hb hB, Nat.lt_of_lt_of_le h.2 hb.size⟩
theorem Okw.next {w w' : World} (h : Okw w) (hb : Below w.heap.size w w') : Okw w' := h.below hb h.2

theorem u8_of {c : UInt8} {k : UInt8} (h : ((c.toNat : Int) == (k.toNat : Int)) = true) : c = k := by
  have h1 := eq_of_beq h
  exact UInt8.toNat_inj.1 (by omega)
theorem u8_not {c : UInt8} {k : UInt8} (h : ((c.toNat : Int) == (k.toNat : Int)) = false) : c ≠ k := fun e => by
  subst e
  simp at h
theorem fits_bad {c : UInt8} {v : Int} (h0 : ((c.toNat : Int) == 110) = false) : fitsB c v = decide (least c ≤ v ∧ v ≤ most c) := by
  unfold fitsB
  rw [if_neg (u8_not (k := 110) h0)]
theorem fits_k (c : UInt8) (lo hi v : Int) (h : c ≠ 110) (h1 : least c = lo) (h2 : most c = hi) : (decide (lo ≤ v) && decide (v ≤ hi)) = fitsB c v := by
  unfold fitsB
  rw [if_neg h, h1, h2, Bool.decide_and]
theorem fits_n (v : Int) : decide (Word v) = fitsB 110 v := by
  unfold fitsB
  rw [if_pos rfl]
theorem fits_rest {c : UInt8} {v : Int} (h0 : ((c.toNat : Int) == 110) = false) (h1 : ((c.toNat : Int) == 107) = false) (h2 : ((c.toNat : Int) == 116) = false) (h3 : ((c.toNat : Int) == 102) = false) (h4 : ((c.toNat : Int) == 106) = false) :
    fitsB c v = (decide (0 ≤ v) && decide (v ≤ 31)) := by
  rw [fits_bad h0]
  unfold least most
  rw [Bool.decide_and, if_neg (u8_not (k := 106) h4), if_neg (u8_not (k := 107) h1), if_neg (u8_not (k := 116) h2), if_neg (u8_not (k := 102) h3), if_neg (u8_not (k := 106) h4)]

set_option maxHeartbeats 1000000 in
theorem inRange_any (c : UInt8) (v : Int) (w : World) : Calls Tryd.prog 64 #[.int .u8 (c.toNat : Int), .int .i64 v] w fun e w' => e = .returned (.bool (fitsB c v)) ∧ w = w' := by
  go_enter Tryd.func64, Tryd.ntmps64
  go_wp2_with (first
    | (go_at_call 59; refine (Go.Proofs.YtahejekcfgkiaaaDoor.span.within_any v _ _ _).mono ?_; rintro e w' ⟨rfl, rfl⟩)
    | (go_at_call 71; refine (Go.Proofs.YtahejekcfgkiaaaDoor.word.fits_any v _).mono ?_; rintro e w' ⟨rfl, rfl⟩))
  all_goals go_ret
  all_goals refine ⟨ret_bool ?_, rfl⟩
  all_goals first
    | (have hq : c = 110 := u8_of (k := 110) ‹((c.toNat : Int) == 110) = true›; subst hq; first | exact fits_n v | (refine fits_k _ _ _ v ?_ ?_ ?_ <;> decide))
    | (have hq : c = 107 := u8_of (k := 107) ‹((c.toNat : Int) == 107) = true›; subst hq; first | exact fits_n v | (refine fits_k _ _ _ v ?_ ?_ ?_ <;> decide))
    | (have hq : c = 116 := u8_of (k := 116) ‹((c.toNat : Int) == 116) = true›; subst hq; first | exact fits_n v | (refine fits_k _ _ _ v ?_ ?_ ?_ <;> decide))
    | (have hq : c = 102 := u8_of (k := 102) ‹((c.toNat : Int) == 102) = true›; subst hq; first | exact fits_n v | (refine fits_k _ _ _ v ?_ ?_ ?_ <;> decide))
    | (have hq : c = 119 := u8_of (k := 119) ‹((c.toNat : Int) == 119) = true›; subst hq; first | exact fits_n v | (refine fits_k _ _ _ v ?_ ?_ ?_ <;> decide))
    | (have hq : c = 106 := u8_of (k := 106) ‹((c.toNat : Int) == 106) = true›; subst hq; first | exact fits_n v | (refine fits_k _ _ _ v ?_ ?_ ?_ <;> decide))
    | exact (fits_rest ‹_› ‹_› ‹_› ‹_› ‹_›).symm

theorem named : ∀ k, k < 52 → (!(nm.getD k ⟨#[]⟩).toList.isEmpty) = true := by decide +kernel
theorem txt_named (o : Int) : (!(txt nm o).toList.isEmpty) = decide (Known o) := by
  by_cases h : Known o
  · rw [decide_eq_true h]
    obtain ⟨k, hk, rfl⟩ := Go.Proofs.YtahejekcfgkiaaaDoor.oper.nat_of h
    rw [Go.Proofs.YtahejekcfgkiaaaDoor.oper.txt_at hk]
    exact named k hk
  · rw [decide_eq_false h, Go.Proofs.YtahejekcfgkiaaaDoor.oper.txt_no (by unfold Known at h; omega)]
    rw [ByteArray.toList_eq]
    rfl
theorem knows_any (o : Int) (w : World) (hT : Tab w) : Calls Tryd.prog 63 #[.int .i64 o] w fun e w' => e = .returned (.bool (decide (Known o))) ∧ w = w' := by
  have HN := Lib.hid (Go.Proofs.YtahejekcfgkiaaaDoor.oper.name_any o w hT)
  have HE := Lib.hid (txt_named o)
  clear hT
  generalize txt nm o = x at *
  go_enter Tryd.func63, Tryd.ntmps63
  go_wp2_with fail
  refine HN.out.mono ?_
  rintro e w' ⟨rfl, rfl⟩
  go_wp2
  go_ret
  exact ⟨ret_bool HE.out, rfl⟩
end Go.Proofs.YtahejekcfgkiaaaDoor.inst
