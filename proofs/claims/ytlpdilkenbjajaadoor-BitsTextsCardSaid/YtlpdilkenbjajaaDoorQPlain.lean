/-
  The number of a text with no more than so many digits: plain mathematics over the library's own words for what Atoi, Itoa and TrimPrefix answer. No condition.
-/
import Derived.Lib.AtoiAllCases
import Derived.Lib.ItoaNum
import Derived.Lib.Strings
namespace Go.Proofs.YtlpdilkenbjajaaDoor.digi
set_option linter.unusedVariables false

/-- The number of a text with so many digits at most; none: it has not just the form in which a number is written. -/
def readD (t : List UInt8) (k : Nat) : Option Int :=
  match Lib.atoiAll t with
  | .ok v => if Lib.itoa v = t ∧ (Lib.trimPrefix t [45]).length ≤ k then some v else none
  | _ => none

theorem dec_small {u : Nat} (h : u < 10) : Lib.decDigits u = [UInt8.ofNat (48 + u)] := by rw [Lib.decDigits, dif_pos h]
theorem dec_big {u : Nat} (h : ¬ u < 10) : Lib.decDigits u = Lib.decDigits (u / 10) ++ [UInt8.ofNat (48 + u % 10)] := by rw [Lib.decDigits, dif_neg h]
theorem digit_nat {n : Nat} (h : n < 10) : (UInt8.ofNat (48 + n)).toNat = 48 + n := by rw [UInt8.toNat_ofNat']; omega
theorem parse_dec (r : List UInt8) : ∀ u : Nat, u < 18446744073709551616 → Lib.parseUint10 0 (Lib.decDigits u ++ r) = Lib.parseUint10 u r := by
  intro u
  induction u using Nat.strongRecOn generalizing r with
  | _ u ih =>
    intro hu
    by_cases h : u < 10
    · rw [dec_small h, List.singleton_append, Lib.parseUint10, digit_nat h, if_pos ⟨by omega, by omega⟩, if_neg (by omega), if_neg (by omega)]
      congr 1
      omega
    · rw [dec_big h, List.append_assoc, List.singleton_append, ih (u / 10) (by omega) _ (by omega), Lib.parseUint10, digit_nat (by omega), if_pos ⟨by omega, by omega⟩, if_neg (by omega), if_neg (by omega)]
      congr 1
      omega
theorem dec_head : ∀ u : Nat, ∃ c r, Lib.decDigits u = c :: r ∧ 48 ≤ c.toNat ∧ c.toNat ≤ 57 := by
  intro u
  induction u using Nat.strongRecOn with
  | _ u ih =>
    by_cases h : u < 10
    · exact ⟨_, [], dec_small h, by rw [digit_nat h]; omega, by rw [digit_nat h]; omega⟩
    · obtain ⟨c, r, e, h1, h2⟩ := ih (u / 10) (by omega)
      exact ⟨c, r ++ [UInt8.ofNat (48 + u % 10)], by rw [dec_big h, e]; rfl, h1, h2⟩
theorem mag_dec {u : Nat} (h : u < 18446744073709551616) : Lib.parseMag (Lib.decDigits u) = .ok u := by
  obtain ⟨c, r, e, _⟩ := dec_head u
  unfold Lib.parseMag
  rw [if_neg (by rw [e]; simp)]
  have := parse_dec [] u h
  rw [List.append_nil] at this
  rw [this, Lib.parseUint10]
def I64 (v : Int) : Prop := -9223372036854775808 ≤ v ∧ v ≤ 9223372036854775807
theorem atoi_itoa {v : Int} (h : I64 v) : Lib.atoiAll (Lib.itoa v) = .ok v := by
  obtain ⟨h1, h2⟩ := h
  unfold Lib.itoa
  by_cases h0 : v < 0
  · rw [if_pos h0, Lib.atoiAll_minus, mag_dec (u := v.natAbs) (by omega)]
    show (if 9223372036854775808 < v.natAbs then Lib.NumEnd.range else .ok (-(v.natAbs : Int))) = _
    rw [if_neg (by omega)]
    congr 1
    omega
  · rw [if_neg h0]
    obtain ⟨c, r, e, k1, k2⟩ := dec_head v.toNat
    have hm := mag_dec (u := v.toNat) (by omega)
    rw [e] at hm ⊢
    rw [Lib.atoiAll_plain c r (by omega) (by omega), hm]
    show (if 9223372036854775808 ≤ v.toNat then Lib.NumEnd.range else .ok (v.toNat : Int)) = _
    rw [if_neg (by omega)]
    congr 1
    omega
theorem atoi_small {l : List UInt8} {v : Int} (h : Lib.atoiAll l = .ok v) : I64 v := Lib.atoiAll_bounds h
theorem trim_itoa (v : Int) : Lib.trimPrefix (Lib.itoa v) [45] = Lib.decDigits v.natAbs := by
  unfold Lib.trimPrefix Lib.hasPrefix Lib.itoa
  by_cases h0 : v < 0
  · rw [if_pos h0]
    simp
  · rw [if_neg h0, show v.natAbs = v.toNat by omega]
    obtain ⟨c, r, e, k1, k2⟩ := dec_head v.toNat
    rw [e]
    have hc : ((45 : UInt8) == c) = false := beq_eq_false_iff_ne.2 fun e2 => by subst e2; exact absurd k1 (by decide)
    simp [List.isPrefixOf, hc]
theorem readD_some {t : List UInt8} {k : Nat} {v : Int} (h : readD t k = some v) : Lib.atoiAll t = .ok v ∧ t = Lib.itoa v ∧ I64 v ∧ (Lib.decDigits v.natAbs).length ≤ k := by
  unfold readD at h
  split at h
  · rename_i x hx
    split at h
    · rename_i hc
      injection h with h
      subst h
      refine ⟨hx, hc.1.symm, atoi_small hx, ?_⟩
      rw [← trim_itoa, hc.1]
      exact hc.2
    · cases h
  · cases h
theorem readD_itoa {v : Int} {k : Nat} (h : I64 v) (hk : (Lib.decDigits v.natAbs).length ≤ k) : readD (Lib.itoa v) k = some v := by
  unfold readD
  rw [atoi_itoa h]
  show (if Lib.itoa v = Lib.itoa v ∧ _ then some v else none) = some v
  rw [if_pos ⟨rfl, by rw [trim_itoa]; exact hk⟩]
end Go.Proofs.YtlpdilkenbjajaaDoor.digi
