/-
  Members that arrive in turn, from any of them on, round the end: plain mathematics. No condition.
-/
import Derived.Test.YtiekbbknmneikaaBarPlain
namespace Go.Proofs.Ytiekbbknmneikaa.bar
open Go.Proofs.Ytiekbbknmneikaa.bits (Is64 hasB wth wout may minus els mem_els els_rising wth_lt testBit_wth ext64 els_nil)

/-- Who comes as number i, d places on. -/
def rot (l : List Nat) (d i : Nat) : Nat := l.getD ((i + d) % l.length) 0
/-- Those that have come ahead of number i. -/
def met (l : List Nat) (d : Nat) : Nat → Nat
  | 0 => 0
  | i + 1 => wth (met l d i) ((rot l d i : Nat) : Int)
section
variable {l : List Nat} {d i j : Nat}
theorem rot_at (hn : 0 < l.length) : ∃ h : (i + d) % l.length < l.length, rot l d i = l[(i + d) % l.length] := by
  have h := Nat.mod_lt (i + d) hn
  refine ⟨h, ?_⟩
  unfold rot
  rw [List.getD_eq_getElem?_getD, List.getElem?_eq_getElem h]
  rfl
theorem rot_mem (hn : 0 < l.length) : rot l d i ∈ l := by
  obtain ⟨h, e⟩ := rot_at (d := d) (i := i) hn
  rw [e]
  exact List.getElem_mem h
theorem turn_mod {n e i : Nat} (he : e < n) (hi : i < n) : (i + e) % n = if i + e < n then i + e else i + e - n := by
  split
  · exact Nat.mod_eq_of_lt (by omega)
  · rw [Nat.mod_eq_sub_mod (by omega)]
    exact Nat.mod_eq_of_lt (by omega)
theorem turn_inj {n : Nat} (hi : i < n) (hj : j < n) (h : (i + d) % n = (j + d) % n) : i = j := by
  have he : d % n < n := Nat.mod_lt _ (by omega)
  rw [← Nat.add_mod_mod i, ← Nat.add_mod_mod j, turn_mod he hi, turn_mod he hj] at h
  split at h <;> split at h <;> omega
theorem turn_onto {n p : Nat} (hp : p < n) : ∃ i, i < n ∧ (i + d) % n = p := by
  have he : d % n < n := Nat.mod_lt _ (by omega)
  by_cases h : d % n ≤ p
  · refine ⟨p - d % n, by omega, ?_⟩
    rw [← Nat.add_mod_mod, turn_mod he (by omega), if_pos (by omega)]
    omega
  · refine ⟨p + n - d % n, by omega, ?_⟩
    rw [← Nat.add_mod_mod, turn_mod he (by omega), if_neg (by omega)]
    omega
theorem rising_inj (hl : l.Pairwise (· < ·)) {a b : Nat} (ha : a < l.length) (hb : b < l.length) (h : l[a] = l[b]) : a = b := by
  rw [List.pairwise_iff_getElem] at hl
  rcases Nat.lt_trichotomy a b with h1 | h1 | h1
  · have := hl a b ha hb h1; omega
  · exact h1
  · have := hl b a hb ha h1; omega
theorem rot_inj (hl : l.Pairwise (· < ·)) (hi : i < l.length) (hj : j < l.length) (h : rot l d i = rot l d j) : i = j := by
  obtain ⟨h1, e1⟩ := rot_at (d := d) (i := i) (l := l) (by omega)
  obtain ⟨h2, e2⟩ := rot_at (d := d) (i := j) (l := l) (by omega)
  rw [e1, e2] at h
  exact turn_inj hi hj (rising_inj hl h1 h2 h)
theorem rot_onto {k : Nat} (hk : k ∈ l) : ∃ i, i < l.length ∧ rot l d i = k := by
  obtain ⟨p, hp, e⟩ := List.getElem_of_mem hk
  obtain ⟨i, hi, he⟩ := turn_onto (d := d) hp
  obtain ⟨h1, e1⟩ := rot_at (d := d) (i := i) (l := l) (by omega)
  refine ⟨i, hi, ?_⟩
  rw [e1, ← e]
  congr 1
theorem met_lt (l : List Nat) (d : Nat) : ∀ i, Is64 (met l d i)
  | 0 => by unfold met Is64; omega
  | i + 1 => wth_lt (met_lt l d i) _
theorem met_bit (h : ∀ n ∈ l, n < 64) (k : Nat) : ∀ i, (i ≤ l.length) → ((met l d i).testBit k = true ↔ ∃ j, j < i ∧ rot l d j = k)
  | 0, _ => by
    unfold met
    rw [Nat.zero_testBit]
    exact ⟨fun h => absurd h (by decide), fun ⟨j, h, _⟩ => absurd h (Nat.not_lt_zero j)⟩
  | i + 1, hi => by
    have hr : rot l d i < 64 := h _ (rot_mem (by omega))
    have hm : may ((rot l d i : Nat) : Int) := by unfold may; omega
    show (wth (met l d i) ((rot l d i : Nat) : Int)).testBit k = true ↔ _
    rw [testBit_wth, Bool.or_eq_true, met_bit h k i (by omega), decide_eq_true hm, Bool.true_and, decide_eq_true_iff, Int.toNat_natCast]
    constructor
    · rintro (⟨j, hj, e⟩ | e)
      · exact ⟨j, by omega, e⟩
      · exact ⟨i, by omega, e⟩
    · rintro ⟨j, hj, e⟩
      rcases Nat.lt_or_ge j i with h1 | h1
      · exact .inl ⟨j, h1, e⟩
      · have : j = i := by omega
        subst this
        exact .inr e
end
section
variable {M : Nat} {d i : Nat}
theorem els_lt64 (M : Nat) : ∀ n ∈ els M, n < 64 := fun _ h => (mem_els.1 h).1
theorem rot_has (hi : i < (els M).length) : may ((rot (els M) d i : Nat) : Int) ∧ hasB M ((rot (els M) d i : Nat) : Int) = true := by
  have h := mem_els.1 (rot_mem (l := els M) (d := d) (i := i) (by omega))
  have hm : may ((rot (els M) d i : Nat) : Int) := by unfold may; omega
  refine ⟨hm, ?_⟩
  unfold hasB
  rw [decide_eq_true hm, Bool.true_and, Int.toNat_natCast]
  exact h.2
theorem rot_new (hi : i < (els M).length) : (met (els M) d i).testBit (rot (els M) d i) = false := by
  rw [← Bool.not_eq_true, met_bit (els_lt64 M) _ i (by omega)]
  rintro ⟨j, hj, e⟩
  have := rot_inj (els_rising M) (by omega) hi e
  omega
theorem rot_not (hi : i < (els M).length) : hasB (met (els M) d i) ((rot (els M) d i : Nat) : Int) = false := by
  unfold hasB
  rw [Int.toNat_natCast, rot_new hi]
  simp
theorem met_sub (hi : i ≤ (els M).length) : ∀ k, (met (els M) d i).testBit k = true → M.testBit k = true := fun k h => by
  rw [met_bit (els_lt64 M) k i hi] at h
  obtain ⟨j, hj, rfl⟩ := h
  exact (mem_els.1 (rot_mem (l := els M) (by omega))).2
theorem met_all (hM : Is64 M) : met (els M) d (els M).length = M := by
  refine ext64 (met_lt _ _ _) hM fun k hk => ?_
  rw [Bool.eq_iff_iff, met_bit (els_lt64 M) k _ (Nat.le_refl _)]
  constructor
  · rintro ⟨j, hj, rfl⟩
    exact (mem_els.1 (rot_mem (l := els M) (by omega))).2
  · exact fun h => rot_onto (mem_els.2 ⟨hk, h⟩)
theorem met_miss (hi : i < (els M).length) : missB ⟨M, met (els M) d i⟩ ≠ 0 := by
  have h := mem_els.1 (rot_mem (l := els M) (d := d) (i := i) (by omega))
  exact miss_bit (s := ⟨M, met (els M) d i⟩) (met_lt _ _ _) h.1 h.2 (rot_new hi)
theorem met_fine (hM : Is64 M) (hi : i < (els M).length) : Fine ⟨M, met (els M) d i⟩ :=
  ⟨hM, met_lt _ _ _, met_sub (by omega), fun _ => met_miss hi⟩
theorem miss_all (hM : Is64 M) : missB ⟨M, M⟩ = 0 := minus_none hM hM fun _ h => h
/-- What number i is told. -/
theorem turn_arrive (hM : Is64 M) (hi : i < (els M).length) :
    arriveB ⟨M, met (els M) d i⟩ ((rot (els M) d i : Nat) : Int) = if i + 1 = (els M).length then (⟨M, 0⟩, met (els M) d i, true, 0) else (⟨M, met (els M) d (i + 1)⟩, 0, false, 0) := by
  obtain ⟨hm, hb⟩ := rot_has (d := d) hi
  have hn := rot_not (d := d) hi
  unfold arriveB
  rw [if_neg (by unfold may at hm; omega), if_neg (by rw [hb]; decide), if_neg (by rw [hn]; decide)]
  show (if missB ⟨M, met (els M) d (i + 1)⟩ = 0 then _ else _) = _
  by_cases h : i + 1 = (els M).length
  · rw [if_pos h, if_pos]
    rw [h, met_all hM]
    exact miss_all hM
  · rw [if_neg h, if_neg (met_miss (by omega))]
    rfl
/-- What number i of those that come to be members is told. -/
theorem turn_enrol (hi : i < (els M).length) :
    enrolB ⟨met (els M) 0 i, 0⟩ ((rot (els M) 0 i : Nat) : Int) = (⟨met (els M) 0 (i + 1), 0⟩, 0) := by
  obtain ⟨hm, _⟩ := rot_has (d := 0) hi
  have hn := rot_not (d := 0) hi
  unfold enrolB
  rw [if_neg (by unfold may at hm; omega), if_neg (by rw [hn]; decide), if_neg (by simp)]
  rfl
theorem rot_zero {l : List Nat} (hi : i < l.length) : l[i]? = some (rot l 0 i) := by
  obtain ⟨h, e⟩ := rot_at (d := 0) (i := i) (l := l) (by omega)
  rw [e, List.getElem?_eq_getElem hi]
  have : (i + 0) % l.length = i := Nat.mod_eq_of_lt (by omega)
  simp only [this]
theorem rot_some {l : List Nat} (hn : 0 < l.length) : l[(i + d) % l.length]? = some (rot l d i) := by
  obtain ⟨h, e⟩ := rot_at (d := d) (i := i) (l := l) hn
  rw [e, List.getElem?_eq_getElem h]
end
end Go.Proofs.Ytiekbbknmneikaa.bar
