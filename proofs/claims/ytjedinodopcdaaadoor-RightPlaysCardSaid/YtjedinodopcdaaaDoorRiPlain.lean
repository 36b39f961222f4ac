/-
  Who may post and signal, as the document has it: a set of objects for each of 64 threads: plain mathematics. No condition.
-/
import Derived.Test.YtjedinodopcdaaaDoorBMore
namespace Go.Proofs.YtjedinodopcdaaaDoor.rig
open Go.Proofs.YtjedinodopcdaaaDoor.bits (Is64 hasB wth may minus testBit_wth wth_lt testBit_minus minus_lt ext64 els mem_els bitN)

/-- The rights of a thread. -/
def rv (l : List Nat) (t : Int) : Nat := if 0 ≤ t ∧ t < 64 then l.getD t.toNat 0 else 0
/-- Those of a thread being others. -/
def setR (l : List Nat) (t : Int) (s : Nat) : List Nat := if 0 ≤ t ∧ t < 64 then l.set t.toNat s else l
def allR : Nat := 4294967295
/-- Rights behind a call. -/
def doR (l : List Nat) (k f t : Int) (m : Nat) : List Nat :=
  if k = 0 then setR l t allR
  else if k = 1 then setR l t (rv l f &&& m)
  else if k = 2 then setR l t (rv l t ||| (rv l f &&& m))
  else if k = 3 then setR l t (minus (rv l t) m)
  else setR l t 0
def zerosR : List Nat := List.replicate 64 0
/-- Those among the least n for which something holds, as a set. -/
def upto (p : Nat → Bool) : Nat → Nat
  | 0 => 0
  | n + 1 => if p n then wth (upto p n) (n : Int) else upto p n
/-- All threads that have the right on an object. -/
def whoR (l : List Nat) (o : Int) : Nat := upto (fun t => hasB (l.getD t 0) o) 64
structure Fine (l : List Nat) : Prop where
  len : l.length = 64
  lt : ∀ j, l.getD j 0 < 4294967296

theorem zeros_get (j : Nat) : zerosR.getD j 0 = 0 := by
  unfold zerosR
  rw [List.getD_eq_getElem?_getD, List.getElem?_replicate]
  split <;> rfl
theorem zero_fine : Fine zerosR := ⟨rfl, fun j => by rw [zeros_get]; omega⟩
theorem rv_in {l : List Nat} {t : Int} (h0 : 0 ≤ t) (h1 : t < 64) : rv l t = l.getD t.toNat 0 := if_pos ⟨h0, h1⟩
theorem rv_out {l : List Nat} {t : Int} (h : t < 0 ∨ 64 ≤ t) : rv l t = 0 := if_neg (by omega)
theorem set_in {l : List Nat} {t : Int} {s : Nat} (h0 : 0 ≤ t) (h1 : t < 64) : setR l t s = l.set t.toNat s := if_pos ⟨h0, h1⟩
theorem set_out {l : List Nat} {t : Int} {s : Nat} (h : t < 0 ∨ 64 ≤ t) : setR l t s = l := if_neg (by omega)
theorem rv_nat (l : List Nat) {t : Nat} (h : t < 64) : rv l (t : Int) = l.getD t 0 := by
  rw [rv_in (by omega) (by omega)]
  rfl
theorem rv_zeros (t : Int) : rv zerosR t = 0 := by
  unfold rv
  split
  · exact zeros_get _
  · rfl
theorem rv_lt {l : List Nat} (h : Fine l) (t : Int) : rv l t < 4294967296 := by
  unfold rv
  split
  · exact h.lt _
  · omega
theorem is64_of {s : Nat} (h : s < 4294967296) : Is64 s := by unfold Is64; omega
theorem rv_is {l : List Nat} (h : Fine l) (t : Int) : Is64 (rv l t) := is64_of (rv_lt h t)
theorem set_fine {l : List Nat} (h : Fine l) (t : Int) {s : Nat} (hs : s < 4294967296) : Fine (setR l t s) := by
  unfold setR
  split
  · refine ⟨by rw [List.length_set]; exact h.len, fun j => ?_⟩
    rw [List.getD_eq_getElem?_getD, List.getElem?_set]
    have := h.lt j
    rw [List.getD_eq_getElem?_getD] at this
    split
    · split
      · exact hs
      · simp
    · exact this
  · exact h
theorem rv_set {l : List Nat} (h : Fine l) (t u : Int) (s : Nat) : rv (setR l t s) u = if u = t ∧ 0 ≤ t ∧ t < 64 then s else rv l u := by
  have hl := h.len
  unfold setR
  by_cases ht : 0 ≤ t ∧ t < 64
  · rw [if_pos ht]
    unfold rv
    by_cases hu : 0 ≤ u ∧ u < 64
    · rw [if_pos hu]
      by_cases e : u = t
      · subst e
        rw [if_pos ⟨rfl, ht⟩, List.getD_eq_getElem?_getD, List.getElem?_set_self (by omega)]
        rfl
      · rw [if_neg (fun h => e h.1), if_pos hu, List.getD_eq_getElem?_getD, List.getD_eq_getElem?_getD, List.getElem?_set_ne (by omega)]
    · rw [if_neg hu, if_neg (fun h => hu (by rw [h.1]; exact ht)), if_neg hu]
  · rw [if_neg ht, if_neg (fun h => ht h.2)]
theorem and_lt {a : Nat} (m : Nat) (h : a < 4294967296) : a &&& m < 4294967296 := Nat.lt_of_le_of_lt Nat.and_le_left h
theorem or_lt {a b : Nat} (ha : a < 4294967296) (hb : b < 4294967296) : a ||| b < 4294967296 := Nat.or_lt_two_pow (n := 32) ha hb
theorem minus_lt32 {a : Nat} (m : Nat) (h : a < 4294967296) : minus a m < 4294967296 := by
  unfold minus
  exact and_lt _ h
theorem do_fine {l : List Nat} (h : Fine l) (k f t : Int) (m : Nat) : Fine (doR l k f t m) := by
  unfold doR
  repeat' split
  · exact set_fine h _ (by decide)
  · exact set_fine h _ (and_lt _ (rv_lt h f))
  · exact set_fine h _ (or_lt (rv_lt h t) (and_lt _ (rv_lt h f)))
  · exact set_fine h _ (minus_lt32 _ (rv_lt h t))
  · exact set_fine h _ (by omega)

theorem upto_lt (p : Nat → Bool) : ∀ n, n ≤ 64 → Is64 (upto p n)
  | 0, _ => by
    show 0 < 18446744073709551616
    omega
  | n + 1, h => by
    have := upto_lt p n (by omega)
    unfold upto
    split
    · exact wth_lt this _
    · exact this
theorem bit_upto (p : Nat → Bool) : ∀ n m, n ≤ 64 → (upto p n).testBit m = (decide (m < n) && p m)
  | 0, m, _ => by simp [upto]
  | n + 1, m, h => by
    have ih := bit_upto p n m (by omega)
    have hm : may (n : Int) := by unfold may; omega
    unfold upto
    by_cases hp : p n = true
    · rw [if_pos hp, testBit_wth, ih]
      by_cases e : n = m
      · subst e
        simp [hp, hm]
      · have e2 : (decide (m < n + 1)) = decide (m < n) := decide_eq_decide.2 (by omega)
        simp [e2, e]
    · rw [if_neg hp, ih]
      by_cases e : n = m
      · subst e
        simp [hp]
      · have e2 : (decide (m < n + 1)) = decide (m < n) := decide_eq_decide.2 (by omega)
        rw [e2]
theorem hasB_bit {s : Nat} {o : Nat} (h : o < 64) : hasB s (o : Int) = s.testBit o := by
  have hm : may (o : Int) := by unfold may; omega
  unfold hasB
  simp [hm]
theorem hasB_none (s : Nat) {o : Int} (h : ¬ (0 ≤ o ∧ o < 64)) : hasB s o = false := by
  unfold hasB may
  simp [h]
theorem bit_high {s m : Nat} (h : s < 4294967296) (hm : 32 ≤ m) : s.testBit m = false :=
  Nat.testBit_lt_two_pow (Nat.lt_of_lt_of_le h (show 2 ^ 32 ≤ 2 ^ m from Nat.pow_le_pow_right (by omega) hm))
theorem hasB_high {s : Nat} (h : s < 4294967296) {o : Int} (ho : 32 ≤ o) : hasB s o = false := by
  unfold hasB
  rw [bit_high h (by omega)]
  simp
theorem hasB_zero (o : Int) : hasB 0 o = false := by
  unfold hasB
  simp
/-- A set of objects is what it has. -/
theorem of_upto {s : Nat} (h : s < 4294967296) : upto (fun o => hasB s (o : Int)) 32 = s := by
  refine ext64 (upto_lt _ 32 (by omega)) (is64_of h) fun m hm => ?_
  rw [bit_upto _ _ _ (by omega), hasB_bit hm]
  by_cases h1 : m < 32
  · simp [h1]
  · rw [bit_high h (by omega)]
    simp
theorem has_and (a b : Nat) (o : Int) : hasB (a &&& b) o = (hasB a o && hasB b o) := by
  unfold hasB
  rw [Nat.testBit_and]
  cases decide (may o) <;> simp
theorem has_or (a b : Nat) (o : Int) : hasB (a ||| b) o = (hasB a o || hasB b o) := by
  unfold hasB
  rw [Nat.testBit_or]
  cases decide (may o) <;> simp
theorem has_minus {a b : Nat} (hb : Is64 b) (o : Int) : hasB (minus a b) o = (hasB a o && !hasB b o) := by
  by_cases h : 0 ≤ o ∧ o < 64
  · have hm : may o := h
    unfold hasB
    rw [testBit_minus hb (by omega)]
    simp [hm]
  · rw [hasB_none _ h, hasB_none _ h]
    rfl
theorem has_els (s : Nat) (o : Nat) (h : o < 64) : hasB s (o : Int) = decide (o ∈ els s) := by
  rw [hasB_bit h, Bool.eq_iff_iff, decide_eq_true_eq, mem_els]
  exact ⟨fun hh => ⟨h, hh⟩, fun hh => hh.2⟩
theorem all_has {o : Int} (h0 : 0 ≤ o) (h1 : o < 32) : hasB allR o = true := by
  obtain ⟨n, rfl⟩ : ∃ n : Nat, o = (n : Int) := ⟨o.toNat, by omega⟩
  rw [hasB_bit (by omega)]
  show (2 ^ 32 - 1 : Nat).testBit n = true
  rw [Nat.testBit_two_pow_sub_one]
  exact decide_eq_true (by omega)
/-- Taken from those of a thread, as the program does: right by right. -/
theorem has_waive {l : List Nat} (h : Fine l) (t u o : Int) {m : Nat} (hm : Is64 m) :
    hasB (rv (setR l t (minus (rv l t) m)) u) o = (hasB (rv l u) o && !(decide (u = t) && hasB m o)) := by
  rw [rv_set h]
  by_cases e : u = t
  · subst e
    by_cases hu : 0 ≤ u ∧ u < 64
    · rw [if_pos ⟨rfl, hu⟩, has_minus hm]
      simp
    · rw [if_neg (fun hh => hu hh.2), rv_out (by omega), hasB_zero]
      rfl
  · rw [if_neg (fun hh => e hh.1)]
    simp [e]
theorem has_add {l : List Nat} (h : Fine l) (t u o : Int) (s : Nat) :
    hasB (rv (setR l t (rv l t ||| s)) u) o = (hasB (rv l u) o || (decide (u = t ∧ 0 ≤ t ∧ t < 64) && hasB s o)) := by
  rw [rv_set h]
  by_cases e : u = t ∧ 0 ≤ t ∧ t < 64
  · rw [if_pos e, has_or, e.1]
    have e' : decide (t = t ∧ 0 ≤ t ∧ t < 64) = true := decide_eq_true ⟨rfl, e.2⟩
    rw [e']
    simp
  · rw [if_neg e, decide_eq_false e]
    simp
theorem minus_all {s : Nat} (h : s < 4294967296) : minus s allR = 0 := by
  have ha : Is64 allR := by unfold allR Is64; omega
  refine ext64 (minus_lt (is64_of h)) (by unfold Is64; omega) fun m hm => ?_
  rw [testBit_minus ha hm]
  by_cases h1 : m < 32
  · have := all_has (o := (m : Int)) (by omega) (by omega)
    rw [hasB_bit hm] at this
    rw [this]
    simp
  · rw [bit_high h (by omega)]
    simp
theorem or_all {s : Nat} (h : s < 4294967296) : s ||| allR = allR := by
  have ha : Is64 allR := by unfold allR Is64; omega
  refine ext64 (is64_of (or_lt h (by decide))) ha fun m hm => ?_
  rw [Nat.testBit_or]
  by_cases h1 : m < 32
  · have := all_has (o := (m : Int)) (by omega) (by omega)
    rw [hasB_bit hm] at this
    rw [this]
    simp
  · rw [bit_high h (by omega)]
    simp
theorem waive_all {l : List Nat} (h : Fine l) (t : Int) : setR l t (minus (rv l t) allR) = setR l t 0 := by rw [minus_all (rv_lt h t)]
theorem add_all {l : List Nat} (h : Fine l) (t : Int) : setR l t (rv l t ||| allR) = setR l t allR := by rw [or_all (rv_lt h t)]
/-- None at first, then just these. -/
theorem clear_add {l : List Nat} (h : Fine l) (t : Int) (s : Nat) : setR (setR l t 0) t (rv (setR l t 0) t ||| s) = setR l t s := by
  rw [rv_set h]
  by_cases ht : 0 ≤ t ∧ t < 64
  · rw [if_pos ⟨rfl, ht⟩, Nat.zero_or, set_in ht.1 ht.2, set_in ht.1 ht.2, set_in ht.1 ht.2, List.set_set]
  · rw [set_out (by omega), set_out (by omega), set_out (by omega)]
theorem who_lt (l : List Nat) (o : Int) : Is64 (whoR l o) := upto_lt _ 64 (by omega)
/-- Nobody has a right just if each thread lacks it. -/
theorem who_zero (l : List Nat) (o : Int) : whoR l o = 0 ↔ ∀ u : Int, hasB (rv l u) o = false := by
  constructor
  · intro h0 u
    unfold rv
    split
    · rename_i hu
      have := congrArg (fun s => s.testBit u.toNat) h0
      simp only [whoR, bit_upto _ _ _ (Nat.le_refl 64), Nat.zero_testBit] at this
      have hlt : u.toNat < 64 := by omega
      simpa [hlt] using this
    · exact hasB_zero o
  · intro hu
    refine ext64 (who_lt l o) (by unfold Is64; omega) fun m hm => ?_
    have := hu (m : Int)
    rw [rv_nat _ hm] at this
    unfold whoR
    rw [bit_upto _ _ _ (Nat.le_refl 64), this]
    simp
/-- Nobody comes to a right that nobody had, but by what gives all. -/
theorem never {l : List Nat} (h : Fine l) (k f t o : Int) {m : Nat} (hm : Is64 m) (hk : k ≠ 0) (h0 : whoR l o = 0) : whoR (doR l k f t m) o = 0 := by
  rw [who_zero] at h0
  rw [who_zero]
  intro u
  unfold doR
  rw [if_neg hk]
  repeat' split
  all_goals
    rw [rv_set h]
    split
    · first
        | exact hasB_zero o
        | (rw [has_or, has_and, h0, h0]; rfl)
        | (rw [has_and, h0]; rfl)
        | (rw [has_minus hm, h0]; rfl)
    · exact h0 u
/-- What the document asks of an object beside. -/
theorem low_has {l : List Nat} (h : Fine l) (u o : Int) : (decide (o < 32) && hasB (rv l u) o) = hasB (rv l u) o := by
  by_cases ho : o < 32
  · simp [ho]
  · rw [hasB_high (rv_lt h u) (by omega)]
    simp
theorem low_has_nat {l : List Nat} (h : Fine l) (j : Nat) (o : Int) : (decide (o < 32) && hasB (l.getD j 0) o) = hasB (l.getD j 0) o := by
  by_cases ho : o < 32
  · simp [ho]
  · rw [hasB_high (h.lt j) (by omega)]
    simp
end Go.Proofs.YtjedinodopcdaaaDoor.rig
