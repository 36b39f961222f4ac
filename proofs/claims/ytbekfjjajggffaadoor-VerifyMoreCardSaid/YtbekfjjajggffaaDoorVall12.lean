/-
  Texts of one claim in one file: BMore, BBit, BFirst, BOnes, BCount, BRef, ERefObjs. Each has its own sentence, with its conditions.
-/
import Derived.Test.YtbekfjjajggffaaDoorVall11
import Derived.Lib.TrailingZeros
import Derived.Test.YtbekfjjajggffaaDoorProg
import Derived.WalkKit
import Derived.ProofKit
import Derived.Lib.Hide
import Derived.Outline
import Derived.Laws.ShiftsVarLaws
import Derived.Laws.Bits64b
import Derived.Below
import Derived.Deep.DeepCutAuto
import Derived.Deep.CutBlock
import Derived.LoopTactic
import Derived.IntWalk
import Derived.Test.YtbekfjjajggffaaDoorVall8
/-
  More of the plain mathematics of sets: what is at a place of a list, which numbers are below one, the least, the next and the one with so many below it; and how many there are, as a computer counts them, byte by byte. It speaks of numbers and lists alone.
-/
namespace Go.Proofs.YtbekfjjajggffaaDoor.bits

/-- The number at a place of a list; -1, where there is none. -/
def atI (l : List Nat) (k : Nat) : Int := match l[k]? with
  | some n => (n : Int)
  | none => -1
theorem atI_some {l : List Nat} {k n : Nat} (h : l[k]? = some n) : atI l k = (n : Int) := by unfold atI; rw [h]
theorem atI_none {l : List Nat} {k : Nat} (h : l.length ≤ k) : atI l k = -1 := by unfold atI; rw [List.getElem?_eq_none h]
theorem atI_lt {l : List Nat} {k : Nat} (h : k < l.length) : atI l k = ((l[k] : Nat) : Int) := atI_some (List.getElem?_eq_getElem h)
theorem atI_drop (l : List Nat) (a k : Nat) : atI (l.drop a) k = atI l (a + k) := by unfold atI; rw [List.getElem?_drop]

/-- Whether a set may have the number. -/
def may (n : Int) : Prop := 0 ≤ n ∧ n < 64
instance (n : Int) : Decidable (may n) := inferInstanceAs (Decidable (0 ≤ n ∧ n < 64))
def hasB (s : Nat) (n : Int) : Bool := decide (may n) && s.testBit n.toNat
def bitN (n : Int) : Nat := if may n then 2 ^ n.toNat else 0
def wth (s : Nat) (n : Int) : Nat := if may n then ins s n.toNat else s
def wout (s : Nat) (n : Int) : Nat := if may n then del s n.toNat else s
def allN (n : Int) : Nat := if 63 < n then 18446744073709551615 else if n < 0 then 0 else 2 ^ n.toNat - 1

theorem pow_lt64 {n : Nat} (h : n < 64) : Is64 (2 ^ n) := by
  unfold Is64
  rw [← two64]
  exact Nat.pow_lt_pow_right (by omega) h
theorem bitN_lt (n : Int) : Is64 (bitN n) := by
  unfold bitN
  split
  · rename_i h
    unfold may at h
    exact pow_lt64 (by omega)
  · unfold Is64; omega
theorem testBit_bitN (n : Int) (m : Nat) : (bitN n).testBit m = (decide (may n) && decide (n.toNat = m)) := by
  unfold bitN
  split
  · rename_i h
    rw [Nat.testBit_two_pow]
    simp [h]
  · rename_i h
    simp [h]
theorem wth_or (s : Nat) (n : Int) : wth s n = s ||| bitN n := by
  unfold wth bitN
  split
  · exact ins_or _ _
  · simp
theorem wth_lt {s : Nat} (hs : Is64 s) (n : Int) : Is64 (wth s n) := by
  unfold wth
  split
  · rename_i h
    unfold may at h
    exact ins_lt hs (by omega)
  · exact hs
theorem wout_lt {s : Nat} (hs : Is64 s) (n : Int) : Is64 (wout s n) := by
  unfold wout
  split
  · exact Nat.lt_of_le_of_lt (del_le _ _) hs
  · exact hs
theorem testBit_wth (s : Nat) (n : Int) (m : Nat) : (wth s n).testBit m = (s.testBit m || (decide (may n) && decide (n.toNat = m))) := by
  rw [wth_or, Nat.testBit_or, testBit_bitN]
theorem testBit_wout (s : Nat) (n : Int) (m : Nat) : (wout s n).testBit m = (s.testBit m && !(decide (may n) && decide (n.toNat = m))) := by
  unfold wout
  split
  · rename_i h
    rw [testBit_del]
    simp [h]
  · rename_i h
    simp [h]
/-- What a computer takes out of a set. -/
def minus (s t : Nat) : Nat := s &&& (18446744073709551615 - t)
theorem minus_lt {s t : Nat} (hs : Is64 s) : Is64 (minus s t) := Nat.lt_of_le_of_lt Nat.and_le_left hs
theorem testBit_minus {s t m : Nat} (ht : Is64 t) (hm : m < 64) : (minus s t).testBit m = (s.testBit m && !t.testBit m) := by
  unfold minus
  have e : 18446744073709551615 - t = 2 ^ 64 - (t + 1) := by rw [two64]; omega
  rw [Nat.testBit_and, e, Nat.testBit_two_pow_sub_succ (by rw [two64]; exact ht)]
  simp [hm]
theorem wout_minus {s : Nat} (hs : Is64 s) (n : Int) : wout s n = minus s (bitN n) :=
  ext64 (wout_lt hs n) (minus_lt hs) fun m hm => by rw [testBit_wout, testBit_minus (bitN_lt n) hm, testBit_bitN]
theorem hasB_and (s : Nat) (n : Int) : hasB s n = ((s &&& bitN n : Nat) != 0) := by
  unfold hasB bitN
  split
  · rename_i h
    simp only [h, decide_true, Bool.true_and]
    by_cases hb : s.testBit n.toNat = true
    · rw [hb]
      symm
      rw [bne_iff_ne]
      intro h0
      have h1 := congrArg (fun x => x.testBit n.toNat) h0
      simp [hb] at h1
    · have hb' : s.testBit n.toNat = false := by simpa using hb
      rw [hb']
      symm
      rw [bne_eq_false_iff_eq]
      apply Nat.eq_of_testBit_eq
      intro m
      rw [Nat.testBit_and, Nat.testBit_two_pow]
      by_cases hm : n.toNat = m
      · subst hm; simp [hb']
      · simp [hm]
  · rename_i h
    simp [h]
theorem allN_lt (n : Int) : Is64 (allN n) := by
  unfold allN
  split
  · unfold Is64; omega
  · split
    · unfold Is64; omega
    · have := pow_lt64 (show n.toNat < 64 by omega)
      unfold Is64 at *
      omega
theorem testBit_allN (n : Int) {m : Nat} (hm : m < 64) : (allN n).testBit m = decide ((m : Int) < n) := by
  unfold allN
  split
  · rename_i h
    have e : (18446744073709551615 : Nat) = 2 ^ 64 - 1 := by rw [two64]
    rw [e, Nat.testBit_two_pow_sub_one]
    have h1 : (m : Int) < n := by omega
    simp [hm, h1]
  · split
    · rename_i h
      have h1 : ¬ (m : Int) < n := by omega
      simp [h1]
    · rw [Nat.testBit_two_pow_sub_one]
      by_cases h1 : (m : Int) < n
      · have h2 : m < n.toNat := by omega
        simp [h1, h2]
      · have h2 : ¬ m < n.toNat := by omega
        simp [h1, h2]

/-- Those of a set for which something holds. -/
theorem els_filter {s t : Nat} {p : Nat → Bool} (h : ∀ m, m < 64 → t.testBit m = (s.testBit m && p m)) : els t = (els s).filter p := by
  unfold els
  rw [List.filter_filter]
  refine List.filter_congr fun m hm => ?_
  rw [h m (by simpa using hm), Bool.and_comm]
theorem els_length_le (s : Nat) : (els s).length ≤ 64 := by
  unfold els
  have := List.length_filter_le (fun n => s.testBit n) (List.range 64)
  simpa using this
theorem els_get_lt {s k n : Nat} (h : (els s)[k]? = some n) : n < 64 := (mem_els.1 (List.mem_of_getElem? h)).1
theorem els_zero : els 0 = [] := by unfold els; simp
theorem els_nil {s : Nat} (hs : Is64 s) : els s = [] ↔ s = 0 := by
  constructor
  · intro h
    have := ofs_els hs
    rw [h] at this
    exact this.symm
  · intro h
    rw [h, els_zero]
theorem atI_els (s k : Nat) : -1 ≤ atI (els s) k ∧ atI (els s) k < 64 := by
  by_cases h : k < (els s).length
  · have h1 := els_get_lt (List.getElem?_eq_getElem h)
    rw [atI_lt h]
    omega
  · rw [atI_none (by omega)]
    omega
theorem atI_els_neg (s k : Nat) : atI (els s) k = -1 ↔ (els s).length ≤ k := by
  unfold atI
  cases h : (els s)[k]? with
  | none => exact ⟨fun _ => List.getElem?_eq_none_iff.1 h, fun _ => rfl⟩
  | some n =>
    refine ⟨fun h1 => ?_, fun h1 => ?_⟩
    · have h2 : (n : Int) = -1 := h1
      omega
    · have := List.getElem?_eq_none h1
      rw [h] at this
      cases this

/-- The least of a rising list. -/
theorem least_first {l : List Nat} {c : Nat} (hl : l.Pairwise (· < ·)) (hc : c ∈ l) (h : ∀ n ∈ l, c ≤ n) : l[0]? = some c := by
  cases l with
  | nil => cases hc
  | cons a l =>
    rw [List.pairwise_cons] at hl
    rcases List.mem_cons.1 hc with rfl | hm
    · rfl
    · have h1 := hl.1 c hm
      have h2 := h a (List.mem_cons_self ..)
      omega
theorem els_first {s : Nat} (hs : Is64 s) (h0 : s ≠ 0) : (els s)[0]? = some (Lib.ctz 64 s) := by
  unfold Lib.ctz
  rw [if_neg h0]
  obtain ⟨m, hm, hc⟩ := Lib.ctzFrom_spec 64 s (by omega) (by rw [two64]; exact hs)
  generalize Lib.ctzFrom 64 s = c at *
  have hb : ∀ i, s.testBit i = (decide (c ≤ i) && (2 * m + 1).testBit (i - c)) := by
    intro i
    rw [hm, Nat.mul_comm, Nat.testBit_mul_two_pow]
  refine least_first (els_rising s) (mem_els.2 ⟨hc, ?_⟩) fun n hn => ?_
  · rw [hb]
    simp [Nat.testBit_zero]
  · have h1 := (mem_els.1 hn).2
    rw [hb] at h1
    simp only [Bool.and_eq_true, decide_eq_true_eq] at h1
    exact h1.1
/-- The first one, as the program tells it. -/
theorem first_eq {s : Nat} (hs : Is64 s) (h0 : s ≠ 0) : ((Lib.ctz 64 s : Nat) : Int) = atI (els s) 0 := (atI_some (els_first hs h0)).symm

theorem rising_drop {l : List Nat} {k a : Nat} (hl : l.Pairwise (· < ·)) (h : l[k]? = some a) : l.filter (fun n : Nat => decide ((a : Int) < (n : Int))) = l.drop (k + 1) := by
  induction l generalizing k with
  | nil => simp at h
  | cons b l ih =>
    rw [List.pairwise_cons] at hl
    cases k with
    | zero =>
      simp only [List.getElem?_cons_zero, Option.some.injEq] at h
      subst h
      rw [List.filter_cons_of_neg (by simp), List.drop_succ_cons, List.drop_zero, List.filter_eq_self]
      intro n hn
      have := hl.1 n hn
      simp
      omega
    | succ k =>
      simp only [List.getElem?_cons_succ] at h
      have hb : b < a := hl.1 a (List.mem_of_getElem? h)
      rw [List.filter_cons_of_neg (by simp; omega), List.drop_succ_cons]
      exact ih hl.2 h
/-- All above n. -/
theorem els_above (s : Nat) (n : Int) : els (wout (minus s (allN n)) n) = (els s).filter fun m : Nat => decide (n < (m : Int)) := by
  refine els_filter fun m hm => ?_
  rw [testBit_wout, testBit_minus (allN_lt n) hm, testBit_allN n hm]
  cases s.testBit m
  · simp
  · unfold may
    by_cases h1 : n < (m : Int)
    · have h2 : ¬ (m : Int) < n := by omega
      have h3 : ¬ n.toNat = m ∨ ¬ (0 ≤ n ∧ n < 64) := by omega
      rcases h3 with h3 | h3 <;> simp [h1, h2, h3]
    · by_cases h2 : (m : Int) < n
      · simp [h1, h2]
      · have h3 : n.toNat = m := by omega
        have h4 : 0 ≤ n ∧ n < 64 := by omega
        simp [h1, h2, h3, h4]
def nextI (s : Nat) (n : Int) : Int := atI ((els s).filter fun m : Nat => decide (n < (m : Int))) 0
theorem next_at {s k : Nat} (h : k < (els s).length) : nextI s (atI (els s) k) = atI (els s) (k + 1) := by
  have h1 := List.getElem?_eq_getElem h
  unfold nextI
  rw [atI_some h1, rising_drop (els_rising s) h1, atI_drop]
theorem next_start (s : Nat) {n : Int} (h : n < 0) : nextI s n = atI (els s) 0 := by
  unfold nextI
  congr 1
  rw [List.filter_eq_self]
  intro m _
  simp
  omega
/-- Without the first one. -/
theorem els_less {s : Nat} (hs : Is64 s) (h0 : s ≠ 0) : els (wout s (atI (els s) 0)) = (els s).drop 1 := by
  obtain ⟨a, l, hl⟩ : ∃ a l, els s = a :: l := by
    cases h : els s with
    | nil => exact absurd ((els_nil hs).1 h) h0
    | cons a l => exact ⟨a, l, rfl⟩
  have ha : a < 64 := els_get_lt (s := s) (k := 0) (by rw [hl]; rfl)
  have e : els (wout s (atI (els s) 0)) = (els s).filter fun n => !decide (a = n) := by
    refine els_filter fun m _ => ?_
    rw [testBit_wout, hl]
    have h1 : atI (a :: l) 0 = (a : Int) := rfl
    have h2 : may (a : Int) := by unfold may; omega
    rw [h1]
    simp [h2]
  rw [e, hl]
  have hr := els_rising s
  rw [hl, List.pairwise_cons] at hr
  rw [List.filter_cons_of_neg (by simp), List.drop_succ_cons, List.drop_zero, List.filter_eq_self]
  intro n hn
  have := hr.1 n hn
  simp
  omega

/-- How many of the lowest k bits are set. -/
def pc : Nat → Nat → Nat
  | 0, _ => 0
  | k + 1, s => s % 2 + pc k (s / 2)
theorem pc_range (k : Nat) : ∀ s, ((List.range k).filter fun n => s.testBit n).length = pc k s := by
  induction k with
  | zero => intro s; rfl
  | succ k ih =>
    intro s
    rw [List.range_succ_eq_map, List.filter_cons, pc]
    have e : (List.filter (fun n => s.testBit n) (List.map Nat.succ (List.range k))).length = pc k (s / 2) := by
      rw [List.filter_map, List.length_map, ← ih (s / 2)]
      congr 1
      refine List.filter_congr fun n _ => ?_
      show s.testBit (n + 1) = _
      rw [Nat.testBit_succ]
    split
    · rename_i h
      rw [Nat.testBit_zero, decide_eq_true_eq] at h
      rw [List.length_cons, e]
      omega
    · rename_i h
      rw [Nat.testBit_zero, decide_eq_true_eq] at h
      rw [e]
      omega
theorem pc_els (s : Nat) : (els s).length = pc 64 s := pc_range 64 s
theorem pc_add (a b : Nat) : ∀ s, pc (a + b) s = pc a s + pc b (s / 2 ^ a) := by
  induction a with
  | zero => intro s; simp [pc]
  | succ a ih =>
    intro s
    rw [Nat.succ_add, pc, pc, ih, Nat.div_div_eq_div_mul, Nat.pow_succ, Nat.mul_comm 2]
    omega
theorem pc8_mod (s : Nat) : pc 8 s = pc 8 (s % 256) := by
  simp only [pc]
  omega
theorem pc8_le (b : Nat) : pc 8 b ≤ 8 := by
  simp only [pc]
  omega

/-- A byte at a time. -/
def mk (m : Nat) : Nat → Nat
  | 0 => 0
  | k + 1 => 256 * mk m k + m
def bm (f : Nat → Nat) : Nat → Nat → Nat
  | 0, _ => 0
  | k + 1, s => f (s % 256) + 256 * bm f k (s / 256)
theorem and_join (q r M m : Nat) (hr : r < 256) (hm : m < 256) : (256 * q + r) &&& (256 * M + m) = 256 * (q &&& M) + (r &&& m) := by
  have h1 : ((256 * q + r) &&& (256 * M + m)) / 256 = q &&& M := by
    have h : ((256 * q + r) &&& (256 * M + m)) / 2 ^ 8 = (256 * q + r) / 2 ^ 8 &&& (256 * M + m) / 2 ^ 8 := Nat.and_div_two_pow
    have e1 : (256 * q + r) / 2 ^ 8 = q := by omega
    have e2 : (256 * M + m) / 2 ^ 8 = M := by omega
    rw [e1, e2] at h
    exact h
  have h2 : ((256 * q + r) &&& (256 * M + m)) % 256 = r &&& m := by
    have h : ((256 * q + r) &&& (256 * M + m)) % 2 ^ 8 = (256 * q + r) % 2 ^ 8 &&& (256 * M + m) % 2 ^ 8 := Nat.and_mod_two_pow
    have e1 : (256 * q + r) % 2 ^ 8 = r := by omega
    have e2 : (256 * M + m) % 2 ^ 8 = m := by omega
    rw [e1, e2] at h
    exact h
  omega
theorem out85 : ∀ c, c < 2 → ∀ t, t < 128 → (c * 128 + t) &&& 85 = t &&& 85 := by decide +kernel
theorem out51 : ∀ c, c < 4 → ∀ t, t < 64 → (c * 64 + t) &&& 51 = t &&& 51 := by decide +kernel
theorem out15 : ∀ c, c < 5 → ∀ r, r < 69 → (c * 16 + r / 16 + r) &&& 15 = (r / 16 + r) &&& 15 := by decide +kernel
def f1 (b : Nat) : Nat := (b / 2 &&& 85) + (b &&& 85)
def f2 (b : Nat) : Nat := (b / 4 &&& 51) + (b &&& 51)
def f3 (b : Nat) : Nat := (b / 16 + b) &&& 15
theorem f1_lt : ∀ b, b < 256 → f1 b < 256 := by decide +kernel
theorem f2_lt : ∀ b, b < 256 → f2 b < 256 := by decide +kernel
theorem f2f1 : ∀ b, b < 256 → f2 (f1 b) % 16 < 5 ∧ f2 (f1 b) < 69 := by decide +kernel
theorem f321 : ∀ b, b < 256 → f3 (f2 (f1 b)) = pc 8 b := by decide +kernel
theorem step1 (k : Nat) : ∀ s, (s / 2 &&& mk 85 k) + (s &&& mk 85 k) = bm f1 k s := by
  induction k with
  | zero => intro s; simp [mk, bm]
  | succ k ih =>
    intro s
    have e1 : s / 2 = 256 * (s / 256 / 2) + (s / 256 % 2 * 128 + s % 256 / 2) := by omega
    have e2 : s = 256 * (s / 256) + s % 256 := by omega
    have a1 : s / 2 &&& mk 85 (k + 1) = 256 * (s / 256 / 2 &&& mk 85 k) + (s % 256 / 2 &&& 85) := by
      rw [e1, mk, and_join _ _ _ _ (by omega) (by omega), out85 _ (by omega) _ (by omega)]
    have a2 : s &&& mk 85 (k + 1) = 256 * (s / 256 &&& mk 85 k) + (s % 256 &&& 85) := by
      conv => lhs; rw [e2]
      rw [mk, and_join _ _ _ _ (by omega) (by omega)]
    have := ih (s / 256)
    have hf : f1 (s % 256) = (s % 256 / 2 &&& 85) + (s % 256 &&& 85) := rfl
    rw [a1, a2, bm, hf]
    omega
theorem step2 (k : Nat) : ∀ s, (s / 4 &&& mk 51 k) + (s &&& mk 51 k) = bm f2 k s := by
  induction k with
  | zero => intro s; simp [mk, bm]
  | succ k ih =>
    intro s
    have e1 : s / 4 = 256 * (s / 256 / 4) + (s / 256 % 4 * 64 + s % 256 / 4) := by omega
    have e2 : s = 256 * (s / 256) + s % 256 := by omega
    have a1 : s / 4 &&& mk 51 (k + 1) = 256 * (s / 256 / 4 &&& mk 51 k) + (s % 256 / 4 &&& 51) := by
      rw [e1, mk, and_join _ _ _ _ (by omega) (by omega), out51 _ (by omega) _ (by omega)]
    have a2 : s &&& mk 51 (k + 1) = 256 * (s / 256 &&& mk 51 k) + (s % 256 &&& 51) := by
      conv => lhs; rw [e2]
      rw [mk, and_join _ _ _ _ (by omega) (by omega)]
    have := ih (s / 256)
    have hf : f2 (s % 256) = (s % 256 / 4 &&& 51) + (s % 256 &&& 51) := rfl
    rw [a1, a2, bm, hf]
    omega
theorem bm_bm {f g : Nat → Nat} (hg : ∀ b, b < 256 → g b < 256) (k : Nat) : ∀ s, bm f k (bm g k s) = bm (fun b => f (g b)) k s := by
  induction k with
  | zero => intro s; rfl
  | succ k ih =>
    intro s
    have h := hg (s % 256) (by omega)
    rw [bm, bm, bm]
    have e1 : (g (s % 256) + 256 * bm g k (s / 256)) % 256 = g (s % 256) := by omega
    have e2 : (g (s % 256) + 256 * bm g k (s / 256)) / 256 = bm g k (s / 256) := by omega
    rw [e1, e2, ih]
theorem bm_mod16 {g : Nat → Nat} (hg : ∀ b, b < 256 → g b % 16 < 5 ∧ g b < 69) (k s : Nat) : bm g k s % 16 < 5 := by
  cases k with
  | zero => rw [bm]; omega
  | succ k =>
    have h := hg (s % 256) (by omega)
    rw [bm]
    omega
theorem step3 {g : Nat → Nat} (hg : ∀ b, b < 256 → g b % 16 < 5 ∧ g b < 69) (k : Nat) : ∀ s, (bm g k s / 16 + bm g k s) &&& mk 15 k = bm (fun b => f3 (g b)) k s := by
  induction k with
  | zero => intro s; simp [mk]; rfl
  | succ k ih =>
    intro s
    have h := hg (s % 256) (by omega)
    have h16 := bm_mod16 hg k (s / 256)
    have := ih (s / 256)
    have hf : f3 (g (s % 256)) = (g (s % 256) / 16 + g (s % 256)) &&& 15 := rfl
    rw [bm, bm, hf]
    generalize g (s % 256) = r at *
    generalize bm g k (s / 256) = q at *
    have e : (r + 256 * q) / 16 + (r + 256 * q) = 256 * (q / 16 + q) + (q % 16 * 16 + r / 16 + r) := by omega
    rw [e, mk, and_join _ _ _ _ (by omega) (by omega), out15 _ h16 _ h.2, this]
    omega
theorem bm_congr {f g : Nat → Nat} (h : ∀ b, b < 256 → f b = g b) (k : Nat) : ∀ s, bm f k s = bm g k s := by
  induction k with
  | zero => intro s; rfl
  | succ k ih => intro s; rw [bm, bm, h _ (by omega), ih]
/-- The first three steps come to how many of each byte are set. -/
theorem steps (s : Nat) :
    bm f3 8 (bm f2 8 (bm f1 8 s)) = bm (pc 8) 8 s := by
  rw [bm_bm f1_lt, bm_bm (fun b hb => by have := (f2f1 b hb).2; omega)]
  exact bm_congr (fun b hb => f321 b hb) 8 s
theorem sum8 (s : Nat) : ∃ a b c d e f g h : Nat, (a ≤ 8 ∧ b ≤ 8 ∧ c ≤ 8 ∧ d ≤ 8 ∧ e ≤ 8 ∧ f ≤ 8 ∧ g ≤ 8 ∧ h ≤ 8) ∧
    bm (pc 8) 8 s = a + 256 * (b + 256 * (c + 256 * (d + 256 * (e + 256 * (f + 256 * (g + 256 * h)))))) ∧ pc 64 s = a + b + c + d + e + f + g + h := by
  refine ⟨pc 8 (s % 256), pc 8 (s / 256 % 256), pc 8 (s / 256 / 256 % 256), pc 8 (s / 256 / 256 / 256 % 256), pc 8 (s / 256 / 256 / 256 / 256 % 256), pc 8 (s / 256 / 256 / 256 / 256 / 256 % 256),
    pc 8 (s / 256 / 256 / 256 / 256 / 256 / 256 % 256), pc 8 (s / 256 / 256 / 256 / 256 / 256 / 256 / 256 % 256), ⟨pc8_le _, pc8_le _, pc8_le _, pc8_le _, pc8_le _, pc8_le _, pc8_le _, pc8_le _⟩, ?_, ?_⟩
  · simp only [bm, Nat.mul_zero, Nat.add_zero]
  · have e : (64 : Nat) = 8 + (8 + (8 + (8 + (8 + (8 + (8 + 8)))))) := rfl
    rw [e]
    simp only [pc_add]
    have p : (2 : Nat) ^ 8 = 256 := rfl
    rw [p]
    simp only [← pc8_mod]
    omega

end Go.Proofs.YtbekfjjajggffaaDoor.bits

/-
  The program's calls on a set that only compute: the bit of a number, what is below one, whether one is in it, with one and without one. No condition.
-/
namespace Go.Proofs.YtbekfjjajggffaaDoor.bits
open Go.RowKit Go.ChangeShapes

theorem shl_one {n : Int} (h : may n) : IntKind.u64.wrap (2 ^ n.toNat) = ((bitN n : Nat) : Int) := by
  unfold may at h
  have hb : bitN n = 2 ^ n.toNat := by unfold bitN; rw [if_pos (by unfold may; omega)]
  have hl := pow_lt64 (show n.toNat < 64 by omega)
  rw [hb, IntKind.wrap_u64]
  unfold Is64 at hl
  have e : ((2 : Int) ^ n.toNat) = ((2 ^ n.toNat : Nat) : Int) := by rw [Int.natCast_pow]; rfl
  rw [e]
  omega

theorem ret_int {k : IntKind} {a b : Int} (h : a = b) : Ending.returned (.int k a) = .returned (.int k b) := by rw [h]
set_option maxHeartbeats 400000 in
theorem bit_any (n : Int) (w : World) :
    Calls Tryd.prog 34 #[.int .i64 n] w fun e w' => e = .returned (.int .u64 ((bitN n : Nat) : Int)) ∧ w = w' := by
  by_cases h0 : n < 0
  · have hb : bitN n = 0 := by unfold bitN; rw [if_neg (by unfold may; omega)]
    rw [hb]
    clear hb
    go_enter Tryd.func34, Tryd.ntmps34
    go_wp2
    go_ret
    exact ⟨rfl, rfl⟩
  · by_cases h1 : 63 < n
    · have hb : bitN n = 0 := by unfold bitN; rw [if_neg (by unfold may; omega)]
      rw [hb]
      clear hb
      go_enter Tryd.func34, Tryd.ntmps34
      go_wp2
      go_ret
      exact ⟨rfl, rfl⟩
    · have hm : may n := by unfold may; omega
      have hp : 0 ≤ n := by omega
      have HB := Lib.hid (shl_one hm)
      go_enter Tryd.func34, Tryd.ntmps34
      go_wp2
      go_ret
      exact ⟨ret_int HB.out, rfl⟩

theorem and_u64 {a b : Nat} (ha : Is64 a) (hb : Is64 b) : bits .and .u64 (a : Int) (b : Int) = ((a &&& b : Nat) : Int) := bits_and_u64_nat a b ha hb
theorem or_u64 {a b : Nat} (ha : Is64 a) (hb : Is64 b) : bits .or .u64 (a : Int) (b : Int) = ((a ||| b : Nat) : Int) := bits_or_u64_nat a b ha hb
theorem andNot_u64 {a b : Nat} (ha : Is64 a) (hb : Is64 b) : bits .andNot .u64 (a : Int) (b : Int) = ((minus a b : Nat) : Int) := by
  have hx : a &&& (18446744073709551615 - b) < 2 ^ 64 := Nat.and_lt_two_pow _ (by unfold Is64 at *; omega)
  have h1 : (BitVec.ofInt 64 (a : Int)).toNat = a := by
    rw [BitVec.ofInt_natCast, BitVec.toNat_ofNat]; exact Nat.mod_eq_of_lt (by unfold Is64 at *; omega)
  have h2 : (BitVec.ofInt 64 (b : Int)).toNat = b := by
    rw [BitVec.ofInt_natCast, BitVec.toNat_ofNat]; exact Nat.mod_eq_of_lt (by unfold Is64 at *; omega)
  show IntKind.u64.wrap ((BitVec.ofInt 64 (a : Int) &&& ~~~BitVec.ofInt 64 (b : Int)).toNat : Int) = _
  rw [BitVec.toNat_and, BitVec.toNat_not, h1, h2, IntKind.wrap_u64]
  have e : 2 ^ 64 - 1 - b = 18446744073709551615 - b := by omega
  rw [e]
  unfold minus
  omega

theorem ret_bool {a b : Bool} (h : a = b) : Ending.returned (.bool a) = .returned (.bool b) := by rw [h]
theorem bne_cast (x : Nat) : ((x : Int) != 0) = (x != 0) := by
  rw [Bool.eq_iff_iff]
  simp
set_option maxHeartbeats 400000 in
theorem has_any (s : Nat) (hs : Is64 s) (n : Int) (w : World) :
    Calls Tryd.prog 94 #[.int .u64 (s : Int), .int .i64 n] w fun e w' => e = .returned (.bool (hasB s n)) ∧ w = w' := by
  have HB := Lib.hid (and_u64 hs (bitN_lt n))
  have HH := Lib.hid (hasB_and s n)
  go_enter Tryd.func94, Tryd.ntmps94
  go_wp2_with fail
  refine (bit_any _ _).mono ?_
  rintro e w1 ⟨rfl, rfl⟩
  go_wp2
  go_ret
  exact ⟨ret_bool (by rw [HB.out, HH.out, bne_cast]), rfl⟩

set_option maxHeartbeats 400000 in
theorem with_any (s : Nat) (hs : Is64 s) (n : Int) (w : World) :
    Calls Tryd.prog 21 #[.int .u64 (s : Int), .int .i64 n] w fun e w' => e = .returned (.int .u64 ((wth s n : Nat) : Int)) ∧ w = w' := by
  have HB := Lib.hid (or_u64 hs (bitN_lt n))
  have HH := Lib.hid (wth_or s n)
  go_enter Tryd.func21, Tryd.ntmps21
  go_wp2_with fail
  refine (bit_any _ _).mono ?_
  rintro e w1 ⟨rfl, rfl⟩
  go_wp2
  go_ret
  exact ⟨ret_int (by rw [HB.out, HH.out]), rfl⟩

set_option maxHeartbeats 400000 in
theorem without_any (s : Nat) (hs : Is64 s) (n : Int) (w : World) :
    Calls Tryd.prog 57 #[.int .u64 (s : Int), .int .i64 n] w fun e w' => e = .returned (.int .u64 ((wout s n : Nat) : Int)) ∧ w = w' := by
  have HB := Lib.hid (andNot_u64 hs (bitN_lt n))
  have HH := Lib.hid (wout_minus hs n)
  go_enter Tryd.func57, Tryd.ntmps57
  go_wp2_with fail
  refine (bit_any _ _).mono ?_
  rintro e w1 ⟨rfl, rfl⟩
  go_wp2
  go_ret
  exact ⟨ret_int (by rw [HB.out, HH.out]), rfl⟩

theorem all_some {n : Int} (h0 : ¬ n < 0) (h1 : ¬ 63 < n) : IntKind.u64.wrap ((bitN n : Nat) - 1) = ((allN n : Nat) : Int) := by
  have hb : bitN n = 2 ^ n.toNat := by unfold bitN; rw [if_pos (by unfold may; omega)]
  have hl := bitN_lt n
  have hp : 0 < 2 ^ n.toNat := Nat.two_pow_pos _
  unfold allN
  rw [if_neg h1, if_neg h0, hb, IntKind.wrap_u64]
  unfold Is64 at hl
  rw [hb] at hl
  omega

set_option maxHeartbeats 400000 in
theorem all_any (n : Int) (w : World) :
    Calls Tryd.prog 18 #[.int .i64 n] w fun e w' => e = .returned (.int .u64 ((allN n : Nat) : Int)) ∧ w = w' := by
  by_cases h1 : 63 < n
  · have hb : allN n = 18446744073709551615 := by unfold allN; rw [if_pos h1]
    rw [hb]
    clear hb
    go_enter Tryd.func18, Tryd.ntmps18
    go_wp2
    go_ret
    exact ⟨rfl, rfl⟩
  · by_cases h0 : n < 0
    · have hb : allN n = 0 := by unfold allN; rw [if_neg h1, if_pos h0]
      rw [hb]
      clear hb
      go_enter Tryd.func18, Tryd.ntmps18
      go_wp2
      go_ret
      exact ⟨rfl, rfl⟩
    · have HA := Lib.hid (all_some h0 h1)
      go_enter Tryd.func18, Tryd.ntmps18
      go_wp2_with fail
      refine (bit_any _ _).mono ?_
      rintro e w1 ⟨rfl, rfl⟩
      go_wp2
      go_ret
      exact ⟨ret_int HA.out, rfl⟩
end Go.Proofs.YtbekfjjajggffaaDoor.bits

/-
  The program's calls on a set that look for its numbers: the least, the next above one, the one with so many below it; each reads the table of math/bits, which must lie where its initialiser lays it. And how many there are, and all moved.
-/
namespace Go.Proofs.YtbekfjjajggffaaDoor.bits
open Go.RowKit Go.ChangeShapes

/-- The table of math/bits lies where its initialiser lays it. -/
def Tab (w : World) : Prop := ∀ j, j < 64 → w.cell? ⟨0, j, none⟩ = some (.int .u8 ((Lib.deBruijn64tab.getD j 0 : Nat) : Int))
theorem Tab.below {B : Nat} {w w' : World} (h : Tab w) (hb : Below B w w') (hB : 0 < B) : Tab w' := fun j hj => (hb.cell (p := ⟨0, j, none⟩) hB).trans (h j hj)
theorem Tab.cell {w w' : World} (h : Tab w) (hc : ∀ p, w'.cell? p = w.cell? p) : Tab w' := fun j hj => (hc _).trans (h j hj)

theorem tz_key (x a : Nat) (hx : x < 18446744073709551616) (hx0 : x ≠ 0) (hlow : x &&& (18446744073709551616 - x) = a) :
    IntKind.u64.wrap (bits BinOp.and IntKind.u64 (x : Int) (IntKind.u64.wrap (-(x : Int))) * 285870213051353865) / 288230376151711744 = ((a * 285870213051353865 % 18446744073709551616 / 288230376151711744 : Nat) : Int) := by
  have e1 : IntKind.u64.wrap (-(x : Int)) = ((18446744073709551616 - x : Nat) : Int) := by rw [IntKind.wrap_u64]; omega
  rw [e1, bits_and_u64_nat x _ hx (by omega), hlow, IntKind.wrap_u64]
  omega

set_option maxHeartbeats 1000000 in
theorem tz_core (x k idx : Nat) (w : World) (hx0 : ((x : Int) == 0) = false)
    (key : IntKind.u64.wrap (bits BinOp.and IntKind.u64 (x : Int) (IntKind.u64.wrap (-(x : Int))) * 285870213051353865) / 288230376151711744 = (idx : Int))
    (hi : idx < 64) (hk : k < 64) (hcell : w.cell? ⟨0, idx, none⟩ = some (.int .u8 (k : Int))) :
    Calls Tryd.prog 35 #[.int .u64 (x : Int)] w fun e w' => e = .returned (.int .i64 (k : Int)) ∧ w = w' := by
  go_enter Tryd.func35, Tryd.ntmps35
  go_wp2_with (simp only [key])
  go_ret
  exact ⟨rfl, rfl⟩

/-- The least of a set that has some. -/
theorem tz_any (s : Nat) (hs : Is64 s) (h0 : s ≠ 0) (w : World) (hT : Tab w) :
    Calls Tryd.prog 35 #[.int .u64 (s : Int)] w fun e w' => e = .returned (.int .i64 (atI (els s) 0)) ∧ w = w' := by
  rw [← first_eq hs h0]
  obtain ⟨hlow, hk⟩ := Lib.lowest_bit 64 s h0 hs
  obtain ⟨hi, htab⟩ := Lib.deBruijn64_at _ hk
  have hcell := hT _ hi
  rw [htab] at hcell
  exact tz_core s _ _ w (by simp; omega) (tz_key s _ hs h0 hlow) hi hk hcell

set_option maxHeartbeats 400000 in
theorem first_any (s : Nat) (hs : Is64 s) (w : World) (hT : Tab w) :
    Calls Tryd.prog 20 #[.int .u64 (s : Int)] w fun e w' => e = .returned (.int .i64 (atI (els s) 0)) ∧ w = w' := by
  by_cases h0 : s = 0
  · subst h0
    rw [els_zero, show atI [] 0 = -1 from rfl, show ((0 : Nat) : Int) = 0 from rfl]
    go_enter Tryd.func20, Tryd.ntmps20
    go_wp2
    go_ret
    exact ⟨rfl, rfl⟩
  · have H := Lib.hid (tz_any s hs h0 w hT)
    have hb : ((s : Int) == 0) = false := by simp [h0]
    clear h0 hT
    go_enter Tryd.func20, Tryd.ntmps20
    go_wp2_with fail
    refine H.out.mono ?_
    rintro e w1 ⟨rfl, rfl⟩
    go_wp2
    go_ret
    exact ⟨rfl, rfl⟩

set_option maxHeartbeats 400000 in
theorem next_any (s : Nat) (hs : Is64 s) (n : Int) (w : World) (hT : Tab w) :
    Calls Tryd.prog 37 #[.int .u64 (s : Int), .int .i64 n] w fun e w' => e = .returned (.int .i64 (nextI s n)) ∧ w = w' := by
  have hm := minus_lt (t := allN n) hs
  have ho := wout_lt hm n
  have HA := Lib.hid (andNot_u64 hs (allN_lt n))
  have HE : Hid (nextI s n = atI (els (wout (minus s (allN n)) n)) 0) := by unfold nextI; rw [els_above]; rfl
  rw [HE.out]
  go_enter Tryd.func37, Tryd.ntmps37
  go_wp2_with fail
  refine (all_any _ _).mono ?_
  rintro e w1 ⟨rfl, rfl⟩
  go_wp2_with fail
  rw [HA.out]
  refine (without_any _ hm _ _).mono ?_
  rintro e w1 ⟨rfl, rfl⟩
  go_wp2_with fail
  refine (first_any _ ho _ hT).mono ?_
  rintro e w1 ⟨rfl, rfl⟩
  go_wp2
  go_ret
  exact ⟨rfl, rfl⟩

end Go.Proofs.YtbekfjjajggffaaDoor.bits

/-
  How many numbers a set has, as math/bits counts them. The first part speaks of numbers alone; then the program's call. No condition.
-/
namespace Go.Proofs.YtbekfjjajggffaaDoor.bits
open Go.RowKit Go.ChangeShapes

theorem two_sum {a b : Nat} (h : a + b < 18446744073709551616) : IntKind.u64.wrap ((a : Int) + (b : Int)) = ((a + b : Nat) : Int) := by
  rw [IntKind.wrap_u64]
  omega
theorem cast_div (a b : Nat) : ((a : Int) / (b : Int)) = ((a / b : Nat) : Int) := rfl
theorem mk85 : mk 85 8 = 6148914691236517205 := by decide +kernel
theorem mk51 : mk 51 8 = 3689348814741910323 := by decide +kernel
theorem mk15 : mk 15 8 = 1085102592571150095 := by decide +kernel

theorem and_cast {a : Nat} (ha : Is64 a) (m : Nat) (hm : Is64 m) (v : Int) (hv : v = (m : Int)) : bits .and .u64 (a : Int) v = ((a &&& m : Nat) : Int) := by
  rw [hv]
  exact and_u64 ha hm
theorem ones1 {s : Nat} (hs : Is64 s) : IntKind.u64.wrap (bits .and .u64 ((s : Int) / 2) 6148914691236517205 + bits .and .u64 (s : Int) 6148914691236517205) = ((bm f1 8 s : Nat) : Int) ∧ bm f1 8 s ≤ 12297829382473034410 := by
  have h := step1 8 s
  rw [mk85] at h
  have b1 : s / 2 &&& 6148914691236517205 ≤ 6148914691236517205 := Nat.and_le_right
  have b2 : s &&& 6148914691236517205 ≤ 6148914691236517205 := Nat.and_le_right
  have e0 : ((s : Int) / 2) = ((s / 2 : Nat) : Int) := rfl
  have e1 := and_cast (a := s / 2) (by unfold Is64 at *; omega) 6148914691236517205 (by unfold Is64; omega) 6148914691236517205 rfl
  have e2 := and_cast (a := s) (by unfold Is64 at *; omega) 6148914691236517205 (by unfold Is64; omega) 6148914691236517205 rfl
  generalize (s / 2 &&& 6148914691236517205) = p at *
  generalize (s &&& 6148914691236517205) = q at *
  rw [e0, e1, e2, two_sum (by omega), h]
  exact ⟨rfl, by rw [← h]; omega⟩
theorem ones2 {s : Nat} (hs : s ≤ 12297829382473034410) : IntKind.u64.wrap (bits .and .u64 ((s : Int) / 4) 3689348814741910323 + bits .and .u64 (s : Int) 3689348814741910323) = ((bm f2 8 s : Nat) : Int) ∧ bm f2 8 s ≤ 7378697629483820646 := by
  have h := step2 8 s
  rw [mk51] at h
  have b1 : s / 4 &&& 3689348814741910323 ≤ 3689348814741910323 := Nat.and_le_right
  have b2 : s &&& 3689348814741910323 ≤ 3689348814741910323 := Nat.and_le_right
  have e0 : ((s : Int) / 4) = ((s / 4 : Nat) : Int) := rfl
  have e1 := and_cast (a := s / 4) (by unfold Is64 at *; omega) 3689348814741910323 (by unfold Is64; omega) 3689348814741910323 rfl
  have e2 := and_cast (a := s) (by unfold Is64 at *; omega) 3689348814741910323 (by unfold Is64; omega) 3689348814741910323 rfl
  generalize (s / 4 &&& 3689348814741910323) = p at *
  generalize (s &&& 3689348814741910323) = q at *
  rw [e0, e1, e2, two_sum (by omega), h]
  exact ⟨rfl, by rw [← h]; omega⟩
theorem ones3 (s : Nat) (hs : bm f2 8 (bm f1 8 s) ≤ 7378697629483820646) : bits .and .u64 (IntKind.u64.wrap (((bm f2 8 (bm f1 8 s) : Nat) : Int) / 16 + ((bm f2 8 (bm f1 8 s) : Nat) : Int))) 1085102592571150095 = ((bm (pc 8) 8 s : Nat) : Int) := by
  have h : (bm f2 8 (bm f1 8 s) / 16 + bm f2 8 (bm f1 8 s)) &&& mk 15 8 = bm (pc 8) 8 s := by
    rw [bm_bm f1_lt]
    have h3 := step3 (g := fun b => f2 (f1 b)) (fun b hb => f2f1 b hb) 8 s
    rw [h3]
    exact bm_congr (fun b hb => f321 b hb) 8 s
  rw [mk15] at h
  generalize bm f2 8 (bm f1 8 s) = x at *
  generalize bm (pc 8) 8 s = y at *
  have e0 : ((x : Int) / 16) = ((x / 16 : Nat) : Int) := rfl
  have hx : Is64 (x / 16 + x) := by clear h; unfold Is64; omega
  have e1 := and_cast hx 1085102592571150095 (by clear h; unfold Is64; omega) 1085102592571150095 rfl
  rw [h] at e1
  clear h
  rw [e0, two_sum (by omega), e1]
theorem div_256 {v L C : Nat} (h : v = L + 256 * C) (hl : L < 256) : v / 256 = C := by omega
theorem div_16 {v L C : Nat} (h : v = L + 65536 * C) (hl : L < 65536) : v / 65536 = C := by omega
theorem div_32 {v L C : Nat} (h : v = L + 4294967296 * C) (hl : L < 4294967296) : v / 4294967296 = C := by omega
theorem low_7 {z L K : Nat} (h : z = L + 256 * K) (hl : L < 128) : z % 128 = L := by omega
theorem wrap_div {v d q : Nat} (h : v / d = q) (hb : v + q < 18446744073709551616) : IntKind.u64.wrap ((v : Int) + (v : Int) / (d : Int)) = ((v + q : Nat) : Int) := by
  rw [cast_div, h, two_sum hb]
theorem sum_x {x v B C D a b c : Nat} (hx : x = v + B) (hy : v = a + 256 * B) (hB : B = b + 256 * C) (hC : C = c + 256 * D) : x = (a + b + 256 * (b + c)) + 65536 * (C + D) := by omega
theorem sum_y {x y C D E F G a b c d e f g h : Nat} (hy2 : y = x + (C + D)) (x1 : x = (a + b + 256 * (b + c)) + 65536 * (C + D)) (hC : C = c + 256 * D) (hD : D = d + 256 * E) (hE : E = e + 256 * F) (hF : F = f + 256 * G) (hG : G = g + 256 * h) :
    y = (a + b + c + d + 256 * (b + c + d + e) + 65536 * (c + d + e + f + 256 * (d + e + f + g))) + 4294967296 * (E + F + G + h) := by omega
theorem sum_z {y z E F G a b c d e f g h : Nat} (hz : z = y + (E + F + G + h)) (y1 : y = (a + b + c + d + 256 * (b + c + d + e) + 65536 * (c + d + e + f + 256 * (d + e + f + g))) + 4294967296 * (E + F + G + h)) (hE : E = e + 256 * F) (hF : F = f + 256 * G) (hG : G = g + 256 * h) :
    z = (a + b + c + d + e + f + g + h) + 256 * ((b + c + d + e) + 256 * (c + d + e + f + 256 * (d + e + f + g)) + 16777216 * (E + F + G + h) + (F + G + h)) := by omega
theorem ones4 (s : Nat) : ∃ x y z : Nat, IntKind.u64.wrap (((bm (pc 8) 8 s : Nat) : Int) + ((bm (pc 8) 8 s : Nat) : Int) / 256) = (x : Int) ∧ IntKind.u64.wrap ((x : Int) + (x : Int) / 65536) = (y : Int) ∧ IntKind.u64.wrap ((y : Int) + (y : Int) / 4294967296) = (z : Int) ∧
    z < 9223372036854775808 ∧ z % 128 = (els s).length := by
  obtain ⟨a, b, c, d, e, f, g, h, ⟨ha, hb, hc, hd, he, hf, hg, hh⟩, hy, hp⟩ := sum8 s
  rw [pc_els, hp]
  clear hp
  generalize bm (pc 8) 8 s = v at *
  obtain ⟨G, hG⟩ : ∃ G, G = g + 256 * h := ⟨_, rfl⟩
  obtain ⟨F, hF⟩ : ∃ F, F = f + 256 * G := ⟨_, rfl⟩
  obtain ⟨E, hE⟩ : ∃ E, E = e + 256 * F := ⟨_, rfl⟩
  obtain ⟨D, hD⟩ : ∃ D, D = d + 256 * E := ⟨_, rfl⟩
  obtain ⟨C, hC⟩ : ∃ C, C = c + 256 * D := ⟨_, rfl⟩
  obtain ⟨B, hB⟩ : ∃ B, B = b + 256 * C := ⟨_, rfl⟩
  rw [← hG, ← hF, ← hE, ← hD, ← hC, ← hB] at hy
  have bG : G ≤ 2056 := by omega
  have bF : F ≤ 526344 := by omega
  have bE : E ≤ 134744072 := by omega
  have bD : D ≤ 34494482440 := by omega
  have bC : C ≤ 8830587504648 := by omega
  have bB : B ≤ 2260630401189896 := by omega
  have d1 : v / 256 = B := div_256 hy (by omega)
  obtain ⟨x, hx⟩ : ∃ x, x = v + B := ⟨_, rfl⟩
  have x1 := sum_x hx hy hB hC
  have bx : x ≤ 600000000000000000 := by clear x1 hB hC hD hE hF hG d1; omega
  have d2 : x / 65536 = C + D := div_16 x1 (by clear x1 hB hC hD hE hF hG d1 hx hy; omega)
  obtain ⟨y, hy2⟩ : ∃ y, y = x + (C + D) := ⟨_, rfl⟩
  have y1 := sum_y hy2 x1 hC hD hE hF hG
  have by2 : y ≤ 600010000000000000 := by clear x1 y1 hB hC hD hE hF hG d1 d2 hx hy; omega
  have d3 : y / 4294967296 = E + F + G + h := div_32 y1 (by clear x1 y1 hB hC hD hE hF hG d1 d2 hx hy hy2; omega)
  obtain ⟨z, hz⟩ : ∃ z, z = y + (E + F + G + h) := ⟨_, rfl⟩
  have z1 := sum_z hz y1 hE hF hG
  clear x1 y1 hB hC hD hE hF hG
  refine ⟨x, y, z, ?_, ?_, ?_, ?_, low_7 z1 ?_⟩
  · rw [hx]
    exact wrap_div d1 (by clear d1 d2 d3 z1 hz hy2; omega)
  · rw [hy2]
    exact wrap_div d2 (by clear d1 d2 d3 z1 hz hx hy; omega)
  · rw [hz]
    exact wrap_div d3 (by clear d1 d2 d3 z1 hx hy hy2; omega)
  · clear d1 d2 d3 z1 hx hy hy2
    omega
  · clear d1 d2 d3 z1 hx hy hy2 hz
    omega

end Go.Proofs.YtbekfjjajggffaaDoor.bits

/-
  How many numbers a set has, as math/bits counts them. The program's call. No condition.
-/
namespace Go.Proofs.YtbekfjjajggffaaDoor.bits
open Go.RowKit Go.ChangeShapes

theorem i64_mask (n : Int) (k : Nat) (hk : k < 62) (m : Int) (hm : m = ((2 ^ k - 1 : Nat) : Int)) : bits .and .i64 n m = n % ((2 ^ k : Nat) : Int) := by
  have hp : 2 ^ k ≤ 2 ^ 61 := Nat.pow_le_pow_right (by omega) (by omega)
  have h0 : 0 < 2 ^ k := Nat.two_pow_pos k
  have p61 : (2 : Nat) ^ 61 = 2305843009213693952 := rfl
  have hd : (2 ^ k : Nat) ∣ 2 ^ 64 := Nat.pow_dvd_pow 2 (by omega)
  rw [hm]
  show IntKind.i64.wrap ((BitVec.ofInt 64 n &&& BitVec.ofInt 64 ((2 ^ k - 1 : Nat) : Int)).toNat : Int) = _
  have e2 : (BitVec.ofInt 64 ((2 ^ k - 1 : Nat) : Int)).toNat = 2 ^ k - 1 := by
    rw [BitVec.ofInt_natCast, BitVec.toNat_ofNat]
    exact Nat.mod_eq_of_lt (by omega)
  have hl : (n % 18446744073709551616).toNat % 2 ^ k < 2 ^ k := Nat.mod_lt _ h0
  rw [BitVec.toNat_and, e2, BitVec.toNat_ofInt, Nat.and_two_pow_sub_one_eq_mod]
  have e3 : (((n % ((2 ^ 64 : Nat) : Int)).toNat % 2 ^ k : Nat) : Int) = n % ((2 ^ k : Nat) : Int) := by
    rw [Int.natCast_emod, Int.toNat_of_nonneg (Int.emod_nonneg _ (by decide)), Int.emod_emod_of_dvd n (Int.natCast_dvd_natCast.2 hd)]
  rw [e3, IntKind.wrap_i64]
  have h1 : 0 ≤ n % ((2 ^ k : Nat) : Int) := Int.emod_nonneg _ (by omega)
  have h2 : n % ((2 ^ k : Nat) : Int) < ((2 ^ k : Nat) : Int) := Int.emod_lt_of_pos _ (by omega)
  omega
theorem i64_low7 (n : Int) : bits .and .i64 n 127 = n % 128 := i64_mask n 7 (by omega) 127 rfl
theorem i64_low6 (n : Int) : bits .and .i64 n 63 = n % 64 := i64_mask n 6 (by omega) 63 rfl

set_option maxHeartbeats 400000 in
theorem ones_any (s : Nat) (hs : Is64 s) (w : World) :
    Calls Tryd.prog 56 #[.int .u64 (s : Int)] w fun e w' => e = .returned (.int .i64 ((els s).length : Int)) ∧ w = w' := by
  obtain ⟨g1, b1⟩ := ones1 hs
  obtain ⟨g2, b2⟩ := ones2 b1
  have g3 := ones3 s b2
  obtain ⟨x, y, z, g4, g5, g6, hz, hp⟩ := ones4 s
  rw [← hp]
  have H1 := Lib.hid g1
  have H2 := Lib.hid g2
  have H3 := Lib.hid g3
  have H4 := Lib.hid g4
  have H5 := Lib.hid g5
  have H6 := Lib.hid g6
  have H7 : Hid (bits .and .i64 (z : Int) 127 = ((z % 128 : Nat) : Int)) := by rw [i64_low7]; rfl
  clear g1 g2 g3 g4 g5 g6 hp b1 b2
  go_enter Tryd.func56, Tryd.ntmps56
  go_upto_region 2 with fail
  simp only [H1.out]
  go_upto_region 3 with fail
  simp only [H2.out]
  go_upto_region 4 with fail
  simp only [H3.out]
  go_upto_region 5 with fail
  simp only [H4.out]
  go_upto_region 6 with fail
  simp only [H5.out]
  go_upto_region 7 with fail
  simp only [H6.out]
  go_wp2
  go_ret
  exact ⟨ret_int H7.out, rfl⟩

set_option maxHeartbeats 400000 in
theorem count_any (s : Nat) (hs : Is64 s) (w : World) :
    Calls Tryd.prog 36 #[.int .u64 (s : Int)] w fun e w' => e = .returned (.int .i64 ((els s).length : Int)) ∧ w = w' := by
  go_enter Tryd.func36, Tryd.ntmps36
  go_wp2_with fail
  refine (ones_any s hs _).mono ?_
  rintro e w1 ⟨rfl, rfl⟩
  go_wp2
  go_ret
  exact ⟨rfl, rfl⟩

end Go.Proofs.YtbekfjjajggffaaDoor.bits

/-
  The document's own answers that only compute: whether a number is in a set, its weight, a set with it and without it. No condition.
-/
namespace Go.Proofs.YtbekfjjajggffaaDoor.bits
open Go.RowKit Go.ChangeShapes

theorem half_pow (s j : Nat) : s / 2 ^ j / 2 = s / 2 ^ (j + 1) := by rw [Nat.div_div_eq_div_mul, Nat.pow_succ]
theorem half_val {x : Nat} (hx : Is64 x) : Value.int .u64 (IntKind.u64.wrap ((x : Int) / 2)) = .int .u64 ((x / 2 : Nat) : Int) := by
  unfold Is64 at hx
  rw [IntKind.wrap_u64]
  congr 1
  omega
theorem odd_eq (x : Nat) : (((x : Int) % 2) == 1) = decide (x % 2 = 1) := by
  rw [Bool.eq_iff_iff]
  simp
  omega

set_option maxHeartbeats 1000000 in
theorem refHas_any (s : Nat) (hs : Is64 s) (n : Int) (w : World) :
    Calls Tryd.prog 11 #[.int .u64 (s : Int), .int .i64 n] w fun e w' => e = .returned (.bool (hasB s n)) ∧ w = w' := by
  by_cases h0 : n < 0
  · have hb : hasB s n = false := by unfold hasB; rw [decide_eq_false (by unfold may; omega)]; rfl
    rw [hb]
    clear hb
    go_enter Tryd.func11, Tryd.ntmps11
    go_wp2
    go_ret
    exact ⟨rfl, rfl⟩
  · by_cases h1 : 63 < n
    · have hb : hasB s n = false := by unfold hasB; rw [decide_eq_false (by unfold may; omega)]; rfl
      rw [hb]
      clear hb
      go_enter Tryd.func11, Tryd.ntmps11
      go_wp2
      go_ret
      exact ⟨rfl, rfl⟩
    · obtain ⟨k, rfl⟩ : ∃ k : Nat, n = (k : Int) := ⟨n.toNat, by omega⟩
      have hk : k < 64 := by omega
      have hb : hasB s (k : Int) = decide (s / 2 ^ k % 2 = 1) := by
        unfold hasB
        rw [decide_eq_true (by unfold may; omega), Bool.true_and, testBit_div]
        rfl
      rw [hb]
      clear hb h0 h1
      have hd : decide ((63 : Int) < (k : Int)) = false := by simp; omega
      go_enter Tryd.func11, Tryd.ntmps11
      go_wp2
      go_loop [0, 5] (fun t i => ∃ j x : Nat, j ≤ k ∧ i = .int .i64 (j : Int) ∧ t = .int .u64 (x : Int) ∧ Is64 x ∧ Hid (x = s / 2 ^ j)) (fun _ i => k - (intOf i).toNat)
      case atStart => exact ⟨0, s, Nat.zero_le _, rfl, rfl, hs, Lib.hid (by simp)⟩
      case round =>
        obtain ⟨j, x, hj, rfl, rfl, hx, HE⟩ := hrel
        by_cases hlt : j < k
        · go_wp2
          go_round
          case rel => exact ⟨j + 1, x / 2, by omega, by go_num, half_val hx, by unfold Is64 at *; omega, Lib.hid (by rw [HE.out, half_pow])⟩
          case measure => simp [intOf]; omega
        · obtain rfl : j = k := by omega
          go_wp2
          go_ret
          exact ⟨ret_bool (by rw [← HE.out]; exact odd_eq x), rfl⟩

theorem wth_yes {s : Nat} {n : Int} (h : hasB s n = true) : wth s n = s := by
  unfold hasB at h
  rw [Bool.and_eq_true, decide_eq_true_iff] at h
  unfold wth ins
  rw [if_pos h.1, if_pos h.2]
theorem wth_no {s : Nat} {n : Int} (hm : may n) (h : hasB s n = false) : wth s n = s + 2 ^ n.toNat := by
  unfold hasB at h
  rw [decide_eq_true hm, Bool.true_and] at h
  unfold wth ins
  rw [if_pos hm, if_neg (by rw [h]; exact Bool.false_ne_true)]
theorem wout_no {s : Nat} {n : Int} (h : hasB s n = false) : wout s n = s := by
  unfold hasB at h
  unfold wout del
  split
  · rename_i hm
    rw [decide_eq_true hm, Bool.true_and] at h
    rw [if_neg (by rw [h]; exact Bool.false_ne_true)]
  · rfl
theorem wout_yes {s : Nat} {n : Int} (h : hasB s n = true) : wout s n = s - 2 ^ n.toNat ∧ may n ∧ 2 ^ n.toNat ≤ s := by
  unfold hasB at h
  rw [Bool.and_eq_true, decide_eq_true_iff] at h
  obtain ⟨t, h1, _, _⟩ := del_spec h.2
  refine ⟨?_, h.1, by omega⟩
  unfold wout del
  rw [if_pos h.1, if_pos h.2]

end Go.Proofs.YtbekfjjajggffaaDoor.bits

/-
  The document's own answer of the objects of needs of a kind. No condition but that lengths are ints.
-/
namespace Go.Proofs.YtbekfjjajggffaaDoor.need
open Go.RowKit Go.ChangeShapes
open Go.Proofs.YtbekfjjajggffaaDoor.objs (De zero CellsAt DAt)
open Go.Proofs.YtbekfjjajggffaaDoor.bits (wth Is64)
set_option linter.unusedVariables false

/-- The objects of the first j needs that are of a kind, with those of a set. -/
def objsIn (l : List De) (k : Int) (s : Nat) : Nat → Nat
  | 0 => s
  | j + 1 => if (l.getD j zero).1 = k then wth (objsIn l k s j) (l.getD j zero).2.1 else objsIn l k s j
def objsW (w : List (List De)) (k : Int) : Nat → Nat
  | 0 => 0
  | j + 1 => objsIn (w.getD j []) k (objsW w k j) (w.getD j []).length
def objects (w : List (List De)) (k : Int) : Nat := objsW w k w.length
theorem wth_64 {s : Nat} {n : Int} (h : Is64 s) : Is64 (wth s n) := by
  unfold wth
  split
  · rename_i h1
    exact Go.Proofs.YtbekfjjajggffaaDoor.bits.ins_lt h (by unfold Go.Proofs.YtbekfjjajggffaaDoor.bits.may at h1; omega)
  · exact h
theorem objsIn_64 {l : List De} {k : Int} {s : Nat} (h : Is64 s) : ∀ j, Is64 (objsIn l k s j) := by
  intro j
  induction j with
  | zero => exact h
  | succ j ih =>
    unfold objsIn
    split
    · exact wth_64 ih
    · exact ih
theorem objsW_64 {w : List (List De)} {k : Int} : ∀ j, Is64 (objsW w k j) := by
  intro j
  induction j with
  | zero => unfold objsW Is64; omega
  | succ j ih => exact objsIn_64 ih _

end Go.Proofs.YtbekfjjajggffaaDoor.need
