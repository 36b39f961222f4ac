/-
  More of the plain mathematics of sets: what is at a place of a list, which numbers are below one, the least, the next and the one with so many below it; and how many there are, as a computer counts them, byte by byte. It speaks of numbers and lists alone.
-/
import Derived.Test.YtjedinodopcdaaaDoorBPlain
import Derived.Lib.TrailingZeros
namespace Go.Proofs.YtjedinodopcdaaaDoor.bits

/-- The number at a place of a list; -1, where there is none. -/
def atI (l : List Nat) (k : Nat) : Int := match l[k]? with
  | some n => (n : Int)
  | none => -1
theorem atI_some {l : List Nat} {k n : Nat} (h : l[k]? = some n) : atI l k = (n : Int) := by unfold atI; rw [h]
theorem atI_none {l : List Nat} {k : Nat} (h : l.length ≤ k) : atI l k = -1 := by unfold atI; rw [List.getElem?_eq_none h]
theorem atI_lt {l : List Nat} {k : Nat} (h : k < l.length) : atI l k = ((l[k] : Nat) : Int) := atI_some (List.getElem?_eq_getElem h)
theorem atI_drop (l : List Nat) (a k : Nat) : atI (l.drop a) k = atI l (a + k) := by unfold atI; rw [List.getElem?_drop]

/-- Whether a set may have the number. -/
def may (n : Int) : Prop := 0 ≤ n ∧ n < 64
instance (n : Int) : Decidable (may n) := inferInstanceAs (Decidable (0 ≤ n ∧ n < 64))
def hasB (s : Nat) (n : Int) : Bool := decide (may n) && s.testBit n.toNat
def bitN (n : Int) : Nat := if may n then 2 ^ n.toNat else 0
def wth (s : Nat) (n : Int) : Nat := if may n then ins s n.toNat else s
def wout (s : Nat) (n : Int) : Nat := if may n then del s n.toNat else s
def allN (n : Int) : Nat := if 63 < n then 18446744073709551615 else if n < 0 then 0 else 2 ^ n.toNat - 1

theorem pow_lt64 {n : Nat} (h : n < 64) : Is64 (2 ^ n) := by
  unfold Is64
  rw [← two64]
  exact Nat.pow_lt_pow_right (by omega) h
theorem bitN_lt (n : Int) : Is64 (bitN n) := by
  unfold bitN
  split
  · rename_i h
    unfold may at h
    exact pow_lt64 (by omega)
  · unfold Is64; omega
theorem testBit_bitN (n : Int) (m : Nat) : (bitN n).testBit m = (decide (may n) && decide (n.toNat = m)) := by
  unfold bitN
  split
  · rename_i h
    rw [Nat.testBit_two_pow]
    simp [h]
  · rename_i h
    simp [h]
theorem wth_or (s : Nat) (n : Int) : wth s n = s ||| bitN n := by
  unfold wth bitN
  split
  · exact ins_or _ _
  · simp
theorem wth_lt {s : Nat} (hs : Is64 s) (n : Int) : Is64 (wth s n) := by
  unfold wth
  split
  · rename_i h
    unfold may at h
    exact ins_lt hs (by omega)
  · exact hs
theorem wout_lt {s : Nat} (hs : Is64 s) (n : Int) : Is64 (wout s n) := by
  unfold wout
  split
  · exact Nat.lt_of_le_of_lt (del_le _ _) hs
  · exact hs
theorem testBit_wth (s : Nat) (n : Int) (m : Nat) : (wth s n).testBit m = (s.testBit m || (decide (may n) && decide (n.toNat = m))) := by
  rw [wth_or, Nat.testBit_or, testBit_bitN]
theorem testBit_wout (s : Nat) (n : Int) (m : Nat) : (wout s n).testBit m = (s.testBit m && !(decide (may n) && decide (n.toNat = m))) := by
  unfold wout
  split
  · rename_i h
    rw [testBit_del]
    simp [h]
  · rename_i h
    simp [h]
/-- What a computer takes out of a set. -/
def minus (s t : Nat) : Nat := s &&& (18446744073709551615 - t)
theorem minus_lt {s t : Nat} (hs : Is64 s) : Is64 (minus s t) := Nat.lt_of_le_of_lt Nat.and_le_left hs
theorem testBit_minus {s t m : Nat} (ht : Is64 t) (hm : m < 64) : (minus s t).testBit m = (s.testBit m && !t.testBit m) := by
  unfold minus
  have e : 18446744073709551615 - t = 2 ^ 64 - (t + 1) := by rw [two64]; omega
  rw [Nat.testBit_and, e, Nat.testBit_two_pow_sub_succ (by rw [two64]; exact ht)]
  simp [hm]
theorem wout_minus {s : Nat} (hs : Is64 s) (n : Int) : wout s n = minus s (bitN n) :=
  ext64 (wout_lt hs n) (minus_lt hs) fun m hm => by rw [testBit_wout, testBit_minus (bitN_lt n) hm, testBit_bitN]
theorem hasB_and (s : Nat) (n : Int) : hasB s n = ((s &&& bitN n : Nat) != 0) := by
  unfold hasB bitN
  split
  · rename_i h
    simp only [h, decide_true, Bool.true_and]
    by_cases hb : s.testBit n.toNat = true
    · rw [hb]
      symm
      rw [bne_iff_ne]
      intro h0
      have h1 := congrArg (fun x => x.testBit n.toNat) h0
      simp [hb] at h1
    · have hb' : s.testBit n.toNat = false := by simpa using hb
      rw [hb']
      symm
      rw [bne_eq_false_iff_eq]
      apply Nat.eq_of_testBit_eq
      intro m
      rw [Nat.testBit_and, Nat.testBit_two_pow]
      by_cases hm : n.toNat = m
      · subst hm; simp [hb']
      · simp [hm]
  · rename_i h
    simp [h]
theorem allN_lt (n : Int) : Is64 (allN n) := by
  unfold allN
  split
  · unfold Is64; omega
  · split
    · unfold Is64; omega
    · have := pow_lt64 (show n.toNat < 64 by omega)
      unfold Is64 at *
      omega
theorem testBit_allN (n : Int) {m : Nat} (hm : m < 64) : (allN n).testBit m = decide ((m : Int) < n) := by
  unfold allN
  split
  · rename_i h
    have e : (18446744073709551615 : Nat) = 2 ^ 64 - 1 := by rw [two64]
    rw [e, Nat.testBit_two_pow_sub_one]
    have h1 : (m : Int) < n := by omega
    simp [hm, h1]
  · split
    · rename_i h
      have h1 : ¬ (m : Int) < n := by omega
      simp [h1]
    · rw [Nat.testBit_two_pow_sub_one]
      by_cases h1 : (m : Int) < n
      · have h2 : m < n.toNat := by omega
        simp [h1, h2]
      · have h2 : ¬ m < n.toNat := by omega
        simp [h1, h2]

/-- Those of a set for which something holds. -/
theorem els_filter {s t : Nat} {p : Nat → Bool} (h : ∀ m, m < 64 → t.testBit m = (s.testBit m && p m)) : els t = (els s).filter p := by
  unfold els
  rw [List.filter_filter]
  refine List.filter_congr fun m hm => ?_
  rw [h m (by simpa using hm), Bool.and_comm]
theorem els_length_le (s : Nat) : (els s).length ≤ 64 := by
  unfold els
  have := List.length_filter_le (fun n => s.testBit n) (List.range 64)
  simpa using this
theorem els_get_lt {s k n : Nat} (h : (els s)[k]? = some n) : n < 64 := (mem_els.1 (List.mem_of_getElem? h)).1
theorem els_zero : els 0 = [] := by unfold els; simp
theorem els_nil {s : Nat} (hs : Is64 s) : els s = [] ↔ s = 0 := by
  constructor
  · intro h
    have := ofs_els hs
    rw [h] at this
    exact this.symm
  · intro h
    rw [h, els_zero]
theorem atI_els (s k : Nat) : -1 ≤ atI (els s) k ∧ atI (els s) k < 64 := by
  by_cases h : k < (els s).length
  · have h1 := els_get_lt (List.getElem?_eq_getElem h)
    rw [atI_lt h]
    omega
  · rw [atI_none (by omega)]
    omega
theorem atI_els_neg (s k : Nat) : atI (els s) k = -1 ↔ (els s).length ≤ k := by
  unfold atI
  cases h : (els s)[k]? with
  | none => exact ⟨fun _ => List.getElem?_eq_none_iff.1 h, fun _ => rfl⟩
  | some n =>
    refine ⟨fun h1 => ?_, fun h1 => ?_⟩
    · have h2 : (n : Int) = -1 := h1
      omega
    · have := List.getElem?_eq_none h1
      rw [h] at this
      cases this

/-- The least of a rising list. -/
theorem least_first {l : List Nat} {c : Nat} (hl : l.Pairwise (· < ·)) (hc : c ∈ l) (h : ∀ n ∈ l, c ≤ n) : l[0]? = some c := by
  cases l with
  | nil => cases hc
  | cons a l =>
    rw [List.pairwise_cons] at hl
    rcases List.mem_cons.1 hc with rfl | hm
    · rfl
    · have h1 := hl.1 c hm
      have h2 := h a (List.mem_cons_self ..)
      omega
theorem els_first {s : Nat} (hs : Is64 s) (h0 : s ≠ 0) : (els s)[0]? = some (Lib.ctz 64 s) := by
  unfold Lib.ctz
  rw [if_neg h0]
  obtain ⟨m, hm, hc⟩ := Lib.ctzFrom_spec 64 s (by omega) (by rw [two64]; exact hs)
  generalize Lib.ctzFrom 64 s = c at *
  have hb : ∀ i, s.testBit i = (decide (c ≤ i) && (2 * m + 1).testBit (i - c)) := by
    intro i
    rw [hm, Nat.mul_comm, Nat.testBit_mul_two_pow]
  refine least_first (els_rising s) (mem_els.2 ⟨hc, ?_⟩) fun n hn => ?_
  · rw [hb]
    simp [Nat.testBit_zero]
  · have h1 := (mem_els.1 hn).2
    rw [hb] at h1
    simp only [Bool.and_eq_true, decide_eq_true_eq] at h1
    exact h1.1
/-- The first one, as the program tells it. -/
theorem first_eq {s : Nat} (hs : Is64 s) (h0 : s ≠ 0) : ((Lib.ctz 64 s : Nat) : Int) = atI (els s) 0 := (atI_some (els_first hs h0)).symm

theorem rising_drop {l : List Nat} {k a : Nat} (hl : l.Pairwise (· < ·)) (h : l[k]? = some a) : l.filter (fun n : Nat => decide ((a : Int) < (n : Int))) = l.drop (k + 1) := by
  induction l generalizing k with
  | nil => simp at h
  | cons b l ih =>
    rw [List.pairwise_cons] at hl
    cases k with
    | zero =>
      simp only [List.getElem?_cons_zero, Option.some.injEq] at h
      subst h
      rw [List.filter_cons_of_neg (by simp), List.drop_succ_cons, List.drop_zero, List.filter_eq_self]
      intro n hn
      have := hl.1 n hn
      simp
      omega
    | succ k =>
      simp only [List.getElem?_cons_succ] at h
      have hb : b < a := hl.1 a (List.mem_of_getElem? h)
      rw [List.filter_cons_of_neg (by simp; omega), List.drop_succ_cons]
      exact ih hl.2 h
/-- All above n. -/
theorem els_above (s : Nat) (n : Int) : els (wout (minus s (allN n)) n) = (els s).filter fun m : Nat => decide (n < (m : Int)) := by
  refine els_filter fun m hm => ?_
  rw [testBit_wout, testBit_minus (allN_lt n) hm, testBit_allN n hm]
  cases s.testBit m
  · simp
  · unfold may
    by_cases h1 : n < (m : Int)
    · have h2 : ¬ (m : Int) < n := by omega
      have h3 : ¬ n.toNat = m ∨ ¬ (0 ≤ n ∧ n < 64) := by omega
      rcases h3 with h3 | h3 <;> simp [h1, h2, h3]
    · by_cases h2 : (m : Int) < n
      · simp [h1, h2]
      · have h3 : n.toNat = m := by omega
        have h4 : 0 ≤ n ∧ n < 64 := by omega
        simp [h1, h2, h3, h4]
def nextI (s : Nat) (n : Int) : Int := atI ((els s).filter fun m : Nat => decide (n < (m : Int))) 0
theorem next_at {s k : Nat} (h : k < (els s).length) : nextI s (atI (els s) k) = atI (els s) (k + 1) := by
  have h1 := List.getElem?_eq_getElem h
  unfold nextI
  rw [atI_some h1, rising_drop (els_rising s) h1, atI_drop]
theorem next_start (s : Nat) {n : Int} (h : n < 0) : nextI s n = atI (els s) 0 := by
  unfold nextI
  congr 1
  rw [List.filter_eq_self]
  intro m _
  simp
  omega
/-- Without the first one. -/
theorem els_less {s : Nat} (hs : Is64 s) (h0 : s ≠ 0) : els (wout s (atI (els s) 0)) = (els s).drop 1 := by
  obtain ⟨a, l, hl⟩ : ∃ a l, els s = a :: l := by
    cases h : els s with
    | nil => exact absurd ((els_nil hs).1 h) h0
    | cons a l => exact ⟨a, l, rfl⟩
  have ha : a < 64 := els_get_lt (s := s) (k := 0) (by rw [hl]; rfl)
  have e : els (wout s (atI (els s) 0)) = (els s).filter fun n => !decide (a = n) := by
    refine els_filter fun m _ => ?_
    rw [testBit_wout, hl]
    have h1 : atI (a :: l) 0 = (a : Int) := rfl
    have h2 : may (a : Int) := by unfold may; omega
    rw [h1]
    simp [h2]
  rw [e, hl]
  have hr := els_rising s
  rw [hl, List.pairwise_cons] at hr
  rw [List.filter_cons_of_neg (by simp), List.drop_succ_cons, List.drop_zero, List.filter_eq_self]
  intro n hn
  have := hr.1 n hn
  simp
  omega

/-- How many of the lowest k bits are set. -/
def pc : Nat → Nat → Nat
  | 0, _ => 0
  | k + 1, s => s % 2 + pc k (s / 2)
theorem pc_range (k : Nat) : ∀ s, ((List.range k).filter fun n => s.testBit n).length = pc k s := by
  induction k with
  | zero => intro s; rfl
  | succ k ih =>
    intro s
    rw [List.range_succ_eq_map, List.filter_cons, pc]
    have e : (List.filter (fun n => s.testBit n) (List.map Nat.succ (List.range k))).length = pc k (s / 2) := by
      rw [List.filter_map, List.length_map, ← ih (s / 2)]
      congr 1
      refine List.filter_congr fun n _ => ?_
      show s.testBit (n + 1) = _
      rw [Nat.testBit_succ]
    split
    · rename_i h
      rw [Nat.testBit_zero, decide_eq_true_eq] at h
      rw [List.length_cons, e]
      omega
    · rename_i h
      rw [Nat.testBit_zero, decide_eq_true_eq] at h
      rw [e]
      omega
theorem pc_els (s : Nat) : (els s).length = pc 64 s := pc_range 64 s
theorem pc_add (a b : Nat) : ∀ s, pc (a + b) s = pc a s + pc b (s / 2 ^ a) := by
  induction a with
  | zero => intro s; simp [pc]
  | succ a ih =>
    intro s
    rw [Nat.succ_add, pc, pc, ih, Nat.div_div_eq_div_mul, Nat.pow_succ, Nat.mul_comm 2]
    omega
theorem pc8_mod (s : Nat) : pc 8 s = pc 8 (s % 256) := by
  simp only [pc]
  omega
theorem pc8_le (b : Nat) : pc 8 b ≤ 8 := by
  simp only [pc]
  omega

/-- A byte at a time. -/
def mk (m : Nat) : Nat → Nat
  | 0 => 0
  | k + 1 => 256 * mk m k + m
def bm (f : Nat → Nat) : Nat → Nat → Nat
  | 0, _ => 0
  | k + 1, s => f (s % 256) + 256 * bm f k (s / 256)
theorem and_join (q r M m : Nat) (hr : r < 256) (hm : m < 256) : (256 * q + r) &&& (256 * M + m) = 256 * (q &&& M) + (r &&& m) := by
  have h1 : ((256 * q + r) &&& (256 * M + m)) / 256 = q &&& M := by
    have h : ((256 * q + r) &&& (256 * M + m)) / 2 ^ 8 = (256 * q + r) / 2 ^ 8 &&& (256 * M + m) / 2 ^ 8 := Nat.and_div_two_pow
    have e1 : (256 * q + r) / 2 ^ 8 = q := by omega
    have e2 : (256 * M + m) / 2 ^ 8 = M := by omega
    rw [e1, e2] at h
    exact h
  have h2 : ((256 * q + r) &&& (256 * M + m)) % 256 = r &&& m := by
    have h : ((256 * q + r) &&& (256 * M + m)) % 2 ^ 8 = (256 * q + r) % 2 ^ 8 &&& (256 * M + m) % 2 ^ 8 := Nat.and_mod_two_pow
    have e1 : (256 * q + r) % 2 ^ 8 = r := by omega
    have e2 : (256 * M + m) % 2 ^ 8 = m := by omega
    rw [e1, e2] at h
    exact h
  omega
theorem out85 : ∀ c, c < 2 → ∀ t, t < 128 → (c * 128 + t) &&& 85 = t &&& 85 := by decide +kernel
theorem out51 : ∀ c, c < 4 → ∀ t, t < 64 → (c * 64 + t) &&& 51 = t &&& 51 := by decide +kernel
theorem out15 : ∀ c, c < 5 → ∀ r, r < 69 → (c * 16 + r / 16 + r) &&& 15 = (r / 16 + r) &&& 15 := by decide +kernel
def f1 (b : Nat) : Nat := (b / 2 &&& 85) + (b &&& 85)
def f2 (b : Nat) : Nat := (b / 4 &&& 51) + (b &&& 51)
def f3 (b : Nat) : Nat := (b / 16 + b) &&& 15
theorem f1_lt : ∀ b, b < 256 → f1 b < 256 := by decide +kernel
theorem f2_lt : ∀ b, b < 256 → f2 b < 256 := by decide +kernel
theorem f2f1 : ∀ b, b < 256 → f2 (f1 b) % 16 < 5 ∧ f2 (f1 b) < 69 := by decide +kernel
theorem f321 : ∀ b, b < 256 → f3 (f2 (f1 b)) = pc 8 b := by decide +kernel
theorem step1 (k : Nat) : ∀ s, (s / 2 &&& mk 85 k) + (s &&& mk 85 k) = bm f1 k s := by
  induction k with
  | zero => intro s; simp [mk, bm]
  | succ k ih =>
    intro s
    have e1 : s / 2 = 256 * (s / 256 / 2) + (s / 256 % 2 * 128 + s % 256 / 2) := by omega
    have e2 : s = 256 * (s / 256) + s % 256 := by omega
    have a1 : s / 2 &&& mk 85 (k + 1) = 256 * (s / 256 / 2 &&& mk 85 k) + (s % 256 / 2 &&& 85) := by
      rw [e1, mk, and_join _ _ _ _ (by omega) (by omega), out85 _ (by omega) _ (by omega)]
    have a2 : s &&& mk 85 (k + 1) = 256 * (s / 256 &&& mk 85 k) + (s % 256 &&& 85) := by
      conv => lhs; rw [e2]
      rw [mk, and_join _ _ _ _ (by omega) (by omega)]
    have := ih (s / 256)
    have hf : f1 (s % 256) = (s % 256 / 2 &&& 85) + (s % 256 &&& 85) := rfl
    rw [a1, a2, bm, hf]
    omega
theorem step2 (k : Nat) : ∀ s, (s / 4 &&& mk 51 k) + (s &&& mk 51 k) = bm f2 k s := by
  induction k with
  | zero => intro s; simp [mk, bm]
  | succ k ih =>
    intro s
    have e1 : s / 4 = 256 * (s / 256 / 4) + (s / 256 % 4 * 64 + s % 256 / 4) := by omega
    have e2 : s = 256 * (s / 256) + s % 256 := by omega
    have a1 : s / 4 &&& mk 51 (k + 1) = 256 * (s / 256 / 4 &&& mk 51 k) + (s % 256 / 4 &&& 51) := by
      rw [e1, mk, and_join _ _ _ _ (by omega) (by omega), out51 _ (by omega) _ (by omega)]
    have a2 : s &&& mk 51 (k + 1) = 256 * (s / 256 &&& mk 51 k) + (s % 256 &&& 51) := by
      conv => lhs; rw [e2]
      rw [mk, and_join _ _ _ _ (by omega) (by omega)]
    have := ih (s / 256)
    have hf : f2 (s % 256) = (s % 256 / 4 &&& 51) + (s % 256 &&& 51) := rfl
    rw [a1, a2, bm, hf]
    omega
theorem bm_bm {f g : Nat → Nat} (hg : ∀ b, b < 256 → g b < 256) (k : Nat) : ∀ s, bm f k (bm g k s) = bm (fun b => f (g b)) k s := by
  induction k with
  | zero => intro s; rfl
  | succ k ih =>
    intro s
    have h := hg (s % 256) (by omega)
    rw [bm, bm, bm]
    have e1 : (g (s % 256) + 256 * bm g k (s / 256)) % 256 = g (s % 256) := by omega
    have e2 : (g (s % 256) + 256 * bm g k (s / 256)) / 256 = bm g k (s / 256) := by omega
    rw [e1, e2, ih]
theorem bm_mod16 {g : Nat → Nat} (hg : ∀ b, b < 256 → g b % 16 < 5 ∧ g b < 69) (k s : Nat) : bm g k s % 16 < 5 := by
  cases k with
  | zero => rw [bm]; omega
  | succ k =>
    have h := hg (s % 256) (by omega)
    rw [bm]
    omega
theorem step3 {g : Nat → Nat} (hg : ∀ b, b < 256 → g b % 16 < 5 ∧ g b < 69) (k : Nat) : ∀ s, (bm g k s / 16 + bm g k s) &&& mk 15 k = bm (fun b => f3 (g b)) k s := by
  induction k with
  | zero => intro s; simp [mk]; rfl
  | succ k ih =>
    intro s
    have h := hg (s % 256) (by omega)
    have h16 := bm_mod16 hg k (s / 256)
    have := ih (s / 256)
    have hf : f3 (g (s % 256)) = (g (s % 256) / 16 + g (s % 256)) &&& 15 := rfl
    rw [bm, bm, hf]
    generalize g (s % 256) = r at *
    generalize bm g k (s / 256) = q at *
    have e : (r + 256 * q) / 16 + (r + 256 * q) = 256 * (q / 16 + q) + (q % 16 * 16 + r / 16 + r) := by omega
    rw [e, mk, and_join _ _ _ _ (by omega) (by omega), out15 _ h16 _ h.2, this]
    omega
theorem bm_congr {f g : Nat → Nat} (h : ∀ b, b < 256 → f b = g b) (k : Nat) : ∀ s, bm f k s = bm g k s := by
  induction k with
  | zero => intro s; rfl
  | succ k ih => intro s; rw [bm, bm, h _ (by omega), ih]
/-- The first three steps come to how many of each byte are set. -/
theorem steps (s : Nat) :
    bm f3 8 (bm f2 8 (bm f1 8 s)) = bm (pc 8) 8 s := by
  rw [bm_bm f1_lt, bm_bm (fun b hb => by have := (f2f1 b hb).2; omega)]
  exact bm_congr (fun b hb => f321 b hb) 8 s
theorem sum8 (s : Nat) : ∃ a b c d e f g h : Nat, (a ≤ 8 ∧ b ≤ 8 ∧ c ≤ 8 ∧ d ≤ 8 ∧ e ≤ 8 ∧ f ≤ 8 ∧ g ≤ 8 ∧ h ≤ 8) ∧
    bm (pc 8) 8 s = a + 256 * (b + 256 * (c + 256 * (d + 256 * (e + 256 * (f + 256 * (g + 256 * h)))))) ∧ pc 64 s = a + b + c + d + e + f + g + h := by
  refine ⟨pc 8 (s % 256), pc 8 (s / 256 % 256), pc 8 (s / 256 / 256 % 256), pc 8 (s / 256 / 256 / 256 % 256), pc 8 (s / 256 / 256 / 256 / 256 % 256), pc 8 (s / 256 / 256 / 256 / 256 / 256 % 256),
    pc 8 (s / 256 / 256 / 256 / 256 / 256 / 256 % 256), pc 8 (s / 256 / 256 / 256 / 256 / 256 / 256 / 256 % 256), ⟨pc8_le _, pc8_le _, pc8_le _, pc8_le _, pc8_le _, pc8_le _, pc8_le _, pc8_le _⟩, ?_, ?_⟩
  · simp only [bm, Nat.mul_zero, Nat.add_zero]
  · have e : (64 : Nat) = 8 + (8 + (8 + (8 + (8 + (8 + (8 + 8)))))) := rfl
    rw [e]
    simp only [pc_add]
    have p : (2 : Nat) ^ 8 = 256 := rfl
    rw [p]
    simp only [← pc8_mod]
    omega

end Go.Proofs.YtjedinodopcdaaaDoor.bits
