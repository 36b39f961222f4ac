/-
  Texts of one claim in one file: BPlain, BMore, BBit, EClash. Each has its own sentence, with its conditions.
-/
import Derived.Laws.BitsAllLaws
import Derived.Lib.TrailingZeros
import Derived.Test.YtnhoeboighndlaaGreatDoorProg
import Derived.WalkKit
import Derived.ProofKit
import Derived.Lib.Hide
import Derived.Outline
import Derived.Laws.ShiftsVarLaws
import Derived.Laws.Bits64b
import Derived.Test.YtnhoeboighndlaaGreatDoorYall13
/-
  The plain mathematics of sets of numbers from 0 to 63, as numbers below two to the sixty-fourth: what is in one, with a number and without it, all moved. It speaks of numbers and lists alone.
-/
namespace Go.Proofs.YtnhoeboighndlaaGreatDoor.bits

/-- One with all its numbers below 64. -/
def Is64 (s : Nat) : Prop := s < 18446744073709551616
theorem two64 : (2 : Nat) ^ 64 = 18446744073709551616 := rfl
theorem ext64 {s t : Nat} (hs : Is64 s) (ht : Is64 t) (h : ∀ n, n < 64 → s.testBit n = t.testBit n) : s = t := by
  apply Nat.eq_of_testBit_eq
  intro n
  by_cases hn : n < 64
  · exact h n hn
  · have hp : (2 : Nat) ^ 64 ≤ 2 ^ n := Nat.pow_le_pow_right (by omega) (by omega)
    unfold Is64 at hs ht
    rw [Nat.testBit_lt_two_pow (by omega), Nat.testBit_lt_two_pow (by omega)]

theorem testBit_div (s n : Nat) : s.testBit n = decide (s / 2 ^ n % 2 = 1) := by
  rw [Nat.testBit_eq_decide_div_mod_eq]

/-- A number more: the weight of one that is not there. -/
theorem add_pow {s n : Nat} (h : s.testBit n = false) : s + 2 ^ n = s ||| 2 ^ n := by
  have h1 : s / 2 ^ n % 2 = 0 := by
    rw [testBit_div] at h
    have h2 : ¬ s / 2 ^ n % 2 = 1 := by simpa using h
    omega
  have hp : 0 < 2 ^ n := Nat.two_pow_pos n
  have hlo : s % 2 ^ n < 2 ^ n := Nat.mod_lt _ hp
  have hs : s = s / 2 ^ n * 2 ^ n + s % 2 ^ n := by rw [Nat.mul_comm]; exact (Nat.div_add_mod s (2 ^ n)).symm
  obtain ⟨q, hq⟩ : ∃ q, s / 2 ^ n = 2 * q := ⟨s / 2 ^ n / 2, by omega⟩
  have hhi : s / 2 ^ n * 2 ^ n = q * 2 ^ (n + 1) := by rw [hq, Nat.pow_succ, Nat.mul_comm 2 q, Nat.mul_assoc, Nat.mul_comm 2 (2 ^ n)]
  generalize s % 2 ^ n = lo at *
  rw [hhi] at hs
  have e1 : q * 2 ^ (n + 1) ||| lo = q * 2 ^ (n + 1) + lo := nat_join (n + 1) _ lo (Nat.mul_mod_left _ _) (by rw [Nat.pow_succ]; omega)
  have e2 : 2 ^ n ||| lo = 2 ^ n + lo := nat_join n _ lo (Nat.mod_self _) hlo
  have e3 : q * 2 ^ (n + 1) ||| (2 ^ n + lo) = q * 2 ^ (n + 1) + (2 ^ n + lo) := nat_join (n + 1) _ _ (Nat.mul_mod_left _ _) (by rw [Nat.pow_succ]; omega)
  rw [hs, ← e1, Nat.or_assoc, Nat.or_comm lo, e2, e3, e1]
  omega

def ins (s n : Nat) : Nat := if s.testBit n then s else s + 2 ^ n
def del (s n : Nat) : Nat := if s.testBit n then s - 2 ^ n else s
theorem ins_or (s n : Nat) : ins s n = s ||| 2 ^ n := by
  unfold ins
  by_cases h : s.testBit n = true
  · rw [if_pos h]
    apply Nat.eq_of_testBit_eq
    intro m
    rw [Nat.testBit_or, Nat.testBit_two_pow]
    by_cases hm : n = m
    · subst hm; simp [h]
    · simp [hm]
  · have h' : s.testBit n = false := by simpa using h
    rw [if_neg h, add_pow h']
theorem testBit_ins (s n m : Nat) : (ins s n).testBit m = (s.testBit m || decide (n = m)) := by
  rw [ins_or, Nat.testBit_or, Nat.testBit_two_pow]
theorem ins_lt {s n : Nat} (hs : Is64 s) (hn : n < 64) : Is64 (ins s n) := by
  unfold Is64 at *
  rw [ins_or, ← two64]
  exact Nat.or_lt_two_pow (by rw [two64]; exact hs) (Nat.pow_lt_pow_right (by omega) hn)
/-- Without a number that is there, and with it again. -/
theorem del_spec {s n : Nat} (h : s.testBit n = true) : ∃ t, s = t + 2 ^ n ∧ t.testBit n = false ∧ del s n = t := by
  have h1 : s / 2 ^ n % 2 = 1 := by
    rw [testBit_div] at h
    simpa using h
  have hp : 0 < 2 ^ n := Nat.two_pow_pos n
  have hge : 2 ^ n ≤ s := by
    rcases Nat.lt_or_ge s (2 ^ n) with hl | hl
    · rw [Nat.div_eq_of_lt hl] at h1
      omega
    · exact hl
  refine ⟨s - 2 ^ n, by omega, ?_, by unfold del; rw [if_pos h]⟩
  rw [testBit_div]
  have e : (s - 2 ^ n) / 2 ^ n = s / 2 ^ n - 1 := by
    have := Nat.sub_mul_div s (2 ^ n) 1
    simpa using this
  rw [e, decide_eq_false_iff_not]
  omega
theorem testBit_del (s n m : Nat) : (del s n).testBit m = (s.testBit m && !decide (n = m)) := by
  by_cases h : s.testBit n = true
  · obtain ⟨t, hs, ht, hd⟩ := del_spec h
    rw [hd, hs, add_pow ht, Nat.testBit_or, Nat.testBit_two_pow]
    by_cases hm : n = m
    · subst hm; simp [ht]
    · simp [hm]
  · have h' : s.testBit n = false := by simpa using h
    unfold del
    rw [if_neg h]
    by_cases hm : n = m
    · subst hm; simp [h']
    · simp [hm]
theorem del_le (s n : Nat) : del s n ≤ s := by
  unfold del
  split
  · exact Nat.sub_le _ _
  · exact Nat.le_refl _

/-- All that is in a set, rising. -/
def els (s : Nat) : List Nat := (List.range 64).filter fun n => s.testBit n
theorem mem_els {s n : Nat} : n ∈ els s ↔ n < 64 ∧ s.testBit n = true := by simp [els]
theorem els_rising (s : Nat) : (els s).Pairwise (· < ·) := List.Pairwise.filter _ List.pairwise_lt_range

/-- The set of a list. -/
def ofs (l : List Nat) : Nat := l.foldl ins 0
theorem foldl_ins (l : List Nat) : ∀ s m, (l.foldl ins s).testBit m = (s.testBit m || decide (m ∈ l)) := by
  induction l with
  | nil => intro s m; simp
  | cons n l ih =>
    intro s m
    rw [List.foldl_cons, ih, testBit_ins]
    by_cases hm : n = m
    · subst hm; simp
    · have hm' : ¬ m = n := fun e => hm e.symm
      simp [hm, hm']
theorem testBit_ofs (l : List Nat) (m : Nat) : (ofs l).testBit m = decide (m ∈ l) := by
  unfold ofs
  rw [foldl_ins]
  simp
theorem foldl_lt (l : List Nat) : ∀ s, Is64 s → (∀ n ∈ l, n < 64) → Is64 (l.foldl ins s) := by
  induction l with
  | nil => intro s hs _; exact hs
  | cons n l ih =>
    intro s hs h
    rw [List.foldl_cons]
    exact ih _ (ins_lt hs (h n (List.mem_cons_self ..))) fun m hm => h m (List.mem_cons_of_mem _ hm)
theorem ofs_lt {l : List Nat} (h : ∀ n ∈ l, n < 64) : Is64 (ofs l) := foldl_lt l 0 (by unfold Is64; omega) h
theorem ofs_els {s : Nat} (hs : Is64 s) : ofs (els s) = s := by
  refine ext64 (ofs_lt fun n hn => (mem_els.1 hn).1) hs fun n hn => ?_
  rw [testBit_ofs]
  by_cases h : s.testBit n = true
  · rw [h, decide_eq_true_iff]; exact mem_els.2 ⟨hn, h⟩
  · have h' : s.testBit n = false := by simpa using h
    rw [h', decide_eq_false_iff_not]
    intro hm
    exact h (mem_els.1 hm).2

/-- All moved by k, from 0 to 63. -/
def up (s k : Nat) : Nat := ofs ((els s).map fun n => (n + k) % 64)
theorem up_lt (s k : Nat) : Is64 (up s k) := ofs_lt fun n hn => by
  obtain ⟨m, _, rfl⟩ := List.mem_map.1 hn
  omega
theorem testBit_up {s k m : Nat} (hk : k < 64) (hm : m < 64) : (up s k).testBit m = s.testBit ((m + (64 - k)) % 64) := by
  unfold up
  rw [testBit_ofs]
  by_cases h : s.testBit ((m + (64 - k)) % 64) = true
  · rw [h, decide_eq_true_iff]
    exact List.mem_map.2 ⟨(m + (64 - k)) % 64, mem_els.2 ⟨by omega, h⟩, by omega⟩
  · have h' : s.testBit ((m + (64 - k)) % 64) = false := by simpa using h
    rw [h', decide_eq_false_iff_not]
    intro hmem
    obtain ⟨n, hn, hnm⟩ := List.mem_map.1 hmem
    obtain ⟨hn64, hb⟩ := mem_els.1 hn
    have e : (m + (64 - k)) % 64 = n := by omega
    rw [e] at h
    exact h hb
theorem up_up {s a b : Nat} (ha : a < 64) (hb : b < 64) : up (up s a) b = up s ((a + b) % 64) := by
  refine ext64 (up_lt _ _) (up_lt _ _) fun m hm => ?_
  rw [testBit_up hb hm, testBit_up ha (by omega), testBit_up (by omega) hm]
  congr 1
  omega
theorem up_zero {s : Nat} (hs : Is64 s) : up s 0 = s := by
  refine ext64 (up_lt _ _) hs fun m hm => ?_
  rw [testBit_up (by omega) hm]
  congr 1
  omega
theorem up_back {s a : Nat} (hs : Is64 s) (ha : a < 64) : up (up s a) ((64 - a) % 64) = s := by
  rw [up_up ha (by omega)]
  have e : (a + (64 - a) % 64) % 64 = 0 := by omega
  rw [e, up_zero hs]
/-- As a computer turns it. -/
theorem up_turn {s k : Nat} (hs : Is64 s) (hk : k < 64) : up s k = s * 2 ^ k % 18446744073709551616 ||| s / 2 ^ (64 - k) := by
  refine ext64 (up_lt _ _) ?_ fun m hm => ?_
  · unfold Is64 at *
    rw [← two64]
    refine Nat.or_lt_two_pow (Nat.mod_lt _ (Nat.two_pow_pos _)) ?_
    exact Nat.lt_of_le_of_lt (Nat.div_le_self _ _) (by rw [two64]; exact hs)
  · rw [testBit_up hk hm, Nat.testBit_or, ← two64, Nat.testBit_mod_two_pow, Nat.testBit_mul_two_pow, Nat.testBit_div_two_pow]
    by_cases hmk : k ≤ m
    · have e : (m + (64 - k)) % 64 = m - k := by omega
      have hbig : s.testBit (64 - k + m) = false := by
        refine Nat.testBit_lt_two_pow (Nat.lt_of_lt_of_le hs ?_)
        rw [← two64]
        exact Nat.pow_le_pow_right (by omega) (by omega)
      have hbig' : s.testBit (m + (64 - k)) = false := by rw [Nat.add_comm]; exact hbig
      rw [e]
      simp [hm, hmk, hbig']
    · have e : (m + (64 - k)) % 64 = m + (64 - k) := by omega
      rw [e]
      simp [hm, hmk]

/-- As many as before. -/
theorem turn_perm : ∀ k, k < 64 → ((List.range 64).map fun m => (m + (64 - k)) % 64).isPerm (List.range 64) = true := by decide +kernel
theorem count_up (s : Nat) {k : Nat} (hk : k < 64) : (els (up s k)).length = (els s).length := by
  have hp : ((List.range 64).map fun m => (m + (64 - k)) % 64).Perm (List.range 64) := List.isPerm_iff.1 (turn_perm k hk)
  have h1 := (hp.filter fun n => s.testBit n).length_eq
  rw [List.filter_map, List.length_map] at h1
  unfold els
  rw [← h1]
  congr 1
  refine List.filter_congr fun m hm => ?_
  exact testBit_up hk (by simpa using hm)

end Go.Proofs.YtnhoeboighndlaaGreatDoor.bits

/-
  More of the plain mathematics of sets: what is at a place of a list, which numbers are below one, the least, the next and the one with so many below it; and how many there are, as a computer counts them, byte by byte. It speaks of numbers and lists alone.
-/
namespace Go.Proofs.YtnhoeboighndlaaGreatDoor.bits

/-- The number at a place of a list; -1, where there is none. -/
def atI (l : List Nat) (k : Nat) : Int := match l[k]? with
  | some n => (n : Int)
  | none => -1
theorem atI_some {l : List Nat} {k n : Nat} (h : l[k]? = some n) : atI l k = (n : Int) := by unfold atI; rw [h]
theorem atI_none {l : List Nat} {k : Nat} (h : l.length ≤ k) : atI l k = -1 := by unfold atI; rw [List.getElem?_eq_none h]
theorem atI_lt {l : List Nat} {k : Nat} (h : k < l.length) : atI l k = ((l[k] : Nat) : Int) := atI_some (List.getElem?_eq_getElem h)
theorem atI_drop (l : List Nat) (a k : Nat) : atI (l.drop a) k = atI l (a + k) := by unfold atI; rw [List.getElem?_drop]

/-- Whether a set may have the number. -/
def may (n : Int) : Prop := 0 ≤ n ∧ n < 64
instance (n : Int) : Decidable (may n) := inferInstanceAs (Decidable (0 ≤ n ∧ n < 64))
def hasB (s : Nat) (n : Int) : Bool := decide (may n) && s.testBit n.toNat
def bitN (n : Int) : Nat := if may n then 2 ^ n.toNat else 0
def wth (s : Nat) (n : Int) : Nat := if may n then ins s n.toNat else s
def wout (s : Nat) (n : Int) : Nat := if may n then del s n.toNat else s
def allN (n : Int) : Nat := if 63 < n then 18446744073709551615 else if n < 0 then 0 else 2 ^ n.toNat - 1

theorem pow_lt64 {n : Nat} (h : n < 64) : Is64 (2 ^ n) := by
  unfold Is64
  rw [← two64]
  exact Nat.pow_lt_pow_right (by omega) h
theorem bitN_lt (n : Int) : Is64 (bitN n) := by
  unfold bitN
  split
  · rename_i h
    unfold may at h
    exact pow_lt64 (by omega)
  · unfold Is64; omega
theorem testBit_bitN (n : Int) (m : Nat) : (bitN n).testBit m = (decide (may n) && decide (n.toNat = m)) := by
  unfold bitN
  split
  · rename_i h
    rw [Nat.testBit_two_pow]
    simp [h]
  · rename_i h
    simp [h]
theorem wth_or (s : Nat) (n : Int) : wth s n = s ||| bitN n := by
  unfold wth bitN
  split
  · exact ins_or _ _
  · simp
theorem wth_lt {s : Nat} (hs : Is64 s) (n : Int) : Is64 (wth s n) := by
  unfold wth
  split
  · rename_i h
    unfold may at h
    exact ins_lt hs (by omega)
  · exact hs
theorem wout_lt {s : Nat} (hs : Is64 s) (n : Int) : Is64 (wout s n) := by
  unfold wout
  split
  · exact Nat.lt_of_le_of_lt (del_le _ _) hs
  · exact hs
theorem testBit_wth (s : Nat) (n : Int) (m : Nat) : (wth s n).testBit m = (s.testBit m || (decide (may n) && decide (n.toNat = m))) := by
  rw [wth_or, Nat.testBit_or, testBit_bitN]
theorem testBit_wout (s : Nat) (n : Int) (m : Nat) : (wout s n).testBit m = (s.testBit m && !(decide (may n) && decide (n.toNat = m))) := by
  unfold wout
  split
  · rename_i h
    rw [testBit_del]
    simp [h]
  · rename_i h
    simp [h]
/-- What a computer takes out of a set. -/
def minus (s t : Nat) : Nat := s &&& (18446744073709551615 - t)
theorem minus_lt {s t : Nat} (hs : Is64 s) : Is64 (minus s t) := Nat.lt_of_le_of_lt Nat.and_le_left hs
theorem testBit_minus {s t m : Nat} (ht : Is64 t) (hm : m < 64) : (minus s t).testBit m = (s.testBit m && !t.testBit m) := by
  unfold minus
  have e : 18446744073709551615 - t = 2 ^ 64 - (t + 1) := by rw [two64]; omega
  rw [Nat.testBit_and, e, Nat.testBit_two_pow_sub_succ (by rw [two64]; exact ht)]
  simp [hm]
theorem wout_minus {s : Nat} (hs : Is64 s) (n : Int) : wout s n = minus s (bitN n) :=
  ext64 (wout_lt hs n) (minus_lt hs) fun m hm => by rw [testBit_wout, testBit_minus (bitN_lt n) hm, testBit_bitN]
theorem hasB_and (s : Nat) (n : Int) : hasB s n = ((s &&& bitN n : Nat) != 0) := by
  unfold hasB bitN
  split
  · rename_i h
    simp only [h, decide_true, Bool.true_and]
    by_cases hb : s.testBit n.toNat = true
    · rw [hb]
      symm
      rw [bne_iff_ne]
      intro h0
      have h1 := congrArg (fun x => x.testBit n.toNat) h0
      simp [hb] at h1
    · have hb' : s.testBit n.toNat = false := by simpa using hb
      rw [hb']
      symm
      rw [bne_eq_false_iff_eq]
      apply Nat.eq_of_testBit_eq
      intro m
      rw [Nat.testBit_and, Nat.testBit_two_pow]
      by_cases hm : n.toNat = m
      · subst hm; simp [hb']
      · simp [hm]
  · rename_i h
    simp [h]
theorem allN_lt (n : Int) : Is64 (allN n) := by
  unfold allN
  split
  · unfold Is64; omega
  · split
    · unfold Is64; omega
    · have := pow_lt64 (show n.toNat < 64 by omega)
      unfold Is64 at *
      omega
theorem testBit_allN (n : Int) {m : Nat} (hm : m < 64) : (allN n).testBit m = decide ((m : Int) < n) := by
  unfold allN
  split
  · rename_i h
    have e : (18446744073709551615 : Nat) = 2 ^ 64 - 1 := by rw [two64]
    rw [e, Nat.testBit_two_pow_sub_one]
    have h1 : (m : Int) < n := by omega
    simp [hm, h1]
  · split
    · rename_i h
      have h1 : ¬ (m : Int) < n := by omega
      simp [h1]
    · rw [Nat.testBit_two_pow_sub_one]
      by_cases h1 : (m : Int) < n
      · have h2 : m < n.toNat := by omega
        simp [h1, h2]
      · have h2 : ¬ m < n.toNat := by omega
        simp [h1, h2]

/-- Those of a set for which something holds. -/
theorem els_filter {s t : Nat} {p : Nat → Bool} (h : ∀ m, m < 64 → t.testBit m = (s.testBit m && p m)) : els t = (els s).filter p := by
  unfold els
  rw [List.filter_filter]
  refine List.filter_congr fun m hm => ?_
  rw [h m (by simpa using hm), Bool.and_comm]
theorem els_length_le (s : Nat) : (els s).length ≤ 64 := by
  unfold els
  have := List.length_filter_le (fun n => s.testBit n) (List.range 64)
  simpa using this
theorem els_get_lt {s k n : Nat} (h : (els s)[k]? = some n) : n < 64 := (mem_els.1 (List.mem_of_getElem? h)).1
theorem els_zero : els 0 = [] := by unfold els; simp
theorem els_nil {s : Nat} (hs : Is64 s) : els s = [] ↔ s = 0 := by
  constructor
  · intro h
    have := ofs_els hs
    rw [h] at this
    exact this.symm
  · intro h
    rw [h, els_zero]
theorem atI_els (s k : Nat) : -1 ≤ atI (els s) k ∧ atI (els s) k < 64 := by
  by_cases h : k < (els s).length
  · have h1 := els_get_lt (List.getElem?_eq_getElem h)
    rw [atI_lt h]
    omega
  · rw [atI_none (by omega)]
    omega
theorem atI_els_neg (s k : Nat) : atI (els s) k = -1 ↔ (els s).length ≤ k := by
  unfold atI
  cases h : (els s)[k]? with
  | none => exact ⟨fun _ => List.getElem?_eq_none_iff.1 h, fun _ => rfl⟩
  | some n =>
    refine ⟨fun h1 => ?_, fun h1 => ?_⟩
    · have h2 : (n : Int) = -1 := h1
      omega
    · have := List.getElem?_eq_none h1
      rw [h] at this
      cases this

/-- The least of a rising list. -/
theorem least_first {l : List Nat} {c : Nat} (hl : l.Pairwise (· < ·)) (hc : c ∈ l) (h : ∀ n ∈ l, c ≤ n) : l[0]? = some c := by
  cases l with
  | nil => cases hc
  | cons a l =>
    rw [List.pairwise_cons] at hl
    rcases List.mem_cons.1 hc with rfl | hm
    · rfl
    · have h1 := hl.1 c hm
      have h2 := h a (List.mem_cons_self ..)
      omega
theorem els_first {s : Nat} (hs : Is64 s) (h0 : s ≠ 0) : (els s)[0]? = some (Lib.ctz 64 s) := by
  unfold Lib.ctz
  rw [if_neg h0]
  obtain ⟨m, hm, hc⟩ := Lib.ctzFrom_spec 64 s (by omega) (by rw [two64]; exact hs)
  generalize Lib.ctzFrom 64 s = c at *
  have hb : ∀ i, s.testBit i = (decide (c ≤ i) && (2 * m + 1).testBit (i - c)) := by
    intro i
    rw [hm, Nat.mul_comm, Nat.testBit_mul_two_pow]
  refine least_first (els_rising s) (mem_els.2 ⟨hc, ?_⟩) fun n hn => ?_
  · rw [hb]
    simp [Nat.testBit_zero]
  · have h1 := (mem_els.1 hn).2
    rw [hb] at h1
    simp only [Bool.and_eq_true, decide_eq_true_eq] at h1
    exact h1.1
/-- The first one, as the program tells it. -/
theorem first_eq {s : Nat} (hs : Is64 s) (h0 : s ≠ 0) : ((Lib.ctz 64 s : Nat) : Int) = atI (els s) 0 := (atI_some (els_first hs h0)).symm

theorem rising_drop {l : List Nat} {k a : Nat} (hl : l.Pairwise (· < ·)) (h : l[k]? = some a) : l.filter (fun n : Nat => decide ((a : Int) < (n : Int))) = l.drop (k + 1) := by
  induction l generalizing k with
  | nil => simp at h
  | cons b l ih =>
    rw [List.pairwise_cons] at hl
    cases k with
    | zero =>
      simp only [List.getElem?_cons_zero, Option.some.injEq] at h
      subst h
      rw [List.filter_cons_of_neg (by simp), List.drop_succ_cons, List.drop_zero, List.filter_eq_self]
      intro n hn
      have := hl.1 n hn
      simp
      omega
    | succ k =>
      simp only [List.getElem?_cons_succ] at h
      have hb : b < a := hl.1 a (List.mem_of_getElem? h)
      rw [List.filter_cons_of_neg (by simp; omega), List.drop_succ_cons]
      exact ih hl.2 h
/-- All above n. -/
theorem els_above (s : Nat) (n : Int) : els (wout (minus s (allN n)) n) = (els s).filter fun m : Nat => decide (n < (m : Int)) := by
  refine els_filter fun m hm => ?_
  rw [testBit_wout, testBit_minus (allN_lt n) hm, testBit_allN n hm]
  cases s.testBit m
  · simp
  · unfold may
    by_cases h1 : n < (m : Int)
    · have h2 : ¬ (m : Int) < n := by omega
      have h3 : ¬ n.toNat = m ∨ ¬ (0 ≤ n ∧ n < 64) := by omega
      rcases h3 with h3 | h3 <;> simp [h1, h2, h3]
    · by_cases h2 : (m : Int) < n
      · simp [h1, h2]
      · have h3 : n.toNat = m := by omega
        have h4 : 0 ≤ n ∧ n < 64 := by omega
        simp [h1, h2, h3, h4]
def nextI (s : Nat) (n : Int) : Int := atI ((els s).filter fun m : Nat => decide (n < (m : Int))) 0
theorem next_at {s k : Nat} (h : k < (els s).length) : nextI s (atI (els s) k) = atI (els s) (k + 1) := by
  have h1 := List.getElem?_eq_getElem h
  unfold nextI
  rw [atI_some h1, rising_drop (els_rising s) h1, atI_drop]
theorem next_start (s : Nat) {n : Int} (h : n < 0) : nextI s n = atI (els s) 0 := by
  unfold nextI
  congr 1
  rw [List.filter_eq_self]
  intro m _
  simp
  omega
/-- Without the first one. -/
theorem els_less {s : Nat} (hs : Is64 s) (h0 : s ≠ 0) : els (wout s (atI (els s) 0)) = (els s).drop 1 := by
  obtain ⟨a, l, hl⟩ : ∃ a l, els s = a :: l := by
    cases h : els s with
    | nil => exact absurd ((els_nil hs).1 h) h0
    | cons a l => exact ⟨a, l, rfl⟩
  have ha : a < 64 := els_get_lt (s := s) (k := 0) (by rw [hl]; rfl)
  have e : els (wout s (atI (els s) 0)) = (els s).filter fun n => !decide (a = n) := by
    refine els_filter fun m _ => ?_
    rw [testBit_wout, hl]
    have h1 : atI (a :: l) 0 = (a : Int) := rfl
    have h2 : may (a : Int) := by unfold may; omega
    rw [h1]
    simp [h2]
  rw [e, hl]
  have hr := els_rising s
  rw [hl, List.pairwise_cons] at hr
  rw [List.filter_cons_of_neg (by simp), List.drop_succ_cons, List.drop_zero, List.filter_eq_self]
  intro n hn
  have := hr.1 n hn
  simp
  omega

/-- How many of the lowest k bits are set. -/
def pc : Nat → Nat → Nat
  | 0, _ => 0
  | k + 1, s => s % 2 + pc k (s / 2)
theorem pc_range (k : Nat) : ∀ s, ((List.range k).filter fun n => s.testBit n).length = pc k s := by
  induction k with
  | zero => intro s; rfl
  | succ k ih =>
    intro s
    rw [List.range_succ_eq_map, List.filter_cons, pc]
    have e : (List.filter (fun n => s.testBit n) (List.map Nat.succ (List.range k))).length = pc k (s / 2) := by
      rw [List.filter_map, List.length_map, ← ih (s / 2)]
      congr 1
      refine List.filter_congr fun n _ => ?_
      show s.testBit (n + 1) = _
      rw [Nat.testBit_succ]
    split
    · rename_i h
      rw [Nat.testBit_zero, decide_eq_true_eq] at h
      rw [List.length_cons, e]
      omega
    · rename_i h
      rw [Nat.testBit_zero, decide_eq_true_eq] at h
      rw [e]
      omega
theorem pc_els (s : Nat) : (els s).length = pc 64 s := pc_range 64 s
theorem pc_add (a b : Nat) : ∀ s, pc (a + b) s = pc a s + pc b (s / 2 ^ a) := by
  induction a with
  | zero => intro s; simp [pc]
  | succ a ih =>
    intro s
    rw [Nat.succ_add, pc, pc, ih, Nat.div_div_eq_div_mul, Nat.pow_succ, Nat.mul_comm 2]
    omega
theorem pc8_mod (s : Nat) : pc 8 s = pc 8 (s % 256) := by
  simp only [pc]
  omega
theorem pc8_le (b : Nat) : pc 8 b ≤ 8 := by
  simp only [pc]
  omega

/-- A byte at a time. -/
def mk (m : Nat) : Nat → Nat
  | 0 => 0
  | k + 1 => 256 * mk m k + m
def bm (f : Nat → Nat) : Nat → Nat → Nat
  | 0, _ => 0
  | k + 1, s => f (s % 256) + 256 * bm f k (s / 256)
theorem and_join (q r M m : Nat) (hr : r < 256) (hm : m < 256) : (256 * q + r) &&& (256 * M + m) = 256 * (q &&& M) + (r &&& m) := by
  have h1 : ((256 * q + r) &&& (256 * M + m)) / 256 = q &&& M := by
    have h : ((256 * q + r) &&& (256 * M + m)) / 2 ^ 8 = (256 * q + r) / 2 ^ 8 &&& (256 * M + m) / 2 ^ 8 := Nat.and_div_two_pow
    have e1 : (256 * q + r) / 2 ^ 8 = q := by omega
    have e2 : (256 * M + m) / 2 ^ 8 = M := by omega
    rw [e1, e2] at h
    exact h
  have h2 : ((256 * q + r) &&& (256 * M + m)) % 256 = r &&& m := by
    have h : ((256 * q + r) &&& (256 * M + m)) % 2 ^ 8 = (256 * q + r) % 2 ^ 8 &&& (256 * M + m) % 2 ^ 8 := Nat.and_mod_two_pow
    have e1 : (256 * q + r) % 2 ^ 8 = r := by omega
    have e2 : (256 * M + m) % 2 ^ 8 = m := by omega
    rw [e1, e2] at h
    exact h
  omega
theorem out85 : ∀ c, c < 2 → ∀ t, t < 128 → (c * 128 + t) &&& 85 = t &&& 85 := by decide +kernel
theorem out51 : ∀ c, c < 4 → ∀ t, t < 64 → (c * 64 + t) &&& 51 = t &&& 51 := by decide +kernel
theorem out15 : ∀ c, c < 5 → ∀ r, r < 69 → (c * 16 + r / 16 + r) &&& 15 = (r / 16 + r) &&& 15 := by decide +kernel
def f1 (b : Nat) : Nat := (b / 2 &&& 85) + (b &&& 85)
def f2 (b : Nat) : Nat := (b / 4 &&& 51) + (b &&& 51)
def f3 (b : Nat) : Nat := (b / 16 + b) &&& 15
theorem f1_lt : ∀ b, b < 256 → f1 b < 256 := by decide +kernel
theorem f2_lt : ∀ b, b < 256 → f2 b < 256 := by decide +kernel
theorem f2f1 : ∀ b, b < 256 → f2 (f1 b) % 16 < 5 ∧ f2 (f1 b) < 69 := by decide +kernel
theorem f321 : ∀ b, b < 256 → f3 (f2 (f1 b)) = pc 8 b := by decide +kernel
theorem step1 (k : Nat) : ∀ s, (s / 2 &&& mk 85 k) + (s &&& mk 85 k) = bm f1 k s := by
  induction k with
  | zero => intro s; simp [mk, bm]
  | succ k ih =>
    intro s
    have e1 : s / 2 = 256 * (s / 256 / 2) + (s / 256 % 2 * 128 + s % 256 / 2) := by omega
    have e2 : s = 256 * (s / 256) + s % 256 := by omega
    have a1 : s / 2 &&& mk 85 (k + 1) = 256 * (s / 256 / 2 &&& mk 85 k) + (s % 256 / 2 &&& 85) := by
      rw [e1, mk, and_join _ _ _ _ (by omega) (by omega), out85 _ (by omega) _ (by omega)]
    have a2 : s &&& mk 85 (k + 1) = 256 * (s / 256 &&& mk 85 k) + (s % 256 &&& 85) := by
      conv => lhs; rw [e2]
      rw [mk, and_join _ _ _ _ (by omega) (by omega)]
    have := ih (s / 256)
    have hf : f1 (s % 256) = (s % 256 / 2 &&& 85) + (s % 256 &&& 85) := rfl
    rw [a1, a2, bm, hf]
    omega
theorem step2 (k : Nat) : ∀ s, (s / 4 &&& mk 51 k) + (s &&& mk 51 k) = bm f2 k s := by
  induction k with
  | zero => intro s; simp [mk, bm]
  | succ k ih =>
    intro s
    have e1 : s / 4 = 256 * (s / 256 / 4) + (s / 256 % 4 * 64 + s % 256 / 4) := by omega
    have e2 : s = 256 * (s / 256) + s % 256 := by omega
    have a1 : s / 4 &&& mk 51 (k + 1) = 256 * (s / 256 / 4 &&& mk 51 k) + (s % 256 / 4 &&& 51) := by
      rw [e1, mk, and_join _ _ _ _ (by omega) (by omega), out51 _ (by omega) _ (by omega)]
    have a2 : s &&& mk 51 (k + 1) = 256 * (s / 256 &&& mk 51 k) + (s % 256 &&& 51) := by
      conv => lhs; rw [e2]
      rw [mk, and_join _ _ _ _ (by omega) (by omega)]
    have := ih (s / 256)
    have hf : f2 (s % 256) = (s % 256 / 4 &&& 51) + (s % 256 &&& 51) := rfl
    rw [a1, a2, bm, hf]
    omega
theorem bm_bm {f g : Nat → Nat} (hg : ∀ b, b < 256 → g b < 256) (k : Nat) : ∀ s, bm f k (bm g k s) = bm (fun b => f (g b)) k s := by
  induction k with
  | zero => intro s; rfl
  | succ k ih =>
    intro s
    have h := hg (s % 256) (by omega)
    rw [bm, bm, bm]
    have e1 : (g (s % 256) + 256 * bm g k (s / 256)) % 256 = g (s % 256) := by omega
    have e2 : (g (s % 256) + 256 * bm g k (s / 256)) / 256 = bm g k (s / 256) := by omega
    rw [e1, e2, ih]
theorem bm_mod16 {g : Nat → Nat} (hg : ∀ b, b < 256 → g b % 16 < 5 ∧ g b < 69) (k s : Nat) : bm g k s % 16 < 5 := by
  cases k with
  | zero => rw [bm]; omega
  | succ k =>
    have h := hg (s % 256) (by omega)
    rw [bm]
    omega
theorem step3 {g : Nat → Nat} (hg : ∀ b, b < 256 → g b % 16 < 5 ∧ g b < 69) (k : Nat) : ∀ s, (bm g k s / 16 + bm g k s) &&& mk 15 k = bm (fun b => f3 (g b)) k s := by
  induction k with
  | zero => intro s; simp [mk]; rfl
  | succ k ih =>
    intro s
    have h := hg (s % 256) (by omega)
    have h16 := bm_mod16 hg k (s / 256)
    have := ih (s / 256)
    have hf : f3 (g (s % 256)) = (g (s % 256) / 16 + g (s % 256)) &&& 15 := rfl
    rw [bm, bm, hf]
    generalize g (s % 256) = r at *
    generalize bm g k (s / 256) = q at *
    have e : (r + 256 * q) / 16 + (r + 256 * q) = 256 * (q / 16 + q) + (q % 16 * 16 + r / 16 + r) := by omega
    rw [e, mk, and_join _ _ _ _ (by omega) (by omega), out15 _ h16 _ h.2, this]
    omega
theorem bm_congr {f g : Nat → Nat} (h : ∀ b, b < 256 → f b = g b) (k : Nat) : ∀ s, bm f k s = bm g k s := by
  induction k with
  | zero => intro s; rfl
  | succ k ih => intro s; rw [bm, bm, h _ (by omega), ih]
/-- The first three steps come to how many of each byte are set. -/
theorem steps (s : Nat) :
    bm f3 8 (bm f2 8 (bm f1 8 s)) = bm (pc 8) 8 s := by
  rw [bm_bm f1_lt, bm_bm (fun b hb => by have := (f2f1 b hb).2; omega)]
  exact bm_congr (fun b hb => f321 b hb) 8 s
theorem sum8 (s : Nat) : ∃ a b c d e f g h : Nat, (a ≤ 8 ∧ b ≤ 8 ∧ c ≤ 8 ∧ d ≤ 8 ∧ e ≤ 8 ∧ f ≤ 8 ∧ g ≤ 8 ∧ h ≤ 8) ∧
    bm (pc 8) 8 s = a + 256 * (b + 256 * (c + 256 * (d + 256 * (e + 256 * (f + 256 * (g + 256 * h)))))) ∧ pc 64 s = a + b + c + d + e + f + g + h := by
  refine ⟨pc 8 (s % 256), pc 8 (s / 256 % 256), pc 8 (s / 256 / 256 % 256), pc 8 (s / 256 / 256 / 256 % 256), pc 8 (s / 256 / 256 / 256 / 256 % 256), pc 8 (s / 256 / 256 / 256 / 256 / 256 % 256),
    pc 8 (s / 256 / 256 / 256 / 256 / 256 / 256 % 256), pc 8 (s / 256 / 256 / 256 / 256 / 256 / 256 / 256 % 256), ⟨pc8_le _, pc8_le _, pc8_le _, pc8_le _, pc8_le _, pc8_le _, pc8_le _, pc8_le _⟩, ?_, ?_⟩
  · simp only [bm, Nat.mul_zero, Nat.add_zero]
  · have e : (64 : Nat) = 8 + (8 + (8 + (8 + (8 + (8 + (8 + 8)))))) := rfl
    rw [e]
    simp only [pc_add]
    have p : (2 : Nat) ^ 8 = 256 := rfl
    rw [p]
    simp only [← pc8_mod]
    omega

end Go.Proofs.YtnhoeboighndlaaGreatDoor.bits

/-
  The program's calls on a set that only compute: the bit of a number, what is below one, whether one is in it, with one and without one. No condition.
-/
namespace Go.Proofs.YtnhoeboighndlaaGreatDoor.bits
open Go.RowKit Go.ChangeShapes

theorem shl_one {n : Int} (h : may n) : IntKind.u64.wrap (2 ^ n.toNat) = ((bitN n : Nat) : Int) := by
  unfold may at h
  have hb : bitN n = 2 ^ n.toNat := by unfold bitN; rw [if_pos (by unfold may; omega)]
  have hl := pow_lt64 (show n.toNat < 64 by omega)
  rw [hb, IntKind.wrap_u64]
  unfold Is64 at hl
  have e : ((2 : Int) ^ n.toNat) = ((2 ^ n.toNat : Nat) : Int) := by rw [Int.natCast_pow]; rfl
  rw [e]
  omega

theorem ret_int {k : IntKind} {a b : Int} (h : a = b) : Ending.returned (.int k a) = .returned (.int k b) := by rw [h]
set_option maxHeartbeats 400000 in
theorem bit_any (n : Int) (w : World) :
    Calls Tryz.prog 128 #[.int .i64 n] w fun e w' => e = .returned (.int .u64 ((bitN n : Nat) : Int)) ∧ w = w' := by
  by_cases h0 : n < 0
  · have hb : bitN n = 0 := by unfold bitN; rw [if_neg (by unfold may; omega)]
    rw [hb]
    clear hb
    go_enter Tryz.func128, Tryz.ntmps128
    go_wp2
    go_ret
    exact ⟨rfl, rfl⟩
  · by_cases h1 : 63 < n
    · have hb : bitN n = 0 := by unfold bitN; rw [if_neg (by unfold may; omega)]
      rw [hb]
      clear hb
      go_enter Tryz.func128, Tryz.ntmps128
      go_wp2
      go_ret
      exact ⟨rfl, rfl⟩
    · have hm : may n := by unfold may; omega
      have hp : 0 ≤ n := by omega
      have HB := Lib.hid (shl_one hm)
      go_enter Tryz.func128, Tryz.ntmps128
      go_wp2
      go_ret
      exact ⟨ret_int HB.out, rfl⟩

theorem and_u64 {a b : Nat} (ha : Is64 a) (hb : Is64 b) : bits .and .u64 (a : Int) (b : Int) = ((a &&& b : Nat) : Int) := bits_and_u64_nat a b ha hb
theorem or_u64 {a b : Nat} (ha : Is64 a) (hb : Is64 b) : bits .or .u64 (a : Int) (b : Int) = ((a ||| b : Nat) : Int) := bits_or_u64_nat a b ha hb
theorem andNot_u64 {a b : Nat} (ha : Is64 a) (hb : Is64 b) : bits .andNot .u64 (a : Int) (b : Int) = ((minus a b : Nat) : Int) := by
  have hx : a &&& (18446744073709551615 - b) < 2 ^ 64 := Nat.and_lt_two_pow _ (by unfold Is64 at *; omega)
  have h1 : (BitVec.ofInt 64 (a : Int)).toNat = a := by
    rw [BitVec.ofInt_natCast, BitVec.toNat_ofNat]; exact Nat.mod_eq_of_lt (by unfold Is64 at *; omega)
  have h2 : (BitVec.ofInt 64 (b : Int)).toNat = b := by
    rw [BitVec.ofInt_natCast, BitVec.toNat_ofNat]; exact Nat.mod_eq_of_lt (by unfold Is64 at *; omega)
  show IntKind.u64.wrap ((BitVec.ofInt 64 (a : Int) &&& ~~~BitVec.ofInt 64 (b : Int)).toNat : Int) = _
  rw [BitVec.toNat_and, BitVec.toNat_not, h1, h2, IntKind.wrap_u64]
  have e : 2 ^ 64 - 1 - b = 18446744073709551615 - b := by omega
  rw [e]
  unfold minus
  omega

theorem ret_bool {a b : Bool} (h : a = b) : Ending.returned (.bool a) = .returned (.bool b) := by rw [h]
theorem bne_cast (x : Nat) : ((x : Int) != 0) = (x != 0) := by
  rw [Bool.eq_iff_iff]
  simp
set_option maxHeartbeats 400000 in
theorem has_any (s : Nat) (hs : Is64 s) (n : Int) (w : World) :
    Calls Tryz.prog 116 #[.int .u64 (s : Int), .int .i64 n] w fun e w' => e = .returned (.bool (hasB s n)) ∧ w = w' := by
  have HB := Lib.hid (and_u64 hs (bitN_lt n))
  have HH := Lib.hid (hasB_and s n)
  go_enter Tryz.func116, Tryz.ntmps116
  go_wp2_with fail
  refine (bit_any _ _).mono ?_
  rintro e w1 ⟨rfl, rfl⟩
  go_wp2
  go_ret
  exact ⟨ret_bool (by rw [HB.out, HH.out, bne_cast]), rfl⟩

set_option maxHeartbeats 400000 in
theorem with_any (s : Nat) (hs : Is64 s) (n : Int) (w : World) :
    Calls Tryz.prog 117 #[.int .u64 (s : Int), .int .i64 n] w fun e w' => e = .returned (.int .u64 ((wth s n : Nat) : Int)) ∧ w = w' := by
  have HB := Lib.hid (or_u64 hs (bitN_lt n))
  have HH := Lib.hid (wth_or s n)
  go_enter Tryz.func117, Tryz.ntmps117
  go_wp2_with fail
  refine (bit_any _ _).mono ?_
  rintro e w1 ⟨rfl, rfl⟩
  go_wp2
  go_ret
  exact ⟨ret_int (by rw [HB.out, HH.out]), rfl⟩

theorem all_some {n : Int} (h0 : ¬ n < 0) (h1 : ¬ 63 < n) : IntKind.u64.wrap ((bitN n : Nat) - 1) = ((allN n : Nat) : Int) := by
  have hb : bitN n = 2 ^ n.toNat := by unfold bitN; rw [if_pos (by unfold may; omega)]
  have hl := bitN_lt n
  have hp : 0 < 2 ^ n.toNat := Nat.two_pow_pos _
  unfold allN
  rw [if_neg h1, if_neg h0, hb, IntKind.wrap_u64]
  unfold Is64 at hl
  rw [hb] at hl
  omega

end Go.Proofs.YtnhoeboighndlaaGreatDoor.bits

/-
  The program's own answer whether the needs of a way may not be together (typed over the code of 5ef5b61): of needs each of which may be, so that a set has all their objects.
-/
namespace Go.Proofs.YtnhoeboighndlaaGreatDoor.need
open Go.RowKit Go.ChangeShapes
open Go.Proofs.YtnhoeboighndlaaGreatDoor.objs (De zero CellsAt DAt)
open Go.Proofs.YtnhoeboighndlaaGreatDoor.bits (wth hasB may Is64 wth_lt has_any with_any testBit_ins)
set_option linter.unusedVariables false

theorem hasB_wth {s : Nat} {n x : Int} (hn : may n) (hx : may x) : hasB (wth s n) x = (hasB s x || decide (n = x)) := by
  unfold hasB wth
  rw [if_pos hn, testBit_ins, decide_eq_true hx, Bool.true_and, Bool.true_and]
  congr 1
  unfold may at hn hx
  have : (n.toNat = x.toNat) ↔ (n = x) := by omega
  simp [this]
theorem clashTo_no {l : List De} {k : Nat} : ∀ m, (∀ j, j < m → clash (l.getD j zero) (l.getD k zero) = false) → clashTo l k m = false := by
  intro m
  induction m with
  | zero => intro _; rfl
  | succ m ih =>
    intro h
    unfold clashTo
    rw [ih (fun j hj => h j (by omega)), h m (by omega)]
    rfl
theorem twiceTo_no {l : List De} : ∀ m, (∀ k, k < m → ∀ j, j < k → clash (l.getD j zero) (l.getD k zero) = false) → twiceTo l m = false := by
  intro m
  induction m with
  | zero => intro _; rfl
  | succ m ih =>
    intro h
    unfold twiceTo
    rw [ih (fun k hk => h k (by omega)), clashTo_no m (h m (by omega))]
    rfl
/-- A need that clashes with one ahead of it, or that must stand alone and does not. -/
theorem clash_met {l : List De} {i j : Nat} (hj : j < i) (hi : i < l.length) (h : (l.getD j zero).2.1 = (l.getD i zero).2.1) : twiceTo l l.length = true :=
  twiceTo_yes (clashTo_yes hj (by unfold clash; rw [h]; simp) i hj) l.length hi
theorem clash_down {l : List De} {i : Nat} (hi : i < l.length) (h2 : 1 < l.length) (h : (l.getD i zero).1 = 4) : twiceTo l l.length = true := by
  rcases Nat.eq_zero_or_pos i with h0 | h0
  · subst h0
    exact twiceTo_yes (clashTo_yes (l := l) (k := 1) (j := 0) (by omega) (by unfold clash; rw [h]; simp) 1 (by omega)) l.length h2
  · exact twiceTo_yes (clashTo_yes (l := l) (k := i) (j := 0) h0 (by unfold clash; rw [h]; simp) i h0) l.length hi

theorem of_none (w : World) : Calls Tryz.prog 115 #[.slice none 0 0] w fun e w' => e = .returned (.int .u64 0) ∧ w = w' := by
  go_enter Tryz.func115, Tryz.ntmps115
  go_wp2_with fail
  go_loop [3, 8] (fun t i => t = .int .u64 0 ∧ i = .int .i64 0) (fun _ _ => 0)
  case atStart => exact ⟨rfl, rfl⟩
  case round =>
    obtain ⟨rfl, rfl⟩ := hrel
    go_wp2
    go_ret
    exact ⟨rfl, rfl⟩

/-- A need in a block of its own. -/
theorem nbox_at (W : World) (k o m : Int) : (W.alloc (needBox k o m)).cell? ⟨W.heap.size, 0, none⟩ = some (.int .i64 k) ∧ (W.alloc (needBox k o m)).cell? ⟨W.heap.size, 1, none⟩ = some (.int .i64 o) ∧ (W.alloc (needBox k o m)).cell? ⟨W.heap.size, 2, none⟩ = some (.int .i64 m) := by
  unfold World.cell?
  rw [heap_alloc_new W _]
  exact ⟨rfl, rfl, rfl⟩
/-- Which objects the first needs ask. -/
structure Met (l : List De) (j : Nat) (s : Nat) : Prop where
  small : Is64 s
  has : ∀ x : Int, may x → (hasB s x = true ↔ ∃ i, i < j ∧ (l.getD i zero).2.1 = x)
  apart : ∀ i, i < j → ∀ k, k < i → (l.getD k zero).2.1 ≠ (l.getD i zero).2.1
  alone : 1 < l.length → ∀ i, i < j → (l.getD i zero).1 ≠ 4
theorem Met.next {l : List De} {j s : Nat} (h : Met l j s) (hm : may (l.getD j zero).2.1) (h1 : hasB s (l.getD j zero).2.1 = false) (h2 : 1 < l.length → (l.getD j zero).1 ≠ 4) : Met l (j + 1) (wth s (l.getD j zero).2.1) := by
  refine ⟨wth_lt h.small _, fun x hx => ?_, fun i hi k hk => ?_, fun hl i hi => ?_⟩
  · rw [hasB_wth hm hx, Bool.or_eq_true, h.has x hx, decide_eq_true_iff]
    constructor
    · rintro (⟨i, hi, e⟩ | e)
      · exact ⟨i, by omega, e⟩
      · exact ⟨j, by omega, e⟩
    · rintro ⟨i, hi, e⟩
      rcases Nat.lt_or_ge i j with h3 | h3
      · exact .inl ⟨i, h3, e⟩
      · obtain rfl : i = j := by omega
        exact .inr e
  · rcases Nat.lt_or_ge i j with h3 | h3
    · exact h.apart i h3 k hk
    · obtain rfl : i = j := by omega
      intro e
      have := (h.has _ hm).2 ⟨k, hk, e⟩
      rw [h1] at this
      cases this
  · rcases Nat.lt_or_ge i j with h3 | h3
    · exact h.alone hl i h3
    · obtain rfl : i = j := by omega
      exact h2 hl
theorem Met.fine {l : List De} {s : Nat} (h : Met l l.length s) : twiceTo l l.length = false := by
  refine twiceTo_no _ fun k hk j hj => ?_
  have h1 := h.apart k hk j hj
  have h2 := h.alone (by omega) k hk
  have h3 := h.alone (by omega) j (by omega)
  unfold clash
  rw [beq_eq_false_iff_ne.2 h1, beq_eq_false_iff_ne.2 h2, beq_eq_false_iff_ne.2 h3]
  rfl
theorem met_zero (l : List De) : Met l 0 0 := by
  refine ⟨by unfold Is64; omega, fun x hx => ?_, fun i hi => by omega, fun _ i hi => by omega⟩
  unfold hasB
  simp

set_option maxRecDepth 100000 in
set_option maxHeartbeats 4000000 in
theorem clashes_any (B : Option Addr) (cap : Nat) (l : List De) (hl : l.length ≤ 4) (ho : ∀ n ∈ l, may n.2.1) (w : World) (hB : DAt w B l) :
    Calls Tryz.prog 103 #[.slice B l.length cap] w fun e w' => e = .returned (.bool (twiceTo l l.length)) ∧ Below w.heap.size w w' := by
  have HOf := Lib.hid (of_none w)
  have HB := Lib.hid hB
  have HO := Lib.hid ho
  have H0 := Lib.hid (met_zero l)
  obtain ⟨r, hr⟩ : ∃ r, r = twiceTo l l.length := ⟨_, rfl⟩
  have HR := Lib.hid hr
  rw [← hr]
  have HL4 := Lib.hid hl
  clear hB ho hr hl
  go_enter Tryz.func103, Tryz.ntmps103
  go_wp2_with fail
  refine HOf.out.mono ?_
  rintro e w1 ⟨rfl, rfl⟩
  go_wp2_with fail
  go_loopw [3, 9] (fun t i wr => ∃ (j s : Nat), j ≤ l.length ∧ i = .int .i64 (j : Int) ∧ t = .int .u64 (s : Int) ∧ Hid (Met l j s) ∧ Hid (Below w.heap.size w wr)) (fun _ i _ => l.length - (intOf i).toNat)
  case atStart => exact ⟨0, 0, Nat.zero_le _, rfl, rfl, H0, Lib.hid (Below.refl _ _)⟩
  case round =>
    obtain ⟨j, s, hj, rfl, rfl, HM, HW⟩ := hrel
    by_cases hlt : j < l.length
    · obtain ⟨b0, off, rfl, hbl, c0, c1, c2⟩ := HB.out.next HW.out j hlt
      have hlt' : (j : Int) < (l.length : Int) := by omega
      have hj0 : (0 : Int) ≤ (j : Int) := by omega
      have HY := Lib.hid (HO.out _ (getD_mem hlt))
      have HN := fun h1 h2 => Lib.hid (HM.out.next HY.out h1 h2)
      have HD := fun h1 h2 => Lib.hid (clash_down (l := l) hlt h1 h2)
      have HC : ∀ i, i < j → (l.getD i zero).2.1 = (l.getD j zero).2.1 → Hid (twiceTo l l.length = true) := fun i h1 h2 => Lib.hid (clash_met (l := l) h1 hlt h2)
      have HE := Lib.hid (HM.out.has _ HY.out)
      have HS := Lib.hid HM.out.small
      clear HM
      generalize l.getD j zero = n at *
      obtain ⟨k, o, m⟩ := n
      dsimp only at c0 c1 c2 HY HN HD HC HE
      have HW1 := Lib.hid (HW.out.trans ((nbox_below wr k o m).mono HW.out.size))
      have hbx := nbox_at wr k o m
      unfold needBox at HW1 hbx
      clear HW
      have HH := fun W => Lib.hid (has_any s HS.out o W)
      have HWi := fun W => Lib.hid (with_any s HS.out o W)
      go_upto_region 5 with fail
      clear c0 c1 c2
      generalize wr.alloc (.cells #[.int .i64 k, .int .i64 o, .int .i64 m] 79) = W1 at *
      generalize wr.heap.size = g at *
      obtain ⟨c0, c1, c2⟩ := hbx
      cases hh : hasB s o with
      | true =>
        obtain ⟨i, hi, e⟩ := HE.out.1 hh
        have HX := HC i hi e
        clear hi e HN HD HC HE HY
        rw [hh] at HH
        go_wp2_with fail
        refine (HH _).out.mono ?_
        rintro e w2 ⟨rfl, rfl⟩
        go_wp2
        go_ret
        exact ⟨ret_bool (by rw [HR.out, HX.out]), HW1.out⟩
      | false =>
        rw [hh] at HH
        have HN1 := HN hh
        clear HC HE HY HN hh
        by_cases h4 : k = 4
        · subst h4
          by_cases h2 : 1 < l.length
          · have HX := HD h2 rfl
            have d2 : decide ((1 : Int) < (l.length : Int)) = true := by simp; omega
            clear HD HN1 h2
            go_wp2_with fail
            refine (HH _).out.mono ?_
            rintro e w2 ⟨rfl, rfl⟩
            go_wp2
            go_ret
            exact ⟨ret_bool (by rw [HR.out, HX.out]), HW1.out⟩
          · have HN2 := HN1 (fun h => absurd h h2)
            have d2 : decide ((1 : Int) < (l.length : Int)) = false := by simp; omega
            clear HD HN1 h2
            go_wp2_with fail
            refine (HH _).out.mono ?_
            rintro e w2 ⟨rfl, rfl⟩
            go_wp2_with fail
            refine (HWi _).out.mono ?_
            rintro e w2 ⟨rfl, rfl⟩
            have hl4 := HL4.out
            go_wp2
            go_roundw
            case rel => exact ⟨j + 1, _, by omega, by go_num, rfl, HN2, HW1⟩
            case measure => simp [intOf]; omega
        · have HN2 := HN1 (fun _ => h4)
          have d4 : (k == 4) = false := by simpa using h4
          clear HD HN1 h4
          go_wp2_with fail
          refine (HH _).out.mono ?_
          rintro e w2 ⟨rfl, rfl⟩
          go_wp2_with fail
          refine (HWi _).out.mono ?_
          rintro e w2 ⟨rfl, rfl⟩
          have hl4 := HL4.out
          go_wp2
          go_roundw
          case rel => exact ⟨j + 1, _, by omega, by go_num, rfl, HN2, HW1⟩
          case measure => simp [intOf]; omega
    · obtain rfl : j = l.length := by omega
      have HX := Lib.hid HM.out.fine
      go_wp2
      go_ret
      exact ⟨ret_bool (by rw [HR.out, HX.out]), HW.out⟩
end Go.Proofs.YtnhoeboighndlaaGreatDoor.need
