/-
  Units that are taken and given back, as the document has them: plain mathematics. No condition.
-/
namespace Go.Proofs.Ytlkcpplpjjbiaaa.pol

def sumH : List Int → Int
  | [] => 0
  | x :: r => x + sumH r
theorem sumH_append : ∀ a b : List Int, sumH (a ++ b) = sumH a + sumH b
  | [], b => by simp [sumH]
  | x :: r, b => by simp only [List.cons_append, sumH, sumH_append r b]; omega
theorem sumH_set : ∀ (l : List Int) (t : Nat) (v : Int), t < l.length → sumH (l.set t v) = sumH l - l.getD t 0 + v
  | [], t, v, h => absurd h (Nat.not_lt_zero t)
  | x :: r, 0, v, _ => by simp only [List.set_cons_zero, sumH, List.getD_cons_zero]; omega
  | x :: r, t + 1, v, h => by
    have := sumH_set r t v (by simpa using h)
    simp only [List.set_cons_succ, sumH, List.getD_cons_succ]
    omega
theorem sumH_nonneg : ∀ (l : List Int), (∀ j, 0 ≤ l.getD j 0) → 0 ≤ sumH l
  | [], _ => Int.le_refl 0
  | x :: r, h => by
    have h0 := h 0
    have h1 := sumH_nonneg r (fun j => by simpa using h (j + 1))
    simp only [List.getD_cons_zero] at h0
    simp only [sumH]
    omega
theorem sumH_ge : ∀ (l : List Int), (∀ j, 0 ≤ l.getD j 0) → ∀ t, l.getD t 0 ≤ sumH l
  | [], _, t => by simp [sumH]
  | x :: r, h, 0 => by
    have h1 := sumH_nonneg r (fun j => by simpa using h (j + 1))
    simp only [List.getD_cons_zero, sumH]
    omega
  | x :: r, h, t + 1 => by
    have h0 := h 0
    have h1 := sumH_ge r (fun j => by simpa using h (j + 1)) t
    simp only [List.getD_cons_zero] at h0
    simp only [List.getD_cons_succ, sumH]
    omega

/-- How many there are, and how many each of the 64 threads has. -/
structure Px where
  total : Int
  h : List Int
/-- How many a thread has. -/
def hv (h : List Int) (t : Int) : Int := if 0 ≤ t ∧ t < 64 then h.getD t.toNat 0 else 0
def freeP (p : Px) : Int := p.total - sumH p.h
def zeros : List Int := List.replicate 64 0
def newP (total : Int) : Px := ⟨min (max total 0) 1000, zeros⟩
def setP (p : Px) (t n : Int) : Px := if 0 ≤ t ∧ t < 64 then ⟨p.total, p.h.set t.toNat n⟩ else p
/-- Units behind a call, and what is answered. -/
def doP (p : Px) (k t n : Int) : Px × Int :=
  if k = 0 then if t < 0 ∨ 63 < t ∨ n < 1 ∨ freeP p < n then (p, 0) else (setP p t (hv p.h t + n), 1)
  else if k = 1 then if t < 0 ∨ 63 < t ∨ n < 1 then (p, 1) else if hv p.h t < n then (p, 9) else (setP p t (hv p.h t - n), 0)
  else (setP p t 0, hv p.h t)
structure Fine (p : Px) : Prop where
  t0 : 0 ≤ p.total
  t1 : p.total ≤ 1000
  len : p.h.length = 64
  pos : ∀ j, 0 ≤ p.h.getD j 0
  sum : sumH p.h ≤ p.total
theorem zeros_get (j : Nat) : zeros.getD j 0 = 0 := by
  unfold zeros
  rw [List.getD_eq_getElem?_getD, List.getElem?_replicate]
  split <;> rfl
theorem zeros_sum : sumH zeros = 0 := by decide
theorem new_fine (total : Int) : Fine (newP total) := by
  unfold newP
  refine ⟨?_, ?_, rfl, fun j => ?_, ?_⟩ <;> dsimp only
  · omega
  · omega
  · rw [zeros_get]; omega
  · rw [zeros_sum]; omega
theorem hv_nonneg {p : Px} (h : Fine p) (t : Int) : 0 ≤ hv p.h t := by
  unfold hv
  split
  · exact h.pos _
  · exact Int.le_refl 0
theorem hv_le {p : Px} (h : Fine p) (t : Int) : hv p.h t ≤ sumH p.h := by
  unfold hv
  split
  · exact sumH_ge _ h.pos _
  · exact sumH_nonneg _ h.pos
theorem sum_nonneg {p : Px} (h : Fine p) : 0 ≤ sumH p.h := sumH_nonneg _ h.pos
theorem hv_in {p : List Int} {t : Int} (h0 : 0 ≤ t) (h1 : t < 64) : hv p t = p.getD t.toNat 0 := if_pos ⟨h0, h1⟩
theorem hv_out {p : List Int} {t : Int} (h : t < 0 ∨ 64 ≤ t) : hv p t = 0 := if_neg (by omega)
theorem set_in {p : Px} {t n : Int} (h0 : 0 ≤ t) (h1 : t < 64) : setP p t n = ⟨p.total, p.h.set t.toNat n⟩ := if_pos ⟨h0, h1⟩
theorem set_out {p : Px} {t n : Int} (h : t < 0 ∨ 64 ≤ t) : setP p t n = p := if_neg (by omega)
theorem set_fine {p : Px} (h : Fine p) (t n : Int) (hn : 0 ≤ n) (hs : sumH p.h - hv p.h t + n ≤ p.total) : Fine (setP p t n) := by
  by_cases hi : 0 ≤ t ∧ t < 64
  · have hl := h.len
    rw [set_in hi.1 hi.2]
    rw [hv_in hi.1 hi.2] at hs
    refine ⟨h.t0, h.t1, by simpa using hl, fun j => ?_, ?_⟩
    · dsimp only
      rw [List.getD_eq_getElem?_getD, List.getElem?_set]
      have hp := h.pos j
      rw [List.getD_eq_getElem?_getD] at hp
      split
      · split
        · exact hn
        · exact Int.le_refl 0
      · exact hp
    · dsimp only
      rw [sumH_set _ _ _ (by omega)]
      exact hs
  · rw [set_out (by omega)]
    exact h
theorem do_fine {p : Px} (h : Fine p) (k t n : Int) : Fine (doP p k t n).1 := by
  have h1 := hv_nonneg h t
  have h2 := hv_le h t
  have h3 := h.sum
  have h4 := h.t0
  unfold doP
  unfold freeP
  repeat' split
  · exact h
  · exact set_fine h _ _ (by omega) (by omega)
  · exact h
  · exact h
  · exact set_fine h _ _ (by omega) (by omega)
  · exact set_fine h _ _ (by omega) (by omega)
theorem do_total (p : Px) (k t n : Int) : (doP p k t n).1.total = p.total := by
  unfold doP setP
  repeat' split
  all_goals rfl

/-- Of each of the first k threads that has some how many. -/
def sharesTo (h : List Int) : Nat → List (Int × Int)
  | 0 => []
  | k + 1 => sharesTo h k ++ (if 0 < h.getD k 0 then [((k : Int), h.getD k 0)] else [])
def shares (h : List Int) : List (Int × Int) := sharesTo h 64
theorem shares_yes {h : List Int} {k : Nat} (hk : 0 < h.getD k 0) : sharesTo h (k + 1) = sharesTo h k ++ [((k : Int), h.getD k 0)] := by
  show sharesTo h k ++ _ = _
  rw [if_pos hk]
theorem shares_no {h : List Int} {k : Nat} (hk : ¬ 0 < h.getD k 0) : sharesTo h (k + 1) = sharesTo h k := by
  show sharesTo h k ++ _ = _
  rw [if_neg hk, List.append_nil]
theorem shares_len (h : List Int) : ∀ k, (sharesTo h k).length ≤ k
  | 0 => Nat.le_refl 0
  | k + 1 => by
    have := shares_len h k
    by_cases hk : 0 < h.getD k 0
    · rw [shares_yes hk, List.length_append, List.length_singleton]; omega
    · rw [shares_no hk]; omega
theorem shares_mem (h : List Int) : ∀ k, ∀ e ∈ sharesTo h k, ∃ t : Nat, t < k ∧ e = ((t : Int), h.getD t 0) ∧ 0 < h.getD t 0
  | 0, e, he => by simp [sharesTo] at he
  | k + 1, e, he => by
    by_cases hk : 0 < h.getD k 0
    · rw [shares_yes hk, List.mem_append, List.mem_singleton] at he
      rcases he with he | rfl
      · obtain ⟨t, h1, h2⟩ := shares_mem h k e he
        exact ⟨t, by omega, h2⟩
      · exact ⟨k, by omega, rfl, hk⟩
    · rw [shares_no hk] at he
      obtain ⟨t, h1, h2⟩ := shares_mem h k e he
      exact ⟨t, by omega, h2⟩
theorem shares_sum (h : List Int) (hp : ∀ j, 0 ≤ h.getD j 0) : ∀ k, k ≤ h.length → sumH ((sharesTo h k).map Prod.snd) = sumH (h.take k)
  | 0, _ => by simp [sharesTo, sumH]
  | k + 1, hk => by
    have ih := shares_sum h hp k (by omega)
    have e : h.take (k + 1) = h.take k ++ [h.getD k 0] := by
      rw [List.take_succ_eq_append_getElem (by omega), List.getD_eq_getElem?_getD, List.getElem?_eq_getElem (by omega)]
      rfl
    rw [e, sumH_append]
    by_cases h1 : 0 < h.getD k 0
    · rw [shares_yes h1, List.map_append, sumH_append, ih]
      rfl
    · have := hp k
      rw [shares_no h1, ih]
      simp only [sumH]
      omega
theorem shares_all {p : Px} (h : Fine p) : sumH ((shares p.h).map Prod.snd) = sumH p.h := by
  unfold shares
  rw [shares_sum _ h.pos 64 (by rw [h.len]; exact Nat.le_refl _), List.take_of_length_le (by rw [h.len]; exact Nat.le_refl _)]
theorem getD_front (a b : List (Int × Int)) (j : Nat) (h : j < a.length) : (a ++ b).getD j (0, 0) = a.getD j (0, 0) := by
  rw [List.getD_eq_getElem?_getD, List.getElem?_append_left h, ← List.getD_eq_getElem?_getD]
theorem getD_back (a b : List (Int × Int)) : (a ++ b).getD a.length (0, 0) = b.getD 0 (0, 0) := by
  rw [List.getD_eq_getElem?_getD, List.getElem?_append_right (Nat.le_refl _), Nat.sub_self, ← List.getD_eq_getElem?_getD]
/-- What is free of the first ones alone. -/
theorem shares_part {p : Px} (h : Fine p) (k : Nat) : 0 ≤ sumH (((shares p.h).take k).map Prod.snd) ∧ sumH (((shares p.h).take k).map Prod.snd) ≤ sumH p.h := by
  have e : sumH (((shares p.h).take k).map Prod.snd) + sumH (((shares p.h).drop k).map Prod.snd) = sumH p.h := by
    rw [← shares_all h, ← sumH_append, ← List.map_append, List.take_append_drop]
  have hp : ∀ l : List (Int × Int), (∀ e ∈ l, 0 ≤ e.2) → 0 ≤ sumH (l.map Prod.snd) := by
    intro l
    induction l with
    | nil => intro _; exact Int.le_refl 0
    | cons x r ih =>
      intro hx
      have h0 := hx x (List.mem_cons_self ..)
      have h1 := ih (fun e he => hx e (List.mem_cons_of_mem _ he))
      simp only [List.map_cons, sumH]
      omega
  have ha : ∀ e ∈ shares p.h, 0 ≤ e.2 := fun e he => by
    obtain ⟨t, _, rfl, h2⟩ := shares_mem p.h 64 e he
    dsimp only
    omega
  have h1 := hp ((shares p.h).take k) (fun e he => ha e (List.mem_of_mem_take he))
  have h2 := hp ((shares p.h).drop k) (fun e he => ha e (List.mem_of_mem_drop he))
  omega
/-- They rise. -/
theorem shares_rise (h : List Int) : ∀ k j, j + 1 < (sharesTo h k).length → ((sharesTo h k).getD j (0, 0)).1 < ((sharesTo h k).getD (j + 1) (0, 0)).1
  | 0, j, hj => by simp [sharesTo] at hj
  | k + 1, j, hj => by
    by_cases hk : 0 < h.getD k 0
    · rw [shares_yes hk] at hj ⊢
      rw [List.length_append, List.length_singleton] at hj
      by_cases h1 : j + 1 < (sharesTo h k).length
      · have := shares_rise h k j h1
        rwa [getD_front _ _ _ h1, getD_front _ _ _ (by omega)]
      · have h2 : j < (sharesTo h k).length := by omega
        have h3 : j + 1 = (sharesTo h k).length := by omega
        rw [getD_front _ _ _ h2, h3, getD_back]
        obtain ⟨t, ht, he, _⟩ := shares_mem h k _ (List.getElem_mem h2)
        rw [List.getD_eq_getElem?_getD, List.getElem?_eq_getElem h2, Option.getD_some, he]
        simp only [List.getD_cons_zero]
        omega
    · rw [shares_no hk] at hj ⊢
      exact shares_rise h k j hj
/-- The first share of a thread in any list. -/
def heldL : List (Int × Int) → Int → Int
  | [], _ => 0
  | e :: r, t => if e.1 = t then e.2 else heldL r t
theorem heldL_append (a b : List (Int × Int)) (t : Int) (h : ∀ e ∈ a, e.1 ≠ t) : heldL (a ++ b) t = heldL b t := by
  induction a with
  | nil => rfl
  | cons e r ih =>
    rw [List.cons_append, heldL, if_neg (h e (List.mem_cons_self ..)), ih (fun x hx => h x (List.mem_cons_of_mem _ hx))]
theorem heldL_front (a b : List (Int × Int)) (t : Int) (h : ∃ e ∈ a, e.1 = t) : heldL (a ++ b) t = heldL a t := by
  induction a with
  | nil => obtain ⟨e, he, _⟩ := h; cases he
  | cons e r ih =>
    rw [List.cons_append, heldL, heldL]
    by_cases h1 : e.1 = t
    · rw [if_pos h1, if_pos h1]
    · rw [if_neg h1, if_neg h1]
      refine ih ?_
      obtain ⟨x, hx, hxt⟩ := h
      rcases List.mem_cons.1 hx with rfl | hx
      · exact absurd hxt h1
      · exact ⟨x, hx, hxt⟩
theorem heldL_to (h : List Int) (hp : ∀ j, 0 ≤ h.getD j 0) (t : Int) : ∀ k : Nat, heldL (sharesTo h k) t = if 0 ≤ t ∧ t < (k : Int) then h.getD t.toNat 0 else 0
  | 0 => by rw [if_neg (by omega)]; rfl
  | k + 1 => by
    have ih := heldL_to h hp t k
    by_cases h1 : 0 < h.getD k 0
    · rw [shares_yes h1]
      by_cases h2 : t = (k : Int)
      · subst h2
        rw [heldL_append _ _ _ (fun e he => by
          obtain ⟨t, ht, rfl, _⟩ := shares_mem h k e he
          dsimp only
          omega), if_pos (by omega)]
        simp [heldL]
      · by_cases h3 : ∃ e ∈ sharesTo h k, e.1 = t
        · rw [heldL_front _ _ _ h3, ih]
          obtain ⟨e, he, rfl⟩ := h3
          obtain ⟨s, hs, rfl, _⟩ := shares_mem h k e he
          dsimp only
          rw [if_pos (by omega), if_pos (by omega)]
        · rw [heldL_append _ _ _ (fun e he => fun hc => h3 ⟨e, he, hc⟩)]
          have e0 : heldL (sharesTo h k) t = 0 := by
            have := heldL_append (sharesTo h k) [] t (fun e he => fun hc => h3 ⟨e, he, hc⟩)
            rw [List.append_nil] at this
            rw [this]
            rfl
          rw [e0] at ih
          rw [heldL, if_neg (fun e => h2 e.symm), heldL]
          by_cases h4 : 0 ≤ t ∧ t < (k : Int)
          · rw [if_pos h4] at ih
            rw [if_pos ⟨h4.1, by omega⟩]
            exact ih
          · rw [if_neg (fun e => h4 ⟨e.1, by omega⟩)]
    · have hz := hp k
      rw [shares_no h1, ih]
      by_cases h2 : t = (k : Int)
      · subst h2
        rw [if_neg (fun e => by omega), if_pos ⟨by omega, by omega⟩]
        simp only [Int.toNat_natCast]
        omega
      · by_cases h4 : 0 ≤ t ∧ t < (k : Int)
        · rw [if_pos h4, if_pos ⟨h4.1, by omega⟩]
        · rw [if_neg h4, if_neg (fun e => h4 ⟨e.1, by omega⟩)]
theorem heldL_shares {p : Px} (h : Fine p) (t : Int) : heldL (shares p.h) t = hv p.h t := by
  unfold shares hv
  exact heldL_to _ h.pos t 64
theorem shares_zero : shares zeros = [] := by decide
/-- What is told of thread number k in With. -/
def withN (h : List Int) (t n : Int) (k : Nat) : Int := if (k : Int) = t then n else h.getD k 0
theorem set_get {p : Px} (h : Fine p) (t n : Int) {k : Nat} (hk : k < 64) : (setP p t n).h.getD k 0 = withN p.h t n k := by
  unfold withN
  by_cases hi : 0 ≤ t ∧ t < 64
  · have hl := h.len
    rw [set_in hi.1 hi.2]
    dsimp only
    rw [List.getD_eq_getElem?_getD, List.getElem?_set]
    by_cases h1 : (k : Int) = t
    · rw [if_pos (by omega), if_pos (by omega), if_pos h1]
      rfl
    · rw [if_neg (by omega), if_neg h1, ← List.getD_eq_getElem?_getD]
  · rw [set_out (by omega), if_neg (by omega)]
theorem set_total (p : Px) (t n : Int) : (setP p t n).total = p.total := by
  unfold setP
  split <;> rfl
end Go.Proofs.Ytlkcpplpjjbiaaa.pol
