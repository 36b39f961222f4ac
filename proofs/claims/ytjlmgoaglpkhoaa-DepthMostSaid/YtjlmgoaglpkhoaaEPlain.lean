/-
  What is wrong with a wait, its bytes, the wait with which bytes begin, its text, and the objects of a kind of needs: plain mathematics of lists and numbers. No condition.
-/
import Derived.Test.YtjlmgoaglpkhoaaDPlain
namespace Go.Proofs.Ytjlmgoaglpkhoaa.need
open Go.Proofs.Ytjlmgoaglpkhoaa.octet (St rdByte rdNum num num_length_le)
open Go.Proofs.Ytjlmgoaglpkhoaa.objs (De zero rdN)
set_option linter.unusedVariables false

/-- The kind of object that a kind of need asks. -/
def kn (k : Int) : Int := if k = 1 then 1 else if k = 2 ∨ k = 3 then 2 else if k = 4 then 3 else 6
def lo (n : De) : Int := if n.1 = 4 ∨ n.1 = 5 then 1 else 0
def hi (d : List De) (n : De) : Int := if n.1 = 4 then (d.getD n.2.1.toNat zero).2.2 else if n.1 = 5 then (d.getD n.2.1.toNat zero).2.1 else 0
/-- What is wrong with a need (its kind, the object, the number). -/
def oneN (d : List De) (n : De) : Nat :=
  if n.1 < 1 ∨ 5 < n.1 then 6
  else if n.2.1 < 0 ∨ (d.length : Int) ≤ n.2.1 ∨ (d.getD n.2.1.toNat zero).1 ≠ kn n.1 then 1
  else if n.2.2 < lo n ∨ hi d n < n.2.2 then 1 else 0
/-- Two needs that may not stand in one way. -/
def clash (a b : De) : Bool := a.2.1 == b.2.1 || (a.1 == 4 || b.1 == 4)
def ones (d : List De) : List De → Nat
  | [] => 0
  | n :: l => if oneN d n ≠ 0 then oneN d n else ones d l
/-- Is there a clash of the k-th one with one of the first j? -/
def clashTo (l : List De) (k : Nat) : Nat → Bool
  | 0 => false
  | j + 1 => clashTo l k j || clash (l.getD j zero) (l.getD k zero)
def twiceTo (l : List De) : Nat → Bool
  | 0 => false
  | k + 1 => twiceTo l k || clashTo l k k
def chkWay (d l : List De) : Nat :=
  if l.length = 0 then 2 else if 4 < l.length then 4 else if ones d l ≠ 0 then ones d l else if twiceTo l l.length then 2 else 0
def ways (d : List De) : List (List De) → Nat
  | [] => 0
  | l :: w => if chkWay d l ≠ 0 then chkWay d l else ways d w
/-- What is wrong with a wait. -/
def chkW (d : List De) (w : List (List De)) : Nat := if w.length = 0 then 2 else if 4 < w.length then 4 else ways d w

theorem oneN_le (d : List De) (n : De) : oneN d n ≤ 6 := by
  unfold oneN
  split
  · omega
  · split
    · omega
    · split <;> omega
theorem ones_le (d l : List De) : ones d l ≤ 6 := by
  induction l with
  | nil => simp [ones]
  | cons n l ih =>
    unfold ones
    split
    · exact oneN_le d n
    · exact ih
theorem chkWay_le (d l : List De) : chkWay d l ≤ 6 := by
  unfold chkWay
  split
  · omega
  · split
    · omega
    · split
      · exact ones_le d l
      · split <;> omega
theorem ones_drop {d l : List De} {k : Nat} (h : k < l.length) : ones d (l.drop k) = if oneN d (l.getD k zero) ≠ 0 then oneN d (l.getD k zero) else ones d (l.drop (k + 1)) := by
  rw [List.drop_eq_getElem_cons h]
  have e : l.getD k zero = l[k] := by rw [List.getD_eq_getElem?_getD, List.getElem?_eq_getElem h]; rfl
  rw [e]
  rfl
theorem ways_drop {d : List De} {w : List (List De)} {k : Nat} (h : k < w.length) : ways d (w.drop k) = if chkWay d (w.getD k []) ≠ 0 then chkWay d (w.getD k []) else ways d (w.drop (k + 1)) := by
  rw [List.drop_eq_getElem_cons h]
  have e : w.getD k [] = w[k] := by rw [List.getD_eq_getElem?_getD, List.getElem?_eq_getElem h]; rfl
  rw [e]
  rfl
theorem ones_zero {d l : List De} (h : ones d l = 0) : ∀ n ∈ l, oneN d n = 0 := by
  induction l with
  | nil => intro n hn; cases hn
  | cons m l ih =>
    unfold ones at h
    by_cases hm : oneN d m ≠ 0
    · rw [if_pos hm] at h
      exact absurd h hm
    · rw [if_neg hm] at h
      intro n hn
      rcases List.mem_cons.1 hn with rfl | hn
      · omega
      · exact ih h n hn
theorem ways_zero {d : List De} {w : List (List De)} (h : ways d w = 0) : ∀ l ∈ w, chkWay d l = 0 := by
  induction w with
  | nil => intro n hn; cases hn
  | cons m l ih =>
    unfold ways at h
    by_cases hm : chkWay d m ≠ 0
    · rw [if_pos hm] at h
      exact absurd h hm
    · rw [if_neg hm] at h
      intro n hn
      rcases List.mem_cons.1 hn with rfl | hn
      · omega
      · exact ih h n hn
theorem chkWay_zero {d l : List De} (h : chkWay d l = 0) : 0 < l.length ∧ l.length ≤ 4 ∧ ∀ n ∈ l, oneN d n = 0 := by
  unfold chkWay at h
  split at h
  · cases h
  · split at h
    · cases h
    · split at h
      · omega
      · rename_i h1 h2 h3
        exact ⟨by omega, by omega, ones_zero (by omega)⟩
theorem chkW_zero {d : List De} {w : List (List De)} (h : chkW d w = 0) : 0 < w.length ∧ w.length ≤ 4 ∧ ∀ l ∈ w, 0 < l.length ∧ l.length ≤ 4 ∧ ∀ n ∈ l, oneN d n = 0 := by
  unfold chkW at h
  split at h
  · cases h
  · split at h
    · cases h
    · rename_i h1 h2
      exact ⟨by omega, by omega, fun l hl => chkWay_zero (ways_zero h l hl)⟩
/-- A need that may be has small numbers. -/
theorem oneN_zero {d : List De} {n : De} (h : oneN d n = 0) : (1 ≤ n.1 ∧ n.1 ≤ 5) ∧ (0 ≤ n.2.1 ∧ n.2.1 < (d.length : Int)) ∧ (n.1 ≤ 3 → n.2.2 = 0) ∧ 0 ≤ n.2.2 ∧ n.2.2 ≤ hi d n := by
  unfold oneN at h
  split at h
  · cases h
  · split at h
    · cases h
    · split at h
      · cases h
      · rename_i h1 h2 h3
        refine ⟨by omega, by omega, fun h4 => ?_, ?_, by omega⟩
        · have e1 : lo n = 0 := by unfold lo; rw [if_neg (by omega)]
          have e2 : hi d n = 0 := by unfold hi; rw [if_neg (by omega), if_neg (by omega)]
          omega
        · have e1 : 0 ≤ lo n := by unfold lo; split <;> omega
          omega

/-- The bytes of a need. -/
def pieceN (k n : Int) : List UInt8 := if 3 < k then num n.toNat else []
def encN (n : De) : List UInt8 := UInt8.ofNat n.1.toNat :: (num n.2.1.toNat ++ pieceN n.1 n.2.2)
def encNs (l : List De) : Nat → List UInt8
  | 0 => []
  | k + 1 => encNs l k ++ encN (l.getD k zero)
def encWay (l : List De) : List UInt8 := num l.length ++ encNs l l.length
def encWs (w : List (List De)) : Nat → List UInt8
  | 0 => []
  | k + 1 => encWs w k ++ encWay (w.getD k [])
def encW (w : List (List De)) : List UInt8 := num w.length ++ encWs w w.length
theorem encN_le (n : De) : (encN n).length ≤ 21 := by
  have h1 := num_length_le n.2.1.toNat
  have h2 : (pieceN n.1 n.2.2).length ≤ 10 := by
    unfold pieceN
    split
    · exact num_length_le _
    · simp
  simp only [encN, List.length_cons, List.length_append]
  omega
theorem encNs_le (l : List De) : ∀ j, (encNs l j).length ≤ 21 * j := by
  intro j
  induction j with
  | zero => simp [encNs]
  | succ j ih =>
    have := encN_le (l.getD j zero)
    simp only [encNs, List.length_append]
    omega
theorem encWay_le {l : List De} (h : l.length ≤ 6) : (encWay l).length ≤ 136 := by
  have h1 := num_length_le l.length
  have h2 := encNs_le l l.length
  simp only [encWay, List.length_append]
  omega
theorem encWs_le {w : List (List De)} (h : ∀ l ∈ w, l.length ≤ 6) : ∀ j, j ≤ w.length → (encWs w j).length ≤ 136 * j := by
  intro j
  induction j with
  | zero => intro _; simp [encWs]
  | succ j ih =>
    intro hj
    have h1 := ih (by omega)
    have h2 : (encWay (w.getD j [])).length ≤ 136 := encWay_le (by
      rw [List.getD_eq_getElem?_getD, List.getElem?_eq_getElem (by omega), Option.getD_some]
      exact h _ (List.getElem_mem _))
    simp only [encWs, List.length_append]
    omega

/-- A number that only some kinds have. -/
def rdC (k : Nat) (s : St) : Int × St := if 3 < k then rdN s else (0, s)
/-- A need that is read: what is left, and what is wrong. -/
def rdNeed (s : St) : De × St × Nat :=
  let y := rdByte s
  if y.2.err = 0 ∧ (y.1 < 1 ∨ 5 < y.1) then (zero, y.2, 6)
  else (((y.1 : Int), (rdN y.2).1, (rdC y.1 (rdN y.2).2).1), (rdC y.1 (rdN y.2).2).2, (rdC y.1 (rdN y.2).2).2.err)
def rdNeeds (s : St) : Nat → List De × St × Nat
  | 0 => ([], s, 0)
  | j + 1 =>
    let p := rdNeeds s j
    if p.2.2 ≠ 0 then p
    else if (rdNeed p.2.1).2.2 ≠ 0 then ([], (rdNeed p.2.1).2.1, (rdNeed p.2.1).2.2)
    else (p.1 ++ [(rdNeed p.2.1).1], (rdNeed p.2.1).2.1, 0)
def rdWay (s : St) : List De × St × Nat :=
  if 4 < (rdNum s).1 then ([], (rdNum s).2, 4) else if (rdNum s).2.err ≠ 0 then ([], (rdNum s).2, (rdNum s).2.err) else rdNeeds (rdNum s).2 (rdNum s).1
def rdWays (s : St) : Nat → List (List De) × St × Nat
  | 0 => ([], s, 0)
  | j + 1 =>
    let p := rdWays s j
    if p.2.2 ≠ 0 then p
    else if (rdWay p.2.1).2.2 ≠ 0 then ([], (rdWay p.2.1).2.1, (rdWay p.2.1).2.2)
    else (p.1 ++ [(rdWay p.2.1).1], (rdWay p.2.1).2.1, 0)
def readW (d : List De) (s : St) : List (List De) × St × Nat :=
  if 4 < (rdNum s).1 then ([], (rdNum s).2, 4) else if (rdNum s).2.err ≠ 0 then ([], (rdNum s).2, (rdNum s).2.err)
  else
    let p := rdWays (rdNum s).2 (rdNum s).1
    if p.2.2 ≠ 0 then ([], p.2.1, p.2.2)
    else if chkW d p.1 ≠ 0 then ([], p.2.1, chkW d p.1)
    else (p.1, p.2.1, 0)
/-- The wait with which bytes begin, how many bytes it has, the first error. -/
def getW (d : List De) (l : List UInt8) : List (List De) × Nat × Nat :=
  let r := readW d ⟨l, 0⟩
  if r.2.2 ≠ 0 then ([], 0, r.2.2) else (r.1, l.length - r.2.1.rest.length, 0)

/-- A number in decimals. -/
def digs (n : Nat) : List UInt8 := if h : n < 10 then [UInt8.ofNat (48 + n)] else digs (n / 10) ++ [UInt8.ofNat (48 + n % 10)]
termination_by n
decreasing_by omega
def intT (n : Int) : List UInt8 := if n < 0 then 45 :: digs (-n).toNat else digs n.toNat
theorem digs_small {n : Nat} (h : n < 10) : digs n = [UInt8.ofNat (48 + n)] := by unfold digs; rw [dif_pos h]
theorem digs_big {n : Nat} (h : ¬ n < 10) : digs n = digs (n / 10) ++ [UInt8.ofNat (48 + n % 10)] := by
  conv => lhs; unfold digs
  rw [dif_neg h]
theorem digs_le : ∀ k n, n < 10 ^ k → (digs n).length ≤ k + 1 := by
  intro k
  induction k with
  | zero =>
    intro n hn
    have : n < 1 := by simpa using hn
    rw [digs_small (by omega)]
    simp
  | succ k ih =>
    intro n hn
    by_cases h : n < 10
    · rw [digs_small h]; simp
    · rw [digs_big h, List.length_append]
      have h1 : n / 10 < 10 ^ k := by
        rw [Nat.pow_succ] at hn
        omega
      have := ih _ h1
      simp
      omega
theorem digs_64 {n : Nat} (h : n ≤ 9223372036854775808) : (digs n).length ≤ 20 := digs_le 19 n (by
  have : (10 : Nat) ^ 19 = 10000000000000000000 := by decide
  omega)
theorem intT_le {n : Int} (h : -9223372036854775808 ≤ n ∧ n ≤ 9223372036854775807) : (intT n).length ≤ 21 := by
  unfold intT
  split
  · have := digs_64 (n := (-n).toNat) (by omega)
    simp
    omega
  · have := digs_64 (n := n.toNat) (by omega)
    omega
/-- A kind's word. -/
def word (k : Int) : List UInt8 := if k = 1 then [108, 111, 99, 107] else if k = 2 then [114, 101, 97, 100] else if k = 3 then [119, 114, 105, 116, 101] else if k = 4 then [100, 111, 119, 110] else if k = 5 then [116, 97, 107, 101] else [110, 111, 110, 101]
theorem word_le (k : Int) : (word k).length ≤ 5 := by
  unfold word
  split
  · decide
  · split
    · decide
    · split
      · decide
      · split
        · decide
        · split <;> decide
def tailT (k n : Int) : List UInt8 := if k = 4 ∨ k = 5 then 58 :: intT n else []
def needT (n : De) : List UInt8 := word n.1 ++ [32] ++ intT n.2.1 ++ tailT n.1 n.2.2
def needsT (l : List De) : Nat → List UInt8
  | 0 => []
  | k + 1 => needsT l k ++ (if 0 < k then [32, 43, 32] else []) ++ needT (l.getD k zero)
def waysT (w : List (List De)) : Nat → List UInt8
  | 0 => []
  | k + 1 => waysT w k ++ (if 0 < k then [32, 124, 32] else []) ++ needsT (w.getD k []) (w.getD k []).length
/-- A wait's text. -/
def textW (w : List (List De)) : List UInt8 := waysT w w.length
def Small (n : De) : Prop := (-9223372036854775808 ≤ n.1 ∧ n.1 ≤ 9223372036854775807) ∧ (-9223372036854775808 ≤ n.2.1 ∧ n.2.1 ≤ 9223372036854775807) ∧ (-9223372036854775808 ≤ n.2.2 ∧ n.2.2 ≤ 9223372036854775807)
theorem needT_le {n : De} (h : Small n) : (needT n).length ≤ 49 := by
  have h1 := word_le n.1
  have h2 := intT_le h.2.1
  have h3 : (tailT n.1 n.2.2).length ≤ 22 := by
    unfold tailT
    split
    · have := intT_le h.2.2
      simp
      omega
    · simp
  simp only [needT, List.length_append, List.length_cons, List.length_nil]
  omega
theorem getD_mem {l : List De} {k : Nat} (h : k < l.length) : l.getD k zero ∈ l := by
  rw [List.getD_eq_getElem?_getD, List.getElem?_eq_getElem h]
  exact List.getElem_mem h
theorem getW_mem {w : List (List De)} {k : Nat} (h : k < w.length) : w.getD k [] ∈ w := by
  rw [List.getD_eq_getElem?_getD, List.getElem?_eq_getElem h]
  exact List.getElem_mem h
theorem needsT_le {l : List De} (h : ∀ n ∈ l, Small n) : ∀ j, j ≤ l.length → (needsT l j).length ≤ 52 * j := by
  intro j
  induction j with
  | zero => intro _; simp [needsT]
  | succ j ih =>
    intro hj
    have h1 := ih (by omega)
    have h2 := needT_le (h _ (getD_mem (l := l) (k := j) (by omega)))
    have h3 : (if 0 < j then ([32, 43, 32] : List UInt8) else []).length ≤ 3 := by split <;> simp
    simp only [needsT, List.length_append]
    omega
theorem waysT_le {w : List (List De)} (h : ∀ l ∈ w, l.length ≤ 6 ∧ ∀ n ∈ l, Small n) : ∀ j, j ≤ w.length → (waysT w j).length ≤ 315 * j := by
  intro j
  induction j with
  | zero => intro _; simp [waysT]
  | succ j ih =>
    intro hj
    have h1 := ih (by omega)
    have hm := h _ (getW_mem (w := w) (k := j) (by omega))
    have h2 := needsT_le hm.2 _ (Nat.le_refl _)
    have h4 := hm.1
    have h3 : (if 0 < j then ([32, 124, 32] : List UInt8) else []).length ≤ 3 := by split <;> simp
    simp only [waysT, List.length_append]
    omega
end Go.Proofs.Ytjlmgoaglpkhoaa.need
