/-
  The program reads a number that is above all ranges as another such number than the document does: what is told of the objects is the same. Plain mathematics; no condition.
-/
import Derived.Test.YtaefkkhmhogpeaaDoorDPlain
import Derived.Test.YtaefkkhmhogpeaaDoorSpan
namespace Go.Proofs.YtaefkkhmhogpeaaDoor.objs
open Go.Proofs.YtaefkkhmhogpeaaDoor.octet (St rdByte rdNum rdInt)
open Go.Proofs.YtaefkkhmhogpeaaDoor.word (Word)
open Go.Proofs.YtaefkkhmhogpeaaDoor.span (pN)
set_option linter.unusedVariables false

/-- A number held below two to the thirty-first. -/
def low31 (n : Int) : Int := min n 2147483647
/-- An object of the document's as the program reads it. -/
def cutD (d : De) : De := (d.1, if d.1 = 7 then d.2.1 else low31 d.2.1, low31 d.2.2)
def pA (k : Nat) (s : St) : Int × St := if k = 3 ∨ k = 6 then pN s else if k = 7 then rdInt s else (0, s)
def pB (k : Nat) (s : St) : Int × St := if k = 3 ∨ k = 7 then pN s else (0, s)
/-- An object as the program reads it, whether it may be or not. -/
def pD (s : St) : De × St :=
  let y := rdByte s
  (((y.1 : Int), (pA y.1 y.2).1, (pB y.1 (pA y.1 y.2).2).1), (pB y.1 (pA y.1 y.2).2).2)

theorem pN_rdN (s : St) : (pN s).2 = (rdN s).2 ∧ (pN s).1 = low31 (rdN s).1 := by
  refine ⟨rfl, ?_⟩
  unfold pN rdN low31
  dsimp only
  omega
theorem pA_rdA (k : Nat) (s : St) : (pA k s).2 = (rdA k s).2 ∧ (pA k s).1 = if k = 7 then (rdA k s).1 else low31 (rdA k s).1 := by
  unfold pA rdA
  by_cases h : k = 3 ∨ k = 6
  · rw [if_pos h, if_pos h, if_neg (by omega)]
    exact pN_rdN s
  · rw [if_neg h, if_neg h]
    by_cases h7 : k = 7
    · rw [if_pos h7, if_pos h7]
      exact ⟨rfl, rfl⟩
    · rw [if_neg h7, if_neg h7]
      exact ⟨rfl, rfl⟩
theorem pB_rdB (k : Nat) (s : St) : (pB k s).2 = (rdB k s).2 ∧ (pB k s).1 = low31 (rdB k s).1 := by
  unfold pB rdB
  by_cases h : k = 3 ∨ k = 7
  · rw [if_pos h, if_pos h]
    exact pN_rdN s
  · rw [if_neg h, if_neg h]
    exact ⟨rfl, rfl⟩
/-- What is wrong with the bytes of an object. -/
theorem pD_err {s : St} (h : (pD s).2.err ≠ 0) : (rdD s).2 = ((pD s).2, (pD s).2.err) := by
  unfold pD at h ⊢
  unfold rdD
  dsimp only at h ⊢
  generalize rdByte s = y at *
  obtain ⟨k, S⟩ := y
  dsimp only at h ⊢
  obtain ⟨a1, _⟩ := pA_rdA k S
  obtain ⟨b1, _⟩ := pB_rdB k (pA k S).2
  have e1 : (pB k (pA k S).2).2 = (rdB k (rdA k S).2).2 := by rw [b1, a1]
  rw [e1] at h ⊢
  by_cases hb : S.err = 0 ∧ (k < 1 ∨ 7 < k)
  · exfalso
    refine h ?_
    have e : (rdB k (rdA k S).2).2 = S := by
      unfold rdA
      rw [if_neg (by omega), if_neg (by omega)]
      unfold rdB
      rw [if_neg (by omega)]
    rw [e]
    exact hb.1
  · rw [if_neg hb]
/-- A byte that is no kind. -/
theorem pD_kind {s : St} (h : (pD s).2.err = 0) (hk : ¬ (1 ≤ (pD s).1.1 ∧ (pD s).1.1 ≤ 7)) : (rdD s).2 = ((pD s).2, 6) := by
  unfold pD at h hk ⊢
  unfold rdD
  dsimp only at h hk ⊢
  generalize rdByte s = y at *
  obtain ⟨k, S⟩ := y
  dsimp only at h hk ⊢
  have e1 : (pB k (pA k S).2).2 = S := by
    unfold pA
    rw [if_neg (by omega), if_neg (by omega)]
    unfold pB
    rw [if_neg (by omega)]
  rw [e1] at h ⊢
  rw [if_pos ⟨h, by omega⟩]
/-- An object that is there. -/
theorem pD_fine {s : St} (h : (pD s).2.err = 0) (hk : 1 ≤ (pD s).1.1 ∧ (pD s).1.1 ≤ 7) : (rdD s).2 = ((pD s).2, 0) ∧ (pD s).1 = cutD (rdD s).1 := by
  unfold pD at h hk ⊢
  unfold rdD cutD
  dsimp only at h hk ⊢
  generalize rdByte s = y at *
  obtain ⟨k, S⟩ := y
  dsimp only at h hk ⊢
  obtain ⟨a1, a2⟩ := pA_rdA k S
  obtain ⟨b1, b2⟩ := pB_rdB k (pA k S).2
  rw [if_neg (by omega)]
  have e1 : (pB k (pA k S).2).2 = (rdB k (rdA k S).2).2 := by rw [b1, a1]
  rw [e1] at h ⊢
  refine ⟨by rw [h], ?_⟩
  dsimp only
  rw [a2, b2, a1]
  by_cases h7 : k = 7
  · rw [if_pos h7, if_pos (by omega)]
  · rw [if_neg h7, if_neg (by omega)]

theorem low31_of {n : Int} (h : n ≤ 2147483647) : low31 n = n := by unfold low31; omega
theorem fits_cut (l : List De) (c : UInt8) (o : Int) (hl : l.length ≤ 32) : fits (l.map cutD) c (low31 o) = fits l c o := by
  unfold fits
  rw [List.length_map]
  by_cases h : 0 ≤ o ∧ o < (l.length : Int)
  · rw [low31_of (by omega)]
    congr 1
    congr 1
    obtain ⟨m, rfl⟩ : ∃ m : Nat, o = (m : Int) := ⟨o.toNat, by omega⟩
    rw [Int.toNat_natCast, List.getD_eq_getElem?_getD, List.getD_eq_getElem?_getD, List.getElem?_map, List.getElem?_eq_getElem (by omega)]
    rfl
  · rw [decide_eq_false h, decide_eq_false (by unfold low31; omega), Bool.false_and, Bool.false_and]
theorem one_cut (l : List De) (d : De) (hl : l.length ≤ 32) : one (l.map cutD) (cutD d) = one l d := by
  obtain ⟨k, a, b⟩ := d
  have hf : fits (l.map cutD) 117 (low31 b) = fits l 117 b := fits_cut l 117 b hl
  show one (l.map cutD) (k, if k = 7 then a else low31 a, low31 b) = one l (k, a, b)
  unfold one
  dsimp only
  rw [hf]
  have hlow : low31 b = min b 2147483647 := rfl
  by_cases h7 : k = 7
  · subst h7
    rw [if_pos rfl]
    have e1 : (low31 b < 1 ↔ b < 1) := by omega
    have e2 : (low31 b ≠ 0 ↔ b ≠ 0) := by omega
    simp only [e2]
    rw [if_neg (fun h => by omega), if_neg (fun h => by omega), if_neg (fun h => by omega)]
    rw [if_neg (fun h => by omega : ¬ ((7 : Int) < 1 ∨ (7 : Int) < 7)), if_neg (fun h => by omega : ¬ ((7 : Int) = 3 ∧ (b < 1 ∨ 1000 < b ∨ a < 0 ∨ b < a)))]
  · rw [if_neg h7]
    have hla : low31 a = min a 2147483647 := rfl
    have e1 : (low31 b < 1 ∨ 1000 < low31 b ∨ low31 a < 0 ∨ low31 b < low31 a) ↔ (b < 1 ∨ 1000 < b ∨ a < 0 ∨ b < a) := by omega
    have e2 : (low31 b ≠ 0 ↔ b ≠ 0) := by omega
    have e3 : (low31 a ≠ 0 ↔ a ≠ 0) := by omega
    have e4 : (low31 a < 1 ∨ 1000 < low31 a) ↔ (a < 1 ∨ 1000 < a) := by omega
    have e5 : ¬ (k = 7 ∧ (¬ Word (low31 a) ∨ fits l 117 b = false)) := fun h => h7 h.1
    have e6 : ¬ (k = 7 ∧ (¬ Word a ∨ fits l 117 b = false)) := fun h => h7 h.1
    simp only [e1, e2, e3, e4, if_neg e5, if_neg e6]
theorem chk_cut (l : List De) (hl : l.length ≤ 32) : chk (l.map cutD) = chk l := by
  have hb : bad (l.map cutD) = bad l := by
    unfold bad
    rw [List.findIdx_map]
    congr 1
    funext d
    show (one (l.map cutD) (cutD d) != 0) = (one l d != 0)
    rw [one_cut l d hl]
  unfold chk
  rw [List.length_map, hb]
  by_cases h : bad l < l.length
  · rw [if_pos h, if_pos h]
    have : (l.map cutD).getD (bad l) zero = cutD (l.getD (bad l) zero) := by
      rw [List.getD_eq_getElem?_getD, List.getD_eq_getElem?_getD, List.getElem?_map, List.getElem?_eq_getElem h]
      rfl
    rw [this, one_cut l _ hl]
  · rw [if_neg h, if_neg h]
/-- Objects that may be are read alike. -/
theorem cut_same {l : List De} (h : (chk l).2 = 0) : l.map cutD = l := by
  obtain ⟨hl, _, hall⟩ := chk_zero h
  apply List.ext_getElem?
  intro i
  rw [List.getElem?_map]
  rcases Nat.lt_or_ge i l.length with hi | hi
  · rw [List.getElem?_eq_getElem hi, Option.map_some]
    have h1 := hall i hi
    rw [List.getD_eq_getElem?_getD, List.getElem?_eq_getElem hi, Option.getD_some] at h1
    generalize l[i] = d at *
    obtain ⟨k, a, b⟩ := d
    obtain ⟨hk, h3, h6, h7, hb, ha⟩ := one_zero h1
    dsimp only at hk h3 h6 h7 hb ha
    congr 1
    unfold cutD
    dsimp only
    have eb : low31 b = b := by
      apply low31_of
      by_cases e3 : k = 3
      · have := h3 e3; omega
      · by_cases e7 : k = 7
        · have := fits_lt (h7 e7).2; omega
        · have := hb e3 e7; omega
    have ea : (if k = 7 then a else low31 a) = a := by
      by_cases e7 : k = 7
      · rw [if_pos e7]
      · rw [if_neg e7]
        apply low31_of
        by_cases e3 : k = 3
        · have := h3 e3; omega
        · by_cases e6 : k = 6
          · have := h6 e6; omega
          · have := ha e3 e6 e7; omega
    rw [ea, eb]
  · rw [List.getElem?_eq_none hi]
    rfl

/-- The objects that the program reads, before they are checked. -/
def pAll (s : St) : List De × St × Nat :=
  let n := pN s
  if n.2.err ≠ 0 then ([], n.2, n.2.err)
  else if 32 < n.1 then ([], n.2, 4)
  else
    let p := rdL n.2 n.1.toNat
    (p.1.map cutD, p.2.1, p.2.2)
theorem rdL_empty {s : St} : ∀ j, (rdL s j).2.2 ≠ 0 → (rdL s j).1 = [] := by
  intro j
  induction j with
  | zero => intro h; exact absurd rfl h
  | succ j ih =>
    intro h
    simp only [rdL] at h ⊢
    by_cases h1 : (rdL s j).2.2 ≠ 0
    · rw [if_pos h1] at h ⊢
      exact ih h1
    · rw [if_neg h1] at h ⊢
      by_cases h2 : (rdD (rdL s j).2.1).2.2 ≠ 0
      · rw [if_pos h2]
      · rw [if_neg h2] at h
        exact absurd rfl h
theorem rdL_short {s : St} : ∀ j, (rdL s j).1.length ≤ j := by
  intro j
  induction j with
  | zero => exact Nat.le_refl _
  | succ j ih =>
    simp only [rdL]
    split
    · omega
    · split
      · simp
      · rw [List.length_append]; simp; exact ih
theorem getL_prog (t : List UInt8) : getL t = if (pAll ⟨t, 0⟩).2.2 ≠ 0 then ([], 0, (pAll ⟨t, 0⟩).2.2)
    else if (chk (pAll ⟨t, 0⟩).1).2 ≠ 0 then ([], 0, (chk (pAll ⟨t, 0⟩).1).2)
    else ((pAll ⟨t, 0⟩).1, t.length - (pAll ⟨t, 0⟩).2.1.rest.length, 0) := by
  unfold getL readL pAll
  dsimp only
  obtain ⟨e1, e2⟩ := pN_rdN ⟨t, 0⟩
  simp only [e1, e2]
  have hn : 0 ≤ (rdN ⟨t, 0⟩).1 := by unfold rdN; dsimp only; omega
  generalize rdN ⟨t, 0⟩ = N at *
  obtain ⟨n, S⟩ := N
  dsimp only at hn ⊢
  by_cases h1 : S.err ≠ 0
  · simp only [if_pos h1]
  · simp only [if_neg h1]
    by_cases h2 : 32 < n
    · have h3 : 32 < low31 n := by unfold low31; omega
      simp only [if_pos h2, if_pos h3]
      rfl
    · have h3 : low31 n = n := by unfold low31; omega
      rw [h3]
      simp only [if_neg h2]
      by_cases h4 : (rdL S n.toNat).2.2 ≠ 0
      · simp only [if_pos h4]
      · simp only [if_neg h4]
        have hs : (rdL S n.toNat).1.length ≤ 32 := by have := rdL_short (s := S) n.toNat; omega
        rw [chk_cut _ hs]
        by_cases h5 : (chk (rdL S n.toNat).1).2 ≠ 0
        · simp only [if_pos h5]
        · simp only [if_neg h5]
          rw [cut_same (by omega)]
          rfl
end Go.Proofs.YtaefkkhmhogpeaaDoor.objs
