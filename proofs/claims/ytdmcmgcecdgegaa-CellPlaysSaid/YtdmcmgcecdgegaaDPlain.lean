/-
  What is wrong with declared objects, and where, their bytes, and the objects with which bytes begin: plain mathematics of lists and numbers, and that putting and getting undo each other. No condition.
-/
import Derived.Test.YtdmcmgcecdgegaaPlain
import Derived.Test.YtdmcmgcecdgegaaWPlain
namespace Go.Proofs.Ytdmcmgcecdgegaa.objs
open Go.Proofs.Ytdmcmgcecdgegaa.octet (St rdByte rdNum rdInt num zig zag num_back num_once zig_zag zag_zig zig_lt num_length_le dec enc_length_pos rdNum_ok rdByte_ok)
open Go.Proofs.Ytdmcmgcecdgegaa.word (Word)

/-- An object: its kind, and two numbers. -/
abbrev De := Int × Int × Int
def zero : De := (0, 0, 0)
def names : List ByteArray := [⟨#[]⟩, ⟨#[109, 117, 116, 101, 120]⟩, ⟨#[114, 119]⟩, ⟨#[115, 101, 109]⟩, ⟨#[99, 111, 110, 100]⟩, ⟨#[98, 97, 114]⟩, ⟨#[112, 111, 111, 108]⟩, ⟨#[99, 101, 108, 108]⟩]
/-- A kind's name. -/
def nameK (k : Int) : ByteArray := if 0 < k ∧ k < 8 then names.getD k.toNat ⟨#[]⟩ else ⟨#[]⟩
/-- The kinds that a letter stands for. -/
def kindsOf (c : UInt8) : List Int :=
  if c = 117 then [1, 2] else if c = 115 then [3] else if c = 112 then [6] else if c = 99 then [4] else if c = 109 then [1] else if c = 98 then [5] else if c = 118 then [7] else if c = 113 then [1, 6] else []
/-- Is an object there, and of a kind that a letter stands for? -/
def fits (l : List De) (c : UInt8) (o : Int) : Bool := decide (0 ≤ o ∧ o < (l.length : Int)) && (kindsOf c).contains (l.getD o.toNat zero).1
/-- What is wrong with an object. -/
def one (l : List De) (d : De) : Nat :=
  if d.1 < 1 ∨ 7 < d.1 then 6
  else if d.1 = 3 ∧ (d.2.2 < 1 ∨ 1000 < d.2.2 ∨ d.2.1 < 0 ∨ d.2.2 < d.2.1) then 1
  else if d.1 = 6 ∧ (d.2.1 < 1 ∨ 1000 < d.2.1) then 1
  else if d.1 = 7 ∧ (¬ Word d.2.1 ∨ fits l 117 d.2.2 = false) then 1
  else if (d.1 ≠ 3 ∧ d.1 ≠ 7 ∧ d.2.2 ≠ 0) ∨ (d.1 ≠ 3 ∧ d.1 ≠ 6 ∧ d.1 ≠ 7 ∧ d.2.1 ≠ 0) then 2 else 0
/-- Where the first one stands that may not be, and why. -/
def bad (l : List De) : Nat := l.findIdx fun d => one l d != 0
def chk (l : List De) : Int × Nat := if 32 < l.length then (0, 4) else if bad l < l.length then ((bad l : Int), one l (l.getD (bad l) zero)) else (0, 0)

theorem one_le (l : List De) (d : De) : one l d ≤ 6 := by
  unfold one
  split
  · omega
  · split
    · omega
    · split
      · omega
      · split
        · omega
        · split <;> omega
/-- An object that may be: its kind is one, and its numbers are small. -/
theorem one_zero {l : List De} {d : De} (h : one l d = 0) : (1 ≤ d.1 ∧ d.1 ≤ 7) ∧ (d.1 = 3 → 1 ≤ d.2.2 ∧ d.2.2 ≤ 1000 ∧ 0 ≤ d.2.1 ∧ d.2.1 ≤ d.2.2) ∧ (d.1 = 6 → 1 ≤ d.2.1 ∧ d.2.1 ≤ 1000) ∧ (d.1 = 7 → Word d.2.1 ∧ fits l 117 d.2.2 = true) ∧ (d.1 ≠ 3 → d.1 ≠ 7 → d.2.2 = 0) ∧ (d.1 ≠ 3 → d.1 ≠ 6 → d.1 ≠ 7 → d.2.1 = 0) := by
  unfold one at h
  split at h
  · cases h
  · split at h
    · cases h
    · split at h
      · cases h
      · split at h
        · cases h
        · split at h
          · cases h
          · rename_i h1 h2 h3 h4 h5
            refine ⟨by omega, fun e => ?_, fun e => ?_, fun e => ?_, fun e1 e2 => ?_, fun e1 e2 e3 => ?_⟩
            · have : ¬ (d.2.2 < 1 ∨ 1000 < d.2.2 ∨ d.2.1 < 0 ∨ d.2.2 < d.2.1) := fun h => h2 ⟨e, h⟩
              omega
            · have : ¬ (d.2.1 < 1 ∨ 1000 < d.2.1) := fun h => h3 ⟨e, h⟩
              omega
            · have : ¬ (¬ Word d.2.1 ∨ fits l 117 d.2.2 = false) := fun h => h4 ⟨e, h⟩
              refine ⟨Classical.byContradiction fun h => this (.inl h), ?_⟩
              cases hf : fits l 117 d.2.2 with
              | true => rfl
              | false => exact absurd (.inr hf) this
            · exact Classical.byContradiction fun h => h5 (.inl ⟨e1, e2, h⟩)
            · exact Classical.byContradiction fun h => h5 (.inr ⟨e1, e2, e3, h⟩)
theorem fits_lt {l : List De} {c : UInt8} {o : Int} (h : fits l c o = true) : 0 ≤ o ∧ o < (l.length : Int) := by
  unfold fits at h
  rw [Bool.and_eq_true, decide_eq_true_iff] at h
  exact h.1
theorem bad_le (l : List De) : bad l ≤ l.length := List.findIdx_le_length
theorem bad_of {l : List De} {j : Nat} (h : j ≤ bad l) (hj : j < l.length) (he : one l (l.getD j zero) ≠ 0) : bad l = j := by
  rcases Nat.lt_or_ge j (bad l) with h1 | h1
  · have := List.not_of_lt_findIdx (p := fun d => one l d != 0) (xs := l) h1
    rw [List.getD_eq_getElem?_getD, List.getElem?_eq_getElem hj, Option.getD_some] at he
    simp [he] at this
  · omega
theorem bad_next {l : List De} {j : Nat} (h : j ≤ bad l) (hj : j < l.length) (he : one l (l.getD j zero) = 0) : j + 1 ≤ bad l := by
  rcases Nat.eq_or_lt_of_le h with h1 | h1
  · exfalso
    have hl : l.findIdx (fun d => one l d != 0) < l.length := by show bad l < l.length; omega
    have := List.findIdx_getElem (p := fun d => one l d != 0) (xs := l) (w := hl)
    have e : l[l.findIdx (fun d => one l d != 0)]'hl = l.getD j zero := by
      rw [List.getD_eq_getElem?_getD, List.getElem?_eq_getElem hj, Option.getD_some]
      congr 1
      exact h1.symm
    rw [e, he] at this
    cases this
  · omega
theorem chk_long {l : List De} (h : 32 < l.length) : chk l = (0, 4) := by unfold chk; rw [if_pos h]
theorem chk_bad {l : List De} {j : Nat} (hl : ¬ 32 < l.length) (h : j ≤ bad l) (hj : j < l.length) (he : one l (l.getD j zero) ≠ 0) : chk l = ((j : Int), one l (l.getD j zero)) := by
  unfold chk
  rw [if_neg hl, bad_of h hj he, if_pos hj]
theorem chk_fine {l : List De} (hl : ¬ 32 < l.length) (h : l.length ≤ bad l) : chk l = (0, 0) := by
  unfold chk
  rw [if_neg hl, if_neg (by omega)]
theorem chk_zero {l : List De} (h : (chk l).2 = 0) : l.length ≤ 32 ∧ chk l = (0, 0) ∧ ∀ j, j < l.length → one l (l.getD j zero) = 0 := by
  unfold chk at h ⊢
  by_cases h1 : 32 < l.length
  · rw [if_pos h1] at h; cases h
  · rw [if_neg h1] at h ⊢
    by_cases h2 : bad l < l.length
    · rw [if_pos h2] at h
      exfalso
      have hl : l.findIdx (fun d => one l d != 0) < l.length := h2
      have := List.findIdx_getElem (p := fun d => one l d != 0) (xs := l) (w := hl)
      have e : l.getD (bad l) zero = l[l.findIdx (fun d => one l d != 0)]'hl := by
        rw [List.getD_eq_getElem?_getD, List.getElem?_eq_getElem h2, Option.getD_some]
        rfl
      dsimp only at h
      rw [e] at h
      simp [h] at this
    · rw [if_neg h2]
      refine ⟨by omega, rfl, fun j hj => ?_⟩
      have hj2 : j < bad l := by omega
      have := List.not_of_lt_findIdx (p := fun d => one l d != 0) (xs := l) hj2
      rw [List.getD_eq_getElem?_getD, List.getElem?_eq_getElem hj, Option.getD_some]
      simpa using this

/-- The bytes of an object. -/
def pieceA (k a : Int) : List UInt8 := if k = 3 ∨ k = 6 then num a.toNat else if k = 7 then num (zig a) else []
def pieceB (k b : Int) : List UInt8 := if k = 3 ∨ k = 7 then num b.toNat else []
def encD (d : De) : List UInt8 := UInt8.ofNat d.1.toNat :: (pieceA d.1 d.2.1 ++ pieceB d.1 d.2.2)
/-- The bytes of the first j of some. -/
def encs (l : List De) : Nat → List UInt8
  | 0 => []
  | j + 1 => encs l j ++ encD (l.getD j zero)
def encL (l : List De) : List UInt8 := num l.length ++ encs l l.length
theorem encD_le (d : De) : (encD d).length ≤ 21 := by
  have h1 : (pieceA d.1 d.2.1).length ≤ 10 := by
    unfold pieceA
    split
    · exact num_length_le _
    · split
      · exact num_length_le _
      · simp
  have h2 : (pieceB d.1 d.2.2).length ≤ 10 := by
    unfold pieceB
    split
    · exact num_length_le _
    · simp
  simp only [encD, List.length_cons, List.length_append]
  omega
theorem encs_le (l : List De) : ∀ j, (encs l j).length ≤ 21 * j := by
  intro j
  induction j with
  | zero => simp [encs]
  | succ j ih =>
    have := encD_le (l.getD j zero)
    simp only [encs, List.length_append]
    omega
theorem encL_le (l : List De) : (encL l).length ≤ 10 + 21 * l.length := by
  have h1 := num_length_le l.length
  have h2 := encs_le l l.length
  simp only [encL, List.length_append]
  omega

/-- A number that is read; a great one is out of every range. -/
def rdN (s : St) : Int × St := (((min (rdNum s).1 2147483648 : Nat) : Int), (rdNum s).2)
def rdA (k : Nat) (s : St) : Int × St := if k = 3 ∨ k = 6 then rdN s else if k = 7 then rdInt s else (0, s)
def rdB (k : Nat) (s : St) : Int × St := if k = 3 ∨ k = 7 then rdN s else (0, s)
/-- An object that is read: what is left, and what is wrong. -/
def rdD (s : St) : De × St × Nat :=
  let y := rdByte s
  if y.2.err = 0 ∧ (y.1 < 1 ∨ 7 < y.1) then (zero, y.2, 6)
  else (((y.1 : Int), (rdA y.1 y.2).1, (rdB y.1 (rdA y.1 y.2).2).1), (rdB y.1 (rdA y.1 y.2).2).2, (rdB y.1 (rdA y.1 y.2).2).2.err)
/-- The first j of them. -/
def rdL (s : St) : Nat → List De × St × Nat
  | 0 => ([], s, 0)
  | j + 1 =>
    let p := rdL s j
    if p.2.2 ≠ 0 then p
    else if (rdD p.2.1).2.2 ≠ 0 then ([], (rdD p.2.1).2.1, (rdD p.2.1).2.2)
    else (p.1 ++ [(rdD p.2.1).1], (rdD p.2.1).2.1, 0)
def readL (s : St) : List De × St × Nat :=
  let n := rdN s
  if n.2.err ≠ 0 then ([], n.2, n.2.err)
  else if 32 < n.1 then ([], n.2, 4)
  else
    let p := rdL n.2 n.1.toNat
    if p.2.2 ≠ 0 then ([], p.2.1, p.2.2)
    else if (chk p.1).2 ≠ 0 then ([], p.2.1, (chk p.1).2)
    else (p.1, p.2.1, 0)
/-- The objects with which bytes begin, how many bytes they are, the first error. -/
def getL (l : List UInt8) : List De × Nat × Nat :=
  let r := readL ⟨l, 0⟩
  if r.2.2 ≠ 0 then ([], 0, r.2.2) else (r.1, l.length - r.2.1.rest.length, 0)
end Go.Proofs.Ytdmcmgcecdgegaa.objs
