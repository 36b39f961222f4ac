/-
  Texts of one claim in one file: DPlain, DBack, DMem, DRefFits, DRefFit, DRefOne, DRefCheck, DTab, DArg, EPlain, EMem, ERefOne, ETab, GOk, EBack, GPlain. Each has its own sentence, with its conditions.
-/
import Derived.Test.YtahejekcfgkiaaaDoorOall1
import Derived.Test.YtahejekcfgkiaaaDoorProg
import Derived.WalkKit
import Derived.ProofKit
import Derived.IntWalk
import Derived.LoopTactic
import Derived.Lib.Hide
import Derived.Below
import Derived.Outline
import Derived.OwnWalk
import Derived.Deep.RegionLaw
import Derived.Deep.AppendLies
import Derived.Laws.AppendOwnNone
import Derived.Maps.AppendAt
import Derived.Deep.QuietTactic
import Derived.BigQuiet
import Derived.Deep.Cut
import Derived.Deep.CutBlock
import Derived.Deep.DeepCutAuto
import Derived.Deep.RegionHeld3
import Derived.Lib.LaidTab
import Derived.Lib.ItoaNum
import Derived.WalkSmall
/-
  What is wrong with declared objects, and where, their bytes, and the objects with which bytes begin: plain mathematics of lists and numbers, and that putting and getting undo each other. No condition.
-/
namespace Go.Proofs.YtahejekcfgkiaaaDoor.objs
open Go.Proofs.YtahejekcfgkiaaaDoor.octet (St rdByte rdNum rdInt num zig zag num_back num_once zig_zag zag_zig zig_lt num_length_le dec enc_length_pos rdNum_ok rdByte_ok)
open Go.Proofs.YtahejekcfgkiaaaDoor.word (Word)

/-- An object: its kind, and two numbers. -/
abbrev De := Int × Int × Int
def zero : De := (0, 0, 0)
def names : List ByteArray := [⟨#[]⟩, ⟨#[109, 117, 116, 101, 120]⟩, ⟨#[114, 119]⟩, ⟨#[115, 101, 109]⟩, ⟨#[99, 111, 110, 100]⟩, ⟨#[98, 97, 114]⟩, ⟨#[112, 111, 111, 108]⟩, ⟨#[99, 101, 108, 108]⟩]
/-- A kind's name. -/
def nameK (k : Int) : ByteArray := if 0 < k ∧ k < 8 then names.getD k.toNat ⟨#[]⟩ else ⟨#[]⟩
/-- The kinds that a letter stands for. -/
def kindsOf (c : UInt8) : List Int :=
  if c = 117 then [1, 2] else if c = 115 then [3] else if c = 112 then [6] else if c = 99 then [4] else if c = 109 then [1] else if c = 98 then [5] else if c = 118 then [7] else if c = 113 then [1, 6] else []
/-- Is an object there, and of a kind that a letter stands for? -/
def fits (l : List De) (c : UInt8) (o : Int) : Bool := decide (0 ≤ o ∧ o < (l.length : Int)) && (kindsOf c).contains (l.getD o.toNat zero).1
/-- What is wrong with an object. -/
def one (l : List De) (d : De) : Nat :=
  if d.1 < 1 ∨ 7 < d.1 then 6
  else if d.1 = 3 ∧ (d.2.2 < 1 ∨ 1000 < d.2.2 ∨ d.2.1 < 0 ∨ d.2.2 < d.2.1) then 1
  else if d.1 = 6 ∧ (d.2.1 < 1 ∨ 1000 < d.2.1) then 1
  else if d.1 = 7 ∧ (¬ Word d.2.1 ∨ fits l 117 d.2.2 = false) then 1
  else if (d.1 ≠ 3 ∧ d.1 ≠ 7 ∧ d.2.2 ≠ 0) ∨ (d.1 ≠ 3 ∧ d.1 ≠ 6 ∧ d.1 ≠ 7 ∧ d.2.1 ≠ 0) then 2 else 0
/-- Where the first one stands that may not be, and why. -/
def bad (l : List De) : Nat := l.findIdx fun d => one l d != 0
def chk (l : List De) : Int × Nat := if 32 < l.length then (0, 4) else if bad l < l.length then ((bad l : Int), one l (l.getD (bad l) zero)) else (0, 0)

theorem one_le (l : List De) (d : De) : one l d ≤ 6 := by
  unfold one
  split
  · omega
  · split
    · omega
    · split
      · omega
      · split
        · omega
        · split <;> omega
/-- An object that may be: its kind is one, and its numbers are small. -/
theorem one_zero {l : List De} {d : De} (h : one l d = 0) : (1 ≤ d.1 ∧ d.1 ≤ 7) ∧ (d.1 = 3 → 1 ≤ d.2.2 ∧ d.2.2 ≤ 1000 ∧ 0 ≤ d.2.1 ∧ d.2.1 ≤ d.2.2) ∧ (d.1 = 6 → 1 ≤ d.2.1 ∧ d.2.1 ≤ 1000) ∧ (d.1 = 7 → Word d.2.1 ∧ fits l 117 d.2.2 = true) ∧ (d.1 ≠ 3 → d.1 ≠ 7 → d.2.2 = 0) ∧ (d.1 ≠ 3 → d.1 ≠ 6 → d.1 ≠ 7 → d.2.1 = 0) := by
  unfold one at h
  split at h
  · cases h
  · split at h
    · cases h
    · split at h
      · cases h
      · split at h
        · cases h
        · split at h
          · cases h
          · rename_i h1 h2 h3 h4 h5
            refine ⟨by omega, fun e => ?_, fun e => ?_, fun e => ?_, fun e1 e2 => ?_, fun e1 e2 e3 => ?_⟩
            · have : ¬ (d.2.2 < 1 ∨ 1000 < d.2.2 ∨ d.2.1 < 0 ∨ d.2.2 < d.2.1) := fun h => h2 ⟨e, h⟩
              omega
            · have : ¬ (d.2.1 < 1 ∨ 1000 < d.2.1) := fun h => h3 ⟨e, h⟩
              omega
            · have : ¬ (¬ Word d.2.1 ∨ fits l 117 d.2.2 = false) := fun h => h4 ⟨e, h⟩
              refine ⟨Classical.byContradiction fun h => this (.inl h), ?_⟩
              cases hf : fits l 117 d.2.2 with
              | true => rfl
              | false => exact absurd (.inr hf) this
            · exact Classical.byContradiction fun h => h5 (.inl ⟨e1, e2, h⟩)
            · exact Classical.byContradiction fun h => h5 (.inr ⟨e1, e2, e3, h⟩)
theorem fits_lt {l : List De} {c : UInt8} {o : Int} (h : fits l c o = true) : 0 ≤ o ∧ o < (l.length : Int) := by
  unfold fits at h
  rw [Bool.and_eq_true, decide_eq_true_iff] at h
  exact h.1
theorem bad_le (l : List De) : bad l ≤ l.length := List.findIdx_le_length
theorem bad_of {l : List De} {j : Nat} (h : j ≤ bad l) (hj : j < l.length) (he : one l (l.getD j zero) ≠ 0) : bad l = j := by
  rcases Nat.lt_or_ge j (bad l) with h1 | h1
  · have := List.not_of_lt_findIdx (p := fun d => one l d != 0) (xs := l) h1
    rw [List.getD_eq_getElem?_getD, List.getElem?_eq_getElem hj, Option.getD_some] at he
    simp [he] at this
  · omega
theorem bad_next {l : List De} {j : Nat} (h : j ≤ bad l) (hj : j < l.length) (he : one l (l.getD j zero) = 0) : j + 1 ≤ bad l := by
  rcases Nat.eq_or_lt_of_le h with h1 | h1
  · exfalso
    have hl : l.findIdx (fun d => one l d != 0) < l.length := by show bad l < l.length; omega
    have := List.findIdx_getElem (p := fun d => one l d != 0) (xs := l) (w := hl)
    have e : l[l.findIdx (fun d => one l d != 0)]'hl = l.getD j zero := by
      rw [List.getD_eq_getElem?_getD, List.getElem?_eq_getElem hj, Option.getD_some]
      congr 1
      exact h1.symm
    rw [e, he] at this
    cases this
  · omega
theorem chk_long {l : List De} (h : 32 < l.length) : chk l = (0, 4) := by unfold chk; rw [if_pos h]
theorem chk_bad {l : List De} {j : Nat} (hl : ¬ 32 < l.length) (h : j ≤ bad l) (hj : j < l.length) (he : one l (l.getD j zero) ≠ 0) : chk l = ((j : Int), one l (l.getD j zero)) := by
  unfold chk
  rw [if_neg hl, bad_of h hj he, if_pos hj]
theorem chk_fine {l : List De} (hl : ¬ 32 < l.length) (h : l.length ≤ bad l) : chk l = (0, 0) := by
  unfold chk
  rw [if_neg hl, if_neg (by omega)]
theorem chk_zero {l : List De} (h : (chk l).2 = 0) : l.length ≤ 32 ∧ chk l = (0, 0) ∧ ∀ j, j < l.length → one l (l.getD j zero) = 0 := by
  unfold chk at h ⊢
  by_cases h1 : 32 < l.length
  · rw [if_pos h1] at h; cases h
  · rw [if_neg h1] at h ⊢
    by_cases h2 : bad l < l.length
    · rw [if_pos h2] at h
      exfalso
      have hl : l.findIdx (fun d => one l d != 0) < l.length := h2
      have := List.findIdx_getElem (p := fun d => one l d != 0) (xs := l) (w := hl)
      have e : l.getD (bad l) zero = l[l.findIdx (fun d => one l d != 0)]'hl := by
        rw [List.getD_eq_getElem?_getD, List.getElem?_eq_getElem h2, Option.getD_some]
        rfl
      dsimp only at h
      rw [e] at h
      simp [h] at this
    · rw [if_neg h2]
      refine ⟨by omega, rfl, fun j hj => ?_⟩
      have hj2 : j < bad l := by omega
      have := List.not_of_lt_findIdx (p := fun d => one l d != 0) (xs := l) hj2
      rw [List.getD_eq_getElem?_getD, List.getElem?_eq_getElem hj, Option.getD_some]
      simpa using this

/-- The bytes of an object. -/
def pieceA (k a : Int) : List UInt8 := if k = 3 ∨ k = 6 then num a.toNat else if k = 7 then num (zig a) else []
def pieceB (k b : Int) : List UInt8 := if k = 3 ∨ k = 7 then num b.toNat else []
def encD (d : De) : List UInt8 := UInt8.ofNat d.1.toNat :: (pieceA d.1 d.2.1 ++ pieceB d.1 d.2.2)
/-- The bytes of the first j of some. -/
def encs (l : List De) : Nat → List UInt8
  | 0 => []
  | j + 1 => encs l j ++ encD (l.getD j zero)
def encL (l : List De) : List UInt8 := num l.length ++ encs l l.length
theorem encD_le (d : De) : (encD d).length ≤ 21 := by
  have h1 : (pieceA d.1 d.2.1).length ≤ 10 := by
    unfold pieceA
    split
    · exact num_length_le _
    · split
      · exact num_length_le _
      · simp
  have h2 : (pieceB d.1 d.2.2).length ≤ 10 := by
    unfold pieceB
    split
    · exact num_length_le _
    · simp
  simp only [encD, List.length_cons, List.length_append]
  omega
theorem encs_le (l : List De) : ∀ j, (encs l j).length ≤ 21 * j := by
  intro j
  induction j with
  | zero => simp [encs]
  | succ j ih =>
    have := encD_le (l.getD j zero)
    simp only [encs, List.length_append]
    omega
theorem encL_le (l : List De) : (encL l).length ≤ 10 + 21 * l.length := by
  have h1 := num_length_le l.length
  have h2 := encs_le l l.length
  simp only [encL, List.length_append]
  omega

/-- A number that is read; a great one is out of every range. -/
def rdN (s : St) : Int × St := (((min (rdNum s).1 2147483648 : Nat) : Int), (rdNum s).2)
def rdA (k : Nat) (s : St) : Int × St := if k = 3 ∨ k = 6 then rdN s else if k = 7 then rdInt s else (0, s)
def rdB (k : Nat) (s : St) : Int × St := if k = 3 ∨ k = 7 then rdN s else (0, s)
/-- An object that is read: what is left, and what is wrong. -/
def rdD (s : St) : De × St × Nat :=
  let y := rdByte s
  if y.2.err = 0 ∧ (y.1 < 1 ∨ 7 < y.1) then (zero, y.2, 6)
  else (((y.1 : Int), (rdA y.1 y.2).1, (rdB y.1 (rdA y.1 y.2).2).1), (rdB y.1 (rdA y.1 y.2).2).2, (rdB y.1 (rdA y.1 y.2).2).2.err)
/-- The first j of them. -/
def rdL (s : St) : Nat → List De × St × Nat
  | 0 => ([], s, 0)
  | j + 1 =>
    let p := rdL s j
    if p.2.2 ≠ 0 then p
    else if (rdD p.2.1).2.2 ≠ 0 then ([], (rdD p.2.1).2.1, (rdD p.2.1).2.2)
    else (p.1 ++ [(rdD p.2.1).1], (rdD p.2.1).2.1, 0)
def readL (s : St) : List De × St × Nat :=
  let n := rdN s
  if n.2.err ≠ 0 then ([], n.2, n.2.err)
  else if 32 < n.1 then ([], n.2, 4)
  else
    let p := rdL n.2 n.1.toNat
    if p.2.2 ≠ 0 then ([], p.2.1, p.2.2)
    else if (chk p.1).2 ≠ 0 then ([], p.2.1, (chk p.1).2)
    else (p.1, p.2.1, 0)
/-- The objects with which bytes begin, how many bytes they are, the first error. -/
def getL (l : List UInt8) : List De × Nat × Nat :=
  let r := readL ⟨l, 0⟩
  if r.2.2 ≠ 0 then ([], 0, r.2.2) else (r.1, l.length - r.2.1.rest.length, 0)
end Go.Proofs.YtahejekcfgkiaaaDoor.objs

/-
  What was put of objects is got again, whatever stands behind; what was got, put, is just the bytes that it had. Plain mathematics; no condition.
-/
namespace Go.Proofs.YtahejekcfgkiaaaDoor.objs
open Go.Proofs.YtahejekcfgkiaaaDoor.octet (St rdByte rdNum rdInt num zig zag num_back num_once zig_zag zag_zig zig_lt num_length_le dec enc_length_pos rdNum_ok rdByte_ok)
open Go.Proofs.YtahejekcfgkiaaaDoor.word (Word)

theorem rdNum_back {n : Nat} (h : n < 18446744073709551616) (more : List UInt8) : rdNum ⟨num n ++ more, 0⟩ = (n, ⟨more, 0⟩) := by
  have hz := num_back h more
  unfold rdNum
  simp only [ne_eq, not_true_eq_false, if_false, hz]
theorem rdN_back {n : Nat} (h : n ≤ 2147483648) (more : List UInt8) : rdN ⟨num n ++ more, 0⟩ = ((n : Int), ⟨more, 0⟩) := by
  unfold rdN
  rw [rdNum_back (by omega)]
  dsimp only
  rw [Nat.min_eq_left h]
theorem rdInt_back {n : Int} (h : Word n) (more : List UInt8) : rdInt ⟨num (zig n) ++ more, 0⟩ = (n, ⟨more, 0⟩) := by
  unfold Word at h
  unfold rdInt
  rw [rdNum_back (zig_lt (by omega) (by omega))]
  dsimp only
  rw [zag_zig]
theorem rdD_back {l : List De} {d : De} (h : one l d = 0) (hl : l.length ≤ 32) (more : List UInt8) : rdD ⟨encD d ++ more, 0⟩ = (d, ⟨more, 0⟩, 0) := by
  obtain ⟨h0, h3, h6, h7, hb, ha⟩ := one_zero h
  obtain ⟨k, a, b⟩ := d
  dsimp only at h0 h3 h6 h7 hb ha
  have hy : rdByte ⟨encD (k, a, b) ++ more, 0⟩ = (k.toNat, ⟨pieceA k a ++ (pieceB k b ++ more), 0⟩) := by
    unfold rdByte encD
    simp only [ne_eq, not_true_eq_false, if_false, List.cons_append, List.append_assoc]
    congr 1
    rw [UInt8.toNat_ofNat']
    omega
  have hA : rdA k.toNat ⟨pieceA k a ++ (pieceB k b ++ more), 0⟩ = (a, ⟨pieceB k b ++ more, 0⟩) := by
    unfold rdA pieceA
    by_cases e : k = 3 ∨ k = 6
    · rw [if_pos (by omega), if_pos e, rdN_back (by omega)]
      congr 1
      omega
    · rw [if_neg (by omega), if_neg e]
      by_cases e7 : k = 7
      · rw [if_pos (by omega), if_pos e7, rdInt_back (h7 e7).1]
      · rw [if_neg (by omega), if_neg e7, ha (by omega) (by omega) e7]
        rfl
  have hB : rdB k.toNat ⟨pieceB k b ++ more, 0⟩ = (b, ⟨more, 0⟩) := by
    unfold rdB pieceB
    by_cases e : k = 3 ∨ k = 7
    · rw [if_pos (by omega), if_pos e]
      have hbb : 0 ≤ b ∧ b ≤ 1000 := by
        rcases e with e | e
        · have := h3 e; omega
        · have := fits_lt (h7 e).2; omega
      rw [rdN_back (by omega)]
      congr 1
      omega
    · rw [if_neg (by omega), if_neg e, hb (by omega) (by omega)]
      rfl
  unfold rdD
  simp only [hy, hA, hB]
  rw [if_neg (by omega)]
  congr 2
  omega
theorem rdL_back {l : List De} (hl : l.length ≤ 32) (h : ∀ j, j < l.length → one l (l.getD j zero) = 0) : ∀ j, j ≤ l.length → ∀ more, rdL ⟨encs l j ++ more, 0⟩ j = (l.take j, ⟨more, 0⟩, 0) := by
  intro j
  induction j with
  | zero => intro _ more; rfl
  | succ j ih =>
    intro hj more
    have h1 := ih (by omega) (encD (l.getD j zero) ++ more)
    have h2 := rdD_back (h j (by omega)) hl more
    simp only [encs, List.append_assoc, rdL]
    rw [h1]
    simp only [h2]
    rw [if_neg (by decide), if_neg (by decide), List.take_add_one, List.getD_eq_getElem?_getD, List.getElem?_eq_getElem (by omega)]
    rfl
theorem back {l : List De} (h : (chk l).2 = 0) (more : List UInt8) : getL (encL l ++ more) = (l, (encL l).length, 0) := by
  obtain ⟨hl, _, hall⟩ := chk_zero h
  have hn : rdN ⟨encL l ++ more, 0⟩ = ((l.length : Int), ⟨encs l l.length ++ more, 0⟩) := by
    unfold encL
    rw [List.append_assoc, rdN_back (by omega)]
  have hL := rdL_back hl hall l.length (Nat.le_refl _) more
  unfold getL readL
  have h32 : ¬ (32 : Int) < (l.length : Int) := by omega
  simp only [hn, Int.toNat_natCast, hL, List.take_length, h, ne_eq, not_true_eq_false, if_false, if_neg h32]
  simp

theorem rdNum_once {l : List UInt8} (h : (rdNum ⟨l, 0⟩).2.err = 0) : l = num (rdNum ⟨l, 0⟩).1 ++ (rdNum ⟨l, 0⟩).2.rest := by
  unfold rdNum at h ⊢
  simp only [ne_eq, not_true_eq_false, if_false] at h ⊢
  exact (num_once (l := l) (v := (dec l 0 0).1) (rest := (dec l 0 0).2.1) (Prod.ext rfl (Prod.ext rfl h))).1
theorem rdN_once {l : List UInt8} (h : (rdN ⟨l, 0⟩).2.err = 0) (hs : (rdN ⟨l, 0⟩).1 < 2147483648) : l = num (rdN ⟨l, 0⟩).1.toNat ++ (rdN ⟨l, 0⟩).2.rest := by
  unfold rdN at h hs ⊢
  dsimp only at h hs ⊢
  have e : ((min (rdNum ⟨l, 0⟩).1 2147483648 : Nat) : Int).toNat = (rdNum ⟨l, 0⟩).1 := by omega
  rw [e]
  exact rdNum_once h
theorem rdInt_once {l : List UInt8} (h : (rdInt ⟨l, 0⟩).2.err = 0) : l = num (zig (rdInt ⟨l, 0⟩).1) ++ (rdInt ⟨l, 0⟩).2.rest := by
  unfold rdInt at h ⊢
  dsimp only at h ⊢
  rw [zig_zag]
  exact rdNum_once h
theorem rdNum_err {s : St} (h : s.err ≠ 0) : (rdNum s).2 = s := by
  unfold rdNum
  rw [if_pos h]
theorem rdB_err {k : Nat} {s : St} (h : s.err ≠ 0) : (rdB k s).2 = s := by
  unfold rdB rdN
  split
  · exact rdNum_err h
  · rfl
theorem rdA_err {k : Nat} {s : St} (h : s.err ≠ 0) : (rdA k s).2 = s := by
  unfold rdA rdN rdInt
  split
  · exact rdNum_err h
  · split
    · exact rdNum_err h
    · rfl
theorem rdD_once {l : List De} {L : List UInt8} (he : (rdD ⟨L, 0⟩).2.2 = 0) (hl : l.length ≤ 32) (h : one l (rdD ⟨L, 0⟩).1 = 0) : L = encD (rdD ⟨L, 0⟩).1 ++ (rdD ⟨L, 0⟩).2.1.rest ∧ (rdD ⟨L, 0⟩).2.1.err = 0 := by
  unfold rdD at he h ⊢
  dsimp only at he h ⊢
  split at he
  · cases he
  · rename_i hc
    rw [if_neg hc] at h ⊢
    dsimp only at he h ⊢
    obtain ⟨x, r, rfl⟩ : ∃ x r, L = x :: r := by
      cases L with
      | nil =>
        exfalso
        have e0 : (rdByte ⟨[], 0⟩).2.err ≠ 0 := by decide
        rw [rdA_err e0, rdB_err e0] at he
        exact e0 he
      | cons x r => exact ⟨x, r, rfl⟩
    have hy : rdByte ⟨x :: r, 0⟩ = (x.toNat, ⟨r, 0⟩) := rfl
    rw [hy] at he h hc ⊢
    dsimp only at he h hc ⊢
    have hA0 : (rdA x.toNat ⟨r, 0⟩).2.err = 0 := by
      rcases Nat.eq_zero_or_pos (rdA x.toNat ⟨r, 0⟩).2.err with e | e
      · exact e
      · rw [rdB_err (by omega)] at he; exact he
    obtain ⟨h0, h3, h6, h7, hb, ha⟩ := one_zero h
    dsimp only at h0 h3 h6 h7 hb ha
    have hA : r = pieceA (x.toNat : Int) (rdA x.toNat ⟨r, 0⟩).1 ++ (rdA x.toNat ⟨r, 0⟩).2.rest := by
      unfold rdA at hA0 h3 h6 h7 ⊢
      unfold pieceA
      by_cases e : x.toNat = 3 ∨ x.toNat = 6
      · rw [if_pos e] at hA0 h3 h6 ⊢
        rw [if_pos (by omega)]
        refine rdN_once hA0 ?_
        rcases e with e | e
        · have := h3 (by omega); omega
        · have := h6 (by omega); omega
      · rw [if_neg e] at hA0 ⊢
        rw [if_neg (by omega)]
        by_cases e7 : x.toNat = 7
        · rw [if_pos e7] at hA0 ⊢
          rw [if_pos (by omega)]
          exact rdInt_once hA0
        · rw [if_neg e7, if_neg (by omega)]
          rfl
    generalize rdA x.toNat ⟨r, 0⟩ = q at *
    obtain ⟨a, R, E⟩ := q
    dsimp only at hA0 hA he h3 h6 h7 hb ha ⊢
    subst hA0
    have hB : R = pieceB (x.toNat : Int) (rdB x.toNat ⟨R, 0⟩).1 ++ (rdB x.toNat ⟨R, 0⟩).2.rest := by
      unfold rdB at he h3 h7 ⊢
      unfold pieceB
      by_cases e : x.toNat = 3 ∨ x.toNat = 7
      · rw [if_pos e] at he h3 h7 ⊢
        rw [if_pos (by omega)]
        refine rdN_once he ?_
        rcases e with e | e
        · have := h3 (by omega); omega
        · have := fits_lt (h7 (by omega)).2; omega
      · rw [if_neg e] at he ⊢
        rw [if_neg (by omega)]
        rfl
    refine ⟨?_, he⟩
    unfold encD
    dsimp only
    rw [Int.toNat_natCast, List.cons_append, List.append_assoc, ← hB, ← hA]
    congr 1
    exact UInt8.ofNat_toNat.symm
theorem rdL_err {s : St} {j : Nat} (h : (rdL s j).2.2 ≠ 0) : ∀ k, j ≤ k → (rdL s k).2.2 ≠ 0 := by
  intro k hk
  induction k with
  | zero =>
    obtain rfl : j = 0 := by omega
    exact h
  | succ k ih =>
    rcases Nat.eq_or_lt_of_le hk with e | e
    · subst e; exact h
    · have := ih (by omega)
      simp only [rdL]
      rw [if_pos this]
      exact this
theorem rdL_length {s : St} : ∀ j, (rdL s j).2.2 = 0 → (rdL s j).1.length = j := by
  intro j
  induction j with
  | zero => intro _; rfl
  | succ j ih =>
    intro h
    simp only [rdL] at h ⊢
    split at h
    · exact absurd h ‹_›
    · rename_i h1
      have := ih (by omega)
      rw [if_neg h1]
      split at h
      · exact absurd h ‹_›
      · rename_i h2
        rw [if_neg h2, List.length_append, this]
        rfl
theorem getD_left {l r : List De} {i : Nat} (h : i < l.length) : (l ++ r).getD i zero = l.getD i zero := by
  rw [List.getD_eq_getElem?_getD, List.getD_eq_getElem?_getD, List.getElem?_append_left h]
theorem getD_last {l : List De} {x : De} {i : Nat} (h : l.length = i) : (l ++ [x]).getD i zero = x := by
  subst h
  rw [List.getD_eq_getElem?_getD, List.getElem?_append_right (Nat.le_refl _), Nat.sub_self]
  rfl
theorem encs_left {l r : List De} : ∀ j, j ≤ l.length → encs (l ++ r) j = encs l j := by
  intro j
  induction j with
  | zero => intro _; rfl
  | succ j ih =>
    intro h
    simp only [encs]
    rw [ih (by omega), getD_left (by omega)]
theorem rdL_once {M : List De} (hM : M.length ≤ 32) : ∀ j (L : List UInt8), (rdL ⟨L, 0⟩ j).2.2 = 0 → (∀ i, i < j → one M ((rdL ⟨L, 0⟩ j).1.getD i zero) = 0) → L = encs (rdL ⟨L, 0⟩ j).1 j ++ (rdL ⟨L, 0⟩ j).2.1.rest ∧ (rdL ⟨L, 0⟩ j).2.1.err = 0 := by
  intro j
  induction j with
  | zero => intro L _ _; exact ⟨rfl, rfl⟩
  | succ j ih =>
    intro L he hall
    have h0 : (rdL ⟨L, 0⟩ j).2.2 = 0 := by
      rcases Nat.eq_zero_or_pos (rdL ⟨L, 0⟩ j).2.2 with h | h
      · exact h
      · exact absurd he (rdL_err (j := j) (by omega) (j + 1) (by omega))
    have hlen := rdL_length j h0
    simp only [rdL] at he hall ⊢
    rw [if_neg (by omega)] at he hall ⊢
    split at he
    · exact absurd he ‹_›
    · rename_i h2
      rw [if_neg h2] at hall ⊢
      dsimp only at he hall ⊢
      have h1 := ih L h0 (fun i hi => by
        have := hall i (by omega)
        rwa [getD_left (by omega)] at this)
      have hj := hall j (by omega)
      rw [getD_last hlen] at hj
      simp only [encs]
      rw [encs_left j (by omega), getD_last hlen]
      generalize rdL ⟨L, 0⟩ j = p at *
      obtain ⟨ls, ⟨R, E⟩, e⟩ := p
      dsimp only at h0 hlen h1 hj h2 ⊢
      obtain ⟨h1, h1e⟩ := h1
      subst h1e
      have h3 := rdD_once (l := M) (L := R) (by omega) hM hj
      refine ⟨?_, h3.2⟩
      rw [List.append_assoc, ← h3.1]
      exact h1
theorem got_bad {l : List UInt8} (h : (getL l).2.2 ≠ 0) : getL l = ([], 0, (getL l).2.2) := by
  unfold getL at h ⊢
  dsimp only at h ⊢
  split
  · rfl
  · rename_i h1
    rw [if_neg h1] at h
    exact absurd rfl h
theorem once {t : List UInt8} (h : (getL t).2.2 = 0) : (chk (getL t).1).2 = 0 ∧ 0 < (getL t).2.1 ∧ (getL t).2.1 ≤ t.length ∧ encL (getL t).1 = t.take (getL t).2.1 := by
  unfold getL readL at h ⊢
  dsimp only at h ⊢
  by_cases h1 : (rdN ⟨t, 0⟩).2.err ≠ 0
  · simp only [if_pos h1] at h; exact absurd h h1
  · simp only [if_neg h1] at h ⊢
    by_cases h2 : 32 < (rdN ⟨t, 0⟩).1
    · simp only [if_pos h2] at h; cases h
    · simp only [if_neg h2] at h ⊢
      have hn := rdN_once (l := t) (by omega) (by omega)
      have hn0 : 0 ≤ (rdN ⟨t, 0⟩).1 := by unfold rdN; dsimp only; omega
      generalize rdN ⟨t, 0⟩ = q at *
      obtain ⟨n, ⟨R, E⟩⟩ := q
      dsimp only at h h1 h2 hn hn0 ⊢
      obtain rfl : E = 0 := by omega
      by_cases h3 : (rdL ⟨R, 0⟩ n.toNat).2.2 ≠ 0
      · simp only [if_pos h3] at h; exact absurd h h3
      · simp only [if_neg h3] at h ⊢
        by_cases h4 : (chk (rdL ⟨R, 0⟩ n.toNat).1).2 ≠ 0
        · simp only [if_pos h4] at h; exact absurd h h4
        · simp only [if_neg h4] at h ⊢
          have hlen := rdL_length n.toNat (by omega : (rdL ⟨R, 0⟩ n.toNat).2.2 = 0)
          obtain ⟨hl, _, hall⟩ := chk_zero (by omega : (chk (rdL ⟨R, 0⟩ n.toNat).1).2 = 0)
          have ho := (rdL_once hl n.toNat R (by omega) (fun i hi => hall i (by omega))).1
          generalize rdL ⟨R, 0⟩ n.toNat = p at *
          obtain ⟨ls, S, e⟩ := p
          dsimp only at h3 h4 hlen hl hall ho ⊢
          have hE : t = encL ls ++ S.rest := by
            unfold encL
            rw [hlen, List.append_assoc, ← ho]
            exact hn
          have hpos : 0 < (encL ls).length := by
            have := enc_length_pos 9 ls.length
            simp only [encL, List.length_append]
            have e : (num ls.length).length = (Go.Proofs.YtahejekcfgkiaaaDoor.octet.enc 9 ls.length).length := rfl
            omega
          have hlt : t.length = (encL ls).length + S.rest.length := by rw [hE, List.length_append]
          simp only [ne_eq, not_true_eq_false, if_false]
          refine ⟨by omega, by omega, by omega, ?_⟩
          rw [show t.length - S.rest.length = (encL ls).length from by omega, hE, List.take_left']
          rfl
end Go.Proofs.YtahejekcfgkiaaaDoor.objs

/-
  A list of objects as it lies in memory, wherever it came from; and a row of them that a call owns. No condition.
-/
namespace Go.Proofs.YtahejekcfgkiaaaDoor.objs
open Go.RowKit Go.ChangeShapes
set_option linter.unusedVariables false

/-- The three cells of an object. -/
def CellsAt (w : World) (b i : Nat) (d : De) : Prop := w.cell? ⟨b, i, none⟩ = some (.int .i64 d.1) ∧ w.cell? ⟨b, i + 1, none⟩ = some (.int .i64 d.2.1) ∧ w.cell? ⟨b, i + 2, none⟩ = some (.int .i64 d.2.2)
/-- A list of objects, one behind the other, from where a slice begins. -/
def DAt (w : World) (A : Option Addr) (l : List De) : Prop := ∀ j, j < l.length → ∃ b off, A = some ⟨b, off, none⟩ ∧ b < w.heap.size ∧ CellsAt w b (off + j * 3) (l.getD j zero)
theorem CellsAt.keep {w w' : World} {b i : Nat} {d : De} (h : CellsAt w b i d) (hb : w'.heap[b]? = w.heap[b]?) : CellsAt w' b i d :=
  ⟨(World.cell?_of_block (a := ⟨b, i, none⟩) hb).trans h.1, (World.cell?_of_block (a := ⟨b, i + 1, none⟩) hb).trans h.2.1, (World.cell?_of_block (a := ⟨b, i + 2, none⟩) hb).trans h.2.2⟩
theorem DAt.next {w w' : World} {A : Option Addr} {l : List De} (h : DAt w A l) (hb : Below w.heap.size w w') : DAt w' A l := fun j hj => by
  obtain ⟨b, off, h1, h2, h3⟩ := h j hj
  exact ⟨b, off, h1, Nat.lt_of_lt_of_le h2 hb.size, h3.keep (hb.block b h2)⟩
theorem DAt.drew {w : World} {A : Option Addr} {l : List De} (h : DAt w A l) : DAt w.drew A l := h
theorem DAt.drewN {w : World} {A : Option Addr} {l : List De} (h : DAt w A l) : ∀ n, DAt (w.drewN n) A l
  | 0 => h
  | n + 1 => (DAt.drewN h n).drew
theorem DAt.nil (w : World) (A : Option Addr) : DAt w A [] := fun j hj => absurd hj (Nat.not_lt_zero j)
theorem DAt.take {w : World} {A : Option Addr} {l : List De} (h : DAt w A l) (n : Nat) : DAt w A (l.take n) := fun j hj => by
  rw [List.length_take] at hj
  obtain ⟨b, off, h1, h2, h3⟩ := h j (by omega)
  refine ⟨b, off, h1, h2, ?_⟩
  rwa [List.getD_eq_getElem?_getD, List.getElem?_take_of_lt (by omega), ← List.getD_eq_getElem?_getD]

/-- Objects, cell by cell. -/
def flat (l : List De) : List Value := l.flatMap fun d => [.int .i64 d.1, .int .i64 d.2.1, .int .i64 d.2.2]
theorem flat_append (l r : List De) : flat (l ++ r) = flat l ++ flat r := by simp [flat]
theorem flat_cons (d : De) (l : List De) : flat (d :: l) = .int .i64 d.1 :: .int .i64 d.2.1 :: .int .i64 d.2.2 :: flat l := by simp [flat]
theorem flat_length (l : List De) : (flat l).length = l.length * 3 := by
  induction l with
  | nil => rfl
  | cons d l ih => rw [flat_cons]; simp only [List.length_cons, ih]; omega
theorem flat_oneCell (l : List De) : ∀ u ∈ flat l, u.oneCell' = true := by
  intro u hu
  simp only [flat, List.mem_flatMap] at hu
  obtain ⟨d, _, hd⟩ := hu
  simp only [List.mem_cons, List.not_mem_nil, or_false] at hd
  rcases hd with rfl | rfl | rfl <;> rfl
theorem flat_at (l : List De) : ∀ j, j < l.length → (flat l)[j * 3]? = some (.int .i64 (l.getD j zero).1) ∧ (flat l)[j * 3 + 1]? = some (.int .i64 (l.getD j zero).2.1) ∧ (flat l)[j * 3 + 2]? = some (.int .i64 (l.getD j zero).2.2) := by
  induction l with
  | nil => intro j hj; exact absurd hj (Nat.not_lt_zero j)
  | cons d l ih =>
    intro j hj
    rw [flat_cons]
    cases j with
    | zero => exact ⟨rfl, rfl, rfl⟩
    | succ j =>
      obtain ⟨h1, h2, h3⟩ := ih j (by simpa using hj)
      rw [show (j + 1) * 3 = j * 3 + 1 + 1 + 1 from by omega]
      exact ⟨h1, h2, h3⟩

/-- A slice's value of objects, nil or a row of the call's own. -/
def Own (w : World) (base : Nat) (v : Value) (l : List De) : Prop := w.ownsRow base 41 3 v l.length (flat l)
theorem Own.nil (w : World) (base : Nat) : Own w base (.slice none 0 0) [] := World.ownsRow_nil ..
theorem Own.empty {w : World} {g : Nat} (h : w.heap[g]? = some (.cells #[] 41 (0, 0))) : Own w g (.slice (some ⟨g, 0, none⟩) 0 0) [] :=
  ⟨rfl, .inr ⟨g, 0, #[], rfl, Nat.le_refl _, h, Nat.le_refl _, Nat.zero_le _, rfl, rfl⟩⟩
theorem Own.slice {w : World} {base : Nat} {v : Value} {l : List De} (h : Own w base v l) : ∃ A cap, v = .slice A l.length cap := by
  rcases h.2 with ⟨rfl, h0⟩ | ⟨g, cap, cur, rfl, _⟩
  · exact ⟨none, 0, by rw [h0]⟩
  · exact ⟨_, _, rfl⟩
theorem Own.at {w : World} {base cap : Nat} {A : Option Addr} {l : List De} {n : Nat} (h : Own w base (.slice A n cap) l) : DAt w A l := by
  intro j hj
  rcases h.2 with ⟨e, h0⟩ | ⟨g, cap', cur, e, hb, hh, _⟩
  · omega
  · injection e with e1 e2 e3
    subst e1
    obtain ⟨h1, h2, h3⟩ := flat_at l j hj
    refine ⟨g, 0, rfl, lt_of_block hh, ?_, ?_, ?_⟩
    · have := World.ownsRow.cells h (g := g) rfl _ _ h1
      rw [Addr.add_lit] at this
      simpa using this
    · have := World.ownsRow.cells h (g := g) rfl _ _ h2
      rw [Addr.add_lit] at this
      simpa using this
    · have := World.ownsRow.cells h (g := g) rfl _ _ h3
      rw [Addr.add_lit] at this
      simpa using this
theorem Own.keep {w w' : World} {base : Nat} {v : Value} {l : List De} (h : Own w base v l) (hk : ∀ g, v.ownBlock = some g → w'.heap[g]? = w.heap[g]?) : Own w' base v l := by
  refine ⟨h.1, h.2.imp id ?_⟩
  rintro ⟨g, c, cur, rfl, hb, hh, r⟩
  exact ⟨g, c, cur, rfl, hb, (hk g rfl).trans hh, r⟩
theorem Own.lt {w : World} {base g : Nat} {v : Value} {l : List De} (h : Own w base v l) (hg : v.ownBlock = some g) : base ≤ g ∧ g < w.heap.size := World.ownsRow.lt h g hg
theorem Own.next {w w' : World} {base : Nat} {v : Value} {l : List De} (h : Own w base v l) (hb : Below w.heap.size w w') : Own w' base v l := h.keep fun g hg => hb.block g (h.lt hg).2
theorem Own.base {w : World} {base base' : Nat} {v : Value} {l : List De} (h : Own w base v l) (hb : base' ≤ base) : Own w base' v l := by
  refine ⟨h.1, h.2.imp id ?_⟩
  rintro ⟨g, c, cur, e, hb1, r⟩
  exact ⟨g, c, cur, e, Nat.le_trans hb hb1, r⟩

theorem infoD : (Tryd.prog.info? 41).map (fun i => (i.zero, i.size, i.bytes)) = some (some (.agg #[.int .i64 0, .int .i64 0, .int .i64 0]), 3, 24) := by kernel_rfl

theorem src_cells {w : World} {ad : Addr} {r : List De} (h : DAt w (some ad) r) : ∀ (j : Nat) (u : Value), (flat r)[j]? = some u → w.cell? (ad.add j) = some u := by
  intro j u hu
  have hj : j < r.length * 3 := by
    have := (List.getElem?_eq_some_iff.1 hu).1
    rwa [flat_length] at this
  obtain ⟨b, off, e, _, h1, h2, h3⟩ := h (j / 3) (by omega)
  obtain rfl := Option.some.inj e
  obtain ⟨f1, f2, f3⟩ := flat_at r (j / 3) (by omega)
  rw [Addr.add_lit]
  rcases (by omega : j % 3 = 0 ∨ j % 3 = 1 ∨ j % 3 = 2) with hm | hm | hm
  · rw [show j / 3 * 3 = j from by omega] at h1 f1
    rw [h1, ← hu, f1]
  · rw [show off + j / 3 * 3 + 1 = off + j from by omega] at h2
    rw [show j / 3 * 3 + 1 = j from by omega] at f2
    rw [h2, ← hu, f2]
  · rw [show off + j / 3 * 3 + 2 = off + j from by omega] at h3
    rw [show j / 3 * 3 + 2 = j from by omega] at f3
    rw [h3, ← hu, f3]
/-- A list that lies anywhere, put behind a row of a call's own. -/
theorem run_appD (w : World) (ty : TypeId) (base m c : Nat) (v : Value) (A : Option Addr) (l r : List De) (hrow : Own w base v l) (hm : m = r.length) (hA : A = none → r = [] ∧ c = 0) (hsrc : DAt w A r) (hlen : l.length + r.length ≤ 100000) (hbase : base ≤ w.heap.size) :
    ∃ v' w', (Builtin.append_ #[22, 22] ty #[v, .slice A m c]).run Tryd.prog w = .ok v' w' ∧ Own w' base v' (l ++ r) ∧ w.grownBy w' v.ownBlock := by
  subst hm
  obtain ⟨i, hi, hz0, hz1, hz2⟩ := info_parts infoD
  cases A with
  | none =>
    obtain ⟨rfl, rfl⟩ := hA rfl
    refine ⟨v, w, run_append_owned_none (P := Tryd.prog) (w := w) base 22 ty 41 i 3 Tryd.underlying22 hi v l.length (flat l) hrow, ?_, ⟨rfl, rfl, rfl, Nat.le_refl _, fun _ _ _ => rfl⟩⟩
    rw [List.append_nil]
    exact hrow
  | some ad =>
    obtain ⟨v', w', h1, h2, h3, _⟩ := run_append_own (P := Tryd.prog) w base 22 ty 41 i _ 3 24 Tryd.underlying22 hi hz0 hz1 hz2 rfl (by omega) v l.length (flat l) hrow ad r.length c (flat r) (flat_length r) (src_cells hsrc) (flat_oneCell r) (by unfold maxLen; omega) (by omega) hbase
    refine ⟨v', w', h1, ?_, h3⟩
    unfold Own
    rw [List.length_append, flat_append]
    exact h2
theorem wp_appD {o : Oper} {a : Act} {w : World} {K : Act → World → Prop} {Q : Exit → Act → World → Prop} (s x : Operand)
    (ho : o.op = .call { callee := .builtin .append, args := #[s, x], argTypes := #[22, 22] }) (base m c : Nat) (v : Value) (A : Option Addr) (l r : List De)
    (hs : a.eval s = v) (hrow : Own w base v l) (hx : a.eval x = .slice A m c) (hm : m = r.length) (hA : A = none → r = [] ∧ c = 0) (hsrc : DAt w A r) (hlen : l.length + r.length ≤ 100000) (hbase : base ≤ w.heap.size)
    (h : ∀ v' w', Own w' base v' (l ++ r) → w.grownBy w' v.ownBlock → K (a.put o.dst v') w') : o.wp Tryd.prog a w K Q := by
  obtain ⟨v', w', hr, h2, h3⟩ := run_appD w o.type base m c v A l r hrow hm hA hsrc hlen hbase
  unfold Oper.wp execOp
  simp only [ho, resolve, invoke, builtin, Sem.run_bind, Sem.run_pure, Result.andThen_ok, List.map_toArray, List.map_cons, List.map_nil, hs, hx, hr]
  exact h v' w' h2 h3
theorem wpList_appD {ops : Array Oper} {rest : List Oper} {o : Oper} {a : Act} {w : World} {Q : Exit → Act → World → Prop} (hgd : o.guard = none) (s x : Operand)
    (ho : o.op = .call { callee := .builtin .append, args := #[s, x], argTypes := #[22, 22] }) (base m c : Nat) (v : Value) (A : Option Addr) (l r : List De)
    (hs : a.eval s = v) (hrow : Own w base v l) (hx : a.eval x = .slice A m c) (hm : m = r.length) (hA : A = none → r = [] ∧ c = 0) (hsrc : DAt w A r) (hlen : l.length + r.length ≤ 100000) (hbase : base ≤ w.heap.size)
    (h : ∀ v' w', Own w' base v' (l ++ r) → w.grownBy w' v.ownBlock → wpList Tryd.prog ops Q rest (a.put o.dst v') w') : wpList Tryd.prog ops Q (o :: rest) a w :=
  wpList_plain hgd fun _ hK => wp_appD s x ho base m c v A l r hs hrow hx hm hA hsrc hlen hbase fun v' w' h2 h3 => hK _ _ (h v' w' h2 h3)
theorem step_appD {ops : Array Oper} {o : Oper} {a : Act} {w : World} {K : Act → World → Prop} {Q : Exit → Act → World → Prop} {E : Prop} (hgd : o.guard = none) (s x : Operand)
    (ho : o.op = .call { callee := .builtin .append, args := #[s, x], argTypes := #[22, 22] }) (base m c : Nat) (v : Value) (A : Option Addr) (l r : List De)
    (hs : a.eval s = v) (hrow : Own w base v l) (hx : a.eval x = .slice A m c) (hm : m = r.length) (hA : A = none → r = [] ∧ c = 0) (hsrc : DAt w A r) (hlen : l.length + r.length ≤ 100000) (hbase : base ≤ w.heap.size)
    (h : ∀ v' w', Own w' base v' (l ++ r) → w.grownBy w' v.ownBlock → K (a.put o.dst v') w') :
    if Region.wanted o (yielded ops a.tmps) = true then Oper.wp Tryd.prog o a w K Q else E := by
  have hw : Region.wanted o (yielded ops a.tmps) = true := by simp [Region.wanted, hgd]
  rw [if_pos hw]
  exact wp_appD s x ho base m c v A l r hs hrow hx hm hA hsrc hlen hbase h
/-- An object in a block of its own, as a list of one. -/
theorem DAt.one {w : World} {g : Nat} {d : De} (h : w.heap[g]? = some (.cells #[.int .i64 d.1, .int .i64 d.2.1, .int .i64 d.2.2] 41 (0, 0))) : DAt w (some ⟨g, 0, none⟩) [d] := fun j hj => by
  obtain rfl : j = 0 := by simpa using hj
  refine ⟨g, 0, rfl, lt_of_block h, ?_, ?_, ?_⟩
  all_goals
    unfold World.cell?
    rw [h]
    rfl
end Go.Proofs.YtahejekcfgkiaaaDoor.objs

/-
  The document's names of kinds, the kinds that a letter stands for, and whether an object is of one. No condition.
-/
namespace Go.Proofs.YtahejekcfgkiaaaDoor.objs
open Go.RowKit Go.ChangeShapes
open Go.Proofs.YtahejekcfgkiaaaDoor.word (Word)
set_option linter.unusedVariables false

theorem ret_int {k : IntKind} {a b : Int} (h : a = b) : Ending.returned (.int k a) = .returned (.int k b) := by rw [h]
theorem ret_bool {a b : Bool} (h : a = b) : Ending.returned (.bool a) = .returned (.bool b) := by rw [h]
theorem ret_string {a b : ByteArray} (h : a = b) : Ending.returned (.string a) = .returned (.string b) := by rw [h]

/-- A list of kinds that a call has made. -/
def KAt (w : World) (A : Option Addr) (ks : List Int) : Prop := ∀ j, j < ks.length → ∃ b, A = some ⟨b, 0, none⟩ ∧ w.cell? ⟨b, j, none⟩ = some (.int .i64 (ks.getD j 0))
def KindsPost (c : UInt8) (w : World) (e : Ending) (w' : World) : Prop := ∃ A, e = .returned (.slice A (kindsOf c).length (kindsOf c).length) ∧ KAt w' A (kindsOf c) ∧ Below w.heap.size w w'
theorem kat_one {w : World} {b : Nat} {k : Int} (h : w.heap[b]? = some (.cells #[.int .i64 k] 3 (0, 0))) : KAt w (some ⟨b, 0, none⟩) [k] := fun j hj => by
  obtain rfl : j = 0 := by simpa using hj
  refine ⟨b, rfl, ?_⟩
  unfold World.cell?
  rw [h]
  rfl
theorem kat_two {w : World} {b : Nat} {k m : Int} (h : w.heap[b]? = some (.cells #[.int .i64 k, .int .i64 m] 3 (0, 0))) : KAt w (some ⟨b, 0, none⟩) [k, m] := fun j hj => by
  have hj2 : j < 2 := hj
  refine ⟨b, rfl, ?_⟩
  unfold World.cell?
  rw [h]
  match j, hj2 with
  | 0, _ => rfl
  | 1, _ => rfl
def letters : List UInt8 := [117, 115, 112, 99, 109, 98, 118, 113]
theorem kinds_none {c : UInt8} (h : ∀ k, k < 8 → c ≠ letters.getD k 0) : kindsOf c = [] := by
  have h0 : c ≠ 117 := h 0 (by omega)
  have h1 : c ≠ 115 := h 1 (by omega)
  have h2 : c ≠ 112 := h 2 (by omega)
  have h3 : c ≠ 99 := h 3 (by omega)
  have h4 : c ≠ 109 := h 4 (by omega)
  have h5 : c ≠ 98 := h 5 (by omega)
  have h6 : c ≠ 118 := h 6 (by omega)
  have h7 : c ≠ 113 := h 7 (by omega)
  unfold kindsOf
  rw [if_neg h0, if_neg h1, if_neg h2, if_neg h3, if_neg h4, if_neg h5, if_neg h6, if_neg h7]
theorem u8_eq {c k : UInt8} : ((k.toNat : Int) == (c.toNat : Int)) = decide (c = k) := by
  by_cases h : c = k
  · subst h; simp
  · rw [decide_eq_false h, beq_eq_false_iff_ne]
    intro e
    exact h (UInt8.toNat_inj.1 (by omega))

/-- The world in which all lists of kinds are made. -/
def ints1 (k : Int) : Obj := .cells #[.int .i64 k] 3
def ints2 (k m : Int) : Obj := .cells #[.int .i64 k, .int .i64 m] 3
def rows (n : Nat) : Obj := .cells #[.slice (some ⟨n, 0, none⟩) 2 2, .slice (some ⟨n + 1, 0, none⟩) 1 1, .slice (some ⟨n + 1 + 1, 0, none⟩) 1 1, .slice (some ⟨n + 1 + 1 + 1, 0, none⟩) 1 1, .slice (some ⟨n + 1 + 1 + 1 + 1, 0, none⟩) 1 1, .slice (some ⟨n + 1 + 1 + 1 + 1 + 1, 0, none⟩) 1 1, .slice (some ⟨n + 1 + 1 + 1 + 1 + 1 + 1, 0, none⟩) 1 1, .slice (some ⟨n + 1 + 1 + 1 + 1 + 1 + 1 + 1, 0, none⟩) 2 2] 115
def kw (w : World) : World := ((((((((w.alloc (ints2 1 2)).alloc (ints1 3)).alloc (ints1 6)).alloc (ints1 4)).alloc (ints1 1)).alloc (ints1 5)).alloc (ints1 7)).alloc (ints2 1 6)).alloc (rows w.heap.size)
theorem kw_below (w : World) : Below w.heap.size w (kw w) := by
  unfold kw
  refine (((((((((Below.refl _ w).alloc (Nat.le_refl _) _).alloc ?_ _).alloc ?_ _).alloc ?_ _).alloc ?_ _).alloc ?_ _).alloc ?_ _).alloc ?_ _).alloc ?_ _
  all_goals simp only [World.size_alloc]; omega
theorem kw_at (w : World) : (kw w).heap[w.heap.size]? = some (ints2 1 2) ∧ (kw w).heap[w.heap.size + 1]? = some (ints1 3) ∧ (kw w).heap[w.heap.size + 1 + 1]? = some (ints1 6) ∧ (kw w).heap[w.heap.size + 1 + 1 + 1]? = some (ints1 4) ∧
    (kw w).heap[w.heap.size + 1 + 1 + 1 + 1]? = some (ints1 1) ∧ (kw w).heap[w.heap.size + 1 + 1 + 1 + 1 + 1]? = some (ints1 5) ∧ (kw w).heap[w.heap.size + 1 + 1 + 1 + 1 + 1 + 1]? = some (ints1 7) ∧ (kw w).heap[w.heap.size + 1 + 1 + 1 + 1 + 1 + 1 + 1]? = some (ints2 1 6) ∧
    (kw w).heap[w.heap.size + 1 + 1 + 1 + 1 + 1 + 1 + 1 + 1]? = some (rows w.heap.size) := by
  unfold kw
  refine ⟨?_, ?_, ?_, ?_, ?_, ?_, ?_, ?_, ?_⟩
  all_goals simp only [World.alloc, Array.getElem?_push, Array.size_push]
  all_goals repeat (first | rw [if_pos trivial] | rw [if_neg (by omega)])

end Go.Proofs.YtahejekcfgkiaaaDoor.objs

/-
  The document's own answer whether an object is of a kind that a letter stands for, and the names of kinds. No condition.
-/
namespace Go.Proofs.YtahejekcfgkiaaaDoor.objs
open Go.RowKit Go.ChangeShapes
open Go.Proofs.YtahejekcfgkiaaaDoor.word (Word)
set_option linter.unusedVariables false

theorem contains_at {ks : List Int} {x : Int} {j : Nat} (hj : j < ks.length) (h : ks.getD j 0 = x) : ks.contains x = true := by
  rw [List.contains_iff_mem]
  rw [List.getD_eq_getElem?_getD, List.getElem?_eq_getElem hj, Option.getD_some] at h
  rw [← h]
  exact List.getElem_mem hj
theorem contains_no {ks : List Int} {x : Int} (h : ∀ k, k < ks.length → ks.getD k 0 ≠ x) : ks.contains x = false := by
  cases hc : ks.contains x with
  | false => rfl
  | true =>
    rw [List.contains_iff_mem] at hc
    obtain ⟨k, hk, e⟩ := List.getElem_of_mem hc
    exact absurd (by rw [List.getD_eq_getElem?_getD, List.getElem?_eq_getElem hk, Option.getD_some]; exact e) (h k hk)
theorem KAt.next {w w' : World} {A : Option Addr} {ks : List Int} (h : KAt w A ks) (hb : Below w.heap.size w w') : KAt w' A ks := fun j hj => by
  obtain ⟨b, h1, h2⟩ := h j hj
  refine ⟨b, h1, ?_⟩
  have hlt : b < w.heap.size := by
    rcases Nat.lt_or_ge b w.heap.size with h3 | h3
    · exact h3
    · simp [World.cell?, Array.getElem?_eq_none h3] at h2
  exact (hb.cell (p := ⟨b, j, none⟩) hlt).trans h2
theorem KAt.drewN {w : World} {A : Option Addr} {ks : List Int} (h : KAt w A ks) (n : Nat) : KAt (w.drewN n) A ks := fun j hj => by
  obtain ⟨b, h1, h2⟩ := h j hj
  exact ⟨b, h1, by simpa using h2⟩
theorem kinds_le (c : UInt8) : (kindsOf c).length ≤ 2 := by
  unfold kindsOf
  split
  · decide
  · split
    · decide
    · split
      · decide
      · split
        · decide
        · split
          · decide
          · split
            · decide
            · split
              · decide
              · split <;> decide
theorem below_drewN {B : Nat} {a w : World} (h : Below B a w) : ∀ n, Below B a (w.drewN n)
  | 0 => h
  | n + 1 => (below_drewN h n).drew

end Go.Proofs.YtahejekcfgkiaaaDoor.objs

/-
  The document's own answer what is wrong with an object, and where the first one stands that may not be. No condition but that a list is no longer than an int can say.
-/
namespace Go.Proofs.YtahejekcfgkiaaaDoor.objs
open Go.RowKit Go.ChangeShapes
open Go.Proofs.YtahejekcfgkiaaaDoor.word (Word)
set_option linter.unusedVariables false

def declBox (k a b : Int) : Obj := .cells #[.int .i64 k, .int .i64 a, .int .i64 b] 41
/-- What 'one' answers. -/
def OnePost (l : List De) (d : De) (w : World) (e : Ending) (w' : World) : Prop := e = .returned (.int .i64 (one l d : Nat)) ∧ Below w.heap.size w w'
theorem box_below (w : World) (k a b : Int) : Below w.heap.size w (w.alloc (declBox k a b)) := (Below.refl _ w).alloc (Nat.le_refl _) _

end Go.Proofs.YtahejekcfgkiaaaDoor.objs

/-
  The document's own answer where the first object stands that may not be, and why. No condition but that a list is no longer than an int can say.
-/
namespace Go.Proofs.YtahejekcfgkiaaaDoor.objs
open Go.RowKit Go.ChangeShapes
open Go.Proofs.YtahejekcfgkiaaaDoor.word (Word)
set_option linter.unusedVariables false

/-- What Check answers. -/
def ChkPost (p : Int × Nat) (w : World) (e : Ending) (w' : World) : Prop := e = .returned (.tuple #[.int .i64 p.1, .int .i64 (p.2 : Nat)]) ∧ Below w.heap.size w w'
end Go.Proofs.YtahejekcfgkiaaaDoor.objs

/-
  The program's table of kinds' names lies where its initialiser lays it; with that: a kind's name, and whether there is such a kind (typed over the code of 392f5a9). The card ties the table to the program's text.
-/
namespace Go.Proofs.YtahejekcfgkiaaaDoor.objs
open Go.RowKit Go.ChangeShapes
set_option linter.unusedVariables false

/-- The table of names lies where its initialiser lays it. -/
def Tabd (w : World) : Prop := ∀ j, j < 8 → w.cell? ⟨1, j, none⟩ = some (.string (names.getD j ⟨#[]⟩))
theorem Tabd.below {B : Nat} {w w' : World} (h : Tabd w) (hb : Below B w w') (hB : 1 < B) : Tabd w' := fun j hj => (hb.cell (p := ⟨1, j, none⟩) hB).trans (h j hj)
/-- What the program's calls ask of the world: the table lies where it should, below all that is made. -/
def Okd (w : World) : Prop := Tabd w ∧ 1 < w.heap.size
theorem Okd.below {B : Nat} {w w' : World} (h : Okd w) (hb : Below B w w') (hB : 1 < B) : Okd w' := ⟨h.1.below hb hB, Nat.lt_of_lt_of_le h.2 hb.size⟩
theorem Okd.next {w w' : World} (h : Okd w) (hb : Below w.heap.size w w') : Okd w' := h.below hb h.2

theorem name_any (k : Int) (w : World) (hw : Okd w) : Calls Tryd.prog 70 #[.int .i64 k] w fun e w' => e = .returned (.string (nameK k)) ∧ w = w' := by
  by_cases h0 : k < 0
  · have HE : Hid (nameK k = ⟨#[]⟩) := Lib.hid (by unfold nameK; rw [if_neg (by omega)])
    rw [HE.out]
    have hd : decide (k < 0) = true := by simpa using h0
    go_enter Tryd.func70, Tryd.ntmps70
    go_wp2_with fail
    go_ret
    exact ⟨rfl, rfl⟩
  · have hd : decide (k < 0) = false := by simpa using h0
    by_cases h8 : 8 ≤ k
    · have HE : Hid (nameK k = ⟨#[]⟩) := Lib.hid (by unfold nameK; rw [if_neg (by omega)])
      rw [HE.out]
      have hd2 : decide (8 ≤ k) = true := by simpa using h8
      go_enter Tryd.func70, Tryd.ntmps70
      go_wp2_with fail
      go_ret
      exact ⟨rfl, rfl⟩
    · obtain ⟨m, rfl⟩ : ∃ m : Nat, k = (m : Int) := ⟨k.toNat, by omega⟩
      have hm : m < 8 := by omega
      have hc := hw.1 m hm
      have HE : Hid (nameK (m : Int) = names.getD m ⟨#[]⟩) := Lib.hid (by
        unfold nameK
        by_cases hz : m = 0
        · subst hz; rfl
        · rw [if_pos (by omega), Int.toNat_natCast])
      rw [HE.out]
      have hd2 : decide (8 ≤ (m : Int)) = false := by simpa using h8
      have hm8 : (m : Int) < 8 := by omega
      generalize names.getD m ⟨#[]⟩ = x at *
      clear hw h0 h8
      go_enter Tryd.func70, Tryd.ntmps70
      go_wp2_with fail
      go_ret
      exact ⟨rfl, rfl⟩

theorem named : ∀ k, k < 8 → (!(names.getD k ⟨#[]⟩).toList.isEmpty) = decide (1 ≤ k) := by decide +kernel
theorem name_there (k : Int) : (!(nameK k).toList.isEmpty) = decide (1 ≤ k ∧ k ≤ 7) := by
  unfold nameK
  by_cases h : 0 < k ∧ k < 8
  · rw [if_pos h, named _ (by omega)]
    congr 1
    apply propext
    omega
  · rw [if_neg h, decide_eq_false (by omega), ByteArray.toList_eq]
    rfl
theorem known_any (k : Int) (w : World) (hw : Okd w) : Calls Tryd.prog 56 #[.int .i64 k] w fun e w' => e = .returned (.bool (decide (1 ≤ k ∧ k ≤ 7))) ∧ w = w' := by
  have HN := Lib.hid (name_any k w hw)
  have HE := Lib.hid (name_there k)
  clear hw
  generalize nameK k = x at *
  go_enter Tryd.func56, Tryd.ntmps56
  go_wp2_with fail
  refine HN.out.mono ?_
  rintro e w' ⟨rfl, rfl⟩
  go_wp2
  go_ret
  exact ⟨ret_bool HE.out, rfl⟩
end Go.Proofs.YtahejekcfgkiaaaDoor.objs

/-
  A list of objects that came in, and what a copy of it leaves. No condition.
-/
namespace Go.Proofs.YtahejekcfgkiaaaDoor.objs
open Go.RowKit Go.ChangeShapes
set_option linter.unusedVariables false

/-- An int. -/
def I64 (n : Int) : Prop := -9223372036854775808 ≤ n ∧ n ≤ 9223372036854775807
def Ints (l : List De) : Prop := ∀ j, j < l.length → I64 (l.getD j zero).1 ∧ I64 (l.getD j zero).2.1 ∧ I64 (l.getD j zero).2.2
/-- A list that came in: of at most a hundred, or the first hundred of it. -/
def LIn (w : World) (A : Option Addr) (n cap : Nat) (l : List De) : Prop := (A = none → n = 0 ∧ cap = 0) ∧ n ≤ cap ∧ cap ≤ 9223372036854775807 ∧ DAt w A l ∧ Ints l ∧ l.length = min n 100
theorem own_new (W : World) : Own (W.alloc (.cells #[] 41)) W.heap.size (.slice (some ⟨W.heap.size, 0, none⟩) 0 0) [] := Own.empty (heap_alloc_new W _)
/-- Behind the copy: what is as it was, and the copy. -/
theorem own_copy {w W W2 : World} {A : Option Addr} {l : List De} {v2 : Value} {r : Option Nat} (hA : DAt w A l) (hb : Below w.heap.size w W) (h1 : Own W2 W.heap.size v2 l) (hg : (W.alloc (.cells #[] 41)).grownBy W2 r) (hr : ∀ k, r = some k → k = W.heap.size) :
    Below w.heap.size w W2 ∧ DAt W2 A l ∧ ∃ A2 c2, v2 = .slice A2 l.length c2 ∧ DAt W2 A2 l := by
  have hb2 : Below w.heap.size w W2 := (hb.alloc hb.size _).grown hg (by simp; have := hb.size; omega) (fun k e => by rw [hr k e]; exact hb.size)
  obtain ⟨A2, c2, rfl⟩ := h1.slice
  exact ⟨hb2, hA.next hb2, A2, c2, rfl, h1.at⟩

theorem DAt.two {w : World} {g : Nat} {d e : De} (h : w.heap[g]? = some (.cells #[.int .i64 d.1, .int .i64 d.2.1, .int .i64 d.2.2, .int .i64 e.1, .int .i64 e.2.1, .int .i64 e.2.2] 41 (0, 0))) : DAt w (some ⟨g, 0, none⟩) [d, e] := fun j hj => by
  have hj2 : j < 2 := hj
  refine ⟨g, 0, rfl, lt_of_block h, ?_⟩
  unfold CellsAt World.cell?
  rw [h]
  match j, hj2 with
  | 0, _ => exact ⟨rfl, rfl, rfl⟩
  | 1, _ => exact ⟨rfl, rfl, rfl⟩
end Go.Proofs.YtahejekcfgkiaaaDoor.objs

/-
  What is wrong with a wait, its bytes, the wait with which bytes begin, its text, and the objects of a kind of needs: plain mathematics of lists and numbers. No condition.
-/
namespace Go.Proofs.YtahejekcfgkiaaaDoor.need
open Go.Proofs.YtahejekcfgkiaaaDoor.octet (St rdByte rdNum num num_length_le)
open Go.Proofs.YtahejekcfgkiaaaDoor.objs (De zero rdN)
set_option linter.unusedVariables false

/-- The kind of object that a kind of need asks. -/
def kn (k : Int) : Int := if k = 1 then 1 else if k = 2 ∨ k = 3 then 2 else if k = 4 then 3 else 6
def lo (n : De) : Int := if n.1 = 4 ∨ n.1 = 5 then 1 else 0
def hi (d : List De) (n : De) : Int := if n.1 = 4 then (d.getD n.2.1.toNat zero).2.2 else if n.1 = 5 then (d.getD n.2.1.toNat zero).2.1 else 0
/-- What is wrong with a need (its kind, the object, the number). -/
def oneN (d : List De) (n : De) : Nat :=
  if n.1 < 1 ∨ 5 < n.1 then 6
  else if n.2.1 < 0 ∨ (d.length : Int) ≤ n.2.1 ∨ (d.getD n.2.1.toNat zero).1 ≠ kn n.1 then 1
  else if n.2.2 < lo n ∨ hi d n < n.2.2 then 1 else 0
/-- Two needs that may not stand in one way. -/
def clash (a b : De) : Bool := a.2.1 == b.2.1 || (a.1 == 4 || b.1 == 4)
def ones (d : List De) : List De → Nat
  | [] => 0
  | n :: l => if oneN d n ≠ 0 then oneN d n else ones d l
/-- Is there a clash of the k-th one with one of the first j? -/
def clashTo (l : List De) (k : Nat) : Nat → Bool
  | 0 => false
  | j + 1 => clashTo l k j || clash (l.getD j zero) (l.getD k zero)
def twiceTo (l : List De) : Nat → Bool
  | 0 => false
  | k + 1 => twiceTo l k || clashTo l k k
def chkWay (d l : List De) : Nat :=
  if l.length = 0 then 2 else if 4 < l.length then 4 else if ones d l ≠ 0 then ones d l else if twiceTo l l.length then 2 else 0
def ways (d : List De) : List (List De) → Nat
  | [] => 0
  | l :: w => if chkWay d l ≠ 0 then chkWay d l else ways d w
/-- What is wrong with a wait. -/
def chkW (d : List De) (w : List (List De)) : Nat := if w.length = 0 then 2 else if 4 < w.length then 4 else ways d w

theorem oneN_le (d : List De) (n : De) : oneN d n ≤ 6 := by
  unfold oneN
  split
  · omega
  · split
    · omega
    · split <;> omega
theorem ones_le (d l : List De) : ones d l ≤ 6 := by
  induction l with
  | nil => simp [ones]
  | cons n l ih =>
    unfold ones
    split
    · exact oneN_le d n
    · exact ih
theorem chkWay_le (d l : List De) : chkWay d l ≤ 6 := by
  unfold chkWay
  split
  · omega
  · split
    · omega
    · split
      · exact ones_le d l
      · split <;> omega
theorem ones_drop {d l : List De} {k : Nat} (h : k < l.length) : ones d (l.drop k) = if oneN d (l.getD k zero) ≠ 0 then oneN d (l.getD k zero) else ones d (l.drop (k + 1)) := by
  rw [List.drop_eq_getElem_cons h]
  have e : l.getD k zero = l[k] := by rw [List.getD_eq_getElem?_getD, List.getElem?_eq_getElem h]; rfl
  rw [e]
  rfl
theorem ways_drop {d : List De} {w : List (List De)} {k : Nat} (h : k < w.length) : ways d (w.drop k) = if chkWay d (w.getD k []) ≠ 0 then chkWay d (w.getD k []) else ways d (w.drop (k + 1)) := by
  rw [List.drop_eq_getElem_cons h]
  have e : w.getD k [] = w[k] := by rw [List.getD_eq_getElem?_getD, List.getElem?_eq_getElem h]; rfl
  rw [e]
  rfl
theorem ones_zero {d l : List De} (h : ones d l = 0) : ∀ n ∈ l, oneN d n = 0 := by
  induction l with
  | nil => intro n hn; cases hn
  | cons m l ih =>
    unfold ones at h
    by_cases hm : oneN d m ≠ 0
    · rw [if_pos hm] at h
      exact absurd h hm
    · rw [if_neg hm] at h
      intro n hn
      rcases List.mem_cons.1 hn with rfl | hn
      · omega
      · exact ih h n hn
theorem ways_zero {d : List De} {w : List (List De)} (h : ways d w = 0) : ∀ l ∈ w, chkWay d l = 0 := by
  induction w with
  | nil => intro n hn; cases hn
  | cons m l ih =>
    unfold ways at h
    by_cases hm : chkWay d m ≠ 0
    · rw [if_pos hm] at h
      exact absurd h hm
    · rw [if_neg hm] at h
      intro n hn
      rcases List.mem_cons.1 hn with rfl | hn
      · omega
      · exact ih h n hn
theorem chkWay_zero {d l : List De} (h : chkWay d l = 0) : 0 < l.length ∧ l.length ≤ 4 ∧ ∀ n ∈ l, oneN d n = 0 := by
  unfold chkWay at h
  split at h
  · cases h
  · split at h
    · cases h
    · split at h
      · omega
      · rename_i h1 h2 h3
        exact ⟨by omega, by omega, ones_zero (by omega)⟩
theorem chkW_zero {d : List De} {w : List (List De)} (h : chkW d w = 0) : 0 < w.length ∧ w.length ≤ 4 ∧ ∀ l ∈ w, 0 < l.length ∧ l.length ≤ 4 ∧ ∀ n ∈ l, oneN d n = 0 := by
  unfold chkW at h
  split at h
  · cases h
  · split at h
    · cases h
    · rename_i h1 h2
      exact ⟨by omega, by omega, fun l hl => chkWay_zero (ways_zero h l hl)⟩
/-- A need that may be has small numbers. -/
theorem oneN_zero {d : List De} {n : De} (h : oneN d n = 0) : (1 ≤ n.1 ∧ n.1 ≤ 5) ∧ (0 ≤ n.2.1 ∧ n.2.1 < (d.length : Int)) ∧ (n.1 ≤ 3 → n.2.2 = 0) ∧ 0 ≤ n.2.2 ∧ n.2.2 ≤ hi d n := by
  unfold oneN at h
  split at h
  · cases h
  · split at h
    · cases h
    · split at h
      · cases h
      · rename_i h1 h2 h3
        refine ⟨by omega, by omega, fun h4 => ?_, ?_, by omega⟩
        · have e1 : lo n = 0 := by unfold lo; rw [if_neg (by omega)]
          have e2 : hi d n = 0 := by unfold hi; rw [if_neg (by omega), if_neg (by omega)]
          omega
        · have e1 : 0 ≤ lo n := by unfold lo; split <;> omega
          omega

/-- The bytes of a need. -/
def pieceN (k n : Int) : List UInt8 := if 3 < k then num n.toNat else []
def encN (n : De) : List UInt8 := UInt8.ofNat n.1.toNat :: (num n.2.1.toNat ++ pieceN n.1 n.2.2)
def encNs (l : List De) : Nat → List UInt8
  | 0 => []
  | k + 1 => encNs l k ++ encN (l.getD k zero)
def encWay (l : List De) : List UInt8 := num l.length ++ encNs l l.length
def encWs (w : List (List De)) : Nat → List UInt8
  | 0 => []
  | k + 1 => encWs w k ++ encWay (w.getD k [])
def encW (w : List (List De)) : List UInt8 := num w.length ++ encWs w w.length
theorem encN_le (n : De) : (encN n).length ≤ 21 := by
  have h1 := num_length_le n.2.1.toNat
  have h2 : (pieceN n.1 n.2.2).length ≤ 10 := by
    unfold pieceN
    split
    · exact num_length_le _
    · simp
  simp only [encN, List.length_cons, List.length_append]
  omega
theorem encNs_le (l : List De) : ∀ j, (encNs l j).length ≤ 21 * j := by
  intro j
  induction j with
  | zero => simp [encNs]
  | succ j ih =>
    have := encN_le (l.getD j zero)
    simp only [encNs, List.length_append]
    omega
theorem encWay_le {l : List De} (h : l.length ≤ 6) : (encWay l).length ≤ 136 := by
  have h1 := num_length_le l.length
  have h2 := encNs_le l l.length
  simp only [encWay, List.length_append]
  omega
theorem encWs_le {w : List (List De)} (h : ∀ l ∈ w, l.length ≤ 6) : ∀ j, j ≤ w.length → (encWs w j).length ≤ 136 * j := by
  intro j
  induction j with
  | zero => intro _; simp [encWs]
  | succ j ih =>
    intro hj
    have h1 := ih (by omega)
    have h2 : (encWay (w.getD j [])).length ≤ 136 := encWay_le (by
      rw [List.getD_eq_getElem?_getD, List.getElem?_eq_getElem (by omega), Option.getD_some]
      exact h _ (List.getElem_mem _))
    simp only [encWs, List.length_append]
    omega

/-- A number that only some kinds have. -/
def rdC (k : Nat) (s : St) : Int × St := if 3 < k then rdN s else (0, s)
/-- A need that is read: what is left, and what is wrong. -/
def rdNeed (s : St) : De × St × Nat :=
  let y := rdByte s
  if y.2.err = 0 ∧ (y.1 < 1 ∨ 5 < y.1) then (zero, y.2, 6)
  else (((y.1 : Int), (rdN y.2).1, (rdC y.1 (rdN y.2).2).1), (rdC y.1 (rdN y.2).2).2, (rdC y.1 (rdN y.2).2).2.err)
def rdNeeds (s : St) : Nat → List De × St × Nat
  | 0 => ([], s, 0)
  | j + 1 =>
    let p := rdNeeds s j
    if p.2.2 ≠ 0 then p
    else if (rdNeed p.2.1).2.2 ≠ 0 then ([], (rdNeed p.2.1).2.1, (rdNeed p.2.1).2.2)
    else (p.1 ++ [(rdNeed p.2.1).1], (rdNeed p.2.1).2.1, 0)
def rdWay (s : St) : List De × St × Nat :=
  if 4 < (rdNum s).1 then ([], (rdNum s).2, 4) else if (rdNum s).2.err ≠ 0 then ([], (rdNum s).2, (rdNum s).2.err) else rdNeeds (rdNum s).2 (rdNum s).1
def rdWays (s : St) : Nat → List (List De) × St × Nat
  | 0 => ([], s, 0)
  | j + 1 =>
    let p := rdWays s j
    if p.2.2 ≠ 0 then p
    else if (rdWay p.2.1).2.2 ≠ 0 then ([], (rdWay p.2.1).2.1, (rdWay p.2.1).2.2)
    else (p.1 ++ [(rdWay p.2.1).1], (rdWay p.2.1).2.1, 0)
def readW (d : List De) (s : St) : List (List De) × St × Nat :=
  if 4 < (rdNum s).1 then ([], (rdNum s).2, 4) else if (rdNum s).2.err ≠ 0 then ([], (rdNum s).2, (rdNum s).2.err)
  else
    let p := rdWays (rdNum s).2 (rdNum s).1
    if p.2.2 ≠ 0 then ([], p.2.1, p.2.2)
    else if chkW d p.1 ≠ 0 then ([], p.2.1, chkW d p.1)
    else (p.1, p.2.1, 0)
/-- The wait with which bytes begin, how many bytes it has, the first error. -/
def getW (d : List De) (l : List UInt8) : List (List De) × Nat × Nat :=
  let r := readW d ⟨l, 0⟩
  if r.2.2 ≠ 0 then ([], 0, r.2.2) else (r.1, l.length - r.2.1.rest.length, 0)

/-- A number in decimals. -/
def digs (n : Nat) : List UInt8 := if h : n < 10 then [UInt8.ofNat (48 + n)] else digs (n / 10) ++ [UInt8.ofNat (48 + n % 10)]
termination_by n
decreasing_by omega
def intT (n : Int) : List UInt8 := if n < 0 then 45 :: digs (-n).toNat else digs n.toNat
theorem digs_small {n : Nat} (h : n < 10) : digs n = [UInt8.ofNat (48 + n)] := by unfold digs; rw [dif_pos h]
theorem digs_big {n : Nat} (h : ¬ n < 10) : digs n = digs (n / 10) ++ [UInt8.ofNat (48 + n % 10)] := by
  conv => lhs; unfold digs
  rw [dif_neg h]
theorem digs_le : ∀ k n, n < 10 ^ k → (digs n).length ≤ k + 1 := by
  intro k
  induction k with
  | zero =>
    intro n hn
    have : n < 1 := by simpa using hn
    rw [digs_small (by omega)]
    simp
  | succ k ih =>
    intro n hn
    by_cases h : n < 10
    · rw [digs_small h]; simp
    · rw [digs_big h, List.length_append]
      have h1 : n / 10 < 10 ^ k := by
        rw [Nat.pow_succ] at hn
        omega
      have := ih _ h1
      simp
      omega
theorem digs_64 {n : Nat} (h : n ≤ 9223372036854775808) : (digs n).length ≤ 20 := digs_le 19 n (by
  have : (10 : Nat) ^ 19 = 10000000000000000000 := by decide
  omega)
theorem intT_le {n : Int} (h : -9223372036854775808 ≤ n ∧ n ≤ 9223372036854775807) : (intT n).length ≤ 21 := by
  unfold intT
  split
  · have := digs_64 (n := (-n).toNat) (by omega)
    simp
    omega
  · have := digs_64 (n := n.toNat) (by omega)
    omega
/-- A kind's word. -/
def word (k : Int) : List UInt8 := if k = 1 then [108, 111, 99, 107] else if k = 2 then [114, 101, 97, 100] else if k = 3 then [119, 114, 105, 116, 101] else if k = 4 then [100, 111, 119, 110] else if k = 5 then [116, 97, 107, 101] else [110, 111, 110, 101]
theorem word_le (k : Int) : (word k).length ≤ 5 := by
  unfold word
  split
  · decide
  · split
    · decide
    · split
      · decide
      · split
        · decide
        · split <;> decide
def tailT (k n : Int) : List UInt8 := if k = 4 ∨ k = 5 then 58 :: intT n else []
def needT (n : De) : List UInt8 := word n.1 ++ [32] ++ intT n.2.1 ++ tailT n.1 n.2.2
def needsT (l : List De) : Nat → List UInt8
  | 0 => []
  | k + 1 => needsT l k ++ (if 0 < k then [32, 43, 32] else []) ++ needT (l.getD k zero)
def waysT (w : List (List De)) : Nat → List UInt8
  | 0 => []
  | k + 1 => waysT w k ++ (if 0 < k then [32, 124, 32] else []) ++ needsT (w.getD k []) (w.getD k []).length
/-- A wait's text. -/
def textW (w : List (List De)) : List UInt8 := waysT w w.length
def Small (n : De) : Prop := (-9223372036854775808 ≤ n.1 ∧ n.1 ≤ 9223372036854775807) ∧ (-9223372036854775808 ≤ n.2.1 ∧ n.2.1 ≤ 9223372036854775807) ∧ (-9223372036854775808 ≤ n.2.2 ∧ n.2.2 ≤ 9223372036854775807)
theorem needT_le {n : De} (h : Small n) : (needT n).length ≤ 49 := by
  have h1 := word_le n.1
  have h2 := intT_le h.2.1
  have h3 : (tailT n.1 n.2.2).length ≤ 22 := by
    unfold tailT
    split
    · have := intT_le h.2.2
      simp
      omega
    · simp
  simp only [needT, List.length_append, List.length_cons, List.length_nil]
  omega
theorem getD_mem {l : List De} {k : Nat} (h : k < l.length) : l.getD k zero ∈ l := by
  rw [List.getD_eq_getElem?_getD, List.getElem?_eq_getElem h]
  exact List.getElem_mem h
theorem getW_mem {w : List (List De)} {k : Nat} (h : k < w.length) : w.getD k [] ∈ w := by
  rw [List.getD_eq_getElem?_getD, List.getElem?_eq_getElem h]
  exact List.getElem_mem h
theorem needsT_le {l : List De} (h : ∀ n ∈ l, Small n) : ∀ j, j ≤ l.length → (needsT l j).length ≤ 52 * j := by
  intro j
  induction j with
  | zero => intro _; simp [needsT]
  | succ j ih =>
    intro hj
    have h1 := ih (by omega)
    have h2 := needT_le (h _ (getD_mem (l := l) (k := j) (by omega)))
    have h3 : (if 0 < j then ([32, 43, 32] : List UInt8) else []).length ≤ 3 := by split <;> simp
    simp only [needsT, List.length_append]
    omega
theorem waysT_le {w : List (List De)} (h : ∀ l ∈ w, l.length ≤ 6 ∧ ∀ n ∈ l, Small n) : ∀ j, j ≤ w.length → (waysT w j).length ≤ 315 * j := by
  intro j
  induction j with
  | zero => intro _; simp [waysT]
  | succ j ih =>
    intro hj
    have h1 := ih (by omega)
    have hm := h _ (getW_mem (w := w) (k := j) (by omega))
    have h2 := needsT_le hm.2 _ (Nat.le_refl _)
    have h4 := hm.1
    have h3 : (if 0 < j then ([32, 124, 32] : List UInt8) else []).length ≤ 3 := by split <;> simp
    simp only [waysT, List.length_append]
    omega
end Go.Proofs.YtahejekcfgkiaaaDoor.need

/-
  A wait as it lies in memory, wherever it came from; a row of needs, and a row of ways, that a call owns. No condition.
-/
namespace Go.Proofs.YtahejekcfgkiaaaDoor.need
open Go.RowKit Go.ChangeShapes
open Go.Proofs.YtahejekcfgkiaaaDoor.objs (De zero CellsAt DAt flat flat_append flat_length flat_at flat_oneCell src_cells I64 Ints)
set_option linter.unusedVariables false

/-- A slice's value of objects, nil or a row of the call's own. -/
def OwnN (w : World) (base : Nat) (v : Value) (l : List De) : Prop := w.ownsRow base 72 3 v l.length (flat l)
theorem OwnN.nil (w : World) (base : Nat) : OwnN w base (.slice none 0 0) [] := World.ownsRow_nil ..
theorem OwnN.empty {w : World} {g : Nat} (h : w.heap[g]? = some (.cells #[] 72 (0, 0))) : OwnN w g (.slice (some ⟨g, 0, none⟩) 0 0) [] :=
  ⟨rfl, .inr ⟨g, 0, #[], rfl, Nat.le_refl _, h, Nat.le_refl _, Nat.zero_le _, rfl, rfl⟩⟩
theorem OwnN.slice {w : World} {base : Nat} {v : Value} {l : List De} (h : OwnN w base v l) : ∃ A cap, v = .slice A l.length cap := by
  rcases h.2 with ⟨rfl, h0⟩ | ⟨g, cap, cur, rfl, _⟩
  · exact ⟨none, 0, by rw [h0]⟩
  · exact ⟨_, _, rfl⟩
theorem OwnN.at {w : World} {base cap : Nat} {A : Option Addr} {l : List De} {n : Nat} (h : OwnN w base (.slice A n cap) l) : DAt w A l := by
  intro j hj
  rcases h.2 with ⟨e, h0⟩ | ⟨g, cap', cur, e, hb, hh, _⟩
  · omega
  · injection e with e1 e2 e3
    subst e1
    obtain ⟨h1, h2, h3⟩ := flat_at l j hj
    refine ⟨g, 0, rfl, lt_of_block hh, ?_, ?_, ?_⟩
    · have := World.ownsRow.cells h (g := g) rfl _ _ h1
      rw [Addr.add_lit] at this
      simpa using this
    · have := World.ownsRow.cells h (g := g) rfl _ _ h2
      rw [Addr.add_lit] at this
      simpa using this
    · have := World.ownsRow.cells h (g := g) rfl _ _ h3
      rw [Addr.add_lit] at this
      simpa using this
theorem OwnN.keep {w w' : World} {base : Nat} {v : Value} {l : List De} (h : OwnN w base v l) (hk : ∀ g, v.ownBlock = some g → w'.heap[g]? = w.heap[g]?) : OwnN w' base v l := by
  refine ⟨h.1, h.2.imp id ?_⟩
  rintro ⟨g, c, cur, rfl, hb, hh, r⟩
  exact ⟨g, c, cur, rfl, hb, (hk g rfl).trans hh, r⟩
theorem OwnN.lt {w : World} {base g : Nat} {v : Value} {l : List De} (h : OwnN w base v l) (hg : v.ownBlock = some g) : base ≤ g ∧ g < w.heap.size := World.ownsRow.lt h g hg
theorem OwnN.next {w w' : World} {base : Nat} {v : Value} {l : List De} (h : OwnN w base v l) (hb : Below w.heap.size w w') : OwnN w' base v l := h.keep fun g hg => hb.block g (h.lt hg).2
theorem OwnN.base {w : World} {base base' : Nat} {v : Value} {l : List De} (h : OwnN w base v l) (hb : base' ≤ base) : OwnN w base' v l := by
  refine ⟨h.1, h.2.imp id ?_⟩
  rintro ⟨g, c, cur, e, hb1, r⟩
  exact ⟨g, c, cur, e, Nat.le_trans hb hb1, r⟩

theorem infoN : (Tryd.prog.info? 72).map (fun i => (i.zero, i.size, i.bytes)) = some (some (.agg #[.int .i64 0, .int .i64 0, .int .i64 0]), 3, 24) := by kernel_rfl

/-- A list that lies anywhere, put behind a row of a call's own. -/
theorem run_appN (w : World) (ty : TypeId) (base m c : Nat) (v : Value) (A : Option Addr) (l r : List De) (hrow : OwnN w base v l) (hm : m = r.length) (hA : A = none → r = [] ∧ c = 0) (hsrc : DAt w A r) (hlen : l.length + r.length ≤ 100000) (hbase : base ≤ w.heap.size) :
    ∃ v' w', (Builtin.append_ #[70, 70] ty #[v, .slice A m c]).run Tryd.prog w = .ok v' w' ∧ OwnN w' base v' (l ++ r) ∧ w.grownBy w' v.ownBlock := by
  subst hm
  obtain ⟨i, hi, hz0, hz1, hz2⟩ := info_parts infoN
  cases A with
  | none =>
    obtain ⟨rfl, rfl⟩ := hA rfl
    refine ⟨v, w, run_append_owned_none (P := Tryd.prog) (w := w) base 70 ty 72 i 3 Tryd.underlying70 hi v l.length (flat l) hrow, ?_, ⟨rfl, rfl, rfl, Nat.le_refl _, fun _ _ _ => rfl⟩⟩
    rw [List.append_nil]
    exact hrow
  | some ad =>
    obtain ⟨v', w', h1, h2, h3, _⟩ := run_append_own (P := Tryd.prog) w base 70 ty 72 i _ 3 24 Tryd.underlying70 hi hz0 hz1 hz2 rfl (by omega) v l.length (flat l) hrow ad r.length c (flat r) (flat_length r) (src_cells hsrc) (flat_oneCell r) (by unfold maxLen; omega) (by omega) hbase
    refine ⟨v', w', h1, ?_, h3⟩
    unfold OwnN
    rw [List.length_append, flat_append]
    exact h2
theorem wp_appN {o : Oper} {a : Act} {w : World} {K : Act → World → Prop} {Q : Exit → Act → World → Prop} (s x : Operand)
    (ho : o.op = .call { callee := .builtin .append, args := #[s, x], argTypes := #[70, 70] }) (base m c : Nat) (v : Value) (A : Option Addr) (l r : List De)
    (hs : a.eval s = v) (hrow : OwnN w base v l) (hx : a.eval x = .slice A m c) (hm : m = r.length) (hA : A = none → r = [] ∧ c = 0) (hsrc : DAt w A r) (hlen : l.length + r.length ≤ 100000) (hbase : base ≤ w.heap.size)
    (h : ∀ v' w', OwnN w' base v' (l ++ r) → w.grownBy w' v.ownBlock → K (a.put o.dst v') w') : o.wp Tryd.prog a w K Q := by
  obtain ⟨v', w', hr, h2, h3⟩ := run_appN w o.type base m c v A l r hrow hm hA hsrc hlen hbase
  unfold Oper.wp execOp
  simp only [ho, resolve, invoke, builtin, Sem.run_bind, Sem.run_pure, Result.andThen_ok, List.map_toArray, List.map_cons, List.map_nil, hs, hx, hr]
  exact h v' w' h2 h3
theorem wpList_appN {ops : Array Oper} {rest : List Oper} {o : Oper} {a : Act} {w : World} {Q : Exit → Act → World → Prop} (hgd : o.guard = none) (s x : Operand)
    (ho : o.op = .call { callee := .builtin .append, args := #[s, x], argTypes := #[70, 70] }) (base m c : Nat) (v : Value) (A : Option Addr) (l r : List De)
    (hs : a.eval s = v) (hrow : OwnN w base v l) (hx : a.eval x = .slice A m c) (hm : m = r.length) (hA : A = none → r = [] ∧ c = 0) (hsrc : DAt w A r) (hlen : l.length + r.length ≤ 100000) (hbase : base ≤ w.heap.size)
    (h : ∀ v' w', OwnN w' base v' (l ++ r) → w.grownBy w' v.ownBlock → wpList Tryd.prog ops Q rest (a.put o.dst v') w') : wpList Tryd.prog ops Q (o :: rest) a w :=
  wpList_plain hgd fun _ hK => wp_appN s x ho base m c v A l r hs hrow hx hm hA hsrc hlen hbase fun v' w' h2 h3 => hK _ _ (h v' w' h2 h3)
theorem step_appN {ops : Array Oper} {o : Oper} {a : Act} {w : World} {K : Act → World → Prop} {Q : Exit → Act → World → Prop} {E : Prop} (hgd : o.guard = none) (s x : Operand)
    (ho : o.op = .call { callee := .builtin .append, args := #[s, x], argTypes := #[70, 70] }) (base m c : Nat) (v : Value) (A : Option Addr) (l r : List De)
    (hs : a.eval s = v) (hrow : OwnN w base v l) (hx : a.eval x = .slice A m c) (hm : m = r.length) (hA : A = none → r = [] ∧ c = 0) (hsrc : DAt w A r) (hlen : l.length + r.length ≤ 100000) (hbase : base ≤ w.heap.size)
    (h : ∀ v' w', OwnN w' base v' (l ++ r) → w.grownBy w' v.ownBlock → K (a.put o.dst v') w') :
    if Region.wanted o (yielded ops a.tmps) = true then Oper.wp Tryd.prog o a w K Q else E := by
  have hw : Region.wanted o (yielded ops a.tmps) = true := by simp [Region.wanted, hgd]
  rw [if_pos hw]
  exact wp_appN s x ho base m c v A l r hs hrow hx hm hA hsrc hlen hbase h
theorem DAt.oneN {w : World} {g : Nat} {d : De} (h : w.heap[g]? = some (.cells #[.int .i64 d.1, .int .i64 d.2.1, .int .i64 d.2.2] 72 (0, 0))) : DAt w (some ⟨g, 0, none⟩) [d] := fun j hj => by
  obtain rfl : j = 0 := by simpa using hj
  refine ⟨g, 0, rfl, lt_of_block h, ?_, ?_, ?_⟩
  all_goals
    unfold World.cell?
    rw [h]
    rfl
/-- What a row of needs holds: its block is one of needs. -/
theorem OwnN.kind {w : World} {base g : Nat} {v : Value} {l : List De} (h : OwnN w base v l) (hg : v.ownBlock = some g) : ∃ cur, w.heap[g]? = some (.cells cur 72 (0, 0)) := by
  rcases h.2 with ⟨rfl, _⟩ | ⟨g', cap, cur, rfl, _, hh, _⟩
  · cases hg
  · simp [Value.ownBlock] at hg
    subst hg
    exact ⟨cur, hh⟩

/-- A list of ways, each a list of needs, from where a slice begins: all of it. -/
def WAt (w : World) (A : Option Addr) (l : List (List De)) : Prop :=
  ∀ j, j < l.length → ∃ b off Aj cj, A = some ⟨b, off, none⟩ ∧ b < w.heap.size ∧ w.cell? ⟨b, off + j, none⟩ = some (.slice Aj (l.getD j []).length cj) ∧ DAt w Aj (l.getD j [])
theorem WAt.next {w w' : World} {A : Option Addr} {l : List (List De)} (h : WAt w A l) (hb : Below w.heap.size w w') : WAt w' A l := fun j hj => by
  obtain ⟨b, off, Aj, cj, h1, h2, h3, h4⟩ := h j hj
  exact ⟨b, off, Aj, cj, h1, Nat.lt_of_lt_of_le h2 hb.size, (hb.cell (p := ⟨b, off + j, none⟩) h2).trans h3, h4.next hb⟩
theorem WAt.drew {w : World} {A : Option Addr} {l : List (List De)} (h : WAt w A l) : WAt w.drew A l := h
theorem WAt.drewN {w : World} {A : Option Addr} {l : List (List De)} (h : WAt w A l) : ∀ n, WAt (w.drewN n) A l
  | 0 => h
  | n + 1 => (WAt.drewN h n).drew
theorem WAt.nil (w : World) (A : Option Addr) : WAt w A [] := fun j hj => absurd hj (Nat.not_lt_zero j)
/-- The first six ways of a list, of each the first six needs, and how many there are. -/
def WG (w : World) (A : Option Addr) (n : Nat) (l : List (List De)) : Prop :=
  l.length = min n 6 ∧ ∀ j, j < l.length → ∃ b off Aj nj cj, A = some ⟨b, off, none⟩ ∧ b < w.heap.size ∧ w.cell? ⟨b, off + j, none⟩ = some (.slice Aj nj cj) ∧ DAt w Aj (l.getD j []) ∧ (l.getD j []).length = min nj 6 ∧ nj ≤ cj ∧ cj ≤ 9223372036854775807 ∧ (Aj = none → nj = 0 ∧ cj = 0)
theorem WG.next {w w' : World} {A : Option Addr} {n : Nat} {l : List (List De)} (h : WG w A n l) (hb : Below w.heap.size w w') : WG w' A n l := ⟨h.1, fun j hj => by
  obtain ⟨b, off, Aj, nj, cj, h1, h2, h3, h4, h5⟩ := h.2 j hj
  exact ⟨b, off, Aj, nj, cj, h1, Nat.lt_of_lt_of_le h2 hb.size, (hb.cell (p := ⟨b, off + j, none⟩) h2).trans h3, h4.next hb, h5⟩⟩
/-- One that is no longer is there whole. -/
theorem WG.whole {w : World} {A : Option Addr} {n : Nat} {l : List (List De)} (h : WG w A n l) (hl : l.length ≤ 5) (hw : ∀ x ∈ l, x.length ≤ 5) : n = l.length ∧ WAt w A l := by
  refine ⟨by have := h.1; omega, fun j hj => ?_⟩
  obtain ⟨b, off, Aj, nj, cj, h1, h2, h3, h4, h5, _⟩ := h.2 j hj
  have hm := hw _ (getW_mem hj)
  have : nj = (l.getD j []).length := by omega
  subst this
  exact ⟨b, off, Aj, cj, h1, h2, h3, h4⟩

/-- A row of ways that a call owns, each of them a row of needs of the call's own. -/
def OwnW (W : World) (base : Nat) (v : Value) (l : List (List De)) : Prop :=
  ∃ xs : List Value, W.ownsRow base 70 1 v l.length xs ∧ ∀ j, j < l.length → ∃ x, xs[j]? = some x ∧ OwnN W base x (l.getD j [])
theorem OwnW.slice {w : World} {base : Nat} {v : Value} {l : List (List De)} (h : OwnW w base v l) : ∃ A cap, v = .slice A l.length cap := by
  obtain ⟨xs, h1, _⟩ := h
  rcases h1.2 with ⟨rfl, h0⟩ | ⟨g, cap, cur, rfl, _⟩
  · exact ⟨none, 0, by rw [h0]⟩
  · exact ⟨_, _, rfl⟩
theorem OwnW.next {w w' : World} {base : Nat} {v : Value} {l : List (List De)} (h : OwnW w base v l) (hb : Below w.heap.size w w') : OwnW w' base v l := by
  obtain ⟨xs, h1, h2⟩ := h
  refine ⟨xs, ?_, fun j hj => ?_⟩
  · refine ⟨h1.1, h1.2.imp id ?_⟩
    rintro ⟨g, c, cur, rfl, hg, hh, r⟩
    exact ⟨g, c, cur, rfl, hg, (hb.block g (lt_of_block hh)).trans hh, r⟩
  · obtain ⟨x, h3, h4⟩ := h2 j hj
    exact ⟨x, h3, h4.next hb⟩
theorem OwnW.nil (w : World) (base : Nat) : OwnW w base (.slice none 0 0) [] := ⟨[], World.ownsRow_nil .., fun j hj => absurd hj (Nat.not_lt_zero j)⟩
theorem OwnW.empty {w : World} {g : Nat} (h : w.heap[g]? = some (.cells #[] 70 (0, 0))) : OwnW w g (.slice (some ⟨g, 0, none⟩) 0 0) [] :=
  ⟨[], ⟨rfl, .inr ⟨g, 0, #[], rfl, Nat.le_refl _, h, Nat.le_refl _, Nat.zero_le _, rfl, rfl⟩⟩, fun j hj => absurd hj (Nat.not_lt_zero j)⟩
theorem OwnW.base {w : World} {base base' : Nat} {v : Value} {l : List (List De)} (h : OwnW w base v l) (hb : base' ≤ base) : OwnW w base' v l := by
  obtain ⟨xs, h1, h2⟩ := h
  refine ⟨xs, ⟨h1.1, h1.2.imp id ?_⟩, fun j hj => ?_⟩
  · rintro ⟨g, c, cur, e, hg, r⟩
    exact ⟨g, c, cur, e, Nat.le_trans hb hg, r⟩
  · obtain ⟨x, h3, h4⟩ := h2 j hj
    exact ⟨x, h3, h4.base hb⟩
theorem OwnW.at {w : World} {base cap : Nat} {A : Option Addr} {l : List (List De)} {n : Nat} (h : OwnW w base (.slice A n cap) l) : WAt w A l := by
  intro j hj
  obtain ⟨xs, h1, h2⟩ := h
  obtain ⟨x, h3, h4⟩ := h2 j hj
  rcases h1.2 with ⟨e, h0⟩ | ⟨g, cap', cur, e, hb, hh, _⟩
  · omega
  · injection e with e1 e2 e3
    subst e1
    obtain ⟨Aj, cj, rfl⟩ := h4.slice
    refine ⟨g, 0, Aj, cj, rfl, lt_of_block hh, ?_, h4.at⟩
    have := World.ownsRow.cells h1 (g := g) rfl _ _ h3
    rw [Addr.add_lit] at this
    simpa using this
theorem infoW : (Tryd.prog.info? 70).map (fun i => (i.zero, i.size, i.bytes)) = some (some (.slice none 0 0), 1, 24) := by kernel_rfl

/-- One way, in a block of its own, put behind a row of ways. -/
theorem run_appW (w w1 : World) (ty : TypeId) (base c : Nat) (v x : Value) (l : List (List De)) (r : List De) (hrow : OwnW w base v l) (hx : OwnN w base x r) (hw1 : w1 = w.alloc (.cells #[x] 70)) (hlen : l.length ≤ 1000) (hbase : base ≤ w.heap.size) :
    ∃ v' w', (Builtin.append_ #[43, 43] ty #[v, .slice (some ⟨w.heap.size, 0, none⟩) 1 c]).run Tryd.prog w1 = .ok v' w' ∧ OwnW w' base v' (l ++ [r]) ∧ w1.grownBy w' v.ownBlock := by
  subst hw1
  obtain ⟨i, hi, hz0, hz1, hz2⟩ := info_parts infoW
  obtain ⟨xs, h1, h2⟩ := hrow
  have hb0 : Below w.heap.size w (w.alloc (.cells #[x] 70)) := (Below.refl _ w).alloc (Nat.le_refl _) _
  have hc : (w.alloc (.cells #[x] 70)).cell? ⟨w.heap.size, 0, none⟩ = some x := by
    unfold World.cell?
    rw [heap_alloc_new w _]
    rfl
  have hrow1 : (w.alloc (.cells #[x] 70)).ownsRow base 70 1 v l.length xs := by
    refine ⟨h1.1, h1.2.imp id ?_⟩
    rintro ⟨g, c, cur, rfl, hg, hh, r⟩
    exact ⟨g, c, cur, rfl, hg, (hb0.block g (lt_of_block hh)).trans hh, r⟩
  obtain ⟨Ax, cx, hxs⟩ := hx.slice
  obtain ⟨v', w', r1, r2, r3, _⟩ := run_append_own (P := Tryd.prog) (w.alloc (.cells #[x] 70)) base 43 ty 70 i _ 1 24 Tryd.underlying43 hi hz0 hz1 hz2 rfl (by omega) v l.length xs hrow1 ⟨w.heap.size, 0, none⟩ 1 c [x] rfl (by
      intro j u hu
      rcases j with _ | j
      · simp only [List.getElem?_cons_zero, Option.some.injEq] at hu
        subst hu
        rw [Addr.add_lit]
        exact hc
      · simp at hu) (by
      intro u hu
      simp only [List.mem_singleton] at hu
      subst hu
      rw [hxs]
      rfl) (by unfold maxLen; omega) (by omega) (by simp; omega)
  refine ⟨v', w', r1, ⟨xs ++ [x], ?_, fun j hj => ?_⟩, r3⟩
  · rw [List.length_append]
    exact r2
  · have hlx : xs.length = l.length := by have := h1.1; omega
    have keep : ∀ (y : Value) (r' : List De), OwnN w base y r' → OwnN w' base y r' := fun y r' hy => hy.keep fun g hg => by
      have hlt := (hy.lt hg).2
      obtain ⟨cur, hk⟩ := hy.kind hg
      rw [r3.block g (by have := hb0.size; omega) (fun e => ?_), hb0.block g hlt]
      rcases h1.2 with ⟨rfl, _⟩ | ⟨g', cap', cur', rfl, _, hh, _⟩
      · cases e
      · simp [Value.ownBlock] at e
        subst e
        rw [hk] at hh
        injection hh with hh
        injection hh with _ hh _
        exact absurd hh (by decide)
    rcases Nat.lt_or_ge j l.length with hj2 | hj2
    · obtain ⟨y, h3, h4⟩ := h2 j hj2
      refine ⟨y, by rw [List.getElem?_append_left (by omega)]; exact h3, ?_⟩
      rw [show (l ++ [r]).getD j [] = l.getD j [] from by rw [List.getD_eq_getElem?_getD, List.getD_eq_getElem?_getD, List.getElem?_append_left hj2]]
      exact keep _ _ h4
    · rw [List.length_append] at hj
      obtain rfl : j = l.length := by simp at hj; omega
      refine ⟨x, by rw [List.getElem?_append_right (by omega), hlx, Nat.sub_self]; rfl, ?_⟩
      rw [show (l ++ [r]).getD l.length [] = r from by rw [List.getD_eq_getElem?_getD, List.getElem?_append_right (Nat.le_refl _), Nat.sub_self]; rfl]
      exact keep _ _ hx
theorem wp_appW {o : Oper} {a : Act} {w w1 : World} {K : Act → World → Prop} {Q : Exit → Act → World → Prop} (s y : Operand)
    (ho : o.op = .call { callee := .builtin .append, args := #[s, y], argTypes := #[43, 43] }) (base c : Nat) (v x : Value) (l : List (List De)) (r : List De)
    (hs : a.eval s = v) (hrow : OwnW w base v l) (hy : a.eval y = .slice (some ⟨w.heap.size, 0, none⟩) 1 c) (hx : OwnN w base x r) (hw1 : w1 = w.alloc (.cells #[x] 70)) (hlen : l.length ≤ 1000) (hbase : base ≤ w.heap.size)
    (h : ∀ v' w', OwnW w' base v' (l ++ [r]) → w1.grownBy w' v.ownBlock → K (a.put o.dst v') w') : o.wp Tryd.prog a w1 K Q := by
  obtain ⟨v', w', hr, h2, h3⟩ := run_appW w w1 o.type base c v x l r hrow hx hw1 hlen hbase
  unfold Oper.wp execOp
  simp only [ho, resolve, invoke, builtin, Sem.run_bind, Sem.run_pure, Result.andThen_ok, List.map_toArray, List.map_cons, List.map_nil, hs, hy, hr]
  exact h v' w' h2 h3
theorem wpList_appW {ops : Array Oper} {rest : List Oper} {o : Oper} {a : Act} {w w1 : World} {Q : Exit → Act → World → Prop} (hgd : o.guard = none) (s y : Operand)
    (ho : o.op = .call { callee := .builtin .append, args := #[s, y], argTypes := #[43, 43] }) (base c : Nat) (v x : Value) (l : List (List De)) (r : List De)
    (hs : a.eval s = v) (hrow : OwnW w base v l) (hy : a.eval y = .slice (some ⟨w.heap.size, 0, none⟩) 1 c) (hx : OwnN w base x r) (hw1 : w1 = w.alloc (.cells #[x] 70)) (hlen : l.length ≤ 1000) (hbase : base ≤ w.heap.size)
    (h : ∀ v' w', OwnW w' base v' (l ++ [r]) → w1.grownBy w' v.ownBlock → wpList Tryd.prog ops Q rest (a.put o.dst v') w') : wpList Tryd.prog ops Q (o :: rest) a w1 :=
  wpList_plain hgd fun _ hK => wp_appW s y ho base c v x l r hs hrow hy hx hw1 hlen hbase fun v' w' h2 h3 => hK _ _ (h v' w' h2 h3)
theorem step_appW {ops : Array Oper} {o : Oper} {a : Act} {w w1 : World} {K : Act → World → Prop} {Q : Exit → Act → World → Prop} {E : Prop} (hgd : o.guard = none) (s y : Operand)
    (ho : o.op = .call { callee := .builtin .append, args := #[s, y], argTypes := #[43, 43] }) (base c : Nat) (v x : Value) (l : List (List De)) (r : List De)
    (hs : a.eval s = v) (hrow : OwnW w base v l) (hy : a.eval y = .slice (some ⟨w.heap.size, 0, none⟩) 1 c) (hx : OwnN w base x r) (hw1 : w1 = w.alloc (.cells #[x] 70)) (hlen : l.length ≤ 1000) (hbase : base ≤ w.heap.size)
    (h : ∀ v' w', OwnW w' base v' (l ++ [r]) → w1.grownBy w' v.ownBlock → K (a.put o.dst v') w') :
    if Region.wanted o (yielded ops a.tmps) = true then Oper.wp Tryd.prog o a w1 K Q else E := by
  have hw : Region.wanted o (yielded ops a.tmps) = true := by simp [Region.wanted, hgd]
  rw [if_pos hw]
  exact wp_appW s y ho base c v x l r hs hrow hy hx hw1 hlen hbase h
end Go.Proofs.YtahejekcfgkiaaaDoor.need

/-
  The document's own answer what is wrong with a need. No condition but that a list is no longer than an int can say.
-/
namespace Go.Proofs.YtahejekcfgkiaaaDoor.need
open Go.RowKit Go.ChangeShapes
open Go.Proofs.YtahejekcfgkiaaaDoor.objs (De zero CellsAt DAt below_drewN)
set_option linter.unusedVariables false

theorem ret_int {k : IntKind} {a b : Int} (h : a = b) : Ending.returned (.int k a) = .returned (.int k b) := by rw [h]
def needBox (k o m : Int) : Obj := .cells #[.int .i64 k, .int .i64 o, .int .i64 m] 72
def kindBox : Obj := .cells #[.int .i64 0, .int .i64 1, .int .i64 2, .int .i64 2, .int .i64 3, .int .i64 6] 3
/-- What 'one' answers. -/
def OnePost9 (d : List De) (n : De) (w : World) (e : Ending) (w' : World) : Prop := e = .returned (.int .i64 (oneN d n : Nat)) ∧ Below w.heap.size w w'
theorem nbox_below (w : World) (k a b : Int) : Below w.heap.size w (w.alloc (needBox k a b)) := (Below.refl _ w).alloc (Nat.le_refl _) _

/-- Behind the list of kinds. -/
structure Os (w : World) (A : Option Addr) (d : List De) (g g2 : Nat) (k a b : Int) (W : World) : Prop where
  below : Below w.heap.size w W
  box : W.cell? ⟨g, 0, none⟩ = some (.int .i64 k) ∧ W.cell? ⟨g, 1, none⟩ = some (.int .i64 a) ∧ W.cell? ⟨g, 2, none⟩ = some (.int .i64 b)
  kinds : ∀ j : Nat, 1 ≤ j → j ≤ 5 → W.cell? ⟨g2, j, none⟩ = some (.int .i64 (kn j))
  list : DAt W A d
theorem os_new {w : World} {A : Option Addr} {d : List De} (k a b : Int) (hA : DAt w A d) : Os w A d w.heap.size (w.heap.size + 1) k a b ((w.alloc (needBox k a b)).alloc kindBox) := by
  have hz : (w.alloc (needBox k a b)).heap.size = w.heap.size + 1 := World.size_alloc w _
  have hb : Below w.heap.size w ((w.alloc (needBox k a b)).alloc kindBox) := ((Below.refl _ w).alloc (Nat.le_refl _) _).alloc (by omega) _
  have h0 : ((w.alloc (needBox k a b)).alloc kindBox).heap[w.heap.size]? = some (needBox k a b) := (Below.heap_alloc _ _ _ (by omega)).trans (heap_alloc_new w _)
  have h1 : ((w.alloc (needBox k a b)).alloc kindBox).heap[w.heap.size + 1]? = some kindBox := by rw [← hz]; exact heap_alloc_new _ _
  refine ⟨hb, ?_, fun j h2 h3 => ?_, hA.next hb⟩
  · unfold World.cell?
    rw [h0]
    exact ⟨rfl, rfl, rfl⟩
  · unfold World.cell?
    rw [h1]
    rcases (by omega : j = 1 ∨ j = 2 ∨ j = 3 ∨ j = 4 ∨ j = 5) with rfl | rfl | rfl | rfl | rfl <;> rfl

end Go.Proofs.YtahejekcfgkiaaaDoor.need

/-
  The program's tables of needs lie where their initialisers lay them; with that: whether there is such a kind, whether a kind counts, and how many there may be (typed over the code of 4b95722). The card ties the tables to the program's text.
-/
namespace Go.Proofs.YtahejekcfgkiaaaDoor.need
open Go.RowKit Go.ChangeShapes
open Go.Proofs.YtahejekcfgkiaaaDoor.objs (De zero CellsAt DAt)
set_option linter.unusedVariables false

theorem ret_bool {a b : Bool} (h : a = b) : Ending.returned (.bool a) = .returned (.bool b) := by rw [h]
/-- The words of the kinds, and the kinds of objects that they ask, as the program's tables have them. -/
def namesE : List ByteArray := [⟨#[]⟩, ⟨#[108, 111, 99, 107]⟩, ⟨#[114, 101, 97, 100]⟩, ⟨#[119, 114, 105, 116, 101]⟩, ⟨#[100, 111, 119, 110]⟩, ⟨#[116, 97, 107, 101]⟩]
def askedE : List Int := [0, 1, 2, 2, 3, 6]
/-- The table of what is asked lies where its initialiser lays it, below all that is made. -/
structure Oka (w : World) : Prop where
  ak : ∀ j, j < 6 → w.cell? ⟨0, j, none⟩ = some (.int .i64 (askedE.getD j 0))
  lak : 0 < w.heap.size
theorem Oka.below {B : Nat} {w w' : World} (h : Oka w) (hb : Below B w w') (h2 : 0 < B) : Oka w' :=
  ⟨fun j hj => (hb.cell (p := ⟨0, j, none⟩) h2).trans (h.ak j hj), Nat.lt_of_lt_of_le h.lak hb.size⟩
theorem Oka.next {w w' : World} (h : Oka w) (hb : Below w.heap.size w w') : Oka w' := h.below hb h.lak
theorem asked_kn {k : Nat} (h1 : 1 ≤ k) (h5 : k ≤ 5) : askedE.getD k 0 = kn (k : Int) := by
  have h : k = 1 ∨ k = 2 ∨ k = 3 ∨ k = 4 ∨ k = 5 := by omega
  rcases h with rfl | rfl | rfl | rfl | rfl <;> rfl
theorem names_word {k : Nat} (h1 : 1 ≤ k) (h5 : k ≤ 5) : namesE.getD k ⟨#[]⟩ = ⟨(word (k : Int)).toArray⟩ := by
  have h : k = 1 ∨ k = 2 ∨ k = 3 ∨ k = 4 ∨ k = 5 := by omega
  rcases h with rfl | rfl | rfl | rfl | rfl <;> rfl

theorem known_any (k : Int) (w : World) : Calls Tryd.prog 60 #[.int .i64 k] w fun e w' => e = .returned (.bool (decide (1 ≤ k ∧ k ≤ 5))) ∧ w = w' := by
  by_cases h1 : 1 ≤ k
  · by_cases h2 : k ≤ 5
    · rw [decide_eq_true ⟨h1, h2⟩]
      go_enter Tryd.func60, Tryd.ntmps60
      go_wp2
      go_ret
      exact ⟨rfl, rfl⟩
    · rw [decide_eq_false (fun h => h2 h.2)]
      have hd : decide (k ≤ 5) = false := by simpa using h2
      go_enter Tryd.func60, Tryd.ntmps60
      go_wp2
      go_ret
      exact ⟨rfl, rfl⟩
  · rw [decide_eq_false (fun h => h1 h.1)]
    have hd : decide (1 ≤ k) = false := by simpa using h1
    go_enter Tryd.func60, Tryd.ntmps60
    go_wp2
    go_ret
    exact ⟨rfl, rfl⟩
theorem counts_any (k : Int) (w : World) : Calls Tryd.prog 44 #[.int .i64 k] w fun e w' => e = .returned (.bool (decide (k = 4 ∨ k = 5))) ∧ w = w' := by
  by_cases h4 : k = 4
  · subst h4
    go_enter Tryd.func44, Tryd.ntmps44
    go_wp2
    go_ret
    exact ⟨rfl, rfl⟩
  · have e4 : (k == 4) = false := by simpa using h4
    by_cases h5 : k = 5
    · subst h5
      go_enter Tryd.func44, Tryd.ntmps44
      go_wp2
      go_ret
      exact ⟨rfl, rfl⟩
    · have e5 : (k == 5) = false := by simpa using h5
      rw [decide_eq_false (by omega)]
      go_enter Tryd.func44, Tryd.ntmps44
      go_wp2
      go_ret
      exact ⟨rfl, rfl⟩
/-- What is wrong with how many there are. -/
def manyC (n : Nat) : Nat := if n = 0 then 2 else if 4 < n then 4 else 0
theorem many_any (n : Nat) (w : World) : Calls Tryd.prog 40 #[.int .i64 (n : Int), .int .i64 4] w fun e w' => e = .returned (.int .i64 ((manyC n : Nat) : Int)) ∧ w = w' :=
  Go.Proofs.YtahejekcfgkiaaaDoor.span.count_any n 4 w
end Go.Proofs.YtahejekcfgkiaaaDoor.need

/-
  What the program's calls on programs ask of the world: three tables lie where their initialisers lay them. No condition.
-/
namespace Go.Proofs.YtahejekcfgkiaaaDoor.pgm
open Go.RowKit Go.ChangeShapes
open Go.Proofs.YtahejekcfgkiaaaDoor.objs (Okd)
open Go.Proofs.YtahejekcfgkiaaaDoor.inst (Okw)
open Go.Proofs.YtahejekcfgkiaaaDoor.need (Oka)
set_option linter.unusedVariables false

/-- What the program's calls ask of the world: the three tables lie where they should, below all that is made. -/
structure Okp (w : World) : Prop where
  ins : Okw w
  decl : Okd w
  need : Oka w
/-- A block above the tables. -/
def Past (b : Nat) : Prop := 2 < b ∧ 1 < b ∧ 0 < b
theorem Okp.below {B : Nat} {w w' : World} (h : Okp w) (hb : Below B w w') (hp : Past B) : Okp w' := ⟨h.ins.below hb hp.1, h.decl.below hb hp.2.1, h.need.below hb hp.2.2⟩
theorem Okp.past {w : World} (h : Okp w) : Past w.heap.size := ⟨h.ins.2, h.decl.2, h.need.lak⟩
theorem Okp.next {w w' : World} (h : Okp w) (hb : Below w.heap.size w w') : Okp w' := h.below hb h.past
end Go.Proofs.YtahejekcfgkiaaaDoor.pgm

/-
  What was put of a wait is got again, whatever stands behind; what was got, put, is just the bytes that it had. Plain mathematics; no condition.
-/
namespace Go.Proofs.YtahejekcfgkiaaaDoor.need
open Go.Proofs.YtahejekcfgkiaaaDoor.octet (St rdByte rdNum num num_length_le enc_length_pos)
open Go.Proofs.YtahejekcfgkiaaaDoor.objs (De zero rdN chk chk_zero one one_zero rdNum_back rdN_back rdNum_once rdN_once rdNum_err getD_left getD_last)
set_option linter.unusedVariables false

/-- Of objects that may be: a need that may be has numbers up to a thousand. -/
theorem need_small {d : List De} {n : De} (hd : (chk d).2 = 0) (h : oneN d n = 0) : (1 ≤ n.1 ∧ n.1 ≤ 5) ∧ (0 ≤ n.2.1 ∧ n.2.1 < 32) ∧ (n.1 ≤ 3 → n.2.2 = 0) ∧ 0 ≤ n.2.2 ∧ n.2.2 ≤ 1000 := by
  obtain ⟨h1, h2, h3, h4, h5⟩ := oneN_zero h
  obtain ⟨hl, _, hall⟩ := chk_zero hd
  refine ⟨h1, by omega, h3, h4, ?_⟩
  have hk : (d.getD n.2.1.toNat zero).1 = kn n.1 := by
    unfold oneN at h
    split at h
    · cases h
    · split at h
      · cases h
      · rename_i _ h6
        exact Classical.byContradiction fun h7 => h6 (.inr (.inr h7))
  obtain ⟨_, g3, g6, _, _, _⟩ := one_zero (hall n.2.1.toNat (by omega))
  unfold hi at h5
  by_cases e4 : n.1 = 4
  · rw [if_pos e4] at h5
    have := g3 (by rw [hk]; unfold kn; rw [e4]; decide)
    omega
  · rw [if_neg e4] at h5
    by_cases e5 : n.1 = 5
    · rw [if_pos e5] at h5
      have := g6 (by rw [hk]; unfold kn; rw [e5]; decide)
      omega
    · rw [if_neg e5] at h5
      omega

theorem rdNeed_back {d : List De} {n : De} (hd : (chk d).2 = 0) (h : oneN d n = 0) (more : List UInt8) : rdNeed ⟨encN n ++ more, 0⟩ = (n, ⟨more, 0⟩, 0) := by
  obtain ⟨h1, h2, h3, h4, h5⟩ := need_small hd h
  obtain ⟨k, o, m⟩ := n
  dsimp only at h1 h2 h3 h4 h5
  have hy : rdByte ⟨encN (k, o, m) ++ more, 0⟩ = (k.toNat, ⟨num o.toNat ++ (pieceN k m ++ more), 0⟩) := by
    unfold rdByte encN
    simp only [ne_eq, not_true_eq_false, if_false, List.cons_append, List.append_assoc]
    congr 1
    rw [UInt8.toNat_ofNat']
    omega
  have hA : rdN ⟨num o.toNat ++ (pieceN k m ++ more), 0⟩ = (o, ⟨pieceN k m ++ more, 0⟩) := by
    rw [rdN_back (by omega)]
    congr 1
    omega
  have hB : rdC k.toNat ⟨pieceN k m ++ more, 0⟩ = (m, ⟨more, 0⟩) := by
    unfold rdC pieceN
    by_cases e : 3 < k
    · rw [if_pos (by omega), if_pos e, rdN_back (by omega)]
      congr 1
      omega
    · rw [if_neg (by omega), if_neg e, h3 (by omega)]
      rfl
  unfold rdNeed
  simp only [hy, hA, hB]
  rw [if_neg (by omega)]
  congr 2
  omega
theorem rdNeeds_back {d l : List De} (hd : (chk d).2 = 0) (h : ∀ n ∈ l, oneN d n = 0) : ∀ j, j ≤ l.length → ∀ more, rdNeeds ⟨encNs l j ++ more, 0⟩ j = (l.take j, ⟨more, 0⟩, 0) := by
  intro j
  induction j with
  | zero => intro _ more; rfl
  | succ j ih =>
    intro hj more
    have h1 := ih (by omega) (encN (l.getD j zero) ++ more)
    have h2 := rdNeed_back hd (h _ (getD_mem (l := l) (k := j) (by omega))) more
    simp only [encNs, List.append_assoc, rdNeeds]
    rw [h1]
    simp only [h2]
    rw [if_neg (by decide), if_neg (by decide), List.take_add_one, List.getD_eq_getElem?_getD, List.getElem?_eq_getElem (by omega)]
    rfl
theorem rdWay_back {d l : List De} (hd : (chk d).2 = 0) (hl : l.length ≤ 4) (h : ∀ n ∈ l, oneN d n = 0) (more : List UInt8) : rdWay ⟨encWay l ++ more, 0⟩ = (l, ⟨more, 0⟩, 0) := by
  have hn : rdNum ⟨encWay l ++ more, 0⟩ = (l.length, ⟨encNs l l.length ++ more, 0⟩) := by
    unfold encWay
    rw [List.append_assoc, rdNum_back (by omega)]
  unfold rdWay
  simp only [hn]
  rw [if_neg (by omega), if_neg (by decide), rdNeeds_back hd h l.length (Nat.le_refl _) more, List.take_length]
theorem rdWays_back {d : List De} {w : List (List De)} (hd : (chk d).2 = 0) (h : ∀ l ∈ w, l.length ≤ 4 ∧ ∀ n ∈ l, oneN d n = 0) : ∀ j, j ≤ w.length → ∀ more, rdWays ⟨encWs w j ++ more, 0⟩ j = (w.take j, ⟨more, 0⟩, 0) := by
  intro j
  induction j with
  | zero => intro _ more; rfl
  | succ j ih =>
    intro hj more
    have h1 := ih (by omega) (encWay (w.getD j []) ++ more)
    have hm := h _ (getW_mem (w := w) (k := j) (by omega))
    have h2 := rdWay_back hd hm.1 hm.2 more
    simp only [encWs, List.append_assoc, rdWays]
    rw [h1]
    simp only [h2]
    rw [if_neg (by decide), if_neg (by decide), List.take_add_one, List.getD_eq_getElem?_getD, List.getElem?_eq_getElem (by omega)]
    rfl
theorem back {d : List De} {w : List (List De)} (hd : (chk d).2 = 0) (h : chkW d w = 0) (more : List UInt8) : getW d (encW w ++ more) = (w, (encW w).length, 0) := by
  obtain ⟨h0, h4, hall⟩ := chkW_zero h
  have hn : rdNum ⟨encW w ++ more, 0⟩ = (w.length, ⟨encWs w w.length ++ more, 0⟩) := by
    unfold encW
    rw [List.append_assoc, rdNum_back (by omega)]
  have hL := rdWays_back hd (fun l hl => (hall l hl).2) w.length (Nat.le_refl _) more
  unfold getW readW
  have h44 : ¬ 4 < w.length := by omega
  simp only [hn, hL, List.take_length, h, ne_eq, not_true_eq_false, if_false, if_neg h44]
  simp

theorem rdC_err {k : Nat} {s : St} (h : s.err ≠ 0) : (rdC k s).2 = s := by
  unfold rdC rdN
  split
  · exact rdNum_err h
  · rfl
theorem rdNeed_once {d : List De} {L : List UInt8} (hd : (chk d).2 = 0) (he : (rdNeed ⟨L, 0⟩).2.2 = 0) (h : oneN d (rdNeed ⟨L, 0⟩).1 = 0) : L = encN (rdNeed ⟨L, 0⟩).1 ++ (rdNeed ⟨L, 0⟩).2.1.rest ∧ (rdNeed ⟨L, 0⟩).2.1.err = 0 := by
  obtain ⟨h1, h2, h3, h4, h5⟩ := need_small hd h
  unfold rdNeed at he h1 h2 h3 h4 h5 ⊢
  dsimp only at he h1 h2 h3 h4 h5 ⊢
  split at he
  · cases he
  · rename_i hc
    rw [if_neg hc] at h1 h2 h3 h4 h5 ⊢
    dsimp only at he h1 h2 h3 h4 h5 ⊢
    obtain ⟨x, r, rfl⟩ : ∃ x r, L = x :: r := by
      cases L with
      | nil =>
        exfalso
        have e0 : (rdByte ⟨[], 0⟩).2.err ≠ 0 := by decide
        have e1 : (rdN (rdByte ⟨[], 0⟩).2).2 = (rdByte ⟨[], 0⟩).2 := rdNum_err e0
        rw [e1, rdC_err e0] at he
        exact e0 he
      | cons x r => exact ⟨x, r, rfl⟩
    have hy : rdByte ⟨x :: r, 0⟩ = (x.toNat, ⟨r, 0⟩) := rfl
    rw [hy] at he h1 h2 h3 h4 h5 hc ⊢
    dsimp only at he h1 h2 h3 h4 h5 hc ⊢
    have hA0 : (rdN ⟨r, 0⟩).2.err = 0 := by
      rcases Nat.eq_zero_or_pos (rdN ⟨r, 0⟩).2.err with e | e
      · exact e
      · rw [rdC_err (by omega)] at he; exact he
    have hA := rdN_once hA0 (by omega)
    generalize rdN ⟨r, 0⟩ = q at *
    obtain ⟨o, R, E⟩ := q
    dsimp only at hA0 hA he h2 h3 h4 h5 ⊢
    subst hA0
    have hB : R = pieceN (x.toNat : Int) (rdC x.toNat ⟨R, 0⟩).1 ++ (rdC x.toNat ⟨R, 0⟩).2.rest := by
      unfold rdC at he h4 h5 ⊢
      unfold pieceN
      by_cases e : 3 < x.toNat
      · rw [if_pos e] at he h4 h5 ⊢
        rw [if_pos (by omega)]
        exact rdN_once he (by omega)
      · rw [if_neg e] at he ⊢
        rw [if_neg (by omega)]
        rfl
    refine ⟨?_, he⟩
    unfold encN
    dsimp only
    rw [Int.toNat_natCast, List.cons_append, List.append_assoc, ← hB, ← hA]
    congr 1
    exact UInt8.ofNat_toNat.symm
theorem rdNeeds_err {s : St} {j : Nat} (h : (rdNeeds s j).2.2 ≠ 0) : ∀ k, j ≤ k → rdNeeds s k = rdNeeds s j := by
  intro k hk
  induction k with
  | zero =>
    obtain rfl : j = 0 := by omega
    rfl
  | succ k ih =>
    rcases Nat.eq_or_lt_of_le hk with e | e
    · subst e; rfl
    · have := ih (by omega)
      simp only [rdNeeds]
      rw [this, if_pos h]
theorem rdWays_err {s : St} {j : Nat} (h : (rdWays s j).2.2 ≠ 0) : ∀ k, j ≤ k → rdWays s k = rdWays s j := by
  intro k hk
  induction k with
  | zero =>
    obtain rfl : j = 0 := by omega
    rfl
  | succ k ih =>
    rcases Nat.eq_or_lt_of_le hk with e | e
    · subst e; rfl
    · have := ih (by omega)
      simp only [rdWays]
      rw [this, if_pos h]
theorem rdNeeds_length {s : St} : ∀ j, (rdNeeds s j).2.2 = 0 → (rdNeeds s j).1.length = j := by
  intro j
  induction j with
  | zero => intro _; rfl
  | succ j ih =>
    intro h
    simp only [rdNeeds] at h ⊢
    split at h
    · exact absurd h ‹_›
    · rename_i h1
      have := ih (by omega)
      rw [if_neg h1]
      split at h
      · exact absurd h ‹_›
      · rename_i h2
        rw [if_neg h2, List.length_append, this]
        rfl
theorem rdWays_length {s : St} : ∀ j, (rdWays s j).2.2 = 0 → (rdWays s j).1.length = j := by
  intro j
  induction j with
  | zero => intro _; rfl
  | succ j ih =>
    intro h
    simp only [rdWays] at h ⊢
    split at h
    · exact absurd h ‹_›
    · rename_i h1
      have := ih (by omega)
      rw [if_neg h1]
      split at h
      · exact absurd h ‹_›
      · rename_i h2
        rw [if_neg h2, List.length_append, this]
        rfl
theorem encNs_left {l r : List De} : ∀ j, j ≤ l.length → encNs (l ++ r) j = encNs l j := by
  intro j
  induction j with
  | zero => intro _; rfl
  | succ j ih =>
    intro h
    simp only [encNs]
    rw [ih (by omega), getD_left (by omega)]
theorem getW_left {l r : List (List De)} {i : Nat} (h : i < l.length) : (l ++ r).getD i [] = l.getD i [] := by
  rw [List.getD_eq_getElem?_getD, List.getD_eq_getElem?_getD, List.getElem?_append_left h]
theorem getW_last {l : List (List De)} {x : List De} {i : Nat} (h : l.length = i) : (l ++ [x]).getD i [] = x := by
  subst h
  rw [List.getD_eq_getElem?_getD, List.getElem?_append_right (Nat.le_refl _), Nat.sub_self]
  rfl
theorem encWs_left {l r : List (List De)} : ∀ j, j ≤ l.length → encWs (l ++ r) j = encWs l j := by
  intro j
  induction j with
  | zero => intro _; rfl
  | succ j ih =>
    intro h
    simp only [encWs]
    rw [ih (by omega), getW_left (by omega)]
theorem rdNeeds_once {d : List De} (hd : (chk d).2 = 0) : ∀ j (L : List UInt8), (rdNeeds ⟨L, 0⟩ j).2.2 = 0 → (∀ n ∈ (rdNeeds ⟨L, 0⟩ j).1, oneN d n = 0) → L = encNs (rdNeeds ⟨L, 0⟩ j).1 j ++ (rdNeeds ⟨L, 0⟩ j).2.1.rest ∧ (rdNeeds ⟨L, 0⟩ j).2.1.err = 0 := by
  intro j
  induction j with
  | zero => intro L _ _; exact ⟨rfl, rfl⟩
  | succ j ih =>
    intro L he hall
    have h0 : (rdNeeds ⟨L, 0⟩ j).2.2 = 0 := by
      rcases Nat.eq_zero_or_pos (rdNeeds ⟨L, 0⟩ j).2.2 with h | h
      · exact h
      · rw [rdNeeds_err (j := j) (by omega) (j + 1) (by omega)] at he
        omega
    have hlen := rdNeeds_length j h0
    simp only [rdNeeds] at he hall ⊢
    rw [if_neg (by omega)] at he hall ⊢
    split at he
    · exact absurd he ‹_›
    · rename_i h2
      rw [if_neg h2] at hall ⊢
      dsimp only at he hall ⊢
      have h1 := ih L h0 (fun n hn => hall n (List.mem_append_left _ hn))
      have hj := hall (rdNeed (rdNeeds ⟨L, 0⟩ j).2.1).1 (List.mem_append_right _ (List.mem_singleton.2 rfl))
      simp only [encNs]
      rw [encNs_left j (by omega), getD_last hlen]
      generalize rdNeeds ⟨L, 0⟩ j = p at *
      obtain ⟨ls, ⟨R, E⟩, e⟩ := p
      dsimp only at h0 hlen h1 hj h2 ⊢
      obtain ⟨h1, h1e⟩ := h1
      subst h1e
      have h3 := rdNeed_once (d := d) (L := R) hd (by omega) hj
      refine ⟨?_, h3.2⟩
      rw [List.append_assoc, ← h3.1]
      exact h1
theorem rdWay_once {d : List De} {L : List UInt8} (hd : (chk d).2 = 0) (he : (rdWay ⟨L, 0⟩).2.2 = 0) (h : ∀ n ∈ (rdWay ⟨L, 0⟩).1, oneN d n = 0) : L = encWay (rdWay ⟨L, 0⟩).1 ++ (rdWay ⟨L, 0⟩).2.1.rest ∧ (rdWay ⟨L, 0⟩).2.1.err = 0 := by
  unfold rdWay at he h ⊢
  split at he
  · cases he
  · rename_i h1
    rw [if_neg h1] at h ⊢
    split at he
    · exact absurd he ‹_›
    · rename_i h2
      rw [if_neg h2] at h ⊢
      have hn := rdNum_once (l := L) (by omega)
      generalize rdNum ⟨L, 0⟩ = q at *
      obtain ⟨n, ⟨R, E⟩⟩ := q
      dsimp only at he h h1 h2 hn ⊢
      obtain rfl : E = 0 := by omega
      have h3 := rdNeeds_once hd n R he h
      have hlen := rdNeeds_length n he
      refine ⟨?_, h3.2⟩
      unfold encWay
      rw [hlen, List.append_assoc, ← h3.1]
      exact hn
theorem rdWays_once {d : List De} (hd : (chk d).2 = 0) : ∀ j (L : List UInt8), (rdWays ⟨L, 0⟩ j).2.2 = 0 → (∀ l ∈ (rdWays ⟨L, 0⟩ j).1, ∀ n ∈ l, oneN d n = 0) → L = encWs (rdWays ⟨L, 0⟩ j).1 j ++ (rdWays ⟨L, 0⟩ j).2.1.rest ∧ (rdWays ⟨L, 0⟩ j).2.1.err = 0 := by
  intro j
  induction j with
  | zero => intro L _ _; exact ⟨rfl, rfl⟩
  | succ j ih =>
    intro L he hall
    have h0 : (rdWays ⟨L, 0⟩ j).2.2 = 0 := by
      rcases Nat.eq_zero_or_pos (rdWays ⟨L, 0⟩ j).2.2 with h | h
      · exact h
      · rw [rdWays_err (j := j) (by omega) (j + 1) (by omega)] at he
        omega
    have hlen := rdWays_length j h0
    simp only [rdWays] at he hall ⊢
    rw [if_neg (by omega)] at he hall ⊢
    split at he
    · exact absurd he ‹_›
    · rename_i h2
      rw [if_neg h2] at hall ⊢
      dsimp only at he hall ⊢
      have h1 := ih L h0 (fun n hn => hall n (List.mem_append_left _ hn))
      have hj := hall (rdWay (rdWays ⟨L, 0⟩ j).2.1).1 (List.mem_append_right _ (List.mem_singleton.2 rfl))
      simp only [encWs]
      rw [encWs_left j (by omega), getW_last hlen]
      generalize rdWays ⟨L, 0⟩ j = p at *
      obtain ⟨ls, ⟨R, E⟩, e⟩ := p
      dsimp only at h0 hlen h1 hj h2 ⊢
      obtain ⟨h1, h1e⟩ := h1
      subst h1e
      have h3 := rdWay_once (d := d) (L := R) hd (by omega) hj
      refine ⟨?_, h3.2⟩
      rw [List.append_assoc, ← h3.1]
      exact h1
theorem got_bad {d : List De} {l : List UInt8} (h : (getW d l).2.2 ≠ 0) : getW d l = ([], 0, (getW d l).2.2) := by
  unfold getW at h ⊢
  dsimp only at h ⊢
  split
  · rfl
  · rename_i h1
    rw [if_neg h1] at h
    exact absurd rfl h
theorem once {d : List De} {t : List UInt8} (hd : (chk d).2 = 0) (h : (getW d t).2.2 = 0) : chkW d (getW d t).1 = 0 ∧ 0 < (getW d t).2.1 ∧ (getW d t).2.1 ≤ t.length ∧ encW (getW d t).1 = t.take (getW d t).2.1 := by
  unfold getW readW at h ⊢
  dsimp only at h ⊢
  by_cases h2 : 4 < (rdNum ⟨t, 0⟩).1
  · simp only [if_pos h2] at h; cases h
  · simp only [if_neg h2] at h ⊢
    by_cases h1 : (rdNum ⟨t, 0⟩).2.err ≠ 0
    · simp only [if_pos h1] at h; exact absurd h h1
    · simp only [if_neg h1] at h ⊢
      have hn := rdNum_once (l := t) (by omega)
      generalize rdNum ⟨t, 0⟩ = q at *
      obtain ⟨n, ⟨R, E⟩⟩ := q
      dsimp only at h h1 h2 hn ⊢
      obtain rfl : E = 0 := by omega
      by_cases h3 : (rdWays ⟨R, 0⟩ n).2.2 ≠ 0
      · simp only [if_pos h3] at h; exact absurd h h3
      · simp only [if_neg h3] at h ⊢
        by_cases h4 : chkW d (rdWays ⟨R, 0⟩ n).1 ≠ 0
        · simp only [if_pos h4] at h; exact absurd h h4
        · simp only [if_neg h4] at h ⊢
          have hlen := rdWays_length n (by omega : (rdWays ⟨R, 0⟩ n).2.2 = 0)
          obtain ⟨_, _, hall⟩ := chkW_zero (by omega : chkW d (rdWays ⟨R, 0⟩ n).1 = 0)
          have ho := (rdWays_once hd n R (by omega) (fun l hl => (hall l hl).2.2)).1
          generalize rdWays ⟨R, 0⟩ n = p at *
          obtain ⟨ls, S, e⟩ := p
          dsimp only at h3 h4 hlen hall ho ⊢
          have hE : t = encW ls ++ S.rest := by
            unfold encW
            rw [hlen, List.append_assoc, ← ho]
            exact hn
          have hpos : 0 < (encW ls).length := by
            have := enc_length_pos 9 ls.length
            simp only [encW, List.length_append]
            have e : (num ls.length).length = (Go.Proofs.YtahejekcfgkiaaaDoor.octet.enc 9 ls.length).length := rfl
            omega
          have hlt : t.length = (encW ls).length + S.rest.length := by rw [hE, List.length_append]
          simp only [ne_eq, not_true_eq_false, if_false]
          refine ⟨by omega, by omega, by omega, ?_⟩
          rw [show t.length - S.rest.length = (encW ls).length from by omega, hE, List.take_left']
          rfl
end Go.Proofs.YtahejekcfgkiaaaDoor.need

/-
  What is wrong with a program, its bytes, and the program whose bytes some are: plain mathematics of lists and numbers, by one pair of laws for each list that is put behind another. No condition.
-/
namespace Go.Proofs.YtahejekcfgkiaaaDoor.pgm
open Go.Proofs.YtahejekcfgkiaaaDoor.octet (St rdByte rdNum num num_length_le enc_length_pos)
open Go.Proofs.YtahejekcfgkiaaaDoor.objs (De zero rdNum_back rdNum_once rdNum_err)
set_option linter.unusedVariables false

/-- A function: its arguments, its locals, its instructions (an operation and two operands each). -/
structure Fn where
  ar : Int
  lo : Int
  co : List De
def Fn.zero : Fn := ⟨0, 0, []⟩
/-- A program: its objects, its waits, its functions. -/
structure Pg where
  ds : List De
  ws : List (List (List De))
  fs : List Fn
def Pg.none : Pg := ⟨[], [], []⟩

section
variable {α : Type}
/-- The first thing that is wrong with one of a list. -/
def firstE (f : α → Nat) : List α → Nat
  | [] => 0
  | x :: l => if f x ≠ 0 then f x else firstE f l
theorem getD_at {l : List α} {k : Nat} {d : α} (h : k < l.length) : l.getD k d = l[k] := by rw [List.getD_eq_getElem?_getD, List.getElem?_eq_getElem h]; rfl
theorem getD_in {l : List α} {k : Nat} {d : α} (h : k < l.length) : l.getD k d ∈ l := by rw [getD_at h]; exact List.getElem_mem _
theorem firstE_drop {f : α → Nat} {l : List α} {k : Nat} (d : α) (h : k < l.length) : firstE f (l.drop k) = if f (l.getD k d) ≠ 0 then f (l.getD k d) else firstE f (l.drop (k + 1)) := by
  rw [List.drop_eq_getElem_cons h, getD_at h]
  rfl
theorem firstE_zero {f : α → Nat} {l : List α} (h : firstE f l = 0) : ∀ x ∈ l, f x = 0 := by
  induction l with
  | nil => intro n hn; cases hn
  | cons m l ih =>
    unfold firstE at h
    by_cases hm : f m ≠ 0
    · rw [if_pos hm] at h
      exact absurd h hm
    · rw [if_neg hm] at h
      intro n hn
      rcases List.mem_cons.1 hn with rfl | hn
      · omega
      · exact ih h n hn
theorem firstE_le {f : α → Nat} {b : Nat} (hf : ∀ x, f x ≤ b) (l : List α) : firstE f l ≤ b := by
  induction l with
  | nil => exact Nat.zero_le _
  | cons m l ih =>
    unfold firstE
    split
    · exact hf m
    · exact ih
/-- The bytes of the first j of a list. -/
def encAll (e : α → List UInt8) (d : α) (l : List α) : Nat → List UInt8
  | 0 => []
  | j + 1 => encAll e d l j ++ e (l.getD j d)
theorem encAll_le {e : α → List UInt8} {d : α} {l : List α} {c : Nat} (h : ∀ x ∈ l, (e x).length ≤ c) : ∀ j, j ≤ l.length → (encAll e d l j).length ≤ c * j := by
  intro j
  induction j with
  | zero => intro _; exact Nat.zero_le _
  | succ j ih =>
    intro hj
    have h1 := ih (by omega)
    have h2 := h _ (getD_in (d := d) (l := l) (k := j) (by omega))
    simp only [encAll, List.length_append]
    rw [Nat.mul_succ]
    omega
theorem at_left {l r : List α} {i : Nat} {d : α} (h : i < l.length) : (l ++ r).getD i d = l.getD i d := by
  rw [List.getD_eq_getElem?_getD, List.getD_eq_getElem?_getD, List.getElem?_append_left h]
theorem at_last {l : List α} {x d : α} {i : Nat} (h : l.length = i) : (l ++ [x]).getD i d = x := by
  subst h
  rw [List.getD_eq_getElem?_getD, List.getElem?_append_right (Nat.le_refl _), Nat.sub_self]
  rfl
theorem encAll_left {e : α → List UInt8} {d : α} {l r : List α} : ∀ j, j ≤ l.length → encAll e d (l ++ r) j = encAll e d l j := by
  intro j
  induction j with
  | zero => intro _; rfl
  | succ j ih =>
    intro h
    simp only [encAll]
    rw [ih (by omega), at_left (by omega)]
/-- The first j of what is read one behind the other. -/
def rdAll (rd : St → α × St × Nat) (s : St) : Nat → List α × St × Nat
  | 0 => ([], s, 0)
  | j + 1 =>
    let p := rdAll rd s j
    if p.2.2 ≠ 0 then p
    else if (rd p.2.1).2.2 ≠ 0 then ([], (rd p.2.1).2.1, (rd p.2.1).2.2)
    else (p.1 ++ [(rd p.2.1).1], (rd p.2.1).2.1, 0)
theorem rdAll_err {rd : St → α × St × Nat} {s : St} {j : Nat} (h : (rdAll rd s j).2.2 ≠ 0) : ∀ k, j ≤ k → rdAll rd s k = rdAll rd s j := by
  intro k hk
  induction k with
  | zero =>
    obtain rfl : j = 0 := by omega
    rfl
  | succ k ih =>
    rcases Nat.eq_or_lt_of_le hk with e | e
    · subst e; rfl
    · have := ih (by omega)
      simp only [rdAll]
      rw [this, if_pos h]
theorem rdAll_length {rd : St → α × St × Nat} {s : St} : ∀ j, (rdAll rd s j).2.2 = 0 → (rdAll rd s j).1.length = j := by
  intro j
  induction j with
  | zero => intro _; rfl
  | succ j ih =>
    intro h
    simp only [rdAll] at h ⊢
    split at h
    · exact absurd h ‹_›
    · rename_i h1
      have := ih (by omega)
      rw [if_neg h1]
      split at h
      · exact absurd h ‹_›
      · rename_i h2
        rw [if_neg h2, List.length_append, this]
        rfl
theorem rdAll_stop {rd : St → α × St × Nat} {s S T : St} {n j e : Nat} {ls : List α} {x : α} (hj : j < n) (hl : rdAll rd s j = (ls, S, 0)) (hw : rd S = (x, T, e)) (he : e ≠ 0) : rdAll rd s n = ([], T, e) := by
  have h1 : rdAll rd s (j + 1) = ([], T, e) := by simp [rdAll, hl, hw, he]
  rw [rdAll_err (j := j + 1) (by rw [h1]; exact he) n hj, h1]
theorem rdAll_next {rd : St → α × St × Nat} {s S T : St} {j : Nat} {ls : List α} {x : α} (hl : rdAll rd s j = (ls, S, 0)) (hw : rd S = (x, T, 0)) : rdAll rd s (j + 1) = (ls ++ [x], T, 0) := by simp [rdAll, hl, hw]
theorem rdAll_back {rd : St → α × St × Nat} {e : α → List UInt8} {d : α} {l : List α} (h : ∀ x ∈ l, ∀ more, rd ⟨e x ++ more, 0⟩ = (x, ⟨more, 0⟩, 0)) : ∀ j, j ≤ l.length → ∀ more, rdAll rd ⟨encAll e d l j ++ more, 0⟩ j = (l.take j, ⟨more, 0⟩, 0) := by
  intro j
  induction j with
  | zero => intro _ more; rfl
  | succ j ih =>
    intro hj more
    have h1 := ih (by omega) (e (l.getD j d) ++ more)
    have h2 := h _ (getD_in (d := d) (l := l) (k := j) (by omega)) more
    simp only [encAll, List.append_assoc, rdAll]
    rw [h1]
    simp only [h2]
    rw [if_neg (by decide), if_neg (by decide), List.take_add_one, getD_at (by omega), List.getElem?_eq_getElem (by omega)]
    rfl
theorem rdAll_once {rd : St → α × St × Nat} {e : α → List UInt8} {d : α} {ok : α → Prop} (hrd : ∀ L, (rd ⟨L, 0⟩).2.2 = 0 → ok (rd ⟨L, 0⟩).1 → L = e (rd ⟨L, 0⟩).1 ++ (rd ⟨L, 0⟩).2.1.rest ∧ (rd ⟨L, 0⟩).2.1.err = 0) :
    ∀ j (L : List UInt8), (rdAll rd ⟨L, 0⟩ j).2.2 = 0 → (∀ x ∈ (rdAll rd ⟨L, 0⟩ j).1, ok x) → L = encAll e d (rdAll rd ⟨L, 0⟩ j).1 j ++ (rdAll rd ⟨L, 0⟩ j).2.1.rest ∧ (rdAll rd ⟨L, 0⟩ j).2.1.err = 0 := by
  intro j
  induction j with
  | zero => intro L _ _; exact ⟨rfl, rfl⟩
  | succ j ih =>
    intro L he hall
    have h0 : (rdAll rd ⟨L, 0⟩ j).2.2 = 0 := by
      rcases Nat.eq_zero_or_pos (rdAll rd ⟨L, 0⟩ j).2.2 with h | h
      · exact h
      · rw [rdAll_err (j := j) (by omega) (j + 1) (by omega)] at he
        omega
    have hlen := rdAll_length j h0
    simp only [rdAll] at he hall ⊢
    rw [if_neg (by omega)] at he hall ⊢
    split at he
    · exact absurd he ‹_›
    · rename_i h2
      rw [if_neg h2] at hall ⊢
      dsimp only at he hall ⊢
      have h1 := ih L h0 (fun n hn => hall n (List.mem_append_left _ hn))
      have hj := hall (rd (rdAll rd ⟨L, 0⟩ j).2.1).1 (List.mem_append_right _ (List.mem_singleton.2 rfl))
      simp only [encAll]
      rw [encAll_left j (by omega), at_last hlen]
      generalize rdAll rd ⟨L, 0⟩ j = p at *
      obtain ⟨ls, ⟨R, E⟩, e'⟩ := p
      dsimp only at h0 hlen h1 hj h2 ⊢
      obtain ⟨h1, h1e⟩ := h1
      subst h1e
      have h3 := hrd R (by omega) hj
      refine ⟨?_, h3.2⟩
      rw [List.append_assoc, ← h3.1]
      exact h1
end

/-- What is wrong with an instruction. -/
def chkI (x : De) : Nat := Go.Proofs.YtahejekcfgkiaaaDoor.inst.chk x.1 x.2.1 x.2.2
def chkFn (f : Fn) : Nat := if f.ar < 0 ∨ f.lo < f.ar ∨ 8 < f.lo then 1 else if f.co.length = 0 then 2 else if 200 < f.co.length then 4 else firstE chkI f.co
/-- What is wrong with a program. -/
def chkP (p : Pg) : Nat :=
  if (Go.Proofs.YtahejekcfgkiaaaDoor.objs.chk p.ds).2 ≠ 0 then (Go.Proofs.YtahejekcfgkiaaaDoor.objs.chk p.ds).2
  else if 32 < p.ws.length then 4
  else if firstE (Go.Proofs.YtahejekcfgkiaaaDoor.need.chkW p.ds) p.ws ≠ 0 then firstE (Go.Proofs.YtahejekcfgkiaaaDoor.need.chkW p.ds) p.ws
  else if p.fs.length = 0 then 2
  else if 16 < p.fs.length then 4
  else firstE chkFn p.fs
theorem chkFn_zero {f : Fn} (h : chkFn f = 0) : (0 ≤ f.ar ∧ f.ar ≤ f.lo ∧ f.lo ≤ 8) ∧ 0 < f.co.length ∧ f.co.length ≤ 200 ∧ ∀ x ∈ f.co, chkI x = 0 := by
  unfold chkFn at h
  split at h
  · cases h
  · split at h
    · cases h
    · split at h
      · cases h
      · exact ⟨by omega, by omega, by omega, firstE_zero h⟩
theorem chkP_zero {p : Pg} (h : chkP p = 0) : (Go.Proofs.YtahejekcfgkiaaaDoor.objs.chk p.ds).2 = 0 ∧ p.ws.length ≤ 32 ∧ (∀ w ∈ p.ws, Go.Proofs.YtahejekcfgkiaaaDoor.need.chkW p.ds w = 0) ∧ 0 < p.fs.length ∧ p.fs.length ≤ 16 ∧ ∀ f ∈ p.fs, chkFn f = 0 := by
  unfold chkP at h
  split at h
  · exact absurd h ‹_›
  · split at h
    · cases h
    · split at h
      · exact absurd h ‹_›
      · split at h
        · cases h
        · split at h
          · cases h
          · exact ⟨by omega, by omega, firstE_zero (by omega), by omega, by omega, firstE_zero h⟩

def encIn (x : De) : List UInt8 := Go.Proofs.YtahejekcfgkiaaaDoor.inst.encI x.1 x.2.1 x.2.2
def encFn (f : Fn) : List UInt8 := num f.ar.toNat ++ (num f.lo.toNat ++ (num f.co.length ++ encAll encIn zero f.co f.co.length))
/-- The bytes of a program. -/
def encP (p : Pg) : List UInt8 :=
  [76, 74, 1] ++ (Go.Proofs.YtahejekcfgkiaaaDoor.objs.encL p.ds ++ (num p.ws.length ++ (encAll Go.Proofs.YtahejekcfgkiaaaDoor.need.encW [] p.ws p.ws.length ++ (num p.fs.length ++ encAll encFn Fn.zero p.fs p.fs.length))))

/-- A count that is read. -/
def rdMany (s : St) (most : Nat) : Nat × St × Nat := if most < (rdNum s).1 then (0, (rdNum s).2, 4) else ((rdNum s).1, (rdNum s).2, (rdNum s).2.err)
/-- A function that is read: by what reads an instruction. -/
def rdFn (rdI : St → De × St × Nat) (s : St) : Fn × St × Nat :=
  let a := rdNum s
  let b := rdNum a.2
  let n := rdMany b.2 200
  if b.2.err ≠ 0 then (Fn.zero, b.2, b.2.err)
  else if n.2.2 ≠ 0 then (Fn.zero, n.2.1, n.2.2)
  else
    let q := rdAll rdI n.2.1 n.1
    if q.2.2 ≠ 0 then (Fn.zero, q.2.1, q.2.2)
    else (⟨((min a.1 2147483648 : Nat) : Int), ((min b.1 2147483648 : Nat) : Int), q.1⟩, q.2.1, 0)
/-- The program whose bytes some are, or the first error. -/
def readP (rdI : St → De × St × Nat) (t : List UInt8) : Pg × Nat :=
  if t.take 3 ≠ [76, 74, 1] then (Pg.none, 2)
  else
    let l := Go.Proofs.YtahejekcfgkiaaaDoor.objs.readL ⟨t.drop 3, 0⟩
    if l.2.2 ≠ 0 then (Pg.none, l.2.2)
    else
      let n := rdMany l.2.1 32
      if n.2.2 ≠ 0 then (Pg.none, n.2.2)
      else
        let ws := rdAll (Go.Proofs.YtahejekcfgkiaaaDoor.need.readW l.1) n.2.1 n.1
        if ws.2.2 ≠ 0 then (Pg.none, ws.2.2)
        else
          let m := rdMany ws.2.1 16
          if m.2.2 ≠ 0 then (Pg.none, m.2.2)
          else
            let fs := rdAll (rdFn rdI) m.2.1 m.1
            if fs.2.2 ≠ 0 then (Pg.none, fs.2.2)
            else if fs.2.1.rest ≠ [] then (Pg.none, 2)
            else if chkP ⟨l.1, ws.1, fs.1⟩ ≠ 0 then (Pg.none, chkP ⟨l.1, ws.1, fs.1⟩)
            else (⟨l.1, ws.1, fs.1⟩, 0)

/-! What was put is got. -/
theorem rdMany_back {n most : Nat} (h : n ≤ most) (hm : most ≤ 1000) (more : List UInt8) : rdMany ⟨num n ++ more, 0⟩ most = (n, ⟨more, 0⟩, 0) := by
  unfold rdMany
  rw [rdNum_back (by omega)]
  dsimp only
  rw [if_neg (by omega)]
theorem readL_back {l : List De} (h : (Go.Proofs.YtahejekcfgkiaaaDoor.objs.chk l).2 = 0) (more : List UInt8) : Go.Proofs.YtahejekcfgkiaaaDoor.objs.readL ⟨Go.Proofs.YtahejekcfgkiaaaDoor.objs.encL l ++ more, 0⟩ = (l, ⟨more, 0⟩, 0) := by
  obtain ⟨hl, _, hall⟩ := Go.Proofs.YtahejekcfgkiaaaDoor.objs.chk_zero h
  have hn : Go.Proofs.YtahejekcfgkiaaaDoor.objs.rdN ⟨Go.Proofs.YtahejekcfgkiaaaDoor.objs.encL l ++ more, 0⟩ = ((l.length : Int), ⟨Go.Proofs.YtahejekcfgkiaaaDoor.objs.encs l l.length ++ more, 0⟩) := by
    unfold Go.Proofs.YtahejekcfgkiaaaDoor.objs.encL
    rw [List.append_assoc, Go.Proofs.YtahejekcfgkiaaaDoor.objs.rdN_back (by omega)]
  have hL := Go.Proofs.YtahejekcfgkiaaaDoor.objs.rdL_back hl hall l.length (Nat.le_refl _) more
  unfold Go.Proofs.YtahejekcfgkiaaaDoor.objs.readL
  have h32 : ¬ (32 : Int) < (l.length : Int) := by omega
  simp only [hn, Int.toNat_natCast, hL, List.take_length, h, ne_eq, not_true_eq_false, if_false, if_neg h32]
theorem readW_back {d : List De} {w : List (List De)} (hd : (Go.Proofs.YtahejekcfgkiaaaDoor.objs.chk d).2 = 0) (h : Go.Proofs.YtahejekcfgkiaaaDoor.need.chkW d w = 0) (more : List UInt8) : Go.Proofs.YtahejekcfgkiaaaDoor.need.readW d ⟨Go.Proofs.YtahejekcfgkiaaaDoor.need.encW w ++ more, 0⟩ = (w, ⟨more, 0⟩, 0) := by
  obtain ⟨h0, h4, hall⟩ := Go.Proofs.YtahejekcfgkiaaaDoor.need.chkW_zero h
  have hn : rdNum ⟨Go.Proofs.YtahejekcfgkiaaaDoor.need.encW w ++ more, 0⟩ = (w.length, ⟨Go.Proofs.YtahejekcfgkiaaaDoor.need.encWs w w.length ++ more, 0⟩) := by
    unfold Go.Proofs.YtahejekcfgkiaaaDoor.need.encW
    rw [List.append_assoc, rdNum_back (by omega)]
  have hL := Go.Proofs.YtahejekcfgkiaaaDoor.need.rdWays_back hd (fun l hl => (hall l hl).2) w.length (Nat.le_refl _) more
  unfold Go.Proofs.YtahejekcfgkiaaaDoor.need.readW
  have h44 : ¬ 4 < w.length := by omega
  simp only [hn, hL, List.take_length, h, ne_eq, not_true_eq_false, if_false, if_neg h44]
theorem rdFn_back {rdI : St → De × St × Nat} (hI : ∀ x, chkI x = 0 → ∀ more, rdI ⟨encIn x ++ more, 0⟩ = (x, ⟨more, 0⟩, 0)) {f : Fn} (h : chkFn f = 0) (more : List UInt8) : rdFn rdI ⟨encFn f ++ more, 0⟩ = (f, ⟨more, 0⟩, 0) := by
  obtain ⟨⟨h1, h2, h3⟩, h4, h5, h6⟩ := chkFn_zero h
  obtain ⟨ar, lo, co⟩ := f
  dsimp only at h1 h2 h3 h4 h5 h6
  have ha : rdNum ⟨encFn ⟨ar, lo, co⟩ ++ more, 0⟩ = (ar.toNat, ⟨num lo.toNat ++ (num co.length ++ (encAll encIn zero co co.length ++ more)), 0⟩) := by
    unfold encFn
    simp only [List.append_assoc]
    rw [rdNum_back (by omega)]
  have hb : rdNum ⟨num lo.toNat ++ (num co.length ++ (encAll encIn zero co co.length ++ more)), 0⟩ = (lo.toNat, ⟨num co.length ++ (encAll encIn zero co co.length ++ more), 0⟩) := rdNum_back (by omega) _
  have hn := rdMany_back h5 (by omega) (encAll encIn zero co co.length ++ more)
  have hq := rdAll_back (rd := rdI) (e := encIn) (d := zero) (l := co) (fun x hx => hI x (h6 x hx)) co.length (Nat.le_refl _) more
  unfold rdFn
  simp only [ha, hb, hn, hq, List.take_length, ne_eq, not_true_eq_false, if_false]
  have e1 : ((min ar.toNat 2147483648 : Nat) : Int) = ar := by omega
  have e2 : ((min lo.toNat 2147483648 : Nat) : Int) = lo := by omega
  rw [e1, e2]
theorem back {rdI : St → De × St × Nat} (hI : ∀ x, chkI x = 0 → ∀ more, rdI ⟨encIn x ++ more, 0⟩ = (x, ⟨more, 0⟩, 0)) {p : Pg} (h : chkP p = 0) (more : List UInt8) : readP rdI (encP p ++ more) = if more ≠ [] then (Pg.none, 2) else (p, 0) := by
  obtain ⟨h1, h2, h3, h4, h5, h6⟩ := chkP_zero h
  obtain ⟨ds, ws, fs⟩ := p
  dsimp only at h1 h2 h3 h4 h5 h6
  have ht : (encP ⟨ds, ws, fs⟩ ++ more).take 3 = [76, 74, 1] := rfl
  have hd : (encP ⟨ds, ws, fs⟩ ++ more).drop 3 = Go.Proofs.YtahejekcfgkiaaaDoor.objs.encL ds ++ (num ws.length ++ (encAll Go.Proofs.YtahejekcfgkiaaaDoor.need.encW [] ws ws.length ++ (num fs.length ++ (encAll encFn Fn.zero fs fs.length ++ more)))) := by
    unfold encP
    simp only [List.append_assoc]
    rfl
  have hl := readL_back h1 (num ws.length ++ (encAll Go.Proofs.YtahejekcfgkiaaaDoor.need.encW [] ws ws.length ++ (num fs.length ++ (encAll encFn Fn.zero fs fs.length ++ more))))
  have hn := rdMany_back h2 (by omega) (encAll Go.Proofs.YtahejekcfgkiaaaDoor.need.encW [] ws ws.length ++ (num fs.length ++ (encAll encFn Fn.zero fs fs.length ++ more)))
  have hw := rdAll_back (rd := Go.Proofs.YtahejekcfgkiaaaDoor.need.readW ds) (e := Go.Proofs.YtahejekcfgkiaaaDoor.need.encW) (d := []) (l := ws) (fun x hx => readW_back h1 (h3 x hx)) ws.length (Nat.le_refl _) (num fs.length ++ (encAll encFn Fn.zero fs fs.length ++ more))
  have hm := rdMany_back h5 (by omega) (encAll encFn Fn.zero fs fs.length ++ more)
  have hf := rdAll_back (rd := rdFn rdI) (e := encFn) (d := Fn.zero) (l := fs) (fun x hx => rdFn_back hI (h6 x hx)) fs.length (Nat.le_refl _) more
  unfold readP
  simp only [ht, hd, hl, hn, hw, hm, hf, List.take_length, h, ne_eq, not_true_eq_false, if_false]
end Go.Proofs.YtahejekcfgkiaaaDoor.pgm
