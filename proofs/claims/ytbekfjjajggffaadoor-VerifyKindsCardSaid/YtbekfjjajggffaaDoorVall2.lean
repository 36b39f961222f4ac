/-
  Texts of one claim in one file: WPlain, DPlain, DBack, DMem. Each has its own sentence, with its conditions.
-/
import Derived.Test.YtbekfjjajggffaaDoorVall1
import Derived.Test.YtbekfjjajggffaaDoorProg
import Derived.WalkKit
import Derived.ProofKit
import Derived.IntWalk
import Derived.LoopTactic
import Derived.Lib.Hide
import Derived.Below
import Derived.Outline
import Derived.OwnWalk
import Derived.Deep.RegionLaw
import Derived.Deep.AppendLies
import Derived.Laws.AppendOwnNone
import Derived.Maps.AppendAt
import Derived.Deep.QuietTactic
import Derived.BigQuiet
import Derived.Deep.Cut
import Derived.Deep.CutBlock
import Derived.Deep.DeepCutAuto
import Derived.Deep.RegionHeld3
/-
  The plain mathematics of words: the word of a number's lowest bits, bit by bit, moved up and down, and what each operation comes to. It speaks of numbers alone.
-/
namespace Go.Proofs.YtbekfjjajggffaaDoor.word

/-- The word of the lowest 32 bits. -/
def low (n : Int) : Int := (n + 2147483648) % 4294967296 - 2147483648
def Word (n : Int) : Prop := -2147483648 ≤ n ∧ n ≤ 2147483647
instance (n : Int) : Decidable (Word n) := inferInstanceAs (Decidable (-2147483648 ≤ n ∧ n ≤ 2147483647))
theorem low_word (n : Int) : Word (low n) := by unfold Word low; omega
theorem low_id {n : Int} (h : Word n) : low n = n := by unfold Word at h; unfold low; omega
theorem low_low (n : Int) : low (low n) = low n := low_id (low_word n)
theorem low_diff (n : Int) : (n - low n) % 4294967296 = 0 := by unfold low; omega
theorem low_eq (a b : Int) : low a = low b ↔ (a - b) % 4294967296 = 0 := by unfold low; omega
theorem low_mod (n : Int) : low (n % 4294967296) = low n := by unfold low; omega

/-- What is left in a division that is rounded towards 0, by a number above 0. -/
theorem tmod_pos {n : Int} (h : 0 ≤ n) (d : Int) : n.tmod d = n % d := Int.tmod_eq_emod_of_nonneg h
theorem tmod_neg {n : Int} (h : n < 0) (d : Int) : n.tmod d = -((-n) % d) := by
  have h1 : (-n).tmod d = -(n.tmod d) := Int.neg_tmod _ _
  rw [Int.tmod_eq_emod_of_nonneg (by omega)] at h1
  omega
theorem low_tmod (n : Int) : low n = if 2147483648 ≤ n.tmod 4294967296 then n.tmod 4294967296 - 4294967296 else if n.tmod 4294967296 < -2147483648 then n.tmod 4294967296 + 4294967296 else n.tmod 4294967296 := by
  unfold low
  by_cases h : 0 ≤ n
  · rw [tmod_pos h]
    split
    · omega
    · split <;> omega
  · rw [tmod_neg (by omega)]
    split
    · omega
    · split <;> omega
theorem tmod_range (n : Int) : -4294967296 < n.tmod 4294967296 ∧ n.tmod 4294967296 < 4294967296 := by
  by_cases h : 0 ≤ n
  · rw [tmod_pos h]; omega
  · rw [tmod_neg (by omega)]; omega

/-- The bits of a word, as a number from 0 on. -/
def un (n : Int) : Nat := (n % 4294967296).toNat
theorem un_lt (n : Int) : un n < 4294967296 := by unfold un; omega
theorem un_word {n : Int} (h : Word n) : (un n : Int) = if n < 0 then n + 4294967296 else n := by
  unfold Word at h
  unfold un
  split <;> omega
theorem low_un (n : Int) : low (un n : Int) = low n := by unfold low un; omega

/-- Two words of ones, bit by bit. -/
def bitop (op : Int) (x y : Nat) : Nat := if op = 11 then x &&& y else if op = 12 then x ||| y else x ^^^ y
theorem bitop_lt (op : Int) {x y : Nat} (hx : x < 4294967296) (hy : y < 4294967296) : bitop op x y < 4294967296 := by
  have e : (2 : Nat) ^ 32 = 4294967296 := rfl
  unfold bitop
  split
  · exact Nat.lt_of_le_of_lt Nat.and_le_left hx
  · split
    · rw [← e] at *; exact Nat.or_lt_two_pow hx hy
    · rw [← e] at *; exact Nat.xor_lt_two_pow hx hy
def bitAt (x k : Nat) : Nat := x / 2 ^ k % 2
theorem bitAt_lt (x k : Nat) : bitAt x k < 2 := Nat.mod_lt _ (by omega)
theorem bitAt_test (x k : Nat) : bitAt x k = if x.testBit k then 1 else 0 := by
  unfold bitAt
  rw [Nat.testBit_eq_decide_div_mod_eq]
  by_cases h : x / 2 ^ k % 2 = 1
  · simp [h]
  · have h0 : x / 2 ^ k % 2 = 0 := by omega
    simp [h0]
/-- Whether a bit of the two stands in what comes. -/
def joins (op : Int) (x y : Nat) : Prop := (op = 11 ∧ x + y = 2) ∨ (op = 12 ∧ 0 < x + y) ∨ (op = 13 ∧ x + y = 1)
instance (op : Int) (x y : Nat) : Decidable (joins op x y) := inferInstanceAs (Decidable ((op = 11 ∧ x + y = 2) ∨ (op = 12 ∧ 0 < x + y) ∨ (op = 13 ∧ x + y = 1)))
theorem bitop_at {op : Int} (hop : op = 11 ∨ op = 12 ∨ op = 13) (x y k : Nat) : bitAt (bitop op x y) k = if joins op (bitAt x k) (bitAt y k) then 1 else 0 := by
  rw [bitAt_test, bitAt_test x, bitAt_test y]
  unfold bitop joins
  rcases hop with rfl | rfl | rfl
  · simp only [if_true, Nat.testBit_and]
    cases x.testBit k <;> cases y.testBit k <;> simp
  · simp only [show ¬ ((12 : Int) = 11) from by decide, if_false, if_true, Nat.testBit_or]
    cases x.testBit k <;> cases y.testBit k <;> simp
  · simp only [show ¬ ((13 : Int) = 11) from by decide, show ¬ ((13 : Int) = 12) from by decide, if_false, Nat.testBit_xor]
    cases x.testBit k <;> cases y.testBit k <;> simp
theorem mod_succ (x k : Nat) : x % 2 ^ (k + 1) = x % 2 ^ k + 2 ^ k * bitAt x k := Nat.mod_pow_succ
theorem bitAt_succ (x k : Nat) : x / 2 ^ k / 2 = x / 2 ^ (k + 1) := by rw [Nat.div_div_eq_div_mul, Nat.pow_succ]

/-- A step up, and a step down. -/
theorem low_double (a : Int) (k : Nat) : low (2 * low (a * 2 ^ k)) = low (a * 2 ^ (k + 1)) := by
  rw [show a * 2 ^ (k + 1) = 2 * (a * 2 ^ k) from by rw [Int.pow_succ, ← Int.mul_assoc, Int.mul_comm]]
  generalize a * 2 ^ k = x
  unfold low
  omega
theorem half_step (a : Int) (k : Nat) : a / 2 ^ k / 2 = a / 2 ^ (k + 1) := by
  rw [Int.pow_succ, Int.ediv_ediv_of_nonneg]
  exact Int.le_of_lt (Int.pow_pos (by omega))
/-- Half, rounded down, by a division that is rounded towards 0. -/
theorem half_neg {a : Int} (h : a < 0) : (a - 1).tdiv 2 = a / 2 := by
  have h1 : (-(a - 1)).tdiv 2 = -((a - 1).tdiv 2) := Int.neg_tdiv _ _
  rw [Int.tdiv_eq_ediv_of_nonneg (by omega)] at h1
  omega
theorem half_pos {a : Int} (h : ¬ a < 0) : a.tdiv 2 = a / 2 := Int.tdiv_eq_ediv_of_nonneg (by omega)

theorem mul_bound {a b : Int} (ha : Word a) (hb : Word b) : -4611686018427387904 ≤ a * b ∧ a * b ≤ 4611686018427387904 := by
  unfold Word at ha hb
  have hm : (a * b).natAbs ≤ 2147483648 * 2147483648 := by
    rw [Int.natAbs_mul]
    exact Nat.mul_le_mul (by omega) (by omega)
  omega

/-- A number, or the fault that it is no word. -/
def ex (n : Int) : Int × Int := if Word n then (n, 0) else (0, 1)
/-- How far a word is moved. -/
def far (b : Int) : Nat := (b % 32).toNat
theorem far_lt (b : Int) : far b < 32 := by unfold far; omega
/-- What an operation makes of two words, and its fault. -/
def doW (op a b : Int) : Int × Int :=
  if op = 3 then ex (a + b) else if op = 4 then ex (a - b) else if op = 5 then ex (a * b)
  else if op = 6 then (if b = 0 then (0, 2) else ex (a.tdiv b)) else if op = 7 then (if b = 0 then (0, 2) else (a.tmod b, 0))
  else if op = 8 then ex (-a) else if op = 9 then (if a < b then (1, 0) else (0, 0)) else if op = 10 then (if a = b then (1, 0) else (0, 0))
  else if op = 11 ∨ op = 12 ∨ op = 13 then (low (bitop op (un a) (un b) : Nat), 0)
  else if op = 14 then (low (a * 2 ^ far b), 0) else if op = 15 then (a / 2 ^ far b, 0) else (0, 0)
theorem ex_word (n : Int) : Word (ex n).1 := by
  unfold ex
  split
  · assumption
  · unfold Word; omega
theorem tmod_word {a b : Int} (ha : Word a) : Word (a.tmod b) := by
  have h1 : (a.tmod b).natAbs ≤ a.natAbs := by
    rw [Int.natAbs_tmod]
    exact Nat.mod_le _ _
  have h2 : 0 ≤ a → 0 ≤ a.tmod b := fun h => Int.tmod_nonneg b h
  have h3 : a ≤ 0 → a.tmod b ≤ 0 := fun h => by
    have e : (-a).tmod b = -(a.tmod b) := Int.neg_tmod _ _
    have := Int.tmod_nonneg b (show 0 ≤ -a by omega)
    omega
  unfold Word at *
  omega
theorem down_word {a : Int} (ha : Word a) (k : Nat) : Word (a / 2 ^ k) := by
  have hp : (0 : Int) < 2 ^ k := Int.pow_pos (by omega)
  unfold Word at *
  constructor
  · refine (Int.le_ediv_iff_mul_le hp).2 ?_
    have h1 : (1 : Int) ≤ 2 ^ k := hp
    have h2 : -2147483648 * (2 : Int) ^ k ≤ -2147483648 * 1 := Int.mul_le_mul_of_nonpos_left (by omega) h1
    omega
  · by_cases h : 0 ≤ a
    · have := Int.ediv_le_self (2 ^ k) h
      omega
    · have := Int.ediv_neg_of_neg_of_pos (show a < 0 by omega) hp
      omega
theorem doW_word {a b : Int} (ha : Word a) (op : Int) : Word (doW op a b).1 := by
  have h0 : Word 0 := by unfold Word; omega
  have h1 : Word 1 := by unfold Word; omega
  unfold doW
  split
  · exact ex_word _
  split
  · exact ex_word _
  split
  · exact ex_word _
  split
  · split
    · exact h0
    · exact ex_word _
  split
  · split
    · exact h0
    · exact tmod_word ha
  split
  · exact ex_word _
  split
  · split
    · exact h1
    · exact h0
  split
  · split
    · exact h1
    · exact h0
  split
  · exact low_word _
  split
  · exact low_word _
  split
  · exact down_word ha _
  · exact h0
/-- The highest bits of a product. -/
def hi (a b : Int) : Int := a * b / 4294967296
theorem hi_word {a b : Int} (ha : Word a) (hb : Word b) : Word (hi a b) := by
  have h := mul_bound ha hb
  unfold Word hi
  generalize a * b = p at *
  omega
theorem hi_down {p : Int} : p / 4294967296 = if p.tmod 4294967296 < 0 then p.tdiv 4294967296 - 1 else p.tdiv 4294967296 := by
  by_cases h : 0 ≤ p
  · rw [tmod_pos h, Int.tdiv_eq_ediv_of_nonneg h]
    split <;> omega
  · rw [tmod_neg (by omega)]
    have h1 : (-p).tdiv 4294967296 = -(p.tdiv 4294967296) := Int.neg_tdiv _ _
    rw [Int.tdiv_eq_ediv_of_nonneg (by omega)] at h1
    split <;> omega
theorem hi_low (p : Int) : p = p / 4294967296 * 4294967296 + (if low p < 0 then low p + 4294967296 else low p) := by
  unfold low
  split <;> omega
end Go.Proofs.YtbekfjjajggffaaDoor.word

/-
  What is wrong with declared objects, and where, their bytes, and the objects with which bytes begin: plain mathematics of lists and numbers, and that putting and getting undo each other. No condition.
-/
namespace Go.Proofs.YtbekfjjajggffaaDoor.objs
open Go.Proofs.YtbekfjjajggffaaDoor.octet (St rdByte rdNum rdInt num zig zag num_back num_once zig_zag zag_zig zig_lt num_length_le dec enc_length_pos rdNum_ok rdByte_ok)
open Go.Proofs.YtbekfjjajggffaaDoor.word (Word)

/-- An object: its kind, and two numbers. -/
abbrev De := Int × Int × Int
def zero : De := (0, 0, 0)
def names : List ByteArray := [⟨#[]⟩, ⟨#[109, 117, 116, 101, 120]⟩, ⟨#[114, 119]⟩, ⟨#[115, 101, 109]⟩, ⟨#[99, 111, 110, 100]⟩, ⟨#[98, 97, 114]⟩, ⟨#[112, 111, 111, 108]⟩, ⟨#[99, 101, 108, 108]⟩]
/-- A kind's name. -/
def nameK (k : Int) : ByteArray := if 0 < k ∧ k < 8 then names.getD k.toNat ⟨#[]⟩ else ⟨#[]⟩
/-- The kinds that a letter stands for. -/
def kindsOf (c : UInt8) : List Int :=
  if c = 117 then [1, 2] else if c = 115 then [3] else if c = 112 then [6] else if c = 99 then [4] else if c = 109 then [1] else if c = 98 then [5] else if c = 118 then [7] else if c = 113 then [1, 6] else []
/-- Is an object there, and of a kind that a letter stands for? -/
def fits (l : List De) (c : UInt8) (o : Int) : Bool := decide (0 ≤ o ∧ o < (l.length : Int)) && (kindsOf c).contains (l.getD o.toNat zero).1
/-- What is wrong with an object. -/
def one (l : List De) (d : De) : Nat :=
  if d.1 < 1 ∨ 7 < d.1 then 6
  else if d.1 = 3 ∧ (d.2.2 < 1 ∨ 1000 < d.2.2 ∨ d.2.1 < 0 ∨ d.2.2 < d.2.1) then 1
  else if d.1 = 6 ∧ (d.2.1 < 1 ∨ 1000 < d.2.1) then 1
  else if d.1 = 7 ∧ (¬ Word d.2.1 ∨ fits l 117 d.2.2 = false) then 1
  else if (d.1 ≠ 3 ∧ d.1 ≠ 7 ∧ d.2.2 ≠ 0) ∨ (d.1 ≠ 3 ∧ d.1 ≠ 6 ∧ d.1 ≠ 7 ∧ d.2.1 ≠ 0) then 2 else 0
/-- Where the first one stands that may not be, and why. -/
def bad (l : List De) : Nat := l.findIdx fun d => one l d != 0
def chk (l : List De) : Int × Nat := if 32 < l.length then (0, 4) else if bad l < l.length then ((bad l : Int), one l (l.getD (bad l) zero)) else (0, 0)

theorem one_le (l : List De) (d : De) : one l d ≤ 6 := by
  unfold one
  split
  · omega
  · split
    · omega
    · split
      · omega
      · split
        · omega
        · split <;> omega
/-- An object that may be: its kind is one, and its numbers are small. -/
theorem one_zero {l : List De} {d : De} (h : one l d = 0) : (1 ≤ d.1 ∧ d.1 ≤ 7) ∧ (d.1 = 3 → 1 ≤ d.2.2 ∧ d.2.2 ≤ 1000 ∧ 0 ≤ d.2.1 ∧ d.2.1 ≤ d.2.2) ∧ (d.1 = 6 → 1 ≤ d.2.1 ∧ d.2.1 ≤ 1000) ∧ (d.1 = 7 → Word d.2.1 ∧ fits l 117 d.2.2 = true) ∧ (d.1 ≠ 3 → d.1 ≠ 7 → d.2.2 = 0) ∧ (d.1 ≠ 3 → d.1 ≠ 6 → d.1 ≠ 7 → d.2.1 = 0) := by
  unfold one at h
  split at h
  · cases h
  · split at h
    · cases h
    · split at h
      · cases h
      · split at h
        · cases h
        · split at h
          · cases h
          · rename_i h1 h2 h3 h4 h5
            refine ⟨by omega, fun e => ?_, fun e => ?_, fun e => ?_, fun e1 e2 => ?_, fun e1 e2 e3 => ?_⟩
            · have : ¬ (d.2.2 < 1 ∨ 1000 < d.2.2 ∨ d.2.1 < 0 ∨ d.2.2 < d.2.1) := fun h => h2 ⟨e, h⟩
              omega
            · have : ¬ (d.2.1 < 1 ∨ 1000 < d.2.1) := fun h => h3 ⟨e, h⟩
              omega
            · have : ¬ (¬ Word d.2.1 ∨ fits l 117 d.2.2 = false) := fun h => h4 ⟨e, h⟩
              refine ⟨Classical.byContradiction fun h => this (.inl h), ?_⟩
              cases hf : fits l 117 d.2.2 with
              | true => rfl
              | false => exact absurd (.inr hf) this
            · exact Classical.byContradiction fun h => h5 (.inl ⟨e1, e2, h⟩)
            · exact Classical.byContradiction fun h => h5 (.inr ⟨e1, e2, e3, h⟩)
theorem fits_lt {l : List De} {c : UInt8} {o : Int} (h : fits l c o = true) : 0 ≤ o ∧ o < (l.length : Int) := by
  unfold fits at h
  rw [Bool.and_eq_true, decide_eq_true_iff] at h
  exact h.1
theorem bad_le (l : List De) : bad l ≤ l.length := List.findIdx_le_length
theorem bad_of {l : List De} {j : Nat} (h : j ≤ bad l) (hj : j < l.length) (he : one l (l.getD j zero) ≠ 0) : bad l = j := by
  rcases Nat.lt_or_ge j (bad l) with h1 | h1
  · have := List.not_of_lt_findIdx (p := fun d => one l d != 0) (xs := l) h1
    rw [List.getD_eq_getElem?_getD, List.getElem?_eq_getElem hj, Option.getD_some] at he
    simp [he] at this
  · omega
theorem bad_next {l : List De} {j : Nat} (h : j ≤ bad l) (hj : j < l.length) (he : one l (l.getD j zero) = 0) : j + 1 ≤ bad l := by
  rcases Nat.eq_or_lt_of_le h with h1 | h1
  · exfalso
    have hl : l.findIdx (fun d => one l d != 0) < l.length := by show bad l < l.length; omega
    have := List.findIdx_getElem (p := fun d => one l d != 0) (xs := l) (w := hl)
    have e : l[l.findIdx (fun d => one l d != 0)]'hl = l.getD j zero := by
      rw [List.getD_eq_getElem?_getD, List.getElem?_eq_getElem hj, Option.getD_some]
      congr 1
      exact h1.symm
    rw [e, he] at this
    cases this
  · omega
theorem chk_long {l : List De} (h : 32 < l.length) : chk l = (0, 4) := by unfold chk; rw [if_pos h]
theorem chk_bad {l : List De} {j : Nat} (hl : ¬ 32 < l.length) (h : j ≤ bad l) (hj : j < l.length) (he : one l (l.getD j zero) ≠ 0) : chk l = ((j : Int), one l (l.getD j zero)) := by
  unfold chk
  rw [if_neg hl, bad_of h hj he, if_pos hj]
theorem chk_fine {l : List De} (hl : ¬ 32 < l.length) (h : l.length ≤ bad l) : chk l = (0, 0) := by
  unfold chk
  rw [if_neg hl, if_neg (by omega)]
theorem chk_zero {l : List De} (h : (chk l).2 = 0) : l.length ≤ 32 ∧ chk l = (0, 0) ∧ ∀ j, j < l.length → one l (l.getD j zero) = 0 := by
  unfold chk at h ⊢
  by_cases h1 : 32 < l.length
  · rw [if_pos h1] at h; cases h
  · rw [if_neg h1] at h ⊢
    by_cases h2 : bad l < l.length
    · rw [if_pos h2] at h
      exfalso
      have hl : l.findIdx (fun d => one l d != 0) < l.length := h2
      have := List.findIdx_getElem (p := fun d => one l d != 0) (xs := l) (w := hl)
      have e : l.getD (bad l) zero = l[l.findIdx (fun d => one l d != 0)]'hl := by
        rw [List.getD_eq_getElem?_getD, List.getElem?_eq_getElem h2, Option.getD_some]
        rfl
      dsimp only at h
      rw [e] at h
      simp [h] at this
    · rw [if_neg h2]
      refine ⟨by omega, rfl, fun j hj => ?_⟩
      have hj2 : j < bad l := by omega
      have := List.not_of_lt_findIdx (p := fun d => one l d != 0) (xs := l) hj2
      rw [List.getD_eq_getElem?_getD, List.getElem?_eq_getElem hj, Option.getD_some]
      simpa using this

/-- The bytes of an object. -/
def pieceA (k a : Int) : List UInt8 := if k = 3 ∨ k = 6 then num a.toNat else if k = 7 then num (zig a) else []
def pieceB (k b : Int) : List UInt8 := if k = 3 ∨ k = 7 then num b.toNat else []
def encD (d : De) : List UInt8 := UInt8.ofNat d.1.toNat :: (pieceA d.1 d.2.1 ++ pieceB d.1 d.2.2)
/-- The bytes of the first j of some. -/
def encs (l : List De) : Nat → List UInt8
  | 0 => []
  | j + 1 => encs l j ++ encD (l.getD j zero)
def encL (l : List De) : List UInt8 := num l.length ++ encs l l.length
theorem encD_le (d : De) : (encD d).length ≤ 21 := by
  have h1 : (pieceA d.1 d.2.1).length ≤ 10 := by
    unfold pieceA
    split
    · exact num_length_le _
    · split
      · exact num_length_le _
      · simp
  have h2 : (pieceB d.1 d.2.2).length ≤ 10 := by
    unfold pieceB
    split
    · exact num_length_le _
    · simp
  simp only [encD, List.length_cons, List.length_append]
  omega
theorem encs_le (l : List De) : ∀ j, (encs l j).length ≤ 21 * j := by
  intro j
  induction j with
  | zero => simp [encs]
  | succ j ih =>
    have := encD_le (l.getD j zero)
    simp only [encs, List.length_append]
    omega
theorem encL_le (l : List De) : (encL l).length ≤ 10 + 21 * l.length := by
  have h1 := num_length_le l.length
  have h2 := encs_le l l.length
  simp only [encL, List.length_append]
  omega

/-- A number that is read; a great one is out of every range. -/
def rdN (s : St) : Int × St := (((min (rdNum s).1 2147483648 : Nat) : Int), (rdNum s).2)
def rdA (k : Nat) (s : St) : Int × St := if k = 3 ∨ k = 6 then rdN s else if k = 7 then rdInt s else (0, s)
def rdB (k : Nat) (s : St) : Int × St := if k = 3 ∨ k = 7 then rdN s else (0, s)
/-- An object that is read: what is left, and what is wrong. -/
def rdD (s : St) : De × St × Nat :=
  let y := rdByte s
  if y.2.err = 0 ∧ (y.1 < 1 ∨ 7 < y.1) then (zero, y.2, 6)
  else (((y.1 : Int), (rdA y.1 y.2).1, (rdB y.1 (rdA y.1 y.2).2).1), (rdB y.1 (rdA y.1 y.2).2).2, (rdB y.1 (rdA y.1 y.2).2).2.err)
/-- The first j of them. -/
def rdL (s : St) : Nat → List De × St × Nat
  | 0 => ([], s, 0)
  | j + 1 =>
    let p := rdL s j
    if p.2.2 ≠ 0 then p
    else if (rdD p.2.1).2.2 ≠ 0 then ([], (rdD p.2.1).2.1, (rdD p.2.1).2.2)
    else (p.1 ++ [(rdD p.2.1).1], (rdD p.2.1).2.1, 0)
def readL (s : St) : List De × St × Nat :=
  let n := rdN s
  if n.2.err ≠ 0 then ([], n.2, n.2.err)
  else if 32 < n.1 then ([], n.2, 4)
  else
    let p := rdL n.2 n.1.toNat
    if p.2.2 ≠ 0 then ([], p.2.1, p.2.2)
    else if (chk p.1).2 ≠ 0 then ([], p.2.1, (chk p.1).2)
    else (p.1, p.2.1, 0)
/-- The objects with which bytes begin, how many bytes they are, the first error. -/
def getL (l : List UInt8) : List De × Nat × Nat :=
  let r := readL ⟨l, 0⟩
  if r.2.2 ≠ 0 then ([], 0, r.2.2) else (r.1, l.length - r.2.1.rest.length, 0)
end Go.Proofs.YtbekfjjajggffaaDoor.objs

/-
  What was put of objects is got again, whatever stands behind; what was got, put, is just the bytes that it had. Plain mathematics; no condition.
-/
namespace Go.Proofs.YtbekfjjajggffaaDoor.objs
open Go.Proofs.YtbekfjjajggffaaDoor.octet (St rdByte rdNum rdInt num zig zag num_back num_once zig_zag zag_zig zig_lt num_length_le dec enc_length_pos rdNum_ok rdByte_ok)
open Go.Proofs.YtbekfjjajggffaaDoor.word (Word)

theorem rdNum_back {n : Nat} (h : n < 18446744073709551616) (more : List UInt8) : rdNum ⟨num n ++ more, 0⟩ = (n, ⟨more, 0⟩) := by
  have hz := num_back h more
  unfold rdNum
  simp only [ne_eq, not_true_eq_false, if_false, hz]
theorem rdN_back {n : Nat} (h : n ≤ 2147483648) (more : List UInt8) : rdN ⟨num n ++ more, 0⟩ = ((n : Int), ⟨more, 0⟩) := by
  unfold rdN
  rw [rdNum_back (by omega)]
  dsimp only
  rw [Nat.min_eq_left h]
theorem rdInt_back {n : Int} (h : Word n) (more : List UInt8) : rdInt ⟨num (zig n) ++ more, 0⟩ = (n, ⟨more, 0⟩) := by
  unfold Word at h
  unfold rdInt
  rw [rdNum_back (zig_lt (by omega) (by omega))]
  dsimp only
  rw [zag_zig]
theorem rdD_back {l : List De} {d : De} (h : one l d = 0) (hl : l.length ≤ 32) (more : List UInt8) : rdD ⟨encD d ++ more, 0⟩ = (d, ⟨more, 0⟩, 0) := by
  obtain ⟨h0, h3, h6, h7, hb, ha⟩ := one_zero h
  obtain ⟨k, a, b⟩ := d
  dsimp only at h0 h3 h6 h7 hb ha
  have hy : rdByte ⟨encD (k, a, b) ++ more, 0⟩ = (k.toNat, ⟨pieceA k a ++ (pieceB k b ++ more), 0⟩) := by
    unfold rdByte encD
    simp only [ne_eq, not_true_eq_false, if_false, List.cons_append, List.append_assoc]
    congr 1
    rw [UInt8.toNat_ofNat']
    omega
  have hA : rdA k.toNat ⟨pieceA k a ++ (pieceB k b ++ more), 0⟩ = (a, ⟨pieceB k b ++ more, 0⟩) := by
    unfold rdA pieceA
    by_cases e : k = 3 ∨ k = 6
    · rw [if_pos (by omega), if_pos e, rdN_back (by omega)]
      congr 1
      omega
    · rw [if_neg (by omega), if_neg e]
      by_cases e7 : k = 7
      · rw [if_pos (by omega), if_pos e7, rdInt_back (h7 e7).1]
      · rw [if_neg (by omega), if_neg e7, ha (by omega) (by omega) e7]
        rfl
  have hB : rdB k.toNat ⟨pieceB k b ++ more, 0⟩ = (b, ⟨more, 0⟩) := by
    unfold rdB pieceB
    by_cases e : k = 3 ∨ k = 7
    · rw [if_pos (by omega), if_pos e]
      have hbb : 0 ≤ b ∧ b ≤ 1000 := by
        rcases e with e | e
        · have := h3 e; omega
        · have := fits_lt (h7 e).2; omega
      rw [rdN_back (by omega)]
      congr 1
      omega
    · rw [if_neg (by omega), if_neg e, hb (by omega) (by omega)]
      rfl
  unfold rdD
  simp only [hy, hA, hB]
  rw [if_neg (by omega)]
  congr 2
  omega
theorem rdL_back {l : List De} (hl : l.length ≤ 32) (h : ∀ j, j < l.length → one l (l.getD j zero) = 0) : ∀ j, j ≤ l.length → ∀ more, rdL ⟨encs l j ++ more, 0⟩ j = (l.take j, ⟨more, 0⟩, 0) := by
  intro j
  induction j with
  | zero => intro _ more; rfl
  | succ j ih =>
    intro hj more
    have h1 := ih (by omega) (encD (l.getD j zero) ++ more)
    have h2 := rdD_back (h j (by omega)) hl more
    simp only [encs, List.append_assoc, rdL]
    rw [h1]
    simp only [h2]
    rw [if_neg (by decide), if_neg (by decide), List.take_add_one, List.getD_eq_getElem?_getD, List.getElem?_eq_getElem (by omega)]
    rfl
theorem back {l : List De} (h : (chk l).2 = 0) (more : List UInt8) : getL (encL l ++ more) = (l, (encL l).length, 0) := by
  obtain ⟨hl, _, hall⟩ := chk_zero h
  have hn : rdN ⟨encL l ++ more, 0⟩ = ((l.length : Int), ⟨encs l l.length ++ more, 0⟩) := by
    unfold encL
    rw [List.append_assoc, rdN_back (by omega)]
  have hL := rdL_back hl hall l.length (Nat.le_refl _) more
  unfold getL readL
  have h32 : ¬ (32 : Int) < (l.length : Int) := by omega
  simp only [hn, Int.toNat_natCast, hL, List.take_length, h, ne_eq, not_true_eq_false, if_false, if_neg h32]
  simp

theorem rdNum_once {l : List UInt8} (h : (rdNum ⟨l, 0⟩).2.err = 0) : l = num (rdNum ⟨l, 0⟩).1 ++ (rdNum ⟨l, 0⟩).2.rest := by
  unfold rdNum at h ⊢
  simp only [ne_eq, not_true_eq_false, if_false] at h ⊢
  exact (num_once (l := l) (v := (dec l 0 0).1) (rest := (dec l 0 0).2.1) (Prod.ext rfl (Prod.ext rfl h))).1
theorem rdN_once {l : List UInt8} (h : (rdN ⟨l, 0⟩).2.err = 0) (hs : (rdN ⟨l, 0⟩).1 < 2147483648) : l = num (rdN ⟨l, 0⟩).1.toNat ++ (rdN ⟨l, 0⟩).2.rest := by
  unfold rdN at h hs ⊢
  dsimp only at h hs ⊢
  have e : ((min (rdNum ⟨l, 0⟩).1 2147483648 : Nat) : Int).toNat = (rdNum ⟨l, 0⟩).1 := by omega
  rw [e]
  exact rdNum_once h
theorem rdInt_once {l : List UInt8} (h : (rdInt ⟨l, 0⟩).2.err = 0) : l = num (zig (rdInt ⟨l, 0⟩).1) ++ (rdInt ⟨l, 0⟩).2.rest := by
  unfold rdInt at h ⊢
  dsimp only at h ⊢
  rw [zig_zag]
  exact rdNum_once h
theorem rdNum_err {s : St} (h : s.err ≠ 0) : (rdNum s).2 = s := by
  unfold rdNum
  rw [if_pos h]
theorem rdB_err {k : Nat} {s : St} (h : s.err ≠ 0) : (rdB k s).2 = s := by
  unfold rdB rdN
  split
  · exact rdNum_err h
  · rfl
theorem rdA_err {k : Nat} {s : St} (h : s.err ≠ 0) : (rdA k s).2 = s := by
  unfold rdA rdN rdInt
  split
  · exact rdNum_err h
  · split
    · exact rdNum_err h
    · rfl
theorem rdD_once {l : List De} {L : List UInt8} (he : (rdD ⟨L, 0⟩).2.2 = 0) (hl : l.length ≤ 32) (h : one l (rdD ⟨L, 0⟩).1 = 0) : L = encD (rdD ⟨L, 0⟩).1 ++ (rdD ⟨L, 0⟩).2.1.rest ∧ (rdD ⟨L, 0⟩).2.1.err = 0 := by
  unfold rdD at he h ⊢
  dsimp only at he h ⊢
  split at he
  · cases he
  · rename_i hc
    rw [if_neg hc] at h ⊢
    dsimp only at he h ⊢
    obtain ⟨x, r, rfl⟩ : ∃ x r, L = x :: r := by
      cases L with
      | nil =>
        exfalso
        have e0 : (rdByte ⟨[], 0⟩).2.err ≠ 0 := by decide
        rw [rdA_err e0, rdB_err e0] at he
        exact e0 he
      | cons x r => exact ⟨x, r, rfl⟩
    have hy : rdByte ⟨x :: r, 0⟩ = (x.toNat, ⟨r, 0⟩) := rfl
    rw [hy] at he h hc ⊢
    dsimp only at he h hc ⊢
    have hA0 : (rdA x.toNat ⟨r, 0⟩).2.err = 0 := by
      rcases Nat.eq_zero_or_pos (rdA x.toNat ⟨r, 0⟩).2.err with e | e
      · exact e
      · rw [rdB_err (by omega)] at he; exact he
    obtain ⟨h0, h3, h6, h7, hb, ha⟩ := one_zero h
    dsimp only at h0 h3 h6 h7 hb ha
    have hA : r = pieceA (x.toNat : Int) (rdA x.toNat ⟨r, 0⟩).1 ++ (rdA x.toNat ⟨r, 0⟩).2.rest := by
      unfold rdA at hA0 h3 h6 h7 ⊢
      unfold pieceA
      by_cases e : x.toNat = 3 ∨ x.toNat = 6
      · rw [if_pos e] at hA0 h3 h6 ⊢
        rw [if_pos (by omega)]
        refine rdN_once hA0 ?_
        rcases e with e | e
        · have := h3 (by omega); omega
        · have := h6 (by omega); omega
      · rw [if_neg e] at hA0 ⊢
        rw [if_neg (by omega)]
        by_cases e7 : x.toNat = 7
        · rw [if_pos e7] at hA0 ⊢
          rw [if_pos (by omega)]
          exact rdInt_once hA0
        · rw [if_neg e7, if_neg (by omega)]
          rfl
    generalize rdA x.toNat ⟨r, 0⟩ = q at *
    obtain ⟨a, R, E⟩ := q
    dsimp only at hA0 hA he h3 h6 h7 hb ha ⊢
    subst hA0
    have hB : R = pieceB (x.toNat : Int) (rdB x.toNat ⟨R, 0⟩).1 ++ (rdB x.toNat ⟨R, 0⟩).2.rest := by
      unfold rdB at he h3 h7 ⊢
      unfold pieceB
      by_cases e : x.toNat = 3 ∨ x.toNat = 7
      · rw [if_pos e] at he h3 h7 ⊢
        rw [if_pos (by omega)]
        refine rdN_once he ?_
        rcases e with e | e
        · have := h3 (by omega); omega
        · have := fits_lt (h7 (by omega)).2; omega
      · rw [if_neg e] at he ⊢
        rw [if_neg (by omega)]
        rfl
    refine ⟨?_, he⟩
    unfold encD
    dsimp only
    rw [Int.toNat_natCast, List.cons_append, List.append_assoc, ← hB, ← hA]
    congr 1
    exact UInt8.ofNat_toNat.symm
theorem rdL_err {s : St} {j : Nat} (h : (rdL s j).2.2 ≠ 0) : ∀ k, j ≤ k → (rdL s k).2.2 ≠ 0 := by
  intro k hk
  induction k with
  | zero =>
    obtain rfl : j = 0 := by omega
    exact h
  | succ k ih =>
    rcases Nat.eq_or_lt_of_le hk with e | e
    · subst e; exact h
    · have := ih (by omega)
      simp only [rdL]
      rw [if_pos this]
      exact this
theorem rdL_length {s : St} : ∀ j, (rdL s j).2.2 = 0 → (rdL s j).1.length = j := by
  intro j
  induction j with
  | zero => intro _; rfl
  | succ j ih =>
    intro h
    simp only [rdL] at h ⊢
    split at h
    · exact absurd h ‹_›
    · rename_i h1
      have := ih (by omega)
      rw [if_neg h1]
      split at h
      · exact absurd h ‹_›
      · rename_i h2
        rw [if_neg h2, List.length_append, this]
        rfl
theorem getD_left {l r : List De} {i : Nat} (h : i < l.length) : (l ++ r).getD i zero = l.getD i zero := by
  rw [List.getD_eq_getElem?_getD, List.getD_eq_getElem?_getD, List.getElem?_append_left h]
theorem getD_last {l : List De} {x : De} {i : Nat} (h : l.length = i) : (l ++ [x]).getD i zero = x := by
  subst h
  rw [List.getD_eq_getElem?_getD, List.getElem?_append_right (Nat.le_refl _), Nat.sub_self]
  rfl
theorem encs_left {l r : List De} : ∀ j, j ≤ l.length → encs (l ++ r) j = encs l j := by
  intro j
  induction j with
  | zero => intro _; rfl
  | succ j ih =>
    intro h
    simp only [encs]
    rw [ih (by omega), getD_left (by omega)]
theorem rdL_once {M : List De} (hM : M.length ≤ 32) : ∀ j (L : List UInt8), (rdL ⟨L, 0⟩ j).2.2 = 0 → (∀ i, i < j → one M ((rdL ⟨L, 0⟩ j).1.getD i zero) = 0) → L = encs (rdL ⟨L, 0⟩ j).1 j ++ (rdL ⟨L, 0⟩ j).2.1.rest ∧ (rdL ⟨L, 0⟩ j).2.1.err = 0 := by
  intro j
  induction j with
  | zero => intro L _ _; exact ⟨rfl, rfl⟩
  | succ j ih =>
    intro L he hall
    have h0 : (rdL ⟨L, 0⟩ j).2.2 = 0 := by
      rcases Nat.eq_zero_or_pos (rdL ⟨L, 0⟩ j).2.2 with h | h
      · exact h
      · exact absurd he (rdL_err (j := j) (by omega) (j + 1) (by omega))
    have hlen := rdL_length j h0
    simp only [rdL] at he hall ⊢
    rw [if_neg (by omega)] at he hall ⊢
    split at he
    · exact absurd he ‹_›
    · rename_i h2
      rw [if_neg h2] at hall ⊢
      dsimp only at he hall ⊢
      have h1 := ih L h0 (fun i hi => by
        have := hall i (by omega)
        rwa [getD_left (by omega)] at this)
      have hj := hall j (by omega)
      rw [getD_last hlen] at hj
      simp only [encs]
      rw [encs_left j (by omega), getD_last hlen]
      generalize rdL ⟨L, 0⟩ j = p at *
      obtain ⟨ls, ⟨R, E⟩, e⟩ := p
      dsimp only at h0 hlen h1 hj h2 ⊢
      obtain ⟨h1, h1e⟩ := h1
      subst h1e
      have h3 := rdD_once (l := M) (L := R) (by omega) hM hj
      refine ⟨?_, h3.2⟩
      rw [List.append_assoc, ← h3.1]
      exact h1
theorem got_bad {l : List UInt8} (h : (getL l).2.2 ≠ 0) : getL l = ([], 0, (getL l).2.2) := by
  unfold getL at h ⊢
  dsimp only at h ⊢
  split
  · rfl
  · rename_i h1
    rw [if_neg h1] at h
    exact absurd rfl h
theorem once {t : List UInt8} (h : (getL t).2.2 = 0) : (chk (getL t).1).2 = 0 ∧ 0 < (getL t).2.1 ∧ (getL t).2.1 ≤ t.length ∧ encL (getL t).1 = t.take (getL t).2.1 := by
  unfold getL readL at h ⊢
  dsimp only at h ⊢
  by_cases h1 : (rdN ⟨t, 0⟩).2.err ≠ 0
  · simp only [if_pos h1] at h; exact absurd h h1
  · simp only [if_neg h1] at h ⊢
    by_cases h2 : 32 < (rdN ⟨t, 0⟩).1
    · simp only [if_pos h2] at h; cases h
    · simp only [if_neg h2] at h ⊢
      have hn := rdN_once (l := t) (by omega) (by omega)
      have hn0 : 0 ≤ (rdN ⟨t, 0⟩).1 := by unfold rdN; dsimp only; omega
      generalize rdN ⟨t, 0⟩ = q at *
      obtain ⟨n, ⟨R, E⟩⟩ := q
      dsimp only at h h1 h2 hn hn0 ⊢
      obtain rfl : E = 0 := by omega
      by_cases h3 : (rdL ⟨R, 0⟩ n.toNat).2.2 ≠ 0
      · simp only [if_pos h3] at h; exact absurd h h3
      · simp only [if_neg h3] at h ⊢
        by_cases h4 : (chk (rdL ⟨R, 0⟩ n.toNat).1).2 ≠ 0
        · simp only [if_pos h4] at h; exact absurd h h4
        · simp only [if_neg h4] at h ⊢
          have hlen := rdL_length n.toNat (by omega : (rdL ⟨R, 0⟩ n.toNat).2.2 = 0)
          obtain ⟨hl, _, hall⟩ := chk_zero (by omega : (chk (rdL ⟨R, 0⟩ n.toNat).1).2 = 0)
          have ho := (rdL_once hl n.toNat R (by omega) (fun i hi => hall i (by omega))).1
          generalize rdL ⟨R, 0⟩ n.toNat = p at *
          obtain ⟨ls, S, e⟩ := p
          dsimp only at h3 h4 hlen hl hall ho ⊢
          have hE : t = encL ls ++ S.rest := by
            unfold encL
            rw [hlen, List.append_assoc, ← ho]
            exact hn
          have hpos : 0 < (encL ls).length := by
            have := enc_length_pos 9 ls.length
            simp only [encL, List.length_append]
            have e : (num ls.length).length = (Go.Proofs.YtbekfjjajggffaaDoor.octet.enc 9 ls.length).length := rfl
            omega
          have hlt : t.length = (encL ls).length + S.rest.length := by rw [hE, List.length_append]
          simp only [ne_eq, not_true_eq_false, if_false]
          refine ⟨by omega, by omega, by omega, ?_⟩
          rw [show t.length - S.rest.length = (encL ls).length from by omega, hE, List.take_left']
          rfl
end Go.Proofs.YtbekfjjajggffaaDoor.objs

/-
  A list of objects as it lies in memory, wherever it came from; and a row of them that a call owns. No condition.
-/
namespace Go.Proofs.YtbekfjjajggffaaDoor.objs
open Go.RowKit Go.ChangeShapes
set_option linter.unusedVariables false

/-- The three cells of an object. -/
def CellsAt (w : World) (b i : Nat) (d : De) : Prop := w.cell? ⟨b, i, none⟩ = some (.int .i64 d.1) ∧ w.cell? ⟨b, i + 1, none⟩ = some (.int .i64 d.2.1) ∧ w.cell? ⟨b, i + 2, none⟩ = some (.int .i64 d.2.2)
/-- A list of objects, one behind the other, from where a slice begins. -/
def DAt (w : World) (A : Option Addr) (l : List De) : Prop := ∀ j, j < l.length → ∃ b off, A = some ⟨b, off, none⟩ ∧ b < w.heap.size ∧ CellsAt w b (off + j * 3) (l.getD j zero)
theorem CellsAt.keep {w w' : World} {b i : Nat} {d : De} (h : CellsAt w b i d) (hb : w'.heap[b]? = w.heap[b]?) : CellsAt w' b i d :=
  ⟨(World.cell?_of_block (a := ⟨b, i, none⟩) hb).trans h.1, (World.cell?_of_block (a := ⟨b, i + 1, none⟩) hb).trans h.2.1, (World.cell?_of_block (a := ⟨b, i + 2, none⟩) hb).trans h.2.2⟩
theorem DAt.next {w w' : World} {A : Option Addr} {l : List De} (h : DAt w A l) (hb : Below w.heap.size w w') : DAt w' A l := fun j hj => by
  obtain ⟨b, off, h1, h2, h3⟩ := h j hj
  exact ⟨b, off, h1, Nat.lt_of_lt_of_le h2 hb.size, h3.keep (hb.block b h2)⟩
theorem DAt.drew {w : World} {A : Option Addr} {l : List De} (h : DAt w A l) : DAt w.drew A l := h
theorem DAt.drewN {w : World} {A : Option Addr} {l : List De} (h : DAt w A l) : ∀ n, DAt (w.drewN n) A l
  | 0 => h
  | n + 1 => (DAt.drewN h n).drew
theorem DAt.nil (w : World) (A : Option Addr) : DAt w A [] := fun j hj => absurd hj (Nat.not_lt_zero j)
theorem DAt.take {w : World} {A : Option Addr} {l : List De} (h : DAt w A l) (n : Nat) : DAt w A (l.take n) := fun j hj => by
  rw [List.length_take] at hj
  obtain ⟨b, off, h1, h2, h3⟩ := h j (by omega)
  refine ⟨b, off, h1, h2, ?_⟩
  rwa [List.getD_eq_getElem?_getD, List.getElem?_take_of_lt (by omega), ← List.getD_eq_getElem?_getD]

/-- Objects, cell by cell. -/
def flat (l : List De) : List Value := l.flatMap fun d => [.int .i64 d.1, .int .i64 d.2.1, .int .i64 d.2.2]
theorem flat_append (l r : List De) : flat (l ++ r) = flat l ++ flat r := by simp [flat]
theorem flat_cons (d : De) (l : List De) : flat (d :: l) = .int .i64 d.1 :: .int .i64 d.2.1 :: .int .i64 d.2.2 :: flat l := by simp [flat]
theorem flat_length (l : List De) : (flat l).length = l.length * 3 := by
  induction l with
  | nil => rfl
  | cons d l ih => rw [flat_cons]; simp only [List.length_cons, ih]; omega
theorem flat_oneCell (l : List De) : ∀ u ∈ flat l, u.oneCell' = true := by
  intro u hu
  simp only [flat, List.mem_flatMap] at hu
  obtain ⟨d, _, hd⟩ := hu
  simp only [List.mem_cons, List.not_mem_nil, or_false] at hd
  rcases hd with rfl | rfl | rfl <;> rfl
theorem flat_at (l : List De) : ∀ j, j < l.length → (flat l)[j * 3]? = some (.int .i64 (l.getD j zero).1) ∧ (flat l)[j * 3 + 1]? = some (.int .i64 (l.getD j zero).2.1) ∧ (flat l)[j * 3 + 2]? = some (.int .i64 (l.getD j zero).2.2) := by
  induction l with
  | nil => intro j hj; exact absurd hj (Nat.not_lt_zero j)
  | cons d l ih =>
    intro j hj
    rw [flat_cons]
    cases j with
    | zero => exact ⟨rfl, rfl, rfl⟩
    | succ j =>
      obtain ⟨h1, h2, h3⟩ := ih j (by simpa using hj)
      rw [show (j + 1) * 3 = j * 3 + 1 + 1 + 1 from by omega]
      exact ⟨h1, h2, h3⟩

/-- A slice's value of objects, nil or a row of the call's own. -/
def Own (w : World) (base : Nat) (v : Value) (l : List De) : Prop := w.ownsRow base 48 3 v l.length (flat l)
theorem Own.nil (w : World) (base : Nat) : Own w base (.slice none 0 0) [] := World.ownsRow_nil ..
theorem Own.empty {w : World} {g : Nat} (h : w.heap[g]? = some (.cells #[] 48 (0, 0))) : Own w g (.slice (some ⟨g, 0, none⟩) 0 0) [] :=
  ⟨rfl, .inr ⟨g, 0, #[], rfl, Nat.le_refl _, h, Nat.le_refl _, Nat.zero_le _, rfl, rfl⟩⟩
theorem Own.slice {w : World} {base : Nat} {v : Value} {l : List De} (h : Own w base v l) : ∃ A cap, v = .slice A l.length cap := by
  rcases h.2 with ⟨rfl, h0⟩ | ⟨g, cap, cur, rfl, _⟩
  · exact ⟨none, 0, by rw [h0]⟩
  · exact ⟨_, _, rfl⟩
theorem Own.at {w : World} {base cap : Nat} {A : Option Addr} {l : List De} {n : Nat} (h : Own w base (.slice A n cap) l) : DAt w A l := by
  intro j hj
  rcases h.2 with ⟨e, h0⟩ | ⟨g, cap', cur, e, hb, hh, _⟩
  · omega
  · injection e with e1 e2 e3
    subst e1
    obtain ⟨h1, h2, h3⟩ := flat_at l j hj
    refine ⟨g, 0, rfl, lt_of_block hh, ?_, ?_, ?_⟩
    · have := World.ownsRow.cells h (g := g) rfl _ _ h1
      rw [Addr.add_lit] at this
      simpa using this
    · have := World.ownsRow.cells h (g := g) rfl _ _ h2
      rw [Addr.add_lit] at this
      simpa using this
    · have := World.ownsRow.cells h (g := g) rfl _ _ h3
      rw [Addr.add_lit] at this
      simpa using this
theorem Own.keep {w w' : World} {base : Nat} {v : Value} {l : List De} (h : Own w base v l) (hk : ∀ g, v.ownBlock = some g → w'.heap[g]? = w.heap[g]?) : Own w' base v l := by
  refine ⟨h.1, h.2.imp id ?_⟩
  rintro ⟨g, c, cur, rfl, hb, hh, r⟩
  exact ⟨g, c, cur, rfl, hb, (hk g rfl).trans hh, r⟩
theorem Own.lt {w : World} {base g : Nat} {v : Value} {l : List De} (h : Own w base v l) (hg : v.ownBlock = some g) : base ≤ g ∧ g < w.heap.size := World.ownsRow.lt h g hg
theorem Own.next {w w' : World} {base : Nat} {v : Value} {l : List De} (h : Own w base v l) (hb : Below w.heap.size w w') : Own w' base v l := h.keep fun g hg => hb.block g (h.lt hg).2
theorem Own.base {w : World} {base base' : Nat} {v : Value} {l : List De} (h : Own w base v l) (hb : base' ≤ base) : Own w base' v l := by
  refine ⟨h.1, h.2.imp id ?_⟩
  rintro ⟨g, c, cur, e, hb1, r⟩
  exact ⟨g, c, cur, e, Nat.le_trans hb hb1, r⟩

theorem infoD : (Tryd.prog.info? 48).map (fun i => (i.zero, i.size, i.bytes)) = some (some (.agg #[.int .i64 0, .int .i64 0, .int .i64 0]), 3, 24) := by kernel_rfl

theorem src_cells {w : World} {ad : Addr} {r : List De} (h : DAt w (some ad) r) : ∀ (j : Nat) (u : Value), (flat r)[j]? = some u → w.cell? (ad.add j) = some u := by
  intro j u hu
  have hj : j < r.length * 3 := by
    have := (List.getElem?_eq_some_iff.1 hu).1
    rwa [flat_length] at this
  obtain ⟨b, off, e, _, h1, h2, h3⟩ := h (j / 3) (by omega)
  obtain rfl := Option.some.inj e
  obtain ⟨f1, f2, f3⟩ := flat_at r (j / 3) (by omega)
  rw [Addr.add_lit]
  rcases (by omega : j % 3 = 0 ∨ j % 3 = 1 ∨ j % 3 = 2) with hm | hm | hm
  · rw [show j / 3 * 3 = j from by omega] at h1 f1
    rw [h1, ← hu, f1]
  · rw [show off + j / 3 * 3 + 1 = off + j from by omega] at h2
    rw [show j / 3 * 3 + 1 = j from by omega] at f2
    rw [h2, ← hu, f2]
  · rw [show off + j / 3 * 3 + 2 = off + j from by omega] at h3
    rw [show j / 3 * 3 + 2 = j from by omega] at f3
    rw [h3, ← hu, f3]
/-- A list that lies anywhere, put behind a row of a call's own. -/
theorem run_appD (w : World) (ty : TypeId) (base m c : Nat) (v : Value) (A : Option Addr) (l r : List De) (hrow : Own w base v l) (hm : m = r.length) (hA : A = none → r = [] ∧ c = 0) (hsrc : DAt w A r) (hlen : l.length + r.length ≤ 100000) (hbase : base ≤ w.heap.size) :
    ∃ v' w', (Builtin.append_ #[22, 22] ty #[v, .slice A m c]).run Tryd.prog w = .ok v' w' ∧ Own w' base v' (l ++ r) ∧ w.grownBy w' v.ownBlock := by
  subst hm
  obtain ⟨i, hi, hz0, hz1, hz2⟩ := info_parts infoD
  cases A with
  | none =>
    obtain ⟨rfl, rfl⟩ := hA rfl
    refine ⟨v, w, run_append_owned_none (P := Tryd.prog) (w := w) base 22 ty 48 i 3 Tryd.underlying22 hi v l.length (flat l) hrow, ?_, ⟨rfl, rfl, rfl, Nat.le_refl _, fun _ _ _ => rfl⟩⟩
    rw [List.append_nil]
    exact hrow
  | some ad =>
    obtain ⟨v', w', h1, h2, h3, _⟩ := run_append_own (P := Tryd.prog) w base 22 ty 48 i _ 3 24 Tryd.underlying22 hi hz0 hz1 hz2 rfl (by omega) v l.length (flat l) hrow ad r.length c (flat r) (flat_length r) (src_cells hsrc) (flat_oneCell r) (by unfold maxLen; omega) (by omega) hbase
    refine ⟨v', w', h1, ?_, h3⟩
    unfold Own
    rw [List.length_append, flat_append]
    exact h2
theorem wp_appD {o : Oper} {a : Act} {w : World} {K : Act → World → Prop} {Q : Exit → Act → World → Prop} (s x : Operand)
    (ho : o.op = .call { callee := .builtin .append, args := #[s, x], argTypes := #[22, 22] }) (base m c : Nat) (v : Value) (A : Option Addr) (l r : List De)
    (hs : a.eval s = v) (hrow : Own w base v l) (hx : a.eval x = .slice A m c) (hm : m = r.length) (hA : A = none → r = [] ∧ c = 0) (hsrc : DAt w A r) (hlen : l.length + r.length ≤ 100000) (hbase : base ≤ w.heap.size)
    (h : ∀ v' w', Own w' base v' (l ++ r) → w.grownBy w' v.ownBlock → K (a.put o.dst v') w') : o.wp Tryd.prog a w K Q := by
  obtain ⟨v', w', hr, h2, h3⟩ := run_appD w o.type base m c v A l r hrow hm hA hsrc hlen hbase
  unfold Oper.wp execOp
  simp only [ho, resolve, invoke, builtin, Sem.run_bind, Sem.run_pure, Result.andThen_ok, List.map_toArray, List.map_cons, List.map_nil, hs, hx, hr]
  exact h v' w' h2 h3
theorem wpList_appD {ops : Array Oper} {rest : List Oper} {o : Oper} {a : Act} {w : World} {Q : Exit → Act → World → Prop} (hgd : o.guard = none) (s x : Operand)
    (ho : o.op = .call { callee := .builtin .append, args := #[s, x], argTypes := #[22, 22] }) (base m c : Nat) (v : Value) (A : Option Addr) (l r : List De)
    (hs : a.eval s = v) (hrow : Own w base v l) (hx : a.eval x = .slice A m c) (hm : m = r.length) (hA : A = none → r = [] ∧ c = 0) (hsrc : DAt w A r) (hlen : l.length + r.length ≤ 100000) (hbase : base ≤ w.heap.size)
    (h : ∀ v' w', Own w' base v' (l ++ r) → w.grownBy w' v.ownBlock → wpList Tryd.prog ops Q rest (a.put o.dst v') w') : wpList Tryd.prog ops Q (o :: rest) a w :=
  wpList_plain hgd fun _ hK => wp_appD s x ho base m c v A l r hs hrow hx hm hA hsrc hlen hbase fun v' w' h2 h3 => hK _ _ (h v' w' h2 h3)
theorem step_appD {ops : Array Oper} {o : Oper} {a : Act} {w : World} {K : Act → World → Prop} {Q : Exit → Act → World → Prop} {E : Prop} (hgd : o.guard = none) (s x : Operand)
    (ho : o.op = .call { callee := .builtin .append, args := #[s, x], argTypes := #[22, 22] }) (base m c : Nat) (v : Value) (A : Option Addr) (l r : List De)
    (hs : a.eval s = v) (hrow : Own w base v l) (hx : a.eval x = .slice A m c) (hm : m = r.length) (hA : A = none → r = [] ∧ c = 0) (hsrc : DAt w A r) (hlen : l.length + r.length ≤ 100000) (hbase : base ≤ w.heap.size)
    (h : ∀ v' w', Own w' base v' (l ++ r) → w.grownBy w' v.ownBlock → K (a.put o.dst v') w') :
    if Region.wanted o (yielded ops a.tmps) = true then Oper.wp Tryd.prog o a w K Q else E := by
  have hw : Region.wanted o (yielded ops a.tmps) = true := by simp [Region.wanted, hgd]
  rw [if_pos hw]
  exact wp_appD s x ho base m c v A l r hs hrow hx hm hA hsrc hlen hbase h
/-- An object in a block of its own, as a list of one. -/
theorem DAt.one {w : World} {g : Nat} {d : De} (h : w.heap[g]? = some (.cells #[.int .i64 d.1, .int .i64 d.2.1, .int .i64 d.2.2] 48 (0, 0))) : DAt w (some ⟨g, 0, none⟩) [d] := fun j hj => by
  obtain rfl : j = 0 := by simpa using hj
  refine ⟨g, 0, rfl, lt_of_block h, ?_, ?_, ?_⟩
  all_goals
    unfold World.cell?
    rw [h]
    rfl
end Go.Proofs.YtbekfjjajggffaaDoor.objs
