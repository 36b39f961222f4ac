/-
  Texts of one claim in one file: JRefGet, JSpec, WProg, Span, JChk, DPlain, DBack, DMem, DRefFits, DRefFit. Each has its own sentence, with its conditions.
-/
import Derived.Test.YtahejekcfgkiaaaGreatDoorGall6
import Derived.WalkLawsBesides
import Derived.Test.YtahejekcfgkiaaaGreatDoorGall1
import Derived.Test.YtahejekcfgkiaaaGreatDoorGall3
import Derived.LoopTactic
import Derived.Outline
import Derived.Test.YtahejekcfgkiaaaGreatDoorProg
import Derived.WalkKit
import Derived.ProofKit
import Derived.IntWalk
import Derived.Lib.Hide
import Derived.Below
import Derived.OwnWalk
import Derived.Deep.RegionLaw
import Derived.Deep.AppendLies
import Derived.Laws.AppendOwnNone
import Derived.Maps.AppendAt
import Derived.Deep.QuietTactic
import Derived.BigQuiet
import Derived.Deep.Cut
import Derived.Deep.CutBlock
import Derived.Deep.DeepCutAuto
import Derived.Deep.RegionHeld3
/-
  The document's own answer of the instruction with which bytes begin. A text of at most two to the forty-seventh bytes.
-/
namespace Go.Proofs.YtahejekcfgkiaaaGreatDoor.inst
open Go.RowKit Go.ChangeShapes
open Go.Proofs.YtahejekcfgkiaaaGreatDoor.oper (ret_int ret_bool ret_string)
open Go.Proofs.YtahejekcfgkiaaaGreatDoor.octet (St rdByte rdNum rdInt Stands)
set_option linter.unusedVariables false

theorem got_read (l : List UInt8) : getI l = if (readI ⟨l, 0⟩).e ≠ 0 then .bad (readI ⟨l, 0⟩).e else ⟨(readI ⟨l, 0⟩).o, (readI ⟨l, 0⟩).a, (readI ⟨l, 0⟩).b, l.length - (readI ⟨l, 0⟩).s.rest.length, 0⟩ := by
  unfold getI readI
  dsimp only
  by_cases h1 : (rdByte ⟨l, 0⟩).2.err ≠ 0
  · simp only [if_pos h1]
  · simp only [if_neg h1]
    by_cases h2 : 51 < (rdByte ⟨l, 0⟩).1
    · simp only [if_pos h2]
      rfl
    · simp only [if_neg h2]
      by_cases h3 : (rdOpds (form ((rdByte ⟨l, 0⟩).1 : Int)) (rdByte ⟨l, 0⟩).2 (form ((rdByte ⟨l, 0⟩).1 : Int)).length).2.err ≠ 0
      · simp only [if_pos h3]
      · simp only [if_neg h3]
        by_cases h4 : chk ((rdByte ⟨l, 0⟩).1 : Int) ((rdOpds (form ((rdByte ⟨l, 0⟩).1 : Int)) (rdByte ⟨l, 0⟩).2 (form ((rdByte ⟨l, 0⟩).1 : Int)).length).1.getD 0 0) ((rdOpds (form ((rdByte ⟨l, 0⟩).1 : Int)) (rdByte ⟨l, 0⟩).2 (form ((rdByte ⟨l, 0⟩).1 : Int)).length).1.getD 1 0) ≠ 0
        · simp only [if_pos h4]
        · simp only [if_neg h4]
          rfl

/-- What a reading of bytes tells. -/
def GotPost (g : Got) (w : World) (e : Ending) (w' : World) : Prop :=
  e = .returned (.tuple #[.agg #[.int .i64 g.o, .int .i64 g.a, .int .i64 g.b], .int .i64 (g.n : Int), .int .i64 (g.e : Int)]) ∧ Below w.heap.size w w'

end Go.Proofs.YtahejekcfgkiaaaGreatDoor.inst

/-
  What the program's calls on instructions must come to, as one bundle, so that the statements can be walked whatever the program's own text is; and the common end of all of them. No condition but that bundle.
-/
namespace Go.Proofs.YtahejekcfgkiaaaGreatDoor.inst
open Go.RowKit Go.ChangeShapes
open Go.Proofs.YtahejekcfgkiaaaGreatDoor.oper (ret_int ret_bool ret_string)
open Go.Proofs.YtahejekcfgkiaaaGreatDoor.word (Word)
set_option linter.unusedVariables false

/-- An int. -/
def I64 (n : Int) : Prop := -9223372036854775808 ≤ n ∧ n ≤ 9223372036854775807
/-- An instruction that may be has small numbers alone. -/
theorem chk_i64 (o a b : Int) (h : chk o a b = 0) : I64 o ∧ I64 a ∧ I64 b := by
  obtain ⟨hk, hf⟩ := chk_zero h
  obtain ⟨h1, _, h3⟩ := chkF_zero hf
  have hj : ∀ j, j < 2 → I64 (opd a b j) := fun j hj => by
    rcases Nat.lt_or_ge j (form o).length with hl | hl
    · have := h1 j hl
      unfold okAt fitsB at this
      by_cases hc : (form o).getD j 0 = 110
      · rw [if_pos hc] at this
        have hw : Word (opd a b j) := by simpa using this
        unfold Word at hw; unfold I64; omega
      · rw [if_neg hc] at this
        have hw : least ((form o).getD j 0) ≤ opd a b j ∧ opd a b j ≤ most ((form o).getD j 0) := by simpa using this
        have h0 : 0 ≤ least ((form o).getD j 0) := by unfold least; split <;> omega
        have hm : most ((form o).getD j 0) ≤ 199 := by unfold most; split; omega; split; omega; split; omega; split <;> omega
        unfold I64; omega
    · rw [h3 j hl hj]; unfold I64; omega
  unfold Known at hk
  exact ⟨by unfold I64; omega, hj 0 (by omega), hj 1 (by omega)⟩
/-- The bytes that Put answers. -/
def putL (o a b : Int) : List UInt8 := if chk o a b = 0 then encI o a b else []
theorem putL_le (o a b : Int) : (putL o a b).length ≤ 21 := by
  unfold putL
  split
  · exact encI_le o a b
  · simp
/-- The program's calls come to what the document says, while Ok holds of the world, which nothing that makes memory breaks. -/
structure Keeps (Ok : World → Prop) : Prop where
  mono : ∀ W W' : World, Ok W → Below W.heap.size W W' → Ok W'
  check : ∀ (o a b : Int) (W : World), I64 o → I64 a → I64 b → Ok W → Calls Tryz.prog 71 #[.agg #[.int .i64 o, .int .i64 a, .int .i64 b]] W fun e w' => e = .returned (.int .i64 (chk o a b : Nat)) ∧ Below W.heap.size W w'
  put : ∀ (o a b : Int) (W : World), I64 o → I64 a → I64 b → Ok W → Calls Tryz.prog 48 #[.agg #[.int .i64 o, .int .i64 a, .int .i64 b]] W fun e w' => e = .returned (.tuple #[.string ⟨(putL o a b).toArray⟩, .int .i64 (chk o a b : Nat)]) ∧ Below W.heap.size W w'
  get : ∀ (t : ByteArray) (W : World), t.size ≤ 140737489403904 → Ok W → Calls Tryz.prog 103 #[.string t] W (GotPost (getI t.data.toList) W)

theorem putL_push : putL 0 (-1) 0 = [0, 1] := by decide +kernel
theorem chk_push : chk 0 (-1) 0 = 0 := by decide +kernel
theorem chk_99 : chk 99 0 0 = 6 := by decide +kernel
theorem get_load : getI [1, 7, 109, 111, 114, 101] = ⟨1, 7, 0, 2, 0⟩ := by
  have h : ∀ g : Got, g.o = 1 → g.a = 7 → g.b = 0 → g.n = 2 → g.e = 0 → g = ⟨1, 7, 0, 2, 0⟩ := fun g h1 h2 h3 h4 h5 => by cases g; simp_all
  exact h _ (by decide +kernel) (by decide +kernel) (by decide +kernel) (by decide +kernel) (by decide +kernel)

/-- An instruction stands at a place of its own, behind all that was there. -/
structure Box (w : World) (o a b : Int) (W : World) : Prop where
  below : Below w.heap.size w W
  blk : W.heap[w.heap.size]? = some (.cells #[.int .i64 o, .int .i64 a, .int .i64 b] 51 (0, 0))
theorem box_new (w : World) (o a b : Int) : Box w o a b (w.alloc (.cells #[.int .i64 o, .int .i64 a, .int .i64 b] 51)) := ⟨(Below.refl _ _).alloc (Nat.le_refl _) _, heap_alloc_new w _⟩
theorem Box.next {w W W' : World} {o a b : Int} (h : Box w o a b W) (hb : Below W.heap.size W W') : Box w o a b W' := by
  have h1 := lt_of_block h.blk
  exact ⟨h.below.trans (hb.mono (Nat.le_of_lt h1)), (hb.block _ h1).trans h.blk⟩

end Go.Proofs.YtahejekcfgkiaaaGreatDoor.inst

/-
  The program's calls on words come to what the document says (typed over the code of 2169cae). No condition.
-/
namespace Go.Proofs.YtahejekcfgkiaaaGreatDoor.word
open Go.RowKit Go.ChangeShapes

theorem conv_low (n : Int) : wrap64 (wrap32 n) = low n := by
  unfold wrap64 wrap32 low
  omega

set_option maxHeartbeats 400000 in
theorem low_any (n : Int) (w : World) :
    Calls Tryz.prog 108 #[.int .i64 n] w fun e w' => e = .returned (.int .i64 (low n)) ∧ w = w' := by
  have HW := Lib.hid (conv_low n)
  go_enter Tryz.func108, Tryz.ntmps108
  go_wp2
  go_ret
  exact ⟨ret_int HW.out, rfl⟩

/-- The numbers of sixty-four bits that a word's bits are. -/
def wd (n : Int) : Nat := (n % 18446744073709551616).toNat
theorem wd_low (n : Int) : wd n % 4294967296 = un n := by unfold wd un; omega
theorem wd_high {n : Int} (h : Word n) : wd n / 2147483648 = 0 ∨ wd n / 2147483648 = 8589934591 := by
  unfold Word at h
  unfold wd
  by_cases h0 : 0 ≤ n
  · left; omega
  · right; omega
theorem wrap_back {z : Nat} (_ : z < 18446744073709551616) (h : z / 2147483648 = 0 ∨ z / 2147483648 = 8589934591) : IntKind.i64.wrap (z : Int) = low ((z % 4294967296 : Nat) : Int) := by
  rw [IntKind.wrap_i64]
  unfold low
  omega
theorem ofInt_wd (n : Int) : (BitVec.ofInt 64 n).toNat = wd n := by
  rw [BitVec.toNat_ofInt]
  rfl
theorem wd_lt (n : Int) : wd n < 18446744073709551616 := by unfold wd; omega
theorem and_words {x y : Int} (hx : Word x) (hy : Word y) : bits .and .i64 x y = low (bitop 11 (un x) (un y) : Nat) := by
  show IntKind.i64.wrap ((BitVec.ofInt 64 x &&& BitVec.ofInt 64 y).toNat : Int) = _
  rw [BitVec.toNat_and, ofInt_wd, ofInt_wd]
  have h1 : (wd x &&& wd y) / 2 ^ 31 = wd x / 2 ^ 31 &&& wd y / 2 ^ 31 := Nat.and_div_two_pow
  have h2 : (wd x &&& wd y) % 2 ^ 32 = wd x % 2 ^ 32 &&& wd y % 2 ^ 32 := Nat.and_mod_two_pow
  have e1 : (2 : Nat) ^ 31 = 2147483648 := rfl
  have e2 : (2 : Nat) ^ 32 = 4294967296 := rfl
  rw [e1] at h1
  rw [e2, wd_low, wd_low] at h2
  rw [wrap_back (Nat.lt_of_le_of_lt Nat.and_le_left (wd_lt x)) ?_, h2]
  · rfl
  · rw [h1]
    rcases wd_high hx with a | a <;> rcases wd_high hy with b | b <;> rw [a, b] <;> decide
theorem or_words {x y : Int} (hx : Word x) (hy : Word y) : bits .or .i64 x y = low (bitop 12 (un x) (un y) : Nat) := by
  show IntKind.i64.wrap ((BitVec.ofInt 64 x ||| BitVec.ofInt 64 y).toNat : Int) = _
  rw [BitVec.toNat_or, ofInt_wd, ofInt_wd]
  have h1 : (wd x ||| wd y) / 2 ^ 31 = wd x / 2 ^ 31 ||| wd y / 2 ^ 31 := Nat.or_div_two_pow
  have h2 : (wd x ||| wd y) % 2 ^ 32 = wd x % 2 ^ 32 ||| wd y % 2 ^ 32 := Nat.or_mod_two_pow
  have e1 : (2 : Nat) ^ 31 = 2147483648 := rfl
  have e2 : (2 : Nat) ^ 32 = 4294967296 := rfl
  have hlt : wd x ||| wd y < 2 ^ 64 := Nat.or_lt_two_pow (wd_lt x) (wd_lt y)
  rw [e1] at h1
  rw [e2, wd_low, wd_low] at h2
  rw [wrap_back hlt ?_, h2]
  · rfl
  · rw [h1]
    rcases wd_high hx with a | a <;> rcases wd_high hy with b | b <;> rw [a, b] <;> decide
theorem xor_words {x y : Int} (hx : Word x) (hy : Word y) : bits .xor .i64 x y = low (bitop 13 (un x) (un y) : Nat) := by
  show IntKind.i64.wrap ((BitVec.ofInt 64 x ^^^ BitVec.ofInt 64 y).toNat : Int) = _
  rw [BitVec.toNat_xor, ofInt_wd, ofInt_wd]
  have h1 : (wd x ^^^ wd y) / 2 ^ 31 = wd x / 2 ^ 31 ^^^ wd y / 2 ^ 31 := Nat.xor_div_two_pow
  have h2 : (wd x ^^^ wd y) % 2 ^ 32 = wd x % 2 ^ 32 ^^^ wd y % 2 ^ 32 := Nat.xor_mod_two_pow
  have e1 : (2 : Nat) ^ 31 = 2147483648 := rfl
  have e2 : (2 : Nat) ^ 32 = 4294967296 := rfl
  have hlt : wd x ^^^ wd y < 2 ^ 64 := Nat.xor_lt_two_pow (wd_lt x) (wd_lt y)
  rw [e1] at h1
  rw [e2, wd_low, wd_low] at h2
  rw [wrap_back hlt ?_, h2]
  · rfl
  · rw [h1]
    rcases wd_high hx with a | a <;> rcases wd_high hy with b | b <;> rw [a, b] <;> decide
theorem mask5 (n : Int) : bits .and .i64 n 31 = (far n : Int) := by
  show IntKind.i64.wrap ((BitVec.ofInt 64 n &&& BitVec.ofInt 64 31).toNat : Int) = _
  rw [BitVec.toNat_and, ofInt_wd, show (BitVec.ofInt 64 31).toNat = 2 ^ 5 - 1 from rfl, Nat.and_two_pow_sub_one_eq_mod, IntKind.wrap_i64]
  have e : (2 : Nat) ^ 5 = 32 := rfl
  rw [e]
  unfold wd far
  omega

theorem fits_low (n : Int) : (low n == n) = decide (Word n) := by
  rw [Bool.eq_iff_iff, beq_iff_eq, decide_eq_true_iff]
  constructor
  · intro h
    rw [← h]
    exact low_word n
  · intro h
    exact low_id h
set_option maxHeartbeats 400000 in
theorem fits_any (n : Int) (w : World) :
    Calls Tryz.prog 94 #[.int .i64 n] w fun e w' => e = .returned (.bool (decide (Word n))) ∧ w = w' := by
  have HF := Lib.hid (fits_low n)
  go_enter Tryz.func94, Tryz.ntmps94
  go_wp2_with fail
  refine (low_any _ _).mono ?_
  rintro e w1 ⟨rfl, rfl⟩
  go_wp2
  go_ret
  exact ⟨ret_bool HF.out, rfl⟩

theorem conv_half (n : Int) : wrap32 n = low n := by
  unfold wrap32 low
  omega
theorem wide_low (n : Int) : wrap64 (low n) = low n := by
  have := low_word n
  unfold Word at this
  unfold wrap64
  omega
/-- A quotient of words, and its fault. -/
def quo (a b : Int) : Int × Int := if b = 0 then (0, 2) else ex (a.tdiv b)
def left (a b : Int) : Int × Int := if b = 0 then (0, 2) else (a.tmod b, 0)
end Go.Proofs.YtahejekcfgkiaaaGreatDoor.word

/-
  Package span: a number that is read, held below two to the thirty-first, and whether a number lies in a span ; what is wrong with how many there are (typed over the code of 4b95722). A text of at most two to the forty-seventh bytes.
-/
namespace Go.Proofs.YtahejekcfgkiaaaGreatDoor.span
open Go.RowKit Go.ChangeShapes
open Go.Proofs.YtahejekcfgkiaaaGreatDoor.octet (St InAt Frm rdNum numIn_any)
set_option linter.unusedVariables false

theorem ret_int {k : IntKind} {a b : Int} (h : a = b) : Ending.returned (.int k a) = .returned (.int k b) := by rw [h]
theorem within_any (v lo hi : Int) (w : World) : Calls Tryz.prog 77 #[.int .i64 v, .int .i64 lo, .int .i64 hi] w fun e w' => e = .returned (.bool (decide (lo ≤ v ∧ v ≤ hi))) ∧ w = w' := by
  by_cases h1 : lo ≤ v
  · by_cases h2 : v ≤ hi
    · rw [decide_eq_true ⟨h1, h2⟩]
      go_enter Tryz.func77, Tryz.ntmps77
      go_wp2
      go_ret
      exact ⟨rfl, rfl⟩
    · rw [decide_eq_false (fun h => h2 h.2)]
      have hd : decide (v ≤ hi) = false := by simpa using h2
      go_enter Tryz.func77, Tryz.ntmps77
      go_wp2
      go_ret
      exact ⟨rfl, rfl⟩
  · rw [decide_eq_false (fun h => h1 h.1)]
    have hd : decide (lo ≤ v) = false := by simpa using h1
    go_enter Tryz.func77, Tryz.ntmps77
    go_wp2
    go_ret
    exact ⟨rfl, rfl⟩

/-- A number as it is read here: a great one is two to the thirty-first less one. -/
def pN (s : St) : Int × St := (((min (rdNum s).1 2147483647 : Nat) : Int), (rdNum s).2)
set_option maxHeartbeats 400000 in
theorem num_any (w : World) (bi : Nat) (s : St) (hi : InAt w bi s) (hok : s.ok) (hl : s.rest.length ≤ 140737489403904) :
    Calls Tryz.prog 101 #[.pointer (some ⟨bi, 0, none⟩)] w fun e w' => e = .returned (.int .i64 (pN s).1) ∧ InAt w' bi (pN s).2 ∧ Frm w.heap.size bi w w' := by
  have HI := Lib.hid (numIn_any w bi s hi hok hl)
  unfold pN
  generalize rdNum s = p at *
  obtain ⟨v, S⟩ := p
  dsimp only at HI ⊢
  go_enter Tryz.func101, Tryz.ntmps101
  go_wp2_with fail
  refine HI.out.mono ?_
  rintro e w1 ⟨rfl, h1, h2⟩
  go_wp2
  all_goals
    go_ret
    refine ⟨ret_int ?_, h1, h2⟩
    omega
/-- What is wrong with how many there are, where there may be as many as m. -/
def cntC (n m : Nat) : Nat := if n = 0 then 2 else if m < n then 4 else 0
theorem count_any (n m : Nat) (w : World) : Calls Tryz.prog 50 #[.int .i64 (n : Int), .int .i64 (m : Int)] w fun e w' => e = .returned (.int .i64 ((cntC n m : Nat) : Int)) ∧ w = w' := by
  unfold cntC
  by_cases h0 : n = 0
  · subst h0
    go_enter Tryz.func50, Tryz.ntmps50
    go_wp2
    go_ret
    exact ⟨rfl, rfl⟩
  · rw [if_neg h0]
    have e0 : ((n : Int) == 0) = false := by simp; omega
    by_cases h4 : m < n
    · rw [if_pos h4]
      have e4 : decide ((m : Int) < (n : Int)) = true := by simp; omega
      have e5 : decide (m < n) = true := by simp; omega
      clear h0 h4
      go_enter Tryz.func50, Tryz.ntmps50
      go_wp2
      go_ret
      exact ⟨rfl, rfl⟩
    · rw [if_neg h4]
      have e4 : decide ((m : Int) < (n : Int)) = false := by simp; omega
      have e5 : decide (m < n) = false := by simp; omega
      clear h0 h4
      go_enter Tryz.func50, Tryz.ntmps50
      go_wp2
      go_ret
      exact ⟨rfl, rfl⟩
end Go.Proofs.YtahejekcfgkiaaaGreatDoor.span

/-
  The program's own check of an instruction (typed over the code of 392f5a9): for every instruction. The table of names must lie where its initialiser lays it.
-/
namespace Go.Proofs.YtahejekcfgkiaaaGreatDoor.inst
open Go.RowKit Go.ChangeShapes
open Go.Proofs.YtahejekcfgkiaaaGreatDoor.oper (ret_int ret_bool ret_string Tab nm txt)
open Go.Proofs.YtahejekcfgkiaaaGreatDoor.word (Word)
set_option linter.unusedVariables false

/-- What the program's calls ask of the world: the table of names lies where it should, below all that is made. -/
def Okw (w : World) : Prop := Tab w ∧ 2 < w.heap.size
theorem Okw.below {B : Nat} {w w' : World} (h : Okw w) (hb : Below B w w') (hB : 2 < B) : Okw w' := ⟨h.1.below hb hB, Nat.lt_of_lt_of_le h.2 hb.size⟩
theorem Okw.next {w w' : World} (h : Okw w) (hb : Below w.heap.size w w') : Okw w' := h.below hb h.2

theorem u8_of {c : UInt8} {k : UInt8} (h : ((c.toNat : Int) == (k.toNat : Int)) = true) : c = k := by
  have h1 := eq_of_beq h
  exact UInt8.toNat_inj.1 (by omega)
theorem u8_not {c : UInt8} {k : UInt8} (h : ((c.toNat : Int) == (k.toNat : Int)) = false) : c ≠ k := fun e => by
  subst e
  simp at h
theorem fits_bad {c : UInt8} {v : Int} (h0 : ((c.toNat : Int) == 110) = false) : fitsB c v = decide (least c ≤ v ∧ v ≤ most c) := by
  unfold fitsB
  rw [if_neg (u8_not (k := 110) h0)]
theorem fits_k (c : UInt8) (lo hi v : Int) (h : c ≠ 110) (h1 : least c = lo) (h2 : most c = hi) : (decide (lo ≤ v) && decide (v ≤ hi)) = fitsB c v := by
  unfold fitsB
  rw [if_neg h, h1, h2, Bool.decide_and]
theorem fits_n (v : Int) : decide (Word v) = fitsB 110 v := by
  unfold fitsB
  rw [if_pos rfl]
theorem fits_rest {c : UInt8} {v : Int} (h0 : ((c.toNat : Int) == 110) = false) (h1 : ((c.toNat : Int) == 107) = false) (h2 : ((c.toNat : Int) == 116) = false) (h3 : ((c.toNat : Int) == 102) = false) (h4 : ((c.toNat : Int) == 106) = false) :
    fitsB c v = (decide (0 ≤ v) && decide (v ≤ 31)) := by
  rw [fits_bad h0]
  unfold least most
  rw [Bool.decide_and, if_neg (u8_not (k := 106) h4), if_neg (u8_not (k := 107) h1), if_neg (u8_not (k := 116) h2), if_neg (u8_not (k := 102) h3), if_neg (u8_not (k := 106) h4)]

set_option maxHeartbeats 1000000 in
theorem inRange_any (c : UInt8) (v : Int) (w : World) : Calls Tryz.prog 92 #[.int .u8 (c.toNat : Int), .int .i64 v] w fun e w' => e = .returned (.bool (fitsB c v)) ∧ w = w' := by
  go_enter Tryz.func92, Tryz.ntmps92
  go_wp2_with (first
    | (go_at_call 77; refine (Go.Proofs.YtahejekcfgkiaaaGreatDoor.span.within_any v _ _ _).mono ?_; rintro e w' ⟨rfl, rfl⟩)
    | (go_at_call 94; refine (Go.Proofs.YtahejekcfgkiaaaGreatDoor.word.fits_any v _).mono ?_; rintro e w' ⟨rfl, rfl⟩))
  all_goals go_ret
  all_goals refine ⟨ret_bool ?_, rfl⟩
  all_goals first
    | (have hq : c = 110 := u8_of (k := 110) ‹((c.toNat : Int) == 110) = true›; subst hq; first | exact fits_n v | (refine fits_k _ _ _ v ?_ ?_ ?_ <;> decide))
    | (have hq : c = 107 := u8_of (k := 107) ‹((c.toNat : Int) == 107) = true›; subst hq; first | exact fits_n v | (refine fits_k _ _ _ v ?_ ?_ ?_ <;> decide))
    | (have hq : c = 116 := u8_of (k := 116) ‹((c.toNat : Int) == 116) = true›; subst hq; first | exact fits_n v | (refine fits_k _ _ _ v ?_ ?_ ?_ <;> decide))
    | (have hq : c = 102 := u8_of (k := 102) ‹((c.toNat : Int) == 102) = true›; subst hq; first | exact fits_n v | (refine fits_k _ _ _ v ?_ ?_ ?_ <;> decide))
    | (have hq : c = 119 := u8_of (k := 119) ‹((c.toNat : Int) == 119) = true›; subst hq; first | exact fits_n v | (refine fits_k _ _ _ v ?_ ?_ ?_ <;> decide))
    | (have hq : c = 106 := u8_of (k := 106) ‹((c.toNat : Int) == 106) = true›; subst hq; first | exact fits_n v | (refine fits_k _ _ _ v ?_ ?_ ?_ <;> decide))
    | exact (fits_rest ‹_› ‹_› ‹_› ‹_› ‹_›).symm

theorem named : ∀ k, k < 52 → (!(nm.getD k ⟨#[]⟩).toList.isEmpty) = true := by decide +kernel
theorem txt_named (o : Int) : (!(txt nm o).toList.isEmpty) = decide (Known o) := by
  by_cases h : Known o
  · rw [decide_eq_true h]
    obtain ⟨k, hk, rfl⟩ := Go.Proofs.YtahejekcfgkiaaaGreatDoor.oper.nat_of h
    rw [Go.Proofs.YtahejekcfgkiaaaGreatDoor.oper.txt_at hk]
    exact named k hk
  · rw [decide_eq_false h, Go.Proofs.YtahejekcfgkiaaaGreatDoor.oper.txt_no (by unfold Known at h; omega)]
    rw [ByteArray.toList_eq]
    rfl
theorem knows_any (o : Int) (w : World) (hT : Tab w) : Calls Tryz.prog 91 #[.int .i64 o] w fun e w' => e = .returned (.bool (decide (Known o))) ∧ w = w' := by
  have HN := Lib.hid (Go.Proofs.YtahejekcfgkiaaaGreatDoor.oper.name_any o w hT)
  have HE := Lib.hid (txt_named o)
  clear hT
  generalize txt nm o = x at *
  go_enter Tryz.func91, Tryz.ntmps91
  go_wp2_with fail
  refine HN.out.mono ?_
  rintro e w' ⟨rfl, rfl⟩
  go_wp2
  go_ret
  exact ⟨ret_bool HE.out, rfl⟩
end Go.Proofs.YtahejekcfgkiaaaGreatDoor.inst

/-
  What is wrong with declared objects, and where, their bytes, and the objects with which bytes begin: plain mathematics of lists and numbers, and that putting and getting undo each other. No condition.
-/
namespace Go.Proofs.YtahejekcfgkiaaaGreatDoor.objs
open Go.Proofs.YtahejekcfgkiaaaGreatDoor.octet (St rdByte rdNum rdInt num zig zag num_back num_once zig_zag zag_zig zig_lt num_length_le dec enc_length_pos rdNum_ok rdByte_ok)
open Go.Proofs.YtahejekcfgkiaaaGreatDoor.word (Word)

/-- An object: its kind, and two numbers. -/
abbrev De := Int × Int × Int
def zero : De := (0, 0, 0)
def names : List ByteArray := [⟨#[]⟩, ⟨#[109, 117, 116, 101, 120]⟩, ⟨#[114, 119]⟩, ⟨#[115, 101, 109]⟩, ⟨#[99, 111, 110, 100]⟩, ⟨#[98, 97, 114]⟩, ⟨#[112, 111, 111, 108]⟩, ⟨#[99, 101, 108, 108]⟩]
/-- A kind's name. -/
def nameK (k : Int) : ByteArray := if 0 < k ∧ k < 8 then names.getD k.toNat ⟨#[]⟩ else ⟨#[]⟩
/-- The kinds that a letter stands for. -/
def kindsOf (c : UInt8) : List Int :=
  if c = 117 then [1, 2] else if c = 115 then [3] else if c = 112 then [6] else if c = 99 then [4] else if c = 109 then [1] else if c = 98 then [5] else if c = 118 then [7] else if c = 113 then [1, 6] else []
/-- Is an object there, and of a kind that a letter stands for? -/
def fits (l : List De) (c : UInt8) (o : Int) : Bool := decide (0 ≤ o ∧ o < (l.length : Int)) && (kindsOf c).contains (l.getD o.toNat zero).1
/-- What is wrong with an object. -/
def one (l : List De) (d : De) : Nat :=
  if d.1 < 1 ∨ 7 < d.1 then 6
  else if d.1 = 3 ∧ (d.2.2 < 1 ∨ 1000 < d.2.2 ∨ d.2.1 < 0 ∨ d.2.2 < d.2.1) then 1
  else if d.1 = 6 ∧ (d.2.1 < 1 ∨ 1000 < d.2.1) then 1
  else if d.1 = 7 ∧ (¬ Word d.2.1 ∨ fits l 117 d.2.2 = false) then 1
  else if (d.1 ≠ 3 ∧ d.1 ≠ 7 ∧ d.2.2 ≠ 0) ∨ (d.1 ≠ 3 ∧ d.1 ≠ 6 ∧ d.1 ≠ 7 ∧ d.2.1 ≠ 0) then 2 else 0
/-- Where the first one stands that may not be, and why. -/
def bad (l : List De) : Nat := l.findIdx fun d => one l d != 0
def chk (l : List De) : Int × Nat := if 32 < l.length then (0, 4) else if bad l < l.length then ((bad l : Int), one l (l.getD (bad l) zero)) else (0, 0)

theorem one_le (l : List De) (d : De) : one l d ≤ 6 := by
  unfold one
  split
  · omega
  · split
    · omega
    · split
      · omega
      · split
        · omega
        · split <;> omega
/-- An object that may be: its kind is one, and its numbers are small. -/
theorem one_zero {l : List De} {d : De} (h : one l d = 0) : (1 ≤ d.1 ∧ d.1 ≤ 7) ∧ (d.1 = 3 → 1 ≤ d.2.2 ∧ d.2.2 ≤ 1000 ∧ 0 ≤ d.2.1 ∧ d.2.1 ≤ d.2.2) ∧ (d.1 = 6 → 1 ≤ d.2.1 ∧ d.2.1 ≤ 1000) ∧ (d.1 = 7 → Word d.2.1 ∧ fits l 117 d.2.2 = true) ∧ (d.1 ≠ 3 → d.1 ≠ 7 → d.2.2 = 0) ∧ (d.1 ≠ 3 → d.1 ≠ 6 → d.1 ≠ 7 → d.2.1 = 0) := by
  unfold one at h
  split at h
  · cases h
  · split at h
    · cases h
    · split at h
      · cases h
      · split at h
        · cases h
        · split at h
          · cases h
          · rename_i h1 h2 h3 h4 h5
            refine ⟨by omega, fun e => ?_, fun e => ?_, fun e => ?_, fun e1 e2 => ?_, fun e1 e2 e3 => ?_⟩
            · have : ¬ (d.2.2 < 1 ∨ 1000 < d.2.2 ∨ d.2.1 < 0 ∨ d.2.2 < d.2.1) := fun h => h2 ⟨e, h⟩
              omega
            · have : ¬ (d.2.1 < 1 ∨ 1000 < d.2.1) := fun h => h3 ⟨e, h⟩
              omega
            · have : ¬ (¬ Word d.2.1 ∨ fits l 117 d.2.2 = false) := fun h => h4 ⟨e, h⟩
              refine ⟨Classical.byContradiction fun h => this (.inl h), ?_⟩
              cases hf : fits l 117 d.2.2 with
              | true => rfl
              | false => exact absurd (.inr hf) this
            · exact Classical.byContradiction fun h => h5 (.inl ⟨e1, e2, h⟩)
            · exact Classical.byContradiction fun h => h5 (.inr ⟨e1, e2, e3, h⟩)
theorem fits_lt {l : List De} {c : UInt8} {o : Int} (h : fits l c o = true) : 0 ≤ o ∧ o < (l.length : Int) := by
  unfold fits at h
  rw [Bool.and_eq_true, decide_eq_true_iff] at h
  exact h.1
theorem bad_le (l : List De) : bad l ≤ l.length := List.findIdx_le_length
theorem bad_of {l : List De} {j : Nat} (h : j ≤ bad l) (hj : j < l.length) (he : one l (l.getD j zero) ≠ 0) : bad l = j := by
  rcases Nat.lt_or_ge j (bad l) with h1 | h1
  · have := List.not_of_lt_findIdx (p := fun d => one l d != 0) (xs := l) h1
    rw [List.getD_eq_getElem?_getD, List.getElem?_eq_getElem hj, Option.getD_some] at he
    simp [he] at this
  · omega
theorem bad_next {l : List De} {j : Nat} (h : j ≤ bad l) (hj : j < l.length) (he : one l (l.getD j zero) = 0) : j + 1 ≤ bad l := by
  rcases Nat.eq_or_lt_of_le h with h1 | h1
  · exfalso
    have hl : l.findIdx (fun d => one l d != 0) < l.length := by show bad l < l.length; omega
    have := List.findIdx_getElem (p := fun d => one l d != 0) (xs := l) (w := hl)
    have e : l[l.findIdx (fun d => one l d != 0)]'hl = l.getD j zero := by
      rw [List.getD_eq_getElem?_getD, List.getElem?_eq_getElem hj, Option.getD_some]
      congr 1
      exact h1.symm
    rw [e, he] at this
    cases this
  · omega
theorem chk_long {l : List De} (h : 32 < l.length) : chk l = (0, 4) := by unfold chk; rw [if_pos h]
theorem chk_bad {l : List De} {j : Nat} (hl : ¬ 32 < l.length) (h : j ≤ bad l) (hj : j < l.length) (he : one l (l.getD j zero) ≠ 0) : chk l = ((j : Int), one l (l.getD j zero)) := by
  unfold chk
  rw [if_neg hl, bad_of h hj he, if_pos hj]
theorem chk_fine {l : List De} (hl : ¬ 32 < l.length) (h : l.length ≤ bad l) : chk l = (0, 0) := by
  unfold chk
  rw [if_neg hl, if_neg (by omega)]
theorem chk_zero {l : List De} (h : (chk l).2 = 0) : l.length ≤ 32 ∧ chk l = (0, 0) ∧ ∀ j, j < l.length → one l (l.getD j zero) = 0 := by
  unfold chk at h ⊢
  by_cases h1 : 32 < l.length
  · rw [if_pos h1] at h; cases h
  · rw [if_neg h1] at h ⊢
    by_cases h2 : bad l < l.length
    · rw [if_pos h2] at h
      exfalso
      have hl : l.findIdx (fun d => one l d != 0) < l.length := h2
      have := List.findIdx_getElem (p := fun d => one l d != 0) (xs := l) (w := hl)
      have e : l.getD (bad l) zero = l[l.findIdx (fun d => one l d != 0)]'hl := by
        rw [List.getD_eq_getElem?_getD, List.getElem?_eq_getElem h2, Option.getD_some]
        rfl
      dsimp only at h
      rw [e] at h
      simp [h] at this
    · rw [if_neg h2]
      refine ⟨by omega, rfl, fun j hj => ?_⟩
      have hj2 : j < bad l := by omega
      have := List.not_of_lt_findIdx (p := fun d => one l d != 0) (xs := l) hj2
      rw [List.getD_eq_getElem?_getD, List.getElem?_eq_getElem hj, Option.getD_some]
      simpa using this

/-- The bytes of an object. -/
def pieceA (k a : Int) : List UInt8 := if k = 3 ∨ k = 6 then num a.toNat else if k = 7 then num (zig a) else []
def pieceB (k b : Int) : List UInt8 := if k = 3 ∨ k = 7 then num b.toNat else []
def encD (d : De) : List UInt8 := UInt8.ofNat d.1.toNat :: (pieceA d.1 d.2.1 ++ pieceB d.1 d.2.2)
/-- The bytes of the first j of some. -/
def encs (l : List De) : Nat → List UInt8
  | 0 => []
  | j + 1 => encs l j ++ encD (l.getD j zero)
def encL (l : List De) : List UInt8 := num l.length ++ encs l l.length
theorem encD_le (d : De) : (encD d).length ≤ 21 := by
  have h1 : (pieceA d.1 d.2.1).length ≤ 10 := by
    unfold pieceA
    split
    · exact num_length_le _
    · split
      · exact num_length_le _
      · simp
  have h2 : (pieceB d.1 d.2.2).length ≤ 10 := by
    unfold pieceB
    split
    · exact num_length_le _
    · simp
  simp only [encD, List.length_cons, List.length_append]
  omega
theorem encs_le (l : List De) : ∀ j, (encs l j).length ≤ 21 * j := by
  intro j
  induction j with
  | zero => simp [encs]
  | succ j ih =>
    have := encD_le (l.getD j zero)
    simp only [encs, List.length_append]
    omega
theorem encL_le (l : List De) : (encL l).length ≤ 10 + 21 * l.length := by
  have h1 := num_length_le l.length
  have h2 := encs_le l l.length
  simp only [encL, List.length_append]
  omega

/-- A number that is read; a great one is out of every range. -/
def rdN (s : St) : Int × St := (((min (rdNum s).1 2147483648 : Nat) : Int), (rdNum s).2)
def rdA (k : Nat) (s : St) : Int × St := if k = 3 ∨ k = 6 then rdN s else if k = 7 then rdInt s else (0, s)
def rdB (k : Nat) (s : St) : Int × St := if k = 3 ∨ k = 7 then rdN s else (0, s)
/-- An object that is read: what is left, and what is wrong. -/
def rdD (s : St) : De × St × Nat :=
  let y := rdByte s
  if y.2.err = 0 ∧ (y.1 < 1 ∨ 7 < y.1) then (zero, y.2, 6)
  else (((y.1 : Int), (rdA y.1 y.2).1, (rdB y.1 (rdA y.1 y.2).2).1), (rdB y.1 (rdA y.1 y.2).2).2, (rdB y.1 (rdA y.1 y.2).2).2.err)
/-- The first j of them. -/
def rdL (s : St) : Nat → List De × St × Nat
  | 0 => ([], s, 0)
  | j + 1 =>
    let p := rdL s j
    if p.2.2 ≠ 0 then p
    else if (rdD p.2.1).2.2 ≠ 0 then ([], (rdD p.2.1).2.1, (rdD p.2.1).2.2)
    else (p.1 ++ [(rdD p.2.1).1], (rdD p.2.1).2.1, 0)
def readL (s : St) : List De × St × Nat :=
  let n := rdN s
  if n.2.err ≠ 0 then ([], n.2, n.2.err)
  else if 32 < n.1 then ([], n.2, 4)
  else
    let p := rdL n.2 n.1.toNat
    if p.2.2 ≠ 0 then ([], p.2.1, p.2.2)
    else if (chk p.1).2 ≠ 0 then ([], p.2.1, (chk p.1).2)
    else (p.1, p.2.1, 0)
/-- The objects with which bytes begin, how many bytes they are, the first error. -/
def getL (l : List UInt8) : List De × Nat × Nat :=
  let r := readL ⟨l, 0⟩
  if r.2.2 ≠ 0 then ([], 0, r.2.2) else (r.1, l.length - r.2.1.rest.length, 0)
end Go.Proofs.YtahejekcfgkiaaaGreatDoor.objs

/-
  What was put of objects is got again, whatever stands behind; what was got, put, is just the bytes that it had. Plain mathematics; no condition.
-/
namespace Go.Proofs.YtahejekcfgkiaaaGreatDoor.objs
open Go.Proofs.YtahejekcfgkiaaaGreatDoor.octet (St rdByte rdNum rdInt num zig zag num_back num_once zig_zag zag_zig zig_lt num_length_le dec enc_length_pos rdNum_ok rdByte_ok)
open Go.Proofs.YtahejekcfgkiaaaGreatDoor.word (Word)

theorem rdNum_back {n : Nat} (h : n < 18446744073709551616) (more : List UInt8) : rdNum ⟨num n ++ more, 0⟩ = (n, ⟨more, 0⟩) := by
  have hz := num_back h more
  unfold rdNum
  simp only [ne_eq, not_true_eq_false, if_false, hz]
theorem rdN_back {n : Nat} (h : n ≤ 2147483648) (more : List UInt8) : rdN ⟨num n ++ more, 0⟩ = ((n : Int), ⟨more, 0⟩) := by
  unfold rdN
  rw [rdNum_back (by omega)]
  dsimp only
  rw [Nat.min_eq_left h]
theorem rdInt_back {n : Int} (h : Word n) (more : List UInt8) : rdInt ⟨num (zig n) ++ more, 0⟩ = (n, ⟨more, 0⟩) := by
  unfold Word at h
  unfold rdInt
  rw [rdNum_back (zig_lt (by omega) (by omega))]
  dsimp only
  rw [zag_zig]
theorem rdD_back {l : List De} {d : De} (h : one l d = 0) (hl : l.length ≤ 32) (more : List UInt8) : rdD ⟨encD d ++ more, 0⟩ = (d, ⟨more, 0⟩, 0) := by
  obtain ⟨h0, h3, h6, h7, hb, ha⟩ := one_zero h
  obtain ⟨k, a, b⟩ := d
  dsimp only at h0 h3 h6 h7 hb ha
  have hy : rdByte ⟨encD (k, a, b) ++ more, 0⟩ = (k.toNat, ⟨pieceA k a ++ (pieceB k b ++ more), 0⟩) := by
    unfold rdByte encD
    simp only [ne_eq, not_true_eq_false, if_false, List.cons_append, List.append_assoc]
    congr 1
    rw [UInt8.toNat_ofNat']
    omega
  have hA : rdA k.toNat ⟨pieceA k a ++ (pieceB k b ++ more), 0⟩ = (a, ⟨pieceB k b ++ more, 0⟩) := by
    unfold rdA pieceA
    by_cases e : k = 3 ∨ k = 6
    · rw [if_pos (by omega), if_pos e, rdN_back (by omega)]
      congr 1
      omega
    · rw [if_neg (by omega), if_neg e]
      by_cases e7 : k = 7
      · rw [if_pos (by omega), if_pos e7, rdInt_back (h7 e7).1]
      · rw [if_neg (by omega), if_neg e7, ha (by omega) (by omega) e7]
        rfl
  have hB : rdB k.toNat ⟨pieceB k b ++ more, 0⟩ = (b, ⟨more, 0⟩) := by
    unfold rdB pieceB
    by_cases e : k = 3 ∨ k = 7
    · rw [if_pos (by omega), if_pos e]
      have hbb : 0 ≤ b ∧ b ≤ 1000 := by
        rcases e with e | e
        · have := h3 e; omega
        · have := fits_lt (h7 e).2; omega
      rw [rdN_back (by omega)]
      congr 1
      omega
    · rw [if_neg (by omega), if_neg e, hb (by omega) (by omega)]
      rfl
  unfold rdD
  simp only [hy, hA, hB]
  rw [if_neg (by omega)]
  congr 2
  omega
theorem rdL_back {l : List De} (hl : l.length ≤ 32) (h : ∀ j, j < l.length → one l (l.getD j zero) = 0) : ∀ j, j ≤ l.length → ∀ more, rdL ⟨encs l j ++ more, 0⟩ j = (l.take j, ⟨more, 0⟩, 0) := by
  intro j
  induction j with
  | zero => intro _ more; rfl
  | succ j ih =>
    intro hj more
    have h1 := ih (by omega) (encD (l.getD j zero) ++ more)
    have h2 := rdD_back (h j (by omega)) hl more
    simp only [encs, List.append_assoc, rdL]
    rw [h1]
    simp only [h2]
    rw [if_neg (by decide), if_neg (by decide), List.take_add_one, List.getD_eq_getElem?_getD, List.getElem?_eq_getElem (by omega)]
    rfl
theorem back {l : List De} (h : (chk l).2 = 0) (more : List UInt8) : getL (encL l ++ more) = (l, (encL l).length, 0) := by
  obtain ⟨hl, _, hall⟩ := chk_zero h
  have hn : rdN ⟨encL l ++ more, 0⟩ = ((l.length : Int), ⟨encs l l.length ++ more, 0⟩) := by
    unfold encL
    rw [List.append_assoc, rdN_back (by omega)]
  have hL := rdL_back hl hall l.length (Nat.le_refl _) more
  unfold getL readL
  have h32 : ¬ (32 : Int) < (l.length : Int) := by omega
  simp only [hn, Int.toNat_natCast, hL, List.take_length, h, ne_eq, not_true_eq_false, if_false, if_neg h32]
  simp

theorem rdNum_once {l : List UInt8} (h : (rdNum ⟨l, 0⟩).2.err = 0) : l = num (rdNum ⟨l, 0⟩).1 ++ (rdNum ⟨l, 0⟩).2.rest := by
  unfold rdNum at h ⊢
  simp only [ne_eq, not_true_eq_false, if_false] at h ⊢
  exact (num_once (l := l) (v := (dec l 0 0).1) (rest := (dec l 0 0).2.1) (Prod.ext rfl (Prod.ext rfl h))).1
theorem rdN_once {l : List UInt8} (h : (rdN ⟨l, 0⟩).2.err = 0) (hs : (rdN ⟨l, 0⟩).1 < 2147483648) : l = num (rdN ⟨l, 0⟩).1.toNat ++ (rdN ⟨l, 0⟩).2.rest := by
  unfold rdN at h hs ⊢
  dsimp only at h hs ⊢
  have e : ((min (rdNum ⟨l, 0⟩).1 2147483648 : Nat) : Int).toNat = (rdNum ⟨l, 0⟩).1 := by omega
  rw [e]
  exact rdNum_once h
theorem rdInt_once {l : List UInt8} (h : (rdInt ⟨l, 0⟩).2.err = 0) : l = num (zig (rdInt ⟨l, 0⟩).1) ++ (rdInt ⟨l, 0⟩).2.rest := by
  unfold rdInt at h ⊢
  dsimp only at h ⊢
  rw [zig_zag]
  exact rdNum_once h
theorem rdNum_err {s : St} (h : s.err ≠ 0) : (rdNum s).2 = s := by
  unfold rdNum
  rw [if_pos h]
theorem rdB_err {k : Nat} {s : St} (h : s.err ≠ 0) : (rdB k s).2 = s := by
  unfold rdB rdN
  split
  · exact rdNum_err h
  · rfl
theorem rdA_err {k : Nat} {s : St} (h : s.err ≠ 0) : (rdA k s).2 = s := by
  unfold rdA rdN rdInt
  split
  · exact rdNum_err h
  · split
    · exact rdNum_err h
    · rfl
theorem rdD_once {l : List De} {L : List UInt8} (he : (rdD ⟨L, 0⟩).2.2 = 0) (hl : l.length ≤ 32) (h : one l (rdD ⟨L, 0⟩).1 = 0) : L = encD (rdD ⟨L, 0⟩).1 ++ (rdD ⟨L, 0⟩).2.1.rest ∧ (rdD ⟨L, 0⟩).2.1.err = 0 := by
  unfold rdD at he h ⊢
  dsimp only at he h ⊢
  split at he
  · cases he
  · rename_i hc
    rw [if_neg hc] at h ⊢
    dsimp only at he h ⊢
    obtain ⟨x, r, rfl⟩ : ∃ x r, L = x :: r := by
      cases L with
      | nil =>
        exfalso
        have e0 : (rdByte ⟨[], 0⟩).2.err ≠ 0 := by decide
        rw [rdA_err e0, rdB_err e0] at he
        exact e0 he
      | cons x r => exact ⟨x, r, rfl⟩
    have hy : rdByte ⟨x :: r, 0⟩ = (x.toNat, ⟨r, 0⟩) := rfl
    rw [hy] at he h hc ⊢
    dsimp only at he h hc ⊢
    have hA0 : (rdA x.toNat ⟨r, 0⟩).2.err = 0 := by
      rcases Nat.eq_zero_or_pos (rdA x.toNat ⟨r, 0⟩).2.err with e | e
      · exact e
      · rw [rdB_err (by omega)] at he; exact he
    obtain ⟨h0, h3, h6, h7, hb, ha⟩ := one_zero h
    dsimp only at h0 h3 h6 h7 hb ha
    have hA : r = pieceA (x.toNat : Int) (rdA x.toNat ⟨r, 0⟩).1 ++ (rdA x.toNat ⟨r, 0⟩).2.rest := by
      unfold rdA at hA0 h3 h6 h7 ⊢
      unfold pieceA
      by_cases e : x.toNat = 3 ∨ x.toNat = 6
      · rw [if_pos e] at hA0 h3 h6 ⊢
        rw [if_pos (by omega)]
        refine rdN_once hA0 ?_
        rcases e with e | e
        · have := h3 (by omega); omega
        · have := h6 (by omega); omega
      · rw [if_neg e] at hA0 ⊢
        rw [if_neg (by omega)]
        by_cases e7 : x.toNat = 7
        · rw [if_pos e7] at hA0 ⊢
          rw [if_pos (by omega)]
          exact rdInt_once hA0
        · rw [if_neg e7, if_neg (by omega)]
          rfl
    generalize rdA x.toNat ⟨r, 0⟩ = q at *
    obtain ⟨a, R, E⟩ := q
    dsimp only at hA0 hA he h3 h6 h7 hb ha ⊢
    subst hA0
    have hB : R = pieceB (x.toNat : Int) (rdB x.toNat ⟨R, 0⟩).1 ++ (rdB x.toNat ⟨R, 0⟩).2.rest := by
      unfold rdB at he h3 h7 ⊢
      unfold pieceB
      by_cases e : x.toNat = 3 ∨ x.toNat = 7
      · rw [if_pos e] at he h3 h7 ⊢
        rw [if_pos (by omega)]
        refine rdN_once he ?_
        rcases e with e | e
        · have := h3 (by omega); omega
        · have := fits_lt (h7 (by omega)).2; omega
      · rw [if_neg e] at he ⊢
        rw [if_neg (by omega)]
        rfl
    refine ⟨?_, he⟩
    unfold encD
    dsimp only
    rw [Int.toNat_natCast, List.cons_append, List.append_assoc, ← hB, ← hA]
    congr 1
    exact UInt8.ofNat_toNat.symm
theorem rdL_err {s : St} {j : Nat} (h : (rdL s j).2.2 ≠ 0) : ∀ k, j ≤ k → (rdL s k).2.2 ≠ 0 := by
  intro k hk
  induction k with
  | zero =>
    obtain rfl : j = 0 := by omega
    exact h
  | succ k ih =>
    rcases Nat.eq_or_lt_of_le hk with e | e
    · subst e; exact h
    · have := ih (by omega)
      simp only [rdL]
      rw [if_pos this]
      exact this
theorem rdL_length {s : St} : ∀ j, (rdL s j).2.2 = 0 → (rdL s j).1.length = j := by
  intro j
  induction j with
  | zero => intro _; rfl
  | succ j ih =>
    intro h
    simp only [rdL] at h ⊢
    split at h
    · exact absurd h ‹_›
    · rename_i h1
      have := ih (by omega)
      rw [if_neg h1]
      split at h
      · exact absurd h ‹_›
      · rename_i h2
        rw [if_neg h2, List.length_append, this]
        rfl
theorem getD_left {l r : List De} {i : Nat} (h : i < l.length) : (l ++ r).getD i zero = l.getD i zero := by
  rw [List.getD_eq_getElem?_getD, List.getD_eq_getElem?_getD, List.getElem?_append_left h]
theorem getD_last {l : List De} {x : De} {i : Nat} (h : l.length = i) : (l ++ [x]).getD i zero = x := by
  subst h
  rw [List.getD_eq_getElem?_getD, List.getElem?_append_right (Nat.le_refl _), Nat.sub_self]
  rfl
theorem encs_left {l r : List De} : ∀ j, j ≤ l.length → encs (l ++ r) j = encs l j := by
  intro j
  induction j with
  | zero => intro _; rfl
  | succ j ih =>
    intro h
    simp only [encs]
    rw [ih (by omega), getD_left (by omega)]
theorem rdL_once {M : List De} (hM : M.length ≤ 32) : ∀ j (L : List UInt8), (rdL ⟨L, 0⟩ j).2.2 = 0 → (∀ i, i < j → one M ((rdL ⟨L, 0⟩ j).1.getD i zero) = 0) → L = encs (rdL ⟨L, 0⟩ j).1 j ++ (rdL ⟨L, 0⟩ j).2.1.rest ∧ (rdL ⟨L, 0⟩ j).2.1.err = 0 := by
  intro j
  induction j with
  | zero => intro L _ _; exact ⟨rfl, rfl⟩
  | succ j ih =>
    intro L he hall
    have h0 : (rdL ⟨L, 0⟩ j).2.2 = 0 := by
      rcases Nat.eq_zero_or_pos (rdL ⟨L, 0⟩ j).2.2 with h | h
      · exact h
      · exact absurd he (rdL_err (j := j) (by omega) (j + 1) (by omega))
    have hlen := rdL_length j h0
    simp only [rdL] at he hall ⊢
    rw [if_neg (by omega)] at he hall ⊢
    split at he
    · exact absurd he ‹_›
    · rename_i h2
      rw [if_neg h2] at hall ⊢
      dsimp only at he hall ⊢
      have h1 := ih L h0 (fun i hi => by
        have := hall i (by omega)
        rwa [getD_left (by omega)] at this)
      have hj := hall j (by omega)
      rw [getD_last hlen] at hj
      simp only [encs]
      rw [encs_left j (by omega), getD_last hlen]
      generalize rdL ⟨L, 0⟩ j = p at *
      obtain ⟨ls, ⟨R, E⟩, e⟩ := p
      dsimp only at h0 hlen h1 hj h2 ⊢
      obtain ⟨h1, h1e⟩ := h1
      subst h1e
      have h3 := rdD_once (l := M) (L := R) (by omega) hM hj
      refine ⟨?_, h3.2⟩
      rw [List.append_assoc, ← h3.1]
      exact h1
theorem got_bad {l : List UInt8} (h : (getL l).2.2 ≠ 0) : getL l = ([], 0, (getL l).2.2) := by
  unfold getL at h ⊢
  dsimp only at h ⊢
  split
  · rfl
  · rename_i h1
    rw [if_neg h1] at h
    exact absurd rfl h
theorem once {t : List UInt8} (h : (getL t).2.2 = 0) : (chk (getL t).1).2 = 0 ∧ 0 < (getL t).2.1 ∧ (getL t).2.1 ≤ t.length ∧ encL (getL t).1 = t.take (getL t).2.1 := by
  unfold getL readL at h ⊢
  dsimp only at h ⊢
  by_cases h1 : (rdN ⟨t, 0⟩).2.err ≠ 0
  · simp only [if_pos h1] at h; exact absurd h h1
  · simp only [if_neg h1] at h ⊢
    by_cases h2 : 32 < (rdN ⟨t, 0⟩).1
    · simp only [if_pos h2] at h; cases h
    · simp only [if_neg h2] at h ⊢
      have hn := rdN_once (l := t) (by omega) (by omega)
      have hn0 : 0 ≤ (rdN ⟨t, 0⟩).1 := by unfold rdN; dsimp only; omega
      generalize rdN ⟨t, 0⟩ = q at *
      obtain ⟨n, ⟨R, E⟩⟩ := q
      dsimp only at h h1 h2 hn hn0 ⊢
      obtain rfl : E = 0 := by omega
      by_cases h3 : (rdL ⟨R, 0⟩ n.toNat).2.2 ≠ 0
      · simp only [if_pos h3] at h; exact absurd h h3
      · simp only [if_neg h3] at h ⊢
        by_cases h4 : (chk (rdL ⟨R, 0⟩ n.toNat).1).2 ≠ 0
        · simp only [if_pos h4] at h; exact absurd h h4
        · simp only [if_neg h4] at h ⊢
          have hlen := rdL_length n.toNat (by omega : (rdL ⟨R, 0⟩ n.toNat).2.2 = 0)
          obtain ⟨hl, _, hall⟩ := chk_zero (by omega : (chk (rdL ⟨R, 0⟩ n.toNat).1).2 = 0)
          have ho := (rdL_once hl n.toNat R (by omega) (fun i hi => hall i (by omega))).1
          generalize rdL ⟨R, 0⟩ n.toNat = p at *
          obtain ⟨ls, S, e⟩ := p
          dsimp only at h3 h4 hlen hl hall ho ⊢
          have hE : t = encL ls ++ S.rest := by
            unfold encL
            rw [hlen, List.append_assoc, ← ho]
            exact hn
          have hpos : 0 < (encL ls).length := by
            have := enc_length_pos 9 ls.length
            simp only [encL, List.length_append]
            have e : (num ls.length).length = (Go.Proofs.YtahejekcfgkiaaaGreatDoor.octet.enc 9 ls.length).length := rfl
            omega
          have hlt : t.length = (encL ls).length + S.rest.length := by rw [hE, List.length_append]
          simp only [ne_eq, not_true_eq_false, if_false]
          refine ⟨by omega, by omega, by omega, ?_⟩
          rw [show t.length - S.rest.length = (encL ls).length from by omega, hE, List.take_left']
          rfl
end Go.Proofs.YtahejekcfgkiaaaGreatDoor.objs

/-
  A list of objects as it lies in memory, wherever it came from; and a row of them that a call owns. No condition.
-/
namespace Go.Proofs.YtahejekcfgkiaaaGreatDoor.objs
open Go.RowKit Go.ChangeShapes
set_option linter.unusedVariables false

/-- The three cells of an object. -/
def CellsAt (w : World) (b i : Nat) (d : De) : Prop := w.cell? ⟨b, i, none⟩ = some (.int .i64 d.1) ∧ w.cell? ⟨b, i + 1, none⟩ = some (.int .i64 d.2.1) ∧ w.cell? ⟨b, i + 2, none⟩ = some (.int .i64 d.2.2)
/-- A list of objects, one behind the other, from where a slice begins. -/
def DAt (w : World) (A : Option Addr) (l : List De) : Prop := ∀ j, j < l.length → ∃ b off, A = some ⟨b, off, none⟩ ∧ b < w.heap.size ∧ CellsAt w b (off + j * 3) (l.getD j zero)
theorem CellsAt.keep {w w' : World} {b i : Nat} {d : De} (h : CellsAt w b i d) (hb : w'.heap[b]? = w.heap[b]?) : CellsAt w' b i d :=
  ⟨(World.cell?_of_block (a := ⟨b, i, none⟩) hb).trans h.1, (World.cell?_of_block (a := ⟨b, i + 1, none⟩) hb).trans h.2.1, (World.cell?_of_block (a := ⟨b, i + 2, none⟩) hb).trans h.2.2⟩
theorem DAt.next {w w' : World} {A : Option Addr} {l : List De} (h : DAt w A l) (hb : Below w.heap.size w w') : DAt w' A l := fun j hj => by
  obtain ⟨b, off, h1, h2, h3⟩ := h j hj
  exact ⟨b, off, h1, Nat.lt_of_lt_of_le h2 hb.size, h3.keep (hb.block b h2)⟩
theorem DAt.drew {w : World} {A : Option Addr} {l : List De} (h : DAt w A l) : DAt w.drew A l := h
theorem DAt.drewN {w : World} {A : Option Addr} {l : List De} (h : DAt w A l) : ∀ n, DAt (w.drewN n) A l
  | 0 => h
  | n + 1 => (DAt.drewN h n).drew
theorem DAt.nil (w : World) (A : Option Addr) : DAt w A [] := fun j hj => absurd hj (Nat.not_lt_zero j)
theorem DAt.take {w : World} {A : Option Addr} {l : List De} (h : DAt w A l) (n : Nat) : DAt w A (l.take n) := fun j hj => by
  rw [List.length_take] at hj
  obtain ⟨b, off, h1, h2, h3⟩ := h j (by omega)
  refine ⟨b, off, h1, h2, ?_⟩
  rwa [List.getD_eq_getElem?_getD, List.getElem?_take_of_lt (by omega), ← List.getD_eq_getElem?_getD]

/-- Objects, cell by cell. -/
def flat (l : List De) : List Value := l.flatMap fun d => [.int .i64 d.1, .int .i64 d.2.1, .int .i64 d.2.2]
theorem flat_append (l r : List De) : flat (l ++ r) = flat l ++ flat r := by simp [flat]
theorem flat_cons (d : De) (l : List De) : flat (d :: l) = .int .i64 d.1 :: .int .i64 d.2.1 :: .int .i64 d.2.2 :: flat l := by simp [flat]
theorem flat_length (l : List De) : (flat l).length = l.length * 3 := by
  induction l with
  | nil => rfl
  | cons d l ih => rw [flat_cons]; simp only [List.length_cons, ih]; omega
theorem flat_oneCell (l : List De) : ∀ u ∈ flat l, u.oneCell' = true := by
  intro u hu
  simp only [flat, List.mem_flatMap] at hu
  obtain ⟨d, _, hd⟩ := hu
  simp only [List.mem_cons, List.not_mem_nil, or_false] at hd
  rcases hd with rfl | rfl | rfl <;> rfl
theorem flat_at (l : List De) : ∀ j, j < l.length → (flat l)[j * 3]? = some (.int .i64 (l.getD j zero).1) ∧ (flat l)[j * 3 + 1]? = some (.int .i64 (l.getD j zero).2.1) ∧ (flat l)[j * 3 + 2]? = some (.int .i64 (l.getD j zero).2.2) := by
  induction l with
  | nil => intro j hj; exact absurd hj (Nat.not_lt_zero j)
  | cons d l ih =>
    intro j hj
    rw [flat_cons]
    cases j with
    | zero => exact ⟨rfl, rfl, rfl⟩
    | succ j =>
      obtain ⟨h1, h2, h3⟩ := ih j (by simpa using hj)
      rw [show (j + 1) * 3 = j * 3 + 1 + 1 + 1 from by omega]
      exact ⟨h1, h2, h3⟩

/-- A slice's value of objects, nil or a row of the call's own. -/
def Own (w : World) (base : Nat) (v : Value) (l : List De) : Prop := w.ownsRow base 44 3 v l.length (flat l)
theorem Own.nil (w : World) (base : Nat) : Own w base (.slice none 0 0) [] := World.ownsRow_nil ..
theorem Own.empty {w : World} {g : Nat} (h : w.heap[g]? = some (.cells #[] 44 (0, 0))) : Own w g (.slice (some ⟨g, 0, none⟩) 0 0) [] :=
  ⟨rfl, .inr ⟨g, 0, #[], rfl, Nat.le_refl _, h, Nat.le_refl _, Nat.zero_le _, rfl, rfl⟩⟩
theorem Own.slice {w : World} {base : Nat} {v : Value} {l : List De} (h : Own w base v l) : ∃ A cap, v = .slice A l.length cap := by
  rcases h.2 with ⟨rfl, h0⟩ | ⟨g, cap, cur, rfl, _⟩
  · exact ⟨none, 0, by rw [h0]⟩
  · exact ⟨_, _, rfl⟩
theorem Own.at {w : World} {base cap : Nat} {A : Option Addr} {l : List De} {n : Nat} (h : Own w base (.slice A n cap) l) : DAt w A l := by
  intro j hj
  rcases h.2 with ⟨e, h0⟩ | ⟨g, cap', cur, e, hb, hh, _⟩
  · omega
  · injection e with e1 e2 e3
    subst e1
    obtain ⟨h1, h2, h3⟩ := flat_at l j hj
    refine ⟨g, 0, rfl, lt_of_block hh, ?_, ?_, ?_⟩
    · have := World.ownsRow.cells h (g := g) rfl _ _ h1
      rw [Addr.add_lit] at this
      simpa using this
    · have := World.ownsRow.cells h (g := g) rfl _ _ h2
      rw [Addr.add_lit] at this
      simpa using this
    · have := World.ownsRow.cells h (g := g) rfl _ _ h3
      rw [Addr.add_lit] at this
      simpa using this
theorem Own.keep {w w' : World} {base : Nat} {v : Value} {l : List De} (h : Own w base v l) (hk : ∀ g, v.ownBlock = some g → w'.heap[g]? = w.heap[g]?) : Own w' base v l := by
  refine ⟨h.1, h.2.imp id ?_⟩
  rintro ⟨g, c, cur, rfl, hb, hh, r⟩
  exact ⟨g, c, cur, rfl, hb, (hk g rfl).trans hh, r⟩
theorem Own.lt {w : World} {base g : Nat} {v : Value} {l : List De} (h : Own w base v l) (hg : v.ownBlock = some g) : base ≤ g ∧ g < w.heap.size := World.ownsRow.lt h g hg
theorem Own.next {w w' : World} {base : Nat} {v : Value} {l : List De} (h : Own w base v l) (hb : Below w.heap.size w w') : Own w' base v l := h.keep fun g hg => hb.block g (h.lt hg).2
theorem Own.base {w : World} {base base' : Nat} {v : Value} {l : List De} (h : Own w base v l) (hb : base' ≤ base) : Own w base' v l := by
  refine ⟨h.1, h.2.imp id ?_⟩
  rintro ⟨g, c, cur, e, hb1, r⟩
  exact ⟨g, c, cur, e, Nat.le_trans hb hb1, r⟩

theorem infoD : (Tryz.prog.info? 44).map (fun i => (i.zero, i.size, i.bytes)) = some (some (.agg #[.int .i64 0, .int .i64 0, .int .i64 0]), 3, 24) := by kernel_rfl

theorem src_cells {w : World} {ad : Addr} {r : List De} (h : DAt w (some ad) r) : ∀ (j : Nat) (u : Value), (flat r)[j]? = some u → w.cell? (ad.add j) = some u := by
  intro j u hu
  have hj : j < r.length * 3 := by
    have := (List.getElem?_eq_some_iff.1 hu).1
    rwa [flat_length] at this
  obtain ⟨b, off, e, _, h1, h2, h3⟩ := h (j / 3) (by omega)
  obtain rfl := Option.some.inj e
  obtain ⟨f1, f2, f3⟩ := flat_at r (j / 3) (by omega)
  rw [Addr.add_lit]
  rcases (by omega : j % 3 = 0 ∨ j % 3 = 1 ∨ j % 3 = 2) with hm | hm | hm
  · rw [show j / 3 * 3 = j from by omega] at h1 f1
    rw [h1, ← hu, f1]
  · rw [show off + j / 3 * 3 + 1 = off + j from by omega] at h2
    rw [show j / 3 * 3 + 1 = j from by omega] at f2
    rw [h2, ← hu, f2]
  · rw [show off + j / 3 * 3 + 2 = off + j from by omega] at h3
    rw [show j / 3 * 3 + 2 = j from by omega] at f3
    rw [h3, ← hu, f3]
/-- A list that lies anywhere, put behind a row of a call's own. -/
theorem run_appD (w : World) (ty : TypeId) (base m c : Nat) (v : Value) (A : Option Addr) (l r : List De) (hrow : Own w base v l) (hm : m = r.length) (hA : A = none → r = [] ∧ c = 0) (hsrc : DAt w A r) (hlen : l.length + r.length ≤ 100000) (hbase : base ≤ w.heap.size) :
    ∃ v' w', (Builtin.append_ #[22, 22] ty #[v, .slice A m c]).run Tryz.prog w = .ok v' w' ∧ Own w' base v' (l ++ r) ∧ w.grownBy w' v.ownBlock := by
  subst hm
  obtain ⟨i, hi, hz0, hz1, hz2⟩ := info_parts infoD
  cases A with
  | none =>
    obtain ⟨rfl, rfl⟩ := hA rfl
    refine ⟨v, w, run_append_owned_none (P := Tryz.prog) (w := w) base 22 ty 44 i 3 Tryz.underlying22 hi v l.length (flat l) hrow, ?_, ⟨rfl, rfl, rfl, Nat.le_refl _, fun _ _ _ => rfl⟩⟩
    rw [List.append_nil]
    exact hrow
  | some ad =>
    obtain ⟨v', w', h1, h2, h3, _⟩ := run_append_own (P := Tryz.prog) w base 22 ty 44 i _ 3 24 Tryz.underlying22 hi hz0 hz1 hz2 rfl (by omega) v l.length (flat l) hrow ad r.length c (flat r) (flat_length r) (src_cells hsrc) (flat_oneCell r) (by unfold maxLen; omega) (by omega) hbase
    refine ⟨v', w', h1, ?_, h3⟩
    unfold Own
    rw [List.length_append, flat_append]
    exact h2
theorem wp_appD {o : Oper} {a : Act} {w : World} {K : Act → World → Prop} {Q : Exit → Act → World → Prop} (s x : Operand)
    (ho : o.op = .call { callee := .builtin .append, args := #[s, x], argTypes := #[22, 22] }) (base m c : Nat) (v : Value) (A : Option Addr) (l r : List De)
    (hs : a.eval s = v) (hrow : Own w base v l) (hx : a.eval x = .slice A m c) (hm : m = r.length) (hA : A = none → r = [] ∧ c = 0) (hsrc : DAt w A r) (hlen : l.length + r.length ≤ 100000) (hbase : base ≤ w.heap.size)
    (h : ∀ v' w', Own w' base v' (l ++ r) → w.grownBy w' v.ownBlock → K (a.put o.dst v') w') : o.wp Tryz.prog a w K Q := by
  obtain ⟨v', w', hr, h2, h3⟩ := run_appD w o.type base m c v A l r hrow hm hA hsrc hlen hbase
  unfold Oper.wp execOp
  simp only [ho, resolve, invoke, builtin, Sem.run_bind, Sem.run_pure, Result.andThen_ok, List.map_toArray, List.map_cons, List.map_nil, hs, hx, hr]
  exact h v' w' h2 h3
theorem wpList_appD {ops : Array Oper} {rest : List Oper} {o : Oper} {a : Act} {w : World} {Q : Exit → Act → World → Prop} (hgd : o.guard = none) (s x : Operand)
    (ho : o.op = .call { callee := .builtin .append, args := #[s, x], argTypes := #[22, 22] }) (base m c : Nat) (v : Value) (A : Option Addr) (l r : List De)
    (hs : a.eval s = v) (hrow : Own w base v l) (hx : a.eval x = .slice A m c) (hm : m = r.length) (hA : A = none → r = [] ∧ c = 0) (hsrc : DAt w A r) (hlen : l.length + r.length ≤ 100000) (hbase : base ≤ w.heap.size)
    (h : ∀ v' w', Own w' base v' (l ++ r) → w.grownBy w' v.ownBlock → wpList Tryz.prog ops Q rest (a.put o.dst v') w') : wpList Tryz.prog ops Q (o :: rest) a w :=
  wpList_plain hgd fun _ hK => wp_appD s x ho base m c v A l r hs hrow hx hm hA hsrc hlen hbase fun v' w' h2 h3 => hK _ _ (h v' w' h2 h3)
theorem step_appD {ops : Array Oper} {o : Oper} {a : Act} {w : World} {K : Act → World → Prop} {Q : Exit → Act → World → Prop} {E : Prop} (hgd : o.guard = none) (s x : Operand)
    (ho : o.op = .call { callee := .builtin .append, args := #[s, x], argTypes := #[22, 22] }) (base m c : Nat) (v : Value) (A : Option Addr) (l r : List De)
    (hs : a.eval s = v) (hrow : Own w base v l) (hx : a.eval x = .slice A m c) (hm : m = r.length) (hA : A = none → r = [] ∧ c = 0) (hsrc : DAt w A r) (hlen : l.length + r.length ≤ 100000) (hbase : base ≤ w.heap.size)
    (h : ∀ v' w', Own w' base v' (l ++ r) → w.grownBy w' v.ownBlock → K (a.put o.dst v') w') :
    if Region.wanted o (yielded ops a.tmps) = true then Oper.wp Tryz.prog o a w K Q else E := by
  have hw : Region.wanted o (yielded ops a.tmps) = true := by simp [Region.wanted, hgd]
  rw [if_pos hw]
  exact wp_appD s x ho base m c v A l r hs hrow hx hm hA hsrc hlen hbase h
/-- An object in a block of its own, as a list of one. -/
theorem DAt.one {w : World} {g : Nat} {d : De} (h : w.heap[g]? = some (.cells #[.int .i64 d.1, .int .i64 d.2.1, .int .i64 d.2.2] 44 (0, 0))) : DAt w (some ⟨g, 0, none⟩) [d] := fun j hj => by
  obtain rfl : j = 0 := by simpa using hj
  refine ⟨g, 0, rfl, lt_of_block h, ?_, ?_, ?_⟩
  all_goals
    unfold World.cell?
    rw [h]
    rfl
end Go.Proofs.YtahejekcfgkiaaaGreatDoor.objs

/-
  The document's names of kinds, the kinds that a letter stands for, and whether an object is of one. No condition.
-/
namespace Go.Proofs.YtahejekcfgkiaaaGreatDoor.objs
open Go.RowKit Go.ChangeShapes
open Go.Proofs.YtahejekcfgkiaaaGreatDoor.word (Word)
set_option linter.unusedVariables false

theorem ret_int {k : IntKind} {a b : Int} (h : a = b) : Ending.returned (.int k a) = .returned (.int k b) := by rw [h]
theorem ret_bool {a b : Bool} (h : a = b) : Ending.returned (.bool a) = .returned (.bool b) := by rw [h]
theorem ret_string {a b : ByteArray} (h : a = b) : Ending.returned (.string a) = .returned (.string b) := by rw [h]

/-- A list of kinds that a call has made. -/
def KAt (w : World) (A : Option Addr) (ks : List Int) : Prop := ∀ j, j < ks.length → ∃ b, A = some ⟨b, 0, none⟩ ∧ w.cell? ⟨b, j, none⟩ = some (.int .i64 (ks.getD j 0))
def KindsPost (c : UInt8) (w : World) (e : Ending) (w' : World) : Prop := ∃ A, e = .returned (.slice A (kindsOf c).length (kindsOf c).length) ∧ KAt w' A (kindsOf c) ∧ Below w.heap.size w w'
theorem kat_one {w : World} {b : Nat} {k : Int} (h : w.heap[b]? = some (.cells #[.int .i64 k] 3 (0, 0))) : KAt w (some ⟨b, 0, none⟩) [k] := fun j hj => by
  obtain rfl : j = 0 := by simpa using hj
  refine ⟨b, rfl, ?_⟩
  unfold World.cell?
  rw [h]
  rfl
theorem kat_two {w : World} {b : Nat} {k m : Int} (h : w.heap[b]? = some (.cells #[.int .i64 k, .int .i64 m] 3 (0, 0))) : KAt w (some ⟨b, 0, none⟩) [k, m] := fun j hj => by
  have hj2 : j < 2 := hj
  refine ⟨b, rfl, ?_⟩
  unfold World.cell?
  rw [h]
  match j, hj2 with
  | 0, _ => rfl
  | 1, _ => rfl
def letters : List UInt8 := [117, 115, 112, 99, 109, 98, 118, 113]
theorem kinds_none {c : UInt8} (h : ∀ k, k < 8 → c ≠ letters.getD k 0) : kindsOf c = [] := by
  have h0 : c ≠ 117 := h 0 (by omega)
  have h1 : c ≠ 115 := h 1 (by omega)
  have h2 : c ≠ 112 := h 2 (by omega)
  have h3 : c ≠ 99 := h 3 (by omega)
  have h4 : c ≠ 109 := h 4 (by omega)
  have h5 : c ≠ 98 := h 5 (by omega)
  have h6 : c ≠ 118 := h 6 (by omega)
  have h7 : c ≠ 113 := h 7 (by omega)
  unfold kindsOf
  rw [if_neg h0, if_neg h1, if_neg h2, if_neg h3, if_neg h4, if_neg h5, if_neg h6, if_neg h7]
theorem u8_eq {c k : UInt8} : ((k.toNat : Int) == (c.toNat : Int)) = decide (c = k) := by
  by_cases h : c = k
  · subst h; simp
  · rw [decide_eq_false h, beq_eq_false_iff_ne]
    intro e
    exact h (UInt8.toNat_inj.1 (by omega))

/-- The world in which all lists of kinds are made. -/
def ints1 (k : Int) : Obj := .cells #[.int .i64 k] 3
def ints2 (k m : Int) : Obj := .cells #[.int .i64 k, .int .i64 m] 3
def rows (n : Nat) : Obj := .cells #[.slice (some ⟨n, 0, none⟩) 2 2, .slice (some ⟨n + 1, 0, none⟩) 1 1, .slice (some ⟨n + 1 + 1, 0, none⟩) 1 1, .slice (some ⟨n + 1 + 1 + 1, 0, none⟩) 1 1, .slice (some ⟨n + 1 + 1 + 1 + 1, 0, none⟩) 1 1, .slice (some ⟨n + 1 + 1 + 1 + 1 + 1, 0, none⟩) 1 1, .slice (some ⟨n + 1 + 1 + 1 + 1 + 1 + 1, 0, none⟩) 1 1, .slice (some ⟨n + 1 + 1 + 1 + 1 + 1 + 1 + 1, 0, none⟩) 2 2] 105
def kw (w : World) : World := ((((((((w.alloc (ints2 1 2)).alloc (ints1 3)).alloc (ints1 6)).alloc (ints1 4)).alloc (ints1 1)).alloc (ints1 5)).alloc (ints1 7)).alloc (ints2 1 6)).alloc (rows w.heap.size)
theorem kw_below (w : World) : Below w.heap.size w (kw w) := by
  unfold kw
  refine (((((((((Below.refl _ w).alloc (Nat.le_refl _) _).alloc ?_ _).alloc ?_ _).alloc ?_ _).alloc ?_ _).alloc ?_ _).alloc ?_ _).alloc ?_ _).alloc ?_ _
  all_goals simp only [World.size_alloc]; omega
theorem kw_at (w : World) : (kw w).heap[w.heap.size]? = some (ints2 1 2) ∧ (kw w).heap[w.heap.size + 1]? = some (ints1 3) ∧ (kw w).heap[w.heap.size + 1 + 1]? = some (ints1 6) ∧ (kw w).heap[w.heap.size + 1 + 1 + 1]? = some (ints1 4) ∧
    (kw w).heap[w.heap.size + 1 + 1 + 1 + 1]? = some (ints1 1) ∧ (kw w).heap[w.heap.size + 1 + 1 + 1 + 1 + 1]? = some (ints1 5) ∧ (kw w).heap[w.heap.size + 1 + 1 + 1 + 1 + 1 + 1]? = some (ints1 7) ∧ (kw w).heap[w.heap.size + 1 + 1 + 1 + 1 + 1 + 1 + 1]? = some (ints2 1 6) ∧
    (kw w).heap[w.heap.size + 1 + 1 + 1 + 1 + 1 + 1 + 1 + 1]? = some (rows w.heap.size) := by
  unfold kw
  refine ⟨?_, ?_, ?_, ?_, ?_, ?_, ?_, ?_, ?_⟩
  all_goals simp only [World.alloc, Array.getElem?_push, Array.size_push]
  all_goals repeat (first | rw [if_pos trivial] | rw [if_neg (by omega)])

set_option maxRecDepth 100000 in
set_option maxHeartbeats 4000000 in
theorem refKinds_any (c : UInt8) (w : World) : Calls Tryz.prog 87 #[.int .u8 (c.toNat : Int)] w (KindsPost c w) := by
  go_enter Tryz.func87, Tryz.ntmps87
  have HB := Lib.hid (kw_below w)
  obtain ⟨k0, k1, k2, k3, k4, k5, k6, k7, k8⟩ := kw_at w
  have H0 := Lib.hid (kat_two k0)
  have H1 := Lib.hid (kat_one k1)
  have H2 := Lib.hid (kat_one k2)
  have H3 := Lib.hid (kat_one k3)
  have H4 := Lib.hid (kat_one k4)
  have H5 := Lib.hid (kat_one k5)
  have H6 := Lib.hid (kat_one k6)
  have H7 := Lib.hid (kat_two k7)
  have HR : ∀ j, j < 8 → ∃ x, (kw w).cell? ⟨w.heap.size + 1 + 1 + 1 + 1 + 1 + 1 + 1 + 1, j, none⟩ = some x := by
    intro j hj
    unfold World.cell?
    rw [k8]
    unfold rows
    rcases (by omega : j = 0 ∨ j = 1 ∨ j = 2 ∨ j = 3 ∨ j = 4 ∨ j = 5 ∨ j = 6 ∨ j = 7) with rfl | rfl | rfl | rfl | rfl | rfl | rfl | rfl <;> exact ⟨_, rfl⟩
  have r0 : (kw w).cell? ⟨w.heap.size + 1 + 1 + 1 + 1 + 1 + 1 + 1 + 1, 0, none⟩ = some (.slice (some ⟨w.heap.size, 0, none⟩) 2 2) := by unfold World.cell?; rw [k8]; rfl
  have r1 : (kw w).cell? ⟨w.heap.size + 1 + 1 + 1 + 1 + 1 + 1 + 1 + 1, 1, none⟩ = some (.slice (some ⟨w.heap.size + 1, 0, none⟩) 1 1) := by unfold World.cell?; rw [k8]; rfl
  have r2 : (kw w).cell? ⟨w.heap.size + 1 + 1 + 1 + 1 + 1 + 1 + 1 + 1, 2, none⟩ = some (.slice (some ⟨w.heap.size + 1 + 1, 0, none⟩) 1 1) := by unfold World.cell?; rw [k8]; rfl
  have r3 : (kw w).cell? ⟨w.heap.size + 1 + 1 + 1 + 1 + 1 + 1 + 1 + 1, 3, none⟩ = some (.slice (some ⟨w.heap.size + 1 + 1 + 1, 0, none⟩) 1 1) := by unfold World.cell?; rw [k8]; rfl
  have r4 : (kw w).cell? ⟨w.heap.size + 1 + 1 + 1 + 1 + 1 + 1 + 1 + 1, 4, none⟩ = some (.slice (some ⟨w.heap.size + 1 + 1 + 1 + 1, 0, none⟩) 1 1) := by unfold World.cell?; rw [k8]; rfl
  have r5 : (kw w).cell? ⟨w.heap.size + 1 + 1 + 1 + 1 + 1 + 1 + 1 + 1, 5, none⟩ = some (.slice (some ⟨w.heap.size + 1 + 1 + 1 + 1 + 1, 0, none⟩) 1 1) := by unfold World.cell?; rw [k8]; rfl
  have r6 : (kw w).cell? ⟨w.heap.size + 1 + 1 + 1 + 1 + 1 + 1 + 1 + 1, 6, none⟩ = some (.slice (some ⟨w.heap.size + 1 + 1 + 1 + 1 + 1 + 1, 0, none⟩) 1 1) := by unfold World.cell?; rw [k8]; rfl
  have r7 : (kw w).cell? ⟨w.heap.size + 1 + 1 + 1 + 1 + 1 + 1 + 1 + 1, 7, none⟩ = some (.slice (some ⟨w.heap.size + 1 + 1 + 1 + 1 + 1 + 1 + 1, 0, none⟩) 2 2) := by unfold World.cell?; rw [k8]; rfl
  clear k0 k1 k2 k3 k4 k5 k6 k7 k8 HR
  obtain ⟨n8, hn8⟩ : ∃ n8, n8 = w.heap.size + 1 + 1 + 1 + 1 + 1 + 1 + 1 + 1 := ⟨_, rfl⟩
  obtain ⟨W1, hW1⟩ : ∃ W1, W1 = kw w := ⟨_, rfl⟩
  rw [← hn8, ← hW1] at r0 r1 r2 r3 r4 r5 r6 r7
  rw [← hW1] at HB H0 H1 H2 H3 H4 H5 H6 H7
  unfold kw ints1 ints2 rows at hW1
  go_wp2_with fail
  rw [← hW1, ← hn8]
  clear hW1 hn8
  have HNx : ∀ j, c ≠ letters.getD j 0 → Hid (∀ k, k < j → c ≠ letters.getD k 0) → Hid (∀ k, k < j + 1 → c ≠ letters.getD k 0) := fun j h1 h2 => Lib.hid (fun k hk => by
    rcases Nat.lt_or_ge k j with h3 | h3
    · exact h2.out k h3
    · obtain rfl : k = j := by omega
      exact h1)
  unfold KindsPost
  go_loop [5] (fun i => ∃ j : Nat, j ≤ 8 ∧ i = .int .i64 (j : Int) ∧ Hid (∀ k, k < j → c ≠ letters.getD k 0)) (fun i => 8 - (intOf i).toNat)
  case atStart => exact ⟨0, Nat.zero_le _, rfl, Lib.hid (fun k hk => absurd hk (Nat.not_lt_zero k))⟩
  case round =>
    obtain ⟨j, hj, rfl, HO⟩ := hrel
    rcases (by omega : j = 0 ∨ j = 1 ∨ j = 2 ∨ j = 3 ∨ j = 4 ∨ j = 5 ∨ j = 6 ∨ j = 7 ∨ j = 8) with rfl | rfl | rfl | rfl | rfl | rfl | rfl | rfl | rfl
    · by_cases hc : c = 117
      · subst hc
        go_wp2
        exact bodyPost_ret (v := .slice (some ⟨w.heap.size, 0, none⟩) 2 2) (by simp [results, Tryz.results87, go_sem]) rfl ⟨_, rfl, H0.out, HB.out⟩
      · have hb : ((((⟨#[117, 115, 112, 99, 109, 98, 118, 113]⟩ : ByteArray)[0]'(by decide)).toNat : Int) == (c.toNat : Int)) = false := (u8_eq (c := c) (k := 117)).trans (decide_eq_false hc)
        have HE := HNx 0 hc HO
        clear hc
        go_wp2
        exact ⟨⟨1, by omega, rfl, HE⟩, by simp [intOf]⟩
    · by_cases hc : c = 115
      · subst hc
        go_wp2
        exact bodyPost_ret (v := .slice (some ⟨w.heap.size + 1, 0, none⟩) 1 1) (by simp [results, Tryz.results87, go_sem]) rfl ⟨_, rfl, H1.out, HB.out⟩
      · have hb : ((((⟨#[117, 115, 112, 99, 109, 98, 118, 113]⟩ : ByteArray)[1]'(by decide)).toNat : Int) == (c.toNat : Int)) = false := (u8_eq (c := c) (k := 115)).trans (decide_eq_false hc)
        have HE := HNx 1 hc HO
        clear hc
        go_wp2
        exact ⟨⟨2, by omega, rfl, HE⟩, by simp [intOf]⟩
    · by_cases hc : c = 112
      · subst hc
        go_wp2
        exact bodyPost_ret (v := .slice (some ⟨w.heap.size + 1 + 1, 0, none⟩) 1 1) (by simp [results, Tryz.results87, go_sem]) rfl ⟨_, rfl, H2.out, HB.out⟩
      · have hb : ((((⟨#[117, 115, 112, 99, 109, 98, 118, 113]⟩ : ByteArray)[2]'(by decide)).toNat : Int) == (c.toNat : Int)) = false := (u8_eq (c := c) (k := 112)).trans (decide_eq_false hc)
        have HE := HNx 2 hc HO
        clear hc
        go_wp2
        exact ⟨⟨3, by omega, rfl, HE⟩, by simp [intOf]⟩
    · by_cases hc : c = 99
      · subst hc
        go_wp2
        exact bodyPost_ret (v := .slice (some ⟨w.heap.size + 1 + 1 + 1, 0, none⟩) 1 1) (by simp [results, Tryz.results87, go_sem]) rfl ⟨_, rfl, H3.out, HB.out⟩
      · have hb : ((((⟨#[117, 115, 112, 99, 109, 98, 118, 113]⟩ : ByteArray)[3]'(by decide)).toNat : Int) == (c.toNat : Int)) = false := (u8_eq (c := c) (k := 99)).trans (decide_eq_false hc)
        have HE := HNx 3 hc HO
        clear hc
        go_wp2
        exact ⟨⟨4, by omega, rfl, HE⟩, by simp [intOf]⟩
    · by_cases hc : c = 109
      · subst hc
        go_wp2
        exact bodyPost_ret (v := .slice (some ⟨w.heap.size + 1 + 1 + 1 + 1, 0, none⟩) 1 1) (by simp [results, Tryz.results87, go_sem]) rfl ⟨_, rfl, H4.out, HB.out⟩
      · have hb : ((((⟨#[117, 115, 112, 99, 109, 98, 118, 113]⟩ : ByteArray)[4]'(by decide)).toNat : Int) == (c.toNat : Int)) = false := (u8_eq (c := c) (k := 109)).trans (decide_eq_false hc)
        have HE := HNx 4 hc HO
        clear hc
        go_wp2
        exact ⟨⟨5, by omega, rfl, HE⟩, by simp [intOf]⟩
    · by_cases hc : c = 98
      · subst hc
        go_wp2
        exact bodyPost_ret (v := .slice (some ⟨w.heap.size + 1 + 1 + 1 + 1 + 1, 0, none⟩) 1 1) (by simp [results, Tryz.results87, go_sem]) rfl ⟨_, rfl, H5.out, HB.out⟩
      · have hb : ((((⟨#[117, 115, 112, 99, 109, 98, 118, 113]⟩ : ByteArray)[5]'(by decide)).toNat : Int) == (c.toNat : Int)) = false := (u8_eq (c := c) (k := 98)).trans (decide_eq_false hc)
        have HE := HNx 5 hc HO
        clear hc
        go_wp2
        exact ⟨⟨6, by omega, rfl, HE⟩, by simp [intOf]⟩
    · by_cases hc : c = 118
      · subst hc
        go_wp2
        exact bodyPost_ret (v := .slice (some ⟨w.heap.size + 1 + 1 + 1 + 1 + 1 + 1, 0, none⟩) 1 1) (by simp [results, Tryz.results87, go_sem]) rfl ⟨_, rfl, H6.out, HB.out⟩
      · have hb : ((((⟨#[117, 115, 112, 99, 109, 98, 118, 113]⟩ : ByteArray)[6]'(by decide)).toNat : Int) == (c.toNat : Int)) = false := (u8_eq (c := c) (k := 118)).trans (decide_eq_false hc)
        have HE := HNx 6 hc HO
        clear hc
        go_wp2
        exact ⟨⟨7, by omega, rfl, HE⟩, by simp [intOf]⟩
    · by_cases hc : c = 113
      · subst hc
        go_wp2
        exact bodyPost_ret (v := .slice (some ⟨w.heap.size + 1 + 1 + 1 + 1 + 1 + 1 + 1, 0, none⟩) 2 2) (by simp [results, Tryz.results87, go_sem]) rfl ⟨_, rfl, H7.out, HB.out⟩
      · have hb : ((((⟨#[117, 115, 112, 99, 109, 98, 118, 113]⟩ : ByteArray)[7]'(by decide)).toNat : Int) == (c.toNat : Int)) = false := (u8_eq (c := c) (k := 113)).trans (decide_eq_false hc)
        have HE := HNx 7 hc HO
        clear hc
        go_wp2
        exact ⟨⟨8, by omega, rfl, HE⟩, by simp [intOf]⟩
    · have HE := Lib.hid (kinds_none HO.out)
      clear HNx
      go_wp2
      exact bodyPost_ret (v := .slice none 0 0) (by simp [results, Tryz.results87, go_sem]) rfl ⟨none, by rw [HE.out]; rfl, by rw [HE.out]; exact fun j hj => absurd hj (Nat.not_lt_zero j), HB.out⟩
end Go.Proofs.YtahejekcfgkiaaaGreatDoor.objs

/-
  The document's own answer whether an object is of a kind that a letter stands for, and the names of kinds. No condition.
-/
namespace Go.Proofs.YtahejekcfgkiaaaGreatDoor.objs
open Go.RowKit Go.ChangeShapes
open Go.Proofs.YtahejekcfgkiaaaGreatDoor.word (Word)
set_option linter.unusedVariables false

theorem contains_at {ks : List Int} {x : Int} {j : Nat} (hj : j < ks.length) (h : ks.getD j 0 = x) : ks.contains x = true := by
  rw [List.contains_iff_mem]
  rw [List.getD_eq_getElem?_getD, List.getElem?_eq_getElem hj, Option.getD_some] at h
  rw [← h]
  exact List.getElem_mem hj
theorem contains_no {ks : List Int} {x : Int} (h : ∀ k, k < ks.length → ks.getD k 0 ≠ x) : ks.contains x = false := by
  cases hc : ks.contains x with
  | false => rfl
  | true =>
    rw [List.contains_iff_mem] at hc
    obtain ⟨k, hk, e⟩ := List.getElem_of_mem hc
    exact absurd (by rw [List.getD_eq_getElem?_getD, List.getElem?_eq_getElem hk, Option.getD_some]; exact e) (h k hk)
theorem KAt.next {w w' : World} {A : Option Addr} {ks : List Int} (h : KAt w A ks) (hb : Below w.heap.size w w') : KAt w' A ks := fun j hj => by
  obtain ⟨b, h1, h2⟩ := h j hj
  refine ⟨b, h1, ?_⟩
  have hlt : b < w.heap.size := by
    rcases Nat.lt_or_ge b w.heap.size with h3 | h3
    · exact h3
    · simp [World.cell?, Array.getElem?_eq_none h3] at h2
  exact (hb.cell (p := ⟨b, j, none⟩) hlt).trans h2
theorem KAt.drewN {w : World} {A : Option Addr} {ks : List Int} (h : KAt w A ks) (n : Nat) : KAt (w.drewN n) A ks := fun j hj => by
  obtain ⟨b, h1, h2⟩ := h j hj
  exact ⟨b, h1, by simpa using h2⟩
theorem kinds_le (c : UInt8) : (kindsOf c).length ≤ 2 := by
  unfold kindsOf
  split
  · decide
  · split
    · decide
    · split
      · decide
      · split
        · decide
        · split
          · decide
          · split
            · decide
            · split
              · decide
              · split <;> decide
theorem below_drewN {B : Nat} {a w : World} (h : Below B a w) : ∀ n, Below B a (w.drewN n)
  | 0 => h
  | n + 1 => (below_drewN h n).drew

set_option maxRecDepth 100000 in
set_option maxHeartbeats 4000000 in
theorem refFits_in (A : Option Addr) (cap : Nat) (l : List De) (c : UInt8) (m : Nat) (hm : m < l.length) (hl : l.length ≤ 9223372036854775807) (w : World) (hA : DAt w A l) :
    Calls Tryz.prog 64 #[.slice A l.length cap, .int .u8 (c.toNat : Int), .int .i64 (m : Int)] w fun e w' => e = .returned (.bool (fits l c m)) ∧ Below w.heap.size w w' := by
  have HK := Lib.hid (refKinds_any c w)
  have HF : Hid (fits l c m = (kindsOf c).contains (l.getD m zero).1) := Lib.hid (by unfold fits; rw [decide_eq_true (by omega), Bool.true_and, Int.toNat_natCast])
  obtain ⟨b, off, rfl, hb, c0, _, _⟩ := hA m hm
  have h2 := kinds_le c
  rw [HF.out]
  unfold KindsPost at HK
  clear hA HF
  generalize kindsOf c = ks at *
  generalize (l.getD m zero).1 = x at *
  go_enter Tryz.func64, Tryz.ntmps64
  go_wp2_with fail
  refine HK.out.mono ?_
  rintro e w1 ⟨B, rfl, hk, hb1⟩
  have hc1 : w1.cell? ⟨b, off + m * 3, none⟩ = some (.int .i64 x) := (hb1.cell (p := ⟨b, off + m * 3, none⟩) hb).trans c0
  have HK1 := Lib.hid hk
  have HB1 := Lib.hid hb1
  clear HK hk hb1 c0
  have hm' : (m : Int) < (l.length : Int) := by omega
  have hm0 : (0 : Int) ≤ (m : Int) := by omega
  go_wp2_with fail
  go_loopw [8] (fun i wr => ∃ j : Nat, j ≤ ks.length ∧ i = .int .i64 (j : Int) ∧ Hid (∀ k, k < j → ks.getD k 0 ≠ x) ∧ Hid (KAt wr B ks ∧ Below w.heap.size w wr) ∧ wr.cell? ⟨b, off + m * 3, none⟩ = some (.int .i64 x)) (fun i _ => ks.length - (intOf i).toNat)
  case atStart => exact ⟨0, Nat.zero_le _, rfl, Lib.hid (fun k hk => absurd hk (Nat.not_lt_zero k)), Lib.hid ⟨HK1.out, HB1.out⟩, hc1⟩
  case round =>
    obtain ⟨j, hj, rfl, HO, HS, hc⟩ := hrel
    clear hc1
    by_cases hlt : j < ks.length
    · obtain ⟨g, rfl, hg⟩ := HS.out.1 j hlt
      have hlt' : (j : Int) < (ks.length : Int) := by omega
      by_cases hx : ks.getD j 0 = x
      · have HE := Lib.hid (contains_at hlt hx)
        rw [hx] at hg
        clear hx
        go_wp2_with fail
        go_quiet (fail)
        go_wp2
        go_ret
        exact ⟨ret_bool HE.out.symm, below_drewN HS.out.2 _⟩
      · have HE : Hid (∀ k, k < j + 1 → ks.getD k 0 ≠ x) := Lib.hid (fun k hk => by
          rcases Nat.lt_or_ge k j with h1 | h1
          · exact HO.out k h1
          · obtain rfl : k = j := by omega
            exact hx)
        have hx' : (x == ks.getD j 0) = false := by rw [beq_eq_false_iff_ne]; exact fun e => hx e.symm
        clear hx
        generalize ks.getD j 0 = y at *
        go_wp2_with fail
        go_quiet (fail)
        go_wp2
        go_roundw
        case rel => exact ⟨j + 1, by omega, by go_num, HE, Lib.hid ⟨HS.out.1.drewN _, below_drewN HS.out.2 _⟩, by simpa using hc⟩
        case measure => simp [intOf]; omega
    · obtain rfl : j = ks.length := by omega
      have HE := Lib.hid (contains_no HO.out)
      go_wp2_with fail
      go_ret
      exact ⟨ret_bool HE.out.symm, HS.out.2⟩

set_option maxRecDepth 100000 in
set_option maxHeartbeats 4000000 in
theorem refFits_out (A : Option Addr) (cap : Nat) (l : List De) (c : UInt8) (o : Int) (ho : o < 0 ∨ (l.length : Int) ≤ o) (hl : l.length ≤ 9223372036854775807) (w : World) :
    Calls Tryz.prog 64 #[.slice A l.length cap, .int .u8 (c.toNat : Int), .int .i64 o] w fun e w' => e = .returned (.bool (fits l c o)) ∧ Below w.heap.size w w' := by
  have HK := Lib.hid (refKinds_any c w)
  have HF : Hid (fits l c o = false) := Lib.hid (by unfold fits; rw [decide_eq_false (by omega), Bool.false_and])
  have h2 := kinds_le c
  rw [HF.out]
  unfold KindsPost at HK
  clear HF
  generalize kindsOf c = ks at *
  have hd : (0 ≤ o) → ¬ (o < (l.length : Int)) := fun h => by omega
  have HD := Lib.hid hd
  clear hd ho
  go_enter Tryz.func64, Tryz.ntmps64
  go_wp2_with fail
  refine HK.out.mono ?_
  rintro e w1 ⟨B, rfl, hk, hb1⟩
  have HB1 := Lib.hid hb1
  clear HK hk hb1
  go_wp2_with fail
  go_loopw [8] (fun i wr => i = .int .i64 0 ∧ Hid (Below w.heap.size w wr)) (fun i _ => 0)
  case atStart => exact ⟨rfl, HB1⟩
  case round =>
    obtain ⟨rfl, HB⟩ := hrel
    by_cases hk : ks.length = 0
    · go_wp2_with fail
      go_ret
      exact ⟨rfl, HB.out⟩
    · have hk' : (0 : Int) < (ks.length : Int) := by omega
      by_cases h0 : 0 ≤ o
      · have h1 : decide (o < (l.length : Int)) = false := by simpa using HD.out h0
        clear hk
        go_wp2_with fail
        go_ret
        exact ⟨rfl, HB.out⟩
      · have h1 : decide (0 ≤ o) = false := by simpa using h0
        clear hk
        go_wp2_with fail
        go_ret
        exact ⟨rfl, HB.out⟩
theorem refFits_any (A : Option Addr) (cap : Nat) (l : List De) (c : UInt8) (o : Int) (hl : l.length ≤ 9223372036854775807) (w : World) (hA : DAt w A l) :
    Calls Tryz.prog 64 #[.slice A l.length cap, .int .u8 (c.toNat : Int), .int .i64 o] w fun e w' => e = .returned (.bool (fits l c o)) ∧ Below w.heap.size w w' := by
  by_cases h : 0 ≤ o ∧ o < (l.length : Int)
  · obtain ⟨m, rfl⟩ : ∃ m : Nat, o = (m : Int) := ⟨o.toNat, by omega⟩
    exact refFits_in A cap l c m (by omega) hl w hA
  · exact refFits_out A cap l c o (by omega) hl w
end Go.Proofs.YtahejekcfgkiaaaGreatDoor.objs
