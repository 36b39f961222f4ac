/-
  Texts of one claim in one file: Mem, Out, In, Put, JRefPut, InNum, Ref, RefNum, InText, RefText, RefPlain, JRefRead, JRefGet, JSpec, WProg. Each has its own sentence, with its conditions.
-/
import Derived.Test.YtnhoeboighndlaaGreatDoorYall1
import Derived.OneCell
import Derived.Laws.Rows
import Derived.WalkKit
import Derived.Test.YtnhoeboighndlaaGreatDoorProg
import Derived.Lib.AppendStr
import Derived.Lib.Hide
import Derived.Laws.IdiomStrings
import Derived.ProofKit
import Derived.BigQuiet
import Derived.Deep.QuietTactic
import Derived.Outline
import Derived.Handy
import Derived.Lib.Strings
import Derived.Lib.SmallJoins
import Derived.Test.YtnhoeboighndlaaGreatDoorYall7
import Derived.RegionTactic
import Derived.ChangeAlike
import Derived.Lib.Walk
import Derived.Lib.BufferWrite
import Derived.Lib.UnsafeStr
import Derived.Laws.MakeOwn
import Derived.BigRegion
import Derived.WalkLawsBesides
import Derived.Test.YtnhoeboighndlaaGreatDoorYall6
/-
  How the writer and the reader lie in memory, and what a step leaves alone: a writer's block holds a slice of bytes of its own; a reader's block holds the bytes that are left and the first error. No condition.
-/
namespace Go.Proofs.YtnhoeboighndlaaGreatDoor.octet
open Go.RowKit

def cells (l : List UInt8) : List Value := l.map fun b => Value.int .u8 (b.toNat : Int)
theorem cells_length (l : List UInt8) : (cells l).length = l.length := by simp [cells]
theorem cells_append (l r : List UInt8) : cells (l ++ r) = cells l ++ cells r := by simp [cells]

/-- Of the blocks below B none has turned but x; no block has gone. -/
structure Frm (B x : Nat) (w w' : World) : Prop where
  os : w'.os = w.os
  tape : w'.tape = w.tape
  output : w'.output = w.output
  size : w.heap.size ≤ w'.heap.size
  block : ∀ k, k < B → k ≠ x → w'.heap[k]? = w.heap[k]?
theorem Frm.refl (B x : Nat) (w : World) : Frm B x w w := ⟨rfl, rfl, rfl, Nat.le_refl _, fun _ _ _ => rfl⟩
theorem Frm.trans {B x : Nat} {a b c : World} (h : Frm B x a b) (k : Frm B x b c) : Frm B x a c :=
  ⟨k.os.trans h.os, k.tape.trans h.tape, k.output.trans h.output, Nat.le_trans h.size k.size, fun i hi hx => (k.block i hi hx).trans (h.block i hi hx)⟩
theorem Frm.mono {B B' x : Nat} {w w' : World} (h : Frm B x w w') (hB : B' ≤ B) : Frm B' x w w' := ⟨h.os, h.tape, h.output, h.size, fun k hk hx => h.block k (Nat.lt_of_lt_of_le hk hB) hx⟩
theorem Frm.drew {B x : Nat} {a w : World} (h : Frm B x a w) : Frm B x a w.drew := ⟨h.os, h.tape, h.output, h.size, h.block⟩
theorem Frm.alloc {B x : Nat} {a w : World} (h : Frm B x a w) (hB : B ≤ w.heap.size) (o : Obj) : Frm B x a (w.alloc o) :=
  h.trans ⟨rfl, rfl, rfl, by simp, fun k hk _ => Below.heap_alloc _ _ _ (by omega)⟩
theorem Frm.setCell {B x : Nat} {a w : World} (h : Frm B x a w) {p : Addr} (hp : p.block = x ∨ B ≤ p.block) (u : Value) : Frm B x a (w.setCell p u) :=
  h.trans ⟨rfl, rfl, rfl, by simp [World.setCell], fun k hk hx => Below.heap_setCell _ _ _ _ (by omega)⟩
theorem Frm.below {B B' x : Nat} {w w' : World} (h : Frm B x w w') (hx : B' ≤ x) (hB : B' ≤ B) : Below B' w w' :=
  ⟨h.os, h.tape, h.output, h.size, fun k hk => h.block k (by omega) (by omega)⟩
theorem Frm.of_below {B x : Nat} {w w' : World} (h : Below B w w') : Frm B x w w' := ⟨h.os, h.tape, h.output, h.size, fun k hk _ => h.block k hk⟩
theorem Frm.grown {B x : Nat} {a w w' : World} {row : Option Nat} (h : Frm B x a w) (hg : w.grownBy w' row) (hB : B ≤ w.heap.size) (hr : ∀ k, row = some k → B ≤ k ∨ k = x) : Frm B x a w' :=
  h.trans ⟨hg.os, hg.tape, hg.output, hg.size, fun k hk hx => hg.block k (by omega) (fun e => by rcases hr k e.symm with h | h <;> omega)⟩

end Go.Proofs.YtnhoeboighndlaaGreatDoor.octet

/-
  The writer's calls, each by itself: what bytes a byte, a number, a number with a sign and a text lay behind what was put. The bytes put are together at most two to the forty-seventh.
-/
namespace Go.Proofs.YtnhoeboighndlaaGreatDoor.octet
open Go.RowKit Go.ChangeShapes

theorem info5 : (Tryz.prog.info? 5).map (fun i => (i.zero, i.size, i.bytes)) = some (some (.int .u8 0), 1, 1) := by kernel_rfl

def bof (n : Int) : UInt8 := UInt8.ofNat (n % 256).toNat
theorem bof_cell (n : Int) : Value.int .u8 ((bof n).toNat : Int) = .int .u8 (n % 256) := by
  congr 1
  unfold bof
  rw [UInt8.toNat_ofNat']
  omega

theorem own_slice {w : World} {base : Nat} {e : TypeId} {size n : Nat} {v : Value} {xs : List Value} (h : w.ownsRow base e size v n xs) : ∃ A m c, v = .slice A m c := by
  rcases h.2 with ⟨rfl, _⟩ | ⟨g, cap, cur, rfl, _⟩
  · exact ⟨_, _, _, rfl⟩
  · exact ⟨_, _, _, rfl⟩

/-- The number is one of sixty-four bits. -/
def Fits (n : Nat) : Prop := n < 18446744073709551616

theorem bof_nat (m : Nat) : bof (m : Int) = UInt8.ofNat m := by
  unfold bof
  apply UInt8.toNat_inj.1
  rw [UInt8.toNat_ofNat', UInt8.toNat_ofNat']
  omega
theorem or_and_u64 (m : Nat) (hm : Fits m) : wrap64 (bits .or .u64 (bits .and .u64 (m : Int) 127) 128) = ((m % 128 + 128 : Nat) : Int) := by
  unfold Fits at hm
  have e1 : bits .and .u64 (m : Int) 127 = ((m % 128 : Nat) : Int) := by
    rw [← nat_mask7]; exact u64_and_nat m 127 hm (by omega)
  have e2 : bits .or .u64 ((m % 128 : Nat) : Int) 128 = ((m % 128 + 128 : Nat) : Int) := by
    have h := u64_or_nat (m % 128) 128 (by omega) (by omega)
    rw [Nat.or_comm, nat_join 7 128 (m % 128) rfl (by omega), Nat.add_comm] at h
    exact h
  rw [e1, e2]
  unfold wrap64
  omega

theorem i64_not_neg (n : Int) (h1 : -9223372036854775808 ≤ n) (h2 : n < 0) : bits .xor .i64 (-1) n = -1 - n := by
  show IntKind.i64.wrap ((BitVec.ofInt 64 (-1) ^^^ BitVec.ofInt 64 n).toNat : Int) = _
  have e1 : BitVec.ofInt 64 (-1) = BitVec.allOnes 64 := by decide
  have e2 : (BitVec.ofInt 64 n).toNat = (n + 18446744073709551616).toNat := by
    rw [BitVec.toNat_ofInt]
    omega
  rw [e1, BitVec.allOnes_xor, BitVec.toNat_not, e2]
  simp only [IntKind.wrap_i64]
  omega
theorem zig_neg (n : Int) (h1 : -9223372036854775808 ≤ n) (h2 : n < 0) :
    bits .or .u64 (IntKind.u64.wrap (IntKind.u64.wrap (bits .xor .i64 (-1) n) * 2)) 1 = ((zig n : Nat) : Int) := by
  rw [i64_not_neg n h1 h2]
  have e1 : IntKind.u64.wrap (IntKind.u64.wrap (-1 - n) * 2) = (((-1 - n).toNat * 2 : Nat) : Int) := by
    simp only [IntKind.wrap_u64]
    omega
  have e2 := u64_or_nat ((-1 - n).toNat * 2) 1 (by omega) (by omega)
  rw [nat_join 1 ((-1 - n).toNat * 2) 1 (by omega) (by omega)] at e2
  rw [e1]
  refine e2.trans ?_
  unfold zig
  rw [if_neg (by omega)]
  omega
theorem zig_pos (n : Int) (h1 : ¬ n < 0) : n * 2 = ((zig n : Nat) : Int) := by
  unfold zig
  rw [if_pos (by omega)]
  omega

theorem run_own_string {w : World} {base : Nat} {v : Value} {l : List UInt8} (h : w.ownsRow base 5 1 v l.length (cells l)) :
    (convert 56 9 v).run Tryz.prog w = .ok (.string ⟨l.toArray⟩) w := by
  rcases h.2 with ⟨rfl, h0⟩ | ⟨g, cap, cur, rfl, hg⟩
  · have : l = [] := List.eq_nil_of_length_eq_zero h0
    subst this
    rw [run_convert_bytes_string w 56 9 5 none 0 0 Tryz.underlying56 Tryz.underlying5 Tryz.underlying9]
    rfl
  · exact run_convert_bytes_back w 56 9 5 ⟨g, 0, none⟩ cap l Tryz.underlying56 Tryz.underlying5 Tryz.underlying9 (fun j hj => by
      refine World.ownsRow.cells h (g := g) rfl j _ ?_
      simp [cells, List.getElem?_eq_getElem hj])

end Go.Proofs.YtnhoeboighndlaaGreatDoor.octet

/-
  The reader's calls, each by itself: what is left, the first error, one byte, a failure. The reader lies in a block of its own, and holds no bytes behind an error.
-/
set_option linter.unusedVariables false
namespace Go.Proofs.YtnhoeboighndlaaGreatDoor.octet
open Go.RowKit Go.ChangeShapes

theorem size_mk (l : List UInt8) : (ByteArray.mk l.toArray).size = l.length := by
  show l.toArray.size = l.length
  simp

theorem extract_mk (l : List UInt8) (i j : Nat) : (ByteArray.mk l.toArray).extract i j = ⟨((l.take j).drop i).toArray⟩ := by
  apply ByteArray.ext
  rw [ByteArray.data_extract]
  simp [List.extract_eq_take_drop, List.drop_take]

end Go.Proofs.YtnhoeboighndlaaGreatDoor.octet

/-
  One call that puts something: what it lays behind what was put; and the document's own bytes of it. The bytes put are together at most two to the forty-seventh.
-/
namespace Go.Proofs.YtnhoeboighndlaaGreatDoor.octet
open Go.RowKit Go.ChangeShapes
set_option linter.unusedVariables false

/-- What is put: which kind, and its number, number with a sign, text. -/
structure OpD where
  kind : Int
  n : Nat
  i : Int
  s : ByteArray
def OpD.fits (o : OpD) : Prop := Fits o.n ∧ -9223372036854775808 ≤ o.i ∧ o.i ≤ 9223372036854775807
def OpD.bytes (o : OpD) : List UInt8 := if o.kind = 0 then [UInt8.ofNat (o.n % 256)] else if o.kind = 1 then num o.n else if o.kind = 2 then num (zig o.i) else num o.s.size ++ o.s.data.toList
theorem OpD.length_le (o : OpD) : o.bytes.length ≤ o.s.size + 10 := by
  have h1 := num_length_le o.n
  have h2 := num_length_le (zig o.i)
  have h3 := num_length_le o.s.size
  have h4 : o.s.data.toList.length = o.s.size := by rw [Array.length_toList]; rfl
  unfold OpD.bytes
  split
  · simp
  · split
    · omega
    · split
      · omega
      · rw [List.length_append]; omega

theorem mk_append (l r : List UInt8) : ByteArray.mk l.toArray ++ ByteArray.mk r.toArray = ByteArray.mk (l ++ r).toArray := by
  apply ByteArray.ext
  apply Array.toList_inj.1
  simp [ByteArray.data_append]
theorem run_one (w : World) (x : Int) (b : UInt8) (hx : x = (b.toNat : Int)) :
    (convert 56 9 (.slice (some ⟨w.heap.size, 0, none⟩) 1 1)).run Tryz.prog (w.alloc (.cells #[.int .u8 x] 5)) = .ok (.string ⟨[b].toArray⟩) (w.alloc (.cells #[.int .u8 x] 5)) := by
  subst hx
  refine run_convert_bytes_back _ 56 9 5 ⟨w.heap.size, 0, none⟩ 1 [b] Tryz.underlying56 Tryz.underlying5 Tryz.underlying9 (fun j hj => ?_)
  have hj0 : j = 0 := by simp at hj; exact hj
  subst hj0
  exact cell_of_one (heap_alloc_new w _)

end Go.Proofs.YtnhoeboighndlaaGreatDoor.octet

/-
  The document's own bytes of an instruction that may be. No condition but that it may be.
-/
namespace Go.Proofs.YtnhoeboighndlaaGreatDoor.inst
open Go.RowKit Go.ChangeShapes
open Go.Proofs.YtnhoeboighndlaaGreatDoor.oper (ret_int ret_bool ret_string)
open Go.Proofs.YtnhoeboighndlaaGreatDoor.octet (run_one mk_append size_mk num zig)
open Go.Proofs.YtnhoeboighndlaaGreatDoor.word (Word)
set_option linter.unusedVariables false

theorem Stand.glt {w W : World} {o a b : Int} {g : Nat} (h : Stand w o a b g W) : g < W.heap.size := by
  rcases Nat.lt_or_ge g W.heap.size with h1 | h1
  · exact h1
  · have := h.s0
    simp [World.cell?, Array.getElem?_eq_none h1] at this
theorem Stand.next {w W W' : World} {o a b : Int} {g : Nat} (h : Stand w o a b g W) (hb : Below W.heap.size W W') : Stand w o a b g W' :=
  ⟨h.below.trans (hb.mono (Nat.le_of_lt h.size)), Nat.lt_of_lt_of_le h.size hb.size, (hb.cell (p := ⟨w.heap.size, 0, none⟩) h.size).trans h.c0, (hb.cell (p := ⟨w.heap.size, 1, none⟩) h.size).trans h.c1, (hb.cell (p := ⟨w.heap.size, 2, none⟩) h.size).trans h.c2, (hb.cell (p := ⟨g, 0, none⟩) h.glt).trans h.s0, (hb.cell (p := ⟨g, 1, none⟩) h.glt).trans h.s1⟩

/-- Form, called while an instruction stands in memory. -/
theorem form_in (w W : World) (o a b : Int) (hs : w.heap.size < W.heap.size) (h0 : W.cell? ⟨w.heap.size, 0, none⟩ = some (.int .i64 o)) (h1 : W.cell? ⟨w.heap.size, 1, none⟩ = some (.int .i64 a)) (h2 : W.cell? ⟨w.heap.size, 2, none⟩ = some (.int .i64 b)) :
    Calls Tryz.prog 51 #[.int .i64 o] W fun e w' => e = .returned (.string (Go.Proofs.YtnhoeboighndlaaGreatDoor.oper.txt Go.Proofs.YtnhoeboighndlaaGreatDoor.oper.fm o)) ∧ w'.cell? ⟨w.heap.size, 0, none⟩ = some (.int .i64 o) ∧ w'.cell? ⟨w.heap.size, 1, none⟩ = some (.int .i64 a) ∧ w'.cell? ⟨w.heap.size, 2, none⟩ = some (.int .i64 b) ∧ Hid (Below W.heap.size W w') := by
  refine (Go.Proofs.YtnhoeboighndlaaGreatDoor.oper.refForm_any o W).mono ?_
  rintro e w' ⟨rfl, hb⟩
  exact ⟨rfl, (hb.cell (p := ⟨w.heap.size, 0, none⟩) hs).trans h0, (hb.cell (p := ⟨w.heap.size, 1, none⟩) hs).trans h1, (hb.cell (p := ⟨w.heap.size, 2, none⟩) hs).trans h2, Lib.hid hb⟩

end Go.Proofs.YtnhoeboighndlaaGreatDoor.inst

/-
  The reader's numbers: what bytes are read as one, byte by byte, and the first error. The reader lies in a block of its own, holds no bytes behind an error, and at most two to the forty-seventh of them.
-/
namespace Go.Proofs.YtnhoeboighndlaaGreatDoor.octet
open Go.RowKit Go.ChangeShapes
set_option linter.unusedVariables false

/-- What the reader makes of its bytes behind k bytes that made acc. -/
def decS (s : St) (k acc : Nat) : Nat × St := if s.err ≠ 0 then (0, s) else ((dec s.rest k acc).1, ⟨(dec s.rest k acc).2.1, (dec s.rest k acc).2.2⟩)

theorem rdByte_some {s : St} (h : (rdByte s).2.err = 0) : ∃ b r, s = ⟨b :: r, 0⟩ := by
  obtain ⟨rest, err⟩ := s
  unfold rdByte at h
  by_cases he : err = 0
  · subst he
    cases rest with
    | nil => simp at h
    | cons b r => exact ⟨b, r, rfl⟩
  · simp [he] at h
theorem rdByte_none {s : St} (h : (rdByte s).2.err ≠ 0) {k acc : Nat} : decS s k acc = (0, (rdByte s).2) := by
  obtain ⟨rest, err⟩ := s
  unfold rdByte at h ⊢
  unfold decS
  by_cases he : err = 0
  · subst he
    cases rest with
    | nil => simp [dec]
    | cons b r => simp at h
  · simp [he]

theorem pow7 (k : Nat) : (2 : Nat) ^ (7 * k) = 128 ^ k := by rw [Nat.pow_mul]
theorem acc_next {c kk acc : Nat} (ha : acc < 128 ^ kk) : acc + c % 128 * 128 ^ kk < 128 ^ (kk + 1) := by
  have h1 : c % 128 * 128 ^ kk ≤ 127 * 128 ^ kk := Nat.mul_le_mul_right _ (by omega)
  rw [Nat.pow_succ]
  omega
theorem or_shl_u64 {c kk acc : Nat} (hbad : ¬ ((kk = 9 ∧ 1 < c) ∨ (0 < kk ∧ c = 0))) (hk : kk ≤ 9) (hc : c < 256) (ha : acc < 128 ^ kk) :
    bits .or .u64 (acc : Int) (IntKind.u64.wrap (IntKind.u64.wrap (bits .and .u8 (c : Int) 127) * 2 ^ (7 * kk))) = ((acc + c % 128 * 128 ^ kk : Nat) : Int) := by
  have e1 : bits .and .u8 (c : Int) 127 = ((c % 128 : Nat) : Int) := by
    rw [← nat_mask7]; exact u8_and_nat c 127 hc (by omega)
  have e2 : IntKind.u64.wrap ((c % 128 : Nat) : Int) = ((c % 128 : Nat) : Int) := by
    rw [IntKind.wrap_u64]; omega
  have e3 : ((2 : Int) ^ (7 * kk)) = ((128 ^ kk : Nat) : Int) := by
    rw [← pow7]; simp
  have hle : (128 : Nat) ^ kk ≤ 128 ^ 9 := Nat.pow_le_pow_right (by omega) hk
  have h9 : (128 : Nat) ^ 9 = 9223372036854775808 := rfl
  have hX : c % 128 * 128 ^ kk < 18446744073709551616 := by
    by_cases h8 : kk = 9
    · subst h8
      have hc1 : c ≤ 1 := by omega
      have : c % 128 * 128 ^ 9 ≤ 1 * 128 ^ 9 := Nat.mul_le_mul_right _ (by omega)
      omega
    · have h1 : c % 128 * 128 ^ kk ≤ 127 * 128 ^ kk := Nat.mul_le_mul_right _ (by omega)
      have h2 : (128 : Nat) ^ kk ≤ 128 ^ 8 := Nat.pow_le_pow_right (by omega) (by omega)
      have h3 : (128 : Nat) ^ 8 = 72057594037927936 := rfl
      omega
  have e4 : IntKind.u64.wrap (((c % 128 : Nat) : Int) * ((128 ^ kk : Nat) : Int)) = ((c % 128 * 128 ^ kk : Nat) : Int) := by
    rw [← Int.natCast_mul, IntKind.wrap_u64]
    omega
  rw [e1, e2, e3, e4, u64_or_nat acc _ (by omega) hX, Nat.or_comm, nat_join (7 * kk) (c % 128 * 128 ^ kk) acc (by rw [pow7]; exact Nat.mul_mod_left _ _) (by rw [pow7]; exact ha), Nat.add_comm]

end Go.Proofs.YtnhoeboighndlaaGreatDoor.octet

/-
  The document's own answers, each by itself: what its functions make of bytes that are read. A text of at most two to the forty-seventh bytes.
-/
namespace Go.Proofs.YtnhoeboighndlaaGreatDoor.octet
open Go.RowKit Go.ChangeShapes
set_option linter.unusedVariables false

theorem bcell {W w1 : World} (hb : Below W.heap.size W w1) : (∀ b o, b < W.heap.size → w1.cell? ⟨b, o, none⟩ = W.cell? ⟨b, o, none⟩) ∧ (∀ b o, b < W.heap.size → w1.frozen? ⟨b, o, none⟩ = W.frozen? ⟨b, o, none⟩) :=
  ⟨fun b o h => hb.cell (p := ⟨b, o, none⟩) h, fun b o h => hb.frozen (p := ⟨b, o, none⟩) h⟩

/-- The document's reader: the text, where, the first error. -/
def RV (t : ByteArray) (at' err : Nat) : Value := .agg #[.string t, .int .i64 (at' : Int), .int .i64 (err : Int)]
/-- It stands where the program's reader stands. -/
def Stands (t : ByteArray) (k err : Nat) (s : St) : Prop := k ≤ t.size ∧ s.rest = t.data.toList.drop k ∧ s.err = err ∧ s.ok

/-- What the document's reader reads as one byte. -/
def refByte (t : ByteArray) (k err : Nat) : Nat × Nat × Nat :=
  if k < t.size then ((t.data.toList.getD k 0).toNat, k + 1, err) else (0, if err = 0 then (t.size, 3) else (k, err))

end Go.Proofs.YtnhoeboighndlaaGreatDoor.octet

/-
  The document's numbers as they are read: it reads what the program's reader reads, from the same place, with the same first error. A text of at most two to the forty-seventh bytes.
-/
namespace Go.Proofs.YtnhoeboighndlaaGreatDoor.octet
open Go.RowKit Go.ChangeShapes
set_option linter.unusedVariables false

theorem stands_byte {t : ByteArray} {k err : Nat} {s : St} (h : Stands t k err s) : (refByte t k err).1 = (rdByte s).1 ∧ Stands t (refByte t k err).2.1 (refByte t k err).2.2 (rdByte s).2 := by
  obtain ⟨rest, e0⟩ := s
  obtain ⟨hk, hr, he, hok⟩ := h
  simp only at hr he
  subst he
  have hsz : t.data.toList.length = t.size := by rw [Array.length_toList]; rfl
  by_cases hlt : k < t.size
  · have hcons : rest = t.data.toList.getD k 0 :: t.data.toList.drop (k + 1) := by
      rw [hr, List.getD_eq_getElem?_getD, List.getElem?_eq_getElem (by omega), Option.getD_some]
      exact List.drop_eq_getElem_cons (by omega)
    have he0 : e0 = 0 := by
      rcases Nat.eq_zero_or_pos e0 with h0 | h0
      · exact h0
      · have h1 : rest = [] := hok (by show e0 ≠ 0; omega)
        rw [hcons] at h1
        cases h1
    subst he0
    have e1 : refByte t k 0 = ((t.data.toList.getD k 0).toNat, k + 1, 0) := by unfold refByte; rw [if_pos hlt]
    have e2 : rdByte ⟨rest, 0⟩ = ((t.data.toList.getD k 0).toNat, ⟨t.data.toList.drop (k + 1), 0⟩) := by rw [hcons]; rfl
    rw [e1, e2]
    exact ⟨rfl, by show k + 1 ≤ _; omega, rfl, rfl, fun h => absurd rfl h⟩
  · have hnil : rest = [] := by rw [hr]; exact List.drop_of_length_le (by omega)
    subst hnil
    have e1 : refByte t k e0 = (0, if e0 = 0 then (t.size, 3) else (k, e0)) := by unfold refByte; rw [if_neg hlt]
    rw [e1]
    by_cases he0 : e0 = 0
    · subst he0
      have e2 : rdByte ⟨[], 0⟩ = (0, ⟨[], 3⟩) := rfl
      rw [e2, if_pos rfl]
      exact ⟨rfl, Nat.le_refl _, (List.drop_of_length_le (by rw [hsz]; exact Nat.le_refl _)).symm, rfl, fun _ => rfl⟩
    · have e2 : rdByte ⟨[], e0⟩ = (0, ⟨[], e0⟩) := by unfold rdByte; simp [he0]
      rw [e2, if_neg he0]
      exact ⟨rfl, hk, hr, rfl, hok⟩

theorem stands_fail {t : ByteArray} {k err : Nat} {s : St} (h : Stands t k err s) (e : Nat) : Stands t (if err = 0 then t.size else k) (if err = 0 then e else err) (s.fail e) := by
  obtain ⟨hk, hr, he, hok⟩ := h
  have hsz : t.data.toList.length = t.size := by rw [Array.length_toList]; rfl
  unfold St.fail
  by_cases h0 : err = 0
  · rw [if_pos h0, if_pos h0, if_neg (by omega)]
    exact ⟨Nat.le_refl _, (List.drop_of_length_le (by omega)).symm, rfl, fun _ => rfl⟩
  · rw [if_neg h0, if_neg h0, if_pos (by omega)]
    exact ⟨hk, hr, he, hok⟩

section
variable {w : World} {b : Nat} {t : ByteArray} {k err : Nat}
end

theorem alloc_two (w : World) (o1 o2 : Obj) : ((w.alloc o1).alloc o2).heap[w.heap.size + 1]? = some o2 := by
  have h := heap_alloc_new (w.alloc o1) o2
  rwa [World.size_alloc] at h
theorem cast_pow (kk : Nat) : ((128 : Int) ^ kk) = ((128 ^ kk : Nat) : Int) := by simp
theorem ref_sum {c kk acc : Nat} (hbad : ¬ ((kk = 9 ∧ 1 < c) ∨ (0 < kk ∧ c = 0))) (hk : kk ≤ 9) (hc : c < 256) (ha : acc < 128 ^ kk) :
    IntKind.u64.wrap ((acc : Int) + IntKind.u64.wrap ((c : Int) % 128 * 128 ^ kk)) = ((acc + c % 128 * 128 ^ kk : Nat) : Int) := by
  have hle : (128 : Nat) ^ kk ≤ 128 ^ 9 := Nat.pow_le_pow_right (by omega) hk
  have h9 : (128 : Nat) ^ 9 = 9223372036854775808 := rfl
  have hX : c % 128 * 128 ^ kk ≤ 9223372036854775808 := by
    by_cases h8 : kk = 9
    · subst h8
      have : c % 128 * 128 ^ 9 ≤ 1 * 128 ^ 9 := Nat.mul_le_mul_right _ (by omega)
      omega
    · have h1 : c % 128 * 128 ^ kk ≤ 127 * 128 ^ kk := Nat.mul_le_mul_right _ (by omega)
      have h2 : (128 : Nat) ^ kk ≤ 128 ^ 8 := Nat.pow_le_pow_right (by omega) (by omega)
      have h3 : (128 : Nat) ^ 8 = 72057594037927936 := rfl
      omega
  have e1 : (c : Int) % 128 * 128 ^ kk = ((c % 128 * 128 ^ kk : Nat) : Int) := by
    rw [cast_pow, Int.natCast_mul, Int.natCast_emod]
    rfl
  rw [e1]
  generalize c % 128 * 128 ^ kk = x at *
  rw [IntKind.wrap_u64, IntKind.wrap_u64]
  omega
theorem ref_by {kk : Nat} (hk : kk + 1 ≤ 9) : IntKind.u64.wrap ((128 : Int) ^ kk * 128) = ((128 ^ (kk + 1) : Nat) : Int) := by
  have hle : (128 : Nat) ^ (kk + 1) ≤ 128 ^ 9 := Nat.pow_le_pow_right (by omega) hk
  have h9 : (128 : Nat) ^ 9 = 9223372036854775808 := rfl
  rw [cast_pow, show ((128 ^ kk : Nat) : Int) * 128 = ((128 ^ (kk + 1) : Nat) : Int) from by rw [Nat.pow_succ, Int.natCast_mul]; rfl]
  generalize (128 : Nat) ^ (kk + 1) = x at *
  rw [IntKind.wrap_u64]
  omega

/-- What the document's reading ends in: a value, and its reader, which stands where the program's does. -/
def RefEnds (t : ByteArray) (x : Value) (s : St) (e : Ending) : Prop := ∃ k, e = .returned (.tuple #[x, RV t k s.err]) ∧ Stands t k s.err s

end Go.Proofs.YtnhoeboighndlaaGreatDoor.octet

/-
  The reader's numbers with a sign, and texts: what bytes are read as one, and the first error. The reader lies in a block of its own, holds no bytes behind an error, and at most two to the forty-seventh of them.
-/
namespace Go.Proofs.YtnhoeboighndlaaGreatDoor.octet
open Go.RowKit Go.ChangeShapes
set_option linter.unusedVariables false

theorem info5' : (Tryz.prog.info? 5).map (fun i => (i.zero, i.size, i.bytes)) = some (some (.int .u8 0), 1, 1) := by kernel_rfl

theorem i64_not_nat (a : Nat) (ha : a < 9223372036854775808) : bits .xor .i64 (-1) (a : Int) = -(a : Int) - 1 := by
  show IntKind.i64.wrap ((BitVec.ofInt 64 (-1) ^^^ BitVec.ofInt 64 (a : Int)).toNat : Int) = _
  have h1 : BitVec.ofInt 64 (-1) = BitVec.allOnes 64 := by decide
  rw [h1, BitVec.allOnes_xor, BitVec.toNat_not, ofInt_u64 a (by omega)]
  simp only [IntKind.wrap_i64]
  omega
theorem and1_u64 (v : Nat) (hv : v < 18446744073709551616) : bits .and .u64 (v : Int) 1 = ((v % 2 : Nat) : Int) := by
  rw [← nat_mask1]; exact u64_and_nat v 1 hv (by omega)

set_option maxRecDepth 100000 in
set_option maxHeartbeats 4000000 in
theorem clone_any (s : ByteArray) (w : World) (hlim : s.size ≤ 140737489403904) :
    Calls Tryz.prog 141 #[.string s] w fun e w' => e = .returned (.string s) ∧ Below w.heap.size w w' := by
  by_cases h0 : s.size = 0
  · have hs : s = ⟨#[]⟩ := by
      apply ByteArray.ext
      exact Array.eq_empty_of_size_eq_zero h0
    subst hs
    go_enter Tryz.func141, Tryz.ntmps141
    go_wp2
    go_ret
    exact ⟨rfl, Below.refl _ _⟩
  · obtain ⟨i0, hi, hz0, hz1, hz2⟩ := info_parts info5'
    have hinfo : (Tryz.prog.info? 5).map (·.size) = some 1 := by rw [hi]; simp [hz1]
    have hco : Tryz.prog.cellsOf 5 = 1 := by simp [Program.cellsOf, hi, hz1]
    obtain ⟨M, hM⟩ : ∃ M, M = madeCells (Value.int .u8 0).cells (((s.size : Nat) : Int).toNat * i0.size) := ⟨_, rfl⟩
    have hMs : M.size = s.size := by rw [hM, size_madeCells, hz1]; simp
    have hmk : ∀ W : World, (Instr.makeSlice 56 (.int .i64 (s.size : Int)) (.int .i64 (s.size : Int))).run Tryz.prog W = .ok (.slice (some ⟨W.heap.size, 0, none⟩) s.size s.size) (W.alloc (.cells M 5)) := fun W => by
      have h := run_make (P := Tryz.prog) W 56 5 i0 (.int .u8 0) Tryz.underlying56 hi hz0 .i64 .i64 (s.size : Int) (s.size : Int) (by omega) (by omega) (by rw [hz2]; omega) (by omega)
      rw [← hM] at h
      simpa using h
    clear hM
    have hcp := Lib.run_copy_row_string (P := Tryz.prog) (w.alloc (.cells M 5)) 56 9 3 5 w.heap.size 0 s.size s.size s M 5 Tryz.underlying56 hinfo (heap_alloc_new w _) (Nat.le_refl _) (by omega)
    obtain ⟨Y, hY⟩ : ∃ Y, Y = (M.toList.take 0 ++ Lib.byteCells s.data.toList ++ M.toList.drop (0 + s.size)).toArray := ⟨_, rfl⟩
    rw [← hY] at hcp
    have hYl : Y.toList = Lib.byteCells s.data.toList := by
      rw [hY, List.toList_toArray, List.take_zero, List.nil_append, List.drop_of_length_le (by rw [Array.length_toList]; omega), List.append_nil]
    have hYs : Y.size = s.size := by rw [← Array.length_toList, hYl, Lib.byteCells_length, ← Lib.size_eq]
    have hgY : ((w.alloc (.cells M 5)).setRow w.heap.size Y).heap[w.heap.size]? = some (.cells Y 5 (0, 0)) := setRow_heap _ _ M _ 5 (0, 0) (heap_alloc_new w _)
    have hne : s.data.toList ≠ [] := fun e => h0 (by rw [Lib.size_eq, e]; rfl)
    have hUS := Lib.run_unsafeString_row (P := Tryz.prog) ((w.alloc (.cells M 5)).setRow w.heap.size Y) 92 3 9 5 Tryz.underlying92 hco w.heap.size Y.size (by unfold World.shape?; rw [hgY]) s.data.toList hne (by rw [← Lib.size_eq]; omega) (by rw [← Lib.size_eq]; omega)
      (fun j x hx => Lib.cells_of_row hgY Y.size j _ (by rw [List.take_of_length_le (by rw [Array.length_toList]; exact Nat.le_refl _), hYl]; simp [Lib.byteCells, hx]))
    rw [← Lib.size_eq] at hUS
    clear hY
    go_enter Tryz.func141, Tryz.ntmps141
    go_wp2
    go_ret
    have hb1 : Below w.heap.size w (w.alloc (.cells M 5)) := (Below.refl _ w).alloc (Nat.le_refl _) _
    have hb2 : Below w.heap.size (w.alloc (.cells M 5)) ((w.alloc (.cells M 5)).setRow w.heap.size Y) := ⟨rfl, rfl, rfl, by simp, fun k hk => setRow_other _ _ _ _ (by omega)⟩
    exact ⟨rfl, Lib.below_freeze (hb1.trans hb2) (p := ⟨w.heap.size, 0, none⟩) (Nat.le_refl _) _⟩

end Go.Proofs.YtnhoeboighndlaaGreatDoor.octet

/-
  The document's numbers with a sign, and texts, as they are read: it reads what the program's reader reads, from the same place, with the same first error. A text of at most two to the forty-seventh bytes.
-/
namespace Go.Proofs.YtnhoeboighndlaaGreatDoor.octet
open Go.RowKit Go.ChangeShapes
set_option linter.unusedVariables false

theorem extract_eq (t : ByteArray) (a n : Nat) : t.extract a (a + n) = ⟨((t.data.toList.drop a).take n).toArray⟩ := by
  apply ByteArray.ext
  apply Array.toList_inj.1
  rw [Lib.extract_data, Nat.add_sub_cancel_left]

end Go.Proofs.YtnhoeboighndlaaGreatDoor.octet

/-
  The document's reader, its calls by plain values: a byte, a number, a number with a sign, each from where it stands. A text of at most two to the forty-seventh bytes.
-/
namespace Go.Proofs.YtnhoeboighndlaaGreatDoor.octet
open Go.RowKit Go.ChangeShapes
set_option linter.unusedVariables false

theorem rest_le {t : ByteArray} {k err : Nat} {s : St} (h : Stands t k err s) (ht : t.size ≤ 140737489403904) : s.rest.length ≤ 140737489403904 := by
  have hsz : t.data.toList.length = t.size := by rw [Array.length_toList]; rfl
  rw [h.2.1, List.length_drop]
  omega
end Go.Proofs.YtnhoeboighndlaaGreatDoor.octet

/-
  The document's own answer of the instruction that is read behind what was read ahead. A text of at most two to the forty-seventh bytes.
-/
namespace Go.Proofs.YtnhoeboighndlaaGreatDoor.inst
open Go.RowKit Go.ChangeShapes
open Go.Proofs.YtnhoeboighndlaaGreatDoor.oper (ret_int ret_bool ret_string)
open Go.Proofs.YtnhoeboighndlaaGreatDoor.octet (St rdByte rdNum rdInt Stands)
open Go.Proofs.YtnhoeboighndlaaGreatDoor.word (Word)
set_option linter.unusedVariables false

/-- What is read of an instruction: its numbers, where the reader stands then, and the error. -/
structure Rd where
  o : Int
  a : Int
  b : Int
  s : St
  e : Nat
def readI (s : St) : Rd :=
  let b := rdByte s
  if b.2.err ≠ 0 then ⟨0, 0, 0, b.2, b.2.err⟩
  else if 51 < b.1 then ⟨0, 0, 0, b.2, 6⟩
  else
    let r := rdOpds (form b.1) b.2 (form b.1).length
    if r.2.err ≠ 0 then ⟨0, 0, 0, r.2, r.2.err⟩
    else if chk b.1 (r.1.getD 0 0) (r.1.getD 1 0) ≠ 0 then ⟨0, 0, 0, r.2, chk b.1 (r.1.getD 0 0) (r.1.getD 1 0)⟩
    else ⟨b.1, r.1.getD 0 0, r.1.getD 1 0, r.2, 0⟩

/-- What is read behind an operation's byte. -/
def readF (c : Nat) (s : St) : Rd :=
  let r := rdOpds (form c) s (form c).length
  if r.2.err ≠ 0 then ⟨0, 0, 0, r.2, r.2.err⟩
  else if chk c (r.1.getD 0 0) (r.1.getD 1 0) ≠ 0 then ⟨0, 0, 0, r.2, chk c (r.1.getD 0 0) (r.1.getD 1 0)⟩
  else ⟨c, r.1.getD 0 0, r.1.getD 1 0, r.2, 0⟩
theorem byte_lt (s : St) : (rdByte s).1 < 256 := by
  unfold rdByte
  split
  · omega
  · split
    · omega
    · exact UInt8.toNat_lt _
/-- What Read tells, and leaves. -/
def ReadPost (t : ByteArray) (r : Rd) (w : World) (e : Ending) (w' : World) : Prop :=
  ∃ k : Nat, e = .returned (.tuple #[.agg #[.int .i64 r.o, .int .i64 r.a, .int .i64 r.b], .agg #[.string t, .int .i64 (k : Int), .int .i64 (r.s.err : Int)], .int .i64 (r.e : Int)]) ∧ Stands t k r.s.err r.s ∧ Below w.heap.size w w'

/-- Three cells of a block, set one behind the other. -/
abbrev put3 (W : World) (b : Nat) (x y z : Value) : World := ((W.setCell ⟨b, 0, none⟩ x).setCell ⟨b, 1, none⟩ y).setCell ⟨b, 2, none⟩ z
theorem put3_same {W : World} {b : Nat} {u v m : Value} {T : TypeId} (h : W.heap[b]? = some (.cells #[u, v, m] T (0, 0))) (x y z : Value) : (put3 W b x y z).heap[b]? = some (.cells #[x, y, z] T (0, 0)) := by
  simp [World.setCell, Array.getElem?_modify, h]
theorem cells3 {W : World} {b : Nat} {x y z : Value} {T : TypeId} (h : W.heap[b]? = some (.cells #[x, y, z] T (0, 0))) :
    W.cell? ⟨b, 0, none⟩ = some x ∧ W.cell? ⟨b, 1, none⟩ = some y ∧ W.cell? ⟨b, 2, none⟩ = some z ∧ W.frozen? ⟨b, 0, none⟩ = false ∧ W.frozen? ⟨b, 1, none⟩ = false ∧ W.frozen? ⟨b, 2, none⟩ = false := by
  simp [World.cell?, World.frozen?, h]
theorem put3_far {W : World} {b c : Nat} (h : c ≠ b) (x y z : Value) : (put3 W b x y z).heap[c]? = W.heap[c]? :=
  (Below.heap_setCell _ ⟨b, 2, none⟩ _ c h).trans ((Below.heap_setCell _ ⟨b, 1, none⟩ _ c h).trans (Below.heap_setCell _ ⟨b, 0, none⟩ _ c h))
theorem put3_below {B b : Nat} {a W : World} (h : Below B a W) (hb : B ≤ b) (x y z : Value) : Below B a (put3 W b x y z) :=
  ((h.setCell (p := ⟨b, 0, none⟩) hb _).setCell (p := ⟨b, 1, none⟩) hb _).setCell (p := ⟨b, 2, none⟩) hb _

/-- A list of two numbers that nobody else sees. -/
def RowIs (W : World) (gl : Nat) (V : List Int) : Prop := ∀ i, i < 2 → W.cell? ⟨gl, i, none⟩ = some (.int .i64 (V.getD i 0)) ∧ W.frozen? ⟨gl, i, none⟩ = false
theorem RowIs.lt {W : World} {gl : Nat} {V : List Int} (h : RowIs W gl V) : gl < W.heap.size := by
  rcases Nat.lt_or_ge gl W.heap.size with h1 | h1
  · exact h1
  · have := (h 0 (by omega)).1
    simp [World.cell?, Array.getElem?_eq_none h1] at this
theorem getD_snoc {V : List Int} {n : Int} {j i : Nat} (h : V.length = j) : (V ++ [n]).getD i 0 = if i = j then n else V.getD i 0 := by
  by_cases hi : i = j
  · rw [if_pos hi]; exact getD_last (h.trans hi.symm)
  · rw [if_neg hi]
    rcases Nat.lt_or_ge i V.length with h1 | h1
    · exact getD_left h1
    · rw [List.getD_eq_getElem?_getD, List.getD_eq_getElem?_getD, List.getElem?_eq_none (by simp; omega), List.getElem?_eq_none h1]
theorem row_set {W : World} {gl : Nat} {V : List Int} (h : RowIs W gl V) {j : Nat} (hj : j < 2) (hlen : V.length = j) (n : Int) : RowIs (W.setCell ⟨gl, j, none⟩ (.int .i64 n)) gl (V ++ [n]) := by
  intro i hi
  rw [getD_snoc hlen, World.frozen?_setCell]
  refine ⟨?_, (h i hi).2⟩
  by_cases hij : i = j
  · subst hij
    rw [if_pos rfl]
    exact World.cell?_setCell_same _ _ _ (h i hi).1
  · rw [if_neg hij]
    refine (World.cell?_setCell_other _ _ _ _ (fun e => hij ?_)).trans (h i hi).1
    exact (congrArg Addr.off e).symm
theorem row_far {W W' : World} {gl : Nat} {V : List Int} (h : RowIs W gl V) (hb : W'.heap[gl]? = W.heap[gl]?) : RowIs W' gl V := fun i hi =>
  ⟨(World.cell?_of_block (a := ⟨gl, i, none⟩) hb).trans (h i hi).1, (World.frozen?_of_block (a := ⟨gl, i, none⟩) hb).trans (h i hi).2⟩
end Go.Proofs.YtnhoeboighndlaaGreatDoor.inst

/-
  The document's own answer of the instruction with which bytes begin. A text of at most two to the forty-seventh bytes.
-/
namespace Go.Proofs.YtnhoeboighndlaaGreatDoor.inst
open Go.RowKit Go.ChangeShapes
open Go.Proofs.YtnhoeboighndlaaGreatDoor.oper (ret_int ret_bool ret_string)
open Go.Proofs.YtnhoeboighndlaaGreatDoor.octet (St rdByte rdNum rdInt Stands)
set_option linter.unusedVariables false

theorem got_read (l : List UInt8) : getI l = if (readI ⟨l, 0⟩).e ≠ 0 then .bad (readI ⟨l, 0⟩).e else ⟨(readI ⟨l, 0⟩).o, (readI ⟨l, 0⟩).a, (readI ⟨l, 0⟩).b, l.length - (readI ⟨l, 0⟩).s.rest.length, 0⟩ := by
  unfold getI readI
  dsimp only
  by_cases h1 : (rdByte ⟨l, 0⟩).2.err ≠ 0
  · simp only [if_pos h1]
  · simp only [if_neg h1]
    by_cases h2 : 51 < (rdByte ⟨l, 0⟩).1
    · simp only [if_pos h2]
      rfl
    · simp only [if_neg h2]
      by_cases h3 : (rdOpds (form ((rdByte ⟨l, 0⟩).1 : Int)) (rdByte ⟨l, 0⟩).2 (form ((rdByte ⟨l, 0⟩).1 : Int)).length).2.err ≠ 0
      · simp only [if_pos h3]
      · simp only [if_neg h3]
        by_cases h4 : chk ((rdByte ⟨l, 0⟩).1 : Int) ((rdOpds (form ((rdByte ⟨l, 0⟩).1 : Int)) (rdByte ⟨l, 0⟩).2 (form ((rdByte ⟨l, 0⟩).1 : Int)).length).1.getD 0 0) ((rdOpds (form ((rdByte ⟨l, 0⟩).1 : Int)) (rdByte ⟨l, 0⟩).2 (form ((rdByte ⟨l, 0⟩).1 : Int)).length).1.getD 1 0) ≠ 0
        · simp only [if_pos h4]
        · simp only [if_neg h4]
          rfl

/-- What a reading of bytes tells. -/
def GotPost (g : Got) (w : World) (e : Ending) (w' : World) : Prop :=
  e = .returned (.tuple #[.agg #[.int .i64 g.o, .int .i64 g.a, .int .i64 g.b], .int .i64 (g.n : Int), .int .i64 (g.e : Int)]) ∧ Below w.heap.size w w'

end Go.Proofs.YtnhoeboighndlaaGreatDoor.inst

/-
  What the program's calls on instructions must come to, as one bundle, so that the statements can be walked whatever the program's own text is; and the common end of all of them. No condition but that bundle.
-/
namespace Go.Proofs.YtnhoeboighndlaaGreatDoor.inst
open Go.RowKit Go.ChangeShapes
open Go.Proofs.YtnhoeboighndlaaGreatDoor.oper (ret_int ret_bool ret_string)
open Go.Proofs.YtnhoeboighndlaaGreatDoor.word (Word)
set_option linter.unusedVariables false

/-- An int. -/
def I64 (n : Int) : Prop := -9223372036854775808 ≤ n ∧ n ≤ 9223372036854775807
/-- An instruction that may be has small numbers alone. -/
theorem chk_i64 (o a b : Int) (h : chk o a b = 0) : I64 o ∧ I64 a ∧ I64 b := by
  obtain ⟨hk, hf⟩ := chk_zero h
  obtain ⟨h1, _, h3⟩ := chkF_zero hf
  have hj : ∀ j, j < 2 → I64 (opd a b j) := fun j hj => by
    rcases Nat.lt_or_ge j (form o).length with hl | hl
    · have := h1 j hl
      unfold okAt fitsB at this
      by_cases hc : (form o).getD j 0 = 110
      · rw [if_pos hc] at this
        have hw : Word (opd a b j) := by simpa using this
        unfold Word at hw; unfold I64; omega
      · rw [if_neg hc] at this
        have hw : least ((form o).getD j 0) ≤ opd a b j ∧ opd a b j ≤ most ((form o).getD j 0) := by simpa using this
        have h0 : 0 ≤ least ((form o).getD j 0) := by unfold least; split <;> omega
        have hm : most ((form o).getD j 0) ≤ 199 := by unfold most; split; omega; split; omega; split; omega; split <;> omega
        unfold I64; omega
    · rw [h3 j hl hj]; unfold I64; omega
  unfold Known at hk
  exact ⟨by unfold I64; omega, hj 0 (by omega), hj 1 (by omega)⟩
/-- The bytes that Put answers. -/
def putL (o a b : Int) : List UInt8 := if chk o a b = 0 then encI o a b else []
theorem putL_le (o a b : Int) : (putL o a b).length ≤ 21 := by
  unfold putL
  split
  · exact encI_le o a b
  · simp
theorem putL_push : putL 0 (-1) 0 = [0, 1] := by decide +kernel
theorem chk_push : chk 0 (-1) 0 = 0 := by decide +kernel
theorem chk_99 : chk 99 0 0 = 6 := by decide +kernel
theorem get_load : getI [1, 7, 109, 111, 114, 101] = ⟨1, 7, 0, 2, 0⟩ := by
  have h : ∀ g : Got, g.o = 1 → g.a = 7 → g.b = 0 → g.n = 2 → g.e = 0 → g = ⟨1, 7, 0, 2, 0⟩ := fun g h1 h2 h3 h4 h5 => by cases g; simp_all
  exact h _ (by decide +kernel) (by decide +kernel) (by decide +kernel) (by decide +kernel) (by decide +kernel)

/-- An instruction stands at a place of its own, behind all that was there. -/
structure Box (w : World) (o a b : Int) (W : World) : Prop where
  below : Below w.heap.size w W
  blk : W.heap[w.heap.size]? = some (.cells #[.int .i64 o, .int .i64 a, .int .i64 b] 28 (0, 0))
theorem box_new (w : World) (o a b : Int) : Box w o a b (w.alloc (.cells #[.int .i64 o, .int .i64 a, .int .i64 b] 28)) := ⟨(Below.refl _ _).alloc (Nat.le_refl _) _, heap_alloc_new w _⟩
theorem Box.next {w W W' : World} {o a b : Int} (h : Box w o a b W) (hb : Below W.heap.size W W') : Box w o a b W' := by
  have h1 := lt_of_block h.blk
  exact ⟨h.below.trans (hb.mono (Nat.le_of_lt h1)), (hb.block _ h1).trans h.blk⟩

end Go.Proofs.YtnhoeboighndlaaGreatDoor.inst

/-
  The program's calls on words come to what the document says (typed over the code of 2169cae). No condition.
-/
namespace Go.Proofs.YtnhoeboighndlaaGreatDoor.word
open Go.RowKit Go.ChangeShapes

theorem conv_low (n : Int) : wrap64 (wrap32 n) = low n := by
  unfold wrap64 wrap32 low
  omega

set_option maxHeartbeats 400000 in
theorem low_any (n : Int) (w : World) :
    Calls Tryz.prog 92 #[.int .i64 n] w fun e w' => e = .returned (.int .i64 (low n)) ∧ w = w' := by
  have HW := Lib.hid (conv_low n)
  go_enter Tryz.func92, Tryz.ntmps92
  go_wp2
  go_ret
  exact ⟨ret_int HW.out, rfl⟩

/-- The numbers of sixty-four bits that a word's bits are. -/
def wd (n : Int) : Nat := (n % 18446744073709551616).toNat
theorem wd_low (n : Int) : wd n % 4294967296 = un n := by unfold wd un; omega
theorem wd_high {n : Int} (h : Word n) : wd n / 2147483648 = 0 ∨ wd n / 2147483648 = 8589934591 := by
  unfold Word at h
  unfold wd
  by_cases h0 : 0 ≤ n
  · left; omega
  · right; omega
theorem wrap_back {z : Nat} (_ : z < 18446744073709551616) (h : z / 2147483648 = 0 ∨ z / 2147483648 = 8589934591) : IntKind.i64.wrap (z : Int) = low ((z % 4294967296 : Nat) : Int) := by
  rw [IntKind.wrap_i64]
  unfold low
  omega
theorem ofInt_wd (n : Int) : (BitVec.ofInt 64 n).toNat = wd n := by
  rw [BitVec.toNat_ofInt]
  rfl
theorem wd_lt (n : Int) : wd n < 18446744073709551616 := by unfold wd; omega
theorem and_words {x y : Int} (hx : Word x) (hy : Word y) : bits .and .i64 x y = low (bitop 11 (un x) (un y) : Nat) := by
  show IntKind.i64.wrap ((BitVec.ofInt 64 x &&& BitVec.ofInt 64 y).toNat : Int) = _
  rw [BitVec.toNat_and, ofInt_wd, ofInt_wd]
  have h1 : (wd x &&& wd y) / 2 ^ 31 = wd x / 2 ^ 31 &&& wd y / 2 ^ 31 := Nat.and_div_two_pow
  have h2 : (wd x &&& wd y) % 2 ^ 32 = wd x % 2 ^ 32 &&& wd y % 2 ^ 32 := Nat.and_mod_two_pow
  have e1 : (2 : Nat) ^ 31 = 2147483648 := rfl
  have e2 : (2 : Nat) ^ 32 = 4294967296 := rfl
  rw [e1] at h1
  rw [e2, wd_low, wd_low] at h2
  rw [wrap_back (Nat.lt_of_le_of_lt Nat.and_le_left (wd_lt x)) ?_, h2]
  · rfl
  · rw [h1]
    rcases wd_high hx with a | a <;> rcases wd_high hy with b | b <;> rw [a, b] <;> decide
theorem or_words {x y : Int} (hx : Word x) (hy : Word y) : bits .or .i64 x y = low (bitop 12 (un x) (un y) : Nat) := by
  show IntKind.i64.wrap ((BitVec.ofInt 64 x ||| BitVec.ofInt 64 y).toNat : Int) = _
  rw [BitVec.toNat_or, ofInt_wd, ofInt_wd]
  have h1 : (wd x ||| wd y) / 2 ^ 31 = wd x / 2 ^ 31 ||| wd y / 2 ^ 31 := Nat.or_div_two_pow
  have h2 : (wd x ||| wd y) % 2 ^ 32 = wd x % 2 ^ 32 ||| wd y % 2 ^ 32 := Nat.or_mod_two_pow
  have e1 : (2 : Nat) ^ 31 = 2147483648 := rfl
  have e2 : (2 : Nat) ^ 32 = 4294967296 := rfl
  have hlt : wd x ||| wd y < 2 ^ 64 := Nat.or_lt_two_pow (wd_lt x) (wd_lt y)
  rw [e1] at h1
  rw [e2, wd_low, wd_low] at h2
  rw [wrap_back hlt ?_, h2]
  · rfl
  · rw [h1]
    rcases wd_high hx with a | a <;> rcases wd_high hy with b | b <;> rw [a, b] <;> decide
theorem xor_words {x y : Int} (hx : Word x) (hy : Word y) : bits .xor .i64 x y = low (bitop 13 (un x) (un y) : Nat) := by
  show IntKind.i64.wrap ((BitVec.ofInt 64 x ^^^ BitVec.ofInt 64 y).toNat : Int) = _
  rw [BitVec.toNat_xor, ofInt_wd, ofInt_wd]
  have h1 : (wd x ^^^ wd y) / 2 ^ 31 = wd x / 2 ^ 31 ^^^ wd y / 2 ^ 31 := Nat.xor_div_two_pow
  have h2 : (wd x ^^^ wd y) % 2 ^ 32 = wd x % 2 ^ 32 ^^^ wd y % 2 ^ 32 := Nat.xor_mod_two_pow
  have e1 : (2 : Nat) ^ 31 = 2147483648 := rfl
  have e2 : (2 : Nat) ^ 32 = 4294967296 := rfl
  have hlt : wd x ^^^ wd y < 2 ^ 64 := Nat.xor_lt_two_pow (wd_lt x) (wd_lt y)
  rw [e1] at h1
  rw [e2, wd_low, wd_low] at h2
  rw [wrap_back hlt ?_, h2]
  · rfl
  · rw [h1]
    rcases wd_high hx with a | a <;> rcases wd_high hy with b | b <;> rw [a, b] <;> decide
theorem mask5 (n : Int) : bits .and .i64 n 31 = (far n : Int) := by
  show IntKind.i64.wrap ((BitVec.ofInt 64 n &&& BitVec.ofInt 64 31).toNat : Int) = _
  rw [BitVec.toNat_and, ofInt_wd, show (BitVec.ofInt 64 31).toNat = 2 ^ 5 - 1 from rfl, Nat.and_two_pow_sub_one_eq_mod, IntKind.wrap_i64]
  have e : (2 : Nat) ^ 5 = 32 := rfl
  rw [e]
  unfold wd far
  omega

theorem fits_low (n : Int) : (low n == n) = decide (Word n) := by
  rw [Bool.eq_iff_iff, beq_iff_eq, decide_eq_true_iff]
  constructor
  · intro h
    rw [← h]
    exact low_word n
  · intro h
    exact low_id h
set_option maxHeartbeats 400000 in
theorem fits_any (n : Int) (w : World) :
    Calls Tryz.prog 74 #[.int .i64 n] w fun e w' => e = .returned (.bool (decide (Word n))) ∧ w = w' := by
  have HF := Lib.hid (fits_low n)
  go_enter Tryz.func74, Tryz.ntmps74
  go_wp2_with fail
  refine (low_any _ _).mono ?_
  rintro e w1 ⟨rfl, rfl⟩
  go_wp2
  go_ret
  exact ⟨ret_bool HF.out, rfl⟩

theorem conv_half (n : Int) : wrap32 n = low n := by
  unfold wrap32 low
  omega
theorem wide_low (n : Int) : wrap64 (low n) = low n := by
  have := low_word n
  unfold Word at this
  unfold wrap64
  omega
/-- A quotient of words, and its fault. -/
def quo (a b : Int) : Int × Int := if b = 0 then (0, 2) else ex (a.tdiv b)
def left (a b : Int) : Int × Int := if b = 0 then (0, 2) else (a.tmod b, 0)
end Go.Proofs.YtnhoeboighndlaaGreatDoor.word
