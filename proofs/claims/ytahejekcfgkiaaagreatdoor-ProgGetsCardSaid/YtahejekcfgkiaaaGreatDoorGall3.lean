/-
  Texts of one claim in one file: Mem, Out, In, Put, JRefPut, InNum, Ref. Each has its own sentence, with its conditions.
-/
import Derived.Test.YtahejekcfgkiaaaGreatDoorGall1
import Derived.OneCell
import Derived.Laws.Rows
import Derived.WalkKit
import Derived.Test.YtahejekcfgkiaaaGreatDoorProg
import Derived.Lib.AppendStr
import Derived.Lib.Hide
import Derived.Laws.IdiomStrings
import Derived.ProofKit
import Derived.BigQuiet
import Derived.Deep.QuietTactic
import Derived.Outline
import Derived.Handy
import Derived.Lib.Strings
import Derived.Lib.SmallJoins
import Derived.Test.YtahejekcfgkiaaaGreatDoorGall2
import Derived.RegionTactic
import Derived.ChangeAlike
/-
  How the writer and the reader lie in memory, and what a step leaves alone: a writer's block holds a slice of bytes of its own; a reader's block holds the bytes that are left and the first error. No condition.
-/
namespace Go.Proofs.YtahejekcfgkiaaaGreatDoor.octet
open Go.RowKit

def cells (l : List UInt8) : List Value := l.map fun b => Value.int .u8 (b.toNat : Int)
theorem cells_length (l : List UInt8) : (cells l).length = l.length := by simp [cells]
theorem cells_append (l r : List UInt8) : cells (l ++ r) = cells l ++ cells r := by simp [cells]

/-- Of the blocks below B none has turned but x; no block has gone. -/
structure Frm (B x : Nat) (w w' : World) : Prop where
  os : w'.os = w.os
  tape : w'.tape = w.tape
  output : w'.output = w.output
  size : w.heap.size ≤ w'.heap.size
  block : ∀ k, k < B → k ≠ x → w'.heap[k]? = w.heap[k]?
theorem Frm.refl (B x : Nat) (w : World) : Frm B x w w := ⟨rfl, rfl, rfl, Nat.le_refl _, fun _ _ _ => rfl⟩
theorem Frm.trans {B x : Nat} {a b c : World} (h : Frm B x a b) (k : Frm B x b c) : Frm B x a c :=
  ⟨k.os.trans h.os, k.tape.trans h.tape, k.output.trans h.output, Nat.le_trans h.size k.size, fun i hi hx => (k.block i hi hx).trans (h.block i hi hx)⟩
theorem Frm.mono {B B' x : Nat} {w w' : World} (h : Frm B x w w') (hB : B' ≤ B) : Frm B' x w w' := ⟨h.os, h.tape, h.output, h.size, fun k hk hx => h.block k (Nat.lt_of_lt_of_le hk hB) hx⟩
theorem Frm.drew {B x : Nat} {a w : World} (h : Frm B x a w) : Frm B x a w.drew := ⟨h.os, h.tape, h.output, h.size, h.block⟩
theorem Frm.alloc {B x : Nat} {a w : World} (h : Frm B x a w) (hB : B ≤ w.heap.size) (o : Obj) : Frm B x a (w.alloc o) :=
  h.trans ⟨rfl, rfl, rfl, by simp, fun k hk _ => Below.heap_alloc _ _ _ (by omega)⟩
theorem Frm.setCell {B x : Nat} {a w : World} (h : Frm B x a w) {p : Addr} (hp : p.block = x ∨ B ≤ p.block) (u : Value) : Frm B x a (w.setCell p u) :=
  h.trans ⟨rfl, rfl, rfl, by simp [World.setCell], fun k hk hx => Below.heap_setCell _ _ _ _ (by omega)⟩
theorem Frm.below {B B' x : Nat} {w w' : World} (h : Frm B x w w') (hx : B' ≤ x) (hB : B' ≤ B) : Below B' w w' :=
  ⟨h.os, h.tape, h.output, h.size, fun k hk => h.block k (by omega) (by omega)⟩
theorem Frm.of_below {B x : Nat} {w w' : World} (h : Below B w w') : Frm B x w w' := ⟨h.os, h.tape, h.output, h.size, fun k hk _ => h.block k hk⟩
theorem Frm.grown {B x : Nat} {a w w' : World} {row : Option Nat} (h : Frm B x a w) (hg : w.grownBy w' row) (hB : B ≤ w.heap.size) (hr : ∀ k, row = some k → B ≤ k ∨ k = x) : Frm B x a w' :=
  h.trans ⟨hg.os, hg.tape, hg.output, hg.size, fun k hk hx => hg.block k (by omega) (fun e => by rcases hr k e.symm with h | h <;> omega)⟩

/-- The writer at block bo holds the bytes l; what it owns besides lies from base on. -/
def OutAt (w : World) (base bo : Nat) (l : List UInt8) : Prop :=
  ∃ v, w.heap[bo]? = some (.cells #[v] 59 (0, 0)) ∧ w.ownsRow base 5 1 v l.length (cells l) ∧ bo < base ∧ base ≤ w.heap.size

theorem OutAt.lt {w : World} {base bo : Nat} {l : List UInt8} (h : OutAt w base bo l) : bo < w.heap.size := by
  obtain ⟨v, h1, _, _, _⟩ := h
  exact lt_of_block h1
theorem OutAt.base_le {w : World} {base bo : Nat} {l : List UInt8} (h : OutAt w base bo l) : base ≤ w.heap.size := by
  obtain ⟨v, _, _, _, h4⟩ := h
  exact h4
/-- A world in which the writer's own blocks are as they were. -/
theorem OutAt.keep {w w' : World} {base bo : Nat} {l : List UInt8} (h : OutAt w base bo l) (hs : w.heap.size ≤ w'.heap.size) (hbo : w'.heap[bo]? = w.heap[bo]?) (hk : ∀ k, base ≤ k → k < w.heap.size → w'.heap[k]? = w.heap[k]?) : OutAt w' base bo l := by
  obtain ⟨v, h1, h2, h3, h4⟩ := h
  refine ⟨v, hbo.trans h1, ⟨h2.1, ?_⟩, h3, by omega⟩
  rcases h2.2 with h5 | ⟨g, cap, cur, hv, hg, hh, r⟩
  · exact .inl h5
  · exact .inr ⟨g, cap, cur, hv, hg, by rw [hk g hg (lt_of_block hh)]; exact hh, r⟩
theorem OutAt.kept {w w' : World} {base bo B : Nat} {l : List UInt8} (h : OutAt w base bo l) (hb : Below B w w') (hB : w.heap.size ≤ B) : OutAt w' base bo l :=
  h.keep hb.size (hb.block _ (by have := h.lt; omega)) fun k _ hk => hb.block k (by omega)

/-- The reader at block bi: the bytes that are left, the first error. -/
def InAt (w : World) (bi : Nat) (s : St) : Prop :=
  w.heap[bi]? = some (.cells #[.string ⟨s.rest.toArray⟩, .int .i64 (s.err : Int)] 164 (0, 0))
theorem InAt.lt {w : World} {bi : Nat} {s : St} (h : InAt w bi s) : bi < w.heap.size := lt_of_block h
theorem InAt.cell0 {w : World} {bi : Nat} {s : St} (h : InAt w bi s) : w.cell? ⟨bi, 0, none⟩ = some (.string ⟨s.rest.toArray⟩) := by unfold InAt at h; simp [World.cell?, h]
theorem InAt.cell1 {w : World} {bi : Nat} {s : St} (h : InAt w bi s) : w.cell? ⟨bi, 1, none⟩ = some (.int .i64 (s.err : Int)) := by unfold InAt at h; simp [World.cell?, h]
theorem InAt.free {w : World} {bi : Nat} {s : St} (h : InAt w bi s) (i : Nat) : w.frozen? ⟨bi, i, none⟩ = false := by unfold InAt at h; simp [World.frozen?, h]
theorem InAt.kept {w w' : World} {bi : Nat} {s : St} (h : InAt w bi s) (hb : w'.heap[bi]? = w.heap[bi]?) : InAt w' bi s := hb.trans h
theorem InAt.set0 {w : World} {bi : Nat} {s : St} (h : InAt w bi s) (r : List UInt8) : InAt (w.setCell ⟨bi, 0, none⟩ (.string ⟨r.toArray⟩)) bi ⟨r, s.err⟩ := by
  have h' : w.heap[bi]? = some (.cells #[.string ⟨s.rest.toArray⟩, .int .i64 (s.err : Int)] 164 (0, 0)) := h
  unfold InAt
  simp [World.setCell, Array.getElem?_modify, h']
theorem InAt.set1 {w : World} {bi : Nat} {s : St} (h : InAt w bi s) (e : Nat) : InAt (w.setCell ⟨bi, 1, none⟩ (.int .i64 (e : Int))) bi ⟨s.rest, e⟩ := by
  have h' : w.heap[bi]? = some (.cells #[.string ⟨s.rest.toArray⟩, .int .i64 (s.err : Int)] 164 (0, 0)) := h
  unfold InAt
  simp [World.setCell, Array.getElem?_modify, h']

end Go.Proofs.YtahejekcfgkiaaaGreatDoor.octet

/-
  The writer's calls, each by itself: what bytes a byte, a number, a number with a sign and a text lay behind what was put. The bytes put are together at most two to the forty-seventh.
-/
namespace Go.Proofs.YtahejekcfgkiaaaGreatDoor.octet
open Go.RowKit Go.ChangeShapes

theorem info5 : (Tryz.prog.info? 5).map (fun i => (i.zero, i.size, i.bytes)) = some (some (.int .u8 0), 1, 1) := by kernel_rfl

def bof (n : Int) : UInt8 := UInt8.ofNat (n % 256).toNat
theorem bof_cell (n : Int) : Value.int .u8 ((bof n).toNat : Int) = .int .u8 (n % 256) := by
  congr 1
  unfold bof
  rw [UInt8.toNat_ofNat']
  omega

/-- Behind an append to the writer's own bytes, the slice stored back. -/
theorem out_store {w w1 : World} {base bo : Nat} {l r : List UInt8} {v v' : Value} (h1 : w.heap[bo]? = some (.cells #[v] 59 (0, 0))) (h2 : w.ownsRow base 5 1 v l.length (cells l)) (h3 : bo < base) (h4 : base ≤ w.heap.size)
    {W : World} (hW : ∃ o, W = w.alloc o ∨ W = w) (hown : w1.ownsRow base 5 1 v' (l.length + r.length) (cells l ++ cells r)) (hg : W.grownBy w1 v.ownBlock) :
    w1.heap[bo]? = some (.cells #[v] 59 (0, 0)) ∧ OutAt (w1.setCell ⟨bo, 0, none⟩ v') base bo (l ++ r) ∧ Frm base bo w (w1.setCell ⟨bo, 0, none⟩ v') := by
  have hlt := lt_of_block h1
  have hob : ∀ k, v.ownBlock = some k → base ≤ k ∧ k < w.heap.size := h2.lt
  have hWs : w.heap.size ≤ W.heap.size ∧ ∀ k, k < w.heap.size → W.heap[k]? = w.heap[k]? := by
    obtain ⟨o, rfl | rfl⟩ := hW
    · exact ⟨by simp, fun k hk => Below.heap_alloc _ _ _ hk⟩
    · exact ⟨Nat.le_refl _, fun _ _ => rfl⟩
  have hWo : W.os = w.os ∧ W.tape = w.tape ∧ W.output = w.output := by
    obtain ⟨o, rfl | rfl⟩ := hW <;> exact ⟨rfl, rfl, rfl⟩
  have hb : w1.heap[bo]? = some (.cells #[v] 59 (0, 0)) := by
    rw [hg.block bo (by omega) (fun e => by have := (hob bo e.symm).1; omega), hWs.2 bo hlt]
    exact h1
  have hv' : v'.ownBlock ≠ some bo := fun e => by have := (hown.lt bo e).1; omega
  refine ⟨hb, ⟨v', one_setCell hb, ?_, h3, ?_⟩, ?_⟩
  · rw [List.length_append, cells_append]
    exact ownsRow_setCell_other hown hv' _
  · have := hg.size
    simp [World.setCell]
    omega
  · refine Frm.setCell (p := ⟨bo, 0, none⟩) ⟨hg.os.trans hWo.1, hg.tape.trans hWo.2.1, hg.output.trans hWo.2.2, Nat.le_trans hWs.1 hg.size, fun k hk hx => ?_⟩ (.inl rfl) _
    rw [hg.block k (by omega) (fun e => by have := (hob k e.symm).1; omega), hWs.2 k (by omega)]

theorem own_slice {w : World} {base : Nat} {e : TypeId} {size n : Nat} {v : Value} {xs : List Value} (h : w.ownsRow base e size v n xs) : ∃ A m c, v = .slice A m c := by
  rcases h.2 with ⟨rfl, _⟩ | ⟨g, cap, cur, rfl, _⟩
  · exact ⟨_, _, _, rfl⟩
  · exact ⟨_, _, _, rfl⟩

set_option maxHeartbeats 400000 in
theorem byte_any (w : World) (base bo : Nat) (l : List UInt8) (n : Int) (h : OutAt w base bo l) (hl : l.length + 1 ≤ 140737488355328) :
    Calls Tryz.prog 43 #[.pointer (some ⟨bo, 0, none⟩), .int .i64 n] w fun e w' => e = .returned (.tuple #[]) ∧ OutAt w' base bo (l ++ [bof n]) ∧ Frm base bo w w' := by
  obtain ⟨v, h1, h2, h3, h4⟩ := h
  obtain ⟨i0, hi, hz0, hz1, hz2⟩ := info_parts info5
  have hc := cell_of_one h1
  have hf := free_of_one h1
  go_enter Tryz.func43, Tryz.ntmps43
  go_wp2_with (
    at_builtin
    refine wpList_append_own _ rfl (.tmp 10) (.tmp 13) _ rfl base 5 i0 _ 1 1 Tryz.underlying57 hi hz0 hz1 hz2 rfl (by omega) v l.length (cells l) rfl (h2.alloc _)
      ⟨w.heap.size, 0, none⟩ 1 1 [.int .u8 (n % 256)] rfl rfl ?c1 ?c2 ?c3 ?c4 ?c5 ?_)
  case c1 =>
    intro j u hu
    rcases j with _ | j
    · simp only [List.getElem?_cons_zero, Option.some.injEq] at hu
      subst hu
      exact cell_of_one (heap_alloc_new w _)
    · simp at hu
  case c2 => intro u hu; simp only [List.mem_singleton] at hu; subst hu; rfl
  case c3 => simp only [maxLen]; omega
  case c4 => omega
  case c5 => simp; omega
  intro v' w1 hown hg _
  have hs := out_store (r := [bof n]) h1 h2 h3 h4 ⟨_, .inl rfl⟩ (by simpa [cells, bof_cell] using hown) hg
  have hc1 := cell_of_one hs.1
  have hf1 := free_of_one hs.1
  obtain ⟨_, hs2, hs3⟩ := hs
  obtain ⟨A', m', c', rfl⟩ := own_slice hown
  go_wp2
  go_end0
  exact ⟨rfl, hs2, hs3⟩
/-- The number is one of sixty-four bits. -/
def Fits (n : Nat) : Prop := n < 18446744073709551616

theorem bof_nat (m : Nat) : bof (m : Int) = UInt8.ofNat m := by
  unfold bof
  apply UInt8.toNat_inj.1
  rw [UInt8.toNat_ofNat', UInt8.toNat_ofNat']
  omega
theorem or_and_u64 (m : Nat) (hm : Fits m) : wrap64 (bits .or .u64 (bits .and .u64 (m : Int) 127) 128) = ((m % 128 + 128 : Nat) : Int) := by
  unfold Fits at hm
  have e1 : bits .and .u64 (m : Int) 127 = ((m % 128 : Nat) : Int) := by
    rw [← nat_mask7]; exact u64_and_nat m 127 hm (by omega)
  have e2 : bits .or .u64 ((m % 128 : Nat) : Int) 128 = ((m % 128 + 128 : Nat) : Int) := by
    have h := u64_or_nat (m % 128) 128 (by omega) (by omega)
    rw [Nat.or_comm, nat_join 7 128 (m % 128) rfl (by omega), Nat.add_comm] at h
    exact h
  rw [e1, e2]
  unfold wrap64
  omega

set_option maxHeartbeats 400000 in
theorem num_any (w : World) (base bo : Nat) (l : List UInt8) (n : Nat) (hn : Fits n) (h : OutAt w base bo l) (hl : l.length + 10 ≤ 140737488355328) :
    Calls Tryz.prog 44 #[.pointer (some ⟨bo, 0, none⟩), .int .u64 (n : Int)] w fun e w' => e = .returned (.tuple #[]) ∧ OutAt w' base bo (l ++ num n) ∧ Frm base bo w w' := by
  go_enter Tryz.func44, Tryz.ntmps44
  go_wp2
  go_loopw [1] (fun t wr => ∃ (m : Nat) (pre : List UInt8), t = .int .u64 (m : Int) ∧ Fits m ∧ pre ++ num m = num n ∧ OutAt wr base bo (l ++ pre) ∧ Frm base bo w wr) (fun t _ => (intOf t).toNat)
  case atStart => exact ⟨n, [], rfl, hn, rfl, by simpa using h, Frm.refl _ _ _⟩
  case round =>
    obtain ⟨m, pre, rfl, hm, he, ho, hfr⟩ := hrel
    have hpl : (l ++ pre).length + 1 ≤ 140737488355328 := by
      have e1 := congrArg List.length he
      have e2 := num_length_le n
      have e3 := enc_length_pos 9 m
      have e4 : (num m).length = (enc 9 m).length := rfl
      simp only [List.length_append] at e1 ⊢
      omega
    have HE := Lib.hid he
    clear he
    by_cases hlt : m < 128
    · go_wp2_with fail
      refine (byte_any _ base bo (l ++ pre) _ ho hpl).mono ?_
      rintro e w1 ⟨rfl, ho1, hf1⟩
      go_wp2
      go_end0
      refine ⟨rfl, ?_, hfr.trans hf1⟩
      rw [← HE.out, num_small hlt, ← List.append_assoc]
      rw [bof_nat] at ho1
      exact ho1
    · go_wp2_with fail
      rw [or_and_u64 m hm]
      refine (byte_any _ base bo (l ++ pre) _ ho hpl).mono ?_
      rintro e w1 ⟨rfl, ho1, hf1⟩
      go_wp2
      refine ⟨⟨m / 128, pre ++ [UInt8.ofNat (m % 128 + 128)], ?_, ?_, ?_, ?_, hfr.trans hf1⟩, ?_⟩
      · congr 1
      · unfold Fits at hm ⊢; omega
      · rw [← HE.out, num_big (by omega) hm, List.append_assoc]
        rfl
      · rw [← List.append_assoc, ← bof_nat]; exact ho1
      · simp [intOf]; omega

theorem i64_not_neg (n : Int) (h1 : -9223372036854775808 ≤ n) (h2 : n < 0) : bits .xor .i64 (-1) n = -1 - n := by
  show IntKind.i64.wrap ((BitVec.ofInt 64 (-1) ^^^ BitVec.ofInt 64 n).toNat : Int) = _
  have e1 : BitVec.ofInt 64 (-1) = BitVec.allOnes 64 := by decide
  have e2 : (BitVec.ofInt 64 n).toNat = (n + 18446744073709551616).toNat := by
    rw [BitVec.toNat_ofInt]
    omega
  rw [e1, BitVec.allOnes_xor, BitVec.toNat_not, e2]
  simp only [IntKind.wrap_i64]
  omega
theorem zig_neg (n : Int) (h1 : -9223372036854775808 ≤ n) (h2 : n < 0) :
    bits .or .u64 (IntKind.u64.wrap (IntKind.u64.wrap (bits .xor .i64 (-1) n) * 2)) 1 = ((zig n : Nat) : Int) := by
  rw [i64_not_neg n h1 h2]
  have e1 : IntKind.u64.wrap (IntKind.u64.wrap (-1 - n) * 2) = (((-1 - n).toNat * 2 : Nat) : Int) := by
    simp only [IntKind.wrap_u64]
    omega
  have e2 := u64_or_nat ((-1 - n).toNat * 2) 1 (by omega) (by omega)
  rw [nat_join 1 ((-1 - n).toNat * 2) 1 (by omega) (by omega)] at e2
  rw [e1]
  refine e2.trans ?_
  unfold zig
  rw [if_neg (by omega)]
  omega
theorem zig_pos (n : Int) (h1 : ¬ n < 0) : n * 2 = ((zig n : Nat) : Int) := by
  unfold zig
  rw [if_pos (by omega)]
  omega

set_option maxHeartbeats 400000 in
theorem int_any (w : World) (base bo : Nat) (l : List UInt8) (n : Int) (h1 : -9223372036854775808 ≤ n) (h2 : n ≤ 9223372036854775807) (ho : OutAt w base bo l) (hl : l.length + 10 ≤ 140737488355328) :
    Calls Tryz.prog 68 #[.pointer (some ⟨bo, 0, none⟩), .int .i64 n] w fun e w' => e = .returned (.tuple #[]) ∧ OutAt w' base bo (l ++ num (zig n)) ∧ Frm base bo w w' := by
  by_cases hlt : n < 0
  · go_enter Tryz.func68, Tryz.ntmps68
    go_wp2_with fail
    rw [zig_neg n h1 hlt]
    refine (num_any _ base bo l (zig n) (zig_lt h1 h2) ho hl).mono ?_
    rintro e w1 ⟨rfl, ho1, hf1⟩
    go_wp2
    refine bodyPost_ret (results_none rfl _ _ _) rfl ?_
    exact ⟨rfl, ho1, hf1⟩
  · go_enter Tryz.func68, Tryz.ntmps68
    go_wp2_with fail
    rw [zig_pos n (by omega)]
    refine (num_any _ base bo l (zig n) (zig_lt h1 h2) ho hl).mono ?_
    rintro e w1 ⟨rfl, ho1, hf1⟩
    go_wp2
    go_end0
    exact ⟨rfl, ho1, hf1⟩

theorem run_own_string {w : World} {base : Nat} {v : Value} {l : List UInt8} (h : w.ownsRow base 5 1 v l.length (cells l)) :
    (convert 57 9 v).run Tryz.prog w = .ok (.string ⟨l.toArray⟩) w := by
  rcases h.2 with ⟨rfl, h0⟩ | ⟨g, cap, cur, rfl, hg⟩
  · have : l = [] := List.eq_nil_of_length_eq_zero h0
    subst this
    rw [run_convert_bytes_string w 57 9 5 none 0 0 Tryz.underlying57 Tryz.underlying5 Tryz.underlying9]
    rfl
  · exact run_convert_bytes_back w 57 9 5 ⟨g, 0, none⟩ cap l Tryz.underlying57 Tryz.underlying5 Tryz.underlying9 (fun j hj => by
      refine World.ownsRow.cells h (g := g) rfl j _ ?_
      simp [cells, List.getElem?_eq_getElem hj])

set_option maxHeartbeats 400000 in
theorem done_any (w : World) (base bo : Nat) (l : List UInt8) (h : OutAt w base bo l) :
    Calls Tryz.prog 24 #[.pointer (some ⟨bo, 0, none⟩)] w fun e w' => e = .returned (.string ⟨l.toArray⟩) ∧ w = w' := by
  obtain ⟨v, h1, h2, h3, h4⟩ := h
  have hc := cell_of_one h1
  have hrun := run_own_string h2
  obtain ⟨A, m, c, rfl⟩ := own_slice h2
  go_enter Tryz.func24, Tryz.ntmps24
  go_wp2
  go_ret
  exact ⟨rfl, rfl⟩
end Go.Proofs.YtahejekcfgkiaaaGreatDoor.octet

/-
  The reader's calls, each by itself: what is left, the first error, one byte, a failure. The reader lies in a block of its own, and holds no bytes behind an error.
-/
set_option linter.unusedVariables false
namespace Go.Proofs.YtahejekcfgkiaaaGreatDoor.octet
open Go.RowKit Go.ChangeShapes

theorem size_mk (l : List UInt8) : (ByteArray.mk l.toArray).size = l.length := by
  show l.toArray.size = l.length
  simp

theorem extract_mk (l : List UInt8) (i j : Nat) : (ByteArray.mk l.toArray).extract i j = ⟨((l.take j).drop i).toArray⟩ := by
  apply ByteArray.ext
  rw [ByteArray.data_extract]
  simp [List.extract_eq_take_drop, List.drop_take]

set_option maxHeartbeats 400000 in
theorem left_any (w : World) (bi : Nat) (s : St) (hi : InAt w bi s) :
    Calls Tryz.prog 99 #[.pointer (some ⟨bi, 0, none⟩)] w fun e w' => e = .returned (.int .i64 (s.rest.length : Int)) ∧ w = w' := by
  have hc := hi.cell0
  have hsz := size_mk s.rest
  go_enter Tryz.func99, Tryz.ntmps99
  go_wp2
  go_ret
  exact ⟨rfl, rfl⟩

set_option maxHeartbeats 400000 in
theorem err_any (w : World) (bi : Nat) (s : St) (hi : InAt w bi s) :
    Calls Tryz.prog 102 #[.pointer (some ⟨bi, 0, none⟩)] w fun e w' => e = .returned (.int .i64 (s.err : Int)) ∧ w = w' := by
  have hc := hi.cell1
  go_enter Tryz.func102, Tryz.ntmps102
  go_wp2
  go_ret
  exact ⟨rfl, rfl⟩

set_option maxHeartbeats 400000 in
theorem fail_any (w : World) (bi : Nat) (s : St) (e : Nat) (hi : InAt w bi s) :
    Calls Tryz.prog 120 #[.pointer (some ⟨bi, 0, none⟩), .int .i64 (e : Int)] w fun r w' => r = .returned (.tuple #[]) ∧ InAt w' bi (s.fail e) ∧ Frm w.heap.size bi w w' := by
  have hc0 := hi.cell0
  have hc1 := hi.cell1
  have hf0 := hi.free 0
  have hf1 := hi.free 1
  by_cases he : s.err = 0
  · have hb : ((s.err : Int) == 0) = true := by simp [he]
    have hb' : ((s.err : Int) != 0) = false := by simp [he]
    have hfin : InAt ((w.setCell ⟨bi, 1, none⟩ (.int .i64 (e : Int))).setCell ⟨bi, 0, none⟩ (.string ⟨#[]⟩)) bi (s.fail e) := by
      have h2 := (hi.set1 e).set0 []
      unfold St.fail
      rw [if_neg (by omega)]
      exact h2
    have HF := Lib.hid hfin
    clear hfin
    have HE := Lib.hid he
    clear he
    go_enter Tryz.func120, Tryz.ntmps120
    go_wp2
    go_end0
    refine ⟨rfl, HF.out, ?_⟩
    exact ((Frm.refl _ _ _).setCell (p := ⟨bi, 1, none⟩) (.inl rfl) _).setCell (p := ⟨bi, 0, none⟩) (.inl rfl) _
  · have hb : ((s.err : Int) != 0) = true := by simp [he]
    have hfin : s.fail e = s := by unfold St.fail; rw [if_pos he]
    have HF := Lib.hid hfin
    clear hfin
    have HE := Lib.hid he
    clear he
    go_enter Tryz.func120, Tryz.ntmps120
    go_wp2
    refine bodyPost_ret (results_none rfl _ _ _) rfl ?_
    refine ⟨rfl, ?_, Frm.refl _ _ _⟩
    rw [HF.out]
    exact hi

set_option maxHeartbeats 400000 in
theorem next_any (w : World) (bi : Nat) (s : St) (hi : InAt w bi s) (hok : s.ok) (hl : s.rest.length ≤ 140737489403904) :
    Calls Tryz.prog 119 #[.pointer (some ⟨bi, 0, none⟩)] w fun r w' => r = .returned (.int .u8 ((rdByte s).1 : Int)) ∧ InAt w' bi (rdByte s).2 ∧ Frm w.heap.size bi w w' := by
  obtain ⟨rest, err⟩ := s
  cases rest with
  | nil =>
    have hfin : (rdByte ⟨[], err⟩).1 = 0 ∧ (rdByte ⟨[], err⟩).2 = St.fail ⟨[], err⟩ 3 := by
      unfold rdByte St.fail
      split <;> simp
    have HF := Lib.hid hfin
    clear hfin
    go_enter Tryz.func119, Tryz.ntmps119
    go_wp2_with fail
    refine (left_any _ bi ⟨[], err⟩ hi).mono ?_
    rintro e w1 ⟨rfl, rfl⟩
    go_wp2_with fail
    refine (fail_any _ bi ⟨[], err⟩ 3 hi).mono ?_
    rintro e w1 ⟨rfl, hi1, hf1⟩
    go_wp2
    go_ret
    rw [HF.out.1, HF.out.2]
    exact ⟨rfl, hi1, hf1⟩
  | cons b r =>
    have he : err = 0 := by
      rcases Nat.eq_zero_or_pos err with h0 | h0
      · exact h0
      · have := hok (by show err ≠ 0; omega)
        simp at this
    subst he
    have hc0 := hi.cell0
    have hf0 := hi.free 0
    have hsz := size_mk (b :: r)
    have hl' : r.length + 1 ≤ 140737489403904 := by simpa using hl
    have hset := hi.set0 r
    have HS := Lib.hid hset
    clear hset
    go_enter Tryz.func119, Tryz.ntmps119
    go_wp2_with fail
    refine (left_any _ bi _ hi).mono ?_
    rintro e w1 ⟨rfl, rfl⟩
    go_wp2
    go_ret
    rw [extract_mk, show ((b :: r).take (r.length + 1)).drop 1 = r from by simp]
    refine ⟨rfl, HS.out, ?_⟩
    exact (Frm.refl _ _ _).setCell (p := ⟨bi, 0, none⟩) (.inl rfl) _

set_option maxHeartbeats 400000 in
theorem byteIn_any (w : World) (bi : Nat) (s : St) (hi : InAt w bi s) (hok : s.ok) (hl : s.rest.length ≤ 140737489403904) :
    Calls Tryz.prog 116 #[.pointer (some ⟨bi, 0, none⟩)] w fun r w' => r = .returned (.int .i64 ((rdByte s).1 : Int)) ∧ InAt w' bi (rdByte s).2 ∧ Frm w.heap.size bi w w' := by
  have h256 : (rdByte s).1 < 256 := by
    unfold rdByte
    split
    · omega
    · split
      · omega
      · exact UInt8.toNat_lt _
  go_enter Tryz.func116, Tryz.ntmps116
  go_wp2_with fail
  refine (next_any _ bi s hi hok hl).mono ?_
  rintro e w1 ⟨rfl, hi1, hf1⟩
  go_wp2
  go_ret
  exact ⟨rfl, hi1, hf1⟩
end Go.Proofs.YtahejekcfgkiaaaGreatDoor.octet

/-
  One call that puts something: what it lays behind what was put; and the document's own bytes of it. The bytes put are together at most two to the forty-seventh.
-/
namespace Go.Proofs.YtahejekcfgkiaaaGreatDoor.octet
open Go.RowKit Go.ChangeShapes
set_option linter.unusedVariables false

/-- What is put: which kind, and its number, number with a sign, text. -/
structure OpD where
  kind : Int
  n : Nat
  i : Int
  s : ByteArray
def OpD.fits (o : OpD) : Prop := Fits o.n ∧ -9223372036854775808 ≤ o.i ∧ o.i ≤ 9223372036854775807
def OpD.bytes (o : OpD) : List UInt8 := if o.kind = 0 then [UInt8.ofNat (o.n % 256)] else if o.kind = 1 then num o.n else if o.kind = 2 then num (zig o.i) else num o.s.size ++ o.s.data.toList
theorem OpD.length_le (o : OpD) : o.bytes.length ≤ o.s.size + 10 := by
  have h1 := num_length_le o.n
  have h2 := num_length_le (zig o.i)
  have h3 := num_length_le o.s.size
  have h4 : o.s.data.toList.length = o.s.size := by rw [Array.length_toList]; rfl
  unfold OpD.bytes
  split
  · simp
  · split
    · omega
    · split
      · omega
      · rw [List.length_append]; omega

theorem mk_append (l r : List UInt8) : ByteArray.mk l.toArray ++ ByteArray.mk r.toArray = ByteArray.mk (l ++ r).toArray := by
  apply ByteArray.ext
  apply Array.toList_inj.1
  simp [ByteArray.data_append]
theorem run_one (w : World) (x : Int) (b : UInt8) (hx : x = (b.toNat : Int)) :
    (convert 57 9 (.slice (some ⟨w.heap.size, 0, none⟩) 1 1)).run Tryz.prog (w.alloc (.cells #[.int .u8 x] 5)) = .ok (.string ⟨[b].toArray⟩) (w.alloc (.cells #[.int .u8 x] 5)) := by
  subst hx
  refine run_convert_bytes_back _ 57 9 5 ⟨w.heap.size, 0, none⟩ 1 [b] Tryz.underlying57 Tryz.underlying5 Tryz.underlying9 (fun j hj => ?_)
  have hj0 : j = 0 := by simp at hj; exact hj
  subst hj0
  exact cell_of_one (heap_alloc_new w _)

set_option maxHeartbeats 1000000 in
set_option maxRecDepth 100000 in
theorem refNumW_any (w : World) (n : Nat) (hn : Fits n) :
    Calls Tryz.prog 29 #[.int .u64 (n : Int)] w fun e w' => e = .returned (.string ⟨(num n).toArray⟩) ∧ Below w.heap.size w w' := by
  go_enter Tryz.func29, Tryz.ntmps29
  go_wp2
  go_loopw [0, 3] (fun t v wr => ∃ (m : Nat) (pre : List UInt8), t = .int .u64 (m : Int) ∧ v = .string ⟨pre.toArray⟩ ∧ Fits m ∧ pre ++ num m = num n ∧ Below w.heap.size w wr) (fun t _ _ => (intOf t).toNat)
  case atStart => exact ⟨n, [], rfl, rfl, hn, rfl, Below.refl _ _⟩
  case round =>
    obtain ⟨m, pre, rfl, rfl, hm, he, hb⟩ := hrel
    have hpl : pre.length ≤ 9 := by
      have e1 := congrArg List.length he
      have e2 := num_length_le n
      have e3 := enc_length_pos 9 m
      have e4 : (num m).length = (enc 9 m).length := rfl
      simp only [List.length_append] at e1
      omega
    have hps := size_mk pre
    have HE := Lib.hid he
    clear he
    by_cases hlt : m < 128
    · obtain ⟨c, hc⟩ : ∃ c, c = UInt8.ofNat m := ⟨_, rfl⟩
      have hone := run_one wr (m : Int) c (by rw [hc, UInt8.toNat_ofNat']; omega)
      have hos := size_mk [c]
      have HC := Lib.hid hc
      have HB := Lib.hid (hb.alloc hb.size (.cells #[.int .u8 (m : Int)] 5))
      clear hc
      go_wp2
      go_ret
      refine ⟨?_, HB.out⟩
      rw [← HE.out, num_small hlt, ← HC.out, ← mk_append]
      rfl
    · obtain ⟨c, hc⟩ : ∃ c, c = UInt8.ofNat (m % 128 + 128) := ⟨_, rfl⟩
      have hone := run_one wr ((m : Int) % 128 + 128) c (by rw [hc, UInt8.toNat_ofNat']; omega)
      have hos := size_mk [c]
      have HC := Lib.hid hc
      have HB := Lib.hid (hb.alloc hb.size (.cells #[.int .u8 ((m : Int) % 128 + 128)] 5))
      clear hc
      go_wp2
      refine ⟨⟨m / 128, pre ++ [c], ?_, ?_, ?_, ?_, HB.out⟩, ?_⟩
      · unfold Fits at hm
        rw [IntKind.wrap_u64]
        congr 1
        omega
      · rw [← mk_append]
      · unfold Fits at hm ⊢; omega
      · rw [← HE.out, num_big (by omega) hm, List.append_assoc, HC.out]
        rfl
      · unfold Fits at hm
        rw [IntKind.wrap_u64]
        simp [intOf]
        omega

set_option maxHeartbeats 1000000 in
theorem refIntW_any (w : World) (n : Int) (h1 : -9223372036854775808 ≤ n) (h2 : n ≤ 9223372036854775807) :
    Calls Tryz.prog 52 #[.int .i64 n] w fun e w' => e = .returned (.string ⟨(num (zig n)).toArray⟩) ∧ Below w.heap.size w w' := by
  by_cases hlt : 0 ≤ n
  · have hz : 2 * n = ((zig n : Nat) : Int) := by unfold zig; rw [if_pos hlt]; omega
    go_enter Tryz.func52, Tryz.ntmps52
    go_wp2_with fail
    refine (refNumW_any _ (zig n) (zig_lt h1 h2)).mono ?_
    rintro e w1 ⟨rfl, hb⟩
    go_wp2
    go_ret
    exact ⟨rfl, hb⟩
  · have hz : 2 * -(n + 1) + 1 = ((zig n : Nat) : Int) := by unfold zig; rw [if_neg hlt]; omega
    go_enter Tryz.func52, Tryz.ntmps52
    go_wp2_with fail
    refine (refNumW_any _ (zig n) (zig_lt h1 h2)).mono ?_
    rintro e w1 ⟨rfl, hb⟩
    go_wp2
    go_ret
    exact ⟨rfl, hb⟩

end Go.Proofs.YtahejekcfgkiaaaGreatDoor.octet

/-
  The document's own bytes of an instruction that may be. No condition but that it may be.
-/
namespace Go.Proofs.YtahejekcfgkiaaaGreatDoor.inst
open Go.RowKit Go.ChangeShapes
open Go.Proofs.YtahejekcfgkiaaaGreatDoor.oper (ret_int ret_bool ret_string)
open Go.Proofs.YtahejekcfgkiaaaGreatDoor.octet (run_one mk_append size_mk refNumW_any refIntW_any num zig)
open Go.Proofs.YtahejekcfgkiaaaGreatDoor.word (Word)
set_option linter.unusedVariables false

theorem Stand.glt {w W : World} {o a b : Int} {g : Nat} (h : Stand w o a b g W) : g < W.heap.size := by
  rcases Nat.lt_or_ge g W.heap.size with h1 | h1
  · exact h1
  · have := h.s0
    simp [World.cell?, Array.getElem?_eq_none h1] at this
theorem Stand.next {w W W' : World} {o a b : Int} {g : Nat} (h : Stand w o a b g W) (hb : Below W.heap.size W W') : Stand w o a b g W' :=
  ⟨h.below.trans (hb.mono (Nat.le_of_lt h.size)), Nat.lt_of_lt_of_le h.size hb.size, (hb.cell (p := ⟨w.heap.size, 0, none⟩) h.size).trans h.c0, (hb.cell (p := ⟨w.heap.size, 1, none⟩) h.size).trans h.c1, (hb.cell (p := ⟨w.heap.size, 2, none⟩) h.size).trans h.c2, (hb.cell (p := ⟨g, 0, none⟩) h.glt).trans h.s0, (hb.cell (p := ⟨g, 1, none⟩) h.glt).trans h.s1⟩

/-- Form, called while an instruction stands in memory. -/
theorem form_in (w W : World) (o a b : Int) (hs : w.heap.size < W.heap.size) (h0 : W.cell? ⟨w.heap.size, 0, none⟩ = some (.int .i64 o)) (h1 : W.cell? ⟨w.heap.size, 1, none⟩ = some (.int .i64 a)) (h2 : W.cell? ⟨w.heap.size, 2, none⟩ = some (.int .i64 b)) :
    Calls Tryz.prog 53 #[.int .i64 o] W fun e w' => e = .returned (.string (Go.Proofs.YtahejekcfgkiaaaGreatDoor.oper.txt Go.Proofs.YtahejekcfgkiaaaGreatDoor.oper.fm o)) ∧ w'.cell? ⟨w.heap.size, 0, none⟩ = some (.int .i64 o) ∧ w'.cell? ⟨w.heap.size, 1, none⟩ = some (.int .i64 a) ∧ w'.cell? ⟨w.heap.size, 2, none⟩ = some (.int .i64 b) ∧ Hid (Below W.heap.size W w') := by
  refine (Go.Proofs.YtahejekcfgkiaaaGreatDoor.oper.refForm_any o W).mono ?_
  rintro e w' ⟨rfl, hb⟩
  exact ⟨rfl, (hb.cell (p := ⟨w.heap.size, 0, none⟩) hs).trans h0, (hb.cell (p := ⟨w.heap.size, 1, none⟩) hs).trans h1, (hb.cell (p := ⟨w.heap.size, 2, none⟩) hs).trans h2, Lib.hid hb⟩

set_option maxRecDepth 100000 in
set_option maxHeartbeats 4000000 in
theorem refPut_any (o a b : Int) (hz : chk o a b = 0) (w : World) : Calls Tryz.prog 31 #[.agg #[.int .i64 o, .int .i64 a, .int .i64 b]] w fun e w' => e = .returned (.string ⟨(encI o a b).toArray⟩) ∧ Below w.heap.size w w' := by
  obtain ⟨hk, hf⟩ := chk_zero hz
  have hok := (chkF_zero hf).1
  have HF := fun W => form_in w W o a b
  have hy2 : (Go.Proofs.YtahejekcfgkiaaaGreatDoor.oper.txt Go.Proofs.YtahejekcfgkiaaaGreatDoor.oper.fm o).size ≤ 2 := by have := form_le o; unfold form at this; rwa [← size_list] at this
  have HW : Hid (encI o a b = UInt8.ofNat o.toNat :: pieces (form o) a b (form o).length) := Lib.hid rfl
  rw [HW.out]
  unfold form at hok ⊢
  have HO := Lib.hid hok
  have ho := hk.1
  have ho' := hk.2
  clear hk hf hz HW hok
  generalize Go.Proofs.YtahejekcfgkiaaaGreatDoor.oper.txt Go.Proofs.YtahejekcfgkiaaaGreatDoor.oper.fm o = y at *
  go_enter Tryz.func31, Tryz.ntmps31
  go_upto_region 1 with fail
  go_cut [3, 4] (fun t l wx => Forms w o a b y t l wx)
  case first =>
    go_region_held3 (fun w' => w'.cell? ⟨w.heap.size, 0, none⟩ = some (.int .i64 o) ∧ w'.cell? ⟨w.heap.size, 1, none⟩ = some (.int .i64 a) ∧ w'.cell? ⟨w.heap.size, 2, none⟩ = some (.int .i64 b)) (go_keep)
      (first | (go_at_call 53; refine (HF _ ?_ ?_ ?_ ?_).mono ?_; (simp <;> omega); (simp); (simp); (simp); rintro e w1 ⟨rfl, d0, d1, d2, HX⟩))
    all_goals
      go_wp2_with fail
      go_meet
      refine ⟨rfl, _, rfl, ?_⟩
      first
        | exact stand_late ((Below.refl _ _).drew.trans HX.out)
        | exact stand_early ((Below.refl _ _).drew.trans HX.out)
  case rest =>
    obtain ⟨rfl, g, rfl, hS⟩ := hcut
    have HS0 := Lib.hid hS
    have c0 := hS.c0
    have hone := run_one wc o (UInt8.ofNat o.toNat) (by rw [UInt8.toNat_ofNat']; omega)
    have HB0 := Lib.hid (hS.next ((Below.refl wc.heap.size wc).alloc (Nat.le_refl _) (.cells #[.int .u8 o] 5)))
    clear hS
    go_wp2_with fail
    generalize wc.alloc (.cells #[.int .u8 o] 5) = W1 at *
    clear hone HS0 c0
    obtain ⟨h, hh⟩ : ∃ h, h = UInt8.ofNat o.toNat := ⟨_, rfl⟩
    rw [← hh]
    have HH := Lib.hid hh
    clear hh
    go_loopw [5, 6] (fun t i wr => ∃ j : Nat, j ≤ y.size ∧ i = .int .i64 (j : Int) ∧ t = .string ⟨(h :: pieces y.data.toList a b j).toArray⟩ ∧ Hid (Stand w o a b g wr)) (fun _ i _ => y.size - (intOf i).toNat)
    case atStart => exact ⟨0, Nat.zero_le _, rfl, rfl, HB0⟩
    case round =>
      obtain ⟨j, hj, rfl, rfl, HS⟩ := hrel
      by_cases hlt : j < y.size
      · have hcell := HS.out.at (j := j) (by omega)
        have hj2 : (j : Int) < 2 := by omega
        have hyj : y[j] = y.data.toList.getD j 0 := letter_at hlt
        have hk := HO.out j (by rw [← size_list]; exact hlt)
        have HP : Hid (pieces y.data.toList a b (j + 1) = pieces y.data.toList a b j ++ piece (y.data.toList.getD j 0) (opd a b j)) := Lib.hid rfl
        have hpl := pieces_le y.data.toList a b j
        unfold okAt at hk
        generalize y.data.toList.getD j 0 = c at *
        generalize opd a b j = v at *
        have hs1 := size_mk (h :: pieces y.data.toList a b j)
        rw [List.length_cons] at hs1
        generalize pieces y.data.toList a b j = pre at *
        by_cases hc : c = 110
        · subst hc
          have hv : Word v := by unfold fitsB at hk; rw [if_pos rfl] at hk; simpa using hk
          unfold Word at hv
          have HE : Hid (piece 110 v = num (zig v)) := Lib.hid rfl
          have hs2 := size_mk (num (zig v))
          have hn2 := Go.Proofs.YtahejekcfgkiaaaGreatDoor.octet.num_length_le (zig v)
          clear hk
          go_wp2_with fail
          refine (refIntW_any _ v (by omega) (by omega)).mono ?_
          rintro e w1 ⟨rfl, hb⟩
          have HS1 := Lib.hid (HS.out.next hb)
          clear hb hcell
          generalize num (zig v) = q at *
          go_wp2
          go_roundw
          case rel => exact ⟨j + 1, by omega, by go_num, by rw [HP.out, HE.out, ← List.cons_append, ← mk_append], HS1⟩
          case measure => simp [intOf]; omega
        · have hw : least c ≤ v ∧ v ≤ most c := by unfold fitsB at hk; rw [if_neg hc] at hk; simpa using hk
          have hl0 : 0 ≤ least c := by unfold least; split <;> omega
          have hm0 : most c ≤ 199 := by unfold most; split; omega; split; omega; split; omega; split <;> omega
          obtain ⟨m, rfl⟩ : ∃ m : Nat, v = (m : Int) := ⟨v.toNat, by omega⟩
          have HE : Hid (piece c (m : Int) = num m) := Lib.hid (by unfold piece; rw [if_neg hc, Int.toNat_natCast])
          have hc1 : ((c.toNat : Int) == 110) = false := (u8_ne hc).1
          have hs2 := size_mk (num m)
          have hn2 := Go.Proofs.YtahejekcfgkiaaaGreatDoor.octet.num_length_le m
          have hm1 : m ≤ 199 := by omega
          clear hk hw hc hl0 hm0
          go_wp2_with fail
          refine (refNumW_any _ m (by unfold Go.Proofs.YtahejekcfgkiaaaGreatDoor.octet.Fits; omega)).mono ?_
          rintro e w1 ⟨rfl, hb⟩
          have HS1 := Lib.hid (HS.out.next hb)
          clear hb hcell
          generalize num m = q at *
          go_wp2
          go_roundw
          case rel => exact ⟨j + 1, by omega, by go_num, by rw [HP.out, HE.out, ← List.cons_append, ← mk_append], HS1⟩
          case measure => simp [intOf]; omega
      · obtain rfl : j = y.size := by omega
        have HB := Lib.hid HS.out.below
        go_wp2_with fail
        go_ret
        refine ⟨?_, HB.out⟩
        rw [HH.out, ← size_list]
        rfl
end Go.Proofs.YtahejekcfgkiaaaGreatDoor.inst

/-
  The reader's numbers: what bytes are read as one, byte by byte, and the first error. The reader lies in a block of its own, holds no bytes behind an error, and at most two to the forty-seventh of them.
-/
namespace Go.Proofs.YtahejekcfgkiaaaGreatDoor.octet
open Go.RowKit Go.ChangeShapes
set_option linter.unusedVariables false

/-- What the reader makes of its bytes behind k bytes that made acc. -/
def decS (s : St) (k acc : Nat) : Nat × St := if s.err ≠ 0 then (0, s) else ((dec s.rest k acc).1, ⟨(dec s.rest k acc).2.1, (dec s.rest k acc).2.2⟩)

theorem rdByte_some {s : St} (h : (rdByte s).2.err = 0) : ∃ b r, s = ⟨b :: r, 0⟩ := by
  obtain ⟨rest, err⟩ := s
  unfold rdByte at h
  by_cases he : err = 0
  · subst he
    cases rest with
    | nil => simp at h
    | cons b r => exact ⟨b, r, rfl⟩
  · simp [he] at h
theorem rdByte_none {s : St} (h : (rdByte s).2.err ≠ 0) {k acc : Nat} : decS s k acc = (0, (rdByte s).2) := by
  obtain ⟨rest, err⟩ := s
  unfold rdByte at h ⊢
  unfold decS
  by_cases he : err = 0
  · subst he
    cases rest with
    | nil => simp [dec]
    | cons b r => simp at h
  · simp [he]

theorem pow7 (k : Nat) : (2 : Nat) ^ (7 * k) = 128 ^ k := by rw [Nat.pow_mul]
theorem acc_next {c kk acc : Nat} (ha : acc < 128 ^ kk) : acc + c % 128 * 128 ^ kk < 128 ^ (kk + 1) := by
  have h1 : c % 128 * 128 ^ kk ≤ 127 * 128 ^ kk := Nat.mul_le_mul_right _ (by omega)
  rw [Nat.pow_succ]
  omega
theorem or_shl_u64 {c kk acc : Nat} (hbad : ¬ ((kk = 9 ∧ 1 < c) ∨ (0 < kk ∧ c = 0))) (hk : kk ≤ 9) (hc : c < 256) (ha : acc < 128 ^ kk) :
    bits .or .u64 (acc : Int) (IntKind.u64.wrap (IntKind.u64.wrap (bits .and .u8 (c : Int) 127) * 2 ^ (7 * kk))) = ((acc + c % 128 * 128 ^ kk : Nat) : Int) := by
  have e1 : bits .and .u8 (c : Int) 127 = ((c % 128 : Nat) : Int) := by
    rw [← nat_mask7]; exact u8_and_nat c 127 hc (by omega)
  have e2 : IntKind.u64.wrap ((c % 128 : Nat) : Int) = ((c % 128 : Nat) : Int) := by
    rw [IntKind.wrap_u64]; omega
  have e3 : ((2 : Int) ^ (7 * kk)) = ((128 ^ kk : Nat) : Int) := by
    rw [← pow7]; simp
  have hle : (128 : Nat) ^ kk ≤ 128 ^ 9 := Nat.pow_le_pow_right (by omega) hk
  have h9 : (128 : Nat) ^ 9 = 9223372036854775808 := rfl
  have hX : c % 128 * 128 ^ kk < 18446744073709551616 := by
    by_cases h8 : kk = 9
    · subst h8
      have hc1 : c ≤ 1 := by omega
      have : c % 128 * 128 ^ 9 ≤ 1 * 128 ^ 9 := Nat.mul_le_mul_right _ (by omega)
      omega
    · have h1 : c % 128 * 128 ^ kk ≤ 127 * 128 ^ kk := Nat.mul_le_mul_right _ (by omega)
      have h2 : (128 : Nat) ^ kk ≤ 128 ^ 8 := Nat.pow_le_pow_right (by omega) (by omega)
      have h3 : (128 : Nat) ^ 8 = 72057594037927936 := rfl
      omega
  have e4 : IntKind.u64.wrap (((c % 128 : Nat) : Int) * ((128 ^ kk : Nat) : Int)) = ((c % 128 * 128 ^ kk : Nat) : Int) := by
    rw [← Int.natCast_mul, IntKind.wrap_u64]
    omega
  rw [e1, e2, e3, e4, u64_or_nat acc _ (by omega) hX, Nat.or_comm, nat_join (7 * kk) (c % 128 * 128 ^ kk) acc (by rw [pow7]; exact Nat.mul_mod_left _ _) (by rw [pow7]; exact ha), Nat.add_comm]

set_option maxHeartbeats 1000000 in
set_option maxRecDepth 100000 in
theorem numIn_any (w : World) (bi : Nat) (s : St) (hi : InAt w bi s) (hok : s.ok) (hl : s.rest.length ≤ 140737489403904) :
    Calls Tryz.prog 112 #[.pointer (some ⟨bi, 0, none⟩)] w fun r w' => r = .returned (.int .u64 ((rdNum s).1 : Int)) ∧ InAt w' bi (rdNum s).2 ∧ Frm w.heap.size bi w w' := by
  go_enter Tryz.func112, Tryz.ntmps112
  go_wp2
  go_loopw [3, 6] (fun n k wr => ∃ (kk acc : Nat) (s' : St), k = .int .i64 (kk : Int) ∧ kk ≤ 9 ∧ n = .int .u64 (acc : Int) ∧ acc < 128 ^ kk ∧ InAt wr bi s' ∧ s'.ok ∧ s'.rest.length ≤ 140737489403904 ∧ decS s' kk acc = rdNum s ∧ Frm w.heap.size bi w wr) (fun _ k _ => 9 - (intOf k).toNat)
  case atStart => exact ⟨0, 0, s, rfl, by omega, rfl, by simp, hi, hok, hl, rfl, Frm.refl _ _ _⟩
  case round =>
    obtain ⟨kk, acc, s', rfl, hk, rfl, hacc, hi', hok', hl', hd, hfr⟩ := hrel
    have HD := Lib.hid hd
    have HA := Lib.hid hacc
    clear hd hacc
    by_cases he : (rdByte s').2.err = 0
    · obtain ⟨b, r, rfl⟩ : ∃ b r, s' = ⟨b :: r, 0⟩ := rdByte_some he
      clear he
      have e1 : rdByte ⟨b :: r, 0⟩ = (b.toNat, ⟨r, 0⟩) := rfl
      have hb256 : b.toNat < 256 := b.toNat_lt
      have hok1 : St.ok ⟨r, 0⟩ := fun h0 => absurd rfl h0
      have hl1 : r.length + 1 ≤ 140737489403904 := hl'
      by_cases hbad : (kk = 9 ∧ 1 < b.toNat) ∨ (0 < kk ∧ b.toNat = 0)
      · have hfin : rdNum s = (0, ⟨[], 2⟩) := by
          rw [← HD.out]
          unfold decS
          rw [if_neg (by simp), dec_err hbad]
        have HF := Lib.hid hfin
        have HB := Lib.hid hbad
        clear hbad hfin
        have hcase : ((((kk : Int) == 9) = true ∧ decide (1 < (b.toNat : Int)) = true ∧ decide (0 < (kk : Int)) = true ∧ ((b.toNat : Int) == 0) = false) ∨
          (((kk : Int) == 9) = true ∧ decide (1 < (b.toNat : Int)) = false ∧ decide (0 < (kk : Int)) = true ∧ ((b.toNat : Int) == 0) = true)) ∨
          (((kk : Int) == 9) = false ∧ decide (1 < (b.toNat : Int)) = false ∧ decide (0 < (kk : Int)) = true ∧ ((b.toNat : Int) == 0) = true) := by
          have h1 := HB.out
          simp only [beq_iff_eq, beq_eq_false_iff_ne, decide_eq_true_eq, decide_eq_false_iff_not]
          omega
        have hnext := next_any wr bi _ hi' hok' hl'
        rw [e1] at hnext
        clear e1
        have HN := Lib.hid hnext
        clear hnext
        generalize b.toNat = c at *
        go_wp2_with fail
        refine HN.out.mono ?_
        rintro e w1 ⟨rfl, hi1, hf1⟩
        go_wp2_with fail
        refine (err_any _ bi _ hi1).mono ?_
        rintro e w2 ⟨rfl, rfl⟩
        rcases hcase with (⟨f1, f2, f3, f4⟩ | ⟨f1, f2, f3, f4⟩) | ⟨f1, f2, f3, f4⟩
        all_goals
          have g3 : 0 < kk := by simpa using f3
          go_wp2_with fail
          refine (fail_any _ bi _ 2 hi1).mono ?_
          rintro e w3 ⟨rfl, hi3, hf3⟩
          go_wp2
          go_ret
          rw [HF.out]
          exact ⟨rfl, hi3, hfr.trans ((hf1.mono hfr.size).trans (hf3.mono (by have := hf1.size; have := hfr.size; omega)))⟩
      · have hfin : decS ⟨b :: r, 0⟩ kk acc = if b.toNat < 128 then (acc + b.toNat % 128 * 128 ^ kk, ⟨r, 0⟩) else decS ⟨r, 0⟩ (kk + 1) (acc + b.toNat % 128 * 128 ^ kk) := by
          unfold decS
          by_cases hb : b.toNat < 128
          · rw [if_neg (by simp), dec_last hbad hb, if_pos hb]
          · rw [if_neg (by simp), dec_next hbad hb, if_neg hb, if_neg (by simp)]
        have HF := Lib.hid hfin
        have HB := Lib.hid hbad
        clear hbad hfin
        have hcase : ((((kk : Int) == 9) = true ∧ decide (1 < (b.toNat : Int)) = false ∧ decide (0 < (kk : Int)) = true ∧ ((b.toNat : Int) == 0) = false) ∨
          (((kk : Int) == 9) = false ∧ decide (0 < (kk : Int)) = true ∧ ((b.toNat : Int) == 0) = false)) ∨
          (((kk : Int) == 9) = false ∧ decide (0 < (kk : Int)) = false) := by
          have h1 := HB.out
          simp only [beq_iff_eq, beq_eq_false_iff_ne, decide_eq_true_eq, decide_eq_false_iff_not]
          omega
        have hnext := next_any wr bi _ hi' hok' hl'
        rw [e1] at hnext
        clear e1
        have HN := Lib.hid hnext
        clear hnext
        generalize b.toNat = c at *
        go_wp2_with fail
        refine HN.out.mono ?_
        rintro e w1 ⟨rfl, hi1, hf1⟩
        go_wp2_with fail
        refine (err_any _ bi _ hi1).mono ?_
        rintro e w2 ⟨rfl, rfl⟩
        have hor := or_shl_u64 HB.out hk hb256 HA.out
        have HO := Lib.hid hor
        clear hor
        by_cases hb : c < 128
        · have g1 : decide ((c : Int) < 128) = true := by simp; omega
          have h2 := HF.out
          rw [if_pos hb] at h2
          have hfin : rdNum s = (acc + c % 128 * 128 ^ kk, ⟨r, 0⟩) := by rw [← HD.out]; exact h2
          have HR := Lib.hid hfin
          clear h2 hfin
          rcases hcase with (⟨f1, f2, f3, f4⟩ | ⟨f1, f3, f4⟩) | ⟨f1, f3⟩
          all_goals
            go_wp2
            all_goals first
              | (exfalso; simp only [beq_iff_eq, beq_eq_false_iff_ne, decide_eq_true_eq, decide_eq_false_iff_not] at *; omega)
              | (rw [HO.out]; go_ret; rw [HR.out]; exact ⟨rfl, hi1, hfr.trans (hf1.mono hfr.size)⟩)
        · have g1 : decide ((c : Int) < 128) = false := by simp; omega
          have hcase' : (((kk : Int) == 9) = false ∧ decide (0 < (kk : Int)) = true ∧ ((c : Int) == 0) = false) ∨ (((kk : Int) == 9) = false ∧ decide (0 < (kk : Int)) = false) := by
            simp only [beq_iff_eq, beq_eq_false_iff_ne, decide_eq_true_eq, decide_eq_false_iff_not] at hcase ⊢
            omega
          have hk9 : kk + 1 ≤ 9 := by
            have h1 := HB.out
            omega
          clear hcase
          rcases hcase' with ⟨f1, f3, f4⟩ | ⟨f1, f3⟩
          all_goals
            go_wp2
            all_goals try (exfalso; simp only [beq_eq_false_iff_ne, decide_eq_true_eq, decide_eq_false_iff_not] at *; omega)
            rw [HO.out]
            refine ⟨⟨kk + 1, acc + c % 128 * 128 ^ kk, ⟨r, 0⟩, by go_num, hk9, rfl, acc_next HA.out, hi1, hok1, ?_, ?_, hfr.trans (hf1.mono hfr.size)⟩, ?_⟩
            · show r.length ≤ _
              omega
            · have h1 := HF.out
              rw [if_neg hb] at h1
              rw [← h1]
              exact HD.out
            · simp [intOf]
              omega
    · have hfin : rdNum s = (0, (rdByte s').2) := by
        rw [← HD.out]
        exact rdByte_none he
      have HF := Lib.hid hfin
      clear hfin
      go_wp2_with fail
      refine (next_any _ bi s' hi' hok' hl').mono ?_
      rintro e w1 ⟨rfl, hi1, hf1⟩
      go_wp2_with fail
      refine (err_any _ bi _ hi1).mono ?_
      rintro e w2 ⟨rfl, rfl⟩
      have he' : (((rdByte s').2.err : Int) != 0) = true := by simp [he]
      have HE := Lib.hid he
      clear he
      go_wp2_with fail
      go_ret
      rw [HF.out]
      exact ⟨rfl, hi1, hfr.trans (hf1.mono hfr.size)⟩
end Go.Proofs.YtahejekcfgkiaaaGreatDoor.octet

/-
  The document's own answers, each by itself: what its functions make of bytes that are read. A text of at most two to the forty-seventh bytes.
-/
namespace Go.Proofs.YtahejekcfgkiaaaGreatDoor.octet
open Go.RowKit Go.ChangeShapes
set_option linter.unusedVariables false

theorem bcell {W w1 : World} (hb : Below W.heap.size W w1) : (∀ b o, b < W.heap.size → w1.cell? ⟨b, o, none⟩ = W.cell? ⟨b, o, none⟩) ∧ (∀ b o, b < W.heap.size → w1.frozen? ⟨b, o, none⟩ = W.frozen? ⟨b, o, none⟩) :=
  ⟨fun b o h => hb.cell (p := ⟨b, o, none⟩) h, fun b o h => hb.frozen (p := ⟨b, o, none⟩) h⟩

/-- The document's reader: the text, where, the first error. -/
def RV (t : ByteArray) (at' err : Nat) : Value := .agg #[.string t, .int .i64 (at' : Int), .int .i64 (err : Int)]
/-- It stands where the program's reader stands. -/
def Stands (t : ByteArray) (k err : Nat) (s : St) : Prop := k ≤ t.size ∧ s.rest = t.data.toList.drop k ∧ s.err = err ∧ s.ok

set_option maxHeartbeats 400000 in
theorem refFail_any (w : World) (t : ByteArray) (k err e : Nat) (ht : t.size ≤ 140737489403904) :
    Calls Tryz.prog 86 #[RV t k err, .int .i64 (e : Int)] w fun r w' => r = .returned (if err = 0 then RV t t.size e else RV t k err) ∧ Below w.heap.size w w' := by
  unfold RV
  by_cases he : err = 0
  · subst he
    go_enter Tryz.func86, Tryz.ntmps86
    go_wp2
    go_returns
    exact ⟨rfl, by go_grown⟩
  · have hb : ((err : Int) == 0) = false := by simp [he]
    rw [if_neg he]
    clear he
    go_enter Tryz.func86, Tryz.ntmps86
    go_wp2
    go_returns
    exact ⟨rfl, by go_grown⟩
/-- What the document's reader reads as one byte. -/
def refByte (t : ByteArray) (k err : Nat) : Nat × Nat × Nat :=
  if k < t.size then ((t.data.toList.getD k 0).toNat, k + 1, err) else (0, if err = 0 then (t.size, 3) else (k, err))

set_option maxHeartbeats 400000 in
theorem refByte_any (w : World) (t : ByteArray) (k err : Nat) (ht : t.size ≤ 140737489403904) (hk : k ≤ t.size) :
    Calls Tryz.prog 59 #[RV t k err] w fun r w' => r = .returned (.tuple #[.int .i64 ((refByte t k err).1 : Int), RV t (refByte t k err).2.1 (refByte t k err).2.2]) ∧ Below w.heap.size w w' := by
  by_cases hlt : k < t.size
  · have hfin : refByte t k err = ((t.data.toList.getD k 0).toNat, k + 1, err) := by unfold refByte; rw [if_pos hlt]
    rw [hfin]
    have HF := Lib.hid hfin
    clear hfin
    unfold RV
    go_enter Tryz.func59, Tryz.ntmps59
    go_wp2
    go_region
    all_goals go_wp2
    go_returns
    refine ⟨?_, by go_grown⟩
    rw [show t.data.toList.getD k 0 = t[k]'hlt from by rw [List.getD_eq_getElem?_getD, List.getElem?_eq_getElem (by rw [Array.length_toList]; exact hlt)]; rfl]
    have e : wrap64 ((t[k]'hlt).toNat : Int) = ((t[k]'hlt).toNat : Int) := by
      have h256 := (t[k]'hlt).toNat_lt
      unfold wrap64
      omega
    rw [e]
    rfl
  · have hfin : refByte t k err = (0, if err = 0 then (t.size, 3) else (k, err)) := by unfold refByte; rw [if_neg hlt]
    rw [hfin]
    clear hfin
    by_cases he : err = 0
    · subst he
      rw [if_pos rfl]
      have HR : ∀ w, Calls Tryz.prog 86 #[.agg #[.string t, .int .i64 (k : Int), .int .i64 0], .int .i64 3] w fun r w' => r = .returned (.agg #[.string t, .int .i64 (t.size : Int), .int .i64 3]) ∧ Below w.heap.size w w' := fun w => refFail_any w t k 0 3 ht
      have HR' := Lib.hid HR
      clear HR
      unfold RV
      go_enter Tryz.func59, Tryz.ntmps59
      go_wp2_with fail
      refine (HR'.out _).mono ?_
      rintro e w1 ⟨rfl, hb⟩
      obtain ⟨hc, hf⟩ := bcell hb
      have hz := hb.size
      simp only [World.size_alloc] at hz
      have hbw := ((((Below.refl _ w).alloc (Nat.le_refl _) _).alloc (by simp) _).trans (hb.mono (B' := w.heap.size) (by simp; omega)))
      have HB := Lib.hid hbw
      clear hbw
      go_wp2
      have hbw := HB.out
      refine bodyPost_ret (v := .tuple #[.int .i64 0, .agg #[.string t, .int .i64 (t.size : Int), .int .i64 3]]) (by simp [results, Tryz.results59, go_sem, hc]) rfl ⟨rfl, by go_grown⟩
    · rw [if_neg he]
      have HR : ∀ w, Calls Tryz.prog 86 #[.agg #[.string t, .int .i64 (k : Int), .int .i64 (err : Int)], .int .i64 3] w fun r w' => r = .returned (.agg #[.string t, .int .i64 (k : Int), .int .i64 (err : Int)]) ∧ Below w.heap.size w w' := fun w => (refFail_any w t k err 3 ht).mono fun e w' h => by rw [if_neg he] at h; exact h
      have HR' := Lib.hid HR
      clear HR
      unfold RV
      go_enter Tryz.func59, Tryz.ntmps59
      go_wp2_with fail
      refine (HR'.out _).mono ?_
      rintro e w1 ⟨rfl, hb⟩
      obtain ⟨hc, hf⟩ := bcell hb
      have hz := hb.size
      simp only [World.size_alloc] at hz
      have hbw := ((((Below.refl _ w).alloc (Nat.le_refl _) _).alloc (by simp) _).trans (hb.mono (B' := w.heap.size) (by simp; omega)))
      have HB := Lib.hid hbw
      clear hbw
      go_wp2
      have hbw := HB.out
      refine bodyPost_ret (v := .tuple #[.int .i64 0, .agg #[.string t, .int .i64 (k : Int), .int .i64 (err : Int)]]) (by simp [results, Tryz.results59, go_sem, hc]) rfl ⟨rfl, by go_grown⟩
end Go.Proofs.YtahejekcfgkiaaaGreatDoor.octet
