/-
  Texts of one claim in one file: Out, Put, EInt, ERefPut, OutKeep. Each has its own sentence, with its conditions.
-/
import Derived.Test.YtfkcmdnnmnkklaaDoorProg
import Derived.Test.YtfkcmdnnmnkklaaDoorEall2
import Derived.Lib.AppendStr
import Derived.Lib.Hide
import Derived.Laws.IdiomStrings
import Derived.ProofKit
import Derived.Handy
import Derived.Lib.Strings
import Derived.Lib.SmallJoins
import Derived.Test.YtfkcmdnnmnkklaaDoorEall4
import Derived.Test.YtfkcmdnnmnkklaaDoorEall6
/-
  The writer's calls, each by itself: what bytes a byte, a number, a number with a sign and a text lay behind what was put. The bytes put are together at most two to the forty-seventh.
-/
namespace Go.Proofs.YtfkcmdnnmnkklaaDoor.octet
open Go.RowKit Go.ChangeShapes

theorem info5 : (Tryd.prog.info? 5).map (fun i => (i.zero, i.size, i.bytes)) = some (some (.int .u8 0), 1, 1) := by kernel_rfl

def bof (n : Int) : UInt8 := UInt8.ofNat (n % 256).toNat
theorem bof_cell (n : Int) : Value.int .u8 ((bof n).toNat : Int) = .int .u8 (n % 256) := by
  congr 1
  unfold bof
  rw [UInt8.toNat_ofNat']
  omega

/-- Behind an append to the writer's own bytes, the slice stored back. -/
theorem out_store {w w1 : World} {base bo : Nat} {l r : List UInt8} {v v' : Value} (h1 : w.heap[bo]? = some (.cells #[v] 65 (0, 0))) (h2 : w.ownsRow base 5 1 v l.length (cells l)) (h3 : bo < base) (h4 : base ≤ w.heap.size)
    {W : World} (hW : ∃ o, W = w.alloc o ∨ W = w) (hown : w1.ownsRow base 5 1 v' (l.length + r.length) (cells l ++ cells r)) (hg : W.grownBy w1 v.ownBlock) :
    w1.heap[bo]? = some (.cells #[v] 65 (0, 0)) ∧ OutAt (w1.setCell ⟨bo, 0, none⟩ v') base bo (l ++ r) ∧ Frm base bo w (w1.setCell ⟨bo, 0, none⟩ v') := by
  have hlt := lt_of_block h1
  have hob : ∀ k, v.ownBlock = some k → base ≤ k ∧ k < w.heap.size := h2.lt
  have hWs : w.heap.size ≤ W.heap.size ∧ ∀ k, k < w.heap.size → W.heap[k]? = w.heap[k]? := by
    obtain ⟨o, rfl | rfl⟩ := hW
    · exact ⟨by simp, fun k hk => Below.heap_alloc _ _ _ hk⟩
    · exact ⟨Nat.le_refl _, fun _ _ => rfl⟩
  have hWo : W.os = w.os ∧ W.tape = w.tape ∧ W.output = w.output := by
    obtain ⟨o, rfl | rfl⟩ := hW <;> exact ⟨rfl, rfl, rfl⟩
  have hb : w1.heap[bo]? = some (.cells #[v] 65 (0, 0)) := by
    rw [hg.block bo (by omega) (fun e => by have := (hob bo e.symm).1; omega), hWs.2 bo hlt]
    exact h1
  have hv' : v'.ownBlock ≠ some bo := fun e => by have := (hown.lt bo e).1; omega
  refine ⟨hb, ⟨v', one_setCell hb, ?_, h3, ?_⟩, ?_⟩
  · rw [List.length_append, cells_append]
    exact ownsRow_setCell_other hown hv' _
  · have := hg.size
    simp [World.setCell]
    omega
  · refine Frm.setCell (p := ⟨bo, 0, none⟩) ⟨hg.os.trans hWo.1, hg.tape.trans hWo.2.1, hg.output.trans hWo.2.2, Nat.le_trans hWs.1 hg.size, fun k hk hx => ?_⟩ (.inl rfl) _
    rw [hg.block k (by omega) (fun e => by have := (hob k e.symm).1; omega), hWs.2 k (by omega)]

theorem own_slice {w : World} {base : Nat} {e : TypeId} {size n : Nat} {v : Value} {xs : List Value} (h : w.ownsRow base e size v n xs) : ∃ A m c, v = .slice A m c := by
  rcases h.2 with ⟨rfl, _⟩ | ⟨g, cap, cur, rfl, _⟩
  · exact ⟨_, _, _, rfl⟩
  · exact ⟨_, _, _, rfl⟩

set_option maxHeartbeats 400000 in
theorem byte_any (w : World) (base bo : Nat) (l : List UInt8) (n : Int) (h : OutAt w base bo l) (hl : l.length + 1 ≤ 140737488355328) :
    Calls Tryd.prog 55 #[.pointer (some ⟨bo, 0, none⟩), .int .i64 n] w fun e w' => e = .returned (.tuple #[]) ∧ OutAt w' base bo (l ++ [bof n]) ∧ Frm base bo w w' := by
  obtain ⟨v, h1, h2, h3, h4⟩ := h
  obtain ⟨i0, hi, hz0, hz1, hz2⟩ := info_parts info5
  have hc := cell_of_one h1
  have hf := free_of_one h1
  go_enter Tryd.func55, Tryd.ntmps55
  go_wp2_with (
    at_builtin
    refine wpList_append_own _ rfl (.tmp 10) (.tmp 13) _ rfl base 5 i0 _ 1 1 Tryd.underlying63 hi hz0 hz1 hz2 rfl (by omega) v l.length (cells l) rfl (h2.alloc _)
      ⟨w.heap.size, 0, none⟩ 1 1 [.int .u8 (n % 256)] rfl rfl ?c1 ?c2 ?c3 ?c4 ?c5 ?_)
  case c1 =>
    intro j u hu
    rcases j with _ | j
    · simp only [List.getElem?_cons_zero, Option.some.injEq] at hu
      subst hu
      exact cell_of_one (heap_alloc_new w _)
    · simp at hu
  case c2 => intro u hu; simp only [List.mem_singleton] at hu; subst hu; rfl
  case c3 => simp only [maxLen]; omega
  case c4 => omega
  case c5 => simp; omega
  intro v' w1 hown hg _
  have hs := out_store (r := [bof n]) h1 h2 h3 h4 ⟨_, .inl rfl⟩ (by simpa [cells, bof_cell] using hown) hg
  have hc1 := cell_of_one hs.1
  have hf1 := free_of_one hs.1
  obtain ⟨_, hs2, hs3⟩ := hs
  obtain ⟨A', m', c', rfl⟩ := own_slice hown
  go_wp2
  go_end0
  exact ⟨rfl, hs2, hs3⟩
/-- The number is one of sixty-four bits. -/
def Fits (n : Nat) : Prop := n < 18446744073709551616

theorem bof_nat (m : Nat) : bof (m : Int) = UInt8.ofNat m := by
  unfold bof
  apply UInt8.toNat_inj.1
  rw [UInt8.toNat_ofNat', UInt8.toNat_ofNat']
  omega
theorem or_and_u64 (m : Nat) (hm : Fits m) : wrap64 (bits .or .u64 (bits .and .u64 (m : Int) 127) 128) = ((m % 128 + 128 : Nat) : Int) := by
  unfold Fits at hm
  have e1 : bits .and .u64 (m : Int) 127 = ((m % 128 : Nat) : Int) := by
    rw [← nat_mask7]; exact u64_and_nat m 127 hm (by omega)
  have e2 : bits .or .u64 ((m % 128 : Nat) : Int) 128 = ((m % 128 + 128 : Nat) : Int) := by
    have h := u64_or_nat (m % 128) 128 (by omega) (by omega)
    rw [Nat.or_comm, nat_join 7 128 (m % 128) rfl (by omega), Nat.add_comm] at h
    exact h
  rw [e1, e2]
  unfold wrap64
  omega

set_option maxHeartbeats 400000 in
theorem num_any (w : World) (base bo : Nat) (l : List UInt8) (n : Nat) (hn : Fits n) (h : OutAt w base bo l) (hl : l.length + 10 ≤ 140737488355328) :
    Calls Tryd.prog 30 #[.pointer (some ⟨bo, 0, none⟩), .int .u64 (n : Int)] w fun e w' => e = .returned (.tuple #[]) ∧ OutAt w' base bo (l ++ num n) ∧ Frm base bo w w' := by
  go_enter Tryd.func30, Tryd.ntmps30
  go_wp2
  go_loopw [1] (fun t wr => ∃ (m : Nat) (pre : List UInt8), t = .int .u64 (m : Int) ∧ Fits m ∧ pre ++ num m = num n ∧ OutAt wr base bo (l ++ pre) ∧ Frm base bo w wr) (fun t _ => (intOf t).toNat)
  case atStart => exact ⟨n, [], rfl, hn, rfl, by simpa using h, Frm.refl _ _ _⟩
  case round =>
    obtain ⟨m, pre, rfl, hm, he, ho, hfr⟩ := hrel
    have hpl : (l ++ pre).length + 1 ≤ 140737488355328 := by
      have e1 := congrArg List.length he
      have e2 := num_length_le n
      have e3 := enc_length_pos 9 m
      have e4 : (num m).length = (enc 9 m).length := rfl
      simp only [List.length_append] at e1 ⊢
      omega
    have HE := Lib.hid he
    clear he
    by_cases hlt : m < 128
    · go_wp2_with fail
      refine (byte_any _ base bo (l ++ pre) _ ho hpl).mono ?_
      rintro e w1 ⟨rfl, ho1, hf1⟩
      go_wp2
      go_end0
      refine ⟨rfl, ?_, hfr.trans hf1⟩
      rw [← HE.out, num_small hlt, ← List.append_assoc]
      rw [bof_nat] at ho1
      exact ho1
    · go_wp2_with fail
      rw [or_and_u64 m hm]
      refine (byte_any _ base bo (l ++ pre) _ ho hpl).mono ?_
      rintro e w1 ⟨rfl, ho1, hf1⟩
      go_wp2
      refine ⟨⟨m / 128, pre ++ [UInt8.ofNat (m % 128 + 128)], ?_, ?_, ?_, ?_, hfr.trans hf1⟩, ?_⟩
      · congr 1
      · unfold Fits at hm ⊢; omega
      · rw [← HE.out, num_big (by omega) hm, List.append_assoc]
        rfl
      · rw [← List.append_assoc, ← bof_nat]; exact ho1
      · simp [intOf]; omega

theorem i64_not_neg (n : Int) (h1 : -9223372036854775808 ≤ n) (h2 : n < 0) : bits .xor .i64 (-1) n = -1 - n := by
  show IntKind.i64.wrap ((BitVec.ofInt 64 (-1) ^^^ BitVec.ofInt 64 n).toNat : Int) = _
  have e1 : BitVec.ofInt 64 (-1) = BitVec.allOnes 64 := by decide
  have e2 : (BitVec.ofInt 64 n).toNat = (n + 18446744073709551616).toNat := by
    rw [BitVec.toNat_ofInt]
    omega
  rw [e1, BitVec.allOnes_xor, BitVec.toNat_not, e2]
  simp only [IntKind.wrap_i64]
  omega
theorem zig_neg (n : Int) (h1 : -9223372036854775808 ≤ n) (h2 : n < 0) :
    bits .or .u64 (IntKind.u64.wrap (IntKind.u64.wrap (bits .xor .i64 (-1) n) * 2)) 1 = ((zig n : Nat) : Int) := by
  rw [i64_not_neg n h1 h2]
  have e1 : IntKind.u64.wrap (IntKind.u64.wrap (-1 - n) * 2) = (((-1 - n).toNat * 2 : Nat) : Int) := by
    simp only [IntKind.wrap_u64]
    omega
  have e2 := u64_or_nat ((-1 - n).toNat * 2) 1 (by omega) (by omega)
  rw [nat_join 1 ((-1 - n).toNat * 2) 1 (by omega) (by omega)] at e2
  rw [e1]
  refine e2.trans ?_
  unfold zig
  rw [if_neg (by omega)]
  omega
theorem zig_pos (n : Int) (h1 : ¬ n < 0) : n * 2 = ((zig n : Nat) : Int) := by
  unfold zig
  rw [if_pos (by omega)]
  omega

set_option maxHeartbeats 400000 in
theorem int_any (w : World) (base bo : Nat) (l : List UInt8) (n : Int) (h1 : -9223372036854775808 ≤ n) (h2 : n ≤ 9223372036854775807) (ho : OutAt w base bo l) (hl : l.length + 10 ≤ 140737488355328) :
    Calls Tryd.prog 100 #[.pointer (some ⟨bo, 0, none⟩), .int .i64 n] w fun e w' => e = .returned (.tuple #[]) ∧ OutAt w' base bo (l ++ num (zig n)) ∧ Frm base bo w w' := by
  by_cases hlt : n < 0
  · go_enter Tryd.func100, Tryd.ntmps100
    go_wp2_with fail
    rw [zig_neg n h1 hlt]
    refine (num_any _ base bo l (zig n) (zig_lt h1 h2) ho hl).mono ?_
    rintro e w1 ⟨rfl, ho1, hf1⟩
    go_wp2
    refine bodyPost_ret (results_none rfl _ _ _) rfl ?_
    exact ⟨rfl, ho1, hf1⟩
  · go_enter Tryd.func100, Tryd.ntmps100
    go_wp2_with fail
    rw [zig_pos n (by omega)]
    refine (num_any _ base bo l (zig n) (zig_lt h1 h2) ho hl).mono ?_
    rintro e w1 ⟨rfl, ho1, hf1⟩
    go_wp2
    go_end0
    exact ⟨rfl, ho1, hf1⟩

theorem run_own_string {w : World} {base : Nat} {v : Value} {l : List UInt8} (h : w.ownsRow base 5 1 v l.length (cells l)) :
    (convert 63 9 v).run Tryd.prog w = .ok (.string ⟨l.toArray⟩) w := by
  rcases h.2 with ⟨rfl, h0⟩ | ⟨g, cap, cur, rfl, hg⟩
  · have : l = [] := List.eq_nil_of_length_eq_zero h0
    subst this
    rw [run_convert_bytes_string w 63 9 5 none 0 0 Tryd.underlying63 Tryd.underlying5 Tryd.underlying9]
    rfl
  · exact run_convert_bytes_back w 63 9 5 ⟨g, 0, none⟩ cap l Tryd.underlying63 Tryd.underlying5 Tryd.underlying9 (fun j hj => by
      refine World.ownsRow.cells h (g := g) rfl j _ ?_
      simp [cells, List.getElem?_eq_getElem hj])

set_option maxHeartbeats 400000 in
theorem done_any (w : World) (base bo : Nat) (l : List UInt8) (h : OutAt w base bo l) :
    Calls Tryd.prog 32 #[.pointer (some ⟨bo, 0, none⟩)] w fun e w' => e = .returned (.string ⟨l.toArray⟩) ∧ w = w' := by
  obtain ⟨v, h1, h2, h3, h4⟩ := h
  have hc := cell_of_one h1
  have hrun := run_own_string h2
  obtain ⟨A, m, c, rfl⟩ := own_slice h2
  go_enter Tryd.func32, Tryd.ntmps32
  go_wp2
  go_ret
  exact ⟨rfl, rfl⟩
end Go.Proofs.YtfkcmdnnmnkklaaDoor.octet

/-
  One call that puts something: what it lays behind what was put; and the document's own bytes of it. The bytes put are together at most two to the forty-seventh.
-/
namespace Go.Proofs.YtfkcmdnnmnkklaaDoor.octet
open Go.RowKit Go.ChangeShapes
set_option linter.unusedVariables false

/-- What is put: which kind, and its number, number with a sign, text. -/
structure OpD where
  kind : Int
  n : Nat
  i : Int
  s : ByteArray
def OpD.fits (o : OpD) : Prop := Fits o.n ∧ -9223372036854775808 ≤ o.i ∧ o.i ≤ 9223372036854775807
def OpD.bytes (o : OpD) : List UInt8 := if o.kind = 0 then [UInt8.ofNat (o.n % 256)] else if o.kind = 1 then num o.n else if o.kind = 2 then num (zig o.i) else num o.s.size ++ o.s.data.toList
theorem OpD.length_le (o : OpD) : o.bytes.length ≤ o.s.size + 10 := by
  have h1 := num_length_le o.n
  have h2 := num_length_le (zig o.i)
  have h3 := num_length_le o.s.size
  have h4 : o.s.data.toList.length = o.s.size := by rw [Array.length_toList]; rfl
  unfold OpD.bytes
  split
  · simp
  · split
    · omega
    · split
      · omega
      · rw [List.length_append]; omega

theorem mk_append (l r : List UInt8) : ByteArray.mk l.toArray ++ ByteArray.mk r.toArray = ByteArray.mk (l ++ r).toArray := by
  apply ByteArray.ext
  apply Array.toList_inj.1
  simp [ByteArray.data_append]
theorem run_one (w : World) (x : Int) (b : UInt8) (hx : x = (b.toNat : Int)) :
    (convert 63 9 (.slice (some ⟨w.heap.size, 0, none⟩) 1 1)).run Tryd.prog (w.alloc (.cells #[.int .u8 x] 5)) = .ok (.string ⟨[b].toArray⟩) (w.alloc (.cells #[.int .u8 x] 5)) := by
  subst hx
  refine run_convert_bytes_back _ 63 9 5 ⟨w.heap.size, 0, none⟩ 1 [b] Tryd.underlying63 Tryd.underlying5 Tryd.underlying9 (fun j hj => ?_)
  have hj0 : j = 0 := by simp at hj; exact hj
  subst hj0
  exact cell_of_one (heap_alloc_new w _)

set_option maxHeartbeats 1000000 in
set_option maxRecDepth 100000 in
theorem refNumW_any (w : World) (n : Nat) (hn : Fits n) :
    Calls Tryd.prog 35 #[.int .u64 (n : Int)] w fun e w' => e = .returned (.string ⟨(num n).toArray⟩) ∧ Below w.heap.size w w' := by
  go_enter Tryd.func35, Tryd.ntmps35
  go_wp2
  go_loopw [0, 3] (fun t v wr => ∃ (m : Nat) (pre : List UInt8), t = .int .u64 (m : Int) ∧ v = .string ⟨pre.toArray⟩ ∧ Fits m ∧ pre ++ num m = num n ∧ Below w.heap.size w wr) (fun t _ _ => (intOf t).toNat)
  case atStart => exact ⟨n, [], rfl, rfl, hn, rfl, Below.refl _ _⟩
  case round =>
    obtain ⟨m, pre, rfl, rfl, hm, he, hb⟩ := hrel
    have hpl : pre.length ≤ 9 := by
      have e1 := congrArg List.length he
      have e2 := num_length_le n
      have e3 := enc_length_pos 9 m
      have e4 : (num m).length = (enc 9 m).length := rfl
      simp only [List.length_append] at e1
      omega
    have hps := size_mk pre
    have HE := Lib.hid he
    clear he
    by_cases hlt : m < 128
    · obtain ⟨c, hc⟩ : ∃ c, c = UInt8.ofNat m := ⟨_, rfl⟩
      have hone := run_one wr (m : Int) c (by rw [hc, UInt8.toNat_ofNat']; omega)
      have hos := size_mk [c]
      have HC := Lib.hid hc
      have HB := Lib.hid (hb.alloc hb.size (.cells #[.int .u8 (m : Int)] 5))
      clear hc
      go_wp2
      go_ret
      refine ⟨?_, HB.out⟩
      rw [← HE.out, num_small hlt, ← HC.out, ← mk_append]
      rfl
    · obtain ⟨c, hc⟩ : ∃ c, c = UInt8.ofNat (m % 128 + 128) := ⟨_, rfl⟩
      have hone := run_one wr ((m : Int) % 128 + 128) c (by rw [hc, UInt8.toNat_ofNat']; omega)
      have hos := size_mk [c]
      have HC := Lib.hid hc
      have HB := Lib.hid (hb.alloc hb.size (.cells #[.int .u8 ((m : Int) % 128 + 128)] 5))
      clear hc
      go_wp2
      refine ⟨⟨m / 128, pre ++ [c], ?_, ?_, ?_, ?_, HB.out⟩, ?_⟩
      · unfold Fits at hm
        rw [IntKind.wrap_u64]
        congr 1
        omega
      · rw [← mk_append]
      · unfold Fits at hm ⊢; omega
      · rw [← HE.out, num_big (by omega) hm, List.append_assoc, HC.out]
        rfl
      · unfold Fits at hm
        rw [IntKind.wrap_u64]
        simp [intOf]
        omega

end Go.Proofs.YtfkcmdnnmnkklaaDoor.octet

/-
  The document's decimals of any number. No condition but that it is an int.
-/
namespace Go.Proofs.YtfkcmdnnmnkklaaDoor.need
open Go.RowKit Go.ChangeShapes
open Go.Proofs.YtfkcmdnnmnkklaaDoor.octet (mk_append size_mk)
set_option linter.unusedVariables false

/-- A slice of one byte as a text. -/
theorem run_byte_at (v : World) (b : Nat) (x : Int) (c : UInt8) (hc : (c.toNat : Int) = x) (h : v.cell? ⟨b, 0, none⟩ = some (.int .u8 x)) :
    (convert 63 9 (.slice (some ⟨b, 0, none⟩) 1 1)).run Tryd.prog v = .ok (.string ⟨[c].toArray⟩) v := by
  refine run_convert_bytes_back _ 63 9 5 ⟨b, 0, none⟩ 1 [c] Tryd.underlying63 Tryd.underlying5 Tryd.underlying9 (fun j hj => ?_)
  have hj0 : j = 0 := by simpa using hj
  subst hj0
  rw [← hc] at h
  exact h
theorem ret_str {a b : ByteArray} (h : a = b) : Ending.returned (.string a) = .returned (.string b) := by rw [h]
theorem ret_text {a b : List UInt8} (h : a = b) : Ending.returned (.string ⟨a.toArray⟩) = .returned (.string ⟨b.toArray⟩) := by rw [h]

set_option maxRecDepth 100000 in
set_option maxHeartbeats 400000 in
theorem digs_one (n : Nat) (hn : n < 10) (w : World) :
    Calls Tryd.prog 68 #[.int .i64 (n : Int)] w fun e w' => e = .returned (.string ⟨(digs n).toArray⟩) ∧ Below w.heap.size w w' := by
  obtain ⟨c, hc⟩ : ∃ c, c = UInt8.ofNat (48 + n) := ⟨_, rfl⟩
  have HD : Hid (digs n = [c]) := Lib.hid (by rw [digs_small hn, hc])
  rw [HD.out]
  have hrun := run_byte_at (w.alloc (.cells #[.int .u8 (48 + (n : Int))] 5)) w.heap.size (48 + (n : Int)) c (by rw [hc, UInt8.toNat_ofNat']; omega) (cell_of_one (heap_alloc_new w _))
  have HB := Lib.hid ((Below.refl w.heap.size w).alloc (Nat.le_refl _) (.cells #[.int .u8 (48 + (n : Int))] 5))
  clear hc HD
  go_enter Tryd.func68, Tryd.ntmps68
  go_wp2
  go_ret
  exact ⟨rfl, HB.out⟩

set_option maxRecDepth 100000 in
set_option maxHeartbeats 2000000 in
theorem digs_more (n : Nat) (h10 : ¬ n < 10) (hn : n ≤ 9223372036854775807)
    (hS : ∀ W : World, Calls Tryd.prog 68 #[.int .i64 ((n / 10 : Nat) : Int)] W fun e w' => e = .returned (.string ⟨(digs (n / 10)).toArray⟩) ∧ Below W.heap.size W w') (w : World) :
    Calls Tryd.prog 68 #[.int .i64 (n : Int)] w fun e w' => e = .returned (.string ⟨(digs n).toArray⟩) ∧ Below w.heap.size w w' := by
  obtain ⟨q, hq⟩ : ∃ q : Nat, q = n / 10 := ⟨_, rfl⟩
  obtain ⟨y, hy⟩ : ∃ y : Nat, y = n % 10 := ⟨_, rfl⟩
  rw [← hq] at hS
  have hl := digs_64 (n := q) (by omega)
  have HS := fun W => Lib.hid (hS W)
  have e1 : IntKind.i64.wrap ((n : Int) / 10) = (q : Int) := by rw [IntKind.wrap_i64]; omega
  have e2 : (n : Int).tmod 10 = (y : Int) := by rw [Int.tmod_eq_emod_of_nonneg (by omega)]; omega
  obtain ⟨x, hx⟩ : ∃ x : Int, x = 48 + (y : Int) := ⟨_, rfl⟩
  have e3 : IntKind.i64.wrap (48 + (y : Int)) = x := by rw [hx, IntKind.wrap_i64]; omega
  have e4 : IntKind.u8.wrap x = x := by rw [hx]; simp [IntKind.wrap, IntKind.signed, IntKind.bits]; omega
  obtain ⟨c, hc⟩ : ∃ c, c = UInt8.ofNat (48 + y) := ⟨_, rfl⟩
  have HX : Hid ((c.toNat : Int) = x) := Lib.hid (by rw [hc, UInt8.toNat_ofNat', hx]; omega)
  have HD : Hid (digs n = digs q ++ [c]) := Lib.hid (by rw [digs_big h10, ← hq, ← hy, hc])
  rw [HD.out]
  generalize digs q = dq at *
  have s1 := size_mk dq
  have s2 : (ByteArray.mk #[c]).size = 1 := rfl
  have hr1 : ∀ W : World, (convert 63 9 (.slice (some ⟨W.heap.size, 0, none⟩) 1 1)).run Tryd.prog (W.alloc (.cells #[.int .u8 x] 5)) = .ok (.string ⟨[c].toArray⟩) (W.alloc (.cells #[.int .u8 x] 5)) := fun W => run_byte_at _ _ x c HX.out (cell_of_one (heap_alloc_new W _))
  have hr2 := fun v b => run_byte_at v b x c HX.out
  have hd : decide ((n : Int) < 10) = false := by simp; omega
  clear hS hq hy hx hc h10 hn HD
  go_enter Tryd.func68, Tryd.ntmps68
  go_wp2_with fail
  go_region_with ((go_at_call 68; refine (HS _).out.mono ?_; rintro e w2 ⟨rfl, hb2⟩; (try (have hcc : w2.cell? ⟨w.heap.size, 0, none⟩ = some (.int .u8 x) := (hb2.cell (p := ⟨w.heap.size, 0, none⟩) (by simp)).trans (cell_of_one (heap_alloc_new w _))))))
  all_goals go_wp2
  all_goals
    go_ret
    refine ⟨ret_str (mk_append dq [c]), ?_⟩
    first
      | exact (((Below.refl w.heap.size w).drew.trans hb2).alloc hb2.size _)
      | exact (((Below.refl w.heap.size w).alloc (Nat.le_refl _) _).drew.trans (hb2.mono (by simp)))
/-- The document's decimals. -/
theorem refDigs_any : ∀ k (n : Nat), n < k → n ≤ 9223372036854775807 → ∀ w : World,
    Calls Tryd.prog 68 #[.int .i64 (n : Int)] w fun e w' => e = .returned (.string ⟨(digs n).toArray⟩) ∧ Below w.heap.size w w' := by
  intro k
  induction k with
  | zero => intro n hn; omega
  | succ k ih =>
    intro n hn h w
    by_cases h10 : n < 10
    · exact digs_one n h10 w
    · exact digs_more n h10 h (fun W => ih (n / 10) (by omega) (by omega) W) w
theorem intT_least : intT (-9223372036854775808) = [45, 57, 50, 50, 51, 51, 55, 50, 48, 51, 54, 56, 53, 52, 55, 55, 53, 56, 48, 56] := by
  unfold intT
  rw [if_pos (by omega)]
  have e : (-(-9223372036854775808 : Int)).toNat = 9223372036854775808 := rfl
  rw [e]
  rw [digs_big (by decide), digs_big (by decide), digs_big (by decide), digs_big (by decide), digs_big (by decide), digs_big (by decide), digs_big (by decide), digs_big (by decide), digs_big (by decide), digs_big (by decide), digs_big (by decide), digs_big (by decide), digs_big (by decide), digs_big (by decide), digs_big (by decide), digs_big (by decide), digs_big (by decide), digs_big (by decide), digs_small (by decide)]
  rfl
set_option maxRecDepth 100000 in
set_option maxHeartbeats 400000 in
theorem refInt9_any (n : Int) (hn : -9223372036854775808 ≤ n ∧ n ≤ 9223372036854775807) (w : World) :
    Calls Tryd.prog 42 #[.int .i64 n] w fun e w' => e = .returned (.string ⟨(intT n).toArray⟩) ∧ Below w.heap.size w w' := by
  by_cases h0 : n = -9223372036854775808
  · subst h0
    have HE := Lib.hid intT_least
    rw [HE.out]
    go_enter Tryd.func42, Tryd.ntmps42
    go_wp2_with fail
    go_ret
    exact ⟨rfl, Below.refl _ _⟩
  · have hb : (n == -9223372036854775808) = false := by simpa using h0
    by_cases h1 : n < 0
    · obtain ⟨m, hm⟩ : ∃ m : Nat, (m : Int) = -n := ⟨(-n).toNat, by omega⟩
      have HE : Hid (intT n = [45] ++ digs m) := Lib.hid (by unfold intT; rw [if_pos h1, ← hm, Int.toNat_natCast]; rfl)
      have HD := fun W => Lib.hid (refDigs_any (m + 1) m (by omega) (by omega) W)
      rw [HE.out]
      have hd : decide (n < 0) = true := by simpa using h1
      have hw : IntKind.i64.wrap (-n) = (m : Int) := by rw [IntKind.wrap_i64]; omega
      have hl := digs_64 (n := m) (by omega)
      generalize digs m = dq at *
      have s1 := size_mk dq
      have s2 : (ByteArray.mk #[45]).size = 1 := rfl
      clear hn h0 HE h1 hm
      go_enter Tryd.func42, Tryd.ntmps42
      go_wp2_with fail
      refine (HD _).out.mono ?_
      rintro e w1 ⟨rfl, hb1⟩
      go_wp2
      go_ret
      exact ⟨ret_str (mk_append [45] dq), hb1⟩
    · have HE : Hid (intT n = digs n.toNat) := Lib.hid (by unfold intT; rw [if_neg h1])
      obtain ⟨m, rfl⟩ : ∃ m : Nat, n = (m : Int) := ⟨n.toNat, by omega⟩
      have HD := fun W => Lib.hid (refDigs_any (m + 1) m (by omega) (by omega) W)
      rw [HE.out, Int.toNat_natCast]
      have hd : decide ((m : Int) < 0) = false := by simp
      clear hn h0 HE h1
      generalize digs m = dq at *
      go_enter Tryd.func42, Tryd.ntmps42
      go_wp2_with fail
      refine (HD _).out.mono ?_
      rintro e w1 ⟨rfl, hb1⟩
      go_wp2
      go_ret
      exact ⟨rfl, hb1⟩
end Go.Proofs.YtfkcmdnnmnkklaaDoor.need

/-
  The document's own bytes of a wait. No condition but that its numbers are small.
-/
namespace Go.Proofs.YtfkcmdnnmnkklaaDoor.need
open Go.RowKit Go.ChangeShapes
open Go.Proofs.YtfkcmdnnmnkklaaDoor.octet (mk_append size_mk refNumW_any num num_length_le Fits)
open Go.Proofs.YtfkcmdnnmnkklaaDoor.objs (De zero CellsAt DAt)
set_option linter.unusedVariables false

/-- What the bytes of a need ask of its numbers. -/
def Slim9 (n : De) : Prop := (1 ≤ n.1 ∧ n.1 ≤ 5) ∧ (0 ≤ n.2.1 ∧ n.2.1 ≤ 1000) ∧ (0 ≤ n.2.2 ∧ n.2.2 ≤ 1000)
/-- While a need is put: the wait, and the need that is put, in a block of its own. -/
structure P9 (w : World) (A : Option Addr) (l : List (List De)) (g : Nat) (k a b : Int) (W : World) : Prop where
  list : WAt W A l
  below : Below w.heap.size w W
  box : W.heap[g]? = some (needBox k a b)
theorem P9.next {w W W' : World} {A : Option Addr} {l : List (List De)} {g : Nat} {k a b : Int} (h : P9 w A l g k a b W) (hb : Below W.heap.size W W') : P9 w A l g k a b W' :=
  ⟨h.list.next hb, h.below.trans (hb.mono h.below.size), (hb.block g (lt_of_block h.box)).trans h.box⟩
theorem P9.cells {w W : World} {A : Option Addr} {l : List (List De)} {g : Nat} {k a b : Int} (h : P9 w A l g k a b W) :
    W.cell? ⟨g, 0, none⟩ = some (.int .i64 k) ∧ W.cell? ⟨g, 1, none⟩ = some (.int .i64 a) ∧ W.cell? ⟨g, 2, none⟩ = some (.int .i64 b) := by
  unfold World.cell?
  rw [h.box]
  exact ⟨rfl, rfl, rfl⟩
theorem p9_new {w wr : World} {A : Option Addr} {l : List (List De)} (k a b : Int) (hA : WAt wr A l) (hb : Below w.heap.size w wr) : P9 w A l wr.heap.size k a b (wr.alloc (needBox k a b)) :=
  ⟨hA.next ((Below.refl _ _).alloc (Nat.le_refl _) _), hb.alloc hb.size _, heap_alloc_new wr _⟩

set_option maxRecDepth 100000 in
set_option maxHeartbeats 16000000 in
theorem refPut9_any (A : Option Addr) (cap : Nat) (l : List (List De)) (hl : l.length ≤ 6) (hll : ∀ x ∈ l, x.length ≤ 6) (hs : ∀ x ∈ l, ∀ t ∈ x, Slim9 t) (w : World) (hA : WAt w A l) :
    Calls Tryd.prog 16 #[.slice A l.length cap] w fun e w' => e = .returned (.string ⟨(encW l).toArray⟩) ∧ Below w.heap.size w w' := by
  have HL := Lib.hid hll
  have HS := Lib.hid hs
  have HW : Hid (encW l = num l.length ++ encWs l l.length) := Lib.hid rfl
  rw [HW.out]
  have HN := fun W (m : Nat) (hm : m ≤ 1000) => Lib.hid (refNumW_any W m (by unfold Fits; omega))
  have HA := Lib.hid hA
  clear hA hs hll HW
  have HN0 := HN w l.length (by omega)
  have hwl := num_length_le l.length
  go_enter Tryd.func16, Tryd.ntmps16
  go_wp2_with fail
  refine HN0.out.mono ?_
  rintro e w1 ⟨rfl, hb1⟩
  have HB1 := Lib.hid hb1
  clear hb1 HN0
  go_wp2_with fail
  go_loopw [3, 4] (fun t i wr => ∃ j : Nat, j ≤ l.length ∧ i = .int .i64 (j : Int) ∧ t = .string ⟨(num l.length ++ encWs l j).toArray⟩ ∧ Hid (Below w.heap.size w wr)) (fun _ i _ => l.length - (intOf i).toNat)
  case atStart => exact ⟨0, Nat.zero_le _, rfl, by simp [encWs], HB1⟩
  case round =>
    obtain ⟨j, hj, rfl, rfl, HB⟩ := hrel
    by_cases hlt : j < l.length
    · obtain ⟨b, off, Aj, cj, rfl, hbl, hc, hdj⟩ := (HA.out.next HB.out) j hlt
      have HD0 := Lib.hid (HA.out j hlt)
      have hlt' : (j : Int) < (l.length : Int) := by omega
      have hj0 : (0 : Int) ≤ (j : Int) := by omega
      have hlj := HL.out _ (getW_mem hlt)
      have HSj := Lib.hid (HS.out _ (getW_mem hlt))
      have HE : Hid (num l.length ++ encWs l (j + 1) = (num l.length ++ encWs l j) ++ num (l.getD j []).length ++ encNs (l.getD j []) (l.getD j []).length) := Lib.hid (by simp only [encWs, encWay, List.append_assoc])
      have hpre : (num l.length ++ encWs l j).length ≤ 1000 := by
        have h2 := encWs_le HL.out j (by omega)
        rw [List.length_append]
        omega
      generalize num l.length ++ encWs l j = pre at *
      generalize hgj : l.getD j [] = lj at *
      have HNj := HN wr lj.length (by omega)
      have hwj := num_length_le lj.length
      have hs1 := size_mk pre
      have hs2 := size_mk (num lj.length)
      have hpn : (pre ++ num lj.length).length ≤ 1010 := by rw [List.length_append]; omega
      have HPN : Hid (ByteArray.mk pre.toArray ++ ByteArray.mk (num lj.length).toArray = ByteArray.mk (pre ++ num lj.length).toArray) := Lib.hid (mk_append _ _)
      go_wp2_with fail
      refine HNj.out.mono ?_
      rintro e w2 ⟨rfl, hb2⟩
      have HB2 := Lib.hid (HB.out.trans (hb2.mono HB.out.size))
      clear hb2 HNj hc hdj
      go_wp2_with fail
      simp only [HPN.out]
      generalize pre ++ num lj.length = pn at *
      go_loopw [3, 5] (fun t i wr => ∃ k : Nat, k ≤ lj.length ∧ i = .int .i64 (k : Int) ∧ t = .string ⟨(pn ++ encNs lj k).toArray⟩ ∧ Hid (Below w.heap.size w wr)) (fun _ i _ => lj.length - (intOf i).toNat)
      case atStart => exact ⟨0, Nat.zero_le _, rfl, by simp [encNs], HB2⟩
      case round =>
        obtain ⟨k, hk, rfl, rfl, HBk⟩ := hrel
        obtain ⟨bA, offA, AjA, cjA, hAe, hblA, hcA, hdA⟩ := (HA.out.next HBk.out) j hlt
        injection hAe with hAe
        injection hAe with hAe1 hAe2
        subst hAe1 hAe2
        rw [hgj] at hcA hdA
        by_cases hlk : k < lj.length
        · obtain ⟨b2, off2, rfl, hbl2, c0, c1, c2⟩ := hdA k hlk
          have hlk' : (k : Int) < (lj.length : Int) := by omega
          have hk0 : (0 : Int) ≤ (k : Int) := by omega
          have hsl := HSj.out _ (getD_mem hlk)
          have HEk : Hid (pn ++ encNs lj (k + 1) = (pn ++ encNs lj k) ++ encN (lj.getD k zero)) := Lib.hid (by simp only [encNs, List.append_assoc])
          have hpk : (pn ++ encNs lj k).length ≤ 1200 := by
            have h2 := encNs_le lj k
            rw [List.length_append]
            omega
          generalize pn ++ encNs lj k = pk at *
          generalize lj.getD k zero = t at *
          obtain ⟨tk, tob, tn⟩ := t
          obtain ⟨⟨g1, g2⟩, ⟨g3, g4⟩, g5, g6⟩ := hsl
          dsimp only at g1 g2 g3 g4 g5 g6 c0 c1 c2 HEk
          obtain ⟨mo, rfl⟩ : ∃ m : Nat, tob = (m : Int) := ⟨tob.toNat, by omega⟩
          obtain ⟨mn, rfl⟩ : ∃ m : Nat, tn = (m : Int) := ⟨tn.toNat, by omega⟩
          have HP := Lib.hid (p9_new (k := tk) (a := (mo : Int)) (b := (mn : Int)) (HA.out.next HBk.out) HBk.out)
          have hmo : mo ≤ 1000 := by omega
          have hmn : mn ≤ 1000 := by omega
          unfold needBox at HP
          obtain ⟨bk, hbk⟩ : ∃ bk, bk = UInt8.ofNat tk.toNat := ⟨_, rfl⟩
          have hx : (bk.toNat : Int) = tk := by rw [hbk, UInt8.toNat_ofNat']; omega
          have HEn : Hid (pk ++ encN (tk, (mo : Int), (mn : Int)) = ((pk ++ [bk]) ++ num mo) ++ pieceN tk (mn : Int)) := Lib.hid (by rw [hbk]; simp [encN])
          have hu8 : IntKind.u8.wrap tk = tk := by simp [IntKind.wrap, IntKind.signed, IntKind.bits]; omega
          have hwm : IntKind.u64.wrap (mo : Int) = (mo : Int) := by rw [IntKind.wrap_u64]; omega
          have hr1 : ∀ W : World, (convert 63 9 (.slice (some ⟨W.heap.size, 0, none⟩) 1 1)).run Tryd.prog (W.alloc (.cells #[.int .u8 tk] 5)) = .ok (.string ⟨[bk].toArray⟩) (W.alloc (.cells #[.int .u8 tk] 5)) := fun W => run_byte_at _ _ tk bk hx (cell_of_one (heap_alloc_new W _))
          have hr2 := fun v b => run_byte_at v b tk bk hx
          have HNo := fun W => HN W mo hmo
          have HNn := fun W => HN W mn hmn
          have hwo := num_length_le mo
          have hwn := num_length_le mn
          have z1 := size_mk pk
          have z2 : (ByteArray.mk #[bk]).size = 1 := rfl
          have z3 := size_mk (num mo)
          have z4 : (ByteArray.mk pk.toArray ++ ByteArray.mk #[bk]).size = pk.length + 1 := by rw [show (ByteArray.mk #[bk]) = ByteArray.mk [bk].toArray from rfl, mk_append, size_mk, List.length_append]; rfl
          have HM1 : Hid (ByteArray.mk pk.toArray ++ ByteArray.mk #[bk] ++ ByteArray.mk (num mo).toArray = ByteArray.mk ((pk ++ [bk]) ++ num mo).toArray) := Lib.hid (by rw [show (ByteArray.mk #[bk]) = ByteArray.mk [bk].toArray from rfl, mk_append, mk_append])
          have hpq : (((pk ++ [bk]) ++ num mo)).length ≤ 1211 := by rw [List.length_append, List.length_append]; simp; omega
          have HPN : Hid (pieceN tk (mn : Int) = if 3 < tk then num mn else []) := Lib.hid (by unfold pieceN; rw [Int.toNat_natCast])
          generalize num mo = no at *
          clear hbk hx HN
          go_upto_region 10 with fail
          clear c0 c1 c2 hcA hdA
          generalize wr.alloc (.cells #[.int .i64 tk, .int .i64 (mo : Int), .int .i64 (mn : Int)] 59) = W4 at *
          generalize wr.heap.size = g at *
          go_cut [3, 6] (fun s p wx => s = .string ⟨((pk ++ [bk]) ++ no).toArray⟩ ∧ p = .pointer (some ⟨g, 0, none⟩) ∧ Hid (P9 w (some ⟨b, off, none⟩) l g tk (mo : Int) (mn : Int) wx))
          case first =>
            obtain ⟨d0, d1, d2⟩ := HP.out.cells
            have hgl : g < W4.heap.size := lt_of_block HP.out.box
            go_region_with ((go_at_call 35; refine (HNo _).out.mono ?_; rintro e w5 ⟨rfl, hb5⟩; (try (have hcc : w5.cell? ⟨W4.heap.size, 0, none⟩ = some (.int .u8 tk) := (hb5.cell (p := ⟨W4.heap.size, 0, none⟩) (by simp)).trans (cell_of_one (heap_alloc_new W4 _)))); (try (have q0 : w5.cell? ⟨g, 0, none⟩ = some (.int .i64 tk) := (hb5.cell (p := ⟨g, 0, none⟩) hgl).trans d0))))
            all_goals
              first
                | (have HP5 := Lib.hid (HP.out.next (((Below.refl W4.heap.size W4).drew.trans hb5).alloc hb5.size (.cells #[.int .u8 tk] 5))); clear hb5; go_wp2_with fail; go_meet; exact ⟨by rw [HM1.out], rfl, HP5⟩)
                | (have HP5 := Lib.hid (HP.out.next (((Below.refl W4.heap.size W4).alloc (Nat.le_refl _) (.cells #[.int .u8 tk] 5)).drew.trans (hb5.mono (by simp)))); clear hb5; go_wp2_with fail; go_meet; exact ⟨by rw [HM1.out], rfl, HP5⟩)
          case rest =>
            obtain ⟨rfl, rfl, HP5⟩ := hcut
            generalize (pk ++ [bk]) ++ no = pq at *
            have zq := size_mk pq
            have zn := size_mk (num mn)
            have hwm2 : IntKind.u64.wrap (mn : Int) = (mn : Int) := by rw [IntKind.wrap_u64]; omega
            clear HM1 HP hr1 hr2 z1 z2 z3 z4 hu8 hwm HNo
            (rename (∀ (a : Act) (w : World), Code.wp _ _ _ a w → _) => hK; refine hK _ _ ?_; clear hK; apply wp_seq_k; intro _ _)
            obtain ⟨d0, d1, d2⟩ := HP5.out.cells
            by_cases h3 : 3 < tk
            · have q3 : decide (3 < tk) = true := by simpa using h3
              have HF : Hid (pk ++ encN (tk, (mo : Int), (mn : Int)) = pq ++ num mn) := Lib.hid (by rw [HEn.out, HPN.out, if_pos h3])
              clear h3 HEn HPN
              generalize num mn = nn at *
              go_wp2_with fail
              refine (HNn _).out.mono ?_
              rintro e w6 ⟨rfl, hb6⟩
              have HB6 := Lib.hid (HP5.out.next hb6).below
              clear hb6
              go_wp2
              go_roundw
              case rel => exact ⟨k + 1, by omega, by go_num, by rw [HEk.out, HF.out, ← mk_append], HB6⟩
              case measure => simp [intOf]; omega
            · have q3 : decide (3 < tk) = false := by simpa using h3
              have HF : Hid (pk ++ encN (tk, (mo : Int), (mn : Int)) = pq) := Lib.hid (by rw [HEn.out, HPN.out, if_neg h3, List.append_nil])
              clear h3 HEn HPN
              have HB6 := Lib.hid HP5.out.below
              go_wp2
              go_roundw
              case rel => exact ⟨k + 1, by omega, by go_num, by rw [HEk.out, HF.out], HB6⟩
              case measure => simp [intOf]; omega
        · obtain rfl : k = lj.length := by omega
          go_wp2_with fail
          go_roundw
          case rel => exact ⟨j + 1, by omega, by go_num, by rw [HE.out], HBk⟩
          case measure => simp [intOf]; omega
    · obtain rfl : j = l.length := by omega
      go_wp2_with fail
      go_ret
      exact ⟨rfl, HB.out⟩
end Go.Proofs.YtfkcmdnnmnkklaaDoor.need

/-
  The writer's calls once more, with what else stays as it was: every block that holds no bytes and is not the writer itself. No condition but that the bytes are fewer than a slice can hold.
-/
namespace Go.Proofs.YtfkcmdnnmnkklaaDoor.octet
open Go.RowKit Go.ChangeShapes
set_option linter.unusedVariables false

/-- A block that is no row of bytes. -/
def NoBytes (o : Obj) : Prop := ∀ cur q, o ≠ .cells cur 5 q
/-- What holds no bytes, and is not at bo, has stayed. -/
def Spare (bo : Nat) (w w' : World) : Prop := ∀ k o, w.heap[k]? = some o → k ≠ bo → NoBytes o → w'.heap[k]? = some o
theorem Spare.refl (bo : Nat) (w : World) : Spare bo w w := fun _ _ h _ _ => h
theorem Spare.trans {bo : Nat} {a b c : World} (h : Spare bo a b) (k : Spare bo b c) : Spare bo a c := fun i o h1 h2 h3 => k i o (h i o h1 h2 h3) h2 h3
theorem Spare.store {base bo : Nat} {l xs : List Value} {n : Nat} {w W w1 : World} {v v' : Value} (hown : w.ownsRow base 5 1 v n xs) (hW : ∀ k, k < w.heap.size → W.heap[k]? = w.heap[k]?) (hs : w.heap.size ≤ W.heap.size) (hg : W.grownBy w1 v.ownBlock) : Spare bo w (w1.setCell ⟨bo, 0, none⟩ v') := by
  intro k o h1 h2 h3
  have hlt := lt_of_block h1
  have hne : some k ≠ v.ownBlock := by
    intro e
    rcases hown.2 with ⟨rfl, _⟩ | ⟨g, cap, cur, rfl, _, hh, _⟩
    · cases e
    · simp [Value.ownBlock] at e
      subst e
      rw [h1] at hh
      exact h3 _ _ (Option.some.inj hh)
  rw [Below.heap_setCell _ _ _ _ (show k ≠ bo from h2), hg.block k (by omega) (fun e => hne e), hW k hlt]
  exact h1

set_option maxHeartbeats 400000 in
theorem byte_keep (w : World) (base bo : Nat) (l : List UInt8) (n : Int) (h : OutAt w base bo l) (hl : l.length + 1 ≤ 140737488355328) :
    Calls Tryd.prog 55 #[.pointer (some ⟨bo, 0, none⟩), .int .i64 n] w fun e w' => e = .returned (.tuple #[]) ∧ OutAt w' base bo (l ++ [bof n]) ∧ Frm base bo w w' ∧ Spare bo w w' := by
  obtain ⟨v, h1, h2, h3, h4⟩ := h
  obtain ⟨i0, hi, hz0, hz1, hz2⟩ := info_parts info5
  have hc := cell_of_one h1
  have hf := free_of_one h1
  go_enter Tryd.func55, Tryd.ntmps55
  go_wp2_with (
    at_builtin
    refine wpList_append_own _ rfl (.tmp 10) (.tmp 13) _ rfl base 5 i0 _ 1 1 Tryd.underlying63 hi hz0 hz1 hz2 rfl (by omega) v l.length (cells l) rfl (h2.alloc _)
      ⟨w.heap.size, 0, none⟩ 1 1 [.int .u8 (n % 256)] rfl rfl ?c1 ?c2 ?c3 ?c4 ?c5 ?_)
  case c1 =>
    intro j u hu
    rcases j with _ | j
    · simp only [List.getElem?_cons_zero, Option.some.injEq] at hu
      subst hu
      exact cell_of_one (heap_alloc_new w _)
    · simp at hu
  case c2 => intro u hu; simp only [List.mem_singleton] at hu; subst hu; rfl
  case c3 => simp only [maxLen]; omega
  case c4 => omega
  case c5 => simp; omega
  intro v' w1 hown hg _
  have hs := out_store (r := [bof n]) h1 h2 h3 h4 ⟨_, .inl rfl⟩ (by simpa [cells, bof_cell] using hown) hg
  have HP : Hid (Spare bo w (w1.setCell ⟨bo, 0, none⟩ v')) := Lib.hid (Spare.store (base := base) (l := []) (xs := cells l) (n := l.length) h2 (fun k hk => Below.heap_alloc _ _ _ hk) (by simp) hg)
  have hc1 := cell_of_one hs.1
  have hf1 := free_of_one hs.1
  obtain ⟨_, hs2, hs3⟩ := hs
  obtain ⟨A', m', c', rfl⟩ := own_slice hown
  go_wp2
  go_end0
  exact ⟨rfl, hs2, hs3, HP.out⟩

set_option maxHeartbeats 400000 in
theorem num_keep (w : World) (base bo : Nat) (l : List UInt8) (n : Nat) (hn : Fits n) (h : OutAt w base bo l) (hl : l.length + 10 ≤ 140737488355328) :
    Calls Tryd.prog 30 #[.pointer (some ⟨bo, 0, none⟩), .int .u64 (n : Int)] w fun e w' => e = .returned (.tuple #[]) ∧ OutAt w' base bo (l ++ num n) ∧ Frm base bo w w' ∧ Spare bo w w' := by
  go_enter Tryd.func30, Tryd.ntmps30
  go_wp2
  go_loopw [1] (fun t wr => ∃ (m : Nat) (pre : List UInt8), t = .int .u64 (m : Int) ∧ Fits m ∧ pre ++ num m = num n ∧ OutAt wr base bo (l ++ pre) ∧ Frm base bo w wr ∧ Hid (Spare bo w wr)) (fun t _ => (intOf t).toNat)
  case atStart => exact ⟨n, [], rfl, hn, rfl, by simpa using h, Frm.refl _ _ _, Lib.hid (Spare.refl _ _)⟩
  case round =>
    obtain ⟨m, pre, rfl, hm, he, ho, hfr, HQ⟩ := hrel
    have hpl : (l ++ pre).length + 1 ≤ 140737488355328 := by
      have e1 := congrArg List.length he
      have e2 := num_length_le n
      have e3 := enc_length_pos 9 m
      have e4 : (num m).length = (enc 9 m).length := rfl
      simp only [List.length_append] at e1 ⊢
      omega
    have HE := Lib.hid he
    clear he
    by_cases hlt : m < 128
    · go_wp2_with fail
      refine (byte_keep _ base bo (l ++ pre) _ ho hpl).mono ?_
      rintro e w1 ⟨rfl, ho1, hf1, hp1⟩
      have HP := Lib.hid (HQ.out.trans hp1)
      clear hp1
      go_wp2
      go_end0
      refine ⟨rfl, ?_, hfr.trans hf1, HP.out⟩
      rw [← HE.out, num_small hlt, ← List.append_assoc]
      rw [bof_nat] at ho1
      exact ho1
    · go_wp2_with fail
      rw [or_and_u64 m hm]
      refine (byte_keep _ base bo (l ++ pre) _ ho hpl).mono ?_
      rintro e w1 ⟨rfl, ho1, hf1, hp1⟩
      have HP := Lib.hid (HQ.out.trans hp1)
      clear hp1
      go_wp2
      refine ⟨⟨m / 128, pre ++ [UInt8.ofNat (m % 128 + 128)], ?_, ?_, ?_, ?_, hfr.trans hf1, HP⟩, ?_⟩
      · congr 1
      · unfold Fits at hm ⊢; omega
      · rw [← HE.out, num_big (by omega) hm, List.append_assoc]
        rfl
      · rw [← List.append_assoc, ← bof_nat]; exact ho1
      · simp [intOf]; omega

set_option maxHeartbeats 400000 in
theorem int_keep (w : World) (base bo : Nat) (l : List UInt8) (n : Int) (h1 : -9223372036854775808 ≤ n) (h2 : n ≤ 9223372036854775807) (ho : OutAt w base bo l) (hl : l.length + 10 ≤ 140737488355328) :
    Calls Tryd.prog 100 #[.pointer (some ⟨bo, 0, none⟩), .int .i64 n] w fun e w' => e = .returned (.tuple #[]) ∧ OutAt w' base bo (l ++ num (zig n)) ∧ Frm base bo w w' ∧ Spare bo w w' := by
  by_cases hlt : n < 0
  · go_enter Tryd.func100, Tryd.ntmps100
    go_wp2_with fail
    rw [zig_neg n h1 hlt]
    refine (num_keep _ base bo l (zig n) (zig_lt h1 h2) ho hl).mono ?_
    rintro e w1 ⟨rfl, ho1, hf1, hp1⟩
    have HP := Lib.hid hp1
    clear hp1
    go_wp2
    refine bodyPost_ret (results_none rfl _ _ _) rfl ?_
    exact ⟨rfl, ho1, hf1, HP.out⟩
  · go_enter Tryd.func100, Tryd.ntmps100
    go_wp2_with fail
    rw [zig_pos n (by omega)]
    refine (num_keep _ base bo l (zig n) (zig_lt h1 h2) ho hl).mono ?_
    rintro e w1 ⟨rfl, ho1, hf1, hp1⟩
    have HP := Lib.hid hp1
    clear hp1
    go_wp2
    go_end0
    exact ⟨rfl, ho1, hf1, HP.out⟩

end Go.Proofs.YtfkcmdnnmnkklaaDoor.octet
