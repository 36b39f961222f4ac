/-
  The reader's numbers with a sign, and texts: what bytes are read as one, and the first error. The reader lies in a block of its own, holds no bytes behind an error, and at most two to the forty-seventh of them.
-/
import Derived.Test.YtlbnmlcdjkaiiaaInNum
import Derived.Lib.Strings
import Derived.Lib.Walk
import Derived.Lib.BufferWrite
import Derived.Lib.UnsafeStr
import Derived.Laws.MakeOwn
namespace Go.Proofs.Ytlbnmlcdjkaiiaa.octet
open Go.RowKit Go.ChangeShapes
set_option linter.unusedVariables false

theorem info5' : (Try.prog.info? 5).map (fun i => (i.zero, i.size, i.bytes)) = some (some (.int .u8 0), 1, 1) := by kernel_rfl

theorem i64_not_nat (a : Nat) (ha : a < 9223372036854775808) : bits .xor .i64 (-1) (a : Int) = -(a : Int) - 1 := by
  show IntKind.i64.wrap ((BitVec.ofInt 64 (-1) ^^^ BitVec.ofInt 64 (a : Int)).toNat : Int) = _
  have h1 : BitVec.ofInt 64 (-1) = BitVec.allOnes 64 := by decide
  rw [h1, BitVec.allOnes_xor, BitVec.toNat_not, ofInt_u64 a (by omega)]
  simp only [IntKind.wrap_i64]
  omega
theorem and1_u64 (v : Nat) (hv : v < 18446744073709551616) : bits .and .u64 (v : Int) 1 = ((v % 2 : Nat) : Int) := by
  rw [← nat_mask1]; exact u64_and_nat v 1 hv (by omega)

set_option maxHeartbeats 1000000 in
theorem intIn_any (w : World) (bi : Nat) (s : St) (hi : InAt w bi s) (hok : s.ok) (hl : s.rest.length ≤ 140737488355328) :
    Calls Try.prog 19 #[.pointer (some ⟨bi, 0, none⟩)] w fun r w' => r = .returned (.int .i64 (rdInt s).1) ∧ InAt w' bi (rdInt s).2 ∧ Frm w.heap.size bi w w' := by
  have hlt := rdNum_lt s
  have HN := Lib.hid (numIn_any w bi s hi hok hl)
  have HI : Hid (rdInt s = (zag (rdNum s).1, (rdNum s).2)) := rfl
  generalize rdNum s = p at *
  obtain ⟨v, s1⟩ := p
  have hlt' : v < 18446744073709551616 := hlt
  have hand := and1_u64 v hlt'
  have HX : Hid (bits .xor .i64 (-1) ((v : Int) / 2) = -((v / 2 : Nat) : Int) - 1) := Lib.hid (i64_not_nat (v / 2) (by omega))
  by_cases hv : v % 2 = 1
  · rw [hv] at hand
    have hfin : zag v = -((v / 2 : Nat) : Int) - 1 := by unfold zag; rw [if_pos hv]
    have HZ := Lib.hid hfin
    have HV := Lib.hid hv
    clear hfin hv
    go_enter Try.func19, Try.ntmps19
    go_wp2_with fail
    refine HN.out.mono ?_
    rintro e w1 ⟨rfl, hi1, hf1⟩
    go_wp2
    go_ret
    rw [HI.out]
    refine ⟨?_, hi1, hf1⟩
    rw [show (zag v, s1).1 = zag v from rfl, HZ.out]
    exact congrArg (fun x => Ending.returned (Value.int .i64 x)) HX.out
  · have hv0 : v % 2 = 0 := by omega
    rw [hv0] at hand
    have hfin : zag v = ((v / 2 : Nat) : Int) := by unfold zag; rw [if_neg hv]
    have HZ := Lib.hid hfin
    have HV := Lib.hid hv
    clear hfin hv hv0
    go_enter Try.func19, Try.ntmps19
    go_wp2_with fail
    refine HN.out.mono ?_
    rintro e w1 ⟨rfl, hi1, hf1⟩
    go_wp2
    go_ret
    rw [HI.out]
    refine ⟨?_, hi1, hf1⟩
    rw [show (zag v, s1).1 = zag v from rfl, HZ.out]
    rfl

set_option maxHeartbeats 4000000 in
theorem clone_any (s : ByteArray) (w : World) (hlim : s.size ≤ 140737488355328) :
    Calls Try.prog 36 #[.string s] w fun e w' => e = .returned (.string s) ∧ Below w.heap.size w w' := by
  by_cases h0 : s.size = 0
  · have hs : s = ⟨#[]⟩ := by
      apply ByteArray.ext
      exact Array.eq_empty_of_size_eq_zero h0
    subst hs
    go_enter Try.func36, Try.ntmps36
    go_wp2
    go_ret
    exact ⟨rfl, Below.refl _ _⟩
  · obtain ⟨i0, hi, hz0, hz1, hz2⟩ := info_parts info5'
    have hinfo : (Try.prog.info? 5).map (·.size) = some 1 := by rw [hi]; simp [hz1]
    have hco : Try.prog.cellsOf 5 = 1 := by simp [Program.cellsOf, hi, hz1]
    obtain ⟨M, hM⟩ : ∃ M, M = madeCells (Value.int .u8 0).cells (((s.size : Nat) : Int).toNat * i0.size) := ⟨_, rfl⟩
    have hMs : M.size = s.size := by rw [hM, size_madeCells, hz1]; simp
    have hmk : ∀ W : World, (Instr.makeSlice 24 (.int .i64 (s.size : Int)) (.int .i64 (s.size : Int))).run Try.prog W = .ok (.slice (some ⟨W.heap.size, 0, none⟩) s.size s.size) (W.alloc (.cells M 5)) := fun W => by
      have h := run_make (P := Try.prog) W 24 5 i0 (.int .u8 0) Try.underlying24 hi hz0 .i64 .i64 (s.size : Int) (s.size : Int) (by omega) (by omega) (by rw [hz2]; omega) (by omega)
      rw [← hM] at h
      simpa using h
    clear hM
    have hcp := Lib.run_copy_row_string (P := Try.prog) (w.alloc (.cells M 5)) 24 9 3 5 w.heap.size 0 s.size s.size s M 5 Try.underlying24 hinfo (heap_alloc_new w _) (Nat.le_refl _) (by omega)
    obtain ⟨Y, hY⟩ : ∃ Y, Y = (M.toList.take 0 ++ Lib.byteCells s.data.toList ++ M.toList.drop (0 + s.size)).toArray := ⟨_, rfl⟩
    rw [← hY] at hcp
    have hYl : Y.toList = Lib.byteCells s.data.toList := by
      rw [hY, List.toList_toArray, List.take_zero, List.nil_append, List.drop_of_length_le (by rw [Array.length_toList]; omega), List.append_nil]
    have hYs : Y.size = s.size := by rw [← Array.length_toList, hYl, Lib.byteCells_length, ← Lib.size_eq]
    have hgY : ((w.alloc (.cells M 5)).setRow w.heap.size Y).heap[w.heap.size]? = some (.cells Y 5 (0, 0)) := setRow_heap _ _ M _ 5 (0, 0) (heap_alloc_new w _)
    have hne : s.data.toList ≠ [] := fun e => h0 (by rw [Lib.size_eq, e]; rfl)
    have hUS := Lib.run_unsafeString_row (P := Try.prog) ((w.alloc (.cells M 5)).setRow w.heap.size Y) 67 3 9 5 Try.underlying67 hco w.heap.size Y.size (by unfold World.shape?; rw [hgY]) s.data.toList hne (by rw [← Lib.size_eq]; omega) (by rw [← Lib.size_eq]; omega)
      (fun j x hx => Lib.cells_of_row hgY Y.size j _ (by rw [List.take_of_length_le (by rw [Array.length_toList]; exact Nat.le_refl _), hYl]; simp [Lib.byteCells, hx]))
    rw [← Lib.size_eq] at hUS
    clear hY
    go_enter Try.func36, Try.ntmps36
    go_wp2
    go_ret
    have hb1 : Below w.heap.size w (w.alloc (.cells M 5)) := (Below.refl _ w).alloc (Nat.le_refl _) _
    have hb2 : Below w.heap.size (w.alloc (.cells M 5)) ((w.alloc (.cells M 5)).setRow w.heap.size Y) := ⟨rfl, rfl, rfl, by simp, fun k hk => setRow_other _ _ _ _ (by omega)⟩
    exact ⟨rfl, Lib.below_freeze (hb1.trans hb2) (p := ⟨w.heap.size, 0, none⟩) (Nat.le_refl _) _⟩

set_option maxHeartbeats 400000 in
theorem sclone_any (s : ByteArray) (w : World) (hlim : s.size ≤ 140737488355328) :
    Calls Try.prog 35 #[.string s] w fun e w' => e = .returned (.string s) ∧ Below w.heap.size w w' := by
  go_enter Try.func35, Try.ntmps35
  go_wp2_with fail
  refine (clone_any _ _ hlim).mono ?_
  rintro e w1 ⟨rfl, hb⟩
  go_wp2
  go_ret
  exact ⟨rfl, hb⟩
set_option maxHeartbeats 400000 in
theorem take_any (w : World) (bi : Nat) (s : St) (n : Nat) (hi : InAt w bi s) (hn : n ≤ s.rest.length) (hl : s.rest.length ≤ 140737488355328) :
    Calls Try.prog 34 #[.pointer (some ⟨bi, 0, none⟩), .int .i64 (n : Int)] w fun r w' => r = .returned (.string ⟨(s.rest.take n).toArray⟩) ∧ InAt w' bi ⟨s.rest.drop n, s.err⟩ ∧ Frm w.heap.size bi w w' := by
  have hc0 := hi.cell0
  have hf0 := hi.free 0
  have hsz := size_mk s.rest
  by_cases h0 : n = 0
  · subst h0
    go_enter Try.func34, Try.ntmps34
    go_wp2
    go_ret
    exact ⟨rfl, hi, Frm.refl _ _ _⟩
  · have hnb : ((n : Int) == 0) = false := by simp [h0]
    have H0 := Lib.hid h0
    clear h0
    go_enter Try.func34, Try.ntmps34
    go_wp2_with fail
    rw [extract_mk, List.drop_zero]
    refine (sclone_any _ _ ?_).mono ?_
    · rw [size_mk, List.length_take]
      omega
    rintro e w1 ⟨rfl, hb⟩
    have hi1 := hi.kept (hb.block bi hi.lt)
    have hc1 := hi1.cell0
    have hf1 := hi1.free 0
    have hset := hi1.set0 (s.rest.drop n)
    have HS := Lib.hid hset
    clear hset hc0 hf0
    go_wp2
    go_ret
    rw [extract_mk, List.take_of_length_le (Nat.le_refl _)]
    exact ⟨rfl, HS.out, (Frm.of_below hb).setCell (p := ⟨bi, 0, none⟩) (.inl rfl) _⟩

set_option maxHeartbeats 1000000 in
theorem textIn_any (w : World) (bi : Nat) (s : St) (hi : InAt w bi s) (hok : s.ok) (hl : s.rest.length ≤ 140737488355328) :
    Calls Try.prog 21 #[.pointer (some ⟨bi, 0, none⟩)] w fun r w' => r = .returned (.string ⟨(rdText s).1.toArray⟩) ∧ InAt w' bi (rdText s).2 ∧ Frm w.heap.size bi w w' := by
  have hlt := rdNum_lt s
  have hle := rdNum_left s
  have HN := Lib.hid (numIn_any w bi s hi hok hl)
  have HI : Hid (rdText s = if (rdNum s).2.rest.length < (rdNum s).1 then ([], (rdNum s).2.fail 3)
    else ((rdNum s).2.rest.take (rdNum s).1, ⟨(rdNum s).2.rest.drop (rdNum s).1, (rdNum s).2.err⟩)) := rfl
  generalize rdNum s = p at *
  obtain ⟨v, s1⟩ := p
  have hle' : s1.rest.length ≤ 140737488355328 := Nat.le_trans hle hl
  by_cases hv : s1.rest.length < v
  · have hfin : rdText s = ([], s1.fail 3) := by rw [HI.out]; exact if_pos hv
    have HF := Lib.hid hfin
    clear hfin
    have hd : decide ((s1.rest.length : Int) < (v : Int)) = true := by simp; omega
    go_enter Try.func21, Try.ntmps21
    go_wp2_with fail
    refine HN.out.mono ?_
    rintro e w1 ⟨rfl, hi1, hf1⟩
    go_wp2_with fail
    refine (left_any _ bi _ hi1).mono ?_
    rintro e w2 ⟨rfl, rfl⟩
    go_wp2_with fail
    refine (fail_any _ bi _ 3 hi1).mono ?_
    rintro e w3 ⟨rfl, hi3, hf3⟩
    go_wp2
    go_ret
    rw [HF.out]
    exact ⟨rfl, hi3, hf1.trans (hf3.mono hf1.size)⟩
  · have hfin : rdText s = (s1.rest.take v, ⟨s1.rest.drop v, s1.err⟩) := by rw [HI.out]; exact if_neg hv
    have HF := Lib.hid hfin
    clear hfin
    have hd : decide ((s1.rest.length : Int) < (v : Int)) = false := by simp; omega
    have hv' : v ≤ s1.rest.length := by omega
    go_enter Try.func21, Try.ntmps21
    go_wp2_with fail
    refine HN.out.mono ?_
    rintro e w1 ⟨rfl, hi1, hf1⟩
    go_wp2_with fail
    refine (left_any _ bi _ hi1).mono ?_
    rintro e w2 ⟨rfl, rfl⟩
    go_wp2_with fail
    refine (take_any _ bi s1 v hi1 hv' hle').mono ?_
    rintro e w3 ⟨rfl, hi3, hf3⟩
    go_wp2
    go_ret
    rw [HF.out]
    exact ⟨rfl, hi3, hf1.trans (hf3.mono hf1.size)⟩
end Go.Proofs.Ytlbnmlcdjkaiiaa.octet
