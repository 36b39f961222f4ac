/-
  Texts of one claim in one file: InText, RefText, RefPlain. Each has its own sentence, with its conditions.
-/
import Derived.Test.YtahejekcfgkiaaaGreatDoorGall3
import Derived.Lib.Strings
import Derived.Lib.Walk
import Derived.Lib.BufferWrite
import Derived.Lib.UnsafeStr
import Derived.Laws.MakeOwn
import Derived.Test.YtahejekcfgkiaaaGreatDoorGall4
/-
  The reader's numbers with a sign, and texts: what bytes are read as one, and the first error. The reader lies in a block of its own, holds no bytes behind an error, and at most two to the forty-seventh of them.
-/
namespace Go.Proofs.YtahejekcfgkiaaaGreatDoor.octet
open Go.RowKit Go.ChangeShapes
set_option linter.unusedVariables false

theorem info5' : (Tryz.prog.info? 5).map (fun i => (i.zero, i.size, i.bytes)) = some (some (.int .u8 0), 1, 1) := by kernel_rfl

theorem i64_not_nat (a : Nat) (ha : a < 9223372036854775808) : bits .xor .i64 (-1) (a : Int) = -(a : Int) - 1 := by
  show IntKind.i64.wrap ((BitVec.ofInt 64 (-1) ^^^ BitVec.ofInt 64 (a : Int)).toNat : Int) = _
  have h1 : BitVec.ofInt 64 (-1) = BitVec.allOnes 64 := by decide
  rw [h1, BitVec.allOnes_xor, BitVec.toNat_not, ofInt_u64 a (by omega)]
  simp only [IntKind.wrap_i64]
  omega
theorem and1_u64 (v : Nat) (hv : v < 18446744073709551616) : bits .and .u64 (v : Int) 1 = ((v % 2 : Nat) : Int) := by
  rw [← nat_mask1]; exact u64_and_nat v 1 hv (by omega)

set_option maxHeartbeats 1000000 in
theorem intIn_any (w : World) (bi : Nat) (s : St) (hi : InAt w bi s) (hok : s.ok) (hl : s.rest.length ≤ 140737489403904) :
    Calls Tryz.prog 117 #[.pointer (some ⟨bi, 0, none⟩)] w fun r w' => r = .returned (.int .i64 (rdInt s).1) ∧ InAt w' bi (rdInt s).2 ∧ Frm w.heap.size bi w w' := by
  have hlt := rdNum_lt s
  have HN := Lib.hid (numIn_any w bi s hi hok hl)
  have HI : Hid (rdInt s = (zag (rdNum s).1, (rdNum s).2)) := rfl
  generalize rdNum s = p at *
  obtain ⟨v, s1⟩ := p
  have hlt' : v < 18446744073709551616 := hlt
  have hand := and1_u64 v hlt'
  have HX : Hid (bits .xor .i64 (-1) ((v : Int) / 2) = -((v / 2 : Nat) : Int) - 1) := Lib.hid (i64_not_nat (v / 2) (by omega))
  by_cases hv : v % 2 = 1
  · rw [hv] at hand
    have hfin : zag v = -((v / 2 : Nat) : Int) - 1 := by unfold zag; rw [if_pos hv]
    have HZ := Lib.hid hfin
    have HV := Lib.hid hv
    clear hfin hv
    go_enter Tryz.func117, Tryz.ntmps117
    go_wp2_with fail
    refine HN.out.mono ?_
    rintro e w1 ⟨rfl, hi1, hf1⟩
    go_wp2
    go_ret
    rw [HI.out]
    refine ⟨?_, hi1, hf1⟩
    rw [show (zag v, s1).1 = zag v from rfl, HZ.out]
    exact congrArg (fun x => Ending.returned (Value.int .i64 x)) HX.out
  · have hv0 : v % 2 = 0 := by omega
    rw [hv0] at hand
    have hfin : zag v = ((v / 2 : Nat) : Int) := by unfold zag; rw [if_neg hv]
    have HZ := Lib.hid hfin
    have HV := Lib.hid hv
    clear hfin hv hv0
    go_enter Tryz.func117, Tryz.ntmps117
    go_wp2_with fail
    refine HN.out.mono ?_
    rintro e w1 ⟨rfl, hi1, hf1⟩
    go_wp2
    go_ret
    rw [HI.out]
    refine ⟨?_, hi1, hf1⟩
    rw [show (zag v, s1).1 = zag v from rfl, HZ.out]
    rfl

end Go.Proofs.YtahejekcfgkiaaaGreatDoor.octet

/-
  The document's numbers with a sign, and texts, as they are read: it reads what the program's reader reads, from the same place, with the same first error. A text of at most two to the forty-seventh bytes.
-/
namespace Go.Proofs.YtahejekcfgkiaaaGreatDoor.octet
open Go.RowKit Go.ChangeShapes
set_option linter.unusedVariables false

theorem refNum_plain (w : World) (t : ByteArray) (k err : Nat) (s : St) (ht : t.size ≤ 140737489403904) (hst : Stands t k err s) :
    Calls Tryz.prog 61 #[.agg #[.string t, .int .i64 (k : Int), .int .i64 (err : Int)]] w fun e w' => ∃ k1 : Nat, e = .returned (.tuple #[.int .u64 ((rdNum s).1 : Int), .agg #[.string t, .int .i64 (k1 : Int), .int .i64 ((rdNum s).2.err : Int)]]) ∧ Stands t k1 (rdNum s).2.err (rdNum s).2 ∧ Below w.heap.size w w' :=
  (refNum_any w t k err s ht hst).mono fun e w' ⟨⟨k1, he, hs⟩, hb⟩ => ⟨k1, he, hs, hb⟩

set_option maxHeartbeats 1000000 in
theorem refInt_any (w : World) (t : ByteArray) (k err : Nat) (s : St) (ht : t.size ≤ 140737489403904) (hst : Stands t k err s) :
    Calls Tryz.prog 60 #[RV t k err] w fun e w' => RefEnds t (.int .i64 (rdInt s).1) (rdInt s).2 e ∧ Below w.heap.size w w' := by
  have hlt := rdNum_lt s
  have HN := Lib.hid (fun W => refNum_plain W t k err s ht hst)
  have HI : Hid (rdInt s = (zag (rdNum s).1, (rdNum s).2)) := rfl
  clear hst
  generalize rdNum s = p at *
  obtain ⟨v, s1⟩ := p
  have hlt' : v < 18446744073709551616 := hlt
  unfold RV
  by_cases hv : v % 2 = 1
  · have hfin : zag v = -((v / 2 : Nat) : Int) - 1 := by unfold zag; rw [if_pos hv]
    have HZ := Lib.hid hfin
    have HV := Lib.hid hv
    have hq : ((v : Int) % 2 == 0) = false := by rw [beq_eq_false_iff_ne]; omega
    clear hfin hv
    go_enter Tryz.func60, Tryz.ntmps60
    go_wp2_with fail
    refine (HN.out _).mono ?_
    rintro e w1 ⟨k1, rfl, hs1, hb1⟩
    have HS := Lib.hid hs1
    clear hs1
    have q2 := (show RefAt _ (w.heap.size + 1) ⟨#[]⟩ 0 0 from alloc_two w _ _).below hb1 (by simp)
    have hbb : Below w.heap.size w w1 := (((Below.refl _ w).alloc (Nat.le_refl _) _).alloc (by simp) _).trans (hb1.mono (by simp; omega))
    have HBB := Lib.hid hbb
    clear hbb
    have c20 := q2.cell0
    have c21 := q2.cell1
    have c22 := q2.cell2
    have f20 := q2.free 0
    have f21 := q2.free 1
    have f22 := q2.free 2
    have hz := q2.lt
    go_wp2
    go_region
    go_wp2
    refine bodyPost_ret (v := .tuple #[.int .i64 (-((v : Int) / 2) - 1), .agg #[.string t, .int .i64 (k1 : Int), .int .i64 (s1.err : Int)]]) (by simp [results, Tryz.results60, go_sem, c20, c21, c22, hz]) rfl ⟨?_, ?_⟩
    · rw [HI.out]
      refine ⟨k1, ?_, HS.out⟩
      show _ = Ending.returned (.tuple #[.int .i64 (zag v), RV t k1 s1.err])
      rw [HZ.out]
      rfl
    · have hbb := HBB.out
      go_grown
  · have hfin : zag v = ((v / 2 : Nat) : Int) := by unfold zag; rw [if_neg hv]
    have HZ := Lib.hid hfin
    have HV := Lib.hid hv
    have hq : ((v : Int) % 2 == 0) = true := by rw [beq_iff_eq]; omega
    clear hfin hv
    go_enter Tryz.func60, Tryz.ntmps60
    go_wp2_with fail
    refine (HN.out _).mono ?_
    rintro e w1 ⟨k1, rfl, hs1, hb1⟩
    have HS := Lib.hid hs1
    clear hs1
    have q2 := (show RefAt _ (w.heap.size + 1) ⟨#[]⟩ 0 0 from alloc_two w _ _).below hb1 (by simp)
    have hbb : Below w.heap.size w w1 := (((Below.refl _ w).alloc (Nat.le_refl _) _).alloc (by simp) _).trans (hb1.mono (by simp; omega))
    have HBB := Lib.hid hbb
    clear hbb
    have c20 := q2.cell0
    have c21 := q2.cell1
    have c22 := q2.cell2
    have f20 := q2.free 0
    have f21 := q2.free 1
    have f22 := q2.free 2
    have hz := q2.lt
    go_wp2
    go_region
    go_wp2
    refine bodyPost_ret (v := .tuple #[.int .i64 ((v : Int) / 2), .agg #[.string t, .int .i64 (k1 : Int), .int .i64 (s1.err : Int)]]) (by simp [results, Tryz.results60, go_sem, c20, c21, c22, hz]) rfl ⟨?_, ?_⟩
    · rw [HI.out]
      refine ⟨k1, ?_, HS.out⟩
      show _ = Ending.returned (.tuple #[.int .i64 (zag v), RV t k1 s1.err])
      rw [HZ.out]
      rfl
    · have hbb := HBB.out
      go_grown

theorem extract_eq (t : ByteArray) (a n : Nat) : t.extract a (a + n) = ⟨((t.data.toList.drop a).take n).toArray⟩ := by
  apply ByteArray.ext
  apply Array.toList_inj.1
  rw [Lib.extract_data, Nat.add_sub_cancel_left]

end Go.Proofs.YtahejekcfgkiaaaGreatDoor.octet

/-
  The document's reader, its calls by plain values: a byte, a number, a number with a sign, each from where it stands. A text of at most two to the forty-seventh bytes.
-/
namespace Go.Proofs.YtahejekcfgkiaaaGreatDoor.octet
open Go.RowKit Go.ChangeShapes
set_option linter.unusedVariables false

theorem rest_le {t : ByteArray} {k err : Nat} {s : St} (h : Stands t k err s) (ht : t.size ≤ 140737489403904) : s.rest.length ≤ 140737489403904 := by
  have hsz : t.data.toList.length = t.size := by rw [Array.length_toList]; rfl
  rw [h.2.1, List.length_drop]
  omega
theorem refByte_plain (w : World) (t : ByteArray) (k err : Nat) (s : St) (ht : t.size ≤ 140737489403904) (hst : Stands t k err s) :
    Calls Tryz.prog 59 #[.agg #[.string t, .int .i64 (k : Int), .int .i64 (err : Int)]] w fun e w' => ∃ k1 : Nat, e = .returned (.tuple #[.int .i64 ((rdByte s).1 : Int), .agg #[.string t, .int .i64 (k1 : Int), .int .i64 ((rdByte s).2.err : Int)]]) ∧ Stands t k1 (rdByte s).2.err (rdByte s).2 ∧ Below w.heap.size w w' := by
  obtain ⟨k1, h, hs⟩ := refByte_stands w t k err s ht hst
  exact h.mono fun e w' ⟨he, hb⟩ => ⟨k1, he, hs, hb⟩
theorem refInt_plain (w : World) (t : ByteArray) (k err : Nat) (s : St) (ht : t.size ≤ 140737489403904) (hst : Stands t k err s) :
    Calls Tryz.prog 60 #[.agg #[.string t, .int .i64 (k : Int), .int .i64 (err : Int)]] w fun e w' => ∃ k1 : Nat, e = .returned (.tuple #[.int .i64 (rdInt s).1, .agg #[.string t, .int .i64 (k1 : Int), .int .i64 ((rdInt s).2.err : Int)]]) ∧ Stands t k1 (rdInt s).2.err (rdInt s).2 ∧ Below w.heap.size w w' :=
  (refInt_any w t k err s ht hst).mono fun e w' ⟨⟨k1, he, hs⟩, hb⟩ => ⟨k1, he, hs, hb⟩
end Go.Proofs.YtahejekcfgkiaaaGreatDoor.octet
