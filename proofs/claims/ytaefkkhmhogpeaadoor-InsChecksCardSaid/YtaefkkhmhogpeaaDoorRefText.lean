/-
  The document's numbers with a sign, and texts, as they are read: it reads what the program's reader reads, from the same place, with the same first error. A text of at most two to the forty-seventh bytes.
-/
import Derived.Test.YtaefkkhmhogpeaaDoorRefNum
import Derived.Test.YtaefkkhmhogpeaaDoorInText
namespace Go.Proofs.YtaefkkhmhogpeaaDoor.octet
open Go.RowKit Go.ChangeShapes
set_option linter.unusedVariables false

theorem refNum_plain (w : World) (t : ByteArray) (k err : Nat) (s : St) (ht : t.size ≤ 140737488355328) (hst : Stands t k err s) :
    Calls Tryd.prog 65 #[.agg #[.string t, .int .i64 (k : Int), .int .i64 (err : Int)]] w fun e w' => ∃ k1 : Nat, e = .returned (.tuple #[.int .u64 ((rdNum s).1 : Int), .agg #[.string t, .int .i64 (k1 : Int), .int .i64 ((rdNum s).2.err : Int)]]) ∧ Stands t k1 (rdNum s).2.err (rdNum s).2 ∧ Below w.heap.size w w' :=
  (refNum_any w t k err s ht hst).mono fun e w' ⟨⟨k1, he, hs⟩, hb⟩ => ⟨k1, he, hs, hb⟩

set_option maxHeartbeats 1000000 in
theorem refInt_any (w : World) (t : ByteArray) (k err : Nat) (s : St) (ht : t.size ≤ 140737488355328) (hst : Stands t k err s) :
    Calls Tryd.prog 64 #[RV t k err] w fun e w' => RefEnds t (.int .i64 (rdInt s).1) (rdInt s).2 e ∧ Below w.heap.size w w' := by
  have hlt := rdNum_lt s
  have HN := Lib.hid (fun W => refNum_plain W t k err s ht hst)
  have HI : Hid (rdInt s = (zag (rdNum s).1, (rdNum s).2)) := rfl
  clear hst
  generalize rdNum s = p at *
  obtain ⟨v, s1⟩ := p
  have hlt' : v < 18446744073709551616 := hlt
  unfold RV
  by_cases hv : v % 2 = 1
  · have hfin : zag v = -((v / 2 : Nat) : Int) - 1 := by unfold zag; rw [if_pos hv]
    have HZ := Lib.hid hfin
    have HV := Lib.hid hv
    have hq : ((v : Int) % 2 == 0) = false := by rw [beq_eq_false_iff_ne]; omega
    clear hfin hv
    go_enter Tryd.func64, Tryd.ntmps64
    go_wp2_with fail
    refine (HN.out _).mono ?_
    rintro e w1 ⟨k1, rfl, hs1, hb1⟩
    have HS := Lib.hid hs1
    clear hs1
    have q2 := (show RefAt _ (w.heap.size + 1) ⟨#[]⟩ 0 0 from alloc_two w _ _).below hb1 (by simp)
    have hbb : Below w.heap.size w w1 := (((Below.refl _ w).alloc (Nat.le_refl _) _).alloc (by simp) _).trans (hb1.mono (by simp; omega))
    have HBB := Lib.hid hbb
    clear hbb
    have c20 := q2.cell0
    have c21 := q2.cell1
    have c22 := q2.cell2
    have f20 := q2.free 0
    have f21 := q2.free 1
    have f22 := q2.free 2
    have hz := q2.lt
    go_wp2
    go_region
    go_wp2
    refine bodyPost_ret (v := .tuple #[.int .i64 (-((v : Int) / 2) - 1), .agg #[.string t, .int .i64 (k1 : Int), .int .i64 (s1.err : Int)]]) (by simp [results, Tryd.results64, go_sem, c20, c21, c22, hz]) rfl ⟨?_, ?_⟩
    · rw [HI.out]
      refine ⟨k1, ?_, HS.out⟩
      show _ = Ending.returned (.tuple #[.int .i64 (zag v), RV t k1 s1.err])
      rw [HZ.out]
      rfl
    · have hbb := HBB.out
      go_grown
  · have hfin : zag v = ((v / 2 : Nat) : Int) := by unfold zag; rw [if_neg hv]
    have HZ := Lib.hid hfin
    have HV := Lib.hid hv
    have hq : ((v : Int) % 2 == 0) = true := by rw [beq_iff_eq]; omega
    clear hfin hv
    go_enter Tryd.func64, Tryd.ntmps64
    go_wp2_with fail
    refine (HN.out _).mono ?_
    rintro e w1 ⟨k1, rfl, hs1, hb1⟩
    have HS := Lib.hid hs1
    clear hs1
    have q2 := (show RefAt _ (w.heap.size + 1) ⟨#[]⟩ 0 0 from alloc_two w _ _).below hb1 (by simp)
    have hbb : Below w.heap.size w w1 := (((Below.refl _ w).alloc (Nat.le_refl _) _).alloc (by simp) _).trans (hb1.mono (by simp; omega))
    have HBB := Lib.hid hbb
    clear hbb
    have c20 := q2.cell0
    have c21 := q2.cell1
    have c22 := q2.cell2
    have f20 := q2.free 0
    have f21 := q2.free 1
    have f22 := q2.free 2
    have hz := q2.lt
    go_wp2
    go_region
    go_wp2
    refine bodyPost_ret (v := .tuple #[.int .i64 ((v : Int) / 2), .agg #[.string t, .int .i64 (k1 : Int), .int .i64 (s1.err : Int)]]) (by simp [results, Tryd.results64, go_sem, c20, c21, c22, hz]) rfl ⟨?_, ?_⟩
    · rw [HI.out]
      refine ⟨k1, ?_, HS.out⟩
      show _ = Ending.returned (.tuple #[.int .i64 (zag v), RV t k1 s1.err])
      rw [HZ.out]
      rfl
    · have hbb := HBB.out
      go_grown

theorem extract_eq (t : ByteArray) (a n : Nat) : t.extract a (a + n) = ⟨((t.data.toList.drop a).take n).toArray⟩ := by
  apply ByteArray.ext
  apply Array.toList_inj.1
  rw [Lib.extract_data, Nat.add_sub_cancel_left]

end Go.Proofs.YtaefkkhmhogpeaaDoor.octet
