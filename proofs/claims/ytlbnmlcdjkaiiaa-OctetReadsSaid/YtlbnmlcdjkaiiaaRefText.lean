/-
  The document's numbers with a sign, and texts, as they are read: it reads what the program's reader reads, from the same place, with the same first error. A text of at most two to the forty-seventh bytes.
-/
import Derived.Test.YtlbnmlcdjkaiiaaRefNum
import Derived.Test.YtlbnmlcdjkaiiaaInText
namespace Go.Proofs.Ytlbnmlcdjkaiiaa.octet
open Go.RowKit Go.ChangeShapes
set_option linter.unusedVariables false

theorem refNum_plain (w : World) (t : ByteArray) (k err : Nat) (s : St) (ht : t.size ≤ 140737488355328) (hst : Stands t k err s) :
    Calls Try.prog 16 #[.agg #[.string t, .int .i64 (k : Int), .int .i64 (err : Int)]] w fun e w' => ∃ k1 : Nat, e = .returned (.tuple #[.int .u64 ((rdNum s).1 : Int), .agg #[.string t, .int .i64 (k1 : Int), .int .i64 ((rdNum s).2.err : Int)]]) ∧ Stands t k1 (rdNum s).2.err (rdNum s).2 ∧ Below w.heap.size w w' :=
  (refNum_any w t k err s ht hst).mono fun e w' ⟨⟨k1, he, hs⟩, hb⟩ => ⟨k1, he, hs, hb⟩

set_option maxHeartbeats 1000000 in
theorem refInt_any (w : World) (t : ByteArray) (k err : Nat) (s : St) (ht : t.size ≤ 140737488355328) (hst : Stands t k err s) :
    Calls Try.prog 18 #[RV t k err] w fun e w' => RefEnds t (.int .i64 (rdInt s).1) (rdInt s).2 e ∧ Below w.heap.size w w' := by
  have hlt := rdNum_lt s
  have HN := Lib.hid (fun W => refNum_plain W t k err s ht hst)
  have HI : Hid (rdInt s = (zag (rdNum s).1, (rdNum s).2)) := rfl
  clear hst
  generalize rdNum s = p at *
  obtain ⟨v, s1⟩ := p
  have hlt' : v < 18446744073709551616 := hlt
  unfold RV
  by_cases hv : v % 2 = 1
  · have hfin : zag v = -((v / 2 : Nat) : Int) - 1 := by unfold zag; rw [if_pos hv]
    have HZ := Lib.hid hfin
    have HV := Lib.hid hv
    have hq : ((v : Int) % 2 == 0) = false := by rw [beq_eq_false_iff_ne]; omega
    clear hfin hv
    go_enter Try.func18, Try.ntmps18
    go_wp2_with fail
    refine (HN.out _).mono ?_
    rintro e w1 ⟨k1, rfl, hs1, hb1⟩
    have HS := Lib.hid hs1
    clear hs1
    have q2 := (show RefAt _ (w.heap.size + 1) ⟨#[]⟩ 0 0 from alloc_two w _ _).below hb1 (by simp)
    have hbb : Below w.heap.size w w1 := (((Below.refl _ w).alloc (Nat.le_refl _) _).alloc (by simp) _).trans (hb1.mono (by simp; omega))
    have HBB := Lib.hid hbb
    clear hbb
    have c20 := q2.cell0
    have c21 := q2.cell1
    have c22 := q2.cell2
    have f20 := q2.free 0
    have f21 := q2.free 1
    have f22 := q2.free 2
    have hz := q2.lt
    go_wp2
    go_region
    go_wp2
    refine bodyPost_ret (v := .tuple #[.int .i64 (-((v : Int) / 2) - 1), .agg #[.string t, .int .i64 (k1 : Int), .int .i64 (s1.err : Int)]]) (by simp [results, Try.results18, go_sem, c20, c21, c22, hz]) rfl ⟨?_, ?_⟩
    · rw [HI.out]
      refine ⟨k1, ?_, HS.out⟩
      show _ = Ending.returned (.tuple #[.int .i64 (zag v), RV t k1 s1.err])
      rw [HZ.out]
      rfl
    · have hbb := HBB.out
      go_grown
  · have hfin : zag v = ((v / 2 : Nat) : Int) := by unfold zag; rw [if_neg hv]
    have HZ := Lib.hid hfin
    have HV := Lib.hid hv
    have hq : ((v : Int) % 2 == 0) = true := by rw [beq_iff_eq]; omega
    clear hfin hv
    go_enter Try.func18, Try.ntmps18
    go_wp2_with fail
    refine (HN.out _).mono ?_
    rintro e w1 ⟨k1, rfl, hs1, hb1⟩
    have HS := Lib.hid hs1
    clear hs1
    have q2 := (show RefAt _ (w.heap.size + 1) ⟨#[]⟩ 0 0 from alloc_two w _ _).below hb1 (by simp)
    have hbb : Below w.heap.size w w1 := (((Below.refl _ w).alloc (Nat.le_refl _) _).alloc (by simp) _).trans (hb1.mono (by simp; omega))
    have HBB := Lib.hid hbb
    clear hbb
    have c20 := q2.cell0
    have c21 := q2.cell1
    have c22 := q2.cell2
    have f20 := q2.free 0
    have f21 := q2.free 1
    have f22 := q2.free 2
    have hz := q2.lt
    go_wp2
    go_region
    go_wp2
    refine bodyPost_ret (v := .tuple #[.int .i64 ((v : Int) / 2), .agg #[.string t, .int .i64 (k1 : Int), .int .i64 (s1.err : Int)]]) (by simp [results, Try.results18, go_sem, c20, c21, c22, hz]) rfl ⟨?_, ?_⟩
    · rw [HI.out]
      refine ⟨k1, ?_, HS.out⟩
      show _ = Ending.returned (.tuple #[.int .i64 (zag v), RV t k1 s1.err])
      rw [HZ.out]
      rfl
    · have hbb := HBB.out
      go_grown

theorem extract_eq (t : ByteArray) (a n : Nat) : t.extract a (a + n) = ⟨((t.data.toList.drop a).take n).toArray⟩ := by
  apply ByteArray.ext
  apply Array.toList_inj.1
  rw [Lib.extract_data, Nat.add_sub_cancel_left]

set_option maxHeartbeats 2000000 in
theorem refText_any (w : World) (t : ByteArray) (k err : Nat) (s : St) (ht : t.size ≤ 140737488355328) (hst : Stands t k err s) :
    Calls Try.prog 20 #[RV t k err] w fun e w' => RefEnds t (.string ⟨(rdText s).1.toArray⟩) (rdText s).2 e ∧ Below w.heap.size w w' := by
  have hlt := rdNum_lt s
  have HN := Lib.hid (fun W => refNum_plain W t k err s ht hst)
  have HI : Hid (rdText s = if (rdNum s).2.rest.length < (rdNum s).1 then ([], (rdNum s).2.fail 3)
    else ((rdNum s).2.rest.take (rdNum s).1, ⟨(rdNum s).2.rest.drop (rdNum s).1, (rdNum s).2.err⟩)) := rfl
  have hok := rdNum_ok hst.2.2.2
  clear hst
  generalize rdNum s = p at *
  obtain ⟨v, s1⟩ := p
  have hlt' : v < 18446744073709551616 := hlt
  have hsz : t.data.toList.length = t.size := by rw [Array.length_toList]; rfl
  have HSZ := Lib.hid hsz
  clear hsz
  unfold RV
  by_cases hv : s1.rest.length < v
  · have hfin : rdText s = ([], s1.fail 3) := by rw [HI.out]; exact if_pos hv
    have HF := Lib.hid hfin
    clear hfin
    go_enter Try.func20, Try.ntmps20
    go_wp2_with fail
    refine (HN.out _).mono ?_
    rintro e w1 ⟨k1, rfl, hs1, hb1⟩
    have HS := Lib.hid hs1
    clear hs1
    have q2 := (show RefAt _ (w.heap.size + 1) ⟨#[]⟩ 0 0 from alloc_two w _ _).below hb1 (by simp)
    have hbb : Below w.heap.size w w1 := (((Below.refl _ w).alloc (Nat.le_refl _) _).alloc (by simp) _).trans (hb1.mono (by simp; omega))
    have HBB := Lib.hid hbb
    clear hbb
    have c20 := q2.cell0
    have c21 := q2.cell1
    have c22 := q2.cell2
    have f20 := q2.free 0
    have f21 := q2.free 1
    have f22 := q2.free 2
    have hz := q2.lt
    have hk1 : k1 ≤ t.size := HS.out.1
    have hrl : s1.rest.length = t.size - k1 := by rw [HS.out.2.1, List.length_drop, HSZ.out]
    have hd : decide ((t.size : Int) - (k1 : Int) < (v : Int)) = true := by simp; omega
    have HRL := Lib.hid hrl
    clear hrl
    by_cases he : s1.err = 0
    · have hfail : ∀ W : World, Calls Try.prog 31 #[.agg #[.string t, .int .i64 (k1 : Int), .int .i64 (s1.err : Int)], .int .i64 3] W fun r w' => r = .returned (.agg #[.string t, .int .i64 (t.size : Int), .int .i64 3]) ∧ Below W.heap.size W w' := fun W => (refFail_any W t k1 s1.err 3 ht).mono fun e w' h => by rw [if_pos he] at h; exact h
      have HX := Lib.hid hfail
      have HE := Lib.hid he
      clear hfail he
      go_wp2_with fail
      refine (HX.out _).mono ?_
      rintro e w2 ⟨rfl, hb2⟩
      have q3 := (show RefAt (w1.alloc (.cells #[.string t, .int .i64 (k1 : Int), .int .i64 (s1.err : Int)] 39)) (w.heap.size + 1) ⟨#[]⟩ 0 0 from (Below.heap_alloc _ _ _ hz).trans q2).below hb2 (by simp; omega)
      have hbb : Below w.heap.size w w2 := by
        have h1 := HBB.out
        have h2 := h1.alloc h1.size (.cells #[.string t, .int .i64 (k1 : Int), .int .i64 (s1.err : Int)] 39)
        exact h2.trans (hb2.mono h2.size)
      have HB2 := Lib.hid hbb
      clear hbb c20 c21 c22 f20 f21 f22
      have c20 := q3.cell0
      have c21 := q3.cell1
      have c22 := q3.cell2
      have f20 := q3.free 0
      have f21 := q3.free 1
      have f22 := q3.free 2
      go_wp2
      refine bodyPost_ret (v := .tuple #[.string ⟨#[]⟩, .agg #[.string t, .int .i64 (t.size : Int), .int .i64 3]]) (by simp [results, Try.results20, go_sem, c20, c21, c22]) rfl ⟨?_, ?_⟩
      · rw [HF.out]
        have h1 := stands_fail HS.out 3
        rw [if_pos HE.out, if_pos HE.out] at h1
        refine ⟨t.size, ?_, ?_⟩
        · show _ = Ending.returned (.tuple #[.string ⟨#[]⟩, RV t t.size (s1.fail 3).err])
          rw [h1.2.2.1]
          rfl
        · show Stands t _ (s1.fail 3).err (s1.fail 3)
          rw [h1.2.2.1]
          exact h1
      · have hbb := HB2.out
        go_grown
    · have hfail : ∀ W : World, Calls Try.prog 31 #[.agg #[.string t, .int .i64 (k1 : Int), .int .i64 (s1.err : Int)], .int .i64 3] W fun r w' => r = .returned (.agg #[.string t, .int .i64 (k1 : Int), .int .i64 (s1.err : Int)]) ∧ Below W.heap.size W w' := fun W => (refFail_any W t k1 s1.err 3 ht).mono fun e w' h => by rw [if_neg he] at h; exact h
      have HX := Lib.hid hfail
      have HE := Lib.hid he
      clear hfail he
      go_wp2_with fail
      refine (HX.out _).mono ?_
      rintro e w2 ⟨rfl, hb2⟩
      have q3 := (show RefAt (w1.alloc (.cells #[.string t, .int .i64 (k1 : Int), .int .i64 (s1.err : Int)] 39)) (w.heap.size + 1) ⟨#[]⟩ 0 0 from (Below.heap_alloc _ _ _ hz).trans q2).below hb2 (by simp; omega)
      have hbb : Below w.heap.size w w2 := by
        have h1 := HBB.out
        have h2 := h1.alloc h1.size (.cells #[.string t, .int .i64 (k1 : Int), .int .i64 (s1.err : Int)] 39)
        exact h2.trans (hb2.mono h2.size)
      have HB2 := Lib.hid hbb
      clear hbb c20 c21 c22 f20 f21 f22
      have c20 := q3.cell0
      have c21 := q3.cell1
      have c22 := q3.cell2
      have f20 := q3.free 0
      have f21 := q3.free 1
      have f22 := q3.free 2
      go_wp2
      refine bodyPost_ret (v := .tuple #[.string ⟨#[]⟩, .agg #[.string t, .int .i64 (k1 : Int), .int .i64 (s1.err : Int)]]) (by simp [results, Try.results20, go_sem, c20, c21, c22]) rfl ⟨?_, ?_⟩
      · rw [HF.out]
        have h1 := stands_fail HS.out 3
        rw [if_neg HE.out, if_neg HE.out] at h1
        refine ⟨k1, ?_, ?_⟩
        · show _ = Ending.returned (.tuple #[.string ⟨#[]⟩, RV t k1 (s1.fail 3).err])
          rw [h1.2.2.1]
          rfl
        · show Stands t _ (s1.fail 3).err (s1.fail 3)
          rw [h1.2.2.1]
          exact h1
      · have hbb := HB2.out
        go_grown
  · have hfin : rdText s = (s1.rest.take v, ⟨s1.rest.drop v, s1.err⟩) := by rw [HI.out]; exact if_neg hv
    have HF := Lib.hid hfin
    clear hfin
    go_enter Try.func20, Try.ntmps20
    go_wp2_with fail
    refine (HN.out _).mono ?_
    rintro e w1 ⟨k1, rfl, hs1, hb1⟩
    have HS := Lib.hid hs1
    clear hs1
    have q2 := (show RefAt _ (w.heap.size + 1) ⟨#[]⟩ 0 0 from alloc_two w _ _).below hb1 (by simp)
    have hbb : Below w.heap.size w w1 := (((Below.refl _ w).alloc (Nat.le_refl _) _).alloc (by simp) _).trans (hb1.mono (by simp; omega))
    have HBB := Lib.hid hbb
    clear hbb
    have c20 := q2.cell0
    have c21 := q2.cell1
    have c22 := q2.cell2
    have f20 := q2.free 0
    have f21 := q2.free 1
    have f22 := q2.free 2
    have hz := q2.lt
    have hk1 : k1 ≤ t.size := HS.out.1
    have hrl : s1.rest.length = t.size - k1 := by rw [HS.out.2.1, List.length_drop, HSZ.out]
    have hd : decide ((t.size : Int) - (k1 : Int) < (v : Int)) = false := by simp; omega
    have hkv : k1 + v ≤ t.size := by omega
    have HRL := Lib.hid hrl
    clear hrl
    have hsl : ∀ W : World, (Instr.slice 9 (.string t) (some (.int .i64 (k1 : Int))) (some (.int .i64 ((k1 : Int) + (v : Int)))) none).run Try.prog W = .ok (.string ⟨((t.data.toList.drop k1).take v).toArray⟩) W := fun W => by
      rw [← extract_eq, run_slice_string W 9 t .i64 .i64 (k1 : Int) ((k1 : Int) + (v : Int)) Try.underlying9 (by omega) (by omega) (by omega)]
      congr 2
    go_wp2
    go_region
    go_wp2
    refine bodyPost_ret (v := .tuple #[.string ⟨((t.data.toList.drop k1).take v).toArray⟩, .agg #[.string t, .int .i64 ((k1 : Int) + (v : Int)), .int .i64 (s1.err : Int)]]) (by simp [results, Try.results20, go_sem, c20, c21, c22, hz]) rfl ⟨?_, ?_⟩
    · rw [HF.out, HS.out.2.1]
      refine ⟨k1 + v, rfl, ?_⟩
      refine ⟨hkv, by show List.drop v (List.drop k1 _) = _; rw [List.drop_drop], rfl, fun h => ?_⟩
      have h1 := hok h
      rw [HS.out.2.1] at h1
      show List.drop v (List.drop k1 _) = []
      rw [h1]
      exact List.drop_nil
    · have hbb := HBB.out
      go_grown
end Go.Proofs.Ytlbnmlcdjkaiiaa.octet
