/-
  Texts of one claim in one file: RefNum, RefText, RefPlain, ERefRead. Each has its own sentence, with its conditions.
-/
import Derived.Test.YtfkcmdnnmnkklaaDoorEall8
import Derived.Test.YtfkcmdnnmnkklaaDoorEall6
import Derived.Test.YtfkcmdnnmnkklaaDoorEall7
import Derived.Test.YtfkcmdnnmnkklaaDoorEall2
/-
  The document's numbers as they are read: it reads what the program's reader reads, from the same place, with the same first error. A text of at most two to the forty-seventh bytes.
-/
namespace Go.Proofs.YtfkcmdnnmnkklaaDoor.octet
open Go.RowKit Go.ChangeShapes
set_option linter.unusedVariables false

theorem stands_byte {t : ByteArray} {k err : Nat} {s : St} (h : Stands t k err s) : (refByte t k err).1 = (rdByte s).1 ∧ Stands t (refByte t k err).2.1 (refByte t k err).2.2 (rdByte s).2 := by
  obtain ⟨rest, e0⟩ := s
  obtain ⟨hk, hr, he, hok⟩ := h
  simp only at hr he
  subst he
  have hsz : t.data.toList.length = t.size := by rw [Array.length_toList]; rfl
  by_cases hlt : k < t.size
  · have hcons : rest = t.data.toList.getD k 0 :: t.data.toList.drop (k + 1) := by
      rw [hr, List.getD_eq_getElem?_getD, List.getElem?_eq_getElem (by omega), Option.getD_some]
      exact List.drop_eq_getElem_cons (by omega)
    have he0 : e0 = 0 := by
      rcases Nat.eq_zero_or_pos e0 with h0 | h0
      · exact h0
      · have h1 : rest = [] := hok (by show e0 ≠ 0; omega)
        rw [hcons] at h1
        cases h1
    subst he0
    have e1 : refByte t k 0 = ((t.data.toList.getD k 0).toNat, k + 1, 0) := by unfold refByte; rw [if_pos hlt]
    have e2 : rdByte ⟨rest, 0⟩ = ((t.data.toList.getD k 0).toNat, ⟨t.data.toList.drop (k + 1), 0⟩) := by rw [hcons]; rfl
    rw [e1, e2]
    exact ⟨rfl, by show k + 1 ≤ _; omega, rfl, rfl, fun h => absurd rfl h⟩
  · have hnil : rest = [] := by rw [hr]; exact List.drop_of_length_le (by omega)
    subst hnil
    have e1 : refByte t k e0 = (0, if e0 = 0 then (t.size, 3) else (k, e0)) := by unfold refByte; rw [if_neg hlt]
    rw [e1]
    by_cases he0 : e0 = 0
    · subst he0
      have e2 : rdByte ⟨[], 0⟩ = (0, ⟨[], 3⟩) := rfl
      rw [e2, if_pos rfl]
      exact ⟨rfl, Nat.le_refl _, (List.drop_of_length_le (by rw [hsz]; exact Nat.le_refl _)).symm, rfl, fun _ => rfl⟩
    · have e2 : rdByte ⟨[], e0⟩ = (0, ⟨[], e0⟩) := by unfold rdByte; simp [he0]
      rw [e2, if_neg he0]
      exact ⟨rfl, hk, hr, rfl, hok⟩

theorem stands_fail {t : ByteArray} {k err : Nat} {s : St} (h : Stands t k err s) (e : Nat) : Stands t (if err = 0 then t.size else k) (if err = 0 then e else err) (s.fail e) := by
  obtain ⟨hk, hr, he, hok⟩ := h
  have hsz : t.data.toList.length = t.size := by rw [Array.length_toList]; rfl
  unfold St.fail
  by_cases h0 : err = 0
  · rw [if_pos h0, if_pos h0, if_neg (by omega)]
    exact ⟨Nat.le_refl _, (List.drop_of_length_le (by omega)).symm, rfl, fun _ => rfl⟩
  · rw [if_neg h0, if_neg h0, if_pos (by omega)]
    exact ⟨hk, hr, he, hok⟩

/-- The document's reader in a block of its own. -/
def RefAt (w : World) (b : Nat) (t : ByteArray) (k err : Nat) : Prop := w.heap[b]? = some (.cells #[.string t, .int .i64 (k : Int), .int .i64 (err : Int)] 78 (0, 0))
section
variable {w : World} {b : Nat} {t : ByteArray} {k err : Nat}
theorem RefAt.lt (h : RefAt w b t k err) : b < w.heap.size := lt_of_block h
theorem RefAt.cell0 (h : RefAt w b t k err) : w.cell? ⟨b, 0, none⟩ = some (.string t) := by unfold RefAt at h; simp [World.cell?, h]
theorem RefAt.cell1 (h : RefAt w b t k err) : w.cell? ⟨b, 1, none⟩ = some (.int .i64 (k : Int)) := by unfold RefAt at h; simp [World.cell?, h]
theorem RefAt.cell2 (h : RefAt w b t k err) : w.cell? ⟨b, 2, none⟩ = some (.int .i64 (err : Int)) := by unfold RefAt at h; simp [World.cell?, h]
theorem RefAt.free (h : RefAt w b t k err) (i : Nat) : w.frozen? ⟨b, i, none⟩ = false := by unfold RefAt at h; simp [World.frozen?, h]
theorem RefAt.set3 (h : RefAt w b t k err) (t' : ByteArray) (k' e' : Nat) : RefAt (((w.setCell ⟨b, 0, none⟩ (.string t')).setCell ⟨b, 1, none⟩ (.int .i64 (k' : Int))).setCell ⟨b, 2, none⟩ (.int .i64 (e' : Int))) b t' k' e' := by
  unfold RefAt at h
  unfold RefAt
  simp [World.setCell, Array.getElem?_modify, h]
theorem RefAt.far (h : RefAt w b t k err) {p : Addr} (hp : b ≠ p.block) (u : Value) : RefAt (w.setCell p u) b t k err := (Below.heap_setCell w p u b hp).trans h
theorem RefAt.below {w' : World} {B : Nat} (h : RefAt w b t k err) (hb : Below B w w') (hB : b < B) : RefAt w' b t k err := (hb.block b hB).trans h
end

theorem alloc_two (w : World) (o1 o2 : Obj) : ((w.alloc o1).alloc o2).heap[w.heap.size + 1]? = some o2 := by
  have h := heap_alloc_new (w.alloc o1) o2
  rwa [World.size_alloc] at h
/-- The document's byte, by the program's. -/
theorem refByte_stands (w : World) (t : ByteArray) (k err : Nat) (s : St) (ht : t.size ≤ 140737488355328) (hst : Stands t k err s) :
    ∃ k1 : Nat, Calls Tryd.prog 63 #[.agg #[.string t, .int .i64 (k : Int), .int .i64 (err : Int)]] w (fun r w' => r = .returned (.tuple #[.int .i64 ((rdByte s).1 : Int), .agg #[.string t, .int .i64 (k1 : Int), .int .i64 ((rdByte s).2.err : Int)]]) ∧ Below w.heap.size w w') ∧ Stands t k1 (rdByte s).2.err (rdByte s).2 := by
  obtain ⟨h1, h2⟩ := stands_byte hst
  refine ⟨(refByte t k err).2.1, ?_, ?_⟩
  · have h3 := refByte_any w t k err ht hst.1
    rw [h1, ← h2.2.2.1] at h3
    exact h3
  · rw [h2.2.2.1]
    exact h2

theorem cast_pow (kk : Nat) : ((128 : Int) ^ kk) = ((128 ^ kk : Nat) : Int) := by simp
theorem ref_sum {c kk acc : Nat} (hbad : ¬ ((kk = 9 ∧ 1 < c) ∨ (0 < kk ∧ c = 0))) (hk : kk ≤ 9) (hc : c < 256) (ha : acc < 128 ^ kk) :
    IntKind.u64.wrap ((acc : Int) + IntKind.u64.wrap ((c : Int) % 128 * 128 ^ kk)) = ((acc + c % 128 * 128 ^ kk : Nat) : Int) := by
  have hle : (128 : Nat) ^ kk ≤ 128 ^ 9 := Nat.pow_le_pow_right (by omega) hk
  have h9 : (128 : Nat) ^ 9 = 9223372036854775808 := rfl
  have hX : c % 128 * 128 ^ kk ≤ 9223372036854775808 := by
    by_cases h8 : kk = 9
    · subst h8
      have : c % 128 * 128 ^ 9 ≤ 1 * 128 ^ 9 := Nat.mul_le_mul_right _ (by omega)
      omega
    · have h1 : c % 128 * 128 ^ kk ≤ 127 * 128 ^ kk := Nat.mul_le_mul_right _ (by omega)
      have h2 : (128 : Nat) ^ kk ≤ 128 ^ 8 := Nat.pow_le_pow_right (by omega) (by omega)
      have h3 : (128 : Nat) ^ 8 = 72057594037927936 := rfl
      omega
  have e1 : (c : Int) % 128 * 128 ^ kk = ((c % 128 * 128 ^ kk : Nat) : Int) := by
    rw [cast_pow, Int.natCast_mul, Int.natCast_emod]
    rfl
  rw [e1]
  generalize c % 128 * 128 ^ kk = x at *
  rw [IntKind.wrap_u64, IntKind.wrap_u64]
  omega
theorem ref_by {kk : Nat} (hk : kk + 1 ≤ 9) : IntKind.u64.wrap ((128 : Int) ^ kk * 128) = ((128 ^ (kk + 1) : Nat) : Int) := by
  have hle : (128 : Nat) ^ (kk + 1) ≤ 128 ^ 9 := Nat.pow_le_pow_right (by omega) hk
  have h9 : (128 : Nat) ^ 9 = 9223372036854775808 := rfl
  rw [cast_pow, show ((128 ^ kk : Nat) : Int) * 128 = ((128 ^ (kk + 1) : Nat) : Int) from by rw [Nat.pow_succ, Int.natCast_mul]; rfl]
  generalize (128 : Nat) ^ (kk + 1) = x at *
  rw [IntKind.wrap_u64]
  omega

/-- What the document's reading ends in: a value, and its reader, which stands where the program's does. -/
def RefEnds (t : ByteArray) (x : Value) (s : St) (e : Ending) : Prop := ∃ k, e = .returned (.tuple #[x, RV t k s.err]) ∧ Stands t k s.err s

set_option maxHeartbeats 4000000 in
set_option maxRecDepth 100000 in
theorem refNum_any (w : World) (t : ByteArray) (k err : Nat) (s : St) (ht : t.size ≤ 140737488355328) (hst : Stands t k err s) :
    Calls Tryd.prog 62 #[RV t k err] w fun e w' => RefEnds t (.int .u64 ((rdNum s).1 : Int)) (rdNum s).2 e ∧ Below w.heap.size w w' := by
  have HST := Lib.hid hst
  clear hst
  unfold RV
  go_enter Tryd.func62, Tryd.ntmps62
  go_wp2
  go_loopw [4, 5, 7] (fun n y kv wr => ∃ (kk acc k' err' : Nat) (s' : St), kv = .int .i64 (kk : Int) ∧ kk ≤ 9 ∧ n = .int .u64 (acc : Int) ∧ y = .int .u64 ((128 ^ kk : Nat) : Int) ∧ acc < 128 ^ kk ∧
    Stands t k' err' s' ∧ decS s' kk acc = rdNum s ∧ RefAt wr w.heap.size t k' err' ∧ RefAt wr (w.heap.size + 1) ⟨#[]⟩ 0 0 ∧ Below w.heap.size w wr) (fun _ _ kv _ => 9 - (intOf kv).toNat)
  case atStart =>
    refine ⟨0, 0, k, err, s, rfl, by omega, rfl, rfl, by simp, HST.out, rfl, ?_, ?_, by go_grown⟩
    · exact (Below.heap_alloc _ _ _ (by simp)).trans (heap_alloc_new w _)
    · exact alloc_two w _ _
  case round =>
    obtain ⟨kk, acc, k', err', s', rfl, hk, rfl, rfl, hacc, hs', hd, hr1, hr2, hbw⟩ := hrel
    obtain ⟨k1, hcon, hs1⟩ := refByte_stands wr t k' err' s' ht hs'
    have HC := Lib.hid hcon
    have HS1 := Lib.hid hs1
    have HD := Lib.hid hd
    have HA := Lib.hid hacc
    have HS' := Lib.hid hs'
    have c10 := hr1.cell0
    have c11 := hr1.cell1
    have c12 := hr1.cell2
    clear hcon hs1 hd hacc hs'
    by_cases he : (rdByte s').2.err = 0
    · obtain ⟨b, r, rfl⟩ : ∃ b r, s' = ⟨b :: r, 0⟩ := rdByte_some he
      clear he
      have e1 : rdByte ⟨b :: r, 0⟩ = (b.toNat, ⟨r, 0⟩) := rfl
      have hb256 : b.toNat < 256 := b.toNat_lt
      rw [e1] at HC HS1
      clear e1
      by_cases hbad : (kk = 9 ∧ 1 < b.toNat) ∨ (0 < kk ∧ b.toNat = 0)
      · have hfin : rdNum s = (0, ⟨[], 2⟩) := by
          rw [← HD.out]
          unfold decS
          rw [if_neg (by simp), dec_err hbad]
        have HF := Lib.hid hfin
        have HB := Lib.hid hbad
        clear hbad hfin
        generalize b.toNat = c at *
        have hcase : ((((kk : Int) == 9) = true ∧ decide (1 < (c : Int)) = true ∧ decide (0 < (kk : Int)) = true ∧ ((c : Int) == 0) = false) ∨
          (((kk : Int) == 9) = true ∧ decide (1 < (c : Int)) = false ∧ decide (0 < (kk : Int)) = true ∧ ((c : Int) == 0) = true)) ∨
          (((kk : Int) == 9) = false ∧ decide (1 < (c : Int)) = false ∧ decide (0 < (kk : Int)) = true ∧ ((c : Int) == 0) = true) := by
          have h1 := HB.out
          simp only [beq_iff_eq, beq_eq_false_iff_ne, decide_eq_true_eq, decide_eq_false_iff_not]
          omega
        have hfail : ∀ W : World, Calls Tryd.prog 88 #[.agg #[.string t, .int .i64 (k1 : Int), .int .i64 0], .int .i64 2] W fun r w' => r = .returned (.agg #[.string t, .int .i64 (t.size : Int), .int .i64 2]) ∧ Below W.heap.size W w' := fun W => refFail_any W t k1 0 2 ht
        have HX := Lib.hid hfail
        clear hfail
        go_wp2_with fail
        refine HC.out.mono ?_
        rintro e w1 ⟨rfl, hb1⟩
        have q1 := hr1.below hb1 hr1.lt
        have q2 := hr2.below hb1 hr2.lt
        clear c10 c11 c12
        have c10 := q1.cell0
        have c11 := q1.cell1
        have c12 := q1.cell2
        have c20 := q2.cell0
        have c21 := q2.cell1
        have c22 := q2.cell2
        have f10 := q1.free 0
        have f11 := q1.free 1
        have f12 := q1.free 2
        have f20 := q2.free 0
        have f21 := q2.free 1
        have f22 := q2.free 2
        rcases hcase with (⟨f1, f2, f3, f4⟩ | ⟨f1, f2, f3, f4⟩) | ⟨f1, f2, f3, f4⟩
        all_goals
          have g3 : 0 < kk := by simpa using f3
          go_wp2_with fail
          refine (HX.out _).mono ?_
          rintro e w2 ⟨rfl, hb2⟩
          have q3 := (((q2.far (p := ⟨w.heap.size, 0, none⟩) (by simp) (.string t)).far (p := ⟨w.heap.size, 1, none⟩) (by simp) (.int .i64 (k1 : Int))).far (p := ⟨w.heap.size, 2, none⟩) (by simp) (.int .i64 0)).below hb2 (by simp only [World.size_setCell]; exact q2.lt)
          have hbb : Below w.heap.size w w2 := by
            have h1 := hbw.trans (hb1.mono hbw.size)
            have h2 : Below w.heap.size w (((w1.setCell ⟨w.heap.size, 0, none⟩ (.string t)).setCell ⟨w.heap.size, 1, none⟩ (.int .i64 (k1 : Int))).setCell ⟨w.heap.size, 2, none⟩ (.int .i64 0)) := by go_grown
            exact h2.trans (hb2.mono h2.size)
          have HBB := Lib.hid hbb
          clear hbb c20 c21 c22 f20 f21 f22 q2
          have c20 := q3.cell0
          have c21 := q3.cell1
          have c22 := q3.cell2
          have f20 := q3.free 0
          have f21 := q3.free 1
          have f22 := q3.free 2
          go_wp2
          refine bodyPost_ret (v := .tuple #[.int .u64 0, .agg #[.string t, .int .i64 (t.size : Int), .int .i64 2]]) (by simp [results, Tryd.results62, go_sem, c20, c21, c22]) rfl ⟨?_, ?_⟩
          · rw [HF.out]
            exact ⟨t.size, rfl, stands_fail HS1.out 2⟩
          · have hbb := HBB.out
            go_grown
      · have hfin : decS ⟨b :: r, 0⟩ kk acc = if b.toNat < 128 then (acc + b.toNat % 128 * 128 ^ kk, ⟨r, 0⟩) else decS ⟨r, 0⟩ (kk + 1) (acc + b.toNat % 128 * 128 ^ kk) := by
          unfold decS
          by_cases hb : b.toNat < 128
          · rw [if_neg (by simp), dec_last hbad hb, if_pos hb]
          · rw [if_neg (by simp), dec_next hbad hb, if_neg hb, if_neg (by simp)]
        have HF := Lib.hid hfin
        have HB := Lib.hid hbad
        clear hbad hfin
        generalize b.toNat = c at *
        have hcase : ((((kk : Int) == 9) = true ∧ decide (1 < (c : Int)) = false ∧ decide (0 < (kk : Int)) = true ∧ ((c : Int) == 0) = false ∧ 0 < kk) ∨
          (((kk : Int) == 9) = false ∧ decide (0 < (kk : Int)) = true ∧ ((c : Int) == 0) = false ∧ 0 < kk)) ∨
          (((kk : Int) == 9) = false ∧ decide (0 < (kk : Int)) = false ∧ ¬ 0 < kk) := by
          have h1 := HB.out
          simp only [beq_iff_eq, beq_eq_false_iff_ne, decide_eq_true_eq, decide_eq_false_iff_not]
          omega
        go_wp2_with fail
        refine HC.out.mono ?_
        rintro e w1 ⟨rfl, hb1⟩
        have q1 := hr1.below hb1 hr1.lt
        have q2 := hr2.below hb1 hr2.lt
        clear c10 c11 c12
        have c10 := q1.cell0
        have c11 := q1.cell1
        have c12 := q1.cell2
        have c20 := q2.cell0
        have c21 := q2.cell1
        have c22 := q2.cell2
        have f10 := q1.free 0
        have f11 := q1.free 1
        have f12 := q1.free 2
        have f20 := q2.free 0
        have f21 := q2.free 1
        have f22 := q2.free 2
        have HO := Lib.hid (ref_sum HB.out hk hb256 HA.out)
        have HBB := Lib.hid (hbw.trans (hb1.mono hbw.size))
        by_cases hb : c < 128
        · have g1 : decide ((c : Int) < 128) = true := by simp; omega
          have h2 := HF.out
          rw [if_pos hb] at h2
          have hfin : rdNum s = (acc + c % 128 * 128 ^ kk, ⟨r, 0⟩) := by rw [← HD.out]; exact h2
          have HR := Lib.hid hfin
          clear h2 hfin
          rcases hcase with (⟨f1, f2, f3, f4, g3⟩ | ⟨f1, f3, f4, g3⟩) | ⟨f1, f3, h3⟩
          · skip
            go_wp2
            go_region
            go_wp2
            rw [HO.out]
            refine bodyPost_ret (v := .tuple #[.int .u64 ((acc + c % 128 * 128 ^ kk : Nat) : Int), .agg #[.string t, .int .i64 (k1 : Int), .int .i64 0]]) (by simp [results, Tryd.results62, go_sem, c20, c21, c22]) rfl ⟨?_, ?_⟩
            · rw [HR.out]
              exact ⟨k1, rfl, HS1.out⟩
            · have hbb := HBB.out
              go_grown
          · skip
            go_wp2
            go_region
            go_wp2
            rw [HO.out]
            refine bodyPost_ret (v := .tuple #[.int .u64 ((acc + c % 128 * 128 ^ kk : Nat) : Int), .agg #[.string t, .int .i64 (k1 : Int), .int .i64 0]]) (by simp [results, Tryd.results62, go_sem, c20, c21, c22]) rfl ⟨?_, ?_⟩
            · rw [HR.out]
              exact ⟨k1, rfl, HS1.out⟩
            · have hbb := HBB.out
              go_grown
          · have g3 : (0 < kk) = False := eq_false h3
            clear h3
            go_wp2
            go_region
            go_wp2
            rw [HO.out]
            refine bodyPost_ret (v := .tuple #[.int .u64 ((acc + c % 128 * 128 ^ kk : Nat) : Int), .agg #[.string t, .int .i64 (k1 : Int), .int .i64 0]]) (by simp [results, Tryd.results62, go_sem, c20, c21, c22]) rfl ⟨?_, ?_⟩
            · rw [HR.out]
              exact ⟨k1, rfl, HS1.out⟩
            · have hbb := HBB.out
              go_grown
        · have g1 : decide ((c : Int) < 128) = false := by simp; omega
          have hk9 : kk + 1 ≤ 9 := by
            have h1 := HB.out
            omega
          have HY := Lib.hid (ref_by hk9)
          rcases hcase with (⟨f1, f2, f3, f4, g3⟩ | ⟨f1, f3, f4, g3⟩) | ⟨f1, f3, h3⟩
          · exfalso
            have h1 := HB.out
            simp only [beq_iff_eq, decide_eq_false_iff_not] at f1 f2
            omega
          · skip
            go_wp2
            rw [HO.out]
            refine ⟨⟨kk + 1, acc + c % 128 * 128 ^ kk, k1, 0, ⟨r, 0⟩, by go_num, hk9, rfl, ?_, acc_next HA.out, HS1.out, ?_, q1.set3 t k1 0, ((q2.far (by simp) _).far (by simp) _).far (by simp) _, ?_⟩, ?_⟩
            · rw [HY.out]
            · have h1 := HF.out
              rw [if_neg hb] at h1
              rw [← h1]
              exact HD.out
            · have hbb := HBB.out
              go_grown
            · simp [intOf]
              omega
          · have g3 : (0 < kk) = False := eq_false h3
            clear h3
            go_wp2
            rw [HO.out]
            refine ⟨⟨kk + 1, acc + c % 128 * 128 ^ kk, k1, 0, ⟨r, 0⟩, by go_num, hk9, rfl, ?_, acc_next HA.out, HS1.out, ?_, q1.set3 t k1 0, ((q2.far (by simp) _).far (by simp) _).far (by simp) _, ?_⟩, ?_⟩
            · rw [HY.out]
            · have h1 := HF.out
              rw [if_neg hb] at h1
              rw [← h1]
              exact HD.out
            · have hbb := HBB.out
              go_grown
            · simp [intOf]
              omega
    · have hfin : rdNum s = (0, (rdByte s').2) := by
        rw [← HD.out]
        exact rdByte_none he
      have HF := Lib.hid hfin
      clear hfin
      have he' : (((rdByte s').2.err : Int) != 0) = true := by simp [he]
      have HE := Lib.hid he
      clear he
      go_wp2_with fail
      refine HC.out.mono ?_
      rintro e w1 ⟨rfl, hb1⟩
      have q1 := hr1.below hb1 hr1.lt
      have q2 := hr2.below hb1 hr2.lt
      clear c10 c11 c12
      have c10 := q1.cell0
      have c11 := q1.cell1
      have c12 := q1.cell2
      have c20 := q2.cell0
      have c21 := q2.cell1
      have c22 := q2.cell2
      have f10 := q1.free 0
      have f11 := q1.free 1
      have f12 := q1.free 2
      have f20 := q2.free 0
      have f21 := q2.free 1
      have f22 := q2.free 2
      go_wp2
      go_region
      all_goals go_wp2
      refine bodyPost_ret (v := .tuple #[.int .u64 0, .agg #[.string t, .int .i64 (k1 : Int), .int .i64 ((rdByte s').2.err : Int)]]) (by simp [results, Tryd.results62, go_sem, *]) rfl ⟨?_, ?_⟩
      · rw [HF.out]
        exact ⟨k1, rfl, HS1.out⟩
      · have hbb := hbw.trans (hb1.mono hbw.size)
        go_grown
end Go.Proofs.YtfkcmdnnmnkklaaDoor.octet

/-
  The document's numbers with a sign, and texts, as they are read: it reads what the program's reader reads, from the same place, with the same first error. A text of at most two to the forty-seventh bytes.
-/
namespace Go.Proofs.YtfkcmdnnmnkklaaDoor.octet
open Go.RowKit Go.ChangeShapes
set_option linter.unusedVariables false

theorem refNum_plain (w : World) (t : ByteArray) (k err : Nat) (s : St) (ht : t.size ≤ 140737488355328) (hst : Stands t k err s) :
    Calls Tryd.prog 62 #[.agg #[.string t, .int .i64 (k : Int), .int .i64 (err : Int)]] w fun e w' => ∃ k1 : Nat, e = .returned (.tuple #[.int .u64 ((rdNum s).1 : Int), .agg #[.string t, .int .i64 (k1 : Int), .int .i64 ((rdNum s).2.err : Int)]]) ∧ Stands t k1 (rdNum s).2.err (rdNum s).2 ∧ Below w.heap.size w w' :=
  (refNum_any w t k err s ht hst).mono fun e w' ⟨⟨k1, he, hs⟩, hb⟩ => ⟨k1, he, hs, hb⟩

theorem extract_eq (t : ByteArray) (a n : Nat) : t.extract a (a + n) = ⟨((t.data.toList.drop a).take n).toArray⟩ := by
  apply ByteArray.ext
  apply Array.toList_inj.1
  rw [Lib.extract_data, Nat.add_sub_cancel_left]

end Go.Proofs.YtfkcmdnnmnkklaaDoor.octet

/-
  The document's reader, its calls by plain values: a byte, a number, a number with a sign, each from where it stands. A text of at most two to the forty-seventh bytes.
-/
namespace Go.Proofs.YtfkcmdnnmnkklaaDoor.octet
open Go.RowKit Go.ChangeShapes
set_option linter.unusedVariables false

theorem rest_le {t : ByteArray} {k err : Nat} {s : St} (h : Stands t k err s) (ht : t.size ≤ 140737488355328) : s.rest.length ≤ 140737488355328 := by
  have hsz : t.data.toList.length = t.size := by rw [Array.length_toList]; rfl
  rw [h.2.1, List.length_drop]
  omega
theorem refByte_plain (w : World) (t : ByteArray) (k err : Nat) (s : St) (ht : t.size ≤ 140737488355328) (hst : Stands t k err s) :
    Calls Tryd.prog 63 #[.agg #[.string t, .int .i64 (k : Int), .int .i64 (err : Int)]] w fun e w' => ∃ k1 : Nat, e = .returned (.tuple #[.int .i64 ((rdByte s).1 : Int), .agg #[.string t, .int .i64 (k1 : Int), .int .i64 ((rdByte s).2.err : Int)]]) ∧ Stands t k1 (rdByte s).2.err (rdByte s).2 ∧ Below w.heap.size w w' := by
  obtain ⟨k1, h, hs⟩ := refByte_stands w t k err s ht hst
  exact h.mono fun e w' ⟨he, hb⟩ => ⟨k1, he, hs, hb⟩
end Go.Proofs.YtfkcmdnnmnkklaaDoor.octet

/-
  Memory while the document's reader goes over ways and needs: the reader, the row of ways, the row of needs, the need that is read. No condition.
-/
namespace Go.Proofs.YtfkcmdnnmnkklaaDoor.need
open Go.RowKit Go.ChangeShapes
open Go.Proofs.YtfkcmdnnmnkklaaDoor.octet (St rdByte rdNum Stands)
open Go.Proofs.YtfkcmdnnmnkklaaDoor.objs (De zero CellsAt DAt RBox RNil cells3 put3 put3_same put3_far put3_below rdN)
set_option linter.unusedVariables false

/-- Between two ways: the empty answer, the reader, the row of ways. -/
structure R9 (w : World) (t : ByteArray) (bx : Nat) (v : Value) (ls : List (List De)) (S : St) (W : World) : Prop where
  below : Below w.heap.size w W
  nil : W.heap[w.heap.size + 1]? = some RNil
  x : ∃ k : Nat, W.heap[bx]? = some (RBox t k S.err) ∧ Stands t k S.err S
  own : OwnW W (bx + 1) v ls
  hx : w.heap.size + 1 < bx
theorem R9.lt {w W : World} {t : ByteArray} {bx : Nat} {v : Value} {ls : List (List De)} {S : St} (h : R9 w t bx v ls S W) : bx < W.heap.size := by
  obtain ⟨_, h1, _⟩ := h.x
  exact lt_of_block h1
theorem R9.next {w W W' : World} {t : ByteArray} {bx : Nat} {v : Value} {ls : List (List De)} {S : St} (h : R9 w t bx v ls S W) (hb : Below W.heap.size W W') : R9 w t bx v ls S W' := by
  obtain ⟨k, h1, h2⟩ := h.x
  exact ⟨h.below.trans (hb.mono h.below.size), (hb.block _ (lt_of_block h.nil)).trans h.nil, ⟨k, (hb.block _ (lt_of_block h1)).trans h1, h2⟩, h.own.next hb, h.hx⟩
/-- Behind the count. -/
theorem r9_new {w w1 : World} {t : ByteArray} {k err k1 : Nat} {S : St} (hb : Below ((w.alloc (RBox t k err)).alloc RNil).heap.size ((w.alloc (RBox t k err)).alloc RNil) w1) (hS : Stands t k1 S.err S) :
    R9 w t w1.heap.size (.slice none 0 0) [] S (w1.alloc (RBox t k1 S.err)) := by
  have hz : ((w.alloc (RBox t k err)).alloc RNil).heap.size = w.heap.size + 1 + 1 := by rw [World.size_alloc, World.size_alloc]
  have hs := hb.size
  have hb0 : Below w.heap.size w ((w.alloc (RBox t k err)).alloc RNil) := ((Below.refl _ w).alloc (Nat.le_refl _) _).alloc (by simp) _
  have hi0 : ((w.alloc (RBox t k err)).alloc RNil).heap[w.heap.size + 1]? = some RNil := by rw [← World.size_alloc w (RBox t k err)]; exact heap_alloc_new _ _
  have hb2 : Below w1.heap.size w1 (w1.alloc (RBox t k1 S.err)) := (Below.refl _ _).alloc (Nat.le_refl _) _
  exact ⟨(hb0.trans (hb.mono (by omega))).trans (hb2.mono (by omega)), (hb2.block _ (by omega)).trans ((hb.block _ (by omega)).trans hi0), ⟨k1, heap_alloc_new _ _, hS⟩, OwnW.nil _ _, by omega⟩
/-- The empty row is made. -/
theorem R9.row {w W : World} {t : ByteArray} {bx : Nat} {S : St} (h : R9 w t bx (.slice none 0 0) [] S W) : R9 w t bx (.slice (some ⟨W.heap.size, 0, none⟩) 0 0) [] S (W.alloc (.cells #[] 60)) := by
  have hb : Below W.heap.size W (W.alloc (.cells #[] 60)) := (Below.refl _ W).alloc (Nat.le_refl _) _
  have h' := h.next hb
  have := h.lt
  exact ⟨h'.below, h'.nil, h'.x, (OwnW.empty (heap_alloc_new W _)).base (by omega), h'.hx⟩
/-- Between two needs of a way that began in W1: the way's own reader at g, the row of needs. -/
structure I9 (W1 : World) (g : Nat) (t : ByteArray) (v : Value) (ns : List De) (T : St) (W : World) : Prop where
  e : W1.heap.size = g
  below : Below g W1 W
  y : ∃ k : Nat, W.heap[g]? = some (RBox t k T.err) ∧ Stands t k T.err T
  own : OwnN W (g + 1) v ns
theorem I9.lt {W1 W : World} {g : Nat} {t : ByteArray} {v : Value} {ns : List De} {T : St} (h : I9 W1 g t v ns T W) : g < W.heap.size := by
  obtain ⟨_, h1, _⟩ := h.y
  exact lt_of_block h1
theorem I9.next {W1 W W' : World} {g : Nat} {t : ByteArray} {v : Value} {ns : List De} {T : St} (h : I9 W1 g t v ns T W) (hb : Below W.heap.size W W') : I9 W1 g t v ns T W' := by
  obtain ⟨k, h1, h2⟩ := h.y
  exact ⟨h.e, h.below.trans (hb.mono (Nat.le_of_lt h.lt)), ⟨k, (hb.block _ h.lt).trans h1, h2⟩, h.own.next hb⟩
theorem i9_new {W1 : World} {t : ByteArray} {k : Nat} {T : St} (hS : Stands t k T.err T) : I9 W1 W1.heap.size t (.slice none 0 0) [] T (W1.alloc (RBox t k T.err)) :=
  ⟨rfl, (Below.refl _ _).alloc (Nat.le_refl _) _, ⟨k, heap_alloc_new W1 _, hS⟩, OwnN.nil _ _⟩
theorem I9.row {W1 W : World} {g : Nat} {t : ByteArray} {T : St} (h : I9 W1 g t (.slice none 0 0) [] T W) : I9 W1 g t (.slice (some ⟨W.heap.size, 0, none⟩) 0 0) [] T (W.alloc (.cells #[] 59)) := by
  have h' := h.next ((Below.refl _ W).alloc (Nat.le_refl _) (.cells #[] 59))
  have := h.lt
  exact ⟨h'.e, h'.below, h'.y, (OwnN.empty (heap_alloc_new W _)).base (by omega)⟩
theorem I9.outer {w W1 W : World} {t : ByteArray} {bx g : Nat} {v lv : Value} {ls : List (List De)} {ns : List De} {S T : St} (hR : R9 w t bx v ls S W1) (h : I9 W1 g t lv ns T W) : R9 w t bx v ls S W :=
  hR.next (by rw [h.e]; exact h.below)
/-- In the midst of a need that began in W2: its reader, and what stands so far of it. -/
structure M9 (W2 : World) (t : ByteArray) (bu bn : Nat) (k o m : Int) (T : St) (W : World) : Prop where
  below : Below W2.heap.size W2 W
  u : ∃ kk : Nat, W.heap[bu]? = some (RBox t kk T.err) ∧ Stands t kk T.err T
  n : W.heap[bn]? = some (needBox k o m)
  hu : W2.heap.size ≤ bu
  hn : bu < bn
theorem M9.next {W2 W W' : World} {t : ByteArray} {bu bn : Nat} {k o m : Int} {T : St} (h : M9 W2 t bu bn k o m T W) (hb : Below W.heap.size W W') : M9 W2 t bu bn k o m T W' := by
  obtain ⟨kk, h1, h2⟩ := h.u
  exact ⟨h.below.trans (hb.mono h.below.size), ⟨kk, (hb.block _ (lt_of_block h1)).trans h1, h2⟩, (hb.block _ (lt_of_block h.n)).trans h.n, h.hu, h.hn⟩
theorem m9_new {W2 W : World} {t : ByteArray} {kk : Nat} {k o : Int} {T : St} (hb : Below W2.heap.size W2 W) (hS : Stands t kk T.err T) :
    M9 W2 t W.heap.size (W.heap.size + 1) k o 0 T ((W.alloc (RBox t kk T.err)).alloc (needBox k o 0)) := by
  have hz := World.size_alloc W (RBox t kk T.err)
  have h2 : Below W.heap.size W ((W.alloc (RBox t kk T.err)).alloc (needBox k o 0)) := ((Below.refl _ _).alloc (Nat.le_refl _) _).alloc (by omega) _
  refine ⟨hb.trans (h2.mono hb.size), ⟨kk, (Below.heap_alloc _ _ _ (by omega)).trans (heap_alloc_new W _), hS⟩, ?_, hb.size, Nat.lt_succ_self _⟩
  rw [← hz]
  exact heap_alloc_new _ _
theorem M9.setN {W2 W : World} {t : ByteArray} {bu bn : Nat} {k o m : Int} {T T2 : St} {k2 : Nat} (h : M9 W2 t bu bn k o m T W) (n : Int) (hS : Stands t k2 T2.err T2) :
    M9 W2 t bu bn k o n T2 (put3 (W.setCell ⟨bn, 2, none⟩ (.int .i64 n)) bu (.string t) (.int .i64 (k2 : Int)) (.int .i64 (T2.err : Int))).drew := by
  obtain ⟨kk, h1, h2⟩ := h.u
  have e1 := h.hu
  have e2 := h.hn
  have hf : ∀ i, i ≠ bn → (W.setCell ⟨bn, 2, none⟩ (.int .i64 n)).heap[i]? = W.heap[i]? := fun i hi => Below.heap_setCell W ⟨bn, 2, none⟩ _ i hi
  refine ⟨Below.drew (put3_below (h.below.setCell (p := ⟨bn, 2, none⟩) (by show W2.heap.size ≤ bn; omega) _) e1 _ _ _), ⟨k2, put3_same ((hf bu (by omega)).trans h1) _ _ _, hS⟩, ?_, e1, e2⟩
  refine (put3_far (by omega) _ _ _).trans ?_
  have := h.n
  unfold needBox at this ⊢
  simp [World.setCell, Array.getElem?_modify, this]
/-- Behind the append of a need. -/
structure A9 (W1 : World) (g : Nat) (t : ByteArray) (bu : Nat) (v : Value) (ns : List De) (kk : Nat) (T : St) (W : World) : Prop where
  e : W1.heap.size = g
  below : Below g W1 W
  y : ∃ (k err : Nat), W.heap[g]? = some (RBox t k err)
  u : W.heap[bu]? = some (RBox t kk T.err)
  own : OwnN W (g + 1) v ns
  hu : g < bu
theorem M9.app {W1 W2 W Wa W3 : World} {g : Nat} {t : ByteArray} {bu bn kk : Nat} {lv v2 : Value} {ns ns2 : List De} {k o m : Int} {T T' : St} (hI : I9 W1 g t lv ns T W2) (h : M9 W2 t bu bn k o m T' W) (hk : W.heap[bu]? = some (RBox t kk T'.err))
    (h1 : Below W.heap.size W Wa) (h2 : OwnN W3 (g + 1) v2 ns2) (hg : Wa.grownBy W3 lv.ownBlock) : A9 W1 g t bu v2 ns2 kk T' W3 := by
  have e0 := hI.lt
  have e1 := h.hu
  have hn := h1.size
  have hs := h.below.size
  have hlo : ∀ i, lv.ownBlock = some i → g < i ∧ i < W2.heap.size := fun i e => by have := hI.own.lt e; omega
  have hf : ∀ i, i < W.heap.size → lv.ownBlock ≠ some i → W3.heap[i]? = W.heap[i]? := fun i hi hne => (hg.block i (by omega) (fun e => hne e.symm)).trans (h1.block i hi)
  obtain ⟨ky, hy1, _⟩ := hI.y
  have hyW : W.heap[g]? = some (RBox t ky T.err) := (h.below.block g e0).trans hy1
  have hbW : Below g W1 W := hI.below.trans (h.below.mono (Nat.le_of_lt e0))
  refine ⟨hI.e, (hbW.trans (h1.mono (by omega))).grown hg (by have := hbW.size; omega) (fun i e => by have := (hlo i e).1; omega), ⟨ky, _, (hf _ (lt_of_block hyW) (fun e => by have := (hlo _ e).1; omega)).trans hyW⟩, (hf _ (lt_of_block hk) (fun e => by have := (hlo _ e).2; omega)).trans hk, h2, by omega⟩
theorem A9.store {W1 W : World} {g : Nat} {t : ByteArray} {bu kk : Nat} {v : Value} {ns : List De} {T : St} (h : A9 W1 g t bu v ns kk T W) (hS : Stands t kk T.err T) : I9 W1 g t v ns T (put3 W g (.string t) (.int .i64 (kk : Int)) (.int .i64 (T.err : Int))) := by
  obtain ⟨k, err, hy⟩ := h.y
  refine ⟨h.e, put3_below h.below (Nat.le_refl _) _ _ _, ⟨kk, put3_same hy _ _ _, hS⟩, h.own.keep fun i hi => put3_far (by have := (h.own.lt hi).1; omega) _ _ _⟩
/-- Behind the append of a way. -/
structure B9 (w : World) (t : ByteArray) (bx g : Nat) (v : Value) (ls : List (List De)) (kk : Nat) (T : St) (W : World) : Prop where
  below : Below w.heap.size w W
  nil : W.heap[w.heap.size + 1]? = some RNil
  x : ∃ (k err : Nat), W.heap[bx]? = some (RBox t k err)
  y : W.heap[g]? = some (RBox t kk T.err)
  own : OwnW W (bx + 1) v ls
  hx : w.heap.size + 1 < bx
  hg : bx < g
theorem OwnW.lt {w : World} {base g : Nat} {v : Value} {l : List (List De)} (h : OwnW w base v l) (hg : v.ownBlock = some g) : base ≤ g ∧ g < w.heap.size := by
  obtain ⟨xs, h1, _⟩ := h
  exact World.ownsRow.lt h1 g hg
theorem OwnW.keep {w w' : World} {base : Nat} {v : Value} {l : List (List De)} (h : OwnW w base v l) (hk : ∀ g, base ≤ g → w'.heap[g]? = w.heap[g]?) : OwnW w' base v l := by
  obtain ⟨xs, h1, h2⟩ := h
  refine ⟨xs, ⟨h1.1, h1.2.imp id ?_⟩, fun j hj => ?_⟩
  · rintro ⟨g, c, cur, rfl, hg, hh, r⟩
    exact ⟨g, c, cur, rfl, hg, (hk g hg).trans hh, r⟩
  · obtain ⟨x, h3, h4⟩ := h2 j hj
    exact ⟨x, h3, h4.keep fun g hg => hk g (h4.lt hg).1⟩
theorem I9.app {w W1 W Wa W3 : World} {t : ByteArray} {bx g kk : Nat} {v v2 lv : Value} {ls ls2 : List (List De)} {ns : List De} {S T : St} (hR : R9 w t bx v ls S W1) (h : I9 W1 g t lv ns T W) (hk : W.heap[g]? = some (RBox t kk T.err))
    (h1 : Below W.heap.size W Wa) (h2 : OwnW W3 (bx + 1) v2 ls2) (hg : Wa.grownBy W3 v.ownBlock) : B9 w t bx g v2 ls2 kk T W3 := by
  have hRW := I9.outer hR h
  have e0 := hR.lt
  have e1 := h.e
  have hn := h1.size
  have hlo : ∀ i, v.ownBlock = some i → bx < i ∧ i < g := fun i e => by have := hR.own.lt e; omega
  have hf : ∀ i, i < W.heap.size → v.ownBlock ≠ some i → W3.heap[i]? = W.heap[i]? := fun i hi hne => (hg.block i (by omega) (fun e => hne e.symm)).trans (h1.block i hi)
  obtain ⟨kx, hx1, _⟩ := hRW.x
  have e3 := hRW.hx
  refine ⟨(hRW.below.trans (h1.mono hRW.below.size)).grown hg (by have := hRW.below.size; omega) (fun i e => by have := (hlo i e).1; omega), (hf _ (lt_of_block hRW.nil) (fun e => by have := (hlo _ e).1; omega)).trans hRW.nil, ⟨kx, _, (hf _ (lt_of_block hx1) (fun e => by have := (hlo _ e).1; omega)).trans hx1⟩, (hf _ (lt_of_block hk) (fun e => by have := (hlo _ e).2; omega)).trans hk, h2, e3, by omega⟩
theorem B9.store {w W : World} {t : ByteArray} {bx g kk : Nat} {v : Value} {ls : List (List De)} {T : St} (h : B9 w t bx g v ls kk T W) (hS : Stands t kk T.err T) : R9 w t bx v ls T (put3 W bx (.string t) (.int .i64 (kk : Int)) (.int .i64 (T.err : Int))) := by
  obtain ⟨k, err, hx⟩ := h.x
  have e := h.hx
  exact ⟨put3_below h.below (by omega) _ _ _, (put3_far (by omega) _ _ _).trans h.nil, ⟨kk, put3_same hx _ _ _, hS⟩, h.own.keep fun i hi => put3_far (by omega) _ _ _, e⟩

/-- What Read tells, and leaves. -/
def ReadPost9 (t : ByteArray) (r : List (List De) × St × Nat) (w : World) (e : Ending) (w' : World) : Prop :=
  ∃ (v : Value) (k : Nat), e = .returned (.tuple #[v, .agg #[.string t, .int .i64 (k : Int), .int .i64 (r.2.1.err : Int)], .int .i64 (r.2.2 : Int)]) ∧ Stands t k r.2.1.err r.2.1 ∧ (∃ A cap, v = .slice A r.1.length cap ∧ WAt w' A r.1) ∧ Below w.heap.size w w'
/-- At the end: the answer, and the reader in the result's block. -/
structure Ends9 (w : World) (t : ByteArray) (v : Value) (ls : List (List De)) (k err : Nat) (W : World) : Prop where
  below : Below w.heap.size w W
  r : W.heap[w.heap.size + 1]? = some (RBox t k err)
  at' : ∃ A cap, v = .slice A ls.length cap ∧ WAt W A ls
theorem ends9_ret {w Z : World} {t : ByteArray} {v : Value} {k err : Nat} {act : Act} {r r' : List (List De) × St × Nat} (hr : r = r') (h2 : act.tmps[4]?.getD undef = v) (h3 : act.tmps[5]?.getD undef = .pointer (some ⟨w.heap.size + 1, 0, none⟩)) (h4 : act.tmps[6]?.getD undef = .int .i64 (r'.2.2 : Int)) (hd : act.defers = [])
    (hE : Ends9 w t v r'.1 k err Z) (hS : Stands t k err r'.2.1) (hs : r'.2.1.err = err) : bodyPost Tryd.prog Tryd.f39 (ReadPost9 t r w) .ret act Z := by
  subst hr hs
  have hb := hE.r
  unfold RBox at hb
  obtain ⟨y0, y1, y2, _, _, _⟩ := cells3 hb
  refine bodyPost_ret (v := .tuple #[v, .agg #[.string t, .int .i64 (k : Int), .int .i64 (r.2.1.err : Int)], .int .i64 (r.2.2 : Int)]) ?_ hd ⟨v, k, rfl, hS, hE.at', hE.below⟩
  simp [results, Tryd.results39, go_sem, h2, h3, h4, y0, y1, y2]
theorem R9.ends {w W : World} {t : ByteArray} {bx kk : Nat} {v : Value} {ls : List (List De)} {S S' : St} (h : R9 w t bx v ls S W) : Ends9 w t v ls kk S'.err (put3 W (w.heap.size + 1) (.string t) (.int .i64 (kk : Int)) (.int .i64 (S'.err : Int))).drew := by
  have e := h.hx
  have hn := h.nil
  unfold RNil at hn
  obtain ⟨A, cap, rfl⟩ := h.own.slice
  refine ⟨Below.drew (put3_below h.below (by omega) _ _ _), put3_same hn _ _ _, A, cap, rfl, ?_⟩
  have hk : OwnW (put3 W (w.heap.size + 1) (.string t) (.int .i64 (kk : Int)) (.int .i64 (S'.err : Int))) (bx + 1) (.slice A ls.length cap) ls := h.own.keep fun g hg => put3_far (by omega) _ _ _
  exact hk.at
theorem R9.ends0 {w W : World} {t : ByteArray} {bx kk : Nat} {v : Value} {ls : List (List De)} {S S' : St} (h : R9 w t bx v ls S W) : Ends9 w t (.slice none 0 0) [] kk S'.err (put3 W (w.heap.size + 1) (.string t) (.int .i64 (kk : Int)) (.int .i64 (S'.err : Int))).drew := by
  have e := h.hx
  have hn := h.nil
  unfold RNil at hn
  exact ⟨Below.drew (put3_below h.below (by omega) _ _ _), put3_same hn _ _ _, none, 0, rfl, WAt.nil _ _⟩
end Go.Proofs.YtfkcmdnnmnkklaaDoor.need
