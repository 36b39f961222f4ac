/-
  Texts of one claim in one file: RefNum. Each has its own sentence, with its conditions.
-/
import Derived.Test.YtahejekcfgkiaaaGreatDoorGall3
/-
  The document's numbers as they are read: it reads what the program's reader reads, from the same place, with the same first error. A text of at most two to the forty-seventh bytes.
-/
namespace Go.Proofs.YtahejekcfgkiaaaGreatDoor.octet
open Go.RowKit Go.ChangeShapes
set_option linter.unusedVariables false

theorem stands_byte {t : ByteArray} {k err : Nat} {s : St} (h : Stands t k err s) : (refByte t k err).1 = (rdByte s).1 ∧ Stands t (refByte t k err).2.1 (refByte t k err).2.2 (rdByte s).2 := by
  obtain ⟨rest, e0⟩ := s
  obtain ⟨hk, hr, he, hok⟩ := h
  simp only at hr he
  subst he
  have hsz : t.data.toList.length = t.size := by rw [Array.length_toList]; rfl
  by_cases hlt : k < t.size
  · have hcons : rest = t.data.toList.getD k 0 :: t.data.toList.drop (k + 1) := by
      rw [hr, List.getD_eq_getElem?_getD, List.getElem?_eq_getElem (by omega), Option.getD_some]
      exact List.drop_eq_getElem_cons (by omega)
    have he0 : e0 = 0 := by
      rcases Nat.eq_zero_or_pos e0 with h0 | h0
      · exact h0
      · have h1 : rest = [] := hok (by show e0 ≠ 0; omega)
        rw [hcons] at h1
        cases h1
    subst he0
    have e1 : refByte t k 0 = ((t.data.toList.getD k 0).toNat, k + 1, 0) := by unfold refByte; rw [if_pos hlt]
    have e2 : rdByte ⟨rest, 0⟩ = ((t.data.toList.getD k 0).toNat, ⟨t.data.toList.drop (k + 1), 0⟩) := by rw [hcons]; rfl
    rw [e1, e2]
    exact ⟨rfl, by show k + 1 ≤ _; omega, rfl, rfl, fun h => absurd rfl h⟩
  · have hnil : rest = [] := by rw [hr]; exact List.drop_of_length_le (by omega)
    subst hnil
    have e1 : refByte t k e0 = (0, if e0 = 0 then (t.size, 3) else (k, e0)) := by unfold refByte; rw [if_neg hlt]
    rw [e1]
    by_cases he0 : e0 = 0
    · subst he0
      have e2 : rdByte ⟨[], 0⟩ = (0, ⟨[], 3⟩) := rfl
      rw [e2, if_pos rfl]
      exact ⟨rfl, Nat.le_refl _, (List.drop_of_length_le (by rw [hsz]; exact Nat.le_refl _)).symm, rfl, fun _ => rfl⟩
    · have e2 : rdByte ⟨[], e0⟩ = (0, ⟨[], e0⟩) := by unfold rdByte; simp [he0]
      rw [e2, if_neg he0]
      exact ⟨rfl, hk, hr, rfl, hok⟩

theorem stands_fail {t : ByteArray} {k err : Nat} {s : St} (h : Stands t k err s) (e : Nat) : Stands t (if err = 0 then t.size else k) (if err = 0 then e else err) (s.fail e) := by
  obtain ⟨hk, hr, he, hok⟩ := h
  have hsz : t.data.toList.length = t.size := by rw [Array.length_toList]; rfl
  unfold St.fail
  by_cases h0 : err = 0
  · rw [if_pos h0, if_pos h0, if_neg (by omega)]
    exact ⟨Nat.le_refl _, (List.drop_of_length_le (by omega)).symm, rfl, fun _ => rfl⟩
  · rw [if_neg h0, if_neg h0, if_pos (by omega)]
    exact ⟨hk, hr, he, hok⟩

/-- The document's reader in a block of its own. -/
def RefAt (w : World) (b : Nat) (t : ByteArray) (k err : Nat) : Prop := w.heap[b]? = some (.cells #[.string t, .int .i64 (k : Int), .int .i64 (err : Int)] 79 (0, 0))
section
variable {w : World} {b : Nat} {t : ByteArray} {k err : Nat}
theorem RefAt.lt (h : RefAt w b t k err) : b < w.heap.size := lt_of_block h
theorem RefAt.cell0 (h : RefAt w b t k err) : w.cell? ⟨b, 0, none⟩ = some (.string t) := by unfold RefAt at h; simp [World.cell?, h]
theorem RefAt.cell1 (h : RefAt w b t k err) : w.cell? ⟨b, 1, none⟩ = some (.int .i64 (k : Int)) := by unfold RefAt at h; simp [World.cell?, h]
theorem RefAt.cell2 (h : RefAt w b t k err) : w.cell? ⟨b, 2, none⟩ = some (.int .i64 (err : Int)) := by unfold RefAt at h; simp [World.cell?, h]
theorem RefAt.free (h : RefAt w b t k err) (i : Nat) : w.frozen? ⟨b, i, none⟩ = false := by unfold RefAt at h; simp [World.frozen?, h]
theorem RefAt.set3 (h : RefAt w b t k err) (t' : ByteArray) (k' e' : Nat) : RefAt (((w.setCell ⟨b, 0, none⟩ (.string t')).setCell ⟨b, 1, none⟩ (.int .i64 (k' : Int))).setCell ⟨b, 2, none⟩ (.int .i64 (e' : Int))) b t' k' e' := by
  unfold RefAt at h
  unfold RefAt
  simp [World.setCell, Array.getElem?_modify, h]
theorem RefAt.far (h : RefAt w b t k err) {p : Addr} (hp : b ≠ p.block) (u : Value) : RefAt (w.setCell p u) b t k err := (Below.heap_setCell w p u b hp).trans h
theorem RefAt.below {w' : World} {B : Nat} (h : RefAt w b t k err) (hb : Below B w w') (hB : b < B) : RefAt w' b t k err := (hb.block b hB).trans h
end

theorem alloc_two (w : World) (o1 o2 : Obj) : ((w.alloc o1).alloc o2).heap[w.heap.size + 1]? = some o2 := by
  have h := heap_alloc_new (w.alloc o1) o2
  rwa [World.size_alloc] at h
/-- The document's byte, by the program's. -/
theorem refByte_stands (w : World) (t : ByteArray) (k err : Nat) (s : St) (ht : t.size ≤ 140737489403904) (hst : Stands t k err s) :
    ∃ k1 : Nat, Calls Tryz.prog 59 #[.agg #[.string t, .int .i64 (k : Int), .int .i64 (err : Int)]] w (fun r w' => r = .returned (.tuple #[.int .i64 ((rdByte s).1 : Int), .agg #[.string t, .int .i64 (k1 : Int), .int .i64 ((rdByte s).2.err : Int)]]) ∧ Below w.heap.size w w') ∧ Stands t k1 (rdByte s).2.err (rdByte s).2 := by
  obtain ⟨h1, h2⟩ := stands_byte hst
  refine ⟨(refByte t k err).2.1, ?_, ?_⟩
  · have h3 := refByte_any w t k err ht hst.1
    rw [h1, ← h2.2.2.1] at h3
    exact h3
  · rw [h2.2.2.1]
    exact h2

theorem cast_pow (kk : Nat) : ((128 : Int) ^ kk) = ((128 ^ kk : Nat) : Int) := by simp
theorem ref_sum {c kk acc : Nat} (hbad : ¬ ((kk = 9 ∧ 1 < c) ∨ (0 < kk ∧ c = 0))) (hk : kk ≤ 9) (hc : c < 256) (ha : acc < 128 ^ kk) :
    IntKind.u64.wrap ((acc : Int) + IntKind.u64.wrap ((c : Int) % 128 * 128 ^ kk)) = ((acc + c % 128 * 128 ^ kk : Nat) : Int) := by
  have hle : (128 : Nat) ^ kk ≤ 128 ^ 9 := Nat.pow_le_pow_right (by omega) hk
  have h9 : (128 : Nat) ^ 9 = 9223372036854775808 := rfl
  have hX : c % 128 * 128 ^ kk ≤ 9223372036854775808 := by
    by_cases h8 : kk = 9
    · subst h8
      have : c % 128 * 128 ^ 9 ≤ 1 * 128 ^ 9 := Nat.mul_le_mul_right _ (by omega)
      omega
    · have h1 : c % 128 * 128 ^ kk ≤ 127 * 128 ^ kk := Nat.mul_le_mul_right _ (by omega)
      have h2 : (128 : Nat) ^ kk ≤ 128 ^ 8 := Nat.pow_le_pow_right (by omega) (by omega)
      have h3 : (128 : Nat) ^ 8 = 72057594037927936 := rfl
      omega
  have e1 : (c : Int) % 128 * 128 ^ kk = ((c % 128 * 128 ^ kk : Nat) : Int) := by
    rw [cast_pow, Int.natCast_mul, Int.natCast_emod]
    rfl
  rw [e1]
  generalize c % 128 * 128 ^ kk = x at *
  rw [IntKind.wrap_u64, IntKind.wrap_u64]
  omega
theorem ref_by {kk : Nat} (hk : kk + 1 ≤ 9) : IntKind.u64.wrap ((128 : Int) ^ kk * 128) = ((128 ^ (kk + 1) : Nat) : Int) := by
  have hle : (128 : Nat) ^ (kk + 1) ≤ 128 ^ 9 := Nat.pow_le_pow_right (by omega) hk
  have h9 : (128 : Nat) ^ 9 = 9223372036854775808 := rfl
  rw [cast_pow, show ((128 ^ kk : Nat) : Int) * 128 = ((128 ^ (kk + 1) : Nat) : Int) from by rw [Nat.pow_succ, Int.natCast_mul]; rfl]
  generalize (128 : Nat) ^ (kk + 1) = x at *
  rw [IntKind.wrap_u64]
  omega

/-- What the document's reading ends in: a value, and its reader, which stands where the program's does. -/
def RefEnds (t : ByteArray) (x : Value) (s : St) (e : Ending) : Prop := ∃ k, e = .returned (.tuple #[x, RV t k s.err]) ∧ Stands t k s.err s

set_option maxHeartbeats 4000000 in
set_option maxRecDepth 100000 in
theorem refNum_any (w : World) (t : ByteArray) (k err : Nat) (s : St) (ht : t.size ≤ 140737489403904) (hst : Stands t k err s) :
    Calls Tryz.prog 61 #[RV t k err] w fun e w' => RefEnds t (.int .u64 ((rdNum s).1 : Int)) (rdNum s).2 e ∧ Below w.heap.size w w' := by
  have HST := Lib.hid hst
  clear hst
  unfold RV
  go_enter Tryz.func61, Tryz.ntmps61
  go_wp2
  go_loopw [4, 5, 7] (fun n y kv wr => ∃ (kk acc k' err' : Nat) (s' : St), kv = .int .i64 (kk : Int) ∧ kk ≤ 9 ∧ n = .int .u64 (acc : Int) ∧ y = .int .u64 ((128 ^ kk : Nat) : Int) ∧ acc < 128 ^ kk ∧
    Stands t k' err' s' ∧ decS s' kk acc = rdNum s ∧ RefAt wr w.heap.size t k' err' ∧ RefAt wr (w.heap.size + 1) ⟨#[]⟩ 0 0 ∧ Below w.heap.size w wr) (fun _ _ kv _ => 9 - (intOf kv).toNat)
  case atStart =>
    refine ⟨0, 0, k, err, s, rfl, by omega, rfl, rfl, by simp, HST.out, rfl, ?_, ?_, by go_grown⟩
    · exact (Below.heap_alloc _ _ _ (by simp)).trans (heap_alloc_new w _)
    · exact alloc_two w _ _
  case round =>
    obtain ⟨kk, acc, k', err', s', rfl, hk, rfl, rfl, hacc, hs', hd, hr1, hr2, hbw⟩ := hrel
    obtain ⟨k1, hcon, hs1⟩ := refByte_stands wr t k' err' s' ht hs'
    have HC := Lib.hid hcon
    have HS1 := Lib.hid hs1
    have HD := Lib.hid hd
    have HA := Lib.hid hacc
    have HS' := Lib.hid hs'
    have c10 := hr1.cell0
    have c11 := hr1.cell1
    have c12 := hr1.cell2
    clear hcon hs1 hd hacc hs'
    by_cases he : (rdByte s').2.err = 0
    · obtain ⟨b, r, rfl⟩ : ∃ b r, s' = ⟨b :: r, 0⟩ := rdByte_some he
      clear he
      have e1 : rdByte ⟨b :: r, 0⟩ = (b.toNat, ⟨r, 0⟩) := rfl
      have hb256 : b.toNat < 256 := b.toNat_lt
      rw [e1] at HC HS1
      clear e1
      by_cases hbad : (kk = 9 ∧ 1 < b.toNat) ∨ (0 < kk ∧ b.toNat = 0)
      · have hfin : rdNum s = (0, ⟨[], 2⟩) := by
          rw [← HD.out]
          unfold decS
          rw [if_neg (by simp), dec_err hbad]
        have HF := Lib.hid hfin
        have HB := Lib.hid hbad
        clear hbad hfin
        generalize b.toNat = c at *
        have hcase : ((((kk : Int) == 9) = true ∧ decide (1 < (c : Int)) = true ∧ decide (0 < (kk : Int)) = true ∧ ((c : Int) == 0) = false) ∨
          (((kk : Int) == 9) = true ∧ decide (1 < (c : Int)) = false ∧ decide (0 < (kk : Int)) = true ∧ ((c : Int) == 0) = true)) ∨
          (((kk : Int) == 9) = false ∧ decide (1 < (c : Int)) = false ∧ decide (0 < (kk : Int)) = true ∧ ((c : Int) == 0) = true) := by
          have h1 := HB.out
          simp only [beq_iff_eq, beq_eq_false_iff_ne, decide_eq_true_eq, decide_eq_false_iff_not]
          omega
        have hfail : ∀ W : World, Calls Tryz.prog 86 #[.agg #[.string t, .int .i64 (k1 : Int), .int .i64 0], .int .i64 2] W fun r w' => r = .returned (.agg #[.string t, .int .i64 (t.size : Int), .int .i64 2]) ∧ Below W.heap.size W w' := fun W => refFail_any W t k1 0 2 ht
        have HX := Lib.hid hfail
        clear hfail
        go_wp2_with fail
        refine HC.out.mono ?_
        rintro e w1 ⟨rfl, hb1⟩
        have q1 := hr1.below hb1 hr1.lt
        have q2 := hr2.below hb1 hr2.lt
        clear c10 c11 c12
        have c10 := q1.cell0
        have c11 := q1.cell1
        have c12 := q1.cell2
        have c20 := q2.cell0
        have c21 := q2.cell1
        have c22 := q2.cell2
        have f10 := q1.free 0
        have f11 := q1.free 1
        have f12 := q1.free 2
        have f20 := q2.free 0
        have f21 := q2.free 1
        have f22 := q2.free 2
        rcases hcase with (⟨f1, f2, f3, f4⟩ | ⟨f1, f2, f3, f4⟩) | ⟨f1, f2, f3, f4⟩
        all_goals
          have g3 : 0 < kk := by simpa using f3
          go_wp2_with fail
          refine (HX.out _).mono ?_
          rintro e w2 ⟨rfl, hb2⟩
          have q3 := (((q2.far (p := ⟨w.heap.size, 0, none⟩) (by simp) (.string t)).far (p := ⟨w.heap.size, 1, none⟩) (by simp) (.int .i64 (k1 : Int))).far (p := ⟨w.heap.size, 2, none⟩) (by simp) (.int .i64 0)).below hb2 (by simp only [World.size_setCell]; exact q2.lt)
          have hbb : Below w.heap.size w w2 := by
            have h1 := hbw.trans (hb1.mono hbw.size)
            have h2 : Below w.heap.size w (((w1.setCell ⟨w.heap.size, 0, none⟩ (.string t)).setCell ⟨w.heap.size, 1, none⟩ (.int .i64 (k1 : Int))).setCell ⟨w.heap.size, 2, none⟩ (.int .i64 0)) := by go_grown
            exact h2.trans (hb2.mono h2.size)
          have HBB := Lib.hid hbb
          clear hbb c20 c21 c22 f20 f21 f22 q2
          have c20 := q3.cell0
          have c21 := q3.cell1
          have c22 := q3.cell2
          have f20 := q3.free 0
          have f21 := q3.free 1
          have f22 := q3.free 2
          go_wp2
          refine bodyPost_ret (v := .tuple #[.int .u64 0, .agg #[.string t, .int .i64 (t.size : Int), .int .i64 2]]) (by simp [results, Tryz.results61, go_sem, c20, c21, c22]) rfl ⟨?_, ?_⟩
          · rw [HF.out]
            exact ⟨t.size, rfl, stands_fail HS1.out 2⟩
          · have hbb := HBB.out
            go_grown
      · have hfin : decS ⟨b :: r, 0⟩ kk acc = if b.toNat < 128 then (acc + b.toNat % 128 * 128 ^ kk, ⟨r, 0⟩) else decS ⟨r, 0⟩ (kk + 1) (acc + b.toNat % 128 * 128 ^ kk) := by
          unfold decS
          by_cases hb : b.toNat < 128
          · rw [if_neg (by simp), dec_last hbad hb, if_pos hb]
          · rw [if_neg (by simp), dec_next hbad hb, if_neg hb, if_neg (by simp)]
        have HF := Lib.hid hfin
        have HB := Lib.hid hbad
        clear hbad hfin
        generalize b.toNat = c at *
        have hcase : ((((kk : Int) == 9) = true ∧ decide (1 < (c : Int)) = false ∧ decide (0 < (kk : Int)) = true ∧ ((c : Int) == 0) = false ∧ 0 < kk) ∨
          (((kk : Int) == 9) = false ∧ decide (0 < (kk : Int)) = true ∧ ((c : Int) == 0) = false ∧ 0 < kk)) ∨
          (((kk : Int) == 9) = false ∧ decide (0 < (kk : Int)) = false ∧ ¬ 0 < kk) := by
          have h1 := HB.out
          simp only [beq_iff_eq, beq_eq_false_iff_ne, decide_eq_true_eq, decide_eq_false_iff_not]
          omega
        go_wp2_with fail
        refine HC.out.mono ?_
        rintro e w1 ⟨rfl, hb1⟩
        have q1 := hr1.below hb1 hr1.lt
        have q2 := hr2.below hb1 hr2.lt
        clear c10 c11 c12
        have c10 := q1.cell0
        have c11 := q1.cell1
        have c12 := q1.cell2
        have c20 := q2.cell0
        have c21 := q2.cell1
        have c22 := q2.cell2
        have f10 := q1.free 0
        have f11 := q1.free 1
        have f12 := q1.free 2
        have f20 := q2.free 0
        have f21 := q2.free 1
        have f22 := q2.free 2
        have HO := Lib.hid (ref_sum HB.out hk hb256 HA.out)
        have HBB := Lib.hid (hbw.trans (hb1.mono hbw.size))
        by_cases hb : c < 128
        · have g1 : decide ((c : Int) < 128) = true := by simp; omega
          have h2 := HF.out
          rw [if_pos hb] at h2
          have hfin : rdNum s = (acc + c % 128 * 128 ^ kk, ⟨r, 0⟩) := by rw [← HD.out]; exact h2
          have HR := Lib.hid hfin
          clear h2 hfin
          rcases hcase with (⟨f1, f2, f3, f4, g3⟩ | ⟨f1, f3, f4, g3⟩) | ⟨f1, f3, h3⟩
          · skip
            go_wp2
            go_region
            go_wp2
            rw [HO.out]
            refine bodyPost_ret (v := .tuple #[.int .u64 ((acc + c % 128 * 128 ^ kk : Nat) : Int), .agg #[.string t, .int .i64 (k1 : Int), .int .i64 0]]) (by simp [results, Tryz.results61, go_sem, c20, c21, c22]) rfl ⟨?_, ?_⟩
            · rw [HR.out]
              exact ⟨k1, rfl, HS1.out⟩
            · have hbb := HBB.out
              go_grown
          · skip
            go_wp2
            go_region
            go_wp2
            rw [HO.out]
            refine bodyPost_ret (v := .tuple #[.int .u64 ((acc + c % 128 * 128 ^ kk : Nat) : Int), .agg #[.string t, .int .i64 (k1 : Int), .int .i64 0]]) (by simp [results, Tryz.results61, go_sem, c20, c21, c22]) rfl ⟨?_, ?_⟩
            · rw [HR.out]
              exact ⟨k1, rfl, HS1.out⟩
            · have hbb := HBB.out
              go_grown
          · have g3 : (0 < kk) = False := eq_false h3
            clear h3
            go_wp2
            go_region
            go_wp2
            rw [HO.out]
            refine bodyPost_ret (v := .tuple #[.int .u64 ((acc + c % 128 * 128 ^ kk : Nat) : Int), .agg #[.string t, .int .i64 (k1 : Int), .int .i64 0]]) (by simp [results, Tryz.results61, go_sem, c20, c21, c22]) rfl ⟨?_, ?_⟩
            · rw [HR.out]
              exact ⟨k1, rfl, HS1.out⟩
            · have hbb := HBB.out
              go_grown
        · have g1 : decide ((c : Int) < 128) = false := by simp; omega
          have hk9 : kk + 1 ≤ 9 := by
            have h1 := HB.out
            omega
          have HY := Lib.hid (ref_by hk9)
          rcases hcase with (⟨f1, f2, f3, f4, g3⟩ | ⟨f1, f3, f4, g3⟩) | ⟨f1, f3, h3⟩
          · exfalso
            have h1 := HB.out
            simp only [beq_iff_eq, decide_eq_false_iff_not] at f1 f2
            omega
          · skip
            go_wp2
            rw [HO.out]
            refine ⟨⟨kk + 1, acc + c % 128 * 128 ^ kk, k1, 0, ⟨r, 0⟩, by go_num, hk9, rfl, ?_, acc_next HA.out, HS1.out, ?_, q1.set3 t k1 0, ((q2.far (by simp) _).far (by simp) _).far (by simp) _, ?_⟩, ?_⟩
            · rw [HY.out]
            · have h1 := HF.out
              rw [if_neg hb] at h1
              rw [← h1]
              exact HD.out
            · have hbb := HBB.out
              go_grown
            · simp [intOf]
              omega
          · have g3 : (0 < kk) = False := eq_false h3
            clear h3
            go_wp2
            rw [HO.out]
            refine ⟨⟨kk + 1, acc + c % 128 * 128 ^ kk, k1, 0, ⟨r, 0⟩, by go_num, hk9, rfl, ?_, acc_next HA.out, HS1.out, ?_, q1.set3 t k1 0, ((q2.far (by simp) _).far (by simp) _).far (by simp) _, ?_⟩, ?_⟩
            · rw [HY.out]
            · have h1 := HF.out
              rw [if_neg hb] at h1
              rw [← h1]
              exact HD.out
            · have hbb := HBB.out
              go_grown
            · simp [intOf]
              omega
    · have hfin : rdNum s = (0, (rdByte s').2) := by
        rw [← HD.out]
        exact rdByte_none he
      have HF := Lib.hid hfin
      clear hfin
      have he' : (((rdByte s').2.err : Int) != 0) = true := by simp [he]
      have HE := Lib.hid he
      clear he
      go_wp2_with fail
      refine HC.out.mono ?_
      rintro e w1 ⟨rfl, hb1⟩
      have q1 := hr1.below hb1 hr1.lt
      have q2 := hr2.below hb1 hr2.lt
      clear c10 c11 c12
      have c10 := q1.cell0
      have c11 := q1.cell1
      have c12 := q1.cell2
      have c20 := q2.cell0
      have c21 := q2.cell1
      have c22 := q2.cell2
      have f10 := q1.free 0
      have f11 := q1.free 1
      have f12 := q1.free 2
      have f20 := q2.free 0
      have f21 := q2.free 1
      have f22 := q2.free 2
      go_wp2
      go_region
      all_goals go_wp2
      refine bodyPost_ret (v := .tuple #[.int .u64 0, .agg #[.string t, .int .i64 (k1 : Int), .int .i64 ((rdByte s').2.err : Int)]]) (by simp [results, Tryz.results61, go_sem, *]) rfl ⟨?_, ?_⟩
      · rw [HF.out]
        exact ⟨k1, rfl, HS1.out⟩
      · have hbb := hbw.trans (hb1.mono hbw.size)
        go_grown
end Go.Proofs.YtahejekcfgkiaaaGreatDoor.octet
