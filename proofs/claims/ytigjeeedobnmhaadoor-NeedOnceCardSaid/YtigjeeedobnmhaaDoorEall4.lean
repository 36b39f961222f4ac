/-
  Texts of one claim in one file: RefNum, RefText, RefPlain, ERefRead, EGetRow, ECheck, Out, Put, EInt, ERefPut. Each has its own sentence, with its conditions.
-/
import Derived.Test.YtigjeeedobnmhaaDoorEall3
import Derived.Test.YtigjeeedobnmhaaDoorEall1
import Derived.Laws.MakeOwn
import Derived.Test.YtigjeeedobnmhaaDoorProg
import Derived.Lib.AppendStr
import Derived.Lib.Hide
import Derived.Laws.IdiomStrings
import Derived.ProofKit
import Derived.Handy
import Derived.Lib.Strings
import Derived.Lib.SmallJoins
import Derived.Test.YtigjeeedobnmhaaDoorEall2
/-
  The document's numbers as they are read: it reads what the program's reader reads, from the same place, with the same first error. A text of at most two to the forty-seventh bytes.
-/
namespace Go.Proofs.YtigjeeedobnmhaaDoor.octet
open Go.RowKit Go.ChangeShapes
set_option linter.unusedVariables false

theorem stands_byte {t : ByteArray} {k err : Nat} {s : St} (h : Stands t k err s) : (refByte t k err).1 = (rdByte s).1 ∧ Stands t (refByte t k err).2.1 (refByte t k err).2.2 (rdByte s).2 := by
  obtain ⟨rest, e0⟩ := s
  obtain ⟨hk, hr, he, hok⟩ := h
  simp only at hr he
  subst he
  have hsz : t.data.toList.length = t.size := by rw [Array.length_toList]; rfl
  by_cases hlt : k < t.size
  · have hcons : rest = t.data.toList.getD k 0 :: t.data.toList.drop (k + 1) := by
      rw [hr, List.getD_eq_getElem?_getD, List.getElem?_eq_getElem (by omega), Option.getD_some]
      exact List.drop_eq_getElem_cons (by omega)
    have he0 : e0 = 0 := by
      rcases Nat.eq_zero_or_pos e0 with h0 | h0
      · exact h0
      · have h1 : rest = [] := hok (by show e0 ≠ 0; omega)
        rw [hcons] at h1
        cases h1
    subst he0
    have e1 : refByte t k 0 = ((t.data.toList.getD k 0).toNat, k + 1, 0) := by unfold refByte; rw [if_pos hlt]
    have e2 : rdByte ⟨rest, 0⟩ = ((t.data.toList.getD k 0).toNat, ⟨t.data.toList.drop (k + 1), 0⟩) := by rw [hcons]; rfl
    rw [e1, e2]
    exact ⟨rfl, by show k + 1 ≤ _; omega, rfl, rfl, fun h => absurd rfl h⟩
  · have hnil : rest = [] := by rw [hr]; exact List.drop_of_length_le (by omega)
    subst hnil
    have e1 : refByte t k e0 = (0, if e0 = 0 then (t.size, 3) else (k, e0)) := by unfold refByte; rw [if_neg hlt]
    rw [e1]
    by_cases he0 : e0 = 0
    · subst he0
      have e2 : rdByte ⟨[], 0⟩ = (0, ⟨[], 3⟩) := rfl
      rw [e2, if_pos rfl]
      exact ⟨rfl, Nat.le_refl _, (List.drop_of_length_le (by rw [hsz]; exact Nat.le_refl _)).symm, rfl, fun _ => rfl⟩
    · have e2 : rdByte ⟨[], e0⟩ = (0, ⟨[], e0⟩) := by unfold rdByte; simp [he0]
      rw [e2, if_neg he0]
      exact ⟨rfl, hk, hr, rfl, hok⟩

theorem stands_fail {t : ByteArray} {k err : Nat} {s : St} (h : Stands t k err s) (e : Nat) : Stands t (if err = 0 then t.size else k) (if err = 0 then e else err) (s.fail e) := by
  obtain ⟨hk, hr, he, hok⟩ := h
  have hsz : t.data.toList.length = t.size := by rw [Array.length_toList]; rfl
  unfold St.fail
  by_cases h0 : err = 0
  · rw [if_pos h0, if_pos h0, if_neg (by omega)]
    exact ⟨Nat.le_refl _, (List.drop_of_length_le (by omega)).symm, rfl, fun _ => rfl⟩
  · rw [if_neg h0, if_neg h0, if_pos (by omega)]
    exact ⟨hk, hr, he, hok⟩

/-- The document's reader in a block of its own. -/
def RefAt (w : World) (b : Nat) (t : ByteArray) (k err : Nat) : Prop := w.heap[b]? = some (.cells #[.string t, .int .i64 (k : Int), .int .i64 (err : Int)] 69 (0, 0))
section
variable {w : World} {b : Nat} {t : ByteArray} {k err : Nat}
theorem RefAt.lt (h : RefAt w b t k err) : b < w.heap.size := lt_of_block h
theorem RefAt.cell0 (h : RefAt w b t k err) : w.cell? ⟨b, 0, none⟩ = some (.string t) := by unfold RefAt at h; simp [World.cell?, h]
theorem RefAt.cell1 (h : RefAt w b t k err) : w.cell? ⟨b, 1, none⟩ = some (.int .i64 (k : Int)) := by unfold RefAt at h; simp [World.cell?, h]
theorem RefAt.cell2 (h : RefAt w b t k err) : w.cell? ⟨b, 2, none⟩ = some (.int .i64 (err : Int)) := by unfold RefAt at h; simp [World.cell?, h]
theorem RefAt.free (h : RefAt w b t k err) (i : Nat) : w.frozen? ⟨b, i, none⟩ = false := by unfold RefAt at h; simp [World.frozen?, h]
theorem RefAt.set3 (h : RefAt w b t k err) (t' : ByteArray) (k' e' : Nat) : RefAt (((w.setCell ⟨b, 0, none⟩ (.string t')).setCell ⟨b, 1, none⟩ (.int .i64 (k' : Int))).setCell ⟨b, 2, none⟩ (.int .i64 (e' : Int))) b t' k' e' := by
  unfold RefAt at h
  unfold RefAt
  simp [World.setCell, Array.getElem?_modify, h]
theorem RefAt.far (h : RefAt w b t k err) {p : Addr} (hp : b ≠ p.block) (u : Value) : RefAt (w.setCell p u) b t k err := (Below.heap_setCell w p u b hp).trans h
theorem RefAt.below {w' : World} {B : Nat} (h : RefAt w b t k err) (hb : Below B w w') (hB : b < B) : RefAt w' b t k err := (hb.block b hB).trans h
end

theorem alloc_two (w : World) (o1 o2 : Obj) : ((w.alloc o1).alloc o2).heap[w.heap.size + 1]? = some o2 := by
  have h := heap_alloc_new (w.alloc o1) o2
  rwa [World.size_alloc] at h
/-- The document's byte, by the program's. -/
theorem refByte_stands (w : World) (t : ByteArray) (k err : Nat) (s : St) (ht : t.size ≤ 140737488355328) (hst : Stands t k err s) :
    ∃ k1 : Nat, Calls Tryd.prog 50 #[.agg #[.string t, .int .i64 (k : Int), .int .i64 (err : Int)]] w (fun r w' => r = .returned (.tuple #[.int .i64 ((rdByte s).1 : Int), .agg #[.string t, .int .i64 (k1 : Int), .int .i64 ((rdByte s).2.err : Int)]]) ∧ Below w.heap.size w w') ∧ Stands t k1 (rdByte s).2.err (rdByte s).2 := by
  obtain ⟨h1, h2⟩ := stands_byte hst
  refine ⟨(refByte t k err).2.1, ?_, ?_⟩
  · have h3 := refByte_any w t k err ht hst.1
    rw [h1, ← h2.2.2.1] at h3
    exact h3
  · rw [h2.2.2.1]
    exact h2

theorem cast_pow (kk : Nat) : ((128 : Int) ^ kk) = ((128 ^ kk : Nat) : Int) := by simp
theorem ref_sum {c kk acc : Nat} (hbad : ¬ ((kk = 9 ∧ 1 < c) ∨ (0 < kk ∧ c = 0))) (hk : kk ≤ 9) (hc : c < 256) (ha : acc < 128 ^ kk) :
    IntKind.u64.wrap ((acc : Int) + IntKind.u64.wrap ((c : Int) % 128 * 128 ^ kk)) = ((acc + c % 128 * 128 ^ kk : Nat) : Int) := by
  have hle : (128 : Nat) ^ kk ≤ 128 ^ 9 := Nat.pow_le_pow_right (by omega) hk
  have h9 : (128 : Nat) ^ 9 = 9223372036854775808 := rfl
  have hX : c % 128 * 128 ^ kk ≤ 9223372036854775808 := by
    by_cases h8 : kk = 9
    · subst h8
      have : c % 128 * 128 ^ 9 ≤ 1 * 128 ^ 9 := Nat.mul_le_mul_right _ (by omega)
      omega
    · have h1 : c % 128 * 128 ^ kk ≤ 127 * 128 ^ kk := Nat.mul_le_mul_right _ (by omega)
      have h2 : (128 : Nat) ^ kk ≤ 128 ^ 8 := Nat.pow_le_pow_right (by omega) (by omega)
      have h3 : (128 : Nat) ^ 8 = 72057594037927936 := rfl
      omega
  have e1 : (c : Int) % 128 * 128 ^ kk = ((c % 128 * 128 ^ kk : Nat) : Int) := by
    rw [cast_pow, Int.natCast_mul, Int.natCast_emod]
    rfl
  rw [e1]
  generalize c % 128 * 128 ^ kk = x at *
  rw [IntKind.wrap_u64, IntKind.wrap_u64]
  omega
theorem ref_by {kk : Nat} (hk : kk + 1 ≤ 9) : IntKind.u64.wrap ((128 : Int) ^ kk * 128) = ((128 ^ (kk + 1) : Nat) : Int) := by
  have hle : (128 : Nat) ^ (kk + 1) ≤ 128 ^ 9 := Nat.pow_le_pow_right (by omega) hk
  have h9 : (128 : Nat) ^ 9 = 9223372036854775808 := rfl
  rw [cast_pow, show ((128 ^ kk : Nat) : Int) * 128 = ((128 ^ (kk + 1) : Nat) : Int) from by rw [Nat.pow_succ, Int.natCast_mul]; rfl]
  generalize (128 : Nat) ^ (kk + 1) = x at *
  rw [IntKind.wrap_u64]
  omega

/-- What the document's reading ends in: a value, and its reader, which stands where the program's does. -/
def RefEnds (t : ByteArray) (x : Value) (s : St) (e : Ending) : Prop := ∃ k, e = .returned (.tuple #[x, RV t k s.err]) ∧ Stands t k s.err s

set_option maxHeartbeats 4000000 in
set_option maxRecDepth 100000 in
theorem refNum_any (w : World) (t : ByteArray) (k err : Nat) (s : St) (ht : t.size ≤ 140737488355328) (hst : Stands t k err s) :
    Calls Tryd.prog 49 #[RV t k err] w fun e w' => RefEnds t (.int .u64 ((rdNum s).1 : Int)) (rdNum s).2 e ∧ Below w.heap.size w w' := by
  have HST := Lib.hid hst
  clear hst
  unfold RV
  go_enter Tryd.func49, Tryd.ntmps49
  go_wp2
  go_loopw [4, 5, 7] (fun n y kv wr => ∃ (kk acc k' err' : Nat) (s' : St), kv = .int .i64 (kk : Int) ∧ kk ≤ 9 ∧ n = .int .u64 (acc : Int) ∧ y = .int .u64 ((128 ^ kk : Nat) : Int) ∧ acc < 128 ^ kk ∧
    Stands t k' err' s' ∧ decS s' kk acc = rdNum s ∧ RefAt wr w.heap.size t k' err' ∧ RefAt wr (w.heap.size + 1) ⟨#[]⟩ 0 0 ∧ Below w.heap.size w wr) (fun _ _ kv _ => 9 - (intOf kv).toNat)
  case atStart =>
    refine ⟨0, 0, k, err, s, rfl, by omega, rfl, rfl, by simp, HST.out, rfl, ?_, ?_, by go_grown⟩
    · exact (Below.heap_alloc _ _ _ (by simp)).trans (heap_alloc_new w _)
    · exact alloc_two w _ _
  case round =>
    obtain ⟨kk, acc, k', err', s', rfl, hk, rfl, rfl, hacc, hs', hd, hr1, hr2, hbw⟩ := hrel
    obtain ⟨k1, hcon, hs1⟩ := refByte_stands wr t k' err' s' ht hs'
    have HC := Lib.hid hcon
    have HS1 := Lib.hid hs1
    have HD := Lib.hid hd
    have HA := Lib.hid hacc
    have HS' := Lib.hid hs'
    have c10 := hr1.cell0
    have c11 := hr1.cell1
    have c12 := hr1.cell2
    clear hcon hs1 hd hacc hs'
    by_cases he : (rdByte s').2.err = 0
    · obtain ⟨b, r, rfl⟩ : ∃ b r, s' = ⟨b :: r, 0⟩ := rdByte_some he
      clear he
      have e1 : rdByte ⟨b :: r, 0⟩ = (b.toNat, ⟨r, 0⟩) := rfl
      have hb256 : b.toNat < 256 := b.toNat_lt
      rw [e1] at HC HS1
      clear e1
      by_cases hbad : (kk = 9 ∧ 1 < b.toNat) ∨ (0 < kk ∧ b.toNat = 0)
      · have hfin : rdNum s = (0, ⟨[], 2⟩) := by
          rw [← HD.out]
          unfold decS
          rw [if_neg (by simp), dec_err hbad]
        have HF := Lib.hid hfin
        have HB := Lib.hid hbad
        clear hbad hfin
        generalize b.toNat = c at *
        have hcase : ((((kk : Int) == 9) = true ∧ decide (1 < (c : Int)) = true ∧ decide (0 < (kk : Int)) = true ∧ ((c : Int) == 0) = false) ∨
          (((kk : Int) == 9) = true ∧ decide (1 < (c : Int)) = false ∧ decide (0 < (kk : Int)) = true ∧ ((c : Int) == 0) = true)) ∨
          (((kk : Int) == 9) = false ∧ decide (1 < (c : Int)) = false ∧ decide (0 < (kk : Int)) = true ∧ ((c : Int) == 0) = true) := by
          have h1 := HB.out
          simp only [beq_iff_eq, beq_eq_false_iff_ne, decide_eq_true_eq, decide_eq_false_iff_not]
          omega
        have hfail : ∀ W : World, Calls Tryd.prog 66 #[.agg #[.string t, .int .i64 (k1 : Int), .int .i64 0], .int .i64 2] W fun r w' => r = .returned (.agg #[.string t, .int .i64 (t.size : Int), .int .i64 2]) ∧ Below W.heap.size W w' := fun W => refFail_any W t k1 0 2 ht
        have HX := Lib.hid hfail
        clear hfail
        go_wp2_with fail
        refine HC.out.mono ?_
        rintro e w1 ⟨rfl, hb1⟩
        have q1 := hr1.below hb1 hr1.lt
        have q2 := hr2.below hb1 hr2.lt
        clear c10 c11 c12
        have c10 := q1.cell0
        have c11 := q1.cell1
        have c12 := q1.cell2
        have c20 := q2.cell0
        have c21 := q2.cell1
        have c22 := q2.cell2
        have f10 := q1.free 0
        have f11 := q1.free 1
        have f12 := q1.free 2
        have f20 := q2.free 0
        have f21 := q2.free 1
        have f22 := q2.free 2
        rcases hcase with (⟨f1, f2, f3, f4⟩ | ⟨f1, f2, f3, f4⟩) | ⟨f1, f2, f3, f4⟩
        all_goals
          have g3 : 0 < kk := by simpa using f3
          go_wp2_with fail
          refine (HX.out _).mono ?_
          rintro e w2 ⟨rfl, hb2⟩
          have q3 := (((q2.far (p := ⟨w.heap.size, 0, none⟩) (by simp) (.string t)).far (p := ⟨w.heap.size, 1, none⟩) (by simp) (.int .i64 (k1 : Int))).far (p := ⟨w.heap.size, 2, none⟩) (by simp) (.int .i64 0)).below hb2 (by simp only [World.size_setCell]; exact q2.lt)
          have hbb : Below w.heap.size w w2 := by
            have h1 := hbw.trans (hb1.mono hbw.size)
            have h2 : Below w.heap.size w (((w1.setCell ⟨w.heap.size, 0, none⟩ (.string t)).setCell ⟨w.heap.size, 1, none⟩ (.int .i64 (k1 : Int))).setCell ⟨w.heap.size, 2, none⟩ (.int .i64 0)) := by go_grown
            exact h2.trans (hb2.mono h2.size)
          have HBB := Lib.hid hbb
          clear hbb c20 c21 c22 f20 f21 f22 q2
          have c20 := q3.cell0
          have c21 := q3.cell1
          have c22 := q3.cell2
          have f20 := q3.free 0
          have f21 := q3.free 1
          have f22 := q3.free 2
          go_wp2
          refine bodyPost_ret (v := .tuple #[.int .u64 0, .agg #[.string t, .int .i64 (t.size : Int), .int .i64 2]]) (by simp [results, Tryd.results49, go_sem, c20, c21, c22]) rfl ⟨?_, ?_⟩
          · rw [HF.out]
            exact ⟨t.size, rfl, stands_fail HS1.out 2⟩
          · have hbb := HBB.out
            go_grown
      · have hfin : decS ⟨b :: r, 0⟩ kk acc = if b.toNat < 128 then (acc + b.toNat % 128 * 128 ^ kk, ⟨r, 0⟩) else decS ⟨r, 0⟩ (kk + 1) (acc + b.toNat % 128 * 128 ^ kk) := by
          unfold decS
          by_cases hb : b.toNat < 128
          · rw [if_neg (by simp), dec_last hbad hb, if_pos hb]
          · rw [if_neg (by simp), dec_next hbad hb, if_neg hb, if_neg (by simp)]
        have HF := Lib.hid hfin
        have HB := Lib.hid hbad
        clear hbad hfin
        generalize b.toNat = c at *
        have hcase : ((((kk : Int) == 9) = true ∧ decide (1 < (c : Int)) = false ∧ decide (0 < (kk : Int)) = true ∧ ((c : Int) == 0) = false ∧ 0 < kk) ∨
          (((kk : Int) == 9) = false ∧ decide (0 < (kk : Int)) = true ∧ ((c : Int) == 0) = false ∧ 0 < kk)) ∨
          (((kk : Int) == 9) = false ∧ decide (0 < (kk : Int)) = false ∧ ¬ 0 < kk) := by
          have h1 := HB.out
          simp only [beq_iff_eq, beq_eq_false_iff_ne, decide_eq_true_eq, decide_eq_false_iff_not]
          omega
        go_wp2_with fail
        refine HC.out.mono ?_
        rintro e w1 ⟨rfl, hb1⟩
        have q1 := hr1.below hb1 hr1.lt
        have q2 := hr2.below hb1 hr2.lt
        clear c10 c11 c12
        have c10 := q1.cell0
        have c11 := q1.cell1
        have c12 := q1.cell2
        have c20 := q2.cell0
        have c21 := q2.cell1
        have c22 := q2.cell2
        have f10 := q1.free 0
        have f11 := q1.free 1
        have f12 := q1.free 2
        have f20 := q2.free 0
        have f21 := q2.free 1
        have f22 := q2.free 2
        have HO := Lib.hid (ref_sum HB.out hk hb256 HA.out)
        have HBB := Lib.hid (hbw.trans (hb1.mono hbw.size))
        by_cases hb : c < 128
        · have g1 : decide ((c : Int) < 128) = true := by simp; omega
          have h2 := HF.out
          rw [if_pos hb] at h2
          have hfin : rdNum s = (acc + c % 128 * 128 ^ kk, ⟨r, 0⟩) := by rw [← HD.out]; exact h2
          have HR := Lib.hid hfin
          clear h2 hfin
          rcases hcase with (⟨f1, f2, f3, f4, g3⟩ | ⟨f1, f3, f4, g3⟩) | ⟨f1, f3, h3⟩
          · skip
            go_wp2
            go_region
            go_wp2
            rw [HO.out]
            refine bodyPost_ret (v := .tuple #[.int .u64 ((acc + c % 128 * 128 ^ kk : Nat) : Int), .agg #[.string t, .int .i64 (k1 : Int), .int .i64 0]]) (by simp [results, Tryd.results49, go_sem, c20, c21, c22]) rfl ⟨?_, ?_⟩
            · rw [HR.out]
              exact ⟨k1, rfl, HS1.out⟩
            · have hbb := HBB.out
              go_grown
          · skip
            go_wp2
            go_region
            go_wp2
            rw [HO.out]
            refine bodyPost_ret (v := .tuple #[.int .u64 ((acc + c % 128 * 128 ^ kk : Nat) : Int), .agg #[.string t, .int .i64 (k1 : Int), .int .i64 0]]) (by simp [results, Tryd.results49, go_sem, c20, c21, c22]) rfl ⟨?_, ?_⟩
            · rw [HR.out]
              exact ⟨k1, rfl, HS1.out⟩
            · have hbb := HBB.out
              go_grown
          · have g3 : (0 < kk) = False := eq_false h3
            clear h3
            go_wp2
            go_region
            go_wp2
            rw [HO.out]
            refine bodyPost_ret (v := .tuple #[.int .u64 ((acc + c % 128 * 128 ^ kk : Nat) : Int), .agg #[.string t, .int .i64 (k1 : Int), .int .i64 0]]) (by simp [results, Tryd.results49, go_sem, c20, c21, c22]) rfl ⟨?_, ?_⟩
            · rw [HR.out]
              exact ⟨k1, rfl, HS1.out⟩
            · have hbb := HBB.out
              go_grown
        · have g1 : decide ((c : Int) < 128) = false := by simp; omega
          have hk9 : kk + 1 ≤ 9 := by
            have h1 := HB.out
            omega
          have HY := Lib.hid (ref_by hk9)
          rcases hcase with (⟨f1, f2, f3, f4, g3⟩ | ⟨f1, f3, f4, g3⟩) | ⟨f1, f3, h3⟩
          · exfalso
            have h1 := HB.out
            simp only [beq_iff_eq, decide_eq_false_iff_not] at f1 f2
            omega
          · skip
            go_wp2
            rw [HO.out]
            refine ⟨⟨kk + 1, acc + c % 128 * 128 ^ kk, k1, 0, ⟨r, 0⟩, by go_num, hk9, rfl, ?_, acc_next HA.out, HS1.out, ?_, q1.set3 t k1 0, ((q2.far (by simp) _).far (by simp) _).far (by simp) _, ?_⟩, ?_⟩
            · rw [HY.out]
            · have h1 := HF.out
              rw [if_neg hb] at h1
              rw [← h1]
              exact HD.out
            · have hbb := HBB.out
              go_grown
            · simp [intOf]
              omega
          · have g3 : (0 < kk) = False := eq_false h3
            clear h3
            go_wp2
            rw [HO.out]
            refine ⟨⟨kk + 1, acc + c % 128 * 128 ^ kk, k1, 0, ⟨r, 0⟩, by go_num, hk9, rfl, ?_, acc_next HA.out, HS1.out, ?_, q1.set3 t k1 0, ((q2.far (by simp) _).far (by simp) _).far (by simp) _, ?_⟩, ?_⟩
            · rw [HY.out]
            · have h1 := HF.out
              rw [if_neg hb] at h1
              rw [← h1]
              exact HD.out
            · have hbb := HBB.out
              go_grown
            · simp [intOf]
              omega
    · have hfin : rdNum s = (0, (rdByte s').2) := by
        rw [← HD.out]
        exact rdByte_none he
      have HF := Lib.hid hfin
      clear hfin
      have he' : (((rdByte s').2.err : Int) != 0) = true := by simp [he]
      have HE := Lib.hid he
      clear he
      go_wp2_with fail
      refine HC.out.mono ?_
      rintro e w1 ⟨rfl, hb1⟩
      have q1 := hr1.below hb1 hr1.lt
      have q2 := hr2.below hb1 hr2.lt
      clear c10 c11 c12
      have c10 := q1.cell0
      have c11 := q1.cell1
      have c12 := q1.cell2
      have c20 := q2.cell0
      have c21 := q2.cell1
      have c22 := q2.cell2
      have f10 := q1.free 0
      have f11 := q1.free 1
      have f12 := q1.free 2
      have f20 := q2.free 0
      have f21 := q2.free 1
      have f22 := q2.free 2
      go_wp2
      go_region
      all_goals go_wp2
      refine bodyPost_ret (v := .tuple #[.int .u64 0, .agg #[.string t, .int .i64 (k1 : Int), .int .i64 ((rdByte s').2.err : Int)]]) (by simp [results, Tryd.results49, go_sem, *]) rfl ⟨?_, ?_⟩
      · rw [HF.out]
        exact ⟨k1, rfl, HS1.out⟩
      · have hbb := hbw.trans (hb1.mono hbw.size)
        go_grown
end Go.Proofs.YtigjeeedobnmhaaDoor.octet

/-
  The document's numbers with a sign, and texts, as they are read: it reads what the program's reader reads, from the same place, with the same first error. A text of at most two to the forty-seventh bytes.
-/
namespace Go.Proofs.YtigjeeedobnmhaaDoor.octet
open Go.RowKit Go.ChangeShapes
set_option linter.unusedVariables false

theorem refNum_plain (w : World) (t : ByteArray) (k err : Nat) (s : St) (ht : t.size ≤ 140737488355328) (hst : Stands t k err s) :
    Calls Tryd.prog 49 #[.agg #[.string t, .int .i64 (k : Int), .int .i64 (err : Int)]] w fun e w' => ∃ k1 : Nat, e = .returned (.tuple #[.int .u64 ((rdNum s).1 : Int), .agg #[.string t, .int .i64 (k1 : Int), .int .i64 ((rdNum s).2.err : Int)]]) ∧ Stands t k1 (rdNum s).2.err (rdNum s).2 ∧ Below w.heap.size w w' :=
  (refNum_any w t k err s ht hst).mono fun e w' ⟨⟨k1, he, hs⟩, hb⟩ => ⟨k1, he, hs, hb⟩

theorem extract_eq (t : ByteArray) (a n : Nat) : t.extract a (a + n) = ⟨((t.data.toList.drop a).take n).toArray⟩ := by
  apply ByteArray.ext
  apply Array.toList_inj.1
  rw [Lib.extract_data, Nat.add_sub_cancel_left]

end Go.Proofs.YtigjeeedobnmhaaDoor.octet

/-
  The document's reader, its calls by plain values: a byte, a number, a number with a sign, each from where it stands. A text of at most two to the forty-seventh bytes.
-/
namespace Go.Proofs.YtigjeeedobnmhaaDoor.octet
open Go.RowKit Go.ChangeShapes
set_option linter.unusedVariables false

theorem rest_le {t : ByteArray} {k err : Nat} {s : St} (h : Stands t k err s) (ht : t.size ≤ 140737488355328) : s.rest.length ≤ 140737488355328 := by
  have hsz : t.data.toList.length = t.size := by rw [Array.length_toList]; rfl
  rw [h.2.1, List.length_drop]
  omega
theorem refByte_plain (w : World) (t : ByteArray) (k err : Nat) (s : St) (ht : t.size ≤ 140737488355328) (hst : Stands t k err s) :
    Calls Tryd.prog 50 #[.agg #[.string t, .int .i64 (k : Int), .int .i64 (err : Int)]] w fun e w' => ∃ k1 : Nat, e = .returned (.tuple #[.int .i64 ((rdByte s).1 : Int), .agg #[.string t, .int .i64 (k1 : Int), .int .i64 ((rdByte s).2.err : Int)]]) ∧ Stands t k1 (rdByte s).2.err (rdByte s).2 ∧ Below w.heap.size w w' := by
  obtain ⟨k1, h, hs⟩ := refByte_stands w t k err s ht hst
  exact h.mono fun e w' ⟨he, hb⟩ => ⟨k1, he, hs, hb⟩
end Go.Proofs.YtigjeeedobnmhaaDoor.octet

/-
  Memory while the document's reader goes over ways and needs: the reader, the row of ways, the row of needs, the need that is read. No condition.
-/
namespace Go.Proofs.YtigjeeedobnmhaaDoor.need
open Go.RowKit Go.ChangeShapes
open Go.Proofs.YtigjeeedobnmhaaDoor.octet (St rdByte rdNum Stands)
open Go.Proofs.YtigjeeedobnmhaaDoor.objs (De zero CellsAt DAt RBox RNil cells3 put3 put3_same put3_far put3_below rdN)
set_option linter.unusedVariables false

/-- Between two ways: the empty answer, the reader, the row of ways. -/
structure R9 (w : World) (t : ByteArray) (bx : Nat) (v : Value) (ls : List (List De)) (S : St) (W : World) : Prop where
  below : Below w.heap.size w W
  nil : W.heap[w.heap.size + 1]? = some RNil
  x : ∃ k : Nat, W.heap[bx]? = some (RBox t k S.err) ∧ Stands t k S.err S
  own : OwnW W (bx + 1) v ls
  hx : w.heap.size + 1 < bx
theorem R9.lt {w W : World} {t : ByteArray} {bx : Nat} {v : Value} {ls : List (List De)} {S : St} (h : R9 w t bx v ls S W) : bx < W.heap.size := by
  obtain ⟨_, h1, _⟩ := h.x
  exact lt_of_block h1
theorem R9.next {w W W' : World} {t : ByteArray} {bx : Nat} {v : Value} {ls : List (List De)} {S : St} (h : R9 w t bx v ls S W) (hb : Below W.heap.size W W') : R9 w t bx v ls S W' := by
  obtain ⟨k, h1, h2⟩ := h.x
  exact ⟨h.below.trans (hb.mono h.below.size), (hb.block _ (lt_of_block h.nil)).trans h.nil, ⟨k, (hb.block _ (lt_of_block h1)).trans h1, h2⟩, h.own.next hb, h.hx⟩
/-- Behind the count. -/
theorem r9_new {w w1 : World} {t : ByteArray} {k err k1 : Nat} {S : St} (hb : Below ((w.alloc (RBox t k err)).alloc RNil).heap.size ((w.alloc (RBox t k err)).alloc RNil) w1) (hS : Stands t k1 S.err S) :
    R9 w t w1.heap.size (.slice none 0 0) [] S (w1.alloc (RBox t k1 S.err)) := by
  have hz : ((w.alloc (RBox t k err)).alloc RNil).heap.size = w.heap.size + 1 + 1 := by rw [World.size_alloc, World.size_alloc]
  have hs := hb.size
  have hb0 : Below w.heap.size w ((w.alloc (RBox t k err)).alloc RNil) := ((Below.refl _ w).alloc (Nat.le_refl _) _).alloc (by simp) _
  have hi0 : ((w.alloc (RBox t k err)).alloc RNil).heap[w.heap.size + 1]? = some RNil := by rw [← World.size_alloc w (RBox t k err)]; exact heap_alloc_new _ _
  have hb2 : Below w1.heap.size w1 (w1.alloc (RBox t k1 S.err)) := (Below.refl _ _).alloc (Nat.le_refl _) _
  exact ⟨(hb0.trans (hb.mono (by omega))).trans (hb2.mono (by omega)), (hb2.block _ (by omega)).trans ((hb.block _ (by omega)).trans hi0), ⟨k1, heap_alloc_new _ _, hS⟩, OwnW.nil _ _, by omega⟩
/-- The empty row is made. -/
theorem R9.row {w W : World} {t : ByteArray} {bx : Nat} {S : St} (h : R9 w t bx (.slice none 0 0) [] S W) : R9 w t bx (.slice (some ⟨W.heap.size, 0, none⟩) 0 0) [] S (W.alloc (.cells #[] 51)) := by
  have hb : Below W.heap.size W (W.alloc (.cells #[] 51)) := (Below.refl _ W).alloc (Nat.le_refl _) _
  have h' := h.next hb
  have := h.lt
  exact ⟨h'.below, h'.nil, h'.x, (OwnW.empty (heap_alloc_new W _)).base (by omega), h'.hx⟩
/-- Between two needs of a way that began in W1: the way's own reader at g, the row of needs. -/
structure I9 (W1 : World) (g : Nat) (t : ByteArray) (v : Value) (ns : List De) (T : St) (W : World) : Prop where
  e : W1.heap.size = g
  below : Below g W1 W
  y : ∃ k : Nat, W.heap[g]? = some (RBox t k T.err) ∧ Stands t k T.err T
  own : OwnN W (g + 1) v ns
theorem I9.lt {W1 W : World} {g : Nat} {t : ByteArray} {v : Value} {ns : List De} {T : St} (h : I9 W1 g t v ns T W) : g < W.heap.size := by
  obtain ⟨_, h1, _⟩ := h.y
  exact lt_of_block h1
theorem I9.next {W1 W W' : World} {g : Nat} {t : ByteArray} {v : Value} {ns : List De} {T : St} (h : I9 W1 g t v ns T W) (hb : Below W.heap.size W W') : I9 W1 g t v ns T W' := by
  obtain ⟨k, h1, h2⟩ := h.y
  exact ⟨h.e, h.below.trans (hb.mono (Nat.le_of_lt h.lt)), ⟨k, (hb.block _ h.lt).trans h1, h2⟩, h.own.next hb⟩
theorem i9_new {W1 : World} {t : ByteArray} {k : Nat} {T : St} (hS : Stands t k T.err T) : I9 W1 W1.heap.size t (.slice none 0 0) [] T (W1.alloc (RBox t k T.err)) :=
  ⟨rfl, (Below.refl _ _).alloc (Nat.le_refl _) _, ⟨k, heap_alloc_new W1 _, hS⟩, OwnN.nil _ _⟩
theorem I9.row {W1 W : World} {g : Nat} {t : ByteArray} {T : St} (h : I9 W1 g t (.slice none 0 0) [] T W) : I9 W1 g t (.slice (some ⟨W.heap.size, 0, none⟩) 0 0) [] T (W.alloc (.cells #[] 50)) := by
  have h' := h.next ((Below.refl _ W).alloc (Nat.le_refl _) (.cells #[] 50))
  have := h.lt
  exact ⟨h'.e, h'.below, h'.y, (OwnN.empty (heap_alloc_new W _)).base (by omega)⟩
theorem I9.outer {w W1 W : World} {t : ByteArray} {bx g : Nat} {v lv : Value} {ls : List (List De)} {ns : List De} {S T : St} (hR : R9 w t bx v ls S W1) (h : I9 W1 g t lv ns T W) : R9 w t bx v ls S W :=
  hR.next (by rw [h.e]; exact h.below)
/-- In the midst of a need that began in W2: its reader, and what stands so far of it. -/
structure M9 (W2 : World) (t : ByteArray) (bu bn : Nat) (k o m : Int) (T : St) (W : World) : Prop where
  below : Below W2.heap.size W2 W
  u : ∃ kk : Nat, W.heap[bu]? = some (RBox t kk T.err) ∧ Stands t kk T.err T
  n : W.heap[bn]? = some (needBox k o m)
  hu : W2.heap.size ≤ bu
  hn : bu < bn
theorem M9.next {W2 W W' : World} {t : ByteArray} {bu bn : Nat} {k o m : Int} {T : St} (h : M9 W2 t bu bn k o m T W) (hb : Below W.heap.size W W') : M9 W2 t bu bn k o m T W' := by
  obtain ⟨kk, h1, h2⟩ := h.u
  exact ⟨h.below.trans (hb.mono h.below.size), ⟨kk, (hb.block _ (lt_of_block h1)).trans h1, h2⟩, (hb.block _ (lt_of_block h.n)).trans h.n, h.hu, h.hn⟩
theorem m9_new {W2 W : World} {t : ByteArray} {kk : Nat} {k o : Int} {T : St} (hb : Below W2.heap.size W2 W) (hS : Stands t kk T.err T) :
    M9 W2 t W.heap.size (W.heap.size + 1) k o 0 T ((W.alloc (RBox t kk T.err)).alloc (needBox k o 0)) := by
  have hz := World.size_alloc W (RBox t kk T.err)
  have h2 : Below W.heap.size W ((W.alloc (RBox t kk T.err)).alloc (needBox k o 0)) := ((Below.refl _ _).alloc (Nat.le_refl _) _).alloc (by omega) _
  refine ⟨hb.trans (h2.mono hb.size), ⟨kk, (Below.heap_alloc _ _ _ (by omega)).trans (heap_alloc_new W _), hS⟩, ?_, hb.size, Nat.lt_succ_self _⟩
  rw [← hz]
  exact heap_alloc_new _ _
theorem M9.setN {W2 W : World} {t : ByteArray} {bu bn : Nat} {k o m : Int} {T T2 : St} {k2 : Nat} (h : M9 W2 t bu bn k o m T W) (n : Int) (hS : Stands t k2 T2.err T2) :
    M9 W2 t bu bn k o n T2 (put3 (W.setCell ⟨bn, 2, none⟩ (.int .i64 n)) bu (.string t) (.int .i64 (k2 : Int)) (.int .i64 (T2.err : Int))).drew := by
  obtain ⟨kk, h1, h2⟩ := h.u
  have e1 := h.hu
  have e2 := h.hn
  have hf : ∀ i, i ≠ bn → (W.setCell ⟨bn, 2, none⟩ (.int .i64 n)).heap[i]? = W.heap[i]? := fun i hi => Below.heap_setCell W ⟨bn, 2, none⟩ _ i hi
  refine ⟨Below.drew (put3_below (h.below.setCell (p := ⟨bn, 2, none⟩) (by show W2.heap.size ≤ bn; omega) _) e1 _ _ _), ⟨k2, put3_same ((hf bu (by omega)).trans h1) _ _ _, hS⟩, ?_, e1, e2⟩
  refine (put3_far (by omega) _ _ _).trans ?_
  have := h.n
  unfold needBox at this ⊢
  simp [World.setCell, Array.getElem?_modify, this]
/-- Behind the append of a need. -/
structure A9 (W1 : World) (g : Nat) (t : ByteArray) (bu : Nat) (v : Value) (ns : List De) (kk : Nat) (T : St) (W : World) : Prop where
  e : W1.heap.size = g
  below : Below g W1 W
  y : ∃ (k err : Nat), W.heap[g]? = some (RBox t k err)
  u : W.heap[bu]? = some (RBox t kk T.err)
  own : OwnN W (g + 1) v ns
  hu : g < bu
theorem M9.app {W1 W2 W Wa W3 : World} {g : Nat} {t : ByteArray} {bu bn kk : Nat} {lv v2 : Value} {ns ns2 : List De} {k o m : Int} {T T' : St} (hI : I9 W1 g t lv ns T W2) (h : M9 W2 t bu bn k o m T' W) (hk : W.heap[bu]? = some (RBox t kk T'.err))
    (h1 : Below W.heap.size W Wa) (h2 : OwnN W3 (g + 1) v2 ns2) (hg : Wa.grownBy W3 lv.ownBlock) : A9 W1 g t bu v2 ns2 kk T' W3 := by
  have e0 := hI.lt
  have e1 := h.hu
  have hn := h1.size
  have hs := h.below.size
  have hlo : ∀ i, lv.ownBlock = some i → g < i ∧ i < W2.heap.size := fun i e => by have := hI.own.lt e; omega
  have hf : ∀ i, i < W.heap.size → lv.ownBlock ≠ some i → W3.heap[i]? = W.heap[i]? := fun i hi hne => (hg.block i (by omega) (fun e => hne e.symm)).trans (h1.block i hi)
  obtain ⟨ky, hy1, _⟩ := hI.y
  have hyW : W.heap[g]? = some (RBox t ky T.err) := (h.below.block g e0).trans hy1
  have hbW : Below g W1 W := hI.below.trans (h.below.mono (Nat.le_of_lt e0))
  refine ⟨hI.e, (hbW.trans (h1.mono (by omega))).grown hg (by have := hbW.size; omega) (fun i e => by have := (hlo i e).1; omega), ⟨ky, _, (hf _ (lt_of_block hyW) (fun e => by have := (hlo _ e).1; omega)).trans hyW⟩, (hf _ (lt_of_block hk) (fun e => by have := (hlo _ e).2; omega)).trans hk, h2, by omega⟩
theorem A9.store {W1 W : World} {g : Nat} {t : ByteArray} {bu kk : Nat} {v : Value} {ns : List De} {T : St} (h : A9 W1 g t bu v ns kk T W) (hS : Stands t kk T.err T) : I9 W1 g t v ns T (put3 W g (.string t) (.int .i64 (kk : Int)) (.int .i64 (T.err : Int))) := by
  obtain ⟨k, err, hy⟩ := h.y
  refine ⟨h.e, put3_below h.below (Nat.le_refl _) _ _ _, ⟨kk, put3_same hy _ _ _, hS⟩, h.own.keep fun i hi => put3_far (by have := (h.own.lt hi).1; omega) _ _ _⟩
/-- Behind the append of a way. -/
structure B9 (w : World) (t : ByteArray) (bx g : Nat) (v : Value) (ls : List (List De)) (kk : Nat) (T : St) (W : World) : Prop where
  below : Below w.heap.size w W
  nil : W.heap[w.heap.size + 1]? = some RNil
  x : ∃ (k err : Nat), W.heap[bx]? = some (RBox t k err)
  y : W.heap[g]? = some (RBox t kk T.err)
  own : OwnW W (bx + 1) v ls
  hx : w.heap.size + 1 < bx
  hg : bx < g
theorem OwnW.lt {w : World} {base g : Nat} {v : Value} {l : List (List De)} (h : OwnW w base v l) (hg : v.ownBlock = some g) : base ≤ g ∧ g < w.heap.size := by
  obtain ⟨xs, h1, _⟩ := h
  exact World.ownsRow.lt h1 g hg
theorem OwnW.keep {w w' : World} {base : Nat} {v : Value} {l : List (List De)} (h : OwnW w base v l) (hk : ∀ g, base ≤ g → w'.heap[g]? = w.heap[g]?) : OwnW w' base v l := by
  obtain ⟨xs, h1, h2⟩ := h
  refine ⟨xs, ⟨h1.1, h1.2.imp id ?_⟩, fun j hj => ?_⟩
  · rintro ⟨g, c, cur, rfl, hg, hh, r⟩
    exact ⟨g, c, cur, rfl, hg, (hk g hg).trans hh, r⟩
  · obtain ⟨x, h3, h4⟩ := h2 j hj
    exact ⟨x, h3, h4.keep fun g hg => hk g (h4.lt hg).1⟩
theorem I9.app {w W1 W Wa W3 : World} {t : ByteArray} {bx g kk : Nat} {v v2 lv : Value} {ls ls2 : List (List De)} {ns : List De} {S T : St} (hR : R9 w t bx v ls S W1) (h : I9 W1 g t lv ns T W) (hk : W.heap[g]? = some (RBox t kk T.err))
    (h1 : Below W.heap.size W Wa) (h2 : OwnW W3 (bx + 1) v2 ls2) (hg : Wa.grownBy W3 v.ownBlock) : B9 w t bx g v2 ls2 kk T W3 := by
  have hRW := I9.outer hR h
  have e0 := hR.lt
  have e1 := h.e
  have hn := h1.size
  have hlo : ∀ i, v.ownBlock = some i → bx < i ∧ i < g := fun i e => by have := hR.own.lt e; omega
  have hf : ∀ i, i < W.heap.size → v.ownBlock ≠ some i → W3.heap[i]? = W.heap[i]? := fun i hi hne => (hg.block i (by omega) (fun e => hne e.symm)).trans (h1.block i hi)
  obtain ⟨kx, hx1, _⟩ := hRW.x
  have e3 := hRW.hx
  refine ⟨(hRW.below.trans (h1.mono hRW.below.size)).grown hg (by have := hRW.below.size; omega) (fun i e => by have := (hlo i e).1; omega), (hf _ (lt_of_block hRW.nil) (fun e => by have := (hlo _ e).1; omega)).trans hRW.nil, ⟨kx, _, (hf _ (lt_of_block hx1) (fun e => by have := (hlo _ e).1; omega)).trans hx1⟩, (hf _ (lt_of_block hk) (fun e => by have := (hlo _ e).2; omega)).trans hk, h2, e3, by omega⟩
theorem B9.store {w W : World} {t : ByteArray} {bx g kk : Nat} {v : Value} {ls : List (List De)} {T : St} (h : B9 w t bx g v ls kk T W) (hS : Stands t kk T.err T) : R9 w t bx v ls T (put3 W bx (.string t) (.int .i64 (kk : Int)) (.int .i64 (T.err : Int))) := by
  obtain ⟨k, err, hx⟩ := h.x
  have e := h.hx
  exact ⟨put3_below h.below (by omega) _ _ _, (put3_far (by omega) _ _ _).trans h.nil, ⟨kk, put3_same hx _ _ _, hS⟩, h.own.keep fun i hi => put3_far (by omega) _ _ _, e⟩

/-- What Read tells, and leaves. -/
def ReadPost9 (t : ByteArray) (r : List (List De) × St × Nat) (w : World) (e : Ending) (w' : World) : Prop :=
  ∃ (v : Value) (k : Nat), e = .returned (.tuple #[v, .agg #[.string t, .int .i64 (k : Int), .int .i64 (r.2.1.err : Int)], .int .i64 (r.2.2 : Int)]) ∧ Stands t k r.2.1.err r.2.1 ∧ (∃ A cap, v = .slice A r.1.length cap ∧ WAt w' A r.1) ∧ Below w.heap.size w w'
/-- At the end: the answer, and the reader in the result's block. -/
structure Ends9 (w : World) (t : ByteArray) (v : Value) (ls : List (List De)) (k err : Nat) (W : World) : Prop where
  below : Below w.heap.size w W
  r : W.heap[w.heap.size + 1]? = some (RBox t k err)
  at' : ∃ A cap, v = .slice A ls.length cap ∧ WAt W A ls
theorem ends9_ret {w Z : World} {t : ByteArray} {v : Value} {k err : Nat} {act : Act} {r r' : List (List De) × St × Nat} (hr : r = r') (h2 : act.tmps[4]?.getD undef = v) (h3 : act.tmps[5]?.getD undef = .pointer (some ⟨w.heap.size + 1, 0, none⟩)) (h4 : act.tmps[6]?.getD undef = .int .i64 (r'.2.2 : Int)) (hd : act.defers = [])
    (hE : Ends9 w t v r'.1 k err Z) (hS : Stands t k err r'.2.1) (hs : r'.2.1.err = err) : bodyPost Tryd.prog Tryd.f34 (ReadPost9 t r w) .ret act Z := by
  subst hr hs
  have hb := hE.r
  unfold RBox at hb
  obtain ⟨y0, y1, y2, _, _, _⟩ := cells3 hb
  refine bodyPost_ret (v := .tuple #[v, .agg #[.string t, .int .i64 (k : Int), .int .i64 (r.2.1.err : Int)], .int .i64 (r.2.2 : Int)]) ?_ hd ⟨v, k, rfl, hS, hE.at', hE.below⟩
  simp [results, Tryd.results34, go_sem, h2, h3, h4, y0, y1, y2]
theorem R9.ends {w W : World} {t : ByteArray} {bx kk : Nat} {v : Value} {ls : List (List De)} {S S' : St} (h : R9 w t bx v ls S W) : Ends9 w t v ls kk S'.err (put3 W (w.heap.size + 1) (.string t) (.int .i64 (kk : Int)) (.int .i64 (S'.err : Int))).drew := by
  have e := h.hx
  have hn := h.nil
  unfold RNil at hn
  obtain ⟨A, cap, rfl⟩ := h.own.slice
  refine ⟨Below.drew (put3_below h.below (by omega) _ _ _), put3_same hn _ _ _, A, cap, rfl, ?_⟩
  have hk : OwnW (put3 W (w.heap.size + 1) (.string t) (.int .i64 (kk : Int)) (.int .i64 (S'.err : Int))) (bx + 1) (.slice A ls.length cap) ls := h.own.keep fun g hg => put3_far (by omega) _ _ _
  exact hk.at
theorem R9.ends0 {w W : World} {t : ByteArray} {bx kk : Nat} {v : Value} {ls : List (List De)} {S S' : St} (h : R9 w t bx v ls S W) : Ends9 w t (.slice none 0 0) [] kk S'.err (put3 W (w.heap.size + 1) (.string t) (.int .i64 (kk : Int)) (.int .i64 (S'.err : Int))).drew := by
  have e := h.hx
  have hn := h.nil
  unfold RNil at hn
  exact ⟨Below.drew (put3_below h.below (by omega) _ _ _), put3_same hn _ _ _, none, 0, rfl, WAt.nil _ _⟩
end Go.Proofs.YtigjeeedobnmhaaDoor.need

/-
  The program's own reading of a way's needs, and of all ways, before they are checked (typed over the code of 5ef5b61): for every text of at most two to the forty-seventh bytes. No other condition.
-/
namespace Go.Proofs.YtigjeeedobnmhaaDoor.need
open Go.RowKit Go.ChangeShapes
open Go.Proofs.YtigjeeedobnmhaaDoor.octet (St InAt Frm rdNum rdNum_ok rdNum_left err_any)
open Go.Proofs.YtigjeeedobnmhaaDoor.span (pN num_any)
open Go.Proofs.YtigjeeedobnmhaaDoor.objs (De zero DAt)
set_option linter.unusedVariables false

/-- How many there are, and what is wrong with that. -/
def mny (s : St) : Nat × Nat := if (rdNum s).2.err ≠ 0 then (0, (rdNum s).2.err) else if 4 < (rdNum s).1 then (0, 4) else ((rdNum s).1, 0)
set_option maxHeartbeats 1000000 in
theorem mny_any (w : World) (bi : Nat) (s : St) (hi : InAt w bi s) (hok : s.ok) (hl : s.rest.length ≤ 140737488355328) :
    Calls Tryd.prog 47 #[.pointer (some ⟨bi, 0, none⟩), .int .i64 4] w fun e w' => e = .returned (.tuple #[.int .i64 ((mny s).1 : Int), .int .i64 ((mny s).2 : Int)]) ∧ InAt w' bi (rdNum s).2 ∧ Frm w.heap.size bi w w' := by
  have HN := Lib.hid (num_any w bi s hi hok hl)
  obtain ⟨r, hr⟩ : ∃ r, r = mny s := ⟨_, rfl⟩
  have HR := Lib.hid hr
  rw [← hr]
  unfold mny at HR
  unfold pN at HN
  generalize rdNum s = N at *
  obtain ⟨n, S⟩ := N
  dsimp only at HN HR ⊢
  clear hr hi hok hl
  go_enter Tryd.func47, Tryd.ntmps47
  go_wp2_with fail
  refine HN.out.mono ?_
  rintro e w1 ⟨rfl, hi1, hf1⟩
  have HI1 := Lib.hid hi1
  have HF1 := Lib.hid hf1
  have HEr := Lib.hid (err_any w1 bi S hi1)
  clear hi1 hf1 HN
  go_wp2_with fail
  refine HEr.out.mono ?_
  rintro e w2 ⟨rfl, rfl⟩
  by_cases he : S.err = 0
  · have he' : ((S.err : Int) != 0) = false := by simp [he]
    by_cases h4 : 4 < n
    · have HV : Hid (r = (0, 4)) := Lib.hid (by rw [HR.out, if_neg (by simp [he]), if_pos h4])
      have hd : decide ((4 : Int) < ((min n 2147483647 : Nat) : Int)) = true := by simp; omega
      clear he h4
      generalize ((min n 2147483647 : Nat) : Int) = x at *
      go_wp2_with fail
      go_ret2
      exact ⟨by rw [HV.out]; rfl, HI1.out, HF1.out⟩
    · have HV : Hid (r = (n, 0)) := Lib.hid (by rw [HR.out, if_neg (by simp [he]), if_neg h4])
      have hx : ((min n 2147483647 : Nat) : Int) = (n : Int) := by omega
      have hd : decide ((4 : Int) < (n : Int)) = false := by simp; omega
      rw [hx]
      clear he h4 hx
      go_wp2_with fail
      go_ret2
      exact ⟨by rw [HV.out]; rfl, HI1.out, HF1.out⟩
  · have he' : ((S.err : Int) != 0) = true := by simpa using he
    have HV : Hid (r = (0, S.err)) := Lib.hid (by rw [HR.out, if_pos he])
    clear he
    go_wp2_with fail
    go_ret2
    exact ⟨by rw [HV.out]; rfl, HI1.out, HF1.out⟩

/-- What getNeeds tells, and leaves. -/
def NeedsPost (bi : Nat) (r : List De × St × Nat) (w : World) (e : Ending) (w' : World) : Prop :=
  ∃ v, e = .returned (.tuple #[v, .int .i64 (r.2.2 : Int)]) ∧ OwnN w' w.heap.size v (r.1.map cutN) ∧ InAt w' bi r.2.1 ∧ Frm w.heap.size bi w w'

/-- Between two needs that are read: the reader, and the row that grows. -/
structure Gn (w : World) (bi : Nat) (v : Value) (ls : List De) (S : St) (W : World) : Prop where
  inn : InAt W bi S
  own : OwnN W w.heap.size v ls
  frm : Frm w.heap.size bi w W
  lt : bi < w.heap.size
theorem Gn.next {w W W' : World} {bi : Nat} {v : Value} {ls : List De} {S S' : St} (h : Gn w bi v ls S W) (hi : InAt W' bi S') (hf : Frm W.heap.size bi W W') : Gn w bi v ls S' W' := by
  have e1 := h.lt
  exact ⟨hi, h.own.keep fun g hg => hf.block g (h.own.lt hg).2 (by have := (h.own.lt hg).1; omega), h.frm.trans (hf.mono h.frm.size), e1⟩
theorem Gn.box {w W : World} {bi : Nat} {v : Value} {ls : List De} {S : St} (h : Gn w bi v ls S W) (o : Obj) : Gn w bi v ls S (W.alloc o) := by
  have hb : Below W.heap.size W (W.alloc o) := (Below.refl _ _).alloc (Nat.le_refl _) _
  exact h.next (h.inn.kept (hb.block _ h.inn.lt)) (Frm.of_below hb)
theorem Gn.app {w W W2 : World} {bi : Nat} {v v2 : Value} {ls ls2 : List De} {S : St} (h : Gn w bi v ls S W) (o : Obj) (h2 : OwnN W2 w.heap.size v2 ls2) (hg : (W.alloc o).grownBy W2 v.ownBlock) : Gn w bi v2 ls2 S W2 := by
  have h1 := h.box o
  have e1 := h.lt
  refine ⟨h1.inn.kept (hg.block bi h1.inn.lt (fun e => ?_)), h2, h1.frm.grown hg h1.frm.size (fun k e => .inl (h1.own.lt e).1), e1⟩
  have := (h1.own.lt e.symm).1
  omega
/-- The row of needs that is made. -/
def mkN (m : Nat) : Obj := .cells (madeCells (Value.agg #[.int .i64 0, .int .i64 0, .int .i64 0]).cells (m * 3)) 50
theorem run_mkN (m : Nat) (hm : m ≤ 4) (W : World) : (Instr.makeSlice 51 (.int .i64 0) (.int .i64 (m : Int))).run Tryd.prog W = .ok (.slice (some ⟨W.heap.size, 0, none⟩) 0 m) (W.alloc (mkN m)) := by
  obtain ⟨i, hi, hz0, hz1, hz2⟩ := info_parts infoN
  have h := run_make (P := Tryd.prog) W 51 50 i _ Tryd.underlying51 hi hz0 .i64 .i64 0 (m : Int) (by omega) (by omega) (by rw [hz2]; omega) (by omega)
  rw [hz1, Int.toNat_natCast, Int.toNat_zero] at h
  exact h
theorem gn_made {w W : World} {bi : Nat} {S : St} (m : Nat) (hm : m ≤ 4) (hi : InAt W bi S) (hf : Frm w.heap.size bi w W) (hlt : bi < w.heap.size) : Gn w bi (.slice (some ⟨W.heap.size, 0, none⟩) 0 m) [] S (W.alloc (mkN m)) := by
  have hb : Below W.heap.size W (W.alloc (mkN m)) := (Below.refl _ _).alloc (Nat.le_refl _) _
  exact ⟨hi.kept (hb.block _ hi.lt), World.ownsRow_made W _ m hf.size (by unfold maxLen; omega) (size_madeCells _ _), hf.trans (Frm.of_below (hb.mono hf.size)), hlt⟩

theorem needs_ret {w W : World} {bi n cap : Nat} {A : Option Addr} {ls : List De} {S : St} {e : Nat} {act : Act} {r : List De × St × Nat} (hr : r = (ls, S, e)) (h2 : act.tmps[2]?.getD undef = .slice A n cap) (h3 : act.tmps[3]?.getD undef = .int .i64 (e : Int)) (hd : act.defers = [])
    (hA : OwnN W w.heap.size (.slice A n cap) (ls.map cutN)) (hi : InAt W bi S) (hf : Frm w.heap.size bi w W) : bodyPost Tryd.prog Tryd.f48 (NeedsPost bi r w) .ret act W := by
  subst hr
  refine bodyPost_ret (v := .tuple #[.slice A n cap, .int .i64 (e : Int)]) ?_ hd ⟨_, rfl, hA, hi, hf⟩
  simp [results, Tryd.results48, go_sem, h2, h3]

set_option maxRecDepth 100000 in
set_option maxHeartbeats 8000000 in
theorem getNeeds_any (w : World) (bi : Nat) (s : St) (hi : InAt w bi s) (hok : s.ok) (hl : s.rest.length ≤ 140737488355328) :
    Calls Tryd.prog 48 #[.pointer (some ⟨bi, 0, none⟩)] w (NeedsPost bi (rdWay s) w) := by
  have hlt := hi.lt
  have HN := Lib.hid (mny_any w bi s hi hok hl)
  obtain ⟨r, hr⟩ : ∃ r, r = rdWay s := ⟨_, rfl⟩
  have HR := Lib.hid (hr.trans (rdWay_eq s))
  rw [← hr]
  have hok1 := rdNum_ok hok
  have hl1 := Nat.le_trans (rdNum_left s) hl
  clear hr hi hok hl
  unfold mny at HN
  generalize rdNum s = N at *
  obtain ⟨n, S⟩ := N
  dsimp only at HN HR hok1 hl1
  by_cases he : S.err ≠ 0
  · rw [if_pos he] at HN HR
    have he' : ((S.err : Int) != 0) = true := by simpa using he
    clear he
    go_enter Tryd.func48, Tryd.ntmps48
    go_wp2_with fail
    refine HN.out.mono ?_
    rintro e w1 ⟨rfl, hi1, hf1⟩
    have HI1 := Lib.hid hi1
    have HF1 := Lib.hid hf1
    clear hi1 hf1 HN
    go_wp2_with fail
    exact needs_ret HR.out (by rfl) (by rfl) rfl (OwnN.nil _ _) HI1.out HF1.out
  · rw [if_neg he] at HN HR
    clear he
    by_cases h4 : 4 < n
    · rw [if_pos h4] at HN HR
      clear h4
      go_enter Tryd.func48, Tryd.ntmps48
      go_wp2_with fail
      refine HN.out.mono ?_
      rintro e w1 ⟨rfl, hi1, hf1⟩
      have HI1 := Lib.hid hi1
      have HF1 := Lib.hid hf1
      clear hi1 hf1 HN
      go_wp2_with fail
      exact needs_ret HR.out (by rfl) (by rfl) rfl (OwnN.nil _ _) HI1.out HF1.out
    · rw [if_neg h4] at HN HR
      have hm4 : n ≤ 4 := by omega
      have hmk := run_mkN n hm4
      clear h4
      have HStop : Hid (∀ j, j ≤ n → ∀ q : List De × St × Nat, rdNeeds S j = q → q.2.2 ≠ 0 → rdNeeds S n = q) := Lib.hid (fun j hj q h hq => rdNeeds_stuck h hq n hj)
      go_enter Tryd.func48, Tryd.ntmps48
      go_wp2_with fail
      refine HN.out.mono ?_
      rintro e w1 ⟨rfl, hi1, hf1⟩
      have HG0 := Lib.hid (gn_made n hm4 hi1 hf1 hlt)
      clear hi1 hf1 HN
      go_wp2_with fail
      generalize w1.alloc (mkN n) = W2 at *
      generalize w1.heap.size = g0 at *
      go_loopw [6, 20] (fun v i wr => ∃ (j : Nat) (ls : List De) (S' : St), j ≤ n ∧ i = .int .i64 (j : Int) ∧ Hid (rdNeeds S j = (ls, S', 0)) ∧ Hid (Gn w bi v (ls.map cutN) S' wr) ∧ Hid (S'.ok ∧ S'.rest.length ≤ 140737488355328)) (fun _ i _ => n - (intOf i).toNat)
      case atStart => exact ⟨0, [], S, Nat.zero_le _, rfl, Lib.hid rfl, HG0, Lib.hid ⟨hok1, hl1⟩⟩
      case round =>
        obtain ⟨j, ls, S', hj, rfl, HL, HG, HO⟩ := hrel
        have hlen : ls.length = j := by have := rdNeeds_length j (by rw [HL.out] : (rdNeeds S j).2.2 = 0); rwa [HL.out] at this
        obtain ⟨A, cap, hv⟩ := HG.out.own.slice
        rw [List.length_map, hlen] at hv
        subst hv
        by_cases hlt2 : j < n
        · have hlt' : (j : Int) < (n : Int) := by omega
          have HD := Lib.hid (getN_any wr bi S' HG.out.inn HO.out.1 HO.out.2)
          unfold OnePostN at HD
          have HNx : Hid (rdNeeds S (j + 1) = if (rdNeed S').2.2 ≠ 0 then ([], (rdNeed S').2.1, (rdNeed S').2.2) else (ls ++ [(rdNeed S').1], (rdNeed S').2.1, 0)) := Lib.hid (by simp only [rdNeeds, HL.out]; rfl)
          have HO2 := Lib.hid (And.intro (pNeed_ok HO.out.1) (Nat.le_trans (pNeed_left S') HO.out.2))
          have HX1 := Lib.hid (fun h => pNeed_err (s := S') h)
          have HX2 := Lib.hid (fun h1 h2 => pNeed_kind (s := S') h1 h2)
          have HX3 := Lib.hid (fun h1 h2 => pNeed_fine (s := S') h1 h2)
          clear HO HL
          generalize pNeed S' = q at *
          generalize rdNeed S' = rr at *
          obtain ⟨⟨k, x, y⟩, T⟩ := q
          obtain ⟨dd, T', e'⟩ := rr
          dsimp only at HD HNx HO2 HX1 HX2 HX3
          go_wp2_with fail
          refine HD.out.mono ?_
          rintro e w3 ⟨rfl, hi3, hf3⟩
          have HG3 := Lib.hid (HG.out.next hi3 hf3)
          have HG4 := Lib.hid (HG3.out.box (needBox k x y))
          have hbx := nbox_at w3 k x y
          unfold needBox at HG4 hbx
          clear hi3 hf3 HG HD HG3
          go_upto_region 8 with fail
          generalize w3.alloc (.cells #[.int .i64 k, .int .i64 x, .int .i64 y] 50) = W4 at *
          generalize w3.heap.size = d at *
          obtain ⟨c0, c1, c2⟩ := hbx
          have HEr := Lib.hid (err_any W4 bi T HG4.out.inn)
          have HK := fun W => Lib.hid (known_any k W)
          go_wp2_with fail
          refine HEr.out.mono ?_
          rintro e w5 ⟨rfl, rfl⟩
          by_cases hT : T.err = 0
          · have hT' : ((T.err : Int) != 0) = false := by simp [hT]
            by_cases hk : 1 ≤ k ∧ k ≤ 5
            · rw [decide_eq_true hk] at HK
              obtain ⟨hx1, hx2⟩ := HX3.out hT hk
              injection hx1 with hx3 hx4
              have HQ : Hid (rdNeeds S (j + 1) = (ls ++ [dd], T, 0)) := Lib.hid (by rw [HNx.out, hx3, hx4]; rfl)
              have HM : Hid ((ls ++ [dd]).map cutN = ls.map cutN ++ [(k, x, y)]) := Lib.hid (by rw [List.map_append, hx2]; rfl)
              have hown1 : OwnN (W4.alloc (needBox k x y)) w.heap.size (.slice A j cap) (ls.map cutN) := (HG4.out.box (needBox k x y)).own
              have hone : DAt (W4.alloc (needBox k x y)) (some ⟨W4.heap.size, 0, none⟩) [(k, x, y)] := DAt.oneN (d := (k, x, y)) (heap_alloc_new W4 _)
              have hbase : w.heap.size ≤ W4.heap.size := HG4.out.frm.size
              have hll : (ls.map cutN).length = j := by rw [List.length_map, hlen]
              have Hap := fun (v2 : Value) (W2 : World) (h1 : OwnN W2 w.heap.size v2 (ls.map cutN ++ [(k, x, y)])) (h2 : (W4.alloc (needBox k x y)).grownBy W2 (Value.slice A j cap).ownBlock) => HG4.out.app (needBox k x y) h1 h2
              unfold needBox at hown1 hone Hap
              clear hx2 hx3 hx4 HX1 HX2 HX3 HNx hT hk
              generalize ls.map cutN = lc at *
              go_wp2_with fail
              refine (HK _).out.mono ?_
              rintro e w6 ⟨rfl, rfl⟩
              go_wp2_with (
                at_builtin
                refine wpList_appN (by rfl) (.tmp 33) (.tmp 35) (by rfl) w.heap.size 1 1 (.slice A j cap) (some ⟨W4.heap.size, 0, none⟩) lc [(k, x, y)] (by rfl) hown1 (by rfl) rfl (fun h => by cases h) hone (by simp; omega) (by simp; omega) ?_)
              intro v2 W5 hv2 hg2
              have HG5 := Lib.hid (Hap v2 W5 hv2 ⟨hg2.os, hg2.tape, hg2.output, hg2.size, hg2.block⟩)
              clear hown1 hone hv2 hg2 Hap c0 c1 c2
              go_wp2
              go_roundw
              case rel => exact ⟨j + 1, ls ++ [dd], T, by omega, by go_num, HQ, by rw [HM.out]; exact HG5, HO2⟩
              case measure => simp [intOf]; omega
            · rw [decide_eq_false hk] at HK
              have hx1 := HX2.out hT hk
              injection hx1 with hx3 hx4
              have HQ : Hid (rdNeeds S n = ([], T, 6)) := Lib.hid (HStop.out (j + 1) (by omega) ([], T, 6) (by rw [HNx.out, hx3, hx4]; rfl) (by show 6 ≠ 0; decide))
              have HV : Hid (r = ([], T, 6)) := Lib.hid (by rw [HR.out, HQ.out])
              clear hx3 hx4 HX1 HX2 HX3 HNx hT hk HQ HR
              go_wp2_with fail
              refine (HK _).out.mono ?_
              rintro e w6 ⟨rfl, rfl⟩
              go_wp2_with fail
              exact needs_ret HV.out (by rfl) (by rfl) rfl (OwnN.nil _ _) HG4.out.inn HG4.out.frm
          · have hT' : ((T.err : Int) != 0) = true := by simpa using hT
            have hx1 := HX1.out hT
            injection hx1 with hx3 hx4
            have HQ : Hid (rdNeeds S n = ([], T, T.err)) := Lib.hid (HStop.out (j + 1) (by omega) ([], T, T.err) (by rw [HNx.out, hx3, hx4, if_pos hT]) hT)
            have HV : Hid (r = ([], T, T.err)) := Lib.hid (by rw [HR.out, HQ.out])
            clear hx3 hx4 HX1 HX2 HX3 HNx hT HQ HR
            go_wp2_with fail
            exact needs_ret HV.out (by rfl) (by rfl) rfl (OwnN.nil _ _) HG4.out.inn HG4.out.frm
        · obtain rfl : j = n := by omega
          have HV : Hid (r = (ls, S', 0)) := Lib.hid (by rw [HR.out, HL.out])
          go_wp2_with fail
          exact needs_ret HV.out (by rfl) (by rfl) rfl HG.out.own HG.out.inn HG.out.frm

theorem OwnW.hold {w w' : World} {base : Nat} {v : Value} {l : List (List De)} (h : OwnW w base v l) (hk : ∀ g, base ≤ g → g < w.heap.size → w'.heap[g]? = w.heap[g]?) : OwnW w' base v l := by
  obtain ⟨xs, h1, h2⟩ := h
  refine ⟨xs, ⟨h1.1, h1.2.imp id ?_⟩, fun j hj => ?_⟩
  · rintro ⟨g, c, cur, rfl, hg, hh, r⟩
    exact ⟨g, c, cur, rfl, hg, (hk g hg (lt_of_block hh)).trans hh, r⟩
  · obtain ⟨x, h3, h4⟩ := h2 j hj
    exact ⟨x, h3, h4.keep fun g hg => hk g (h4.lt hg).1 (h4.lt hg).2⟩
/-- What getWays tells, and leaves. -/
def WaysPost (bi : Nat) (r : List (List De) × St × Nat) (w : World) (e : Ending) (w' : World) : Prop :=
  ∃ v, e = .returned (.tuple #[v, .int .i64 (r.2.2 : Int)]) ∧ OwnW w' w.heap.size v (r.1.map (·.map cutN)) ∧ InAt w' bi r.2.1 ∧ Frm w.heap.size bi w w'
/-- Between two ways that are read. -/
structure Gw (w : World) (bi : Nat) (v : Value) (ls : List (List De)) (S : St) (W : World) : Prop where
  inn : InAt W bi S
  own : OwnW W w.heap.size v ls
  frm : Frm w.heap.size bi w W
  lt : bi < w.heap.size
theorem Gw.next {w W W' : World} {bi : Nat} {v : Value} {ls : List (List De)} {S S' : St} (h : Gw w bi v ls S W) (hi : InAt W' bi S') (hf : Frm W.heap.size bi W W') : Gw w bi v ls S' W' := by
  have e1 := h.lt
  exact ⟨hi, h.own.hold fun g hg hl => hf.block g hl (by omega), h.frm.trans (hf.mono h.frm.size), e1⟩
theorem Gw.box {w W : World} {bi : Nat} {v : Value} {ls : List (List De)} {S : St} (h : Gw w bi v ls S W) (o : Obj) : Gw w bi v ls S (W.alloc o) := by
  have hb : Below W.heap.size W (W.alloc o) := (Below.refl _ _).alloc (Nat.le_refl _) _
  exact h.next (h.inn.kept (hb.block _ h.inn.lt)) (Frm.of_below hb)
theorem Gw.app {w W W2 : World} {bi : Nat} {v v2 : Value} {ls ls2 : List (List De)} {S : St} (h : Gw w bi v ls S W) (o : Obj) (h2 : OwnW W2 w.heap.size v2 ls2) (hg : (W.alloc o).grownBy W2 v.ownBlock) : Gw w bi v2 ls2 S W2 := by
  have h1 := h.box o
  have e1 := h.lt
  refine ⟨h1.inn.kept (hg.block bi h1.inn.lt (fun e => ?_)), h2, h1.frm.grown hg h1.frm.size (fun k e => .inl (h1.own.lt e).1), e1⟩
  have := (h1.own.lt e.symm).1
  omega
/-- The row of ways that is made. -/
def mkW (m : Nat) : Obj := .cells (madeCells (Value.slice none 0 0).cells (m * 1)) 51
theorem run_mkW (m : Nat) (hm : m ≤ 4) (W : World) : (Instr.makeSlice 23 (.int .i64 0) (.int .i64 (m : Int))).run Tryd.prog W = .ok (.slice (some ⟨W.heap.size, 0, none⟩) 0 m) (W.alloc (mkW m)) := by
  obtain ⟨i, hi, hz0, hz1, hz2⟩ := info_parts infoW
  have h := run_make (P := Tryd.prog) W 23 51 i _ Tryd.underlying23 hi hz0 .i64 .i64 0 (m : Int) (by omega) (by omega) (by rw [hz2]; omega) (by omega)
  rw [hz1, Int.toNat_natCast, Int.toNat_zero] at h
  exact h
theorem gw_made {w W : World} {bi : Nat} {S : St} (m : Nat) (hm : m ≤ 4) (hi : InAt W bi S) (hf : Frm w.heap.size bi w W) (hlt : bi < w.heap.size) : Gw w bi (.slice (some ⟨W.heap.size, 0, none⟩) 0 m) [] S (W.alloc (mkW m)) := by
  have hb : Below W.heap.size W (W.alloc (mkW m)) := (Below.refl _ _).alloc (Nat.le_refl _) _
  exact ⟨hi.kept (hb.block _ hi.lt), ⟨[], World.ownsRow_made W _ m hf.size (by unfold maxLen; omega) (size_madeCells _ _), fun j hj => absurd hj (Nat.not_lt_zero j)⟩, hf.trans (Frm.of_below (hb.mono hf.size)), hlt⟩
theorem ways_ret {w W : World} {bi n cap : Nat} {A : Option Addr} {ls : List (List De)} {S : St} {e : Nat} {act : Act} {r : List (List De) × St × Nat} (hr : r = (ls, S, e)) (h2 : act.tmps[2]?.getD undef = .slice A n cap) (h3 : act.tmps[3]?.getD undef = .int .i64 (e : Int)) (hd : act.defers = [])
    (hA : OwnW W w.heap.size (.slice A n cap) (ls.map (·.map cutN))) (hi : InAt W bi S) (hf : Frm w.heap.size bi w W) : bodyPost Tryd.prog Tryd.f32 (WaysPost bi r w) .ret act W := by
  subst hr
  refine bodyPost_ret (v := .tuple #[.slice A n cap, .int .i64 (e : Int)]) ?_ hd ⟨_, rfl, hA, hi, hf⟩
  simp [results, Tryd.results32, go_sem, h2, h3]

set_option maxRecDepth 100000 in
set_option maxHeartbeats 8000000 in
theorem getWays_any (w : World) (bi : Nat) (s : St) (hi : InAt w bi s) (hok : s.ok) (hl : s.rest.length ≤ 140737488355328) :
    Calls Tryd.prog 32 #[.pointer (some ⟨bi, 0, none⟩)] w (WaysPost bi (allW s) w) := by
  have hlt := hi.lt
  have HN := Lib.hid (mny_any w bi s hi hok hl)
  obtain ⟨r, hr⟩ : ∃ r, r = allW s := ⟨_, rfl⟩
  have HR := Lib.hid hr
  rw [← hr]
  have hok1 := rdNum_ok hok
  have hl1 := Nat.le_trans (rdNum_left s) hl
  clear hr hi hok hl
  unfold mny at HN
  unfold allW at HR
  generalize rdNum s = N at *
  obtain ⟨n, S⟩ := N
  dsimp only at HN HR hok1 hl1
  by_cases he : S.err ≠ 0
  · rw [if_pos he] at HN HR
    have he' : ((S.err : Int) != 0) = true := by simpa using he
    clear he
    go_enter Tryd.func32, Tryd.ntmps32
    go_wp2_with fail
    refine HN.out.mono ?_
    rintro e w1 ⟨rfl, hi1, hf1⟩
    have HI1 := Lib.hid hi1
    have HF1 := Lib.hid hf1
    clear hi1 hf1 HN
    go_wp2_with fail
    exact ways_ret HR.out (by rfl) (by rfl) rfl (OwnW.nil _ _) HI1.out HF1.out
  · rw [if_neg he] at HN HR
    clear he
    by_cases h4 : 4 < n
    · rw [if_pos h4] at HN HR
      clear h4
      go_enter Tryd.func32, Tryd.ntmps32
      go_wp2_with fail
      refine HN.out.mono ?_
      rintro e w1 ⟨rfl, hi1, hf1⟩
      have HI1 := Lib.hid hi1
      have HF1 := Lib.hid hf1
      clear hi1 hf1 HN
      go_wp2_with fail
      exact ways_ret HR.out (by rfl) (by rfl) rfl (OwnW.nil _ _) HI1.out HF1.out
    · rw [if_neg h4] at HN HR
      have hm4 : n ≤ 4 := by omega
      have hmk := run_mkW n hm4
      clear h4
      have HStop : Hid (∀ j, j ≤ n → ∀ q : List (List De) × St × Nat, rdWays S j = q → q.2.2 ≠ 0 → rdWays S n = q) := Lib.hid (fun j hj q h hq => rdWays_stuck h hq n hj)
      go_enter Tryd.func32, Tryd.ntmps32
      go_wp2_with fail
      refine HN.out.mono ?_
      rintro e w1 ⟨rfl, hi1, hf1⟩
      have HG0 := Lib.hid (gw_made n hm4 hi1 hf1 hlt)
      clear hi1 hf1 HN
      go_wp2_with fail
      generalize w1.alloc (mkW n) = W2 at *
      generalize w1.heap.size = g0 at *
      go_loopw [6, 20] (fun v i wr => ∃ (j : Nat) (ls : List (List De)) (S' : St), j ≤ n ∧ i = .int .i64 (j : Int) ∧ Hid (rdWays S j = (ls, S', 0)) ∧ Hid (Gw w bi v (ls.map (·.map cutN)) S' wr) ∧ Hid (S'.ok ∧ S'.rest.length ≤ 140737488355328)) (fun _ i _ => n - (intOf i).toNat)
      case atStart => exact ⟨0, [], S, Nat.zero_le _, rfl, Lib.hid rfl, HG0, Lib.hid ⟨hok1, hl1⟩⟩
      case round =>
        obtain ⟨j, ls, S', hj, rfl, HL, HG, HO⟩ := hrel
        have hlen : ls.length = j := by have := rdWays_length j (by rw [HL.out] : (rdWays S j).2.2 = 0); rwa [HL.out] at this
        obtain ⟨A, cap, hv⟩ := HG.out.own.slice
        rw [List.length_map, hlen] at hv
        subst hv
        by_cases hlt2 : j < n
        · have hlt' : (j : Int) < (n : Int) := by omega
          have HD := Lib.hid (getNeeds_any wr bi S' HG.out.inn HO.out.1 HO.out.2)
          unfold NeedsPost at HD
          have HNx : Hid (rdWays S (j + 1) = if (rdWay S').2.2 ≠ 0 then ([], (rdWay S').2.1, (rdWay S').2.2) else (ls ++ [(rdWay S').1], (rdWay S').2.1, 0)) := Lib.hid (by simp only [rdWays, HL.out]; rfl)
          have HO2 := Lib.hid (And.intro (rdWay_ok HO.out.1) (Nat.le_trans (rdWay_left S') HO.out.2))
          clear HO HL
          generalize rdWay S' = q at *
          obtain ⟨x, T, e⟩ := q
          dsimp only at HD HNx HO2
          go_wp2_with fail
          refine HD.out.mono ?_
          rintro e1 w3 ⟨vx, rfl, hx3, hi3, hf3⟩
          have HG3 := Lib.hid (HG.out.next hi3 hf3)
          have HX3 := Lib.hid (hx3.base HG.out.frm.size)
          obtain ⟨Ax, cx, hvx⟩ := hx3.slice
          have HVx := Lib.hid hvx
          clear hi3 hf3 hx3 HG HD hvx
          by_cases hT : e = 0
          · have hT' : ((e : Int) != 0) = false := by simp [hT]
            have HQ : Hid (rdWays S (j + 1) = (ls ++ [x], T, 0)) := Lib.hid (by rw [HNx.out, if_neg (by simp [hT])])
            have HM : Hid ((ls ++ [x]).map (·.map cutN) = ls.map (·.map cutN) ++ [x.map cutN]) := Lib.hid (by rw [List.map_append]; rfl)
            have hown1 := HG3.out.own
            have hone := HX3.out
            have hbase : w.heap.size ≤ w3.heap.size := HG3.out.frm.size
            have hll : (ls.map (·.map cutN)).length = j := by rw [List.length_map, hlen]
            have Hap := fun (v2 : Value) (W2 : World) (h1 : OwnW W2 w.heap.size v2 (ls.map (·.map cutN) ++ [x.map cutN])) (h2 : (w3.alloc (.cells #[vx] 51)).grownBy W2 (Value.slice A j cap).ownBlock) => HG3.out.app (.cells #[vx] 51) h1 h2
            clear HNx hT HX3 HG3
            generalize ls.map (·.map cutN) = lc at *
            generalize x.map cutN = xc at *
            have hvx := HVx.out
            subst hvx
            clear HVx
            go_wp2_with (
              at_builtin
              refine wpList_appW (by rfl) (.tmp 30) (.tmp 32) (by rfl) w.heap.size 1 (.slice A j cap) _ lc xc (by rfl) hown1 (by rfl) hone rfl (by omega) hbase ?_)
            intro v2 W5 hv2 hg2
            have HG5 := Lib.hid (Hap v2 W5 hv2 ⟨hg2.os, hg2.tape, hg2.output, hg2.size, hg2.block⟩)
            clear hown1 hone hv2 hg2 Hap
            go_wp2
            go_roundw
            case rel => exact ⟨j + 1, ls ++ [x], T, by omega, by go_num, HQ, by rw [HM.out]; exact HG5, HO2⟩
            case measure => simp [intOf]; omega
          · have hT' : ((e : Int) != 0) = true := by simpa using hT
            have HQ : Hid (rdWays S n = ([], T, e)) := Lib.hid (HStop.out (j + 1) (by omega) ([], T, e) (by rw [HNx.out, if_pos hT]) hT)
            have HV : Hid (r = ([], T, e)) := Lib.hid (by rw [HR.out, HQ.out])
            have hvx := HVx.out
            subst hvx
            clear HVx HNx hT HQ HR
            go_wp2_with fail
            exact ways_ret HV.out (by rfl) (by rfl) rfl (OwnW.nil _ _) HG3.out.inn HG3.out.frm
        · obtain rfl : j = n := by omega
          have HV : Hid (r = (ls, S', 0)) := Lib.hid (by rw [HR.out, HL.out])
          go_wp2_with fail
          exact ways_ret HV.out (by rfl) (by rfl) rfl HG.out.own HG.out.inn HG.out.frm
end Go.Proofs.YtigjeeedobnmhaaDoor.need

/-
  The program's own answer what is wrong with a wait (typed over the code of 5ef5b61): of objects of which there are no more than a set has numbers. The tables must lie where their initialisers lay them.
-/
namespace Go.Proofs.YtigjeeedobnmhaaDoor.need
open Go.RowKit Go.ChangeShapes
open Go.Proofs.YtigjeeedobnmhaaDoor.objs (De zero CellsAt DAt)
open Go.Proofs.YtigjeeedobnmhaaDoor.bits (may)
set_option linter.unusedVariables false

theorem oneN_kind {d : List De} {n : De} (h : ¬ (1 ≤ n.1 ∧ n.1 ≤ 5)) : oneN d n = 6 := by unfold oneN; rw [if_pos (by omega)]
theorem oneN_known {d : List De} {n : De} (h : 1 ≤ n.1 ∧ n.1 ≤ 5) (h0 : oneN d n ≠ 0) : oneN d n = 1 := by
  unfold oneN at h0 ⊢
  rw [if_neg (by omega)] at h0 ⊢
  split
  · rfl
  · split
    · rfl
    · rename_i h1 h2
      rw [if_neg h1, if_neg h2] at h0
      exact absurd rfl h0
theorem ones_may {d l : List De} (hd : d.length ≤ 64) (h : ones d l = 0) : ∀ n ∈ l, may n.2.1 := fun n hn => by
  obtain ⟨_, h2, _⟩ := oneN_zero (ones_zero h n hn)
  unfold may
  omega

/-- Between two needs. -/
structure Ws (w : World) (A B : Option Addr) (d l : List De) (W : World) : Prop where
  below : Below w.heap.size w W
  objs : DAt W A d
  way : DAt W B l
  ok : Oke W
theorem Ws.next {w W W' : World} {A B : Option Addr} {d l : List De} (h : Ws w A B d l W) (hb : Below W.heap.size W W') : Ws w A B d l W' := ⟨h.below.trans (hb.mono h.below.size), h.objs.next hb, h.way.next hb, h.ok.next hb⟩
theorem Ws.box {w W : World} {A B : Option Addr} {d l : List De} (h : Ws w A B d l W) (k o m : Int) : Ws w A B d l (W.alloc (needBox k o m)) := h.next (nbox_below W k o m)

set_option maxRecDepth 100000 in
set_option maxHeartbeats 4000000 in
theorem way_any (A B : Option Addr) (capd cap : Nat) (d l : List De) (hd : d.length ≤ 64) (w : World) (hA : DAt w A d) (hB : DAt w B l) (hw : Oke w) :
    Calls Tryd.prog 29 #[.slice A d.length capd, .slice B l.length cap] w (ChkPost9 (chkWay d l) w) := by
  have HM := Lib.hid (many_any l.length w)
  unfold ChkPost9
  unfold manyC at HM
  by_cases h0 : l.length = 0
  · rw [if_pos h0] at HM
    have HV := Lib.hid (chkWay_2 (d := d) h0)
    clear hA hB hw h0
    go_enter Tryd.func29, Tryd.ntmps29
    go_wp2_with fail
    refine HM.out.mono ?_
    rintro e w1 ⟨rfl, rfl⟩
    go_wp2
    go_ret
    exact ⟨ret_int (by rw [HV.out]; rfl), Below.refl _ _⟩
  · rw [if_neg h0] at HM
    by_cases h4 : 4 < l.length
    · rw [if_pos h4] at HM
      have HV := Lib.hid (chkWay_4 (d := d) h4)
      clear hA hB hw h0 h4
      go_enter Tryd.func29, Tryd.ntmps29
      go_wp2_with fail
      refine HM.out.mono ?_
      rintro e w1 ⟨rfl, rfl⟩
      go_wp2
      go_ret
      exact ⟨ret_int (by rw [HV.out]; rfl), Below.refl _ _⟩
    · rw [if_neg h4] at HM
      have HV1 := fun h1 => Lib.hid (chkWay_bad (d := d) h0 h4 h1)
      have HV2 := fun h1 h2 => Lib.hid (chkWay_twice (d := d) h0 h4 h1 h2)
      have HV3 := fun h1 h2 => Lib.hid (chkWay_fine (d := d) h0 h4 h1 h2)
      obtain ⟨v, hv⟩ : ∃ v, v = chkWay d l := ⟨_, rfl⟩
      rw [← hv] at HV1 HV2 HV3 ⊢
      have hl4 : l.length ≤ 4 := by omega
      have HS0 : Hid (Ws w A B d l w) := Lib.hid ⟨Below.refl _ _, hA, hB, hw⟩
      have HD := Lib.hid hd
      clear hA hB hw h0 h4 hv hd
      go_enter Tryd.func29, Tryd.ntmps29
      go_wp2_with fail
      refine HM.out.mono ?_
      rintro e w1 ⟨rfl, rfl⟩
      go_wp2_with fail
      go_loopw [16] (fun i wr => ∃ j : Nat, j ≤ l.length ∧ i = .int .i64 (j : Int) ∧ Hid (ones d l = ones d (l.drop j)) ∧ Hid (Ws w A B d l wr)) (fun i _ => l.length - (intOf i).toNat)
      case atStart => exact ⟨0, Nat.zero_le _, rfl, Lib.hid (by simp), HS0⟩
      case round =>
        obtain ⟨j, hj, rfl, HJ, HS⟩ := hrel
        by_cases hlt : j < l.length
        · have HNx := Lib.hid (ones_drop (d := d) hlt)
          obtain ⟨b0, off, hBe, hbl, c0, c1, c2⟩ := HS.out.way j hlt
          have hlt' : (j : Int) < (l.length : Int) := by omega
          have hj0 : (0 : Int) ≤ (j : Int) := by omega
          have HR := fun (hk : 1 ≤ (l.getD j zero).1 ∧ (l.getD j zero).1 ≤ 5) W (hW : Ws w A B d l W) => Lib.hid (range_any A capd d (l.getD j zero) hk (by have := HD.out; omega) W hW.objs hW.ok)
          have HX6 := fun h => Lib.hid (oneN_kind (d := d) (n := l.getD j zero) h)
          have HX1 := fun h1 h2 => Lib.hid (oneN_known (d := d) (n := l.getD j zero) h1 h2)
          generalize l.getD j zero = n at *
          have HS1 := Lib.hid (HS.out.box n.1 n.2.1 n.2.2)
          have hbx := nbox_at wr n.1 n.2.1 n.2.2
          have HK := fun W => Lib.hid (known_any n.1 W)
          generalize oneN d n = q at *
          obtain ⟨k, o, m⟩ := n
          unfold needBox at HS1 hbx
          dsimp only at HR HX6 HX1 HS1 hbx HK c0 c1 c2
          clear HS
          subst hBe
          go_upto_region 7 with fail
          clear c0 c1 c2
          generalize wr.alloc (.cells #[.int .i64 k, .int .i64 o, .int .i64 m] 50) = W1 at *
          generalize wr.heap.size = g at *
          obtain ⟨c0, c1, c2⟩ := hbx
          by_cases hk : 1 ≤ k ∧ k ≤ 5
          · rw [decide_eq_true hk] at HK
            have HR1 := HR hk W1 HS1.out
            have HX := HX1 hk
            clear HR HX6 HX1 hk
            by_cases hq : q = 0
            · have HE : Hid (ones d l = ones d (l.drop (j + 1))) := Lib.hid (by rw [HJ.out, HNx.out, if_neg (by simp [hq])])
              rw [decide_eq_true hq] at HR1
              clear hq HX
              go_wp2_with fail
              refine (HK _).out.mono ?_
              rintro e w2 ⟨rfl, rfl⟩
              go_wp2_with fail
              refine HR1.out.mono ?_
              rintro e w2 ⟨rfl, hb2⟩
              have HS2 := Lib.hid (HS1.out.next hb2)
              clear hb2 HS1 HR1 c0 c1 c2
              go_wp2
              go_roundw
              case rel => exact ⟨j + 1, by omega, by go_num, HE, HS2⟩
              case measure => simp [intOf]; omega
            · have hq1 := (HX hq).out
              have HE : Hid (ones d l = 1) := Lib.hid (by rw [HJ.out, HNx.out, if_pos hq, hq1])
              have HV : Hid (v = 1) := Lib.hid (by rw [(HV1 (by rw [HE.out]; decide)).out, HE.out])
              rw [decide_eq_false hq] at HR1
              clear hq HX hq1
              go_wp2_with fail
              refine (HK _).out.mono ?_
              rintro e w2 ⟨rfl, rfl⟩
              go_wp2_with fail
              refine HR1.out.mono ?_
              rintro e w2 ⟨rfl, hb2⟩
              have HS2 := Lib.hid (HS1.out.next hb2)
              clear hb2 HS1 HR1 c0 c1 c2
              go_wp2
              go_ret
              exact ⟨ret_int (by rw [HV.out]; rfl), HS2.out.below⟩
          · rw [decide_eq_false hk] at HK
            have hq1 := (HX6 hk).out
            have HE : Hid (ones d l = 6) := Lib.hid (by rw [HJ.out, HNx.out, hq1, if_pos (by decide)])
            have HV : Hid (v = 6) := Lib.hid (by rw [(HV1 (by rw [HE.out]; decide)).out, HE.out])
            clear HR HX6 HX1 hk hq1
            go_wp2_with fail
            refine (HK _).out.mono ?_
            rintro e w2 ⟨rfl, rfl⟩
            go_wp2
            go_ret
            exact ⟨ret_int (by rw [HV.out]; rfl), HS1.out.below⟩
        · obtain rfl : j = l.length := by omega
          have h1 : ones d l = 0 := by rw [HJ.out, List.drop_length]; rfl
          have HC := Lib.hid (clashes_any B cap l hl4 (ones_may HD.out h1) wr HS.out.way)
          have HV2' := fun h2 => HV2 h1 h2
          have HV3' := fun h2 => HV3 h1 h2
          clear HV1 HV2 HV3 h1 HJ
          generalize twiceTo l l.length = t at *
          cases t with
          | true =>
            have HV := HV2' rfl
            go_wp2_with fail
            refine HC.out.mono ?_
            rintro e w2 ⟨rfl, hb2⟩
            have HS2 := Lib.hid (HS.out.next hb2)
            clear hb2 HS HC
            go_wp2
            go_ret
            exact ⟨ret_int (by rw [HV.out]; rfl), HS2.out.below⟩
          | false =>
            have HV := HV3' rfl
            go_wp2_with fail
            refine HC.out.mono ?_
            rintro e w2 ⟨rfl, hb2⟩
            have HS2 := Lib.hid (HS.out.next hb2)
            clear hb2 HS HC
            go_wp2
            go_ret
            exact ⟨ret_int (by rw [HV.out]; rfl), HS2.out.below⟩

/-- Between two ways. -/
structure Vs (w : World) (A B : Option Addr) (d : List De) (l : List (List De)) (W : World) : Prop where
  below : Below w.heap.size w W
  objs : DAt W A d
  ways : WAt W B l
  ok : Oke W
theorem Vs.next {w W W' : World} {A B : Option Addr} {d : List De} {l : List (List De)} (h : Vs w A B d l W) (hb : Below W.heap.size W W') : Vs w A B d l W' := ⟨h.below.trans (hb.mono h.below.size), h.objs.next hb, h.ways.next hb, h.ok.next hb⟩

set_option maxRecDepth 100000 in
set_option maxHeartbeats 4000000 in
theorem check_any (A B : Option Addr) (capd cap : Nat) (d : List De) (l : List (List De)) (hd : d.length ≤ 64) (w : World) (hA : DAt w A d) (hB : WAt w B l) (hw : Oke w) :
    Calls Tryd.prog 14 #[.slice A d.length capd, .slice B l.length cap] w (ChkPost9 (chkW d l) w) := by
  have HM := Lib.hid (many_any l.length w)
  unfold ChkPost9
  unfold manyC at HM
  obtain ⟨v, hv⟩ : ∃ v, v = chkW d l := ⟨_, rfl⟩
  rw [← hv]
  by_cases h0 : l.length = 0
  · rw [if_pos h0] at HM
    have HV : Hid (v = 2) := Lib.hid (by rw [hv]; unfold chkW; rw [if_pos h0])
    clear hA hB hw h0 hv
    go_enter Tryd.func14, Tryd.ntmps14
    go_wp2_with fail
    refine HM.out.mono ?_
    rintro e w1 ⟨rfl, rfl⟩
    go_wp2
    go_ret
    exact ⟨ret_int (by rw [HV.out]; rfl), Below.refl _ _⟩
  · rw [if_neg h0] at HM
    by_cases h4 : 4 < l.length
    · rw [if_pos h4] at HM
      have HV : Hid (v = 4) := Lib.hid (by rw [hv]; unfold chkW; rw [if_neg h0, if_pos h4])
      clear hA hB hw h0 h4 hv
      go_enter Tryd.func14, Tryd.ntmps14
      go_wp2_with fail
      refine HM.out.mono ?_
      rintro e w1 ⟨rfl, rfl⟩
      go_wp2
      go_ret
      exact ⟨ret_int (by rw [HV.out]; rfl), Below.refl _ _⟩
    · rw [if_neg h4] at HM
      have HV : Hid (v = ways d l) := Lib.hid (by rw [hv]; unfold chkW; rw [if_neg h0, if_neg h4])
      have hl4 : l.length ≤ 4 := by omega
      have HS0 : Hid (Vs w A B d l w) := Lib.hid ⟨Below.refl _ _, hA, hB, hw⟩
      have HD := Lib.hid hd
      clear hA hB hw h0 h4 hv hd
      go_enter Tryd.func14, Tryd.ntmps14
      go_wp2_with fail
      refine HM.out.mono ?_
      rintro e w1 ⟨rfl, rfl⟩
      go_wp2_with fail
      go_loopw [17] (fun i wr => ∃ j : Nat, j ≤ l.length ∧ i = .int .i64 (j : Int) ∧ Hid (v = ways d (l.drop j)) ∧ Hid (Vs w A B d l wr)) (fun i _ => l.length - (intOf i).toNat)
      case atStart => exact ⟨0, Nat.zero_le _, rfl, by simpa using HV, HS0⟩
      case round =>
        obtain ⟨j, hj, rfl, HJ, HS⟩ := hrel
        by_cases hlt : j < l.length
        · have HNx := Lib.hid (ways_drop (d := d) hlt)
          obtain ⟨b0, off, Aj, cj, hBe, hbl, hc, hdj⟩ := HS.out.ways j hlt
          have hlt' : (j : Int) < (l.length : Int) := by omega
          have hj0 : (0 : Int) ≤ (j : Int) := by omega
          have HC := Lib.hid (way_any A Aj capd cj d (l.getD j []) HD.out wr HS.out.objs hdj HS.out.ok)
          unfold ChkPost9 at HC
          generalize l.getD j [] = lj at *
          generalize chkWay d lj = q at *
          subst hBe
          clear hdj
          by_cases hq : q = 0
          · have HE : Hid (v = ways d (l.drop (j + 1))) := Lib.hid (by rw [HJ.out, HNx.out, if_neg (by simp [hq])])
            have hq' : ((q : Int) != 0) = false := by simp [hq]
            clear hq
            go_wp2_with fail
            refine HC.out.mono ?_
            rintro e w2 ⟨rfl, hb2⟩
            have HS2 := Lib.hid (HS.out.next hb2)
            clear hb2 HS HC hc
            go_wp2
            go_roundw
            case rel => exact ⟨j + 1, by omega, by go_num, HE, HS2⟩
            case measure => simp [intOf]; omega
          · have HE : Hid (v = q) := Lib.hid (by rw [HJ.out, HNx.out, if_pos hq])
            have hq' : ((q : Int) != 0) = true := by simpa using hq
            clear hq
            go_wp2_with fail
            refine HC.out.mono ?_
            rintro e w2 ⟨rfl, hb2⟩
            have HS2 := Lib.hid (HS.out.next hb2)
            clear hb2 HS HC hc
            go_wp2
            go_ret
            exact ⟨ret_int (by rw [HE.out]), HS2.out.below⟩
        · obtain rfl : j = l.length := by omega
          have HE : Hid (v = 0) := Lib.hid (by rw [HJ.out, List.drop_length]; rfl)
          go_wp2
          go_ret
          exact ⟨ret_int (by rw [HE.out]; rfl), HS.out.below⟩
end Go.Proofs.YtigjeeedobnmhaaDoor.need

/-
  The writer's calls, each by itself: what bytes a byte, a number, a number with a sign and a text lay behind what was put. The bytes put are together at most two to the forty-seventh.
-/
namespace Go.Proofs.YtigjeeedobnmhaaDoor.octet
open Go.RowKit Go.ChangeShapes

theorem info5 : (Tryd.prog.info? 5).map (fun i => (i.zero, i.size, i.bytes)) = some (some (.int .u8 0), 1, 1) := by kernel_rfl

def bof (n : Int) : UInt8 := UInt8.ofNat (n % 256).toNat
theorem bof_cell (n : Int) : Value.int .u8 ((bof n).toNat : Int) = .int .u8 (n % 256) := by
  congr 1
  unfold bof
  rw [UInt8.toNat_ofNat']
  omega

/-- Behind an append to the writer's own bytes, the slice stored back. -/
theorem out_store {w w1 : World} {base bo : Nat} {l r : List UInt8} {v v' : Value} (h1 : w.heap[bo]? = some (.cells #[v] 56 (0, 0))) (h2 : w.ownsRow base 5 1 v l.length (cells l)) (h3 : bo < base) (h4 : base ≤ w.heap.size)
    {W : World} (hW : ∃ o, W = w.alloc o ∨ W = w) (hown : w1.ownsRow base 5 1 v' (l.length + r.length) (cells l ++ cells r)) (hg : W.grownBy w1 v.ownBlock) :
    w1.heap[bo]? = some (.cells #[v] 56 (0, 0)) ∧ OutAt (w1.setCell ⟨bo, 0, none⟩ v') base bo (l ++ r) ∧ Frm base bo w (w1.setCell ⟨bo, 0, none⟩ v') := by
  have hlt := lt_of_block h1
  have hob : ∀ k, v.ownBlock = some k → base ≤ k ∧ k < w.heap.size := h2.lt
  have hWs : w.heap.size ≤ W.heap.size ∧ ∀ k, k < w.heap.size → W.heap[k]? = w.heap[k]? := by
    obtain ⟨o, rfl | rfl⟩ := hW
    · exact ⟨by simp, fun k hk => Below.heap_alloc _ _ _ hk⟩
    · exact ⟨Nat.le_refl _, fun _ _ => rfl⟩
  have hWo : W.os = w.os ∧ W.tape = w.tape ∧ W.output = w.output := by
    obtain ⟨o, rfl | rfl⟩ := hW <;> exact ⟨rfl, rfl, rfl⟩
  have hb : w1.heap[bo]? = some (.cells #[v] 56 (0, 0)) := by
    rw [hg.block bo (by omega) (fun e => by have := (hob bo e.symm).1; omega), hWs.2 bo hlt]
    exact h1
  have hv' : v'.ownBlock ≠ some bo := fun e => by have := (hown.lt bo e).1; omega
  refine ⟨hb, ⟨v', one_setCell hb, ?_, h3, ?_⟩, ?_⟩
  · rw [List.length_append, cells_append]
    exact ownsRow_setCell_other hown hv' _
  · have := hg.size
    simp [World.setCell]
    omega
  · refine Frm.setCell (p := ⟨bo, 0, none⟩) ⟨hg.os.trans hWo.1, hg.tape.trans hWo.2.1, hg.output.trans hWo.2.2, Nat.le_trans hWs.1 hg.size, fun k hk hx => ?_⟩ (.inl rfl) _
    rw [hg.block k (by omega) (fun e => by have := (hob k e.symm).1; omega), hWs.2 k (by omega)]

theorem own_slice {w : World} {base : Nat} {e : TypeId} {size n : Nat} {v : Value} {xs : List Value} (h : w.ownsRow base e size v n xs) : ∃ A m c, v = .slice A m c := by
  rcases h.2 with ⟨rfl, _⟩ | ⟨g, cap, cur, rfl, _⟩
  · exact ⟨_, _, _, rfl⟩
  · exact ⟨_, _, _, rfl⟩

set_option maxHeartbeats 400000 in
theorem byte_any (w : World) (base bo : Nat) (l : List UInt8) (n : Int) (h : OutAt w base bo l) (hl : l.length + 1 ≤ 140737488355328) :
    Calls Tryd.prog 42 #[.pointer (some ⟨bo, 0, none⟩), .int .i64 n] w fun e w' => e = .returned (.tuple #[]) ∧ OutAt w' base bo (l ++ [bof n]) ∧ Frm base bo w w' := by
  obtain ⟨v, h1, h2, h3, h4⟩ := h
  obtain ⟨i0, hi, hz0, hz1, hz2⟩ := info_parts info5
  have hc := cell_of_one h1
  have hf := free_of_one h1
  go_enter Tryd.func42, Tryd.ntmps42
  go_wp2_with (
    at_builtin
    refine wpList_append_own _ rfl (.tmp 10) (.tmp 13) _ rfl base 5 i0 _ 1 1 Tryd.underlying54 hi hz0 hz1 hz2 rfl (by omega) v l.length (cells l) rfl (h2.alloc _)
      ⟨w.heap.size, 0, none⟩ 1 1 [.int .u8 (n % 256)] rfl rfl ?c1 ?c2 ?c3 ?c4 ?c5 ?_)
  case c1 =>
    intro j u hu
    rcases j with _ | j
    · simp only [List.getElem?_cons_zero, Option.some.injEq] at hu
      subst hu
      exact cell_of_one (heap_alloc_new w _)
    · simp at hu
  case c2 => intro u hu; simp only [List.mem_singleton] at hu; subst hu; rfl
  case c3 => simp only [maxLen]; omega
  case c4 => omega
  case c5 => simp; omega
  intro v' w1 hown hg _
  have hs := out_store (r := [bof n]) h1 h2 h3 h4 ⟨_, .inl rfl⟩ (by simpa [cells, bof_cell] using hown) hg
  have hc1 := cell_of_one hs.1
  have hf1 := free_of_one hs.1
  obtain ⟨_, hs2, hs3⟩ := hs
  obtain ⟨A', m', c', rfl⟩ := own_slice hown
  go_wp2
  go_end0
  exact ⟨rfl, hs2, hs3⟩
/-- The number is one of sixty-four bits. -/
def Fits (n : Nat) : Prop := n < 18446744073709551616

theorem bof_nat (m : Nat) : bof (m : Int) = UInt8.ofNat m := by
  unfold bof
  apply UInt8.toNat_inj.1
  rw [UInt8.toNat_ofNat', UInt8.toNat_ofNat']
  omega
theorem or_and_u64 (m : Nat) (hm : Fits m) : wrap64 (bits .or .u64 (bits .and .u64 (m : Int) 127) 128) = ((m % 128 + 128 : Nat) : Int) := by
  unfold Fits at hm
  have e1 : bits .and .u64 (m : Int) 127 = ((m % 128 : Nat) : Int) := by
    rw [← nat_mask7]; exact u64_and_nat m 127 hm (by omega)
  have e2 : bits .or .u64 ((m % 128 : Nat) : Int) 128 = ((m % 128 + 128 : Nat) : Int) := by
    have h := u64_or_nat (m % 128) 128 (by omega) (by omega)
    rw [Nat.or_comm, nat_join 7 128 (m % 128) rfl (by omega), Nat.add_comm] at h
    exact h
  rw [e1, e2]
  unfold wrap64
  omega

set_option maxHeartbeats 400000 in
theorem num_any (w : World) (base bo : Nat) (l : List UInt8) (n : Nat) (hn : Fits n) (h : OutAt w base bo l) (hl : l.length + 10 ≤ 140737488355328) :
    Calls Tryd.prog 25 #[.pointer (some ⟨bo, 0, none⟩), .int .u64 (n : Int)] w fun e w' => e = .returned (.tuple #[]) ∧ OutAt w' base bo (l ++ num n) ∧ Frm base bo w w' := by
  go_enter Tryd.func25, Tryd.ntmps25
  go_wp2
  go_loopw [1] (fun t wr => ∃ (m : Nat) (pre : List UInt8), t = .int .u64 (m : Int) ∧ Fits m ∧ pre ++ num m = num n ∧ OutAt wr base bo (l ++ pre) ∧ Frm base bo w wr) (fun t _ => (intOf t).toNat)
  case atStart => exact ⟨n, [], rfl, hn, rfl, by simpa using h, Frm.refl _ _ _⟩
  case round =>
    obtain ⟨m, pre, rfl, hm, he, ho, hfr⟩ := hrel
    have hpl : (l ++ pre).length + 1 ≤ 140737488355328 := by
      have e1 := congrArg List.length he
      have e2 := num_length_le n
      have e3 := enc_length_pos 9 m
      have e4 : (num m).length = (enc 9 m).length := rfl
      simp only [List.length_append] at e1 ⊢
      omega
    have HE := Lib.hid he
    clear he
    by_cases hlt : m < 128
    · go_wp2_with fail
      refine (byte_any _ base bo (l ++ pre) _ ho hpl).mono ?_
      rintro e w1 ⟨rfl, ho1, hf1⟩
      go_wp2
      go_end0
      refine ⟨rfl, ?_, hfr.trans hf1⟩
      rw [← HE.out, num_small hlt, ← List.append_assoc]
      rw [bof_nat] at ho1
      exact ho1
    · go_wp2_with fail
      rw [or_and_u64 m hm]
      refine (byte_any _ base bo (l ++ pre) _ ho hpl).mono ?_
      rintro e w1 ⟨rfl, ho1, hf1⟩
      go_wp2
      refine ⟨⟨m / 128, pre ++ [UInt8.ofNat (m % 128 + 128)], ?_, ?_, ?_, ?_, hfr.trans hf1⟩, ?_⟩
      · congr 1
      · unfold Fits at hm ⊢; omega
      · rw [← HE.out, num_big (by omega) hm, List.append_assoc]
        rfl
      · rw [← List.append_assoc, ← bof_nat]; exact ho1
      · simp [intOf]; omega

theorem i64_not_neg (n : Int) (h1 : -9223372036854775808 ≤ n) (h2 : n < 0) : bits .xor .i64 (-1) n = -1 - n := by
  show IntKind.i64.wrap ((BitVec.ofInt 64 (-1) ^^^ BitVec.ofInt 64 n).toNat : Int) = _
  have e1 : BitVec.ofInt 64 (-1) = BitVec.allOnes 64 := by decide
  have e2 : (BitVec.ofInt 64 n).toNat = (n + 18446744073709551616).toNat := by
    rw [BitVec.toNat_ofInt]
    omega
  rw [e1, BitVec.allOnes_xor, BitVec.toNat_not, e2]
  simp only [IntKind.wrap_i64]
  omega
theorem zig_neg (n : Int) (h1 : -9223372036854775808 ≤ n) (h2 : n < 0) :
    bits .or .u64 (IntKind.u64.wrap (IntKind.u64.wrap (bits .xor .i64 (-1) n) * 2)) 1 = ((zig n : Nat) : Int) := by
  rw [i64_not_neg n h1 h2]
  have e1 : IntKind.u64.wrap (IntKind.u64.wrap (-1 - n) * 2) = (((-1 - n).toNat * 2 : Nat) : Int) := by
    simp only [IntKind.wrap_u64]
    omega
  have e2 := u64_or_nat ((-1 - n).toNat * 2) 1 (by omega) (by omega)
  rw [nat_join 1 ((-1 - n).toNat * 2) 1 (by omega) (by omega)] at e2
  rw [e1]
  refine e2.trans ?_
  unfold zig
  rw [if_neg (by omega)]
  omega
theorem zig_pos (n : Int) (h1 : ¬ n < 0) : n * 2 = ((zig n : Nat) : Int) := by
  unfold zig
  rw [if_pos (by omega)]
  omega

theorem run_own_string {w : World} {base : Nat} {v : Value} {l : List UInt8} (h : w.ownsRow base 5 1 v l.length (cells l)) :
    (convert 54 9 v).run Tryd.prog w = .ok (.string ⟨l.toArray⟩) w := by
  rcases h.2 with ⟨rfl, h0⟩ | ⟨g, cap, cur, rfl, hg⟩
  · have : l = [] := List.eq_nil_of_length_eq_zero h0
    subst this
    rw [run_convert_bytes_string w 54 9 5 none 0 0 Tryd.underlying54 Tryd.underlying5 Tryd.underlying9]
    rfl
  · exact run_convert_bytes_back w 54 9 5 ⟨g, 0, none⟩ cap l Tryd.underlying54 Tryd.underlying5 Tryd.underlying9 (fun j hj => by
      refine World.ownsRow.cells h (g := g) rfl j _ ?_
      simp [cells, List.getElem?_eq_getElem hj])

set_option maxHeartbeats 400000 in
theorem done_any (w : World) (base bo : Nat) (l : List UInt8) (h : OutAt w base bo l) :
    Calls Tryd.prog 27 #[.pointer (some ⟨bo, 0, none⟩)] w fun e w' => e = .returned (.string ⟨l.toArray⟩) ∧ w = w' := by
  obtain ⟨v, h1, h2, h3, h4⟩ := h
  have hc := cell_of_one h1
  have hrun := run_own_string h2
  obtain ⟨A, m, c, rfl⟩ := own_slice h2
  go_enter Tryd.func27, Tryd.ntmps27
  go_wp2
  go_ret
  exact ⟨rfl, rfl⟩
end Go.Proofs.YtigjeeedobnmhaaDoor.octet

/-
  One call that puts something: what it lays behind what was put; and the document's own bytes of it. The bytes put are together at most two to the forty-seventh.
-/
namespace Go.Proofs.YtigjeeedobnmhaaDoor.octet
open Go.RowKit Go.ChangeShapes
set_option linter.unusedVariables false

/-- What is put: which kind, and its number, number with a sign, text. -/
structure OpD where
  kind : Int
  n : Nat
  i : Int
  s : ByteArray
def OpD.fits (o : OpD) : Prop := Fits o.n ∧ -9223372036854775808 ≤ o.i ∧ o.i ≤ 9223372036854775807
def OpD.bytes (o : OpD) : List UInt8 := if o.kind = 0 then [UInt8.ofNat (o.n % 256)] else if o.kind = 1 then num o.n else if o.kind = 2 then num (zig o.i) else num o.s.size ++ o.s.data.toList
theorem OpD.length_le (o : OpD) : o.bytes.length ≤ o.s.size + 10 := by
  have h1 := num_length_le o.n
  have h2 := num_length_le (zig o.i)
  have h3 := num_length_le o.s.size
  have h4 : o.s.data.toList.length = o.s.size := by rw [Array.length_toList]; rfl
  unfold OpD.bytes
  split
  · simp
  · split
    · omega
    · split
      · omega
      · rw [List.length_append]; omega

theorem mk_append (l r : List UInt8) : ByteArray.mk l.toArray ++ ByteArray.mk r.toArray = ByteArray.mk (l ++ r).toArray := by
  apply ByteArray.ext
  apply Array.toList_inj.1
  simp [ByteArray.data_append]
theorem run_one (w : World) (x : Int) (b : UInt8) (hx : x = (b.toNat : Int)) :
    (convert 54 9 (.slice (some ⟨w.heap.size, 0, none⟩) 1 1)).run Tryd.prog (w.alloc (.cells #[.int .u8 x] 5)) = .ok (.string ⟨[b].toArray⟩) (w.alloc (.cells #[.int .u8 x] 5)) := by
  subst hx
  refine run_convert_bytes_back _ 54 9 5 ⟨w.heap.size, 0, none⟩ 1 [b] Tryd.underlying54 Tryd.underlying5 Tryd.underlying9 (fun j hj => ?_)
  have hj0 : j = 0 := by simp at hj; exact hj
  subst hj0
  exact cell_of_one (heap_alloc_new w _)

set_option maxHeartbeats 1000000 in
set_option maxRecDepth 100000 in
theorem refNumW_any (w : World) (n : Nat) (hn : Fits n) :
    Calls Tryd.prog 30 #[.int .u64 (n : Int)] w fun e w' => e = .returned (.string ⟨(num n).toArray⟩) ∧ Below w.heap.size w w' := by
  go_enter Tryd.func30, Tryd.ntmps30
  go_wp2
  go_loopw [0, 3] (fun t v wr => ∃ (m : Nat) (pre : List UInt8), t = .int .u64 (m : Int) ∧ v = .string ⟨pre.toArray⟩ ∧ Fits m ∧ pre ++ num m = num n ∧ Below w.heap.size w wr) (fun t _ _ => (intOf t).toNat)
  case atStart => exact ⟨n, [], rfl, rfl, hn, rfl, Below.refl _ _⟩
  case round =>
    obtain ⟨m, pre, rfl, rfl, hm, he, hb⟩ := hrel
    have hpl : pre.length ≤ 9 := by
      have e1 := congrArg List.length he
      have e2 := num_length_le n
      have e3 := enc_length_pos 9 m
      have e4 : (num m).length = (enc 9 m).length := rfl
      simp only [List.length_append] at e1
      omega
    have hps := size_mk pre
    have HE := Lib.hid he
    clear he
    by_cases hlt : m < 128
    · obtain ⟨c, hc⟩ : ∃ c, c = UInt8.ofNat m := ⟨_, rfl⟩
      have hone := run_one wr (m : Int) c (by rw [hc, UInt8.toNat_ofNat']; omega)
      have hos := size_mk [c]
      have HC := Lib.hid hc
      have HB := Lib.hid (hb.alloc hb.size (.cells #[.int .u8 (m : Int)] 5))
      clear hc
      go_wp2
      go_ret
      refine ⟨?_, HB.out⟩
      rw [← HE.out, num_small hlt, ← HC.out, ← mk_append]
      rfl
    · obtain ⟨c, hc⟩ : ∃ c, c = UInt8.ofNat (m % 128 + 128) := ⟨_, rfl⟩
      have hone := run_one wr ((m : Int) % 128 + 128) c (by rw [hc, UInt8.toNat_ofNat']; omega)
      have hos := size_mk [c]
      have HC := Lib.hid hc
      have HB := Lib.hid (hb.alloc hb.size (.cells #[.int .u8 ((m : Int) % 128 + 128)] 5))
      clear hc
      go_wp2
      refine ⟨⟨m / 128, pre ++ [c], ?_, ?_, ?_, ?_, HB.out⟩, ?_⟩
      · unfold Fits at hm
        rw [IntKind.wrap_u64]
        congr 1
        omega
      · rw [← mk_append]
      · unfold Fits at hm ⊢; omega
      · rw [← HE.out, num_big (by omega) hm, List.append_assoc, HC.out]
        rfl
      · unfold Fits at hm
        rw [IntKind.wrap_u64]
        simp [intOf]
        omega

end Go.Proofs.YtigjeeedobnmhaaDoor.octet

/-
  The document's decimals of any number. No condition but that it is an int.
-/
namespace Go.Proofs.YtigjeeedobnmhaaDoor.need
open Go.RowKit Go.ChangeShapes
open Go.Proofs.YtigjeeedobnmhaaDoor.octet (mk_append size_mk)
set_option linter.unusedVariables false

/-- A slice of one byte as a text. -/
theorem run_byte_at (v : World) (b : Nat) (x : Int) (c : UInt8) (hc : (c.toNat : Int) = x) (h : v.cell? ⟨b, 0, none⟩ = some (.int .u8 x)) :
    (convert 54 9 (.slice (some ⟨b, 0, none⟩) 1 1)).run Tryd.prog v = .ok (.string ⟨[c].toArray⟩) v := by
  refine run_convert_bytes_back _ 54 9 5 ⟨b, 0, none⟩ 1 [c] Tryd.underlying54 Tryd.underlying5 Tryd.underlying9 (fun j hj => ?_)
  have hj0 : j = 0 := by simpa using hj
  subst hj0
  rw [← hc] at h
  exact h
theorem ret_str {a b : ByteArray} (h : a = b) : Ending.returned (.string a) = .returned (.string b) := by rw [h]
theorem ret_text {a b : List UInt8} (h : a = b) : Ending.returned (.string ⟨a.toArray⟩) = .returned (.string ⟨b.toArray⟩) := by rw [h]

set_option maxRecDepth 100000 in
set_option maxHeartbeats 400000 in
theorem digs_one (n : Nat) (hn : n < 10) (w : World) :
    Calls Tryd.prog 55 #[.int .i64 (n : Int)] w fun e w' => e = .returned (.string ⟨(digs n).toArray⟩) ∧ Below w.heap.size w w' := by
  obtain ⟨c, hc⟩ : ∃ c, c = UInt8.ofNat (48 + n) := ⟨_, rfl⟩
  have HD : Hid (digs n = [c]) := Lib.hid (by rw [digs_small hn, hc])
  rw [HD.out]
  have hrun := run_byte_at (w.alloc (.cells #[.int .u8 (48 + (n : Int))] 5)) w.heap.size (48 + (n : Int)) c (by rw [hc, UInt8.toNat_ofNat']; omega) (cell_of_one (heap_alloc_new w _))
  have HB := Lib.hid ((Below.refl w.heap.size w).alloc (Nat.le_refl _) (.cells #[.int .u8 (48 + (n : Int))] 5))
  clear hc HD
  go_enter Tryd.func55, Tryd.ntmps55
  go_wp2
  go_ret
  exact ⟨rfl, HB.out⟩

set_option maxRecDepth 100000 in
set_option maxHeartbeats 2000000 in
theorem digs_more (n : Nat) (h10 : ¬ n < 10) (hn : n ≤ 9223372036854775807)
    (hS : ∀ W : World, Calls Tryd.prog 55 #[.int .i64 ((n / 10 : Nat) : Int)] W fun e w' => e = .returned (.string ⟨(digs (n / 10)).toArray⟩) ∧ Below W.heap.size W w') (w : World) :
    Calls Tryd.prog 55 #[.int .i64 (n : Int)] w fun e w' => e = .returned (.string ⟨(digs n).toArray⟩) ∧ Below w.heap.size w w' := by
  obtain ⟨q, hq⟩ : ∃ q : Nat, q = n / 10 := ⟨_, rfl⟩
  obtain ⟨y, hy⟩ : ∃ y : Nat, y = n % 10 := ⟨_, rfl⟩
  rw [← hq] at hS
  have hl := digs_64 (n := q) (by omega)
  have HS := fun W => Lib.hid (hS W)
  have e1 : IntKind.i64.wrap ((n : Int) / 10) = (q : Int) := by rw [IntKind.wrap_i64]; omega
  have e2 : (n : Int).tmod 10 = (y : Int) := by rw [Int.tmod_eq_emod_of_nonneg (by omega)]; omega
  obtain ⟨x, hx⟩ : ∃ x : Int, x = 48 + (y : Int) := ⟨_, rfl⟩
  have e3 : IntKind.i64.wrap (48 + (y : Int)) = x := by rw [hx, IntKind.wrap_i64]; omega
  have e4 : IntKind.u8.wrap x = x := by rw [hx]; simp [IntKind.wrap, IntKind.signed, IntKind.bits]; omega
  obtain ⟨c, hc⟩ : ∃ c, c = UInt8.ofNat (48 + y) := ⟨_, rfl⟩
  have HX : Hid ((c.toNat : Int) = x) := Lib.hid (by rw [hc, UInt8.toNat_ofNat', hx]; omega)
  have HD : Hid (digs n = digs q ++ [c]) := Lib.hid (by rw [digs_big h10, ← hq, ← hy, hc])
  rw [HD.out]
  generalize digs q = dq at *
  have s1 := size_mk dq
  have s2 : (ByteArray.mk #[c]).size = 1 := rfl
  have hr1 : ∀ W : World, (convert 54 9 (.slice (some ⟨W.heap.size, 0, none⟩) 1 1)).run Tryd.prog (W.alloc (.cells #[.int .u8 x] 5)) = .ok (.string ⟨[c].toArray⟩) (W.alloc (.cells #[.int .u8 x] 5)) := fun W => run_byte_at _ _ x c HX.out (cell_of_one (heap_alloc_new W _))
  have hr2 := fun v b => run_byte_at v b x c HX.out
  have hd : decide ((n : Int) < 10) = false := by simp; omega
  clear hS hq hy hx hc h10 hn HD
  go_enter Tryd.func55, Tryd.ntmps55
  go_wp2_with fail
  go_region_with ((go_at_call 55; refine (HS _).out.mono ?_; rintro e w2 ⟨rfl, hb2⟩; (try (have hcc : w2.cell? ⟨w.heap.size, 0, none⟩ = some (.int .u8 x) := (hb2.cell (p := ⟨w.heap.size, 0, none⟩) (by simp)).trans (cell_of_one (heap_alloc_new w _))))))
  all_goals go_wp2
  all_goals
    go_ret
    refine ⟨ret_str (mk_append dq [c]), ?_⟩
    first
      | exact (((Below.refl w.heap.size w).drew.trans hb2).alloc hb2.size _)
      | exact (((Below.refl w.heap.size w).alloc (Nat.le_refl _) _).drew.trans (hb2.mono (by simp)))
/-- The document's decimals. -/
theorem refDigs_any : ∀ k (n : Nat), n < k → n ≤ 9223372036854775807 → ∀ w : World,
    Calls Tryd.prog 55 #[.int .i64 (n : Int)] w fun e w' => e = .returned (.string ⟨(digs n).toArray⟩) ∧ Below w.heap.size w w' := by
  intro k
  induction k with
  | zero => intro n hn; omega
  | succ k ih =>
    intro n hn h w
    by_cases h10 : n < 10
    · exact digs_one n h10 w
    · exact digs_more n h10 h (fun W => ih (n / 10) (by omega) (by omega) W) w
theorem intT_least : intT (-9223372036854775808) = [45, 57, 50, 50, 51, 51, 55, 50, 48, 51, 54, 56, 53, 52, 55, 55, 53, 56, 48, 56] := by
  unfold intT
  rw [if_pos (by omega)]
  have e : (-(-9223372036854775808 : Int)).toNat = 9223372036854775808 := rfl
  rw [e]
  rw [digs_big (by decide), digs_big (by decide), digs_big (by decide), digs_big (by decide), digs_big (by decide), digs_big (by decide), digs_big (by decide), digs_big (by decide), digs_big (by decide), digs_big (by decide), digs_big (by decide), digs_big (by decide), digs_big (by decide), digs_big (by decide), digs_big (by decide), digs_big (by decide), digs_big (by decide), digs_big (by decide), digs_small (by decide)]
  rfl
set_option maxRecDepth 100000 in
set_option maxHeartbeats 400000 in
theorem refInt9_any (n : Int) (hn : -9223372036854775808 ≤ n ∧ n ≤ 9223372036854775807) (w : World) :
    Calls Tryd.prog 37 #[.int .i64 n] w fun e w' => e = .returned (.string ⟨(intT n).toArray⟩) ∧ Below w.heap.size w w' := by
  by_cases h0 : n = -9223372036854775808
  · subst h0
    have HE := Lib.hid intT_least
    rw [HE.out]
    go_enter Tryd.func37, Tryd.ntmps37
    go_wp2_with fail
    go_ret
    exact ⟨rfl, Below.refl _ _⟩
  · have hb : (n == -9223372036854775808) = false := by simpa using h0
    by_cases h1 : n < 0
    · obtain ⟨m, hm⟩ : ∃ m : Nat, (m : Int) = -n := ⟨(-n).toNat, by omega⟩
      have HE : Hid (intT n = [45] ++ digs m) := Lib.hid (by unfold intT; rw [if_pos h1, ← hm, Int.toNat_natCast]; rfl)
      have HD := fun W => Lib.hid (refDigs_any (m + 1) m (by omega) (by omega) W)
      rw [HE.out]
      have hd : decide (n < 0) = true := by simpa using h1
      have hw : IntKind.i64.wrap (-n) = (m : Int) := by rw [IntKind.wrap_i64]; omega
      have hl := digs_64 (n := m) (by omega)
      generalize digs m = dq at *
      have s1 := size_mk dq
      have s2 : (ByteArray.mk #[45]).size = 1 := rfl
      clear hn h0 HE h1 hm
      go_enter Tryd.func37, Tryd.ntmps37
      go_wp2_with fail
      refine (HD _).out.mono ?_
      rintro e w1 ⟨rfl, hb1⟩
      go_wp2
      go_ret
      exact ⟨ret_str (mk_append [45] dq), hb1⟩
    · have HE : Hid (intT n = digs n.toNat) := Lib.hid (by unfold intT; rw [if_neg h1])
      obtain ⟨m, rfl⟩ : ∃ m : Nat, n = (m : Int) := ⟨n.toNat, by omega⟩
      have HD := fun W => Lib.hid (refDigs_any (m + 1) m (by omega) (by omega) W)
      rw [HE.out, Int.toNat_natCast]
      have hd : decide ((m : Int) < 0) = false := by simp
      clear hn h0 HE h1
      generalize digs m = dq at *
      go_enter Tryd.func37, Tryd.ntmps37
      go_wp2_with fail
      refine (HD _).out.mono ?_
      rintro e w1 ⟨rfl, hb1⟩
      go_wp2
      go_ret
      exact ⟨rfl, hb1⟩
end Go.Proofs.YtigjeeedobnmhaaDoor.need

/-
  The document's own bytes of a wait. No condition but that its numbers are small.
-/
namespace Go.Proofs.YtigjeeedobnmhaaDoor.need
open Go.RowKit Go.ChangeShapes
open Go.Proofs.YtigjeeedobnmhaaDoor.octet (mk_append size_mk refNumW_any num num_length_le Fits)
open Go.Proofs.YtigjeeedobnmhaaDoor.objs (De zero CellsAt DAt)
set_option linter.unusedVariables false

/-- What the bytes of a need ask of its numbers. -/
def Slim9 (n : De) : Prop := (1 ≤ n.1 ∧ n.1 ≤ 5) ∧ (0 ≤ n.2.1 ∧ n.2.1 ≤ 1000) ∧ (0 ≤ n.2.2 ∧ n.2.2 ≤ 1000)
/-- While a need is put: the wait, and the need that is put, in a block of its own. -/
structure P9 (w : World) (A : Option Addr) (l : List (List De)) (g : Nat) (k a b : Int) (W : World) : Prop where
  list : WAt W A l
  below : Below w.heap.size w W
  box : W.heap[g]? = some (needBox k a b)
theorem P9.next {w W W' : World} {A : Option Addr} {l : List (List De)} {g : Nat} {k a b : Int} (h : P9 w A l g k a b W) (hb : Below W.heap.size W W') : P9 w A l g k a b W' :=
  ⟨h.list.next hb, h.below.trans (hb.mono h.below.size), (hb.block g (lt_of_block h.box)).trans h.box⟩
theorem P9.cells {w W : World} {A : Option Addr} {l : List (List De)} {g : Nat} {k a b : Int} (h : P9 w A l g k a b W) :
    W.cell? ⟨g, 0, none⟩ = some (.int .i64 k) ∧ W.cell? ⟨g, 1, none⟩ = some (.int .i64 a) ∧ W.cell? ⟨g, 2, none⟩ = some (.int .i64 b) := by
  unfold World.cell?
  rw [h.box]
  exact ⟨rfl, rfl, rfl⟩
theorem p9_new {w wr : World} {A : Option Addr} {l : List (List De)} (k a b : Int) (hA : WAt wr A l) (hb : Below w.heap.size w wr) : P9 w A l wr.heap.size k a b (wr.alloc (needBox k a b)) :=
  ⟨hA.next ((Below.refl _ _).alloc (Nat.le_refl _) _), hb.alloc hb.size _, heap_alloc_new wr _⟩

set_option maxRecDepth 100000 in
set_option maxHeartbeats 16000000 in
theorem refPut9_any (A : Option Addr) (cap : Nat) (l : List (List De)) (hl : l.length ≤ 6) (hll : ∀ x ∈ l, x.length ≤ 6) (hs : ∀ x ∈ l, ∀ t ∈ x, Slim9 t) (w : World) (hA : WAt w A l) :
    Calls Tryd.prog 15 #[.slice A l.length cap] w fun e w' => e = .returned (.string ⟨(encW l).toArray⟩) ∧ Below w.heap.size w w' := by
  have HL := Lib.hid hll
  have HS := Lib.hid hs
  have HW : Hid (encW l = num l.length ++ encWs l l.length) := Lib.hid rfl
  rw [HW.out]
  have HN := fun W (m : Nat) (hm : m ≤ 1000) => Lib.hid (refNumW_any W m (by unfold Fits; omega))
  have HA := Lib.hid hA
  clear hA hs hll HW
  have HN0 := HN w l.length (by omega)
  have hwl := num_length_le l.length
  go_enter Tryd.func15, Tryd.ntmps15
  go_wp2_with fail
  refine HN0.out.mono ?_
  rintro e w1 ⟨rfl, hb1⟩
  have HB1 := Lib.hid hb1
  clear hb1 HN0
  go_wp2_with fail
  go_loopw [3, 4] (fun t i wr => ∃ j : Nat, j ≤ l.length ∧ i = .int .i64 (j : Int) ∧ t = .string ⟨(num l.length ++ encWs l j).toArray⟩ ∧ Hid (Below w.heap.size w wr)) (fun _ i _ => l.length - (intOf i).toNat)
  case atStart => exact ⟨0, Nat.zero_le _, rfl, by simp [encWs], HB1⟩
  case round =>
    obtain ⟨j, hj, rfl, rfl, HB⟩ := hrel
    by_cases hlt : j < l.length
    · obtain ⟨b, off, Aj, cj, rfl, hbl, hc, hdj⟩ := (HA.out.next HB.out) j hlt
      have HD0 := Lib.hid (HA.out j hlt)
      have hlt' : (j : Int) < (l.length : Int) := by omega
      have hj0 : (0 : Int) ≤ (j : Int) := by omega
      have hlj := HL.out _ (getW_mem hlt)
      have HSj := Lib.hid (HS.out _ (getW_mem hlt))
      have HE : Hid (num l.length ++ encWs l (j + 1) = (num l.length ++ encWs l j) ++ num (l.getD j []).length ++ encNs (l.getD j []) (l.getD j []).length) := Lib.hid (by simp only [encWs, encWay, List.append_assoc])
      have hpre : (num l.length ++ encWs l j).length ≤ 1000 := by
        have h2 := encWs_le HL.out j (by omega)
        rw [List.length_append]
        omega
      generalize num l.length ++ encWs l j = pre at *
      generalize hgj : l.getD j [] = lj at *
      have HNj := HN wr lj.length (by omega)
      have hwj := num_length_le lj.length
      have hs1 := size_mk pre
      have hs2 := size_mk (num lj.length)
      have hpn : (pre ++ num lj.length).length ≤ 1010 := by rw [List.length_append]; omega
      have HPN : Hid (ByteArray.mk pre.toArray ++ ByteArray.mk (num lj.length).toArray = ByteArray.mk (pre ++ num lj.length).toArray) := Lib.hid (mk_append _ _)
      go_wp2_with fail
      refine HNj.out.mono ?_
      rintro e w2 ⟨rfl, hb2⟩
      have HB2 := Lib.hid (HB.out.trans (hb2.mono HB.out.size))
      clear hb2 HNj hc hdj
      go_wp2_with fail
      simp only [HPN.out]
      generalize pre ++ num lj.length = pn at *
      go_loopw [3, 5] (fun t i wr => ∃ k : Nat, k ≤ lj.length ∧ i = .int .i64 (k : Int) ∧ t = .string ⟨(pn ++ encNs lj k).toArray⟩ ∧ Hid (Below w.heap.size w wr)) (fun _ i _ => lj.length - (intOf i).toNat)
      case atStart => exact ⟨0, Nat.zero_le _, rfl, by simp [encNs], HB2⟩
      case round =>
        obtain ⟨k, hk, rfl, rfl, HBk⟩ := hrel
        obtain ⟨bA, offA, AjA, cjA, hAe, hblA, hcA, hdA⟩ := (HA.out.next HBk.out) j hlt
        injection hAe with hAe
        injection hAe with hAe1 hAe2
        subst hAe1 hAe2
        rw [hgj] at hcA hdA
        by_cases hlk : k < lj.length
        · obtain ⟨b2, off2, rfl, hbl2, c0, c1, c2⟩ := hdA k hlk
          have hlk' : (k : Int) < (lj.length : Int) := by omega
          have hk0 : (0 : Int) ≤ (k : Int) := by omega
          have hsl := HSj.out _ (getD_mem hlk)
          have HEk : Hid (pn ++ encNs lj (k + 1) = (pn ++ encNs lj k) ++ encN (lj.getD k zero)) := Lib.hid (by simp only [encNs, List.append_assoc])
          have hpk : (pn ++ encNs lj k).length ≤ 1200 := by
            have h2 := encNs_le lj k
            rw [List.length_append]
            omega
          generalize pn ++ encNs lj k = pk at *
          generalize lj.getD k zero = t at *
          obtain ⟨tk, tob, tn⟩ := t
          obtain ⟨⟨g1, g2⟩, ⟨g3, g4⟩, g5, g6⟩ := hsl
          dsimp only at g1 g2 g3 g4 g5 g6 c0 c1 c2 HEk
          obtain ⟨mo, rfl⟩ : ∃ m : Nat, tob = (m : Int) := ⟨tob.toNat, by omega⟩
          obtain ⟨mn, rfl⟩ : ∃ m : Nat, tn = (m : Int) := ⟨tn.toNat, by omega⟩
          have HP := Lib.hid (p9_new (k := tk) (a := (mo : Int)) (b := (mn : Int)) (HA.out.next HBk.out) HBk.out)
          have hmo : mo ≤ 1000 := by omega
          have hmn : mn ≤ 1000 := by omega
          unfold needBox at HP
          obtain ⟨bk, hbk⟩ : ∃ bk, bk = UInt8.ofNat tk.toNat := ⟨_, rfl⟩
          have hx : (bk.toNat : Int) = tk := by rw [hbk, UInt8.toNat_ofNat']; omega
          have HEn : Hid (pk ++ encN (tk, (mo : Int), (mn : Int)) = ((pk ++ [bk]) ++ num mo) ++ pieceN tk (mn : Int)) := Lib.hid (by rw [hbk]; simp [encN])
          have hu8 : IntKind.u8.wrap tk = tk := by simp [IntKind.wrap, IntKind.signed, IntKind.bits]; omega
          have hwm : IntKind.u64.wrap (mo : Int) = (mo : Int) := by rw [IntKind.wrap_u64]; omega
          have hr1 : ∀ W : World, (convert 54 9 (.slice (some ⟨W.heap.size, 0, none⟩) 1 1)).run Tryd.prog (W.alloc (.cells #[.int .u8 tk] 5)) = .ok (.string ⟨[bk].toArray⟩) (W.alloc (.cells #[.int .u8 tk] 5)) := fun W => run_byte_at _ _ tk bk hx (cell_of_one (heap_alloc_new W _))
          have hr2 := fun v b => run_byte_at v b tk bk hx
          have HNo := fun W => HN W mo hmo
          have HNn := fun W => HN W mn hmn
          have hwo := num_length_le mo
          have hwn := num_length_le mn
          have z1 := size_mk pk
          have z2 : (ByteArray.mk #[bk]).size = 1 := rfl
          have z3 := size_mk (num mo)
          have z4 : (ByteArray.mk pk.toArray ++ ByteArray.mk #[bk]).size = pk.length + 1 := by rw [show (ByteArray.mk #[bk]) = ByteArray.mk [bk].toArray from rfl, mk_append, size_mk, List.length_append]; rfl
          have HM1 : Hid (ByteArray.mk pk.toArray ++ ByteArray.mk #[bk] ++ ByteArray.mk (num mo).toArray = ByteArray.mk ((pk ++ [bk]) ++ num mo).toArray) := Lib.hid (by rw [show (ByteArray.mk #[bk]) = ByteArray.mk [bk].toArray from rfl, mk_append, mk_append])
          have hpq : (((pk ++ [bk]) ++ num mo)).length ≤ 1211 := by rw [List.length_append, List.length_append]; simp; omega
          have HPN : Hid (pieceN tk (mn : Int) = if 3 < tk then num mn else []) := Lib.hid (by unfold pieceN; rw [Int.toNat_natCast])
          generalize num mo = no at *
          clear hbk hx HN
          go_upto_region 10 with fail
          clear c0 c1 c2 hcA hdA
          generalize wr.alloc (.cells #[.int .i64 tk, .int .i64 (mo : Int), .int .i64 (mn : Int)] 50) = W4 at *
          generalize wr.heap.size = g at *
          go_cut [3, 6] (fun s p wx => s = .string ⟨((pk ++ [bk]) ++ no).toArray⟩ ∧ p = .pointer (some ⟨g, 0, none⟩) ∧ Hid (P9 w (some ⟨b, off, none⟩) l g tk (mo : Int) (mn : Int) wx))
          case first =>
            obtain ⟨d0, d1, d2⟩ := HP.out.cells
            have hgl : g < W4.heap.size := lt_of_block HP.out.box
            go_region_with ((go_at_call 30; refine (HNo _).out.mono ?_; rintro e w5 ⟨rfl, hb5⟩; (try (have hcc : w5.cell? ⟨W4.heap.size, 0, none⟩ = some (.int .u8 tk) := (hb5.cell (p := ⟨W4.heap.size, 0, none⟩) (by simp)).trans (cell_of_one (heap_alloc_new W4 _)))); (try (have q0 : w5.cell? ⟨g, 0, none⟩ = some (.int .i64 tk) := (hb5.cell (p := ⟨g, 0, none⟩) hgl).trans d0))))
            all_goals
              first
                | (have HP5 := Lib.hid (HP.out.next (((Below.refl W4.heap.size W4).drew.trans hb5).alloc hb5.size (.cells #[.int .u8 tk] 5))); clear hb5; go_wp2_with fail; go_meet; exact ⟨by rw [HM1.out], rfl, HP5⟩)
                | (have HP5 := Lib.hid (HP.out.next (((Below.refl W4.heap.size W4).alloc (Nat.le_refl _) (.cells #[.int .u8 tk] 5)).drew.trans (hb5.mono (by simp)))); clear hb5; go_wp2_with fail; go_meet; exact ⟨by rw [HM1.out], rfl, HP5⟩)
          case rest =>
            obtain ⟨rfl, rfl, HP5⟩ := hcut
            generalize (pk ++ [bk]) ++ no = pq at *
            have zq := size_mk pq
            have zn := size_mk (num mn)
            have hwm2 : IntKind.u64.wrap (mn : Int) = (mn : Int) := by rw [IntKind.wrap_u64]; omega
            clear HM1 HP hr1 hr2 z1 z2 z3 z4 hu8 hwm HNo
            (rename (∀ (a : Act) (w : World), Code.wp _ _ _ a w → _) => hK; refine hK _ _ ?_; clear hK; apply wp_seq_k; intro _ _)
            obtain ⟨d0, d1, d2⟩ := HP5.out.cells
            by_cases h3 : 3 < tk
            · have q3 : decide (3 < tk) = true := by simpa using h3
              have HF : Hid (pk ++ encN (tk, (mo : Int), (mn : Int)) = pq ++ num mn) := Lib.hid (by rw [HEn.out, HPN.out, if_pos h3])
              clear h3 HEn HPN
              generalize num mn = nn at *
              go_wp2_with fail
              refine (HNn _).out.mono ?_
              rintro e w6 ⟨rfl, hb6⟩
              have HB6 := Lib.hid (HP5.out.next hb6).below
              clear hb6
              go_wp2
              go_roundw
              case rel => exact ⟨k + 1, by omega, by go_num, by rw [HEk.out, HF.out, ← mk_append], HB6⟩
              case measure => simp [intOf]; omega
            · have q3 : decide (3 < tk) = false := by simpa using h3
              have HF : Hid (pk ++ encN (tk, (mo : Int), (mn : Int)) = pq) := Lib.hid (by rw [HEn.out, HPN.out, if_neg h3, List.append_nil])
              clear h3 HEn HPN
              have HB6 := Lib.hid HP5.out.below
              go_wp2
              go_roundw
              case rel => exact ⟨k + 1, by omega, by go_num, by rw [HEk.out, HF.out], HB6⟩
              case measure => simp [intOf]; omega
        · obtain rfl : k = lj.length := by omega
          go_wp2_with fail
          go_roundw
          case rel => exact ⟨j + 1, by omega, by go_num, by rw [HE.out], HBk⟩
          case measure => simp [intOf]; omega
    · obtain rfl : j = l.length := by omega
      go_wp2_with fail
      go_ret
      exact ⟨rfl, HB.out⟩
end Go.Proofs.YtigjeeedobnmhaaDoor.need
