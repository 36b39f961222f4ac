/-
  The reader's numbers: what bytes are read as one, byte by byte, and the first error. The reader lies in a block of its own, holds no bytes behind an error, and at most two to the forty-seventh of them.
-/
import Derived.Test.YtaefkkhmhogpeaaDoorIn
namespace Go.Proofs.YtaefkkhmhogpeaaDoor.octet
open Go.RowKit Go.ChangeShapes
set_option linter.unusedVariables false

/-- What the reader makes of its bytes behind k bytes that made acc. -/
def decS (s : St) (k acc : Nat) : Nat × St := if s.err ≠ 0 then (0, s) else ((dec s.rest k acc).1, ⟨(dec s.rest k acc).2.1, (dec s.rest k acc).2.2⟩)

theorem rdByte_some {s : St} (h : (rdByte s).2.err = 0) : ∃ b r, s = ⟨b :: r, 0⟩ := by
  obtain ⟨rest, err⟩ := s
  unfold rdByte at h
  by_cases he : err = 0
  · subst he
    cases rest with
    | nil => simp at h
    | cons b r => exact ⟨b, r, rfl⟩
  · simp [he] at h
theorem rdByte_none {s : St} (h : (rdByte s).2.err ≠ 0) {k acc : Nat} : decS s k acc = (0, (rdByte s).2) := by
  obtain ⟨rest, err⟩ := s
  unfold rdByte at h ⊢
  unfold decS
  by_cases he : err = 0
  · subst he
    cases rest with
    | nil => simp [dec]
    | cons b r => simp at h
  · simp [he]

theorem pow7 (k : Nat) : (2 : Nat) ^ (7 * k) = 128 ^ k := by rw [Nat.pow_mul]
theorem acc_next {c kk acc : Nat} (ha : acc < 128 ^ kk) : acc + c % 128 * 128 ^ kk < 128 ^ (kk + 1) := by
  have h1 : c % 128 * 128 ^ kk ≤ 127 * 128 ^ kk := Nat.mul_le_mul_right _ (by omega)
  rw [Nat.pow_succ]
  omega
theorem or_shl_u64 {c kk acc : Nat} (hbad : ¬ ((kk = 9 ∧ 1 < c) ∨ (0 < kk ∧ c = 0))) (hk : kk ≤ 9) (hc : c < 256) (ha : acc < 128 ^ kk) :
    bits .or .u64 (acc : Int) (IntKind.u64.wrap (IntKind.u64.wrap (bits .and .u8 (c : Int) 127) * 2 ^ (7 * kk))) = ((acc + c % 128 * 128 ^ kk : Nat) : Int) := by
  have e1 : bits .and .u8 (c : Int) 127 = ((c % 128 : Nat) : Int) := by
    rw [← nat_mask7]; exact u8_and_nat c 127 hc (by omega)
  have e2 : IntKind.u64.wrap ((c % 128 : Nat) : Int) = ((c % 128 : Nat) : Int) := by
    rw [IntKind.wrap_u64]; omega
  have e3 : ((2 : Int) ^ (7 * kk)) = ((128 ^ kk : Nat) : Int) := by
    rw [← pow7]; simp
  have hle : (128 : Nat) ^ kk ≤ 128 ^ 9 := Nat.pow_le_pow_right (by omega) hk
  have h9 : (128 : Nat) ^ 9 = 9223372036854775808 := rfl
  have hX : c % 128 * 128 ^ kk < 18446744073709551616 := by
    by_cases h8 : kk = 9
    · subst h8
      have hc1 : c ≤ 1 := by omega
      have : c % 128 * 128 ^ 9 ≤ 1 * 128 ^ 9 := Nat.mul_le_mul_right _ (by omega)
      omega
    · have h1 : c % 128 * 128 ^ kk ≤ 127 * 128 ^ kk := Nat.mul_le_mul_right _ (by omega)
      have h2 : (128 : Nat) ^ kk ≤ 128 ^ 8 := Nat.pow_le_pow_right (by omega) (by omega)
      have h3 : (128 : Nat) ^ 8 = 72057594037927936 := rfl
      omega
  have e4 : IntKind.u64.wrap (((c % 128 : Nat) : Int) * ((128 ^ kk : Nat) : Int)) = ((c % 128 * 128 ^ kk : Nat) : Int) := by
    rw [← Int.natCast_mul, IntKind.wrap_u64]
    omega
  rw [e1, e2, e3, e4, u64_or_nat acc _ (by omega) hX, Nat.or_comm, nat_join (7 * kk) (c % 128 * 128 ^ kk) acc (by rw [pow7]; exact Nat.mul_mod_left _ _) (by rw [pow7]; exact ha), Nat.add_comm]

set_option maxHeartbeats 1000000 in
set_option maxRecDepth 100000 in
theorem numIn_any (w : World) (bi : Nat) (s : St) (hi : InAt w bi s) (hok : s.ok) (hl : s.rest.length ≤ 140737488355328) :
    Calls Tryd.prog 77 #[.pointer (some ⟨bi, 0, none⟩)] w fun r w' => r = .returned (.int .u64 ((rdNum s).1 : Int)) ∧ InAt w' bi (rdNum s).2 ∧ Frm w.heap.size bi w w' := by
  go_enter Tryd.func77, Tryd.ntmps77
  go_wp2
  go_loopw [3, 6] (fun n k wr => ∃ (kk acc : Nat) (s' : St), k = .int .i64 (kk : Int) ∧ kk ≤ 9 ∧ n = .int .u64 (acc : Int) ∧ acc < 128 ^ kk ∧ InAt wr bi s' ∧ s'.ok ∧ s'.rest.length ≤ 140737488355328 ∧ decS s' kk acc = rdNum s ∧ Frm w.heap.size bi w wr) (fun _ k _ => 9 - (intOf k).toNat)
  case atStart => exact ⟨0, 0, s, rfl, by omega, rfl, by simp, hi, hok, hl, rfl, Frm.refl _ _ _⟩
  case round =>
    obtain ⟨kk, acc, s', rfl, hk, rfl, hacc, hi', hok', hl', hd, hfr⟩ := hrel
    have HD := Lib.hid hd
    have HA := Lib.hid hacc
    clear hd hacc
    by_cases he : (rdByte s').2.err = 0
    · obtain ⟨b, r, rfl⟩ : ∃ b r, s' = ⟨b :: r, 0⟩ := rdByte_some he
      clear he
      have e1 : rdByte ⟨b :: r, 0⟩ = (b.toNat, ⟨r, 0⟩) := rfl
      have hb256 : b.toNat < 256 := b.toNat_lt
      have hok1 : St.ok ⟨r, 0⟩ := fun h0 => absurd rfl h0
      have hl1 : r.length + 1 ≤ 140737488355328 := hl'
      by_cases hbad : (kk = 9 ∧ 1 < b.toNat) ∨ (0 < kk ∧ b.toNat = 0)
      · have hfin : rdNum s = (0, ⟨[], 2⟩) := by
          rw [← HD.out]
          unfold decS
          rw [if_neg (by simp), dec_err hbad]
        have HF := Lib.hid hfin
        have HB := Lib.hid hbad
        clear hbad hfin
        have hcase : ((((kk : Int) == 9) = true ∧ decide (1 < (b.toNat : Int)) = true ∧ decide (0 < (kk : Int)) = true ∧ ((b.toNat : Int) == 0) = false) ∨
          (((kk : Int) == 9) = true ∧ decide (1 < (b.toNat : Int)) = false ∧ decide (0 < (kk : Int)) = true ∧ ((b.toNat : Int) == 0) = true)) ∨
          (((kk : Int) == 9) = false ∧ decide (1 < (b.toNat : Int)) = false ∧ decide (0 < (kk : Int)) = true ∧ ((b.toNat : Int) == 0) = true) := by
          have h1 := HB.out
          simp only [beq_iff_eq, beq_eq_false_iff_ne, decide_eq_true_eq, decide_eq_false_iff_not]
          omega
        have hnext := next_any wr bi _ hi' hok' hl'
        rw [e1] at hnext
        clear e1
        have HN := Lib.hid hnext
        clear hnext
        generalize b.toNat = c at *
        go_wp2_with fail
        refine HN.out.mono ?_
        rintro e w1 ⟨rfl, hi1, hf1⟩
        go_wp2_with fail
        refine (err_any _ bi _ hi1).mono ?_
        rintro e w2 ⟨rfl, rfl⟩
        rcases hcase with (⟨f1, f2, f3, f4⟩ | ⟨f1, f2, f3, f4⟩) | ⟨f1, f2, f3, f4⟩
        all_goals
          have g3 : 0 < kk := by simpa using f3
          go_wp2_with fail
          refine (fail_any _ bi _ 2 hi1).mono ?_
          rintro e w3 ⟨rfl, hi3, hf3⟩
          go_wp2
          go_ret
          rw [HF.out]
          exact ⟨rfl, hi3, hfr.trans ((hf1.mono hfr.size).trans (hf3.mono (by have := hf1.size; have := hfr.size; omega)))⟩
      · have hfin : decS ⟨b :: r, 0⟩ kk acc = if b.toNat < 128 then (acc + b.toNat % 128 * 128 ^ kk, ⟨r, 0⟩) else decS ⟨r, 0⟩ (kk + 1) (acc + b.toNat % 128 * 128 ^ kk) := by
          unfold decS
          by_cases hb : b.toNat < 128
          · rw [if_neg (by simp), dec_last hbad hb, if_pos hb]
          · rw [if_neg (by simp), dec_next hbad hb, if_neg hb, if_neg (by simp)]
        have HF := Lib.hid hfin
        have HB := Lib.hid hbad
        clear hbad hfin
        have hcase : ((((kk : Int) == 9) = true ∧ decide (1 < (b.toNat : Int)) = false ∧ decide (0 < (kk : Int)) = true ∧ ((b.toNat : Int) == 0) = false) ∨
          (((kk : Int) == 9) = false ∧ decide (0 < (kk : Int)) = true ∧ ((b.toNat : Int) == 0) = false)) ∨
          (((kk : Int) == 9) = false ∧ decide (0 < (kk : Int)) = false) := by
          have h1 := HB.out
          simp only [beq_iff_eq, beq_eq_false_iff_ne, decide_eq_true_eq, decide_eq_false_iff_not]
          omega
        have hnext := next_any wr bi _ hi' hok' hl'
        rw [e1] at hnext
        clear e1
        have HN := Lib.hid hnext
        clear hnext
        generalize b.toNat = c at *
        go_wp2_with fail
        refine HN.out.mono ?_
        rintro e w1 ⟨rfl, hi1, hf1⟩
        go_wp2_with fail
        refine (err_any _ bi _ hi1).mono ?_
        rintro e w2 ⟨rfl, rfl⟩
        have hor := or_shl_u64 HB.out hk hb256 HA.out
        have HO := Lib.hid hor
        clear hor
        by_cases hb : c < 128
        · have g1 : decide ((c : Int) < 128) = true := by simp; omega
          have h2 := HF.out
          rw [if_pos hb] at h2
          have hfin : rdNum s = (acc + c % 128 * 128 ^ kk, ⟨r, 0⟩) := by rw [← HD.out]; exact h2
          have HR := Lib.hid hfin
          clear h2 hfin
          rcases hcase with (⟨f1, f2, f3, f4⟩ | ⟨f1, f3, f4⟩) | ⟨f1, f3⟩
          all_goals
            go_wp2
            all_goals first
              | (exfalso; simp only [beq_iff_eq, beq_eq_false_iff_ne, decide_eq_true_eq, decide_eq_false_iff_not] at *; omega)
              | (rw [HO.out]; go_ret; rw [HR.out]; exact ⟨rfl, hi1, hfr.trans (hf1.mono hfr.size)⟩)
        · have g1 : decide ((c : Int) < 128) = false := by simp; omega
          have hcase' : (((kk : Int) == 9) = false ∧ decide (0 < (kk : Int)) = true ∧ ((c : Int) == 0) = false) ∨ (((kk : Int) == 9) = false ∧ decide (0 < (kk : Int)) = false) := by
            simp only [beq_iff_eq, beq_eq_false_iff_ne, decide_eq_true_eq, decide_eq_false_iff_not] at hcase ⊢
            omega
          have hk9 : kk + 1 ≤ 9 := by
            have h1 := HB.out
            omega
          clear hcase
          rcases hcase' with ⟨f1, f3, f4⟩ | ⟨f1, f3⟩
          all_goals
            go_wp2
            all_goals try (exfalso; simp only [beq_eq_false_iff_ne, decide_eq_true_eq, decide_eq_false_iff_not] at *; omega)
            rw [HO.out]
            refine ⟨⟨kk + 1, acc + c % 128 * 128 ^ kk, ⟨r, 0⟩, by go_num, hk9, rfl, acc_next HA.out, hi1, hok1, ?_, ?_, hfr.trans (hf1.mono hfr.size)⟩, ?_⟩
            · show r.length ≤ _
              omega
            · have h1 := HF.out
              rw [if_neg hb] at h1
              rw [← h1]
              exact HD.out
            · simp [intOf]
              omega
    · have hfin : rdNum s = (0, (rdByte s').2) := by
        rw [← HD.out]
        exact rdByte_none he
      have HF := Lib.hid hfin
      clear hfin
      go_wp2_with fail
      refine (next_any _ bi s' hi' hok' hl').mono ?_
      rintro e w1 ⟨rfl, hi1, hf1⟩
      go_wp2_with fail
      refine (err_any _ bi _ hi1).mono ?_
      rintro e w2 ⟨rfl, rfl⟩
      have he' : (((rdByte s').2.err : Int) != 0) = true := by simp [he]
      have HE := Lib.hid he
      clear he
      go_wp2_with fail
      go_ret
      rw [HF.out]
      exact ⟨rfl, hi1, hfr.trans (hf1.mono hfr.size)⟩
end Go.Proofs.YtaefkkhmhogpeaaDoor.octet
