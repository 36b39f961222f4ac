/-
  Texts of one claim in one file: InNum, Span, DGetPlain, EGetPlain. Each has its own sentence, with its conditions.
-/
import Derived.Test.YtfkcmdnnmnkklaaDoorEall2
import Derived.LoopTactic
import Derived.Outline
import Derived.Test.YtfkcmdnnmnkklaaDoorEall1
/-
  The reader's numbers: what bytes are read as one, byte by byte, and the first error. The reader lies in a block of its own, holds no bytes behind an error, and at most two to the forty-seventh of them.
-/
namespace Go.Proofs.YtfkcmdnnmnkklaaDoor.octet
open Go.RowKit Go.ChangeShapes
set_option linter.unusedVariables false

/-- What the reader makes of its bytes behind k bytes that made acc. -/
def decS (s : St) (k acc : Nat) : Nat × St := if s.err ≠ 0 then (0, s) else ((dec s.rest k acc).1, ⟨(dec s.rest k acc).2.1, (dec s.rest k acc).2.2⟩)

theorem rdByte_some {s : St} (h : (rdByte s).2.err = 0) : ∃ b r, s = ⟨b :: r, 0⟩ := by
  obtain ⟨rest, err⟩ := s
  unfold rdByte at h
  by_cases he : err = 0
  · subst he
    cases rest with
    | nil => simp at h
    | cons b r => exact ⟨b, r, rfl⟩
  · simp [he] at h
theorem rdByte_none {s : St} (h : (rdByte s).2.err ≠ 0) {k acc : Nat} : decS s k acc = (0, (rdByte s).2) := by
  obtain ⟨rest, err⟩ := s
  unfold rdByte at h ⊢
  unfold decS
  by_cases he : err = 0
  · subst he
    cases rest with
    | nil => simp [dec]
    | cons b r => simp at h
  · simp [he]

theorem pow7 (k : Nat) : (2 : Nat) ^ (7 * k) = 128 ^ k := by rw [Nat.pow_mul]
theorem acc_next {c kk acc : Nat} (ha : acc < 128 ^ kk) : acc + c % 128 * 128 ^ kk < 128 ^ (kk + 1) := by
  have h1 : c % 128 * 128 ^ kk ≤ 127 * 128 ^ kk := Nat.mul_le_mul_right _ (by omega)
  rw [Nat.pow_succ]
  omega
theorem or_shl_u64 {c kk acc : Nat} (hbad : ¬ ((kk = 9 ∧ 1 < c) ∨ (0 < kk ∧ c = 0))) (hk : kk ≤ 9) (hc : c < 256) (ha : acc < 128 ^ kk) :
    bits .or .u64 (acc : Int) (IntKind.u64.wrap (IntKind.u64.wrap (bits .and .u8 (c : Int) 127) * 2 ^ (7 * kk))) = ((acc + c % 128 * 128 ^ kk : Nat) : Int) := by
  have e1 : bits .and .u8 (c : Int) 127 = ((c % 128 : Nat) : Int) := by
    rw [← nat_mask7]; exact u8_and_nat c 127 hc (by omega)
  have e2 : IntKind.u64.wrap ((c % 128 : Nat) : Int) = ((c % 128 : Nat) : Int) := by
    rw [IntKind.wrap_u64]; omega
  have e3 : ((2 : Int) ^ (7 * kk)) = ((128 ^ kk : Nat) : Int) := by
    rw [← pow7]; simp
  have hle : (128 : Nat) ^ kk ≤ 128 ^ 9 := Nat.pow_le_pow_right (by omega) hk
  have h9 : (128 : Nat) ^ 9 = 9223372036854775808 := rfl
  have hX : c % 128 * 128 ^ kk < 18446744073709551616 := by
    by_cases h8 : kk = 9
    · subst h8
      have hc1 : c ≤ 1 := by omega
      have : c % 128 * 128 ^ 9 ≤ 1 * 128 ^ 9 := Nat.mul_le_mul_right _ (by omega)
      omega
    · have h1 : c % 128 * 128 ^ kk ≤ 127 * 128 ^ kk := Nat.mul_le_mul_right _ (by omega)
      have h2 : (128 : Nat) ^ kk ≤ 128 ^ 8 := Nat.pow_le_pow_right (by omega) (by omega)
      have h3 : (128 : Nat) ^ 8 = 72057594037927936 := rfl
      omega
  have e4 : IntKind.u64.wrap (((c % 128 : Nat) : Int) * ((128 ^ kk : Nat) : Int)) = ((c % 128 * 128 ^ kk : Nat) : Int) := by
    rw [← Int.natCast_mul, IntKind.wrap_u64]
    omega
  rw [e1, e2, e3, e4, u64_or_nat acc _ (by omega) hX, Nat.or_comm, nat_join (7 * kk) (c % 128 * 128 ^ kk) acc (by rw [pow7]; exact Nat.mul_mod_left _ _) (by rw [pow7]; exact ha), Nat.add_comm]

set_option maxHeartbeats 1000000 in
set_option maxRecDepth 100000 in
theorem numIn_any (w : World) (bi : Nat) (s : St) (hi : InAt w bi s) (hok : s.ok) (hl : s.rest.length ≤ 140737488355328) :
    Calls Tryd.prog 105 #[.pointer (some ⟨bi, 0, none⟩)] w fun r w' => r = .returned (.int .u64 ((rdNum s).1 : Int)) ∧ InAt w' bi (rdNum s).2 ∧ Frm w.heap.size bi w w' := by
  go_enter Tryd.func105, Tryd.ntmps105
  go_wp2
  go_loopw [3, 6] (fun n k wr => ∃ (kk acc : Nat) (s' : St), k = .int .i64 (kk : Int) ∧ kk ≤ 9 ∧ n = .int .u64 (acc : Int) ∧ acc < 128 ^ kk ∧ InAt wr bi s' ∧ s'.ok ∧ s'.rest.length ≤ 140737488355328 ∧ decS s' kk acc = rdNum s ∧ Frm w.heap.size bi w wr) (fun _ k _ => 9 - (intOf k).toNat)
  case atStart => exact ⟨0, 0, s, rfl, by omega, rfl, by simp, hi, hok, hl, rfl, Frm.refl _ _ _⟩
  case round =>
    obtain ⟨kk, acc, s', rfl, hk, rfl, hacc, hi', hok', hl', hd, hfr⟩ := hrel
    have HD := Lib.hid hd
    have HA := Lib.hid hacc
    clear hd hacc
    by_cases he : (rdByte s').2.err = 0
    · obtain ⟨b, r, rfl⟩ : ∃ b r, s' = ⟨b :: r, 0⟩ := rdByte_some he
      clear he
      have e1 : rdByte ⟨b :: r, 0⟩ = (b.toNat, ⟨r, 0⟩) := rfl
      have hb256 : b.toNat < 256 := b.toNat_lt
      have hok1 : St.ok ⟨r, 0⟩ := fun h0 => absurd rfl h0
      have hl1 : r.length + 1 ≤ 140737488355328 := hl'
      by_cases hbad : (kk = 9 ∧ 1 < b.toNat) ∨ (0 < kk ∧ b.toNat = 0)
      · have hfin : rdNum s = (0, ⟨[], 2⟩) := by
          rw [← HD.out]
          unfold decS
          rw [if_neg (by simp), dec_err hbad]
        have HF := Lib.hid hfin
        have HB := Lib.hid hbad
        clear hbad hfin
        have hcase : ((((kk : Int) == 9) = true ∧ decide (1 < (b.toNat : Int)) = true ∧ decide (0 < (kk : Int)) = true ∧ ((b.toNat : Int) == 0) = false) ∨
          (((kk : Int) == 9) = true ∧ decide (1 < (b.toNat : Int)) = false ∧ decide (0 < (kk : Int)) = true ∧ ((b.toNat : Int) == 0) = true)) ∨
          (((kk : Int) == 9) = false ∧ decide (1 < (b.toNat : Int)) = false ∧ decide (0 < (kk : Int)) = true ∧ ((b.toNat : Int) == 0) = true) := by
          have h1 := HB.out
          simp only [beq_iff_eq, beq_eq_false_iff_ne, decide_eq_true_eq, decide_eq_false_iff_not]
          omega
        have hnext := next_any wr bi _ hi' hok' hl'
        rw [e1] at hnext
        clear e1
        have HN := Lib.hid hnext
        clear hnext
        generalize b.toNat = c at *
        go_wp2_with fail
        refine HN.out.mono ?_
        rintro e w1 ⟨rfl, hi1, hf1⟩
        go_wp2_with fail
        refine (err_any _ bi _ hi1).mono ?_
        rintro e w2 ⟨rfl, rfl⟩
        rcases hcase with (⟨f1, f2, f3, f4⟩ | ⟨f1, f2, f3, f4⟩) | ⟨f1, f2, f3, f4⟩
        all_goals
          have g3 : 0 < kk := by simpa using f3
          go_wp2_with fail
          refine (fail_any _ bi _ 2 hi1).mono ?_
          rintro e w3 ⟨rfl, hi3, hf3⟩
          go_wp2
          go_ret
          rw [HF.out]
          exact ⟨rfl, hi3, hfr.trans ((hf1.mono hfr.size).trans (hf3.mono (by have := hf1.size; have := hfr.size; omega)))⟩
      · have hfin : decS ⟨b :: r, 0⟩ kk acc = if b.toNat < 128 then (acc + b.toNat % 128 * 128 ^ kk, ⟨r, 0⟩) else decS ⟨r, 0⟩ (kk + 1) (acc + b.toNat % 128 * 128 ^ kk) := by
          unfold decS
          by_cases hb : b.toNat < 128
          · rw [if_neg (by simp), dec_last hbad hb, if_pos hb]
          · rw [if_neg (by simp), dec_next hbad hb, if_neg hb, if_neg (by simp)]
        have HF := Lib.hid hfin
        have HB := Lib.hid hbad
        clear hbad hfin
        have hcase : ((((kk : Int) == 9) = true ∧ decide (1 < (b.toNat : Int)) = false ∧ decide (0 < (kk : Int)) = true ∧ ((b.toNat : Int) == 0) = false) ∨
          (((kk : Int) == 9) = false ∧ decide (0 < (kk : Int)) = true ∧ ((b.toNat : Int) == 0) = false)) ∨
          (((kk : Int) == 9) = false ∧ decide (0 < (kk : Int)) = false) := by
          have h1 := HB.out
          simp only [beq_iff_eq, beq_eq_false_iff_ne, decide_eq_true_eq, decide_eq_false_iff_not]
          omega
        have hnext := next_any wr bi _ hi' hok' hl'
        rw [e1] at hnext
        clear e1
        have HN := Lib.hid hnext
        clear hnext
        generalize b.toNat = c at *
        go_wp2_with fail
        refine HN.out.mono ?_
        rintro e w1 ⟨rfl, hi1, hf1⟩
        go_wp2_with fail
        refine (err_any _ bi _ hi1).mono ?_
        rintro e w2 ⟨rfl, rfl⟩
        have hor := or_shl_u64 HB.out hk hb256 HA.out
        have HO := Lib.hid hor
        clear hor
        by_cases hb : c < 128
        · have g1 : decide ((c : Int) < 128) = true := by simp; omega
          have h2 := HF.out
          rw [if_pos hb] at h2
          have hfin : rdNum s = (acc + c % 128 * 128 ^ kk, ⟨r, 0⟩) := by rw [← HD.out]; exact h2
          have HR := Lib.hid hfin
          clear h2 hfin
          rcases hcase with (⟨f1, f2, f3, f4⟩ | ⟨f1, f3, f4⟩) | ⟨f1, f3⟩
          all_goals
            go_wp2
            all_goals first
              | (exfalso; simp only [beq_iff_eq, beq_eq_false_iff_ne, decide_eq_true_eq, decide_eq_false_iff_not] at *; omega)
              | (rw [HO.out]; go_ret; rw [HR.out]; exact ⟨rfl, hi1, hfr.trans (hf1.mono hfr.size)⟩)
        · have g1 : decide ((c : Int) < 128) = false := by simp; omega
          have hcase' : (((kk : Int) == 9) = false ∧ decide (0 < (kk : Int)) = true ∧ ((c : Int) == 0) = false) ∨ (((kk : Int) == 9) = false ∧ decide (0 < (kk : Int)) = false) := by
            simp only [beq_iff_eq, beq_eq_false_iff_ne, decide_eq_true_eq, decide_eq_false_iff_not] at hcase ⊢
            omega
          have hk9 : kk + 1 ≤ 9 := by
            have h1 := HB.out
            omega
          clear hcase
          rcases hcase' with ⟨f1, f3, f4⟩ | ⟨f1, f3⟩
          all_goals
            go_wp2
            all_goals try (exfalso; simp only [beq_eq_false_iff_ne, decide_eq_true_eq, decide_eq_false_iff_not] at *; omega)
            rw [HO.out]
            refine ⟨⟨kk + 1, acc + c % 128 * 128 ^ kk, ⟨r, 0⟩, by go_num, hk9, rfl, acc_next HA.out, hi1, hok1, ?_, ?_, hfr.trans (hf1.mono hfr.size)⟩, ?_⟩
            · show r.length ≤ _
              omega
            · have h1 := HF.out
              rw [if_neg hb] at h1
              rw [← h1]
              exact HD.out
            · simp [intOf]
              omega
    · have hfin : rdNum s = (0, (rdByte s').2) := by
        rw [← HD.out]
        exact rdByte_none he
      have HF := Lib.hid hfin
      clear hfin
      go_wp2_with fail
      refine (next_any _ bi s' hi' hok' hl').mono ?_
      rintro e w1 ⟨rfl, hi1, hf1⟩
      go_wp2_with fail
      refine (err_any _ bi _ hi1).mono ?_
      rintro e w2 ⟨rfl, rfl⟩
      have he' : (((rdByte s').2.err : Int) != 0) = true := by simp [he]
      have HE := Lib.hid he
      clear he
      go_wp2_with fail
      go_ret
      rw [HF.out]
      exact ⟨rfl, hi1, hfr.trans (hf1.mono hfr.size)⟩
end Go.Proofs.YtfkcmdnnmnkklaaDoor.octet

/-
  Package span: a number that is read, held below two to the thirty-first, and whether a number lies in a span ; what is wrong with how many there are (typed over the code of 4b95722). A text of at most two to the forty-seventh bytes.
-/
namespace Go.Proofs.YtfkcmdnnmnkklaaDoor.span
open Go.RowKit Go.ChangeShapes
open Go.Proofs.YtfkcmdnnmnkklaaDoor.octet (St InAt Frm rdNum numIn_any)
set_option linter.unusedVariables false

theorem ret_int {k : IntKind} {a b : Int} (h : a = b) : Ending.returned (.int k a) = .returned (.int k b) := by rw [h]
theorem within_any (v lo hi : Int) (w : World) : Calls Tryd.prog 83 #[.int .i64 v, .int .i64 lo, .int .i64 hi] w fun e w' => e = .returned (.bool (decide (lo ≤ v ∧ v ≤ hi))) ∧ w = w' := by
  by_cases h1 : lo ≤ v
  · by_cases h2 : v ≤ hi
    · rw [decide_eq_true ⟨h1, h2⟩]
      go_enter Tryd.func83, Tryd.ntmps83
      go_wp2
      go_ret
      exact ⟨rfl, rfl⟩
    · rw [decide_eq_false (fun h => h2 h.2)]
      have hd : decide (v ≤ hi) = false := by simpa using h2
      go_enter Tryd.func83, Tryd.ntmps83
      go_wp2
      go_ret
      exact ⟨rfl, rfl⟩
  · rw [decide_eq_false (fun h => h1 h.1)]
    have hd : decide (lo ≤ v) = false := by simpa using h1
    go_enter Tryd.func83, Tryd.ntmps83
    go_wp2
    go_ret
    exact ⟨rfl, rfl⟩

/-- A number as it is read here: a great one is two to the thirty-first less one. -/
def pN (s : St) : Int × St := (((min (rdNum s).1 2147483647 : Nat) : Int), (rdNum s).2)
set_option maxHeartbeats 400000 in
theorem num_any (w : World) (bi : Nat) (s : St) (hi : InAt w bi s) (hok : s.ok) (hl : s.rest.length ≤ 140737488355328) :
    Calls Tryd.prog 85 #[.pointer (some ⟨bi, 0, none⟩)] w fun e w' => e = .returned (.int .i64 (pN s).1) ∧ InAt w' bi (pN s).2 ∧ Frm w.heap.size bi w w' := by
  have HI := Lib.hid (numIn_any w bi s hi hok hl)
  unfold pN
  generalize rdNum s = p at *
  obtain ⟨v, S⟩ := p
  dsimp only at HI ⊢
  go_enter Tryd.func85, Tryd.ntmps85
  go_wp2_with fail
  refine HI.out.mono ?_
  rintro e w1 ⟨rfl, h1, h2⟩
  go_wp2
  all_goals
    go_ret
    refine ⟨ret_int ?_, h1, h2⟩
    omega
/-- What is wrong with how many there are, where there may be as many as m. -/
def cntC (n m : Nat) : Nat := if n = 0 then 2 else if m < n then 4 else 0
theorem count_any (n m : Nat) (w : World) : Calls Tryd.prog 33 #[.int .i64 (n : Int), .int .i64 (m : Int)] w fun e w' => e = .returned (.int .i64 ((cntC n m : Nat) : Int)) ∧ w = w' := by
  unfold cntC
  by_cases h0 : n = 0
  · subst h0
    go_enter Tryd.func33, Tryd.ntmps33
    go_wp2
    go_ret
    exact ⟨rfl, rfl⟩
  · rw [if_neg h0]
    have e0 : ((n : Int) == 0) = false := by simp; omega
    by_cases h4 : m < n
    · rw [if_pos h4]
      have e4 : decide ((m : Int) < (n : Int)) = true := by simp; omega
      have e5 : decide (m < n) = true := by simp; omega
      clear h0 h4
      go_enter Tryd.func33, Tryd.ntmps33
      go_wp2
      go_ret
      exact ⟨rfl, rfl⟩
    · rw [if_neg h4]
      have e4 : decide ((m : Int) < (n : Int)) = false := by simp; omega
      have e5 : decide (m < n) = false := by simp; omega
      clear h0 h4
      go_enter Tryd.func33, Tryd.ntmps33
      go_wp2
      go_ret
      exact ⟨rfl, rfl⟩
end Go.Proofs.YtfkcmdnnmnkklaaDoor.span

/-
  The program reads a number that is above all ranges as another such number than the document does: what is told of the objects is the same. Plain mathematics; no condition.
-/
namespace Go.Proofs.YtfkcmdnnmnkklaaDoor.objs
open Go.Proofs.YtfkcmdnnmnkklaaDoor.octet (St rdByte rdNum rdInt)
open Go.Proofs.YtfkcmdnnmnkklaaDoor.word (Word)
open Go.Proofs.YtfkcmdnnmnkklaaDoor.span (pN)
set_option linter.unusedVariables false

/-- A number held below two to the thirty-first. -/
def low31 (n : Int) : Int := min n 2147483647
/-- An object of the document's as the program reads it. -/
def cutD (d : De) : De := (d.1, if d.1 = 7 then d.2.1 else low31 d.2.1, low31 d.2.2)
def pA (k : Nat) (s : St) : Int × St := if k = 3 ∨ k = 6 then pN s else if k = 7 then rdInt s else (0, s)
def pB (k : Nat) (s : St) : Int × St := if k = 3 ∨ k = 7 then pN s else (0, s)
/-- An object as the program reads it, whether it may be or not. -/
def pD (s : St) : De × St :=
  let y := rdByte s
  (((y.1 : Int), (pA y.1 y.2).1, (pB y.1 (pA y.1 y.2).2).1), (pB y.1 (pA y.1 y.2).2).2)

theorem pN_rdN (s : St) : (pN s).2 = (rdN s).2 ∧ (pN s).1 = low31 (rdN s).1 := by
  refine ⟨rfl, ?_⟩
  unfold pN rdN low31
  dsimp only
  omega
theorem pA_rdA (k : Nat) (s : St) : (pA k s).2 = (rdA k s).2 ∧ (pA k s).1 = if k = 7 then (rdA k s).1 else low31 (rdA k s).1 := by
  unfold pA rdA
  by_cases h : k = 3 ∨ k = 6
  · rw [if_pos h, if_pos h, if_neg (by omega)]
    exact pN_rdN s
  · rw [if_neg h, if_neg h]
    by_cases h7 : k = 7
    · rw [if_pos h7, if_pos h7]
      exact ⟨rfl, rfl⟩
    · rw [if_neg h7, if_neg h7]
      exact ⟨rfl, rfl⟩
theorem pB_rdB (k : Nat) (s : St) : (pB k s).2 = (rdB k s).2 ∧ (pB k s).1 = low31 (rdB k s).1 := by
  unfold pB rdB
  by_cases h : k = 3 ∨ k = 7
  · rw [if_pos h, if_pos h]
    exact pN_rdN s
  · rw [if_neg h, if_neg h]
    exact ⟨rfl, rfl⟩
/-- What is wrong with the bytes of an object. -/
theorem pD_err {s : St} (h : (pD s).2.err ≠ 0) : (rdD s).2 = ((pD s).2, (pD s).2.err) := by
  unfold pD at h ⊢
  unfold rdD
  dsimp only at h ⊢
  generalize rdByte s = y at *
  obtain ⟨k, S⟩ := y
  dsimp only at h ⊢
  obtain ⟨a1, _⟩ := pA_rdA k S
  obtain ⟨b1, _⟩ := pB_rdB k (pA k S).2
  have e1 : (pB k (pA k S).2).2 = (rdB k (rdA k S).2).2 := by rw [b1, a1]
  rw [e1] at h ⊢
  by_cases hb : S.err = 0 ∧ (k < 1 ∨ 7 < k)
  · exfalso
    refine h ?_
    have e : (rdB k (rdA k S).2).2 = S := by
      unfold rdA
      rw [if_neg (by omega), if_neg (by omega)]
      unfold rdB
      rw [if_neg (by omega)]
    rw [e]
    exact hb.1
  · rw [if_neg hb]
/-- A byte that is no kind. -/
theorem pD_kind {s : St} (h : (pD s).2.err = 0) (hk : ¬ (1 ≤ (pD s).1.1 ∧ (pD s).1.1 ≤ 7)) : (rdD s).2 = ((pD s).2, 6) := by
  unfold pD at h hk ⊢
  unfold rdD
  dsimp only at h hk ⊢
  generalize rdByte s = y at *
  obtain ⟨k, S⟩ := y
  dsimp only at h hk ⊢
  have e1 : (pB k (pA k S).2).2 = S := by
    unfold pA
    rw [if_neg (by omega), if_neg (by omega)]
    unfold pB
    rw [if_neg (by omega)]
  rw [e1] at h ⊢
  rw [if_pos ⟨h, by omega⟩]
/-- An object that is there. -/
theorem pD_fine {s : St} (h : (pD s).2.err = 0) (hk : 1 ≤ (pD s).1.1 ∧ (pD s).1.1 ≤ 7) : (rdD s).2 = ((pD s).2, 0) ∧ (pD s).1 = cutD (rdD s).1 := by
  unfold pD at h hk ⊢
  unfold rdD cutD
  dsimp only at h hk ⊢
  generalize rdByte s = y at *
  obtain ⟨k, S⟩ := y
  dsimp only at h hk ⊢
  obtain ⟨a1, a2⟩ := pA_rdA k S
  obtain ⟨b1, b2⟩ := pB_rdB k (pA k S).2
  rw [if_neg (by omega)]
  have e1 : (pB k (pA k S).2).2 = (rdB k (rdA k S).2).2 := by rw [b1, a1]
  rw [e1] at h ⊢
  refine ⟨by rw [h], ?_⟩
  dsimp only
  rw [a2, b2, a1]
  by_cases h7 : k = 7
  · rw [if_pos h7, if_pos (by omega)]
  · rw [if_neg h7, if_neg (by omega)]

theorem low31_of {n : Int} (h : n ≤ 2147483647) : low31 n = n := by unfold low31; omega
theorem fits_cut (l : List De) (c : UInt8) (o : Int) (hl : l.length ≤ 32) : fits (l.map cutD) c (low31 o) = fits l c o := by
  unfold fits
  rw [List.length_map]
  by_cases h : 0 ≤ o ∧ o < (l.length : Int)
  · rw [low31_of (by omega)]
    congr 1
    congr 1
    obtain ⟨m, rfl⟩ : ∃ m : Nat, o = (m : Int) := ⟨o.toNat, by omega⟩
    rw [Int.toNat_natCast, List.getD_eq_getElem?_getD, List.getD_eq_getElem?_getD, List.getElem?_map, List.getElem?_eq_getElem (by omega)]
    rfl
  · rw [decide_eq_false h, decide_eq_false (by unfold low31; omega), Bool.false_and, Bool.false_and]
theorem one_cut (l : List De) (d : De) (hl : l.length ≤ 32) : one (l.map cutD) (cutD d) = one l d := by
  obtain ⟨k, a, b⟩ := d
  have hf : fits (l.map cutD) 117 (low31 b) = fits l 117 b := fits_cut l 117 b hl
  show one (l.map cutD) (k, if k = 7 then a else low31 a, low31 b) = one l (k, a, b)
  unfold one
  dsimp only
  rw [hf]
  have hlow : low31 b = min b 2147483647 := rfl
  by_cases h7 : k = 7
  · subst h7
    rw [if_pos rfl]
    have e1 : (low31 b < 1 ↔ b < 1) := by omega
    have e2 : (low31 b ≠ 0 ↔ b ≠ 0) := by omega
    simp only [e2]
    rw [if_neg (fun h => by omega), if_neg (fun h => by omega), if_neg (fun h => by omega)]
    rw [if_neg (fun h => by omega : ¬ ((7 : Int) < 1 ∨ (7 : Int) < 7)), if_neg (fun h => by omega : ¬ ((7 : Int) = 3 ∧ (b < 1 ∨ 1000 < b ∨ a < 0 ∨ b < a)))]
  · rw [if_neg h7]
    have hla : low31 a = min a 2147483647 := rfl
    have e1 : (low31 b < 1 ∨ 1000 < low31 b ∨ low31 a < 0 ∨ low31 b < low31 a) ↔ (b < 1 ∨ 1000 < b ∨ a < 0 ∨ b < a) := by omega
    have e2 : (low31 b ≠ 0 ↔ b ≠ 0) := by omega
    have e3 : (low31 a ≠ 0 ↔ a ≠ 0) := by omega
    have e4 : (low31 a < 1 ∨ 1000 < low31 a) ↔ (a < 1 ∨ 1000 < a) := by omega
    have e5 : ¬ (k = 7 ∧ (¬ Word (low31 a) ∨ fits l 117 b = false)) := fun h => h7 h.1
    have e6 : ¬ (k = 7 ∧ (¬ Word a ∨ fits l 117 b = false)) := fun h => h7 h.1
    simp only [e1, e2, e3, e4, if_neg e5, if_neg e6]
theorem chk_cut (l : List De) (hl : l.length ≤ 32) : chk (l.map cutD) = chk l := by
  have hb : bad (l.map cutD) = bad l := by
    unfold bad
    rw [List.findIdx_map]
    congr 1
    funext d
    show (one (l.map cutD) (cutD d) != 0) = (one l d != 0)
    rw [one_cut l d hl]
  unfold chk
  rw [List.length_map, hb]
  by_cases h : bad l < l.length
  · rw [if_pos h, if_pos h]
    have : (l.map cutD).getD (bad l) zero = cutD (l.getD (bad l) zero) := by
      rw [List.getD_eq_getElem?_getD, List.getD_eq_getElem?_getD, List.getElem?_map, List.getElem?_eq_getElem h]
      rfl
    rw [this, one_cut l _ hl]
  · rw [if_neg h, if_neg h]
/-- Objects that may be are read alike. -/
theorem cut_same {l : List De} (h : (chk l).2 = 0) : l.map cutD = l := by
  obtain ⟨hl, _, hall⟩ := chk_zero h
  apply List.ext_getElem?
  intro i
  rw [List.getElem?_map]
  rcases Nat.lt_or_ge i l.length with hi | hi
  · rw [List.getElem?_eq_getElem hi, Option.map_some]
    have h1 := hall i hi
    rw [List.getD_eq_getElem?_getD, List.getElem?_eq_getElem hi, Option.getD_some] at h1
    generalize l[i] = d at *
    obtain ⟨k, a, b⟩ := d
    obtain ⟨hk, h3, h6, h7, hb, ha⟩ := one_zero h1
    dsimp only at hk h3 h6 h7 hb ha
    congr 1
    unfold cutD
    dsimp only
    have eb : low31 b = b := by
      apply low31_of
      by_cases e3 : k = 3
      · have := h3 e3; omega
      · by_cases e7 : k = 7
        · have := fits_lt (h7 e7).2; omega
        · have := hb e3 e7; omega
    have ea : (if k = 7 then a else low31 a) = a := by
      by_cases e7 : k = 7
      · rw [if_pos e7]
      · rw [if_neg e7]
        apply low31_of
        by_cases e3 : k = 3
        · have := h3 e3; omega
        · by_cases e6 : k = 6
          · have := h6 e6; omega
          · have := ha e3 e6 e7; omega
    rw [ea, eb]
  · rw [List.getElem?_eq_none hi]
    rfl

/-- The objects that the program reads, before they are checked. -/
def pAll (s : St) : List De × St × Nat :=
  let n := pN s
  if n.2.err ≠ 0 then ([], n.2, n.2.err)
  else if 32 < n.1 then ([], n.2, 4)
  else
    let p := rdL n.2 n.1.toNat
    (p.1.map cutD, p.2.1, p.2.2)
theorem rdL_empty {s : St} : ∀ j, (rdL s j).2.2 ≠ 0 → (rdL s j).1 = [] := by
  intro j
  induction j with
  | zero => intro h; exact absurd rfl h
  | succ j ih =>
    intro h
    simp only [rdL] at h ⊢
    by_cases h1 : (rdL s j).2.2 ≠ 0
    · rw [if_pos h1] at h ⊢
      exact ih h1
    · rw [if_neg h1] at h ⊢
      by_cases h2 : (rdD (rdL s j).2.1).2.2 ≠ 0
      · rw [if_pos h2]
      · rw [if_neg h2] at h
        exact absurd rfl h
theorem rdL_short {s : St} : ∀ j, (rdL s j).1.length ≤ j := by
  intro j
  induction j with
  | zero => exact Nat.le_refl _
  | succ j ih =>
    simp only [rdL]
    split
    · omega
    · split
      · simp
      · rw [List.length_append]; simp; exact ih
theorem getL_prog (t : List UInt8) : getL t = if (pAll ⟨t, 0⟩).2.2 ≠ 0 then ([], 0, (pAll ⟨t, 0⟩).2.2)
    else if (chk (pAll ⟨t, 0⟩).1).2 ≠ 0 then ([], 0, (chk (pAll ⟨t, 0⟩).1).2)
    else ((pAll ⟨t, 0⟩).1, t.length - (pAll ⟨t, 0⟩).2.1.rest.length, 0) := by
  unfold getL readL pAll
  dsimp only
  obtain ⟨e1, e2⟩ := pN_rdN ⟨t, 0⟩
  simp only [e1, e2]
  have hn : 0 ≤ (rdN ⟨t, 0⟩).1 := by unfold rdN; dsimp only; omega
  generalize rdN ⟨t, 0⟩ = N at *
  obtain ⟨n, S⟩ := N
  dsimp only at hn ⊢
  by_cases h1 : S.err ≠ 0
  · simp only [if_pos h1]
  · simp only [if_neg h1]
    by_cases h2 : 32 < n
    · have h3 : 32 < low31 n := by unfold low31; omega
      simp only [if_pos h2, if_pos h3]
      rfl
    · have h3 : low31 n = n := by unfold low31; omega
      rw [h3]
      simp only [if_neg h2]
      by_cases h4 : (rdL S n.toNat).2.2 ≠ 0
      · simp only [if_pos h4]
      · simp only [if_neg h4]
        have hs : (rdL S n.toNat).1.length ≤ 32 := by have := rdL_short (s := S) n.toNat; omega
        rw [chk_cut _ hs]
        by_cases h5 : (chk (rdL S n.toNat).1).2 ≠ 0
        · simp only [if_pos h5]
        · simp only [if_neg h5]
          rw [cut_same (by omega)]
          rfl
end Go.Proofs.YtfkcmdnnmnkklaaDoor.objs

/-
  The program reads a number that is above all ranges as another such number than the document does, and it reads nothing behind a byte that is no kind: what is told of the wait is the same. Plain mathematics; no condition.
-/
namespace Go.Proofs.YtfkcmdnnmnkklaaDoor.need
open Go.Proofs.YtfkcmdnnmnkklaaDoor.octet (St rdByte rdNum rdNum_ok rdNum_left rdByte_ok dec_fails)
open Go.Proofs.YtfkcmdnnmnkklaaDoor.objs (De zero rdN chk chk_zero low31 low31_of pN_rdN)
open Go.Proofs.YtfkcmdnnmnkklaaDoor.span (pN)
set_option linter.unusedVariables false

theorem pN_ok {s : St} (h : s.ok) : (pN s).2.ok := rdNum_ok h
theorem pN_left (s : St) : (pN s).2.rest.length ≤ s.rest.length := rdNum_left s
theorem rdByte_left (s : St) : (rdByte s).2.rest.length ≤ s.rest.length := by
  unfold rdByte
  split
  · exact Nat.le_refl _
  · split
    · exact Nat.zero_le _
    · rename_i h; rw [h]; simp
theorem rdNum_fail {s : St} (h : (rdNum s).2.err ≠ 0) : (rdNum s).1 = 0 := by
  unfold rdNum at h ⊢
  split
  · rfl
  · rename_i h1
    rw [if_neg h1] at h
    exact (dec_fails _ _ _ h).1
theorem rdByte_fail {s : St} (h : (rdByte s).2.err ≠ 0) : (rdByte s).1 = 0 := by
  unfold rdByte at h ⊢
  split
  · rfl
  · rename_i h1
    rw [if_neg h1] at h
    split
    · rfl
    · rename_i h2
      rw [h2] at h
      exact absurd rfl h
theorem rdNum_stay {s : St} (h : s.err ≠ 0) : rdNum s = (0, s) := by unfold rdNum; rw [if_pos h]

/-- A need of the document's as the program reads it. -/
def cutN (n : De) : De := (n.1, low31 n.2.1, low31 n.2.2)
def pC (k : Nat) (s : St) : Int × St := if 3 < k then pN s else (0, s)
/-- A need as the program reads it, whether it may be or not. -/
def pNeed (s : St) : De × St :=
  let y := rdByte s
  if 1 ≤ y.1 ∧ y.1 ≤ 5 then (((y.1 : Int), (pN y.2).1, (pC y.1 (pN y.2).2).1), (pC y.1 (pN y.2).2).2) else (((y.1 : Int), 0, 0), y.2)
theorem pC_rdC (k : Nat) (s : St) : (pC k s).2 = (rdC k s).2 ∧ (pC k s).1 = low31 (rdC k s).1 := by
  unfold pC rdC
  by_cases h : 3 < k
  · rw [if_pos h, if_pos h]
    exact pN_rdN s
  · rw [if_neg h, if_neg h]
    exact ⟨rfl, rfl⟩
theorem pC_ok {k : Nat} {s : St} (h : s.ok) : (pC k s).2.ok := by
  unfold pC
  split
  · exact pN_ok h
  · exact h
theorem pC_left (k : Nat) (s : St) : (pC k s).2.rest.length ≤ s.rest.length := by
  unfold pC
  split
  · exact pN_left s
  · exact Nat.le_refl _
theorem pNeed_ok {s : St} (h : s.ok) : (pNeed s).2.ok := by
  unfold pNeed
  dsimp only
  split
  · exact pC_ok (pN_ok (rdByte_ok h))
  · exact rdByte_ok h
theorem pNeed_left (s : St) : (pNeed s).2.rest.length ≤ s.rest.length := by
  unfold pNeed
  dsimp only
  split
  · exact Nat.le_trans (pC_left _ _) (Nat.le_trans (pN_left _) (rdByte_left s))
  · exact rdByte_left s
theorem rdC_stay {k : Nat} {s : St} (h : s.err ≠ 0) : (rdC k s).2 = s := rdC_err h
/-- What is wrong with the bytes of a need. -/
theorem pNeed_err {s : St} (h : (pNeed s).2.err ≠ 0) : (rdNeed s).2 = ((pNeed s).2, (pNeed s).2.err) := by
  have hf := rdByte_fail (s := s)
  unfold pNeed at h ⊢
  unfold rdNeed
  dsimp only at h ⊢
  generalize rdByte s = y at *
  obtain ⟨k, S⟩ := y
  dsimp only at h hf ⊢
  by_cases hk : 1 ≤ k ∧ k ≤ 5
  · rw [if_pos hk] at h ⊢
    rw [if_neg (by omega)]
    have e1 : (pC k (pN S).2).2 = (rdC k (rdN S).2).2 := by rw [(pC_rdC _ _).1, (pN_rdN S).1]
    dsimp only at h ⊢
    rw [e1]
  · rw [if_neg hk] at h ⊢
    dsimp only at h ⊢
    rw [if_neg (fun hh => h hh.1)]
    have e1 : (rdN S).2 = S := by
      show (rdNum S).2 = S
      rw [rdNum_stay h]
    have e2 : (rdC k (rdN S).2).2 = S := by rw [e1]; exact rdC_stay h
    rw [e2]
/-- A byte that is no kind. -/
theorem pNeed_kind {s : St} (h : (pNeed s).2.err = 0) (hk : ¬ (1 ≤ (pNeed s).1.1 ∧ (pNeed s).1.1 ≤ 5)) : (rdNeed s).2 = ((pNeed s).2, 6) := by
  unfold pNeed at h hk ⊢
  unfold rdNeed
  dsimp only at h hk ⊢
  generalize rdByte s = y at *
  obtain ⟨k, S⟩ := y
  dsimp only at h hk ⊢
  by_cases hk2 : 1 ≤ k ∧ k ≤ 5
  · exfalso
    rw [if_pos hk2] at hk
    dsimp only at hk
    omega
  · rw [if_neg hk2] at h ⊢
    dsimp only at h ⊢
    rw [if_pos ⟨h, by omega⟩]
/-- A need that is there. -/
theorem pNeed_fine {s : St} (h : (pNeed s).2.err = 0) (hk : 1 ≤ (pNeed s).1.1 ∧ (pNeed s).1.1 ≤ 5) : (rdNeed s).2 = ((pNeed s).2, 0) ∧ (pNeed s).1 = cutN (rdNeed s).1 := by
  unfold pNeed at h hk ⊢
  unfold rdNeed cutN
  dsimp only at h hk ⊢
  generalize rdByte s = y at *
  obtain ⟨k, S⟩ := y
  dsimp only at h hk ⊢
  by_cases hk2 : 1 ≤ k ∧ k ≤ 5
  · rw [if_pos hk2] at h ⊢
    rw [if_neg (by omega)]
    obtain ⟨a1, a2⟩ := pN_rdN S
    obtain ⟨b1, b2⟩ := pC_rdC k (rdN S).2
    dsimp only at h ⊢
    rw [a1, b1] at h ⊢
    rw [h, a2, b2]
    exact ⟨rfl, rfl⟩
  · exfalso
    rw [if_neg hk2] at hk
    dsimp only at hk
    omega

theorem cutN_same {d : List De} {n : De} (hd : (chk d).2 = 0) (h : oneN d n = 0) : cutN n = n := by
  obtain ⟨_, h2, _, _, h5⟩ := need_small hd h
  obtain ⟨k, o, m⟩ := n
  dsimp only at h2 h5
  unfold cutN
  dsimp only
  rw [low31_of (by omega), low31_of (by omega)]
theorem oneN_cut {d : List De} {n : De} (hd : (chk d).2 = 0) : oneN d (cutN n) = oneN d n := by
  have hl := (chk_zero hd).1
  by_cases h : oneN d n = 0
  · rw [cutN_same hd h]
  · obtain ⟨k, o, m⟩ := n
    by_cases hk : k < 1 ∨ 5 < k
    · unfold oneN cutN
      dsimp only
      rw [if_pos hk, if_pos hk]
    · by_cases ho : o < 0 ∨ (d.length : Int) ≤ o
      · have ho2 : low31 o < 0 ∨ (d.length : Int) ≤ low31 o := by unfold low31; omega
        unfold oneN cutN
        dsimp only
        rw [if_neg hk, if_neg hk, if_pos (by rcases ho2 with h | h; exact .inl h; exact .inr (.inl h)), if_pos (by rcases ho with h | h; exact .inl h; exact .inr (.inl h))]
      · have eo : low31 o = o := low31_of (by omega)
        have e1 : oneN d (k, o, m) = 1 := by
          unfold oneN at h ⊢
          dsimp only at h ⊢
          rw [if_neg hk] at h ⊢
          split
          · rfl
          · rename_i h1
            rw [if_neg h1] at h
            split
            · rfl
            · rename_i h2
              rw [if_neg h2] at h
              exact absurd rfl h
        rw [e1]
        unfold oneN at h ⊢
        unfold cutN
        dsimp only at h ⊢
        rw [eo]
        rw [if_neg hk] at h ⊢
        by_cases hx : o < 0 ∨ (d.length : Int) ≤ o ∨ (d.getD o.toNat zero).1 ≠ kn k
        · rw [if_pos hx]
        · rw [if_neg hx] at h ⊢
          have hr : m < lo (k, o, m) ∨ hi d (k, o, m) < m := by
            rcases Classical.em (m < lo (k, o, m) ∨ hi d (k, o, m) < m) with h3 | h3
            · exact h3
            · rw [if_neg h3] at h
              exact absurd rfl h
          have el : lo (k, o, low31 m) = lo (k, o, m) := rfl
          have eh : hi d (k, o, low31 m) = hi d (k, o, m) := rfl
          have hh : hi d (k, o, m) ≤ 1000 := by
            unfold hi
            dsimp only
            have hnot : ¬ o < 0 ∧ ¬ (d.length : Int) ≤ o ∧ (d.getD o.toNat zero).1 = kn k := by
              refine ⟨fun h => hx (.inl h), fun h => hx (.inr (.inl h)), ?_⟩
              rcases Classical.em ((d.getD o.toNat zero).1 = kn k) with h3 | h3
              · exact h3
              · exact absurd (.inr (.inr h3)) hx
            have hj : o.toNat < d.length := by omega
            have h1 := (chk_zero hd).2.2 o.toNat hj
            obtain ⟨_, q3, q6, _⟩ := Go.Proofs.YtfkcmdnnmnkklaaDoor.objs.one_zero h1
            split
            · rename_i e4
              have := q3 (by rw [hnot.2.2, e4]; rfl)
              omega
            · split
              · rename_i e5
                have := q6 (by rw [hnot.2.2, e5]; rfl)
                omega
              · omega
          have hlo : 0 ≤ lo (k, o, m) ∧ lo (k, o, m) ≤ 1 := by unfold lo; split <;> omega
          rw [el, eh, if_pos]
          unfold low31
          omega
theorem ones_cut {d : List De} (hd : (chk d).2 = 0) (l : List De) : ones d (l.map cutN) = ones d l := by
  induction l with
  | nil => rfl
  | cons n l ih =>
    rw [List.map_cons]
    unfold ones
    rw [oneN_cut hd, ih]
theorem way_same {d l : List De} (hd : (chk d).2 = 0) (h : ones d l = 0) : l.map cutN = l := by
  have h1 := ones_zero h
  clear h
  induction l with
  | nil => rfl
  | cons n l ih =>
    rw [List.map_cons, cutN_same hd (h1 n (List.mem_cons_self ..)), ih (fun x hx => h1 x (List.mem_cons_of_mem _ hx))]
theorem chkWay_cut {d : List De} (hd : (chk d).2 = 0) (l : List De) : chkWay d (l.map cutN) = chkWay d l := by
  by_cases h : ones d l = 0
  · rw [way_same hd h]
  · unfold chkWay
    rw [List.length_map, ones_cut hd, if_pos h, if_pos h]
theorem ways_cut {d : List De} (hd : (chk d).2 = 0) (w : List (List De)) : ways d (w.map (·.map cutN)) = ways d w := by
  induction w with
  | nil => rfl
  | cons n l ih =>
    rw [List.map_cons]
    unfold ways
    rw [chkWay_cut hd, ih]
theorem chkW_cut {d : List De} (hd : (chk d).2 = 0) (w : List (List De)) : chkW d (w.map (·.map cutN)) = chkW d w := by
  unfold chkW
  rw [List.length_map, ways_cut hd]
theorem wait_same {d : List De} {w : List (List De)} (hd : (chk d).2 = 0) (h : chkW d w = 0) : w.map (·.map cutN) = w := by
  have h1 := (chkW_zero h).2.2
  clear h
  induction w with
  | nil => rfl
  | cons n l ih =>
    have hn := h1 n (List.mem_cons_self ..)
    have ho : ones d n = 0 := by
      have h2 := hn.2.2
      clear hn h1 ih
      induction n with
      | nil => rfl
      | cons m r ih2 =>
        unfold ones
        rw [if_neg (by simp [h2 m (List.mem_cons_self ..)])]
        exact ih2 (fun x hx => h2 x (List.mem_cons_of_mem _ hx))
    rw [List.map_cons, way_same hd ho, ih (fun x hx => h1 x (List.mem_cons_of_mem _ hx))]

/-- The ways as they are read, before they are checked. -/
def allW (s : St) : List (List De) × St × Nat :=
  if (rdNum s).2.err ≠ 0 then ([], (rdNum s).2, (rdNum s).2.err) else if 4 < (rdNum s).1 then ([], (rdNum s).2, 4) else rdWays (rdNum s).2 (rdNum s).1
theorem rdWay_eq (s : St) : rdWay s = if (rdNum s).2.err ≠ 0 then ([], (rdNum s).2, (rdNum s).2.err) else if 4 < (rdNum s).1 then ([], (rdNum s).2, 4) else rdNeeds (rdNum s).2 (rdNum s).1 := by
  unfold rdWay
  by_cases h : (rdNum s).2.err ≠ 0
  · have h0 := rdNum_fail h
    rw [if_pos h, if_neg (by omega), if_pos h]
  · rw [if_neg h, if_neg h]
theorem readW_eq2 (d : List De) (s : St) : readW d s = if (allW s).2.2 ≠ 0 then ([], (allW s).2.1, (allW s).2.2) else if chkW d (allW s).1 ≠ 0 then ([], (allW s).2.1, chkW d (allW s).1) else allW s := by
  unfold readW allW
  by_cases h : (rdNum s).2.err ≠ 0
  · have h0 := rdNum_fail h
    rw [if_neg (by omega), if_pos h, if_pos h, if_pos h]
  · rw [if_neg h, if_neg h]
    by_cases h4 : 4 < (rdNum s).1
    · rw [if_pos h4, if_pos h4]
      rfl
    · rw [if_neg h4, if_neg h4]
      dsimp only
      split
      · rfl
      · split
        · rfl
        · rename_i h1 h2
          have : (rdWays (rdNum s).2 (rdNum s).1).2.2 = 0 := by omega
          rw [← this]
theorem getW_prog {d : List De} (hd : (chk d).2 = 0) (t : List UInt8) : getW d t = if (allW ⟨t, 0⟩).2.2 ≠ 0 then ([], 0, (allW ⟨t, 0⟩).2.2)
    else if chkW d ((allW ⟨t, 0⟩).1.map (·.map cutN)) ≠ 0 then ([], 0, chkW d ((allW ⟨t, 0⟩).1.map (·.map cutN)))
    else ((allW ⟨t, 0⟩).1.map (·.map cutN), t.length - (allW ⟨t, 0⟩).2.1.rest.length, 0) := by
  unfold getW
  dsimp only
  rw [readW_eq2, chkW_cut hd]
  generalize allW ⟨t, 0⟩ = r at *
  obtain ⟨ls, S, e⟩ := r
  dsimp only
  by_cases h : e ≠ 0
  · rw [if_pos h, if_pos h]
    dsimp only
    rw [if_pos h]
  · rw [if_neg h, if_neg h]
    by_cases hc : chkW d ls ≠ 0
    · rw [if_pos hc, if_pos hc]
      dsimp only
      rw [if_pos hc]
    · rw [if_neg hc, if_neg hc, if_neg h, wait_same hd (by omega)]
theorem rdNeeds_empty {s : St} : ∀ j, (rdNeeds s j).2.2 ≠ 0 → (rdNeeds s j).1 = [] := by
  intro j
  induction j with
  | zero => intro h; exact absurd rfl h
  | succ j ih =>
    intro h
    simp only [rdNeeds] at h ⊢
    by_cases h1 : (rdNeeds s j).2.2 ≠ 0
    · rw [if_pos h1] at h ⊢
      exact ih h1
    · rw [if_neg h1] at h ⊢
      by_cases h2 : (rdNeed (rdNeeds s j).2.1).2.2 ≠ 0
      · rw [if_pos h2]
      · rw [if_neg h2] at h
        exact absurd rfl h
theorem rdWays_empty {s : St} : ∀ j, (rdWays s j).2.2 ≠ 0 → (rdWays s j).1 = [] := by
  intro j
  induction j with
  | zero => intro h; exact absurd rfl h
  | succ j ih =>
    intro h
    simp only [rdWays] at h ⊢
    by_cases h1 : (rdWays s j).2.2 ≠ 0
    · rw [if_pos h1] at h ⊢
      exact ih h1
    · rw [if_neg h1] at h ⊢
      by_cases h2 : (rdWay (rdWays s j).2.1).2.2 ≠ 0
      · rw [if_pos h2]
      · rw [if_neg h2] at h
        exact absurd rfl h
theorem rdNeed_state (s : St) : (rdNeed s).2.1 = (pNeed s).2 := by
  by_cases h : (pNeed s).2.err ≠ 0
  · rw [pNeed_err h]
  · by_cases hk : 1 ≤ (pNeed s).1.1 ∧ (pNeed s).1.1 ≤ 5
    · rw [(pNeed_fine (by omega) hk).1]
    · rw [pNeed_kind (by omega) hk]
theorem rdNeeds_ok {s : St} (h : s.ok) : ∀ j, (rdNeeds s j).2.1.ok := by
  intro j
  induction j with
  | zero => exact h
  | succ j ih =>
    simp only [rdNeeds]
    split
    · exact ih
    · split <;> (show (rdNeed _).2.1.ok; rw [rdNeed_state]; exact pNeed_ok ih)
theorem rdNeeds_left (s : St) : ∀ j, (rdNeeds s j).2.1.rest.length ≤ s.rest.length := by
  intro j
  induction j with
  | zero => exact Nat.le_refl _
  | succ j ih =>
    simp only [rdNeeds]
    split
    · exact ih
    · split <;> (show (rdNeed _).2.1.rest.length ≤ _; rw [rdNeed_state]; exact Nat.le_trans (pNeed_left _) ih)
theorem rdWay_ok {s : St} (h : s.ok) : (rdWay s).2.1.ok := by
  rw [rdWay_eq]
  split
  · exact rdNum_ok h
  · split
    · exact rdNum_ok h
    · exact rdNeeds_ok (rdNum_ok h) _
theorem rdWay_left (s : St) : (rdWay s).2.1.rest.length ≤ s.rest.length := by
  rw [rdWay_eq]
  split
  · exact rdNum_left s
  · split
    · exact rdNum_left s
    · exact Nat.le_trans (rdNeeds_left _ _) (rdNum_left s)
theorem rdWays_ok {s : St} (h : s.ok) : ∀ j, (rdWays s j).2.1.ok := by
  intro j
  induction j with
  | zero => exact h
  | succ j ih =>
    simp only [rdWays]
    split
    · exact ih
    · split <;> exact rdWay_ok ih
theorem rdWays_left (s : St) : ∀ j, (rdWays s j).2.1.rest.length ≤ s.rest.length := by
  intro j
  induction j with
  | zero => exact Nat.le_refl _
  | succ j ih =>
    simp only [rdWays]
    split
    · exact ih
    · split <;> exact Nat.le_trans (rdWay_left _) ih
theorem allW_left (s : St) : (allW s).2.1.rest.length ≤ s.rest.length := by
  unfold allW
  split
  · exact rdNum_left s
  · split
    · exact rdNum_left s
    · exact Nat.le_trans (rdWays_left _ _) (rdNum_left s)
theorem rdNeeds_stuck {s : St} {j : Nat} {q : List De × St × Nat} (h : rdNeeds s j = q) (hq : q.2.2 ≠ 0) : ∀ k, j ≤ k → rdNeeds s k = q := fun k hk => by
  rw [rdNeeds_err (by rw [h]; exact hq) k hk, h]
theorem rdWays_stuck {s : St} {j : Nat} {q : List (List De) × St × Nat} (h : rdWays s j = q) (hq : q.2.2 ≠ 0) : ∀ k, j ≤ k → rdWays s k = q := fun k hk => by
  rw [rdWays_err (by rw [h]; exact hq) k hk, h]
theorem rdNeeds_short {s : St} : ∀ j, (rdNeeds s j).1.length ≤ j := by
  intro j
  induction j with
  | zero => exact Nat.le_refl _
  | succ j ih =>
    simp only [rdNeeds]
    split
    · omega
    · split
      · simp
      · rw [List.length_append]; simp; exact ih
theorem rdWays_short {s : St} : ∀ j, (rdWays s j).1.length ≤ j := by
  intro j
  induction j with
  | zero => exact Nat.le_refl _
  | succ j ih =>
    simp only [rdWays]
    split
    · omega
    · split
      · simp
      · rw [List.length_append]; simp; exact ih
theorem allW_short (s : St) : (allW s).1.length ≤ 4 := by
  unfold allW
  split
  · simp
  · split
    · simp
    · have := rdWays_short (s := (rdNum s).2) (rdNum s).1
      omega
end Go.Proofs.YtfkcmdnnmnkklaaDoor.need
