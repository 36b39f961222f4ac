/-
  Texts of one claim in one file: YNum, DBack, EBack, PPlain. Each has its own sentence, with its conditions.
-/
import Derived.Test.YtnhoeboighndlaaGreatDoorYall1
import Derived.Lib.Strings
/-
  A number of at most ten digits with which a text begins, and that its decimals and it are one: plain mathematics of lists of bytes. No condition.
-/
namespace Go.Proofs.YtnhoeboighndlaaGreatDoor.pgm.asm
open Go.Proofs.YtnhoeboighndlaaGreatDoor.need (digs digs_small digs_big intT)
set_option linter.unusedVariables false

def isD (c : UInt8) : Bool := decide (48 ≤ c.toNat ∧ c.toNat ≤ 57)
/-- A number's value, digit by digit. -/
def val (l : List UInt8) : Nat := l.foldl (fun n c => 10 * n + (c.toNat - 48)) 0
/-- The digits with which a text begins, at most so many. -/
def takeD : Nat → List UInt8 → List UInt8
  | 0, _ => []
  | _ + 1, [] => []
  | k + 1, c :: l => if isD c = true then c :: takeD k l else []
def neg (l : List UInt8) : Bool := l.head? == some 45
def unsign (l : List UInt8) : List UInt8 := if neg l = true then l.drop 1 else l
def sgn (b : Bool) (n : Nat) : Int := if b = true then -(n : Int) else (n : Int)
/-- The number with which a text begins, and what is left; none: it does not. -/
def number (l : List UInt8) : Option (Int × List UInt8) :=
  if 0 < (takeD 11 (unsign l)).length ∧ (takeD 11 (unsign l)).length ≤ 10 ∧ l.take (l.length - ((unsign l).drop (takeD 11 (unsign l)).length).length) = intT (sgn (neg l) (val (takeD 11 (unsign l))))
  then some (sgn (neg l) (val (takeD 11 (unsign l))), (unsign l).drop (takeD 11 (unsign l)).length) else none
/-- Of at most ten digits. -/
def Sm (v : Int) : Prop := -10000000000 < v ∧ v < 10000000000
/-- No digit stands ahead. -/
def Stop (l : List UInt8) : Prop := ∀ c r, l = c :: r → isD c = false

theorem dig_is : ∀ n, n < 10 → isD (UInt8.ofNat (48 + n)) = true ∧ (UInt8.ofNat (48 + n)).toNat - 48 = n ∧ UInt8.ofNat (48 + n) ≠ 45 := by decide +kernel
theorem digs_all : ∀ k n, n < k → ∀ c ∈ digs n, isD c = true ∧ c ≠ 45 := by
  intro k
  induction k with
  | zero => intro n h; omega
  | succ k ih =>
    intro n hn c hc
    by_cases h : n < 10
    · rw [digs_small h, List.mem_singleton] at hc
      subst hc
      exact ⟨(dig_is n h).1, (dig_is n h).2.2⟩
    · rw [digs_big h, List.mem_append, List.mem_singleton] at hc
      rcases hc with hc | rfl
      · exact ih (n / 10) (by omega) c hc
      · exact ⟨(dig_is _ (by omega)).1, (dig_is _ (by omega)).2.2⟩
theorem digs_pos (n : Nat) : 0 < (digs n).length := by
  by_cases h : n < 10
  · rw [digs_small h]; simp
  · rw [digs_big h]; simp
theorem val_append (l : List UInt8) (c : UInt8) : val (l ++ [c]) = 10 * val l + (c.toNat - 48) := by simp [val]
theorem val_digs : ∀ k n, n < k → val (digs n) = n := by
  intro k
  induction k with
  | zero => intro n h; omega
  | succ k ih =>
    intro n hn
    by_cases h : n < 10
    · rw [digs_small h]
      have := (dig_is n h).2.1
      simp only [val, List.foldl_cons, List.foldl_nil]
      omega
    · rw [digs_big h, val_append, ih (n / 10) (by omega), (dig_is _ (by omega)).2.1]
      omega
theorem digs_len : ∀ k n, n < 10 ^ (k + 1) → (digs n).length ≤ k + 1 := by
  intro k
  induction k with
  | zero =>
    intro n hn
    rw [digs_small (by simpa using hn)]
    simp
  | succ k ih =>
    intro n hn
    by_cases h : n < 10
    · rw [digs_small h]; simp
    · rw [digs_big h, List.length_append]
      have h1 : n / 10 < 10 ^ (k + 1) := by
        rw [Nat.pow_succ] at hn
        omega
      have := ih _ h1
      simp
      omega
theorem val_lt (l : List UInt8) (h : ∀ c ∈ l, isD c = true) : val l < 10 ^ l.length := by
  have gen : ∀ (l : List UInt8) (n m : Nat), (∀ c ∈ l, isD c = true) → n < m → l.foldl (fun n c => 10 * n + (c.toNat - 48)) n < m * 10 ^ l.length := by
    intro l
    induction l with
    | nil => intro n m _ hn; simpa using hn
    | cons c l ih =>
      intro n m h hn
      have hc := of_decide_eq_true (h c (List.mem_cons_self ..))
      have := ih (10 * n + (c.toNat - 48)) (10 * m) (fun d hd => h d (List.mem_cons_of_mem _ hd)) (by omega)
      rw [List.foldl_cons, List.length_cons, Nat.pow_succ]
      rw [show 10 * m * 10 ^ l.length = m * (10 ^ l.length * 10) by rw [Nat.mul_comm 10 m, Nat.mul_assoc, Nat.mul_comm 10 (10 ^ l.length)]] at this
      exact this
  have := gen l 0 1 h (by omega)
  simpa [val] using this
theorem takeD_all : ∀ (k : Nat) (l : List UInt8), (∀ c ∈ takeD k l, isD c = true) ∧ takeD k l = l.take (takeD k l).length := by
  intro k
  induction k with
  | zero => intro l; exact ⟨fun c h => (by cases h), rfl⟩
  | succ k ih =>
    intro l
    cases l with
    | nil => exact ⟨fun c h => (by cases h), rfl⟩
    | cons c l =>
      unfold takeD
      split
      · rename_i hc
        obtain ⟨h1, h2⟩ := ih l
        refine ⟨fun d hd => ?_, ?_⟩
        · rcases List.mem_cons.1 hd with rfl | hd
          · exact hc
          · exact h1 d hd
        · rw [List.length_cons, List.take_succ_cons, ← h2]
      · exact ⟨fun d hd => (by cases hd), rfl⟩
theorem takeD_stop : ∀ (k : Nat) (l : List UInt8), (takeD k l).length < k → Stop (l.drop (takeD k l).length) := by
  intro k
  induction k with
  | zero => intro l h; omega
  | succ k ih =>
    intro l h
    cases l with
    | nil => intro c r e; cases e
    | cons c l =>
      unfold takeD at h ⊢
      split
      · rename_i hc
        rw [if_pos hc, List.length_cons] at h
        rw [List.length_cons, List.drop_succ_cons]
        exact ih l (by omega)
      · rename_i hc
        intro d r e
        injection e with e1 _
        subst e1
        simpa using hc
theorem takeD_text : ∀ (k : Nat) (d r : List UInt8), (∀ c ∈ d, isD c = true) → Stop r → d.length < k → takeD k (d ++ r) = d := by
  intro k
  induction k with
  | zero => intro d r _ _ h; omega
  | succ k ih =>
    intro d r hd hr h
    cases d with
    | nil =>
      cases r with
      | nil => rfl
      | cons c r =>
        show (if isD c = true then c :: takeD k r else []) = []
        rw [hr c r rfl]
        rfl
    | cons c d =>
      show (if isD c = true then c :: takeD k (d ++ r) else []) = c :: d
      rw [if_pos (hd c (List.mem_cons_self ..)), ih d r (fun e he => hd e (List.mem_cons_of_mem _ he)) hr (by simpa using h)]
/-- The decimals of a number of at most ten digits are read as it. -/
theorem number_text {v : Int} {r : List UInt8} (hv : Sm v) (hr : Stop r) : number (intT v ++ r) = some (v, r) := by
  unfold Sm at hv
  by_cases h0 : v < 0
  · have e1 : intT v = 45 :: digs (-v).toNat := by unfold intT; rw [if_pos h0]
    have hl := digs_len 9 (-v).toNat (by omega)
    have e2 : takeD 11 (digs (-v).toNat ++ r) = digs (-v).toNat := takeD_text 11 _ _ (fun c hc => (digs_all _ _ (Nat.lt_succ_self _) c hc).1) hr (by omega)
    have e3 := val_digs _ (-v).toNat (Nat.lt_succ_self _)
    have eu : unsign (intT v ++ r) = digs (-v).toNat ++ r := by rw [e1]; rfl
    have en : neg (intT v ++ r) = true := by rw [e1]; rfl
    have es : sgn true (-v).toNat = v := by unfold sgn; rw [if_pos rfl]; omega
    unfold number
    rw [eu, en, e2, e3, es, List.drop_left]
    rw [if_pos ⟨digs_pos _, by omega, by rw [List.length_append, Nat.add_sub_cancel, List.take_left]⟩]
  · have e1 : intT v = digs v.toNat := by unfold intT; rw [if_neg h0]
    have hl := digs_len 9 v.toNat (by omega)
    have e2 : takeD 11 (digs v.toNat ++ r) = digs v.toNat := takeD_text 11 _ _ (fun c hc => (digs_all _ _ (Nat.lt_succ_self _) c hc).1) hr (by omega)
    have e3 := val_digs _ v.toNat (Nat.lt_succ_self _)
    have en : neg (intT v ++ r) = false := by
      rw [e1]
      cases hd : digs v.toNat with
      | nil => have := digs_pos v.toNat; rw [hd] at this; cases this
      | cons c l =>
        have := (digs_all _ _ (Nat.lt_succ_self v.toNat) c (by rw [hd]; exact List.mem_cons_self ..)).2
        show ((some c : Option UInt8) == some 45) = false
        simpa using this
    have eu : unsign (intT v ++ r) = digs v.toNat ++ r := by unfold unsign; rw [en, if_neg (by decide), e1]
    have es : sgn false v.toNat = v := by unfold sgn; rw [if_neg (by decide)]; omega
    unfold number
    rw [eu, en, e2, e3, es, List.drop_left]
    rw [if_pos ⟨digs_pos _, by omega, by rw [List.length_append, Nat.add_sub_cancel, List.take_left]⟩]
/-- What is read as a number is its decimals. -/
theorem number_some {l r : List UInt8} {v : Int} (h : number l = some (v, r)) : l = intT v ++ r ∧ Sm v ∧ Stop r := by
  unfold number at h
  split at h
  · rename_i hc
    obtain ⟨h1, h2, h3⟩ := hc
    injection h with h
    injection h with e1 e2
    rw [e1] at h3
    rw [e2] at h3
    have hlt := val_lt _ (takeD_all 11 (unsign l)).1
    have hp : (10 : Nat) ^ (takeD 11 (unsign l)).length ≤ 10 ^ 10 := Nat.pow_le_pow_right (by omega) h2
    have hs : Stop r := by
      rw [← e2]
      exact takeD_stop 11 _ (by omega)
    refine ⟨?_, ?_, hs⟩
    · have hd : l.drop (l.length - r.length) = r := by
        rw [← e2]
        unfold unsign at *
        split
        · rename_i hn
          rw [List.drop_drop, List.length_drop]
          congr 1
          have hl : 1 ≤ l.length := by
            cases l with
            | nil => cases hn
            | cons c l => simp
          have hle : (takeD 11 (l.drop 1)).length ≤ (l.drop 1).length := by
            have := (takeD_all 11 (l.drop 1)).2
            have h4 := congrArg List.length this
            rw [List.length_take] at h4
            omega
          rw [List.length_drop] at hle
          omega
        · rw [List.length_drop]
          congr 1
          have hle : (takeD 11 l).length ≤ l.length := by
            have := (takeD_all 11 l).2
            have h4 := congrArg List.length this
            rw [List.length_take] at h4
            omega
          omega
      rw [← h3, ← hd]
      have := List.take_append_drop (l.length - r.length) l
      rw [hd] at this ⊢
      exact this.symm
    · rw [← e1]
      unfold sgn Sm
      have : (10 : Nat) ^ 10 = 10000000000 := by decide
      split <;> omega
  · cases h
end Go.Proofs.YtnhoeboighndlaaGreatDoor.pgm.asm

/-
  What was put of objects is got again, whatever stands behind; what was got, put, is just the bytes that it had. Plain mathematics; no condition.
-/
namespace Go.Proofs.YtnhoeboighndlaaGreatDoor.objs
open Go.Proofs.YtnhoeboighndlaaGreatDoor.octet (St rdByte rdNum rdInt num zig zag num_back num_once zig_zag zag_zig zig_lt num_length_le dec enc_length_pos rdNum_ok rdByte_ok)
open Go.Proofs.YtnhoeboighndlaaGreatDoor.word (Word)

theorem rdNum_back {n : Nat} (h : n < 18446744073709551616) (more : List UInt8) : rdNum ⟨num n ++ more, 0⟩ = (n, ⟨more, 0⟩) := by
  have hz := num_back h more
  unfold rdNum
  simp only [ne_eq, not_true_eq_false, if_false, hz]
theorem rdN_back {n : Nat} (h : n ≤ 2147483648) (more : List UInt8) : rdN ⟨num n ++ more, 0⟩ = ((n : Int), ⟨more, 0⟩) := by
  unfold rdN
  rw [rdNum_back (by omega)]
  dsimp only
  rw [Nat.min_eq_left h]
theorem rdInt_back {n : Int} (h : Word n) (more : List UInt8) : rdInt ⟨num (zig n) ++ more, 0⟩ = (n, ⟨more, 0⟩) := by
  unfold Word at h
  unfold rdInt
  rw [rdNum_back (zig_lt (by omega) (by omega))]
  dsimp only
  rw [zag_zig]
theorem rdD_back {l : List De} {d : De} (h : one l d = 0) (hl : l.length ≤ 32) (more : List UInt8) : rdD ⟨encD d ++ more, 0⟩ = (d, ⟨more, 0⟩, 0) := by
  obtain ⟨h0, h3, h6, h7, hb, ha⟩ := one_zero h
  obtain ⟨k, a, b⟩ := d
  dsimp only at h0 h3 h6 h7 hb ha
  have hy : rdByte ⟨encD (k, a, b) ++ more, 0⟩ = (k.toNat, ⟨pieceA k a ++ (pieceB k b ++ more), 0⟩) := by
    unfold rdByte encD
    simp only [ne_eq, not_true_eq_false, if_false, List.cons_append, List.append_assoc]
    congr 1
    rw [UInt8.toNat_ofNat']
    omega
  have hA : rdA k.toNat ⟨pieceA k a ++ (pieceB k b ++ more), 0⟩ = (a, ⟨pieceB k b ++ more, 0⟩) := by
    unfold rdA pieceA
    by_cases e : k = 3 ∨ k = 6
    · rw [if_pos (by omega), if_pos e, rdN_back (by omega)]
      congr 1
      omega
    · rw [if_neg (by omega), if_neg e]
      by_cases e7 : k = 7
      · rw [if_pos (by omega), if_pos e7, rdInt_back (h7 e7).1]
      · rw [if_neg (by omega), if_neg e7, ha (by omega) (by omega) e7]
        rfl
  have hB : rdB k.toNat ⟨pieceB k b ++ more, 0⟩ = (b, ⟨more, 0⟩) := by
    unfold rdB pieceB
    by_cases e : k = 3 ∨ k = 7
    · rw [if_pos (by omega), if_pos e]
      have hbb : 0 ≤ b ∧ b ≤ 1000 := by
        rcases e with e | e
        · have := h3 e; omega
        · have := fits_lt (h7 e).2; omega
      rw [rdN_back (by omega)]
      congr 1
      omega
    · rw [if_neg (by omega), if_neg e, hb (by omega) (by omega)]
      rfl
  unfold rdD
  simp only [hy, hA, hB]
  rw [if_neg (by omega)]
  congr 2
  omega
theorem rdL_back {l : List De} (hl : l.length ≤ 32) (h : ∀ j, j < l.length → one l (l.getD j zero) = 0) : ∀ j, j ≤ l.length → ∀ more, rdL ⟨encs l j ++ more, 0⟩ j = (l.take j, ⟨more, 0⟩, 0) := by
  intro j
  induction j with
  | zero => intro _ more; rfl
  | succ j ih =>
    intro hj more
    have h1 := ih (by omega) (encD (l.getD j zero) ++ more)
    have h2 := rdD_back (h j (by omega)) hl more
    simp only [encs, List.append_assoc, rdL]
    rw [h1]
    simp only [h2]
    rw [if_neg (by decide), if_neg (by decide), List.take_add_one, List.getD_eq_getElem?_getD, List.getElem?_eq_getElem (by omega)]
    rfl
theorem back {l : List De} (h : (chk l).2 = 0) (more : List UInt8) : getL (encL l ++ more) = (l, (encL l).length, 0) := by
  obtain ⟨hl, _, hall⟩ := chk_zero h
  have hn : rdN ⟨encL l ++ more, 0⟩ = ((l.length : Int), ⟨encs l l.length ++ more, 0⟩) := by
    unfold encL
    rw [List.append_assoc, rdN_back (by omega)]
  have hL := rdL_back hl hall l.length (Nat.le_refl _) more
  unfold getL readL
  have h32 : ¬ (32 : Int) < (l.length : Int) := by omega
  simp only [hn, Int.toNat_natCast, hL, List.take_length, h, ne_eq, not_true_eq_false, if_false, if_neg h32]
  simp

theorem rdNum_once {l : List UInt8} (h : (rdNum ⟨l, 0⟩).2.err = 0) : l = num (rdNum ⟨l, 0⟩).1 ++ (rdNum ⟨l, 0⟩).2.rest := by
  unfold rdNum at h ⊢
  simp only [ne_eq, not_true_eq_false, if_false] at h ⊢
  exact (num_once (l := l) (v := (dec l 0 0).1) (rest := (dec l 0 0).2.1) (Prod.ext rfl (Prod.ext rfl h))).1
theorem rdN_once {l : List UInt8} (h : (rdN ⟨l, 0⟩).2.err = 0) (hs : (rdN ⟨l, 0⟩).1 < 2147483648) : l = num (rdN ⟨l, 0⟩).1.toNat ++ (rdN ⟨l, 0⟩).2.rest := by
  unfold rdN at h hs ⊢
  dsimp only at h hs ⊢
  have e : ((min (rdNum ⟨l, 0⟩).1 2147483648 : Nat) : Int).toNat = (rdNum ⟨l, 0⟩).1 := by omega
  rw [e]
  exact rdNum_once h
theorem rdInt_once {l : List UInt8} (h : (rdInt ⟨l, 0⟩).2.err = 0) : l = num (zig (rdInt ⟨l, 0⟩).1) ++ (rdInt ⟨l, 0⟩).2.rest := by
  unfold rdInt at h ⊢
  dsimp only at h ⊢
  rw [zig_zag]
  exact rdNum_once h
theorem rdNum_err {s : St} (h : s.err ≠ 0) : (rdNum s).2 = s := by
  unfold rdNum
  rw [if_pos h]
theorem rdB_err {k : Nat} {s : St} (h : s.err ≠ 0) : (rdB k s).2 = s := by
  unfold rdB rdN
  split
  · exact rdNum_err h
  · rfl
theorem rdA_err {k : Nat} {s : St} (h : s.err ≠ 0) : (rdA k s).2 = s := by
  unfold rdA rdN rdInt
  split
  · exact rdNum_err h
  · split
    · exact rdNum_err h
    · rfl
theorem rdD_once {l : List De} {L : List UInt8} (he : (rdD ⟨L, 0⟩).2.2 = 0) (hl : l.length ≤ 32) (h : one l (rdD ⟨L, 0⟩).1 = 0) : L = encD (rdD ⟨L, 0⟩).1 ++ (rdD ⟨L, 0⟩).2.1.rest ∧ (rdD ⟨L, 0⟩).2.1.err = 0 := by
  unfold rdD at he h ⊢
  dsimp only at he h ⊢
  split at he
  · cases he
  · rename_i hc
    rw [if_neg hc] at h ⊢
    dsimp only at he h ⊢
    obtain ⟨x, r, rfl⟩ : ∃ x r, L = x :: r := by
      cases L with
      | nil =>
        exfalso
        have e0 : (rdByte ⟨[], 0⟩).2.err ≠ 0 := by decide
        rw [rdA_err e0, rdB_err e0] at he
        exact e0 he
      | cons x r => exact ⟨x, r, rfl⟩
    have hy : rdByte ⟨x :: r, 0⟩ = (x.toNat, ⟨r, 0⟩) := rfl
    rw [hy] at he h hc ⊢
    dsimp only at he h hc ⊢
    have hA0 : (rdA x.toNat ⟨r, 0⟩).2.err = 0 := by
      rcases Nat.eq_zero_or_pos (rdA x.toNat ⟨r, 0⟩).2.err with e | e
      · exact e
      · rw [rdB_err (by omega)] at he; exact he
    obtain ⟨h0, h3, h6, h7, hb, ha⟩ := one_zero h
    dsimp only at h0 h3 h6 h7 hb ha
    have hA : r = pieceA (x.toNat : Int) (rdA x.toNat ⟨r, 0⟩).1 ++ (rdA x.toNat ⟨r, 0⟩).2.rest := by
      unfold rdA at hA0 h3 h6 h7 ⊢
      unfold pieceA
      by_cases e : x.toNat = 3 ∨ x.toNat = 6
      · rw [if_pos e] at hA0 h3 h6 ⊢
        rw [if_pos (by omega)]
        refine rdN_once hA0 ?_
        rcases e with e | e
        · have := h3 (by omega); omega
        · have := h6 (by omega); omega
      · rw [if_neg e] at hA0 ⊢
        rw [if_neg (by omega)]
        by_cases e7 : x.toNat = 7
        · rw [if_pos e7] at hA0 ⊢
          rw [if_pos (by omega)]
          exact rdInt_once hA0
        · rw [if_neg e7, if_neg (by omega)]
          rfl
    generalize rdA x.toNat ⟨r, 0⟩ = q at *
    obtain ⟨a, R, E⟩ := q
    dsimp only at hA0 hA he h3 h6 h7 hb ha ⊢
    subst hA0
    have hB : R = pieceB (x.toNat : Int) (rdB x.toNat ⟨R, 0⟩).1 ++ (rdB x.toNat ⟨R, 0⟩).2.rest := by
      unfold rdB at he h3 h7 ⊢
      unfold pieceB
      by_cases e : x.toNat = 3 ∨ x.toNat = 7
      · rw [if_pos e] at he h3 h7 ⊢
        rw [if_pos (by omega)]
        refine rdN_once he ?_
        rcases e with e | e
        · have := h3 (by omega); omega
        · have := fits_lt (h7 (by omega)).2; omega
      · rw [if_neg e] at he ⊢
        rw [if_neg (by omega)]
        rfl
    refine ⟨?_, he⟩
    unfold encD
    dsimp only
    rw [Int.toNat_natCast, List.cons_append, List.append_assoc, ← hB, ← hA]
    congr 1
    exact UInt8.ofNat_toNat.symm
theorem rdL_err {s : St} {j : Nat} (h : (rdL s j).2.2 ≠ 0) : ∀ k, j ≤ k → (rdL s k).2.2 ≠ 0 := by
  intro k hk
  induction k with
  | zero =>
    obtain rfl : j = 0 := by omega
    exact h
  | succ k ih =>
    rcases Nat.eq_or_lt_of_le hk with e | e
    · subst e; exact h
    · have := ih (by omega)
      simp only [rdL]
      rw [if_pos this]
      exact this
theorem rdL_length {s : St} : ∀ j, (rdL s j).2.2 = 0 → (rdL s j).1.length = j := by
  intro j
  induction j with
  | zero => intro _; rfl
  | succ j ih =>
    intro h
    simp only [rdL] at h ⊢
    split at h
    · exact absurd h ‹_›
    · rename_i h1
      have := ih (by omega)
      rw [if_neg h1]
      split at h
      · exact absurd h ‹_›
      · rename_i h2
        rw [if_neg h2, List.length_append, this]
        rfl
theorem getD_left {l r : List De} {i : Nat} (h : i < l.length) : (l ++ r).getD i zero = l.getD i zero := by
  rw [List.getD_eq_getElem?_getD, List.getD_eq_getElem?_getD, List.getElem?_append_left h]
theorem getD_last {l : List De} {x : De} {i : Nat} (h : l.length = i) : (l ++ [x]).getD i zero = x := by
  subst h
  rw [List.getD_eq_getElem?_getD, List.getElem?_append_right (Nat.le_refl _), Nat.sub_self]
  rfl
theorem encs_left {l r : List De} : ∀ j, j ≤ l.length → encs (l ++ r) j = encs l j := by
  intro j
  induction j with
  | zero => intro _; rfl
  | succ j ih =>
    intro h
    simp only [encs]
    rw [ih (by omega), getD_left (by omega)]
theorem rdL_once {M : List De} (hM : M.length ≤ 32) : ∀ j (L : List UInt8), (rdL ⟨L, 0⟩ j).2.2 = 0 → (∀ i, i < j → one M ((rdL ⟨L, 0⟩ j).1.getD i zero) = 0) → L = encs (rdL ⟨L, 0⟩ j).1 j ++ (rdL ⟨L, 0⟩ j).2.1.rest ∧ (rdL ⟨L, 0⟩ j).2.1.err = 0 := by
  intro j
  induction j with
  | zero => intro L _ _; exact ⟨rfl, rfl⟩
  | succ j ih =>
    intro L he hall
    have h0 : (rdL ⟨L, 0⟩ j).2.2 = 0 := by
      rcases Nat.eq_zero_or_pos (rdL ⟨L, 0⟩ j).2.2 with h | h
      · exact h
      · exact absurd he (rdL_err (j := j) (by omega) (j + 1) (by omega))
    have hlen := rdL_length j h0
    simp only [rdL] at he hall ⊢
    rw [if_neg (by omega)] at he hall ⊢
    split at he
    · exact absurd he ‹_›
    · rename_i h2
      rw [if_neg h2] at hall ⊢
      dsimp only at he hall ⊢
      have h1 := ih L h0 (fun i hi => by
        have := hall i (by omega)
        rwa [getD_left (by omega)] at this)
      have hj := hall j (by omega)
      rw [getD_last hlen] at hj
      simp only [encs]
      rw [encs_left j (by omega), getD_last hlen]
      generalize rdL ⟨L, 0⟩ j = p at *
      obtain ⟨ls, ⟨R, E⟩, e⟩ := p
      dsimp only at h0 hlen h1 hj h2 ⊢
      obtain ⟨h1, h1e⟩ := h1
      subst h1e
      have h3 := rdD_once (l := M) (L := R) (by omega) hM hj
      refine ⟨?_, h3.2⟩
      rw [List.append_assoc, ← h3.1]
      exact h1
theorem got_bad {l : List UInt8} (h : (getL l).2.2 ≠ 0) : getL l = ([], 0, (getL l).2.2) := by
  unfold getL at h ⊢
  dsimp only at h ⊢
  split
  · rfl
  · rename_i h1
    rw [if_neg h1] at h
    exact absurd rfl h
theorem once {t : List UInt8} (h : (getL t).2.2 = 0) : (chk (getL t).1).2 = 0 ∧ 0 < (getL t).2.1 ∧ (getL t).2.1 ≤ t.length ∧ encL (getL t).1 = t.take (getL t).2.1 := by
  unfold getL readL at h ⊢
  dsimp only at h ⊢
  by_cases h1 : (rdN ⟨t, 0⟩).2.err ≠ 0
  · simp only [if_pos h1] at h; exact absurd h h1
  · simp only [if_neg h1] at h ⊢
    by_cases h2 : 32 < (rdN ⟨t, 0⟩).1
    · simp only [if_pos h2] at h; cases h
    · simp only [if_neg h2] at h ⊢
      have hn := rdN_once (l := t) (by omega) (by omega)
      have hn0 : 0 ≤ (rdN ⟨t, 0⟩).1 := by unfold rdN; dsimp only; omega
      generalize rdN ⟨t, 0⟩ = q at *
      obtain ⟨n, ⟨R, E⟩⟩ := q
      dsimp only at h h1 h2 hn hn0 ⊢
      obtain rfl : E = 0 := by omega
      by_cases h3 : (rdL ⟨R, 0⟩ n.toNat).2.2 ≠ 0
      · simp only [if_pos h3] at h; exact absurd h h3
      · simp only [if_neg h3] at h ⊢
        by_cases h4 : (chk (rdL ⟨R, 0⟩ n.toNat).1).2 ≠ 0
        · simp only [if_pos h4] at h; exact absurd h h4
        · simp only [if_neg h4] at h ⊢
          have hlen := rdL_length n.toNat (by omega : (rdL ⟨R, 0⟩ n.toNat).2.2 = 0)
          obtain ⟨hl, _, hall⟩ := chk_zero (by omega : (chk (rdL ⟨R, 0⟩ n.toNat).1).2 = 0)
          have ho := (rdL_once hl n.toNat R (by omega) (fun i hi => hall i (by omega))).1
          generalize rdL ⟨R, 0⟩ n.toNat = p at *
          obtain ⟨ls, S, e⟩ := p
          dsimp only at h3 h4 hlen hl hall ho ⊢
          have hE : t = encL ls ++ S.rest := by
            unfold encL
            rw [hlen, List.append_assoc, ← ho]
            exact hn
          have hpos : 0 < (encL ls).length := by
            have := enc_length_pos 9 ls.length
            simp only [encL, List.length_append]
            have e : (num ls.length).length = (Go.Proofs.YtnhoeboighndlaaGreatDoor.octet.enc 9 ls.length).length := rfl
            omega
          have hlt : t.length = (encL ls).length + S.rest.length := by rw [hE, List.length_append]
          simp only [ne_eq, not_true_eq_false, if_false]
          refine ⟨by omega, by omega, by omega, ?_⟩
          rw [show t.length - S.rest.length = (encL ls).length from by omega, hE, List.take_left']
          rfl
end Go.Proofs.YtnhoeboighndlaaGreatDoor.objs

/-
  What was put of a wait is got again, whatever stands behind; what was got, put, is just the bytes that it had. Plain mathematics; no condition.
-/
namespace Go.Proofs.YtnhoeboighndlaaGreatDoor.need
open Go.Proofs.YtnhoeboighndlaaGreatDoor.octet (St rdByte rdNum num num_length_le enc_length_pos)
open Go.Proofs.YtnhoeboighndlaaGreatDoor.objs (De zero rdN chk chk_zero one one_zero rdNum_back rdN_back rdNum_once rdN_once rdNum_err getD_left getD_last)
set_option linter.unusedVariables false

/-- Of objects that may be: a need that may be has numbers up to a thousand. -/
theorem need_small {d : List De} {n : De} (hd : (chk d).2 = 0) (h : oneN d n = 0) : (1 ≤ n.1 ∧ n.1 ≤ 5) ∧ (0 ≤ n.2.1 ∧ n.2.1 < 32) ∧ (n.1 ≤ 3 → n.2.2 = 0) ∧ 0 ≤ n.2.2 ∧ n.2.2 ≤ 1000 := by
  obtain ⟨h1, h2, h3, h4, h5⟩ := oneN_zero h
  obtain ⟨hl, _, hall⟩ := chk_zero hd
  refine ⟨h1, by omega, h3, h4, ?_⟩
  have hk : (d.getD n.2.1.toNat zero).1 = kn n.1 := by
    unfold oneN at h
    split at h
    · cases h
    · split at h
      · cases h
      · rename_i _ h6
        exact Classical.byContradiction fun h7 => h6 (.inr (.inr h7))
  obtain ⟨_, g3, g6, _, _, _⟩ := one_zero (hall n.2.1.toNat (by omega))
  unfold hi at h5
  by_cases e4 : n.1 = 4
  · rw [if_pos e4] at h5
    have := g3 (by rw [hk]; unfold kn; rw [e4]; decide)
    omega
  · rw [if_neg e4] at h5
    by_cases e5 : n.1 = 5
    · rw [if_pos e5] at h5
      have := g6 (by rw [hk]; unfold kn; rw [e5]; decide)
      omega
    · rw [if_neg e5] at h5
      omega

theorem rdNeed_back {d : List De} {n : De} (hd : (chk d).2 = 0) (h : oneN d n = 0) (more : List UInt8) : rdNeed ⟨encN n ++ more, 0⟩ = (n, ⟨more, 0⟩, 0) := by
  obtain ⟨h1, h2, h3, h4, h5⟩ := need_small hd h
  obtain ⟨k, o, m⟩ := n
  dsimp only at h1 h2 h3 h4 h5
  have hy : rdByte ⟨encN (k, o, m) ++ more, 0⟩ = (k.toNat, ⟨num o.toNat ++ (pieceN k m ++ more), 0⟩) := by
    unfold rdByte encN
    simp only [ne_eq, not_true_eq_false, if_false, List.cons_append, List.append_assoc]
    congr 1
    rw [UInt8.toNat_ofNat']
    omega
  have hA : rdN ⟨num o.toNat ++ (pieceN k m ++ more), 0⟩ = (o, ⟨pieceN k m ++ more, 0⟩) := by
    rw [rdN_back (by omega)]
    congr 1
    omega
  have hB : rdC k.toNat ⟨pieceN k m ++ more, 0⟩ = (m, ⟨more, 0⟩) := by
    unfold rdC pieceN
    by_cases e : 3 < k
    · rw [if_pos (by omega), if_pos e, rdN_back (by omega)]
      congr 1
      omega
    · rw [if_neg (by omega), if_neg e, h3 (by omega)]
      rfl
  unfold rdNeed
  simp only [hy, hA, hB]
  rw [if_neg (by omega)]
  congr 2
  omega
theorem rdNeeds_back {d l : List De} (hd : (chk d).2 = 0) (h : ∀ n ∈ l, oneN d n = 0) : ∀ j, j ≤ l.length → ∀ more, rdNeeds ⟨encNs l j ++ more, 0⟩ j = (l.take j, ⟨more, 0⟩, 0) := by
  intro j
  induction j with
  | zero => intro _ more; rfl
  | succ j ih =>
    intro hj more
    have h1 := ih (by omega) (encN (l.getD j zero) ++ more)
    have h2 := rdNeed_back hd (h _ (getD_mem (l := l) (k := j) (by omega))) more
    simp only [encNs, List.append_assoc, rdNeeds]
    rw [h1]
    simp only [h2]
    rw [if_neg (by decide), if_neg (by decide), List.take_add_one, List.getD_eq_getElem?_getD, List.getElem?_eq_getElem (by omega)]
    rfl
theorem rdWay_back {d l : List De} (hd : (chk d).2 = 0) (hl : l.length ≤ 4) (h : ∀ n ∈ l, oneN d n = 0) (more : List UInt8) : rdWay ⟨encWay l ++ more, 0⟩ = (l, ⟨more, 0⟩, 0) := by
  have hn : rdNum ⟨encWay l ++ more, 0⟩ = (l.length, ⟨encNs l l.length ++ more, 0⟩) := by
    unfold encWay
    rw [List.append_assoc, rdNum_back (by omega)]
  unfold rdWay
  simp only [hn]
  rw [if_neg (by omega), if_neg (by decide), rdNeeds_back hd h l.length (Nat.le_refl _) more, List.take_length]
theorem rdWays_back {d : List De} {w : List (List De)} (hd : (chk d).2 = 0) (h : ∀ l ∈ w, l.length ≤ 4 ∧ ∀ n ∈ l, oneN d n = 0) : ∀ j, j ≤ w.length → ∀ more, rdWays ⟨encWs w j ++ more, 0⟩ j = (w.take j, ⟨more, 0⟩, 0) := by
  intro j
  induction j with
  | zero => intro _ more; rfl
  | succ j ih =>
    intro hj more
    have h1 := ih (by omega) (encWay (w.getD j []) ++ more)
    have hm := h _ (getW_mem (w := w) (k := j) (by omega))
    have h2 := rdWay_back hd hm.1 hm.2 more
    simp only [encWs, List.append_assoc, rdWays]
    rw [h1]
    simp only [h2]
    rw [if_neg (by decide), if_neg (by decide), List.take_add_one, List.getD_eq_getElem?_getD, List.getElem?_eq_getElem (by omega)]
    rfl
theorem back {d : List De} {w : List (List De)} (hd : (chk d).2 = 0) (h : chkW d w = 0) (more : List UInt8) : getW d (encW w ++ more) = (w, (encW w).length, 0) := by
  obtain ⟨h0, h4, hall⟩ := chkW_zero h
  have hn : rdNum ⟨encW w ++ more, 0⟩ = (w.length, ⟨encWs w w.length ++ more, 0⟩) := by
    unfold encW
    rw [List.append_assoc, rdNum_back (by omega)]
  have hL := rdWays_back hd (fun l hl => (hall l hl).2) w.length (Nat.le_refl _) more
  unfold getW readW
  have h44 : ¬ 4 < w.length := by omega
  simp only [hn, hL, List.take_length, h, ne_eq, not_true_eq_false, if_false, if_neg h44]
  simp

theorem rdC_err {k : Nat} {s : St} (h : s.err ≠ 0) : (rdC k s).2 = s := by
  unfold rdC rdN
  split
  · exact rdNum_err h
  · rfl
theorem rdNeed_once {d : List De} {L : List UInt8} (hd : (chk d).2 = 0) (he : (rdNeed ⟨L, 0⟩).2.2 = 0) (h : oneN d (rdNeed ⟨L, 0⟩).1 = 0) : L = encN (rdNeed ⟨L, 0⟩).1 ++ (rdNeed ⟨L, 0⟩).2.1.rest ∧ (rdNeed ⟨L, 0⟩).2.1.err = 0 := by
  obtain ⟨h1, h2, h3, h4, h5⟩ := need_small hd h
  unfold rdNeed at he h1 h2 h3 h4 h5 ⊢
  dsimp only at he h1 h2 h3 h4 h5 ⊢
  split at he
  · cases he
  · rename_i hc
    rw [if_neg hc] at h1 h2 h3 h4 h5 ⊢
    dsimp only at he h1 h2 h3 h4 h5 ⊢
    obtain ⟨x, r, rfl⟩ : ∃ x r, L = x :: r := by
      cases L with
      | nil =>
        exfalso
        have e0 : (rdByte ⟨[], 0⟩).2.err ≠ 0 := by decide
        have e1 : (rdN (rdByte ⟨[], 0⟩).2).2 = (rdByte ⟨[], 0⟩).2 := rdNum_err e0
        rw [e1, rdC_err e0] at he
        exact e0 he
      | cons x r => exact ⟨x, r, rfl⟩
    have hy : rdByte ⟨x :: r, 0⟩ = (x.toNat, ⟨r, 0⟩) := rfl
    rw [hy] at he h1 h2 h3 h4 h5 hc ⊢
    dsimp only at he h1 h2 h3 h4 h5 hc ⊢
    have hA0 : (rdN ⟨r, 0⟩).2.err = 0 := by
      rcases Nat.eq_zero_or_pos (rdN ⟨r, 0⟩).2.err with e | e
      · exact e
      · rw [rdC_err (by omega)] at he; exact he
    have hA := rdN_once hA0 (by omega)
    generalize rdN ⟨r, 0⟩ = q at *
    obtain ⟨o, R, E⟩ := q
    dsimp only at hA0 hA he h2 h3 h4 h5 ⊢
    subst hA0
    have hB : R = pieceN (x.toNat : Int) (rdC x.toNat ⟨R, 0⟩).1 ++ (rdC x.toNat ⟨R, 0⟩).2.rest := by
      unfold rdC at he h4 h5 ⊢
      unfold pieceN
      by_cases e : 3 < x.toNat
      · rw [if_pos e] at he h4 h5 ⊢
        rw [if_pos (by omega)]
        exact rdN_once he (by omega)
      · rw [if_neg e] at he ⊢
        rw [if_neg (by omega)]
        rfl
    refine ⟨?_, he⟩
    unfold encN
    dsimp only
    rw [Int.toNat_natCast, List.cons_append, List.append_assoc, ← hB, ← hA]
    congr 1
    exact UInt8.ofNat_toNat.symm
theorem rdNeeds_err {s : St} {j : Nat} (h : (rdNeeds s j).2.2 ≠ 0) : ∀ k, j ≤ k → rdNeeds s k = rdNeeds s j := by
  intro k hk
  induction k with
  | zero =>
    obtain rfl : j = 0 := by omega
    rfl
  | succ k ih =>
    rcases Nat.eq_or_lt_of_le hk with e | e
    · subst e; rfl
    · have := ih (by omega)
      simp only [rdNeeds]
      rw [this, if_pos h]
theorem rdWays_err {s : St} {j : Nat} (h : (rdWays s j).2.2 ≠ 0) : ∀ k, j ≤ k → rdWays s k = rdWays s j := by
  intro k hk
  induction k with
  | zero =>
    obtain rfl : j = 0 := by omega
    rfl
  | succ k ih =>
    rcases Nat.eq_or_lt_of_le hk with e | e
    · subst e; rfl
    · have := ih (by omega)
      simp only [rdWays]
      rw [this, if_pos h]
theorem rdNeeds_length {s : St} : ∀ j, (rdNeeds s j).2.2 = 0 → (rdNeeds s j).1.length = j := by
  intro j
  induction j with
  | zero => intro _; rfl
  | succ j ih =>
    intro h
    simp only [rdNeeds] at h ⊢
    split at h
    · exact absurd h ‹_›
    · rename_i h1
      have := ih (by omega)
      rw [if_neg h1]
      split at h
      · exact absurd h ‹_›
      · rename_i h2
        rw [if_neg h2, List.length_append, this]
        rfl
theorem rdWays_length {s : St} : ∀ j, (rdWays s j).2.2 = 0 → (rdWays s j).1.length = j := by
  intro j
  induction j with
  | zero => intro _; rfl
  | succ j ih =>
    intro h
    simp only [rdWays] at h ⊢
    split at h
    · exact absurd h ‹_›
    · rename_i h1
      have := ih (by omega)
      rw [if_neg h1]
      split at h
      · exact absurd h ‹_›
      · rename_i h2
        rw [if_neg h2, List.length_append, this]
        rfl
theorem encNs_left {l r : List De} : ∀ j, j ≤ l.length → encNs (l ++ r) j = encNs l j := by
  intro j
  induction j with
  | zero => intro _; rfl
  | succ j ih =>
    intro h
    simp only [encNs]
    rw [ih (by omega), getD_left (by omega)]
theorem getW_left {l r : List (List De)} {i : Nat} (h : i < l.length) : (l ++ r).getD i [] = l.getD i [] := by
  rw [List.getD_eq_getElem?_getD, List.getD_eq_getElem?_getD, List.getElem?_append_left h]
theorem getW_last {l : List (List De)} {x : List De} {i : Nat} (h : l.length = i) : (l ++ [x]).getD i [] = x := by
  subst h
  rw [List.getD_eq_getElem?_getD, List.getElem?_append_right (Nat.le_refl _), Nat.sub_self]
  rfl
theorem encWs_left {l r : List (List De)} : ∀ j, j ≤ l.length → encWs (l ++ r) j = encWs l j := by
  intro j
  induction j with
  | zero => intro _; rfl
  | succ j ih =>
    intro h
    simp only [encWs]
    rw [ih (by omega), getW_left (by omega)]
theorem rdNeeds_once {d : List De} (hd : (chk d).2 = 0) : ∀ j (L : List UInt8), (rdNeeds ⟨L, 0⟩ j).2.2 = 0 → (∀ n ∈ (rdNeeds ⟨L, 0⟩ j).1, oneN d n = 0) → L = encNs (rdNeeds ⟨L, 0⟩ j).1 j ++ (rdNeeds ⟨L, 0⟩ j).2.1.rest ∧ (rdNeeds ⟨L, 0⟩ j).2.1.err = 0 := by
  intro j
  induction j with
  | zero => intro L _ _; exact ⟨rfl, rfl⟩
  | succ j ih =>
    intro L he hall
    have h0 : (rdNeeds ⟨L, 0⟩ j).2.2 = 0 := by
      rcases Nat.eq_zero_or_pos (rdNeeds ⟨L, 0⟩ j).2.2 with h | h
      · exact h
      · rw [rdNeeds_err (j := j) (by omega) (j + 1) (by omega)] at he
        omega
    have hlen := rdNeeds_length j h0
    simp only [rdNeeds] at he hall ⊢
    rw [if_neg (by omega)] at he hall ⊢
    split at he
    · exact absurd he ‹_›
    · rename_i h2
      rw [if_neg h2] at hall ⊢
      dsimp only at he hall ⊢
      have h1 := ih L h0 (fun n hn => hall n (List.mem_append_left _ hn))
      have hj := hall (rdNeed (rdNeeds ⟨L, 0⟩ j).2.1).1 (List.mem_append_right _ (List.mem_singleton.2 rfl))
      simp only [encNs]
      rw [encNs_left j (by omega), getD_last hlen]
      generalize rdNeeds ⟨L, 0⟩ j = p at *
      obtain ⟨ls, ⟨R, E⟩, e⟩ := p
      dsimp only at h0 hlen h1 hj h2 ⊢
      obtain ⟨h1, h1e⟩ := h1
      subst h1e
      have h3 := rdNeed_once (d := d) (L := R) hd (by omega) hj
      refine ⟨?_, h3.2⟩
      rw [List.append_assoc, ← h3.1]
      exact h1
theorem rdWay_once {d : List De} {L : List UInt8} (hd : (chk d).2 = 0) (he : (rdWay ⟨L, 0⟩).2.2 = 0) (h : ∀ n ∈ (rdWay ⟨L, 0⟩).1, oneN d n = 0) : L = encWay (rdWay ⟨L, 0⟩).1 ++ (rdWay ⟨L, 0⟩).2.1.rest ∧ (rdWay ⟨L, 0⟩).2.1.err = 0 := by
  unfold rdWay at he h ⊢
  split at he
  · cases he
  · rename_i h1
    rw [if_neg h1] at h ⊢
    split at he
    · exact absurd he ‹_›
    · rename_i h2
      rw [if_neg h2] at h ⊢
      have hn := rdNum_once (l := L) (by omega)
      generalize rdNum ⟨L, 0⟩ = q at *
      obtain ⟨n, ⟨R, E⟩⟩ := q
      dsimp only at he h h1 h2 hn ⊢
      obtain rfl : E = 0 := by omega
      have h3 := rdNeeds_once hd n R he h
      have hlen := rdNeeds_length n he
      refine ⟨?_, h3.2⟩
      unfold encWay
      rw [hlen, List.append_assoc, ← h3.1]
      exact hn
theorem rdWays_once {d : List De} (hd : (chk d).2 = 0) : ∀ j (L : List UInt8), (rdWays ⟨L, 0⟩ j).2.2 = 0 → (∀ l ∈ (rdWays ⟨L, 0⟩ j).1, ∀ n ∈ l, oneN d n = 0) → L = encWs (rdWays ⟨L, 0⟩ j).1 j ++ (rdWays ⟨L, 0⟩ j).2.1.rest ∧ (rdWays ⟨L, 0⟩ j).2.1.err = 0 := by
  intro j
  induction j with
  | zero => intro L _ _; exact ⟨rfl, rfl⟩
  | succ j ih =>
    intro L he hall
    have h0 : (rdWays ⟨L, 0⟩ j).2.2 = 0 := by
      rcases Nat.eq_zero_or_pos (rdWays ⟨L, 0⟩ j).2.2 with h | h
      · exact h
      · rw [rdWays_err (j := j) (by omega) (j + 1) (by omega)] at he
        omega
    have hlen := rdWays_length j h0
    simp only [rdWays] at he hall ⊢
    rw [if_neg (by omega)] at he hall ⊢
    split at he
    · exact absurd he ‹_›
    · rename_i h2
      rw [if_neg h2] at hall ⊢
      dsimp only at he hall ⊢
      have h1 := ih L h0 (fun n hn => hall n (List.mem_append_left _ hn))
      have hj := hall (rdWay (rdWays ⟨L, 0⟩ j).2.1).1 (List.mem_append_right _ (List.mem_singleton.2 rfl))
      simp only [encWs]
      rw [encWs_left j (by omega), getW_last hlen]
      generalize rdWays ⟨L, 0⟩ j = p at *
      obtain ⟨ls, ⟨R, E⟩, e⟩ := p
      dsimp only at h0 hlen h1 hj h2 ⊢
      obtain ⟨h1, h1e⟩ := h1
      subst h1e
      have h3 := rdWay_once (d := d) (L := R) hd (by omega) hj
      refine ⟨?_, h3.2⟩
      rw [List.append_assoc, ← h3.1]
      exact h1
theorem got_bad {d : List De} {l : List UInt8} (h : (getW d l).2.2 ≠ 0) : getW d l = ([], 0, (getW d l).2.2) := by
  unfold getW at h ⊢
  dsimp only at h ⊢
  split
  · rfl
  · rename_i h1
    rw [if_neg h1] at h
    exact absurd rfl h
theorem once {d : List De} {t : List UInt8} (hd : (chk d).2 = 0) (h : (getW d t).2.2 = 0) : chkW d (getW d t).1 = 0 ∧ 0 < (getW d t).2.1 ∧ (getW d t).2.1 ≤ t.length ∧ encW (getW d t).1 = t.take (getW d t).2.1 := by
  unfold getW readW at h ⊢
  dsimp only at h ⊢
  by_cases h2 : 4 < (rdNum ⟨t, 0⟩).1
  · simp only [if_pos h2] at h; cases h
  · simp only [if_neg h2] at h ⊢
    by_cases h1 : (rdNum ⟨t, 0⟩).2.err ≠ 0
    · simp only [if_pos h1] at h; exact absurd h h1
    · simp only [if_neg h1] at h ⊢
      have hn := rdNum_once (l := t) (by omega)
      generalize rdNum ⟨t, 0⟩ = q at *
      obtain ⟨n, ⟨R, E⟩⟩ := q
      dsimp only at h h1 h2 hn ⊢
      obtain rfl : E = 0 := by omega
      by_cases h3 : (rdWays ⟨R, 0⟩ n).2.2 ≠ 0
      · simp only [if_pos h3] at h; exact absurd h h3
      · simp only [if_neg h3] at h ⊢
        by_cases h4 : chkW d (rdWays ⟨R, 0⟩ n).1 ≠ 0
        · simp only [if_pos h4] at h; exact absurd h h4
        · simp only [if_neg h4] at h ⊢
          have hlen := rdWays_length n (by omega : (rdWays ⟨R, 0⟩ n).2.2 = 0)
          obtain ⟨_, _, hall⟩ := chkW_zero (by omega : chkW d (rdWays ⟨R, 0⟩ n).1 = 0)
          have ho := (rdWays_once hd n R (by omega) (fun l hl => (hall l hl).2.2)).1
          generalize rdWays ⟨R, 0⟩ n = p at *
          obtain ⟨ls, S, e⟩ := p
          dsimp only at h3 h4 hlen hall ho ⊢
          have hE : t = encW ls ++ S.rest := by
            unfold encW
            rw [hlen, List.append_assoc, ← ho]
            exact hn
          have hpos : 0 < (encW ls).length := by
            have := enc_length_pos 9 ls.length
            simp only [encW, List.length_append]
            have e : (num ls.length).length = (Go.Proofs.YtnhoeboighndlaaGreatDoor.octet.enc 9 ls.length).length := rfl
            omega
          have hlt : t.length = (encW ls).length + S.rest.length := by rw [hE, List.length_append]
          simp only [ne_eq, not_true_eq_false, if_false]
          refine ⟨by omega, by omega, by omega, ?_⟩
          rw [show t.length - S.rest.length = (encW ls).length from by omega, hE, List.take_left']
          rfl
end Go.Proofs.YtnhoeboighndlaaGreatDoor.need

/-
  The document's table of operations: names, forms, what is taken and laid, by number; and the first number that has a name. No condition.
-/
namespace Go.Proofs.YtnhoeboighndlaaGreatDoor.oper

def nm : List ByteArray := [⟨#[112, 117, 115, 104]⟩, ⟨#[108, 111, 97, 100]⟩, ⟨#[115, 116, 111, 114, 101]⟩, ⟨#[97, 100, 100]⟩, ⟨#[115, 117, 98]⟩, ⟨#[109, 117, 108]⟩, ⟨#[100, 105, 118]⟩, ⟨#[109, 111, 100]⟩, ⟨#[110, 101, 103]⟩, ⟨#[108, 116]⟩, ⟨#[101, 113]⟩, ⟨#[97, 110, 100]⟩, ⟨#[111, 114]⟩, ⟨#[120, 111, 114]⟩, ⟨#[115, 104, 108]⟩, ⟨#[115, 104, 114]⟩, ⟨#[100, 117, 112]⟩, ⟨#[100, 114, 111, 112]⟩, ⟨#[106, 117, 109, 112]⟩, ⟨#[122, 101, 114, 111]⟩, ⟨#[99, 97, 108, 108]⟩, ⟨#[114, 101, 116]⟩, ⟨#[115, 101, 108, 102]⟩, ⟨#[110, 111, 119]⟩, ⟨#[111, 117, 116]⟩, ⟨#[121, 105, 101, 108, 100]⟩, ⟨#[119, 97, 105, 116]⟩, ⟨#[119, 97, 105, 116, 102, 111, 114]⟩, ⟨#[115, 108, 101, 101, 112]⟩, ⟨#[117, 110, 108, 111, 99, 107]⟩, ⟨#[112, 111, 115, 116]⟩, ⟨#[103, 105, 118, 101]⟩, ⟨#[99, 119, 97, 105, 116]⟩, ⟨#[99, 119, 97, 105, 116, 102, 111, 114]⟩, ⟨#[115, 105, 103, 110, 97, 108]⟩, ⟨#[98, 114, 111, 97, 100, 99, 97, 115, 116]⟩, ⟨#[101, 110, 114, 111, 108]⟩, ⟨#[108, 101, 97, 118, 101]⟩, ⟨#[97, 114, 114, 105, 118, 101]⟩, ⟨#[97, 114, 114, 105, 118, 101, 102, 111, 114]⟩, ⟨#[115, 112, 97, 119, 110]⟩, ⟨#[106, 111, 105, 110]⟩, ⟨#[106, 111, 105, 110, 102, 111, 114]⟩, ⟨#[103, 114, 97, 110, 116]⟩, ⟨#[119, 97, 105, 118, 101]⟩, ⟨#[114, 101, 97, 100]⟩, ⟨#[119, 114, 105, 116, 101]⟩, ⟨#[98, 101, 103, 105, 110]⟩, ⟨#[99, 111, 109, 109, 105, 116]⟩, ⟨#[99, 108, 97, 105, 109]⟩, ⟨#[100, 101, 97, 100]⟩, ⟨#[109, 101, 110, 100]⟩]
def fm : List ByteArray := [⟨#[110]⟩, ⟨#[107]⟩, ⟨#[107]⟩, ⟨#[]⟩, ⟨#[]⟩, ⟨#[]⟩, ⟨#[]⟩, ⟨#[]⟩, ⟨#[]⟩, ⟨#[]⟩, ⟨#[]⟩, ⟨#[]⟩, ⟨#[]⟩, ⟨#[]⟩, ⟨#[]⟩, ⟨#[]⟩, ⟨#[]⟩, ⟨#[]⟩, ⟨#[116]⟩, ⟨#[116]⟩, ⟨#[102]⟩, ⟨#[]⟩, ⟨#[]⟩, ⟨#[]⟩, ⟨#[]⟩, ⟨#[]⟩, ⟨#[119]⟩, ⟨#[119]⟩, ⟨#[]⟩, ⟨#[117]⟩, ⟨#[115]⟩, ⟨#[112]⟩, ⟨#[99, 109]⟩, ⟨#[99, 109]⟩, ⟨#[99]⟩, ⟨#[99]⟩, ⟨#[98]⟩, ⟨#[98]⟩, ⟨#[98]⟩, ⟨#[98]⟩, ⟨#[102]⟩, ⟨#[106, 106]⟩, ⟨#[106, 106]⟩, ⟨#[]⟩, ⟨#[]⟩, ⟨#[118]⟩, ⟨#[118]⟩, ⟨#[]⟩, ⟨#[]⟩, ⟨#[113]⟩, ⟨#[109]⟩, ⟨#[109]⟩]
def tk : List Int := [0, 0, 1, 2, 2, 2, 2, 2, 1, 2, 2, 2, 2, 2, 2, 2, 1, 1, 0, 1, 0, 1, 0, 0, 1, 0, 0, 1, 1, 0, 1, 1, 0, 1, 0, 0, 0, 0, 0, 1, 2, 0, 1, 2, 1, 0, 1, 0, 0, 1, 0, 0]
def ly : List Int := [1, 1, 0, 1, 1, 1, 1, 1, 1, 1, 1, 1, 1, 1, 1, 1, 2, 0, 0, 0, 1, 0, 1, 1, 1, 0, 1, 1, 1, 1, 1, 1, 1, 1, 1, 1, 1, 1, 1, 1, 1, 1, 1, 1, 1, 2, 1, 1, 1, 1, 1, 1]
/-- What stands in a list of texts at a number; the empty text where nothing does. -/
def txt (l : List ByteArray) (n : Int) : ByteArray := if 0 ≤ n ∧ n ≤ 51 then l.getD n.toNat ⟨#[]⟩ else ⟨#[]⟩
def numb (l : List Int) (n : Int) : Int := if 0 ≤ n ∧ n ≤ 51 then l.getD n.toNat 0 else 0
def same (a b : ByteArray) : Bool := a.toList == b.toList
theorem same_iff {a b : ByteArray} : same a b = true ↔ a = b := by
  unfold same
  rw [beq_iff_eq, ByteArray.toList_eq, ByteArray.toList_eq]
  constructor
  · intro h
    cases a; cases b
    simp only [Array.toList_inj] at h
    rw [h]
  · rintro rfl; rfl
/-- The first number that has this name; 52: none. -/
def idx (s : ByteArray) : Nat := nm.findIdx fun x => same x s
theorem nm_length : nm.length = 52 := rfl
theorem fm_length : fm.length = 52 := rfl
theorem tk_length : tk.length = 52 := rfl
theorem ly_length : ly.length = 52 := rfl
theorem idx_le (s : ByteArray) : idx s ≤ 52 := List.findIdx_le_length
theorem idx_of {s : ByteArray} {k : Nat} (h : k ≤ idx s) (hk : k < 52) (he : same (nm.getD k ⟨#[]⟩) s = true) : idx s = k := by
  have hk' : k < nm.length := hk
  rcases Nat.lt_or_ge k (idx s) with h1 | h1
  · have := List.not_of_lt_findIdx (p := fun x => same x s) (xs := nm) h1
    rw [List.getD_eq_getElem?_getD, List.getElem?_eq_getElem hk', Option.getD_some] at he
    simp [he] at this
  · omega
theorem idx_next {s : ByteArray} {k : Nat} (h : k ≤ idx s) (hk : k < 52) (he : same (nm.getD k ⟨#[]⟩) s = false) : k + 1 ≤ idx s := by
  rcases Nat.eq_or_lt_of_le h with h1 | h1
  · exfalso
    have hl : nm.findIdx (fun x => same x s) < nm.length := by show idx s < 52; omega
    have := List.findIdx_getElem (p := fun x => same x s) (xs := nm) (w := hl)
    have e : nm[nm.findIdx (fun x => same x s)]'hl = nm.getD k ⟨#[]⟩ := by
      rw [List.getD_eq_getElem?_getD, List.getElem?_eq_getElem (show k < nm.length from hk), Option.getD_some]
      congr 1
      exact h1.symm
    rw [e, he] at this
    cases this
  · omega
theorem idx_name : ∀ k, k < 52 → idx (nm.getD k ⟨#[]⟩) = k := by decide +kernel
theorem small : ∀ k, k < 52 → ∀ i, i < (nm.getD k ⟨#[]⟩).data.toList.length → 97 ≤ ((nm.getD k ⟨#[]⟩).data.toList.getD i 0).toNat ∧ ((nm.getD k ⟨#[]⟩).data.toList.getD i 0).toNat ≤ 122 := by decide +kernel
theorem name_size : ∀ k, k < 52 → 0 < (nm.getD k ⟨#[]⟩).size ∧ (nm.getD k ⟨#[]⟩).size ≤ 9 := by decide +kernel
theorem form_size : ∀ k, k < 52 → (fm.getD k ⟨#[]⟩).size ≤ 2 := by decide +kernel
end Go.Proofs.YtnhoeboighndlaaGreatDoor.oper
