/-
  What was put of objects is got again, whatever stands behind; what was got, put, is just the bytes that it had. Plain mathematics; no condition.
-/
import Derived.Test.YtdmcmgcecdgegaaDPlain
namespace Go.Proofs.Ytdmcmgcecdgegaa.objs
open Go.Proofs.Ytdmcmgcecdgegaa.octet (St rdByte rdNum rdInt num zig zag num_back num_once zig_zag zag_zig zig_lt num_length_le dec enc_length_pos rdNum_ok rdByte_ok)
open Go.Proofs.Ytdmcmgcecdgegaa.word (Word)

theorem rdNum_back {n : Nat} (h : n < 18446744073709551616) (more : List UInt8) : rdNum ⟨num n ++ more, 0⟩ = (n, ⟨more, 0⟩) := by
  have hz := num_back h more
  unfold rdNum
  simp only [ne_eq, not_true_eq_false, if_false, hz]
theorem rdN_back {n : Nat} (h : n ≤ 2147483648) (more : List UInt8) : rdN ⟨num n ++ more, 0⟩ = ((n : Int), ⟨more, 0⟩) := by
  unfold rdN
  rw [rdNum_back (by omega)]
  dsimp only
  rw [Nat.min_eq_left h]
theorem rdInt_back {n : Int} (h : Word n) (more : List UInt8) : rdInt ⟨num (zig n) ++ more, 0⟩ = (n, ⟨more, 0⟩) := by
  unfold Word at h
  unfold rdInt
  rw [rdNum_back (zig_lt (by omega) (by omega))]
  dsimp only
  rw [zag_zig]
theorem rdD_back {l : List De} {d : De} (h : one l d = 0) (hl : l.length ≤ 32) (more : List UInt8) : rdD ⟨encD d ++ more, 0⟩ = (d, ⟨more, 0⟩, 0) := by
  obtain ⟨h0, h3, h6, h7, hb, ha⟩ := one_zero h
  obtain ⟨k, a, b⟩ := d
  dsimp only at h0 h3 h6 h7 hb ha
  have hy : rdByte ⟨encD (k, a, b) ++ more, 0⟩ = (k.toNat, ⟨pieceA k a ++ (pieceB k b ++ more), 0⟩) := by
    unfold rdByte encD
    simp only [ne_eq, not_true_eq_false, if_false, List.cons_append, List.append_assoc]
    congr 1
    rw [UInt8.toNat_ofNat']
    omega
  have hA : rdA k.toNat ⟨pieceA k a ++ (pieceB k b ++ more), 0⟩ = (a, ⟨pieceB k b ++ more, 0⟩) := by
    unfold rdA pieceA
    by_cases e : k = 3 ∨ k = 6
    · rw [if_pos (by omega), if_pos e, rdN_back (by omega)]
      congr 1
      omega
    · rw [if_neg (by omega), if_neg e]
      by_cases e7 : k = 7
      · rw [if_pos (by omega), if_pos e7, rdInt_back (h7 e7).1]
      · rw [if_neg (by omega), if_neg e7, ha (by omega) (by omega) e7]
        rfl
  have hB : rdB k.toNat ⟨pieceB k b ++ more, 0⟩ = (b, ⟨more, 0⟩) := by
    unfold rdB pieceB
    by_cases e : k = 3 ∨ k = 7
    · rw [if_pos (by omega), if_pos e]
      have hbb : 0 ≤ b ∧ b ≤ 1000 := by
        rcases e with e | e
        · have := h3 e; omega
        · have := fits_lt (h7 e).2; omega
      rw [rdN_back (by omega)]
      congr 1
      omega
    · rw [if_neg (by omega), if_neg e, hb (by omega) (by omega)]
      rfl
  unfold rdD
  simp only [hy, hA, hB]
  rw [if_neg (by omega)]
  congr 2
  omega
theorem rdL_back {l : List De} (hl : l.length ≤ 32) (h : ∀ j, j < l.length → one l (l.getD j zero) = 0) : ∀ j, j ≤ l.length → ∀ more, rdL ⟨encs l j ++ more, 0⟩ j = (l.take j, ⟨more, 0⟩, 0) := by
  intro j
  induction j with
  | zero => intro _ more; rfl
  | succ j ih =>
    intro hj more
    have h1 := ih (by omega) (encD (l.getD j zero) ++ more)
    have h2 := rdD_back (h j (by omega)) hl more
    simp only [encs, List.append_assoc, rdL]
    rw [h1]
    simp only [h2]
    rw [if_neg (by decide), if_neg (by decide), List.take_add_one, List.getD_eq_getElem?_getD, List.getElem?_eq_getElem (by omega)]
    rfl
theorem back {l : List De} (h : (chk l).2 = 0) (more : List UInt8) : getL (encL l ++ more) = (l, (encL l).length, 0) := by
  obtain ⟨hl, _, hall⟩ := chk_zero h
  have hn : rdN ⟨encL l ++ more, 0⟩ = ((l.length : Int), ⟨encs l l.length ++ more, 0⟩) := by
    unfold encL
    rw [List.append_assoc, rdN_back (by omega)]
  have hL := rdL_back hl hall l.length (Nat.le_refl _) more
  unfold getL readL
  have h32 : ¬ (32 : Int) < (l.length : Int) := by omega
  simp only [hn, Int.toNat_natCast, hL, List.take_length, h, ne_eq, not_true_eq_false, if_false, if_neg h32]
  simp

theorem rdNum_once {l : List UInt8} (h : (rdNum ⟨l, 0⟩).2.err = 0) : l = num (rdNum ⟨l, 0⟩).1 ++ (rdNum ⟨l, 0⟩).2.rest := by
  unfold rdNum at h ⊢
  simp only [ne_eq, not_true_eq_false, if_false] at h ⊢
  exact (num_once (l := l) (v := (dec l 0 0).1) (rest := (dec l 0 0).2.1) (Prod.ext rfl (Prod.ext rfl h))).1
theorem rdN_once {l : List UInt8} (h : (rdN ⟨l, 0⟩).2.err = 0) (hs : (rdN ⟨l, 0⟩).1 < 2147483648) : l = num (rdN ⟨l, 0⟩).1.toNat ++ (rdN ⟨l, 0⟩).2.rest := by
  unfold rdN at h hs ⊢
  dsimp only at h hs ⊢
  have e : ((min (rdNum ⟨l, 0⟩).1 2147483648 : Nat) : Int).toNat = (rdNum ⟨l, 0⟩).1 := by omega
  rw [e]
  exact rdNum_once h
theorem rdInt_once {l : List UInt8} (h : (rdInt ⟨l, 0⟩).2.err = 0) : l = num (zig (rdInt ⟨l, 0⟩).1) ++ (rdInt ⟨l, 0⟩).2.rest := by
  unfold rdInt at h ⊢
  dsimp only at h ⊢
  rw [zig_zag]
  exact rdNum_once h
theorem rdNum_err {s : St} (h : s.err ≠ 0) : (rdNum s).2 = s := by
  unfold rdNum
  rw [if_pos h]
theorem rdB_err {k : Nat} {s : St} (h : s.err ≠ 0) : (rdB k s).2 = s := by
  unfold rdB rdN
  split
  · exact rdNum_err h
  · rfl
theorem rdA_err {k : Nat} {s : St} (h : s.err ≠ 0) : (rdA k s).2 = s := by
  unfold rdA rdN rdInt
  split
  · exact rdNum_err h
  · split
    · exact rdNum_err h
    · rfl
theorem rdD_once {l : List De} {L : List UInt8} (he : (rdD ⟨L, 0⟩).2.2 = 0) (hl : l.length ≤ 32) (h : one l (rdD ⟨L, 0⟩).1 = 0) : L = encD (rdD ⟨L, 0⟩).1 ++ (rdD ⟨L, 0⟩).2.1.rest ∧ (rdD ⟨L, 0⟩).2.1.err = 0 := by
  unfold rdD at he h ⊢
  dsimp only at he h ⊢
  split at he
  · cases he
  · rename_i hc
    rw [if_neg hc] at h ⊢
    dsimp only at he h ⊢
    obtain ⟨x, r, rfl⟩ : ∃ x r, L = x :: r := by
      cases L with
      | nil =>
        exfalso
        have e0 : (rdByte ⟨[], 0⟩).2.err ≠ 0 := by decide
        rw [rdA_err e0, rdB_err e0] at he
        exact e0 he
      | cons x r => exact ⟨x, r, rfl⟩
    have hy : rdByte ⟨x :: r, 0⟩ = (x.toNat, ⟨r, 0⟩) := rfl
    rw [hy] at he h hc ⊢
    dsimp only at he h hc ⊢
    have hA0 : (rdA x.toNat ⟨r, 0⟩).2.err = 0 := by
      rcases Nat.eq_zero_or_pos (rdA x.toNat ⟨r, 0⟩).2.err with e | e
      · exact e
      · rw [rdB_err (by omega)] at he; exact he
    obtain ⟨h0, h3, h6, h7, hb, ha⟩ := one_zero h
    dsimp only at h0 h3 h6 h7 hb ha
    have hA : r = pieceA (x.toNat : Int) (rdA x.toNat ⟨r, 0⟩).1 ++ (rdA x.toNat ⟨r, 0⟩).2.rest := by
      unfold rdA at hA0 h3 h6 h7 ⊢
      unfold pieceA
      by_cases e : x.toNat = 3 ∨ x.toNat = 6
      · rw [if_pos e] at hA0 h3 h6 ⊢
        rw [if_pos (by omega)]
        refine rdN_once hA0 ?_
        rcases e with e | e
        · have := h3 (by omega); omega
        · have := h6 (by omega); omega
      · rw [if_neg e] at hA0 ⊢
        rw [if_neg (by omega)]
        by_cases e7 : x.toNat = 7
        · rw [if_pos e7] at hA0 ⊢
          rw [if_pos (by omega)]
          exact rdInt_once hA0
        · rw [if_neg e7, if_neg (by omega)]
          rfl
    generalize rdA x.toNat ⟨r, 0⟩ = q at *
    obtain ⟨a, R, E⟩ := q
    dsimp only at hA0 hA he h3 h6 h7 hb ha ⊢
    subst hA0
    have hB : R = pieceB (x.toNat : Int) (rdB x.toNat ⟨R, 0⟩).1 ++ (rdB x.toNat ⟨R, 0⟩).2.rest := by
      unfold rdB at he h3 h7 ⊢
      unfold pieceB
      by_cases e : x.toNat = 3 ∨ x.toNat = 7
      · rw [if_pos e] at he h3 h7 ⊢
        rw [if_pos (by omega)]
        refine rdN_once he ?_
        rcases e with e | e
        · have := h3 (by omega); omega
        · have := fits_lt (h7 (by omega)).2; omega
      · rw [if_neg e] at he ⊢
        rw [if_neg (by omega)]
        rfl
    refine ⟨?_, he⟩
    unfold encD
    dsimp only
    rw [Int.toNat_natCast, List.cons_append, List.append_assoc, ← hB, ← hA]
    congr 1
    exact UInt8.ofNat_toNat.symm
theorem rdL_err {s : St} {j : Nat} (h : (rdL s j).2.2 ≠ 0) : ∀ k, j ≤ k → (rdL s k).2.2 ≠ 0 := by
  intro k hk
  induction k with
  | zero =>
    obtain rfl : j = 0 := by omega
    exact h
  | succ k ih =>
    rcases Nat.eq_or_lt_of_le hk with e | e
    · subst e; exact h
    · have := ih (by omega)
      simp only [rdL]
      rw [if_pos this]
      exact this
theorem rdL_length {s : St} : ∀ j, (rdL s j).2.2 = 0 → (rdL s j).1.length = j := by
  intro j
  induction j with
  | zero => intro _; rfl
  | succ j ih =>
    intro h
    simp only [rdL] at h ⊢
    split at h
    · exact absurd h ‹_›
    · rename_i h1
      have := ih (by omega)
      rw [if_neg h1]
      split at h
      · exact absurd h ‹_›
      · rename_i h2
        rw [if_neg h2, List.length_append, this]
        rfl
theorem getD_left {l r : List De} {i : Nat} (h : i < l.length) : (l ++ r).getD i zero = l.getD i zero := by
  rw [List.getD_eq_getElem?_getD, List.getD_eq_getElem?_getD, List.getElem?_append_left h]
theorem getD_last {l : List De} {x : De} {i : Nat} (h : l.length = i) : (l ++ [x]).getD i zero = x := by
  subst h
  rw [List.getD_eq_getElem?_getD, List.getElem?_append_right (Nat.le_refl _), Nat.sub_self]
  rfl
theorem encs_left {l r : List De} : ∀ j, j ≤ l.length → encs (l ++ r) j = encs l j := by
  intro j
  induction j with
  | zero => intro _; rfl
  | succ j ih =>
    intro h
    simp only [encs]
    rw [ih (by omega), getD_left (by omega)]
theorem rdL_once {M : List De} (hM : M.length ≤ 32) : ∀ j (L : List UInt8), (rdL ⟨L, 0⟩ j).2.2 = 0 → (∀ i, i < j → one M ((rdL ⟨L, 0⟩ j).1.getD i zero) = 0) → L = encs (rdL ⟨L, 0⟩ j).1 j ++ (rdL ⟨L, 0⟩ j).2.1.rest ∧ (rdL ⟨L, 0⟩ j).2.1.err = 0 := by
  intro j
  induction j with
  | zero => intro L _ _; exact ⟨rfl, rfl⟩
  | succ j ih =>
    intro L he hall
    have h0 : (rdL ⟨L, 0⟩ j).2.2 = 0 := by
      rcases Nat.eq_zero_or_pos (rdL ⟨L, 0⟩ j).2.2 with h | h
      · exact h
      · exact absurd he (rdL_err (j := j) (by omega) (j + 1) (by omega))
    have hlen := rdL_length j h0
    simp only [rdL] at he hall ⊢
    rw [if_neg (by omega)] at he hall ⊢
    split at he
    · exact absurd he ‹_›
    · rename_i h2
      rw [if_neg h2] at hall ⊢
      dsimp only at he hall ⊢
      have h1 := ih L h0 (fun i hi => by
        have := hall i (by omega)
        rwa [getD_left (by omega)] at this)
      have hj := hall j (by omega)
      rw [getD_last hlen] at hj
      simp only [encs]
      rw [encs_left j (by omega), getD_last hlen]
      generalize rdL ⟨L, 0⟩ j = p at *
      obtain ⟨ls, ⟨R, E⟩, e⟩ := p
      dsimp only at h0 hlen h1 hj h2 ⊢
      obtain ⟨h1, h1e⟩ := h1
      subst h1e
      have h3 := rdD_once (l := M) (L := R) (by omega) hM hj
      refine ⟨?_, h3.2⟩
      rw [List.append_assoc, ← h3.1]
      exact h1
theorem got_bad {l : List UInt8} (h : (getL l).2.2 ≠ 0) : getL l = ([], 0, (getL l).2.2) := by
  unfold getL at h ⊢
  dsimp only at h ⊢
  split
  · rfl
  · rename_i h1
    rw [if_neg h1] at h
    exact absurd rfl h
theorem once {t : List UInt8} (h : (getL t).2.2 = 0) : (chk (getL t).1).2 = 0 ∧ 0 < (getL t).2.1 ∧ (getL t).2.1 ≤ t.length ∧ encL (getL t).1 = t.take (getL t).2.1 := by
  unfold getL readL at h ⊢
  dsimp only at h ⊢
  by_cases h1 : (rdN ⟨t, 0⟩).2.err ≠ 0
  · simp only [if_pos h1] at h; exact absurd h h1
  · simp only [if_neg h1] at h ⊢
    by_cases h2 : 32 < (rdN ⟨t, 0⟩).1
    · simp only [if_pos h2] at h; cases h
    · simp only [if_neg h2] at h ⊢
      have hn := rdN_once (l := t) (by omega) (by omega)
      have hn0 : 0 ≤ (rdN ⟨t, 0⟩).1 := by unfold rdN; dsimp only; omega
      generalize rdN ⟨t, 0⟩ = q at *
      obtain ⟨n, ⟨R, E⟩⟩ := q
      dsimp only at h h1 h2 hn hn0 ⊢
      obtain rfl : E = 0 := by omega
      by_cases h3 : (rdL ⟨R, 0⟩ n.toNat).2.2 ≠ 0
      · simp only [if_pos h3] at h; exact absurd h h3
      · simp only [if_neg h3] at h ⊢
        by_cases h4 : (chk (rdL ⟨R, 0⟩ n.toNat).1).2 ≠ 0
        · simp only [if_pos h4] at h; exact absurd h h4
        · simp only [if_neg h4] at h ⊢
          have hlen := rdL_length n.toNat (by omega : (rdL ⟨R, 0⟩ n.toNat).2.2 = 0)
          obtain ⟨hl, _, hall⟩ := chk_zero (by omega : (chk (rdL ⟨R, 0⟩ n.toNat).1).2 = 0)
          have ho := (rdL_once hl n.toNat R (by omega) (fun i hi => hall i (by omega))).1
          generalize rdL ⟨R, 0⟩ n.toNat = p at *
          obtain ⟨ls, S, e⟩ := p
          dsimp only at h3 h4 hlen hl hall ho ⊢
          have hE : t = encL ls ++ S.rest := by
            unfold encL
            rw [hlen, List.append_assoc, ← ho]
            exact hn
          have hpos : 0 < (encL ls).length := by
            have := enc_length_pos 9 ls.length
            simp only [encL, List.length_append]
            have e : (num ls.length).length = (Go.Proofs.Ytdmcmgcecdgegaa.octet.enc 9 ls.length).length := rfl
            omega
          have hlt : t.length = (encL ls).length + S.rest.length := by rw [hE, List.length_append]
          simp only [ne_eq, not_true_eq_false, if_false]
          refine ⟨by omega, by omega, by omega, ?_⟩
          rw [show t.length - S.rest.length = (encL ls).length from by omega, hE, List.take_left']
          rfl
end Go.Proofs.Ytdmcmgcecdgegaa.objs
