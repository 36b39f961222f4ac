/-
  Texts of one claim in one file: DBack, EBack, Mem, In. Each has its own sentence, with its conditions.
-/
import Derived.Test.YtfkcmdnnmnkklaaDoorEall1
import Derived.OneCell
import Derived.Laws.Rows
import Derived.WalkKit
import Derived.Test.YtfkcmdnnmnkklaaDoorProg
import Derived.Lib.Hide
import Derived.ProofKit
import Derived.BigQuiet
import Derived.Deep.QuietTactic
import Derived.Outline
/-
  What was put of objects is got again, whatever stands behind; what was got, put, is just the bytes that it had. Plain mathematics; no condition.
-/
namespace Go.Proofs.YtfkcmdnnmnkklaaDoor.objs
open Go.Proofs.YtfkcmdnnmnkklaaDoor.octet (St rdByte rdNum rdInt num zig zag num_back num_once zig_zag zag_zig zig_lt num_length_le dec enc_length_pos rdNum_ok rdByte_ok)
open Go.Proofs.YtfkcmdnnmnkklaaDoor.word (Word)

theorem rdNum_back {n : Nat} (h : n < 18446744073709551616) (more : List UInt8) : rdNum ⟨num n ++ more, 0⟩ = (n, ⟨more, 0⟩) := by
  have hz := num_back h more
  unfold rdNum
  simp only [ne_eq, not_true_eq_false, if_false, hz]
theorem rdN_back {n : Nat} (h : n ≤ 2147483648) (more : List UInt8) : rdN ⟨num n ++ more, 0⟩ = ((n : Int), ⟨more, 0⟩) := by
  unfold rdN
  rw [rdNum_back (by omega)]
  dsimp only
  rw [Nat.min_eq_left h]
theorem rdInt_back {n : Int} (h : Word n) (more : List UInt8) : rdInt ⟨num (zig n) ++ more, 0⟩ = (n, ⟨more, 0⟩) := by
  unfold Word at h
  unfold rdInt
  rw [rdNum_back (zig_lt (by omega) (by omega))]
  dsimp only
  rw [zag_zig]
theorem rdD_back {l : List De} {d : De} (h : one l d = 0) (hl : l.length ≤ 32) (more : List UInt8) : rdD ⟨encD d ++ more, 0⟩ = (d, ⟨more, 0⟩, 0) := by
  obtain ⟨h0, h3, h6, h7, hb, ha⟩ := one_zero h
  obtain ⟨k, a, b⟩ := d
  dsimp only at h0 h3 h6 h7 hb ha
  have hy : rdByte ⟨encD (k, a, b) ++ more, 0⟩ = (k.toNat, ⟨pieceA k a ++ (pieceB k b ++ more), 0⟩) := by
    unfold rdByte encD
    simp only [ne_eq, not_true_eq_false, if_false, List.cons_append, List.append_assoc]
    congr 1
    rw [UInt8.toNat_ofNat']
    omega
  have hA : rdA k.toNat ⟨pieceA k a ++ (pieceB k b ++ more), 0⟩ = (a, ⟨pieceB k b ++ more, 0⟩) := by
    unfold rdA pieceA
    by_cases e : k = 3 ∨ k = 6
    · rw [if_pos (by omega), if_pos e, rdN_back (by omega)]
      congr 1
      omega
    · rw [if_neg (by omega), if_neg e]
      by_cases e7 : k = 7
      · rw [if_pos (by omega), if_pos e7, rdInt_back (h7 e7).1]
      · rw [if_neg (by omega), if_neg e7, ha (by omega) (by omega) e7]
        rfl
  have hB : rdB k.toNat ⟨pieceB k b ++ more, 0⟩ = (b, ⟨more, 0⟩) := by
    unfold rdB pieceB
    by_cases e : k = 3 ∨ k = 7
    · rw [if_pos (by omega), if_pos e]
      have hbb : 0 ≤ b ∧ b ≤ 1000 := by
        rcases e with e | e
        · have := h3 e; omega
        · have := fits_lt (h7 e).2; omega
      rw [rdN_back (by omega)]
      congr 1
      omega
    · rw [if_neg (by omega), if_neg e, hb (by omega) (by omega)]
      rfl
  unfold rdD
  simp only [hy, hA, hB]
  rw [if_neg (by omega)]
  congr 2
  omega
theorem rdL_back {l : List De} (hl : l.length ≤ 32) (h : ∀ j, j < l.length → one l (l.getD j zero) = 0) : ∀ j, j ≤ l.length → ∀ more, rdL ⟨encs l j ++ more, 0⟩ j = (l.take j, ⟨more, 0⟩, 0) := by
  intro j
  induction j with
  | zero => intro _ more; rfl
  | succ j ih =>
    intro hj more
    have h1 := ih (by omega) (encD (l.getD j zero) ++ more)
    have h2 := rdD_back (h j (by omega)) hl more
    simp only [encs, List.append_assoc, rdL]
    rw [h1]
    simp only [h2]
    rw [if_neg (by decide), if_neg (by decide), List.take_add_one, List.getD_eq_getElem?_getD, List.getElem?_eq_getElem (by omega)]
    rfl
theorem back {l : List De} (h : (chk l).2 = 0) (more : List UInt8) : getL (encL l ++ more) = (l, (encL l).length, 0) := by
  obtain ⟨hl, _, hall⟩ := chk_zero h
  have hn : rdN ⟨encL l ++ more, 0⟩ = ((l.length : Int), ⟨encs l l.length ++ more, 0⟩) := by
    unfold encL
    rw [List.append_assoc, rdN_back (by omega)]
  have hL := rdL_back hl hall l.length (Nat.le_refl _) more
  unfold getL readL
  have h32 : ¬ (32 : Int) < (l.length : Int) := by omega
  simp only [hn, Int.toNat_natCast, hL, List.take_length, h, ne_eq, not_true_eq_false, if_false, if_neg h32]
  simp

theorem rdNum_once {l : List UInt8} (h : (rdNum ⟨l, 0⟩).2.err = 0) : l = num (rdNum ⟨l, 0⟩).1 ++ (rdNum ⟨l, 0⟩).2.rest := by
  unfold rdNum at h ⊢
  simp only [ne_eq, not_true_eq_false, if_false] at h ⊢
  exact (num_once (l := l) (v := (dec l 0 0).1) (rest := (dec l 0 0).2.1) (Prod.ext rfl (Prod.ext rfl h))).1
theorem rdN_once {l : List UInt8} (h : (rdN ⟨l, 0⟩).2.err = 0) (hs : (rdN ⟨l, 0⟩).1 < 2147483648) : l = num (rdN ⟨l, 0⟩).1.toNat ++ (rdN ⟨l, 0⟩).2.rest := by
  unfold rdN at h hs ⊢
  dsimp only at h hs ⊢
  have e : ((min (rdNum ⟨l, 0⟩).1 2147483648 : Nat) : Int).toNat = (rdNum ⟨l, 0⟩).1 := by omega
  rw [e]
  exact rdNum_once h
theorem rdInt_once {l : List UInt8} (h : (rdInt ⟨l, 0⟩).2.err = 0) : l = num (zig (rdInt ⟨l, 0⟩).1) ++ (rdInt ⟨l, 0⟩).2.rest := by
  unfold rdInt at h ⊢
  dsimp only at h ⊢
  rw [zig_zag]
  exact rdNum_once h
theorem rdNum_err {s : St} (h : s.err ≠ 0) : (rdNum s).2 = s := by
  unfold rdNum
  rw [if_pos h]
theorem rdB_err {k : Nat} {s : St} (h : s.err ≠ 0) : (rdB k s).2 = s := by
  unfold rdB rdN
  split
  · exact rdNum_err h
  · rfl
theorem rdA_err {k : Nat} {s : St} (h : s.err ≠ 0) : (rdA k s).2 = s := by
  unfold rdA rdN rdInt
  split
  · exact rdNum_err h
  · split
    · exact rdNum_err h
    · rfl
theorem rdD_once {l : List De} {L : List UInt8} (he : (rdD ⟨L, 0⟩).2.2 = 0) (hl : l.length ≤ 32) (h : one l (rdD ⟨L, 0⟩).1 = 0) : L = encD (rdD ⟨L, 0⟩).1 ++ (rdD ⟨L, 0⟩).2.1.rest ∧ (rdD ⟨L, 0⟩).2.1.err = 0 := by
  unfold rdD at he h ⊢
  dsimp only at he h ⊢
  split at he
  · cases he
  · rename_i hc
    rw [if_neg hc] at h ⊢
    dsimp only at he h ⊢
    obtain ⟨x, r, rfl⟩ : ∃ x r, L = x :: r := by
      cases L with
      | nil =>
        exfalso
        have e0 : (rdByte ⟨[], 0⟩).2.err ≠ 0 := by decide
        rw [rdA_err e0, rdB_err e0] at he
        exact e0 he
      | cons x r => exact ⟨x, r, rfl⟩
    have hy : rdByte ⟨x :: r, 0⟩ = (x.toNat, ⟨r, 0⟩) := rfl
    rw [hy] at he h hc ⊢
    dsimp only at he h hc ⊢
    have hA0 : (rdA x.toNat ⟨r, 0⟩).2.err = 0 := by
      rcases Nat.eq_zero_or_pos (rdA x.toNat ⟨r, 0⟩).2.err with e | e
      · exact e
      · rw [rdB_err (by omega)] at he; exact he
    obtain ⟨h0, h3, h6, h7, hb, ha⟩ := one_zero h
    dsimp only at h0 h3 h6 h7 hb ha
    have hA : r = pieceA (x.toNat : Int) (rdA x.toNat ⟨r, 0⟩).1 ++ (rdA x.toNat ⟨r, 0⟩).2.rest := by
      unfold rdA at hA0 h3 h6 h7 ⊢
      unfold pieceA
      by_cases e : x.toNat = 3 ∨ x.toNat = 6
      · rw [if_pos e] at hA0 h3 h6 ⊢
        rw [if_pos (by omega)]
        refine rdN_once hA0 ?_
        rcases e with e | e
        · have := h3 (by omega); omega
        · have := h6 (by omega); omega
      · rw [if_neg e] at hA0 ⊢
        rw [if_neg (by omega)]
        by_cases e7 : x.toNat = 7
        · rw [if_pos e7] at hA0 ⊢
          rw [if_pos (by omega)]
          exact rdInt_once hA0
        · rw [if_neg e7, if_neg (by omega)]
          rfl
    generalize rdA x.toNat ⟨r, 0⟩ = q at *
    obtain ⟨a, R, E⟩ := q
    dsimp only at hA0 hA he h3 h6 h7 hb ha ⊢
    subst hA0
    have hB : R = pieceB (x.toNat : Int) (rdB x.toNat ⟨R, 0⟩).1 ++ (rdB x.toNat ⟨R, 0⟩).2.rest := by
      unfold rdB at he h3 h7 ⊢
      unfold pieceB
      by_cases e : x.toNat = 3 ∨ x.toNat = 7
      · rw [if_pos e] at he h3 h7 ⊢
        rw [if_pos (by omega)]
        refine rdN_once he ?_
        rcases e with e | e
        · have := h3 (by omega); omega
        · have := fits_lt (h7 (by omega)).2; omega
      · rw [if_neg e] at he ⊢
        rw [if_neg (by omega)]
        rfl
    refine ⟨?_, he⟩
    unfold encD
    dsimp only
    rw [Int.toNat_natCast, List.cons_append, List.append_assoc, ← hB, ← hA]
    congr 1
    exact UInt8.ofNat_toNat.symm
theorem rdL_err {s : St} {j : Nat} (h : (rdL s j).2.2 ≠ 0) : ∀ k, j ≤ k → (rdL s k).2.2 ≠ 0 := by
  intro k hk
  induction k with
  | zero =>
    obtain rfl : j = 0 := by omega
    exact h
  | succ k ih =>
    rcases Nat.eq_or_lt_of_le hk with e | e
    · subst e; exact h
    · have := ih (by omega)
      simp only [rdL]
      rw [if_pos this]
      exact this
theorem rdL_length {s : St} : ∀ j, (rdL s j).2.2 = 0 → (rdL s j).1.length = j := by
  intro j
  induction j with
  | zero => intro _; rfl
  | succ j ih =>
    intro h
    simp only [rdL] at h ⊢
    split at h
    · exact absurd h ‹_›
    · rename_i h1
      have := ih (by omega)
      rw [if_neg h1]
      split at h
      · exact absurd h ‹_›
      · rename_i h2
        rw [if_neg h2, List.length_append, this]
        rfl
theorem getD_left {l r : List De} {i : Nat} (h : i < l.length) : (l ++ r).getD i zero = l.getD i zero := by
  rw [List.getD_eq_getElem?_getD, List.getD_eq_getElem?_getD, List.getElem?_append_left h]
theorem getD_last {l : List De} {x : De} {i : Nat} (h : l.length = i) : (l ++ [x]).getD i zero = x := by
  subst h
  rw [List.getD_eq_getElem?_getD, List.getElem?_append_right (Nat.le_refl _), Nat.sub_self]
  rfl
theorem encs_left {l r : List De} : ∀ j, j ≤ l.length → encs (l ++ r) j = encs l j := by
  intro j
  induction j with
  | zero => intro _; rfl
  | succ j ih =>
    intro h
    simp only [encs]
    rw [ih (by omega), getD_left (by omega)]
theorem rdL_once {M : List De} (hM : M.length ≤ 32) : ∀ j (L : List UInt8), (rdL ⟨L, 0⟩ j).2.2 = 0 → (∀ i, i < j → one M ((rdL ⟨L, 0⟩ j).1.getD i zero) = 0) → L = encs (rdL ⟨L, 0⟩ j).1 j ++ (rdL ⟨L, 0⟩ j).2.1.rest ∧ (rdL ⟨L, 0⟩ j).2.1.err = 0 := by
  intro j
  induction j with
  | zero => intro L _ _; exact ⟨rfl, rfl⟩
  | succ j ih =>
    intro L he hall
    have h0 : (rdL ⟨L, 0⟩ j).2.2 = 0 := by
      rcases Nat.eq_zero_or_pos (rdL ⟨L, 0⟩ j).2.2 with h | h
      · exact h
      · exact absurd he (rdL_err (j := j) (by omega) (j + 1) (by omega))
    have hlen := rdL_length j h0
    simp only [rdL] at he hall ⊢
    rw [if_neg (by omega)] at he hall ⊢
    split at he
    · exact absurd he ‹_›
    · rename_i h2
      rw [if_neg h2] at hall ⊢
      dsimp only at he hall ⊢
      have h1 := ih L h0 (fun i hi => by
        have := hall i (by omega)
        rwa [getD_left (by omega)] at this)
      have hj := hall j (by omega)
      rw [getD_last hlen] at hj
      simp only [encs]
      rw [encs_left j (by omega), getD_last hlen]
      generalize rdL ⟨L, 0⟩ j = p at *
      obtain ⟨ls, ⟨R, E⟩, e⟩ := p
      dsimp only at h0 hlen h1 hj h2 ⊢
      obtain ⟨h1, h1e⟩ := h1
      subst h1e
      have h3 := rdD_once (l := M) (L := R) (by omega) hM hj
      refine ⟨?_, h3.2⟩
      rw [List.append_assoc, ← h3.1]
      exact h1
theorem got_bad {l : List UInt8} (h : (getL l).2.2 ≠ 0) : getL l = ([], 0, (getL l).2.2) := by
  unfold getL at h ⊢
  dsimp only at h ⊢
  split
  · rfl
  · rename_i h1
    rw [if_neg h1] at h
    exact absurd rfl h
theorem once {t : List UInt8} (h : (getL t).2.2 = 0) : (chk (getL t).1).2 = 0 ∧ 0 < (getL t).2.1 ∧ (getL t).2.1 ≤ t.length ∧ encL (getL t).1 = t.take (getL t).2.1 := by
  unfold getL readL at h ⊢
  dsimp only at h ⊢
  by_cases h1 : (rdN ⟨t, 0⟩).2.err ≠ 0
  · simp only [if_pos h1] at h; exact absurd h h1
  · simp only [if_neg h1] at h ⊢
    by_cases h2 : 32 < (rdN ⟨t, 0⟩).1
    · simp only [if_pos h2] at h; cases h
    · simp only [if_neg h2] at h ⊢
      have hn := rdN_once (l := t) (by omega) (by omega)
      have hn0 : 0 ≤ (rdN ⟨t, 0⟩).1 := by unfold rdN; dsimp only; omega
      generalize rdN ⟨t, 0⟩ = q at *
      obtain ⟨n, ⟨R, E⟩⟩ := q
      dsimp only at h h1 h2 hn hn0 ⊢
      obtain rfl : E = 0 := by omega
      by_cases h3 : (rdL ⟨R, 0⟩ n.toNat).2.2 ≠ 0
      · simp only [if_pos h3] at h; exact absurd h h3
      · simp only [if_neg h3] at h ⊢
        by_cases h4 : (chk (rdL ⟨R, 0⟩ n.toNat).1).2 ≠ 0
        · simp only [if_pos h4] at h; exact absurd h h4
        · simp only [if_neg h4] at h ⊢
          have hlen := rdL_length n.toNat (by omega : (rdL ⟨R, 0⟩ n.toNat).2.2 = 0)
          obtain ⟨hl, _, hall⟩ := chk_zero (by omega : (chk (rdL ⟨R, 0⟩ n.toNat).1).2 = 0)
          have ho := (rdL_once hl n.toNat R (by omega) (fun i hi => hall i (by omega))).1
          generalize rdL ⟨R, 0⟩ n.toNat = p at *
          obtain ⟨ls, S, e⟩ := p
          dsimp only at h3 h4 hlen hl hall ho ⊢
          have hE : t = encL ls ++ S.rest := by
            unfold encL
            rw [hlen, List.append_assoc, ← ho]
            exact hn
          have hpos : 0 < (encL ls).length := by
            have := enc_length_pos 9 ls.length
            simp only [encL, List.length_append]
            have e : (num ls.length).length = (Go.Proofs.YtfkcmdnnmnkklaaDoor.octet.enc 9 ls.length).length := rfl
            omega
          have hlt : t.length = (encL ls).length + S.rest.length := by rw [hE, List.length_append]
          simp only [ne_eq, not_true_eq_false, if_false]
          refine ⟨by omega, by omega, by omega, ?_⟩
          rw [show t.length - S.rest.length = (encL ls).length from by omega, hE, List.take_left']
          rfl
end Go.Proofs.YtfkcmdnnmnkklaaDoor.objs

/-
  What was put of a wait is got again, whatever stands behind; what was got, put, is just the bytes that it had. Plain mathematics; no condition.
-/
namespace Go.Proofs.YtfkcmdnnmnkklaaDoor.need
open Go.Proofs.YtfkcmdnnmnkklaaDoor.octet (St rdByte rdNum num num_length_le enc_length_pos)
open Go.Proofs.YtfkcmdnnmnkklaaDoor.objs (De zero rdN chk chk_zero one one_zero rdNum_back rdN_back rdNum_once rdN_once rdNum_err getD_left getD_last)
set_option linter.unusedVariables false

/-- Of objects that may be: a need that may be has numbers up to a thousand. -/
theorem need_small {d : List De} {n : De} (hd : (chk d).2 = 0) (h : oneN d n = 0) : (1 ≤ n.1 ∧ n.1 ≤ 5) ∧ (0 ≤ n.2.1 ∧ n.2.1 < 32) ∧ (n.1 ≤ 3 → n.2.2 = 0) ∧ 0 ≤ n.2.2 ∧ n.2.2 ≤ 1000 := by
  obtain ⟨h1, h2, h3, h4, h5⟩ := oneN_zero h
  obtain ⟨hl, _, hall⟩ := chk_zero hd
  refine ⟨h1, by omega, h3, h4, ?_⟩
  have hk : (d.getD n.2.1.toNat zero).1 = kn n.1 := by
    unfold oneN at h
    split at h
    · cases h
    · split at h
      · cases h
      · rename_i _ h6
        exact Classical.byContradiction fun h7 => h6 (.inr (.inr h7))
  obtain ⟨_, g3, g6, _, _, _⟩ := one_zero (hall n.2.1.toNat (by omega))
  unfold hi at h5
  by_cases e4 : n.1 = 4
  · rw [if_pos e4] at h5
    have := g3 (by rw [hk]; unfold kn; rw [e4]; decide)
    omega
  · rw [if_neg e4] at h5
    by_cases e5 : n.1 = 5
    · rw [if_pos e5] at h5
      have := g6 (by rw [hk]; unfold kn; rw [e5]; decide)
      omega
    · rw [if_neg e5] at h5
      omega

theorem rdNeed_back {d : List De} {n : De} (hd : (chk d).2 = 0) (h : oneN d n = 0) (more : List UInt8) : rdNeed ⟨encN n ++ more, 0⟩ = (n, ⟨more, 0⟩, 0) := by
  obtain ⟨h1, h2, h3, h4, h5⟩ := need_small hd h
  obtain ⟨k, o, m⟩ := n
  dsimp only at h1 h2 h3 h4 h5
  have hy : rdByte ⟨encN (k, o, m) ++ more, 0⟩ = (k.toNat, ⟨num o.toNat ++ (pieceN k m ++ more), 0⟩) := by
    unfold rdByte encN
    simp only [ne_eq, not_true_eq_false, if_false, List.cons_append, List.append_assoc]
    congr 1
    rw [UInt8.toNat_ofNat']
    omega
  have hA : rdN ⟨num o.toNat ++ (pieceN k m ++ more), 0⟩ = (o, ⟨pieceN k m ++ more, 0⟩) := by
    rw [rdN_back (by omega)]
    congr 1
    omega
  have hB : rdC k.toNat ⟨pieceN k m ++ more, 0⟩ = (m, ⟨more, 0⟩) := by
    unfold rdC pieceN
    by_cases e : 3 < k
    · rw [if_pos (by omega), if_pos e, rdN_back (by omega)]
      congr 1
      omega
    · rw [if_neg (by omega), if_neg e, h3 (by omega)]
      rfl
  unfold rdNeed
  simp only [hy, hA, hB]
  rw [if_neg (by omega)]
  congr 2
  omega
theorem rdNeeds_back {d l : List De} (hd : (chk d).2 = 0) (h : ∀ n ∈ l, oneN d n = 0) : ∀ j, j ≤ l.length → ∀ more, rdNeeds ⟨encNs l j ++ more, 0⟩ j = (l.take j, ⟨more, 0⟩, 0) := by
  intro j
  induction j with
  | zero => intro _ more; rfl
  | succ j ih =>
    intro hj more
    have h1 := ih (by omega) (encN (l.getD j zero) ++ more)
    have h2 := rdNeed_back hd (h _ (getD_mem (l := l) (k := j) (by omega))) more
    simp only [encNs, List.append_assoc, rdNeeds]
    rw [h1]
    simp only [h2]
    rw [if_neg (by decide), if_neg (by decide), List.take_add_one, List.getD_eq_getElem?_getD, List.getElem?_eq_getElem (by omega)]
    rfl
theorem rdWay_back {d l : List De} (hd : (chk d).2 = 0) (hl : l.length ≤ 4) (h : ∀ n ∈ l, oneN d n = 0) (more : List UInt8) : rdWay ⟨encWay l ++ more, 0⟩ = (l, ⟨more, 0⟩, 0) := by
  have hn : rdNum ⟨encWay l ++ more, 0⟩ = (l.length, ⟨encNs l l.length ++ more, 0⟩) := by
    unfold encWay
    rw [List.append_assoc, rdNum_back (by omega)]
  unfold rdWay
  simp only [hn]
  rw [if_neg (by omega), if_neg (by decide), rdNeeds_back hd h l.length (Nat.le_refl _) more, List.take_length]
theorem rdWays_back {d : List De} {w : List (List De)} (hd : (chk d).2 = 0) (h : ∀ l ∈ w, l.length ≤ 4 ∧ ∀ n ∈ l, oneN d n = 0) : ∀ j, j ≤ w.length → ∀ more, rdWays ⟨encWs w j ++ more, 0⟩ j = (w.take j, ⟨more, 0⟩, 0) := by
  intro j
  induction j with
  | zero => intro _ more; rfl
  | succ j ih =>
    intro hj more
    have h1 := ih (by omega) (encWay (w.getD j []) ++ more)
    have hm := h _ (getW_mem (w := w) (k := j) (by omega))
    have h2 := rdWay_back hd hm.1 hm.2 more
    simp only [encWs, List.append_assoc, rdWays]
    rw [h1]
    simp only [h2]
    rw [if_neg (by decide), if_neg (by decide), List.take_add_one, List.getD_eq_getElem?_getD, List.getElem?_eq_getElem (by omega)]
    rfl
theorem back {d : List De} {w : List (List De)} (hd : (chk d).2 = 0) (h : chkW d w = 0) (more : List UInt8) : getW d (encW w ++ more) = (w, (encW w).length, 0) := by
  obtain ⟨h0, h4, hall⟩ := chkW_zero h
  have hn : rdNum ⟨encW w ++ more, 0⟩ = (w.length, ⟨encWs w w.length ++ more, 0⟩) := by
    unfold encW
    rw [List.append_assoc, rdNum_back (by omega)]
  have hL := rdWays_back hd (fun l hl => (hall l hl).2) w.length (Nat.le_refl _) more
  unfold getW readW
  have h44 : ¬ 4 < w.length := by omega
  simp only [hn, hL, List.take_length, h, ne_eq, not_true_eq_false, if_false, if_neg h44]
  simp

theorem rdC_err {k : Nat} {s : St} (h : s.err ≠ 0) : (rdC k s).2 = s := by
  unfold rdC rdN
  split
  · exact rdNum_err h
  · rfl
theorem rdNeed_once {d : List De} {L : List UInt8} (hd : (chk d).2 = 0) (he : (rdNeed ⟨L, 0⟩).2.2 = 0) (h : oneN d (rdNeed ⟨L, 0⟩).1 = 0) : L = encN (rdNeed ⟨L, 0⟩).1 ++ (rdNeed ⟨L, 0⟩).2.1.rest ∧ (rdNeed ⟨L, 0⟩).2.1.err = 0 := by
  obtain ⟨h1, h2, h3, h4, h5⟩ := need_small hd h
  unfold rdNeed at he h1 h2 h3 h4 h5 ⊢
  dsimp only at he h1 h2 h3 h4 h5 ⊢
  split at he
  · cases he
  · rename_i hc
    rw [if_neg hc] at h1 h2 h3 h4 h5 ⊢
    dsimp only at he h1 h2 h3 h4 h5 ⊢
    obtain ⟨x, r, rfl⟩ : ∃ x r, L = x :: r := by
      cases L with
      | nil =>
        exfalso
        have e0 : (rdByte ⟨[], 0⟩).2.err ≠ 0 := by decide
        have e1 : (rdN (rdByte ⟨[], 0⟩).2).2 = (rdByte ⟨[], 0⟩).2 := rdNum_err e0
        rw [e1, rdC_err e0] at he
        exact e0 he
      | cons x r => exact ⟨x, r, rfl⟩
    have hy : rdByte ⟨x :: r, 0⟩ = (x.toNat, ⟨r, 0⟩) := rfl
    rw [hy] at he h1 h2 h3 h4 h5 hc ⊢
    dsimp only at he h1 h2 h3 h4 h5 hc ⊢
    have hA0 : (rdN ⟨r, 0⟩).2.err = 0 := by
      rcases Nat.eq_zero_or_pos (rdN ⟨r, 0⟩).2.err with e | e
      · exact e
      · rw [rdC_err (by omega)] at he; exact he
    have hA := rdN_once hA0 (by omega)
    generalize rdN ⟨r, 0⟩ = q at *
    obtain ⟨o, R, E⟩ := q
    dsimp only at hA0 hA he h2 h3 h4 h5 ⊢
    subst hA0
    have hB : R = pieceN (x.toNat : Int) (rdC x.toNat ⟨R, 0⟩).1 ++ (rdC x.toNat ⟨R, 0⟩).2.rest := by
      unfold rdC at he h4 h5 ⊢
      unfold pieceN
      by_cases e : 3 < x.toNat
      · rw [if_pos e] at he h4 h5 ⊢
        rw [if_pos (by omega)]
        exact rdN_once he (by omega)
      · rw [if_neg e] at he ⊢
        rw [if_neg (by omega)]
        rfl
    refine ⟨?_, he⟩
    unfold encN
    dsimp only
    rw [Int.toNat_natCast, List.cons_append, List.append_assoc, ← hB, ← hA]
    congr 1
    exact UInt8.ofNat_toNat.symm
theorem rdNeeds_err {s : St} {j : Nat} (h : (rdNeeds s j).2.2 ≠ 0) : ∀ k, j ≤ k → rdNeeds s k = rdNeeds s j := by
  intro k hk
  induction k with
  | zero =>
    obtain rfl : j = 0 := by omega
    rfl
  | succ k ih =>
    rcases Nat.eq_or_lt_of_le hk with e | e
    · subst e; rfl
    · have := ih (by omega)
      simp only [rdNeeds]
      rw [this, if_pos h]
theorem rdWays_err {s : St} {j : Nat} (h : (rdWays s j).2.2 ≠ 0) : ∀ k, j ≤ k → rdWays s k = rdWays s j := by
  intro k hk
  induction k with
  | zero =>
    obtain rfl : j = 0 := by omega
    rfl
  | succ k ih =>
    rcases Nat.eq_or_lt_of_le hk with e | e
    · subst e; rfl
    · have := ih (by omega)
      simp only [rdWays]
      rw [this, if_pos h]
theorem rdNeeds_length {s : St} : ∀ j, (rdNeeds s j).2.2 = 0 → (rdNeeds s j).1.length = j := by
  intro j
  induction j with
  | zero => intro _; rfl
  | succ j ih =>
    intro h
    simp only [rdNeeds] at h ⊢
    split at h
    · exact absurd h ‹_›
    · rename_i h1
      have := ih (by omega)
      rw [if_neg h1]
      split at h
      · exact absurd h ‹_›
      · rename_i h2
        rw [if_neg h2, List.length_append, this]
        rfl
theorem rdWays_length {s : St} : ∀ j, (rdWays s j).2.2 = 0 → (rdWays s j).1.length = j := by
  intro j
  induction j with
  | zero => intro _; rfl
  | succ j ih =>
    intro h
    simp only [rdWays] at h ⊢
    split at h
    · exact absurd h ‹_›
    · rename_i h1
      have := ih (by omega)
      rw [if_neg h1]
      split at h
      · exact absurd h ‹_›
      · rename_i h2
        rw [if_neg h2, List.length_append, this]
        rfl
theorem encNs_left {l r : List De} : ∀ j, j ≤ l.length → encNs (l ++ r) j = encNs l j := by
  intro j
  induction j with
  | zero => intro _; rfl
  | succ j ih =>
    intro h
    simp only [encNs]
    rw [ih (by omega), getD_left (by omega)]
theorem getW_left {l r : List (List De)} {i : Nat} (h : i < l.length) : (l ++ r).getD i [] = l.getD i [] := by
  rw [List.getD_eq_getElem?_getD, List.getD_eq_getElem?_getD, List.getElem?_append_left h]
theorem getW_last {l : List (List De)} {x : List De} {i : Nat} (h : l.length = i) : (l ++ [x]).getD i [] = x := by
  subst h
  rw [List.getD_eq_getElem?_getD, List.getElem?_append_right (Nat.le_refl _), Nat.sub_self]
  rfl
theorem encWs_left {l r : List (List De)} : ∀ j, j ≤ l.length → encWs (l ++ r) j = encWs l j := by
  intro j
  induction j with
  | zero => intro _; rfl
  | succ j ih =>
    intro h
    simp only [encWs]
    rw [ih (by omega), getW_left (by omega)]
theorem rdNeeds_once {d : List De} (hd : (chk d).2 = 0) : ∀ j (L : List UInt8), (rdNeeds ⟨L, 0⟩ j).2.2 = 0 → (∀ n ∈ (rdNeeds ⟨L, 0⟩ j).1, oneN d n = 0) → L = encNs (rdNeeds ⟨L, 0⟩ j).1 j ++ (rdNeeds ⟨L, 0⟩ j).2.1.rest ∧ (rdNeeds ⟨L, 0⟩ j).2.1.err = 0 := by
  intro j
  induction j with
  | zero => intro L _ _; exact ⟨rfl, rfl⟩
  | succ j ih =>
    intro L he hall
    have h0 : (rdNeeds ⟨L, 0⟩ j).2.2 = 0 := by
      rcases Nat.eq_zero_or_pos (rdNeeds ⟨L, 0⟩ j).2.2 with h | h
      · exact h
      · rw [rdNeeds_err (j := j) (by omega) (j + 1) (by omega)] at he
        omega
    have hlen := rdNeeds_length j h0
    simp only [rdNeeds] at he hall ⊢
    rw [if_neg (by omega)] at he hall ⊢
    split at he
    · exact absurd he ‹_›
    · rename_i h2
      rw [if_neg h2] at hall ⊢
      dsimp only at he hall ⊢
      have h1 := ih L h0 (fun n hn => hall n (List.mem_append_left _ hn))
      have hj := hall (rdNeed (rdNeeds ⟨L, 0⟩ j).2.1).1 (List.mem_append_right _ (List.mem_singleton.2 rfl))
      simp only [encNs]
      rw [encNs_left j (by omega), getD_last hlen]
      generalize rdNeeds ⟨L, 0⟩ j = p at *
      obtain ⟨ls, ⟨R, E⟩, e⟩ := p
      dsimp only at h0 hlen h1 hj h2 ⊢
      obtain ⟨h1, h1e⟩ := h1
      subst h1e
      have h3 := rdNeed_once (d := d) (L := R) hd (by omega) hj
      refine ⟨?_, h3.2⟩
      rw [List.append_assoc, ← h3.1]
      exact h1
theorem rdWay_once {d : List De} {L : List UInt8} (hd : (chk d).2 = 0) (he : (rdWay ⟨L, 0⟩).2.2 = 0) (h : ∀ n ∈ (rdWay ⟨L, 0⟩).1, oneN d n = 0) : L = encWay (rdWay ⟨L, 0⟩).1 ++ (rdWay ⟨L, 0⟩).2.1.rest ∧ (rdWay ⟨L, 0⟩).2.1.err = 0 := by
  unfold rdWay at he h ⊢
  split at he
  · cases he
  · rename_i h1
    rw [if_neg h1] at h ⊢
    split at he
    · exact absurd he ‹_›
    · rename_i h2
      rw [if_neg h2] at h ⊢
      have hn := rdNum_once (l := L) (by omega)
      generalize rdNum ⟨L, 0⟩ = q at *
      obtain ⟨n, ⟨R, E⟩⟩ := q
      dsimp only at he h h1 h2 hn ⊢
      obtain rfl : E = 0 := by omega
      have h3 := rdNeeds_once hd n R he h
      have hlen := rdNeeds_length n he
      refine ⟨?_, h3.2⟩
      unfold encWay
      rw [hlen, List.append_assoc, ← h3.1]
      exact hn
theorem rdWays_once {d : List De} (hd : (chk d).2 = 0) : ∀ j (L : List UInt8), (rdWays ⟨L, 0⟩ j).2.2 = 0 → (∀ l ∈ (rdWays ⟨L, 0⟩ j).1, ∀ n ∈ l, oneN d n = 0) → L = encWs (rdWays ⟨L, 0⟩ j).1 j ++ (rdWays ⟨L, 0⟩ j).2.1.rest ∧ (rdWays ⟨L, 0⟩ j).2.1.err = 0 := by
  intro j
  induction j with
  | zero => intro L _ _; exact ⟨rfl, rfl⟩
  | succ j ih =>
    intro L he hall
    have h0 : (rdWays ⟨L, 0⟩ j).2.2 = 0 := by
      rcases Nat.eq_zero_or_pos (rdWays ⟨L, 0⟩ j).2.2 with h | h
      · exact h
      · rw [rdWays_err (j := j) (by omega) (j + 1) (by omega)] at he
        omega
    have hlen := rdWays_length j h0
    simp only [rdWays] at he hall ⊢
    rw [if_neg (by omega)] at he hall ⊢
    split at he
    · exact absurd he ‹_›
    · rename_i h2
      rw [if_neg h2] at hall ⊢
      dsimp only at he hall ⊢
      have h1 := ih L h0 (fun n hn => hall n (List.mem_append_left _ hn))
      have hj := hall (rdWay (rdWays ⟨L, 0⟩ j).2.1).1 (List.mem_append_right _ (List.mem_singleton.2 rfl))
      simp only [encWs]
      rw [encWs_left j (by omega), getW_last hlen]
      generalize rdWays ⟨L, 0⟩ j = p at *
      obtain ⟨ls, ⟨R, E⟩, e⟩ := p
      dsimp only at h0 hlen h1 hj h2 ⊢
      obtain ⟨h1, h1e⟩ := h1
      subst h1e
      have h3 := rdWay_once (d := d) (L := R) hd (by omega) hj
      refine ⟨?_, h3.2⟩
      rw [List.append_assoc, ← h3.1]
      exact h1
theorem got_bad {d : List De} {l : List UInt8} (h : (getW d l).2.2 ≠ 0) : getW d l = ([], 0, (getW d l).2.2) := by
  unfold getW at h ⊢
  dsimp only at h ⊢
  split
  · rfl
  · rename_i h1
    rw [if_neg h1] at h
    exact absurd rfl h
theorem once {d : List De} {t : List UInt8} (hd : (chk d).2 = 0) (h : (getW d t).2.2 = 0) : chkW d (getW d t).1 = 0 ∧ 0 < (getW d t).2.1 ∧ (getW d t).2.1 ≤ t.length ∧ encW (getW d t).1 = t.take (getW d t).2.1 := by
  unfold getW readW at h ⊢
  dsimp only at h ⊢
  by_cases h2 : 4 < (rdNum ⟨t, 0⟩).1
  · simp only [if_pos h2] at h; cases h
  · simp only [if_neg h2] at h ⊢
    by_cases h1 : (rdNum ⟨t, 0⟩).2.err ≠ 0
    · simp only [if_pos h1] at h; exact absurd h h1
    · simp only [if_neg h1] at h ⊢
      have hn := rdNum_once (l := t) (by omega)
      generalize rdNum ⟨t, 0⟩ = q at *
      obtain ⟨n, ⟨R, E⟩⟩ := q
      dsimp only at h h1 h2 hn ⊢
      obtain rfl : E = 0 := by omega
      by_cases h3 : (rdWays ⟨R, 0⟩ n).2.2 ≠ 0
      · simp only [if_pos h3] at h; exact absurd h h3
      · simp only [if_neg h3] at h ⊢
        by_cases h4 : chkW d (rdWays ⟨R, 0⟩ n).1 ≠ 0
        · simp only [if_pos h4] at h; exact absurd h h4
        · simp only [if_neg h4] at h ⊢
          have hlen := rdWays_length n (by omega : (rdWays ⟨R, 0⟩ n).2.2 = 0)
          obtain ⟨_, _, hall⟩ := chkW_zero (by omega : chkW d (rdWays ⟨R, 0⟩ n).1 = 0)
          have ho := (rdWays_once hd n R (by omega) (fun l hl => (hall l hl).2.2)).1
          generalize rdWays ⟨R, 0⟩ n = p at *
          obtain ⟨ls, S, e⟩ := p
          dsimp only at h3 h4 hlen hall ho ⊢
          have hE : t = encW ls ++ S.rest := by
            unfold encW
            rw [hlen, List.append_assoc, ← ho]
            exact hn
          have hpos : 0 < (encW ls).length := by
            have := enc_length_pos 9 ls.length
            simp only [encW, List.length_append]
            have e : (num ls.length).length = (Go.Proofs.YtfkcmdnnmnkklaaDoor.octet.enc 9 ls.length).length := rfl
            omega
          have hlt : t.length = (encW ls).length + S.rest.length := by rw [hE, List.length_append]
          simp only [ne_eq, not_true_eq_false, if_false]
          refine ⟨by omega, by omega, by omega, ?_⟩
          rw [show t.length - S.rest.length = (encW ls).length from by omega, hE, List.take_left']
          rfl
end Go.Proofs.YtfkcmdnnmnkklaaDoor.need

/-
  How the writer and the reader lie in memory, and what a step leaves alone: a writer's block holds a slice of bytes of its own; a reader's block holds the bytes that are left and the first error. No condition.
-/
namespace Go.Proofs.YtfkcmdnnmnkklaaDoor.octet
open Go.RowKit

def cells (l : List UInt8) : List Value := l.map fun b => Value.int .u8 (b.toNat : Int)
theorem cells_length (l : List UInt8) : (cells l).length = l.length := by simp [cells]
theorem cells_append (l r : List UInt8) : cells (l ++ r) = cells l ++ cells r := by simp [cells]

/-- Of the blocks below B none has turned but x; no block has gone. -/
structure Frm (B x : Nat) (w w' : World) : Prop where
  os : w'.os = w.os
  tape : w'.tape = w.tape
  output : w'.output = w.output
  size : w.heap.size ≤ w'.heap.size
  block : ∀ k, k < B → k ≠ x → w'.heap[k]? = w.heap[k]?
theorem Frm.refl (B x : Nat) (w : World) : Frm B x w w := ⟨rfl, rfl, rfl, Nat.le_refl _, fun _ _ _ => rfl⟩
theorem Frm.trans {B x : Nat} {a b c : World} (h : Frm B x a b) (k : Frm B x b c) : Frm B x a c :=
  ⟨k.os.trans h.os, k.tape.trans h.tape, k.output.trans h.output, Nat.le_trans h.size k.size, fun i hi hx => (k.block i hi hx).trans (h.block i hi hx)⟩
theorem Frm.mono {B B' x : Nat} {w w' : World} (h : Frm B x w w') (hB : B' ≤ B) : Frm B' x w w' := ⟨h.os, h.tape, h.output, h.size, fun k hk hx => h.block k (Nat.lt_of_lt_of_le hk hB) hx⟩
theorem Frm.drew {B x : Nat} {a w : World} (h : Frm B x a w) : Frm B x a w.drew := ⟨h.os, h.tape, h.output, h.size, h.block⟩
theorem Frm.alloc {B x : Nat} {a w : World} (h : Frm B x a w) (hB : B ≤ w.heap.size) (o : Obj) : Frm B x a (w.alloc o) :=
  h.trans ⟨rfl, rfl, rfl, by simp, fun k hk _ => Below.heap_alloc _ _ _ (by omega)⟩
theorem Frm.setCell {B x : Nat} {a w : World} (h : Frm B x a w) {p : Addr} (hp : p.block = x ∨ B ≤ p.block) (u : Value) : Frm B x a (w.setCell p u) :=
  h.trans ⟨rfl, rfl, rfl, by simp [World.setCell], fun k hk hx => Below.heap_setCell _ _ _ _ (by omega)⟩
theorem Frm.below {B B' x : Nat} {w w' : World} (h : Frm B x w w') (hx : B' ≤ x) (hB : B' ≤ B) : Below B' w w' :=
  ⟨h.os, h.tape, h.output, h.size, fun k hk => h.block k (by omega) (by omega)⟩
theorem Frm.of_below {B x : Nat} {w w' : World} (h : Below B w w') : Frm B x w w' := ⟨h.os, h.tape, h.output, h.size, fun k hk _ => h.block k hk⟩
theorem Frm.grown {B x : Nat} {a w w' : World} {row : Option Nat} (h : Frm B x a w) (hg : w.grownBy w' row) (hB : B ≤ w.heap.size) (hr : ∀ k, row = some k → B ≤ k ∨ k = x) : Frm B x a w' :=
  h.trans ⟨hg.os, hg.tape, hg.output, hg.size, fun k hk hx => hg.block k (by omega) (fun e => by rcases hr k e.symm with h | h <;> omega)⟩

/-- The writer at block bo holds the bytes l; what it owns besides lies from base on. -/
def OutAt (w : World) (base bo : Nat) (l : List UInt8) : Prop :=
  ∃ v, w.heap[bo]? = some (.cells #[v] 65 (0, 0)) ∧ w.ownsRow base 5 1 v l.length (cells l) ∧ bo < base ∧ base ≤ w.heap.size

theorem OutAt.lt {w : World} {base bo : Nat} {l : List UInt8} (h : OutAt w base bo l) : bo < w.heap.size := by
  obtain ⟨v, h1, _, _, _⟩ := h
  exact lt_of_block h1
theorem OutAt.base_le {w : World} {base bo : Nat} {l : List UInt8} (h : OutAt w base bo l) : base ≤ w.heap.size := by
  obtain ⟨v, _, _, _, h4⟩ := h
  exact h4
/-- A world in which the writer's own blocks are as they were. -/
theorem OutAt.keep {w w' : World} {base bo : Nat} {l : List UInt8} (h : OutAt w base bo l) (hs : w.heap.size ≤ w'.heap.size) (hbo : w'.heap[bo]? = w.heap[bo]?) (hk : ∀ k, base ≤ k → k < w.heap.size → w'.heap[k]? = w.heap[k]?) : OutAt w' base bo l := by
  obtain ⟨v, h1, h2, h3, h4⟩ := h
  refine ⟨v, hbo.trans h1, ⟨h2.1, ?_⟩, h3, by omega⟩
  rcases h2.2 with h5 | ⟨g, cap, cur, hv, hg, hh, r⟩
  · exact .inl h5
  · exact .inr ⟨g, cap, cur, hv, hg, by rw [hk g hg (lt_of_block hh)]; exact hh, r⟩
theorem OutAt.kept {w w' : World} {base bo B : Nat} {l : List UInt8} (h : OutAt w base bo l) (hb : Below B w w') (hB : w.heap.size ≤ B) : OutAt w' base bo l :=
  h.keep hb.size (hb.block _ (by have := h.lt; omega)) fun k _ hk => hb.block k (by omega)

/-- The reader at block bi: the bytes that are left, the first error. -/
def InAt (w : World) (bi : Nat) (s : St) : Prop :=
  w.heap[bi]? = some (.cells #[.string ⟨s.rest.toArray⟩, .int .i64 (s.err : Int)] 111 (0, 0))
theorem InAt.lt {w : World} {bi : Nat} {s : St} (h : InAt w bi s) : bi < w.heap.size := lt_of_block h
theorem InAt.cell0 {w : World} {bi : Nat} {s : St} (h : InAt w bi s) : w.cell? ⟨bi, 0, none⟩ = some (.string ⟨s.rest.toArray⟩) := by unfold InAt at h; simp [World.cell?, h]
theorem InAt.cell1 {w : World} {bi : Nat} {s : St} (h : InAt w bi s) : w.cell? ⟨bi, 1, none⟩ = some (.int .i64 (s.err : Int)) := by unfold InAt at h; simp [World.cell?, h]
theorem InAt.free {w : World} {bi : Nat} {s : St} (h : InAt w bi s) (i : Nat) : w.frozen? ⟨bi, i, none⟩ = false := by unfold InAt at h; simp [World.frozen?, h]
theorem InAt.kept {w w' : World} {bi : Nat} {s : St} (h : InAt w bi s) (hb : w'.heap[bi]? = w.heap[bi]?) : InAt w' bi s := hb.trans h
theorem InAt.set0 {w : World} {bi : Nat} {s : St} (h : InAt w bi s) (r : List UInt8) : InAt (w.setCell ⟨bi, 0, none⟩ (.string ⟨r.toArray⟩)) bi ⟨r, s.err⟩ := by
  have h' : w.heap[bi]? = some (.cells #[.string ⟨s.rest.toArray⟩, .int .i64 (s.err : Int)] 111 (0, 0)) := h
  unfold InAt
  simp [World.setCell, Array.getElem?_modify, h']
theorem InAt.set1 {w : World} {bi : Nat} {s : St} (h : InAt w bi s) (e : Nat) : InAt (w.setCell ⟨bi, 1, none⟩ (.int .i64 (e : Int))) bi ⟨s.rest, e⟩ := by
  have h' : w.heap[bi]? = some (.cells #[.string ⟨s.rest.toArray⟩, .int .i64 (s.err : Int)] 111 (0, 0)) := h
  unfold InAt
  simp [World.setCell, Array.getElem?_modify, h']

end Go.Proofs.YtfkcmdnnmnkklaaDoor.octet

/-
  The reader's calls, each by itself: what is left, the first error, one byte, a failure. The reader lies in a block of its own, and holds no bytes behind an error.
-/
set_option linter.unusedVariables false
namespace Go.Proofs.YtfkcmdnnmnkklaaDoor.octet
open Go.RowKit Go.ChangeShapes

theorem size_mk (l : List UInt8) : (ByteArray.mk l.toArray).size = l.length := by
  show l.toArray.size = l.length
  simp

theorem extract_mk (l : List UInt8) (i j : Nat) : (ByteArray.mk l.toArray).extract i j = ⟨((l.take j).drop i).toArray⟩ := by
  apply ByteArray.ext
  rw [ByteArray.data_extract]
  simp [List.extract_eq_take_drop, List.drop_take]

set_option maxHeartbeats 400000 in
theorem left_any (w : World) (bi : Nat) (s : St) (hi : InAt w bi s) :
    Calls Tryd.prog 38 #[.pointer (some ⟨bi, 0, none⟩)] w fun e w' => e = .returned (.int .i64 (s.rest.length : Int)) ∧ w = w' := by
  have hc := hi.cell0
  have hsz := size_mk s.rest
  go_enter Tryd.func38, Tryd.ntmps38
  go_wp2
  go_ret
  exact ⟨rfl, rfl⟩

set_option maxHeartbeats 400000 in
theorem err_any (w : World) (bi : Nat) (s : St) (hi : InAt w bi s) :
    Calls Tryd.prog 86 #[.pointer (some ⟨bi, 0, none⟩)] w fun e w' => e = .returned (.int .i64 (s.err : Int)) ∧ w = w' := by
  have hc := hi.cell1
  go_enter Tryd.func86, Tryd.ntmps86
  go_wp2
  go_ret
  exact ⟨rfl, rfl⟩

set_option maxHeartbeats 400000 in
theorem fail_any (w : World) (bi : Nat) (s : St) (e : Nat) (hi : InAt w bi s) :
    Calls Tryd.prog 119 #[.pointer (some ⟨bi, 0, none⟩), .int .i64 (e : Int)] w fun r w' => r = .returned (.tuple #[]) ∧ InAt w' bi (s.fail e) ∧ Frm w.heap.size bi w w' := by
  have hc0 := hi.cell0
  have hc1 := hi.cell1
  have hf0 := hi.free 0
  have hf1 := hi.free 1
  by_cases he : s.err = 0
  · have hb : ((s.err : Int) == 0) = true := by simp [he]
    have hb' : ((s.err : Int) != 0) = false := by simp [he]
    have hfin : InAt ((w.setCell ⟨bi, 1, none⟩ (.int .i64 (e : Int))).setCell ⟨bi, 0, none⟩ (.string ⟨#[]⟩)) bi (s.fail e) := by
      have h2 := (hi.set1 e).set0 []
      unfold St.fail
      rw [if_neg (by omega)]
      exact h2
    have HF := Lib.hid hfin
    clear hfin
    have HE := Lib.hid he
    clear he
    go_enter Tryd.func119, Tryd.ntmps119
    go_wp2
    go_end0
    refine ⟨rfl, HF.out, ?_⟩
    exact ((Frm.refl _ _ _).setCell (p := ⟨bi, 1, none⟩) (.inl rfl) _).setCell (p := ⟨bi, 0, none⟩) (.inl rfl) _
  · have hb : ((s.err : Int) != 0) = true := by simp [he]
    have hfin : s.fail e = s := by unfold St.fail; rw [if_pos he]
    have HF := Lib.hid hfin
    clear hfin
    have HE := Lib.hid he
    clear he
    go_enter Tryd.func119, Tryd.ntmps119
    go_wp2
    refine bodyPost_ret (results_none rfl _ _ _) rfl ?_
    refine ⟨rfl, ?_, Frm.refl _ _ _⟩
    rw [HF.out]
    exact hi

set_option maxHeartbeats 400000 in
theorem next_any (w : World) (bi : Nat) (s : St) (hi : InAt w bi s) (hok : s.ok) (hl : s.rest.length ≤ 140737488355328) :
    Calls Tryd.prog 118 #[.pointer (some ⟨bi, 0, none⟩)] w fun r w' => r = .returned (.int .u8 ((rdByte s).1 : Int)) ∧ InAt w' bi (rdByte s).2 ∧ Frm w.heap.size bi w w' := by
  obtain ⟨rest, err⟩ := s
  cases rest with
  | nil =>
    have hfin : (rdByte ⟨[], err⟩).1 = 0 ∧ (rdByte ⟨[], err⟩).2 = St.fail ⟨[], err⟩ 3 := by
      unfold rdByte St.fail
      split <;> simp
    have HF := Lib.hid hfin
    clear hfin
    go_enter Tryd.func118, Tryd.ntmps118
    go_wp2_with fail
    refine (left_any _ bi ⟨[], err⟩ hi).mono ?_
    rintro e w1 ⟨rfl, rfl⟩
    go_wp2_with fail
    refine (fail_any _ bi ⟨[], err⟩ 3 hi).mono ?_
    rintro e w1 ⟨rfl, hi1, hf1⟩
    go_wp2
    go_ret
    rw [HF.out.1, HF.out.2]
    exact ⟨rfl, hi1, hf1⟩
  | cons b r =>
    have he : err = 0 := by
      rcases Nat.eq_zero_or_pos err with h0 | h0
      · exact h0
      · have := hok (by show err ≠ 0; omega)
        simp at this
    subst he
    have hc0 := hi.cell0
    have hf0 := hi.free 0
    have hsz := size_mk (b :: r)
    have hl' : r.length + 1 ≤ 140737488355328 := by simpa using hl
    have hset := hi.set0 r
    have HS := Lib.hid hset
    clear hset
    go_enter Tryd.func118, Tryd.ntmps118
    go_wp2_with fail
    refine (left_any _ bi _ hi).mono ?_
    rintro e w1 ⟨rfl, rfl⟩
    go_wp2
    go_ret
    rw [extract_mk, show ((b :: r).take (r.length + 1)).drop 1 = r from by simp]
    refine ⟨rfl, HS.out, ?_⟩
    exact (Frm.refl _ _ _).setCell (p := ⟨bi, 0, none⟩) (.inl rfl) _

set_option maxHeartbeats 400000 in
theorem byteIn_any (w : World) (bi : Nat) (s : St) (hi : InAt w bi s) (hok : s.ok) (hl : s.rest.length ≤ 140737488355328) :
    Calls Tryd.prog 106 #[.pointer (some ⟨bi, 0, none⟩)] w fun r w' => r = .returned (.int .i64 ((rdByte s).1 : Int)) ∧ InAt w' bi (rdByte s).2 ∧ Frm w.heap.size bi w w' := by
  have h256 : (rdByte s).1 < 256 := by
    unfold rdByte
    split
    · omega
    · split
      · omega
      · exact UInt8.toNat_lt _
  go_enter Tryd.func106, Tryd.ntmps106
  go_wp2_with fail
  refine (next_any _ bi s hi hok hl).mono ?_
  rintro e w1 ⟨rfl, hi1, hf1⟩
  go_wp2
  go_ret
  exact ⟨rfl, hi1, hf1⟩
end Go.Proofs.YtfkcmdnnmnkklaaDoor.octet
