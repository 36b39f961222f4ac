/-
  What was put of a wait is got again, whatever stands behind; what was got, put, is just the bytes that it had. Plain mathematics; no condition.
-/
import Derived.Test.YtjlmgoaglpkhoaaEPlain
import Derived.Test.YtjlmgoaglpkhoaaDBack
namespace Go.Proofs.Ytjlmgoaglpkhoaa.need
open Go.Proofs.Ytjlmgoaglpkhoaa.octet (St rdByte rdNum num num_length_le enc_length_pos)
open Go.Proofs.Ytjlmgoaglpkhoaa.objs (De zero rdN chk chk_zero one one_zero rdNum_back rdN_back rdNum_once rdN_once rdNum_err getD_left getD_last)
set_option linter.unusedVariables false

/-- Of objects that may be: a need that may be has numbers up to a thousand. -/
theorem need_small {d : List De} {n : De} (hd : (chk d).2 = 0) (h : oneN d n = 0) : (1 ≤ n.1 ∧ n.1 ≤ 5) ∧ (0 ≤ n.2.1 ∧ n.2.1 < 32) ∧ (n.1 ≤ 3 → n.2.2 = 0) ∧ 0 ≤ n.2.2 ∧ n.2.2 ≤ 1000 := by
  obtain ⟨h1, h2, h3, h4, h5⟩ := oneN_zero h
  obtain ⟨hl, _, hall⟩ := chk_zero hd
  refine ⟨h1, by omega, h3, h4, ?_⟩
  have hk : (d.getD n.2.1.toNat zero).1 = kn n.1 := by
    unfold oneN at h
    split at h
    · cases h
    · split at h
      · cases h
      · rename_i _ h6
        exact Classical.byContradiction fun h7 => h6 (.inr (.inr h7))
  obtain ⟨_, g3, g6, _, _, _⟩ := one_zero (hall n.2.1.toNat (by omega))
  unfold hi at h5
  by_cases e4 : n.1 = 4
  · rw [if_pos e4] at h5
    have := g3 (by rw [hk]; unfold kn; rw [e4]; decide)
    omega
  · rw [if_neg e4] at h5
    by_cases e5 : n.1 = 5
    · rw [if_pos e5] at h5
      have := g6 (by rw [hk]; unfold kn; rw [e5]; decide)
      omega
    · rw [if_neg e5] at h5
      omega

theorem rdNeed_back {d : List De} {n : De} (hd : (chk d).2 = 0) (h : oneN d n = 0) (more : List UInt8) : rdNeed ⟨encN n ++ more, 0⟩ = (n, ⟨more, 0⟩, 0) := by
  obtain ⟨h1, h2, h3, h4, h5⟩ := need_small hd h
  obtain ⟨k, o, m⟩ := n
  dsimp only at h1 h2 h3 h4 h5
  have hy : rdByte ⟨encN (k, o, m) ++ more, 0⟩ = (k.toNat, ⟨num o.toNat ++ (pieceN k m ++ more), 0⟩) := by
    unfold rdByte encN
    simp only [ne_eq, not_true_eq_false, if_false, List.cons_append, List.append_assoc]
    congr 1
    rw [UInt8.toNat_ofNat']
    omega
  have hA : rdN ⟨num o.toNat ++ (pieceN k m ++ more), 0⟩ = (o, ⟨pieceN k m ++ more, 0⟩) := by
    rw [rdN_back (by omega)]
    congr 1
    omega
  have hB : rdC k.toNat ⟨pieceN k m ++ more, 0⟩ = (m, ⟨more, 0⟩) := by
    unfold rdC pieceN
    by_cases e : 3 < k
    · rw [if_pos (by omega), if_pos e, rdN_back (by omega)]
      congr 1
      omega
    · rw [if_neg (by omega), if_neg e, h3 (by omega)]
      rfl
  unfold rdNeed
  simp only [hy, hA, hB]
  rw [if_neg (by omega)]
  congr 2
  omega
theorem rdNeeds_back {d l : List De} (hd : (chk d).2 = 0) (h : ∀ n ∈ l, oneN d n = 0) : ∀ j, j ≤ l.length → ∀ more, rdNeeds ⟨encNs l j ++ more, 0⟩ j = (l.take j, ⟨more, 0⟩, 0) := by
  intro j
  induction j with
  | zero => intro _ more; rfl
  | succ j ih =>
    intro hj more
    have h1 := ih (by omega) (encN (l.getD j zero) ++ more)
    have h2 := rdNeed_back hd (h _ (getD_mem (l := l) (k := j) (by omega))) more
    simp only [encNs, List.append_assoc, rdNeeds]
    rw [h1]
    simp only [h2]
    rw [if_neg (by decide), if_neg (by decide), List.take_add_one, List.getD_eq_getElem?_getD, List.getElem?_eq_getElem (by omega)]
    rfl
theorem rdWay_back {d l : List De} (hd : (chk d).2 = 0) (hl : l.length ≤ 4) (h : ∀ n ∈ l, oneN d n = 0) (more : List UInt8) : rdWay ⟨encWay l ++ more, 0⟩ = (l, ⟨more, 0⟩, 0) := by
  have hn : rdNum ⟨encWay l ++ more, 0⟩ = (l.length, ⟨encNs l l.length ++ more, 0⟩) := by
    unfold encWay
    rw [List.append_assoc, rdNum_back (by omega)]
  unfold rdWay
  simp only [hn]
  rw [if_neg (by omega), if_neg (by decide), rdNeeds_back hd h l.length (Nat.le_refl _) more, List.take_length]
theorem rdWays_back {d : List De} {w : List (List De)} (hd : (chk d).2 = 0) (h : ∀ l ∈ w, l.length ≤ 4 ∧ ∀ n ∈ l, oneN d n = 0) : ∀ j, j ≤ w.length → ∀ more, rdWays ⟨encWs w j ++ more, 0⟩ j = (w.take j, ⟨more, 0⟩, 0) := by
  intro j
  induction j with
  | zero => intro _ more; rfl
  | succ j ih =>
    intro hj more
    have h1 := ih (by omega) (encWay (w.getD j []) ++ more)
    have hm := h _ (getW_mem (w := w) (k := j) (by omega))
    have h2 := rdWay_back hd hm.1 hm.2 more
    simp only [encWs, List.append_assoc, rdWays]
    rw [h1]
    simp only [h2]
    rw [if_neg (by decide), if_neg (by decide), List.take_add_one, List.getD_eq_getElem?_getD, List.getElem?_eq_getElem (by omega)]
    rfl
theorem back {d : List De} {w : List (List De)} (hd : (chk d).2 = 0) (h : chkW d w = 0) (more : List UInt8) : getW d (encW w ++ more) = (w, (encW w).length, 0) := by
  obtain ⟨h0, h4, hall⟩ := chkW_zero h
  have hn : rdNum ⟨encW w ++ more, 0⟩ = (w.length, ⟨encWs w w.length ++ more, 0⟩) := by
    unfold encW
    rw [List.append_assoc, rdNum_back (by omega)]
  have hL := rdWays_back hd (fun l hl => (hall l hl).2) w.length (Nat.le_refl _) more
  unfold getW readW
  have h44 : ¬ 4 < w.length := by omega
  simp only [hn, hL, List.take_length, h, ne_eq, not_true_eq_false, if_false, if_neg h44]
  simp

theorem rdC_err {k : Nat} {s : St} (h : s.err ≠ 0) : (rdC k s).2 = s := by
  unfold rdC rdN
  split
  · exact rdNum_err h
  · rfl
theorem rdNeed_once {d : List De} {L : List UInt8} (hd : (chk d).2 = 0) (he : (rdNeed ⟨L, 0⟩).2.2 = 0) (h : oneN d (rdNeed ⟨L, 0⟩).1 = 0) : L = encN (rdNeed ⟨L, 0⟩).1 ++ (rdNeed ⟨L, 0⟩).2.1.rest ∧ (rdNeed ⟨L, 0⟩).2.1.err = 0 := by
  obtain ⟨h1, h2, h3, h4, h5⟩ := need_small hd h
  unfold rdNeed at he h1 h2 h3 h4 h5 ⊢
  dsimp only at he h1 h2 h3 h4 h5 ⊢
  split at he
  · cases he
  · rename_i hc
    rw [if_neg hc] at h1 h2 h3 h4 h5 ⊢
    dsimp only at he h1 h2 h3 h4 h5 ⊢
    obtain ⟨x, r, rfl⟩ : ∃ x r, L = x :: r := by
      cases L with
      | nil =>
        exfalso
        have e0 : (rdByte ⟨[], 0⟩).2.err ≠ 0 := by decide
        have e1 : (rdN (rdByte ⟨[], 0⟩).2).2 = (rdByte ⟨[], 0⟩).2 := rdNum_err e0
        rw [e1, rdC_err e0] at he
        exact e0 he
      | cons x r => exact ⟨x, r, rfl⟩
    have hy : rdByte ⟨x :: r, 0⟩ = (x.toNat, ⟨r, 0⟩) := rfl
    rw [hy] at he h1 h2 h3 h4 h5 hc ⊢
    dsimp only at he h1 h2 h3 h4 h5 hc ⊢
    have hA0 : (rdN ⟨r, 0⟩).2.err = 0 := by
      rcases Nat.eq_zero_or_pos (rdN ⟨r, 0⟩).2.err with e | e
      · exact e
      · rw [rdC_err (by omega)] at he; exact he
    have hA := rdN_once hA0 (by omega)
    generalize rdN ⟨r, 0⟩ = q at *
    obtain ⟨o, R, E⟩ := q
    dsimp only at hA0 hA he h2 h3 h4 h5 ⊢
    subst hA0
    have hB : R = pieceN (x.toNat : Int) (rdC x.toNat ⟨R, 0⟩).1 ++ (rdC x.toNat ⟨R, 0⟩).2.rest := by
      unfold rdC at he h4 h5 ⊢
      unfold pieceN
      by_cases e : 3 < x.toNat
      · rw [if_pos e] at he h4 h5 ⊢
        rw [if_pos (by omega)]
        exact rdN_once he (by omega)
      · rw [if_neg e] at he ⊢
        rw [if_neg (by omega)]
        rfl
    refine ⟨?_, he⟩
    unfold encN
    dsimp only
    rw [Int.toNat_natCast, List.cons_append, List.append_assoc, ← hB, ← hA]
    congr 1
    exact UInt8.ofNat_toNat.symm
theorem rdNeeds_err {s : St} {j : Nat} (h : (rdNeeds s j).2.2 ≠ 0) : ∀ k, j ≤ k → rdNeeds s k = rdNeeds s j := by
  intro k hk
  induction k with
  | zero =>
    obtain rfl : j = 0 := by omega
    rfl
  | succ k ih =>
    rcases Nat.eq_or_lt_of_le hk with e | e
    · subst e; rfl
    · have := ih (by omega)
      simp only [rdNeeds]
      rw [this, if_pos h]
theorem rdWays_err {s : St} {j : Nat} (h : (rdWays s j).2.2 ≠ 0) : ∀ k, j ≤ k → rdWays s k = rdWays s j := by
  intro k hk
  induction k with
  | zero =>
    obtain rfl : j = 0 := by omega
    rfl
  | succ k ih =>
    rcases Nat.eq_or_lt_of_le hk with e | e
    · subst e; rfl
    · have := ih (by omega)
      simp only [rdWays]
      rw [this, if_pos h]
theorem rdNeeds_length {s : St} : ∀ j, (rdNeeds s j).2.2 = 0 → (rdNeeds s j).1.length = j := by
  intro j
  induction j with
  | zero => intro _; rfl
  | succ j ih =>
    intro h
    simp only [rdNeeds] at h ⊢
    split at h
    · exact absurd h ‹_›
    · rename_i h1
      have := ih (by omega)
      rw [if_neg h1]
      split at h
      · exact absurd h ‹_›
      · rename_i h2
        rw [if_neg h2, List.length_append, this]
        rfl
theorem rdWays_length {s : St} : ∀ j, (rdWays s j).2.2 = 0 → (rdWays s j).1.length = j := by
  intro j
  induction j with
  | zero => intro _; rfl
  | succ j ih =>
    intro h
    simp only [rdWays] at h ⊢
    split at h
    · exact absurd h ‹_›
    · rename_i h1
      have := ih (by omega)
      rw [if_neg h1]
      split at h
      · exact absurd h ‹_›
      · rename_i h2
        rw [if_neg h2, List.length_append, this]
        rfl
theorem encNs_left {l r : List De} : ∀ j, j ≤ l.length → encNs (l ++ r) j = encNs l j := by
  intro j
  induction j with
  | zero => intro _; rfl
  | succ j ih =>
    intro h
    simp only [encNs]
    rw [ih (by omega), getD_left (by omega)]
theorem getW_left {l r : List (List De)} {i : Nat} (h : i < l.length) : (l ++ r).getD i [] = l.getD i [] := by
  rw [List.getD_eq_getElem?_getD, List.getD_eq_getElem?_getD, List.getElem?_append_left h]
theorem getW_last {l : List (List De)} {x : List De} {i : Nat} (h : l.length = i) : (l ++ [x]).getD i [] = x := by
  subst h
  rw [List.getD_eq_getElem?_getD, List.getElem?_append_right (Nat.le_refl _), Nat.sub_self]
  rfl
theorem encWs_left {l r : List (List De)} : ∀ j, j ≤ l.length → encWs (l ++ r) j = encWs l j := by
  intro j
  induction j with
  | zero => intro _; rfl
  | succ j ih =>
    intro h
    simp only [encWs]
    rw [ih (by omega), getW_left (by omega)]
theorem rdNeeds_once {d : List De} (hd : (chk d).2 = 0) : ∀ j (L : List UInt8), (rdNeeds ⟨L, 0⟩ j).2.2 = 0 → (∀ n ∈ (rdNeeds ⟨L, 0⟩ j).1, oneN d n = 0) → L = encNs (rdNeeds ⟨L, 0⟩ j).1 j ++ (rdNeeds ⟨L, 0⟩ j).2.1.rest ∧ (rdNeeds ⟨L, 0⟩ j).2.1.err = 0 := by
  intro j
  induction j with
  | zero => intro L _ _; exact ⟨rfl, rfl⟩
  | succ j ih =>
    intro L he hall
    have h0 : (rdNeeds ⟨L, 0⟩ j).2.2 = 0 := by
      rcases Nat.eq_zero_or_pos (rdNeeds ⟨L, 0⟩ j).2.2 with h | h
      · exact h
      · rw [rdNeeds_err (j := j) (by omega) (j + 1) (by omega)] at he
        omega
    have hlen := rdNeeds_length j h0
    simp only [rdNeeds] at he hall ⊢
    rw [if_neg (by omega)] at he hall ⊢
    split at he
    · exact absurd he ‹_›
    · rename_i h2
      rw [if_neg h2] at hall ⊢
      dsimp only at he hall ⊢
      have h1 := ih L h0 (fun n hn => hall n (List.mem_append_left _ hn))
      have hj := hall (rdNeed (rdNeeds ⟨L, 0⟩ j).2.1).1 (List.mem_append_right _ (List.mem_singleton.2 rfl))
      simp only [encNs]
      rw [encNs_left j (by omega), getD_last hlen]
      generalize rdNeeds ⟨L, 0⟩ j = p at *
      obtain ⟨ls, ⟨R, E⟩, e⟩ := p
      dsimp only at h0 hlen h1 hj h2 ⊢
      obtain ⟨h1, h1e⟩ := h1
      subst h1e
      have h3 := rdNeed_once (d := d) (L := R) hd (by omega) hj
      refine ⟨?_, h3.2⟩
      rw [List.append_assoc, ← h3.1]
      exact h1
theorem rdWay_once {d : List De} {L : List UInt8} (hd : (chk d).2 = 0) (he : (rdWay ⟨L, 0⟩).2.2 = 0) (h : ∀ n ∈ (rdWay ⟨L, 0⟩).1, oneN d n = 0) : L = encWay (rdWay ⟨L, 0⟩).1 ++ (rdWay ⟨L, 0⟩).2.1.rest ∧ (rdWay ⟨L, 0⟩).2.1.err = 0 := by
  unfold rdWay at he h ⊢
  split at he
  · cases he
  · rename_i h1
    rw [if_neg h1] at h ⊢
    split at he
    · exact absurd he ‹_›
    · rename_i h2
      rw [if_neg h2] at h ⊢
      have hn := rdNum_once (l := L) (by omega)
      generalize rdNum ⟨L, 0⟩ = q at *
      obtain ⟨n, ⟨R, E⟩⟩ := q
      dsimp only at he h h1 h2 hn ⊢
      obtain rfl : E = 0 := by omega
      have h3 := rdNeeds_once hd n R he h
      have hlen := rdNeeds_length n he
      refine ⟨?_, h3.2⟩
      unfold encWay
      rw [hlen, List.append_assoc, ← h3.1]
      exact hn
theorem rdWays_once {d : List De} (hd : (chk d).2 = 0) : ∀ j (L : List UInt8), (rdWays ⟨L, 0⟩ j).2.2 = 0 → (∀ l ∈ (rdWays ⟨L, 0⟩ j).1, ∀ n ∈ l, oneN d n = 0) → L = encWs (rdWays ⟨L, 0⟩ j).1 j ++ (rdWays ⟨L, 0⟩ j).2.1.rest ∧ (rdWays ⟨L, 0⟩ j).2.1.err = 0 := by
  intro j
  induction j with
  | zero => intro L _ _; exact ⟨rfl, rfl⟩
  | succ j ih =>
    intro L he hall
    have h0 : (rdWays ⟨L, 0⟩ j).2.2 = 0 := by
      rcases Nat.eq_zero_or_pos (rdWays ⟨L, 0⟩ j).2.2 with h | h
      · exact h
      · rw [rdWays_err (j := j) (by omega) (j + 1) (by omega)] at he
        omega
    have hlen := rdWays_length j h0
    simp only [rdWays] at he hall ⊢
    rw [if_neg (by omega)] at he hall ⊢
    split at he
    · exact absurd he ‹_›
    · rename_i h2
      rw [if_neg h2] at hall ⊢
      dsimp only at he hall ⊢
      have h1 := ih L h0 (fun n hn => hall n (List.mem_append_left _ hn))
      have hj := hall (rdWay (rdWays ⟨L, 0⟩ j).2.1).1 (List.mem_append_right _ (List.mem_singleton.2 rfl))
      simp only [encWs]
      rw [encWs_left j (by omega), getW_last hlen]
      generalize rdWays ⟨L, 0⟩ j = p at *
      obtain ⟨ls, ⟨R, E⟩, e⟩ := p
      dsimp only at h0 hlen h1 hj h2 ⊢
      obtain ⟨h1, h1e⟩ := h1
      subst h1e
      have h3 := rdWay_once (d := d) (L := R) hd (by omega) hj
      refine ⟨?_, h3.2⟩
      rw [List.append_assoc, ← h3.1]
      exact h1
theorem got_bad {d : List De} {l : List UInt8} (h : (getW d l).2.2 ≠ 0) : getW d l = ([], 0, (getW d l).2.2) := by
  unfold getW at h ⊢
  dsimp only at h ⊢
  split
  · rfl
  · rename_i h1
    rw [if_neg h1] at h
    exact absurd rfl h
theorem once {d : List De} {t : List UInt8} (hd : (chk d).2 = 0) (h : (getW d t).2.2 = 0) : chkW d (getW d t).1 = 0 ∧ 0 < (getW d t).2.1 ∧ (getW d t).2.1 ≤ t.length ∧ encW (getW d t).1 = t.take (getW d t).2.1 := by
  unfold getW readW at h ⊢
  dsimp only at h ⊢
  by_cases h2 : 4 < (rdNum ⟨t, 0⟩).1
  · simp only [if_pos h2] at h; cases h
  · simp only [if_neg h2] at h ⊢
    by_cases h1 : (rdNum ⟨t, 0⟩).2.err ≠ 0
    · simp only [if_pos h1] at h; exact absurd h h1
    · simp only [if_neg h1] at h ⊢
      have hn := rdNum_once (l := t) (by omega)
      generalize rdNum ⟨t, 0⟩ = q at *
      obtain ⟨n, ⟨R, E⟩⟩ := q
      dsimp only at h h1 h2 hn ⊢
      obtain rfl : E = 0 := by omega
      by_cases h3 : (rdWays ⟨R, 0⟩ n).2.2 ≠ 0
      · simp only [if_pos h3] at h; exact absurd h h3
      · simp only [if_neg h3] at h ⊢
        by_cases h4 : chkW d (rdWays ⟨R, 0⟩ n).1 ≠ 0
        · simp only [if_pos h4] at h; exact absurd h h4
        · simp only [if_neg h4] at h ⊢
          have hlen := rdWays_length n (by omega : (rdWays ⟨R, 0⟩ n).2.2 = 0)
          obtain ⟨_, _, hall⟩ := chkW_zero (by omega : chkW d (rdWays ⟨R, 0⟩ n).1 = 0)
          have ho := (rdWays_once hd n R (by omega) (fun l hl => (hall l hl).2.2)).1
          generalize rdWays ⟨R, 0⟩ n = p at *
          obtain ⟨ls, S, e⟩ := p
          dsimp only at h3 h4 hlen hall ho ⊢
          have hE : t = encW ls ++ S.rest := by
            unfold encW
            rw [hlen, List.append_assoc, ← ho]
            exact hn
          have hpos : 0 < (encW ls).length := by
            have := enc_length_pos 9 ls.length
            simp only [encW, List.length_append]
            have e : (num ls.length).length = (Go.Proofs.Ytjlmgoaglpkhoaa.octet.enc 9 ls.length).length := rfl
            omega
          have hlt : t.length = (encW ls).length + S.rest.length := by rw [hE, List.length_append]
          simp only [ne_eq, not_true_eq_false, if_false]
          refine ⟨by omega, by omega, by omega, ?_⟩
          rw [show t.length - S.rest.length = (encW ls).length from by omega, hE, List.take_left']
          rfl
end Go.Proofs.Ytjlmgoaglpkhoaa.need
