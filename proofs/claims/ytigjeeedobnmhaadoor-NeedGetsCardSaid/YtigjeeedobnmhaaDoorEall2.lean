/-
  Texts of one claim in one file: EGetPlain, DMem, DArg, EMem, WRef, DRefFits, DRefFit, DRefOne, DRefCheck, ERefOne. Each has its own sentence, with its conditions.
-/
import Derived.Test.YtigjeeedobnmhaaDoorEall1
import Derived.Test.YtigjeeedobnmhaaDoorProg
import Derived.WalkKit
import Derived.ProofKit
import Derived.IntWalk
import Derived.LoopTactic
import Derived.Lib.Hide
import Derived.Below
import Derived.Outline
import Derived.OwnWalk
import Derived.Deep.RegionLaw
import Derived.Deep.AppendLies
import Derived.Laws.AppendOwnNone
import Derived.Maps.AppendAt
import Derived.Deep.QuietTactic
import Derived.BigQuiet
import Derived.Deep.Cut
import Derived.Deep.CutBlock
import Derived.Deep.DeepCutAuto
import Derived.Deep.RegionHeld3
/-
  The program reads a number that is above all ranges as another such number than the document does, and it reads nothing behind a byte that is no kind: what is told of the wait is the same. Plain mathematics; no condition.
-/
namespace Go.Proofs.YtigjeeedobnmhaaDoor.need
open Go.Proofs.YtigjeeedobnmhaaDoor.octet (St rdByte rdNum rdNum_ok rdNum_left rdByte_ok dec_fails)
open Go.Proofs.YtigjeeedobnmhaaDoor.objs (De zero rdN chk chk_zero low31 low31_of pN_rdN)
open Go.Proofs.YtigjeeedobnmhaaDoor.span (pN)
set_option linter.unusedVariables false

theorem pN_ok {s : St} (h : s.ok) : (pN s).2.ok := rdNum_ok h
theorem pN_left (s : St) : (pN s).2.rest.length ≤ s.rest.length := rdNum_left s
theorem rdByte_left (s : St) : (rdByte s).2.rest.length ≤ s.rest.length := by
  unfold rdByte
  split
  · exact Nat.le_refl _
  · split
    · exact Nat.zero_le _
    · rename_i h; rw [h]; simp
theorem rdNum_fail {s : St} (h : (rdNum s).2.err ≠ 0) : (rdNum s).1 = 0 := by
  unfold rdNum at h ⊢
  split
  · rfl
  · rename_i h1
    rw [if_neg h1] at h
    exact (dec_fails _ _ _ h).1
theorem rdByte_fail {s : St} (h : (rdByte s).2.err ≠ 0) : (rdByte s).1 = 0 := by
  unfold rdByte at h ⊢
  split
  · rfl
  · rename_i h1
    rw [if_neg h1] at h
    split
    · rfl
    · rename_i h2
      rw [h2] at h
      exact absurd rfl h
theorem rdNum_stay {s : St} (h : s.err ≠ 0) : rdNum s = (0, s) := by unfold rdNum; rw [if_pos h]

/-- A need of the document's as the program reads it. -/
def cutN (n : De) : De := (n.1, low31 n.2.1, low31 n.2.2)
def pC (k : Nat) (s : St) : Int × St := if 3 < k then pN s else (0, s)
/-- A need as the program reads it, whether it may be or not. -/
def pNeed (s : St) : De × St :=
  let y := rdByte s
  if 1 ≤ y.1 ∧ y.1 ≤ 5 then (((y.1 : Int), (pN y.2).1, (pC y.1 (pN y.2).2).1), (pC y.1 (pN y.2).2).2) else (((y.1 : Int), 0, 0), y.2)
theorem pC_rdC (k : Nat) (s : St) : (pC k s).2 = (rdC k s).2 ∧ (pC k s).1 = low31 (rdC k s).1 := by
  unfold pC rdC
  by_cases h : 3 < k
  · rw [if_pos h, if_pos h]
    exact pN_rdN s
  · rw [if_neg h, if_neg h]
    exact ⟨rfl, rfl⟩
theorem pC_ok {k : Nat} {s : St} (h : s.ok) : (pC k s).2.ok := by
  unfold pC
  split
  · exact pN_ok h
  · exact h
theorem pC_left (k : Nat) (s : St) : (pC k s).2.rest.length ≤ s.rest.length := by
  unfold pC
  split
  · exact pN_left s
  · exact Nat.le_refl _
theorem pNeed_ok {s : St} (h : s.ok) : (pNeed s).2.ok := by
  unfold pNeed
  dsimp only
  split
  · exact pC_ok (pN_ok (rdByte_ok h))
  · exact rdByte_ok h
theorem pNeed_left (s : St) : (pNeed s).2.rest.length ≤ s.rest.length := by
  unfold pNeed
  dsimp only
  split
  · exact Nat.le_trans (pC_left _ _) (Nat.le_trans (pN_left _) (rdByte_left s))
  · exact rdByte_left s
theorem rdC_stay {k : Nat} {s : St} (h : s.err ≠ 0) : (rdC k s).2 = s := rdC_err h
/-- What is wrong with the bytes of a need. -/
theorem pNeed_err {s : St} (h : (pNeed s).2.err ≠ 0) : (rdNeed s).2 = ((pNeed s).2, (pNeed s).2.err) := by
  have hf := rdByte_fail (s := s)
  unfold pNeed at h ⊢
  unfold rdNeed
  dsimp only at h ⊢
  generalize rdByte s = y at *
  obtain ⟨k, S⟩ := y
  dsimp only at h hf ⊢
  by_cases hk : 1 ≤ k ∧ k ≤ 5
  · rw [if_pos hk] at h ⊢
    rw [if_neg (by omega)]
    have e1 : (pC k (pN S).2).2 = (rdC k (rdN S).2).2 := by rw [(pC_rdC _ _).1, (pN_rdN S).1]
    dsimp only at h ⊢
    rw [e1]
  · rw [if_neg hk] at h ⊢
    dsimp only at h ⊢
    rw [if_neg (fun hh => h hh.1)]
    have e1 : (rdN S).2 = S := by
      show (rdNum S).2 = S
      rw [rdNum_stay h]
    have e2 : (rdC k (rdN S).2).2 = S := by rw [e1]; exact rdC_stay h
    rw [e2]
/-- A byte that is no kind. -/
theorem pNeed_kind {s : St} (h : (pNeed s).2.err = 0) (hk : ¬ (1 ≤ (pNeed s).1.1 ∧ (pNeed s).1.1 ≤ 5)) : (rdNeed s).2 = ((pNeed s).2, 6) := by
  unfold pNeed at h hk ⊢
  unfold rdNeed
  dsimp only at h hk ⊢
  generalize rdByte s = y at *
  obtain ⟨k, S⟩ := y
  dsimp only at h hk ⊢
  by_cases hk2 : 1 ≤ k ∧ k ≤ 5
  · exfalso
    rw [if_pos hk2] at hk
    dsimp only at hk
    omega
  · rw [if_neg hk2] at h ⊢
    dsimp only at h ⊢
    rw [if_pos ⟨h, by omega⟩]
/-- A need that is there. -/
theorem pNeed_fine {s : St} (h : (pNeed s).2.err = 0) (hk : 1 ≤ (pNeed s).1.1 ∧ (pNeed s).1.1 ≤ 5) : (rdNeed s).2 = ((pNeed s).2, 0) ∧ (pNeed s).1 = cutN (rdNeed s).1 := by
  unfold pNeed at h hk ⊢
  unfold rdNeed cutN
  dsimp only at h hk ⊢
  generalize rdByte s = y at *
  obtain ⟨k, S⟩ := y
  dsimp only at h hk ⊢
  by_cases hk2 : 1 ≤ k ∧ k ≤ 5
  · rw [if_pos hk2] at h ⊢
    rw [if_neg (by omega)]
    obtain ⟨a1, a2⟩ := pN_rdN S
    obtain ⟨b1, b2⟩ := pC_rdC k (rdN S).2
    dsimp only at h ⊢
    rw [a1, b1] at h ⊢
    rw [h, a2, b2]
    exact ⟨rfl, rfl⟩
  · exfalso
    rw [if_neg hk2] at hk
    dsimp only at hk
    omega

theorem cutN_same {d : List De} {n : De} (hd : (chk d).2 = 0) (h : oneN d n = 0) : cutN n = n := by
  obtain ⟨_, h2, _, _, h5⟩ := need_small hd h
  obtain ⟨k, o, m⟩ := n
  dsimp only at h2 h5
  unfold cutN
  dsimp only
  rw [low31_of (by omega), low31_of (by omega)]
theorem oneN_cut {d : List De} {n : De} (hd : (chk d).2 = 0) : oneN d (cutN n) = oneN d n := by
  have hl := (chk_zero hd).1
  by_cases h : oneN d n = 0
  · rw [cutN_same hd h]
  · obtain ⟨k, o, m⟩ := n
    by_cases hk : k < 1 ∨ 5 < k
    · unfold oneN cutN
      dsimp only
      rw [if_pos hk, if_pos hk]
    · by_cases ho : o < 0 ∨ (d.length : Int) ≤ o
      · have ho2 : low31 o < 0 ∨ (d.length : Int) ≤ low31 o := by unfold low31; omega
        unfold oneN cutN
        dsimp only
        rw [if_neg hk, if_neg hk, if_pos (by rcases ho2 with h | h; exact .inl h; exact .inr (.inl h)), if_pos (by rcases ho with h | h; exact .inl h; exact .inr (.inl h))]
      · have eo : low31 o = o := low31_of (by omega)
        have e1 : oneN d (k, o, m) = 1 := by
          unfold oneN at h ⊢
          dsimp only at h ⊢
          rw [if_neg hk] at h ⊢
          split
          · rfl
          · rename_i h1
            rw [if_neg h1] at h
            split
            · rfl
            · rename_i h2
              rw [if_neg h2] at h
              exact absurd rfl h
        rw [e1]
        unfold oneN at h ⊢
        unfold cutN
        dsimp only at h ⊢
        rw [eo]
        rw [if_neg hk] at h ⊢
        by_cases hx : o < 0 ∨ (d.length : Int) ≤ o ∨ (d.getD o.toNat zero).1 ≠ kn k
        · rw [if_pos hx]
        · rw [if_neg hx] at h ⊢
          have hr : m < lo (k, o, m) ∨ hi d (k, o, m) < m := by
            rcases Classical.em (m < lo (k, o, m) ∨ hi d (k, o, m) < m) with h3 | h3
            · exact h3
            · rw [if_neg h3] at h
              exact absurd rfl h
          have el : lo (k, o, low31 m) = lo (k, o, m) := rfl
          have eh : hi d (k, o, low31 m) = hi d (k, o, m) := rfl
          have hh : hi d (k, o, m) ≤ 1000 := by
            unfold hi
            dsimp only
            have hnot : ¬ o < 0 ∧ ¬ (d.length : Int) ≤ o ∧ (d.getD o.toNat zero).1 = kn k := by
              refine ⟨fun h => hx (.inl h), fun h => hx (.inr (.inl h)), ?_⟩
              rcases Classical.em ((d.getD o.toNat zero).1 = kn k) with h3 | h3
              · exact h3
              · exact absurd (.inr (.inr h3)) hx
            have hj : o.toNat < d.length := by omega
            have h1 := (chk_zero hd).2.2 o.toNat hj
            obtain ⟨_, q3, q6, _⟩ := Go.Proofs.YtigjeeedobnmhaaDoor.objs.one_zero h1
            split
            · rename_i e4
              have := q3 (by rw [hnot.2.2, e4]; rfl)
              omega
            · split
              · rename_i e5
                have := q6 (by rw [hnot.2.2, e5]; rfl)
                omega
              · omega
          have hlo : 0 ≤ lo (k, o, m) ∧ lo (k, o, m) ≤ 1 := by unfold lo; split <;> omega
          rw [el, eh, if_pos]
          unfold low31
          omega
theorem ones_cut {d : List De} (hd : (chk d).2 = 0) (l : List De) : ones d (l.map cutN) = ones d l := by
  induction l with
  | nil => rfl
  | cons n l ih =>
    rw [List.map_cons]
    unfold ones
    rw [oneN_cut hd, ih]
theorem way_same {d l : List De} (hd : (chk d).2 = 0) (h : ones d l = 0) : l.map cutN = l := by
  have h1 := ones_zero h
  clear h
  induction l with
  | nil => rfl
  | cons n l ih =>
    rw [List.map_cons, cutN_same hd (h1 n (List.mem_cons_self ..)), ih (fun x hx => h1 x (List.mem_cons_of_mem _ hx))]
theorem chkWay_cut {d : List De} (hd : (chk d).2 = 0) (l : List De) : chkWay d (l.map cutN) = chkWay d l := by
  by_cases h : ones d l = 0
  · rw [way_same hd h]
  · unfold chkWay
    rw [List.length_map, ones_cut hd, if_pos h, if_pos h]
theorem ways_cut {d : List De} (hd : (chk d).2 = 0) (w : List (List De)) : ways d (w.map (·.map cutN)) = ways d w := by
  induction w with
  | nil => rfl
  | cons n l ih =>
    rw [List.map_cons]
    unfold ways
    rw [chkWay_cut hd, ih]
theorem chkW_cut {d : List De} (hd : (chk d).2 = 0) (w : List (List De)) : chkW d (w.map (·.map cutN)) = chkW d w := by
  unfold chkW
  rw [List.length_map, ways_cut hd]
theorem wait_same {d : List De} {w : List (List De)} (hd : (chk d).2 = 0) (h : chkW d w = 0) : w.map (·.map cutN) = w := by
  have h1 := (chkW_zero h).2.2
  clear h
  induction w with
  | nil => rfl
  | cons n l ih =>
    have hn := h1 n (List.mem_cons_self ..)
    have ho : ones d n = 0 := by
      have h2 := hn.2.2
      clear hn h1 ih
      induction n with
      | nil => rfl
      | cons m r ih2 =>
        unfold ones
        rw [if_neg (by simp [h2 m (List.mem_cons_self ..)])]
        exact ih2 (fun x hx => h2 x (List.mem_cons_of_mem _ hx))
    rw [List.map_cons, way_same hd ho, ih (fun x hx => h1 x (List.mem_cons_of_mem _ hx))]

/-- The ways as they are read, before they are checked. -/
def allW (s : St) : List (List De) × St × Nat :=
  if (rdNum s).2.err ≠ 0 then ([], (rdNum s).2, (rdNum s).2.err) else if 4 < (rdNum s).1 then ([], (rdNum s).2, 4) else rdWays (rdNum s).2 (rdNum s).1
theorem rdWay_eq (s : St) : rdWay s = if (rdNum s).2.err ≠ 0 then ([], (rdNum s).2, (rdNum s).2.err) else if 4 < (rdNum s).1 then ([], (rdNum s).2, 4) else rdNeeds (rdNum s).2 (rdNum s).1 := by
  unfold rdWay
  by_cases h : (rdNum s).2.err ≠ 0
  · have h0 := rdNum_fail h
    rw [if_pos h, if_neg (by omega), if_pos h]
  · rw [if_neg h, if_neg h]
theorem readW_eq2 (d : List De) (s : St) : readW d s = if (allW s).2.2 ≠ 0 then ([], (allW s).2.1, (allW s).2.2) else if chkW d (allW s).1 ≠ 0 then ([], (allW s).2.1, chkW d (allW s).1) else allW s := by
  unfold readW allW
  by_cases h : (rdNum s).2.err ≠ 0
  · have h0 := rdNum_fail h
    rw [if_neg (by omega), if_pos h, if_pos h, if_pos h]
  · rw [if_neg h, if_neg h]
    by_cases h4 : 4 < (rdNum s).1
    · rw [if_pos h4, if_pos h4]
      rfl
    · rw [if_neg h4, if_neg h4]
      dsimp only
      split
      · rfl
      · split
        · rfl
        · rename_i h1 h2
          have : (rdWays (rdNum s).2 (rdNum s).1).2.2 = 0 := by omega
          rw [← this]
theorem getW_prog {d : List De} (hd : (chk d).2 = 0) (t : List UInt8) : getW d t = if (allW ⟨t, 0⟩).2.2 ≠ 0 then ([], 0, (allW ⟨t, 0⟩).2.2)
    else if chkW d ((allW ⟨t, 0⟩).1.map (·.map cutN)) ≠ 0 then ([], 0, chkW d ((allW ⟨t, 0⟩).1.map (·.map cutN)))
    else ((allW ⟨t, 0⟩).1.map (·.map cutN), t.length - (allW ⟨t, 0⟩).2.1.rest.length, 0) := by
  unfold getW
  dsimp only
  rw [readW_eq2, chkW_cut hd]
  generalize allW ⟨t, 0⟩ = r at *
  obtain ⟨ls, S, e⟩ := r
  dsimp only
  by_cases h : e ≠ 0
  · rw [if_pos h, if_pos h]
    dsimp only
    rw [if_pos h]
  · rw [if_neg h, if_neg h]
    by_cases hc : chkW d ls ≠ 0
    · rw [if_pos hc, if_pos hc]
      dsimp only
      rw [if_pos hc]
    · rw [if_neg hc, if_neg hc, if_neg h, wait_same hd (by omega)]
theorem rdNeeds_empty {s : St} : ∀ j, (rdNeeds s j).2.2 ≠ 0 → (rdNeeds s j).1 = [] := by
  intro j
  induction j with
  | zero => intro h; exact absurd rfl h
  | succ j ih =>
    intro h
    simp only [rdNeeds] at h ⊢
    by_cases h1 : (rdNeeds s j).2.2 ≠ 0
    · rw [if_pos h1] at h ⊢
      exact ih h1
    · rw [if_neg h1] at h ⊢
      by_cases h2 : (rdNeed (rdNeeds s j).2.1).2.2 ≠ 0
      · rw [if_pos h2]
      · rw [if_neg h2] at h
        exact absurd rfl h
theorem rdWays_empty {s : St} : ∀ j, (rdWays s j).2.2 ≠ 0 → (rdWays s j).1 = [] := by
  intro j
  induction j with
  | zero => intro h; exact absurd rfl h
  | succ j ih =>
    intro h
    simp only [rdWays] at h ⊢
    by_cases h1 : (rdWays s j).2.2 ≠ 0
    · rw [if_pos h1] at h ⊢
      exact ih h1
    · rw [if_neg h1] at h ⊢
      by_cases h2 : (rdWay (rdWays s j).2.1).2.2 ≠ 0
      · rw [if_pos h2]
      · rw [if_neg h2] at h
        exact absurd rfl h
theorem rdNeed_state (s : St) : (rdNeed s).2.1 = (pNeed s).2 := by
  by_cases h : (pNeed s).2.err ≠ 0
  · rw [pNeed_err h]
  · by_cases hk : 1 ≤ (pNeed s).1.1 ∧ (pNeed s).1.1 ≤ 5
    · rw [(pNeed_fine (by omega) hk).1]
    · rw [pNeed_kind (by omega) hk]
theorem rdNeeds_ok {s : St} (h : s.ok) : ∀ j, (rdNeeds s j).2.1.ok := by
  intro j
  induction j with
  | zero => exact h
  | succ j ih =>
    simp only [rdNeeds]
    split
    · exact ih
    · split <;> (show (rdNeed _).2.1.ok; rw [rdNeed_state]; exact pNeed_ok ih)
theorem rdNeeds_left (s : St) : ∀ j, (rdNeeds s j).2.1.rest.length ≤ s.rest.length := by
  intro j
  induction j with
  | zero => exact Nat.le_refl _
  | succ j ih =>
    simp only [rdNeeds]
    split
    · exact ih
    · split <;> (show (rdNeed _).2.1.rest.length ≤ _; rw [rdNeed_state]; exact Nat.le_trans (pNeed_left _) ih)
theorem rdWay_ok {s : St} (h : s.ok) : (rdWay s).2.1.ok := by
  rw [rdWay_eq]
  split
  · exact rdNum_ok h
  · split
    · exact rdNum_ok h
    · exact rdNeeds_ok (rdNum_ok h) _
theorem rdWay_left (s : St) : (rdWay s).2.1.rest.length ≤ s.rest.length := by
  rw [rdWay_eq]
  split
  · exact rdNum_left s
  · split
    · exact rdNum_left s
    · exact Nat.le_trans (rdNeeds_left _ _) (rdNum_left s)
theorem rdWays_ok {s : St} (h : s.ok) : ∀ j, (rdWays s j).2.1.ok := by
  intro j
  induction j with
  | zero => exact h
  | succ j ih =>
    simp only [rdWays]
    split
    · exact ih
    · split <;> exact rdWay_ok ih
theorem rdWays_left (s : St) : ∀ j, (rdWays s j).2.1.rest.length ≤ s.rest.length := by
  intro j
  induction j with
  | zero => exact Nat.le_refl _
  | succ j ih =>
    simp only [rdWays]
    split
    · exact ih
    · split <;> exact Nat.le_trans (rdWay_left _) ih
theorem allW_left (s : St) : (allW s).2.1.rest.length ≤ s.rest.length := by
  unfold allW
  split
  · exact rdNum_left s
  · split
    · exact rdNum_left s
    · exact Nat.le_trans (rdWays_left _ _) (rdNum_left s)
theorem rdNeeds_stuck {s : St} {j : Nat} {q : List De × St × Nat} (h : rdNeeds s j = q) (hq : q.2.2 ≠ 0) : ∀ k, j ≤ k → rdNeeds s k = q := fun k hk => by
  rw [rdNeeds_err (by rw [h]; exact hq) k hk, h]
theorem rdWays_stuck {s : St} {j : Nat} {q : List (List De) × St × Nat} (h : rdWays s j = q) (hq : q.2.2 ≠ 0) : ∀ k, j ≤ k → rdWays s k = q := fun k hk => by
  rw [rdWays_err (by rw [h]; exact hq) k hk, h]
theorem rdNeeds_short {s : St} : ∀ j, (rdNeeds s j).1.length ≤ j := by
  intro j
  induction j with
  | zero => exact Nat.le_refl _
  | succ j ih =>
    simp only [rdNeeds]
    split
    · omega
    · split
      · simp
      · rw [List.length_append]; simp; exact ih
theorem rdWays_short {s : St} : ∀ j, (rdWays s j).1.length ≤ j := by
  intro j
  induction j with
  | zero => exact Nat.le_refl _
  | succ j ih =>
    simp only [rdWays]
    split
    · omega
    · split
      · simp
      · rw [List.length_append]; simp; exact ih
theorem allW_short (s : St) : (allW s).1.length ≤ 4 := by
  unfold allW
  split
  · simp
  · split
    · simp
    · have := rdWays_short (s := (rdNum s).2) (rdNum s).1
      omega
end Go.Proofs.YtigjeeedobnmhaaDoor.need

/-
  A list of objects as it lies in memory, wherever it came from; and a row of them that a call owns. No condition.
-/
namespace Go.Proofs.YtigjeeedobnmhaaDoor.objs
open Go.RowKit Go.ChangeShapes
set_option linter.unusedVariables false

/-- The three cells of an object. -/
def CellsAt (w : World) (b i : Nat) (d : De) : Prop := w.cell? ⟨b, i, none⟩ = some (.int .i64 d.1) ∧ w.cell? ⟨b, i + 1, none⟩ = some (.int .i64 d.2.1) ∧ w.cell? ⟨b, i + 2, none⟩ = some (.int .i64 d.2.2)
/-- A list of objects, one behind the other, from where a slice begins. -/
def DAt (w : World) (A : Option Addr) (l : List De) : Prop := ∀ j, j < l.length → ∃ b off, A = some ⟨b, off, none⟩ ∧ b < w.heap.size ∧ CellsAt w b (off + j * 3) (l.getD j zero)
theorem CellsAt.keep {w w' : World} {b i : Nat} {d : De} (h : CellsAt w b i d) (hb : w'.heap[b]? = w.heap[b]?) : CellsAt w' b i d :=
  ⟨(World.cell?_of_block (a := ⟨b, i, none⟩) hb).trans h.1, (World.cell?_of_block (a := ⟨b, i + 1, none⟩) hb).trans h.2.1, (World.cell?_of_block (a := ⟨b, i + 2, none⟩) hb).trans h.2.2⟩
theorem DAt.next {w w' : World} {A : Option Addr} {l : List De} (h : DAt w A l) (hb : Below w.heap.size w w') : DAt w' A l := fun j hj => by
  obtain ⟨b, off, h1, h2, h3⟩ := h j hj
  exact ⟨b, off, h1, Nat.lt_of_lt_of_le h2 hb.size, h3.keep (hb.block b h2)⟩
theorem DAt.drew {w : World} {A : Option Addr} {l : List De} (h : DAt w A l) : DAt w.drew A l := h
theorem DAt.drewN {w : World} {A : Option Addr} {l : List De} (h : DAt w A l) : ∀ n, DAt (w.drewN n) A l
  | 0 => h
  | n + 1 => (DAt.drewN h n).drew
theorem DAt.nil (w : World) (A : Option Addr) : DAt w A [] := fun j hj => absurd hj (Nat.not_lt_zero j)
theorem DAt.take {w : World} {A : Option Addr} {l : List De} (h : DAt w A l) (n : Nat) : DAt w A (l.take n) := fun j hj => by
  rw [List.length_take] at hj
  obtain ⟨b, off, h1, h2, h3⟩ := h j (by omega)
  refine ⟨b, off, h1, h2, ?_⟩
  rwa [List.getD_eq_getElem?_getD, List.getElem?_take_of_lt (by omega), ← List.getD_eq_getElem?_getD]

/-- Objects, cell by cell. -/
def flat (l : List De) : List Value := l.flatMap fun d => [.int .i64 d.1, .int .i64 d.2.1, .int .i64 d.2.2]
theorem flat_append (l r : List De) : flat (l ++ r) = flat l ++ flat r := by simp [flat]
theorem flat_cons (d : De) (l : List De) : flat (d :: l) = .int .i64 d.1 :: .int .i64 d.2.1 :: .int .i64 d.2.2 :: flat l := by simp [flat]
theorem flat_length (l : List De) : (flat l).length = l.length * 3 := by
  induction l with
  | nil => rfl
  | cons d l ih => rw [flat_cons]; simp only [List.length_cons, ih]; omega
theorem flat_oneCell (l : List De) : ∀ u ∈ flat l, u.oneCell' = true := by
  intro u hu
  simp only [flat, List.mem_flatMap] at hu
  obtain ⟨d, _, hd⟩ := hu
  simp only [List.mem_cons, List.not_mem_nil, or_false] at hd
  rcases hd with rfl | rfl | rfl <;> rfl
theorem flat_at (l : List De) : ∀ j, j < l.length → (flat l)[j * 3]? = some (.int .i64 (l.getD j zero).1) ∧ (flat l)[j * 3 + 1]? = some (.int .i64 (l.getD j zero).2.1) ∧ (flat l)[j * 3 + 2]? = some (.int .i64 (l.getD j zero).2.2) := by
  induction l with
  | nil => intro j hj; exact absurd hj (Nat.not_lt_zero j)
  | cons d l ih =>
    intro j hj
    rw [flat_cons]
    cases j with
    | zero => exact ⟨rfl, rfl, rfl⟩
    | succ j =>
      obtain ⟨h1, h2, h3⟩ := ih j (by simpa using hj)
      rw [show (j + 1) * 3 = j * 3 + 1 + 1 + 1 from by omega]
      exact ⟨h1, h2, h3⟩

/-- A slice's value of objects, nil or a row of the call's own. -/
def Own (w : World) (base : Nat) (v : Value) (l : List De) : Prop := w.ownsRow base 48 3 v l.length (flat l)
theorem Own.nil (w : World) (base : Nat) : Own w base (.slice none 0 0) [] := World.ownsRow_nil ..
theorem Own.empty {w : World} {g : Nat} (h : w.heap[g]? = some (.cells #[] 48 (0, 0))) : Own w g (.slice (some ⟨g, 0, none⟩) 0 0) [] :=
  ⟨rfl, .inr ⟨g, 0, #[], rfl, Nat.le_refl _, h, Nat.le_refl _, Nat.zero_le _, rfl, rfl⟩⟩
theorem Own.slice {w : World} {base : Nat} {v : Value} {l : List De} (h : Own w base v l) : ∃ A cap, v = .slice A l.length cap := by
  rcases h.2 with ⟨rfl, h0⟩ | ⟨g, cap, cur, rfl, _⟩
  · exact ⟨none, 0, by rw [h0]⟩
  · exact ⟨_, _, rfl⟩
theorem Own.at {w : World} {base cap : Nat} {A : Option Addr} {l : List De} {n : Nat} (h : Own w base (.slice A n cap) l) : DAt w A l := by
  intro j hj
  rcases h.2 with ⟨e, h0⟩ | ⟨g, cap', cur, e, hb, hh, _⟩
  · omega
  · injection e with e1 e2 e3
    subst e1
    obtain ⟨h1, h2, h3⟩ := flat_at l j hj
    refine ⟨g, 0, rfl, lt_of_block hh, ?_, ?_, ?_⟩
    · have := World.ownsRow.cells h (g := g) rfl _ _ h1
      rw [Addr.add_lit] at this
      simpa using this
    · have := World.ownsRow.cells h (g := g) rfl _ _ h2
      rw [Addr.add_lit] at this
      simpa using this
    · have := World.ownsRow.cells h (g := g) rfl _ _ h3
      rw [Addr.add_lit] at this
      simpa using this
theorem Own.keep {w w' : World} {base : Nat} {v : Value} {l : List De} (h : Own w base v l) (hk : ∀ g, v.ownBlock = some g → w'.heap[g]? = w.heap[g]?) : Own w' base v l := by
  refine ⟨h.1, h.2.imp id ?_⟩
  rintro ⟨g, c, cur, rfl, hb, hh, r⟩
  exact ⟨g, c, cur, rfl, hb, (hk g rfl).trans hh, r⟩
theorem Own.lt {w : World} {base g : Nat} {v : Value} {l : List De} (h : Own w base v l) (hg : v.ownBlock = some g) : base ≤ g ∧ g < w.heap.size := World.ownsRow.lt h g hg
theorem Own.next {w w' : World} {base : Nat} {v : Value} {l : List De} (h : Own w base v l) (hb : Below w.heap.size w w') : Own w' base v l := h.keep fun g hg => hb.block g (h.lt hg).2
theorem Own.base {w : World} {base base' : Nat} {v : Value} {l : List De} (h : Own w base v l) (hb : base' ≤ base) : Own w base' v l := by
  refine ⟨h.1, h.2.imp id ?_⟩
  rintro ⟨g, c, cur, e, hb1, r⟩
  exact ⟨g, c, cur, e, Nat.le_trans hb hb1, r⟩

theorem infoD : (Tryd.prog.info? 48).map (fun i => (i.zero, i.size, i.bytes)) = some (some (.agg #[.int .i64 0, .int .i64 0, .int .i64 0]), 3, 24) := by kernel_rfl

theorem src_cells {w : World} {ad : Addr} {r : List De} (h : DAt w (some ad) r) : ∀ (j : Nat) (u : Value), (flat r)[j]? = some u → w.cell? (ad.add j) = some u := by
  intro j u hu
  have hj : j < r.length * 3 := by
    have := (List.getElem?_eq_some_iff.1 hu).1
    rwa [flat_length] at this
  obtain ⟨b, off, e, _, h1, h2, h3⟩ := h (j / 3) (by omega)
  obtain rfl := Option.some.inj e
  obtain ⟨f1, f2, f3⟩ := flat_at r (j / 3) (by omega)
  rw [Addr.add_lit]
  rcases (by omega : j % 3 = 0 ∨ j % 3 = 1 ∨ j % 3 = 2) with hm | hm | hm
  · rw [show j / 3 * 3 = j from by omega] at h1 f1
    rw [h1, ← hu, f1]
  · rw [show off + j / 3 * 3 + 1 = off + j from by omega] at h2
    rw [show j / 3 * 3 + 1 = j from by omega] at f2
    rw [h2, ← hu, f2]
  · rw [show off + j / 3 * 3 + 2 = off + j from by omega] at h3
    rw [show j / 3 * 3 + 2 = j from by omega] at f3
    rw [h3, ← hu, f3]
/-- A list that lies anywhere, put behind a row of a call's own. -/
theorem run_appD (w : World) (ty : TypeId) (base m c : Nat) (v : Value) (A : Option Addr) (l r : List De) (hrow : Own w base v l) (hm : m = r.length) (hA : A = none → r = [] ∧ c = 0) (hsrc : DAt w A r) (hlen : l.length + r.length ≤ 100000) (hbase : base ≤ w.heap.size) :
    ∃ v' w', (Builtin.append_ #[22, 22] ty #[v, .slice A m c]).run Tryd.prog w = .ok v' w' ∧ Own w' base v' (l ++ r) ∧ w.grownBy w' v.ownBlock := by
  subst hm
  obtain ⟨i, hi, hz0, hz1, hz2⟩ := info_parts infoD
  cases A with
  | none =>
    obtain ⟨rfl, rfl⟩ := hA rfl
    refine ⟨v, w, run_append_owned_none (P := Tryd.prog) (w := w) base 22 ty 48 i 3 Tryd.underlying22 hi v l.length (flat l) hrow, ?_, ⟨rfl, rfl, rfl, Nat.le_refl _, fun _ _ _ => rfl⟩⟩
    rw [List.append_nil]
    exact hrow
  | some ad =>
    obtain ⟨v', w', h1, h2, h3, _⟩ := run_append_own (P := Tryd.prog) w base 22 ty 48 i _ 3 24 Tryd.underlying22 hi hz0 hz1 hz2 rfl (by omega) v l.length (flat l) hrow ad r.length c (flat r) (flat_length r) (src_cells hsrc) (flat_oneCell r) (by unfold maxLen; omega) (by omega) hbase
    refine ⟨v', w', h1, ?_, h3⟩
    unfold Own
    rw [List.length_append, flat_append]
    exact h2
theorem wp_appD {o : Oper} {a : Act} {w : World} {K : Act → World → Prop} {Q : Exit → Act → World → Prop} (s x : Operand)
    (ho : o.op = .call { callee := .builtin .append, args := #[s, x], argTypes := #[22, 22] }) (base m c : Nat) (v : Value) (A : Option Addr) (l r : List De)
    (hs : a.eval s = v) (hrow : Own w base v l) (hx : a.eval x = .slice A m c) (hm : m = r.length) (hA : A = none → r = [] ∧ c = 0) (hsrc : DAt w A r) (hlen : l.length + r.length ≤ 100000) (hbase : base ≤ w.heap.size)
    (h : ∀ v' w', Own w' base v' (l ++ r) → w.grownBy w' v.ownBlock → K (a.put o.dst v') w') : o.wp Tryd.prog a w K Q := by
  obtain ⟨v', w', hr, h2, h3⟩ := run_appD w o.type base m c v A l r hrow hm hA hsrc hlen hbase
  unfold Oper.wp execOp
  simp only [ho, resolve, invoke, builtin, Sem.run_bind, Sem.run_pure, Result.andThen_ok, List.map_toArray, List.map_cons, List.map_nil, hs, hx, hr]
  exact h v' w' h2 h3
theorem wpList_appD {ops : Array Oper} {rest : List Oper} {o : Oper} {a : Act} {w : World} {Q : Exit → Act → World → Prop} (hgd : o.guard = none) (s x : Operand)
    (ho : o.op = .call { callee := .builtin .append, args := #[s, x], argTypes := #[22, 22] }) (base m c : Nat) (v : Value) (A : Option Addr) (l r : List De)
    (hs : a.eval s = v) (hrow : Own w base v l) (hx : a.eval x = .slice A m c) (hm : m = r.length) (hA : A = none → r = [] ∧ c = 0) (hsrc : DAt w A r) (hlen : l.length + r.length ≤ 100000) (hbase : base ≤ w.heap.size)
    (h : ∀ v' w', Own w' base v' (l ++ r) → w.grownBy w' v.ownBlock → wpList Tryd.prog ops Q rest (a.put o.dst v') w') : wpList Tryd.prog ops Q (o :: rest) a w :=
  wpList_plain hgd fun _ hK => wp_appD s x ho base m c v A l r hs hrow hx hm hA hsrc hlen hbase fun v' w' h2 h3 => hK _ _ (h v' w' h2 h3)
theorem step_appD {ops : Array Oper} {o : Oper} {a : Act} {w : World} {K : Act → World → Prop} {Q : Exit → Act → World → Prop} {E : Prop} (hgd : o.guard = none) (s x : Operand)
    (ho : o.op = .call { callee := .builtin .append, args := #[s, x], argTypes := #[22, 22] }) (base m c : Nat) (v : Value) (A : Option Addr) (l r : List De)
    (hs : a.eval s = v) (hrow : Own w base v l) (hx : a.eval x = .slice A m c) (hm : m = r.length) (hA : A = none → r = [] ∧ c = 0) (hsrc : DAt w A r) (hlen : l.length + r.length ≤ 100000) (hbase : base ≤ w.heap.size)
    (h : ∀ v' w', Own w' base v' (l ++ r) → w.grownBy w' v.ownBlock → K (a.put o.dst v') w') :
    if Region.wanted o (yielded ops a.tmps) = true then Oper.wp Tryd.prog o a w K Q else E := by
  have hw : Region.wanted o (yielded ops a.tmps) = true := by simp [Region.wanted, hgd]
  rw [if_pos hw]
  exact wp_appD s x ho base m c v A l r hs hrow hx hm hA hsrc hlen hbase h
/-- An object in a block of its own, as a list of one. -/
theorem DAt.one {w : World} {g : Nat} {d : De} (h : w.heap[g]? = some (.cells #[.int .i64 d.1, .int .i64 d.2.1, .int .i64 d.2.2] 48 (0, 0))) : DAt w (some ⟨g, 0, none⟩) [d] := fun j hj => by
  obtain rfl : j = 0 := by simpa using hj
  refine ⟨g, 0, rfl, lt_of_block h, ?_, ?_, ?_⟩
  all_goals
    unfold World.cell?
    rw [h]
    rfl
end Go.Proofs.YtigjeeedobnmhaaDoor.objs

/-
  A list of objects that came in, and what a copy of it leaves. No condition.
-/
namespace Go.Proofs.YtigjeeedobnmhaaDoor.objs
open Go.RowKit Go.ChangeShapes
set_option linter.unusedVariables false

/-- An int. -/
def I64 (n : Int) : Prop := -9223372036854775808 ≤ n ∧ n ≤ 9223372036854775807
def Ints (l : List De) : Prop := ∀ j, j < l.length → I64 (l.getD j zero).1 ∧ I64 (l.getD j zero).2.1 ∧ I64 (l.getD j zero).2.2
/-- A list that came in: of at most a hundred, or the first hundred of it. -/
def LIn (w : World) (A : Option Addr) (n cap : Nat) (l : List De) : Prop := (A = none → n = 0 ∧ cap = 0) ∧ n ≤ cap ∧ cap ≤ 9223372036854775807 ∧ DAt w A l ∧ Ints l ∧ l.length = min n 100
theorem own_new (W : World) : Own (W.alloc (.cells #[] 48)) W.heap.size (.slice (some ⟨W.heap.size, 0, none⟩) 0 0) [] := Own.empty (heap_alloc_new W _)
/-- Behind the copy: what is as it was, and the copy. -/
theorem own_copy {w W W2 : World} {A : Option Addr} {l : List De} {v2 : Value} {r : Option Nat} (hA : DAt w A l) (hb : Below w.heap.size w W) (h1 : Own W2 W.heap.size v2 l) (hg : (W.alloc (.cells #[] 48)).grownBy W2 r) (hr : ∀ k, r = some k → k = W.heap.size) :
    Below w.heap.size w W2 ∧ DAt W2 A l ∧ ∃ A2 c2, v2 = .slice A2 l.length c2 ∧ DAt W2 A2 l := by
  have hb2 : Below w.heap.size w W2 := (hb.alloc hb.size _).grown hg (by simp; have := hb.size; omega) (fun k e => by rw [hr k e]; exact hb.size)
  obtain ⟨A2, c2, rfl⟩ := h1.slice
  exact ⟨hb2, hA.next hb2, A2, c2, rfl, h1.at⟩

theorem DAt.two {w : World} {g : Nat} {d e : De} (h : w.heap[g]? = some (.cells #[.int .i64 d.1, .int .i64 d.2.1, .int .i64 d.2.2, .int .i64 e.1, .int .i64 e.2.1, .int .i64 e.2.2] 48 (0, 0))) : DAt w (some ⟨g, 0, none⟩) [d, e] := fun j hj => by
  have hj2 : j < 2 := hj
  refine ⟨g, 0, rfl, lt_of_block h, ?_⟩
  unfold CellsAt World.cell?
  rw [h]
  match j, hj2 with
  | 0, _ => exact ⟨rfl, rfl, rfl⟩
  | 1, _ => exact ⟨rfl, rfl, rfl⟩
end Go.Proofs.YtigjeeedobnmhaaDoor.objs

/-
  A wait as it lies in memory, wherever it came from; a row of needs, and a row of ways, that a call owns. No condition.
-/
namespace Go.Proofs.YtigjeeedobnmhaaDoor.need
open Go.RowKit Go.ChangeShapes
open Go.Proofs.YtigjeeedobnmhaaDoor.objs (De zero CellsAt DAt flat flat_append flat_length flat_at flat_oneCell src_cells I64 Ints)
set_option linter.unusedVariables false

/-- A slice's value of objects, nil or a row of the call's own. -/
def OwnN (w : World) (base : Nat) (v : Value) (l : List De) : Prop := w.ownsRow base 50 3 v l.length (flat l)
theorem OwnN.nil (w : World) (base : Nat) : OwnN w base (.slice none 0 0) [] := World.ownsRow_nil ..
theorem OwnN.empty {w : World} {g : Nat} (h : w.heap[g]? = some (.cells #[] 50 (0, 0))) : OwnN w g (.slice (some ⟨g, 0, none⟩) 0 0) [] :=
  ⟨rfl, .inr ⟨g, 0, #[], rfl, Nat.le_refl _, h, Nat.le_refl _, Nat.zero_le _, rfl, rfl⟩⟩
theorem OwnN.slice {w : World} {base : Nat} {v : Value} {l : List De} (h : OwnN w base v l) : ∃ A cap, v = .slice A l.length cap := by
  rcases h.2 with ⟨rfl, h0⟩ | ⟨g, cap, cur, rfl, _⟩
  · exact ⟨none, 0, by rw [h0]⟩
  · exact ⟨_, _, rfl⟩
theorem OwnN.at {w : World} {base cap : Nat} {A : Option Addr} {l : List De} {n : Nat} (h : OwnN w base (.slice A n cap) l) : DAt w A l := by
  intro j hj
  rcases h.2 with ⟨e, h0⟩ | ⟨g, cap', cur, e, hb, hh, _⟩
  · omega
  · injection e with e1 e2 e3
    subst e1
    obtain ⟨h1, h2, h3⟩ := flat_at l j hj
    refine ⟨g, 0, rfl, lt_of_block hh, ?_, ?_, ?_⟩
    · have := World.ownsRow.cells h (g := g) rfl _ _ h1
      rw [Addr.add_lit] at this
      simpa using this
    · have := World.ownsRow.cells h (g := g) rfl _ _ h2
      rw [Addr.add_lit] at this
      simpa using this
    · have := World.ownsRow.cells h (g := g) rfl _ _ h3
      rw [Addr.add_lit] at this
      simpa using this
theorem OwnN.keep {w w' : World} {base : Nat} {v : Value} {l : List De} (h : OwnN w base v l) (hk : ∀ g, v.ownBlock = some g → w'.heap[g]? = w.heap[g]?) : OwnN w' base v l := by
  refine ⟨h.1, h.2.imp id ?_⟩
  rintro ⟨g, c, cur, rfl, hb, hh, r⟩
  exact ⟨g, c, cur, rfl, hb, (hk g rfl).trans hh, r⟩
theorem OwnN.lt {w : World} {base g : Nat} {v : Value} {l : List De} (h : OwnN w base v l) (hg : v.ownBlock = some g) : base ≤ g ∧ g < w.heap.size := World.ownsRow.lt h g hg
theorem OwnN.next {w w' : World} {base : Nat} {v : Value} {l : List De} (h : OwnN w base v l) (hb : Below w.heap.size w w') : OwnN w' base v l := h.keep fun g hg => hb.block g (h.lt hg).2
theorem OwnN.base {w : World} {base base' : Nat} {v : Value} {l : List De} (h : OwnN w base v l) (hb : base' ≤ base) : OwnN w base' v l := by
  refine ⟨h.1, h.2.imp id ?_⟩
  rintro ⟨g, c, cur, e, hb1, r⟩
  exact ⟨g, c, cur, e, Nat.le_trans hb hb1, r⟩

theorem infoN : (Tryd.prog.info? 50).map (fun i => (i.zero, i.size, i.bytes)) = some (some (.agg #[.int .i64 0, .int .i64 0, .int .i64 0]), 3, 24) := by kernel_rfl

/-- A list that lies anywhere, put behind a row of a call's own. -/
theorem run_appN (w : World) (ty : TypeId) (base m c : Nat) (v : Value) (A : Option Addr) (l r : List De) (hrow : OwnN w base v l) (hm : m = r.length) (hA : A = none → r = [] ∧ c = 0) (hsrc : DAt w A r) (hlen : l.length + r.length ≤ 100000) (hbase : base ≤ w.heap.size) :
    ∃ v' w', (Builtin.append_ #[51, 51] ty #[v, .slice A m c]).run Tryd.prog w = .ok v' w' ∧ OwnN w' base v' (l ++ r) ∧ w.grownBy w' v.ownBlock := by
  subst hm
  obtain ⟨i, hi, hz0, hz1, hz2⟩ := info_parts infoN
  cases A with
  | none =>
    obtain ⟨rfl, rfl⟩ := hA rfl
    refine ⟨v, w, run_append_owned_none (P := Tryd.prog) (w := w) base 51 ty 50 i 3 Tryd.underlying51 hi v l.length (flat l) hrow, ?_, ⟨rfl, rfl, rfl, Nat.le_refl _, fun _ _ _ => rfl⟩⟩
    rw [List.append_nil]
    exact hrow
  | some ad =>
    obtain ⟨v', w', h1, h2, h3, _⟩ := run_append_own (P := Tryd.prog) w base 51 ty 50 i _ 3 24 Tryd.underlying51 hi hz0 hz1 hz2 rfl (by omega) v l.length (flat l) hrow ad r.length c (flat r) (flat_length r) (src_cells hsrc) (flat_oneCell r) (by unfold maxLen; omega) (by omega) hbase
    refine ⟨v', w', h1, ?_, h3⟩
    unfold OwnN
    rw [List.length_append, flat_append]
    exact h2
theorem wp_appN {o : Oper} {a : Act} {w : World} {K : Act → World → Prop} {Q : Exit → Act → World → Prop} (s x : Operand)
    (ho : o.op = .call { callee := .builtin .append, args := #[s, x], argTypes := #[51, 51] }) (base m c : Nat) (v : Value) (A : Option Addr) (l r : List De)
    (hs : a.eval s = v) (hrow : OwnN w base v l) (hx : a.eval x = .slice A m c) (hm : m = r.length) (hA : A = none → r = [] ∧ c = 0) (hsrc : DAt w A r) (hlen : l.length + r.length ≤ 100000) (hbase : base ≤ w.heap.size)
    (h : ∀ v' w', OwnN w' base v' (l ++ r) → w.grownBy w' v.ownBlock → K (a.put o.dst v') w') : o.wp Tryd.prog a w K Q := by
  obtain ⟨v', w', hr, h2, h3⟩ := run_appN w o.type base m c v A l r hrow hm hA hsrc hlen hbase
  unfold Oper.wp execOp
  simp only [ho, resolve, invoke, builtin, Sem.run_bind, Sem.run_pure, Result.andThen_ok, List.map_toArray, List.map_cons, List.map_nil, hs, hx, hr]
  exact h v' w' h2 h3
theorem wpList_appN {ops : Array Oper} {rest : List Oper} {o : Oper} {a : Act} {w : World} {Q : Exit → Act → World → Prop} (hgd : o.guard = none) (s x : Operand)
    (ho : o.op = .call { callee := .builtin .append, args := #[s, x], argTypes := #[51, 51] }) (base m c : Nat) (v : Value) (A : Option Addr) (l r : List De)
    (hs : a.eval s = v) (hrow : OwnN w base v l) (hx : a.eval x = .slice A m c) (hm : m = r.length) (hA : A = none → r = [] ∧ c = 0) (hsrc : DAt w A r) (hlen : l.length + r.length ≤ 100000) (hbase : base ≤ w.heap.size)
    (h : ∀ v' w', OwnN w' base v' (l ++ r) → w.grownBy w' v.ownBlock → wpList Tryd.prog ops Q rest (a.put o.dst v') w') : wpList Tryd.prog ops Q (o :: rest) a w :=
  wpList_plain hgd fun _ hK => wp_appN s x ho base m c v A l r hs hrow hx hm hA hsrc hlen hbase fun v' w' h2 h3 => hK _ _ (h v' w' h2 h3)
theorem step_appN {ops : Array Oper} {o : Oper} {a : Act} {w : World} {K : Act → World → Prop} {Q : Exit → Act → World → Prop} {E : Prop} (hgd : o.guard = none) (s x : Operand)
    (ho : o.op = .call { callee := .builtin .append, args := #[s, x], argTypes := #[51, 51] }) (base m c : Nat) (v : Value) (A : Option Addr) (l r : List De)
    (hs : a.eval s = v) (hrow : OwnN w base v l) (hx : a.eval x = .slice A m c) (hm : m = r.length) (hA : A = none → r = [] ∧ c = 0) (hsrc : DAt w A r) (hlen : l.length + r.length ≤ 100000) (hbase : base ≤ w.heap.size)
    (h : ∀ v' w', OwnN w' base v' (l ++ r) → w.grownBy w' v.ownBlock → K (a.put o.dst v') w') :
    if Region.wanted o (yielded ops a.tmps) = true then Oper.wp Tryd.prog o a w K Q else E := by
  have hw : Region.wanted o (yielded ops a.tmps) = true := by simp [Region.wanted, hgd]
  rw [if_pos hw]
  exact wp_appN s x ho base m c v A l r hs hrow hx hm hA hsrc hlen hbase h
theorem DAt.oneN {w : World} {g : Nat} {d : De} (h : w.heap[g]? = some (.cells #[.int .i64 d.1, .int .i64 d.2.1, .int .i64 d.2.2] 50 (0, 0))) : DAt w (some ⟨g, 0, none⟩) [d] := fun j hj => by
  obtain rfl : j = 0 := by simpa using hj
  refine ⟨g, 0, rfl, lt_of_block h, ?_, ?_, ?_⟩
  all_goals
    unfold World.cell?
    rw [h]
    rfl
/-- What a row of needs holds: its block is one of needs. -/
theorem OwnN.kind {w : World} {base g : Nat} {v : Value} {l : List De} (h : OwnN w base v l) (hg : v.ownBlock = some g) : ∃ cur, w.heap[g]? = some (.cells cur 50 (0, 0)) := by
  rcases h.2 with ⟨rfl, _⟩ | ⟨g', cap, cur, rfl, _, hh, _⟩
  · cases hg
  · simp [Value.ownBlock] at hg
    subst hg
    exact ⟨cur, hh⟩

/-- A list of ways, each a list of needs, from where a slice begins: all of it. -/
def WAt (w : World) (A : Option Addr) (l : List (List De)) : Prop :=
  ∀ j, j < l.length → ∃ b off Aj cj, A = some ⟨b, off, none⟩ ∧ b < w.heap.size ∧ w.cell? ⟨b, off + j, none⟩ = some (.slice Aj (l.getD j []).length cj) ∧ DAt w Aj (l.getD j [])
theorem WAt.next {w w' : World} {A : Option Addr} {l : List (List De)} (h : WAt w A l) (hb : Below w.heap.size w w') : WAt w' A l := fun j hj => by
  obtain ⟨b, off, Aj, cj, h1, h2, h3, h4⟩ := h j hj
  exact ⟨b, off, Aj, cj, h1, Nat.lt_of_lt_of_le h2 hb.size, (hb.cell (p := ⟨b, off + j, none⟩) h2).trans h3, h4.next hb⟩
theorem WAt.drew {w : World} {A : Option Addr} {l : List (List De)} (h : WAt w A l) : WAt w.drew A l := h
theorem WAt.drewN {w : World} {A : Option Addr} {l : List (List De)} (h : WAt w A l) : ∀ n, WAt (w.drewN n) A l
  | 0 => h
  | n + 1 => (WAt.drewN h n).drew
theorem WAt.nil (w : World) (A : Option Addr) : WAt w A [] := fun j hj => absurd hj (Nat.not_lt_zero j)
/-- The first six ways of a list, of each the first six needs, and how many there are. -/
def WG (w : World) (A : Option Addr) (n : Nat) (l : List (List De)) : Prop :=
  l.length = min n 6 ∧ ∀ j, j < l.length → ∃ b off Aj nj cj, A = some ⟨b, off, none⟩ ∧ b < w.heap.size ∧ w.cell? ⟨b, off + j, none⟩ = some (.slice Aj nj cj) ∧ DAt w Aj (l.getD j []) ∧ (l.getD j []).length = min nj 6 ∧ nj ≤ cj ∧ cj ≤ 9223372036854775807 ∧ (Aj = none → nj = 0 ∧ cj = 0)
theorem WG.next {w w' : World} {A : Option Addr} {n : Nat} {l : List (List De)} (h : WG w A n l) (hb : Below w.heap.size w w') : WG w' A n l := ⟨h.1, fun j hj => by
  obtain ⟨b, off, Aj, nj, cj, h1, h2, h3, h4, h5⟩ := h.2 j hj
  exact ⟨b, off, Aj, nj, cj, h1, Nat.lt_of_lt_of_le h2 hb.size, (hb.cell (p := ⟨b, off + j, none⟩) h2).trans h3, h4.next hb, h5⟩⟩
/-- One that is no longer is there whole. -/
theorem WG.whole {w : World} {A : Option Addr} {n : Nat} {l : List (List De)} (h : WG w A n l) (hl : l.length ≤ 5) (hw : ∀ x ∈ l, x.length ≤ 5) : n = l.length ∧ WAt w A l := by
  refine ⟨by have := h.1; omega, fun j hj => ?_⟩
  obtain ⟨b, off, Aj, nj, cj, h1, h2, h3, h4, h5, _⟩ := h.2 j hj
  have hm := hw _ (getW_mem hj)
  have : nj = (l.getD j []).length := by omega
  subst this
  exact ⟨b, off, Aj, cj, h1, h2, h3, h4⟩

/-- A row of ways that a call owns, each of them a row of needs of the call's own. -/
def OwnW (W : World) (base : Nat) (v : Value) (l : List (List De)) : Prop :=
  ∃ xs : List Value, W.ownsRow base 51 1 v l.length xs ∧ ∀ j, j < l.length → ∃ x, xs[j]? = some x ∧ OwnN W base x (l.getD j [])
theorem OwnW.slice {w : World} {base : Nat} {v : Value} {l : List (List De)} (h : OwnW w base v l) : ∃ A cap, v = .slice A l.length cap := by
  obtain ⟨xs, h1, _⟩ := h
  rcases h1.2 with ⟨rfl, h0⟩ | ⟨g, cap, cur, rfl, _⟩
  · exact ⟨none, 0, by rw [h0]⟩
  · exact ⟨_, _, rfl⟩
theorem OwnW.next {w w' : World} {base : Nat} {v : Value} {l : List (List De)} (h : OwnW w base v l) (hb : Below w.heap.size w w') : OwnW w' base v l := by
  obtain ⟨xs, h1, h2⟩ := h
  refine ⟨xs, ?_, fun j hj => ?_⟩
  · refine ⟨h1.1, h1.2.imp id ?_⟩
    rintro ⟨g, c, cur, rfl, hg, hh, r⟩
    exact ⟨g, c, cur, rfl, hg, (hb.block g (lt_of_block hh)).trans hh, r⟩
  · obtain ⟨x, h3, h4⟩ := h2 j hj
    exact ⟨x, h3, h4.next hb⟩
theorem OwnW.nil (w : World) (base : Nat) : OwnW w base (.slice none 0 0) [] := ⟨[], World.ownsRow_nil .., fun j hj => absurd hj (Nat.not_lt_zero j)⟩
theorem OwnW.empty {w : World} {g : Nat} (h : w.heap[g]? = some (.cells #[] 51 (0, 0))) : OwnW w g (.slice (some ⟨g, 0, none⟩) 0 0) [] :=
  ⟨[], ⟨rfl, .inr ⟨g, 0, #[], rfl, Nat.le_refl _, h, Nat.le_refl _, Nat.zero_le _, rfl, rfl⟩⟩, fun j hj => absurd hj (Nat.not_lt_zero j)⟩
theorem OwnW.base {w : World} {base base' : Nat} {v : Value} {l : List (List De)} (h : OwnW w base v l) (hb : base' ≤ base) : OwnW w base' v l := by
  obtain ⟨xs, h1, h2⟩ := h
  refine ⟨xs, ⟨h1.1, h1.2.imp id ?_⟩, fun j hj => ?_⟩
  · rintro ⟨g, c, cur, e, hg, r⟩
    exact ⟨g, c, cur, e, Nat.le_trans hb hg, r⟩
  · obtain ⟨x, h3, h4⟩ := h2 j hj
    exact ⟨x, h3, h4.base hb⟩
theorem OwnW.at {w : World} {base cap : Nat} {A : Option Addr} {l : List (List De)} {n : Nat} (h : OwnW w base (.slice A n cap) l) : WAt w A l := by
  intro j hj
  obtain ⟨xs, h1, h2⟩ := h
  obtain ⟨x, h3, h4⟩ := h2 j hj
  rcases h1.2 with ⟨e, h0⟩ | ⟨g, cap', cur, e, hb, hh, _⟩
  · omega
  · injection e with e1 e2 e3
    subst e1
    obtain ⟨Aj, cj, rfl⟩ := h4.slice
    refine ⟨g, 0, Aj, cj, rfl, lt_of_block hh, ?_, h4.at⟩
    have := World.ownsRow.cells h1 (g := g) rfl _ _ h3
    rw [Addr.add_lit] at this
    simpa using this
theorem infoW : (Tryd.prog.info? 51).map (fun i => (i.zero, i.size, i.bytes)) = some (some (.slice none 0 0), 1, 24) := by kernel_rfl

/-- One way, in a block of its own, put behind a row of ways. -/
theorem run_appW (w w1 : World) (ty : TypeId) (base c : Nat) (v x : Value) (l : List (List De)) (r : List De) (hrow : OwnW w base v l) (hx : OwnN w base x r) (hw1 : w1 = w.alloc (.cells #[x] 51)) (hlen : l.length ≤ 1000) (hbase : base ≤ w.heap.size) :
    ∃ v' w', (Builtin.append_ #[23, 23] ty #[v, .slice (some ⟨w.heap.size, 0, none⟩) 1 c]).run Tryd.prog w1 = .ok v' w' ∧ OwnW w' base v' (l ++ [r]) ∧ w1.grownBy w' v.ownBlock := by
  subst hw1
  obtain ⟨i, hi, hz0, hz1, hz2⟩ := info_parts infoW
  obtain ⟨xs, h1, h2⟩ := hrow
  have hb0 : Below w.heap.size w (w.alloc (.cells #[x] 51)) := (Below.refl _ w).alloc (Nat.le_refl _) _
  have hc : (w.alloc (.cells #[x] 51)).cell? ⟨w.heap.size, 0, none⟩ = some x := by
    unfold World.cell?
    rw [heap_alloc_new w _]
    rfl
  have hrow1 : (w.alloc (.cells #[x] 51)).ownsRow base 51 1 v l.length xs := by
    refine ⟨h1.1, h1.2.imp id ?_⟩
    rintro ⟨g, c, cur, rfl, hg, hh, r⟩
    exact ⟨g, c, cur, rfl, hg, (hb0.block g (lt_of_block hh)).trans hh, r⟩
  obtain ⟨Ax, cx, hxs⟩ := hx.slice
  obtain ⟨v', w', r1, r2, r3, _⟩ := run_append_own (P := Tryd.prog) (w.alloc (.cells #[x] 51)) base 23 ty 51 i _ 1 24 Tryd.underlying23 hi hz0 hz1 hz2 rfl (by omega) v l.length xs hrow1 ⟨w.heap.size, 0, none⟩ 1 c [x] rfl (by
      intro j u hu
      rcases j with _ | j
      · simp only [List.getElem?_cons_zero, Option.some.injEq] at hu
        subst hu
        rw [Addr.add_lit]
        exact hc
      · simp at hu) (by
      intro u hu
      simp only [List.mem_singleton] at hu
      subst hu
      rw [hxs]
      rfl) (by unfold maxLen; omega) (by omega) (by simp; omega)
  refine ⟨v', w', r1, ⟨xs ++ [x], ?_, fun j hj => ?_⟩, r3⟩
  · rw [List.length_append]
    exact r2
  · have hlx : xs.length = l.length := by have := h1.1; omega
    have keep : ∀ (y : Value) (r' : List De), OwnN w base y r' → OwnN w' base y r' := fun y r' hy => hy.keep fun g hg => by
      have hlt := (hy.lt hg).2
      obtain ⟨cur, hk⟩ := hy.kind hg
      rw [r3.block g (by have := hb0.size; omega) (fun e => ?_), hb0.block g hlt]
      rcases h1.2 with ⟨rfl, _⟩ | ⟨g', cap', cur', rfl, _, hh, _⟩
      · cases e
      · simp [Value.ownBlock] at e
        subst e
        rw [hk] at hh
        injection hh with hh
        injection hh with _ hh _
        exact absurd hh (by decide)
    rcases Nat.lt_or_ge j l.length with hj2 | hj2
    · obtain ⟨y, h3, h4⟩ := h2 j hj2
      refine ⟨y, by rw [List.getElem?_append_left (by omega)]; exact h3, ?_⟩
      rw [show (l ++ [r]).getD j [] = l.getD j [] from by rw [List.getD_eq_getElem?_getD, List.getD_eq_getElem?_getD, List.getElem?_append_left hj2]]
      exact keep _ _ h4
    · rw [List.length_append] at hj
      obtain rfl : j = l.length := by simp at hj; omega
      refine ⟨x, by rw [List.getElem?_append_right (by omega), hlx, Nat.sub_self]; rfl, ?_⟩
      rw [show (l ++ [r]).getD l.length [] = r from by rw [List.getD_eq_getElem?_getD, List.getElem?_append_right (Nat.le_refl _), Nat.sub_self]; rfl]
      exact keep _ _ hx
theorem wp_appW {o : Oper} {a : Act} {w w1 : World} {K : Act → World → Prop} {Q : Exit → Act → World → Prop} (s y : Operand)
    (ho : o.op = .call { callee := .builtin .append, args := #[s, y], argTypes := #[23, 23] }) (base c : Nat) (v x : Value) (l : List (List De)) (r : List De)
    (hs : a.eval s = v) (hrow : OwnW w base v l) (hy : a.eval y = .slice (some ⟨w.heap.size, 0, none⟩) 1 c) (hx : OwnN w base x r) (hw1 : w1 = w.alloc (.cells #[x] 51)) (hlen : l.length ≤ 1000) (hbase : base ≤ w.heap.size)
    (h : ∀ v' w', OwnW w' base v' (l ++ [r]) → w1.grownBy w' v.ownBlock → K (a.put o.dst v') w') : o.wp Tryd.prog a w1 K Q := by
  obtain ⟨v', w', hr, h2, h3⟩ := run_appW w w1 o.type base c v x l r hrow hx hw1 hlen hbase
  unfold Oper.wp execOp
  simp only [ho, resolve, invoke, builtin, Sem.run_bind, Sem.run_pure, Result.andThen_ok, List.map_toArray, List.map_cons, List.map_nil, hs, hy, hr]
  exact h v' w' h2 h3
theorem wpList_appW {ops : Array Oper} {rest : List Oper} {o : Oper} {a : Act} {w w1 : World} {Q : Exit → Act → World → Prop} (hgd : o.guard = none) (s y : Operand)
    (ho : o.op = .call { callee := .builtin .append, args := #[s, y], argTypes := #[23, 23] }) (base c : Nat) (v x : Value) (l : List (List De)) (r : List De)
    (hs : a.eval s = v) (hrow : OwnW w base v l) (hy : a.eval y = .slice (some ⟨w.heap.size, 0, none⟩) 1 c) (hx : OwnN w base x r) (hw1 : w1 = w.alloc (.cells #[x] 51)) (hlen : l.length ≤ 1000) (hbase : base ≤ w.heap.size)
    (h : ∀ v' w', OwnW w' base v' (l ++ [r]) → w1.grownBy w' v.ownBlock → wpList Tryd.prog ops Q rest (a.put o.dst v') w') : wpList Tryd.prog ops Q (o :: rest) a w1 :=
  wpList_plain hgd fun _ hK => wp_appW s y ho base c v x l r hs hrow hy hx hw1 hlen hbase fun v' w' h2 h3 => hK _ _ (h v' w' h2 h3)
theorem step_appW {ops : Array Oper} {o : Oper} {a : Act} {w w1 : World} {K : Act → World → Prop} {Q : Exit → Act → World → Prop} {E : Prop} (hgd : o.guard = none) (s y : Operand)
    (ho : o.op = .call { callee := .builtin .append, args := #[s, y], argTypes := #[23, 23] }) (base c : Nat) (v x : Value) (l : List (List De)) (r : List De)
    (hs : a.eval s = v) (hrow : OwnW w base v l) (hy : a.eval y = .slice (some ⟨w.heap.size, 0, none⟩) 1 c) (hx : OwnN w base x r) (hw1 : w1 = w.alloc (.cells #[x] 51)) (hlen : l.length ≤ 1000) (hbase : base ≤ w.heap.size)
    (h : ∀ v' w', OwnW w' base v' (l ++ [r]) → w1.grownBy w' v.ownBlock → K (a.put o.dst v') w') :
    if Region.wanted o (yielded ops a.tmps) = true then Oper.wp Tryd.prog o a w1 K Q else E := by
  have hw : Region.wanted o (yielded ops a.tmps) = true := by simp [Region.wanted, hgd]
  rw [if_pos hw]
  exact wp_appW s y ho base c v x l r hs hrow hy hx hw1 hlen hbase h
end Go.Proofs.YtigjeeedobnmhaaDoor.need

/-
  The document's own answers of words, each by itself: the word of the lowest bits, which numbers are words, a bit, two words bit by bit, a word that is moved, and what an operation comes to. No condition.
-/
namespace Go.Proofs.YtigjeeedobnmhaaDoor.word
open Go.RowKit Go.ChangeShapes

theorem ret_int {k : IntKind} {a b : Int} (h : a = b) : Ending.returned (.int k a) = .returned (.int k b) := by rw [h]
theorem ret_bool {a b : Bool} (h : a = b) : Ending.returned (.bool a) = .returned (.bool b) := by rw [h]

set_option maxHeartbeats 400000 in
theorem refFits_any (n : Int) (w : World) :
    Calls Tryd.prog 59 #[.int .i64 n] w fun e w' => e = .returned (.bool (decide (Word n))) ∧ w = w' := by
  by_cases h1 : -2147483648 ≤ n
  · by_cases h2 : n < 2147483648
    · have HE : Hid (decide (Word n) = true) := Lib.hid (by rw [decide_eq_true_iff]; unfold Word; omega)
      go_enter Tryd.func59, Tryd.ntmps59
      go_wp2
      go_ret
      exact ⟨ret_bool HE.out.symm, rfl⟩
    · have HE : Hid (decide (Word n) = false) := Lib.hid (by rw [decide_eq_false_iff_not]; unfold Word; omega)
      have hd : decide (n < 2147483648) = false := by simpa using h2
      go_enter Tryd.func59, Tryd.ntmps59
      go_wp2
      go_ret
      exact ⟨ret_bool HE.out.symm, rfl⟩
  · have HE : Hid (decide (Word n) = false) := Lib.hid (by rw [decide_eq_false_iff_not]; unfold Word; omega)
    have hd : decide (-2147483648 ≤ n) = false := by simpa using h1
    go_enter Tryd.func59, Tryd.ntmps59
    go_wp2
    go_ret
    exact ⟨ret_bool HE.out.symm, rfl⟩

/-- Two numbers, as a call tells them. -/
def two (p : Int × Int) : Value := .tuple #[.int .i64 p.1, .int .i64 p.2]

end Go.Proofs.YtigjeeedobnmhaaDoor.word

/-
  The document's names of kinds, the kinds that a letter stands for, and whether an object is of one. No condition.
-/
namespace Go.Proofs.YtigjeeedobnmhaaDoor.objs
open Go.RowKit Go.ChangeShapes
open Go.Proofs.YtigjeeedobnmhaaDoor.word (Word)
set_option linter.unusedVariables false

theorem ret_int {k : IntKind} {a b : Int} (h : a = b) : Ending.returned (.int k a) = .returned (.int k b) := by rw [h]
theorem ret_bool {a b : Bool} (h : a = b) : Ending.returned (.bool a) = .returned (.bool b) := by rw [h]
theorem ret_string {a b : ByteArray} (h : a = b) : Ending.returned (.string a) = .returned (.string b) := by rw [h]

/-- A list of kinds that a call has made. -/
def KAt (w : World) (A : Option Addr) (ks : List Int) : Prop := ∀ j, j < ks.length → ∃ b, A = some ⟨b, 0, none⟩ ∧ w.cell? ⟨b, j, none⟩ = some (.int .i64 (ks.getD j 0))
def KindsPost (c : UInt8) (w : World) (e : Ending) (w' : World) : Prop := ∃ A, e = .returned (.slice A (kindsOf c).length (kindsOf c).length) ∧ KAt w' A (kindsOf c) ∧ Below w.heap.size w w'
theorem kat_one {w : World} {b : Nat} {k : Int} (h : w.heap[b]? = some (.cells #[.int .i64 k] 3 (0, 0))) : KAt w (some ⟨b, 0, none⟩) [k] := fun j hj => by
  obtain rfl : j = 0 := by simpa using hj
  refine ⟨b, rfl, ?_⟩
  unfold World.cell?
  rw [h]
  rfl
theorem kat_two {w : World} {b : Nat} {k m : Int} (h : w.heap[b]? = some (.cells #[.int .i64 k, .int .i64 m] 3 (0, 0))) : KAt w (some ⟨b, 0, none⟩) [k, m] := fun j hj => by
  have hj2 : j < 2 := hj
  refine ⟨b, rfl, ?_⟩
  unfold World.cell?
  rw [h]
  match j, hj2 with
  | 0, _ => rfl
  | 1, _ => rfl
def letters : List UInt8 := [117, 115, 112, 99, 109, 98, 118, 113]
theorem kinds_none {c : UInt8} (h : ∀ k, k < 8 → c ≠ letters.getD k 0) : kindsOf c = [] := by
  have h0 : c ≠ 117 := h 0 (by omega)
  have h1 : c ≠ 115 := h 1 (by omega)
  have h2 : c ≠ 112 := h 2 (by omega)
  have h3 : c ≠ 99 := h 3 (by omega)
  have h4 : c ≠ 109 := h 4 (by omega)
  have h5 : c ≠ 98 := h 5 (by omega)
  have h6 : c ≠ 118 := h 6 (by omega)
  have h7 : c ≠ 113 := h 7 (by omega)
  unfold kindsOf
  rw [if_neg h0, if_neg h1, if_neg h2, if_neg h3, if_neg h4, if_neg h5, if_neg h6, if_neg h7]
theorem u8_eq {c k : UInt8} : ((k.toNat : Int) == (c.toNat : Int)) = decide (c = k) := by
  by_cases h : c = k
  · subst h; simp
  · rw [decide_eq_false h, beq_eq_false_iff_ne]
    intro e
    exact h (UInt8.toNat_inj.1 (by omega))

/-- The world in which all lists of kinds are made. -/
def ints1 (k : Int) : Obj := .cells #[.int .i64 k] 3
def ints2 (k m : Int) : Obj := .cells #[.int .i64 k, .int .i64 m] 3
def rows (n : Nat) : Obj := .cells #[.slice (some ⟨n, 0, none⟩) 2 2, .slice (some ⟨n + 1, 0, none⟩) 1 1, .slice (some ⟨n + 1 + 1, 0, none⟩) 1 1, .slice (some ⟨n + 1 + 1 + 1, 0, none⟩) 1 1, .slice (some ⟨n + 1 + 1 + 1 + 1, 0, none⟩) 1 1, .slice (some ⟨n + 1 + 1 + 1 + 1 + 1, 0, none⟩) 1 1, .slice (some ⟨n + 1 + 1 + 1 + 1 + 1 + 1, 0, none⟩) 1 1, .slice (some ⟨n + 1 + 1 + 1 + 1 + 1 + 1 + 1, 0, none⟩) 2 2] 81
def kw (w : World) : World := ((((((((w.alloc (ints2 1 2)).alloc (ints1 3)).alloc (ints1 6)).alloc (ints1 4)).alloc (ints1 1)).alloc (ints1 5)).alloc (ints1 7)).alloc (ints2 1 6)).alloc (rows w.heap.size)
theorem kw_below (w : World) : Below w.heap.size w (kw w) := by
  unfold kw
  refine (((((((((Below.refl _ w).alloc (Nat.le_refl _) _).alloc ?_ _).alloc ?_ _).alloc ?_ _).alloc ?_ _).alloc ?_ _).alloc ?_ _).alloc ?_ _).alloc ?_ _
  all_goals simp only [World.size_alloc]; omega
theorem kw_at (w : World) : (kw w).heap[w.heap.size]? = some (ints2 1 2) ∧ (kw w).heap[w.heap.size + 1]? = some (ints1 3) ∧ (kw w).heap[w.heap.size + 1 + 1]? = some (ints1 6) ∧ (kw w).heap[w.heap.size + 1 + 1 + 1]? = some (ints1 4) ∧
    (kw w).heap[w.heap.size + 1 + 1 + 1 + 1]? = some (ints1 1) ∧ (kw w).heap[w.heap.size + 1 + 1 + 1 + 1 + 1]? = some (ints1 5) ∧ (kw w).heap[w.heap.size + 1 + 1 + 1 + 1 + 1 + 1]? = some (ints1 7) ∧ (kw w).heap[w.heap.size + 1 + 1 + 1 + 1 + 1 + 1 + 1]? = some (ints2 1 6) ∧
    (kw w).heap[w.heap.size + 1 + 1 + 1 + 1 + 1 + 1 + 1 + 1]? = some (rows w.heap.size) := by
  unfold kw
  refine ⟨?_, ?_, ?_, ?_, ?_, ?_, ?_, ?_, ?_⟩
  all_goals simp only [World.alloc, Array.getElem?_push, Array.size_push]
  all_goals repeat (first | rw [if_pos trivial] | rw [if_neg (by omega)])

set_option maxRecDepth 100000 in
set_option maxHeartbeats 4000000 in
theorem refKinds_any (c : UInt8) (w : World) : Calls Tryd.prog 70 #[.int .u8 (c.toNat : Int)] w (KindsPost c w) := by
  go_enter Tryd.func70, Tryd.ntmps70
  have HB := Lib.hid (kw_below w)
  obtain ⟨k0, k1, k2, k3, k4, k5, k6, k7, k8⟩ := kw_at w
  have H0 := Lib.hid (kat_two k0)
  have H1 := Lib.hid (kat_one k1)
  have H2 := Lib.hid (kat_one k2)
  have H3 := Lib.hid (kat_one k3)
  have H4 := Lib.hid (kat_one k4)
  have H5 := Lib.hid (kat_one k5)
  have H6 := Lib.hid (kat_one k6)
  have H7 := Lib.hid (kat_two k7)
  have HR : ∀ j, j < 8 → ∃ x, (kw w).cell? ⟨w.heap.size + 1 + 1 + 1 + 1 + 1 + 1 + 1 + 1, j, none⟩ = some x := by
    intro j hj
    unfold World.cell?
    rw [k8]
    unfold rows
    rcases (by omega : j = 0 ∨ j = 1 ∨ j = 2 ∨ j = 3 ∨ j = 4 ∨ j = 5 ∨ j = 6 ∨ j = 7) with rfl | rfl | rfl | rfl | rfl | rfl | rfl | rfl <;> exact ⟨_, rfl⟩
  have r0 : (kw w).cell? ⟨w.heap.size + 1 + 1 + 1 + 1 + 1 + 1 + 1 + 1, 0, none⟩ = some (.slice (some ⟨w.heap.size, 0, none⟩) 2 2) := by unfold World.cell?; rw [k8]; rfl
  have r1 : (kw w).cell? ⟨w.heap.size + 1 + 1 + 1 + 1 + 1 + 1 + 1 + 1, 1, none⟩ = some (.slice (some ⟨w.heap.size + 1, 0, none⟩) 1 1) := by unfold World.cell?; rw [k8]; rfl
  have r2 : (kw w).cell? ⟨w.heap.size + 1 + 1 + 1 + 1 + 1 + 1 + 1 + 1, 2, none⟩ = some (.slice (some ⟨w.heap.size + 1 + 1, 0, none⟩) 1 1) := by unfold World.cell?; rw [k8]; rfl
  have r3 : (kw w).cell? ⟨w.heap.size + 1 + 1 + 1 + 1 + 1 + 1 + 1 + 1, 3, none⟩ = some (.slice (some ⟨w.heap.size + 1 + 1 + 1, 0, none⟩) 1 1) := by unfold World.cell?; rw [k8]; rfl
  have r4 : (kw w).cell? ⟨w.heap.size + 1 + 1 + 1 + 1 + 1 + 1 + 1 + 1, 4, none⟩ = some (.slice (some ⟨w.heap.size + 1 + 1 + 1 + 1, 0, none⟩) 1 1) := by unfold World.cell?; rw [k8]; rfl
  have r5 : (kw w).cell? ⟨w.heap.size + 1 + 1 + 1 + 1 + 1 + 1 + 1 + 1, 5, none⟩ = some (.slice (some ⟨w.heap.size + 1 + 1 + 1 + 1 + 1, 0, none⟩) 1 1) := by unfold World.cell?; rw [k8]; rfl
  have r6 : (kw w).cell? ⟨w.heap.size + 1 + 1 + 1 + 1 + 1 + 1 + 1 + 1, 6, none⟩ = some (.slice (some ⟨w.heap.size + 1 + 1 + 1 + 1 + 1 + 1, 0, none⟩) 1 1) := by unfold World.cell?; rw [k8]; rfl
  have r7 : (kw w).cell? ⟨w.heap.size + 1 + 1 + 1 + 1 + 1 + 1 + 1 + 1, 7, none⟩ = some (.slice (some ⟨w.heap.size + 1 + 1 + 1 + 1 + 1 + 1 + 1, 0, none⟩) 2 2) := by unfold World.cell?; rw [k8]; rfl
  clear k0 k1 k2 k3 k4 k5 k6 k7 k8 HR
  obtain ⟨n8, hn8⟩ : ∃ n8, n8 = w.heap.size + 1 + 1 + 1 + 1 + 1 + 1 + 1 + 1 := ⟨_, rfl⟩
  obtain ⟨W1, hW1⟩ : ∃ W1, W1 = kw w := ⟨_, rfl⟩
  rw [← hn8, ← hW1] at r0 r1 r2 r3 r4 r5 r6 r7
  rw [← hW1] at HB H0 H1 H2 H3 H4 H5 H6 H7
  unfold kw ints1 ints2 rows at hW1
  go_wp2_with fail
  rw [← hW1, ← hn8]
  clear hW1 hn8
  have HNx : ∀ j, c ≠ letters.getD j 0 → Hid (∀ k, k < j → c ≠ letters.getD k 0) → Hid (∀ k, k < j + 1 → c ≠ letters.getD k 0) := fun j h1 h2 => Lib.hid (fun k hk => by
    rcases Nat.lt_or_ge k j with h3 | h3
    · exact h2.out k h3
    · obtain rfl : k = j := by omega
      exact h1)
  unfold KindsPost
  go_loop [5] (fun i => ∃ j : Nat, j ≤ 8 ∧ i = .int .i64 (j : Int) ∧ Hid (∀ k, k < j → c ≠ letters.getD k 0)) (fun i => 8 - (intOf i).toNat)
  case atStart => exact ⟨0, Nat.zero_le _, rfl, Lib.hid (fun k hk => absurd hk (Nat.not_lt_zero k))⟩
  case round =>
    obtain ⟨j, hj, rfl, HO⟩ := hrel
    rcases (by omega : j = 0 ∨ j = 1 ∨ j = 2 ∨ j = 3 ∨ j = 4 ∨ j = 5 ∨ j = 6 ∨ j = 7 ∨ j = 8) with rfl | rfl | rfl | rfl | rfl | rfl | rfl | rfl | rfl
    · by_cases hc : c = 117
      · subst hc
        go_wp2
        exact bodyPost_ret (v := .slice (some ⟨w.heap.size, 0, none⟩) 2 2) (by simp [results, Tryd.results70, go_sem]) rfl ⟨_, rfl, H0.out, HB.out⟩
      · have hb : ((((⟨#[117, 115, 112, 99, 109, 98, 118, 113]⟩ : ByteArray)[0]'(by decide)).toNat : Int) == (c.toNat : Int)) = false := (u8_eq (c := c) (k := 117)).trans (decide_eq_false hc)
        have HE := HNx 0 hc HO
        clear hc
        go_wp2
        exact ⟨⟨1, by omega, rfl, HE⟩, by simp [intOf]⟩
    · by_cases hc : c = 115
      · subst hc
        go_wp2
        exact bodyPost_ret (v := .slice (some ⟨w.heap.size + 1, 0, none⟩) 1 1) (by simp [results, Tryd.results70, go_sem]) rfl ⟨_, rfl, H1.out, HB.out⟩
      · have hb : ((((⟨#[117, 115, 112, 99, 109, 98, 118, 113]⟩ : ByteArray)[1]'(by decide)).toNat : Int) == (c.toNat : Int)) = false := (u8_eq (c := c) (k := 115)).trans (decide_eq_false hc)
        have HE := HNx 1 hc HO
        clear hc
        go_wp2
        exact ⟨⟨2, by omega, rfl, HE⟩, by simp [intOf]⟩
    · by_cases hc : c = 112
      · subst hc
        go_wp2
        exact bodyPost_ret (v := .slice (some ⟨w.heap.size + 1 + 1, 0, none⟩) 1 1) (by simp [results, Tryd.results70, go_sem]) rfl ⟨_, rfl, H2.out, HB.out⟩
      · have hb : ((((⟨#[117, 115, 112, 99, 109, 98, 118, 113]⟩ : ByteArray)[2]'(by decide)).toNat : Int) == (c.toNat : Int)) = false := (u8_eq (c := c) (k := 112)).trans (decide_eq_false hc)
        have HE := HNx 2 hc HO
        clear hc
        go_wp2
        exact ⟨⟨3, by omega, rfl, HE⟩, by simp [intOf]⟩
    · by_cases hc : c = 99
      · subst hc
        go_wp2
        exact bodyPost_ret (v := .slice (some ⟨w.heap.size + 1 + 1 + 1, 0, none⟩) 1 1) (by simp [results, Tryd.results70, go_sem]) rfl ⟨_, rfl, H3.out, HB.out⟩
      · have hb : ((((⟨#[117, 115, 112, 99, 109, 98, 118, 113]⟩ : ByteArray)[3]'(by decide)).toNat : Int) == (c.toNat : Int)) = false := (u8_eq (c := c) (k := 99)).trans (decide_eq_false hc)
        have HE := HNx 3 hc HO
        clear hc
        go_wp2
        exact ⟨⟨4, by omega, rfl, HE⟩, by simp [intOf]⟩
    · by_cases hc : c = 109
      · subst hc
        go_wp2
        exact bodyPost_ret (v := .slice (some ⟨w.heap.size + 1 + 1 + 1 + 1, 0, none⟩) 1 1) (by simp [results, Tryd.results70, go_sem]) rfl ⟨_, rfl, H4.out, HB.out⟩
      · have hb : ((((⟨#[117, 115, 112, 99, 109, 98, 118, 113]⟩ : ByteArray)[4]'(by decide)).toNat : Int) == (c.toNat : Int)) = false := (u8_eq (c := c) (k := 109)).trans (decide_eq_false hc)
        have HE := HNx 4 hc HO
        clear hc
        go_wp2
        exact ⟨⟨5, by omega, rfl, HE⟩, by simp [intOf]⟩
    · by_cases hc : c = 98
      · subst hc
        go_wp2
        exact bodyPost_ret (v := .slice (some ⟨w.heap.size + 1 + 1 + 1 + 1 + 1, 0, none⟩) 1 1) (by simp [results, Tryd.results70, go_sem]) rfl ⟨_, rfl, H5.out, HB.out⟩
      · have hb : ((((⟨#[117, 115, 112, 99, 109, 98, 118, 113]⟩ : ByteArray)[5]'(by decide)).toNat : Int) == (c.toNat : Int)) = false := (u8_eq (c := c) (k := 98)).trans (decide_eq_false hc)
        have HE := HNx 5 hc HO
        clear hc
        go_wp2
        exact ⟨⟨6, by omega, rfl, HE⟩, by simp [intOf]⟩
    · by_cases hc : c = 118
      · subst hc
        go_wp2
        exact bodyPost_ret (v := .slice (some ⟨w.heap.size + 1 + 1 + 1 + 1 + 1 + 1, 0, none⟩) 1 1) (by simp [results, Tryd.results70, go_sem]) rfl ⟨_, rfl, H6.out, HB.out⟩
      · have hb : ((((⟨#[117, 115, 112, 99, 109, 98, 118, 113]⟩ : ByteArray)[6]'(by decide)).toNat : Int) == (c.toNat : Int)) = false := (u8_eq (c := c) (k := 118)).trans (decide_eq_false hc)
        have HE := HNx 6 hc HO
        clear hc
        go_wp2
        exact ⟨⟨7, by omega, rfl, HE⟩, by simp [intOf]⟩
    · by_cases hc : c = 113
      · subst hc
        go_wp2
        exact bodyPost_ret (v := .slice (some ⟨w.heap.size + 1 + 1 + 1 + 1 + 1 + 1 + 1, 0, none⟩) 2 2) (by simp [results, Tryd.results70, go_sem]) rfl ⟨_, rfl, H7.out, HB.out⟩
      · have hb : ((((⟨#[117, 115, 112, 99, 109, 98, 118, 113]⟩ : ByteArray)[7]'(by decide)).toNat : Int) == (c.toNat : Int)) = false := (u8_eq (c := c) (k := 113)).trans (decide_eq_false hc)
        have HE := HNx 7 hc HO
        clear hc
        go_wp2
        exact ⟨⟨8, by omega, rfl, HE⟩, by simp [intOf]⟩
    · have HE := Lib.hid (kinds_none HO.out)
      clear HNx
      go_wp2
      exact bodyPost_ret (v := .slice none 0 0) (by simp [results, Tryd.results70, go_sem]) rfl ⟨none, by rw [HE.out]; rfl, by rw [HE.out]; exact fun j hj => absurd hj (Nat.not_lt_zero j), HB.out⟩
end Go.Proofs.YtigjeeedobnmhaaDoor.objs

/-
  The document's own answer whether an object is of a kind that a letter stands for, and the names of kinds. No condition.
-/
namespace Go.Proofs.YtigjeeedobnmhaaDoor.objs
open Go.RowKit Go.ChangeShapes
open Go.Proofs.YtigjeeedobnmhaaDoor.word (Word)
set_option linter.unusedVariables false

theorem contains_at {ks : List Int} {x : Int} {j : Nat} (hj : j < ks.length) (h : ks.getD j 0 = x) : ks.contains x = true := by
  rw [List.contains_iff_mem]
  rw [List.getD_eq_getElem?_getD, List.getElem?_eq_getElem hj, Option.getD_some] at h
  rw [← h]
  exact List.getElem_mem hj
theorem contains_no {ks : List Int} {x : Int} (h : ∀ k, k < ks.length → ks.getD k 0 ≠ x) : ks.contains x = false := by
  cases hc : ks.contains x with
  | false => rfl
  | true =>
    rw [List.contains_iff_mem] at hc
    obtain ⟨k, hk, e⟩ := List.getElem_of_mem hc
    exact absurd (by rw [List.getD_eq_getElem?_getD, List.getElem?_eq_getElem hk, Option.getD_some]; exact e) (h k hk)
theorem KAt.next {w w' : World} {A : Option Addr} {ks : List Int} (h : KAt w A ks) (hb : Below w.heap.size w w') : KAt w' A ks := fun j hj => by
  obtain ⟨b, h1, h2⟩ := h j hj
  refine ⟨b, h1, ?_⟩
  have hlt : b < w.heap.size := by
    rcases Nat.lt_or_ge b w.heap.size with h3 | h3
    · exact h3
    · simp [World.cell?, Array.getElem?_eq_none h3] at h2
  exact (hb.cell (p := ⟨b, j, none⟩) hlt).trans h2
theorem KAt.drewN {w : World} {A : Option Addr} {ks : List Int} (h : KAt w A ks) (n : Nat) : KAt (w.drewN n) A ks := fun j hj => by
  obtain ⟨b, h1, h2⟩ := h j hj
  exact ⟨b, h1, by simpa using h2⟩
theorem kinds_le (c : UInt8) : (kindsOf c).length ≤ 2 := by
  unfold kindsOf
  split
  · decide
  · split
    · decide
    · split
      · decide
      · split
        · decide
        · split
          · decide
          · split
            · decide
            · split
              · decide
              · split <;> decide
theorem below_drewN {B : Nat} {a w : World} (h : Below B a w) : ∀ n, Below B a (w.drewN n)
  | 0 => h
  | n + 1 => (below_drewN h n).drew

set_option maxRecDepth 100000 in
set_option maxHeartbeats 4000000 in
theorem refFits_in (A : Option Addr) (cap : Nat) (l : List De) (c : UInt8) (m : Nat) (hm : m < l.length) (hl : l.length ≤ 9223372036854775807) (w : World) (hA : DAt w A l) :
    Calls Tryd.prog 60 #[.slice A l.length cap, .int .u8 (c.toNat : Int), .int .i64 (m : Int)] w fun e w' => e = .returned (.bool (fits l c m)) ∧ Below w.heap.size w w' := by
  have HK := Lib.hid (refKinds_any c w)
  have HF : Hid (fits l c m = (kindsOf c).contains (l.getD m zero).1) := Lib.hid (by unfold fits; rw [decide_eq_true (by omega), Bool.true_and, Int.toNat_natCast])
  obtain ⟨b, off, rfl, hb, c0, _, _⟩ := hA m hm
  have h2 := kinds_le c
  rw [HF.out]
  unfold KindsPost at HK
  clear hA HF
  generalize kindsOf c = ks at *
  generalize (l.getD m zero).1 = x at *
  go_enter Tryd.func60, Tryd.ntmps60
  go_wp2_with fail
  refine HK.out.mono ?_
  rintro e w1 ⟨B, rfl, hk, hb1⟩
  have hc1 : w1.cell? ⟨b, off + m * 3, none⟩ = some (.int .i64 x) := (hb1.cell (p := ⟨b, off + m * 3, none⟩) hb).trans c0
  have HK1 := Lib.hid hk
  have HB1 := Lib.hid hb1
  clear HK hk hb1 c0
  have hm' : (m : Int) < (l.length : Int) := by omega
  have hm0 : (0 : Int) ≤ (m : Int) := by omega
  go_wp2_with fail
  go_loopw [8] (fun i wr => ∃ j : Nat, j ≤ ks.length ∧ i = .int .i64 (j : Int) ∧ Hid (∀ k, k < j → ks.getD k 0 ≠ x) ∧ Hid (KAt wr B ks ∧ Below w.heap.size w wr) ∧ wr.cell? ⟨b, off + m * 3, none⟩ = some (.int .i64 x)) (fun i _ => ks.length - (intOf i).toNat)
  case atStart => exact ⟨0, Nat.zero_le _, rfl, Lib.hid (fun k hk => absurd hk (Nat.not_lt_zero k)), Lib.hid ⟨HK1.out, HB1.out⟩, hc1⟩
  case round =>
    obtain ⟨j, hj, rfl, HO, HS, hc⟩ := hrel
    clear hc1
    by_cases hlt : j < ks.length
    · obtain ⟨g, rfl, hg⟩ := HS.out.1 j hlt
      have hlt' : (j : Int) < (ks.length : Int) := by omega
      by_cases hx : ks.getD j 0 = x
      · have HE := Lib.hid (contains_at hlt hx)
        rw [hx] at hg
        clear hx
        go_wp2_with fail
        go_quiet (fail)
        go_wp2
        go_ret
        exact ⟨ret_bool HE.out.symm, below_drewN HS.out.2 _⟩
      · have HE : Hid (∀ k, k < j + 1 → ks.getD k 0 ≠ x) := Lib.hid (fun k hk => by
          rcases Nat.lt_or_ge k j with h1 | h1
          · exact HO.out k h1
          · obtain rfl : k = j := by omega
            exact hx)
        have hx' : (x == ks.getD j 0) = false := by rw [beq_eq_false_iff_ne]; exact fun e => hx e.symm
        clear hx
        generalize ks.getD j 0 = y at *
        go_wp2_with fail
        go_quiet (fail)
        go_wp2
        go_roundw
        case rel => exact ⟨j + 1, by omega, by go_num, HE, Lib.hid ⟨HS.out.1.drewN _, below_drewN HS.out.2 _⟩, by simpa using hc⟩
        case measure => simp [intOf]; omega
    · obtain rfl : j = ks.length := by omega
      have HE := Lib.hid (contains_no HO.out)
      go_wp2_with fail
      go_ret
      exact ⟨ret_bool HE.out.symm, HS.out.2⟩

set_option maxRecDepth 100000 in
set_option maxHeartbeats 4000000 in
theorem refFits_out (A : Option Addr) (cap : Nat) (l : List De) (c : UInt8) (o : Int) (ho : o < 0 ∨ (l.length : Int) ≤ o) (hl : l.length ≤ 9223372036854775807) (w : World) :
    Calls Tryd.prog 60 #[.slice A l.length cap, .int .u8 (c.toNat : Int), .int .i64 o] w fun e w' => e = .returned (.bool (fits l c o)) ∧ Below w.heap.size w w' := by
  have HK := Lib.hid (refKinds_any c w)
  have HF : Hid (fits l c o = false) := Lib.hid (by unfold fits; rw [decide_eq_false (by omega), Bool.false_and])
  have h2 := kinds_le c
  rw [HF.out]
  unfold KindsPost at HK
  clear HF
  generalize kindsOf c = ks at *
  have hd : (0 ≤ o) → ¬ (o < (l.length : Int)) := fun h => by omega
  have HD := Lib.hid hd
  clear hd ho
  go_enter Tryd.func60, Tryd.ntmps60
  go_wp2_with fail
  refine HK.out.mono ?_
  rintro e w1 ⟨B, rfl, hk, hb1⟩
  have HB1 := Lib.hid hb1
  clear HK hk hb1
  go_wp2_with fail
  go_loopw [8] (fun i wr => i = .int .i64 0 ∧ Hid (Below w.heap.size w wr)) (fun i _ => 0)
  case atStart => exact ⟨rfl, HB1⟩
  case round =>
    obtain ⟨rfl, HB⟩ := hrel
    by_cases hk : ks.length = 0
    · go_wp2_with fail
      go_ret
      exact ⟨rfl, HB.out⟩
    · have hk' : (0 : Int) < (ks.length : Int) := by omega
      by_cases h0 : 0 ≤ o
      · have h1 : decide (o < (l.length : Int)) = false := by simpa using HD.out h0
        clear hk
        go_wp2_with fail
        go_ret
        exact ⟨rfl, HB.out⟩
      · have h1 : decide (0 ≤ o) = false := by simpa using h0
        clear hk
        go_wp2_with fail
        go_ret
        exact ⟨rfl, HB.out⟩
theorem refFits_any (A : Option Addr) (cap : Nat) (l : List De) (c : UInt8) (o : Int) (hl : l.length ≤ 9223372036854775807) (w : World) (hA : DAt w A l) :
    Calls Tryd.prog 60 #[.slice A l.length cap, .int .u8 (c.toNat : Int), .int .i64 o] w fun e w' => e = .returned (.bool (fits l c o)) ∧ Below w.heap.size w w' := by
  by_cases h : 0 ≤ o ∧ o < (l.length : Int)
  · obtain ⟨m, rfl⟩ : ∃ m : Nat, o = (m : Int) := ⟨o.toNat, by omega⟩
    exact refFits_in A cap l c m (by omega) hl w hA
  · exact refFits_out A cap l c o (by omega) hl w
end Go.Proofs.YtigjeeedobnmhaaDoor.objs

/-
  The document's own answer what is wrong with an object, and where the first one stands that may not be. No condition but that a list is no longer than an int can say.
-/
namespace Go.Proofs.YtigjeeedobnmhaaDoor.objs
open Go.RowKit Go.ChangeShapes
open Go.Proofs.YtigjeeedobnmhaaDoor.word (Word)
set_option linter.unusedVariables false

def declBox (k a b : Int) : Obj := .cells #[.int .i64 k, .int .i64 a, .int .i64 b] 48
/-- What 'one' answers. -/
def OnePost (l : List De) (d : De) (w : World) (e : Ending) (w' : World) : Prop := e = .returned (.int .i64 (one l d : Nat)) ∧ Below w.heap.size w w'
theorem box_below (w : World) (k a b : Int) : Below w.heap.size w (w.alloc (declBox k a b)) := (Below.refl _ w).alloc (Nat.le_refl _) _

set_option maxHeartbeats 4000000 in
theorem refOne_6 (A : Option Addr) (cap : Nat) (l : List De) (k a b : Int) (h : k < 1 ∨ 7 < k) (w : World) :
    Calls Tryd.prog 41 #[.slice A l.length cap, .agg #[.int .i64 k, .int .i64 a, .int .i64 b]] w (OnePost l (k, a, b) w) := by
  have HV : Hid (one l (k, a, b) = 6) := Lib.hid (by unfold one; rw [if_pos h])
  have HB := Lib.hid (box_below w k a b)
  unfold OnePost
  rw [HV.out]
  by_cases h1 : k < 1
  · have hd : decide (k < 1) = true := by simpa using h1
    clear h
    go_enter Tryd.func41, Tryd.ntmps41
    go_wp2_with fail
    go_ret
    exact ⟨rfl, HB.out⟩
  · have hd : decide (k < 1) = false := by simpa using h1
    have hd2 : decide (7 < k) = true := by simp; omega
    clear h h1
    go_enter Tryd.func41, Tryd.ntmps41
    go_wp2_with fail
    go_ret
    exact ⟨rfl, HB.out⟩
set_option maxHeartbeats 4000000 in
theorem refOne_sem (A : Option Addr) (cap : Nat) (l : List De) (a b : Int) (w : World) :
    Calls Tryd.prog 41 #[.slice A l.length cap, .agg #[.int .i64 3, .int .i64 a, .int .i64 b]] w (OnePost l (3, a, b) w) := by
  have HB := Lib.hid (box_below w 3 a b)
  unfold OnePost
  by_cases h1 : b < 1
  · have HV : Hid (one l (3, a, b) = 1) := Lib.hid (by unfold one; dsimp only; rw [if_neg (by omega), if_pos (by omega)])
    rw [HV.out]
    have hd1 : decide (b < 1) = true := by simpa using h1
    clear h1
    go_enter Tryd.func41, Tryd.ntmps41
    go_wp2_with fail
    go_ret
    exact ⟨rfl, HB.out⟩
  · have hd1 : decide (b < 1) = false := by simpa using h1
    by_cases h2 : 1000 < b
    · have HV : Hid (one l (3, a, b) = 1) := Lib.hid (by unfold one; dsimp only; rw [if_neg (by omega), if_pos (by omega)])
      rw [HV.out]
      have hd2 : decide (1000 < b) = true := by simpa using h2
      clear h1 h2
      go_enter Tryd.func41, Tryd.ntmps41
      go_wp2_with fail
      go_ret
      exact ⟨rfl, HB.out⟩
    · have hd2 : decide (1000 < b) = false := by simpa using h2
      by_cases h3 : a < 0
      · have HV : Hid (one l (3, a, b) = 1) := Lib.hid (by unfold one; dsimp only; rw [if_neg (by omega), if_pos (by omega)])
        rw [HV.out]
        have hd3 : decide (a < 0) = true := by simpa using h3
        clear h1 h2 h3
        go_enter Tryd.func41, Tryd.ntmps41
        go_wp2_with fail
        go_ret
        exact ⟨rfl, HB.out⟩
      · have hd3 : decide (a < 0) = false := by simpa using h3
        by_cases h4 : b < a
        · have HV : Hid (one l (3, a, b) = 1) := Lib.hid (by unfold one; dsimp only; rw [if_neg (by omega), if_pos (by omega)])
          rw [HV.out]
          have hd4 : decide (b < a) = true := by simpa using h4
          clear h1 h2 h3 h4
          go_enter Tryd.func41, Tryd.ntmps41
          go_wp2_with fail
          go_ret
          exact ⟨rfl, HB.out⟩
        · have HV : Hid (one l (3, a, b) = 0) := Lib.hid (by unfold one; dsimp only; rw [if_neg (by omega), if_neg (by omega), if_neg (by omega), if_neg (fun h => by omega), if_neg (by omega)])
          rw [HV.out]
          have hd4 : decide (b < a) = false := by simpa using h4
          clear h1 h2 h3 h4
          go_enter Tryd.func41, Tryd.ntmps41
          go_wp2_with fail
          go_ret
          exact ⟨rfl, HB.out⟩
set_option maxHeartbeats 4000000 in
theorem refOne_pool (A : Option Addr) (cap : Nat) (l : List De) (a b : Int) (w : World) :
    Calls Tryd.prog 41 #[.slice A l.length cap, .agg #[.int .i64 6, .int .i64 a, .int .i64 b]] w (OnePost l (6, a, b) w) := by
  have HB := Lib.hid (box_below w 6 a b)
  unfold OnePost
  by_cases h1 : a < 1
  · have HV : Hid (one l (6, a, b) = 1) := Lib.hid (by unfold one; dsimp only; rw [if_neg (by omega), if_neg (by omega), if_pos (by omega)])
    rw [HV.out]
    have hd1 : decide (a < 1) = true := by simpa using h1
    clear h1
    go_enter Tryd.func41, Tryd.ntmps41
    go_wp2_with fail
    go_ret
    exact ⟨rfl, HB.out⟩
  · have hd1 : decide (a < 1) = false := by simpa using h1
    by_cases h2 : 1000 < a
    · have HV : Hid (one l (6, a, b) = 1) := Lib.hid (by unfold one; dsimp only; rw [if_neg (by omega), if_neg (by omega), if_pos (by omega)])
      rw [HV.out]
      have hd2 : decide (1000 < a) = true := by simpa using h2
      clear h1 h2
      go_enter Tryd.func41, Tryd.ntmps41
      go_wp2_with fail
      go_ret
      exact ⟨rfl, HB.out⟩
    · have hd2 : decide (1000 < a) = false := by simpa using h2
      by_cases h3 : b = 0
      · have HV : Hid (one l (6, a, b) = 0) := Lib.hid (by unfold one; dsimp only; rw [if_neg (by omega), if_neg (by omega), if_neg (by omega), if_neg (fun h => by omega), if_neg (by omega)])
        rw [HV.out]
        subst h3
        clear h1 h2
        go_enter Tryd.func41, Tryd.ntmps41
        go_wp2_with fail
        go_ret
        exact ⟨rfl, HB.out⟩
      · have HV : Hid (one l (6, a, b) = 2) := Lib.hid (by unfold one; dsimp only; rw [if_neg (by omega), if_neg (by omega), if_neg (by omega), if_neg (fun h => by omega), if_pos (by omega)])
        rw [HV.out]
        have hd3 : (b != 0) = true := by simpa using h3
        clear h1 h2 h3
        go_enter Tryd.func41, Tryd.ntmps41
        go_wp2_with fail
        go_ret
        exact ⟨rfl, HB.out⟩
set_option maxHeartbeats 4000000 in
theorem refOne_bare (A : Option Addr) (cap : Nat) (l : List De) (k a b : Int) (h1 : 1 ≤ k) (h7 : k < 7) (h3 : k ≠ 3) (h6 : k ≠ 6) (w : World) :
    Calls Tryd.prog 41 #[.slice A l.length cap, .agg #[.int .i64 k, .int .i64 a, .int .i64 b]] w (OnePost l (k, a, b) w) := by
  have HB := Lib.hid (box_below w k a b)
  unfold OnePost
  have hd1 : decide (k < 1) = false := by simp; omega
  have hd7 : decide (7 < k) = false := by simp; omega
  have e3 : (k == 3) = false := by simpa using h3
  have e6 : (k == 6) = false := by simpa using h6
  have e7 : (k == 7) = false := by simp; omega
  have n3 : (k != 3) = true := by simpa using h3
  have n6 : (k != 6) = true := by simpa using h6
  have n7 : (k != 7) = true := by simp; omega
  by_cases hb : b = 0
  · by_cases ha : a = 0
    · have HV : Hid (one l (k, a, b) = 0) := Lib.hid (by unfold one; dsimp only; rw [if_neg (by omega), if_neg (by omega), if_neg (by omega), if_neg (fun h => by omega), if_neg (by omega)])
      rw [HV.out]
      subst hb ha
      clear h1 h7 h3 h6
      go_enter Tryd.func41, Tryd.ntmps41
      go_wp2_with fail
      go_ret
      exact ⟨rfl, HB.out⟩
    · have HV : Hid (one l (k, a, b) = 2) := Lib.hid (by unfold one; dsimp only; rw [if_neg (by omega), if_neg (by omega), if_neg (by omega), if_neg (fun h => by omega), if_pos (by omega)])
      rw [HV.out]
      have hda : (a != 0) = true := by simpa using ha
      subst hb
      clear h1 h7 h3 h6 ha
      go_enter Tryd.func41, Tryd.ntmps41
      go_wp2_with fail
      go_ret
      exact ⟨rfl, HB.out⟩
  · have HV : Hid (one l (k, a, b) = 2) := Lib.hid (by unfold one; dsimp only; rw [if_neg (by omega), if_neg (by omega), if_neg (by omega), if_neg (fun h => by omega), if_pos (by omega)])
    rw [HV.out]
    have hdb : (b != 0) = true := by simpa using hb
    clear h1 h7 h3 h6 hb
    go_enter Tryd.func41, Tryd.ntmps41
    go_wp2_with fail
    go_ret
    exact ⟨rfl, HB.out⟩
set_option maxHeartbeats 4000000 in
theorem refOne_cell (A : Option Addr) (cap : Nat) (l : List De) (a b : Int) (hl : l.length ≤ 9223372036854775807) (w : World) (hA : DAt w A l) :
    Calls Tryd.prog 41 #[.slice A l.length cap, .agg #[.int .i64 7, .int .i64 a, .int .i64 b]] w (OnePost l (7, a, b) w) := by
  have hbx := box_below w 7 a b
  have HW := fun W => Lib.hid (Go.Proofs.YtigjeeedobnmhaaDoor.word.refFits_any a W)
  have HFt := Lib.hid (refFits_any A cap l 117 b hl _ (hA.next hbx))
  rw [show (((117 : UInt8).toNat : Nat) : Int) = 117 from rfl] at HFt
  have HB := Lib.hid hbx
  have hz : (w.alloc (declBox 7 a b)).heap.size = w.heap.size + 1 := World.size_alloc w _
  have hi : (w.alloc (declBox 7 a b)).heap[w.heap.size]? = some (declBox 7 a b) := heap_alloc_new w _
  unfold OnePost
  unfold declBox at HFt HB hz hi
  clear hA hbx
  by_cases h1 : Word a
  · have HD : Hid (decide (Word a) = true) := Lib.hid (decide_eq_true h1)
    rw [HD.out] at HW
    cases hf : fits l 117 b with
    | true =>
      have HV : Hid (one l (7, a, b) = 0) := Lib.hid (by
        unfold one; dsimp only
        rw [if_neg (by omega), if_neg (by omega), if_neg (by omega), if_neg, if_neg (by omega)]
        rintro ⟨_, h | h⟩
        · exact h h1
        · rw [hf] at h; cases h)
      rw [hf] at HFt
      rw [HV.out]
      clear h1 hf
      go_enter Tryd.func41, Tryd.ntmps41
      go_wp2_with fail
      refine (HW _).out.mono ?_
      rintro e w1 ⟨rfl, rfl⟩
      go_wp2_with fail
      refine HFt.out.mono ?_
      rintro e w1 ⟨rfl, hb1⟩
      have hc0 : w1.cell? ⟨w.heap.size, 0, none⟩ = some (.int .i64 7) := by unfold World.cell?; rw [hb1.block w.heap.size (by omega), hi]; rfl
      have HB1 := Lib.hid (HB.out.trans (hb1.mono (by omega)))
      clear hb1 hi hz
      go_wp2_with fail
      go_ret
      exact ⟨rfl, HB1.out⟩
    | false =>
      have HV : Hid (one l (7, a, b) = 1) := Lib.hid (by
        unfold one; dsimp only
        rw [if_neg (by omega), if_neg (by omega), if_neg (by omega), if_pos ⟨rfl, .inr hf⟩])
      rw [hf] at HFt
      rw [HV.out]
      clear h1 hf
      go_enter Tryd.func41, Tryd.ntmps41
      go_wp2_with fail
      refine (HW _).out.mono ?_
      rintro e w1 ⟨rfl, rfl⟩
      go_wp2_with fail
      refine HFt.out.mono ?_
      rintro e w1 ⟨rfl, hb1⟩
      have HB1 := Lib.hid (HB.out.trans (hb1.mono (by omega)))
      clear hb1 hi hz
      go_wp2_with fail
      go_ret
      exact ⟨rfl, HB1.out⟩
  · have HD : Hid (decide (Word a) = false) := Lib.hid (decide_eq_false h1)
    rw [HD.out] at HW
    have HV : Hid (one l (7, a, b) = 1) := Lib.hid (by
      unfold one; dsimp only
      rw [if_neg (by omega), if_neg (by omega), if_neg (by omega), if_pos ⟨rfl, .inl h1⟩])
    rw [HV.out]
    clear h1 hi hz
    go_enter Tryd.func41, Tryd.ntmps41
    go_wp2_with fail
    refine (HW _).out.mono ?_
    rintro e w1 ⟨rfl, rfl⟩
    go_wp2_with fail
    go_ret
    exact ⟨rfl, HB.out⟩
theorem refOne_any (A : Option Addr) (cap : Nat) (l : List De) (d : De) (hl : l.length ≤ 9223372036854775807) (w : World) (hA : DAt w A l) :
    Calls Tryd.prog 41 #[.slice A l.length cap, .agg #[.int .i64 d.1, .int .i64 d.2.1, .int .i64 d.2.2]] w (OnePost l d w) := by
  obtain ⟨k, a, b⟩ := d
  dsimp only
  by_cases h : k < 1 ∨ 7 < k
  · exact refOne_6 A cap l k a b h w
  · by_cases h3 : k = 3
    · subst h3; exact refOne_sem A cap l a b w
    · by_cases h6 : k = 6
      · subst h6; exact refOne_pool A cap l a b w
      · by_cases h7 : k = 7
        · subst h7; exact refOne_cell A cap l a b hl w hA
        · exact refOne_bare A cap l k a b (by omega) (by omega) h3 h6 w
end Go.Proofs.YtigjeeedobnmhaaDoor.objs

/-
  The document's own answer where the first object stands that may not be, and why. No condition but that a list is no longer than an int can say.
-/
namespace Go.Proofs.YtigjeeedobnmhaaDoor.objs
open Go.RowKit Go.ChangeShapes
open Go.Proofs.YtigjeeedobnmhaaDoor.word (Word)
set_option linter.unusedVariables false

/-- What Check answers. -/
def ChkPost (p : Int × Nat) (w : World) (e : Ending) (w' : World) : Prop := e = .returned (.tuple #[.int .i64 p.1, .int .i64 (p.2 : Nat)]) ∧ Below w.heap.size w w'
set_option maxHeartbeats 1000000 in
theorem refCheck_long (A : Option Addr) (cap n : Nat) (hn : 32 < n) (w : World) :
    Calls Tryd.prog 23 #[.slice A n cap] w (ChkPost (0, 4) w) := by
  unfold ChkPost
  have hd : decide ((32 : Int) < (n : Int)) = true := by simp; omega
  clear hn
  go_enter Tryd.func23, Tryd.ntmps23
  go_wp2_with fail
  go_ret2
  exact ⟨rfl, Below.refl _ _⟩
set_option maxRecDepth 100000 in
set_option maxHeartbeats 4000000 in
theorem refCheck_any (A : Option Addr) (cap : Nat) (l : List De) (hl : l.length ≤ 9223372036854775807) (w : World) (hA : DAt w A l) :
    Calls Tryd.prog 23 #[.slice A l.length cap] w (ChkPost (chk l) w) := by
  by_cases h32 : 32 < l.length
  · rw [chk_long h32]
    exact refCheck_long A cap l.length h32 w
  · obtain ⟨p, hp⟩ : ∃ p, p = chk l := ⟨_, rfl⟩
    have HP := Lib.hid hp
    rw [← hp]
    unfold ChkPost
    have hd : decide ((32 : Int) < (l.length : Int)) = false := by simp; omega
    have HA := Lib.hid hA
    have H32 := Lib.hid h32
    clear hA h32 hp
    go_enter Tryd.func23, Tryd.ntmps23
    go_wp2_with fail
    go_loopw [4] (fun i wr => ∃ j : Nat, j ≤ l.length ∧ i = .int .i64 (j : Int) ∧ Hid (j ≤ bad l ∧ DAt wr A l ∧ Below w.heap.size w wr)) (fun i _ => l.length - (intOf i).toNat)
    case atStart => exact ⟨0, Nat.zero_le _, rfl, Lib.hid ⟨Nat.zero_le _, HA.out, Below.refl _ _⟩⟩
    case round =>
      obtain ⟨j, hj, rfl, HS⟩ := hrel
      by_cases hlt : j < l.length
      · have HO := Lib.hid (refOne_any A cap l (l.getD j zero) hl wr HS.out.2.1)
        obtain ⟨b, off, rfl, hb, c0, c1, c2⟩ := HS.out.2.1 j hlt
        have hlt' : (j : Int) < (l.length : Int) := by omega
        unfold OnePost at HO
        have HBad := fun h => Lib.hid (chk_bad H32.out HS.out.1 hlt h)
        have HNx := fun h => Lib.hid (bad_next HS.out.1 hlt h)
        generalize l.getD j zero = d at *
        generalize one l d = q at *
        by_cases hq : q = 0
        · subst hq
          have HE := HNx rfl
          clear HBad HNx
          go_wp2_with fail
          refine HO.out.mono ?_
          rintro e w1 ⟨rfl, hb1⟩
          have HS1 := Lib.hid (HS.out.2.1.next hb1)
          have HB1 := Lib.hid (HS.out.2.2.trans (hb1.mono HS.out.2.2.size))
          clear hb1 c0 c1 c2
          go_wp2
          go_roundw
          case rel => exact ⟨j + 1, by omega, by go_num, Lib.hid ⟨HE.out, HS1.out, HB1.out⟩⟩
          case measure => simp [intOf]; omega
        · have HE := HBad hq
          have hq' : ((q : Int) != 0) = true := by simpa using hq
          clear HBad HNx hq
          go_wp2_with fail
          refine HO.out.mono ?_
          rintro e w1 ⟨rfl, hb1⟩
          have HB1 := Lib.hid (HS.out.2.2.trans (hb1.mono HS.out.2.2.size))
          clear hb1 c0 c1 c2
          go_wp2
          go_ret2
          exact ⟨by rw [HP.out, HE.out]; rfl, HB1.out⟩
      · obtain rfl : j = l.length := by omega
        have HE := Lib.hid (chk_fine H32.out HS.out.1)
        go_wp2_with fail
        go_ret2
        exact ⟨by rw [HP.out, HE.out]; rfl, HS.out.2.2⟩
end Go.Proofs.YtigjeeedobnmhaaDoor.objs

/-
  The document's own answer what is wrong with a need. No condition but that a list is no longer than an int can say.
-/
namespace Go.Proofs.YtigjeeedobnmhaaDoor.need
open Go.RowKit Go.ChangeShapes
open Go.Proofs.YtigjeeedobnmhaaDoor.objs (De zero CellsAt DAt below_drewN)
set_option linter.unusedVariables false

theorem ret_int {k : IntKind} {a b : Int} (h : a = b) : Ending.returned (.int k a) = .returned (.int k b) := by rw [h]
def needBox (k o m : Int) : Obj := .cells #[.int .i64 k, .int .i64 o, .int .i64 m] 50
def kindBox : Obj := .cells #[.int .i64 0, .int .i64 1, .int .i64 2, .int .i64 2, .int .i64 3, .int .i64 6] 3
/-- What 'one' answers. -/
def OnePost9 (d : List De) (n : De) (w : World) (e : Ending) (w' : World) : Prop := e = .returned (.int .i64 (oneN d n : Nat)) ∧ Below w.heap.size w w'
theorem nbox_below (w : World) (k a b : Int) : Below w.heap.size w (w.alloc (needBox k a b)) := (Below.refl _ w).alloc (Nat.le_refl _) _

set_option maxHeartbeats 1000000 in
theorem refOne9_6 (A : Option Addr) (cap : Nat) (d : List De) (k a b : Int) (h : k < 1 ∨ 5 < k) (w : World) :
    Calls Tryd.prog 24 #[.slice A d.length cap, .agg #[.int .i64 k, .int .i64 a, .int .i64 b]] w (OnePost9 d (k, a, b) w) := by
  have HV : Hid (oneN d (k, a, b) = 6) := Lib.hid (by unfold oneN; rw [if_pos h])
  have HB := Lib.hid (nbox_below w k a b)
  unfold OnePost9
  rw [HV.out]
  by_cases h1 : k < 1
  · have hd : decide (k < 1) = true := by simpa using h1
    clear h
    go_enter Tryd.func24, Tryd.ntmps24
    go_wp2_with fail
    go_ret
    exact ⟨rfl, HB.out⟩
  · have hd : decide (k < 1) = false := by simpa using h1
    have hd2 : decide (5 < k) = true := by simp; omega
    clear h h1
    go_enter Tryd.func24, Tryd.ntmps24
    go_wp2_with fail
    go_ret
    exact ⟨rfl, HB.out⟩

/-- Behind the list of kinds. -/
structure Os (w : World) (A : Option Addr) (d : List De) (g g2 : Nat) (k a b : Int) (W : World) : Prop where
  below : Below w.heap.size w W
  box : W.cell? ⟨g, 0, none⟩ = some (.int .i64 k) ∧ W.cell? ⟨g, 1, none⟩ = some (.int .i64 a) ∧ W.cell? ⟨g, 2, none⟩ = some (.int .i64 b)
  kinds : ∀ j : Nat, 1 ≤ j → j ≤ 5 → W.cell? ⟨g2, j, none⟩ = some (.int .i64 (kn j))
  list : DAt W A d
theorem os_new {w : World} {A : Option Addr} {d : List De} (k a b : Int) (hA : DAt w A d) : Os w A d w.heap.size (w.heap.size + 1) k a b ((w.alloc (needBox k a b)).alloc kindBox) := by
  have hz : (w.alloc (needBox k a b)).heap.size = w.heap.size + 1 := World.size_alloc w _
  have hb : Below w.heap.size w ((w.alloc (needBox k a b)).alloc kindBox) := ((Below.refl _ w).alloc (Nat.le_refl _) _).alloc (by omega) _
  have h0 : ((w.alloc (needBox k a b)).alloc kindBox).heap[w.heap.size]? = some (needBox k a b) := (Below.heap_alloc _ _ _ (by omega)).trans (heap_alloc_new w _)
  have h1 : ((w.alloc (needBox k a b)).alloc kindBox).heap[w.heap.size + 1]? = some kindBox := by rw [← hz]; exact heap_alloc_new _ _
  refine ⟨hb, ?_, fun j h2 h3 => ?_, hA.next hb⟩
  · unfold World.cell?
    rw [h0]
    exact ⟨rfl, rfl, rfl⟩
  · unfold World.cell?
    rw [h1]
    rcases (by omega : j = 1 ∨ j = 2 ∨ j = 3 ∨ j = 4 ∨ j = 5) with rfl | rfl | rfl | rfl | rfl <;> rfl

set_option maxRecDepth 100000 in
set_option maxHeartbeats 2000000 in
theorem refOne9_out (A : Option Addr) (cap : Nat) (d : List De) (kk : Nat) (a b : Int) (h1 : 1 ≤ kk) (h5 : kk ≤ 5) (ho : a < 0 ∨ (d.length : Int) ≤ a) (w : World) (hA : DAt w A d) :
    Calls Tryd.prog 24 #[.slice A d.length cap, .agg #[.int .i64 (kk : Int), .int .i64 a, .int .i64 b]] w (OnePost9 d ((kk : Int), a, b) w) := by
  have HV : Hid (oneN d ((kk : Int), a, b) = 1) := Lib.hid (by unfold oneN; dsimp only; rw [if_neg (by omega), if_pos (by rcases ho with h | h; exact .inl h; exact .inr (.inl h))])
  have HO := Lib.hid (os_new (kk : Int) a b hA)
  unfold OnePost9
  rw [HV.out]
  have d1 : decide ((kk : Int) < 1) = false := by simp; omega
  have d5 : decide (5 < (kk : Int)) = false := by simp; omega
  unfold needBox kindBox at HO
  clear hA h1 h5
  by_cases h0 : a < 0
  · have d0 : decide (a < 0) = true := by simpa using h0
    clear ho h0
    go_enter Tryd.func24, Tryd.ntmps24
    go_upto_region 4 with fail
    generalize (w.alloc (.cells #[.int .i64 (kk : Int), .int .i64 a, .int .i64 b] 50)).alloc (.cells #[.int .i64 0, .int .i64 1, .int .i64 2, .int .i64 2, .int .i64 3, .int .i64 6] 3) = W at *
    obtain ⟨c0, c1, c2⟩ := HO.out.box
    go_quiet (fail)
    go_wp2
    go_ret
    exact ⟨rfl, below_drewN HO.out.below _⟩
  · have d0 : decide (a < 0) = false := by simpa using h0
    have dl : decide ((d.length : Int) ≤ a) = true := by simp; omega
    clear ho h0
    go_enter Tryd.func24, Tryd.ntmps24
    go_upto_region 4 with fail
    generalize (w.alloc (.cells #[.int .i64 (kk : Int), .int .i64 a, .int .i64 b] 50)).alloc (.cells #[.int .i64 0, .int .i64 1, .int .i64 2, .int .i64 2, .int .i64 3, .int .i64 6] 3) = W at *
    obtain ⟨c0, c1, c2⟩ := HO.out.box
    go_quiet (fail)
    go_wp2
    go_ret
    exact ⟨rfl, below_drewN HO.out.below _⟩

set_option maxRecDepth 100000 in
set_option maxHeartbeats 4000000 in
theorem refOne9_in (ad : Addr) (cap : Nat) (d : List De) (kk m : Nat) (b : Int) (h1 : 1 ≤ kk) (h5 : kk ≤ 5) (hm : m < d.length) (hl : d.length ≤ 9223372036854775807) (w : World) (hA : DAt w (some ad) d) :
    Calls Tryd.prog 24 #[.slice (some ad) d.length cap, .agg #[.int .i64 (kk : Int), .int .i64 (m : Int), .int .i64 b]] w (OnePost9 d ((kk : Int), (m : Int), b) w) := by
  have HO := Lib.hid (os_new (kk : Int) (m : Int) b hA)
  have HM := Lib.hid hm
  have HK := Lib.hid (And.intro h1 h5)
  obtain ⟨v, hv⟩ : ∃ v, v = oneN d ((kk : Int), (m : Int), b) := ⟨_, rfl⟩
  unfold OnePost9
  rw [← hv]
  obtain ⟨⟨x, y, z⟩, hdm⟩ : ∃ t : De, d.getD m zero = t := ⟨_, rfl⟩
  have HV : Hid (v = if x ≠ kn kk then 1 else if b < lo ((kk : Int), (m : Int), b) ∨ (if (kk : Int) = 4 then z else if (kk : Int) = 5 then y else 0) < b then 1 else 0) := Lib.hid (by
    rw [hv]
    unfold oneN hi
    dsimp only
    rw [if_neg (by omega), Int.toNat_natCast, hdm]
    dsimp only
    by_cases hx : x ≠ kn kk
    · rw [if_pos hx, if_pos (.inr (.inr hx))]
    · rw [if_neg hx, if_neg]
      rintro (h | h | h)
      · omega
      · omega
      · exact hx h)
  have d1 : decide ((kk : Int) < 1) = false := by simp; omega
  have d5 : decide (5 < (kk : Int)) = false := by simp; omega
  have d0 : decide ((m : Int) < 0) = false := by simp
  have dl : decide (d.length ≤ m) = false := by simp; omega
  have dm : (m : Int) < (d.length : Int) := by omega
  have dm0 : (0 : Int) ≤ (m : Int) := by omega
  have dk : (kk : Int) < 6 := by omega
  have dk0 : (0 : Int) ≤ (kk : Int) := by omega
  unfold needBox kindBox at HO
  clear hA hv hm
  by_cases hx : x = kn kk
  · have hxb : (x != kn kk) = false := by simp [hx]
    have HV2 : Hid (v = if b < lo ((kk : Int), (m : Int), b) ∨ (if (kk : Int) = 4 then z else if (kk : Int) = 5 then y else 0) < b then 1 else 0) := Lib.hid (by rw [HV.out, if_neg (by simpa using hx)])
    clear HV hx
    by_cases e4 : kk = 4
    · have f4 : ((kk : Int) == 4) = true := by simp; omega
      have f5 : ((kk : Int) == 5) = false := by simp; omega
      have HV3 : Hid (v = if b < 1 ∨ z < b then 1 else 0) := Lib.hid (by
        have el : lo ((kk : Int), (m : Int), b) = 1 := if_pos (.inl (by show (kk : Int) = 4; omega))
        have eh : (if (kk : Int) = 4 then z else if (kk : Int) = 5 then y else 0) = z := if_pos (by omega)
        rw [HV2.out, el, eh])
      clear e4 HV2 h1 h5
      by_cases g1 : b < 1
      · have q1 : decide (b < 1) = true := by simpa using g1
        have HV4 : Hid (v = 1) := Lib.hid (by rw [HV3.out, if_pos (.inl g1)])
        rw [HV4.out]
        clear g1
        go_enter Tryd.func24, Tryd.ntmps24
        go_upto_region 4 with fail
        generalize (w.alloc (.cells #[.int .i64 (kk : Int), .int .i64 (m : Int), .int .i64 b] 50)).alloc (.cells #[.int .i64 0, .int .i64 1, .int .i64 2, .int .i64 2, .int .i64 3, .int .i64 6] 3) = W at *
        obtain ⟨c0, c1, c2⟩ := HO.out.box
        have ck := HO.out.kinds kk HK.out.1 HK.out.2
        obtain ⟨b0, off, hAe, hbl, x0, x1, x2⟩ := HO.out.list m HM.out
        injection hAe with hAe
        subst hAe
        rw [hdm] at x0 x1 x2
        dsimp only at x0 x1 x2
        go_quiet (fail)
        go_wp2_with fail
        go_quiet (fail)
        go_wp2
        go_ret
        exact ⟨rfl, by first | exact below_drewN (below_drewN HO.out.below _) _ | exact below_drewN HO.out.below _⟩
      · have q1 : decide (b < 1) = false := by simpa using g1
        by_cases g2 : z < b
        · have q2 : decide (z < b) = true := by simpa using g2
          have HV4 : Hid (v = 1) := Lib.hid (by rw [HV3.out, if_pos (.inr g2)])
          rw [HV4.out]
          clear g1 g2
          go_enter Tryd.func24, Tryd.ntmps24
          go_upto_region 4 with fail
          generalize (w.alloc (.cells #[.int .i64 (kk : Int), .int .i64 (m : Int), .int .i64 b] 50)).alloc (.cells #[.int .i64 0, .int .i64 1, .int .i64 2, .int .i64 2, .int .i64 3, .int .i64 6] 3) = W at *
          obtain ⟨c0, c1, c2⟩ := HO.out.box
          have ck := HO.out.kinds kk HK.out.1 HK.out.2
          obtain ⟨b0, off, hAe, hbl, x0, x1, x2⟩ := HO.out.list m HM.out
          injection hAe with hAe
          subst hAe
          rw [hdm] at x0 x1 x2
          dsimp only at x0 x1 x2
          go_quiet (fail)
          go_wp2_with fail
          go_quiet (fail)
          go_wp2
          go_ret
          exact ⟨rfl, by first | exact below_drewN (below_drewN HO.out.below _) _ | exact below_drewN HO.out.below _⟩
        · have q2 : decide (z < b) = false := by simpa using g2
          have HV4 : Hid (v = 0) := Lib.hid (by rw [HV3.out, if_neg (by omega)])
          rw [HV4.out]
          clear g1 g2
          go_enter Tryd.func24, Tryd.ntmps24
          go_upto_region 4 with fail
          generalize (w.alloc (.cells #[.int .i64 (kk : Int), .int .i64 (m : Int), .int .i64 b] 50)).alloc (.cells #[.int .i64 0, .int .i64 1, .int .i64 2, .int .i64 2, .int .i64 3, .int .i64 6] 3) = W at *
          obtain ⟨c0, c1, c2⟩ := HO.out.box
          have ck := HO.out.kinds kk HK.out.1 HK.out.2
          obtain ⟨b0, off, hAe, hbl, x0, x1, x2⟩ := HO.out.list m HM.out
          injection hAe with hAe
          subst hAe
          rw [hdm] at x0 x1 x2
          dsimp only at x0 x1 x2
          go_quiet (fail)
          go_wp2_with fail
          go_quiet (fail)
          go_wp2
          go_ret
          exact ⟨rfl, by first | exact below_drewN (below_drewN HO.out.below _) _ | exact below_drewN HO.out.below _⟩
    · have f4 : ((kk : Int) == 4) = false := by simp; omega
      by_cases e5 : kk = 5
      · have f5 : ((kk : Int) == 5) = true := by simp; omega
        have HV3 : Hid (v = if b < 1 ∨ y < b then 1 else 0) := Lib.hid (by
          have el : lo ((kk : Int), (m : Int), b) = 1 := if_pos (.inr (by show (kk : Int) = 5; omega))
          have eh : (if (kk : Int) = 4 then z else if (kk : Int) = 5 then y else 0) = y := by rw [if_neg (by omega), if_pos (by omega)]
          rw [HV2.out, el, eh])
        clear e4 e5 HV2 h1 h5
        by_cases g1 : b < 1
        · have q1 : decide (b < 1) = true := by simpa using g1
          have HV4 : Hid (v = 1) := Lib.hid (by rw [HV3.out, if_pos (.inl g1)])
          rw [HV4.out]
          clear g1
          go_enter Tryd.func24, Tryd.ntmps24
          go_upto_region 4 with fail
          generalize (w.alloc (.cells #[.int .i64 (kk : Int), .int .i64 (m : Int), .int .i64 b] 50)).alloc (.cells #[.int .i64 0, .int .i64 1, .int .i64 2, .int .i64 2, .int .i64 3, .int .i64 6] 3) = W at *
          obtain ⟨c0, c1, c2⟩ := HO.out.box
          have ck := HO.out.kinds kk HK.out.1 HK.out.2
          obtain ⟨b0, off, hAe, hbl, x0, x1, x2⟩ := HO.out.list m HM.out
          injection hAe with hAe
          subst hAe
          rw [hdm] at x0 x1 x2
          dsimp only at x0 x1 x2
          go_quiet (fail)
          go_wp2_with fail
          go_quiet (fail)
          go_wp2
          go_ret
          exact ⟨rfl, by first | exact below_drewN (below_drewN HO.out.below _) _ | exact below_drewN HO.out.below _⟩
        · have q1 : decide (b < 1) = false := by simpa using g1
          by_cases g2 : y < b
          · have q2 : decide (y < b) = true := by simpa using g2
            have HV4 : Hid (v = 1) := Lib.hid (by rw [HV3.out, if_pos (.inr g2)])
            rw [HV4.out]
            clear g1 g2
            go_enter Tryd.func24, Tryd.ntmps24
            go_upto_region 4 with fail
            generalize (w.alloc (.cells #[.int .i64 (kk : Int), .int .i64 (m : Int), .int .i64 b] 50)).alloc (.cells #[.int .i64 0, .int .i64 1, .int .i64 2, .int .i64 2, .int .i64 3, .int .i64 6] 3) = W at *
            obtain ⟨c0, c1, c2⟩ := HO.out.box
            have ck := HO.out.kinds kk HK.out.1 HK.out.2
            obtain ⟨b0, off, hAe, hbl, x0, x1, x2⟩ := HO.out.list m HM.out
            injection hAe with hAe
            subst hAe
            rw [hdm] at x0 x1 x2
            dsimp only at x0 x1 x2
            go_quiet (fail)
            go_wp2_with fail
            go_quiet (fail)
            go_wp2
            go_ret
            exact ⟨rfl, by first | exact below_drewN (below_drewN HO.out.below _) _ | exact below_drewN HO.out.below _⟩
          · have q2 : decide (y < b) = false := by simpa using g2
            have HV4 : Hid (v = 0) := Lib.hid (by rw [HV3.out, if_neg (by omega)])
            rw [HV4.out]
            clear g1 g2
            go_enter Tryd.func24, Tryd.ntmps24
            go_upto_region 4 with fail
            generalize (w.alloc (.cells #[.int .i64 (kk : Int), .int .i64 (m : Int), .int .i64 b] 50)).alloc (.cells #[.int .i64 0, .int .i64 1, .int .i64 2, .int .i64 2, .int .i64 3, .int .i64 6] 3) = W at *
            obtain ⟨c0, c1, c2⟩ := HO.out.box
            have ck := HO.out.kinds kk HK.out.1 HK.out.2
            obtain ⟨b0, off, hAe, hbl, x0, x1, x2⟩ := HO.out.list m HM.out
            injection hAe with hAe
            subst hAe
            rw [hdm] at x0 x1 x2
            dsimp only at x0 x1 x2
            go_quiet (fail)
            go_wp2_with fail
            go_quiet (fail)
            go_wp2
            go_ret
            exact ⟨rfl, by first | exact below_drewN (below_drewN HO.out.below _) _ | exact below_drewN HO.out.below _⟩
      · have f5 : ((kk : Int) == 5) = false := by simp; omega
        have HV3 : Hid (v = if b < 0 ∨ 0 < b then 1 else 0) := Lib.hid (by
          have el : lo ((kk : Int), (m : Int), b) = 0 := if_neg (by show ¬ ((kk : Int) = 4 ∨ (kk : Int) = 5); omega)
          have eh : (if (kk : Int) = 4 then z else if (kk : Int) = 5 then y else 0) = 0 := by rw [if_neg (by omega), if_neg (by omega)]
          rw [HV2.out, el, eh])
        clear e4 e5 HV2 h1 h5
        by_cases g1 : b < 0
        · have q1 : decide (b < 0) = true := by simpa using g1
          have HV4 : Hid (v = 1) := Lib.hid (by rw [HV3.out, if_pos (.inl g1)])
          rw [HV4.out]
          clear g1
          go_enter Tryd.func24, Tryd.ntmps24
          go_upto_region 4 with fail
          generalize (w.alloc (.cells #[.int .i64 (kk : Int), .int .i64 (m : Int), .int .i64 b] 50)).alloc (.cells #[.int .i64 0, .int .i64 1, .int .i64 2, .int .i64 2, .int .i64 3, .int .i64 6] 3) = W at *
          obtain ⟨c0, c1, c2⟩ := HO.out.box
          have ck := HO.out.kinds kk HK.out.1 HK.out.2
          obtain ⟨b0, off, hAe, hbl, x0, x1, x2⟩ := HO.out.list m HM.out
          injection hAe with hAe
          subst hAe
          rw [hdm] at x0 x1 x2
          dsimp only at x0 x1 x2
          go_quiet (fail)
          go_wp2
          go_ret
          exact ⟨rfl, by first | exact below_drewN (below_drewN HO.out.below _) _ | exact below_drewN HO.out.below _⟩
        · have q1 : decide (b < 0) = false := by simpa using g1
          by_cases g2 : 0 < b
          · have q2 : decide (0 < b) = true := by simpa using g2
            have HV4 : Hid (v = 1) := Lib.hid (by rw [HV3.out, if_pos (.inr g2)])
            rw [HV4.out]
            clear g1 g2
            go_enter Tryd.func24, Tryd.ntmps24
            go_upto_region 4 with fail
            generalize (w.alloc (.cells #[.int .i64 (kk : Int), .int .i64 (m : Int), .int .i64 b] 50)).alloc (.cells #[.int .i64 0, .int .i64 1, .int .i64 2, .int .i64 2, .int .i64 3, .int .i64 6] 3) = W at *
            obtain ⟨c0, c1, c2⟩ := HO.out.box
            have ck := HO.out.kinds kk HK.out.1 HK.out.2
            obtain ⟨b0, off, hAe, hbl, x0, x1, x2⟩ := HO.out.list m HM.out
            injection hAe with hAe
            subst hAe
            rw [hdm] at x0 x1 x2
            dsimp only at x0 x1 x2
            go_quiet (fail)
            go_wp2
            go_ret
            exact ⟨rfl, by first | exact below_drewN (below_drewN HO.out.below _) _ | exact below_drewN HO.out.below _⟩
          · have q2 : decide (0 < b) = false := by simpa using g2
            have HV4 : Hid (v = 0) := Lib.hid (by rw [HV3.out, if_neg (by omega)])
            rw [HV4.out]
            clear g1 g2
            go_enter Tryd.func24, Tryd.ntmps24
            go_upto_region 4 with fail
            generalize (w.alloc (.cells #[.int .i64 (kk : Int), .int .i64 (m : Int), .int .i64 b] 50)).alloc (.cells #[.int .i64 0, .int .i64 1, .int .i64 2, .int .i64 2, .int .i64 3, .int .i64 6] 3) = W at *
            obtain ⟨c0, c1, c2⟩ := HO.out.box
            have ck := HO.out.kinds kk HK.out.1 HK.out.2
            obtain ⟨b0, off, hAe, hbl, x0, x1, x2⟩ := HO.out.list m HM.out
            injection hAe with hAe
            subst hAe
            rw [hdm] at x0 x1 x2
            dsimp only at x0 x1 x2
            go_quiet (fail)
            go_wp2
            go_ret
            exact ⟨rfl, by first | exact below_drewN (below_drewN HO.out.below _) _ | exact below_drewN HO.out.below _⟩
  · have hxb : (x != kn kk) = true := by simpa using hx
    have HV2 : Hid (v = 1) := Lib.hid (by rw [HV.out, if_pos hx])
    rw [HV2.out]
    clear HV hx h1 h5
    go_enter Tryd.func24, Tryd.ntmps24
    go_upto_region 4 with fail
    generalize (w.alloc (.cells #[.int .i64 (kk : Int), .int .i64 (m : Int), .int .i64 b] 50)).alloc (.cells #[.int .i64 0, .int .i64 1, .int .i64 2, .int .i64 2, .int .i64 3, .int .i64 6] 3) = W at *
    obtain ⟨c0, c1, c2⟩ := HO.out.box
    have ck := HO.out.kinds kk HK.out.1 HK.out.2
    obtain ⟨b0, off, hAe, hbl, x0, x1, x2⟩ := HO.out.list m HM.out
    injection hAe with hAe
    subst hAe
    rw [hdm] at x0 x1 x2
    dsimp only at x0 x1 x2
    go_quiet (fail)
    go_wp2
    go_ret
    exact ⟨rfl, below_drewN HO.out.below _⟩
theorem refOne9_any (A : Option Addr) (cap : Nat) (d : List De) (n : De) (hl : d.length ≤ 9223372036854775807) (w : World) (hA : DAt w A d) :
    Calls Tryd.prog 24 #[.slice A d.length cap, .agg #[.int .i64 n.1, .int .i64 n.2.1, .int .i64 n.2.2]] w (OnePost9 d n w) := by
  obtain ⟨k, a, b⟩ := n
  dsimp only
  by_cases h : k < 1 ∨ 5 < k
  · exact refOne9_6 A cap d k a b h w
  · obtain ⟨kk, rfl⟩ : ∃ kk : Nat, k = (kk : Int) := ⟨k.toNat, by omega⟩
    by_cases ho : a < 0 ∨ (d.length : Int) ≤ a
    · exact refOne9_out A cap d kk a b (by omega) (by omega) ho w hA
    · obtain ⟨m, rfl⟩ : ∃ m : Nat, a = (m : Int) := ⟨a.toNat, by omega⟩
      have hm : m < d.length := by omega
      obtain ⟨b0, off, rfl, _⟩ := hA m hm
      exact refOne9_in _ cap d kk m b (by omega) (by omega) hm hl w hA
end Go.Proofs.YtigjeeedobnmhaaDoor.need
