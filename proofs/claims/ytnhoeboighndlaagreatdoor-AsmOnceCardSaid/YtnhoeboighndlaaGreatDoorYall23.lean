/-
  Texts of one claim in one file: ERefRead2. Each has its own sentence, with its conditions.
-/
import Derived.Test.YtnhoeboighndlaaGreatDoorYall22
/-
  The document's own answer of the wait that is read behind what was read ahead. A text of at most two to the forty-seventh bytes.
-/
namespace Go.Proofs.YtnhoeboighndlaaGreatDoor.need
open Go.RowKit Go.ChangeShapes
open Go.Proofs.YtnhoeboighndlaaGreatDoor.octet (St rdByte rdNum Stands rdNum_lt)
open Go.Proofs.YtnhoeboighndlaaGreatDoor.objs (De zero CellsAt DAt cells3 put3 put3_same put3_far put3_below rdN)
set_option linter.unusedVariables false

def readR9 (d : List De) (n : Nat) (S : St) : List (List De) × St × Nat :=
  let p := rdWays S n
  if p.2.2 ≠ 0 then ([], p.2.1, p.2.2)
  else if chkW d p.1 ≠ 0 then ([], p.2.1, chkW d p.1)
  else (p.1, p.2.1, 0)
theorem readW_eq (d : List De) (s : St) : readW d s = if 4 < (rdNum s).1 then ([], (rdNum s).2, 4) else if (rdNum s).2.err ≠ 0 then ([], (rdNum s).2, (rdNum s).2.err) else readR9 d (rdNum s).1 (rdNum s).2 := rfl
theorem readR9_bad {d : List De} {n : Nat} {S : St} {q : List (List De) × St × Nat} (h : rdWays S n = q) (hq : q.2.2 ≠ 0) : readR9 d n S = ([], q.2.1, q.2.2) := by
  unfold readR9
  simp only [h, if_pos hq]
theorem readR9_fine {d : List De} {n : Nat} {S : St} {ls : List (List De)} {T : St} (h : rdWays S n = (ls, T, 0)) : readR9 d n S = if chkW d ls ≠ 0 then ([], T, chkW d ls) else (ls, T, 0) := by
  unfold readR9
  simp only [h]
  rfl
/-- A way that is wrong ends all. -/
theorem ways_stop {d : List De} {S S1 T : St} {n j e : Nat} {ls : List (List De)} (hj : j < n) (hl : rdWays S j = (ls, S1, 0)) (hw : (rdWay S1).2 = (T, e)) (he : e ≠ 0) : readR9 d n S = ([], T, e) := by
  have h1 : rdWays S (j + 1) = ([], T, e) := by
    simp only [rdWays, hl, hw]
    rw [if_neg (by decide), if_pos he]
  have h2 : rdWays S n = ([], T, e) := by
    rw [← h1]
    exact rdWays_err (by rw [h1]; exact he) n hj
  exact readR9_bad h2 he
theorem ways_next {S S1 T : St} {j : Nat} {ls : List (List De)} {ns : List De} (hl : rdWays S j = (ls, S1, 0)) (hw : rdWay S1 = (ns, T, 0)) : rdWays S (j + 1) = (ls ++ [ns], T, 0) := by
  simp only [rdWays, hl, hw]
  rw [if_neg (by decide), if_neg (by decide)]
theorem needs_stop {T0 T T1 : St} {n k e : Nat} {ns : List De} (hk : k < n) (hl : rdNeeds T0 k = (ns, T, 0)) (hw : (rdNeed T).2 = (T1, e)) (he : e ≠ 0) : (rdNeeds T0 n).2 = (T1, e) := by
  have h1 : rdNeeds T0 (k + 1) = ([], T1, e) := by
    simp only [rdNeeds, hl, hw]
    rw [if_neg (by decide), if_pos he]
  rw [rdNeeds_err (by rw [h1]; exact he) n hk, h1]
theorem needs_next {T0 T T1 : St} {k : Nat} {ns : List De} {x : De} (hl : rdNeeds T0 k = (ns, T, 0)) (hw : rdNeed T = (x, T1, 0)) : rdNeeds T0 (k + 1) = (ns ++ [x], T1, 0) := by
  simp only [rdNeeds, hl, hw]
  rw [if_neg (by decide), if_neg (by decide)]
theorem rdWay_4 {s : St} (h : 4 < (rdNum s).1) : rdWay s = ([], (rdNum s).2, 4) := by unfold rdWay; rw [if_pos h]
theorem rdWay_err {s : St} (h : ¬ 4 < (rdNum s).1) (he : (rdNum s).2.err ≠ 0) : rdWay s = ([], (rdNum s).2, (rdNum s).2.err) := by unfold rdWay; rw [if_neg h, if_pos he]
theorem rdWay_fine {s : St} (h : ¬ 4 < (rdNum s).1) (he : (rdNum s).2.err = 0) : rdWay s = rdNeeds (rdNum s).2 (rdNum s).1 := by unfold rdWay; rw [if_neg h, if_neg (by simp [he])]
theorem rdByte_lt (s : St) : (rdByte s).1 < 256 := by
  unfold rdByte
  split
  · omega
  · split
    · omega
    · exact UInt8.toNat_lt _
theorem rdNeed_bad {s : St} (h : (rdByte s).2.err = 0 ∧ ((rdByte s).1 < 1 ∨ 5 < (rdByte s).1)) : (rdNeed s).2 = ((rdByte s).2, 6) := by unfold rdNeed; dsimp only; rw [if_pos h]
theorem rdNeed_good {s : St} (h : ¬ ((rdByte s).2.err = 0 ∧ ((rdByte s).1 < 1 ∨ 5 < (rdByte s).1))) : rdNeed s = ((((rdByte s).1 : Int), (rdN (rdByte s).2).1, (rdC (rdByte s).1 (rdN (rdByte s).2).2).1), (rdC (rdByte s).1 (rdN (rdByte s).2).2).2, (rdC (rdByte s).1 (rdN (rdByte s).2).2).2.err) := by unfold rdNeed; dsimp only; rw [if_neg h]
theorem rdN_eq (s : St) : rdN s = (((min (rdNum s).1 2147483648 : Nat) : Int), (rdNum s).2) := rfl

theorem rdWay_len {s : St} (h : (rdWay s).2.2 = 0) : (rdWay s).1.length ≤ 4 := by
  unfold rdWay at h ⊢
  split at h
  · cases h
  · rename_i h1
    rw [if_neg h1]
    split at h
    · exact absurd h ‹_›
    · rename_i h2
      rw [if_neg h2, rdNeeds_length _ h]
      omega
theorem rdWays_small {s : St} : ∀ j, (rdWays s j).2.2 = 0 → ∀ x ∈ (rdWays s j).1, x.length ≤ 4 := by
  intro j
  induction j with
  | zero => intro _ x hx; cases hx
  | succ j ih =>
    intro h
    simp only [rdWays] at h ⊢
    split at h
    · exact absurd h ‹_›
    · rename_i h1
      rw [if_neg h1]
      split at h
      · exact absurd h ‹_›
      · rename_i h2
        rw [if_neg h2]
        intro x hx
        rcases List.mem_append.1 hx with hx | hx
        · exact ih (by omega) x hx
        · rw [List.mem_singleton.1 hx]
          exact rdWay_len (by omega)
theorem OwnW.drew {w : World} {base : Nat} {v : Value} {l : List (List De)} (h : OwnW w base v l) : OwnW w.drew base v l := h
theorem OwnN.drew {w : World} {base : Nat} {v : Value} {l : List De} (h : OwnN w base v l) : OwnN w.drew base v l := h
theorem OwnW.wg {W : World} {base n cap : Nat} {A : Option Addr} {l : List (List De)} (h : OwnW W base (.slice A n cap) l) (hl : l.length ≤ 6) (hll : ∀ x ∈ l, x.length ≤ 6) : WG W A l.length l := by
  refine ⟨by omega, fun j hj => ?_⟩
  obtain ⟨xs, h1, h2⟩ := h
  obtain ⟨x, h3, h4⟩ := h2 j hj
  have h6 := hll _ (getW_mem hj)
  rcases h1.2 with ⟨e, h0⟩ | ⟨g, cap', cur, e, hb, hh, _⟩
  · omega
  · injection e with e1 e2 e3
    subst e1
    have hcell : W.cell? ⟨g, 0 + j, none⟩ = some x := by
      have := World.ownsRow.cells h1 (g := g) rfl _ _ h3
      rwa [Addr.add_lit] at this
    rcases h4.2 with ⟨rfl, h0⟩ | ⟨g', c', cur', rfl, hb', hh', hn, hm, _⟩
    · refine ⟨g, 0, none, 0, 0, rfl, lt_of_block hh, hcell, ?_, by omega, Nat.le_refl _, by omega, fun _ => ⟨rfl, rfl⟩⟩
      have := List.length_eq_zero_iff.1 h0
      rw [this]
      exact Go.Proofs.YtnhoeboighndlaaGreatDoor.objs.DAt.nil _ _
    · refine ⟨g, 0, some ⟨g', 0, none⟩, (l.getD j []).length, c', rfl, lt_of_block hh, hcell, h4.at, by omega, hn, by simpa [maxLen] using hm, fun h => by cases h⟩

end Go.Proofs.YtnhoeboighndlaaGreatDoor.need
