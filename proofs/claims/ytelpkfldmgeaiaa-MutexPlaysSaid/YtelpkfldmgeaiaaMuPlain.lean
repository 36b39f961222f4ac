/-
  Locks that know when their owner died, as the document has them: plain mathematics. No condition.
-/
namespace Go.Proofs.Ytelpkfldmgeaiaa.mut

/-- Its owner (-1: nobody), and what it is like. -/
structure Mx where
  o : Int
  bad : Bool
  lost : Bool
def newM : Mx := ⟨-1, false, false⟩
def lockM (m : Mx) (t : Int) : Mx × Int :=
  if t < 0 then (m, 1) else if m.lost = true then (m, 15) else if m.o = t then (m, 8) else if 0 ≤ m.o then (m, 7) else ({ m with o := t }, 0)
def ownM (m : Mx) (t : Int) : Prop := 0 ≤ t ∧ m.o = t
instance (m : Mx) (t : Int) : Decidable (ownM m t) := by unfold ownM; infer_instance
def unlockM (m : Mx) : Mx := if m.bad = true then ⟨-1, false, true⟩ else ⟨-1, false, m.lost⟩
def freeM (m : Mx) : Mx := { m with o := -1 }
def dieM (m : Mx) : Mx := ⟨-1, true, m.lost⟩
def mendM (m : Mx) : Mx := { m with bad := false }
/-- A mutex behind a call, and what is answered. -/
def doM (m : Mx) (k t : Int) : Mx × Int :=
  if k = 0 then lockM m t
  else if ¬ ownM m t then (m, if k = 2 ∨ k = 3 then 0 else 9)
  else if k = 1 then (unlockM m, 0) else if k = 2 then (freeM m, 1) else if k = 3 then (dieM m, 1) else (mendM m, 0)
/-- Of what is lost nobody is the owner, and it is not bad. -/
def Fine (m : Mx) : Prop := -1 ≤ m.o ∧ (m.lost = true → m.o = -1 ∧ m.bad = false)
theorem new_fine : Fine newM := ⟨by decide, fun h => by cases h⟩
theorem do_fine {m : Mx} (h : Fine m) (k t : Int) : Fine (doM m k t).1 := by
  obtain ⟨h1, h2⟩ := h
  unfold doM
  split
  · unfold lockM
    split
    · exact ⟨h1, h2⟩
    · split
      · exact ⟨h1, h2⟩
      · rename_i hl
        split
        · exact ⟨h1, h2⟩
        · split
          · exact ⟨h1, h2⟩
          · exact ⟨by show -1 ≤ t; omega, fun e => absurd e hl⟩
  · split
    · exact ⟨h1, h2⟩
    · rename_i ho
      have ho' : ownM m t := Decidable.of_not_not ho
      have hnl : m.lost = false := by
        cases hl : m.lost with
        | false => rfl
        | true =>
          have := (h2 hl).1
          have := ho'.1
          have := ho'.2
          omega
      split
      · unfold unlockM
        split
        · exact ⟨by show (-1 : Int) ≤ -1; decide, fun _ => ⟨rfl, rfl⟩⟩
        · exact ⟨by show (-1 : Int) ≤ -1; decide, fun e => ⟨rfl, rfl⟩⟩
      · split
        · exact ⟨by show (-1 : Int) ≤ -1; decide, fun e => by rw [show (freeM m).lost = m.lost from rfl, hnl] at e; cases e⟩
        · split
          · exact ⟨by show (-1 : Int) ≤ -1; decide, fun e => by rw [show (dieM m).lost = m.lost from rfl, hnl] at e; cases e⟩
          · exact ⟨h1, fun e => by rw [show (mendM m).lost = m.lost from rfl, hnl] at e; cases e⟩
/-- What is lost stays so. -/
theorem do_lost {m : Mx} (h : Fine m) (k t : Int) (hl : m.lost = true) : (doM m k t).1 = m := by
  have h2 := (h.2 hl).1
  unfold doM
  split
  · unfold lockM
    split
    · rfl
    · rfl
  · have hno : ¬ ownM m t := fun e => by
      have h3 := e.1
      have h4 := e.2
      omega
    rw [if_pos hno]
/-- What is bad stays so till it is mended, or lost. -/
theorem do_bad {m : Mx} (k t : Int) (hb : m.bad = true) (h1 : (doM m k t).1.bad = false) (h2 : (doM m k t).1.lost = false) : k ≠ 0 ∧ k ≠ 1 ∧ k ≠ 2 ∧ k ≠ 3 ∧ t = m.o ∧ 0 ≤ m.o := by
  unfold doM at h1 h2
  split at h1
  · rename_i hk
    rw [if_pos hk] at h2
    unfold lockM at h1
    split at h1
    · rw [hb] at h1; cases h1
    · split at h1
      · rw [hb] at h1; cases h1
      · split at h1
        · rw [hb] at h1; cases h1
        · split at h1
          · rw [hb] at h1; cases h1
          · rw [show ({ m with o := t } : Mx).bad = m.bad from rfl, hb] at h1; cases h1
  · rename_i hk
    rw [if_neg hk] at h2
    split at h1
    · rw [hb] at h1; cases h1
    · rename_i ho
      rw [if_neg ho] at h2
      have ho' : ownM m t := Decidable.of_not_not ho
      split at h1
      · rename_i h3
        rw [if_pos h3] at h2
        unfold unlockM at h2
        rw [if_pos hb] at h2
        cases h2
      · rename_i h3
        split at h1
        · rw [show (freeM m).bad = m.bad from rfl, hb] at h1; cases h1
        · rename_i h4
          split at h1
          · cases h1
          · rename_i h5
            exact ⟨hk, h3, h4, h5, ho'.2.symm, by have := ho'.1; have := ho'.2; omega⟩
/-- Two never own it. -/
theorem do_owner {m : Mx} (k t : Int) (h0 : 0 ≤ m.o) (h1 : 0 ≤ (doM m k t).1.o) : (doM m k t).1.o = m.o := by
  unfold doM at h1 ⊢
  split
  · unfold lockM
    split
    · rfl
    · split
      · rfl
      · split
        · rfl
        · rfl
  · rename_i hk
    rw [if_neg hk] at h1
    split
    · rfl
    · rename_i ho
      rw [if_neg ho] at h1
      split
      · rename_i h3
        rw [if_pos h3] at h1
        unfold unlockM at h1
        split at h1 <;> exact absurd h1 (by show ¬ (0 : Int) ≤ -1; decide)
      · rename_i h3
        rw [if_neg h3] at h1
        split
        · rename_i h4
          rw [if_pos h4] at h1
          exact absurd h1 (by show ¬ (0 : Int) ≤ -1; decide)
        · rename_i h4
          rw [if_neg h4] at h1
          split
          · rename_i h5
            rw [if_pos h5] at h1
            exact absurd h1 (by show ¬ (0 : Int) ≤ -1; decide)
          · rfl
end Go.Proofs.Ytelpkfldmgeaiaa.mut
