/-
  Counters that are waited for, as the document has them: plain mathematics. No condition.
-/
namespace Go.Proofs.Ytngfienkbmmhjaa.sem

/-- Its value, and the most of it. -/
structure Sx where
  v : Int
  m : Int
def newS (first most : Int) : Sx := ⟨min (max first 0) (min (max most 1) 1000), min (max most 1) 1000⟩
/-- A counter behind a call, and what is answered. -/
def doS (s : Sx) (k n : Int) : Sx × Int :=
  if k = 0 then if n < 1 ∨ s.v < n then (s, 0) else (⟨s.v - n, s.m⟩, 1)
  else if k = 1 then if n < 1 then (s, 1) else if 1000 < n ∨ s.m < s.v + n then (s, 11) else (⟨s.v + n, s.m⟩, 0)
  else (⟨s.m, s.m⟩, s.m - s.v)
def Fine (s : Sx) : Prop := 0 ≤ s.v ∧ s.v ≤ s.m ∧ 1 ≤ s.m ∧ s.m ≤ 1000
theorem new_fine (first most : Int) : Fine (newS first most) := by
  unfold Fine newS
  dsimp only
  omega
theorem do_fine {s : Sx} (h : Fine s) (k n : Int) : Fine (doS s k n).1 := by
  unfold Fine at h
  unfold doS
  repeat' split
  all_goals (unfold Fine; dsimp only; omega)
/-- The value is what it was, and what was posted, without what was taken. -/
theorem do_sum (s : Sx) (k n : Int) : (doS s k n).1.v = (if k ≠ 0 ∧ k ≠ 1 then s.v + (doS s k n).2 else if k = 1 ∧ (doS s k n).2 = 0 then s.v + n else if k = 0 ∧ (doS s k n).2 = 1 then s.v - n else s.v) := by
  by_cases k0 : k = 0
  · subst k0
    rw [if_neg (fun e => e.1 rfl), if_neg (fun e => by omega)]
    unfold doS
    rw [if_pos rfl]
    split
    · rw [if_neg (fun e => by have := e.2; dsimp only at this; omega)]
    · rw [if_pos ⟨rfl, rfl⟩]
  by_cases k1 : k = 1
  · subst k1
    rw [if_neg (fun e => e.2 rfl)]
    unfold doS
    rw [if_neg (by decide), if_pos rfl]
    split
    · rw [if_neg (fun e => by have := e.2; dsimp only at this; omega), if_neg (fun e => by omega)]
    · split
      · rw [if_neg (fun e => by have := e.2; dsimp only at this; omega), if_neg (fun e => by omega)]
      · rw [if_pos ⟨rfl, rfl⟩]
  · rw [if_pos ⟨k0, k1⟩]
    unfold doS
    rw [if_neg k0, if_neg k1]
    dsimp only
    omega
end Go.Proofs.Ytngfienkbmmhjaa.sem
