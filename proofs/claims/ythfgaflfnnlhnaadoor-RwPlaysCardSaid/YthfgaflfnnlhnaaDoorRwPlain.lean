/-
  Locks that many read or one writes, as the document has them: plain mathematics. No condition.
-/
import Derived.Test.YthfgaflfnnlhnaaDoorBMore
namespace Go.Proofs.YthfgaflfnnlhnaaDoor.rwl
open Go.Proofs.YthfgaflfnnlhnaaDoor.bits (Is64 hasB wth wout may bitN wth_lt wout_lt testBit_wth testBit_wout wth_or)

/-- Who reads, as a set, and who writes, or -1. -/
structure Rx where
  r : Nat
  p : Int
def newR : Rx := ⟨0, -1⟩
def modeR (s : Rx) (t : Int) : Int := if 0 ≤ t ∧ s.p = t then 2 else if hasB s.r t = true then 1 else 0
def leaveR (s : Rx) (t : Int) : Rx := ⟨wout s.r t, if s.p = t then -1 else s.p⟩
def holdR (s : Rx) : Nat := wth s.r s.p
/-- A lock behind a call, and what is answered. -/
def doR (s : Rx) (k t : Int) : Rx × Int :=
  if t < 0 ∨ 63 < t then (s, 1)
  else if k ≠ 0 ∧ k ≠ 1 then if modeR s t = 0 then (s, 9) else (leaveR s t, 0)
  else if modeR s t ≠ 0 then (s, 8)
  else if 0 ≤ s.p ∨ (k = 1 ∧ s.r ≠ 0) then (s, 7)
  else if k = 0 then (⟨wth s.r t, s.p⟩, 0) else (⟨s.r, t⟩, 0)
def Fine (s : Rx) : Prop := Is64 s.r ∧ -1 ≤ s.p ∧ s.p ≤ 63 ∧ (0 ≤ s.p → s.r = 0)
theorem new_fine : Fine newR := by unfold Fine newR Is64; dsimp only; omega
theorem wout_zero (t : Int) : wout 0 t = 0 := by
  unfold wout bits.del
  split
  · rw [if_neg (by simp)]
  · rfl
theorem leave_fine {s : Rx} (h : Fine s) (t : Int) : Fine (leaveR s t) := by
  obtain ⟨h1, h2, h3, h4⟩ := h
  refine ⟨wout_lt h1 t, ?_, ?_, ?_⟩
  · unfold leaveR; dsimp only; split <;> omega
  · unfold leaveR; dsimp only; split <;> omega
  · unfold leaveR
    dsimp only
    intro h
    split at h
    · omega
    · rw [h4 h]; exact wout_zero t
theorem do_fine {s : Rx} (h : Fine s) (k t : Int) : Fine (doR s k t).1 := by
  have h0 := h
  obtain ⟨h1, h2, h3, h4⟩ := h
  unfold doR
  split
  · exact h0
  split
  · split
    · exact h0
    · exact leave_fine h0 t
  split
  · exact h0
  split
  · exact h0
  rename_i hp
  split
  · exact ⟨wth_lt h1 t, h2, h3, fun h => absurd h (fun e => hp (.inl e))⟩
  · rename_i k0 _ k1
    refine ⟨h1, by dsimp only; omega, by dsimp only; omega, fun _ => ?_⟩
    dsimp only
    have hk : k = 1 := by omega
    by_cases hr : s.r = 0
    · exact hr
    · exact absurd (.inr ⟨hk, hr⟩) hp
theorem mode_ge (s : Rx) (t : Int) : 0 ≤ modeR s t ∧ modeR s t ≤ 2 := by
  unfold modeR
  repeat' split
  all_goals omega
/-- Who is told 0 holds the lock as it asked. -/
theorem do_asked {s : Rx} (k t : Int) (h : (doR s k t).2 = 0) : modeR (doR s k t).1 t = (if k = 0 ∨ k = 1 then k + 1 else 0) := by
  unfold doR at h ⊢
  by_cases ht : t < 0 ∨ 63 < t
  · rw [if_pos ht] at h; exact absurd h (by dsimp only; omega)
  rw [if_neg ht] at h ⊢
  have hm : may t := by unfold may; omega
  by_cases hk : k ≠ 0 ∧ k ≠ 1
  · rw [if_pos hk] at h ⊢
    by_cases h0 : modeR s t = 0
    · rw [if_pos h0] at h; exact absurd h (by dsimp only; omega)
    rw [if_neg h0, if_neg (show ¬ (k = 0 ∨ k = 1) by omega)]
    unfold modeR leaveR
    dsimp only
    rw [if_neg (by split <;> omega)]
    have hb : hasB (wout s.r t) t = false := by
      unfold hasB
      rw [testBit_wout, decide_eq_true hm, decide_eq_true rfl]
      simp
    rw [hb]
    rfl
  rw [if_neg hk] at h ⊢
  by_cases h0 : modeR s t ≠ 0
  · rw [if_pos h0] at h; exact absurd h (by dsimp only; omega)
  rw [if_neg h0] at h ⊢
  by_cases h7 : 0 ≤ s.p ∨ (k = 1 ∧ s.r ≠ 0)
  · rw [if_pos h7] at h; exact absurd h (by dsimp only; omega)
  rw [if_neg h7, if_pos (show k = 0 ∨ k = 1 by omega)]
  by_cases k0 : k = 0
  · subst k0
    rw [if_pos rfl]
    unfold modeR
    dsimp only
    rw [if_neg (by omega)]
    have hb : hasB (wth s.r t) t = true := by
      unfold hasB
      rw [testBit_wth, decide_eq_true hm, decide_eq_true rfl]
      simp
    rw [if_pos hb]
    rfl
  · rw [if_neg k0]
    have hk1 : k = 1 := by omega
    subst hk1
    unfold modeR
    dsimp only
    rw [if_pos ⟨by omega, rfl⟩]
    rfl
/-- Where one writes nobody else holds the lock. -/
theorem fine_alone {s : Rx} (h : Fine s) (hp : 0 ≤ s.p) : s.r = 0 ∧ holdR s = 2 ^ s.p.toNat ∧ modeR s s.p = 2 ∧ s.p.toNat < 64 ∧ s.p = (s.p.toNat : Int) := by
  obtain ⟨h1, h2, h3, h4⟩ := h
  have hr := h4 hp
  refine ⟨hr, ?_, ?_, by omega, by omega⟩
  · unfold holdR
    rw [hr, wth_or, Nat.zero_or]
    unfold bitN
    rw [if_pos (by unfold may; omega)]
  · unfold modeR
    rw [if_pos ⟨hp, rfl⟩]
end Go.Proofs.YthfgaflfnnlhnaaDoor.rwl
