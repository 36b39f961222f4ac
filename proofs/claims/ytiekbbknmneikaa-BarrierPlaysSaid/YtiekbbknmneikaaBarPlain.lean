/-
  Where members wait for one another, as the document has it: plain mathematics. No condition.
-/
import Derived.Test.YtiekbbknmneikaaBMore
namespace Go.Proofs.Ytiekbbknmneikaa.bar
open Go.Proofs.Ytiekbbknmneikaa.bits (Is64 hasB wth wout may minus els mem_els wth_lt wout_lt testBit_wth testBit_wout ext64)

/-- Members, and those that have arrived. -/
structure Bx where
  m : Nat
  a : Nat
def missB (s : Bx) : Nat := minus s.m s.a
def outB (s : Bx) (t : Int) : Bx := ⟨wout s.m t, wout s.a t⟩
def enrolB (s : Bx) (t : Int) : Bx × Int :=
  if t < 0 ∨ 63 < t then (s, 1) else if hasB s.m t = true then (s, 8) else if s.a ≠ 0 then (s, 7) else (⟨wth s.m t, s.a⟩, 0)
def leaveB (s : Bx) (t : Int) : Bx × Nat × Int :=
  if t < 0 ∨ 63 < t then (s, 0, 1) else if hasB s.m t = false then (s, 0, 9)
  else if missB (outB s t) = 0 then (⟨(outB s t).m, 0⟩, (outB s t).a, 0) else (outB s t, 0, 0)
def arriveB (s : Bx) (t : Int) : Bx × Nat × Bool × Int :=
  if t < 0 ∨ 63 < t then (s, 0, false, 1) else if hasB s.m t = false then (s, 0, false, 9) else if hasB s.a t = true then (s, 0, false, 7)
  else if missB ⟨s.m, wth s.a t⟩ = 0 then (⟨s.m, 0⟩, s.a, true, 0) else (⟨s.m, wth s.a t⟩, 0, false, 0)
def drawB (s : Bx) (t : Int) : Bx × Bool := (⟨s.m, wout s.a t⟩, hasB s.a t)
def breakB (s : Bx) (t : Int) : Bx × Nat × Bool :=
  if hasB s.m t = false then (s, 0, false) else (⟨(outB s t).m, 0⟩, (outB s t).a, true)
/-- What is answered. -/
structure Tx where
  s : Nat
  b : Bool
  e : Int
def doB (s : Bx) (k t : Int) : Bx × Tx :=
  if k = 0 then ((enrolB s t).1, ⟨0, false, (enrolB s t).2⟩)
  else if k = 1 then ((leaveB s t).1, ⟨(leaveB s t).2.1, false, (leaveB s t).2.2⟩)
  else if k = 2 then ((arriveB s t).1, ⟨(arriveB s t).2.1, (arriveB s t).2.2.1, (arriveB s t).2.2.2⟩)
  else if k = 3 then ((drawB s t).1, ⟨0, (drawB s t).2, 0⟩)
  else ((breakB s t).1, ⟨(breakB s t).2.1, (breakB s t).2.2, 0⟩)
/-- Those of the first j that have arrived are taken away. -/
def lessJ (m : Nat) (l : List Nat) : Nat := l.foldl (fun (s n : Nat) => wout s (n : Int)) m
theorem lessJ_take (m : Nat) (l : List Nat) {j : Nat} (h : j < l.length) : lessJ m (l.take (j + 1)) = wout (lessJ m (l.take j)) ((l[j] : Nat) : Int) := by
  unfold lessJ
  rw [List.take_succ_eq_append_getElem h, List.foldl_append]
  rfl
theorem lessJ_lt (l : List Nat) : ∀ m, Is64 m → Is64 (lessJ m l) := by
  induction l with
  | nil => exact fun m h => h
  | cons n l ih => exact fun m h => ih _ (wout_lt h _)
theorem testBit_lessJ (l : List Nat) (hl : ∀ n ∈ l, n < 64) : ∀ m i, (lessJ m l).testBit i = (m.testBit i && !decide (i ∈ l)) := by
  induction l with
  | nil => intro m i; simp [lessJ]
  | cons n l ih =>
    intro m i
    have hn := hl n (List.mem_cons_self ..)
    show (lessJ (wout m (n : Int)) l).testBit i = _
    rw [ih (fun x hx => hl x (List.mem_cons_of_mem _ hx)), testBit_wout, decide_eq_true (by unfold may; omega), Bool.true_and]
    by_cases h1 : i = n
    · subst h1; simp
    · have h2 : ¬ (n = i) := fun e => h1 e.symm
      simp [h1, h2]
theorem lessJ_all {m a : Nat} (hm : Is64 m) (ha : Is64 a) : lessJ m (els a) = minus m a := by
  refine ext64 (lessJ_lt _ _ hm) (bits.minus_lt hm) fun i hi => ?_
  rw [testBit_lessJ _ (fun n h => (mem_els.mp h).1), bits.testBit_minus ha hi]
  congr 2
  by_cases h : a.testBit i = true
  · rw [h, decide_eq_true (mem_els.mpr ⟨hi, h⟩)]
  · rw [decide_eq_false (fun e => h (mem_els.mp e).2)]
    simpa using h
def Fine (s : Bx) : Prop := Is64 s.m ∧ Is64 s.a ∧ (∀ i, s.a.testBit i = true → s.m.testBit i = true) ∧ (s.a ≠ 0 → missB s ≠ 0)
theorem zero_fine {m : Nat} (h : Is64 m) : Fine ⟨m, 0⟩ := ⟨h, by unfold Is64; dsimp only; omega, fun i h => by simp at h, fun h => absurd rfl h⟩
theorem new_fine : Fine ⟨0, 0⟩ := zero_fine (by unfold Is64; omega)
theorem wout_sub {a i : Nat} {t : Int} (h : (wout a t).testBit i = true) : a.testBit i = true := by
  rw [testBit_wout, Bool.and_eq_true] at h
  exact h.1
theorem has_bit {m : Nat} {t : Int} (h : hasB m t = true) : may t ∧ m.testBit t.toNat = true := by
  unfold hasB at h
  rw [Bool.and_eq_true, decide_eq_true_iff] at h
  exact h
theorem miss_bit {s : Bx} (ha : Is64 s.a) {i : Nat} (hi : i < 64) (h1 : s.m.testBit i = true) (h2 : s.a.testBit i = false) : missB s ≠ 0 := by
  intro e
  have h := bits.testBit_minus (s := s.m) ha hi
  unfold missB at e
  rw [e, h1, h2] at h
  simp at h
theorem bit_lt {m i : Nat} (hm : Is64 m) (h : m.testBit i = true) : i < 64 := by
  rcases Nat.lt_or_ge i 64 with h1 | h1
  · exact h1
  · exfalso
    have h2 : m < 2 ^ i := Nat.lt_of_lt_of_le hm (by
      have := Nat.pow_le_pow_right (show 0 < 2 by omega) h1
      rw [bits.two64] at this
      exact this)
    rw [Nat.testBit_lt_two_pow h2] at h
    exact absurd h (by decide)
theorem draw_fine {s : Bx} (h : Fine s) (t : Int) : Fine (drawB s t).1 := by
  obtain ⟨h1, h2, h3, h4⟩ := h
  refine ⟨h1, wout_lt h2 t, fun i hi => h3 i (wout_sub hi), fun hn => ?_⟩
  obtain ⟨i, hi⟩ := Nat.exists_testBit_of_ne_zero hn
  have ha : s.a ≠ 0 := by
    intro e
    have := wout_sub hi
    rw [e] at this
    simp at this
  obtain ⟨k, hk⟩ := Nat.exists_testBit_of_ne_zero (h4 ha)
  have hk64 := bit_lt (bits.minus_lt h1) hk
  unfold missB at hk
  rw [bits.testBit_minus h2 hk64, Bool.and_eq_true] at hk
  refine miss_bit (s := (drawB s t).1) (wout_lt h2 t) hk64 hk.1 ?_
  show (wout s.a t).testBit k = false
  rw [testBit_wout]
  have : s.a.testBit k = false := by simpa using hk.2
  rw [this]
  rfl
theorem do_fine {s : Bx} (h : Fine s) (k t : Int) : Fine (doB s k t).1 := by
  have h0 := h
  obtain ⟨h1, h2, h3, h4⟩ := h
  unfold doB
  split
  · show Fine (enrolB s t).1
    unfold enrolB
    repeat' split
    · exact h0
    · exact h0
    · exact h0
    · rename_i _ _ ha
      have ha0 : s.a = 0 := by omega
      rw [ha0]
      exact zero_fine (wth_lt h1 t)
  split
  · show Fine (leaveB s t).1
    unfold leaveB
    repeat' split
    · exact h0
    · exact h0
    · exact zero_fine (wout_lt h1 t)
    · rename_i hn
      exact ⟨wout_lt h1 t, wout_lt h2 t, fun i hi => by
        show (wout s.m t).testBit i = true
        have hi' : (wout s.a t).testBit i = true := hi
        rw [testBit_wout, Bool.and_eq_true] at hi' ⊢
        exact ⟨h3 i hi'.1, hi'.2⟩, fun _ => hn⟩
  split
  · show Fine (arriveB s t).1
    unfold arriveB
    repeat' split
    · exact h0
    · exact h0
    · exact h0
    · exact zero_fine h1
    · rename_i hm _ hn
      have hb := has_bit (show hasB s.m t = true by simpa using hm)
      exact ⟨h1, wth_lt h2 t, fun i hi => by
        have hi' : (wth s.a t).testBit i = true := hi
        rw [testBit_wth, Bool.or_eq_true, Bool.and_eq_true, decide_eq_true_iff, decide_eq_true_iff] at hi'
        rcases hi' with hi' | hi'
        · exact h3 i hi'
        · rw [← hi'.2]; exact hb.2, fun _ => hn⟩
  split
  · exact draw_fine h0 t
  · show Fine (breakB s t).1
    unfold breakB
    split
    · exact h0
    · exact zero_fine (wout_lt h1 t)
/-- Who is told had arrived, and nobody has behind it. -/
theorem do_told (s : Bx) (k t : Int) : (∀ i, (doB s k t).2.s.testBit i = true → s.a.testBit i = true) ∧ ((doB s k t).2.s ≠ 0 → (doB s k t).1.a = 0) := by
  have hz : (∀ i, (0 : Nat).testBit i = true → s.a.testBit i = true) := fun i h => by simp at h
  unfold doB
  split
  · exact ⟨hz, fun h => absurd rfl h⟩
  split
  · show (∀ i, (leaveB s t).2.1.testBit i = true → _) ∧ ((leaveB s t).2.1 ≠ 0 → (leaveB s t).1.a = 0)
    unfold leaveB
    repeat' split
    · exact ⟨hz, fun h => absurd rfl h⟩
    · exact ⟨hz, fun h => absurd rfl h⟩
    · exact ⟨fun i h => wout_sub h, fun _ => rfl⟩
    · exact ⟨hz, fun h => absurd rfl h⟩
  split
  · show (∀ i, (arriveB s t).2.1.testBit i = true → _) ∧ ((arriveB s t).2.1 ≠ 0 → (arriveB s t).1.a = 0)
    unfold arriveB
    repeat' split
    · exact ⟨hz, fun h => absurd rfl h⟩
    · exact ⟨hz, fun h => absurd rfl h⟩
    · exact ⟨hz, fun h => absurd rfl h⟩
    · exact ⟨fun i h => h, fun _ => rfl⟩
    · exact ⟨hz, fun h => absurd rfl h⟩
  split
  · exact ⟨hz, fun h => absurd rfl h⟩
  · show (∀ i, (breakB s t).2.1.testBit i = true → _) ∧ ((breakB s t).2.1 ≠ 0 → (breakB s t).1.a = 0)
    unfold breakB
    split
    · exact ⟨hz, fun h => absurd rfl h⟩
    · exact ⟨fun i h => wout_sub h, fun _ => rfl⟩
theorem minus_none {a m : Nat} (ha : Is64 a) (hm : Is64 m) (h : ∀ i, a.testBit i = true → m.testBit i = true) : minus a m = 0 := by
  refine ext64 (bits.minus_lt ha) (by unfold Is64; omega) fun i hi => ?_
  rw [bits.testBit_minus hm hi, Nat.zero_testBit]
  by_cases hb : a.testBit i = true
  · rw [h i hb]; simp
  · simp [show a.testBit i = false by simpa using hb]
theorem do_told_lt {s : Bx} (h : Fine s) (k t : Int) : Is64 (doB s k t).2.s := by
  obtain ⟨h1, h2, h3, h4⟩ := h
  have hz : Is64 0 := by unfold Is64; omega
  unfold doB
  split
  · exact hz
  split
  · show Is64 (leaveB s t).2.1
    unfold leaveB
    repeat' split
    · exact hz
    · exact hz
    · exact wout_lt h2 t
    · exact hz
  split
  · show Is64 (arriveB s t).2.1
    unfold arriveB
    repeat' split
    · exact hz
    · exact hz
    · exact hz
    · exact h2
    · exact hz
  split
  · exact hz
  · show Is64 (breakB s t).2.1
    unfold breakB
    split
    · exact hz
    · exact wout_lt h2 t
end Go.Proofs.Ytiekbbknmneikaa.bar
