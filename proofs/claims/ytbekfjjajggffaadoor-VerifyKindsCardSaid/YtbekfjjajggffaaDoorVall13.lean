/-
  Texts of one claim in one file: VSets, GOnce. Each has its own sentence, with its conditions.
-/
import Derived.Test.YtbekfjjajggffaaDoorVall11
import Derived.Test.YtbekfjjajggffaaDoorVall12
import Derived.Test.YtbekfjjajggffaaDoorVall10
/-
  Which functions are called, and which objects are named, as sets are found: plain mathematics of lists and bits. No condition.
-/
namespace Go.Proofs.YtbekfjjajggffaaDoor.pgm.ver
open Go.Proofs.YtbekfjjajggffaaDoor.pgm
open Go.Proofs.YtbekfjjajggffaaDoor.objs (De zero)
open Go.Proofs.YtbekfjjajggffaaDoor.inst (form opd)
open Go.Proofs.YtbekfjjajggffaaDoor.bits (wth Is64 wth_lt testBit_wth may minus testBit_minus minus_lt allN allN_lt testBit_allN two64)
open Go.Proofs.YtbekfjjajggffaaDoor.need (objsIn objsW objects objsIn_64 objsW_64)
set_option linter.unusedVariables false

theorem or_64 {s t : Nat} (hs : Is64 s) (ht : Is64 t) : Is64 (s ||| t) := by
  unfold Is64 at *
  rw [← two64] at *
  exact Nat.or_lt_two_pow hs ht
theorem and_64 {s t : Nat} (hs : Is64 s) : Is64 (s &&& t) := Nat.lt_of_le_of_lt Nat.and_le_left hs
theorem bit_64 {s o : Nat} (hs : Is64 s) (h : s.testBit o = true) : o < 64 := by
  rcases Nat.lt_or_ge o 64 with h1 | h1
  · exact h1
  · rw [Nat.testBit_lt_two_pow (Nat.lt_of_lt_of_le (show s < 2 ^ 64 by rw [two64]; exact hs) (Nat.pow_le_pow_right (by omega) h1))] at h
    cases h

/-- What the first j instructions call. -/
def calledN (l : List De) : Nat → Nat
  | 0 => 0
  | j + 1 => if (l.getD j zero).1 = 20 then wth (calledN l j) (l.getD j zero).2.1 else calledN l j
theorem calledN_64 (l : List De) : ∀ j, Is64 (calledN l j) := by
  intro j
  induction j with
  | zero => unfold calledN Is64; omega
  | succ j ih =>
    unfold calledN
    split
    · exact wth_lt ih _
    · exact ih
theorem calledN_bit (l : List De) (o : Nat) : ∀ j, (calledN l j).testBit o = true ↔ ∃ i, i < j ∧ (l.getD i zero).1 = 20 ∧ (l.getD i zero).2.1 = (o : Int) ∧ o < 64 := by
  intro j
  induction j with
  | zero =>
    unfold calledN
    rw [Nat.zero_testBit]
    exact ⟨fun h => absurd h Bool.false_ne_true, fun ⟨i, hi, _⟩ => absurd hi (Nat.not_lt_zero i)⟩
  | succ j ih =>
    have step : (∃ i, i < j + 1 ∧ (l.getD i zero).1 = 20 ∧ (l.getD i zero).2.1 = (o : Int) ∧ o < 64) ↔ (∃ i, i < j ∧ (l.getD i zero).1 = 20 ∧ (l.getD i zero).2.1 = (o : Int) ∧ o < 64) ∨ ((l.getD j zero).1 = 20 ∧ (l.getD j zero).2.1 = (o : Int) ∧ o < 64) := by
      constructor
      · rintro ⟨i, hi, h⟩
        rcases Nat.lt_or_ge i j with h1 | h1
        · exact .inl ⟨i, h1, h⟩
        · obtain rfl : i = j := by omega
          exact .inr h
      · rintro (⟨i, hi, h⟩ | h)
        · exact ⟨i, by omega, h⟩
        · exact ⟨j, by omega, h⟩
    rw [step]
    unfold calledN
    split
    · rename_i h1
      rw [testBit_wth, Bool.or_eq_true, Bool.and_eq_true, decide_eq_true_iff, decide_eq_true_iff, ih]
      unfold may
      constructor
      · rintro (h | ⟨h, h2⟩)
        · exact .inl h
        · exact .inr ⟨h1, by omega, by omega⟩
      · rintro (h | ⟨_, h, h2⟩)
        · exact .inl h
        · exact .inr ⟨by omega, by omega⟩
    · rename_i h1
      rw [ih]
      exact ⟨.inl, fun h => h.resolve_right fun e => h1 e.1⟩

/-- What is found so far, and what is ahead. -/
structure Cl (fs : List Fn) (fn : Int) (s a : Nat) : Prop where
  s64 : Is64 s
  a64 : Is64 a
  lt : ∀ o, s.testBit o = true → o < fs.length
  alt : ∀ o, a.testBit o = true → o < fs.length
  apart : ∀ o, a.testBit o = true → s.testBit o = false
  back : ∀ o, s.testBit o = true ∨ a.testBit o = true → Rcd fs fn o
  self : 0 ≤ fn → fn < (fs.length : Int) → s.testBit fn.toNat = true ∨ a.testBit fn.toNat = true
  fwd : ∀ i j, s.testBit i = true → CallsF fs i j → s.testBit j = true ∨ a.testBit j = true
/-- At first only the function itself is ahead. -/
theorem Cl.start {fs : List Fn} {fn : Int} (hl : fs.length ≤ 16) : Cl fs fn 0 (wth 0 fn &&& allN fs.length) := by
  have h0 : Is64 (wth 0 fn) := wth_lt (by unfold Is64; omega) _
  have hb : ∀ o, (wth 0 fn &&& allN fs.length).testBit o = true ↔ fn = (o : Int) ∧ o < fs.length := fun o => by
    rw [Nat.testBit_and, Bool.and_eq_true, testBit_wth, Nat.zero_testBit, Bool.false_or, Bool.and_eq_true, decide_eq_true_iff, decide_eq_true_iff]
    unfold may
    constructor
    · rintro ⟨⟨h1, h2⟩, h3⟩
      rw [testBit_allN _ (by omega), decide_eq_true_iff] at h3
      omega
    · rintro ⟨h1, h2⟩
      refine ⟨⟨by omega, by omega⟩, ?_⟩
      rw [testBit_allN _ (by omega), decide_eq_true_iff]
      omega
  refine ⟨by unfold Is64; omega, and_64 h0, fun o h => ?_, fun o h => ((hb o).1 h).2, fun o _ => Nat.zero_testBit o, fun o h => ?_, fun h1 h2 => .inr ((hb _).2 ⟨by omega, by omega⟩), fun i j h => ?_⟩
  · rw [Nat.zero_testBit] at h; cases h
  · rcases h with h | h
    · rw [Nat.zero_testBit] at h; cases h
    · obtain ⟨h1, h2⟩ := (hb o).1 h
      have := Rcd.self (fs := fs) (fn := fn) (by omega) (by omega)
      rwa [show fn.toNat = o by omega] at this
  · rw [Nat.zero_testBit] at h; cases h
/-- One of those ahead is found, and what it calls is ahead then. -/
theorem Cl.step {fs : List Fn} {fn : Int} {s a x : Nat} (h : Cl fs fn s a) (hx : a.testBit x = true) (hl : fs.length ≤ 16) :
    Cl fs fn (wth s (x : Int)) (minus ((a ||| calledN (fs.getD x Fn.zero).co (fs.getD x Fn.zero).co.length) &&& allN fs.length) (wth s (x : Int))) := by
  have hxl := h.alt x hx
  have hs2 : ∀ o, (wth s (x : Int)).testBit o = true ↔ s.testBit o = true ∨ x = o := fun o => by
    rw [testBit_wth, Bool.or_eq_true, Bool.and_eq_true, decide_eq_true_iff, decide_eq_true_iff]
    unfold may
    constructor
    · rintro (h | ⟨h1, h2⟩)
      · exact .inl h
      · exact .inr (by omega)
    · rintro (h | h)
      · exact .inl h
      · exact .inr ⟨by omega, by omega⟩
  have hw : Is64 (wth s (x : Int)) := wth_lt h.s64 _
  have hc : Is64 (calledN (fs.getD x Fn.zero).co (fs.getD x Fn.zero).co.length) := calledN_64 _ _
  have h64 : Is64 ((a ||| calledN (fs.getD x Fn.zero).co (fs.getD x Fn.zero).co.length) &&& allN fs.length) := and_64 (or_64 h.a64 hc)
  have ha2 : ∀ o, (minus ((a ||| calledN (fs.getD x Fn.zero).co (fs.getD x Fn.zero).co.length) &&& allN fs.length) (wth s (x : Int))).testBit o = true ↔ (a.testBit o = true ∨ CallsF fs x o) ∧ o < fs.length ∧ ¬ (s.testBit o = true ∨ x = o) := fun o => by
    have key : ∀ ho : o < 64, ((minus ((a ||| calledN (fs.getD x Fn.zero).co (fs.getD x Fn.zero).co.length) &&& allN fs.length) (wth s (x : Int))).testBit o = true ↔ (a.testBit o = true ∨ CallsF fs x o) ∧ o < fs.length ∧ ¬ (s.testBit o = true ∨ x = o)) := fun ho => by
      rw [testBit_minus hw ho, Bool.and_eq_true, Nat.testBit_and, Bool.and_eq_true, Nat.testBit_or, Bool.or_eq_true, calledN_bit, testBit_allN _ ho, decide_eq_true_iff, Bool.not_eq_true', ← Bool.not_eq_true, hs2 o]
      constructor
      · rintro ⟨⟨h1, h2⟩, h3⟩
        refine ⟨?_, by omega, h3⟩
        rcases h1 with h1 | ⟨i, hi, e1, e2, _⟩
        · exact .inl h1
        · exact .inr ⟨by omega, _, Go.Proofs.YtbekfjjajggffaaDoor.pgm.getD_in (d := zero) hi, e1, e2⟩
      · rintro ⟨h1, h2, h3⟩
        refine ⟨⟨?_, by omega⟩, h3⟩
        rcases h1 with h1 | ⟨_, y, hy, e1, e2⟩
        · exact .inl h1
        · obtain ⟨i, hi, rfl⟩ := List.getElem_of_mem hy
          refine .inr ⟨i, hi, ?_⟩
          rw [List.getD_eq_getElem?_getD, List.getElem?_eq_getElem hi]
          exact ⟨e1, e2, ho⟩
    constructor
    · intro hh
      exact (key (bit_64 (minus_lt h64) hh)).1 hh
    · rintro ⟨h1, h2, h3⟩
      exact (key (by omega)).2 ⟨h1, h2, h3⟩
  refine ⟨hw, minus_lt h64, fun o ho => ?_, fun o ho => ((ha2 o).1 ho).2.1, fun o ho => ?_, fun o ho => ?_, fun h1 h2 => ?_, fun i j hi hj => ?_⟩
  · rcases (hs2 o).1 ho with h1 | h1
    · exact h.lt o h1
    · omega
  · rw [← Bool.not_eq_true, hs2 o]
    exact ((ha2 o).1 ho).2.2
  · rcases ho with ho | ho
    · rcases (hs2 o).1 ho with h1 | h1
      · exact h.back o (.inl h1)
      · subst h1; exact h.back _ (.inr hx)
    · rcases ((ha2 o).1 ho).1 with h1 | h1
      · exact h.back o (.inr h1)
      · obtain ⟨r0, r1, r2⟩ := h.back x (.inr hx)
        exact ⟨r0, r1, r2.step h1⟩
  · rcases h.self h1 h2 with h3 | h3
    · exact .inl ((hs2 _).2 (.inl h3))
    · by_cases e : x = fn.toNat
      · exact .inl ((hs2 _).2 (.inr e))
      · exact .inr ((ha2 _).2 ⟨.inl h3, by omega, fun hh => by
          rcases hh with hh | hh
          · rw [h.apart _ h3] at hh; cases hh
          · exact e hh⟩)
  · by_cases hj2 : s.testBit j = true ∨ x = j
    · exact .inl ((hs2 j).2 hj2)
    · refine .inr ((ha2 j).2 ⟨?_, hj.1, hj2⟩)
      rcases (hs2 i).1 hi with h1 | h1
      · rcases h.fwd i j h1 hj with h4 | h4
        · exact absurd (.inl h4) hj2
        · exact .inl h4
      · subst h1; exact .inr hj
/-- The found ones grow, and stay below 2 to the sixteenth. -/
theorem Cl.grows {fs : List Fn} {fn : Int} {s a x : Nat} (h : Cl fs fn s a) (hx : a.testBit x = true) : s < wth s (x : Int) := by
  have h0 := h.apart x hx
  have h1 := bit_64 h.a64 hx
  unfold wth Go.Proofs.YtbekfjjajggffaaDoor.bits.ins
  rw [if_pos (by unfold may; omega), Int.toNat_natCast, if_neg (by rw [h0]; exact Bool.false_ne_true)]
  have := Nat.two_pow_pos x
  omega
theorem Cl.small {fs : List Fn} {fn : Int} {s a : Nat} (h : Cl fs fn s a) (hl : fs.length ≤ 16) : s < 65536 := by
  refine Nat.lt_pow_two_of_testBit (n := 16) s fun i hi => ?_
  cases hh : s.testBit i with
  | false => rfl
  | true => have := h.lt i hh; omega
/-- Where none is ahead, just those that are reached are found. -/
theorem Cl.done {fs : List Fn} {fn : Int} {s : Nat} (h : Cl fs fn s 0) (o : Nat) : s.testBit o = true ↔ Rcd fs fn o := by
  constructor
  · exact fun ho => h.back o (.inl ho)
  · rintro ⟨h0, h1, h2⟩
    generalize hf : fn.toNat = f at h2
    induction h2 with
    | self =>
      rcases h.self h0 h1 with h3 | h3
      · rw [← hf]; exact h3
      · rw [Nat.zero_testBit] at h3; cases h3
    | step _ c ih =>
      rcases h.fwd _ _ ih c with h3 | h3
      · exact h3
      · rw [Nat.zero_testBit] at h3; cases h3

/-- The objects of a way's first j needs that are of a kind, bit by bit. -/
theorem objsIn_bit (l : List De) (k : Int) (s o : Nat) : ∀ j, (objsIn l k s j).testBit o = true ↔ s.testBit o = true ∨ ∃ i, i < j ∧ (l.getD i zero).1 = k ∧ (l.getD i zero).2.1 = (o : Int) ∧ o < 64 := by
  intro j
  induction j with
  | zero => exact ⟨.inl, fun h => h.resolve_right fun ⟨i, hi, _⟩ => absurd hi (Nat.not_lt_zero i)⟩
  | succ j ih =>
    have step : (∃ i, i < j + 1 ∧ (l.getD i zero).1 = k ∧ (l.getD i zero).2.1 = (o : Int) ∧ o < 64) ↔ (∃ i, i < j ∧ (l.getD i zero).1 = k ∧ (l.getD i zero).2.1 = (o : Int) ∧ o < 64) ∨ ((l.getD j zero).1 = k ∧ (l.getD j zero).2.1 = (o : Int) ∧ o < 64) := by
      constructor
      · rintro ⟨i, hi, h⟩
        rcases Nat.lt_or_ge i j with h1 | h1
        · exact .inl ⟨i, h1, h⟩
        · obtain rfl : i = j := by omega
          exact .inr h
      · rintro (⟨i, hi, h⟩ | h)
        · exact ⟨i, by omega, h⟩
        · exact ⟨j, by omega, h⟩
    have hs : objsIn l k s (j + 1) = if (l.getD j zero).1 = k then wth (objsIn l k s j) (l.getD j zero).2.1 else objsIn l k s j := rfl
    rw [step, ← or_assoc, ← ih, hs]
    split
    · rename_i h1
      rw [testBit_wth, Bool.or_eq_true, Bool.and_eq_true, decide_eq_true_iff, decide_eq_true_iff]
      unfold may
      constructor
      · rintro (h | ⟨h, h2⟩)
        · exact .inl h
        · exact .inr ⟨h1, by omega, by omega⟩
      · rintro (h | ⟨_, h, h2⟩)
        · exact .inl h
        · exact .inr ⟨by omega, by omega⟩
    · rename_i h1
      exact ⟨.inl, fun h => h.resolve_right fun e => h1 e.1⟩
theorem objsW_bit (w : List (List De)) (k : Int) (o : Nat) : ∀ j, j ≤ w.length → ((objsW w k j).testBit o = true ↔ ∃ q, q < j ∧ ∃ d ∈ w.getD q [], d.1 = k ∧ d.2.1 = (o : Int) ∧ o < 64) := by
  intro j
  induction j with
  | zero =>
    intro _
    unfold objsW
    rw [Nat.zero_testBit]
    exact ⟨fun h => absurd h Bool.false_ne_true, fun ⟨i, hi, _⟩ => absurd hi (Nat.not_lt_zero i)⟩
  | succ j ih =>
    intro hj
    unfold objsW
    rw [objsIn_bit, ih (by omega)]
    constructor
    · rintro (⟨q, hq, h⟩ | ⟨i, hi, h⟩)
      · exact ⟨q, by omega, h⟩
      · exact ⟨j, by omega, _, Go.Proofs.YtbekfjjajggffaaDoor.pgm.getD_in (d := zero) hi, h⟩
    · rintro ⟨q, hq, d, hd, h⟩
      rcases Nat.lt_or_ge q j with h1 | h1
      · exact .inl ⟨q, h1, d, hd, h⟩
      · obtain rfl : q = j := by omega
        obtain ⟨i, hi, rfl⟩ := List.getElem_of_mem hd
        refine .inr ⟨i, hi, ?_⟩
        rw [List.getD_eq_getElem?_getD (l := w.getD q []), List.getElem?_eq_getElem hi]
        exact h
theorem objects_64 (w : List (List De)) (k : Int) : Is64 (objects w k) := objsW_64 _
theorem objects_bit (w : List (List De)) (k : Int) (o : Nat) : (objects w k).testBit o = true ↔ ∃ y ∈ w, ∃ d ∈ y, d.1 = k ∧ d.2.1 = (o : Int) ∧ o < 64 := by
  unfold objects
  rw [objsW_bit w k o _ (Nat.le_refl _)]
  constructor
  · rintro ⟨q, hq, h⟩
    exact ⟨_, Go.Proofs.YtbekfjjajggffaaDoor.pgm.getD_in (d := []) hq, h⟩
  · rintro ⟨y, hy, h⟩
    obtain ⟨q, hq, rfl⟩ := List.getElem_of_mem hy
    refine ⟨q, hq, ?_⟩
    rw [List.getD_eq_getElem?_getD, List.getElem?_eq_getElem hq]
    exact h
/-- The objects of which a wait asks something: of the first j kinds of needs. -/
def askedN (w : List (List De)) : Nat → Nat
  | 0 => 0
  | j + 1 => askedN w j ||| objects w ((j : Int) + 1)
theorem askedN_64 (w : List (List De)) : ∀ j, Is64 (askedN w j) := by
  intro j
  induction j with
  | zero => unfold askedN Is64; omega
  | succ j ih => exact or_64 ih (objects_64 _ _)
theorem askedN_bit (w : List (List De)) (o : Nat) : ∀ j, (askedN w j).testBit o = true ↔ ∃ y ∈ w, ∃ d ∈ y, 1 ≤ d.1 ∧ d.1 ≤ (j : Int) ∧ d.2.1 = (o : Int) ∧ o < 64 := by
  intro j
  induction j with
  | zero =>
    unfold askedN
    rw [Nat.zero_testBit]
    exact ⟨fun h => absurd h Bool.false_ne_true, fun ⟨y, _, d, _, h1, h2, _⟩ => by omega⟩
  | succ j ih =>
    unfold askedN
    rw [Nat.testBit_or, Bool.or_eq_true, ih, objects_bit]
    constructor
    · rintro (⟨y, hy, d, hd, h1, h2, h⟩ | ⟨y, hy, d, hd, h1, h⟩)
      · exact ⟨y, hy, d, hd, h1, by omega, h⟩
      · exact ⟨y, hy, d, hd, by omega, by omega, h⟩
    · rintro ⟨y, hy, d, hd, h1, h2, h⟩
      by_cases e : d.1 = (j : Int) + 1
      · exact .inr ⟨y, hy, d, hd, e, h⟩
      · exact .inl ⟨y, hy, d, hd, h1, by omega, h⟩
/-- What the first k operands of an instruction name. -/
def namedN (p : Pg) (x : De) : Nat → Nat
  | 0 => 0
  | k + 1 =>
    if objV ((form x.1).getD k 0) = true then wth (namedN p x k) (opd x.2.1 x.2.2 k)
    else if (form x.1).getD k 0 = 119 ∧ 0 ≤ opd x.2.1 x.2.2 k ∧ opd x.2.1 x.2.2 k < (p.ws.length : Int) then namedN p x k ||| askedN (p.ws.getD (opd x.2.1 x.2.2 k).toNat []) 5
    else namedN p x k
theorem namedN_64 (p : Pg) (x : De) : ∀ k, Is64 (namedN p x k) := by
  intro k
  induction k with
  | zero => unfold namedN Is64; omega
  | succ k ih =>
    unfold namedN
    split
    · exact wth_lt ih _
    · split
      · exact or_64 ih (askedN_64 _ _)
      · exact ih
def NamesK (p : Pg) (x : De) (k o : Nat) : Prop := o < 64 ∧ ((objV ((form x.1).getD k 0) = true ∧ opd x.2.1 x.2.2 k = (o : Int)) ∨
   ((form x.1).getD k 0 = 119 ∧ 0 ≤ opd x.2.1 x.2.2 k ∧ opd x.2.1 x.2.2 k < (p.ws.length : Int) ∧ ∃ y ∈ p.ws.getD (opd x.2.1 x.2.2 k).toNat [], ∃ d ∈ y, 1 ≤ d.1 ∧ d.1 ≤ 5 ∧ d.2.1 = (o : Int)))
theorem namedN_bit (p : Pg) (x : De) (o : Nat) : ∀ k, (namedN p x k).testBit o = true ↔ ∃ i, i < k ∧ NamesK p x i o := by
  intro k
  induction k with
  | zero =>
    unfold namedN
    rw [Nat.zero_testBit]
    exact ⟨fun h => absurd h Bool.false_ne_true, fun ⟨i, hi, _⟩ => absurd hi (Nat.not_lt_zero i)⟩
  | succ k ih =>
    have step : (∃ i, i < k + 1 ∧ NamesK p x i o) ↔ (∃ i, i < k ∧ NamesK p x i o) ∨ NamesK p x k o := by
      constructor
      · rintro ⟨i, hi, h⟩
        rcases Nat.lt_or_ge i k with h1 | h1
        · exact .inl ⟨i, h1, h⟩
        · obtain rfl : i = k := by omega
          exact .inr h
      · rintro (⟨i, hi, h⟩ | h)
        · exact ⟨i, by omega, h⟩
        · exact ⟨k, by omega, h⟩
    have hs : namedN p x (k + 1) = if objV ((form x.1).getD k 0) = true then wth (namedN p x k) (opd x.2.1 x.2.2 k)
      else if (form x.1).getD k 0 = 119 ∧ 0 ≤ opd x.2.1 x.2.2 k ∧ opd x.2.1 x.2.2 k < (p.ws.length : Int) then namedN p x k ||| askedN (p.ws.getD (opd x.2.1 x.2.2 k).toNat []) 5
      else namedN p x k := rfl
    rw [step, ← ih, hs]
    unfold NamesK
    split
    · rename_i h1
      rw [testBit_wth, Bool.or_eq_true, Bool.and_eq_true, decide_eq_true_iff, decide_eq_true_iff]
      unfold may
      constructor
      · rintro (h | ⟨h, h2⟩)
        · exact .inl h
        · exact .inr ⟨by omega, .inl ⟨h1, by omega⟩⟩
      · rintro (h | ⟨h, ⟨_, h2⟩ | ⟨h2, _⟩⟩)
        · exact .inl h
        · exact .inr ⟨by omega, by omega⟩
        · rw [h2] at h1
          exact absurd h1 (by decide)
    · rename_i h1
      split
      · rename_i h2
        rw [Nat.testBit_or, Bool.or_eq_true, askedN_bit]
        constructor
        · rintro (h | ⟨y, hy, d, hd, e1, e2, e3, e4⟩)
          · exact .inl h
          · exact .inr ⟨e4, .inr ⟨h2.1, h2.2.1, h2.2.2, y, hy, d, hd, e1, e2, e3⟩⟩
        · rintro (h | ⟨h, ⟨h3, _⟩ | ⟨_, _, _, y, hy, d, hd, e1, e2, e3⟩⟩)
          · exact .inl h
          · exact absurd h3 h1
          · exact .inr ⟨y, hy, d, hd, e1, by omega, e3, h⟩
      · rename_i h2
        refine ⟨.inl, fun h => h.resolve_right ?_⟩
        rintro ⟨h, ⟨h3, _⟩ | ⟨h3, h4, h5, _⟩⟩
        · exact h1 h3
        · exact h2 ⟨h3, h4, h5⟩
/-- In a program that may be: what is named and may be there is just what the chapter says. -/
theorem names_iff {p : Pg} (hz : chkP p = 0) {x : De} (hx : chkI x = 0) {o : Nat} (ho : o < 64) : (∃ i, i < (form x.1).length ∧ NamesK p x i o) ↔ Names p x o := by
  obtain ⟨g1, g2, g3, g4, g5, g6⟩ := chkP_zero hz
  unfold Names NamesK
  constructor
  · rintro ⟨i, hi, _, ⟨h1, h2⟩ | ⟨h1, _, h3, y, hy, d, hd, _, _, h4⟩⟩
    · exact ⟨i, hi, .inl ⟨h1, h2⟩⟩
    · exact ⟨i, hi, .inr ⟨h1, h3, y, hy, d, hd, h4⟩⟩
  · rintro ⟨i, hi, ⟨h1, h2⟩ | ⟨h1, h3, y, hy, d, hd, h4⟩⟩
    · exact ⟨i, hi, ho, .inl ⟨h1, h2⟩⟩
    · have h0 := (Go.Proofs.YtbekfjjajggffaaDoor.pgm.dep.letter hx rfl rfl hi h1 (by decide)).1
      have e0 : Go.Proofs.YtbekfjjajggffaaDoor.inst.least 119 = 0 := rfl
      refine ⟨i, hi, ho, .inr ⟨h1, by omega, h3, y, hy, d, hd, ?_⟩⟩
      have hw := g3 _ (Go.Proofs.YtbekfjjajggffaaDoor.pgm.getD_in (d := []) (show (opd x.2.1 x.2.2 i).toNat < p.ws.length by omega))
      have := (Go.Proofs.YtbekfjjajggffaaDoor.need.oneN_zero ((Go.Proofs.YtbekfjjajggffaaDoor.need.chkW_zero hw).2.2 y hy |>.2.2 d hd)).1
      exact ⟨this.1, this.2, h4⟩

/-- What the first j instructions name, with what is named already. -/
def usedC (p : Pg) (co : List De) (u : Nat) : Nat → Nat
  | 0 => u
  | j + 1 => usedC p co u j ||| namedN p (co.getD j zero) (form (co.getD j zero).1).length
/-- What the first j functions of a list name. -/
def usedL (p : Pg) (l : List Nat) : Nat → Nat
  | 0 => 0
  | j + 1 => usedC p (p.fs.getD (l.getD j 0) Fn.zero).co (usedL p l j) (p.fs.getD (l.getD j 0) Fn.zero).co.length
theorem usedC_64 {p : Pg} {co : List De} {u : Nat} (h : Is64 u) : ∀ j, Is64 (usedC p co u j) := by
  intro j
  induction j with
  | zero => exact h
  | succ j ih => exact or_64 ih (namedN_64 _ _ _)
theorem usedL_64 {p : Pg} {l : List Nat} : ∀ j, Is64 (usedL p l j) := by
  intro j
  induction j with
  | zero => unfold usedL Is64; omega
  | succ j ih => exact usedC_64 ih _
theorem usedC_bit {p : Pg} {co : List De} {u o : Nat} : ∀ j, (usedC p co u j).testBit o = true ↔ u.testBit o = true ∨ ∃ i, i < j ∧ (namedN p (co.getD i zero) (form (co.getD i zero).1).length).testBit o = true := by
  intro j
  induction j with
  | zero => exact ⟨.inl, fun h => h.resolve_right fun ⟨i, hi, _⟩ => absurd hi (Nat.not_lt_zero i)⟩
  | succ j ih =>
    unfold usedC
    rw [Nat.testBit_or, Bool.or_eq_true, ih]
    constructor
    · rintro ((h | ⟨i, hi, h⟩) | h)
      · exact .inl h
      · exact .inr ⟨i, by omega, h⟩
      · exact .inr ⟨j, by omega, h⟩
    · rintro (h | ⟨i, hi, h⟩)
      · exact .inl (.inl h)
      · rcases Nat.lt_or_ge i j with h1 | h1
        · exact .inl (.inr ⟨i, h1, h⟩)
        · obtain rfl : i = j := by omega
          exact .inr h
theorem usedL_bit {p : Pg} {l : List Nat} {o : Nat} : ∀ j, (usedL p l j).testBit o = true ↔ ∃ q, q < j ∧ ∃ i, i < (p.fs.getD (l.getD q 0) Fn.zero).co.length ∧ (namedN p ((p.fs.getD (l.getD q 0) Fn.zero).co.getD i zero) (form ((p.fs.getD (l.getD q 0) Fn.zero).co.getD i zero).1).length).testBit o = true := by
  intro j
  induction j with
  | zero =>
    unfold usedL
    rw [Nat.zero_testBit]
    exact ⟨fun h => absurd h Bool.false_ne_true, fun ⟨i, hi, _⟩ => absurd hi (Nat.not_lt_zero i)⟩
  | succ j ih =>
    unfold usedL
    rw [usedC_bit, ih]
    constructor
    · rintro (⟨q, hq, h⟩ | h)
      · exact ⟨q, by omega, h⟩
      · exact ⟨j, by omega, h⟩
    · rintro ⟨q, hq, h⟩
      rcases Nat.lt_or_ge q j with h1 | h1
      · exact .inl ⟨q, h1, h⟩
      · obtain rfl : q = j := by omega
        exact .inr h
/-- What is used: named by one of those that are reached, and there. -/
theorem used_iff {p : Pg} (hz : chkP p = 0) {fn : Int} {l : List Nat} (hl : ∀ j, j ∈ l ↔ Rcd p.fs fn j) (o : Nat) :
    (usedL p l l.length &&& allN p.ds.length).testBit o = true ↔ Usd p fn o := by
  obtain ⟨g1, g2, g3, g4, g5, g6⟩ := chkP_zero hz
  have g0 := (Go.Proofs.YtbekfjjajggffaaDoor.objs.chk_zero g1).1
  have hall : ∀ ho : o < 64, (allN p.ds.length).testBit o = true ↔ o < p.ds.length := fun ho => by
    rw [testBit_allN _ ho, decide_eq_true_iff]
    omega
  rw [Nat.testBit_and, Bool.and_eq_true, usedL_bit]
  unfold Usd
  constructor
  · rintro ⟨⟨q, hq, i, hi, h⟩, h2⟩
    have ho := bit_64 (namedN_64 _ _ _) h
    have hj : p.fs.getD (l.getD q 0) Fn.zero = p.fs.getD (l.getD q 0) Fn.zero := rfl
    have hm : l.getD q 0 ∈ l := Go.Proofs.YtbekfjjajggffaaDoor.pgm.getD_in (d := 0) hq
    have hr := (hl _).1 hm
    have hx := (chkFn_zero (g6 _ (Go.Proofs.YtbekfjjajggffaaDoor.pgm.getD_in (d := Fn.zero) hr.lt))).2.2.2 _ (Go.Proofs.YtbekfjjajggffaaDoor.pgm.getD_in (d := zero) hi)
    exact ⟨(hall ho).1 h2, _, hr, _, Go.Proofs.YtbekfjjajggffaaDoor.pgm.getD_in (d := zero) hi, (names_iff hz hx ho).1 ((namedN_bit _ _ _ _).1 h)⟩
  · rintro ⟨h0, j, hr, x, hx, h⟩
    have ho : o < 64 := by omega
    obtain ⟨q, hq, hj⟩ := List.getElem_of_mem ((hl j).2 hr)
    obtain ⟨i, hi, hxi⟩ := List.getElem_of_mem hx
    have hxc := (chkFn_zero (g6 _ (Go.Proofs.YtbekfjjajggffaaDoor.pgm.getD_in (d := Fn.zero) hr.lt))).2.2.2 _ hx
    have ej : l.getD q 0 = j := by rw [List.getD_eq_getElem?_getD, List.getElem?_eq_getElem hq]; exact hj
    refine ⟨⟨q, hq, i, by rw [ej]; exact hi, ?_⟩, (hall ho).2 h0⟩
    have ex : (p.fs.getD (l.getD q 0) Fn.zero).co.getD i zero = x := by rw [ej, List.getD_eq_getElem?_getD, List.getElem?_eq_getElem hi]; exact hxi
    rw [ex]
    exact (namedN_bit _ _ _ _).2 ((names_iff hz hxc ho).2 h)
end Go.Proofs.YtbekfjjajggffaaDoor.pgm.ver

/-
  What was got of bytes, put, is just the bytes that it had, and no bytes that end sooner are a program's. Plain mathematics; no condition.
-/
namespace Go.Proofs.YtbekfjjajggffaaDoor.pgm
open Go.Proofs.YtbekfjjajggffaaDoor.octet (St rdByte rdNum num num_length_le enc_length_pos)
open Go.Proofs.YtbekfjjajggffaaDoor.objs (De zero rdNum_back rdNum_once rdNum_err)
set_option linter.unusedVariables false

theorem rdMany_once {L : List UInt8} {most : Nat} (h : (rdMany ⟨L, 0⟩ most).2.2 = 0) : L = num (rdMany ⟨L, 0⟩ most).1 ++ (rdMany ⟨L, 0⟩ most).2.1.rest ∧ (rdMany ⟨L, 0⟩ most).2.1.err = 0 ∧ (rdMany ⟨L, 0⟩ most).1 ≤ most := by
  unfold rdMany at h ⊢
  split at h
  · cases h
  · rename_i h1
    rw [if_neg h1]
    exact ⟨rdNum_once h, h, by dsimp only; omega⟩
theorem readL_once {L : List UInt8} (h : (Go.Proofs.YtbekfjjajggffaaDoor.objs.readL ⟨L, 0⟩).2.2 = 0) : (Go.Proofs.YtbekfjjajggffaaDoor.objs.chk (Go.Proofs.YtbekfjjajggffaaDoor.objs.readL ⟨L, 0⟩).1).2 = 0 ∧ L = Go.Proofs.YtbekfjjajggffaaDoor.objs.encL (Go.Proofs.YtbekfjjajggffaaDoor.objs.readL ⟨L, 0⟩).1 ++ (Go.Proofs.YtbekfjjajggffaaDoor.objs.readL ⟨L, 0⟩).2.1.rest ∧ (Go.Proofs.YtbekfjjajggffaaDoor.objs.readL ⟨L, 0⟩).2.1.err = 0 := by
  unfold Go.Proofs.YtbekfjjajggffaaDoor.objs.readL at h ⊢
  dsimp only at h ⊢
  by_cases h1 : (Go.Proofs.YtbekfjjajggffaaDoor.objs.rdN ⟨L, 0⟩).2.err ≠ 0
  · simp only [if_pos h1] at h; exact absurd h h1
  · simp only [if_neg h1] at h ⊢
    by_cases h2 : 32 < (Go.Proofs.YtbekfjjajggffaaDoor.objs.rdN ⟨L, 0⟩).1
    · simp only [if_pos h2] at h; cases h
    · simp only [if_neg h2] at h ⊢
      have hn := Go.Proofs.YtbekfjjajggffaaDoor.objs.rdN_once (l := L) (by omega) (by omega)
      generalize Go.Proofs.YtbekfjjajggffaaDoor.objs.rdN ⟨L, 0⟩ = q at *
      obtain ⟨n, ⟨R, E⟩⟩ := q
      dsimp only at h h1 h2 hn ⊢
      obtain rfl : E = 0 := by omega
      by_cases h3 : (Go.Proofs.YtbekfjjajggffaaDoor.objs.rdL ⟨R, 0⟩ n.toNat).2.2 ≠ 0
      · simp only [if_pos h3] at h; exact absurd h h3
      · simp only [if_neg h3] at h ⊢
        by_cases h4 : (Go.Proofs.YtbekfjjajggffaaDoor.objs.chk (Go.Proofs.YtbekfjjajggffaaDoor.objs.rdL ⟨R, 0⟩ n.toNat).1).2 ≠ 0
        · simp only [if_pos h4] at h; exact absurd h h4
        · simp only [if_neg h4] at h ⊢
          have hlen := Go.Proofs.YtbekfjjajggffaaDoor.objs.rdL_length n.toNat (by omega : (Go.Proofs.YtbekfjjajggffaaDoor.objs.rdL ⟨R, 0⟩ n.toNat).2.2 = 0)
          obtain ⟨hl, _, hall⟩ := Go.Proofs.YtbekfjjajggffaaDoor.objs.chk_zero (by omega : (Go.Proofs.YtbekfjjajggffaaDoor.objs.chk (Go.Proofs.YtbekfjjajggffaaDoor.objs.rdL ⟨R, 0⟩ n.toNat).1).2 = 0)
          have ho := Go.Proofs.YtbekfjjajggffaaDoor.objs.rdL_once hl n.toNat R (by omega) (fun i hi => hall i (by omega))
          refine ⟨by omega, ?_, ho.2⟩
          unfold Go.Proofs.YtbekfjjajggffaaDoor.objs.encL
          rw [hlen, List.append_assoc, ← ho.1]
          exact hn
theorem readW_once {d : List De} {L : List UInt8} (hd : (Go.Proofs.YtbekfjjajggffaaDoor.objs.chk d).2 = 0) (h : (Go.Proofs.YtbekfjjajggffaaDoor.need.readW d ⟨L, 0⟩).2.2 = 0) : L = Go.Proofs.YtbekfjjajggffaaDoor.need.encW (Go.Proofs.YtbekfjjajggffaaDoor.need.readW d ⟨L, 0⟩).1 ++ (Go.Proofs.YtbekfjjajggffaaDoor.need.readW d ⟨L, 0⟩).2.1.rest ∧ (Go.Proofs.YtbekfjjajggffaaDoor.need.readW d ⟨L, 0⟩).2.1.err = 0 := by
  unfold Go.Proofs.YtbekfjjajggffaaDoor.need.readW at h ⊢
  dsimp only at h ⊢
  by_cases h2 : 4 < (rdNum ⟨L, 0⟩).1
  · simp only [if_pos h2] at h; cases h
  · simp only [if_neg h2] at h ⊢
    by_cases h1 : (rdNum ⟨L, 0⟩).2.err ≠ 0
    · simp only [if_pos h1] at h; exact absurd h h1
    · simp only [if_neg h1] at h ⊢
      have hn := rdNum_once (l := L) (by omega)
      generalize rdNum ⟨L, 0⟩ = q at *
      obtain ⟨n, ⟨R, E⟩⟩ := q
      dsimp only at h h1 h2 hn ⊢
      obtain rfl : E = 0 := by omega
      by_cases h3 : (Go.Proofs.YtbekfjjajggffaaDoor.need.rdWays ⟨R, 0⟩ n).2.2 ≠ 0
      · simp only [if_pos h3] at h; exact absurd h h3
      · simp only [if_neg h3] at h ⊢
        by_cases h4 : Go.Proofs.YtbekfjjajggffaaDoor.need.chkW d (Go.Proofs.YtbekfjjajggffaaDoor.need.rdWays ⟨R, 0⟩ n).1 ≠ 0
        · simp only [if_pos h4] at h; exact absurd h h4
        · simp only [if_neg h4] at h ⊢
          have hlen := Go.Proofs.YtbekfjjajggffaaDoor.need.rdWays_length n (by omega : (Go.Proofs.YtbekfjjajggffaaDoor.need.rdWays ⟨R, 0⟩ n).2.2 = 0)
          obtain ⟨_, _, hall⟩ := Go.Proofs.YtbekfjjajggffaaDoor.need.chkW_zero (by omega : Go.Proofs.YtbekfjjajggffaaDoor.need.chkW d (Go.Proofs.YtbekfjjajggffaaDoor.need.rdWays ⟨R, 0⟩ n).1 = 0)
          have ho := Go.Proofs.YtbekfjjajggffaaDoor.need.rdWays_once hd n R (by omega) (fun l hl => (hall l hl).2.2)
          refine ⟨?_, ho.2⟩
          unfold Go.Proofs.YtbekfjjajggffaaDoor.need.encW
          rw [hlen, List.append_assoc, ← ho.1]
          exact hn
/-- What reads an instruction reads just what was put, and of what it read the bytes are just those. -/
structure Reads (rdI : St → De × St × Nat) : Prop where
  back : ∀ x, chkI x = 0 → ∀ more, rdI ⟨encIn x ++ more, 0⟩ = (x, ⟨more, 0⟩, 0)
  once : ∀ L, (rdI ⟨L, 0⟩).2.2 = 0 → L = encIn (rdI ⟨L, 0⟩).1 ++ (rdI ⟨L, 0⟩).2.1.rest ∧ (rdI ⟨L, 0⟩).2.1.err = 0
theorem rdFn_once {rdI : St → De × St × Nat} (hI : Reads rdI) {L : List UInt8} (he : (rdFn rdI ⟨L, 0⟩).2.2 = 0) (h : chkFn (rdFn rdI ⟨L, 0⟩).1 = 0) : L = encFn (rdFn rdI ⟨L, 0⟩).1 ++ (rdFn rdI ⟨L, 0⟩).2.1.rest ∧ (rdFn rdI ⟨L, 0⟩).2.1.err = 0 := by
  unfold rdFn at he h ⊢
  dsimp only at he h ⊢
  by_cases h1 : (rdNum (rdNum ⟨L, 0⟩).2).2.err ≠ 0
  · rw [if_pos h1] at he; exact absurd he h1
  · rw [if_neg h1] at he h ⊢
    by_cases h2 : (rdMany (rdNum (rdNum ⟨L, 0⟩).2).2 200).2.2 ≠ 0
    · rw [if_pos h2] at he; exact absurd he h2
    · rw [if_neg h2] at he h ⊢
      by_cases h3 : (rdAll rdI (rdMany (rdNum (rdNum ⟨L, 0⟩).2).2 200).2.1 (rdMany (rdNum (rdNum ⟨L, 0⟩).2).2 200).1).2.2 ≠ 0
      · rw [if_pos h3] at he; exact absurd he h3
      · rw [if_neg h3] at h ⊢
        dsimp only at h ⊢
        obtain ⟨⟨g1, g2, g3⟩, _, _, _⟩ := chkFn_zero h
        dsimp only at g1 g2 g3
        clear h he
        have hA : (rdNum ⟨L, 0⟩).2.err = 0 := by
          rcases Nat.eq_zero_or_pos (rdNum ⟨L, 0⟩).2.err with e | e
          · exact e
          · rw [rdNum_err (by omega)] at h1; omega
        have ha := rdNum_once hA
        generalize rdNum ⟨L, 0⟩ = q at *
        obtain ⟨a, ⟨R, E⟩⟩ := q
        dsimp only at hA ha h1 h2 h3 g1 g2 g3 ⊢
        subst hA
        have hb := rdNum_once (l := R) (by omega)
        generalize rdNum ⟨R, 0⟩ = q at *
        obtain ⟨b, ⟨R2, E⟩⟩ := q
        dsimp only at hb h1 h2 h3 g1 g2 g3 ⊢
        obtain rfl : E = 0 := by omega
        obtain ⟨hn, hn0, _⟩ := rdMany_once (L := R2) (most := 200) (by omega)
        generalize rdMany ⟨R2, 0⟩ 200 = q at *
        obtain ⟨n, ⟨R3, E⟩, e3⟩ := q
        dsimp only at hn hn0 h2 h3 ⊢
        subst hn0
        have hq := rdAll_once (rd := rdI) (e := encIn) (d := zero) (ok := fun _ => True) (fun L2 h2 _ => hI.once L2 h2) n R3 (by omega) (fun _ _ => trivial)
        have hlen := rdAll_length n (by omega : (rdAll rdI ⟨R3, 0⟩ n).2.2 = 0)
        refine ⟨?_, hq.2⟩
        unfold encFn
        dsimp only
        rw [hlen]
        simp only [List.append_assoc]
        rw [← hq.1, ← hn]
        have e1 : ((min a 2147483648 : Nat) : Int).toNat = a := by omega
        have e2 : ((min b 2147483648 : Nat) : Int).toNat = b := by omega
        rw [e1, e2, ← hb, ← ha]
theorem once {rdI : St → De × St × Nat} (hI : Reads rdI) {t : List UInt8} (h : (readP rdI t).2 = 0) : chkP (readP rdI t).1 = 0 ∧ encP (readP rdI t).1 = t := by
  unfold readP at h ⊢
  dsimp only at h ⊢
  by_cases h0 : t.take 3 ≠ [76, 74, 1]
  · rw [if_pos h0] at h; cases h
  · rw [if_neg h0] at h ⊢
    have h0' : t.take 3 = [76, 74, 1] := Classical.byContradiction h0
    have ht : t = [76, 74, 1] ++ t.drop 3 := by rw [← h0', List.take_append_drop]
    clear h0 h0'
    generalize t.drop 3 = r at *
    by_cases h1 : (Go.Proofs.YtbekfjjajggffaaDoor.objs.readL ⟨r, 0⟩).2.2 ≠ 0
    · rw [if_pos h1] at h; exact absurd h h1
    · rw [if_neg h1] at h ⊢
      obtain ⟨hl0, hl, hle⟩ := readL_once (L := r) (by omega)
      generalize Go.Proofs.YtbekfjjajggffaaDoor.objs.readL ⟨r, 0⟩ = q at *
      obtain ⟨ds, ⟨R, E⟩, e1⟩ := q
      dsimp only at h h1 hl0 hl hle ⊢
      subst hle
      by_cases h2 : (rdMany ⟨R, 0⟩ 32).2.2 ≠ 0
      · rw [if_pos h2] at h; exact absurd h h2
      · rw [if_neg h2] at h ⊢
        obtain ⟨hn, hn0, _⟩ := rdMany_once (L := R) (most := 32) (by omega)
        generalize rdMany ⟨R, 0⟩ 32 = q at *
        obtain ⟨n, ⟨R2, E⟩, e2⟩ := q
        dsimp only at h hn hn0 h2 ⊢
        subst hn0
        by_cases h3 : (rdAll (Go.Proofs.YtbekfjjajggffaaDoor.need.readW ds) ⟨R2, 0⟩ n).2.2 ≠ 0
        · rw [if_pos h3] at h; exact absurd h h3
        · rw [if_neg h3] at h ⊢
          have hw := rdAll_once (rd := Go.Proofs.YtbekfjjajggffaaDoor.need.readW ds) (e := Go.Proofs.YtbekfjjajggffaaDoor.need.encW) (d := []) (ok := fun _ => True) (fun L2 h2 _ => readW_once hl0 h2) n R2 (by omega) (fun _ _ => trivial)
          have hwl := rdAll_length n (by omega : (rdAll (Go.Proofs.YtbekfjjajggffaaDoor.need.readW ds) ⟨R2, 0⟩ n).2.2 = 0)
          generalize rdAll (Go.Proofs.YtbekfjjajggffaaDoor.need.readW ds) ⟨R2, 0⟩ n = q at *
          obtain ⟨ws, ⟨R3, E⟩, e3⟩ := q
          dsimp only at h hw hwl h3 ⊢
          obtain ⟨hw, hw0⟩ := hw
          subst hw0
          by_cases h4 : (rdMany ⟨R3, 0⟩ 16).2.2 ≠ 0
          · rw [if_pos h4] at h; exact absurd h h4
          · rw [if_neg h4] at h ⊢
            obtain ⟨hm, hm0, _⟩ := rdMany_once (L := R3) (most := 16) (by omega)
            generalize rdMany ⟨R3, 0⟩ 16 = q at *
            obtain ⟨m, ⟨R4, E⟩, e4⟩ := q
            dsimp only at h hm hm0 h4 ⊢
            subst hm0
            by_cases h5 : (rdAll (rdFn rdI) ⟨R4, 0⟩ m).2.2 ≠ 0
            · rw [if_pos h5] at h; exact absurd h h5
            · rw [if_neg h5] at h ⊢
              by_cases h6 : (rdAll (rdFn rdI) ⟨R4, 0⟩ m).2.1.rest ≠ []
              · rw [if_pos h6] at h; cases h
              · rw [if_neg h6] at h ⊢
                by_cases h7 : chkP ⟨ds, ws, (rdAll (rdFn rdI) ⟨R4, 0⟩ m).1⟩ ≠ 0
                · rw [if_pos h7] at h; exact absurd h h7
                · rw [if_neg h7]
                  dsimp only
                  have h7' : chkP ⟨ds, ws, (rdAll (rdFn rdI) ⟨R4, 0⟩ m).1⟩ = 0 := by omega
                  have h6' : (rdAll (rdFn rdI) ⟨R4, 0⟩ m).2.1.rest = [] := Classical.byContradiction h6
                  obtain ⟨_, _, _, _, _, hall⟩ := chkP_zero h7'
                  have hf := (rdAll_once (rd := rdFn rdI) (e := encFn) (d := Fn.zero) (ok := fun f => chkFn f = 0) (fun L2 h2 h3 => rdFn_once hI h2 h3) m R4 (by omega) hall).1
                  have hfl := rdAll_length m (by omega : (rdAll (rdFn rdI) ⟨R4, 0⟩ m).2.2 = 0)
                  refine ⟨h7', ?_⟩
                  rw [h6', List.append_nil] at hf
                  unfold encP
                  dsimp only
                  rw [hwl, hfl, ← hf, ← hm, ← hw, ← hn, ← hl, ← ht]
/-- No bytes that end sooner are a program's. -/
theorem sooner {rdI : St → De × St × Nat} (hI : Reads rdI) {p : Pg} (h : chkP p = 0) {s more : List UInt8} (hs : encP p = s ++ more) (hm : more ≠ []) : (readP rdI s).2 ≠ 0 := by
  intro hz
  obtain ⟨h1, h2⟩ := once hI hz
  have h3 := back hI.back h1 more
  rw [h2, ← hs, if_pos hm] at h3
  have h4 := back hI.back h []
  rw [List.append_nil, h3, if_neg (by simp)] at h4
  cases h4
theorem got_bad {rdI : St → De × St × Nat} {t : List UInt8} (h : (readP rdI t).2 ≠ 0) : (readP rdI t).1 = Pg.none := by
  unfold readP at h ⊢
  dsimp only at h ⊢
  split
  · rfl
  · split
    · rfl
    · split
      · rfl
      · split
        · rfl
        · split
          · rfl
          · split
            · rfl
            · split
              · rfl
              · split
                · rfl
                · rename_i a1 a2 a3 a4 a5 a6 a7 a8
                  rw [if_neg a1, if_neg a2, if_neg a3, if_neg a4, if_neg a5, if_neg a6, if_neg a7, if_neg a8] at h
                  exact absurd rfl h
end Go.Proofs.YtbekfjjajggffaaDoor.pgm
