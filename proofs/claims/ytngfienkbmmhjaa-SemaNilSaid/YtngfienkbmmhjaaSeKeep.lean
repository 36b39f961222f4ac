/-
  The program's own calls of a counter (typed over the code of ae0ed50). No condition.
-/
import Derived.Test.YtngfienkbmmhjaaSeSpec
import Derived.BigQuiet
namespace Go.Proofs.Ytngfienkbmmhjaa.sem
open Go.RowKit Go.ChangeShapes
open Go.Proofs.Ytngfienkbmmhjaa.obj
set_option linter.unusedVariables false
set_option linter.unusedSimpArgs false

/-- A counter as the program keeps it: its value, and the most of it. -/
def sqO (v m : Int) : Obj := .cells #[.int .i64 v, .int .i64 m] 40
def AtM (w : World) (g : Nat) (s : Sx) : Prop := w.heap[g]? = some (sqO s.v s.m)
theorem sq_cells {w : World} {g : Nat} {v m : Int} (h : w.heap[g]? = some (sqO v m)) : w.cell? ⟨g, 0, none⟩ = some (.int .i64 v) ∧ w.cell? ⟨g, 1, none⟩ = some (.int .i64 m) := by
  simp [World.cell?, h, sqO]
theorem sq_free {w : World} {g : Nat} {v m : Int} (h : w.heap[g]? = some (sqO v m)) : w.frozen? ⟨g, 0, none⟩ = false := by
  simp [World.frozen?, h, sqO]
theorem sq_set {w : World} {g : Nat} {v m : Int} (h : w.heap[g]? = some (sqO v m)) (v' : Int) : (w.setCell ⟨g, 0, none⟩ (.int .i64 v')).heap[g]? = some (sqO v' m) := by
  simp [World.setCell, Array.getElem?_modify, h, sqO]
theorem only_cell (w : World) (g k : Nat) (v : Value) : Only g w (w.setCell ⟨g, k, none⟩ v) :=
  ⟨rfl, rfl, rfl, by simp [World.setCell], fun i _ hi => Below.heap_setCell _ _ _ _ hi⟩
theorem only_refl (g : Nat) (w : World) : Only g w w := ⟨rfl, rfl, rfl, Nat.le_refl _, fun _ _ _ => rfl⟩
theorem only_drew (g : Nat) (w : World) (n : Nat) : Only g w (w.drewN n) := ⟨rfl, rfl, rfl, Nat.le_refl _, fun _ _ _ => rfl⟩

set_option maxHeartbeats 400000 in
theorem new_any (first most : Int) (w : World) :
    Calls Try.prog 6 #[.int .i64 first, .int .i64 most] w fun e w' => ∃ g, e = .returned (.pointer (some ⟨g, 0, none⟩)) ∧ w.heap.size ≤ g ∧ AtM w' g (newS first most) ∧ Below w.heap.size w w' := by
  have H : Hid (AtM (w.alloc (sqO (newS first most).v (newS first most).m)) w.heap.size (newS first most) ∧ Below w.heap.size w (w.alloc (sqO (newS first most).v (newS first most).m))) :=
    Lib.hid ⟨heap_alloc_new _ _, (Below.refl _ _).alloc (Nat.le_refl _) _⟩
  obtain ⟨m, hm⟩ : ∃ m, min (max most 1) 1000 = m := ⟨_, rfl⟩
  obtain ⟨v, hv⟩ : ∃ v, min (max first 0) m = v := ⟨_, rfl⟩
  have e : newS first most = ⟨v, m⟩ := by unfold newS; rw [hm, hv]
  rw [e] at H ⊢
  clear e
  dsimp only at H
  go_enter Try.func6, Try.ntmps6
  go_wp2
  go_ret
  exact ⟨_, rfl, Nat.le_refl _, H.out⟩

theorem value_any (w : World) (g : Nat) (s : Sx) (ha : AtM w g s) :
    Calls Try.prog 8 #[.pointer (some ⟨g, 0, none⟩)] w fun e w' => e = .returned (.int .i64 s.v) ∧ w = w' := by
  obtain ⟨h0, h1⟩ := sq_cells ha
  clear ha
  go_enter Try.func8, Try.ntmps8
  go_wp2
  go_ret
  exact ⟨rfl, rfl⟩
theorem most_any (w : World) (g : Nat) (s : Sx) (ha : AtM w g s) :
    Calls Try.prog 9 #[.pointer (some ⟨g, 0, none⟩)] w fun e w' => e = .returned (.int .i64 s.m) ∧ w = w' := by
  obtain ⟨h0, h1⟩ := sq_cells ha
  clear ha
  go_enter Try.func9, Try.ntmps9
  go_wp2
  go_ret
  exact ⟨rfl, rfl⟩
theorem value_nil (w : World) : Calls Try.prog 8 #[.pointer none] w fun e w' => e = .returned (.int .i64 0) ∧ w = w' := by
  go_enter Try.func8, Try.ntmps8
  go_wp2
  go_ret
  exact ⟨rfl, rfl⟩
theorem most_nil (w : World) : Calls Try.prog 9 #[.pointer none] w fun e w' => e = .returned (.int .i64 0) ∧ w = w' := by
  go_enter Try.func9, Try.ntmps9
  go_wp2
  go_ret
  exact ⟨rfl, rfl⟩
theorem missing_any (w : World) (g : Nat) (s : Sx) (ha : AtM w g s) (hf : Fine s) :
    Calls Try.prog 16 #[.pointer (some ⟨g, 0, none⟩)] w fun e w' => e = .returned (.int .i64 (s.m - s.v)) ∧ AtM w' g s ∧ Only g w w' := by
  obtain ⟨h0, h1⟩ := sq_cells ha
  have hw : IntKind.i64.wrap (s.m - s.v) = s.m - s.v := by obtain ⟨a, b, c, d⟩ := hf; rw [IntKind.wrap_i64]; omega
  have HA : Hid (∀ n, AtM (w.drewN n) g s) := Lib.hid (fun _ => ha)
  clear ha hf
  go_enter Try.func16, Try.ntmps16
  go_wp2
  go_quiet (fail)
  go_wp2
  go_ret
  exact ⟨rfl, HA.out _, only_drew g w _⟩

set_option maxHeartbeats 400000 in
theorem down_any (w : World) (g : Nat) (s : Sx) (n : Int) (ha : AtM w g s) (hf : Fine s) :
    Calls Try.prog 13 #[.pointer (some ⟨g, 0, none⟩), .int .i64 n] w fun e w' => e = .returned (.bool (decide (1 ≤ n ∧ n ≤ s.v))) ∧ AtM w' g (doS s 0 n).1 ∧ Only g w w' := by
  have HV := value_any w g s ha
  have HA := Lib.hid ha
  by_cases h0 : n < 1
  · rw [decide_eq_false (fun e => by omega), show (doS s 0 n).1 = s from by unfold doS; rw [if_pos rfl, if_pos (.inl h0)]]
    clear HV ha hf
    go_enter Try.func13, Try.ntmps13
    go_wp2
    go_ret
    exact ⟨rfl, HA.out, only_refl g w⟩
  have d0 : decide (n < 1) = false := decide_eq_false h0
  by_cases h1 : s.v < n
  · rw [decide_eq_false (fun e => by omega), show (doS s 0 n).1 = s from by unfold doS; rw [if_pos rfl, if_pos (.inr h1)]]
    have d1 : decide (s.v < n) = true := decide_eq_true h1
    clear ha hf
    go_enter Try.func13, Try.ntmps13
    go_wp2_with (refine HV.mono ?_; rintro _ _ ⟨rfl, rfl⟩)
    go_ret
    exact ⟨rfl, HA.out, only_refl g w⟩
  have d1 : decide (s.v < n) = false := decide_eq_false h1
  rw [decide_eq_true (show 1 ≤ n ∧ n ≤ s.v by omega), show (doS s 0 n).1 = ⟨s.v - n, s.m⟩ from by unfold doS; rw [if_pos rfl, if_neg (by omega)]]
  have hw : IntKind.i64.wrap (s.v - n) = s.v - n := by obtain ⟨a, b, c, d⟩ := hf; rw [IntKind.wrap_i64]; omega
  have HS := Lib.hid (sq_set ha (s.v - n))
  have f0 := sq_free ha
  obtain ⟨c0, c1⟩ := sq_cells ha
  clear ha hf
  go_enter Try.func13, Try.ntmps13
  go_wp2_with (refine HV.mono ?_; rintro _ _ ⟨rfl, rfl⟩)
  go_ret
  exact ⟨rfl, HS.out, only_cell w g 0 _⟩

set_option maxHeartbeats 400000 in
theorem post_any (w : World) (g : Nat) (s : Sx) (n : Int) (ha : AtM w g s) (hf : Fine s) :
    Calls Try.prog 14 #[.pointer (some ⟨g, 0, none⟩), .int .i64 n] w fun e w' => e = .returned (.int .i64 (doS s 1 n).2) ∧ AtM w' g (doS s 1 n).1 ∧ Only g w w' := by
  have HM := missing_any w g s ha hf
  have HA := Lib.hid ha
  by_cases h0 : n < 1
  · rw [show doS s 1 n = (s, 1) from by unfold doS; rw [if_neg (by decide), if_pos rfl, if_pos h0]]
    clear HM ha hf
    go_enter Try.func14, Try.ntmps14
    go_wp2
    go_ret
    exact ⟨rfl, HA.out, only_refl g w⟩
  have d0 : decide (n < 1) = false := decide_eq_false h0
  by_cases h1 : s.m - s.v < n
  · rw [show doS s 1 n = (s, 11) from by unfold doS; rw [if_neg (by decide), if_pos rfl, if_neg h0, if_pos (by omega)]]
    have d1 : decide (s.m - s.v < n) = true := decide_eq_true h1
    clear ha hf
    generalize s.m - s.v = y at *
    go_enter Try.func14, Try.ntmps14
    go_wp2_with fail
    refine HM.mono ?_
    rintro _ w' ⟨rfl, r1, r2⟩
    have R := Lib.hid (And.intro r1 r2)
    clear r1 r2 HM
    go_wp2
    go_ret
    exact ⟨rfl, R.out⟩
  have d1 : decide (s.m - s.v < n) = false := decide_eq_false h1
  rw [show doS s 1 n = (⟨s.v + n, s.m⟩, 0) from by unfold doS; obtain ⟨a, b, c, d⟩ := hf; rw [if_neg (by decide), if_pos rfl, if_neg h0, if_neg (by omega)]]
  have hw : IntKind.i64.wrap (s.v + n) = s.v + n := by obtain ⟨a, b, c, d⟩ := hf; rw [IntKind.wrap_i64]; omega
  clear ha hf
  generalize s.m - s.v = y at *
  go_enter Try.func14, Try.ntmps14
  go_wp2_with fail
  refine HM.mono ?_
  rintro _ w' ⟨rfl, r1, r2⟩
  have HS := Lib.hid (And.intro (sq_set r1 (s.v + n)) (r2.trans (only_cell w' g 0 (.int .i64 (s.v + n)))))
  have f0 := sq_free r1
  obtain ⟨c0, c1⟩ := sq_cells r1
  clear r1 r2 HM
  go_wp2
  go_ret
  exact ⟨rfl, HS.out⟩

set_option maxHeartbeats 400000 in
theorem fill_any (w : World) (g : Nat) (s : Sx) (ha : AtM w g s) (hf : Fine s) :
    Calls Try.prog 15 #[.pointer (some ⟨g, 0, none⟩)] w fun e w' => e = .returned (.int .i64 (s.m - s.v)) ∧ AtM w' g ⟨s.m, s.m⟩ ∧ Only g w w' := by
  have HM := missing_any w g s ha hf
  clear ha hf
  generalize s.m - s.v = y at *
  go_enter Try.func15, Try.ntmps15
  go_wp2_with fail
  refine HM.mono ?_
  rintro _ w' ⟨rfl, r1, r2⟩
  have HS := Lib.hid (And.intro (sq_set r1 s.m) (r2.trans (only_cell w' g 0 (.int .i64 s.m))))
  have f0 := sq_free r1
  obtain ⟨c0, c1⟩ := sq_cells r1
  clear r1 r2 HM
  go_wp2
  go_ret
  exact ⟨rfl, HS.out⟩

theorem down_nil (w : World) (n : Int) : Calls Try.prog 13 #[.pointer none, .int .i64 n] w fun e w' => e = .returned (.bool false) ∧ Below w.heap.size w w' := by
  have HV := value_nil w
  by_cases h0 : n < 1
  · clear HV
    go_enter Try.func13, Try.ntmps13
    go_wp2
    go_ret
    exact ⟨rfl, Below.refl _ w⟩
  have d0 : decide (n < 1) = false := decide_eq_false h0
  have d1 : decide (0 < n) = true := decide_eq_true (by omega)
  go_enter Try.func13, Try.ntmps13
  go_wp2_with (refine HV.mono ?_; rintro _ _ ⟨rfl, rfl⟩)
  go_ret
  exact ⟨rfl, Below.refl _ w⟩
theorem post_nil (w : World) (n : Int) : Calls Try.prog 14 #[.pointer none, .int .i64 n] w fun e w' => e = .returned (.int .i64 1) ∧ Below w.heap.size w w' := by
  go_enter Try.func14, Try.ntmps14
  go_wp2
  go_ret
  exact ⟨rfl, Below.refl _ w⟩
theorem fill_nil (w : World) : Calls Try.prog 15 #[.pointer none] w fun e w' => e = .returned (.int .i64 0) ∧ Below w.heap.size w w' := by
  go_enter Try.func15, Try.ntmps15
  go_wp2
  go_ret
  exact ⟨rfl, Below.refl _ w⟩

theorem same_below {w : World} {v : Value} {e : Ending} {w' : World} (h : e = .returned v ∧ w = w') : e = .returned v ∧ Below w.heap.size w w' := by
  obtain ⟨h1, rfl⟩ := h
  exact ⟨h1, Below.refl _ _⟩
theorem keeps : Keeps AtM where
  loc := fun w w' g s h hb _ => hb.trans h
  lt := fun w g s h => lt_of_block h
  new := fun first most w _ _ => new_any first most w
  value := fun w g s ha _ => (value_any w g s ha).mono fun _ _ h => same_below h
  most := fun w g s ha _ => (most_any w g s ha).mono fun _ _ h => same_below h
  down := fun w g s n ha hf _ => down_any w g s n ha hf
  post := fun w g s n ha hf _ => post_any w g s n ha hf
  fill := fun w g s ha hf => fill_any w g s ha hf
  nvalue := fun w => (value_nil w).mono fun _ _ h => same_below h
  nmost := fun w => (most_nil w).mono fun _ _ h => same_below h
  ndown := fun w n _ => down_nil w n
  npost := fun w n _ => post_nil w n
  nfill := fill_nil
end Go.Proofs.Ytngfienkbmmhjaa.sem
