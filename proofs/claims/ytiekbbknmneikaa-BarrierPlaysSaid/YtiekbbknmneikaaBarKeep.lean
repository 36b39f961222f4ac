/-
  The program's own calls of a barrier (typed over the code of 22816b9). No condition.
-/
import Derived.Test.YtiekbbknmneikaaBarSpec
import Derived.Test.YtiekbbknmneikaaBBit
import Derived.Test.YtiekbbknmneikaaBOf
import Derived.BigQuiet
import Derived.Deep.RegionWith
namespace Go.Proofs.Ytiekbbknmneikaa.bar
open Go.RowKit Go.ChangeShapes
open Go.Proofs.Ytiekbbknmneikaa.obj
open Go.Proofs.Ytiekbbknmneikaa.bits (Is64 hasB wth wout may bitN minus wth_lt wout_lt wth_or testBit_wth testBit_wout has_any with_any without_any of_any ofI RowAt andNot_u64)
set_option linter.unusedVariables false
set_option linter.unusedSimpArgs false

/-- A barrier as the program keeps it: the two sets. -/
def bqO (m a : Nat) : Obj := .cells #[.int .u64 (m : Int), .int .u64 (a : Int)] 27
def AtM (w : World) (g : Nat) (s : Bx) : Prop := w.heap[g]? = some (bqO s.m s.a)
theorem bq_cells {w : World} {g m a : Nat} (h : w.heap[g]? = some (bqO m a)) : w.cell? ⟨g, 0, none⟩ = some (.int .u64 (m : Int)) ∧ w.cell? ⟨g, 1, none⟩ = some (.int .u64 (a : Int)) := by
  simp [World.cell?, h, bqO]
theorem bq_free {w : World} {g m a : Nat} (h : w.heap[g]? = some (bqO m a)) : w.frozen? ⟨g, 0, none⟩ = false ∧ w.frozen? ⟨g, 1, none⟩ = false := by
  simp [World.frozen?, h, bqO]
theorem bz_is : zbC = #[.int .u64 0, .int .u64 0] := by kernel_rfl
theorem bq_new (w : World) : AtM (w.alloc zbB) w.heap.size ⟨0, 0⟩ := by
  unfold AtM
  rw [heap_alloc_new]
  unfold zbB
  rw [bz_is]
  rfl
theorem bq_setm {w : World} {g m a : Nat} (h : w.heap[g]? = some (bqO m a)) (m' : Nat) : (w.setCell ⟨g, 0, none⟩ (.int .u64 (m' : Int))).heap[g]? = some (bqO m' a) := by
  simp [World.setCell, Array.getElem?_modify, h, bqO]
theorem bq_seta {w : World} {g m a : Nat} (h : w.heap[g]? = some (bqO m a)) (a' : Nat) : (w.setCell ⟨g, 1, none⟩ (.int .u64 (a' : Int))).heap[g]? = some (bqO m a') := by
  simp [World.setCell, Array.getElem?_modify, h, bqO]
theorem only_cell (w : World) (g k : Nat) (v : Value) : Only g w (w.setCell ⟨g, k, none⟩ v) :=
  ⟨rfl, rfl, rfl, by simp [World.setCell], fun i _ hi => Below.heap_setCell _ _ _ _ hi⟩
theorem only_refl (g : Nat) (w : World) : Only g w w := ⟨rfl, rfl, rfl, Nat.le_refl _, fun _ _ _ => rfl⟩
theorem only_drew (g : Nat) (w : World) (n : Nat) : Only g w (w.drewN n) := ⟨rfl, rfl, rfl, Nat.le_refl _, fun _ _ _ => rfl⟩
theorem below_drew (w : World) (n : Nat) : Below w.heap.size w (w.drewN n) := ⟨rfl, rfl, rfl, Nat.le_refl _, fun _ _ => rfl⟩

theorem members_any (w : World) (g : Nat) (s : Bx) (ha : AtM w g s) :
    Calls Try.prog 9 #[.pointer (some ⟨g, 0, none⟩)] w fun e w' => e = .returned (.int .u64 (s.m : Int)) ∧ w = w' := by
  obtain ⟨h0, h1⟩ := bq_cells ha
  clear ha
  go_enter Try.func9, Try.ntmps9
  go_wp2
  go_ret
  exact ⟨rfl, rfl⟩
theorem arrived_any (w : World) (g : Nat) (s : Bx) (ha : AtM w g s) :
    Calls Try.prog 10 #[.pointer (some ⟨g, 0, none⟩)] w fun e w' => e = .returned (.int .u64 (s.a : Int)) ∧ w = w' := by
  obtain ⟨h0, h1⟩ := bq_cells ha
  clear ha
  go_enter Try.func10, Try.ntmps10
  go_wp2
  go_ret
  exact ⟨rfl, rfl⟩
theorem members_nil (w : World) : Calls Try.prog 9 #[.pointer none] w fun e w' => e = .returned (.int .u64 0) ∧ w = w' := by
  go_enter Try.func9, Try.ntmps9
  go_wp2
  go_ret
  exact ⟨rfl, rfl⟩
theorem arrived_nil (w : World) : Calls Try.prog 10 #[.pointer none] w fun e w' => e = .returned (.int .u64 0) ∧ w = w' := by
  go_enter Try.func10, Try.ntmps10
  go_wp2
  go_ret
  exact ⟨rfl, rfl⟩
theorem missing_two (w : World) (g : Nat) (s : Bx) (ha : AtM w g s) (hm : Is64 s.m) (hr : Is64 s.a) :
    Calls Try.prog 11 #[.pointer (some ⟨g, 0, none⟩)] w fun e w' => e = .returned (.int .u64 ((missB s : Nat) : Int)) ∧ w = w' := by
  have HM := members_any w g s ha
  have HA := arrived_any w g s ha
  have hx := andNot_u64 hm hr
  unfold missB
  clear ha hm hr
  go_enter Try.func11, Try.ntmps11
  go_wp2_with fail
  refine HM.mono ?_
  rintro _ _ ⟨rfl, rfl⟩
  go_wp2_with fail
  refine HA.mono ?_
  rintro _ _ ⟨rfl, rfl⟩
  go_wp2
  go_ret
  exact ⟨rfl, rfl⟩
theorem missing_nil (w : World) : Calls Try.prog 11 #[.pointer none] w fun e w' => e = .returned (.int .u64 0) ∧ w = w' := by
  have HM := members_nil w
  have HA := arrived_nil w
  go_enter Try.func11, Try.ntmps11
  go_wp2_with fail
  refine HM.mono ?_
  rintro _ _ ⟨rfl, rfl⟩
  go_wp2_with fail
  refine HA.mono ?_
  rintro _ _ ⟨rfl, rfl⟩
  go_wp2
  go_ret
  exact ⟨rfl, rfl⟩

set_option maxHeartbeats 400000 in
theorem takes_yes (w : World) (g : Nat) (t : Int) (h0 : 0 ≤ t) (h1 : t < 64) :
    Calls Try.prog 26 #[.pointer (some ⟨g, 0, none⟩), .int .i64 t] w fun e w' => e = .returned (.bool true) ∧ w = w' := by
  go_enter Try.func26, Try.ntmps26
  go_wp2
  go_ret
  exact ⟨rfl, rfl⟩
set_option maxHeartbeats 400000 in
theorem takes_no (w : World) (g : Nat) (t : Int) (h : t < 0 ∨ 63 < t) :
    Calls Try.prog 26 #[.pointer (some ⟨g, 0, none⟩), .int .i64 t] w fun e w' => e = .returned (.bool false) ∧ w = w' := by
  by_cases h0 : t < 0
  · clear h
    go_enter Try.func26, Try.ntmps26
    go_wp2
    go_ret
    exact ⟨rfl, rfl⟩
  · have h1 : 0 ≤ t := by omega
    have h2 : ¬ t < 64 := by omega
    clear h h0
    go_enter Try.func26, Try.ntmps26
    go_wp2
    go_ret
    exact ⟨rfl, rfl⟩
theorem takes_nil (w : World) (t : Int) :
    Calls Try.prog 26 #[.pointer none, .int .i64 t] w fun e w' => e = .returned (.bool false) ∧ w = w' := by
  go_enter Try.func26, Try.ntmps26
  go_wp2
  go_ret
  exact ⟨rfl, rfl⟩

/-- What a thread is told that may not do what only members may. -/
def noB (s : Bx) (t : Int) : Int := if t < 0 ∨ 63 < t then 1 else if hasB s.m t = false then 9 else 0
set_option maxHeartbeats 400000 in
theorem refuse_any (w : World) (g : Nat) (s : Bx) (t : Int) (ha : AtM w g s) (hf : Fine s) :
    Calls Try.prog 29 #[.pointer (some ⟨g, 0, none⟩), .int .i64 t] w fun e w' => e = .returned (.int .i64 (noB s t)) ∧ w = w' := by
  obtain ⟨h0, h1⟩ := bq_cells ha
  have HH := has_any s.m hf.1 t w
  unfold noB
  clear ha hf
  by_cases ht : t < 0 ∨ 63 < t
  · have HT := takes_no w g t ht
    rw [if_pos ht]
    clear HH ht
    go_enter Try.func29, Try.ntmps29
    go_wp2_with fail
    refine HT.mono ?_
    rintro _ _ ⟨rfl, rfl⟩
    go_wp2
    go_ret
    exact ⟨rfl, rfl⟩
  have HT := takes_yes w g t (by omega) (by omega)
  rw [if_neg ht]
  clear ht
  generalize hasB s.m t = x at *
  cases x
  · rw [if_pos rfl]
    go_enter Try.func29, Try.ntmps29
    go_wp2_with fail
    refine HT.mono ?_
    rintro _ _ ⟨rfl, rfl⟩
    go_wp2_with fail
    refine HH.mono ?_
    rintro _ _ ⟨rfl, rfl⟩
    go_wp2
    go_ret
    exact ⟨rfl, rfl⟩
  · rw [if_neg (by decide)]
    go_enter Try.func29, Try.ntmps29
    go_wp2_with fail
    refine HT.mono ?_
    rintro _ _ ⟨rfl, rfl⟩
    go_wp2_with fail
    refine HH.mono ?_
    rintro _ _ ⟨rfl, rfl⟩
    go_wp2
    go_ret
    exact ⟨rfl, rfl⟩
theorem refuse_nil (w : World) (t : Int) :
    Calls Try.prog 29 #[.pointer none, .int .i64 t] w fun e w' => e = .returned (.int .i64 1) ∧ w = w' := by
  go_enter Try.func29, Try.ntmps29
  go_wp2_with fail
  refine (takes_nil w t).mono ?_
  rintro _ _ ⟨rfl, rfl⟩
  go_wp2
  go_ret
  exact ⟨rfl, rfl⟩

set_option maxHeartbeats 400000 in
theorem release_any (w : World) (g : Nat) (s : Bx) (ha : AtM w g s) :
    Calls Try.prog 31 #[.pointer (some ⟨g, 0, none⟩)] w fun e w' => e = .returned (.int .u64 (s.a : Int)) ∧ AtM w' g ⟨s.m, 0⟩ ∧ Only g w w' := by
  have HA := arrived_any w g s ha
  have HS : Hid (AtM (w.setCell ⟨g, 1, none⟩ (.int .u64 0)) g ⟨s.m, 0⟩ ∧ Only g w (w.setCell ⟨g, 1, none⟩ (.int .u64 0))) := Lib.hid ⟨bq_seta ha 0, only_cell w g 1 _⟩
  obtain ⟨c0, c1⟩ := bq_cells ha
  obtain ⟨f0, f1⟩ := bq_free ha
  clear ha
  go_enter Try.func31, Try.ntmps31
  go_wp2_with fail
  refine HA.mono ?_
  rintro _ _ ⟨rfl, rfl⟩
  go_wp2
  go_ret
  exact ⟨rfl, HS.out⟩
set_option maxHeartbeats 400000 in
theorem drop_any (w : World) (g : Nat) (s : Bx) (t : Int) (ha : AtM w g s) (hf : Fine s) :
    Calls Try.prog 32 #[.pointer (some ⟨g, 0, none⟩), .int .i64 t] w fun e w' => e = .returned (.tuple #[]) ∧ AtM w' g (outB s t) ∧ Only g w w' := by
  have HM := fun W => without_any s.m hf.1 t W
  have HA := fun W => without_any s.a hf.2.1 t W
  have HS : Hid (AtM ((w.setCell ⟨g, 0, none⟩ (.int .u64 ((wout s.m t : Nat) : Int))).setCell ⟨g, 1, none⟩ (.int .u64 ((wout s.a t : Nat) : Int))) g (outB s t) ∧ Only g w ((w.setCell ⟨g, 0, none⟩ (.int .u64 ((wout s.m t : Nat) : Int))).setCell ⟨g, 1, none⟩ (.int .u64 ((wout s.a t : Nat) : Int)))) :=
    Lib.hid ⟨bq_seta (bq_setm ha _) _, (only_cell w g 0 _).trans (only_cell _ g 1 _)⟩
  obtain ⟨c0, c1⟩ := bq_cells ha
  obtain ⟨f0, f1⟩ := bq_free ha
  clear ha hf
  go_enter Try.func32, Try.ntmps32
  go_wp2_with fail
  go_region_with (first
    | (go_at_call_of 33 (s.m); refine (HM _).mono ?_; rintro _ _ ⟨rfl, rfl⟩)
    | (go_at_call_of 33 (s.a); refine (HA _).mono ?_; rintro _ _ ⟨rfl, rfl⟩))
  all_goals
    go_wp2
    go_end0
    exact ⟨rfl, HS.out.1, HS.out.2.trans (only_drew g _ 1)⟩

theorem no_out {s : Bx} {t : Int} (h : t < 0 ∨ 63 < t) : hasB s.m t = false := by
  unfold hasB
  rw [decide_eq_false (by unfold may; omega)]
  rfl
theorem no_leave {s : Bx} {t : Int} (h : noB s t ≠ 0) : leaveB s t = (s, 0, noB s t) := by
  unfold noB at h ⊢
  unfold leaveB
  by_cases h1 : t < 0 ∨ 63 < t
  · rw [if_pos h1, if_pos h1]
  · rw [if_neg h1] at h ⊢
    rw [if_neg h1]
    by_cases h2 : hasB s.m t = false
    · rw [if_pos h2, if_pos h2]
    · rw [if_neg h2] at h
      exact absurd rfl h
theorem no_arrive {s : Bx} {t : Int} (h : noB s t ≠ 0) : arriveB s t = (s, 0, false, noB s t) := by
  unfold noB at h ⊢
  unfold arriveB
  by_cases h1 : t < 0 ∨ 63 < t
  · rw [if_pos h1, if_pos h1]
  · rw [if_neg h1] at h ⊢
    rw [if_neg h1]
    by_cases h2 : hasB s.m t = false
    · rw [if_pos h2, if_pos h2]
    · rw [if_neg h2] at h
      exact absurd rfl h
theorem no_break {s : Bx} {t : Int} (h : noB s t ≠ 0) : breakB s t = (s, 0, false) := by
  unfold noB at h
  unfold breakB
  by_cases h1 : t < 0 ∨ 63 < t
  · rw [if_pos (no_out h1)]
  · rw [if_neg h1] at h
    by_cases h2 : hasB s.m t = false
    · rw [if_pos h2]
    · rw [if_neg h2] at h
      exact absurd rfl h
theorem no_yes {s : Bx} {t : Int} (h : noB s t = 0) : ¬ (t < 0 ∨ 63 < t) ∧ ¬ hasB s.m t = false := by
  unfold noB at h
  by_cases h1 : t < 0 ∨ 63 < t
  · rw [if_pos h1] at h
    exact absurd h (by decide)
  · rw [if_neg h1] at h
    by_cases h2 : hasB s.m t = false
    · rw [if_pos h2] at h
      exact absurd h (by decide)
    · exact ⟨h1, h2⟩
/-- The last one: those that are missing are just that one. -/
theorem last_iff {s : Bx} {t : Int} (hf : Fine s) (hm : hasB s.m t = true) (ha : hasB s.a t = false) : missB s = wth 0 t ↔ missB ⟨s.m, wth s.a t⟩ = 0 := by
  obtain ⟨h1, h2, h3, h4⟩ := hf
  obtain ⟨hy, hb⟩ := has_bit hm
  have hna : s.a.testBit t.toNat = false := by
    unfold hasB at ha
    rw [decide_eq_true hy, Bool.true_and] at ha
    exact ha
  have z0 : Is64 0 := by unfold Is64; omega
  constructor
  · intro e
    refine bits.ext64 (bits.minus_lt h1) z0 fun k hk => ?_
    have e1 : (missB s).testBit k = (wth 0 t).testBit k := by rw [e]
    unfold missB at e1 ⊢
    rw [bits.testBit_minus h2 hk, testBit_wth, Nat.zero_testBit, decide_eq_true hy] at e1
    rw [bits.testBit_minus (wth_lt h2 t) hk, testBit_wth, Nat.zero_testBit, decide_eq_true hy]
    dsimp only at e1 ⊢
    revert e1
    cases s.m.testBit k <;> cases s.a.testBit k <;> cases decide (t.toNat = k) <;> simp
  · intro e
    refine bits.ext64 (bits.minus_lt h1) (wth_lt z0 t) fun k hk => ?_
    have e1 : (missB ⟨s.m, wth s.a t⟩).testBit k = (0 : Nat).testBit k := by rw [e]
    unfold missB at e1 ⊢
    rw [bits.testBit_minus (wth_lt h2 t) hk, testBit_wth, Nat.zero_testBit, decide_eq_true hy] at e1
    rw [bits.testBit_minus h2 hk, testBit_wth, Nat.zero_testBit, decide_eq_true hy]
    dsimp only at e1 ⊢
    by_cases hk2 : t.toNat = k
    · subst hk2
      rw [hb, hna]
      simp
    · rw [decide_eq_false hk2] at e1 ⊢
      revert e1
      cases s.m.testBit k <;> cases s.a.testBit k <;> simp

set_option maxHeartbeats 400000 in
theorem enrol_any (w : World) (g : Nat) (s : Bx) (t : Int) (ha : AtM w g s) (hf : Fine s) :
    Calls Try.prog 14 #[.pointer (some ⟨g, 0, none⟩), .int .i64 t] w fun e w' => e = .returned (.int .i64 (enrolB s t).2) ∧ AtM w' g (enrolB s t).1 ∧ Only g w w' := by
  have HA := Lib.hid ha
  obtain ⟨c0, c1⟩ := bq_cells ha
  obtain ⟨f0, f1⟩ := bq_free ha
  have HH := fun W => has_any s.m hf.1 t W
  by_cases ht : t < 0 ∨ 63 < t
  · have HT := takes_no w g t ht
    rw [show enrolB s t = (s, 1) from by unfold enrolB; rw [if_pos ht]]
    clear ht ha hf HH
    go_enter Try.func14, Try.ntmps14
    go_wp2_with fail
    refine HT.mono ?_
    rintro _ _ ⟨rfl, rfl⟩
    go_wp2
    go_ret
    exact ⟨rfl, HA.out, only_refl g w⟩
  have HT := takes_yes w g t (by omega) (by omega)
  by_cases hb : hasB s.m t = true
  · rw [show enrolB s t = (s, 8) from by unfold enrolB; rw [if_neg ht, if_pos hb]]
    rw [hb] at HH
    clear ht ha hf hb
    go_enter Try.func14, Try.ntmps14
    go_wp2_with fail
    refine HT.mono ?_
    rintro _ _ ⟨rfl, rfl⟩
    go_wp2_with fail
    refine (HH _).mono ?_
    rintro _ _ ⟨rfl, rfl⟩
    go_wp2
    go_ret
    exact ⟨rfl, HA.out, only_refl g w⟩
  by_cases hz : s.a ≠ 0
  · rw [show enrolB s t = (s, 7) from by unfold enrolB; rw [if_neg ht, if_neg hb, if_pos hz]]
    have hbf : hasB s.m t = false := by simpa using hb
    rw [hbf] at HH
    have d0 : ((s.a : Int) != 0) = true := bne_iff_ne.2 (by omega)
    clear ht ha hf hb hbf hz
    go_enter Try.func14, Try.ntmps14
    go_wp2_with fail
    refine HT.mono ?_
    rintro _ _ ⟨rfl, rfl⟩
    go_wp2_with fail
    refine (HH _).mono ?_
    rintro _ _ ⟨rfl, rfl⟩
    go_wp2
    go_ret
    exact ⟨rfl, HA.out, only_refl g w⟩
  rw [show enrolB s t = (⟨wth s.m t, s.a⟩, 0) from by unfold enrolB; rw [if_neg ht, if_neg hb, if_neg hz]]
  have HW := fun W => with_any s.m hf.1 t W
  have HS : Hid (AtM (w.setCell ⟨g, 0, none⟩ (.int .u64 ((wth s.m t : Nat) : Int))) g ⟨wth s.m t, s.a⟩ ∧ Only g w (w.setCell ⟨g, 0, none⟩ (.int .u64 ((wth s.m t : Nat) : Int)))) := Lib.hid ⟨bq_setm ha _, only_cell w g 0 _⟩
  have hbf : hasB s.m t = false := by simpa using hb
  rw [hbf] at HH
  have hz0 : s.a = 0 := by omega
  rw [hz0, show ((0 : Nat) : Int) = 0 from rfl] at c1
  clear ht ha hf hb hbf hz hz0
  go_enter Try.func14, Try.ntmps14
  go_wp2_with fail
  refine HT.mono ?_
  rintro _ _ ⟨rfl, rfl⟩
  go_wp2_with fail
  refine (HH _).mono ?_
  rintro _ _ ⟨rfl, rfl⟩
  clear HH
  go_wp2_with fail
  refine (HW _).mono ?_
  rintro _ _ ⟨rfl, rfl⟩
  go_wp2
  go_ret
  exact ⟨rfl, HS.out⟩

set_option maxHeartbeats 400000 in
theorem leave_any (w : World) (g : Nat) (s : Bx) (t : Int) (ha : AtM w g s) (hf : Fine s) :
    Calls Try.prog 16 #[.pointer (some ⟨g, 0, none⟩), .int .i64 t] w fun e w' => e = .returned (.tuple #[.int .u64 ((leaveB s t).2.1 : Int), .int .i64 (leaveB s t).2.2]) ∧ AtM w' g (leaveB s t).1 ∧ Only g w w' := by
  have HR := refuse_any w g s t ha hf
  have HA := Lib.hid ha
  by_cases hn : noB s t = 0
  · obtain ⟨ht, hb⟩ := no_yes hn
    rw [hn] at HR
    have HD := drop_any w g s t ha hf
    have hfo : Is64 (outB s t).m ∧ Is64 (outB s t).a := ⟨wout_lt hf.1 t, wout_lt hf.2.1 t⟩
    have HMi := fun W h => Lib.hid (missing_two W g (outB s t) h hfo.1 hfo.2)
    have HRe := fun W h => Lib.hid (release_any W g (outB s t) h)
    by_cases hz : missB (outB s t) = 0
    · rw [show leaveB s t = (⟨(outB s t).m, 0⟩, (outB s t).a, 0) from by unfold leaveB; rw [if_neg ht, if_neg hb, if_pos hz]]
      rw [hz, show ((0 : Nat) : Int) = 0 from rfl] at HMi
      generalize outB s t = q at *
      clear ha hf hn hz ht hb hfo
      go_enter Try.func16, Try.ntmps16
      go_wp2_with fail
      refine HR.mono ?_
      rintro _ _ ⟨rfl, rfl⟩
      clear HR
      go_wp2_with fail
      refine HD.mono ?_
      rintro _ w1 ⟨rfl, r1, r2⟩
      have H1 := Lib.hid (And.intro r1 r2)
      clear r1 r2 HD
      go_wp2_with fail
      refine (HMi _ H1.out.1).out.mono ?_
      rintro _ w2 ⟨rfl, rfl⟩
      have H2 := H1
      clear HMi H1
      go_wp2_with fail
      refine (HRe _ H2.out.1).out.mono ?_
      rintro _ w3 ⟨rfl, r1, r2⟩
      have H3 := Lib.hid (And.intro r1 (H2.out.2.trans r2))
      clear r1 r2 HRe H2
      go_wp2
      go_ret2
      exact ⟨rfl, H3.out⟩
    · rw [show leaveB s t = (outB s t, 0, 0) from by unfold leaveB; rw [if_neg ht, if_neg hb, if_neg hz]]
      have d0 : (((missB (outB s t) : Nat) : Int) != 0) = true := bne_iff_ne.2 (by omega)
      generalize missB (outB s t) = y at *
      generalize outB s t = q at *
      clear ha hf hn hz ht hb hfo HRe
      go_enter Try.func16, Try.ntmps16
      go_wp2_with fail
      refine HR.mono ?_
      rintro _ _ ⟨rfl, rfl⟩
      clear HR
      go_wp2_with fail
      refine HD.mono ?_
      rintro _ w1 ⟨rfl, r1, r2⟩
      have H1 := Lib.hid (And.intro r1 r2)
      clear r1 r2 HD
      go_wp2_with fail
      refine (HMi _ H1.out.1).out.mono ?_
      rintro _ w2 ⟨rfl, rfl⟩
      have H2 := H1
      clear HMi H1
      go_wp2
      go_ret2
      exact ⟨rfl, H2.out⟩
  · rw [no_leave hn]
    have hb : (noB s t != 0) = true := bne_iff_ne.2 hn
    generalize noB s t = x at *
    clear ha hf hn
    go_enter Try.func16, Try.ntmps16
    go_wp2_with fail
    refine HR.mono ?_
    rintro _ _ ⟨rfl, rfl⟩
    clear HR
    go_wp2
    go_ret2
    exact ⟨rfl, HA.out, only_refl g w⟩

set_option maxHeartbeats 400000 in
theorem break_any (w : World) (g : Nat) (s : Bx) (t : Int) (ha : AtM w g s) (hf : Fine s) :
    Calls Try.prog 17 #[.pointer (some ⟨g, 0, none⟩), .int .i64 t] w fun e w' => e = .returned (.tuple #[.int .u64 ((breakB s t).2.1 : Int), .bool (breakB s t).2.2]) ∧ AtM w' g (breakB s t).1 ∧ Only g w w' := by
  have HR := refuse_any w g s t ha hf
  have HA := Lib.hid ha
  by_cases hn : noB s t = 0
  · obtain ⟨ht, hb⟩ := no_yes hn
    rw [hn] at HR
    have HD := drop_any w g s t ha hf
    have HRe := fun W h => Lib.hid (release_any W g (outB s t) h)
    rw [show breakB s t = (⟨(outB s t).m, 0⟩, (outB s t).a, true) from by unfold breakB; rw [if_neg hb]]
    generalize outB s t = q at *
    clear ha hf hn ht hb
    go_enter Try.func17, Try.ntmps17
    go_wp2_with fail
    refine HR.mono ?_
    rintro _ _ ⟨rfl, rfl⟩
    clear HR
    go_wp2_with fail
    refine HD.mono ?_
    rintro _ w1 ⟨rfl, r1, r2⟩
    have H1 := Lib.hid (And.intro r1 r2)
    clear r1 r2 HD
    go_wp2_with fail
    refine (HRe _ H1.out.1).out.mono ?_
    rintro _ w3 ⟨rfl, r1, r2⟩
    have H3 := Lib.hid (And.intro r1 (H1.out.2.trans r2))
    clear r1 r2 HRe H1
    go_wp2
    go_ret2
    exact ⟨rfl, H3.out⟩
  · rw [no_break hn]
    have hb : (noB s t != 0) = true := bne_iff_ne.2 hn
    generalize noB s t = x at *
    clear ha hf hn
    go_enter Try.func17, Try.ntmps17
    go_wp2_with fail
    refine HR.mono ?_
    rintro _ _ ⟨rfl, rfl⟩
    clear HR
    go_wp2
    go_ret2
    exact ⟨rfl, HA.out, only_refl g w⟩

set_option maxHeartbeats 400000 in
theorem draw_any (w : World) (g : Nat) (s : Bx) (t : Int) (ha : AtM w g s) (hf : Fine s) :
    Calls Try.prog 18 #[.pointer (some ⟨g, 0, none⟩), .int .i64 t] w fun e w' => e = .returned (.bool (drawB s t).2) ∧ AtM w' g (drawB s t).1 ∧ Only g w w' := by
  have HH := fun W => has_any s.a hf.2.1 t W
  have HA := Lib.hid ha
  obtain ⟨c0, c1⟩ := bq_cells ha
  obtain ⟨f0, f1⟩ := bq_free ha
  by_cases hb : hasB s.a t = true
  · rw [show drawB s t = (⟨s.m, wout s.a t⟩, true) from by unfold drawB; rw [hb]]
    rw [hb] at HH
    have HW := fun W => without_any s.a hf.2.1 t W
    have HS : Hid (AtM (w.setCell ⟨g, 1, none⟩ (.int .u64 ((wout s.a t : Nat) : Int))) g ⟨s.m, wout s.a t⟩ ∧ Only g w (w.setCell ⟨g, 1, none⟩ (.int .u64 ((wout s.a t : Nat) : Int)))) := Lib.hid ⟨bq_seta ha _, only_cell w g 1 _⟩
    clear ha hf hb
    go_enter Try.func18, Try.ntmps18
    go_wp2_with fail
    refine (HH _).mono ?_
    rintro _ _ ⟨rfl, rfl⟩
    clear HH
    go_wp2_with fail
    refine (HW _).mono ?_
    rintro _ _ ⟨rfl, rfl⟩
    go_wp2
    go_ret
    exact ⟨rfl, HS.out⟩
  · have hbf : hasB s.a t = false := by simpa using hb
    rw [show drawB s t = (s, false) from by unfold drawB; rw [hbf, bits.wout_no hbf]]
    rw [hbf] at HH
    clear ha hf hb hbf
    go_enter Try.func18, Try.ntmps18
    go_wp2_with fail
    refine (HH _).mono ?_
    rintro _ _ ⟨rfl, rfl⟩
    clear HH
    go_wp2
    go_ret
    exact ⟨rfl, HA.out, only_refl g w⟩

/-- The row of one number that a call of the set of a list is handed. -/
theorem of_one (w : World) (t : Int) (c : Obj) (hc : c = .cells #[.int .i64 t] 3 (0, 0)) : Calls Try.prog 30 #[.slice (some ⟨w.heap.size, 0, none⟩) 1 1] (w.alloc c) fun e w' => e = .returned (.int .u64 ((wth 0 t : Nat) : Int)) ∧ w.alloc c = w' := by
  refine of_any w.heap.size 0 1 [t] (by simp) (w.alloc c) ?_
  intro j hj
  have hj0 : j = 0 := by simpa using hj
  subst hj0
  unfold World.cell?
  dsimp only
  rw [heap_alloc_new, hc]
  rfl
set_option maxHeartbeats 400000 in
theorem arrive_any (w : World) (g : Nat) (s : Bx) (t : Int) (ha : AtM w g s) (hf : Fine s) :
    Calls Try.prog 15 #[.pointer (some ⟨g, 0, none⟩), .int .i64 t] w fun e w' => e = .returned (.tuple #[.int .u64 ((arriveB s t).2.1 : Int), .bool (arriveB s t).2.2.1, .int .i64 (arriveB s t).2.2.2]) ∧ AtM w' g (arriveB s t).1 ∧ Only g w w' := by
  have HR := refuse_any w g s t ha hf
  have HA := Lib.hid ha
  by_cases hn : noB s t = 0
  · obtain ⟨ht, hb⟩ := no_yes hn
    rw [hn] at HR
    obtain ⟨c0, c1⟩ := bq_cells ha
    have HH := has_any s.a hf.2.1 t w
    by_cases hc : hasB s.a t = true
    · rw [show arriveB s t = (s, 0, false, 7) from by unfold arriveB; rw [if_neg ht, if_neg hb, if_pos hc]]
      rw [hc] at HH
      clear ha hf hn ht hb hc
      go_enter Try.func15, Try.ntmps15
      go_wp2_with fail
      refine HR.mono ?_
      rintro _ _ ⟨rfl, rfl⟩
      clear HR
      go_wp2_with fail
      refine HH.mono ?_
      rintro _ _ ⟨rfl, rfl⟩
      clear HH
      go_wp2
      go_ret3
      exact ⟨rfl, HA.out, only_refl g w⟩
    have hcf : hasB s.a t = false := by simpa using hc
    have hbt : hasB s.m t = true := by simpa using hb
    have hlast := last_iff hf hbt hcf
    have HM := missing_two w g s ha hf.1 hf.2.1
    rw [hcf] at HH
    have hne : g < w.heap.size := lt_of_block ha
    obtain ⟨c, hk⟩ : ∃ c : Obj, c = .cells #[.int .i64 t] 3 (0, 0) := ⟨_, rfl⟩
    have hb0 : Below w.heap.size w (w.alloc c) := (Below.refl _ w).alloc (Nat.le_refl _) _
    have ha1 : AtM (w.alloc c) g s := (hb0.block _ hne).trans ha
    have HO := of_one w t c hk
    have hO1 := Lib.hid (Only.of_below (g := g) hb0)
    by_cases hz : missB ⟨s.m, wth s.a t⟩ = 0
    · rw [show arriveB s t = (⟨s.m, 0⟩, s.a, true, 0) from by unfold arriveB; rw [if_neg ht, if_neg hb, if_neg hc, if_pos hz]]
      rw [hlast.2 hz] at HM
      have q0 : (((wth 0 t : Nat) : Int) != ((wth 0 t : Nat) : Int)) = false := by simp
      have HRe := Lib.hid (release_any (w.alloc c) g s ha1)
      generalize wth 0 t = y at *
      clear ha ha1 hf hn ht hb hc hcf hbt hlast hz hne hb0 c0 HA
      go_enter Try.func15, Try.ntmps15
      go_wp2_with fail
      refine HR.mono ?_
      rintro _ _ ⟨rfl, rfl⟩
      clear HR
      go_wp2_with fail
      refine HH.mono ?_
      rintro _ _ ⟨rfl, rfl⟩
      clear HH
      go_wp2_with fail
      refine HM.mono ?_
      rintro _ _ ⟨rfl, rfl⟩
      clear HM
      go_wp2_with fail
      rw [← hk]
      refine HO.mono ?_
      rintro _ _ ⟨rfl, rfl⟩
      clear HO
      generalize w.alloc c = w1 at *
      go_wp2_with fail
      refine HRe.out.mono ?_
      rintro _ w2 ⟨rfl, r1, r2⟩
      have R := Lib.hid (And.intro r1 (hO1.out.trans r2))
      clear r1 r2 HRe
      go_wp2
      go_ret3
      exact ⟨rfl, R.out⟩
    · rw [show arriveB s t = (⟨s.m, wth s.a t⟩, 0, false, 0) from by unfold arriveB; rw [if_neg ht, if_neg hb, if_neg hc, if_neg hz]]
      have q0 : (((missB s : Nat) : Int) != ((wth 0 t : Nat) : Int)) = true := bne_iff_ne.2 (fun e => hz (hlast.1 (by omega)))
      have HW := fun W => with_any s.a hf.2.1 t W
      have HS : Hid (AtM ((w.alloc c).setCell ⟨g, 1, none⟩ (.int .u64 ((wth s.a t : Nat) : Int))) g ⟨s.m, wth s.a t⟩ ∧ Only g w ((w.alloc c).setCell ⟨g, 1, none⟩ (.int .u64 ((wth s.a t : Nat) : Int)))) := Lib.hid ⟨bq_seta ha1 _, hO1.out.trans (only_cell _ g 1 _)⟩
      obtain ⟨d0, d1⟩ := bq_cells ha1
      obtain ⟨f0, f1⟩ := bq_free ha1
      generalize wth s.a t = z at *
      generalize wth 0 t = y at *
      generalize missB s = x at *
      clear ha ha1 hf hn ht hb hc hcf hbt hlast hz hne hb0 c0 HA hO1
      go_enter Try.func15, Try.ntmps15
      go_wp2_with fail
      refine HR.mono ?_
      rintro _ _ ⟨rfl, rfl⟩
      clear HR
      go_wp2_with fail
      refine HH.mono ?_
      rintro _ _ ⟨rfl, rfl⟩
      clear HH
      go_wp2_with fail
      refine HM.mono ?_
      rintro _ _ ⟨rfl, rfl⟩
      clear HM
      go_wp2_with fail
      rw [← hk]
      refine HO.mono ?_
      rintro _ _ ⟨rfl, rfl⟩
      clear HO c1
      generalize w.alloc c = w1 at *
      go_wp2_with fail
      refine (HW _).mono ?_
      rintro _ _ ⟨rfl, rfl⟩
      clear HW
      go_wp2
      go_ret3
      exact ⟨rfl, HS.out⟩
  · rw [no_arrive hn]
    have hb : (noB s t != 0) = true := bne_iff_ne.2 hn
    generalize noB s t = x at *
    clear ha hf hn
    go_enter Try.func15, Try.ntmps15
    go_wp2_with fail
    refine HR.mono ?_
    rintro _ _ ⟨rfl, rfl⟩
    clear HR
    go_wp2
    go_ret3
    exact ⟨rfl, HA.out, only_refl g w⟩

theorem enrol_nil (w : World) (t : Int) : Calls Try.prog 14 #[.pointer none, .int .i64 t] w fun e w' => e = .returned (.int .i64 1) ∧ Below w.heap.size w w' := by
  go_enter Try.func14, Try.ntmps14
  go_wp2_with fail
  refine (takes_nil w t).mono ?_
  rintro _ _ ⟨rfl, rfl⟩
  go_wp2
  go_ret
  exact ⟨rfl, Below.refl _ w⟩
theorem leave_nil (w : World) (t : Int) : Calls Try.prog 16 #[.pointer none, .int .i64 t] w fun e w' => e = .returned (.tuple #[.int .u64 0, .int .i64 1]) ∧ Below w.heap.size w w' := by
  go_enter Try.func16, Try.ntmps16
  go_wp2_with fail
  refine (refuse_nil w t).mono ?_
  rintro _ _ ⟨rfl, rfl⟩
  go_wp2
  go_ret2
  exact ⟨rfl, Below.refl _ w⟩
theorem arrive_nil (w : World) (t : Int) : Calls Try.prog 15 #[.pointer none, .int .i64 t] w fun e w' => e = .returned (.tuple #[.int .u64 0, .bool false, .int .i64 1]) ∧ Below w.heap.size w w' := by
  go_enter Try.func15, Try.ntmps15
  go_wp2_with fail
  refine (refuse_nil w t).mono ?_
  rintro _ _ ⟨rfl, rfl⟩
  go_wp2
  go_ret3
  exact ⟨rfl, Below.refl _ w⟩
theorem draw_nil (w : World) (t : Int) : Calls Try.prog 18 #[.pointer none, .int .i64 t] w fun e w' => e = .returned (.bool false) ∧ Below w.heap.size w w' := by
  go_enter Try.func18, Try.ntmps18
  go_wp2
  go_ret
  exact ⟨rfl, Below.refl _ w⟩
theorem break_nil (w : World) (t : Int) : Calls Try.prog 17 #[.pointer none, .int .i64 t] w fun e w' => e = .returned (.tuple #[.int .u64 0, .bool false]) ∧ Below w.heap.size w w' := by
  go_enter Try.func17, Try.ntmps17
  go_wp2_with fail
  refine (refuse_nil w t).mono ?_
  rintro _ _ ⟨rfl, rfl⟩
  go_wp2
  go_ret2
  exact ⟨rfl, Below.refl _ w⟩
theorem same_below {w : World} {v : Value} {e : Ending} {w' : World} (h : e = .returned v ∧ w = w') : e = .returned v ∧ Below w.heap.size w w' := by
  obtain ⟨h1, rfl⟩ := h
  exact ⟨h1, Below.refl _ _⟩
theorem keeps : Keeps AtM where
  loc := fun w w' g s h hb _ => hb.trans h
  lt := fun w g s h => lt_of_block h
  new := bq_new
  enrol := fun w g s t ha hf _ => enrol_any w g s t ha hf
  leave := fun w g s t ha hf _ => leave_any w g s t ha hf
  arrive := fun w g s t ha hf _ => arrive_any w g s t ha hf
  draw := fun w g s t ha hf _ => draw_any w g s t ha hf
  brk := fun w g s t ha hf _ => break_any w g s t ha hf
  members := fun w g s ha _ => (members_any w g s ha).mono fun _ _ h => same_below h
  arrived := fun w g s ha _ => (arrived_any w g s ha).mono fun _ _ h => same_below h
  missing := fun w g s ha hf => (missing_two w g s ha hf.1 hf.2.1).mono fun _ _ h => same_below h
  nenrol := fun w t _ => enrol_nil w t
  nleave := fun w t _ => leave_nil w t
  narrive := fun w t _ => arrive_nil w t
  ndraw := fun w t _ => draw_nil w t
  nbrk := fun w t _ => break_nil w t
  nmembers := fun w => (members_nil w).mono fun _ _ h => same_below h
  narrived := fun w => (arrived_nil w).mono fun _ _ h => same_below h
  nmissing := fun w => (missing_nil w).mono fun _ _ h => same_below h
end Go.Proofs.Ytiekbbknmneikaa.bar
