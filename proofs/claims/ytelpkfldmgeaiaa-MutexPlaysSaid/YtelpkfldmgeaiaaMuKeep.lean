/-
  The program's own calls of a mutex (typed over the code of a9ed4ca). No condition.
-/
import Derived.Test.YtelpkfldmgeaiaaMuSpec
namespace Go.Proofs.Ytelpkfldmgeaiaa.mut
open Go.RowKit Go.ChangeShapes
set_option linter.unusedVariables false
set_option linter.unusedSimpArgs false

/-- The program's fields, beside what the document knows. -/
structure Is (m : Mx) (b : Bool) (o s : Int) : Prop where
  own : m.o = if b = true then o else -1
  pos : b = true → 0 ≤ o
  bad : m.bad = decide (s = 1)
  lost : m.lost = decide (s = 2)
def mqO (b : Bool) (o s : Int) : Obj := .cells #[.bool b, .int .i64 o, .int .i64 s] 26
def AtM (w : World) (g : Nat) (m : Mx) : Prop := ∃ b o s, w.heap[g]? = some (mqO b o s) ∧ Is m b o s
theorem mq_cells {w : World} {g : Nat} {b : Bool} {o s : Int} (h : w.heap[g]? = some (mqO b o s)) : w.cell? ⟨g, 0, none⟩ = some (.bool b) ∧ w.cell? ⟨g, 1, none⟩ = some (.int .i64 o) ∧ w.cell? ⟨g, 2, none⟩ = some (.int .i64 s) := by
  simp [World.cell?, h, mqO]
theorem mz_is : mzC = #[.bool false, .int .i64 0, .int .i64 0] := by kernel_rfl
theorem mq_new (w : World) : (w.alloc mzB).heap[w.heap.size]? = some (mqO false 0 0) := by
  rw [heap_alloc_new]
  unfold mzB mqO
  rw [mz_is]
theorem mq_set {w : World} {g : Nat} {b : Bool} {o s : Int} (h : w.heap[g]? = some (mqO b o s)) (b' : Bool) (o' : Int) : ((w.setCell ⟨g, 0, none⟩ (.bool b')).setCell ⟨g, 1, none⟩ (.int .i64 o')).heap[g]? = some (mqO b' o' s) := by
  simp [World.setCell, Array.getElem?_modify, h, mqO]
theorem mq_state {w : World} {g : Nat} {b : Bool} {o s : Int} (h : w.heap[g]? = some (mqO b o s)) (s' : Int) : (w.setCell ⟨g, 2, none⟩ (.int .i64 s')).heap[g]? = some (mqO b o s') := by
  simp [World.setCell, Array.getElem?_modify, h, mqO]
theorem only_cell (w : World) (g k : Nat) (v : Value) : Only g w (w.setCell ⟨g, k, none⟩ v) :=
  ⟨rfl, rfl, rfl, by simp [World.setCell], fun i _ hi => Below.heap_setCell _ _ _ _ hi⟩
theorem only_trans {g : Nat} {w w' w'' : World} (h : Only g w w') (h2 : Only g w' w'') : Only g w w'' :=
  ⟨h2.os.trans h.os, h2.tape.trans h.tape, h2.output.trans h.output, Nat.le_trans h.size h2.size, fun k hk hg => (h2.block k (Nat.lt_of_lt_of_le hk h.size) hg).trans (h.block k hk hg)⟩
theorem only_refl (g : Nat) (w : World) : Only g w w := ⟨rfl, rfl, rfl, Nat.le_refl _, fun _ _ _ => rfl⟩

theorem mq_free {w : World} {g : Nat} {b : Bool} {o s : Int} (h : w.heap[g]? = some (mqO b o s)) : w.frozen? ⟨g, 0, none⟩ = false ∧ w.frozen? ⟨g, 1, none⟩ = false ∧ w.frozen? ⟨g, 2, none⟩ = false := by
  simp [World.frozen?, h, mqO]
abbrev Fr (w : World) (g : Nat) : Prop := w.frozen? ⟨g, 0, none⟩ = false ∧ w.frozen? ⟨g, 1, none⟩ = false ∧ w.frozen? ⟨g, 2, none⟩ = false

set_option maxHeartbeats 400000 in
theorem leave_any (w : World) (g : Nat) (b : Bool) (o s : Int) (h : w.heap[g]? = some (mqO b o s)) :
    Calls Try.prog 27 #[.pointer (some ⟨g, 0, none⟩)] w fun e w' => e = .returned (.tuple #[]) ∧ w'.heap[g]? = some (mqO false 0 s) ∧ Only g w w' := by
  obtain ⟨h0, h1, h2⟩ := mq_cells h
  obtain ⟨f0, f1, f2⟩ := mq_free h
  have H := Lib.hid (mq_set h false 0)
  have HO := Lib.hid (only_trans (only_cell w g 0 (.bool false)) (only_cell _ g 1 (.int .i64 0)))
  clear h
  go_enter Try.func27, Try.ntmps27
  go_wp2
  go_end0
  exact ⟨rfl, H.out, HO.out⟩

set_option maxHeartbeats 400000 in
theorem owns_any (w : World) (g : Nat) (b : Bool) (o s t : Int) (h : w.heap[g]? = some (mqO b o s)) :
    Calls Try.prog 25 #[.pointer (some ⟨g, 0, none⟩), .int .i64 t] w fun e w' => e = .returned (.bool (b && o == t)) ∧ w = w' := by
  obtain ⟨h0, h1, h2⟩ := mq_cells h
  clear h
  cases b
  all_goals (go_enter Try.func25, Try.ntmps25; go_wp2; go_ret; exact ⟨rfl, rfl⟩)
set_option maxHeartbeats 400000 in
theorem owns_nil (w : World) (t : Int) :
    Calls Try.prog 25 #[.pointer none, .int .i64 t] w fun e w' => e = .returned (.bool false) ∧ w = w' := by
  go_enter Try.func25, Try.ntmps25
  go_wp2
  go_ret
  exact ⟨rfl, rfl⟩

set_option maxHeartbeats 400000 in
theorem refuse_any (w : World) (g : Nat) (b : Bool) (o s t : Int) (h : w.heap[g]? = some (mqO b o s)) (q : Bool) (hq : (b && o == t) = q) :
    Calls Try.prog 26 #[.pointer (some ⟨g, 0, none⟩), .int .i64 t] w fun e w' => e = .returned (.int .i64 (if q = true then 0 else 9)) ∧ w = w' := by
  have HO := owns_any w g b o s t h
  rw [hq] at HO
  clear h hq
  cases q
  all_goals (go_enter Try.func26, Try.ntmps26; go_wp2_with fail; refine HO.mono ?_; rintro _ _ ⟨rfl, rfl⟩; go_wp2; go_ret; exact ⟨rfl, rfl⟩)
set_option maxHeartbeats 400000 in
theorem refuse_nil (w : World) (t : Int) :
    Calls Try.prog 26 #[.pointer none, .int .i64 t] w fun e w' => e = .returned (.int .i64 1) ∧ w = w' := by
  go_enter Try.func26, Try.ntmps26
  go_wp2
  go_ret
  exact ⟨rfl, rfl⟩

theorem is_own {m : Mx} {b : Bool} {o s : Int} (h : Is m b o s) (t : Int) : (b && o == t) = decide (ownM m t) := by
  obtain ⟨h1, h2, _, _⟩ := h
  cases b
  · rw [if_neg (by decide)] at h1
    have h3 : ¬ ownM m t := fun e => by
      have e1 := e.1
      have e2 := e.2
      omega
    rw [decide_eq_false h3]
    rfl
  · rw [if_pos rfl] at h1
    have h3 := h2 rfl
    by_cases e : o = t
    · have h4 : ownM m t := ⟨by omega, by omega⟩
      rw [decide_eq_true h4, e]
      simp
    · have h4 : ¬ ownM m t := fun e1 => by
        have e2 := e1.2
        omega
      rw [decide_eq_false h4]
      simp [e]
theorem is_free {m : Mx} {b : Bool} {o s : Int} (h : Is m b o s) : Is (freeM m) false 0 s := ⟨rfl, fun e => (by cases e), h.bad, h.lost⟩
/-- What an owner's call is asked: what stands there, and whether he is. -/
theorem at_open {w : World} {g : Nat} {m : Mx} (h : AtM w g m) (t : Int) : ∃ b o s, w.heap[g]? = some (mqO b o s) ∧ Is m b o s ∧ (b && o == t) = decide (ownM m t) := by
  obtain ⟨b, o, s, h1, h2⟩ := h
  exact ⟨b, o, s, h1, h2, is_own h2 t⟩

set_option maxHeartbeats 400000 in
theorem free_any (w : World) (g : Nat) (m : Mx) (t : Int) (ha : AtM w g m) :
    Calls Try.prog 16 #[.pointer (some ⟨g, 0, none⟩), .int .i64 t] w fun e w' => e = .returned (.bool (decide (ownM m t))) ∧ AtM w' g (doM m 2 t).1 ∧ Only g w w' := by
  obtain ⟨b, o, s, h, hi, hq⟩ := at_open ha t
  have HO := owns_any w g b o s t h
  have HL := leave_any w g b o s h
  rw [hq] at HO
  by_cases hw : ownM m t
  · rw [decide_eq_true hw] at HO ⊢
    rw [show (doM m 2 t).1 = freeM m from by unfold doM; rw [if_neg (by decide), if_neg (fun e => e hw), if_neg (by decide), if_pos rfl]]
    have HI := Lib.hid (is_free hi)
    clear hi hq h ha hw
    go_enter Try.func16, Try.ntmps16
    go_wp2_with fail
    refine HO.mono ?_
    rintro _ _ ⟨rfl, rfl⟩
    go_wp2_with fail
    refine HL.mono ?_
    rintro _ w' ⟨rfl, r1, r2⟩
    have R1 := Lib.hid r1
    have R2 := Lib.hid r2
    clear r1 r2 HO HL
    go_wp2
    go_ret
    exact ⟨rfl, ⟨_, _, _, R1.out, HI.out⟩, R2.out⟩
  · rw [decide_eq_false hw] at HO ⊢
    rw [show (doM m 2 t).1 = m from by unfold doM; rw [if_neg (by decide), if_pos hw]]
    have HA := Lib.hid ha
    clear hi hq h ha hw HL
    go_enter Try.func16, Try.ntmps16
    go_wp2_with fail
    refine HO.mono ?_
    rintro _ _ ⟨rfl, rfl⟩
    go_wp2
    go_ret
    exact ⟨rfl, HA.out, only_refl g w⟩
theorem is_die {m : Mx} {b : Bool} {o s : Int} (h : Is m b o s) (hl : m.lost = false) : Is (dieM m) false 0 1 := ⟨rfl, fun e => (by cases e), rfl, hl⟩
theorem is_mend {m : Mx} {b : Bool} {o s : Int} (h : Is m b o s) (hl : m.lost = false) : Is (mendM m) b o 0 := ⟨h.own, h.pos, rfl, hl⟩
theorem is_unlock {m : Mx} {b : Bool} {o s : Int} (h : Is m b o s) (hs : s ≠ 1) : Is (unlockM m) false 0 s := by
  have e : m.bad = false := by rw [h.bad]; exact decide_eq_false hs
  unfold unlockM
  rw [if_neg (by rw [e]; decide)]
  exact ⟨rfl, fun e => (by cases e), (decide_eq_false hs).symm, h.lost⟩
theorem is_ruin {m : Mx} {b : Bool} {o : Int} (h : Is m b o 1) : Is (unlockM m) false 0 2 := by
  unfold unlockM
  rw [if_pos (h.bad.trans (by decide))]
  exact ⟨rfl, fun e => (by cases e), rfl, rfl⟩
theorem own_sound {m : Mx} (h : Fine m) {t : Int} (hw : ownM m t) : m.lost = false := by
  cases hl : m.lost with
  | false => rfl
  | true =>
    have h1 := (h.2 hl).1
    have h2 := hw.1
    have h3 := hw.2
    omega

set_option maxHeartbeats 400000 in
theorem die_any (w : World) (g : Nat) (m : Mx) (t : Int) (ha : AtM w g m) (hf : Fine m) :
    Calls Try.prog 17 #[.pointer (some ⟨g, 0, none⟩), .int .i64 t] w fun e w' => e = .returned (.bool (decide (ownM m t))) ∧ AtM w' g (doM m 3 t).1 ∧ Only g w w' := by
  obtain ⟨b, o, s, h, hi, hq⟩ := at_open ha t
  have HO := owns_any w g b o s t h
  have HL := leave_any w g b o s h
  rw [hq] at HO
  by_cases hw : ownM m t
  · rw [decide_eq_true hw] at HO ⊢
    rw [show (doM m 3 t).1 = dieM m from by unfold doM; rw [if_neg (by decide), if_neg (fun e => e hw), if_neg (by decide), if_neg (by decide), if_pos rfl]]
    have HI := Lib.hid (is_die hi (own_sound hf hw))
    clear hi hq h ha hw hf
    go_enter Try.func17, Try.ntmps17
    go_wp2_with fail
    refine HO.mono ?_
    rintro _ _ ⟨rfl, rfl⟩
    go_wp2_with fail
    refine HL.mono ?_
    rintro _ w' ⟨rfl, r1, r2⟩
    have R1 := Lib.hid (mq_state r1 1)
    have R2 := Lib.hid (only_trans r2 (only_cell w' g 2 (.int .i64 1)))
    obtain ⟨h0, h1, h2⟩ := mq_cells r1
    obtain ⟨f0, f1, f2⟩ := mq_free r1
    clear r1 r2 HO HL
    go_wp2
    go_ret
    exact ⟨rfl, ⟨_, _, _, R1.out, HI.out⟩, R2.out⟩
  · rw [decide_eq_false hw] at HO ⊢
    rw [show (doM m 3 t).1 = m from by unfold doM; rw [if_neg (by decide), if_pos hw]]
    have HA := Lib.hid ha
    clear hi hq h ha hw HL hf
    go_enter Try.func17, Try.ntmps17
    go_wp2_with fail
    refine HO.mono ?_
    rintro _ _ ⟨rfl, rfl⟩
    go_wp2
    go_ret
    exact ⟨rfl, HA.out, only_refl g w⟩

set_option maxHeartbeats 400000 in
theorem mend_any (w : World) (g : Nat) (m : Mx) (t : Int) (ha : AtM w g m) (hf : Fine m) :
    Calls Try.prog 15 #[.pointer (some ⟨g, 0, none⟩), .int .i64 t] w fun e w' => e = .returned (.int .i64 (doM m 4 t).2) ∧ AtM w' g (doM m 4 t).1 ∧ Only g w w' := by
  obtain ⟨b, o, s, h, hi, hq⟩ := at_open ha t
  have HO := refuse_any w g b o s t h _ hq
  by_cases hw : ownM m t
  · rw [decide_eq_true hw, if_pos rfl] at HO
    rw [show doM m 4 t = (mendM m, 0) from by unfold doM; rw [if_neg (by decide), if_neg (fun e => e hw), if_neg (by decide), if_neg (by decide), if_neg (by decide)]]
    have HI := Lib.hid (is_mend hi (own_sound hf hw))
    have R1 := Lib.hid (mq_state h 0)
    have R2 := Lib.hid (only_cell w g 2 (.int .i64 0))
    obtain ⟨h0, h1, h2⟩ := mq_cells h
    obtain ⟨f0, f1, f2⟩ := mq_free h
    clear hi hq h ha hw hf
    go_enter Try.func15, Try.ntmps15
    go_wp2_with fail
    refine HO.mono ?_
    rintro _ _ ⟨rfl, rfl⟩
    clear HO
    go_wp2
    go_ret
    exact ⟨rfl, ⟨_, _, _, R1.out, HI.out⟩, R2.out⟩
  · rw [decide_eq_false hw, if_neg (by decide)] at HO
    rw [show doM m 4 t = (m, 9) from by unfold doM; rw [if_neg (by decide), if_pos hw, if_neg (by decide)]]
    have HA := Lib.hid ha
    clear hi hq h ha hw hf
    go_enter Try.func15, Try.ntmps15
    go_wp2_with fail
    refine HO.mono ?_
    rintro _ _ ⟨rfl, rfl⟩
    clear HO
    go_wp2
    go_ret
    exact ⟨rfl, HA.out, only_refl g w⟩

set_option maxHeartbeats 400000 in
theorem unlock_any (w : World) (g : Nat) (m : Mx) (t : Int) (ha : AtM w g m) :
    Calls Try.prog 14 #[.pointer (some ⟨g, 0, none⟩), .int .i64 t] w fun e w' => e = .returned (.int .i64 (doM m 1 t).2) ∧ AtM w' g (doM m 1 t).1 ∧ Only g w w' := by
  obtain ⟨b, o, s, h, hi, hq⟩ := at_open ha t
  have HO := refuse_any w g b o s t h _ hq
  have HL := leave_any w g b o s h
  by_cases hw : ownM m t
  · rw [decide_eq_true hw, if_pos rfl] at HO
    rw [show doM m 1 t = (unlockM m, 0) from by unfold doM; rw [if_neg (by decide), if_neg (fun e => e hw), if_pos rfl]]
    clear hq h ha hw
    by_cases hs : s = 1
    · subst hs
      have HI := Lib.hid (is_ruin hi)
      clear hi
      go_enter Try.func14, Try.ntmps14
      go_wp2_with fail
      refine HO.mono ?_
      rintro _ _ ⟨rfl, rfl⟩
      go_wp2_with fail
      refine HL.mono ?_
      rintro _ w' ⟨rfl, r1, r2⟩
      have R1 := Lib.hid (mq_state r1 2)
      have R2 := Lib.hid (only_trans r2 (only_cell w' g 2 (.int .i64 2)))
      obtain ⟨h0, h1, h2⟩ := mq_cells r1
      obtain ⟨f0, f1, f2⟩ := mq_free r1
      clear r1 r2 HO HL
      go_wp2
      go_ret
      exact ⟨rfl, ⟨_, _, _, R1.out, HI.out⟩, R2.out⟩
    · have HI := Lib.hid (is_unlock hi hs)
      clear hi
      go_enter Try.func14, Try.ntmps14
      go_wp2_with fail
      refine HO.mono ?_
      rintro _ _ ⟨rfl, rfl⟩
      go_wp2_with fail
      refine HL.mono ?_
      rintro _ w' ⟨rfl, r1, r2⟩
      obtain ⟨h0, h1, h2⟩ := mq_cells r1
      have R1 := Lib.hid r1
      have R2 := Lib.hid r2
      have hb : (s == 1) = false := beq_eq_false_iff_ne.2 hs
      clear r1 r2 HO HL
      go_wp2
      go_ret
      exact ⟨rfl, ⟨_, _, _, R1.out, HI.out⟩, R2.out⟩
  · rw [decide_eq_false hw, if_neg (by decide)] at HO
    rw [show doM m 1 t = (m, 9) from by unfold doM; rw [if_neg (by decide), if_pos hw, if_neg (by decide)]]
    have HA := Lib.hid ha
    clear hi hq h ha hw HL
    go_enter Try.func14, Try.ntmps14
    go_wp2_with fail
    refine HO.mono ?_
    rintro _ _ ⟨rfl, rfl⟩
    clear HO
    go_wp2
    go_ret
    exact ⟨rfl, HA.out, only_refl g w⟩

set_option maxHeartbeats 400000 in
theorem lock_any (w : World) (g : Nat) (m : Mx) (t : Int) (ha : AtM w g m) (hf : Fine m) (ht : I64 t) :
    Calls Try.prog 13 #[.pointer (some ⟨g, 0, none⟩), .int .i64 t] w fun e w' => e = .returned (.int .i64 (lockM m t).2) ∧ AtM w' g (lockM m t).1 ∧ Only g w w' := by
  have HA := Lib.hid ha
  obtain ⟨b, o, s, h, hi, hq⟩ := at_open ha t
  have HO := owns_any w g b o s t h
  obtain ⟨h0, h1, h2⟩ := mq_cells h
  obtain ⟨f0, f1, f2⟩ := mq_free h
  have R1 := Lib.hid (mq_set h true t)
  have R2 := Lib.hid (only_trans (only_cell w g 0 (.bool true)) (only_cell _ g 1 (.int .i64 t)))
  clear h
  by_cases t0 : t < 0
  · rw [show lockM m t = (m, 1) from by unfold lockM; rw [if_pos t0]]
    clear hq hi HO h0 h1 h2 f0 f1 f2 R1 R2 hf
    go_enter Try.func13, Try.ntmps13
    go_wp2
    go_ret
    exact ⟨rfl, HA.out, only_refl g w⟩
  have t1 : decide (t < 0) = false := decide_eq_false t0
  by_cases hs : s = 2
  · have hl : m.lost = true := by rw [hi.lost]; exact decide_eq_true hs
    rw [show lockM m t = (m, 15) from by unfold lockM; rw [if_neg t0, if_pos hl]]
    subst hs
    clear hq hi HO h0 h1 f0 f1 f2 R1 R2 hf hl
    go_enter Try.func13, Try.ntmps13
    go_wp2
    go_ret
    exact ⟨rfl, HA.out, only_refl g w⟩
  have hl : ¬ m.lost = true := by rw [hi.lost]; simpa using hs
  have hs1 : (s == 2) = false := beq_eq_false_iff_ne.2 hs
  by_cases hw : ownM m t
  · rw [hq, decide_eq_true hw] at HO
    rw [show lockM m t = (m, 8) from by unfold lockM; rw [if_neg t0, if_neg hl, if_pos hw.2]]
    clear hq hi h0 h1 f0 f1 f2 R1 R2 hf hl hw
    go_enter Try.func13, Try.ntmps13
    go_wp2_with fail
    refine HO.mono ?_
    rintro _ _ ⟨rfl, rfl⟩
    clear HO
    go_wp2
    go_ret
    exact ⟨rfl, HA.out, only_refl g w⟩
  rw [hq, decide_eq_false hw] at HO
  have hw2 : ¬ m.o = t := fun e => hw ⟨by omega, e⟩
  have hn : (lockM m t) = if b = true then (m, 7) else ({ m with o := t }, 0) := by
    unfold lockM
    rw [if_neg t0, if_neg hl, if_neg hw2, hi.own]
    cases b
    · rw [if_neg (show ¬ (0 : Int) ≤ if false = true then o else -1 from by rw [if_neg (by decide)]; decide)]
      rfl
    · rw [if_pos (show (0 : Int) ≤ if true = true then o else -1 from by rw [if_pos rfl]; exact hi.pos rfl)]
      rfl
  rw [hn]
  have HI : Hid (Is { m with o := t } true t s) := Lib.hid ⟨rfl, fun _ => by omega, hi.bad, hi.lost⟩
  clear hq hi hf hl hw hn hw2
  cases b
  · rw [if_neg (by decide)]
    go_enter Try.func13, Try.ntmps13
    go_wp2_with fail
    refine HO.mono ?_
    rintro _ _ ⟨rfl, rfl⟩
    clear HO
    go_wp2
    go_ret
    exact ⟨rfl, ⟨_, _, _, R1.out, HI.out⟩, R2.out⟩
  · rw [if_pos rfl]
    go_enter Try.func13, Try.ntmps13
    go_wp2_with fail
    refine HO.mono ?_
    rintro _ _ ⟨rfl, rfl⟩
    clear HO
    go_wp2
    go_ret
    exact ⟨rfl, HA.out, only_refl g w⟩

set_option maxHeartbeats 400000 in
theorem owner_any (w : World) (g : Nat) (m : Mx) (ha : AtM w g m) :
    Calls Try.prog 9 #[.pointer (some ⟨g, 0, none⟩)] w fun e w' => e = .returned (.int .i64 m.o) ∧ Below w.heap.size w w' := by
  obtain ⟨b, o, s, h, hi⟩ := ha
  obtain ⟨h0, h1, h2⟩ := mq_cells h
  rw [hi.own]
  clear hi h
  cases b
  · rw [if_neg (by decide)]
    go_enter Try.func9, Try.ntmps9
    go_wp2
    go_ret
    exact ⟨rfl, Below.refl _ w⟩
  · rw [if_pos rfl]
    go_enter Try.func9, Try.ntmps9
    go_wp2
    go_ret
    exact ⟨rfl, Below.refl _ w⟩
set_option maxHeartbeats 400000 in
theorem bad_any (w : World) (g : Nat) (m : Mx) (ha : AtM w g m) :
    Calls Try.prog 10 #[.pointer (some ⟨g, 0, none⟩)] w fun e w' => e = .returned (.bool m.bad) ∧ Below w.heap.size w w' := by
  obtain ⟨b, o, s, h, hi⟩ := ha
  obtain ⟨h0, h1, h2⟩ := mq_cells h
  have hb : (s == 1) = m.bad := by rw [hi.bad]; rfl
  clear hi h
  go_enter Try.func10, Try.ntmps10
  go_wp2
  go_ret
  exact ⟨rfl, Below.refl _ w⟩
set_option maxHeartbeats 400000 in
theorem lost_any (w : World) (g : Nat) (m : Mx) (ha : AtM w g m) :
    Calls Try.prog 11 #[.pointer (some ⟨g, 0, none⟩)] w fun e w' => e = .returned (.bool m.lost) ∧ Below w.heap.size w w' := by
  obtain ⟨b, o, s, h, hi⟩ := ha
  obtain ⟨h0, h1, h2⟩ := mq_cells h
  have hb : (s == 2) = m.lost := by rw [hi.lost]; rfl
  clear hi h
  go_enter Try.func11, Try.ntmps11
  go_wp2
  go_ret
  exact ⟨rfl, Below.refl _ w⟩

theorem owner_nil (w : World) : Calls Try.prog 9 #[.pointer none] w fun e w' => e = .returned (.int .i64 (-1)) ∧ Below w.heap.size w w' := by
  go_enter Try.func9, Try.ntmps9
  go_wp2
  go_ret
  exact ⟨rfl, Below.refl _ w⟩
theorem bad_nil (w : World) : Calls Try.prog 10 #[.pointer none] w fun e w' => e = .returned (.bool false) ∧ Below w.heap.size w w' := by
  go_enter Try.func10, Try.ntmps10
  go_wp2
  go_ret
  exact ⟨rfl, Below.refl _ w⟩
theorem lost_nil (w : World) : Calls Try.prog 11 #[.pointer none] w fun e w' => e = .returned (.bool false) ∧ Below w.heap.size w w' := by
  go_enter Try.func11, Try.ntmps11
  go_wp2
  go_ret
  exact ⟨rfl, Below.refl _ w⟩
theorem lock_nil (w : World) (t : Int) : Calls Try.prog 13 #[.pointer none, .int .i64 t] w fun e w' => e = .returned (.int .i64 1) ∧ Below w.heap.size w w' := by
  go_enter Try.func13, Try.ntmps13
  go_wp2
  go_ret
  exact ⟨rfl, Below.refl _ w⟩
theorem unlock_nil (w : World) (t : Int) : Calls Try.prog 14 #[.pointer none, .int .i64 t] w fun e w' => e = .returned (.int .i64 1) ∧ Below w.heap.size w w' := by
  go_enter Try.func14, Try.ntmps14
  go_wp2_with fail
  refine (refuse_nil w t).mono ?_
  rintro _ _ ⟨rfl, rfl⟩
  go_wp2
  go_ret
  exact ⟨rfl, Below.refl _ w⟩
theorem mend_nil (w : World) (t : Int) : Calls Try.prog 15 #[.pointer none, .int .i64 t] w fun e w' => e = .returned (.int .i64 1) ∧ Below w.heap.size w w' := by
  go_enter Try.func15, Try.ntmps15
  go_wp2_with fail
  refine (refuse_nil w t).mono ?_
  rintro _ _ ⟨rfl, rfl⟩
  go_wp2
  go_ret
  exact ⟨rfl, Below.refl _ w⟩
theorem free_nil (w : World) (t : Int) : Calls Try.prog 16 #[.pointer none, .int .i64 t] w fun e w' => e = .returned (.bool false) ∧ Below w.heap.size w w' := by
  go_enter Try.func16, Try.ntmps16
  go_wp2_with fail
  refine (owns_nil w t).mono ?_
  rintro _ _ ⟨rfl, rfl⟩
  go_wp2
  go_ret
  exact ⟨rfl, Below.refl _ w⟩
theorem die_nil (w : World) (t : Int) : Calls Try.prog 17 #[.pointer none, .int .i64 t] w fun e w' => e = .returned (.bool false) ∧ Below w.heap.size w w' := by
  go_enter Try.func17, Try.ntmps17
  go_wp2_with fail
  refine (owns_nil w t).mono ?_
  rintro _ _ ⟨rfl, rfl⟩
  go_wp2
  go_ret
  exact ⟨rfl, Below.refl _ w⟩
theorem keeps : Keeps AtM where
  loc := fun w w' g m ⟨b, o, s, h, hi⟩ hb _ => ⟨b, o, s, hb.trans h, hi⟩
  lt := fun w g m ⟨b, o, s, h, hi⟩ => lt_of_block h
  new := fun w => ⟨false, 0, 0, mq_new w, ⟨rfl, fun e => (by cases e), rfl, rfl⟩⟩
  lock := fun w g m t ha hf ht => lock_any w g m t ha hf ht
  unlock := fun w g m t ha _ _ => unlock_any w g m t ha
  free := fun w g m t ha _ _ => free_any w g m t ha
  die := fun w g m t ha hf _ => die_any w g m t ha hf
  mend := fun w g m t ha hf _ => mend_any w g m t ha hf
  owner := fun w g m ha _ => owner_any w g m ha
  bad := fun w g m ha _ => bad_any w g m ha
  lost := fun w g m ha _ => lost_any w g m ha
  nlock := fun w t _ => lock_nil w t
  nunlock := fun w t _ => unlock_nil w t
  nmend := fun w t _ => mend_nil w t
  nfree := fun w t _ => free_nil w t
  ndie := fun w t _ => die_nil w t
  nowner := owner_nil
  nbad := bad_nil
  nlost := lost_nil
end Go.Proofs.Ytelpkfldmgeaiaa.mut
