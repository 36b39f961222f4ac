/-
  The document's own mutex. No condition. Printed by tools/mkmu.py.
-/
import Derived.Test.YtelpkfldmgeaiaaProg
import Derived.Test.YtelpkfldmgeaiaaMuPlain
import Derived.WalkKit
import Derived.ProofKit
import Derived.WalkSpells
import Derived.Below
import Derived.Lib.Hide
namespace Go.Proofs.Ytelpkfldmgeaiaa.mut
open Go.RowKit Go.ChangeShapes
set_option linter.unusedVariables false
set_option linter.unusedSimpArgs false

def mxV (m : Mx) : Value := .agg #[.int .i64 m.o, .bool m.bad, .bool m.lost]
def mxO (m : Mx) : Obj := .cells #[.int .i64 m.o, .bool m.bad, .bool m.lost] 28
theorem mx_cells {W : World} {g : Nat} {m : Mx} (h : W.heap[g]? = some (mxO m)) : W.cell? ⟨g, 0, none⟩ = some (.int .i64 m.o) ∧ W.cell? ⟨g, 1, none⟩ = some (.bool m.bad) ∧ W.cell? ⟨g, 2, none⟩ = some (.bool m.lost) := by
  simp [World.cell?, h, mxO]
theorem two_new (w : World) (x y : Obj) : ((w.alloc x).alloc y).heap[w.heap.size + 1]? = some y ∧ Below w.heap.size w ((w.alloc x).alloc y) := by
  have h := heap_alloc_new (w.alloc x) y
  rw [World.size_alloc] at h
  exact ⟨h, ((Below.refl _ w).alloc (Nat.le_refl _) _).alloc (by rw [World.size_alloc]; omega) _⟩
/-- What a call answers that makes a mutex. -/
def MxPost (m : Mx) (w : World) (e : Ending) (w' : World) : Prop := e = .returned (mxV m) ∧ Below w.heap.size w w'
def MxPost2 (q : Mx × Int) (w : World) (e : Ending) (w' : World) : Prop := e = .returned (.tuple #[mxV q.1, .int .i64 q.2]) ∧ Below w.heap.size w w'
theorem ret_unlock {W w : World} {act : Act} {m : Mx} (h2 : act.tmps[2]?.getD undef = .pointer (some ⟨w.heap.size + 1, 0, none⟩)) (hd : act.defers = []) (hE : W.heap[w.heap.size + 1]? = some (mxO m)) (hb : Below w.heap.size w W) :
    bodyPost Try.prog Try.f20 (MxPost m w) .ret act W := by
  obtain ⟨x0, x1, x2⟩ := mx_cells hE
  refine bodyPost_ret (v := mxV m) ?_ hd ⟨rfl, hb⟩
  simp [results, Try.results20, go_sem, h2, x0, x1, x2, mxV]
theorem ret_free {W w : World} {act : Act} {m : Mx} (h2 : act.tmps[2]?.getD undef = .pointer (some ⟨w.heap.size + 1, 0, none⟩)) (hd : act.defers = []) (hE : W.heap[w.heap.size + 1]? = some (mxO m)) (hb : Below w.heap.size w W) :
    bodyPost Try.prog Try.f21 (MxPost m w) .ret act W := by
  obtain ⟨x0, x1, x2⟩ := mx_cells hE
  refine bodyPost_ret (v := mxV m) ?_ hd ⟨rfl, hb⟩
  simp [results, Try.results21, go_sem, h2, x0, x1, x2, mxV]
theorem ret_die {W w : World} {act : Act} {m : Mx} (h2 : act.tmps[2]?.getD undef = .pointer (some ⟨w.heap.size + 1, 0, none⟩)) (hd : act.defers = []) (hE : W.heap[w.heap.size + 1]? = some (mxO m)) (hb : Below w.heap.size w W) :
    bodyPost Try.prog Try.f22 (MxPost m w) .ret act W := by
  obtain ⟨x0, x1, x2⟩ := mx_cells hE
  refine bodyPost_ret (v := mxV m) ?_ hd ⟨rfl, hb⟩
  simp [results, Try.results22, go_sem, h2, x0, x1, x2, mxV]
theorem ret_mend {W w : World} {act : Act} {m : Mx} (h2 : act.tmps[2]?.getD undef = .pointer (some ⟨w.heap.size + 1, 0, none⟩)) (hd : act.defers = []) (hE : W.heap[w.heap.size + 1]? = some (mxO m)) (hb : Below w.heap.size w W) :
    bodyPost Try.prog Try.f23 (MxPost m w) .ret act W := by
  obtain ⟨x0, x1, x2⟩ := mx_cells hE
  refine bodyPost_ret (v := mxV m) ?_ hd ⟨rfl, hb⟩
  simp [results, Try.results23, go_sem, h2, x0, x1, x2, mxV]
set_option maxHeartbeats 1000000 in
theorem refFree16_any (m : Mx) (w : World) : Calls Try.prog 21 #[mxV m] w (MxPost (freeM m) w) := by
  obtain ⟨o, b, l⟩ := m
  obtain ⟨q, hq⟩ : ∃ q, q = freeM ⟨o, b, l⟩ := ⟨_, rfl⟩
  rw [← hq]
  unfold freeM at hq
  subst hq
  unfold mxV
  go_enter Try.func21, Try.ntmps21
  go_wp2
  have h := two_new w (mxO ⟨-1, b, l⟩) (mxO ⟨-1, b, l⟩)
  exact ret_free (m := ⟨-1, b, l⟩) rfl rfl h.1 h.2
set_option maxHeartbeats 1000000 in
theorem refDie16_any (m : Mx) (w : World) : Calls Try.prog 22 #[mxV m] w (MxPost (dieM m) w) := by
  obtain ⟨o, b, l⟩ := m
  obtain ⟨q, hq⟩ : ∃ q, q = dieM ⟨o, b, l⟩ := ⟨_, rfl⟩
  rw [← hq]
  unfold dieM at hq
  subst hq
  unfold mxV
  go_enter Try.func22, Try.ntmps22
  go_wp2
  have h := two_new w (mxO ⟨-1, true, l⟩) (mxO ⟨-1, true, l⟩)
  exact ret_die (m := ⟨-1, true, l⟩) rfl rfl h.1 h.2
set_option maxHeartbeats 1000000 in
theorem refMend16_any (m : Mx) (w : World) : Calls Try.prog 23 #[mxV m] w (MxPost (mendM m) w) := by
  obtain ⟨o, b, l⟩ := m
  obtain ⟨q, hq⟩ : ∃ q, q = mendM ⟨o, b, l⟩ := ⟨_, rfl⟩
  rw [← hq]
  unfold mendM at hq
  subst hq
  unfold mxV
  go_enter Try.func23, Try.ntmps23
  go_wp2
  have h := two_new w (mxO ⟨o, false, l⟩) (mxO ⟨o, false, l⟩)
  exact ret_mend (m := ⟨o, false, l⟩) rfl rfl h.1 h.2
set_option maxHeartbeats 1000000 in
theorem refUnlock16_any (m : Mx) (w : World) : Calls Try.prog 20 #[mxV m] w (MxPost (unlockM m) w) := by
  obtain ⟨o, b, l⟩ := m
  obtain ⟨q, hq⟩ : ∃ q, q = unlockM ⟨o, b, l⟩ := ⟨_, rfl⟩
  rw [← hq]
  unfold unlockM at hq
  cases b with
  | true =>
    subst hq
    unfold mxV
    go_enter Try.func20, Try.ntmps20
    go_wp2
    have h := two_new w (mxO ⟨o, true, l⟩) (mxO ⟨-1, false, true⟩)
    exact ret_unlock (m := ⟨-1, false, true⟩) rfl rfl h.1 h.2
  | false =>
    subst hq
    unfold mxV
    go_enter Try.func20, Try.ntmps20
    go_wp2
    have h := two_new w (mxO ⟨o, false, l⟩) (mxO ⟨-1, false, l⟩)
    exact ret_unlock (m := ⟨-1, false, l⟩) rfl rfl h.1 h.2
set_option maxHeartbeats 1000000 in
theorem refOwn16_any (m : Mx) (t : Int) (w : World) : Calls Try.prog 19 #[mxV m, .int .i64 t] w fun e w' => e = .returned (.bool (decide (ownM m t))) ∧ Below w.heap.size w w' := by
  obtain ⟨o, b, l⟩ := m
  obtain ⟨r, hr⟩ : ∃ r, r = decide (ownM ⟨o, b, l⟩ t) := ⟨_, rfl⟩
  rw [← hr]
  unfold mxV
  have HB := Lib.hid ((Below.refl w.heap.size w).alloc (Nat.le_refl _) (mxO ⟨o, b, l⟩))
  unfold mxO at HB
  by_cases h0 : 0 ≤ t
  · have q0 : decide (t ≥ 0) = true := decide_eq_true h0
    by_cases h1 : o = t
    · rw [decide_eq_true (show ownM ⟨o, b, l⟩ t from ⟨h0, h1⟩)] at hr
      subst hr h1
      have q1 : (o == o) = true := by simp
      clear h0
      go_enter Try.func19, Try.ntmps19
      go_wp2
      go_ret
      exact ⟨rfl, HB.out⟩
    · rw [decide_eq_false (show ¬ ownM ⟨o, b, l⟩ t from fun h => h1 h.2)] at hr
      subst hr
      have q1 : (o == t) = false := by simpa using h1
      clear h0 h1
      go_enter Try.func19, Try.ntmps19
      go_wp2
      go_ret
      exact ⟨rfl, HB.out⟩
  · have q0 : decide (t ≥ 0) = false := decide_eq_false h0
    rw [decide_eq_false (show ¬ ownM ⟨o, b, l⟩ t from fun h => h0 h.1)] at hr
    subst hr
    clear h0
    go_enter Try.func19, Try.ntmps19
    go_wp2
    go_ret
    exact ⟨rfl, HB.out⟩
theorem ret_lock {W w : World} {act : Act} {m : Mx} {k : Int} (h4 : act.tmps[4]?.getD undef = .pointer (some ⟨w.heap.size + 1, 0, none⟩)) (h5 : act.tmps[5]?.getD undef = .int .i64 k) (hd : act.defers = []) (hE : W.heap[w.heap.size + 1]? = some (mxO m)) (hb : Below w.heap.size w W) :
    bodyPost Try.prog Try.f18 (MxPost2 (m, k) w) .ret act W := by
  obtain ⟨x0, x1, x2⟩ := mx_cells hE
  refine bodyPost_ret (v := .tuple #[mxV m, .int .i64 k]) ?_ hd ⟨rfl, hb⟩
  simp [results, Try.results18, go_sem, h4, h5, x0, x1, x2, mxV]
set_option maxHeartbeats 2000000 in
theorem refLock16_any (m : Mx) (t : Int) (w : World) : Calls Try.prog 18 #[mxV m, .int .i64 t] w (MxPost2 (lockM m t) w) := by
  obtain ⟨o, b, l⟩ := m
  obtain ⟨r, hr⟩ : ∃ r, r = lockM ⟨o, b, l⟩ t := ⟨_, rfl⟩
  rw [← hr]
  unfold lockM at hr
  dsimp only at hr
  unfold mxV
  by_cases h0 : t < 0
  · have q0 : decide (t < 0) = true := decide_eq_true h0
    rw [if_pos h0] at hr
    clear h0
    subst hr
    go_enter Try.func18, Try.ntmps18
    go_wp2
    have h := two_new w (mxO ⟨o, b, l⟩) (mxO ⟨o, b, l⟩)
    exact ret_lock (m := ⟨o, b, l⟩) (k := 1) rfl rfl rfl h.1 h.2
  have q0 : decide (t < 0) = false := decide_eq_false h0
  rw [if_neg h0] at hr
  cases l with
  | true =>
    rw [if_pos rfl] at hr
    clear h0
    subst hr
    go_enter Try.func18, Try.ntmps18
    go_wp2
    have h := two_new w (mxO ⟨o, b, true⟩) (mxO ⟨o, b, true⟩)
    exact ret_lock (m := ⟨o, b, true⟩) (k := 15) rfl rfl rfl h.1 h.2
  | false =>
    rw [if_neg (by decide)] at hr
    by_cases h1 : o = t
    · rw [if_pos h1] at hr
      subst h1
      have q1 : (o == o) = true := by simp
      clear h0
      subst hr
      go_enter Try.func18, Try.ntmps18
      go_wp2
      have h := two_new w (mxO ⟨o, b, false⟩) (mxO ⟨o, b, false⟩)
      exact ret_lock (m := ⟨o, b, false⟩) (k := 8) rfl rfl rfl h.1 h.2
    · rw [if_neg h1] at hr
      have q1 : (o == t) = false := by simpa using h1
      by_cases h2 : 0 ≤ o
      · rw [if_pos h2] at hr
        have q2 : decide (o ≥ 0) = true := decide_eq_true h2
        clear h0 h1 h2
        subst hr
        go_enter Try.func18, Try.ntmps18
        go_wp2
        have h := two_new w (mxO ⟨o, b, false⟩) (mxO ⟨o, b, false⟩)
        exact ret_lock (m := ⟨o, b, false⟩) (k := 7) rfl rfl rfl h.1 h.2
      · rw [if_neg h2] at hr
        have q2 : decide (o ≥ 0) = false := decide_eq_false h2
        clear h0 h1 h2
        subst hr
        go_enter Try.func18, Try.ntmps18
        go_wp2
        have h := two_new w (mxO ⟨t, b, false⟩) (mxO ⟨t, b, false⟩)
        exact ret_lock (m := ⟨t, b, false⟩) (k := 0) rfl rfl rfl h.1 h.2
theorem ret_do16 {W w : World} {act : Act} {m : Mx} {k : Int} {g : Nat} (h4 : act.tmps[4]?.getD undef = .pointer (some ⟨g, 0, none⟩)) (h5 : act.tmps[5]?.getD undef = .int .i64 k) (hd : act.defers = []) (hE : W.heap[g]? = some (mxO m)) (hb : Below w.heap.size w W) :
    bodyPost Try.prog Try.f7 (MxPost2 (m, k) w) .ret act W := by
  obtain ⟨x0, x1, x2⟩ := mx_cells hE
  refine bodyPost_ret (v := .tuple #[mxV m, .int .i64 k]) ?_ hd ⟨rfl, hb⟩
  simp [results, Try.results7, go_sem, h4, h5, x0, x1, x2, mxV]
end Go.Proofs.Ytelpkfldmgeaiaa.mut
