/-
  The program's own calls of a pool (typed over the code of d155c62). No condition. Printed by tools/mkpokeep.py.
-/
import Derived.Test.YthdencddocgbjaaPoSpec
import Derived.BigQuiet
import Derived.ChangeKeysEq
namespace Go.Proofs.Ythdencddocgbjaa.pol
open Go.RowKit Go.ChangeShapes
open Go.Proofs.Ythdencddocgbjaa.obj
set_option linter.unusedVariables false
set_option linter.unusedSimpArgs false

def py (p : Px) : Py := ⟨p.total, freeP p, p.h⟩
/-- A pool as the program keeps it. -/
def AtM (w : World) (g : Nat) (p : Px) : Prop := w.heap[g]? = some (pyO (py p))
theorem only_refl (g : Nat) (w : World) : Only g w w := ⟨rfl, rfl, rfl, Nat.le_refl _, fun _ _ _ => rfl⟩
theorem only_drewN (g : Nat) (w : World) (n : Nat) : Only g w (w.drewN n) := ⟨rfl, rfl, rfl, Nat.le_refl _, fun _ _ _ => rfl⟩
theorem only_cell (w : World) (g i : Nat) (v : Value) : Only g w (w.setCell ⟨g, i, none⟩ v) :=
  ⟨rfl, rfl, rfl, by show w.heap.size ≤ (w.heap.modify _ _).size; rw [Array.size_modify]; exact Nat.le_refl _, fun k _ hk => by simp [World.setCell, Array.getElem?_modify, Ne.symm hk]⟩
theorem free_set {p : Px} (hf : Fine p) {t : Nat} (ht : t < 64) (v : Int) : freeP ⟨p.total, p.h.set t v⟩ = freeP p + p.h.getD t 0 - v := by
  unfold freeP
  dsimp only
  rw [sumH_set _ _ _ (by rw [hf.len]; exact ht)]
  omega
theorem py_move {p : Px} (hf : Fine p) {t : Nat} (ht : t < 64) (n : Int) : (⟨p.total, freeP p - n, p.h.set t (p.h.getD t 0 + n)⟩ : Py) = py (setP p (t : Int) (hv p.h (t : Int) + n)) := by
  have h1 : hv p.h (t : Int) = p.h.getD t 0 := hv_in (by omega) (by omega)
  have h2 := free_set hf ht (p.h.getD t 0 + n)
  rw [h1, set_in (by omega) (by omega), Int.toNat_natCast]
  unfold py
  rw [h2]
  congr 1
  omega
theorem run_idx (w : World) (h : List Int) (k : Nat) (hk : k < 64) : (Instr.index 49 (.agg (hasC h).toArray) (.int .i64 (k : Int))).run Try.prog w = .ok (.int .i64 (h.getD k 0)) w := by
  have h1 : (part 3 (hasC h).toArray k).run Try.prog w = .ok (.int .i64 (h.getD k 0)) w := run_part_plain w (by kernel_rfl) (by rw [List.getElem?_toArray]; exact hasC_at h hk)
  have hs : (sizeOf 3).run Try.prog w = .ok 1 w := by kernel_rfl
  have hr : (0 : Int) ≤ (k : Int) ∧ (k : Int) < 64 := by omega
  have hr2 : (k : Int) < ((64 : Nat) : Int) := by omega
  unfold Instr.index
  simp only [asIntOf, Sem.run_bind, Sem.run_pure, Result.andThen_ok, run_underlying Try.underlying49, if_pos (And.intro hr.1 hr2), hs, Int.toNat_natCast, Nat.mul_one, h1]
theorem wpy_idx {ops : Array Oper} {rest : List Oper} {o : Oper} {a : Act} {w : World} {Q : Exit → Act → World → Prop} (hgd : o.guard = none) (x y : Operand) (ho : o.op = .index 49 x y) (hs : List Int) (k : Nat) (hx : a.eval x = .agg (hasC hs).toArray) (hy : a.eval y = .int .i64 (k : Int)) (hk : k < 64) (z : Int) (hz : hs.getD k 0 = z)
    (h : wpList Try.prog ops Q rest (a.put o.dst (.int .i64 z)) w) : wpList Try.prog ops Q (o :: rest) a w := by
  subst hz
  refine Go.Great.wpList_runTo hgd o.dst rfl _ _ ?_ h
  unfold execOp
  simp only [ho, hx, hy, Sem.run_bind, run_idx w hs k hk, Sem.run_pure, Result.andThen_ok]

set_option maxHeartbeats 400000 in
theorem new_any (total : Int) (w : World) (ht : I64 total) : Calls Try.prog 7 #[.int .i64 total] w fun e w' => ∃ g, e = .returned (.pointer (some ⟨g, 0, none⟩)) ∧ w.heap.size ≤ g ∧ AtM w' g (newP total) ∧ Below w.heap.size w w' := by
  have HR : ∀ x, x = min (max total 0) 1000 → Hid (AtM (w.alloc (pyO ⟨x, x, zeros⟩)) w.heap.size (newP total) ∧ Below w.heap.size w (w.alloc (pyO ⟨x, x, zeros⟩))) := fun x hx => Lib.hid (by
    refine ⟨?_, (Below.refl _ w).alloc (Nat.le_refl _) _⟩
    unfold AtM py freeP newP
    dsimp only
    rw [zeros_sum, Int.sub_zero, ← hx]
    exact heap_alloc_new w _)
  go_enter Try.func7, Try.ntmps7
  go_wp2_with (first | refine wpy_build rfl _ _ rfl _ _ rfl rfl ?_ | refine wpy_box rfl _ rfl _ rfl ?_)
  all_goals
    go_ret
    exact ⟨_, rfl, Nat.le_refl _, (HR _ (by omega)).out⟩

theorem total_any (w : World) (g : Nat) (p : Px) (ha : AtM w g p) : Calls Try.prog 9 #[.pointer (some ⟨g, 0, none⟩)] w fun e w' => e = .returned (.int .i64 p.total) ∧ w = w' := by
  obtain ⟨h0, h1⟩ := py_cells ha
  clear ha
  unfold py at h0 h1
  dsimp only at h0 h1
  go_enter Try.func9, Try.ntmps9
  go_wp2
  go_ret
  exact ⟨rfl, rfl⟩
theorem total_nil (w : World) : Calls Try.prog 9 #[.pointer none] w fun e w' => e = .returned (.int .i64 0) ∧ w = w' := by
  go_enter Try.func9, Try.ntmps9
  go_wp2
  go_ret
  exact ⟨rfl, rfl⟩
theorem free_any (w : World) (g : Nat) (p : Px) (ha : AtM w g p) : Calls Try.prog 14 #[.pointer (some ⟨g, 0, none⟩)] w fun e w' => e = .returned (.int .i64 (freeP p)) ∧ w = w' := by
  obtain ⟨h0, h1⟩ := py_cells ha
  clear ha
  unfold py at h0 h1
  dsimp only at h0 h1
  go_enter Try.func14, Try.ntmps14
  go_wp2
  go_ret
  exact ⟨rfl, rfl⟩
theorem free_nil (w : World) : Calls Try.prog 14 #[.pointer none] w fun e w' => e = .returned (.int .i64 0) ∧ w = w' := by
  go_enter Try.func14, Try.ntmps14
  go_wp2
  go_ret
  exact ⟨rfl, rfl⟩
theorem takes_any (w : World) (g : Nat) (t : Int) : Calls Try.prog 24 #[.pointer (some ⟨g, 0, none⟩), .int .i64 t] w fun e w' => e = .returned (.bool (decide (0 ≤ t ∧ t < 64))) ∧ w = w' := by
  by_cases h0 : 0 ≤ t
  · by_cases h1 : t < 64
    · rw [decide_eq_true (show 0 ≤ t ∧ t < 64 from ⟨h0, h1⟩)]
      have d0 : decide (t ≥ 0) = true := decide_eq_true h0
      have d2 : decide (0 ≤ t) = true := decide_eq_true h0
      have d1 : decide (t < 64) = true := decide_eq_true h1
      clear h0 h1
      go_enter Try.func24, Try.ntmps24
      go_wp2
      go_ret
      exact ⟨rfl, rfl⟩
    · rw [decide_eq_false (show ¬ (0 ≤ t ∧ t < 64) from fun e => h1 e.2)]
      have d0 : decide (t ≥ 0) = true := decide_eq_true h0
      have d2 : decide (0 ≤ t) = true := decide_eq_true h0
      have d1 : decide (t < 64) = false := decide_eq_false h1
      clear h0
      go_enter Try.func24, Try.ntmps24
      go_wp2
      go_ret
      exact ⟨rfl, rfl⟩
  · rw [decide_eq_false (show ¬ (0 ≤ t ∧ t < 64) from fun e => h0 e.1)]
    have d0 : decide (t ≥ 0) = false := decide_eq_false h0
    have d2 : decide (0 ≤ t) = false := decide_eq_false h0
    go_enter Try.func24, Try.ntmps24
    go_wp2
    go_ret
    exact ⟨rfl, rfl⟩
theorem takes_nil (w : World) (t : Int) : Calls Try.prog 24 #[.pointer none, .int .i64 t] w fun e w' => e = .returned (.bool false) ∧ w = w' := by
  go_enter Try.func24, Try.ntmps24
  go_wp2
  go_ret
  exact ⟨rfl, rfl⟩
theorem held_any (w : World) (g : Nat) (p : Px) (t : Int) (ha : AtM w g p) : Calls Try.prog 16 #[.pointer (some ⟨g, 0, none⟩), .int .i64 t] w fun e w' => e = .returned (.int .i64 (hv p.h t)) ∧ w = w' := by
  have HT := takes_any w g t
  by_cases ht : 0 ≤ t ∧ t < 64
  · rw [decide_eq_true ht] at HT
    obtain ⟨k, rfl⟩ : ∃ k : Nat, t = (k : Int) := ⟨t.toNat, by omega⟩
    rw [hv_in ht.1 ht.2, Int.toNat_natCast]
    have hk : k < 64 := by omega
    have c := py_has ha hk
    have k1 : (0 : Int) ≤ (k : Int) := by omega
    have k2 : (k : Int) < 64 := by omega
    unfold py at c
    dsimp only at c
    clear ha ht hk
    go_enter Try.func16, Try.ntmps16
    go_wp2_with (refine HT.mono ?_; rintro _ _ ⟨rfl, rfl⟩)
    go_ret
    exact ⟨rfl, rfl⟩
  · rw [decide_eq_false ht] at HT
    rw [hv_out (by omega)]
    clear ha ht
    go_enter Try.func16, Try.ntmps16
    go_wp2_with (refine HT.mono ?_; rintro _ _ ⟨rfl, rfl⟩)
    go_ret
    exact ⟨rfl, rfl⟩
theorem held_nil (w : World) (t : Int) : Calls Try.prog 16 #[.pointer none, .int .i64 t] w fun e w' => e = .returned (.int .i64 0) ∧ w = w' := by
  have HT := takes_nil w t
  go_enter Try.func16, Try.ntmps16
  go_wp2_with (refine HT.mono ?_; rintro _ _ ⟨rfl, rfl⟩)
  go_ret
  exact ⟨rfl, rfl⟩
set_option maxHeartbeats 1000000 in
theorem move_any (w : World) (g : Nat) (m : Py) (t : Nat) (n y : Int) (h : w.heap[g]? = some (pyO m)) (hy : m.h.getD t 0 = y) (hl : m.h.length = 64) (ht : t < 64) (hf : I64 (m.f - n)) (hh : I64 (y + n)) :
    Calls Try.prog 25 #[.pointer (some ⟨g, 0, none⟩), .int .i64 (t : Int), .int .i64 n] w fun e w' => e = .returned (.tuple #[]) ∧ w'.heap[g]? = some (pyO ⟨m.t, m.f - n, m.h.set t (y + n)⟩) ∧ Only g w w' := by
  obtain ⟨x0, x1⟩ := py_cells h
  have f1 := py_free h 1
  have hB := py_setf h (m.f - n)
  have hO := only_cell w g 1 (.int .i64 (m.f - n))
  have hw1 : IntKind.i64.wrap (m.f - n) = m.f - n := by unfold I64 at hf; rw [IntKind.wrap_i64]; omega
  have hw2 : wrap64 (m.f - n) = m.f - n := by unfold I64 at hf; unfold wrap64; omega
  have hw3 : IntKind.i64.wrap (y + n) = y + n := by unfold I64 at hh; rw [IntKind.wrap_i64]; omega
  have hw4 : wrap64 (y + n) = y + n := by unfold I64 at hh; unfold wrap64; omega
  have HB := Lib.hid hB
  have HO := Lib.hid hO
  have HL := Lib.hid hl
  have HT := Lib.hid ht
  have HY := Lib.hid hy
  have k1 : (0 : Int) ≤ (t : Int) := by omega
  have k2 : (t : Int) < 64 := by omega
  clear h hB hO hl ht hf hh hy
  go_enter Try.func25, Try.ntmps25
  go_upto_region 1 with fail
  generalize w.setCell ⟨g, 1, none⟩ (.int .i64 (m.f - n)) = W1 at *
  have c := py_has HB.out HT.out
  have f2 := py_free HB.out (2 + t)
  have HS := Lib.hid (py_seth HB.out HL.out t (y + n))
  have HC := Lib.hid (HO.out.trans (only_cell W1 g (2 + t) (.int .i64 (y + n))))
  dsimp only at c HS
  rw [HY.out] at c
  clear HB HO x0 x1 f1
  go_still_tail 11, (by kernel_rfl)
  go_wp2
  go_end0
  exact ⟨rfl, HS.out, HC.out.trans (only_drewN g _ 1)⟩
theorem move_at (w : World) (g : Nat) (p : Px) (k : Nat) (n x : Int) (ha : AtM w g p) (hf : Fine p) (hk : k < 64) (hn : -1000 ≤ n ∧ n ≤ 1000) (hx : hv p.h (k : Int) + n = x) :
    Calls Try.prog 25 #[.pointer (some ⟨g, 0, none⟩), .int .i64 (k : Int), .int .i64 n] w fun e w' => e = .returned (.tuple #[]) ∧ AtM w' g (setP p (k : Int) x) ∧ Only g w w' := by
  have h1 : hv p.h (k : Int) = p.h.getD k 0 := hv_in (by omega) (by omega)
  have h2 := hv_nonneg hf (k : Int)
  have h3 := hv_le hf (k : Int)
  have h4 := hf.sum
  have h5 := hf.t1
  have h6 := sum_nonneg hf
  have e := py_move hf hk n
  rw [← hx]
  refine (move_any w g (py p) k n (p.h.getD k 0) ha rfl hf.len hk (by unfold I64 py freeP; dsimp only; omega) (by unfold I64; omega)).mono fun _ w' h => ?_
  refine ⟨h.1, ?_, h.2.2⟩
  unfold AtM
  rw [← e]
  exact h.2.1
theorem set_same {p : Px} (hf : Fine p) (t : Int) (h : hv p.h t = 0) : setP p t 0 = p := by
  by_cases hi : 0 ≤ t ∧ t < 64
  · rw [set_in hi.1 hi.2]
    rw [hv_in hi.1 hi.2] at h
    have hl := hf.len
    have e : p.h.set t.toNat 0 = p.h := by
      apply List.ext_getElem?
      intro j
      by_cases hj : t.toNat = j
      · subst hj
        rw [List.getElem?_set_self (by omega)]
        rw [List.getD_eq_getElem?_getD] at h
        rw [List.getElem?_eq_getElem (by omega)] at h ⊢
        exact congrArg some h.symm
      · rw [List.getElem?_set_ne hj]
    rw [e]
  · exact set_out (by omega)
set_option maxHeartbeats 1000000 in
theorem take_any (w : World) (g : Nat) (p : Px) (t n : Int) (ha : AtM w g p) (hf : Fine p) :
    Calls Try.prog 20 #[.pointer (some ⟨g, 0, none⟩), .int .i64 t, .int .i64 n] w fun e w' => e = .returned (.bool (decide ((doP p 0 t n).2 = 1))) ∧ AtM w' g (doP p 0 t n).1 ∧ Only g w w' := by
  have HT := takes_any w g t
  have HA := Lib.hid ha
  obtain ⟨q, hq⟩ : ∃ q, q = doP p 0 t n := ⟨_, rfl⟩
  rw [← hq]
  by_cases ht : 0 ≤ t ∧ t < 64
  · rw [decide_eq_true ht] at HT
    by_cases h0 : n < 1
    · rw [do_yes0 (.inr (.inr (.inl h0)))] at hq
      subst hq
      dsimp only
      have d0 : decide (n < 1) = true := decide_eq_true h0
      clear ha hf ht h0
      rw [show decide ((0 : Int) = 1) = false by decide]
      go_enter Try.func20, Try.ntmps20
      go_wp2_with (refine HT.mono ?_; rintro _ _ ⟨rfl, rfl⟩)
      go_ret
      exact ⟨rfl, HA.out, only_refl g w⟩
    · have d0 : decide (n < 1) = false := decide_eq_false h0
      obtain ⟨i, rfl⟩ : ∃ i : Nat, t = (i : Int) := ⟨t.toNat, by omega⟩
      have hi : i < 64 := by omega
      obtain ⟨x0, x1⟩ := py_cells ha
      unfold py at x0 x1
      dsimp only at x0 x1
      by_cases h1 : freeP p < n
      · rw [do_yes0 (.inr (.inr (.inr h1)))] at hq
        subst hq
        dsimp only
        have d1 : decide (n > freeP p) = true := decide_eq_true h1
        have d2 : decide (freeP p < n) = true := decide_eq_true h1
        clear ha hf ht h0 h1
        generalize freeP p = fr at *
        rw [show decide ((0 : Int) = 1) = false by decide]
        go_enter Try.func20, Try.ntmps20
        go_wp2_with (refine HT.mono ?_; rintro _ _ ⟨rfl, rfl⟩)
        go_ret
        exact ⟨rfl, HA.out, only_refl g w⟩
      · rw [do_no0 (by omega)] at hq
        have HQ := Lib.hid hq
        have d1 : decide (n > freeP p) = false := decide_eq_false h1
        have d2 : decide (freeP p < n) = false := decide_eq_false h1
        have hs := sum_nonneg hf
        have h5 := hf.t1
        have C := Lib.hid (move_at w g p i n _ ha hf hi (by unfold freeP at h1; omega) rfl)
        have HE : Hid (q.2 = 1 ∧ q.1 = setP p (i : Int) (hv p.h (i : Int) + n)) := Lib.hid (by rw [hq]; exact ⟨rfl, rfl⟩)
        rw [HE.out.1, HE.out.2, show decide ((1 : Int) = 1) = true by decide]
        clear ha hf ht h0 h1 hs h5 hq HQ HE
        generalize freeP p = fr at *
        generalize setP p (i : Int) (hv p.h (i : Int) + n) = p2 at *
        go_enter Try.func20, Try.ntmps20
        go_wp2_with (first | (refine HT.mono ?_; rintro _ _ ⟨rfl, rfl⟩))
        refine C.out.mono ?_
        rintro _ w2 ⟨rfl, h2, h3⟩
        have HR := Lib.hid (And.intro h2 h3)
        clear h2 h3 C x0 x1
        go_wp2
        go_ret
        exact ⟨rfl, HR.out⟩
  · rw [decide_eq_false ht] at HT
    rw [do_yes0 (by omega)] at hq
    subst hq
    dsimp only
    clear ha hf ht
    rw [show decide ((0 : Int) = 1) = false by decide]
    go_enter Try.func20, Try.ntmps20
    go_wp2_with (refine HT.mono ?_; rintro _ _ ⟨rfl, rfl⟩)
    go_ret
    exact ⟨rfl, HA.out, only_refl g w⟩
set_option maxHeartbeats 1000000 in
theorem give_any (w : World) (g : Nat) (p : Px) (t n : Int) (ha : AtM w g p) (hf : Fine p) :
    Calls Try.prog 21 #[.pointer (some ⟨g, 0, none⟩), .int .i64 t, .int .i64 n] w fun e w' => e = .returned (.int .i64 (doP p 1 t n).2) ∧ AtM w' g (doP p 1 t n).1 ∧ Only g w w' := by
  have HT := takes_any w g t
  have HA := Lib.hid ha
  obtain ⟨q, hq⟩ : ∃ q, q = doP p 1 t n := ⟨_, rfl⟩
  rw [← hq]
  by_cases ht : 0 ≤ t ∧ t < 64
  · rw [decide_eq_true ht] at HT
    by_cases h0 : n < 1
    · rw [do_yes1 (.inr (.inr h0))] at hq
      subst hq
      dsimp only
      have d0 : decide (n < 1) = true := decide_eq_true h0
      clear ha hf ht h0
      go_enter Try.func21, Try.ntmps21
      go_wp2_with (refine HT.mono ?_; rintro _ _ ⟨rfl, rfl⟩)
      go_ret
      exact ⟨rfl, HA.out, only_refl g w⟩
    · have d0 : decide (n < 1) = false := decide_eq_false h0
      obtain ⟨i, rfl⟩ : ∃ i : Nat, t = (i : Int) := ⟨t.toNat, by omega⟩
      have hi : i < 64 := by omega
      have c := py_has ha hi
      have k1 : (0 : Int) ≤ (i : Int) := by omega
      have k2 : (i : Int) < 64 := by omega
      have hh : hv p.h (i : Int) = p.h.getD i 0 := hv_in (by omega) (by omega)
      unfold py at c
      dsimp only at c
      rw [← hh] at c
      by_cases h1 : hv p.h (i : Int) < n
      · rw [do_more1 (by omega) h1] at hq
        subst hq
        dsimp only
        have d1 : decide (n > hv p.h (i : Int)) = true := decide_eq_true h1
        have d2 : decide (hv p.h (i : Int) < n) = true := decide_eq_true h1
        clear ha hf ht h0 h1 hh hi
        generalize hv p.h (i : Int) = y at *
        go_enter Try.func21, Try.ntmps21
        go_wp2_with (refine HT.mono ?_; rintro _ _ ⟨rfl, rfl⟩)
        go_ret
        exact ⟨rfl, HA.out, only_refl g w⟩
      · rw [do_no1 (by omega) h1] at hq
        have d1 : decide (n > hv p.h (i : Int)) = false := decide_eq_false h1
        have d2 : decide (hv p.h (i : Int) < n) = false := decide_eq_false h1
        have hs := hv_le hf (i : Int)
        have h4 := hf.sum
        have h5 := hf.t1
        have hw1 : IntKind.i64.wrap (-n) = -n := by rw [IntKind.wrap_i64]; omega
        have hw2 : wrap64 (-n) = -n := by unfold wrap64; omega
        have C := Lib.hid (move_at w g p i (-n) (hv p.h (i : Int) - n) ha hf hi (by omega) (by omega))
        have HE : Hid (q.2 = 0 ∧ q.1 = setP p (i : Int) (hv p.h (i : Int) - n)) := Lib.hid (by rw [hq]; exact ⟨rfl, rfl⟩)
        rw [HE.out.1, HE.out.2]
        clear ha hf ht h0 h1 hs h4 h5 hq HE hh hi
        generalize setP p (i : Int) (hv p.h (i : Int) - n) = p2 at *
        generalize hv p.h (i : Int) = y at *
        go_enter Try.func21, Try.ntmps21
        go_wp2_with (first | (refine HT.mono ?_; rintro _ _ ⟨rfl, rfl⟩))
        refine C.out.mono ?_
        rintro _ w2 ⟨rfl, h2, h3⟩
        have HR := Lib.hid (And.intro h2 h3)
        clear h2 h3 C c
        go_wp2
        go_ret
        exact ⟨rfl, HR.out⟩
  · rw [decide_eq_false ht] at HT
    rw [do_yes1 (by omega)] at hq
    subst hq
    dsimp only
    clear ha hf ht
    go_enter Try.func21, Try.ntmps21
    go_wp2_with (refine HT.mono ?_; rintro _ _ ⟨rfl, rfl⟩)
    go_ret
    exact ⟨rfl, HA.out, only_refl g w⟩
theorem take_nil (w : World) (t n : Int) : Calls Try.prog 20 #[.pointer none, .int .i64 t, .int .i64 n] w fun e w' => e = .returned (.bool false) ∧ w = w' := by
  have HT := takes_nil w t
  go_enter Try.func20, Try.ntmps20
  go_wp2_with (refine HT.mono ?_; rintro _ _ ⟨rfl, rfl⟩)
  go_ret
  exact ⟨rfl, rfl⟩
theorem give_nil (w : World) (t n : Int) : Calls Try.prog 21 #[.pointer none, .int .i64 t, .int .i64 n] w fun e w' => e = .returned (.int .i64 1) ∧ w = w' := by
  have HT := takes_nil w t
  go_enter Try.func21, Try.ntmps21
  go_wp2_with (refine HT.mono ?_; rintro _ _ ⟨rfl, rfl⟩)
  go_ret
  exact ⟨rfl, rfl⟩
theorem back_nil (w : World) (t : Int) : Calls Try.prog 22 #[.pointer none, .int .i64 t] w fun e w' => e = .returned (.int .i64 0) ∧ w = w' := by
  have HT := held_nil w t
  go_enter Try.func22, Try.ntmps22
  go_wp2_with (refine HT.mono ?_; rintro _ _ ⟨rfl, rfl⟩)
  go_ret
  exact ⟨rfl, rfl⟩
theorem shares_nil (w : World) : Calls Try.prog 13 #[.pointer none] w fun e w' => e = .returned (.slice none 0 0) ∧ w = w' := by
  go_enter Try.func13, Try.ntmps13
  go_wp2
  go_ret
  exact ⟨rfl, rfl⟩
theorem clone_nil (w : World) : Calls Try.prog 19 #[.pointer none] w fun e w' => e = .returned (.pointer none) ∧ w = w' := by
  go_enter Try.func19, Try.ntmps19
  go_wp2
  go_ret
  exact ⟨rfl, rfl⟩
set_option maxHeartbeats 1000000 in
theorem back_any (w : World) (g : Nat) (p : Px) (t : Int) (ha : AtM w g p) (hf : Fine p) :
    Calls Try.prog 22 #[.pointer (some ⟨g, 0, none⟩), .int .i64 t] w fun e w' => e = .returned (.int .i64 (hv p.h t)) ∧ AtM w' g (setP p t 0) ∧ Only g w w' := by
  have HH := held_any w g p t ha
  by_cases h0 : 0 < hv p.h t
  · have hi : 0 ≤ t ∧ t < 64 := by
      refine Classical.byContradiction fun hc => ?_
      rw [hv_out (by omega)] at h0
      omega
    obtain ⟨i, rfl⟩ : ∃ i : Nat, t = (i : Int) := ⟨t.toNat, by omega⟩
    have h2 := hv_le hf (i : Int)
    have h3 := hf.sum
    have h4 := hf.t1
    have C := Lib.hid (move_at w g p i (-(hv p.h (i : Int))) 0 ha hf (by omega) (by omega) (by omega))
    have d1 : decide (hv p.h (i : Int) > 0) = true := decide_eq_true h0
    have d2 : decide (0 < hv p.h (i : Int)) = true := decide_eq_true h0
    have hw1 : IntKind.i64.wrap (-(hv p.h (i : Int))) = -(hv p.h (i : Int)) := by rw [IntKind.wrap_i64]; omega
    have hw2 : wrap64 (-(hv p.h (i : Int))) = -(hv p.h (i : Int)) := by unfold wrap64; omega
    clear ha hf h0 hi h2 h3 h4
    generalize setP p (i : Int) 0 = p2 at *
    generalize hv p.h (i : Int) = y at *
    go_enter Try.func22, Try.ntmps22
    go_wp2_with (first | (refine HH.mono ?_; rintro _ _ ⟨rfl, rfl⟩))
    refine C.out.mono ?_
    rintro _ w2 ⟨rfl, h2, h3⟩
    have HR := Lib.hid (And.intro h2 h3)
    clear h2 h3 C
    go_wp2
    go_ret
    exact ⟨rfl, HR.out⟩
  · have hz : hv p.h t = 0 := by have := hv_nonneg hf t; omega
    rw [hz] at HH ⊢
    rw [set_same hf t hz]
    have HA := Lib.hid ha
    clear ha hf h0 hz
    go_enter Try.func22, Try.ntmps22
    go_wp2_with (refine HH.mono ?_; rintro _ _ ⟨rfl, rfl⟩)
    go_ret
    exact ⟨rfl, HA.out, only_refl g w⟩
set_option maxHeartbeats 1000000 in
theorem clone_any (w : World) (g : Nat) (p : Px) (ha : AtM w g p) : Calls Try.prog 19 #[.pointer (some ⟨g, 0, none⟩)] w fun e w' => ∃ g', e = .returned (.pointer (some ⟨g', 0, none⟩)) ∧ w.heap.size ≤ g' ∧ AtM w' g' p ∧ Below w.heap.size w w' := by
  have HA := Lib.hid ha
  unfold AtM at HA
  have HX := Lib.hid (heap_alloc_new w (pyO ⟨0, 0, zeros⟩))
  have HR : Hid (AtM ((w.alloc (pyO ⟨0, 0, zeros⟩)).setRow w.heap.size (pyC (py p)).toArray) w.heap.size p ∧ Below w.heap.size w ((w.alloc (pyO ⟨0, 0, zeros⟩)).setRow w.heap.size (pyC (py p)).toArray)) :=
    Lib.hid ⟨py_turned (heap_alloc_new w _) _, row_below ((Below.refl _ w).alloc (Nat.le_refl _) _) (Nat.le_refl _) _⟩
  clear ha
  go_enter Try.func19, Try.ntmps19
  go_wp2_with (first | refine wpy_load rfl _ rfl g rfl (py p) HA.out ?_ | refine wpy_alloc rfl rfl ?_ | refine wpy_store rfl _ _ rfl w.heap.size ⟨0, 0, zeros⟩ (py p) rfl rfl HX.out ?_)
  go_ret
  exact ⟨_, rfl, Nat.le_refl _, HR.out⟩
set_option maxRecDepth 100000 in
set_option maxHeartbeats 2000000 in
theorem shares_any (w : World) (g : Nat) (p : Px) (ha : AtM w g p) : Calls Try.prog 13 #[.pointer (some ⟨g, 0, none⟩)] w fun e w' => ∃ A c, e = .returned (.slice A (shares p.h).length c) ∧ SAt w' (fun b => w.heap.size ≤ b) A (shares p.h) ∧ Below w.heap.size w w' := by
  have HA := Lib.hid ha
  unfold AtM at HA
  have H0 : Hid (Own w w.heap.size (.slice none 0 0) (sharesTo p.h 0) ∧ Below w.heap.size w w) := Lib.hid ⟨Own.nil w _, Below.refl _ _⟩
  clear ha
  go_enter Try.func13, Try.ntmps13
  go_wp2_with (first | refine wpy_has rfl _ rfl g rfl (py p) HA.out ?_)
  obtain ⟨hs, hhs⟩ : ∃ hs, hs = p.h := ⟨_, rfl⟩
  have e : (py p).h = hs := hhs.symm
  rw [e]
  rw [← hhs] at H0
  have HR : Hid (∀ (A : Option Addr) (c : Nat) (w' : World), SAt w' (fun b => w.heap.size ≤ b) A (sharesTo hs 64) → Below w.heap.size w w' → ∃ A' c', Ending.returned (.slice A (sharesTo hs 64).length c) = .returned (.slice A' (shares p.h).length c') ∧ SAt w' (fun b => w.heap.size ≤ b) A' (shares p.h) ∧ Below w.heap.size w w') := Lib.hid (fun A c w' h1 h2 => ⟨A, c, by rw [hhs]; rfl, by rw [hhs] at h1; exact h1, h2⟩)
  clear HA e hhs
  go_loopw [3, 12] (fun v i wr => ∃ k : Nat, i = .int .i64 (k : Int) ∧ k ≤ 64 ∧ Hid (Own wr w.heap.size v (sharesTo hs k) ∧ Below w.heap.size w wr)) (fun _ i _ => 64 - (intOf i).toNat)
  case atStart => exact ⟨0, rfl, Nat.zero_le _, H0⟩
  case round =>
    obtain ⟨k, rfl, hk64, HW⟩ := hrel
    clear H0
    by_cases hlk : k < 64
    · have d1 : decide ((k : Int) < 64) = true := by simp; omega
      have HK := Lib.hid hlk
      have HL : Hid ((sharesTo hs k).length ≤ 64) := Lib.hid (Nat.le_trans (shares_len hs k) hk64)
      have hw1 : IntKind.i64.wrap ((k : Int) + 1) = (k : Int) + 1 := by rw [IntKind.wrap_i64]; omega
      have hw2 : wrap64 ((k : Int) + 1) = (k : Int) + 1 := by unfold wrap64; omega
      obtain ⟨y, hyy⟩ : ∃ y, y = hs.getD k 0 := ⟨_, rfl⟩
      have HYY := Lib.hid hyy.symm
      by_cases hy : 0 < hs.getD k 0
      · have hS := shares_yes hy
        rw [← hyy] at hS hy
        have HS := Lib.hid hS
        have HX := Lib.hid (SAt.one (e := ((k : Int), y)) (heap_alloc_new wr (.cells #[.int .i64 (k : Int), .int .i64 (y)] 43)))
        have hb1 := HW.out.2.alloc HW.out.2.size (.cells #[.int .i64 (k : Int), .int .i64 (y)] 43)
        have H1 := Lib.hid (And.intro (HW.out.1.next ((Below.refl _ wr).alloc (Nat.le_refl _) (.cells #[.int .i64 (k : Int), .int .i64 (y)] 43))) hb1)
        have d2 : decide (y > 0) = true := decide_eq_true hy
        have d3 : decide (0 < y) = true := decide_eq_true hy
        clear hS hy hlk hk64 HW hb1 hyy
        go_upto_region 6 with fail
        go_wp2_with (first | refine wpy_idx rfl _ _ rfl hs k rfl rfl HK.out y HYY.out ?_ | (at_builtin; refine wpList_appS (by rfl) (.tmp 18) (.tmp 22) (by rfl) w.heap.size 1 1 _ u3 ⟨wr.heap.size, 0, none⟩ (sharesTo hs k) [((k : Int), y)] (by rfl) H1.out.1 (by rfl) (by rfl) HX.out (by have := HL.out; simp; omega) H1.out.2.size ?_))
        intro v2 w2 ho2 hg2
        have H3 : Hid (Own w2 w.heap.size v2 (sharesTo hs (k + 1)) ∧ Below w.heap.size w w2) := Lib.hid (by rw [HS.out]; exact ⟨ho2, below_grown H1.out.2 hg2 (fun j e => (H1.out.1.lt e).1) H1.out.2.size⟩)
        clear ho2 hg2 HS HX H1
        go_wp2_with fail
        exact ⟨⟨k + 1, by go_num, by have := HK.out; omega, H3⟩, by have := HK.out; simp [intOf]; omega⟩
      · have hS := shares_no hy
        rw [← hyy] at hy
        have H3 : Hid (Own wr w.heap.size u3 (sharesTo hs (k + 1)) ∧ Below w.heap.size w wr) := Lib.hid (by rw [hS]; exact HW.out)
        have d2 : decide (y > 0) = false := decide_eq_false hy
        have d3 : decide (0 < y) = false := decide_eq_false hy
        clear hS hy hlk hk64 HW HL hyy
        go_upto_region 6 with fail
        go_wp2_with (first | refine wpy_idx rfl _ _ rfl hs k rfl rfl HK.out y HYY.out ?_)
        exact ⟨⟨k + 1, by go_num, by have := HK.out; omega, H3⟩, by have := HK.out; simp [intOf]; omega⟩
    · have d1 : decide ((k : Int) < 64) = false := by simp; omega
      obtain rfl : k = 64 := by omega
      obtain ⟨A', c', rfl⟩ := HW.out.1.slice
      have HF := Lib.hid (HR.out A' c' wr HW.out.1.at HW.out.2)
      clear hlk hk64 HR HW
      go_wp2_with fail
      go_ret
      exact HF.out
theorem same_below {w : World} {v : Value} {e : Ending} {w' : World} (h : e = .returned v ∧ w = w') : e = .returned v ∧ Below w.heap.size w w' := by
  obtain ⟨h1, rfl⟩ := h
  exact ⟨h1, Below.refl _ _⟩
theorem keeps : Keeps AtM where
  loc := fun w w' g s h hb _ => hb.trans h
  lt := fun w g s h => lt_of_block h
  new := fun total w h => new_any total w h
  take := fun w g p t n ha hf _ _ => take_any w g p t n ha hf
  give := fun w g p t n ha hf _ _ => give_any w g p t n ha hf
  back := fun w g p t ha hf _ => back_any w g p t ha hf
  held := fun w g p t ha _ _ => (held_any w g p t ha).mono fun _ _ h => same_below h
  heldq := fun w g p t ha _ _ => (held_any w g p t ha).mono fun _ _ h => ⟨h.1, h.2.symm⟩
  free := fun w g p ha _ => (free_any w g p ha).mono fun _ _ h => same_below h
  total := fun w g p ha _ => (total_any w g p ha).mono fun _ _ h => same_below h
  shares := fun w g p ha _ => shares_any w g p ha
  clone := fun w g p ha _ => clone_any w g p ha
  ntake := fun w t n _ _ => (take_nil w t n).mono fun _ _ h => same_below h
  ngive := fun w t n _ _ => (give_nil w t n).mono fun _ _ h => same_below h
  nback := fun w t _ => (back_nil w t).mono fun _ _ h => same_below h
  nheld := fun w t _ => (held_nil w t).mono fun _ _ h => same_below h
  nfree := fun w => (free_nil w).mono fun _ _ h => same_below h
  ntotal := fun w => (total_nil w).mono fun _ _ h => same_below h
  nshares := fun w => (shares_nil w).mono fun _ _ h => same_below h
  nclone := fun w => (clone_nil w).mono fun _ _ h => same_below h
end Go.Proofs.Ythdencddocgbjaa.pol
