/-
  The program's own calls of a lock that many read or one writes (typed over the code of 9b92e0f). The table by which the least of a set is found lies where its initialiser lays it.
-/
import Derived.Test.YthfgaflfnnlhnaaDoorRwSpec
import Derived.Test.YthfgaflfnnlhnaaDoorBFirst
import Derived.Test.YthfgaflfnnlhnaaDoorBOf
import Derived.Test.YthfgaflfnnlhnaaDoorBOkt
namespace Go.Proofs.YthfgaflfnnlhnaaDoor.rwl
open Go.RowKit Go.ChangeShapes
open Go.Proofs.YthfgaflfnnlhnaaDoor.obj
open Go.Proofs.YthfgaflfnnlhnaaDoor.bits.one (Okt okt_mono)
open Go.Proofs.YthfgaflfnnlhnaaDoor.bits (Is64 hasB wth wout may bitN els atI Tab wth_lt wout_lt wth_or testBit_wth testBit_wout has_any with_any without_any first_any of_any ofI RowAt)
set_option linter.unusedVariables false
set_option linter.unusedSimpArgs false

/-- A lock as the program keeps it: all who hold it, and whether one writes. -/
def rwO (h : Nat) (b : Bool) : Obj := .cells #[.int .u64 (h : Int), .bool b] 27
def AtM (w : World) (g : Nat) (m : Rx) : Prop := w.heap[g]? = some (rwO (holdR m) (decide (0 ≤ m.p)))
theorem rw_cells {w : World} {g : Nat} {h : Nat} {b : Bool} (e : w.heap[g]? = some (rwO h b)) : w.cell? ⟨g, 0, none⟩ = some (.int .u64 (h : Int)) ∧ w.cell? ⟨g, 1, none⟩ = some (.bool b) := by
  simp [World.cell?, e, rwO]
theorem rw_free {w : World} {g : Nat} {h : Nat} {b : Bool} (e : w.heap[g]? = some (rwO h b)) : w.frozen? ⟨g, 0, none⟩ = false ∧ w.frozen? ⟨g, 1, none⟩ = false := by
  simp [World.frozen?, e, rwO]
theorem rw_is : rzC = #[.int .u64 0, .bool false] := by kernel_rfl
theorem rw_new (w : World) : AtM (w.alloc rzB) w.heap.size newR := by
  unfold AtM
  rw [heap_alloc_new]
  unfold rzB
  rw [rw_is]
  rfl
theorem rw_set {w : World} {g : Nat} {h : Nat} {b : Bool} (e : w.heap[g]? = some (rwO h b)) (h' : Nat) : (w.setCell ⟨g, 0, none⟩ (.int .u64 (h' : Int))).heap[g]? = some (rwO h' b) := by
  simp [World.setCell, Array.getElem?_modify, e, rwO]
theorem rw_set2 {w : World} {g : Nat} {h : Nat} {b : Bool} (e : w.heap[g]? = some (rwO h b)) (h' : Nat) (b' : Bool) : ((w.setCell ⟨g, 0, none⟩ (.int .u64 (h' : Int))).setCell ⟨g, 1, none⟩ (.bool b')).heap[g]? = some (rwO h' b') := by
  simp [World.setCell, Array.getElem?_modify, e, rwO]
theorem only_cell (w : World) (g k : Nat) (v : Value) : Only g w (w.setCell ⟨g, k, none⟩ v) :=
  ⟨rfl, rfl, rfl, by simp [World.setCell], fun i _ hi => Below.heap_setCell _ _ _ _ hi⟩
theorem only_refl (g : Nat) (w : World) : Only g w w := ⟨rfl, rfl, rfl, Nat.le_refl _, fun _ _ _ => rfl⟩

/-- What the two fields say of who holds the lock, and how. -/
theorem hold_lt {m : Rx} (h : Fine m) : Is64 (holdR m) := wth_lt h.1 _
theorem hold_rd {m : Rx} (h : m.p < 0) : holdR m = m.r := by
  unfold holdR wth
  rw [if_neg (by unfold may; omega)]
theorem has_wr {m : Rx} (h : Fine m) (hp : 0 ≤ m.p) (t : Int) : hasB (holdR m) t = decide (t = m.p) := by
  obtain ⟨h1, h2, h3, h4⟩ := h
  unfold hasB holdR
  rw [testBit_wth, h4 hp, Nat.zero_testBit, Bool.false_or]
  by_cases e : t = m.p
  · subst e
    have hm : may m.p := by unfold may; omega
    simp [hm]
  · by_cases ht : may t
    · have h5 : ¬ m.p.toNat = t.toNat := by unfold may at ht; omega
      simp [e, h5]
    · simp [ht, e]
theorem mode_wr {m : Rx} (h : Fine m) (hp : 0 ≤ m.p) (t : Int) : modeR m t = if t = m.p then 2 else 0 := by
  obtain ⟨h1, h2, h3, h4⟩ := h
  unfold modeR
  by_cases e : t = m.p
  · rw [if_pos ⟨by omega, e.symm⟩, if_pos e]
  · rw [if_neg (fun x => e x.2.symm), if_neg e, if_neg]
    rw [h4 hp]
    unfold hasB
    simp
theorem mode_rd {m : Rx} (hp : m.p < 0) (t : Int) : modeR m t = if hasB (holdR m) t = true then 1 else 0 := by
  unfold modeR
  rw [if_neg (by omega), hold_rd hp]
/-- How a thread holds the lock, as the program reads it. -/
theorem mode_is {m : Rx} (h : Fine m) (t : Int) : modeR m t = if hasB (holdR m) t = true then (if 0 ≤ m.p then 2 else 1) else 0 := by
  by_cases hp : 0 ≤ m.p
  · rw [mode_wr h hp, has_wr h hp, if_pos hp]
    by_cases e : t = m.p <;> simp [e]
  · rw [mode_rd (by omega), if_neg hp]
theorem hold_zero {m : Rx} (h : Fine m) : holdR m = 0 ↔ m.p < 0 ∧ m.r = 0 := by
  constructor
  · intro e
    by_cases hp : 0 ≤ m.p
    · have h1 := has_wr h hp m.p
      rw [e] at h1
      unfold hasB at h1
      simp at h1
    · exact ⟨by omega, (hold_rd (by omega)).symm.trans e⟩
  · rintro ⟨hp, e⟩
    rw [hold_rd hp, e]
theorem hold_read {s : Rx} (hp : s.p < 0) (t : Int) : holdR ⟨wth s.r t, s.p⟩ = wth (holdR s) t := by
  rw [hold_rd (m := ⟨wth s.r t, s.p⟩) hp, hold_rd hp]
theorem hold_write {m : Rx} (hr : m.r = 0) (t : Int) : holdR ⟨m.r, t⟩ = ofI 0 [t] := by
  unfold holdR ofI
  rw [hr]
  rfl
theorem hold_leave {m : Rx} (h : Fine m) (t : Int) (hm : modeR m t ≠ 0) : holdR (leaveR m t) = wout (holdR m) t ∧ (leaveR m t).p < 0 := by
  by_cases hp : 0 ≤ m.p
  · rw [mode_wr h hp] at hm
    have e : t = m.p := by
      by_cases e : t = m.p
      · exact e
      · rw [if_neg e] at hm; exact absurd rfl hm
    subst e
    have hl : leaveR m m.p = ⟨0, -1⟩ := by
      unfold leaveR
      rw [if_pos rfl, h.2.2.2 hp, wout_zero]
    rw [hl]
    refine ⟨?_, by decide⟩
    apply bits.ext64 (by unfold holdR; exact wth_lt (by unfold Is64; dsimp only; omega) _) (wout_lt (hold_lt h) _)
    intro k hk
    rw [testBit_wout]
    unfold holdR
    rw [testBit_wth, testBit_wth, h.2.2.2 hp]
    have hn : decide (may (-1)) = false := by decide
    dsimp only
    rw [hn]
    cases (decide (may m.p) && decide (m.p.toNat = k)) <;> simp
  · have hl : (leaveR m t).p < 0 := by
      unfold leaveR
      dsimp only
      split <;> omega
    refine ⟨?_, hl⟩
    rw [hold_rd hl, hold_rd (by omega)]
    rfl

set_option maxHeartbeats 400000 in
theorem takes_yes (w : World) (g : Nat) (t : Int) (h0 : 0 ≤ t) (h1 : t < 64) :
    Calls Tryd.prog 27 #[.pointer (some ⟨g, 0, none⟩), .int .i64 t] w fun e w' => e = .returned (.bool true) ∧ w = w' := by
  go_enter Tryd.func27, Tryd.ntmps27
  go_wp2
  go_ret
  exact ⟨rfl, rfl⟩
set_option maxHeartbeats 400000 in
theorem takes_no (w : World) (g : Nat) (t : Int) (h : t < 0 ∨ 63 < t) :
    Calls Tryd.prog 27 #[.pointer (some ⟨g, 0, none⟩), .int .i64 t] w fun e w' => e = .returned (.bool false) ∧ w = w' := by
  by_cases h0 : t < 0
  · clear h
    go_enter Tryd.func27, Tryd.ntmps27
    go_wp2
    go_ret
    exact ⟨rfl, rfl⟩
  · have h1 : 0 ≤ t := by omega
    have h2 : ¬ t < 64 := by omega
    clear h h0
    go_enter Tryd.func27, Tryd.ntmps27
    go_wp2
    go_ret
    exact ⟨rfl, rfl⟩
theorem takes_nil (w : World) (t : Int) :
    Calls Tryd.prog 27 #[.pointer none, .int .i64 t] w fun e w' => e = .returned (.bool false) ∧ w = w' := by
  go_enter Tryd.func27, Tryd.ntmps27
  go_wp2
  go_ret
  exact ⟨rfl, rfl⟩

set_option maxHeartbeats 400000 in
theorem mode_any (w : World) (g : Nat) (m : Rx) (t : Int) (ha : AtM w g m) (hf : Fine m) :
    Calls Tryd.prog 13 #[.pointer (some ⟨g, 0, none⟩), .int .i64 t] w fun e w' => e = .returned (.int .i64 (modeR m t)) ∧ w = w' := by
  obtain ⟨h0, h1⟩ := rw_cells ha
  have HH := has_any (holdR m) (hold_lt hf) t w
  rw [mode_is hf]
  clear ha hf
  generalize hasB (holdR m) t = q at *
  cases q
  · rw [if_neg (by decide)]
    go_enter Tryd.func13, Tryd.ntmps13
    go_wp2_with fail
    refine HH.mono ?_
    rintro _ _ ⟨rfl, rfl⟩
    go_wp2
    go_ret
    exact ⟨rfl, rfl⟩
  · rw [if_pos rfl]
    by_cases hp : 0 ≤ m.p
    · rw [decide_eq_true hp] at h1
      rw [if_pos hp]
      clear hp
      go_enter Tryd.func13, Tryd.ntmps13
      go_wp2_with fail
      refine HH.mono ?_
      rintro _ _ ⟨rfl, rfl⟩
      go_wp2
      go_ret
      exact ⟨rfl, rfl⟩
    · rw [decide_eq_false hp] at h1
      rw [if_neg hp]
      clear hp
      go_enter Tryd.func13, Tryd.ntmps13
      go_wp2_with fail
      refine HH.mono ?_
      rintro _ _ ⟨rfl, rfl⟩
      go_wp2
      go_ret
      exact ⟨rfl, rfl⟩
theorem mode_nil (w : World) (t : Int) :
    Calls Tryd.prog 13 #[.pointer none, .int .i64 t] w fun e w' => e = .returned (.int .i64 0) ∧ w = w' := by
  go_enter Tryd.func13, Tryd.ntmps13
  go_wp2
  go_ret
  exact ⟨rfl, rfl⟩

/-- What a thread is told that may not hold the lock. -/
def noR (m : Rx) (t : Int) : Int := if t < 0 ∨ 63 < t then 1 else if modeR m t ≠ 0 then 8 else 0
set_option maxHeartbeats 400000 in
theorem refuse_any (w : World) (g : Nat) (m : Rx) (t : Int) (ha : AtM w g m) (hf : Fine m) :
    Calls Tryd.prog 24 #[.pointer (some ⟨g, 0, none⟩), .int .i64 t] w fun e w' => e = .returned (.int .i64 (noR m t)) ∧ w = w' := by
  have HM := mode_any w g m t ha hf
  unfold noR
  clear ha hf
  by_cases ht : t < 0 ∨ 63 < t
  · have HT := takes_no w g t ht
    rw [if_pos ht]
    clear HM ht
    go_enter Tryd.func24, Tryd.ntmps24
    go_wp2_with fail
    refine HT.mono ?_
    rintro _ _ ⟨rfl, rfl⟩
    go_wp2
    go_ret
    exact ⟨rfl, rfl⟩
  have HT := takes_yes w g t (by omega) (by omega)
  rw [if_neg ht]
  clear ht
  generalize modeR m t = x at *
  by_cases hx : x = 0
  · subst hx
    rw [if_neg (by decide)]
    go_enter Tryd.func24, Tryd.ntmps24
    go_wp2_with fail
    refine HT.mono ?_
    rintro _ _ ⟨rfl, rfl⟩
    go_wp2_with fail
    refine HM.mono ?_
    rintro _ _ ⟨rfl, rfl⟩
    go_wp2
    go_ret
    exact ⟨rfl, rfl⟩
  · have hb : (x != 0) = true := bne_iff_ne.2 hx
    rw [if_pos hx]
    clear hx
    go_enter Tryd.func24, Tryd.ntmps24
    go_wp2_with fail
    refine HT.mono ?_
    rintro _ _ ⟨rfl, rfl⟩
    go_wp2_with fail
    refine HM.mono ?_
    rintro _ _ ⟨rfl, rfl⟩
    go_wp2
    go_ret
    exact ⟨rfl, rfl⟩
theorem refuse_nil (w : World) (t : Int) :
    Calls Tryd.prog 24 #[.pointer none, .int .i64 t] w fun e w' => e = .returned (.int .i64 1) ∧ w = w' := by
  go_enter Tryd.func24, Tryd.ntmps24
  go_wp2_with fail
  refine (takes_nil w t).mono ?_
  rintro _ _ ⟨rfl, rfl⟩
  go_wp2
  go_ret
  exact ⟨rfl, rfl⟩

theorem do_no {s : Rx} {k t : Int} (hk : k = 0 ∨ k = 1) (h : noR s t ≠ 0) : doR s k t = (s, noR s t) := by
  unfold noR at h ⊢
  unfold doR
  by_cases ht : t < 0 ∨ 63 < t
  · rw [if_pos ht, if_pos ht]
  · rw [if_neg ht] at h ⊢
    rw [if_neg ht, if_neg (show ¬ (k ≠ 0 ∧ k ≠ 1) by omega)]
    by_cases hm : modeR s t ≠ 0
    · rw [if_pos hm, if_pos hm]
    · rw [if_neg hm] at h
      exact absurd rfl h
theorem do_may {s : Rx} {k t : Int} (hk : k = 0 ∨ k = 1) (h : noR s t = 0) : doR s k t = if 0 ≤ s.p ∨ (k = 1 ∧ s.r ≠ 0) then (s, 7) else if k = 0 then (⟨wth s.r t, s.p⟩, 0) else (⟨s.r, t⟩, 0) := by
  unfold noR at h
  unfold doR
  by_cases ht : t < 0 ∨ 63 < t
  · rw [if_pos ht] at h
    exact absurd h (by decide)
  · rw [if_neg ht] at h
    rw [if_neg ht, if_neg (show ¬ (k ≠ 0 ∧ k ≠ 1) by omega)]
    by_cases hm : modeR s t ≠ 0
    · rw [if_pos hm] at h
      exact absurd h (by decide)
    · rw [if_neg hm]

set_option maxHeartbeats 400000 in
theorem read_any (w : World) (g : Nat) (s : Rx) (t : Int) (ha : AtM w g s) (hf : Fine s) :
    Calls Tryd.prog 16 #[.pointer (some ⟨g, 0, none⟩), .int .i64 t] w fun e w' => e = .returned (.int .i64 (doR s 0 t).2) ∧ AtM w' g (doR s 0 t).1 ∧ Only g w w' := by
  have HA := Lib.hid ha
  have HR := refuse_any w g s t ha hf
  obtain ⟨h0, h1⟩ := rw_cells ha
  obtain ⟨f0, f1⟩ := rw_free ha
  have HW := with_any (holdR s) (hold_lt hf) t w
  have R1 := Lib.hid (rw_set ha (wth (holdR s) t))
  have R2 := Lib.hid (only_cell w g 0 (.int .u64 ((wth (holdR s) t : Nat) : Int)))
  by_cases hn : noR s t = 0
  · rw [hn] at HR
    rw [do_may (.inl rfl) hn]
    by_cases hp : 0 ≤ s.p
    · rw [if_pos (.inl hp)]
      rw [decide_eq_true hp] at h1
      clear ha hf hn hp HW R1 R2
      go_enter Tryd.func16, Tryd.ntmps16
      go_wp2_with fail
      refine HR.mono ?_
      rintro _ _ ⟨rfl, rfl⟩
      clear HR
      go_wp2
      go_ret
      exact ⟨rfl, HA.out, only_refl g w⟩
    · rw [if_neg (by omega), if_pos rfl]
      rw [decide_eq_false hp] at h1
      have HB : Hid (AtM (w.setCell ⟨g, 0, none⟩ (.int .u64 ((wth (holdR s) t : Nat) : Int))) g ⟨wth s.r t, s.p⟩) := Lib.hid (by
        unfold AtM
        rw [hold_read (s := s) (by omega)]
        exact R1.out)
      clear ha hf hn hp R1
      go_enter Tryd.func16, Tryd.ntmps16
      go_wp2_with fail
      refine HR.mono ?_
      rintro _ _ ⟨rfl, rfl⟩
      clear HR
      go_wp2_with fail
      refine HW.mono ?_
      rintro _ _ ⟨rfl, rfl⟩
      clear HW
      go_wp2
      go_ret
      exact ⟨rfl, HB.out, R2.out⟩
  · rw [do_no (.inl rfl) hn]
    have hb : (noR s t != 0) = true := bne_iff_ne.2 hn
    generalize noR s t = x at *
    clear ha hf hn HW R1 R2
    go_enter Tryd.func16, Tryd.ntmps16
    go_wp2_with fail
    refine HR.mono ?_
    rintro _ _ ⟨rfl, rfl⟩
    clear HR
    go_wp2
    go_ret
    exact ⟨rfl, HA.out, only_refl g w⟩

/-- The row of one number that a call of the set of a list is handed. -/
theorem of_one (w : World) (t : Int) (c : Obj) (hc : c = .cells #[.int .i64 t] 3 (0, 0)) : Calls Tryd.prog 26 #[.slice (some ⟨w.heap.size, 0, none⟩) 1 1] (w.alloc c) fun e w' => e = .returned (.int .u64 ((ofI 0 [t] : Nat) : Int)) ∧ w.alloc c = w' := by
  refine of_any w.heap.size 0 1 [t] (by simp) (w.alloc c) ?_
  intro j hj
  have hj0 : j = 0 := by simpa using hj
  subst hj0
  unfold World.cell?
  dsimp only
  rw [heap_alloc_new, hc]
  rfl

set_option maxHeartbeats 400000 in
theorem write_any (w : World) (g : Nat) (s : Rx) (t : Int) (ha : AtM w g s) (hf : Fine s) :
    Calls Tryd.prog 17 #[.pointer (some ⟨g, 0, none⟩), .int .i64 t] w fun e w' => e = .returned (.int .i64 (doR s 1 t).2) ∧ AtM w' g (doR s 1 t).1 ∧ Only g w w' := by
  have HA := Lib.hid ha
  have HR := refuse_any w g s t ha hf
  obtain ⟨h0, h1⟩ := rw_cells ha
  by_cases hn : noR s t = 0
  · rw [hn] at HR
    rw [do_may (.inr rfl) hn]
    by_cases hz : holdR s = 0
    · have hz2 := (hold_zero hf).1 hz
      have ht : 0 ≤ t := by
        unfold noR at hn
        by_cases h : t < 0 ∨ 63 < t
        · rw [if_pos h] at hn
          exact absurd hn (by decide)
        · omega
      rw [if_neg (fun h => h.elim (fun h => by omega) (fun h => h.2 hz2.2)), if_neg (by decide)]
      have hne : g < w.heap.size := lt_of_block ha
      obtain ⟨c, hc⟩ : ∃ c : Obj, c = .cells #[.int .i64 t] 3 (0, 0) := ⟨_, rfl⟩
      have hb0 : Below w.heap.size w (w.alloc c) := (Below.refl _ w).alloc (Nat.le_refl _) _
      have ha1 := (hb0.block _ hne).trans ha
      obtain ⟨f0, f1⟩ := rw_free ha1
      obtain ⟨y0, y1⟩ := rw_cells ha1
      have R1 := Lib.hid (rw_set2 ha1 (ofI 0 [t]) true)
      have R2 := Lib.hid ((Only.of_below (g := g) hb0).trans ((only_cell (w.alloc c) g 0 (.int .u64 ((ofI 0 [t] : Nat) : Int))).trans (only_cell _ g 1 (.bool true))))
      have HO := of_one w t c hc
      rw [hz] at h0
      have HT : Hid (AtM (((w.alloc c).setCell ⟨g, 0, none⟩ (.int .u64 ((ofI 0 [t] : Nat) : Int))).setCell ⟨g, 1, none⟩ (.bool true)) g ⟨s.r, t⟩) := Lib.hid (by
        unfold AtM
        rw [hold_write hz2.2, decide_eq_true ht]
        exact R1.out)
      clear ha ha1 hf hn hz hz2 ht hb0 hne R1
      go_enter Tryd.func17, Tryd.ntmps17
      go_wp2_with fail
      refine HR.mono ?_
      rintro _ _ ⟨rfl, rfl⟩
      clear HR
      go_wp2_with fail
      rw [← hc]
      refine HO.mono ?_
      rintro _ _ ⟨rfl, rfl⟩
      clear HO
      generalize w.alloc c = w1 at *
      go_wp2
      go_ret
      exact ⟨rfl, HT.out, R2.out⟩
    · have hz2 : 0 ≤ s.p ∨ ((1 : Int) = 1 ∧ s.r ≠ 0) := by
        have h := fun e => hz ((hold_zero hf).2 e)
        by_cases hp : 0 ≤ s.p
        · exact .inl hp
        · exact .inr ⟨rfl, fun e => h ⟨by omega, e⟩⟩
      rw [if_pos hz2]
      have hb : ((holdR s : Int) != 0) = true := bne_iff_ne.2 (by omega)
      generalize holdR s = h at *
      clear ha hf hn hz hz2
      go_enter Tryd.func17, Tryd.ntmps17
      go_wp2_with fail
      refine HR.mono ?_
      rintro _ _ ⟨rfl, rfl⟩
      clear HR
      go_wp2
      go_ret
      exact ⟨rfl, HA.out, only_refl g w⟩
  · rw [do_no (.inr rfl) hn]
    have hb : (noR s t != 0) = true := bne_iff_ne.2 hn
    generalize noR s t = x at *
    clear ha hf hn
    go_enter Tryd.func17, Tryd.ntmps17
    go_wp2_with fail
    refine HR.mono ?_
    rintro _ _ ⟨rfl, rfl⟩
    clear HR
    go_wp2
    go_ret
    exact ⟨rfl, HA.out, only_refl g w⟩

theorem do_leave (s : Rx) (t : Int) : doR s 2 t = if t < 0 ∨ 63 < t then (s, 1) else if modeR s t = 0 then (s, 9) else (leaveR s t, 0) := by
  unfold doR
  rw [if_pos (show (2 : Int) ≠ 0 ∧ (2 : Int) ≠ 1 by decide)]
set_option maxHeartbeats 400000 in
theorem leave_any (w : World) (g : Nat) (s : Rx) (t : Int) (ha : AtM w g s) (hf : Fine s) :
    Calls Tryd.prog 18 #[.pointer (some ⟨g, 0, none⟩), .int .i64 t] w fun e w' => e = .returned (.int .i64 (doR s 2 t).2) ∧ AtM w' g (doR s 2 t).1 ∧ Only g w w' := by
  have HA := Lib.hid ha
  have HM := mode_any w g s t ha hf
  rw [do_leave]
  by_cases ht : t < 0 ∨ 63 < t
  · have HT := takes_no w g t ht
    rw [if_pos ht]
    clear HM ht ha hf
    go_enter Tryd.func18, Tryd.ntmps18
    go_wp2_with fail
    refine HT.mono ?_
    rintro _ _ ⟨rfl, rfl⟩
    clear HT
    go_wp2
    go_ret
    exact ⟨rfl, HA.out, only_refl g w⟩
  have HT := takes_yes w g t (by omega) (by omega)
  rw [if_neg ht]
  clear ht
  by_cases hm : modeR s t = 0
  · rw [if_pos hm]
    rw [hm] at HM
    clear hm ha hf
    go_enter Tryd.func18, Tryd.ntmps18
    go_wp2_with fail
    refine HT.mono ?_
    rintro _ _ ⟨rfl, rfl⟩
    clear HT
    go_wp2_with fail
    refine HM.mono ?_
    rintro _ _ ⟨rfl, rfl⟩
    clear HM
    go_wp2
    go_ret
    exact ⟨rfl, HA.out, only_refl g w⟩
  · rw [if_neg hm]
    have hb : (modeR s t == 0) = false := beq_eq_false_iff_ne.2 hm
    obtain ⟨h0, h1⟩ := rw_cells ha
    obtain ⟨f0, f1⟩ := rw_free ha
    have HL := hold_leave hf t hm
    have HW := without_any (holdR s) (hold_lt hf) t w
    have HB : Hid (AtM ((w.setCell ⟨g, 0, none⟩ (.int .u64 ((wout (holdR s) t : Nat) : Int))).setCell ⟨g, 1, none⟩ (.bool false)) g (leaveR s t)) := Lib.hid (by
      unfold AtM
      rw [HL.1, decide_eq_false (show ¬ 0 ≤ (leaveR s t).p by have := HL.2; omega)]
      exact rw_set2 ha _ _)
    have R2 := Lib.hid ((only_cell w g 0 (.int .u64 ((wout (holdR s) t : Nat) : Int))).trans (only_cell _ g 1 (.bool false)))
    generalize modeR s t = x at *
    clear hm ha hf HL
    go_enter Tryd.func18, Tryd.ntmps18
    go_wp2_with fail
    refine HT.mono ?_
    rintro _ _ ⟨rfl, rfl⟩
    clear HT
    go_wp2_with fail
    refine HM.mono ?_
    rintro _ _ ⟨rfl, rfl⟩
    clear HM
    go_wp2_with fail
    refine HW.mono ?_
    rintro _ _ ⟨rfl, rfl⟩
    clear HW
    go_wp2
    go_ret
    exact ⟨rfl, HB.out, R2.out⟩

theorem hold_first {s : Rx} (hf : Fine s) (hp : 0 ≤ s.p) : atI (els (holdR s)) 0 = s.p := by
  obtain ⟨h1, h2, h3, h4⟩ := hf
  have e : els (holdR s) = [s.p.toNat] := by
    unfold holdR
    rw [h4 hp]
    have h5 : ∀ n : Nat, n < 64 → els (wth 0 (n : Int)) = [n] := by decide +kernel
    have h6 := h5 s.p.toNat (by omega)
    rw [show ((s.p.toNat : Nat) : Int) = s.p by omega] at h6
    exact h6
  rw [e]
  show ((s.p.toNat : Nat) : Int) = s.p
  omega
set_option maxHeartbeats 400000 in
theorem writer_any (w : World) (g : Nat) (s : Rx) (ha : AtM w g s) (hf : Fine s) (hT : Tab w) :
    Calls Tryd.prog 9 #[.pointer (some ⟨g, 0, none⟩)] w fun e w' => e = .returned (.int .i64 s.p) ∧ Below w.heap.size w w' := by
  obtain ⟨h0, h1⟩ := rw_cells ha
  have HF := first_any (holdR s) (hold_lt hf) w hT
  by_cases hp : 0 ≤ s.p
  · rw [decide_eq_true hp] at h1
    rw [hold_first hf hp] at HF
    clear ha hf hT hp
    go_enter Tryd.func9, Tryd.ntmps9
    go_wp2_with fail
    refine HF.mono ?_
    rintro _ _ ⟨rfl, rfl⟩
    clear HF
    go_wp2
    go_ret
    exact ⟨rfl, Below.refl _ w⟩
  · have e : s.p = -1 := by have := hf.2.1; omega
    rw [decide_eq_false hp] at h1
    rw [e]
    clear ha hf hT hp e HF
    go_enter Tryd.func9, Tryd.ntmps9
    go_wp2
    go_ret
    exact ⟨rfl, Below.refl _ w⟩
set_option maxHeartbeats 400000 in
theorem readers_any (w : World) (g : Nat) (s : Rx) (ha : AtM w g s) (hf : Fine s) :
    Calls Tryd.prog 10 #[.pointer (some ⟨g, 0, none⟩)] w fun e w' => e = .returned (.int .u64 (s.r : Int)) ∧ Below w.heap.size w w' := by
  obtain ⟨h0, h1⟩ := rw_cells ha
  by_cases hp : 0 ≤ s.p
  · rw [decide_eq_true hp] at h1
    rw [hf.2.2.2 hp, show ((0 : Nat) : Int) = 0 from rfl]
    clear ha hf hp
    go_enter Tryd.func10, Tryd.ntmps10
    go_wp2
    go_ret
    exact ⟨rfl, Below.refl _ w⟩
  · rw [decide_eq_false hp] at h1
    rw [hold_rd (by omega)] at h0
    clear ha hf hp
    go_enter Tryd.func10, Tryd.ntmps10
    go_wp2
    go_ret
    exact ⟨rfl, Below.refl _ w⟩
set_option maxHeartbeats 400000 in
theorem holders_any (w : World) (g : Nat) (s : Rx) (ha : AtM w g s) :
    Calls Tryd.prog 11 #[.pointer (some ⟨g, 0, none⟩)] w fun e w' => e = .returned (.int .u64 ((holdR s : Nat) : Int)) ∧ Below w.heap.size w w' := by
  obtain ⟨h0, h1⟩ := rw_cells ha
  clear ha
  go_enter Tryd.func11, Tryd.ntmps11
  go_wp2
  go_ret
  exact ⟨rfl, Below.refl _ w⟩

theorem read_nil (w : World) (t : Int) : Calls Tryd.prog 16 #[.pointer none, .int .i64 t] w fun e w' => e = .returned (.int .i64 1) ∧ Below w.heap.size w w' := by
  go_enter Tryd.func16, Tryd.ntmps16
  go_wp2_with fail
  refine (refuse_nil w t).mono ?_
  rintro _ _ ⟨rfl, rfl⟩
  go_wp2
  go_ret
  exact ⟨rfl, Below.refl _ w⟩
theorem write_nil (w : World) (t : Int) : Calls Tryd.prog 17 #[.pointer none, .int .i64 t] w fun e w' => e = .returned (.int .i64 1) ∧ Below w.heap.size w w' := by
  go_enter Tryd.func17, Tryd.ntmps17
  go_wp2_with fail
  refine (refuse_nil w t).mono ?_
  rintro _ _ ⟨rfl, rfl⟩
  go_wp2
  go_ret
  exact ⟨rfl, Below.refl _ w⟩
theorem leave_nil (w : World) (t : Int) : Calls Tryd.prog 18 #[.pointer none, .int .i64 t] w fun e w' => e = .returned (.int .i64 1) ∧ Below w.heap.size w w' := by
  go_enter Tryd.func18, Tryd.ntmps18
  go_wp2_with fail
  refine (takes_nil w t).mono ?_
  rintro _ _ ⟨rfl, rfl⟩
  go_wp2
  go_ret
  exact ⟨rfl, Below.refl _ w⟩
theorem writer_nil (w : World) : Calls Tryd.prog 9 #[.pointer none] w fun e w' => e = .returned (.int .i64 (-1)) ∧ Below w.heap.size w w' := by
  go_enter Tryd.func9, Tryd.ntmps9
  go_wp2
  go_ret
  exact ⟨rfl, Below.refl _ w⟩
theorem readers_nil (w : World) : Calls Tryd.prog 10 #[.pointer none] w fun e w' => e = .returned (.int .u64 0) ∧ Below w.heap.size w w' := by
  go_enter Tryd.func10, Tryd.ntmps10
  go_wp2
  go_ret
  exact ⟨rfl, Below.refl _ w⟩
theorem holders_nil (w : World) : Calls Tryd.prog 11 #[.pointer none] w fun e w' => e = .returned (.int .u64 0) ∧ Below w.heap.size w w' := by
  go_enter Tryd.func11, Tryd.ntmps11
  go_wp2
  go_ret
  exact ⟨rfl, Below.refl _ w⟩
theorem keeps : Keeps Okt AtM where
  mono := okt_mono
  loc := fun w w' g m h hb _ => hb.trans h
  lt := fun w g m h => lt_of_block h
  new := rw_new
  read := fun w g s t ha hf _ => read_any w g s t ha hf
  write := fun w g s t ha hf _ => write_any w g s t ha hf
  leave := fun w g s t ha hf _ => leave_any w g s t ha hf
  mode := fun w g s t ha hf _ => (mode_any w g s t ha hf).mono fun _ _ h => ⟨h.1, h.2 ▸ Below.refl _ w⟩
  writer := fun w g s ha hf hk => writer_any w g s ha hf hk.1
  readers := readers_any
  holders := fun w g s ha _ => holders_any w g s ha
  nread := fun w t _ => read_nil w t
  nwrite := fun w t _ => write_nil w t
  nleave := fun w t _ => leave_nil w t
  nmode := fun w t _ => (mode_nil w t).mono fun _ _ h => ⟨h.1, h.2 ▸ Below.refl _ w⟩
  nwriter := writer_nil
  nreaders := readers_nil
  nholders := holders_nil
end Go.Proofs.YthfgaflfnnlhnaaDoor.rwl
