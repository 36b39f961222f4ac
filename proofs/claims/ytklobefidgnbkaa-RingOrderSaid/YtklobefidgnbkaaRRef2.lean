/-
  The document's answer to the other calls, each way by itself, and to any. No condition.
-/
import Derived.Test.YtklobefidgnbkaaRRef
namespace Go.Proofs.Ytklobefidgnbkaa.ring
open Go.RowKit
attribute [local go_sem ↓] Go.wp_at_zero Go.wp_at_succ

set_option maxHeartbeats 800000 in
theorem ref_front (w : World) (base g cap room : Nat) (l : List Int) (x : Int) (hrow : Row w base g cap l) (hl : l.length < room) (hs : room ≤ 4096) :
    Calls Try.prog 9 #[.slice (some ⟨g, 0, none⟩) l.length cap, .int .i64 (room : Int), .agg #[.int .i64 1, .int .i64 x]] w (Told w g cap l (x :: l, 0, true)) := by
  have hd : decide ((l.length : Int) ≥ (room : Int)) = false := by simp; omega
  have r0 := ref0 w 1 x
  have hlt := hrow.lt
  have hW : ∃ W, W = ((w.alloc (.cells #[.int .i64 1, .int .i64 x] 29)).alloc (.cells #[] 3)).alloc (.cells #[.int .i64 x] 3) ∧ Row W (w.heap.size + 1) (w.heap.size + 1) 0 [] ∧ Src W (w.heap.size + 2) 0 [x] ∧ Src W g 0 l ∧ Below w.heap.size w W ∧ W.heap.size = w.heap.size + 3 := by
    refine ⟨_, rfl, (Row.nil r0.nil).keep (Below.heap_alloc _ _ _ (by rw [r0.size]; omega)), ?_, (hrow.src.keep (r0.below.block g hlt.2)).keep (Below.heap_alloc _ _ _ (by rw [r0.size]; omega)), r0.below.alloc (by rw [r0.size]; omega) _, by simp⟩
    have h1 := heap_alloc_new ((w.alloc (.cells #[.int .i64 1, .int .i64 x] 29)).alloc (.cells #[] 3)) (.cells #[.int .i64 x] 3)
    rw [r0.size] at h1
    exact Src.one h1
  obtain ⟨W, hWe, rowN, srcX, srcL, hb, hz⟩ := hW
  have hg : g ≠ w.heap.size + 1 := by omega
  clear r0 hrow
  have HW := Lib.hid hWe
  have HZ := Lib.hid hz
  have hz1 : w.heap.size + 3 ≤ W.heap.size := by omega
  clear hz
  subst hWe
  go_enter Try.func9, Try.ntmps9
  go_wp2_with (at_builtin; refine wpList_app (by rfl) (.tmp 36) (.tmp 39) (by rfl) (w.heap.size + 1) (w.heap.size + 1) 0 0 (w.heap.size + 2) 0 1 1 [] [x] (by rfl) rfl rowN (by rfl) rfl srcX (by simp) (by omega) ?_)
  intro g1 cap1 w1 hr1 hg1
  have hk1 := hr1.lt
  have srcL1 : Src w1 g 0 l := srcL.keep (hg1.block g (by omega) (by simp; omega))
  have hs1 := hg1.size
  have hb1 := hb.grown hg1 (by omega) (fun k e => by simp at e; omega)
  clear srcL rowN srcX hg1 hb hz1 HW HZ
  change Row w1 (w.heap.size + 1) g1 cap1 [x] at hr1
  go_wp2_with (at_builtin; refine wpList_app (by rfl) (.tmp 40) (.tmp 41) (by rfl) (w.heap.size + 1) g1 cap1 1 g 0 l.length cap [x] l (by rfl) rfl hr1 (by rfl) rfl srcL1 (by simp; omega) (by omega) ?_)
  intro g2 cap2 w2 hr2 hg2
  have HB := Lib.hid (hb1.grown hg2 (by omega) (fun k e => by simp at e; omega))
  have HR := Lib.hid (hr2.base (Nat.le_succ w.heap.size))
  clear hb1 hr2 hg2 hr1 srcL1
  go_wp2
  go_ret3
  exact ⟨g2, cap2, by simp, .inr HR.out, HB.out⟩

set_option maxHeartbeats 800000 in
theorem ref_popBack (w : World) (base g cap room : Nat) (l : List Int) (y x : Int) (hrow : Row w base g cap (l ++ [y])) (hs : l.length ≤ 4096) :
    Calls Try.prog 9 #[.slice (some ⟨g, 0, none⟩) (l.length + 1) cap, .int .i64 (room : Int), .agg #[.int .i64 2, .int .i64 x]] w (Told w g cap (l ++ [y]) (l, y, true)) := by
  have r0 := ref0 w 2 x
  have hlt := hrow.lt
  have hcap := hrow.cap
  rw [List.length_append, List.length_cons, List.length_nil] at hcap
  have hp1 : (0 : Int) ≤ (l.length : Int) := by omega
  have hp2 : (l.length : Int) < (l.length : Int) + 1 := by omega
  have hp3 : (l.length : Int) ≤ (cap : Int) := by omega
  have e0 : (((l.length + 1 : Nat) : Int) == 0) = false := by simp; omega
  go_enter Try.func9, Try.ntmps9
  go_wp2_with fail
  generalize (w.alloc (.cells #[.int .i64 2, .int .i64 x] 29)).alloc (.cells #[] 3) = W at *
  have rowN := Row.nil r0.nil
  have srcL := hrow.src.keep (r0.below.block g hlt.2)
  have cy : W.cell? ⟨g, l.length, none⟩ = some (.int .i64 y) := by
    have := srcL l.length (by simp)
    simpa [List.getD] using this
  have hz := r0.size
  have R0 := Lib.hid r0
  clear r0 hrow
  have hw0 : IntKind.i64.wrap ((l.length : Int) + 1 - 1) = (l.length : Int) := by rw [IntKind.wrap_i64]; omega
  have hw1 : IntKind.i64.wrap (l.length : Int) = (l.length : Int) := by rw [IntKind.wrap_i64]; omega
  go_region_held3 (fun w' => w'.cell? ⟨g, l.length, none⟩ = some (.int .i64 y)) (first | go_keep | (rw [hg1.cell_far _ (by simp; omega) (by simp; omega)]; assumption))
    (first | (refine step_app (w := W.drew) (by rfl) _ _ (by rfl) (w.heap.size + 1) (w.heap.size + 1) 0 0 g 0 l.length cap [] l (by rfl) rfl rowN (by rfl) rfl srcL.take (by simp; omega) (by simp; omega) ?_; intro g1 cap1 w1 hr1 hg1; simp only [List.nil_append] at hr1 ⊢))
  have HB := Lib.hid (R0.out.below.drew.grown hg1 (by simp; omega) (fun k e => by simp at e; omega))
  have HR := Lib.hid (hr1.base (Nat.le_succ w.heap.size))
  clear hg1 hr1 rowN srcL cy
  go_wp2
  go_ret3
  exact ⟨g1, cap1, by simp, .inr HR.out, HB.out⟩

set_option maxHeartbeats 800000 in
theorem ref_popFront (w : World) (base g cap room : Nat) (l : List Int) (y x : Int) (hrow : Row w base g cap (y :: l)) (hs : l.length ≤ 4096) :
    Calls Try.prog 9 #[.slice (some ⟨g, 0, none⟩) (l.length + 1) cap, .int .i64 (room : Int), .agg #[.int .i64 3, .int .i64 x]] w (Told w g cap (y :: l) (l, y, true)) := by
  have r0 := ref0 w 3 x
  have hlt := hrow.lt
  have hcap := hrow.cap
  rw [List.length_cons] at hcap
  have hp0 : (0 : Int) < (l.length : Int) + 1 := by omega
  have hp1 : (1 : Int) ≤ (l.length : Int) + 1 := by omega
  have hp3 : (l.length : Int) + 1 ≤ (cap : Int) := by omega
  have e0 : (((l.length + 1 : Nat) : Int) == 0) = false := by simp; omega
  by_cases hc1 : cap = 1
  · subst hc1
    obtain rfl : l = [] := List.eq_nil_of_length_eq_zero (by omega)
    clear e0 hp0 hp1 hp3 hcap hs
    go_enter Try.func9, Try.ntmps9
    go_wp2_with fail
    generalize (w.alloc (.cells #[.int .i64 3, .int .i64 x] 29)).alloc (.cells #[] 3) = W at *
    have rowN := Row.nil r0.nil
    have srcL := hrow.src.keep (r0.below.block g hlt.2)
    have cy : W.cell? ⟨g, 0, none⟩ = some (.int .i64 y) := by
      have := srcL 0 (by simp)
      simpa [List.getD] using this
    have hz := r0.size
    have R0 := Lib.hid r0
    clear r0 hrow
    go_region_held3 (fun w' => w'.cell? ⟨g, 0, none⟩ = some (.int .i64 y)) (first | go_keep | (rw [hg1.cell_far _ (by simp; omega) (by simp; omega)]; assumption))
      (first | (refine step_app (w := W.drew) (by rfl) _ _ (by rfl) (w.heap.size + 1) (w.heap.size + 1) 0 0 g 0 0 0 [] [] (by rfl) rfl rowN (by rfl) rfl (fun j hj => absurd hj (by simp)) (by simp) (by simp; omega) ?_; intro g1 cap1 w1 hr1 hg1))
    have HB := Lib.hid (R0.out.below.drew.grown hg1 (by simp; omega) (fun k e => by simp at e; omega))
    have HR := Lib.hid (hr1.base (Nat.le_succ w.heap.size))
    clear hg1 hr1 rowN srcL cy
    go_wp2
    go_ret3
    exact ⟨g1, cap1, by simp, .inr HR.out, HB.out⟩
  · go_enter Try.func9, Try.ntmps9
    go_wp2_with fail
    generalize (w.alloc (.cells #[.int .i64 3, .int .i64 x] 29)).alloc (.cells #[] 3) = W at *
    have rowN := Row.nil r0.nil
    have srcL := hrow.src.keep (r0.below.block g hlt.2)
    have cy : W.cell? ⟨g, 0, none⟩ = some (.int .i64 y) := by
      have := srcL 0 (by simp)
      simpa [List.getD] using this
    have hz := r0.size
    have R0 := Lib.hid r0
    clear r0 hrow
    go_region_held3 (fun w' => w'.cell? ⟨g, 0, none⟩ = some (.int .i64 y)) (first | go_keep | (rw [hg1.cell_far _ (by simp; omega) (by simp; omega)]; assumption))
      (first | (refine step_app (w := W.drew) (by rfl) _ _ (by rfl) (w.heap.size + 1) (w.heap.size + 1) 0 0 g 1 l.length (cap - 1) [] l (by rfl) rfl rowN (by rfl) rfl srcL.drop (by simp; omega) (by simp; omega) ?_; intro g1 cap1 w1 hr1 hg1; simp only [List.nil_append] at hr1 ⊢))
    have HB := Lib.hid (R0.out.below.drew.grown hg1 (by simp; omega) (fun k e => by simp at e; omega))
    have HR := Lib.hid (hr1.base (Nat.le_succ w.heap.size))
    clear hg1 hr1 rowN srcL cy
    go_wp2
    go_ret3
    exact ⟨g1, cap1, by simp, .inr HR.out, HB.out⟩

theorem ref_at (w : World) (base g cap room i : Nat) (l : List Int) (k : Int) (k0 : k ≠ 0) (k1 : k ≠ 1) (k2 : k ≠ 2) (k3 : k ≠ 3) (hrow : Row w base g cap l) (hi : i < l.length) :
    Calls Try.prog 9 #[.slice (some ⟨g, 0, none⟩) l.length cap, .int .i64 (room : Int), .agg #[.int .i64 k, .int .i64 (i : Int)]] w (Told w g cap l (l, l.getD i 0, true)) := by
  have e0 := eqb_false k0
  have e1 := eqb_false k1
  have e2 := eqb_false k2
  have e3 := eqb_false k3
  have r0 := ref0 w k (i : Int)
  have hlt := hrow.lt
  have hi1 : (0 : Int) ≤ (i : Int) := by omega
  have hi2 : (i : Int) < (l.length : Int) := by omega
  have hd : decide ((i : Int) ≥ (l.length : Int)) = false := by simp; omega
  go_enter Try.func9, Try.ntmps9
  go_wp2_with fail
  generalize (w.alloc (.cells #[.int .i64 k, .int .i64 (i : Int)] 29)).alloc (.cells #[] 3) = W at *
  have srcL := hrow.src.keep (r0.below.block g hlt.2)
  have cy : W.cell? ⟨g, i, none⟩ = some (.int .i64 (l.getD i 0)) := by
    have := srcL i hi
    rw [Nat.zero_add] at this
    exact this
  have c1 := r0.c1
  have HB := Lib.hid fun m => below_drewN r0.below m
  clear r0 srcL hrow
  generalize l.getD i 0 = y at *
  go_quiet (fail)
  go_wp2
  go_ret3
  exact ⟨g, cap, rfl, .inl ⟨rfl, rfl, rfl⟩, HB.out _⟩
theorem ref_out (w : World) (g cap room : Nat) (l : List Int) (k x : Int) (k0 : k ≠ 0) (k1 : k ≠ 1) (k2 : k ≠ 2) (k3 : k ≠ 3) (hx : x < 0 ∨ (l.length : Int) ≤ x) :
    Calls Try.prog 9 #[.slice (some ⟨g, 0, none⟩) l.length cap, .int .i64 (room : Int), .agg #[.int .i64 k, .int .i64 x]] w (Told w g cap l (l, 0, false)) := by
  have e0 := eqb_false k0
  have e1 := eqb_false k1
  have e2 := eqb_false k2
  have e3 := eqb_false k3
  have HB := Lib.hid (((Below.refl w.heap.size w).alloc (Nat.le_refl _) (.cells #[.int .i64 k, .int .i64 x] 29)).alloc (by simp) (.cells #[] 3))
  clear k0 k1 k2 k3
  by_cases h : x < 0
  · clear hx
    go_enter Try.func9, Try.ntmps9
    go_wp2_with fail
    go_ret3
    exact ⟨g, cap, rfl, .inl ⟨rfl, rfl, rfl⟩, HB.out⟩
  · have h2 : (l.length : Int) ≤ x := by omega
    have h3 : 0 ≤ x := by omega
    clear hx h
    go_enter Try.func9, Try.ntmps9
    go_wp2_with fail
    go_ret3
    exact ⟨g, cap, rfl, .inl ⟨rfl, rfl, rfl⟩, HB.out⟩

/-- The document's answer to any call. -/
theorem ref_any (w : World) (base g cap room : Nat) (l : List Int) (k x : Int) (hrow : Row w base g cap l) (hl : l.length ≤ room) (hs : room ≤ 4096) :
    Calls Try.prog 9 #[.slice (some ⟨g, 0, none⟩) l.length cap, .int .i64 (room : Int), .agg #[.int .i64 k, .int .i64 x]] w (Told w g cap l (play room l k x)) := by
  by_cases k0 : k = 0
  · subst k0
    by_cases hlr : l.length < room
    · rw [show play room l 0 x = (l ++ [x], 0, true) by simp [play, hlr]]
      exact ref_back w base g cap room l x hrow hlr hs
    · rw [show play room l 0 x = (l, 0, false) by simp [play, hlr]]
      exact ref_full w g cap room l 0 x (.inl rfl) hlr
  by_cases k1 : k = 1
  · subst k1
    by_cases hlr : l.length < room
    · rw [show play room l 1 x = (x :: l, 0, true) by simp [play, hlr]]
      exact ref_front w base g cap room l x hrow hlr hs
    · rw [show play room l 1 x = (l, 0, false) by simp [play, hlr]]
      exact ref_full w g cap room l 1 x (.inr rfl) hlr
  by_cases k2 : k = 2
  · subst k2
    rcases List.eq_nil_or_concat l with rfl | ⟨l0, y, rfl⟩
    · exact ref_none w g cap room 2 x (.inl rfl)
    · rw [List.concat_eq_append] at *
      rw [show play room (l0 ++ [y]) 2 x = (l0, y, true) by simp [play], List.length_append]
      exact ref_popBack w base g cap room l0 y x hrow (by rw [List.length_append] at hl; omega)
  by_cases k3 : k = 3
  · subst k3
    rcases l with _ | ⟨y, l0⟩
    · exact ref_none w g cap room 3 x (.inr rfl)
    · rw [show play room (y :: l0) 3 x = (l0, y, true) by simp [play]]
      exact ref_popFront w base g cap room l0 y x hrow (by rw [List.length_cons] at hl; omega)
  by_cases hx : 0 ≤ x ∧ x < l.length
  · obtain ⟨i, rfl⟩ := Int.eq_ofNat_of_zero_le hx.1
    rw [show play room l k i = (l, l.getD i 0, true) by simp [play, k0, k1, k2, k3, hx]]
    exact ref_at w base g cap room i l k k0 k1 k2 k3 hrow (by omega)
  · rw [show play room l k x = (l, 0, false) by unfold play; rw [if_neg k0, if_neg k1, if_neg k2, if_neg k3, if_neg hx]]
    exact ref_out w g cap room l k x k0 k1 k2 k3 (by omega)
end Go.Proofs.Ytklobefidgnbkaa.ring
