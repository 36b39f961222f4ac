/-
  The document's answer to a call, each way by itself. No condition.
-/
import Derived.Test.YtklobefidgnbkaaRApp
namespace Go.Proofs.Ytklobefidgnbkaa.ring
open Go.RowKit
attribute [local go_sem ↓] Go.wp_at_zero Go.wp_at_succ

/-- Behind the call's two own blocks: what is known of the world. -/
structure Ref0 (w W : World) (k x : Int) : Prop where
  c0 : W.cell? ⟨w.heap.size, 0, none⟩ = some (.int .i64 k)
  c1 : W.cell? ⟨w.heap.size, 1, none⟩ = some (.int .i64 x)
  nil : W.heap[w.heap.size + 1]? = some (.cells #[] 3 (0, 0))
  size : W.heap.size = w.heap.size + 2
  below : Below w.heap.size w W
theorem ref0 (w : World) (k x : Int) : Ref0 w ((w.alloc (.cells #[.int .i64 k, .int .i64 x] 29)).alloc (.cells #[] 3)) k x := by
  have h1 : ((w.alloc (.cells #[.int .i64 k, .int .i64 x] 29)).alloc (.cells #[] 3)).heap[w.heap.size]? = some (.cells #[.int .i64 k, .int .i64 x] 29 (0, 0)) := by
    rw [Below.heap_alloc _ _ _ (by simp)]
    exact heap_alloc_new w _
  refine ⟨by simp [World.cell?, h1], by simp [World.cell?, h1], ?_, by simp, ((Below.refl _ _).alloc (Nat.le_refl _) _).alloc (by simp) _⟩
  have h2 := heap_alloc_new (w.alloc (.cells #[.int .i64 k, .int .i64 x] 29)) (.cells #[] 3)
  simpa using h2

theorem ref_full (w : World) (g cap room : Nat) (l : List Int) (k x : Int) (hk : k = 0 ∨ k = 1) (hl : ¬ l.length < room) :
    Calls Try.prog 9 #[.slice (some ⟨g, 0, none⟩) l.length cap, .int .i64 (room : Int), .agg #[.int .i64 k, .int .i64 x]] w (Told w g cap l (l, 0, false)) := by
  have hd : decide ((l.length : Int) ≥ (room : Int)) = true := by simp; omega
  have hle : (room : Int) ≤ (l.length : Int) := by omega
  clear hl
  have hb := ((Below.refl w.heap.size w).alloc (Nat.le_refl _) (.cells #[.int .i64 k, .int .i64 x] 29)).alloc (by simp) (.cells #[] 3)
  have HB := Lib.hid hb
  clear hb
  rcases hk with rfl | rfl
  all_goals
    go_enter Try.func9, Try.ntmps9
    go_wp2_with fail
    go_ret3
    exact ⟨g, cap, rfl, .inl ⟨rfl, rfl, rfl⟩, HB.out⟩
theorem ref_none (w : World) (g cap room : Nat) (k x : Int) (hk : k = 2 ∨ k = 3) :
    Calls Try.prog 9 #[.slice (some ⟨g, 0, none⟩) 0 cap, .int .i64 (room : Int), .agg #[.int .i64 k, .int .i64 x]] w (Told w g cap [] ([], 0, false)) := by
  have hb := ((Below.refl w.heap.size w).alloc (Nat.le_refl _) (.cells #[.int .i64 k, .int .i64 x] 29)).alloc (by simp) (.cells #[] 3)
  have HB := Lib.hid hb
  clear hb
  rcases hk with rfl | rfl
  all_goals
    go_enter Try.func9, Try.ntmps9
    go_wp2_with fail
    go_ret3
    exact ⟨g, cap, rfl, .inl ⟨rfl, rfl, rfl⟩, HB.out⟩

set_option maxHeartbeats 800000 in
theorem ref_back (w : World) (base g cap room : Nat) (l : List Int) (x : Int) (hrow : Row w base g cap l) (hl : l.length < room) (hs : room ≤ 4096) :
    Calls Try.prog 9 #[.slice (some ⟨g, 0, none⟩) l.length cap, .int .i64 (room : Int), .agg #[.int .i64 0, .int .i64 x]] w (Told w g cap l (l ++ [x], 0, true)) := by
  have hd : decide ((l.length : Int) ≥ (room : Int)) = false := by simp; omega
  have r0 := ref0 w 0 x
  have hlt := hrow.lt
  go_enter Try.func9, Try.ntmps9
  go_wp2_with fail
  generalize (w.alloc (.cells #[.int .i64 0, .int .i64 x] 29)).alloc (.cells #[] 3) = W at *
  have rowN := Row.nil r0.nil
  have srcL := hrow.src.keep (r0.below.block g hlt.2)
  have c1 := r0.c1
  have hz := r0.size
  have hx1 : ∀ w1, ((W.alloc (.cells #[.int .i64 x] 3)).drew).grownBy w1 (some (w.heap.size + 1)) → w1.heap[w.heap.size + 2]? = some (.cells #[.int .i64 x] 3 (0, 0)) := by
    intro w1 hg
    have h1 := heap_alloc_new W (.cells #[.int .i64 x] 3)
    rw [hz] at h1
    rw [hg.block _ (by simp; omega) (by simp)]
    exact h1
  have R0 := Lib.hid r0
  clear r0 hrow
  go_region_held3 (fun w' => w'.cell? ⟨w.heap.size, 1, none⟩ = some (.int .i64 x))
    (first
      | go_keep
      | (rw [hg1.cell_far _ (by simp; omega) (by simp)]; assumption)
      | (rw [hg2.cell_far _ (by have := hg1.size; simp at this ⊢; omega) (by have := hr1.lt; simp; omega)]; assumption))
    (first
      | (refine step_app (w := W.drew) (by rfl) _ _ (by rfl) (w.heap.size + 1) (w.heap.size + 1) 0 0 g 0 l.length cap [] l (by rfl) rfl rowN (by rfl) rfl srcL (by simp; omega) (by simp; omega) ?_; intro g1 cap1 w1 hr1 hg1; simp only [List.nil_append] at hr1 ⊢)
      | (refine step_app (w := w1.alloc (.cells #[.int .i64 x] 3)) (by rfl) _ _ (by rfl) (w.heap.size + 1) g1 cap1 l.length w1.heap.size 0 1 1 l [x] (by rfl) rfl (hr1.keep (Below.heap_alloc _ _ _ hr1.lt.2)) (by rfl) rfl (Src.one (heap_alloc_new w1 _)) (by simp; omega) (by have := hg1.size; simp at this ⊢; omega) ?_; intro g2 cap2 w2 hr2 hg2)
      | (refine step_app (w := (W.alloc (.cells #[.int .i64 x] 3)).drew) (by rfl) _ _ (by rfl) (w.heap.size + 1) (w.heap.size + 1) 0 0 g 0 l.length cap [] l (by rfl) rfl (rowN.keep (Below.heap_alloc _ _ _ (by omega))) (by rfl) rfl (srcL.keep (Below.heap_alloc _ _ _ (by omega))) (by simp; omega) (by simp; omega) ?_; intro g1 cap1 w1 hr1 hg1; simp only [List.nil_append] at hr1 ⊢)
      | (refine step_app (w := w1) (by rfl) _ _ (by rfl) (w.heap.size + 1) g1 cap1 l.length (w.heap.size + 2) 0 1 1 l [x] (by rfl) rfl hr1 (by rfl) rfl (Src.one (hx1 w1 hg1)) (by simp; omega) (by have := hg1.size; simp at this ⊢; omega) ?_; intro g2 cap2 w2 hr2 hg2))
  all_goals
    have hb : Below w.heap.size w w2 := by
      have h1 := hr1.lt
      have hs1 := hg1.size
      have b0 := R0.out.below
      simp at hs1
      first
        | exact ((b0.drew.grown hg1 (by simp; omega) (fun k e => by simp at e; omega)).alloc (by omega) _).grown hg2 (by simp; omega) (fun k e => by simp at e; omega)
        | exact ((b0.alloc (by omega) _).drew.grown hg1 (by simp; omega) (fun k e => by simp at e; omega)).grown hg2 (by omega) (fun k e => by simp at e; omega)
    have HB := Lib.hid hb
    have HR := Lib.hid (hr2.base (Nat.le_succ w.heap.size))
    clear hb hr2 hg1 hg2 hr1 rowN srcL hx1
    go_wp2
    go_ret3
    exact ⟨g2, cap2, by simp, .inr HR.out, HB.out⟩
end Go.Proofs.Ytklobefidgnbkaa.ring
