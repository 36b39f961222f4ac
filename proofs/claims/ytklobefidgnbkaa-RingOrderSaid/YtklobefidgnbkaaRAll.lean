/-
  A new row, all that stands in one, and one apart, each by itself. No condition.
-/
import Derived.Test.YtklobefidgnbkaaRFit
namespace Go.Proofs.Ytklobefidgnbkaa.ring
open Go.RowKit
attribute [local go_sem ↓] Go.wp_at_zero Go.wp_at_succ

/-- The room that a row has of a number. -/
def clamp (n : Int) : Nat := (min (max n 0) 4096).toNat
theorem clamp_le (n : Int) : clamp n ≤ 4096 := by unfold clamp; omega

theorem new_at (w : World) (n : Nat) (hn : n ≤ 4096) : Lies (w.alloc (.cells #[.slice none 0 0, .int .i64 0, .int .i64 0, .int .i64 (n : Int)] 46)) w.heap.size w.heap.size n [] :=
  ⟨none, [], 0, ⟨heap_alloc_new w _, .inl ⟨rfl, rfl⟩, Nat.le_refl _, Nat.zero_le _, hn, Nat.zero_le _⟩, rfl⟩

set_option maxHeartbeats 400000 in
theorem new_any (w : World) (n : Int) :
    Calls Try.prog 7 #[.int .i64 n] w fun e w' => e = .returned (.pointer (some ⟨w.heap.size, 0, none⟩)) ∧ Lies w' w.heap.size w.heap.size (clamp n) [] ∧ Below w.heap.size w w' := by
  have H : ∀ m : Nat, m ≤ 4096 → clamp n = m → Calls Try.prog 7 #[.int .i64 n] w (fun e w' => e = .returned (.pointer (some ⟨w.heap.size, 0, none⟩)) ∧ w' = w.alloc (.cells #[.slice none 0 0, .int .i64 0, .int .i64 0, .int .i64 (m : Int)] 46)) → Calls Try.prog 7 #[.int .i64 n] w fun e w' => e = .returned (.pointer (some ⟨w.heap.size, 0, none⟩)) ∧ Lies w' w.heap.size w.heap.size (clamp n) [] ∧ Below w.heap.size w w' := by
    intro m hm he hc
    refine hc.mono ?_
    rintro e w' ⟨rfl, rfl⟩
    rw [he]
    exact ⟨rfl, new_at w m hm, (Below.refl _ _).alloc (Nat.le_refl _) _⟩
  by_cases h1 : n < 0
  · refine H 0 (by omega) (by unfold clamp; omega) ?_
    clear H
    go_enter Try.func7, Try.ntmps7
    go_wp2
    go_ret
    exact ⟨rfl, rfl⟩
  · by_cases h2 : n ≤ 4096
    · obtain ⟨m, rfl⟩ := Int.eq_ofNat_of_zero_le (show 0 ≤ n by omega)
      refine H m (by omega) (by unfold clamp; omega) ?_
      have h3 : 0 ≤ (m : Int) := by omega
      clear H h1
      go_enter Try.func7, Try.ntmps7
      go_wp2
      all_goals (go_ret; exact ⟨rfl, rfl⟩)
    · refine H 4096 (by omega) (by unfold clamp; omega) ?_
      have h3 : 0 ≤ n := by omega
      have h4 : 4096 < n := by omega
      clear H h1 h2
      go_enter Try.func7, Try.ntmps7
      go_wp2
      all_goals (go_ret; exact ⟨rfl, rfl⟩)

theorem all_any (w : World) (br bi room : Nat) (l : List Int) (h : Lies w br bi room l) :
    Calls Try.prog 13 #[.pointer (some ⟨br, 0, none⟩)] w fun e w' => e = .returned (.slice (some ⟨w.heap.size, 0, none⟩) l.length l.length) ∧
      w'.heap[w.heap.size]? = some (.cells (ints l).toArray 3 (0, 0)) ∧ Below w.heap.size w w' := by
  have hr := h.room
  obtain ⟨a, D, f, h, hv⟩ := h
  have h1 := len_any w br bi a D f l.length room h
  have h2 := laid_any w br bi a D f l.length room l.length h (Nat.le_refl _) (by omega)
  rw [hv, Nat.sub_self, List.replicate_zero, List.append_nil] at h2
  clear h hv
  go_enter Try.func13, Try.ntmps13
  go_wp2_with (first | (go_at_call 11; refine h1.mono ?_; rintro e w' ⟨rfl, rfl⟩) | (go_at_call 21; refine h2.mono ?_; rintro e w' ⟨rfl, hh, hb⟩))
  go_ret
  exact ⟨rfl, hh, hb⟩

theorem laid_nil (w : World) :
    Calls Try.prog 21 #[.pointer none, .int .i64 0] w fun e w' => e = .returned (.slice (some ⟨w.heap.size, 0, none⟩) 0 0) ∧ Below w.heap.size w w' := by
  have hmk := made 0 (by omega)
  simp only [Int.natCast_zero] at hmk
  go_enter Try.func21, Try.ntmps21
  go_wp2_with (go_at_call 11; refine (len_nil _).mono ?_; rintro e w' ⟨rfl, rfl⟩)
  go_loopw [11] (fun t wr => t = .int .i64 0 ∧ Below w.heap.size w wr) (fun t _ => (intOf t).toNat)
  case atStart => exact ⟨rfl, (Below.refl _ _).alloc (Nat.le_refl _) _⟩
  case round =>
    obtain ⟨rfl, hb⟩ := hrel
    go_wp2_with fail
    go_ret
    exact ⟨rfl, hb⟩
theorem all_nil (w : World) :
    Calls Try.prog 13 #[.pointer none] w fun e w' => e = .returned (.slice (some ⟨w.heap.size, 0, none⟩) 0 0) ∧ Below w.heap.size w w' := by
  go_enter Try.func13, Try.ntmps13
  go_wp2_with (first | (go_at_call 11; refine (len_nil _).mono ?_; rintro e w' ⟨rfl, rfl⟩) | (go_at_call 21; refine (laid_nil _).mono ?_; rintro e w' ⟨rfl, hb⟩))
  go_ret
  exact ⟨rfl, hb⟩
theorem clone_nil (w : World) :
    Calls Try.prog 19 #[.pointer none] w fun e w' => e = .returned (.pointer none) ∧ w = w' := by
  go_enter Try.func19, Try.ntmps19
  go_wp2
  go_ret
  exact ⟨rfl, rfl⟩

theorem clone_done {w w1 : World} {room : Nat} {l : List Int} (hr : l.length ≤ room ∧ room ≤ 4096) (hh : w1.heap[w.heap.size]? = some (.cells (ints l).toArray 3 (0, 0))) (hb : Below w.heap.size w w1) :
    Lies (w1.alloc (.cells #[.slice (some ⟨w.heap.size, 0, none⟩) l.length l.length, .int .i64 0, .int .i64 (l.length : Int), .int .i64 (room : Int)] 46)) w1.heap.size w.heap.size room l ∧
    Below w.heap.size w (w1.alloc (.cells #[.slice (some ⟨w.heap.size, 0, none⟩) l.length l.length, .int .i64 0, .int .i64 (l.length : Int), .int .i64 (room : Int)] 46)) := by
  have hlt := lt_of_block hh
  refine ⟨⟨some ⟨w.heap.size, 0, none⟩, l, 0, ⟨heap_alloc_new w1 _, .inr ⟨rfl, by omega, ?_⟩, Nat.le_refl _, hr.1, hr.2, by omega⟩, ?_⟩, hb.alloc hb.size _⟩
  · rw [Below.heap_alloc _ _ _ hlt]
    exact hh
  · have e := view_laid l []
    rw [List.append_nil] at e
    exact e

set_option maxHeartbeats 400000 in
theorem clone_any (w : World) (br bi room : Nat) (l : List Int) (h : Lies w br bi room l) :
    Calls Try.prog 19 #[.pointer (some ⟨br, 0, none⟩)] w fun e w' => ∃ kr, e = .returned (.pointer (some ⟨kr, 0, none⟩)) ∧ w.heap.size < kr ∧ Lies w' kr w.heap.size room l ∧ Below w.heap.size w w' := by
  have hr := h.room
  have hall := fun m => all_any (w.drewN m) br bi room l (h.drewN m)
  obtain ⟨a, D, f, h, hv⟩ := h
  obtain ⟨_, _, c2, c3, _, _, _⟩ := h.cells
  have hk := fun w1 (hb : Below w.heap.size w w1) => (h.keep (hb.block _ h.lt.1) (hb.block _ h.lt.2)).cells
  clear h hv
  go_enter Try.func19, Try.ntmps19
  go_wp2
  go_region_held3 (fun w' => w'.cell? ⟨br, 2, none⟩ = some (.int .i64 (l.length : Int)) ∧ w'.cell? ⟨br, 3, none⟩ = some (.int .i64 (room : Int))) (first | go_keep | skip)
    (first | (go_at_call 13; refine (hall _).mono ?_; rintro e w1 ⟨rfl, hh, hb⟩; have hb1 : Below w.heap.size w w1 := ⟨hb.os, hb.tape, hb.output, hb.size, hb.block⟩; obtain ⟨_, _, d2, d3, _, _, _⟩ := hk w1 hb1))
  have HD := Lib.hid (clone_done (w := w) hr hh hb1)
  have hkr := lt_of_block hh
  clear hh hb hb1
  go_wp2
  go_ret
  exact ⟨w1.heap.size, rfl, hkr, HD.out⟩
end Go.Proofs.Ytklobefidgnbkaa.ring
