/-
  Whether there is room for one more, and memory for it: each way by itself. No condition.
-/
import Derived.Test.YtklobefidgnbkaaRLay
namespace Go.Proofs.Ytklobefidgnbkaa.ring
open Go.RowKit
attribute [local go_sem ↓] Go.wp_at_zero Go.wp_at_succ

theorem fit_nil (w : World) :
    Calls Try.prog 22 #[.pointer none] w fun e w' => e = .returned (.bool false) ∧ ∃ m, w' = w.drewN m := by
  go_enter Try.func22, Try.ntmps22
  go_wp2
  go_quiet (fail)
  go_wp2
  go_ret
  exact ⟨rfl, _, rfl⟩

set_option maxHeartbeats 400000 in
theorem fit_full (w : World) (br bi : Nat) (a : Option Addr) (D : List Int) (f k room : Nat) (h : At w br bi a D f k room) (hk : k = room) :
    Calls Try.prog 22 #[.pointer (some ⟨br, 0, none⟩)] w fun e w' => e = .returned (.bool false) ∧ ∃ m, w' = w.drewN m := by
  subst hk
  obtain ⟨_, _, c2, c3, _, _, _⟩ := h.cells
  clear h
  go_enter Try.func22, Try.ntmps22
  go_wp2
  go_quiet (fail)
  go_wp2
  go_ret
  exact ⟨rfl, _, rfl⟩

set_option maxHeartbeats 400000 in
theorem fit_there (w : World) (br bi : Nat) (a : Option Addr) (D : List Int) (f k room : Nat) (h : At w br bi a D f k room) (hk : k < room) (hD : k < D.length) :
    Calls Try.prog 22 #[.pointer (some ⟨br, 0, none⟩)] w fun e w' => e = .returned (.bool true) ∧ ∃ m, w' = w.drewN m := by
  obtain ⟨c0, _, c2, c3, _, _, _⟩ := h.cells
  clear h
  generalize D.length = n at *
  have e1 : ((k : Int) == (room : Int)) = false := by simp; omega
  have e2 : ((k : Int) == (n : Int)) = false := by simp; omega
  go_enter Try.func22, Try.ntmps22
  go_wp2
  go_quiet (fail)
  go_wp2
  go_quiet (fail)
  go_wp2
  go_ret
  exact ⟨rfl, _, World.drewN_drewN _ _ _⟩

/-- Behind the laying of new memory: the row's cells are as they were. -/
theorem laid_fit (W : World) (br bi : Nat) (a : Option Addr) (D : List Int) (f k room n : Nat) (h : At W br bi a D f k room) (hkn : k ≤ n) (hn : n ≤ 4096) :
    Calls Try.prog 21 #[.pointer (some ⟨br, 0, none⟩), .int .i64 (n : Int)] W fun e w' => e = .returned (.slice (some ⟨W.heap.size, 0, none⟩) n n) ∧
      w'.cell? ⟨br, 0, none⟩ = some (.slice a D.length D.length) ∧ w'.cell? ⟨br, 1, none⟩ = some (.int .i64 (f : Int)) ∧ w'.cell? ⟨br, 2, none⟩ = some (.int .i64 (k : Int)) ∧ w'.cell? ⟨br, 3, none⟩ = some (.int .i64 (room : Int)) ∧
      w'.frozen? ⟨br, 0, none⟩ = false ∧ w'.frozen? ⟨br, 1, none⟩ = false ∧
      Hid (w'.heap[W.heap.size]? = some (.cells (ints (view D f k ++ List.replicate (n - k) 0)).toArray 3 (0, 0)) ∧ Below W.heap.size W w') := by
  refine (laid_any W br bi a D f k room n h hkn hn).mono ?_
  rintro e w' ⟨rfl, h1, h2⟩
  obtain ⟨c0, c1, c2, c3, f0, f1, _⟩ := (h.keep (h2.block _ h.lt.1) (h2.block _ h.lt.2)).cells
  exact ⟨rfl, c0, c1, c2, c3, f0, f1, h1, h2⟩

/-- Behind the store of the new slice and of the first place. -/
theorem fit_stored {w w1 : World} {br bi : Nat} {a : Option Addr} {D : List Int} {f k room n : Nat} (h : At w br bi a D f k room) (hkn : k ≤ n) (hn : n ≤ room)
    (h1 : w1.heap[w.heap.size]? = some (.cells (ints (view D f k ++ List.replicate (n - k) 0)).toArray 3 (0, 0))) (hb : Below w.heap.size w w1) :
    At ((w1.setCell ⟨br, 0, none⟩ (.slice (some ⟨w.heap.size, 0, none⟩) n n)).setCell ⟨br, 1, none⟩ (.int .i64 0)) br w.heap.size (some ⟨w.heap.size, 0, none⟩) (view D f k ++ List.replicate (n - k) 0) 0 k room ∧
    Frm br bi w ((w1.setCell ⟨br, 0, none⟩ (.slice (some ⟨w.heap.size, 0, none⟩) n n)).setCell ⟨br, 1, none⟩ (.int .i64 0)) := by
  have hlt := h.lt
  have hlen : (view D f k ++ List.replicate (n - k) 0).length = n := by rw [List.length_append, view_length, List.length_replicate]; omega
  have hr : w1.heap[br]? = _ := (hb.block br hlt.1).trans h.ring
  refine ⟨⟨?_, .inr ⟨rfl, by omega, ?_⟩, by omega, by omega, h.hroom, by omega⟩, ?_⟩
  · rw [hlen, at_setCell (at_setCell hr _)]
    rfl
  · rw [Below.heap_setCell _ _ _ _ (by show w.heap.size ≠ br; omega), Below.heap_setCell _ _ _ _ (by show w.heap.size ≠ br; omega)]
    exact h1
  · exact ((Frm.of_below hb).setCell (p := ⟨br, 0, none⟩) (.inl rfl) _).setCell (p := ⟨br, 1, none⟩) (.inl rfl) _

set_option maxHeartbeats 400000 in
theorem fit_grow (w : World) (br bi : Nat) (a : Option Addr) (D : List Int) (f room : Nat) (h : At w br bi a D f D.length room) (hk : D.length < room) :
    Calls Try.prog 22 #[.pointer (some ⟨br, 0, none⟩)] w fun e w' => e = .returned (.bool true) ∧ ∃ n, D.length < n ∧ At w' br w.heap.size (some ⟨w.heap.size, 0, none⟩) (view D f D.length ++ List.replicate (n - D.length) 0) 0 D.length room ∧ Frm br bi w w' := by
  have hw1 : IntKind.i64.wrap (2 * (D.length : Int)) = 2 * (D.length : Int) := by have := h.hn; have := h.hroom; rw [IntKind.wrap_i64]; omega
  have hw2 : IntKind.i64.wrap (2 * (D.length : Int) + 1) = 2 * (D.length : Int) + 1 := by have := h.hn; have := h.hroom; rw [IntKind.wrap_i64]; omega
  obtain ⟨n, hmin, hn1, hn2⟩ : ∃ n : Nat, (if (room : Int) < 2 * (D.length : Int) + 1 then (room : Int) else 2 * (D.length : Int) + 1) = (n : Int) ∧ D.length < n ∧ n ≤ room := by
    by_cases h1 : (room : Int) < 2 * (D.length : Int) + 1
    · exact ⟨room, by rw [if_pos h1], hk, Nat.le_refl _⟩
    · exact ⟨2 * D.length + 1, by rw [if_neg h1]; simp, by omega, by omega⟩
  have hroom := h.hroom
  obtain ⟨c0, c1, c2, c3, _, _, _⟩ := h.cells
  have hl := fun m => laid_fit (w.drewN m) br bi a D f D.length room n (h.drewN m) (by omega) (by omega)
  have HS := Lib.hid (fun w1 x y => fit_stored (w1 := w1) h (Nat.le_of_lt hn1) hn2 x y)
  clear h
  have e1 : ((D.length : Int) == (room : Int)) = false := by simp; omega
  go_enter Try.func22, Try.ntmps22
  go_wp2
  go_quiet (fail)
  go_wp2
  go_quiet (fail)
  go_wp2
  go_region_held3 (fun w' => w'.cell? ⟨br, 2, none⟩ = some (.int .i64 (D.length : Int)) ∧ w'.cell? ⟨br, 3, none⟩ = some (.int .i64 (room : Int))) (first | go_keep | simp [*, World.cell?_setCell_other])
    (first | (go_at_call 21; refine (hl _).mono ?_; rintro e w1 ⟨rfl, d0, d1, d2, d3, g0, g1, HR⟩))
  go_wp2
  go_ret
  exact ⟨rfl, n, hn1, HS.out _ HR.out.1 ⟨HR.out.2.os, HR.out.2.tape, HR.out.2.output, HR.out.2.size, HR.out.2.block⟩⟩

/-- There is room: behind it there is memory for one more, and what stands in the row is as it was. -/
theorem fit_any (w : World) (br bi : Nat) (a : Option Addr) (D : List Int) (f k room : Nat) (h : At w br bi a D f k room) (hk : k < room) :
    Calls Try.prog 22 #[.pointer (some ⟨br, 0, none⟩)] w fun e w' => e = .returned (.bool true) ∧
      ∃ bi' E g, At w' br bi' (some ⟨bi', 0, none⟩) E g k room ∧ k < E.length ∧ view E g k = view D f k ∧ Frm br bi w w' ∧ (bi' = bi ∨ bi' = w.heap.size) := by
  by_cases hD : k < D.length
  · refine (fit_there w br bi a D f k room h hk hD).mono ?_
    rintro e w' ⟨rfl, m, rfl⟩
    obtain ⟨rfl, _⟩ := h.elem hD
    exact ⟨rfl, bi, D, f, h.drewN m, hD, rfl, (Frm.refl _ _ _).drewN m, .inl rfl⟩
  · obtain rfl : k = D.length := by have := h.hk; omega
    refine (fit_grow w br bi a D f room h hk).mono ?_
    rintro e w' ⟨rfl, n, h1, h2, h3⟩
    refine ⟨rfl, w.heap.size, _, 0, h2, ?_, ?_, h3, .inr rfl⟩
    · rw [List.length_append, view_length, List.length_replicate]
      omega
    · have e := view_laid (view D f D.length) (List.replicate (n - D.length) 0)
      rw [view_length] at e
      exact e
end Go.Proofs.Ytklobefidgnbkaa.ring
