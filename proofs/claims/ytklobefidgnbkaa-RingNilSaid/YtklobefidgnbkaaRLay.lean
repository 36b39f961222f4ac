/-
  The row's calls that lay new memory and that clear a place, each by itself. No condition.
-/
import Derived.Test.YtklobefidgnbkaaRRead
import Derived.Deep.RegionHeld3
import Derived.Deep.DrawnRows
import Derived.LoopTactic
namespace Go.Proofs.Ytklobefidgnbkaa.ring
open Go.RowKit
attribute [local go_sem ↓] Go.wp_at_zero Go.wp_at_succ

set_option maxHeartbeats 400000 in
theorem forget_any (w : World) (br bi : Nat) (a : Option Addr) (D : List Int) (f k room : Nat) (i : Int) (h : At w br bi a D f k room) (hD : 0 < D.length) (hi0 : 0 ≤ i) (hi : i ≤ 4096) :
    Calls Try.prog 24 #[.pointer (some ⟨br, 0, none⟩), .int .i64 i] w fun e w' => e = .returned (.tuple #[]) ∧ At w' br bi a (D.set ((f + i.toNat) % D.length) 0) f k room ∧ Frm br bi w w' := by
  have hn := Nat.le_trans h.hn h.hroom
  have hf := h.hf
  have hp : (f + i.toNat) % D.length < D.length := Nat.mod_lt _ (by omega)
  obtain ⟨rfl, ce, cf, hne⟩ := h.elem hp
  obtain ⟨c0, c1, _, _, _, _, _⟩ := h.cells
  have hput := fun m => (h.drewN m).put hp 0
  have hfrm := fun m => ((Frm.refl br bi w).drewN m).setCell (p := ⟨bi, (f + i.toNat) % D.length, none⟩) (.inr (.inl rfl)) (.int .i64 0)
  have hpl := fun W x y => place_cells W br (some ⟨bi, 0, none⟩) D.length f i x y hD hn hf hi0 hi
  have HP := Lib.hid hput
  have HF := Lib.hid hfrm
  clear hput hfrm h
  generalize (f + i.toNat) % D.length = p at *
  have hp1 : (0 : Int) ≤ (p : Int) := by omega
  have hp2 : (p : Int) < (D.length : Int) := by omega
  generalize List.getD D p 0 = x0 at *
  go_enter Try.func24, Try.ntmps24
  go_wp2
  go_region_held3 (fun w' => w'.cell? ⟨br, 0, none⟩ = some (.slice (some ⟨bi, 0, none⟩) D.length D.length) ∧ w'.cell? ⟨br, 1, none⟩ = some (.int .i64 (f : Int))) (go_keep)
    (first | (go_at_call 23; refine (hpl _ ?_ ?_).mono ?_; (simp [*]); (simp [*]); rintro e w' ⟨rfl, m, rfl⟩))
  all_goals go_wp2
  all_goals go_end0
  all_goals exact ⟨rfl, HP.out _, HF.out _⟩

theorem info3 : (Try.prog.info? 3).map (fun i => (i.zero, i.size, i.bytes)) = some (some (.int .i64 0), 1, 8) := by kernel_rfl
theorem made (n : Nat) (hn : n ≤ 8192) (W : World) :
    (Instr.makeSlice 25 (.int .i64 (n : Int)) (.int .i64 (n : Int))).run Try.prog W = .ok (.slice (some ⟨W.heap.size, 0, none⟩) n n) (W.alloc (.cells (ints (List.replicate n 0)).toArray 3)) := by
  obtain ⟨i, hi, hz0, hz1, hz2⟩ := info_parts info3
  have h := run_make (P := Try.prog) W 25 3 i (.int .i64 0) Try.underlying25 hi hz0 .i64 .i64 (n : Int) (n : Int) (by omega) (by omega) (by rw [hz2]; omega) (by omega)
  rw [h, hz1, Int.toNat_natCast, Nat.mul_one]
  congr 4
  rw [← Array.toList_inj]
  show (madeCells #[.int .i64 0] n).toList = _
  rw [toList_madeCells_one]
  simp [ints]

theorem row_set (l : List Int) (m : Nat) (x : Int) : (l ++ List.replicate (m + 1) 0).set l.length x = (l ++ [x]) ++ List.replicate m 0 := by
  rw [List.set_append_right _ _ (Nat.le_refl _), Nat.sub_self, List.replicate_succ]
  simp

/-- Behind a round: one more lies in the new row. -/
theorem laid_round {w W : World} {D : List Int} {f j n m : Nat} (hj : j < n) (hrow : W.heap[w.heap.size]? = some (.cells (ints (view D f j ++ List.replicate (n - j) 0)).toArray 3 (0, 0))) (hb : Below w.heap.size w W) :
    ((W.drewN m).setCell ⟨w.heap.size, j, none⟩ (.int .i64 (D.getD ((f + j) % D.length) 0))).heap[w.heap.size]? = some (.cells (ints (view D f (j + 1) ++ List.replicate (n - (j + 1)) 0)).toArray 3 (0, 0)) ∧
    Below w.heap.size w ((W.drewN m).setCell ⟨w.heap.size, j, none⟩ (.int .i64 (D.getD ((f + j) % D.length) 0))) := by
  refine ⟨?_, (below_drewN hb m).setCell (p := ⟨w.heap.size, j, none⟩) (Nat.le_refl _) _⟩
  have h1 : (W.drewN m).heap[w.heap.size]? = _ := hrow
  rw [at_setCell h1, ints_set]
  have e : (view D f j ++ List.replicate (n - j) 0).set j (D.getD ((f + j) % D.length) 0) = view D f (j + 1) ++ List.replicate (n - (j + 1)) 0 := by
    have e1 := row_set (view D f j) (n - (j + 1)) (D.getD ((f + j) % D.length) 0)
    rw [view_length, show n - (j + 1) + 1 = n - j by omega] at e1
    rw [e1, view_succ]
  rw [e]

set_option maxHeartbeats 400000 in
theorem laid_any (w : World) (br bi : Nat) (a : Option Addr) (D : List Int) (f k room n : Nat) (h : At w br bi a D f k room) (hkn : k ≤ n) (hn : n ≤ 4096) :
    Calls Try.prog 21 #[.pointer (some ⟨br, 0, none⟩), .int .i64 (n : Int)] w fun e w' => e = .returned (.slice (some ⟨w.heap.size, 0, none⟩) n n) ∧
      w'.heap[w.heap.size]? = some (.cells (ints (view D f k ++ List.replicate (n - k) 0)).toArray 3 (0, 0)) ∧ Below w.heap.size w w' := by
  have hk := h.hk
  have hDn := Nat.le_trans h.hn h.hroom
  have hf := h.hf
  have hlt := h.lt
  have hmk := made n (by omega)
  have hlen := fun o => len_any (w.alloc o) br bi a D f k room (h.keep (Below.heap_alloc _ o _ hlt.1) (Below.heap_alloc _ o _ hlt.2))
  have HA := Lib.hid h
  clear h
  go_enter Try.func21, Try.ntmps21
  go_wp2_with (go_at_call 11; refine (hlen _).mono ?_; rintro e w' ⟨rfl, rfl⟩)
  go_loopw [11] (fun t wr => ∃ j : Nat, t = .int .i64 (j : Int) ∧ j ≤ k ∧ wr.heap[w.heap.size]? = some (.cells (ints (view D f j ++ List.replicate (n - j) 0)).toArray 3 (0, 0)) ∧ Below w.heap.size w wr) (fun t _ => k - (intOf t).toNat)
  case atStart => exact ⟨0, rfl, Nat.zero_le _, by simpa [view_zero] using heap_alloc_new w _, (Below.refl _ _).alloc (Nat.le_refl _) _⟩
  case round =>
    obtain ⟨j, rfl, hj, hrow, hb⟩ := hrel
    by_cases hlt2 : j < k
    · have hp : (f + j) % D.length < D.length := Nat.mod_lt _ (by omega)
      have hA := HA.out.keep (hb.block _ hlt.1) (hb.block _ hlt.2)
      obtain ⟨rfl, ce, _, _⟩ := hA.elem hp
      obtain ⟨c0, c1, _, _, _, _, _⟩ := hA.cells
      have hr1 := cell_of_row wr w.heap.size j _ _ (0, 0) hrow
      have hr2 := frozen_of_row wr w.heap.size j _ _ hrow
      have hget : (ints (view D f j ++ List.replicate (n - j) 0)).toArray[j]? = some (.int .i64 0) := by
        have e : ((view D f j ++ List.replicate (n - j) 0))[j]? = some 0 := by
          rw [List.getElem?_append_right (by rw [view_length]; exact Nat.le_refl _), view_length, Nat.sub_self, List.getElem?_replicate, if_pos (by omega)]
        rw [List.getElem?_toArray, ints, List.getElem?_map, e]
        rfl
      rw [hget] at hr1
      have HR := Lib.hid (fun m => laid_round (m := m) (by omega : j < n) hrow hb)
      have hpl := fun W x y => place_cells W br (some ⟨bi, 0, none⟩) D.length f (j : Int) x y (by omega) hDn hf (by omega) (by omega)
      rw [Int.toNat_natCast] at hpl
      clear hrow hA hb hget HA
      generalize (f + j) % D.length = p at *
      have hp1 : (0 : Int) ≤ (p : Int) := by omega
      have hp2 : (p : Int) < (D.length : Int) := by omega
      have hj1 : (0 : Int) ≤ (j : Int) := by omega
      have hj2 : (j : Int) < (n : Int) := by omega
      generalize D.getD p 0 = x0 at *
      have hn1 : w.heap.size ≠ br := by omega
      have hn2 : w.heap.size ≠ bi := by omega
      go_wp2_with fail
      go_region_held3 (fun w' => w'.cell? ⟨br, 0, none⟩ = some (.slice (some ⟨bi, 0, none⟩) D.length D.length) ∧ w'.cell? ⟨br, 1, none⟩ = some (.int .i64 (f : Int)) ∧ w'.cell? ⟨bi, p, none⟩ = some (.int .i64 x0)) (go_keep)
        (first | (go_at_call 23; refine (hpl _ ?_ ?_).mono ?_; (simp [*]); (simp [*]); rintro e w' ⟨rfl, m, rfl⟩))
      go_wp2
      go_roundw
      case rel => exact ⟨j + 1, by go_num, by omega, HR.out _⟩
      case measure => simp [intOf]; omega
    · go_wp2_with fail
      go_ret
      obtain rfl : j = k := by omega
      exact ⟨rfl, hrow, hb⟩
end Go.Proofs.Ytklobefidgnbkaa.ring
