/-
  Which of the two entries below a place is ahead of the other. No condition.
-/
import Derived.Test.YtfhkaedpbandiaaTPut
import Derived.IntWalk
namespace Go.Proofs.Ytfhkaedpbandiaa.timer
open Go.RowKit
attribute [local go_sem ↓] Go.wp_at_zero Go.wp_at_succ

set_option maxHeartbeats 400000 in
theorem below_one (w : World) (bt bh cap n i : Nat) (c0 : w.cell? ⟨bt, 0, none⟩ = some (.slice (some ⟨bh, 0, none⟩) n cap)) (hi : i ≤ 4096) (hn : ¬ 2 * i + 2 < n) :
    Calls Try.prog 29 #[.pointer (some ⟨bt, 0, none⟩), .int .i64 (i : Int)] w fun x w' => x = .returned (.int .i64 ((2 * i + 1 : Nat) : Int)) ∧ Below w.heap.size w w' := by
  obtain ⟨k, hk⟩ : ∃ k : Nat, k = 2 * i + 1 := ⟨_, rfl⟩
  rw [← hk]
  have e0 : 2 * (i : Int) + 1 = (k : Int) := by omega
  have e1 : IntKind.i64.wrap ((k : Int) + 1) = (k : Int) + 1 := by rw [IntKind.wrap_i64]; omega
  have hd : decide ((k : Int) + 1 < (n : Int)) = false := by simp; omega
  have hb : ∀ m, Below w.heap.size w (w.drewN m) := fun m => below_drewN (Below.refl _ _) m
  have HB := Lib.hid hb
  clear hb hk hn
  go_enter Try.func29, Try.ntmps29
  go_wp2
  go_quiet (fail)
  go_wp2
  go_ret
  exact ⟨rfl, HB.out _⟩

set_option maxHeartbeats 400000 in
theorem below_two (w : World) (bt bh cap n i k : Nat) (a b : E) (hk : k = 2 * i + 1) (c0 : w.cell? ⟨bt, 0, none⟩ = some (.slice (some ⟨bh, 0, none⟩) n cap)) (hi : i ≤ 4096) (hn : k + 1 < n)
    (a0 : w.cell? ⟨bh, (k + 1) * 2, none⟩ = some (.int .i64 a.1)) (a1 : w.cell? ⟨bh, (k + 1) * 2 + 1, none⟩ = some (.int .i64 a.2))
    (b0 : w.cell? ⟨bh, k * 2, none⟩ = some (.int .i64 b.1)) (b1 : w.cell? ⟨bh, k * 2 + 1, none⟩ = some (.int .i64 b.2)) :
    Calls Try.prog 29 #[.pointer (some ⟨bt, 0, none⟩), .int .i64 (i : Int)] w fun x w' => x = .returned (.int .i64 ((if ahd a b = true then k + 1 else k : Nat) : Int)) ∧ Below w.heap.size w w' := by
  have e0 : 2 * (i : Int) + 1 = (k : Int) := by omega
  have e1 : IntKind.i64.wrap ((k : Int) + 1) = (k : Int) + 1 := by rw [IntKind.wrap_i64]; omega
  have e2 : ((k : Int) + 1).toNat = k + 1 := by omega
  have h0 : (0 : Int) ≤ (k : Int) := by omega
  have h1 : (0 : Int) ≤ (k : Int) + 1 := by omega
  have h2 : (k : Int) + 1 < (n : Int) := by omega
  have h3 : (k : Int) < (n : Int) := by omega
  have hlb := World.block_lt_of_cell? w _ a0
  have hlt := World.block_lt_of_cell? w _ c0
  have hah := fun W => ahead_any a b W
  have HK := Lib.hid hk
  clear hk hn
  cases hc : ahd a b
  all_goals
    have hc' := Lib.hid hc
    rw [hc] at hah
    clear hc
    go_enter Try.func29, Try.ntmps29
    go_wp2
    go_region_held3 (fun w' => w'.cell? ⟨bt, 0, none⟩ = some (.slice (some ⟨bh, 0, none⟩) n cap) ∧ w'.cell? ⟨bh, (k + 1) * 2, none⟩ = some (.int .i64 a.1) ∧ w'.cell? ⟨bh, (k + 1) * 2 + 1, none⟩ = some (.int .i64 a.2) ∧ w'.cell? ⟨bh, k * 2, none⟩ = some (.int .i64 b.1) ∧ w'.cell? ⟨bh, k * 2 + 1, none⟩ = some (.int .i64 b.2)) (go_keep)
      (first | (go_at_call 27; refine (hah _).mono ?_; rintro e w' ⟨rfl, rfl⟩))
  all_goals
    have hbb := ((Below.refl w.heap.size w).alloc (Nat.le_refl _) (.cells #[.int .i64 a.1, .int .i64 a.2] 59)).alloc (by simp) (.cells #[.int .i64 b.1, .int .i64 b.2] 59)
    have HB := Lib.hid hbb.drew
    clear hbb hah a0 a1 b0 b1 c0
    go_wp2
    go_ret
    exact ⟨by simp, HB.out⟩

theorem below_any (w : World) (bt bh bm cap : Nat) (h : List E) (p : Int → Option Nat) (N i : Nat) (o : Has w bt bh bm cap h p N) (hi : i ≤ 4096) :
    Calls Try.prog 29 #[.pointer (some ⟨bt, 0, none⟩), .int .i64 (i : Int)] w fun x w' => x = .returned (.int .i64 (lower h i : Int)) ∧ Below w.heap.size w w' := by
  obtain ⟨c0, _, _, _⟩ := o.cells
  by_cases hn : 2 * i + 2 < h.length
  · obtain ⟨a0, a1, _, _⟩ := o.row.cells hn
    obtain ⟨b0, b1, _, _⟩ := o.row.cells (show 2 * i + 1 < h.length by omega)
    have := below_two w bt bh cap h.length i (2 * i + 1) (g h (2 * i + 2)) (g h (2 * i + 1)) rfl c0 hi (by omega) a0 a1 b0 b1
    unfold lower
    simp only [hn, true_and]
    exact this
  · rw [show lower h i = 2 * i + 1 by unfold lower; rw [if_neg (fun k => hn k.1)]]
    exact below_one w bt bh cap h.length i c0 hi hn
end Go.Proofs.Ytfhkaedpbandiaa.timer
