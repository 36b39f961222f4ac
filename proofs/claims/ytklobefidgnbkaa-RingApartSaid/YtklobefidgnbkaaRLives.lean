/-
  Both ends are there; whether two lists are one; what is not there. No condition.
-/
import Derived.Test.YtklobefidgnbkaaRDo
namespace Go.Proofs.Ytklobefidgnbkaa.ring
open Go.RowKit

/-- Of what came first nothing has turned. -/
theorem below_frm {B x y : Nat} {a w w' : World} (h : Below B a w) (hB : B ≤ w.heap.size) (hf : Frm x y w w') (hx : B ≤ x) (hy : B ≤ y) : Below B a w' := h.trans (hf.below hx hy hB)

set_option maxHeartbeats 400000 in
theorem lives_any (w : World) : Calls Try.prog 14 #[] w fun e w' => e = .returned (.bool true) ∧ Below w.heap.size w w' := by
  go_enter Try.func14, Try.ntmps14
  go_wp2_with fail
  refine (new_any _ 2).mono ?_
  rintro e w1 ⟨rfl, h1, b1⟩
  have g1 := Lib.hid b1.size
  have c1 := back_any w1 _ _ _ _ 1 h1 (by decide)
  clear h1
  go_wp2_with fail
  refine c1.mono ?_
  rintro e w2 ⟨rfl, b2, h2, f2, e2⟩
  have B2 := below_frm b1 b1.size f2 (Nat.le_refl _) (Nat.le_refl _)
  have L2 : w.heap.size ≤ b2 := by have := g1.out; omega
  have c2 := front_any w2 _ _ _ _ 3 h2 (by decide)
  have q2 := Lib.hid (⟨L2, b1, f2⟩ : w.heap.size ≤ b2 ∧ Below w.heap.size w w1 ∧ Frm w.heap.size w.heap.size w1 w2)
  clear h2 c1 e2
  go_wp2_with fail
  refine c2.mono ?_
  rintro e w3 ⟨rfl, b3, h3, f3, e3⟩
  have B3 := below_frm B2 B2.size f3 (Nat.le_refl _) L2
  have L3 : w.heap.size ≤ b3 := by have := B2.size; omega
  have c3 := back_full w3 _ _ _ _ 9 h3 (by decide)
  clear c2 e3
  go_wp2_with fail
  refine c3.mono ?_
  rintro e w4 ⟨rfl, m, rfl⟩
  have c4 := popBack_any _ _ _ _ [3] 1 (h3.drewN m)
  clear c3 h3
  go_wp2_with fail
  refine c4.mono ?_
  rintro e w5 ⟨rfl, h5, f5⟩
  have B5 := below_frm (below_drewN B3 m) B3.size f5 (Nat.le_refl _) L3
  have c5 := len_lies _ _ _ _ _ h5
  have HB := Lib.hid B5
  clear c4 h5 B2 B3 B5 f2 f3 f5 b1
  go_wp2_with (go_at_call 11; refine c5.mono ?_; rintro e w' ⟨rfl, rfl⟩)
  go_ret
  exact ⟨rfl, HB.out⟩

/-- A list of numbers that lies in a slice. -/
def ListAt (w : World) (v : Value) (l : List Int) : Prop := ∃ b, w.ownsRow b 3 1 v l.length (ints l)
theorem ListAt.form {w : World} {v : Value} {l : List Int} (h : ListAt w v l) : ∃ a c, v = .slice a l.length c ∧ ∀ i, i < l.length → ∃ b, a = some ⟨b, 0, none⟩ ∧ w.cell? ⟨b, i, none⟩ = some (.int .i64 (l.getD i 0)) := by
  obtain ⟨b0, h⟩ := h
  rcases h.2 with ⟨rfl, h0⟩ | ⟨g, cap, cur, rfl, _⟩
  · exact ⟨none, 0, by rw [h0], fun i hi => by omega⟩
  · refine ⟨_, cap, rfl, fun i hi => ⟨g, rfl, ?_⟩⟩
    have e := h.cellAt i (by omega)
    rw [e]
    simp [ints, List.getD, hi]
theorem ListAt.of_block {w : World} {b n : Nat} {l : List Int} (h : w.heap[b]? = some (.cells (ints l).toArray 3 (0, 0))) (hl : l.length = n) (hm : n ≤ maxLen) : ListAt w (.slice (some ⟨b, 0, none⟩) n n) l := by
  subst hl
  refine ⟨0, by simp [ints], .inr ⟨b, l.length, _, rfl, Nat.zero_le _, h, Nat.le_refl _, hm, by simp [ints], ?_⟩⟩
  exact List.take_of_length_le (by simp [ints])

set_option maxHeartbeats 400000 in
theorem same_any (w : World) (v1 v2 : Value) (l : List Int) (hl : l.length ≤ 1000000) (h1 : ListAt w v1 l) (h2 : ListAt w v2 l) :
    Calls Try.prog 12 #[v1, v2] w fun e w' => e = .returned (.bool true) ∧ ∃ m, w' = w.drewN m := by
  obtain ⟨a1, k1, rfl, g1⟩ := h1.form
  obtain ⟨a2, k2, rfl, g2⟩ := h2.form
  clear h1 h2
  go_enter Try.func12, Try.ntmps12
  go_wp2
  go_loopw [5] (fun t wr => ∃ j : Nat, t = .int .i64 (j : Int) ∧ j ≤ l.length ∧ ∃ m, wr = w.drewN m) (fun t _ => l.length - (intOf t).toNat)
  case atStart => exact ⟨0, rfl, Nat.zero_le _, 0, rfl⟩
  case round =>
    obtain ⟨j, rfl, hj, m, rfl⟩ := hrel
    by_cases hlt : j < l.length
    · obtain ⟨b1, rfl, d1⟩ := g1 j hlt
      obtain ⟨b2, rfl, d2⟩ := g2 j hlt
      clear g1 g2
      generalize l.getD j 0 = x at *
      have hj1 : (0 : Int) ≤ (j : Int) := by omega
      have hj2 : (j : Int) < (l.length : Int) := by omega
      go_wp2
      go_quiet (fail)
      go_wp2
      go_roundw
      case rel => exact ⟨j + 1, by go_num, by omega, _, rfl⟩
      case measure => simp [intOf]; omega
    · obtain rfl : j = l.length := by omega
      clear g1 g2
      go_wp2
      go_ret
      exact ⟨rfl, _, rfl⟩
theorem room_any (w : World) (n : Int) :
    Calls Try.prog 10 #[.int .i64 n] w fun e w' => e = .returned (.int .i64 (clamp n : Int)) ∧ w = w' := by
  have H : ∀ m : Int, (clamp n : Int) = m → Calls Try.prog 10 #[.int .i64 n] w (fun e w' => e = .returned (.int .i64 m) ∧ w = w') → Calls Try.prog 10 #[.int .i64 n] w fun e w' => e = .returned (.int .i64 (clamp n : Int)) ∧ w = w' := by
    intro m he hc
    rw [he]
    exact hc
  by_cases h1 : n < 0
  · refine H 0 (by unfold clamp; omega) ?_
    clear H
    go_enter Try.func10, Try.ntmps10
    go_wp2
    go_ret
    exact ⟨rfl, rfl⟩
  · by_cases h2 : n ≤ 4096
    · refine H n (by unfold clamp; omega) ?_
      have h3 : 0 ≤ n := by omega
      clear H h1
      go_enter Try.func10, Try.ntmps10
      go_wp2
      all_goals (go_ret; exact ⟨rfl, rfl⟩)
    · refine H 4096 (by unfold clamp; omega) ?_
      have h3 : 0 ≤ n := by omega
      have h4 : 4096 < n := by omega
      clear H h1 h2
      go_enter Try.func10, Try.ntmps10
      go_wp2
      all_goals (go_ret; exact ⟨rfl, rfl⟩)
end Go.Proofs.Ytklobefidgnbkaa.ring
