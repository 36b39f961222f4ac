/-
  Texts of one claim in one file: PRefPops. Each has its own sentence, with its conditions.
-/
import Derived.Test.YtjbcmedljgafkaaDoorZq14
import Derived.Test.YtjbcmedljgafkaaDoorZq6
import Derived.Deep.RegionLaw
/-
  The document's own answer of how many values an instruction takes, wherever the second operand is not the greatest number.
-/

namespace Go.Proofs.YtjbcmedljgafkaaDoor.oper
open Go.RowKit Go.ChangeShapes
set_option linter.unusedVariables false

theorem pops_41 (b args : Int) : pops 41 b args = b := rfl
theorem pops_42 (b args : Int) : pops 42 b args = 1 + b := rfl
theorem pops_tk {k : Nat} (hk : k < 52) (h0 : ((k : Int) == 20) = false) (h1 : ((k : Int) == 41) = false) (h2 : ((k : Int) == 42) = false) (b args : Int) : pops k b args = tk.getD k 0 := by
  unfold pops
  rw [if_neg (by simpa using h0), if_neg (by simpa using h1), if_neg (by simpa using h2), numb_at hk]
theorem pops_no {n : Int} (h : n < 0 ∨ 51 < n) (b args : Int) : pops n b args = 0 := by
  unfold pops
  rw [if_neg (by omega), if_neg (by omega), if_neg (by omega), numb_no h]

/-- The table of what is taken is made while an instruction stands in memory at a place of its own. -/
theorem takes_in (w W : World) (hW : w.heap.size < W.heap.size) (k : Nat) (hk : k < 52) (o b : Int) (h0 : W.cell? ⟨w.heap.size, 0, none⟩ = some (.int .i64 o)) (h2 : W.cell? ⟨w.heap.size, 2, none⟩ = some (.int .i64 b)) :
    Calls Tryd.prog 47 #[] W fun e w' => ∃ g : Nat, e = .returned (.slice (some ⟨g, 0, none⟩) 52 52) ∧ w'.cell? ⟨g, k, none⟩ = some (.int .i64 (tk.getD k 0)) ∧ w'.cell? ⟨w.heap.size, 0, none⟩ = some (.int .i64 o) ∧ w'.cell? ⟨w.heap.size, 2, none⟩ = some (.int .i64 b) ∧ Hid (Below (w.heap.size + 1) W w') := by
  refine (refTakes_any W).mono ?_
  rintro e w' ⟨rfl, rfl⟩
  have hb : Below (w.heap.size + 1) W (W.alloc tkBlock) := (Below.refl _ W).alloc (by omega) _
  exact ⟨_, rfl, tkBlock_cell W hk, (hb.cell (p := ⟨w.heap.size, 0, none⟩) (by simp)).trans h0, (hb.cell (p := ⟨w.heap.size, 2, none⟩) (by simp)).trans h2, Lib.hid hb⟩

set_option maxHeartbeats 1000000 in
theorem refPops_tk (k : Nat) (hk : k < 52) (h0 : ((k : Int) == 20) = false) (h1 : ((k : Int) == 41) = false) (h2 : ((k : Int) == 42) = false) (a b args : Int) (w : World) :
    Calls Tryd.prog 27 #[.agg #[.int .i64 (k : Int), .int .i64 a, .int .i64 b], .int .i64 args] w fun e w' => e = .returned (.int .i64 (pops (k : Int) b args)) ∧ Below w.heap.size w w' := by
  rw [pops_tk hk h0 h1 h2]
  have HK := Lib.hid fun W => refKnown_yes k (by omega) (by omega) W
  have hT := fun W x y z => takes_in w W x k hk (k : Int) b y z
  have hl : (k : Int) < 52 := by omega
  generalize tk.getD k 0 = x at *
  go_enter Tryd.func27, Tryd.ntmps27
  go_wp2_with fail
  refine (HK.out _).mono ?_
  rintro e w1 ⟨rfl, rfl⟩
  go_wp2_with fail
  go_region_with (go_at_call 47; refine (hT _ ?_ ?_ ?_).mono ?_; (simp); (simp [*]); (simp [*]); rintro e w1 ⟨g, rfl, hx, d0, d2, HX⟩)
  all_goals
    go_wp2_with fail
    go_ret
    refine ⟨rfl, ?_⟩
    first
      | exact ((Below.refl _ _).alloc (Nat.le_refl _) _).drew.trans (HX.out.mono (by simp))
      | exact ((Below.refl _ _).alloc (Nat.le_refl _) _).drew.drew.trans (HX.out.mono (by simp))
      | exact ((Below.refl _ _).alloc (Nat.le_refl _) _).drew.drew.drew.trans (HX.out.mono (by simp))
      | exact (((Below.refl _ _).alloc (Nat.le_refl _) _).drew.trans (HX.out.mono (by simp))).drew
      | exact (((Below.refl _ _).alloc (Nat.le_refl _) _).drew.trans (HX.out.mono (by simp))).drew.drew
      | exact (((Below.refl _ _).alloc (Nat.le_refl _) _).drew.drew.trans (HX.out.mono (by simp))).drew
set_option maxHeartbeats 1000000 in
theorem refPops_41 (a b args : Int) (hb0 : -9223372036854775808 ≤ b) (hb1 : b < 9223372036854775807) (w : World) :
    Calls Tryd.prog 27 #[.agg #[.int .i64 41, .int .i64 a, .int .i64 b], .int .i64 args] w fun e w' => e = .returned (.int .i64 (pops 41 b args)) ∧ Below w.heap.size w w' := by
  rw [pops_41]
  have HK := Lib.hid fun W => refKnown_yes 41 (by omega) (by omega) W
  have hT : ∀ W : World, w.heap.size < W.heap.size → W.cell? ⟨w.heap.size, 0, none⟩ = some (.int .i64 41) → W.cell? ⟨w.heap.size, 2, none⟩ = some (.int .i64 b) → Calls Tryd.prog 47 #[] W fun e w' => ∃ g : Nat, e = .returned (.slice (some ⟨g, 0, none⟩) 52 52) ∧ w'.cell? ⟨g, 41, none⟩ = some (.int .i64 0) ∧ w'.cell? ⟨w.heap.size, 0, none⟩ = some (.int .i64 41) ∧ w'.cell? ⟨w.heap.size, 2, none⟩ = some (.int .i64 b) ∧ Hid (Below (w.heap.size + 1) W w') := fun W x y z => takes_in w W x 41 (by omega) 41 b y z
  have hw : IntKind.i64.wrap b = b := IntWalk.i64_in _ (by omega)
  go_enter Tryd.func27, Tryd.ntmps27
  go_wp2_with fail
  refine (HK.out _).mono ?_
  rintro e w1 ⟨rfl, rfl⟩
  go_wp2_with fail
  go_region_with (go_at_call 47; refine (hT _ ?_ ?_ ?_).mono ?_; (simp); (simp [*]); (simp [*]); rintro e w1 ⟨g, rfl, hx, d0, d2, HX⟩)
  all_goals
    go_wp2_with fail
    go_ret
    refine ⟨rfl, ?_⟩
    first
      | exact ((Below.refl _ _).alloc (Nat.le_refl _) _).drew.trans (HX.out.mono (by simp))
      | exact ((Below.refl _ _).alloc (Nat.le_refl _) _).drew.drew.trans (HX.out.mono (by simp))
      | exact ((Below.refl _ _).alloc (Nat.le_refl _) _).drew.drew.drew.trans (HX.out.mono (by simp))
      | exact (((Below.refl _ _).alloc (Nat.le_refl _) _).drew.trans (HX.out.mono (by simp))).drew
      | exact (((Below.refl _ _).alloc (Nat.le_refl _) _).drew.trans (HX.out.mono (by simp))).drew.drew
      | exact (((Below.refl _ _).alloc (Nat.le_refl _) _).drew.drew.trans (HX.out.mono (by simp))).drew
set_option maxHeartbeats 1000000 in
theorem refPops_42 (a b args : Int) (hb0 : -9223372036854775808 ≤ b) (hb1 : b < 9223372036854775807) (w : World) :
    Calls Tryd.prog 27 #[.agg #[.int .i64 42, .int .i64 a, .int .i64 b], .int .i64 args] w fun e w' => e = .returned (.int .i64 (pops 42 b args)) ∧ Below w.heap.size w w' := by
  rw [pops_42]
  have HK := Lib.hid fun W => refKnown_yes 42 (by omega) (by omega) W
  have hT : ∀ W : World, w.heap.size < W.heap.size → W.cell? ⟨w.heap.size, 0, none⟩ = some (.int .i64 42) → W.cell? ⟨w.heap.size, 2, none⟩ = some (.int .i64 b) → Calls Tryd.prog 47 #[] W fun e w' => ∃ g : Nat, e = .returned (.slice (some ⟨g, 0, none⟩) 52 52) ∧ w'.cell? ⟨g, 42, none⟩ = some (.int .i64 1) ∧ w'.cell? ⟨w.heap.size, 0, none⟩ = some (.int .i64 42) ∧ w'.cell? ⟨w.heap.size, 2, none⟩ = some (.int .i64 b) ∧ Hid (Below (w.heap.size + 1) W w') := fun W x y z => takes_in w W x 42 (by omega) 42 b y z
  have hw : IntKind.i64.wrap (1 + b) = 1 + b := IntWalk.i64_in _ (by omega)
  go_enter Tryd.func27, Tryd.ntmps27
  go_wp2_with fail
  refine (HK.out _).mono ?_
  rintro e w1 ⟨rfl, rfl⟩
  go_wp2_with fail
  go_region_with (go_at_call 47; refine (hT _ ?_ ?_ ?_).mono ?_; (simp); (simp [*]); (simp [*]); rintro e w1 ⟨g, rfl, hx, d0, d2, HX⟩)
  all_goals
    go_wp2_with fail
    go_ret
    refine ⟨rfl, ?_⟩
    first
      | exact ((Below.refl _ _).alloc (Nat.le_refl _) _).drew.trans (HX.out.mono (by simp))
      | exact ((Below.refl _ _).alloc (Nat.le_refl _) _).drew.drew.trans (HX.out.mono (by simp))
      | exact ((Below.refl _ _).alloc (Nat.le_refl _) _).drew.drew.drew.trans (HX.out.mono (by simp))
      | exact (((Below.refl _ _).alloc (Nat.le_refl _) _).drew.trans (HX.out.mono (by simp))).drew
      | exact (((Below.refl _ _).alloc (Nat.le_refl _) _).drew.trans (HX.out.mono (by simp))).drew.drew
      | exact (((Below.refl _ _).alloc (Nat.le_refl _) _).drew.drew.trans (HX.out.mono (by simp))).drew
set_option maxHeartbeats 1000000 in
theorem refPops_20 (a b args : Int) (w : World) :
    Calls Tryd.prog 27 #[.agg #[.int .i64 20, .int .i64 a, .int .i64 b], .int .i64 args] w fun e w' => e = .returned (.int .i64 (pops 20 b args)) ∧ Below w.heap.size w w' := by
  rw [show pops 20 b args = args from rfl]
  have HK := Lib.hid fun W => refKnown_yes 20 (by omega) (by omega) W
  have HB := Lib.hid ((Below.refl w.heap.size w).alloc (Nat.le_refl _) (insBox 20 a b))
  go_enter Tryd.func27, Tryd.ntmps27
  go_wp2_with fail
  refine (HK.out _).mono ?_
  rintro e w1 ⟨rfl, rfl⟩
  go_wp2
  go_ret
  exact ⟨rfl, HB.out⟩
set_option maxHeartbeats 1000000 in
theorem refPops_no (n : Int) (h : n < 0 ∨ 51 < n) (a b args : Int) (w : World) :
    Calls Tryd.prog 27 #[.agg #[.int .i64 n, .int .i64 a, .int .i64 b], .int .i64 args] w fun e w' => e = .returned (.int .i64 (pops n b args)) ∧ Below w.heap.size w w' := by
  rw [pops_no h]
  have HK := Lib.hid fun W => refKnown_no n h W
  clear h
  have HB := Lib.hid ((Below.refl w.heap.size w).alloc (Nat.le_refl _) (insBox n a b))
  go_enter Tryd.func27, Tryd.ntmps27
  go_wp2_with fail
  refine (HK.out _).mono ?_
  rintro e w1 ⟨rfl, rfl⟩
  go_wp2
  go_ret
  exact ⟨rfl, HB.out⟩
theorem refPops_any (o a b args : Int) (hb0 : -9223372036854775808 ≤ b) (hb1 : b < 9223372036854775807) (w : World) :
    Calls Tryd.prog 27 #[.agg #[.int .i64 o, .int .i64 a, .int .i64 b], .int .i64 args] w fun e w' => e = .returned (.int .i64 (pops o b args)) ∧ Below w.heap.size w w' := by
  by_cases h : 0 ≤ o ∧ o ≤ 51
  · by_cases h0 : o = 20
    · subst h0; exact refPops_20 a b args w
    · by_cases h1 : o = 41
      · subst h1; exact refPops_41 a b args hb0 hb1 w
      · by_cases h2 : o = 42
        · subst h2; exact refPops_42 a b args hb0 hb1 w
        · obtain ⟨k, hk, rfl⟩ := nat_of h
          exact refPops_tk k hk (by simpa using h0) (by simpa using h1) (by simpa using h2) a b args w
  · exact refPops_no o (by omega) a b args w
end Go.Proofs.YtjbcmedljgafkaaDoor.oper
