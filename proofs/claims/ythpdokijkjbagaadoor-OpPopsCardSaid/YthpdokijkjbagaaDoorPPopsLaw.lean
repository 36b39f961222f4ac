/-
  How many values any instruction takes: the walk. The table of names must lie where its initialiser lays it.
-/
import Derived.Test.YthpdokijkjbagaaDoorPLives
import Derived.Test.YthpdokijkjbagaaDoorPRefPops
namespace Go.Proofs.YthpdokijkjbagaaDoor.oper
open Go.RowKit Go.ChangeShapes
set_option linter.unusedVariables false

/-- An instruction stands at a place of its own, behind all that was there. -/
structure Kept (w : World) (o a b : Int) (W : World) : Prop where
  below : Below w.heap.size w W
  size : w.heap.size < W.heap.size
  c0 : W.cell? ⟨w.heap.size, 0, none⟩ = some (.int .i64 o)
  c1 : W.cell? ⟨w.heap.size, 1, none⟩ = some (.int .i64 a)
  c2 : W.cell? ⟨w.heap.size, 2, none⟩ = some (.int .i64 b)
theorem kept0 (w : World) (o a b : Int) : Kept w o a b (w.alloc (insBox o a b)) := by
  have hb : (w.alloc (insBox o a b)).heap[w.heap.size]? = some (insBox o a b) := heap_alloc_new w _
  refine ⟨(Below.refl _ _).alloc (Nat.le_refl _) _, by simp, ?_, ?_, ?_⟩ <;> (unfold World.cell?; rw [hb]; rfl)
theorem Kept.drew {w W : World} {o a b : Int} (h : Kept w o a b W) : Kept w o a b W.drew := ⟨h.below.drew, h.size, h.c0, h.c1, h.c2⟩
theorem Kept.next {w W W' : World} {o a b : Int} (h : Kept w o a b W) (hb : Below W.heap.size W W') : Kept w o a b W' :=
  ⟨h.below.trans (hb.mono (Nat.le_of_lt h.size)), Nat.lt_of_lt_of_le h.size hb.size, (hb.cell (p := ⟨w.heap.size, 0, none⟩) h.size).trans h.c0, (hb.cell (p := ⟨w.heap.size, 1, none⟩) h.size).trans h.c1, (hb.cell (p := ⟨w.heap.size, 2, none⟩) h.size).trans h.c2⟩

set_option maxHeartbeats 1000000 in
theorem popsLaw_far (o a b args : Int) (hf : 1099511627776 < b ∨ b < -1099511627776) (w : World) (hT : Tab w) (hg : 0 < w.heap.size) :
    Calls Tryd.prog 4 #[.agg #[.int .i64 o, .int .i64 a, .int .i64 b], .int .i64 args] w fun e w' => e = .returned (.bool true) ∧ Below w.heap.size w w' := by
  have HK := Lib.hid (kept0 w o a b)
  have HL := fun W hW => Lib.hid (lives_any W hW)
  have HT := Lib.hid hT
  clear hT
  rcases hf with hf | hf
  · go_enter Tryd.func4, Tryd.ntmps4
    go_wp2_with fail
    refine (HL _ (HT.out.below HK.out.below hg)).out.mono ?_
    rintro e w1 ⟨rfl, hb⟩
    go_wp2
    go_ret
    exact ⟨rfl, (HK.out.next hb).below⟩
  · have hd : decide (1099511627776 < b) = false := by simp; omega
    go_enter Tryd.func4, Tryd.ntmps4
    go_wp2_with fail
    refine (HL _ (HT.out.below HK.out.below hg)).out.mono ?_
    rintro e w1 ⟨rfl, hb⟩
    go_wp2
    go_ret
    exact ⟨rfl, (HK.out.next hb).below⟩

set_option maxHeartbeats 2000000 in
theorem popsLaw_near (o a b args : Int) (h1 : b ≤ 1099511627776) (h2 : -1099511627776 ≤ b) (w : World) (hT : Tab w) (hg : 0 < w.heap.size) :
    Calls Tryd.prog 4 #[.agg #[.int .i64 o, .int .i64 a, .int .i64 b], .int .i64 args] w fun e w' => e = .returned (.bool true) ∧ Below w.heap.size w w' := by
  have HK := Lib.hid (kept0 w o a b)
  have HL : ∀ W, Kept w o a b W → Calls Tryd.prog 16 #[] W fun e w' => e = .returned (.bool true) ∧ w'.cell? ⟨w.heap.size, 0, none⟩ = some (.int .i64 o) ∧ w'.cell? ⟨w.heap.size, 1, none⟩ = some (.int .i64 a) ∧ w'.cell? ⟨w.heap.size, 2, none⟩ = some (.int .i64 b) ∧ Hid (Kept w o a b w') := fun W hW => (lives_any W (hT.below hW.below hg)).mono fun e w' ⟨he, hb⟩ => by
    have h := hW.next hb
    exact ⟨he, h.c0, h.c1, h.c2, Lib.hid h⟩
  have HP : ∀ W, Kept w o a b W → Calls Tryd.prog 17 #[.agg #[.int .i64 o, .int .i64 a, .int .i64 b], .int .i64 args] W fun e w' => e = .returned (.int .i64 (pops o b args)) ∧ w'.cell? ⟨w.heap.size, 0, none⟩ = some (.int .i64 o) ∧ w'.cell? ⟨w.heap.size, 1, none⟩ = some (.int .i64 a) ∧ w'.cell? ⟨w.heap.size, 2, none⟩ = some (.int .i64 b) ∧ Hid (Kept w o a b w') := fun W hW => (pops_any o a b args (by omega) (by omega) W).mono fun e w' ⟨he, hw⟩ => by
    have h := hW.next (hw ▸ (Below.refl W.heap.size W).alloc (Nat.le_refl _) (insBox o a b))
    exact ⟨he, h.c0, h.c1, h.c2, Lib.hid h⟩
  have HR : ∀ W, Kept w o a b W → Calls Tryd.prog 18 #[.agg #[.int .i64 o, .int .i64 a, .int .i64 b], .int .i64 args] W fun e w' => e = .returned (.int .i64 (pops o b args)) ∧ w'.cell? ⟨w.heap.size, 0, none⟩ = some (.int .i64 o) ∧ w'.cell? ⟨w.heap.size, 1, none⟩ = some (.int .i64 a) ∧ w'.cell? ⟨w.heap.size, 2, none⟩ = some (.int .i64 b) ∧ Hid (Kept w o a b w') := fun W hW => (refPops_any o a b args (by omega) (by omega) W).mono fun e w' ⟨he, hb⟩ => by
    have h := hW.next hb
    exact ⟨he, h.c0, h.c1, h.c2, Lib.hid h⟩
  have hd1 : decide (1099511627776 < b) = false := by simp; omega
  have hd2 : decide (b < -1099511627776) = false := by simp; omega
  generalize pops o b args = p at *
  clear hT
  go_enter Tryd.func4, Tryd.ntmps4
  go_wp2_with fail
  go_region_held3 (fun w' => w'.cell? ⟨w.heap.size, 0, none⟩ = some (.int .i64 o) ∧ w'.cell? ⟨w.heap.size, 1, none⟩ = some (.int .i64 a) ∧ w'.cell? ⟨w.heap.size, 2, none⟩ = some (.int .i64 b)) (go_keep)
    (first
      | (go_at_call 17; refine (HP _ ?_).mono ?_; (exact HK.out.drew); rintro e w1 ⟨rfl, d0, d1, d2, HX⟩)
      | (go_at_call 18; refine (HR _ ?_).mono ?_; (exact HX.out); rintro e w2 ⟨rfl, f0, f1, f2, HY⟩)
      | (go_at_call 16; refine (HL _ ?_).mono ?_; (exact HY.out); rintro e w3 ⟨rfl, i0, i1, i2, HZ⟩))
  all_goals
    go_wp2_with fail
    go_ret
    exact ⟨rfl, HZ.out.below⟩
end Go.Proofs.YthpdokijkjbagaaDoor.oper
