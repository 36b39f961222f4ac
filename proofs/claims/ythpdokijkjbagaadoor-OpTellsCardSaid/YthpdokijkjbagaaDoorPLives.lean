/-
  The common end of these statements: one name leads to its operation, whose form, and another one's name, are told. The table of names must lie where its initialiser lays it.
-/
import Derived.Test.YthpdokijkjbagaaDoorPTab
import Derived.Test.YthpdokijkjbagaaDoorPPops
namespace Go.Proofs.YthpdokijkjbagaaDoor.oper
open Go.RowKit Go.ChangeShapes

theorem cwait_idx : idx ⟨#[99, 119, 97, 105, 116]⟩ = 32 := by decide +kernel
set_option maxHeartbeats 1000000 in
theorem lives_any (w : World) (hT : Tab w) : Calls Tryd.prog 16 #[] w fun e w' => e = .returned (.bool true) ∧ Below w.heap.size w w' := by
  have HO := of_any ⟨#[99, 119, 97, 105, 116]⟩ w hT
  unfold OfPost ofK ofB at HO
  rw [cwait_idx] at HO
  have HO := Lib.hid HO
  have HF := Lib.hid (form_any 32 w)
  rw [show txt fm 32 = ⟨#[99, 109]⟩ from rfl] at HF
  have HN := Lib.hid (name_any 51 w hT)
  rw [show txt nm 51 = ⟨#[109, 101, 110, 100]⟩ from rfl] at HN
  have HP := Lib.hid (pops_any 40 0 0 0 (by omega) (by omega) w)
  rw [show pops 40 0 0 = 2 from rfl] at HP
  have HB := Lib.hid ((Below.refl w.heap.size w).alloc (Nat.le_refl _) (insBox 40 0 0))
  clear hT
  go_enter Tryd.func16, Tryd.ntmps16
  go_wp2_with fail
  refine HO.out.mono ?_
  rintro e w1 ⟨rfl, rfl⟩
  go_wp2_with fail
  refine HF.out.mono ?_
  rintro e w1 ⟨rfl, rfl⟩
  go_wp2_with fail
  refine HN.out.mono ?_
  rintro e w1 ⟨rfl, rfl⟩
  go_wp2_with fail
  refine HP.out.mono ?_
  rintro e w1 ⟨rfl, rfl⟩
  go_wp2
  go_ret
  exact ⟨rfl, HB.out⟩
end Go.Proofs.YthpdokijkjbagaaDoor.oper
