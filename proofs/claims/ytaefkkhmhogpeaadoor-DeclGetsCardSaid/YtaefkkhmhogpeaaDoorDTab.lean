/-
  The program's table of kinds' names lies where its initialiser lays it; with that: a kind's name, and whether there is such a kind (typed over the code of 392f5a9). The card ties the table to the program's text.
-/
import Derived.Test.YtaefkkhmhogpeaaDoorDRefCheck
namespace Go.Proofs.YtaefkkhmhogpeaaDoor.objs
open Go.RowKit Go.ChangeShapes
set_option linter.unusedVariables false

/-- The table of names lies where its initialiser lays it. -/
def Tabd (w : World) : Prop := ∀ j, j < 8 → w.cell? ⟨0, j, none⟩ = some (.string (names.getD j ⟨#[]⟩))
theorem Tabd.below {B : Nat} {w w' : World} (h : Tabd w) (hb : Below B w w') (hB : 0 < B) : Tabd w' := fun j hj => (hb.cell (p := ⟨0, j, none⟩) hB).trans (h j hj)
/-- What the program's calls ask of the world: the table lies where it should, below all that is made. -/
def Okd (w : World) : Prop := Tabd w ∧ 0 < w.heap.size
theorem Okd.below {B : Nat} {w w' : World} (h : Okd w) (hb : Below B w w') (hB : 0 < B) : Okd w' := ⟨h.1.below hb hB, Nat.lt_of_lt_of_le h.2 hb.size⟩
theorem Okd.next {w w' : World} (h : Okd w) (hb : Below w.heap.size w w') : Okd w' := h.below hb h.2

theorem name_any (k : Int) (w : World) (hw : Okd w) : Calls Tryd.prog 30 #[.int .i64 k] w fun e w' => e = .returned (.string (nameK k)) ∧ w = w' := by
  by_cases h0 : k < 0
  · have HE : Hid (nameK k = ⟨#[]⟩) := Lib.hid (by unfold nameK; rw [if_neg (by omega)])
    rw [HE.out]
    have hd : decide (k < 0) = true := by simpa using h0
    go_enter Tryd.func30, Tryd.ntmps30
    go_wp2_with fail
    go_ret
    exact ⟨rfl, rfl⟩
  · have hd : decide (k < 0) = false := by simpa using h0
    by_cases h8 : 8 ≤ k
    · have HE : Hid (nameK k = ⟨#[]⟩) := Lib.hid (by unfold nameK; rw [if_neg (by omega)])
      rw [HE.out]
      have hd2 : decide (8 ≤ k) = true := by simpa using h8
      go_enter Tryd.func30, Tryd.ntmps30
      go_wp2_with fail
      go_ret
      exact ⟨rfl, rfl⟩
    · obtain ⟨m, rfl⟩ : ∃ m : Nat, k = (m : Int) := ⟨k.toNat, by omega⟩
      have hm : m < 8 := by omega
      have hc := hw.1 m hm
      have HE : Hid (nameK (m : Int) = names.getD m ⟨#[]⟩) := Lib.hid (by
        unfold nameK
        by_cases hz : m = 0
        · subst hz; rfl
        · rw [if_pos (by omega), Int.toNat_natCast])
      rw [HE.out]
      have hd2 : decide (8 ≤ (m : Int)) = false := by simpa using h8
      have hm8 : (m : Int) < 8 := by omega
      generalize names.getD m ⟨#[]⟩ = x at *
      clear hw h0 h8
      go_enter Tryd.func30, Tryd.ntmps30
      go_wp2_with fail
      go_ret
      exact ⟨rfl, rfl⟩

theorem named : ∀ k, k < 8 → (!(names.getD k ⟨#[]⟩).toList.isEmpty) = decide (1 ≤ k) := by decide +kernel
theorem name_there (k : Int) : (!(nameK k).toList.isEmpty) = decide (1 ≤ k ∧ k ≤ 7) := by
  unfold nameK
  by_cases h : 0 < k ∧ k < 8
  · rw [if_pos h, named _ (by omega)]
    congr 1
    apply propext
    omega
  · rw [if_neg h, decide_eq_false (by omega), ByteArray.toList_eq]
    rfl
theorem known_any (k : Int) (w : World) (hw : Okd w) : Calls Tryd.prog 66 #[.int .i64 k] w fun e w' => e = .returned (.bool (decide (1 ≤ k ∧ k ≤ 7))) ∧ w = w' := by
  have HN := Lib.hid (name_any k w hw)
  have HE := Lib.hid (name_there k)
  clear hw
  generalize nameK k = x at *
  go_enter Tryd.func66, Tryd.ntmps66
  go_wp2_with fail
  refine HN.out.mono ?_
  rintro e w' ⟨rfl, rfl⟩
  go_wp2
  go_ret
  exact ⟨ret_bool HE.out, rfl⟩
end Go.Proofs.YtaefkkhmhogpeaaDoor.objs
