/-
  The program's table of names lies where its initialiser lays it; with that: an operation's name, and the operation of a name. The card ties the table to the program's text.
-/
import Derived.Test.YthpdokijkjbagaaDoorPProg
import Derived.Deep.Cut
import Derived.Deep.CutBlock
import Derived.Deep.DeepCutAuto
namespace Go.Proofs.YthpdokijkjbagaaDoor.oper
open Go.RowKit Go.ChangeShapes

/-- The table of names lies where its initialiser lays it. -/
def Tab (w : World) : Prop := ∀ j, j < 52 → w.cell? ⟨0, j, none⟩ = some (.string (nm.getD j ⟨#[]⟩))
theorem Tab.below {B : Nat} {w w' : World} (h : Tab w) (hb : Below B w w') (hB : 0 < B) : Tab w' := fun j hj => (hb.cell (p := ⟨0, j, none⟩) hB).trans (h j hj)
theorem Tab.cell {w w' : World} (h : Tab w) (hc : ∀ p, w'.cell? p = w.cell? p) : Tab w' := fun j hj => (hc _).trans (h j hj)

theorem name_yes (k : Nat) (hk : k < 52) (w : World) (hT : Tab w) : Calls Tryd.prog 10 #[.int .i64 (k : Int)] w fun e w' => e = .returned (.string (nm.getD k ⟨#[]⟩)) ∧ w = w' := by
  have hc := hT k hk
  have H := Lib.hid (known_yes k (by omega) (by omega) w)
  have h1 : (k : Int) < 52 := by omega
  clear hT
  generalize nm.getD k ⟨#[]⟩ = x at *
  go_enter Tryd.func10, Tryd.ntmps10
  go_wp2_with fail
  refine H.out.mono ?_
  rintro e w' ⟨rfl, rfl⟩
  go_wp2
  go_ret
  exact ⟨rfl, rfl⟩
theorem name_no (n : Int) (h : n < 0 ∨ 51 < n) (w : World) : Calls Tryd.prog 10 #[.int .i64 n] w fun e w' => e = .returned (.string ⟨#[]⟩) ∧ w = w' := by
  have H := Lib.hid (known_no n h w)
  clear h
  go_enter Tryd.func10, Tryd.ntmps10
  go_wp2_with fail
  refine H.out.mono ?_
  rintro e w' ⟨rfl, rfl⟩
  go_wp2
  go_ret
  exact ⟨rfl, rfl⟩
theorem name_any (n : Int) (w : World) (hT : Tab w) : Calls Tryd.prog 10 #[.int .i64 n] w fun e w' => e = .returned (.string (txt nm n)) ∧ w = w' := by
  by_cases h : 0 ≤ n ∧ n ≤ 51
  · obtain ⟨k, hk, rfl⟩ := nat_of h
    rw [txt_at hk]
    exact name_yes k hk w hT
  · rw [txt_no (by omega)]
    exact name_no n (by omega) w

/-- What Of answers of a name: the operation, and whether there is one. -/
def ofK (s : ByteArray) : Int := if idx s < 52 then idx s else 0
def ofB (s : ByteArray) : Bool := decide (idx s < 52)
def OfPost (s : ByteArray) (w : World) (e : Ending) (w' : World) : Prop := e = .returned (.tuple #[.int .i64 (ofK s), .bool (ofB s)]) ∧ w = w'

set_option maxHeartbeats 1000000 in
theorem of_any (s : ByteArray) (w : World) (hT : Tab w) : Calls Tryd.prog 8 #[.string s] w (OfPost s w) := by
  have HT := Lib.hid hT
  clear hT
  go_enter Tryd.func8, Tryd.ntmps8
  go_wp2
  go_loop [5] (fun i => ∃ k : Nat, k ≤ 52 ∧ k ≤ idx s ∧ i = .int .i64 (k : Int)) (fun i => 52 - (intOf i).toNat)
  case atStart => exact ⟨0, Nat.zero_le _, Nat.zero_le _, rfl⟩
  case round =>
    obtain ⟨k, hk, hi, rfl⟩ := hrel
    by_cases hlt : k < 52
    · have hc := HT.out k hlt
      have hlt' : (k : Int) < 52 := by omega
      cases hs : same (nm.getD k ⟨#[]⟩) s with
      | true =>
        have HE := Lib.hid (idx_of hi hlt hs)
        unfold same at hs
        generalize nm.getD k ⟨#[]⟩ = x at *
        go_wp2
        exact bodyPost_ret (v := .tuple #[.int .i64 (k : Int), .bool true]) (by simp [results, Tryd.results8, go_sem]) rfl ⟨by unfold ofK ofB; rw [HE.out, if_pos hlt, decide_eq_true hlt], rfl⟩
      | false =>
        have HE := Lib.hid (idx_next hi hlt hs)
        unfold same at hs
        generalize nm.getD k ⟨#[]⟩ = x at *
        go_wp2
        go_round
        case rel => exact ⟨k + 1, by omega, HE.out, by go_num⟩
        case measure => simp [intOf]; omega
    · have HE : Hid (¬ idx s < 52) := Lib.hid (by omega)
      have hge : ¬ (k : Int) < 52 := by omega
      go_wp2
      exact bodyPost_ret (v := .tuple #[.int .i64 0, .bool false]) (by simp [results, Tryd.results8, go_sem]) rfl ⟨by unfold ofK ofB; rw [if_neg HE.out, decide_eq_false HE.out], rfl⟩
end Go.Proofs.YthpdokijkjbagaaDoor.oper
