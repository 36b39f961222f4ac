/-
  The program's table of names lies where its initialiser lays it; with that: an operation's name, and the operation of a name. The card ties the table to the program's text.
-/
import Derived.Test.YtaefkkhmhogpeaaDoorPProg
import Derived.Deep.Cut
import Derived.Deep.CutBlock
import Derived.Deep.DeepCutAuto
namespace Go.Proofs.YtaefkkhmhogpeaaDoor.oper
open Go.RowKit Go.ChangeShapes

/-- The table of names lies where its initialiser lays it. -/
def Tab (w : World) : Prop := ∀ j, j < 52 → w.cell? ⟨1, j, none⟩ = some (.string (nm.getD j ⟨#[]⟩))
theorem Tab.below {B : Nat} {w w' : World} (h : Tab w) (hb : Below B w w') (hB : 1 < B) : Tab w' := fun j hj => (hb.cell (p := ⟨1, j, none⟩) hB).trans (h j hj)
theorem Tab.cell {w w' : World} (h : Tab w) (hc : ∀ p, w'.cell? p = w.cell? p) : Tab w' := fun j hj => (hc _).trans (h j hj)

theorem name_yes (k : Nat) (hk : k < 52) (w : World) (hT : Tab w) : Calls Tryd.prog 58 #[.int .i64 (k : Int)] w fun e w' => e = .returned (.string (nm.getD k ⟨#[]⟩)) ∧ w = w' := by
  have hc := hT k hk
  have H := Lib.hid (known_yes k (by omega) (by omega) w)
  have h1 : (k : Int) < 52 := by omega
  clear hT
  generalize nm.getD k ⟨#[]⟩ = x at *
  go_enter Tryd.func58, Tryd.ntmps58
  go_wp2_with fail
  refine H.out.mono ?_
  rintro e w' ⟨rfl, rfl⟩
  go_wp2
  go_ret
  exact ⟨rfl, rfl⟩
theorem name_no (n : Int) (h : n < 0 ∨ 51 < n) (w : World) : Calls Tryd.prog 58 #[.int .i64 n] w fun e w' => e = .returned (.string ⟨#[]⟩) ∧ w = w' := by
  have H := Lib.hid (known_no n h w)
  clear h
  go_enter Tryd.func58, Tryd.ntmps58
  go_wp2_with fail
  refine H.out.mono ?_
  rintro e w' ⟨rfl, rfl⟩
  go_wp2
  go_ret
  exact ⟨rfl, rfl⟩
theorem name_any (n : Int) (w : World) (hT : Tab w) : Calls Tryd.prog 58 #[.int .i64 n] w fun e w' => e = .returned (.string (txt nm n)) ∧ w = w' := by
  by_cases h : 0 ≤ n ∧ n ≤ 51
  · obtain ⟨k, hk, rfl⟩ := nat_of h
    rw [txt_at hk]
    exact name_yes k hk w hT
  · rw [txt_no (by omega)]
    exact name_no n (by omega) w

/-- What Of answers of a name: the operation, and whether there is one. -/
def ofK (s : ByteArray) : Int := if idx s < 52 then idx s else 0
def ofB (s : ByteArray) : Bool := decide (idx s < 52)
def OfPost (s : ByteArray) (w : World) (e : Ending) (w' : World) : Prop := e = .returned (.tuple #[.int .i64 (ofK s), .bool (ofB s)]) ∧ w = w'

end Go.Proofs.YtaefkkhmhogpeaaDoor.oper
