/-
  Two lists that lie in memory, held against each other: where both are one list they are found to be the same. No condition.
-/
import Derived.Test.YthpkndiegnhnbaaDoorBLives
import Derived.Deep.QuietTactic
import Derived.BigQuiet
namespace Go.Proofs.YthpkndiegnhnbaaDoor.bits
open Go.RowKit Go.ChangeShapes

theorem ListAt.below {B : Nat} {w w' : World} {g : Nat} {l : List Nat} (h : ListAt w g l) (hb : Below B w w') (hB : g < B) : ListAt w' g l := h.kept (hb.block g hB)

set_option maxHeartbeats 1000000 in
theorem same_any (l : List Nat) (hlen : l.length ≤ 64) (g1 g2 c1 c2 : Nat) (w : World) (h1 : ListAt w g1 l) (h2 : ListAt w g2 l) :
    Calls Tryd.prog 20 #[.slice (some ⟨g1, 0, none⟩) l.length c1, .slice (some ⟨g2, 0, none⟩) l.length c2] w fun e w' => e = .returned (.bool true) ∧ Below w.heap.size w w' := by
  have H1 := Lib.hid h1
  have H2 := Lib.hid h2
  clear h1 h2
  generalize hN : l.length = N at *
  have HN := Lib.hid hN
  clear hN
  go_enter Tryd.func20, Tryd.ntmps20
  go_wp2
  go_loopw [5] (fun i wr => ∃ k : Nat, k ≤ N ∧ i = .int .i64 (k : Int) ∧ Below w.heap.size w wr) (fun i _ => N - (intOf i).toNat)
  case atStart => exact ⟨0, Nat.zero_le _, rfl, Below.refl _ _⟩
  case round =>
    obtain ⟨k, hk, rfl, hb⟩ := hrel
    have HB := Lib.hid hb
    by_cases hlt : k < N
    · obtain ⟨x, hx⟩ : ∃ x : Nat, l[k]? = some x := ⟨_, List.getElem?_eq_getElem (by rw [HN.out]; exact hlt)⟩
      have hc1 := (H1.out.below hb H1.out.lt).cell hx
      have hc2 := (H2.out.below hb H2.out.lt).cell hx
      have hlt' : (k : Int) < (N : Int) := by omega
      clear hx hb
      go_wp2_with fail
      go_quiet (fail)
      go_wp2
      go_roundw
      case rel => exact ⟨k + 1, by omega, by go_num, ⟨HB.out.os, HB.out.tape, HB.out.output, HB.out.size, HB.out.block⟩⟩
      case measure => simp [intOf]; omega
    · obtain rfl : k = N := by omega
      clear hb
      go_wp2
      go_ret
      exact ⟨rfl, HB.out⟩
end Go.Proofs.YthpkndiegnhnbaaDoor.bits
