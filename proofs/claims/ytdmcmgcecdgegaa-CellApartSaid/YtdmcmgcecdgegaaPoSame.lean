/-
  Two lists of shares that are one, as the statements ask it. No condition but that they are of at most 4,096.
-/
import Derived.Test.YtdmcmgcecdgegaaPoMem
namespace Go.Proofs.Ytdmcmgcecdgegaa.pol
open Go.RowKit Go.ChangeShapes
open Go.Proofs.Ytdmcmgcecdgegaa.obj
set_option linter.unusedVariables false
set_option linter.unusedSimpArgs false

theorem below_drewN {B : Nat} {a w : World} (h : Below B a w) (n : Nat) : Below B a (w.drewN n) := ⟨h.os, h.tape, h.output, h.size, h.block⟩
set_option maxRecDepth 100000 in
set_option maxHeartbeats 4000000 in
theorem same_any (A A2 : Option Addr) (c c2 : Nat) (l : List E) (hl : l.length ≤ 4096) (w : World) (B B2 : Nat → Prop) (hA : SAt w B A l) (hB : SAt w B2 A2 l) :
    Calls Try.prog 9 #[.slice A l.length c, .slice A2 l.length c2] w fun e w' => e = .returned (.bool true) ∧ Below w.heap.size w w' := by
  have HA := Lib.hid hA
  have HB := Lib.hid hB
  clear hA hB
  go_enter Try.func9, Try.ntmps9
  go_wp2_with fail
  go_loopw [5] (fun i wr => ∃ j : Nat, j ≤ l.length ∧ i = .int .i64 (j : Int) ∧ Hid (SAt wr B A l ∧ SAt wr B2 A2 l ∧ Below w.heap.size w wr)) (fun i _ => l.length - (intOf i).toNat)
  case atStart => exact ⟨0, Nat.zero_le _, rfl, Lib.hid ⟨HA.out, HB.out, Below.refl _ _⟩⟩
  case round =>
    obtain ⟨j, hj, rfl, HS⟩ := hrel
    by_cases hlt : j < l.length
    · obtain ⟨a, oa, rfl, _, _, a0, a1⟩ := HS.out.1 j hlt
      obtain ⟨b, ob, rfl, _, _, b0, b1⟩ := HS.out.2.1 j hlt
      have hlt' : (j : Int) < (l.length : Int) := by omega
      have hlt0 : (0 : Int) ≤ (j : Int) := by omega
      generalize l.getD j (0, 0) = d at *
      go_wp2_with fail
      go_quiet (fail)
      go_wp2
      go_roundw
      case rel => exact ⟨j + 1, by omega, by go_num, Lib.hid ⟨HS.out.1.keep (fun _ _ _ => rfl) (Nat.le_refl _), HS.out.2.1.keep (fun _ _ _ => rfl) (Nat.le_refl _), below_drewN HS.out.2.2 _⟩⟩
      case measure => simp [intOf]; omega
    · have HE := Lib.hid HS.out.2.2
      clear HS
      go_wp2_with fail
      go_ret
      exact ⟨rfl, HE.out⟩
end Go.Proofs.Ytdmcmgcecdgegaa.pol
