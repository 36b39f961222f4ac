/-
  The walk's call that tells the next place to be looked at (typed over the code of 5351f23). Of at most 200 instructions.
-/
import Derived.Test.YtjlmgoaglpkhoaaHMem
import Derived.RegionTactic
import Derived.ChangeAlike
import Derived.BigQuiet
import Derived.Deep.LoopGhost
import Derived.Deep.QuietTactic
namespace Go.Proofs.Ytjlmgoaglpkhoaa.pgm.dep
open Go.RowKit Go.ChangeShapes
open Go.Proofs.Ytjlmgoaglpkhoaa.pgm
set_option linter.unusedVariables false

/-- The place that is told: 0, if there is none. -/
def kv (n k : Nat) : Int := if k < n then (k : Int) else 0
set_option maxRecDepth 100000 in
set_option maxHeartbeats 4000000 in
theorem next_any (W : World) (bw bd ba n : Nat) (vF : Value) (C : Option Addr) (cc : Nat) (z : Z) (pl er : Int) (k : Nat) (h : Wk W bw bd ba n vF (.slice C n cc) z pl er) (hn : n ≤ 200) (hk : k ≤ n) (hle : z.le ≤ k)
    (hb : ∀ i, z.le ≤ i → i < k → z.ah.getD i false = false) (ht : k < n → z.ah.getD k false = true) :
    Calls Try.prog 16 #[.pointer (some ⟨bw, 0, none⟩)] W fun e w' => e = .returned (.tuple #[.int .i64 (kv n k), .bool (decide (k < n))]) ∧
      Wk w' bw bd ba n vF (.slice C n cc) ⟨z.dp, if k < n then z.ah.set k false else z.ah, k⟩ pl er ∧ Trn bw bd ba W w' := by
  have HB := Lib.hid hb
  have HT := Lib.hid ht
  have HI : Hid (Wk W bw bd ba n vF (.slice C n cc) ⟨z.dp, z.ah, z.le⟩ pl er) := Lib.hid h
  have HN := Lib.hid hn
  have HK := Lib.hid hk
  clear hb ht h hn hk
  obtain ⟨dp, ah, le⟩ := z
  dsimp only at *
  generalize hx : kv n k = x
  generalize hy : decide (k < n) = y
  generalize hA : (if k < n then ah.set k false else ah) = A
  have HX := Lib.hid (show _ ∧ _ ∧ _ from ⟨hx, hy, hA⟩)
  clear hx hy hA
  go_enter Try.func16, Try.ntmps16
  go_wp2
  go_loopg [] (k - le) (fun g wr => ∃ j : Nat, g = k - j ∧ le ≤ j ∧ j ≤ k ∧ Hid (Wk wr bw bd ba n vF (.slice C n cc) ⟨dp, ah, j⟩ pl er) ∧ Hid (Trn bw bd ba W wr))
  case atStart => exact ⟨le, rfl, Nat.le_refl _, hle, HI, Lib.hid (Trn.refl _ _ _ _)⟩
  case round =>
    clear HI hle
    obtain ⟨j, hg, hj0, hjk, HW, HR⟩ := hrel
    have hkn := HK.out
    have hn2 := HN.out
    obtain ⟨-, c1, -, c3, c4, -, -, d4, -, -⟩ := HW.out.cells
    dsimp only at c4
    by_cases hjn : j < n
    · obtain ⟨u0, v0⟩ := HW.out.yes hjn
      dsimp only at u0
      have q0 : decide ((j : Int) < (n : Int)) = true := decide_eq_true (by omega)
      have h0 : (0 : Int) ≤ (j : Int) := by omega
      have h1 : (j : Int) < (n : Int) := by omega
      by_cases hjk2 : j < k
      · rw [HB.out j hj0 hjk2] at u0
        have HM := fun m => Lib.hid ((HW.out.drewN m).least (j + 1))
        have HU := fun m => Lib.hid ((HR.out.drewN m).setCell (p := ⟨bw, 4, none⟩) (.inl rfl) (.int .i64 ((j + 1 : Nat) : Int)))
        have e1 : ((j + 1 : Nat) : Int) = (j : Int) + 1 := by omega
        rw [e1] at HM HU
        go_wp2
        go_quiet (fail)
        go_wp2
        go_quiet (fail)
        go_wp2
        go_roundg (k - (j + 1))
        case measure => omega
        case rel => exact ⟨j + 1, rfl, by omega, by omega, HM _, HU _⟩
      · obtain rfl : j = k := by omega
        rw [HT.out hjn] at u0
        obtain ⟨rfl, rfl, rfl⟩ : x = (j : Int) ∧ y = true ∧ A = ah.set j false := ⟨by rw [← HX.out.1]; unfold kv; rw [if_pos hjn], by rw [← HX.out.2.1, decide_eq_true hjn], by rw [← HX.out.2.2, if_pos hjn]⟩
        clear HX
        have HM := fun m => Lib.hid ((HW.out.drewN m).mark j false)
        have HU := fun m => Lib.hid ((HR.out.drewN m).setCell (p := ⟨ba, j, none⟩) (.inr (.inr rfl)) (.bool false))
        have n2 := HW.out.n2
        have n2' := Ne.symm n2
        go_wp2
        go_quiet (fail)
        go_wp2
        go_quiet (fail)
        go_wp2
        go_region
        go_wp2
        go_ret2
        exact ⟨rfl, (HM _).out, (HU _).out⟩
    · have q0 : decide ((j : Int) < (n : Int)) = false := decide_eq_false (by omega)
      obtain rfl : j = k := by omega
      obtain ⟨rfl, rfl, rfl⟩ : x = 0 ∧ y = false ∧ A = ah := ⟨by rw [← HX.out.1]; unfold kv; rw [if_neg hjn], by rw [← HX.out.2.1, decide_eq_false hjn], by rw [← HX.out.2.2, if_neg hjn]⟩
      clear HX
      have HM := fun m => Lib.hid (HW.out.drewN m)
      have HU := fun m => Lib.hid (HR.out.drewN m)
      go_wp2
      go_quiet (fail)
      go_wp2
      go_ret2
      exact ⟨rfl, (HM _).out, (HU _).out⟩
end Go.Proofs.Ytjlmgoaglpkhoaa.pgm.dep
