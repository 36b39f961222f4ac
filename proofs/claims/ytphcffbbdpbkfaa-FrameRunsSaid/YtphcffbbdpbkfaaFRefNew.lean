/-
  The document's own first frame. At most a thousand arguments.
-/
import Derived.Test.YtphcffbbdpbkfaaFStep
import Derived.Test.YtphcffbbdpbkfaaWRef
import Derived.Test.YtphcffbbdpbkfaaNums
namespace Go.Proofs.Ytphcffbbdpbkfaa.frames
open Go.RowKit Go.ChangeShapes
open Go.Proofs.Ytphcffbbdpbkfaa.nums (NAt)
open Go.Proofs.Ytphcffbbdpbkfaa.word (low refLow_any)
set_option linter.unusedVariables false

theorem low_i64 (n : Int) : IntKind.i64.wrap (low n) = low n := by
  unfold low
  rw [IntKind.wrap_i64]
  omega

set_option maxRecDepth 100000 in
set_option maxHeartbeats 4000000 in
theorem refNew_row (fn : Int) (B : Option Addr) (c : Nat) (args : List Int) (hl : args.length ≤ 1000) (w : World) (hB : NAt w B args) :
    Calls Try.prog 5 #[.int .i64 fn, .slice B args.length c] w fun e w' => ∃ A' c', e = .returned (.slice A' 1 c') ∧ FsAt w' A' [newF fn args] ∧ Below w.heap.size w w' ∧ 1 ≤ c' ∧ A' ≠ none := by
  have HB := Lib.hid hB
  have HN : Hid (newF fn args = argsF args (zeroF.set 0 fn) (min args.length 8)) := Lib.hid rfl
  have hb0 : Below w.heap.size w (w.alloc (frB (zeroF.set 0 fn))) := (Below.refl _ w).alloc (Nat.le_refl _) _
  have hx0 := heap_alloc_new w (frB (zeroF.set 0 fn))
  have H0 := Lib.hid (And.intro hx0 hb0)
  clear hB hb0 hx0
  go_enter Try.func5, Try.ntmps5
  go_upto_region 2 with (first | refine wl_build rfl _ rfl fn rfl ?_ | refine wl_alloc rfl rfl ?_ | refine wl_store rfl _ _ rfl w zeroF _ rfl rfl rfl ?_)
  generalize w.alloc (frB (zeroF.set 0 fn)) = W1 at *
  go_wp2_with fail
  go_loopw [6] (fun i wr => ∃ k : Nat, k ≤ min args.length 8 ∧ i = .int .i64 (k : Int) ∧ Hid (wr.heap[w.heap.size]? = some (frB (argsF args (zeroF.set 0 fn) k)) ∧ Below w.heap.size w wr)) (fun i _ => 8 - (intOf i).toNat)
  case atStart => exact ⟨0, Nat.zero_le _, rfl, H0⟩
  case round =>
    clear H0
    obtain ⟨k, hk, rfl, HH⟩ := hrel
    by_cases h1 : k < args.length
    · have q1 : decide ((k : Int) < (args.length : Int)) = true := decide_eq_true (by omega)
      by_cases h2 : k < 8
      · have q2 : decide ((k : Int) < 8) = true := decide_eq_true (by omega)
        obtain ⟨b, off, rfl, hb, c0'⟩ := HB.out k h1
        have c0 := (HH.out.2.cell (p := ⟨b, off + k, none⟩) hb).trans c0'
        have HLo := fun W => Lib.hid (refLow_any (args.getD k 0) W)
        have hx := cell_block HH.out.1 (k := 3 + k) (by omega)
        have hf := free_block HH.out.1 (3 + k)
        have HK : Hid (argsF args (zeroF.set 0 fn) (k + 1) = (argsF args (zeroF.set 0 fn) k).set (3 + k) (low (args.getD k 0))) := Lib.hid rfl
        have HS := Lib.hid (set_block HH.out.1 (by rw [(args_keep args (zeroF.set 0 fn) k).1, List.length_set]; rfl) (k := 3 + k) (by omega) (low (args.getD k 0)))
        have HB2 : Hid (∀ v : Value, Below w.heap.size w (wr.setCell ⟨w.heap.size, 3 + k, none⟩ v)) := Lib.hid fun v => HH.out.2.setCell (p := ⟨w.heap.size, 3 + k, none⟩) (Nat.le_refl _) v
        generalize args.getD k 0 = x at *
        have k0 : (0 : Int) ≤ (k : Int) := by omega
        have k1 : (k : Int) < (args.length : Int) := by omega
        have k2 : (k : Int) < 8 := by omega
        clear HH c0' hk
        go_wp2_with fail
        refine (HLo _).out.mono ?_
        rintro _ _ ⟨rfl, rfl⟩
        go_wp2_with fail
        go_roundw
        case rel => exact ⟨k + 1, by omega, by go_num, Lib.hid ⟨by rw [HK.out]; exact HS.out, HB2.out _⟩⟩
        case measure => simp [intOf]; omega
      · obtain rfl : k = 8 := by omega
        have q2 : decide (((8 : Nat) : Int) < 8) = false := decide_eq_false (by omega)
        have HF : Hid (FCells wr w.heap.size 0 (newF fn args)) := Lib.hid (FCells.of_block (by rw [HN.out, show min args.length 8 = 8 by omega]; exact HH.out.1))
        go_wp2_with (first | refine wl_load rfl _ rfl w.heap.size 0 rfl (newF fn args) HF.out ?_ | refine wl_row rfl _ rfl (newF fn args) rfl ?_)
        go_ret
        exact ⟨_, _, rfl, FsAt.one (heap_alloc_new wr _), HH.out.2.alloc HH.out.2.size _, Nat.le_refl 1, fun e => by cases e⟩
    · have q1 : decide ((k : Int) < (args.length : Int)) = false := decide_eq_false (by omega)
      have HF : Hid (FCells wr w.heap.size 0 (newF fn args)) := Lib.hid (FCells.of_block (by rw [HN.out, show min args.length 8 = k by omega]; exact HH.out.1))
      go_wp2_with (first | refine wl_load rfl _ rfl w.heap.size 0 rfl (newF fn args) HF.out ?_ | refine wl_row rfl _ rfl (newF fn args) rfl ?_)
      go_ret
      exact ⟨_, _, rfl, FsAt.one (heap_alloc_new wr _), HH.out.2.alloc HH.out.2.size _, Nat.le_refl 1, fun e => by cases e⟩
theorem refNew_any (fn : Int) (B : Option Addr) (c : Nat) (args : List Int) (hl : args.length ≤ 1000) (w : World) (hB : NAt w B args) :
    Calls Try.prog 5 #[.int .i64 fn, .slice B args.length c] w fun e w' => ∃ A' c', e = .returned (.slice A' 1 c') ∧ FsAt w' A' [newF fn args] ∧ Below w.heap.size w w' :=
  (refNew_row fn B c args hl w hB).mono fun e w' ⟨A', c', h1, h2, h3, _⟩ => ⟨A', c', h1, h2, h3⟩
end Go.Proofs.Ytphcffbbdpbkfaa.frames
