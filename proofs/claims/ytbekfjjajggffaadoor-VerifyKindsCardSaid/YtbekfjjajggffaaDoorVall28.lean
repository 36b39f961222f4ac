/-
  Texts of one claim in one file: HBehind. Each has its own sentence, with its conditions.
-/
import Derived.Test.YtbekfjjajggffaaDoorVall27
import Derived.StillTailTactics
/-
  The walk's call that tells how many values stand there behind an instruction (typed over the code of 5351f23). The instruction may be; the functions' arguments are from 0 to 8; the depth is from 0 to 16.
-/
namespace Go.Proofs.YtbekfjjajggffaaDoor.pgm.dep
open Go.RowKit Go.ChangeShapes
open Go.Proofs.YtbekfjjajggffaaDoor.pgm
open Go.Proofs.YtbekfjjajggffaaDoor.objs (De zero DAt cells3)
open Go.Proofs.YtbekfjjajggffaaDoor.oper (pops numb ly insBox pops_any pushes_yes goesB)
open Go.Proofs.YtbekfjjajggffaaDoor.span (within_any)
set_option linter.unusedVariables false

theorem pops_at {fs : List Fn} {x : De} (h : chkI x = 0) : pops x.1 x.2.2 (argsAt fs x.2.1) = pops x.1 x.2.2 (argsOf fs x) := by
  unfold argsAt argsOf
  by_cases ho : x.1 = 20
  · have hf := func_small h ho
    by_cases hl : x.2.1 < (fs.length : Int)
    · rw [if_pos (by omega), if_pos ⟨ho, hl⟩]
    · rw [if_neg (by omega), if_neg (fun hh => hl hh.2)]
  · unfold pops
    rw [if_neg ho, if_neg ho]

set_option maxRecDepth 100000 in
set_option maxHeartbeats 4000000 in
theorem behind_any (W : World) (bw bd ba n : Nat) (C : Option Addr) (cf : Nat) (fs : List Fn) (vC : Value) (z : Z) (pl er d : Int) (x : De) (h : Wk W bw bd ba n (.slice C fs.length cf) vC z pl er) (hF : FsAt W C fs) (hl : fs.length ≤ 16) (hf : ∀ f ∈ fs, 0 ≤ f.ar ∧ f.ar ≤ 8) (hx : chkI x = 0) (h0 : 0 ≤ d) (h1 : d ≤ 16) :
    Calls Tryd.prog 76 #[.pointer (some ⟨bw, 0, none⟩), .agg #[.int .i64 x.1, .int .i64 x.2.1, .int .i64 x.2.2], .int .i64 d] W fun e w' => e = .returned (.tuple #[.int .i64 (behindE fs x d).1, .int .i64 ((behindE fs x d).2 : Int)]) ∧ Below W.heap.size W w' := by
  have hp := pops_small hf hx
  have hy := lays_small x.1
  have hb := b_small hx
  have hk := (Go.Proofs.YtbekfjjajggffaaDoor.inst.chk_zero hx).1
  have hpa := pops_at (fs := fs) hx
  obtain ⟨r, hr⟩ : ∃ r, r = behindE fs x d := ⟨_, rfl⟩
  rw [← hr]
  unfold behindE at hr
  have hb0 : Below W.heap.size W (W.alloc (insBox x.1 x.2.1 x.2.2)) := (Below.refl _ W).alloc (Nat.le_refl _) _
  have HA := Lib.hid (args_any ((W.alloc (insBox x.1 x.2.1 x.2.2)).drew) bw bd ba n C cf fs vC z pl er x.2.1 (h.next hb0).drew ((hF.next hb0).next ((Below.refl _ _).drew)) hl)
  have HP := fun W => Lib.hid (pops_any x.1 x.2.1 x.2.2 (argsAt fs x.2.1) (by omega) (by omega) W)
  have HU := fun W => Lib.hid (pushes_yes x.1 hk.1 hk.2 W)
  rw [hpa] at HP
  have hx0 := heap_alloc_new W (insBox x.1 x.2.1 x.2.2)
  have hbb : Below W.heap.size W ((W.alloc (insBox x.1 x.2.1 x.2.2)).drew.alloc (insBox x.1 x.2.1 x.2.2)) := (hb0.drew).alloc (by rw [show (W.alloc (insBox x.1 x.2.1 x.2.2)).drew.heap.size = W.heap.size + 1 from World.size_alloc _ _]; omega) _
  have hx2 : ((W.alloc (insBox x.1 x.2.1 x.2.2)).drew.alloc (insBox x.1 x.2.1 x.2.2)).heap[W.heap.size]? = some (insBox x.1 x.2.1 x.2.2) := (Below.heap_alloc _ _ _ (by rw [show (W.alloc (insBox x.1 x.2.1 x.2.2)).drew.heap.size = W.heap.size + 1 from World.size_alloc _ _]; omega)).trans hx0
  obtain ⟨o, a, b⟩ := x
  dsimp only at *
  generalize pops o b (argsOf fs (o, a, b)) = k at *
  generalize numb ly o = y at *
  generalize argsAt fs a = ar at *
  have HBB := Lib.hid hbb
  have HR := Lib.hid hr
  have HX2 := Lib.hid hx2
  unfold insBox at HA HP hx0 HBB HX2
  have HWi := fun W => Lib.hid (within_any k 0 d W)
  obtain ⟨i0, i1, i2, -, -, -⟩ := cells3 hx0
  clear h hF hx hb0 hbb hx2 hr hf hpa hk hx0
  go_enter Tryd.func76, Tryd.ntmps76
  go_wp2
  generalize hW0 : W.alloc (.cells #[.int .i64 o, .int .i64 a, .int .i64 b] 46) = W0 at *
  clear hW0
  go_still_tail 5, (by kernel_rfl)
  still_call (HA.out.mono fun e w' h => ⟨h.1, h.2.symm⟩)
  repeat still_step
  refine wpStill_nil ?_
  change wpList _ _ _ _ _ W0.drew
  generalize hW1 : W0.drew = W1 at *
  clear hW1
  go_wp2_with fail
  refine (HP _).out.mono ?_
  rintro _ _ ⟨rfl, rfl⟩
  obtain ⟨i0, i1, i2, -, -, -⟩ := cells3 HX2.out
  generalize W1.alloc (.cells #[.int .i64 o, .int .i64 a, .int .i64 b] 46) = W2 at *
  by_cases h2 : d < k
  · have hv := HR.out
    rw [if_pos h2] at hv
    subst hv
    rw [decide_eq_false (by omega)] at HWi
    go_wp2_with fail
    refine (HWi _).out.mono ?_
    rintro _ _ ⟨rfl, rfl⟩
    go_wp2
    go_ret2
    exact ⟨rfl, HBB.out⟩
  · have hv := HR.out
    rw [if_neg h2] at hv
    rw [decide_eq_true (by omega)] at HWi
    go_wp2_with fail
    refine (HWi _).out.mono ?_
    rintro _ _ ⟨rfl, rfl⟩
    go_wp2_with fail
    refine (HU _).out.mono ?_
    rintro _ _ ⟨rfl, rfl⟩
    by_cases h3 : 16 < d + (y - k)
    · rw [if_pos h3] at hv
      subst hv
      have q0 : decide (d + (y - k) > 16) = true := decide_eq_true (by omega)
      go_wp2
      go_ret2
      exact ⟨rfl, HBB.out⟩
    · rw [if_neg h3] at hv
      subst hv
      have q0 : decide (d + (y - k) > 16) = false := decide_eq_false (by omega)
      go_wp2
      go_ret2
      exact ⟨rfl, HBB.out⟩
end Go.Proofs.YtbekfjjajggffaaDoor.pgm.dep
