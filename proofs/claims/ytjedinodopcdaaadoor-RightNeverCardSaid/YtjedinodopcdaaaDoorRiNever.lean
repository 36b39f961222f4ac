/-
  Nobody comes to a right that nobody had, but by Root: for every list of calls that came in. No condition. Printed by tools/mkriplays.py.
-/
import Derived.Test.YtjedinodopcdaaaDoorRiTwo
import Derived.LoopTactic
import Derived.Deep.DeepCutAuto
namespace Go.Proofs.YtjedinodopcdaaaDoor.rig
open Go.RowKit Go.ChangeShapes
open Go.Proofs.YtjedinodopcdaaaDoor.obj
open Go.Proofs.YtjedinodopcdaaaDoor.bits (Is64 hasB minus)
open Go.Proofs.YtjedinodopcdaaaDoor.bits.one (Okt okt_mono)
set_option linter.unusedVariables false
set_option linter.unusedSimpArgs false

set_option maxRecDepth 100000 in
set_option maxHeartbeats 8000000 in
theorem never_walk (A : Option Addr) (cap : Nat) (ops : List (Int × Int × Int × Nat)) (o : Int) (w : World) (ho : OpsAt w A ops) (hi : ∀ j, j < ops.length → I64 (ops.getD j (0, 0, 0, 0)).1 ∧ I64 (ops.getD j (0, 0, 0, 0)).2.1 ∧ I64 (ops.getD j (0, 0, 0, 0)).2.2.1 ∧ U64 (ops.getD j (0, 0, 0, 0)).2.2.2) (hl : ops.length ≤ 9223372036854775807) (hoo : I64 o) (hOk : Okt w) :
    Calls Tryd.prog 4 #[.slice A ops.length cap, .int .i64 o] w fun e w' => e = .returned (.bool true) ∧ Below w.heap.size w w' := by
  have HO := Lib.hid ho
  have HI := Lib.hid hi
  have HOi := Lib.hid hoo
  have HOk := Lib.hid hOk
  have HL : ∀ W, Below w.heap.size w W → Hid (Calls Tryd.prog 12 #[] W fun e w' => e = .returned (.bool true) ∧ Below W.heap.size W w') := fun W h => Lib.hid (lives_any W (okt_mono _ _ HOk.out h))
  have CN := Lib.hid (new_any w)
  have HC := Lib.hid (ls_new (Below.refl w.heap.size w))
  clear ho hi hoo hOk
  go_enter Tryd.func4, Tryd.ntmps4
  go_wp2_with fail
  refine CN.out.mono ?_
  rintro _ w1 ⟨rfl, rfl⟩
  clear CN
  generalize w.alloc (riO none) = W1 at *
  go_wp2_with fail
  go_loopw [6] (fun i wr => ∃ (j : Nat) (x : List Nat), i = .int .i64 (j : Int) ∧ j ≤ ops.length ∧ j ≤ 50 ∧ Hid (Ls w w.heap.size x wr)) (fun i _ => ops.length - (intOf i).toNat)
  case atStart => exact ⟨0, zerosR, rfl, Nat.zero_le _, Nat.zero_le _, HC⟩
  case round =>
    clear HC
    obtain ⟨j, x, rfl, hj, hj50, HP⟩ := hrel
    by_cases hlt : j < ops.length ∧ j < 50
    · obtain ⟨hlt, h50⟩ := hlt
      have d1 : decide (j < ops.length) = true := by simp; omega
      have d2 : decide ((j : Int) < 50) = true := by simp; omega
      obtain ⟨b, off, rfl, hb, c0, c1, c2, c3⟩ := HO.out j hlt
      obtain ⟨i0, i1, i2, i3⟩ := HI.out j hlt
      generalize ops.getD j (0, 0, 0, 0) = o1 at *
      obtain ⟨k, f, t, m⟩ := o1
      dsimp only at c0 c1 c2 c3 i0 i1 i2 i3
      have HCe : Hid (∀ W, Below w.heap.size w W → W.cell? ⟨b, off + j * 4, none⟩ = some (.int .i64 k) ∧ W.cell? ⟨b, off + j * 4 + 1, none⟩ = some (.int .i64 f) ∧ W.cell? ⟨b, off + j * 4 + 2, none⟩ = some (.int .i64 t) ∧ W.cell? ⟨b, off + j * 4 + 3, none⟩ = some (.int .u64 (m : Int))) := Lib.hid (fun W h => ⟨(h.cell (p := ⟨b, off + j * 4, none⟩) hb).trans c0, (h.cell (p := ⟨b, off + j * 4 + 1, none⟩) hb).trans c1, (h.cell (p := ⟨b, off + j * 4 + 2, none⟩) hb).trans c2, (h.cell (p := ⟨b, off + j * 4 + 3, none⟩) hb).trans c3⟩)
      have HIk := Lib.hid (And.intro i1 (And.intro i2 i3))
      have k1 : (0 : Int) ≤ (j : Int) := by omega
      clear c0 c1 c2 c3 i0 i1 i2 i3 hb
      have k2 : (j : Int) < (ops.length : Int) := by omega
      have HJ := Lib.hid (And.intro hlt h50)
      clear hj hj50 hlt h50
      obtain ⟨l2, hl2⟩ : ∃ l2, l2 = doR x k f t m := ⟨_, rfl⟩
      have hnv := never HP.out.fine k f t o HIk.out.2.2
      rw [← hl2] at hnv
      have C1 := Lib.hid (HP.out.c_who o HOi.out)
      obtain ⟨y0, hy0⟩ : ∃ y, y = whoR x o := ⟨_, rfl⟩
      obtain ⟨y2, hy2⟩ : ∃ y, y = whoR l2 o := ⟨_, rfl⟩
      rw [← hy0] at C1 hnv
      rw [← hy2] at hnv
      have HY2 := Lib.hid hy2
      have HL2 := Lib.hid hl2
      have HN := Lib.hid hnv
      clear hy0 hy2 hl2 hnv
      go_wp2_with fail
      refine C1.out.mono ?_
      rintro _ w1 ⟨rfl, hb⟩
      have HP1 := Lib.hid (HP.out.next hb)
      clear hb C1 HP
      have HDo := Lib.hid (HP1.out.c_do k f t m HIk.out.1 HIk.out.2.1 HIk.out.2.2 HOk.out)
      rw [← HL2.out] at HDo
      unfold opV at HDo
      go_wp2_with (first | refine wop_load rfl _ rfl b (off + j * 4) k f t m rfl (HCe.out _ HP1.out.1) ?_)
      refine HDo.out.mono ?_
      rintro _ w2 ⟨rfl, h1, _⟩
      have HP2 := Lib.hid h1
      clear h1 HDo HP1
      by_cases e0 : y0 = 0
      · have f0 : ((y0 : Int) == 0) = true := by rw [beq_iff_eq]; omega
        have C2 := Lib.hid (HP2.out.c_who o HOi.out)
        rw [← HY2.out] at C2
        obtain ⟨c0, c1, c2, c3⟩ := HCe.out _ HP2.out.1
        by_cases e2 : y2 = 0
        · have f2 : ((y2 : Int) != 0) = false := by rw [bne_eq_false_iff_eq]; omega
          clear e0 e2 c0 c1 c2 c3
          go_wp2_with fail
          refine C2.out.mono ?_
          rintro _ w3 ⟨rfl, hb⟩
          have HX := Lib.hid (HP2.out.next hb)
          clear hb C2 HP2
          go_wp2
          have hj := HJ.out.1
          have h50 := HJ.out.2
          have hw : wrap64 ((j : Int) + 1) = ((j + 1 : Nat) : Int) := by unfold wrap64; omega
          go_roundw
          case rel => exact ⟨j + 1, l2, by first | rw [hw] | rfl, by omega, by omega, HX⟩
          case measure => (try rw [hw]); simp only [intOf]; omega
        · have f2 : ((y2 : Int) != 0) = true := by rw [bne_iff_ne]; omega
          have hk : k = 0 := Decidable.byContradiction fun hk => e2 (HN.out hk e0)
          subst hk
          have HC2 := Lib.hid (fun W h => (HCe.out W h).1)
          clear e0 e2 c0 c1 c2 c3 HN
          go_wp2_with fail
          refine C2.out.mono ?_
          rintro _ w3 ⟨rfl, hb⟩
          have HX := Lib.hid (HP2.out.next hb)
          have c0 := HC2.out _ HX.out.1
          clear hb C2 HP2
          go_wp2
          have hj := HJ.out.1
          have h50 := HJ.out.2
          have hw : wrap64 ((j : Int) + 1) = ((j + 1 : Nat) : Int) := by unfold wrap64; omega
          go_roundw
          case rel => exact ⟨j + 1, l2, by first | rw [hw] | rfl, by omega, by omega, HX⟩
          case measure => (try rw [hw]); simp only [intOf]; omega
      · have f0 : ((y0 : Int) == 0) = false := by rw [beq_eq_false_iff_ne]; omega
        have HX := HP2
        clear e0 HP2
        go_wp2
        have hj := HJ.out.1
        have h50 := HJ.out.2
        have hw : wrap64 ((j : Int) + 1) = ((j + 1 : Nat) : Int) := by unfold wrap64; omega
        go_roundw
        case rel => exact ⟨j + 1, l2, by first | rw [hw] | rfl, by omega, by omega, HX⟩
        case measure => (try rw [hw]); simp only [intOf]; omega
    · have HE := HP
      clear HP HI HO HOi HOk
      have d2 : decide ((j : Int) < 50) = decide (j < 50) := decide_eq_decide.2 (by omega)
      have hno : ¬ j < ops.length ∨ ¬ j < 50 := by omega
      clear hj hj50 hlt
      go_wp2_with fail
      all_goals
        clear hno d2
        have HB := Lib.hid HE.out.1
        have C := HL _ HB.out
        clear HL HE
        refine C.out.mono ?_
        rintro _ w9 ⟨rfl, hb⟩
        clear C
        go_wp2
        go_ret
        exact ⟨rfl, HB.out.trans (hb.mono HB.out.size)⟩
end Go.Proofs.YtjedinodopcdaaaDoor.rig
