/-
  The program's own check of an instruction (typed over the code of 392f5a9): for every instruction. The table of names must lie where its initialiser lays it.
-/
import Derived.Test.YtaefkkhmhogpeaaDoorJChk
namespace Go.Proofs.YtaefkkhmhogpeaaDoor.inst
open Go.RowKit Go.ChangeShapes
open Go.Proofs.YtaefkkhmhogpeaaDoor.oper (ret_int ret_bool ret_string Tab nm txt)
open Go.Proofs.YtaefkkhmhogpeaaDoor.word (Word)
set_option linter.unusedVariables false

/-- Both operands, as an array. -/
def arrBox (a b : Int) : Obj := .cells #[.int .i64 a, .int .i64 b] 64
theorem stand_arr (w : World) (o a b : Int) : Stand w o a b (w.heap.size + 1) ((w.alloc (insBox o a b)).alloc (arrBox a b)) := by
  have hz : (w.alloc (insBox o a b)).heap.size = w.heap.size + 1 := World.size_alloc w _
  have h0 : ((w.alloc (insBox o a b)).alloc (arrBox a b)).heap[w.heap.size]? = some (insBox o a b) := (Below.heap_alloc _ _ _ (by omega)).trans (heap_alloc_new w _)
  have h1 : ((w.alloc (insBox o a b)).alloc (arrBox a b)).heap[w.heap.size + 1]? = some (arrBox a b) := by rw [← hz]; exact heap_alloc_new _ _
  refine ⟨((Below.refl _ w).alloc (Nat.le_refl _) _).alloc (by omega) _, by rw [World.size_alloc]; omega, ?_, ?_, ?_, ?_, ?_⟩
  all_goals
    unfold World.cell?
    first | rw [h0] | rw [h1]
    rfl

set_option maxRecDepth 100000 in
/-- What is left of both operands behind the first d: the place, and how many. -/
theorem slice_left (g d m : Nat) (hm : d + m = 2) : ∃ A : Addr, (0 < m → A = ⟨g, d, none⟩) ∧ ∀ W : World, (Instr.sliceAt 64 (.pointer (some ⟨g, 0, none⟩)) (some (.int .i64 (d : Int))) none none).run Tryd.prog W = .ok (.slice (some A) m m) W := by
  have hal : Tryd.prog.arrayLen 64 = 2 := by kernel_rfl
  have hw : ∀ W, (Instr.sliceAt 64 (.pointer (some ⟨g, 0, none⟩)) (some (.int .i64 (d : Int))) none none).run Tryd.prog W = .ok (slicedAt ⟨g, 0, none⟩ d 2 2 1) W := fun W => by
    rw [run_sliceAt_array_l W 64 ⟨g, 0, none⟩ (by kernel_rfl) .i64 (d : Int) (by omega) (by rw [hal]; omega), hal]
    rfl
  refine ⟨if 2 = d then ⟨g, 0, none⟩ else (⟨g, 0, none⟩ : Addr).add (d * 1), fun h => ?_, fun W => ?_⟩
  · rw [if_neg (by omega)]
    simp [Addr.add]
    omega
  · rw [hw W]
    unfold slicedAt
    rw [show 2 - d = m from by omega]

set_option maxRecDepth 100000 in
set_option maxHeartbeats 4000000 in
theorem check_yes (o a b : Int) (hk : Known o) (w : World) (hw : Okw w) : Calls Tryd.prog 14 #[.agg #[.int .i64 o, .int .i64 a, .int .i64 b]] w fun e w' => e = .returned (.int .i64 (chk o a b : Nat)) ∧ Below w.heap.size w w' := by
  have HK : Hid (Calls Tryd.prog 40 #[.int .i64 o] (w.alloc (insBox o a b)) fun e w' => e = .returned (.bool true) ∧ w.alloc (insBox o a b) = w') :=
    Lib.hid ((knows_any o _ (hw.next ((Below.refl _ _).alloc (Nat.le_refl _) _)).1).mono fun e w' ⟨h1, h2⟩ => ⟨by rw [h1, decide_eq_true hk], h2⟩)
  have HF : Hid (Calls Tryd.prog 37 #[.int .i64 o] (w.alloc (insBox o a b)) fun e w' => e = .returned (.string (txt Go.Proofs.YtaefkkhmhogpeaaDoor.oper.fm o)) ∧ w.alloc (insBox o a b) = w') := Lib.hid (Go.Proofs.YtaefkkhmhogpeaaDoor.oper.form_any o _)
  have HZ : Hid (chk o a b = chkF (form o) a b) := Lib.hid (by unfold chk; rw [if_pos hk])
  have hy2 : (txt Go.Proofs.YtaefkkhmhogpeaaDoor.oper.fm o).size ≤ 2 := by have := form_le o; unfold form at this; rwa [← size_list] at this
  have HS : Hid (Stand w o a b (w.heap.size + 1) ((w.alloc (insBox o a b)).alloc (arrBox a b))) := Lib.hid (stand_arr w o a b)
  have hz1 : (w.alloc (insBox o a b)).heap.size = w.heap.size + 1 := World.size_alloc w _
  unfold form at HZ
  rw [HZ.out]
  clear hk HZ hw
  generalize txt Go.Proofs.YtaefkkhmhogpeaaDoor.oper.fm o = y at *
  go_enter Tryd.func14, Tryd.ntmps14
  unfold insBox at HK HF
  go_wp2_with fail
  refine HK.out.mono ?_
  rintro e w1 ⟨rfl, rfl⟩
  go_wp2_with fail
  refine HF.out.mono ?_
  rintro e w1 ⟨rfl, rfl⟩
  have HN := Lib.hid hy2
  unfold insBox arrBox at HS
  go_wp2_with fail
  go_loopw [22] (fun i wr => ∃ j : Nat, j ≤ y.size ∧ i = .int .i64 (j : Int) ∧ Hid (∀ k, k < j → okAt y.data.toList a b k = true) ∧ Hid (Stand w o a b (w.heap.size + 1) wr)) (fun i _ => y.size - (intOf i).toNat)
  case atStart => exact ⟨0, Nat.zero_le _, rfl, Lib.hid (fun k hk => absurd hk (Nat.not_lt_zero k)), HS⟩
  case round =>
    obtain ⟨j, hj, rfl, HO, HS⟩ := hrel
    by_cases hlt : j < y.size
    · have hcell := HS.out.at (j := j) (by omega)
      have hlt' : (j : Int) < (y.size : Int) := by omega
      have hj2 : j < 2 := by omega
      have hyj : y[j] = y.data.toList.getD j 0 := letter_at hlt
      have HK1 := fun h => Lib.hid (chkF_arg (f := y.data.toList) (a := a) (b := b) (j := j) (by rw [← size_list]; exact hlt) h)
      have HNx : ∀ h : okAt y.data.toList a b j = true, Hid (∀ k, k < j + 1 → okAt y.data.toList a b k = true) := fun h => Lib.hid (fun k hk => by
        rcases Nat.lt_or_ge k j with h1 | h1
        · exact HO.out k h1
        · obtain rfl : k = j := by omega
          exact h)
      have HR := fun W => inRange_any (y.data.toList.getD j 0) (opd a b j) W
      unfold okAt at HK1 HNx
      generalize fitsB (y.data.toList.getD j 0) (opd a b j) = q at *
      generalize y.data.toList.getD j 0 = c at *
      generalize opd a b j = v at *
      have hj0 : (0 : Int) ≤ (j : Int) := by omega
      have hj2' : (j : Int) < 2 := by omega
      have HB := Lib.hid HS.out.below
      have HR' : ∀ W : World, Calls Tryd.prog 41 #[.int .u8 (c.toNat : Int), .int .i64 v] W fun e w' => e = .returned (.bool q) ∧ w' = W := fun W => (HR W).mono fun e w' ⟨h1, h2⟩ => ⟨h1, h2.symm⟩
      clear HR
      cases q with
      | true =>
        have HE := HNx rfl
        clear HK1 HNx
        go_wp2_with fail
        go_quiet ((go_at_call 41; exact Calls.quiet_of_same (HR' _)))
        go_wp2
        go_roundw
        case rel => exact ⟨j + 1, by omega, by go_num, HE, Lib.hid (HS.out.drewN _)⟩
        case measure => simp [intOf]; omega
      | false =>
        have HE := HK1 rfl
        clear HK1 HNx
        go_wp2_with fail
        go_quiet ((go_at_call 41; exact Calls.quiet_of_same (HR' _)))
        go_wp2
        go_ret
        exact ⟨ret_int (by rw [HE.out]; rfl), below_drewN HB.out _⟩
    · obtain rfl : j = y.size := by omega
      obtain ⟨m, hm⟩ : ∃ m, y.size + m = 2 := ⟨2 - y.size, by omega⟩
      obtain ⟨A, hA, hsl⟩ := slice_left (w.heap.size + 1) y.size m hm
      have HA := Lib.hid hA
      have HM := Lib.hid hm
      clear hA hm
      have hcell := fun k (hk : k < 2) => Lib.hid (HS.out.at hk)
      have hc1 := HS.out.c1
      have hc2 := HS.out.c2
      have HB := Lib.hid HS.out.below
      have HF1 : Hid (∀ k, k < y.data.toList.length → okAt y.data.toList a b k = true) := Lib.hid (by rw [← size_list]; exact HO.out)
      go_wp2_with fail
      any_goals
        have h1 : y.toList = [106, 106] := by assumption
        have h2 : b < a := by assumption
        have HE := Lib.hid (chkF_two HF1.out (by rw [← ByteArray.toList_eq]; exact h1) h2)
        clear h1
        go_ret
        exact ⟨ret_int (by rw [HE.out]; rfl), HB.out⟩
      all_goals
        have HX : Hid (¬ (y.data.toList = [106, 106] ∧ b < a)) := Lib.hid (by
          rw [← ByteArray.toList_eq]
          rintro ⟨h1, h2⟩
          first
            | omega
            | exact absurd h1 (by assumption))
        clear hcell hc1 hc2
        try (rename y.toList = [106, 106] => h1; replace h1 := Lib.hid h1)
        try (rename ¬ y.toList = [106, 106] => h1; replace h1 := Lib.hid h1)
        go_loopw [47] (fun i wr => ∃ j : Nat, j ≤ m ∧ i = .int .i64 (j : Int) ∧ Hid (∀ k, y.size ≤ k → k < y.size + j → opd a b k = 0) ∧ Hid (Stand w o a b (w.heap.size + 1) wr)) (fun i _ => m - (intOf i).toNat)
        case atStart => exact ⟨0, Nat.zero_le _, rfl, Lib.hid (fun k h1 h2 => absurd h1 (Nat.not_le_of_lt h2)), HS⟩
        case round =>
          obtain ⟨j, hj1, rfl, HP, HS2⟩ := hrel
          have HB2 := Lib.hid HS2.out.below
          by_cases hlt : j < m
          · have hm := HM.out
            have hc := HS2.out.at (j := y.size + j) (by omega)
            obtain rfl := HA.out (by omega)
            have hj3 : (j : Int) < (m : Int) := by omega
            by_cases hv : opd a b (y.size + j) = 0
            · have HE : Hid (∀ k, y.size ≤ k → k < y.size + (j + 1) → opd a b k = 0) := Lib.hid (fun k h1 h2 => by
                rcases Nat.lt_or_ge k (y.size + j) with h3 | h3
                · exact HP.out k h1 h3
                · obtain rfl : k = y.size + j := by omega
                  exact hv)
              rw [hv] at hc
              clear hv
              go_wp2
              go_roundw
              case rel => exact ⟨j + 1, by omega, by go_num, HE, HS2⟩
              case measure => simp [intOf]; omega
            · have HE := Lib.hid (chkF_form HF1.out HX.out (j := y.size + j) (by rw [← size_list]; omega) (by omega) hv)
              have hv' : (opd a b (y.size + j) != 0) = true := by simpa using hv
              clear hv hm
              generalize opd a b (y.size + j) = v at *
              go_wp2
              go_ret
              exact ⟨ret_int (by rw [HE.out]; rfl), HB2.out⟩
          · obtain rfl : j = m := by omega
            have hm := HM.out
            have HE := Lib.hid (chkF_fine HF1.out HX.out (by rw [← size_list]; exact fun k h1 h2 => HP.out k h1 (by omega)))
            go_wp2_with fail
            go_ret
            exact ⟨ret_int (by rw [HE.out]; rfl), HB2.out⟩

theorem check_no (o a b : Int) (hk : ¬ Known o) (w : World) (hw : Okw w) : Calls Tryd.prog 14 #[.agg #[.int .i64 o, .int .i64 a, .int .i64 b]] w fun e w' => e = .returned (.int .i64 (chk o a b : Nat)) ∧ Below w.heap.size w w' := by
  have HK : Hid (Calls Tryd.prog 40 #[.int .i64 o] (w.alloc (insBox o a b)) fun e w' => e = .returned (.bool false) ∧ w.alloc (insBox o a b) = w') :=
    Lib.hid ((knows_any o _ (hw.next ((Below.refl _ _).alloc (Nat.le_refl _) _)).1).mono fun e w' ⟨h1, h2⟩ => ⟨by rw [h1, decide_eq_false hk], h2⟩)
  have HZ : Hid (chk o a b = 6) := Lib.hid (by unfold chk; rw [if_neg hk])
  have HB := Lib.hid ((Below.refl w.heap.size w).alloc (Nat.le_refl _) (insBox o a b))
  rw [HZ.out]
  clear hk HZ hw
  go_enter Tryd.func14, Tryd.ntmps14
  unfold insBox at HK
  go_wp2_with fail
  refine HK.out.mono ?_
  rintro e w1 ⟨rfl, rfl⟩
  go_wp2_with fail
  go_ret
  exact ⟨rfl, HB.out⟩
theorem check_any (o a b : Int) (w : World) (hw : Okw w) : Calls Tryd.prog 14 #[.agg #[.int .i64 o, .int .i64 a, .int .i64 b]] w fun e w' => e = .returned (.int .i64 (chk o a b : Nat)) ∧ Below w.heap.size w w' := by
  by_cases hk : Known o
  · exact check_yes o a b hk w hw
  · exact check_no o a b hk w hw
end Go.Proofs.YtaefkkhmhogpeaaDoor.inst
