/-
  Texts of one claim in one file: JCheck, DOne, DCheck, ECheck. Each has its own sentence, with its conditions.
-/
import Derived.Test.YtbekfjjajggffaaDoorVall8
import Derived.Test.YtbekfjjajggffaaDoorVall24
import Derived.Test.YtbekfjjajggffaaDoorVall7
/-
  The program's own check of an instruction (typed over the code of 392f5a9): for every instruction. The table of names must lie where its initialiser lays it.
-/
namespace Go.Proofs.YtbekfjjajggffaaDoor.inst
open Go.RowKit Go.ChangeShapes
open Go.Proofs.YtbekfjjajggffaaDoor.oper (ret_int ret_bool ret_string Tab nm txt)
open Go.Proofs.YtbekfjjajggffaaDoor.word (Word)
set_option linter.unusedVariables false

/-- Both operands, as an array. -/
def arrBox (a b : Int) : Obj := .cells #[.int .i64 a, .int .i64 b] 78
theorem stand_arr (w : World) (o a b : Int) : Stand w o a b (w.heap.size + 1) ((w.alloc (insBox o a b)).alloc (arrBox a b)) := by
  have hz : (w.alloc (insBox o a b)).heap.size = w.heap.size + 1 := World.size_alloc w _
  have h0 : ((w.alloc (insBox o a b)).alloc (arrBox a b)).heap[w.heap.size]? = some (insBox o a b) := (Below.heap_alloc _ _ _ (by omega)).trans (heap_alloc_new w _)
  have h1 : ((w.alloc (insBox o a b)).alloc (arrBox a b)).heap[w.heap.size + 1]? = some (arrBox a b) := by rw [← hz]; exact heap_alloc_new _ _
  refine ⟨((Below.refl _ w).alloc (Nat.le_refl _) _).alloc (by omega) _, by rw [World.size_alloc]; omega, ?_, ?_, ?_, ?_, ?_⟩
  all_goals
    unfold World.cell?
    first | rw [h0] | rw [h1]
    rfl

set_option maxRecDepth 100000 in
/-- What is left of both operands behind the first d: the place, and how many. -/
theorem slice_left (g d m : Nat) (hm : d + m = 2) : ∃ A : Addr, (0 < m → A = ⟨g, d, none⟩) ∧ ∀ W : World, (Instr.sliceAt 78 (.pointer (some ⟨g, 0, none⟩)) (some (.int .i64 (d : Int))) none none).run Tryd.prog W = .ok (.slice (some A) m m) W := by
  have hal : Tryd.prog.arrayLen 78 = 2 := by kernel_rfl
  have hw : ∀ W, (Instr.sliceAt 78 (.pointer (some ⟨g, 0, none⟩)) (some (.int .i64 (d : Int))) none none).run Tryd.prog W = .ok (slicedAt ⟨g, 0, none⟩ d 2 2 1) W := fun W => by
    rw [run_sliceAt_array_l W 78 ⟨g, 0, none⟩ (by kernel_rfl) .i64 (d : Int) (by omega) (by rw [hal]; omega), hal]
    rfl
  refine ⟨if 2 = d then ⟨g, 0, none⟩ else (⟨g, 0, none⟩ : Addr).add (d * 1), fun h => ?_, fun W => ?_⟩
  · rw [if_neg (by omega)]
    simp [Addr.add]
    omega
  · rw [hw W]
    unfold slicedAt
    rw [show 2 - d = m from by omega]

set_option maxRecDepth 100000 in
set_option maxHeartbeats 4000000 in
theorem check_yes (o a b : Int) (hk : Known o) (w : World) (hw : Okw w) : Calls Tryd.prog 74 #[.agg #[.int .i64 o, .int .i64 a, .int .i64 b]] w fun e w' => e = .returned (.int .i64 (chk o a b : Nat)) ∧ Below w.heap.size w w' := by
  have HK : Hid (Calls Tryd.prog 85 #[.int .i64 o] (w.alloc (insBox o a b)) fun e w' => e = .returned (.bool true) ∧ w.alloc (insBox o a b) = w') :=
    Lib.hid ((knows_any o _ (hw.next ((Below.refl _ _).alloc (Nat.le_refl _) _)).1).mono fun e w' ⟨h1, h2⟩ => ⟨by rw [h1, decide_eq_true hk], h2⟩)
  have HF : Hid (Calls Tryd.prog 38 #[.int .i64 o] (w.alloc (insBox o a b)) fun e w' => e = .returned (.string (txt Go.Proofs.YtbekfjjajggffaaDoor.oper.fm o)) ∧ w.alloc (insBox o a b) = w') := Lib.hid (Go.Proofs.YtbekfjjajggffaaDoor.oper.form_any o _)
  have HZ : Hid (chk o a b = chkF (form o) a b) := Lib.hid (by unfold chk; rw [if_pos hk])
  have hy2 : (txt Go.Proofs.YtbekfjjajggffaaDoor.oper.fm o).size ≤ 2 := by have := form_le o; unfold form at this; rwa [← size_list] at this
  have HS : Hid (Stand w o a b (w.heap.size + 1) ((w.alloc (insBox o a b)).alloc (arrBox a b))) := Lib.hid (stand_arr w o a b)
  have hz1 : (w.alloc (insBox o a b)).heap.size = w.heap.size + 1 := World.size_alloc w _
  unfold form at HZ
  rw [HZ.out]
  clear hk HZ hw
  generalize txt Go.Proofs.YtbekfjjajggffaaDoor.oper.fm o = y at *
  go_enter Tryd.func74, Tryd.ntmps74
  unfold insBox at HK HF
  go_wp2_with fail
  refine HK.out.mono ?_
  rintro e w1 ⟨rfl, rfl⟩
  go_wp2_with fail
  refine HF.out.mono ?_
  rintro e w1 ⟨rfl, rfl⟩
  have HN := Lib.hid hy2
  unfold insBox arrBox at HS
  go_wp2_with fail
  go_loopw [22] (fun i wr => ∃ j : Nat, j ≤ y.size ∧ i = .int .i64 (j : Int) ∧ Hid (∀ k, k < j → okAt y.data.toList a b k = true) ∧ Hid (Stand w o a b (w.heap.size + 1) wr)) (fun i _ => y.size - (intOf i).toNat)
  case atStart => exact ⟨0, Nat.zero_le _, rfl, Lib.hid (fun k hk => absurd hk (Nat.not_lt_zero k)), HS⟩
  case round =>
    obtain ⟨j, hj, rfl, HO, HS⟩ := hrel
    by_cases hlt : j < y.size
    · have hcell := HS.out.at (j := j) (by omega)
      have hlt' : (j : Int) < (y.size : Int) := by omega
      have hj2 : j < 2 := by omega
      have hyj : y[j] = y.data.toList.getD j 0 := letter_at hlt
      have HK1 := fun h => Lib.hid (chkF_arg (f := y.data.toList) (a := a) (b := b) (j := j) (by rw [← size_list]; exact hlt) h)
      have HNx : ∀ h : okAt y.data.toList a b j = true, Hid (∀ k, k < j + 1 → okAt y.data.toList a b k = true) := fun h => Lib.hid (fun k hk => by
        rcases Nat.lt_or_ge k j with h1 | h1
        · exact HO.out k h1
        · obtain rfl : k = j := by omega
          exact h)
      have HR := fun W => inRange_any (y.data.toList.getD j 0) (opd a b j) W
      unfold okAt at HK1 HNx
      generalize fitsB (y.data.toList.getD j 0) (opd a b j) = q at *
      generalize y.data.toList.getD j 0 = c at *
      generalize opd a b j = v at *
      have hj0 : (0 : Int) ≤ (j : Int) := by omega
      have hj2' : (j : Int) < 2 := by omega
      have HB := Lib.hid HS.out.below
      have HR' : ∀ W : World, Calls Tryd.prog 86 #[.int .u8 (c.toNat : Int), .int .i64 v] W fun e w' => e = .returned (.bool q) ∧ w' = W := fun W => (HR W).mono fun e w' ⟨h1, h2⟩ => ⟨h1, h2.symm⟩
      clear HR
      cases q with
      | true =>
        have HE := HNx rfl
        clear HK1 HNx
        go_wp2_with fail
        go_quiet ((go_at_call 86; exact Calls.quiet_of_same (HR' _)))
        go_wp2
        go_roundw
        case rel => exact ⟨j + 1, by omega, by go_num, HE, Lib.hid (HS.out.drewN _)⟩
        case measure => simp [intOf]; omega
      | false =>
        have HE := HK1 rfl
        clear HK1 HNx
        go_wp2_with fail
        go_quiet ((go_at_call 86; exact Calls.quiet_of_same (HR' _)))
        go_wp2
        go_ret
        exact ⟨ret_int (by rw [HE.out]; rfl), below_drewN HB.out _⟩
    · obtain rfl : j = y.size := by omega
      obtain ⟨m, hm⟩ : ∃ m, y.size + m = 2 := ⟨2 - y.size, by omega⟩
      obtain ⟨A, hA, hsl⟩ := slice_left (w.heap.size + 1) y.size m hm
      have HA := Lib.hid hA
      have HM := Lib.hid hm
      clear hA hm
      have hcell := fun k (hk : k < 2) => Lib.hid (HS.out.at hk)
      have hc1 := HS.out.c1
      have hc2 := HS.out.c2
      have HB := Lib.hid HS.out.below
      have HF1 : Hid (∀ k, k < y.data.toList.length → okAt y.data.toList a b k = true) := Lib.hid (by rw [← size_list]; exact HO.out)
      go_wp2_with fail
      any_goals
        have h1 : y.toList = [106, 106] := by assumption
        have h2 : b < a := by assumption
        have HE := Lib.hid (chkF_two HF1.out (by rw [← ByteArray.toList_eq]; exact h1) h2)
        clear h1
        go_ret
        exact ⟨ret_int (by rw [HE.out]; rfl), HB.out⟩
      all_goals
        have HX : Hid (¬ (y.data.toList = [106, 106] ∧ b < a)) := Lib.hid (by
          rw [← ByteArray.toList_eq]
          rintro ⟨h1, h2⟩
          first
            | omega
            | exact absurd h1 (by assumption))
        clear hcell hc1 hc2
        try (rename y.toList = [106, 106] => h1; replace h1 := Lib.hid h1)
        try (rename ¬ y.toList = [106, 106] => h1; replace h1 := Lib.hid h1)
        go_loopw [47] (fun i wr => ∃ j : Nat, j ≤ m ∧ i = .int .i64 (j : Int) ∧ Hid (∀ k, y.size ≤ k → k < y.size + j → opd a b k = 0) ∧ Hid (Stand w o a b (w.heap.size + 1) wr)) (fun i _ => m - (intOf i).toNat)
        case atStart => exact ⟨0, Nat.zero_le _, rfl, Lib.hid (fun k h1 h2 => absurd h1 (Nat.not_le_of_lt h2)), HS⟩
        case round =>
          obtain ⟨j, hj1, rfl, HP, HS2⟩ := hrel
          have HB2 := Lib.hid HS2.out.below
          by_cases hlt : j < m
          · have hm := HM.out
            have hc := HS2.out.at (j := y.size + j) (by omega)
            obtain rfl := HA.out (by omega)
            have hj3 : (j : Int) < (m : Int) := by omega
            by_cases hv : opd a b (y.size + j) = 0
            · have HE : Hid (∀ k, y.size ≤ k → k < y.size + (j + 1) → opd a b k = 0) := Lib.hid (fun k h1 h2 => by
                rcases Nat.lt_or_ge k (y.size + j) with h3 | h3
                · exact HP.out k h1 h3
                · obtain rfl : k = y.size + j := by omega
                  exact hv)
              rw [hv] at hc
              clear hv
              go_wp2
              go_roundw
              case rel => exact ⟨j + 1, by omega, by go_num, HE, HS2⟩
              case measure => simp [intOf]; omega
            · have HE := Lib.hid (chkF_form HF1.out HX.out (j := y.size + j) (by rw [← size_list]; omega) (by omega) hv)
              have hv' : (opd a b (y.size + j) != 0) = true := by simpa using hv
              clear hv hm
              generalize opd a b (y.size + j) = v at *
              go_wp2
              go_ret
              exact ⟨ret_int (by rw [HE.out]; rfl), HB2.out⟩
          · obtain rfl : j = m := by omega
            have hm := HM.out
            have HE := Lib.hid (chkF_fine HF1.out HX.out (by rw [← size_list]; exact fun k h1 h2 => HP.out k h1 (by omega)))
            go_wp2_with fail
            go_ret
            exact ⟨ret_int (by rw [HE.out]; rfl), HB2.out⟩

theorem check_no (o a b : Int) (hk : ¬ Known o) (w : World) (hw : Okw w) : Calls Tryd.prog 74 #[.agg #[.int .i64 o, .int .i64 a, .int .i64 b]] w fun e w' => e = .returned (.int .i64 (chk o a b : Nat)) ∧ Below w.heap.size w w' := by
  have HK : Hid (Calls Tryd.prog 85 #[.int .i64 o] (w.alloc (insBox o a b)) fun e w' => e = .returned (.bool false) ∧ w.alloc (insBox o a b) = w') :=
    Lib.hid ((knows_any o _ (hw.next ((Below.refl _ _).alloc (Nat.le_refl _) _)).1).mono fun e w' ⟨h1, h2⟩ => ⟨by rw [h1, decide_eq_false hk], h2⟩)
  have HZ : Hid (chk o a b = 6) := Lib.hid (by unfold chk; rw [if_neg hk])
  have HB := Lib.hid ((Below.refl w.heap.size w).alloc (Nat.le_refl _) (insBox o a b))
  rw [HZ.out]
  clear hk HZ hw
  go_enter Tryd.func74, Tryd.ntmps74
  unfold insBox at HK
  go_wp2_with fail
  refine HK.out.mono ?_
  rintro e w1 ⟨rfl, rfl⟩
  go_wp2_with fail
  go_ret
  exact ⟨rfl, HB.out⟩
theorem check_any (o a b : Int) (w : World) (hw : Okw w) : Calls Tryd.prog 74 #[.agg #[.int .i64 o, .int .i64 a, .int .i64 b]] w fun e w' => e = .returned (.int .i64 (chk o a b : Nat)) ∧ Below w.heap.size w w' := by
  by_cases hk : Known o
  · exact check_yes o a b hk w hw
  · exact check_no o a b hk w hw
end Go.Proofs.YtbekfjjajggffaaDoor.inst

/-
  The program's own answer what is wrong with an object (typed over the code of 392f5a9): for every object. The table of names must lie where its initialiser lays it.
-/
namespace Go.Proofs.YtbekfjjajggffaaDoor.objs
open Go.RowKit Go.ChangeShapes
open Go.Proofs.YtbekfjjajggffaaDoor.word (Word)
open Go.Proofs.YtbekfjjajggffaaDoor.span (within_any)
set_option linter.unusedVariables false

/-- May the numbers be that an object's kind has? -/
def rng (l : List De) (d : De) : Bool :=
  if d.1 = 3 then decide (1 ≤ d.2.2 ∧ d.2.2 ≤ 1000) && decide (0 ≤ d.2.1 ∧ d.2.1 ≤ d.2.2) else if d.1 = 6 then decide (1 ≤ d.2.1 ∧ d.2.1 ≤ 1000) else if d.1 = 7 then decide (Word d.2.1) && fits l 117 d.2.2 else true
/-- Has it a number that its kind has not? -/
def more (d : De) : Bool := if d.1 = 3 ∨ d.1 = 7 then false else if d.1 = 6 then d.2.2 != 0 else (d.2.1 != 0 || d.2.2 != 0)
theorem one_6 {l : List De} {d : De} (h : ¬ (1 ≤ d.1 ∧ d.1 ≤ 7)) : one l d = 6 := by unfold one; rw [if_pos (by omega)]
theorem one_parts {l : List De} {d : De} (h : 1 ≤ d.1 ∧ d.1 ≤ 7) : one l d = if rng l d = false then 1 else if more d = true then 2 else 0 := by
  obtain ⟨k, a, b⟩ := d
  dsimp only at h
  unfold one rng more
  dsimp only
  rw [if_neg (by omega)]
  by_cases h3 : k = 3
  · subst h3
    simp only [true_and, if_true, true_or, Bool.false_eq_true, if_false]
    by_cases hr : b < 1 ∨ 1000 < b ∨ a < 0 ∨ b < a
    · rw [if_pos hr, if_pos]
      rw [← Bool.decide_and, decide_eq_false_iff_not]
      omega
    · rw [if_neg hr, if_neg (by omega), if_neg (by omega), if_neg (by omega), if_neg]
      rw [← Bool.decide_and, decide_eq_false_iff_not]
      omega
  · by_cases h6 : k = 6
    · subst h6
      rw [if_neg (by omega), if_neg (by omega : ¬ ((6 : Int) = 3)), if_pos rfl, if_neg (by omega : ¬ ((6 : Int) = 3 ∨ (6 : Int) = 7)), if_pos rfl]
      by_cases hr : a < 1 ∨ 1000 < a
      · rw [if_pos ⟨rfl, hr⟩, if_pos (by rw [decide_eq_false_iff_not]; omega)]
      · have hd : decide (1 ≤ a ∧ a ≤ 1000) = true := by rw [decide_eq_true_iff]; omega
        rw [if_neg (fun h => hr h.2), if_neg (fun h => by omega), hd]
        by_cases hb : b = 0
        · subst hb
          rw [if_neg (by omega)]
          rfl
        · rw [if_pos (by omega), if_neg (by decide : ¬ true = false), if_pos (by simpa using hb)]
    · by_cases h7 : k = 7
      · subst h7
        rw [if_neg (by omega), if_neg (by omega), if_neg (by omega : ¬ ((7 : Int) = 3)), if_neg (by omega : ¬ ((7 : Int) = 6)), if_pos rfl, if_pos (by omega : (7 : Int) = 3 ∨ (7 : Int) = 7)]
        by_cases hw : Word a
        · rw [decide_eq_true hw, Bool.true_and]
          cases hf : fits l 117 b with
          | true =>
            rw [if_neg (by rintro ⟨_, h | h⟩; exact h hw; cases h), if_neg (by omega), if_neg (by decide), if_neg (by decide)]
          | false => rw [if_pos ⟨rfl, .inr rfl⟩, if_pos rfl]
        · rw [decide_eq_false hw, Bool.false_and, if_pos ⟨rfl, .inl hw⟩, if_pos rfl]
      · rw [if_neg (h3 : ¬ k = 3), if_neg (h6 : ¬ k = 6), if_neg (h7 : ¬ k = 7), if_neg (by omega : ¬ (k = 3 ∨ k = 7)), if_neg (fun h => h3 h.1), if_neg (fun h => h6 h.1), if_neg (fun h => h7 h.1), if_neg (by decide : ¬ true = false), if_neg h6]
        by_cases ha : a = 0
        · by_cases hb : b = 0
          · subst ha hb
            rw [if_neg (by omega)]
            rfl
          · rw [if_pos (by omega), if_pos]
            rw [Bool.or_eq_true]
            exact .inr (by simpa using hb)
        · rw [if_pos (by omega), if_pos]
          rw [Bool.or_eq_true]
          exact .inl (by simpa using ha)

set_option maxHeartbeats 1000000 in
theorem range_sem (A : Option Addr) (cap : Nat) (l : List De) (a b : Int) (w : World) :
    Calls Tryd.prog 71 #[.slice A l.length cap, .agg #[.int .i64 3, .int .i64 a, .int .i64 b]] w fun e w' => e = .returned (.bool (rng l (3, a, b))) ∧ Below w.heap.size w w' := by
  have HB := Lib.hid (box_below w 3 a b)
  have H1 := fun W => Lib.hid (within_any b 1 1000 W)
  have H2 := fun W => Lib.hid (within_any a 0 b W)
  have HE : Hid (rng l (3, a, b) = (decide (1 ≤ b ∧ b ≤ 1000) && decide (0 ≤ a ∧ a ≤ b))) := Lib.hid rfl
  rw [HE.out]
  unfold declBox at HB
  generalize decide (1 ≤ b ∧ b ≤ 1000) = p at *
  generalize decide (0 ≤ a ∧ a ≤ b) = q at *
  clear HE
  cases p with
  | true =>
    go_enter Tryd.func71, Tryd.ntmps71
    go_wp2_with fail
    refine (H1 _).out.mono ?_
    rintro e w1 ⟨rfl, rfl⟩
    go_wp2_with fail
    refine (H2 _).out.mono ?_
    rintro e w1 ⟨rfl, rfl⟩
    go_wp2
    go_ret
    exact ⟨rfl, HB.out⟩
  | false =>
    go_enter Tryd.func71, Tryd.ntmps71
    go_wp2_with fail
    refine (H1 _).out.mono ?_
    rintro e w1 ⟨rfl, rfl⟩
    go_wp2
    go_ret
    exact ⟨rfl, HB.out⟩
set_option maxHeartbeats 1000000 in
theorem range_pool (A : Option Addr) (cap : Nat) (l : List De) (a b : Int) (w : World) :
    Calls Tryd.prog 71 #[.slice A l.length cap, .agg #[.int .i64 6, .int .i64 a, .int .i64 b]] w fun e w' => e = .returned (.bool (rng l (6, a, b))) ∧ Below w.heap.size w w' := by
  have HB := Lib.hid (box_below w 6 a b)
  have H1 := fun W => Lib.hid (within_any a 1 1000 W)
  have HE : Hid (rng l (6, a, b) = decide (1 ≤ a ∧ a ≤ 1000)) := Lib.hid rfl
  rw [HE.out]
  unfold declBox at HB
  generalize decide (1 ≤ a ∧ a ≤ 1000) = p at *
  clear HE
  go_enter Tryd.func71, Tryd.ntmps71
  go_wp2_with fail
  refine (H1 _).out.mono ?_
  rintro e w1 ⟨rfl, rfl⟩
  go_wp2
  go_ret
  exact ⟨rfl, HB.out⟩
set_option maxHeartbeats 1000000 in
theorem range_cell (A : Option Addr) (cap : Nat) (l : List De) (a b : Int) (hl : l.length ≤ 9223372036854775807) (w : World) (hA : DAt w A l) :
    Calls Tryd.prog 71 #[.slice A l.length cap, .agg #[.int .i64 7, .int .i64 a, .int .i64 b]] w fun e w' => e = .returned (.bool (rng l (7, a, b))) ∧ Below w.heap.size w w' := by
  have hb0 := box_below w 7 a b
  have HB := Lib.hid hb0
  have H1 := fun W => Lib.hid (Go.Proofs.YtbekfjjajggffaaDoor.word.fits_any a W)
  have H2 := Lib.hid (fit_any A cap l 117 b hl _ (hA.next hb0))
  rw [show (((117 : UInt8).toNat : Nat) : Int) = 117 from rfl] at H2
  have HE : Hid (rng l (7, a, b) = (decide (Word a) && fits l 117 b)) := Lib.hid rfl
  rw [HE.out]
  unfold declBox at HB H2
  generalize decide (Word a) = p at *
  generalize fits l 117 b = q at *
  clear HE hA hb0
  cases p with
  | true =>
    go_enter Tryd.func71, Tryd.ntmps71
    go_wp2_with fail
    refine (H1 _).out.mono ?_
    rintro e w1 ⟨rfl, rfl⟩
    go_wp2_with fail
    refine H2.out.mono ?_
    rintro e w1 ⟨rfl, rfl⟩
    go_wp2
    go_ret
    exact ⟨rfl, HB.out⟩
  | false =>
    go_enter Tryd.func71, Tryd.ntmps71
    go_wp2_with fail
    refine (H1 _).out.mono ?_
    rintro e w1 ⟨rfl, rfl⟩
    go_wp2
    go_ret
    exact ⟨rfl, HB.out⟩
set_option maxHeartbeats 1000000 in
theorem range_bare (A : Option Addr) (cap : Nat) (l : List De) (k a b : Int) (h3 : k ≠ 3) (h6 : k ≠ 6) (h7 : k ≠ 7) (w : World) :
    Calls Tryd.prog 71 #[.slice A l.length cap, .agg #[.int .i64 k, .int .i64 a, .int .i64 b]] w fun e w' => e = .returned (.bool (rng l (k, a, b))) ∧ Below w.heap.size w w' := by
  have HB := Lib.hid (box_below w k a b)
  have HE : Hid (rng l (k, a, b) = true) := Lib.hid (by unfold rng; rw [if_neg h3, if_neg h6, if_neg h7])
  rw [HE.out]
  have e3 : (k == 3) = false := by simpa using h3
  have e6 : (k == 6) = false := by simpa using h6
  have e7 : (k == 7) = false := by simpa using h7
  clear HE h3 h6 h7
  go_enter Tryd.func71, Tryd.ntmps71
  go_wp2
  go_ret
  exact ⟨rfl, HB.out⟩
theorem range_any (A : Option Addr) (cap : Nat) (l : List De) (d : De) (hl : l.length ≤ 9223372036854775807) (w : World) (hA : DAt w A l) :
    Calls Tryd.prog 71 #[.slice A l.length cap, .agg #[.int .i64 d.1, .int .i64 d.2.1, .int .i64 d.2.2]] w fun e w' => e = .returned (.bool (rng l d)) ∧ Below w.heap.size w w' := by
  obtain ⟨k, a, b⟩ := d
  dsimp only
  by_cases h3 : k = 3
  · subst h3; exact range_sem A cap l a b w
  · by_cases h6 : k = 6
    · subst h6; exact range_pool A cap l a b w
    · by_cases h7 : k = 7
      · subst h7; exact range_cell A cap l a b hl w hA
      · exact range_bare A cap l k a b h3 h6 h7 w

set_option maxHeartbeats 1000000 in
theorem more_any (d : De) (w : World) :
    Calls Tryd.prog 72 #[.agg #[.int .i64 d.1, .int .i64 d.2.1, .int .i64 d.2.2]] w fun e w' => e = .returned (.bool (more d)) ∧ Below w.heap.size w w' := by
  obtain ⟨k, a, b⟩ := d
  dsimp only
  have HB := Lib.hid (box_below w k a b)
  unfold declBox at HB
  by_cases h : k = 3 ∨ k = 7
  · have HE : Hid (more (k, a, b) = false) := Lib.hid (by unfold more; rw [if_pos h])
    rw [HE.out]
    rcases h with rfl | rfl
    all_goals
      go_enter Tryd.func72, Tryd.ntmps72
      go_wp2
      go_ret
      exact ⟨rfl, HB.out⟩
  · have e3 : (k == 3) = false := by simp; omega
    have e7 : (k == 7) = false := by simp; omega
    by_cases h6 : k = 6
    · subst h6
      have HE : Hid (more (6, a, b) = (b != 0)) := Lib.hid (by unfold more; rw [if_neg h, if_pos rfl])
      rw [HE.out]
      clear h
      go_enter Tryd.func72, Tryd.ntmps72
      go_wp2
      go_ret
      exact ⟨rfl, HB.out⟩
    · have HE : Hid (more (k, a, b) = (a != 0 || b != 0)) := Lib.hid (by unfold more; rw [if_neg h, if_neg h6])
      rw [HE.out]
      have e6 : (k == 6) = false := by simpa using h6
      clear h h6 HE
      cases ha : (a != 0) with
      | true =>
        rw [Bool.true_or]
        go_enter Tryd.func72, Tryd.ntmps72
        go_wp2
        go_ret
        exact ⟨rfl, HB.out⟩
      | false =>
        rw [Bool.false_or]
        go_enter Tryd.func72, Tryd.ntmps72
        go_wp2
        go_ret
        exact ⟨rfl, HB.out⟩

/-- An object that came in, in a block of its own. -/
structure Bx (w : World) (A : Option Addr) (l : List De) (d : De) (W : World) : Prop where
  below : Below w.heap.size w W
  blk : W.heap[w.heap.size]? = some (.cells #[.int .i64 d.1, .int .i64 d.2.1, .int .i64 d.2.2] 48 (0, 0))
  list : DAt W A l
  ok : Okd W
theorem bx_new {w : World} {A : Option Addr} {l : List De} (d : De) (hA : DAt w A l) (hw : Okd w) : Bx w A l d (w.alloc (.cells #[.int .i64 d.1, .int .i64 d.2.1, .int .i64 d.2.2] 48)) :=
  have hb : Below w.heap.size w (w.alloc (.cells #[.int .i64 d.1, .int .i64 d.2.1, .int .i64 d.2.2] 48)) := (Below.refl _ _).alloc (Nat.le_refl _) _
  ⟨hb, heap_alloc_new w _, hA.next hb, hw.next hb⟩
theorem Bx.next {w W W' : World} {A : Option Addr} {l : List De} {d : De} (h : Bx w A l d W) (hb : Below W.heap.size W W') : Bx w A l d W' := by
  have h1 := lt_of_block h.blk
  exact ⟨h.below.trans (hb.mono (Nat.le_of_lt h1)), (hb.block _ h1).trans h.blk, h.list.next hb, h.ok.next hb⟩
theorem Bx.cells {w W : World} {A : Option Addr} {l : List De} {d : De} (h : Bx w A l d W) : W.cell? ⟨w.heap.size, 0, none⟩ = some (.int .i64 d.1) ∧ W.cell? ⟨w.heap.size, 1, none⟩ = some (.int .i64 d.2.1) ∧ W.cell? ⟨w.heap.size, 2, none⟩ = some (.int .i64 d.2.2) := by
  unfold World.cell?
  rw [h.blk]
  exact ⟨rfl, rfl, rfl⟩

set_option maxHeartbeats 2000000 in
theorem one_any (A : Option Addr) (cap : Nat) (l : List De) (d : De) (hl : l.length ≤ 9223372036854775807) (w : World) (hA : DAt w A l) (hw : Okd w) :
    Calls Tryd.prog 52 #[.slice A l.length cap, .agg #[.int .i64 d.1, .int .i64 d.2.1, .int .i64 d.2.2]] w (OnePost l d w) := by
  have HX := Lib.hid (bx_new d hA hw)
  have HK := fun W hW => Lib.hid (known_any d.1 W hW)
  have HR := fun W hW => Lib.hid (range_any A cap l d hl W hW)
  have HM := fun W => Lib.hid (more_any d W)
  have H6 := fun h => Lib.hid (one_6 (l := l) (d := d) h)
  have HP := fun h => Lib.hid (one_parts (l := l) (d := d) h)
  clear hA hw
  unfold OnePost
  generalize one l d = v at *
  generalize rng l d = r at *
  generalize more d = m at *
  obtain ⟨k, a, b⟩ := d
  dsimp only at HX HK HR HM H6 HP ⊢
  obtain ⟨c0, c1, c2⟩ := HX.out.cells
  by_cases hk : 1 ≤ k ∧ k ≤ 7
  · rw [decide_eq_true hk] at HK
    have HV := HP hk
    clear H6 HP hk
    go_enter Tryd.func52, Tryd.ntmps52
    go_wp2_with fail
    refine (HK _ HX.out.ok).out.mono ?_
    rintro e w1 ⟨rfl, rfl⟩
    go_wp2_with fail
    refine (HR _ HX.out.list).out.mono ?_
    rintro e w1 ⟨rfl, hb1⟩
    have HX1 := Lib.hid (HX.out.next hb1)
    clear c0 c1 c2 hb1 HX HR HK
    obtain ⟨c0, c1, c2⟩ := HX1.out.cells
    cases r with
    | false =>
      go_wp2
      go_ret
      exact ⟨ret_int (by rw [HV.out]; rfl), HX1.out.below⟩
    | true =>
      go_wp2_with fail
      refine (HM _).out.mono ?_
      rintro e w1 ⟨rfl, hb1⟩
      have HX2 := Lib.hid (HX1.out.next hb1)
      clear c0 c1 c2 hb1 HX1 HM
      cases m with
      | true =>
        go_wp2
        go_ret
        exact ⟨ret_int (by rw [HV.out]; rfl), HX2.out.below⟩
      | false =>
        go_wp2
        go_ret
        exact ⟨ret_int (by rw [HV.out]; rfl), HX2.out.below⟩
  · rw [decide_eq_false hk] at HK
    have HV := H6 hk
    clear H6 HP hk HR HM
    go_enter Tryd.func52, Tryd.ntmps52
    go_wp2_with fail
    refine (HK _ HX.out.ok).out.mono ?_
    rintro e w1 ⟨rfl, rfl⟩
    go_wp2
    go_ret
    exact ⟨ret_int (by rw [HV.out]; rfl), HX.out.below⟩
end Go.Proofs.YtbekfjjajggffaaDoor.objs

/-
  The program's own answer where the first object stands that may not be, and why (typed over the code of 392f5a9): for every list that an int can count. The table of names must lie where its initialiser lays it.
-/
namespace Go.Proofs.YtbekfjjajggffaaDoor.objs
open Go.RowKit Go.ChangeShapes
set_option linter.unusedVariables false

/-- Between two objects. -/
structure Cs (w : World) (A : Option Addr) (l : List De) (W : World) : Prop where
  below : Below w.heap.size w W
  list : DAt W A l
  ok : Okd W
theorem Cs.next {w W W' : World} {A : Option Addr} {l : List De} (h : Cs w A l W) (hb : Below W.heap.size W W') : Cs w A l W' := ⟨h.below.trans (hb.mono h.below.size), h.list.next hb, h.ok.next hb⟩
theorem Cs.box {w W : World} {A : Option Addr} {l : List De} (h : Cs w A l W) (d : De) : Cs w A l (W.alloc (declBox d.1 d.2.1 d.2.2)) := h.next ((Below.refl _ _).alloc (Nat.le_refl _) _)
theorem box_at (W : World) (d : De) : (W.alloc (declBox d.1 d.2.1 d.2.2)).cell? ⟨W.heap.size, 0, none⟩ = some (.int .i64 d.1) ∧ (W.alloc (declBox d.1 d.2.1 d.2.2)).cell? ⟨W.heap.size, 1, none⟩ = some (.int .i64 d.2.1) ∧ (W.alloc (declBox d.1 d.2.1 d.2.2)).cell? ⟨W.heap.size, 2, none⟩ = some (.int .i64 d.2.2) := by
  unfold World.cell?
  rw [heap_alloc_new W _]
  exact ⟨rfl, rfl, rfl⟩

set_option maxHeartbeats 1000000 in
theorem check_long (A : Option Addr) (cap n : Nat) (hn : 32 < n) (w : World) :
    Calls Tryd.prog 31 #[.slice A n cap] w (ChkPost (0, 4) w) := by
  unfold ChkPost
  have hd : decide ((32 : Int) < (n : Int)) = true := by simp; omega
  clear hn
  go_enter Tryd.func31, Tryd.ntmps31
  go_wp2_with fail
  go_ret2
  exact ⟨rfl, Below.refl _ _⟩
set_option maxRecDepth 100000 in
set_option maxHeartbeats 4000000 in
theorem check_any (A : Option Addr) (cap : Nat) (l : List De) (hl : l.length ≤ 9223372036854775807) (w : World) (hA : DAt w A l) (hw : Okd w) :
    Calls Tryd.prog 31 #[.slice A l.length cap] w (ChkPost (chk l) w) := by
  by_cases h32 : 32 < l.length
  · rw [chk_long h32]
    exact check_long A cap l.length h32 w
  · obtain ⟨p, hp⟩ : ∃ p, p = chk l := ⟨_, rfl⟩
    have HP := Lib.hid hp
    rw [← hp]
    unfold ChkPost
    have hd : decide ((32 : Int) < (l.length : Int)) = false := by simp; omega
    have HC0 : Hid (Cs w A l w) := Lib.hid ⟨Below.refl _ _, hA, hw⟩
    have H32 := Lib.hid h32
    clear hA hw h32 hp
    go_enter Tryd.func31, Tryd.ntmps31
    go_wp2_with fail
    go_loopw [12] (fun i wr => ∃ j : Nat, j ≤ l.length ∧ i = .int .i64 (j : Int) ∧ Hid (j ≤ bad l) ∧ Hid (Cs w A l wr)) (fun i _ => l.length - (intOf i).toNat)
    case atStart => exact ⟨0, Nat.zero_le _, rfl, Lib.hid (Nat.zero_le _), HC0⟩
    case round =>
      obtain ⟨j, hj, rfl, HJ, HS⟩ := hrel
      by_cases hlt : j < l.length
      · have HO := fun W (hW : Cs w A l W) => Lib.hid (one_any A cap l (l.getD j zero) hl W hW.list hW.ok)
        obtain ⟨b, off, rfl, hb, c0, c1, c2⟩ := HS.out.list j hlt
        have hlt' : (j : Int) < (l.length : Int) := by omega
        unfold OnePost at HO
        have HBad := fun h => Lib.hid (chk_bad H32.out HJ.out hlt h)
        have HNx := fun h => Lib.hid (bad_next HJ.out hlt h)
        generalize l.getD j zero = d at *
        generalize one l d = q at *
        have HS1 := Lib.hid (HS.out.box d)
        have hbx := box_at wr d
        obtain ⟨k, x, y⟩ := d
        unfold declBox at HS1 hbx
        dsimp only at HO c0 c1 c2 HS1 hbx
        clear HS
        go_upto_region 6 with fail
        clear c0 c1 c2
        generalize wr.alloc (.cells #[.int .i64 k, .int .i64 x, .int .i64 y] 48) = W1 at *
        generalize wr.heap.size = g at *
        obtain ⟨c0, c1, c2⟩ := hbx
        by_cases hq : q = 0
        · subst hq
          have HE := HNx rfl
          clear HBad HNx
          go_wp2_with fail
          refine (HO _ HS1.out).out.mono ?_
          rintro e w1 ⟨rfl, hb1⟩
          have HS2 := Lib.hid (HS1.out.next hb1)
          clear hb1 c0 c1 c2
          go_wp2
          go_roundw
          case rel => exact ⟨j + 1, by omega, by go_num, HE, HS2⟩
          case measure => simp [intOf]; omega
        · have HE := HBad hq
          have hq' : ((q : Int) != 0) = true := by simpa using hq
          clear HBad HNx hq
          go_wp2_with fail
          refine (HO _ HS1.out).out.mono ?_
          rintro e w1 ⟨rfl, hb1⟩
          have HS2 := Lib.hid (HS1.out.next hb1)
          clear hb1 c0 c1 c2
          go_wp2
          go_ret2
          exact ⟨by rw [HP.out, HE.out]; rfl, HS2.out.below⟩
      · obtain rfl : j = l.length := by omega
        have HE := Lib.hid (chk_fine H32.out HJ.out)
        go_wp2_with fail
        go_ret2
        exact ⟨by rw [HP.out, HE.out]; rfl, HS.out.below⟩
end Go.Proofs.YtbekfjjajggffaaDoor.objs

/-
  The program's own answer what is wrong with a wait (typed over the code of 5ef5b61): of objects of which there are no more than a set has numbers. The tables must lie where their initialisers lay them.
-/
namespace Go.Proofs.YtbekfjjajggffaaDoor.need
open Go.RowKit Go.ChangeShapes
open Go.Proofs.YtbekfjjajggffaaDoor.objs (De zero CellsAt DAt)
open Go.Proofs.YtbekfjjajggffaaDoor.bits (may)
set_option linter.unusedVariables false

theorem oneN_kind {d : List De} {n : De} (h : ¬ (1 ≤ n.1 ∧ n.1 ≤ 5)) : oneN d n = 6 := by unfold oneN; rw [if_pos (by omega)]
theorem oneN_known {d : List De} {n : De} (h : 1 ≤ n.1 ∧ n.1 ≤ 5) (h0 : oneN d n ≠ 0) : oneN d n = 1 := by
  unfold oneN at h0 ⊢
  rw [if_neg (by omega)] at h0 ⊢
  split
  · rfl
  · split
    · rfl
    · rename_i h1 h2
      rw [if_neg h1, if_neg h2] at h0
      exact absurd rfl h0
theorem ones_may {d l : List De} (hd : d.length ≤ 64) (h : ones d l = 0) : ∀ n ∈ l, may n.2.1 := fun n hn => by
  obtain ⟨_, h2, _⟩ := oneN_zero (ones_zero h n hn)
  unfold may
  omega

/-- Between two needs. -/
structure Ws (w : World) (A B : Option Addr) (d l : List De) (W : World) : Prop where
  below : Below w.heap.size w W
  objs : DAt W A d
  way : DAt W B l
  ok : Oka W
theorem Ws.next {w W W' : World} {A B : Option Addr} {d l : List De} (h : Ws w A B d l W) (hb : Below W.heap.size W W') : Ws w A B d l W' := ⟨h.below.trans (hb.mono h.below.size), h.objs.next hb, h.way.next hb, h.ok.next hb⟩
theorem Ws.box {w W : World} {A B : Option Addr} {d l : List De} (h : Ws w A B d l W) (k o m : Int) : Ws w A B d l (W.alloc (needBox k o m)) := h.next (nbox_below W k o m)

set_option maxRecDepth 100000 in
set_option maxHeartbeats 4000000 in
theorem way_any (A B : Option Addr) (capd cap : Nat) (d l : List De) (hd : d.length ≤ 64) (w : World) (hA : DAt w A d) (hB : DAt w B l) (hw : Oka w) :
    Calls Tryd.prog 73 #[.slice A d.length capd, .slice B l.length cap] w (ChkPost9 (chkWay d l) w) := by
  have HM := Lib.hid (many_any l.length w)
  unfold ChkPost9
  unfold manyC at HM
  by_cases h0 : l.length = 0
  · rw [if_pos h0] at HM
    have HV := Lib.hid (chkWay_2 (d := d) h0)
    clear hA hB hw h0
    go_enter Tryd.func73, Tryd.ntmps73
    go_wp2_with fail
    refine HM.out.mono ?_
    rintro e w1 ⟨rfl, rfl⟩
    go_wp2
    go_ret
    exact ⟨ret_int (by rw [HV.out]; rfl), Below.refl _ _⟩
  · rw [if_neg h0] at HM
    by_cases h4 : 4 < l.length
    · rw [if_pos h4] at HM
      have HV := Lib.hid (chkWay_4 (d := d) h4)
      clear hA hB hw h0 h4
      go_enter Tryd.func73, Tryd.ntmps73
      go_wp2_with fail
      refine HM.out.mono ?_
      rintro e w1 ⟨rfl, rfl⟩
      go_wp2
      go_ret
      exact ⟨ret_int (by rw [HV.out]; rfl), Below.refl _ _⟩
    · rw [if_neg h4] at HM
      have HV1 := fun h1 => Lib.hid (chkWay_bad (d := d) h0 h4 h1)
      have HV2 := fun h1 h2 => Lib.hid (chkWay_twice (d := d) h0 h4 h1 h2)
      have HV3 := fun h1 h2 => Lib.hid (chkWay_fine (d := d) h0 h4 h1 h2)
      obtain ⟨v, hv⟩ : ∃ v, v = chkWay d l := ⟨_, rfl⟩
      rw [← hv] at HV1 HV2 HV3 ⊢
      have hl4 : l.length ≤ 4 := by omega
      have HS0 : Hid (Ws w A B d l w) := Lib.hid ⟨Below.refl _ _, hA, hB, hw⟩
      have HD := Lib.hid hd
      clear hA hB hw h0 h4 hv hd
      go_enter Tryd.func73, Tryd.ntmps73
      go_wp2_with fail
      refine HM.out.mono ?_
      rintro e w1 ⟨rfl, rfl⟩
      go_wp2_with fail
      go_loopw [16] (fun i wr => ∃ j : Nat, j ≤ l.length ∧ i = .int .i64 (j : Int) ∧ Hid (ones d l = ones d (l.drop j)) ∧ Hid (Ws w A B d l wr)) (fun i _ => l.length - (intOf i).toNat)
      case atStart => exact ⟨0, Nat.zero_le _, rfl, Lib.hid (by simp), HS0⟩
      case round =>
        obtain ⟨j, hj, rfl, HJ, HS⟩ := hrel
        by_cases hlt : j < l.length
        · have HNx := Lib.hid (ones_drop (d := d) hlt)
          obtain ⟨b0, off, hBe, hbl, c0, c1, c2⟩ := HS.out.way j hlt
          have hlt' : (j : Int) < (l.length : Int) := by omega
          have hj0 : (0 : Int) ≤ (j : Int) := by omega
          have HR := fun (hk : 1 ≤ (l.getD j zero).1 ∧ (l.getD j zero).1 ≤ 5) W (hW : Ws w A B d l W) => Lib.hid (range_any A capd d (l.getD j zero) hk (by have := HD.out; omega) W hW.objs hW.ok)
          have HX6 := fun h => Lib.hid (oneN_kind (d := d) (n := l.getD j zero) h)
          have HX1 := fun h1 h2 => Lib.hid (oneN_known (d := d) (n := l.getD j zero) h1 h2)
          generalize l.getD j zero = n at *
          have HS1 := Lib.hid (HS.out.box n.1 n.2.1 n.2.2)
          have hbx := nbox_at wr n.1 n.2.1 n.2.2
          have HK := fun W => Lib.hid (known_any n.1 W)
          generalize oneN d n = q at *
          obtain ⟨k, o, m⟩ := n
          unfold needBox at HS1 hbx
          dsimp only at HR HX6 HX1 HS1 hbx HK c0 c1 c2
          clear HS
          subst hBe
          go_upto_region 7 with fail
          clear c0 c1 c2
          generalize wr.alloc (.cells #[.int .i64 k, .int .i64 o, .int .i64 m] 71) = W1 at *
          generalize wr.heap.size = g at *
          obtain ⟨c0, c1, c2⟩ := hbx
          by_cases hk : 1 ≤ k ∧ k ≤ 5
          · rw [decide_eq_true hk] at HK
            have HR1 := HR hk W1 HS1.out
            have HX := HX1 hk
            clear HR HX6 HX1 hk
            by_cases hq : q = 0
            · have HE : Hid (ones d l = ones d (l.drop (j + 1))) := Lib.hid (by rw [HJ.out, HNx.out, if_neg (by simp [hq])])
              rw [decide_eq_true hq] at HR1
              clear hq HX
              go_wp2_with fail
              refine (HK _).out.mono ?_
              rintro e w2 ⟨rfl, rfl⟩
              go_wp2_with fail
              refine HR1.out.mono ?_
              rintro e w2 ⟨rfl, hb2⟩
              have HS2 := Lib.hid (HS1.out.next hb2)
              clear hb2 HS1 HR1 c0 c1 c2
              go_wp2
              go_roundw
              case rel => exact ⟨j + 1, by omega, by go_num, HE, HS2⟩
              case measure => simp [intOf]; omega
            · have hq1 := (HX hq).out
              have HE : Hid (ones d l = 1) := Lib.hid (by rw [HJ.out, HNx.out, if_pos hq, hq1])
              have HV : Hid (v = 1) := Lib.hid (by rw [(HV1 (by rw [HE.out]; decide)).out, HE.out])
              rw [decide_eq_false hq] at HR1
              clear hq HX hq1
              go_wp2_with fail
              refine (HK _).out.mono ?_
              rintro e w2 ⟨rfl, rfl⟩
              go_wp2_with fail
              refine HR1.out.mono ?_
              rintro e w2 ⟨rfl, hb2⟩
              have HS2 := Lib.hid (HS1.out.next hb2)
              clear hb2 HS1 HR1 c0 c1 c2
              go_wp2
              go_ret
              exact ⟨ret_int (by rw [HV.out]; rfl), HS2.out.below⟩
          · rw [decide_eq_false hk] at HK
            have hq1 := (HX6 hk).out
            have HE : Hid (ones d l = 6) := Lib.hid (by rw [HJ.out, HNx.out, hq1, if_pos (by decide)])
            have HV : Hid (v = 6) := Lib.hid (by rw [(HV1 (by rw [HE.out]; decide)).out, HE.out])
            clear HR HX6 HX1 hk hq1
            go_wp2_with fail
            refine (HK _).out.mono ?_
            rintro e w2 ⟨rfl, rfl⟩
            go_wp2
            go_ret
            exact ⟨ret_int (by rw [HV.out]; rfl), HS1.out.below⟩
        · obtain rfl : j = l.length := by omega
          have h1 : ones d l = 0 := by rw [HJ.out, List.drop_length]; rfl
          have HC := Lib.hid (clashes_any B cap l hl4 (ones_may HD.out h1) wr HS.out.way)
          have HV2' := fun h2 => HV2 h1 h2
          have HV3' := fun h2 => HV3 h1 h2
          clear HV1 HV2 HV3 h1 HJ
          generalize twiceTo l l.length = t at *
          cases t with
          | true =>
            have HV := HV2' rfl
            go_wp2_with fail
            refine HC.out.mono ?_
            rintro e w2 ⟨rfl, hb2⟩
            have HS2 := Lib.hid (HS.out.next hb2)
            clear hb2 HS HC
            go_wp2
            go_ret
            exact ⟨ret_int (by rw [HV.out]; rfl), HS2.out.below⟩
          | false =>
            have HV := HV3' rfl
            go_wp2_with fail
            refine HC.out.mono ?_
            rintro e w2 ⟨rfl, hb2⟩
            have HS2 := Lib.hid (HS.out.next hb2)
            clear hb2 HS HC
            go_wp2
            go_ret
            exact ⟨ret_int (by rw [HV.out]; rfl), HS2.out.below⟩

/-- Between two ways. -/
structure Vs (w : World) (A B : Option Addr) (d : List De) (l : List (List De)) (W : World) : Prop where
  below : Below w.heap.size w W
  objs : DAt W A d
  ways : WAt W B l
  ok : Oka W
theorem Vs.next {w W W' : World} {A B : Option Addr} {d : List De} {l : List (List De)} (h : Vs w A B d l W) (hb : Below W.heap.size W W') : Vs w A B d l W' := ⟨h.below.trans (hb.mono h.below.size), h.objs.next hb, h.ways.next hb, h.ok.next hb⟩

set_option maxRecDepth 100000 in
set_option maxHeartbeats 4000000 in
theorem check_any (A B : Option Addr) (capd cap : Nat) (d : List De) (l : List (List De)) (hd : d.length ≤ 64) (w : World) (hA : DAt w A d) (hB : WAt w B l) (hw : Oka w) :
    Calls Tryd.prog 53 #[.slice A d.length capd, .slice B l.length cap] w (ChkPost9 (chkW d l) w) := by
  have HM := Lib.hid (many_any l.length w)
  unfold ChkPost9
  unfold manyC at HM
  obtain ⟨v, hv⟩ : ∃ v, v = chkW d l := ⟨_, rfl⟩
  rw [← hv]
  by_cases h0 : l.length = 0
  · rw [if_pos h0] at HM
    have HV : Hid (v = 2) := Lib.hid (by rw [hv]; unfold chkW; rw [if_pos h0])
    clear hA hB hw h0 hv
    go_enter Tryd.func53, Tryd.ntmps53
    go_wp2_with fail
    refine HM.out.mono ?_
    rintro e w1 ⟨rfl, rfl⟩
    go_wp2
    go_ret
    exact ⟨ret_int (by rw [HV.out]; rfl), Below.refl _ _⟩
  · rw [if_neg h0] at HM
    by_cases h4 : 4 < l.length
    · rw [if_pos h4] at HM
      have HV : Hid (v = 4) := Lib.hid (by rw [hv]; unfold chkW; rw [if_neg h0, if_pos h4])
      clear hA hB hw h0 h4 hv
      go_enter Tryd.func53, Tryd.ntmps53
      go_wp2_with fail
      refine HM.out.mono ?_
      rintro e w1 ⟨rfl, rfl⟩
      go_wp2
      go_ret
      exact ⟨ret_int (by rw [HV.out]; rfl), Below.refl _ _⟩
    · rw [if_neg h4] at HM
      have HV : Hid (v = ways d l) := Lib.hid (by rw [hv]; unfold chkW; rw [if_neg h0, if_neg h4])
      have hl4 : l.length ≤ 4 := by omega
      have HS0 : Hid (Vs w A B d l w) := Lib.hid ⟨Below.refl _ _, hA, hB, hw⟩
      have HD := Lib.hid hd
      clear hA hB hw h0 h4 hv hd
      go_enter Tryd.func53, Tryd.ntmps53
      go_wp2_with fail
      refine HM.out.mono ?_
      rintro e w1 ⟨rfl, rfl⟩
      go_wp2_with fail
      go_loopw [17] (fun i wr => ∃ j : Nat, j ≤ l.length ∧ i = .int .i64 (j : Int) ∧ Hid (v = ways d (l.drop j)) ∧ Hid (Vs w A B d l wr)) (fun i _ => l.length - (intOf i).toNat)
      case atStart => exact ⟨0, Nat.zero_le _, rfl, by simpa using HV, HS0⟩
      case round =>
        obtain ⟨j, hj, rfl, HJ, HS⟩ := hrel
        by_cases hlt : j < l.length
        · have HNx := Lib.hid (ways_drop (d := d) hlt)
          obtain ⟨b0, off, Aj, cj, hBe, hbl, hc, hdj⟩ := HS.out.ways j hlt
          have hlt' : (j : Int) < (l.length : Int) := by omega
          have hj0 : (0 : Int) ≤ (j : Int) := by omega
          have HC := Lib.hid (way_any A Aj capd cj d (l.getD j []) HD.out wr HS.out.objs hdj HS.out.ok)
          unfold ChkPost9 at HC
          generalize l.getD j [] = lj at *
          generalize chkWay d lj = q at *
          subst hBe
          clear hdj
          by_cases hq : q = 0
          · have HE : Hid (v = ways d (l.drop (j + 1))) := Lib.hid (by rw [HJ.out, HNx.out, if_neg (by simp [hq])])
            have hq' : ((q : Int) != 0) = false := by simp [hq]
            clear hq
            go_wp2_with fail
            refine HC.out.mono ?_
            rintro e w2 ⟨rfl, hb2⟩
            have HS2 := Lib.hid (HS.out.next hb2)
            clear hb2 HS HC hc
            go_wp2
            go_roundw
            case rel => exact ⟨j + 1, by omega, by go_num, HE, HS2⟩
            case measure => simp [intOf]; omega
          · have HE : Hid (v = q) := Lib.hid (by rw [HJ.out, HNx.out, if_pos hq])
            have hq' : ((q : Int) != 0) = true := by simpa using hq
            clear hq
            go_wp2_with fail
            refine HC.out.mono ?_
            rintro e w2 ⟨rfl, hb2⟩
            have HS2 := Lib.hid (HS.out.next hb2)
            clear hb2 HS HC hc
            go_wp2
            go_ret
            exact ⟨ret_int (by rw [HE.out]), HS2.out.below⟩
        · obtain rfl : j = l.length := by omega
          have HE : Hid (v = 0) := Lib.hid (by rw [HJ.out, List.drop_length]; rfl)
          go_wp2
          go_ret
          exact ⟨ret_int (by rw [HE.out]; rfl), HS.out.below⟩
end Go.Proofs.YtbekfjjajggffaaDoor.need
