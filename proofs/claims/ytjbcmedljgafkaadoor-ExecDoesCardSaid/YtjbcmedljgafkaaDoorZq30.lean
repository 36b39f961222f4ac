/-
  Texts of one claim in one file: JRefChk, GRefFn. Each has its own sentence, with its conditions.
-/
import Derived.Test.YtjbcmedljgafkaaDoorZq5
import Derived.Test.YtjbcmedljgafkaaDoorZq14
import Derived.Test.YtjbcmedljgafkaaDoorZq2
import Derived.Deep.CutBlock
import Derived.Deep.DeepCutAuto
/-
  The document's own answer of what is wrong with an instruction. No condition.
-/

namespace Go.Proofs.YtjbcmedljgafkaaDoor.inst
open Go.RowKit Go.ChangeShapes
open Go.Proofs.YtjbcmedljgafkaaDoor.oper (ret_int ret_bool)
open Go.Proofs.YtjbcmedljgafkaaDoor.word (Word)
set_option linter.unusedVariables false

theorem u8_ne {c d : UInt8} (h : c ≠ d) : ((c.toNat : Int) == (d.toNat : Int)) = false ∧ ((c.toNat : Int) != (d.toNat : Int)) = true := by
  have : c.toNat ≠ d.toNat := fun e => h (UInt8.toNat_inj.1 e)
  constructor <;> simp <;> omega
theorem most_any (c : UInt8) (w : World) : Calls Tryd.prog 92 #[.int .u8 (c.toNat : Int)] w fun e w' => e = .returned (.int .i64 (most c)) ∧ w = w' := by
  by_cases h1 : c = 107
  · subst h1
    go_enter Tryd.func92, Tryd.ntmps92
    go_wp2
    go_ret
    exact ⟨rfl, rfl⟩
  by_cases h2 : c = 116
  · subst h2
    go_enter Tryd.func92, Tryd.ntmps92
    go_wp2
    go_ret
    exact ⟨rfl, rfl⟩
  by_cases h3 : c = 102
  · subst h3
    go_enter Tryd.func92, Tryd.ntmps92
    go_wp2
    go_ret
    exact ⟨rfl, rfl⟩
  by_cases h4 : c = 106
  · subst h4
    go_enter Tryd.func92, Tryd.ntmps92
    go_wp2
    go_ret
    exact ⟨rfl, rfl⟩
  have e1 : ((c.toNat : Int) == 107) = false := (u8_ne h1).1
  have e2 : ((c.toNat : Int) == 116) = false := (u8_ne h2).1
  have e3 : ((c.toNat : Int) == 102) = false := (u8_ne h3).1
  have e4 : ((c.toNat : Int) == 106) = false := (u8_ne h4).1
  have HE : Hid (most c = 31) := Lib.hid (by unfold most; rw [if_neg h1, if_neg h2, if_neg h3, if_neg h4])
  clear h1 h2 h3 h4
  go_enter Tryd.func92, Tryd.ntmps92
  go_wp2
  go_ret
  exact ⟨ret_int HE.out.symm, rfl⟩
theorem least_any (c : UInt8) (w : World) : Calls Tryd.prog 91 #[.int .u8 (c.toNat : Int)] w fun e w' => e = .returned (.int .i64 (least c)) ∧ w = w' := by
  by_cases h1 : c = 106
  · subst h1
    go_enter Tryd.func91, Tryd.ntmps91
    go_wp2
    go_ret
    exact ⟨rfl, rfl⟩
  have e1 : ((c.toNat : Int) == 106) = false := (u8_ne h1).1
  have HE : Hid (least c = 0) := Lib.hid (by unfold least; rw [if_neg h1])
  clear h1
  go_enter Tryd.func91, Tryd.ntmps91
  go_wp2
  go_ret
  exact ⟨ret_int HE.out.symm, rfl⟩

/-- An instruction stands at a place of its own, and its operands in a list of their own. -/
structure Stand (w : World) (o a b : Int) (g : Nat) (W : World) : Prop where
  below : Below w.heap.size w W
  size : w.heap.size < W.heap.size
  c0 : W.cell? ⟨w.heap.size, 0, none⟩ = some (.int .i64 o)
  c1 : W.cell? ⟨w.heap.size, 1, none⟩ = some (.int .i64 a)
  c2 : W.cell? ⟨w.heap.size, 2, none⟩ = some (.int .i64 b)
  s0 : W.cell? ⟨g, 0, none⟩ = some (.int .i64 a)
  s1 : W.cell? ⟨g, 1, none⟩ = some (.int .i64 b)
theorem below_drewN {B : Nat} {a w : World} (h : Below B a w) : ∀ n, Below B a (w.drewN n)
  | 0 => h
  | n + 1 => (below_drewN h n).drew
theorem Stand.drewN {w W : World} {o a b : Int} {g : Nat} (h : Stand w o a b g W) (n : Nat) : Stand w o a b g (W.drewN n) := ⟨below_drewN h.below n, by simpa using h.size, by simpa using h.c0, by simpa using h.c1, by simpa using h.c2, by simpa using h.s0, by simpa using h.s1⟩
theorem Stand.at {w W : World} {o a b : Int} {g : Nat} (h : Stand w o a b g W) {j : Nat} (hj : j < 2) : W.cell? ⟨g, j, none⟩ = some (.int .i64 (opd a b j)) := by
  match j, hj with
  | 0, _ => exact h.s0
  | 1, _ => exact h.s1

theorem letter_at {y : ByteArray} {j : Nat} (h : j < y.size) : y[j] = y.data.toList.getD j 0 := by
  rw [List.getD_eq_getElem?_getD, List.getElem?_eq_getElem (by rw [Array.length_toList]; exact h), Option.getD_some, Array.getElem_toList]
  rfl
theorem size_list (y : ByteArray) : y.size = y.data.toList.length := by rw [Array.length_toList]; rfl
/-- The form's text and the list of both operands, made. -/
def Forms (w : World) (o a b : Int) (y : ByteArray) (t l : Value) (wx : World) : Prop := t = .string y ∧ ∃ g : Nat, l = .slice (some ⟨g, 0, none⟩) 2 2 ∧ Stand w o a b g wx
def insBox (o a b : Int) : Obj := .cells #[.int .i64 o, .int .i64 a, .int .i64 b] 55

def opdBox (a b : Int) : Obj := .cells #[.int .i64 a, .int .i64 b] 3
theorem stand_late {w w1 : World} {o a b : Int} (hX : Below (w.alloc (insBox o a b)).heap.size (w.alloc (insBox o a b)) w1) : Stand w o a b w1.heap.size (w1.alloc (opdBox a b)) := by
  have h0 : (w.alloc (insBox o a b)).heap[w.heap.size]? = some (insBox o a b) := heap_alloc_new w _
  have hz : (w.alloc (insBox o a b)).heap.size = w.heap.size + 1 := World.size_alloc w _
  have hs := hX.size
  have h1 : (w1.alloc (opdBox a b)).heap[w1.heap.size]? = some (opdBox a b) := heap_alloc_new w1 _
  have hb : Below (w.alloc (insBox o a b)).heap.size (w.alloc (insBox o a b)) (w1.alloc (opdBox a b)) := hX.alloc hs _
  have h2 : (w1.alloc (opdBox a b)).heap[w.heap.size]? = some (insBox o a b) := (hb.block _ (by omega)).trans h0
  refine ⟨((Below.refl _ w).alloc (Nat.le_refl _) _).trans (hb.mono (by omega)), by rw [World.size_alloc]; omega, ?_, ?_, ?_, ?_, ?_⟩
  all_goals
    unfold World.cell?
    first | rw [h2] | rw [h1]
    rfl
theorem stand_early {w w1 : World} {o a b : Int} (hX : Below ((w.alloc (insBox o a b)).alloc (opdBox a b)).heap.size ((w.alloc (insBox o a b)).alloc (opdBox a b)) w1) : Stand w o a b (w.heap.size + 1) w1 := by
  have hz : (w.alloc (insBox o a b)).heap.size = w.heap.size + 1 := World.size_alloc w _
  have hz' : ((w.alloc (insBox o a b)).alloc (opdBox a b)).heap.size = w.heap.size + 1 + 1 := by rw [World.size_alloc, hz]
  have h0 : (w.alloc (insBox o a b)).heap[w.heap.size]? = some (insBox o a b) := heap_alloc_new w _
  have h1 : ((w.alloc (insBox o a b)).alloc (opdBox a b)).heap[w.heap.size + 1]? = some (opdBox a b) := by rw [← hz]; exact heap_alloc_new _ _
  have h2 : ((w.alloc (insBox o a b)).alloc (opdBox a b)).heap[w.heap.size]? = some (insBox o a b) := (Below.heap_alloc _ _ _ (by omega)).trans h0
  have hs := hX.size
  have h3 : w1.heap[w.heap.size + 1]? = some (opdBox a b) := (hX.block _ (by omega)).trans h1
  have h4 : w1.heap[w.heap.size]? = some (insBox o a b) := (hX.block _ (by omega)).trans h2
  refine ⟨(((Below.refl _ w).alloc (Nat.le_refl _) _).alloc (by omega) _).trans (hX.mono (by omega)), by omega, ?_, ?_, ?_, ?_, ?_⟩
  all_goals
    unfold World.cell?
    first | rw [h4] | rw [h3]
    rfl

set_option maxRecDepth 100000 in
set_option maxHeartbeats 4000000 in
theorem refCheck_yes (o a b : Int) (hk : Known o) (w : World) : Calls Tryd.prog 84 #[.agg #[.int .i64 o, .int .i64 a, .int .i64 b]] w fun e w' => e = .returned (.int .i64 (chk o a b : Nat)) ∧ Below w.heap.size w w' := by
  have HK := fun W => Lib.hid (Go.Proofs.YtjbcmedljgafkaaDoor.oper.refKnown_yes o hk.1 hk.2 W)
  have HF : ∀ W : World, w.heap.size < W.heap.size → W.cell? ⟨w.heap.size, 0, none⟩ = some (.int .i64 o) → W.cell? ⟨w.heap.size, 1, none⟩ = some (.int .i64 a) → W.cell? ⟨w.heap.size, 2, none⟩ = some (.int .i64 b) →
      Calls Tryd.prog 55 #[.int .i64 o] W fun e w' => e = .returned (.string (Go.Proofs.YtjbcmedljgafkaaDoor.oper.txt Go.Proofs.YtjbcmedljgafkaaDoor.oper.fm o)) ∧ w'.cell? ⟨w.heap.size, 0, none⟩ = some (.int .i64 o) ∧ w'.cell? ⟨w.heap.size, 1, none⟩ = some (.int .i64 a) ∧ w'.cell? ⟨w.heap.size, 2, none⟩ = some (.int .i64 b) ∧ Hid (Below W.heap.size W w') := by
    intro W hs h0 h1 h2
    refine (Go.Proofs.YtjbcmedljgafkaaDoor.oper.refForm_any o W).mono ?_
    rintro e w' ⟨rfl, hb⟩
    exact ⟨rfl, (hb.cell (p := ⟨w.heap.size, 0, none⟩) hs).trans h0, (hb.cell (p := ⟨w.heap.size, 1, none⟩) hs).trans h1, (hb.cell (p := ⟨w.heap.size, 2, none⟩) hs).trans h2, Lib.hid hb⟩
  have HZ : Hid (chk o a b = chkF (form o) a b) := Lib.hid (by unfold chk; rw [if_pos hk])
  have hy2 : (Go.Proofs.YtjbcmedljgafkaaDoor.oper.txt Go.Proofs.YtjbcmedljgafkaaDoor.oper.fm o).size ≤ 2 := by have := form_le o; unfold form at this; rwa [← size_list] at this
  unfold form at HZ
  rw [HZ.out]
  clear hk HZ
  generalize Go.Proofs.YtjbcmedljgafkaaDoor.oper.txt Go.Proofs.YtjbcmedljgafkaaDoor.oper.fm o = y at *
  go_enter Tryd.func84, Tryd.ntmps84
  go_wp2_with fail
  refine (HK _).out.mono ?_
  rintro e w1 ⟨rfl, rfl⟩
  go_upto_region 3 with fail
  go_cut [3, 4] (fun t l wx => Forms w o a b y t l wx)
  case first =>
    go_region_held3 (fun w' => w'.cell? ⟨w.heap.size, 0, none⟩ = some (.int .i64 o) ∧ w'.cell? ⟨w.heap.size, 1, none⟩ = some (.int .i64 a) ∧ w'.cell? ⟨w.heap.size, 2, none⟩ = some (.int .i64 b)) (go_keep)
      (first | (go_at_call 55; refine (HF _ ?_ ?_ ?_ ?_).mono ?_; (simp <;> omega); (simp); (simp); (simp); rintro e w1 ⟨rfl, d0, d1, d2, HX⟩))
    all_goals
      go_wp2_with fail
      go_meet
      refine ⟨rfl, _, rfl, ?_⟩
      first
        | exact stand_late ((Below.refl _ _).drew.trans HX.out)
        | exact stand_early ((Below.refl _ _).drew.trans HX.out)
  case rest =>
    obtain ⟨rfl, g, rfl, hS⟩ := hcut
    go_wp2_with fail
    have HN := Lib.hid hy2
    have HS0 := Lib.hid hS
    clear hS
    go_loopw [5] (fun i wr => ∃ j : Nat, j ≤ y.size ∧ i = .int .i64 (j : Int) ∧ Hid (∀ k, k < j → okAt y.data.toList a b k = true) ∧ Hid (Stand w o a b g wr)) (fun i _ => y.size - (intOf i).toNat)
    case atStart => exact ⟨0, Nat.zero_le _, rfl, Lib.hid (fun k hk => absurd hk (Nat.not_lt_zero k)), HS0⟩
    case round =>
      obtain ⟨j, hj, rfl, HO, HS⟩ := hrel
      by_cases hlt : j < y.size
      · have hcell := HS.out.at (j := j) (by omega)
        have hlt' : (j : Int) < (y.size : Int) := by omega
        have hj2 : j < 2 := by omega
        have hyj : y[j] = y.data.toList.getD j 0 := letter_at hlt
        have HK1 := fun h => Lib.hid (chkF_arg (f := y.data.toList) (a := a) (b := b) (j := j) (by rw [← size_list]; exact hlt) h)
        have HNx : ∀ h : okAt y.data.toList a b j = true, Hid (∀ k, k < j + 1 → okAt y.data.toList a b k = true) := fun h => Lib.hid (fun k hk => by
          rcases Nat.lt_or_ge k j with h1 | h1
          · exact HO.out k h1
          · obtain rfl : k = j := by omega
            exact h)
        unfold okAt at HK1 HNx
        generalize y.data.toList.getD j 0 = c at *
        generalize opd a b j = v at *
        have hj0 : (0 : Int) ≤ (j : Int) := by omega
        have hj2' : (j : Int) < 2 := by omega
        have HB := Lib.hid HS.out.below
        by_cases hc : c = 110
        · subst hc
          by_cases hv : Word v
          · have HE := HNx (by unfold fitsB; rw [if_pos rfl, decide_eq_true hv])
            have HFit : ∀ W : World, Calls Tryd.prog 69 #[.int .i64 v] W fun e w' => e = .returned (.bool true) ∧ w' = W := fun W => (Go.Proofs.YtjbcmedljgafkaaDoor.word.refFits_any v W).mono fun e w' ⟨h1, h2⟩ => ⟨by rw [h1, decide_eq_true hv], h2.symm⟩
            clear HK1 HNx hv
            go_wp2_with fail
            go_quiet ((go_at_call 69; exact Calls.quiet_of_same (HFit _)))
            go_wp2
            go_roundw
            case rel => exact ⟨j + 1, by omega, by go_num, HE, Lib.hid (HS.out.drewN _)⟩
            case measure => simp [intOf]; omega
          · have HE := HK1 (by unfold fitsB; rw [if_pos rfl, decide_eq_false hv])
            have HFit : ∀ W : World, Calls Tryd.prog 69 #[.int .i64 v] W fun e w' => e = .returned (.bool false) ∧ w' = W := fun W => (Go.Proofs.YtjbcmedljgafkaaDoor.word.refFits_any v W).mono fun e w' ⟨h1, h2⟩ => ⟨by rw [h1, decide_eq_false hv], h2.symm⟩
            clear HK1 HNx hv
            go_wp2_with fail
            go_quiet ((go_at_call 69; exact Calls.quiet_of_same (HFit _)))
            go_wp2
            go_ret
            exact ⟨ret_int (by rw [HE.out]; rfl), below_drewN HB.out _⟩
        · have hc1 : ((c.toNat : Int) == 110) = false := (u8_ne hc).1
          have hc2 : ((c.toNat : Int) != 110) = true := (u8_ne hc).2
          have HLst : ∀ W : World, Calls Tryd.prog 91 #[.int .u8 (c.toNat : Int)] W fun e w' => e = .returned (.int .i64 (least c)) ∧ w' = W := fun W => (least_any c W).mono fun e w' ⟨h1, h2⟩ => ⟨h1, h2.symm⟩
          have HMst : ∀ W : World, Calls Tryd.prog 92 #[.int .u8 (c.toNat : Int)] W fun e w' => e = .returned (.int .i64 (most c)) ∧ w' = W := fun W => (most_any c W).mono fun e w' ⟨h1, h2⟩ => ⟨h1, h2.symm⟩
          have hfb : fitsB c v = decide (least c ≤ v ∧ v ≤ most c) := by unfold fitsB; rw [if_neg hc]
          rw [hfb] at HK1 HNx
          clear hc hfb
          generalize least c = lo at *
          generalize most c = hi at *
          by_cases h1 : v < lo
          · have HE := HK1 (by rw [decide_eq_false_iff_not]; omega)
            have hd1 : decide (v < lo) = true := by simpa using h1
            clear HK1 HNx
            go_wp2_with fail
            go_quiet ((first | (go_at_call 91; exact Calls.quiet_of_same (HLst _)) | (go_at_call 92; exact Calls.quiet_of_same (HMst _))))
            go_wp2
            go_ret
            exact ⟨ret_int (by rw [HE.out]; rfl), below_drewN HB.out _⟩
          · have hd1 : decide (v < lo) = false := by simpa using h1
            by_cases h2 : hi < v
            · have HE := HK1 (by rw [decide_eq_false_iff_not]; omega)
              have hd2 : decide (hi < v) = true := by simpa using h2
              clear HK1 HNx
              go_wp2_with fail
              go_quiet ((first | (go_at_call 91; exact Calls.quiet_of_same (HLst _)) | (go_at_call 92; exact Calls.quiet_of_same (HMst _))))
              go_wp2
              go_ret
              exact ⟨ret_int (by rw [HE.out]; rfl), below_drewN HB.out _⟩
            · have HE := HNx (by rw [decide_eq_true_iff]; omega)
              have hd2 : decide (hi < v) = false := by simpa using h2
              clear HK1 HNx
              go_wp2_with fail
              go_quiet ((first | (go_at_call 91; exact Calls.quiet_of_same (HLst _)) | (go_at_call 92; exact Calls.quiet_of_same (HMst _))))
              go_wp2
              go_roundw
              case rel => exact ⟨j + 1, by omega, by go_num, HE, Lib.hid (HS.out.drewN _)⟩
              case measure => simp [intOf]; omega
      · obtain rfl : j = y.size := by omega
        have hcell := fun k (hk : k < 2) => Lib.hid (HS.out.at hk)
        have hc1 := HS.out.c1
        have hc2 := HS.out.c2
        have HB := Lib.hid HS.out.below
        have HF1 : Hid (∀ k, k < y.data.toList.length → okAt y.data.toList a b k = true) := Lib.hid (by rw [← size_list]; exact HO.out)
        go_wp2_with fail
        any_goals
          have h1 : y.toList = [106, 106] := by assumption
          have h2 : b < a := by assumption
          have HE := Lib.hid (chkF_two HF1.out (by rw [← ByteArray.toList_eq]; exact h1) h2)
          clear h1
          go_ret
          exact ⟨ret_int (by rw [HE.out]; rfl), HB.out⟩
        all_goals
          have HX : Hid (¬ (y.data.toList = [106, 106] ∧ b < a)) := Lib.hid (by
            rw [← ByteArray.toList_eq]
            rintro ⟨h1, h2⟩
            first
              | omega
              | exact absurd h1 (by assumption))
          clear hcell hc1 hc2
          try (rename y.toList = [106, 106] => h1; replace h1 := Lib.hid h1)
          try (rename ¬ y.toList = [106, 106] => h1; replace h1 := Lib.hid h1)
          go_loopw [6] (fun i wr => ∃ j : Nat, y.size ≤ j ∧ j ≤ 2 ∧ i = .int .i64 (j : Int) ∧ Hid (∀ k, y.size ≤ k → k < j → opd a b k = 0) ∧ Hid (Stand w o a b g wr)) (fun i _ => 2 - (intOf i).toNat)
          case atStart => exact ⟨y.size, Nat.le_refl _, HN.out, rfl, Lib.hid (fun k h1 h2 => absurd h1 (Nat.not_le_of_lt h2)), HS⟩
          case round =>
            obtain ⟨j, hj1, hj2, rfl, HP, HS2⟩ := hrel
            have HB2 := Lib.hid HS2.out.below
            by_cases hlt : j < 2
            · have hc := HS2.out.at hlt
              have hj3 : (j : Int) < 2 := by omega
              by_cases hv : opd a b j = 0
              · have HE : Hid (∀ k, y.size ≤ k → k < j + 1 → opd a b k = 0) := Lib.hid (fun k h1 h2 => by
                  rcases Nat.lt_or_ge k j with h3 | h3
                  · exact HP.out k h1 h3
                  · obtain rfl : k = j := by omega
                    exact hv)
                rw [hv] at hc
                clear hv
                go_wp2
                go_roundw
                case rel => exact ⟨j + 1, by omega, by omega, by go_num, HE, HS2⟩
                case measure => simp [intOf]; omega
              · have HE := Lib.hid (chkF_form HF1.out HX.out (by rw [← size_list]; exact hj1) hlt hv)
                have hv' : (opd a b j != 0) = true := by simpa using hv
                clear hv
                generalize opd a b j = v at *
                go_wp2
                go_ret
                exact ⟨ret_int (by rw [HE.out]; rfl), HB2.out⟩
            · obtain rfl : j = 2 := by omega
              have HE := Lib.hid (chkF_fine HF1.out HX.out (by rw [← size_list]; exact fun k h1 h2 => HP.out k h1 h2))
              go_wp2_with fail
              go_ret
              exact ⟨ret_int (by rw [HE.out]; rfl), HB2.out⟩

theorem refCheck_no (o a b : Int) (hk : ¬ Known o) (w : World) : Calls Tryd.prog 84 #[.agg #[.int .i64 o, .int .i64 a, .int .i64 b]] w fun e w' => e = .returned (.int .i64 (chk o a b : Nat)) ∧ Below w.heap.size w w' := by
  have HK := fun W => Lib.hid (Go.Proofs.YtjbcmedljgafkaaDoor.oper.refKnown_no o (by unfold Known at hk; omega) W)
  have HZ : Hid (chk o a b = 6) := Lib.hid (by unfold chk; rw [if_neg hk])
  have HB := Lib.hid ((Below.refl w.heap.size w).alloc (Nat.le_refl _) (insBox o a b))
  rw [HZ.out]
  clear hk HZ
  go_enter Tryd.func84, Tryd.ntmps84
  go_wp2_with fail
  refine (HK _).out.mono ?_
  rintro e w1 ⟨rfl, rfl⟩
  go_wp2_with fail
  go_ret
  exact ⟨rfl, HB.out⟩
theorem refCheck_any (o a b : Int) (w : World) : Calls Tryd.prog 84 #[.agg #[.int .i64 o, .int .i64 a, .int .i64 b]] w fun e w' => e = .returned (.int .i64 (chk o a b : Nat)) ∧ Below w.heap.size w w' := by
  by_cases hk : Known o
  · exact refCheck_yes o a b hk w
  · exact refCheck_no o a b hk w
end Go.Proofs.YtjbcmedljgafkaaDoor.inst

/-
  The document's own answer of what is wrong with a function. No condition.
-/

namespace Go.Proofs.YtjbcmedljgafkaaDoor.pgm
open Go.RowKit Go.ChangeShapes
open Go.Proofs.YtjbcmedljgafkaaDoor.objs (De zero DAt)
open Go.Proofs.YtjbcmedljgafkaaDoor.inst (refCheck_any)
set_option linter.unusedVariables false

def NumPost (c : Nat) (w : World) (e : Ending) (w' : World) : Prop := e = .returned (.int .i64 (c : Nat)) ∧ Below w.heap.size w w'
def fnBox (ar lo : Int) (v : Value) : Obj := .cells #[.int .i64 ar, .int .i64 lo, v] 58
set_option maxRecDepth 100000 in
set_option maxHeartbeats 8000000 in
theorem refFn_any (A : Option Addr) (n c : Nat) (ar lo : Int) (l : List De) (hn : l.length = min n 250) (w : World) (hA : DAt w A l) :
    Calls Tryd.prog 73 #[.agg #[.int .i64 ar, .int .i64 lo, .slice A n c]] w (NumPost (chkFn ⟨ar, lo, l⟩) w) := by
  unfold NumPost
  obtain ⟨v, hv⟩ : ∃ v, v = chkFn ⟨ar, lo, l⟩ := ⟨_, rfl⟩
  rw [← hv]
  unfold chkFn at hv
  dsimp only at hv
  have hb0 : Below w.heap.size w (w.alloc (fnBox ar lo (.slice A n c))) := (Below.refl _ w).alloc (Nat.le_refl _) _
  have HB0 := Lib.hid hb0
  by_cases h1 : ar < 0 ∨ lo < ar ∨ 8 < lo
  · rw [if_pos h1] at hv
    clear hn hA hb0
    subst hv
    unfold fnBox at HB0
    by_cases a1 : ar < 0
    · clear h1
      go_enter Tryd.func73, Tryd.ntmps73
      go_wp2_with fail
      go_ret
      exact ⟨rfl, HB0.out⟩
    · by_cases a2 : lo < ar
      · have q1 : decide (ar < 0) = false := by simp; omega
        have q2 : decide (ar > lo) = true := by simp; omega
        clear h1 a1
        go_enter Tryd.func73, Tryd.ntmps73
        go_wp2_with fail
        go_ret
        exact ⟨rfl, HB0.out⟩
      · have a3 : 8 < lo := by omega
        have q1 : decide (ar < 0) = false := by simp; omega
        have q2 : decide (ar > lo) = false := by simp; omega
        clear h1 a1 a2
        go_enter Tryd.func73, Tryd.ntmps73
        go_wp2_with fail
        go_ret
        exact ⟨rfl, HB0.out⟩
  · rw [if_neg h1] at hv
    have q1 : decide (ar < 0) = false := by simp; omega
    have q2 : decide (ar > lo) = false := by simp; omega
    have q3 : decide (lo > 8) = false := by simp; omega
    by_cases h0 : n = 0
    · subst h0
      rw [if_pos (by omega)] at hv
      clear hA hb0 h1 hn
      subst hv
      unfold fnBox at HB0
      go_enter Tryd.func73, Tryd.ntmps73
      go_wp2_with fail
      go_ret
      exact ⟨rfl, HB0.out⟩
    · have q4 : ((n : Int) == 0) = false := by simpa using h0
      rw [if_neg (by omega)] at hv
      by_cases h2 : 200 < n
      · have q5 : decide ((n : Int) > 200) = true := by simp; omega
        rw [if_pos (by omega)] at hv
        clear hA hb0 h1 hn h0 h2
        subst hv
        unfold fnBox at HB0
        go_enter Tryd.func73, Tryd.ntmps73
        go_wp2_with fail
        go_ret
        exact ⟨rfl, HB0.out⟩
      · obtain rfl : n = l.length := by omega
        rw [if_neg (by omega)] at hv
        have q5 : decide ((l.length : Int) > 200) = false := by simp; omega
        have HV := Lib.hid hv
        have hl64 : l.length ≤ 9223372036854775807 := by omega
        have HA := Lib.hid hA
        have HL := Lib.hid h2
        clear hA hb0 h1 hn h0 h2 hv
        unfold fnBox at HB0
        go_enter Tryd.func73, Tryd.ntmps73
        go_wp2_with fail
        go_loopw [3] (fun i wr => ∃ j : Nat, j ≤ l.length ∧ i = .int .i64 (j : Int) ∧ Hid (v = firstE chkI (l.drop j)) ∧ Hid (Below (w.heap.size + 1) (w.alloc (.cells #[.int .i64 ar, .int .i64 lo, .slice A l.length c] 58)) wr)) (fun i _ => l.length - (intOf i).toNat)
        case atStart => exact ⟨0, Nat.zero_le _, rfl, Lib.hid (by simpa using HV.out), Lib.hid (Below.refl _ _)⟩
        case round =>
          obtain ⟨j, hj, rfl, HJ, HW⟩ := hrel
          have HD := Lib.hid (HA.out.next (HB0.out.trans (HW.out.mono (Nat.le_succ _))))
          have hblk : wr.heap[w.heap.size]? = some (.cells #[.int .i64 ar, .int .i64 lo, .slice A l.length c] 58) := (HW.out.block _ (Nat.lt_succ_self _)).trans (heap_alloc_new w _)
          have e2 : wr.cell? ⟨w.heap.size, 2, none⟩ = some (.slice A l.length c) := by unfold World.cell?; rw [hblk]; rfl
          clear hblk
          by_cases hlt : j < l.length
          · have HNx := Lib.hid (firstE_drop (f := chkI) zero hlt)
            obtain ⟨b, off, rfl, hbl, c0, c1, c2⟩ := HD.out j hlt
            have hlt' : (j : Int) < (l.length : Int) := by omega
            have hj0 : (0 : Int) ≤ (j : Int) := by omega
            have HO := Lib.hid (refCheck_any (l.getD j zero).1 (l.getD j zero).2.1 (l.getD j zero).2.2 wr)
            have hI : chkI (l.getD j zero) = Go.Proofs.YtjbcmedljgafkaaDoor.inst.chk (l.getD j zero).1 (l.getD j zero).2.1 (l.getD j zero).2.2 := rfl
            rw [← hI] at HO
            clear hI
            generalize l.getD j zero = t at *
            generalize chkI t = q at *
            obtain ⟨tk, ta, tb⟩ := t
            dsimp only at HO c0 c1 c2
            go_wp2_with fail
            refine HO.out.mono ?_
            rintro e w3 ⟨rfl, hb3⟩
            have HW3 := Lib.hid (HW.out.trans (hb3.mono (by have := HW.out.size; rw [World.size_alloc] at this; exact this)))
            have HB3 := Lib.hid (HB0.out.trans (HW3.out.mono (Nat.le_succ _)))
            clear hb3 c0 c1 c2 HO
            by_cases hq : q = 0
            · have HE : Hid (v = firstE chkI (l.drop (j + 1))) := Lib.hid (by rw [HJ.out, HNx.out, if_neg (by simp [hq])])
              have hq' : ((q : Int) != 0) = false := by simp [hq]
              clear hq
              go_wp2
              go_roundw
              case rel => have h200 := HL.out; exact ⟨j + 1, by omega, by go_num, HE, HW3⟩
              case measure => have h200 := HL.out; simp [intOf]; omega
            · have HE : Hid (v = q) := Lib.hid (by rw [HJ.out, HNx.out, if_pos hq])
              have hq' : ((q : Int) != 0) = true := by simpa using hq
              clear hq
              go_wp2
              go_ret
              exact ⟨by rw [HE.out]; rfl, HB3.out⟩
          · have H1 : Hid (v = 0) := Lib.hid (by
              obtain rfl : j = l.length := by omega
              rw [HJ.out, List.drop_length]; rfl)
            have HB3 := Lib.hid (HB0.out.trans (HW.out.mono (Nat.le_succ _)))
            have hge : decide ((j : Int) < (l.length : Int)) = false := by simp; omega
            go_wp2
            go_ret
            exact ⟨by rw [H1.out]; rfl, HB3.out⟩
end Go.Proofs.YtjbcmedljgafkaaDoor.pgm
