/-
  Texts of one claim in one file: GChk, GChkAll, BOf, VCalls, HNext, HCalls. Each has its own sentence, with its conditions.
-/
import Derived.Test.YtbekfjjajggffaaDoorVall10
import Derived.Test.YtbekfjjajggffaaDoorVall21
import Derived.Test.YtbekfjjajggffaaDoorVall15
import Derived.Test.YtbekfjjajggffaaDoorVall7
import Derived.Test.YtbekfjjajggffaaDoorVall26
import Derived.Test.YtbekfjjajggffaaDoorVall25
import Derived.Test.YtbekfjjajggffaaDoorVall13
import Derived.Test.YtbekfjjajggffaaDoorVall24
import Derived.Test.YtbekfjjajggffaaDoorVall12
import Derived.Deep.LoopGhost
import Derived.Test.YtbekfjjajggffaaDoorVall18
import Derived.RegionTactic
import Derived.ChangeAlike
import Derived.BigQuiet
import Derived.Deep.QuietTactic
import Derived.Test.YtbekfjjajggffaaDoorVall1
/-
  The program's own answer of what is wrong with a program (typed over the code of 4b95722). The tables must lie where their initialisers lay them.
-/
namespace Go.Proofs.YtbekfjjajggffaaDoor.pgm
open Go.RowKit Go.ChangeShapes
open Go.Proofs.YtbekfjjajggffaaDoor.objs (De zero DAt cells3)
open Go.Proofs.YtbekfjjajggffaaDoor.need (WAt chkW ChkPost9)
open Go.Proofs.YtbekfjjajggffaaDoor.span (within_any count_any cntC)
set_option linter.unusedVariables false

theorem cntC_zero {n m : Nat} (h0 : n ≠ 0) (hm : ¬ m < n) : cntC n m = 0 := by unfold cntC; rw [if_neg h0, if_neg hm]
theorem ins_box_below (w : World) (o a b : Int) : Below w.heap.size w (w.alloc (.cells #[.int .i64 o, .int .i64 a, .int .i64 b] 46)) := (Below.refl _ w).alloc (Nat.le_refl _) _

set_option maxRecDepth 100000 in
set_option maxHeartbeats 8000000 in
theorem fn_any (A : Option Addr) (c : Nat) (ar lo : Int) (l : List De) (w : World) (hA : DAt w A l) (hw : Okp w) :
    Calls Tryd.prog 55 #[.agg #[.int .i64 ar, .int .i64 lo, .slice A l.length c]] w (NumPost (chkFn ⟨ar, lo, l⟩) w) := by
  unfold NumPost
  obtain ⟨v, hv⟩ : ∃ v, v = chkFn ⟨ar, lo, l⟩ := ⟨_, rfl⟩
  rw [← hv]
  unfold chkFn at hv
  dsimp only at hv
  have HB0 : Hid (Below w.heap.size w (w.alloc (fnBox ar lo (.slice A l.length c)))) := Lib.hid ((Below.refl _ w).alloc (Nat.le_refl _) _)
  obtain ⟨c0, c1, c2, _, _, _⟩ := cells3 (heap_alloc_new w (fnBox ar lo (.slice A l.length c)))
  have HWi := fun W => Lib.hid (within_any ar 0 lo W)
  have HCn := fun W => Lib.hid (count_any l.length 200 W)
  have HA := Lib.hid hA
  have HK := Lib.hid hw
  clear hA hw
  unfold fnBox at HB0 c0 c1 c2
  by_cases h1 : 0 ≤ ar ∧ ar ≤ lo
  · rw [decide_eq_true h1] at HWi
    by_cases h8 : 8 < lo
    · rw [if_pos (by omega)] at hv
      have q3 : decide (lo > 8) = true := by simpa using h8
      have HV := Lib.hid hv
      clear h1 h8 hv
      go_enter Tryd.func55, Tryd.ntmps55
      go_wp2_with fail
      refine (HWi _).out.mono ?_
      rintro e w1 ⟨rfl, rfl⟩
      go_wp2
      go_ret
      exact ⟨by rw [HV.out]; rfl, HB0.out⟩
    · rw [if_neg (by omega)] at hv
      have q3 : decide (lo > 8) = false := by simpa using h8
      have HV := Lib.hid hv
      clear h1 h8 hv
      by_cases h0 : cntC l.length 200 = 0
      · rw [h0] at HCn
        have hl0 : l.length ≠ 0 ∧ l.length ≤ 200 := by
          unfold cntC at h0
          split at h0
          · cases h0
          · split at h0
            · cases h0
            · omega
        have HF : Hid (v = firstE chkI l) := Lib.hid (by rw [HV.out, if_neg (by omega), if_neg (by omega)])
        have hl64 : l.length ≤ 9223372036854775807 := by omega
        have HL := Lib.hid hl0
        clear h0 HV hl0
        go_enter Tryd.func55, Tryd.ntmps55
        go_wp2_with fail
        refine (HWi _).out.mono ?_
        rintro e w1 ⟨rfl, rfl⟩
        go_wp2_with fail
        refine (HCn _).out.mono ?_
        rintro e w1 ⟨rfl, rfl⟩
        go_wp2_with fail
        go_loopw [28] (fun i wr => ∃ j : Nat, j ≤ l.length ∧ i = .int .i64 (j : Int) ∧ Hid (v = firstE chkI (l.drop j)) ∧ Hid (Below w.heap.size w wr)) (fun i _ => l.length - (intOf i).toNat)
        case atStart => exact ⟨0, Nat.zero_le _, rfl, Lib.hid (by simpa using HF.out), HB0⟩
        case round =>
          obtain ⟨j, hj, rfl, HJ, HW⟩ := hrel
          have HD := Lib.hid (HA.out.next HW.out)
          by_cases hlt : j < l.length
          · have HNx := Lib.hid (firstE_drop (f := chkI) zero hlt)
            obtain ⟨b, off, rfl, hbl, d0, d1, d2⟩ := HD.out j hlt
            have hlt' : (j : Int) < (l.length : Int) := by omega
            have hj0 : (0 : Int) ≤ (j : Int) := by omega
            have hI : chkI (l.getD j zero) = Go.Proofs.YtbekfjjajggffaaDoor.inst.chk (l.getD j zero).1 (l.getD j zero).2.1 (l.getD j zero).2.2 := rfl
            have hbx := ins_box_below wr (l.getD j zero).1 (l.getD j zero).2.1 (l.getD j zero).2.2
            have HO := Lib.hid (Go.Proofs.YtbekfjjajggffaaDoor.inst.check_any (l.getD j zero).1 (l.getD j zero).2.1 (l.getD j zero).2.2 _ ((HK.out.next HW.out).next hbx).ins)
            have HBx := Lib.hid (HW.out.trans (hbx.mono HW.out.size))
            rw [← hI] at HO
            clear hI hbx
            generalize l.getD j zero = t at *
            generalize chkI t = q at *
            obtain ⟨tk, ta, tb⟩ := t
            dsimp only at HO HBx d0 d1 d2
            go_wp2_with fail
            refine HO.out.mono ?_
            rintro e w3 ⟨rfl, hb3⟩
            have HW3 := Lib.hid (HBx.out.trans (hb3.mono HBx.out.size))
            clear hb3 d0 d1 d2 HO HBx
            by_cases hq : q = 0
            · have HE : Hid (v = firstE chkI (l.drop (j + 1))) := Lib.hid (by rw [HJ.out, HNx.out, if_neg (by simp [hq])])
              have hq' : ((q : Int) != 0) = false := by simp [hq]
              clear hq
              go_wp2
              go_roundw
              case rel => have h200 := HL.out; exact ⟨j + 1, by omega, by go_num, HE, HW3⟩
              case measure => have h200 := HL.out; simp [intOf]; omega
            · have HE : Hid (v = q) := Lib.hid (by rw [HJ.out, HNx.out, if_pos hq])
              have hq' : ((q : Int) != 0) = true := by simpa using hq
              clear hq
              go_wp2
              go_ret
              exact ⟨by rw [HE.out]; rfl, HW3.out⟩
          · have H1 : Hid (v = 0) := Lib.hid (by
              obtain rfl : j = l.length := by omega
              rw [HJ.out, List.drop_length]; rfl)
            have hge : decide ((j : Int) < (l.length : Int)) = false := by simp; omega
            go_wp2
            go_ret
            exact ⟨by rw [H1.out]; rfl, HW.out⟩
      · have HE : Hid (v = cntC l.length 200) := Lib.hid (by
          rw [HV.out]
          unfold cntC at h0 ⊢
          split
          · rfl
          · split
            · rfl
            · rename_i a b
              rw [if_neg a, if_neg b] at h0
              exact absurd rfl h0)
        generalize cntC l.length 200 = q at *
        have hq' : ((q : Int) != 0) = true := by simpa using h0
        clear h0 HV
        go_enter Tryd.func55, Tryd.ntmps55
        go_wp2_with fail
        refine (HWi _).out.mono ?_
        rintro e w1 ⟨rfl, rfl⟩
        go_wp2_with fail
        refine (HCn _).out.mono ?_
        rintro e w1 ⟨rfl, rfl⟩
        go_wp2
        go_ret
        exact ⟨by rw [HE.out]; rfl, HB0.out⟩
  · rw [decide_eq_false h1] at HWi
    rw [if_pos (by omega)] at hv
    have HV := Lib.hid hv
    clear h1 hv
    go_enter Tryd.func55, Tryd.ntmps55
    go_wp2_with fail
    refine (HWi _).out.mono ?_
    rintro e w1 ⟨rfl, rfl⟩
    go_wp2
    go_ret
    exact ⟨by rw [HV.out]; rfl, HB0.out⟩
end Go.Proofs.YtbekfjjajggffaaDoor.pgm

/-
  The program's own answer of what is wrong with functions, with waits, and with a whole program (typed over the code of 4b95722). The tables must lie where their initialisers lay them.
-/
namespace Go.Proofs.YtbekfjjajggffaaDoor.pgm
open Go.RowKit Go.ChangeShapes
open Go.Proofs.YtbekfjjajggffaaDoor.objs (De zero DAt cells3 chk chk_zero ChkPost)
open Go.Proofs.YtbekfjjajggffaaDoor.need (WAt chkW ChkPost9)
open Go.Proofs.YtbekfjjajggffaaDoor.span (within_any count_any cntC)
set_option linter.unusedVariables false

/-- What is wrong with functions. -/
def chkFs (l : List Fn) : Nat := if l.length = 0 then 2 else if 16 < l.length then 4 else firstE chkFn l
theorem chkFs_cnt {l : List Fn} (h : cntC l.length 16 ≠ 0) : chkFs l = cntC l.length 16 := by
  unfold cntC chkFs at *
  split
  · rfl
  · split
    · rfl
    · rename_i a b
      rw [if_neg a, if_neg b] at h
      exact absurd rfl h
theorem chkFs_all {l : List Fn} (h : cntC l.length 16 = 0) : chkFs l = firstE chkFn l ∧ l.length ≤ 16 := by
  unfold cntC chkFs at *
  split at h
  · cases h
  · split at h
    · cases h
    · rename_i a b
      rw [if_neg a, if_neg b]
      exact ⟨rfl, by omega⟩

set_option maxRecDepth 100000 in
set_option maxHeartbeats 8000000 in
theorem fns_any (A : Option Addr) (c : Nat) (l : List Fn) (w : World) (hA : FsAt w A l) (hw : Okp w) :
    Calls Tryd.prog 33 #[.slice A l.length c] w (NumPost (chkFs l) w) := by
  unfold NumPost
  have HCn := fun W => Lib.hid (count_any l.length 16 W)
  have HA := Lib.hid hA
  have HK := Lib.hid hw
  clear hA hw
  by_cases h0 : cntC l.length 16 = 0
  · rw [h0] at HCn
    obtain ⟨hv, hl16⟩ := chkFs_all h0
    generalize chkFs l = v at *
    have HV := Lib.hid hv
    have hl64 : l.length ≤ 9223372036854775807 := by omega
    have HL := Lib.hid hl16
    clear h0 hv hl16
    go_enter Tryd.func33, Tryd.ntmps33
    go_wp2_with fail
    refine (HCn _).out.mono ?_
    rintro e w1 ⟨rfl, rfl⟩
    go_wp2_with fail
    go_loopw [15] (fun i wr => ∃ j : Nat, j ≤ l.length ∧ i = .int .i64 (j : Int) ∧ Hid (v = firstE chkFn (l.drop j)) ∧ Hid (Below w.heap.size w wr)) (fun i _ => l.length - (intOf i).toNat)
    case atStart => exact ⟨0, Nat.zero_le _, rfl, Lib.hid (by simpa using HV.out), Lib.hid (Below.refl _ _)⟩
    case round =>
      obtain ⟨j, hj, rfl, HJ, HW⟩ := hrel
      have HD := Lib.hid (HA.out.next HW.out)
      by_cases hlt : j < l.length
      · have HNx := Lib.hid (firstE_drop (f := chkFn) Fn.zero hlt)
        obtain ⟨b, off, Aj, cj, rfl, hbl, ⟨d0, d1, d2⟩, hco⟩ := HD.out j hlt
        have hlt' : (j : Int) < (l.length : Int) := by omega
        have hj0 : (0 : Int) ≤ (j : Int) := by omega
        have hbx : Below wr.heap.size wr (wr.alloc (fnBox (l.getD j Fn.zero).ar (l.getD j Fn.zero).lo (.slice Aj (l.getD j Fn.zero).co.length cj))) := (Below.refl _ _).alloc (Nat.le_refl _) _
        have HO := Lib.hid (fn_any Aj cj (l.getD j Fn.zero).ar (l.getD j Fn.zero).lo (l.getD j Fn.zero).co _ (hco.next hbx) ((HK.out.next HW.out).next hbx))
        have HBx := Lib.hid (HW.out.trans (hbx.mono HW.out.size))
        unfold NumPost at HO
        unfold fnBox at HO HBx
        clear hbx hco
        rw [show (⟨(l.getD j Fn.zero).ar, (l.getD j Fn.zero).lo, (l.getD j Fn.zero).co⟩ : Fn) = l.getD j Fn.zero from rfl] at HO
        generalize chkFn (l.getD j Fn.zero) = q at *
        generalize l.getD j Fn.zero = t at *
        obtain ⟨tar, tlo, tco⟩ := t
        dsimp only at HO HBx d0 d1 d2
        generalize tco.length = m at *
        go_wp2_with fail
        refine HO.out.mono ?_
        rintro e w3 ⟨rfl, hb3⟩
        have HW3 := Lib.hid (HBx.out.trans (hb3.mono HBx.out.size))
        clear hb3 d0 d1 d2 HO HBx
        by_cases hq : q = 0
        · have HE : Hid (v = firstE chkFn (l.drop (j + 1))) := Lib.hid (by rw [HJ.out, HNx.out, if_neg (by simp [hq])])
          have hq' : ((q : Int) != 0) = false := by simp [hq]
          clear hq
          go_wp2
          go_roundw
          case rel => have h200 := HL.out; exact ⟨j + 1, by omega, by go_num, HE, HW3⟩
          case measure => have h200 := HL.out; simp [intOf]; omega
        · have HE : Hid (v = q) := Lib.hid (by rw [HJ.out, HNx.out, if_pos hq])
          have hq' : ((q : Int) != 0) = true := by simpa using hq
          clear hq
          go_wp2
          go_ret
          exact ⟨by rw [HE.out]; rfl, HW3.out⟩
      · have H1 : Hid (v = 0) := Lib.hid (by
          obtain rfl : j = l.length := by omega
          rw [HJ.out, List.drop_length]; rfl)
        have hge : decide ((j : Int) < (l.length : Int)) = false := by simp; omega
        go_wp2
        go_ret
        exact ⟨by rw [H1.out]; rfl, HW.out⟩
  · have HE := Lib.hid (chkFs_cnt h0)
    generalize chkFs l = v at *
    generalize cntC l.length 16 = q at *
    have hq' : ((q : Int) != 0) = true := by simpa using h0
    clear h0
    go_enter Tryd.func33, Tryd.ntmps33
    go_wp2_with fail
    refine (HCn _).out.mono ?_
    rintro e w1 ⟨rfl, rfl⟩
    go_wp2
    go_ret
    exact ⟨by rw [HE.out]; rfl, Below.refl _ _⟩

def progBox (x y z : Value) : Obj := .cells #[x, y, z] 26
/-- What is wrong with waits. -/
def chkWs (d : List De) (l : List (List (List De))) : Nat := if 32 < l.length then 4 else firstE (chkW d) l

set_option maxRecDepth 100000 in
set_option maxHeartbeats 8000000 in
theorem ws_any (A B C : Option Addr) (ca cb cc n : Nat) (d : List De) (l : List (List (List De))) (hd : d.length ≤ 64) (w : World) (hA : DAt w A d) (hB : WsAt w B l) (hw : Okp w) :
    Calls Tryd.prog 32 #[.agg #[.slice A d.length ca, .slice B l.length cb, .slice C n cc]] w (NumPost (chkWs d l) w) := by
  unfold NumPost
  obtain ⟨v, hv⟩ : ∃ v, v = chkWs d l := ⟨_, rfl⟩
  rw [← hv]
  unfold chkWs at hv
  have hnew := heap_alloc_new w (progBox (.slice A d.length ca) (.slice B l.length cb) (.slice C n cc))
  obtain ⟨c0, c1, c2, _, _, _⟩ := cells3 hnew
  have HB0 : Hid (Below w.heap.size w (w.alloc (progBox (.slice A d.length ca) (.slice B l.length cb) (.slice C n cc)))) := Lib.hid ((Below.refl _ w).alloc (Nat.le_refl _) _)
  have HA := Lib.hid hA
  have HBs := Lib.hid hB
  have HK := Lib.hid hw
  have HD := Lib.hid hd
  clear hA hB hw hd
  by_cases h32 : 32 < l.length
  · rw [if_pos h32] at hv
    have q5 : decide ((l.length : Int) > 32) = true := by simp; omega
    clear h32 hnew
    subst hv
    unfold progBox at HB0 c0 c1 c2
    go_enter Tryd.func32, Tryd.ntmps32
    go_wp2
    go_ret
    exact ⟨rfl, HB0.out⟩
  · rw [if_neg h32] at hv
    have q5 : decide ((l.length : Int) > 32) = false := by simp; omega
    have HV := Lib.hid hv
    have HL := Lib.hid h32
    have hl64 : l.length ≤ 9223372036854775807 := by omega
    have HX : ∀ W, Below (w.heap.size + 1) (w.alloc (progBox (.slice A d.length ca) (.slice B l.length cb) (.slice C n cc))) W → Hid (Below w.heap.size w W ∧ W.cell? ⟨w.heap.size, 0, none⟩ = some (.slice A d.length ca)) := fun W h => by
      have hblk := (h.block _ (Nat.lt_succ_self _)).trans (heap_alloc_new w _)
      refine Lib.hid ⟨HB0.out.trans (h.mono (Nat.le_succ _)), ?_⟩
      unfold World.cell?
      rw [hblk]
      rfl
    clear h32 hnew hv
    unfold progBox at HB0 c0 c1 c2 HX
    go_enter Tryd.func32, Tryd.ntmps32
    go_wp2_with fail
    clear c0 c1 c2
    go_loopw [13] (fun i wr => ∃ j : Nat, j ≤ l.length ∧ i = .int .i64 (j : Int) ∧ Hid (v = firstE (chkW d) (l.drop j)) ∧ Hid (Below (w.heap.size + 1) (w.alloc (.cells #[.slice A d.length ca, .slice B l.length cb, .slice C n cc] 26)) wr)) (fun i _ => l.length - (intOf i).toNat)
    case atStart => exact ⟨0, Nat.zero_le _, rfl, Lib.hid (by simpa using HV.out), Lib.hid (Below.refl _ _)⟩
    case round =>
      obtain ⟨j, hj, rfl, HJ, HW⟩ := hrel
      have c0 := (HX wr HW.out).out.2
      have HW0 := Lib.hid (HX wr HW.out).out.1
      by_cases hlt : j < l.length
      · have HNx := Lib.hid (firstE_drop (f := chkW d) [] hlt)
        obtain ⟨b, off, Aj, cj, rfl, hbl, d0, hwt⟩ := (HBs.out.next HW0.out) j hlt
        have hlt' : (j : Int) < (l.length : Int) := by omega
        have hj0 : (0 : Int) ≤ (j : Int) := by omega
        have HO := Lib.hid (Go.Proofs.YtbekfjjajggffaaDoor.need.check_any A Aj ca cj d (l.getD j []) HD.out wr (HA.out.next HW0.out) hwt (HK.out.next HW0.out).need)
        unfold ChkPost9 at HO
        clear hwt
        generalize chkW d (l.getD j []) = q at *
        generalize (l.getD j []).length = m at *
        go_wp2_with fail
        refine HO.out.mono ?_
        rintro e w3 ⟨rfl, hb3⟩
        have HW3 := Lib.hid (HW.out.trans (hb3.mono (by have := HW.out.size; rw [World.size_alloc] at this; exact this)))
        have HB3 := Lib.hid (HW0.out.trans (hb3.mono HW0.out.size))
        clear hb3 d0 HO
        by_cases hq : q = 0
        · have HE : Hid (v = firstE (chkW d) (l.drop (j + 1))) := Lib.hid (by rw [HJ.out, HNx.out, if_neg (by simp [hq])])
          have hq' : ((q : Int) != 0) = false := by simp [hq]
          clear hq
          go_wp2
          go_roundw
          case rel => have h200 := HL.out; exact ⟨j + 1, by omega, by go_num, HE, HW3⟩
          case measure => have h200 := HL.out; simp [intOf]; omega
        · have HE : Hid (v = q) := Lib.hid (by rw [HJ.out, HNx.out, if_pos hq])
          have hq' : ((q : Int) != 0) = true := by simpa using hq
          clear hq
          go_wp2
          go_ret
          exact ⟨by rw [HE.out]; rfl, HB3.out⟩
      · have H1 : Hid (v = 0) := Lib.hid (by
          obtain rfl : j = l.length := by omega
          rw [HJ.out, List.drop_length]; rfl)
        have hge : decide ((j : Int) < (l.length : Int)) = false := by simp; omega
        go_wp2
        go_ret
        exact ⟨by rw [H1.out]; rfl, HW0.out⟩

theorem chkP_parts (p : Pg) : chkP p = if (chk p.ds).2 ≠ 0 then (chk p.ds).2 else if chkWs p.ds p.ws ≠ 0 then chkWs p.ds p.ws else chkFs p.fs := by
  unfold chkP chkWs chkFs
  split
  · rfl
  · split
    · rw [if_pos (by decide)]
    · rfl

set_option maxRecDepth 100000 in
set_option maxHeartbeats 8000000 in
theorem check_any (v : Value) (p : Pg) (hl : p.ds.length ≤ 9223372036854775807) (w : World) (hv : PAt w v p) (hw : Okp w) :
    Calls Tryd.prog 17 #[v] w (NumPost (chkP p) w) := by
  obtain ⟨A, B, C, ca, cb, cc, rfl, hA, hB, hC⟩ := hv
  unfold NumPost
  obtain ⟨q, hq⟩ : ∃ q, q = chkP p := ⟨_, rfl⟩
  rw [← hq]
  rw [chkP_parts] at hq
  obtain ⟨ds, ws, fs⟩ := p
  dsimp only at hq hl hA hB hC
  have hnew := heap_alloc_new w (progBox (.slice A ds.length ca) (.slice B ws.length cb) (.slice C fs.length cc))
  obtain ⟨c0, c1, c2, _, _, _⟩ := cells3 hnew
  have HB0 : Hid (Below w.heap.size w (w.alloc (progBox (.slice A ds.length ca) (.slice B ws.length cb) (.slice C fs.length cc)))) := Lib.hid ((Below.refl _ w).alloc (Nat.le_refl _) _)
  have HX : ∀ W, Below (w.heap.size + 1) (w.alloc (progBox (.slice A ds.length ca) (.slice B ws.length cb) (.slice C fs.length cc))) W → Hid (Below w.heap.size w W ∧ W.cell? ⟨w.heap.size, 0, none⟩ = some (.slice A ds.length ca) ∧ W.cell? ⟨w.heap.size, 1, none⟩ = some (.slice B ws.length cb) ∧ W.cell? ⟨w.heap.size, 2, none⟩ = some (.slice C fs.length cc)) := fun W h => by
    have hblk := (h.block _ (Nat.lt_succ_self _)).trans (heap_alloc_new w _)
    refine Lib.hid ⟨HB0.out.trans (h.mono (Nat.le_succ _)), ?_, ?_, ?_⟩
    all_goals (unfold World.cell?; rw [hblk]; rfl)
  have HDc := Lib.hid (Go.Proofs.YtbekfjjajggffaaDoor.objs.check_any A ca ds hl _ (hA.next HB0.out) (hw.next HB0.out).decl)
  unfold ChkPost at HDc
  have HWs := fun (hd : ds.length ≤ 64) W (hb : Below w.heap.size w W) => Lib.hid (ws_any A B C ca cb cc fs.length ds ws hd W (hA.next hb) (hB.next hb) (hw.next hb))
  have HFs := fun W (hb : Below w.heap.size w W) => Lib.hid (fns_any C cc fs W (hC.next hb) (hw.next hb))
  unfold NumPost at HWs HFs
  have HD32 : Hid ((chk ds).2 = 0 → ds.length ≤ 64) := Lib.hid (fun h => by have := (chk_zero h).1; omega)
  have HQ := Lib.hid hq
  clear hq hA hB hC hw hnew hl
  unfold progBox at HB0 c0 c1 c2 HX HDc
  generalize chk ds = cd at *
  obtain ⟨ci, ce⟩ := cd
  dsimp only at HDc HQ HD32
  generalize chkWs ds ws = cw at *
  generalize chkFs fs = cf at *
  go_enter Tryd.func17, Tryd.ntmps17
  go_wp2_with fail
  refine HDc.out.mono ?_
  rintro e w1 ⟨rfl, hb1⟩
  have HB1 := Lib.hid (show Below (w.heap.size + 1) _ w1 from hb1.mono (by rw [World.size_alloc]; exact Nat.le_refl _))
  clear hb1 HDc c0 c1 c2
  obtain ⟨hbw1, c0, c1, c2⟩ := (HX w1 HB1.out).out
  have HW1 := Lib.hid hbw1
  clear hbw1
  by_cases he : ce = 0
  · have he' : ((ce : Int) != 0) = false := by simp [he]
    have HO := HWs (HD32.out he) w1 HW1.out
    have HQ2 : Hid (q = if cw ≠ 0 then cw else cf) := Lib.hid (by rw [HQ.out, if_neg (by simp [he])])
    clear he HQ HWs
    go_wp2_with fail
    refine HO.out.mono ?_
    rintro e w2 ⟨rfl, hb2⟩
    have HB2 := Lib.hid (HB1.out.trans (hb2.mono (by have := HB1.out.size; rw [World.size_alloc] at this; exact this)))
    clear hb2 HO c0 c1 c2 HB1 HW1
    obtain ⟨hbw2, c0, c1, c2⟩ := (HX w2 HB2.out).out
    have HW2 := Lib.hid hbw2
    clear hbw2
    by_cases hw0 : cw = 0
    · have hw' : ((cw : Int) != 0) = false := by simp [hw0]
      have HO := HFs w2 HW2.out
      have HQ3 : Hid (q = cf) := Lib.hid (by rw [HQ2.out, if_neg (by simp [hw0])])
      clear hw0 HQ2 HFs
      go_wp2_with fail
      refine HO.out.mono ?_
      rintro e w3 ⟨rfl, hb3⟩
      have HW3 := Lib.hid (HW2.out.trans (hb3.mono HW2.out.size))
      clear hb3 HO c0 c1 c2
      go_wp2
      go_ret
      exact ⟨by rw [HQ3.out]; rfl, HW3.out⟩
    · have hw' : ((cw : Int) != 0) = true := by simpa using hw0
      have HQ3 : Hid (q = cw) := Lib.hid (by rw [HQ2.out, if_pos hw0])
      clear hw0 HQ2 HFs
      go_wp2
      go_ret
      exact ⟨by rw [HQ3.out]; rfl, HW2.out⟩
  · have he' : ((ce : Int) != 0) = true := by simpa using he
    have HQ3 : Hid (q = ce) := Lib.hid (by rw [HQ.out, if_pos he])
    clear he HQ HWs HFs
    go_wp2
    go_ret
    exact ⟨by rw [HQ3.out]; rfl, HW1.out⟩
end Go.Proofs.YtbekfjjajggffaaDoor.pgm

/-
  The set of a list that is read where it lies. No condition but that the list is no longer than an int can say.
-/
namespace Go.Proofs.YtbekfjjajggffaaDoor.bits
open Go.RowKit Go.ChangeShapes

set_option maxRecDepth 100000 in
set_option maxHeartbeats 1000000 in
theorem of_any (b off cap : Nat) (l : List Int) (hl : l.length ≤ 9223372036854775807) (w : World) (h : RowAt w b off l) :
    Calls Tryd.prog 19 #[.slice (some ⟨b, off, none⟩) l.length cap] w fun e w' => e = .returned (.int .u64 ((ofI 0 l : Nat) : Int)) ∧ w = w' := by
  have HR := Lib.hid h
  clear h
  generalize hN : l.length = N at *
  have HN := Lib.hid hN
  clear hN
  go_enter Tryd.func19, Tryd.ntmps19
  go_wp2
  go_loop [3, 8] (fun t i => ∃ k : Nat, k ≤ N ∧ i = .int .i64 (k : Int) ∧ t = .int .u64 ((ofI 0 (l.take k) : Nat) : Int)) (fun _ i => N - (intOf i).toNat)
  case atStart => exact ⟨0, Nat.zero_le _, rfl, rfl⟩
  case round =>
    obtain ⟨k, hk, rfl, rfl⟩ := hrel
    have hs := ofI_lt (l.take k) 0 (by unfold Is64; omega)
    by_cases hlt : k < N
    · have hkl : k < l.length := by have := HN.out; omega
      have hc := HR.out k hkl
      have HT := Lib.hid (ofI_take hkl 0)
      generalize ofI 0 (l.take k) = s at *
      generalize l[k] = x at *
      go_wp2_with fail
      refine (with_any s hs x _).mono ?_
      rintro e w1 ⟨rfl, rfl⟩
      go_wp2
      go_round
      case rel => exact ⟨k + 1, by omega, by go_num, by rw [HT.out]⟩
      case measure => simp [intOf]; omega
    · obtain rfl : k = N := by omega
      have HT : Hid (l.take k = l) := Lib.hid (List.take_of_length_le (by have := HN.out; omega))
      go_wp2
      go_ret
      exact ⟨ret_int (by rw [HT.out]), rfl⟩
end Go.Proofs.YtbekfjjajggffaaDoor.bits

/-
  The program's own answer of which functions one reaches by call (typed over the code of 674cbdc): of every program that may be, and every number. The tables that prog.Check and the bits ask lie where they should.
-/
namespace Go.Proofs.YtbekfjjajggffaaDoor.pgm.ver
open Go.RowKit Go.ChangeShapes
open Go.Proofs.YtbekfjjajggffaaDoor.pgm
open Go.Proofs.YtbekfjjajggffaaDoor.objs (De zero DAt cells3)
open Go.Proofs.YtbekfjjajggffaaDoor.oper (insBox)
open Go.Proofs.YtbekfjjajggffaaDoor.need (of_none)
open Go.Proofs.YtbekfjjajggffaaDoor.bits (wth Is64 wth_lt with_any all_any allN allN_lt first_any els mem_els atI atI_some minus minus_lt or_u64 and_u64 andNot_u64 Tab RowAt of_any ofI)
set_option linter.unusedVariables false

set_option maxRecDepth 100000 in
set_option maxHeartbeats 4000000 in
theorem called_any (A : Option Addr) (cap : Nat) (co : List De) (w : World) (hA : DAt w A co) (hl : co.length ≤ 1000) : Calls Tryd.prog 22 #[.slice A co.length cap] w fun e w' => e = .returned (.int .u64 ((calledN co co.length : Nat) : Int)) ∧ Below w.heap.size w w' := by
  have HOf := Lib.hid (of_none w)
  have HA := Lib.hid hA
  clear hA
  go_enter Tryd.func22, Tryd.ntmps22
  go_wp2_with fail
  refine HOf.out.mono ?_
  rintro e w1 ⟨rfl, rfl⟩
  go_wp2_with fail
  go_loopw [3, 9] (fun t i wr => ∃ j : Nat, j ≤ co.length ∧ i = .int .i64 (j : Int) ∧ t = .int .u64 ((calledN co j : Nat) : Int) ∧ Hid (Below w.heap.size w wr)) (fun _ i _ => co.length - (intOf i).toNat)
  case atStart => exact ⟨0, Nat.zero_le _, rfl, rfl, Lib.hid (Below.refl _ _)⟩
  case round =>
    obtain ⟨j, hj, rfl, rfl, HW⟩ := hrel
    by_cases hlt : j < co.length
    · obtain ⟨b, off, rfl, hb, c0, c1, c2⟩ := HA.out.next HW.out j hlt
      have hlt' : (j : Int) < (co.length : Int) := by omega
      have hj0 : (0 : Int) ≤ (j : Int) := by omega
      have HS := Lib.hid (calledN_64 co j)
      have HE : Hid (calledN co (j + 1) = if (co.getD j zero).1 = 20 then wth (calledN co j) (co.getD j zero).2.1 else calledN co j) := Lib.hid rfl
      generalize calledN co j = s at *
      generalize co.getD j zero = x at *
      have HV1 := Lib.hid (HW.out.alloc HW.out.size (insBox x.1 x.2.1 x.2.2))
      have hbx := heap_alloc_new wr (insBox x.1 x.2.1 x.2.2)
      have HWi := fun W => Lib.hid (with_any s HS.out x.2.1 W)
      obtain ⟨o, a, b'⟩ := x
      unfold insBox at HV1 hbx
      dsimp only at c0 c1 c2 HE HV1 hbx HWi
      clear HW
      go_upto_region 5 with fail
      clear c0 c1 c2
      generalize wr.alloc (.cells #[.int .i64 o, .int .i64 a, .int .i64 b'] 46) = W4 at *
      generalize wr.heap.size = g at *
      obtain ⟨c0, c1, c2, -, -, -⟩ := cells3 hbx
      clear hbx
      by_cases hk : o = 20
      · have HE3 : Hid (calledN co (j + 1) = wth s a) := Lib.hid (by rw [HE.out, if_pos hk])
        have hk' : (o == 20) = true := by simpa using hk
        clear hk
        go_wp2_with fail
        refine (HWi _).out.mono ?_
        rintro e w5 ⟨rfl, rfl⟩
        go_wp2
        go_roundw
        case rel => exact ⟨j + 1, by omega, by go_num, by rw [HE3.out], HV1⟩
        case measure => simp [intOf]; omega
      · have HE3 : Hid (calledN co (j + 1) = s) := Lib.hid (by rw [HE.out, if_neg hk])
        have hk' : (o == 20) = false := by simpa using hk
        clear hk
        go_wp2
        go_roundw
        case rel => exact ⟨j + 1, by omega, by go_num, by rw [HE3.out], HV1⟩
        case measure => simp [intOf]; omega
    · obtain rfl : j = co.length := by omega
      go_wp2
      go_ret
      exact ⟨rfl, HW.out⟩

/-- What the program's calls ask of the world. -/
structure Okv (w : World) : Prop where
  prog : Okp w
  tab : Tab w
  small : 0 < w.heap.size
theorem Okv.next {w w' : World} (h : Okv w) (hb : Below w.heap.size w w') : Okv w' := ⟨h.prog.next hb, h.tab.below hb h.small, Nat.lt_of_lt_of_le h.small hb.size⟩

theorem row_one {W : World} (n : Int) : RowAt (W.alloc (.cells #[.int .i64 n] 3)) W.heap.size 0 [n] := by
  intro j hj
  have hj' : j < 1 := hj
  obtain rfl : j = 0 := by omega
  unfold World.cell?
  rw [heap_alloc_new W _]
  rfl
theorem first_at {s : Nat} (hs : Is64 s) (h : s ≠ 0) : ∃ x : Nat, atI (els s) 0 = (x : Int) ∧ s.testBit x = true := by
  have hne : els s ≠ [] := fun e => by
    apply h
    apply Nat.eq_of_testBit_eq
    intro i
    rw [Nat.zero_testBit]
    cases hb : s.testBit i with
    | false => rfl
    | true =>
      have : i ∈ els s := mem_els.2 ⟨bit_64 hs hb, hb⟩
      rw [e] at this
      cases this
  obtain ⟨x, l, hl⟩ := List.exists_cons_of_ne_nil hne
  refine ⟨x, atI_some (by rw [hl]; rfl), ?_⟩
  have : x ∈ els s := by rw [hl]; exact List.mem_cons_self ..
  exact (mem_els.1 this).2

set_option maxRecDepth 100000 in
set_option maxHeartbeats 8000000 in
theorem calls_any (v : Value) (p : Pg) (fn : Int) (w : World) (hw : Okv w) (hv : PAt w v p) (hz : chkP p = 0) (hfn : I64 fn) : Calls Tryd.prog 7 #[v, .int .i64 fn] w (SetPost (Rcd p.fs fn) w) := by
  obtain ⟨A, B, C, ca, cb, cc, rfl, hA, hB, hF⟩ := id hv
  obtain ⟨g1, g2, g3, g4, g5, g6⟩ := chkP_zero hz
  have g0 := (Go.Proofs.YtbekfjjajggffaaDoor.objs.chk_zero g1).1
  have HRc := fun W h h2 => Lib.hid (check_any (.agg #[.slice A p.ds.length ca, .slice B p.ws.length cb, .slice C p.fs.length cc]) p (by omega) W h h2)
  unfold NumPost at HRc
  rw [hz] at HRc
  unfold SetPost
  have HAl := fun W => Lib.hid (all_any (p.fs.length : Int) W)
  have HO0 := fun W => Lib.hid (of_none W)
  have HO1 := fun b W h => Lib.hid (of_any b 0 1 [fn] (show 1 ≤ 9223372036854775807 by decide) W h)
  have e1 : ofI 0 [fn] = wth 0 fn := rfl
  rw [e1] at HO1
  have HCl0 := Lib.hid (Cl.start (fs := p.fs) (fn := fn) g5)
  have ht64 := allN_lt (p.fs.length : Int)
  have hw64 : Is64 (wth 0 fn) := wth_lt (by unfold Is64; omega) _
  have HAn := Lib.hid (and_u64 hw64 ht64)
  have H0 := Lib.hid (Hold.alloc (show Hold w [] w from ⟨Below.refl _ w, fun z hz => by cases hz⟩) (pgB (.slice A p.ds.length ca) (.slice B p.ws.length cb) (.slice C p.fs.length cc)))
  have HF := Lib.hid hF
  have HFC := Lib.hid g6
  have HV := Lib.hid hv
  have HW := Lib.hid hw
  have HT6 := Lib.hid ht64
  unfold pgB at H0
  generalize wth 0 fn = f0 at *
  generalize hth : allN (p.fs.length : Int) = th at *
  have HTH := Lib.hid hth
  clear hth e1 hA hB hF hv hz g1 g3 g6 hw ht64 hw64
  go_enter Tryd.func7, Tryd.ntmps7
  go_upto_region 1 with fail
  generalize w.alloc (.cells #[.slice A p.ds.length ca, .slice B p.ws.length cb, .slice C p.fs.length cc] 26) = W0 at *
  obtain ⟨x0, x1, x2, -, -, -⟩ := cells3 (H0.out.all _ (List.mem_cons_self ..))
  go_wp2_with fail
  refine (HRc _ (HV.out.next H0.out.below) (HW.out.prog.next H0.out.below)).out.mono ?_
  rintro _ w1 ⟨rfl, hb1⟩
  have H1 := Lib.hid (H0.out.next hb1)
  clear hb1 x0 x1 x2 H0 HRc
  obtain ⟨x0, x1, x2, -, -, -⟩ := cells3 (H1.out.all _ (List.mem_cons_self ..))
  rw [show ((0 : Nat) : Int) = 0 from rfl]
  go_wp2_with fail
  refine (HAl _).out.mono ?_
  rintro _ _ ⟨rfl, rfl⟩
  go_wp2_with fail
  refine (HO0 _).out.mono ?_
  rintro _ _ ⟨rfl, rfl⟩
  go_wp2_with fail
  refine (HO1 _ _ (row_one fn)).out.mono ?_
  rintro _ _ ⟨rfl, rfl⟩
  have HA2 := HAn.out
  have H2 := Lib.hid ((H1.out.alloc (.cells #[.int .i64 fn] 3)).less (k := [(w.heap.size, .cells #[.slice A p.ds.length ca, .slice B p.ws.length cb, .slice C p.fs.length cc] 26)]) (fun z hz => List.mem_cons_of_mem _ hz))
  clear x0 x1 x2 H1 HAl HO0 HO1 HAn
  generalize w1.alloc (.cells #[.int .i64 fn] 3) = w2 at *
  generalize f0 &&& th = a0 at *
  go_wp2_with fail
  clear HA2
  go_loopw [6, 7] (fun f a wr => ∃ s q : Nat, f = .int .u64 (s : Int) ∧ a = .int .u64 (q : Int) ∧ Hid (Cl p.fs fn s q) ∧ Hid (Hold w [(w.heap.size, .cells #[.slice A p.ds.length ca, .slice B p.ws.length cb, .slice C p.fs.length cc] 26)] wr)) (fun f _ _ => 65536 - (intOf f).toNat)
  case atStart => exact ⟨0, a0, rfl, rfl, HCl0, H2⟩
  case round =>
    clear HCl0 H2
    obtain ⟨s, q, rfl, rfl, HC, HH⟩ := hrel
    by_cases hq : q = 0
    · subst hq
      have HB := Lib.hid HH.out.below
      rw [show ((0 : Nat) : Int) = 0 from rfl]
      go_wp2
      go_ret
      exact ⟨s, rfl, HC.out.s64, fun o => HC.out.done o, HB.out⟩
    · have q0 : ((q : Int) != 0) = true := by simpa using hq
      obtain ⟨x, hx, hbit⟩ := first_at HC.out.a64 hq
      have hxl := HC.out.alt x hbit
      have HFi := fun W h => Lib.hid (first_any q HC.out.a64 W h)
      rw [hx] at HFi
      have HWi := fun W => Lib.hid (with_any s HC.out.s64 (x : Int) W)
      have HC2 := HC.out.step hbit g5
      have hgr := HC.out.grows hbit
      have hsm := HC2.small g5
      obtain ⟨gb, off, Aj, cj, rfl, hg, ⟨f0', f1', f2'⟩, hD⟩ := HF.out x hxl
      have f2 := (HH.out.below.cell (p := ⟨gb, off + x * 3 + 2, none⟩) hg).trans f2'
      have hfz := chkFn_zero (HFC.out _ (Go.Proofs.YtbekfjjajggffaaDoor.pgm.getD_in (d := Fn.zero) hxl))
      have HCa := fun W h => Lib.hid (called_any Aj cj (p.fs.getD x Fn.zero).co W h (by omega))
      have hc64 := calledN_64 (p.fs.getD x Fn.zero).co (p.fs.getD x Fn.zero).co.length
      have hw64 : Is64 (wth s (x : Int)) := wth_lt HC.out.s64 _
      have b1 := or_u64 HC.out.a64 hc64
      have b2 := and_u64 (or_64 HC.out.a64 hc64) HT6.out
      have b3 := andNot_u64 (and_64 (t := th) (or_64 HC.out.a64 hc64)) hw64
      rw [HTH.out] at HC2
      have HD := Lib.hid (hD.next HH.out.below)
      have HTb := Lib.hid (HW.out.next HH.out.below).tab
      generalize calledN (p.fs.getD x Fn.zero).co (p.fs.getD x Fn.zero).co.length = cl at *
      generalize (p.fs.getD x Fn.zero).co = co at *
      generalize wth s (x : Int) = s2 at *
      generalize q ||| cl = t1 at *
      generalize t1 &&& th = t2 at *
      generalize minus t2 s2 = t3 at *
      have HC3 := Lib.hid HC2
      obtain ⟨x0, x1, x2, -, -, -⟩ := cells3 (HH.out.all _ (List.mem_cons_self ..))
      have k0 : (0 : Int) ≤ (x : Int) := by omega
      have k1 : (x : Int) < (p.fs.length : Int) := by omega
      clear hq hx hbit HC HC2 f0' f1' f2' hD hfz hc64 hw64
      go_wp2_with fail
      refine (HFi _ HTb.out).out.mono ?_
      rintro _ _ ⟨rfl, rfl⟩
      go_wp2_with fail
      refine (HWi _).out.mono ?_
      rintro _ _ ⟨rfl, rfl⟩
      go_wp2_with fail
      refine (HCa _ HD.out).out.mono ?_
      rintro _ w5 ⟨rfl, hb5⟩
      have HH5 := Lib.hid (HH.out.next hb5)
      clear hb5 HH x0 x1 x2 f2 HD
      go_wp2
      go_roundw
      case rel => exact ⟨s2, t3, rfl, rfl, HC3, HH5⟩
      case measure => simp [intOf]; omega
end Go.Proofs.YtbekfjjajggffaaDoor.pgm.ver

/-
  The walk's call that tells the next place to be looked at (typed over the code of 5351f23). Of at most 200 instructions.
-/
namespace Go.Proofs.YtbekfjjajggffaaDoor.pgm.dep
open Go.RowKit Go.ChangeShapes
open Go.Proofs.YtbekfjjajggffaaDoor.pgm
set_option linter.unusedVariables false

/-- The place that is told: 0, if there is none. -/
def kv (n k : Nat) : Int := if k < n then (k : Int) else 0
set_option maxRecDepth 100000 in
set_option maxHeartbeats 4000000 in
theorem next_any (W : World) (bw bd ba n : Nat) (vF : Value) (C : Option Addr) (cc : Nat) (z : Z) (pl er : Int) (k : Nat) (h : Wk W bw bd ba n vF (.slice C n cc) z pl er) (hn : n ≤ 200) (hk : k ≤ n) (hle : z.le ≤ k)
    (hb : ∀ i, z.le ≤ i → i < k → z.ah.getD i false = false) (ht : k < n → z.ah.getD k false = true) :
    Calls Tryd.prog 63 #[.pointer (some ⟨bw, 0, none⟩)] W fun e w' => e = .returned (.tuple #[.int .i64 (kv n k), .bool (decide (k < n))]) ∧
      Wk w' bw bd ba n vF (.slice C n cc) ⟨z.dp, if k < n then z.ah.set k false else z.ah, k⟩ pl er ∧ Trn bw bd ba W w' := by
  have HB := Lib.hid hb
  have HT := Lib.hid ht
  have HI : Hid (Wk W bw bd ba n vF (.slice C n cc) ⟨z.dp, z.ah, z.le⟩ pl er) := Lib.hid h
  have HN := Lib.hid hn
  have HK := Lib.hid hk
  clear hb ht h hn hk
  obtain ⟨dp, ah, le⟩ := z
  dsimp only at *
  generalize hx : kv n k = x
  generalize hy : decide (k < n) = y
  generalize hA : (if k < n then ah.set k false else ah) = A
  have HX := Lib.hid (show _ ∧ _ ∧ _ from ⟨hx, hy, hA⟩)
  clear hx hy hA
  go_enter Tryd.func63, Tryd.ntmps63
  go_wp2
  go_loopg [] (k - le) (fun g wr => ∃ j : Nat, g = k - j ∧ le ≤ j ∧ j ≤ k ∧ Hid (Wk wr bw bd ba n vF (.slice C n cc) ⟨dp, ah, j⟩ pl er) ∧ Hid (Trn bw bd ba W wr))
  case atStart => exact ⟨le, rfl, Nat.le_refl _, hle, HI, Lib.hid (Trn.refl _ _ _ _)⟩
  case round =>
    clear HI hle
    obtain ⟨j, hg, hj0, hjk, HW, HR⟩ := hrel
    have hkn := HK.out
    have hn2 := HN.out
    obtain ⟨-, c1, -, c3, c4, -, -, d4, -, -⟩ := HW.out.cells
    dsimp only at c4
    by_cases hjn : j < n
    · obtain ⟨u0, v0⟩ := HW.out.yes hjn
      dsimp only at u0
      have q0 : decide ((j : Int) < (n : Int)) = true := decide_eq_true (by omega)
      have h0 : (0 : Int) ≤ (j : Int) := by omega
      have h1 : (j : Int) < (n : Int) := by omega
      by_cases hjk2 : j < k
      · rw [HB.out j hj0 hjk2] at u0
        have HM := fun m => Lib.hid ((HW.out.drewN m).least (j + 1))
        have HU := fun m => Lib.hid ((HR.out.drewN m).setCell (p := ⟨bw, 4, none⟩) (.inl rfl) (.int .i64 ((j + 1 : Nat) : Int)))
        have e1 : ((j + 1 : Nat) : Int) = (j : Int) + 1 := by omega
        rw [e1] at HM HU
        go_wp2
        go_quiet (fail)
        go_wp2
        go_quiet (fail)
        go_wp2
        go_roundg (k - (j + 1))
        case measure => omega
        case rel => exact ⟨j + 1, rfl, by omega, by omega, HM _, HU _⟩
      · obtain rfl : j = k := by omega
        rw [HT.out hjn] at u0
        obtain ⟨rfl, rfl, rfl⟩ : x = (j : Int) ∧ y = true ∧ A = ah.set j false := ⟨by rw [← HX.out.1]; unfold kv; rw [if_pos hjn], by rw [← HX.out.2.1, decide_eq_true hjn], by rw [← HX.out.2.2, if_pos hjn]⟩
        clear HX
        have HM := fun m => Lib.hid ((HW.out.drewN m).mark j false)
        have HU := fun m => Lib.hid ((HR.out.drewN m).setCell (p := ⟨ba, j, none⟩) (.inr (.inr rfl)) (.bool false))
        have n2 := HW.out.n2
        have n2' := Ne.symm n2
        go_wp2
        go_quiet (fail)
        go_wp2
        go_quiet (fail)
        go_wp2
        go_region
        go_wp2
        go_ret2
        exact ⟨rfl, (HM _).out, (HU _).out⟩
    · have q0 : decide ((j : Int) < (n : Int)) = false := decide_eq_false (by omega)
      obtain rfl : j = k := by omega
      obtain ⟨rfl, rfl, rfl⟩ : x = 0 ∧ y = false ∧ A = ah := ⟨by rw [← HX.out.1]; unfold kv; rw [if_neg hjn], by rw [← HX.out.2.1, decide_eq_false hjn], by rw [← HX.out.2.2, if_neg hjn]⟩
      clear HX
      have HM := fun m => Lib.hid (HW.out.drewN m)
      have HU := fun m => Lib.hid (HR.out.drewN m)
      go_wp2
      go_quiet (fail)
      go_wp2
      go_ret2
      exact ⟨rfl, (HM _).out, (HU _).out⟩
end Go.Proofs.YtbekfjjajggffaaDoor.pgm.dep

/-
  The walk's small calls, each by itself (typed over the code of 5351f23): how many arguments a function has, what stands there behind an instruction, where it goes, what it blames. The functions' arguments are from 0 to 8.
-/
namespace Go.Proofs.YtbekfjjajggffaaDoor.pgm.dep
open Go.RowKit Go.ChangeShapes
open Go.Proofs.YtbekfjjajggffaaDoor.pgm
open Go.Proofs.YtbekfjjajggffaaDoor.objs (De zero DAt cells3)
open Go.Proofs.YtbekfjjajggffaaDoor.oper (pops numb ly insBox pops_any pushes_yes pushes_no goes_any goesB)
open Go.Proofs.YtbekfjjajggffaaDoor.span (within_any)
set_option linter.unusedVariables false

/-- How many arguments the function of a number has; 0: there is no such one. -/
def argsAt (fs : List Fn) (a : Int) : Int := if 0 ≤ a ∧ a ≤ (fs.length : Int) - 1 then (fs.getD a.toNat Fn.zero).ar else 0

set_option maxRecDepth 100000 in
set_option maxHeartbeats 2000000 in
theorem args_any (W : World) (bw bd ba n : Nat) (C : Option Addr) (cf : Nat) (fs : List Fn) (vC : Value) (z : Z) (pl er a : Int) (h : Wk W bw bd ba n (.slice C fs.length cf) vC z pl er) (hF : FsAt W C fs) (hl : fs.length ≤ 16) :
    Calls Tryd.prog 88 #[.pointer (some ⟨bw, 0, none⟩), .int .i64 a] W fun e w' => e = .returned (.int .i64 (argsAt fs a)) ∧ W = w' := by
  obtain ⟨c0, -, -, -, -, -, -, -, -, -⟩ := h.cells
  have HWi := fun W => Lib.hid (within_any a 0 ((fs.length : Int) - 1) W)
  unfold argsAt
  by_cases hc : 0 ≤ a ∧ a ≤ (fs.length : Int) - 1
  · rw [if_pos hc]
    rw [decide_eq_true hc] at HWi
    obtain ⟨j, rfl⟩ : ∃ j : Nat, a = (j : Int) := ⟨a.toNat, by omega⟩
    rw [Int.toNat_natCast]
    have hj : j < fs.length := by omega
    obtain ⟨g, off, Aj, cj, rfl, hg, ⟨f0, _, _⟩, _⟩ := hF j hj
    generalize (fs.getD j Fn.zero).ar = r at *
    have h0 : (0 : Int) ≤ (j : Int) := by omega
    have h1 : (j : Int) < (fs.length : Int) := by omega
    clear hc h hF
    go_enter Tryd.func88, Tryd.ntmps88
    go_wp2_with fail
    refine (HWi _).out.mono ?_
    rintro e w1 ⟨rfl, rfl⟩
    go_wp2
    go_ret
    exact ⟨rfl, rfl⟩
  · rw [if_neg hc]
    rw [decide_eq_false hc] at HWi
    clear hc h hF
    go_enter Tryd.func88, Tryd.ntmps88
    go_wp2_with fail
    refine (HWi _).out.mono ?_
    rintro e w1 ⟨rfl, rfl⟩
    go_wp2
    go_ret
    exact ⟨rfl, rfl⟩

set_option maxRecDepth 100000 in
set_option maxHeartbeats 2000000 in
theorem blame_any (W : World) (bw bd ba n : Nat) (vF vC : Value) (z : Z) (pl er : Int) (a e : Nat) (h : Wk W bw bd ba n vF vC z pl er) :
    Calls Tryd.prog 64 #[.pointer (some ⟨bw, 0, none⟩), .int .i64 (a : Int), .int .i64 (e : Int)] W fun x w' => x = .returned (.tuple #[]) ∧ Wk w' bw bd ba n vF vC z (blameZ pl er a e).1 (blameZ pl er a e).2 ∧ Trn bw bd ba W w' := by
  obtain ⟨-, -, -, -, -, c5, c6, -, d5, d6⟩ := h.cells
  have HW := Lib.hid (h.wrong (a : Int) (e : Int))
  have HT := Lib.hid (((Trn.refl bw bd ba W).setCell (p := ⟨bw, 5, none⟩) (.inl rfl) (.int .i64 (a : Int))).setCell (p := ⟨bw, 6, none⟩) (.inl rfl) (.int .i64 (e : Int)))
  have HS := Lib.hid h
  unfold blameZ
  by_cases he : e = 0
  · subst he
    rw [if_neg (fun hh => hh.1 rfl), show ((0 : Nat) : Int) = 0 from rfl]
    clear h HW HT
    go_enter Tryd.func64, Tryd.ntmps64
    go_wp2
    go_end0
    exact ⟨rfl, HS.out, Trn.refl _ _ _ _⟩
  · have q0 : ((e : Int) != 0) = true := by simpa using he
    by_cases h0 : er = 0
    · rw [if_pos ⟨he, .inl h0⟩]
      have q1 : (er == 0) = true := by simpa using h0
      clear h he h0
      go_enter Tryd.func64, Tryd.ntmps64
      go_wp2
      go_end0
      exact ⟨rfl, HW.out, HT.out⟩
    · have q1 : (er == 0) = false := by simpa using h0
      by_cases hl : (a : Int) < pl
      · rw [if_pos ⟨he, .inr hl⟩]
        have q2 : decide ((a : Int) < pl) = true := decide_eq_true hl
        clear h he h0
        go_enter Tryd.func64, Tryd.ntmps64
        go_wp2
        go_end0
        exact ⟨rfl, HW.out, HT.out⟩
      · rw [if_neg (fun hh => by rcases hh.2 with h3 | h3; exact h0 h3; exact hl h3)]
        have q2 : decide ((a : Int) < pl) = false := decide_eq_false hl
        clear h he h0 HW HT
        go_enter Tryd.func64, Tryd.ntmps64
        go_wp2
        go_end0
        exact ⟨rfl, HS.out, Trn.refl _ _ _ _⟩
end Go.Proofs.YtbekfjjajggffaaDoor.pgm.dep
