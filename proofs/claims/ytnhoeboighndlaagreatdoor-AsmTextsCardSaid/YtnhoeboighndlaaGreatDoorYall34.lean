/-
  Texts of one claim in one file: GChkAll. Each has its own sentence, with its conditions.
-/
import Derived.Test.YtnhoeboighndlaaGreatDoorYall33
/-
  The program's own answer of what is wrong with functions, with waits, and with a whole program (typed over the code of 4b95722). The tables must lie where their initialisers lay them.
-/
namespace Go.Proofs.YtnhoeboighndlaaGreatDoor.pgm
open Go.RowKit Go.ChangeShapes
open Go.Proofs.YtnhoeboighndlaaGreatDoor.objs (De zero DAt cells3 chk chk_zero ChkPost)
open Go.Proofs.YtnhoeboighndlaaGreatDoor.need (WAt chkW ChkPost9)
open Go.Proofs.YtnhoeboighndlaaGreatDoor.span (within_any count_any cntC)
set_option linter.unusedVariables false

/-- What is wrong with functions. -/
def chkFs (l : List Fn) : Nat := if l.length = 0 then 2 else if 16 < l.length then 4 else firstE chkFn l
theorem chkFs_cnt {l : List Fn} (h : cntC l.length 16 ≠ 0) : chkFs l = cntC l.length 16 := by
  unfold cntC chkFs at *
  split
  · rfl
  · split
    · rfl
    · rename_i a b
      rw [if_neg a, if_neg b] at h
      exact absurd rfl h
theorem chkFs_all {l : List Fn} (h : cntC l.length 16 = 0) : chkFs l = firstE chkFn l ∧ l.length ≤ 16 := by
  unfold cntC chkFs at *
  split at h
  · cases h
  · split at h
    · cases h
    · rename_i a b
      rw [if_neg a, if_neg b]
      exact ⟨rfl, by omega⟩

set_option maxRecDepth 100000 in
set_option maxHeartbeats 8000000 in
theorem fns_any (A : Option Addr) (c : Nat) (l : List Fn) (w : World) (hA : FsAt w A l) (hw : Okp w) :
    Calls Tryz.prog 41 #[.slice A l.length c] w (NumPost (chkFs l) w) := by
  unfold NumPost
  have HCn := fun W => Lib.hid (count_any l.length 16 W)
  have HA := Lib.hid hA
  have HK := Lib.hid hw
  clear hA hw
  by_cases h0 : cntC l.length 16 = 0
  · rw [h0] at HCn
    obtain ⟨hv, hl16⟩ := chkFs_all h0
    generalize chkFs l = v at *
    have HV := Lib.hid hv
    have hl64 : l.length ≤ 9223372036854775807 := by omega
    have HL := Lib.hid hl16
    clear h0 hv hl16
    go_enter Tryz.func41, Tryz.ntmps41
    go_wp2_with fail
    refine (HCn _).out.mono ?_
    rintro e w1 ⟨rfl, rfl⟩
    go_wp2_with fail
    go_loopw [15] (fun i wr => ∃ j : Nat, j ≤ l.length ∧ i = .int .i64 (j : Int) ∧ Hid (v = firstE chkFn (l.drop j)) ∧ Hid (Below w.heap.size w wr)) (fun i _ => l.length - (intOf i).toNat)
    case atStart => exact ⟨0, Nat.zero_le _, rfl, Lib.hid (by simpa using HV.out), Lib.hid (Below.refl _ _)⟩
    case round =>
      obtain ⟨j, hj, rfl, HJ, HW⟩ := hrel
      have HD := Lib.hid (HA.out.next HW.out)
      by_cases hlt : j < l.length
      · have HNx := Lib.hid (firstE_drop (f := chkFn) Fn.zero hlt)
        obtain ⟨b, off, Aj, cj, rfl, hbl, ⟨d0, d1, d2⟩, hco⟩ := HD.out j hlt
        have hlt' : (j : Int) < (l.length : Int) := by omega
        have hj0 : (0 : Int) ≤ (j : Int) := by omega
        have hbx : Below wr.heap.size wr (wr.alloc (fnBox (l.getD j Fn.zero).ar (l.getD j Fn.zero).lo (.slice Aj (l.getD j Fn.zero).co.length cj))) := (Below.refl _ _).alloc (Nat.le_refl _) _
        have HO := Lib.hid (fn_any Aj cj (l.getD j Fn.zero).ar (l.getD j Fn.zero).lo (l.getD j Fn.zero).co _ (hco.next hbx) ((HK.out.next HW.out).next hbx))
        have HBx := Lib.hid (HW.out.trans (hbx.mono HW.out.size))
        unfold NumPost at HO
        unfold fnBox at HO HBx
        clear hbx hco
        rw [show (⟨(l.getD j Fn.zero).ar, (l.getD j Fn.zero).lo, (l.getD j Fn.zero).co⟩ : Fn) = l.getD j Fn.zero from rfl] at HO
        generalize chkFn (l.getD j Fn.zero) = q at *
        generalize l.getD j Fn.zero = t at *
        obtain ⟨tar, tlo, tco⟩ := t
        dsimp only at HO HBx d0 d1 d2
        generalize tco.length = m at *
        go_wp2_with fail
        refine HO.out.mono ?_
        rintro e w3 ⟨rfl, hb3⟩
        have HW3 := Lib.hid (HBx.out.trans (hb3.mono HBx.out.size))
        clear hb3 d0 d1 d2 HO HBx
        by_cases hq : q = 0
        · have HE : Hid (v = firstE chkFn (l.drop (j + 1))) := Lib.hid (by rw [HJ.out, HNx.out, if_neg (by simp [hq])])
          have hq' : ((q : Int) != 0) = false := by simp [hq]
          clear hq
          go_wp2
          go_roundw
          case rel => have h200 := HL.out; exact ⟨j + 1, by omega, by go_num, HE, HW3⟩
          case measure => have h200 := HL.out; simp [intOf]; omega
        · have HE : Hid (v = q) := Lib.hid (by rw [HJ.out, HNx.out, if_pos hq])
          have hq' : ((q : Int) != 0) = true := by simpa using hq
          clear hq
          go_wp2
          go_ret
          exact ⟨by rw [HE.out]; rfl, HW3.out⟩
      · have H1 : Hid (v = 0) := Lib.hid (by
          obtain rfl : j = l.length := by omega
          rw [HJ.out, List.drop_length]; rfl)
        have hge : decide ((j : Int) < (l.length : Int)) = false := by simp; omega
        go_wp2
        go_ret
        exact ⟨by rw [H1.out]; rfl, HW.out⟩
  · have HE := Lib.hid (chkFs_cnt h0)
    generalize chkFs l = v at *
    generalize cntC l.length 16 = q at *
    have hq' : ((q : Int) != 0) = true := by simpa using h0
    clear h0
    go_enter Tryz.func41, Tryz.ntmps41
    go_wp2_with fail
    refine (HCn _).out.mono ?_
    rintro e w1 ⟨rfl, rfl⟩
    go_wp2
    go_ret
    exact ⟨by rw [HE.out]; rfl, Below.refl _ _⟩

def progBox (x y z : Value) : Obj := .cells #[x, y, z] 26
/-- What is wrong with waits. -/
def chkWs (d : List De) (l : List (List (List De))) : Nat := if 32 < l.length then 4 else firstE (chkW d) l

set_option maxRecDepth 100000 in
set_option maxHeartbeats 8000000 in
theorem ws_any (A B C : Option Addr) (ca cb cc n : Nat) (d : List De) (l : List (List (List De))) (hd : d.length ≤ 64) (w : World) (hA : DAt w A d) (hB : WsAt w B l) (hw : Okp w) :
    Calls Tryz.prog 40 #[.agg #[.slice A d.length ca, .slice B l.length cb, .slice C n cc]] w (NumPost (chkWs d l) w) := by
  unfold NumPost
  obtain ⟨v, hv⟩ : ∃ v, v = chkWs d l := ⟨_, rfl⟩
  rw [← hv]
  unfold chkWs at hv
  have hnew := heap_alloc_new w (progBox (.slice A d.length ca) (.slice B l.length cb) (.slice C n cc))
  obtain ⟨c0, c1, c2, _, _, _⟩ := cells3 hnew
  have HB0 : Hid (Below w.heap.size w (w.alloc (progBox (.slice A d.length ca) (.slice B l.length cb) (.slice C n cc)))) := Lib.hid ((Below.refl _ w).alloc (Nat.le_refl _) _)
  have HA := Lib.hid hA
  have HBs := Lib.hid hB
  have HK := Lib.hid hw
  have HD := Lib.hid hd
  clear hA hB hw hd
  by_cases h32 : 32 < l.length
  · rw [if_pos h32] at hv
    have q5 : decide ((l.length : Int) > 32) = true := by simp; omega
    clear h32 hnew
    subst hv
    unfold progBox at HB0 c0 c1 c2
    go_enter Tryz.func40, Tryz.ntmps40
    go_wp2
    go_ret
    exact ⟨rfl, HB0.out⟩
  · rw [if_neg h32] at hv
    have q5 : decide ((l.length : Int) > 32) = false := by simp; omega
    have HV := Lib.hid hv
    have HL := Lib.hid h32
    have hl64 : l.length ≤ 9223372036854775807 := by omega
    have HX : ∀ W, Below (w.heap.size + 1) (w.alloc (progBox (.slice A d.length ca) (.slice B l.length cb) (.slice C n cc))) W → Hid (Below w.heap.size w W ∧ W.cell? ⟨w.heap.size, 0, none⟩ = some (.slice A d.length ca)) := fun W h => by
      have hblk := (h.block _ (Nat.lt_succ_self _)).trans (heap_alloc_new w _)
      refine Lib.hid ⟨HB0.out.trans (h.mono (Nat.le_succ _)), ?_⟩
      unfold World.cell?
      rw [hblk]
      rfl
    clear h32 hnew hv
    unfold progBox at HB0 c0 c1 c2 HX
    go_enter Tryz.func40, Tryz.ntmps40
    go_wp2_with fail
    clear c0 c1 c2
    go_loopw [13] (fun i wr => ∃ j : Nat, j ≤ l.length ∧ i = .int .i64 (j : Int) ∧ Hid (v = firstE (chkW d) (l.drop j)) ∧ Hid (Below (w.heap.size + 1) (w.alloc (.cells #[.slice A d.length ca, .slice B l.length cb, .slice C n cc] 26)) wr)) (fun i _ => l.length - (intOf i).toNat)
    case atStart => exact ⟨0, Nat.zero_le _, rfl, Lib.hid (by simpa using HV.out), Lib.hid (Below.refl _ _)⟩
    case round =>
      obtain ⟨j, hj, rfl, HJ, HW⟩ := hrel
      have c0 := (HX wr HW.out).out.2
      have HW0 := Lib.hid (HX wr HW.out).out.1
      by_cases hlt : j < l.length
      · have HNx := Lib.hid (firstE_drop (f := chkW d) [] hlt)
        obtain ⟨b, off, Aj, cj, rfl, hbl, d0, hwt⟩ := (HBs.out.next HW0.out) j hlt
        have hlt' : (j : Int) < (l.length : Int) := by omega
        have hj0 : (0 : Int) ≤ (j : Int) := by omega
        have HO := Lib.hid (Go.Proofs.YtnhoeboighndlaaGreatDoor.need.check_any A Aj ca cj d (l.getD j []) HD.out wr (HA.out.next HW0.out) hwt (HK.out.next HW0.out).need)
        unfold ChkPost9 at HO
        clear hwt
        generalize chkW d (l.getD j []) = q at *
        generalize (l.getD j []).length = m at *
        go_wp2_with fail
        refine HO.out.mono ?_
        rintro e w3 ⟨rfl, hb3⟩
        have HW3 := Lib.hid (HW.out.trans (hb3.mono (by have := HW.out.size; rw [World.size_alloc] at this; exact this)))
        have HB3 := Lib.hid (HW0.out.trans (hb3.mono HW0.out.size))
        clear hb3 d0 HO
        by_cases hq : q = 0
        · have HE : Hid (v = firstE (chkW d) (l.drop (j + 1))) := Lib.hid (by rw [HJ.out, HNx.out, if_neg (by simp [hq])])
          have hq' : ((q : Int) != 0) = false := by simp [hq]
          clear hq
          go_wp2
          go_roundw
          case rel => have h200 := HL.out; exact ⟨j + 1, by omega, by go_num, HE, HW3⟩
          case measure => have h200 := HL.out; simp [intOf]; omega
        · have HE : Hid (v = q) := Lib.hid (by rw [HJ.out, HNx.out, if_pos hq])
          have hq' : ((q : Int) != 0) = true := by simpa using hq
          clear hq
          go_wp2
          go_ret
          exact ⟨by rw [HE.out]; rfl, HB3.out⟩
      · have H1 : Hid (v = 0) := Lib.hid (by
          obtain rfl : j = l.length := by omega
          rw [HJ.out, List.drop_length]; rfl)
        have hge : decide ((j : Int) < (l.length : Int)) = false := by simp; omega
        go_wp2
        go_ret
        exact ⟨by rw [H1.out]; rfl, HW0.out⟩

theorem chkP_parts (p : Pg) : chkP p = if (chk p.ds).2 ≠ 0 then (chk p.ds).2 else if chkWs p.ds p.ws ≠ 0 then chkWs p.ds p.ws else chkFs p.fs := by
  unfold chkP chkWs chkFs
  split
  · rfl
  · split
    · rw [if_pos (by decide)]
    · rfl

set_option maxRecDepth 100000 in
set_option maxHeartbeats 8000000 in
theorem check_any (v : Value) (p : Pg) (hl : p.ds.length ≤ 9223372036854775807) (w : World) (hv : PAt w v p) (hw : Okp w) :
    Calls Tryz.prog 19 #[v] w (NumPost (chkP p) w) := by
  obtain ⟨A, B, C, ca, cb, cc, rfl, hA, hB, hC⟩ := hv
  unfold NumPost
  obtain ⟨q, hq⟩ : ∃ q, q = chkP p := ⟨_, rfl⟩
  rw [← hq]
  rw [chkP_parts] at hq
  obtain ⟨ds, ws, fs⟩ := p
  dsimp only at hq hl hA hB hC
  have hnew := heap_alloc_new w (progBox (.slice A ds.length ca) (.slice B ws.length cb) (.slice C fs.length cc))
  obtain ⟨c0, c1, c2, _, _, _⟩ := cells3 hnew
  have HB0 : Hid (Below w.heap.size w (w.alloc (progBox (.slice A ds.length ca) (.slice B ws.length cb) (.slice C fs.length cc)))) := Lib.hid ((Below.refl _ w).alloc (Nat.le_refl _) _)
  have HX : ∀ W, Below (w.heap.size + 1) (w.alloc (progBox (.slice A ds.length ca) (.slice B ws.length cb) (.slice C fs.length cc))) W → Hid (Below w.heap.size w W ∧ W.cell? ⟨w.heap.size, 0, none⟩ = some (.slice A ds.length ca) ∧ W.cell? ⟨w.heap.size, 1, none⟩ = some (.slice B ws.length cb) ∧ W.cell? ⟨w.heap.size, 2, none⟩ = some (.slice C fs.length cc)) := fun W h => by
    have hblk := (h.block _ (Nat.lt_succ_self _)).trans (heap_alloc_new w _)
    refine Lib.hid ⟨HB0.out.trans (h.mono (Nat.le_succ _)), ?_, ?_, ?_⟩
    all_goals (unfold World.cell?; rw [hblk]; rfl)
  have HDc := Lib.hid (Go.Proofs.YtnhoeboighndlaaGreatDoor.objs.check_any A ca ds hl _ (hA.next HB0.out) (hw.next HB0.out).decl)
  unfold ChkPost at HDc
  have HWs := fun (hd : ds.length ≤ 64) W (hb : Below w.heap.size w W) => Lib.hid (ws_any A B C ca cb cc fs.length ds ws hd W (hA.next hb) (hB.next hb) (hw.next hb))
  have HFs := fun W (hb : Below w.heap.size w W) => Lib.hid (fns_any C cc fs W (hC.next hb) (hw.next hb))
  unfold NumPost at HWs HFs
  have HD32 : Hid ((chk ds).2 = 0 → ds.length ≤ 64) := Lib.hid (fun h => by have := (chk_zero h).1; omega)
  have HQ := Lib.hid hq
  clear hq hA hB hC hw hnew hl
  unfold progBox at HB0 c0 c1 c2 HX HDc
  generalize chk ds = cd at *
  obtain ⟨ci, ce⟩ := cd
  dsimp only at HDc HQ HD32
  generalize chkWs ds ws = cw at *
  generalize chkFs fs = cf at *
  go_enter Tryz.func19, Tryz.ntmps19
  go_wp2_with fail
  refine HDc.out.mono ?_
  rintro e w1 ⟨rfl, hb1⟩
  have HB1 := Lib.hid (show Below (w.heap.size + 1) _ w1 from hb1.mono (by rw [World.size_alloc]; exact Nat.le_refl _))
  clear hb1 HDc c0 c1 c2
  obtain ⟨hbw1, c0, c1, c2⟩ := (HX w1 HB1.out).out
  have HW1 := Lib.hid hbw1
  clear hbw1
  by_cases he : ce = 0
  · have he' : ((ce : Int) != 0) = false := by simp [he]
    have HO := HWs (HD32.out he) w1 HW1.out
    have HQ2 : Hid (q = if cw ≠ 0 then cw else cf) := Lib.hid (by rw [HQ.out, if_neg (by simp [he])])
    clear he HQ HWs
    go_wp2_with fail
    refine HO.out.mono ?_
    rintro e w2 ⟨rfl, hb2⟩
    have HB2 := Lib.hid (HB1.out.trans (hb2.mono (by have := HB1.out.size; rw [World.size_alloc] at this; exact this)))
    clear hb2 HO c0 c1 c2 HB1 HW1
    obtain ⟨hbw2, c0, c1, c2⟩ := (HX w2 HB2.out).out
    have HW2 := Lib.hid hbw2
    clear hbw2
    by_cases hw0 : cw = 0
    · have hw' : ((cw : Int) != 0) = false := by simp [hw0]
      have HO := HFs w2 HW2.out
      have HQ3 : Hid (q = cf) := Lib.hid (by rw [HQ2.out, if_neg (by simp [hw0])])
      clear hw0 HQ2 HFs
      go_wp2_with fail
      refine HO.out.mono ?_
      rintro e w3 ⟨rfl, hb3⟩
      have HW3 := Lib.hid (HW2.out.trans (hb3.mono HW2.out.size))
      clear hb3 HO c0 c1 c2
      go_wp2
      go_ret
      exact ⟨by rw [HQ3.out]; rfl, HW3.out⟩
    · have hw' : ((cw : Int) != 0) = true := by simpa using hw0
      have HQ3 : Hid (q = cw) := Lib.hid (by rw [HQ2.out, if_pos hw0])
      clear hw0 HQ2 HFs
      go_wp2
      go_ret
      exact ⟨by rw [HQ3.out]; rfl, HW2.out⟩
  · have he' : ((ce : Int) != 0) = true := by simpa using he
    have HQ3 : Hid (q = ce) := Lib.hid (by rw [HQ.out, if_pos he])
    clear he HQ HWs HFs
    go_wp2
    go_ret
    exact ⟨by rw [HQ3.out]; rfl, HW1.out⟩
end Go.Proofs.YtnhoeboighndlaaGreatDoor.pgm
