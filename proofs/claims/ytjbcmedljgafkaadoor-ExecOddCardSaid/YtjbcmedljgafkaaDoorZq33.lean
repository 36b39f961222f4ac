/-
  Texts of one claim in one file: GRefCheck. Each has its own sentence, with its conditions.
-/
import Derived.Test.YtjbcmedljgafkaaDoorZq30
import Derived.Test.YtjbcmedljgafkaaDoorZq32
/-
  The document's own answer of what is wrong with a program. No condition.
-/

namespace Go.Proofs.YtjbcmedljgafkaaDoor.pgm
open Go.RowKit Go.ChangeShapes
open Go.Proofs.YtjbcmedljgafkaaDoor.objs (De zero DAt)
open Go.Proofs.YtjbcmedljgafkaaDoor.need (WAt WG chkW refCheck9_any ChkPost9)
set_option linter.unusedVariables false

/-- A list of objects that came in, of any length. -/
theorem refDecl_any (A : Option Addr) (n c : Nat) (l : List De) (hn : l.length = min n 40) (w : World) (hA : DAt w A l) :
    Calls Tryd.prog 71 #[.slice A n c] w (Go.Proofs.YtjbcmedljgafkaaDoor.objs.ChkPost (Go.Proofs.YtjbcmedljgafkaaDoor.objs.chk l) w) := by
  by_cases h : 32 < n
  · rw [Go.Proofs.YtjbcmedljgafkaaDoor.objs.chk_long (by omega)]
    exact Go.Proofs.YtjbcmedljgafkaaDoor.objs.refCheck_long A c n h w
  · obtain rfl : n = l.length := by omega
    exact Go.Proofs.YtjbcmedljgafkaaDoor.objs.refCheck_any A c l (by omega) w hA
theorem chkP_ds {p : Pg} (h : (Go.Proofs.YtjbcmedljgafkaaDoor.objs.chk p.ds).2 ≠ 0) : chkP p = (Go.Proofs.YtjbcmedljgafkaaDoor.objs.chk p.ds).2 := by unfold chkP; rw [if_pos h]
theorem chkP_many {p : Pg} (h : (Go.Proofs.YtjbcmedljgafkaaDoor.objs.chk p.ds).2 = 0) (h2 : 32 < p.ws.length) : chkP p = 4 := by unfold chkP; rw [if_neg (by omega), if_pos h2]
theorem chkP_ws {p : Pg} (h : (Go.Proofs.YtjbcmedljgafkaaDoor.objs.chk p.ds).2 = 0) (h2 : ¬ 32 < p.ws.length) (h3 : firstE (chkW p.ds) p.ws ≠ 0) : chkP p = firstE (chkW p.ds) p.ws := by unfold chkP; rw [if_neg (by omega), if_neg h2, if_pos h3]
theorem chkP_fs {p : Pg} (h : (Go.Proofs.YtjbcmedljgafkaaDoor.objs.chk p.ds).2 = 0) (h2 : ¬ 32 < p.ws.length) (h3 : firstE (chkW p.ds) p.ws = 0) : chkP p = if p.fs.length = 0 then 2 else if 16 < p.fs.length then 4 else firstE chkFn p.fs := by unfold chkP; rw [if_neg (by omega), if_neg h2, if_neg (by omega)]

set_option maxRecDepth 100000 in
set_option maxHeartbeats 16000000 in
theorem refCheck10_any (v : Value) (p : Pg) (w : World) (hv : PH w v p) :
    Calls Tryd.prog 54 #[v] w (NumPost (chkP p) w) := by
  obtain ⟨A, B, C, na, nb, nc, ca, cb, cc, rfl, hl, hA, hB, hC, _, _, _⟩ := hv
  unfold NumPost
  obtain ⟨q, hq⟩ : ∃ q, q = chkP p := ⟨_, rfl⟩
  rw [← hq]
  have HB0 : Hid (Below w.heap.size w (w.alloc (.cells #[.slice A na ca, .slice B nb cb, .slice C nc cc] 26))) := Lib.hid ((Below.refl _ w).alloc (Nat.le_refl _) _)
  have HBx : ∀ W, Below (w.heap.size + 1) (w.alloc (.cells #[.slice A na ca, .slice B nb cb, .slice C nc cc] 26)) W → Hid (Below w.heap.size w W ∧ W.heap[w.heap.size]? = some (.cells #[.slice A na ca, .slice B nb cb, .slice C nc cc] 26)) := fun W h => Lib.hid ⟨HB0.out.trans (h.mono (Nat.le_succ _)), (h.block _ (Nat.lt_succ_self _)).trans (heap_alloc_new w _)⟩
  have HC0 := Lib.hid (refDecl_any A na ca p.ds hl _ (hA.next HB0.out))
  unfold Go.Proofs.YtjbcmedljgafkaaDoor.objs.ChkPost at HC0
  have HQ := Lib.hid hq
  have HA := Lib.hid hA
  have HWs := Lib.hid hB
  have HFs := Lib.hid hC
  have HL := Lib.hid hl
  clear hq hA hB hC hl
  generalize hcd : Go.Proofs.YtjbcmedljgafkaaDoor.objs.chk p.ds = cd at HC0
  obtain ⟨cd0, cd1⟩ := cd
  dsimp only at HC0
  have HD := Lib.hid hcd
  clear hcd
  go_enter Tryd.func54, Tryd.ntmps54
  go_wp2_with fail
  refine HC0.out.mono ?_
  rintro e w1 ⟨rfl, hb1⟩
  have HB1 := Lib.hid (show Below (w.heap.size + 1) _ w1 from hb1.mono (by rw [World.size_alloc]; exact Nat.le_refl _))
  clear hb1 HC0
  by_cases hz : cd1 = 0
  · have hz' : ((cd1 : Int) != 0) = false := by simp [hz]
    have HZ : Hid ((Go.Proofs.YtjbcmedljgafkaaDoor.objs.chk p.ds).2 = 0) := Lib.hid (by rw [HD.out]; exact hz)
    clear hz
    obtain ⟨hbw1, hblk⟩ := (HBx w1 HB1.out).out
    have e1 : w1.cell? ⟨w.heap.size, 1, none⟩ = some (.slice B nb cb) := by unfold World.cell?; rw [hblk]; rfl
    clear hblk
    have HW1 := Lib.hid hbw1
    clear hbw1
    obtain rfl : na = p.ds.length := by
      have h1 := (Go.Proofs.YtjbcmedljgafkaaDoor.objs.chk_zero HZ.out).1
      have h2 := HL.out
      omega
    have hdl : p.ds.length ≤ 9223372036854775807 := by omega
    have HBl := Lib.hid HWs.out.1
    have HCl := Lib.hid HFs.out.1
    by_cases hm : 32 < nb
    · have hm' : decide ((nb : Int) > 32) = true := by simp; omega
      have HR : Hid (q = 4) := Lib.hid (by rw [HQ.out, chkP_many HZ.out (by rw [HBl.out]; omega)])
      clear hm
      go_wp2
      go_ret
      exact ⟨by rw [HR.out]; rfl, HW1.out⟩
    · have hm' : decide ((nb : Int) > 32) = false := by simp; omega
      have HM : Hid (¬ 32 < p.ws.length) := Lib.hid (by rw [HBl.out]; omega)
      have HNb : Hid (nb = p.ws.length) := Lib.hid (by have := HBl.out; omega)
      clear hm
      go_wp2_with fail
      go_loopw [5] (fun i wr => ∃ j : Nat, j ≤ nb ∧ i = .int .i64 (j : Int) ∧ Hid (firstE (chkW p.ds) p.ws = firstE (chkW p.ds) (p.ws.drop j)) ∧ Hid (Below (w.heap.size + 1) (w.alloc (.cells #[.slice A p.ds.length ca, .slice B nb cb, .slice C nc cc] 26)) wr)) (fun i _ => nb - (intOf i).toNat)
      case atStart => exact ⟨0, Nat.zero_le _, rfl, Lib.hid (by simp), HB1⟩
      case round =>
        obtain ⟨j, hj, rfl, HJ, HS⟩ := hrel
        obtain ⟨hbwr, hblk⟩ := (HBx wr HS.out).out
        have x0 : wr.cell? ⟨w.heap.size, 0, none⟩ = some (.slice A p.ds.length ca) := by unfold World.cell?; rw [hblk]; rfl
        have x1 : wr.cell? ⟨w.heap.size, 1, none⟩ = some (.slice B nb cb) := by unfold World.cell?; rw [hblk]; rfl
        have x2 : wr.cell? ⟨w.heap.size, 2, none⟩ = some (.slice C nc cc) := by unfold World.cell?; rw [hblk]; rfl
        have HWr := Lib.hid hbwr
        clear hblk hbwr e1
        by_cases hlt : j < nb
        · have hjl : j < p.ws.length := by rw [← HNb.out]; exact hlt
          have HNx := Lib.hid (firstE_drop (f := chkW p.ds) [] hjl)
          obtain ⟨b, off, Aj, nj, cj, rfl, hbl, hc, hWG, hn1, hn2, _⟩ := (HWs.out.next HWr.out).2 j hjl
          have hlt' : (j : Int) < (nb : Int) := by omega
          have hj0 : (0 : Int) ≤ (j : Int) := by omega
          have HO := fun W (hW : Below wr.heap.size wr W) => Lib.hid (refCheck9_any A Aj ca nj cj p.ds (p.ws.getD j []) hdl W (HA.out.next (HWr.out.trans (hW.mono HWr.out.size))) (hWG.next hW))
          unfold ChkPost9 at HO
          clear hWG hjl
          generalize chkW p.ds (p.ws.getD j []) = y at *
          have HN3 : ∀ w3, Below wr.heap.size wr w3 → Hid (Below (w.heap.size + 1) (w.alloc (.cells #[.slice A p.ds.length ca, .slice (some ⟨b, off, none⟩) nb cb, .slice C nc cc] 26)) w3 ∧ Below w.heap.size w w3) := fun w3 hb3 => Lib.hid ⟨HS.out.trans (hb3.mono (by have := HS.out.size; rw [World.size_alloc] at this; exact this)), HWr.out.trans (hb3.mono HWr.out.size)⟩
          by_cases hy : y = 0
          · have HE : Hid (firstE (chkW p.ds) p.ws = firstE (chkW p.ds) (p.ws.drop (j + 1))) := Lib.hid (by rw [HJ.out, HNx.out, if_neg (by simp [hy])])
            have hy' : ((y : Int) != 0) = false := by simp [hy]
            clear hy
            go_wp2_with fail
            go_region_with (go_at_call 72; refine (HO _ ?_).out.mono ?_; (exact (Below.refl wr.heap.size wr).drew); rintro e w3 ⟨rfl, hb3⟩; have hs3 := HN3 w3 ((Below.refl wr.heap.size wr).drew.trans hb3))
            all_goals
              clear hb3
              go_wp2
              go_roundw
              case rel => exact ⟨j + 1, by omega, by go_num, HE, Lib.hid hs3.out.1⟩
              case measure => simp [intOf]; omega
          · have HE : Hid (q = y) := Lib.hid (by
              have h1 : firstE (chkW p.ds) p.ws = y := by rw [HJ.out, HNx.out, if_pos hy]
              rw [HQ.out, chkP_ws HZ.out HM.out (by rw [h1]; exact hy), h1])
            have hy' : ((y : Int) != 0) = true := by simpa using hy
            clear hy
            go_wp2_with fail
            go_region_with (go_at_call 72; refine (HO _ ?_).out.mono ?_; (exact (Below.refl wr.heap.size wr).drew); rintro e w3 ⟨rfl, hb3⟩; have hs3 := HN3 w3 ((Below.refl wr.heap.size wr).drew.trans hb3))
            all_goals
              clear hb3
              go_wp2
              go_ret
              exact ⟨by rw [HE.out]; rfl, hs3.out.2⟩
        · have HF0 : Hid (q = if p.fs.length = 0 then 2 else if 16 < p.fs.length then 4 else firstE chkFn p.fs) := Lib.hid (by
            have h1 : firstE (chkW p.ds) p.ws = 0 := by
              obtain rfl : j = nb := by omega
              rw [HJ.out, HNb.out, List.drop_length]; rfl
            rw [HQ.out, chkP_fs HZ.out HM.out h1])
          have hge : decide ((j : Int) < (nb : Int)) = false := by simp; omega
          clear HJ
          by_cases hc0 : nc = 0
          · subst hc0
            have HR : Hid (q = 2) := Lib.hid (by rw [HF0.out, if_pos (by have := HCl.out; omega)])
            go_wp2
            go_ret
            exact ⟨by rw [HR.out]; rfl, HWr.out⟩
          · have hc0' : ((nc : Int) == 0) = false := by simpa using hc0
            by_cases hc16 : 16 < nc
            · have hc' : decide ((nc : Int) > 16) = true := by simp; omega
              have HR : Hid (q = 4) := Lib.hid (by rw [HF0.out, if_neg (by have := HCl.out; omega), if_pos (by have := HCl.out; omega)])
              clear hc0 hc16
              go_wp2
              go_ret
              exact ⟨by rw [HR.out]; rfl, HWr.out⟩
            · have hc' : decide ((nc : Int) > 16) = false := by simp; omega
              have HNc : Hid (nc = p.fs.length) := Lib.hid (by have := HCl.out; omega)
              have HR : Hid (q = firstE chkFn p.fs) := Lib.hid (by rw [HF0.out, if_neg (by have := HCl.out; omega), if_neg (by have := HCl.out; omega)])
              clear hc0 hc16 HF0
              go_wp2_with fail
              go_loopw [7] (fun i wr => ∃ j : Nat, j ≤ nc ∧ i = .int .i64 (j : Int) ∧ Hid (q = firstE chkFn (p.fs.drop j)) ∧ Hid (Below (w.heap.size + 1) (w.alloc (.cells #[.slice A p.ds.length ca, .slice B nb cb, .slice C nc cc] 26)) wr)) (fun i _ => nc - (intOf i).toNat)
              case atStart => exact ⟨0, Nat.zero_le _, rfl, Lib.hid (by rw [List.drop_zero]; exact HR.out), HS⟩
              case round =>
                obtain ⟨j, hj, rfl, HJ, HS⟩ := hrel
                clear x0 x1 x2 HWr
                obtain ⟨hbwr, hblk⟩ := (HBx _ HS.out).out
                have x2 : wr.cell? ⟨w.heap.size, 2, none⟩ = some (.slice C nc cc) := by unfold World.cell?; rw [hblk]; rfl
                have HWr := Lib.hid hbwr
                clear hblk hbwr
                by_cases hlt : j < nc
                · have hjl : j < p.fs.length := by rw [← HNc.out]; exact hlt
                  have HNx := Lib.hid (firstE_drop (f := chkFn) Fn.zero hjl)
                  obtain ⟨b, off, Aj, nj, cj, rfl, hbl, ⟨c0, c1, c2⟩, hD, hco, hn1, hn2, _⟩ := (HFs.out.next HWr.out).2 j hjl
                  have hlt' : (j : Int) < (nc : Int) := by omega
                  have hj0 : (0 : Int) ≤ (j : Int) := by omega
                  clear hjl
                  generalize p.fs.getD j Fn.zero = f at *
                  have HO := Lib.hid (refFn_any Aj nj cj f.ar f.lo f.co hco wr hD)
                  have hff : (⟨f.ar, f.lo, f.co⟩ : Fn) = f := rfl
                  unfold NumPost at HO
                  rw [hff] at HO
                  clear hff hD hco
                  generalize chkFn f = y at *
                  obtain ⟨far, flo, fco⟩ := f
                  dsimp only at c0 c1 c2 HO
                  have HN3 : ∀ w3, Below wr.heap.size wr w3 → Hid (Below (w.heap.size + 1) (w.alloc (.cells #[.slice A p.ds.length ca, .slice B nb cb, .slice (some ⟨b, off, none⟩) nc cc] 26)) w3 ∧ Below w.heap.size w w3) := fun w3 hb3 => Lib.hid ⟨HS.out.trans (hb3.mono (by have := HS.out.size; rw [World.size_alloc] at this; exact this)), HWr.out.trans (hb3.mono HWr.out.size)⟩
                  go_wp2_with fail
                  refine HO.out.mono ?_
                  rintro e w3 ⟨rfl, hb3⟩
                  have hs3 := HN3 w3 hb3
                  clear hb3 c0 c1 c2 HO x2
                  by_cases hy : y = 0
                  · have HE : Hid (q = firstE chkFn (p.fs.drop (j + 1))) := Lib.hid (by rw [HJ.out, HNx.out, if_neg (by simp [hy])])
                    have hy' : ((y : Int) != 0) = false := by simp [hy]
                    clear hy
                    go_wp2
                    go_roundw
                    case rel => exact ⟨j + 1, by omega, by go_num, HE, Lib.hid hs3.out.1⟩
                    case measure => simp [intOf]; omega
                  · have HE : Hid (q = y) := Lib.hid (by rw [HJ.out, HNx.out, if_pos hy])
                    have hy' : ((y : Int) != 0) = true := by simpa using hy
                    clear hy
                    go_wp2
                    go_ret
                    exact ⟨by rw [HE.out]; rfl, hs3.out.2⟩
                · have H1 : Hid (q = 0) := Lib.hid (by
                    obtain rfl : j = nc := by omega
                    rw [HJ.out, HNc.out, List.drop_length]; rfl)
                  have hge : decide ((j : Int) < (nc : Int)) = false := by simp; omega
                  go_wp2
                  go_ret
                  exact ⟨by rw [H1.out]; rfl, HWr.out⟩
  · have hz' : ((cd1 : Int) != 0) = true := by simpa using hz
    have HR : Hid (q = cd1) := Lib.hid (by rw [HQ.out, chkP_ds (by rw [HD.out]; exact hz), HD.out])
    clear hz
    go_wp2
    go_ret
    exact ⟨by rw [HR.out]; rfl, (HBx w1 HB1.out).out.1⟩
end Go.Proofs.YtjbcmedljgafkaaDoor.pgm
