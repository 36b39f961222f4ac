/-
  Texts of one claim in one file: YRefText. Each has its own sentence, with its conditions.
-/
import Derived.Test.YtnhoeboighndlaaGreatDoorYall21
import Derived.Test.YtnhoeboighndlaaGreatDoorYall22
import Derived.Test.YtnhoeboighndlaaGreatDoorYall15
import Derived.Test.YtnhoeboighndlaaGreatDoorYall24
/-
  The document's own text of a program. Condition: a program that may be.
-/
namespace Go.Proofs.YtnhoeboighndlaaGreatDoor.pgm.asm
open Go.RowKit Go.ChangeShapes
open Go.Proofs.YtnhoeboighndlaaGreatDoor.pgm
open Go.Proofs.YtnhoeboighndlaaGreatDoor.octet (mk_append size_mk)
open Go.Proofs.YtnhoeboighndlaaGreatDoor.objs (De zero DAt)
open Go.Proofs.YtnhoeboighndlaaGreatDoor.need (WAt intT textW refText9_any refInt9_any chkW_zero)
set_option linter.unusedVariables false

set_option maxRecDepth 100000 in
set_option maxHeartbeats 16000000 in
theorem refText13_any (v : Value) (p : Pg) (hz : chkP p = 0) (w : World) (hv : PAt w v p) :
    Calls Tryz.prog 11 #[v] w fun e w' => e = .returned (.string ⟨(textP p).toArray⟩) ∧ Below w.heap.size w w' := by
  obtain ⟨A, B, C, ca, cb, cc, rfl, hA, hB, hC⟩ := hv
  have HS := says_all hz
  obtain ⟨g1, g2, g3, g4, g5, g6⟩ := chkP_zero hz
  have g0 := (Go.Proofs.YtnhoeboighndlaaGreatDoor.objs.chk_zero g1).1
  have HTp := Lib.hid (textP_pieces p)
  have HSo : Hid (∀ d ∈ p.ds, SaysO d) := Lib.hid fun d hd => HS (.o d) (by unfold itemsP; exact List.mem_append.2 (Or.inl (List.mem_map.2 ⟨d, hd, rfl⟩)))
  have HSw : Hid (∀ x ∈ p.ws, x.length ≤ 4 ∧ (∀ y ∈ x, y.length ≤ 4 ∧ ∀ t ∈ y, Go.Proofs.YtnhoeboighndlaaGreatDoor.need.Small t) ∧ SaysW x) := Lib.hid fun x hx => by
    obtain ⟨h1, h2, h3⟩ := chkW_zero (g3 x hx)
    exact ⟨h2, fun y hy => ⟨(h3 y hy).2.1, fun t ht => Go.Proofs.YtnhoeboighndlaaGreatDoor.need.small_of g1 ((h3 y hy).2.2 t ht)⟩, HS (.w x) (by unfold itemsP; exact List.mem_append.2 (Or.inr (List.mem_append.2 (Or.inl (List.mem_map.2 ⟨x, hx, rfl⟩)))))⟩
  have HSf : Hid (∀ f ∈ p.fs, f.co.length ≤ 200 ∧ Sm f.ar ∧ Sm f.lo ∧ ∀ x ∈ f.co, Says x) := Lib.hid fun f hf => by
    obtain ⟨h1, h2, h3, h4⟩ := chkFn_zero (g6 f hf)
    exact ⟨h3, by unfold Sm; omega, by unfold Sm; omega, fun x hx => says_ins (h4 x hx)⟩
  obtain ⟨ds, ws, fs⟩ := p
  dsimp only at hA hB hC g0 g1 g2 g3 g4 g5 g6 HTp HSo HSw HSf
  obtain ⟨enc, henc⟩ : ∃ enc, enc = textP ⟨ds, ws, fs⟩ := ⟨_, rfl⟩
  rw [← henc] at HTp ⊢
  have HLo : Hid (∀ j, j ≤ ds.length → (firsts Item.o ds j).length ≤ 60 * j) := Lib.hid (firsts_le fun d hd => by
    have := obj_le (HSo.out d hd)
    have e : wO.length = 7 := rfl
    simp only [itemL, List.length_append]
    omega)
  have HLw : Hid (∀ j, j ≤ ws.length → (firsts Item.w ws j).length ≤ 860 * j) := Lib.hid (firsts_le fun x hx => by
    obtain ⟨h1, h2, h3⟩ := HSw.out x hx
    have := waysL_le x (fun y hy => ⟨(h2 y hy).1, (h3.2 y hy).2⟩)
    have e : wW.length = 5 := rfl
    simp only [itemL, List.length_append]
    omega)
  have HLf : Hid (∀ j, j ≤ fs.length → (funcsT fs j).length ≤ 11500 * j) := Lib.hid (funcsT_le HSf.out)
  have HB0 : Hid (Below w.heap.size w (w.alloc (.cells #[.slice A ds.length ca, .slice B ws.length cb, .slice C fs.length cc] 26))) := Lib.hid ((Below.refl _ w).alloc (Nat.le_refl _) _)
  have HBx : ∀ W, Below (w.heap.size + 1) (w.alloc (.cells #[.slice A ds.length ca, .slice B ws.length cb, .slice C fs.length cc] 26)) W → Hid (Below w.heap.size w W ∧ W.cell? ⟨w.heap.size, 0, none⟩ = some (.slice A ds.length ca) ∧ W.cell? ⟨w.heap.size, 1, none⟩ = some (.slice B ws.length cb) ∧ W.cell? ⟨w.heap.size, 2, none⟩ = some (.slice C fs.length cc)) := fun W h => by
    have hblk := (h.block _ (Nat.lt_succ_self _)).trans (heap_alloc_new w _)
    refine Lib.hid ⟨HB0.out.trans (h.mono (Nat.le_succ _)), ?_, ?_, ?_⟩
    all_goals (unfold World.cell?; rw [hblk]; rfl)
  have HDs := Lib.hid hA
  have HWs := Lib.hid hB
  have HFs := Lib.hid hC
  have hz0 : (w.alloc (.cells #[.slice A ds.length ca, .slice B ws.length cb, .slice C fs.length cc] 26)).heap.size = w.heap.size + 1 := World.size_alloc w _
  have HR0 := Lib.hid (Below.refl (w.heap.size + 1) (w.alloc (.cells #[.slice A ds.length ca, .slice B ws.length cb, .slice C fs.length cc] 26)))
  clear hA hB hC hz g1 g3 g6 henc HS HB0
  go_enter Tryz.func11, Tryz.ntmps11
  go_wp2_with fail
  generalize w.alloc (.cells #[.slice A ds.length ca, .slice B ws.length cb, .slice C fs.length cc] 26) = W0 at *
  go_loopw [3, 4] (fun t i wr => ∃ j : Nat, j ≤ ds.length ∧ i = .int .i64 (j : Int) ∧ t = .string ⟨(firsts Item.o ds j).toArray⟩ ∧ Hid (Below (w.heap.size + 1) W0 wr)) (fun _ i _ => ds.length - (intOf i).toNat)
  case atStart => exact ⟨0, Nat.zero_le _, rfl, by rw [firsts_zero], HR0⟩
  case round =>
    obtain ⟨j, hj, rfl, rfl, HB⟩ := hrel
    obtain ⟨hbw, x0, x1, x2⟩ := (HBx _ HB.out).out
    have HBw := Lib.hid hbw
    clear hbw
    by_cases hlt : j < ds.length
    · obtain ⟨b, off, rfl, hbl, c0, c1, c2⟩ := (HDs.out.next HBw.out) j hlt
      have hlt' : (j : Int) < (ds.length : Int) := by omega
      have hj0 : (0 : Int) ≤ (j : Int) := by omega
      obtain ⟨s1, s2, s3, _⟩ := HSo.out _ (getD_in (d := zero) hlt)
      have HO := Lib.hid (refObject13_any _ _ _ s1 s2 s3 wr)
      have HE : Hid (firsts Item.o ds (j + 1) = firsts Item.o ds j ++ objL (ds.getD j zero).1 (ds.getD j zero).2.1 (ds.getD j zero).2.2 ++ [10]) := Lib.hid (firsts_next (d := zero) hlt)
      have hpre := HLo.out j hj
      have hx : (objL (ds.getD j zero).1 (ds.getD j zero).2.1 (ds.getD j zero).2.2).length ≤ 60 := by
        have := obj_le (HSo.out _ (getD_in (d := zero) hlt))
        have e : wO.length = 7 := rfl
        unfold objL
        rw [List.length_append]
        have e2 : (((ds.getD j zero).1, (ds.getD j zero).2.1, (ds.getD j zero).2.2) : De) = ds.getD j zero := rfl
        rw [e2]
        omega
      generalize firsts Item.o ds j = pre at *
      generalize ds.getD j zero = d at *
      obtain ⟨dk, da, db⟩ := d
      dsimp only at HO HE hx c0 c1 c2
      generalize objL dk da db = ob at *
      have z1 := size_mk pre
      have z2 := size_mk ob
      have z3 : (ByteArray.mk #[10]).size = 1 := rfl
      have z4 : (ByteArray.mk pre.toArray ++ ByteArray.mk ob.toArray).size = pre.length + ob.length := by rw [mk_append, size_mk, List.length_append]
      clear s1 s2 s3 x1 x2
      go_wp2_with fail
      refine HO.out.mono ?_
      rintro e w3 ⟨rfl, hb3⟩
      have HB3 := Lib.hid (HB.out.trans (hb3.mono (by have := HB.out.size; omega)))
      clear hb3 HO c0 c1 c2 x0
      go_wp2
      go_roundw
      case rel => exact ⟨j + 1, by omega, by go_num, by rw [HE.out, ← mk_append, ← mk_append], HB3⟩
      case measure => simp [intOf]; omega
    · obtain rfl : j = ds.length := by omega
      have hge : decide ((ds.length : Int) < (ds.length : Int)) = false := by simp
      have hp1 := HLo.out ds.length (Nat.le_refl _)
      have hp1 : (firsts Item.o ds ds.length).length ≤ 2000 := by omega
      generalize firsts Item.o ds ds.length = p1 at *
      clear HLo HSo HDs x1 x2
      go_wp2_with fail
      go_loopw [3, 5] (fun t i wr => ∃ j : Nat, j ≤ ws.length ∧ i = .int .i64 (j : Int) ∧ t = .string ⟨(p1 ++ firsts Item.w ws j).toArray⟩ ∧ Hid (Below (w.heap.size + 1) W0 wr)) (fun _ i _ => ws.length - (intOf i).toNat)
      case atStart => exact ⟨0, Nat.zero_le _, rfl, by rw [firsts_zero, List.append_nil], HB⟩
      case round =>
        clear HB HBw x0
        obtain ⟨j, hj, rfl, rfl, HB⟩ := hrel
        obtain ⟨hbw, x0, x1, x2⟩ := (HBx _ HB.out).out
        have HBw := Lib.hid hbw
        clear hbw x0
        by_cases hlt : j < ws.length
        · obtain ⟨b, off, Aj, cj, rfl, hbl, hc, hWt⟩ := (HWs.out.next HBw.out) j hlt
          have hlt' : (j : Int) < (ws.length : Int) := by omega
          have hj0 : (0 : Int) ≤ (j : Int) := by omega
          obtain ⟨s1, s2, s3⟩ := HSw.out _ (getD_in (d := []) hlt)
          have HO := Lib.hid (refText9_any Aj cj (ws.getD j []) (by omega) (fun x hx => ⟨by have := (s2 x hx).1; omega, (s2 x hx).2⟩) wr hWt)
          have HE : Hid (p1 ++ firsts Item.w ws (j + 1) = (p1 ++ firsts Item.w ws j) ++ wW ++ textW (ws.getD j []) ++ [10]) := Lib.hid (by
            rw [firsts_next (d := []) hlt, textW_ways]
            simp only [itemL, List.append_assoc])
          have hpre : (p1 ++ firsts Item.w ws j).length ≤ 30000 := by
            have h2 := HLw.out j hj
            rw [List.length_append]
            omega
          have hx : (textW (ws.getD j [])).length ≤ 900 := by
            rw [textW_ways]
            have := waysL_le (ws.getD j []) (fun y hy => ⟨(s2 y hy).1, (s3.2 y hy).2⟩)
            omega
          clear s1 s2 s3 hWt
          generalize p1 ++ firsts Item.w ws j = pre at *
          generalize ws.getD j [] = wj at *
          generalize textW wj = ej at *
          have z1 := size_mk pre
          have z2 := size_mk ej
          have z3 : (ByteArray.mk #[10]).size = 1 := rfl
          have z4 : (ByteArray.mk pre.toArray ++ ByteArray.mk #[119, 97, 105, 116, 32]).size = pre.length + 5 := by
            rw [show ByteArray.mk #[119, 97, 105, 116, 32] = ByteArray.mk wW.toArray from rfl, mk_append, size_mk, List.length_append]
            rfl
          have z5 : (ByteArray.mk pre.toArray ++ ByteArray.mk #[119, 97, 105, 116, 32] ++ ByteArray.mk ej.toArray).size = pre.length + 5 + ej.length := by
            rw [show ByteArray.mk #[119, 97, 105, 116, 32] = ByteArray.mk wW.toArray from rfl, mk_append, mk_append, size_mk, List.length_append, List.length_append]
            rfl
          have z6 : (ByteArray.mk #[119, 97, 105, 116, 32]).size = 5 := rfl
          clear x2
          go_wp2_with fail
          refine HO.out.mono ?_
          rintro e w3 ⟨rfl, hb3⟩
          have HB3 := Lib.hid (HB.out.trans (hb3.mono (by have := HB.out.size; omega)))
          clear hb3 HO hc x1
          go_wp2
          go_roundw
          case rel => exact ⟨j + 1, by omega, by go_num, by rw [HE.out, ← mk_append, ← mk_append, ← mk_append]; rfl, HB3⟩
          case measure => simp [intOf]; omega
        · obtain rfl : j = ws.length := by omega
          have hge : decide ((ws.length : Int) < (ws.length : Int)) = false := by simp
          have hp2 : (p1 ++ firsts Item.w ws ws.length).length ≤ 30000 := by
            have h2 := HLw.out ws.length (Nat.le_refl _)
            rw [List.length_append]
            omega
          generalize p1 ++ firsts Item.w ws ws.length = p2 at *
          clear HLw HSw HWs x2
          go_wp2_with fail
          go_loopw [3, 6] (fun t i wr => ∃ j : Nat, j ≤ fs.length ∧ i = .int .i64 (j : Int) ∧ t = .string ⟨(p2 ++ funcsT fs j).toArray⟩ ∧ Hid (Below (w.heap.size + 1) W0 wr)) (fun _ i _ => fs.length - (intOf i).toNat)
          case atStart => exact ⟨0, Nat.zero_le _, rfl, by rw [funcsT_zero, List.append_nil], HB⟩
          case round =>
          clear HB HBw x1
          obtain ⟨j, hj, rfl, rfl, HB⟩ := hrel
          obtain ⟨hbw, x0, x1, x2⟩ := (HBx _ HB.out).out
          have HBw := Lib.hid hbw
          clear hbw x0 x1
          by_cases hlt : j < fs.length
          · obtain ⟨b, off, Aj, cj, rfl, hbl, ⟨c0, c1, c2⟩, hD⟩ := (HFs.out.next HBw.out) j hlt
            have hlt' : (j : Int) < (fs.length : Int) := by omega
            have hj0 : (0 : Int) ≤ (j : Int) := by omega
            obtain ⟨s1, s2, s3, s4⟩ := HSf.out _ (getD_in (d := Fn.zero) hlt)
            have HE : Hid (p2 ++ funcsT fs (j + 1) = ((((((p2 ++ funcsT fs j) ++ [102, 117, 110, 99, 32]) ++ intT (fs.getD j Fn.zero).ar) ++ [32]) ++ intT (fs.getD j Fn.zero).lo) ++ [10]) ++ firsts Item.i (fs.getD j Fn.zero).co (fs.getD j Fn.zero).co.length) := Lib.hid (by
              rw [funcsT_next hlt, head_line]
              simp only [List.append_assoc])
            have hpre : (p2 ++ funcsT fs j).length ≤ 230000 := by
              have h2 := HLf.out j hj
              rw [List.length_append]
              omega
            generalize p2 ++ funcsT fs j = pre at *
            generalize fs.getD j Fn.zero = f at *
            obtain ⟨far, flo, fco⟩ := f
            dsimp only at c0 c1 c2 hD s1 s2 s3 s4 HE
            have hb4 : Below wr.heap.size wr (wr.alloc (fnBox far flo (.slice Aj fco.length cj))) := (Below.refl _ _).alloc (Nat.le_refl _) _
            have hszr : w.heap.size + 1 ≤ wr.heap.size := by have := HB.out.size; omega
            have HP : Hid (PF w W0 wr.heap.size far flo Aj fco.length cj fco (wr.alloc (fnBox far flo (.slice Aj fco.length cj)))) := Lib.hid ⟨HB.out.trans (hb4.mono hszr), Nat.le_trans hszr hb4.size, heap_alloc_new wr _, hD.next hb4⟩
            unfold fnBox at HP
            have HIs := Lib.hid s4
            have hfc := s1
            have HIa := fun W => Lib.hid (refInt9_any far (by unfold Sm at s2; omega) W)
            have HIl := fun W => Lib.hid (refInt9_any flo (by unfold Sm at s3; omega) W)
            have n1 := sm_le s2
            have n2 := sm_le s3
            generalize intT far = ia at *
            generalize intT flo = il at *
            obtain ⟨q1, hq1⟩ : ∃ q1, q1 = pre ++ [102, 117, 110, 99, 32] := ⟨_, rfl⟩
            rw [← hq1] at HE
            obtain ⟨q2, hq2⟩ : ∃ q2, q2 = q1 ++ ia := ⟨_, rfl⟩
            rw [← hq2] at HE
            obtain ⟨q3, hq3⟩ : ∃ q3, q3 = q2 ++ [32] := ⟨_, rfl⟩
            rw [← hq3] at HE
            obtain ⟨q4, hq4⟩ : ∃ q4, q4 = q3 ++ il := ⟨_, rfl⟩
            rw [← hq4] at HE
            obtain ⟨q5, hq5⟩ : ∃ q5, q5 = q4 ++ [10] := ⟨_, rfl⟩
            rw [← hq5] at HE
            have e1 : ByteArray.mk pre.toArray ++ ByteArray.mk #[102, 117, 110, 99, 32] = ByteArray.mk q1.toArray := by rw [hq1]; exact mk_append _ _
            have e2 : ByteArray.mk q1.toArray ++ ByteArray.mk ia.toArray = ByteArray.mk q2.toArray := by rw [hq2]; exact mk_append _ _
            have e3 : ByteArray.mk q2.toArray ++ ByteArray.mk #[32] = ByteArray.mk q3.toArray := by rw [hq3]; exact mk_append _ _
            have e4 : ByteArray.mk q3.toArray ++ ByteArray.mk il.toArray = ByteArray.mk q4.toArray := by rw [hq4]; exact mk_append _ _
            have e5 : ByteArray.mk q4.toArray ++ ByteArray.mk #[10] = ByteArray.mk q5.toArray := by rw [hq5]; exact mk_append _ _
            have l1 : q1.length ≤ 230010 := by rw [hq1, List.length_append]; simp; omega
            have l2 : q2.length ≤ 230040 := by rw [hq2, List.length_append]; omega
            have l3 : q3.length ≤ 230050 := by rw [hq3, List.length_append]; simp; omega
            have l4 : q4.length ≤ 230080 := by rw [hq4, List.length_append]; omega
            have l5 : q5.length ≤ 230090 := by rw [hq5, List.length_append]; simp; omega
            have z0 := size_mk pre
            have z1 := size_mk q1
            have z2 := size_mk q2
            have z3 := size_mk q3
            have z4 := size_mk q4
            have z5 := size_mk ia
            have z6 := size_mk il
            have z7 : (ByteArray.mk #[102, 117, 110, 99, 32]).size = 5 := rfl
            have z8 : (ByteArray.mk #[32]).size = 1 := rfl
            have z9 : (ByteArray.mk #[10]).size = 1 := rfl
            clear s1 s2 s3 s4 hD hq1 hq2 hq3 hq4 hq5
            go_upto_region 14 with fail
            clear c0 c1 c2 x2
            generalize wr.alloc (.cells #[.int .i64 far, .int .i64 flo, .slice Aj fco.length cj] 49) = W4 at *
            generalize wr.heap.size = g at *
            go_cut [3] (fun s wx => s = .string ⟨q5.toArray⟩ ∧ Hid (PF w W0 g far flo Aj fco.length cj fco wx))
            case first =>
              clear HE HIs HSf HLf HBw HB HFs HBx HTp HR0
              obtain ⟨Cl, hCl⟩ : ∃ Cl : World → Prop, Cl = PF w W0 g far flo Aj fco.length cj fco := ⟨_, rfl⟩
              have K0 : Hid (∀ W, Cl W → W.cell? ⟨g, 0, none⟩ = some (.int .i64 far)) := Lib.hid fun W h => by rw [hCl] at h; exact h.cells.1
              have K1 : Hid (∀ W, Cl W → W.cell? ⟨g, 1, none⟩ = some (.int .i64 flo)) := Lib.hid fun W h => by rw [hCl] at h; exact h.cells.2.1
              have hC0 : Cl { W4 with drawn := W4.drawn + 1 } := by rw [hCl]; exact HP.out.drew
              have HCn : ∀ W W', Cl W → Below W.heap.size W W' → Cl W' := fun W W' h hb => by rw [hCl] at h ⊢; exact h.next hb
              have HCl := Lib.hid hCl
              clear hCl HP
              have KA : Hid (∀ W, Cl W → Calls Tryz.prog 33 #[.int .i64 far] W fun e w' => e = .returned (.string ⟨ia.toArray⟩) ∧ Cl w') := Lib.hid (by
                intro W hW
                refine (HIa W).out.mono ?_
                intro e w' h
                exact ⟨h.1, HCn W w' hW h.2⟩)
              have KL : Hid (∀ W, Cl W → Calls Tryz.prog 33 #[.int .i64 flo] W fun e w' => e = .returned (.string ⟨il.toArray⟩) ∧ Cl w') := Lib.hid (by
                intro W hW
                refine (HIl W).out.mono ?_
                intro e w' h
                exact ⟨h.1, HCn W w' hW h.2⟩)
              clear HIa HIl
              refine wp_region_cls (C := Cl) (by kernel_rfl) (by kernel_rfl) hC0 ?_
              clear hC0
              have u1 : (9223372036854775807 < pre.length + 5) = False := by simp; omega
              have v1 : (9223372036854775802 < pre.length) = False := by simp; omega
              have u2 : (9223372036854775807 < q1.length + ia.length) = False := by simp; omega
              have u3 : (9223372036854775807 < q2.length + 1) = False := by simp; omega
              have v3 : (9223372036854775806 < q2.length) = False := by simp; omega
              have u4 : (9223372036854775807 < q3.length + il.length) = False := by simp; omega
              have u5 : (9223372036854775807 < q4.length + 1) = False := by simp; omega
              have v5 : (9223372036854775806 < q4.length) = False := by simp; omega
              (refine wpQuiet_step (fun K hK => ?_); go_simp; (first | refine hK _ ?_ | refine ⟨_, fun W hW => rfl, hK _ ?_⟩); clear hK K)
              (refine wpQuiet_step (fun K hK => ?_); go_simp; (first | refine hK _ ?_ | refine ⟨_, fun W hW => rfl, hK _ ?_⟩); clear hK K)
              (refine wpQuiet_step (fun K hK => ?_); go_simp; (first | refine hK _ ?_ | refine ⟨_, fun W hW => rfl, hK _ ?_⟩); clear hK K)
              (refine wpQuiet_step (fun K hK => ?_); go_simp; refine ⟨.int .i64 far, fun W hW => (by have k := K0.out W hW; simp [go_sem, k]), hK _ ?_⟩; clear hK K)
              (refine wpQuiet_step (fun K hK => ?_); go_simp; refine ⟨_, fun W hW => KA.out W hW, hK _ ?_⟩; clear hK K)
              (refine wpQuiet_step (fun K hK => ?_); go_simp; (first | refine hK _ ?_ | refine ⟨_, fun W hW => rfl, hK _ ?_⟩); clear hK K)
              (refine wpQuiet_step (fun K hK => ?_); go_simp; (first | refine hK _ ?_ | refine ⟨_, fun W hW => rfl, hK _ ?_⟩); clear hK K)
              (refine wpQuiet_step (fun K hK => ?_); go_simp; (first | refine hK _ ?_ | refine ⟨_, fun W hW => rfl, hK _ ?_⟩); clear hK K)
              (refine wpQuiet_step (fun K hK => ?_); go_simp; refine ⟨.int .i64 flo, fun W hW => (by have k := K1.out W hW; simp [go_sem, k]), hK _ ?_⟩; clear hK K)
              (refine wpQuiet_step (fun K hK => ?_); go_simp; refine ⟨_, fun W hW => KL.out W hW, hK _ ?_⟩; clear hK K)
              (refine wpQuiet_step (fun K hK => ?_); go_simp; (first | refine hK _ ?_ | refine ⟨_, fun W hW => rfl, hK _ ?_⟩); clear hK K)
              (refine wpQuiet_step (fun K hK => ?_); go_simp; (first | refine hK _ ?_ | refine ⟨_, fun W hW => rfl, hK _ ?_⟩); clear hK K)
              (refine wpQuiet_step (fun K hK => ?_); go_simp; (first | refine hK _ ?_ | refine ⟨_, fun W hW => rfl, hK _ ?_⟩); clear hK K)
              refine wpQuiet_nil ?_
              intro w9 h9
              have hPe := Lib.hid (show PF w W0 g far flo Aj fco.length cj fco w9 by rw [← HCl.out]; exact h9)
              clear h9 K0 K1 KA KL HCn
              go_wp2_with fail
              go_meet
              exact ⟨rfl, hPe⟩
            case rest =>
              obtain ⟨rfl, HP5⟩ := hcut
              clear e1 e2 e3 e4 e5 z0 z1 z2 z3 z4 z5 z6 z7 z8 z9 l1 l2 l3 l4 n1 n2 HIa HIl HP
              (rename (∀ (a : Act) (w : World), Code.wp _ _ _ a w → _) => hK; refine hK _ _ ?_; clear hK; apply wp_seq_k; intro _ _)
              go_wp2_with fail
              go_loopw [3, 8] (fun t i wr => ∃ k : Nat, k ≤ fco.length ∧ i = .int .i64 (k : Int) ∧ t = .string ⟨(q5 ++ firsts Item.i fco k).toArray⟩ ∧ Hid (PF w W0 g far flo Aj fco.length cj fco wr)) (fun _ i _ => fco.length - (intOf i).toNat)
              case atStart => exact ⟨0, Nat.zero_le _, rfl, by rw [firsts_zero, List.append_nil], HP5⟩
              case round =>
                obtain ⟨k, hk, rfl, rfl, HPk⟩ := hrel
                obtain ⟨_, _, d2⟩ := HPk.out.cells
                by_cases hlk : k < fco.length
                · obtain ⟨b2, off2, rfl, hbl2, c0, c1, c2⟩ := HPk.out.code k hlk
                  have hlk' : (k : Int) < (fco.length : Int) := by omega
                  have hk0 : (0 : Int) ≤ (k : Int) := by omega
                  have hsy := HIs.out _ (getD_in (d := zero) hlk)
                  have HEk : Hid (q5 ++ firsts Item.i fco (k + 1) = (q5 ++ firsts Item.i fco k) ++ [32, 32] ++ lineT (fco.getD k zero) ++ [10]) := Lib.hid (by
                    rw [firsts_next (d := zero) hlk]
                    simp only [itemL, List.append_assoc])
                  have hpk : (q5 ++ firsts Item.i fco k).length ≤ 290000 := by
                    have h2 := firsts_le (f := Item.i) (l := fco) (c := 57) (fun x hx => by
                      have := ins_le (HIs.out x hx)
                      simp only [itemL, List.length_append, List.length_cons, List.length_nil]
                      omega) k hk
                    rw [List.length_append]
                    omega
                  have hx := ins_le hsy
                  have HO := Lib.hid (refLine13_any (fco.getD k zero).1 (fco.getD k zero).2.1 (fco.getD k zero).2.2 hsy.1 hsy.2.1 hsy.2.2.1 wr)
                  generalize q5 ++ firsts Item.i fco k = pk at *
                  generalize fco.getD k zero = y at *
                  obtain ⟨yo, ya, yb⟩ := y
                  dsimp only at HO c0 c1 c2 hx
                  generalize lineT (yo, ya, yb) = ey at *
                  obtain ⟨r1, hr1⟩ : ∃ r1, r1 = pk ++ [32, 32] := ⟨_, rfl⟩
                  rw [← hr1] at HEk
                  obtain ⟨r2, hr2⟩ : ∃ r2, r2 = r1 ++ ey := ⟨_, rfl⟩
                  rw [← hr2] at HEk
                  have e1 : ByteArray.mk pk.toArray ++ ByteArray.mk #[32, 32] = ByteArray.mk r1.toArray := by rw [hr1]; exact mk_append _ _
                  have e2 : ByteArray.mk r1.toArray ++ ByteArray.mk ey.toArray = ByteArray.mk r2.toArray := by rw [hr2]; exact mk_append _ _
                  have l1 : r1.length ≤ 290010 := by rw [hr1, List.length_append]; simp; omega
                  have l2 : r2.length ≤ 290070 := by rw [hr2, List.length_append]; omega
                  have z0 := size_mk pk
                  have z1 := size_mk r1
                  have z2 := size_mk r2
                  have z3 := size_mk ey
                  have z8 : (ByteArray.mk #[32, 32]).size = 2 := rfl
                  have z9 : (ByteArray.mk #[10]).size = 1 := rfl
                  clear hsy hr1 hr2
                  go_wp2_with fail
                  refine HO.out.mono ?_
                  rintro e w6 ⟨rfl, hb6⟩
                  have HP6 := Lib.hid (HPk.out.next hb6)
                  clear hb6 HO c0 c1 c2 d2
                  go_wp2
                  go_roundw
                  case rel => exact ⟨k + 1, by omega, by go_num, by rw [HEk.out, ← mk_append], HP6⟩
                  case measure => simp [intOf]; omega
                · obtain rfl : k = fco.length := by omega
                  have hge : decide ((fco.length : Int) < (fco.length : Int)) = false := by simp
                  have HBe := Lib.hid HPk.out.below
                  go_wp2_with fail
                  go_roundw
                  case rel => exact ⟨j + 1, by omega, by go_num, by rw [HE.out], HBe⟩
                  case measure => simp [intOf]; omega
          · obtain rfl : j = fs.length := by omega
            have hge : decide ((fs.length : Int) < (fs.length : Int)) = false := by simp
            go_wp2
            go_ret
            exact ⟨by rw [HTp.out]; rfl, HBw.out⟩
end Go.Proofs.YtnhoeboighndlaaGreatDoor.pgm.asm
