/-
  Texts of one claim in one file: VRefProg. Each has its own sentence, with its conditions.
-/
import Derived.Test.YtjbcmedljgafkaaDoorZq27
import Derived.Test.YtjbcmedljgafkaaDoorZq29
import Derived.Test.YtjbcmedljgafkaaDoorZq33
import Derived.Test.YtjbcmedljgafkaaDoorZq30
import Derived.StillTailTactics
import Derived.Deep.RegionHeld3
/-
  The document's own answer of what is wrong with a program, and where. The program lies there whole.
-/

namespace Go.Proofs.YtjbcmedljgafkaaDoor.pgm.ver
open Go.RowKit Go.ChangeShapes
open Go.Proofs.YtjbcmedljgafkaaDoor.pgm
open Go.Proofs.YtjbcmedljgafkaaDoor.pgm.dep (refOf_any OfPost depths)
open Go.Proofs.YtjbcmedljgafkaaDoor.objs (De zero DAt cells3)
open Go.Proofs.YtjbcmedljgafkaaDoor.oper (insBox txt fm refForm_any)
open Go.Proofs.YtjbcmedljgafkaaDoor.inst (form opd letter_at size_list form_le)
set_option linter.unusedVariables false

/-- Blocks stand as they are told, and below the first one nothing has turned. -/
structure Hold (w : World) (l : List (Nat × Obj)) (W : World) : Prop where
  below : Below w.heap.size w W
  all : ∀ x ∈ l, W.heap[x.1]? = some x.2
theorem Hold.next {w W W' : World} {l : List (Nat × Obj)} (h : Hold w l W) (hb : Below W.heap.size W W') : Hold w l W' := ⟨h.below.trans (hb.mono h.below.size), fun x hx => (hb.block _ (lt_of_block (h.all x hx))).trans (h.all x hx)⟩
theorem Hold.alloc {w W : World} {l : List (Nat × Obj)} (h : Hold w l W) (o : Obj) : Hold w ((W.heap.size, o) :: l) (W.alloc o) :=
  ⟨h.below.alloc h.below.size _, fun x hx => by
    rcases List.mem_cons.1 hx with rfl | hx
    · exact heap_alloc_new W o
    · exact (Below.heap_alloc _ _ _ (lt_of_block (h.all x hx))).trans (h.all x hx)⟩
theorem Hold.drew {w W : World} {l : List (Nat × Obj)} (h : Hold w l W) : Hold w l W.drew := ⟨h.below.drew, h.all⟩
theorem Hold.less {w W : World} {l k : List (Nat × Obj)} (h : Hold w l W) (hk : ∀ x ∈ k, x ∈ l) : Hold w k W := ⟨h.below, fun x hx => h.all x (hk x hx)⟩
def twoB (a b : Int) : Obj := .cells #[.int .i64 a, .int .i64 b] 3
theorem cells2 {W : World} {b : Nat} {x y : Value} {T : TypeId} (h : W.heap[b]? = some (.cells #[x, y] T (0, 0))) : W.cell? ⟨b, 0, none⟩ = some x ∧ W.cell? ⟨b, 1, none⟩ = some y := by
  simp [World.cell?, h]
theorem two_at {W : World} {b : Nat} {x y : Int} (h : W.heap[b]? = some (twoB x y)) {j : Nat} (hj : j < 2) : W.cell? ⟨b, j, none⟩ = some (.int .i64 (opd x y j)) := by
  obtain ⟨h0, h1⟩ := cells2 h
  match j, hj with
  | 0, _ => exact h0
  | 1, _ => exact h1

set_option maxRecDepth 100000 in
set_option maxHeartbeats 16000000 in
theorem refProg12_any (v : Value) (p : Pg) (w : World) (hv : PAt w v p) (hg : PG w v p) : Calls Tryd.prog 36 #[v] w fun e w' =>
    e = .returned (.tuple #[.int .i64 ((progV p).1 : Int), .int .i64 ((progV p).2.1 : Int), .int .i64 ((progV p).2.2 : Int)]) ∧ Below w.heap.size w w' := by
  obtain ⟨A, B, C, ca, cb, cc, rfl, hA, hB, hF⟩ := id hv
  have HRc := fun v W h => Lib.hid (refCheck10_any v p W h)
  unfold NumPost at HRc
  obtain ⟨r, hr⟩ : ∃ r, r = progV p := ⟨_, rfl⟩
  rw [← hr]
  unfold progV at hr
  have h0 : Hold w [] w := ⟨Below.refl _ _, fun x hx => by cases hx⟩
  have H0 := Lib.hid (h0.alloc (pgB (.slice A p.ds.length ca) (.slice B p.ws.length cb) (.slice C p.fs.length cc)))
  have HV := Lib.hid hv
  have HG := Lib.hid hg
  have HF := Lib.hid hF
  unfold pgB at H0
  clear h0 hA hB hv hg hF
  by_cases hz : chkP p = 0
  · obtain ⟨hfl, hfa, hfc⟩ := Go.Proofs.YtjbcmedljgafkaaDoor.pgm.dep.funcs_may hz
    obtain ⟨g1, g2, g3, g4, g5, g6⟩ := chkP_zero hz
    have g0 := (Go.Proofs.YtjbcmedljgafkaaDoor.objs.chk_zero g1).1
    have HOf := fun k v W h => Lib.hid (refOf_any v p k W h hz)
    unfold OfPost at HOf
    rw [hz] at HRc
    rw [if_neg (fun e => e hz)] at hr
    have HFC := Lib.hid hfc
    have HR := Lib.hid hr
    clear hr g1 g3 g6 hfc hz
    obtain ⟨gb, off, Aj0, cj0, hCe, hgb, ⟨f0, f1, f2⟩, _⟩ := HF.out 0 g4
    subst hCe
    generalize hA0 : (p.fs.getD 0 Fn.zero).ar = ar0 at *
    go_enter Tryd.func36, Tryd.ntmps36
    go_upto_region 1 with fail
    generalize hW0 : w.alloc (.cells #[.slice A p.ds.length ca, .slice B p.ws.length cb, .slice (some ⟨gb, off, none⟩) p.fs.length cc] 26) = W0 at *
    clear hW0
    have hx0 := H0.out.all _ (List.mem_cons_self ..)
    obtain ⟨x0, x1, x2, -, -, -⟩ := cells3 hx0
    go_wp2_with fail
    refine (HRc _ _ (HG.out.next H0.out.below).head).out.mono ?_
    rintro _ w1 ⟨rfl, hb1⟩
    have H1 := Lib.hid (H0.out.next hb1)
    have hx1 := H1.out.all _ (List.mem_cons_self ..)
    have f0' := (H1.out.below.cell (p := ⟨gb, off + 0 * 3, none⟩) hgb).trans f0
    rw [Nat.zero_mul, Nat.add_zero] at f0'
    clear hb1 x0 x1 x2 hx0 H0 f0 f1 f2 HRc
    obtain ⟨x0, x1, x2, -, -, -⟩ := cells3 hx1
    have h00 : (0 : Int) < (p.fs.length : Int) := by omega
    by_cases har : ar0 = 0
    · have q0 : (ar0 != 0) = false := by simpa using har
      have hrr := HR.out
      rw [if_neg (fun e => e har)] at hrr
      have HR2 := Lib.hid hrr
      clear hrr HR har
      go_wp2_with fail
      clear x0 x1 x2 f0' hx1
      go_loopw [6] (fun i wr => ∃ fn : Nat, i = .int .i64 (fn : Int) ∧ fn ≤ p.fs.length ∧ Hid (r = funsV p (p.fs.length - fn) fn) ∧ Hid (Hold w [(w.heap.size, .cells #[.slice A p.ds.length ca, .slice B p.ws.length cb, .slice (some ⟨gb, off, none⟩) p.fs.length cc] 26)] wr)) (fun i _ => p.fs.length - (intOf i).toNat)
      case atStart => exact ⟨0, rfl, Nat.zero_le _, HR2, H1⟩
      case round =>
        clear HR2 H1
        obtain ⟨fn, rfl, hfn, HE, HH⟩ := hrel
        have hx := HH.out.all _ (List.mem_cons_self ..)
        obtain ⟨x0, x1, x2, -, -, -⟩ := cells3 hx
        clear hx
        by_cases hlt : fn < p.fs.length
        · have q1 : decide ((fn : Int) < (p.fs.length : Int)) = true := decide_eq_true (by omega)
          have k0 : (0 : Int) ≤ (fn : Int) := by omega
          have k1 : (fn : Int) < (p.fs.length : Int) := by omega
          obtain ⟨gb', off', Aj, cj, hCe, hgb', ⟨f0w, f1w, f2w⟩, hDw⟩ := HF.out fn hlt
          have f0 := (HH.out.below.cell (p := ⟨gb', off' + fn * 3, none⟩) hgb').trans f0w
          have f1 := (HH.out.below.cell (p := ⟨gb', off' + fn * 3 + 1, none⟩) hgb').trans f1w
          have f2 := (HH.out.below.cell (p := ⟨gb', off' + fn * 3 + 2, none⟩) hgb').trans f2w
          injection hCe with hCe
          injection hCe with e1 e2 _
          subst e1 e2
          obtain ⟨hco0, hco1, hci⟩ := HFC.out _ (Go.Proofs.YtjbcmedljgafkaaDoor.pgm.getD_in (d := Fn.zero) hlt)
          have hE := HE.out
          rw [show p.fs.length - fn = (p.fs.length - (fn + 1)) + 1 by omega] at hE
          unfold funsV funV at hE
          have HOf1 := fun W h => HOf (fn : Int) W h
          generalize depths p.fs (fn : Int) = dq at *
          generalize p.fs.getD fn Fn.zero = f at *
          obtain ⟨d0, d1, d2⟩ := dq
          obtain ⟨cv, hcv⟩ : ∃ cv, cv = codeV p f f.co 0 := ⟨_, rfl⟩
          rw [← hcv] at hE
          dsimp only at hE HOf1
          have HE1 : Hid (cv.2 ≠ 0 → r = (fn, cv.1, cv.2)) := Lib.hid fun e => by rw [hE, if_pos e, if_pos e]
          have HE2 : Hid (cv.2 = 0 → d2 ≠ 0 → r = (fn, d1, d2)) := Lib.hid fun e1 e2 => by
            have e3 : (if cv.2 ≠ 0 then cv else (d1, d2)) = (d1, d2) := if_neg (fun e => e e1)
            rw [hE, e3, if_pos e2]
          have HE3 : Hid (cv.2 = 0 → d2 = 0 → r = funsV p (p.fs.length - (fn + 1)) (fn + 1)) := Lib.hid fun e1 e2 => by
            have e3 : (if cv.2 ≠ 0 then cv else (d1, d2)) = (d1, d2) := if_neg (fun e => e e1)
            rw [hE, e3, if_neg (fun e => e e2)]
          have HCv := Lib.hid hcv
          have HCI := Lib.hid hci
          have HH2 := Lib.hid (HH.out.alloc (fnV f.ar f.lo Aj f.co.length cj))
          have hbw := HH.out.below.size
          unfold fnV at HH2
          have HDw := Lib.hid hDw
          clear hE HE hcv hci HH f0w f1w f2w hDw
          go_wp2_with fail
          clear x0 x1 x2 f0 f1 f2
          generalize wr.alloc (.cells #[.int .i64 f.ar, .int .i64 f.lo, .slice Aj f.co.length cj] 58) = wr1 at *
          generalize wr.heap.size = bf at *
          go_loopw [8] (fun i wq => ∃ i' : Nat, i = .int .i64 (i' : Int) ∧ i' ≤ f.co.length ∧ Hid (cv = codeV p f (f.co.drop i') i') ∧ Hid (Hold w [(bf, .cells #[.int .i64 f.ar, .int .i64 f.lo, .slice Aj f.co.length cj] 58), (w.heap.size, .cells #[.slice A p.ds.length ca, .slice B p.ws.length cb, .slice (some ⟨gb, off, none⟩) p.fs.length cc] 26)] wq)) (fun i _ => f.co.length - (intOf i).toNat)
          case atStart => exact ⟨0, rfl, Nat.zero_le _, HCv, HH2⟩
          case round =>
            clear HCv HH2
            obtain ⟨i, rfl, hi, HC, HH2⟩ := hrel
            have hx1 := HH2.out.all _ (List.mem_cons_self ..)
            have hx0 := HH2.out.all _ (List.mem_cons_of_mem _ (List.mem_cons_self ..))
            obtain ⟨x0, x1, x2, -, -, -⟩ := cells3 hx0
            obtain ⟨y0, y1, y2, -, -, -⟩ := cells3 hx1
            clear hx0 hx1
            by_cases hil : i < f.co.length
            · have q2 : decide ((i : Int) < (f.co.length : Int)) = true := decide_eq_true (by omega)
              have k2 : (0 : Int) ≤ (i : Int) := by omega
              have k3 : (i : Int) < (f.co.length : Int) := by omega
              obtain ⟨b3, o3, rfl, hb3, c0, c1, c2⟩ := HDw.out.next HH2.out.below i hil
              have hxc := HCI.out _ (Go.Proofs.YtjbcmedljgafkaaDoor.pgm.getD_in (d := zero) hil)
              have hE := HC.out
              rw [List.drop_eq_getElem_cons hil] at hE
              have eg : f.co[i] = f.co.getD i zero := by rw [List.getD_eq_getElem?_getD, List.getElem?_eq_getElem hil]; rfl
              rw [eg] at hE
              unfold codeV at hE
              generalize f.co.getD i zero = x at *
              have HH3 := Lib.hid (HH2.out.alloc (insBox x.1 x.2.1 x.2.2))
              have hlf : (form x.1).length ≤ 2 := form_le x.1
              obtain ⟨iv, hiv⟩ : ∃ iv, iv = insV p f x := ⟨_, rfl⟩
              rw [← hiv] at hE
              have HE4 := Lib.hid hE
              have HIv := Lib.hid hiv
              unfold insBox at HH3
              clear hE hiv eg HC HH2
              go_upto_region 14 with fail
              clear c0 c1 c2 x0 x1 x2 y0 y1 y2
              generalize wr.alloc (.cells #[.int .i64 x.1, .int .i64 x.2.1, .int .i64 x.2.2] 55) = wr2 at *
              generalize wr.heap.size = bx at *
              have HFo : ∀ W : World, W.cell? ⟨bx, 0, none⟩ = some (.int .i64 x.1) → W.cell? ⟨bx, 1, none⟩ = some (.int .i64 x.2.1) → W.cell? ⟨bx, 2, none⟩ = some (.int .i64 x.2.2) →
                  Calls Tryd.prog 55 #[.int .i64 x.1] W fun e w' => e = .returned (.string (txt fm x.1)) ∧ w'.cell? ⟨bx, 0, none⟩ = some (.int .i64 x.1) ∧ w'.cell? ⟨bx, 1, none⟩ = some (.int .i64 x.2.1) ∧ w'.cell? ⟨bx, 2, none⟩ = some (.int .i64 x.2.2) ∧ Hid (Below W.heap.size W w') := by
                intro W h0 h1 h2
                have hs : bx < W.heap.size := World.block_lt_of_cell? W _ h0
                refine (refForm_any x.1 W).mono ?_
                rintro e w' ⟨rfl, hb⟩
                exact ⟨rfl, (hb.cell (p := ⟨bx, 0, none⟩) hs).trans h0, (hb.cell (p := ⟨bx, 1, none⟩) hs).trans h1, (hb.cell (p := ⟨bx, 2, none⟩) hs).trans h2, Lib.hid hb⟩
              have hx3 := HH3.out.all _ (List.mem_cons_self ..)
              have hbx3 := lt_of_block hx3
              obtain ⟨i0, i1, i2, -, -, -⟩ := cells3 hx3
              clear hx3
              have hy2 : (txt fm x.1).size ≤ 2 := by unfold form at hlf; rwa [← size_list] at hlf
              have HTx : Hid ((txt fm x.1).data.toList = form x.1) := Lib.hid rfl
              generalize txt fm x.1 = y at *
              go_cut [10, 11] (fun t l wx => t = .string y ∧ ∃ g : Nat, l = .slice (some ⟨g, 0, none⟩) 2 2 ∧ Hid (Hold w [(g, twoB x.2.1 x.2.2), (bx, .cells #[.int .i64 x.1, .int .i64 x.2.1, .int .i64 x.2.2] 55), (bf, .cells #[.int .i64 f.ar, .int .i64 f.lo, .slice (some ⟨b3, o3, none⟩) f.co.length cj] 58), (w.heap.size, .cells #[.slice A p.ds.length ca, .slice B p.ws.length cb, .slice (some ⟨gb, off, none⟩) p.fs.length cc] 26)] wx))
              case first =>
                go_region_held3 (fun w' => w'.cell? ⟨bx, 0, none⟩ = some (.int .i64 x.1) ∧ w'.cell? ⟨bx, 1, none⟩ = some (.int .i64 x.2.1) ∧ w'.cell? ⟨bx, 2, none⟩ = some (.int .i64 x.2.2)) (go_keep)
                  (first | (go_at_call 55; refine (HFo _ ?_ ?_ ?_).mono ?_; (simp [*]); (simp [*]); (simp [*]); rintro e w1 ⟨rfl, d0, d1, d2, HX⟩))
                all_goals
                  go_wp2_with fail
                  go_meet
                  refine ⟨rfl, _, rfl, ?_⟩
                all_goals first
                  | exact Lib.hid ((HH3.out.drew.next HX.out).alloc (twoB x.2.1 x.2.2))
                  | exact Lib.hid ((HH3.out.drew.alloc (twoB x.2.1 x.2.2)).next HX.out)
              case rest =>
                obtain ⟨rfl, g, rfl, HH4⟩ := hcut
                have HSz := Lib.hid hy2
                have HIv2 : Hid (iv = letV p f x ((form x.1).drop 0) 0) := Lib.hid (by rw [HIv.out]; rfl)
                clear HH3 i0 i1 i2 HFo hbx3 hy2 hlf HIv
                go_wp2_with fail
                go_loopw [12] (fun k wq => ∃ k' : Nat, k = .int .i64 (k' : Int) ∧ k' ≤ y.size ∧ Hid (iv = letV p f x ((form x.1).drop k') k') ∧ Hid (Hold w [(g, twoB x.2.1 x.2.2), (bx, .cells #[.int .i64 x.1, .int .i64 x.2.1, .int .i64 x.2.2] 55), (bf, .cells #[.int .i64 f.ar, .int .i64 f.lo, .slice (some ⟨b3, o3, none⟩) f.co.length cj] 58), (w.heap.size, .cells #[.slice A p.ds.length ca, .slice B p.ws.length cb, .slice (some ⟨gb, off, none⟩) p.fs.length cc] 26)] wq)) (fun k _ => y.size - (intOf k).toNat)
                case atStart => exact ⟨0, rfl, Nat.zero_le _, HIv2, HH4⟩
                case round =>
                  clear HIv2 HH4
                  obtain ⟨k, rfl, hk, HI, HH4⟩ := hrel
                  have hsz2 := HSz.out
                  by_cases hkl : k < y.size
                  · have hx0 := HH4.out.all _ (List.mem_cons_of_mem _ (List.mem_cons_of_mem _ (List.mem_cons_of_mem _ (List.mem_cons_self ..))))
                    have hx1 := HH4.out.all _ (List.mem_cons_of_mem _ (List.mem_cons_of_mem _ (List.mem_cons_self ..)))
                    have hx2 := HH4.out.all _ (List.mem_cons_of_mem _ (List.mem_cons_self ..))
                    have hx3 := HH4.out.all _ (List.mem_cons_self ..)
                    obtain ⟨x0, x1, x2, -, -, -⟩ := cells3 hx0
                    obtain ⟨y0, y1, y2, -, -, -⟩ := cells3 hx1
                    obtain ⟨i0, i1, i2, -, -, -⟩ := cells3 hx2
                    have l0 := two_at hx3 (j := k) (by omega)
                    have hyj : y[k] = y.data.toList.getD k 0 := letter_at hkl
                    rw [HTx.out] at hyj
                    have hkf : k < (form x.1).length := by rw [← HTx.out, ← size_list]; exact hkl
                    have hlet : (form x.1).getD k 0 = 102 → 0 ≤ opd x.2.1 x.2.2 k := fun hc => (Go.Proofs.YtjbcmedljgafkaaDoor.pgm.dep.letter hxc rfl rfl hkf hc (by decide)).1
                    have hII := HI.out
                    rw [List.drop_eq_getElem_cons hkf] at hII
                    have eg : (form x.1)[k] = (form x.1).getD k 0 := by rw [List.getD_eq_getElem?_getD, List.getElem?_eq_getElem hkf]; rfl
                    rw [eg] at hII
                    unfold letV at hII
                    have HOp := Lib.hid (refOperand_any (.agg #[.slice A p.ds.length ca, .slice B p.ws.length cb, .slice (some ⟨gb, off, none⟩) p.fs.length cc]) p f x ((form x.1).getD k 0) (opd x.2.1 x.2.2 k) (some ⟨b3, o3, none⟩) cj wr.drew ((HV.out.next HH4.out.below).next (Below.refl _ _).drew) (by omega) (by omega) (by omega) (by omega) hlet)
                    generalize opV p f x.1 ((form x.1).getD k 0) (opd x.2.1 x.2.2 k) = ov at *
                    generalize (form x.1).getD k 0 = c at *
                    generalize opd x.2.1 x.2.2 k = n at *
                    have q3 : decide ((k : Int) < (y.size : Int)) = true := decide_eq_true (by omega)
                    have k4 : (0 : Int) ≤ (k : Int) := by omega
                    have k5 : (k : Int) < (y.size : Int) := by omega
                    have k6 : (k : Int) < 2 := by omega
                    have HII := Lib.hid hII
                    clear hx0 hx1 hx2 hx3 hkf hlet eg hII HI
                    go_wp2_with fail
                    go_still_tail 10, (by kernel_rfl)
                    change wpList _ _ _ _ _ wr.drew
                    have HH5 := Lib.hid HH4.out.drew
                    generalize wr.drew = wr4 at *
                    clear HH4 x0 x1 x2 y0 y1 y2 i0 i1 i2 l0
                    go_wp2_with fail
                    refine HOp.out.mono ?_
                    rintro _ w5 ⟨rfl, hb5⟩
                    have HH6 := Lib.hid (HH5.out.next hb5)
                    clear hb5 HH5 HOp
                    by_cases hov : ov = 0
                    · subst hov
                      have hII := HII.out
                      rw [if_neg (fun e => e rfl)] at hII
                      have HI7 := Lib.hid hII
                      clear hII HII
                      rw [show ((0 : Nat) : Int) = 0 from rfl]
                      go_wp2
                      go_roundw
                      case rel => exact ⟨k + 1, by go_num, by omega, HI7, HH6⟩
                      case measure => simp [intOf]; omega
                    · have hII := HII.out
                      rw [if_pos hov] at hII
                      have hcv := HE4.out
                      rw [hII, if_pos hov] at hcv
                      have hre := HE1.out (by rw [hcv]; exact hov)
                      rw [hcv] at hre
                      subst hre
                      have q4 : ((ov : Int) != 0) = true := by simpa using hov
                      have HB6 := Lib.hid HH6.out.below
                      clear hII HII hov hcv HE1 HE2 HE3 HE4 HH6
                      go_wp2
                      go_ret3
                      exact ⟨rfl, HB6.out⟩
                  · obtain rfl : k = y.size := by omega
                    have q3 : decide ((y.size : Int) < (y.size : Int)) = false := decide_eq_false (by omega)
                    have hII := HI.out
                    rw [List.drop_of_length_le (by rw [← HTx.out, ← size_list]; exact Nat.le_refl _)] at hII
                    have hcv := HE4.out
                    rw [hII, if_neg (show ¬ letV p f x [] y.size ≠ 0 from fun e => e rfl)] at hcv
                    have HC7 := Lib.hid hcv
                    have HH7 := Lib.hid (HH4.out.less (k := [(bf, .cells #[.int .i64 f.ar, .int .i64 f.lo, .slice (some ⟨b3, o3, none⟩) f.co.length cj] 58), (w.heap.size, .cells #[.slice A p.ds.length ca, .slice B p.ws.length cb, .slice (some ⟨gb, off, none⟩) p.fs.length cc] 26)]) (fun z hz => List.mem_cons_of_mem _ (List.mem_cons_of_mem _ hz)))
                    clear hII hcv HI HE4 HH4
                    go_wp2
                    go_roundw
                    case rel => exact ⟨i + 1, by go_num, by omega, HC7, HH7⟩
                    case measure => simp [intOf]; omega
            · obtain rfl : i = f.co.length := by omega
              have q2 : decide ((f.co.length : Int) < (f.co.length : Int)) = false := decide_eq_false (by omega)
              have hcv := HC.out
              rw [List.drop_length] at hcv
              have hc0 : cv.2 = 0 := by rw [hcv]; rfl
              have HB2 := Lib.hid HH2.out.below
              have HOf2 := HOf1 _ _ (HV.out.next HB2.out)
              clear HOf1 HOf hcv HC
              go_wp2_with fail
              refine HOf2.out.mono ?_
              rintro _ w5 ⟨Ao, co, rfl, -, hb5⟩
              have HH6 := Lib.hid (HH2.out.next hb5)
              clear hb5 HH2 HOf2 HB2 x0 x1 x2
              by_cases hd2 : d2 = 0
              · have hre := HE3.out hc0 hd2
                have HR7 := Lib.hid hre
                subst hd2
                rw [show ((0 : Nat) : Int) = 0 from rfl]
                have HH7 := Lib.hid (HH6.out.less (k := [(w.heap.size, .cells #[.slice A p.ds.length ca, .slice B p.ws.length cb, .slice (some ⟨gb, off, none⟩) p.fs.length cc] 26)]) (fun z hz => List.mem_cons_of_mem _ hz))
                clear hre HE1 HE2 HE3 hc0 HH6
                go_wp2
                go_roundw
                case rel => exact ⟨fn + 1, by go_num, by omega, HR7, HH7⟩
                case measure => simp [intOf]; omega
              · have hre := HE2.out hc0 hd2
                subst hre
                have q4 : ((d2 : Int) != 0) = true := by simpa using hd2
                have HB6 := Lib.hid HH6.out.below
                clear HE1 HE2 HE3 hc0 HH6 hd2
                go_wp2
                go_ret3
                exact ⟨rfl, HB6.out⟩
        · obtain rfl : fn = p.fs.length := by omega
          have q1 : decide ((p.fs.length : Int) < (p.fs.length : Int)) = false := decide_eq_false (by omega)
          have hre := HE.out
          rw [Nat.sub_self] at hre
          subst hre
          have HB6 := Lib.hid HH.out.below
          clear HE HH
          go_wp2
          go_ret3
          exact ⟨rfl, HB6.out⟩
    · have q0 : (ar0 != 0) = true := by simpa using har
      have hrr := HR.out
      rw [if_pos har] at hrr
      subst hrr
      clear HR har
      go_wp2
      go_ret3
      exact ⟨rfl, H1.out.below⟩
  · have q0 : ((chkP p : Int) != 0) = true := by simpa using hz
    rw [if_pos hz] at hr
    subst hr
    generalize chkP p = cp at *
    clear hz
    go_enter Tryd.func36, Tryd.ntmps36
    go_upto_region 1 with fail
    generalize hW0 : w.alloc (.cells #[.slice A p.ds.length ca, .slice B p.ws.length cb, .slice C p.fs.length cc] 26) = W0 at *
    clear hW0
    obtain ⟨x0, x1, x2, -, -, -⟩ := cells3 (H0.out.all _ (List.mem_cons_self ..))
    go_wp2_with fail
    refine (HRc _ _ (HG.out.next H0.out.below).head).out.mono ?_
    rintro _ w1 ⟨rfl, hb1⟩
    have H1 := Lib.hid (H0.out.next hb1)
    clear hb1
    go_wp2
    go_ret3
    exact ⟨rfl, H1.out.below⟩
end Go.Proofs.YtjbcmedljgafkaaDoor.pgm.ver
