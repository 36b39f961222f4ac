/-
  In a program that may run each instruction's objects are of its kinds, and its waits, functions and places are there: the walk over what is asked of the program's calls. No condition but that the program came in.
-/
import Derived.Test.YtbekfjjajggffaaDoorVall25
import Derived.Test.YtbekfjjajggffaaDoorVall33
import Derived.BigQuiet
import Derived.Deep.QuietTactic
import Derived.Deep.CutBlock
import Derived.Deep.DeepCutAuto
import Derived.Deep.LoopGhost
import Derived.Deep.Light
namespace Go.Proofs.YtbekfjjajggffaaDoor.pgm.ver
open Go.RowKit Go.ChangeShapes
open Go.Proofs.YtbekfjjajggffaaDoor.pgm
open Go.Proofs.YtbekfjjajggffaaDoor.objs (De zero DAt CellsAt cells3 put3 put3_same put3_far put3_below)
open Go.Proofs.YtbekfjjajggffaaDoor.oper (insBox)
open Go.Proofs.YtbekfjjajggffaaDoor.inst (form opd)
set_option linter.unusedVariables false

set_option maxRecDepth 100000 in
set_option maxHeartbeats 2000000 in
theorem refGood_any (v : Value) (p : Pg) (w : World) (hv : PAt w v p) (hg : PG w v p) : Calls Tryd.prog 13 #[v] w fun e w' => e = .returned (.bool (decide ((progV p).2.2 = 0))) ∧ Below w.heap.size w w' := by
  obtain ⟨A, B, C, ca, cb, cc, rfl, -⟩ := id hv
  have hb0 : Below w.heap.size w (w.alloc (pgB (.slice A p.ds.length ca) (.slice B p.ws.length cb) (.slice C p.fs.length cc))) := (Below.refl _ _).alloc (Nat.le_refl _) _
  have hx0 := heap_alloc_new w (pgB (.slice A p.ds.length ca) (.slice B p.ws.length cb) (.slice C p.fs.length cc))
  have HP := Lib.hid (refProg12_any _ p _ (hv.next hb0) (hg.next hb0))
  have HB0 := Lib.hid hb0
  unfold pgB at hx0 HB0 HP
  generalize progV p = q at *
  obtain ⟨q1, q2, q3⟩ := q
  dsimp only at *
  clear hb0 hv hg
  obtain ⟨dd, hdd⟩ : ∃ dd, dd = decide (q3 = 0) := ⟨_, rfl⟩
  rw [← hdd]
  have HDD := Lib.hid hdd
  clear hdd
  go_enter Tryd.func13, Tryd.ntmps13
  go_upto_region 1 with fail
  generalize w.alloc (.cells #[.slice A p.ds.length ca, .slice B p.ws.length cb, .slice C p.fs.length cc] 26) = W0 at *
  obtain ⟨x0, x1, x2, -, -, -⟩ := cells3 hx0
  go_wp2_with fail
  refine HP.out.mono ?_
  rintro _ w1 ⟨rfl, hb1⟩
  have HB1 := Lib.hid (HB0.out.trans (hb1.mono HB0.out.size))
  clear hb1 HP
  by_cases h0 : q3 = 0
  · subst h0
    obtain rfl : dd = true := HDD.out
    rw [show ((0 : Nat) : Int) = 0 from rfl]
    go_wp2
    go_ret
    exact ⟨rfl, HB1.out⟩
  · obtain rfl : dd = false := HDD.out.trans (decide_eq_false h0)
    have e0 : ((q3 : Int) == 0) = false := beq_eq_false_iff_ne.2 (by omega)
    go_wp2
    go_ret
    exact ⟨rfl, HB1.out⟩

/-- The copy that stands in the argument's box. -/
structure Cp (w : World) (a b c : Value) (p : Pg) (hi : Nat) (W : World) : Prop where
  below : Below w.heap.size w W
  box : W.heap[w.heap.size]? = some (pgB a b c)
  st : Stays W (w.heap.size + 1) hi (fun W' => PAt W' (.agg #[a, b, c]) p ∧ PG W' (.agg #[a, b, c]) p)
theorem Cp.next {w W W' : World} {a b c : Value} {p : Pg} {hi : Nat} (h : Cp w a b c p hi W) (hb : Below W.heap.size W W') : Cp w a b c p hi W' :=
  ⟨h.below.trans (hb.mono h.below.size), (hb.block _ (lt_of_block h.box)).trans h.box, h.st.next hb⟩

theorem pat_parts {W : World} {p : Pg} {D E F : Option Addr} {a b c cd ce cf : Nat} (h : PAt W (.agg #[.slice D a cd, .slice E b ce, .slice F c cf]) p) : DAt W D p.ds ∧ WsAt W E p.ws ∧ FsAt W F p.fs := by
  obtain ⟨A, B, C, ca, cb, cc, e, h1, h2, h3⟩ := h
  simp only [Value.agg.injEq, Array.mk.injEq, List.cons.injEq, Value.slice.injEq, and_true] at e
  obtain ⟨⟨rfl, _, _⟩, ⟨rfl, _, _⟩, rfl, _, _⟩ := e
  exact ⟨h1, h2, h3⟩
theorem funcs_few {p : Pg} (h : chkP p = 0) : p.fs.length ≤ 16 ∧ ∀ f ∈ p.fs, f.co.length ≤ 200 ∧ ∀ x ∈ f.co, chkI x = 0 := by
  obtain ⟨_, _, _, _, g5, g6⟩ := chkP_zero h
  refine ⟨g5, fun f hf => ?_⟩
  have := chkFn_zero (g6 f hf)
  exact ⟨this.2.2.1, this.2.2.2⟩
theorem dep_drewN {B : Nat} {a w : World} (h : Below B a w) (n : Nat) : Below B a (w.drewN n) := ⟨h.os, h.tape, h.output, h.size, h.block⟩
theorem kindV_pos {o : Int} (h : kindV o ≠ 0) : 0 < kindV o := by
  unfold kindV at *
  repeat (split; · omega)
  rename_i h1 h2 h3 h4 h5 h6
  rw [if_neg h1, if_neg h2, if_neg h3, if_neg h4, if_neg h5, if_neg h6] at h
  exact absurd rfl h
def kindL : List Int := [30, 31, 32, 33, 34, 35, 36, 37, 38, 39, 45, 46, 50, 51]
theorem kindV_other (o : Int) (h : (kindL.all fun j => !(o == j)) = true) : kindV o = 0 := by
  have hne : ∀ j ∈ kindL, o ≠ j := fun j hj => by simpa using List.all_eq_true.1 h j hj
  have h1 := hne 30 (by decide)
  have h2 := hne 31 (by decide)
  have h3 := hne 32 (by decide)
  have h4 := hne 33 (by decide)
  have h5 := hne 34 (by decide)
  have h6 := hne 35 (by decide)
  have h7 := hne 36 (by decide)
  have h8 := hne 37 (by decide)
  have h9 := hne 38 (by decide)
  have h10 := hne 39 (by decide)
  have h11 := hne 45 (by decide)
  have h12 := hne 46 (by decide)
  have h13 := hne 50 (by decide)
  have h14 := hne 51 (by decide)
  unfold kindV
  rw [if_neg h1, if_neg h2, if_neg (by omega), if_neg (by omega), if_neg (by omega), if_neg (by omega)]
/-- The operands of the instructions that the statement asks are not below 0. -/
theorem low_of {x : De} (h : chkI x = 0) (ho : x.1 = 26 ∨ x.1 = 20 ∨ x.1 = 18 ∨ x.1 = 1) : 0 ≤ x.2.1 := by
  rcases ho with h1 | h1 | h1 | h1
  · exact (Go.Proofs.YtbekfjjajggffaaDoor.pgm.dep.letter h h1 (f := [119]) (by decide +kernel) (j := 0) (by decide) (c := 119) rfl (by decide)).1
  · exact (Go.Proofs.YtbekfjjajggffaaDoor.pgm.dep.letter h h1 (f := [102]) (by decide +kernel) (j := 0) (by decide) (c := 102) rfl (by decide)).1
  · exact (Go.Proofs.YtbekfjjajggffaaDoor.pgm.dep.letter h h1 (f := [116]) (by decide +kernel) (j := 0) (by decide) (c := 116) rfl (by decide)).1
  · exact (Go.Proofs.YtbekfjjajggffaaDoor.pgm.dep.letter h h1 (f := [107]) (by decide +kernel) (j := 0) (by decide) (c := 107) rfl (by decide)).1

set_option maxRecDepth 100000 in
set_option maxHeartbeats 16000000 in
theorem kinds_walk {Ok : World → Prop} (K : Keeps Ok) (v : Value) (p : Pg) (w : World) (hw : Ok w) (hv : PG w v p) :
    Calls Tryd.prog 4 #[v] w fun e w' => e = .returned (.bool true) ∧ Below w.heap.size w w' := by
  have HOw := fun v W h => Lib.hid (own10_any v p W h)
  unfold OwnPost10 at HOw
  have HPr := fun v W h1 h2 => Lib.hid (K.prog v p W h1 h2 (small_pg hv))
  unfold ProgPost at HPr
  have HGd := fun v W h1 h2 => Lib.hid (refGood_any v p W h1 h2)
  have HL := fun W h => Lib.hid (lives_any K W h)
  have HMo := Lib.hid K.mono
  have HK := Lib.hid hw
  obtain ⟨A, B, C, na, nb, nc, ca, cb, cc, hve, -⟩ := id hv
  subst hve
  have hb0 : Below w.heap.size w (w.alloc (pgB (.slice A na ca) (.slice B nb cb) (.slice C nc cc))) := (Below.refl _ _).alloc (Nat.le_refl _) _
  have hz0 : (w.alloc (pgB (.slice A na ca) (.slice B nb cb) (.slice C nc cc))).heap.size = w.heap.size + 1 := World.size_alloc _ _
  have hx0 := heap_alloc_new w (pgB (.slice A na ca) (.slice B nb cb) (.slice C nc cc))
  have HO0 := HOw _ _ (hv.next hb0)
  have HB0 := Lib.hid hb0
  have HX0 := Lib.hid hx0
  have HZ0 := Lib.hid hz0
  unfold pgB at HO0 HB0 HX0 HZ0
  clear hv hw hb0 hx0 hz0 K
  go_enter Tryd.func4, Tryd.ntmps4
  go_upto_region 1 with fail
  generalize w.alloc (.cells #[.slice A na ca, .slice B nb cb, .slice C nc cc] 26) = W0 at *
  obtain ⟨x0, x1, x2, -, -, -⟩ := cells3 HX0.out
  go_wp2_with fail
  refine HO0.out.mono ?_
  rintro _ w1 ⟨v1, rfl, hS1, hb1⟩
  obtain ⟨D, E, F, cd, ce, cf, hve, -⟩ := hS1.now.1
  subst hve
  have hx1 := (hb1.block _ (lt_of_block HX0.out)).trans HX0.out
  have hbw := HB0.out.trans (hb1.mono HB0.out.size)
  have HC1 := Lib.hid ((⟨put3_below hbw (Nat.le_refl _) _ _ _, put3_same hx1 _ _ _, by
    rw [← HZ0.out]
    exact hS1.keep (by simp [put3, World.setCell]) fun g hl _ => put3_far (by have := HZ0.out; omega) _ _ _⟩ : Cp w (.slice D p.ds.length cd) (.slice E p.ws.length ce) (.slice F p.fs.length cf) p w1.heap.size (put3 w1 w.heap.size (.slice D p.ds.length cd) (.slice E p.ws.length ce) (.slice F p.fs.length cf))))
  clear x0 x1 x2
  obtain ⟨x0, x1, x2, xf0, xf1, xf2⟩ := cells3 hx1
  generalize w1.heap.size = hi at HC1
  unfold put3 at HC1
  clear HO0 HB0 HX0 HZ0 hS1 hb1 hbw hx1
  go_upto_region 2 with fail
  generalize ((w1.setCell ⟨w.heap.size, 0, none⟩ (.slice D p.ds.length cd)).setCell ⟨w.heap.size, 1, none⟩ (.slice E p.ws.length ce)).setCell ⟨w.heap.size, 2, none⟩ (.slice F p.fs.length cf) = W1 at *
  clear x0 x1 x2 xf0 xf1 xf2
  obtain ⟨x0, x1, x2, -, -, -⟩ := cells3 HC1.out.box
  have H3 := HOw _ _ HC1.out.st.now.2
  go_wp2_with fail
  refine H3.out.mono ?_
  rintro _ w3 ⟨v3, rfl, hS3, hb3⟩
  have HC3 := Lib.hid (HC1.out.next hb3)
  have H4 := HPr _ _ (HMo.out _ _ HK.out HC3.out.below) hS3.now.1
  clear HC1 hb3 H3 x0 x1 x2 hS3 HPr HOw
  go_wp2_with fail
  refine H4.out.mono ?_
  rintro _ w4 ⟨rfl, hb4⟩
  have HC4 := Lib.hid (HC3.out.next hb4)
  clear HC3 hb4 H4
  have HAs := fun h => Lib.hid (fun fn hfn x hx => asks (p := p) (fn := fn) (x := x) h hfn hx)
  have HCz := fun h => Lib.hid ((progV_zero (p := p) h).1)
  generalize progV p = q at *
  obtain ⟨q1, q2, q3⟩ := q
  dsimp only at *
  go_upto_region 3 with fail
  have HC5 := Lib.hid (HC4.out.next ((Below.refl _ _).alloc (Nat.le_refl _) (.cells #[.int .i64 (q1 : Int), .int .i64 (q2 : Int)] 37)))
  generalize w4.alloc (.cells #[.int .i64 (q1 : Int), .int .i64 (q2 : Int)] 37) = w5 at *
  generalize w4.heap.size = b5 at *
  clear HC4
  obtain ⟨x0, x1, x2, -, -, -⟩ := cells3 HC5.out.box
  by_cases h3 : q3 = 0
  · subst h3
    rw [show ((0 : Nat) : Int) = 0 from rfl]
    have HA := HAs rfl
    have hz := (HCz rfl).out
    clear HAs HCz HGd
    have hn20 := (funcs_few hz).1
    have HCo := Lib.hid (funcs_few hz).2
    have HDs := Lib.hid (chkP_zero hz).1
    clear hz
    go_wp2_with fail
    clear x0 x1 x2
    go_loopg [5] p.fs.length (fun gg i wr => ∃ fn : Nat, gg = p.fs.length - fn ∧ i = .int .i64 (fn : Int) ∧ fn ≤ p.fs.length ∧ Hid (Cp w (.slice D p.ds.length cd) (.slice E p.ws.length ce) (.slice F p.fs.length cf) p hi wr))
    case atStart => exact ⟨0, rfl, rfl, Nat.zero_le _, HC5⟩
    case round =>
      clear HC5
      obtain ⟨fn, hgg, rfl, hfn, HC⟩ := hrel
      obtain ⟨x0, x1, x2, -, -, -⟩ := cells3 HC.out.box
      by_cases hlt : fn < p.fs.length
      · have t0 : decide ((fn : Int) < (p.fs.length : Int)) = true := decide_eq_true (by omega)
        have hA2 := fun x hx => HA.out fn hlt x hx
        have hci := HCo.out _ (Go.Proofs.YtbekfjjajggffaaDoor.pgm.getD_in (d := Fn.zero) hlt)
        have HPt := fun (W : World) (h : PAt W (.agg #[.slice D p.ds.length cd, .slice E p.ws.length ce, .slice F p.fs.length cf]) p) => (pat_parts h).2.2 fn hlt
        go_wp2_with fail
        clear x0 x1 x2
        generalize p.fs.getD fn Fn.zero = f at *
        have HA2 := Lib.hid hA2
        have HPT := Lib.hid HPt
        clear hA2 HPt
        go_loopg [6] f.co.length (fun gk i wr => ∃ k : Nat, gk = f.co.length - k ∧ i = .int .i64 (k : Int) ∧ k ≤ f.co.length ∧ Hid (Cp w (.slice D p.ds.length cd) (.slice E p.ws.length ce) (.slice F p.fs.length cf) p hi wr))
        case atStart => exact ⟨0, rfl, rfl, Nat.zero_le _, HC⟩
        case round =>
          clear HC
          obtain ⟨k, hgk, rfl, hk, HC⟩ := hrel
          obtain ⟨x0, x1, x2, -, -, -⟩ := cells3 HC.out.box
          obtain ⟨gb, off, Aj, cj, rfl, hgb, ⟨f0, f1, f2⟩, hDj⟩ := HPT.out _ HC.out.st.now.1
          have k0 : (0 : Int) ≤ (fn : Int) := by omega
          have k1 : (fn : Int) < (p.fs.length : Int) := by omega
          by_cases hkl : k < f.co.length
          · have t1 : decide ((k : Int) < (f.co.length : Int)) = true := decide_eq_true (by omega)
            have k2 : (0 : Int) ≤ (k : Int) := by omega
            have k3 : (k : Int) < (f.co.length : Int) := by omega
            obtain ⟨b3, o3, rfl, hb3, c0, c1, c2⟩ := hDj k hkl
            have hax := HA2.out _ (Go.Proofs.YtbekfjjajggffaaDoor.pgm.getD_in (d := zero) hkl)
            have hcx := hci.2 _ (Go.Proofs.YtbekfjjajggffaaDoor.pgm.getD_in (d := zero) hkl)
            generalize f.co.getD k zero = x at *
            have HAX := Lib.hid hax
            have HCX := Lib.hid hcx
            have HC6 := Lib.hid (HC.out.next ((Below.refl _ _).alloc (Nat.le_refl _) (insBox x.1 x.2.1 x.2.2)))
            have hx6 := heap_alloc_new wr (insBox x.1 x.2.1 x.2.2)
            unfold insBox at HC6 hx6
            clear hax hcx
            go_upto_block 4 with fail
            generalize wr.alloc (.cells #[.int .i64 x.1, .int .i64 x.2.1, .int .i64 x.2.2] 46) = wr6 at *
            generalize wr.heap.size = bx at *
            clear x0 x1 x2 f0 f1 f2 c0 c1 c2 hDj HC
            obtain ⟨i0, i1, i2, -, -, -⟩ := cells3 hx6
            clear hx6
            go_cut [8] (fun kd wx => kd = .int .i64 (kindV x.1) ∧ Hid (wx = wr6))
            case first =>
              go_wp2
              all_goals go_meet
              all_goals refine ⟨?_, Lib.hid rfl⟩
              all_goals first
                | (have hq := eq_of_beq ‹(x.1 == _) = true›; rw [hq]; rfl)
                | (rw [kindV_other x.1 (by simp only [kindL, List.all_cons, List.all_nil, Bool.not_false, Bool.and_self, *])])
            case rest =>
              obtain ⟨rfl, HWc⟩ := hcut
              obtain rfl := HWc.out
              clear HWc
              obtain ⟨x0, x1, x2, -, -, -⟩ := cells3 HC6.out.box
              have hpp := pat_parts HC6.out.st.now.1
              obtain ⟨hDd, -, hFf⟩ := hpp
              obtain ⟨gb', off', Aj', cj', hCe, hgb', ⟨f0, f1, f2⟩, -⟩ := HPT.out _ HC6.out.st.now.1
              injection hCe with hCe
              injection hCe with e1 e2 _
              subst e1 e2
              obtain ⟨a1, a2, a3, a4, a5⟩ := HAX.out
              have HLw := Lib.hid (low_of HCX.out)
              obtain ⟨o, xa, xb⟩ := x
              dsimp only at *
              by_cases hkd : kindV o = 0
              · rw [hkd]
                clear hkd hDd hFf
                go_upto_region 36 with fail
                go_cut [151] (fun s wx => s = .bool false ∧ Hid (∃ m, wx = wc.drewN m))
                case first =>
                  rename_i mJ mK mA mM
                  revert mA mM
                  go_light
                  intro mA mM
                  as_aux_lemma =>
                    by_cases h26 : o = 26
                    · have b26 : (o == 26) = true := by simpa using h26
                      have b20 : (o == 20) = false := by simpa using (show o ≠ 20 by omega)
                      have b18 : (o == 18) = false := by simpa using (show o ≠ 18 by omega)
                      have b1 : (o == 1) = false := by simpa using (show o ≠ 1 by omega)
                      have hup := a2 h26
                      have hge : decide (xa ≥ (p.ws.length : Int)) = false := decide_eq_false (by omega)
                      clear a1 a2 a3 a4 a5 hup h26
                      go_quiet (fail)
                      (apply mM; refine Met.intro ?_; apply mA; (repeat apply Exists.intro); refine ⟨?_, rfl⟩)
                      exact ⟨rfl, Lib.hid ⟨_, rfl⟩⟩
                    have b26 : (o == 26) = false := by simpa using h26
                    by_cases h20 : o = 20
                    · have b20 : (o == 20) = true := by simpa using h20
                      have b18 : (o == 18) = false := by simpa using (show o ≠ 18 by omega)
                      have b1 : (o == 1) = false := by simpa using (show o ≠ 1 by omega)
                      have hup := a3 h20
                      have hge : decide (xa ≥ (p.fs.length : Int)) = false := decide_eq_false (by omega)
                      clear a1 a2 a3 a4 a5 hup h20
                      go_quiet (fail)
                      (apply mM; refine Met.intro ?_; apply mA; (repeat apply Exists.intro); refine ⟨?_, rfl⟩)
                      exact ⟨rfl, Lib.hid ⟨_, rfl⟩⟩
                    have b20 : (o == 20) = false := by simpa using h20
                    by_cases h18 : o = 18
                    · have b18 : (o == 18) = true := by simpa using h18
                      have b1 : (o == 1) = false := by simpa using (show o ≠ 1 by omega)
                      have hup := a4 h18
                      have hge : decide (xa ≥ (f.co.length : Int)) = false := decide_eq_false (by omega)
                      clear a1 a2 a3 a4 a5 hup h18
                      go_quiet (fail)
                      (apply mM; refine Met.intro ?_; apply mA; (repeat apply Exists.intro); refine ⟨?_, rfl⟩)
                      exact ⟨rfl, Lib.hid ⟨_, rfl⟩⟩
                    have b18 : (o == 18) = false := by simpa using h18
                    by_cases h1 : o = 1
                    · have b1 : (o == 1) = true := by simpa using h1
                      have hup := a5 h1
                      have hge : decide (xa ≥ (f.lo)) = false := decide_eq_false (by omega)
                      clear a1 a2 a3 a4 a5 hup h1
                      go_quiet (fail)
                      (apply mM; refine Met.intro ?_; apply mA; (repeat apply Exists.intro); refine ⟨?_, rfl⟩)
                      exact ⟨rfl, Lib.hid ⟨_, rfl⟩⟩
                    have b1 : (o == 1) = false := by simpa using h1
                    clear a1 a2 a3 a4 a5 h26 h20 h18 h1
                    go_quiet (fail)
                    (apply mM; refine Met.intro ?_; apply mA; (repeat apply Exists.intro); refine ⟨?_, rfl⟩)
                    exact ⟨rfl, Lib.hid ⟨_, rfl⟩⟩
                case rest =>
                  obtain ⟨rfl, HWd⟩ := hcut
                  obtain ⟨m, rfl⟩ := HWd.out
                  go_wp2
                  go_roundg (f.co.length - (k + 1))
                  case measure => omega
                  case rel => exact ⟨k + 1, rfl, by go_num, by omega, Lib.hid (HC6.out.next (dep_drewN (Below.refl _ _) _))⟩
              · obtain ⟨q0, q1, q2⟩ := a1 hkd
                obtain ⟨j, rfl⟩ : ∃ j : Nat, xa = (j : Int) := ⟨xa.toNat, by omega⟩
                rw [Int.toNat_natCast] at q2
                obtain ⟨bD, oD, rfl, hbD, dd0, dd1, dd2⟩ := hDd j (by omega)
                rw [q2] at dd0
                have g1 : decide (kindV o > 0) = true := decide_eq_true (kindV_pos hkd)
                have g2 : decide ((j : Int) ≥ (p.ds.length : Int)) = false := decide_eq_false (by omega)
                have g3 : (kindV o != kindV o) = false := by simp
                have g4 : (0 : Int) ≤ (j : Int) := by omega
                have b26 : (o == 26) = false := beq_eq_false_iff_ne.2 (fun e => hkd (by rw [e]; rfl))
                have b20 : (o == 20) = false := beq_eq_false_iff_ne.2 (fun e => hkd (by rw [e]; rfl))
                have b18 : (o == 18) = false := beq_eq_false_iff_ne.2 (fun e => hkd (by rw [e]; rfl))
                have b1 : (o == 1) = false := beq_eq_false_iff_ne.2 (fun e => hkd (by rw [e]; rfl))
                clear hDd hFf hkd dd1 dd2 q2 q0 a1 a2 a3 a4 a5
                generalize kindV o = kd at *
                go_upto_region 36 with fail
                go_cut [151] (fun s wx => s = .bool false ∧ Hid (∃ m, wx = wc.drewN m))
                case first =>
                  rename_i mJ mK mA mM
                  revert mA mM
                  go_light
                  intro mA mM
                  as_aux_lemma =>
                    go_quiet (fail)
                    (apply mM; refine Met.intro ?_; apply mA; (repeat apply Exists.intro); refine ⟨?_, rfl⟩)
                    exact ⟨rfl, Lib.hid ⟨_, rfl⟩⟩
                case rest =>
                  obtain ⟨rfl, HWd⟩ := hcut
                  obtain ⟨m, rfl⟩ := HWd.out
                  go_wp2
                  go_roundg (f.co.length - (k + 1))
                  case measure => omega
                  case rel => exact ⟨k + 1, rfl, by go_num, by omega, Lib.hid (HC6.out.next (dep_drewN (Below.refl _ _) _))⟩
          · have t1 : decide ((k : Int) < (f.co.length : Int)) = false := decide_eq_false (by omega)
            go_wp2
            go_roundg (p.fs.length - (fn + 1))
            case measure => omega
            case rel => exact ⟨fn + 1, rfl, by go_num, by omega, HC⟩
      · have t0 : decide ((fn : Int) < (p.fs.length : Int)) = false := decide_eq_false (by omega)
        go_wp2_with fail
        refine (HL _ (HMo.out _ _ HK.out HC.out.below)).out.mono ?_
        rintro _ w7 ⟨rfl, hb7⟩
        have HB7 := Lib.hid (HC.out.below.trans (hb7.mono HC.out.below.size))
        clear hb7
        go_wp2
        go_ret
        exact ⟨rfl, HB7.out⟩
  · have e0 : ((q3 : Int) != 0) = true := by simpa using h3
    have H6 := HGd _ _ HC5.out.st.now.1 HC5.out.st.now.2
    rw [decide_eq_false h3] at H6
    clear HAs HCz HGd h3
    go_wp2_with fail
    refine H6.out.mono ?_
    rintro _ w6 ⟨rfl, hb6⟩
    have HC6 := Lib.hid (HC5.out.next hb6)
    clear hb6 H6 HC5 x0 x1 x2
    go_wp2_with fail
    refine (HL _ (HMo.out _ _ HK.out HC6.out.below)).out.mono ?_
    rintro _ w7 ⟨rfl, hb7⟩
    have HB7 := Lib.hid (HC6.out.below.trans (hb7.mono HC6.out.below.size))
    clear hb7
    go_wp2
    go_ret
    exact ⟨rfl, HB7.out⟩
end Go.Proofs.YtbekfjjajggffaaDoor.pgm.ver
