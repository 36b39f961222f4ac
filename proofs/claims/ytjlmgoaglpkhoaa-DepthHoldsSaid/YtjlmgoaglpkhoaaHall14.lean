/-
  Texts of one claim in one file: HWalks, HStep, HMem, InNum, Span, HReach, HStart, HNext, HCalls, HBehind, HLook, HOf, HMostP, Shut. Each has its own sentence, with its conditions.
-/
import Derived.Test.YtjlmgoaglpkhoaaHall6
import Derived.Test.YtjlmgoaglpkhoaaHall11
import Derived.Test.YtjlmgoaglpkhoaaHall13
import Derived.Test.YtjlmgoaglpkhoaaHall2
import Derived.Laws.Rows
import Derived.Test.YtjlmgoaglpkhoaaHall12
import Derived.LoopTactic
import Derived.Outline
import Derived.RegionTactic
import Derived.ChangeAlike
import Derived.Laws.MakeOwn
import Derived.Deep.RegionWith
import Derived.BigQuiet
import Derived.Deep.LoopGhost
import Derived.Deep.QuietTactic
import Derived.StillTailTactics
import Derived.Test.YtjlmgoaglpkhoaaRows
import Derived.OpenShut
import Derived.Below
import Derived.ChangeSame
import Derived.ChangeArms
import Derived.Carry
import Derived.ProofKit
import Derived.WideKeyArgs
import Derived.WideShapes
import Derived.LaidMore
import Derived.Lib.LaidTab
/-
  In a function without an error what is taken is there, whichever way it goes: the walk over what is asked of the program's calls. No condition but that the program and the ways came in.
-/
namespace Go.Proofs.Ytjlmgoaglpkhoaa.pgm.dep
open Go.RowKit Go.ChangeShapes
open Go.Proofs.Ytjlmgoaglpkhoaa.pgm
open Go.Proofs.Ytjlmgoaglpkhoaa.objs (De zero DAt CellsAt cells3)
open Go.Proofs.Ytjlmgoaglpkhoaa.nums (NAt NAt.next getD_any)
set_option linter.unusedVariables false

/-- A list of yes and no, from where a slice begins. -/
def YAt (w : World) (A : Option Addr) (n : Nat) (l : Nat → Bool) : Prop := ∀ j, j < n → ∃ b off, A = some ⟨b, off, none⟩ ∧ b < w.heap.size ∧ w.cell? ⟨b, off + j, none⟩ = some (.bool (l j))
theorem YAt.next {w w' : World} {A : Option Addr} {n : Nat} {l : Nat → Bool} (h : YAt w A n l) (hb : Below w.heap.size w w') : YAt w' A n l := fun j hj => by
  obtain ⟨b, off, h1, h2, h3⟩ := h j hj
  exact ⟨b, off, h1, Nat.lt_of_lt_of_le h2 hb.size, (hb.cell (p := ⟨b, off + j, none⟩) h2).trans h3⟩
/-- What lies there between any two rounds. -/
structure Wo (w : World) (a b c : Value) (p : Pg) (D Aj Y : Option Addr) (n : Nat) (yl : Nat → Bool) (dp : List Int) (co : List De) (W : World) : Prop where
  below : Below w.heap.size w W
  box : W.heap[w.heap.size]? = some (pgB a b c)
  prog : PAt W (.agg #[a, b, c]) p
  nums : NAt W D dp
  code : DAt W Aj co
  yes : YAt W Y n yl
theorem Wo.next {w W W' : World} {a b c : Value} {p : Pg} {D Aj Y : Option Addr} {n : Nat} {yl : Nat → Bool} {dp : List Int} {co : List De} (h : Wo w a b c p D Aj Y n yl dp co W) (hb : Below W.heap.size W W') : Wo w a b c p D Aj Y n yl dp co W' :=
  ⟨h.below.trans (hb.mono h.below.size), (hb.block _ (lt_of_block h.box)).trans h.box, h.prog.next hb, h.nums.next hb, h.code.next hb, h.yes.next hb⟩
theorem chk_funcs {p : Pg} (h : chkP p = 0) : p.fs.length ≤ 16 ∧ (∀ f ∈ p.fs, 0 ≤ f.ar ∧ f.ar ≤ 8) ∧ ∀ f ∈ p.fs, f.co.length ≤ 200 ∧ ∀ x ∈ f.co, chkI x = 0 := by
  obtain ⟨_, _, _, _, g5, g6⟩ := chkP_zero h
  refine ⟨g5, fun f hf => ?_, fun f hf => ?_⟩
  · have := (chkFn_zero (g6 f hf)).1
    omega
  · have := chkFn_zero (g6 f hf)
    exact ⟨this.2.2.1, this.2.2.2⟩

set_option maxRecDepth 100000 in
set_option maxHeartbeats 8000000 in
theorem holds_walk (K : Keeps) (v : Value) (p : Pg) (fn : Int) (Y : Option Addr) (n cy : Nat) (yl : Nat → Bool) (w : World) (hv : PG w v p) (hfn : I64 fn) (hY : YAt w Y n yl) :
    Calls Try.prog 3 #[v, .int .i64 fn, .slice Y n cy] w fun e w' => e = .returned (.bool true) ∧ Below w.heap.size w w' := by
  have HOw := fun v W h => Lib.hid (own10_any v p W h)
  unfold OwnPost10 at HOw
  have HRc := fun v W h => Lib.hid (refCheck10_any v p W h)
  unfold NumPost at HRc
  have HL := fun W => Lib.hid (lives_any K W)
  by_cases hz : chkP p = 0
  · have hv2 := hv.whole hz
    obtain ⟨A, B, C, ca, cb, cc, hve, -, -, hF⟩ := id hv2
    subst hve
    have HF := Lib.hid hF
    have HK := fun v W h => Lib.hid (K.of v p fn W h hz hfn)
    unfold OfPost at HK
    have HMo := fun A l c W h1 h2 h3 => Lib.hid (K.most A l c W h1 h2 h3)
    obtain ⟨hfl, hfa, hfc⟩ := chk_funcs hz
    rw [hz] at HRc
    have hb0 : Below w.heap.size w (w.alloc (pgB (.slice A p.ds.length ca) (.slice B p.ws.length cb) (.slice C p.fs.length cc))) := (Below.refl _ _).alloc (Nat.le_refl _) _
    have hx0 := heap_alloc_new w (pgB (.slice A p.ds.length ca) (.slice B p.ws.length cb) (.slice C p.fs.length cc))
    have HV0 := Lib.hid (hv.next hb0)
    have HA0 := Lib.hid (hv2.next hb0)
    have HB0 := Lib.hid hb0
    have HY0 := Lib.hid (hY.next hb0)
    unfold pgB at HV0 HB0 hx0 HA0 HY0
    clear hv hv2 hb0 hY hF
    go_enter Try.func3, Try.ntmps3
    go_upto_region 1 with fail
    generalize w.alloc (.cells #[.slice A p.ds.length ca, .slice B p.ws.length cb, .slice C p.fs.length cc] 26) = W0 at *
    obtain ⟨x0, x1, x2, -, -, -⟩ := cells3 hx0
    have HX0 := Lib.hid hx0
    clear hx0
    go_wp2_with fail
    refine (HRc _ _ HV0.out.head).out.mono ?_
    rintro _ w1 ⟨rfl, hb1⟩
    have HB1 := Lib.hid (HB0.out.trans (hb1.mono HB0.out.size))
    have HV1 := Lib.hid (HV0.out.next hb1)
    have HA1 := Lib.hid (HA0.out.next hb1)
    have HY1 := Lib.hid (HY0.out.next hb1)
    have hx1 := (hb1.block _ (lt_of_block HX0.out)).trans HX0.out
    have HX1 := Lib.hid hx1
    clear HB0 HV0 HA0 HY0 HX0 hb1 HRc x0 x1 x2
    obtain ⟨x0, x1, x2, -, -, -⟩ := cells3 hx1
    clear hx1
    go_wp2_with fail
    refine (HOw _ _ HV1.out).out.mono ?_
    rintro _ w2 ⟨v2, rfl, hS2, hb2⟩
    have HB2 := Lib.hid (HB1.out.trans (hb2.mono HB1.out.size))
    have HA2 := Lib.hid (HA1.out.next hb2)
    have HY2 := Lib.hid (HY1.out.next hb2)
    have HX2 := Lib.hid ((hb2.block _ (lt_of_block HX1.out)).trans HX1.out)
    have HP2 := Lib.hid hS2.now.1
    clear HB1 HV1 HA1 HY1 HX1 hb2 hS2 HOw x0 x1 x2
    go_wp2_with fail
    refine (HK _ _ HP2.out).out.mono ?_
    rintro _ w3 ⟨D, cd, rfl, hN3, hb3⟩
    have HB3 := Lib.hid (HB2.out.trans (hb3.mono HB2.out.size))
    have HA3 := Lib.hid (HA2.out.next hb3)
    have HY3 := Lib.hid (HY2.out.next hb3)
    have hx3 := (hb3.block _ (lt_of_block HX2.out)).trans HX2.out
    have HX3 := Lib.hid hx3
    have HN3 := Lib.hid hN3
    obtain ⟨x0, x1, x2, -, -, -⟩ := cells3 hx3
    clear HB2 HA2 HY2 HX2 hb3 hN3 HP2 HK hx3
    obtain ⟨dp, pl, er, hq⟩ : ∃ dp pl er, depths p.fs fn = (dp, pl, er) := ⟨_, _, _, rfl⟩
    rw [hq] at HN3 ⊢
    dsimp only at HN3 ⊢
    by_cases he : er = 0
    · subst he
      rw [show ((0 : Nat) : Int) = 0 from rfl]
      obtain ⟨hf0, hf1, hpos, hsd, hrg⟩ := depths_sound hq
      obtain ⟨f, rfl⟩ : ∃ f : Nat, fn = (f : Int) := ⟨fn.toNat, by omega⟩
      rw [Int.toNat_natCast] at hpos hsd
      have hfl2 : f < p.fs.length := by omega
      have hin := getD_in (d := Fn.zero) hfl2
      obtain ⟨hcl, hci⟩ := hfc _ hin
      obtain ⟨g, off, Aj, cj, rfl, hg, ⟨f0, f1, f2⟩, hD⟩ := HF.out.next HB3.out f hfl2
      generalize (p.fs.getD f Fn.zero).co = co at *
      have hlq := hsd.1
      rw [hlq]
      have HMo2 : ∀ W, NAt W D dp → Hid (Calls Try.prog 9 #[.slice D co.length cd] W fun e w' => e = .returned (.int .i64 (most dp)) ∧ Below W.heap.size W w') := fun W h => by
        rw [← hlq]
        exact HMo D dp cd W h (by omega) (fun x hx => by have := hrg x hx; unfold I64; omega)
      have HWo := Lib.hid (⟨HB3.out, HX3.out, HA3.out, HN3.out, hD, HY3.out⟩ : Wo w _ _ _ p D Aj Y n yl dp co w3)
      have hd0 := hsd.2.1
      have HS := Lib.hid hsd.2.2
      have HCI := Lib.hid hci
      have HFa := Lib.hid hfa
      have HFl := Lib.hid hfl
      clear hq hsd hci hin hfc hfa hfl HMo HB3 HA3 HY3 HX3 HN3 HF
      have hld := hlq
      clear hlq
      have HLD := Lib.hid hld
      clear hld
      have q0 : decide ((f : Int) < (p.fs.length : Int)) = true := decide_eq_true hf1
      go_upto_region 9 with fail
      clear x0 x1 x2 f0 f1 f2 hD
      go_wp2_with fail
      go_loopw [11, 12, 13] (fun at' d i wr => ∃ (a j : Nat), at' = .int .i64 (a : Int) ∧ d = .int .i64 (dp.getD a (-1)) ∧ i = .int .i64 (j : Int) ∧ a < co.length ∧ 0 ≤ dp.getD a (-1) ∧ j ≤ 400 ∧ Hid (Wo w (.slice A p.ds.length ca) (.slice B p.ws.length cb) (.slice (some ⟨g, off, none⟩) p.fs.length cc) p D Aj Y n yl dp co wr)) (fun _ _ i _ => 400 - (intOf i).toNat)
      case atStart => exact ⟨0, 0, rfl, by rw [hd0], rfl, hpos, by rw [hd0]; exact Int.le_refl 0, Nat.zero_le _, HWo⟩
      case round =>
        clear HWo
        obtain ⟨a, j, rfl, rfl, rfl, ha, hda, hj, HW⟩ := hrel
        obtain ⟨b1, o1, hDe, hb1, n1⟩ := HW.out.nums a (by rw [HLD.out]; exact ha)
        subst hDe
        rw [getD_any (by rw [HLD.out]; exact ha) 0 (-1)] at n1
        have hx := HCI.out _ (getD_in (d := zero) ha)
        obtain ⟨hs0, hs1, hs2⟩ := HS.out a ha hda
        have hge : dp.getD a (-1) ≤ most dp := most_ge dp _ (getD_in (by rw [HLD.out]; exact ha))
        have hle : dp.getD a (-1) ≤ 16 := by have := hrg _ (getD_in (d := (-1 : Int)) (l := dp) (k := a) (by rw [HLD.out]; exact ha)); omega
        generalize hdd : dp.getD a (-1) = dd at *
        have HDD := Lib.hid hdd
        clear hdd
        by_cases hlt : j < n ∧ j < 400
        · obtain ⟨hj1, hj2⟩ := hlt
          have t1 : decide ((j : Int) < (n : Int)) = true := decide_eq_true (by omega)
          have t2 : decide ((j : Int) < 400) = true := decide_eq_true (by omega)
          have t3 : decide (dd > most dp) = false := decide_eq_false (by omega)
          have t4 : decide ((a : Int) ≥ (co.length : Int)) = false := decide_eq_false (by omega)
          have t5 : (dd != dd) = false := by simp
          have hM := HMo2 _ HW.out.nums
          have HS2 := Lib.hid hs2
          have HGE := Lib.hid hge
          clear hs2 hge
          go_wp2_with fail
          refine hM.out.mono ?_
          rintro _ w4 ⟨rfl, hb4⟩
          have HW4 := Lib.hid (HW.out.next hb4)
          clear hb4 HW n1 hM
          obtain ⟨b2, o2, hAe, hb2, c0, c1, c2⟩ := HW4.out.code a ha
          subst hAe
          have HXI := hx
          have HBh := fun W h => Lib.hid (refBehind_any (.agg #[.slice A p.ds.length ca, .slice B p.ws.length cb, .slice (some ⟨g, off, none⟩) p.fs.length cc]) p (co.getD a zero) dd W h HFl.out HFa.out hx hda hle)
          have hpl := fun h => place_small hx h
          generalize co.getD a zero = x at *
          generalize behind p.fs x dd = dn at *
          have hb5 : Below w4.heap.size w4 (w4.alloc (Go.Proofs.Ytjlmgoaglpkhoaa.oper.insBox x.1 x.2.1 x.2.2)) := (Below.refl _ _).alloc (Nat.le_refl _) _
          have hx5 := heap_alloc_new w4 (Go.Proofs.Ytjlmgoaglpkhoaa.oper.insBox x.1 x.2.1 x.2.2)
          have HW5 := Lib.hid (HW4.out.next hb5)
          unfold Go.Proofs.Ytjlmgoaglpkhoaa.oper.insBox at hx5 HW5
          clear hb5 HW4
          go_upto_region 15 with fail
          generalize w4.alloc (.cells #[.int .i64 x.1, .int .i64 x.2.1, .int .i64 x.2.2] 40) = W5 at *
          generalize w4.heap.size = bx at *
          clear c0 c1 c2
          obtain ⟨y0, y1, y2, -, -, -⟩ := cells3 hx5
          have hbx := HW5.out.box
          unfold pgB at hbx
          obtain ⟨x0, x1, x2, -, -, -⟩ := cells3 hbx
          clear hbx
          go_wp2_with fail
          refine (HBh _ HW5.out.prog).out.mono ?_
          rintro _ w6 ⟨rfl, hb6⟩
          have HW6 := Lib.hid (HW5.out.next hb6)
          have hx6 := (hb6.block _ (lt_of_block hx5)).trans hx5
          clear hb6 HW5 hx5 x0 x1 x2 y0 y1 y2 HBh
          obtain ⟨y0, y1, y2, -, -, -⟩ := cells3 hx6
          clear hx6
          have u1 : decide (dn < 0) = false := decide_eq_false (by omega)
          have u2 : decide (dn > 16) = false := decide_eq_false (by omega)
          by_cases h21 : x.1 = 21
          · have v1 : (x.1 == 21) = true := by simp [h21]
            clear hpl
            go_wp2_with fail
            refine (HL _).out.mono ?_
            rintro _ w7 ⟨rfl, hb7⟩
            have HB7 := Lib.hid (HW6.out.below.trans (hb7.mono HW6.out.below.size))
            clear hb7
            go_wp2
            go_ret
            exact ⟨rfl, HB7.out⟩
          · have v1 : (x.1 == 21) = false := by simpa using h21
            by_cases h18 : x.1 = 18
            · have v2 : (x.1 == 18) = true := by simp [h18]
              obtain ⟨p0, p1⟩ := hpl (.inl h18)
              obtain ⟨t, ht⟩ : ∃ t : Nat, x.2.1 = (t : Int) := ⟨x.2.1.toNat, by omega⟩
              have hw := HS2.out t (by unfold ways; rw [if_neg (fun h => h.1 h18), if_pos (.inl h18), ht]; simp)
              rw [ht] at y1
              clear hpl h21 h18 HS2
              go_wp2_with fail
              go_roundw
              case rel => exact ⟨t, j + 1, rfl, by rw [hw.2], by go_num, hw.1, by rw [hw.2]; exact hs0, by omega, HW6⟩
              case measure => simp [intOf]; omega
            · have v2 : (x.1 == 18) = false := by simpa using h18
              by_cases h19 : x.1 = 19
              · have v3 : (x.1 == 19) = true := by simp [h19]
                obtain ⟨by1, oy, hYe, hby, ny⟩ := HW6.out.yes j hj1
                subst hYe
                generalize hyy : yl j = yy at *
                have HYY := Lib.hid hyy
                clear hyy
                cases yy with
                | true =>
                  obtain ⟨p0, p1⟩ := hpl (.inr h19)
                  obtain ⟨t, ht⟩ : ∃ t : Nat, x.2.1 = (t : Int) := ⟨x.2.1.toNat, by omega⟩
                  have hw := HS2.out t (by unfold ways; rw [if_pos ⟨h18, h21⟩, if_pos (.inr h19), ht]; simp)
                  rw [ht] at y1
                  clear hpl h21 h18 h19 HS2
                  go_wp2_with fail
                  go_roundw
                  case rel => exact ⟨t, j + 1, rfl, by rw [hw.2], by go_num, hw.1, by rw [hw.2]; exact hs0, by omega, HW6⟩
                  case measure => simp [intOf]; omega
                | false =>
                  have hw := HS2.out (a + 1) (by unfold ways; rw [if_pos ⟨h18, h21⟩]; simp)
                  clear hpl h21 h18 h19 HS2
                  go_wp2_with fail
                  go_roundw
                  case rel => exact ⟨a + 1, j + 1, by go_num, by rw [hw.2], by go_num, hw.1, by rw [hw.2]; exact hs0, by omega, HW6⟩
                  case measure => simp [intOf]; omega
              · have v3 : (x.1 == 19) = false := by simpa using h19
                have hw := HS2.out (a + 1) (by unfold ways; rw [if_pos ⟨h18, h21⟩]; simp)
                clear hpl h21 h18 h19 HS2
                go_wp2_with fail
                go_roundw
                case rel => exact ⟨a + 1, j + 1, by go_num, by rw [hw.2], by go_num, hw.1, by rw [hw.2]; exact hs0, by omega, HW6⟩
                case measure => simp [intOf]; omega
        · have q5 : decide ((a : Int) < (co.length : Int)) = true := decide_eq_true (by omega)
          have q6 : (dd == dd) = true := by simp
          by_cases h1 : j < n
          · have t1 : decide ((j : Int) < (n : Int)) = true := decide_eq_true (by omega)
            have t2 : decide ((j : Int) < 400) = false := decide_eq_false (by omega)
            clear hlt hs2
            go_wp2_with fail
            refine (HL _).out.mono ?_
            rintro _ w7 ⟨rfl, hb7⟩
            have HB7 := Lib.hid (HW.out.below.trans (hb7.mono HW.out.below.size))
            clear hb7
            go_wp2
            go_ret
            exact ⟨rfl, HB7.out⟩
          · have t1 : decide ((j : Int) < (n : Int)) = false := decide_eq_false (by omega)
            clear hlt hs2
            go_wp2_with fail
            refine (HL _).out.mono ?_
            rintro _ w7 ⟨rfl, hb7⟩
            have HB7 := Lib.hid (HW.out.below.trans (hb7.mono HW.out.below.size))
            clear hb7
            go_wp2
            go_ret
            exact ⟨rfl, HB7.out⟩
    · have he' : ((er : Int) != 0) = true := by simpa using he
      clear hq he
      go_wp2_with fail
      refine (HL _).out.mono ?_
      rintro _ w4 ⟨rfl, hb4⟩
      have HB4 := Lib.hid (HB3.out.trans (hb4.mono HB3.out.size))
      clear hb4
      go_wp2
      go_ret
      exact ⟨rfl, HB4.out⟩
  · obtain ⟨A, B, C, na, nb, nc, ca, cb, cc, hve, -⟩ := id hv
    subst hve
    generalize hcp : chkP p = cp at *
    have hb0 : Below w.heap.size w (w.alloc (pgB (.slice A na ca) (.slice B nb cb) (.slice C nc cc))) := (Below.refl _ _).alloc (Nat.le_refl _) _
    have hx0 := heap_alloc_new w (pgB (.slice A na ca) (.slice B nb cb) (.slice C nc cc))
    have HV0 := Lib.hid (hv.next hb0)
    have HB0 := Lib.hid hb0
    unfold pgB at HV0 HB0 hx0
    have hz' : ((cp : Int) != 0) = true := by simpa using hz
    clear hv hb0 hY hz HOw hfn
    go_enter Try.func3, Try.ntmps3
    go_upto_region 1 with fail
    generalize w.alloc (.cells #[.slice A na ca, .slice B nb cb, .slice C nc cc] 26) = W0 at *
    obtain ⟨x0, x1, x2, -, -, -⟩ := cells3 hx0
    go_wp2_with fail
    refine (HRc _ _ HV0.out.head).out.mono ?_
    rintro _ w1 ⟨rfl, hb1⟩
    have HB1 := Lib.hid (HB0.out.trans (hb1.mono HB0.out.size))
    clear HB0 HV0 hb1 HRc x0 x1 x2 hx0
    go_wp2_with fail
    refine (HL _).out.mono ?_
    rintro _ w2 ⟨rfl, hb2⟩
    have HB2 := Lib.hid (HB1.out.trans (hb2.mono HB1.out.size))
    clear hb2
    go_wp2
    go_ret
    exact ⟨rfl, HB2.out⟩
end Go.Proofs.Ytjlmgoaglpkhoaa.pgm.dep

/-
  How the program finds depths, place by place, and that it comes to the chapter's own way: plain mathematics of lists. No condition.
-/
namespace Go.Proofs.Ytjlmgoaglpkhoaa.pgm.dep
open Go.Proofs.Ytjlmgoaglpkhoaa.pgm
open Go.Proofs.Ytjlmgoaglpkhoaa.objs (De zero)
open Go.Proofs.Ytjlmgoaglpkhoaa.oper (pops numb ly goesB)
set_option linter.unusedVariables false

/-- What the program keeps: depths, which are to be looked at, and a place below which none of them stands. -/
structure Z where
  dp : List Int
  ah : List Bool
  le : Nat
/-- It goes to a place. -/
def reachZ (n : Nat) (d : Int) (z : Z) (t : Nat) : Z × Nat :=
  if n ≤ t then (z, 3) else if z.dp.getD t (-1) = -1 then (⟨z.dp.set t d, z.ah.set t true, min z.le t⟩, 0) else if z.dp.getD t (-1) ≠ d then (z, 2) else (z, 0)
/-- How many values stand there behind an instruction, or what is wrong with that. -/
def behindE (fs : List Fn) (x : De) (d : Int) : Int × Nat :=
  if d < pops x.1 x.2.2 (argsOf fs x) then (0, 2) else if 16 < d + (numb ly x.1 - pops x.1 x.2.2 (argsOf fs x)) then (0, 4) else (d + (numb ly x.1 - pops x.1 x.2.2 (argsOf fs x)), 0)
/-- It goes on from an instruction behind which so many values stand. -/
def goZ (n : Nat) (x : De) (d : Int) (a : Nat) (z : Z) : Z × Nat :=
  if goesB x.1 = true then
    if (reachZ n d z (a + 1)).2 ≠ 0 then reachZ n d z (a + 1)
    else if x.1 = 18 ∨ x.1 = 19 then reachZ n d (reachZ n d z (a + 1)).1 x.2.1.toNat else ((reachZ n d z (a + 1)).1, 0)
  else if x.1 = 18 ∨ x.1 = 19 then reachZ n d z x.2.1.toNat else (z, 0)
/-- It looks at an instruction. -/
def lookZ (n : Nat) (fs : List Fn) (x : De) (a : Nat) (z : Z) : Z × Nat :=
  if (behindE fs x (z.dp.getD a (-1))).2 ≠ 0 then (z, (behindE fs x (z.dp.getD a (-1))).2) else goZ n x (behindE fs x (z.dp.getD a (-1))).1 a z

/-- What the program keeps is what the chapter keeps: of those that are looked at the depths are known. -/
structure R (n : Nat) (dp : List Int) (dn : List Bool) (z : Z) : Prop where
  same : z.dp = dp
  ld : dp.length = n
  ln : dn.length = n
  la : z.ah.length = n
  le : z.le ≤ n
  ahead : ∀ i, i < n → z.ah.getD i false = (!dn.getD i true && decide (0 ≤ dp.getD i (-1)))
  least : ∀ i, i < z.le → z.ah.getD i false = false
  known : ∀ i, i < n → dn.getD i true = true → 0 ≤ dp.getD i (-1)
  rng : ∀ x ∈ dp, -1 ≤ x ∧ x ≤ 16

theorem R.at {n : Nat} {dp : List Int} {dn : List Bool} {z : Z} (h : R n dp dn z) {t : Nat} (ht : t < n) : -1 ≤ dp.getD t (-1) ∧ dp.getD t (-1) ≤ 16 := h.rng _ (Go.Proofs.Ytjlmgoaglpkhoaa.pgm.getD_in (by rw [h.ld]; exact ht))
theorem set_same {α : Type} {l : List α} {t : Nat} {d x : α} (ht : t < l.length) (h : l.getD t d = x) : l.set t x = l := by
  rw [List.getD_eq_getElem?_getD, List.getElem?_eq_getElem ht] at h
  subst h
  simp
theorem lead_one (n : Nat) (d : Int) (t : Nat) (dp : List Int) : lead n d [t] dp = if n ≤ t then (dp, 3) else if 0 ≤ dp.getD t (-1) ∧ dp.getD t (-1) ≠ d then (dp, 2) else (dp.set t d, 0) := rfl
theorem lead_two (n : Nat) (d : Int) (s t : Nat) (dp : List Int) : lead n d [s, t] dp = if (lead n d [s] dp).2 ≠ 0 then lead n d [s] dp else lead n d [t] (lead n d [s] dp).1 := by
  rw [lead_one]
  show (if n ≤ s then (dp, 3) else if 0 ≤ dp.getD s (-1) ∧ dp.getD s (-1) ≠ d then (dp, 2) else lead n d [t] (dp.set s d)) = _
  by_cases h1 : n ≤ s
  · rw [if_pos h1, if_pos h1, if_pos (show (3 : Nat) ≠ 0 by decide)]
  · rw [if_neg h1, if_neg h1]
    by_cases h2 : 0 ≤ dp.getD s (-1) ∧ dp.getD s (-1) ≠ d
    · rw [if_pos h2, if_pos h2, if_pos (show (2 : Nat) ≠ 0 by decide)]
    · rw [if_neg h2, if_neg h2, if_neg (show ¬ (0 : Nat) ≠ 0 by decide)]
/-- One place. -/
theorem R.reach {n : Nat} {dp : List Int} {dn : List Bool} {z : Z} (h : R n dp dn z) {d : Int} (h0 : 0 ≤ d) (h1 : d ≤ 16) (t : Nat) :
    (reachZ n d z t).2 = (lead n d [t] dp).2 ∧ R n (lead n d [t] dp).1 dn (reachZ n d z t).1 := by
  rw [lead_one]
  unfold reachZ
  rw [h.same]
  by_cases ht : n ≤ t
  · rw [if_pos ht, if_pos ht]
    exact ⟨rfl, h⟩
  · have hlt : t < n := by omega
    have hr := h.at hlt
    rw [if_neg ht, if_neg ht]
    by_cases he : dp.getD t (-1) = -1
    · rw [if_pos he, if_neg (by omega)]
      have hdn : dn.getD t true = false := by
        cases hd : dn.getD t true with
        | false => rfl
        | true => have := h.known t hlt hd; omega
      refine ⟨rfl, rfl, by rw [List.length_set]; exact h.ld, h.ln, by rw [List.length_set]; exact h.la, by show min z.le t ≤ n; have := h.le; omega, fun i hi => ?_, fun i hi => ?_, fun i hi hd => ?_, fun x hx => ?_⟩
      · show (z.ah.set t true).getD i false = _
        rw [getD_set, getD_set, h.la, h.ld]
        by_cases hi2 : t = i
        · subst hi2
          rw [if_pos ⟨rfl, hlt⟩, if_pos ⟨rfl, hlt⟩, hdn, decide_eq_true h0]
          rfl
        · rw [if_neg (fun e => hi2 e.1), if_neg (fun e => hi2 e.1)]
          exact h.ahead i hi
      · show (z.ah.set t true).getD i false = false
        have hi' : i < min z.le t := hi
        rw [getD_set, if_neg (fun e => by omega)]
        exact h.least i (by omega)
      · show 0 ≤ (dp.set t d).getD i (-1)
        rw [getD_set]
        split
        · exact h0
        · exact h.known i hi hd
      · rcases List.mem_or_eq_of_mem_set hx with hx | rfl
        · exact h.rng x hx
        · omega
    · rw [if_neg he]
      by_cases hd : dp.getD t (-1) = d
      · rw [if_neg (fun hh => hh hd), if_neg (fun hh => hh.2 hd), set_same (by rw [h.ld]; exact hlt) hd]
        exact ⟨rfl, h⟩
      · rw [if_pos hd, if_pos ⟨by omega, hd⟩]
        exact ⟨rfl, h⟩
theorem goes_known {o : Int} (h : 0 ≤ o ∧ o ≤ 51) : (goesB o = true) ↔ (o ≠ 18 ∧ o ≠ 21) := by
  unfold goesB
  rw [decide_eq_true_iff]
  omega
/-- Way by way. -/
theorem R.go {n : Nat} {dp : List Int} {dn : List Bool} {z : Z} (h : R n dp dn z) {d : Int} (h0 : 0 ≤ d) (h1 : d ≤ 16) {x : De} (hk : 0 ≤ x.1 ∧ x.1 ≤ 51) (a : Nat) :
    (goZ n x d a z).2 = (lead n d (ways x a) dp).2 ∧ R n (lead n d (ways x a) dp).1 dn (goZ n x d a z).1 := by
  unfold goZ ways
  have hg := goes_known hk
  by_cases hc : x.1 ≠ 18 ∧ x.1 ≠ 21
  · rw [if_pos (hg.2 hc), if_pos hc]
    have hr := h.reach h0 h1 (a + 1)
    by_cases hj : x.1 = 18 ∨ x.1 = 19
    · rw [if_pos hj, if_pos hj]
      show _ = (lead n d [a + 1, x.2.1.toNat] dp).2 ∧ R n (lead n d [a + 1, x.2.1.toNat] dp).1 dn _
      rw [lead_two, ← hr.1]
      by_cases he : (reachZ n d z (a + 1)).2 ≠ 0
      · rw [if_pos he, if_pos he]
        exact hr
      · rw [if_neg he, if_neg he]
        exact hr.2.reach h0 h1 _
    · rw [if_neg hj, if_neg hj]
      show _ = (lead n d [a + 1] dp).2 ∧ R n (lead n d [a + 1] dp).1 dn _
      by_cases he : (reachZ n d z (a + 1)).2 ≠ 0
      · rw [if_pos he]
        exact hr
      · rw [if_neg he]
        exact ⟨by rw [← hr.1]; exact (Decidable.of_not_not he).symm, hr.2⟩
  · rw [if_neg (fun e => hc (hg.1 e)), if_neg hc]
    by_cases hj : x.1 = 18 ∨ x.1 = 19
    · rw [if_pos hj, if_pos hj]
      exact h.reach h0 h1 _
    · rw [if_neg hj, if_neg hj]
      exact ⟨rfl, h⟩
theorem behind_zero {fs : List Fn} {x : De} {d : Int} (h : 0 ≤ numb ly x.1) :
    (behindE fs x d).2 = (if behind fs x d < 0 then 2 else if 16 < behind fs x d then 4 else 0) ∧ ((behindE fs x d).2 = 0 → (behindE fs x d).1 = behind fs x d ∧ 0 ≤ behind fs x d ∧ behind fs x d ≤ 16) := by
  unfold behindE
  obtain ⟨b, hb⟩ : ∃ b, b = behind fs x d := ⟨_, rfl⟩
  rw [← hb]
  unfold behind at hb
  generalize pops x.1 x.2.2 (argsOf fs x) = k at *
  generalize numb ly x.1 = y at *
  by_cases h1 : d < k
  · rw [if_pos (by omega)] at hb
    rw [if_pos h1, if_pos (by omega)]
    exact ⟨rfl, fun e => by cases e⟩
  · rw [if_neg (by omega)] at hb
    rw [if_neg h1, if_neg (by omega : ¬ b < 0)]
    by_cases h2 : 16 < d + (y - k)
    · rw [if_pos h2, if_pos (by omega)]
      exact ⟨rfl, fun e => by cases e⟩
    · rw [if_neg h2, if_neg (by omega)]
      exact ⟨rfl, fun _ => ⟨by show d + (y - k) = b; omega, by omega, by omega⟩⟩
/-- One instruction. -/
theorem R.look {n : Nat} {fs : List Fn} {co : List De} {dp : List Int} {dn : List Bool} {z : Z} (hn : co.length = n) (h : R n dp dn z) {a : Nat} (hx : chkI (co.getD a zero) = 0) :
    (lookZ n fs (co.getD a zero) a z).2 = (one fs co dp a).2 ∧ R n (one fs co dp a).1 dn (lookZ n fs (co.getD a zero) a z).1 := by
  unfold lookZ one
  rw [h.same, hn]
  have hk := (Go.Proofs.Ytjlmgoaglpkhoaa.inst.chk_zero hx).1
  have hy := (lays_small (co.getD a zero).1).1
  obtain ⟨b1, b2⟩ := behind_zero (fs := fs) (x := co.getD a zero) (d := dp.getD a (-1)) hy
  by_cases h1 : behind fs (co.getD a zero) (dp.getD a (-1)) < 0
  · rw [if_pos h1] at b1 ⊢
    rw [b1, if_pos (by decide)]
    exact ⟨rfl, h⟩
  · rw [if_neg h1] at b1 ⊢
    by_cases h2 : 16 < behind fs (co.getD a zero) (dp.getD a (-1))
    · rw [if_pos h2] at b1 ⊢
      rw [b1, if_pos (by decide)]
      exact ⟨rfl, h⟩
    · rw [if_neg h2] at b1 ⊢
      obtain ⟨b3, b4, b5⟩ := b2 b1
      rw [b1, if_neg (by decide), b3]
      exact h.go b4 b5 hk a
/-- Where the next one stands. -/
theorem R.next {n : Nat} {dp : List Int} {dn : List Bool} {z : Z} (h : R n dp dn z) : pick dp dn n ≤ n ∧ z.le ≤ pick dp dn n ∧ (∀ i, z.le ≤ i → i < pick dp dn n → z.ah.getD i false = false) ∧
    (pick dp dn n < n → z.ah.getD (pick dp dn n) false = true ∧ R n dp (dn.set (pick dp dn n) true) ⟨z.dp, z.ah.set (pick dp dn n) false, pick dp dn n⟩) := by
  have hn : pick dp dn n ≤ n := by
    have := List.findIdx_le_length (xs := List.range n) (p := fun i => !dn.getD i true && decide (0 ≤ dp.getD i (-1)))
    rw [List.length_range] at this
    exact this
  have hb : ∀ i, i < pick dp dn n → z.ah.getD i false = false := fun i hi => by
    have h1 := List.not_of_lt_findIdx (xs := List.range n) (p := fun i => !dn.getD i true && decide (0 ≤ dp.getD i (-1))) (i := i) hi
    have e : (List.range n)[i]'(by rw [List.length_range]; omega) = i := List.getElem_range _
    rw [e] at h1
    rw [h.ahead i (by omega)]
    simpa using h1
  have ht : pick dp dn n < n → z.ah.getD (pick dp dn n) false = true := fun hp => by
    obtain ⟨p1, p2⟩ := pick_lt hp
    rw [h.ahead _ hp, p1, decide_eq_true p2]
    rfl
  refine ⟨hn, ?_, fun i _ hi => hb i hi, fun hp => ⟨ht hp, h.same, h.ld, by rw [List.length_set]; exact h.ln, by rw [List.length_set]; exact h.la, hn, fun i hi => ?_, fun i hi => ?_, fun i hi hd => ?_, h.rng⟩⟩
  · rcases Nat.lt_or_ge (pick dp dn n) z.le with hc | hc
    · by_cases hp : pick dp dn n < n
      · have := h.least _ hc
        rw [ht hp] at this
        cases this
      · have := h.le
        omega
    · exact hc
  · show (z.ah.set _ false).getD i false = _
    rw [getD_set, getD_set, h.la, h.ln]
    by_cases hi2 : pick dp dn n = i
    · rw [if_pos ⟨hi2, hi⟩, if_pos ⟨hi2, hi⟩]
      rfl
    · rw [if_neg (fun e => hi2 e.1), if_neg (fun e => hi2 e.1)]
      exact h.ahead i hi
  · show (z.ah.set _ false).getD i false = false
    rw [getD_set]
    split
    · rfl
    · exact hb i hi
  · rw [getD_set] at hd
    split at hd
    · rename_i h2
      rw [← h2.1]
      exact (pick_lt hp).2
    · exact h.known i hi hd
/-- Ahead of the first one. -/
theorem R.start {co : List De} (h : 0 < co.length) : R co.length (startQ co).dp (startQ co).dn ⟨0 :: List.replicate (co.length - 1) (-1), true :: List.replicate (co.length - 1) false, 0⟩ := by
  have hf : ∀ a, a < co.length → (List.replicate co.length false).getD a true = false := fun a ha => by
    rw [List.getD_eq_getElem?_getD, List.getElem?_replicate, if_pos ha]; rfl
  refine ⟨rfl, by simp [startQ]; omega, by simp [startQ], by simp; omega, Nat.zero_le _, fun i hi => ?_, fun i hi => absurd hi (Nat.not_lt_zero i), fun i hi hd => ?_, (start_inv (fs := []) h).rng⟩
  · rw [show (startQ co).dn.getD i true = false from hf i hi]
    cases i with
    | zero => rfl
    | succ i =>
      show (List.replicate (co.length - 1) false).getD i false = (!false && decide (0 ≤ (List.replicate (co.length - 1) (-1)).getD i (-1)))
      have e1 : (List.replicate (co.length - 1) false).getD i false = false := by rw [List.getD_eq_getElem?_getD, List.getElem?_replicate, if_pos (by omega)]; rfl
      have e2 : (List.replicate (co.length - 1) (-1 : Int)).getD i (-1) = -1 := by rw [List.getD_eq_getElem?_getD, List.getElem?_replicate, if_pos (by omega)]; rfl
      rw [e1]
      show false = (!false && decide (0 ≤ (List.replicate (co.length - 1) (-1 : Int)).getD i (-1)))
      simp only [e2]
      rfl
  · rw [show (startQ co).dn = List.replicate co.length false from rfl, hf i hi] at hd
    cases hd
/-- The first step of the program's own: all are unknown, and it goes to the first place. -/
theorem start_reach {n : Nat} (h : 0 < n) : reachZ n 0 ⟨List.replicate n (-1), List.replicate n false, 0⟩ 0 = (⟨0 :: List.replicate (n - 1) (-1), true :: List.replicate (n - 1) false, 0⟩, 0) := by
  obtain ⟨m, rfl⟩ : ∃ m, n = m + 1 := ⟨n - 1, by omega⟩
  unfold reachZ
  rw [if_neg (by omega), if_pos (by rfl)]
  rfl
/-- What is kept of what is wrong. -/
structure W2 (n : Nat) (q : Q) (pl er : Int) : Prop where
  er : er = (q.bad : Int)
  bad : q.bad ≠ 0 → pl = (q.first : Int)
  fine : q.bad = 0 → q.first = n
theorem W2.start (co : List De) : W2 co.length (startQ co) 0 0 := ⟨rfl, fun h => absurd rfl h, fun _ => rfl⟩
/-- The step that blames. -/
def blameZ (pl er : Int) (a : Nat) (e : Nat) : Int × Int := if e ≠ 0 ∧ (er = 0 ∨ (a : Int) < pl) then ((a : Int), (e : Int)) else (pl, er)
theorem W2.step {n : Nat} {fs : List Fn} {co : List De} {q : Q} {pl er : Int} (h : W2 n q pl er) {a : Nat} (ha : a < n) : W2 n (stepQ fs co q a) (blameZ pl er a (one fs co q.dp a).2).1 (blameZ pl er a (one fs co q.dp a).2).2 := by
  unfold stepQ blameZ
  have e1 := h.er
  generalize (one fs co q.dp a).2 = e at *
  by_cases he : e = 0
  · rw [if_neg (fun hh => hh.1 he), if_neg (fun hh => hh.1 he)]
    exact ⟨h.er, h.bad, h.fine⟩
  · by_cases hb : q.bad = 0
    · have hf := h.fine hb
      rw [if_pos ⟨he, by omega⟩, if_pos ⟨he, .inl (by omega)⟩]
      exact ⟨rfl, fun _ => rfl, fun hh => absurd hh he⟩
    · have hf := h.bad hb
      by_cases hl : a < q.first
      · rw [if_pos ⟨he, hl⟩, if_pos ⟨he, .inr (by omega)⟩]
        exact ⟨rfl, fun _ => rfl, fun hh => absurd hh he⟩
      · rw [if_neg (fun hh => hl hh.2), if_neg (fun hh => by rcases hh.2 with h3 | h3 <;> omega)]
        exact ⟨h.er, h.bad, h.fine⟩
theorem step_dn (fs : List Fn) (co : List De) (q : Q) (a : Nat) : (stepQ fs co q a).dn = q.dn.set a true := by unfold stepQ; split <;> rfl
theorem step_dp (fs : List Fn) (co : List De) (q : Q) (a : Nat) : (stepQ fs co q a).dp = (one fs co q.dp a).1 := by unfold stepQ; split <;> rfl
theorem run_end {fs : List Fn} {co : List De} {q : Q} (h : ¬ pick q.dp q.dn co.length < co.length) : ∀ j, runQ fs co j q = q
  | 0 => rfl
  | j + 1 => by unfold runQ; rw [if_neg h]
theorem run_step {fs : List Fn} {co : List De} {q : Q} (h : pick q.dp q.dn co.length < co.length) (j : Nat) : runQ fs co (j + 1) q = runQ fs co j (stepQ fs co q (pick q.dp q.dn co.length)) := by
  show (if pick q.dp q.dn co.length < co.length then _ else _) = _
  rw [if_pos h]
end Go.Proofs.Ytjlmgoaglpkhoaa.pgm.dep

/-
  How a walk over a function's instructions lies in memory: a block of seven cells, the depths, and which are to be looked at; what a call may turn. No condition.
-/
namespace Go.Proofs.Ytjlmgoaglpkhoaa.pgm.dep
open Go.RowKit Go.ChangeShapes
open Go.Proofs.Ytjlmgoaglpkhoaa.pgm
open Go.Proofs.Ytjlmgoaglpkhoaa.objs (De zero DAt cells3)
open Go.Proofs.Ytjlmgoaglpkhoaa.nums (NAt ints ints_length ints_at)
set_option linter.unusedVariables false

/-- Of the blocks that were there none has turned but x, y and z; no block has gone. -/
structure Trn (x y z : Nat) (w w' : World) : Prop where
  os : w'.os = w.os
  tape : w'.tape = w.tape
  output : w'.output = w.output
  size : w.heap.size ≤ w'.heap.size
  block : ∀ k, k < w.heap.size → k ≠ x → k ≠ y → k ≠ z → w'.heap[k]? = w.heap[k]?
theorem Trn.refl (x y z : Nat) (w : World) : Trn x y z w w := ⟨rfl, rfl, rfl, Nat.le_refl _, fun _ _ _ _ _ => rfl⟩
theorem Trn.and {x y z : Nat} {a b c : World} (h : Trn x y z a b) (k : Trn x y z b c) : Trn x y z a c :=
  ⟨k.os.trans h.os, k.tape.trans h.tape, k.output.trans h.output, Nat.le_trans h.size k.size, fun i hi h1 h2 h3 => (k.block i (Nat.lt_of_lt_of_le hi h.size) h1 h2 h3).trans (h.block i hi h1 h2 h3)⟩
theorem Trn.drewN {x y z : Nat} {a w : World} (h : Trn x y z a w) (n : Nat) : Trn x y z a (w.drewN n) := ⟨h.os, h.tape, h.output, h.size, h.block⟩
theorem Trn.drew {x y z : Nat} {a w : World} (h : Trn x y z a w) : Trn x y z a w.drew := ⟨h.os, h.tape, h.output, h.size, h.block⟩
theorem Trn.setCell {x y z : Nat} {a w : World} (h : Trn x y z a w) {p : Addr} (hp : p.block = x ∨ p.block = y ∨ p.block = z) (u : Value) : Trn x y z a (w.setCell p u) :=
  ⟨h.os, h.tape, h.output, Nat.le_trans h.size (by simp [World.setCell]), fun k hk h1 h2 h3 => (Below.heap_setCell _ _ _ _ (by omega)).trans (h.block k hk h1 h2 h3)⟩
theorem Trn.of_below {x y z : Nat} {w w' : World} (h : Below w.heap.size w w') : Trn x y z w w' := ⟨h.os, h.tape, h.output, h.size, fun k hk _ _ _ => h.block k hk⟩
theorem Trn.below {x y z B : Nat} {w w' : World} (h : Trn x y z w w') (hx : B ≤ x) (hy : B ≤ y) (hz : B ≤ z) (hB : B ≤ w.heap.size) : Below B w w' :=
  ⟨h.os, h.tape, h.output, h.size, fun k hk => h.block k (by omega) (by omega) (by omega) (by omega)⟩

def yess (l : List Bool) : List Value := l.map Value.bool
theorem yess_length (l : List Bool) : (yess l).length = l.length := by simp [yess]
theorem yess_at {l : List Bool} {j : Nat} (h : j < l.length) : (yess l)[j]? = some (.bool (l.getD j false)) := by
  simp [yess, List.getD_eq_getElem?_getD, List.getElem?_eq_getElem h]
def wkB (vF vC : Value) (bd ba n : Nat) (le : Nat) (pl er : Int) : Obj := .cells #[vF, vC, .slice (some ⟨bd, 0, none⟩) n n, .slice (some ⟨ba, 0, none⟩) n n, .int .i64 (le : Int), .int .i64 pl, .int .i64 er] 57
/-- A walk lies in its three blocks. -/
structure Wk (W : World) (bw bd ba n : Nat) (vF vC : Value) (z : Z) (pl er : Int) : Prop where
  box : W.heap[bw]? = some (wkB vF vC bd ba n z.le pl er)
  rd : W.heap[bd]? = some (.cells (ints z.dp).toArray 3 (0, 0))
  ra : W.heap[ba]? = some (.cells (yess z.ah).toArray 4 (0, 0))
  n1 : bw ≠ bd
  n2 : bw ≠ ba
  n3 : bd ≠ ba
  ld : z.dp.length = n
  la : z.ah.length = n
theorem cells7 {W : World} {b : Nat} {x0 x1 x2 x3 x4 x5 x6 : Value} {T : TypeId} (h : W.heap[b]? = some (.cells #[x0, x1, x2, x3, x4, x5, x6] T (0, 0))) :
    W.cell? ⟨b, 0, none⟩ = some x0 ∧ W.cell? ⟨b, 1, none⟩ = some x1 ∧ W.cell? ⟨b, 2, none⟩ = some x2 ∧ W.cell? ⟨b, 3, none⟩ = some x3 ∧ W.cell? ⟨b, 4, none⟩ = some x4 ∧ W.cell? ⟨b, 5, none⟩ = some x5 ∧ W.cell? ⟨b, 6, none⟩ = some x6 ∧
    W.frozen? ⟨b, 4, none⟩ = false ∧ W.frozen? ⟨b, 5, none⟩ = false ∧ W.frozen? ⟨b, 6, none⟩ = false := by
  simp [World.cell?, World.frozen?, h]
theorem Wk.cells {W : World} {bw bd ba n : Nat} {vF vC : Value} {z : Z} {pl er : Int} (h : Wk W bw bd ba n vF vC z pl er) :
    W.cell? ⟨bw, 0, none⟩ = some vF ∧ W.cell? ⟨bw, 1, none⟩ = some vC ∧ W.cell? ⟨bw, 2, none⟩ = some (.slice (some ⟨bd, 0, none⟩) n n) ∧ W.cell? ⟨bw, 3, none⟩ = some (.slice (some ⟨ba, 0, none⟩) n n) ∧
    W.cell? ⟨bw, 4, none⟩ = some (.int .i64 (z.le : Int)) ∧ W.cell? ⟨bw, 5, none⟩ = some (.int .i64 pl) ∧ W.cell? ⟨bw, 6, none⟩ = some (.int .i64 er) ∧ W.frozen? ⟨bw, 4, none⟩ = false ∧ W.frozen? ⟨bw, 5, none⟩ = false ∧ W.frozen? ⟨bw, 6, none⟩ = false := cells7 h.box
theorem Wk.depth {W : World} {bw bd ba n : Nat} {vF vC : Value} {z : Z} {pl er : Int} (h : Wk W bw bd ba n vF vC z pl er) {t : Nat} (ht : t < n) :
    W.cell? ⟨bd, t, none⟩ = some (.int .i64 (z.dp.getD t (-1))) ∧ W.frozen? ⟨bd, t, none⟩ = false := by
  refine ⟨?_, frozen_of_row W bd t _ _ h.rd⟩
  rw [cell_of_row W bd t _ _ (0, 0) h.rd, List.getElem?_toArray, Go.Proofs.Ytjlmgoaglpkhoaa.nums.ints_at (by rw [h.ld]; exact ht), Go.Proofs.Ytjlmgoaglpkhoaa.nums.getD_any (by rw [h.ld]; exact ht) 0 (-1)]
theorem Wk.yes {W : World} {bw bd ba n : Nat} {vF vC : Value} {z : Z} {pl er : Int} (h : Wk W bw bd ba n vF vC z pl er) {t : Nat} (ht : t < n) :
    W.cell? ⟨ba, t, none⟩ = some (.bool (z.ah.getD t false)) ∧ W.frozen? ⟨ba, t, none⟩ = false := by
  refine ⟨?_, frozen_of_row W ba t _ _ h.ra⟩
  rw [cell_of_row W ba t _ _ (0, 0) h.ra, List.getElem?_toArray, yess_at (by rw [h.la]; exact ht)]
theorem Wk.lt {W : World} {bw bd ba n : Nat} {vF vC : Value} {z : Z} {pl er : Int} (h : Wk W bw bd ba n vF vC z pl er) : bw < W.heap.size ∧ bd < W.heap.size ∧ ba < W.heap.size := ⟨lt_of_block h.box, lt_of_block h.rd, lt_of_block h.ra⟩
theorem Wk.drewN {W : World} {bw bd ba n : Nat} {vF vC : Value} {z : Z} {pl er : Int} (h : Wk W bw bd ba n vF vC z pl er) (m : Nat) : Wk (W.drewN m) bw bd ba n vF vC z pl er := ⟨h.box, h.rd, h.ra, h.n1, h.n2, h.n3, h.ld, h.la⟩
theorem Wk.drew {W : World} {bw bd ba n : Nat} {vF vC : Value} {z : Z} {pl er : Int} (h : Wk W bw bd ba n vF vC z pl er) : Wk W.drew bw bd ba n vF vC z pl er := ⟨h.box, h.rd, h.ra, h.n1, h.n2, h.n3, h.ld, h.la⟩
theorem Wk.next {W W' : World} {bw bd ba n : Nat} {vF vC : Value} {z : Z} {pl er : Int} (h : Wk W bw bd ba n vF vC z pl er) (hb : Below W.heap.size W W') : Wk W' bw bd ba n vF vC z pl er :=
  ⟨(hb.block _ h.lt.1).trans h.box, (hb.block _ h.lt.2.1).trans h.rd, (hb.block _ h.lt.2.2).trans h.ra, h.n1, h.n2, h.n3, h.ld, h.la⟩
theorem row_setCell {w : World} {b j : Nat} {cur : Array Value} {t : TypeId} (h : w.heap[b]? = some (.cells cur t (0, 0))) (u : Value) : (w.setCell ⟨b, j, none⟩ u).heap[b]? = some (.cells (cur.setIfInBounds j u) t (0, 0)) :=
  heap_setCell_same w b j cur t u h
/-- The least place is stored. -/
theorem Wk.least {W : World} {bw bd ba n : Nat} {vF vC : Value} {z : Z} {pl er : Int} (h : Wk W bw bd ba n vF vC z pl er) (m : Nat) : Wk (W.setCell ⟨bw, 4, none⟩ (.int .i64 (m : Int))) bw bd ba n vF vC ⟨z.dp, z.ah, m⟩ pl er :=
  ⟨row_setCell h.box _, (Below.heap_setCell _ _ _ _ (Ne.symm h.n1)).trans h.rd, (Below.heap_setCell _ _ _ _ (Ne.symm h.n2)).trans h.ra, h.n1, h.n2, h.n3, h.ld, h.la⟩
/-- What is wrong, and where, is stored. -/
theorem Wk.wrong {W : World} {bw bd ba n : Nat} {vF vC : Value} {z : Z} {pl er : Int} (h : Wk W bw bd ba n vF vC z pl er) (p e : Int) : Wk ((W.setCell ⟨bw, 5, none⟩ (.int .i64 p)).setCell ⟨bw, 6, none⟩ (.int .i64 e)) bw bd ba n vF vC z p e :=
  ⟨row_setCell (row_setCell h.box _) _, (Below.heap_setCell _ _ _ _ (Ne.symm h.n1)).trans ((Below.heap_setCell _ _ _ _ (Ne.symm h.n1)).trans h.rd), (Below.heap_setCell _ _ _ _ (Ne.symm h.n2)).trans ((Below.heap_setCell _ _ _ _ (Ne.symm h.n2)).trans h.ra), h.n1, h.n2, h.n3, h.ld, h.la⟩
/-- A depth is stored. -/
theorem Wk.deep {W : World} {bw bd ba n : Nat} {vF vC : Value} {z : Z} {pl er : Int} (h : Wk W bw bd ba n vF vC z pl er) (t : Nat) (d : Int) : Wk (W.setCell ⟨bd, t, none⟩ (.int .i64 d)) bw bd ba n vF vC ⟨z.dp.set t d, z.ah, z.le⟩ pl er :=
  ⟨(Below.heap_setCell _ _ _ _ h.n1).trans h.box, (row_setCell h.rd _).trans (by simp [ints, List.map_set]), (Below.heap_setCell _ _ _ _ (Ne.symm h.n3)).trans h.ra, h.n1, h.n2, h.n3, by rw [List.length_set]; exact h.ld, h.la⟩
/-- Whether one is to be looked at is stored. -/
theorem Wk.mark {W : World} {bw bd ba n : Nat} {vF vC : Value} {z : Z} {pl er : Int} (h : Wk W bw bd ba n vF vC z pl er) (t : Nat) (b : Bool) : Wk (W.setCell ⟨ba, t, none⟩ (.bool b)) bw bd ba n vF vC ⟨z.dp, z.ah.set t b, z.le⟩ pl er :=
  ⟨(Below.heap_setCell _ _ _ _ h.n2).trans h.box, (Below.heap_setCell _ _ _ _ h.n3).trans h.rd, (row_setCell h.ra _).trans (by simp [yess, List.map_set]), h.n1, h.n2, h.n3, h.ld, by rw [List.length_set]; exact h.la⟩
end Go.Proofs.Ytjlmgoaglpkhoaa.pgm.dep

/-
  The reader's numbers: what bytes are read as one, byte by byte, and the first error. The reader lies in a block of its own, holds no bytes behind an error, and at most two to the forty-seventh of them.
-/
namespace Go.Proofs.Ytjlmgoaglpkhoaa.octet
open Go.RowKit Go.ChangeShapes
set_option linter.unusedVariables false

/-- What the reader makes of its bytes behind k bytes that made acc. -/
def decS (s : St) (k acc : Nat) : Nat × St := if s.err ≠ 0 then (0, s) else ((dec s.rest k acc).1, ⟨(dec s.rest k acc).2.1, (dec s.rest k acc).2.2⟩)

theorem rdByte_some {s : St} (h : (rdByte s).2.err = 0) : ∃ b r, s = ⟨b :: r, 0⟩ := by
  obtain ⟨rest, err⟩ := s
  unfold rdByte at h
  by_cases he : err = 0
  · subst he
    cases rest with
    | nil => simp at h
    | cons b r => exact ⟨b, r, rfl⟩
  · simp [he] at h
theorem rdByte_none {s : St} (h : (rdByte s).2.err ≠ 0) {k acc : Nat} : decS s k acc = (0, (rdByte s).2) := by
  obtain ⟨rest, err⟩ := s
  unfold rdByte at h ⊢
  unfold decS
  by_cases he : err = 0
  · subst he
    cases rest with
    | nil => simp [dec]
    | cons b r => simp at h
  · simp [he]

theorem pow7 (k : Nat) : (2 : Nat) ^ (7 * k) = 128 ^ k := by rw [Nat.pow_mul]
theorem acc_next {c kk acc : Nat} (ha : acc < 128 ^ kk) : acc + c % 128 * 128 ^ kk < 128 ^ (kk + 1) := by
  have h1 : c % 128 * 128 ^ kk ≤ 127 * 128 ^ kk := Nat.mul_le_mul_right _ (by omega)
  rw [Nat.pow_succ]
  omega
theorem or_shl_u64 {c kk acc : Nat} (hbad : ¬ ((kk = 9 ∧ 1 < c) ∨ (0 < kk ∧ c = 0))) (hk : kk ≤ 9) (hc : c < 256) (ha : acc < 128 ^ kk) :
    bits .or .u64 (acc : Int) (IntKind.u64.wrap (IntKind.u64.wrap (bits .and .u8 (c : Int) 127) * 2 ^ (7 * kk))) = ((acc + c % 128 * 128 ^ kk : Nat) : Int) := by
  have e1 : bits .and .u8 (c : Int) 127 = ((c % 128 : Nat) : Int) := by
    rw [← nat_mask7]; exact u8_and_nat c 127 hc (by omega)
  have e2 : IntKind.u64.wrap ((c % 128 : Nat) : Int) = ((c % 128 : Nat) : Int) := by
    rw [IntKind.wrap_u64]; omega
  have e3 : ((2 : Int) ^ (7 * kk)) = ((128 ^ kk : Nat) : Int) := by
    rw [← pow7]; simp
  have hle : (128 : Nat) ^ kk ≤ 128 ^ 9 := Nat.pow_le_pow_right (by omega) hk
  have h9 : (128 : Nat) ^ 9 = 9223372036854775808 := rfl
  have hX : c % 128 * 128 ^ kk < 18446744073709551616 := by
    by_cases h8 : kk = 9
    · subst h8
      have hc1 : c ≤ 1 := by omega
      have : c % 128 * 128 ^ 9 ≤ 1 * 128 ^ 9 := Nat.mul_le_mul_right _ (by omega)
      omega
    · have h1 : c % 128 * 128 ^ kk ≤ 127 * 128 ^ kk := Nat.mul_le_mul_right _ (by omega)
      have h2 : (128 : Nat) ^ kk ≤ 128 ^ 8 := Nat.pow_le_pow_right (by omega) (by omega)
      have h3 : (128 : Nat) ^ 8 = 72057594037927936 := rfl
      omega
  have e4 : IntKind.u64.wrap (((c % 128 : Nat) : Int) * ((128 ^ kk : Nat) : Int)) = ((c % 128 * 128 ^ kk : Nat) : Int) := by
    rw [← Int.natCast_mul, IntKind.wrap_u64]
    omega
  rw [e1, e2, e3, e4, u64_or_nat acc _ (by omega) hX, Nat.or_comm, nat_join (7 * kk) (c % 128 * 128 ^ kk) acc (by rw [pow7]; exact Nat.mul_mod_left _ _) (by rw [pow7]; exact ha), Nat.add_comm]

end Go.Proofs.Ytjlmgoaglpkhoaa.octet

/-
  Package span: a number that is read, held below two to the thirty-first, and whether a number lies in a span ; what is wrong with how many there are (typed over the code of 4b95722). A text of at most two to the forty-seventh bytes.
-/
namespace Go.Proofs.Ytjlmgoaglpkhoaa.span
open Go.RowKit Go.ChangeShapes
open Go.Proofs.Ytjlmgoaglpkhoaa.octet (St Frm rdNum)
set_option linter.unusedVariables false

theorem ret_int {k : IntKind} {a b : Int} (h : a = b) : Ending.returned (.int k a) = .returned (.int k b) := by rw [h]
theorem within_any (v lo hi : Int) (w : World) : Calls Try.prog 14 #[.int .i64 v, .int .i64 lo, .int .i64 hi] w fun e w' => e = .returned (.bool (decide (lo ≤ v ∧ v ≤ hi))) ∧ w = w' := by
  by_cases h1 : lo ≤ v
  · by_cases h2 : v ≤ hi
    · rw [decide_eq_true ⟨h1, h2⟩]
      go_enter Try.func14, Try.ntmps14
      go_wp2
      go_ret
      exact ⟨rfl, rfl⟩
    · rw [decide_eq_false (fun h => h2 h.2)]
      have hd : decide (v ≤ hi) = false := by simpa using h2
      go_enter Try.func14, Try.ntmps14
      go_wp2
      go_ret
      exact ⟨rfl, rfl⟩
  · rw [decide_eq_false (fun h => h1 h.1)]
    have hd : decide (lo ≤ v) = false := by simpa using h1
    go_enter Try.func14, Try.ntmps14
    go_wp2
    go_ret
    exact ⟨rfl, rfl⟩

/-- A number as it is read here: a great one is two to the thirty-first less one. -/
def pN (s : St) : Int × St := (((min (rdNum s).1 2147483647 : Nat) : Int), (rdNum s).2)
/-- What is wrong with how many there are, where there may be as many as m. -/
def cntC (n m : Nat) : Nat := if n = 0 then 2 else if m < n then 4 else 0
end Go.Proofs.Ytjlmgoaglpkhoaa.span

/-
  The walk's call that goes to a place (typed over the code of 5351f23). Of at most 200 instructions.
-/
namespace Go.Proofs.Ytjlmgoaglpkhoaa.pgm.dep
open Go.RowKit Go.ChangeShapes
open Go.Proofs.Ytjlmgoaglpkhoaa.pgm
open Go.Proofs.Ytjlmgoaglpkhoaa.span (within_any)
set_option linter.unusedVariables false

set_option maxRecDepth 100000 in
set_option maxHeartbeats 2000000 in
theorem reach_any (W : World) (bw bd ba n : Nat) (vF : Value) (C : Option Addr) (cc : Nat) (z : Z) (pl er d : Int) (t : Nat) (h : Wk W bw bd ba n vF (.slice C n cc) z pl er) (hn : n ≤ 200) (hle : z.le ≤ 200) (ht : t ≤ 1000) (hd : -1 < d) :
    Calls Try.prog 25 #[.pointer (some ⟨bw, 0, none⟩), .int .i64 (t : Int), .int .i64 d] W fun e w' => e = .returned (.int .i64 ((reachZ n d z t).2 : Int)) ∧ Wk w' bw bd ba n vF (.slice C n cc) (reachZ n d z t).1 pl er ∧ Trn bw bd ba W w' := by
  obtain ⟨-, c1, c2, c3, c4, -, -, d4, -, -⟩ := h.cells
  have HWi := fun W => Lib.hid (within_any (t : Int) 0 ((n : Int) - 1) W)
  have HS := Lib.hid h
  unfold reachZ
  by_cases hlt : n ≤ t
  · rw [if_pos hlt]
    rw [decide_eq_false (fun hh => by omega)] at HWi
    clear h
    go_enter Try.func25, Try.ntmps25
    go_wp2_with fail
    refine (HWi _).out.mono ?_
    rintro e w1 ⟨rfl, rfl⟩
    go_wp2
    go_ret
    exact ⟨rfl, HS.out, Trn.refl _ _ _ _⟩
  · rw [if_neg hlt]
    have htn : t < n := by omega
    rw [decide_eq_true (by omega)] at HWi
    obtain ⟨x0, y0⟩ := h.depth htn
    have h0 : (0 : Int) ≤ (t : Int) := by omega
    have h1 : (t : Int) < (n : Int) := by omega
    by_cases he : z.dp.getD t (-1) = -1
    · rw [if_pos he]
      rw [he] at x0
      obtain ⟨u0, v0⟩ := h.yes htn
      generalize z.ah.getD t false = ob at *
      have HD := Lib.hid ((((h.deep t d).mark t true).drew))
      have HT := Lib.hid ((((Trn.refl bw bd ba W).setCell (p := ⟨bd, t, none⟩) (.inr (.inl rfl)) (.int .i64 d)).setCell (p := ⟨ba, t, none⟩) (.inr (.inr rfl)) (.bool true)).drew)
      have n3 := h.n3
      have n4 := Ne.symm n3
      clear h he hlt
      go_enter Try.func25, Try.ntmps25
      go_wp2_with fail
      refine (HWi _).out.mono ?_
      rintro e w1 ⟨rfl, rfl⟩
      go_wp2
      go_region
      generalize ((W.setCell ⟨bd, t, none⟩ (.int .i64 d)).setCell ⟨ba, t, none⟩ (.bool true)).drew = W1 at *
      clear c1 c2 c3 c4 d4 x0 y0 u0 v0
      obtain ⟨-, -, c2, -, c4, -, -, d4, -, -⟩ := HD.out.cells
      obtain ⟨x0, -⟩ := HD.out.depth htn
      have ld := HD.out.ld
      rw [List.length_set] at ld
      have ex : (z.dp.set t d).getD t (-1) = d := by rw [getD_set, if_pos ⟨rfl, by omega⟩]
      have x1 : W1.cell? ⟨bd, t, none⟩ = some (.int .i64 d) := x0.trans (by rw [ex])
      have n1 := HD.out.n1
      have n2 := Ne.symm n1
      have HL : Hid (∀ m : Nat, m = min z.le t → Wk (W1.setCell ⟨bw, 4, none⟩ (.int .i64 (m : Int))) bw bd ba n vF (.slice C n cc) ⟨z.dp.set t d, z.ah.set t true, min z.le t⟩ pl er) := Lib.hid fun m hm => by
        rw [← hm]
        exact HD.out.least m
      have HU := Lib.hid (fun m : Nat => HT.out.setCell (p := ⟨bw, 4, none⟩) (.inl rfl) (.int .i64 (m : Int)))
      have q1 : (d != d) = false := by simp
      clear x0 ex HD HT ld
      go_wp2
      all_goals go_ret
      all_goals first
        | exact ⟨rfl, HL.out z.le (by omega), HU.out z.le⟩
        | exact ⟨rfl, HL.out t (by omega), HU.out t⟩
    · rw [if_neg he]
      have q0 : (z.dp.getD t (-1) == -1) = false := by simpa using he
      by_cases hq : z.dp.getD t (-1) = d
      · rw [if_neg (fun hh => hh hq)]
        rw [hq] at x0 q0
        have q1 : (d != d) = false := by simp
        clear h he hlt hq
        go_enter Try.func25, Try.ntmps25
        go_wp2_with fail
        refine (HWi _).out.mono ?_
        rintro e w1 ⟨rfl, rfl⟩
        go_wp2
        go_ret
        exact ⟨rfl, HS.out, Trn.refl _ _ _ _⟩
      · rw [if_pos hq]
        have q1 : (z.dp.getD t (-1) != d) = true := by simpa using hq
        clear h he hlt hq
        generalize z.dp.getD t (-1) = x at *
        go_enter Try.func25, Try.ntmps25
        go_wp2_with fail
        refine (HWi _).out.mono ?_
        rintro e w1 ⟨rfl, rfl⟩
        go_wp2
        go_ret
        exact ⟨rfl, HS.out, Trn.refl _ _ _ _⟩
end Go.Proofs.Ytjlmgoaglpkhoaa.pgm.dep

/-
  The walk as it begins (typed over the code of 5351f23): all depths unknown but the first one's. Of 1 to 200 instructions.
-/
namespace Go.Proofs.Ytjlmgoaglpkhoaa.pgm.dep
open Go.RowKit Go.ChangeShapes
open Go.Proofs.Ytjlmgoaglpkhoaa.pgm
open Go.Proofs.Ytjlmgoaglpkhoaa.nums (ints)
set_option linter.unusedVariables false

theorem infoInt : (Try.prog.info? 3).map (fun i => (i.zero, i.size, i.bytes)) = some (some (.int .i64 0), 1, 8) := by kernel_rfl
theorem infoBool : (Try.prog.info? 4).map (fun i => (i.zero, i.size, i.bytes)) = some (some (.bool false), 1, 1) := by kernel_rfl
theorem made_ints (n : Nat) (hn : n ≤ 8192) (W : World) :
    (Instr.makeSlice 30 (.int .i64 (n : Int)) (.int .i64 (n : Int))).run Try.prog W = .ok (.slice (some ⟨W.heap.size, 0, none⟩) n n) (W.alloc (.cells (ints (List.replicate n 0)).toArray 3)) := by
  obtain ⟨i, hi, hz0, hz1, hz2⟩ := info_parts infoInt
  have h := run_make (P := Try.prog) W 30 3 i (.int .i64 0) Try.underlying30 hi hz0 .i64 .i64 (n : Int) (n : Int) (by omega) (by omega) (by rw [hz2]; omega) (by omega)
  rw [h, hz1, Int.toNat_natCast, Nat.mul_one]
  congr 4
  rw [← Array.toList_inj]
  show (madeCells #[.int .i64 0] n).toList = _
  rw [toList_madeCells_one]
  simp [ints]
theorem made_bools (n : Nat) (hn : n ≤ 8192) (W : World) :
    (Instr.makeSlice 27 (.int .i64 (n : Int)) (.int .i64 (n : Int))).run Try.prog W = .ok (.slice (some ⟨W.heap.size, 0, none⟩) n n) (W.alloc (.cells (yess (List.replicate n false)).toArray 4)) := by
  obtain ⟨i, hi, hz0, hz1, hz2⟩ := info_parts infoBool
  have h := run_make (P := Try.prog) W 27 4 i (.bool false) Try.underlying27 hi hz0 .i64 .i64 (n : Int) (n : Int) (by omega) (by omega) (by rw [hz2]; omega) (by omega)
  rw [h, hz1, Int.toNat_natCast, Nat.mul_one]
  congr 4
  rw [← Array.toList_inj]
  show (madeCells #[.bool false] n).toList = _
  rw [toList_madeCells_one]
  simp [yess]

/-- Of n depths the first j are unknown. -/
def unk (n j : Nat) : List Int := List.replicate j (-1) ++ List.replicate (n - j) 0
theorem unk_length {n j : Nat} (h : j ≤ n) : (unk n j).length = n := by simp [unk]; omega
theorem unk_next {n j : Nat} (h : j < n) : (unk n j).set j (-1) = unk n (j + 1) := by
  unfold unk
  rw [List.set_append_right _ _ (by simp), List.length_replicate, Nat.sub_self]
  obtain ⟨m, hm⟩ : ∃ m, n - j = m + 1 := ⟨n - j - 1, by omega⟩
  rw [hm, show n - (j + 1) = m by omega, List.replicate_succ (n := m), List.set_cons_zero, List.replicate_succ' (n := j)]
  simp

theorem unk_zero (n : Nat) : unk n 0 = List.replicate n 0 := by simp [unk]
theorem unk_all (n : Nat) : unk n n = List.replicate n (-1) := by simp [unk]
/-- Behind the making of its three blocks, the depths' first. -/
theorem laid_di (W : World) (vF vC : Value) (n : Nat) : Wk ((((W.alloc (.cells (ints (List.replicate n 0)).toArray 3)).alloc (.cells (yess (List.replicate n false)).toArray 4)).alloc (wkB vF vC W.heap.size (W.heap.size + 1) n 0 0 0)).drew) (W.heap.size + 1 + 1) W.heap.size (W.heap.size + 1) n vF vC ⟨unk n 0, List.replicate n false, 0⟩ 0 0 ∧
    Below W.heap.size W ((((W.alloc (.cells (ints (List.replicate n 0)).toArray 3)).alloc (.cells (yess (List.replicate n false)).toArray 4)).alloc (wkB vF vC W.heap.size (W.heap.size + 1) n 0 0 0)).drew) := by
  have z1 : (W.alloc (.cells (ints (List.replicate n 0)).toArray 3)).heap.size = W.heap.size + 1 := World.size_alloc _ _
  have z2 : ((W.alloc (.cells (ints (List.replicate n 0)).toArray 3)).alloc (.cells (yess (List.replicate n false)).toArray 4)).heap.size = W.heap.size + 1 + 1 := by rw [World.size_alloc, World.size_alloc]
  rw [unk_zero]
  refine ⟨⟨?_, ?_, ?_, by omega, by omega, by omega, by simp, by simp⟩, ((((Below.refl _ W).alloc (Nat.le_refl _) _).alloc (by omega) _).alloc (by omega) _).drew⟩
  · rw [← z2]
    exact heap_alloc_new _ _
  · exact (Below.heap_alloc _ _ _ (by omega)).trans ((Below.heap_alloc _ _ _ (by omega)).trans (heap_alloc_new W _))
  · exact (Below.heap_alloc _ _ _ (by omega)).trans (by rw [← z1]; exact heap_alloc_new _ _)
/-- The same, the other one first. -/
theorem laid_id (W : World) (vF vC : Value) (n : Nat) : Wk ((((W.alloc (.cells (yess (List.replicate n false)).toArray 4)).alloc (.cells (ints (List.replicate n 0)).toArray 3)).alloc (wkB vF vC (W.heap.size + 1) W.heap.size n 0 0 0)).drew) (W.heap.size + 1 + 1) (W.heap.size + 1) W.heap.size n vF vC ⟨unk n 0, List.replicate n false, 0⟩ 0 0 ∧
    Below W.heap.size W ((((W.alloc (.cells (yess (List.replicate n false)).toArray 4)).alloc (.cells (ints (List.replicate n 0)).toArray 3)).alloc (wkB vF vC (W.heap.size + 1) W.heap.size n 0 0 0)).drew) := by
  have z1 : (W.alloc (.cells (yess (List.replicate n false)).toArray 4)).heap.size = W.heap.size + 1 := World.size_alloc _ _
  have z2 : ((W.alloc (.cells (yess (List.replicate n false)).toArray 4)).alloc (.cells (ints (List.replicate n 0)).toArray 3)).heap.size = W.heap.size + 1 + 1 := by rw [World.size_alloc, World.size_alloc]
  rw [unk_zero]
  refine ⟨⟨?_, ?_, ?_, by omega, by omega, by omega, by simp, by simp⟩, ((((Below.refl _ W).alloc (Nat.le_refl _) _).alloc (by omega) _).alloc (by omega) _).drew⟩
  · rw [← z2]
    exact heap_alloc_new _ _
  · exact (Below.heap_alloc _ _ _ (by omega)).trans (by rw [← z1]; exact heap_alloc_new _ _)
  · exact (Below.heap_alloc _ _ _ (by omega)).trans ((Below.heap_alloc _ _ _ (by omega)).trans (heap_alloc_new W _))
/-- The bodies that follow are the same. -/
theorem ret_ptr {bw bd ba : Nat} {W W' : World} {n : Nat} {vF vC : Value} {z : Z} (h1 : W.heap.size ≤ bw) (h2 : W.heap.size ≤ bd) (h3 : W.heap.size ≤ ba) (h4 : Wk W' bw bd ba n vF vC z 0 0) (h5 : Below W.heap.size W W') :
    ∃ bw' bd' ba', Ending.returned (.pointer (some ⟨bw, 0, none⟩)) = .returned (.pointer (some ⟨bw', 0, none⟩)) ∧ W.heap.size ≤ bw' ∧ W.heap.size ≤ bd' ∧ W.heap.size ≤ ba' ∧ Wk W' bw' bd' ba' n vF vC z 0 0 ∧ Below W.heap.size W W' :=
  ⟨bw, bd, ba, rfl, h1, h2, h3, h4, h5⟩

set_option maxRecDepth 100000 in
set_option maxHeartbeats 4000000 in
theorem start_any (W : World) (A C : Option Addr) (nf cf n cc : Nat) (hn0 : 0 < n) (hn : n ≤ 200) :
    Calls Try.prog 15 #[.slice A nf cf, .slice C n cc] W fun e w' => ∃ bw bd ba, e = .returned (.pointer (some ⟨bw, 0, none⟩)) ∧ W.heap.size ≤ bw ∧ W.heap.size ≤ bd ∧ W.heap.size ≤ ba ∧
      Wk w' bw bd ba n (.slice A nf cf) (.slice C n cc) ⟨0 :: List.replicate (n - 1) (-1), true :: List.replicate (n - 1) false, 0⟩ 0 0 ∧ Below W.heap.size W w' := by
  have hm1 := made_ints n (by omega)
  have hm2 := made_bools n (by omega)
  go_enter Try.func15, Try.ntmps15
  go_wp2
  go_region
  · have HK := Lib.hid (laid_di W (.slice A nf cf) (.slice C n cc) n).1
    have HB := Lib.hid (laid_di W (.slice A nf cf) (.slice C n cc) n).2
    unfold wkB at HK HB
    rw [show ((0 : Nat) : Int) = 0 from rfl] at HK HB
    generalize (((W.alloc (.cells (ints (List.replicate n 0)).toArray 3)).alloc (.cells (yess (List.replicate n false)).toArray 4)).alloc (.cells #[.slice A nf cf, .slice C n cc, .slice (some ⟨W.heap.size, 0, none⟩) n n, .slice (some ⟨W.heap.size + 1, 0, none⟩) n n, .int .i64 0, .int .i64 0, .int .i64 0] 57)).drew = W1 at *
    obtain ⟨-, -, c2, -, -, -, -, -, -, -⟩ := HK.out.cells
    go_wp2
    clear c2
    go_loopw [22] (fun i wr => ∃ j : Nat, i = .int .i64 (j : Int) ∧ j ≤ n ∧ Hid (Wk wr (W.heap.size + 1 + 1) (W.heap.size) (W.heap.size + 1) n (.slice A nf cf) (.slice C n cc) ⟨unk n j, List.replicate n false, 0⟩ 0 0) ∧ Hid (Below W.heap.size W wr)) (fun i _ => n - (intOf i).toNat)
    case atStart => exact ⟨0, rfl, Nat.zero_le _, HK, HB⟩
    case round =>
      clear HK HB
      obtain ⟨j, rfl, hj, HK, HB⟩ := hrel
      by_cases hlt : j < n
      · obtain ⟨-, -, c2, -, -, -, -, -, -, -⟩ := HK.out.cells
        obtain ⟨x0, y0⟩ := HK.out.depth hlt
        have HM := Lib.hid (HK.out.deep j (-1))
        dsimp only at HM x0
        rw [unk_next hlt] at HM
        have HU := Lib.hid (HB.out.setCell (p := ⟨W.heap.size, j, none⟩) (by show W.heap.size ≤ W.heap.size; omega) (.int .i64 (-1)))
        have q0 : decide ((j : Int) < (n : Int)) = true := decide_eq_true (by omega)
        have h0 : (0 : Int) ≤ (j : Int) := by omega
        have h1 : (j : Int) < (n : Int) := by omega
        generalize (unk n j).getD j (-1) = ox at *
        clear HK
        go_wp2_with fail
        go_roundw
        case rel => exact ⟨j + 1, by go_num, by omega, HM, HU⟩
        case measure => simp [intOf]; omega
      · obtain rfl : j = n := by omega
        have q0 : decide ((j : Int) < (j : Int)) = false := decide_eq_false (by omega)
        rw [unk_all] at HK
        have HRe := Lib.hid (reach_any wr (W.heap.size + 1 + 1) (W.heap.size) (W.heap.size + 1) j (.slice A nf cf) C cc ⟨List.replicate j (-1), List.replicate j false, 0⟩ 0 0 0 0 HK.out hn (Nat.zero_le _) (Nat.zero_le _) (by decide))
        rw [start_reach hn0, show ((0 : Nat) : Int) = 0 from rfl] at HRe
        go_wp2_with fail
        refine HRe.out.mono ?_
        rintro _ w2 ⟨rfl, hw2, ht2⟩
        have HB2 := Lib.hid (HB.out.trans (ht2.below (B := W.heap.size) (by omega) (by omega) (by omega) HB.out.size))
        have HW2 := Lib.hid hw2
        clear hw2 ht2 HRe
        go_wp2
        go_ret
        exact ret_ptr (by omega) (by omega) (by omega) HW2.out HB2.out
  · have HK := Lib.hid (laid_id W (.slice A nf cf) (.slice C n cc) n).1
    have HB := Lib.hid (laid_id W (.slice A nf cf) (.slice C n cc) n).2
    unfold wkB at HK HB
    rw [show ((0 : Nat) : Int) = 0 from rfl] at HK HB
    generalize (((W.alloc (.cells (yess (List.replicate n false)).toArray 4)).alloc (.cells (ints (List.replicate n 0)).toArray 3)).alloc (.cells #[.slice A nf cf, .slice C n cc, .slice (some ⟨W.heap.size + 1, 0, none⟩) n n, .slice (some ⟨W.heap.size, 0, none⟩) n n, .int .i64 0, .int .i64 0, .int .i64 0] 57)).drew = W1 at *
    obtain ⟨-, -, c2, -, -, -, -, -, -, -⟩ := HK.out.cells
    go_wp2
    clear c2
    go_loopw [22] (fun i wr => ∃ j : Nat, i = .int .i64 (j : Int) ∧ j ≤ n ∧ Hid (Wk wr (W.heap.size + 1 + 1) (W.heap.size + 1) (W.heap.size) n (.slice A nf cf) (.slice C n cc) ⟨unk n j, List.replicate n false, 0⟩ 0 0) ∧ Hid (Below W.heap.size W wr)) (fun i _ => n - (intOf i).toNat)
    case atStart => exact ⟨0, rfl, Nat.zero_le _, HK, HB⟩
    case round =>
      clear HK HB
      obtain ⟨j, rfl, hj, HK, HB⟩ := hrel
      by_cases hlt : j < n
      · obtain ⟨-, -, c2, -, -, -, -, -, -, -⟩ := HK.out.cells
        obtain ⟨x0, y0⟩ := HK.out.depth hlt
        have HM := Lib.hid (HK.out.deep j (-1))
        dsimp only at HM x0
        rw [unk_next hlt] at HM
        have HU := Lib.hid (HB.out.setCell (p := ⟨W.heap.size + 1, j, none⟩) (by show W.heap.size ≤ W.heap.size + 1; omega) (.int .i64 (-1)))
        have q0 : decide ((j : Int) < (n : Int)) = true := decide_eq_true (by omega)
        have h0 : (0 : Int) ≤ (j : Int) := by omega
        have h1 : (j : Int) < (n : Int) := by omega
        generalize (unk n j).getD j (-1) = ox at *
        clear HK
        go_wp2_with fail
        go_roundw
        case rel => exact ⟨j + 1, by go_num, by omega, HM, HU⟩
        case measure => simp [intOf]; omega
      · obtain rfl : j = n := by omega
        have q0 : decide ((j : Int) < (j : Int)) = false := decide_eq_false (by omega)
        rw [unk_all] at HK
        have HRe := Lib.hid (reach_any wr (W.heap.size + 1 + 1) (W.heap.size + 1) (W.heap.size) j (.slice A nf cf) C cc ⟨List.replicate j (-1), List.replicate j false, 0⟩ 0 0 0 0 HK.out hn (Nat.zero_le _) (Nat.zero_le _) (by decide))
        rw [start_reach hn0, show ((0 : Nat) : Int) = 0 from rfl] at HRe
        go_wp2_with fail
        refine HRe.out.mono ?_
        rintro _ w2 ⟨rfl, hw2, ht2⟩
        have HB2 := Lib.hid (HB.out.trans (ht2.below (B := W.heap.size) (by omega) (by omega) (by omega) HB.out.size))
        have HW2 := Lib.hid hw2
        clear hw2 ht2 HRe
        go_wp2
        go_ret
        exact ret_ptr (by omega) (by omega) (by omega) HW2.out HB2.out
end Go.Proofs.Ytjlmgoaglpkhoaa.pgm.dep

/-
  The walk's call that tells the next place to be looked at (typed over the code of 5351f23). Of at most 200 instructions.
-/
namespace Go.Proofs.Ytjlmgoaglpkhoaa.pgm.dep
open Go.RowKit Go.ChangeShapes
open Go.Proofs.Ytjlmgoaglpkhoaa.pgm
set_option linter.unusedVariables false

/-- The place that is told: 0, if there is none. -/
def kv (n k : Nat) : Int := if k < n then (k : Int) else 0
set_option maxRecDepth 100000 in
set_option maxHeartbeats 4000000 in
theorem next_any (W : World) (bw bd ba n : Nat) (vF : Value) (C : Option Addr) (cc : Nat) (z : Z) (pl er : Int) (k : Nat) (h : Wk W bw bd ba n vF (.slice C n cc) z pl er) (hn : n ≤ 200) (hk : k ≤ n) (hle : z.le ≤ k)
    (hb : ∀ i, z.le ≤ i → i < k → z.ah.getD i false = false) (ht : k < n → z.ah.getD k false = true) :
    Calls Try.prog 16 #[.pointer (some ⟨bw, 0, none⟩)] W fun e w' => e = .returned (.tuple #[.int .i64 (kv n k), .bool (decide (k < n))]) ∧
      Wk w' bw bd ba n vF (.slice C n cc) ⟨z.dp, if k < n then z.ah.set k false else z.ah, k⟩ pl er ∧ Trn bw bd ba W w' := by
  have HB := Lib.hid hb
  have HT := Lib.hid ht
  have HI : Hid (Wk W bw bd ba n vF (.slice C n cc) ⟨z.dp, z.ah, z.le⟩ pl er) := Lib.hid h
  have HN := Lib.hid hn
  have HK := Lib.hid hk
  clear hb ht h hn hk
  obtain ⟨dp, ah, le⟩ := z
  dsimp only at *
  generalize hx : kv n k = x
  generalize hy : decide (k < n) = y
  generalize hA : (if k < n then ah.set k false else ah) = A
  have HX := Lib.hid (show _ ∧ _ ∧ _ from ⟨hx, hy, hA⟩)
  clear hx hy hA
  go_enter Try.func16, Try.ntmps16
  go_wp2
  go_loopg [] (k - le) (fun g wr => ∃ j : Nat, g = k - j ∧ le ≤ j ∧ j ≤ k ∧ Hid (Wk wr bw bd ba n vF (.slice C n cc) ⟨dp, ah, j⟩ pl er) ∧ Hid (Trn bw bd ba W wr))
  case atStart => exact ⟨le, rfl, Nat.le_refl _, hle, HI, Lib.hid (Trn.refl _ _ _ _)⟩
  case round =>
    clear HI hle
    obtain ⟨j, hg, hj0, hjk, HW, HR⟩ := hrel
    have hkn := HK.out
    have hn2 := HN.out
    obtain ⟨-, c1, -, c3, c4, -, -, d4, -, -⟩ := HW.out.cells
    dsimp only at c4
    by_cases hjn : j < n
    · obtain ⟨u0, v0⟩ := HW.out.yes hjn
      dsimp only at u0
      have q0 : decide ((j : Int) < (n : Int)) = true := decide_eq_true (by omega)
      have h0 : (0 : Int) ≤ (j : Int) := by omega
      have h1 : (j : Int) < (n : Int) := by omega
      by_cases hjk2 : j < k
      · rw [HB.out j hj0 hjk2] at u0
        have HM := fun m => Lib.hid ((HW.out.drewN m).least (j + 1))
        have HU := fun m => Lib.hid ((HR.out.drewN m).setCell (p := ⟨bw, 4, none⟩) (.inl rfl) (.int .i64 ((j + 1 : Nat) : Int)))
        have e1 : ((j + 1 : Nat) : Int) = (j : Int) + 1 := by omega
        rw [e1] at HM HU
        go_wp2
        go_quiet (fail)
        go_wp2
        go_quiet (fail)
        go_wp2
        go_roundg (k - (j + 1))
        case measure => omega
        case rel => exact ⟨j + 1, rfl, by omega, by omega, HM _, HU _⟩
      · obtain rfl : j = k := by omega
        rw [HT.out hjn] at u0
        obtain ⟨rfl, rfl, rfl⟩ : x = (j : Int) ∧ y = true ∧ A = ah.set j false := ⟨by rw [← HX.out.1]; unfold kv; rw [if_pos hjn], by rw [← HX.out.2.1, decide_eq_true hjn], by rw [← HX.out.2.2, if_pos hjn]⟩
        clear HX
        have HM := fun m => Lib.hid ((HW.out.drewN m).mark j false)
        have HU := fun m => Lib.hid ((HR.out.drewN m).setCell (p := ⟨ba, j, none⟩) (.inr (.inr rfl)) (.bool false))
        have n2 := HW.out.n2
        have n2' := Ne.symm n2
        go_wp2
        go_quiet (fail)
        go_wp2
        go_quiet (fail)
        go_wp2
        go_region
        go_wp2
        go_ret2
        exact ⟨rfl, (HM _).out, (HU _).out⟩
    · have q0 : decide ((j : Int) < (n : Int)) = false := decide_eq_false (by omega)
      obtain rfl : j = k := by omega
      obtain ⟨rfl, rfl, rfl⟩ : x = 0 ∧ y = false ∧ A = ah := ⟨by rw [← HX.out.1]; unfold kv; rw [if_neg hjn], by rw [← HX.out.2.1, decide_eq_false hjn], by rw [← HX.out.2.2, if_neg hjn]⟩
      clear HX
      have HM := fun m => Lib.hid (HW.out.drewN m)
      have HU := fun m => Lib.hid (HR.out.drewN m)
      go_wp2
      go_quiet (fail)
      go_wp2
      go_ret2
      exact ⟨rfl, (HM _).out, (HU _).out⟩
end Go.Proofs.Ytjlmgoaglpkhoaa.pgm.dep

/-
  The walk's small calls, each by itself (typed over the code of 5351f23): how many arguments a function has, what stands there behind an instruction, where it goes, what it blames. The functions' arguments are from 0 to 8.
-/
namespace Go.Proofs.Ytjlmgoaglpkhoaa.pgm.dep
open Go.RowKit Go.ChangeShapes
open Go.Proofs.Ytjlmgoaglpkhoaa.pgm
open Go.Proofs.Ytjlmgoaglpkhoaa.objs (De zero DAt cells3)
open Go.Proofs.Ytjlmgoaglpkhoaa.oper (pops numb ly insBox pops_any pushes_yes pushes_no goes_any goesB)
open Go.Proofs.Ytjlmgoaglpkhoaa.span (within_any)
set_option linter.unusedVariables false

/-- How many arguments the function of a number has; 0: there is no such one. -/
def argsAt (fs : List Fn) (a : Int) : Int := if 0 ≤ a ∧ a ≤ (fs.length : Int) - 1 then (fs.getD a.toNat Fn.zero).ar else 0

set_option maxRecDepth 100000 in
set_option maxHeartbeats 2000000 in
theorem args_any (W : World) (bw bd ba n : Nat) (C : Option Addr) (cf : Nat) (fs : List Fn) (vC : Value) (z : Z) (pl er a : Int) (h : Wk W bw bd ba n (.slice C fs.length cf) vC z pl er) (hF : FsAt W C fs) (hl : fs.length ≤ 16) :
    Calls Try.prog 37 #[.pointer (some ⟨bw, 0, none⟩), .int .i64 a] W fun e w' => e = .returned (.int .i64 (argsAt fs a)) ∧ W = w' := by
  obtain ⟨c0, -, -, -, -, -, -, -, -, -⟩ := h.cells
  have HWi := fun W => Lib.hid (within_any a 0 ((fs.length : Int) - 1) W)
  unfold argsAt
  by_cases hc : 0 ≤ a ∧ a ≤ (fs.length : Int) - 1
  · rw [if_pos hc]
    rw [decide_eq_true hc] at HWi
    obtain ⟨j, rfl⟩ : ∃ j : Nat, a = (j : Int) := ⟨a.toNat, by omega⟩
    rw [Int.toNat_natCast]
    have hj : j < fs.length := by omega
    obtain ⟨g, off, Aj, cj, rfl, hg, ⟨f0, _, _⟩, _⟩ := hF j hj
    generalize (fs.getD j Fn.zero).ar = r at *
    have h0 : (0 : Int) ≤ (j : Int) := by omega
    have h1 : (j : Int) < (fs.length : Int) := by omega
    clear hc h hF
    go_enter Try.func37, Try.ntmps37
    go_wp2_with fail
    refine (HWi _).out.mono ?_
    rintro e w1 ⟨rfl, rfl⟩
    go_wp2
    go_ret
    exact ⟨rfl, rfl⟩
  · rw [if_neg hc]
    rw [decide_eq_false hc] at HWi
    clear hc h hF
    go_enter Try.func37, Try.ntmps37
    go_wp2_with fail
    refine (HWi _).out.mono ?_
    rintro e w1 ⟨rfl, rfl⟩
    go_wp2
    go_ret
    exact ⟨rfl, rfl⟩

set_option maxRecDepth 100000 in
set_option maxHeartbeats 2000000 in
theorem blame_any (W : World) (bw bd ba n : Nat) (vF vC : Value) (z : Z) (pl er : Int) (a e : Nat) (h : Wk W bw bd ba n vF vC z pl er) :
    Calls Try.prog 17 #[.pointer (some ⟨bw, 0, none⟩), .int .i64 (a : Int), .int .i64 (e : Int)] W fun x w' => x = .returned (.tuple #[]) ∧ Wk w' bw bd ba n vF vC z (blameZ pl er a e).1 (blameZ pl er a e).2 ∧ Trn bw bd ba W w' := by
  obtain ⟨-, -, -, -, -, c5, c6, -, d5, d6⟩ := h.cells
  have HW := Lib.hid (h.wrong (a : Int) (e : Int))
  have HT := Lib.hid (((Trn.refl bw bd ba W).setCell (p := ⟨bw, 5, none⟩) (.inl rfl) (.int .i64 (a : Int))).setCell (p := ⟨bw, 6, none⟩) (.inl rfl) (.int .i64 (e : Int)))
  have HS := Lib.hid h
  unfold blameZ
  by_cases he : e = 0
  · subst he
    rw [if_neg (fun hh => hh.1 rfl), show ((0 : Nat) : Int) = 0 from rfl]
    clear h HW HT
    go_enter Try.func17, Try.ntmps17
    go_wp2
    go_end0
    exact ⟨rfl, HS.out, Trn.refl _ _ _ _⟩
  · have q0 : ((e : Int) != 0) = true := by simpa using he
    by_cases h0 : er = 0
    · rw [if_pos ⟨he, .inl h0⟩]
      have q1 : (er == 0) = true := by simpa using h0
      clear h he h0
      go_enter Try.func17, Try.ntmps17
      go_wp2
      go_end0
      exact ⟨rfl, HW.out, HT.out⟩
    · have q1 : (er == 0) = false := by simpa using h0
      by_cases hl : (a : Int) < pl
      · rw [if_pos ⟨he, .inr hl⟩]
        have q2 : decide ((a : Int) < pl) = true := decide_eq_true hl
        clear h he h0
        go_enter Try.func17, Try.ntmps17
        go_wp2
        go_end0
        exact ⟨rfl, HW.out, HT.out⟩
      · rw [if_neg (fun hh => by rcases hh.2 with h3 | h3; exact h0 h3; exact hl h3)]
        have q2 : decide ((a : Int) < pl) = false := decide_eq_false hl
        clear h he h0 HW HT
        go_enter Try.func17, Try.ntmps17
        go_wp2
        go_end0
        exact ⟨rfl, HS.out, Trn.refl _ _ _ _⟩
end Go.Proofs.Ytjlmgoaglpkhoaa.pgm.dep

/-
  The walk's call that tells how many values stand there behind an instruction (typed over the code of 5351f23). The instruction may be; the functions' arguments are from 0 to 8; the depth is from 0 to 16.
-/
namespace Go.Proofs.Ytjlmgoaglpkhoaa.pgm.dep
open Go.RowKit Go.ChangeShapes
open Go.Proofs.Ytjlmgoaglpkhoaa.pgm
open Go.Proofs.Ytjlmgoaglpkhoaa.objs (De zero DAt cells3)
open Go.Proofs.Ytjlmgoaglpkhoaa.oper (pops numb ly insBox pops_any pushes_yes goesB)
open Go.Proofs.Ytjlmgoaglpkhoaa.span (within_any)
set_option linter.unusedVariables false

theorem pops_at {fs : List Fn} {x : De} (h : chkI x = 0) : pops x.1 x.2.2 (argsAt fs x.2.1) = pops x.1 x.2.2 (argsOf fs x) := by
  unfold argsAt argsOf
  by_cases ho : x.1 = 20
  · have hf := func_small h ho
    by_cases hl : x.2.1 < (fs.length : Int)
    · rw [if_pos (by omega), if_pos ⟨ho, hl⟩]
    · rw [if_neg (by omega), if_neg (fun hh => hl hh.2)]
  · unfold pops
    rw [if_neg ho, if_neg ho]

set_option maxRecDepth 100000 in
set_option maxHeartbeats 4000000 in
theorem behind_any (W : World) (bw bd ba n : Nat) (C : Option Addr) (cf : Nat) (fs : List Fn) (vC : Value) (z : Z) (pl er d : Int) (x : De) (h : Wk W bw bd ba n (.slice C fs.length cf) vC z pl er) (hF : FsAt W C fs) (hl : fs.length ≤ 16) (hf : ∀ f ∈ fs, 0 ≤ f.ar ∧ f.ar ≤ 8) (hx : chkI x = 0) (h0 : 0 ≤ d) (h1 : d ≤ 16) :
    Calls Try.prog 26 #[.pointer (some ⟨bw, 0, none⟩), .agg #[.int .i64 x.1, .int .i64 x.2.1, .int .i64 x.2.2], .int .i64 d] W fun e w' => e = .returned (.tuple #[.int .i64 (behindE fs x d).1, .int .i64 ((behindE fs x d).2 : Int)]) ∧ Below W.heap.size W w' := by
  have hp := pops_small hf hx
  have hy := lays_small x.1
  have hb := b_small hx
  have hk := (Go.Proofs.Ytjlmgoaglpkhoaa.inst.chk_zero hx).1
  have hpa := pops_at (fs := fs) hx
  obtain ⟨r, hr⟩ : ∃ r, r = behindE fs x d := ⟨_, rfl⟩
  rw [← hr]
  unfold behindE at hr
  have hb0 : Below W.heap.size W (W.alloc (insBox x.1 x.2.1 x.2.2)) := (Below.refl _ W).alloc (Nat.le_refl _) _
  have HA := Lib.hid (args_any ((W.alloc (insBox x.1 x.2.1 x.2.2)).drew) bw bd ba n C cf fs vC z pl er x.2.1 (h.next hb0).drew ((hF.next hb0).next ((Below.refl _ _).drew)) hl)
  have HP := fun W => Lib.hid (pops_any x.1 x.2.1 x.2.2 (argsAt fs x.2.1) (by omega) (by omega) W)
  have HU := fun W => Lib.hid (pushes_yes x.1 hk.1 hk.2 W)
  rw [hpa] at HP
  have hx0 := heap_alloc_new W (insBox x.1 x.2.1 x.2.2)
  have hbb : Below W.heap.size W ((W.alloc (insBox x.1 x.2.1 x.2.2)).drew.alloc (insBox x.1 x.2.1 x.2.2)) := (hb0.drew).alloc (by rw [show (W.alloc (insBox x.1 x.2.1 x.2.2)).drew.heap.size = W.heap.size + 1 from World.size_alloc _ _]; omega) _
  have hx2 : ((W.alloc (insBox x.1 x.2.1 x.2.2)).drew.alloc (insBox x.1 x.2.1 x.2.2)).heap[W.heap.size]? = some (insBox x.1 x.2.1 x.2.2) := (Below.heap_alloc _ _ _ (by rw [show (W.alloc (insBox x.1 x.2.1 x.2.2)).drew.heap.size = W.heap.size + 1 from World.size_alloc _ _]; omega)).trans hx0
  obtain ⟨o, a, b⟩ := x
  dsimp only at *
  generalize pops o b (argsOf fs (o, a, b)) = k at *
  generalize numb ly o = y at *
  generalize argsAt fs a = ar at *
  have HBB := Lib.hid hbb
  have HR := Lib.hid hr
  have HX2 := Lib.hid hx2
  unfold insBox at HA HP hx0 HBB HX2
  have HWi := fun W => Lib.hid (within_any k 0 d W)
  obtain ⟨i0, i1, i2, -, -, -⟩ := cells3 hx0
  clear h hF hx hb0 hbb hx2 hr hf hpa hk hx0
  go_enter Try.func26, Try.ntmps26
  go_wp2
  generalize hW0 : W.alloc (.cells #[.int .i64 o, .int .i64 a, .int .i64 b] 40) = W0 at *
  clear hW0
  go_still_tail 5, (by kernel_rfl)
  still_call (HA.out.mono fun e w' h => ⟨h.1, h.2.symm⟩)
  repeat still_step
  refine wpStill_nil ?_
  change wpList _ _ _ _ _ W0.drew
  generalize hW1 : W0.drew = W1 at *
  clear hW1
  go_wp2_with fail
  refine (HP _).out.mono ?_
  rintro _ _ ⟨rfl, rfl⟩
  obtain ⟨i0, i1, i2, -, -, -⟩ := cells3 HX2.out
  generalize W1.alloc (.cells #[.int .i64 o, .int .i64 a, .int .i64 b] 40) = W2 at *
  by_cases h2 : d < k
  · have hv := HR.out
    rw [if_pos h2] at hv
    subst hv
    rw [decide_eq_false (by omega)] at HWi
    go_wp2_with fail
    refine (HWi _).out.mono ?_
    rintro _ _ ⟨rfl, rfl⟩
    go_wp2
    go_ret2
    exact ⟨rfl, HBB.out⟩
  · have hv := HR.out
    rw [if_neg h2] at hv
    rw [decide_eq_true (by omega)] at HWi
    go_wp2_with fail
    refine (HWi _).out.mono ?_
    rintro _ _ ⟨rfl, rfl⟩
    go_wp2_with fail
    refine (HU _).out.mono ?_
    rintro _ _ ⟨rfl, rfl⟩
    by_cases h3 : 16 < d + (y - k)
    · rw [if_pos h3] at hv
      subst hv
      have q0 : decide (d + (y - k) > 16) = true := decide_eq_true (by omega)
      go_wp2
      go_ret2
      exact ⟨rfl, HBB.out⟩
    · rw [if_neg h3] at hv
      subst hv
      have q0 : decide (d + (y - k) > 16) = false := decide_eq_false (by omega)
      go_wp2
      go_ret2
      exact ⟨rfl, HBB.out⟩
end Go.Proofs.Ytjlmgoaglpkhoaa.pgm.dep

/-
  The walk's call that looks at an instruction (typed over the code of 5351f23). The instructions may be, and are at most 200; the functions' arguments are from 0 to 8; the depth is from 0 to 16.
-/
namespace Go.Proofs.Ytjlmgoaglpkhoaa.pgm.dep
open Go.RowKit Go.ChangeShapes
open Go.Proofs.Ytjlmgoaglpkhoaa.pgm
open Go.Proofs.Ytjlmgoaglpkhoaa.objs (De zero DAt cells3)
open Go.Proofs.Ytjlmgoaglpkhoaa.oper (pops numb ly insBox goes_any goesB)
set_option linter.unusedVariables false

theorem reachZ_le (n : Nat) (d : Int) (z : Z) (t : Nat) : (reachZ n d z t).1.le ≤ z.le := by
  unfold reachZ
  split
  · exact Nat.le_refl _
  · split
    · exact Nat.min_le_left _ _
    · split <;> exact Nat.le_refl _

set_option maxRecDepth 100000 in
set_option maxHeartbeats 8000000 in
theorem look_any (W : World) (bw bd ba n : Nat) (F : Option Addr) (cf : Nat) (fs : List Fn) (C : Option Addr) (cc : Nat) (co : List De) (z : Z) (pl er : Int) (a : Nat) (h : Wk W bw bd ba n (.slice F fs.length cf) (.slice C n cc) z pl er) (hF : FsAt W F fs) (hl : fs.length ≤ 16) (hf : ∀ f ∈ fs, 0 ≤ f.ar ∧ f.ar ≤ 8)
    (hC : DAt W C co) (hn : co.length = n) (hn2 : n ≤ 200) (ha : a < n) (hle : z.le ≤ 200) (hx : chkI (co.getD a zero) = 0) (h0 : 0 ≤ z.dp.getD a (-1)) (h1 : z.dp.getD a (-1) ≤ 16) :
    Calls Try.prog 18 #[.pointer (some ⟨bw, 0, none⟩), .int .i64 (a : Int)] W fun e w' => e = .returned (.int .i64 ((lookZ n fs (co.getD a zero) a z).2 : Int)) ∧ Wk w' bw bd ba n (.slice F fs.length cf) (.slice C n cc) (lookZ n fs (co.getD a zero) a z).1 pl er ∧ Trn bw bd ba W w' := by
  obtain ⟨-, c1, c2, -, -, -, -, -, -, -⟩ := h.cells
  obtain ⟨x0, -⟩ := h.depth ha
  obtain ⟨b1, o1, rfl, hb1, d0, d1, d2⟩ := hC a (by rw [hn]; exact ha)
  have hlt := h.lt
  have hpl := fun h => place_small hx h
  obtain ⟨r, hr⟩ : ∃ r, r = lookZ n fs (co.getD a zero) a z := ⟨_, rfl⟩
  rw [← hr]
  unfold lookZ at hr
  have hk := (Go.Proofs.Ytjlmgoaglpkhoaa.inst.chk_zero hx).1
  have hb0 : Below W.heap.size W (W.alloc (insBox (co.getD a zero).1 (co.getD a zero).2.1 (co.getD a zero).2.2)) := (Below.refl _ W).alloc (Nat.le_refl _) _
  have HBe := Lib.hid (behind_any ((W.alloc (insBox (co.getD a zero).1 (co.getD a zero).2.1 (co.getD a zero).2.2)).drew) bw bd ba n F cf fs (.slice (some ⟨b1, o1, none⟩) n cc) z pl er (z.dp.getD a (-1)) (co.getD a zero) (h.next hb0).drew ((hF.next hb0).next ((Below.refl _ _).drew)) hl hf hx h0 h1)
  have hx0 := heap_alloc_new W (insBox (co.getD a zero).1 (co.getD a zero).2.1 (co.getD a zero).2.2)
  have HW0 := Lib.hid (h.next hb0)
  have HS0 : Hid ((W.alloc (insBox (co.getD a zero).1 (co.getD a zero).2.1 (co.getD a zero).2.2)).heap.size = W.heap.size + 1) := Lib.hid (World.size_alloc _ _)
  have HB0 := Lib.hid hb0
  have HD : Hid ((behindE fs (co.getD a zero) (z.dp.getD a (-1))).2 = 0 → -1 < (behindE fs (co.getD a zero) (z.dp.getD a (-1))).1) := Lib.hid fun e => by
    have := ((behind_zero (fs := fs) (x := co.getD a zero) (d := z.dp.getD a (-1)) (lays_small _).1).2 e).2.1
    have := ((behind_zero (fs := fs) (x := co.getD a zero) (d := z.dp.getD a (-1)) (lays_small _).1).2 e).1
    omega
  generalize hdd : z.dp.getD a (-1) = dd at *
  generalize co.getD a zero = x at *
  generalize behindE fs x dd = be at *
  obtain ⟨o, p, q⟩ := x
  obtain ⟨v, ev⟩ := be
  dsimp only at *
  have HDD := Lib.hid hdd
  clear hdd
  have HR := Lib.hid hr
  have HPl := Lib.hid hpl
  have HLt := Lib.hid hlt
  have g0 : (0 : Int) ≤ (a : Int) := by omega
  have g1 : (a : Int) < (n : Int) := by omega
  unfold insBox at HBe hx0 HW0 HS0 HB0
  clear h hF hC hx hr hpl hlt hk hb0
  go_enter Try.func18, Try.ntmps18
  go_wp2_with fail
  generalize hW0 : W.alloc (.cells #[.int .i64 o, .int .i64 p, .int .i64 q] 40) = W0 at *
  clear hW0 c1 c2 x0 d0 d1 d2
  obtain ⟨-, -, c2, -, -, -, -, -, -, -⟩ := HW0.out.cells
  obtain ⟨x0, -⟩ := HW0.out.depth ha
  rw [HDD.out] at x0
  obtain ⟨i0, i1, i2, -, -, -⟩ := cells3 hx0
  go_region_with (go_at_call 26; refine HBe.out.mono ?_; rintro e w' ⟨rfl, hb⟩)
  all_goals
    have HW2 := Lib.hid (HW0.out.drew.next hb)
    have hx2 := (hb.block _ (lt_of_block hx0)).trans hx0
    have HX2 := Lib.hid hx2
    have HT2 : Hid (Trn bw bd ba W w') := Lib.hid (Trn.of_below (HB0.out.drew.trans (hb.mono HB0.out.size)))
    clear c2 x0 i0 i1 i2 hb HBe HW0 HB0 hx0
    obtain ⟨i0, i1, i2, -, -, -⟩ := cells3 hx2
    clear hx2
    by_cases he : ev = 0
    · subst he
      have hv := HD.out rfl
      have HGo := fun W => Lib.hid (goes_any o W)
      have hrr := HR.out
      rw [if_neg (fun e => e rfl)] at hrr
      unfold goZ at hrr
      dsimp only at hrr
      have HR1 := Lib.hid hrr
      have HRe := fun W z t h hle ht => Lib.hid (reach_any W bw bd ba n (.slice F fs.length cf) (some ⟨b1, o1, none⟩) cc z pl er v t h hn2 hle ht hv)
      clear hrr HR
      rw [show ((0 : Nat) : Int) = 0 from rfl]
      cases hg : goesB o with
      | true =>
        rw [hg] at HGo
        have HR2 := HR1.out
        rw [if_pos hg] at HR2
        have HRa := HRe w' z (a + 1) HW2.out hle (by omega)
        have e1 : ((a + 1 : Nat) : Int) = (a : Int) + 1 := by omega
        rw [e1] at HRa
        have HLe := Lib.hid (reachZ_le n v z (a + 1))
        generalize reachZ n v z (a + 1) = ra at *
        obtain ⟨z1, ea⟩ := ra
        dsimp only at *
        have HR3 := Lib.hid HR2
        clear HR1 HR2 hg
        go_wp2_with fail
        refine (HGo _).out.mono ?_
        rintro _ _ ⟨rfl, rfl⟩
        go_wp2_with fail
        refine HRa.out.mono ?_
        rintro _ w3 ⟨rfl, hw3, ht3⟩
        have hlt2 := HW2.out.lt
        have HX3 := (ht3.block _ (lt_of_block HX2.out) (by have := HLt.out; omega) (by have := HLt.out; omega) (by have := HLt.out; omega)).trans HX2.out
        have HW3 := Lib.hid hw3
        have HT3 := Lib.hid (HT2.out.and ht3)
        clear hw3 ht3 HRa i0 i1 i2 HX2 HW2 HT2
        obtain ⟨i0, i1, i2, -, -, -⟩ := cells3 HX3
        clear HX3
        by_cases hea : ea = 0
        · subst hea
          rw [show ((0 : Nat) : Int) = 0 from rfl]
          have HR4 := HR3.out
          rw [if_neg (fun e => e rfl)] at HR4
          by_cases hj : o = 18 ∨ o = 19
          · rw [if_pos hj] at HR4
            obtain ⟨p0, p1⟩ := HPl.out hj
            obtain ⟨t, rfl⟩ : ∃ t : Nat, p = (t : Int) := ⟨p.toNat, by omega⟩
            rw [Int.toNat_natCast] at HR4
            have HRb := HRe w3 z1 t HW3.out (by have := HLe.out; omega) (by omega)
            subst HR4
            rcases hj with hj | hj
            · subst hj
              go_wp2_with fail
              refine HRb.out.mono ?_
              rintro _ w4 ⟨rfl, hw4, ht4⟩
              go_wp2
              go_ret
              exact ⟨rfl, hw4, HT3.out.and ht4⟩
            · subst hj
              go_wp2_with fail
              refine HRb.out.mono ?_
              rintro _ w4 ⟨rfl, hw4, ht4⟩
              go_wp2
              go_ret
              exact ⟨rfl, hw4, HT3.out.and ht4⟩
          · rw [if_neg hj] at HR4
            subst HR4
            have q1 : (o == 18) = false := by simpa using (fun e => hj (.inl e))
            have q2 : (o == 19) = false := by simpa using (fun e => hj (.inr e))
            clear hj
            go_wp2
            go_ret
            exact ⟨rfl, HW3.out, HT3.out⟩
        · have HR4 := HR3.out
          rw [if_pos hea] at HR4
          subst HR4
          have q1 : ((ea : Int) != 0) = true := by simpa using hea
          clear hea
          go_wp2
          go_ret
          exact ⟨rfl, HW3.out, HT3.out⟩
      | false =>
        rw [hg] at HGo
        have HR4 := HR1.out
        rw [if_neg (by rw [hg]; decide)] at HR4
        clear HR1 hg
        go_wp2_with fail
        refine (HGo _).out.mono ?_
        rintro _ _ ⟨rfl, rfl⟩
        by_cases hj : o = 18 ∨ o = 19
        · rw [if_pos hj] at HR4
          obtain ⟨p0, p1⟩ := HPl.out hj
          obtain ⟨t, rfl⟩ : ∃ t : Nat, p = (t : Int) := ⟨p.toNat, by omega⟩
          rw [Int.toNat_natCast] at HR4
          have HRb := HRe w' z t HW2.out hle (by omega)
          subst HR4
          rcases hj with hj | hj
          · subst hj
            go_wp2_with fail
            refine HRb.out.mono ?_
            rintro _ w4 ⟨rfl, hw4, ht4⟩
            go_wp2
            go_ret
            exact ⟨rfl, hw4, HT2.out.and ht4⟩
          · subst hj
            go_wp2_with fail
            refine HRb.out.mono ?_
            rintro _ w4 ⟨rfl, hw4, ht4⟩
            go_wp2
            go_ret
            exact ⟨rfl, hw4, HT2.out.and ht4⟩
        · rw [if_neg hj] at HR4
          subst HR4
          have q1 : (o == 18) = false := by simpa using (fun e => hj (.inl e))
          have q2 : (o == 19) = false := by simpa using (fun e => hj (.inr e))
          clear hj
          go_wp2
          go_ret
          exact ⟨rfl, HW2.out, HT2.out⟩
    · have hrr := HR.out
      rw [if_pos he] at hrr
      subst hrr
      have q1 : ((ev : Int) != 0) = true := by simpa using he
      clear he
      go_wp2
      go_ret
      exact ⟨rfl, HW2.out, HT2.out⟩
end Go.Proofs.Ytjlmgoaglpkhoaa.pgm.dep

/-
  The program's own answer of the depths of a function (typed over the code of 5351f23): of every program that may be, and every number of a function.
-/
namespace Go.Proofs.Ytjlmgoaglpkhoaa.pgm.dep
open Go.RowKit Go.ChangeShapes
open Go.Proofs.Ytjlmgoaglpkhoaa.pgm
open Go.Proofs.Ytjlmgoaglpkhoaa.objs (De zero DAt cells3)
open Go.Proofs.Ytjlmgoaglpkhoaa.nums (NAt ints ints_at ints_length)
open Go.Proofs.Ytjlmgoaglpkhoaa.span (within_any)
set_option linter.unusedVariables false

theorem below_drewN {B : Nat} {a w : World} (h : Below B a w) (n : Nat) : Below B a (w.drewN n) := ⟨h.os, h.tape, h.output, h.size, h.block⟩

theorem nat_row {W : World} {b : Nat} {l : List Int} (h : W.heap[b]? = some (.cells (ints l).toArray 3 (0, 0))) : NAt W (some ⟨b, 0, none⟩) l := fun j hj => by
  refine ⟨b, 0, rfl, lt_of_block h, ?_⟩
  rw [Nat.zero_add, cell_of_row W b j _ _ (0, 0) h, List.getElem?_toArray, Go.Proofs.Ytjlmgoaglpkhoaa.nums.ints_at hj]
theorem funcs_of {p : Pg} (h : chkP p = 0) : p.fs.length ≤ 16 ∧ (∀ f ∈ p.fs, 0 ≤ f.ar ∧ f.ar ≤ 8) ∧ ∀ f ∈ p.fs, 0 < f.co.length ∧ f.co.length ≤ 200 ∧ ∀ x ∈ f.co, chkI x = 0 := by
  obtain ⟨_, _, _, _, g5, g6⟩ := chkP_zero h
  refine ⟨g5, fun f hf => ?_, fun f hf => ?_⟩
  · have := (chkFn_zero (g6 f hf)).1
    omega
  · have := chkFn_zero (g6 f hf)
    exact this.2
/-- What lies there between any two rounds: the next one has just been told. -/
structure Rnd (w : World) (bw bd ba n : Nat) (vF vC : Value) (fs : List Fn) (co : List De) (g k : Nat) (q : Q) (pl er : Int) (wr : World) : Prop where
  now : k = pick q.dp q.dn n
  mem : ∃ z, R n q.dp q.dn z ∧ Wk wr bw bd ba n vF vC ⟨z.dp, if k < n then z.ah.set k false else z.ah, k⟩ pl er
  bad : W2 n q pl er
  run : runQ fs co g q = runQ fs co n (startQ co)
  left : left q.dn ≤ g
  below : Below w.heap.size w wr
theorem Rnd.le {w : World} {bw bd ba n : Nat} {vF vC : Value} {fs : List Fn} {co : List De} {g k : Nat} {q : Q} {pl er : Int} {wr : World} (h : Rnd w bw bd ba n vF vC fs co g k q pl er wr) : k ≤ n := by
  obtain ⟨z, hz, _⟩ := h.mem
  rw [h.now]
  exact hz.next.1
/-- A round. -/
theorem Rnd.step {w : World} {bw bd ba n : Nat} {vF vC : Value} {fs : List Fn} {co : List De} {g k : Nat} {q : Q} {pl er : Int} {wr : World} (h : Rnd w bw bd ba n vF vC fs co g k q pl er wr) (hk : k < n) (hn : co.length = n) (hci : ∀ x ∈ co, chkI x = 0) :
    ∃ z1, Wk wr bw bd ba n vF vC z1 pl er ∧ z1.le ≤ n ∧ 0 ≤ z1.dp.getD k (-1) ∧ z1.dp.getD k (-1) ≤ 16 ∧ chkI (co.getD k zero) = 0 ∧ R n (stepQ fs co q k).dp (stepQ fs co q k).dn (lookZ n fs (co.getD k zero) k z1).1 ∧
      W2 n (stepQ fs co q k) (blameZ pl er k (lookZ n fs (co.getD k zero) k z1).2).1 (blameZ pl er k (lookZ n fs (co.getD k zero) k z1).2).2 ∧
      ∃ g', g = g' + 1 ∧ runQ fs co g' (stepQ fs co q k) = runQ fs co n (startQ co) ∧ Go.Proofs.Ytjlmgoaglpkhoaa.pgm.dep.left (stepQ fs co q k).dn ≤ g' := by
  obtain ⟨z, hz, hm⟩ := h.mem
  have hp : pick q.dp q.dn n < n := by rw [← h.now]; exact hk
  have hx := hci _ (Go.Proofs.Ytjlmgoaglpkhoaa.pgm.getD_in (d := zero) (by rw [hn]; exact hk))
  have h2 := (hz.next.2.2.2 hp).2
  rw [← h.now] at h2
  rw [if_pos hk] at hm
  obtain ⟨p1, p2⟩ := pick_lt hp
  rw [← h.now] at p1 p2
  have hl := h2.look (fs := fs) hn (a := k) hx
  have hls := left_set (l := q.dn) (a := k) (by rw [hz.ln]; exact hk) p1
  have hlg := h.left
  obtain ⟨g', rfl⟩ : ∃ g', g = g' + 1 := ⟨g - 1, by omega⟩
  refine ⟨_, hm, by show k ≤ n; omega, by show 0 ≤ z.dp.getD k (-1); rw [hz.same]; exact p2, by show z.dp.getD k (-1) ≤ 16; rw [hz.same]; exact (hz.at hk).2, hx, ?_, ?_, g', rfl, ?_, ?_⟩
  · rw [step_dn, step_dp]
    exact hl.2
  · rw [hl.1]
    exact h.bad.step hk
  · have hr := h.run
    rw [run_step (by rw [hn]; exact hp), hn, ← h.now] at hr
    exact hr
  · rw [step_dn]
    omega
/-- Behind the last round. -/
theorem Rnd.end {w : World} {bw bd ba : Nat} {vF vC : Value} {fs : List Fn} {co : List De} {g k : Nat} {q : Q} {pl er : Int} {wr : World} (h : Rnd w bw bd ba co.length vF vC fs co g k q pl er wr) (hk : ¬ k < co.length) :
    q = runQ fs co co.length (startQ co) ∧ ∃ z, z.dp = q.dp ∧ Wk wr bw bd ba co.length vF vC z pl er := by
  obtain ⟨z, hz, hm⟩ := h.mem
  refine ⟨?_, _, ?_, hm⟩
  · rw [← h.run, run_end (by rw [← h.now]; exact hk)]
  · exact hz.same

set_option maxRecDepth 100000 in
set_option maxHeartbeats 8000000 in
theorem of_any (v : Value) (p : Pg) (fn : Int) (w : World) (hv : PAt w v p) (hz : chkP p = 0) (hfn : I64 fn) : Calls Try.prog 7 #[v, .int .i64 fn] w (OfPost (depths p.fs fn) w) := by
  obtain ⟨A, B, C, ca, cb, cc, rfl, -, -, hF⟩ := hv
  obtain ⟨hfl, hfa, hfc⟩ := funcs_of hz
  unfold OfPost
  obtain ⟨r, hr⟩ : ∃ r, r = depths p.fs fn := ⟨_, rfl⟩
  rw [← hr]
  unfold depths at hr
  have hb0 : Below w.heap.size w (w.alloc (pgB (.slice A p.ds.length ca) (.slice B p.ws.length cb) (.slice C p.fs.length cc))) := (Below.refl _ _).alloc (Nat.le_refl _) _
  have hx0 := heap_alloc_new w (pgB (.slice A p.ds.length ca) (.slice B p.ws.length cb) (.slice C p.fs.length cc))
  have HWi := fun W => Lib.hid (within_any fn 0 ((p.fs.length : Int) - 1) W)
  have HB0 := Lib.hid hb0
  have HF := Lib.hid hF
  unfold pgB at hx0 HB0
  clear hb0
  by_cases hc : 0 ≤ fn ∧ fn ≤ (p.fs.length : Int) - 1
  · rw [decide_eq_true hc] at HWi
    rw [if_neg (by omega)] at hr
    dsimp only at hr
    obtain ⟨f, rfl⟩ : ∃ f : Nat, fn = (f : Int) := ⟨fn.toNat, by omega⟩
    rw [Int.toNat_natCast] at hr
    have hfl2 : f < p.fs.length := by omega
    obtain ⟨hc0, hc1, hci⟩ := hfc _ (Go.Proofs.Ytjlmgoaglpkhoaa.pgm.getD_in (d := Fn.zero) hfl2)
    rw [if_neg (by omega)] at hr
    obtain ⟨gb, off, Aj, cj, rfl, hg, ⟨f0, f1, f2⟩, hD⟩ := hF f hfl2
    generalize (p.fs.getD f Fn.zero).co = co at *
    have HR := Lib.hid hr
    have HD := Lib.hid hD
    have HCI := Lib.hid hci
    have HFA := Lib.hid hfa
    have h0 : (0 : Int) ≤ (f : Int) := by omega
    have h1 : (f : Int) < (p.fs.length : Int) := by omega
    have f2' := (HB0.out.cell (p := ⟨gb, off + f * 3 + 2, none⟩) hg).trans f2
    clear hr hD hci hfa hfc hz hc f0 f1 f2 hF
    go_enter Try.func7, Try.ntmps7
    go_upto_region 1 with fail
    generalize hW0 : w.alloc (.cells #[.slice A p.ds.length ca, .slice B p.ws.length cb, .slice (some ⟨gb, off, none⟩) p.fs.length cc] 26) = W0 at *
    clear hW0
    obtain ⟨x0, x1, x2, -, -, -⟩ := cells3 hx0
    go_wp2_with fail
    refine (HWi _).out.mono ?_
    rintro _ _ ⟨rfl, rfl⟩
    go_wp2_with fail
    have HSt := Lib.hid (start_any W0.drew (some ⟨gb, off, none⟩) Aj p.fs.length cc co.length cj hc0 hc1)
    go_still_tail 8, (by kernel_rfl)
    change wpList _ _ _ _ _ W0.drew
    have HB1 : Hid (Below w.heap.size w W0.drew) := Lib.hid HB0.out.drew
    generalize W0.drew = W1 at *
    clear HB0 x0 x1 x2 f2' hx0 HWi
    go_wp2_with fail
    refine HSt.out.mono ?_
    rintro _ w2 ⟨bw, bd, ba, rfl, k1, k2, k3, hw2, hb2⟩
    have hs1 := HB1.out.size
    have HLo : Hid (w.heap.size ≤ bw ∧ w.heap.size ≤ bd ∧ w.heap.size ≤ ba) := Lib.hid ⟨by omega, by omega, by omega⟩
    have HB2 := Lib.hid (HB1.out.trans (hb2.mono HB1.out.size))
    have hst := R.start hc0
    have hnx := hst.next
    have HNx := Lib.hid (next_any w2 bw bd ba co.length _ Aj cj _ 0 0 (pick (startQ co).dp (startQ co).dn co.length) hw2 hc1 hnx.1 hnx.2.1 hnx.2.2.1 (fun h => (hnx.2.2.2 h).1))
    have HRn : ∀ w3, Wk w3 bw bd ba co.length (.slice (some ⟨gb, off, none⟩) p.fs.length cc) (.slice Aj co.length cj) ⟨0 :: List.replicate (co.length - 1) (-1), if pick (startQ co).dp (startQ co).dn co.length < co.length then (true :: List.replicate (co.length - 1) false).set (pick (startQ co).dp (startQ co).dn co.length) false else true :: List.replicate (co.length - 1) false, pick (startQ co).dp (startQ co).dn co.length⟩ 0 0 → Below w.heap.size w w3 →
        Hid (Rnd w bw bd ba co.length (.slice (some ⟨gb, off, none⟩) p.fs.length cc) (.slice Aj co.length cj) p.fs co co.length (pick (startQ co).dp (startQ co).dn co.length) (startQ co) 0 0 w3) := fun w3 h1 h2 => Lib.hid ⟨rfl, ⟨_, hst, h1⟩, W2.start co, rfl, left_start co, h2⟩
    clear hst hnx hw2 hb2 HSt HB1 k1 k2 k3
    generalize pick (startQ co).dp (startQ co).dn co.length = k at *
    go_wp2_with fail
    refine HNx.out.mono ?_
    rintro _ w3 ⟨rfl, hw3, ht3⟩
    have HR3 := HRn w3 hw3 (HB2.out.trans (ht3.below HLo.out.1 HLo.out.2.1 HLo.out.2.2 HB2.out.size))
    clear hw3 ht3 HNx HRn HB2
    go_wp2_with fail
    go_loopg [8, 9] co.length (fun g at' ok wr => ∃ (k : Nat) (q : Q) (pl er : Int), at' = .int .i64 (kv co.length k) ∧ ok = .bool (decide (k < co.length)) ∧ Hid (Rnd w bw bd ba co.length (.slice (some ⟨gb, off, none⟩) p.fs.length cc) (.slice Aj co.length cj) p.fs co g k q pl er wr))
    case atStart => exact ⟨k, startQ co, 0, 0, rfl, rfl, HR3⟩
    case round =>
      clear HR3
      obtain ⟨k, q, pl, er, rfl, rfl, HR3⟩ := hrel
      by_cases hk : k < co.length
      · obtain ⟨z1, hw, hle, hd0, hd1, hx, hR, hW, g', rfl, hrun, hleft⟩ := HR3.out.step hk rfl HCI.out
        have HB3 := Lib.hid HR3.out.below
        have HLk := Lib.hid (look_any wr bw bd ba co.length (some ⟨gb, off, none⟩) cc p.fs Aj cj co z1 pl er k hw (HF.out.next HB3.out) hfl HFA.out (HD.out.next HB3.out) rfl hc1 hk (by omega) hx hd0 hd1)
        have HRR := Lib.hid hR
        have HWW := Lib.hid hW
        have HRun := Lib.hid hrun
        have HLf := Lib.hid hleft
        clear HR3 hw hle hd0 hd1 hx hR hW hrun hleft
        generalize stepQ p.fs co q k = q' at *
        generalize lookZ co.length p.fs (co.getD k zero) k z1 = lz at *
        obtain ⟨z2, e2⟩ := lz
        dsimp only at *
        have ek : kv co.length k = (k : Int) := if_pos hk
        rw [ek, decide_eq_true hk]
        clear ek
        go_wp2_with fail
        refine HLk.out.mono ?_
        rintro _ w4 ⟨rfl, hw4, ht4⟩
        have HB4 := Lib.hid (HB3.out.trans (ht4.below HLo.out.1 HLo.out.2.1 HLo.out.2.2 HB3.out.size))
        have HBl := Lib.hid (blame_any w4 bw bd ba co.length _ _ z2 pl er k e2 hw4)
        clear hw4 ht4 HLk HB3
        generalize blameZ pl er k e2 = bz at *
        obtain ⟨pl2, er2⟩ := bz
        dsimp only at *
        go_wp2_with fail
        refine HBl.out.mono ?_
        rintro _ w5 ⟨rfl, hw5, ht5⟩
        have HB5 := Lib.hid (HB4.out.trans (ht5.below HLo.out.1 HLo.out.2.1 HLo.out.2.2 HB4.out.size))
        have hnx := HRR.out.next
        have HNx := Lib.hid (next_any w5 bw bd ba co.length _ Aj cj z2 pl2 er2 (pick q'.dp q'.dn co.length) hw5 hc1 hnx.1 hnx.2.1 hnx.2.2.1 (fun h => (hnx.2.2.2 h).1))
        have HRn : ∀ w6, Wk w6 bw bd ba co.length (.slice (some ⟨gb, off, none⟩) p.fs.length cc) (.slice Aj co.length cj) ⟨z2.dp, if pick q'.dp q'.dn co.length < co.length then z2.ah.set (pick q'.dp q'.dn co.length) false else z2.ah, pick q'.dp q'.dn co.length⟩ pl2 er2 → Below w.heap.size w w6 →
            Hid (Rnd w bw bd ba co.length (.slice (some ⟨gb, off, none⟩) p.fs.length cc) (.slice Aj co.length cj) p.fs co g' (pick q'.dp q'.dn co.length) q' pl2 er2 w6) := fun w6 h1 h2 => Lib.hid ⟨rfl, ⟨_, HRR.out, h1⟩, HWW.out, HRun.out, HLf.out, h2⟩
        clear hw5 ht5 HBl HB4 hnx HRR HWW HRun HLf
        generalize pick q'.dp q'.dn co.length = k2 at *
        go_wp2_with fail
        refine HNx.out.mono ?_
        rintro _ w6 ⟨rfl, hw6, ht6⟩
        have HR6 := HRn w6 hw6 (HB5.out.trans (ht6.below HLo.out.1 HLo.out.2.1 HLo.out.2.2 HB5.out.size))
        clear hw6 ht6 HNx HRn HB5
        go_wp2
        go_roundg g'
        case measure => omega
        case rel => exact ⟨k2, q', pl2, er2, rfl, rfl, HR6⟩
      · obtain ⟨hq, z, hzq, hw⟩ := HR3.out.end hk
        have hB := HR3.out.below
        have hW2 := HR3.out.bad
        rw [decide_eq_false hk]
        have hrr := HR.out
        rw [← hq] at hrr
        have hee := hW2.er
        have hpp := hW2.bad
        have hnr := nat_row hw.rd
        have hld := hw.ld
        obtain ⟨-, -, c2, -, -, c5, c6, -, -, -⟩ := hw.cells
        rw [hzq] at hnr hld
        by_cases hb : q.bad = 0
        · rw [if_neg (fun e => e hb)] at hrr
          subst hrr
          have e0 : er = 0 := by rw [hee, hb]; rfl
          subst e0
          have HN := Lib.hid hnr
          have HL := Lib.hid hld
          have HB := Lib.hid hB
          clear hB hnr hld hw hzq hq hb hee hpp hW2 c5 HR3 HR hk HD HF HCI HFA
          go_wp2
          go_ret3
          exact ⟨some ⟨bd, 0, none⟩, ⟨co.length, by rw [HL.out]; rfl⟩, HN.out, HB.out⟩
        · rw [if_pos hb] at hrr
          subst hrr
          have e1 := hpp hb
          subst e1
          subst hee
          have q0 : ((q.bad : Int) != 0) = true := by simpa using hb
          have HB := Lib.hid hB
          clear hB hnr hld hw hzq hq hb hpp hW2 c2 HR3 HR hk HD HF HCI HFA
          go_wp2
          go_quiet (fail)
          go_wp2
          go_ret3
          exact ⟨none, ⟨0, rfl⟩, NAt.nil _ _, HB.out.trans (below_drewN (Below.refl _ _) _)⟩
  · rw [decide_eq_false hc] at HWi
    rw [if_pos (by omega)] at hr
    subst hr
    clear hF hfa hfc hz hc
    go_enter Try.func7, Try.ntmps7
    go_upto_region 1 with fail
    generalize hW0 : w.alloc (.cells #[.slice A p.ds.length ca, .slice B p.ws.length cb, .slice C p.fs.length cc] 26) = W0 at *
    clear hW0
    obtain ⟨x0, x1, x2, -, -, -⟩ := cells3 hx0
    go_wp2_with fail
    refine (HWi _).out.mono ?_
    rintro _ _ ⟨rfl, rfl⟩
    go_wp2
    go_ret3
    exact ⟨none, 0, rfl, NAt.nil _ _, HB0.out⟩
end Go.Proofs.Ytjlmgoaglpkhoaa.pgm.dep

/-
  The program's own greatest of any numbers (typed over the code of 5351f23): of at most a thousand; and what is asked of its two calls, paid.
-/
namespace Go.Proofs.Ytjlmgoaglpkhoaa.pgm.dep
open Go.RowKit Go.ChangeShapes
open Go.Proofs.Ytjlmgoaglpkhoaa.pgm
open Go.Proofs.Ytjlmgoaglpkhoaa.nums (NAt)
set_option linter.unusedVariables false

theorem take_max {l : List Int} {j : Nat} (h : j < l.length) : (l.take (j + 1)).foldl max 0 = max ((l.take j).foldl max 0) (l.getD j 0) := by
  rw [List.take_add_one, List.getElem?_eq_getElem h, List.foldl_append, List.getD_eq_getElem?_getD, List.getElem?_eq_getElem h]
  rfl

set_option maxRecDepth 100000 in
set_option maxHeartbeats 2000000 in
theorem mostP_any (A : Option Addr) (l : List Int) (c : Nat) (w : World) (hA : NAt w A l) (hl : l.length ≤ 1000) : Calls Try.prog 9 #[.slice A l.length c] w fun e w' => e = .returned (.int .i64 (most l)) ∧ Below w.heap.size w w' := by
  have HA := Lib.hid hA
  unfold most
  clear hA
  go_enter Try.func9, Try.ntmps9
  go_wp2
  go_loopw [3, 8] (fun t i wr => ∃ j : Nat, j ≤ l.length ∧ i = .int .i64 (j : Int) ∧ t = .int .i64 ((l.take j).foldl max 0) ∧ Hid (wr = w)) (fun _ i _ => l.length - (intOf i).toNat)
  case atStart => exact ⟨0, Nat.zero_le _, rfl, rfl, Lib.hid rfl⟩
  case round =>
    obtain ⟨j, hj, rfl, rfl, HW⟩ := hrel
    obtain rfl := HW.out
    by_cases hlt : j < l.length
    · have q0 : decide ((j : Int) < (l.length : Int)) = true := decide_eq_true (by omega)
      obtain ⟨b, off, rfl, hb, n1⟩ := HA.out j hlt
      have HT := Lib.hid (take_max hlt)
      generalize (l.take j).foldl max 0 = s at *
      generalize l.getD j 0 = x at *
      have h0 : (0 : Int) ≤ (j : Int) := by omega
      have h1 : (j : Int) < (l.length : Int) := by omega
      have key : ∀ y : Int, y = max s x → (.int .i64 y : Value) = .int .i64 ((l.take (j + 1)).foldl max 0) := fun y hy => by rw [HT.out, hy]
      have HK := Lib.hid key
      clear key
      go_wp2_with fail
      all_goals go_roundw
      all_goals first
        | exact ⟨j + 1, by omega, by go_num, HK.out _ (by split <;> omega), Lib.hid trivial⟩
        | (simp [intOf]; omega)
    · obtain rfl : j = l.length := by omega
      have q0 : decide ((l.length : Int) < (l.length : Int)) = false := decide_eq_false (by omega)
      go_wp2
      go_ret
      exact ⟨rfl, Below.refl _ _⟩
/-- The program's two calls are as they are asked. -/
theorem keeps : Keeps := ⟨fun v p fn w h1 h2 h3 => of_any v p fn w h1 h2 h3, fun A l c w h1 h2 _ => mostP_any A l c w h1 h2⟩
end Go.Proofs.Ytjlmgoaglpkhoaa.pgm.dep

/-
  The last step of each statement: below the blocks that were there nothing has turned, so the arguments read as they did. No condition.
-/
namespace Go.Proofs.Ytjlmgoaglpkhoaa.shut
open Go.ChangeShapes Go.WideShapes Go.RowKit
set_option linter.unusedVariables false

theorem laidOut : laidOutB Try.prog = true := by kernel_rfl
theorem own : ownKnob Try.prog.godebug = none := by kernel_rfl

section
variable {H : Type} {enc : TypeId × Value → H} {P : Program}
/-- What 'post' asks, where of the call's world only this is known: below the old size no block has turned. -/
theorem post_below {f : Func} {s : ChangeSpec} {apart fresh handsOn again : Bool} {W W' : World} {args : Array Value} {v : Value} {ds gs : List (DataW H)} {before pa pv : List MemPlace}
    (hW : DataW.Whole enc P f.params.toList s.vars apart W args.toList ds gs before)
    (hres : ∀ (b : Nat) (sp : Nat → Bool) (hd : Bool), DataW.TrodAll enc P W' b sp hd f.resultTypes.toList (v.resultList f.resultTypes.size) (s.fn H (ds ++ gs)).results [])
    (hargs : ∀ sp : Nat → Bool, (∀ p ∈ before, sp p.block = true) → DataW.TrodAll enc P W' 0 sp true f.params.toList args.toList (s.fn H (ds ++ gs)).args pa)
    (hvars : ∀ sp : Nat → Bool, (∀ p ∈ before, sp p.block = true) → DataW.TrodVars enc P W' sp s.vars (s.fn H (ds ++ gs)).vars pv)
    (hps : before = pa ++ pv) (hb : Below W.heap.size W W')
    (hok : ∀ (j : Nat) (t : TypeId) (r : Value), f.resultTypes[j]? = some t → (v.resultList f.resultTypes.size)[j]? = some r → Value.okWide P W' .any 0 t r) :
    s.post enc P f apart fresh handsOn again W args v W' := by
  have hlt : ∀ p ∈ before, p.block < W.heap.size := fun p hp => hW.lt p hp
  have hold : ∀ p ∈ before, (fun b => decide (b < W.heap.size)) p.block = true := fun p hp => by simpa using hlt p hp
  refine ⟨ds, gs, before, [], pa, pv, hW, hres _ _ _, hargs _ hold, hvars _ hold, World.keptBut_mono (fun p hp => ⟨hp, ?_⟩) (hb.frame (· ∈ before)), fun _ => ?_⟩
  · rw [hps, List.mem_append] at hp
    exact Or.inr hp
  · obtain ⟨_, _, _, _, _, hz, hn⟩ := hW
    refine ⟨hok, _, _, ([] ++ pa) ++ pv, ⟨[] ++ pa, pv, trodAll_append (hargs _ (fun _ _ => rfl)) (hres _ _ _), hvars _ (fun _ _ => rfl), rfl, ?_, ?_⟩, ?_⟩
    · intro b off hp
      have hin : MemPlace.cell b off ∈ before := by rw [hps]; simpa using hp
      rw [hb.frozen (hlt _ hin)]
      exact hz b off hin
    · intro ha
      have := hn ha
      rw [hps] at this
      simpa using this
    · intro p hp _
      rw [hps]
      simpa using hp
end
/-- AN ARRAY OF TEXTS THAT READS AS A LIST HOLDS THESE TEXTS, CELL FOR CELL. -/
theorem cells_of_texts {H : Type} {enc : TypeId × Value → H} {P : Program} {w : World} {base : Nat} {sp : Nat → Bool} {held : Bool} {fuel : Nat} {t e : TypeId} {n : Nat} {cs : List Value} {zs : List ByteArray} {p : List MemPlace}
    (ht : P.underlying t = some (.array n e)) (he : P.underlying e = some .string) (hce : P.cellsOf e = 1) (hct : P.cellsOf t = n)
    (h : DataW.trod enc P w base sp held fuel t cs = some (.agg (zs.map fun z => .lit (.string z.data.toList)), p)) : cs = zs.map fun z => Value.string z := by
  cases fuel with
  | zero => simp [DataW.trod] at h
  | succ fuel =>
    simp only [DataW.trod, ht, hce, hct, Nat.mul_one] at h
    split at h
    · rename_i hl
      obtain ⟨xs, hm, hx⟩ := Option.map_eq_some_iff.1 h
      have hxs : xs.map (·.1) = zs.map fun z => (DataW.lit (.string z.data.toList) : DataW H) := by
        have := congrArg Prod.fst hx
        simpa using this
      have hxl : xs.length = n := by simpa using Lib.mapM_length hm
      have hzl : zs.length = n := by
        have := congrArg List.length hxs
        simp at this
        omega
      apply List.ext_getElem?
      intro i
      by_cases hi : i < n
      · obtain ⟨b, hb, hf⟩ := Lib.mapM_at hm i i (by simp [hi])
        obtain ⟨z, hc, rfl, _⟩ := DataW.trod_string he hf
        have h1 : cs[i]? = some (.string z) := by
          have := congrArg (·[0]?) hc
          simpa [List.getElem?_take, List.getElem?_drop] using this
        have h2 : (xs.map (·.1))[i]? = some (DataW.lit (.string z.data.toList) : DataW H) := by simp [hb]
        rw [hxs] at h2
        simp only [List.getElem?_map, Option.map_eq_some_iff, DataW.lit.injEq, Lit.string.injEq] at h2
        obtain ⟨z', hz', he'⟩ := h2
        rw [h1, List.getElem?_map, hz', Option.map_some, bytes_inj he']
      · rw [List.getElem?_eq_none (by omega), List.getElem?_eq_none (by simp; omega)]
    · cases h

end Go.Proofs.Ytjlmgoaglpkhoaa.shut
