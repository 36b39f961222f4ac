/-
  What a function reaches, and uses, is at least what each one does that it reaches: the walk over what is asked of the program's calls. No condition but that the program came in.
-/
import Derived.Test.YtbekfjjajggffaaDoorVall25
import Derived.Test.YtbekfjjajggffaaDoorVall33
import Derived.Test.YtbekfjjajggffaaDoorVall12
import Derived.Test.YtbekfjjajggffaaDoorVall34
import Derived.Deep.RegionHeld3
import Derived.Deep.LoopGhost
namespace Go.Proofs.YtbekfjjajggffaaDoor.pgm.ver
open Go.RowKit Go.ChangeShapes
open Go.Proofs.YtbekfjjajggffaaDoor.pgm
open Go.Proofs.YtbekfjjajggffaaDoor.objs (De zero DAt cells3)
open Go.Proofs.YtbekfjjajggffaaDoor.bits (Is64 els mem_els hasB ListAt ListAt.lt ListAt.kept ListAt.cell refHas_any refList_any and_u64)
set_option linter.unusedVariables false

/-- What lies there: the program in its box, and lists. -/
structure Mo (w : World) (a b c : Value) (p : Pg) (Ls : List (Nat × List Nat)) (W : World) : Prop where
  below : Below w.heap.size w W
  box : W.heap[w.heap.size]? = some (pgB a b c)
  pg : PG W (.agg #[a, b, c]) p
  lst : ∀ x ∈ Ls, ListAt W x.1 x.2
theorem Mo.next {w W W' : World} {a b c : Value} {p : Pg} {Ls : List (Nat × List Nat)} (h : Mo w a b c p Ls W) (hb : Below W.heap.size W W') : Mo w a b c p Ls W' :=
  ⟨h.below.trans (hb.mono h.below.size), (hb.block _ (lt_of_block h.box)).trans h.box, h.pg.next hb, fun x hx => (h.lst x hx).kept (hb.block _ (h.lst x hx).lt)⟩
theorem Mo.drew {w W : World} {a b c : Value} {p : Pg} {Ls : List (Nat × List Nat)} (h : Mo w a b c p Ls W) : Mo w a b c p Ls W.drew := h.next (Below.refl _ _).drew
theorem Mo.cells {w W : World} {a b c : Value} {p : Pg} {Ls : List (Nat × List Nat)} (h : Mo w a b c p Ls W) : W.cell? ⟨w.heap.size, 0, none⟩ = some a ∧ W.cell? ⟨w.heap.size, 1, none⟩ = some b ∧ W.cell? ⟨w.heap.size, 2, none⟩ = some c := by
  obtain ⟨h0, h1, h2, -, -, -⟩ := cells3 h.box
  exact ⟨h0, h1, h2⟩
/-- Of two sets, one of which is in the other. -/
theorem and_in {s t : Nat} (hs : Is64 s) (ht : Is64 t) (h : ∀ o, s.testBit o = true → t.testBit o = true) : bits .and .u64 (s : Int) (t : Int) = (s : Int) := by
  rw [and_u64 hs ht]
  congr 1
  apply Nat.eq_of_testBit_eq
  intro i
  rw [Nat.testBit_and]
  cases hb : s.testBit i with
  | false => rfl
  | true => rw [h i hb]; rfl

set_option maxRecDepth 100000 in
set_option maxHeartbeats 16000000 in
theorem more_walk {Ok : World → Prop} (K : Keeps Ok) (v : Value) (p : Pg) (fn : Int) (w : World) (hw : Ok w) (hv : PG w v p) (hfn : I64 fn) :
    Calls Tryd.prog 3 #[v, .int .i64 fn] w fun e w' => e = .returned (.bool true) ∧ Below w.heap.size w w' := by
  have HRc := fun v W h => Lib.hid (refCheck10_any v p W h)
  unfold NumPost at HRc
  have HL := fun W h => Lib.hid (lives_any K W h)
  have HMo := Lib.hid K.mono
  have HK := Lib.hid hw
  obtain ⟨A, B, C, na, nb, nc, ca, cb, cc, hve, -⟩ := id hv
  subst hve
  have hb0 : Below w.heap.size w (w.alloc (pgB (.slice A na ca) (.slice B nb cb) (.slice C nc cc))) := (Below.refl _ _).alloc (Nat.le_refl _) _
  have hx0 := heap_alloc_new w (pgB (.slice A na ca) (.slice B nb cb) (.slice C nc cc))
  have HM0 : Hid (Mo w (.slice A na ca) (.slice B nb cb) (.slice C nc cc) p [] (w.alloc (pgB (.slice A na ca) (.slice B nb cb) (.slice C nc cc)))) := Lib.hid ⟨hb0, hx0, hv.next hb0, fun x hx => by cases hx⟩
  unfold pgB at HM0
  by_cases hz : chkP p = 0
  · have hv2 := hv.whole hz
    obtain ⟨A', B', C', ca', cb', cc', hve, -⟩ := id hv2
    simp only [Value.agg.injEq, Array.mk.injEq, List.cons.injEq, Value.slice.injEq, and_true] at hve
    obtain ⟨-, -, -, rfl, -⟩ := hve
    rw [hz] at HRc
    have HOw : ∀ (Ls : List (Nat × List Nat)) (W : World), Mo w (.slice A na ca) (.slice B nb cb) (.slice C p.fs.length cc) p Ls W → Calls Tryd.prog 8 #[.agg #[.slice A na ca, .slice B nb cb, .slice C p.fs.length cc]] W fun e w' =>
        ∃ v2, e = .returned v2 ∧ w'.cell? ⟨w.heap.size, 0, none⟩ = some (.slice A na ca) ∧ w'.cell? ⟨w.heap.size, 1, none⟩ = some (.slice B nb cb) ∧ w'.cell? ⟨w.heap.size, 2, none⟩ = some (.slice C p.fs.length cc) ∧ Hid (Mo w (.slice A na ca) (.slice B nb cb) (.slice C p.fs.length cc) p Ls w') ∧ Hid (PAt w' v2 p) := fun Ls W h => by
      refine (own10_any _ p W h.pg).mono ?_
      rintro e w' ⟨v2, rfl, hS, hb⟩
      obtain ⟨c0, c1, c2⟩ := (h.next hb).cells
      exact ⟨v2, rfl, c0, c1, c2, Lib.hid (h.next hb), Lib.hid hS.now.1⟩
    have HCa : ∀ (Ls : List (Nat × List Nat)) (n : Int) (v2 : Value) (W : World), I64 n → Mo w (.slice A na ca) (.slice B nb cb) (.slice C p.fs.length cc) p Ls W → PAt W v2 p → Calls Tryd.prog 7 #[v2, .int .i64 n] W fun e w' =>
        ∃ s : Nat, e = .returned (.int .u64 (s : Int)) ∧ w'.cell? ⟨w.heap.size, 0, none⟩ = some (.slice A na ca) ∧ w'.cell? ⟨w.heap.size, 1, none⟩ = some (.slice B nb cb) ∧ w'.cell? ⟨w.heap.size, 2, none⟩ = some (.slice C p.fs.length cc) ∧ Hid (Mo w (.slice A na ca) (.slice B nb cb) (.slice C p.fs.length cc) p Ls w') ∧ Hid (Is64 s ∧ ∀ o, s.testBit o = true ↔ Rcd p.fs n o) := fun Ls n v2 W hn h hp => by
      refine (K.calls v2 p n W (K.mono _ _ hw h.below) hp hz hn).mono ?_
      rintro e w' ⟨s, rfl, h6, hs, hb⟩
      obtain ⟨c0, c1, c2⟩ := (h.next hb).cells
      exact ⟨s, rfl, c0, c1, c2, Lib.hid (h.next hb), Lib.hid ⟨h6, hs⟩⟩
    have HUs : ∀ (Ls : List (Nat × List Nat)) (n : Int) (v2 : Value) (W : World), I64 n → Mo w (.slice A na ca) (.slice B nb cb) (.slice C p.fs.length cc) p Ls W → PAt W v2 p → Calls Tryd.prog 9 #[v2, .int .i64 n] W fun e w' =>
        ∃ s : Nat, e = .returned (.int .u64 (s : Int)) ∧ w'.cell? ⟨w.heap.size, 0, none⟩ = some (.slice A na ca) ∧ w'.cell? ⟨w.heap.size, 1, none⟩ = some (.slice B nb cb) ∧ w'.cell? ⟨w.heap.size, 2, none⟩ = some (.slice C p.fs.length cc) ∧ Hid (Mo w (.slice A na ca) (.slice B nb cb) (.slice C p.fs.length cc) p Ls w') ∧ Hid (Is64 s ∧ ∀ o, s.testBit o = true ↔ Usd p n o) := fun Ls n v2 W hn h hp => by
      refine (K.uses v2 p n W (K.mono _ _ hw h.below) hp hz hn).mono ?_
      rintro e w' ⟨s, rfl, h6, hs, hb⟩
      obtain ⟨c0, c1, c2⟩ := (h.next hb).cells
      exact ⟨s, rfl, c0, c1, c2, Lib.hid (h.next hb), Lib.hid ⟨h6, hs⟩⟩
    have HI := Lib.hid hfn
    clear hw hv hv2 hb0 hx0 K hfn
    go_enter Tryd.func3, Tryd.ntmps3
    go_upto_region 1 with fail
    generalize w.alloc (.cells #[.slice A na ca, .slice B nb cb, .slice C p.fs.length cc] 26) = W0 at *
    obtain ⟨x0, x1, x2⟩ := HM0.out.cells
    go_wp2_with fail
    refine (HRc _ _ HM0.out.pg.head).out.mono ?_
    rintro _ w1 ⟨rfl, hb1⟩
    have HM1 := Lib.hid (HM0.out.next hb1)
    clear hb1 HM0 x0 x1 x2 HRc
    obtain ⟨x0, x1, x2⟩ := HM1.out.cells
    go_upto_region 3 with fail
    have HM := Lib.hid HM1.out.drew
    go_region_held3 (fun w' => w'.cell? ⟨w.heap.size, 0, none⟩ = some (.slice A na ca) ∧ w'.cell? ⟨w.heap.size, 1, none⟩ = some (.slice B nb cb) ∧ w'.cell? ⟨w.heap.size, 2, none⟩ = some (.slice C p.fs.length cc)) (go_keep)
      (first
        | (go_at_call 8; refine (HOw [] _ ?_).mono ?_; (exact HM.out); rintro e w' ⟨v2, rfl, d0, d1, d2, HM, HP⟩)
        | (go_at_call 7; refine (HCa [] fn _ _ HI.out ?_ ?_).mono ?_; (exact HM.out); (exact HP.out); rintro e w' ⟨s, rfl, d0, d1, d2, HM, HSc⟩)
        | (go_at_call 9; refine (HUs [] fn _ _ HI.out ?_ ?_).mono ?_; (exact HM.out); (exact HP.out); rintro e w' ⟨u, rfl, d0, d1, d2, HM, HSu⟩))
    have HM5 := HM
    have hs6 := HSc.out.1
    have HLi := fun W => Lib.hid (refList_any s hs6 W)
    clear HM1
    go_wp2_with fail
    refine (HLi _).out.mono ?_
    rintro _ w4 ⟨g, cap, rfl, hl4, hb4, -⟩
    have HM6 : Hid (Mo w (.slice A na ca) (.slice B nb cb) (.slice C p.fs.length cc) p [(g, els s)] w4) := Lib.hid (by
      have h := HM5.out.next hb4
      exact ⟨h.below, h.box, h.pg, fun x hx => by
        obtain rfl : x = (g, els s) := by simpa using hx
        exact hl4⟩)
    clear hl4 hb4 HLi HM5 HM HP d0 d1 d2 x0 x1 x2
    have hlen : (els s).length ≤ 64 := by
      unfold els
      have := List.length_filter_le (fun n => s.testBit n) (List.range 64)
      simpa using this
    go_wp2_with fail
    go_loopg [8] ((els s).length) (fun gg i wr => ∃ j : Nat, gg = (els s).length - j ∧ i = .int .i64 (j : Int) ∧ j ≤ (els s).length ∧ Hid (Mo w (.slice A na ca) (.slice B nb cb) (.slice C p.fs.length cc) p [(g, els s)] wr))
    case atStart => exact ⟨0, rfl, rfl, Nat.zero_le _, HM6⟩
    case round =>
      clear HM6
      obtain ⟨j, hgg, rfl, hj, HM7⟩ := hrel
      by_cases hlt : j < (els s).length
      · have t0 : decide ((j : Int) < ((els s).length : Int)) = true := decide_eq_true (by omega)
        obtain ⟨x, hx⟩ : ∃ x, (els s)[j]? = some x := ⟨_, List.getElem?_eq_getElem hlt⟩
        have hxm : x < 64 ∧ s.testBit x = true := mem_els.1 (List.mem_of_getElem? hx)
        have HRx := Lib.hid ((HSc.out.2 x).1 hxm.2)
        have hx64 : I64 (x : Int) := ⟨by omega, by omega⟩
        have HO2 : ∀ (W : World), Mo w (.slice A na ca) (.slice B nb cb) (.slice C p.fs.length cc) p [(g, els s)] W → Calls Tryd.prog 8 #[.agg #[.slice A na ca, .slice B nb cb, .slice C p.fs.length cc]] W fun e w' =>
            ∃ v2, e = .returned v2 ∧ w'.cell? ⟨w.heap.size, 0, none⟩ = some (.slice A na ca) ∧ w'.cell? ⟨w.heap.size, 1, none⟩ = some (.slice B nb cb) ∧ w'.cell? ⟨w.heap.size, 2, none⟩ = some (.slice C p.fs.length cc) ∧ w'.cell? ⟨g, j, none⟩ = some (.int .i64 (x : Int)) ∧ Hid (Mo w (.slice A na ca) (.slice B nb cb) (.slice C p.fs.length cc) p [(g, els s)] w') ∧ Hid (PAt w' v2 p) := fun W h => by
          refine (HOw _ W h).mono ?_
          rintro e w' ⟨v2, rfl, d0, d1, d2, h1, h2⟩
          exact ⟨v2, rfl, d0, d1, d2, (h1.out.lst _ (List.mem_cons_self ..)).cell hx, h1, h2⟩
        have HC2 : ∀ (v2 : Value) (W : World), Mo w (.slice A na ca) (.slice B nb cb) (.slice C p.fs.length cc) p [(g, els s)] W → PAt W v2 p → Calls Tryd.prog 7 #[v2, .int .i64 (x : Int)] W fun e w' =>
            ∃ y : Nat, e = .returned (.int .u64 (y : Int)) ∧ w'.cell? ⟨w.heap.size, 0, none⟩ = some (.slice A na ca) ∧ w'.cell? ⟨w.heap.size, 1, none⟩ = some (.slice B nb cb) ∧ w'.cell? ⟨w.heap.size, 2, none⟩ = some (.slice C p.fs.length cc) ∧ w'.cell? ⟨g, j, none⟩ = some (.int .i64 (x : Int)) ∧ Hid (Mo w (.slice A na ca) (.slice B nb cb) (.slice C p.fs.length cc) p [(g, els s)] w') ∧ Hid (Is64 y ∧ ∀ o, y.testBit o = true ↔ Rcd p.fs (x : Int) o) := fun v2 W h hp => by
          refine (HCa _ _ v2 W hx64 h hp).mono ?_
          rintro e w' ⟨y, rfl, d0, d1, d2, h1, h2⟩
          exact ⟨y, rfl, d0, d1, d2, (h1.out.lst _ (List.mem_cons_self ..)).cell hx, h1, h2⟩
        have HU2 : ∀ (v2 : Value) (W : World), Mo w (.slice A na ca) (.slice B nb cb) (.slice C p.fs.length cc) p [(g, els s)] W → PAt W v2 p → Calls Tryd.prog 9 #[v2, .int .i64 (x : Int)] W fun e w' =>
            ∃ y : Nat, e = .returned (.int .u64 (y : Int)) ∧ w'.cell? ⟨w.heap.size, 0, none⟩ = some (.slice A na ca) ∧ w'.cell? ⟨w.heap.size, 1, none⟩ = some (.slice B nb cb) ∧ w'.cell? ⟨w.heap.size, 2, none⟩ = some (.slice C p.fs.length cc) ∧ w'.cell? ⟨g, j, none⟩ = some (.int .i64 (x : Int)) ∧ Hid (Mo w (.slice A na ca) (.slice B nb cb) (.slice C p.fs.length cc) p [(g, els s)] w') ∧ Hid (Is64 y ∧ ∀ o, y.testBit o = true ↔ Usd p (x : Int) o) := fun v2 W h hp => by
          refine (HUs _ _ v2 W hx64 h hp).mono ?_
          rintro e w' ⟨y, rfl, d0, d1, d2, h1, h2⟩
          exact ⟨y, rfl, d0, d1, d2, (h1.out.lst _ (List.mem_cons_self ..)).cell hx, h1, h2⟩
        obtain ⟨x0, x1, x2⟩ := HM7.out.cells
        have xl := (HM7.out.lst _ (List.mem_cons_self ..)).cell hx
        have k0 : (0 : Int) ≤ (j : Int) := by omega
        have k1 : (j : Int) < ((els s).length : Int) := by omega
        clear hx hxm hx64
        go_upto_region 8 with fail
        have HM := Lib.hid HM7.out.drew
        go_region_held3 (fun w' => w'.cell? ⟨w.heap.size, 0, none⟩ = some (.slice A na ca) ∧ w'.cell? ⟨w.heap.size, 1, none⟩ = some (.slice B nb cb) ∧ w'.cell? ⟨w.heap.size, 2, none⟩ = some (.slice C p.fs.length cc) ∧ w'.cell? ⟨g, j, none⟩ = some (.int .i64 (x : Int))) (go_keep)
          (first
            | (go_at_call 8; refine (HO2 _ ?_).mono ?_; (exact HM.out); rintro e w' ⟨v2, rfl, d0, d1, d2, d3, HM, HP⟩)
            | (go_at_call 7; refine (HC2 _ _ ?_ ?_).mono ?_; (exact HM.out); (exact HP.out); rintro e w' ⟨y1, rfl, d0, d1, d2, d3, HM, HSy⟩)
            | (go_at_call 9; refine (HU2 _ _ ?_ ?_).mono ?_; (exact HM.out); (exact HP.out); rintro e w' ⟨y2, rfl, d0, d1, d2, d3, HM, HSz⟩))
        have HM8 := HM
        have ha1 : bits .and .u64 (y1 : Int) (s : Int) = (y1 : Int) := and_in HSy.out.1 HSc.out.1 fun o ho => (HSc.out.2 o).2 (HRx.out.more ((HSy.out.2 o).1 ho))
        have ha2 : bits .and .u64 (y2 : Int) (u : Int) = (y2 : Int) := and_in HSz.out.1 HSu.out.1 fun o ho => (HSu.out.2 o).2 (Usd.more HRx.out ((HSz.out.2 o).1 ho))
        have hn1 : ((y1 : Int) != (y1 : Int)) = false := by simp
        have hn2 : ((y2 : Int) != (y2 : Int)) = false := by simp
        clear HM HP d0 d1 d2 d3 x0 x1 x2 xl HO2 HC2 HU2 HSy HSz HRx HM7
        go_wp2_with fail
        go_roundg ((els s).length - (j + 1))
        case measure => omega
        case rel => exact ⟨j + 1, rfl, by go_num, by omega, HM8⟩
      · have t0 : decide ((j : Int) < ((els s).length : Int)) = false := decide_eq_false (by omega)
        obtain ⟨x0, x1, x2⟩ := HM7.out.cells
        have HHa := fun W => Lib.hid (refHas_any s hs6 fn W)
        have hhas : hasB s fn = decide (0 ≤ fn ∧ fn < (p.fs.length : Int)) := by
          unfold hasB
          have h1 := HSc.out.2 fn.toNat
          by_cases h : 0 ≤ fn ∧ fn < (p.fs.length : Int)
          · have hfl := (chkP_zero hz).2.2.2.2.1
            rw [decide_eq_true h, decide_eq_true (show Go.Proofs.YtbekfjjajggffaaDoor.bits.may fn from ⟨h.1, by omega⟩), h1.2 (Rcd.self h.1 h.2)]
            rfl
          · rw [decide_eq_false h]
            cases hb : s.testBit fn.toNat with
            | false => rw [Bool.and_false]
            | true => exact absurd ⟨(h1.1 hb).1, (h1.1 hb).2.1⟩ h
        rw [hhas] at HHa
        clear hhas
        by_cases h0 : 0 ≤ fn
        · have e0 : decide (fn ≥ 0) = true := decide_eq_true h0
          by_cases h1 : fn < (p.fs.length : Int)
          · have e1 : decide (fn < (p.fs.length : Int)) = true := decide_eq_true h1
            rw [decide_eq_true ⟨h0, h1⟩] at HHa
            clear h0 h1
            go_wp2_with fail
            refine (HHa _).out.mono ?_
            rintro _ _ ⟨rfl, rfl⟩
            go_wp2_with fail
            refine (HL _ (HMo.out _ _ HK.out HM7.out.below)).out.mono ?_
            rintro _ w9 ⟨rfl, hb9⟩
            have HB9 := Lib.hid (HM7.out.below.trans (hb9.mono HM7.out.below.size))
            clear hb9
            go_wp2
            go_ret
            exact ⟨rfl, HB9.out⟩
          · have e1 : decide (fn < (p.fs.length : Int)) = false := decide_eq_false h1
            rw [decide_eq_false (fun h => h1 h.2)] at HHa
            clear h0 h1
            go_wp2_with fail
            refine (HHa _).out.mono ?_
            rintro _ _ ⟨rfl, rfl⟩
            go_wp2_with fail
            refine (HL _ (HMo.out _ _ HK.out HM7.out.below)).out.mono ?_
            rintro _ w9 ⟨rfl, hb9⟩
            have HB9 := Lib.hid (HM7.out.below.trans (hb9.mono HM7.out.below.size))
            clear hb9
            go_wp2
            go_ret
            exact ⟨rfl, HB9.out⟩
        · have e0 : decide (fn ≥ 0) = false := decide_eq_false h0
          rw [decide_eq_false (fun h => h0 h.1)] at HHa
          clear h0
          go_wp2_with fail
          refine (HHa _).out.mono ?_
          rintro _ _ ⟨rfl, rfl⟩
          go_wp2_with fail
          refine (HL _ (HMo.out _ _ HK.out HM7.out.below)).out.mono ?_
          rintro _ w9 ⟨rfl, hb9⟩
          have HB9 := Lib.hid (HM7.out.below.trans (hb9.mono HM7.out.below.size))
          clear hb9
          go_wp2
          go_ret
          exact ⟨rfl, HB9.out⟩
  · have q0 : ((chkP p : Int) != 0) = true := by simpa using hz
    generalize chkP p = cp at *
    clear hv hw hb0 hx0 K hfn hz
    go_enter Tryd.func3, Tryd.ntmps3
    go_upto_region 1 with fail
    generalize w.alloc (.cells #[.slice A na ca, .slice B nb cb, .slice C nc cc] 26) = W0 at *
    obtain ⟨x0, x1, x2⟩ := HM0.out.cells
    go_wp2_with fail
    refine (HRc _ _ HM0.out.pg.head).out.mono ?_
    rintro _ w1 ⟨rfl, hb1⟩
    have HM1 := Lib.hid (HM0.out.next hb1)
    clear hb1 HM0 x0 x1 x2
    go_wp2_with fail
    refine (HL _ (HMo.out _ _ HK.out HM1.out.below)).out.mono ?_
    rintro _ w2 ⟨rfl, hb2⟩
    have HB2 := Lib.hid (HM1.out.below.trans (hb2.mono HM1.out.below.size))
    clear hb2
    go_wp2
    go_ret
    exact ⟨rfl, HB2.out⟩
end Go.Proofs.YtbekfjjajggffaaDoor.pgm.ver
