/-
  Texts of one claim in one file: YTexts. Each has its own sentence, with its conditions.
-/
import Derived.Test.YtnhoeboighndlaaGreatDoorYall26
import Derived.Test.YtnhoeboighndlaaGreatDoorYall21
import Derived.Test.YtnhoeboighndlaaGreatDoorYall37
import Derived.Test.YtnhoeboighndlaaGreatDoorYall40
import Derived.Deep.RegionHeld3
/-
  The text of any program, or what is wrong with it, and the line of any instruction: the walk over what is asked of the program's calls. Conditions: a world that the calls take, and a program that lies there.
-/
namespace Go.Proofs.YtnhoeboighndlaaGreatDoor.pgm.asm
open Go.RowKit Go.ChangeShapes
open Go.Proofs.YtnhoeboighndlaaGreatDoor.pgm
open Go.Proofs.YtnhoeboighndlaaGreatDoor.octet (size_mk)
open Go.Proofs.YtnhoeboighndlaaGreatDoor.objs (De zero DAt cells3 put3 put3_same put3_far put3_below)
set_option linter.unusedVariables false

/-- The copy that stands in the argument's box, and the instruction's box behind it. -/
structure Ct (w : World) (a b c : Value) (o x y : Int) (p : Pg) (hi : Nat) (W : World) : Prop where
  below : Below w.heap.size w W
  box : W.heap[w.heap.size]? = some (Go.Proofs.YtnhoeboighndlaaGreatDoor.pgm.pgB a b c)
  ins : W.heap[w.heap.size + 1]? = some (iBox o x y)
  st : Stays W (w.heap.size + 1 + 1) hi (fun W' => PAt W' (.agg #[a, b, c]) p ∧ PG W' (.agg #[a, b, c]) p)
theorem Ct.next {w W W' : World} {a b c : Value} {o x y : Int} {p : Pg} {hi : Nat} (h : Ct w a b c o x y p hi W) (hb : Below W.heap.size W W') : Ct w a b c o x y p hi W' :=
  ⟨h.below.trans (hb.mono h.below.size), (hb.block _ (lt_of_block h.box)).trans h.box, (hb.block _ (lt_of_block h.ins)).trans h.ins, h.st.next hb⟩
theorem small_pg {w : World} {v : Value} {p : Pg} (h : PG w v p) : SmallP p := by
  obtain ⟨A, B, C, na, nb, nc, ca, cb, cc, _, h0, _, h3, h4, _⟩ := h
  refine ⟨by omega, by have := h3.1; omega, by have := h4.1; omega, fun f hf => ?_⟩
  obtain ⟨j, hj, rfl⟩ := List.getElem_of_mem hf
  obtain ⟨_, _, _, _, _, _, _, _, _, h5, _⟩ := h4.2 j hj
  have e : p.fs.getD j Fn.zero = p.fs[j] := by rw [List.getD_eq_getElem?_getD, List.getElem?_eq_getElem hj]; rfl
  rw [e] at h5
  omega
theorem Ct.drew {w W : World} {a b c : Value} {o x y : Int} {p : Pg} {hi : Nat} (h : Ct w a b c o x y p hi W) : Ct w a b c o x y p hi W.drew := h.next (Below.refl _ _).drew
theorem Ct.inss {w W : World} {a b c : Value} {o x y : Int} {p : Pg} {hi : Nat} (h : Ct w a b c o x y p hi W) : W.cell? ⟨w.heap.size + 1, 0, none⟩ = some (.int .i64 o) ∧ W.cell? ⟨w.heap.size + 1, 1, none⟩ = some (.int .i64 x) ∧ W.cell? ⟨w.heap.size + 1, 2, none⟩ = some (.int .i64 y) := by
  have h1 := h.ins
  unfold iBox at h1
  obtain ⟨x0, x1, x2, -, -, -⟩ := cells3 h1
  exact ⟨x0, x1, x2⟩

set_option maxRecDepth 100000 in
set_option maxHeartbeats 8000000 in
theorem texts_walk {Ok : World → Prop} (K : Keeps Ok) (v : Value) (p : Pg) (o a b : Int) (w : World) (hv : PG w v p) (hw : Ok w) (ho : I64 o) (ha : I64 a) (hb : I64 b) :
    Calls Tryz.prog 3 #[v, .agg #[.int .i64 o, .int .i64 a, .int .i64 b]] w fun e w' => e = .returned (.bool true) ∧ Below w.heap.size w w' := by
  have HSm := Lib.hid (small_pg hv)
  have HOw := fun v W h => Lib.hid (own10_any v p W h)
  unfold OwnPost10 at HOw
  have HRc := fun v W h => Lib.hid (refCheck10_any v p W h)
  unfold NumPost at HRc
  have HTx := fun v W h1 h2 => Lib.hid (K.text v p W h1 h2 HSm.out)
  unfold TextPost at HTx
  have HRt := fun v hz W h => Lib.hid (refText13_any v p hz W h)
  have HS1 : Hid (chkP p = 0 → textA p = textP p) := Lib.hid (fun h => by unfold textA; rw [if_pos h])
  have HS2 : Hid (chkP p ≠ 0 → textA p = []) := Lib.hid (fun h => by unfold textA; rw [if_neg h])
  have HLn := fun W h => Lib.hid (K.line o a b W h ho ha hb)
  unfold LinePost at HLn
  have HRl := fun W => Lib.hid (refLine_any o a b W)
  generalize lineA o a b = ln at *
  generalize textA p = sb at *
  generalize chkP p = cp at *
  generalize textP p = eb at *
  have HL := fun W h => Lib.hid (lives_any K W h)
  have HK := Lib.hid hw
  have HMo := Lib.hid K.mono
  obtain ⟨A, B, C, na, nb, nc, ca, cb, cc, hve, -⟩ := id hv
  subst hve
  have z1 : (w.alloc (Go.Proofs.YtnhoeboighndlaaGreatDoor.pgm.pgB (.slice A na ca) (.slice B nb cb) (.slice C nc cc))).heap.size = w.heap.size + 1 := World.size_alloc _ _
  have hb0 : Below w.heap.size w ((w.alloc (Go.Proofs.YtnhoeboighndlaaGreatDoor.pgm.pgB (.slice A na ca) (.slice B nb cb) (.slice C nc cc))).alloc (iBox o a b)) := ((Below.refl _ _).alloc (Nat.le_refl _) _).alloc (by omega) _
  have hz0 : ((w.alloc (Go.Proofs.YtnhoeboighndlaaGreatDoor.pgm.pgB (.slice A na ca) (.slice B nb cb) (.slice C nc cc))).alloc (iBox o a b)).heap.size = w.heap.size + 1 + 1 := by rw [World.size_alloc, z1]
  have hx0 : ((w.alloc (Go.Proofs.YtnhoeboighndlaaGreatDoor.pgm.pgB (.slice A na ca) (.slice B nb cb) (.slice C nc cc))).alloc (iBox o a b)).heap[w.heap.size]? = some (Go.Proofs.YtnhoeboighndlaaGreatDoor.pgm.pgB (.slice A na ca) (.slice B nb cb) (.slice C nc cc)) := (Below.heap_alloc _ _ _ (by omega)).trans (heap_alloc_new _ _)
  have hy0 : ((w.alloc (Go.Proofs.YtnhoeboighndlaaGreatDoor.pgm.pgB (.slice A na ca) (.slice B nb cb) (.slice C nc cc))).alloc (iBox o a b)).heap[w.heap.size + 1]? = some (iBox o a b) := by rw [← z1]; exact heap_alloc_new _ _
  have HO0 := HOw _ _ (hv.next hb0)
  have HB0 := Lib.hid hb0
  have HX0 := Lib.hid hx0
  have HY0 := Lib.hid hy0
  have HZ0 := Lib.hid hz0
  unfold Go.Proofs.YtnhoeboighndlaaGreatDoor.pgm.pgB iBox at HO0 HB0 HX0 HZ0 HY0
  clear hv hw hb0 hx0 hy0 hz0 z1 K
  go_enter Tryz.func3, Tryz.ntmps3
  go_upto_region 1 with fail
  generalize (w.alloc (.cells #[.slice A na ca, .slice B nb cb, .slice C nc cc] 26)).alloc (.cells #[.int .i64 o, .int .i64 a, .int .i64 b] 28) = W0 at *
  obtain ⟨x0, x1, x2, -, -, -⟩ := cells3 HX0.out
  go_wp2_with fail
  refine HO0.out.mono ?_
  rintro _ w1 ⟨v1, rfl, hS1, hb1⟩
  obtain ⟨D, E, F, cd, ce, cf, hve, -⟩ := hS1.now.1
  subst hve
  have hx1 := (hb1.block _ (lt_of_block HX0.out)).trans HX0.out
  have hy1 := (hb1.block _ (lt_of_block HY0.out)).trans HY0.out
  have hbw := HB0.out.trans (hb1.mono HB0.out.size)
  have HC1 := Lib.hid ((⟨put3_below hbw (Nat.le_refl _) _ _ _, put3_same hx1 _ _ _, (put3_far (by omega) _ _ _).trans hy1, by
    rw [← HZ0.out]
    exact hS1.keep (by simp [put3, World.setCell]) fun g hl _ => put3_far (by have := HZ0.out; omega) _ _ _⟩ : Ct w (.slice D p.ds.length cd) (.slice E p.ws.length ce) (.slice F p.fs.length cf) o a b p w1.heap.size (put3 w1 w.heap.size (.slice D p.ds.length cd) (.slice E p.ws.length ce) (.slice F p.fs.length cf))))
  clear x0 x1 x2
  obtain ⟨x0, x1, x2, xf0, xf1, xf2⟩ := cells3 hx1
  generalize w1.heap.size = hi at HC1
  unfold put3 at HC1
  clear HO0 HB0 HX0 HZ0 HY0 hS1 hb1 hbw hx1 hy1
  go_upto_region 2 with fail
  generalize ((w1.setCell ⟨w.heap.size, 0, none⟩ (.slice D p.ds.length cd)).setCell ⟨w.heap.size, 1, none⟩ (.slice E p.ws.length ce)).setCell ⟨w.heap.size, 2, none⟩ (.slice F p.fs.length cf) = W1 at *
  clear x0 x1 x2 xf0 xf1 xf2
  obtain ⟨x0, x1, x2, -, -, -⟩ := cells3 HC1.out.box
  have H2 := HRc _ _ HC1.out.st.now.2.head
  go_wp2_with fail
  refine H2.out.mono ?_
  rintro _ w2 ⟨rfl, hb2⟩
  have HC2 := Lib.hid (HC1.out.next hb2)
  clear HC1 hb2 H2 x0 x1 x2 HRc
  obtain ⟨x0, x1, x2, -, -, -⟩ := cells3 HC2.out.box
  have H3 := HOw _ _ HC2.out.st.now.2
  go_wp2_with fail
  refine H3.out.mono ?_
  rintro _ w3 ⟨v3, rfl, hS3, hb3⟩
  have HC3 := Lib.hid (HC2.out.next hb3)
  have H4 := HTx _ _ (HMo.out _ _ HK.out HC3.out.below) hS3.now.1
  clear HC2 hb3 H3 x0 x1 x2 hS3 HTx HOw
  go_wp2_with fail
  refine H4.out.mono ?_
  rintro _ w4 ⟨rfl, hb4⟩
  have HC4 := Lib.hid (HC3.out.next hb4)
  clear HC3 hb4 H4
  go_upto_region 4 with fail
  have hgd : ((cp : Int) != (cp : Int)) = false := by simp
  have HL2 : ∀ W, Ct w (.slice D p.ds.length cd) (.slice E p.ws.length ce) (.slice F p.fs.length cf) o a b p hi W → Calls Tryz.prog 9 #[.agg #[.int .i64 o, .int .i64 a, .int .i64 b]] W fun e w' => e = .returned (.string ⟨ln.toArray⟩) ∧ w'.cell? ⟨w.heap.size + 1, 0, none⟩ = some (.int .i64 o) ∧ w'.cell? ⟨w.heap.size + 1, 1, none⟩ = some (.int .i64 a) ∧ w'.cell? ⟨w.heap.size + 1, 2, none⟩ = some (.int .i64 b) ∧ Hid (Ct w (.slice D p.ds.length cd) (.slice E p.ws.length ce) (.slice F p.fs.length cf) o a b p hi w') := fun W h => by
    refine ((HLn W (HMo.out _ _ HK.out h.below)).out).mono ?_
    rintro _ w' ⟨rfl, hb⟩
    obtain ⟨d0, d1, d2⟩ := (h.next hb).inss
    exact ⟨rfl, d0, d1, d2, Lib.hid (h.next hb)⟩
  have HR2 : ∀ W, Ct w (.slice D p.ds.length cd) (.slice E p.ws.length ce) (.slice F p.fs.length cf) o a b p hi W → Calls Tryz.prog 10 #[.agg #[.int .i64 o, .int .i64 a, .int .i64 b]] W fun e w' => e = .returned (.string ⟨ln.toArray⟩) ∧ w'.cell? ⟨w.heap.size + 1, 0, none⟩ = some (.int .i64 o) ∧ w'.cell? ⟨w.heap.size + 1, 1, none⟩ = some (.int .i64 a) ∧ w'.cell? ⟨w.heap.size + 1, 2, none⟩ = some (.int .i64 b) ∧ Hid (Ct w (.slice D p.ds.length cd) (.slice E p.ws.length ce) (.slice F p.fs.length cf) o a b p hi w') := fun W h => by
    refine ((HRl W).out).mono ?_
    rintro _ w' ⟨rfl, hb⟩
    obtain ⟨d0, d1, d2⟩ := (h.next hb).inss
    exact ⟨rfl, d0, d1, d2, Lib.hid (h.next hb)⟩
  have HM := Lib.hid HC4.out.drew
  obtain ⟨y0, y1, y2⟩ := HC4.out.inss
  clear HLn HRl
  go_region_held3 (fun w' => w'.cell? ⟨w.heap.size + 1, 0, none⟩ = some (.int .i64 o) ∧ w'.cell? ⟨w.heap.size + 1, 1, none⟩ = some (.int .i64 a) ∧ w'.cell? ⟨w.heap.size + 1, 2, none⟩ = some (.int .i64 b)) (go_keep)
    (first
      | (go_at_call 9; refine (HL2 _ ?_).mono ?_; (exact HM.out); rintro e w' ⟨rfl, d0, d1, d2, HM⟩)
      | (go_at_call 10; refine (HR2 _ ?_).mono ?_; (exact HM.out); rintro e w' ⟨rfl, d0, d1, d2, HM⟩))
  all_goals
    have HC6 := HM
    clear HM HL2 HR2 y0 y1 y2 hgd HC4
    obtain ⟨x0, x1, x2, -, -, -⟩ := cells3 HC6.out.box
    by_cases hz : cp = 0
    · have H7 := HRt (.agg #[.slice D p.ds.length cd, .slice E p.ws.length ce, .slice F p.fs.length cf]) hz _ HC6.out.st.now.1
      have hsb := HS1.out hz
      subst hz hsb
      clear HRt HS1 HS2
      go_wp2_with fail
      refine H7.out.mono ?_
      rintro _ w7 ⟨rfl, hb7⟩
      have HC7 := Lib.hid (HC6.out.next hb7)
      clear HC6 hb7 H7 x0 x1 x2
      go_wp2_with fail
      refine (HL _ (HMo.out _ _ HK.out HC7.out.below)).out.mono ?_
      rintro _ w8 ⟨rfl, hb8⟩
      have HB8 := Lib.hid (HC7.out.below.trans (hb8.mono HC7.out.below.size))
      clear hb8
      go_wp2
      go_ret
      exact ⟨rfl, HB8.out⟩
    · have hz' : ((cp : Int) != 0) = true := by simpa using hz
      have hsb := HS2.out hz
      subst hsb
      clear HRt HS1 HS2 hz
      go_wp2_with fail
      refine (HL _ (HMo.out _ _ HK.out HC6.out.below)).out.mono ?_
      rintro _ w8 ⟨rfl, hb8⟩
      have HB8 := Lib.hid (HC6.out.below.trans (hb8.mono HC6.out.below.size))
      clear hb8
      go_wp2
      go_ret
      exact ⟨rfl, HB8.out⟩
end Go.Proofs.YtnhoeboighndlaaGreatDoor.pgm.asm
