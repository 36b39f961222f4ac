/-
  Texts of one claim in one file: GSame. Each has its own sentence, with its conditions.
-/
import Derived.Test.YtnhoeboighndlaaGreatDoorYall22
import Derived.Test.YtnhoeboighndlaaGreatDoorYall16
import Derived.Test.YtnhoeboighndlaaGreatDoorYall24
/-
  Whether two programs are one, as the statements ask it. No condition but that no list of either is long.
-/
namespace Go.Proofs.YtnhoeboighndlaaGreatDoor.pgm
open Go.RowKit Go.ChangeShapes
open Go.Proofs.YtnhoeboighndlaaGreatDoor.objs (De zero DAt De.ext' list_ext below_drewN cells3)
open Go.Proofs.YtnhoeboighndlaaGreatDoor.need (WAt refSame9_any SamePost)
set_option linter.unusedVariables false

/-- A program none of whose lists is long. -/
def SmallP (p : Pg) : Prop := p.ds.length ≤ 100 ∧ p.ws.length ≤ 100 ∧ (∀ x ∈ p.ws, x.length ≤ 6 ∧ ∀ y ∈ x, y.length ≤ 6) ∧ p.fs.length ≤ 100 ∧ ∀ f ∈ p.fs, f.co.length ≤ 250
noncomputable def eqP (p q : Pg) : Bool := @decide (p = q) (Classical.propDecidable _)
theorem eqP_yes {p q : Pg} (h : p = q) : eqP p q = true := by unfold eqP; exact @decide_eq_true _ (Classical.propDecidable _) h
theorem eqP_no {p q : Pg} (h : ¬ p = q) : eqP p q = false := by unfold eqP; exact @decide_eq_false _ (Classical.propDecidable _) h
theorem eqP_self (p : Pg) : eqP p p = true := eqP_yes rfl
theorem eqP_iff {p q : Pg} (h : eqP p q = true) : p = q := by
  rcases Classical.em (p = q) with e | e
  · exact e
  · rw [eqP_no e] at h
    cases h
def SamePost10 (p q : Pg) (w : World) (e : Ending) (w' : World) : Prop := e = .returned (.bool (eqP p q)) ∧ Below w.heap.size w w'
theorem getD_ext {α : Type} {d : α} {l m : List α} (hl : l.length = m.length) (h : ∀ j, j < l.length → l.getD j d = m.getD j d) : l = m := by
  apply List.ext_getElem hl
  intro j h1 h2
  have := h j h1
  rwa [getD_at h1, getD_at h2] at this
def pgX (a v u : Value) : Obj := .cells #[a, v, u] 26
def fnX (ar lo : Int) (v : Value) : Obj := .cells #[.int .i64 ar, .int .i64 lo, v] 49
/-- The boxes of both programs. -/
structure Bx (w : World) (a0 a1 a2 b0 b1 b2 : Value) (W : World) : Prop where
  below : Below w.heap.size w W
  a : W.heap[w.heap.size]? = some (pgX a0 a1 a2)
  b : W.heap[w.heap.size + 1]? = some (pgX b0 b1 b2)
theorem Bx.next {w W W' : World} {a0 a1 a2 b0 b1 b2 : Value} (h : Bx w a0 a1 a2 b0 b1 b2 W) (hb : Below W.heap.size W W') : Bx w a0 a1 a2 b0 b1 b2 W' :=
  ⟨h.below.trans (hb.mono h.below.size), (hb.block _ (lt_of_block h.a)).trans h.a, (hb.block _ (lt_of_block h.b)).trans h.b⟩
theorem Bx.drewN {w W : World} {a0 a1 a2 b0 b1 b2 : Value} (h : Bx w a0 a1 a2 b0 b1 b2 W) (n : Nat) : Bx w a0 a1 a2 b0 b1 b2 (W.drewN n) := h.next (below_drewN (Below.refl _ W) n)
theorem Bx.new (w : World) (a0 a1 a2 b0 b1 b2 : Value) : Bx w a0 a1 a2 b0 b1 b2 ((w.alloc (pgX a0 a1 a2)).alloc (pgX b0 b1 b2)) := by
  have hz : (w.alloc (pgX a0 a1 a2)).heap.size = w.heap.size + 1 := World.size_alloc _ _
  refine ⟨((Below.refl _ w).alloc (Nat.le_refl _) _).alloc (by omega) _, (Below.heap_alloc _ _ _ (by omega)).trans (heap_alloc_new w _), ?_⟩
  rw [← hz]
  exact heap_alloc_new _ _
theorem upto_next {α : Type} {l m : List α} {d : α} {j : Nat} (h : ∀ k, k < j → l.getD k d = m.getD k d) (hj : l.getD j d = m.getD j d) : ∀ k, k < j + 1 → l.getD k d = m.getD k d := fun k hk => by
  rcases Nat.lt_or_ge k j with h1 | h1
  · exact h k h1
  · obtain rfl : k = j := by omega
    exact hj

/-- The boxes of two functions beside them. -/
structure Bf (w : World) (a0 a1 a2 b0 b1 b2 : Value) (g h : Nat) (la ll : Int) (va : Value) (ma ml : Int) (vb : Value) (W : World) : Prop where
  bx : Bx w a0 a1 a2 b0 b1 b2 W
  f : W.heap[g]? = some (fnX la ll va)
  k : W.heap[h]? = some (fnX ma ml vb)
theorem Bf.next {w W W' : World} {a0 a1 a2 b0 b1 b2 : Value} {g h : Nat} {la ll ma ml : Int} {va vb : Value} (H : Bf w a0 a1 a2 b0 b1 b2 g h la ll va ma ml vb W) (hb : Below W.heap.size W W') : Bf w a0 a1 a2 b0 b1 b2 g h la ll va ma ml vb W' :=
  ⟨H.bx.next hb, (hb.block _ (lt_of_block H.f)).trans H.f, (hb.block _ (lt_of_block H.k)).trans H.k⟩
theorem Bf.drewN {w W : World} {a0 a1 a2 b0 b1 b2 : Value} {g h : Nat} {la ll ma ml : Int} {va vb : Value} (H : Bf w a0 a1 a2 b0 b1 b2 g h la ll va ma ml vb W) (n : Nat) : Bf w a0 a1 a2 b0 b1 b2 g h la ll va ma ml vb (W.drewN n) := H.next (below_drewN (Below.refl _ W) n)
theorem two_below (W : World) (O O2 : Obj) : Below W.heap.size W ((W.alloc O).alloc O2).drew := (((Below.refl _ W).alloc (Nat.le_refl _) _).alloc (by rw [World.size_alloc]; omega) _).drew
theorem two_first (W : World) (O O2 : Obj) : ((W.alloc O).alloc O2).heap[W.heap.size]? = some O := (Below.heap_alloc _ _ _ (by rw [World.size_alloc]; omega)).trans (heap_alloc_new W _)
theorem two_last (W : World) (O O2 : Obj) : ((W.alloc O).alloc O2).heap[W.heap.size + 1]? = some O2 := by rw [← World.size_alloc W O]; exact heap_alloc_new _ _
theorem Bx.two {w W : World} {a0 a1 a2 b0 b1 b2 : Value} (h : Bx w a0 a1 a2 b0 b1 b2 W) (la ll : Int) (va : Value) (ma ml : Int) (vb : Value) : Bf w a0 a1 a2 b0 b1 b2 W.heap.size (W.heap.size + 1) la ll va ma ml vb ((W.alloc (fnX la ll va)).alloc (fnX ma ml vb)).drew :=
  ⟨h.next (two_below _ _ _), two_first _ _ _, two_last _ _ _⟩
theorem Bx.owt {w W : World} {a0 a1 a2 b0 b1 b2 : Value} (h : Bx w a0 a1 a2 b0 b1 b2 W) (la ll : Int) (va : Value) (ma ml : Int) (vb : Value) : Bf w a0 a1 a2 b0 b1 b2 (W.heap.size + 1) W.heap.size la ll va ma ml vb ((W.alloc (fnX ma ml vb)).alloc (fnX la ll va)).drew :=
  ⟨h.next (two_below _ _ _), two_last _ _ _, two_first _ _ _⟩

set_option maxRecDepth 100000 in
set_option maxHeartbeats 16000000 in
theorem same10_any (va vb : Value) (p q : Pg) (hp : SmallP p) (hq : SmallP q) (w : World) (hA : PAt w va p) (hB : PAt w vb q) :
    Calls Tryz.prog 14 #[va, vb] w (SamePost10 p q w) := by
  obtain ⟨A, B, C, ca, cb, cc, rfl, hA1, hA2, hA3⟩ := hA
  obtain ⟨D, E, F, cd, ce, cf, rfl, hB1, hB2, hB3⟩ := hB
  unfold SamePost10
  obtain ⟨r, hr⟩ : ∃ r, r = eqP p q := ⟨_, rfl⟩
  rw [← hr]
  have HNo : Hid (¬ p = q → r = false) := Lib.hid (fun h => by rw [hr, eqP_no h])
  have HYes : Hid (p = q → r = true) := Lib.hid (fun h => by rw [hr, eqP_yes h])
  clear hr
  obtain ⟨pd, pw, pf⟩ := p
  obtain ⟨qd, qw, qf⟩ := q
  dsimp only at hA1 hA2 hA3 hB1 hB2 hB3 ⊢
  obtain ⟨s1, s2, s3, s4, s5⟩ := hp
  obtain ⟨u1, u2, u3, u4, u5⟩ := hq
  dsimp only at s1 s2 s3 s4 s5 u1 u2 u3 u4 u5
  by_cases hl : pd.length = qd.length ∧ pw.length = qw.length ∧ pf.length = qf.length
  · obtain ⟨h1, h2, h3⟩ := hl
    rw [← h1, ← h2, ← h3]
    have H1 := Lib.hid h1
    have H2 := Lib.hid h2
    have H3 := Lib.hid h3
    have HS := Lib.hid (And.intro s3 (And.intro s5 (And.intro u3 u5)))
    have HA := Lib.hid (And.intro hA1 (And.intro hA2 hA3))
    have HB := Lib.hid (And.intro hB1 (And.intro hB2 hB3))
    have HX0 := Lib.hid (Bx.new w (.slice A pd.length ca) (.slice B pw.length cb) (.slice C pf.length cc) (.slice D pd.length cd) (.slice E pw.length ce) (.slice F pf.length cf))
    unfold pgX at HX0
    clear h1 h2 h3 s3 s5 u1 u2 u3 u4 u5 hA1 hA2 hA3 hB1 hB2 hB3
    go_enter Tryz.func14, Tryz.ntmps14
    go_upto_region 1 with fail
    generalize (w.alloc (.cells #[.slice A pd.length ca, .slice B pw.length cb, .slice C pf.length cc] 26)).alloc (.cells #[.slice D pd.length cd, .slice E pw.length ce, .slice F pf.length cf] 26) = W0 at *
    obtain ⟨x0, x1, x2, _, _, _⟩ := cells3 HX0.out.a
    obtain ⟨y0, y1, y2, _, _, _⟩ := cells3 HX0.out.b
    go_wp2_with fail
    clear x0 x1 x2 y0 y1 y2
    go_loopw [5] (fun i wr => ∃ j : Nat, j ≤ pd.length ∧ i = .int .i64 (j : Int) ∧ Hid (∀ k, k < j → pd.getD k zero = qd.getD k zero) ∧ Hid (Bx w (.slice A pd.length ca) (.slice B pw.length cb) (.slice C pf.length cc) (.slice D pd.length cd) (.slice E pw.length ce) (.slice F pf.length cf) wr)) (fun i _ => pd.length - (intOf i).toNat)
    case atStart => exact ⟨0, Nat.zero_le _, rfl, Lib.hid (fun k hk => absurd hk (Nat.not_lt_zero k)), HX0⟩
    case round =>
      obtain ⟨j, hj, rfl, HO, HX⟩ := hrel
      obtain ⟨x0, x1, x2, _, _, _⟩ := cells3 HX.out.a
      obtain ⟨y0, y1, y2, _, _, _⟩ := cells3 HX.out.b
      by_cases hlt : j < pd.length
      · obtain ⟨a, oa, rfl, _, a0, a1, a2⟩ := (HA.out.1.next HX.out.below) j hlt
        obtain ⟨b, ob, rfl, _, b0, b1, b2⟩ := (HB.out.1.next HX.out.below) j (by rw [← H1.out]; exact hlt)
        have hlt' : (j : Int) < (pd.length : Int) := by omega
        by_cases hx : pd.getD j zero = qd.getD j zero
        · have HE := Lib.hid (upto_next HO.out hx)
          rw [← hx] at b0 b1 b2
          clear hx
          generalize pd.getD j zero = d at *
          go_wp2_with fail
          go_quiet (fail)
          go_wp2
          go_roundw
          case rel => exact ⟨j + 1, by omega, by go_num, HE, Lib.hid (HX.out.drewN _)⟩
          case measure => simp [intOf]; omega
        · have HE := Lib.hid (HNo.out (fun h => hx (by injection h with h; rw [h])))
          have hne : ¬ ((pd.getD j zero).1 = (qd.getD j zero).1 ∧ (pd.getD j zero).2.1 = (qd.getD j zero).2.1 ∧ (pd.getD j zero).2.2 = (qd.getD j zero).2.2) := fun h => hx (De.ext'.2 h)
          clear hx
          generalize pd.getD j zero = d at *
          generalize qd.getD j zero = f at *
          obtain ⟨d1, d2, d3⟩ := d
          obtain ⟨f1, f2, f3⟩ := f
          dsimp only at a0 a1 a2 b0 b1 b2 hne
          by_cases e1 : d1 = f1
          · subst e1
            by_cases e2 : d2 = f2
            · subst e2
              have hc : (d3 == f3) = false := by rw [beq_eq_false_iff_ne]; exact fun e => hne ⟨rfl, rfl, e⟩
              clear hne
              go_wp2_with fail
              go_quiet (fail)
              go_wp2
              go_ret
              exact ⟨by rw [HE.out]; rfl, (HX.out.drewN _).below⟩
            · have hc : (d2 == f2) = false := by rw [beq_eq_false_iff_ne]; exact e2
              clear hne e2
              go_wp2_with fail
              go_quiet (fail)
              go_wp2
              go_ret
              exact ⟨by rw [HE.out]; rfl, (HX.out.drewN _).below⟩
          · have hc : (d1 == f1) = false := by rw [beq_eq_false_iff_ne]; exact e1
            clear hne e1
            go_wp2_with fail
            go_quiet (fail)
            go_wp2
            go_ret
            exact ⟨by rw [HE.out]; rfl, (HX.out.drewN _).below⟩
      · obtain rfl : j = pd.length := by omega
        have HD : Hid (pd = qd) := Lib.hid (list_ext H1.out HO.out)
        clear HO
        go_wp2_with fail
        clear x0 x1 x2 y0 y1 y2
        obtain ⟨W1, rfl⟩ : ∃ W1, W1 = wr := ⟨_, rfl⟩
        go_loopw [6] (fun i wr => ∃ j : Nat, j ≤ pw.length ∧ i = .int .i64 (j : Int) ∧ Hid (∀ k, k < j → pw.getD k [] = qw.getD k []) ∧ Hid (Bx w (.slice A pd.length ca) (.slice B pw.length cb) (.slice C pf.length cc) (.slice D pd.length cd) (.slice E pw.length ce) (.slice F pf.length cf) wr)) (fun i _ => pw.length - (intOf i).toNat)
        case atStart => exact ⟨0, Nat.zero_le _, rfl, Lib.hid (fun k hk => absurd hk (Nat.not_lt_zero k)), HX⟩
        case round =>
          clear HX
          obtain ⟨j, hj, rfl, HO, HX⟩ := hrel
          obtain ⟨x0, x1, x2, _, _, _⟩ := cells3 HX.out.a
          obtain ⟨y0, y1, y2, _, _, _⟩ := cells3 HX.out.b
          by_cases hlt : j < pw.length
          · have hltm : j < qw.length := by rw [← H2.out]; exact hlt
            obtain ⟨a, oa, Aj, cj, rfl, hbl, hca, hda⟩ := (HA.out.2.1.next HX.out.below) j hlt
            obtain ⟨b, ob, Bj, dj, rfl, hbm, hcb, hdb⟩ := (HB.out.2.1.next HX.out.below) j hltm
            have hlt' : (j : Int) < (pw.length : Int) := by omega
            have hj0 : (0 : Int) ≤ (j : Int) := by omega
            have h6a := HS.out.1 _ (getD_in (d := []) hlt)
            have h6b := HS.out.2.2.1 _ (getD_in (d := []) hltm)
            generalize hgl : pw.getD j [] = lj at *
            generalize hgm : qw.getD j [] = mj at *
            obtain ⟨v, hv⟩ : ∃ v, v = decide (lj = mj) := ⟨_, rfl⟩
            have HC : Hid (∀ W, Below wr.heap.size wr W → Calls Tryz.prog 36 #[.slice Aj lj.length cj, .slice Bj mj.length dj] W fun e w' => e = .returned (.bool v) ∧ Below wr.heap.size wr w') := Lib.hid fun W hW => (refSame9_any Aj Bj cj dj lj mj h6a.1 h6b.1 h6a.2 h6b.2 W (hda.next hW) (hdb.next hW)).mono fun e w' ⟨h1, h2⟩ => ⟨by rw [h1, hv], hW.trans (h2.mono hW.size)⟩
            have q0 : w.heap.size < wr.heap.size := lt_of_block HX.out.a
            have q1 : w.heap.size + 1 < wr.heap.size := lt_of_block HX.out.b
            have HXn := Lib.hid (fun w3 (hb3 : Below wr.heap.size wr w3) => HX.out.next hb3)
            obtain ⟨Cl, hCl⟩ : ∃ Cl : World → Prop, Cl = Below wr.heap.size wr := ⟨_, rfl⟩
            rw [← hCl] at HC HXn
            have K0 : Hid (∀ W, Cl W → W.cell? ⟨w.heap.size, 1, none⟩ = some (.slice (some ⟨a, oa, none⟩) pw.length cb)) := Lib.hid fun W h => by rw [hCl] at h; exact (h.cell (p := ⟨w.heap.size, 1, none⟩) q0).trans x1
            have K1 : Hid (∀ W, Cl W → W.cell? ⟨w.heap.size + 1, 1, none⟩ = some (.slice (some ⟨b, ob, none⟩) pw.length ce)) := Lib.hid fun W h => by rw [hCl] at h; exact (h.cell (p := ⟨w.heap.size + 1, 1, none⟩) q1).trans y1
            have K2 : Hid (∀ W, Cl W → W.cell? ⟨a, oa + j, none⟩ = some (.slice Aj lj.length cj)) := Lib.hid fun W h => by rw [hCl] at h; exact (h.cell (p := ⟨a, oa + j, none⟩) hbl).trans hca
            have K3 : Hid (∀ W, Cl W → W.cell? ⟨b, ob + j, none⟩ = some (.slice Bj mj.length dj)) := Lib.hid fun W h => by rw [hCl] at h; exact (h.cell (p := ⟨b, ob + j, none⟩) hbm).trans hcb
            have hC0 : Cl { wr with drawn := wr.drawn + 1 } := by rw [hCl]; exact (Below.refl _ wr).drew
            have HCl := Lib.hid hCl
            have HV := Lib.hid hv
            have HGl := Lib.hid (And.intro hgl hgm)
            clear hgl hgm h6a h6b hda hdb hltm hca hcb hCl hv q0 q1 HX
            go_upto_region 11 with fail
            clear x0 x1 x2 y0 y1 y2
            refine wp_region_cls (C := Cl) (by kernel_rfl) (by kernel_rfl) hC0 ?_
            clear hC0
            (refine wpQuiet_step (fun K hK => ?_); go_simp; (first | refine hK _ ?_ | refine ⟨_, fun W hW => rfl, hK _ ?_⟩); clear hK K)
            (refine wpQuiet_step (fun K hK => ?_); go_simp; refine ⟨.slice (some ⟨a, oa, none⟩) pw.length cb, fun W hW => (by have k := K0.out W hW; simp [go_sem, k]), hK _ ?_⟩; clear hK K)
            (refine wpQuiet_step (fun K hK => ?_); go_simp; (first | refine hK _ ?_ | refine ⟨_, fun W hW => rfl, hK _ ?_⟩); clear hK K)
            (refine wpQuiet_step (fun K hK => ?_); go_simp; (first | refine hK _ ?_ | refine ⟨_, fun W hW => rfl, hK _ ?_⟩); clear hK K)
            (refine wpQuiet_step (fun K hK => ?_); go_simp; refine ⟨.slice Aj lj.length cj, fun W hW => (by have k := K2.out W hW; simp [go_sem, k]), hK _ ?_⟩; clear hK K)
            (refine wpQuiet_step (fun K hK => ?_); go_simp; (first | refine hK _ ?_ | refine ⟨_, fun W hW => rfl, hK _ ?_⟩); clear hK K)
            (refine wpQuiet_step (fun K hK => ?_); go_simp; refine ⟨.slice (some ⟨b, ob, none⟩) pw.length ce, fun W hW => (by have k := K1.out W hW; simp [go_sem, k]), hK _ ?_⟩; clear hK K)
            (refine wpQuiet_step (fun K hK => ?_); go_simp; (first | refine hK _ ?_ | refine ⟨_, fun W hW => rfl, hK _ ?_⟩); clear hK K)
            (refine wpQuiet_step (fun K hK => ?_); go_simp; (first | refine hK _ ?_ | refine ⟨_, fun W hW => rfl, hK _ ?_⟩); clear hK K)
            (refine wpQuiet_step (fun K hK => ?_); go_simp; refine ⟨.slice Bj mj.length dj, fun W hW => (by have k := K3.out W hW; simp [go_sem, k]), hK _ ?_⟩; clear hK K)
            (refine wpQuiet_step (fun K hK => ?_); go_simp; refine ⟨_, fun W hW => HC.out W hW, hK _ ?_⟩; clear hK K)
            (refine wpQuiet_step (fun K hK => ?_); go_simp; (first | refine hK _ ?_ | refine ⟨_, fun W hW => rfl, hK _ ?_⟩); clear hK K)
            refine wpQuiet_nil ?_
            intro w9 h9
            have hX9 := Lib.hid (HXn.out w9 h9)
            clear h9 HC HXn K0 K1 K2 K3
            cases v
            · have HE := Lib.hid (HNo.out (fun h => of_decide_eq_false HV.out.symm (by injection h with _ h; rw [← HGl.out.1, ← HGl.out.2, h])))
              go_wp2
              go_ret
              exact ⟨by rw [HE.out]; rfl, hX9.out.below⟩
            · have HE := Lib.hid (upto_next HO.out (by rw [HGl.out.1, HGl.out.2]; exact of_decide_eq_true HV.out.symm))
              go_wp2
              go_roundw
              case rel => exact ⟨j + 1, by omega, by go_num, HE, hX9⟩
              case measure => simp [intOf]; omega
          · obtain rfl : j = pw.length := by omega
            have HDw : Hid (pw = qw) := Lib.hid (getD_ext H2.out HO.out)
            clear HO
            go_wp2_with fail
            clear x0 x1 x2 y0 y1 y2
            obtain ⟨W2, rfl⟩ : ∃ W2, W2 = wr := ⟨_, rfl⟩
            go_loopw [7] (fun i wr => ∃ j : Nat, j ≤ pf.length ∧ i = .int .i64 (j : Int) ∧ Hid (∀ k, k < j → pf.getD k Fn.zero = qf.getD k Fn.zero) ∧ Hid (Bx w (.slice A pd.length ca) (.slice B pw.length cb) (.slice C pf.length cc) (.slice D pd.length cd) (.slice E pw.length ce) (.slice F pf.length cf) wr)) (fun i _ => pf.length - (intOf i).toNat)
            case atStart => exact ⟨0, Nat.zero_le _, rfl, Lib.hid (fun k hk => absurd hk (Nat.not_lt_zero k)), HX⟩
            case round =>
              clear HX
              obtain ⟨j, hj, rfl, HO, HX⟩ := hrel
              obtain ⟨x0, x1, x2, _, _, _⟩ := cells3 HX.out.a
              obtain ⟨y0, y1, y2, _, _, _⟩ := cells3 HX.out.b
              by_cases hlt : j < pf.length
              · have hltm : j < qf.length := by rw [← H3.out]; exact hlt
                obtain ⟨a, oa, Aj, cj, rfl, hbl, hfa, hda⟩ := HA.out.2.2 j hlt
                obtain ⟨b, ob, Bj, dj, rfl, hbm, hfb, hdb⟩ := HB.out.2.2 j hltm
                obtain ⟨a0, a1, a2⟩ := hfa.keep (HX.out.below.block a hbl)
                obtain ⟨b0, b1, b2⟩ := hfb.keep (HX.out.below.block b hbm)
                replace hbl := Nat.lt_of_lt_of_le hbl HX.out.below.size
                replace hbm := Nat.lt_of_lt_of_le hbm HX.out.below.size
                clear hfa hfb
                have hlt' : (j : Int) < (pf.length : Int) := by omega
                have hj0 : (0 : Int) ≤ (j : Int) := by omega
                have h6a := HS.out.2.1 _ (getD_in (d := Fn.zero) hlt)
                have h6b := HS.out.2.2.2 _ (getD_in (d := Fn.zero) hltm)
                generalize hgl : pf.getD j Fn.zero = lj at *
                generalize hgm : qf.getD j Fn.zero = mj at *
                obtain ⟨la, ll, lc⟩ := lj
                obtain ⟨ma, ml, mc⟩ := mj
                dsimp only at a0 a1 a2 b0 b1 b2 hda hdb h6a h6b
                have HDA := Lib.hid hda
                have HDB := Lib.hid hdb
                clear hda hdb
                have HF1 := Lib.hid (HX.out.two la ll (.slice Aj lc.length cj) ma ml (.slice Bj mc.length dj))
                have HF2 := Lib.hid (HX.out.owt la ll (.slice Aj lc.length cj) ma ml (.slice Bj mc.length dj))
                have hZ1 : ∀ O, Below wr.heap.size wr (wr.alloc O) := fun O => (Below.refl _ wr).alloc (Nat.le_refl _) _
                have hZ2 : ∀ O O2, Below wr.heap.size wr ((wr.alloc O).alloc O2) := fun O O2 => ((Below.refl _ wr).alloc (Nat.le_refl _) _).alloc (by rw [World.size_alloc]; omega) _
                have q0 : w.heap.size < wr.heap.size := lt_of_block HX.out.a
                have q1 : w.heap.size + 1 < wr.heap.size := lt_of_block HX.out.b
                have x2a := fun O => ((hZ1 O).cell (p := ⟨w.heap.size, 2, none⟩) q0).trans x2
                have y2a := fun O => ((hZ1 O).cell (p := ⟨w.heap.size + 1, 2, none⟩) q1).trans y2
                have a0a := fun O => ((hZ1 O).cell (p := ⟨a, oa + j * 3, none⟩) hbl).trans a0
                have a1a := fun O => ((hZ1 O).cell (p := ⟨a, oa + j * 3 + 1, none⟩) hbl).trans a1
                have a2a := fun O => ((hZ1 O).cell (p := ⟨a, oa + j * 3 + 2, none⟩) hbl).trans a2
                have b0a := fun O => ((hZ1 O).cell (p := ⟨b, ob + j * 3, none⟩) hbm).trans b0
                have b1a := fun O => ((hZ1 O).cell (p := ⟨b, ob + j * 3 + 1, none⟩) hbm).trans b1
                have b2a := fun O => ((hZ1 O).cell (p := ⟨b, ob + j * 3 + 2, none⟩) hbm).trans b2
                have x2b := fun O O2 => ((hZ2 O O2).cell (p := ⟨w.heap.size, 2, none⟩) q0).trans x2
                have y2b := fun O O2 => ((hZ2 O O2).cell (p := ⟨w.heap.size + 1, 2, none⟩) q1).trans y2
                have a0b := fun O O2 => ((hZ2 O O2).cell (p := ⟨a, oa + j * 3, none⟩) hbl).trans a0
                have a1b := fun O O2 => ((hZ2 O O2).cell (p := ⟨a, oa + j * 3 + 1, none⟩) hbl).trans a1
                have a2b := fun O O2 => ((hZ2 O O2).cell (p := ⟨a, oa + j * 3 + 2, none⟩) hbl).trans a2
                have b0b := fun O O2 => ((hZ2 O O2).cell (p := ⟨b, ob + j * 3, none⟩) hbm).trans b0
                have b1b := fun O O2 => ((hZ2 O O2).cell (p := ⟨b, ob + j * 3 + 1, none⟩) hbm).trans b1
                have b2b := fun O O2 => ((hZ2 O O2).cell (p := ⟨b, ob + j * 3 + 2, none⟩) hbm).trans b2
                clear x0 x1 y0 y1 hZ1 hZ2
                go_upto_block 1 with fail
                go_cut [7, 8, 9] (fun i p q wx => i = .int .i64 (j : Int) ∧ ∃ g h : Nat, p = .pointer (some ⟨g, 0, none⟩) ∧ q = .pointer (some ⟨h, 0, none⟩) ∧ Hid (Bf w (.slice A pd.length ca) (.slice B pw.length cb) (.slice (some ⟨a, oa, none⟩) pf.length cc) (.slice D pd.length cd) (.slice E pw.length ce) (.slice (some ⟨b, ob, none⟩) pf.length cf) g h la ll (.slice Aj lc.length cj) ma ml (.slice Bj mc.length dj) wx))
                case first =>
                  clear HS HA HB HO HNo HYes HDA HDB
                  go_wp2_with fail
                  go_region
                  · go_wp2_with fail
                    go_meet
                    exact ⟨rfl, _, _, rfl, rfl, HF1⟩
                  · go_wp2_with fail
                    go_meet
                    exact ⟨rfl, _, _, rfl, rfl, HF2⟩
                case rest =>
                  obtain ⟨rfl, g, h, rfl, rfl, HF⟩ := hcut
                  clear HF1 HF2 x2 y2 a0 a1 a2 b0 b1 b2 x2a y2a a0a a1a a2a b0a b1a b2a x2b y2b a0b a1b a2b b0b b1b b2b q0 q1 HX
                  have HGl := Lib.hid (And.intro hgl hgm)
                  have HJ := Lib.hid (And.intro hlt hltm)
                  clear hgl hgm hbl hbm hlt hltm hlt' hj0
                  obtain ⟨f0, f1, f2, _, _, _⟩ := cells3 HF.out.f
                  obtain ⟨k0, k1, k2, _, _, _⟩ := cells3 HF.out.k
                  by_cases hne : la = ma ∧ ll = ml ∧ lc.length = mc.length
                  · obtain ⟨e1, e2, e3⟩ := hne
                    subst e1 e2
                    have HLc := Lib.hid e3
                    rw [← e3] at k2
                    clear e3
                    go_wp2_with fail
                    clear f0 f1 f2 k0 k1 k2
                    obtain ⟨W3, rfl⟩ : ∃ W3, W3 = wr := ⟨_, rfl⟩
                    go_loopw [10] (fun i wr => ∃ k : Nat, k ≤ lc.length ∧ i = .int .i64 (k : Int) ∧ Hid (∀ x, x < k → lc.getD x zero = mc.getD x zero) ∧ Hid (Bf w (.slice A pd.length ca) (.slice B pw.length cb) (.slice (some ⟨a, oa, none⟩) pf.length cc) (.slice D pd.length cd) (.slice E pw.length ce) (.slice (some ⟨b, ob, none⟩) pf.length cf) g h la ll (.slice Aj lc.length cj) la ll (.slice Bj mc.length dj) wr)) (fun i _ => lc.length - (intOf i).toNat)
                    case atStart => exact ⟨0, Nat.zero_le _, rfl, Lib.hid (fun k hk => absurd hk (Nat.not_lt_zero k)), HF⟩
                    case round =>
                      clear HF
                      obtain ⟨k, hk, rfl, HP, HF⟩ := hrel
                      obtain ⟨_, _, f2, _, _, _⟩ := cells3 HF.out.f
                      obtain ⟨_, _, k2, _, _, _⟩ := cells3 HF.out.k
                      rw [← HLc.out] at k2
                      by_cases hlk : k < lc.length
                      · obtain ⟨a2, oa2, rfl, _, a0, a1, a3⟩ := (HDA.out.next HF.out.bx.below) k hlk
                        obtain ⟨b2, ob2, rfl, _, b0, b1, b3⟩ := (HDB.out.next HF.out.bx.below) k (by rw [← HLc.out]; exact hlk)
                        have hlk' : (k : Int) < (lc.length : Int) := by omega
                        have hk0 : (0 : Int) ≤ (k : Int) := by omega
                        by_cases hx : lc.getD k zero = mc.getD k zero
                        · have HE := Lib.hid (upto_next HP.out hx)
                          rw [← hx] at b0 b1 b3
                          clear hx
                          generalize lc.getD k zero = d at *
                          go_wp2_with fail
                          go_quiet (fail)
                          go_wp2
                          go_roundw
                          case rel => exact ⟨k + 1, by omega, by go_num, HE, Lib.hid (HF.out.drewN _)⟩
                          case measure => simp [intOf]; omega
                        · have HE : Hid (r = false) := Lib.hid (HNo.out (fun h => hx (by
                            injection h with _ _ h
                            have h1 := HGl.out.1
                            rw [h, HGl.out.2] at h1
                            injection h1 with e1 e2 e3
                            rw [e3])))
                          have hne : ¬ ((lc.getD k zero).1 = (mc.getD k zero).1 ∧ (lc.getD k zero).2.1 = (mc.getD k zero).2.1 ∧ (lc.getD k zero).2.2 = (mc.getD k zero).2.2) := fun h => hx (De.ext'.2 h)
                          clear hx
                          generalize lc.getD k zero = d at *
                          generalize mc.getD k zero = f at *
                          obtain ⟨d1, d2, d3⟩ := d
                          obtain ⟨c1, c2, c3⟩ := f
                          dsimp only at a0 a1 a3 b0 b1 b3 hne
                          by_cases e1 : d1 = c1
                          · subst e1
                            by_cases e2 : d2 = c2
                            · subst e2
                              have hc : (d3 == c3) = false := by rw [beq_eq_false_iff_ne]; exact fun e => hne ⟨rfl, rfl, e⟩
                              clear hne
                              go_wp2_with fail
                              go_quiet (fail)
                              go_wp2
                              go_ret
                              exact ⟨by rw [HE.out]; rfl, (HF.out.drewN _).bx.below⟩
                            · have hc : (d2 == c2) = false := by rw [beq_eq_false_iff_ne]; exact e2
                              clear hne e2
                              go_wp2_with fail
                              go_quiet (fail)
                              go_wp2
                              go_ret
                              exact ⟨by rw [HE.out]; rfl, (HF.out.drewN _).bx.below⟩
                          · have hc : (d1 == c1) = false := by rw [beq_eq_false_iff_ne]; exact e1
                            clear hne e1
                            go_wp2_with fail
                            go_quiet (fail)
                            go_wp2
                            go_ret
                            exact ⟨by rw [HE.out]; rfl, (HF.out.drewN _).bx.below⟩
                      · obtain rfl : k = lc.length := by omega
                        have HE : Hid (∀ x, x < j + 1 → pf.getD x Fn.zero = qf.getD x Fn.zero) := Lib.hid (upto_next HO.out (by rw [HGl.out.1, HGl.out.2, list_ext HLc.out HP.out]))
                        have hj1 := HJ.out.1
                        go_wp2_with fail
                        go_roundw
                        case rel => exact ⟨j + 1, by omega, by go_num, HE, Lib.hid HF.out.bx⟩
                        case measure => simp [intOf]; omega
                  · have HE : Hid (r = false) := Lib.hid (HNo.out (fun h => hne (by
                      injection h with _ _ h
                      have h1 := HGl.out.1
                      rw [h, HGl.out.2] at h1
                      injection h1 with e1 e2 e3
                      exact ⟨e1.symm, e2.symm, by rw [e3]⟩)))
                    by_cases e1 : la = ma
                    · subst e1
                      by_cases e2 : ll = ml
                      · subst e2
                        have t3 : ((lc.length : Int) != (mc.length : Int)) = true := by
                          simp
                          exact fun h => hne ⟨rfl, rfl, by omega⟩
                        clear hne
                        go_wp2_with fail
                        go_ret
                        exact ⟨by rw [HE.out]; rfl, HF.out.bx.below⟩
                      · have t2 : (ll != ml) = true := by simpa using e2
                        clear hne e2
                        go_wp2_with fail
                        go_ret
                        exact ⟨by rw [HE.out]; rfl, HF.out.bx.below⟩
                    · have t1 : (la != ma) = true := by simpa using e1
                      clear hne e1
                      go_wp2_with fail
                      go_ret
                      exact ⟨by rw [HE.out]; rfl, HF.out.bx.below⟩
              · obtain rfl : j = pf.length := by omega
                have HDf : Hid (pf = qf) := Lib.hid (getD_ext H3.out HO.out)
                have HE := Lib.hid (HYes.out (by rw [HD.out, HDw.out, HDf.out]))
                clear HO
                go_wp2_with fail
                go_ret
                exact ⟨by rw [HE.out]; rfl, HX.out.below⟩
  · have HE := Lib.hid (HNo.out (fun h => hl (by injection h with e1 e2 e3; exact ⟨by rw [e1], by rw [e2], by rw [e3]⟩)))
    have HX0 := Lib.hid (Bx.new w (.slice A pd.length ca) (.slice B pw.length cb) (.slice C pf.length cc) (.slice D qd.length cd) (.slice E qw.length ce) (.slice F qf.length cf))
    unfold pgX at HX0
    go_enter Tryz.func14, Tryz.ntmps14
    go_upto_region 1 with fail
    generalize (w.alloc (.cells #[.slice A pd.length ca, .slice B pw.length cb, .slice C pf.length cc] 26)).alloc (.cells #[.slice D qd.length cd, .slice E qw.length ce, .slice F qf.length cf] 26) = W0 at *
    obtain ⟨x0, x1, x2, _, _, _⟩ := cells3 HX0.out.a
    obtain ⟨y0, y1, y2, _, _, _⟩ := cells3 HX0.out.b
    by_cases h1 : pd.length = qd.length
    · have t1 : ((pd.length : Int) != (qd.length : Int)) = false := by simp; omega
      by_cases h2 : pw.length = qw.length
      · have t2 : ((pw.length : Int) != (qw.length : Int)) = false := by simp; omega
        have t3 : ((pf.length : Int) != (qf.length : Int)) = true := by
          simp
          exact fun h => hl ⟨h1, h2, by omega⟩
        clear hl h1 h2
        go_wp2_with fail
        go_ret
        exact ⟨by rw [HE.out]; rfl, HX0.out.below⟩
      · have t2 : ((pw.length : Int) != (qw.length : Int)) = true := by simp; omega
        clear hl h1 h2
        go_wp2_with fail
        go_ret
        exact ⟨by rw [HE.out]; rfl, HX0.out.below⟩
    · have t1 : ((pd.length : Int) != (qd.length : Int)) = true := by simp; omega
      clear hl h1
      go_wp2_with fail
      go_ret
      exact ⟨by rw [HE.out]; rfl, HX0.out.below⟩
end Go.Proofs.YtnhoeboighndlaaGreatDoor.pgm
