/-
  Texts of one claim in one file: GWalks2, Shut, DOps, EOps, GOps, PClose, DClose, GClose. Each has its own sentence, with its conditions.
-/
import Derived.Test.YtahejekcfgkiaaaGreatDoorGall22
import Derived.Test.YtahejekcfgkiaaaGreatDoorGall14
import Derived.Test.YtahejekcfgkiaaaGreatDoorGall23
import Derived.Test.YtahejekcfgkiaaaGreatDoorGall25
import Derived.Test.YtahejekcfgkiaaaGreatDoorRows
import Derived.OpenShut
import Derived.Below
import Derived.ChangeSame
import Derived.ChangeArms
import Derived.Carry
import Derived.ProofKit
import Derived.WideKeyArgs
import Derived.WideShapes
import Derived.LaidMore
import Derived.Lib.LaidTab
import Derived.Test.YtahejekcfgkiaaaGreatDoorGall9
import Derived.Deep.Slices
import Derived.Test.YtahejekcfgkiaaaGreatDoorGall11
import Derived.Test.YtahejekcfgkiaaaGreatDoorGall1
import Derived.Stop.Joined
import Derived.Stop.LaidErr
/-
  The walks of ProgChecks and ProgBack. The tables must lie where their initialisers lay them; a text of at most two to the forty-seventh bytes.
-/
namespace Go.Proofs.YtahejekcfgkiaaaGreatDoor.pgm
open Go.RowKit Go.ChangeShapes
open Go.Proofs.YtahejekcfgkiaaaGreatDoor.objs (De zero DAt cells3 put3 put3_same put3_far put3_below)
open Go.Proofs.YtahejekcfgkiaaaGreatDoor.octet (size_mk)
set_option linter.unusedVariables false

/-- The copy that stands in the argument's box. -/
structure Cb (w : World) (a b c : Value) (p : Pg) (hi : Nat) (W : World) : Prop where
  below : Below w.heap.size w W
  box : W.heap[w.heap.size]? = some (pgB a b c)
  st : Stays W (w.heap.size + 1) hi (fun W' => PAt W' (.agg #[a, b, c]) p ∧ PG W' (.agg #[a, b, c]) p)
theorem Cb.next {w W W' : World} {a b c : Value} {p : Pg} {hi : Nat} (h : Cb w a b c p hi W) (hb : Below W.heap.size W W') : Cb w a b c p hi W' :=
  ⟨h.below.trans (hb.mono h.below.size), (hb.block _ (lt_of_block h.box)).trans h.box, h.st.next hb⟩
theorem pg_len {w : World} {v : Value} {p : Pg} (h : PG w v p) : p.ds.length ≤ 40 := by
  obtain ⟨_, _, _, _, _, _, _, _, _, _, h, _⟩ := h
  omega

set_option maxRecDepth 100000 in
set_option maxHeartbeats 4000000 in
theorem checks_walk (v : Value) (p : Pg) (w : World) (hv : PG w v p) (hw : Okp w) :
    Calls Tryz.prog 3 #[v] w fun e w' => e = .returned (.bool true) ∧ Below w.heap.size w w' := by
  have hlen : p.ds.length ≤ 9223372036854775807 := by have := pg_len hv; omega
  have HOw := fun v W h => Lib.hid (own10_any v p W h)
  unfold OwnPost10 at HOw
  have HRc := fun v W h => Lib.hid (refCheck10_any v p W h)
  have HCk := fun v W h1 h2 => Lib.hid (check_any v p hlen W h1 h2)
  unfold NumPost at HRc HCk
  have HPt := fun v W h1 h2 => Lib.hid (put_any v p hlen W h1 h2)
  unfold PutPost10 at HPt
  have HRp := fun v hz W h => Lib.hid (refPut10_any v p hz W h)
  have HS1 : Hid (chkP p = 0 → putP p = encP p) := Lib.hid (fun h => by unfold putP; rw [if_pos h])
  have HS2 : Hid (chkP p ≠ 0 → putP p = []) := Lib.hid (fun h => by unfold putP; rw [if_neg h])
  generalize putP p = sb at *
  generalize chkP p = cp at *
  generalize encP p = eb at *
  have HL := fun W h => Lib.hid (lives_any W h)
  have HK := Lib.hid hw
  obtain ⟨A, B, C, na, nb, nc, ca, cb, cc, hve, -⟩ := id hv
  subst hve
  have hb0 : Below w.heap.size w (w.alloc (pgB (.slice A na ca) (.slice B nb cb) (.slice C nc cc))) := (Below.refl _ _).alloc (Nat.le_refl _) _
  have hz0 : (w.alloc (pgB (.slice A na ca) (.slice B nb cb) (.slice C nc cc))).heap.size = w.heap.size + 1 := World.size_alloc _ _
  have hx0 := heap_alloc_new w (pgB (.slice A na ca) (.slice B nb cb) (.slice C nc cc))
  have HO0 := HOw _ _ (hv.next hb0)
  have HB0 := Lib.hid hb0
  have HX0 := Lib.hid hx0
  have HZ0 := Lib.hid hz0
  unfold pgB at HO0 HB0 HX0 HZ0
  clear hv hw hlen hb0 hx0 hz0
  go_enter Tryz.func3, Tryz.ntmps3
  go_upto_region 1 with fail
  generalize w.alloc (.cells #[.slice A na ca, .slice B nb cb, .slice C nc cc] 26) = W0 at *
  obtain ⟨x0, x1, x2, -, -, -⟩ := cells3 HX0.out
  go_wp2_with fail
  refine HO0.out.mono ?_
  rintro _ w1 ⟨v1, rfl, hS1, hb1⟩
  obtain ⟨D, E, F, cd, ce, cf, hve, -⟩ := hS1.now.1
  subst hve
  have hx1 := (hb1.block _ (lt_of_block HX0.out)).trans HX0.out
  have hbw := HB0.out.trans (hb1.mono HB0.out.size)
  have HC1 := Lib.hid ((⟨put3_below hbw (Nat.le_refl _) _ _ _, put3_same hx1 _ _ _, by
    rw [← HZ0.out]
    exact hS1.keep (by simp [put3, World.setCell]) fun g hl _ => put3_far (by have := HZ0.out; omega) _ _ _⟩ : Cb w (.slice D p.ds.length cd) (.slice E p.ws.length ce) (.slice F p.fs.length cf) p w1.heap.size (put3 w1 w.heap.size (.slice D p.ds.length cd) (.slice E p.ws.length ce) (.slice F p.fs.length cf))))
  clear x0 x1 x2
  obtain ⟨x0, x1, x2, xf0, xf1, xf2⟩ := cells3 hx1
  generalize w1.heap.size = hi at HC1
  unfold put3 at HC1
  clear HO0 HB0 HX0 HZ0 hS1 hb1 hbw hx1
  go_upto_region 2 with fail
  generalize ((w1.setCell ⟨w.heap.size, 0, none⟩ (.slice D p.ds.length cd)).setCell ⟨w.heap.size, 1, none⟩ (.slice E p.ws.length ce)).setCell ⟨w.heap.size, 2, none⟩ (.slice F p.fs.length cf) = W1 at *
  clear x0 x1 x2 xf0 xf1 xf2
  obtain ⟨x0, x1, x2, -, -, -⟩ := cells3 HC1.out.box
  have H2 := HRc _ _ HC1.out.st.now.2.head
  go_wp2_with fail
  refine H2.out.mono ?_
  rintro _ w2 ⟨rfl, hb2⟩
  have HC2 := Lib.hid (HC1.out.next hb2)
  clear HC1 hb2 H2 x0 x1 x2 HRc
  obtain ⟨x0, x1, x2, -, -, -⟩ := cells3 HC2.out.box
  have H3 := HOw _ _ HC2.out.st.now.2
  go_wp2_with fail
  refine H3.out.mono ?_
  rintro _ w3 ⟨v3, rfl, hS3, hb3⟩
  have HC3 := Lib.hid (HC2.out.next hb3)
  have H4 := HPt _ _ hS3.now.1 (HK.out.next HC3.out.below)
  clear HC2 hb3 H3 x0 x1 x2 hS3 HPt
  go_wp2_with fail
  refine H4.out.mono ?_
  rintro _ w4 ⟨rfl, hb4⟩
  have HC4 := Lib.hid (HC3.out.next hb4)
  clear HC3 hb4 H4
  obtain ⟨x0, x1, x2, -, -, -⟩ := cells3 HC4.out.box
  have H5 := HOw _ _ HC4.out.st.now.2
  go_wp2_with fail
  refine H5.out.mono ?_
  rintro _ w5 ⟨v5, rfl, hS5, hb5⟩
  have HC5 := Lib.hid (HC4.out.next hb5)
  have H6 := HCk _ _ hS5.now.1 (HK.out.next HC5.out.below)
  clear HC4 hb5 H5 x0 x1 x2 hS5 HCk HOw
  go_wp2_with fail
  refine H6.out.mono ?_
  rintro _ w6 ⟨rfl, hb6⟩
  have HC6 := Lib.hid (HC5.out.next hb6)
  clear HC5 hb6 H6
  obtain ⟨x0, x1, x2, -, -, -⟩ := cells3 HC6.out.box
  by_cases hz : cp = 0
  · have H7 := HRp _ hz _ HC6.out.st.now.1
    have hsb := HS1.out hz
    subst hz hsb
    clear HRp HS1 HS2
    go_wp2_with fail
    refine H7.out.mono ?_
    rintro _ w7 ⟨rfl, hb7⟩
    have HC7 := Lib.hid (HC6.out.next hb7)
    clear HC6 hb7 H7 x0 x1 x2
    go_wp2_with fail
    refine (HL _ (HK.out.next HC7.out.below)).out.mono ?_
    rintro _ w8 ⟨rfl, hb8⟩
    have HB8 := Lib.hid (HC7.out.below.trans (hb8.mono HC7.out.below.size))
    clear hb8
    go_wp2
    go_ret
    exact ⟨rfl, HB8.out⟩
  · have hz' : ((cp : Int) != 0) = true := by simpa using hz
    have hsb := HS2.out hz
    subst hsb
    clear HRp HS1 HS2 hz
    go_wp2_with fail
    refine (HL _ (HK.out.next HC6.out.below)).out.mono ?_
    rintro _ w8 ⟨rfl, hb8⟩
    have HB8 := Lib.hid (HC6.out.below.trans (hb8.mono HC6.out.below.size))
    clear hb8
    go_wp2
    go_ret
    exact ⟨rfl, HB8.out⟩
end Go.Proofs.YtahejekcfgkiaaaGreatDoor.pgm

/-
  The last step of each statement: below the blocks that were there nothing has turned, so the arguments read as they did. No condition.
-/
namespace Go.Proofs.YtahejekcfgkiaaaGreatDoor.shut
open Go.ChangeShapes Go.WideShapes Go.RowKit
set_option linter.unusedVariables false

theorem laidOut : laidOutB Tryz.prog = true := by kernel_rfl
theorem own : ownKnob Tryz.prog.godebug = none := by kernel_rfl

section
variable {H : Type} {enc : TypeId × Value → H} {P : Program}
/-- What 'post' asks, where of the call's world only this is known: below the old size no block has turned. -/
theorem post_below {f : Func} {s : ChangeSpec} {apart fresh handsOn again : Bool} {W W' : World} {args : Array Value} {v : Value} {ds gs : List (DataW H)} {before pa pv : List MemPlace}
    (hW : DataW.Whole enc P f.params.toList s.vars apart W args.toList ds gs before)
    (hres : ∀ (b : Nat) (sp : Nat → Bool) (hd : Bool), DataW.TrodAll enc P W' b sp hd f.resultTypes.toList (v.resultList f.resultTypes.size) (s.fn H (ds ++ gs)).results [])
    (hargs : ∀ sp : Nat → Bool, (∀ p ∈ before, sp p.block = true) → DataW.TrodAll enc P W' 0 sp true f.params.toList args.toList (s.fn H (ds ++ gs)).args pa)
    (hvars : ∀ sp : Nat → Bool, (∀ p ∈ before, sp p.block = true) → DataW.TrodVars enc P W' sp s.vars (s.fn H (ds ++ gs)).vars pv)
    (hps : before = pa ++ pv) (hb : Below W.heap.size W W')
    (hok : ∀ (j : Nat) (t : TypeId) (r : Value), f.resultTypes[j]? = some t → (v.resultList f.resultTypes.size)[j]? = some r → Value.okWide P W' .any 0 t r) :
    s.post enc P f apart fresh handsOn again W args v W' := by
  have hlt : ∀ p ∈ before, p.block < W.heap.size := fun p hp => hW.lt p hp
  have hold : ∀ p ∈ before, (fun b => decide (b < W.heap.size)) p.block = true := fun p hp => by simpa using hlt p hp
  refine ⟨ds, gs, before, [], pa, pv, hW, hres _ _ _, hargs _ hold, hvars _ hold, World.keptBut_mono (fun p hp => ⟨hp, ?_⟩) (hb.frame (· ∈ before)), fun _ => ?_⟩
  · rw [hps, List.mem_append] at hp
    exact Or.inr hp
  · obtain ⟨_, _, _, _, _, hz, hn⟩ := hW
    refine ⟨hok, _, _, ([] ++ pa) ++ pv, ⟨[] ++ pa, pv, trodAll_append (hargs _ (fun _ _ => rfl)) (hres _ _ _), hvars _ (fun _ _ => rfl), rfl, ?_, ?_⟩, ?_⟩
    · intro b off hp
      have hin : MemPlace.cell b off ∈ before := by rw [hps]; simpa using hp
      rw [hb.frozen (hlt _ hin)]
      exact hz b off hin
    · intro ha
      have := hn ha
      rw [hps] at this
      simpa using this
    · intro p hp _
      rw [hps]
      simpa using hp
end
/-- AN ARRAY OF TEXTS THAT READS AS A LIST HOLDS THESE TEXTS, CELL FOR CELL. -/
theorem cells_of_texts {H : Type} {enc : TypeId × Value → H} {P : Program} {w : World} {base : Nat} {sp : Nat → Bool} {held : Bool} {fuel : Nat} {t e : TypeId} {n : Nat} {cs : List Value} {zs : List ByteArray} {p : List MemPlace}
    (ht : P.underlying t = some (.array n e)) (he : P.underlying e = some .string) (hce : P.cellsOf e = 1) (hct : P.cellsOf t = n)
    (h : DataW.trod enc P w base sp held fuel t cs = some (.agg (zs.map fun z => .lit (.string z.data.toList)), p)) : cs = zs.map fun z => Value.string z := by
  cases fuel with
  | zero => simp [DataW.trod] at h
  | succ fuel =>
    simp only [DataW.trod, ht, hce, hct, Nat.mul_one] at h
    split at h
    · rename_i hl
      obtain ⟨xs, hm, hx⟩ := Option.map_eq_some_iff.1 h
      have hxs : xs.map (·.1) = zs.map fun z => (DataW.lit (.string z.data.toList) : DataW H) := by
        have := congrArg Prod.fst hx
        simpa using this
      have hxl : xs.length = n := by simpa using Lib.mapM_length hm
      have hzl : zs.length = n := by
        have := congrArg List.length hxs
        simp at this
        omega
      apply List.ext_getElem?
      intro i
      by_cases hi : i < n
      · obtain ⟨b, hb, hf⟩ := Lib.mapM_at hm i i (by simp [hi])
        obtain ⟨z, hc, rfl, _⟩ := DataW.trod_string he hf
        have h1 : cs[i]? = some (.string z) := by
          have := congrArg (·[0]?) hc
          simpa [List.getElem?_take, List.getElem?_drop] using this
        have h2 : (xs.map (·.1))[i]? = some (DataW.lit (.string z.data.toList) : DataW H) := by simp [hb]
        rw [hxs] at h2
        simp only [List.getElem?_map, Option.map_eq_some_iff, DataW.lit.injEq, Lit.string.injEq] at h2
        obtain ⟨z', hz', he'⟩ := h2
        rw [h1, List.getElem?_map, hz', Option.map_some, bytes_inj he']
      · rw [List.getElem?_eq_none (by omega), List.getElem?_eq_none (by simp; omega)]
    · cases h

end Go.Proofs.YtahejekcfgkiaaaGreatDoor.shut

/-
  A list of objects that came in, as it lies in memory. No condition.
-/
namespace Go.Proofs.YtahejekcfgkiaaaGreatDoor.objs
open Go.ChangeShapes Go.WideShapes Go.RowKit
set_option linter.unusedVariables false

theorem cells3i : Tryz.prog.cellsOf 3 = 1 := by kernel_rfl
theorem cellsDecl : Tryz.prog.cellsOf 44 = 3 := by kernel_rfl
theorem add_plain (b off i : Nat) : (⟨b, off, none⟩ : Addr).add i = ⟨b, off + i, none⟩ := Addr.add_lit ..
theorem i64_of {a : Int} (h : (Lit.int .i64 a).wf = true) : I64 a := by
  have hx : -9223372036854775808 ≤ a ∧ a ≤ 9223372036854775807 := by simpa [Lit.wf, IntKind.min, IntKind.max, IntKind.signed, IntKind.bits] using h
  exact hx

section
variable {H : Type} {enc : TypeId × Value → H} {w : World} {base : Nat} {spare : Nat → Bool} {held : Bool}

set_option maxRecDepth 100000 in
/-- One object, out of its three cells. -/
theorem one_decl {n : Nat} {cs : List Value} {y : DataW H × List MemPlace} (h : DataW.trod enc Tryz.prog w base spare held n 44 cs = some y) :
    ∃ o : De, cs = [.int .i64 o.1, .int .i64 o.2.1, .int .i64 o.2.2] ∧ I64 o.1 ∧ I64 o.2.1 ∧ I64 o.2.2 := by
  obtain ⟨xs, m, _, hy, hlen, hxl, hf⟩ := DataW.trod_struct Tryz.underlying44 h
  rw [cellsDecl] at hlen
  match cs, hlen with
  | [v0, v1, v2], _ =>
    match xs, hxl with
    | [y0, y1, y2], _ =>
      have f0 : DataW.trod enc Tryz.prog w base spare held m 3 [v0] = some y0 := by simpa [cells3i] using hf 0 _ rfl
      have f1 : DataW.trod enc Tryz.prog w base spare held m 3 [v1] = some y1 := by simpa [cells3i] using hf 1 _ rfl
      have f2 : DataW.trod enc Tryz.prog w base spare held m 3 [v2] = some y2 := by simpa [cells3i] using hf 2 _ rfl
      obtain ⟨k, e0, _, w0⟩ := DataW.trod_int Tryz.underlying3 f0
      obtain ⟨i, e1, _, w1⟩ := DataW.trod_int Tryz.underlying3 f1
      obtain ⟨j, e2, _, w2⟩ := DataW.trod_int Tryz.underlying3 f2
      refine ⟨(k, i, j), ?_, i64_of w0, i64_of w1, i64_of w2⟩
      simp only [List.cons.injEq, and_true] at e0 e1 e2
      rw [e0, e1, e2]

/-- A list of objects: nil, or its objects in their order, each where it lies; of a long one the first hundred. -/
theorem open_decls {fuel : Nat} {cs : List Value} {x : DataW H × List MemPlace} (hlt : ∀ p ∈ x.2, p.block < w.heap.size) (h : DataW.trod enc Tryz.prog w base spare held fuel 22 cs = some x) :
    ∃ (A : Option Addr) (n cap : Nat) (l : List De), cs = [.slice A n cap] ∧ LIn w A n cap l := by
  rcases Go.Deep.open_slice Tryz.underlying22 h with h0 | ⟨a, len, cap, m, n, D, Pl, hcs, hb, hl, hm, hmm, hx, hi⟩
  · exact ⟨none, 0, 0, [], h0.1, fun _ => ⟨rfl, rfl⟩, Nat.le_refl _, by omega, DAt.nil _ _, fun j hj => absurd hj (Nat.not_lt_zero j), rfl⟩
  · have hm' : cap ≤ 9223372036854775807 := by simpa [maxLen] using hm
    have hlm : len ≤ m := by rw [hmm]; split <;> omega
    have each : ∀ i, ∃ o : De, i < len → w.cell? (a.add (i * 3)) = some (.int .i64 o.1) ∧ w.cell? (a.add (i * 3 + 1)) = some (.int .i64 o.2.1) ∧ w.cell? (a.add (i * 3 + 2)) = some (.int .i64 o.2.2) ∧ I64 o.1 ∧ I64 o.2.1 ∧ I64 o.2.2 := by
      intro i
      by_cases hil : i < len
      · obtain ⟨cs', hc, ht⟩ := hi i (by omega)
        obtain ⟨o, he, hwf⟩ := one_decl ht
        obtain ⟨_, _, hat⟩ := World.cells?_some hc
        rw [cellsDecl] at hat
        subst he
        have a0 := hat 0 (by omega)
        have a1 := hat 1 (by omega)
        have a2 := hat 2 (by omega)
        rw [Go.Deep.add_add] at a0 a1 a2
        exact ⟨o, fun _ => ⟨a0, a1, a2, hwf⟩⟩
      · exact ⟨zero, fun hh => absurd hh hil⟩
    obtain ⟨ops, hall⟩ : ∃ ops : Nat → De, ∀ i, i < len → w.cell? (a.add (i * 3)) = some (.int .i64 (ops i).1) ∧ w.cell? (a.add (i * 3 + 1)) = some (.int .i64 (ops i).2.1) ∧ w.cell? (a.add (i * 3 + 2)) = some (.int .i64 (ops i).2.2) ∧ I64 (ops i).1 ∧ I64 (ops i).2.1 ∧ I64 (ops i).2.2 :=
      ⟨fun i => Classical.choose (each i), fun i hil => Classical.choose_spec (each i) hil⟩
    have hget : ∀ j, j < min len 100 → ((List.range (min len 100)).map ops).getD j zero = ops j := fun j hj => by
      rw [List.getD_eq_getElem?_getD, List.getElem?_map, List.getElem?_range hj]
      rfl
    have hlen : ((List.range (min len 100)).map ops).length = min len 100 := by simp
    refine ⟨some a, len, cap, (List.range (min len 100)).map ops, hcs, fun h => (by cases h), hl, hm', fun j hj => ?_, fun j hj => ?_, hlen⟩
    · rw [hlen] at hj
      have hbl : a.block < w.heap.size := by
        refine hlt (.cell a.block a.off) ?_
        rw [hx]
        exact List.mem_append_left _ (MemPlace.mem_row.2 ⟨0, by rw [cellsDecl]; omega, by simp⟩)
      obtain ⟨b, off, spot⟩ := a
      have hspot : spot = none := by simpa [Addr.add] using World.cell?_spot (hall 0 (by omega)).1
      subst hspot
      obtain ⟨h0, h1, h2, _⟩ := hall j (by omega)
      rw [add_plain] at h0 h1 h2
      rw [hget j hj]
      refine ⟨b, off, rfl, hbl, h0, ?_, ?_⟩
      · rw [Nat.add_assoc]; exact h1
      · rw [Nat.add_assoc]; exact h2
    · rw [hlen] at hj
      rw [hget j hj]
      exact (hall j (by omega)).2.2.2
end
end Go.Proofs.YtahejekcfgkiaaaGreatDoor.objs

/-
  A wait that came in, as it lies in memory: of its ways the first six, of each of them the first six needs. No condition.
-/
namespace Go.Proofs.YtahejekcfgkiaaaGreatDoor.need
open Go.ChangeShapes Go.WideShapes Go.RowKit
open Go.Proofs.YtahejekcfgkiaaaGreatDoor.objs (De zero DAt I64 cells3i i64_of)
set_option linter.unusedVariables false

theorem cellsNeed : Tryz.prog.cellsOf 93 = 3 := by kernel_rfl
theorem cellsRow : Tryz.prog.cellsOf 89 = 1 := by kernel_rfl

section
variable {H : Type} {enc : TypeId × Value → H} {w : World} {base : Nat} {spare : Nat → Bool} {held : Bool}

set_option maxRecDepth 100000 in
/-- One need, out of its three cells. -/
theorem one_need {n : Nat} {cs : List Value} {y : DataW H × List MemPlace} (h : DataW.trod enc Tryz.prog w base spare held n 93 cs = some y) :
    ∃ o : De, cs = [.int .i64 o.1, .int .i64 o.2.1, .int .i64 o.2.2] ∧ I64 o.1 ∧ I64 o.2.1 ∧ I64 o.2.2 := by
  obtain ⟨xs, m, _, hy, hlen, hxl, hf⟩ := DataW.trod_struct Tryz.underlying93 h
  rw [cellsNeed] at hlen
  match cs, hlen with
  | [v0, v1, v2], _ =>
    match xs, hxl with
    | [y0, y1, y2], _ =>
      have f0 : DataW.trod enc Tryz.prog w base spare held m 3 [v0] = some y0 := by simpa [cells3i] using hf 0 _ rfl
      have f1 : DataW.trod enc Tryz.prog w base spare held m 3 [v1] = some y1 := by simpa [cells3i] using hf 1 _ rfl
      have f2 : DataW.trod enc Tryz.prog w base spare held m 3 [v2] = some y2 := by simpa [cells3i] using hf 2 _ rfl
      obtain ⟨k, e0, _, w0⟩ := DataW.trod_int Tryz.underlying3 f0
      obtain ⟨i, e1, _, w1⟩ := DataW.trod_int Tryz.underlying3 f1
      obtain ⟨j, e2, _, w2⟩ := DataW.trod_int Tryz.underlying3 f2
      refine ⟨(k, i, j), ?_, i64_of w0, i64_of w1, i64_of w2⟩
      simp only [List.cons.injEq, and_true] at e0 e1 e2
      rw [e0, e1, e2]

/-- A list of needs: nil, or its needs in their order, each where it lies; of a long one the first six. -/
theorem open_needs {fuel : Nat} {cs : List Value} {x : DataW H × List MemPlace} (hlt : ∀ p ∈ x.2, p.block < w.heap.size) (h : DataW.trod enc Tryz.prog w base spare held fuel 89 cs = some x) :
    ∃ (A : Option Addr) (n cap : Nat) (l : List De), cs = [.slice A n cap] ∧ (A = none → n = 0 ∧ cap = 0) ∧ n ≤ cap ∧ cap ≤ 9223372036854775807 ∧ DAt w A l ∧ (∀ t ∈ l, Small t) ∧ l.length = min n 6 := by
  rcases Go.Deep.open_slice Tryz.underlying89 h with h0 | ⟨a, len, cap, m, n, D, Pl, hcs, hb, hl, hm, hmm, hx, hi⟩
  · exact ⟨none, 0, 0, [], h0.1, fun _ => ⟨rfl, rfl⟩, Nat.le_refl _, by omega, DAt.nil _ _, fun t ht => (by cases ht), rfl⟩
  · have hm' : cap ≤ 9223372036854775807 := by simpa [maxLen] using hm
    have hlm : len ≤ m := by rw [hmm]; split <;> omega
    have each : ∀ i, ∃ o : De, i < len → w.cell? (a.add (i * 3)) = some (.int .i64 o.1) ∧ w.cell? (a.add (i * 3 + 1)) = some (.int .i64 o.2.1) ∧ w.cell? (a.add (i * 3 + 2)) = some (.int .i64 o.2.2) ∧ I64 o.1 ∧ I64 o.2.1 ∧ I64 o.2.2 := by
      intro i
      by_cases hil : i < len
      · obtain ⟨cs', hc, ht⟩ := hi i (by omega)
        obtain ⟨o, he, hwf⟩ := one_need ht
        obtain ⟨_, _, hat⟩ := World.cells?_some hc
        rw [cellsNeed] at hat
        subst he
        have a0 := hat 0 (by omega)
        have a1 := hat 1 (by omega)
        have a2 := hat 2 (by omega)
        rw [Go.Deep.add_add] at a0 a1 a2
        exact ⟨o, fun _ => ⟨a0, a1, a2, hwf⟩⟩
      · exact ⟨zero, fun hh => absurd hh hil⟩
    obtain ⟨ops, hall⟩ : ∃ ops : Nat → De, ∀ i, i < len → w.cell? (a.add (i * 3)) = some (.int .i64 (ops i).1) ∧ w.cell? (a.add (i * 3 + 1)) = some (.int .i64 (ops i).2.1) ∧ w.cell? (a.add (i * 3 + 2)) = some (.int .i64 (ops i).2.2) ∧ I64 (ops i).1 ∧ I64 (ops i).2.1 ∧ I64 (ops i).2.2 :=
      ⟨fun i => Classical.choose (each i), fun i hil => Classical.choose_spec (each i) hil⟩
    have hget : ∀ j, j < min len 6 → ((List.range (min len 6)).map ops).getD j zero = ops j := fun j hj => by
      rw [List.getD_eq_getElem?_getD, List.getElem?_map, List.getElem?_range hj]
      rfl
    have hlen : ((List.range (min len 6)).map ops).length = min len 6 := by simp
    refine ⟨some a, len, cap, (List.range (min len 6)).map ops, hcs, fun h => (by cases h), hl, hm', fun j hj => ?_, fun t ht => ?_, hlen⟩
    · rw [hlen] at hj
      have hbl : a.block < w.heap.size := by
        refine hlt (.cell a.block a.off) ?_
        rw [hx]
        exact List.mem_append_left _ (MemPlace.mem_row.2 ⟨0, by rw [cellsNeed]; omega, by simp⟩)
      obtain ⟨b, off, spot⟩ := a
      have hspot : spot = none := by simpa [Addr.add] using World.cell?_spot (hall 0 (by omega)).1
      subst hspot
      obtain ⟨h0, h1, h2, _⟩ := hall j (by omega)
      rw [add_plain] at h0 h1 h2
      rw [hget j hj]
      refine ⟨b, off, rfl, hbl, h0, ?_, ?_⟩
      · rw [Nat.add_assoc]; exact h1
      · rw [Nat.add_assoc]; exact h2
    · obtain ⟨j, hj, rfl⟩ := List.mem_map.1 ht
      have hj2 := List.mem_range.1 hj
      exact (hall j (by omega)).2.2.2

/-- A list of ways: nil, or its ways in their order, each where it lies; of a long one the first six. -/
theorem open_wait {fuel : Nat} {cs : List Value} {x : DataW H × List MemPlace} (hlt : ∀ p ∈ x.2, p.block < w.heap.size) (h : DataW.trod enc Tryz.prog w base spare held fuel 45 cs = some x) :
    ∃ (A : Option Addr) (n cap : Nat) (l : List (List De)), cs = [.slice A n cap] ∧ WIn w A n cap l := by
  rcases Go.Deep.open_slice1 Tryz.underlying45 cellsRow h with h0 | ⟨a, len, cap, m, n, V, D, Pl, hcs, hb, hl, hm, hmm, hx, hi⟩
  · exact ⟨none, 0, 0, [], h0.1, fun _ => ⟨rfl, rfl⟩, Nat.le_refl _, by omega, ⟨rfl, fun j hj => absurd hj (Nat.not_lt_zero j)⟩, fun x hx => (by cases hx)⟩
  · have hm' : cap ≤ 9223372036854775807 := by simpa [maxLen] using hm
    have hlm : len ≤ m := by rw [hmm]; split <;> omega
    have each : ∀ i, ∃ y : Option Addr × Nat × Nat × List De, i < len → w.cell? (a.add i) = some (.slice y.1 y.2.1 y.2.2.1) ∧ (y.1 = none → y.2.1 = 0 ∧ y.2.2.1 = 0) ∧ y.2.1 ≤ y.2.2.1 ∧ y.2.2.1 ≤ 9223372036854775807 ∧ DAt w y.1 y.2.2.2 ∧ (∀ t ∈ y.2.2.2, Small t) ∧ y.2.2.2.length = min y.2.1 6 := by
      intro i
      by_cases hil : i < len
      · obtain ⟨hc, ht⟩ := hi i (by omega)
        have hlt2 : ∀ p ∈ (D i, Pl i).2, p.block < w.heap.size := fun p hp => by
          refine hlt p ?_
          rw [hx]
          exact List.mem_append_right _ (List.mem_flatMap.2 ⟨i, List.mem_range.2 (by omega), hp⟩)
        obtain ⟨A, n1, c1, l1, hv, h1, h2, h3, h4, h5, h6⟩ := open_needs hlt2 ht
        have hv2 : V i = .slice A n1 c1 := by simpa using hv
        exact ⟨(A, n1, c1, l1), fun _ => ⟨by rw [hc, hv2], h1, h2, h3, h4, h5, h6⟩⟩
      · exact ⟨(none, 0, 0, []), fun hh => absurd hh hil⟩
    obtain ⟨ys, hall⟩ : ∃ ys : Nat → Option Addr × Nat × Nat × List De, ∀ i, i < len → w.cell? (a.add i) = some (.slice (ys i).1 (ys i).2.1 (ys i).2.2.1) ∧ ((ys i).1 = none → (ys i).2.1 = 0 ∧ (ys i).2.2.1 = 0) ∧ (ys i).2.1 ≤ (ys i).2.2.1 ∧ (ys i).2.2.1 ≤ 9223372036854775807 ∧ DAt w (ys i).1 (ys i).2.2.2 ∧ (∀ t ∈ (ys i).2.2.2, Small t) ∧ (ys i).2.2.2.length = min (ys i).2.1 6 :=
      ⟨fun i => Classical.choose (each i), fun i hil => Classical.choose_spec (each i) hil⟩
    have hget : ∀ j, j < min len 6 → ((List.range (min len 6)).map fun i => (ys i).2.2.2).getD j [] = (ys j).2.2.2 := fun j hj => by
      rw [List.getD_eq_getElem?_getD, List.getElem?_map, List.getElem?_range hj]
      rfl
    have hlen : ((List.range (min len 6)).map fun i => (ys i).2.2.2).length = min len 6 := by simp
    refine ⟨some a, len, cap, (List.range (min len 6)).map fun i => (ys i).2.2.2, hcs, fun h => (by cases h), hl, hm', ⟨hlen, fun j hj => ?_⟩, fun t ht => ?_⟩
    · rw [hlen] at hj
      have hbl : a.block < w.heap.size := by
        refine hlt (.cell a.block a.off) ?_
        rw [hx]
        exact List.mem_append_left _ (MemPlace.mem_row.2 ⟨0, by omega, by simp⟩)
      obtain ⟨b, off, spot⟩ := a
      have hspot : spot = none := by simpa [Addr.add] using World.cell?_spot (hall 0 (by omega)).1
      subst hspot
      obtain ⟨h0, h1, h2, h3, h4, _, h6⟩ := hall j (by omega)
      rw [add_plain] at h0
      rw [hget j hj]
      exact ⟨b, off, (ys j).1, (ys j).2.1, (ys j).2.2.1, rfl, hbl, h0, h4, h6, h2, h3, h1⟩
    · obtain ⟨j, hj, rfl⟩ := List.mem_map.1 ht
      have hj2 := List.mem_range.1 hj
      exact (hall j (by omega)).2.2.2.2.2.1
end
end Go.Proofs.YtahejekcfgkiaaaGreatDoor.need

/-
  A program that came in, as it lies in memory: its first forty objects and waits, its first twenty functions. No condition.
-/
namespace Go.Proofs.YtahejekcfgkiaaaGreatDoor.pgm
open Go.ChangeShapes Go.WideShapes Go.RowKit
open Go.Proofs.YtahejekcfgkiaaaGreatDoor.objs (De zero DAt I64 cells3i LIn open_decls CellsAt)
open Go.Proofs.YtahejekcfgkiaaaGreatDoor.need (WG WIn open_wait)
set_option linter.unusedVariables false

theorem cellsIns : Tryz.prog.cellsOf 51 = 3 := by kernel_rfl
theorem cellsFn : Tryz.prog.cellsOf 49 = 3 := by kernel_rfl
theorem cellsPg : Tryz.prog.cellsOf 26 = 3 := by kernel_rfl
theorem cellsCode : Tryz.prog.cellsOf 47 = 1 := by kernel_rfl
theorem cellsWait : Tryz.prog.cellsOf 45 = 1 := by kernel_rfl
theorem cellsDs : Tryz.prog.cellsOf 22 = 1 := by kernel_rfl
theorem cellsWs : Tryz.prog.cellsOf 23 = 1 := by kernel_rfl
theorem cellsFs : Tryz.prog.cellsOf 24 = 1 := by kernel_rfl

section
variable {H : Type} {enc : TypeId × Value → H} {w : World} {base : Nat} {spare : Nat → Bool} {held : Bool}

set_option maxRecDepth 100000 in
/-- One instruction, out of its three cells. -/
theorem one_ins {n : Nat} {cs : List Value} {y : DataW H × List MemPlace} (h : DataW.trod enc Tryz.prog w base spare held n 51 cs = some y) :
    ∃ o : De, cs = [.int .i64 o.1, .int .i64 o.2.1, .int .i64 o.2.2] := by
  obtain ⟨xs, m, _, hy, hlen, hxl, hf⟩ := DataW.trod_struct Tryz.underlying51 h
  rw [cellsIns] at hlen
  match cs, hlen with
  | [v0, v1, v2], _ =>
    match xs, hxl with
    | [y0, y1, y2], _ =>
      have f0 : DataW.trod enc Tryz.prog w base spare held m 3 [v0] = some y0 := by simpa [cells3i] using hf 0 _ rfl
      have f1 : DataW.trod enc Tryz.prog w base spare held m 3 [v1] = some y1 := by simpa [cells3i] using hf 1 _ rfl
      have f2 : DataW.trod enc Tryz.prog w base spare held m 3 [v2] = some y2 := by simpa [cells3i] using hf 2 _ rfl
      obtain ⟨k, e0, _, _⟩ := DataW.trod_int Tryz.underlying3 f0
      obtain ⟨i, e1, _, _⟩ := DataW.trod_int Tryz.underlying3 f1
      obtain ⟨j, e2, _, _⟩ := DataW.trod_int Tryz.underlying3 f2
      refine ⟨(k, i, j), ?_⟩
      simp only [List.cons.injEq, and_true] at e0 e1 e2
      rw [e0, e1, e2]
/-- A list of instructions: nil, or its instructions in their order; of a long one the first 250. -/
theorem open_code {fuel : Nat} {cs : List Value} {x : DataW H × List MemPlace} (hlt : ∀ p ∈ x.2, p.block < w.heap.size) (h : DataW.trod enc Tryz.prog w base spare held fuel 47 cs = some x) :
    ∃ (A : Option Addr) (n cap : Nat) (l : List De), cs = [.slice A n cap] ∧ (A = none → n = 0 ∧ cap = 0) ∧ n ≤ cap ∧ cap ≤ 9223372036854775807 ∧ DAt w A l ∧ l.length = min n 250 := by
  rcases Go.Deep.open_slice Tryz.underlying47 h with h0 | ⟨a, len, cap, m, n, D, Pl, hcs, hb, hl, hm, hmm, hx, hi⟩
  · exact ⟨none, 0, 0, [], h0.1, fun _ => ⟨rfl, rfl⟩, Nat.le_refl _, by omega, DAt.nil _ _, rfl⟩
  · have hm' : cap ≤ 9223372036854775807 := by simpa [maxLen] using hm
    have hlm : len ≤ m := by rw [hmm]; split <;> omega
    have each : ∀ i, ∃ o : De, i < len → w.cell? (a.add (i * 3)) = some (.int .i64 o.1) ∧ w.cell? (a.add (i * 3 + 1)) = some (.int .i64 o.2.1) ∧ w.cell? (a.add (i * 3 + 2)) = some (.int .i64 o.2.2) := by
      intro i
      by_cases hil : i < len
      · obtain ⟨cs', hc, ht⟩ := hi i (by omega)
        obtain ⟨o, he⟩ := one_ins ht
        obtain ⟨_, _, hat⟩ := World.cells?_some hc
        rw [cellsIns] at hat
        subst he
        have a0 := hat 0 (by omega)
        have a1 := hat 1 (by omega)
        have a2 := hat 2 (by omega)
        rw [Go.Deep.add_add] at a0 a1 a2
        exact ⟨o, fun _ => ⟨a0, a1, a2⟩⟩
      · exact ⟨zero, fun hh => absurd hh hil⟩
    obtain ⟨ops, hall⟩ : ∃ ops : Nat → De, ∀ i, i < len → w.cell? (a.add (i * 3)) = some (.int .i64 (ops i).1) ∧ w.cell? (a.add (i * 3 + 1)) = some (.int .i64 (ops i).2.1) ∧ w.cell? (a.add (i * 3 + 2)) = some (.int .i64 (ops i).2.2) :=
      ⟨fun i => Classical.choose (each i), fun i hil => Classical.choose_spec (each i) hil⟩
    have hget : ∀ j, j < min len 250 → ((List.range (min len 250)).map ops).getD j zero = ops j := fun j hj => by
      rw [List.getD_eq_getElem?_getD, List.getElem?_map, List.getElem?_range hj]
      rfl
    have hlen : ((List.range (min len 250)).map ops).length = min len 250 := by simp
    refine ⟨some a, len, cap, (List.range (min len 250)).map ops, hcs, fun h => (by cases h), hl, hm', fun j hj => ?_, hlen⟩
    rw [hlen] at hj
    have hbl : a.block < w.heap.size := by
      refine hlt (.cell a.block a.off) ?_
      rw [hx]
      exact List.mem_append_left _ (MemPlace.mem_row.2 ⟨0, by rw [cellsIns]; omega, by simp⟩)
    obtain ⟨b, off, spot⟩ := a
    have hspot : spot = none := by simpa [Addr.add] using World.cell?_spot (hall 0 (by omega)).1
    subst hspot
    obtain ⟨h0, h1, h2⟩ := hall j (by omega)
    rw [add_plain] at h0 h1 h2
    rw [hget j hj]
    refine ⟨b, off, rfl, hbl, h0, ?_, ?_⟩
    · rw [Nat.add_assoc]; exact h1
    · rw [Nat.add_assoc]; exact h2

set_option maxRecDepth 100000 in
/-- One function, out of its three cells. -/
theorem one_fn {n : Nat} {cs : List Value} {y : DataW H × List MemPlace} (hlt : ∀ p ∈ y.2, p.block < w.heap.size) (h : DataW.trod enc Tryz.prog w base spare held n 49 cs = some y) :
    ∃ (ar lo : Int) (A : Option Addr) (n cap : Nat) (l : List De), cs = [.int .i64 ar, .int .i64 lo, .slice A n cap] ∧ (A = none → n = 0 ∧ cap = 0) ∧ n ≤ cap ∧ cap ≤ 9223372036854775807 ∧ DAt w A l ∧ l.length = min n 250 := by
  obtain ⟨xs, m, _, hy, hlen, hxl, hf⟩ := DataW.trod_struct Tryz.underlying49 h
  rw [cellsFn] at hlen
  match cs, hlen with
  | [v0, v1, v2], _ =>
    match xs, hxl with
    | [y0, y1, y2], _ =>
      have f0 : DataW.trod enc Tryz.prog w base spare held m 3 [v0] = some y0 := by simpa [cells3i] using hf 0 _ rfl
      have f1 : DataW.trod enc Tryz.prog w base spare held m 3 [v1] = some y1 := by simpa [cells3i] using hf 1 _ rfl
      have f2 : DataW.trod enc Tryz.prog w base spare held m 47 [v2] = some y2 := by simpa [cellsCode] using hf 2 _ rfl
      obtain ⟨k, e0, _, _⟩ := DataW.trod_int Tryz.underlying3 f0
      obtain ⟨i, e1, _, _⟩ := DataW.trod_int Tryz.underlying3 f1
      obtain ⟨A, n2, cap, l, e2, r⟩ := open_code (fun p hp => hlt p (by rw [hy]; simp [hp])) f2
      refine ⟨k, i, A, n2, cap, l, ?_, r⟩
      simp only [List.cons.injEq, and_true] at e0 e1 e2
      rw [e0, e1, e2]
/-- A list of functions: nil, or its functions in their order; of a long one the first twenty. -/
theorem open_funcs {fuel : Nat} {cs : List Value} {x : DataW H × List MemPlace} (hlt : ∀ p ∈ x.2, p.block < w.heap.size) (h : DataW.trod enc Tryz.prog w base spare held fuel 24 cs = some x) :
    ∃ (A : Option Addr) (n cap : Nat) (l : List Fn), cs = [.slice A n cap] ∧ (A = none → n = 0 ∧ cap = 0) ∧ n ≤ cap ∧ cap ≤ 9223372036854775807 ∧ FsG w A n l := by
  rcases Go.Deep.open_slice Tryz.underlying24 h with h0 | ⟨a, len, cap, m, n, D, Pl, hcs, hb, hl, hm, hmm, hx, hi⟩
  · exact ⟨none, 0, 0, [], h0.1, fun _ => ⟨rfl, rfl⟩, Nat.le_refl _, by omega, rfl, fun j hj => absurd hj (Nat.not_lt_zero j)⟩
  · have hm' : cap ≤ 9223372036854775807 := by simpa [maxLen] using hm
    have hlm : len ≤ m := by rw [hmm]; split <;> omega
    have each : ∀ i, ∃ y : Fn × Option Addr × Nat × Nat, i < len → w.cell? (a.add (i * 3)) = some (.int .i64 y.1.ar) ∧ w.cell? (a.add (i * 3 + 1)) = some (.int .i64 y.1.lo) ∧ w.cell? (a.add (i * 3 + 2)) = some (.slice y.2.1 y.2.2.1 y.2.2.2) ∧ (y.2.1 = none → y.2.2.1 = 0 ∧ y.2.2.2 = 0) ∧ y.2.2.1 ≤ y.2.2.2 ∧ y.2.2.2 ≤ 9223372036854775807 ∧ DAt w y.2.1 y.1.co ∧ y.1.co.length = min y.2.2.1 250 := by
      intro i
      by_cases hil : i < len
      · obtain ⟨cs', hc, ht⟩ := hi i (by omega)
        have hlt2 : ∀ p ∈ (D i, Pl i).2, p.block < w.heap.size := fun p hp => by
          refine hlt p ?_
          rw [hx]
          exact List.mem_append_right _ (List.mem_flatMap.2 ⟨i, List.mem_range.2 (by omega), hp⟩)
        obtain ⟨ar, lo, A, n1, c1, l1, hv, r⟩ := one_fn hlt2 ht
        obtain ⟨_, _, hat⟩ := World.cells?_some hc
        rw [cellsFn] at hat
        subst hv
        have a0 := hat 0 (by omega)
        have a1 := hat 1 (by omega)
        have a2 := hat 2 (by omega)
        rw [Go.Deep.add_add] at a0 a1 a2
        exact ⟨(⟨ar, lo, l1⟩, A, n1, c1), fun _ => ⟨a0, a1, a2, r⟩⟩
      · exact ⟨(Fn.zero, none, 0, 0), fun hh => absurd hh hil⟩
    obtain ⟨ys, hall⟩ : ∃ ys : Nat → Fn × Option Addr × Nat × Nat, ∀ i, i < len → w.cell? (a.add (i * 3)) = some (.int .i64 (ys i).1.ar) ∧ w.cell? (a.add (i * 3 + 1)) = some (.int .i64 (ys i).1.lo) ∧ w.cell? (a.add (i * 3 + 2)) = some (.slice (ys i).2.1 (ys i).2.2.1 (ys i).2.2.2) ∧ ((ys i).2.1 = none → (ys i).2.2.1 = 0 ∧ (ys i).2.2.2 = 0) ∧ (ys i).2.2.1 ≤ (ys i).2.2.2 ∧ (ys i).2.2.2 ≤ 9223372036854775807 ∧ DAt w (ys i).2.1 (ys i).1.co ∧ (ys i).1.co.length = min (ys i).2.2.1 250 :=
      ⟨fun i => Classical.choose (each i), fun i hil => Classical.choose_spec (each i) hil⟩
    have hget : ∀ j, j < min len 20 → ((List.range (min len 20)).map fun i => (ys i).1).getD j Fn.zero = (ys j).1 := fun j hj => by
      rw [List.getD_eq_getElem?_getD, List.getElem?_map, List.getElem?_range hj]
      rfl
    have hlen : ((List.range (min len 20)).map fun i => (ys i).1).length = min len 20 := by simp
    refine ⟨some a, len, cap, (List.range (min len 20)).map fun i => (ys i).1, hcs, fun h => (by cases h), hl, hm', hlen, fun j hj => ?_⟩
    rw [hlen] at hj
    have hbl : a.block < w.heap.size := by
      refine hlt (.cell a.block a.off) ?_
      rw [hx]
      exact List.mem_append_left _ (MemPlace.mem_row.2 ⟨0, by rw [cellsFn]; omega, by simp⟩)
    obtain ⟨b, off, spot⟩ := a
    have hspot : spot = none := by simpa [Addr.add] using World.cell?_spot (hall 0 (by omega)).1
    subst hspot
    obtain ⟨h0, h1, h2, h3, h4, h5, h6, h7⟩ := hall j (by omega)
    rw [add_plain] at h0 h1 h2
    rw [hget j hj]
    refine ⟨b, off, (ys j).2.1, (ys j).2.2.1, (ys j).2.2.2, rfl, hbl, ⟨h0, ?_, ?_⟩, h6, h7, h4, h5, h3⟩
    · rw [Nat.add_assoc]; exact h1
    · rw [Nat.add_assoc]; exact h2
/-- A list of waits: nil, or its waits in their order; of a long one the first forty. -/
theorem open_waits {fuel : Nat} {cs : List Value} {x : DataW H × List MemPlace} (hlt : ∀ p ∈ x.2, p.block < w.heap.size) (h : DataW.trod enc Tryz.prog w base spare held fuel 23 cs = some x) :
    ∃ (A : Option Addr) (n cap : Nat) (l : List (List (List De))), cs = [.slice A n cap] ∧ (A = none → n = 0 ∧ cap = 0) ∧ n ≤ cap ∧ cap ≤ 9223372036854775807 ∧ WsG w A n l := by
  rcases Go.Deep.open_slice1 Tryz.underlying23 cellsWait h with h0 | ⟨a, len, cap, m, n, V, D, Pl, hcs, hb, hl, hm, hmm, hx, hi⟩
  · exact ⟨none, 0, 0, [], h0.1, fun _ => ⟨rfl, rfl⟩, Nat.le_refl _, by omega, rfl, fun j hj => absurd hj (Nat.not_lt_zero j)⟩
  · have hm' : cap ≤ 9223372036854775807 := by simpa [maxLen] using hm
    have hlm : len ≤ m := by rw [hmm]; split <;> omega
    have each : ∀ i, ∃ y : Option Addr × Nat × Nat × List (List De), i < len → w.cell? (a.add i) = some (.slice y.1 y.2.1 y.2.2.1) ∧ WIn w y.1 y.2.1 y.2.2.1 y.2.2.2 := by
      intro i
      by_cases hil : i < len
      · obtain ⟨hc, ht⟩ := hi i (by omega)
        have hlt2 : ∀ p ∈ (D i, Pl i).2, p.block < w.heap.size := fun p hp => by
          refine hlt p ?_
          rw [hx]
          exact List.mem_append_right _ (List.mem_flatMap.2 ⟨i, List.mem_range.2 (by omega), hp⟩)
        obtain ⟨A, n1, c1, l1, hv, r⟩ := open_wait hlt2 ht
        have hv2 : V i = .slice A n1 c1 := by simpa using hv
        exact ⟨(A, n1, c1, l1), fun _ => ⟨by rw [hc, hv2], r⟩⟩
      · exact ⟨(none, 0, 0, []), fun hh => absurd hh hil⟩
    obtain ⟨ys, hall⟩ : ∃ ys : Nat → Option Addr × Nat × Nat × List (List De), ∀ i, i < len → w.cell? (a.add i) = some (.slice (ys i).1 (ys i).2.1 (ys i).2.2.1) ∧ WIn w (ys i).1 (ys i).2.1 (ys i).2.2.1 (ys i).2.2.2 :=
      ⟨fun i => Classical.choose (each i), fun i hil => Classical.choose_spec (each i) hil⟩
    have hget : ∀ j, j < min len 40 → ((List.range (min len 40)).map fun i => (ys i).2.2.2).getD j [] = (ys j).2.2.2 := fun j hj => by
      rw [List.getD_eq_getElem?_getD, List.getElem?_map, List.getElem?_range hj]
      rfl
    have hlen : ((List.range (min len 40)).map fun i => (ys i).2.2.2).length = min len 40 := by simp
    refine ⟨some a, len, cap, (List.range (min len 40)).map fun i => (ys i).2.2.2, hcs, fun h => (by cases h), hl, hm', hlen, fun j hj => ?_⟩
    rw [hlen] at hj
    have hbl : a.block < w.heap.size := by
      refine hlt (.cell a.block a.off) ?_
      rw [hx]
      exact List.mem_append_left _ (MemPlace.mem_row.2 ⟨0, by omega, by simp⟩)
    obtain ⟨b, off, spot⟩ := a
    have hspot : spot = none := by simpa [Addr.add] using World.cell?_spot (hall 0 (by omega)).1
    subst hspot
    obtain ⟨h0, h1, h2, h3, h4, _⟩ := hall j (by omega)
    rw [add_plain] at h0
    rw [hget j hj]
    exact ⟨b, off, (ys j).1, (ys j).2.1, (ys j).2.2.1, rfl, hbl, h0, h4, h2, h3, h1⟩

set_option maxRecDepth 100000 in
/-- A program that came in. -/
theorem open_prog {n : Nat} {cs : List Value} {y : DataW H × List MemPlace} (hlt : ∀ p ∈ y.2, p.block < w.heap.size) (h : DataW.trod enc Tryz.prog w base spare held n 26 cs = some y) :
    ∃ (v0 v1 v2 : Value) (p : Pg), cs = [v0, v1, v2] ∧ PG w (.agg #[v0, v1, v2]) p := by
  obtain ⟨xs, m, _, hy, hlen, hxl, hf⟩ := DataW.trod_struct Tryz.underlying26 h
  rw [cellsPg] at hlen
  match cs, hlen with
  | [v0, v1, v2], _ =>
    match xs, hxl with
    | [y0, y1, y2], _ =>
      have f0 : DataW.trod enc Tryz.prog w base spare held m 22 [v0] = some y0 := by simpa [cellsDs] using hf 0 _ rfl
      have f1 : DataW.trod enc Tryz.prog w base spare held m 23 [v1] = some y1 := by simpa [cellsWs] using hf 1 _ rfl
      have f2 : DataW.trod enc Tryz.prog w base spare held m 24 [v2] = some y2 := by simpa [cellsFs] using hf 2 _ rfl
      obtain ⟨A, na, ca, ds, e0, a1, a2, a3, a4, _, a6⟩ := open_decls (fun p hp => hlt p (by rw [hy]; simp [hp])) f0
      obtain ⟨B, nb, cb, ws, e1, b1, b2, b3, b4⟩ := open_waits (fun p hp => hlt p (by rw [hy]; simp [hp])) f1
      obtain ⟨C, nc, cc, fs, e2, c1, c2, c3, c4⟩ := open_funcs (fun p hp => hlt p (by rw [hy]; simp [hp])) f2
      simp only [List.cons.injEq, and_true] at e0 e1 e2
      subst e0 e1 e2
      refine ⟨_, _, _, ⟨ds.take 40, ws, fs⟩, rfl, A, B, C, na, nb, nc, ca, cb, cc, rfl, ?_, fun j hj => ?_, b4, c4, a1, b1, c1, ⟨a2, a3⟩, ⟨b2, b3⟩, ⟨c2, c3⟩⟩
      · show (ds.take 40).length = min na 40
        rw [List.length_take]
        omega
      · have hj2 : j < (ds.take 40).length := hj
        rw [List.length_take] at hj2
        have e : (ds.take 40).getD j zero = ds.getD j zero := by
          rw [List.getD_eq_getElem?_getD, List.getD_eq_getElem?_getD, List.getElem?_take_of_lt (by omega)]
        show ∃ b off, A = some ⟨b, off, none⟩ ∧ b < w.heap.size ∧ CellsAt w b (off + j * 3) ((ds.take 40).getD j zero)
        rw [e]
        exact a4 j (by omega)
end
end Go.Proofs.YtahejekcfgkiaaaGreatDoor.pgm

/-
  The last step of each statement: below the blocks that were there nothing has turned, so the arguments read as they did; and what the row's condition on the table of names gives. No condition.
-/
namespace Go.Proofs.YtahejekcfgkiaaaGreatDoor.oper
open Go.RowKit Go.WideShapes Go.ChangeShapes

section
variable {H : Type} {enc : TypeId × Value → H} {P : Program}
/-- What 'post' asks, where of the call's world only this is known: below the old size no block has turned. -/
theorem post_below {f : Func} {s : ChangeSpec} {apart fresh handsOn again : Bool} {W W' : World} {args : Array Value} {v : Value} {ds gs : List (DataW H)} {before pa pv : List MemPlace}
    (hW : DataW.Whole enc P f.params.toList s.vars apart W args.toList ds gs before)
    (hres : ∀ (b : Nat) (sp : Nat → Bool) (hd : Bool), DataW.TrodAll enc P W' b sp hd f.resultTypes.toList (v.resultList f.resultTypes.size) (s.fn H (ds ++ gs)).results [])
    (hargs : ∀ sp : Nat → Bool, (∀ p ∈ before, sp p.block = true) → DataW.TrodAll enc P W' 0 sp true f.params.toList args.toList (s.fn H (ds ++ gs)).args pa)
    (hvars : ∀ sp : Nat → Bool, (∀ p ∈ before, sp p.block = true) → DataW.TrodVars enc P W' sp s.vars (s.fn H (ds ++ gs)).vars pv)
    (hps : before = pa ++ pv) (hb : Below W.heap.size W W')
    (hok : ∀ (j : Nat) (t : TypeId) (r : Value), f.resultTypes[j]? = some t → (v.resultList f.resultTypes.size)[j]? = some r → Value.okWide P W' .any 0 t r) :
    s.post enc P f apart fresh handsOn again W args v W' := by
  have hlt : ∀ p ∈ before, p.block < W.heap.size := fun p hp => hW.lt p hp
  have hold : ∀ p ∈ before, (fun b => decide (b < W.heap.size)) p.block = true := fun p hp => by simpa using hlt p hp
  refine ⟨ds, gs, before, [], pa, pv, hW, hres _ _ _, hargs _ hold, hvars _ hold, World.keptBut_mono (fun p hp => ⟨hp, ?_⟩) (hb.frame (· ∈ before)), fun _ => ?_⟩
  · rw [hps, List.mem_append] at hp
    exact Or.inr hp
  · obtain ⟨_, _, _, _, _, hz, hn⟩ := hW
    refine ⟨hok, _, _, ([] ++ pa) ++ pv, ⟨[] ++ pa, pv, trodAll_append (hargs _ (fun _ _ => rfl)) (hres _ _ _), hvars _ (fun _ _ => rfl), rfl, ?_, ?_⟩, ?_⟩
    · intro b off hp
      have hin : MemPlace.cell b off ∈ before := by rw [hps]; simpa using hp
      rw [hb.frozen (hlt _ hin)]
      exact hz b off hin
    · intro ha
      have := hn ha
      rw [hps] at this
      simpa using this
    · intro p hp _
      rw [hps]
      simpa using hp
end

theorem own : ownKnob Tryz.prog.godebug = none := by kernel_rfl

/-- AN ARRAY OF TEXTS THAT READS AS A LIST HOLDS THESE TEXTS, CELL FOR CELL. -/
theorem cells_of_texts {H : Type} {enc : TypeId × Value → H} {P : Program} {w : World} {base : Nat} {sp : Nat → Bool} {held : Bool} {fuel : Nat} {t e : TypeId} {n : Nat} {cs : List Value} {zs : List ByteArray} {p : List MemPlace}
    (ht : P.underlying t = some (.array n e)) (he : P.underlying e = some .string) (hce : P.cellsOf e = 1) (hct : P.cellsOf t = n)
    (h : DataW.trod enc P w base sp held fuel t cs = some (.agg (zs.map fun z => .lit (.string z.data.toList)), p)) : cs = zs.map fun z => Value.string z := by
  cases fuel with
  | zero => simp [DataW.trod] at h
  | succ fuel =>
    simp only [DataW.trod, ht, hce, hct, Nat.mul_one] at h
    split at h
    · rename_i hl
      obtain ⟨xs, hm, hx⟩ := Option.map_eq_some_iff.1 h
      have hxs : xs.map (·.1) = zs.map fun z => (DataW.lit (.string z.data.toList) : DataW H) := by
        have := congrArg Prod.fst hx
        simpa using this
      have hxl : xs.length = n := by simpa using Lib.mapM_length hm
      have hzl : zs.length = n := by
        have := congrArg List.length hxs
        simp at this
        omega
      apply List.ext_getElem?
      intro i
      by_cases hi : i < n
      · obtain ⟨b, hb, hf⟩ := Lib.mapM_at hm i i (by simp [hi])
        obtain ⟨z, hc, rfl, _⟩ := DataW.trod_string he hf
        have h1 : cs[i]? = some (.string z) := by
          have := congrArg (·[0]?) hc
          simpa [List.getElem?_take, List.getElem?_drop] using this
        have h2 : (xs.map (·.1))[i]? = some (DataW.lit (.string z.data.toList) : DataW H) := by simp [hb]
        rw [hxs] at h2
        simp only [List.getElem?_map, Option.map_eq_some_iff, DataW.lit.injEq, Lit.string.injEq] at h2
        obtain ⟨z', hz', he'⟩ := h2
        rw [h1, List.getElem?_map, hz', Option.map_some, bytes_inj he']
      · rw [List.getElem?_eq_none (by omega), List.getElem?_eq_none (by simp; omega)]
    · cases h

/-- The table that each of these rows lists. -/
def laid1 : List (String × DataW Unit) := [("logjam/op.names", Rows.laid_logjam_op_names)]
theorem laid_nm : (Rows.laid_logjam_op_names : DataW Unit) = .agg (nm.map fun z => .lit (.string z.data.toList)) := rfl
theorem gTab : Tryz.prog.globalNamed "logjam/op.names" = some 2 := by kernel_rfl
theorem gTabType : (Tryz.prog.globals[2]?).map (·.type) = some 171 := by kernel_rfl
theorem tabCells : Tryz.prog.cellsOf 171 = 52 := by kernel_rfl
theorem textCells1 : Tryz.prog.cellsOf 9 = 1 := by kernel_rfl
theorem tab_of_head {W : World} {rest : List (String × DataW Unit)} (h : laidMet Tryz.prog (("logjam/op.names", Rows.laid_logjam_op_names) :: rest) W) : Tab W ∧ 2 < W.heap.size := by
  obtain ⟨ps, ⟨g', t', cs, fuel, p, q, hg', ht', hvar, hd, _, _⟩, _⟩ := h
  obtain rfl := Option.some.inj (gTab.symm.trans hg')
  obtain rfl := Option.some.inj (gTabType.symm.trans ht')
  rw [laid_nm] at hd
  have hcs := cells_of_texts Tryz.underlying171 Tryz.underlying9 textCells1 tabCells hd
  have hc : Tab W := by
    intro j hj
    have h1 := World.var?_cell gTab hvar j
    have hj' : j < nm.length := hj
    rw [h1, ← Array.getElem?_toList, hcs, List.getElem?_map, List.getElem?_eq_getElem hj', Option.map_some, List.getD_eq_getElem?_getD, List.getElem?_eq_getElem hj', Option.getD_some]
  refine ⟨hc, ?_⟩
  have h0 := hc 0 (by omega)
  rcases Nat.lt_or_ge 2 W.heap.size with h1 | h1
  · exact h1
  · simp [World.cell?, Array.getElem?_eq_none h1] at h0
theorem of_laid {W : World} (h : laidMetH Tryz.prog laid1 W) : Tab W ∧ 2 < W.heap.size := by
  rw [MakeChecks.laidMetH_plain _ _ _ (by kernel_rfl)] at h
  exact tab_of_head h

/-- The door's own heap meets the condition: three closed facts. -/
theorem door_met (os : Os) (args : Array Value) : laidMetH Tryz.prog laid1 ((World.doorLaid Tryz.prog 24 os).forCall (fun _ _ => 0) ⟨#[], args, []⟩).memory :=
  laidMetH_of_parts3 (fuel := 8) (laidMet_of_run' 8 (by kernel_rfl) (by kernel_rfl)) (by kernel_rfl) (by kernel_rfl)
end Go.Proofs.YtahejekcfgkiaaaGreatDoor.oper

/-
  What a row's condition on the table of kinds' names gives, and that the door's own heap meets it. No condition.
-/
namespace Go.Proofs.YtahejekcfgkiaaaGreatDoor.objs
open Go.RowKit Go.WideShapes Go.ChangeShapes
open Go.Proofs.YtahejekcfgkiaaaGreatDoor.shut (cells_of_texts)

/-- The table that each of these rows lists. -/
def laidD : List (String × DataW Unit) := [("logjam/decl.names", Rows.laid_logjam_decl_names)]
theorem laid_names : (Rows.laid_logjam_decl_names : DataW Unit) = .agg (names.map fun z => .lit (.string z.data.toList)) := rfl
theorem gTabd : Tryz.prog.globalNamed "logjam/decl.names" = some 1 := by kernel_rfl
theorem gTabdType : (Tryz.prog.globals[1]?).map (·.type) = some 162 := by kernel_rfl
theorem tabdCells : Tryz.prog.cellsOf 162 = 8 := by kernel_rfl
theorem textCellsD : Tryz.prog.cellsOf 9 = 1 := by kernel_rfl
theorem tabd_of_head {W : World} {rest : List (String × DataW Unit)} (h : laidMet Tryz.prog (("logjam/decl.names", Rows.laid_logjam_decl_names) :: rest) W) : Tabd W ∧ 1 < W.heap.size := by
  obtain ⟨ps, ⟨g', t', cs, fuel, p, q, hg', ht', hvar, hd, _, _⟩, _⟩ := h
  obtain rfl := Option.some.inj (gTabd.symm.trans hg')
  obtain rfl := Option.some.inj (gTabdType.symm.trans ht')
  rw [laid_names] at hd
  have hcs := cells_of_texts Tryz.underlying162 Tryz.underlying9 textCellsD tabdCells hd
  have hc : Tabd W := by
    intro j hj
    have h1 := World.var?_cell gTabd hvar j
    have hj' : j < names.length := hj
    rw [h1, ← Array.getElem?_toList, hcs, List.getElem?_map, List.getElem?_eq_getElem hj', Option.map_some, List.getD_eq_getElem?_getD, List.getElem?_eq_getElem hj', Option.getD_some]
  refine ⟨hc, ?_⟩
  have h0 := hc 0 (by omega)
  rcases Nat.lt_or_ge 1 W.heap.size with h1 | h1
  · exact h1
  · simp [World.cell?, Array.getElem?_eq_none h1] at h0
theorem of_laidD {W : World} (h : laidMetH Tryz.prog laidD W) : Tabd W ∧ 1 < W.heap.size := by
  rw [MakeChecks.laidMetH_plain _ _ _ (by kernel_rfl)] at h
  exact tabd_of_head h

/-- The door's own heap meets the condition: three closed facts. -/
theorem door_metD (os : Os) (args : Array Value) : laidMetH Tryz.prog laidD ((World.doorLaid Tryz.prog 24 os).forCall (fun _ _ => 0) ⟨#[], args, []⟩).memory :=
  laidMetH_of_parts3 (fuel := 8) (laidMet_of_run' 8 (by kernel_rfl) (by kernel_rfl)) (by kernel_rfl) (by kernel_rfl)
end Go.Proofs.YtahejekcfgkiaaaGreatDoor.objs

/-
  What a row's condition on the tables gives, and that the door's own heap meets it. No condition.
-/
namespace Go.Proofs.YtahejekcfgkiaaaGreatDoor.pgm
open Go.RowKit Go.WideShapes Go.ChangeShapes
open Go.Proofs.YtahejekcfgkiaaaGreatDoor.need (askedE)
set_option linter.unusedVariables false

/-- The tables that each of these rows lists. -/
def laidG : List (String × DataW Unit) := [("logjam/op.names", Rows.laid_logjam_op_names), ("logjam/decl.names", Rows.laid_logjam_decl_names), ("logjam/need.asked", Rows.laid_logjam_need_asked)]
theorem gAskedG : Tryz.prog.globalNamed "logjam/need.asked" = some 0 := by kernel_rfl
theorem gAskedGType : (Tryz.prog.globals[0]?).map (·.type) = some 158 := by kernel_rfl
theorem askedGCells : Tryz.prog.cellsOf 158 = 6 := by kernel_rfl
theorem intCellsG : Tryz.prog.cellsOf 3 = 1 := by kernel_rfl
theorem lt_of_cellG {W : World} {g : Nat} {v : Value} (h : W.cell? ⟨g, 0, none⟩ = some v) : g < W.heap.size := by
  rcases Nat.lt_or_ge g W.heap.size with h1 | h1
  · exact h1
  · simp [World.cell?, Array.getElem?_eq_none h1] at h
theorem asked_of_headG {W : World} {rest : List (String × DataW Unit)} (h : laidMet Tryz.prog (("logjam/need.asked", Rows.laid_logjam_need_asked) :: rest) W) : ∀ j, j < 6 → W.cell? ⟨0, j, none⟩ = some (.int .i64 (askedE.getD j 0)) := by
  have hT : Lib.TabIs Tryz.prog W "logjam/need.asked" .i64 askedE :=
    Lib.tabIs_of_head gAskedG gAskedGType Tryz.underlying158 Tryz.underlying3 intCellsG askedGCells (zs := askedE) h
  intro j hj
  exact hT.cell gAskedG j hj
theorem of_laidG {W : World} (h : laidMetH Tryz.prog laidG W) : Okp W := by
  rw [MakeChecks.laidMetH_plain _ _ _ (by kernel_rfl)] at h
  have h2 := laidMet.tail h
  have h3 := laidMet.tail h2
  have ha := asked_of_headG h3
  exact ⟨Go.Proofs.YtahejekcfgkiaaaGreatDoor.oper.tab_of_head h, Go.Proofs.YtahejekcfgkiaaaGreatDoor.objs.tabd_of_head h2, ⟨ha, lt_of_cellG (ha 0 (by omega))⟩⟩

/-- The door's own heap meets the condition: three closed facts. -/
theorem door_metG (os : Go.Os) (args : Array Value) : laidMetH Tryz.prog laidG ((World.doorLaid Tryz.prog 24 os).forCall (fun _ _ => 0) ⟨#[], args, []⟩).memory :=
  laidMetH_of_parts3 (fuel := 8) (laidMet_of_run' 8 (by kernel_rfl) (by kernel_rfl)) (by kernel_rfl) (by kernel_rfl)
end Go.Proofs.YtahejekcfgkiaaaGreatDoor.pgm
