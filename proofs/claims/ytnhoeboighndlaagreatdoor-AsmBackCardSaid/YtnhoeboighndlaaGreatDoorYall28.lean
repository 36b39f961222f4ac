/-
  Texts of one claim in one file: YAddO. Each has its own sentence, with its conditions.
-/
import Derived.Test.YtnhoeboighndlaaGreatDoorYall17
import Derived.Test.YtnhoeboighndlaaGreatDoorYall27
import Derived.Deep.RegionLaw
import Derived.Deep.RegionHeld3
/-
  The program's adding of an object (typed over the code of 0aab59b). The tables must lie where their initialisers lay them.
-/
namespace Go.Proofs.YtnhoeboighndlaaGreatDoor.pgm.asm
open Go.RowKit Go.ChangeShapes
open Go.Proofs.YtnhoeboighndlaaGreatDoor.pgm
open Go.Proofs.YtnhoeboighndlaaGreatDoor.octet (mk_append size_mk)
open Go.Proofs.YtnhoeboighndlaaGreatDoor.objs (De zero DAt Own cells3 step_appD)
set_option linter.unusedVariables false

/-- What an adding call answers, and leaves. -/
def AddPost (base bp : Nat) (r : Option Pg) (w : World) (e : Ending) (w' : World) : Prop := e = .returned (.bool r.isSome) ∧ Below base w w' ∧ ∀ q, r = some q → ∃ va vb vc, Pz w' base bp va vb vc q
/-- Numbers in a block that was made since. -/
structure Lx (W1 : World) (x y : Int) (g : Nat) (W : World) : Prop where
  below : Below W1.heap.size W1 W
  blk : W.heap[g]? = some (.cells #[.int .i64 x, .int .i64 y] 63 (0, 0))
theorem str_tail {W : World} {g : Nat} {p : List UInt8} {ts : List (List UInt8)} (h : W.heap[g]? = some (strBox (p :: ts))) : StrAt W (some ⟨g, 1, none⟩) ts := fun j hj => by
  obtain ⟨b, off, h1, h2, h3⟩ := str_at h (j + 1) (by simp; omega)
  injection h1 with h1
  injection h1 with h4 h5 _
  subst h4 h5
  refine ⟨g, 1, rfl, h2, ?_⟩
  rw [Nat.zero_add, show (p :: ts).getD (j + 1) [] = ts.getD j [] from rfl] at h3
  rw [Nat.add_comm 1 j]
  exact h3

set_option maxRecDepth 100000 in
set_option maxHeartbeats 8000000 in
theorem addObject_any (t : List UInt8) (ht : t.length ≤ 60000) (w : World) (base bp : Nat) (va vb vc : Value) (p : Pg) (hp : Pz w base bp va vb vc p) (hw : Okz w) (hl : p.ds.length ≤ 60000) :
    Calls Tryz.prog 60 #[.pointer (some ⟨bp, 0, none⟩), .string ⟨t.toArray⟩] w (AddPost base bp ((objW (Lib.split t [32])).map fun d => ⟨p.ds ++ [d], p.ws, p.fs⟩) w) := by
  obtain ⟨r, hr⟩ : ∃ r : Option Pg, r = (objW (Lib.split t [32])).map fun d => ⟨p.ds ++ [d], p.ws, p.fs⟩ := ⟨_, rfl⟩
  rw [← hr]
  unfold AddPost
  have HS := Lib.hid (split_any t [32] (by simp) (by omega) w hw)
  have hle := split_le (s := t) (sep := [32]) (by simp)
  have hmany := split_many (s := t) (sep := [32]) (by simp)
  obtain ⟨w0, ws, hsp⟩ := split_cons t (sep := [32]) (by simp)
  rw [hsp] at HS hr hle hmany
  rw [objW_cons] at hr
  have HR := Lib.hid hr
  have HLe : Hid (∀ x ∈ ws, x.length ≤ 1048576) := Lib.hid fun x hx => by have := hle x (List.mem_cons_of_mem _ hx); omega
  have hn : ws.length ≤ 60001 := by simp at hmany; omega
  have hb1 : Below w.heap.size w (w.alloc (strBox (w0 :: ws))) := (Below.refl _ _).alloc (Nat.le_refl _) _
  have HB1 := Lib.hid hb1
  have HT1 := Lib.hid (heap_alloc_new w (strBox (w0 :: ws)))
  have HP1 := Lib.hid (hp.next hb1)
  have HW1 := Lib.hid (hw.next hb1)
  have HK := fun W hW => Lib.hid (kindOf_any w0 W hW)
  unfold KindPost at HK
  have HM := fun W => Lib.hid (numbers_any (kindP w0) W)
  have hpl : p.ds.length ≤ 60000 := hl
  have hbase := hp.lt
  clear hr hsp hle hmany hp hw hl hb1
  go_enter Tryz.func60, Tryz.ntmps60
  go_wp2_with fail
  refine HS.out.mono ?_
  rintro e w1 ⟨rfl, rfl⟩
  obtain ⟨b0, o0, he0, hb0, c0⟩ := str_at HT1.out 0 (by simp)
  injection he0 with he0
  injection he0 with h4 h5 _
  subst h4 h5
  have c0 : (w.alloc (strBox (w0 :: ws))).cell? ⟨w.heap.size, 0, none⟩ = some (.string ⟨w0.toArray⟩) := c0
  have hl1 : (w0 :: ws).length = ws.length + 1 := rfl
  rw [hl1]
  have hl2 : (0 : Int) < ((ws.length + 1 : Nat) : Int) := by omega
  clear HS hb0
  generalize hsz : w.heap.size = s0 at *
  generalize w.alloc (strBox (w0 :: ws)) = W1 at *
  go_wp2_with fail
  refine (HK _ HW1.out).out.mono ?_
  rintro e w2 ⟨rfl, rfl⟩
  go_wp2_with fail
  have g1 : (1 : Int) ≤ (ws.length : Int) + 1 := by omega
  obtain ⟨A, hA⟩ : ∃ A : Option Addr, (if ws = [] then (some ⟨s0, 0, none⟩ : Option Addr) else some ⟨s0, 1, none⟩) = A := ⟨_, rfl⟩
  have hSA : StrAt W1 A ws := by
    rw [← hA]
    by_cases hn0 : ws = []
    · rw [hn0]
      exact fun j hj => absurd hj (Nat.not_lt_zero j)
    · rw [if_neg hn0]
      exact str_tail HT1.out
  have HPo : Hid (∀ W, Below W1.heap.size W1 W → Calls Tryz.prog 81 #[.slice A ws.length ws.length, .int .i64 (cntO (kindP w0) : Nat)] W fun e w' => e = .returned (.tuple #[.agg #[.int .i64 (pairA ws (cntO (kindP w0))).1, .int .i64 (pairA ws (cntO (kindP w0))).2], .bool (pairW ws (cntO (kindP w0))).isSome]) ∧ Hid (Below W1.heap.size W1 w') ∧ Hid (Below W.heap.size W w')) := Lib.hid fun W hb =>
    (pairOf_any A ws.length ws (cntO (kindP w0)) (cnt_two _) (by omega) HLe.out W (hSA.next hb) (HW1.out.next hb)).mono fun e w' h => ⟨h.1, Lib.hid (hb.trans (h.2.mono hb.size)), Lib.hid h.2⟩
  have HM2 : Hid (∀ W, Calls Tryz.prog 23 #[.int .i64 (kindP w0)] W fun e w' => e = .returned (.int .i64 (cntO (kindP w0) : Nat)) ∧ W = w') := Lib.hid fun W => (HM W).out
  obtain ⟨x, y, hxy⟩ : ∃ x y, pairA ws (cntO (kindP w0)) = (x, y) := ⟨_, _, rfl⟩
  rw [hxy] at HPo
  dsimp only at HPo
  have HXY := Lib.hid hxy
  have hb4 : Hid (Below W1.heap.size W1 W1.drew) := Lib.hid (Below.refl _ _).drew
  have hb5 : Hid (Below W1.heap.size W1 (W1.alloc (.cells #[.int .i64 0, .int .i64 0] 63)).drew) := Lib.hid ((Below.refl _ _).alloc (Nat.le_refl _) _).drew
  have hb6 : Hid (Below W1.heap.size W1 (W1.drew.alloc (.cells #[.int .i64 0, .int .i64 0] 63))) := Lib.hid ((Below.refl _ _).drew.alloc (Nat.le_refl _) _)
  have HXV : Hid (∀ vs, pairW ws (cntO (kindP w0)) = some vs → x = vs.getD 0 0 ∧ y = vs.getD 1 0) := Lib.hid fun vs e => by
    have h := HXY.out
    unfold pairA at h
    rw [e] at h
    injection h with h1 h2
    exact ⟨h1.symm, h2.symm⟩
  have HR1 : Hid (r = if kindIdx w0 < 8 then (pairW ws (cntO (kindP w0))).map (fun vs => ⟨p.ds ++ [(kindP w0, vs.getD 0 0, vs.getD 1 0)], p.ws, p.fs⟩) else none) := Lib.hid (by
    rw [HR.out]
    by_cases hk : kindIdx w0 < 8
    · rw [if_pos hk, if_pos hk, Option.map_map, show kindP w0 = ((kindIdx w0 : Nat) : Int) by unfold kindP; rw [if_pos hk]]
      rfl
    · rw [if_neg hk, if_neg hk]
      rfl)
  clear hSA hxy HM c0 HK HR HXY
  generalize pairW ws (cntO (kindP w0)) = pw at *
  generalize cntO (kindP w0) = many at *
  go_cut [8, 9] (fun lp ok wx => ∃ g, lp = .pointer (some ⟨g, 0, none⟩) ∧ ok = .bool pw.isSome ∧ Hid (Lx W1 x y g wx))
  case first =>
    clear HR1 HLe HP1 HB1 hbase HXV
    go_region_law (first
      | (go_simp; go_at_call 23; refine (HM2.out _).mono ?_; rintro e w' ⟨rfl, rfl⟩)
      | (go_simp; go_at_call 81; refine (HPo.out _ hb4.out).mono ?_; rintro e w' ⟨rfl, HB2, HB3⟩)
      | (go_simp; go_at_call 81; refine (HPo.out _ hb5.out).mono ?_; rintro e w' ⟨rfl, HB2, HB3⟩; have hq := (HB3.out.block W1.heap.size (by simp)).trans (heap_alloc_new W1 (.cells #[.int .i64 0, .int .i64 0] 63)); have HQ := Lib.hid hq; obtain ⟨q0, q1, q2, q3⟩ := cells2 hq; clear hq)
      | (go_simp; go_at_call 81; refine (HPo.out _ hb6.out).mono ?_; rintro e w' ⟨rfl, HB2, HB3⟩; have hq := (HB3.out.block W1.heap.size (by simp)).trans (heap_alloc_new W1 (.cells #[.int .i64 0, .int .i64 0] 63)); have HQ := Lib.hid hq; obtain ⟨q0, q1, q2, q3⟩ := cells2 hq; clear hq))
    all_goals
      go_wp2_with fail
      go_meet
      first
        | exact ⟨W1.heap.size, rfl, rfl, Lib.hid ⟨put2_below HB2.out (Nat.le_refl _) (.int .i64 x) (.int .i64 y), put2_same HQ.out (.int .i64 x) (.int .i64 y)⟩⟩
        | exact ⟨_, rfl, rfl, Lib.hid ⟨HB2.out.alloc HB2.out.size _, heap_alloc_new _ _⟩⟩
  case rest =>
    obtain ⟨g, rfl, rfl, HX⟩ := hcut
    (rename (∀ (a : Act) (w : World), Code.wp _ _ _ a w → _) => hK; refine hK _ _ ?_; clear hK)
    clear HM2 HPo hb4 hb5 hb6 hA
    have HB2 : Hid (Below base w wc) := Lib.hid ((HB1.out.mono (Nat.le_of_lt hbase)).trans (HX.out.below.mono (by have := HB1.out.size; omega)))
    by_cases hk : kindIdx w0 < 8
    · cases pw with
      | none =>
        have HR2 : Hid (r = none) := Lib.hid (by rw [HR1.out, if_pos hk]; rfl)
        have hd : decide (kindIdx w0 < 8) = true := decide_eq_true hk
        clear HR1 HXV hk
        go_wp2_with fail
        go_ret
        exact ⟨by rw [HR2.out]; rfl, HB2.out, fun q hq => by rw [HR2.out] at hq; cases hq⟩
      | some vs =>
        obtain ⟨hx, hy⟩ := HXV.out vs rfl
        have HR2 : Hid (r = some ⟨p.ds ++ [(kindP w0, x, y)], p.ws, p.fs⟩) := Lib.hid (by
          rw [HR1.out, if_pos hk, hx, hy]
          rfl)
        have hd : decide (kindIdx w0 < 8) = true := decide_eq_true hk
        have HP2 := Lib.hid (HP1.out.next HX.out.below)
        obtain ⟨A1, c1, hva⟩ := HP2.out.ds.slice
        subst hva
        obtain ⟨x0, x1, x2, x3, x4, x5⟩ := cells3 HP2.out.box
        obtain ⟨y0, y1, y2, y3⟩ := cells2 HX.out.blk
        have hbA : Below wc.heap.size wc (wc.alloc (.cells #[.int .i64 (kindP w0), .int .i64 x, .int .i64 y] 44)) := (Below.refl _ _).alloc (Nat.le_refl _) _
        obtain ⟨u0, u1, u2, u3, u4, u5⟩ := cells3 ((hbA.block _ (lt_of_block HP2.out.box)).trans HP2.out.box)
        obtain ⟨v0, v1, v2, v3⟩ := cells2 ((hbA.block _ (lt_of_block HX.out.blk)).trans HX.out.blk)
        have hown1 : Own (wc.alloc (.cells #[.int .i64 (kindP w0), .int .i64 x, .int .i64 y] 44)) base (.slice A1 p.ds.length c1) p.ds := HP2.out.ds.next hbA
        have hone : DAt (wc.alloc (.cells #[.int .i64 (kindP w0), .int .i64 x, .int .i64 y] 44)) (some ⟨wc.heap.size, 0, none⟩) [(kindP w0, x, y)] := Go.Proofs.YtnhoeboighndlaaGreatDoor.objs.DAt.one (d := (kindP w0, x, y)) (heap_alloc_new wc _)
        have hbs : base ≤ (wc.alloc (.cells #[.int .i64 (kindP w0), .int .i64 x, .int .i64 y] 44)).heap.size := by have := HP2.out.lt; have := hbA.size; omega
        have Hap : ∀ W9, (wc.alloc (.cells #[.int .i64 (kindP w0), .int .i64 x, .int .i64 y] 44)).grownBy W9 (Value.slice A1 p.ds.length c1).ownBlock → (Below base w W9 ∧ Kp 44 wc W9) ∧ W9.heap[bp]? = some (.cells #[.slice A1 p.ds.length c1, vb, vc] 26 (0, 0)) := fun W9 hg => by
          have hk9 : Kp 44 wc W9 := (Kp.below hbA).trans (Kp.grown hown1 hg)
          refine ⟨⟨((HB2.out.trans (hbA.mono (Nat.le_of_lt HP2.out.lt))).grown hg hbs (fun k hk => (hown1.lt hk).1)), hk9⟩, (hk9.block HP2.out.box (by decide)).trans HP2.out.box⟩
        have HLn : Hid ((p.ds ++ [(kindP w0, x, y)]).length = p.ds.length + 1) := Lib.hid (by simp)
        clear HR1 HXV hk hx hy hbA
        go_wp2_with fail
        go_region_law (first
          | (refine step_appD (w := (wc.alloc (.cells #[.int .i64 (kindP w0), .int .i64 x, .int .i64 y] 44)).drew) (by rfl) (.tmp 37) (.tmp 44) (by rfl) base 1 1 (.slice A1 p.ds.length c1) (some ⟨wc.heap.size, 0, none⟩) p.ds [(kindP w0, x, y)] (by rfl) hown1 (by rfl) rfl (fun h => by cases h) hone (by simp; omega) hbs ?_; intro v2 W9 hv2 hg2; have hAp := Hap W9 ⟨hg2.os, hg2.tape, hg2.output, hg2.size, hg2.block⟩; obtain ⟨z0, z1, z2, z3, z4, z5⟩ := cells3 hAp.2; obtain ⟨Av, cv, hve⟩ := hv2.slice; have HAp := Lib.hid hAp; rw [HLn.out] at hve; subst hve; have HV2 := Lib.hid hv2; clear hAp hv2 hg2)
          | (refine step_appD (w := wc.drew.alloc (.cells #[.int .i64 (kindP w0), .int .i64 x, .int .i64 y] 44)) (by rfl) (.tmp 37) (.tmp 44) (by rfl) base 1 1 (.slice A1 p.ds.length c1) (some ⟨wc.heap.size, 0, none⟩) p.ds [(kindP w0, x, y)] (by rfl) hown1 (by rfl) rfl (fun h => by cases h) hone (by simp; omega) hbs ?_; intro v2 W9 hv2 hg2; have hAp := Hap W9 ⟨hg2.os, hg2.tape, hg2.output, hg2.size, hg2.block⟩; obtain ⟨z0, z1, z2, z3, z4, z5⟩ := cells3 hAp.2; obtain ⟨Av, cv, hve⟩ := hv2.slice; have HAp := Lib.hid hAp; rw [HLn.out] at hve; subst hve; have HV2 := Lib.hid hv2; clear hAp hv2 hg2))
        all_goals
          go_wp2_with fail
          go_ret
          exact ⟨by rw [HR2.out]; rfl, HAp.out.1.1.setCell (p := ⟨bp, 0, none⟩) HP2.out.le _, fun q hq => by
            rw [HR2.out] at hq
            obtain rfl := Option.some.inj hq
            exact ⟨_, _, _, HP2.out.setA HAp.out.1.2 HV2.out⟩⟩
    · have HR2 : Hid (r = none) := Lib.hid (by rw [HR1.out, if_neg hk])
      have hd : decide (kindIdx w0 < 8) = false := decide_eq_false hk
      clear HR1 HXV hk
      go_wp2_with fail
      go_ret
      exact ⟨by rw [HR2.out]; rfl, HB2.out, fun q hq => by rw [HR2.out] at hq; cases hq⟩
end Go.Proofs.YtnhoeboighndlaaGreatDoor.pgm.asm
