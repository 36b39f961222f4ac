/-
  Texts of one claim in one file: YAddF. Each has its own sentence, with its conditions.
-/
import Derived.Test.YtnhoeboighndlaaGreatDoorYall28
/-
  The program's adding of a function (typed over the code of 0aab59b). The tables must lie where their initialisers lay them.
-/
namespace Go.Proofs.YtnhoeboighndlaaGreatDoor.pgm.asm
open Go.RowKit Go.ChangeShapes
open Go.Proofs.YtnhoeboighndlaaGreatDoor.pgm
open Go.Proofs.YtnhoeboighndlaaGreatDoor.octet (mk_append size_mk)
open Go.Proofs.YtnhoeboighndlaaGreatDoor.objs (De zero DAt Own cells3)
set_option linter.unusedVariables false

set_option maxRecDepth 100000 in
set_option maxHeartbeats 8000000 in
theorem addFunc_any (t : List UInt8) (ht : t.length ≤ 60000) (w : World) (base bp : Nat) (va vb vc : Value) (p : Pg) (hp : Pz w base bp va vb vc p) (hw : Okz w) (hl : p.fs.length ≤ 60000) :
    Calls Tryz.prog 63 #[.pointer (some ⟨bp, 0, none⟩), .string ⟨t.toArray⟩] w (AddPost base bp ((funcW (Lib.split t [32])).map fun x => ⟨p.ds, p.ws, p.fs ++ [⟨x.1, x.2, []⟩]⟩) w) := by
  obtain ⟨r, hr⟩ : ∃ r : Option Pg, r = (funcW (Lib.split t [32])).map fun x => ⟨p.ds, p.ws, p.fs ++ [⟨x.1, x.2, []⟩]⟩ := ⟨_, rfl⟩
  rw [← hr]
  unfold AddPost
  have HS := Lib.hid (split_any t [32] (by simp) (by omega) w hw)
  have hle := split_le (s := t) (sep := [32]) (by simp)
  have hmany := split_many (s := t) (sep := [32]) (by simp)
  obtain ⟨w0, ws, hsp⟩ := split_cons t (sep := [32]) (by simp)
  rw [hsp] at HS hr hle hmany
  rw [funcW_cons] at hr
  have HR := Lib.hid hr
  have HLe : Hid (∀ x ∈ ws, x.length ≤ 1048576) := Lib.hid fun x hx => by have := hle x (List.mem_cons_of_mem _ hx); omega
  have hn : ws.length ≤ 60001 := by simp at hmany; omega
  have hb1 : Below w.heap.size w (w.alloc (strBox (w0 :: ws))) := (Below.refl _ _).alloc (Nat.le_refl _) _
  have HB1 := Lib.hid hb1
  have HT1 := Lib.hid (heap_alloc_new w (strBox (w0 :: ws)))
  have HP1 := Lib.hid (hp.next hb1)
  have HW1 := Lib.hid (hw.next hb1)
  have hfl : p.fs.length ≤ 100000 := by omega
  have hbase := hp.lt
  clear hr hsp hle hmany hp hw hl hb1
  go_enter Tryz.func63, Tryz.ntmps63
  go_wp2_with fail
  refine HS.out.mono ?_
  rintro e w1 ⟨rfl, rfl⟩
  have hl1 : (w0 :: ws).length = ws.length + 1 := rfl
  rw [hl1]
  have hl2 : (0 : Int) < ((ws.length + 1 : Nat) : Int) := by omega
  clear HS
  generalize hsz : w.heap.size = s0 at *
  generalize w.alloc (strBox (w0 :: ws)) = W1 at *
  have g1 : (1 : Int) ≤ (ws.length : Int) + 1 := by omega
  obtain ⟨A, hA⟩ : ∃ A : Option Addr, (if ws = [] then (some ⟨s0, 0, none⟩ : Option Addr) else some ⟨s0, 1, none⟩) = A := ⟨_, rfl⟩
  have hSA : StrAt W1 A ws := by
    rw [← hA]
    by_cases hn0 : ws = []
    · rw [hn0]
      exact fun j hj => absurd hj (Nat.not_lt_zero j)
    · rw [if_neg hn0]
      exact str_tail HT1.out
  have hPo := pairOf_any A ws.length ws 2 (by omega) (by omega) HLe.out W1 hSA HW1.out
  unfold PairPost at hPo
  obtain ⟨x, y, hxy⟩ : ∃ x y, pairA ws 2 = (x, y) := ⟨_, _, rfl⟩
  have HXV : Hid (∀ vs, pairW ws 2 = some vs → x = vs.getD 0 0 ∧ y = vs.getD 1 0) := Lib.hid fun vs e => by
    have h := hxy
    unfold pairA at h
    rw [e] at h
    injection h with h1 h2
    exact ⟨h1.symm, h2.symm⟩
  rw [hxy] at hPo
  dsimp only at hPo
  have HPo := Lib.hid hPo
  clear hSA hxy hPo
  generalize pairW ws 2 = pw at *
  go_wp2_with fail
  refine HPo.out.mono ?_
  rintro e w2 ⟨rfl, hb2⟩
  have HX : Hid (Lx W1 x y w2.heap.size (w2.alloc (.cells #[.int .i64 x, .int .i64 y] 63))) := Lib.hid ⟨hb2.alloc hb2.size _, heap_alloc_new _ _⟩
  have HT2 := Lib.hid ((HX.out.below.block _ (lt_of_block HT1.out)).trans HT1.out)
  obtain ⟨b0, o0, he0, hb0, c0⟩ := str_at HT2.out 0 (by simp)
  injection he0 with he0
  injection he0 with h4 h5 _
  subst h4 h5
  have c0 : (w2.alloc (.cells #[.int .i64 x, .int .i64 y] 63)).cell? ⟨s0, 0, none⟩ = some (.string ⟨w0.toArray⟩) := c0
  clear hb0 hb2 HPo
  go_upto_region 3 with fail
  generalize w2.alloc (.cells #[.int .i64 x, .int .i64 y] 63) = wc at *
  generalize w2.heap.size = g at *
  have HB2 : Hid (Below base w wc) := Lib.hid ((HB1.out.mono (Nat.le_of_lt hbase)).trans (HX.out.below.mono (by have := HB1.out.size; omega)))
  by_cases hk : w0 = wF
  · have hq : (w0 == [102, 117, 110, 99]) = true := by rw [beq_iff_eq]; exact hk
    cases pw with
    | none =>
      have HR2 : Hid (r = none) := Lib.hid (by rw [HR.out, if_pos hk]; rfl)
      clear HR hk HXV
      go_wp2_with fail
      go_ret
      exact ⟨by rw [HR2.out]; rfl, HB2.out, fun q hq => by rw [HR2.out] at hq; cases hq⟩
    | some vs =>
      obtain ⟨hx, hy⟩ := HXV.out vs rfl
      have HR2 : Hid (r = some ⟨p.ds, p.ws, p.fs ++ [⟨x, y, []⟩]⟩) := Lib.hid (by
        rw [HR.out, if_pos hk, hx, hy]
        rfl)
      have HP2 := Lib.hid (HP1.out.next HX.out.below)
      obtain ⟨A1, c1, hva⟩ := HP2.out.fs.slice
      subst hva
      obtain ⟨x0, x1, x2, x3, x4, x5⟩ := cells3 HP2.out.box
      obtain ⟨y0, y1, y2, y3⟩ := cells2 HX.out.blk
      have hbA : Below wc.heap.size wc (wc.alloc (.cells #[.int .i64 x, .int .i64 y, .slice none 0 0] 49)) := (Below.refl _ _).alloc (Nat.le_refl _) _
      obtain ⟨u0, u1, u2, u3, u4, u5⟩ := cells3 ((hbA.block _ (lt_of_block HP2.out.box)).trans HP2.out.box)
      obtain ⟨v0, v1, v2, v3⟩ := cells2 ((hbA.block _ (lt_of_block HX.out.blk)).trans HX.out.blk)
      have hown1 : OwnL wc.drew base (.slice A1 p.fs.length c1) p.fs := HP2.out.fs.next (Below.refl _ _).drew
      have hbs : base ≤ wc.drew.heap.size := Nat.le_of_lt HP2.out.lt
      have Hap : ∀ W9, (wc.alloc (.cells #[.int .i64 x, .int .i64 y, .slice none 0 0] 49)).grownBy W9 (Value.slice A1 p.fs.length c1).ownBlock → (Below base w W9 ∧ Kp 49 wc W9) ∧ W9.heap[bp]? = some (.cells #[va, vb, .slice A1 p.fs.length c1] 26 (0, 0)) := fun W9 hg => by
        obtain ⟨xs, _, e2, _⟩ := (HP2.out.fs.next hbA).xs
        have hk9 : Kp 49 wc W9 := (Kp.below hbA).trans (Kp.grown e2 hg)
        refine ⟨⟨((HB2.out.trans (hbA.mono (Nat.le_of_lt HP2.out.lt))).grown hg (by have := HP2.out.lt; have := hbA.size; omega) (fun k hk => (World.ownsRow.lt e2 k hk).1)), hk9⟩, (hk9.block HP2.out.box (by decide)).trans HP2.out.box⟩
      have HLn : Hid ((p.fs ++ [(⟨x, y, []⟩ : Fn)]).length = p.fs.length + 1) := Lib.hid (by simp)
      clear HR HXV hk hx hy hbA
      go_wp2_with fail
      go_region_law (first
        | (refine step_appL (w := wc.drew) (w1 := (wc.alloc (.cells #[.int .i64 x, .int .i64 y, .slice none 0 0] 49)).drew) (by rfl) (.tmp 28) (.tmp 34) (by rfl) base 1 (.slice A1 p.fs.length c1) p.fs x y (by rfl) hown1 (by rfl) rfl hfl hbs ?_; intro v2 W9 hv2 hg2; have hAp := Hap W9 ⟨hg2.os, hg2.tape, hg2.output, hg2.size, hg2.block⟩; obtain ⟨z0, z1, z2, z3, z4, z5⟩ := cells3 hAp.2; obtain ⟨Av, cv, hve⟩ := hv2.slice; have HAp := Lib.hid hAp; rw [HLn.out] at hve; subst hve; have HV2 := Lib.hid hv2; clear hAp hv2 hg2)
        | (refine step_appL (w := wc.drew) (w1 := wc.drew.alloc (.cells #[.int .i64 x, .int .i64 y, .slice none 0 0] 49)) (by rfl) (.tmp 28) (.tmp 34) (by rfl) base 1 (.slice A1 p.fs.length c1) p.fs x y (by rfl) hown1 (by rfl) rfl hfl hbs ?_; intro v2 W9 hv2 hg2; have hAp := Hap W9 ⟨hg2.os, hg2.tape, hg2.output, hg2.size, hg2.block⟩; obtain ⟨z0, z1, z2, z3, z4, z5⟩ := cells3 hAp.2; obtain ⟨Av, cv, hve⟩ := hv2.slice; have HAp := Lib.hid hAp; rw [HLn.out] at hve; subst hve; have HV2 := Lib.hid hv2; clear hAp hv2 hg2))
      all_goals
        go_wp2_with fail
        go_ret
        exact ⟨by rw [HR2.out]; rfl, HAp.out.1.1.setCell (p := ⟨bp, 2, none⟩) HP2.out.le _, fun q hq => by
          rw [HR2.out] at hq
          obtain rfl := Option.some.inj hq
          exact ⟨_, _, _, HP2.out.setC HAp.out.1.2 HV2.out⟩⟩
  · have HR2 : Hid (r = none) := Lib.hid (by rw [HR.out, if_neg hk]; rfl)
    have hq : (w0 == [102, 117, 110, 99]) = false := beq_eq_false_iff_ne.2 hk
    clear HR hk HXV
    go_wp2_with fail
    go_ret
    exact ⟨by rw [HR2.out]; rfl, HB2.out, fun q hq => by rw [HR2.out] at hq; cases hq⟩
end Go.Proofs.YtnhoeboighndlaaGreatDoor.pgm.asm
