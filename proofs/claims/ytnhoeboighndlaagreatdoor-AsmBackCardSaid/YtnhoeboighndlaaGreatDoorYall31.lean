/-
  Texts of one claim in one file: YAddI. Each has its own sentence, with its conditions.
-/
import Derived.Test.YtnhoeboighndlaaGreatDoorYall28
import Derived.Test.YtnhoeboighndlaaGreatDoorYall30
/-
  The program's adding of an instruction (typed over the code of 0aab59b). The tables must lie where their initialisers lay them.
-/
namespace Go.Proofs.YtnhoeboighndlaaGreatDoor.pgm.asm
open Go.RowKit Go.ChangeShapes
open Go.Proofs.YtnhoeboighndlaaGreatDoor.pgm
open Go.Proofs.YtnhoeboighndlaaGreatDoor.octet (mk_append size_mk)
open Go.Proofs.YtnhoeboighndlaaGreatDoor.objs (De zero DAt Own cells3)
open Go.Proofs.YtnhoeboighndlaaGreatDoor.oper (idx)
open Go.Proofs.YtnhoeboighndlaaGreatDoor.inst (form)
set_option linter.unusedVariables false

set_option maxRecDepth 100000 in
set_option maxHeartbeats 8000000 in
theorem addIns_any (t : List UInt8) (ht : t.length ≤ 60000) (w : World) (base bp : Nat) (va vb vc : Value) (ds : List De) (wl : List (List (List De))) (fs : List Fn) (f : Fn) (hp : Pz w base bp va vb vc ⟨ds, wl, fs ++ [f]⟩) (hw : Okz w) (hl : f.co.length ≤ 60000) :
    Calls Tryz.prog 62 #[.pointer (some ⟨bp, 0, none⟩), .string ⟨t.toArray⟩] w (AddPost base bp ((insW (Lib.split t [32])).map fun x => ⟨ds, wl, fs ++ [⟨f.ar, f.lo, f.co ++ [x]⟩]⟩) w) := by
  obtain ⟨r, hr⟩ : ∃ r : Option Pg, r = (insW (Lib.split t [32])).map fun x => ⟨ds, wl, fs ++ [⟨f.ar, f.lo, f.co ++ [x]⟩]⟩ := ⟨_, rfl⟩
  rw [← hr]
  unfold AddPost
  have HS := Lib.hid (split_any t [32] (by simp) (by omega) w hw)
  have hle := split_le (s := t) (sep := [32]) (by simp)
  have hmany := split_many (s := t) (sep := [32]) (by simp)
  obtain ⟨w0, ws, hsp⟩ := split_cons t (sep := [32]) (by simp)
  rw [hsp] at HS hr hle hmany
  rw [insW_cons] at hr
  have HR := Lib.hid hr
  have HLe : Hid (∀ x ∈ ws, x.length ≤ 1048576) := Lib.hid fun x hx => by have := hle x (List.mem_cons_of_mem _ hx); omega
  have hn : ws.length ≤ 60001 := by simp at hmany; omega
  have hb1 : Below w.heap.size w (w.alloc (strBox (w0 :: ws))) := (Below.refl _ _).alloc (Nat.le_refl _) _
  have HB1 := Lib.hid hb1
  have HT1 := Lib.hid (heap_alloc_new w (strBox (w0 :: ws)))
  have HP1 := Lib.hid (hp.next hb1)
  have HW1 := Lib.hid (hw.next hb1)
  have HK := fun W (hW : Okz W) => Lib.hid (Go.Proofs.YtnhoeboighndlaaGreatDoor.oper.of_any ⟨w0.toArray⟩ W hW.prog.ins.1)
  unfold Go.Proofs.YtnhoeboighndlaaGreatDoor.oper.OfPost at HK
  have hob : Go.Proofs.YtnhoeboighndlaaGreatDoor.oper.ofB ⟨w0.toArray⟩ = decide (idx ⟨w0.toArray⟩ < 52) := rfl
  obtain ⟨o, ho⟩ : ∃ o, o = Go.Proofs.YtnhoeboighndlaaGreatDoor.oper.ofK ⟨w0.toArray⟩ := ⟨_, rfl⟩
  rw [hob, ← ho] at HK
  have HM := fun W => Lib.hid (operands_any o W)
  have hpl : f.co.length ≤ 60000 := hl
  have hbase := hp.lt
  have HOo := Lib.hid ho
  clear hr hsp hle hmany hp hw hl hb1 hob ho
  go_enter Tryz.func62, Tryz.ntmps62
  go_wp2_with fail
  refine HS.out.mono ?_
  rintro e w1 ⟨rfl, rfl⟩
  obtain ⟨b0, o0, he0, hb0, c0⟩ := str_at HT1.out 0 (by simp)
  injection he0 with he0
  injection he0 with h4 h5 _
  subst h4 h5
  have c0 : (w.alloc (strBox (w0 :: ws))).cell? ⟨w.heap.size, 0, none⟩ = some (.string ⟨w0.toArray⟩) := c0
  have hl1 : (w0 :: ws).length = ws.length + 1 := rfl
  rw [hl1]
  have hl2 : (0 : Int) < ((ws.length + 1 : Nat) : Int) := by omega
  clear HS hb0
  generalize hsz : w.heap.size = s0 at *
  generalize w.alloc (strBox (w0 :: ws)) = W1 at *
  go_wp2_with fail
  refine (HK _ HW1.out).out.mono ?_
  rintro e w2 ⟨rfl, rfl⟩
  go_wp2_with fail
  have g1 : (1 : Int) ≤ (ws.length : Int) + 1 := by omega
  obtain ⟨A, hA⟩ : ∃ A : Option Addr, (if ws = [] then (some ⟨s0, 0, none⟩ : Option Addr) else some ⟨s0, 1, none⟩) = A := ⟨_, rfl⟩
  have hSA : StrAt W1 A ws := by
    rw [← hA]
    by_cases hn0 : ws = []
    · rw [hn0]
      exact fun j hj => absurd hj (Nat.not_lt_zero j)
    · rw [if_neg hn0]
      exact str_tail HT1.out
  have HPo : Hid (∀ W, Below W1.heap.size W1 W → Calls Tryz.prog 81 #[.slice A ws.length ws.length, .int .i64 ((form o).length : Nat)] W fun e w' => e = .returned (.tuple #[.agg #[.int .i64 (pairA ws (form o).length).1, .int .i64 (pairA ws (form o).length).2], .bool (pairW ws (form o).length).isSome]) ∧ Hid (Below W1.heap.size W1 w') ∧ Hid (Below W.heap.size W w')) := Lib.hid fun W hb =>
    (pairOf_any A ws.length ws (form o).length (form_le o) (by omega) HLe.out W (hSA.next hb) (HW1.out.next hb)).mono fun e w' h => ⟨h.1, Lib.hid (hb.trans (h.2.mono hb.size)), Lib.hid h.2⟩
  have HM2 : Hid (∀ W, Calls Tryz.prog 28 #[.int .i64 (o)] W fun e w' => e = .returned (.int .i64 ((form o).length : Nat)) ∧ W = w') := Lib.hid fun W => (HM W).out
  obtain ⟨x, y, hxy⟩ : ∃ x y, pairA ws (form o).length = (x, y) := ⟨_, _, rfl⟩
  rw [hxy] at HPo
  dsimp only at HPo
  have HXY := Lib.hid hxy
  have hb4 : Hid (Below W1.heap.size W1 W1.drew) := Lib.hid (Below.refl _ _).drew
  have hb5 : Hid (Below W1.heap.size W1 (W1.alloc (.cells #[.int .i64 0, .int .i64 0] 63)).drew) := Lib.hid ((Below.refl _ _).alloc (Nat.le_refl _) _).drew
  have hb6 : Hid (Below W1.heap.size W1 (W1.drew.alloc (.cells #[.int .i64 0, .int .i64 0] 63))) := Lib.hid ((Below.refl _ _).drew.alloc (Nat.le_refl _) _)
  have HXV : Hid (∀ vs, pairW ws (form o).length = some vs → x = vs.getD 0 0 ∧ y = vs.getD 1 0) := Lib.hid fun vs e => by
    have h := HXY.out
    unfold pairA at h
    rw [e] at h
    injection h with h1 h2
    exact ⟨h1.symm, h2.symm⟩
  have HR1 : Hid (r = if idx ⟨w0.toArray⟩ < 52 then (pairW ws (form o).length).map (fun vs => ⟨ds, wl, fs ++ [⟨f.ar, f.lo, f.co ++ [(o, vs.getD 0 0, vs.getD 1 0)]⟩]⟩) else none) := Lib.hid (by
    rw [HR.out]
    by_cases hk : idx ⟨w0.toArray⟩ < 52
    · rw [if_pos hk, if_pos hk, Option.map_map, show o = ((idx ⟨w0.toArray⟩ : Nat) : Int) by rw [HOo.out]; unfold Go.Proofs.YtnhoeboighndlaaGreatDoor.oper.ofK; rw [if_pos hk]]
      rfl
    · rw [if_neg hk, if_neg hk]
      rfl)
  clear hSA hxy HM c0 HK HR HXY
  generalize pairW ws (form o).length = pw at *
  generalize (form o).length = many at *
  go_cut [8, 9] (fun lp ok wx => ∃ g, lp = .pointer (some ⟨g, 0, none⟩) ∧ ok = .bool pw.isSome ∧ Hid (Lx W1 x y g wx))
  case first =>
    clear HR1 HLe HP1 HB1 hbase HXV
    go_region_law (first
      | (go_simp; go_at_call 28; refine (HM2.out _).mono ?_; rintro e w' ⟨rfl, rfl⟩)
      | (go_simp; go_at_call 81; refine (HPo.out _ hb4.out).mono ?_; rintro e w' ⟨rfl, HB2, HB3⟩)
      | (go_simp; go_at_call 81; refine (HPo.out _ hb5.out).mono ?_; rintro e w' ⟨rfl, HB2, HB3⟩; have hq := (HB3.out.block W1.heap.size (by simp)).trans (heap_alloc_new W1 (.cells #[.int .i64 0, .int .i64 0] 63)); have HQ := Lib.hid hq; obtain ⟨q0, q1, q2, q3⟩ := cells2 hq; clear hq)
      | (go_simp; go_at_call 81; refine (HPo.out _ hb6.out).mono ?_; rintro e w' ⟨rfl, HB2, HB3⟩; have hq := (HB3.out.block W1.heap.size (by simp)).trans (heap_alloc_new W1 (.cells #[.int .i64 0, .int .i64 0] 63)); have HQ := Lib.hid hq; obtain ⟨q0, q1, q2, q3⟩ := cells2 hq; clear hq))
    all_goals
      go_wp2_with fail
      go_meet
      first
        | exact ⟨W1.heap.size, rfl, rfl, Lib.hid ⟨put2_below HB2.out (Nat.le_refl _) (.int .i64 x) (.int .i64 y), put2_same HQ.out (.int .i64 x) (.int .i64 y)⟩⟩
        | exact ⟨_, rfl, rfl, Lib.hid ⟨HB2.out.alloc HB2.out.size _, heap_alloc_new _ _⟩⟩
  case rest =>
    obtain ⟨g, rfl, rfl, HX⟩ := hcut
    (rename (∀ (a : Act) (w : World), Code.wp _ _ _ a w → _) => hK; refine hK _ _ ?_; clear hK)
    clear HM2 HPo hb4 hb5 hb6 hA
    have HB2 : Hid (Below base w wc) := Lib.hid ((HB1.out.mono (Nat.le_of_lt hbase)).trans (HX.out.below.mono (by have := HB1.out.size; omega)))
    by_cases hk : idx ⟨w0.toArray⟩ < 52
    · cases pw with
      | none =>
        have HR2 : Hid (r = none) := Lib.hid (by rw [HR1.out, if_pos hk]; rfl)
        have hd : decide (idx ⟨w0.toArray⟩ < 52) = true := decide_eq_true hk
        clear HR1 HXV hk
        go_wp2_with fail
        go_ret
        exact ⟨by rw [HR2.out]; rfl, HB2.out, fun q hq => by rw [HR2.out] at hq; cases hq⟩
      | some vs =>
        obtain ⟨hx, hy⟩ := HXV.out vs rfl
        have HR2 : Hid (r = some ⟨ds, wl, fs ++ [⟨f.ar, f.lo, f.co ++ [(o, x, y)]⟩]⟩) := Lib.hid (by
          rw [HR1.out, if_pos hk, hx, hy]
          rfl)
        have hd : decide (idx ⟨w0.toArray⟩ < 52) = true := decide_eq_true hk
        have HP2 := Lib.hid (HP1.out.next HX.out.below)
        obtain ⟨g2, cap, _, _, hvc, _⟩ := HP2.out.fs.last
        subst hvc
        obtain ⟨x0, x1, x2, x3, x4, x5⟩ := cells3 HP2.out.box
        clear HR1 HXV hk hx hy
        have hfn : fs.length < 9223372036854775807 := by
          obtain ⟨xs, _, e2, _⟩ := HP2.out.fs.xs
          rcases e2.2 with ⟨_, h0⟩ | ⟨_, c', _, e, _, _, h1, h2, _⟩
          · simp at h0
          · unfold maxLen at h2
            simp at h1
            omega
        have k1 : IntKind.i64.wrap (((fs.length + 1 : Nat) : Int) - 1) = ((fs.length : Nat) : Int) := by rw [IntKind.wrap_i64]; omega
        have k2 : (0 : Int) ≤ ((fs.length : Nat) : Int) := by omega
        have k3 : ((fs.length : Nat) : Int) < ((fs.length + 1 : Nat) : Int) := by omega
        go_wp2_with fail
        go_quiet (fail)
        have hbd : Below wc.heap.size wc (wc.drewN nq) := Go.Proofs.YtnhoeboighndlaaGreatDoor.objs.below_drewN (Below.refl _ _) nq
        have HP3 := Lib.hid (HP2.out.next hbd)
        have HB3 : Hid (Below base w (wc.drewN nq)) := Lib.hid (HB2.out.trans (hbd.mono (Nat.le_of_lt HP2.out.lt)))
        have HG3 := Lib.hid ((hbd.block _ (lt_of_block HX.out.blk)).trans HX.out.blk)
        clear x0 x1 x2 x3 x4 x5 hbd HP2 HB2 HX k1 k2 k3
        generalize wc.drewN nq = wd at *
        obtain ⟨g2', cap', xc, b2, hvc, hg2, hcap, ⟨curF, hgF⟩, hxc, hfz, hJ, hb2, hb2s, hclose⟩ := HP3.out.fs.last
        obtain ⟨rfl, rfl⟩ : g2 = g2' ∧ cap = cap' := by
          injection hvc with h1 _ h3
          injection h1 with h1
          injection h1 with h1 _ _
          exact ⟨h1, h3⟩
        obtain ⟨A1, c1, hva⟩ := hJ.slice
        subst hva
        obtain ⟨y0, y1, y2, y3⟩ := cells2 HG3.out
        have hbA : Below wd.heap.size wd (wd.alloc (.cells #[.int .i64 o, .int .i64 x, .int .i64 y] 28)) := (Below.refl _ _).alloc (Nat.le_refl _) _
        obtain ⟨v0, v1, v2, v3⟩ := cells2 ((hbA.block _ (lt_of_block HG3.out)).trans HG3.out)
        have hxc2 : (wd.alloc (.cells #[.int .i64 o, .int .i64 x, .int .i64 y] 28)).cell? ⟨g2, fs.length * 3 + 2, none⟩ = some (.slice A1 f.co.length c1) := (hbA.cell (p := ⟨g2, fs.length * 3 + 2, none⟩) (lt_of_block hgF)).trans hxc
        have hown1 : OwnJ (wd.alloc (.cells #[.int .i64 o, .int .i64 x, .int .i64 y] 28)) b2 (.slice A1 f.co.length c1) f.co := hJ.next hbA
        have hone : DAt (wd.alloc (.cells #[.int .i64 o, .int .i64 x, .int .i64 y] 28)) (some ⟨wd.heap.size, 0, none⟩) [(o, x, y)] := DAt.oneJ (d := (o, x, y)) (heap_alloc_new wd _)
        have hbs : b2 ≤ (wd.alloc (.cells #[.int .i64 o, .int .i64 x, .int .i64 y] 28)).heap.size := by have := hbA.size; omega
        have HCl := Lib.hid hclose
        have HGF := Lib.hid hgF
        have Hap : ∀ W9, (wd.alloc (.cells #[.int .i64 o, .int .i64 x, .int .i64 y] 28)).grownBy W9 (Value.slice A1 f.co.length c1).ownBlock → ((Below base w W9 ∧ Kp 28 wd W9) ∧ wd.heap.size ≤ W9.heap.size ∧ ∀ k, k < wd.heap.size → some k ≠ (Value.slice A1 f.co.length c1).ownBlock → W9.heap[k]? = wd.heap[k]?) ∧ W9.cell? ⟨g2, fs.length * 3 + 2, none⟩ = some (.slice A1 f.co.length c1) ∧ True ∧ W9.frozen? ⟨g2, fs.length * 3 + 2, none⟩ = false := fun W9 hg => by
          have hk9 : Kp 28 wd W9 := (Kp.below hbA).trans (Kp.grown hown1 hg)
          have hblk := (hk9.block hgF (by decide))
          refine ⟨⟨⟨((HB3.out.trans (hbA.mono (Nat.le_of_lt HP3.out.lt))).grown hg (by have := HP3.out.lt; have := hbA.size; omega) (fun k hk => Nat.le_trans hb2 (hown1.lt hk).1)), hk9⟩, hk9.size, fun k hk hne => ?_⟩, ?_, trivial, ?_⟩
          · rw [hg.block k (by have := hbA.size; omega) hne]
            exact hbA.block k hk
          · exact (World.cell?_of_block (a := ⟨g2, fs.length * 3 + 2, none⟩) hblk).trans hxc
          · exact (World.frozen?_of_block (a := ⟨g2, fs.length * 3 + 2, none⟩) hblk).trans hfz
        have HLn : Hid ((f.co ++ [(o, x, y)]).length = f.co.length + 1) := Lib.hid (by simp)
        clear hbA hclose hgF hJ hvc hfn
        go_wp2_with fail
        go_region_law (first
          | (refine step_appJ (w := (wd.alloc (.cells #[.int .i64 o, .int .i64 x, .int .i64 y] 28)).drew) (by rfl) (.tmp 49) (.tmp 56) (by rfl) b2 1 1 (.slice A1 f.co.length c1) (some ⟨wd.heap.size, 0, none⟩) f.co [(o, x, y)] (by rfl) hown1 (by rfl) rfl (fun h => by cases h) hone (by simp; omega) hbs ?_; intro v2 W9 hv2 hg2; have hAp := Hap W9 ⟨hg2.os, hg2.tape, hg2.output, hg2.size, hg2.block⟩; obtain ⟨z0, z1, hfz9⟩ := hAp.2; obtain ⟨Av, cv, hve⟩ := hv2.slice; have HAp := Lib.hid hAp.1; rw [HLn.out] at hve; subst hve; have HV2 := Lib.hid hv2; clear hAp hv2 hg2)
          | (refine step_appJ (w := wd.drew.alloc (.cells #[.int .i64 o, .int .i64 x, .int .i64 y] 28)) (by rfl) (.tmp 49) (.tmp 56) (by rfl) b2 1 1 (.slice A1 f.co.length c1) (some ⟨wd.heap.size, 0, none⟩) f.co [(o, x, y)] (by rfl) hown1 (by rfl) rfl (fun h => by cases h) hone (by simp; omega) hbs ?_; intro v2 W9 hv2 hg2; have hAp := Hap W9 ⟨hg2.os, hg2.tape, hg2.output, hg2.size, hg2.block⟩; obtain ⟨z0, z1, hfz9⟩ := hAp.2; obtain ⟨Av, cv, hve⟩ := hv2.slice; have HAp := Lib.hid hAp.1; rw [HLn.out] at hve; subst hve; have HV2 := Lib.hid hv2; clear hAp hv2 hg2))
        all_goals
          go_wp2_with fail
          go_ret
          exact ⟨by rw [HR2.out]; rfl, HAp.out.1.1.setCell (p := ⟨g2, fs.length * 3 + 2, none⟩) hg2 _, fun q hq => by
            rw [HR2.out] at hq
            obtain rfl := Option.some.inj hq
            exact ⟨_, _, _, HP3.out.setI (x := Value.nilIface) HAp.out.1.2 ⟨_, HGF.out⟩ (HCl.out _ _ _ HAp.out.2.1 HAp.out.2.2 HV2.out)⟩⟩
    · have HR2 : Hid (r = none) := Lib.hid (by rw [HR1.out, if_neg hk])
      have hd : decide (idx ⟨w0.toArray⟩ < 52) = false := decide_eq_false hk
      clear HR1 HXV hk
      go_wp2_with fail
      go_ret
      exact ⟨by rw [HR2.out]; rfl, HB2.out, fun q hq => by rw [HR2.out] at hq; cases hq⟩
end Go.Proofs.YtnhoeboighndlaaGreatDoor.pgm.asm
