/-
  Texts of one claim in one file: YParse, Shut, EClose, PClose, DClose, GClose, YClose. Each has its own sentence, with its conditions.
-/
import Derived.Test.YtnhoeboighndlaaGreatDoorYall32
import Derived.Test.YtnhoeboighndlaaGreatDoorYall35
import Derived.Test.YtnhoeboighndlaaGreatDoorRows
import Derived.OpenShut
import Derived.Below
import Derived.ChangeSame
import Derived.ChangeArms
import Derived.Carry
import Derived.ProofKit
import Derived.WideKeyArgs
import Derived.WideShapes
import Derived.LaidMore
import Derived.Lib.LaidTab
import Derived.Test.YtnhoeboighndlaaGreatDoorYall13
import Derived.Stop.Joined
import Derived.Stop.LaidErr
import Derived.Test.YtnhoeboighndlaaGreatDoorYall6
import Derived.Test.YtnhoeboighndlaaGreatDoorYall11
import Derived.Test.YtnhoeboighndlaaGreatDoorYall30
import Derived.Lay
import Derived.SizedLaws
import Derived.Shelf.Vars
/-
  The program's reading of a text (typed over the code of 0aab59b). The tables must lie where their initialisers lay them.
-/
namespace Go.Proofs.YtnhoeboighndlaaGreatDoor.pgm.asm
open Go.RowKit Go.ChangeShapes
open Go.Proofs.YtnhoeboighndlaaGreatDoor.pgm
open Go.Proofs.YtnhoeboighndlaaGreatDoor.octet (mk_append size_mk)
open Go.Proofs.YtnhoeboighndlaaGreatDoor.objs (De zero DAt Own cells3 put3 put3_same put3_far put3_below)
set_option linter.unusedVariables false

theorem readT_end (k n : Nat) (p : Pg) : readT (k + 1) n p [] = (p, 0) := rfl
theorem readT_cut {k n : Nat} {p : Pg} {s : List UInt8} (h : s ≠ []) (hb : behind s = []) : readT (k + 1) n p s = (Pg.none, n + 1) := by
  unfold readT
  rw [if_neg h, if_pos hb]
theorem readT_step {k n : Nat} {p : Pg} {s : List UInt8} (h : s ≠ []) (hb : behind s ≠ []) : readT (k + 1) n p s = match (readItem (lineOf s)).bind (add p) with
    | some q => readT k (n + 1) q ((behind s).drop 1)
    | none => (Pg.none, n + 1) := by
  conv => lhs; unfold readT
  rw [if_neg h, if_neg hb]
  cases readItem (lineOf s) with
  | none => rfl
  | some i => rfl
theorem behind_len {s : List UInt8} (hb : behind s ≠ []) : (lineOf s).length + ((behind s).drop 1).length + 1 = s.length := by
  have e := congrArg List.length (line_split s)
  rw [List.length_append] at e
  have : 0 < (behind s).length := List.length_pos_iff.2 hb
  rw [List.length_drop]
  omega
theorem parse_bad {s : List UInt8} {n : Nat} (hl : s.length ≤ 60000) (h : readT (s.length + 1) 0 Pg.none s = (Pg.none, n + 1)) : parse s = (Pg.none, n + 1, 2) := by
  unfold parse
  rw [if_neg (by omega), h, if_pos (Nat.succ_ne_zero n)]
theorem parse_good {s : List UInt8} {p : Pg} (hl : s.length ≤ 60000) (h : readT (s.length + 1) 0 Pg.none s = (p, 0)) : parse s = if chkP p ≠ 0 then (Pg.none, 0, chkP p) else (p, 0, 0) := by
  unfold parse
  rw [if_neg (by omega), h, if_neg (by simp)]

def zBox : Obj := .cells #[.slice none 0 0, .slice none 0 0, .slice none 0 0] 26
/-- While lines are read: the answer's place, and the program so far. -/
structure Pq (w : World) (va vb vc : Value) (p : Pg) (W : World) : Prop where
  below : Below w.heap.size w W
  box : W.heap[w.heap.size]? = some zBox
  pz : Pz W (w.heap.size + 1) (w.heap.size + 1) va vb vc p
theorem Pq.next {w W W' : World} {va vb vc : Value} {p : Pg} (h : Pq w va vb vc p W) (hb : Below W.heap.size W W') : Pq w va vb vc p W' :=
  ⟨h.below.trans (hb.mono h.below.size), (hb.block _ (lt_of_block h.box)).trans h.box, h.pz.next hb⟩
theorem Pq.add {w W W' : World} {va vb vc : Value} {p : Pg} (h : Pq w va vb vc p W) (hb : Below (w.heap.size + 1) W W') : Below w.heap.size w W' ∧ W'.heap[w.heap.size]? = some zBox :=
  ⟨h.below.trans (hb.mono (Nat.le_succ _)), (hb.block _ (Nat.lt_succ_self _)).trans h.box⟩
theorem put3_kp {W : World} {b : Nat} {cs : Array Value} {T : TypeId} {fr : Nat × Nat} (hb : W.heap[b]? = some (.cells cs T fr)) (x y z : Value) : Kp T W (put3 W b x y z) :=
  ⟨by simp [put3], fun k hk ht => put3_far (fun e => by subst e; exact ht _ _ hb) x y z⟩
theorem Pz.far {W W' : World} {base bp : Nat} {va vb vc : Value} {p : Pg} (h : Pz W base bp va vb vc p) (k : Kp 26 W W') (hb : W'.heap[bp]? = W.heap[bp]?) : Pz W' base bp va vb vc p :=
  ⟨h.le, hb.trans h.box, own_kp h.ds k (by decide), ownV_kp h.ws k (by decide) (by decide) (by decide), h.fs.kp k (by decide) (by decide)⟩
theorem pq_new (w : World) : Pq w (.slice none 0 0) (.slice none 0 0) (.slice none 0 0) Pg.none ((w.alloc zBox).alloc zBox) := by
  have hb1 : Below w.heap.size w (w.alloc zBox) := (Below.refl _ _).alloc (Nat.le_refl _) _
  have hs1 : (w.alloc zBox).heap.size = w.heap.size + 1 := by simp
  have hb2 : Below w.heap.size w ((w.alloc zBox).alloc zBox) := hb1.alloc (by omega) _
  have h1 : ((w.alloc zBox).alloc zBox).heap[w.heap.size + 1]? = some zBox := by
    have := heap_alloc_new (w.alloc zBox) zBox
    rwa [hs1] at this
  have h0 : ((w.alloc zBox).alloc zBox).heap[w.heap.size]? = some zBox :=
    (((Below.refl (w.alloc zBox).heap.size (w.alloc zBox)).alloc (Nat.le_refl _) zBox).block _ (by omega)).trans (heap_alloc_new w zBox)
  unfold zBox at h1
  exact ⟨hb2, h0, Nat.le_refl _, h1, Own.nil _ _, OwnV.nil _ _, OwnL.nil _ _ (by simp)⟩
theorem pat_none (W : World) : PAt W (.agg #[.slice none 0 0, .slice none 0 0, .slice none 0 0]) Pg.none :=
  ⟨none, none, none, 0, 0, 0, rfl, fun j hj => absurd hj (Nat.not_lt_zero j), WsAt.nil _ _, FsAt.nil _ _⟩
theorem par_ret {w W : World} {s : List UInt8} {x y z : Value} {q : Pg} {n c : Nat} {act : Act} (h2 : act.tmps[2]?.getD undef = .pointer (some ⟨w.heap.size, 0, none⟩)) (h3 : act.tmps[3]?.getD undef = .int .i64 (n : Int)) (h4 : act.tmps[4]?.getD undef = .int .i64 (c : Int)) (hd : act.defers = [])
    (hx : W.heap[w.heap.size]? = some (.cells #[x, y, z] 26 (0, 0))) (hp : PAt W (.agg #[x, y, z]) q) (hb : Below w.heap.size w W) (hq : parse s = (q, n, c)) :
    bodyPost Tryz.prog Tryz.f13 (ParsePost s w) .ret act W := by
  obtain ⟨A, B, C, ca, cb, cc, e, g1, g2, g3⟩ := hp
  injection e with e
  have e1 : x = .slice A q.ds.length ca := by have := congrArg (fun a : Array Value => a[0]?) e; simpa using this
  have e2 : y = .slice B q.ws.length cb := by have := congrArg (fun a : Array Value => a[1]?) e; simpa using this
  have e3 : z = .slice C q.fs.length cc := by have := congrArg (fun a : Array Value => a[2]?) e; simpa using this
  subst e1 e2 e3
  obtain ⟨x0, x1, x2, _, _, _⟩ := cells3 hx
  refine bodyPost_ret (v := .tuple #[.agg #[.slice A q.ds.length ca, .slice B q.ws.length cb, .slice C q.fs.length cc], .int .i64 (n : Int), .int .i64 (c : Int)]) ?_ hd ⟨_, by rw [hq], by rw [hq]; exact ⟨A, B, C, ca, cb, cc, rfl, g1, g2, g3⟩, hb⟩
  simp [results, Tryz.results13, go_sem, h2, h3, h4, x0, x1, x2]

set_option maxRecDepth 100000 in
set_option maxHeartbeats 8000000 in
theorem parse_any (s : List UInt8) (w : World) (hw : Okz w) : Calls Tryz.prog 13 #[.string ⟨s.toArray⟩] w (ParsePost s w) := by
  by_cases hl : s.length ≤ 60000
  · have HW := Lib.hid hw
    have HX0 := Lib.hid (pq_new w)
    have hng : ¬ (60000 : Int) < (s.length : Int) := by omega
    have HZ := Lib.hid (parse_good (s := s) (p := Pg.none) hl)
    have HL : Hid (s.length ≤ 60000) := Lib.hid hl
    unfold zBox at HX0
    clear hw HZ
    go_enter Tryz.func13, Tryz.ntmps13
    go_upto_region 5 with fail
    generalize (w.alloc (.cells #[.slice none 0 0, .slice none 0 0, .slice none 0 0] 26)).alloc (.cells #[.slice none 0 0, .slice none 0 0, .slice none 0 0] 26) = W0 at *
    go_loopw [0, 6] (fun v i wr => ∃ (t : List UInt8) (k n : Nat) (p : Pg) (va vb vc : Value), v = .string ⟨t.toArray⟩ ∧ i = .int .i64 ((n : Int) + 1) ∧ n + t.length ≤ 60000 ∧ Hid (t.length < k ∧ (itemsP p).length + t.length ≤ 60000 ∧ readT (s.length + 1) 0 Pg.none s = readT k n p t) ∧ Hid (Pq w va vb vc p wr)) (fun _ i _ => 60002 - (intOf i).toNat)
    case atStart => exact ⟨s, s.length + 1, 0, Pg.none, _, _, _, rfl, by rfl, by omega, Lib.hid ⟨by omega, by simpa [itemsP, Pg.none] using hl, rfl⟩, HX0⟩
    case round =>
      clear HX0
      obtain ⟨t, k, n, p, va, vb, vc, rfl, rfl, hn, HH, HX⟩ := hrel
      obtain ⟨k, rfl⟩ : ∃ k', k = k' + 1 := ⟨k - 1, by have := HH.out.1; omega⟩
      obtain ⟨A, ca, hva⟩ : ∃ A ca, va = .slice A p.ds.length ca := HX.out.pz.ds.slice
      obtain ⟨B, cb, hvb⟩ : ∃ A ca, vb = .slice A p.ws.length ca := HX.out.pz.ws.slice
      obtain ⟨C, cc, hvc⟩ : ∃ A ca, vc = .slice A p.fs.length ca := HX.out.pz.fs.slice
      subst hva hvb hvc
      by_cases ht : t = []
      · subst ht
        have HG : Hid (parse s = if chkP p ≠ 0 then (Pg.none, 0, chkP p) else (p, 0, 0)) := Lib.hid (parse_good HL.out (HH.out.2.2.trans (readT_end k n p)))
        have hil := items_len p
        have HCk := Lib.hid (check_any (.agg #[.slice A p.ds.length ca, .slice B p.ws.length cb, .slice C p.fs.length cc]) p (by have := HH.out.2.1; omega) wr HX.out.pz.pat (HW.out.next HX.out.below).prog)
        unfold NumPost at HCk
        obtain ⟨x0, x1, x2, x3, x4, x5⟩ := cells3 HX.out.pz.box
        clear hil HH
        by_cases hz : chkP p = 0
        · have HG2 : Hid (parse s = (p, 0, 0)) := Lib.hid (by rw [HG.out, if_neg (fun h => h hz)])
          rw [hz] at HCk
          clear HG hz
          go_wp2_with fail
          refine HCk.out.mono ?_
          rintro e w1 ⟨rfl, hb1⟩
          have HX1 := Lib.hid (HX.out.next hb1)
          obtain ⟨y0, y1, y2, y3, y4, y5⟩ := cells3 HX1.out.pz.box
          have hzb := HX1.out.box
          unfold zBox at hzb
          obtain ⟨z0, z1, z2, z3, z4, z5⟩ := cells3 hzb
          have HZb := Lib.hid hzb
          clear hb1 HCk x0 x1 x2 x3 x4 x5 HX hzb
          go_wp2_with fail
          exact par_ret (n := 0) (c := 0) rfl rfl rfl rfl (put3_same HZb.out _ _ _) (HX1.out.pz.far (put3_kp HZb.out _ _ _) (put3_far (by omega) _ _ _)).pat (put3_below HX1.out.below (Nat.le_refl _) _ _ _) HG2.out
        · have HG2 : Hid (parse s = (Pg.none, 0, chkP p)) := Lib.hid (by rw [HG.out, if_pos hz])
          have hne : ((chkP p : Int) != 0) = true := by simpa using hz
          clear HG hz
          generalize chkP p = q at *
          go_wp2_with fail
          refine HCk.out.mono ?_
          rintro e w1 ⟨rfl, hb1⟩
          have HX1 := Lib.hid (HX.out.next hb1)
          have hzb := HX1.out.box
          unfold zBox at hzb
          obtain ⟨z0, z1, z2, z3, z4, z5⟩ := cells3 hzb
          have HZb := Lib.hid hzb
          clear hb1 HCk x0 x1 x2 x3 x4 x5 HX hzb
          go_wp2_with fail
          exact par_ret (n := 0) (c := q) rfl rfl rfl rfl (put3_same HZb.out _ _ _) (pat_none _) (put3_below HX1.out.below (Nat.le_refl _) _ _ _) HG2.out
      · have hq : (t == []) = false := beq_eq_false_iff_ne.2 ht
        have hCu := cut_any t 10 (by omega) wr (HW.out.next HX.out.below)
        rw [cut_feed] at hCu
        by_cases hbh : behind t = []
        · have HG2 : Hid (parse s = (Pg.none, n + 1, 2)) := Lib.hid (parse_bad HL.out (HH.out.2.2.trans (readT_cut ht hbh)))
          rw [hbh] at hCu
          have HCu : Hid (Calls Tryz.prog 34 #[.string ⟨t.toArray⟩, .string ⟨#[10]⟩] wr fun e w' => e = .returned (.tuple #[.string ⟨(lineOf t).toArray⟩, .string ⟨([] : List UInt8).toArray⟩, .bool false]) ∧ Below wr.heap.size wr w') := Lib.hid hCu
          clear hCu hbh HH ht
          go_wp2_with fail
          refine HCu.out.mono ?_
          rintro e w1 ⟨rfl, hb1⟩
          have HX1 := Lib.hid (HX.out.next hb1)
          have hzb := HX1.out.box
          unfold zBox at hzb
          obtain ⟨z0, z1, z2, z3, z4, z5⟩ := cells3 hzb
          have HZb := Lib.hid hzb
          clear hb1 HCu HX hzb
          go_wp2_with fail
          exact par_ret (n := n + 1) (c := 2) rfl rfl rfl rfl (put3_same HZb.out _ _ _) (pat_none _) (put3_below HX1.out.below (Nat.le_refl _) _ _ _) HG2.out
        · have hstep := readT_step (k := k) (n := n) (p := p) ht hbh
          have hbl := behind_len hbh
          rw [show (!decide (behind t = [])) = true by simp [hbh]] at hCu
          have HCu : Hid (Calls Tryz.prog 34 #[.string ⟨t.toArray⟩, .string ⟨#[10]⟩] wr fun e w' => e = .returned (.tuple #[.string ⟨(lineOf t).toArray⟩, .string ⟨((behind t).drop 1).toArray⟩, .bool true]) ∧ Below wr.heap.size wr w') := Lib.hid hCu
          have HAd : Hid (∀ W, Below wr.heap.size wr W → Calls Tryz.prog 35 #[.pointer (some ⟨w.heap.size + 1, 0, none⟩), .string ⟨(lineOf t).toArray⟩] W (AddPost (w.heap.size + 1) (w.heap.size + 1) ((readItem (lineOf t)).bind (add p)) W)) := Lib.hid fun W hb =>
            add_any (lineOf t) (by omega) W _ _ _ _ _ p (HX.out.pz.next hb) (HW.out.next (HX.out.next hb).below) (by have := HH.out.2.1; omega)
          have HI := Lib.hid fun q (h : (readItem (lineOf t)).bind (add p) = some q) => (by
            cases hi : readItem (lineOf t) with
            | none => rw [hi] at h; cases h
            | some i =>
              rw [hi] at h
              rw [add_items (show add p i = some q from h), List.length_append]
              rfl : (itemsP q).length = (itemsP p).length + 1)
          unfold AddPost at HAd
          cases hr : (readItem (lineOf t)).bind (add p) with
          | none =>
            rw [hr] at HAd hstep
            have HG2 : Hid (parse s = (Pg.none, n + 1, 2)) := Lib.hid (parse_bad HL.out (HH.out.2.2.trans hstep))
            clear hCu hbh HH ht hr HI hstep
            generalize lineOf t = ln at *
            generalize (behind t).drop 1 = t2 at *
            go_wp2_with fail
            refine HCu.out.mono ?_
            rintro e w1 ⟨rfl, hb1⟩
            have HX1 := Lib.hid (HX.out.next hb1)
            have HA1 := Lib.hid (HAd.out _ hb1)
            clear hb1 HCu HX HAd
            go_wp2_with fail
            refine HA1.out.mono ?_
            rintro e w2 ⟨rfl, hb2, -⟩
            have HB2 := Lib.hid (HX1.out.add hb2)
            have hzb := HB2.out.2
            unfold zBox at hzb
            obtain ⟨z0, z1, z2, z3, z4, z5⟩ := cells3 hzb
            have HZb := Lib.hid hzb
            clear hb2 hzb HA1
            go_wp2_with fail
            exact par_ret (n := n + 1) (c := 2) rfl rfl rfl rfl (put3_same HZb.out _ _ _) (pat_none _) (put3_below HB2.out.1 (Nat.le_refl _) _ _ _) HG2.out
          | some q =>
            rw [hr] at HAd hstep
            have hql := HI.out q hr
            have HH2 : Hid (((behind t).drop 1).length < k ∧ (itemsP q).length + ((behind t).drop 1).length ≤ 60000 ∧ readT (s.length + 1) 0 Pg.none s = readT k (n + 1) q ((behind t).drop 1)) := Lib.hid ⟨by have := HH.out.1; omega, by have := HH.out.2.1; omega, HH.out.2.2.trans hstep⟩
            clear hCu hbh HH ht hr HI hstep hql
            generalize lineOf t = ln at *
            generalize (behind t).drop 1 = t2 at *
            go_wp2_with fail
            refine HCu.out.mono ?_
            rintro e w1 ⟨rfl, hb1⟩
            have HX1 := Lib.hid (HX.out.next hb1)
            have HA1 := Lib.hid (HAd.out _ hb1)
            clear hb1 HCu HX HAd
            go_wp2_with fail
            refine HA1.out.mono ?_
            rintro e w2 ⟨rfl, hb2, hpz⟩
            obtain ⟨va2, vb2, vc2, hpz⟩ := hpz q rfl
            have HX2 : Hid (Pq w va2 vb2 vc2 q w2) := Lib.hid ⟨(HX1.out.add hb2).1, (HX1.out.add hb2).2, hpz⟩
            clear hb2 hpz HA1
            go_wp2_with fail
            go_roundw
            case rel => exact ⟨t2, k, n + 1, q, va2, vb2, vc2, rfl, by go_num, by omega, HH2, HX2⟩
            case measure => simp [intOf]; omega
  · have hb0 : Below w.heap.size w (w.alloc zBox) := (Below.refl _ _).alloc (Nat.le_refl _) _
    have hx0 := heap_alloc_new w zBox
    have hgt : (60000 : Int) < (s.length : Int) := by omega
    have HP : Hid (parse s = (Pg.none, 0, 4)) := Lib.hid (by unfold parse; rw [if_pos (by omega)])
    unfold zBox at hb0 hx0
    obtain ⟨x0, x1, x2, x3, x4, x5⟩ := cells3 hx0
    clear hw hl
    go_enter Tryz.func13, Tryz.ntmps13
    go_wp2_with fail
    exact par_ret (n := 0) (c := 4) rfl rfl rfl rfl hx0 (pat_none _) hb0 HP.out
end Go.Proofs.YtnhoeboighndlaaGreatDoor.pgm.asm

/-
  The last step of each statement: below the blocks that were there nothing has turned, so the arguments read as they did. No condition.
-/
namespace Go.Proofs.YtnhoeboighndlaaGreatDoor.shut
open Go.ChangeShapes Go.WideShapes Go.RowKit
set_option linter.unusedVariables false

theorem laidOut : laidOutB Tryz.prog = true := by kernel_rfl
theorem own : ownKnob Tryz.prog.godebug = none := by kernel_rfl

section
variable {H : Type} {enc : TypeId × Value → H} {P : Program}
/-- What 'post' asks, where of the call's world only this is known: below the old size no block has turned. -/
theorem post_below {f : Func} {s : ChangeSpec} {apart fresh handsOn again : Bool} {W W' : World} {args : Array Value} {v : Value} {ds gs : List (DataW H)} {before pa pv : List MemPlace}
    (hW : DataW.Whole enc P f.params.toList s.vars apart W args.toList ds gs before)
    (hres : ∀ (b : Nat) (sp : Nat → Bool) (hd : Bool), DataW.TrodAll enc P W' b sp hd f.resultTypes.toList (v.resultList f.resultTypes.size) (s.fn H (ds ++ gs)).results [])
    (hargs : ∀ sp : Nat → Bool, (∀ p ∈ before, sp p.block = true) → DataW.TrodAll enc P W' 0 sp true f.params.toList args.toList (s.fn H (ds ++ gs)).args pa)
    (hvars : ∀ sp : Nat → Bool, (∀ p ∈ before, sp p.block = true) → DataW.TrodVars enc P W' sp s.vars (s.fn H (ds ++ gs)).vars pv)
    (hps : before = pa ++ pv) (hb : Below W.heap.size W W')
    (hok : ∀ (j : Nat) (t : TypeId) (r : Value), f.resultTypes[j]? = some t → (v.resultList f.resultTypes.size)[j]? = some r → Value.okWide P W' .any 0 t r) :
    s.post enc P f apart fresh handsOn again W args v W' := by
  have hlt : ∀ p ∈ before, p.block < W.heap.size := fun p hp => hW.lt p hp
  have hold : ∀ p ∈ before, (fun b => decide (b < W.heap.size)) p.block = true := fun p hp => by simpa using hlt p hp
  refine ⟨ds, gs, before, [], pa, pv, hW, hres _ _ _, hargs _ hold, hvars _ hold, World.keptBut_mono (fun p hp => ⟨hp, ?_⟩) (hb.frame (· ∈ before)), fun _ => ?_⟩
  · rw [hps, List.mem_append] at hp
    exact Or.inr hp
  · obtain ⟨_, _, _, _, _, hz, hn⟩ := hW
    refine ⟨hok, _, _, ([] ++ pa) ++ pv, ⟨[] ++ pa, pv, trodAll_append (hargs _ (fun _ _ => rfl)) (hres _ _ _), hvars _ (fun _ _ => rfl), rfl, ?_, ?_⟩, ?_⟩
    · intro b off hp
      have hin : MemPlace.cell b off ∈ before := by rw [hps]; simpa using hp
      rw [hb.frozen (hlt _ hin)]
      exact hz b off hin
    · intro ha
      have := hn ha
      rw [hps] at this
      simpa using this
    · intro p hp _
      rw [hps]
      simpa using hp
end
/-- AN ARRAY OF TEXTS THAT READS AS A LIST HOLDS THESE TEXTS, CELL FOR CELL. -/
theorem cells_of_texts {H : Type} {enc : TypeId × Value → H} {P : Program} {w : World} {base : Nat} {sp : Nat → Bool} {held : Bool} {fuel : Nat} {t e : TypeId} {n : Nat} {cs : List Value} {zs : List ByteArray} {p : List MemPlace}
    (ht : P.underlying t = some (.array n e)) (he : P.underlying e = some .string) (hce : P.cellsOf e = 1) (hct : P.cellsOf t = n)
    (h : DataW.trod enc P w base sp held fuel t cs = some (.agg (zs.map fun z => .lit (.string z.data.toList)), p)) : cs = zs.map fun z => Value.string z := by
  cases fuel with
  | zero => simp [DataW.trod] at h
  | succ fuel =>
    simp only [DataW.trod, ht, hce, hct, Nat.mul_one] at h
    split at h
    · rename_i hl
      obtain ⟨xs, hm, hx⟩ := Option.map_eq_some_iff.1 h
      have hxs : xs.map (·.1) = zs.map fun z => (DataW.lit (.string z.data.toList) : DataW H) := by
        have := congrArg Prod.fst hx
        simpa using this
      have hxl : xs.length = n := by simpa using Lib.mapM_length hm
      have hzl : zs.length = n := by
        have := congrArg List.length hxs
        simp at this
        omega
      apply List.ext_getElem?
      intro i
      by_cases hi : i < n
      · obtain ⟨b, hb, hf⟩ := Lib.mapM_at hm i i (by simp [hi])
        obtain ⟨z, hc, rfl, _⟩ := DataW.trod_string he hf
        have h1 : cs[i]? = some (.string z) := by
          have := congrArg (·[0]?) hc
          simpa [List.getElem?_take, List.getElem?_drop] using this
        have h2 : (xs.map (·.1))[i]? = some (DataW.lit (.string z.data.toList) : DataW H) := by simp [hb]
        rw [hxs] at h2
        simp only [List.getElem?_map, Option.map_eq_some_iff, DataW.lit.injEq, Lit.string.injEq] at h2
        obtain ⟨z', hz', he'⟩ := h2
        rw [h1, List.getElem?_map, hz', Option.map_some, bytes_inj he']
      · rw [List.getElem?_eq_none (by omega), List.getElem?_eq_none (by simp; omega)]
    · cases h

end Go.Proofs.YtnhoeboighndlaaGreatDoor.shut

/-
  What a row's condition on the tables of needs gives, and that the door's own heap meets it. No condition.
-/
namespace Go.Proofs.YtnhoeboighndlaaGreatDoor.need
open Go.RowKit Go.WideShapes Go.ChangeShapes
open Go.Proofs.YtnhoeboighndlaaGreatDoor.shut (cells_of_texts)
set_option linter.unusedVariables false

/-- The tables that each of these rows lists. -/
def laidE : List (String × DataW Unit) := [("math/bits.deBruijn32tab", Rows.laid_math_bits_deBruijn32tab), ("math/bits.deBruijn64tab", Rows.laid_math_bits_deBruijn64tab), ("internal/strconv.uint64pow10", Rows.laid_internal_strconv_uint64pow10), ("logjam/need.names", Rows.laid_logjam_need_names), ("logjam/need.asked", Rows.laid_logjam_need_asked)]
theorem laid_namesE : (Rows.laid_logjam_need_names : DataW Unit) = .agg (namesE.map fun z => .lit (.string z.data.toList)) := rfl
theorem gNamesE : Tryz.prog.globalNamed "logjam/need.names" = some 2 := by kernel_rfl
theorem gNamesEType : (Tryz.prog.globals[2]?).map (·.type) = some 105 := by kernel_rfl
theorem namesECells : Tryz.prog.cellsOf 105 = 6 := by kernel_rfl
theorem textCellsE : Tryz.prog.cellsOf 9 = 1 := by kernel_rfl
theorem gAskedE : Tryz.prog.globalNamed "logjam/need.asked" = some 4 := by kernel_rfl
theorem gAskedEType : (Tryz.prog.globals[4]?).map (·.type) = some 145 := by kernel_rfl
theorem askedECells : Tryz.prog.cellsOf 145 = 6 := by kernel_rfl
theorem intCellsE : Tryz.prog.cellsOf 3 = 1 := by kernel_rfl
theorem gPowType : (Tryz.prog.globals[5]?).map (·.type) = some 150 := by kernel_rfl
theorem powCells : Tryz.prog.cellsOf 150 = 20 := by kernel_rfl
theorem u64Cells : Tryz.prog.cellsOf 134 = 1 := by kernel_rfl
theorem lt_of_cell {W : World} {g : Nat} {v : Value} (h : W.cell? ⟨g, 0, none⟩ = some v) : g < W.heap.size := by
  rcases Nat.lt_or_ge g W.heap.size with h1 | h1
  · exact h1
  · simp [World.cell?, Array.getElem?_eq_none h1] at h
theorem names_of_head {W : World} {rest : List (String × DataW Unit)} (h : laidMet Tryz.prog (("logjam/need.names", Rows.laid_logjam_need_names) :: rest) W) : ∀ j, j < 6 → W.cell? ⟨2, j, none⟩ = some (.string (namesE.getD j ⟨#[]⟩)) := by
  obtain ⟨ps, ⟨g', t', cs, fuel, p, q, hg', ht', hvar, hd, _, _⟩, _⟩ := h
  obtain rfl := Option.some.inj (gNamesE.symm.trans hg')
  obtain rfl := Option.some.inj (gNamesEType.symm.trans ht')
  rw [laid_namesE] at hd
  have hcs := cells_of_texts Tryz.underlying105 Tryz.underlying9 textCellsE namesECells hd
  intro j hj
  have h1 := World.var?_cell gNamesE hvar j
  have hj' : j < namesE.length := hj
  rw [h1, ← Array.getElem?_toList, hcs, List.getElem?_map, List.getElem?_eq_getElem hj', Option.map_some, List.getD_eq_getElem?_getD, List.getElem?_eq_getElem hj', Option.getD_some]
theorem asked_of_head {W : World} {rest : List (String × DataW Unit)} (h : laidMet Tryz.prog (("logjam/need.asked", Rows.laid_logjam_need_asked) :: rest) W) : ∀ j, j < 6 → W.cell? ⟨4, j, none⟩ = some (.int .i64 (askedE.getD j 0)) := by
  have hT : Lib.TabIs Tryz.prog W "logjam/need.asked" .i64 askedE :=
    Lib.tabIs_of_head gAskedE gAskedEType Tryz.underlying145 Tryz.underlying3 intCellsE askedECells (zs := askedE) h
  intro j hj
  exact hT.cell gAskedE j hj
theorem pow_of_head {W : World} {rest : List (String × DataW Unit)} (h : laidMet Tryz.prog (("internal/strconv.uint64pow10", Rows.laid_internal_strconv_uint64pow10) :: rest) W) : Lib.TabIs Tryz.prog W "internal/strconv.uint64pow10" .u64 Lib.pow10Tab :=
  Lib.tabIs_of_head gPow gPowType Tryz.underlying150 Tryz.underlying134 u64Cells powCells (zs := Lib.pow10Tab) h
theorem of_laidE {W : World} (h : laidMetH Tryz.prog laidE W) : Oke W := by
  rw [MakeChecks.laidMetH_plain _ _ _ (by kernel_rfl)] at h
  have h3 := laidMet.tail (laidMet.tail h)
  have h4 := laidMet.tail h3
  have h5 := laidMet.tail h4
  have hp := pow_of_head h3
  have hn := names_of_head h4
  have ha := asked_of_head h5
  exact ⟨⟨hn, hp⟩, ⟨ha, lt_of_cell (ha 0 (by omega))⟩, lt_of_cell (hn 0 (by omega)), lt_of_cell (hp.cell gPow 0 (by decide))⟩

/-- The door's own heap meets the condition: three closed facts. -/
theorem door_metE (os : Go.Os) (args : Array Value) : laidMetH Tryz.prog laidE ((World.doorLaid Tryz.prog 92 os).forCall (fun _ _ => 0) ⟨#[], args, []⟩).memory :=
  laidMetH_of_parts3 (fuel := 8) (laidMet_of_run' 8 (by kernel_rfl) (by kernel_rfl)) (by kernel_rfl) (by kernel_rfl)
end Go.Proofs.YtnhoeboighndlaaGreatDoor.need

/-
  The last step of each statement: below the blocks that were there nothing has turned, so the arguments read as they did; and what the row's condition on the table of names gives. No condition.
-/
namespace Go.Proofs.YtnhoeboighndlaaGreatDoor.oper
open Go.RowKit Go.WideShapes Go.ChangeShapes

section
variable {H : Type} {enc : TypeId × Value → H} {P : Program}
/-- What 'post' asks, where of the call's world only this is known: below the old size no block has turned. -/
theorem post_below {f : Func} {s : ChangeSpec} {apart fresh handsOn again : Bool} {W W' : World} {args : Array Value} {v : Value} {ds gs : List (DataW H)} {before pa pv : List MemPlace}
    (hW : DataW.Whole enc P f.params.toList s.vars apart W args.toList ds gs before)
    (hres : ∀ (b : Nat) (sp : Nat → Bool) (hd : Bool), DataW.TrodAll enc P W' b sp hd f.resultTypes.toList (v.resultList f.resultTypes.size) (s.fn H (ds ++ gs)).results [])
    (hargs : ∀ sp : Nat → Bool, (∀ p ∈ before, sp p.block = true) → DataW.TrodAll enc P W' 0 sp true f.params.toList args.toList (s.fn H (ds ++ gs)).args pa)
    (hvars : ∀ sp : Nat → Bool, (∀ p ∈ before, sp p.block = true) → DataW.TrodVars enc P W' sp s.vars (s.fn H (ds ++ gs)).vars pv)
    (hps : before = pa ++ pv) (hb : Below W.heap.size W W')
    (hok : ∀ (j : Nat) (t : TypeId) (r : Value), f.resultTypes[j]? = some t → (v.resultList f.resultTypes.size)[j]? = some r → Value.okWide P W' .any 0 t r) :
    s.post enc P f apart fresh handsOn again W args v W' := by
  have hlt : ∀ p ∈ before, p.block < W.heap.size := fun p hp => hW.lt p hp
  have hold : ∀ p ∈ before, (fun b => decide (b < W.heap.size)) p.block = true := fun p hp => by simpa using hlt p hp
  refine ⟨ds, gs, before, [], pa, pv, hW, hres _ _ _, hargs _ hold, hvars _ hold, World.keptBut_mono (fun p hp => ⟨hp, ?_⟩) (hb.frame (· ∈ before)), fun _ => ?_⟩
  · rw [hps, List.mem_append] at hp
    exact Or.inr hp
  · obtain ⟨_, _, _, _, _, hz, hn⟩ := hW
    refine ⟨hok, _, _, ([] ++ pa) ++ pv, ⟨[] ++ pa, pv, trodAll_append (hargs _ (fun _ _ => rfl)) (hres _ _ _), hvars _ (fun _ _ => rfl), rfl, ?_, ?_⟩, ?_⟩
    · intro b off hp
      have hin : MemPlace.cell b off ∈ before := by rw [hps]; simpa using hp
      rw [hb.frozen (hlt _ hin)]
      exact hz b off hin
    · intro ha
      have := hn ha
      rw [hps] at this
      simpa using this
    · intro p hp _
      rw [hps]
      simpa using hp
end

theorem own : ownKnob Tryz.prog.godebug = none := by kernel_rfl

/-- AN ARRAY OF TEXTS THAT READS AS A LIST HOLDS THESE TEXTS, CELL FOR CELL. -/
theorem cells_of_texts {H : Type} {enc : TypeId × Value → H} {P : Program} {w : World} {base : Nat} {sp : Nat → Bool} {held : Bool} {fuel : Nat} {t e : TypeId} {n : Nat} {cs : List Value} {zs : List ByteArray} {p : List MemPlace}
    (ht : P.underlying t = some (.array n e)) (he : P.underlying e = some .string) (hce : P.cellsOf e = 1) (hct : P.cellsOf t = n)
    (h : DataW.trod enc P w base sp held fuel t cs = some (.agg (zs.map fun z => .lit (.string z.data.toList)), p)) : cs = zs.map fun z => Value.string z := by
  cases fuel with
  | zero => simp [DataW.trod] at h
  | succ fuel =>
    simp only [DataW.trod, ht, hce, hct, Nat.mul_one] at h
    split at h
    · rename_i hl
      obtain ⟨xs, hm, hx⟩ := Option.map_eq_some_iff.1 h
      have hxs : xs.map (·.1) = zs.map fun z => (DataW.lit (.string z.data.toList) : DataW H) := by
        have := congrArg Prod.fst hx
        simpa using this
      have hxl : xs.length = n := by simpa using Lib.mapM_length hm
      have hzl : zs.length = n := by
        have := congrArg List.length hxs
        simp at this
        omega
      apply List.ext_getElem?
      intro i
      by_cases hi : i < n
      · obtain ⟨b, hb, hf⟩ := Lib.mapM_at hm i i (by simp [hi])
        obtain ⟨z, hc, rfl, _⟩ := DataW.trod_string he hf
        have h1 : cs[i]? = some (.string z) := by
          have := congrArg (·[0]?) hc
          simpa [List.getElem?_take, List.getElem?_drop] using this
        have h2 : (xs.map (·.1))[i]? = some (DataW.lit (.string z.data.toList) : DataW H) := by simp [hb]
        rw [hxs] at h2
        simp only [List.getElem?_map, Option.map_eq_some_iff, DataW.lit.injEq, Lit.string.injEq] at h2
        obtain ⟨z', hz', he'⟩ := h2
        rw [h1, List.getElem?_map, hz', Option.map_some, bytes_inj he']
      · rw [List.getElem?_eq_none (by omega), List.getElem?_eq_none (by simp; omega)]
    · cases h

/-- The table that each of these rows lists. -/
def laid1 : List (String × DataW Unit) := [("logjam/op.names", Rows.laid_logjam_op_names)]
theorem laid_nm : (Rows.laid_logjam_op_names : DataW Unit) = .agg (nm.map fun z => .lit (.string z.data.toList)) := rfl
theorem gTab : Tryz.prog.globalNamed "logjam/op.names" = some 1 := by kernel_rfl
theorem gTabType : (Tryz.prog.globals[1]?).map (·.type) = some 95 := by kernel_rfl
theorem tabCells : Tryz.prog.cellsOf 95 = 52 := by kernel_rfl
theorem textCells1 : Tryz.prog.cellsOf 9 = 1 := by kernel_rfl
theorem tab_of_head {W : World} {rest : List (String × DataW Unit)} (h : laidMet Tryz.prog (("logjam/op.names", Rows.laid_logjam_op_names) :: rest) W) : Tab W ∧ 1 < W.heap.size := by
  obtain ⟨ps, ⟨g', t', cs, fuel, p, q, hg', ht', hvar, hd, _, _⟩, _⟩ := h
  obtain rfl := Option.some.inj (gTab.symm.trans hg')
  obtain rfl := Option.some.inj (gTabType.symm.trans ht')
  rw [laid_nm] at hd
  have hcs := cells_of_texts Tryz.underlying95 Tryz.underlying9 textCells1 tabCells hd
  have hc : Tab W := by
    intro j hj
    have h1 := World.var?_cell gTab hvar j
    have hj' : j < nm.length := hj
    rw [h1, ← Array.getElem?_toList, hcs, List.getElem?_map, List.getElem?_eq_getElem hj', Option.map_some, List.getD_eq_getElem?_getD, List.getElem?_eq_getElem hj', Option.getD_some]
  refine ⟨hc, ?_⟩
  have h0 := hc 0 (by omega)
  rcases Nat.lt_or_ge 1 W.heap.size with h1 | h1
  · exact h1
  · simp [World.cell?, Array.getElem?_eq_none h1] at h0
theorem of_laid {W : World} (h : laidMetH Tryz.prog laid1 W) : Tab W ∧ 1 < W.heap.size := by
  rw [MakeChecks.laidMetH_plain _ _ _ (by kernel_rfl)] at h
  exact tab_of_head h

/-- The door's own heap meets the condition: three closed facts. -/
theorem door_met (os : Os) (args : Array Value) : laidMetH Tryz.prog laid1 ((World.doorLaid Tryz.prog 92 os).forCall (fun _ _ => 0) ⟨#[], args, []⟩).memory :=
  laidMetH_of_parts3 (fuel := 8) (laidMet_of_run' 8 (by kernel_rfl) (by kernel_rfl)) (by kernel_rfl) (by kernel_rfl)
end Go.Proofs.YtnhoeboighndlaaGreatDoor.oper

/-
  What a row's condition on the table of kinds' names gives, and that the door's own heap meets it. No condition.
-/
namespace Go.Proofs.YtnhoeboighndlaaGreatDoor.objs
open Go.RowKit Go.WideShapes Go.ChangeShapes
open Go.Proofs.YtnhoeboighndlaaGreatDoor.shut (cells_of_texts)

/-- The table that each of these rows lists. -/
def laidD : List (String × DataW Unit) := [("logjam/decl.names", Rows.laid_logjam_decl_names)]
theorem laid_names : (Rows.laid_logjam_decl_names : DataW Unit) = .agg (names.map fun z => .lit (.string z.data.toList)) := rfl
theorem gTabd : Tryz.prog.globalNamed "logjam/decl.names" = some 0 := by kernel_rfl
theorem gTabdType : (Tryz.prog.globals[0]?).map (·.type) = some 88 := by kernel_rfl
theorem tabdCells : Tryz.prog.cellsOf 88 = 8 := by kernel_rfl
theorem textCellsD : Tryz.prog.cellsOf 9 = 1 := by kernel_rfl
theorem tabd_of_head {W : World} {rest : List (String × DataW Unit)} (h : laidMet Tryz.prog (("logjam/decl.names", Rows.laid_logjam_decl_names) :: rest) W) : Tabd W ∧ 0 < W.heap.size := by
  obtain ⟨ps, ⟨g', t', cs, fuel, p, q, hg', ht', hvar, hd, _, _⟩, _⟩ := h
  obtain rfl := Option.some.inj (gTabd.symm.trans hg')
  obtain rfl := Option.some.inj (gTabdType.symm.trans ht')
  rw [laid_names] at hd
  have hcs := cells_of_texts Tryz.underlying88 Tryz.underlying9 textCellsD tabdCells hd
  have hc : Tabd W := by
    intro j hj
    have h1 := World.var?_cell gTabd hvar j
    have hj' : j < names.length := hj
    rw [h1, ← Array.getElem?_toList, hcs, List.getElem?_map, List.getElem?_eq_getElem hj', Option.map_some, List.getD_eq_getElem?_getD, List.getElem?_eq_getElem hj', Option.getD_some]
  refine ⟨hc, ?_⟩
  have h0 := hc 0 (by omega)
  rcases Nat.lt_or_ge 0 W.heap.size with h1 | h1
  · exact h1
  · simp [World.cell?, Array.getElem?_eq_none h1] at h0
theorem of_laidD {W : World} (h : laidMetH Tryz.prog laidD W) : Tabd W ∧ 0 < W.heap.size := by
  rw [MakeChecks.laidMetH_plain _ _ _ (by kernel_rfl)] at h
  exact tabd_of_head h

/-- The door's own heap meets the condition: three closed facts. -/
theorem door_metD (os : Os) (args : Array Value) : laidMetH Tryz.prog laidD ((World.doorLaid Tryz.prog 92 os).forCall (fun _ _ => 0) ⟨#[], args, []⟩).memory :=
  laidMetH_of_parts3 (fuel := 8) (laidMet_of_run' 8 (by kernel_rfl) (by kernel_rfl)) (by kernel_rfl) (by kernel_rfl)
end Go.Proofs.YtnhoeboighndlaaGreatDoor.objs

/-
  What a row's condition on the tables gives, and that the door's own heap meets it. No condition.
-/
namespace Go.Proofs.YtnhoeboighndlaaGreatDoor.pgm
open Go.RowKit Go.WideShapes Go.ChangeShapes
open Go.Proofs.YtnhoeboighndlaaGreatDoor.need (askedE)
set_option linter.unusedVariables false

/-- The tables that each of these rows lists. -/
def laidG : List (String × DataW Unit) := [("logjam/op.names", Rows.laid_logjam_op_names), ("logjam/decl.names", Rows.laid_logjam_decl_names), ("logjam/need.asked", Rows.laid_logjam_need_asked)]
theorem gAskedG : Tryz.prog.globalNamed "logjam/need.asked" = some 4 := by kernel_rfl
theorem gAskedGType : (Tryz.prog.globals[4]?).map (·.type) = some 145 := by kernel_rfl
theorem askedGCells : Tryz.prog.cellsOf 145 = 6 := by kernel_rfl
theorem intCellsG : Tryz.prog.cellsOf 3 = 1 := by kernel_rfl
theorem lt_of_cellG {W : World} {g : Nat} {v : Value} (h : W.cell? ⟨g, 0, none⟩ = some v) : g < W.heap.size := by
  rcases Nat.lt_or_ge g W.heap.size with h1 | h1
  · exact h1
  · simp [World.cell?, Array.getElem?_eq_none h1] at h
theorem asked_of_headG {W : World} {rest : List (String × DataW Unit)} (h : laidMet Tryz.prog (("logjam/need.asked", Rows.laid_logjam_need_asked) :: rest) W) : ∀ j, j < 6 → W.cell? ⟨4, j, none⟩ = some (.int .i64 (askedE.getD j 0)) := by
  have hT : Lib.TabIs Tryz.prog W "logjam/need.asked" .i64 askedE :=
    Lib.tabIs_of_head gAskedG gAskedGType Tryz.underlying145 Tryz.underlying3 intCellsG askedGCells (zs := askedE) h
  intro j hj
  exact hT.cell gAskedG j hj
theorem of_laidG {W : World} (h : laidMetH Tryz.prog laidG W) : Okp W := by
  rw [MakeChecks.laidMetH_plain _ _ _ (by kernel_rfl)] at h
  have h2 := laidMet.tail h
  have h3 := laidMet.tail h2
  have ha := asked_of_headG h3
  exact ⟨Go.Proofs.YtnhoeboighndlaaGreatDoor.oper.tab_of_head h, Go.Proofs.YtnhoeboighndlaaGreatDoor.objs.tabd_of_head h2, ⟨ha, lt_of_cellG (ha 0 (by omega))⟩⟩

/-- The door's own heap meets the condition: three closed facts. -/
theorem door_metG (os : Go.Os) (args : Array Value) : laidMetH Tryz.prog laidG ((World.doorLaid Tryz.prog 92 os).forCall (fun _ _ => 0) ⟨#[], args, []⟩).memory :=
  laidMetH_of_parts3 (fuel := 8) (laidMet_of_run' 8 (by kernel_rfl) (by kernel_rfl)) (by kernel_rfl) (by kernel_rfl)
end Go.Proofs.YtnhoeboighndlaaGreatDoor.pgm

/-
  What the statements ask of the program's calls, kept; what a row's condition on the tables and the world's shape give; and a witness that meets both. No condition.
-/
namespace Go.Proofs.YtnhoeboighndlaaGreatDoor.pgm.asm
open Go.RowKit Go.WideShapes Go.ChangeShapes
open Go.Proofs.YtnhoeboighndlaaGreatDoor.pgm
open Go.Proofs.YtnhoeboighndlaaGreatDoor.digi (Okn)
open Go.Proofs.YtnhoeboighndlaaGreatDoor.need (Oke)
set_option linter.unusedVariables false

theorem keeps : Keeps Okz := ⟨fun _ _ h hb => h.next hb, fun o a b w hw ho ha hb => line_any o a b w hw ho ha hb, fun v p w hw hv hs => text_any v p w hw hv hs, fun s w hw => parse_any s w hw⟩

/-- The tables and errors that each of these rows lists. -/
def laidY : List (String × DataW Unit) := [("logjam/op.names", Rows.laid_logjam_op_names), ("math/bits.deBruijn32tab", Rows.laid_math_bits_deBruijn32tab), ("math/bits.deBruijn64tab", Rows.laid_math_bits_deBruijn64tab), ("internal/strconv.uint64pow10", Rows.laid_internal_strconv_uint64pow10), ("unicode/utf8.acceptRanges", Rows.laid_unicode_utf8_acceptRanges), ("strconv.ErrRange", Rows.laid_strconv_ErrRange), ("strconv.ErrSyntax", Rows.laid_strconv_ErrSyntax), ("logjam/decl.names", Rows.laid_logjam_decl_names), ("logjam/need.names", Rows.laid_logjam_need_names), ("logjam/need.asked", Rows.laid_logjam_need_asked), ("unicode/utf8.first", Rows.laid_unicode_utf8_first)]
theorem gRangeY : Tryz.prog.globalNamed "strconv.ErrRange" = some 11 := by kernel_rfl
theorem gSyntaxY : Tryz.prog.globalNamed "strconv.ErrSyntax" = some 10 := by kernel_rfl
theorem gRangeYType : (Tryz.prog.globals[11]?).map (·.type) = some 84 := by kernel_rfl
theorem gSyntaxYType : (Tryz.prog.globals[10]?).map (·.type) = some 84 := by kernel_rfl
theorem cellsErrY : Tryz.prog.cellsOf 180 = 1 := by kernel_rfl
theorem cellsStrY : Tryz.prog.cellsOf 9 = 1 := by kernel_rfl
theorem starY : "*" ++ "errors.errorString" = "*errors.errorString" := by decide
theorem rowErrY (u : TypeId) (h : Tryz.prog.typeName? 3 u = some "*errors.errorString") : u = 178 :=
  typeName_ptr_named (nm := "errors.errorString") (by rw [starY]; kernel_rfl) (by kernel_rfl) (by decide) u (by rw [starY]; exact h)
theorem mostY {W : World} (h : W.ShapedOpen Tryz.prog) : ∃ m, W.cell? ⟨3, 0, none⟩ = some (.int .i64 m) :=
  cell_of_shapedOpen_int (P := Tryz.prog) (g := 3) (t := 3) (zero := #[.int .i64 0]) h (of_decide_eq_true (by kernel_rfl)) (by kernel_rfl) rfl (by kernel_rfl) (by kernel_rfl) Tryz.underlying3
theorem of_laidY {W : World} (h : laidMetH Tryz.prog laidY W) (hs : W.ShapedOpen Tryz.prog) : Okz W := by
  rw [MakeChecks.laidMetH_plain _ _ _ (by kernel_rfl)] at h
  have h3 := laidMet.tail (laidMet.tail (laidMet.tail h))
  have h5 := laidMet.tail (laidMet.tail h3)
  have h6 := laidMet.tail h5
  have h7 := laidMet.tail h6
  have h8 := laidMet.tail h7
  have h9 := laidMet.tail h8
  have hp := Go.Proofs.YtnhoeboighndlaaGreatDoor.need.pow_of_head h3
  have hn := Go.Proofs.YtnhoeboighndlaaGreatDoor.need.names_of_head h8
  have ha := Go.Proofs.YtnhoeboighndlaaGreatDoor.need.asked_of_head h9
  have ha2 := asked_of_headG h9
  obtain ⟨a, s, hv, _, _, _⟩ := laid_sentinel h5 gRangeY gRangeYType Tryz.underlying84 rowErrY Tryz.underlying178 Tryz.underlying180 rfl rfl Tryz.underlying9 cellsErrY cellsStrY
  obtain ⟨a', s', hv', _, _, _⟩ := laid_sentinel h6 gSyntaxY gSyntaxYType Tryz.underlying84 rowErrY Tryz.underlying178 Tryz.underlying180 rfl rfl Tryz.underlying9 cellsErrY cellsStrY
  have c1 : W.cell? ⟨11, 0, none⟩ = some (.iface 178 (.pointer (some a))) := by simpa using World.var?_cell gRangeY hv 0
  have c2 : W.cell? ⟨10, 0, none⟩ = some (.iface 178 (.pointer (some a'))) := by simpa using World.var?_cell gSyntaxY hv' 0
  have lp := lt_of_cellG (hp.cell Go.Proofs.YtnhoeboighndlaaGreatDoor.need.gPow 0 (by decide))
  exact ⟨⟨Go.Proofs.YtnhoeboighndlaaGreatDoor.oper.tab_of_head h, Go.Proofs.YtnhoeboighndlaaGreatDoor.objs.tabd_of_head h7, ⟨ha2, lt_of_cellG (ha2 0 (by omega))⟩⟩,
    ⟨⟨hn, hp⟩, ⟨ha, lt_of_cellG (ha 0 (by omega))⟩, lt_of_cellG (hn 0 (by omega)), lp⟩,
    ⟨⟨_, _, _, _, c2, c1⟩, hp, lt_of_cellG c2, lt_of_cellG c1, lp⟩, mostY hs⟩

/-- A world in which all of them lie, and that meets the condition. -/
theorem shapedY (os : Go.Os) : (World.laidAll Tryz.prog os laidY).Shaped Tryz.prog := World.shaped_of_ZipB (by kernel_rfl) (by kernel_rfl)
theorem metY (os : Go.Os) (args : Array Value) : laidMetH Tryz.prog laidY ((World.laidAll Tryz.prog os laidY).forCall (fun _ _ => 0) ⟨#[], args, []⟩).memory := by
  rw [MakeChecks.laidMetH_plain _ _ _ (by kernel_rfl)]
  exact laidMet_laidAll _ (by kernel_rfl) (by kernel_rfl)

/-- The form of a claim out of a contract that is handed what the row's condition gives, and the world's shape. -/
theorem handed_shaped {H : Type} {enc : TypeId × Value → H} {a : Assume} {C : Checked} {os : Os} {f : FuncId} {fn : Func} {s : ChangeSpec} {conds : List PathCond} {apart fresh handsOn again : Bool} {X : World → Array Value → Prop}
    (hX : ∀ (w w' : World) (args : Array Value), w.heap = w'.heap → X w args → X w' args)
    (own : ownKnob C.prog.godebug = none) (started : os.Started) (noInit : C.prog.inits.idxOf? f = none) (hfn : C.prog.funcs[f]? = some fn)
    (witness : ∃ (w : World) (tape : Tape) (i : Input), w.os = os ∧ (w.forCall tape i).Shaped C.prog ∧ i.vars = [] ∧ Input.okWide C.prog (w.forCall tape i) .any w.heap.size f i ∧
      ((s.pre enc C.prog fn conds apart (w.forCall tape i).memory i.args ∧ X (w.forCall tape i).memory i.args) ∧ sizedMet enc C.prog fn (OpenSpec.ofChange s) apart (w.forCall tape i).memory i.args) ∧ a.holds C.prog (lone (Frame.enter C.prog f i.args .normal) [] (w.forCall tape i)))
    (contract : ∀ (W : World) (base : Nat) (args : Array Value) (ds gs : List (DataW H)) (before : List MemPlace),
      (∀ (j : Nat) t v, fn.params[j]? = some t → args[j]? = some v → Value.okWide C.prog W .any base t v) →
      DataW.Whole enc C.prog fn.params.toList s.vars apart W args.toList ds gs before →
      conds.all (PathCond.test C.prog ⟨fn.params.toList, ds, s.plain.varTypes C.prog, gs⟩) = true →
      X W args → W.ShapedOpen C.prog →
      Calls C.prog f args W fun e W' => ∃ v, e = .returned v ∧ s.post enc C.prog fn apart fresh handsOn again W args v W') :
    ReturnsInHanded a C os f .any (fun w args => (s.pre enc C.prog fn conds apart w args ∧ X w args) ∧ sizedMet enc C.prog fn (OpenSpec.ofChange s) apart w args) (s.post enc C.prog fn apart fresh handsOn again) := by
  refine returnsInHanded_of_calls own started noInit witness ?_
  intro w tape i _ hsh _ hok hpre _
  obtain ⟨_, _, _, fn', hfn', _, _, _, _, hval⟩ := hok
  obtain rfl : fn' = fn := Option.some.inj (hfn'.symm.trans hfn)
  obtain ⟨⟨⟨ds, gs, before, hw, hc⟩, hx⟩, _⟩ := hpre
  refine (contract (w.forCall tape i) w.heap.size i.args ds gs before hval (DataW.Whole.of_heap (w' := w.forCall tape i) (by rfl) hw) hc (hX _ _ _ (by rfl) hx) hsh).mono fun e W' ⟨v, he, hp⟩ => ?_
  subst he
  exact ChangeSpec.post_blind hp
end Go.Proofs.YtnhoeboighndlaaGreatDoor.pgm.asm
