/-
  Texts of one claim in one file: HOf, VProg, VUses, VClose. Each has its own sentence, with its conditions.
-/
import Derived.Test.YtbekfjjajggffaaDoorVall19
import Derived.Test.YtbekfjjajggffaaDoorVall27
import Derived.Test.YtbekfjjajggffaaDoorVall29
import Derived.StillTailTactics
import Derived.Deep.LoopGhost
import Derived.Test.YtbekfjjajggffaaDoorVall24
import Derived.Test.YtbekfjjajggffaaDoorVall25
import Derived.Test.YtbekfjjajggffaaDoorVall10
/-
  The program's own answer of the depths of a function (typed over the code of 5351f23): of every program that may be, and every number of a function.
-/
namespace Go.Proofs.YtbekfjjajggffaaDoor.pgm.dep
open Go.RowKit Go.ChangeShapes
open Go.Proofs.YtbekfjjajggffaaDoor.pgm
open Go.Proofs.YtbekfjjajggffaaDoor.objs (De zero DAt cells3)
open Go.Proofs.YtbekfjjajggffaaDoor.nums (NAt ints ints_at ints_length)
open Go.Proofs.YtbekfjjajggffaaDoor.span (within_any)
set_option linter.unusedVariables false

theorem below_drewN {B : Nat} {a w : World} (h : Below B a w) (n : Nat) : Below B a (w.drewN n) := ⟨h.os, h.tape, h.output, h.size, h.block⟩

theorem nat_row {W : World} {b : Nat} {l : List Int} (h : W.heap[b]? = some (.cells (ints l).toArray 3 (0, 0))) : NAt W (some ⟨b, 0, none⟩) l := fun j hj => by
  refine ⟨b, 0, rfl, lt_of_block h, ?_⟩
  rw [Nat.zero_add, cell_of_row W b j _ _ (0, 0) h, List.getElem?_toArray, Go.Proofs.YtbekfjjajggffaaDoor.nums.ints_at hj]
theorem funcs_of {p : Pg} (h : chkP p = 0) : p.fs.length ≤ 16 ∧ (∀ f ∈ p.fs, 0 ≤ f.ar ∧ f.ar ≤ 8) ∧ ∀ f ∈ p.fs, 0 < f.co.length ∧ f.co.length ≤ 200 ∧ ∀ x ∈ f.co, chkI x = 0 := by
  obtain ⟨_, _, _, _, g5, g6⟩ := chkP_zero h
  refine ⟨g5, fun f hf => ?_, fun f hf => ?_⟩
  · have := (chkFn_zero (g6 f hf)).1
    omega
  · have := chkFn_zero (g6 f hf)
    exact this.2
/-- What lies there between any two rounds: the next one has just been told. -/
structure Rnd (w : World) (bw bd ba n : Nat) (vF vC : Value) (fs : List Fn) (co : List De) (g k : Nat) (q : Q) (pl er : Int) (wr : World) : Prop where
  now : k = pick q.dp q.dn n
  mem : ∃ z, R n q.dp q.dn z ∧ Wk wr bw bd ba n vF vC ⟨z.dp, if k < n then z.ah.set k false else z.ah, k⟩ pl er
  bad : W2 n q pl er
  run : runQ fs co g q = runQ fs co n (startQ co)
  left : left q.dn ≤ g
  below : Below w.heap.size w wr
theorem Rnd.le {w : World} {bw bd ba n : Nat} {vF vC : Value} {fs : List Fn} {co : List De} {g k : Nat} {q : Q} {pl er : Int} {wr : World} (h : Rnd w bw bd ba n vF vC fs co g k q pl er wr) : k ≤ n := by
  obtain ⟨z, hz, _⟩ := h.mem
  rw [h.now]
  exact hz.next.1
/-- A round. -/
theorem Rnd.step {w : World} {bw bd ba n : Nat} {vF vC : Value} {fs : List Fn} {co : List De} {g k : Nat} {q : Q} {pl er : Int} {wr : World} (h : Rnd w bw bd ba n vF vC fs co g k q pl er wr) (hk : k < n) (hn : co.length = n) (hci : ∀ x ∈ co, chkI x = 0) :
    ∃ z1, Wk wr bw bd ba n vF vC z1 pl er ∧ z1.le ≤ n ∧ 0 ≤ z1.dp.getD k (-1) ∧ z1.dp.getD k (-1) ≤ 16 ∧ chkI (co.getD k zero) = 0 ∧ R n (stepQ fs co q k).dp (stepQ fs co q k).dn (lookZ n fs (co.getD k zero) k z1).1 ∧
      W2 n (stepQ fs co q k) (blameZ pl er k (lookZ n fs (co.getD k zero) k z1).2).1 (blameZ pl er k (lookZ n fs (co.getD k zero) k z1).2).2 ∧
      ∃ g', g = g' + 1 ∧ runQ fs co g' (stepQ fs co q k) = runQ fs co n (startQ co) ∧ Go.Proofs.YtbekfjjajggffaaDoor.pgm.dep.left (stepQ fs co q k).dn ≤ g' := by
  obtain ⟨z, hz, hm⟩ := h.mem
  have hp : pick q.dp q.dn n < n := by rw [← h.now]; exact hk
  have hx := hci _ (Go.Proofs.YtbekfjjajggffaaDoor.pgm.getD_in (d := zero) (by rw [hn]; exact hk))
  have h2 := (hz.next.2.2.2 hp).2
  rw [← h.now] at h2
  rw [if_pos hk] at hm
  obtain ⟨p1, p2⟩ := pick_lt hp
  rw [← h.now] at p1 p2
  have hl := h2.look (fs := fs) hn (a := k) hx
  have hls := left_set (l := q.dn) (a := k) (by rw [hz.ln]; exact hk) p1
  have hlg := h.left
  obtain ⟨g', rfl⟩ : ∃ g', g = g' + 1 := ⟨g - 1, by omega⟩
  refine ⟨_, hm, by show k ≤ n; omega, by show 0 ≤ z.dp.getD k (-1); rw [hz.same]; exact p2, by show z.dp.getD k (-1) ≤ 16; rw [hz.same]; exact (hz.at hk).2, hx, ?_, ?_, g', rfl, ?_, ?_⟩
  · rw [step_dn, step_dp]
    exact hl.2
  · rw [hl.1]
    exact h.bad.step hk
  · have hr := h.run
    rw [run_step (by rw [hn]; exact hp), hn, ← h.now] at hr
    exact hr
  · rw [step_dn]
    omega
/-- Behind the last round. -/
theorem Rnd.end {w : World} {bw bd ba : Nat} {vF vC : Value} {fs : List Fn} {co : List De} {g k : Nat} {q : Q} {pl er : Int} {wr : World} (h : Rnd w bw bd ba co.length vF vC fs co g k q pl er wr) (hk : ¬ k < co.length) :
    q = runQ fs co co.length (startQ co) ∧ ∃ z, z.dp = q.dp ∧ Wk wr bw bd ba co.length vF vC z pl er := by
  obtain ⟨z, hz, hm⟩ := h.mem
  refine ⟨?_, _, ?_, hm⟩
  · rw [← h.run, run_end (by rw [← h.now]; exact hk)]
  · exact hz.same

set_option maxRecDepth 100000 in
set_option maxHeartbeats 8000000 in
theorem of_any (v : Value) (p : Pg) (fn : Int) (w : World) (hv : PAt w v p) (hz : chkP p = 0) (hfn : I64 fn) : Calls Tryd.prog 43 #[v, .int .i64 fn] w (OfPost (depths p.fs fn) w) := by
  obtain ⟨A, B, C, ca, cb, cc, rfl, -, -, hF⟩ := hv
  obtain ⟨hfl, hfa, hfc⟩ := funcs_of hz
  unfold OfPost
  obtain ⟨r, hr⟩ : ∃ r, r = depths p.fs fn := ⟨_, rfl⟩
  rw [← hr]
  unfold depths at hr
  have hb0 : Below w.heap.size w (w.alloc (pgB (.slice A p.ds.length ca) (.slice B p.ws.length cb) (.slice C p.fs.length cc))) := (Below.refl _ _).alloc (Nat.le_refl _) _
  have hx0 := heap_alloc_new w (pgB (.slice A p.ds.length ca) (.slice B p.ws.length cb) (.slice C p.fs.length cc))
  have HWi := fun W => Lib.hid (within_any fn 0 ((p.fs.length : Int) - 1) W)
  have HB0 := Lib.hid hb0
  have HF := Lib.hid hF
  unfold pgB at hx0 HB0
  clear hb0
  by_cases hc : 0 ≤ fn ∧ fn ≤ (p.fs.length : Int) - 1
  · rw [decide_eq_true hc] at HWi
    rw [if_neg (by omega)] at hr
    dsimp only at hr
    obtain ⟨f, rfl⟩ : ∃ f : Nat, fn = (f : Int) := ⟨fn.toNat, by omega⟩
    rw [Int.toNat_natCast] at hr
    have hfl2 : f < p.fs.length := by omega
    obtain ⟨hc0, hc1, hci⟩ := hfc _ (Go.Proofs.YtbekfjjajggffaaDoor.pgm.getD_in (d := Fn.zero) hfl2)
    rw [if_neg (by omega)] at hr
    obtain ⟨gb, off, Aj, cj, rfl, hg, ⟨f0, f1, f2⟩, hD⟩ := hF f hfl2
    generalize (p.fs.getD f Fn.zero).co = co at *
    have HR := Lib.hid hr
    have HD := Lib.hid hD
    have HCI := Lib.hid hci
    have HFA := Lib.hid hfa
    have h0 : (0 : Int) ≤ (f : Int) := by omega
    have h1 : (f : Int) < (p.fs.length : Int) := by omega
    have f2' := (HB0.out.cell (p := ⟨gb, off + f * 3 + 2, none⟩) hg).trans f2
    clear hr hD hci hfa hfc hz hc f0 f1 f2 hF
    go_enter Tryd.func43, Tryd.ntmps43
    go_upto_region 1 with fail
    generalize hW0 : w.alloc (.cells #[.slice A p.ds.length ca, .slice B p.ws.length cb, .slice (some ⟨gb, off, none⟩) p.fs.length cc] 26) = W0 at *
    clear hW0
    obtain ⟨x0, x1, x2, -, -, -⟩ := cells3 hx0
    go_wp2_with fail
    refine (HWi _).out.mono ?_
    rintro _ _ ⟨rfl, rfl⟩
    go_wp2_with fail
    have HSt := Lib.hid (start_any W0.drew (some ⟨gb, off, none⟩) Aj p.fs.length cc co.length cj hc0 hc1)
    go_still_tail 8, (by kernel_rfl)
    change wpList _ _ _ _ _ W0.drew
    have HB1 : Hid (Below w.heap.size w W0.drew) := Lib.hid HB0.out.drew
    generalize W0.drew = W1 at *
    clear HB0 x0 x1 x2 f2' hx0 HWi
    go_wp2_with fail
    refine HSt.out.mono ?_
    rintro _ w2 ⟨bw, bd, ba, rfl, k1, k2, k3, hw2, hb2⟩
    have hs1 := HB1.out.size
    have HLo : Hid (w.heap.size ≤ bw ∧ w.heap.size ≤ bd ∧ w.heap.size ≤ ba) := Lib.hid ⟨by omega, by omega, by omega⟩
    have HB2 := Lib.hid (HB1.out.trans (hb2.mono HB1.out.size))
    have hst := R.start hc0
    have hnx := hst.next
    have HNx := Lib.hid (next_any w2 bw bd ba co.length _ Aj cj _ 0 0 (pick (startQ co).dp (startQ co).dn co.length) hw2 hc1 hnx.1 hnx.2.1 hnx.2.2.1 (fun h => (hnx.2.2.2 h).1))
    have HRn : ∀ w3, Wk w3 bw bd ba co.length (.slice (some ⟨gb, off, none⟩) p.fs.length cc) (.slice Aj co.length cj) ⟨0 :: List.replicate (co.length - 1) (-1), if pick (startQ co).dp (startQ co).dn co.length < co.length then (true :: List.replicate (co.length - 1) false).set (pick (startQ co).dp (startQ co).dn co.length) false else true :: List.replicate (co.length - 1) false, pick (startQ co).dp (startQ co).dn co.length⟩ 0 0 → Below w.heap.size w w3 →
        Hid (Rnd w bw bd ba co.length (.slice (some ⟨gb, off, none⟩) p.fs.length cc) (.slice Aj co.length cj) p.fs co co.length (pick (startQ co).dp (startQ co).dn co.length) (startQ co) 0 0 w3) := fun w3 h1 h2 => Lib.hid ⟨rfl, ⟨_, hst, h1⟩, W2.start co, rfl, left_start co, h2⟩
    clear hst hnx hw2 hb2 HSt HB1 k1 k2 k3
    generalize pick (startQ co).dp (startQ co).dn co.length = k at *
    go_wp2_with fail
    refine HNx.out.mono ?_
    rintro _ w3 ⟨rfl, hw3, ht3⟩
    have HR3 := HRn w3 hw3 (HB2.out.trans (ht3.below HLo.out.1 HLo.out.2.1 HLo.out.2.2 HB2.out.size))
    clear hw3 ht3 HNx HRn HB2
    go_wp2_with fail
    go_loopg [8, 9] co.length (fun g at' ok wr => ∃ (k : Nat) (q : Q) (pl er : Int), at' = .int .i64 (kv co.length k) ∧ ok = .bool (decide (k < co.length)) ∧ Hid (Rnd w bw bd ba co.length (.slice (some ⟨gb, off, none⟩) p.fs.length cc) (.slice Aj co.length cj) p.fs co g k q pl er wr))
    case atStart => exact ⟨k, startQ co, 0, 0, rfl, rfl, HR3⟩
    case round =>
      clear HR3
      obtain ⟨k, q, pl, er, rfl, rfl, HR3⟩ := hrel
      by_cases hk : k < co.length
      · obtain ⟨z1, hw, hle, hd0, hd1, hx, hR, hW, g', rfl, hrun, hleft⟩ := HR3.out.step hk rfl HCI.out
        have HB3 := Lib.hid HR3.out.below
        have HLk := Lib.hid (look_any wr bw bd ba co.length (some ⟨gb, off, none⟩) cc p.fs Aj cj co z1 pl er k hw (HF.out.next HB3.out) hfl HFA.out (HD.out.next HB3.out) rfl hc1 hk (by omega) hx hd0 hd1)
        have HRR := Lib.hid hR
        have HWW := Lib.hid hW
        have HRun := Lib.hid hrun
        have HLf := Lib.hid hleft
        clear HR3 hw hle hd0 hd1 hx hR hW hrun hleft
        generalize stepQ p.fs co q k = q' at *
        generalize lookZ co.length p.fs (co.getD k zero) k z1 = lz at *
        obtain ⟨z2, e2⟩ := lz
        dsimp only at *
        have ek : kv co.length k = (k : Int) := if_pos hk
        rw [ek, decide_eq_true hk]
        clear ek
        go_wp2_with fail
        refine HLk.out.mono ?_
        rintro _ w4 ⟨rfl, hw4, ht4⟩
        have HB4 := Lib.hid (HB3.out.trans (ht4.below HLo.out.1 HLo.out.2.1 HLo.out.2.2 HB3.out.size))
        have HBl := Lib.hid (blame_any w4 bw bd ba co.length _ _ z2 pl er k e2 hw4)
        clear hw4 ht4 HLk HB3
        generalize blameZ pl er k e2 = bz at *
        obtain ⟨pl2, er2⟩ := bz
        dsimp only at *
        go_wp2_with fail
        refine HBl.out.mono ?_
        rintro _ w5 ⟨rfl, hw5, ht5⟩
        have HB5 := Lib.hid (HB4.out.trans (ht5.below HLo.out.1 HLo.out.2.1 HLo.out.2.2 HB4.out.size))
        have hnx := HRR.out.next
        have HNx := Lib.hid (next_any w5 bw bd ba co.length _ Aj cj z2 pl2 er2 (pick q'.dp q'.dn co.length) hw5 hc1 hnx.1 hnx.2.1 hnx.2.2.1 (fun h => (hnx.2.2.2 h).1))
        have HRn : ∀ w6, Wk w6 bw bd ba co.length (.slice (some ⟨gb, off, none⟩) p.fs.length cc) (.slice Aj co.length cj) ⟨z2.dp, if pick q'.dp q'.dn co.length < co.length then z2.ah.set (pick q'.dp q'.dn co.length) false else z2.ah, pick q'.dp q'.dn co.length⟩ pl2 er2 → Below w.heap.size w w6 →
            Hid (Rnd w bw bd ba co.length (.slice (some ⟨gb, off, none⟩) p.fs.length cc) (.slice Aj co.length cj) p.fs co g' (pick q'.dp q'.dn co.length) q' pl2 er2 w6) := fun w6 h1 h2 => Lib.hid ⟨rfl, ⟨_, HRR.out, h1⟩, HWW.out, HRun.out, HLf.out, h2⟩
        clear hw5 ht5 HBl HB4 hnx HRR HWW HRun HLf
        generalize pick q'.dp q'.dn co.length = k2 at *
        go_wp2_with fail
        refine HNx.out.mono ?_
        rintro _ w6 ⟨rfl, hw6, ht6⟩
        have HR6 := HRn w6 hw6 (HB5.out.trans (ht6.below HLo.out.1 HLo.out.2.1 HLo.out.2.2 HB5.out.size))
        clear hw6 ht6 HNx HRn HB5
        go_wp2
        go_roundg g'
        case measure => omega
        case rel => exact ⟨k2, q', pl2, er2, rfl, rfl, HR6⟩
      · obtain ⟨hq, z, hzq, hw⟩ := HR3.out.end hk
        have hB := HR3.out.below
        have hW2 := HR3.out.bad
        rw [decide_eq_false hk]
        have hrr := HR.out
        rw [← hq] at hrr
        have hee := hW2.er
        have hpp := hW2.bad
        have hnr := nat_row hw.rd
        have hld := hw.ld
        obtain ⟨-, -, c2, -, -, c5, c6, -, -, -⟩ := hw.cells
        rw [hzq] at hnr hld
        by_cases hb : q.bad = 0
        · rw [if_neg (fun e => e hb)] at hrr
          subst hrr
          have e0 : er = 0 := by rw [hee, hb]; rfl
          subst e0
          have HN := Lib.hid hnr
          have HL := Lib.hid hld
          have HB := Lib.hid hB
          clear hB hnr hld hw hzq hq hb hee hpp hW2 c5 HR3 HR hk HD HF HCI HFA
          go_wp2
          go_ret3
          exact ⟨some ⟨bd, 0, none⟩, ⟨co.length, by rw [HL.out]; rfl⟩, HN.out, HB.out⟩
        · rw [if_pos hb] at hrr
          subst hrr
          have e1 := hpp hb
          subst e1
          subst hee
          have q0 : ((q.bad : Int) != 0) = true := by simpa using hb
          have HB := Lib.hid hB
          clear hB hnr hld hw hzq hq hb hpp hW2 c2 HR3 HR hk HD HF HCI HFA
          go_wp2
          go_quiet (fail)
          go_wp2
          go_ret3
          exact ⟨none, ⟨0, rfl⟩, NAt.nil _ _, HB.out.trans (below_drewN (Below.refl _ _) _)⟩
  · rw [decide_eq_false hc] at HWi
    rw [if_pos (by omega)] at hr
    subst hr
    clear hF hfa hfc hz hc
    go_enter Tryd.func43, Tryd.ntmps43
    go_upto_region 1 with fail
    generalize hW0 : w.alloc (.cells #[.slice A p.ds.length ca, .slice B p.ws.length cb, .slice C p.fs.length cc] 26) = W0 at *
    clear hW0
    obtain ⟨x0, x1, x2, -, -, -⟩ := cells3 hx0
    go_wp2_with fail
    refine (HWi _).out.mono ?_
    rintro _ _ ⟨rfl, rfl⟩
    go_wp2
    go_ret3
    exact ⟨none, 0, rfl, NAt.nil _ _, HB0.out⟩
end Go.Proofs.YtbekfjjajggffaaDoor.pgm.dep

/-
  The program's own answer of what is wrong with a program, and where (typed over the code of 674cbdc): of every program. The tables that prog.Check asks lie where they should.
-/
namespace Go.Proofs.YtbekfjjajggffaaDoor.pgm.ver
open Go.RowKit Go.ChangeShapes
open Go.Proofs.YtbekfjjajggffaaDoor.pgm
open Go.Proofs.YtbekfjjajggffaaDoor.pgm.dep (OfPost depths)
open Go.Proofs.YtbekfjjajggffaaDoor.objs (De zero DAt cells3)
open Go.Proofs.YtbekfjjajggffaaDoor.oper (insBox)
set_option linter.unusedVariables false

set_option maxRecDepth 100000 in
set_option maxHeartbeats 8000000 in
theorem checkFunc_any (v : Value) (p : Pg) (fn : Nat) (w : World) (hv : PAt w v p) (hz : chkP p = 0) (hlt : fn < p.fs.length) : Calls Tryd.prog 26 #[v, .int .i64 (fn : Int)] w fun e w' =>
    e = .returned (.tuple #[.int .i64 ((funV p fn).1 : Int), .int .i64 ((funV p fn).2 : Int)]) ∧ Below w.heap.size w w' := by
  obtain ⟨A, B, C, ca, cb, cc, rfl, hA, hB, hF⟩ := id hv
  obtain ⟨r, hr⟩ : ∃ r, r = funV p fn := ⟨_, rfl⟩
  rw [← hr]
  unfold funV at hr
  obtain ⟨g1, g2, g3, g4, g5, g6⟩ := chkP_zero hz
  have g0 := (Go.Proofs.YtbekfjjajggffaaDoor.objs.chk_zero g1).1
  have hfz := chkFn_zero (g6 _ (Go.Proofs.YtbekfjjajggffaaDoor.pgm.getD_in (d := Fn.zero) hlt))
  obtain ⟨⟨ha0, ha1, ha2⟩, hc0, hc1, hci⟩ := hfz
  have HOf := fun W h => Lib.hid (Go.Proofs.YtbekfjjajggffaaDoor.pgm.dep.of_any (.agg #[.slice A p.ds.length ca, .slice B p.ws.length cb, .slice C p.fs.length cc]) p (fn : Int) W h hz ⟨by omega, by omega⟩)
  unfold OfPost at HOf
  have H0 := Lib.hid (Hold.alloc (show Hold w [] w from ⟨Below.refl _ w, fun z hz => by cases hz⟩) (pgB (.slice A p.ds.length ca) (.slice B p.ws.length cb) (.slice C p.fs.length cc)))
  have HV := Lib.hid hv
  obtain ⟨gb, off, Aj, cj, hCe, hgb, ⟨f0w, f1w, f2w⟩, hDw⟩ := hF fn hlt
  subst hCe
  have k0 : (0 : Int) ≤ (fn : Int) := by omega
  have k1 : (fn : Int) < (p.fs.length : Int) := by omega
  have HCk := fun x hx W h => Lib.hid (checkIns_any (.agg #[.slice A p.ds.length ca, .slice B p.ws.length cb, .slice (some ⟨gb, off, none⟩) p.fs.length cc]) p (p.fs.getD fn Fn.zero) x Aj cj W h (by omega) (by omega) (by omega) (by omega) ⟨by omega, by omega⟩ hx)
  generalize depths p.fs (fn : Int) = dq at *
  generalize p.fs.getD fn Fn.zero = f at *
  obtain ⟨d0, d1, d2⟩ := dq
  obtain ⟨cv, hcv⟩ : ∃ cv, cv = codeV p f f.co 0 := ⟨_, rfl⟩
  rw [← hcv] at hr
  dsimp only at hr HOf
  have HE1 : Hid (cv.2 ≠ 0 → r = cv) := Lib.hid fun e => by rw [hr, if_pos e]
  have HE2 : Hid (cv.2 = 0 → r = (d1, d2)) := Lib.hid fun e => by rw [hr, if_neg (fun e1 => e1 e)]
  have HCv : Hid (cv = codeV p f (f.co.drop 0) 0) := Lib.hid hcv
  have HCI := Lib.hid hci
  have HDw := Lib.hid hDw
  have f0 := (H0.out.below.cell (p := ⟨gb, off + fn * 3, none⟩) hgb).trans f0w
  have f1 := (H0.out.below.cell (p := ⟨gb, off + fn * 3 + 1, none⟩) hgb).trans f1w
  have f2 := (H0.out.below.cell (p := ⟨gb, off + fn * 3 + 2, none⟩) hgb).trans f2w
  have hz1 : (w.alloc (pgB (.slice A p.ds.length ca) (.slice B p.ws.length cb) (.slice (some ⟨gb, off, none⟩) p.fs.length cc))).heap.size = w.heap.size + 1 := World.size_alloc _ _
  have H1 := H0.out.alloc (fnV f.ar f.lo Aj f.co.length cj)
  rw [hz1] at H1
  have HH2 := Lib.hid H1
  unfold pgB fnV at HH2
  unfold pgB at H0 f0 f1 f2 hz1
  clear hr hcv hci hDw f0w f1w f2w hA hB hF hv H1 hz g1 g3 g6
  go_enter Tryd.func26, Tryd.ntmps26
  go_upto_region 1 with fail
  obtain ⟨x0, x1, x2, -, -, -⟩ := cells3 (H0.out.all _ (List.mem_cons_self ..))
  generalize hW0 : w.alloc (.cells #[.slice A p.ds.length ca, .slice B p.ws.length cb, .slice (some ⟨gb, off, none⟩) p.fs.length cc] 26) = W0 at *
  clear hW0 H0
  go_upto_region 2 with fail
  try rw [hz1]
  clear x0 x1 x2 f0 f1 f2 hz1
  generalize W0.alloc (.cells #[.int .i64 f.ar, .int .i64 f.lo, .slice Aj f.co.length cj] 44) = W1 at *
  have hx1 := HH2.out.all _ (List.mem_cons_self ..)
  obtain ⟨y0, y1, y2, -, -, -⟩ := cells3 hx1
  go_wp2_with fail
  clear y0 y1 y2 hx1
  go_loopw [21] (fun i wq => ∃ i' : Nat, i = .int .i64 (i' : Int) ∧ i' ≤ f.co.length ∧ Hid (cv = codeV p f (f.co.drop i') i') ∧ Hid (Hold w [(w.heap.size + 1, .cells #[.int .i64 f.ar, .int .i64 f.lo, .slice Aj f.co.length cj] 44), (w.heap.size, .cells #[.slice A p.ds.length ca, .slice B p.ws.length cb, .slice (some ⟨gb, off, none⟩) p.fs.length cc] 26)] wq)) (fun i _ => f.co.length - (intOf i).toNat)
  case atStart => exact ⟨0, rfl, Nat.zero_le _, HCv, HH2⟩
  case round =>
    clear HCv HH2
    obtain ⟨i, rfl, hi, HC, HH2⟩ := hrel
    have hx1 := HH2.out.all _ (List.mem_cons_self ..)
    have hx0 := HH2.out.all _ (List.mem_cons_of_mem _ (List.mem_cons_self ..))
    obtain ⟨x0, x1, x2, -, -, -⟩ := cells3 hx0
    by_cases hil : i < f.co.length
    · have q2 : decide ((i : Int) < (f.co.length : Int)) = true := decide_eq_true (by omega)
      have k2 : (0 : Int) ≤ (i : Int) := by omega
      have k3 : (i : Int) < (f.co.length : Int) := by omega
      obtain ⟨b3, o3, rfl, hb3, c0, c1, c2⟩ := HDw.out.next HH2.out.below i hil
      have hxc := HCI.out _ (Go.Proofs.YtbekfjjajggffaaDoor.pgm.getD_in (d := zero) hil)
      have hE := HC.out
      rw [List.drop_eq_getElem_cons hil] at hE
      have eg : f.co[i] = f.co.getD i zero := by rw [List.getD_eq_getElem?_getD, List.getElem?_eq_getElem hil]; rfl
      rw [eg] at hE
      unfold codeV at hE
      have HCk2 := HCk (f.co.getD i zero) hxc
      generalize f.co.getD i zero = x at *
      have HH3 := Lib.hid (HH2.out.alloc (insBox x.1 x.2.1 x.2.2))
      have HCk3 := HCk2 (wr.alloc (insBox x.1 x.2.1 x.2.2)) (HV.out.next HH3.out.below)
      generalize insV p f x = iv at *
      have HE4 := Lib.hid hE
      unfold insBox at HH3 HCk3
      clear hE eg HC HH2 hxc HCk2 HCk hx0 hx1
      go_upto_region 5 with fail
      clear c0 c1 c2 x0 x1 x2
      generalize wr.alloc (.cells #[.int .i64 x.1, .int .i64 x.2.1, .int .i64 x.2.2] 46) = wr2 at *
      generalize wr.heap.size = bx at *
      have hx3 := HH3.out.all _ (List.mem_cons_self ..)
      have hx1 := HH3.out.all _ (List.mem_cons_of_mem _ (List.mem_cons_self ..))
      have hx0 := HH3.out.all _ (List.mem_cons_of_mem _ (List.mem_cons_of_mem _ (List.mem_cons_self ..)))
      obtain ⟨x0, x1, x2, -, -, -⟩ := cells3 hx0
      obtain ⟨y0, y1, y2, -, -, -⟩ := cells3 hx1
      obtain ⟨i0, i1, i2, -, -, -⟩ := cells3 hx3
      go_wp2_with fail
      refine HCk3.out.mono ?_
      rintro _ w5 ⟨rfl, hb5⟩
      have HH6 := Lib.hid (HH3.out.next hb5)
      clear hb5 HH3 HCk3 x0 x1 x2 y0 y1 y2 i0 i1 i2 hx0 hx1 hx3
      by_cases hov : iv = 0
      · subst hov
        have hII := HE4.out
        rw [if_neg (fun e => e rfl)] at hII
        have HI7 := Lib.hid hII
        have HH7 := Lib.hid (HH6.out.less (k := [(w.heap.size + 1, .cells #[.int .i64 f.ar, .int .i64 f.lo, .slice (some ⟨b3, o3, none⟩) f.co.length cj] 44), (w.heap.size, .cells #[.slice A p.ds.length ca, .slice B p.ws.length cb, .slice (some ⟨gb, off, none⟩) p.fs.length cc] 26)]) (fun z hz => List.mem_cons_of_mem _ hz))
        clear hII HE4 HH6
        rw [show ((0 : Nat) : Int) = 0 from rfl]
        go_wp2
        go_roundw
        case rel => exact ⟨i + 1, by go_num, by omega, HI7, HH7⟩
        case measure => simp [intOf]; omega
      · have hcv := HE4.out
        rw [if_pos hov] at hcv
        have hre := HE1.out (by rw [hcv]; exact hov)
        rw [hcv] at hre
        subst hre
        have q4 : ((iv : Int) != 0) = true := by simpa using hov
        have HB6 := Lib.hid HH6.out.below
        clear hov hcv HE1 HE2 HE4 HH6
        go_wp2
        go_ret2
        exact ⟨rfl, HB6.out⟩
    · obtain rfl : i = f.co.length := by omega
      have q2 : decide ((f.co.length : Int) < (f.co.length : Int)) = false := decide_eq_false (by omega)
      have hcv := HC.out
      rw [List.drop_length] at hcv
      have hre := HE2.out (by rw [hcv]; rfl)
      subst hre
      have HB2 := Lib.hid HH2.out.below
      have HOf2 := HOf _ (HV.out.next HB2.out)
      clear HOf hcv HC HCk hx0 hx1
      go_wp2_with fail
      refine HOf2.out.mono ?_
      rintro _ w5 ⟨Ao, co, rfl, -, hb5⟩
      have HH6 := Lib.hid (HH2.out.next hb5)
      clear hb5 HH2 HOf2 x0 x1 x2
      have HB6 := Lib.hid HH6.out.below
      clear HH6
      go_wp2
      go_ret2
      exact ⟨rfl, HB6.out⟩

def whB (a b : Int) : Obj := .cells #[.int .i64 a, .int .i64 b] 37
theorem put2_same {W : World} {b : Nat} {x y : Value} {T : TypeId} (h : W.heap[b]? = some (.cells #[x, y] T (0, 0))) (x' y' : Value) : ((W.setCell ⟨b, 0, none⟩ x').setCell ⟨b, 1, none⟩ y').heap[b]? = some (.cells #[x', y'] T (0, 0)) := by
  simp [World.setCell, Array.getElem?_modify, h]
theorem put2_below {w W : World} {b : Nat} (h : Below w.heap.size w W) (hb : w.heap.size ≤ b) (x' y' : Value) : Below w.heap.size w ((W.setCell ⟨b, 0, none⟩ x').setCell ⟨b, 1, none⟩ y') :=
  (h.setCell (p := ⟨b, 0, none⟩) hb _).setCell (p := ⟨b, 1, none⟩) hb _
theorem prog_ret {p : Pg} {w Z : World} {act : Act} (h2 : act.tmps[2]?.getD undef = .pointer (some ⟨w.heap.size + 1, 0, none⟩)) (h3 : act.tmps[3]?.getD undef = .int .i64 ((progV p).2.2 : Int)) (hd : act.defers = [])
    (hE : Z.heap[w.heap.size + 1]? = some (whB (progV p).1 (progV p).2.1)) (hb : Below w.heap.size w Z) : bodyPost Tryd.prog Tryd.f12 (ProgPost p w) .ret act Z := by
  obtain ⟨x0, x1⟩ := cells2 hE
  refine bodyPost_ret (v := .tuple #[.agg #[.int .i64 ((progV p).1 : Int), .int .i64 ((progV p).2.1 : Int)], .int .i64 ((progV p).2.2 : Int)]) ?_ hd ⟨rfl, hb⟩
  simp [results, Tryd.results12, go_sem, h2, h3, x0, x1]

set_option maxRecDepth 100000 in
set_option maxHeartbeats 8000000 in
theorem program_any (v : Value) (p : Pg) (w : World) (hw : Okp w) (hv : PAt w v p) (hs : SmallP p) : Calls Tryd.prog 12 #[v] w (ProgPost p w) := by
  obtain ⟨A, B, C, ca, cb, cc, rfl, hA, hB, hF⟩ := id hv
  have hs1 := hs.1
  have HRc := fun W h h2 => Lib.hid (check_any (.agg #[.slice A p.ds.length ca, .slice B p.ws.length cb, .slice C p.fs.length cc]) p (by omega) W h h2)
  unfold NumPost at HRc
  have hz1 : (w.alloc (pgB (.slice A p.ds.length ca) (.slice B p.ws.length cb) (.slice C p.fs.length cc))).heap.size = w.heap.size + 1 := World.size_alloc _ _
  have h0 := (Hold.alloc (show Hold w [] w from ⟨Below.refl _ w, fun z hz => by cases hz⟩) (pgB (.slice A p.ds.length ca) (.slice B p.ws.length cb) (.slice C p.fs.length cc))).alloc (whB 0 0)
  rw [hz1] at h0
  have H0 := Lib.hid h0
  have HV := Lib.hid hv
  have HF := Lib.hid hF
  have HW := Lib.hid hw
  have HPR : Hid (∀ (act : Act) (Z : World), act.tmps[2]?.getD undef = .pointer (some ⟨w.heap.size + 1, 0, none⟩) → act.tmps[3]?.getD undef = .int .i64 ((progV p).2.2 : Int) → act.defers = [] → Z.heap[w.heap.size + 1]? = some (.cells #[.int .i64 ((progV p).1 : Int), .int .i64 ((progV p).2.1 : Int)] 37) → Below w.heap.size w Z → bodyPost Tryd.prog Tryd.f12 (ProgPost p w) .ret act Z) :=
    Lib.hid fun act Z h2 h3 hd hE hb => prog_ret h2 h3 hd hE hb
  obtain ⟨r, hr⟩ : ∃ r, r = progV p := ⟨_, rfl⟩
  rw [← hr] at HPR
  unfold progV at hr
  unfold pgB whB at H0
  clear h0 hA hB hF hs hz1 hs1 hw
  by_cases hz : chkP p = 0
  · rw [if_neg (fun e => e hz)] at hr
    obtain ⟨g1, g2, g3, g4, g5, g6⟩ := chkP_zero hz
    have HFu := fun fn h W h2 => Lib.hid (checkFunc_any (.agg #[.slice A p.ds.length ca, .slice B p.ws.length cb, .slice C p.fs.length cc]) p fn W h2 hz h)
    rw [hz] at HRc
    have HR := Lib.hid hr
    clear hr g1 g3 g6 hz hv
    obtain ⟨gb, off, Aj0, cj0, hCe, hgb, ⟨f0, f1, f2⟩, _⟩ := HF.out 0 g4
    subst hCe
    generalize hA0 : (p.fs.getD 0 Fn.zero).ar = ar0 at *
    clear hA0
    go_enter Tryd.func12, Tryd.ntmps12
    go_upto_region 1 with fail
    generalize hW0 : (w.alloc (.cells #[.slice A p.ds.length ca, .slice B p.ws.length cb, .slice (some ⟨gb, off, none⟩) p.fs.length cc] 26)).alloc (.cells #[.int .i64 0, .int .i64 0] 37) = W0 at *
    clear hW0
    have hx0 := H0.out.all _ (List.mem_cons_of_mem _ (List.mem_cons_self ..))
    obtain ⟨x0, x1, x2, -, -, -⟩ := cells3 hx0
    go_wp2_with fail
    refine (HRc _ (HV.out.next H0.out.below) (HW.out.next H0.out.below)).out.mono ?_
    rintro _ w1 ⟨rfl, hb1⟩
    have H1 := Lib.hid (H0.out.next hb1)
    have hx1 := H1.out.all _ (List.mem_cons_of_mem _ (List.mem_cons_self ..))
    have f0' := (H1.out.below.cell (p := ⟨gb, off + 0 * 3, none⟩) hgb).trans f0
    rw [Nat.zero_mul, Nat.add_zero] at f0'
    clear hb1 x0 x1 x2 hx0 H0 f0 f1 f2 HRc
    obtain ⟨x0, x1, x2, -, -, -⟩ := cells3 hx1
    have h00 : (0 : Int) < (p.fs.length : Int) := by omega
    by_cases har : ar0 = 0
    · have q0 : (ar0 != 0) = false := by simpa using har
      have hrr := HR.out
      rw [if_neg (fun e => e har)] at hrr
      have HR2 : Hid (r = funsV p (p.fs.length - 0) 0) := Lib.hid hrr
      clear hrr HR har
      go_wp2_with fail
      clear x0 x1 x2 f0' hx1
      go_loopw [24] (fun i wr => ∃ fn : Nat, i = .int .i64 (fn : Int) ∧ fn ≤ p.fs.length ∧ Hid (r = funsV p (p.fs.length - fn) fn) ∧ Hid (Hold w [(w.heap.size + 1, .cells #[.int .i64 0, .int .i64 0] 37), (w.heap.size, .cells #[.slice A p.ds.length ca, .slice B p.ws.length cb, .slice (some ⟨gb, off, none⟩) p.fs.length cc] 26)] wr)) (fun i _ => p.fs.length - (intOf i).toNat)
      case atStart => exact ⟨0, rfl, Nat.zero_le _, HR2, H1⟩
      case round =>
        clear HR2 H1
        obtain ⟨fn, rfl, hfn, HE, HH⟩ := hrel
        have hx := HH.out.all _ (List.mem_cons_of_mem _ (List.mem_cons_self ..))
        have hy := HH.out.all _ (List.mem_cons_self ..)
        obtain ⟨x0, x1, x2, -, -, -⟩ := cells3 hx
        by_cases hlt : fn < p.fs.length
        · have q1 : decide ((fn : Int) < (p.fs.length : Int)) = true := decide_eq_true (by omega)
          have hE := HE.out
          rw [show p.fs.length - fn = (p.fs.length - (fn + 1)) + 1 by omega] at hE
          unfold funsV at hE
          have HF2 := HFu fn hlt wr (HV.out.next HH.out.below)
          generalize funV p fn = fv at *
          obtain ⟨d1, d2⟩ := fv
          dsimp only at hE HF2
          have HE := Lib.hid hE
          clear hE hx hy HFu
          go_wp2_with fail
          refine HF2.out.mono ?_
          rintro _ w5 ⟨rfl, hb5⟩
          have HH6 := Lib.hid (HH.out.next hb5)
          clear hb5 HH HF2 x0 x1 x2
          by_cases hd2 : d2 = 0
          · subst hd2
            have hre := HE.out
            rw [if_neg (fun e => e rfl)] at hre
            have HR7 := Lib.hid hre
            rw [show ((0 : Nat) : Int) = 0 from rfl]
            clear hre HE
            go_wp2
            go_roundw
            case rel => exact ⟨fn + 1, by go_num, by omega, HR7, HH6⟩
            case measure => simp [intOf]; omega
          · have hre := HE.out
            rw [if_pos hd2] at hre
            subst hre
            have q4 : ((d2 : Int) != 0) = true := by simpa using hd2
            have hy := HH6.out.all _ (List.mem_cons_self ..)
            obtain ⟨z0, z1⟩ := cells2 hy
            have hf0 : w5.frozen? ⟨w.heap.size + 1, 0, none⟩ = false := frozen_of_row w5 _ 0 _ _ hy
            have hf1 : w5.frozen? ⟨w.heap.size + 1, 1, none⟩ = false := frozen_of_row w5 _ 1 _ _ hy
            have HY := Lib.hid hy
            clear HE hd2 hy
            go_wp2_with fail
            exact HPR.out _ _ rfl rfl rfl (put2_same HY.out _ _) (put2_below HH6.out.below (Nat.le_succ _) _ _)
        · obtain rfl : fn = p.fs.length := by omega
          have q1 : decide ((p.fs.length : Int) < (p.fs.length : Int)) = false := decide_eq_false (by omega)
          have hre := HE.out
          rw [Nat.sub_self] at hre
          have hre2 : r = (0, 0, 0) := hre
          subst hre2
          obtain ⟨z0, z1⟩ := cells2 hy
          have hf0 : wr.frozen? ⟨w.heap.size + 1, 0, none⟩ = false := frozen_of_row wr _ 0 _ _ hy
          have hf1 : wr.frozen? ⟨w.heap.size + 1, 1, none⟩ = false := frozen_of_row wr _ 1 _ _ hy
          have HY := Lib.hid hy
          clear HE hre hx hy HFu
          go_wp2_with fail
          exact HPR.out _ _ rfl rfl rfl (put2_same HY.out _ _) (put2_below HH.out.below (Nat.le_succ _) _ _)
    · have q0 : (ar0 != 0) = true := by simpa using har
      have hrr := HR.out
      rw [if_pos har] at hrr
      subst hrr
      have hy := H1.out.all _ (List.mem_cons_self ..)
      obtain ⟨z0, z1⟩ := cells2 hy
      have hf0 : w1.frozen? ⟨w.heap.size + 1, 0, none⟩ = false := frozen_of_row w1 _ 0 _ _ hy
      have hf1 : w1.frozen? ⟨w.heap.size + 1, 1, none⟩ = false := frozen_of_row w1 _ 1 _ _ hy
      have HY := Lib.hid hy
      clear HR har hy HFu hx1
      go_wp2_with fail
      exact HPR.out _ _ rfl rfl rfl (put2_same HY.out _ _) (put2_below H1.out.below (Nat.le_succ _) _ _)
  · have q0 : ((chkP p : Int) != 0) = true := by simpa using hz
    rw [if_pos hz] at hr
    subst hr
    generalize chkP p = cp at *
    clear hz hv
    go_enter Tryd.func12, Tryd.ntmps12
    go_upto_region 1 with fail
    generalize hW0 : (w.alloc (.cells #[.slice A p.ds.length ca, .slice B p.ws.length cb, .slice C p.fs.length cc] 26)).alloc (.cells #[.int .i64 0, .int .i64 0] 37) = W0 at *
    clear hW0
    have hx0 := H0.out.all _ (List.mem_cons_of_mem _ (List.mem_cons_self ..))
    obtain ⟨x0, x1, x2, -, -, -⟩ := cells3 hx0
    clear hx0
    go_wp2_with fail
    refine (HRc _ (HV.out.next H0.out.below) (HW.out.next H0.out.below)).out.mono ?_
    rintro _ w1 ⟨rfl, hb1⟩
    have H1 := Lib.hid (H0.out.next hb1)
    have hy := H1.out.all _ (List.mem_cons_self ..)
    obtain ⟨z0, z1⟩ := cells2 hy
    have hf0 : w1.frozen? ⟨w.heap.size + 1, 0, none⟩ = false := frozen_of_row w1 _ 0 _ _ hy
    have hf1 : w1.frozen? ⟨w.heap.size + 1, 1, none⟩ = false := frozen_of_row w1 _ 1 _ _ hy
    have HY := Lib.hid hy
    clear hb1 x0 x1 x2 H0 HRc hy
    go_wp2_with fail
    exact HPR.out _ _ rfl rfl rfl (put2_same HY.out _ _) (put2_below H1.out.below (Nat.le_succ _) _ _)
end Go.Proofs.YtbekfjjajggffaaDoor.pgm.ver

/-
  The program's own answer of which objects one uses (typed over the code of 674cbdc): of every program that may be, and every number; and what is asked of its three calls, paid. The tables that prog.Check and the bits ask lie where they should.
-/
namespace Go.Proofs.YtbekfjjajggffaaDoor.pgm.ver
open Go.RowKit Go.ChangeShapes
open Go.Proofs.YtbekfjjajggffaaDoor.pgm
open Go.Proofs.YtbekfjjajggffaaDoor.objs (De zero DAt cells3)
open Go.Proofs.YtbekfjjajggffaaDoor.oper (insBox)
open Go.Proofs.YtbekfjjajggffaaDoor.inst (form)
open Go.Proofs.YtbekfjjajggffaaDoor.need (of_none)
open Go.Proofs.YtbekfjjajggffaaDoor.bits (Is64 els mem_els list_lies ListAt all_any allN allN_lt and_u64 or_u64 els_length_le)
set_option linter.unusedVariables false

set_option maxRecDepth 100000 in
set_option maxHeartbeats 16000000 in
theorem uses_any (v : Value) (p : Pg) (fn : Int) (w : World) (hw : Okv w) (hv : PAt w v p) (hz : chkP p = 0) (hfn : I64 fn) : Calls Tryd.prog 9 #[v, .int .i64 fn] w (SetPost (Usd p fn) w) := by
  obtain ⟨A, B, C, ca, cb, cc, rfl, hA, hB, hF⟩ := id hv
  obtain ⟨g1, g2, g3, g4, g5, g6⟩ := chkP_zero hz
  have g0 := (Go.Proofs.YtbekfjjajggffaaDoor.objs.chk_zero g1).1
  have HCa := fun W h h2 => Lib.hid (calls_any (.agg #[.slice A p.ds.length ca, .slice B p.ws.length cb, .slice C p.fs.length cc]) p fn W h h2 hz hfn)
  have HNa := fun x W h hx => Lib.hid (named_any (.agg #[.slice A p.ds.length ca, .slice B p.ws.length cb, .slice C p.fs.length cc]) p x W h hz hx)
  have HUs := fun l hl o => Lib.hid (used_iff hz (fn := fn) (l := l) hl o)
  unfold SetPost at *
  have HAl := fun W => Lib.hid (all_any (p.ds.length : Int) W)
  have HO0 := fun W => Lib.hid (of_none W)
  have hal := allN_lt (p.ds.length : Int)
  have H0 := Lib.hid (Hold.alloc (show Hold w [] w from ⟨Below.refl _ w, fun z hz => by cases hz⟩) (pgB (.slice A p.ds.length ca) (.slice B p.ws.length cb) (.slice C p.fs.length cc)))
  have HF := Lib.hid hF
  have HFC := Lib.hid g6
  have HV := Lib.hid hv
  have HW := Lib.hid hw
  have HAL := Lib.hid hal
  unfold pgB at H0
  clear hA hB hF hv hz g1 g3 g6 hw hal hfn
  go_enter Tryd.func9, Tryd.ntmps9
  go_upto_region 1 with fail
  generalize w.alloc (.cells #[.slice A p.ds.length ca, .slice B p.ws.length cb, .slice C p.fs.length cc] 26) = W0 at *
  obtain ⟨x0, x1, x2, -, -, -⟩ := cells3 (H0.out.all _ (List.mem_cons_self ..))
  go_wp2_with fail
  refine (HO0 _).out.mono ?_
  rintro _ _ ⟨rfl, rfl⟩
  go_wp2_with fail
  refine (HCa _ (HW.out.next H0.out.below) (HV.out.next H0.out.below)).out.mono ?_
  rintro _ w1 ⟨s, rfl, hs6, hsb, hb1⟩
  have H1 := Lib.hid (H0.out.next hb1)
  have HLi := Lib.hid (list_lies s hs6 w1 (HW.out.next H1.out.below).tab (HW.out.next H1.out.below).small)
  have HL := Lib.hid (fun j => show j ∈ els s ↔ Rcd p.fs fn j from ⟨fun h => (hsb j).1 (mem_els.1 h).2, fun h => mem_els.2 ⟨bit_64 hs6 ((hsb j).2 h), (hsb j).2 h⟩⟩)
  have hle := els_length_le s
  clear hb1 H0 HCa hsb hs6 x0 x1 x2
  go_wp2_with fail
  refine HLi.out.mono ?_
  rintro _ w2 ⟨rfl, ⟨cur, hc0, hc1⟩, hb2⟩
  have hH2 := H1.out.next hb2
  have H2 : Hid (Hold w [(w1.heap.size, .cells cur 3), (w.heap.size, .cells #[.slice A p.ds.length ca, .slice B p.ws.length cb, .slice C p.fs.length cc] 26)] w2) := Lib.hid ⟨hH2.below, fun z hz => by
    rcases List.mem_cons.1 hz with rfl | hz
    · exact hc0
    · exact hH2.all z hz⟩
  have HC1 := Lib.hid hc1
  have HU2 := fun o => HUs (els s) HL.out o
  generalize els s = l at *
  generalize w1.heap.size = gl at *
  clear hH2 hb2 hc0 hc1 H1 HLi HUs
  go_wp2_with fail
  go_loopw [5, 16] (fun t i wr => ∃ j : Nat, j ≤ l.length ∧ i = .int .i64 (j : Int) ∧ t = .int .u64 ((usedL p l j : Nat) : Int) ∧ Hid (Hold w [(gl, .cells cur 3), (w.heap.size, .cells #[.slice A p.ds.length ca, .slice B p.ws.length cb, .slice C p.fs.length cc] 26)] wr)) (fun _ i _ => l.length - (intOf i).toNat)
  case atStart => exact ⟨0, Nat.zero_le _, rfl, rfl, H2⟩
  case round =>
    clear H2
    obtain ⟨j, hj, rfl, rfl, HH⟩ := hrel
    obtain ⟨x0, x1, x2, -, -, -⟩ := cells3 (HH.out.all _ (List.mem_cons_of_mem _ (List.mem_cons_self ..)))
    by_cases hlt : j < l.length
    · have q0 : decide ((j : Int) < (l.length : Int)) = true := decide_eq_true (by omega)
      have hj0 : (0 : Int) ≤ (j : Int) := by omega
      have hj1 : (j : Int) < (l.length : Int) := by omega
      have hm : l.getD j 0 ∈ l := Go.Proofs.YtbekfjjajggffaaDoor.pgm.getD_in (d := 0) hlt
      have hr := ((HL.out _).1 hm).lt
      have hcl : wr.cell? ⟨gl, j, none⟩ = some (.int .i64 ((l.getD j 0 : Nat) : Int)) := cell_in (HH.out.all _ (List.mem_cons_self ..)) (HC1.out j _ (by rw [List.getD_eq_getElem?_getD, List.getElem?_eq_getElem hlt]; rfl))
      have HE : Hid (usedL p l (j + 1) = usedC p (p.fs.getD (l.getD j 0) Fn.zero).co (usedL p l j) (p.fs.getD (l.getD j 0) Fn.zero).co.length) := Lib.hid rfl
      have HS := Lib.hid (usedL_64 (p := p) (l := l) j)
      generalize l.getD j 0 = q at *
      obtain ⟨gb, off, Aj, cj, rfl, hg, ⟨f0', f1', f2'⟩, hD⟩ := HF.out q hr
      have f2 := (HH.out.below.cell (p := ⟨gb, off + q * 3 + 2, none⟩) hg).trans f2'
      have hfz := chkFn_zero (HFC.out _ (Go.Proofs.YtbekfjjajggffaaDoor.pgm.getD_in (d := Fn.zero) hr))
      have HCI := Lib.hid hfz.2.2.2
      have hco := hfz.2.2.1
      have HD := Lib.hid hD
      generalize usedL p l j = u at *
      generalize (p.fs.getD q Fn.zero).co = co at *
      have k0 : (0 : Int) ≤ (q : Int) := by omega
      have k1 : (q : Int) < (p.fs.length : Int) := by omega
      clear hm hfz hD f0' f1' f2'
      go_wp2_with fail
      clear x0 x1 x2 hcl f2
      go_loopw [5, 27] (fun t i wq => ∃ i' : Nat, i' ≤ co.length ∧ i = .int .i64 (i' : Int) ∧ t = .int .u64 ((usedC p co u i' : Nat) : Int) ∧ Hid (Hold w [(gl, .cells cur 3), (w.heap.size, .cells #[.slice A p.ds.length ca, .slice B p.ws.length cb, .slice (some ⟨gb, off, none⟩) p.fs.length cc] 26)] wq)) (fun _ i _ => co.length - (intOf i).toNat)
      case atStart => exact ⟨0, Nat.zero_le _, rfl, rfl, HH⟩
      case round =>
        clear HH
        obtain ⟨i, hi, rfl, rfl, HH⟩ := hrel
        by_cases hil : i < co.length
        · have q2 : decide ((i : Int) < (co.length : Int)) = true := decide_eq_true (by omega)
          have k2 : (0 : Int) ≤ (i : Int) := by omega
          have k3 : (i : Int) < (co.length : Int) := by omega
          obtain ⟨b3, o3, rfl, hb3, c0, c1, c2⟩ := HD.out.next HH.out.below i hil
          have hxc := HCI.out _ (Go.Proofs.YtbekfjjajggffaaDoor.pgm.getD_in (d := zero) hil)
          have HE2 : Hid (usedC p co u (i + 1) = usedC p co u i ||| namedN p (co.getD i zero) (form (co.getD i zero).1).length) := Lib.hid rfl
          have b1 := or_u64 (usedC_64 HS.out (p := p) (co := co) i) (namedN_64 p (co.getD i zero) (form (co.getD i zero).1).length)
          have HN2 := HNa (co.getD i zero)
          generalize co.getD i zero = x at *
          have HH3 := Lib.hid (HH.out.alloc (insBox x.1 x.2.1 x.2.2))
          have HN3 := HN2 (wr.alloc (insBox x.1 x.2.1 x.2.2)) (HV.out.next HH3.out.below) hxc
          generalize namedN p x (form x.1).length = nn at *
          generalize usedC p co u i = u2 at *
          generalize u2 ||| nn = u3 at *
          unfold insBox at HH3 HN3
          clear HN2 HNa hxc HH
          go_upto_region 8 with fail
          clear c0 c1 c2
          generalize wr.alloc (.cells #[.int .i64 x.1, .int .i64 x.2.1, .int .i64 x.2.2] 46) = wr2 at *
          generalize wr.heap.size = bx at *
          obtain ⟨i0, i1, i2, -, -, -⟩ := cells3 (HH3.out.all _ (List.mem_cons_self ..))
          obtain ⟨x0, x1, x2, -, -, -⟩ := cells3 (HH3.out.all _ (List.mem_cons_of_mem _ (List.mem_cons_of_mem _ (List.mem_cons_self ..))))
          go_wp2_with fail
          refine HN3.out.mono ?_
          rintro _ w5 ⟨rfl, hb5⟩
          have HH7 := Lib.hid ((HH3.out.next hb5).less (k := [(gl, .cells cur 3), (w.heap.size, .cells #[.slice A p.ds.length ca, .slice B p.ws.length cb, .slice (some ⟨gb, off, none⟩) p.fs.length cc] 26)]) (fun z hz => List.mem_cons_of_mem _ hz))
          clear hb5 HH3 HN3 x0 x1 x2 i0 i1 i2
          go_wp2
          go_roundw
          case rel => exact ⟨i + 1, by omega, by go_num, by rw [HE2.out], HH7⟩
          case measure => simp [intOf]; omega
        · obtain rfl : i = co.length := by omega
          have q2 : decide ((co.length : Int) < (co.length : Int)) = false := decide_eq_false (by omega)
          clear HNa
          go_wp2
          go_roundw
          case rel => exact ⟨j + 1, by omega, by go_num, by rw [HE.out], HH⟩
          case measure => simp [intOf]; omega
    · obtain rfl : j = l.length := by omega
      have q0 : decide ((l.length : Int) < (l.length : Int)) = false := decide_eq_false (by omega)
      have HS := Lib.hid (usedL_64 (p := p) (l := l) l.length)
      have b1 := and_u64 HS.out HAL.out
      have HS2 := Lib.hid (and_64 (t := allN (p.ds.length : Int)) HS.out)
      generalize usedL p l l.length &&& allN (p.ds.length : Int) = r at *
      generalize allN (p.ds.length : Int) = al at *
      generalize usedL p l l.length = u at *
      have HB := Lib.hid HH.out.below
      clear HNa HH HL hj hlt
      go_wp2_with fail
      refine (HAl _).out.mono ?_
      rintro _ _ ⟨rfl, rfl⟩
      go_wp2
      go_ret
      exact ⟨r, rfl, HS2.out, fun o => (HU2 o).out, HB.out⟩

/-- The program's three calls are as they are asked. -/
theorem keeps : Keeps Okv where
  mono := fun _ _ h hb => h.next hb
  prog := fun v p w h h1 h2 => program_any v p w h.prog h1 h2
  calls := fun v p fn w h h1 h2 h3 => calls_any v p fn w h h1 h2 h3
  uses := fun v p fn w h h1 h2 h3 => uses_any v p fn w h h1 h2 h3
end Go.Proofs.YtbekfjjajggffaaDoor.pgm.ver

/-
  What a row's condition on the four tables gives, and that the door's own heap meets it. No condition.
-/
namespace Go.Proofs.YtbekfjjajggffaaDoor.pgm.ver
open Go.RowKit Go.WideShapes Go.ChangeShapes
open Go.Proofs.YtbekfjjajggffaaDoor.pgm
open Go.Proofs.YtbekfjjajggffaaDoor.bits (Tab)
set_option linter.unusedVariables false

/-- The tables that each of these rows lists. -/
def laidV : List (String × DataW Unit) := [("logjam/op.names", Rows.laid_logjam_op_names), ("math/bits.deBruijn64tab", Rows.laid_math_bits_deBruijn64tab), ("logjam/decl.names", Rows.laid_logjam_decl_names), ("logjam/need.asked", Rows.laid_logjam_need_asked)]
theorem gTabV : Tryd.prog.globalNamed "math/bits.deBruijn64tab" = some 0 := by kernel_rfl
theorem gTabVType : (Tryd.prog.globals[0]?).map (·.type) = some 96 := by kernel_rfl
theorem tabVCells : Tryd.prog.cellsOf 96 = 64 := by kernel_rfl
theorem byteVCells : Tryd.prog.cellsOf 5 = 1 := by kernel_rfl
theorem tab_of_headV {W : World} {rest : List (String × DataW Unit)} (h : laidMet Tryd.prog (("math/bits.deBruijn64tab", Rows.laid_math_bits_deBruijn64tab) :: rest) W) : Tab W ∧ 0 < W.heap.size := by
  have hT : Lib.TabIs Tryd.prog W "math/bits.deBruijn64tab" .u8 (Lib.deBruijn64tab.map fun n : Nat => (n : Int)) :=
    Lib.tabIs_of_head gTabV gTabVType Tryd.underlying96 Tryd.underlying5 byteVCells tabVCells (zs := Lib.deBruijn64tab.map fun n : Nat => (n : Int)) h
  have hc : Tab W := by
    intro j hj
    have h1 := hT.cell gTabV j (by simpa [Lib.deBruijn64tab] using hj)
    rw [h1]
    congr 2
    have hj' : j < Lib.deBruijn64tab.length := hj
    simp [List.getD, List.getElem?_map, List.getElem?_eq_getElem hj']
  exact ⟨hc, lt_of_cellG (hc 0 (by omega))⟩
theorem of_laidV {W : World} (h : laidMetH Tryd.prog laidV W) : Okv W := by
  rw [MakeChecks.laidMetH_plain _ _ _ (by kernel_rfl)] at h
  have h2 := laidMet.tail h
  have h3 := laidMet.tail h2
  have h4 := laidMet.tail h3
  have ha := asked_of_headG h4
  have ht := tab_of_headV h2
  exact ⟨⟨Go.Proofs.YtbekfjjajggffaaDoor.oper.tab_of_head h, Go.Proofs.YtbekfjjajggffaaDoor.objs.tabd_of_head h3, ⟨ha, lt_of_cellG (ha 0 (by omega))⟩⟩, ht.1, ht.2⟩

/-- The door's own heap meets the condition: three closed facts. -/
theorem door_metV (os : Go.Os) (args : Array Value) : laidMetH Tryd.prog laidV ((World.doorLaid Tryd.prog 29 os).forCall (fun _ _ => 0) ⟨#[], args, []⟩).memory :=
  laidMetH_of_parts3 (fuel := 8) (laidMet_of_run' 8 (by kernel_rfl) (by kernel_rfl)) (by kernel_rfl) (by kernel_rfl)
end Go.Proofs.YtbekfjjajggffaaDoor.pgm.ver
