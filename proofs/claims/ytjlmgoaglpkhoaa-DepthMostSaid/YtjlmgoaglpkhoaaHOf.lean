/-
  The program's own answer of the depths of a function (typed over the code of 5351f23): of every program that may be, and every number of a function.
-/
import Derived.Test.YtjlmgoaglpkhoaaHStart
import Derived.Test.YtjlmgoaglpkhoaaHNext
import Derived.Test.YtjlmgoaglpkhoaaHLook
import Derived.Test.YtjlmgoaglpkhoaaHSpec
import Derived.StillTailTactics
import Derived.Deep.LoopGhost
namespace Go.Proofs.Ytjlmgoaglpkhoaa.pgm.dep
open Go.RowKit Go.ChangeShapes
open Go.Proofs.Ytjlmgoaglpkhoaa.pgm
open Go.Proofs.Ytjlmgoaglpkhoaa.objs (De zero DAt cells3)
open Go.Proofs.Ytjlmgoaglpkhoaa.nums (NAt ints ints_at ints_length)
open Go.Proofs.Ytjlmgoaglpkhoaa.span (within_any)
set_option linter.unusedVariables false

theorem below_drewN {B : Nat} {a w : World} (h : Below B a w) (n : Nat) : Below B a (w.drewN n) := ⟨h.os, h.tape, h.output, h.size, h.block⟩

theorem nat_row {W : World} {b : Nat} {l : List Int} (h : W.heap[b]? = some (.cells (ints l).toArray 3 (0, 0))) : NAt W (some ⟨b, 0, none⟩) l := fun j hj => by
  refine ⟨b, 0, rfl, lt_of_block h, ?_⟩
  rw [Nat.zero_add, cell_of_row W b j _ _ (0, 0) h, List.getElem?_toArray, ints_at hj]
theorem funcs_of {p : Pg} (h : chkP p = 0) : p.fs.length ≤ 16 ∧ (∀ f ∈ p.fs, 0 ≤ f.ar ∧ f.ar ≤ 8) ∧ ∀ f ∈ p.fs, 0 < f.co.length ∧ f.co.length ≤ 200 ∧ ∀ x ∈ f.co, chkI x = 0 := by
  obtain ⟨_, _, _, _, g5, g6⟩ := chkP_zero h
  refine ⟨g5, fun f hf => ?_, fun f hf => ?_⟩
  · have := (chkFn_zero (g6 f hf)).1
    omega
  · have := chkFn_zero (g6 f hf)
    exact this.2
/-- What lies there between any two rounds: the next one has just been told. -/
structure Rnd (w : World) (bw bd ba n : Nat) (vF vC : Value) (fs : List Fn) (co : List De) (g k : Nat) (q : Q) (pl er : Int) (wr : World) : Prop where
  now : k = pick q.dp q.dn n
  mem : ∃ z, R n q.dp q.dn z ∧ Wk wr bw bd ba n vF vC ⟨z.dp, if k < n then z.ah.set k false else z.ah, k⟩ pl er
  bad : W2 n q pl er
  run : runQ fs co g q = runQ fs co n (startQ co)
  left : left q.dn ≤ g
  below : Below w.heap.size w wr
theorem Rnd.le {w : World} {bw bd ba n : Nat} {vF vC : Value} {fs : List Fn} {co : List De} {g k : Nat} {q : Q} {pl er : Int} {wr : World} (h : Rnd w bw bd ba n vF vC fs co g k q pl er wr) : k ≤ n := by
  obtain ⟨z, hz, _⟩ := h.mem
  rw [h.now]
  exact hz.next.1
/-- A round. -/
theorem Rnd.step {w : World} {bw bd ba n : Nat} {vF vC : Value} {fs : List Fn} {co : List De} {g k : Nat} {q : Q} {pl er : Int} {wr : World} (h : Rnd w bw bd ba n vF vC fs co g k q pl er wr) (hk : k < n) (hn : co.length = n) (hci : ∀ x ∈ co, chkI x = 0) :
    ∃ z1, Wk wr bw bd ba n vF vC z1 pl er ∧ z1.le ≤ n ∧ 0 ≤ z1.dp.getD k (-1) ∧ z1.dp.getD k (-1) ≤ 16 ∧ chkI (co.getD k zero) = 0 ∧ R n (stepQ fs co q k).dp (stepQ fs co q k).dn (lookZ n fs (co.getD k zero) k z1).1 ∧
      W2 n (stepQ fs co q k) (blameZ pl er k (lookZ n fs (co.getD k zero) k z1).2).1 (blameZ pl er k (lookZ n fs (co.getD k zero) k z1).2).2 ∧
      ∃ g', g = g' + 1 ∧ runQ fs co g' (stepQ fs co q k) = runQ fs co n (startQ co) ∧ Go.Proofs.Ytjlmgoaglpkhoaa.pgm.dep.left (stepQ fs co q k).dn ≤ g' := by
  obtain ⟨z, hz, hm⟩ := h.mem
  have hp : pick q.dp q.dn n < n := by rw [← h.now]; exact hk
  have hx := hci _ (Go.Proofs.Ytjlmgoaglpkhoaa.pgm.getD_in (d := zero) (by rw [hn]; exact hk))
  have h2 := (hz.next.2.2.2 hp).2
  rw [← h.now] at h2
  rw [if_pos hk] at hm
  obtain ⟨p1, p2⟩ := pick_lt hp
  rw [← h.now] at p1 p2
  have hl := h2.look (fs := fs) hn (a := k) hx
  have hls := left_set (l := q.dn) (a := k) (by rw [hz.ln]; exact hk) p1
  have hlg := h.left
  obtain ⟨g', rfl⟩ : ∃ g', g = g' + 1 := ⟨g - 1, by omega⟩
  refine ⟨_, hm, by show k ≤ n; omega, by show 0 ≤ z.dp.getD k (-1); rw [hz.same]; exact p2, by show z.dp.getD k (-1) ≤ 16; rw [hz.same]; exact (hz.at hk).2, hx, ?_, ?_, g', rfl, ?_, ?_⟩
  · rw [step_dn, step_dp]
    exact hl.2
  · rw [hl.1]
    exact h.bad.step hk
  · have hr := h.run
    rw [run_step (by rw [hn]; exact hp), hn, ← h.now] at hr
    exact hr
  · rw [step_dn]
    omega
/-- Behind the last round. -/
theorem Rnd.end {w : World} {bw bd ba : Nat} {vF vC : Value} {fs : List Fn} {co : List De} {g k : Nat} {q : Q} {pl er : Int} {wr : World} (h : Rnd w bw bd ba co.length vF vC fs co g k q pl er wr) (hk : ¬ k < co.length) :
    q = runQ fs co co.length (startQ co) ∧ ∃ z, z.dp = q.dp ∧ Wk wr bw bd ba co.length vF vC z pl er := by
  obtain ⟨z, hz, hm⟩ := h.mem
  refine ⟨?_, _, ?_, hm⟩
  · rw [← h.run, run_end (by rw [← h.now]; exact hk)]
  · exact hz.same

set_option maxRecDepth 100000 in
set_option maxHeartbeats 8000000 in
theorem of_any (v : Value) (p : Pg) (fn : Int) (w : World) (hv : PAt w v p) (hz : chkP p = 0) (hfn : I64 fn) : Calls Try.prog 7 #[v, .int .i64 fn] w (OfPost (depths p.fs fn) w) := by
  obtain ⟨A, B, C, ca, cb, cc, rfl, -, -, hF⟩ := hv
  obtain ⟨hfl, hfa, hfc⟩ := funcs_of hz
  unfold OfPost
  obtain ⟨r, hr⟩ : ∃ r, r = depths p.fs fn := ⟨_, rfl⟩
  rw [← hr]
  unfold depths at hr
  have hb0 : Below w.heap.size w (w.alloc (pgB (.slice A p.ds.length ca) (.slice B p.ws.length cb) (.slice C p.fs.length cc))) := (Below.refl _ _).alloc (Nat.le_refl _) _
  have hx0 := heap_alloc_new w (pgB (.slice A p.ds.length ca) (.slice B p.ws.length cb) (.slice C p.fs.length cc))
  have HWi := fun W => Lib.hid (within_any fn 0 ((p.fs.length : Int) - 1) W)
  have HB0 := Lib.hid hb0
  have HF := Lib.hid hF
  unfold pgB at hx0 HB0
  clear hb0
  by_cases hc : 0 ≤ fn ∧ fn ≤ (p.fs.length : Int) - 1
  · rw [decide_eq_true hc] at HWi
    rw [if_neg (by omega)] at hr
    dsimp only at hr
    obtain ⟨f, rfl⟩ : ∃ f : Nat, fn = (f : Int) := ⟨fn.toNat, by omega⟩
    rw [Int.toNat_natCast] at hr
    have hfl2 : f < p.fs.length := by omega
    obtain ⟨hc0, hc1, hci⟩ := hfc _ (Go.Proofs.Ytjlmgoaglpkhoaa.pgm.getD_in (d := Fn.zero) hfl2)
    rw [if_neg (by omega)] at hr
    obtain ⟨gb, off, Aj, cj, rfl, hg, ⟨f0, f1, f2⟩, hD⟩ := hF f hfl2
    generalize (p.fs.getD f Fn.zero).co = co at *
    have HR := Lib.hid hr
    have HD := Lib.hid hD
    have HCI := Lib.hid hci
    have HFA := Lib.hid hfa
    have h0 : (0 : Int) ≤ (f : Int) := by omega
    have h1 : (f : Int) < (p.fs.length : Int) := by omega
    have f2' := (HB0.out.cell (p := ⟨gb, off + f * 3 + 2, none⟩) hg).trans f2
    clear hr hD hci hfa hfc hz hc f0 f1 f2 hF
    go_enter Try.func7, Try.ntmps7
    go_upto_region 1 with fail
    generalize hW0 : w.alloc (.cells #[.slice A p.ds.length ca, .slice B p.ws.length cb, .slice (some ⟨gb, off, none⟩) p.fs.length cc] 26) = W0 at *
    clear hW0
    obtain ⟨x0, x1, x2, -, -, -⟩ := cells3 hx0
    go_wp2_with fail
    refine (HWi _).out.mono ?_
    rintro _ _ ⟨rfl, rfl⟩
    go_wp2_with fail
    have HSt := Lib.hid (start_any W0.drew (some ⟨gb, off, none⟩) Aj p.fs.length cc co.length cj hc0 hc1)
    go_still_tail 8, (by kernel_rfl)
    change wpList _ _ _ _ _ W0.drew
    have HB1 : Hid (Below w.heap.size w W0.drew) := Lib.hid HB0.out.drew
    generalize W0.drew = W1 at *
    clear HB0 x0 x1 x2 f2' hx0 HWi
    go_wp2_with fail
    refine HSt.out.mono ?_
    rintro _ w2 ⟨bw, bd, ba, rfl, k1, k2, k3, hw2, hb2⟩
    have hs1 := HB1.out.size
    have HLo : Hid (w.heap.size ≤ bw ∧ w.heap.size ≤ bd ∧ w.heap.size ≤ ba) := Lib.hid ⟨by omega, by omega, by omega⟩
    have HB2 := Lib.hid (HB1.out.trans (hb2.mono HB1.out.size))
    have hst := R.start hc0
    have hnx := hst.next
    have HNx := Lib.hid (next_any w2 bw bd ba co.length _ Aj cj _ 0 0 (pick (startQ co).dp (startQ co).dn co.length) hw2 hc1 hnx.1 hnx.2.1 hnx.2.2.1 (fun h => (hnx.2.2.2 h).1))
    have HRn : ∀ w3, Wk w3 bw bd ba co.length (.slice (some ⟨gb, off, none⟩) p.fs.length cc) (.slice Aj co.length cj) ⟨0 :: List.replicate (co.length - 1) (-1), if pick (startQ co).dp (startQ co).dn co.length < co.length then (true :: List.replicate (co.length - 1) false).set (pick (startQ co).dp (startQ co).dn co.length) false else true :: List.replicate (co.length - 1) false, pick (startQ co).dp (startQ co).dn co.length⟩ 0 0 → Below w.heap.size w w3 →
        Hid (Rnd w bw bd ba co.length (.slice (some ⟨gb, off, none⟩) p.fs.length cc) (.slice Aj co.length cj) p.fs co co.length (pick (startQ co).dp (startQ co).dn co.length) (startQ co) 0 0 w3) := fun w3 h1 h2 => Lib.hid ⟨rfl, ⟨_, hst, h1⟩, W2.start co, rfl, left_start co, h2⟩
    clear hst hnx hw2 hb2 HSt HB1 k1 k2 k3
    generalize pick (startQ co).dp (startQ co).dn co.length = k at *
    go_wp2_with fail
    refine HNx.out.mono ?_
    rintro _ w3 ⟨rfl, hw3, ht3⟩
    have HR3 := HRn w3 hw3 (HB2.out.trans (ht3.below HLo.out.1 HLo.out.2.1 HLo.out.2.2 HB2.out.size))
    clear hw3 ht3 HNx HRn HB2
    go_wp2_with fail
    go_loopg [8, 9] co.length (fun g at' ok wr => ∃ (k : Nat) (q : Q) (pl er : Int), at' = .int .i64 (kv co.length k) ∧ ok = .bool (decide (k < co.length)) ∧ Hid (Rnd w bw bd ba co.length (.slice (some ⟨gb, off, none⟩) p.fs.length cc) (.slice Aj co.length cj) p.fs co g k q pl er wr))
    case atStart => exact ⟨k, startQ co, 0, 0, rfl, rfl, HR3⟩
    case round =>
      clear HR3
      obtain ⟨k, q, pl, er, rfl, rfl, HR3⟩ := hrel
      by_cases hk : k < co.length
      · obtain ⟨z1, hw, hle, hd0, hd1, hx, hR, hW, g', rfl, hrun, hleft⟩ := HR3.out.step hk rfl HCI.out
        have HB3 := Lib.hid HR3.out.below
        have HLk := Lib.hid (look_any wr bw bd ba co.length (some ⟨gb, off, none⟩) cc p.fs Aj cj co z1 pl er k hw (HF.out.next HB3.out) hfl HFA.out (HD.out.next HB3.out) rfl hc1 hk (by omega) hx hd0 hd1)
        have HRR := Lib.hid hR
        have HWW := Lib.hid hW
        have HRun := Lib.hid hrun
        have HLf := Lib.hid hleft
        clear HR3 hw hle hd0 hd1 hx hR hW hrun hleft
        generalize stepQ p.fs co q k = q' at *
        generalize lookZ co.length p.fs (co.getD k zero) k z1 = lz at *
        obtain ⟨z2, e2⟩ := lz
        dsimp only at *
        have ek : kv co.length k = (k : Int) := if_pos hk
        rw [ek, decide_eq_true hk]
        clear ek
        go_wp2_with fail
        refine HLk.out.mono ?_
        rintro _ w4 ⟨rfl, hw4, ht4⟩
        have HB4 := Lib.hid (HB3.out.trans (ht4.below HLo.out.1 HLo.out.2.1 HLo.out.2.2 HB3.out.size))
        have HBl := Lib.hid (blame_any w4 bw bd ba co.length _ _ z2 pl er k e2 hw4)
        clear hw4 ht4 HLk HB3
        generalize blameZ pl er k e2 = bz at *
        obtain ⟨pl2, er2⟩ := bz
        dsimp only at *
        go_wp2_with fail
        refine HBl.out.mono ?_
        rintro _ w5 ⟨rfl, hw5, ht5⟩
        have HB5 := Lib.hid (HB4.out.trans (ht5.below HLo.out.1 HLo.out.2.1 HLo.out.2.2 HB4.out.size))
        have hnx := HRR.out.next
        have HNx := Lib.hid (next_any w5 bw bd ba co.length _ Aj cj z2 pl2 er2 (pick q'.dp q'.dn co.length) hw5 hc1 hnx.1 hnx.2.1 hnx.2.2.1 (fun h => (hnx.2.2.2 h).1))
        have HRn : ∀ w6, Wk w6 bw bd ba co.length (.slice (some ⟨gb, off, none⟩) p.fs.length cc) (.slice Aj co.length cj) ⟨z2.dp, if pick q'.dp q'.dn co.length < co.length then z2.ah.set (pick q'.dp q'.dn co.length) false else z2.ah, pick q'.dp q'.dn co.length⟩ pl2 er2 → Below w.heap.size w w6 →
            Hid (Rnd w bw bd ba co.length (.slice (some ⟨gb, off, none⟩) p.fs.length cc) (.slice Aj co.length cj) p.fs co g' (pick q'.dp q'.dn co.length) q' pl2 er2 w6) := fun w6 h1 h2 => Lib.hid ⟨rfl, ⟨_, HRR.out, h1⟩, HWW.out, HRun.out, HLf.out, h2⟩
        clear hw5 ht5 HBl HB4 hnx HRR HWW HRun HLf
        generalize pick q'.dp q'.dn co.length = k2 at *
        go_wp2_with fail
        refine HNx.out.mono ?_
        rintro _ w6 ⟨rfl, hw6, ht6⟩
        have HR6 := HRn w6 hw6 (HB5.out.trans (ht6.below HLo.out.1 HLo.out.2.1 HLo.out.2.2 HB5.out.size))
        clear hw6 ht6 HNx HRn HB5
        go_wp2
        go_roundg g'
        case measure => omega
        case rel => exact ⟨k2, q', pl2, er2, rfl, rfl, HR6⟩
      · obtain ⟨hq, z, hzq, hw⟩ := HR3.out.end hk
        have hB := HR3.out.below
        have hW2 := HR3.out.bad
        rw [decide_eq_false hk]
        have hrr := HR.out
        rw [← hq] at hrr
        have hee := hW2.er
        have hpp := hW2.bad
        have hnr := nat_row hw.rd
        have hld := hw.ld
        obtain ⟨-, -, c2, -, -, c5, c6, -, -, -⟩ := hw.cells
        rw [hzq] at hnr hld
        by_cases hb : q.bad = 0
        · rw [if_neg (fun e => e hb)] at hrr
          subst hrr
          have e0 : er = 0 := by rw [hee, hb]; rfl
          subst e0
          have HN := Lib.hid hnr
          have HL := Lib.hid hld
          have HB := Lib.hid hB
          clear hB hnr hld hw hzq hq hb hee hpp hW2 c5 HR3 HR hk HD HF HCI HFA
          go_wp2
          go_ret3
          exact ⟨some ⟨bd, 0, none⟩, ⟨co.length, by rw [HL.out]; rfl⟩, HN.out, HB.out⟩
        · rw [if_pos hb] at hrr
          subst hrr
          have e1 := hpp hb
          subst e1
          subst hee
          have q0 : ((q.bad : Int) != 0) = true := by simpa using hb
          have HB := Lib.hid hB
          clear hB hnr hld hw hzq hq hb hpp hW2 c2 HR3 HR hk HD HF HCI HFA
          go_wp2
          go_quiet (fail)
          go_wp2
          go_ret3
          exact ⟨none, ⟨0, rfl⟩, NAt.nil _ _, HB.out.trans (below_drewN (Below.refl _ _) _)⟩
  · rw [decide_eq_false hc] at HWi
    rw [if_pos (by omega)] at hr
    subst hr
    clear hF hfa hfc hz hc
    go_enter Try.func7, Try.ntmps7
    go_upto_region 1 with fail
    generalize hW0 : w.alloc (.cells #[.slice A p.ds.length ca, .slice B p.ws.length cb, .slice C p.fs.length cc] 26) = W0 at *
    clear hW0
    obtain ⟨x0, x1, x2, -, -, -⟩ := cells3 hx0
    go_wp2_with fail
    refine (HWi _).out.mono ?_
    rintro _ _ ⟨rfl, rfl⟩
    go_wp2
    go_ret3
    exact ⟨none, 0, rfl, NAt.nil _ _, HB0.out⟩
end Go.Proofs.Ytjlmgoaglpkhoaa.pgm.dep
