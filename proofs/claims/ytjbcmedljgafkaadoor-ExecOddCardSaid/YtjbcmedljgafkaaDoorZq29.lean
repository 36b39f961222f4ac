/-
  Texts of one claim in one file: HRefOf. Each has its own sentence, with its conditions.
-/
import Derived.Test.YtjbcmedljgafkaaDoorZq28
import Derived.RegionTactic
import Derived.ChangeAlike
import Derived.Deep.LoopGhost
/-
  The document's own depths of a function: of every program that may be, and every number of a function.
-/

namespace Go.Proofs.YtjbcmedljgafkaaDoor.pgm.dep
open Go.RowKit Go.ChangeShapes
open Go.Proofs.YtjbcmedljgafkaaDoor.pgm
open Go.Proofs.YtjbcmedljgafkaaDoor.objs (De zero DAt cells3)
open Go.Proofs.YtjbcmedljgafkaaDoor.nums (NAt ints)
set_option linter.unusedVariables false

theorem funcs_may {p : Pg} (h : chkP p = 0) : p.fs.length ≤ 16 ∧ (∀ f ∈ p.fs, 0 ≤ f.ar ∧ f.ar ≤ 8) ∧ ∀ f ∈ p.fs, 0 < f.co.length ∧ f.co.length ≤ 200 ∧ ∀ x ∈ f.co, chkI x = 0 := by
  obtain ⟨_, _, _, _, g5, g6⟩ := chkP_zero h
  refine ⟨g5, fun f hf => ?_, fun f hf => ?_⟩
  · have := (chkFn_zero (g6 f hf)).1
    omega
  · have := chkFn_zero (g6 f hf)
    exact this.2
theorem row_nums {W : World} {b : Nat} {l : List Int} (h : RowD W b l) : NAt W (some ⟨b, 0, none⟩) l := fun j hj => by
  refine ⟨b, 0, rfl, lt_of_block h, ?_⟩
  rw [Nat.zero_add, cell_of_row W b j _ _ (0, 0) h, List.getElem?_toArray, Go.Proofs.YtjbcmedljgafkaaDoor.nums.ints_at hj]
/-- Yes and no lie in a block, from its head on. -/
def RowB (W : World) (b : Nat) (l : List Bool) : Prop := W.heap[b]? = some (.cells (yess l).toArray 4 (0, 0))
theorem RowB.cell {W : World} {b : Nat} {l : List Bool} (h : RowB W b l) {t : Nat} (ht : t < l.length) : W.cell? ⟨b, t, none⟩ = some (.bool (l.getD t true)) ∧ W.frozen? ⟨b, t, none⟩ = false := by
  refine ⟨?_, frozen_of_row W b t _ _ h⟩
  rw [cell_of_row W b t _ _ (0, 0) h, List.getElem?_toArray, yess_at ht, List.getD_eq_getElem?_getD, List.getD_eq_getElem?_getD, List.getElem?_eq_getElem ht]
  rfl
theorem RowB.set {W : World} {b : Nat} {l : List Bool} (h : RowB W b l) (t : Nat) (d : Bool) : RowB (W.setCell ⟨b, t, none⟩ (.bool d)) b (l.set t d) := (row_setCell h _).trans (by simp [yess, List.map_set])
/-- What lies there while depths are found. -/
structure Ro (w : World) (vo : Obj) (bd bn n : Nat) (dp : List Int) (dn : List Bool) (W : World) : Prop where
  rd : RowD W bd dp
  rb : RowB W bn dn
  ne : bd ≠ bn
  low : w.heap.size < bd ∧ w.heap.size < bn
  ld : dp.length = n
  ln : dn.length = n
  below : Below w.heap.size w W
  box : W.heap[w.heap.size]? = some vo
theorem Ro.depth {w W : World} {vo : Obj} {bd bn n : Nat} {dp : List Int} {dn : List Bool} (h : Ro w vo bd bn n dp dn W) (t : Nat) (d : Int) : Ro w vo bd bn n (dp.set t d) dn (W.setCell ⟨bd, t, none⟩ (.int .i64 d)) :=
  ⟨h.rd.set t d, (Below.heap_setCell _ _ _ _ (Ne.symm h.ne)).trans h.rb, h.ne, h.low, by rw [List.length_set]; exact h.ld, h.ln, h.below.setCell (p := ⟨bd, t, none⟩) (by have := h.low.1; show w.heap.size ≤ bd; omega) _, (Below.heap_setCell _ _ _ _ (by have := h.low.1; show w.heap.size ≠ bd; omega)).trans h.box⟩
theorem Ro.done {w W : World} {vo : Obj} {bd bn n : Nat} {dp : List Int} {dn : List Bool} (h : Ro w vo bd bn n dp dn W) (t : Nat) (d : Bool) : Ro w vo bd bn n dp (dn.set t d) (W.setCell ⟨bn, t, none⟩ (.bool d)) :=
  ⟨(Below.heap_setCell _ _ _ _ h.ne).trans h.rd, h.rb.set t d, h.ne, h.low, h.ld, by rw [List.length_set]; exact h.ln, h.below.setCell (p := ⟨bn, t, none⟩) (by have := h.low.2; show w.heap.size ≤ bn; omega) _, (Below.heap_setCell _ _ _ _ (by have := h.low.2; show w.heap.size ≠ bn; omega)).trans h.box⟩
theorem Ro.turned {w W W' : World} {vo : Obj} {bd bn n : Nat} {dp dp' : List Int} {dn : List Bool} (h : Ro w vo bd bn n dp dn W) (hd : RowD W' bd dp') (hl : dp'.length = n) (ht : Trn bd bd bd W W') : Ro w vo bd bn n dp' dn W' :=
  ⟨hd, (ht.block _ (lt_of_block h.rb) (Ne.symm h.ne) (Ne.symm h.ne) (Ne.symm h.ne)).trans h.rb, h.ne, h.low, hl, h.ln, h.below.trans (ht.below (by have := h.low.1; omega) (by have := h.low.1; omega) (by have := h.low.1; omega) h.below.size),
    (ht.block _ (lt_of_block h.box) (by have := h.low.1; omega) (by have := h.low.1; omega) (by have := h.low.1; omega)).trans h.box⟩
theorem ro_di (w W : World) (vo : Obj) (n : Nat) (hb : Below w.heap.size w W) (hx : W.heap[w.heap.size]? = some vo) (hs : W.heap.size = w.heap.size + 1) :
    Ro w vo (w.heap.size + 1) (w.heap.size + 1 + 1) n (List.replicate n 0) (List.replicate n false) ((W.alloc (.cells (ints (List.replicate n 0)).toArray 3)).alloc (.cells (yess (List.replicate n false)).toArray 4)).drew := by
  have z1 : (W.alloc (.cells (ints (List.replicate n 0)).toArray 3)).heap.size = w.heap.size + 1 + 1 := by rw [World.size_alloc, hs]
  refine ⟨?_, ?_, by omega, ⟨by omega, by omega⟩, by simp, by simp, ((hb.alloc (by omega) _).alloc (by omega) _).drew, (Below.heap_alloc _ _ _ (by omega)).trans ((Below.heap_alloc _ _ _ (by omega)).trans hx)⟩
  · exact (Below.heap_alloc _ _ _ (by omega)).trans (by rw [← hs]; exact heap_alloc_new _ _)
  · show ((W.alloc _).alloc _).heap[w.heap.size + 1 + 1]? = _
    rw [← z1]
    exact heap_alloc_new _ _
theorem ro_id (w W : World) (vo : Obj) (n : Nat) (hb : Below w.heap.size w W) (hx : W.heap[w.heap.size]? = some vo) (hs : W.heap.size = w.heap.size + 1) :
    Ro w vo (w.heap.size + 1 + 1) (w.heap.size + 1) n (List.replicate n 0) (List.replicate n false) ((W.alloc (.cells (yess (List.replicate n false)).toArray 4)).alloc (.cells (ints (List.replicate n 0)).toArray 3)).drew := by
  have z1 : (W.alloc (.cells (yess (List.replicate n false)).toArray 4)).heap.size = w.heap.size + 1 + 1 := by rw [World.size_alloc, hs]
  refine ⟨?_, ?_, by omega, ⟨by omega, by omega⟩, by simp, by simp, ((hb.alloc (by omega) _).alloc (by omega) _).drew, (Below.heap_alloc _ _ _ (by omega)).trans ((Below.heap_alloc _ _ _ (by omega)).trans hx)⟩
  · show ((W.alloc _).alloc _).heap[w.heap.size + 1 + 1]? = _
    rw [← z1]
    exact heap_alloc_new _ _
  · exact (Below.heap_alloc _ _ _ (by omega)).trans (by rw [← hs]; exact heap_alloc_new _ _)
theorem first_unk (n : Nat) (h : 0 < n) : List.replicate n (0 : Int) = 0 :: unk (n - 1) 0 := by
  obtain ⟨m, rfl⟩ : ∃ m, n = m + 1 := ⟨n - 1, by omega⟩
  rw [show m + 1 - 1 = m by omega, List.replicate_succ, unk_zero]
theorem next_unk {n i : Nat} (h : i + 1 < n) : ((0 : Int) :: unk (n - 1) i).set (i + 1) (-1) = 0 :: unk (n - 1) (i + 1) := by
  rw [List.set_cons_succ, unk_next (by omega)]

theorem run_endQ {fs : List Fn} {co : List De} {q : Q} (h : ¬ pick q.dp q.dn co.length < co.length) : ∀ j, runQ fs co j q = q
  | 0 => rfl
  | j + 1 => by unfold runQ; rw [if_neg h]
set_option maxRecDepth 100000 in
set_option maxHeartbeats 16000000 in
theorem refOf_any (v : Value) (p : Pg) (fn : Int) (w : World) (hv : PAt w v p) (hz : chkP p = 0) : Calls Tryd.prog 13 #[v, .int .i64 fn] w (OfPost (depths p.fs fn) w) := by
  obtain ⟨A, B, C, ca, cb, cc, rfl, -, -, hF⟩ := id hv
  obtain ⟨hfl, hfa, hfc⟩ := funcs_may hz
  unfold OfPost
  obtain ⟨r, hr⟩ : ∃ r, r = depths p.fs fn := ⟨_, rfl⟩
  rw [← hr]
  unfold depths at hr
  have hb0 : Below w.heap.size w (w.alloc (pgB (.slice A p.ds.length ca) (.slice B p.ws.length cb) (.slice C p.fs.length cc))) := (Below.refl _ _).alloc (Nat.le_refl _) _
  have hx0 := heap_alloc_new w (pgB (.slice A p.ds.length ca) (.slice B p.ws.length cb) (.slice C p.fs.length cc))
  have hs0 : (w.alloc (pgB (.slice A p.ds.length ca) (.slice B p.ws.length cb) (.slice C p.fs.length cc))).heap.size = w.heap.size + 1 := World.size_alloc _ _
  have HB0 := Lib.hid hb0
  have HV := Lib.hid hv
  unfold pgB at hx0 HB0 hs0
  clear hb0 hv
  by_cases hc : fn < 0 ∨ (p.fs.length : Int) ≤ fn
  · rw [if_pos hc] at hr
    subst hr
    by_cases h0 : fn < 0
    · have q0 : decide (fn < 0) = true := decide_eq_true h0
      go_enter Tryd.func13, Tryd.ntmps13
      go_upto_region 1 with fail
      generalize hW0 : w.alloc (.cells #[.slice A p.ds.length ca, .slice B p.ws.length cb, .slice C p.fs.length cc] 26) = W0 at *
      clear hW0 hF hfa hfc hz
      go_wp2
      go_ret3
      first | exact ⟨none, 0, rfl, NAt.nil _ _, HB0.out⟩ | exact ⟨none, ⟨0, rfl⟩, NAt.nil _ _, HB0.out⟩
    · have q0 : decide (fn < 0) = false := decide_eq_false h0
      have q1 : decide (fn ≥ (p.fs.length : Int)) = true := decide_eq_true (by omega)
      go_enter Tryd.func13, Tryd.ntmps13
      go_upto_region 1 with fail
      generalize hW0 : w.alloc (.cells #[.slice A p.ds.length ca, .slice B p.ws.length cb, .slice C p.fs.length cc] 26) = W0 at *
      clear hW0 hF hfa hfc hz
      obtain ⟨x0, x1, x2, -, -, -⟩ := cells3 hx0
      go_wp2
      go_ret3
      first | exact ⟨none, 0, rfl, NAt.nil _ _, HB0.out⟩ | exact ⟨none, ⟨0, rfl⟩, NAt.nil _ _, HB0.out⟩
  · rw [if_neg hc] at hr
    dsimp only at hr
    obtain ⟨f, rfl⟩ : ∃ f : Nat, fn = (f : Int) := ⟨fn.toNat, by omega⟩
    rw [Int.toNat_natCast] at hr
    have hfl2 : f < p.fs.length := by omega
    obtain ⟨hc0, hc1, hci⟩ := hfc _ (Go.Proofs.YtjbcmedljgafkaaDoor.pgm.getD_in (d := Fn.zero) hfl2)
    rw [if_neg (by omega)] at hr
    obtain ⟨gb, off, Aj, cj, rfl, hg, ⟨f0, f1, f2⟩, hD⟩ := hF f hfl2
    generalize (p.fs.getD f Fn.zero).co = co at *
    have HR := Lib.hid hr
    have HD := Lib.hid hD
    have HCI := Lib.hid hci
    have HFA := Lib.hid hfa
    have h0 : (0 : Int) ≤ (f : Int) := by omega
    have h1 : (f : Int) < (p.fs.length : Int) := by omega
    have q0 : decide ((f : Int) < 0) = false := decide_eq_false (by omega)
    have q1 : decide ((f : Int) ≥ (p.fs.length : Int)) = false := decide_eq_false (by omega)
    have q1' : decide (p.fs.length ≤ f) = false := decide_eq_false (by omega)
    have q2 : ((co.length : Int) == 0) = false := beq_eq_false_iff_ne.2 (by omega)
    have f2' := (HB0.out.cell (p := ⟨gb, off + f * 3 + 2, none⟩) hg).trans f2
    have hm1 := made_ints co.length (by omega)
    have hm2 := made_bools co.length (by omega)
    clear hr hD hci hfa hfc hz hc f0 f1 f2 hF
    go_enter Tryd.func13, Tryd.ntmps13
    go_upto_region 1 with fail
    generalize hW0 : w.alloc (.cells #[.slice A p.ds.length ca, .slice B p.ws.length cb, .slice (some ⟨gb, off, none⟩) p.fs.length cc] 26) = W0 at *
    clear hW0
    have HD1 := Lib.hid (ro_di w W0 _ co.length HB0.out hx0 hs0)
    have HD2 := Lib.hid (ro_id w W0 _ co.length HB0.out hx0 hs0)
    obtain ⟨x0, x1, x2, -, -, -⟩ := cells3 hx0
    go_wp2
    go_region
    · have HRo0 := Lib.hid (HD1).out
      clear HD1 HD2 hm1 hm2 x0 x1 x2 f2' q0 q1 q2
      generalize ((W0.alloc (.cells (ints (List.replicate co.length 0)).toArray 3)).alloc (.cells (yess (List.replicate co.length false)).toArray 4)).drew = W1 at *
      rw [first_unk co.length hc0] at HRo0
      go_wp2_with fail
      go_loopw [12] (fun i wr => ∃ j : Nat, i = .int .i64 ((j + 1 : Nat) : Int) ∧ j + 1 ≤ co.length ∧ Hid (Ro w (.cells #[.slice A p.ds.length ca, .slice B p.ws.length cb, .slice (some ⟨gb, off, none⟩) p.fs.length cc] 26) (w.heap.size + 1) (w.heap.size + 1 + 1) co.length (0 :: unk (co.length - 1) j) (List.replicate co.length false) wr)) (fun i _ => co.length - (intOf i).toNat)
      case atStart => exact ⟨0, rfl, hc0, HRo0⟩
      case round =>
        clear HRo0
        obtain ⟨j, rfl, hj, HRo⟩ := hrel
        have e1 : ((j + 1 : Nat) : Int) = (j : Int) + 1 := by omega
        by_cases hlt : j + 1 < co.length
        · have q0 : decide ((j : Int) + 1 < (co.length : Int)) = true := decide_eq_true (by omega)
          obtain ⟨x0, y0⟩ := HRo.out.rd.cell (t := j + 1) (by rw [HRo.out.ld]; omega)
          have HR2 := Lib.hid (HRo.out.depth (j + 1) (-1))
          rw [next_unk hlt] at HR2
          generalize ((0 : Int) :: unk (co.length - 1) j).getD (j + 1) (-1) = ox at *
          have h2 : (0 : Int) ≤ (j : Int) + 1 := by omega
          have h3 : (j : Int) + 1 < (co.length : Int) := by omega
          have e2 : ((j + 1 + 1 : Nat) : Int) = (j : Int) + 1 + 1 := by omega
          have e3 : ((j : Int) + 1).toNat = j + 1 := by omega
          clear HRo
          rw [e1]
          go_wp2_with fail
          go_roundw
          case rel => exact ⟨j + 1, by rw [e2], by omega, HR2⟩
          case measure => simp [intOf]; omega
        · have q0 : decide ((j : Int) + 1 < (co.length : Int)) = false := decide_eq_false (by omega)
          have HR2 : Hid (Ro w (.cells #[.slice A p.ds.length ca, .slice B p.ws.length cb, .slice (some ⟨gb, off, none⟩) p.fs.length cc] 26) (w.heap.size + 1) (w.heap.size + 1 + 1) co.length (startQ co).dp (startQ co).dn wr) := by
            have h := HRo.out
            rw [show j = co.length - 1 by omega, unk_all] at h
            exact Lib.hid h
          clear HRo
          rw [e1]
          go_wp2_with fail
          go_loopg [8, 10, 11] co.length (fun g s8 s10 s11 wr => ∃ q : Q, s8 = .slice (some ⟨w.heap.size + 1, 0, none⟩) co.length co.length ∧ s10 = .int .i64 (q.first : Int) ∧ s11 = .int .i64 (q.bad : Int) ∧ Hid (Inv p.fs co q) ∧ Hid (Ro w (.cells #[.slice A p.ds.length ca, .slice B p.ws.length cb, .slice (some ⟨gb, off, none⟩) p.fs.length cc] 26) (w.heap.size + 1) (w.heap.size + 1 + 1) co.length q.dp q.dn wr) ∧ Hid (runQ p.fs co g q = runQ p.fs co co.length (startQ co)) ∧ Hid (left q.dn ≤ g))
          case atStart => exact ⟨startQ co, rfl, rfl, rfl, Lib.hid (start_inv hc0), HR2, Lib.hid rfl, Lib.hid (left_start co)⟩
          case round =>
            clear HR2
            obtain ⟨q, rfl, rfl, rfl, HI, HRo, HRun, HLf⟩ := hrel
            obtain ⟨k, hk⟩ : ∃ k, k = pick q.dp q.dn co.length := ⟨_, rfl⟩
            have hkn : k ≤ co.length := by
              have := List.findIdx_le_length (xs := List.range co.length) (p := fun i => !q.dn.getD i true && decide (0 ≤ q.dp.getD i (-1)))
              rw [List.length_range] at this
              rw [hk]
              exact this
            have HK1 : Hid (∀ i, i < k → q.dn.getD i true = true ∨ q.dp.getD i (-1) < 0) := Lib.hid fun i hi => by
              rw [hk] at hi
              have h1 := List.not_of_lt_findIdx (xs := List.range co.length) (p := fun i => !q.dn.getD i true && decide (0 ≤ q.dp.getD i (-1))) (i := i) hi
              have e : (List.range co.length)[i]'(by rw [List.length_range]; omega) = i := List.getElem_range _
              rw [e] at h1
              cases hd : q.dn.getD i true with
              | true => exact .inl rfl
              | false =>
                right
                by_cases hp : 0 ≤ q.dp.getD i (-1)
                · rw [hd, decide_eq_true hp] at h1
                  cases h1
                · omega
            have HK := Lib.hid hk
            clear hk
            go_wp2_with fail
            go_loopw [13] (fun i wq => ∃ j : Nat, i = .int .i64 (j : Int) ∧ j ≤ k ∧ Hid (wq = wr)) (fun i _ => k - (intOf i).toNat)
            case atStart => exact ⟨0, rfl, Nat.zero_le _, Lib.hid rfl⟩
            case round =>
              obtain ⟨j, rfl, hjk, HWq⟩ := hrel
              obtain rfl := HWq.out
              clear HWq
              by_cases hjn : j < co.length
              · obtain ⟨u0, -⟩ := HRo.out.rb.cell (t := j) (by rw [HRo.out.ln]; exact hjn)
                obtain ⟨u1, -⟩ := HRo.out.rd.cell (t := j) (by rw [HRo.out.ld]; exact hjn)
                have q0 : decide ((j : Int) < (co.length : Int)) = true := decide_eq_true (by omega)
                have h2 : (0 : Int) ≤ (j : Int) := by omega
                have h3 : (j : Int) < (co.length : Int) := by omega
                by_cases hlt2 : j < k
                · rcases HK1.out j hlt2 with hd | hd
                  · rw [hd] at u0
                    generalize q.dp.getD j (-1) = dd at *
                    go_wp2_with fail
                    go_roundw
                    case rel => exact ⟨j + 1, by go_num, by omega, Lib.hid trivial⟩
                    case measure => simp [intOf]; omega
                  · have q3 : decide (q.dp.getD j (-1) < 0) = true := decide_eq_true hd
                    generalize q.dp.getD j (-1) = dd at *
                    generalize q.dn.getD j true = bb at *
                    cases bb with
                    | true =>
                      go_wp2_with fail
                      go_roundw
                      case rel => exact ⟨j + 1, by go_num, by omega, Lib.hid trivial⟩
                      case measure => simp [intOf]; omega
                    | false =>
                      go_wp2_with fail
                      go_roundw
                      case rel => exact ⟨j + 1, by go_num, by omega, Lib.hid trivial⟩
                      case measure => simp [intOf]; omega
                · obtain rfl : j = k := by omega
                  obtain ⟨p1, p2⟩ := pick_lt (n := co.length) (dp := q.dp) (dn := q.dn) (by rw [← HK.out]; exact hjn)
                  rw [← HK.out] at p1 p2
                  have HI2 := Lib.hid (HI.out.step (a := j) hjn p2)
                  have hx := HCI.out _ (Go.Proofs.YtjbcmedljgafkaaDoor.pgm.getD_in (d := zero) hjn)
                  have HB := Lib.hid HRo.out.below
                  have HOn := Lib.hid (refOne_any _ p Aj cj co q.dp (w.heap.size + 1) co.length j _ (HV.out.next HB.out) hfl HFA.out (HD.out.next HB.out) rfl hc1 hjn hx HRo.out.rd HI.out.ld HI.out.rng p2)
                  have HL1 := Lib.hid ((one_length p.fs co q.dp j).trans HI.out.ld)
                  have hls := left_set (l := q.dn) (a := j) (by rw [HI.out.ln]; exact hjn) p1
                  have hlg := HLf.out
                  obtain ⟨g', rfl⟩ : ∃ g', gk = g' + 1 := ⟨gk - 1, by omega⟩
                  have HRun2 : Hid (runQ p.fs co g' (stepQ p.fs co q j) = runQ p.fs co co.length (startQ co)) := Lib.hid (by
                    have hr := HRun.out
                    show runQ p.fs co g' (stepQ p.fs co q j) = _
                    rw [← hr]
                    show _ = (if pick q.dp q.dn co.length < co.length then runQ p.fs co g' (stepQ p.fs co q (pick q.dp q.dn co.length)) else q)
                    rw [← HK.out, if_pos hjn])
                  have HLf2 : Hid (left (q.dn.set j true) ≤ g') := Lib.hid (by omega)
                  have q3 : decide (q.dp.getD j (-1) < 0) = false := decide_eq_false (by omega)
                  have q4 : ((j : Int) == (co.length : Int)) = false := beq_eq_false_iff_ne.2 (by omega)
                  rw [p1] at u0
                  unfold stepQ at HI2 HRun2
                  generalize q.dp.getD j (-1) = dd at *
                  generalize one p.fs co q.dp j = o1 at *
                  obtain ⟨dp1, e1⟩ := o1
                  dsimp only at HI2 HRun2 HOn HL1
                  clear HRun HLf HK HK1 HI p1 p2 hls hlg hx
                  have hbx := HRo.out.box
                  obtain ⟨z0, z1, z2, -, -, -⟩ := cells3 hbx
                  clear hbx
                  go_wp2_with fail
                  refine HOn.out.mono ?_
                  rintro _ w4 ⟨rfl, hd4, ht4⟩
                  have HR4 := Lib.hid (HRo.out.turned hd4 HL1.out ht4)
                  obtain ⟨u4, v4⟩ := HR4.out.rb.cell (t := j) (by rw [HR4.out.ln]; exact hjn)
                  have HR5 := Lib.hid (HR4.out.done j true)
                  generalize q.dn.getD j true = bb at *
                  clear hd4 ht4 HOn HRo u0 u1 z0 z1 z2 HR4 HB
                  by_cases he : e1 ≠ 0 ∧ j < q.first
                  · rw [if_pos he] at HI2 HRun2
                    obtain ⟨he0, he1⟩ := he
                    have q5 : ((e1 : Int) != 0) = true := by simpa using he0
                    have q6 : decide ((j : Int) < (q.first : Int)) = true := decide_eq_true (by omega)
                    go_wp2_with fail
                    go_roundg g'
                    case measure => omega
                    case rel => exact ⟨⟨dp1, q.dn.set j true, j, e1⟩, rfl, rfl, rfl, HI2, HR5, HRun2, HLf2⟩
                  · rw [if_neg he] at HI2 HRun2
                    by_cases he0 : e1 = 0
                    · subst he0
                      rw [show ((0 : Nat) : Int) = 0 from rfl]
                      go_wp2_with fail
                      go_roundg g'
                      case measure => omega
                      case rel => exact ⟨⟨dp1, q.dn.set j true, q.first, q.bad⟩, rfl, rfl, rfl, HI2, HR5, HRun2, HLf2⟩
                    · have q5 : ((e1 : Int) != 0) = true := by simpa using he0
                      have q6 : decide ((j : Int) < (q.first : Int)) = false := decide_eq_false (by have : ¬ j < q.first := fun h => he ⟨he0, h⟩; omega)
                      go_wp2_with fail
                      go_roundg g'
                      case measure => omega
                      case rel => exact ⟨⟨dp1, q.dn.set j true, q.first, q.bad⟩, rfl, rfl, rfl, HI2, HR5, HRun2, HLf2⟩
              · have q0 : decide ((j : Int) < (co.length : Int)) = false := decide_eq_false (by omega)
                have q4 : ((j : Int) == (co.length : Int)) = true := beq_iff_eq.2 (by omega)
                have hend : runQ p.fs co gk q = q := run_endQ (by rw [← HK.out]; omega) gk
                have hrr := HR.out
                rw [← HRun.out, hend] at hrr
                have HNr := Lib.hid (row_nums HRo.out.rd)
                have HLd := Lib.hid HRo.out.ld
                have HB := Lib.hid HRo.out.below
                by_cases hb : q.bad = 0
                · rw [if_neg (fun e => e hb)] at hrr
                  subst hrr
                  rw [hb, show ((0 : Nat) : Int) = 0 from rfl]
                  clear hend HR HRun HLf HK HK1 HI HRo
                  go_wp2_with fail
                  go_ret3
                  first
                    | exact ⟨some ⟨w.heap.size + 1, 0, none⟩, ⟨co.length, by rw [HLd.out]; rfl⟩, HNr.out, HB.out⟩
                    | exact ⟨some ⟨w.heap.size + 1, 0, none⟩, co.length, by rw [HLd.out]; rfl, HNr.out, HB.out⟩
                · rw [if_pos hb] at hrr
                  subst hrr
                  have q5 : ((q.bad : Int) != 0) = true := by simpa using hb
                  clear hend HR HRun HLf HK HK1 HI HRo
                  go_wp2_with fail
                  go_ret3
                  first
                    | exact ⟨none, ⟨0, rfl⟩, NAt.nil _ _, HB.out⟩
                    | exact ⟨none, 0, rfl, NAt.nil _ _, HB.out⟩
    · have HRo0 := Lib.hid (HD2).out
      clear HD1 HD2 hm1 hm2 x0 x1 x2 f2' q0 q1 q2
      generalize ((W0.alloc (.cells (yess (List.replicate co.length false)).toArray 4)).alloc (.cells (ints (List.replicate co.length 0)).toArray 3)).drew = W1 at *
      rw [first_unk co.length hc0] at HRo0
      go_wp2_with fail
      go_loopw [12] (fun i wr => ∃ j : Nat, i = .int .i64 ((j + 1 : Nat) : Int) ∧ j + 1 ≤ co.length ∧ Hid (Ro w (.cells #[.slice A p.ds.length ca, .slice B p.ws.length cb, .slice (some ⟨gb, off, none⟩) p.fs.length cc] 26) (w.heap.size + 1 + 1) (w.heap.size + 1) co.length (0 :: unk (co.length - 1) j) (List.replicate co.length false) wr)) (fun i _ => co.length - (intOf i).toNat)
      case atStart => exact ⟨0, rfl, hc0, HRo0⟩
      case round =>
        clear HRo0
        obtain ⟨j, rfl, hj, HRo⟩ := hrel
        have e1 : ((j + 1 : Nat) : Int) = (j : Int) + 1 := by omega
        by_cases hlt : j + 1 < co.length
        · have q0 : decide ((j : Int) + 1 < (co.length : Int)) = true := decide_eq_true (by omega)
          obtain ⟨x0, y0⟩ := HRo.out.rd.cell (t := j + 1) (by rw [HRo.out.ld]; omega)
          have HR2 := Lib.hid (HRo.out.depth (j + 1) (-1))
          rw [next_unk hlt] at HR2
          generalize ((0 : Int) :: unk (co.length - 1) j).getD (j + 1) (-1) = ox at *
          have h2 : (0 : Int) ≤ (j : Int) + 1 := by omega
          have h3 : (j : Int) + 1 < (co.length : Int) := by omega
          have e2 : ((j + 1 + 1 : Nat) : Int) = (j : Int) + 1 + 1 := by omega
          have e3 : ((j : Int) + 1).toNat = j + 1 := by omega
          clear HRo
          rw [e1]
          go_wp2_with fail
          go_roundw
          case rel => exact ⟨j + 1, by rw [e2], by omega, HR2⟩
          case measure => simp [intOf]; omega
        · have q0 : decide ((j : Int) + 1 < (co.length : Int)) = false := decide_eq_false (by omega)
          have HR2 : Hid (Ro w (.cells #[.slice A p.ds.length ca, .slice B p.ws.length cb, .slice (some ⟨gb, off, none⟩) p.fs.length cc] 26) (w.heap.size + 1 + 1) (w.heap.size + 1) co.length (startQ co).dp (startQ co).dn wr) := by
            have h := HRo.out
            rw [show j = co.length - 1 by omega, unk_all] at h
            exact Lib.hid h
          clear HRo
          rw [e1]
          go_wp2_with fail
          go_loopg [8, 10, 11] co.length (fun g s8 s10 s11 wr => ∃ q : Q, s8 = .slice (some ⟨w.heap.size + 1 + 1, 0, none⟩) co.length co.length ∧ s10 = .int .i64 (q.first : Int) ∧ s11 = .int .i64 (q.bad : Int) ∧ Hid (Inv p.fs co q) ∧ Hid (Ro w (.cells #[.slice A p.ds.length ca, .slice B p.ws.length cb, .slice (some ⟨gb, off, none⟩) p.fs.length cc] 26) (w.heap.size + 1 + 1) (w.heap.size + 1) co.length q.dp q.dn wr) ∧ Hid (runQ p.fs co g q = runQ p.fs co co.length (startQ co)) ∧ Hid (left q.dn ≤ g))
          case atStart => exact ⟨startQ co, rfl, rfl, rfl, Lib.hid (start_inv hc0), HR2, Lib.hid rfl, Lib.hid (left_start co)⟩
          case round =>
            clear HR2
            obtain ⟨q, rfl, rfl, rfl, HI, HRo, HRun, HLf⟩ := hrel
            obtain ⟨k, hk⟩ : ∃ k, k = pick q.dp q.dn co.length := ⟨_, rfl⟩
            have hkn : k ≤ co.length := by
              have := List.findIdx_le_length (xs := List.range co.length) (p := fun i => !q.dn.getD i true && decide (0 ≤ q.dp.getD i (-1)))
              rw [List.length_range] at this
              rw [hk]
              exact this
            have HK1 : Hid (∀ i, i < k → q.dn.getD i true = true ∨ q.dp.getD i (-1) < 0) := Lib.hid fun i hi => by
              rw [hk] at hi
              have h1 := List.not_of_lt_findIdx (xs := List.range co.length) (p := fun i => !q.dn.getD i true && decide (0 ≤ q.dp.getD i (-1))) (i := i) hi
              have e : (List.range co.length)[i]'(by rw [List.length_range]; omega) = i := List.getElem_range _
              rw [e] at h1
              cases hd : q.dn.getD i true with
              | true => exact .inl rfl
              | false =>
                right
                by_cases hp : 0 ≤ q.dp.getD i (-1)
                · rw [hd, decide_eq_true hp] at h1
                  cases h1
                · omega
            have HK := Lib.hid hk
            clear hk
            go_wp2_with fail
            go_loopw [13] (fun i wq => ∃ j : Nat, i = .int .i64 (j : Int) ∧ j ≤ k ∧ Hid (wq = wr)) (fun i _ => k - (intOf i).toNat)
            case atStart => exact ⟨0, rfl, Nat.zero_le _, Lib.hid rfl⟩
            case round =>
              obtain ⟨j, rfl, hjk, HWq⟩ := hrel
              obtain rfl := HWq.out
              clear HWq
              by_cases hjn : j < co.length
              · obtain ⟨u0, -⟩ := HRo.out.rb.cell (t := j) (by rw [HRo.out.ln]; exact hjn)
                obtain ⟨u1, -⟩ := HRo.out.rd.cell (t := j) (by rw [HRo.out.ld]; exact hjn)
                have q0 : decide ((j : Int) < (co.length : Int)) = true := decide_eq_true (by omega)
                have h2 : (0 : Int) ≤ (j : Int) := by omega
                have h3 : (j : Int) < (co.length : Int) := by omega
                by_cases hlt2 : j < k
                · rcases HK1.out j hlt2 with hd | hd
                  · rw [hd] at u0
                    generalize q.dp.getD j (-1) = dd at *
                    go_wp2_with fail
                    go_roundw
                    case rel => exact ⟨j + 1, by go_num, by omega, Lib.hid trivial⟩
                    case measure => simp [intOf]; omega
                  · have q3 : decide (q.dp.getD j (-1) < 0) = true := decide_eq_true hd
                    generalize q.dp.getD j (-1) = dd at *
                    generalize q.dn.getD j true = bb at *
                    cases bb with
                    | true =>
                      go_wp2_with fail
                      go_roundw
                      case rel => exact ⟨j + 1, by go_num, by omega, Lib.hid trivial⟩
                      case measure => simp [intOf]; omega
                    | false =>
                      go_wp2_with fail
                      go_roundw
                      case rel => exact ⟨j + 1, by go_num, by omega, Lib.hid trivial⟩
                      case measure => simp [intOf]; omega
                · obtain rfl : j = k := by omega
                  obtain ⟨p1, p2⟩ := pick_lt (n := co.length) (dp := q.dp) (dn := q.dn) (by rw [← HK.out]; exact hjn)
                  rw [← HK.out] at p1 p2
                  have HI2 := Lib.hid (HI.out.step (a := j) hjn p2)
                  have hx := HCI.out _ (Go.Proofs.YtjbcmedljgafkaaDoor.pgm.getD_in (d := zero) hjn)
                  have HB := Lib.hid HRo.out.below
                  have HOn := Lib.hid (refOne_any _ p Aj cj co q.dp (w.heap.size + 1 + 1) co.length j _ (HV.out.next HB.out) hfl HFA.out (HD.out.next HB.out) rfl hc1 hjn hx HRo.out.rd HI.out.ld HI.out.rng p2)
                  have HL1 := Lib.hid ((one_length p.fs co q.dp j).trans HI.out.ld)
                  have hls := left_set (l := q.dn) (a := j) (by rw [HI.out.ln]; exact hjn) p1
                  have hlg := HLf.out
                  obtain ⟨g', rfl⟩ : ∃ g', gk = g' + 1 := ⟨gk - 1, by omega⟩
                  have HRun2 : Hid (runQ p.fs co g' (stepQ p.fs co q j) = runQ p.fs co co.length (startQ co)) := Lib.hid (by
                    have hr := HRun.out
                    show runQ p.fs co g' (stepQ p.fs co q j) = _
                    rw [← hr]
                    show _ = (if pick q.dp q.dn co.length < co.length then runQ p.fs co g' (stepQ p.fs co q (pick q.dp q.dn co.length)) else q)
                    rw [← HK.out, if_pos hjn])
                  have HLf2 : Hid (left (q.dn.set j true) ≤ g') := Lib.hid (by omega)
                  have q3 : decide (q.dp.getD j (-1) < 0) = false := decide_eq_false (by omega)
                  have q4 : ((j : Int) == (co.length : Int)) = false := beq_eq_false_iff_ne.2 (by omega)
                  rw [p1] at u0
                  unfold stepQ at HI2 HRun2
                  generalize q.dp.getD j (-1) = dd at *
                  generalize one p.fs co q.dp j = o1 at *
                  obtain ⟨dp1, e1⟩ := o1
                  dsimp only at HI2 HRun2 HOn HL1
                  clear HRun HLf HK HK1 HI p1 p2 hls hlg hx
                  have hbx := HRo.out.box
                  obtain ⟨z0, z1, z2, -, -, -⟩ := cells3 hbx
                  clear hbx
                  go_wp2_with fail
                  refine HOn.out.mono ?_
                  rintro _ w4 ⟨rfl, hd4, ht4⟩
                  have HR4 := Lib.hid (HRo.out.turned hd4 HL1.out ht4)
                  obtain ⟨u4, v4⟩ := HR4.out.rb.cell (t := j) (by rw [HR4.out.ln]; exact hjn)
                  have HR5 := Lib.hid (HR4.out.done j true)
                  generalize q.dn.getD j true = bb at *
                  clear hd4 ht4 HOn HRo u0 u1 z0 z1 z2 HR4 HB
                  by_cases he : e1 ≠ 0 ∧ j < q.first
                  · rw [if_pos he] at HI2 HRun2
                    obtain ⟨he0, he1⟩ := he
                    have q5 : ((e1 : Int) != 0) = true := by simpa using he0
                    have q6 : decide ((j : Int) < (q.first : Int)) = true := decide_eq_true (by omega)
                    go_wp2_with fail
                    go_roundg g'
                    case measure => omega
                    case rel => exact ⟨⟨dp1, q.dn.set j true, j, e1⟩, rfl, rfl, rfl, HI2, HR5, HRun2, HLf2⟩
                  · rw [if_neg he] at HI2 HRun2
                    by_cases he0 : e1 = 0
                    · subst he0
                      rw [show ((0 : Nat) : Int) = 0 from rfl]
                      go_wp2_with fail
                      go_roundg g'
                      case measure => omega
                      case rel => exact ⟨⟨dp1, q.dn.set j true, q.first, q.bad⟩, rfl, rfl, rfl, HI2, HR5, HRun2, HLf2⟩
                    · have q5 : ((e1 : Int) != 0) = true := by simpa using he0
                      have q6 : decide ((j : Int) < (q.first : Int)) = false := decide_eq_false (by have : ¬ j < q.first := fun h => he ⟨he0, h⟩; omega)
                      go_wp2_with fail
                      go_roundg g'
                      case measure => omega
                      case rel => exact ⟨⟨dp1, q.dn.set j true, q.first, q.bad⟩, rfl, rfl, rfl, HI2, HR5, HRun2, HLf2⟩
              · have q0 : decide ((j : Int) < (co.length : Int)) = false := decide_eq_false (by omega)
                have q4 : ((j : Int) == (co.length : Int)) = true := beq_iff_eq.2 (by omega)
                have hend : runQ p.fs co gk q = q := run_endQ (by rw [← HK.out]; omega) gk
                have hrr := HR.out
                rw [← HRun.out, hend] at hrr
                have HNr := Lib.hid (row_nums HRo.out.rd)
                have HLd := Lib.hid HRo.out.ld
                have HB := Lib.hid HRo.out.below
                by_cases hb : q.bad = 0
                · rw [if_neg (fun e => e hb)] at hrr
                  subst hrr
                  rw [hb, show ((0 : Nat) : Int) = 0 from rfl]
                  clear hend HR HRun HLf HK HK1 HI HRo
                  go_wp2_with fail
                  go_ret3
                  first
                    | exact ⟨some ⟨w.heap.size + 1 + 1, 0, none⟩, ⟨co.length, by rw [HLd.out]; rfl⟩, HNr.out, HB.out⟩
                    | exact ⟨some ⟨w.heap.size + 1 + 1, 0, none⟩, co.length, by rw [HLd.out]; rfl, HNr.out, HB.out⟩
                · rw [if_pos hb] at hrr
                  subst hrr
                  have q5 : ((q.bad : Int) != 0) = true := by simpa using hb
                  clear hend HR HRun HLf HK HK1 HI HRo
                  go_wp2_with fail
                  go_ret3
                  first
                    | exact ⟨none, ⟨0, rfl⟩, NAt.nil _ _, HB.out⟩
                    | exact ⟨none, 0, rfl, NAt.nil _ _, HB.out⟩
end Go.Proofs.YtjbcmedljgafkaaDoor.pgm.dep
