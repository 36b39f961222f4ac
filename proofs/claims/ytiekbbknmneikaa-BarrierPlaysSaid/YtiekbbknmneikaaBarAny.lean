/-
  A call on a barrier by its number, over what is asked of the program's calls. No condition. Printed by tools/mkbarany.py.
-/
import Derived.Test.YtiekbbknmneikaaBarSpec
namespace Go.Proofs.Ytiekbbknmneikaa.bar
open Go.RowKit Go.ChangeShapes
open Go.Proofs.Ytiekbbknmneikaa.obj
open Go.Proofs.Ytiekbbknmneikaa.bits (Is64 hasB wth wout minus)
set_option linter.unusedVariables false
set_option linter.unusedSimpArgs false

/-- While do goes: the barrier, and the boxes of the call, of what is answered, and of what is told. -/
structure Ez (At : World → Nat → Bx → Prop) (w : World) (g : Nat) (m : Bx) (k n : Int) (r t : Tx) (W : World) : Prop where
  only : Only g w W
  at' : At W g m
  lt : g < w.heap.size
  b1 : W.heap[w.heap.size]? = some (.cells #[.int .i64 k, .int .i64 n] 35 (0, 0))
  b2 : W.heap[w.heap.size + 1]? = some (txO r)
  b3 : W.heap[w.heap.size + 2]? = some (txO t)
theorem ez_new {At : World → Nat → Bx → Prop} (K : Keeps At) {w : World} {g : Nat} {m : Bx} (k n : Int) (h : At w g m) : Ez At w g m k n txZ txZ (((w.alloc (.cells #[.int .i64 k, .int .i64 n] 35)).alloc (txO txZ)).alloc (txO txZ)) := by
  have z1 : (w.alloc (.cells #[.int .i64 k, .int .i64 n] 35)).heap.size = w.heap.size + 1 := World.size_alloc _ _
  have z2 : ((w.alloc (.cells #[.int .i64 k, .int .i64 n] 35)).alloc (txO txZ)).heap.size = w.heap.size + 2 := by rw [World.size_alloc, z1]
  have hb : Below w.heap.size w (((w.alloc (.cells #[.int .i64 k, .int .i64 n] 35)).alloc (txO txZ)).alloc (txO txZ)) := (((Below.refl _ w).alloc (Nat.le_refl _) _).alloc (by omega) _).alloc (by omega) _
  refine ⟨Only.of_below hb, K.loc _ _ _ _ h (hb.block _ (K.lt _ _ _ h)) hb.size, K.lt _ _ _ h, ?_, ?_, ?_⟩
  · exact (Below.heap_alloc _ _ _ (by omega)).trans ((Below.heap_alloc _ _ _ (by omega)).trans (heap_alloc_new w _))
  · refine (Below.heap_alloc _ _ _ (by omega)).trans ?_
    rw [← z1]
    exact heap_alloc_new _ _
  · rw [← z2]
    exact heap_alloc_new _ _
theorem set_size (w : World) (g i : Nat) (v : Value) : w.heap.size ≤ (w.setCell ⟨g, i, none⟩ v).heap.size := by
  show w.heap.size ≤ (w.heap.modify _ _).size
  rw [Array.size_modify]
  exact Nat.le_refl _
theorem set_only {g b i : Nat} {w W : World} (h : Only g w W) (hb : w.heap.size ≤ b) (v : Value) : Only g w (W.setCell ⟨b, i, none⟩ v) :=
  ⟨h.os, h.tape, h.output, Nat.le_trans h.size (set_size _ _ _ _), fun k hk hg => (set_far v (by omega)).trans (h.block k hk hg)⟩
theorem row_only {g b : Nat} {w W : World} (h : Only g w W) (hb : w.heap.size ≤ b) (rs : Array Value) : Only g w (W.setRow b rs) :=
  ⟨h.os, h.tape, h.output, Nat.le_trans h.size (row_size _ _ _), fun k hk hg => (row_far rs (by omega)).trans (h.block k hk hg)⟩
section
variable {At : World → Nat → Bx → Prop} {w W : World} {g : Nat} {m : Bx} {k n : Int} {r t : Tx}
theorem Ez.step {W' : World} {m' : Bx} (h : Ez At w g m k n r t W) (ha : At W' g m') (ho : Only g W W') : Ez At w g m' k n r t W' :=
  ⟨h.only.trans ho, ha, h.lt, (ho.block _ (lt_of_block h.b1) (by have := h.lt; omega)).trans h.b1, (ho.block _ (lt_of_block h.b2) (by have := h.lt; omega)).trans h.b2, (ho.block _ (lt_of_block h.b3) (by have := h.lt; omega)).trans h.b3⟩
theorem Ez.t0 (K : Keeps At) (h : Ez At w g m k n r t W) : Ez At w g m k n r txZ (W.setRow (w.heap.size + 2) (txC txZ).toArray) :=
  ⟨row_only h.only (by omega) _, K.loc _ _ _ _ h.at' (row_far _ (by have := h.lt; omega)) (row_size _ _ _), h.lt, (row_far _ (by omega)).trans h.b1, (row_far _ (by omega)).trans h.b2, tx_turned h.b3 _⟩
theorem Ez.ans (K : Keeps At) (h : Ez At w g m k n r t W) (x : Tx) : Ez At w g m k n x t (W.setRow (w.heap.size + 1) (txC x).toArray) :=
  ⟨row_only h.only (by omega) _, K.loc _ _ _ _ h.at' (row_far _ (by have := h.lt; omega)) (row_size _ _ _), h.lt, (row_far _ (by omega)).trans h.b1, tx_turned h.b2 _, (row_far _ (by omega)).trans h.b3⟩
theorem Ez.sets (K : Keeps At) (h : Ez At w g m k n r t W) (x : Nat) : Ez At w g m k n r ⟨x, t.b, t.e⟩ (W.setCell ⟨w.heap.size + 2, 0, none⟩ (.int .u64 (x : Int))) :=
  ⟨set_only h.only (by omega) _, K.loc _ _ _ _ h.at' (set_far _ (by have := h.lt; omega)) (set_size _ _ _ _), h.lt, (set_far _ (by omega)).trans h.b1, (set_far _ (by omega)).trans h.b2, tx_sets h.b3 x⟩
theorem Ez.setb (K : Keeps At) (h : Ez At w g m k n r t W) (x : Bool) : Ez At w g m k n r ⟨t.s, x, t.e⟩ (W.setCell ⟨w.heap.size + 2, 1, none⟩ (.bool x)) :=
  ⟨set_only h.only (by omega) _, K.loc _ _ _ _ h.at' (set_far _ (by have := h.lt; omega)) (set_size _ _ _ _), h.lt, (set_far _ (by omega)).trans h.b1, (set_far _ (by omega)).trans h.b2, tx_setb h.b3 x⟩
theorem Ez.sete (K : Keeps At) (h : Ez At w g m k n r t W) (x : Int) : Ez At w g m k n r ⟨t.s, t.b, x⟩ (W.setCell ⟨w.heap.size + 2, 2, none⟩ (.int .i64 x)) :=
  ⟨set_only h.only (by omega) _, K.loc _ _ _ _ h.at' (set_far _ (by have := h.lt; omega)) (set_size _ _ _ _), h.lt, (set_far _ (by omega)).trans h.b1, (set_far _ (by omega)).trans h.b2, tx_sete h.b3 x⟩
end
/-- Behind a call: what is answered, and what the barrier is like. -/
def DoPost (At : World → Nat → Bx → Prop) (q : Bx × Tx) (g : Nat) (w : World) (e : Ending) (w' : World) : Prop := e = .returned (txV q.2) ∧ At w' g q.1 ∧ Only g w w'
theorem ret_any19 {At : World → Nat → Bx → Prop} {W w : World} {act : Act} {q : Bx × Tx} {g : Nat} {t : Tx} {k n : Int} (h4 : act.tmps[4]?.getD undef = .pointer (some ⟨w.heap.size + 1, 0, none⟩)) (hd : act.defers = []) (hE : Ez At w g q.1 k n q.2 t W) :
    bodyPost Try.prog Try.f8 (DoPost At q g w) .ret act W := by
  have hT := run_loadVar_mid (P := Try.prog) W (w.heap.size + 1) 0 31 (txC q.2) _ (tx_range hE.b2) Try.underlying31 rfl (tx_size rfl)
  refine bodyPost_ret (v := txV q.2) ?_ hd ⟨rfl, hE.at', hE.only⟩
  simp [results, Try.results8, asAddr, h4, hT, Sem.run_bind, Sem.run_pure, Result.andThen, txV]
set_option maxRecDepth 100000 in
set_option maxHeartbeats 8000000 in
theorem do_any {At : World → Nat → Bx → Prop} (K : Keeps At) (s : Bx) (g : Nat) (k n : Int) (w : World) (ha : At w g s) (hf : Fine s) (hn : I64 n) :
    Calls Try.prog 8 #[.pointer (some ⟨g, 0, none⟩), .agg #[.int .i64 k, .int .i64 n]] w (DoPost At (doB s k n) g w) := by
  have HK := Lib.hid K
  have HZ := Lib.hid (ez_new K k n ha)
  have HEn := fun W h => Lib.hid (K.enrol W g s n h hf hn)
  have HLe := fun W h => Lib.hid (K.leave W g s n h hf hn)
  have HAr := fun W h => Lib.hid (K.arrive W g s n h hf hn)
  have HWi := fun W h => Lib.hid (K.draw W g s n h hf hn)
  have HBr := fun W h => Lib.hid (K.brk W g s n h hf hn)
  obtain ⟨q, hq⟩ : ∃ q, q = doB s k n := ⟨_, rfl⟩
  rw [← hq]
  unfold doB at hq
  generalize enrolB s n = qe at *
  generalize leaveB s n = ql at *
  generalize arriveB s n = qa at *
  generalize drawB s n = qd at *
  generalize breakB s n = qb at *
  obtain ⟨qe1, qe2⟩ := qe
  obtain ⟨ql1, ql2, ql3⟩ := ql
  obtain ⟨qa1, qa2, qa3, qa4⟩ := qa
  obtain ⟨qd1, qd2⟩ := qd
  obtain ⟨qb1, qb2, qb3⟩ := qb
  dsimp only at hq HEn HLe HAr HWi HBr
  clear hf hn ha K
  have HQ := Lib.hid hq
  clear hq
  have hsz : ((w.alloc (.cells #[.int .i64 k, .int .i64 n] 35)).alloc (txO txZ)).heap.size = w.heap.size + 2 := by simp only [World.size_alloc, Nat.add_assoc, Nat.reduceAdd]
  go_enter Try.func8, Try.ntmps8
  go_upto_region 1 with (first | refine wtx_alloc rfl rfl ?_)
  try simp only [Act.put, List.setIfInBounds_toArray, List.set_cons_zero, List.set_cons_succ, World.size_alloc, Nat.add_assoc, Nat.reduceAdd]
  generalize (w.alloc (.cells #[.int .i64 k, .int .i64 n] 35)).alloc (txO txZ) = W0 at *
  go_upto_region 2 with (first | refine wtx_build0 rfl rfl ?_ | refine wtx_alloc rfl rfl ?_ | refine wtx_store rfl _ _ rfl W0.heap.size txZ txZ rfl rfl (heap_alloc_new W0 (txO txZ)) ?_)
  try simp only [Act.put, List.setIfInBounds_toArray, List.set_cons_zero, List.set_cons_succ, hsz]
  have HZ1 := Lib.hid (HZ.out.t0 HK.out)
  generalize (W0.alloc (txO txZ)).setRow (w.heap.size + 2) (txC txZ).toArray = W1 at *
  clear HZ hsz
  obtain ⟨y0, y1⟩ := cells2 HZ1.out.b1
  go_cut [13] (fun x wx => x = .int .i64 k ∧ Hid (Ez At w g s k n txZ txZ wx))
  case first =>
    clear HQ HEn HLe HAr HWi HBr
    go_wp2_with fail
    go_meet
    exact ⟨rfl, HZ1⟩
  case rest =>
    obtain ⟨rfl, HZ2⟩ := hcut
    clear HZ1 y0 y1
    obtain ⟨y0, y1⟩ := cells2 HZ2.out.b1
    (rename (∀ (a : Act) (w : World), Code.wp _ _ _ a w → _) => hK; refine hK _ _ ?_; clear hK)
    go_cut [5] (fun x wx => x = .pointer (some ⟨w.heap.size + 2, 0, none⟩) ∧ Hid (Ez At w g q.1 k n txZ q.2 wx))
    case first =>
      by_cases k0 : k = 0
      · subst k0
        have hq := HQ.out
        rw [if_pos rfl] at hq
        subst hq
        clear HLe HAr HWi HBr
        clear HQ
        have D := HEn _ HZ2.out.at'
        go_wp2_with fail
        refine D.out.mono ?_
        rintro _ w3 ⟨rfl, ha, ho⟩
        have HZ3 := Lib.hid (HZ2.out.step ha ho)
        clear ha ho D HZ2 y0 y1 HEn
        obtain ⟨t0, t1, t2⟩ := tx_cells HZ3.out.b3
        have f0 := tx_soft HZ3.out.b3 0
        have f1 := tx_soft HZ3.out.b3 1
        have f2 := tx_soft HZ3.out.b3 2
        have HZ4 := Lib.hid (HZ3.out.sete HK.out qe2)
        go_wp2_with fail
        go_meet
        exact ⟨rfl, HZ4⟩
      by_cases k1 : k = 1
      · subst k1
        have hq := HQ.out
        rw [if_neg (by decide), if_pos rfl] at hq
        subst hq
        clear HEn HAr HWi HBr
        clear HQ
        have D := HLe _ HZ2.out.at'
        go_wp2_with fail
        refine D.out.mono ?_
        rintro _ w3 ⟨rfl, ha, ho⟩
        have HZ3 := Lib.hid (HZ2.out.step ha ho)
        clear ha ho D HZ2 y0 y1 HLe
        obtain ⟨t0, t1, t2⟩ := tx_cells HZ3.out.b3
        have f0 := tx_soft HZ3.out.b3 0
        have f1 := tx_soft HZ3.out.b3 1
        have f2 := tx_soft HZ3.out.b3 2
        have HZ4 := Lib.hid (HZ3.out.sets HK.out ql2)
        obtain ⟨t00, t10, t20⟩ := tx_cells HZ4.out.b3
        have f00 := tx_soft HZ4.out.b3 0
        have f10 := tx_soft HZ4.out.b3 1
        have f20 := tx_soft HZ4.out.b3 2
        have HZ5 := Lib.hid (HZ4.out.sete HK.out ql3)
        go_wp2_with fail
        go_meet
        exact ⟨rfl, HZ5⟩
      by_cases k2 : k = 2
      · subst k2
        have hq := HQ.out
        rw [if_neg (by decide), if_neg (by decide), if_pos rfl] at hq
        subst hq
        clear HEn HLe HWi HBr
        clear HQ
        have D := HAr _ HZ2.out.at'
        go_wp2_with fail
        refine D.out.mono ?_
        rintro _ w3 ⟨rfl, ha, ho⟩
        have HZ3 := Lib.hid (HZ2.out.step ha ho)
        clear ha ho D HZ2 y0 y1 HAr
        obtain ⟨t0, t1, t2⟩ := tx_cells HZ3.out.b3
        have f0 := tx_soft HZ3.out.b3 0
        have f1 := tx_soft HZ3.out.b3 1
        have f2 := tx_soft HZ3.out.b3 2
        have HZ4 := Lib.hid (HZ3.out.sets HK.out qa2)
        obtain ⟨t00, t10, t20⟩ := tx_cells HZ4.out.b3
        have f00 := tx_soft HZ4.out.b3 0
        have f10 := tx_soft HZ4.out.b3 1
        have f20 := tx_soft HZ4.out.b3 2
        have HZ5 := Lib.hid (HZ4.out.setb HK.out qa3)
        obtain ⟨t01, t11, t21⟩ := tx_cells HZ5.out.b3
        have f01 := tx_soft HZ5.out.b3 0
        have f11 := tx_soft HZ5.out.b3 1
        have f21 := tx_soft HZ5.out.b3 2
        have HZ6 := Lib.hid (HZ5.out.sete HK.out qa4)
        go_wp2_with fail
        go_meet
        exact ⟨rfl, HZ6⟩
      by_cases k3 : k = 3
      · subst k3
        have hq := HQ.out
        rw [if_neg (by decide), if_neg (by decide), if_neg (by decide), if_pos rfl] at hq
        subst hq
        clear HEn HLe HAr HBr
        clear HQ
        have D := HWi _ HZ2.out.at'
        go_wp2_with fail
        refine D.out.mono ?_
        rintro _ w3 ⟨rfl, ha, ho⟩
        have HZ3 := Lib.hid (HZ2.out.step ha ho)
        clear ha ho D HZ2 y0 y1 HWi
        obtain ⟨t0, t1, t2⟩ := tx_cells HZ3.out.b3
        have f0 := tx_soft HZ3.out.b3 0
        have f1 := tx_soft HZ3.out.b3 1
        have f2 := tx_soft HZ3.out.b3 2
        have HZ4 := Lib.hid (HZ3.out.setb HK.out qd2)
        go_wp2_with fail
        go_meet
        exact ⟨rfl, HZ4⟩
      have hq := HQ.out
      rw [if_neg k0, if_neg k1, if_neg k2, if_neg k3] at hq
      subst hq
      have e0 : (k == 0) = false := by rw [beq_eq_false_iff_ne]; exact k0
      have e1 : (k == 1) = false := by rw [beq_eq_false_iff_ne]; exact k1
      have e2 : (k == 2) = false := by rw [beq_eq_false_iff_ne]; exact k2
      have e3 : (k == 3) = false := by rw [beq_eq_false_iff_ne]; exact k3
      clear k0 k1 k2 k3
      clear HEn HLe HAr HWi
      clear HQ
      have D := HBr _ HZ2.out.at'
      go_wp2_with fail
      refine D.out.mono ?_
      rintro _ w3 ⟨rfl, ha, ho⟩
      have HZ3 := Lib.hid (HZ2.out.step ha ho)
      clear ha ho D HZ2 y0 y1 HBr
      obtain ⟨t0, t1, t2⟩ := tx_cells HZ3.out.b3
      have f0 := tx_soft HZ3.out.b3 0
      have f1 := tx_soft HZ3.out.b3 1
      have f2 := tx_soft HZ3.out.b3 2
      have HZ4 := Lib.hid (HZ3.out.sets HK.out qb2)
      obtain ⟨t00, t10, t20⟩ := tx_cells HZ4.out.b3
      have f00 := tx_soft HZ4.out.b3 0
      have f10 := tx_soft HZ4.out.b3 1
      have f20 := tx_soft HZ4.out.b3 2
      have HZ5 := Lib.hid (HZ4.out.setb HK.out qb3)
      go_wp2_with fail
      go_meet
      exact ⟨rfl, HZ5⟩
    case rest =>
      obtain ⟨rfl, HZ3⟩ := hcut
      clear HZ2 y0 y1 HQ HEn HLe HAr HWi HBr
      go_wp2_with (first | refine wtx_load rfl _ rfl (w.heap.size + 2) rfl q.2 HZ3.out.b3 ?_ | refine wtx_store rfl _ _ rfl (w.heap.size + 1) txZ q.2 rfl rfl HZ3.out.b2 ?_)
      exact ret_any19 rfl rfl (HZ3.out.ans HK.out q.2)
end Go.Proofs.Ytiekbbknmneikaa.bar
