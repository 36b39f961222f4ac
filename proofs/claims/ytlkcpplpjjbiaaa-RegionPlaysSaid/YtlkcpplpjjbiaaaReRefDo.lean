/-
  The document's Do. No condition.
-/
import Derived.Test.YtlkcpplpjjbiaaaReRefA
namespace Go.Proofs.Ytlkcpplpjjbiaaa.reg
open Go.RowKit Go.ChangeShapes
open Go.Proofs.Ytlkcpplpjjbiaaa.pol (SAt below_grown)
set_option linter.unusedVariables false
set_option linter.unusedSimpArgs false

/-- What the document's region says beside its frames: its number, its aborts, what was written, what was got. -/
structure Ds where
  num : Int
  ab : Int
  was : List E
  got : List E
/-- What a call makes of it. -/
def Ds.op (d : Ds) (k o n : Int) : Ds :=
  if k = 0 then { d with was := wrote d.was o n } else
  if k = 1 then (if 0 < n then { d with got := addL d.got o n } else d) else
  if k = 2 then (if 0 < n then { d with got := addL d.got o (-n) } else d) else
  ⟨n, d.ab + 1, [], []⟩
/-- A value that says it. -/
structure RgAt (w : World) (A : Option Addr) (n c : Nat) (m : Rg) (d : Ds) : Prop where
  eA : m.A = A
  en : m.n = n
  ec : m.c = c
  num : m.num = d.num
  ab : m.ab = d.ab
  nu : m.nu = d.was.length
  ng : m.ng = d.got.length
  oU : pol.Own w 0 (.slice m.U m.nu m.cu) d.was
  oG : pol.Own w 0 (.slice m.G m.ng m.cg) d.got
theorem RgAt.next {w w' : World} {A : Option Addr} {n c : Nat} {m : Rg} {d : Ds} (h : RgAt w A n c m d) (hb : Below w.heap.size w w') : RgAt w' A n c m d :=
  ⟨h.eA, h.en, h.ec, h.num, h.ab, h.nu, h.ng, h.oU.next hb, h.oG.next hb⟩
/-- How much it may be. -/
structure Fits (d : Ds) : Prop where
  was : d.was.length ≤ 3000
  got : d.got.length ≤ 3000
  ab0 : 0 ≤ d.ab
  ab1 : d.ab ≤ 3000
  pos : ∀ p ∈ d.got, 1 ≤ p.2 ∧ p.2 ≤ 2305843009213693952
/-- Three boxes: of the region, of the call, of what is answered. -/
structure Tx (w : World) (m : Rg) (k o n : Int) (r : Rg) (W : World) : Prop where
  below : Below w.heap.size w W
  b0 : W.heap[w.heap.size]? = some (rgO m)
  b1 : W.heap[w.heap.size + 1]? = some (.cells #[.int .i64 k, .int .i64 o, .int .i64 n] 36 (0, 0))
  b2 : W.heap[w.heap.size + 2]? = some (rgO r)
section
variable {w W W' : World} {m r : Rg} {k o n : Int}
theorem tx_new (w : World) (m : Rg) (k o n : Int) : Tx w m k o n rgZ (((w.alloc (rgO m)).alloc (.cells #[.int .i64 k, .int .i64 o, .int .i64 n] 36)).alloc (rgO rgZ)) := by
  have z1 : (w.alloc (rgO m)).heap.size = w.heap.size + 1 := World.size_alloc _ _
  have z2 : ((w.alloc (rgO m)).alloc (.cells #[.int .i64 k, .int .i64 o, .int .i64 n] 36)).heap.size = w.heap.size + 2 := by rw [World.size_alloc, z1]
  refine ⟨(((Below.refl _ w).alloc (Nat.le_refl _) _).alloc (by omega) _).alloc (by omega) _, ?_, ?_, ?_⟩
  · exact (Below.heap_alloc _ _ _ (by omega)).trans ((Below.heap_alloc _ _ _ (by omega)).trans (heap_alloc_new w _))
  · refine (Below.heap_alloc _ _ _ (by omega)).trans ?_
    rw [← z1]
    exact heap_alloc_new _ _
  · rw [← z2]
    exact heap_alloc_new _ _
theorem Tx.next (h : Tx w m k o n r W) (hb : Below W.heap.size W W') : Tx w m k o n r W' :=
  ⟨h.below.trans (hb.mono h.below.size), (hb.block _ (lt_of_block h.b0)).trans h.b0, (hb.block _ (lt_of_block h.b1)).trans h.b1, (hb.block _ (lt_of_block h.b2)).trans h.b2⟩
theorem Tx.cells (h : Tx w m k o n r W) : W.cell? ⟨w.heap.size + 1, 0, none⟩ = some (.int .i64 k) ∧ W.cell? ⟨w.heap.size + 1, 1, none⟩ = some (.int .i64 o) ∧ W.cell? ⟨w.heap.size + 1, 2, none⟩ = some (.int .i64 n) ∧ W.cell? ⟨w.heap.size, 4, none⟩ = some (.slice m.G m.ng m.cg) ∧ W.frozen? ⟨w.heap.size, 4, none⟩ = false := by
  refine ⟨?_, ?_, ?_, (rg_cells h.b0).2.2.2.2, rg_free h.b0 4⟩
  all_goals
    unfold World.cell?
    rw [h.b1]
    rfl
theorem Tx.setG (h : Tx w m k o n r W) (A : Option Addr) (i c : Nat) : Tx w { m with G := A, ng := i, cg := c } k o n r (W.setCell ⟨w.heap.size, 4, none⟩ (.slice A i c)) :=
  ⟨h.below.setCell (p := ⟨w.heap.size, 4, none⟩) (Nat.le_refl _) _, rg_setG h.b0 A i c, (heap_setCell_other W ⟨w.heap.size, 4, none⟩ _ _ (by show w.heap.size + 1 ≠ w.heap.size; omega)).trans h.b1, (heap_setCell_other W ⟨w.heap.size, 4, none⟩ _ _ (by show w.heap.size + 2 ≠ w.heap.size; omega)).trans h.b2⟩
theorem Tx.setR (h : Tx w m k o n r W) (q : Rg) : Tx w m k o n q (W.setRow (w.heap.size + 2) (rgC q).toArray) :=
  ⟨row_below h.below (by omega) _, (setRow_other W (w.heap.size + 2) w.heap.size _ (by omega)).trans h.b0, (setRow_other W (w.heap.size + 2) (w.heap.size + 1) _ (by omega)).trans h.b1, rg_turned h.b2 q⟩
theorem RgAt.setR {A : Option Addr} {i c : Nat} {q : Rg} {d : Ds} {g : Nat} {m0 : Rg} (h : RgAt W A i c q d) (hg : W.heap[g]? = some (rgO m0)) (cs : Array Value) : RgAt (W.setRow g cs) A i c q d :=
  ⟨h.eA, h.en, h.ec, h.num, h.ab, h.nu, h.ng, own_setRow h.oU cs (pown_ne h.oU hg), own_setRow h.oG cs (pown_ne h.oG hg)⟩
end
/-- What Do answers. -/
def DoR (A : Option Addr) (i c : Nat) (d : Ds) (w : World) (e : Ending) (w' : World) : Prop := ∃ m2, e = .returned (rgV m2) ∧ RgAt w' A i c m2 d ∧ Below w.heap.size w w'
theorem do_end {w W : World} {A : Option Addr} {i c : Nat} {d : Ds} {m q : Rg} {k o n : Int} {act : Act} (h4 : act.tmps[4]?.getD undef = .pointer (some ⟨w.heap.size + 2, 0, none⟩)) (hd : act.defers = []) (hx : Tx w m k o n rgZ W) (h : RgAt W A i c q d) :
    bodyPost Try.prog Try.f13 (DoR A i c d w) .ret act (W.setRow (w.heap.size + 2) (rgC q).toArray) :=
  ret_do h4 hd (hx.setR q).b2 ⟨q, rfl, h.setR hx.b2 _, (hx.setR q).below⟩
set_option maxRecDepth 100000 in
set_option maxHeartbeats 8000000 in
theorem refDo_any (A : Option Addr) (i c : Nat) (m : Rg) (d : Ds) (k o n : Int) (w : World) (h : RgAt w A i c m d) (hf : Fits d) (hn : -1152921504606846976 ≤ n ∧ n ≤ 1152921504606846976) :
    Calls Try.prog 13 #[rgV m, .agg #[.int .i64 k, .int .i64 o, .int .i64 n]] w (DoR A i c (d.op k o n) w) := by
  have HZ := Lib.hid (tx_new w m k o n)
  have HA := Lib.hid h
  have HF := Lib.hid hf
  have HN := Lib.hid hn
  have HW : Hid (∀ W, Below w.heap.size w W → Calls Try.prog 29 #[rgV m, .int .i64 o, .int .i64 n] W fun e w' => ∃ q, e = .returned (rgV q) ∧ Hid (RgAt w' A i c q { d with was := wrote d.was o n } ∧ Below W.heap.size W w')) := Lib.hid fun W hb =>
    (refWrote_any m d.was o n W (h.next hb).oU h.nu (by have := hf.was; omega)).mono fun e w' hh => by
      obtain ⟨U, cu, rfl, h1, h2⟩ := hh
      exact ⟨_, rfl, Lib.hid ⟨⟨h.eA, h.en, h.ec, h.num, h.ab, rfl, h.ng, h1, ((h.next hb).next h2).oG⟩, h2⟩⟩
  have HG : Hid (∀ W y, Below w.heap.size w W → -2305843009213693952 ≤ y ∧ y ≤ 2305843009213693952 → Calls Try.prog 30 #[.slice m.G m.ng m.cg, .int .i64 o, .int .i64 y] W fun e w' => ∃ G2 c2, e = .returned (.slice G2 (addL d.got o y).length c2) ∧ Hid (pol.Own w' 0 (.slice G2 (addL d.got o y).length c2) (addL d.got o y) ∧ Below W.heap.size W w')) := Lib.hid fun W y hb hy => by
    have h1 := refAdd_any m.G m.cg d.got o y W (by have := (h.next hb).oG; rwa [h.ng] at this) (by have := hf.got; omega) hf.pos hy
    rw [← h.ng] at h1
    exact h1.mono fun e w' hh => by
      obtain ⟨A2, c2, rfl, h2, h3⟩ := hh
      exact ⟨A2, c2, rfl, Lib.hid ⟨h2.base (Nat.zero_le _), h3⟩⟩
  have HR : Hid (∀ W, Below w.heap.size w W → Calls Try.prog 31 #[rgV m, .int .i64 n] W fun e w' => ∃ q, e = .returned (rgV q) ∧ Hid (RgAt w' A i c q ⟨n, d.ab + 1, [], []⟩ ∧ Below W.heap.size W w')) := Lib.hid fun W hb =>
    (refAgain_any m n W (by rw [h.ab]; have := hf.ab0; have := hf.ab1; omega)).mono fun e w' hh => by
      obtain ⟨rfl, h2⟩ := hh
      exact ⟨_, rfl, Lib.hid ⟨⟨h.eA, h.en, h.ec, rfl, by rw [← h.ab], rfl, rfl, pol.Own.nil _ _, pol.Own.nil _ _⟩, h2⟩⟩
  clear h hf hn
  by_cases k0 : k = 0
  · subst k0
    have e : d.op 0 o n = { d with was := wrote d.was o n } := by unfold Ds.op; rw [if_pos rfl]
    rw [e]
    clear e
    go_enter Try.func13, Try.ntmps13
    go_upto_region 1 with (first | refine wrg_box rfl _ rfl m rfl ?_ | refine wrg_alloc rfl rfl ?_)
    try simp only [Act.put, List.setIfInBounds_toArray, List.set_cons_zero, List.set_cons_succ]
    try simp only [World.size_alloc]
    generalize ((w.alloc (rgO m)).alloc (.cells #[.int .i64 0, .int .i64 o, .int .i64 n] 36)).alloc (rgO rgZ) = W1 at *
    obtain ⟨x0, x1, x2, x3, x4⟩ := HZ.out.cells
    have HQ := Lib.hid (HW.out W1 HZ.out.below)
    go_wp2_with (first
      | refine wrg_load rfl _ rfl w.heap.size rfl m HZ.out.b0 ?_
      | (go_at_call 29; refine HQ.out.mono ?_; rintro _ w2 ⟨q, rfl, H2⟩; have HZ2 := Lib.hid (HZ.out.next H2.out.2))
      | refine wrg_store rfl _ _ rfl (w.heap.size + 2) rgZ q rfl rfl HZ2.out.b2 ?_)
    exact do_end rfl rfl HZ2.out H2.out.1
  · by_cases k1 : k = 1
    · subst k1
      by_cases hp : 0 < n
      · have e : d.op 1 o n = { d with got := addL d.got o (n) } := by unfold Ds.op; rw [if_neg (by decide), if_pos rfl, if_pos hp]
        rw [e]
        have m0 : decide (n > 0) = true := decide_eq_true hp
        have m1 : decide (0 < n) = true := decide_eq_true hp
        clear e hp
        go_enter Try.func13, Try.ntmps13
        go_upto_region 1 with (first | refine wrg_box rfl _ rfl m rfl ?_ | refine wrg_alloc rfl rfl ?_)
        try simp only [Act.put, List.setIfInBounds_toArray, List.set_cons_zero, List.set_cons_succ]
        try simp only [World.size_alloc]
        generalize ((w.alloc (rgO m)).alloc (.cells #[.int .i64 1, .int .i64 o, .int .i64 n] 36)).alloc (rgO rgZ) = W1 at *
        obtain ⟨x0, x1, x2, x3, x4⟩ := HZ.out.cells
        have HQ := Lib.hid (HG.out W1 (n) HZ.out.below (by have := HN.out; omega))
        generalize hl2 : addL d.got o (n) = l2 at *
        generalize hn2 : l2.length = n2 at *
        have HE := Lib.hid (And.intro hl2 hn2)
        clear hl2 hn2
        go_upto_region 7 with (first
          | (go_at_call 30; refine HQ.out.mono ?_; rintro _ w2 ⟨G2, c2, rfl, H2⟩; have HZ2 := Lib.hid (HZ.out.next H2.out.2); obtain ⟨y0, y1, y2, y3, y4⟩ := HZ2.out.cells; clear x0 x1 x2 x3 x4 HQ))
        have HZ3 := Lib.hid (HZ2.out.setG G2 n2 c2)
        have HA3 : Hid (RgAt (w2.setCell ⟨w.heap.size, 4, none⟩ (.slice G2 n2 c2)) A i c { m with G := G2, ng := n2, cg := c2 } { d with got := l2 }) := Lib.hid (by
          have ha := (HA.out.next HZ.out.below).next H2.out.2
          exact ⟨ha.eA, ha.en, ha.ec, ha.num, ha.ab, ha.nu, HE.out.2.symm, own_setCell ha.oU _ (pown_ne ha.oU HZ2.out.b0), own_setCell H2.out.1 _ (pown_ne H2.out.1 HZ2.out.b0)⟩)
        generalize w2.setCell ⟨w.heap.size, 4, none⟩ (.slice G2 n2 c2) = W3 at *
        clear y0 y1 y2 y3 y4
        go_wp2_with (first
          | refine wrg_load rfl _ rfl w.heap.size rfl _ HZ3.out.b0 ?_
          | refine wrg_store rfl _ _ rfl (w.heap.size + 2) rgZ _ rfl rfl HZ3.out.b2 ?_)
        exact do_end rfl rfl HZ3.out HA3.out
      · have e : d.op 1 o n = d := by unfold Ds.op; rw [if_neg (by decide), if_pos rfl, if_neg hp]
        rw [e]
        have m0 : decide (n > 0) = false := decide_eq_false hp
        have m1 : decide (0 < n) = false := decide_eq_false hp
        clear e hp
        go_enter Try.func13, Try.ntmps13
        go_upto_region 1 with (first | refine wrg_box rfl _ rfl m rfl ?_ | refine wrg_alloc rfl rfl ?_)
        try simp only [Act.put, List.setIfInBounds_toArray, List.set_cons_zero, List.set_cons_succ]
        try simp only [World.size_alloc]
        generalize ((w.alloc (rgO m)).alloc (.cells #[.int .i64 1, .int .i64 o, .int .i64 n] 36)).alloc (rgO rgZ) = W1 at *
        obtain ⟨x0, x1, x2, x3, x4⟩ := HZ.out.cells
        have HA2 := Lib.hid (HA.out.next HZ.out.below)
        go_wp2_with (first
          | refine wrg_load rfl _ rfl w.heap.size rfl m HZ.out.b0 ?_
          | refine wrg_store rfl _ _ rfl (w.heap.size + 2) rgZ m rfl rfl HZ.out.b2 ?_)
        exact do_end rfl rfl HZ.out HA2.out
    by_cases k2 : k = 2
    · subst k2
      by_cases hp : 0 < n
      · have e : d.op 2 o n = { d with got := addL d.got o (-n) } := by unfold Ds.op; rw [if_neg (by decide), if_neg (by decide), if_pos rfl, if_pos hp]
        rw [e]
        have m0 : decide (n > 0) = true := decide_eq_true hp
        have m1 : decide (0 < n) = true := decide_eq_true hp
        clear e hp
        go_enter Try.func13, Try.ntmps13
        go_upto_region 1 with (first | refine wrg_box rfl _ rfl m rfl ?_ | refine wrg_alloc rfl rfl ?_)
        try simp only [Act.put, List.setIfInBounds_toArray, List.set_cons_zero, List.set_cons_succ]
        try simp only [World.size_alloc]
        generalize ((w.alloc (rgO m)).alloc (.cells #[.int .i64 2, .int .i64 o, .int .i64 n] 36)).alloc (rgO rgZ) = W1 at *
        obtain ⟨x0, x1, x2, x3, x4⟩ := HZ.out.cells
        have hw1 : wrap64 (-n) = -n := IntWalk.wrap64_in _ (by have := HN.out; omega)
        have hw2 : IntKind.i64.wrap (-n) = -n := by rw [IntWalk.i64_left, hw1]
        have HQ := Lib.hid (HG.out W1 (-n) HZ.out.below (by have := HN.out; omega))
        generalize hl2 : addL d.got o (-n) = l2 at *
        generalize hn2 : l2.length = n2 at *
        have HE := Lib.hid (And.intro hl2 hn2)
        clear hl2 hn2
        go_upto_region 11 with (first
          | (go_at_call 30; refine HQ.out.mono ?_; rintro _ w2 ⟨G2, c2, rfl, H2⟩; have HZ2 := Lib.hid (HZ.out.next H2.out.2); obtain ⟨y0, y1, y2, y3, y4⟩ := HZ2.out.cells; clear x0 x1 x2 x3 x4 HQ))
        have HZ3 := Lib.hid (HZ2.out.setG G2 n2 c2)
        have HA3 : Hid (RgAt (w2.setCell ⟨w.heap.size, 4, none⟩ (.slice G2 n2 c2)) A i c { m with G := G2, ng := n2, cg := c2 } { d with got := l2 }) := Lib.hid (by
          have ha := (HA.out.next HZ.out.below).next H2.out.2
          exact ⟨ha.eA, ha.en, ha.ec, ha.num, ha.ab, ha.nu, HE.out.2.symm, own_setCell ha.oU _ (pown_ne ha.oU HZ2.out.b0), own_setCell H2.out.1 _ (pown_ne H2.out.1 HZ2.out.b0)⟩)
        generalize w2.setCell ⟨w.heap.size, 4, none⟩ (.slice G2 n2 c2) = W3 at *
        clear y0 y1 y2 y3 y4
        go_wp2_with (first
          | refine wrg_load rfl _ rfl w.heap.size rfl _ HZ3.out.b0 ?_
          | refine wrg_store rfl _ _ rfl (w.heap.size + 2) rgZ _ rfl rfl HZ3.out.b2 ?_)
        exact do_end rfl rfl HZ3.out HA3.out
      · have e : d.op 2 o n = d := by unfold Ds.op; rw [if_neg (by decide), if_neg (by decide), if_pos rfl, if_neg hp]
        rw [e]
        have m0 : decide (n > 0) = false := decide_eq_false hp
        have m1 : decide (0 < n) = false := decide_eq_false hp
        clear e hp
        go_enter Try.func13, Try.ntmps13
        go_upto_region 1 with (first | refine wrg_box rfl _ rfl m rfl ?_ | refine wrg_alloc rfl rfl ?_)
        try simp only [Act.put, List.setIfInBounds_toArray, List.set_cons_zero, List.set_cons_succ]
        try simp only [World.size_alloc]
        generalize ((w.alloc (rgO m)).alloc (.cells #[.int .i64 2, .int .i64 o, .int .i64 n] 36)).alloc (rgO rgZ) = W1 at *
        obtain ⟨x0, x1, x2, x3, x4⟩ := HZ.out.cells
        have HA2 := Lib.hid (HA.out.next HZ.out.below)
        go_wp2_with (first
          | refine wrg_load rfl _ rfl w.heap.size rfl m HZ.out.b0 ?_
          | refine wrg_store rfl _ _ rfl (w.heap.size + 2) rgZ m rfl rfl HZ.out.b2 ?_)
        exact do_end rfl rfl HZ.out HA2.out
    have e : d.op k o n = ⟨n, d.ab + 1, [], []⟩ := by unfold Ds.op; rw [if_neg k0, if_neg k1, if_neg k2]
    rw [e]
    have m0 : (k == 0) = false := by rw [beq_eq_false_iff_ne]; exact k0
    have m1 : (k == 1) = false := by rw [beq_eq_false_iff_ne]; exact k1
    have m2 : (k == 2) = false := by rw [beq_eq_false_iff_ne]; exact k2
    clear e k0 k1 k2
    go_enter Try.func13, Try.ntmps13
    go_upto_region 1 with (first | refine wrg_box rfl _ rfl m rfl ?_ | refine wrg_alloc rfl rfl ?_)
    try simp only [Act.put, List.setIfInBounds_toArray, List.set_cons_zero, List.set_cons_succ]
    try simp only [World.size_alloc]
    generalize ((w.alloc (rgO m)).alloc (.cells #[.int .i64 k, .int .i64 o, .int .i64 n] 36)).alloc (rgO rgZ) = W1 at *
    obtain ⟨x0, x1, x2, x3, x4⟩ := HZ.out.cells
    have HQ := Lib.hid (HR.out W1 HZ.out.below)
    go_wp2_with (first
      | refine wrg_load rfl _ rfl w.heap.size rfl m HZ.out.b0 ?_
      | (go_at_call 31; refine HQ.out.mono ?_; rintro _ w2 ⟨q, rfl, H2⟩; have HZ2 := Lib.hid (HZ.out.next H2.out.2))
      | refine wrg_store rfl _ _ rfl (w.heap.size + 2) rgZ q rfl rfl HZ2.out.b2 ?_)
    exact do_end rfl rfl HZ2.out H2.out.1
end Go.Proofs.Ytlkcpplpjjbiaaa.reg
