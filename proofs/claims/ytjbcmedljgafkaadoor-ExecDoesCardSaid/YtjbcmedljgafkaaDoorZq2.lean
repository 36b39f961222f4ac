/-
  Texts of one claim in one file: DOps, EPlain, EMem, WRef. Each has its own sentence, with its conditions.
-/
import Derived.Test.YtjbcmedljgafkaaDoorZq1
import Derived.Deep.Slices
import Derived.Test.YtjbcmedljgafkaaDoorProg
import Derived.WalkKit
import Derived.ProofKit
import Derived.IntWalk
import Derived.LoopTactic
import Derived.Lib.Hide
import Derived.Outline
/-
  A list of objects that came in, as it lies in memory. No condition.
-/

namespace Go.Proofs.YtjbcmedljgafkaaDoor.objs
open Go.ChangeShapes Go.WideShapes Go.RowKit
set_option linter.unusedVariables false

theorem cells3i : Tryd.prog.cellsOf 3 = 1 := by kernel_rfl
theorem cellsDecl : Tryd.prog.cellsOf 66 = 3 := by kernel_rfl
theorem add_plain (b off i : Nat) : (⟨b, off, none⟩ : Addr).add i = ⟨b, off + i, none⟩ := Addr.add_lit ..
theorem i64_of {a : Int} (h : (Lit.int .i64 a).wf = true) : I64 a := by
  have hx : -9223372036854775808 ≤ a ∧ a ≤ 9223372036854775807 := by simpa [Lit.wf, IntKind.min, IntKind.max, IntKind.signed, IntKind.bits] using h
  exact hx

section
variable {H : Type} {enc : TypeId × Value → H} {w : World} {base : Nat} {spare : Nat → Bool} {held : Bool}

set_option maxRecDepth 100000 in
/-- One object, out of its three cells. -/
theorem one_decl {n : Nat} {cs : List Value} {y : DataW H × List MemPlace} (h : DataW.trod enc Tryd.prog w base spare held n 66 cs = some y) :
    ∃ o : De, cs = [.int .i64 o.1, .int .i64 o.2.1, .int .i64 o.2.2] ∧ I64 o.1 ∧ I64 o.2.1 ∧ I64 o.2.2 := by
  obtain ⟨xs, m, _, hy, hlen, hxl, hf⟩ := DataW.trod_struct Tryd.underlying66 h
  rw [cellsDecl] at hlen
  match cs, hlen with
  | [v0, v1, v2], _ =>
    match xs, hxl with
    | [y0, y1, y2], _ =>
      have f0 : DataW.trod enc Tryd.prog w base spare held m 3 [v0] = some y0 := by simpa [cells3i] using hf 0 _ rfl
      have f1 : DataW.trod enc Tryd.prog w base spare held m 3 [v1] = some y1 := by simpa [cells3i] using hf 1 _ rfl
      have f2 : DataW.trod enc Tryd.prog w base spare held m 3 [v2] = some y2 := by simpa [cells3i] using hf 2 _ rfl
      obtain ⟨k, e0, _, w0⟩ := DataW.trod_int Tryd.underlying3 f0
      obtain ⟨i, e1, _, w1⟩ := DataW.trod_int Tryd.underlying3 f1
      obtain ⟨j, e2, _, w2⟩ := DataW.trod_int Tryd.underlying3 f2
      refine ⟨(k, i, j), ?_, i64_of w0, i64_of w1, i64_of w2⟩
      simp only [List.cons.injEq, and_true] at e0 e1 e2
      rw [e0, e1, e2]

/-- A list of objects: nil, or its objects in their order, each where it lies; of a long one the first hundred. -/
theorem open_decls {fuel : Nat} {cs : List Value} {x : DataW H × List MemPlace} (hlt : ∀ p ∈ x.2, p.block < w.heap.size) (h : DataW.trod enc Tryd.prog w base spare held fuel 22 cs = some x) :
    ∃ (A : Option Addr) (n cap : Nat) (l : List De), cs = [.slice A n cap] ∧ LIn w A n cap l := by
  rcases Go.Deep.open_slice Tryd.underlying22 h with h0 | ⟨a, len, cap, m, n, D, Pl, hcs, hb, hl, hm, hmm, hx, hi⟩
  · exact ⟨none, 0, 0, [], h0.1, fun _ => ⟨rfl, rfl⟩, Nat.le_refl _, by omega, DAt.nil _ _, fun j hj => absurd hj (Nat.not_lt_zero j), rfl⟩
  · have hm' : cap ≤ 9223372036854775807 := by simpa [maxLen] using hm
    have hlm : len ≤ m := by rw [hmm]; split <;> omega
    have each : ∀ i, ∃ o : De, i < len → w.cell? (a.add (i * 3)) = some (.int .i64 o.1) ∧ w.cell? (a.add (i * 3 + 1)) = some (.int .i64 o.2.1) ∧ w.cell? (a.add (i * 3 + 2)) = some (.int .i64 o.2.2) ∧ I64 o.1 ∧ I64 o.2.1 ∧ I64 o.2.2 := by
      intro i
      by_cases hil : i < len
      · obtain ⟨cs', hc, ht⟩ := hi i (by omega)
        obtain ⟨o, he, hwf⟩ := one_decl ht
        obtain ⟨_, _, hat⟩ := World.cells?_some hc
        rw [cellsDecl] at hat
        subst he
        have a0 := hat 0 (by omega)
        have a1 := hat 1 (by omega)
        have a2 := hat 2 (by omega)
        rw [Go.Deep.add_add] at a0 a1 a2
        exact ⟨o, fun _ => ⟨a0, a1, a2, hwf⟩⟩
      · exact ⟨zero, fun hh => absurd hh hil⟩
    obtain ⟨ops, hall⟩ : ∃ ops : Nat → De, ∀ i, i < len → w.cell? (a.add (i * 3)) = some (.int .i64 (ops i).1) ∧ w.cell? (a.add (i * 3 + 1)) = some (.int .i64 (ops i).2.1) ∧ w.cell? (a.add (i * 3 + 2)) = some (.int .i64 (ops i).2.2) ∧ I64 (ops i).1 ∧ I64 (ops i).2.1 ∧ I64 (ops i).2.2 :=
      ⟨fun i => Classical.choose (each i), fun i hil => Classical.choose_spec (each i) hil⟩
    have hget : ∀ j, j < min len 100 → ((List.range (min len 100)).map ops).getD j zero = ops j := fun j hj => by
      rw [List.getD_eq_getElem?_getD, List.getElem?_map, List.getElem?_range hj]
      rfl
    have hlen : ((List.range (min len 100)).map ops).length = min len 100 := by simp
    refine ⟨some a, len, cap, (List.range (min len 100)).map ops, hcs, fun h => (by cases h), hl, hm', fun j hj => ?_, fun j hj => ?_, hlen⟩
    · rw [hlen] at hj
      have hbl : a.block < w.heap.size := by
        refine hlt (.cell a.block a.off) ?_
        rw [hx]
        exact List.mem_append_left _ (MemPlace.mem_row.2 ⟨0, by rw [cellsDecl]; omega, by simp⟩)
      obtain ⟨b, off, spot⟩ := a
      have hspot : spot = none := by simpa [Addr.add] using World.cell?_spot (hall 0 (by omega)).1
      subst hspot
      obtain ⟨h0, h1, h2, _⟩ := hall j (by omega)
      rw [add_plain] at h0 h1 h2
      rw [hget j hj]
      refine ⟨b, off, rfl, hbl, h0, ?_, ?_⟩
      · rw [Nat.add_assoc]; exact h1
      · rw [Nat.add_assoc]; exact h2
    · rw [hlen] at hj
      rw [hget j hj]
      exact (hall j (by omega)).2.2.2
end
end Go.Proofs.YtjbcmedljgafkaaDoor.objs

/-
  What is wrong with a wait, its bytes, the wait with which bytes begin, its text, and the objects of a kind of needs: plain mathematics of lists and numbers. No condition.
-/

namespace Go.Proofs.YtjbcmedljgafkaaDoor.need
open Go.Proofs.YtjbcmedljgafkaaDoor.octet (St num)
open Go.Proofs.YtjbcmedljgafkaaDoor.objs (De zero)
set_option linter.unusedVariables false

/-- The kind of object that a kind of need asks. -/
def kn (k : Int) : Int := if k = 1 then 1 else if k = 2 ∨ k = 3 then 2 else if k = 4 then 3 else 6
def lo (n : De) : Int := if n.1 = 4 ∨ n.1 = 5 then 1 else 0
def hi (d : List De) (n : De) : Int := if n.1 = 4 then (d.getD n.2.1.toNat zero).2.2 else if n.1 = 5 then (d.getD n.2.1.toNat zero).2.1 else 0
/-- What is wrong with a need (its kind, the object, the number). -/
def oneN (d : List De) (n : De) : Nat :=
  if n.1 < 1 ∨ 5 < n.1 then 6
  else if n.2.1 < 0 ∨ (d.length : Int) ≤ n.2.1 ∨ (d.getD n.2.1.toNat zero).1 ≠ kn n.1 then 1
  else if n.2.2 < lo n ∨ hi d n < n.2.2 then 1 else 0
/-- Two needs that may not stand in one way. -/
def clash (a b : De) : Bool := a.2.1 == b.2.1 || (a.1 == 4 || b.1 == 4)
def ones (d : List De) : List De → Nat
  | [] => 0
  | n :: l => if oneN d n ≠ 0 then oneN d n else ones d l
/-- Is there a clash of the k-th one with one of the first j? -/
def clashTo (l : List De) (k : Nat) : Nat → Bool
  | 0 => false
  | j + 1 => clashTo l k j || clash (l.getD j zero) (l.getD k zero)
def twiceTo (l : List De) : Nat → Bool
  | 0 => false
  | k + 1 => twiceTo l k || clashTo l k k
def chkWay (d l : List De) : Nat :=
  if l.length = 0 then 2 else if 4 < l.length then 4 else if ones d l ≠ 0 then ones d l else if twiceTo l l.length then 2 else 0
def ways (d : List De) : List (List De) → Nat
  | [] => 0
  | l :: w => if chkWay d l ≠ 0 then chkWay d l else ways d w
/-- What is wrong with a wait. -/
def chkW (d : List De) (w : List (List De)) : Nat := if w.length = 0 then 2 else if 4 < w.length then 4 else ways d w

theorem ones_drop {d l : List De} {k : Nat} (h : k < l.length) : ones d (l.drop k) = if oneN d (l.getD k zero) ≠ 0 then oneN d (l.getD k zero) else ones d (l.drop (k + 1)) := by
  rw [List.drop_eq_getElem_cons h]
  have e : l.getD k zero = l[k] := by rw [List.getD_eq_getElem?_getD, List.getElem?_eq_getElem h]; rfl
  rw [e]
  rfl
theorem ways_drop {d : List De} {w : List (List De)} {k : Nat} (h : k < w.length) : ways d (w.drop k) = if chkWay d (w.getD k []) ≠ 0 then chkWay d (w.getD k []) else ways d (w.drop (k + 1)) := by
  rw [List.drop_eq_getElem_cons h]
  have e : w.getD k [] = w[k] := by rw [List.getD_eq_getElem?_getD, List.getElem?_eq_getElem h]; rfl
  rw [e]
  rfl
theorem ones_zero {d l : List De} (h : ones d l = 0) : ∀ n ∈ l, oneN d n = 0 := by
  induction l with
  | nil => intro n hn; cases hn
  | cons m l ih =>
    unfold ones at h
    by_cases hm : oneN d m ≠ 0
    · rw [if_pos hm] at h
      exact absurd h hm
    · rw [if_neg hm] at h
      intro n hn
      rcases List.mem_cons.1 hn with rfl | hn
      · omega
      · exact ih h n hn
theorem ways_zero {d : List De} {w : List (List De)} (h : ways d w = 0) : ∀ l ∈ w, chkWay d l = 0 := by
  induction w with
  | nil => intro n hn; cases hn
  | cons m l ih =>
    unfold ways at h
    by_cases hm : chkWay d m ≠ 0
    · rw [if_pos hm] at h
      exact absurd h hm
    · rw [if_neg hm] at h
      intro n hn
      rcases List.mem_cons.1 hn with rfl | hn
      · omega
      · exact ih h n hn
theorem chkWay_zero {d l : List De} (h : chkWay d l = 0) : 0 < l.length ∧ l.length ≤ 4 ∧ ∀ n ∈ l, oneN d n = 0 := by
  unfold chkWay at h
  split at h
  · cases h
  · split at h
    · cases h
    · split at h
      · omega
      · rename_i h1 h2 h3
        exact ⟨by omega, by omega, ones_zero (by omega)⟩
theorem chkW_zero {d : List De} {w : List (List De)} (h : chkW d w = 0) : 0 < w.length ∧ w.length ≤ 4 ∧ ∀ l ∈ w, 0 < l.length ∧ l.length ≤ 4 ∧ ∀ n ∈ l, oneN d n = 0 := by
  unfold chkW at h
  split at h
  · cases h
  · split at h
    · cases h
    · rename_i h1 h2
      exact ⟨by omega, by omega, fun l hl => chkWay_zero (ways_zero h l hl)⟩
/-- A kind's word. -/
def word (k : Int) : List UInt8 := if k = 1 then [108, 111, 99, 107] else if k = 2 then [114, 101, 97, 100] else if k = 3 then [119, 114, 105, 116, 101] else if k = 4 then [100, 111, 119, 110] else if k = 5 then [116, 97, 107, 101] else [110, 111, 110, 101]
def Small (n : De) : Prop := (-9223372036854775808 ≤ n.1 ∧ n.1 ≤ 9223372036854775807) ∧ (-9223372036854775808 ≤ n.2.1 ∧ n.2.1 ≤ 9223372036854775807) ∧ (-9223372036854775808 ≤ n.2.2 ∧ n.2.2 ≤ 9223372036854775807)
theorem getW_mem {w : List (List De)} {k : Nat} (h : k < w.length) : w.getD k [] ∈ w := by
  rw [List.getD_eq_getElem?_getD, List.getElem?_eq_getElem h]
  exact List.getElem_mem h
end Go.Proofs.YtjbcmedljgafkaaDoor.need

/-
  A wait as it lies in memory, wherever it came from; a row of needs, and a row of ways, that a call owns. No condition.
-/

namespace Go.Proofs.YtjbcmedljgafkaaDoor.need
open Go.RowKit Go.ChangeShapes
open Go.Proofs.YtjbcmedljgafkaaDoor.objs (De zero CellsAt DAt flat flat_append flat_length flat_at flat_oneCell src_cells I64 Ints)
set_option linter.unusedVariables false

/-- A slice's value of objects, nil or a row of the call's own. -/
def OwnN (w : World) (base : Nat) (v : Value) (l : List De) : Prop := w.ownsRow base 124 3 v l.length (flat l)
theorem OwnN.nil (w : World) (base : Nat) : OwnN w base (.slice none 0 0) [] := World.ownsRow_nil ..
theorem OwnN.empty {w : World} {g : Nat} (h : w.heap[g]? = some (.cells #[] 124 (0, 0))) : OwnN w g (.slice (some ⟨g, 0, none⟩) 0 0) [] :=
  ⟨rfl, .inr ⟨g, 0, #[], rfl, Nat.le_refl _, h, Nat.le_refl _, Nat.zero_le _, rfl, rfl⟩⟩
theorem OwnN.slice {w : World} {base : Nat} {v : Value} {l : List De} (h : OwnN w base v l) : ∃ A cap, v = .slice A l.length cap := by
  rcases h.2 with ⟨rfl, h0⟩ | ⟨g, cap, cur, rfl, _⟩
  · exact ⟨none, 0, by rw [h0]⟩
  · exact ⟨_, _, rfl⟩
theorem OwnN.at {w : World} {base cap : Nat} {A : Option Addr} {l : List De} {n : Nat} (h : OwnN w base (.slice A n cap) l) : DAt w A l := by
  intro j hj
  rcases h.2 with ⟨e, h0⟩ | ⟨g, cap', cur, e, hb, hh, _⟩
  · omega
  · injection e with e1 e2 e3
    subst e1
    obtain ⟨h1, h2, h3⟩ := flat_at l j hj
    refine ⟨g, 0, rfl, lt_of_block hh, ?_, ?_, ?_⟩
    · have := World.ownsRow.cells h (g := g) rfl _ _ h1
      rw [Addr.add_lit] at this
      simpa using this
    · have := World.ownsRow.cells h (g := g) rfl _ _ h2
      rw [Addr.add_lit] at this
      simpa using this
    · have := World.ownsRow.cells h (g := g) rfl _ _ h3
      rw [Addr.add_lit] at this
      simpa using this
theorem OwnN.keep {w w' : World} {base : Nat} {v : Value} {l : List De} (h : OwnN w base v l) (hk : ∀ g, v.ownBlock = some g → w'.heap[g]? = w.heap[g]?) : OwnN w' base v l := by
  refine ⟨h.1, h.2.imp id ?_⟩
  rintro ⟨g, c, cur, rfl, hb, hh, r⟩
  exact ⟨g, c, cur, rfl, hb, (hk g rfl).trans hh, r⟩
theorem OwnN.lt {w : World} {base g : Nat} {v : Value} {l : List De} (h : OwnN w base v l) (hg : v.ownBlock = some g) : base ≤ g ∧ g < w.heap.size := World.ownsRow.lt h g hg
theorem OwnN.next {w w' : World} {base : Nat} {v : Value} {l : List De} (h : OwnN w base v l) (hb : Below w.heap.size w w') : OwnN w' base v l := h.keep fun g hg => hb.block g (h.lt hg).2
theorem OwnN.base {w : World} {base base' : Nat} {v : Value} {l : List De} (h : OwnN w base v l) (hb : base' ≤ base) : OwnN w base' v l := by
  refine ⟨h.1, h.2.imp id ?_⟩
  rintro ⟨g, c, cur, e, hb1, r⟩
  exact ⟨g, c, cur, e, Nat.le_trans hb hb1, r⟩

theorem infoN : (Tryd.prog.info? 124).map (fun i => (i.zero, i.size, i.bytes)) = some (some (.agg #[.int .i64 0, .int .i64 0, .int .i64 0]), 3, 24) := by kernel_rfl

/-- A list that lies anywhere, put behind a row of a call's own. -/
theorem run_appN (w : World) (ty : TypeId) (base m c : Nat) (v : Value) (A : Option Addr) (l r : List De) (hrow : OwnN w base v l) (hm : m = r.length) (hA : A = none → r = [] ∧ c = 0) (hsrc : DAt w A r) (hlen : l.length + r.length ≤ 100000) (hbase : base ≤ w.heap.size) :
    ∃ v' w', (Builtin.append_ #[95, 95] ty #[v, .slice A m c]).run Tryd.prog w = .ok v' w' ∧ OwnN w' base v' (l ++ r) ∧ w.grownBy w' v.ownBlock := by
  subst hm
  obtain ⟨i, hi, hz0, hz1, hz2⟩ := info_parts infoN
  cases A with
  | none =>
    obtain ⟨rfl, rfl⟩ := hA rfl
    refine ⟨v, w, run_append_owned_none (P := Tryd.prog) (w := w) base 95 ty 124 i 3 Tryd.underlying95 hi v l.length (flat l) hrow, ?_, ⟨rfl, rfl, rfl, Nat.le_refl _, fun _ _ _ => rfl⟩⟩
    rw [List.append_nil]
    exact hrow
  | some ad =>
    obtain ⟨v', w', h1, h2, h3, _⟩ := run_append_own (P := Tryd.prog) w base 95 ty 124 i _ 3 24 Tryd.underlying95 hi hz0 hz1 hz2 rfl (by omega) v l.length (flat l) hrow ad r.length c (flat r) (flat_length r) (src_cells hsrc) (flat_oneCell r) (by unfold maxLen; omega) (by omega) hbase
    refine ⟨v', w', h1, ?_, h3⟩
    unfold OwnN
    rw [List.length_append, flat_append]
    exact h2
theorem wp_appN {o : Oper} {a : Act} {w : World} {K : Act → World → Prop} {Q : Exit → Act → World → Prop} (s x : Operand)
    (ho : o.op = .call { callee := .builtin .append, args := #[s, x], argTypes := #[95, 95] }) (base m c : Nat) (v : Value) (A : Option Addr) (l r : List De)
    (hs : a.eval s = v) (hrow : OwnN w base v l) (hx : a.eval x = .slice A m c) (hm : m = r.length) (hA : A = none → r = [] ∧ c = 0) (hsrc : DAt w A r) (hlen : l.length + r.length ≤ 100000) (hbase : base ≤ w.heap.size)
    (h : ∀ v' w', OwnN w' base v' (l ++ r) → w.grownBy w' v.ownBlock → K (a.put o.dst v') w') : o.wp Tryd.prog a w K Q := by
  obtain ⟨v', w', hr, h2, h3⟩ := run_appN w o.type base m c v A l r hrow hm hA hsrc hlen hbase
  unfold Oper.wp execOp
  simp only [ho, resolve, invoke, builtin, Sem.run_bind, Sem.run_pure, Result.andThen_ok, List.map_toArray, List.map_cons, List.map_nil, hs, hx, hr]
  exact h v' w' h2 h3
theorem wpList_appN {ops : Array Oper} {rest : List Oper} {o : Oper} {a : Act} {w : World} {Q : Exit → Act → World → Prop} (hgd : o.guard = none) (s x : Operand)
    (ho : o.op = .call { callee := .builtin .append, args := #[s, x], argTypes := #[95, 95] }) (base m c : Nat) (v : Value) (A : Option Addr) (l r : List De)
    (hs : a.eval s = v) (hrow : OwnN w base v l) (hx : a.eval x = .slice A m c) (hm : m = r.length) (hA : A = none → r = [] ∧ c = 0) (hsrc : DAt w A r) (hlen : l.length + r.length ≤ 100000) (hbase : base ≤ w.heap.size)
    (h : ∀ v' w', OwnN w' base v' (l ++ r) → w.grownBy w' v.ownBlock → wpList Tryd.prog ops Q rest (a.put o.dst v') w') : wpList Tryd.prog ops Q (o :: rest) a w :=
  wpList_plain hgd fun _ hK => wp_appN s x ho base m c v A l r hs hrow hx hm hA hsrc hlen hbase fun v' w' h2 h3 => hK _ _ (h v' w' h2 h3)
theorem DAt.oneN {w : World} {g : Nat} {d : De} (h : w.heap[g]? = some (.cells #[.int .i64 d.1, .int .i64 d.2.1, .int .i64 d.2.2] 124 (0, 0))) : DAt w (some ⟨g, 0, none⟩) [d] := fun j hj => by
  obtain rfl : j = 0 := by simpa using hj
  refine ⟨g, 0, rfl, lt_of_block h, ?_, ?_, ?_⟩
  all_goals
    unfold World.cell?
    rw [h]
    rfl
/-- What a row of needs holds: its block is one of needs. -/
theorem OwnN.kind {w : World} {base g : Nat} {v : Value} {l : List De} (h : OwnN w base v l) (hg : v.ownBlock = some g) : ∃ cur, w.heap[g]? = some (.cells cur 124 (0, 0)) := by
  rcases h.2 with ⟨rfl, _⟩ | ⟨g', cap, cur, rfl, _, hh, _⟩
  · cases hg
  · simp [Value.ownBlock] at hg
    subst hg
    exact ⟨cur, hh⟩

/-- A list of ways, each a list of needs, from where a slice begins: all of it. -/
def WAt (w : World) (A : Option Addr) (l : List (List De)) : Prop :=
  ∀ j, j < l.length → ∃ b off Aj cj, A = some ⟨b, off, none⟩ ∧ b < w.heap.size ∧ w.cell? ⟨b, off + j, none⟩ = some (.slice Aj (l.getD j []).length cj) ∧ DAt w Aj (l.getD j [])
theorem WAt.next {w w' : World} {A : Option Addr} {l : List (List De)} (h : WAt w A l) (hb : Below w.heap.size w w') : WAt w' A l := fun j hj => by
  obtain ⟨b, off, Aj, cj, h1, h2, h3, h4⟩ := h j hj
  exact ⟨b, off, Aj, cj, h1, Nat.lt_of_lt_of_le h2 hb.size, (hb.cell (p := ⟨b, off + j, none⟩) h2).trans h3, h4.next hb⟩
theorem WAt.drew {w : World} {A : Option Addr} {l : List (List De)} (h : WAt w A l) : WAt w.drew A l := h
theorem WAt.drewN {w : World} {A : Option Addr} {l : List (List De)} (h : WAt w A l) : ∀ n, WAt (w.drewN n) A l
  | 0 => h
  | n + 1 => (WAt.drewN h n).drew
theorem WAt.nil (w : World) (A : Option Addr) : WAt w A [] := fun j hj => absurd hj (Nat.not_lt_zero j)
/-- The first six ways of a list, of each the first six needs, and how many there are. -/
def WG (w : World) (A : Option Addr) (n : Nat) (l : List (List De)) : Prop :=
  l.length = min n 6 ∧ ∀ j, j < l.length → ∃ b off Aj nj cj, A = some ⟨b, off, none⟩ ∧ b < w.heap.size ∧ w.cell? ⟨b, off + j, none⟩ = some (.slice Aj nj cj) ∧ DAt w Aj (l.getD j []) ∧ (l.getD j []).length = min nj 6 ∧ nj ≤ cj ∧ cj ≤ 9223372036854775807 ∧ (Aj = none → nj = 0 ∧ cj = 0)
theorem WG.next {w w' : World} {A : Option Addr} {n : Nat} {l : List (List De)} (h : WG w A n l) (hb : Below w.heap.size w w') : WG w' A n l := ⟨h.1, fun j hj => by
  obtain ⟨b, off, Aj, nj, cj, h1, h2, h3, h4, h5⟩ := h.2 j hj
  exact ⟨b, off, Aj, nj, cj, h1, Nat.lt_of_lt_of_le h2 hb.size, (hb.cell (p := ⟨b, off + j, none⟩) h2).trans h3, h4.next hb, h5⟩⟩
/-- One that is no longer is there whole. -/
theorem WG.whole {w : World} {A : Option Addr} {n : Nat} {l : List (List De)} (h : WG w A n l) (hl : l.length ≤ 5) (hw : ∀ x ∈ l, x.length ≤ 5) : n = l.length ∧ WAt w A l := by
  refine ⟨by have := h.1; omega, fun j hj => ?_⟩
  obtain ⟨b, off, Aj, nj, cj, h1, h2, h3, h4, h5, _⟩ := h.2 j hj
  have hm := hw _ (getW_mem hj)
  have : nj = (l.getD j []).length := by omega
  subst this
  exact ⟨b, off, Aj, cj, h1, h2, h3, h4⟩

/-- A row of ways that a call owns, each of them a row of needs of the call's own. -/
def OwnW (W : World) (base : Nat) (v : Value) (l : List (List De)) : Prop :=
  ∃ xs : List Value, W.ownsRow base 95 1 v l.length xs ∧ ∀ j, j < l.length → ∃ x, xs[j]? = some x ∧ OwnN W base x (l.getD j [])
theorem OwnW.slice {w : World} {base : Nat} {v : Value} {l : List (List De)} (h : OwnW w base v l) : ∃ A cap, v = .slice A l.length cap := by
  obtain ⟨xs, h1, _⟩ := h
  rcases h1.2 with ⟨rfl, h0⟩ | ⟨g, cap, cur, rfl, _⟩
  · exact ⟨none, 0, by rw [h0]⟩
  · exact ⟨_, _, rfl⟩
theorem OwnW.next {w w' : World} {base : Nat} {v : Value} {l : List (List De)} (h : OwnW w base v l) (hb : Below w.heap.size w w') : OwnW w' base v l := by
  obtain ⟨xs, h1, h2⟩ := h
  refine ⟨xs, ?_, fun j hj => ?_⟩
  · refine ⟨h1.1, h1.2.imp id ?_⟩
    rintro ⟨g, c, cur, rfl, hg, hh, r⟩
    exact ⟨g, c, cur, rfl, hg, (hb.block g (lt_of_block hh)).trans hh, r⟩
  · obtain ⟨x, h3, h4⟩ := h2 j hj
    exact ⟨x, h3, h4.next hb⟩
theorem OwnW.nil (w : World) (base : Nat) : OwnW w base (.slice none 0 0) [] := ⟨[], World.ownsRow_nil .., fun j hj => absurd hj (Nat.not_lt_zero j)⟩
theorem OwnW.empty {w : World} {g : Nat} (h : w.heap[g]? = some (.cells #[] 95 (0, 0))) : OwnW w g (.slice (some ⟨g, 0, none⟩) 0 0) [] :=
  ⟨[], ⟨rfl, .inr ⟨g, 0, #[], rfl, Nat.le_refl _, h, Nat.le_refl _, Nat.zero_le _, rfl, rfl⟩⟩, fun j hj => absurd hj (Nat.not_lt_zero j)⟩
theorem OwnW.base {w : World} {base base' : Nat} {v : Value} {l : List (List De)} (h : OwnW w base v l) (hb : base' ≤ base) : OwnW w base' v l := by
  obtain ⟨xs, h1, h2⟩ := h
  refine ⟨xs, ⟨h1.1, h1.2.imp id ?_⟩, fun j hj => ?_⟩
  · rintro ⟨g, c, cur, e, hg, r⟩
    exact ⟨g, c, cur, e, Nat.le_trans hb hg, r⟩
  · obtain ⟨x, h3, h4⟩ := h2 j hj
    exact ⟨x, h3, h4.base hb⟩
theorem OwnW.at {w : World} {base cap : Nat} {A : Option Addr} {l : List (List De)} {n : Nat} (h : OwnW w base (.slice A n cap) l) : WAt w A l := by
  intro j hj
  obtain ⟨xs, h1, h2⟩ := h
  obtain ⟨x, h3, h4⟩ := h2 j hj
  rcases h1.2 with ⟨e, h0⟩ | ⟨g, cap', cur, e, hb, hh, _⟩
  · omega
  · injection e with e1 e2 e3
    subst e1
    obtain ⟨Aj, cj, rfl⟩ := h4.slice
    refine ⟨g, 0, Aj, cj, rfl, lt_of_block hh, ?_, h4.at⟩
    have := World.ownsRow.cells h1 (g := g) rfl _ _ h3
    rw [Addr.add_lit] at this
    simpa using this
theorem infoW : (Tryd.prog.info? 95).map (fun i => (i.zero, i.size, i.bytes)) = some (some (.slice none 0 0), 1, 24) := by kernel_rfl

/-- One way, in a block of its own, put behind a row of ways. -/
theorem run_appW (w w1 : World) (ty : TypeId) (base c : Nat) (v x : Value) (l : List (List De)) (r : List De) (hrow : OwnW w base v l) (hx : OwnN w base x r) (hw1 : w1 = w.alloc (.cells #[x] 95)) (hlen : l.length ≤ 100000) (hbase : base ≤ w.heap.size) :
    ∃ v' w', (Builtin.append_ #[67, 67] ty #[v, .slice (some ⟨w.heap.size, 0, none⟩) 1 c]).run Tryd.prog w1 = .ok v' w' ∧ OwnW w' base v' (l ++ [r]) ∧ w1.grownBy w' v.ownBlock := by
  subst hw1
  obtain ⟨i, hi, hz0, hz1, hz2⟩ := info_parts infoW
  obtain ⟨xs, h1, h2⟩ := hrow
  have hb0 : Below w.heap.size w (w.alloc (.cells #[x] 95)) := (Below.refl _ w).alloc (Nat.le_refl _) _
  have hc : (w.alloc (.cells #[x] 95)).cell? ⟨w.heap.size, 0, none⟩ = some x := by
    unfold World.cell?
    rw [heap_alloc_new w _]
    rfl
  have hrow1 : (w.alloc (.cells #[x] 95)).ownsRow base 95 1 v l.length xs := by
    refine ⟨h1.1, h1.2.imp id ?_⟩
    rintro ⟨g, c, cur, rfl, hg, hh, r⟩
    exact ⟨g, c, cur, rfl, hg, (hb0.block g (lt_of_block hh)).trans hh, r⟩
  obtain ⟨Ax, cx, hxs⟩ := hx.slice
  obtain ⟨v', w', r1, r2, r3, _⟩ := run_append_own (P := Tryd.prog) (w.alloc (.cells #[x] 95)) base 67 ty 95 i _ 1 24 Tryd.underlying67 hi hz0 hz1 hz2 rfl (by omega) v l.length xs hrow1 ⟨w.heap.size, 0, none⟩ 1 c [x] rfl (by
      intro j u hu
      rcases j with _ | j
      · simp only [List.getElem?_cons_zero, Option.some.injEq] at hu
        subst hu
        rw [Addr.add_lit]
        exact hc
      · simp at hu) (by
      intro u hu
      simp only [List.mem_singleton] at hu
      subst hu
      rw [hxs]
      rfl) (by unfold maxLen; omega) (by omega) (by simp; omega)
  refine ⟨v', w', r1, ⟨xs ++ [x], ?_, fun j hj => ?_⟩, r3⟩
  · rw [List.length_append]
    exact r2
  · have hlx : xs.length = l.length := by have := h1.1; omega
    have keep : ∀ (y : Value) (r' : List De), OwnN w base y r' → OwnN w' base y r' := fun y r' hy => hy.keep fun g hg => by
      have hlt := (hy.lt hg).2
      obtain ⟨cur, hk⟩ := hy.kind hg
      rw [r3.block g (by have := hb0.size; omega) (fun e => ?_), hb0.block g hlt]
      rcases h1.2 with ⟨rfl, _⟩ | ⟨g', cap', cur', rfl, _, hh, _⟩
      · cases e
      · simp [Value.ownBlock] at e
        subst e
        rw [hk] at hh
        injection hh with hh
        injection hh with _ hh _
        exact absurd hh (by decide)
    rcases Nat.lt_or_ge j l.length with hj2 | hj2
    · obtain ⟨y, h3, h4⟩ := h2 j hj2
      refine ⟨y, by rw [List.getElem?_append_left (by omega)]; exact h3, ?_⟩
      rw [show (l ++ [r]).getD j [] = l.getD j [] from by rw [List.getD_eq_getElem?_getD, List.getD_eq_getElem?_getD, List.getElem?_append_left hj2]]
      exact keep _ _ h4
    · rw [List.length_append] at hj
      obtain rfl : j = l.length := by simp at hj; omega
      refine ⟨x, by rw [List.getElem?_append_right (by omega), hlx, Nat.sub_self]; rfl, ?_⟩
      rw [show (l ++ [r]).getD l.length [] = r from by rw [List.getD_eq_getElem?_getD, List.getElem?_append_right (Nat.le_refl _), Nat.sub_self]; rfl]
      exact keep _ _ hx
theorem wp_appW {o : Oper} {a : Act} {w w1 : World} {K : Act → World → Prop} {Q : Exit → Act → World → Prop} (s y : Operand)
    (ho : o.op = .call { callee := .builtin .append, args := #[s, y], argTypes := #[67, 67] }) (base c : Nat) (v x : Value) (l : List (List De)) (r : List De)
    (hs : a.eval s = v) (hrow : OwnW w base v l) (hy : a.eval y = .slice (some ⟨w.heap.size, 0, none⟩) 1 c) (hx : OwnN w base x r) (hw1 : w1 = w.alloc (.cells #[x] 95)) (hlen : l.length ≤ 100000) (hbase : base ≤ w.heap.size)
    (h : ∀ v' w', OwnW w' base v' (l ++ [r]) → w1.grownBy w' v.ownBlock → K (a.put o.dst v') w') : o.wp Tryd.prog a w1 K Q := by
  obtain ⟨v', w', hr, h2, h3⟩ := run_appW w w1 o.type base c v x l r hrow hx hw1 hlen hbase
  unfold Oper.wp execOp
  simp only [ho, resolve, invoke, builtin, Sem.run_bind, Sem.run_pure, Result.andThen_ok, List.map_toArray, List.map_cons, List.map_nil, hs, hy, hr]
  exact h v' w' h2 h3
theorem wpList_appW {ops : Array Oper} {rest : List Oper} {o : Oper} {a : Act} {w w1 : World} {Q : Exit → Act → World → Prop} (hgd : o.guard = none) (s y : Operand)
    (ho : o.op = .call { callee := .builtin .append, args := #[s, y], argTypes := #[67, 67] }) (base c : Nat) (v x : Value) (l : List (List De)) (r : List De)
    (hs : a.eval s = v) (hrow : OwnW w base v l) (hy : a.eval y = .slice (some ⟨w.heap.size, 0, none⟩) 1 c) (hx : OwnN w base x r) (hw1 : w1 = w.alloc (.cells #[x] 95)) (hlen : l.length ≤ 100000) (hbase : base ≤ w.heap.size)
    (h : ∀ v' w', OwnW w' base v' (l ++ [r]) → w1.grownBy w' v.ownBlock → wpList Tryd.prog ops Q rest (a.put o.dst v') w') : wpList Tryd.prog ops Q (o :: rest) a w1 :=
  wpList_plain hgd fun _ hK => wp_appW s y ho base c v x l r hs hrow hy hx hw1 hlen hbase fun v' w' h2 h3 => hK _ _ (h v' w' h2 h3)
end Go.Proofs.YtjbcmedljgafkaaDoor.need

/-
  The document's own answers of words, each by itself: the word of the lowest bits, which numbers are words, a bit, two words bit by bit, a word that is moved, and what an operation comes to. No condition.
-/

namespace Go.Proofs.YtjbcmedljgafkaaDoor.word
open Go.RowKit Go.ChangeShapes

theorem ret_int {k : IntKind} {a b : Int} (h : a = b) : Ending.returned (.int k a) = .returned (.int k b) := by rw [h]
theorem ret_bool {a b : Bool} (h : a = b) : Ending.returned (.bool a) = .returned (.bool b) := by rw [h]

set_option maxHeartbeats 400000 in
theorem refLow_any (n : Int) (w : World) :
    Calls Tryd.prog 48 #[.int .i64 n] w fun e w' => e = .returned (.int .i64 (low n)) ∧ w = w' := by
  have HL := Lib.hid (low_tmod n)
  have hr := tmod_range n
  by_cases h1 : 2147483648 ≤ n.tmod 4294967296
  · have HE : Hid (low n = n.tmod 4294967296 - 4294967296) := Lib.hid (by rw [HL.out, if_pos h1])
    go_enter Tryd.func48, Tryd.ntmps48
    go_wp2
    go_ret
    exact ⟨ret_int HE.out.symm, rfl⟩
  · by_cases h2 : n.tmod 4294967296 < -2147483648
    · have HE : Hid (low n = n.tmod 4294967296 + 4294967296) := Lib.hid (by rw [HL.out, if_neg h1, if_pos h2])
      go_enter Tryd.func48, Tryd.ntmps48
      go_wp2
      go_ret
      exact ⟨ret_int HE.out.symm, rfl⟩
    · have HE : Hid (low n = n.tmod 4294967296) := Lib.hid (by rw [HL.out, if_neg h1, if_neg h2])
      go_enter Tryd.func48, Tryd.ntmps48
      go_wp2
      go_ret
      exact ⟨ret_int HE.out.symm, rfl⟩

set_option maxHeartbeats 400000 in
theorem refFits_any (n : Int) (w : World) :
    Calls Tryd.prog 69 #[.int .i64 n] w fun e w' => e = .returned (.bool (decide (Word n))) ∧ w = w' := by
  by_cases h1 : -2147483648 ≤ n
  · by_cases h2 : n < 2147483648
    · have HE : Hid (decide (Word n) = true) := Lib.hid (by rw [decide_eq_true_iff]; unfold Word; omega)
      go_enter Tryd.func69, Tryd.ntmps69
      go_wp2
      go_ret
      exact ⟨ret_bool HE.out.symm, rfl⟩
    · have HE : Hid (decide (Word n) = false) := Lib.hid (by rw [decide_eq_false_iff_not]; unfold Word; omega)
      have hd : decide (n < 2147483648) = false := by simpa using h2
      go_enter Tryd.func69, Tryd.ntmps69
      go_wp2
      go_ret
      exact ⟨ret_bool HE.out.symm, rfl⟩
  · have HE : Hid (decide (Word n) = false) := Lib.hid (by rw [decide_eq_false_iff_not]; unfold Word; omega)
    have hd : decide (-2147483648 ≤ n) = false := by simpa using h1
    go_enter Tryd.func69, Tryd.ntmps69
    go_wp2
    go_ret
    exact ⟨ret_bool HE.out.symm, rfl⟩

/-- Two numbers, as a call tells them. -/
def two (p : Int × Int) : Value := .tuple #[.int .i64 p.1, .int .i64 p.2]

set_option maxHeartbeats 400000 in
theorem refExact_any (n : Int) (w : World) :
    Calls Tryd.prog 49 #[.int .i64 n] w fun e w' => e = .returned (two (ex n)) ∧ w = w' := by
  have HF := Lib.hid (refFits_any n w)
  by_cases h : Word n
  · rw [show decide (Word n) = true from by rw [decide_eq_true_iff]; exact h] at HF
    have HE : Hid (ex n = (n, 0)) := Lib.hid (by unfold ex; rw [if_pos h])
    rw [HE.out]
    clear h
    go_enter Tryd.func49, Tryd.ntmps49
    go_wp2_with fail
    refine HF.out.mono ?_
    rintro e w1 ⟨rfl, rfl⟩
    go_wp2
    go_ret2
    exact ⟨rfl, rfl⟩
  · rw [show decide (Word n) = false from by rw [decide_eq_false_iff_not]; exact h] at HF
    have HE : Hid (ex n = (0, 1)) := Lib.hid (by unfold ex; rw [if_neg h])
    rw [HE.out]
    clear h
    go_enter Tryd.func49, Tryd.ntmps49
    go_wp2_with fail
    refine HF.out.mono ?_
    rintro e w1 ⟨rfl, rfl⟩
    go_wp2
    go_ret2
    exact ⟨rfl, rfl⟩

set_option maxHeartbeats 1000000 in
theorem refBit_any (n : Int) (hn : Word n) (k : Nat) (hk : k < 32) (w : World) :
    Calls Tryd.prog 70 #[.int .i64 n, .int .i64 (k : Int)] w fun e w' => e = .returned (.int .i64 ((bitAt (un n) k : Nat) : Int)) ∧ w = w' := by
  have HU := Lib.hid (un_word hn)
  have hul := un_lt n
  have HB : Hid (bitAt (un n) k = un n / 2 ^ k % 2) := Lib.hid rfl
  generalize un n = u at *
  by_cases h0 : n < 0
  · have HUE : Hid (n + 4294967296 = (u : Int)) := Lib.hid (by rw [HU.out, if_pos h0])
    unfold Word at hn
    go_enter Tryd.func70, Tryd.ntmps70
    go_wp2
    rw [HUE.out]
    clear HU h0 hn
    go_loop [0, 5] (fun t i => ∃ j x : Nat, i = .int .i64 (j : Int) ∧ t = .int .i64 (x : Int) ∧ j ≤ k ∧ x < 4294967296 ∧ Hid (x = u / 2 ^ j)) (fun _ i => k - (intOf i).toNat)
    case atStart => exact ⟨0, u, rfl, rfl, by omega, hul, Lib.hid (by simp)⟩
    case round =>
      obtain ⟨j, x, rfl, rfl, hj, hx, HE⟩ := hrel
      by_cases hlt : j < k
      · go_wp2
        go_round
        case rel => exact ⟨j + 1, x / 2, by go_num, rfl, by omega, by omega, Lib.hid (by rw [HE.out, bitAt_succ])⟩
        case measure => simp [intOf]; omega
      · obtain rfl : j = k := by omega
        go_wp2
        go_ret
        exact ⟨ret_int (by rw [HB.out, ← HE.out]; rfl), rfl⟩
  · have HUE : Hid (n = (u : Int)) := Lib.hid (by rw [HU.out, if_neg h0])
    unfold Word at hn
    go_enter Tryd.func70, Tryd.ntmps70
    go_wp2
    obtain rfl := HUE.out
    clear HU h0 hn HUE
    go_loop [0, 5] (fun t i => ∃ j x : Nat, i = .int .i64 (j : Int) ∧ t = .int .i64 (x : Int) ∧ j ≤ k ∧ x < 4294967296 ∧ Hid (x = u / 2 ^ j)) (fun _ i => k - (intOf i).toNat)
    case atStart => exact ⟨0, u, rfl, rfl, by omega, hul, Lib.hid (by simp)⟩
    case round =>
      obtain ⟨j, x, rfl, rfl, hj, hx, HE⟩ := hrel
      by_cases hlt : j < k
      · go_wp2
        go_round
        case rel => exact ⟨j + 1, x / 2, by go_num, rfl, by omega, by omega, Lib.hid (by rw [HE.out, bitAt_succ])⟩
        case measure => simp [intOf]; omega
      · obtain rfl : j = k := by omega
        go_wp2
        go_ret
        exact ⟨ret_int (by rw [HB.out, ← HE.out]; rfl), rfl⟩

set_option maxHeartbeats 4000000 in
theorem refBits_any (op : Int) (hop : op = 11 ∨ op = 12 ∨ op = 13) (a b : Int) (ha : Word a) (hb : Word b) (w : World) :
    Calls Tryd.prog 50 #[.int .i64 op, .int .i64 a, .int .i64 b] w fun e w' => e = .returned (.int .i64 (low (bitop op (un a) (un b) : Nat))) ∧ w = w' := by
  have hN := bitop_lt op (un_lt a) (un_lt b)
  have HAT := Lib.hid (bitop_at hop (un a) (un b))
  generalize bitop op (un a) (un b) = N at *
  have HA := Lib.hid (fun k hk (u : World) => refBit_any a ha k hk u)
  have HB := Lib.hid (fun k hk (u : World) => refBit_any b hb k hk u)
  clear ha hb
  go_enter Tryd.func50, Tryd.ntmps50
  go_wp2
  go_loop [7, 8, 9] (fun nv bv iv => ∃ (k p q : Nat), iv = .int .i64 (k : Int) ∧ nv = .int .i64 (p : Int) ∧ bv = .int .i64 (q : Int) ∧ k ≤ 32 ∧ Hid (q = 2 ^ k) ∧ Hid (p = N % 2 ^ k)) (fun _ _ iv => 32 - (intOf iv).toNat)
  case atStart => exact ⟨0, 0, 1, rfl, rfl, rfl, by omega, Lib.hid rfl, Lib.hid (by rw [Nat.pow_zero, Nat.mod_one])⟩
  case round =>
    obtain ⟨k, p, q, rfl, rfl, rfl, hk, HQ, HP⟩ := hrel
    by_cases hlt : k < 32
    · have hq : q ≤ 2147483648 := by
        have h1 := HQ.out
        have h2 : 2 ^ k ≤ 2 ^ 31 := Nat.pow_le_pow_right (by omega) (by omega)
        have h3 : (2 : Nat) ^ 31 = 2147483648 := rfl
        omega
      have hp : p ≤ 4294967295 := by
        have h1 := HP.out
        have h2 := Nat.mod_le N (2 ^ k)
        omega
      obtain ⟨x, hx⟩ : ∃ x, x = bitAt (un a) k := ⟨_, rfl⟩
      obtain ⟨y, hy⟩ : ∃ y, y = bitAt (un b) k := ⟨_, rfl⟩
      have hx2 : x < 2 := by rw [hx]; exact bitAt_lt _ _
      have hy2 : y < 2 := by rw [hy]; exact bitAt_lt _ _
      have HBA := Lib.hid (HA.out k hlt)
      have HBB := Lib.hid (HB.out k hlt)
      have HMS : Hid (N % 2 ^ (k + 1) = p + q * (if joins op x y then 1 else 0)) := Lib.hid (by rw [mod_succ, HAT.out k, ← hx, ← hy, ← HP.out, ← HQ.out])
      rw [← hx] at HBA
      rw [← hy] at HBB
      have HQ1 : Hid (q * 2 = 2 ^ (k + 1)) := Lib.hid (by rw [HQ.out, Nat.pow_succ])
      clear hx hy
      rcases hop with rfl | rfl | rfl <;> rcases (show x = 0 ∨ x = 1 by omega) with rfl | rfl <;> rcases (show y = 0 ∨ y = 1 by omega) with rfl | rfl
      · have HE : Hid (N % 2 ^ (k + 1) = p) := Lib.hid (by rw [HMS.out, if_neg (by decide), Nat.mul_zero, Nat.add_zero])
        clear HMS HAT
        go_wp2_with fail
        refine (HBA.out _).mono ?_
        rintro e w1 ⟨rfl, rfl⟩
        go_wp2_with fail
        refine (HBB.out _).mono ?_
        rintro e w1 ⟨rfl, rfl⟩
        go_wp2
        go_round
        case rel => exact ⟨k + 1, p, q * 2, by go_num, by first | rfl | go_num, by go_num, by omega, HQ1, Lib.hid HE.out.symm⟩
        case measure => simp [intOf]; omega
      · have HE : Hid (N % 2 ^ (k + 1) = p) := Lib.hid (by rw [HMS.out, if_neg (by decide), Nat.mul_zero, Nat.add_zero])
        clear HMS HAT
        go_wp2_with fail
        refine (HBA.out _).mono ?_
        rintro e w1 ⟨rfl, rfl⟩
        go_wp2_with fail
        refine (HBB.out _).mono ?_
        rintro e w1 ⟨rfl, rfl⟩
        go_wp2
        go_round
        case rel => exact ⟨k + 1, p, q * 2, by go_num, by first | rfl | go_num, by go_num, by omega, HQ1, Lib.hid HE.out.symm⟩
        case measure => simp [intOf]; omega
      · have HE : Hid (N % 2 ^ (k + 1) = p) := Lib.hid (by rw [HMS.out, if_neg (by decide), Nat.mul_zero, Nat.add_zero])
        clear HMS HAT
        go_wp2_with fail
        refine (HBA.out _).mono ?_
        rintro e w1 ⟨rfl, rfl⟩
        go_wp2_with fail
        refine (HBB.out _).mono ?_
        rintro e w1 ⟨rfl, rfl⟩
        go_wp2
        go_round
        case rel => exact ⟨k + 1, p, q * 2, by go_num, by first | rfl | go_num, by go_num, by omega, HQ1, Lib.hid HE.out.symm⟩
        case measure => simp [intOf]; omega
      · have HE : Hid (N % 2 ^ (k + 1) = p + q) := Lib.hid (by rw [HMS.out, if_pos (by decide), Nat.mul_one])
        clear HMS HAT
        go_wp2_with fail
        refine (HBA.out _).mono ?_
        rintro e w1 ⟨rfl, rfl⟩
        go_wp2_with fail
        refine (HBB.out _).mono ?_
        rintro e w1 ⟨rfl, rfl⟩
        go_wp2
        go_round
        case rel => exact ⟨k + 1, p + q, q * 2, by go_num, by first | rfl | go_num, by go_num, by omega, HQ1, Lib.hid HE.out.symm⟩
        case measure => simp [intOf]; omega
      · have HE : Hid (N % 2 ^ (k + 1) = p) := Lib.hid (by rw [HMS.out, if_neg (by decide), Nat.mul_zero, Nat.add_zero])
        clear HMS HAT
        go_wp2_with fail
        refine (HBA.out _).mono ?_
        rintro e w1 ⟨rfl, rfl⟩
        go_wp2_with fail
        refine (HBB.out _).mono ?_
        rintro e w1 ⟨rfl, rfl⟩
        go_wp2
        go_round
        case rel => exact ⟨k + 1, p, q * 2, by go_num, by first | rfl | go_num, by go_num, by omega, HQ1, Lib.hid HE.out.symm⟩
        case measure => simp [intOf]; omega
      · have HE : Hid (N % 2 ^ (k + 1) = p + q) := Lib.hid (by rw [HMS.out, if_pos (by decide), Nat.mul_one])
        clear HMS HAT
        go_wp2_with fail
        refine (HBA.out _).mono ?_
        rintro e w1 ⟨rfl, rfl⟩
        go_wp2_with fail
        refine (HBB.out _).mono ?_
        rintro e w1 ⟨rfl, rfl⟩
        go_wp2
        go_round
        case rel => exact ⟨k + 1, p + q, q * 2, by go_num, by first | rfl | go_num, by go_num, by omega, HQ1, Lib.hid HE.out.symm⟩
        case measure => simp [intOf]; omega
      · have HE : Hid (N % 2 ^ (k + 1) = p + q) := Lib.hid (by rw [HMS.out, if_pos (by decide), Nat.mul_one])
        clear HMS HAT
        go_wp2_with fail
        refine (HBA.out _).mono ?_
        rintro e w1 ⟨rfl, rfl⟩
        go_wp2_with fail
        refine (HBB.out _).mono ?_
        rintro e w1 ⟨rfl, rfl⟩
        go_wp2
        go_round
        case rel => exact ⟨k + 1, p + q, q * 2, by go_num, by first | rfl | go_num, by go_num, by omega, HQ1, Lib.hid HE.out.symm⟩
        case measure => simp [intOf]; omega
      · have HE : Hid (N % 2 ^ (k + 1) = p + q) := Lib.hid (by rw [HMS.out, if_pos (by decide), Nat.mul_one])
        clear HMS HAT
        go_wp2_with fail
        refine (HBA.out _).mono ?_
        rintro e w1 ⟨rfl, rfl⟩
        go_wp2_with fail
        refine (HBB.out _).mono ?_
        rintro e w1 ⟨rfl, rfl⟩
        go_wp2
        go_round
        case rel => exact ⟨k + 1, p + q, q * 2, by go_num, by first | rfl | go_num, by go_num, by omega, HQ1, Lib.hid HE.out.symm⟩
        case measure => simp [intOf]; omega
      · have HE : Hid (N % 2 ^ (k + 1) = p) := Lib.hid (by rw [HMS.out, if_neg (by decide), Nat.mul_zero, Nat.add_zero])
        clear HMS HAT
        go_wp2_with fail
        refine (HBA.out _).mono ?_
        rintro e w1 ⟨rfl, rfl⟩
        go_wp2_with fail
        refine (HBB.out _).mono ?_
        rintro e w1 ⟨rfl, rfl⟩
        go_wp2
        go_round
        case rel => exact ⟨k + 1, p, q * 2, by go_num, by first | rfl | go_num, by go_num, by omega, HQ1, Lib.hid HE.out.symm⟩
        case measure => simp [intOf]; omega
      · have HE : Hid (N % 2 ^ (k + 1) = p + q) := Lib.hid (by rw [HMS.out, if_pos (by decide), Nat.mul_one])
        clear HMS HAT
        go_wp2_with fail
        refine (HBA.out _).mono ?_
        rintro e w1 ⟨rfl, rfl⟩
        go_wp2_with fail
        refine (HBB.out _).mono ?_
        rintro e w1 ⟨rfl, rfl⟩
        go_wp2
        go_round
        case rel => exact ⟨k + 1, p + q, q * 2, by go_num, by first | rfl | go_num, by go_num, by omega, HQ1, Lib.hid HE.out.symm⟩
        case measure => simp [intOf]; omega
      · have HE : Hid (N % 2 ^ (k + 1) = p + q) := Lib.hid (by rw [HMS.out, if_pos (by decide), Nat.mul_one])
        clear HMS HAT
        go_wp2_with fail
        refine (HBA.out _).mono ?_
        rintro e w1 ⟨rfl, rfl⟩
        go_wp2_with fail
        refine (HBB.out _).mono ?_
        rintro e w1 ⟨rfl, rfl⟩
        go_wp2
        go_round
        case rel => exact ⟨k + 1, p + q, q * 2, by go_num, by first | rfl | go_num, by go_num, by omega, HQ1, Lib.hid HE.out.symm⟩
        case measure => simp [intOf]; omega
      · have HE : Hid (N % 2 ^ (k + 1) = p) := Lib.hid (by rw [HMS.out, if_neg (by decide), Nat.mul_zero, Nat.add_zero])
        clear HMS HAT
        go_wp2_with fail
        refine (HBA.out _).mono ?_
        rintro e w1 ⟨rfl, rfl⟩
        go_wp2_with fail
        refine (HBB.out _).mono ?_
        rintro e w1 ⟨rfl, rfl⟩
        go_wp2
        go_round
        case rel => exact ⟨k + 1, p, q * 2, by go_num, by first | rfl | go_num, by go_num, by omega, HQ1, Lib.hid HE.out.symm⟩
        case measure => simp [intOf]; omega
    · obtain rfl : k = 32 := by omega
      have HPN : Hid ((p : Int) = (N : Int)) := Lib.hid (by
        have h := HP.out
        rw [show (2 : Nat) ^ 32 = 4294967296 from rfl, Nat.mod_eq_of_lt hN] at h
        omega)
      clear hop HAT
      go_wp2_with fail
      rw [HPN.out]
      refine (refLow_any _ _).mono ?_
      rintro e w1 ⟨rfl, rfl⟩
      go_wp2
      go_ret
      exact ⟨rfl, rfl⟩
end Go.Proofs.YtjbcmedljgafkaaDoor.word
