/-
  Texts of one claim in one file: GOwn, DBox, GStay, FMem. Each has its own sentence, with its conditions.
-/
import Derived.Test.YtjbcmedljgafkaaDoorZq5
import Derived.Test.YtjbcmedljgafkaaDoorZq1
import Derived.Test.YtjbcmedljgafkaaDoorProg
import Derived.Test.YtjbcmedljgafkaaDoorZq7
import Derived.WalkKit
import Derived.ProofKit
import Derived.IntWalk
import Derived.LoopTactic
import Derived.Lib.Hide
import Derived.Below
import Derived.Outline
import Derived.OwnWalk
import Derived.Deep.RegionLaw
import Derived.Deep.AppendLies
import Derived.Laws.AppendOwnNone
import Derived.Maps.AppendAt
import Derived.Deep.QuietTactic
import Derived.BigQuiet
import Derived.Deep.Cut
import Derived.Deep.CutBlock
import Derived.Deep.DeepCutAuto
import Derived.Deep.RegionHeld3
import Derived.Deep.WholeRow
import Derived.Laws.Cells
/-
  Rows that a call owns: of instructions, of waits, of functions; and append behind them. No condition.
-/

namespace Go.Proofs.YtjbcmedljgafkaaDoor.pgm
open Go.RowKit Go.ChangeShapes
open Go.Proofs.YtjbcmedljgafkaaDoor.objs (De zero CellsAt DAt flat flat_append flat_length flat_at flat_oneCell src_cells I64 Ints)
open Go.Proofs.YtjbcmedljgafkaaDoor.need (WAt OwnN OwnW)
set_option linter.unusedVariables false

/-- A slice's value of instructions, nil or a row of the call's own. -/
def OwnJ (w : World) (base : Nat) (v : Value) (l : List De) : Prop := w.ownsRow base 55 3 v l.length (flat l)
theorem OwnJ.nil (w : World) (base : Nat) : OwnJ w base (.slice none 0 0) [] := World.ownsRow_nil ..
theorem OwnJ.empty {w : World} {g : Nat} (h : w.heap[g]? = some (.cells #[] 55 (0, 0))) : OwnJ w g (.slice (some ⟨g, 0, none⟩) 0 0) [] :=
  ⟨rfl, .inr ⟨g, 0, #[], rfl, Nat.le_refl _, h, Nat.le_refl _, Nat.zero_le _, rfl, rfl⟩⟩
theorem OwnJ.slice {w : World} {base : Nat} {v : Value} {l : List De} (h : OwnJ w base v l) : ∃ A cap, v = .slice A l.length cap := by
  rcases h.2 with ⟨rfl, h0⟩ | ⟨g, cap, cur, rfl, _⟩
  · exact ⟨none, 0, by rw [h0]⟩
  · exact ⟨_, _, rfl⟩
theorem OwnJ.at {w : World} {base cap : Nat} {A : Option Addr} {l : List De} {n : Nat} (h : OwnJ w base (.slice A n cap) l) : DAt w A l := by
  intro j hj
  rcases h.2 with ⟨e, h0⟩ | ⟨g, cap', cur, e, hb, hh, _⟩
  · omega
  · injection e with e1 e2 e3
    subst e1
    obtain ⟨h1, h2, h3⟩ := flat_at l j hj
    refine ⟨g, 0, rfl, lt_of_block hh, ?_, ?_, ?_⟩
    · have := World.ownsRow.cells h (g := g) rfl _ _ h1
      rw [Addr.add_lit] at this
      simpa using this
    · have := World.ownsRow.cells h (g := g) rfl _ _ h2
      rw [Addr.add_lit] at this
      simpa using this
    · have := World.ownsRow.cells h (g := g) rfl _ _ h3
      rw [Addr.add_lit] at this
      simpa using this
theorem OwnJ.keep {w w' : World} {base : Nat} {v : Value} {l : List De} (h : OwnJ w base v l) (hk : ∀ g, v.ownBlock = some g → w'.heap[g]? = w.heap[g]?) : OwnJ w' base v l := by
  refine ⟨h.1, h.2.imp id ?_⟩
  rintro ⟨g, c, cur, rfl, hb, hh, r⟩
  exact ⟨g, c, cur, rfl, hb, (hk g rfl).trans hh, r⟩
theorem OwnJ.lt {w : World} {base g : Nat} {v : Value} {l : List De} (h : OwnJ w base v l) (hg : v.ownBlock = some g) : base ≤ g ∧ g < w.heap.size := World.ownsRow.lt h g hg
theorem OwnJ.next {w w' : World} {base : Nat} {v : Value} {l : List De} (h : OwnJ w base v l) (hb : Below w.heap.size w w') : OwnJ w' base v l := h.keep fun g hg => hb.block g (h.lt hg).2
theorem OwnJ.base {w : World} {base base' : Nat} {v : Value} {l : List De} (h : OwnJ w base v l) (hb : base' ≤ base) : OwnJ w base' v l := by
  refine ⟨h.1, h.2.imp id ?_⟩
  rintro ⟨g, c, cur, e, hb1, r⟩
  exact ⟨g, c, cur, e, Nat.le_trans hb hb1, r⟩

theorem infoJ : (Tryd.prog.info? 55).map (fun i => (i.zero, i.size, i.bytes)) = some (some (.agg #[.int .i64 0, .int .i64 0, .int .i64 0]), 3, 24) := by kernel_rfl

/-- A list that lies anywhere, put behind a row of a call's own. -/
theorem run_appJ (w : World) (ty : TypeId) (base m c : Nat) (v : Value) (A : Option Addr) (l r : List De) (hrow : OwnJ w base v l) (hm : m = r.length) (hA : A = none → r = [] ∧ c = 0) (hsrc : DAt w A r) (hlen : l.length + r.length ≤ 100000) (hbase : base ≤ w.heap.size) :
    ∃ v' w', (Builtin.append_ #[56, 56] ty #[v, .slice A m c]).run Tryd.prog w = .ok v' w' ∧ OwnJ w' base v' (l ++ r) ∧ w.grownBy w' v.ownBlock := by
  subst hm
  obtain ⟨i, hi, hz0, hz1, hz2⟩ := info_parts infoJ
  cases A with
  | none =>
    obtain ⟨rfl, rfl⟩ := hA rfl
    refine ⟨v, w, run_append_owned_none (P := Tryd.prog) (w := w) base 56 ty 55 i 3 Tryd.underlying56 hi v l.length (flat l) hrow, ?_, ⟨rfl, rfl, rfl, Nat.le_refl _, fun _ _ _ => rfl⟩⟩
    rw [List.append_nil]
    exact hrow
  | some ad =>
    obtain ⟨v', w', h1, h2, h3, _⟩ := run_append_own (P := Tryd.prog) w base 56 ty 55 i _ 3 24 Tryd.underlying56 hi hz0 hz1 hz2 rfl (by omega) v l.length (flat l) hrow ad r.length c (flat r) (flat_length r) (src_cells hsrc) (flat_oneCell r) (by unfold maxLen; omega) (by omega) hbase
    refine ⟨v', w', h1, ?_, h3⟩
    unfold OwnJ
    rw [List.length_append, flat_append]
    exact h2
theorem wp_appJ {o : Oper} {a : Act} {w : World} {K : Act → World → Prop} {Q : Exit → Act → World → Prop} (s x : Operand)
    (ho : o.op = .call { callee := .builtin .append, args := #[s, x], argTypes := #[56, 56] }) (base m c : Nat) (v : Value) (A : Option Addr) (l r : List De)
    (hs : a.eval s = v) (hrow : OwnJ w base v l) (hx : a.eval x = .slice A m c) (hm : m = r.length) (hA : A = none → r = [] ∧ c = 0) (hsrc : DAt w A r) (hlen : l.length + r.length ≤ 100000) (hbase : base ≤ w.heap.size)
    (h : ∀ v' w', OwnJ w' base v' (l ++ r) → w.grownBy w' v.ownBlock → K (a.put o.dst v') w') : o.wp Tryd.prog a w K Q := by
  obtain ⟨v', w', hr, h2, h3⟩ := run_appJ w o.type base m c v A l r hrow hm hA hsrc hlen hbase
  unfold Oper.wp execOp
  simp only [ho, resolve, invoke, builtin, Sem.run_bind, Sem.run_pure, Result.andThen_ok, List.map_toArray, List.map_cons, List.map_nil, hs, hx, hr]
  exact h v' w' h2 h3
theorem step_appJ {ops : Array Oper} {o : Oper} {a : Act} {w : World} {K : Act → World → Prop} {Q : Exit → Act → World → Prop} {E : Prop} (hgd : o.guard = none) (s x : Operand)
    (ho : o.op = .call { callee := .builtin .append, args := #[s, x], argTypes := #[56, 56] }) (base m c : Nat) (v : Value) (A : Option Addr) (l r : List De)
    (hs : a.eval s = v) (hrow : OwnJ w base v l) (hx : a.eval x = .slice A m c) (hm : m = r.length) (hA : A = none → r = [] ∧ c = 0) (hsrc : DAt w A r) (hlen : l.length + r.length ≤ 100000) (hbase : base ≤ w.heap.size)
    (h : ∀ v' w', OwnJ w' base v' (l ++ r) → w.grownBy w' v.ownBlock → K (a.put o.dst v') w') :
    if Region.wanted o (yielded ops a.tmps) = true then Oper.wp Tryd.prog o a w K Q else E := by
  have hw : Region.wanted o (yielded ops a.tmps) = true := by simp [Region.wanted, hgd]
  rw [if_pos hw]
  exact wp_appJ s x ho base m c v A l r hs hrow hx hm hA hsrc hlen hbase h
theorem DAt.oneJ {w : World} {g : Nat} {d : De} (h : w.heap[g]? = some (.cells #[.int .i64 d.1, .int .i64 d.2.1, .int .i64 d.2.2] 55 (0, 0))) : DAt w (some ⟨g, 0, none⟩) [d] := fun j hj => by
  obtain rfl : j = 0 := by simpa using hj
  refine ⟨g, 0, rfl, lt_of_block h, ?_, ?_, ?_⟩
  all_goals
    unfold World.cell?
    rw [h]
    rfl
/-- What a row of instructions holds: its block is one of instructions. -/
theorem OwnJ.kind {w : World} {base g : Nat} {v : Value} {l : List De} (h : OwnJ w base v l) (hg : v.ownBlock = some g) : ∃ cur, w.heap[g]? = some (.cells cur 55 (0, 0)) := by
  rcases h.2 with ⟨rfl, _⟩ | ⟨g', cap, cur, rfl, _, hh, _⟩
  · cases hg
  · simp [Value.ownBlock] at hg
    subst hg
    exact ⟨cur, hh⟩

/-- A row of ways stays where blocks of ways and of needs stay. -/
theorem _root_.Go.Proofs.YtjbcmedljgafkaaDoor.need.OwnW.kinds {w w' : World} {base : Nat} {v : Value} {l : List (List De)} (h : OwnW w base v l) (hk : ∀ g, g < w.heap.size → (∃ cur, w.heap[g]? = some (.cells cur 95 (0, 0)) ∨ w.heap[g]? = some (.cells cur 124 (0, 0))) → w'.heap[g]? = w.heap[g]?) : OwnW w' base v l := by
  obtain ⟨xs, h1, h2⟩ := h
  refine ⟨xs, ⟨h1.1, h1.2.imp id ?_⟩, fun j hj => ?_⟩
  · rintro ⟨g, c, cur, rfl, hg, hh, r⟩
    exact ⟨g, c, cur, rfl, hg, (hk g (lt_of_block hh) ⟨cur, .inl hh⟩).trans hh, r⟩
  · obtain ⟨x, h3, h4⟩ := h2 j hj
    exact ⟨x, h3, h4.keep fun g hg => hk g (h4.lt hg).2 (by obtain ⟨cur, h5⟩ := h4.kind hg; exact ⟨cur, .inr h5⟩)⟩

/-- A row of waits that a call owns, each of them a row of ways of the call's own. -/
def OwnV (W : World) (base : Nat) (v : Value) (l : List (List (List De))) : Prop :=
  ∃ xs : List Value, W.ownsRow base 67 1 v l.length xs ∧ ∀ j, j < l.length → ∃ x, xs[j]? = some x ∧ OwnW W base x (l.getD j [])
theorem OwnV.slice {w : World} {base : Nat} {v : Value} {l : List (List (List De))} (h : OwnV w base v l) : ∃ A cap, v = .slice A l.length cap := by
  obtain ⟨xs, h1, _⟩ := h
  rcases h1.2 with ⟨rfl, h0⟩ | ⟨g, cap, cur, rfl, _⟩
  · exact ⟨none, 0, by rw [h0]⟩
  · exact ⟨_, _, rfl⟩
theorem OwnV.next {w w' : World} {base : Nat} {v : Value} {l : List (List (List De))} (h : OwnV w base v l) (hb : Below w.heap.size w w') : OwnV w' base v l := by
  obtain ⟨xs, h1, h2⟩ := h
  refine ⟨xs, ?_, fun j hj => ?_⟩
  · refine ⟨h1.1, h1.2.imp id ?_⟩
    rintro ⟨g, c, cur, rfl, hg, hh, r⟩
    exact ⟨g, c, cur, rfl, hg, (hb.block g (lt_of_block hh)).trans hh, r⟩
  · obtain ⟨x, h3, h4⟩ := h2 j hj
    exact ⟨x, h3, h4.next hb⟩
theorem OwnV.nil (w : World) (base : Nat) : OwnV w base (.slice none 0 0) [] := ⟨[], World.ownsRow_nil .., fun j hj => absurd hj (Nat.not_lt_zero j)⟩
theorem OwnV.empty {w : World} {g : Nat} (h : w.heap[g]? = some (.cells #[] 67 (0, 0))) : OwnV w g (.slice (some ⟨g, 0, none⟩) 0 0) [] :=
  ⟨[], ⟨rfl, .inr ⟨g, 0, #[], rfl, Nat.le_refl _, h, Nat.le_refl _, Nat.zero_le _, rfl, rfl⟩⟩, fun j hj => absurd hj (Nat.not_lt_zero j)⟩
theorem OwnV.base {w : World} {base base' : Nat} {v : Value} {l : List (List (List De))} (h : OwnV w base v l) (hb : base' ≤ base) : OwnV w base' v l := by
  obtain ⟨xs, h1, h2⟩ := h
  refine ⟨xs, ⟨h1.1, h1.2.imp id ?_⟩, fun j hj => ?_⟩
  · rintro ⟨g, c, cur, e, hg, r⟩
    exact ⟨g, c, cur, e, Nat.le_trans hb hg, r⟩
  · obtain ⟨x, h3, h4⟩ := h2 j hj
    exact ⟨x, h3, h4.base hb⟩
theorem OwnV.at {w : World} {base cap : Nat} {A : Option Addr} {l : List (List (List De))} {n : Nat} (h : OwnV w base (.slice A n cap) l) : WsAt w A l := by
  intro j hj
  obtain ⟨xs, h1, h2⟩ := h
  obtain ⟨x, h3, h4⟩ := h2 j hj
  rcases h1.2 with ⟨e, h0⟩ | ⟨g, cap', cur, e, hb, hh, _⟩
  · omega
  · injection e with e1 e2 e3
    subst e1
    obtain ⟨Aj, cj, rfl⟩ := h4.slice
    refine ⟨g, 0, Aj, cj, rfl, lt_of_block hh, ?_, h4.at⟩
    have := World.ownsRow.cells h1 (g := g) rfl _ _ h3
    rw [Addr.add_lit] at this
    simpa using this
theorem OwnV.hold {w w' : World} {base : Nat} {v : Value} {l : List (List (List De))} (h : OwnV w base v l) (hk : ∀ g, base ≤ g → g < w.heap.size → w'.heap[g]? = w.heap[g]?) : OwnV w' base v l := by
  obtain ⟨xs, h1, h2⟩ := h
  refine ⟨xs, ⟨h1.1, h1.2.imp id ?_⟩, fun j hj => ?_⟩
  · rintro ⟨g, c, cur, rfl, hg, hh, r⟩
    exact ⟨g, c, cur, rfl, hg, (hk g hg (lt_of_block hh)).trans hh, r⟩
  · obtain ⟨x, h3, ys, h4, h5⟩ := h2 j hj
    refine ⟨x, h3, ys, ⟨h4.1, h4.2.imp id ?_⟩, fun i hi => ?_⟩
    · rintro ⟨g, c, cur, rfl, hg, hh, r⟩
      exact ⟨g, c, cur, rfl, hg, (hk g hg (lt_of_block hh)).trans hh, r⟩
    · obtain ⟨y, h6, h7⟩ := h5 i hi
      exact ⟨y, h6, h7.keep fun g hg => hk g (h7.lt hg).1 (h7.lt hg).2⟩
theorem infoV : (Tryd.prog.info? 67).map (fun i => (i.zero, i.size, i.bytes)) = some (some (.slice none 0 0), 1, 24) := by kernel_rfl

/-- One wait, in a block of its own, put behind a row of waits. -/
theorem run_appV (w w1 : World) (ty : TypeId) (base c : Nat) (v x : Value) (l : List (List (List De))) (r : List (List De)) (hrow : OwnV w base v l) (hx : OwnW w base x r) (hw1 : w1 = w.alloc (.cells #[x] 67)) (hlen : l.length ≤ 100000) (hbase : base ≤ w.heap.size) :
    ∃ v' w', (Builtin.append_ #[23, 23] ty #[v, .slice (some ⟨w.heap.size, 0, none⟩) 1 c]).run Tryd.prog w1 = .ok v' w' ∧ OwnV w' base v' (l ++ [r]) ∧ w1.grownBy w' v.ownBlock := by
  subst hw1
  obtain ⟨i, hi, hz0, hz1, hz2⟩ := info_parts infoV
  obtain ⟨xs, h1, h2⟩ := hrow
  have hb0 : Below w.heap.size w (w.alloc (.cells #[x] 67)) := (Below.refl _ w).alloc (Nat.le_refl _) _
  have hc : (w.alloc (.cells #[x] 67)).cell? ⟨w.heap.size, 0, none⟩ = some x := by
    unfold World.cell?
    rw [heap_alloc_new w _]
    rfl
  have hrow1 : (w.alloc (.cells #[x] 67)).ownsRow base 67 1 v l.length xs := by
    refine ⟨h1.1, h1.2.imp id ?_⟩
    rintro ⟨g, c, cur, rfl, hg, hh, r⟩
    exact ⟨g, c, cur, rfl, hg, (hb0.block g (lt_of_block hh)).trans hh, r⟩
  obtain ⟨Ax, cx, hxs⟩ := hx.slice
  obtain ⟨v', w', r1, r2, r3, _⟩ := run_append_own (P := Tryd.prog) (w.alloc (.cells #[x] 67)) base 23 ty 67 i _ 1 24 Tryd.underlying23 hi hz0 hz1 hz2 rfl (by omega) v l.length xs hrow1 ⟨w.heap.size, 0, none⟩ 1 c [x] rfl (by
      intro j u hu
      rcases j with _ | j
      · simp only [List.getElem?_cons_zero, Option.some.injEq] at hu
        subst hu
        rw [Addr.add_lit]
        exact hc
      · simp at hu) (by
      intro u hu
      simp only [List.mem_singleton] at hu
      subst hu
      rw [hxs]
      rfl) (by unfold maxLen; omega) (by omega) (by simp; omega)
  refine ⟨v', w', r1, ⟨xs ++ [x], ?_, fun j hj => ?_⟩, r3⟩
  · rw [List.length_append]
    exact r2
  · have hlx : xs.length = l.length := by have := h1.1; omega
    have keep : ∀ (y : Value) (r' : List (List De)), OwnW w base y r' → OwnW w' base y r' := fun y r' hy => hy.kinds fun g hlt hk => by
      rw [r3.block g (by have := hb0.size; omega) (fun e => ?_), hb0.block g hlt]
      rcases h1.2 with ⟨rfl, _⟩ | ⟨g', cap', cur', rfl, _, hh, _⟩
      · cases e
      · simp [Value.ownBlock] at e
        subst e
        obtain ⟨cur, hk | hk⟩ := hk
        · rw [hk] at hh
          injection hh with hh
          injection hh with _ hh _
          exact absurd hh (by decide)
        · rw [hk] at hh
          injection hh with hh
          injection hh with _ hh _
          exact absurd hh (by decide)
    rcases Nat.lt_or_ge j l.length with hj2 | hj2
    · obtain ⟨y, h3, h4⟩ := h2 j hj2
      refine ⟨y, by rw [List.getElem?_append_left (by omega)]; exact h3, ?_⟩
      rw [show (l ++ [r]).getD j [] = l.getD j [] from by rw [List.getD_eq_getElem?_getD, List.getD_eq_getElem?_getD, List.getElem?_append_left hj2]]
      exact keep _ _ h4
    · rw [List.length_append] at hj
      obtain rfl : j = l.length := by simp at hj; omega
      refine ⟨x, by rw [List.getElem?_append_right (by omega), hlx, Nat.sub_self]; rfl, ?_⟩
      rw [show (l ++ [r]).getD l.length [] = r from by rw [List.getD_eq_getElem?_getD, List.getElem?_append_right (Nat.le_refl _), Nat.sub_self]; rfl]
      exact keep _ _ hx
theorem wp_appV {o : Oper} {a : Act} {w w1 : World} {K : Act → World → Prop} {Q : Exit → Act → World → Prop} (s y : Operand)
    (ho : o.op = .call { callee := .builtin .append, args := #[s, y], argTypes := #[23, 23] }) (base c : Nat) (v x : Value) (l : List (List (List De))) (r : List (List De))
    (hs : a.eval s = v) (hrow : OwnV w base v l) (hy : a.eval y = .slice (some ⟨w.heap.size, 0, none⟩) 1 c) (hx : OwnW w base x r) (hw1 : w1 = w.alloc (.cells #[x] 67)) (hlen : l.length ≤ 100000) (hbase : base ≤ w.heap.size)
    (h : ∀ v' w', OwnV w' base v' (l ++ [r]) → w1.grownBy w' v.ownBlock → K (a.put o.dst v') w') : o.wp Tryd.prog a w1 K Q := by
  obtain ⟨v', w', hr, h2, h3⟩ := run_appV w w1 o.type base c v x l r hrow hx hw1 hlen hbase
  unfold Oper.wp execOp
  simp only [ho, resolve, invoke, builtin, Sem.run_bind, Sem.run_pure, Result.andThen_ok, List.map_toArray, List.map_cons, List.map_nil, hs, hy, hr]
  exact h v' w' h2 h3
theorem step_appV {ops : Array Oper} {o : Oper} {a : Act} {w w1 : World} {K : Act → World → Prop} {Q : Exit → Act → World → Prop} {E : Prop} (hgd : o.guard = none) (s y : Operand)
    (ho : o.op = .call { callee := .builtin .append, args := #[s, y], argTypes := #[23, 23] }) (base c : Nat) (v x : Value) (l : List (List (List De))) (r : List (List De))
    (hs : a.eval s = v) (hrow : OwnV w base v l) (hy : a.eval y = .slice (some ⟨w.heap.size, 0, none⟩) 1 c) (hx : OwnW w base x r) (hw1 : w1 = w.alloc (.cells #[x] 67)) (hlen : l.length ≤ 100000) (hbase : base ≤ w.heap.size)
    (h : ∀ v' w', OwnV w' base v' (l ++ [r]) → w1.grownBy w' v.ownBlock → K (a.put o.dst v') w') :
    if Region.wanted o (yielded ops a.tmps) = true then Oper.wp Tryd.prog o a w1 K Q else E := by
  have hw : Region.wanted o (yielded ops a.tmps) = true := by simp [Region.wanted, hgd]
  rw [if_pos hw]
  exact wp_appV s y ho base c v x l r hs hrow hy hx hw1 hlen hbase h

/-- A row of functions that a call owns, each one's code a row of instructions of the call's own. -/
def OwnF (W : World) (base : Nat) (v : Value) (l : List Fn) : Prop :=
  ∃ xs : List Value, W.ownsRow base 58 3 v l.length xs ∧ ∀ j, j < l.length → xs[j * 3]? = some (.int .i64 (l.getD j Fn.zero).ar) ∧ xs[j * 3 + 1]? = some (.int .i64 (l.getD j Fn.zero).lo) ∧ ∃ x, xs[j * 3 + 2]? = some x ∧ OwnJ W base x (l.getD j Fn.zero).co
theorem OwnF.slice {w : World} {base : Nat} {v : Value} {l : List Fn} (h : OwnF w base v l) : ∃ A cap, v = .slice A l.length cap := by
  obtain ⟨xs, h1, _⟩ := h
  rcases h1.2 with ⟨rfl, h0⟩ | ⟨g, cap, cur, rfl, _⟩
  · exact ⟨none, 0, by rw [h0]⟩
  · exact ⟨_, _, rfl⟩
theorem OwnF.hold {w w' : World} {base : Nat} {v : Value} {l : List Fn} (h : OwnF w base v l) (hk : ∀ g, base ≤ g → g < w.heap.size → w'.heap[g]? = w.heap[g]?) : OwnF w' base v l := by
  obtain ⟨xs, h1, h2⟩ := h
  refine ⟨xs, ⟨h1.1, h1.2.imp id ?_⟩, fun j hj => ?_⟩
  · rintro ⟨g, c, cur, rfl, hg, hh, r⟩
    exact ⟨g, c, cur, rfl, hg, (hk g hg (lt_of_block hh)).trans hh, r⟩
  · obtain ⟨e1, e2, x, h3, h4⟩ := h2 j hj
    exact ⟨e1, e2, x, h3, h4.keep fun g hg => hk g (h4.lt hg).1 (h4.lt hg).2⟩
theorem OwnF.next {w w' : World} {base : Nat} {v : Value} {l : List Fn} (h : OwnF w base v l) (hb : Below w.heap.size w w') : OwnF w' base v l := h.hold fun g _ hg => hb.block g hg
theorem OwnF.nil (w : World) (base : Nat) : OwnF w base (.slice none 0 0) [] := ⟨[], World.ownsRow_nil .., fun j hj => absurd hj (Nat.not_lt_zero j)⟩
theorem OwnF.base {w : World} {base base' : Nat} {v : Value} {l : List Fn} (h : OwnF w base v l) (hb : base' ≤ base) : OwnF w base' v l := by
  obtain ⟨xs, h1, h2⟩ := h
  refine ⟨xs, ⟨h1.1, h1.2.imp id ?_⟩, fun j hj => ?_⟩
  · rintro ⟨g, c, cur, e, hg, r⟩
    exact ⟨g, c, cur, e, Nat.le_trans hb hg, r⟩
  · obtain ⟨e1, e2, x, h3, h4⟩ := h2 j hj
    exact ⟨e1, e2, x, h3, h4.base hb⟩
theorem OwnF.at {w : World} {base cap : Nat} {A : Option Addr} {l : List Fn} {n : Nat} (h : OwnF w base (.slice A n cap) l) : FsAt w A l := by
  intro j hj
  obtain ⟨xs, h1, h2⟩ := h
  obtain ⟨e1, e2, x, h3, h4⟩ := h2 j hj
  rcases h1.2 with ⟨e, h0⟩ | ⟨g, cap', cur, e, hb, hh, _⟩
  · omega
  · injection e with q1 q2 q3
    subst q1
    obtain ⟨Aj, cj, rfl⟩ := h4.slice
    have at_ : ∀ i u, xs[i]? = some u → w.cell? ⟨g, 0 + i, none⟩ = some u := fun i u hu => by
      have := World.ownsRow.cells h1 (g := g) rfl _ _ hu
      rwa [Addr.add_lit] at this
    exact ⟨g, 0, Aj, cj, rfl, lt_of_block hh, ⟨at_ _ _ e1, at_ _ _ e2, at_ _ _ h3⟩, h4.at⟩
theorem infoF : (Tryd.prog.info? 58).map (fun i => (i.zero, i.size, i.bytes)) = some (some (.agg #[.int .i64 0, .int .i64 0, .slice none 0 0]), 3, 40) := by kernel_rfl
/-- One function, in a block of its own, put behind a row of functions. -/
theorem run_appF (w w1 : World) (ty : TypeId) (base c : Nat) (v x : Value) (l : List Fn) (f : Fn) (hrow : OwnF w base v l) (hx : OwnJ w base x f.co) (hw1 : w1 = w.alloc (.cells #[.int .i64 f.ar, .int .i64 f.lo, x] 58)) (hlen : l.length ≤ 100000) (hbase : base ≤ w.heap.size) :
    ∃ v' w', (Builtin.append_ #[24, 24] ty #[v, .slice (some ⟨w.heap.size, 0, none⟩) 1 c]).run Tryd.prog w1 = .ok v' w' ∧ OwnF w' base v' (l ++ [f]) ∧ w1.grownBy w' v.ownBlock := by
  subst hw1
  obtain ⟨i, hi, hz0, hz1, hz2⟩ := info_parts infoF
  obtain ⟨xs, h1, h2⟩ := hrow
  obtain ⟨F, hF⟩ : ∃ F : Obj, F = .cells #[.int .i64 f.ar, .int .i64 f.lo, x] 58 := ⟨_, rfl⟩
  rw [← hF]
  have hb0 : Below w.heap.size w (w.alloc F) := (Below.refl _ w).alloc (Nat.le_refl _) _
  have hnew : (w.alloc F).heap[w.heap.size]? = some F := heap_alloc_new w F
  have hc : ∀ (j : Nat) (u : Value), [Value.int .i64 f.ar, .int .i64 f.lo, x][j]? = some u → (w.alloc F).cell? ((⟨w.heap.size, 0, none⟩ : Addr).add j) = some u := by
    intro j u hu
    rw [Addr.add_lit, Nat.zero_add]
    unfold World.cell?
    rw [hnew, hF]
    rcases j with _ | _ | _ | j
    · simpa using hu
    · simpa using hu
    · simpa using hu
    · simp at hu
  have hrow1 : (w.alloc F).ownsRow base 58 3 v l.length xs := by
    refine ⟨h1.1, h1.2.imp id ?_⟩
    rintro ⟨g, c, cur, rfl, hg, hh, r⟩
    exact ⟨g, c, cur, rfl, hg, (hb0.block g (lt_of_block hh)).trans hh, r⟩
  obtain ⟨Ax, cx, hxs⟩ := hx.slice
  obtain ⟨v', w', r1, r2, r3, _⟩ := run_append_own (P := Tryd.prog) (w.alloc F) base 24 ty 58 i _ 3 40 Tryd.underlying24 hi hz0 hz1 hz2 rfl (by omega) v l.length xs hrow1 ⟨w.heap.size, 0, none⟩ 1 c [.int .i64 f.ar, .int .i64 f.lo, x] rfl hc (by
      intro u hu
      simp only [List.mem_cons, List.not_mem_nil, or_false] at hu
      rcases hu with rfl | rfl | rfl
      · rfl
      · rfl
      · rw [hxs]; rfl) (by unfold maxLen; omega) (by omega) (by simp; omega)
  refine ⟨v', w', r1, ⟨xs ++ [.int .i64 f.ar, .int .i64 f.lo, x], ?_, fun j hj => ?_⟩, r3⟩
  · rw [List.length_append]
    exact r2
  · have hlx : xs.length = l.length * 3 := by have := h1.1; omega
    have keep : ∀ (y : Value) (r' : List De), OwnJ w base y r' → OwnJ w' base y r' := fun y r' hy => hy.keep fun g hg => by
      have hlt := (hy.lt hg).2
      obtain ⟨cur, hk⟩ := hy.kind hg
      rw [r3.block g (by have := hb0.size; omega) (fun e => ?_), hb0.block g hlt]
      rcases h1.2 with ⟨rfl, _⟩ | ⟨g', cap', cur', rfl, _, hh, _⟩
      · cases e
      · simp [Value.ownBlock] at e
        subst e
        rw [hk] at hh
        injection hh with hh
        injection hh with _ hh _
        exact absurd hh (by decide)
    rcases Nat.lt_or_ge j l.length with hj2 | hj2
    · obtain ⟨e1, e2, y, h3, h4⟩ := h2 j hj2
      have hl1 : j * 3 + 2 < xs.length := by omega
      rw [show (l ++ [f]).getD j Fn.zero = l.getD j Fn.zero from at_left hj2]
      exact ⟨by rw [List.getElem?_append_left (by omega)]; exact e1, by rw [List.getElem?_append_left (by omega)]; exact e2, y, by rw [List.getElem?_append_left (by omega)]; exact h3, keep _ _ h4⟩
    · rw [List.length_append] at hj
      obtain rfl : j = l.length := by simp at hj; omega
      rw [show (l ++ [f]).getD l.length Fn.zero = f from at_last rfl, ← hlx]
      refine ⟨?_, ?_, x, ?_, keep _ _ hx⟩
      · rw [List.getElem?_append_right (Nat.le_refl _), Nat.sub_self]; rfl
      · rw [List.getElem?_append_right (by omega), Nat.add_sub_cancel_left]; rfl
      · rw [List.getElem?_append_right (by omega), Nat.add_sub_cancel_left]; rfl
theorem wp_appF {o : Oper} {a : Act} {w w1 : World} {K : Act → World → Prop} {Q : Exit → Act → World → Prop} (s y : Operand)
    (ho : o.op = .call { callee := .builtin .append, args := #[s, y], argTypes := #[24, 24] }) (base c : Nat) (v x : Value) (l : List Fn) (f : Fn)
    (hs : a.eval s = v) (hrow : OwnF w base v l) (hy : a.eval y = .slice (some ⟨w.heap.size, 0, none⟩) 1 c) (hx : OwnJ w base x f.co) (hw1 : w1 = w.alloc (.cells #[.int .i64 f.ar, .int .i64 f.lo, x] 58)) (hlen : l.length ≤ 100000) (hbase : base ≤ w.heap.size)
    (h : ∀ v' w', OwnF w' base v' (l ++ [f]) → w1.grownBy w' v.ownBlock → K (a.put o.dst v') w') : o.wp Tryd.prog a w1 K Q := by
  obtain ⟨v', w', hr, h2, h3⟩ := run_appF w w1 o.type base c v x l f hrow hx hw1 hlen hbase
  unfold Oper.wp execOp
  simp only [ho, resolve, invoke, builtin, Sem.run_bind, Sem.run_pure, Result.andThen_ok, List.map_toArray, List.map_cons, List.map_nil, hs, hy, hr]
  exact h v' w' h2 h3
theorem wpList_appF {ops : Array Oper} {rest : List Oper} {o : Oper} {a : Act} {w w1 : World} {Q : Exit → Act → World → Prop} (hgd : o.guard = none) (s y : Operand)
    (ho : o.op = .call { callee := .builtin .append, args := #[s, y], argTypes := #[24, 24] }) (base c : Nat) (v x : Value) (l : List Fn) (f : Fn)
    (hs : a.eval s = v) (hrow : OwnF w base v l) (hy : a.eval y = .slice (some ⟨w.heap.size, 0, none⟩) 1 c) (hx : OwnJ w base x f.co) (hw1 : w1 = w.alloc (.cells #[.int .i64 f.ar, .int .i64 f.lo, x] 58)) (hlen : l.length ≤ 100000) (hbase : base ≤ w.heap.size)
    (h : ∀ v' w', OwnF w' base v' (l ++ [f]) → w1.grownBy w' v.ownBlock → wpList Tryd.prog ops Q rest (a.put o.dst v') w') : wpList Tryd.prog ops Q (o :: rest) a w1 :=
  wpList_plain hgd fun _ hK => wp_appF s y ho base c v x l f hs hrow hy hx hw1 hlen hbase fun v' w' h2 h3 => hK _ _ (h v' w' h2 h3)
theorem step_appF {ops : Array Oper} {o : Oper} {a : Act} {w w1 : World} {K : Act → World → Prop} {Q : Exit → Act → World → Prop} {E : Prop} (hgd : o.guard = none) (s y : Operand)
    (ho : o.op = .call { callee := .builtin .append, args := #[s, y], argTypes := #[24, 24] }) (base c : Nat) (v x : Value) (l : List Fn) (f : Fn)
    (hs : a.eval s = v) (hrow : OwnF w base v l) (hy : a.eval y = .slice (some ⟨w.heap.size, 0, none⟩) 1 c) (hx : OwnJ w base x f.co) (hw1 : w1 = w.alloc (.cells #[.int .i64 f.ar, .int .i64 f.lo, x] 58)) (hlen : l.length ≤ 100000) (hbase : base ≤ w.heap.size)
    (h : ∀ v' w', OwnF w' base v' (l ++ [f]) → w1.grownBy w' v.ownBlock → K (a.put o.dst v') w') :
    if Region.wanted o (yielded ops a.tmps) = true then Oper.wp Tryd.prog o a w1 K Q else E := by
  have hw : Region.wanted o (yielded ops a.tmps) = true := by simp [Region.wanted, hgd]
  rw [if_pos hw]
  exact wp_appF s y ho base c v x l f hs hrow hy hx hw1 hlen hbase h
end Go.Proofs.YtjbcmedljgafkaaDoor.pgm

/-
  Three cells at once, and a reader of the document's in a block. No condition.
-/

namespace Go.Proofs.YtjbcmedljgafkaaDoor.objs
open Go.RowKit Go.ChangeShapes
set_option linter.unusedVariables false

/-- Three cells of a block, set one behind the other. -/
abbrev put3 (W : World) (b : Nat) (x y z : Value) : World := ((W.setCell ⟨b, 0, none⟩ x).setCell ⟨b, 1, none⟩ y).setCell ⟨b, 2, none⟩ z
theorem put3_same {W : World} {b : Nat} {u v m : Value} {T : TypeId} (h : W.heap[b]? = some (.cells #[u, v, m] T (0, 0))) (x y z : Value) : (put3 W b x y z).heap[b]? = some (.cells #[x, y, z] T (0, 0)) := by
  simp [World.setCell, Array.getElem?_modify, h]
theorem cells3 {W : World} {b : Nat} {x y z : Value} {T : TypeId} (h : W.heap[b]? = some (.cells #[x, y, z] T (0, 0))) :
    W.cell? ⟨b, 0, none⟩ = some x ∧ W.cell? ⟨b, 1, none⟩ = some y ∧ W.cell? ⟨b, 2, none⟩ = some z ∧ W.frozen? ⟨b, 0, none⟩ = false ∧ W.frozen? ⟨b, 1, none⟩ = false ∧ W.frozen? ⟨b, 2, none⟩ = false := by
  simp [World.cell?, World.frozen?, h]
theorem put3_far {W : World} {b c : Nat} (h : c ≠ b) (x y z : Value) : (put3 W b x y z).heap[c]? = W.heap[c]? :=
  (Below.heap_setCell _ ⟨b, 2, none⟩ _ c h).trans ((Below.heap_setCell _ ⟨b, 1, none⟩ _ c h).trans (Below.heap_setCell _ ⟨b, 0, none⟩ _ c h))
theorem put3_below {B b : Nat} {a W : World} (h : Below B a W) (hb : B ≤ b) (x y z : Value) : Below B a (put3 W b x y z) :=
  ((h.setCell (p := ⟨b, 0, none⟩) hb _).setCell (p := ⟨b, 1, none⟩) hb _).setCell (p := ⟨b, 2, none⟩) hb _

end Go.Proofs.YtjbcmedljgafkaaDoor.objs

/-
  Rows that stay as they are while the blocks of an interval stay. No condition.
-/

namespace Go.Proofs.YtjbcmedljgafkaaDoor.pgm
open Go.RowKit Go.ChangeShapes
open Go.Proofs.YtjbcmedljgafkaaDoor.objs (De zero Own)
set_option linter.unusedVariables false

/-- What holds as long as the blocks of an interval stay. -/
def Stays (W : World) (lo hi : Nat) (p : World → Prop) : Prop := hi ≤ W.heap.size ∧ ∀ W' : World, W.heap.size ≤ W'.heap.size → (∀ g, lo ≤ g → g < hi → W'.heap[g]? = W.heap[g]?) → p W'
theorem Stays.now {W : World} {lo hi : Nat} {p : World → Prop} (h : Stays W lo hi p) : p W := h.2 W (Nat.le_refl _) fun _ _ _ => rfl
theorem Stays.keep {W W1 : World} {lo hi : Nat} {p : World → Prop} (h : Stays W lo hi p) (hs : W.heap.size ≤ W1.heap.size) (hk : ∀ g, lo ≤ g → g < hi → W1.heap[g]? = W.heap[g]?) : Stays W1 lo hi p :=
  ⟨Nat.le_trans h.1 hs, fun W' h1 h2 => h.2 W' (Nat.le_trans hs h1) fun g hl hg => (h2 g hl hg).trans (hk g hl hg)⟩
theorem Stays.next {W W1 : World} {lo hi : Nat} {p : World → Prop} (h : Stays W lo hi p) (hb : Below W.heap.size W W1) : Stays W1 lo hi p := h.keep hb.size fun g _ hg => hb.block g (Nat.lt_of_lt_of_le hg h.1)
theorem Own.stays {W : World} {base : Nat} {v : Value} {l : List De} (h : Own W base v l) : Stays W base W.heap.size (fun W' => Own W' base v l) := ⟨Nat.le_refl _, fun W' _ hk => h.keep fun g hg => hk g (h.lt hg).1 (h.lt hg).2⟩
theorem OwnV.stays {W : World} {base : Nat} {v : Value} {l : List (List (List De))} (h : OwnV W base v l) : Stays W base W.heap.size (fun W' => OwnV W' base v l) := ⟨Nat.le_refl _, fun W' _ hk => h.hold hk⟩

def pgB (a v u : Value) : Obj := .cells #[a, v, u] 26
abbrev sN : Value := .slice none 0 0
theorem pg_set1 {W : World} {b : Nat} {a v u : Value} (h : W.heap[b]? = some (pgB a v u)) (x : Value) : (W.setCell ⟨b, 1, none⟩ x).heap[b]? = some (pgB a x u) := by
  simp [World.setCell, Array.getElem?_modify, h, pgB]
theorem pg_set2 {W : World} {b : Nat} {a v u : Value} (h : W.heap[b]? = some (pgB a v u)) (x : Value) : (W.setCell ⟨b, 2, none⟩ x).heap[b]? = some (pgB a v x) := by
  simp [World.setCell, Array.getElem?_modify, h, pgB]
theorem OwnV.inB {w : World} {base g : Nat} {v : Value} {l : List (List (List De))} (h : OwnV w base v l) (hg : v.ownBlock = some g) : base ≤ g ∧ g < w.heap.size := by
  obtain ⟨xs, h1, _⟩ := h
  exact World.ownsRow.lt h1 g hg
theorem OwnF.inB {w : World} {base g : Nat} {v : Value} {l : List Fn} (h : OwnF w base v l) (hg : v.ownBlock = some g) : base ≤ g ∧ g < w.heap.size := by
  obtain ⟨xs, h1, _⟩ := h
  exact World.ownsRow.lt h1 g hg
theorem OwnV.kind {w : World} {base g : Nat} {v : Value} {l : List (List (List De))} (h : OwnV w base v l) (hg : v.ownBlock = some g) : ∃ cur, w.heap[g]? = some (.cells cur 67 (0, 0)) := by
  obtain ⟨xs, h1, _⟩ := h
  rcases h1.2 with ⟨rfl, _⟩ | ⟨g', cap, cur, rfl, _, hh, _⟩
  · cases hg
  · simp [Value.ownBlock] at hg
    subst hg
    exact ⟨cur, hh⟩
theorem OwnF.kind {w : World} {base g : Nat} {v : Value} {l : List Fn} (h : OwnF w base v l) (hg : v.ownBlock = some g) : ∃ cur, w.heap[g]? = some (.cells cur 58 (0, 0)) := by
  obtain ⟨xs, h1, _⟩ := h
  rcases h1.2 with ⟨rfl, _⟩ | ⟨g', cap, cur, rfl, _, hh, _⟩
  · cases hg
  · simp [Value.ownBlock] at hg
    subst hg
    exact ⟨cur, hh⟩
end Go.Proofs.YtjbcmedljgafkaaDoor.pgm

/-
  Frames as they lie in memory, wherever they came from: twenty-seven cells each; a row of them that a call owns; a frame that is loaded, and stored. No condition.
-/

namespace Go.Proofs.YtjbcmedljgafkaaDoor.frames
open Go.RowKit Go.ChangeShapes
set_option linter.unusedVariables false

/-- A frame, cell by cell. -/
def cellsF (f : Fr) : List Value := (List.range 27).map fun k => .int .i64 (num f k)
theorem cellsF_length (f : Fr) : (cellsF f).length = 27 := by unfold cellsF; rw [List.length_map, List.length_range]
theorem cellsF_at (f : Fr) {k : Nat} (hk : k < 27) : (cellsF f)[k]? = some (.int .i64 (num f k)) := by
  unfold cellsF
  rw [List.getElem?_map, List.getElem?_range hk]
  rfl
theorem cellsF_one (f : Fr) : ∀ u ∈ cellsF f, u.oneCell' = true := by
  intro u hu
  obtain ⟨k, _, rfl⟩ := List.mem_map.1 hu
  rfl
def FCells (w : World) (b i : Nat) (f : Fr) : Prop := ∀ k, k < 27 → w.cell? ⟨b, i + k, none⟩ = some (.int .i64 (num f k))
/-- A list of frames, one behind the other, from where a slice begins. -/
def FsAt (w : World) (A : Option Addr) (l : List Fr) : Prop := ∀ j, j < l.length → ∃ b off, A = some ⟨b, off, none⟩ ∧ b < w.heap.size ∧ FCells w b (off + j * 27) (l.getD j zeroF)
theorem FCells.keep {w w' : World} {b i : Nat} {f : Fr} (h : FCells w b i f) (hb : w'.heap[b]? = w.heap[b]?) : FCells w' b i f :=
  fun k hk => (World.cell?_of_block (a := ⟨b, i + k, none⟩) hb).trans (h k hk)
theorem FsAt.next {w w' : World} {A : Option Addr} {l : List Fr} (h : FsAt w A l) (hb : Below w.heap.size w w') : FsAt w' A l := fun j hj => by
  obtain ⟨b, off, h1, h2, h3⟩ := h j hj
  exact ⟨b, off, h1, Nat.lt_of_lt_of_le h2 hb.size, h3.keep (hb.block b h2)⟩
theorem FsAt.nil (w : World) (A : Option Addr) : FsAt w A [] := fun j hj => absurd hj (Nat.not_lt_zero j)
theorem FsAt.take {w : World} {A : Option Addr} {l : List Fr} (h : FsAt w A l) (n : Nat) : FsAt w A (l.take n) := fun j hj => by
  rw [List.length_take] at hj
  obtain ⟨b, off, h1, h2, h3⟩ := h j (by omega)
  refine ⟨b, off, h1, h2, ?_⟩
  rwa [List.getD_eq_getElem?_getD, List.getElem?_take_of_lt (by omega), ← List.getD_eq_getElem?_getD]

/-- Frames, cell by cell. -/
def flat (l : List Fr) : List Value := l.flatMap cellsF
theorem flat_append (l r : List Fr) : flat (l ++ r) = flat l ++ flat r := by simp [flat]
theorem flat_cons (f : Fr) (l : List Fr) : flat (f :: l) = cellsF f ++ flat l := by simp [flat]
theorem flat_length (l : List Fr) : (flat l).length = l.length * 27 := by
  induction l with
  | nil => rfl
  | cons f l ih => rw [flat_cons, List.length_append, cellsF_length, ih, List.length_cons]; omega
theorem flat_oneCell (l : List Fr) : ∀ u ∈ flat l, u.oneCell' = true := by
  intro u hu
  simp only [flat, List.mem_flatMap] at hu
  obtain ⟨f, _, hf⟩ := hu
  exact cellsF_one f u hf
theorem flat_at (l : List Fr) : ∀ j k, j < l.length → k < 27 → (flat l)[j * 27 + k]? = some (.int .i64 (num (l.getD j zeroF) k)) := by
  induction l with
  | nil => intro j k hj; exact absurd hj (Nat.not_lt_zero j)
  | cons f l ih =>
    intro j k hj hk
    rw [flat_cons]
    cases j with
    | zero =>
      rw [Nat.zero_mul, Nat.zero_add, List.getElem?_append_left (by rw [cellsF_length]; exact hk), cellsF_at f hk]
      rfl
    | succ j =>
      rw [List.getElem?_append_right (by rw [cellsF_length]; omega), cellsF_length, show (j + 1) * 27 + k - 27 = j * 27 + k by omega, ih j k (by simpa using hj) hk]
      rfl

/-- A slice's value of frames, nil or a row of the call's own. -/
def Own (w : World) (base : Nat) (v : Value) (l : List Fr) : Prop := w.ownsRow base 45 27 v l.length (flat l)
theorem Own.nil (w : World) (base : Nat) : Own w base (.slice none 0 0) [] := World.ownsRow_nil ..
theorem Own.empty {w : World} {g : Nat} (h : w.heap[g]? = some (.cells #[] 45 (0, 0))) : Own w g (.slice (some ⟨g, 0, none⟩) 0 0) [] :=
  ⟨rfl, .inr ⟨g, 0, #[], rfl, Nat.le_refl _, h, Nat.le_refl _, Nat.zero_le _, rfl, rfl⟩⟩
theorem Own.slice {w : World} {base : Nat} {v : Value} {l : List Fr} (h : Own w base v l) : ∃ A cap, v = .slice A l.length cap := by
  rcases h.2 with ⟨rfl, h0⟩ | ⟨g, cap, cur, rfl, _⟩
  · exact ⟨none, 0, by rw [h0]⟩
  · exact ⟨_, _, rfl⟩
theorem Own.at {w : World} {base cap : Nat} {A : Option Addr} {l : List Fr} {n : Nat} (h : Own w base (.slice A n cap) l) : FsAt w A l := by
  intro j hj
  rcases h.2 with ⟨e, h0⟩ | ⟨g, cap', cur, e, hb, hh, _⟩
  · omega
  · injection e with e1 e2 e3
    subst e1
    refine ⟨g, 0, rfl, lt_of_block hh, fun k hk => ?_⟩
    have := World.ownsRow.cells h (g := g) rfl _ _ (flat_at l j k hj hk)
    rw [Addr.add_lit] at this
    simpa [Nat.add_assoc] using this
theorem Own.keep {w w' : World} {base : Nat} {v : Value} {l : List Fr} (h : Own w base v l) (hk : ∀ g, v.ownBlock = some g → w'.heap[g]? = w.heap[g]?) : Own w' base v l := by
  refine ⟨h.1, h.2.imp id ?_⟩
  rintro ⟨g, c, cur, rfl, hb, hh, r⟩
  exact ⟨g, c, cur, rfl, hb, (hk g rfl).trans hh, r⟩
theorem Own.lt {w : World} {base g : Nat} {v : Value} {l : List Fr} (h : Own w base v l) (hg : v.ownBlock = some g) : base ≤ g ∧ g < w.heap.size := World.ownsRow.lt h g hg
theorem Own.next {w w' : World} {base : Nat} {v : Value} {l : List Fr} (h : Own w base v l) (hb : Below w.heap.size w w') : Own w' base v l := h.keep fun g hg => hb.block g (h.lt hg).2
theorem Own.base {w : World} {base base' : Nat} {v : Value} {l : List Fr} (h : Own w base v l) (hb : base' ≤ base) : Own w base' v l := by
  refine ⟨h.1, h.2.imp id ?_⟩
  rintro ⟨g, c, cur, e, hb1, r⟩
  exact ⟨g, c, cur, e, Nat.le_trans hb hb1, r⟩

theorem infoF : (Tryd.prog.info? 45).map (fun i => (i.zero, i.size, i.bytes)) = some (some (.agg #[.int .i64 0, .int .i64 0, .int .i64 0, .int .i64 0, .int .i64 0, .int .i64 0, .int .i64 0, .int .i64 0, .int .i64 0, .int .i64 0, .int .i64 0, .int .i64 0, .int .i64 0, .int .i64 0, .int .i64 0, .int .i64 0, .int .i64 0, .int .i64 0, .int .i64 0, .int .i64 0, .int .i64 0, .int .i64 0, .int .i64 0, .int .i64 0, .int .i64 0, .int .i64 0, .int .i64 0]), 27, 216) := by kernel_rfl

theorem src_cells {w : World} {ad : Addr} {r : List Fr} (h : FsAt w (some ad) r) : ∀ (j : Nat) (u : Value), (flat r)[j]? = some u → w.cell? (ad.add j) = some u := by
  intro j u hu
  have hj : j < r.length * 27 := by
    have := (List.getElem?_eq_some_iff.1 hu).1
    rwa [flat_length] at this
  obtain ⟨b, off, e, _, h1⟩ := h (j / 27) (by omega)
  obtain rfl := Option.some.inj e
  have f1 := flat_at r (j / 27) (j % 27) (by omega) (Nat.mod_lt _ (by omega))
  have h2 := h1 (j % 27) (Nat.mod_lt _ (by omega))
  rw [show j / 27 * 27 + j % 27 = j from by omega] at f1
  rw [Nat.add_assoc, show j / 27 * 27 + j % 27 = j from by omega] at h2
  rw [Addr.add_lit, h2, ← hu, f1]
/-- A list that lies anywhere, put behind a row of a call's own. -/
theorem run_appF (w : World) (ty : TypeId) (base m c : Nat) (v : Value) (A : Option Addr) (l r : List Fr) (hrow : Own w base v l) (hm : m = r.length) (hA : A = none → r = [] ∧ c = 0) (hsrc : FsAt w A r) (hlen : l.length + r.length ≤ 100000) (hbase : base ≤ w.heap.size) :
    ∃ v' w', (Builtin.append_ #[30, 30] ty #[v, .slice A m c]).run Tryd.prog w = .ok v' w' ∧ Own w' base v' (l ++ r) ∧ w.grownBy w' v.ownBlock := by
  subst hm
  obtain ⟨i, hi, hz0, hz1, hz2⟩ := info_parts infoF
  cases A with
  | none =>
    obtain ⟨rfl, rfl⟩ := hA rfl
    refine ⟨v, w, run_append_owned_none (P := Tryd.prog) (w := w) base 30 ty 45 i 27 Tryd.underlying30 hi v l.length (flat l) hrow, ?_, ⟨rfl, rfl, rfl, Nat.le_refl _, fun _ _ _ => rfl⟩⟩
    rw [List.append_nil]
    exact hrow
  | some ad =>
    obtain ⟨v', w', h1, h2, h3, _⟩ := run_append_own (P := Tryd.prog) w base 30 ty 45 i _ 27 216 Tryd.underlying30 hi hz0 hz1 hz2 rfl (by omega) v l.length (flat l) hrow ad r.length c (flat r) (flat_length r) (src_cells hsrc) (flat_oneCell r) (by unfold maxLen; omega) (by omega) hbase
    refine ⟨v', w', h1, ?_, h3⟩
    unfold Own
    rw [List.length_append, flat_append]
    exact h2
theorem wp_appF {o : Oper} {a : Act} {w : World} {K : Act → World → Prop} {Q : Exit → Act → World → Prop} (s x : Operand)
    (ho : o.op = .call { callee := .builtin .append, args := #[s, x], argTypes := #[30, 30] }) (base m c : Nat) (v : Value) (A : Option Addr) (l r : List Fr)
    (hs : a.eval s = v) (hrow : Own w base v l) (hx : a.eval x = .slice A m c) (hm : m = r.length) (hA : A = none → r = [] ∧ c = 0) (hsrc : FsAt w A r) (hlen : l.length + r.length ≤ 100000) (hbase : base ≤ w.heap.size)
    (h : ∀ v' w', Own w' base v' (l ++ r) → w.grownBy w' v.ownBlock → K (a.put o.dst v') w') : o.wp Tryd.prog a w K Q := by
  obtain ⟨v', w', hr, h2, h3⟩ := run_appF w o.type base m c v A l r hrow hm hA hsrc hlen hbase
  unfold Oper.wp execOp
  simp only [ho, resolve, invoke, builtin, Sem.run_bind, Sem.run_pure, Result.andThen_ok, List.map_toArray, List.map_cons, List.map_nil, hs, hx, hr]
  exact h v' w' h2 h3
theorem wpList_appF {ops : Array Oper} {rest : List Oper} {o : Oper} {a : Act} {w : World} {Q : Exit → Act → World → Prop} (hgd : o.guard = none) (s x : Operand)
    (ho : o.op = .call { callee := .builtin .append, args := #[s, x], argTypes := #[30, 30] }) (base m c : Nat) (v : Value) (A : Option Addr) (l r : List Fr)
    (hs : a.eval s = v) (hrow : Own w base v l) (hx : a.eval x = .slice A m c) (hm : m = r.length) (hA : A = none → r = [] ∧ c = 0) (hsrc : FsAt w A r) (hlen : l.length + r.length ≤ 100000) (hbase : base ≤ w.heap.size)
    (h : ∀ v' w', Own w' base v' (l ++ r) → w.grownBy w' v.ownBlock → wpList Tryd.prog ops Q rest (a.put o.dst v') w') : wpList Tryd.prog ops Q (o :: rest) a w :=
  wpList_plain hgd fun _ hK => wp_appF s x ho base m c v A l r hs hrow hx hm hA hsrc hlen hbase fun v' w' h2 h3 => hK _ _ (h v' w' h2 h3)
theorem step_appF {ops : Array Oper} {o : Oper} {a : Act} {w : World} {K : Act → World → Prop} {Q : Exit → Act → World → Prop} {E : Prop} (hgd : o.guard = none) (s x : Operand)
    (ho : o.op = .call { callee := .builtin .append, args := #[s, x], argTypes := #[30, 30] }) (base m c : Nat) (v : Value) (A : Option Addr) (l r : List Fr)
    (hs : a.eval s = v) (hrow : Own w base v l) (hx : a.eval x = .slice A m c) (hm : m = r.length) (hA : A = none → r = [] ∧ c = 0) (hsrc : FsAt w A r) (hlen : l.length + r.length ≤ 100000) (hbase : base ≤ w.heap.size)
    (h : ∀ v' w', Own w' base v' (l ++ r) → w.grownBy w' v.ownBlock → K (a.put o.dst v') w') :
    if Region.wanted o (yielded ops a.tmps) = true then Oper.wp Tryd.prog o a w K Q else E := by
  have hw : Region.wanted o (yielded ops a.tmps) = true := by simp [Region.wanted, hgd]
  rw [if_pos hw]
  exact wp_appF s x ho base m c v A l r hs hrow hx hm hA hsrc hlen hbase h
/-- A frame in a block of its own. -/
def frB (f : Fr) : Obj := .cells (cellsF f).toArray 45
theorem FCells.of_block {w : World} {g : Nat} {f : Fr} (h : w.heap[g]? = some (frB f)) : FCells w g 0 f := fun k hk => by
  unfold World.cell?
  rw [h, Nat.zero_add]
  unfold frB
  simp only [List.getElem?_toArray]
  exact cellsF_at f hk
theorem FsAt.one {w : World} {g : Nat} {f : Fr} (h : w.heap[g]? = some (frB f)) : FsAt w (some ⟨g, 0, none⟩) [f] := fun j hj => by
  obtain rfl : j = 0 := by simpa using hj
  exact ⟨g, 0, rfl, lt_of_block h, by rw [Nat.zero_mul, Nat.zero_add]; exact FCells.of_block h⟩
theorem Own.cap {w : World} {base n c : Nat} {A : Option Addr} {l : List Fr} (h : Own w base (.slice A n c) l) : l.length ≤ c := by
  rcases h.2 with ⟨e, h0⟩ | ⟨g, cap', cur, e, hb, hh, h1, h2, h3, h4⟩
  · omega
  · injection e with e1 e2 e3
    omega
end Go.Proofs.YtjbcmedljgafkaaDoor.frames
