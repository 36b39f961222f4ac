/-
  Frames as they lie in memory, wherever they came from: twenty-seven cells each; a row of them that a call owns; a frame that is loaded, and stored. No condition.
-/
import Derived.Test.YtlkcpplpjjbiaaaProg
import Derived.Test.YtlkcpplpjjbiaaaFPlain
import Derived.WalkKit
import Derived.ProofKit
import Derived.IntWalk
import Derived.LoopTactic
import Derived.Lib.Hide
import Derived.Below
import Derived.Outline
import Derived.OwnWalk
import Derived.Deep.RegionLaw
import Derived.Deep.AppendLies
import Derived.Laws.AppendOwnNone
import Derived.Maps.AppendAt
import Derived.Deep.QuietTactic
import Derived.BigQuiet
import Derived.Deep.Cut
import Derived.Deep.CutBlock
import Derived.Deep.DeepCutAuto
import Derived.Deep.RegionHeld3
import Derived.Deep.WholeRow
import Derived.Laws.Cells
namespace Go.Proofs.Ytlkcpplpjjbiaaa.frames
open Go.RowKit Go.ChangeShapes
set_option linter.unusedVariables false

/-- A frame, cell by cell. -/
def cellsF (f : Fr) : List Value := (List.range 27).map fun k => .int .i64 (num f k)
theorem cellsF_length (f : Fr) : (cellsF f).length = 27 := by unfold cellsF; rw [List.length_map, List.length_range]
theorem cellsF_at (f : Fr) {k : Nat} (hk : k < 27) : (cellsF f)[k]? = some (.int .i64 (num f k)) := by
  unfold cellsF
  rw [List.getElem?_map, List.getElem?_range hk]
  rfl
theorem cellsF_one (f : Fr) : ∀ u ∈ cellsF f, u.oneCell' = true := by
  intro u hu
  obtain ⟨k, _, rfl⟩ := List.mem_map.1 hu
  rfl
def FCells (w : World) (b i : Nat) (f : Fr) : Prop := ∀ k, k < 27 → w.cell? ⟨b, i + k, none⟩ = some (.int .i64 (num f k))
/-- A list of frames, one behind the other, from where a slice begins. -/
def FsAt (w : World) (A : Option Addr) (l : List Fr) : Prop := ∀ j, j < l.length → ∃ b off, A = some ⟨b, off, none⟩ ∧ b < w.heap.size ∧ FCells w b (off + j * 27) (l.getD j zeroF)
theorem FCells.keep {w w' : World} {b i : Nat} {f : Fr} (h : FCells w b i f) (hb : w'.heap[b]? = w.heap[b]?) : FCells w' b i f :=
  fun k hk => (World.cell?_of_block (a := ⟨b, i + k, none⟩) hb).trans (h k hk)
theorem FsAt.next {w w' : World} {A : Option Addr} {l : List Fr} (h : FsAt w A l) (hb : Below w.heap.size w w') : FsAt w' A l := fun j hj => by
  obtain ⟨b, off, h1, h2, h3⟩ := h j hj
  exact ⟨b, off, h1, Nat.lt_of_lt_of_le h2 hb.size, h3.keep (hb.block b h2)⟩
theorem FsAt.nil (w : World) (A : Option Addr) : FsAt w A [] := fun j hj => absurd hj (Nat.not_lt_zero j)
theorem FsAt.take {w : World} {A : Option Addr} {l : List Fr} (h : FsAt w A l) (n : Nat) : FsAt w A (l.take n) := fun j hj => by
  rw [List.length_take] at hj
  obtain ⟨b, off, h1, h2, h3⟩ := h j (by omega)
  refine ⟨b, off, h1, h2, ?_⟩
  rwa [List.getD_eq_getElem?_getD, List.getElem?_take_of_lt (by omega), ← List.getD_eq_getElem?_getD]

/-- Frames, cell by cell. -/
def flat (l : List Fr) : List Value := l.flatMap cellsF
theorem flat_append (l r : List Fr) : flat (l ++ r) = flat l ++ flat r := by simp [flat]
theorem flat_cons (f : Fr) (l : List Fr) : flat (f :: l) = cellsF f ++ flat l := by simp [flat]
theorem flat_length (l : List Fr) : (flat l).length = l.length * 27 := by
  induction l with
  | nil => rfl
  | cons f l ih => rw [flat_cons, List.length_append, cellsF_length, ih, List.length_cons]; omega
theorem flat_oneCell (l : List Fr) : ∀ u ∈ flat l, u.oneCell' = true := by
  intro u hu
  simp only [flat, List.mem_flatMap] at hu
  obtain ⟨f, _, hf⟩ := hu
  exact cellsF_one f u hf
theorem flat_at (l : List Fr) : ∀ j k, j < l.length → k < 27 → (flat l)[j * 27 + k]? = some (.int .i64 (num (l.getD j zeroF) k)) := by
  induction l with
  | nil => intro j k hj; exact absurd hj (Nat.not_lt_zero j)
  | cons f l ih =>
    intro j k hj hk
    rw [flat_cons]
    cases j with
    | zero =>
      rw [Nat.zero_mul, Nat.zero_add, List.getElem?_append_left (by rw [cellsF_length]; exact hk), cellsF_at f hk]
      rfl
    | succ j =>
      rw [List.getElem?_append_right (by rw [cellsF_length]; omega), cellsF_length, show (j + 1) * 27 + k - 27 = j * 27 + k by omega, ih j k (by simpa using hj) hk]
      rfl

/-- A slice's value of frames, nil or a row of the call's own. -/
def Own (w : World) (base : Nat) (v : Value) (l : List Fr) : Prop := w.ownsRow base 56 27 v l.length (flat l)
theorem Own.nil (w : World) (base : Nat) : Own w base (.slice none 0 0) [] := World.ownsRow_nil ..
theorem Own.empty {w : World} {g : Nat} (h : w.heap[g]? = some (.cells #[] 56 (0, 0))) : Own w g (.slice (some ⟨g, 0, none⟩) 0 0) [] :=
  ⟨rfl, .inr ⟨g, 0, #[], rfl, Nat.le_refl _, h, Nat.le_refl _, Nat.zero_le _, rfl, rfl⟩⟩
theorem Own.slice {w : World} {base : Nat} {v : Value} {l : List Fr} (h : Own w base v l) : ∃ A cap, v = .slice A l.length cap := by
  rcases h.2 with ⟨rfl, h0⟩ | ⟨g, cap, cur, rfl, _⟩
  · exact ⟨none, 0, by rw [h0]⟩
  · exact ⟨_, _, rfl⟩
theorem Own.at {w : World} {base cap : Nat} {A : Option Addr} {l : List Fr} {n : Nat} (h : Own w base (.slice A n cap) l) : FsAt w A l := by
  intro j hj
  rcases h.2 with ⟨e, h0⟩ | ⟨g, cap', cur, e, hb, hh, _⟩
  · omega
  · injection e with e1 e2 e3
    subst e1
    refine ⟨g, 0, rfl, lt_of_block hh, fun k hk => ?_⟩
    have := World.ownsRow.cells h (g := g) rfl _ _ (flat_at l j k hj hk)
    rw [Addr.add_lit] at this
    simpa [Nat.add_assoc] using this
theorem Own.keep {w w' : World} {base : Nat} {v : Value} {l : List Fr} (h : Own w base v l) (hk : ∀ g, v.ownBlock = some g → w'.heap[g]? = w.heap[g]?) : Own w' base v l := by
  refine ⟨h.1, h.2.imp id ?_⟩
  rintro ⟨g, c, cur, rfl, hb, hh, r⟩
  exact ⟨g, c, cur, rfl, hb, (hk g rfl).trans hh, r⟩
theorem Own.lt {w : World} {base g : Nat} {v : Value} {l : List Fr} (h : Own w base v l) (hg : v.ownBlock = some g) : base ≤ g ∧ g < w.heap.size := World.ownsRow.lt h g hg
theorem Own.next {w w' : World} {base : Nat} {v : Value} {l : List Fr} (h : Own w base v l) (hb : Below w.heap.size w w') : Own w' base v l := h.keep fun g hg => hb.block g (h.lt hg).2
theorem Own.base {w : World} {base base' : Nat} {v : Value} {l : List Fr} (h : Own w base v l) (hb : base' ≤ base) : Own w base' v l := by
  refine ⟨h.1, h.2.imp id ?_⟩
  rintro ⟨g, c, cur, e, hb1, r⟩
  exact ⟨g, c, cur, e, Nat.le_trans hb hb1, r⟩

theorem infoF : (Try.prog.info? 56).map (fun i => (i.zero, i.size, i.bytes)) = some (some (.agg #[.int .i64 0, .int .i64 0, .int .i64 0, .int .i64 0, .int .i64 0, .int .i64 0, .int .i64 0, .int .i64 0, .int .i64 0, .int .i64 0, .int .i64 0, .int .i64 0, .int .i64 0, .int .i64 0, .int .i64 0, .int .i64 0, .int .i64 0, .int .i64 0, .int .i64 0, .int .i64 0, .int .i64 0, .int .i64 0, .int .i64 0, .int .i64 0, .int .i64 0, .int .i64 0, .int .i64 0]), 27, 216) := by kernel_rfl

theorem src_cells {w : World} {ad : Addr} {r : List Fr} (h : FsAt w (some ad) r) : ∀ (j : Nat) (u : Value), (flat r)[j]? = some u → w.cell? (ad.add j) = some u := by
  intro j u hu
  have hj : j < r.length * 27 := by
    have := (List.getElem?_eq_some_iff.1 hu).1
    rwa [flat_length] at this
  obtain ⟨b, off, e, _, h1⟩ := h (j / 27) (by omega)
  obtain rfl := Option.some.inj e
  have f1 := flat_at r (j / 27) (j % 27) (by omega) (Nat.mod_lt _ (by omega))
  have h2 := h1 (j % 27) (Nat.mod_lt _ (by omega))
  rw [show j / 27 * 27 + j % 27 = j from by omega] at f1
  rw [Nat.add_assoc, show j / 27 * 27 + j % 27 = j from by omega] at h2
  rw [Addr.add_lit, h2, ← hu, f1]
/-- A list that lies anywhere, put behind a row of a call's own. -/
theorem run_appF (w : World) (ty : TypeId) (base m c : Nat) (v : Value) (A : Option Addr) (l r : List Fr) (hrow : Own w base v l) (hm : m = r.length) (hA : A = none → r = [] ∧ c = 0) (hsrc : FsAt w A r) (hlen : l.length + r.length ≤ 100000) (hbase : base ≤ w.heap.size) :
    ∃ v' w', (Builtin.append_ #[22, 22] ty #[v, .slice A m c]).run Try.prog w = .ok v' w' ∧ Own w' base v' (l ++ r) ∧ w.grownBy w' v.ownBlock := by
  subst hm
  obtain ⟨i, hi, hz0, hz1, hz2⟩ := info_parts infoF
  cases A with
  | none =>
    obtain ⟨rfl, rfl⟩ := hA rfl
    refine ⟨v, w, run_append_owned_none (P := Try.prog) (w := w) base 22 ty 56 i 27 Try.underlying22 hi v l.length (flat l) hrow, ?_, ⟨rfl, rfl, rfl, Nat.le_refl _, fun _ _ _ => rfl⟩⟩
    rw [List.append_nil]
    exact hrow
  | some ad =>
    obtain ⟨v', w', h1, h2, h3, _⟩ := run_append_own (P := Try.prog) w base 22 ty 56 i _ 27 216 Try.underlying22 hi hz0 hz1 hz2 rfl (by omega) v l.length (flat l) hrow ad r.length c (flat r) (flat_length r) (src_cells hsrc) (flat_oneCell r) (by unfold maxLen; omega) (by omega) hbase
    refine ⟨v', w', h1, ?_, h3⟩
    unfold Own
    rw [List.length_append, flat_append]
    exact h2
theorem wp_appF {o : Oper} {a : Act} {w : World} {K : Act → World → Prop} {Q : Exit → Act → World → Prop} (s x : Operand)
    (ho : o.op = .call { callee := .builtin .append, args := #[s, x], argTypes := #[22, 22] }) (base m c : Nat) (v : Value) (A : Option Addr) (l r : List Fr)
    (hs : a.eval s = v) (hrow : Own w base v l) (hx : a.eval x = .slice A m c) (hm : m = r.length) (hA : A = none → r = [] ∧ c = 0) (hsrc : FsAt w A r) (hlen : l.length + r.length ≤ 100000) (hbase : base ≤ w.heap.size)
    (h : ∀ v' w', Own w' base v' (l ++ r) → w.grownBy w' v.ownBlock → K (a.put o.dst v') w') : o.wp Try.prog a w K Q := by
  obtain ⟨v', w', hr, h2, h3⟩ := run_appF w o.type base m c v A l r hrow hm hA hsrc hlen hbase
  unfold Oper.wp execOp
  simp only [ho, resolve, invoke, builtin, Sem.run_bind, Sem.run_pure, Result.andThen_ok, List.map_toArray, List.map_cons, List.map_nil, hs, hx, hr]
  exact h v' w' h2 h3
theorem wpList_appF {ops : Array Oper} {rest : List Oper} {o : Oper} {a : Act} {w : World} {Q : Exit → Act → World → Prop} (hgd : o.guard = none) (s x : Operand)
    (ho : o.op = .call { callee := .builtin .append, args := #[s, x], argTypes := #[22, 22] }) (base m c : Nat) (v : Value) (A : Option Addr) (l r : List Fr)
    (hs : a.eval s = v) (hrow : Own w base v l) (hx : a.eval x = .slice A m c) (hm : m = r.length) (hA : A = none → r = [] ∧ c = 0) (hsrc : FsAt w A r) (hlen : l.length + r.length ≤ 100000) (hbase : base ≤ w.heap.size)
    (h : ∀ v' w', Own w' base v' (l ++ r) → w.grownBy w' v.ownBlock → wpList Try.prog ops Q rest (a.put o.dst v') w') : wpList Try.prog ops Q (o :: rest) a w :=
  wpList_plain hgd fun _ hK => wp_appF s x ho base m c v A l r hs hrow hx hm hA hsrc hlen hbase fun v' w' h2 h3 => hK _ _ (h v' w' h2 h3)
theorem step_appF {ops : Array Oper} {o : Oper} {a : Act} {w : World} {K : Act → World → Prop} {Q : Exit → Act → World → Prop} {E : Prop} (hgd : o.guard = none) (s x : Operand)
    (ho : o.op = .call { callee := .builtin .append, args := #[s, x], argTypes := #[22, 22] }) (base m c : Nat) (v : Value) (A : Option Addr) (l r : List Fr)
    (hs : a.eval s = v) (hrow : Own w base v l) (hx : a.eval x = .slice A m c) (hm : m = r.length) (hA : A = none → r = [] ∧ c = 0) (hsrc : FsAt w A r) (hlen : l.length + r.length ≤ 100000) (hbase : base ≤ w.heap.size)
    (h : ∀ v' w', Own w' base v' (l ++ r) → w.grownBy w' v.ownBlock → K (a.put o.dst v') w') :
    if Region.wanted o (yielded ops a.tmps) = true then Oper.wp Try.prog o a w K Q else E := by
  have hw : Region.wanted o (yielded ops a.tmps) = true := by simp [Region.wanted, hgd]
  rw [if_pos hw]
  exact wp_appF s x ho base m c v A l r hs hrow hx hm hA hsrc hlen hbase h
/-- A frame in a block of its own. -/
def frB (f : Fr) : Obj := .cells (cellsF f).toArray 56
theorem FCells.of_block {w : World} {g : Nat} {f : Fr} (h : w.heap[g]? = some (frB f)) : FCells w g 0 f := fun k hk => by
  unfold World.cell?
  rw [h, Nat.zero_add]
  unfold frB
  simp only [List.getElem?_toArray]
  exact cellsF_at f hk
theorem FsAt.one {w : World} {g : Nat} {f : Fr} (h : w.heap[g]? = some (frB f)) : FsAt w (some ⟨g, 0, none⟩) [f] := fun j hj => by
  obtain rfl : j = 0 := by simpa using hj
  exact ⟨g, 0, rfl, lt_of_block h, by rw [Nat.zero_mul, Nat.zero_add]; exact FCells.of_block h⟩
theorem Own.cap {w : World} {base n c : Nat} {A : Option Addr} {l : List Fr} (h : Own w base (.slice A n c) l) : l.length ≤ c := by
  rcases h.2 with ⟨e, h0⟩ | ⟨g, cap', cur, e, hb, hh, h1, h2, h3, h4⟩
  · omega
  · injection e with e1 e2 e3
    omega
/-- A frame is loaded whole. -/
theorem loads {w : World} {b i : Nat} {f : Fr} (h : FCells w b i f) : (loadCellsFrom ⟨b, i, none⟩ 0 27 #[]).run Try.prog w = .ok (cellsF f).toArray w := by
  have := run_loadCellsFrom (P := Try.prog) w ⟨b, i, none⟩ (fun k => .int .i64 (num f k)) 27 0 #[] (fun j hj => by rw [Addr.add_lit, Nat.zero_add]; exact h j hj)
  simp only [Nat.zero_add, Array.empty_append] at this
  unfold cellsF
  exact this
/-- A frame is stored whole in the block that was made last. -/
theorem stores {w : World} (c : Array Value) (hc : c.size = 27) (f : Fr) : (storeCells ⟨w.heap.size, 0, none⟩ (cellsF f).toArray.toList 0).run Try.prog (w.alloc (.cells c 56)) = .ok () (w.alloc (frB f)) :=
  run_storeCells_new w 56 c (cellsF f).toArray (by
    have h := infoF
    cases hq : Try.prog.info? 56 with
    | none => rw [hq] at h; cases h
    | some i =>
      rw [hq] at h
      simp only [Option.map_some, Option.some.injEq, Prod.mk.injEq] at h ⊢
      rw [h.2.1, List.size_toArray, cellsF_length]) (by rw [hc, List.size_toArray, cellsF_length]) (by
    rw [Array.all_eq_true_iff_forall_mem]
    intro u hu
    exact cellsF_one f u (by simpa using hu))
end Go.Proofs.Ytlkcpplpjjbiaaa.frames
