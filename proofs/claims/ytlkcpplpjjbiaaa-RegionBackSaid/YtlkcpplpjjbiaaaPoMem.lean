/-
  Shares as they lie in memory, wherever they came from; a row of them that a call owns, and what append makes of it; the document's units; the program's pool. No condition. Its laws printed by tools/kitgen.py.
-/
import Derived.Test.YtlkcpplpjjbiaaaObjKit
import Derived.Test.YtlkcpplpjjbiaaaPoPlain
import Derived.IntWalk
import Derived.LoopTactic
import Derived.OwnWalk
import Derived.Deep.RegionLaw
import Derived.Deep.AppendLies
import Derived.Laws.AppendOwnNone
import Derived.Maps.AppendAt
import Derived.Deep.QuietTactic
import Derived.BigQuiet
import Derived.Deep.DeepCutAuto
import Derived.Laws.Cells
import Derived.KernelRfl
namespace Go.Proofs.Ytlkcpplpjjbiaaa.pol
open Go.RowKit Go.ChangeShapes
open Go.Proofs.Ytlkcpplpjjbiaaa.obj
set_option linter.unusedVariables false
set_option linter.unusedSimpArgs false

abbrev E := Int × Int
/-- Shares, cell by cell. -/
def flat : List E → List Value
  | [] => []
  | e :: r => .int .i64 e.1 :: .int .i64 e.2 :: flat r
theorem flat_length : ∀ l : List E, (flat l).length = l.length * 2
  | [] => rfl
  | e :: r => by
    have := flat_length r
    simp [flat, this]
    omega
theorem flat_append : ∀ a b : List E, flat (a ++ b) = flat a ++ flat b
  | [], b => rfl
  | e :: r, b => by
    have := flat_append r b
    simp [flat, this]
theorem flat_get : ∀ (l : List E) (k : Nat), k < l.length → (flat l)[k * 2]? = some (.int .i64 (l.getD k (0, 0)).1) ∧ (flat l)[k * 2 + 1]? = some (.int .i64 (l.getD k (0, 0)).2)
  | [], k, h => absurd h (by simp)
  | e :: r, 0, _ => by simp [flat]
  | e :: r, k + 1, h => by
    have h1 : k < r.length := by simpa using h
    have := flat_get r k h1
    rw [show (k + 1) * 2 = k * 2 + 2 by omega, show k * 2 + 2 + 1 = k * 2 + 1 + 2 by omega]
    simpa [flat] using this
theorem flat_oneCell (l : List E) : ∀ u ∈ flat l, u.oneCell' = true := by
  induction l with
  | nil => simp [flat]
  | cons e r ih =>
    intro u hu
    simp only [flat, List.mem_cons] at hu
    rcases hu with rfl | rfl | hu
    · rfl
    · rfl
    · exact ih u hu
/-- A list of shares, one behind the other, from where a slice begins, in a block of which B holds. -/
def SAt (w : World) (B : Nat → Prop) (A : Option Addr) (l : List E) : Prop := ∀ j, j < l.length → ∃ b off, A = some ⟨b, off, none⟩ ∧ B b ∧ b < w.heap.size ∧ w.cell? ⟨b, off + j * 2, none⟩ = some (.int .i64 (l.getD j (0, 0)).1) ∧ w.cell? ⟨b, off + j * 2 + 1, none⟩ = some (.int .i64 (l.getD j (0, 0)).2)
theorem SAt.keep {w w' : World} {B : Nat → Prop} {A : Option Addr} {l : List E} (h : SAt w B A l) (hk : ∀ b, B b → b < w.heap.size → w'.heap[b]? = w.heap[b]?) (hs : w.heap.size ≤ w'.heap.size) : SAt w' B A l := fun j hj => by
  obtain ⟨b, off, h1, h0, h2, h3, h4⟩ := h j hj
  have hb := hk b h0 h2
  exact ⟨b, off, h1, h0, Nat.lt_of_lt_of_le h2 hs, (World.cell?_of_block (a := ⟨b, off + j * 2, none⟩) hb).trans h3, (World.cell?_of_block (a := ⟨b, off + j * 2 + 1, none⟩) hb).trans h4⟩
theorem SAt.next {w w' : World} {B : Nat → Prop} {A : Option Addr} {l : List E} (h : SAt w B A l) (hb : Below w.heap.size w w') : SAt w' B A l := h.keep (fun b _ h2 => hb.block b h2) hb.size
theorem SAt.only {w w' : World} {B : Nat → Prop} {g : Nat} {A : Option Addr} {l : List E} (h : SAt w B A l) (ho : Only g w w') (hg : ∀ b, B b → b ≠ g) : SAt w' B A l := h.keep (fun b h1 h2 => ho.block b h2 (hg b h1)) ho.size
theorem SAt.base {w : World} {B B' : Nat → Prop} {A : Option Addr} {l : List E} (h : SAt w B A l) (hb : ∀ b, B b → b < w.heap.size → B' b) : SAt w B' A l := fun j hj => by
  obtain ⟨b, off, h1, h0, h2⟩ := h j hj
  exact ⟨b, off, h1, hb b h0 h2.1, h2⟩
theorem SAt.nil (w : World) (B : Nat → Prop) (A : Option Addr) : SAt w B A [] := fun j hj => absurd hj (Nat.not_lt_zero j)
/-- A slice's value of shares, nil or a row of the call's own. -/
def Own (w : World) (base : Nat) (v : Value) (l : List E) : Prop := w.ownsRow base 42 2 v l.length (flat l)
theorem Own.nil (w : World) (base : Nat) : Own w base (.slice none 0 0) [] := World.ownsRow_nil ..
theorem Own.empty {w : World} {g : Nat} (h : w.heap[g]? = some (.cells #[] 42 (0, 0))) : Own w g (.slice (some ⟨g, 0, none⟩) 0 0) [] :=
  ⟨rfl, .inr ⟨g, 0, #[], rfl, Nat.le_refl _, h, Nat.le_refl _, Nat.zero_le _, rfl, rfl⟩⟩
theorem Own.slice {w : World} {base : Nat} {v : Value} {l : List E} (h : Own w base v l) : ∃ A cap, v = .slice A l.length cap := by
  rcases h.2 with ⟨rfl, h0⟩ | ⟨g, cap, cur, rfl, _⟩
  · exact ⟨none, 0, by rw [h0]⟩
  · exact ⟨_, _, rfl⟩
theorem Own.at {w : World} {base cap : Nat} {A : Option Addr} {l : List E} {n : Nat} (h : Own w base (.slice A n cap) l) : SAt w (fun b => base ≤ b) A l := by
  intro j hj
  rcases h.2 with ⟨e, h0⟩ | ⟨g, cap', cur, e, hb, hh, _⟩
  · omega
  · injection e with e1 e2 e3
    subst e1
    obtain ⟨f0, f1⟩ := flat_get l j hj
    have c0 := World.ownsRow.cells h (g := g) rfl _ _ f0
    have c1 := World.ownsRow.cells h (g := g) rfl _ _ f1
    rw [Addr.add_lit] at c0 c1
    exact ⟨g, 0, rfl, hb, lt_of_block hh, c0, by rw [Nat.add_assoc]; exact c1⟩
theorem Own.keep {w w' : World} {base : Nat} {v : Value} {l : List E} (h : Own w base v l) (hk : ∀ g, v.ownBlock = some g → w'.heap[g]? = w.heap[g]?) : Own w' base v l := by
  refine ⟨h.1, h.2.imp id ?_⟩
  rintro ⟨g, c, cur, rfl, hb, hh, r⟩
  exact ⟨g, c, cur, rfl, hb, (hk g rfl).trans hh, r⟩
theorem Own.lt {w : World} {base g : Nat} {v : Value} {l : List E} (h : Own w base v l) (hg : v.ownBlock = some g) : base ≤ g ∧ g < w.heap.size := World.ownsRow.lt h g hg
theorem Own.next {w w' : World} {base : Nat} {v : Value} {l : List E} (h : Own w base v l) (hb : Below w.heap.size w w') : Own w' base v l := h.keep fun g hg => hb.block g (h.lt hg).2
theorem Own.base {w : World} {base base' : Nat} {v : Value} {l : List E} (h : Own w base v l) (hb : base' ≤ base) : Own w base' v l := by
  refine ⟨h.1, h.2.imp id ?_⟩
  rintro ⟨g, c, cur, e, hb1, r⟩
  exact ⟨g, c, cur, e, Nat.le_trans hb hb1, r⟩
theorem infoS : (Try.prog.info? 42).map (fun i => (i.zero, i.size, i.bytes)) = some (some (.agg #[.int .i64 0, .int .i64 0]), 2, 16) := by kernel_rfl
theorem src_cells {w : World} {B : Nat → Prop} {ad : Addr} {r : List E} (h : SAt w B (some ad) r) : ∀ (j : Nat) (u : Value), (flat r)[j]? = some u → w.cell? (ad.add j) = some u := by
  intro j u hu
  have hj : j < r.length * 2 := by
    have := (List.getElem?_eq_some_iff.1 hu).1
    rwa [flat_length] at this
  obtain ⟨b, off, e, _, _, h0, h1⟩ := h (j / 2) (by omega)
  obtain rfl := Option.some.inj e
  obtain ⟨f0, f1⟩ := flat_get r (j / 2) (by omega)
  rw [Addr.add_lit]
  by_cases hp : j % 2 = 0
  · have e : j / 2 * 2 = j := by omega
    rw [e] at h0 f0
    rw [h0, ← hu, f0]
  · have e : j / 2 * 2 + 1 = j := by omega
    rw [Nat.add_assoc, e] at h1
    rw [e] at f1
    rw [h1, ← hu, f1]
/-- A list that lies anywhere, put behind a row of a call's own. -/
theorem run_appS (w : World) (ty : TypeId) (base m c : Nat) (B : Nat → Prop) (v : Value) (ad : Addr) (l r : List E) (hrow : Own w base v l) (hm : m = r.length) (hsrc : SAt w B (some ad) r) (hlen : l.length + r.length ≤ 100000) (hbase : base ≤ w.heap.size) :
    ∃ v' w', (Builtin.append_ #[29, 29] ty #[v, .slice (some ad) m c]).run Try.prog w = .ok v' w' ∧ Own w' base v' (l ++ r) ∧ w.grownBy w' v.ownBlock := by
  subst hm
  obtain ⟨i, hi, hz0, hz1, hz2⟩ := info_parts infoS
  obtain ⟨v', w', h1, h2, h3, _⟩ := run_append_own (P := Try.prog) w base 29 ty 42 i _ 2 16 Try.underlying29 hi hz0 hz1 hz2 rfl (by omega) v l.length (flat l) hrow ad r.length c (flat r) (flat_length r) (src_cells hsrc) (flat_oneCell r) (by unfold maxLen; omega) (by omega) hbase
  refine ⟨v', w', h1, ?_, h3⟩
  unfold Own
  rw [List.length_append, flat_append]
  exact h2
theorem wp_appS {o : Oper} {a : Act} {w : World} {K : Act → World → Prop} {Q : Exit → Act → World → Prop} (s x : Operand)
    (ho : o.op = .call { callee := .builtin .append, args := #[s, x], argTypes := #[29, 29] }) (base m c : Nat) (B : Nat → Prop) (v : Value) (ad : Addr) (l r : List E)
    (hs : a.eval s = v) (hrow : Own w base v l) (hx : a.eval x = .slice (some ad) m c) (hm : m = r.length) (hsrc : SAt w B (some ad) r) (hlen : l.length + r.length ≤ 100000) (hbase : base ≤ w.heap.size)
    (h : ∀ v' w', Own w' base v' (l ++ r) → w.grownBy w' v.ownBlock → K (a.put o.dst v') w') : o.wp Try.prog a w K Q := by
  obtain ⟨v', w', hr, h2, h3⟩ := run_appS w o.type base m c B v ad l r hrow hm hsrc hlen hbase
  unfold Oper.wp execOp
  simp only [ho, resolve, invoke, builtin, Sem.run_bind, Sem.run_pure, Result.andThen_ok, List.map_toArray, List.map_cons, List.map_nil, hs, hx, hr]
  exact h v' w' h2 h3
theorem wpList_appS {ops : Array Oper} {rest : List Oper} {o : Oper} {a : Act} {w : World} {Q : Exit → Act → World → Prop} (hgd : o.guard = none) (s x : Operand)
    (ho : o.op = .call { callee := .builtin .append, args := #[s, x], argTypes := #[29, 29] }) (base m c : Nat) (B : Nat → Prop) (v : Value) (ad : Addr) (l r : List E)
    (hs : a.eval s = v) (hrow : Own w base v l) (hx : a.eval x = .slice (some ad) m c) (hm : m = r.length) (hsrc : SAt w B (some ad) r) (hlen : l.length + r.length ≤ 100000) (hbase : base ≤ w.heap.size)
    (h : ∀ v' w', Own w' base v' (l ++ r) → w.grownBy w' v.ownBlock → wpList Try.prog ops Q rest (a.put o.dst v') w') : wpList Try.prog ops Q (o :: rest) a w :=
  wpList_plain hgd fun _ hK => wp_appS s x ho base m c B v ad l r hs hrow hx hm hsrc hlen hbase fun v' w' h2 h3 => hK _ _ (h v' w' h2 h3)
theorem SAt.one {w : World} {g : Nat} {e : E} (h : w.heap[g]? = some (.cells #[.int .i64 e.1, .int .i64 e.2] 42 (0, 0))) : SAt w (fun b => g ≤ b) (some ⟨g, 0, none⟩) [e] := fun j hj => by
  obtain rfl : j = 0 := by simpa using hj
  obtain ⟨h0, h1⟩ := cells2 h
  exact ⟨g, 0, rfl, Nat.le_refl _, lt_of_block h, h0, h1⟩
/-- A row of the call's own, behind one more share. -/
theorem below_grown {B : Nat} {a w w' : World} {v : Value} (h : Below B a w) (hg : w.grownBy w' v.ownBlock) (hb : ∀ j, v.ownBlock = some j → B ≤ j) (hB : B ≤ w.heap.size) : Below B a w' :=
  ⟨hg.os.trans h.os, hg.tape.trans h.tape, hg.output.trans h.output, Nat.le_trans h.size hg.size, fun k hk => (hg.block k (by omega) (fun e => by have := hb k e.symm; omega)).trans (h.block k hk)⟩

/-- The document's units, as a value: how many, and a slice. -/
structure Rx where
  t : Int
  A : Option Addr
  n : Nat
  c : Nat
/-- Its cells, its block, its value. -/
def rxC (m : Rx) : List Value := [.int .i64 m.t, .slice m.A m.n m.c]
def rxV (m : Rx) : Value := .agg (rxC m).toArray
theorem rx_all (m : Rx) : (rxC m).toArray.all (·.oneCell') = true := by
  rw [Array.all_eq_true_iff_forall_mem]
  intro u hu
  unfold rxC at hu
  simp only [List.mem_toArray, List.mem_cons, List.not_mem_nil, or_false] at hu
  rcases hu with rfl | rfl <;> rfl
def rxZ : Rx := ⟨0, none, 0, 0⟩
section
variable {ops : Array Oper} {rest : List Oper} {o : Oper} {a : Act} {w : World} {Q : Exit → Act → World → Prop} {K : Act → World → Prop} {S : World → Prop} {E : Prop}
end
/-- The program's pool: how many, how many are free, how many each thread has. -/
structure Py where
  t : Int
  f : Int
  h : List Int
/-- Its cells, its block. -/
def pyC (m : Py) : List Value := .int .i64 m.t :: .int .i64 m.f :: (List.range 64).map (fun k => .int .i64 (m.h.getD k 0))
def pyV (m : Py) : Value := .agg (pyC m).toArray
def hasC (h : List Int) : List Value := (List.range 64).map (fun k => .int .i64 (h.getD k 0))
theorem hasC_at (h : List Int) {k : Nat} (hk : k < 64) : (hasC h)[k]? = some (.int .i64 (h.getD k 0)) := by
  unfold hasC
  rw [List.getElem?_map, List.getElem?_range hk]
  rfl
theorem hasC_length (h : List Int) : (hasC h).length = 64 := by
  unfold hasC
  rw [List.length_map, List.length_range]
theorem pyC_length (m : Py) : (pyC m).length = 66 := by
  show (hasC m.h).length + 1 + 1 = 66
  rw [hasC_length]
theorem py_all (m : Py) : (pyC m).toArray.all (·.oneCell') = true := by
  rw [Array.all_eq_true_iff_forall_mem]
  intro u hu
  unfold pyC at hu
  simp only [List.mem_toArray, List.mem_cons, List.mem_map] at hu
  rcases hu with rfl | rfl | ⟨k, _, rfl⟩ <;> rfl
theorem has_set (h : List Int) (hl : h.length = 64) (k : Nat) (v : Int) : (hasC h).set k (.int .i64 v) = hasC (h.set k v) := by
  apply List.ext_getElem?
  intro j
  rcases Nat.lt_or_ge j 64 with hj | hj
  · rw [hasC_at _ hj]
    by_cases e : k = j
    · subst e
      rw [List.getElem?_set_self (by rw [hasC_length]; exact hj), List.getD_eq_getElem?_getD, List.getElem?_set_self (by omega)]
      rfl
    · rw [List.getElem?_set_ne e, hasC_at _ hj, List.getD_eq_getElem?_getD, List.getD_eq_getElem?_getD, List.getElem?_set_ne e]
  · rw [List.getElem?_eq_none (by rw [List.length_set, hasC_length]; exact hj), List.getElem?_eq_none (by rw [hasC_length]; exact hj)]
section
variable {ops : Array Oper} {rest : List Oper} {o : Oper} {a : Act} {w : World} {Q : Exit → Act → World → Prop}
end
end Go.Proofs.Ytlkcpplpjjbiaaa.pol
