/-
  How what is due lies in memory: a block of two cells, one of the heap's entries, and a map; what a call may turn. No condition.
-/
import Derived.Test.YtfhkaedpbandiaaProg
import Derived.Test.YtfhkaedpbandiaaTList
import Derived.OneCell
import Derived.Laws.Rows
import Derived.Laws.OwnMore
import Derived.Maps.OwnSet
import Derived.WalkKit
import Derived.Lib.Hide
import Derived.Deep.Draws
import Derived.Deep.AppendLies
namespace Go.Proofs.Ytfhkaedpbandiaa.timer
open Go.RowKit Go.Maps

theorem g_def (l : List E) (k : Nat) : l.getD k (0, 0) = g l k := rfl
/-- Entries as they lie, cell by cell. -/
def flat : List E → List Value
  | [] => []
  | e :: r => .int .i64 e.1 :: .int .i64 e.2 :: flat r
theorem flat_length : ∀ l : List E, (flat l).length = l.length * 2
  | [] => rfl
  | e :: r => by
    have := flat_length r
    simp [flat, this]
    omega
theorem flat_append : ∀ a b : List E, flat (a ++ b) = flat a ++ flat b
  | [], b => rfl
  | e :: r, b => by
    have := flat_append r b
    simp [flat, this]
theorem flat_get : ∀ (l : List E) (k : Nat), k < l.length → (flat l)[k * 2]? = some (.int .i64 (g l k).1) ∧ (flat l)[k * 2 + 1]? = some (.int .i64 (g l k).2)
  | [], k, h => absurd h (by simp)
  | e :: r, 0, _ => by simp [flat, g]
  | e :: r, k + 1, h => by
    have h1 : k < r.length := by simpa using h
    have := flat_get r k h1
    rw [show (k + 1) * 2 = k * 2 + 2 by omega, show k * 2 + 2 + 1 = k * 2 + 1 + 2 by omega]
    simpa [flat, g] using this
theorem flat_set : ∀ (l : List E) (k : Nat) (e : E), ((flat l).set (k * 2) (.int .i64 e.1)).set (k * 2 + 1) (.int .i64 e.2) = flat (l.set k e)
  | [], k, e => by simp [flat]
  | x :: r, 0, e => by simp [flat]
  | x :: r, k + 1, e => by
    have := flat_set r k e
    rw [show (k + 1) * 2 = k * 2 + 2 by omega, show k * 2 + 2 + 1 = k * 2 + 1 + 2 by omega]
    simpa [flat] using this
theorem flat_oneCell (l : List E) : ∀ u ∈ flat l, u.oneCell' = true := by
  induction l with
  | nil => simp [flat]
  | cons e r ih =>
    intro u hu
    simp only [flat, List.mem_cons] at hu
    rcases hu with rfl | rfl | hu
    · rfl
    · rfl
    · exact ih u hu
theorem flat_take : ∀ (l r : List E), (flat (l ++ r)).take (l.length * 2) = flat l := by
  intro l r
  rw [flat_append, ← flat_length, List.take_left]

/-- Of the blocks that were there none has turned but x, y and z; no block has gone. -/
structure Frm (x y z : Nat) (w w' : World) : Prop where
  os : w'.os = w.os
  tape : w'.tape = w.tape
  output : w'.output = w.output
  size : w.heap.size ≤ w'.heap.size
  block : ∀ k, k < w.heap.size → k ≠ x → k ≠ y → k ≠ z → w'.heap[k]? = w.heap[k]?
theorem Frm.refl (x y z : Nat) (w : World) : Frm x y z w w := ⟨rfl, rfl, rfl, Nat.le_refl _, fun _ _ _ _ _ => rfl⟩
/-- The second call may turn what is new besides. -/
theorem Frm.trans {x y z x' y' z' : Nat} {a b c : World} (h : Frm x y z a b) (k : Frm x' y' z' b c) (hx : x' = x ∨ x' = y ∨ x' = z ∨ a.heap.size ≤ x') (hy : y' = x ∨ y' = y ∨ y' = z ∨ a.heap.size ≤ y') (hz : z' = x ∨ z' = y ∨ z' = z ∨ a.heap.size ≤ z') : Frm x y z a c :=
  ⟨k.os.trans h.os, k.tape.trans h.tape, k.output.trans h.output, Nat.le_trans h.size k.size, fun i hi h1 h2 h3 =>
    (k.block i (Nat.lt_of_lt_of_le hi h.size) (by omega) (by omega) (by omega)).trans (h.block i hi h1 h2 h3)⟩
theorem Frm.and {x y z : Nat} {a b c : World} (h : Frm x y z a b) (k : Frm x y z b c) : Frm x y z a c := h.trans k (.inl rfl) (.inr (.inl rfl)) (.inr (.inr (.inl rfl)))
theorem Frm.drewN {x y z : Nat} {a w : World} (h : Frm x y z a w) (n : Nat) : Frm x y z a (w.drewN n) := ⟨h.os, h.tape, h.output, h.size, h.block⟩
theorem Frm.drew {x y z : Nat} {a w : World} (h : Frm x y z a w) : Frm x y z a w.drew := ⟨h.os, h.tape, h.output, h.size, h.block⟩
theorem Frm.alloc {x y z : Nat} {a w : World} (h : Frm x y z a w) (o : Obj) : Frm x y z a (w.alloc o) :=
  ⟨h.os, h.tape, h.output, Nat.le_trans h.size (by simp), fun k hk h1 h2 h3 => (Below.heap_alloc _ _ _ (Nat.lt_of_lt_of_le hk h.size)).trans (h.block k hk h1 h2 h3)⟩
theorem Frm.setCell {x y z : Nat} {a w : World} (h : Frm x y z a w) {p : Addr} (hp : p.block = x ∨ p.block = y ∨ p.block = z ∨ a.heap.size ≤ p.block) (u : Value) : Frm x y z a (w.setCell p u) :=
  ⟨h.os, h.tape, h.output, Nat.le_trans h.size (by simp [World.setCell]), fun k hk h1 h2 h3 => (Below.heap_setCell _ _ _ _ (by omega)).trans (h.block k hk h1 h2 h3)⟩
theorem Frm.of_below {x y z : Nat} {w w' : World} (h : Below w.heap.size w w') : Frm x y z w w' := ⟨h.os, h.tape, h.output, h.size, fun k hk _ _ _ => h.block k hk⟩
theorem Frm.grown {x y z b : Nat} {a w w' : World} (h : Frm x y z a w) (k : w.grownBy w' (some b)) (hb : b = x ∨ b = y ∨ b = z ∨ a.heap.size ≤ b) : Frm x y z a w' :=
  ⟨k.os.trans h.os, k.tape.trans h.tape, k.output.trans h.output, Nat.le_trans h.size k.size, fun i hi h1 h2 h3 =>
    (k.block i (Nat.lt_of_lt_of_le hi h.size) (by simp; omega)).trans (h.block i hi h1 h2 h3)⟩
theorem Frm.below {x y z B : Nat} {w w' : World} (h : Frm x y z w w') (hx : B ≤ x) (hy : B ≤ y) (hz : B ≤ z) (hB : B ≤ w.heap.size) : Below B w w' :=
  ⟨h.os, h.tape, h.output, h.size, fun k hk => h.block k (by omega) (by omega) (by omega) (by omega)⟩
theorem below_drewN {B : Nat} {a w : World} (h : Below B a w) (n : Nat) : Below B a (w.drewN n) := ⟨h.os, h.tape, h.output, h.size, h.block⟩

/-- Of block b from its head on, the entries l; T: their type. -/
def Row (T : TypeId) (w : World) (base b cap : Nat) (l : List E) : Prop := w.ownsRow base T 2 (.slice (some ⟨b, 0, none⟩) l.length cap) l.length (flat l)
theorem Row.lt {T : TypeId} {w : World} {base b cap : Nat} {l : List E} (h : Row T w base b cap l) : base ≤ b ∧ b < w.heap.size := World.ownsRow.lt h b rfl
theorem Row.cap {T : TypeId} {w : World} {base b cap : Nat} {l : List E} (h : Row T w base b cap l) : l.length ≤ cap ∧ cap ≤ maxLen := by
  rcases h.2 with ⟨h, _⟩ | ⟨_, _, _, h, _, _, h1, h2, _⟩
  · simp at h
  · simp at h
    omega
theorem Row.cells {T : TypeId} {w : World} {base b cap : Nat} {l : List E} (h : Row T w base b cap l) {k : Nat} (hk : k < l.length) :
    w.cell? ⟨b, k * 2, none⟩ = some (.int .i64 (g l k).1) ∧ w.cell? ⟨b, k * 2 + 1, none⟩ = some (.int .i64 (g l k).2) ∧ w.frozen? ⟨b, k * 2, none⟩ = false ∧ w.frozen? ⟨b, k * 2 + 1, none⟩ = false := by
  obtain ⟨h0, h1⟩ := flat_get l k hk
  refine ⟨?_, ?_, World.ownsRow.frozenAt h _, World.ownsRow.frozenAt h _⟩
  · rw [World.ownsRow.cellAt h _ (by omega), h0]
  · rw [World.ownsRow.cellAt h _ (by omega), h1]
theorem Row.keep {T : TypeId} {w w' : World} {base b cap : Nat} {l : List E} (h : Row T w base b cap l) (hk : w'.heap[b]? = w.heap[b]?) : Row T w' base b cap l := by
  refine ⟨h.1, h.2.imp id ?_⟩
  rintro ⟨g1, c1, cur, e, hb, hh, r⟩
  refine ⟨g1, c1, cur, e, hb, ?_, r⟩
  simp only [Value.slice.injEq, Option.some.injEq, Addr.mk.injEq, and_true] at e
  rw [← e.1, hk, e.1]
  exact hh
theorem Row.base {T : TypeId} {w : World} {base base' b cap : Nat} {l : List E} (h : Row T w base b cap l) (hb : base' ≤ base) : Row T w base' b cap l := by
  refine ⟨h.1, h.2.imp id ?_⟩
  rintro ⟨g1, c1, cur, e, hb1, r⟩
  exact ⟨g1, c1, cur, e, Nat.le_trans hb hb1, r⟩
theorem Row.nil {T : TypeId} {w : World} {b : Nat} (h : w.heap[b]? = some (.cells #[] T (0, 0))) : Row T w b b 0 [] :=
  ⟨rfl, .inr ⟨b, 0, #[], rfl, Nat.le_refl _, h, Nat.le_refl _, Nat.zero_le _, rfl, rfl⟩⟩
theorem Row.set {T : TypeId} {w : World} {base b cap : Nat} {l : List E} (h : Row T w base b cap l) (k : Nat) (e : E) :
    Row T ((w.setCell ⟨b, k * 2, none⟩ (.int .i64 e.1)).setCell ⟨b, k * 2 + 1, none⟩ (.int .i64 e.2)) base b cap (l.set k e) := by
  unfold Row
  rw [List.length_set, ← flat_set]
  exact ((World.ownsRow.stored h _ _).1.stored _ _).1
/-- The first ones alone. -/
theorem Row.front {T : TypeId} {w : World} {base b cap : Nat} {l r : List E} (h : Row T w base b cap (l ++ r)) : Row T w base b cap l := by
  refine ⟨flat_length l, ?_⟩
  rcases h.2 with ⟨h, _⟩ | ⟨g1, c1, cur, e, hb, hh, h1, h2, h3, h4⟩
  · simp at h
  · simp only [Value.slice.injEq, Option.some.injEq, Addr.mk.injEq, and_true, List.length_append] at e
    obtain ⟨rfl, _, rfl⟩ := e
    refine .inr ⟨b, cap, cur, rfl, hb, hh, by rw [List.length_append] at h1; omega, h2, h3, ?_⟩
    rw [← flat_take l r, ← h4, List.take_take, List.length_append]
    congr 1
    omega

def Wf (x : Int) : Prop := (Lit.int .i64 x).wf = true
theorem wf_nat {k : Nat} (h : k ≤ 4096) : Wf (k : Int) := WalkArith.wf_i64 (by omega)
theorem law3 : Keyed Try.prog 3 := int_keyed Try.underlying3
theorem zero3 (w : World) : (zeroValue 3).run Try.prog w = .ok (.int .i64 0) w := by kernel_rfl

/-- The map D says where each id stands. -/
def Rep (D : DataW Unit) (p : Int → Option Nat) : Prop := ∀ x, Wf x → Maps.has D (.int .i64 x) = (p x).isSome ∧ ∀ k, p x = some k → D.atKey (.int .i64 x) (.lit (.int .i64 0)) = .lit (.int .i64 (k : Int))
def MapAt (w : World) (b N : Nat) (p : Int → Option Nat) : Prop := ∃ D : DataW Unit, w.ownsMap Try.prog 3 (plainElem Try.prog 3) b N D ∧ Rep D p ∧ Maps.size D = N
theorem MapAt.lt {w : World} {b N : Nat} {p : Int → Option Nat} (h : MapAt w b N p) : b < w.heap.size := by
  obtain ⟨D, h, _⟩ := h
  exact h.lt
theorem MapAt.keep {w w' : World} {b N : Nat} {p : Int → Option Nat} (h : MapAt w b N p) (hk : w'.heap[b]? = w.heap[b]?) : MapAt w' b N p := by
  obtain ⟨D, ⟨es, clock, hb, r⟩, hr⟩ := h
  exact ⟨D, ⟨es, clock, hk.trans hb, r⟩, hr⟩
theorem MapAt.made (w : World) : MapAt (w.alloc (.map #[] 0)) w.heap.size 0 (fun _ => none) :=
  ⟨.map [], World.ownsMap_made _ _ _ _, fun x _ => ⟨rfl, fun k hk => by simp at hk⟩, rfl⟩
theorem owns_size {w : World} {b n : Nat} {D : DataW Unit} {P : Program} {k : TypeId} {R : Value → Option (DataW Unit × List MemPlace)} (h : w.ownsMap P k R b n D) : w.ownsMap P k R b (Maps.size D) D := by
  obtain ⟨es, clock, hb, F, hs, rfl⟩ := h
  refine ⟨es, clock, hb, F, ?_, rfl⟩
  simp [Maps.size, length_sorted]
theorem key_int {x : Int} (h : Wf x) : keyOf Try.prog 3 (.int .i64 x) = some (.int .i64 x) := keyOf_int_mk Try.underlying3 h
theorem lit_ne {x y : Int} (h : y ≠ x) : (Lit.int .i64 y) ≠ .int .i64 x := by simpa using h
theorem lit_key {x : Int} (h : Wf x) : WideAt.IsKeyLit (.int .i64 x) := law3.key (key_int h)

theorem MapAt.look {w : World} {b N : Nat} {p : Int → Option Nat} (h : MapAt w b N p) {x : Int} (hx : Wf x) :
    (∀ k, p x = some k → (Instr.lookup 25 (.map (some b)) (.int .i64 x) true).run Try.prog w = .ok (.tuple #[.int .i64 (k : Int), .bool true]) w) ∧
    (p x = none → (Instr.lookup 25 (.map (some b)) (.int .i64 x) true).run Try.prog w = .ok (.tuple #[.int .i64 0, .bool false]) w) := by
  obtain ⟨D, hown, hr, _⟩ := h
  obtain ⟨v, ps, hrun, hv⟩ := hown.look_ok law3 Try.underlying25 (zero3 w) (plainElem_int Try.underlying3 (by decide)) (key_int hx)
  obtain ⟨c, rfl, hc, _⟩ := plainElem_int_inv Try.underlying3 hv
  obtain ⟨r1, r2⟩ := hr x hx
  have hc1 := congrArg Prod.fst hc
  simp only at hc1
  refine ⟨fun k hk => ?_, fun hk => ?_⟩
  · rw [hrun, r1, hk]
    rw [r2 k hk] at hc1
    simp only [DataW.lit.injEq, Lit.int.injEq, true_and] at hc1
    rw [← hc1]
    rfl
  · rw [hk] at r1
    rw [Maps.atKey_of_not_has r1] at hc1
    simp only [DataW.lit.injEq, Lit.int.injEq, true_and] at hc1
    rw [hrun, r1, ← hc1]
    rfl
theorem MapAt.put {w : World} {b N : Nat} {p : Int → Option Nat} (h : MapAt w b N p) (hN : N ≤ 4096) {x : Int} (hx : Wf x) {k : Nat} (hk : k ≤ 4096) :
    ∃ w', (Instr.mapUpdate 25 (.map (some b)) (.int .i64 x) (.int .i64 (k : Int))).run Try.prog w = .ok () w' ∧ MapAt w' b (cnt p N x) (upd p x (some k)) ∧ w.grownBy w' (some b) := by
  obtain ⟨D, hown, hr, hs⟩ := h
  obtain ⟨w', hrun, h1, h2⟩ := hown.store law3 Try.underlying25 (by unfold maxLen; omega) (key_int hx) (plainElem_int Try.underlying3 (wf_nat hk))
  refine ⟨w', hrun, ⟨D.put (.int .i64 x) (.lit (.int .i64 (k : Int))), ?_, ?_, ?_⟩, h2.grown⟩
  · have h3 := owns_size h1
    unfold cnt
    rw [Maps.size_put (hown.tidy law3), (hr x hx).1, hs] at h3
    exact h3
  · intro y hy
    by_cases hyx : y = x
    · subst hyx
      rw [Maps.has_put_same hown.isMap (lit_key hx), upd_same]
      exact ⟨rfl, fun j hj => by rw [Maps.atKey_put_same hown.isMap (lit_key hx), ← Option.some.inj hj]⟩
    · rw [Maps.has_put_other (lit_ne hyx), upd_other _ _ hyx]
      refine ⟨(hr y hy).1, fun j hj => ?_⟩
      rw [Maps.atKey_put_other (lit_ne hyx)]
      exact (hr y hy).2 j hj
  · unfold cnt
    rw [Maps.size_put (hown.tidy law3), (hr x hx).1, hs]
theorem MapAt.del {w : World} {b N : Nat} {p : Int → Option Nat} (h : MapAt w b N p) {x : Int} (hx : Wf x) {k : Nat} (hk : p x = some k) (ty : TypeId) :
    ∃ w', (Builtin.delete_ #[25, 3] ty #[.map (some b), .int .i64 x]).run Try.prog w = .ok (.tuple #[]) w' ∧ MapAt w' b (N - 1) (upd p x none) ∧ w.grownBy w' (some b) := by
  obtain ⟨D, hown, hr, hs⟩ := h
  obtain ⟨w', hrun, h1, h2⟩ := hown.drop law3 Try.underlying25 (key_int hx) ty
  have hsz : Maps.size (D.del (.int .i64 x)) = N - 1 := by
    have := Maps.size_del (k := .int .i64 x) (hown.tidy law3)
    rw [(hr x hx).1, hk, hs] at this
    simp at this
    omega
  refine ⟨w', hrun, ⟨D.del (.int .i64 x), ?_, ?_, hsz⟩, h2.grown⟩
  · have h3 := owns_size h1
    rw [hsz] at h3
    exact h3
  · intro y hy
    by_cases hyx : y = x
    · subst hyx
      rw [Maps.has_del_same, upd_same]
      exact ⟨rfl, fun j hj => by simp at hj⟩
    · rw [Maps.has_del_other (lit_ne hyx), upd_other _ _ hyx]
      refine ⟨(hr y hy).1, fun j hj => ?_⟩
      rw [Maps.atKey_del_other (lit_ne hyx)]
      exact (hr y hy).2 j hj

/-- What is due at block bt: its heap's entries h in block bh, the places p of N ids in the map bm. -/
structure Has (w : World) (bt bh bm cap : Nat) (h : List E) (p : Int → Option Nat) (N : Nat) : Prop where
  tim : w.heap[bt]? = some (.cells #[.slice (some ⟨bh, 0, none⟩) h.length cap, .map (some bm)] 27 (0, 0))
  row : Row 59 w 0 bh cap h
  map : MapAt w bm N p
  ne1 : bh ≠ bt
  ne2 : bm ≠ bt
  ne3 : bm ≠ bh
  wf : ∀ k, k < h.length → Wf (g h k).1
  len : h.length ≤ 4096
theorem Has.lt {w : World} {bt bh bm cap : Nat} {h : List E} {p : Int → Option Nat} {N : Nat} (o : Has w bt bh bm cap h p N) : bt < w.heap.size ∧ bh < w.heap.size ∧ bm < w.heap.size :=
  ⟨lt_of_block o.tim, o.row.lt.2, o.map.lt⟩
theorem Has.keep {w w' : World} {bt bh bm cap : Nat} {h : List E} {p : Int → Option Nat} {N : Nat} (o : Has w bt bh bm cap h p N) (h1 : w'.heap[bt]? = w.heap[bt]?) (h2 : w'.heap[bh]? = w.heap[bh]?) (h3 : w'.heap[bm]? = w.heap[bm]?) : Has w' bt bh bm cap h p N :=
  ⟨h1.trans o.tim, o.row.keep h2, o.map.keep h3, o.ne1, o.ne2, o.ne3, o.wf, o.len⟩
theorem Has.below {w w' : World} {bt bh bm cap : Nat} {h : List E} {p : Int → Option Nat} {N : Nat} (o : Has w bt bh bm cap h p N) (hb : Below w.heap.size w w') : Has w' bt bh bm cap h p N :=
  o.keep (hb.block _ o.lt.1) (hb.block _ o.lt.2.1) (hb.block _ o.lt.2.2)
theorem Has.drewN {w : World} {bt bh bm cap : Nat} {h : List E} {p : Int → Option Nat} {N : Nat} (o : Has w bt bh bm cap h p N) (n : Nat) : Has (w.drewN n) bt bh bm cap h p N := o.keep rfl rfl rfl
theorem Has.cells {w : World} {bt bh bm cap : Nat} {h : List E} {p : Int → Option Nat} {N : Nat} (o : Has w bt bh bm cap h p N) :
    w.cell? ⟨bt, 0, none⟩ = some (.slice (some ⟨bh, 0, none⟩) h.length cap) ∧ w.cell? ⟨bt, 1, none⟩ = some (.map (some bm)) ∧ w.frozen? ⟨bt, 0, none⟩ = false ∧ w.frozen? ⟨bt, 1, none⟩ = false := by
  have h1 := o.tim
  simp [World.cell?, World.frozen?, h1]

/-- What is due at block bt is the list m; its own blocks are bt, bh and bm. -/
def Lies (w : World) (bt bh bm : Nat) (m : List E) : Prop :=
  (w.heap[bt]? = some (.cells #[.slice none 0 0, .map none] 27 (0, 0)) ∧ m = [] ∧ bh = bt ∧ bm = bt) ∨
  ∃ cap h p N, Has w bt bh bm cap h p N ∧ Good h p N m
theorem Lies.lt {w : World} {bt bh bm : Nat} {m : List E} (o : Lies w bt bh bm m) : bt < w.heap.size ∧ bh < w.heap.size ∧ bm < w.heap.size := by
  rcases o with ⟨h, _, rfl, rfl⟩ | ⟨_, _, _, _, h, _⟩
  · have := lt_of_block h
    exact ⟨this, this, this⟩
  · exact h.lt
theorem Lies.keep {w w' : World} {bt bh bm : Nat} {m : List E} (o : Lies w bt bh bm m) (h1 : w'.heap[bt]? = w.heap[bt]?) (h2 : w'.heap[bh]? = w.heap[bh]?) (h3 : w'.heap[bm]? = w.heap[bm]?) : Lies w' bt bh bm m := by
  rcases o with ⟨h, r⟩ | ⟨cap, h, p, N, o, r⟩
  · exact .inl ⟨h1.trans h, r⟩
  · exact .inr ⟨cap, h, p, N, o.keep h1 h2 h3, r⟩
theorem Lies.kept {w w' : World} {bt bh bm x y z : Nat} {m : List E} (o : Lies w bt bh bm m) (hf : Frm x y z w w') (h1 : bt ≠ x ∧ bt ≠ y ∧ bt ≠ z) (h2 : bh ≠ x ∧ bh ≠ y ∧ bh ≠ z) (h3 : bm ≠ x ∧ bm ≠ y ∧ bm ≠ z) : Lies w' bt bh bm m :=
  o.keep (hf.block _ o.lt.1 h1.1 h1.2.1 h1.2.2) (hf.block _ o.lt.2.1 h2.1 h2.2.1 h2.2.2) (hf.block _ o.lt.2.2 h3.1 h3.2.1 h3.2.2)
theorem Lies.below {w w' : World} {bt bh bm : Nat} {m : List E} (o : Lies w bt bh bm m) (hf : Below w.heap.size w w') : Lies w' bt bh bm m :=
  o.keep (hf.block _ o.lt.1) (hf.block _ o.lt.2.1) (hf.block _ o.lt.2.2)
theorem Lies.drewN {w : World} {bt bh bm : Nat} {m : List E} (o : Lies w bt bh bm m) (n : Nat) : Lies (w.drewN n) bt bh bm m := o.keep rfl rfl rfl
end Go.Proofs.Ytfhkaedpbandiaa.timer
