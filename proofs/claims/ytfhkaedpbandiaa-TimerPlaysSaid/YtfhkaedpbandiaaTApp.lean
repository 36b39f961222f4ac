/-
  One entry put behind a row of a call's own, and where the new row lies. No condition.
-/
import Derived.Test.YtfhkaedpbandiaaTSettle
import Derived.OwnWalk
namespace Go.Proofs.Ytfhkaedpbandiaa.timer
open Go.RowKit

/-- A slice's value of entries, nil or a row. -/
def Own (T : TypeId) (w : World) (base : Nat) (v : Value) (l : List E) : Prop := w.ownsRow base T 2 v l.length (flat l)
theorem Own.nil (T : TypeId) (w : World) (base : Nat) : Own T w base (.slice none 0 0) [] := World.ownsRow_nil ..

theorem infoE : (Try.prog.info? 59).map (fun i => (i.zero, i.size, i.bytes)) = some (some (.agg #[.int .i64 0, .int .i64 0]), 2, 16) := by kernel_rfl
theorem infoO : (Try.prog.info? 57).map (fun i => (i.zero, i.size, i.bytes)) = some (some (.agg #[.int .i64 0, .int .i64 0]), 2, 16) := by kernel_rfl

theorem src_cells {w : World} {sb : Nat} {T : TypeId} {e : E} (h : w.heap[sb]? = some (.cells #[.int .i64 e.1, .int .i64 e.2] T (0, 0))) : ∀ (j : Nat) (u : Value), (flat [e])[j]? = some u → w.cell? ((⟨sb, 0, none⟩ : Addr).add j) = some u := by
  intro j u hu
  rw [Addr.add_lit, Nat.zero_add, cell_of_row w sb j _ _ _ h]
  rw [← hu]
  simp [flat]

theorem run_app (t T : TypeId) (ht : Try.prog.underlying t = some (.slice T)) (hinfo : (Try.prog.info? T).map (fun i => (i.zero, i.size, i.bytes)) = some (some (.agg #[.int .i64 0, .int .i64 0]), 2, 16))
    (w : World) (ty : TypeId) (base n sb : Nat) (v : Value) (l : List E) (e : E) (hn : n = l.length + 1) (hrow : Own T w base v l) (hsrc : w.heap[sb]? = some (.cells #[.int .i64 e.1, .int .i64 e.2] T (0, 0))) (hlen : l.length ≤ 100000) (hbase : base ≤ w.heap.size) :
    ∃ g cap w', (Builtin.append_ #[t, t] ty #[v, .slice (some ⟨sb, 0, none⟩) 1 1]).run Try.prog w = .ok (.slice (some ⟨g, 0, none⟩) n cap) w' ∧ Row T w' base g cap (l ++ [e]) ∧ w.grownBy w' v.ownBlock ∧ (v.ownBlock = some g ∨ g = w.heap.size) := by
  subst hn
  obtain ⟨i, hi, hz0, hz1, hz2⟩ := info_parts hinfo
  obtain ⟨g, cap, w', h1, h2, h3, h4, _⟩ := run_append_lies (P := Try.prog) w t ty base T i _ 2 16 ht hi hz0 hz1 hz2 rfl (by omega) v l.length (flat l) hrow ⟨sb, 0, none⟩ 1 1 (flat [e]) rfl (src_cells hsrc) (flat_oneCell _) (by omega) (by unfold maxLen; omega) (by omega) hbase _ rfl
  refine ⟨g, cap, w', h1, ?_, h3, h4⟩
  unfold Row
  rw [flat_append, List.length_append, List.length_singleton]
  exact h2
theorem wp_app (t T : TypeId) (ht : Try.prog.underlying t = some (.slice T)) (hinfo : (Try.prog.info? T).map (fun i => (i.zero, i.size, i.bytes)) = some (some (.agg #[.int .i64 0, .int .i64 0]), 2, 16))
    {o : Oper} {a : Act} {w : World} {K : Act → World → Prop} {Q : Exit → Act → World → Prop} (s x : Operand)
    (ho : o.op = .call { callee := .builtin .append, args := #[s, x], argTypes := #[t, t] }) (base n sb : Nat) (v : Value) (l : List E) (e : E)
    (hs : a.eval s = v) (hn : n = l.length + 1) (hrow : Own T w base v l) (hx : a.eval x = .slice (some ⟨sb, 0, none⟩) 1 1) (hsrc : w.heap[sb]? = some (.cells #[.int .i64 e.1, .int .i64 e.2] T (0, 0))) (hlen : l.length ≤ 100000) (hbase : base ≤ w.heap.size)
    (h : ∀ g cap w', Row T w' base g cap (l ++ [e]) → w.grownBy w' v.ownBlock → (v.ownBlock = some g ∨ g = w.heap.size) → K (a.put o.dst (.slice (some ⟨g, 0, none⟩) n cap)) w') : o.wp Try.prog a w K Q := by
  obtain ⟨g, cap, w', hr, h2, h3, h4⟩ := run_app t T ht hinfo w o.type base n sb v l e hn hrow hsrc hlen hbase
  unfold Oper.wp execOp
  simp only [ho, resolve, invoke, builtin, Sem.run_bind, Sem.run_pure, Result.andThen_ok, List.map_toArray, List.map_cons, List.map_nil, hs, hx, hr]
  exact h g cap w' h2 h3 h4
theorem wpList_appE {ops : Array Oper} {rest : List Oper} {o : Oper} {a : Act} {w : World} {Q : Exit → Act → World → Prop} (hgd : o.guard = none) (s x : Operand)
    (ho : o.op = .call { callee := .builtin .append, args := #[s, x], argTypes := #[24, 24] }) (base n sb : Nat) (v : Value) (l : List E) (e : E)
    (hs : a.eval s = v) (hn : n = l.length + 1) (hrow : Own 59 w base v l) (hx : a.eval x = .slice (some ⟨sb, 0, none⟩) 1 1) (hsrc : w.heap[sb]? = some (.cells #[.int .i64 e.1, .int .i64 e.2] 59 (0, 0))) (hlen : l.length ≤ 100000) (hbase : base ≤ w.heap.size)
    (h : ∀ g cap w', Row 59 w' base g cap (l ++ [e]) → w.grownBy w' v.ownBlock → (v.ownBlock = some g ∨ g = w.heap.size) → wpList Try.prog ops Q rest (a.put o.dst (.slice (some ⟨g, 0, none⟩) n cap)) w') : wpList Try.prog ops Q (o :: rest) a w :=
  wpList_plain hgd fun _ hK => wp_app _ _ Try.underlying24 infoE s x ho base n sb v l e hs hn hrow hx hsrc hlen hbase fun g cap w' h2 h3 h4 => hK _ _ (h g cap w' h2 h3 h4)
theorem wpList_appO {ops : Array Oper} {rest : List Oper} {o : Oper} {a : Act} {w : World} {Q : Exit → Act → World → Prop} (hgd : o.guard = none) (s x : Operand)
    (ho : o.op = .call { callee := .builtin .append, args := #[s, x], argTypes := #[28, 28] }) (base n sb : Nat) (v : Value) (l : List E) (e : E)
    (hs : a.eval s = v) (hn : n = l.length + 1) (hrow : Own 57 w base v l) (hx : a.eval x = .slice (some ⟨sb, 0, none⟩) 1 1) (hsrc : w.heap[sb]? = some (.cells #[.int .i64 e.1, .int .i64 e.2] 57 (0, 0))) (hlen : l.length ≤ 100000) (hbase : base ≤ w.heap.size)
    (h : ∀ g cap w', Row 57 w' base g cap (l ++ [e]) → w.grownBy w' v.ownBlock → (v.ownBlock = some g ∨ g = w.heap.size) → wpList Try.prog ops Q rest (a.put o.dst (.slice (some ⟨g, 0, none⟩) n cap)) w') : wpList Try.prog ops Q (o :: rest) a w :=
  wpList_plain hgd fun _ hK => wp_app _ _ Try.underlying28 infoO s x ho base n sb v l e hs hn hrow hx hsrc hlen hbase fun g cap w' h2 h3 h4 => hK _ _ (h g cap w' h2 h3 h4)

/-- Behind the store of the heap's new slice. -/
theorem app_has {W w2 : World} {bt bm g cap N : Nat} {v : Value} {h : List E} {p : Int → Option Nat} (tim : W.heap[bt]? = some (.cells #[v, .map (some bm)] 27 (0, 0))) (map : MapAt W bm N p) (hg : W.grownBy w2 v.ownBlock)
    (h1 : v.ownBlock ≠ some bt) (h2 : v.ownBlock ≠ some bm) (row : Row 59 w2 0 g cap h) (n1 : g ≠ bt) (n2 : bm ≠ bt) (n3 : bm ≠ g) (wf : ∀ k, k < h.length → Wf (Go.Proofs.Ytfhkaedpbandiaa.timer.g h k).1) (len : h.length ≤ 4096) :
    Has (w2.setCell ⟨bt, 0, none⟩ (.slice (some ⟨g, 0, none⟩) h.length cap)) bt g bm cap h p N := by
  have l1 := lt_of_block tim
  have l2 := map.lt
  have ht : w2.heap[bt]? = _ := (hg.block bt l1 (fun e => h1 e.symm)).trans tim
  refine ⟨?_, row.keep (Below.heap_setCell _ _ _ _ n1), (map.keep (hg.block bm l2 (fun e => h2 e.symm))).keep (Below.heap_setCell _ _ _ _ n2), n1, n2, n3, wf, len⟩
  rw [heap_setCell_same w2 bt 0 _ _ _ ht]
  rfl
end Go.Proofs.Ytfhkaedpbandiaa.timer
