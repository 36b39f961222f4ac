/-
  A row of numbers that a call owns, and what an append makes of it, in a region that keeps its order and at a step of one that draws it. No condition.
-/
import Derived.Test.YtklobefidgnbkaaRLives
import Derived.Deep.RegionLaw
import Derived.Deep.AppendLies
import Derived.OwnWalk
namespace Go.Proofs.Ytklobefidgnbkaa.ring
open Go.RowKit

/-- Of block g from its head on, the numbers l. -/
def Row (w : World) (base g cap : Nat) (l : List Int) : Prop := w.ownsRow base 3 1 (.slice (some ⟨g, 0, none⟩) l.length cap) l.length (ints l)
def Src (w : World) (s off : Nat) (r : List Int) : Prop := ∀ j, j < r.length → w.cell? ⟨s, off + j, none⟩ = some (.int .i64 (r.getD j 0))

theorem Row.lt {w : World} {base g cap : Nat} {l : List Int} (h : Row w base g cap l) : base ≤ g ∧ g < w.heap.size := World.ownsRow.lt h g rfl
theorem Row.cap {w : World} {base g cap : Nat} {l : List Int} (h : Row w base g cap l) : l.length ≤ cap := by
  rcases h.2 with ⟨h, _⟩ | ⟨_, _, _, h, _, _, h1, _⟩
  · simp at h
  · simp at h
    omega
theorem Row.src {w : World} {base g cap : Nat} {l : List Int} (h : Row w base g cap l) : Src w g 0 l := by
  intro j hj
  rw [Nat.zero_add, World.ownsRow.cellAt h j (by omega)]
  simp [ints, List.getD, hj]
theorem Row.keep {w w' : World} {base g cap : Nat} {l : List Int} (h : Row w base g cap l) (hk : w'.heap[g]? = w.heap[g]?) : Row w' base g cap l := by
  refine ⟨h.1, h.2.imp id ?_⟩
  rintro ⟨g1, c1, cur, e, hb, hh, r⟩
  refine ⟨g1, c1, cur, e, hb, ?_, r⟩
  simp only [Value.slice.injEq, Option.some.injEq, Addr.mk.injEq, and_true] at e
  rw [← e.1, hk, e.1]
  exact hh
theorem Row.base {w : World} {base base' g cap : Nat} {l : List Int} (h : Row w base g cap l) (hb : base' ≤ base) : Row w base' g cap l := by
  refine ⟨h.1, h.2.imp id ?_⟩
  rintro ⟨g1, c1, cur, e, hb1, r⟩
  exact ⟨g1, c1, cur, e, Nat.le_trans hb hb1, r⟩
theorem Row.list {w : World} {base g cap : Nat} {l : List Int} (h : Row w base g cap l) : ListAt w (.slice (some ⟨g, 0, none⟩) l.length cap) l := ⟨base, h⟩
theorem Row.nil {w : World} {g : Nat} (h : w.heap[g]? = some (.cells #[] 3 (0, 0))) : Row w g g 0 [] :=
  ⟨rfl, .inr ⟨g, 0, #[], rfl, Nat.le_refl _, h, Nat.le_refl _, Nat.zero_le _, rfl, rfl⟩⟩
theorem Src.keep {w w' : World} {s off : Nat} {r : List Int} (h : Src w s off r) (hk : w'.heap[s]? = w.heap[s]?) : Src w' s off r := by
  intro j hj
  rw [← h j hj]
  exact World.cell?_of_block hk
theorem Src.one {w : World} {s : Nat} {x : Int} (h : w.heap[s]? = some (.cells #[.int .i64 x] 3 (0, 0))) : Src w s 0 [x] := by
  intro j hj
  have : j = 0 := by simpa using hj
  subst this
  exact cell_of_one h
theorem Src.take {w : World} {s off : Nat} {r q : List Int} (h : Src w s off (r ++ q)) : Src w s off r := by
  intro j hj
  rw [h j (by rw [List.length_append]; omega)]
  simp [List.getD, hj, List.getElem?_append_left hj]
theorem Src.drop {w : World} {s : Nat} {x : Int} {r : List Int} (h : Src w s 0 (x :: r)) : Src w s 1 r := by
  intro j hj
  have := h (j + 1) (by simpa using hj)
  rw [show 1 + j = 0 + (j + 1) by omega, this]
  simp [List.getD]

theorem run_app (w : World) (ty : TypeId) (base g cap n sb off m c : Nat) (l r : List Int) (hn : n = l.length) (hrow : Row w base g cap l) (hm : m = r.length) (hsrc : Src w sb off r) (hlen : l.length + r.length ≤ 100000) (hbase : base ≤ w.heap.size) :
    ∃ g' cap' w', (Builtin.append_ #[25, 25] ty #[.slice (some ⟨g, 0, none⟩) n cap, .slice (some ⟨sb, off, none⟩) m c]).run Try.prog w = .ok (.slice (some ⟨g', 0, none⟩) (l ++ r).length cap') w' ∧ Row w' base g' cap' (l ++ r) ∧ w.grownBy w' (some g) := by
  subst hn
  subst hm
  obtain ⟨i, hi, hz0, hz1, hz2⟩ := info_parts info3
  obtain ⟨v', w', h1, h2, h3, h4⟩ := run_append_own (P := Try.prog) w base 25 ty 3 i _ 1 8 Try.underlying25 hi hz0 hz1 hz2 rfl (by omega) (.slice (some ⟨g, 0, none⟩) l.length cap) l.length (ints l) hrow
    ⟨sb, off, none⟩ r.length c (ints r) (by simp [ints]) (fun j u hu => by
      have hj : j < r.length := by
        have := (List.getElem?_eq_some_iff.1 hu).1
        simpa [ints] using this
      rw [Addr.add_lit, hsrc j hj]
      rw [← hu]
      simp [ints, List.getD, hj]) (ints_oneCell _ _) (by unfold maxLen; omega) (by omega) hbase
  have hv : ∃ g' cap', v' = .slice (some ⟨g', 0, none⟩) (l.length + r.length) cap' := by
    rcases h2.2 with ⟨rfl, _⟩ | ⟨g', cap', _, rfl, _⟩
    · have := h4.1 rfl
      simp at this
    · exact ⟨g', cap', rfl⟩
  obtain ⟨g', cap', rfl⟩ := hv
  refine ⟨g', cap', w', ?_, ?_, h3⟩
  · rw [h1, List.length_append]
  · unfold Row
    rw [List.length_append, show ints (l ++ r) = ints l ++ ints r by simp [ints]]
    exact h2

theorem wp_app {o : Oper} {a : Act} {w : World} {K : Act → World → Prop} {Q : Exit → Act → World → Prop} (s x : Operand)
    (ho : o.op = .call { callee := .builtin .append, args := #[s, x], argTypes := #[25, 25] }) (base g cap n sb off m c : Nat) (l r : List Int)
    (hs : a.eval s = .slice (some ⟨g, 0, none⟩) n cap) (hn : n = l.length) (hrow : Row w base g cap l)
    (hx : a.eval x = .slice (some ⟨sb, off, none⟩) m c) (hm : m = r.length) (hsrc : Src w sb off r) (hlen : l.length + r.length ≤ 100000) (hbase : base ≤ w.heap.size)
    (h : ∀ g' cap' w', Row w' base g' cap' (l ++ r) → w.grownBy w' (some g) → K (a.put o.dst (.slice (some ⟨g', 0, none⟩) (l ++ r).length cap')) w') : o.wp Try.prog a w K Q := by
  obtain ⟨g', cap', w', hr, h2, h3⟩ := run_app w o.type base g cap n sb off m c l r hn hrow hm hsrc hlen hbase
  unfold Oper.wp execOp
  simp only [ho, resolve, invoke, builtin, Sem.run_bind, Sem.run_pure, Result.andThen_ok, List.map_toArray, List.map_cons, List.map_nil, hs, hx, hr]
  exact h g' cap' w' h2 h3
theorem wpList_app {ops : Array Oper} {rest : List Oper} {o : Oper} {a : Act} {w : World} {Q : Exit → Act → World → Prop} (hgd : o.guard = none) (s x : Operand)
    (ho : o.op = .call { callee := .builtin .append, args := #[s, x], argTypes := #[25, 25] }) (base g cap n sb off m c : Nat) (l r : List Int)
    (hs : a.eval s = .slice (some ⟨g, 0, none⟩) n cap) (hn : n = l.length) (hrow : Row w base g cap l)
    (hx : a.eval x = .slice (some ⟨sb, off, none⟩) m c) (hm : m = r.length) (hsrc : Src w sb off r) (hlen : l.length + r.length ≤ 100000) (hbase : base ≤ w.heap.size)
    (h : ∀ g' cap' w', Row w' base g' cap' (l ++ r) → w.grownBy w' (some g) → wpList Try.prog ops Q rest (a.put o.dst (.slice (some ⟨g', 0, none⟩) (l ++ r).length cap')) w') : wpList Try.prog ops Q (o :: rest) a w :=
  wpList_plain hgd fun _ hK => wp_app s x ho base g cap n sb off m c l r hs hn hrow hx hm hsrc hlen hbase fun g' cap' w' h2 h3 => hK _ _ (h g' cap' w' h2 h3)
theorem step_app {ops : Array Oper} {o : Oper} {a : Act} {w : World} {K : Act → World → Prop} {Q : Exit → Act → World → Prop} {E : Prop} (hgd : o.guard = none) (s x : Operand)
    (ho : o.op = .call { callee := .builtin .append, args := #[s, x], argTypes := #[25, 25] }) (base g cap n sb off m c : Nat) (l r : List Int)
    (hs : a.eval s = .slice (some ⟨g, 0, none⟩) n cap) (hn : n = l.length) (hrow : Row w base g cap l)
    (hx : a.eval x = .slice (some ⟨sb, off, none⟩) m c) (hm : m = r.length) (hsrc : Src w sb off r) (hlen : l.length + r.length ≤ 100000) (hbase : base ≤ w.heap.size)
    (h : ∀ g' cap' w', Row w' base g' cap' (l ++ r) → w.grownBy w' (some g) → K (a.put o.dst (.slice (some ⟨g', 0, none⟩) (l ++ r).length cap')) w') :
    if Region.wanted o (yielded ops a.tmps) = true then Oper.wp Try.prog o a w K Q else E := by
  have hw : Region.wanted o (yielded ops a.tmps) = true := by simp [Region.wanted, hgd]
  rw [if_pos hw]
  exact wp_app s x ho base g cap n sb off m c l r hs hn hrow hx hm hsrc hlen hbase h

/-- What the document's answer leaves: the row as it was, or one of the call's own. -/
def Told (w : World) (g cap : Nat) (l : List Int) (r : List Int × Int × Bool) (e : Ending) (w' : World) : Prop :=
  ∃ g' cap', e = .returned (.tuple #[.slice (some ⟨g', 0, none⟩) r.1.length cap', .int .i64 r.2.1, .bool r.2.2]) ∧ (g' = g ∧ cap' = cap ∧ r.1 = l ∨ Row w' w.heap.size g' cap' r.1) ∧ Below w.heap.size w w'
end Go.Proofs.Ytklobefidgnbkaa.ring
