/-
  Pairs as they lie in memory, wherever they came from; a row of them that a call owns, what append and stores make of it, and what a sort asks of it. No condition. Printed by tools/mkrerow.py out of pool's PoMem.
-/
import Derived.Test.YtlkcpplpjjbiaaaPoMem
import Derived.Test.YtlkcpplpjjbiaaaRePlain
import Derived.Shelf.GgSortFunc.InsertionK
namespace Go.Proofs.Ytlkcpplpjjbiaaa.pr
open Go.RowKit Go.ChangeShapes
open Go.Proofs.Ytlkcpplpjjbiaaa.obj
open Go.Proofs.Ytlkcpplpjjbiaaa.reg (E)
set_option linter.unusedVariables false
set_option linter.unusedSimpArgs false

/-- Pairs, cell by cell. -/
def flat : List E → List Value
  | [] => []
  | e :: r => .int .i64 e.1 :: .int .i64 e.2 :: flat r
theorem flat_length : ∀ l : List E, (flat l).length = l.length * 2
  | [] => rfl
  | e :: r => by
    have := flat_length r
    simp [flat, this]
    omega
theorem flat_append : ∀ a b : List E, flat (a ++ b) = flat a ++ flat b
  | [], b => rfl
  | e :: r, b => by
    have := flat_append r b
    simp [flat, this]
theorem flat_get : ∀ (l : List E) (k : Nat), k < l.length → (flat l)[k * 2]? = some (.int .i64 (l.getD k (0, 0)).1) ∧ (flat l)[k * 2 + 1]? = some (.int .i64 (l.getD k (0, 0)).2)
  | [], k, h => absurd h (by simp)
  | e :: r, 0, _ => by simp [flat]
  | e :: r, k + 1, h => by
    have h1 : k < r.length := by simpa using h
    have := flat_get r k h1
    rw [show (k + 1) * 2 = k * 2 + 2 by omega, show k * 2 + 2 + 1 = k * 2 + 1 + 2 by omega]
    simpa [flat] using this
theorem flat_oneCell (l : List E) : ∀ u ∈ flat l, u.oneCell' = true := by
  induction l with
  | nil => simp [flat]
  | cons e r ih =>
    intro u hu
    simp only [flat, List.mem_cons] at hu
    rcases hu with rfl | rfl | hu
    · rfl
    · rfl
    · exact ih u hu
/-- A list of pairs, one behind the other, from where a slice begins, in a block of which B holds. -/
def SAt (w : World) (B : Nat → Prop) (A : Option Addr) (l : List E) : Prop := ∀ j, j < l.length → ∃ b off, A = some ⟨b, off, none⟩ ∧ B b ∧ b < w.heap.size ∧ w.cell? ⟨b, off + j * 2, none⟩ = some (.int .i64 (l.getD j (0, 0)).1) ∧ w.cell? ⟨b, off + j * 2 + 1, none⟩ = some (.int .i64 (l.getD j (0, 0)).2)
theorem SAt.keep {w w' : World} {B : Nat → Prop} {A : Option Addr} {l : List E} (h : SAt w B A l) (hk : ∀ b, B b → b < w.heap.size → w'.heap[b]? = w.heap[b]?) (hs : w.heap.size ≤ w'.heap.size) : SAt w' B A l := fun j hj => by
  obtain ⟨b, off, h1, h0, h2, h3, h4⟩ := h j hj
  have hb := hk b h0 h2
  exact ⟨b, off, h1, h0, Nat.lt_of_lt_of_le h2 hs, (World.cell?_of_block (a := ⟨b, off + j * 2, none⟩) hb).trans h3, (World.cell?_of_block (a := ⟨b, off + j * 2 + 1, none⟩) hb).trans h4⟩
theorem SAt.next {w w' : World} {B : Nat → Prop} {A : Option Addr} {l : List E} (h : SAt w B A l) (hb : Below w.heap.size w w') : SAt w' B A l := h.keep (fun b _ h2 => hb.block b h2) hb.size
theorem SAt.only {w w' : World} {B : Nat → Prop} {g : Nat} {A : Option Addr} {l : List E} (h : SAt w B A l) (ho : Only g w w') (hg : ∀ b, B b → b ≠ g) : SAt w' B A l := h.keep (fun b h1 h2 => ho.block b h2 (hg b h1)) ho.size
theorem SAt.base {w : World} {B B' : Nat → Prop} {A : Option Addr} {l : List E} (h : SAt w B A l) (hb : ∀ b, B b → b < w.heap.size → B' b) : SAt w B' A l := fun j hj => by
  obtain ⟨b, off, h1, h0, h2⟩ := h j hj
  exact ⟨b, off, h1, hb b h0 h2.1, h2⟩
theorem SAt.nil (w : World) (B : Nat → Prop) (A : Option Addr) : SAt w B A [] := fun j hj => absurd hj (Nat.not_lt_zero j)
/-- A slice's value of pairs, nil or a row of the call's own. -/
def Own (w : World) (base : Nat) (v : Value) (l : List E) : Prop := w.ownsRow base 47 2 v l.length (flat l)
theorem Own.nil (w : World) (base : Nat) : Own w base (.slice none 0 0) [] := World.ownsRow_nil ..
theorem Own.empty {w : World} {g : Nat} (h : w.heap[g]? = some (.cells #[] 47 (0, 0))) : Own w g (.slice (some ⟨g, 0, none⟩) 0 0) [] :=
  ⟨rfl, .inr ⟨g, 0, #[], rfl, Nat.le_refl _, h, Nat.le_refl _, Nat.zero_le _, rfl, rfl⟩⟩
theorem Own.slice {w : World} {base : Nat} {v : Value} {l : List E} (h : Own w base v l) : ∃ A cap, v = .slice A l.length cap := by
  rcases h.2 with ⟨rfl, h0⟩ | ⟨g, cap, cur, rfl, _⟩
  · exact ⟨none, 0, by rw [h0]⟩
  · exact ⟨_, _, rfl⟩
theorem Own.at {w : World} {base cap : Nat} {A : Option Addr} {l : List E} {n : Nat} (h : Own w base (.slice A n cap) l) : SAt w (fun b => base ≤ b) A l := by
  intro j hj
  rcases h.2 with ⟨e, h0⟩ | ⟨g, cap', cur, e, hb, hh, _⟩
  · omega
  · injection e with e1 e2 e3
    subst e1
    obtain ⟨f0, f1⟩ := flat_get l j hj
    have c0 := World.ownsRow.cells h (g := g) rfl _ _ f0
    have c1 := World.ownsRow.cells h (g := g) rfl _ _ f1
    rw [Addr.add_lit] at c0 c1
    exact ⟨g, 0, rfl, hb, lt_of_block hh, c0, by rw [Nat.add_assoc]; exact c1⟩
theorem Own.keep {w w' : World} {base : Nat} {v : Value} {l : List E} (h : Own w base v l) (hk : ∀ g, v.ownBlock = some g → w'.heap[g]? = w.heap[g]?) : Own w' base v l := by
  refine ⟨h.1, h.2.imp id ?_⟩
  rintro ⟨g, c, cur, rfl, hb, hh, r⟩
  exact ⟨g, c, cur, rfl, hb, (hk g rfl).trans hh, r⟩
theorem Own.lt {w : World} {base g : Nat} {v : Value} {l : List E} (h : Own w base v l) (hg : v.ownBlock = some g) : base ≤ g ∧ g < w.heap.size := World.ownsRow.lt h g hg
theorem Own.next {w w' : World} {base : Nat} {v : Value} {l : List E} (h : Own w base v l) (hb : Below w.heap.size w w') : Own w' base v l := h.keep fun g hg => hb.block g (h.lt hg).2
theorem Own.base {w : World} {base base' : Nat} {v : Value} {l : List E} (h : Own w base v l) (hb : base' ≤ base) : Own w base' v l := by
  refine ⟨h.1, h.2.imp id ?_⟩
  rintro ⟨g, c, cur, e, hb1, r⟩
  exact ⟨g, c, cur, e, Nat.le_trans hb hb1, r⟩
theorem infoS : (Try.prog.info? 47).map (fun i => (i.zero, i.size, i.bytes)) = some (some (.agg #[.int .i64 0, .int .i64 0]), 2, 16) := by kernel_rfl
theorem src_cells {w : World} {B : Nat → Prop} {ad : Addr} {r : List E} (h : SAt w B (some ad) r) : ∀ (j : Nat) (u : Value), (flat r)[j]? = some u → w.cell? (ad.add j) = some u := by
  intro j u hu
  have hj : j < r.length * 2 := by
    have := (List.getElem?_eq_some_iff.1 hu).1
    rwa [flat_length] at this
  obtain ⟨b, off, e, _, _, h0, h1⟩ := h (j / 2) (by omega)
  obtain rfl := Option.some.inj e
  obtain ⟨f0, f1⟩ := flat_get r (j / 2) (by omega)
  rw [Addr.add_lit]
  by_cases hp : j % 2 = 0
  · have e : j / 2 * 2 = j := by omega
    rw [e] at h0 f0
    rw [h0, ← hu, f0]
  · have e : j / 2 * 2 + 1 = j := by omega
    rw [Nat.add_assoc, e] at h1
    rw [e] at f1
    rw [h1, ← hu, f1]
/-- A list that lies anywhere, put behind a row of a call's own: in its block, or in the block that was made just now. -/
theorem run_appS (w : World) (ty : TypeId) (base m c : Nat) (B : Nat → Prop) (v : Value) (ad : Addr) (l r : List E) (hrow : Own w base v l) (hm : m = r.length) (hsrc : SAt w B (some ad) r) (hlen : l.length + r.length ≤ 100000) (hbase : base ≤ w.heap.size) :
    ∃ v' w', (Builtin.append_ #[44, 44] ty #[v, .slice (some ad) m c]).run Try.prog w = .ok v' w' ∧ Own w' base v' (l ++ r) ∧ w.grownBy w' v.ownBlock ∧ (v'.ownBlock = v.ownBlock ∨ v'.ownBlock = some w.heap.size) := by
  subst hm
  obtain ⟨i, hi, hz0, hz1, hz2⟩ := info_parts infoS
  obtain ⟨v', w', h1, h2, h3, _, h4⟩ := run_append_own_at (P := Try.prog) w base 44 ty 47 i _ 2 16 Try.underlying44 hi hz0 hz1 hz2 rfl (by omega) v l.length (flat l) hrow ad r.length c (flat r) (flat_length r) (src_cells hsrc) (flat_oneCell r) (by unfold maxLen; omega) (by omega) hbase
  refine ⟨v', w', h1, ?_, h3, h4⟩
  unfold Own
  rw [List.length_append, flat_append]
  exact h2
theorem wpList_appS {ops : Array Oper} {rest : List Oper} {o : Oper} {a : Act} {w : World} {Q : Exit → Act → World → Prop} (hgd : o.guard = none) (s x : Operand)
    (ho : o.op = .call { callee := .builtin .append, args := #[s, x], argTypes := #[44, 44] }) (base m c : Nat) (B : Nat → Prop) (v : Value) (ad : Addr) (l r : List E)
    (hs : a.eval s = v) (hrow : Own w base v l) (hx : a.eval x = .slice (some ad) m c) (hm : m = r.length) (hsrc : SAt w B (some ad) r) (hlen : l.length + r.length ≤ 100000) (hbase : base ≤ w.heap.size)
    (h : ∀ v' w', Own w' base v' (l ++ r) → w.grownBy w' v.ownBlock → (v'.ownBlock = v.ownBlock ∨ v'.ownBlock = some w.heap.size) → wpList Try.prog ops Q rest (a.put o.dst v') w') : wpList Try.prog ops Q (o :: rest) a w :=
  wpList_plain hgd fun _ hK => by
    obtain ⟨v', w', hr, h2, h3, h4⟩ := run_appS w o.type base m c B v ad l r hrow hm hsrc hlen hbase
    unfold Oper.wp execOp
    simp only [ho, resolve, invoke, builtin, Sem.run_bind, Sem.run_pure, Result.andThen_ok, List.map_toArray, List.map_cons, List.map_nil, hs, hx, hr]
    exact hK _ _ (h v' w' h2 h3 h4)
theorem SAt.one {w : World} {g : Nat} {e : E} (h : w.heap[g]? = some (.cells #[.int .i64 e.1, .int .i64 e.2] 47 (0, 0))) : SAt w (fun b => g ≤ b) (some ⟨g, 0, none⟩) [e] := fun j hj => by
  obtain rfl : j = 0 := by simpa using hj
  obtain ⟨h0, h1⟩ := cells2 h
  exact ⟨g, 0, rfl, Nat.le_refl _, lt_of_block h, h0, h1⟩
theorem flat_set : ∀ (l : List E) (k : Nat) (x : Int), k < l.length → flat (l.set k ((l.getD k (0, 0)).1, x)) = (flat l).set (k * 2 + 1) (.int .i64 x)
  | [], k, x, h => absurd h (Nat.not_lt_zero k)
  | d :: l, 0, x, _ => rfl
  | d :: l, k + 1, x, h => by
    have ih := flat_set l k x (by simpa using h)
    rw [List.set_cons_succ, show (k + 1) * 2 + 1 = k * 2 + 1 + 1 + 1 from by omega]
    simp only [flat, List.set_cons_succ, List.getD_cons_succ]
    rw [ih]
/-- Where a row lies: nowhere, or in a block of its own. -/
theorem Own.where_ {w : World} {base : Nat} {v : Value} {l : List E} (h : Own w base v l) (hl : l ≠ []) : ∃ b cap, v = .slice (some ⟨b, 0, none⟩) l.length cap ∧ v.ownBlock = some b := by
  rcases h.2 with ⟨_, h0⟩ | ⟨g, cap, cur, rfl, _⟩
  · exact absurd (List.eq_nil_of_length_eq_zero h0) hl
  · exact ⟨g, cap, rfl, rfl⟩
theorem Own.block {w : World} {base b : Nat} {v : Value} {l : List E} (h : Own w base v l) (hb : v.ownBlock = some b) : ∃ cur, w.heap[b]? = some (.cells cur 47 (0, 0)) := by
  rcases h.2 with ⟨rfl, _⟩ | ⟨g, cap, cur, rfl, _, hh, _⟩
  · cases hb
  · injection hb with hb
    subst hb
    exact ⟨cur, hh⟩
theorem Own.len {w : World} {base b n cap : Nat} {l : List E} (h : Own w base (.slice (some ⟨b, 0, none⟩) n cap) l) : n = l.length := by
  obtain ⟨A, c, e⟩ := h.slice
  injection e
theorem Own.cap {w : World} {base n c : Nat} {A : Option Addr} {l : List E} (h : Own w base (.slice A n c) l) : l.length ≤ c ∧ c ≤ 9223372036854775807 := by
  rcases h.2 with ⟨e, h0⟩ | ⟨g, cap', cur, e, hb, hh, h1, h2, h3, h4⟩
  · injection e with e1 e2 e3
    omega
  · injection e with e1 e2 e3
    unfold maxLen at h2
    omega
/-- What a row's cells are. -/
theorem Own.cell {w : World} {base b n cap k : Nat} {l : List E} (h : Own w base (.slice (some ⟨b, 0, none⟩) n cap) l) (hk : k < l.length) :
    w.cell? ⟨b, k * 2, none⟩ = some (.int .i64 (l.getD k (0, 0)).1) ∧ w.cell? ⟨b, k * 2 + 1, none⟩ = some (.int .i64 (l.getD k (0, 0)).2) ∧ w.frozen? ⟨b, k * 2 + 1, none⟩ = false := by
  obtain rfl := h.len
  obtain ⟨h0, h1⟩ := flat_get l k hk
  exact ⟨by rw [World.ownsRow.cellAt h _ (by omega), h0], by rw [World.ownsRow.cellAt h _ (by omega), h1], World.ownsRow.frozenAt h _⟩
/-- A row of which one has another number. -/
theorem Own.put {w : World} {base b n cap k : Nat} {l : List E} (h : Own w base (.slice (some ⟨b, 0, none⟩) n cap) l) (hk : k < l.length) (x : Int) :
    Own (w.setCell ⟨b, k * 2 + 1, none⟩ (.int .i64 x)) base (.slice (some ⟨b, 0, none⟩) n cap) (l.set k ((l.getD k (0, 0)).1, x)) := by
  obtain rfl := h.len
  unfold Own
  rw [List.length_set, flat_set l k x hk]
  exact (World.ownsRow.stored h _ _).1

/-- A run of stores in the midst of a row. -/
theorem own_mid {base : Nat} {e : TypeId} {size g n cap : Nat} : ∀ (vs q p r : List Value) (w : World), q.length = vs.length → w.ownsRow base e size (.slice (some ⟨g, 0, none⟩) n cap) n (p ++ (q ++ r)) →
    (w.setCells g p.length vs).ownsRow base e size (.slice (some ⟨g, 0, none⟩) n cap) n (p ++ (vs ++ r)) := by
  intro vs
  induction vs with
  | nil =>
    intro q p r w hq h
    obtain rfl := List.eq_nil_of_length_eq_zero hq
    exact h
  | cons v vs ih =>
    intro q p r w hq h
    cases q with
    | nil => cases hq
    | cons u q =>
      have h1 := (h.stored p.length v).1
      have e1 : (p ++ (u :: q ++ r)).set p.length v = (p ++ [v]) ++ (q ++ r) := by
        rw [List.set_append_right _ _ (Nat.le_refl _), Nat.sub_self, List.cons_append, List.set_cons_zero]
        simp
      rw [e1] at h1
      have h2 := ih q (p ++ [v]) r _ (by simpa using hq) h1
      rw [List.length_append, List.length_singleton] at h2
      simpa [World.setCells] using h2
/-- A row that is cut. -/
theorem own_cut {w : World} {base : Nat} {e : TypeId} {size g n cap m : Nat} {xs : List Value} (h : w.ownsRow base e size (.slice (some ⟨g, 0, none⟩) n cap) n xs) (hm : m ≤ n) :
    w.ownsRow base e size (.slice (some ⟨g, 0, none⟩) m cap) m (xs.take (m * size)) := by
  have hs : m * size ≤ n * size := Nat.mul_le_mul_right _ hm
  refine ⟨by rw [List.length_take, h.1]; omega, ?_⟩
  rcases h.2 with ⟨e, _⟩ | ⟨g', cap', cur, e, hb, hh, h1, h2, h3, h4⟩
  · cases e
  · injection e with e1 e2 e3
    refine .inr ⟨g', cap', cur, by rw [e1, e3], hb, hh, by omega, h2, h3, ?_⟩
    rw [← h4, List.take_take, Nat.min_eq_left hs]
/-- A row out of which one has gone: those behind it have moved up, and the last cells are 0. -/
theorem Own.gone {w : World} {base b n cap k : Nat} {l : List E} (h : Own w base (.slice (some ⟨b, 0, none⟩) n cap) l) (hk : k < l.length) :
    Own ((w.setCells b (k * 2) (flat (l.drop (k + 1)))).setCells b ((l.length - 1) * 2) [.int .i64 0, .int .i64 0]) base (.slice (some ⟨b, 0, none⟩) (l.length - 1) cap) (l.take k ++ l.drop (k + 1)) := by
  obtain rfl := h.len
  have hsp : flat l = flat (l.take k) ++ (flat (l.drop k)) := by rw [← flat_append, List.take_append_drop]
  have hd : (flat (l.drop (k + 1))).length = (l.length - (k + 1)) * 2 := by rw [flat_length, List.length_drop]
  have hdk : (flat (l.drop k)).length = (l.length - k) * 2 := by rw [flat_length, List.length_drop]
  have hp : (flat (l.take k)).length = k * 2 := by rw [flat_length, List.length_take]; omega
  have hcut : flat (l.drop k) = (flat (l.drop k)).take ((l.length - (k + 1)) * 2) ++ (flat (l.drop k)).drop ((l.length - (k + 1)) * 2) := (List.take_append_drop _ _).symm
  unfold Own at h
  rw [hsp, hcut] at h
  have h1 := own_mid (flat (l.drop (k + 1))) _ _ _ w (by rw [List.length_take, hd, hdk]; omega) h
  rw [hp, ← List.append_assoc] at h1
  have hr : ((flat (l.drop k)).drop ((l.length - (k + 1)) * 2)).length = 2 := by rw [List.length_drop, hdk]; omega
  have e0 : (flat (l.take k) ++ flat (l.drop (k + 1))).length = (l.length - 1) * 2 := by rw [List.length_append, hp, hd]; omega
  have h2 := own_mid [.int .i64 0, .int .i64 0] ((flat (l.drop k)).drop ((l.length - (k + 1)) * 2)) (flat (l.take k) ++ flat (l.drop (k + 1))) [] _ (by rw [hr]; rfl) (by rw [List.append_nil]; exact h1)
  rw [e0, List.append_nil] at h2
  have h3 := own_cut h2 (Nat.sub_le l.length 1)
  rw [List.take_append_of_le_length (by omega), List.take_of_length_le (by omega), ← flat_append] at h3
  unfold Own
  have e1 : (l.take k ++ l.drop (k + 1)).length = l.length - 1 := by rw [List.length_append, List.length_take, List.length_drop]; omega
  rw [e1]
  exact h3
theorem cells_far : ∀ (vs : List Value) (b o j : Nat) (w : World), j ≠ b → (w.setCells b o vs).heap[j]? = w.heap[j]?
  | [], b, o, j, w, h => rfl
  | v :: vs, b, o, j, w, h => by
    unfold World.setCells
    rw [cells_far vs b (o + 1) j _ h]
    exact Below.heap_setCell w ⟨b, o, none⟩ v j h
theorem cells_size : ∀ (vs : List Value) (b o : Nat) (w : World), (w.setCells b o vs).heap.size = w.heap.size ∧ (w.setCells b o vs).os = w.os ∧ (w.setCells b o vs).tape = w.tape ∧ (w.setCells b o vs).output = w.output
  | [], b, o, w => ⟨rfl, rfl, rfl, rfl⟩
  | v :: vs, b, o, w => by
    unfold World.setCells
    obtain ⟨h1, h2, h3, h4⟩ := cells_size vs b (o + 1) (w.setCell ⟨b, o, none⟩ v)
    exact ⟨h1.trans (by simp [World.setCell]), h2, h3, h4⟩

/-- A pair's two cells, as a sort has them. -/
def encP (x : E) : List Value := [.int .i64 x.1, .int .i64 x.2]
theorem encP_len (x : E) : (encP x).length = 2 := rfl
theorem encP_one : ∀ x, ∀ v ∈ encP x, v.oneCell' = true := by
  intro x v hv
  simp only [encP, List.mem_cons, List.not_mem_nil, or_false] at hv
  rcases hv with rfl | rfl <;> rfl
theorem getD_arr (l : List E) (i : Nat) (h : i < l.length) : l.toArray[i]! = l.getD i (0, 0) := by
  rw [List.getD_eq_getElem?_getD, List.getElem?_eq_getElem h]
  simp [h]
theorem flatK_get (l : List E) (t : Nat) (ht : t < l.length * 2) : (flat l)[t]? = some (Go.Sort.flatK encP 2 l.toArray)[t]! := by
  rw [Go.Sort.get_flatK _ _ _ _ (by simpa using ht), getD_arr l (t / 2) (by omega)]
  obtain ⟨f0, f1⟩ := flat_get l (t / 2) (by omega)
  rcases (by omega : t % 2 = 0 ∨ t % 2 = 1) with hm | hm
  · rw [hm, show t = t / 2 * 2 by omega, f0, show t / 2 * 2 / 2 = t / 2 by omega]
    rfl
  · rw [hm]
    have e : t / 2 * 2 + 1 = t := by omega
    rw [e] at f1
    rw [f1]
    rfl
/-- What a sort asks of a row. -/
theorem Own.holds {w : World} {base b n cap : Nat} {l : List E} (h : Own w base (.slice (some ⟨b, 0, none⟩) n cap) l) : Go.Sort.HoldsK encP 2 w b 0 l.toArray := fun t ht => by
  rw [Go.Sort.size_flatK] at ht
  have ht2 : t < l.length * 2 := by simpa using ht
  obtain rfl := h.len
  rw [Nat.zero_add]
  refine ⟨?_, World.ownsRow.frozenAt h _⟩
  rw [World.ownsRow.cellAt h _ ht2, flatK_get l t ht2]
  rfl
/-- What lies there behind it. -/
theorem SAt.of_holds {w : World} {b : Nat} {d : Array E} (h : Go.Sort.HoldsK encP 2 w b 0 d) (hb : b < w.heap.size) : SAt w (fun j => j = b) (some ⟨b, 0, none⟩) d.toList := fun j hj => by
  have hj2 : j < d.size := by simpa using hj
  have c0 := (h.cell hj2 (c := 0) (by omega)).1
  have c1 := (h.cell hj2 (c := 1) (by omega)).1
  have e : d[j]! = d.toList.getD j (0, 0) := by
    have := getD_arr d.toList j hj
    simpa using this
  rw [e] at c0 c1
  exact ⟨b, 0, rfl, rfl, hb, c0, c1⟩
end Go.Proofs.Ytlkcpplpjjbiaaa.pr
