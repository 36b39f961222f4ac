/-
  The document's list of ids and times, and the heap beside it: setting, dropping, the first one, and all that are due. No condition.
-/
import Derived.Test.YtfhkaedpbandiaaTPlain
namespace Go.Proofs.Ytfhkaedpbandiaa.timer

/-- The list without an id. -/
def drop (l : List E) (x : Int) : List E := l.filter fun e => decide (e.1 ≠ x)
def setl (l : List E) (x y : Int) : List E := drop l x ++ [(x, y)]
theorem drop_nil (x : Int) : drop [] x = [] := rfl
theorem drop_append (a b : List E) (x : Int) : drop (a ++ b) x = drop a x ++ drop b x := List.filter_append ..
theorem drop_one (e : E) (x : Int) : drop [e] x = if e.1 = x then [] else [e] := by
  unfold drop
  by_cases h : e.1 = x <;> simp [h]
theorem drop_self {l : List E} {x : Int} (h : ∀ e ∈ l, e.1 ≠ x) : drop l x = l := by
  unfold drop
  rw [List.filter_eq_self]
  intro e he
  simpa using h e he
theorem drop_length (l : List E) (x : Int) : (drop l x).length ≤ l.length := List.length_filter_le ..
theorem setl_length (l : List E) (x y : Int) : (setl l x y).length ≤ l.length + 1 := by
  have := drop_length l x
  simp [setl]
  omega
theorem drop_lt {l : List E} {e : E} (h : e ∈ l) : (drop l e.1).length < l.length := by
  unfold drop
  exact List.length_filter_lt_length_iff_exists.2 ⟨e, h, by simp⟩
theorem drop_mem {l : List E} {x : Int} {e : E} : e ∈ drop l x ↔ e ∈ l ∧ e.1 ≠ x := by
  unfold drop
  simp

def pick (a b : E) : E := if ahd b a = true then b else a
/-- The first one: of the least time, the least id. -/
def least : List E → E
  | [] => (0, 0)
  | x :: r => r.foldl pick x
theorem least_snoc {l : List E} (hl : l ≠ []) (y : E) : least (l ++ [y]) = pick (least l) y := by
  rcases l with _ | ⟨x, r⟩
  · exact absurd rfl hl
  · show (r ++ [y]).foldl pick x = _
    rw [List.foldl_append]
    rfl
theorem fold_least : ∀ (r : List E) (x : E), (r.foldl pick x = x ∨ r.foldl pick x ∈ r) ∧ ahd x (r.foldl pick x) = false ∧ ∀ e ∈ r, ahd e (r.foldl pick x) = false
  | [], x => ⟨.inl rfl, ahd_self _, by simp⟩
  | y :: r, x => by
    obtain ⟨h1, h2, h3⟩ := fold_least r (pick x y)
    show (r.foldl pick (pick x y) = x ∨ r.foldl pick (pick x y) ∈ y :: r) ∧ ahd x (r.foldl pick (pick x y)) = false ∧ ∀ e ∈ y :: r, ahd e (r.foldl pick (pick x y)) = false
    have hx : ahd x (pick x y) = false := by
      unfold pick
      split
      · rename_i h
        exact ahd_asymm h
      · exact ahd_self _
    have hy : ahd y (pick x y) = false := by
      unfold pick
      split
      · exact ahd_self _
      · rename_i h
        simpa using h
    refine ⟨?_, back_trans hx h2, ?_⟩
    · rcases h1 with h1 | h1
      · rw [h1]
        rcases (show pick x y = x ∨ pick x y = y by unfold pick; split <;> simp) with h4 | h4
        · exact .inl h4
        · rw [h4]
          exact .inr (List.mem_cons_self ..)
      · exact .inr (List.mem_cons_of_mem _ h1)
    · intro e he
      rcases List.mem_cons.1 he with rfl | he
      · exact back_trans hy h2
      · exact h3 e he
theorem least_mem {l : List E} (hl : l ≠ []) : least l ∈ l := by
  rcases l with _ | ⟨x, r⟩
  · exact absurd rfl hl
  · show r.foldl pick x ∈ x :: r
    rcases (fold_least r x).1 with h | h
    · rw [h]
      exact List.mem_cons_self ..
    · exact List.mem_cons_of_mem _ h
theorem least_le {l : List E} {e : E} (he : e ∈ l) : ahd e (least l) = false := by
  rcases l with _ | ⟨x, r⟩
  · simp at he
  · rcases List.mem_cons.1 he with rfl | he
    · exact (fold_least r e).2.1
    · exact (fold_least r x).2.2 e he
theorem least_eq {l : List E} {x : E} (hx : x ∈ l) (h : ∀ e ∈ l, ahd e x = false) : least l = x :=
  ahd_eq (h _ (least_mem (by rintro rfl; simp at hx))) (least_le hx)

/-- All that are due, and the list without them. -/
def due (m : List E) (now : Int) : List Int × List E :=
  if _h : m = [] ∨ now < (least m).2 then ([], m)
  else ((least m).1 :: (due (drop m (least m).1) now).1, (due (drop m (least m).1) now).2)
termination_by m.length
decreasing_by
  all_goals exact drop_lt (least_mem (fun e => _h (.inl e)))
theorem due_none {m : List E} {now : Int} (h : m = [] ∨ now < (least m).2) : due m now = ([], m) := by rw [due, dif_pos h]
theorem due_some {m : List E} {now : Int} (h : ¬ (m = [] ∨ now < (least m).2)) : due m now = ((least m).1 :: (due (drop m (least m).1) now).1, (due (drop m (least m).1) now).2) := by rw [due, dif_neg h]
theorem due_two : ∀ (n : Nat) (m : List E) (a b : Int), m.length ≤ n → a ≤ b →
    due m b = ((due m a).1 ++ (due (due m a).2 b).1, (due (due m a).2 b).2) := by
  intro n
  induction n with
  | zero =>
    intro m a b hm hab
    have : m = [] := List.eq_nil_of_length_eq_zero (by omega)
    rw [due_none (m := m) (now := a) (.inl this)]
    simp
  | succ n ih =>
    intro m a b hm hab
    by_cases h : m = [] ∨ a < (least m).2
    · rw [due_none h]
      simp
    · have h2 : ¬ (m = [] ∨ b < (least m).2) := by
        intro h3
        rcases h3 with h3 | h3
        · exact h (.inl h3)
        · exact h (.inr (by omega))
      have hl := drop_lt (least_mem (l := m) (fun e => h (.inl e)))
      have := ih (drop m (least m).1) a b (by omega) hab
      rw [due_some h2, due_some h]
      simp only [List.cons_append]
      rw [this]
theorem due_length : ∀ (n : Nat) (m : List E) (a : Int), m.length ≤ n → (due m a).1.length + (due m a).2.length ≤ m.length := by
  intro n
  induction n with
  | zero =>
    intro m a hm
    have : m = [] := List.eq_nil_of_length_eq_zero (by omega)
    rw [due_none (m := m) (now := a) (.inl this)]
    simp
  | succ n ih =>
    intro m a hm
    by_cases h : m = [] ∨ a < (least m).2
    · rw [due_none h]
      simp
    · have hl := drop_lt (least_mem (l := m) (fun e => h (.inl e)))
      have := ih (drop m (least m).1) a (by omega)
      rw [due_some h]
      simp only [List.length_cons]
      omega

/-- The heap h, the places p of N ids, are the list m. -/
structure Good (h : List E) (p : Int → Option Nat) (N : Nat) (m : List E) : Prop where
  po : PO h p
  heap : Heap h
  num : N = h.length
  perm : h.Perm m

theorem Good.new : Good [] (fun _ => none) 0 [] :=
  ⟨⟨fun k hk => absurd hk (by simp), fun x k hx => by simp at hx⟩, fun k _ hk => absurd hk (by simp), rfl, List.Perm.refl _⟩
theorem Good.len {h : List E} {p : Int → Option Nat} {N : Nat} {m : List E} (o : Good h p N m) : h.length = m.length := o.perm.length_eq
theorem Good.first {h : List E} {p : Int → Option Nat} {N : Nat} {m : List E} (o : Good h p N m) (h0 : 0 < h.length) : g h 0 = least m := by
  symm
  refine least_eq (o.perm.mem_iff.1 (g_mem h0)) fun e he => ?_
  obtain ⟨k, hk, rfl⟩ := mem_g (o.perm.mem_iff.2 he)
  exact o.heap.root k hk
theorem Good.found {h : List E} {p : Int → Option Nat} {N : Nat} {m : List E} (o : Good h p N m) {x : Int} {k j : Nat} (hk : p x = some k) (hj : j < m.length) (e : (g m j).1 = x) : g m j = g h k := by
  obtain ⟨i, hi, h1⟩ := mem_g (o.perm.mem_iff.2 (g_mem hj))
  have h2 := o.po.1 i hi
  rw [h1, e, hk] at h2
  rw [← h1, Option.some.inj h2]
theorem Good.none {h : List E} {p : Int → Option Nat} {N : Nat} {m : List E} (o : Good h p N m) {x : Int} (hx : p x = none) : ∀ e ∈ m, e.1 ≠ x := by
  intro e he h1
  obtain ⟨i, hi, h2⟩ := mem_g (o.perm.mem_iff.2 he)
  have := o.po.1 i hi
  rw [h2, h1, hx] at this
  simp at this
theorem Good.some {h : List E} {p : Int → Option Nat} {N : Nat} {m : List E} (o : Good h p N m) {x : Int} {k : Nat} (hx : p x = some k) : g h k ∈ m ∧ (g h k).1 = x := by
  obtain ⟨h1, h2⟩ := o.po.2 x k hx
  exact ⟨o.perm.mem_iff.1 (g_mem h1), h2⟩

/-- An entry taken out of its place. -/
theorem out_perm {h : List E} {p : Int → Option Nat} (o : PO h p) {i : Nat} (hi : i < h.length) : ∃ a b, h = a ++ g h i :: b ∧ a.length = i ∧ drop h (g h i).1 = a ++ b := by
  have e : h = h.take i ++ g h i :: h.drop (i + 1) := by
    rw [g_get hi, ← List.drop_eq_getElem_cons hi, List.take_append_drop]
  have hl : (h.take i).length = i := by rw [List.length_take]; omega
  have ha : ∀ y ∈ h.take i, y.1 ≠ (g h i).1 := by
    intro y hy hh
    obtain ⟨k, hk, e1⟩ := List.getElem_of_mem hy
    rw [List.getElem_take] at e1
    have hk2 : k < i := by omega
    have := o.inj (i := k) (k := i) (by omega) hi (by rw [g_get (by omega), e1]; exact hh)
    omega
  have hb : ∀ y ∈ h.drop (i + 1), y.1 ≠ (g h i).1 := by
    intro y hy hh
    obtain ⟨k, hk, e1⟩ := List.getElem_of_mem hy
    rw [List.getElem_drop] at e1
    rw [List.length_drop] at hk
    have := o.inj (i := i + 1 + k) (k := i) (by omega) hi (by rw [g_get (by omega), e1]; exact hh)
    omega
  refine ⟨_, _, e, hl, ?_⟩
  generalize g h i = x at *
  generalize h.take i = a at *
  generalize h.drop (i + 1) = b at *
  subst e
  rw [drop_append, drop_self ha, show x :: b = [x] ++ b from rfl, drop_append, drop_one, if_pos rfl, List.nil_append, drop_self hb]
theorem set_mid (a b : List E) (x y : E) {i : Nat} (hl : a.length = i) : (a ++ x :: b).set i y = a ++ y :: b := by
  subst hl
  simp

/-- An id that is there is set anew. -/
theorem Good.reset {h : List E} {p : Int → Option Nat} {N : Nat} {m : List E} (o : Good h p N m) {x : Int} {i : Nat} (y : Int) (hi : p x = .some i) : Hole h p N i (x, y) (setl m x y) ∧ Near (h.set i (x, y)) i := by
  obtain ⟨h1, h2⟩ := o.po.2 x i hi
  refine ⟨⟨h1, ?_, ?_, ?_⟩, o.heap.near h1 _⟩
  · refine ⟨fun k hk => ?_, fun z k hz => ?_⟩
    · rw [List.length_set] at hk
      rw [g_set _ h1]
      by_cases hki : k = i
      · rw [if_pos hki, upd_same, hki]
      · rw [if_neg hki, upd_other]
        · exact o.po.1 k hk
        · intro hh
          have := o.po.1 k hk
          rw [hh] at this
          simp only at this
          rw [hi] at this
          exact hki (Option.some.inj this).symm
    · rw [List.length_set]
      by_cases hzx : z = x
      · subst hzx
        rw [upd_same] at hz
        obtain rfl := Option.some.inj hz
        exact ⟨h1, by rw [g_same _ h1]⟩
      · rw [upd_other _ _ hzx] at hz
        obtain ⟨a, b⟩ := o.po.2 z k hz
        refine ⟨a, ?_⟩
        rw [g_other _ h1]
        · exact b
        · rintro rfl
          exact hzx (b.symm.trans h2)
  · rw [cnt_some hi]
    exact o.num
  · obtain ⟨a, b, e, hl, hd⟩ := out_perm o.po h1
    rw [h2] at hd
    have e2 : h.set i (x, y) = a ++ (x, y) :: b := by
      rw [e, set_mid a b _ _ hl]
    rw [e2]
    unfold setl
    refine (List.perm_middle).trans ?_
    rw [← hd]
    exact ((o.perm.filter _).cons _).trans (List.perm_append_comm (l₁ := [(x, y)]))
/-- An id that is not there is set. -/
theorem g_left {h r : List E} {k : Nat} (hk : k < h.length) : g (h ++ r) k = g h k := by
  unfold g
  simp [List.getD, List.getElem?_append_left hk]
theorem g_end (h : List E) (x : E) : g (h ++ [x]) h.length = x := by
  unfold g
  simp
theorem Good.fresh {h : List E} {p : Int → Option Nat} {N : Nat} {m : List E} (o : Good h p N m) {x : Int} (y : Int) (z : E) (hx : p x = .none) :
    Hole (h ++ [z]) p N h.length (x, y) (setl m x y) ∧ Near ((h ++ [z]).set h.length (x, y)) h.length := by
  have e : (h ++ [z]).set h.length (x, y) = h ++ [(x, y)] := set_mid h [] z (x, y) rfl
  rw [e]
  refine ⟨⟨by simp, ?_, ?_, ?_⟩, fun k k0 hk k1 k2 => ?_, fun k k0 hk k1 k2 => ?_⟩
  · rw [e]
    refine ⟨fun k hk => ?_, fun w k hw => ?_⟩
    · rw [List.length_append, List.length_singleton] at hk
      by_cases hkl : k = h.length
      · subst hkl
        rw [g_end, upd_same]
      · have hk2 : k < h.length := by omega
        rw [g_left hk2, upd_other]
        · exact o.po.1 k hk2
        · intro hh
          have := o.po.1 k hk2
          rw [hh] at this
          simp only at this
          rw [hx] at this
          simp at this
    · rw [List.length_append, List.length_singleton]
      by_cases hwx : w = x
      · subst hwx
        rw [upd_same] at hw
        obtain rfl := Option.some.inj hw
        exact ⟨by omega, by rw [g_end]⟩
      · rw [upd_other _ _ hwx] at hw
        obtain ⟨a, b⟩ := o.po.2 w k hw
        exact ⟨by omega, by rw [g_left a]; exact b⟩
  · rw [cnt_none hx, List.length_append, List.length_singleton, o.num]
  · rw [e]
    unfold setl
    have h1 : drop h x = h := drop_self fun e he => by
      obtain ⟨k, hk, rfl⟩ := mem_g he
      intro hh
      have := o.po.1 k hk
      rw [hh, hx] at this
      simp at this
    have h2 := o.perm.filter (fun e => decide (e.1 ≠ x))
    have h3 : (drop h x).Perm (drop m x) := h2
    rw [h1] at h3
    exact h3.append_right _
  · rw [List.length_append, List.length_singleton] at hk
    rw [g_left (by omega), g_left (by omega)]
    exact o.heap k k0 (by omega)
  · rw [List.length_append, List.length_singleton] at hk
    omega
/-- What was settled: all is in order again. -/
theorem Hole.done {h : List E} {p : Int → Option Nat} {N i : Nat} {e : E} {V : List E} (o : Hole h p N i e V) (hh : Heap (h.set i e)) : Good (h.set i e) (upd p e.1 (some i)) (cnt p N e.1) V :=
  ⟨o.po, hh, by rw [List.length_set]; exact o.num, o.perm⟩

theorem g_front {h : List E} {k : Nat} (hk : k < h.length - 1) : g h.dropLast k = g h k := by
  rw [g_get (by rw [List.length_dropLast]; exact hk), g_get (by omega), List.getElem_dropLast]
theorem front_end {h : List E} (hl : 0 < h.length) : h = h.dropLast ++ [g h (h.length - 1)] := by
  have h1 : h ≠ [] := by rintro rfl; simp at hl
  rw [g_get (by omega), ← List.getLast_eq_getElem h1, List.dropLast_concat_getLast]
/-- The last one goes. -/
theorem Good.last {h : List E} {p : Int → Option Nat} {N : Nat} {m : List E} (o : Good h p N m) {x : Int} (hx : p x = .some (h.length - 1)) : Good h.dropLast (upd p x .none) (N - 1) (drop m x) := by
  obtain ⟨h1, h2⟩ := o.po.2 x _ hx
  refine ⟨⟨fun k hk => ?_, fun z k hz => ?_⟩, o.heap.front, by rw [List.length_dropLast, o.num], ?_⟩
  · rw [List.length_dropLast] at hk
    rw [g_front hk, upd_other]
    · exact o.po.1 k (by omega)
    · intro hh
      have := o.po.inj (i := k) (k := h.length - 1) (by omega) h1 (hh.trans h2.symm)
      omega
  · rw [List.length_dropLast]
    by_cases hzx : z = x
    · subst hzx
      rw [upd_same] at hz
      simp at hz
    · rw [upd_other _ _ hzx] at hz
      obtain ⟨a, b⟩ := o.po.2 z k hz
      have hk : k ≠ h.length - 1 := by
        rintro rfl
        exact hzx (b.symm.trans h2)
      exact ⟨by omega, by rw [g_front (by omega)]; exact b⟩
  · have h3 : (drop h x).Perm (drop m x) := o.perm.filter _
    have h4 : drop h x = h.dropLast := by
      have e := front_end (h := h) (by omega)
      have h5 : drop (h.dropLast ++ [g h (h.length - 1)]) x = h.dropLast := by
        rw [drop_append, drop_one, if_pos h2, List.append_nil]
        refine drop_self fun y hy hh => ?_
        obtain ⟨k, hk, rfl⟩ := mem_g hy
        rw [List.length_dropLast] at hk
        rw [g_front hk] at hh
        have := o.po.inj (i := k) (k := h.length - 1) (by omega) h1 (hh.trans h2.symm)
        omega
      rw [← e] at h5
      exact h5
    rw [← h4]
    exact h3
/-- One in the midst goes: the last one is to be settled in its place. -/
theorem Good.mid {h : List E} {p : Int → Option Nat} {N : Nat} {m : List E} (o : Good h p N m) {x : Int} {i : Nat} (hx : p x = .some i) (hi : i < h.length - 1) :
    Hole h.dropLast (upd p x .none) (N - 1) i (g h (h.length - 1)) (drop m x) ∧ Near (h.dropLast.set i (g h (h.length - 1))) i := by
  obtain ⟨h1, h2⟩ := o.po.2 x _ hx
  have hil : i < h.dropLast.length := by rw [List.length_dropLast]; exact hi
  have hne : (g h (h.length - 1)).1 ≠ x := by
    intro hh
    have := o.po.inj (i := h.length - 1) (k := i) (by omega) h1 (hh.trans h2.symm)
    omega
  have hpl := o.po.1 (h.length - 1) (by omega)
  refine ⟨⟨hil, ?_, ?_, ?_⟩, o.heap.front.near hil _⟩
  · refine ⟨fun k hk => ?_, fun z k hz => ?_⟩
    · rw [List.length_set, List.length_dropLast] at hk
      rw [g_set _ hil]
      by_cases hki : k = i
      · rw [if_pos hki, upd_same, hki]
      · rw [if_neg hki, g_front hk, upd_other, upd_other]
        · exact o.po.1 k (by omega)
        · intro hh
          exact hki (o.po.inj (by omega) h1 (hh.trans h2.symm))
        · intro hh
          have := o.po.inj (i := k) (k := h.length - 1) (by omega) (by omega) hh
          omega
    · rw [List.length_set, List.length_dropLast]
      by_cases hz1 : z = (g h (h.length - 1)).1
      · subst hz1
        rw [upd_same] at hz
        obtain rfl := Option.some.inj hz
        exact ⟨by omega, by rw [g_same _ hil]⟩
      · rw [upd_other _ _ hz1] at hz
        by_cases hzx : z = x
        · subst hzx
          rw [upd_same] at hz
          simp at hz
        · rw [upd_other _ _ hzx] at hz
          obtain ⟨a, b⟩ := o.po.2 z k hz
          have hk : k ≠ h.length - 1 := by
            rintro rfl
            exact hz1 b.symm
          have hki : k ≠ i := by
            rintro rfl
            exact hzx (b.symm.trans h2)
          exact ⟨by omega, by rw [g_other _ hil hki, g_front (by omega)]; exact b⟩
  · rw [cnt_some ((upd_other _ _ hne).trans hpl), List.length_dropLast, o.num]
  · have h3 : (drop h x).Perm (drop m x) := o.perm.filter _
    obtain ⟨a, b, e, hl, hd⟩ := out_perm o.po h1
    rw [h2] at hd
    have hb : b ≠ [] := by
      rintro rfl
      have : h.length = a.length + 1 := by rw [e]; simp
      omega
    obtain ⟨c, z, rfl⟩ : ∃ c z, b = c ++ [z] := ⟨b.dropLast, b.getLast hb, (List.dropLast_concat_getLast hb).symm⟩
    have e1 : h = (a ++ g h i :: c) ++ [z] := by
      rw [List.append_assoc, List.cons_append]
      exact e
    have e2 : g h (h.length - 1) = z := by
      have hh : ∀ w : List E, g (w ++ [z]) ((w ++ [z]).length - 1) = z := by
        intro w
        rw [List.length_append, List.length_singleton, Nat.add_sub_cancel, g_end]
      have := hh (a ++ g h i :: c)
      rw [← e1] at this
      exact this
    have e3 : h.dropLast = a ++ g h i :: c := by
      have : ∀ w : List E, (w ++ [z]).dropLast = w := fun w => by simp
      have := this (a ++ g h i :: c)
      rw [← e1] at this
      exact this
    rw [e2, e3, set_mid a c _ _ hl]
    refine List.Perm.trans ?_ h3
    rw [hd]
    exact List.perm_middle.trans ((List.perm_append_comm (l₁ := [z]) (l₂ := a ++ c)).trans (by rw [List.append_assoc]))
end Go.Proofs.Ytfhkaedpbandiaa.timer
