/-
  A row that goes round, as a list: what stands in it, and what a store at its ends makes of it. No condition.
-/
namespace Go.Proofs.Ytklobefidgnbkaa.ring

/-- What stands in a row: k of the cells D, from f on, round the end. -/
def view (D : List Int) (f k : Nat) : List Int := (List.range k).map fun i => D.getD ((f + i) % D.length) 0

theorem view_length (D : List Int) (f k : Nat) : (view D f k).length = k := by simp [view]
theorem view_zero (D : List Int) (f : Nat) : view D f 0 = [] := rfl
theorem view_get {D : List Int} {f k i : Nat} (h : i < k) : (view D f k).getD i 0 = D.getD ((f + i) % D.length) 0 := by
  simp [view, List.getD, h]
theorem view_succ (D : List Int) (f k : Nat) : view D f (k + 1) = view D f k ++ [D.getD ((f + k) % D.length) 0] := by
  simp [view, List.range_succ]

theorem mod_ne {f i k n : Nat} (h1 : i < k) (h2 : k < n) : (f + i) % n ≠ (f + k) % n := by
  intro e
  have h3 := Nat.sub_mod_eq_zero_of_mod_eq e.symm
  rw [show f + k - (f + i) = k - i by omega, Nat.mod_eq_of_lt (by omega)] at h3
  omega

theorem getD_set_ne {D : List Int} {p q : Nat} {x : Int} (h : p ≠ q) : (D.set p x).getD q 0 = D.getD q 0 := by
  simp [List.getD, h]
theorem getD_set_eq {D : List Int} {p : Nat} {x : Int} (h : p < D.length) : (D.set p x).getD p 0 = x := by
  simp [List.getD, h]

/-- A store behind the last one turns nothing of what stands there. -/
theorem view_out {D : List Int} {f k : Nat} {x : Int} (h : k < D.length) : view (D.set ((f + k) % D.length) x) f k = view D f k := by
  unfold view
  apply List.map_congr_left
  intro i hi
  have hi' : i < k := by simpa using hi
  rw [List.length_set, getD_set_ne (mod_ne hi' h).symm]
theorem view_back {D : List Int} {f k : Nat} {x : Int} (h : k < D.length) : view (D.set ((f + k) % D.length) x) f (k + 1) = view D f k ++ [x] := by
  rw [view_succ, view_out h, List.length_set, getD_set_eq (Nat.mod_lt _ (by omega))]

theorem view_mod (D : List Int) (f k : Nat) : view D (f % D.length) k = view D f k := by
  unfold view
  apply List.map_congr_left
  intro i _
  rw [Nat.mod_add_mod]
theorem view_head (D : List Int) (f k : Nat) : view D f (k + 1) = D.getD (f % D.length) 0 :: view D (f + 1) k := by
  unfold view
  rw [List.range_succ_eq_map]
  simp only [List.map_cons, List.map_map, Nat.add_zero]
  congr 1
  apply List.map_congr_left
  intro i _
  simp only [Function.comp]
  rw [show f + i.succ = f + 1 + i by omega]
/-- A store at the first one turns nothing of the others. -/
theorem view_rest {D : List Int} {f k : Nat} {x : Int} (h : k < D.length) : view (D.set (f % D.length) x) (f + 1) k = view D (f + 1) k := by
  unfold view
  apply List.map_congr_left
  intro i hi
  have hi' : i < k := by simpa using hi
  rw [List.length_set, show f + 1 + i = f + (i + 1) by omega, show f % D.length = (f + 0) % D.length by rw [Nat.add_zero]]
  rw [getD_set_ne (mod_ne (by omega) (by omega))]
theorem view_front {D : List Int} {f k : Nat} {x : Int} (h : k < D.length) :
    view (D.set ((f + (D.length - 1)) % D.length) x) ((f + (D.length - 1)) % D.length) (k + 1) = x :: view D f k := by
  have hn : 0 < D.length := by omega
  have e1 := view_head (D.set ((f + (D.length - 1)) % D.length) x) ((f + (D.length - 1)) % D.length) k
  rw [e1, List.length_set, Nat.mod_mod, getD_set_eq (Nat.mod_lt _ hn)]
  congr 1
  have e2 := view_rest (D := D) (f := f + (D.length - 1)) (x := x) h
  have e3 : view (D.set ((f + (D.length - 1)) % D.length) x) ((f + (D.length - 1)) % D.length + 1) k = view (D.set ((f + (D.length - 1)) % D.length) x) (f + (D.length - 1) + 1) k := by
    rw [← view_mod _ ((f + (D.length - 1)) % D.length + 1), ← view_mod _ (f + (D.length - 1) + 1), List.length_set, Nat.mod_add_mod]
  rw [e3, e2, ← view_mod D (f + (D.length - 1) + 1), show f + (D.length - 1) + 1 = f + D.length by omega, Nat.add_mod_right, view_mod]
theorem view_popFront {D : List Int} {f k : Nat} {x : Int} (h : k < D.length) : view (D.set (f % D.length) x) ((f + 1) % D.length) k = view D (f + 1) k := by
  have e := view_mod (D.set (f % D.length) x) (f + 1) k
  rw [List.length_set] at e
  rw [e, view_rest h]
theorem view_laid (l : List Int) (r : List Int) : view (l ++ r) 0 l.length = l := by
  apply List.ext_getElem
  · simp [view]
  · intro i h1 h2
    have h3 : i < l.length := h2
    have h4 : i < l.length + r.length := by omega
    simp [view, List.getD, Nat.mod_eq_of_lt h4, List.getElem?_append_left h3, List.getElem?_eq_getElem h3]

/-- What a call makes of what stands in a row of a room: the row behind, what is answered, and whether. -/
def play (room : Nat) (m : List Int) (k x : Int) : List Int × Int × Bool :=
  if k = 0 then (if m.length < room then (m ++ [x], 0, true) else (m, 0, false))
  else if k = 1 then (if m.length < room then (x :: m, 0, true) else (m, 0, false))
  else if k = 2 then (if m = [] then (m, 0, false) else (m.dropLast, m.getD (m.length - 1) 0, true))
  else if k = 3 then (if m = [] then (m, 0, false) else (m.tail, m.getD 0 0, true))
  else (if 0 ≤ x ∧ x < m.length then (m, m.getD x.toNat 0, true) else (m, 0, false))
theorem play_length {room : Nat} {m : List Int} (k x : Int) (h : m.length ≤ room) : (play room m k x).1.length ≤ room := by
  unfold play
  repeat' split
  all_goals simp <;> omega
end Go.Proofs.Ytklobefidgnbkaa.ring
