/-
  A heap of entries, each an id and a time, and where each id stands: what settling an entry keeps, without a program. No condition.
-/
namespace Go.Proofs.Ytfhkaedpbandiaa.timer

abbrev E := Int × Int
/-- One is told ahead of another. -/
def ahd (e f : E) : Bool := decide (e.2 < f.2 ∨ e.2 = f.2 ∧ e.1 < f.1)
theorem ahd_iff (e f : E) : ahd e f = true ↔ (e.2 < f.2 ∨ e.2 = f.2 ∧ e.1 < f.1) := by simp [ahd]
theorem ahd_false (e f : E) : ahd e f = false ↔ (f.2 < e.2 ∨ f.2 = e.2 ∧ f.1 ≤ e.1) := by
  rw [← Bool.not_eq_true, ahd_iff]
  omega
theorem ahd_self (e : E) : ahd e e = false := by rw [ahd_false]; omega
theorem ahd_asymm {e f : E} (h : ahd e f = true) : ahd f e = false := by rw [ahd_iff] at h; rw [ahd_false]; omega
/-- 'not ahead' goes on. -/
theorem back_trans {e f g : E} (h : ahd e f = false) (k : ahd f g = false) : ahd e g = false := by rw [ahd_false] at *; omega
theorem ahd_eq {e f : E} (h : ahd e f = false) (k : ahd f e = false) : e = f := by
  rw [ahd_false] at *
  obtain ⟨a, b⟩ := e
  obtain ⟨c, d⟩ := f
  simp only at *
  congr 1 <;> omega

/-- The entry at a place. -/
def g (h : List E) (k : Nat) : E := h.getD k (0, 0)
theorem g_get {h : List E} {k : Nat} (hk : k < h.length) : g h k = h[k] := by simp [g, hk]
theorem g_mem {h : List E} {k : Nat} (hk : k < h.length) : g h k ∈ h := by rw [g_get hk]; exact List.getElem_mem hk
theorem mem_g {h : List E} {e : E} (he : e ∈ h) : ∃ k, k < h.length ∧ g h k = e := by
  obtain ⟨k, hk, e⟩ := List.getElem_of_mem he
  exact ⟨k, hk, by rw [g_get hk, e]⟩
theorem g_set {h : List E} {i : Nat} (e : E) (hi : i < h.length) (k : Nat) : g (h.set i e) k = if k = i then e else g h k := by
  unfold g
  by_cases hk : k = i
  · subst hk
    simp [List.getD, hi]
  · rw [if_neg hk]
    simp [List.getD, Ne.symm hk]
theorem g_same {h : List E} {i : Nat} (e : E) (hi : i < h.length) : g (h.set i e) i = e := by rw [g_set e hi, if_pos rfl]
theorem g_other {h : List E} {i : Nat} (e : E) (hi : i < h.length) {k : Nat} (hk : k ≠ i) : g (h.set i e) k = g h k := by rw [g_set e hi, if_neg hk]

def upd (p : Int → Option Nat) (x : Int) (v : Option Nat) : Int → Option Nat := fun y => if y = x then v else p y
theorem upd_same (p : Int → Option Nat) (x : Int) (v : Option Nat) : upd p x v x = v := by simp [upd]
theorem upd_other (p : Int → Option Nat) {x y : Int} (v : Option Nat) (h : y ≠ x) : upd p x v y = p y := by simp [upd, h]

/-- Where each id stands, is told. -/
def PO (h : List E) (p : Int → Option Nat) : Prop := (∀ k, k < h.length → p (g h k).1 = some k) ∧ ∀ x k, p x = some k → k < h.length ∧ (g h k).1 = x
theorem PO.inj {h : List E} {p : Int → Option Nat} (o : PO h p) {i k : Nat} (hi : i < h.length) (hk : k < h.length) (e : (g h i).1 = (g h k).1) : i = k := by
  have h1 := o.1 i hi
  rw [e, o.1 k hk] at h1
  exact (Option.some.inj h1).symm

/-- No entry is ahead of the one above it, but for place i: of it nothing is known; those below it are not ahead of the one above it. -/
def Near (h : List E) (i : Nat) : Prop :=
  (∀ k, 0 < k → k < h.length → k ≠ i → (k - 1) / 2 ≠ i → ahd (g h k) (g h ((k - 1) / 2)) = false) ∧
  (∀ k, 0 < k → k < h.length → (k - 1) / 2 = i → 0 < i → ahd (g h k) (g h ((i - 1) / 2)) = false)
/-- Nor is that at i ahead of the one above it. -/
def Up (h : List E) (i : Nat) : Prop := 0 < i → ahd (g h i) (g h ((i - 1) / 2)) = false
def Heap (h : List E) : Prop := ∀ k, 0 < k → k < h.length → ahd (g h k) (g h ((k - 1) / 2)) = false

theorem Heap.root {h : List E} (o : Heap h) : ∀ k, k < h.length → ahd (g h k) (g h 0) = false := by
  intro k
  induction k using Nat.strongRecOn with
  | ind k ih =>
    intro hk
    by_cases h0 : k = 0
    · subst h0
      exact ahd_self _
    · exact back_trans (o k (by omega) hk) (ih ((k - 1) / 2) (by omega) (by omega))
theorem Heap.near {h : List E} (o : Heap h) {i : Nat} (hi : i < h.length) (e : E) : Near (h.set i e) i := by
  refine ⟨fun k h0 hk h1 h2 => ?_, fun k h0 hk h1 h2 => ?_⟩
  · rw [List.length_set] at hk
    rw [g_other e hi h1, g_other e hi h2]
    exact o k h0 hk
  · rw [List.length_set] at hk
    rw [g_other e hi (by omega), g_other e hi (by omega)]
    have a := o k h0 hk
    rw [h1] at a
    exact back_trans a (o i h2 hi)
theorem Heap.front {h : List E} (o : Heap h) : Heap h.dropLast := by
  intro k h0 hk
  rw [List.length_dropLast] at hk
  have e : ∀ j, j < h.length - 1 → g h.dropLast j = g h j := by
    intro j hj
    rw [g_get (by rw [List.length_dropLast]; exact hj), g_get (by omega), List.getElem_dropLast]
  rw [e k hk, e _ (by omega)]
  exact o k h0 (by omega)

/-- What two entries that change places leave. -/
def swap (V : List E) (i k : Nat) : List E := (V.set i (g V k)).set k (g V i)
theorem swap_length (V : List E) (i k : Nat) : (swap V i k).length = V.length := by simp [swap]
theorem g_swap {V : List E} {i k : Nat} (hi : i < V.length) (hk : k < V.length) (j : Nat) : g (swap V i k) j = if j = k then g V i else if j = i then g V k else g V j := by
  unfold swap
  rw [g_set _ (by rw [List.length_set]; exact hk), g_set _ hi]
theorem swap_perm {V : List E} {i k : Nat} (hi : i < V.length) (hk : k < V.length) : (swap V i k).Perm V := by
  unfold swap
  rw [g_get hi, g_get hk]
  exact List.set_set_perm hi hk

/-- Up: the entry at i is ahead of the one above it: they change places. -/
theorem Near.up {V : List E} {i : Nat} (o : Near V i) (h0 : 0 < i) (hi : i < V.length) (h : ahd (g V i) (g V ((i - 1) / 2)) = true) : Near (swap V i ((i - 1) / 2)) ((i - 1) / 2) := by
  have hq : (i - 1) / 2 < V.length := by omega
  have hqi : (i - 1) / 2 < i := by omega
  generalize hqe : (i - 1) / 2 = q at *
  refine ⟨fun k k0 hk k1 k2 => ?_, fun k k0 hk k1 k2 => ?_⟩
  · rw [swap_length] at hk
    rw [g_swap hi hq, g_swap hi hq, if_neg k1, if_neg k2, if_neg (by intro e; subst e; exact k2 hqe)]
    by_cases h3 : (k - 1) / 2 = i
    · rw [if_pos h3]
      have := o.2 k k0 hk h3 h0
      rw [hqe] at this
      exact this
    · rw [if_neg h3]
      exact o.1 k k0 hk (by intro e; subst e; exact k2 hqe) h3
  · rw [swap_length] at hk
    have hqq : ahd (g V q) (g V ((q - 1) / 2)) = false := o.1 q k2 hq (by omega) (by omega)
    rw [g_swap hi hq, g_swap hi hq, if_neg (by omega : k ≠ q), if_neg (by omega : (q - 1) / 2 ≠ q), if_neg (by omega : (q - 1) / 2 ≠ i)]
    by_cases h3 : k = i
    · rw [if_pos h3]
      exact hqq
    · rw [if_neg h3]
      have := o.1 k k0 hk h3 (by omega)
      rw [k1] at this
      exact back_trans this hqq

/-- Which of the two below a place is ahead of the other. -/
def lower (h : List E) (i : Nat) : Nat := if 2 * i + 2 < h.length ∧ ahd (g h (2 * i + 2)) (g h (2 * i + 1)) = true then 2 * i + 2 else 2 * i + 1
theorem lower_ge (h : List E) (i : Nat) : i < lower h i ∧ (lower h i - 1) / 2 = i ∧ lower h i ≤ 2 * i + 2 := by
  unfold lower
  split <;> omega
theorem lower_least {h : List E} {i : Nat} {k : Nat} (k0 : 0 < k) (hk : k < h.length) (e : (k - 1) / 2 = i) : ahd (g h k) (g h (lower h i)) = false := by
  have hk2 : k = 2 * i + 1 ∨ k = 2 * i + 2 := by omega
  unfold lower
  by_cases hc : 2 * i + 2 < h.length ∧ ahd (g h (2 * i + 2)) (g h (2 * i + 1)) = true
  · rw [if_pos hc]
    rcases hk2 with rfl | rfl
    · exact ahd_asymm hc.2
    · exact ahd_self _
  · rw [if_neg hc]
    rcases hk2 with rfl | rfl
    · exact ahd_self _
    · have h1 : ¬ ahd (g h (2 * i + 2)) (g h (2 * i + 1)) = true := fun h2 => hc ⟨hk, h2⟩
      simpa using h1
theorem lower_le {h : List E} {i : Nat} (hl : ¬ lower h i < h.length) : h.length ≤ 2 * i + 1 := by
  unfold lower at hl
  split at hl <;> omega

/-- Down: the first of those below i is ahead of the entry at i: they change places. -/
theorem Near.down {V : List E} {i : Nat} (o : Near V i) (hi : i < V.length) (hc : lower V i < V.length) (h : ahd (g V (lower V i)) (g V i) = true) :
    Near (swap V i (lower V i)) (lower V i) ∧ Up (swap V i (lower V i)) (lower V i) := by
  obtain ⟨c1, c2, _⟩ := lower_ge V i
  have hl := fun k (k0 : 0 < k) (hk : k < V.length) (e : (k - 1) / 2 = i) => lower_least k0 hk e
  generalize lower V i = c at *
  refine ⟨⟨fun k k0 hk k1 k2 => ?_, fun k k0 hk k1 k2 => ?_⟩, fun _ => ?_⟩
  · rw [swap_length] at hk
    rw [g_swap hi hc, g_swap hi hc, if_neg k1, if_neg k2]
    by_cases h3 : k = i
    · subst h3
      rw [if_pos rfl, if_neg (by omega)]
      exact o.2 c (by omega) hc c2 k0
    · rw [if_neg h3]
      by_cases h4 : (k - 1) / 2 = i
      · rw [if_pos h4]
        exact hl k k0 hk h4
      · rw [if_neg h4]
        exact o.1 k k0 hk h3 h4
  · rw [swap_length] at hk
    rw [g_swap hi hc, g_swap hi hc, if_neg (by omega : k ≠ c), if_neg (by omega : k ≠ i), c2, if_neg (by omega : i ≠ c), if_pos rfl]
    have := o.1 k k0 hk (by omega) (by omega)
    rw [k1] at this
    exact this
  · rw [g_swap hi hc, g_swap hi hc, if_pos rfl, c2, if_neg (by omega : i ≠ c), if_pos rfl]
    exact ahd_asymm h
/-- None below i is ahead of it: all is in order. -/
theorem Near.done {V : List E} {i : Nat} (o : Near V i) (u : Up V i) (h : lower V i < V.length → ahd (g V (lower V i)) (g V i) = false) : Heap V := by
  intro k k0 hk
  by_cases h1 : k = i
  · subst h1
    exact u k0
  by_cases h2 : (k - 1) / 2 = i
  · have h3 : lower V i < V.length := by
      by_cases h4 : lower V i < V.length
      · exact h4
      · have := lower_le h4
        omega
    rw [h2]
    exact back_trans (lower_least k0 hk h2) (h h3)
  · exact o.1 k k0 hk h1 h2

/-- How many ids are kept, with x besides. -/
def cnt (p : Int → Option Nat) (N : Nat) (x : Int) : Nat := if (p x).isSome then N else N + 1
theorem cnt_some {p : Int → Option Nat} {N : Nat} {x : Int} {k : Nat} (h : p x = some k) : cnt p N x = N := by simp [cnt, h]
theorem cnt_none {p : Int → Option Nat} {N : Nat} {x : Int} (h : p x = none) : cnt p N x = N + 1 := by simp [cnt, h]

/-- What a heap is while an entry e is being settled, with place i free for it: h's own entry at i, and where e's id is said to stand, say nothing; n ids are kept. -/
structure Hole (h : List E) (p : Int → Option Nat) (N i : Nat) (e : E) (V : List E) : Prop where
  lt : i < h.length
  po : PO (h.set i e) (upd p e.1 (some i))
  num : cnt p N e.1 = h.length
  perm : (h.set i e).Perm V

theorem Hole.len {h : List E} {p : Int → Option Nat} {N i : Nat} {e : E} {V : List E} (o : Hole h p N i e V) : h.length = V.length := by
  have := o.perm.length_eq
  rw [List.length_set] at this
  exact this
/-- The entry of another place moves to the free one. -/
theorem Hole.move {h : List E} {p : Int → Option Nat} {N i : Nat} {e : E} {V : List E} (o : Hole h p N i e V) {k : Nat} (hk : k < h.length) (hki : k ≠ i) :
    Hole (h.set i (g h k)) (upd p (g h k).1 (some i)) (cnt p N (g h k).1) k e V ∧ (h.set i (g h k)).set k e = swap (h.set i e) i k := by
  have hi := o.lt
  have hs : (h.set i (g h k)).set k e = swap (h.set i e) i k := by
    unfold swap
    rw [g_same e hi, g_other e hi hki, List.set_set]
  have e1 : g (h.set i e) k = g h k := g_other e hi hki
  have hne : (g h k).1 ≠ e.1 := by
    intro hh
    exact hki (o.po.inj (by rw [List.length_set]; exact hk) (by rw [List.length_set]; exact hi) (by rw [e1, g_same e hi]; exact hh))
  have hpk : p (g h k).1 = some k := by
    have := o.po.1 k (by rw [List.length_set]; exact hk)
    rw [e1, upd_other _ _ hne] at this
    exact this
  refine ⟨⟨by rw [List.length_set]; exact hk, ?_, ?_, ?_⟩, hs⟩
  · rw [hs]
    have hiV : i < (h.set i e).length := by rw [List.length_set]; exact hi
    have hkV : k < (h.set i e).length := by rw [List.length_set]; exact hk
    refine ⟨fun j hj => ?_, fun x j hx => ?_⟩
    · rw [swap_length] at hj
      rw [g_swap hiV hkV]
      by_cases j1 : j = k
      · rw [if_pos j1, g_same e hi, upd_same, j1]
      · rw [if_neg j1]
        by_cases j2 : j = i
        · rw [if_pos j2, e1, upd_other _ _ hne, upd_same, j2]
        · rw [if_neg j2]
          have h1 := o.po.1 j hj
          have n1 : (g (h.set i e) j).1 ≠ e.1 := fun hh => j2 (o.po.inj hj hiV (by rw [hh, g_same e hi]))
          have n2 : (g (h.set i e) j).1 ≠ (g h k).1 := fun hh => j1 (o.po.inj hj hkV (by rw [hh, e1]))
          rw [upd_other _ _ n1] at h1
          rw [upd_other _ _ n1, upd_other _ _ n2, h1]
    · rw [swap_length, g_swap hiV hkV]
      by_cases x1 : x = e.1
      · subst x1
        rw [upd_same] at hx
        obtain rfl := Option.some.inj hx
        exact ⟨hkV, by rw [if_pos rfl, g_same e hi]⟩
      · rw [upd_other _ _ x1] at hx
        by_cases x2 : x = (g h k).1
        · subst x2
          rw [upd_same] at hx
          obtain rfl := Option.some.inj hx
          exact ⟨hiV, by rw [if_neg (Ne.symm hki), if_pos rfl, e1]⟩
        · rw [upd_other _ _ x2] at hx
          obtain ⟨a, b⟩ := o.po.2 x j (by rw [upd_other _ _ x1]; exact hx)
          refine ⟨a, ?_⟩
          rw [if_neg (fun hh => x2 (by rw [← b, hh, e1])), if_neg (fun hh => x1 (by rw [← b, hh, g_same e hi]))]
          exact b
  · rw [cnt_some hpk, List.length_set]
    have := o.num
    unfold cnt at this ⊢
    rw [upd_other _ _ (Ne.symm hne)]
    exact this
  · rw [hs]
    exact (swap_perm (by rw [List.length_set]; exact hi) (by rw [List.length_set]; exact hk)).trans o.perm
end Go.Proofs.Ytfhkaedpbandiaa.timer
