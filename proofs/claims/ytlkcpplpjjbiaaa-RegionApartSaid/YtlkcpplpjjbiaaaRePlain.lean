/-
  What is written and held in a region, in the program's order and in the document's: plain mathematics of lists of pairs. No condition.
-/
namespace Go.Proofs.Ytlkcpplpjjbiaaa.reg
set_option linter.unusedVariables false

abbrev E := Int × Int
/-- An object stands at a place for the first time. -/
def Stands (l : List E) (o : Int) (k : Nat) : Prop := k < l.length ∧ (l.getD k (0, 0)).1 = o ∧ ∀ j, j < k → (l.getD j (0, 0)).1 ≠ o
def Lacks (l : List E) (o : Int) : Prop := ∀ j, j < l.length → (l.getD j (0, 0)).1 ≠ o
theorem stands_or (o : Int) : ∀ l : List E, (∃ k, Stands l o k) ∨ Lacks l o
  | [] => .inr fun j hj => absurd hj (Nat.not_lt_zero j)
  | e :: r => by
    by_cases h : e.1 = o
    · exact .inl ⟨0, by simp, by simpa using h, fun j hj => absurd hj (Nat.not_lt_zero j)⟩
    · rcases stands_or o r with ⟨k, h1, h2, h3⟩ | h2
      · refine .inl ⟨k + 1, by simpa using h1, by simpa using h2, fun j hj => ?_⟩
        cases j with
        | zero => simpa using h
        | succ j => simpa using h3 j (by omega)
      · refine .inr fun j hj => ?_
        cases j with
        | zero => simpa using h
        | succ j => simpa using h2 j (by simpa using hj)
theorem lacks_iff {l : List E} {o : Int} : Lacks l o ↔ ∀ p, p ∈ l → p.1 ≠ o := by
  constructor
  · intro h p hp
    obtain ⟨j, hj, rfl⟩ := List.getElem_of_mem hp
    have := h j hj
    rwa [List.getD_eq_getElem?_getD, List.getElem?_eq_getElem hj] at this
  · intro h j hj
    rw [List.getD_eq_getElem?_getD, List.getElem?_eq_getElem hj]
    exact h _ (List.getElem_mem hj)
theorem lacks_tail {l : List E} {e : E} {o : Int} (h : Lacks (e :: l) o) : Lacks l o := fun j hj => by
  have := h (j + 1) (by simpa using hj)
  simpa using this
theorem stands_tail {l : List E} {e : E} {o : Int} {k : Nat} (h : Stands (e :: l) o (k + 1)) : Stands l o k ∧ e.1 ≠ o := by
  obtain ⟨h1, h2, h3⟩ := h
  refine ⟨⟨by simpa using h1, by simpa using h2, fun j hj => by simpa using h3 (j + 1) (by omega)⟩, by simpa using h3 0 (by omega)⟩

/-- What was written: the first time alone counts. -/
def wrote (l : List E) (c v : Int) : List E := if l.any (fun p => p.1 == c) then l else l ++ [(c, v)]
theorem wrote_lacks {l : List E} {c v : Int} (h : Lacks l c) : wrote l c v = l ++ [(c, v)] := by
  unfold wrote
  rw [if_neg]
  simp only [List.any_eq_true, not_exists, not_and]
  intro p hp e
  exact lacks_iff.1 h p hp (by simpa using e)
theorem wrote_stands {l : List E} {c v : Int} {k : Nat} (h : Stands l c k) : wrote l c v = l := by
  unfold wrote
  rw [if_pos]
  rw [List.any_eq_true]
  refine ⟨l.getD k (0, 0), ?_, by simpa using h.2.1⟩
  rw [List.getD_eq_getElem?_getD, List.getElem?_eq_getElem h.1]
  exact List.getElem_mem h.1
theorem wrote_length (l : List E) (c v : Int) : (wrote l c v).length ≤ l.length + 1 := by
  unfold wrote
  split
  · omega
  · simp

/-- More of an object were got, in the program's order. -/
def gotH : List E → Int → Int → List E
  | [], o, n => [(o, n)]
  | (a, h) :: r, o, n => if a = o then (a, h + n) :: r else (a, h) :: gotH r o n
/-- Fewer are held. -/
def lostH : List E → Int → Int → List E
  | [], o, n => []
  | (a, h) :: r, o, n => if a = o then (if n < h then (a, h - n) :: r else r) else (a, h) :: lostH r o n
theorem gotH_lacks : ∀ {l : List E} {o : Int}, Lacks l o → ∀ n, gotH l o n = l ++ [(o, n)]
  | [], o, h, n => rfl
  | (a, b) :: r, o, h, n => by
    have h0 : a ≠ o := by simpa using h 0 (by simp)
    rw [gotH, if_neg h0, gotH_lacks (lacks_tail h) n, List.cons_append]
theorem gotH_stands : ∀ {l : List E} {o : Int} {k : Nat}, Stands l o k → ∀ n, gotH l o n = l.set k ((l.getD k (0, 0)).1, (l.getD k (0, 0)).2 + n)
  | [], o, k, h, n => absurd h.1 (by simp)
  | (a, b) :: r, o, 0, h, n => by
    have h0 : a = o := by simpa using h.2.1
    rw [gotH, if_pos h0]
    rfl
  | (a, b) :: r, o, k + 1, h, n => by
    obtain ⟨h1, h2⟩ := stands_tail h
    rw [gotH, if_neg h2, gotH_stands h1 n]
    rfl
theorem lostH_lacks : ∀ {l : List E} {o : Int}, Lacks l o → ∀ n, lostH l o n = l
  | [], o, h, n => rfl
  | (a, b) :: r, o, h, n => by
    have h0 : a ≠ o := by simpa using h 0 (by simp)
    rw [lostH, if_neg h0, lostH_lacks (lacks_tail h) n]
theorem lostH_less : ∀ {l : List E} {o : Int} {k : Nat}, Stands l o k → ∀ n, n < (l.getD k (0, 0)).2 → lostH l o n = l.set k ((l.getD k (0, 0)).1, (l.getD k (0, 0)).2 - n)
  | [], o, k, h, n, hn => absurd h.1 (by simp)
  | (a, b) :: r, o, 0, h, n, hn => by
    have h0 : a = o := by simpa using h.2.1
    have hb : n < b := by simpa using hn
    rw [lostH, if_pos h0, if_pos hb]
    rfl
  | (a, b) :: r, o, k + 1, h, n, hn => by
    obtain ⟨h1, h2⟩ := stands_tail h
    rw [lostH, if_neg h2, lostH_less h1 n (by simpa using hn)]
    rfl
theorem lostH_all : ∀ {l : List E} {o : Int} {k : Nat}, Stands l o k → ∀ n, ¬ n < (l.getD k (0, 0)).2 → lostH l o n = l.take k ++ l.drop (k + 1)
  | [], o, k, h, n, hn => absurd h.1 (by simp)
  | (a, b) :: r, o, 0, h, n, hn => by
    have h0 : a = o := by simpa using h.2.1
    have hb : ¬ n < b := by simpa using hn
    rw [lostH, if_pos h0, if_neg hb]
    rfl
  | (a, b) :: r, o, k + 1, h, n, hn => by
    obtain ⟨h1, h2⟩ := stands_tail h
    rw [lostH, if_neg h2, lostH_all h1 n (by simpa using hn)]
    rfl
theorem gotH_length : ∀ (l : List E) (o n : Int), (gotH l o n).length ≤ l.length + 1
  | [], o, n => by simp [gotH]
  | (a, b) :: r, o, n => by
    have := gotH_length r o n
    rw [gotH]
    split
    · simp
    · simp; omega
theorem lostH_length : ∀ (l : List E) (o n : Int), (lostH l o n).length ≤ l.length
  | [], o, n => by simp [lostH]
  | (a, b) :: r, o, n => by
    have := lostH_length r o n
    rw [lostH]
    split
    · split
      · simp
      · simp
    · simp; omega

/-- Objects that are all others; objects that rise. -/
def Others (l : List E) : Prop := l.Pairwise fun a b => a.1 ≠ b.1
def Rises (l : List E) : Prop := l.Pairwise fun a b => a.1 < b.1
/-- The document's list: n more of an object, none of which has less than 1. -/
def addL : List E → Int → Int → List E
  | [], o, n => if 0 < n then [(o, n)] else []
  | (a, h) :: r, o, n => if a < o then (a, h) :: addL r o n else if a = o then (if 0 < h + n then (a, h + n) :: r else r) else if 0 < n then (o, n) :: (a, h) :: r else (a, h) :: r
theorem addL_length : ∀ (l : List E) (o n : Int), (addL l o n).length ≤ l.length + 1
  | [], o, n => by rw [addL]; split <;> simp
  | (a, b) :: r, o, n => by
    have := addL_length r o n
    rw [addL]
    split
    · simp; omega
    · split
      · split
        · simp
        · simp; omega
      · split
        · simp
        · simp

theorem mem_gotH : ∀ {l : List E} (hl : Others l) (o n : Int) (p : E), p ∈ gotH l o n ↔ (p ∈ l ∧ p.1 ≠ o) ∨ (p.1 = o ∧ ((∃ h, (o, h) ∈ l ∧ p.2 = h + n) ∨ ((∀ h, (o, h) ∉ l) ∧ p.2 = n)))
  | [], hl, o, n, (x, y) => by simp [gotH]
  | (a, b) :: r, hl, o, n, (x, y) => by
    obtain ⟨h1, h2⟩ := List.pairwise_cons.1 hl
    have ih := mem_gotH h2 o n (x, y)
    rw [gotH]
    split
    · rename_i e
      subst e
      have hn : ∀ z, (a, z) ∉ r := fun z hz => h1 _ hz rfl
      simp only [List.mem_cons, Prod.mk.injEq]
      constructor
      · rintro (⟨rfl, rfl⟩ | hr)
        · exact .inr ⟨rfl, .inl ⟨b, .inl ⟨trivial, rfl⟩, rfl⟩⟩
        · exact .inl ⟨.inr hr, fun e => by subst e; exact hn _ hr⟩
      · rintro (⟨⟨rfl, rfl⟩ | hr, h4⟩ | ⟨rfl, ⟨z, ⟨-, rfl⟩ | hz, h5⟩ | ⟨h5, h6⟩⟩)
        · exact absurd rfl h4
        · exact .inr hr
        · exact .inl ⟨rfl, h5⟩
        · exact absurd hz (hn z)
        · exact absurd (.inl ⟨trivial, rfl⟩) (h5 b)
    · rename_i e
      rw [List.mem_cons, ih]
      simp only [List.mem_cons, Prod.mk.injEq]
      have e2 : ¬ o = a := fun h => e h.symm
      constructor
      · rintro (⟨rfl, rfl⟩ | ⟨h3, h4⟩ | ⟨h3, ⟨z, h4, h5⟩ | ⟨h4, h5⟩⟩)
        · exact .inl ⟨.inl ⟨rfl, rfl⟩, e⟩
        · exact .inl ⟨.inr h3, h4⟩
        · exact .inr ⟨h3, .inl ⟨z, .inr h4, h5⟩⟩
        · exact .inr ⟨h3, .inr ⟨fun z => by rintro (⟨h, -⟩ | h); exact e2 h; exact h4 z h, h5⟩⟩
      · rintro (⟨⟨rfl, rfl⟩ | h3, h4⟩ | ⟨h3, ⟨z, ⟨h4, -⟩ | h4, h5⟩ | ⟨h4, h5⟩⟩)
        · exact .inl ⟨rfl, rfl⟩
        · exact .inr (.inl ⟨h3, h4⟩)
        · exact absurd h4 e2
        · exact .inr (.inr ⟨h3, .inl ⟨z, h4, h5⟩⟩)
        · exact .inr (.inr ⟨h3, .inr ⟨fun z hz => h4 z (.inr hz), h5⟩⟩)
theorem mem_lostH : ∀ {l : List E} (hl : Others l) (o n : Int) (p : E), p ∈ lostH l o n ↔ (p ∈ l ∧ p.1 ≠ o) ∨ (p.1 = o ∧ ∃ h, (o, h) ∈ l ∧ n < h ∧ p.2 = h - n)
  | [], hl, o, n, (x, y) => by simp [lostH]
  | (a, b) :: r, hl, o, n, (x, y) => by
    obtain ⟨h1, h2⟩ := List.pairwise_cons.1 hl
    have ih := mem_lostH h2 o n (x, y)
    rw [lostH]
    split
    · rename_i e
      subst e
      have hn : ∀ z, (a, z) ∉ r := fun z hz => h1 _ hz rfl
      split
      · rename_i hb
        simp only [List.mem_cons, Prod.mk.injEq]
        constructor
        · rintro (⟨rfl, rfl⟩ | hr)
          · exact .inr ⟨rfl, b, .inl ⟨trivial, rfl⟩, hb, rfl⟩
          · exact .inl ⟨.inr hr, fun e => by subst e; exact hn _ hr⟩
        · rintro (⟨⟨rfl, rfl⟩ | hr, h4⟩ | ⟨rfl, z, ⟨-, rfl⟩ | hz, h5, h6⟩)
          · exact absurd rfl h4
          · exact .inr hr
          · exact .inl ⟨rfl, h6⟩
          · exact absurd hz (hn z)
      · rename_i hb
        simp only [List.mem_cons, Prod.mk.injEq]
        constructor
        · intro hr
          exact .inl ⟨.inr hr, fun e => by subst e; exact hn _ hr⟩
        · rintro (⟨⟨rfl, rfl⟩ | hr, h4⟩ | ⟨rfl, z, ⟨-, rfl⟩ | hz, h5, h6⟩)
          · exact absurd rfl h4
          · exact hr
          · exact absurd h5 hb
          · exact absurd hz (hn z)
    · rename_i e
      rw [List.mem_cons, ih]
      simp only [List.mem_cons, Prod.mk.injEq]
      have e2 : ¬ o = a := fun h => e h.symm
      constructor
      · rintro (⟨rfl, rfl⟩ | ⟨h3, h4⟩ | ⟨h3, z, h4, h5, h6⟩)
        · exact .inl ⟨.inl ⟨rfl, rfl⟩, e⟩
        · exact .inl ⟨.inr h3, h4⟩
        · exact .inr ⟨h3, z, .inr h4, h5, h6⟩
      · rintro (⟨⟨rfl, rfl⟩ | h3, h4⟩ | ⟨h3, z, ⟨h4, -⟩ | h4, h5, h6⟩)
        · exact .inl ⟨rfl, rfl⟩
        · exact .inr (.inl ⟨h3, h4⟩)
        · exact absurd h4 e2
        · exact .inr (.inr ⟨h3, z, h4, h5, h6⟩)
theorem others_of_rises {l : List E} (h : Rises l) : Others l := h.imp fun h => Int.ne_of_lt h
theorem mem_addL : ∀ {l : List E} (hl : Rises l) (o n : Int) (p : E), p ∈ addL l o n ↔ (p ∈ l ∧ p.1 ≠ o) ∨ (p.1 = o ∧ ((∃ h, (o, h) ∈ l ∧ 0 < h + n ∧ p.2 = h + n) ∨ ((∀ h, (o, h) ∉ l) ∧ 0 < n ∧ p.2 = n)))
  | [], hl, o, n, (x, y) => by
    rw [addL]
    split
    · rename_i h; simp [h]
    · rename_i h; simp [h]
  | (a, b) :: r, hl, o, n, (x, y) => by
    obtain ⟨h1, h2⟩ := List.pairwise_cons.1 hl
    have ih := mem_addL h2 o n (x, y)
    rw [addL]
    split
    · rename_i e
      have e1 : ¬ a = o := by omega
      have e2 : ¬ o = a := by omega
      rw [List.mem_cons, ih]
      simp only [List.mem_cons, Prod.mk.injEq]
      constructor
      · rintro (⟨rfl, rfl⟩ | ⟨h3, h4⟩ | ⟨h3, ⟨z, h4, h5⟩ | ⟨h4, h5⟩⟩)
        · exact .inl ⟨.inl ⟨rfl, rfl⟩, e1⟩
        · exact .inl ⟨.inr h3, h4⟩
        · exact .inr ⟨h3, .inl ⟨z, .inr h4, h5⟩⟩
        · exact .inr ⟨h3, .inr ⟨fun z => by rintro (⟨h, -⟩ | h); exact e2 h; exact h4 z h, h5⟩⟩
      · rintro (⟨⟨rfl, rfl⟩ | h3, h4⟩ | ⟨h3, ⟨z, ⟨h4, -⟩ | h4, h5⟩ | ⟨h4, h5⟩⟩)
        · exact .inl ⟨rfl, rfl⟩
        · exact .inr (.inl ⟨h3, h4⟩)
        · exact absurd h4 e2
        · exact .inr (.inr ⟨h3, .inl ⟨z, h4, h5⟩⟩)
        · exact .inr (.inr ⟨h3, .inr ⟨fun z hz => h4 z (.inr hz), h5⟩⟩)
    · rename_i e0
      split
      · rename_i e
        subst e
        have hn : ∀ z, (a, z) ∉ r := fun z hz => absurd (h1 _ hz) (by simp)
        split
        · rename_i hb
          simp only [List.mem_cons, Prod.mk.injEq]
          constructor
          · rintro (⟨rfl, rfl⟩ | hr)
            · exact .inr ⟨rfl, .inl ⟨b, .inl ⟨trivial, rfl⟩, hb, rfl⟩⟩
            · exact .inl ⟨.inr hr, fun e => by subst e; exact hn _ hr⟩
          · rintro (⟨⟨rfl, rfl⟩ | hr, h4⟩ | ⟨rfl, ⟨z, ⟨-, rfl⟩ | hz, h5, h6⟩ | ⟨h5, h6⟩⟩)
            · exact absurd rfl h4
            · exact .inr hr
            · exact .inl ⟨rfl, h6⟩
            · exact absurd hz (hn z)
            · exact absurd (.inl ⟨trivial, rfl⟩) (h5 b)
        · rename_i hb
          simp only [List.mem_cons, Prod.mk.injEq]
          constructor
          · intro hr
            exact .inl ⟨.inr hr, fun e => by subst e; exact hn _ hr⟩
          · rintro (⟨⟨rfl, rfl⟩ | hr, h4⟩ | ⟨rfl, ⟨z, ⟨-, rfl⟩ | hz, h5, h6⟩ | ⟨h5, h6⟩⟩)
            · exact absurd rfl h4
            · exact hr
            · exact absurd h5 hb
            · exact absurd hz (hn z)
            · exact absurd (.inl ⟨trivial, rfl⟩) (h5 b)
      · rename_i e
        have hn : ∀ z, (o, z) ∉ (a, b) :: r := fun z hz => by
          rcases List.mem_cons.1 hz with h | h
          · exact e (Prod.mk.inj h).1.symm
          · have h3 := h1 _ h
            simp only at h3
            omega
        have hx : (x, y) ∈ (a, b) :: r → x ≠ o := fun h he => by subst he; exact hn _ h
        split
        · rename_i hb
          rw [List.mem_cons]
          simp only [Prod.mk.injEq]
          constructor
          · rintro (⟨rfl, rfl⟩ | hr)
            · exact .inr ⟨rfl, .inr ⟨hn, hb, rfl⟩⟩
            · exact .inl ⟨hr, hx hr⟩
          · rintro (⟨h3, h4⟩ | ⟨rfl, ⟨z, h4, h5⟩ | ⟨h4, h5, rfl⟩⟩)
            · exact .inr h3
            · exact absurd h4 (hn z)
            · exact .inl ⟨rfl, rfl⟩
        · rename_i hb
          constructor
          · intro hr
            exact .inl ⟨hr, hx hr⟩
          · rintro (⟨h3, h4⟩ | ⟨rfl, ⟨z, h4, h5⟩ | ⟨h4, h5, h6⟩⟩)
            · exact h3
            · exact absurd h4 (hn z)
            · exact absurd h5 hb
theorem keys_gotH : ∀ (l : List E) (o n : Int) (p : E), p ∈ gotH l o n → p.1 = o ∨ ∃ q ∈ l, q.1 = p.1
  | [], o, n, p, h => .inl (by simp [gotH] at h; rw [h])
  | (a, b) :: r, o, n, p, h => by
    rw [gotH] at h
    split at h
    · rcases List.mem_cons.1 h with rfl | h
      · exact .inr ⟨(a, b), by simp, rfl⟩
      · exact .inr ⟨p, by simp [h], rfl⟩
    · rcases List.mem_cons.1 h with rfl | h
      · exact .inr ⟨_, by simp, rfl⟩
      · rcases keys_gotH r o n p h with h | ⟨q, h1, h2⟩
        · exact .inl h
        · exact .inr ⟨q, by simp [h1], h2⟩
theorem keys_lostH : ∀ (l : List E) (o n : Int) (p : E), p ∈ lostH l o n → ∃ q ∈ l, q.1 = p.1
  | [], o, n, p, h => by simp [lostH] at h
  | (a, b) :: r, o, n, p, h => by
    rw [lostH] at h
    split at h
    · split at h
      · rcases List.mem_cons.1 h with rfl | h
        · exact ⟨(a, b), by simp, rfl⟩
        · exact ⟨p, by simp [h], rfl⟩
      · exact ⟨p, by simp [h], rfl⟩
    · rcases List.mem_cons.1 h with rfl | h
      · exact ⟨_, by simp, rfl⟩
      · obtain ⟨q, h1, h2⟩ := keys_lostH r o n p h
        exact ⟨q, by simp [h1], h2⟩
theorem keys_addL : ∀ (l : List E) (o n : Int) (p : E), p ∈ addL l o n → p.1 = o ∨ ∃ q ∈ l, q.1 = p.1
  | [], o, n, p, h => by
    rw [addL] at h
    split at h
    · exact .inl (by simp at h; rw [h])
    · cases h
  | (a, b) :: r, o, n, p, h => by
    rw [addL] at h
    split at h
    · rcases List.mem_cons.1 h with rfl | h
      · exact .inr ⟨_, by simp, rfl⟩
      · rcases keys_addL r o n p h with h | ⟨q, h1, h2⟩
        · exact .inl h
        · exact .inr ⟨q, by simp [h1], h2⟩
    · split at h
      · split at h
        · rcases List.mem_cons.1 h with rfl | h
          · exact .inr ⟨(a, b), by simp, rfl⟩
          · exact .inr ⟨p, by simp [h], rfl⟩
        · exact .inr ⟨p, by simp [h], rfl⟩
      · split at h
        · rcases List.mem_cons.1 h with rfl | h
          · exact .inl rfl
          · exact .inr ⟨p, h, rfl⟩
        · exact .inr ⟨p, h, rfl⟩
theorem gotH_others : ∀ {l : List E} (o n : Int), Others l → Others (gotH l o n)
  | [], o, n, h => by simp [gotH, Others]
  | (a, b) :: r, o, n, h => by
    obtain ⟨h1, h2⟩ := List.pairwise_cons.1 h
    rw [gotH]
    split
    · exact List.pairwise_cons.2 ⟨h1, h2⟩
    · rename_i e
      refine List.pairwise_cons.2 ⟨fun p hp => ?_, gotH_others o n h2⟩
      rcases keys_gotH r o n p hp with h3 | ⟨q, h3, h4⟩
      · rw [h3]; exact e
      · rw [← h4]; exact h1 q h3
theorem lostH_others : ∀ {l : List E} (o n : Int), Others l → Others (lostH l o n)
  | [], o, n, h => by simp [lostH, Others]
  | (a, b) :: r, o, n, h => by
    obtain ⟨h1, h2⟩ := List.pairwise_cons.1 h
    rw [lostH]
    split
    · split
      · exact List.pairwise_cons.2 ⟨h1, h2⟩
      · exact h2
    · refine List.pairwise_cons.2 ⟨fun p hp => ?_, lostH_others o n h2⟩
      obtain ⟨q, h3, h4⟩ := keys_lostH r o n p hp
      rw [← h4]; exact h1 q h3
theorem addL_rises : ∀ {l : List E} (o n : Int), Rises l → Rises (addL l o n)
  | [], o, n, h => by
    rw [addL]
    split <;> simp [Rises]
  | (a, b) :: r, o, n, h => by
    obtain ⟨h1, h2⟩ := List.pairwise_cons.1 h
    rw [addL]
    split
    · rename_i e
      refine List.pairwise_cons.2 ⟨fun p hp => ?_, addL_rises o n h2⟩
      rcases keys_addL r o n p hp with h3 | ⟨q, h3, h4⟩
      · rw [h3]; exact e
      · rw [← h4]; exact h1 q h3
    · rename_i e
      split
      · split
        · exact List.pairwise_cons.2 ⟨h1, h2⟩
        · exact h2
      · split
        · refine List.pairwise_cons.2 ⟨fun p hp => ?_, h⟩
          rcases List.mem_cons.1 hp with rfl | hp
          · simp only; omega
          · have h3 := h1 p hp
            simp only at h3 ⊢
            omega
        · exact h

/-- Both lists hold the same, the program's in any order, the document's rising. -/
structure Match (m : Int) (l g : List E) : Prop where
  others : Others l
  rises : Rises g
  same : ∀ p, p ∈ l ↔ p ∈ g
  pos : ∀ p, p ∈ g → 1 ≤ p.2 ∧ p.2 ≤ m
theorem Match.nil : Match 0 [] [] := ⟨List.Pairwise.nil, List.Pairwise.nil, fun _ => Iff.rfl, fun p h => by cases h⟩
theorem Match.got {m : Int} {l g : List E} (h : Match m l g) (o : Int) {n c : Int} (hn : 1 ≤ n) (hc : n ≤ c) (hm : 0 ≤ m) : Match (m + c) (gotH l o n) (addL g o n) := by
  refine ⟨gotH_others o n h.others, addL_rises o n h.rises, fun p => ?_, fun p hp => ?_⟩
  · rw [mem_gotH h.others, mem_addL h.rises]
    simp only [h.same]
    constructor
    · rintro (h3 | ⟨h3, ⟨z, h4, h5⟩ | ⟨h4, h5⟩⟩)
      · exact .inl h3
      · have := (h.pos _ h4).1
        simp only at this
        exact .inr ⟨h3, .inl ⟨z, h4, by omega, h5⟩⟩
      · exact .inr ⟨h3, .inr ⟨h4, by omega, h5⟩⟩
    · rintro (h3 | ⟨h3, ⟨z, h4, -, h5⟩ | ⟨h4, -, h5⟩⟩)
      · exact .inl h3
      · exact .inr ⟨h3, .inl ⟨z, h4, h5⟩⟩
      · exact .inr ⟨h3, .inr ⟨h4, h5⟩⟩
  · rcases (mem_addL h.rises o n p).1 hp with ⟨h3, -⟩ | ⟨h3, ⟨z, h4, h5, h6⟩ | ⟨h4, h5, h6⟩⟩
    · have := h.pos _ h3
      omega
    · have := (h.pos _ h4).2
      simp only at this
      omega
    · omega
theorem Match.lost {m : Int} {l g : List E} (h : Match m l g) (o : Int) {n : Int} (hn : 1 ≤ n) : Match m (lostH l o n) (addL g o (-n)) := by
  refine ⟨lostH_others o n h.others, addL_rises o (-n) h.rises, fun p => ?_, fun p hp => ?_⟩
  · rw [mem_lostH h.others, mem_addL h.rises]
    simp only [h.same]
    constructor
    · rintro (h3 | ⟨h3, z, h4, h5, h6⟩)
      · exact .inl h3
      · exact .inr ⟨h3, .inl ⟨z, h4, by omega, by omega⟩⟩
    · rintro (h3 | ⟨h3, ⟨z, h4, h5, h6⟩ | ⟨h4, h5, h6⟩⟩)
      · exact .inl h3
      · exact .inr ⟨h3, z, h4, by omega, by omega⟩
      · omega
  · rcases (mem_addL h.rises o (-n) p).1 hp with ⟨h3, -⟩ | ⟨h3, ⟨z, h4, h5, h6⟩ | ⟨h4, h5, h6⟩⟩
    · exact h.pos _ h3
    · have := (h.pos _ h4).2
      simp only at this
      omega
    · omega
theorem Match.more {m c : Int} {l g : List E} (h : Match m l g) (hc : 0 ≤ c) : Match (m + c) l g := ⟨h.others, h.rises, h.same, fun p hp => by have := h.pos p hp; omega⟩
/-- Two lists that rise and hold the same are one. -/
theorem rises_ext : ∀ {a b : List E}, Rises a → Rises b → (∀ p, p ∈ a ↔ p ∈ b) → a = b
  | [], [], _, _, _ => rfl
  | [], y :: b, _, _, h => absurd ((h y).2 (by simp)) (by simp)
  | x :: a, [], _, _, h => absurd ((h x).1 (by simp)) (by simp)
  | x :: a, y :: b, ha, hb, h => by
    obtain ⟨a1, a2⟩ := List.pairwise_cons.1 ha
    obtain ⟨b1, b2⟩ := List.pairwise_cons.1 hb
    have e : x = y := by
      rcases List.mem_cons.1 ((h x).1 (by simp)) with e | hx
      · exact e
      · rcases List.mem_cons.1 ((h y).2 (by simp)) with e | hy
        · exact e.symm
        · have := b1 x hx
          have := a1 y hy
          omega
    subst e
    have e2 : a = b := rises_ext a2 b2 fun p => by
      constructor
      · intro hp
        rcases List.mem_cons.1 ((h p).1 (by simp [hp])) with e | hp2
        · subst e
          have := a1 p hp
          omega
        · exact hp2
      · intro hp
        rcases List.mem_cons.1 ((h p).2 (by simp [hp])) with e | hp2
        · subst e
          have := b1 p hp
          omega
        · exact hp2
    rw [e2]
end Go.Proofs.Ytlkcpplpjjbiaaa.reg
