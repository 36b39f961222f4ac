/-
  Cells: objects whose values are guarded, as the document has them, rising by object: plain mathematics. No condition.
-/
import Derived.Test.YtdmcmgcecdgegaaDPlain
import Derived.Test.YtdmcmgcecdgegaaPoPlain
namespace Go.Proofs.Ytdmcmgcecdgegaa.cel
open Go.Proofs.Ytdmcmgcecdgegaa.word (low Word low_word)
open Go.Proofs.Ytdmcmgcecdgegaa.objs (De zero)
set_option linter.unusedVariables false

/-- The cells among objects, of which the first is the k-th: object, value, and what guards it. -/
def cellsOf : Nat → List De → List De
  | _, [] => []
  | k, d :: r => if d.1 = 7 then ((k : Int), low d.2.1, d.2.2) :: cellsOf (k + 1) r else cellsOf (k + 1) r
/-- Objects and values. -/
def vals (g : List De) : List (Int × Int) := g.map fun e => (e.1, e.2.1)
/-- The cell that an object is stands at k. -/
def Stands (g : List De) (obj : Int) (k : Nat) : Prop := k < g.length ∧ (g.getD k zero).1 = obj
def Lacks (g : List De) (obj : Int) : Prop := ∀ k, k < g.length → (g.getD k zero).1 ≠ obj
/-- Each stands behind those of lower objects. -/
def Rising (g : List De) : Prop := ∀ i j, i < j → j < g.length → (g.getD i zero).1 < (g.getD j zero).1
theorem stands_or (obj : Int) : ∀ g : List De, (∃ k, Stands g obj k) ∨ Lacks g obj
  | [] => .inr fun k h => absurd h (Nat.not_lt_zero k)
  | e :: r => by
    by_cases he : e.1 = obj
    · exact .inl ⟨0, by simp, he⟩
    · rcases stands_or obj r with ⟨k, h1, h2⟩ | h
      · exact .inl ⟨k + 1, by simpa using h1, by simpa using h2⟩
      · refine .inr fun k hk => ?_
        cases k with
        | zero => exact he
        | succ k => simpa using h k (by simpa using hk)
theorem Stands.uniq {g : List De} {obj : Int} {k j : Nat} (hr : Rising g) (h : Stands g obj k) (h2 : Stands g obj j) : k = j := by
  rcases Nat.lt_trichotomy k j with h3 | h3 | h3
  · have := hr k j h3 h2.1
    rw [h.2, h2.2] at this
    omega
  · exact h3
  · have := hr j k h3 h.1
    rw [h.2, h2.2] at this
    omega
theorem Stands.lacks {g : List De} {obj : Int} {k : Nat} (h : Stands g obj k) (h2 : Lacks g obj) : False := h2 k h.1 h.2

theorem cellsOf_length : ∀ (d : List De) (k : Nat), (cellsOf k d).length ≤ d.length
  | [], k => Nat.le_refl _
  | d :: r, k => by
    have := cellsOf_length r (k + 1)
    unfold cellsOf
    split
    · simp only [List.length_cons]; omega
    · simp only [List.length_cons]; omega
theorem cellsOf_append : ∀ (d e : List De) (k : Nat), cellsOf k (d ++ e) = cellsOf k d ++ cellsOf (k + d.length) e
  | [], e, k => by simp [cellsOf]
  | x :: r, e, k => by
    have := cellsOf_append r e (k + 1)
    simp only [List.cons_append, cellsOf, List.length_cons]
    rw [this, show k + 1 + r.length = k + (r.length + 1) by omega]
    split <;> simp
/-- The cells among the first objects. -/
def upto (d : List De) (k : Nat) : List De := cellsOf 0 (d.take k)
theorem upto_zero (d : List De) : upto d 0 = [] := rfl
theorem upto_all (d : List De) : upto d d.length = cellsOf 0 d := by unfold upto; rw [List.take_length]
theorem take_next {d : List De} {k : Nat} (h : k < d.length) : d.take (k + 1) = d.take k ++ [d.getD k zero] := by
  rw [List.take_add_one, List.getD_eq_getElem?_getD, List.getElem?_eq_getElem h]
  rfl
theorem upto_yes {d : List De} {k : Nat} (h : k < d.length) (h7 : (d.getD k zero).1 = 7) : upto d (k + 1) = upto d k ++ [((k : Int), low (d.getD k zero).2.1, (d.getD k zero).2.2)] := by
  unfold upto
  rw [take_next h, cellsOf_append, List.length_take, Nat.min_eq_left (Nat.le_of_lt h)]
  simp only [cellsOf, if_pos h7, Nat.zero_add]
theorem upto_no {d : List De} {k : Nat} (h : k < d.length) (h7 : (d.getD k zero).1 ≠ 7) : upto d (k + 1) = upto d k := by
  unfold upto
  rw [take_next h, cellsOf_append, List.length_take, Nat.min_eq_left (Nat.le_of_lt h)]
  simp only [cellsOf, if_neg h7, List.append_nil]
theorem upto_length (d : List De) (k : Nat) : (upto d k).length ≤ k := by
  have := cellsOf_length (d.take k) 0
  rw [List.length_take] at this
  unfold upto
  omega
theorem cellsOf_ge : ∀ (d : List De) (k j : Nat), j < (cellsOf k d).length → (k : Int) ≤ ((cellsOf k d).getD j zero).1 ∧ ((cellsOf k d).getD j zero).1 < ((k + d.length : Nat) : Int)
  | [], k, j, h => absurd h (Nat.not_lt_zero j)
  | x :: r, k, j, h => by
    unfold cellsOf at h ⊢
    split
    · rename_i h7
      rw [if_pos h7] at h
      cases j with
      | zero => simp only [List.getD_cons_zero, List.length_cons]; omega
      | succ j =>
        have := cellsOf_ge r (k + 1) j (by simpa using h)
        simp only [List.getD_cons_succ, List.length_cons]
        omega
    · rename_i h7
      rw [if_neg h7] at h
      have := cellsOf_ge r (k + 1) j h
      simp only [List.length_cons]
      omega
theorem cellsOf_rising : ∀ (d : List De) (k : Nat), Rising (cellsOf k d)
  | [], k => fun i j _ h => absurd h (Nat.not_lt_zero j)
  | x :: r, k => by
    have ih := cellsOf_rising r (k + 1)
    unfold cellsOf
    split
    · intro i j hij hj
      cases j with
      | zero => omega
      | succ j =>
        have hj2 : j < (cellsOf (k + 1) r).length := by simpa using hj
        cases i with
        | zero =>
          have := (cellsOf_ge r (k + 1) j hj2).1
          simp only [List.getD_cons_zero, List.getD_cons_succ]
          omega
        | succ i => simpa using ih i j (by omega) hj2
    · exact ih
/-- Each cell is what was declared. -/
theorem cellsOf_is : ∀ (d : List De) (k j : Nat), j < (cellsOf k d).length → ∃ t, t < d.length ∧ ((cellsOf k d).getD j zero).1 = ((k + t : Nat) : Int) ∧ ((cellsOf k d).getD j zero).2.1 = low (d.getD t zero).2.1 ∧ ((cellsOf k d).getD j zero).2.2 = (d.getD t zero).2.2
  | [], k, j, h => absurd h (Nat.not_lt_zero j)
  | x :: r, k, j, h => by
    unfold cellsOf at h ⊢
    split
    · rename_i h7
      rw [if_pos h7] at h
      cases j with
      | zero => exact ⟨0, by simp, by simp, by simp, by simp⟩
      | succ j =>
        obtain ⟨t, h1, h2, h3, h4⟩ := cellsOf_is r (k + 1) j (by simpa using h)
        refine ⟨t + 1, by simpa using h1, ?_, by simpa using h3, by simpa using h4⟩
        simp only [List.getD_cons_succ]
        rw [h2, show k + 1 + t = k + (t + 1) by omega]
    · rename_i h7
      rw [if_neg h7] at h
      obtain ⟨t, h1, h2, h3, h4⟩ := cellsOf_is r (k + 1) j h
      refine ⟨t + 1, by simpa using h1, ?_, by simpa using h3, by simpa using h4⟩
      rw [h2, show k + 1 + t = k + (t + 1) by omega]

/-- Another value of the k-th. -/
def setK (g : List De) (k : Nat) (v : Int) : List De := g.set k ((g.getD k zero).1, low v, (g.getD k zero).2.2)
theorem setK_length (g : List De) (k : Nat) (v : Int) : (setK g k v).length = g.length := by simp [setK]
theorem setK_at {g : List De} {k : Nat} (h : k < g.length) (v : Int) : (setK g k v).getD k zero = ((g.getD k zero).1, low v, (g.getD k zero).2.2) := by
  unfold setK
  rw [List.getD_eq_getElem?_getD, List.getElem?_set_self h]
  rfl
theorem setK_ne (g : List De) {k j : Nat} (h : k ≠ j) (v : Int) : (setK g k v).getD j zero = g.getD j zero := by
  unfold setK
  rw [List.getD_eq_getElem?_getD, List.getElem?_set_ne h, ← List.getD_eq_getElem?_getD]
theorem setK_obj (g : List De) (k : Nat) (v : Int) (j : Nat) : ((setK g k v).getD j zero).1 = (g.getD j zero).1 := by
  by_cases h : k = j
  · subst h
    by_cases hk : k < g.length
    · rw [setK_at hk]
    · unfold setK
      rw [List.set_eq_of_length_le (by omega)]
  · rw [setK_ne g h]
theorem setK_guard (g : List De) (k : Nat) (v : Int) (j : Nat) : ((setK g k v).getD j zero).2.2 = (g.getD j zero).2.2 := by
  by_cases h : k = j
  · subst h
    by_cases hk : k < g.length
    · rw [setK_at hk]
    · unfold setK
      rw [List.set_eq_of_length_le (by omega)]
  · rw [setK_ne g h]
theorem setK_rising {g : List De} (h : Rising g) (k : Nat) (v : Int) : Rising (setK g k v) := fun i j hij hj => by
  rw [setK_obj, setK_obj]
  exact h i j hij (by rwa [setK_length] at hj)
theorem setK_stands {g : List De} {k : Nat} {v obj : Int} {j : Nat} : Stands (setK g k v) obj j ↔ Stands g obj j := by
  unfold Stands
  rw [setK_length, setK_obj]
theorem setK_lacks {g : List De} {k : Nat} {v obj : Int} : Lacks (setK g k v) obj ↔ Lacks g obj := by
  unfold Lacks
  rw [setK_length]
  exact forall_congr' fun j => by rw [setK_obj]
theorem vals_length (g : List De) : (vals g).length = g.length := by simp [vals]
theorem vals_at {g : List De} {k : Nat} (h : k < g.length) : (vals g).getD k (0, 0) = ((g.getD k zero).1, (g.getD k zero).2.1) := by
  unfold vals
  rw [List.getD_eq_getElem?_getD, List.getElem?_map, List.getD_eq_getElem?_getD, List.getElem?_eq_getElem h]
  rfl
theorem vals_set {g : List De} {k : Nat} (h : k < g.length) (v : Int) : vals (setK g k v) = (vals g).set k ((g.getD k zero).1, low v) := by
  unfold vals setK
  rw [List.map_set]
/-- Cells of which one has another value: those of others, where it is none. -/
def setC (g : List De) (obj v : Int) : List De := match g.findIdx? (fun e => e.1 == obj) with
  | some k => setK g k v
  | none => g
theorem find_stands {g : List De} (hr : Rising g) {obj : Int} {k : Nat} (h : Stands g obj k) : g.findIdx? (fun e => e.1 == obj) = some k := by
  rw [List.findIdx?_eq_some_iff_getElem]
  have e : ∀ j (hj : j < g.length), g[j] = g.getD j zero := fun j hj => by rw [List.getD_eq_getElem?_getD, List.getElem?_eq_getElem hj]; rfl
  refine ⟨h.1, by rw [e k h.1, h.2]; simp, fun j hj => ?_⟩
  have hlt := Nat.lt_trans hj h.1
  have := hr j k hj h.1
  rw [h.2] at this
  rw [e j hlt]
  intro h2
  rw [beq_iff_eq] at h2
  omega
theorem setC_stands {g : List De} (hr : Rising g) {obj : Int} {k : Nat} (h : Stands g obj k) (v : Int) : setC g obj v = setK g k v := by
  unfold setC
  rw [find_stands hr h]
theorem setC_lacks {g : List De} {obj : Int} (h : Lacks g obj) (v : Int) : setC g obj v = g := by
  unfold setC
  have e : g.findIdx? (fun e => e.1 == obj) = none := by
    rw [List.findIdx?_eq_none_iff]
    intro x hx
    obtain ⟨j, hj, rfl⟩ := List.getElem_of_mem hx
    have := h j hj
    rw [List.getD_eq_getElem?_getD, List.getElem?_eq_getElem hj] at this
    simpa using this
  rw [e]
theorem setC_length (g : List De) (obj v : Int) : (setC g obj v).length = g.length := by
  unfold setC
  split
  · exact setK_length _ _ _
  · rfl
theorem setC_rising {g : List De} (h : Rising g) (obj v : Int) : Rising (setC g obj v) := by
  unfold setC
  split
  · exact setK_rising h _ _
  · exact h
theorem setC_obj (g : List De) (obj v : Int) (j : Nat) : ((setC g obj v).getD j zero).1 = (g.getD j zero).1 := by
  unfold setC
  split
  · exact setK_obj _ _ _ _
  · rfl
theorem setC_guard (g : List De) (obj v : Int) (j : Nat) : ((setC g obj v).getD j zero).2.2 = (g.getD j zero).2.2 := by
  unfold setC
  split
  · exact setK_guard _ _ _ _
  · rfl
/-- What holds of all cells that came of objects. -/
structure Fine (n : Nat) (g : List De) : Prop where
  rise : Rising g
  len : g.length ≤ n
  obj : ∀ j, j < g.length → 0 ≤ (g.getD j zero).1 ∧ (g.getD j zero).1 < (n : Int)
  word : ∀ j, j < g.length → Word (g.getD j zero).2.1
theorem fine_new (d : List De) : Fine d.length (cellsOf 0 d) := by
  refine ⟨cellsOf_rising d 0, cellsOf_length d 0, fun j hj => ?_, fun j hj => ?_⟩
  · have := cellsOf_ge d 0 j hj
    rw [Nat.zero_add] at this
    exact ⟨by omega, this.2⟩
  · obtain ⟨t, _, _, h, _⟩ := cellsOf_is d 0 j hj
    rw [h]
    exact low_word _
theorem Fine.setK {n : Nat} {g : List De} (h : Fine n g) {k : Nat} (hk : k < g.length) (v : Int) : Fine n (setK g k v) := by
  refine ⟨setK_rising h.rise _ _, by rw [setK_length]; exact h.len, fun j hj => ?_, fun j hj => ?_⟩
  · rw [setK_obj]
    rw [setK_length] at hj
    exact h.obj j hj
  · rw [setK_length] at hj
    by_cases e : k = j
    · subst e
      rw [setK_at hj]
      exact low_word _
    · rw [setK_ne g e]
      exact h.word j hj
theorem Fine.setC {n : Nat} {g : List De} (h : Fine n g) (obj v : Int) : Fine n (setC g obj v) := by
  rcases stands_or obj g with ⟨k, hk⟩ | hk
  · rw [setC_stands h.rise hk]
    exact h.setK hk.1 v
  · rw [setC_lacks hk]
    exact h
/-- What a cell is, and whether it is one; what guards it. -/
def getV (g : List De) (obj : Int) : Int × Bool := match g.findIdx? (fun e => e.1 == obj) with
  | some k => ((g.getD k zero).2.1, true)
  | none => (0, false)
def guardV (g : List De) (obj : Int) : Int := match g.findIdx? (fun e => e.1 == obj) with
  | some k => (g.getD k zero).2.2
  | none => -1
theorem find_lacks {g : List De} {obj : Int} (h : Lacks g obj) : g.findIdx? (fun e => e.1 == obj) = none := by
  rw [List.findIdx?_eq_none_iff]
  intro x hx
  obtain ⟨j, hj, rfl⟩ := List.getElem_of_mem hx
  have := h j hj
  rw [List.getD_eq_getElem?_getD, List.getElem?_eq_getElem hj] at this
  simpa using this
theorem getV_stands {g : List De} (hr : Rising g) {obj : Int} {k : Nat} (h : Stands g obj k) : getV g obj = ((g.getD k zero).2.1, true) := by
  unfold getV
  rw [find_stands hr h]
theorem getV_lacks {g : List De} {obj : Int} (h : Lacks g obj) : getV g obj = (0, false) := by
  unfold getV
  rw [find_lacks h]
theorem guardV_stands {g : List De} (hr : Rising g) {obj : Int} {k : Nat} (h : Stands g obj k) : guardV g obj = (g.getD k zero).2.2 := by
  unfold guardV
  rw [find_stands hr h]
theorem guardV_lacks {g : List De} {obj : Int} (h : Lacks g obj) : guardV g obj = -1 := by
  unfold guardV
  rw [find_lacks h]
theorem setC_none {g : List De} {obj obj2 v : Int} (h : Lacks g obj) : Lacks (setC g obj2 v) obj := by
  intro j hj
  rw [setC_length] at hj
  rw [setC_obj]
  exact h j hj
theorem setC_some {g : List De} {obj obj2 v : Int} {k : Nat} (h : Stands g obj k) : Stands (setC g obj2 v) obj k := by
  unfold Stands
  rw [setC_length, setC_obj]
  exact h
/-- A cell is what it was set to last. -/
theorem getV_setC {g : List De} (hr : Rising g) (obj obj2 v : Int) : getV (setC g obj2 v) obj = if (getV g obj).2 = true ∧ obj2 = obj then (low v, true) else getV g obj := by
  rcases stands_or obj g with ⟨k, hk⟩ | hk
  · rw [getV_stands hr hk, getV_stands (setC_rising hr _ _) (setC_some hk)]
    by_cases e : obj2 = obj
    · subst e
      rw [if_pos ⟨rfl, rfl⟩, setC_stands hr hk, setK_at hk.1]
    · rw [if_neg (fun h => e h.2)]
      rcases stands_or obj2 g with ⟨k2, hk2⟩ | hk2
      · rw [setC_stands hr hk2, setK_ne g (fun h => e (by rw [← hk2.2, h, hk.2]))]
      · rw [setC_lacks hk2]
  · rw [getV_lacks hk, getV_lacks (setC_none hk), if_neg (fun h => by cases h.1)]
/-- Behind any settings what guards a cell is what was declared. -/
theorem guard_declared {d : List De} {k : Nat} {obj : Int} (h : Stands (cellsOf 0 d) obj k) : 0 ≤ obj ∧ obj.toNat < d.length ∧ ((cellsOf 0 d).getD k zero).2.2 = (d.getD obj.toNat zero).2.2 := by
  obtain ⟨t, h1, h2, _, h4⟩ := cellsOf_is d 0 k h.1
  rw [h.2, Nat.zero_add] at h2
  subst h2
  exact ⟨by omega, by simpa using h1, by simpa using h4⟩
end Go.Proofs.Ytdmcmgcecdgegaa.cel
