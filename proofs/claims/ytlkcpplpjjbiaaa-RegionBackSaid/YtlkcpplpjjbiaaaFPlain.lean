/-
  Frames: what the chapter's calls make of them: plain mathematics of lists. A frame is its twenty-seven numbers: its function, its place, how many values it has, eight locals, sixteen values. No condition.
-/
import Derived.Test.YtlkcpplpjjbiaaaWPlain
namespace Go.Proofs.Ytlkcpplpjjbiaaa.frames
open Go.Proofs.Ytlkcpplpjjbiaaa.word (low Word low_word low_id)
set_option linter.unusedVariables false

abbrev Fr := List Int
def zeroF : Fr := List.replicate 27 0
/-- One of a frame's numbers. -/
def num (f : Fr) (k : Nat) : Int := f.getD k 0
theorem num_ne {f : Fr} {k j : Nat} (h : k ≠ j) (v : Int) : num (f.set k v) j = num f j := by
  unfold num
  rw [List.getD_eq_getElem?_getD, List.getD_eq_getElem?_getD, List.getElem?_set_ne h]
theorem num_here {f : Fr} {k : Nat} (h : k < f.length) (v : Int) : num (f.set k v) k = v := by
  unfold num
  rw [List.getD_eq_getElem?_getD, List.getElem?_set_self h]
  rfl
/-- How many values a frame has. -/
def cnt (f : Fr) : Int := num f 2
/-- The last frame. -/
def topF (l : List Fr) : Fr := l.getD (l.length - 1) zeroF
/-- The frames, the last of which is another one. -/
def withF (l : List Fr) (f : Fr) : List Fr := l.take (l.length - 1) ++ [f]
/-- The first k locals are these. -/
def argsF (args : List Int) (f : Fr) : Nat → Fr
  | 0 => f
  | k + 1 => (argsF args f k).set (3 + k) (low (args.getD k 0))
def newF (fn : Int) (args : List Int) : Fr := argsF args (zeroF.set 0 fn) (min args.length 8)
def pushed (f : Fr) (v : Int) : Fr := (f.set (11 + (cnt f).toNat) (low v)).set 2 (cnt f + 1)
def pushF (l : List Fr) (v : Int) : Option (List Fr) :=
  if l.length = 0 ∨ 15 < cnt (topF l) ∨ cnt (topF l) < 0 then none else some (withF l (pushed (topF l) v))
/-- Of the values from the i-th one on, k are 0. -/
def clearF (f : Fr) (i : Nat) : Nat → Fr
  | 0 => f
  | k + 1 => (clearF f i k).set (11 + (i + k)) 0
/-- Of the values from the i-th one on, k. -/
def valsF (f : Fr) (i k : Nat) : List Int := (List.range k).map fun j => num f (11 + (i + j))
def popped (f : Fr) (n : Int) : Fr := (clearF f (cnt f - n).toNat n.toNat).set 2 (cnt f - n)
def popF (l : List Fr) (n : Int) : Option (List Fr × List Int) :=
  if l.length = 0 ∨ n < 0 ∨ cnt (topF l) < n ∨ 16 < cnt (topF l) then none else some (withF l (popped (topF l) n), valsF (topF l) (cnt (topF l) - n).toNat n.toNat)
def turnF (l : List Fr) (v : Int) : List Fr :=
  match popF l 1 with
  | none => l
  | some (x, _) => (pushF x v).getD []
def callF (l : List Fr) (fn n : Int) : Option (List Fr) :=
  match popF l n with
  | none => none
  | some (x, args) => if 8 < n ∨ 7 < l.length then none else some (x ++ [newF fn args])
def retF (l : List Fr) : Option (List Fr × Int) :=
  match popF l 1 with
  | none => none
  | some (_, v) => if l.length = 1 then some ([], v.getD 0 0) else
    match pushF (l.take (l.length - 1)) (v.getD 0 0) with
    | none => none
    | some x => some (x, v.getD 0 0)
def storeF (l : List Fr) (k v : Int) : List Fr := if l.length = 0 ∨ k < 0 ∨ 7 < k then l else withF l ((topF l).set (3 + k.toNat) (low v))
def goF (l : List Fr) (pc : Int) : List Fr := if l.length = 0 then l else withF l ((topF l).set 1 pc)
/-- What a call makes of frames; those that were, if it makes none. -/
def doF (l : List Fr) (kind k v : Int) : List Fr :=
  if kind = 0 then (pushF l v).getD l
  else if kind = 1 then ((popF l k).map (·.1)).getD l
  else if kind = 2 then turnF l v
  else if kind = 3 then (callF l v k).getD l
  else if kind = 4 then ((retF l).map (·.1)).getD l
  else if kind = 5 then storeF l k v
  else goF l v

/-- Frames such as the chapter speaks of, of which a call makes at most eight. -/
def GoodF (f : Fr) : Prop := f.length = 27 ∧ 0 ≤ cnt f ∧ cnt f ≤ 16
def Good (l : List Fr) : Prop := l.length ≤ 8 ∧ ∀ f ∈ l, GoodF f
theorem cnt_set {f : Fr} {k : Nat} (hk : k ≠ 2) (v : Int) : cnt (f.set k v) = cnt f := num_ne hk v
theorem cnt_here {f : Fr} (h : f.length = 27) (v : Int) : cnt (f.set 2 v) = v := num_here (by omega) v
theorem args_keep (args : List Int) (f : Fr) : ∀ k, (argsF args f k).length = f.length ∧ (k ≤ 8 → cnt (argsF args f k) = cnt f) := by
  intro k
  induction k with
  | zero => exact ⟨rfl, fun _ => rfl⟩
  | succ k ih =>
    unfold argsF
    exact ⟨by rw [List.length_set, ih.1], fun h => by rw [cnt_set (by omega), ih.2 (by omega)]⟩
theorem zero_good : GoodF zeroF := ⟨rfl, by decide, by decide⟩
theorem new_good (fn : Int) (args : List Int) : GoodF (newF fn args) := by
  have h := args_keep args (zeroF.set 0 fn) (min args.length 8)
  have h2 := h.2 (by omega)
  rw [cnt_set (by decide)] at h2
  unfold newF
  refine ⟨by rw [h.1, List.length_set]; rfl, ?_, ?_⟩
  · rw [h2]; decide
  · rw [h2]; decide
theorem top_mem {l : List Fr} (h : l.length ≠ 0) : topF l ∈ l := by
  unfold topF
  rw [List.getD_eq_getElem?_getD, List.getElem?_eq_getElem (by omega)]
  exact List.getElem_mem _
theorem mem_take_any {l : List Fr} {n : Nat} {f : Fr} (h : f ∈ l.take n) : f ∈ l := List.mem_of_mem_take h
theorem with_good {l : List Fr} {f : Fr} (h : Good l) (h0 : l.length ≠ 0) (hf : GoodF f) : Good (withF l f) := by
  unfold withF
  refine ⟨?_, fun g hg => ?_⟩
  · have := h.1
    rw [List.length_append, List.length_take, List.length_singleton]
    omega
  · rcases List.mem_append.1 hg with hg | hg
    · exact h.2 g (mem_take_any hg)
    · rw [List.mem_singleton.1 hg]; exact hf
theorem with_length {l : List Fr} {f : Fr} (h0 : l.length ≠ 0) : (withF l f).length = l.length := by
  unfold withF
  rw [List.length_append, List.length_take, List.length_singleton]
  omega
theorem clear_keep (f : Fr) (i : Nat) : ∀ k, (clearF f i k).length = f.length ∧ cnt (clearF f i k) = cnt f := by
  intro k
  induction k with
  | zero => exact ⟨rfl, rfl⟩
  | succ k ih =>
    unfold clearF
    exact ⟨by rw [List.length_set, ih.1], by rw [cnt_set (by omega), ih.2]⟩
theorem pushed_good {f : Fr} (h : GoodF f) (hn : cnt f ≤ 15) (v : Int) : GoodF (pushed f v) := by
  obtain ⟨h1, h2, h3⟩ := h
  have h4 : cnt (pushed f v) = cnt f + 1 := cnt_here (by rw [List.length_set]; exact h1) _
  refine ⟨by unfold pushed; rw [List.length_set, List.length_set]; exact h1, by omega, by omega⟩
theorem popped_good {f : Fr} (h : GoodF f) {n : Int} (h0 : 0 ≤ n) (hn : n ≤ cnt f) : GoodF (popped f n) := by
  obtain ⟨h1, h2, h3⟩ := h
  have hk := clear_keep f (cnt f - n).toNat n.toNat
  have h4 : cnt (popped f n) = cnt f - n := cnt_here (by rw [hk.1]; exact h1) _
  refine ⟨by unfold popped; rw [List.length_set, hk.1]; exact h1, by omega, by omega⟩
theorem push_good {l x : List Fr} {v : Int} (h : Good l) (hx : pushF l v = some x) : Good x ∧ x.length = l.length := by
  unfold pushF at hx
  split at hx
  · cases hx
  · rename_i hc
    obtain rfl := (Option.some.inj hx).symm
    have h0 : l.length ≠ 0 := fun e => hc (.inl e)
    have hf := h.2 _ (top_mem h0)
    exact ⟨with_good h h0 (pushed_good hf (by have : ¬ 15 < cnt (topF l) := fun e => hc (.inr (.inl e)); omega) v), with_length h0⟩
theorem pop_good {l x : List Fr} {n : Int} {a : List Int} (h : Good l) (hx : popF l n = some (x, a)) : Good x ∧ x.length = l.length ∧ a.length = n.toNat ∧ 0 ≤ n ∧ n ≤ 16 ∧ l.length ≠ 0 := by
  unfold popF at hx
  split at hx
  · cases hx
  · rename_i hc
    have h1 := Option.some.inj hx
    have hx1 := congrArg Prod.fst h1
    have ha1 := congrArg Prod.snd h1
    dsimp only at hx1 ha1
    subst hx1 ha1
    have h0 : l.length ≠ 0 := fun e => hc (.inl e)
    have hf := h.2 _ (top_mem h0)
    have h2 : ¬ n < 0 := fun e => hc (.inr (.inl e))
    have h3 : ¬ cnt (topF l) < n := fun e => hc (.inr (.inr (.inl e)))
    have h4 := hf.2.2
    refine ⟨with_good h h0 (popped_good hf (by omega) (by omega)), with_length h0, ?_, by omega, by omega, h0⟩
    unfold valsF
    rw [List.length_map, List.length_range]
theorem take_good {l : List Fr} (h : Good l) (n : Nat) : Good (l.take n) := ⟨by have := h.1; rw [List.length_take]; omega, fun f hf => h.2 f (mem_take_any hf)⟩
theorem turn_good {l : List Fr} (h : Good l) (v : Int) : Good (turnF l v) := by
  unfold turnF
  split
  · exact h
  · rename_i x a hx
    obtain ⟨h1, h2, _⟩ := pop_good h hx
    cases hp : pushF x v with
    | none => exact ⟨Nat.zero_le _, fun f hf => by cases hf⟩
    | some y => exact (push_good h1 hp).1
theorem call_good {l x : List Fr} {fn n : Int} (h : Good l) (hx : callF l fn n = some x) : Good x := by
  unfold callF at hx
  split at hx
  · cases hx
  · rename_i y a hy
    obtain ⟨h1, h2, _⟩ := pop_good h hy
    split at hx
    · cases hx
    · rename_i hc
      obtain rfl := (Option.some.inj hx).symm
      have h7 : ¬ 7 < l.length := fun e => hc (.inr e)
      refine ⟨by rw [List.length_append, List.length_singleton]; omega, fun f hf => ?_⟩
      rcases List.mem_append.1 hf with hf | hf
      · exact h1.2 f hf
      · rw [List.mem_singleton.1 hf]; exact new_good _ _
theorem ret_good {l x : List Fr} {v : Int} (h : Good l) (hx : retF l = some (x, v)) : Good x := by
  unfold retF at hx
  split at hx
  · cases hx
  · split at hx
    · have h1 := congrArg Prod.fst (Option.some.inj hx)
      dsimp only at h1
      subst h1
      exact ⟨Nat.zero_le _, fun f hf => by cases hf⟩
    · split at hx
      · cases hx
      · rename_i y hy
        have h1 := congrArg Prod.fst (Option.some.inj hx)
        dsimp only at h1
        subst h1
        exact (push_good (take_good h _) hy).1
theorem store_good {l : List Fr} (h : Good l) (k v : Int) : Good (storeF l k v) := by
  unfold storeF
  split
  · exact h
  · rename_i hc
    have h0 : l.length ≠ 0 := fun e => hc (.inl e)
    have hf := h.2 _ (top_mem h0)
    refine with_good h h0 ⟨by rw [List.length_set]; exact hf.1, ?_, ?_⟩
    · rw [cnt_set (by omega)]; exact hf.2.1
    · rw [cnt_set (by omega)]; exact hf.2.2
theorem go_good {l : List Fr} (h : Good l) (pc : Int) : Good (goF l pc) := by
  unfold goF
  split
  · exact h
  · rename_i h0
    have hf := h.2 _ (top_mem h0)
    refine with_good h h0 ⟨by rw [List.length_set]; exact hf.1, ?_, ?_⟩
    · rw [cnt_set (by omega)]; exact hf.2.1
    · rw [cnt_set (by omega)]; exact hf.2.2
theorem do_good {l : List Fr} (h : Good l) (kind k v : Int) : Good (doF l kind k v) := by
  unfold doF
  split
  · cases hp : pushF l v with
    | none => exact h
    | some x => exact (push_good h hp).1
  split
  · cases hp : popF l k with
    | none => exact h
    | some x => exact (pop_good h (x := x.1) (a := x.2) hp).1
  split
  · exact turn_good h v
  split
  · cases hp : callF l v k with
    | none => exact h
    | some x => exact call_good h hp
  split
  · cases hp : retF l with
    | none => exact h
    | some x => exact ret_good h (x := x.1) (v := x.2) hp
  split
  · exact store_good h k v
  · exact go_good h v
end Go.Proofs.Ytlkcpplpjjbiaaa.frames
