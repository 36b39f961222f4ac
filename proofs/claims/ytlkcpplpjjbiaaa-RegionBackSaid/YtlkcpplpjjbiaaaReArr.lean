/-
  Arrays of eight numbers, in boxes of their own; cells that are written, and taken back: the mathematics of RegionBack. No condition.
-/
import Derived.Test.YtlkcpplpjjbiaaaReLaw
import Derived.ChangeKeysEq
namespace Go.Proofs.Ytlkcpplpjjbiaaa.reg
open Go.RowKit Go.ChangeShapes
open Go.Proofs.Ytlkcpplpjjbiaaa.obj
set_option linter.unusedVariables false
set_option linter.unusedSimpArgs false

def arC (l : List Int) : List Value := l.map (Value.int .i64)
def arO (l : List Int) : Obj := .cells (arC l).toArray 39 (0, 0)
def arV (l : List Int) : Value := .agg (arC l).toArray
theorem ar_len (l : List Int) : (arC l).length = l.length := by unfold arC; rw [List.length_map]
theorem ar_size {n : Nat} (h : n = 8) : (Try.prog.info? 39).map (·.size) = some n := by
  subst h
  kernel_rfl
theorem ar_all (l : List Int) : (arC l).toArray.all (·.oneCell') = true := by
  rw [Array.all_eq_true_iff_forall_mem]
  intro u hu
  unfold arC at hu
  simp only [List.mem_toArray, List.mem_map] at hu
  obtain ⟨z, _, rfl⟩ := hu
  rfl
theorem ar_range {w : World} {g : Nat} {l : List Int} (h : w.heap[g]? = some (arO l)) : w.rangeAt g 0 (arC l) := fun j v hv => by
  rw [Nat.zero_add]
  unfold World.cell?
  rw [h]
  unfold arO
  simp only [List.getElem?_toArray]
  exact hv
theorem ar_cell {w : World} {g : Nat} {l : List Int} (h : w.heap[g]? = some (arO l)) {k : Nat} (hk : k < l.length) : w.cell? ⟨g, k, none⟩ = some (.int .i64 (l.getD k 0)) := by
  have h1 := ar_range h k (.int .i64 (l.getD k 0)) (by
    unfold arC
    rw [List.getElem?_map, List.getD_eq_getElem?_getD, List.getElem?_eq_getElem hk]
    rfl)
  rwa [Nat.zero_add] at h1
theorem ar_free {w : World} {g : Nat} {l : List Int} (h : w.heap[g]? = some (arO l)) (j : Nat) : w.frozen? ⟨g, j, none⟩ = false := frozen_of_row w g j _ _ h
theorem ar_set {w : World} {g : Nat} {l : List Int} (h : w.heap[g]? = some (arO l)) (k : Nat) (v : Int) : (w.setCell ⟨g, k, none⟩ (.int .i64 v)).heap[g]? = some (arO (l.set k v)) := by
  have h1 := heap_setCell_same w g k _ _ (.int .i64 v) h
  rw [h1]
  unfold arO arC
  rw [List.map_set, List.setIfInBounds_toArray]
theorem ar_turned {w : World} {g : Nat} {l0 : List Int} (h : w.heap[g]? = some (arO l0)) (l : List Int) : (w.setRow g (arC l).toArray).heap[g]? = some (arO l) := row_turned h _
def arZ : List Int := [0, 0, 0, 0, 0, 0, 0, 0]
theorem arZ_run (w : World) : (zeroValue 39).run Try.prog w = .ok (arV arZ) w :=
  (zero_of_info (P := Try.prog) (t := 39) (v := arV arZ) (n := 8) (by kernel_rfl)).1 w
section
variable {ops : Array Oper} {rest : List Oper} {o : Oper} {a : Act} {w : World} {Q : Exit → Act → World → Prop} {K : Act → World → Prop} {S : World → Prop} {E : Prop}
theorem war_box (hgd : o.guard = none) (x : Operand) (ho : o.op = .box 39 x) (m : List Int) (hx : a.eval x = arV m)
    (h : wpList Try.prog ops Q rest (a.put o.dst (.pointer (some ⟨w.heap.size, 0, none⟩))) (w.alloc (arO m))) : wpList Try.prog ops Q (o :: rest) a w :=
  Go.Great.wpList_boxTo hgd _ x ho o.dst rfl w.heap.size rfl (arC m).toArray (by rw [hx]; rfl) h
theorem war_load (hgd : o.guard = none) (x : Operand) (ho : o.op = .load 39 x) (g : Nat) (hx : a.eval x = .pointer (some ⟨g, 0, none⟩)) (m : List Int) (hm : m.length = 8) (hf : w.heap[g]? = some (arO m))
    (h : wpList Try.prog ops Q rest (a.put o.dst (arV m)) w) : wpList Try.prog ops Q (o :: rest) a w :=
  wpList_load_mid hgd _ x ho g 0 hx (arC m) _ (ar_range hf) Try.underlying39 rfl (ar_size (by rw [ar_len, hm])) h
theorem sar_alloc (hgd : o.guard = none) (ho : o.op = .alloc 39)
    (h : K (a.put o.dst (.pointer (some ⟨w.heap.size, 0, none⟩))) (w.alloc (arO arZ))) : if Region.wanted o (yielded ops a.tmps) = true then Oper.wp Try.prog o a w K Q else E := by
  have hw : Region.wanted o (yielded ops a.tmps) = true := by simp [Region.wanted, hgd]
  rw [if_pos hw]
  have hr : (execOp a.eval o).run Try.prog w = .ok (.value (.pointer (some ⟨w.heap.size, 0, none⟩))) (w.alloc (arO arZ)) := by
    unfold execOp
    simp only [ho, Instr.alloc, Sem.run_bind, arZ_run, Result.andThen_ok, newVar, newRow, Sem.run_pure, Value.cells, arV]
    rfl
  unfold Oper.wp
  rw [hr, Oper.upon_value]
  exact h
theorem sar_store (hgd : o.guard = none) (x y : Operand) (ho : o.op = .store 39 x y) (g : Nat) (m0 m : List Int) (hm0 : m0.length = 8) (hm : m.length = 8) (hx : a.eval x = .pointer (some ⟨g, 0, none⟩)) (hy : a.eval y = arV m) (hg : w.heap[g]? = some (arO m0))
    (h : K (a.put o.dst undef) (w.setRow g (arC m).toArray)) : if Region.wanted o (yielded ops a.tmps) = true then Oper.wp Try.prog o a w K Q else E := by
  have hw : Region.wanted o (yielded ops a.tmps) = true := by simp [Region.wanted, hgd]
  rw [if_pos hw]
  exact wp_store_row _ x y ho g (arC m).toArray hx hy 39 (arC m0).toArray hg (ar_size (by rw [List.size_toArray, ar_len, hm])) (by rw [List.size_toArray, List.size_toArray, ar_len, ar_len, hm0, hm]) (ar_all m) h
theorem yields_ar (hw : o.guard = none) (x : Operand) (ho : o.op = .load 39 x) (g : Nat) (hx : a.eval x = .pointer (some ⟨g, 0, none⟩)) (m : List Int) (hm : m.length = 8) (hS : ∀ w, S w → w.heap[g]? = some (arO m)) : YieldsIf Try.prog ops S o (arV m) a :=
  yieldsIf_load_mid (by simp [Region.wanted, hw]) _ x ho g 0 hx (arC m) _ (fun w h => ar_range (hS w h)) Try.underlying39 rfl (ar_size (by rw [ar_len, hm]))
end

theorem ar_item {l : List Int} {i : Nat} (hi : i < l.length) (w : World) : (part 3 (arC l).toArray i).run Try.prog w = .ok (.int .i64 (l.getD i 0)) w :=
  run_part_plain (w := w) (P := Try.prog) (by kernel_rfl) (by
    rw [List.getElem?_toArray]
    unfold arC
    rw [List.getElem?_map, List.getD_eq_getElem?_getD, List.getElem?_eq_getElem hi]
    rfl)
theorem ar_eqInt (d : Nat) (n : Int) (w : World) : (Op.equalIn (d + 1) 3 (.int .i64 n) (.int .i64 n)).run Try.prog w = .ok true w := by
  rw [run_equalIn_int w d 3 .i64 .i64 n n Try.underlying3, beq_self_eq_true]
theorem ar_items (d : Nat) {l : List Int} (w : World) : ∀ is : List Nat, (∀ i ∈ is, i < l.length) →
    (Op.eqItems (d + 1) 3 1 (arC l).toArray (arC l).toArray is).run Try.prog w = .ok true w := by
  intro is
  induction is with
  | nil => intro _; rfl
  | cons i is ih =>
    intro h
    have h1 := ar_item (h i (List.mem_cons_self ..)) w
    simp only [Op.eqItems, Sem.run_bind, Nat.mul_one, h1, ar_eqInt, Result.andThen_ok, Bool.not_true, Bool.false_eq_true, if_false]
    exact ih fun j hj => h j (List.mem_cons_of_mem _ hj)
theorem ar_same {l : List Int} (hl : l.length = 8) (w : World) : (Op.equalIn 10000 39 (arV l) (arV l)).run Try.prog w = .ok true w := by
  obtain ⟨i, hi⟩ : ∃ i, Try.prog.info? 3 = some i := by
    cases h : Try.prog.info? 3 with
    | none => exact absurd h (by decide +kernel)
    | some i => exact ⟨i, rfl⟩
  have hc : Try.prog.cellsOf 3 = 1 := by kernel_rfl
  unfold arV
  rw [show (10000 : Nat) = 9999 + 1 from rfl, run_equalIn_array w 9999 _ _ Try.underlying39 hi, hc]
  exact ar_items 9998 w _ fun j hj => by rw [hl]; exact List.mem_range.1 hj
theorem ar_eql {l : List Int} (hl : l.length = 8) (ev : Operand → Value) (o : Oper) (x y : Operand) (w : World) (ho : o.op = .binOp .eql 39 x y 39) (hx : ev x = arV l) (hy : ev y = arV l) :
    (execOp ev o).run Try.prog w = .ok (.value (.bool true)) w := by
  have hg := run_eqGuard_agg (P := Try.prog) w .eql 39 x y (arC l).toArray (arC l).toArray (by kernel_rfl)
  have h0 := ar_same hl w
  unfold arV at h0
  have hn := run_eql_struct (P := Try.prog) w 39 (arC l).toArray (arC l).toArray
  rw [h0] at hn
  unfold arV at hx hy
  unfold execOp
  simp only [ho, hx, hy, Sem.run_bind, hg, hn, Sem.run_pure, Result.andThen_ok]
theorem war_eql {ops : Array Oper} {rest : List Oper} {o : Oper} {a : Act} {w : World} {Q : Exit → Act → World → Prop} (hgd : o.guard = none) (x y : Operand) (ho : o.op = .binOp .eql 39 x y 39) (l : List Int) (hl : l.length = 8) (hx : a.eval x = arV l) (hy : a.eval y = arV l)
    (h : wpList Try.prog ops Q rest (a.put o.dst (.bool true)) w) : wpList Try.prog ops Q (o :: rest) a w :=
  Go.Great.wpList_runTo hgd o.dst rfl _ _ (ar_eql hl a.eval o x y w ho hx hy) h

/-- What was written first, while cells are written. -/
structure Back (first now : List Int) (was : List E) : Prop where
  len : now.length = 8
  keys : ∀ p ∈ was, 0 ≤ p.1 ∧ p.1 < 8 ∧ p.2 = first.getD p.1.toNat 0
  others : Others was
  rest : ∀ c : Nat, c < 8 → Lacks was (c : Int) → now.getD c 0 = first.getD c 0
theorem back_new {first : List Int} (h : first.length = 8) : Back first first [] := ⟨h, (fun p hp => by cases hp), List.Pairwise.nil, fun _ _ _ => rfl⟩
theorem getD_set (l : List Int) (c k : Nat) (v : Int) (hk : k < l.length) : (l.set c v).getD k 0 = if c = k then v else l.getD k 0 := by
  rw [List.getD_eq_getElem?_getD, List.getElem?_set]
  by_cases e : c = k
  · subst e
    rw [if_pos rfl, if_pos hk, if_pos rfl]
    rfl
  · rw [if_neg e, if_neg e, List.getD_eq_getElem?_getD]
theorem lacks_append {l : List E} {o c v : Int} (h : Lacks (l ++ [(c, v)]) o) : Lacks l o ∧ c ≠ o := by
  rw [lacks_iff] at h ⊢
  exact ⟨fun p hp => h p (List.mem_append_left _ hp), h (c, v) (by simp)⟩
theorem Back.put {first now : List Int} {was : List E} (h : Back first now was) {c : Nat} (hc : c < 8) (v : Int) : Back first (now.set c v) (wrote was (c : Int) (now.getD c 0)) := by
  rcases stands_or (c : Int) was with ⟨k, hk⟩ | hk
  · rw [wrote_stands hk]
    refine ⟨by rw [List.length_set]; exact h.len, h.keys, h.others, fun d hd hl => ?_⟩
    have hne : c ≠ d := fun e => by subst e; exact hl k hk.1 hk.2.1
    rw [getD_set _ _ _ _ (by rw [h.len]; exact hd), if_neg hne]
    exact h.rest d hd hl
  · rw [wrote_lacks hk]
    refine ⟨by rw [List.length_set]; exact h.len, fun p hp => ?_, ?_, fun d hd hl => ?_⟩
    · rcases List.mem_append.1 hp with hp | hp
      · exact h.keys p hp
      · rw [List.mem_singleton.1 hp]
        exact ⟨by simp only; omega, by simp only; omega, by simp only [Int.toNat_natCast]; exact h.rest c hc hk⟩
    · refine List.pairwise_append.2 ⟨h.others, List.pairwise_singleton _ _, fun p hp q hq => ?_⟩
      rw [List.mem_singleton.1 hq]
      exact lacks_iff.1 hk p hp
    · obtain ⟨h1, h2⟩ := lacks_append hl
      have hne : c ≠ d := fun e => h2 (by omega)
      rw [getD_set _ _ _ _ (by rw [h.len]; exact hd), if_neg hne]
      exact h.rest d hd h1
theorem pigeon : ∀ (n : Nat) (l : List E), Others l → (∀ p ∈ l, 0 ≤ p.1 ∧ p.1 < (n : Int)) → l.length ≤ n
  | 0, l, ho, hk => by
    rcases l with _ | ⟨p, r⟩
    · simp
    · have := hk p (by simp)
      omega
  | n + 1, l, ho, hk => by
    rcases stands_or (n : Int) l with ⟨k, hs⟩ | hl
    · have hk1 := hs.1
      have hsub : (l.take k ++ l.drop (k + 1)).Sublist l := by
        have h1 : (l.take k ++ l.drop (k + 1)).Sublist (l.take k ++ l.drop k) := (List.Sublist.refl _).append (List.drop_sublist_drop_left l (Nat.le_succ k))
        rwa [List.take_append_drop] at h1
      have hd : l.drop k = l.getD k (0, 0) :: l.drop (k + 1) := by
        rw [List.drop_eq_getElem_cons hk1, List.getD_eq_getElem?_getD, List.getElem?_eq_getElem hk1]
        rfl
      have ho2 := ho
      unfold Others at ho2
      rw [← List.take_append_drop k l, hd, List.pairwise_append, List.pairwise_cons] at ho2
      obtain ⟨_, ⟨hb, _⟩, ha⟩ := ho2
      have ih := pigeon n (l.take k ++ l.drop (k + 1)) (ho.sublist hsub) fun p hp => by
        have h1 := hk p (hsub.subset hp)
        have h2 : p.1 ≠ (n : Int) := by
          rw [← hs.2.1]
          rcases List.mem_append.1 hp with hp | hp
          · exact ha p hp _ (by simp)
          · exact fun e => hb p hp e.symm
        omega
      rw [List.length_append, List.length_take, List.length_drop] at ih
      omega
    · have ih := pigeon n l ho fun p hp => by
        have h1 := hk p hp
        have h2 := lacks_iff.1 hl p hp
        omega
      omega
theorem Back.few {first now : List Int} {was : List E} (h : Back first now was) : was.length ≤ 8 :=
  pigeon 8 was h.others fun p hp => by have := h.keys p hp; omega
/-- While cells are set back: those of the first k pairs, and those that were not written, are as they were. -/
structure Undone (first now : List Int) (u : List E) (k : Nat) : Prop where
  len : now.length = 8
  keys : ∀ p ∈ u, 0 ≤ p.1 ∧ p.1 < 8 ∧ p.2 = first.getD p.1.toNat 0
  rest : ∀ c : Nat, c < 8 → ((∃ j, j < k ∧ j < u.length ∧ (u.getD j (0, 0)).1 = (c : Int)) ∨ Lacks u (c : Int)) → now.getD c 0 = first.getD c 0
theorem Back.undone {first now : List Int} {was : List E} (h : Back first now was) : Undone first now was.reverse 0 :=
  ⟨h.len, fun p hp => h.keys p (List.mem_reverse.1 hp), fun c hc hl => by
    rcases hl with ⟨j, hj, _⟩ | hl
    · omega
    · refine h.rest c hc (lacks_iff.2 fun p hp => ?_)
      exact lacks_iff.1 hl p (List.mem_reverse.2 hp)⟩
theorem Undone.next {first now : List Int} {u : List E} {k : Nat} (h : Undone first now u k) (hk : k < u.length) : Undone first (now.set (u.getD k (0, 0)).1.toNat (u.getD k (0, 0)).2) u (k + 1) := by
  have hm : u.getD k (0, 0) ∈ u := getD_mem hk
  obtain ⟨k1, k2, k3⟩ := h.keys _ hm
  refine ⟨by rw [List.length_set]; exact h.len, h.keys, fun c hc hl => ?_⟩
  rw [getD_set _ _ _ _ (by rw [h.len]; exact hc)]
  by_cases e : (u.getD k (0, 0)).1.toNat = c
  · rw [if_pos e, k3, e]
  · rw [if_neg e]
    refine h.rest c hc (hl.imp (fun ⟨j, h1, h2, h3⟩ => ⟨j, ?_, h2, h3⟩) id)
    by_cases e2 : j = k
    · subst e2
      exact absurd (by rw [h3]; simp) e
    · omega
theorem Undone.all {first now : List Int} {u : List E} (h : Undone first now u u.length) (hf : first.length = 8) : now = first := by
  apply List.ext_getElem?
  intro c
  by_cases hc : c < 8
  · have h1 := h.rest c hc (by
      rcases stands_or (c : Int) u with ⟨k, hk⟩ | hl
      · exact .inl ⟨k, hk.1, hk.1, hk.2.1⟩
      · exact .inr hl)
    rw [List.getD_eq_getElem?_getD, List.getD_eq_getElem?_getD, List.getElem?_eq_getElem (by rw [h.len]; exact hc), List.getElem?_eq_getElem (by rw [hf]; exact hc)] at h1
    rw [List.getElem?_eq_getElem (by rw [h.len]; exact hc), List.getElem?_eq_getElem (by rw [hf]; exact hc)]
    exact congrArg some h1
  · rw [List.getElem?_eq_none (by rw [h.len]; omega), List.getElem?_eq_none (by rw [hf]; omega)]
end Go.Proofs.Ytlkcpplpjjbiaaa.reg
