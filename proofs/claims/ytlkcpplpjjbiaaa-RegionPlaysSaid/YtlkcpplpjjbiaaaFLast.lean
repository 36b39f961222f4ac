/-
  The program's own last frame, frames that are cloned, and frames the last of which is another one. At most a thousand frames, each of twenty-seven numbers.
-/
import Derived.Test.YtlkcpplpjjbiaaaFRow
import Derived.Test.YtlkcpplpjjbiaaaFRefPop
import Derived.Lib.SliceRun
namespace Go.Proofs.Ytlkcpplpjjbiaaa.frames
open Go.RowKit Go.ChangeShapes
set_option linter.unusedVariables false
set_option linter.unusedSimpArgs false

section
variable {ops : Array Oper} {rest : List Oper} {o : Oper} {a : Act} {w : World} {Q : Exit → Act → World → Prop} {K : Act → World → Prop}
theorem wl_storeG (hgd : o.guard = none) (x y : Operand) (ho : o.op = .store 56 x y) (g : Nat) (f0 f : Fr) (hx : a.eval x = .pointer (some ⟨g, 0, none⟩)) (hy : a.eval y = .agg (cellsF f).toArray) (hg : w.heap[g]? = some (frB f0))
    (h : wpList Try.prog ops Q rest (a.put o.dst undef) (w.setRow g (cellsF f).toArray)) : wpList Try.prog ops Q (o :: rest) a w :=
  wpList_store_row hgd _ x y ho g (cellsF f).toArray hx hy 56 (cellsF f0).toArray hg (sizeF (cellsF_size f)) (by rw [cellsF_size, cellsF_size]) (cellsF_all f) h
theorem wl_build0 (hgd : o.guard = none) (ho : o.op = .build 56 #[])
    (h : wpList Try.prog ops Q rest (a.put o.dst (.agg (cellsF zeroF).toArray)) w) : wpList Try.prog ops Q (o :: rest) a w := by
  have b0 : Try.prog.built 56 [] = some (cellsF zeroF).toArray := by kernel_rfl
  have e : ((#[] : Array (Nat × Operand)).map fun (i, x) => (i, a.eval x)).toList = [] := by simp
  refine wpList_build hgd _ _ ho (by rw [e, b0]; rfl) ?_
  rw [e, b0]
  exact h
end
theorem last_ret {W : World} {act : Act} {g : Nat} {f : Fr} {b : Bool} {R : Ending → World → Prop} (h2 : act.tmps[2]?.getD undef = .pointer (some ⟨g, 0, none⟩)) (h3 : act.tmps[3]?.getD undef = .bool b) (hd : act.defers = [])
    (hx : W.heap[g]? = some (frB f)) (hR : R (.returned (.tuple #[.agg (cellsF f).toArray, .bool b])) W) : bodyPost Try.prog Try.f47 R .ret act W := by
  have hL := run_loadVar_mid (P := Try.prog) W g 0 56 (cellsF f) _ (range_of (FCells.of_block hx)) Try.underlying56 rfl (sizeF (cellsF_length f))
  refine bodyPost_ret (v := .tuple #[.agg (cellsF f).toArray, .bool b]) ?_ hd hR
  simp [results, Try.results47, asAddr, h2, h3, hL, Sem.run_bind, Sem.run_pure, Result.andThen]

theorem set_num (f : Fr) {k : Nat} (hk : k < f.length) : f.set k (num f k) = f := by
  apply List.ext_getElem?
  intro j
  by_cases e : k = j
  · subst e
    rw [List.getElem?_set_self hk]
    unfold num
    rw [List.getD_eq_getElem?_getD, List.getElem?_eq_getElem hk]
    rfl
  · rw [List.getElem?_set_ne e]

set_option maxRecDepth 100000 in
set_option maxHeartbeats 4000000 in
theorem last_none (A : Option Addr) (c : Nat) (w : World) :
    Calls Try.prog 47 #[.slice A 0 c] w fun e w' => e = .returned (.tuple #[.agg (cellsF zeroF).toArray, .bool false]) ∧ Below w.heap.size w w' := by
  have HX := Lib.hid (heap_alloc_new w (frB zeroF))
  have HB := Lib.hid ((Below.refl w.heap.size w).alloc (Nat.le_refl _) (frB zeroF))
  have q0 : ((0 : Int) == 0) = true := rfl
  go_enter Try.func47, Try.ntmps47
  go_upto_region 1 with (first | refine wl_alloc rfl rfl ?_)
  try simp only [Act.put, List.setIfInBounds_toArray, List.set_cons_zero, List.set_cons_succ]
  generalize w.alloc (frB zeroF) = W1 at *
  go_wp2_with (first | refine wl_build0 rfl rfl ?_ | refine wl_storeG rfl _ _ rfl w.heap.size zeroF zeroF rfl rfl HX.out ?_)
  exact last_ret rfl rfl rfl (row_same HX.out) ⟨rfl, row_below HB.out (Nat.le_refl _) _⟩

set_option maxRecDepth 100000 in
set_option maxHeartbeats 4000000 in
theorem last_any (A : Option Addr) (c : Nat) (l : List Fr) (w : World) (hI : In w A c l) (h0 : l.length ≠ 0) (hg : GoodF (topF l)) :
    Calls Try.prog 47 #[.slice A l.length c] w fun e w' => e = .returned (.tuple #[.agg (cellsF (topF l)).toArray, .bool true]) ∧ Below w.heap.size w w' := by
  obtain ⟨b, off, m, rfl, hm, hb, hF, hl27⟩ := hI.top h0
  have hlen := hI.len
  have hcap := hI.cap
  rw [hm] at hlen hcap ⊢
  have e0 : (((m + 1 : Nat) : Int) == 0) = false := by simp; omega
  have k0 : (0 : Int) ≤ (m : Int) := by omega
  have k1 : (m : Int) < ((m + 1 : Nat) : Int) := by omega
  have k2 : (m : Int) < (m : Int) + 1 := by omega
  have hw0 : IntKind.i64.wrap ((m : Int) + 1 - 1) = (m : Int) := by rw [IntKind.wrap_i64]; omega
  have hw1 : IntKind.i64.wrap (m : Int) = (m : Int) := by rw [IntKind.wrap_i64]; omega
  obtain ⟨g1, g2, g3⟩ := hg
  have hcn : num (topF l) 2 = cnt (topF l) := rfl
  generalize topF l = f at *
  have hN0 : max (cnt f) 0 = cnt f := by omega
  have hN1 : min (cnt f) 16 = cnt f := by omega
  have HS := Lib.hid (set_num f (k := 2) (by omega))
  rw [hcn] at HS
  have HX := Lib.hid (heap_alloc_new w (frB zeroF))
  have HZ := Lib.hid (World.size_alloc w (frB zeroF))
  have HB := Lib.hid ((Below.refl w.heap.size w).alloc (Nat.le_refl _) (frB zeroF))
  have HFc : Hid (FCells (w.alloc (frB zeroF)) b (off + m * 27) f) := Lib.hid (hF.keep (Below.heap_alloc _ _ _ hb))
  clear hI h0 hF hb
  generalize cnt f = N at *
  go_enter Try.func47, Try.ntmps47
  go_upto_region 1 with (first | refine wl_alloc rfl rfl ?_)
  try simp only [Act.put, List.setIfInBounds_toArray, List.set_cons_zero, List.set_cons_succ]
  generalize w.alloc (frB zeroF) = W1 at *
  go_upto_region 4 with (first | refine wl_load rfl _ rfl b (off + m * 27) rfl f HFc.out ?_ | refine wl_alloc rfl rfl ?_ | refine wl_store rfl _ _ rfl W1 zeroF _ rfl rfl rfl ?_)
  try simp only [Act.put, List.setIfInBounds_toArray, List.set_cons_zero, List.set_cons_succ]
  have hB2 := heap_alloc_new W1 (frB f)
  have HX2 := Lib.hid (keepA HX.out (frB f))
  have HB2 := Lib.hid (HB.out.alloc (by rw [HZ.out]; omega) (frB f))
  rw [HZ.out] at hB2
  try rw [HZ.out]
  generalize W1.alloc (frB f) = W2 at *
  have x2 := cell_block hB2 (k := 2) (by omega)
  rw [hcn] at x2
  have f2 := free_block hB2 2
  have HB3 : Hid ((W2.setCell ⟨w.heap.size + 1, 2, none⟩ (.int .i64 N)).heap[w.heap.size + 1]? = some (frB f) ∧ (W2.setCell ⟨w.heap.size + 1, 2, none⟩ (.int .i64 N)).heap[w.heap.size]? = some (frB zeroF) ∧ Below w.heap.size w (W2.setCell ⟨w.heap.size + 1, 2, none⟩ (.int .i64 N))) := Lib.hid (by
    have h1 := set_block hB2 g1 (k := 2) (by omega) N
    rw [HS.out] at h1
    exact ⟨h1, (Below.heap_setCell W2 ⟨w.heap.size + 1, 2, none⟩ (.int .i64 N) w.heap.size (by show w.heap.size ≠ w.heap.size + 1; omega)).trans HX2.out, HB2.out.setCell (p := ⟨w.heap.size + 1, 2, none⟩) (Nat.le_succ _) _⟩)
  clear hB2 HFc
  go_upto_region 5 with fail
  try simp only [Act.put, List.setIfInBounds_toArray, List.set_cons_zero, List.set_cons_succ]
  clear x2 f2
  generalize W2.setCell ⟨w.heap.size + 1, 2, none⟩ (.int .i64 N) = W3 at *
  have HFp : Hid (FCells W3 (w.heap.size + 1) 0 f) := Lib.hid (FCells.of_block HB3.out.1)
  go_wp2_with (first | refine wl_load rfl _ rfl (w.heap.size + 1) 0 rfl f HFp.out ?_ | refine wl_storeG rfl _ _ rfl w.heap.size zeroF f rfl rfl HB3.out.2.1 ?_)
  exact last_ret rfl rfl rfl (row_same HB3.out.2.1) ⟨rfl, row_below HB3.out.2.2 (Nat.le_refl _) _⟩
end Go.Proofs.Ytlkcpplpjjbiaaa.frames
