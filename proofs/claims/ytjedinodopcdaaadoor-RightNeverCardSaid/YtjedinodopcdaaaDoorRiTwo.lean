/-
  The program's rights, and the document's in their box, while calls are made. No condition. Printed by tools/mkriplays.py.
-/
import Derived.Test.YtjedinodopcdaaaDoorRiLives
namespace Go.Proofs.YtjedinodopcdaaaDoor.rig
open Go.RowKit Go.ChangeShapes
open Go.Proofs.YtjedinodopcdaaaDoor.obj
open Go.Proofs.YtjedinodopcdaaaDoor.bits (Is64 hasB minus)
open Go.Proofs.YtjedinodopcdaaaDoor.bits.one (Okt okt_mono)
set_option linter.unusedVariables false
set_option linter.unusedSimpArgs false

theorem Ls.row {w W : World} {g : Nat} {l : List Nat} (h : Ls w g l W) {k : Nat} {o : Obj} (hk : w.heap.size ≤ k) (hg : k ≠ g) (ho : W.heap[k]? = some o) (hm : ∀ es c, o ≠ .map es c) (rs : Array Value) : Ls w g l (W.setRow k rs) := by
  obtain ⟨h1, h2, B, h3, h4⟩ := h
  refine ⟨row_below h1 hk rs, h2, B, h3, h4.same (row_far rs (Ne.symm hg)) (fun b hb => row_far rs (fun e => ?_))⟩
  obtain ⟨es, c, hh⟩ := (h4.2.2.2 b hb).isMap
  rw [e, ho] at hh
  exact hm es c (Option.some.inj hh)
theorem rO_map (l : List Nat) (es : Array MapEntry) (c : Nat) : rO l ≠ .map es c := by
  unfold rO
  intro h
  cases h
/-- The program's rights, and the document's in their box. -/
structure Cz (w : World) (g gx : Nat) (l x : List Nat) (W : World) : Prop where
  hs : Ls w g l W
  far : w.heap.size ≤ gx
  ne : gx ≠ g
  box : W.heap[gx]? = some (rO x)
section
variable {w W W' : World} {g gx : Nat} {l l' x : List Nat}
theorem Cz.next (h : Cz w g gx l x W) (hb : Below W.heap.size W W') : Cz w g gx l x W' :=
  ⟨h.hs.next hb, h.far, h.ne, (hb.block _ (lt_of_block h.box)).trans h.box⟩
theorem Cz.move (h : Cz w g gx l x W) (hs : Ls w g l' W') (hk : Kept g W W') : Cz w g gx l' x W' :=
  ⟨hs, h.far, h.ne, hk.2 gx _ h.ne h.box (rO_map x)⟩
theorem Cz.store (h : Cz w g gx l x W) (x' : List Nat) : Cz w g gx l x' (W.setRow gx (rC x').toArray) :=
  ⟨h.hs.row h.far h.ne h.box (rO_map x) _, h.far, h.ne, r_turned h.box x'⟩
theorem Cz.drew (h : Cz w g gx l x W) : Cz w g gx l x W.drew := h.next ((Below.refl _ W).drew)
end
theorem r_built : Tryd.prog.built 28 [] = some (rC zerosR).toArray := by kernel_rfl
theorem wr_build {ops : Array Oper} {rest : List Oper} {o : Oper} {a : Act} {w : World} {Q : Exit → Act → World → Prop} (hgd : o.guard = none) (ho : o.op = .build 28 #[])
    (h : wpList Tryd.prog ops Q rest (a.put o.dst (rV zerosR)) w) : wpList Tryd.prog ops Q (o :: rest) a w := by
  have e : ((#[] : Array (Nat × Operand)).map fun (i, x) => (i, a.eval x)).toList = [] := by simp
  refine wpList_build hgd _ _ ho (by rw [e, r_built]; rfl) ?_
  rw [e, r_built]
  exact h
theorem sr_load {ops : Array Oper} {o : Oper} {a : Act} {w : World} {Q : Exit → Act → World → Prop} {K : Act → World → Prop} {E : Prop} (hgd : o.guard = none) (x : Operand) (ho : o.op = .load 28 x) (g : Nat) (l : List Nat) (hx : a.eval x = .pointer (some ⟨g, 0, none⟩)) (hf : w.heap[g]? = some (rO l))
    (h : K (a.put o.dst (rV l)) w) : if Region.wanted o (yielded ops a.tmps) = true then Oper.wp Tryd.prog o a w K Q else E := by
  have hw : Region.wanted o (yielded ops a.tmps) = true := by simp [Region.wanted, hgd]
  rw [if_pos hw]
  exact wp_load_mid _ x ho g 0 hx (rC l) _ (r_range hf) Tryd.underlying28 rfl (r_size (rC_length l)) h
theorem wop_load {ops : Array Oper} {rest : List Oper} {o : Oper} {a : Act} {w : World} {Q : Exit → Act → World → Prop} (hgd : o.guard = none) (x : Operand) (ho : o.op = .load 31 x) (b i : Nat) (k f t : Int) (m : Nat) (hx : a.eval x = .pointer (some ⟨b, i, none⟩))
    (hc : w.cell? ⟨b, i, none⟩ = some (.int .i64 k) ∧ w.cell? ⟨b, i + 1, none⟩ = some (.int .i64 f) ∧ w.cell? ⟨b, i + 2, none⟩ = some (.int .i64 t) ∧ w.cell? ⟨b, i + 3, none⟩ = some (.int .u64 (m : Int)))
    (h : wpList Tryd.prog ops Q rest (a.put o.dst (opV k f t m)) w) : wpList Tryd.prog ops Q (o :: rest) a w :=
  wpList_load_mid hgd _ x ho b i hx [.int .i64 k, .int .i64 f, .int .i64 t, .int .u64 (m : Int)] _ (fun j v hv => by
    obtain ⟨h0, h1, h2, h3⟩ := hc
    match j, hv with
    | 0, hv => obtain rfl := Option.some.inj hv; exact h0
    | 1, hv => obtain rfl := Option.some.inj hv; exact h1
    | 2, hv => obtain rfl := Option.some.inj hv; exact h2
    | 3, hv => obtain rfl := Option.some.inj hv; exact h3) Tryd.underlying31 rfl (sizeOp rfl) h
/-- New, and the document's own beside it. -/
theorem cz_new (w : World) : Cz w w.heap.size (w.heap.size + 1) zerosR zerosR (((w.alloc (riO none)).alloc (rO zerosR)).setRow (w.heap.size + 1) (rC zerosR).toArray) := by
  have z1 : (w.alloc (riO none)).heap.size = w.heap.size + 1 := World.size_alloc _ _
  have h0 := (ls_new (Below.refl w.heap.size w)).next ((Below.refl _ (w.alloc (riO none))).alloc (Nat.le_refl _) (rO zerosR))
  have hb : ((w.alloc (riO none)).alloc (rO zerosR)).heap[w.heap.size + 1]? = some (rO zerosR) := by rw [← z1]; exact heap_alloc_new _ _
  exact Cz.store (x := zerosR) ⟨h0, by omega, by omega, hb⟩ zerosR
end Go.Proofs.YtjedinodopcdaaaDoor.rig
