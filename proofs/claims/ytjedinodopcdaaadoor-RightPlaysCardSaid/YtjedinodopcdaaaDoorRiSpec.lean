/-
  What the statements on rights take: operations of their regions, a call by its number, and that all is told as the document tells it. No condition. Printed by tools/mkrispec.py.
-/
import Derived.Test.YtjedinodopcdaaaDoorRiMoves
import Derived.Test.YtjedinodopcdaaaDoorRiRefDo
import Derived.Test.YtjedinodopcdaaaDoorRiOps
import Derived.Test.YtjedinodopcdaaaDoorObjReg
namespace Go.Proofs.YtjedinodopcdaaaDoor.rig
open Go.RowKit Go.ChangeShapes
open Go.Proofs.YtjedinodopcdaaaDoor.obj
open Go.Proofs.YtjedinodopcdaaaDoor.bits (Is64 hasB minus refHas_any)
open Go.Proofs.YtjedinodopcdaaaDoor.bits.one (Okt okt_mono)
set_option linter.unusedVariables false
set_option linter.unusedSimpArgs false

section
variable {ops : Array Oper} {S : World → Prop} {o : Oper} {a : Act}
theorem yields_fop (hg : o.guard = none) (y : Operand) (k : Nat) (hk : k < 4) (ho : o.op = .fieldAddr 31 y k) (g off : Nat) (hx : a.eval y = .pointer (some ⟨g, off, none⟩)) (r : Nat) (hr : off + k = r) : YieldsIf Tryd.prog ops S o (.pointer (some ⟨g, r, none⟩)) a :=
  .inl ⟨by simp [Region.wanted, hg], fun w' _ => by
    subst hr
    unfold execOp
    simp only [ho, hx]
    match k, hk with
    | 0, _ => go_simp
    | 1, _ => go_simp
    | 2, _ => go_simp
    | 3, _ => go_simp⟩
theorem yields_fr (hg : o.guard = none) (y : Operand) (k : Nat) (hk : k < 1) (ho : o.op = .fieldAddr 28 y k) (g off : Nat) (hx : a.eval y = .pointer (some ⟨g, off, none⟩)) (r : Nat) (hr : off + k = r) : YieldsIf Tryd.prog ops S o (.pointer (some ⟨g, r, none⟩)) a :=
  .inl ⟨by simp [Region.wanted, hg], fun w' _ => by
    subst hr
    unfold execOp
    simp only [ho, hx]
    match k, hk with
    | 0, _ => go_simp⟩
theorem yields_ridx (hg : o.guard = none) (y z : Operand) (ho : o.op = .indexAddr 26 y z) (g k : Nat) (hx : a.eval y = .pointer (some ⟨g, 0, none⟩)) (hz : a.eval z = .int .i64 (k : Int)) (k0 : (0 : Int) ≤ (k : Int)) (k1 : (k : Int) < 64) : YieldsIf Tryd.prog ops S o (.pointer (some ⟨g, k, none⟩)) a :=
  .inl ⟨by simp [Region.wanted, hg], fun w' _ => by
    unfold execOp
    simp only [ho, hx, hz]
    go_simp⟩
theorem yields_idx (hg : o.guard = none) (y z : Operand) (ho : o.op = .indexAddr 22 y z) (b i n c j : Nat) (hx : a.eval y = .slice (some ⟨b, i, none⟩) n c) (hz : a.eval z = .int .i64 (j : Int)) (k0 : (0 : Int) ≤ (j : Int)) (k1 : (j : Int) < (n : Int)) : YieldsIf Tryd.prog ops S o (.pointer (some ⟨b, i + j * 4, none⟩)) a :=
  .inl ⟨by simp [Region.wanted, hg], fun w' _ => by
    unfold execOp
    simp only [ho, hx, hz]
    go_simp⟩
theorem sizeOp {n : Nat} (h : n = 4) : (Tryd.prog.info? 31).map (·.size) = some n := by
  subst h
  kernel_rfl
theorem yields_op (hw : o.guard = none) (x : Operand) (ho : o.op = .load 31 x) (b i : Nat) (hx : a.eval x = .pointer (some ⟨b, i, none⟩)) (k f t : Int) (m : Nat)
    (hS : ∀ w, S w → w.cell? ⟨b, i, none⟩ = some (.int .i64 k) ∧ w.cell? ⟨b, i + 1, none⟩ = some (.int .i64 f) ∧ w.cell? ⟨b, i + 2, none⟩ = some (.int .i64 t) ∧ w.cell? ⟨b, i + 3, none⟩ = some (.int .u64 (m : Int))) : YieldsIf Tryd.prog ops S o (.agg #[.int .i64 k, .int .i64 f, .int .i64 t, .int .u64 (m : Int)]) a :=
  yieldsIf_load_mid (by simp [Region.wanted, hw]) _ x ho b i hx [.int .i64 k, .int .i64 f, .int .i64 t, .int .u64 (m : Int)] _ (fun w h j v hv => by
    obtain ⟨h0, h1, h2, h3⟩ := hS w h
    match j, hv with
    | 0, hv => obtain rfl := Option.some.inj hv; exact h0
    | 1, hv => obtain rfl := Option.some.inj hv; exact h1
    | 2, hv => obtain rfl := Option.some.inj hv; exact h2
    | 3, hv => obtain rfl := Option.some.inj hv; exact h3) Tryd.underlying31 rfl (sizeOp rfl)
end
/-- A call, as a value; its box. -/
def opV (k f t : Int) (m : Nat) : Value := .agg #[.int .i64 k, .int .i64 f, .int .i64 t, .int .u64 (m : Int)]
def opO (k f t : Int) (m : Nat) : Obj := .cells #[.int .i64 k, .int .i64 f, .int .i64 t, .int .u64 (m : Int)] 31 (0, 0)
set_option maxRecDepth 100000 in
set_option maxHeartbeats 4000000 in
theorem do_any (w : World) (g : Nat) (B : Option Nat) (l : List Nat) (k f t : Int) (m : Nat) (ha : AtM w g B l) (hf : I64 f) (ht : I64 t) (hm : Is64 m) (hO : Okt w) :
    Calls Tryd.prog 8 #[.pointer (some ⟨g, 0, none⟩), opV k f t m] w (Moved g B (doR l k f t m) w) := by
  have HX := Lib.hid (heap_alloc_new w (.cells #[.int .i64 k, .int .i64 f, .int .i64 t, .int .u64 (m : Int)] 31))
  have hb0 : Below w.heap.size w (w.alloc (.cells #[.int .i64 k, .int .i64 f, .int .i64 t, .int .u64 (m : Int)] 31)) := (Below.refl _ w).alloc (Nat.le_refl _) _
  have hA := ha.next hb0
  have hO1 := okt_mono _ _ hO hb0
  have HT : Hid (∀ l2 w2 B2, AtM w2 g B2 l2 → Turn g B (w.alloc (.cells #[.int .i64 k, .int .i64 f, .int .i64 t, .int .u64 (m : Int)] 31)) w2 → Grow (w.alloc (.cells #[.int .i64 k, .int .i64 f, .int .i64 t, .int .u64 (m : Int)] 31)) B B2 → ∃ B', AtM w2 g B' l2 ∧ Turn g B w w2 ∧ Grow w B B') := Lib.hid (fun l2 w2 B2 h1 h2 h3 => ⟨B2, h1, (Turn.of_below hb0).trans h2 (Grow.refl _ _), (Grow.refl w B).trans h3 hb0.size⟩)
  unfold opV
  unfold Moved
  clear ha hO hb0
  by_cases h0 : k = 0
  · subst h0
    have C := Lib.hid (root_any (w.alloc (.cells #[.int .i64 0, .int .i64 f, .int .i64 t, .int .u64 (m : Int)] 31)) g B l t hA ht hO1)
    rw [show doR l 0 f t m = setR l t allR by unfold doR; rw [if_pos rfl]]
    unfold Moved at C
    clear hA hO1 hf ht hm
    generalize setR l t allR = l2 at *
    go_enter Tryd.func8, Tryd.ntmps8
    go_upto_region 1 with fail
    generalize w.alloc (.cells #[.int .i64 0, .int .i64 f, .int .i64 t, .int .u64 (m : Int)] 31) = W1 at *
    obtain ⟨y0, y1, y2, y3⟩ := cells4 HX.out
    go_wp2_with fail
    refine C.out.mono ?_
    rintro _ w2 ⟨rfl, h1, h2, h3, h4⟩
    have HE := Lib.hid (HT.out _ _ _ h2 h3 h4)
    clear C y0 y1 y2 y3 HX h2 h3 h4
    go_wp2
    go_end0
    exact ⟨rfl, HE.out⟩
  have e0 : (k == 0) = false := by rw [beq_eq_false_iff_ne]; exact h0
  by_cases h1 : k = 1
  · subst h1
    have C := Lib.hid (child_any (w.alloc (.cells #[.int .i64 1, .int .i64 f, .int .i64 t, .int .u64 (m : Int)] 31)) g B l f t m hA hf ht hm hO1)
    rw [show doR l 1 f t m = setR l t (rv l f &&& m) by unfold doR; rw [if_neg (by decide), if_pos rfl]]
    unfold Moved at C
    clear hA hO1 hf ht hm h0
    generalize setR l t (rv l f &&& m) = l2 at *
    go_enter Tryd.func8, Tryd.ntmps8
    go_upto_region 1 with fail
    generalize w.alloc (.cells #[.int .i64 1, .int .i64 f, .int .i64 t, .int .u64 (m : Int)] 31) = W1 at *
    obtain ⟨y0, y1, y2, y3⟩ := cells4 HX.out
    go_wp2_with fail
    refine C.out.mono ?_
    rintro _ w2 ⟨rfl, h1, h2, h3, h4⟩
    have HE := Lib.hid (HT.out _ _ _ h2 h3 h4)
    clear C y0 y1 y2 y3 HX h2 h3 h4
    go_wp2
    go_end0
    exact ⟨rfl, HE.out⟩
  have e1 : (k == 1) = false := by rw [beq_eq_false_iff_ne]; exact h1
  by_cases h2 : k = 2
  · subst h2
    have C := Lib.hid (give_any (w.alloc (.cells #[.int .i64 2, .int .i64 f, .int .i64 t, .int .u64 (m : Int)] 31)) g B l f t m hA hf ht hm hO1)
    rw [show doR l 2 f t m = setR l t (rv l t ||| (rv l f &&& m)) by unfold doR; rw [if_neg (by decide), if_neg (by decide), if_pos rfl]]
    unfold Moved at C
    clear hA hO1 hf ht hm h0 h1
    generalize setR l t (rv l t ||| (rv l f &&& m)) = l2 at *
    go_enter Tryd.func8, Tryd.ntmps8
    go_upto_region 1 with fail
    generalize w.alloc (.cells #[.int .i64 2, .int .i64 f, .int .i64 t, .int .u64 (m : Int)] 31) = W1 at *
    obtain ⟨y0, y1, y2, y3⟩ := cells4 HX.out
    go_wp2_with fail
    refine C.out.mono ?_
    rintro _ w2 ⟨rfl, h1, h2, h3, h4⟩
    have HE := Lib.hid (HT.out _ _ _ h2 h3 h4)
    clear C y0 y1 y2 y3 HX h2 h3 h4
    go_wp2
    go_end0
    exact ⟨rfl, HE.out⟩
  have e2 : (k == 2) = false := by rw [beq_eq_false_iff_ne]; exact h2
  by_cases h3 : k = 3
  · subst h3
    have C : Hid (Calls Tryd.prog 20 #[.pointer (some ⟨g, 0, none⟩), .int .i64 t, .int .u64 (m : Int)] (w.alloc (.cells #[.int .i64 3, .int .i64 f, .int .i64 t, .int .u64 (m : Int)] 31)) (Moved g B (setR l t (minus (rv l t) m)) (w.alloc (.cells #[.int .i64 3, .int .i64 f, .int .i64 t, .int .u64 (m : Int)] 31)))) := Lib.hid ((waive_any (w.alloc (.cells #[.int .i64 3, .int .i64 f, .int .i64 t, .int .u64 (m : Int)] 31)) g B l t m hA hm).mono fun e w' h => ⟨h.1, B, h.2.1, h.2.2, Grow.refl _ _⟩)
    rw [show doR l 3 f t m = setR l t (minus (rv l t) m) by unfold doR; rw [if_neg (by decide), if_neg (by decide), if_neg (by decide), if_pos rfl]]
    unfold Moved at C
    clear hA hO1 hf ht hm h0 h1 h2
    generalize setR l t (minus (rv l t) m) = l2 at *
    go_enter Tryd.func8, Tryd.ntmps8
    go_upto_region 1 with fail
    generalize w.alloc (.cells #[.int .i64 3, .int .i64 f, .int .i64 t, .int .u64 (m : Int)] 31) = W1 at *
    obtain ⟨y0, y1, y2, y3⟩ := cells4 HX.out
    go_wp2_with fail
    refine C.out.mono ?_
    rintro _ w2 ⟨rfl, h1, h2, h3, h4⟩
    have HE := Lib.hid (HT.out _ _ _ h2 h3 h4)
    clear C y0 y1 y2 y3 HX h2 h3 h4
    go_wp2
    go_end0
    exact ⟨rfl, HE.out⟩
  have e3 : (k == 3) = false := by rw [beq_eq_false_iff_ne]; exact h3
  have C : Hid (Calls Tryd.prog 21 #[.pointer (some ⟨g, 0, none⟩), .int .i64 t] (w.alloc (.cells #[.int .i64 k, .int .i64 f, .int .i64 t, .int .u64 (m : Int)] 31)) (Moved g B (setR l t 0) (w.alloc (.cells #[.int .i64 k, .int .i64 f, .int .i64 t, .int .u64 (m : Int)] 31)))) := Lib.hid ((clear_any (w.alloc (.cells #[.int .i64 k, .int .i64 f, .int .i64 t, .int .u64 (m : Int)] 31)) g B l t hA).mono fun e w' h => ⟨h.1, B, h.2.1, h.2.2, Grow.refl _ _⟩)
  rw [show doR l k f t m = setR l t 0 by unfold doR; rw [if_neg h0, if_neg h1, if_neg h2, if_neg h3]]
  unfold Moved at C
  clear hA hO1 hf ht hm h0 h1 h2 h3
  generalize setR l t 0 = l2 at *
  go_enter Tryd.func8, Tryd.ntmps8
  go_upto_region 1 with fail
  generalize w.alloc (.cells #[.int .i64 k, .int .i64 f, .int .i64 t, .int .u64 (m : Int)] 31) = W1 at *
  obtain ⟨y0, y1, y2, y3⟩ := cells4 HX.out
  go_wp2_with fail
  refine C.out.mono ?_
  rintro _ w2 ⟨rfl, h1, h2, h3, h4⟩
  have HE := Lib.hid (HT.out _ _ _ h2 h3 h4)
  clear C y0 y1 y2 y3 HX h2 h3 h4
  go_wp2
  go_end0
  exact ⟨rfl, HE.out⟩
set_option maxRecDepth 100000 in
set_option maxHeartbeats 4000000 in
theorem do_nil (w : World) (k f t : Int) (m : Nat) (hm : Is64 m) : Calls Tryd.prog 8 #[.pointer none, opV k f t m] w fun e w' => e = .returned (.tuple #[]) ∧ Below w.heap.size w w' := by
  have HX := Lib.hid (heap_alloc_new w (.cells #[.int .i64 k, .int .i64 f, .int .i64 t, .int .u64 (m : Int)] 31))
  have HB := Lib.hid ((Below.refl w.heap.size w).alloc (Nat.le_refl _) (.cells #[.int .i64 k, .int .i64 f, .int .i64 t, .int .u64 (m : Int)] 31))
  unfold opV
  by_cases h0 : k = 0
  · subst h0
    have C := Lib.hid (root_nil (w.alloc (.cells #[.int .i64 0, .int .i64 f, .int .i64 t, .int .u64 (m : Int)] 31)) t)
    go_enter Tryd.func8, Tryd.ntmps8
    go_upto_region 1 with fail
    generalize w.alloc (.cells #[.int .i64 0, .int .i64 f, .int .i64 t, .int .u64 (m : Int)] 31) = W1 at *
    obtain ⟨y0, y1, y2, y3⟩ := cells4 HX.out
    go_wp2_with fail
    refine C.out.mono ?_
    rintro _ w2 ⟨rfl, rfl⟩
    clear C y0 y1 y2 y3 HX
    go_wp2
    go_end0
    exact ⟨rfl, HB.out⟩
  have e0 : (k == 0) = false := by rw [beq_eq_false_iff_ne]; exact h0
  by_cases h1 : k = 1
  · subst h1
    have C := Lib.hid (child_nil (w.alloc (.cells #[.int .i64 1, .int .i64 f, .int .i64 t, .int .u64 (m : Int)] 31)) f t m hm)
    clear h0
    go_enter Tryd.func8, Tryd.ntmps8
    go_upto_region 1 with fail
    generalize w.alloc (.cells #[.int .i64 1, .int .i64 f, .int .i64 t, .int .u64 (m : Int)] 31) = W1 at *
    obtain ⟨y0, y1, y2, y3⟩ := cells4 HX.out
    go_wp2_with fail
    refine C.out.mono ?_
    rintro _ w2 ⟨rfl, rfl⟩
    clear C y0 y1 y2 y3 HX
    go_wp2
    go_end0
    exact ⟨rfl, HB.out⟩
  have e1 : (k == 1) = false := by rw [beq_eq_false_iff_ne]; exact h1
  by_cases h2 : k = 2
  · subst h2
    have C := Lib.hid (give_nil (w.alloc (.cells #[.int .i64 2, .int .i64 f, .int .i64 t, .int .u64 (m : Int)] 31)) f t m hm)
    clear h0 h1
    go_enter Tryd.func8, Tryd.ntmps8
    go_upto_region 1 with fail
    generalize w.alloc (.cells #[.int .i64 2, .int .i64 f, .int .i64 t, .int .u64 (m : Int)] 31) = W1 at *
    obtain ⟨y0, y1, y2, y3⟩ := cells4 HX.out
    go_wp2_with fail
    refine C.out.mono ?_
    rintro _ w2 ⟨rfl, rfl⟩
    clear C y0 y1 y2 y3 HX
    go_wp2
    go_end0
    exact ⟨rfl, HB.out⟩
  have e2 : (k == 2) = false := by rw [beq_eq_false_iff_ne]; exact h2
  by_cases h3 : k = 3
  · subst h3
    have C := Lib.hid (waive_nil (w.alloc (.cells #[.int .i64 3, .int .i64 f, .int .i64 t, .int .u64 (m : Int)] 31)) t m)
    clear h0 h1 h2
    go_enter Tryd.func8, Tryd.ntmps8
    go_upto_region 1 with fail
    generalize w.alloc (.cells #[.int .i64 3, .int .i64 f, .int .i64 t, .int .u64 (m : Int)] 31) = W1 at *
    obtain ⟨y0, y1, y2, y3⟩ := cells4 HX.out
    go_wp2_with fail
    refine C.out.mono ?_
    rintro _ w2 ⟨rfl, rfl⟩
    clear C y0 y1 y2 y3 HX
    go_wp2
    go_end0
    exact ⟨rfl, HB.out⟩
  have e3 : (k == 3) = false := by rw [beq_eq_false_iff_ne]; exact h3
  have C := Lib.hid (clear_nil (w.alloc (.cells #[.int .i64 k, .int .i64 f, .int .i64 t, .int .u64 (m : Int)] 31)) t)
  clear h0 h1 h2 h3
  go_enter Tryd.func8, Tryd.ntmps8
  go_upto_region 1 with fail
  generalize w.alloc (.cells #[.int .i64 k, .int .i64 f, .int .i64 t, .int .u64 (m : Int)] 31) = W1 at *
  obtain ⟨y0, y1, y2, y3⟩ := cells4 HX.out
  go_wp2_with fail
  refine C.out.mono ?_
  rintro _ w2 ⟨rfl, rfl⟩
  clear C y0 y1 y2 y3 HX
  go_wp2
  go_end0
  exact ⟨rfl, HB.out⟩
/-- While all is told: the boxes of the document's rights and of the call. -/
structure Sz (w : World) (g : Nat) (B : Option Nat) (l : List Nat) (k f t : Int) (m : Nat) (W : World) : Prop where
  below : Below w.heap.size w W
  ra : AtM W g B l
  b0 : W.heap[w.heap.size]? = some (rO l)
  b1 : W.heap[w.heap.size + 1]? = some (.cells #[.int .i64 k, .int .i64 f, .int .i64 t, .int .u64 (m : Int)] 31 (0, 0))
theorem sz_new {w : World} {g : Nat} {B : Option Nat} {l : List Nat} (ha : AtM w g B l) (k f t : Int) (m : Nat) : Sz w g B l k f t m ((w.alloc (rO l)).alloc (.cells #[.int .i64 k, .int .i64 f, .int .i64 t, .int .u64 (m : Int)] 31)) := by
  have z1 : (w.alloc (rO l)).heap.size = w.heap.size + 1 := World.size_alloc _ _
  have hb : Below w.heap.size w ((w.alloc (rO l)).alloc (.cells #[.int .i64 k, .int .i64 f, .int .i64 t, .int .u64 (m : Int)] 31)) := ((Below.refl _ w).alloc (Nat.le_refl _) _).alloc (by omega) _
  refine ⟨hb, ha.next hb, ?_, ?_⟩
  · exact (Below.heap_alloc _ _ _ (by omega)).trans (heap_alloc_new w _)
  · rw [← z1]
    exact heap_alloc_new _ _
section
variable {w W W' : World} {g : Nat} {B : Option Nat} {l : List Nat} {k f t : Int} {m : Nat}
theorem Sz.next (h : Sz w g B l k f t m W) (hb : Below W.heap.size W W') : Sz w g B l k f t m W' :=
  ⟨h.below.trans (hb.mono h.below.size), h.ra.next hb, (hb.block _ (lt_of_block h.b0)).trans h.b0, (hb.block _ (lt_of_block h.b1)).trans h.b1⟩
theorem Sz.drew (h : Sz w g B l k f t m W) : Sz w g B l k f t m W.drew := ⟨h.below.drew, h.ra.next ((Below.refl _ W).drew), h.b0, h.b1⟩
theorem Sz.cells (h : Sz w g B l k f t m W) : W.cell? ⟨w.heap.size + 1, 0, none⟩ = some (.int .i64 k) ∧ W.cell? ⟨w.heap.size + 1, 1, none⟩ = some (.int .i64 f) ∧ W.cell? ⟨w.heap.size + 1, 2, none⟩ = some (.int .i64 t) ∧ W.cell? ⟨w.heap.size + 1, 3, none⟩ = some (.int .u64 (m : Int)) := cells4 h.b1
end
theorem ret_same {W : World} {act : Act} {Q : Ending → World → Prop} {b : Bool} (h8 : act.tmps[8]?.getD undef = .bool b) (hd : act.defers = []) (hQ : Q (.returned (.bool b)) W) : bodyPost Tryd.prog Tryd.f10 Q .ret act W := by
  refine bodyPost_ret (v := .bool b) ?_ hd hQ
  simp [results, Tryd.results10, asAddr, h8, Sem.run_bind, Sem.run_pure, Result.andThen]
set_option maxRecDepth 100000 in
set_option maxHeartbeats 4000000 in
theorem same_any (w : World) (g : Nat) (B : Option Nat) (l : List Nat) (k f t o : Int) (m : Nat) (ha : AtM w g B l) (hf : I64 f) (ht : I64 t) (ho : I64 o) :
    Calls Tryd.prog 10 #[.pointer (some ⟨g, 0, none⟩), rV l, opV k f t m, .int .i64 o] w fun e w' => e = .returned (.bool true) ∧ Below w.heap.size w w' := by
  have HZ := Lib.hid (sz_new ha k f t m)
  have z1 : (w.alloc (rO l)).heap.size = w.heap.size + 1 := World.size_alloc _ _
  have HF := Lib.hid ha.2.1
  have C1 : ∀ W u, AtM W g B l → I64 u → Hid (Calls Tryd.prog 11 #[.pointer (some ⟨g, 0, none⟩), .int .i64 u] W fun e w' => e = .returned (.int .u64 ((rv l u : Nat) : Int)) ∧ Below W.heap.size W w') := fun W u h hu => Lib.hid (of_any W g B l u h hu)
  have C2 : ∀ W u, Hid (Calls Tryd.prog 16 #[rV l, .int .i64 u] W fun e w' => e = .returned (.int .u64 ((rv l u : Nat) : Int)) ∧ Below W.heap.size W w') := fun W u => Lib.hid (refOf21_any l u W)
  have C3 : ∀ W, AtM W g B l → Hid (Calls Tryd.prog 13 #[.pointer (some ⟨g, 0, none⟩), .int .i64 o] W fun e w' => e = .returned (.int .u64 ((whoR l o : Nat) : Int)) ∧ Below W.heap.size W w') := fun W h => Lib.hid (who_any W g B l o h ho)
  have C4 : ∀ W, Hid (Calls Tryd.prog 24 #[rV l, .int .i64 o] W fun e w' => e = .returned (.int .u64 ((whoR l o : Nat) : Int)) ∧ Below W.heap.size W w') := fun W => Lib.hid (refWho21_any l o W HF.out)
  have C5 : ∀ W, AtM W g B l → Hid (Calls Tryd.prog 15 #[.pointer (some ⟨g, 0, none⟩), .int .i64 t, .int .i64 o] W fun e w' => e = .returned (.bool (hasB (rv l t) o)) ∧ Below W.heap.size W w') := fun W h => Lib.hid (has_any W g B l t o h ht ho)
  have C6 : ∀ W, Hid (Calls Tryd.prog 25 #[.int .u64 ((rv l t : Nat) : Int), .int .i64 o] W fun e w' => e = .returned (.bool (hasB (rv l t) o)) ∧ W = w') := fun W => Lib.hid (refHas_any _ (rv_is HF.out t) o W)
  have HI : Hid (I64 f ∧ I64 t) := Lib.hid ⟨hf, ht⟩
  unfold opV
  by_cases hlow : o < 32
  · have d0 : decide (o < 32) = true := decide_eq_true hlow
    generalize hasB (rv l t) o = hb at *
    generalize whoR l o = ys at *
    clear ha hf ht ho hlow
    go_enter Tryd.func10, Tryd.ntmps10
    go_upto_region 1 with (first | refine wr_box rfl _ rfl l rfl ?_)
    try simp only [Act.put, List.setIfInBounds_toArray, List.set_cons_zero, List.set_cons_succ]
    try rw [z1]
    generalize (w.alloc (rO l)).alloc (.cells #[.int .i64 k, .int .i64 f, .int .i64 t, .int .u64 (m : Int)] 31) = W1 at *
    clear z1
    refine wp_hold_act (fun a0 HA0 => ?_)
    have z0 : a0.tmps.size = 56 := by rw [HA0.out]; rfl
    have dd0 : a0.defers = [] := by rw [HA0.out]
    have f0_0 : a0.eval (.tmp 0) = .pointer (some ⟨g, 0, none⟩) := by rw [HA0.out]; rfl
    have f0_3 : a0.eval (.tmp 3) = .int .i64 o := by rw [HA0.out]; rfl
    have f0_5 : a0.eval (.tmp 5) = .pointer (some ⟨w.heap.size, 0, none⟩) := by rw [HA0.out]; rfl
    have f0_6 : a0.eval (.tmp 6) = .pointer (some ⟨w.heap.size + 1, 0, none⟩) := by rw [HA0.out]; rfl
    clear HA0
    refine wp_region_held_drew (S := fun w' => Sz w g B l k f t m w') (by kernel_rfl) (HZ.out.drew) (fun hS => ?_)
    refine wpAnyH_take (i := 0) (v := .pointer (some ⟨g, 0, none⟩)) rfl (by kernel_rfl) (by kernel_rfl) (by kernel_rfl) (fun _ _ _ h => h) (yields_move rfl (.tmp 0) rfl f0_0) hS ?_
    obtain ⟨a1, hA1⟩ : ∃ a', a' = a0.put (some 9) (.pointer (some ⟨g, 0, none⟩)) := ⟨_, rfl⟩
    change wpAnyH _ _ _ _ _ _ _ (a0.put (some 9) (.pointer (some ⟨g, 0, none⟩))) _
    rw [← hA1]
    have f1_9 : a1.eval (.tmp 9) = .pointer (some ⟨g, 0, none⟩) := by rw [hA1]; exact Act.eval_put_same _ _ _ (by omega)
    have f1_0 : a1.eval (.tmp 0) = .pointer (some ⟨g, 0, none⟩) := by rw [hA1]; exact (Act.eval_put_ne _ _ _ _ (by decide)).trans f0_0
    have f1_3 : a1.eval (.tmp 3) = .int .i64 o := by rw [hA1]; exact (Act.eval_put_ne _ _ _ _ (by decide)).trans f0_3
    have f1_5 : a1.eval (.tmp 5) = .pointer (some ⟨w.heap.size, 0, none⟩) := by rw [hA1]; exact (Act.eval_put_ne _ _ _ _ (by decide)).trans f0_5
    have f1_6 : a1.eval (.tmp 6) = .pointer (some ⟨w.heap.size + 1, 0, none⟩) := by rw [hA1]; exact (Act.eval_put_ne _ _ _ _ (by decide)).trans f0_6
    have z1 : a1.tmps.size = 56 := by rw [hA1, Act.size_put]; exact z0
    have dd1 : a1.defers = [] := by rw [hA1, Act.defers_put']; exact dd0
    clear hA1 z0 dd0 f0_0 f0_3 f0_5 f0_6
    refine wpAnyH_take (i := 1) (v := .pointer (some ⟨w.heap.size + 1, 1, none⟩)) rfl (by kernel_rfl) (by kernel_rfl) (by kernel_rfl) (fun _ _ _ h => h) (yields_fop rfl (.tmp 6) 1 (by omega) rfl _ _ f1_6 _ rfl) hS ?_
    obtain ⟨a2, hA2⟩ : ∃ a', a' = a1.put (some 10) (.pointer (some ⟨w.heap.size + 1, 1, none⟩)) := ⟨_, rfl⟩
    change wpAnyH _ _ _ _ _ _ _ (a1.put (some 10) (.pointer (some ⟨w.heap.size + 1, 1, none⟩))) _
    rw [← hA2]
    have f2_10 : a2.eval (.tmp 10) = .pointer (some ⟨w.heap.size + 1, 1, none⟩) := by rw [hA2]; exact Act.eval_put_same _ _ _ (by omega)
    have f2_9 : a2.eval (.tmp 9) = .pointer (some ⟨g, 0, none⟩) := by rw [hA2]; exact (Act.eval_put_ne _ _ _ _ (by decide)).trans f1_9
    have f2_0 : a2.eval (.tmp 0) = .pointer (some ⟨g, 0, none⟩) := by rw [hA2]; exact (Act.eval_put_ne _ _ _ _ (by decide)).trans f1_0
    have f2_3 : a2.eval (.tmp 3) = .int .i64 o := by rw [hA2]; exact (Act.eval_put_ne _ _ _ _ (by decide)).trans f1_3
    have f2_5 : a2.eval (.tmp 5) = .pointer (some ⟨w.heap.size, 0, none⟩) := by rw [hA2]; exact (Act.eval_put_ne _ _ _ _ (by decide)).trans f1_5
    have f2_6 : a2.eval (.tmp 6) = .pointer (some ⟨w.heap.size + 1, 0, none⟩) := by rw [hA2]; exact (Act.eval_put_ne _ _ _ _ (by decide)).trans f1_6
    have z2 : a2.tmps.size = 56 := by rw [hA2, Act.size_put]; exact z1
    have dd2 : a2.defers = [] := by rw [hA2, Act.defers_put']; exact dd1
    clear hA2 z1 dd1 f1_9 f1_0 f1_3 f1_5 f1_6
    refine wpAnyH_take (i := 2) (v := .int .i64 f) rfl (by kernel_rfl) (by kernel_rfl) (by kernel_rfl) (fun _ _ _ h => h) (yields_int rfl (.tmp 10) rfl _ f2_10 f (fun _ h => h.cells.2.1)) hS ?_
    obtain ⟨a3, hA3⟩ : ∃ a', a' = a2.put (some 11) (.int .i64 f) := ⟨_, rfl⟩
    change wpAnyH _ _ _ _ _ _ _ (a2.put (some 11) (.int .i64 f)) _
    rw [← hA3]
    have f3_11 : a3.eval (.tmp 11) = .int .i64 f := by rw [hA3]; exact Act.eval_put_same _ _ _ (by omega)
    have f3_9 : a3.eval (.tmp 9) = .pointer (some ⟨g, 0, none⟩) := by rw [hA3]; exact (Act.eval_put_ne _ _ _ _ (by decide)).trans f2_9
    have f3_0 : a3.eval (.tmp 0) = .pointer (some ⟨g, 0, none⟩) := by rw [hA3]; exact (Act.eval_put_ne _ _ _ _ (by decide)).trans f2_0
    have f3_3 : a3.eval (.tmp 3) = .int .i64 o := by rw [hA3]; exact (Act.eval_put_ne _ _ _ _ (by decide)).trans f2_3
    have f3_5 : a3.eval (.tmp 5) = .pointer (some ⟨w.heap.size, 0, none⟩) := by rw [hA3]; exact (Act.eval_put_ne _ _ _ _ (by decide)).trans f2_5
    have f3_6 : a3.eval (.tmp 6) = .pointer (some ⟨w.heap.size + 1, 0, none⟩) := by rw [hA3]; exact (Act.eval_put_ne _ _ _ _ (by decide)).trans f2_6
    have z3 : a3.tmps.size = 56 := by rw [hA3, Act.size_put]; exact z2
    have dd3 : a3.defers = [] := by rw [hA3, Act.defers_put']; exact dd2
    clear hA3 z2 dd2 f2_10 f2_9 f2_0 f2_3 f2_5 f2_6
    refine wpAnyH_take (i := 4) (v := rV l) rfl (by kernel_rfl) (by kernel_rfl) (by kernel_rfl) (fun _ _ _ h => h) (yields_r rfl (.tmp 5) rfl _ f3_5 l (fun _ h => h.b0)) hS ?_
    obtain ⟨a4, hA4⟩ : ∃ a', a' = a3.put (some 13) (rV l) := ⟨_, rfl⟩
    change wpAnyH _ _ _ _ _ _ _ (a3.put (some 13) (rV l)) _
    rw [← hA4]
    have f4_13 : a4.eval (.tmp 13) = rV l := by rw [hA4]; exact Act.eval_put_same _ _ _ (by omega)
    have f4_11 : a4.eval (.tmp 11) = .int .i64 f := by rw [hA4]; exact (Act.eval_put_ne _ _ _ _ (by decide)).trans f3_11
    have f4_9 : a4.eval (.tmp 9) = .pointer (some ⟨g, 0, none⟩) := by rw [hA4]; exact (Act.eval_put_ne _ _ _ _ (by decide)).trans f3_9
    have f4_0 : a4.eval (.tmp 0) = .pointer (some ⟨g, 0, none⟩) := by rw [hA4]; exact (Act.eval_put_ne _ _ _ _ (by decide)).trans f3_0
    have f4_3 : a4.eval (.tmp 3) = .int .i64 o := by rw [hA4]; exact (Act.eval_put_ne _ _ _ _ (by decide)).trans f3_3
    have f4_5 : a4.eval (.tmp 5) = .pointer (some ⟨w.heap.size, 0, none⟩) := by rw [hA4]; exact (Act.eval_put_ne _ _ _ _ (by decide)).trans f3_5
    have f4_6 : a4.eval (.tmp 6) = .pointer (some ⟨w.heap.size + 1, 0, none⟩) := by rw [hA4]; exact (Act.eval_put_ne _ _ _ _ (by decide)).trans f3_6
    have z4 : a4.tmps.size = 56 := by rw [hA4, Act.size_put]; exact z3
    have dd4 : a4.defers = [] := by rw [hA4, Act.defers_put']; exact dd3
    clear hA4 z3 dd3 f3_11 f3_9 f3_0 f3_3 f3_5 f3_6
    refine wpAnyH_take (i := 5) (v := .pointer (some ⟨w.heap.size + 1, 1, none⟩)) rfl (by kernel_rfl) (by kernel_rfl) (by kernel_rfl) (fun _ _ _ h => h) (yields_fop rfl (.tmp 6) 1 (by omega) rfl _ _ f4_6 _ rfl) hS ?_
    obtain ⟨a5, hA5⟩ : ∃ a', a' = a4.put (some 14) (.pointer (some ⟨w.heap.size + 1, 1, none⟩)) := ⟨_, rfl⟩
    change wpAnyH _ _ _ _ _ _ _ (a4.put (some 14) (.pointer (some ⟨w.heap.size + 1, 1, none⟩))) _
    rw [← hA5]
    have f5_14 : a5.eval (.tmp 14) = .pointer (some ⟨w.heap.size + 1, 1, none⟩) := by rw [hA5]; exact Act.eval_put_same _ _ _ (by omega)
    have f5_13 : a5.eval (.tmp 13) = rV l := by rw [hA5]; exact (Act.eval_put_ne _ _ _ _ (by decide)).trans f4_13
    have f5_11 : a5.eval (.tmp 11) = .int .i64 f := by rw [hA5]; exact (Act.eval_put_ne _ _ _ _ (by decide)).trans f4_11
    have f5_9 : a5.eval (.tmp 9) = .pointer (some ⟨g, 0, none⟩) := by rw [hA5]; exact (Act.eval_put_ne _ _ _ _ (by decide)).trans f4_9
    have f5_0 : a5.eval (.tmp 0) = .pointer (some ⟨g, 0, none⟩) := by rw [hA5]; exact (Act.eval_put_ne _ _ _ _ (by decide)).trans f4_0
    have f5_3 : a5.eval (.tmp 3) = .int .i64 o := by rw [hA5]; exact (Act.eval_put_ne _ _ _ _ (by decide)).trans f4_3
    have f5_5 : a5.eval (.tmp 5) = .pointer (some ⟨w.heap.size, 0, none⟩) := by rw [hA5]; exact (Act.eval_put_ne _ _ _ _ (by decide)).trans f4_5
    have f5_6 : a5.eval (.tmp 6) = .pointer (some ⟨w.heap.size + 1, 0, none⟩) := by rw [hA5]; exact (Act.eval_put_ne _ _ _ _ (by decide)).trans f4_6
    have z5 : a5.tmps.size = 56 := by rw [hA5, Act.size_put]; exact z4
    have dd5 : a5.defers = [] := by rw [hA5, Act.defers_put']; exact dd4
    clear hA5 z4 dd4 f4_13 f4_11 f4_9 f4_0 f4_3 f4_5 f4_6
    refine wpAnyH_take (i := 6) (v := .int .i64 f) rfl (by kernel_rfl) (by kernel_rfl) (by kernel_rfl) (fun _ _ _ h => h) (yields_int rfl (.tmp 14) rfl _ f5_14 f (fun _ h => h.cells.2.1)) hS ?_
    obtain ⟨a6, hA6⟩ : ∃ a', a' = a5.put (some 15) (.int .i64 f) := ⟨_, rfl⟩
    change wpAnyH _ _ _ _ _ _ _ (a5.put (some 15) (.int .i64 f)) _
    rw [← hA6]
    have f6_15 : a6.eval (.tmp 15) = .int .i64 f := by rw [hA6]; exact Act.eval_put_same _ _ _ (by omega)
    have f6_13 : a6.eval (.tmp 13) = rV l := by rw [hA6]; exact (Act.eval_put_ne _ _ _ _ (by decide)).trans f5_13
    have f6_11 : a6.eval (.tmp 11) = .int .i64 f := by rw [hA6]; exact (Act.eval_put_ne _ _ _ _ (by decide)).trans f5_11
    have f6_9 : a6.eval (.tmp 9) = .pointer (some ⟨g, 0, none⟩) := by rw [hA6]; exact (Act.eval_put_ne _ _ _ _ (by decide)).trans f5_9
    have f6_0 : a6.eval (.tmp 0) = .pointer (some ⟨g, 0, none⟩) := by rw [hA6]; exact (Act.eval_put_ne _ _ _ _ (by decide)).trans f5_0
    have f6_3 : a6.eval (.tmp 3) = .int .i64 o := by rw [hA6]; exact (Act.eval_put_ne _ _ _ _ (by decide)).trans f5_3
    have f6_5 : a6.eval (.tmp 5) = .pointer (some ⟨w.heap.size, 0, none⟩) := by rw [hA6]; exact (Act.eval_put_ne _ _ _ _ (by decide)).trans f5_5
    have f6_6 : a6.eval (.tmp 6) = .pointer (some ⟨w.heap.size + 1, 0, none⟩) := by rw [hA6]; exact (Act.eval_put_ne _ _ _ _ (by decide)).trans f5_6
    have z6 : a6.tmps.size = 56 := by rw [hA6, Act.size_put]; exact z5
    have dd6 : a6.defers = [] := by rw [hA6, Act.defers_put']; exact dd5
    clear hA6 z5 dd5 f5_14 f5_13 f5_11 f5_9 f5_0 f5_3 f5_5 f5_6
    refine wpAnyH_ready (rs := [3]) (by kernel_rfl) (by simp) (AllReadyH.cons (by simp only [List.getElem?_toArray, List.getElem?_cons_succ, List.getElem?_cons_zero]; rfl) (fun K hK => ?_) AllReadyH.nil)
    refine step_call (by rfl) 11 #[.tmp 9, .tmp 11] #[23, 3] (by rfl) #[.pointer (some ⟨g, 0, none⟩), .int .i64 f] (by simp only [List.map_toArray, List.map_cons, List.map_nil, f6_9, f6_11]) Tryd.func11 (by kernel_rfl) rfl ((C1 _ f hS.ra HI.out.1).out) (fun e w' hR => ?_)
    obtain ⟨rfl, hb2⟩ := hR
    refine ⟨_, rfl, hK.out _ _ (hS.next hb2) (fun hS => ?_)⟩
    obtain ⟨a7, hA7⟩ : ∃ a', a' = a6.put (some 12) (.int .u64 ((rv l f : Nat) : Int)) := ⟨_, rfl⟩
    change wpAnyH _ _ _ _ _ _ _ (a6.put (some 12) (.int .u64 ((rv l f : Nat) : Int))) _
    rw [← hA7]
    have f7_12 : a7.eval (.tmp 12) = .int .u64 ((rv l f : Nat) : Int) := by rw [hA7]; exact Act.eval_put_same _ _ _ (by omega)
    have f7_15 : a7.eval (.tmp 15) = .int .i64 f := by rw [hA7]; exact (Act.eval_put_ne _ _ _ _ (by decide)).trans f6_15
    have f7_13 : a7.eval (.tmp 13) = rV l := by rw [hA7]; exact (Act.eval_put_ne _ _ _ _ (by decide)).trans f6_13
    have f7_0 : a7.eval (.tmp 0) = .pointer (some ⟨g, 0, none⟩) := by rw [hA7]; exact (Act.eval_put_ne _ _ _ _ (by decide)).trans f6_0
    have f7_3 : a7.eval (.tmp 3) = .int .i64 o := by rw [hA7]; exact (Act.eval_put_ne _ _ _ _ (by decide)).trans f6_3
    have f7_5 : a7.eval (.tmp 5) = .pointer (some ⟨w.heap.size, 0, none⟩) := by rw [hA7]; exact (Act.eval_put_ne _ _ _ _ (by decide)).trans f6_5
    have f7_6 : a7.eval (.tmp 6) = .pointer (some ⟨w.heap.size + 1, 0, none⟩) := by rw [hA7]; exact (Act.eval_put_ne _ _ _ _ (by decide)).trans f6_6
    have z7 : a7.tmps.size = 56 := by rw [hA7, Act.size_put]; exact z6
    have dd7 : a7.defers = [] := by rw [hA7, Act.defers_put']; exact dd6
    clear hA7 z6 dd6 f6_15 f6_13 f6_11 f6_9 f6_0 f6_3 f6_5 f6_6
    refine wpAnyH_ready (rs := [7]) (by kernel_rfl) (by simp) (AllReadyH.cons (by simp only [List.getElem?_toArray, List.getElem?_cons_succ, List.getElem?_cons_zero]; rfl) (fun K hK => ?_) AllReadyH.nil)
    refine step_call (by rfl) 16 #[.tmp 13, .tmp 15] #[28, 3] (by rfl) #[rV l, .int .i64 f] (by simp only [List.map_toArray, List.map_cons, List.map_nil, f7_13, f7_15]) Tryd.func16 (by kernel_rfl) rfl ((C2 _ f).out) (fun e w' hR => ?_)
    obtain ⟨rfl, hb2⟩ := hR
    refine ⟨_, rfl, hK.out _ _ (hS.next hb2) (fun hS => ?_)⟩
    obtain ⟨a8, hA8⟩ : ∃ a', a' = a7.put (some 16) (.int .u64 ((rv l f : Nat) : Int)) := ⟨_, rfl⟩
    change wpAnyH _ _ _ _ _ _ _ (a7.put (some 16) (.int .u64 ((rv l f : Nat) : Int))) _
    rw [← hA8]
    have f8_16 : a8.eval (.tmp 16) = .int .u64 ((rv l f : Nat) : Int) := by rw [hA8]; exact Act.eval_put_same _ _ _ (by omega)
    have f8_12 : a8.eval (.tmp 12) = .int .u64 ((rv l f : Nat) : Int) := by rw [hA8]; exact (Act.eval_put_ne _ _ _ _ (by decide)).trans f7_12
    have f8_0 : a8.eval (.tmp 0) = .pointer (some ⟨g, 0, none⟩) := by rw [hA8]; exact (Act.eval_put_ne _ _ _ _ (by decide)).trans f7_0
    have f8_3 : a8.eval (.tmp 3) = .int .i64 o := by rw [hA8]; exact (Act.eval_put_ne _ _ _ _ (by decide)).trans f7_3
    have f8_5 : a8.eval (.tmp 5) = .pointer (some ⟨w.heap.size, 0, none⟩) := by rw [hA8]; exact (Act.eval_put_ne _ _ _ _ (by decide)).trans f7_5
    have f8_6 : a8.eval (.tmp 6) = .pointer (some ⟨w.heap.size + 1, 0, none⟩) := by rw [hA8]; exact (Act.eval_put_ne _ _ _ _ (by decide)).trans f7_6
    have z8 : a8.tmps.size = 56 := by rw [hA8, Act.size_put]; exact z7
    have dd8 : a8.defers = [] := by rw [hA8, Act.defers_put']; exact dd7
    clear hA8 z7 dd7 f7_12 f7_15 f7_13 f7_0 f7_3 f7_5 f7_6
    refine wpAnyH_take (i := 8) (v := .bool true) rfl (by kernel_rfl) (by kernel_rfl) (by kernel_rfl) (fun _ _ _ h => h) (yields_equ rfl (.tmp 12) (.tmp 16) rfl _ _ f8_12 f8_16 true (beq_self_eq_true _)) hS ?_
    obtain ⟨a9, hA9⟩ : ∃ a', a' = a8.put (some 17) (.bool true) := ⟨_, rfl⟩
    change wpAnyH _ _ _ _ _ _ _ (a8.put (some 17) (.bool true)) _
    rw [← hA9]
    have f9_17 : a9.eval (.tmp 17) = .bool true := by rw [hA9]; exact Act.eval_put_same _ _ _ (by omega)
    have f9_0 : a9.eval (.tmp 0) = .pointer (some ⟨g, 0, none⟩) := by rw [hA9]; exact (Act.eval_put_ne _ _ _ _ (by decide)).trans f8_0
    have f9_3 : a9.eval (.tmp 3) = .int .i64 o := by rw [hA9]; exact (Act.eval_put_ne _ _ _ _ (by decide)).trans f8_3
    have f9_5 : a9.eval (.tmp 5) = .pointer (some ⟨w.heap.size, 0, none⟩) := by rw [hA9]; exact (Act.eval_put_ne _ _ _ _ (by decide)).trans f8_5
    have f9_6 : a9.eval (.tmp 6) = .pointer (some ⟨w.heap.size + 1, 0, none⟩) := by rw [hA9]; exact (Act.eval_put_ne _ _ _ _ (by decide)).trans f8_6
    have z9 : a9.tmps.size = 56 := by rw [hA9, Act.size_put]; exact z8
    have dd9 : a9.defers = [] := by rw [hA9, Act.defers_put']; exact dd8
    clear hA9 z8 dd8 f8_16 f8_12 f8_0 f8_3 f8_5 f8_6
    refine wpAnyH_take (i := 9) (v := .bool true) rfl (by kernel_rfl) (by kernel_rfl) (by kernel_rfl) (fun _ _ _ h => h) (yields_move rfl (.tmp 17) rfl f9_17) hS ?_
    obtain ⟨a10, hA10⟩ : ∃ a', a' = a9.put (some 18) (.bool true) := ⟨_, rfl⟩
    change wpAnyH _ _ _ _ _ _ _ (a9.put (some 18) (.bool true)) _
    rw [← hA10]
    have f10_18 : a10.eval (.tmp 18) = .bool true := by rw [hA10]; exact Act.eval_put_same _ _ _ (by omega)
    have f10_0 : a10.eval (.tmp 0) = .pointer (some ⟨g, 0, none⟩) := by rw [hA10]; exact (Act.eval_put_ne _ _ _ _ (by decide)).trans f9_0
    have f10_3 : a10.eval (.tmp 3) = .int .i64 o := by rw [hA10]; exact (Act.eval_put_ne _ _ _ _ (by decide)).trans f9_3
    have f10_5 : a10.eval (.tmp 5) = .pointer (some ⟨w.heap.size, 0, none⟩) := by rw [hA10]; exact (Act.eval_put_ne _ _ _ _ (by decide)).trans f9_5
    have f10_6 : a10.eval (.tmp 6) = .pointer (some ⟨w.heap.size + 1, 0, none⟩) := by rw [hA10]; exact (Act.eval_put_ne _ _ _ _ (by decide)).trans f9_6
    have z10 : a10.tmps.size = 56 := by rw [hA10, Act.size_put]; exact z9
    have dd10 : a10.defers = [] := by rw [hA10, Act.defers_put']; exact dd9
    clear hA10 z9 dd9 f9_17 f9_0 f9_3 f9_5 f9_6
    refine wpAnyH_take (i := 10) (v := .pointer (some ⟨g, 0, none⟩)) rfl (by kernel_rfl) (by kernel_rfl) (by kernel_rfl) (fun _ _ _ h => h) (yields_guarded 9 18 true rfl rfl f10_18 (yields_move rfl (.tmp 0) rfl f10_0)) hS ?_
    obtain ⟨a11, hA11⟩ : ∃ a', a' = a10.put (some 19) (.pointer (some ⟨g, 0, none⟩)) := ⟨_, rfl⟩
    change wpAnyH _ _ _ _ _ _ _ (a10.put (some 19) (.pointer (some ⟨g, 0, none⟩))) _
    rw [← hA11]
    have f11_19 : a11.eval (.tmp 19) = .pointer (some ⟨g, 0, none⟩) := by rw [hA11]; exact Act.eval_put_same _ _ _ (by omega)
    have f11_18 : a11.eval (.tmp 18) = .bool true := by rw [hA11]; exact (Act.eval_put_ne _ _ _ _ (by decide)).trans f10_18
    have f11_0 : a11.eval (.tmp 0) = .pointer (some ⟨g, 0, none⟩) := by rw [hA11]; exact (Act.eval_put_ne _ _ _ _ (by decide)).trans f10_0
    have f11_3 : a11.eval (.tmp 3) = .int .i64 o := by rw [hA11]; exact (Act.eval_put_ne _ _ _ _ (by decide)).trans f10_3
    have f11_5 : a11.eval (.tmp 5) = .pointer (some ⟨w.heap.size, 0, none⟩) := by rw [hA11]; exact (Act.eval_put_ne _ _ _ _ (by decide)).trans f10_5
    have f11_6 : a11.eval (.tmp 6) = .pointer (some ⟨w.heap.size + 1, 0, none⟩) := by rw [hA11]; exact (Act.eval_put_ne _ _ _ _ (by decide)).trans f10_6
    have z11 : a11.tmps.size = 56 := by rw [hA11, Act.size_put]; exact z10
    have dd11 : a11.defers = [] := by rw [hA11, Act.defers_put']; exact dd10
    clear hA11 z10 dd10 f10_18 f10_0 f10_3 f10_5 f10_6
    refine wpAnyH_take (i := 11) (v := .pointer (some ⟨w.heap.size + 1, 2, none⟩)) rfl (by kernel_rfl) (by kernel_rfl) (by kernel_rfl) (fun _ _ _ h => h) (yields_guarded 9 18 true rfl rfl f11_18 (yields_fop rfl (.tmp 6) 2 (by omega) rfl _ _ f11_6 _ rfl)) hS ?_
    obtain ⟨a12, hA12⟩ : ∃ a', a' = a11.put (some 20) (.pointer (some ⟨w.heap.size + 1, 2, none⟩)) := ⟨_, rfl⟩
    change wpAnyH _ _ _ _ _ _ _ (a11.put (some 20) (.pointer (some ⟨w.heap.size + 1, 2, none⟩))) _
    rw [← hA12]
    have f12_20 : a12.eval (.tmp 20) = .pointer (some ⟨w.heap.size + 1, 2, none⟩) := by rw [hA12]; exact Act.eval_put_same _ _ _ (by omega)
    have f12_19 : a12.eval (.tmp 19) = .pointer (some ⟨g, 0, none⟩) := by rw [hA12]; exact (Act.eval_put_ne _ _ _ _ (by decide)).trans f11_19
    have f12_18 : a12.eval (.tmp 18) = .bool true := by rw [hA12]; exact (Act.eval_put_ne _ _ _ _ (by decide)).trans f11_18
    have f12_0 : a12.eval (.tmp 0) = .pointer (some ⟨g, 0, none⟩) := by rw [hA12]; exact (Act.eval_put_ne _ _ _ _ (by decide)).trans f11_0
    have f12_3 : a12.eval (.tmp 3) = .int .i64 o := by rw [hA12]; exact (Act.eval_put_ne _ _ _ _ (by decide)).trans f11_3
    have f12_5 : a12.eval (.tmp 5) = .pointer (some ⟨w.heap.size, 0, none⟩) := by rw [hA12]; exact (Act.eval_put_ne _ _ _ _ (by decide)).trans f11_5
    have f12_6 : a12.eval (.tmp 6) = .pointer (some ⟨w.heap.size + 1, 0, none⟩) := by rw [hA12]; exact (Act.eval_put_ne _ _ _ _ (by decide)).trans f11_6
    have z12 : a12.tmps.size = 56 := by rw [hA12, Act.size_put]; exact z11
    have dd12 : a12.defers = [] := by rw [hA12, Act.defers_put']; exact dd11
    clear hA12 z11 dd11 f11_19 f11_18 f11_0 f11_3 f11_5 f11_6
    refine wpAnyH_take (i := 12) (v := .int .i64 t) rfl (by kernel_rfl) (by kernel_rfl) (by kernel_rfl) (fun _ _ _ h => h) (yields_guarded 9 18 true rfl rfl f12_18 (yields_int rfl (.tmp 20) rfl _ f12_20 t (fun _ h => h.cells.2.2.1))) hS ?_
    obtain ⟨a13, hA13⟩ : ∃ a', a' = a12.put (some 21) (.int .i64 t) := ⟨_, rfl⟩
    change wpAnyH _ _ _ _ _ _ _ (a12.put (some 21) (.int .i64 t)) _
    rw [← hA13]
    have f13_21 : a13.eval (.tmp 21) = .int .i64 t := by rw [hA13]; exact Act.eval_put_same _ _ _ (by omega)
    have f13_19 : a13.eval (.tmp 19) = .pointer (some ⟨g, 0, none⟩) := by rw [hA13]; exact (Act.eval_put_ne _ _ _ _ (by decide)).trans f12_19
    have f13_18 : a13.eval (.tmp 18) = .bool true := by rw [hA13]; exact (Act.eval_put_ne _ _ _ _ (by decide)).trans f12_18
    have f13_0 : a13.eval (.tmp 0) = .pointer (some ⟨g, 0, none⟩) := by rw [hA13]; exact (Act.eval_put_ne _ _ _ _ (by decide)).trans f12_0
    have f13_3 : a13.eval (.tmp 3) = .int .i64 o := by rw [hA13]; exact (Act.eval_put_ne _ _ _ _ (by decide)).trans f12_3
    have f13_5 : a13.eval (.tmp 5) = .pointer (some ⟨w.heap.size, 0, none⟩) := by rw [hA13]; exact (Act.eval_put_ne _ _ _ _ (by decide)).trans f12_5
    have f13_6 : a13.eval (.tmp 6) = .pointer (some ⟨w.heap.size + 1, 0, none⟩) := by rw [hA13]; exact (Act.eval_put_ne _ _ _ _ (by decide)).trans f12_6
    have z13 : a13.tmps.size = 56 := by rw [hA13, Act.size_put]; exact z12
    have dd13 : a13.defers = [] := by rw [hA13, Act.defers_put']; exact dd12
    clear hA13 z12 dd12 f12_20 f12_19 f12_18 f12_0 f12_3 f12_5 f12_6
    refine wpAnyH_take (i := 14) (v := rV l) rfl (by kernel_rfl) (by kernel_rfl) (by kernel_rfl) (fun _ _ _ h => h) (yields_guarded 9 18 true rfl rfl f13_18 (yields_r rfl (.tmp 5) rfl _ f13_5 l (fun _ h => h.b0))) hS ?_
    obtain ⟨a14, hA14⟩ : ∃ a', a' = a13.put (some 23) (rV l) := ⟨_, rfl⟩
    change wpAnyH _ _ _ _ _ _ _ (a13.put (some 23) (rV l)) _
    rw [← hA14]
    have f14_23 : a14.eval (.tmp 23) = rV l := by rw [hA14]; exact Act.eval_put_same _ _ _ (by omega)
    have f14_21 : a14.eval (.tmp 21) = .int .i64 t := by rw [hA14]; exact (Act.eval_put_ne _ _ _ _ (by decide)).trans f13_21
    have f14_19 : a14.eval (.tmp 19) = .pointer (some ⟨g, 0, none⟩) := by rw [hA14]; exact (Act.eval_put_ne _ _ _ _ (by decide)).trans f13_19
    have f14_18 : a14.eval (.tmp 18) = .bool true := by rw [hA14]; exact (Act.eval_put_ne _ _ _ _ (by decide)).trans f13_18
    have f14_0 : a14.eval (.tmp 0) = .pointer (some ⟨g, 0, none⟩) := by rw [hA14]; exact (Act.eval_put_ne _ _ _ _ (by decide)).trans f13_0
    have f14_3 : a14.eval (.tmp 3) = .int .i64 o := by rw [hA14]; exact (Act.eval_put_ne _ _ _ _ (by decide)).trans f13_3
    have f14_5 : a14.eval (.tmp 5) = .pointer (some ⟨w.heap.size, 0, none⟩) := by rw [hA14]; exact (Act.eval_put_ne _ _ _ _ (by decide)).trans f13_5
    have f14_6 : a14.eval (.tmp 6) = .pointer (some ⟨w.heap.size + 1, 0, none⟩) := by rw [hA14]; exact (Act.eval_put_ne _ _ _ _ (by decide)).trans f13_6
    have z14 : a14.tmps.size = 56 := by rw [hA14, Act.size_put]; exact z13
    have dd14 : a14.defers = [] := by rw [hA14, Act.defers_put']; exact dd13
    clear hA14 z13 dd13 f13_21 f13_19 f13_18 f13_0 f13_3 f13_5 f13_6
    refine wpAnyH_take (i := 15) (v := .pointer (some ⟨w.heap.size + 1, 2, none⟩)) rfl (by kernel_rfl) (by kernel_rfl) (by kernel_rfl) (fun _ _ _ h => h) (yields_guarded 9 18 true rfl rfl f14_18 (yields_fop rfl (.tmp 6) 2 (by omega) rfl _ _ f14_6 _ rfl)) hS ?_
    obtain ⟨a15, hA15⟩ : ∃ a', a' = a14.put (some 24) (.pointer (some ⟨w.heap.size + 1, 2, none⟩)) := ⟨_, rfl⟩
    change wpAnyH _ _ _ _ _ _ _ (a14.put (some 24) (.pointer (some ⟨w.heap.size + 1, 2, none⟩))) _
    rw [← hA15]
    have f15_24 : a15.eval (.tmp 24) = .pointer (some ⟨w.heap.size + 1, 2, none⟩) := by rw [hA15]; exact Act.eval_put_same _ _ _ (by omega)
    have f15_23 : a15.eval (.tmp 23) = rV l := by rw [hA15]; exact (Act.eval_put_ne _ _ _ _ (by decide)).trans f14_23
    have f15_21 : a15.eval (.tmp 21) = .int .i64 t := by rw [hA15]; exact (Act.eval_put_ne _ _ _ _ (by decide)).trans f14_21
    have f15_19 : a15.eval (.tmp 19) = .pointer (some ⟨g, 0, none⟩) := by rw [hA15]; exact (Act.eval_put_ne _ _ _ _ (by decide)).trans f14_19
    have f15_18 : a15.eval (.tmp 18) = .bool true := by rw [hA15]; exact (Act.eval_put_ne _ _ _ _ (by decide)).trans f14_18
    have f15_0 : a15.eval (.tmp 0) = .pointer (some ⟨g, 0, none⟩) := by rw [hA15]; exact (Act.eval_put_ne _ _ _ _ (by decide)).trans f14_0
    have f15_3 : a15.eval (.tmp 3) = .int .i64 o := by rw [hA15]; exact (Act.eval_put_ne _ _ _ _ (by decide)).trans f14_3
    have f15_5 : a15.eval (.tmp 5) = .pointer (some ⟨w.heap.size, 0, none⟩) := by rw [hA15]; exact (Act.eval_put_ne _ _ _ _ (by decide)).trans f14_5
    have f15_6 : a15.eval (.tmp 6) = .pointer (some ⟨w.heap.size + 1, 0, none⟩) := by rw [hA15]; exact (Act.eval_put_ne _ _ _ _ (by decide)).trans f14_6
    have z15 : a15.tmps.size = 56 := by rw [hA15, Act.size_put]; exact z14
    have dd15 : a15.defers = [] := by rw [hA15, Act.defers_put']; exact dd14
    clear hA15 z14 dd14 f14_23 f14_21 f14_19 f14_18 f14_0 f14_3 f14_5 f14_6
    refine wpAnyH_take (i := 16) (v := .int .i64 t) rfl (by kernel_rfl) (by kernel_rfl) (by kernel_rfl) (fun _ _ _ h => h) (yields_guarded 9 18 true rfl rfl f15_18 (yields_int rfl (.tmp 24) rfl _ f15_24 t (fun _ h => h.cells.2.2.1))) hS ?_
    obtain ⟨a16, hA16⟩ : ∃ a', a' = a15.put (some 25) (.int .i64 t) := ⟨_, rfl⟩
    change wpAnyH _ _ _ _ _ _ _ (a15.put (some 25) (.int .i64 t)) _
    rw [← hA16]
    have f16_25 : a16.eval (.tmp 25) = .int .i64 t := by rw [hA16]; exact Act.eval_put_same _ _ _ (by omega)
    have f16_23 : a16.eval (.tmp 23) = rV l := by rw [hA16]; exact (Act.eval_put_ne _ _ _ _ (by decide)).trans f15_23
    have f16_21 : a16.eval (.tmp 21) = .int .i64 t := by rw [hA16]; exact (Act.eval_put_ne _ _ _ _ (by decide)).trans f15_21
    have f16_19 : a16.eval (.tmp 19) = .pointer (some ⟨g, 0, none⟩) := by rw [hA16]; exact (Act.eval_put_ne _ _ _ _ (by decide)).trans f15_19
    have f16_18 : a16.eval (.tmp 18) = .bool true := by rw [hA16]; exact (Act.eval_put_ne _ _ _ _ (by decide)).trans f15_18
    have f16_0 : a16.eval (.tmp 0) = .pointer (some ⟨g, 0, none⟩) := by rw [hA16]; exact (Act.eval_put_ne _ _ _ _ (by decide)).trans f15_0
    have f16_3 : a16.eval (.tmp 3) = .int .i64 o := by rw [hA16]; exact (Act.eval_put_ne _ _ _ _ (by decide)).trans f15_3
    have f16_5 : a16.eval (.tmp 5) = .pointer (some ⟨w.heap.size, 0, none⟩) := by rw [hA16]; exact (Act.eval_put_ne _ _ _ _ (by decide)).trans f15_5
    have f16_6 : a16.eval (.tmp 6) = .pointer (some ⟨w.heap.size + 1, 0, none⟩) := by rw [hA16]; exact (Act.eval_put_ne _ _ _ _ (by decide)).trans f15_6
    have z16 : a16.tmps.size = 56 := by rw [hA16, Act.size_put]; exact z15
    have dd16 : a16.defers = [] := by rw [hA16, Act.defers_put']; exact dd15
    clear hA16 z15 dd15 f15_24 f15_23 f15_21 f15_19 f15_18 f15_0 f15_3 f15_5 f15_6
    refine wpAnyH_ready (rs := [13]) (by kernel_rfl) (by simp) (AllReadyH.cons (by simp only [List.getElem?_toArray, List.getElem?_cons_succ, List.getElem?_cons_zero]; rfl) (fun K hK => ?_) AllReadyH.nil)
    refine step_callg 9 18 true (by rfl) (by rfl) f16_18 11 #[.tmp 19, .tmp 21] #[23, 3] (by rfl) #[.pointer (some ⟨g, 0, none⟩), .int .i64 t] (by simp only [List.map_toArray, List.map_cons, List.map_nil, f16_19, f16_21]) Tryd.func11 (by kernel_rfl) rfl ((C1 _ t hS.ra HI.out.2).out) (fun e w' hR => ?_)
    obtain ⟨rfl, hb2⟩ := hR
    refine ⟨_, rfl, hK.out _ _ (hS.next hb2) (fun hS => ?_)⟩
    obtain ⟨a17, hA17⟩ : ∃ a', a' = a16.put (some 22) (.int .u64 ((rv l t : Nat) : Int)) := ⟨_, rfl⟩
    change wpAnyH _ _ _ _ _ _ _ (a16.put (some 22) (.int .u64 ((rv l t : Nat) : Int))) _
    rw [← hA17]
    have f17_22 : a17.eval (.tmp 22) = .int .u64 ((rv l t : Nat) : Int) := by rw [hA17]; exact Act.eval_put_same _ _ _ (by omega)
    have f17_25 : a17.eval (.tmp 25) = .int .i64 t := by rw [hA17]; exact (Act.eval_put_ne _ _ _ _ (by decide)).trans f16_25
    have f17_23 : a17.eval (.tmp 23) = rV l := by rw [hA17]; exact (Act.eval_put_ne _ _ _ _ (by decide)).trans f16_23
    have f17_18 : a17.eval (.tmp 18) = .bool true := by rw [hA17]; exact (Act.eval_put_ne _ _ _ _ (by decide)).trans f16_18
    have f17_0 : a17.eval (.tmp 0) = .pointer (some ⟨g, 0, none⟩) := by rw [hA17]; exact (Act.eval_put_ne _ _ _ _ (by decide)).trans f16_0
    have f17_3 : a17.eval (.tmp 3) = .int .i64 o := by rw [hA17]; exact (Act.eval_put_ne _ _ _ _ (by decide)).trans f16_3
    have f17_5 : a17.eval (.tmp 5) = .pointer (some ⟨w.heap.size, 0, none⟩) := by rw [hA17]; exact (Act.eval_put_ne _ _ _ _ (by decide)).trans f16_5
    have f17_6 : a17.eval (.tmp 6) = .pointer (some ⟨w.heap.size + 1, 0, none⟩) := by rw [hA17]; exact (Act.eval_put_ne _ _ _ _ (by decide)).trans f16_6
    have z17 : a17.tmps.size = 56 := by rw [hA17, Act.size_put]; exact z16
    have dd17 : a17.defers = [] := by rw [hA17, Act.defers_put']; exact dd16
    clear hA17 z16 dd16 f16_25 f16_23 f16_21 f16_19 f16_18 f16_0 f16_3 f16_5 f16_6
    refine wpAnyH_ready (rs := [17]) (by kernel_rfl) (by simp) (AllReadyH.cons (by simp only [List.getElem?_toArray, List.getElem?_cons_succ, List.getElem?_cons_zero]; rfl) (fun K hK => ?_) AllReadyH.nil)
    refine step_callg 9 18 true (by rfl) (by rfl) f17_18 16 #[.tmp 23, .tmp 25] #[28, 3] (by rfl) #[rV l, .int .i64 t] (by simp only [List.map_toArray, List.map_cons, List.map_nil, f17_23, f17_25]) Tryd.func16 (by kernel_rfl) rfl ((C2 _ t).out) (fun e w' hR => ?_)
    obtain ⟨rfl, hb2⟩ := hR
    refine ⟨_, rfl, hK.out _ _ (hS.next hb2) (fun hS => ?_)⟩
    obtain ⟨a18, hA18⟩ : ∃ a', a' = a17.put (some 26) (.int .u64 ((rv l t : Nat) : Int)) := ⟨_, rfl⟩
    change wpAnyH _ _ _ _ _ _ _ (a17.put (some 26) (.int .u64 ((rv l t : Nat) : Int))) _
    rw [← hA18]
    have f18_26 : a18.eval (.tmp 26) = .int .u64 ((rv l t : Nat) : Int) := by rw [hA18]; exact Act.eval_put_same _ _ _ (by omega)
    have f18_22 : a18.eval (.tmp 22) = .int .u64 ((rv l t : Nat) : Int) := by rw [hA18]; exact (Act.eval_put_ne _ _ _ _ (by decide)).trans f17_22
    have f18_18 : a18.eval (.tmp 18) = .bool true := by rw [hA18]; exact (Act.eval_put_ne _ _ _ _ (by decide)).trans f17_18
    have f18_0 : a18.eval (.tmp 0) = .pointer (some ⟨g, 0, none⟩) := by rw [hA18]; exact (Act.eval_put_ne _ _ _ _ (by decide)).trans f17_0
    have f18_3 : a18.eval (.tmp 3) = .int .i64 o := by rw [hA18]; exact (Act.eval_put_ne _ _ _ _ (by decide)).trans f17_3
    have f18_5 : a18.eval (.tmp 5) = .pointer (some ⟨w.heap.size, 0, none⟩) := by rw [hA18]; exact (Act.eval_put_ne _ _ _ _ (by decide)).trans f17_5
    have f18_6 : a18.eval (.tmp 6) = .pointer (some ⟨w.heap.size + 1, 0, none⟩) := by rw [hA18]; exact (Act.eval_put_ne _ _ _ _ (by decide)).trans f17_6
    have z18 : a18.tmps.size = 56 := by rw [hA18, Act.size_put]; exact z17
    have dd18 : a18.defers = [] := by rw [hA18, Act.defers_put']; exact dd17
    clear hA18 z17 dd17 f17_22 f17_25 f17_23 f17_18 f17_0 f17_3 f17_5 f17_6
    refine wpAnyH_take (i := 18) (v := .bool true) rfl (by kernel_rfl) (by kernel_rfl) (by kernel_rfl) (fun _ _ _ h => h) (yields_guarded 9 18 true rfl rfl f18_18 (yields_equ rfl (.tmp 22) (.tmp 26) rfl _ _ f18_22 f18_26 true (beq_self_eq_true _))) hS ?_
    obtain ⟨a19, hA19⟩ : ∃ a', a' = a18.put (some 27) (.bool true) := ⟨_, rfl⟩
    change wpAnyH _ _ _ _ _ _ _ (a18.put (some 27) (.bool true)) _
    rw [← hA19]
    have f19_27 : a19.eval (.tmp 27) = .bool true := by rw [hA19]; exact Act.eval_put_same _ _ _ (by omega)
    have f19_18 : a19.eval (.tmp 18) = .bool true := by rw [hA19]; exact (Act.eval_put_ne _ _ _ _ (by decide)).trans f18_18
    have f19_0 : a19.eval (.tmp 0) = .pointer (some ⟨g, 0, none⟩) := by rw [hA19]; exact (Act.eval_put_ne _ _ _ _ (by decide)).trans f18_0
    have f19_3 : a19.eval (.tmp 3) = .int .i64 o := by rw [hA19]; exact (Act.eval_put_ne _ _ _ _ (by decide)).trans f18_3
    have f19_5 : a19.eval (.tmp 5) = .pointer (some ⟨w.heap.size, 0, none⟩) := by rw [hA19]; exact (Act.eval_put_ne _ _ _ _ (by decide)).trans f18_5
    have f19_6 : a19.eval (.tmp 6) = .pointer (some ⟨w.heap.size + 1, 0, none⟩) := by rw [hA19]; exact (Act.eval_put_ne _ _ _ _ (by decide)).trans f18_6
    have z19 : a19.tmps.size = 56 := by rw [hA19, Act.size_put]; exact z18
    have dd19 : a19.defers = [] := by rw [hA19, Act.defers_put']; exact dd18
    clear hA19 z18 dd18 f18_26 f18_22 f18_18 f18_0 f18_3 f18_5 f18_6
    refine wpAnyH_take (i := 19) (v := .bool true) rfl (by kernel_rfl) (by kernel_rfl) (by kernel_rfl) (fun _ _ _ h => h) (yields_pick rfl (.tmp 18) (.tmp 27) (.const (.bool false)) rfl true f19_18 f19_27) hS ?_
    obtain ⟨a20, hA20⟩ : ∃ a', a' = a19.put (some 28) (.bool true) := ⟨_, rfl⟩
    change wpAnyH _ _ _ _ _ _ _ (a19.put (some 28) (.bool true)) _
    rw [← hA20]
    have f20_28 : a20.eval (.tmp 28) = .bool true := by rw [hA20]; exact Act.eval_put_same _ _ _ (by omega)
    have f20_0 : a20.eval (.tmp 0) = .pointer (some ⟨g, 0, none⟩) := by rw [hA20]; exact (Act.eval_put_ne _ _ _ _ (by decide)).trans f19_0
    have f20_3 : a20.eval (.tmp 3) = .int .i64 o := by rw [hA20]; exact (Act.eval_put_ne _ _ _ _ (by decide)).trans f19_3
    have f20_5 : a20.eval (.tmp 5) = .pointer (some ⟨w.heap.size, 0, none⟩) := by rw [hA20]; exact (Act.eval_put_ne _ _ _ _ (by decide)).trans f19_5
    have f20_6 : a20.eval (.tmp 6) = .pointer (some ⟨w.heap.size + 1, 0, none⟩) := by rw [hA20]; exact (Act.eval_put_ne _ _ _ _ (by decide)).trans f19_6
    have z20 : a20.tmps.size = 56 := by rw [hA20, Act.size_put]; exact z19
    have dd20 : a20.defers = [] := by rw [hA20, Act.defers_put']; exact dd19
    clear hA20 z19 dd19 f19_27 f19_18 f19_0 f19_3 f19_5 f19_6
    refine wpAnyH_take (i := 20) (v := .bool true) rfl (by kernel_rfl) (by kernel_rfl) (by kernel_rfl) (fun _ _ _ h => h) (yields_move rfl (.tmp 28) rfl f20_28) hS ?_
    obtain ⟨a21, hA21⟩ : ∃ a', a' = a20.put (some 29) (.bool true) := ⟨_, rfl⟩
    change wpAnyH _ _ _ _ _ _ _ (a20.put (some 29) (.bool true)) _
    rw [← hA21]
    have f21_29 : a21.eval (.tmp 29) = .bool true := by rw [hA21]; exact Act.eval_put_same _ _ _ (by omega)
    have f21_0 : a21.eval (.tmp 0) = .pointer (some ⟨g, 0, none⟩) := by rw [hA21]; exact (Act.eval_put_ne _ _ _ _ (by decide)).trans f20_0
    have f21_3 : a21.eval (.tmp 3) = .int .i64 o := by rw [hA21]; exact (Act.eval_put_ne _ _ _ _ (by decide)).trans f20_3
    have f21_5 : a21.eval (.tmp 5) = .pointer (some ⟨w.heap.size, 0, none⟩) := by rw [hA21]; exact (Act.eval_put_ne _ _ _ _ (by decide)).trans f20_5
    have f21_6 : a21.eval (.tmp 6) = .pointer (some ⟨w.heap.size + 1, 0, none⟩) := by rw [hA21]; exact (Act.eval_put_ne _ _ _ _ (by decide)).trans f20_6
    have z21 : a21.tmps.size = 56 := by rw [hA21, Act.size_put]; exact z20
    have dd21 : a21.defers = [] := by rw [hA21, Act.defers_put']; exact dd20
    clear hA21 z20 dd20 f20_28 f20_0 f20_3 f20_5 f20_6
    refine wpAnyH_take (i := 21) (v := .pointer (some ⟨g, 0, none⟩)) rfl (by kernel_rfl) (by kernel_rfl) (by kernel_rfl) (fun _ _ _ h => h) (yields_guarded 20 29 true rfl rfl f21_29 (yields_move rfl (.tmp 0) rfl f21_0)) hS ?_
    obtain ⟨a22, hA22⟩ : ∃ a', a' = a21.put (some 30) (.pointer (some ⟨g, 0, none⟩)) := ⟨_, rfl⟩
    change wpAnyH _ _ _ _ _ _ _ (a21.put (some 30) (.pointer (some ⟨g, 0, none⟩))) _
    rw [← hA22]
    have f22_30 : a22.eval (.tmp 30) = .pointer (some ⟨g, 0, none⟩) := by rw [hA22]; exact Act.eval_put_same _ _ _ (by omega)
    have f22_29 : a22.eval (.tmp 29) = .bool true := by rw [hA22]; exact (Act.eval_put_ne _ _ _ _ (by decide)).trans f21_29
    have f22_0 : a22.eval (.tmp 0) = .pointer (some ⟨g, 0, none⟩) := by rw [hA22]; exact (Act.eval_put_ne _ _ _ _ (by decide)).trans f21_0
    have f22_3 : a22.eval (.tmp 3) = .int .i64 o := by rw [hA22]; exact (Act.eval_put_ne _ _ _ _ (by decide)).trans f21_3
    have f22_5 : a22.eval (.tmp 5) = .pointer (some ⟨w.heap.size, 0, none⟩) := by rw [hA22]; exact (Act.eval_put_ne _ _ _ _ (by decide)).trans f21_5
    have f22_6 : a22.eval (.tmp 6) = .pointer (some ⟨w.heap.size + 1, 0, none⟩) := by rw [hA22]; exact (Act.eval_put_ne _ _ _ _ (by decide)).trans f21_6
    have z22 : a22.tmps.size = 56 := by rw [hA22, Act.size_put]; exact z21
    have dd22 : a22.defers = [] := by rw [hA22, Act.defers_put']; exact dd21
    clear hA22 z21 dd21 f21_29 f21_0 f21_3 f21_5 f21_6
    refine wpAnyH_take (i := 22) (v := .int .i64 o) rfl (by kernel_rfl) (by kernel_rfl) (by kernel_rfl) (fun _ _ _ h => h) (yields_guarded 20 29 true rfl rfl f22_29 (yields_move rfl (.tmp 3) rfl f22_3)) hS ?_
    obtain ⟨a23, hA23⟩ : ∃ a', a' = a22.put (some 31) (.int .i64 o) := ⟨_, rfl⟩
    change wpAnyH _ _ _ _ _ _ _ (a22.put (some 31) (.int .i64 o)) _
    rw [← hA23]
    have f23_31 : a23.eval (.tmp 31) = .int .i64 o := by rw [hA23]; exact Act.eval_put_same _ _ _ (by omega)
    have f23_30 : a23.eval (.tmp 30) = .pointer (some ⟨g, 0, none⟩) := by rw [hA23]; exact (Act.eval_put_ne _ _ _ _ (by decide)).trans f22_30
    have f23_29 : a23.eval (.tmp 29) = .bool true := by rw [hA23]; exact (Act.eval_put_ne _ _ _ _ (by decide)).trans f22_29
    have f23_0 : a23.eval (.tmp 0) = .pointer (some ⟨g, 0, none⟩) := by rw [hA23]; exact (Act.eval_put_ne _ _ _ _ (by decide)).trans f22_0
    have f23_3 : a23.eval (.tmp 3) = .int .i64 o := by rw [hA23]; exact (Act.eval_put_ne _ _ _ _ (by decide)).trans f22_3
    have f23_5 : a23.eval (.tmp 5) = .pointer (some ⟨w.heap.size, 0, none⟩) := by rw [hA23]; exact (Act.eval_put_ne _ _ _ _ (by decide)).trans f22_5
    have f23_6 : a23.eval (.tmp 6) = .pointer (some ⟨w.heap.size + 1, 0, none⟩) := by rw [hA23]; exact (Act.eval_put_ne _ _ _ _ (by decide)).trans f22_6
    have z23 : a23.tmps.size = 56 := by rw [hA23, Act.size_put]; exact z22
    have dd23 : a23.defers = [] := by rw [hA23, Act.defers_put']; exact dd22
    clear hA23 z22 dd22 f22_30 f22_29 f22_0 f22_3 f22_5 f22_6
    refine wpAnyH_take (i := 24) (v := rV l) rfl (by kernel_rfl) (by kernel_rfl) (by kernel_rfl) (fun _ _ _ h => h) (yields_guarded 20 29 true rfl rfl f23_29 (yields_r rfl (.tmp 5) rfl _ f23_5 l (fun _ h => h.b0))) hS ?_
    obtain ⟨a24, hA24⟩ : ∃ a', a' = a23.put (some 33) (rV l) := ⟨_, rfl⟩
    change wpAnyH _ _ _ _ _ _ _ (a23.put (some 33) (rV l)) _
    rw [← hA24]
    have f24_33 : a24.eval (.tmp 33) = rV l := by rw [hA24]; exact Act.eval_put_same _ _ _ (by omega)
    have f24_31 : a24.eval (.tmp 31) = .int .i64 o := by rw [hA24]; exact (Act.eval_put_ne _ _ _ _ (by decide)).trans f23_31
    have f24_30 : a24.eval (.tmp 30) = .pointer (some ⟨g, 0, none⟩) := by rw [hA24]; exact (Act.eval_put_ne _ _ _ _ (by decide)).trans f23_30
    have f24_29 : a24.eval (.tmp 29) = .bool true := by rw [hA24]; exact (Act.eval_put_ne _ _ _ _ (by decide)).trans f23_29
    have f24_0 : a24.eval (.tmp 0) = .pointer (some ⟨g, 0, none⟩) := by rw [hA24]; exact (Act.eval_put_ne _ _ _ _ (by decide)).trans f23_0
    have f24_3 : a24.eval (.tmp 3) = .int .i64 o := by rw [hA24]; exact (Act.eval_put_ne _ _ _ _ (by decide)).trans f23_3
    have f24_5 : a24.eval (.tmp 5) = .pointer (some ⟨w.heap.size, 0, none⟩) := by rw [hA24]; exact (Act.eval_put_ne _ _ _ _ (by decide)).trans f23_5
    have f24_6 : a24.eval (.tmp 6) = .pointer (some ⟨w.heap.size + 1, 0, none⟩) := by rw [hA24]; exact (Act.eval_put_ne _ _ _ _ (by decide)).trans f23_6
    have z24 : a24.tmps.size = 56 := by rw [hA24, Act.size_put]; exact z23
    have dd24 : a24.defers = [] := by rw [hA24, Act.defers_put']; exact dd23
    clear hA24 z23 dd23 f23_31 f23_30 f23_29 f23_0 f23_3 f23_5 f23_6
    refine wpAnyH_take (i := 25) (v := .int .i64 o) rfl (by kernel_rfl) (by kernel_rfl) (by kernel_rfl) (fun _ _ _ h => h) (yields_guarded 20 29 true rfl rfl f24_29 (yields_move rfl (.tmp 3) rfl f24_3)) hS ?_
    obtain ⟨a25, hA25⟩ : ∃ a', a' = a24.put (some 34) (.int .i64 o) := ⟨_, rfl⟩
    change wpAnyH _ _ _ _ _ _ _ (a24.put (some 34) (.int .i64 o)) _
    rw [← hA25]
    have f25_34 : a25.eval (.tmp 34) = .int .i64 o := by rw [hA25]; exact Act.eval_put_same _ _ _ (by omega)
    have f25_33 : a25.eval (.tmp 33) = rV l := by rw [hA25]; exact (Act.eval_put_ne _ _ _ _ (by decide)).trans f24_33
    have f25_31 : a25.eval (.tmp 31) = .int .i64 o := by rw [hA25]; exact (Act.eval_put_ne _ _ _ _ (by decide)).trans f24_31
    have f25_30 : a25.eval (.tmp 30) = .pointer (some ⟨g, 0, none⟩) := by rw [hA25]; exact (Act.eval_put_ne _ _ _ _ (by decide)).trans f24_30
    have f25_29 : a25.eval (.tmp 29) = .bool true := by rw [hA25]; exact (Act.eval_put_ne _ _ _ _ (by decide)).trans f24_29
    have f25_0 : a25.eval (.tmp 0) = .pointer (some ⟨g, 0, none⟩) := by rw [hA25]; exact (Act.eval_put_ne _ _ _ _ (by decide)).trans f24_0
    have f25_3 : a25.eval (.tmp 3) = .int .i64 o := by rw [hA25]; exact (Act.eval_put_ne _ _ _ _ (by decide)).trans f24_3
    have f25_5 : a25.eval (.tmp 5) = .pointer (some ⟨w.heap.size, 0, none⟩) := by rw [hA25]; exact (Act.eval_put_ne _ _ _ _ (by decide)).trans f24_5
    have f25_6 : a25.eval (.tmp 6) = .pointer (some ⟨w.heap.size + 1, 0, none⟩) := by rw [hA25]; exact (Act.eval_put_ne _ _ _ _ (by decide)).trans f24_6
    have z25 : a25.tmps.size = 56 := by rw [hA25, Act.size_put]; exact z24
    have dd25 : a25.defers = [] := by rw [hA25, Act.defers_put']; exact dd24
    clear hA25 z24 dd24 f24_33 f24_31 f24_30 f24_29 f24_0 f24_3 f24_5 f24_6
    refine wpAnyH_ready (rs := [23]) (by kernel_rfl) (by simp) (AllReadyH.cons (by simp only [List.getElem?_toArray, List.getElem?_cons_succ, List.getElem?_cons_zero]; rfl) (fun K hK => ?_) AllReadyH.nil)
    refine step_callg 20 29 true (by rfl) (by rfl) f25_29 13 #[.tmp 30, .tmp 31] #[23, 3] (by rfl) #[.pointer (some ⟨g, 0, none⟩), .int .i64 o] (by simp only [List.map_toArray, List.map_cons, List.map_nil, f25_30, f25_31]) Tryd.func13 (by kernel_rfl) rfl ((C3 _ hS.ra).out) (fun e w' hR => ?_)
    obtain ⟨rfl, hb2⟩ := hR
    refine ⟨_, rfl, hK.out _ _ (hS.next hb2) (fun hS => ?_)⟩
    obtain ⟨a26, hA26⟩ : ∃ a', a' = a25.put (some 32) (.int .u64 ((ys : Nat) : Int)) := ⟨_, rfl⟩
    change wpAnyH _ _ _ _ _ _ _ (a25.put (some 32) (.int .u64 ((ys : Nat) : Int))) _
    rw [← hA26]
    have f26_32 : a26.eval (.tmp 32) = .int .u64 ((ys : Nat) : Int) := by rw [hA26]; exact Act.eval_put_same _ _ _ (by omega)
    have f26_34 : a26.eval (.tmp 34) = .int .i64 o := by rw [hA26]; exact (Act.eval_put_ne _ _ _ _ (by decide)).trans f25_34
    have f26_33 : a26.eval (.tmp 33) = rV l := by rw [hA26]; exact (Act.eval_put_ne _ _ _ _ (by decide)).trans f25_33
    have f26_29 : a26.eval (.tmp 29) = .bool true := by rw [hA26]; exact (Act.eval_put_ne _ _ _ _ (by decide)).trans f25_29
    have f26_0 : a26.eval (.tmp 0) = .pointer (some ⟨g, 0, none⟩) := by rw [hA26]; exact (Act.eval_put_ne _ _ _ _ (by decide)).trans f25_0
    have f26_3 : a26.eval (.tmp 3) = .int .i64 o := by rw [hA26]; exact (Act.eval_put_ne _ _ _ _ (by decide)).trans f25_3
    have f26_5 : a26.eval (.tmp 5) = .pointer (some ⟨w.heap.size, 0, none⟩) := by rw [hA26]; exact (Act.eval_put_ne _ _ _ _ (by decide)).trans f25_5
    have f26_6 : a26.eval (.tmp 6) = .pointer (some ⟨w.heap.size + 1, 0, none⟩) := by rw [hA26]; exact (Act.eval_put_ne _ _ _ _ (by decide)).trans f25_6
    have z26 : a26.tmps.size = 56 := by rw [hA26, Act.size_put]; exact z25
    have dd26 : a26.defers = [] := by rw [hA26, Act.defers_put']; exact dd25
    clear hA26 z25 dd25 f25_34 f25_33 f25_31 f25_30 f25_29 f25_0 f25_3 f25_5 f25_6
    refine wpAnyH_ready (rs := [26]) (by kernel_rfl) (by simp) (AllReadyH.cons (by simp only [List.getElem?_toArray, List.getElem?_cons_succ, List.getElem?_cons_zero]; rfl) (fun K hK => ?_) AllReadyH.nil)
    refine step_callg 20 29 true (by rfl) (by rfl) f26_29 24 #[.tmp 33, .tmp 34] #[28, 3] (by rfl) #[rV l, .int .i64 o] (by simp only [List.map_toArray, List.map_cons, List.map_nil, f26_33, f26_34]) Tryd.func24 (by kernel_rfl) rfl ((C4 _).out) (fun e w' hR => ?_)
    obtain ⟨rfl, hb2⟩ := hR
    refine ⟨_, rfl, hK.out _ _ (hS.next hb2) (fun hS => ?_)⟩
    obtain ⟨a27, hA27⟩ : ∃ a', a' = a26.put (some 35) (.int .u64 ((ys : Nat) : Int)) := ⟨_, rfl⟩
    change wpAnyH _ _ _ _ _ _ _ (a26.put (some 35) (.int .u64 ((ys : Nat) : Int))) _
    rw [← hA27]
    have f27_35 : a27.eval (.tmp 35) = .int .u64 ((ys : Nat) : Int) := by rw [hA27]; exact Act.eval_put_same _ _ _ (by omega)
    have f27_32 : a27.eval (.tmp 32) = .int .u64 ((ys : Nat) : Int) := by rw [hA27]; exact (Act.eval_put_ne _ _ _ _ (by decide)).trans f26_32
    have f27_29 : a27.eval (.tmp 29) = .bool true := by rw [hA27]; exact (Act.eval_put_ne _ _ _ _ (by decide)).trans f26_29
    have f27_0 : a27.eval (.tmp 0) = .pointer (some ⟨g, 0, none⟩) := by rw [hA27]; exact (Act.eval_put_ne _ _ _ _ (by decide)).trans f26_0
    have f27_3 : a27.eval (.tmp 3) = .int .i64 o := by rw [hA27]; exact (Act.eval_put_ne _ _ _ _ (by decide)).trans f26_3
    have f27_5 : a27.eval (.tmp 5) = .pointer (some ⟨w.heap.size, 0, none⟩) := by rw [hA27]; exact (Act.eval_put_ne _ _ _ _ (by decide)).trans f26_5
    have f27_6 : a27.eval (.tmp 6) = .pointer (some ⟨w.heap.size + 1, 0, none⟩) := by rw [hA27]; exact (Act.eval_put_ne _ _ _ _ (by decide)).trans f26_6
    have z27 : a27.tmps.size = 56 := by rw [hA27, Act.size_put]; exact z26
    have dd27 : a27.defers = [] := by rw [hA27, Act.defers_put']; exact dd26
    clear hA27 z26 dd26 f26_32 f26_34 f26_33 f26_29 f26_0 f26_3 f26_5 f26_6
    refine wpAnyH_take (i := 27) (v := .bool true) rfl (by kernel_rfl) (by kernel_rfl) (by kernel_rfl) (fun _ _ _ h => h) (yields_guarded 20 29 true rfl rfl f27_29 (yields_equ rfl (.tmp 32) (.tmp 35) rfl _ _ f27_32 f27_35 true (beq_self_eq_true _))) hS ?_
    obtain ⟨a28, hA28⟩ : ∃ a', a' = a27.put (some 36) (.bool true) := ⟨_, rfl⟩
    change wpAnyH _ _ _ _ _ _ _ (a27.put (some 36) (.bool true)) _
    rw [← hA28]
    have f28_36 : a28.eval (.tmp 36) = .bool true := by rw [hA28]; exact Act.eval_put_same _ _ _ (by omega)
    have f28_29 : a28.eval (.tmp 29) = .bool true := by rw [hA28]; exact (Act.eval_put_ne _ _ _ _ (by decide)).trans f27_29
    have f28_0 : a28.eval (.tmp 0) = .pointer (some ⟨g, 0, none⟩) := by rw [hA28]; exact (Act.eval_put_ne _ _ _ _ (by decide)).trans f27_0
    have f28_3 : a28.eval (.tmp 3) = .int .i64 o := by rw [hA28]; exact (Act.eval_put_ne _ _ _ _ (by decide)).trans f27_3
    have f28_5 : a28.eval (.tmp 5) = .pointer (some ⟨w.heap.size, 0, none⟩) := by rw [hA28]; exact (Act.eval_put_ne _ _ _ _ (by decide)).trans f27_5
    have f28_6 : a28.eval (.tmp 6) = .pointer (some ⟨w.heap.size + 1, 0, none⟩) := by rw [hA28]; exact (Act.eval_put_ne _ _ _ _ (by decide)).trans f27_6
    have z28 : a28.tmps.size = 56 := by rw [hA28, Act.size_put]; exact z27
    have dd28 : a28.defers = [] := by rw [hA28, Act.defers_put']; exact dd27
    clear hA28 z27 dd27 f27_35 f27_32 f27_29 f27_0 f27_3 f27_5 f27_6
    refine wpAnyH_take (i := 28) (v := .bool true) rfl (by kernel_rfl) (by kernel_rfl) (by kernel_rfl) (fun _ _ _ h => h) (yields_pick rfl (.tmp 29) (.tmp 36) (.const (.bool false)) rfl true f28_29 f28_36) hS ?_
    obtain ⟨a29, hA29⟩ : ∃ a', a' = a28.put (some 37) (.bool true) := ⟨_, rfl⟩
    change wpAnyH _ _ _ _ _ _ _ (a28.put (some 37) (.bool true)) _
    rw [← hA29]
    have f29_37 : a29.eval (.tmp 37) = .bool true := by rw [hA29]; exact Act.eval_put_same _ _ _ (by omega)
    have f29_0 : a29.eval (.tmp 0) = .pointer (some ⟨g, 0, none⟩) := by rw [hA29]; exact (Act.eval_put_ne _ _ _ _ (by decide)).trans f28_0
    have f29_3 : a29.eval (.tmp 3) = .int .i64 o := by rw [hA29]; exact (Act.eval_put_ne _ _ _ _ (by decide)).trans f28_3
    have f29_5 : a29.eval (.tmp 5) = .pointer (some ⟨w.heap.size, 0, none⟩) := by rw [hA29]; exact (Act.eval_put_ne _ _ _ _ (by decide)).trans f28_5
    have f29_6 : a29.eval (.tmp 6) = .pointer (some ⟨w.heap.size + 1, 0, none⟩) := by rw [hA29]; exact (Act.eval_put_ne _ _ _ _ (by decide)).trans f28_6
    have z29 : a29.tmps.size = 56 := by rw [hA29, Act.size_put]; exact z28
    have dd29 : a29.defers = [] := by rw [hA29, Act.defers_put']; exact dd28
    clear hA29 z28 dd28 f28_36 f28_29 f28_0 f28_3 f28_5 f28_6
    refine wpAnyH_take (i := 29) (v := .bool true) rfl (by kernel_rfl) (by kernel_rfl) (by kernel_rfl) (fun _ _ _ h => h) (yields_move rfl (.tmp 37) rfl f29_37) hS ?_
    obtain ⟨a30, hA30⟩ : ∃ a', a' = a29.put (some 38) (.bool true) := ⟨_, rfl⟩
    change wpAnyH _ _ _ _ _ _ _ (a29.put (some 38) (.bool true)) _
    rw [← hA30]
    have f30_38 : a30.eval (.tmp 38) = .bool true := by rw [hA30]; exact Act.eval_put_same _ _ _ (by omega)
    have f30_0 : a30.eval (.tmp 0) = .pointer (some ⟨g, 0, none⟩) := by rw [hA30]; exact (Act.eval_put_ne _ _ _ _ (by decide)).trans f29_0
    have f30_3 : a30.eval (.tmp 3) = .int .i64 o := by rw [hA30]; exact (Act.eval_put_ne _ _ _ _ (by decide)).trans f29_3
    have f30_5 : a30.eval (.tmp 5) = .pointer (some ⟨w.heap.size, 0, none⟩) := by rw [hA30]; exact (Act.eval_put_ne _ _ _ _ (by decide)).trans f29_5
    have f30_6 : a30.eval (.tmp 6) = .pointer (some ⟨w.heap.size + 1, 0, none⟩) := by rw [hA30]; exact (Act.eval_put_ne _ _ _ _ (by decide)).trans f29_6
    have z30 : a30.tmps.size = 56 := by rw [hA30, Act.size_put]; exact z29
    have dd30 : a30.defers = [] := by rw [hA30, Act.defers_put']; exact dd29
    clear hA30 z29 dd29 f29_37 f29_0 f29_3 f29_5 f29_6
    refine wpAnyH_take (i := 30) (v := .pointer (some ⟨g, 0, none⟩)) rfl (by kernel_rfl) (by kernel_rfl) (by kernel_rfl) (fun _ _ _ h => h) (yields_guarded 29 38 true rfl rfl f30_38 (yields_move rfl (.tmp 0) rfl f30_0)) hS ?_
    obtain ⟨a31, hA31⟩ : ∃ a', a' = a30.put (some 39) (.pointer (some ⟨g, 0, none⟩)) := ⟨_, rfl⟩
    change wpAnyH _ _ _ _ _ _ _ (a30.put (some 39) (.pointer (some ⟨g, 0, none⟩))) _
    rw [← hA31]
    have f31_39 : a31.eval (.tmp 39) = .pointer (some ⟨g, 0, none⟩) := by rw [hA31]; exact Act.eval_put_same _ _ _ (by omega)
    have f31_38 : a31.eval (.tmp 38) = .bool true := by rw [hA31]; exact (Act.eval_put_ne _ _ _ _ (by decide)).trans f30_38
    have f31_3 : a31.eval (.tmp 3) = .int .i64 o := by rw [hA31]; exact (Act.eval_put_ne _ _ _ _ (by decide)).trans f30_3
    have f31_5 : a31.eval (.tmp 5) = .pointer (some ⟨w.heap.size, 0, none⟩) := by rw [hA31]; exact (Act.eval_put_ne _ _ _ _ (by decide)).trans f30_5
    have f31_6 : a31.eval (.tmp 6) = .pointer (some ⟨w.heap.size + 1, 0, none⟩) := by rw [hA31]; exact (Act.eval_put_ne _ _ _ _ (by decide)).trans f30_6
    have z31 : a31.tmps.size = 56 := by rw [hA31, Act.size_put]; exact z30
    have dd31 : a31.defers = [] := by rw [hA31, Act.defers_put']; exact dd30
    clear hA31 z30 dd30 f30_38 f30_0 f30_3 f30_5 f30_6
    refine wpAnyH_take (i := 31) (v := .pointer (some ⟨w.heap.size + 1, 2, none⟩)) rfl (by kernel_rfl) (by kernel_rfl) (by kernel_rfl) (fun _ _ _ h => h) (yields_guarded 29 38 true rfl rfl f31_38 (yields_fop rfl (.tmp 6) 2 (by omega) rfl _ _ f31_6 _ rfl)) hS ?_
    obtain ⟨a32, hA32⟩ : ∃ a', a' = a31.put (some 40) (.pointer (some ⟨w.heap.size + 1, 2, none⟩)) := ⟨_, rfl⟩
    change wpAnyH _ _ _ _ _ _ _ (a31.put (some 40) (.pointer (some ⟨w.heap.size + 1, 2, none⟩))) _
    rw [← hA32]
    have f32_40 : a32.eval (.tmp 40) = .pointer (some ⟨w.heap.size + 1, 2, none⟩) := by rw [hA32]; exact Act.eval_put_same _ _ _ (by omega)
    have f32_39 : a32.eval (.tmp 39) = .pointer (some ⟨g, 0, none⟩) := by rw [hA32]; exact (Act.eval_put_ne _ _ _ _ (by decide)).trans f31_39
    have f32_38 : a32.eval (.tmp 38) = .bool true := by rw [hA32]; exact (Act.eval_put_ne _ _ _ _ (by decide)).trans f31_38
    have f32_3 : a32.eval (.tmp 3) = .int .i64 o := by rw [hA32]; exact (Act.eval_put_ne _ _ _ _ (by decide)).trans f31_3
    have f32_5 : a32.eval (.tmp 5) = .pointer (some ⟨w.heap.size, 0, none⟩) := by rw [hA32]; exact (Act.eval_put_ne _ _ _ _ (by decide)).trans f31_5
    have f32_6 : a32.eval (.tmp 6) = .pointer (some ⟨w.heap.size + 1, 0, none⟩) := by rw [hA32]; exact (Act.eval_put_ne _ _ _ _ (by decide)).trans f31_6
    have z32 : a32.tmps.size = 56 := by rw [hA32, Act.size_put]; exact z31
    have dd32 : a32.defers = [] := by rw [hA32, Act.defers_put']; exact dd31
    clear hA32 z31 dd31 f31_39 f31_38 f31_3 f31_5 f31_6
    refine wpAnyH_take (i := 32) (v := .int .i64 t) rfl (by kernel_rfl) (by kernel_rfl) (by kernel_rfl) (fun _ _ _ h => h) (yields_guarded 29 38 true rfl rfl f32_38 (yields_int rfl (.tmp 40) rfl _ f32_40 t (fun _ h => h.cells.2.2.1))) hS ?_
    obtain ⟨a33, hA33⟩ : ∃ a', a' = a32.put (some 41) (.int .i64 t) := ⟨_, rfl⟩
    change wpAnyH _ _ _ _ _ _ _ (a32.put (some 41) (.int .i64 t)) _
    rw [← hA33]
    have f33_41 : a33.eval (.tmp 41) = .int .i64 t := by rw [hA33]; exact Act.eval_put_same _ _ _ (by omega)
    have f33_39 : a33.eval (.tmp 39) = .pointer (some ⟨g, 0, none⟩) := by rw [hA33]; exact (Act.eval_put_ne _ _ _ _ (by decide)).trans f32_39
    have f33_38 : a33.eval (.tmp 38) = .bool true := by rw [hA33]; exact (Act.eval_put_ne _ _ _ _ (by decide)).trans f32_38
    have f33_3 : a33.eval (.tmp 3) = .int .i64 o := by rw [hA33]; exact (Act.eval_put_ne _ _ _ _ (by decide)).trans f32_3
    have f33_5 : a33.eval (.tmp 5) = .pointer (some ⟨w.heap.size, 0, none⟩) := by rw [hA33]; exact (Act.eval_put_ne _ _ _ _ (by decide)).trans f32_5
    have f33_6 : a33.eval (.tmp 6) = .pointer (some ⟨w.heap.size + 1, 0, none⟩) := by rw [hA33]; exact (Act.eval_put_ne _ _ _ _ (by decide)).trans f32_6
    have z33 : a33.tmps.size = 56 := by rw [hA33, Act.size_put]; exact z32
    have dd33 : a33.defers = [] := by rw [hA33, Act.defers_put']; exact dd32
    clear hA33 z32 dd32 f32_40 f32_39 f32_38 f32_3 f32_5 f32_6
    refine wpAnyH_take (i := 33) (v := .int .i64 o) rfl (by kernel_rfl) (by kernel_rfl) (by kernel_rfl) (fun _ _ _ h => h) (yields_guarded 29 38 true rfl rfl f33_38 (yields_move rfl (.tmp 3) rfl f33_3)) hS ?_
    obtain ⟨a34, hA34⟩ : ∃ a', a' = a33.put (some 42) (.int .i64 o) := ⟨_, rfl⟩
    change wpAnyH _ _ _ _ _ _ _ (a33.put (some 42) (.int .i64 o)) _
    rw [← hA34]
    have f34_42 : a34.eval (.tmp 42) = .int .i64 o := by rw [hA34]; exact Act.eval_put_same _ _ _ (by omega)
    have f34_41 : a34.eval (.tmp 41) = .int .i64 t := by rw [hA34]; exact (Act.eval_put_ne _ _ _ _ (by decide)).trans f33_41
    have f34_39 : a34.eval (.tmp 39) = .pointer (some ⟨g, 0, none⟩) := by rw [hA34]; exact (Act.eval_put_ne _ _ _ _ (by decide)).trans f33_39
    have f34_38 : a34.eval (.tmp 38) = .bool true := by rw [hA34]; exact (Act.eval_put_ne _ _ _ _ (by decide)).trans f33_38
    have f34_3 : a34.eval (.tmp 3) = .int .i64 o := by rw [hA34]; exact (Act.eval_put_ne _ _ _ _ (by decide)).trans f33_3
    have f34_5 : a34.eval (.tmp 5) = .pointer (some ⟨w.heap.size, 0, none⟩) := by rw [hA34]; exact (Act.eval_put_ne _ _ _ _ (by decide)).trans f33_5
    have f34_6 : a34.eval (.tmp 6) = .pointer (some ⟨w.heap.size + 1, 0, none⟩) := by rw [hA34]; exact (Act.eval_put_ne _ _ _ _ (by decide)).trans f33_6
    have z34 : a34.tmps.size = 56 := by rw [hA34, Act.size_put]; exact z33
    have dd34 : a34.defers = [] := by rw [hA34, Act.defers_put']; exact dd33
    clear hA34 z33 dd33 f33_41 f33_39 f33_38 f33_3 f33_5 f33_6
    refine wpAnyH_take (i := 35) (v := .int .i64 o) rfl (by kernel_rfl) (by kernel_rfl) (by kernel_rfl) (fun _ _ _ h => h) (yields_guarded 29 38 true rfl rfl f34_38 (yields_move rfl (.tmp 3) rfl f34_3)) hS ?_
    obtain ⟨a35, hA35⟩ : ∃ a', a' = a34.put (some 44) (.int .i64 o) := ⟨_, rfl⟩
    change wpAnyH _ _ _ _ _ _ _ (a34.put (some 44) (.int .i64 o)) _
    rw [← hA35]
    have f35_44 : a35.eval (.tmp 44) = .int .i64 o := by rw [hA35]; exact Act.eval_put_same _ _ _ (by omega)
    have f35_42 : a35.eval (.tmp 42) = .int .i64 o := by rw [hA35]; exact (Act.eval_put_ne _ _ _ _ (by decide)).trans f34_42
    have f35_41 : a35.eval (.tmp 41) = .int .i64 t := by rw [hA35]; exact (Act.eval_put_ne _ _ _ _ (by decide)).trans f34_41
    have f35_39 : a35.eval (.tmp 39) = .pointer (some ⟨g, 0, none⟩) := by rw [hA35]; exact (Act.eval_put_ne _ _ _ _ (by decide)).trans f34_39
    have f35_38 : a35.eval (.tmp 38) = .bool true := by rw [hA35]; exact (Act.eval_put_ne _ _ _ _ (by decide)).trans f34_38
    have f35_3 : a35.eval (.tmp 3) = .int .i64 o := by rw [hA35]; exact (Act.eval_put_ne _ _ _ _ (by decide)).trans f34_3
    have f35_5 : a35.eval (.tmp 5) = .pointer (some ⟨w.heap.size, 0, none⟩) := by rw [hA35]; exact (Act.eval_put_ne _ _ _ _ (by decide)).trans f34_5
    have f35_6 : a35.eval (.tmp 6) = .pointer (some ⟨w.heap.size + 1, 0, none⟩) := by rw [hA35]; exact (Act.eval_put_ne _ _ _ _ (by decide)).trans f34_6
    have z35 : a35.tmps.size = 56 := by rw [hA35, Act.size_put]; exact z34
    have dd35 : a35.defers = [] := by rw [hA35, Act.defers_put']; exact dd34
    clear hA35 z34 dd34 f34_42 f34_41 f34_39 f34_38 f34_3 f34_5 f34_6
    refine wpAnyH_take (i := 36) (v := .bool true) rfl (by kernel_rfl) (by kernel_rfl) (by kernel_rfl) (fun _ _ _ h => h) (yields_guarded 29 38 true rfl rfl f35_38 (yields_lss rfl (.tmp 44) (.const (.int .i64 32)) rfl o 32 f35_44 rfl true d0)) hS ?_
    obtain ⟨a36, hA36⟩ : ∃ a', a' = a35.put (some 45) (.bool true) := ⟨_, rfl⟩
    change wpAnyH _ _ _ _ _ _ _ (a35.put (some 45) (.bool true)) _
    rw [← hA36]
    have f36_45 : a36.eval (.tmp 45) = .bool true := by rw [hA36]; exact Act.eval_put_same _ _ _ (by omega)
    have f36_42 : a36.eval (.tmp 42) = .int .i64 o := by rw [hA36]; exact (Act.eval_put_ne _ _ _ _ (by decide)).trans f35_42
    have f36_41 : a36.eval (.tmp 41) = .int .i64 t := by rw [hA36]; exact (Act.eval_put_ne _ _ _ _ (by decide)).trans f35_41
    have f36_39 : a36.eval (.tmp 39) = .pointer (some ⟨g, 0, none⟩) := by rw [hA36]; exact (Act.eval_put_ne _ _ _ _ (by decide)).trans f35_39
    have f36_38 : a36.eval (.tmp 38) = .bool true := by rw [hA36]; exact (Act.eval_put_ne _ _ _ _ (by decide)).trans f35_38
    have f36_3 : a36.eval (.tmp 3) = .int .i64 o := by rw [hA36]; exact (Act.eval_put_ne _ _ _ _ (by decide)).trans f35_3
    have f36_5 : a36.eval (.tmp 5) = .pointer (some ⟨w.heap.size, 0, none⟩) := by rw [hA36]; exact (Act.eval_put_ne _ _ _ _ (by decide)).trans f35_5
    have f36_6 : a36.eval (.tmp 6) = .pointer (some ⟨w.heap.size + 1, 0, none⟩) := by rw [hA36]; exact (Act.eval_put_ne _ _ _ _ (by decide)).trans f35_6
    have z36 : a36.tmps.size = 56 := by rw [hA36, Act.size_put]; exact z35
    have dd36 : a36.defers = [] := by rw [hA36, Act.defers_put']; exact dd35
    clear hA36 z35 dd35 f35_44 f35_42 f35_41 f35_39 f35_38 f35_3 f35_5 f35_6
    refine wpAnyH_ready (rs := [34]) (by kernel_rfl) (by simp) (AllReadyH.cons (by simp only [List.getElem?_toArray, List.getElem?_cons_succ, List.getElem?_cons_zero]; rfl) (fun K hK => ?_) AllReadyH.nil)
    refine step_callg 29 38 true (by rfl) (by rfl) f36_38 15 #[.tmp 39, .tmp 41, .tmp 42] #[23, 3, 3] (by rfl) #[.pointer (some ⟨g, 0, none⟩), .int .i64 t, .int .i64 o] (by simp only [List.map_toArray, List.map_cons, List.map_nil, f36_39, f36_41, f36_42]) Tryd.func15 (by kernel_rfl) rfl ((C5 _ hS.ra).out) (fun e w' hR => ?_)
    obtain ⟨rfl, hb2⟩ := hR
    refine ⟨_, rfl, hK.out _ _ (hS.next hb2) (fun hS => ?_)⟩
    obtain ⟨a37, hA37⟩ : ∃ a', a' = a36.put (some 43) (.bool hb) := ⟨_, rfl⟩
    change wpAnyH _ _ _ _ _ _ _ (a36.put (some 43) (.bool hb)) _
    rw [← hA37]
    have f37_43 : a37.eval (.tmp 43) = .bool hb := by rw [hA37]; exact Act.eval_put_same _ _ _ (by omega)
    have f37_45 : a37.eval (.tmp 45) = .bool true := by rw [hA37]; exact (Act.eval_put_ne _ _ _ _ (by decide)).trans f36_45
    have f37_38 : a37.eval (.tmp 38) = .bool true := by rw [hA37]; exact (Act.eval_put_ne _ _ _ _ (by decide)).trans f36_38
    have f37_3 : a37.eval (.tmp 3) = .int .i64 o := by rw [hA37]; exact (Act.eval_put_ne _ _ _ _ (by decide)).trans f36_3
    have f37_5 : a37.eval (.tmp 5) = .pointer (some ⟨w.heap.size, 0, none⟩) := by rw [hA37]; exact (Act.eval_put_ne _ _ _ _ (by decide)).trans f36_5
    have f37_6 : a37.eval (.tmp 6) = .pointer (some ⟨w.heap.size + 1, 0, none⟩) := by rw [hA37]; exact (Act.eval_put_ne _ _ _ _ (by decide)).trans f36_6
    have z37 : a37.tmps.size = 56 := by rw [hA37, Act.size_put]; exact z36
    have dd37 : a37.defers = [] := by rw [hA37, Act.defers_put']; exact dd36
    clear hA37 z36 dd36 f36_45 f36_42 f36_41 f36_39 f36_38 f36_3 f36_5 f36_6
    refine wpAnyH_take (i := 37) (v := .bool true) rfl (by kernel_rfl) (by kernel_rfl) (by kernel_rfl) (fun _ _ _ h => h) (yields_guarded 29 38 true rfl rfl f37_38 (yields_move rfl (.tmp 45) rfl f37_45)) hS ?_
    obtain ⟨a38, hA38⟩ : ∃ a', a' = a37.put (some 46) (.bool true) := ⟨_, rfl⟩
    change wpAnyH _ _ _ _ _ _ _ (a37.put (some 46) (.bool true)) _
    rw [← hA38]
    have f38_46 : a38.eval (.tmp 46) = .bool true := by rw [hA38]; exact Act.eval_put_same _ _ _ (by omega)
    have f38_43 : a38.eval (.tmp 43) = .bool hb := by rw [hA38]; exact (Act.eval_put_ne _ _ _ _ (by decide)).trans f37_43
    have f38_38 : a38.eval (.tmp 38) = .bool true := by rw [hA38]; exact (Act.eval_put_ne _ _ _ _ (by decide)).trans f37_38
    have f38_3 : a38.eval (.tmp 3) = .int .i64 o := by rw [hA38]; exact (Act.eval_put_ne _ _ _ _ (by decide)).trans f37_3
    have f38_5 : a38.eval (.tmp 5) = .pointer (some ⟨w.heap.size, 0, none⟩) := by rw [hA38]; exact (Act.eval_put_ne _ _ _ _ (by decide)).trans f37_5
    have f38_6 : a38.eval (.tmp 6) = .pointer (some ⟨w.heap.size + 1, 0, none⟩) := by rw [hA38]; exact (Act.eval_put_ne _ _ _ _ (by decide)).trans f37_6
    have z38 : a38.tmps.size = 56 := by rw [hA38, Act.size_put]; exact z37
    have dd38 : a38.defers = [] := by rw [hA38, Act.defers_put']; exact dd37
    clear hA38 z37 dd37 f37_43 f37_45 f37_38 f37_3 f37_5 f37_6
    refine wpAnyH_take (i := 38) (v := rV l) rfl (by kernel_rfl) (by kernel_rfl) (by kernel_rfl) (fun _ _ _ h => h) (yields_guarded 37 46 true rfl rfl f38_46 (yields_r rfl (.tmp 5) rfl _ f38_5 l (fun _ h => h.b0))) hS ?_
    obtain ⟨a39, hA39⟩ : ∃ a', a' = a38.put (some 47) (rV l) := ⟨_, rfl⟩
    change wpAnyH _ _ _ _ _ _ _ (a38.put (some 47) (rV l)) _
    rw [← hA39]
    have f39_47 : a39.eval (.tmp 47) = rV l := by rw [hA39]; exact Act.eval_put_same _ _ _ (by omega)
    have f39_46 : a39.eval (.tmp 46) = .bool true := by rw [hA39]; exact (Act.eval_put_ne _ _ _ _ (by decide)).trans f38_46
    have f39_43 : a39.eval (.tmp 43) = .bool hb := by rw [hA39]; exact (Act.eval_put_ne _ _ _ _ (by decide)).trans f38_43
    have f39_38 : a39.eval (.tmp 38) = .bool true := by rw [hA39]; exact (Act.eval_put_ne _ _ _ _ (by decide)).trans f38_38
    have f39_3 : a39.eval (.tmp 3) = .int .i64 o := by rw [hA39]; exact (Act.eval_put_ne _ _ _ _ (by decide)).trans f38_3
    have f39_6 : a39.eval (.tmp 6) = .pointer (some ⟨w.heap.size + 1, 0, none⟩) := by rw [hA39]; exact (Act.eval_put_ne _ _ _ _ (by decide)).trans f38_6
    have z39 : a39.tmps.size = 56 := by rw [hA39, Act.size_put]; exact z38
    have dd39 : a39.defers = [] := by rw [hA39, Act.defers_put']; exact dd38
    clear hA39 z38 dd38 f38_46 f38_43 f38_38 f38_3 f38_5 f38_6
    refine wpAnyH_take (i := 39) (v := .pointer (some ⟨w.heap.size + 1, 2, none⟩)) rfl (by kernel_rfl) (by kernel_rfl) (by kernel_rfl) (fun _ _ _ h => h) (yields_guarded 37 46 true rfl rfl f39_46 (yields_fop rfl (.tmp 6) 2 (by omega) rfl _ _ f39_6 _ rfl)) hS ?_
    obtain ⟨a40, hA40⟩ : ∃ a', a' = a39.put (some 48) (.pointer (some ⟨w.heap.size + 1, 2, none⟩)) := ⟨_, rfl⟩
    change wpAnyH _ _ _ _ _ _ _ (a39.put (some 48) (.pointer (some ⟨w.heap.size + 1, 2, none⟩))) _
    rw [← hA40]
    have f40_48 : a40.eval (.tmp 48) = .pointer (some ⟨w.heap.size + 1, 2, none⟩) := by rw [hA40]; exact Act.eval_put_same _ _ _ (by omega)
    have f40_47 : a40.eval (.tmp 47) = rV l := by rw [hA40]; exact (Act.eval_put_ne _ _ _ _ (by decide)).trans f39_47
    have f40_46 : a40.eval (.tmp 46) = .bool true := by rw [hA40]; exact (Act.eval_put_ne _ _ _ _ (by decide)).trans f39_46
    have f40_43 : a40.eval (.tmp 43) = .bool hb := by rw [hA40]; exact (Act.eval_put_ne _ _ _ _ (by decide)).trans f39_43
    have f40_38 : a40.eval (.tmp 38) = .bool true := by rw [hA40]; exact (Act.eval_put_ne _ _ _ _ (by decide)).trans f39_38
    have f40_3 : a40.eval (.tmp 3) = .int .i64 o := by rw [hA40]; exact (Act.eval_put_ne _ _ _ _ (by decide)).trans f39_3
    have z40 : a40.tmps.size = 56 := by rw [hA40, Act.size_put]; exact z39
    have dd40 : a40.defers = [] := by rw [hA40, Act.defers_put']; exact dd39
    clear hA40 z39 dd39 f39_47 f39_46 f39_43 f39_38 f39_3 f39_6
    refine wpAnyH_take (i := 40) (v := .int .i64 t) rfl (by kernel_rfl) (by kernel_rfl) (by kernel_rfl) (fun _ _ _ h => h) (yields_guarded 37 46 true rfl rfl f40_46 (yields_int rfl (.tmp 48) rfl _ f40_48 t (fun _ h => h.cells.2.2.1))) hS ?_
    obtain ⟨a41, hA41⟩ : ∃ a', a' = a40.put (some 49) (.int .i64 t) := ⟨_, rfl⟩
    change wpAnyH _ _ _ _ _ _ _ (a40.put (some 49) (.int .i64 t)) _
    rw [← hA41]
    have f41_49 : a41.eval (.tmp 49) = .int .i64 t := by rw [hA41]; exact Act.eval_put_same _ _ _ (by omega)
    have f41_47 : a41.eval (.tmp 47) = rV l := by rw [hA41]; exact (Act.eval_put_ne _ _ _ _ (by decide)).trans f40_47
    have f41_46 : a41.eval (.tmp 46) = .bool true := by rw [hA41]; exact (Act.eval_put_ne _ _ _ _ (by decide)).trans f40_46
    have f41_43 : a41.eval (.tmp 43) = .bool hb := by rw [hA41]; exact (Act.eval_put_ne _ _ _ _ (by decide)).trans f40_43
    have f41_38 : a41.eval (.tmp 38) = .bool true := by rw [hA41]; exact (Act.eval_put_ne _ _ _ _ (by decide)).trans f40_38
    have f41_3 : a41.eval (.tmp 3) = .int .i64 o := by rw [hA41]; exact (Act.eval_put_ne _ _ _ _ (by decide)).trans f40_3
    have z41 : a41.tmps.size = 56 := by rw [hA41, Act.size_put]; exact z40
    have dd41 : a41.defers = [] := by rw [hA41, Act.defers_put']; exact dd40
    clear hA41 z40 dd40 f40_48 f40_47 f40_46 f40_43 f40_38 f40_3
    refine wpAnyH_take (i := 42) (v := .int .i64 o) rfl (by kernel_rfl) (by kernel_rfl) (by kernel_rfl) (fun _ _ _ h => h) (yields_guarded 37 46 true rfl rfl f41_46 (yields_move rfl (.tmp 3) rfl f41_3)) hS ?_
    obtain ⟨a42, hA42⟩ : ∃ a', a' = a41.put (some 51) (.int .i64 o) := ⟨_, rfl⟩
    change wpAnyH _ _ _ _ _ _ _ (a41.put (some 51) (.int .i64 o)) _
    rw [← hA42]
    have f42_51 : a42.eval (.tmp 51) = .int .i64 o := by rw [hA42]; exact Act.eval_put_same _ _ _ (by omega)
    have f42_49 : a42.eval (.tmp 49) = .int .i64 t := by rw [hA42]; exact (Act.eval_put_ne _ _ _ _ (by decide)).trans f41_49
    have f42_47 : a42.eval (.tmp 47) = rV l := by rw [hA42]; exact (Act.eval_put_ne _ _ _ _ (by decide)).trans f41_47
    have f42_46 : a42.eval (.tmp 46) = .bool true := by rw [hA42]; exact (Act.eval_put_ne _ _ _ _ (by decide)).trans f41_46
    have f42_43 : a42.eval (.tmp 43) = .bool hb := by rw [hA42]; exact (Act.eval_put_ne _ _ _ _ (by decide)).trans f41_43
    have f42_38 : a42.eval (.tmp 38) = .bool true := by rw [hA42]; exact (Act.eval_put_ne _ _ _ _ (by decide)).trans f41_38
    have z42 : a42.tmps.size = 56 := by rw [hA42, Act.size_put]; exact z41
    have dd42 : a42.defers = [] := by rw [hA42, Act.defers_put']; exact dd41
    clear hA42 z41 dd41 f41_49 f41_47 f41_46 f41_43 f41_38 f41_3
    refine wpAnyH_ready (rs := [41]) (by kernel_rfl) (by simp) (AllReadyH.cons (by simp only [List.getElem?_toArray, List.getElem?_cons_succ, List.getElem?_cons_zero]; rfl) (fun K hK => ?_) AllReadyH.nil)
    refine step_callg 37 46 true (by rfl) (by rfl) f42_46 16 #[.tmp 47, .tmp 49] #[28, 3] (by rfl) #[rV l, .int .i64 t] (by simp only [List.map_toArray, List.map_cons, List.map_nil, f42_47, f42_49]) Tryd.func16 (by kernel_rfl) rfl ((C2 _ t).out) (fun e w' hR => ?_)
    obtain ⟨rfl, hb2⟩ := hR
    refine ⟨_, rfl, hK.out _ _ (hS.next hb2) (fun hS => ?_)⟩
    obtain ⟨a43, hA43⟩ : ∃ a', a' = a42.put (some 50) (.int .u64 ((rv l t : Nat) : Int)) := ⟨_, rfl⟩
    change wpAnyH _ _ _ _ _ _ _ (a42.put (some 50) (.int .u64 ((rv l t : Nat) : Int))) _
    rw [← hA43]
    have f43_50 : a43.eval (.tmp 50) = .int .u64 ((rv l t : Nat) : Int) := by rw [hA43]; exact Act.eval_put_same _ _ _ (by omega)
    have f43_51 : a43.eval (.tmp 51) = .int .i64 o := by rw [hA43]; exact (Act.eval_put_ne _ _ _ _ (by decide)).trans f42_51
    have f43_46 : a43.eval (.tmp 46) = .bool true := by rw [hA43]; exact (Act.eval_put_ne _ _ _ _ (by decide)).trans f42_46
    have f43_43 : a43.eval (.tmp 43) = .bool hb := by rw [hA43]; exact (Act.eval_put_ne _ _ _ _ (by decide)).trans f42_43
    have f43_38 : a43.eval (.tmp 38) = .bool true := by rw [hA43]; exact (Act.eval_put_ne _ _ _ _ (by decide)).trans f42_38
    have z43 : a43.tmps.size = 56 := by rw [hA43, Act.size_put]; exact z42
    have dd43 : a43.defers = [] := by rw [hA43, Act.defers_put']; exact dd42
    clear hA43 z42 dd42 f42_51 f42_49 f42_47 f42_46 f42_43 f42_38
    refine wpAnyH_ready (rs := [43]) (by kernel_rfl) (by simp) (AllReadyH.cons (by simp only [List.getElem?_toArray, List.getElem?_cons_succ, List.getElem?_cons_zero]; rfl) (fun K hK => ?_) AllReadyH.nil)
    refine step_callg 37 46 true (by rfl) (by rfl) f43_46 25 #[.tmp 50, .tmp 51] #[25, 3] (by rfl) #[.int .u64 ((rv l t : Nat) : Int), .int .i64 o] (by simp only [List.map_toArray, List.map_cons, List.map_nil, f43_50, f43_51]) Tryd.func25 (by kernel_rfl) rfl ((C6 _).out) (fun e w' hR => ?_)
    obtain ⟨rfl, rfl⟩ := hR
    refine ⟨_, rfl, hK.out _ _ (hS) (fun hS => ?_)⟩
    obtain ⟨a44, hA44⟩ : ∃ a', a' = a43.put (some 52) (.bool hb) := ⟨_, rfl⟩
    change wpAnyH _ _ _ _ _ _ _ (a43.put (some 52) (.bool hb)) _
    rw [← hA44]
    have f44_52 : a44.eval (.tmp 52) = .bool hb := by rw [hA44]; exact Act.eval_put_same _ _ _ (by omega)
    have f44_46 : a44.eval (.tmp 46) = .bool true := by rw [hA44]; exact (Act.eval_put_ne _ _ _ _ (by decide)).trans f43_46
    have f44_43 : a44.eval (.tmp 43) = .bool hb := by rw [hA44]; exact (Act.eval_put_ne _ _ _ _ (by decide)).trans f43_43
    have f44_38 : a44.eval (.tmp 38) = .bool true := by rw [hA44]; exact (Act.eval_put_ne _ _ _ _ (by decide)).trans f43_38
    have z44 : a44.tmps.size = 56 := by rw [hA44, Act.size_put]; exact z43
    have dd44 : a44.defers = [] := by rw [hA44, Act.defers_put']; exact dd43
    clear hA44 z43 dd43 f43_50 f43_51 f43_46 f43_43 f43_38
    refine wpAnyH_take (i := 44) (v := .bool hb) rfl (by kernel_rfl) (by kernel_rfl) (by kernel_rfl) (fun _ _ _ h => h) (yields_guarded 29 38 true rfl rfl f44_38 (yields_pick rfl (.tmp 46) (.tmp 52) (.const (.bool false)) rfl true f44_46 f44_52)) hS ?_
    obtain ⟨a45, hA45⟩ : ∃ a', a' = a44.put (some 53) (.bool hb) := ⟨_, rfl⟩
    change wpAnyH _ _ _ _ _ _ _ (a44.put (some 53) (.bool hb)) _
    rw [← hA45]
    have f45_53 : a45.eval (.tmp 53) = .bool hb := by rw [hA45]; exact Act.eval_put_same _ _ _ (by omega)
    have f45_43 : a45.eval (.tmp 43) = .bool hb := by rw [hA45]; exact (Act.eval_put_ne _ _ _ _ (by decide)).trans f44_43
    have f45_38 : a45.eval (.tmp 38) = .bool true := by rw [hA45]; exact (Act.eval_put_ne _ _ _ _ (by decide)).trans f44_38
    have z45 : a45.tmps.size = 56 := by rw [hA45, Act.size_put]; exact z44
    have dd45 : a45.defers = [] := by rw [hA45, Act.defers_put']; exact dd44
    clear hA45 z44 dd44 f44_52 f44_46 f44_43 f44_38
    refine wpAnyH_take (i := 45) (v := .bool true) rfl (by kernel_rfl) (by kernel_rfl) (by kernel_rfl) (fun _ _ _ h => h) (yields_guarded 29 38 true rfl rfl f45_38 (yields_eqb rfl (.tmp 43) (.tmp 53) rfl _ f45_43 f45_53)) hS ?_
    obtain ⟨a46, hA46⟩ : ∃ a', a' = a45.put (some 54) (.bool true) := ⟨_, rfl⟩
    change wpAnyH _ _ _ _ _ _ _ (a45.put (some 54) (.bool true)) _
    rw [← hA46]
    have f46_54 : a46.eval (.tmp 54) = .bool true := by rw [hA46]; exact Act.eval_put_same _ _ _ (by omega)
    have f46_38 : a46.eval (.tmp 38) = .bool true := by rw [hA46]; exact (Act.eval_put_ne _ _ _ _ (by decide)).trans f45_38
    have z46 : a46.tmps.size = 56 := by rw [hA46, Act.size_put]; exact z45
    have dd46 : a46.defers = [] := by rw [hA46, Act.defers_put']; exact dd45
    clear hA46 z45 dd45 f45_53 f45_43 f45_38
    refine wpAnyH_take (i := 46) (v := .bool true) rfl (by kernel_rfl) (by kernel_rfl) (by kernel_rfl) (fun _ _ _ h => h) (yields_pick rfl (.tmp 38) (.tmp 54) (.const (.bool false)) rfl true f46_38 f46_54) hS ?_
    obtain ⟨a47, hA47⟩ : ∃ a', a' = a46.put (some 55) (.bool true) := ⟨_, rfl⟩
    change wpAnyH _ _ _ _ _ _ _ (a46.put (some 55) (.bool true)) _
    rw [← hA47]
    have f47_55 : a47.eval (.tmp 55) = .bool true := by rw [hA47]; exact Act.eval_put_same _ _ _ (by omega)
    have z47 : a47.tmps.size = 56 := by rw [hA47, Act.size_put]; exact z46
    have dd47 : a47.defers = [] := by rw [hA47, Act.defers_put']; exact dd46
    clear hA47 z46 dd46 f46_54 f46_38
    refine wpAnyH_take (i := 47) (v := .bool true) rfl (by kernel_rfl) (by kernel_rfl) (by kernel_rfl) (fun _ _ _ h => h) (yields_assign rfl (.tmp 55) rfl f47_55) hS ?_
    obtain ⟨a48, hA48⟩ : ∃ a', a' = a47.put (some 8) (.bool true) := ⟨_, rfl⟩
    change wpAnyH _ _ _ _ _ _ _ (a47.put (some 8) (.bool true)) _
    rw [← hA48]
    have f48_8 : a48.eval (.tmp 8) = .bool true := by rw [hA48]; exact Act.eval_put_same _ _ _ (by omega)
    have z48 : a48.tmps.size = 56 := by rw [hA48, Act.size_put]; exact z47
    have dd48 : a48.defers = [] := by rw [hA48, Act.defers_put']; exact dd47
    clear hA48 z47 dd47 f47_55
    refine wpAnyH_done (by kernel_rfl) ?_ _
    go_wp2_with fail
    exact ret_same (by rw [← Array.getD_eq_getD_getElem?]; exact f48_8) dd48 ⟨rfl, hS.below⟩
  · have d0 : decide (o < 32) = false := decide_eq_false hlow
    have hh : hasB (rv l t) o = false := hasB_high (rv_lt HF.out t) (by omega)
    rw [hh] at C5
    generalize whoR l o = ys at *
    clear ha hf ht ho hlow hh C6
    go_enter Tryd.func10, Tryd.ntmps10
    go_upto_region 1 with (first | refine wr_box rfl _ rfl l rfl ?_)
    try simp only [Act.put, List.setIfInBounds_toArray, List.set_cons_zero, List.set_cons_succ]
    try rw [z1]
    generalize (w.alloc (rO l)).alloc (.cells #[.int .i64 k, .int .i64 f, .int .i64 t, .int .u64 (m : Int)] 31) = W1 at *
    clear z1
    refine wp_hold_act (fun a0 HA0 => ?_)
    have z0 : a0.tmps.size = 56 := by rw [HA0.out]; rfl
    have dd0 : a0.defers = [] := by rw [HA0.out]
    have f0_0 : a0.eval (.tmp 0) = .pointer (some ⟨g, 0, none⟩) := by rw [HA0.out]; rfl
    have f0_3 : a0.eval (.tmp 3) = .int .i64 o := by rw [HA0.out]; rfl
    have f0_5 : a0.eval (.tmp 5) = .pointer (some ⟨w.heap.size, 0, none⟩) := by rw [HA0.out]; rfl
    have f0_6 : a0.eval (.tmp 6) = .pointer (some ⟨w.heap.size + 1, 0, none⟩) := by rw [HA0.out]; rfl
    clear HA0
    refine wp_region_held_drew (S := fun w' => Sz w g B l k f t m w') (by kernel_rfl) (HZ.out.drew) (fun hS => ?_)
    refine wpAnyH_take (i := 0) (v := .pointer (some ⟨g, 0, none⟩)) rfl (by kernel_rfl) (by kernel_rfl) (by kernel_rfl) (fun _ _ _ h => h) (yields_move rfl (.tmp 0) rfl f0_0) hS ?_
    obtain ⟨a1, hA1⟩ : ∃ a', a' = a0.put (some 9) (.pointer (some ⟨g, 0, none⟩)) := ⟨_, rfl⟩
    change wpAnyH _ _ _ _ _ _ _ (a0.put (some 9) (.pointer (some ⟨g, 0, none⟩))) _
    rw [← hA1]
    have f1_9 : a1.eval (.tmp 9) = .pointer (some ⟨g, 0, none⟩) := by rw [hA1]; exact Act.eval_put_same _ _ _ (by omega)
    have f1_0 : a1.eval (.tmp 0) = .pointer (some ⟨g, 0, none⟩) := by rw [hA1]; exact (Act.eval_put_ne _ _ _ _ (by decide)).trans f0_0
    have f1_3 : a1.eval (.tmp 3) = .int .i64 o := by rw [hA1]; exact (Act.eval_put_ne _ _ _ _ (by decide)).trans f0_3
    have f1_5 : a1.eval (.tmp 5) = .pointer (some ⟨w.heap.size, 0, none⟩) := by rw [hA1]; exact (Act.eval_put_ne _ _ _ _ (by decide)).trans f0_5
    have f1_6 : a1.eval (.tmp 6) = .pointer (some ⟨w.heap.size + 1, 0, none⟩) := by rw [hA1]; exact (Act.eval_put_ne _ _ _ _ (by decide)).trans f0_6
    have z1 : a1.tmps.size = 56 := by rw [hA1, Act.size_put]; exact z0
    have dd1 : a1.defers = [] := by rw [hA1, Act.defers_put']; exact dd0
    clear hA1 z0 dd0 f0_0 f0_3 f0_5 f0_6
    refine wpAnyH_take (i := 1) (v := .pointer (some ⟨w.heap.size + 1, 1, none⟩)) rfl (by kernel_rfl) (by kernel_rfl) (by kernel_rfl) (fun _ _ _ h => h) (yields_fop rfl (.tmp 6) 1 (by omega) rfl _ _ f1_6 _ rfl) hS ?_
    obtain ⟨a2, hA2⟩ : ∃ a', a' = a1.put (some 10) (.pointer (some ⟨w.heap.size + 1, 1, none⟩)) := ⟨_, rfl⟩
    change wpAnyH _ _ _ _ _ _ _ (a1.put (some 10) (.pointer (some ⟨w.heap.size + 1, 1, none⟩))) _
    rw [← hA2]
    have f2_10 : a2.eval (.tmp 10) = .pointer (some ⟨w.heap.size + 1, 1, none⟩) := by rw [hA2]; exact Act.eval_put_same _ _ _ (by omega)
    have f2_9 : a2.eval (.tmp 9) = .pointer (some ⟨g, 0, none⟩) := by rw [hA2]; exact (Act.eval_put_ne _ _ _ _ (by decide)).trans f1_9
    have f2_0 : a2.eval (.tmp 0) = .pointer (some ⟨g, 0, none⟩) := by rw [hA2]; exact (Act.eval_put_ne _ _ _ _ (by decide)).trans f1_0
    have f2_3 : a2.eval (.tmp 3) = .int .i64 o := by rw [hA2]; exact (Act.eval_put_ne _ _ _ _ (by decide)).trans f1_3
    have f2_5 : a2.eval (.tmp 5) = .pointer (some ⟨w.heap.size, 0, none⟩) := by rw [hA2]; exact (Act.eval_put_ne _ _ _ _ (by decide)).trans f1_5
    have f2_6 : a2.eval (.tmp 6) = .pointer (some ⟨w.heap.size + 1, 0, none⟩) := by rw [hA2]; exact (Act.eval_put_ne _ _ _ _ (by decide)).trans f1_6
    have z2 : a2.tmps.size = 56 := by rw [hA2, Act.size_put]; exact z1
    have dd2 : a2.defers = [] := by rw [hA2, Act.defers_put']; exact dd1
    clear hA2 z1 dd1 f1_9 f1_0 f1_3 f1_5 f1_6
    refine wpAnyH_take (i := 2) (v := .int .i64 f) rfl (by kernel_rfl) (by kernel_rfl) (by kernel_rfl) (fun _ _ _ h => h) (yields_int rfl (.tmp 10) rfl _ f2_10 f (fun _ h => h.cells.2.1)) hS ?_
    obtain ⟨a3, hA3⟩ : ∃ a', a' = a2.put (some 11) (.int .i64 f) := ⟨_, rfl⟩
    change wpAnyH _ _ _ _ _ _ _ (a2.put (some 11) (.int .i64 f)) _
    rw [← hA3]
    have f3_11 : a3.eval (.tmp 11) = .int .i64 f := by rw [hA3]; exact Act.eval_put_same _ _ _ (by omega)
    have f3_9 : a3.eval (.tmp 9) = .pointer (some ⟨g, 0, none⟩) := by rw [hA3]; exact (Act.eval_put_ne _ _ _ _ (by decide)).trans f2_9
    have f3_0 : a3.eval (.tmp 0) = .pointer (some ⟨g, 0, none⟩) := by rw [hA3]; exact (Act.eval_put_ne _ _ _ _ (by decide)).trans f2_0
    have f3_3 : a3.eval (.tmp 3) = .int .i64 o := by rw [hA3]; exact (Act.eval_put_ne _ _ _ _ (by decide)).trans f2_3
    have f3_5 : a3.eval (.tmp 5) = .pointer (some ⟨w.heap.size, 0, none⟩) := by rw [hA3]; exact (Act.eval_put_ne _ _ _ _ (by decide)).trans f2_5
    have f3_6 : a3.eval (.tmp 6) = .pointer (some ⟨w.heap.size + 1, 0, none⟩) := by rw [hA3]; exact (Act.eval_put_ne _ _ _ _ (by decide)).trans f2_6
    have z3 : a3.tmps.size = 56 := by rw [hA3, Act.size_put]; exact z2
    have dd3 : a3.defers = [] := by rw [hA3, Act.defers_put']; exact dd2
    clear hA3 z2 dd2 f2_10 f2_9 f2_0 f2_3 f2_5 f2_6
    refine wpAnyH_take (i := 4) (v := rV l) rfl (by kernel_rfl) (by kernel_rfl) (by kernel_rfl) (fun _ _ _ h => h) (yields_r rfl (.tmp 5) rfl _ f3_5 l (fun _ h => h.b0)) hS ?_
    obtain ⟨a4, hA4⟩ : ∃ a', a' = a3.put (some 13) (rV l) := ⟨_, rfl⟩
    change wpAnyH _ _ _ _ _ _ _ (a3.put (some 13) (rV l)) _
    rw [← hA4]
    have f4_13 : a4.eval (.tmp 13) = rV l := by rw [hA4]; exact Act.eval_put_same _ _ _ (by omega)
    have f4_11 : a4.eval (.tmp 11) = .int .i64 f := by rw [hA4]; exact (Act.eval_put_ne _ _ _ _ (by decide)).trans f3_11
    have f4_9 : a4.eval (.tmp 9) = .pointer (some ⟨g, 0, none⟩) := by rw [hA4]; exact (Act.eval_put_ne _ _ _ _ (by decide)).trans f3_9
    have f4_0 : a4.eval (.tmp 0) = .pointer (some ⟨g, 0, none⟩) := by rw [hA4]; exact (Act.eval_put_ne _ _ _ _ (by decide)).trans f3_0
    have f4_3 : a4.eval (.tmp 3) = .int .i64 o := by rw [hA4]; exact (Act.eval_put_ne _ _ _ _ (by decide)).trans f3_3
    have f4_5 : a4.eval (.tmp 5) = .pointer (some ⟨w.heap.size, 0, none⟩) := by rw [hA4]; exact (Act.eval_put_ne _ _ _ _ (by decide)).trans f3_5
    have f4_6 : a4.eval (.tmp 6) = .pointer (some ⟨w.heap.size + 1, 0, none⟩) := by rw [hA4]; exact (Act.eval_put_ne _ _ _ _ (by decide)).trans f3_6
    have z4 : a4.tmps.size = 56 := by rw [hA4, Act.size_put]; exact z3
    have dd4 : a4.defers = [] := by rw [hA4, Act.defers_put']; exact dd3
    clear hA4 z3 dd3 f3_11 f3_9 f3_0 f3_3 f3_5 f3_6
    refine wpAnyH_take (i := 5) (v := .pointer (some ⟨w.heap.size + 1, 1, none⟩)) rfl (by kernel_rfl) (by kernel_rfl) (by kernel_rfl) (fun _ _ _ h => h) (yields_fop rfl (.tmp 6) 1 (by omega) rfl _ _ f4_6 _ rfl) hS ?_
    obtain ⟨a5, hA5⟩ : ∃ a', a' = a4.put (some 14) (.pointer (some ⟨w.heap.size + 1, 1, none⟩)) := ⟨_, rfl⟩
    change wpAnyH _ _ _ _ _ _ _ (a4.put (some 14) (.pointer (some ⟨w.heap.size + 1, 1, none⟩))) _
    rw [← hA5]
    have f5_14 : a5.eval (.tmp 14) = .pointer (some ⟨w.heap.size + 1, 1, none⟩) := by rw [hA5]; exact Act.eval_put_same _ _ _ (by omega)
    have f5_13 : a5.eval (.tmp 13) = rV l := by rw [hA5]; exact (Act.eval_put_ne _ _ _ _ (by decide)).trans f4_13
    have f5_11 : a5.eval (.tmp 11) = .int .i64 f := by rw [hA5]; exact (Act.eval_put_ne _ _ _ _ (by decide)).trans f4_11
    have f5_9 : a5.eval (.tmp 9) = .pointer (some ⟨g, 0, none⟩) := by rw [hA5]; exact (Act.eval_put_ne _ _ _ _ (by decide)).trans f4_9
    have f5_0 : a5.eval (.tmp 0) = .pointer (some ⟨g, 0, none⟩) := by rw [hA5]; exact (Act.eval_put_ne _ _ _ _ (by decide)).trans f4_0
    have f5_3 : a5.eval (.tmp 3) = .int .i64 o := by rw [hA5]; exact (Act.eval_put_ne _ _ _ _ (by decide)).trans f4_3
    have f5_5 : a5.eval (.tmp 5) = .pointer (some ⟨w.heap.size, 0, none⟩) := by rw [hA5]; exact (Act.eval_put_ne _ _ _ _ (by decide)).trans f4_5
    have f5_6 : a5.eval (.tmp 6) = .pointer (some ⟨w.heap.size + 1, 0, none⟩) := by rw [hA5]; exact (Act.eval_put_ne _ _ _ _ (by decide)).trans f4_6
    have z5 : a5.tmps.size = 56 := by rw [hA5, Act.size_put]; exact z4
    have dd5 : a5.defers = [] := by rw [hA5, Act.defers_put']; exact dd4
    clear hA5 z4 dd4 f4_13 f4_11 f4_9 f4_0 f4_3 f4_5 f4_6
    refine wpAnyH_take (i := 6) (v := .int .i64 f) rfl (by kernel_rfl) (by kernel_rfl) (by kernel_rfl) (fun _ _ _ h => h) (yields_int rfl (.tmp 14) rfl _ f5_14 f (fun _ h => h.cells.2.1)) hS ?_
    obtain ⟨a6, hA6⟩ : ∃ a', a' = a5.put (some 15) (.int .i64 f) := ⟨_, rfl⟩
    change wpAnyH _ _ _ _ _ _ _ (a5.put (some 15) (.int .i64 f)) _
    rw [← hA6]
    have f6_15 : a6.eval (.tmp 15) = .int .i64 f := by rw [hA6]; exact Act.eval_put_same _ _ _ (by omega)
    have f6_13 : a6.eval (.tmp 13) = rV l := by rw [hA6]; exact (Act.eval_put_ne _ _ _ _ (by decide)).trans f5_13
    have f6_11 : a6.eval (.tmp 11) = .int .i64 f := by rw [hA6]; exact (Act.eval_put_ne _ _ _ _ (by decide)).trans f5_11
    have f6_9 : a6.eval (.tmp 9) = .pointer (some ⟨g, 0, none⟩) := by rw [hA6]; exact (Act.eval_put_ne _ _ _ _ (by decide)).trans f5_9
    have f6_0 : a6.eval (.tmp 0) = .pointer (some ⟨g, 0, none⟩) := by rw [hA6]; exact (Act.eval_put_ne _ _ _ _ (by decide)).trans f5_0
    have f6_3 : a6.eval (.tmp 3) = .int .i64 o := by rw [hA6]; exact (Act.eval_put_ne _ _ _ _ (by decide)).trans f5_3
    have f6_5 : a6.eval (.tmp 5) = .pointer (some ⟨w.heap.size, 0, none⟩) := by rw [hA6]; exact (Act.eval_put_ne _ _ _ _ (by decide)).trans f5_5
    have f6_6 : a6.eval (.tmp 6) = .pointer (some ⟨w.heap.size + 1, 0, none⟩) := by rw [hA6]; exact (Act.eval_put_ne _ _ _ _ (by decide)).trans f5_6
    have z6 : a6.tmps.size = 56 := by rw [hA6, Act.size_put]; exact z5
    have dd6 : a6.defers = [] := by rw [hA6, Act.defers_put']; exact dd5
    clear hA6 z5 dd5 f5_14 f5_13 f5_11 f5_9 f5_0 f5_3 f5_5 f5_6
    refine wpAnyH_ready (rs := [3]) (by kernel_rfl) (by simp) (AllReadyH.cons (by simp only [List.getElem?_toArray, List.getElem?_cons_succ, List.getElem?_cons_zero]; rfl) (fun K hK => ?_) AllReadyH.nil)
    refine step_call (by rfl) 11 #[.tmp 9, .tmp 11] #[23, 3] (by rfl) #[.pointer (some ⟨g, 0, none⟩), .int .i64 f] (by simp only [List.map_toArray, List.map_cons, List.map_nil, f6_9, f6_11]) Tryd.func11 (by kernel_rfl) rfl ((C1 _ f hS.ra HI.out.1).out) (fun e w' hR => ?_)
    obtain ⟨rfl, hb2⟩ := hR
    refine ⟨_, rfl, hK.out _ _ (hS.next hb2) (fun hS => ?_)⟩
    obtain ⟨a7, hA7⟩ : ∃ a', a' = a6.put (some 12) (.int .u64 ((rv l f : Nat) : Int)) := ⟨_, rfl⟩
    change wpAnyH _ _ _ _ _ _ _ (a6.put (some 12) (.int .u64 ((rv l f : Nat) : Int))) _
    rw [← hA7]
    have f7_12 : a7.eval (.tmp 12) = .int .u64 ((rv l f : Nat) : Int) := by rw [hA7]; exact Act.eval_put_same _ _ _ (by omega)
    have f7_15 : a7.eval (.tmp 15) = .int .i64 f := by rw [hA7]; exact (Act.eval_put_ne _ _ _ _ (by decide)).trans f6_15
    have f7_13 : a7.eval (.tmp 13) = rV l := by rw [hA7]; exact (Act.eval_put_ne _ _ _ _ (by decide)).trans f6_13
    have f7_0 : a7.eval (.tmp 0) = .pointer (some ⟨g, 0, none⟩) := by rw [hA7]; exact (Act.eval_put_ne _ _ _ _ (by decide)).trans f6_0
    have f7_3 : a7.eval (.tmp 3) = .int .i64 o := by rw [hA7]; exact (Act.eval_put_ne _ _ _ _ (by decide)).trans f6_3
    have f7_5 : a7.eval (.tmp 5) = .pointer (some ⟨w.heap.size, 0, none⟩) := by rw [hA7]; exact (Act.eval_put_ne _ _ _ _ (by decide)).trans f6_5
    have f7_6 : a7.eval (.tmp 6) = .pointer (some ⟨w.heap.size + 1, 0, none⟩) := by rw [hA7]; exact (Act.eval_put_ne _ _ _ _ (by decide)).trans f6_6
    have z7 : a7.tmps.size = 56 := by rw [hA7, Act.size_put]; exact z6
    have dd7 : a7.defers = [] := by rw [hA7, Act.defers_put']; exact dd6
    clear hA7 z6 dd6 f6_15 f6_13 f6_11 f6_9 f6_0 f6_3 f6_5 f6_6
    refine wpAnyH_ready (rs := [7]) (by kernel_rfl) (by simp) (AllReadyH.cons (by simp only [List.getElem?_toArray, List.getElem?_cons_succ, List.getElem?_cons_zero]; rfl) (fun K hK => ?_) AllReadyH.nil)
    refine step_call (by rfl) 16 #[.tmp 13, .tmp 15] #[28, 3] (by rfl) #[rV l, .int .i64 f] (by simp only [List.map_toArray, List.map_cons, List.map_nil, f7_13, f7_15]) Tryd.func16 (by kernel_rfl) rfl ((C2 _ f).out) (fun e w' hR => ?_)
    obtain ⟨rfl, hb2⟩ := hR
    refine ⟨_, rfl, hK.out _ _ (hS.next hb2) (fun hS => ?_)⟩
    obtain ⟨a8, hA8⟩ : ∃ a', a' = a7.put (some 16) (.int .u64 ((rv l f : Nat) : Int)) := ⟨_, rfl⟩
    change wpAnyH _ _ _ _ _ _ _ (a7.put (some 16) (.int .u64 ((rv l f : Nat) : Int))) _
    rw [← hA8]
    have f8_16 : a8.eval (.tmp 16) = .int .u64 ((rv l f : Nat) : Int) := by rw [hA8]; exact Act.eval_put_same _ _ _ (by omega)
    have f8_12 : a8.eval (.tmp 12) = .int .u64 ((rv l f : Nat) : Int) := by rw [hA8]; exact (Act.eval_put_ne _ _ _ _ (by decide)).trans f7_12
    have f8_0 : a8.eval (.tmp 0) = .pointer (some ⟨g, 0, none⟩) := by rw [hA8]; exact (Act.eval_put_ne _ _ _ _ (by decide)).trans f7_0
    have f8_3 : a8.eval (.tmp 3) = .int .i64 o := by rw [hA8]; exact (Act.eval_put_ne _ _ _ _ (by decide)).trans f7_3
    have f8_5 : a8.eval (.tmp 5) = .pointer (some ⟨w.heap.size, 0, none⟩) := by rw [hA8]; exact (Act.eval_put_ne _ _ _ _ (by decide)).trans f7_5
    have f8_6 : a8.eval (.tmp 6) = .pointer (some ⟨w.heap.size + 1, 0, none⟩) := by rw [hA8]; exact (Act.eval_put_ne _ _ _ _ (by decide)).trans f7_6
    have z8 : a8.tmps.size = 56 := by rw [hA8, Act.size_put]; exact z7
    have dd8 : a8.defers = [] := by rw [hA8, Act.defers_put']; exact dd7
    clear hA8 z7 dd7 f7_12 f7_15 f7_13 f7_0 f7_3 f7_5 f7_6
    refine wpAnyH_take (i := 8) (v := .bool true) rfl (by kernel_rfl) (by kernel_rfl) (by kernel_rfl) (fun _ _ _ h => h) (yields_equ rfl (.tmp 12) (.tmp 16) rfl _ _ f8_12 f8_16 true (beq_self_eq_true _)) hS ?_
    obtain ⟨a9, hA9⟩ : ∃ a', a' = a8.put (some 17) (.bool true) := ⟨_, rfl⟩
    change wpAnyH _ _ _ _ _ _ _ (a8.put (some 17) (.bool true)) _
    rw [← hA9]
    have f9_17 : a9.eval (.tmp 17) = .bool true := by rw [hA9]; exact Act.eval_put_same _ _ _ (by omega)
    have f9_0 : a9.eval (.tmp 0) = .pointer (some ⟨g, 0, none⟩) := by rw [hA9]; exact (Act.eval_put_ne _ _ _ _ (by decide)).trans f8_0
    have f9_3 : a9.eval (.tmp 3) = .int .i64 o := by rw [hA9]; exact (Act.eval_put_ne _ _ _ _ (by decide)).trans f8_3
    have f9_5 : a9.eval (.tmp 5) = .pointer (some ⟨w.heap.size, 0, none⟩) := by rw [hA9]; exact (Act.eval_put_ne _ _ _ _ (by decide)).trans f8_5
    have f9_6 : a9.eval (.tmp 6) = .pointer (some ⟨w.heap.size + 1, 0, none⟩) := by rw [hA9]; exact (Act.eval_put_ne _ _ _ _ (by decide)).trans f8_6
    have z9 : a9.tmps.size = 56 := by rw [hA9, Act.size_put]; exact z8
    have dd9 : a9.defers = [] := by rw [hA9, Act.defers_put']; exact dd8
    clear hA9 z8 dd8 f8_16 f8_12 f8_0 f8_3 f8_5 f8_6
    refine wpAnyH_take (i := 9) (v := .bool true) rfl (by kernel_rfl) (by kernel_rfl) (by kernel_rfl) (fun _ _ _ h => h) (yields_move rfl (.tmp 17) rfl f9_17) hS ?_
    obtain ⟨a10, hA10⟩ : ∃ a', a' = a9.put (some 18) (.bool true) := ⟨_, rfl⟩
    change wpAnyH _ _ _ _ _ _ _ (a9.put (some 18) (.bool true)) _
    rw [← hA10]
    have f10_18 : a10.eval (.tmp 18) = .bool true := by rw [hA10]; exact Act.eval_put_same _ _ _ (by omega)
    have f10_0 : a10.eval (.tmp 0) = .pointer (some ⟨g, 0, none⟩) := by rw [hA10]; exact (Act.eval_put_ne _ _ _ _ (by decide)).trans f9_0
    have f10_3 : a10.eval (.tmp 3) = .int .i64 o := by rw [hA10]; exact (Act.eval_put_ne _ _ _ _ (by decide)).trans f9_3
    have f10_5 : a10.eval (.tmp 5) = .pointer (some ⟨w.heap.size, 0, none⟩) := by rw [hA10]; exact (Act.eval_put_ne _ _ _ _ (by decide)).trans f9_5
    have f10_6 : a10.eval (.tmp 6) = .pointer (some ⟨w.heap.size + 1, 0, none⟩) := by rw [hA10]; exact (Act.eval_put_ne _ _ _ _ (by decide)).trans f9_6
    have z10 : a10.tmps.size = 56 := by rw [hA10, Act.size_put]; exact z9
    have dd10 : a10.defers = [] := by rw [hA10, Act.defers_put']; exact dd9
    clear hA10 z9 dd9 f9_17 f9_0 f9_3 f9_5 f9_6
    refine wpAnyH_take (i := 10) (v := .pointer (some ⟨g, 0, none⟩)) rfl (by kernel_rfl) (by kernel_rfl) (by kernel_rfl) (fun _ _ _ h => h) (yields_guarded 9 18 true rfl rfl f10_18 (yields_move rfl (.tmp 0) rfl f10_0)) hS ?_
    obtain ⟨a11, hA11⟩ : ∃ a', a' = a10.put (some 19) (.pointer (some ⟨g, 0, none⟩)) := ⟨_, rfl⟩
    change wpAnyH _ _ _ _ _ _ _ (a10.put (some 19) (.pointer (some ⟨g, 0, none⟩))) _
    rw [← hA11]
    have f11_19 : a11.eval (.tmp 19) = .pointer (some ⟨g, 0, none⟩) := by rw [hA11]; exact Act.eval_put_same _ _ _ (by omega)
    have f11_18 : a11.eval (.tmp 18) = .bool true := by rw [hA11]; exact (Act.eval_put_ne _ _ _ _ (by decide)).trans f10_18
    have f11_0 : a11.eval (.tmp 0) = .pointer (some ⟨g, 0, none⟩) := by rw [hA11]; exact (Act.eval_put_ne _ _ _ _ (by decide)).trans f10_0
    have f11_3 : a11.eval (.tmp 3) = .int .i64 o := by rw [hA11]; exact (Act.eval_put_ne _ _ _ _ (by decide)).trans f10_3
    have f11_5 : a11.eval (.tmp 5) = .pointer (some ⟨w.heap.size, 0, none⟩) := by rw [hA11]; exact (Act.eval_put_ne _ _ _ _ (by decide)).trans f10_5
    have f11_6 : a11.eval (.tmp 6) = .pointer (some ⟨w.heap.size + 1, 0, none⟩) := by rw [hA11]; exact (Act.eval_put_ne _ _ _ _ (by decide)).trans f10_6
    have z11 : a11.tmps.size = 56 := by rw [hA11, Act.size_put]; exact z10
    have dd11 : a11.defers = [] := by rw [hA11, Act.defers_put']; exact dd10
    clear hA11 z10 dd10 f10_18 f10_0 f10_3 f10_5 f10_6
    refine wpAnyH_take (i := 11) (v := .pointer (some ⟨w.heap.size + 1, 2, none⟩)) rfl (by kernel_rfl) (by kernel_rfl) (by kernel_rfl) (fun _ _ _ h => h) (yields_guarded 9 18 true rfl rfl f11_18 (yields_fop rfl (.tmp 6) 2 (by omega) rfl _ _ f11_6 _ rfl)) hS ?_
    obtain ⟨a12, hA12⟩ : ∃ a', a' = a11.put (some 20) (.pointer (some ⟨w.heap.size + 1, 2, none⟩)) := ⟨_, rfl⟩
    change wpAnyH _ _ _ _ _ _ _ (a11.put (some 20) (.pointer (some ⟨w.heap.size + 1, 2, none⟩))) _
    rw [← hA12]
    have f12_20 : a12.eval (.tmp 20) = .pointer (some ⟨w.heap.size + 1, 2, none⟩) := by rw [hA12]; exact Act.eval_put_same _ _ _ (by omega)
    have f12_19 : a12.eval (.tmp 19) = .pointer (some ⟨g, 0, none⟩) := by rw [hA12]; exact (Act.eval_put_ne _ _ _ _ (by decide)).trans f11_19
    have f12_18 : a12.eval (.tmp 18) = .bool true := by rw [hA12]; exact (Act.eval_put_ne _ _ _ _ (by decide)).trans f11_18
    have f12_0 : a12.eval (.tmp 0) = .pointer (some ⟨g, 0, none⟩) := by rw [hA12]; exact (Act.eval_put_ne _ _ _ _ (by decide)).trans f11_0
    have f12_3 : a12.eval (.tmp 3) = .int .i64 o := by rw [hA12]; exact (Act.eval_put_ne _ _ _ _ (by decide)).trans f11_3
    have f12_5 : a12.eval (.tmp 5) = .pointer (some ⟨w.heap.size, 0, none⟩) := by rw [hA12]; exact (Act.eval_put_ne _ _ _ _ (by decide)).trans f11_5
    have f12_6 : a12.eval (.tmp 6) = .pointer (some ⟨w.heap.size + 1, 0, none⟩) := by rw [hA12]; exact (Act.eval_put_ne _ _ _ _ (by decide)).trans f11_6
    have z12 : a12.tmps.size = 56 := by rw [hA12, Act.size_put]; exact z11
    have dd12 : a12.defers = [] := by rw [hA12, Act.defers_put']; exact dd11
    clear hA12 z11 dd11 f11_19 f11_18 f11_0 f11_3 f11_5 f11_6
    refine wpAnyH_take (i := 12) (v := .int .i64 t) rfl (by kernel_rfl) (by kernel_rfl) (by kernel_rfl) (fun _ _ _ h => h) (yields_guarded 9 18 true rfl rfl f12_18 (yields_int rfl (.tmp 20) rfl _ f12_20 t (fun _ h => h.cells.2.2.1))) hS ?_
    obtain ⟨a13, hA13⟩ : ∃ a', a' = a12.put (some 21) (.int .i64 t) := ⟨_, rfl⟩
    change wpAnyH _ _ _ _ _ _ _ (a12.put (some 21) (.int .i64 t)) _
    rw [← hA13]
    have f13_21 : a13.eval (.tmp 21) = .int .i64 t := by rw [hA13]; exact Act.eval_put_same _ _ _ (by omega)
    have f13_19 : a13.eval (.tmp 19) = .pointer (some ⟨g, 0, none⟩) := by rw [hA13]; exact (Act.eval_put_ne _ _ _ _ (by decide)).trans f12_19
    have f13_18 : a13.eval (.tmp 18) = .bool true := by rw [hA13]; exact (Act.eval_put_ne _ _ _ _ (by decide)).trans f12_18
    have f13_0 : a13.eval (.tmp 0) = .pointer (some ⟨g, 0, none⟩) := by rw [hA13]; exact (Act.eval_put_ne _ _ _ _ (by decide)).trans f12_0
    have f13_3 : a13.eval (.tmp 3) = .int .i64 o := by rw [hA13]; exact (Act.eval_put_ne _ _ _ _ (by decide)).trans f12_3
    have f13_5 : a13.eval (.tmp 5) = .pointer (some ⟨w.heap.size, 0, none⟩) := by rw [hA13]; exact (Act.eval_put_ne _ _ _ _ (by decide)).trans f12_5
    have f13_6 : a13.eval (.tmp 6) = .pointer (some ⟨w.heap.size + 1, 0, none⟩) := by rw [hA13]; exact (Act.eval_put_ne _ _ _ _ (by decide)).trans f12_6
    have z13 : a13.tmps.size = 56 := by rw [hA13, Act.size_put]; exact z12
    have dd13 : a13.defers = [] := by rw [hA13, Act.defers_put']; exact dd12
    clear hA13 z12 dd12 f12_20 f12_19 f12_18 f12_0 f12_3 f12_5 f12_6
    refine wpAnyH_take (i := 14) (v := rV l) rfl (by kernel_rfl) (by kernel_rfl) (by kernel_rfl) (fun _ _ _ h => h) (yields_guarded 9 18 true rfl rfl f13_18 (yields_r rfl (.tmp 5) rfl _ f13_5 l (fun _ h => h.b0))) hS ?_
    obtain ⟨a14, hA14⟩ : ∃ a', a' = a13.put (some 23) (rV l) := ⟨_, rfl⟩
    change wpAnyH _ _ _ _ _ _ _ (a13.put (some 23) (rV l)) _
    rw [← hA14]
    have f14_23 : a14.eval (.tmp 23) = rV l := by rw [hA14]; exact Act.eval_put_same _ _ _ (by omega)
    have f14_21 : a14.eval (.tmp 21) = .int .i64 t := by rw [hA14]; exact (Act.eval_put_ne _ _ _ _ (by decide)).trans f13_21
    have f14_19 : a14.eval (.tmp 19) = .pointer (some ⟨g, 0, none⟩) := by rw [hA14]; exact (Act.eval_put_ne _ _ _ _ (by decide)).trans f13_19
    have f14_18 : a14.eval (.tmp 18) = .bool true := by rw [hA14]; exact (Act.eval_put_ne _ _ _ _ (by decide)).trans f13_18
    have f14_0 : a14.eval (.tmp 0) = .pointer (some ⟨g, 0, none⟩) := by rw [hA14]; exact (Act.eval_put_ne _ _ _ _ (by decide)).trans f13_0
    have f14_3 : a14.eval (.tmp 3) = .int .i64 o := by rw [hA14]; exact (Act.eval_put_ne _ _ _ _ (by decide)).trans f13_3
    have f14_5 : a14.eval (.tmp 5) = .pointer (some ⟨w.heap.size, 0, none⟩) := by rw [hA14]; exact (Act.eval_put_ne _ _ _ _ (by decide)).trans f13_5
    have f14_6 : a14.eval (.tmp 6) = .pointer (some ⟨w.heap.size + 1, 0, none⟩) := by rw [hA14]; exact (Act.eval_put_ne _ _ _ _ (by decide)).trans f13_6
    have z14 : a14.tmps.size = 56 := by rw [hA14, Act.size_put]; exact z13
    have dd14 : a14.defers = [] := by rw [hA14, Act.defers_put']; exact dd13
    clear hA14 z13 dd13 f13_21 f13_19 f13_18 f13_0 f13_3 f13_5 f13_6
    refine wpAnyH_take (i := 15) (v := .pointer (some ⟨w.heap.size + 1, 2, none⟩)) rfl (by kernel_rfl) (by kernel_rfl) (by kernel_rfl) (fun _ _ _ h => h) (yields_guarded 9 18 true rfl rfl f14_18 (yields_fop rfl (.tmp 6) 2 (by omega) rfl _ _ f14_6 _ rfl)) hS ?_
    obtain ⟨a15, hA15⟩ : ∃ a', a' = a14.put (some 24) (.pointer (some ⟨w.heap.size + 1, 2, none⟩)) := ⟨_, rfl⟩
    change wpAnyH _ _ _ _ _ _ _ (a14.put (some 24) (.pointer (some ⟨w.heap.size + 1, 2, none⟩))) _
    rw [← hA15]
    have f15_24 : a15.eval (.tmp 24) = .pointer (some ⟨w.heap.size + 1, 2, none⟩) := by rw [hA15]; exact Act.eval_put_same _ _ _ (by omega)
    have f15_23 : a15.eval (.tmp 23) = rV l := by rw [hA15]; exact (Act.eval_put_ne _ _ _ _ (by decide)).trans f14_23
    have f15_21 : a15.eval (.tmp 21) = .int .i64 t := by rw [hA15]; exact (Act.eval_put_ne _ _ _ _ (by decide)).trans f14_21
    have f15_19 : a15.eval (.tmp 19) = .pointer (some ⟨g, 0, none⟩) := by rw [hA15]; exact (Act.eval_put_ne _ _ _ _ (by decide)).trans f14_19
    have f15_18 : a15.eval (.tmp 18) = .bool true := by rw [hA15]; exact (Act.eval_put_ne _ _ _ _ (by decide)).trans f14_18
    have f15_0 : a15.eval (.tmp 0) = .pointer (some ⟨g, 0, none⟩) := by rw [hA15]; exact (Act.eval_put_ne _ _ _ _ (by decide)).trans f14_0
    have f15_3 : a15.eval (.tmp 3) = .int .i64 o := by rw [hA15]; exact (Act.eval_put_ne _ _ _ _ (by decide)).trans f14_3
    have f15_5 : a15.eval (.tmp 5) = .pointer (some ⟨w.heap.size, 0, none⟩) := by rw [hA15]; exact (Act.eval_put_ne _ _ _ _ (by decide)).trans f14_5
    have f15_6 : a15.eval (.tmp 6) = .pointer (some ⟨w.heap.size + 1, 0, none⟩) := by rw [hA15]; exact (Act.eval_put_ne _ _ _ _ (by decide)).trans f14_6
    have z15 : a15.tmps.size = 56 := by rw [hA15, Act.size_put]; exact z14
    have dd15 : a15.defers = [] := by rw [hA15, Act.defers_put']; exact dd14
    clear hA15 z14 dd14 f14_23 f14_21 f14_19 f14_18 f14_0 f14_3 f14_5 f14_6
    refine wpAnyH_take (i := 16) (v := .int .i64 t) rfl (by kernel_rfl) (by kernel_rfl) (by kernel_rfl) (fun _ _ _ h => h) (yields_guarded 9 18 true rfl rfl f15_18 (yields_int rfl (.tmp 24) rfl _ f15_24 t (fun _ h => h.cells.2.2.1))) hS ?_
    obtain ⟨a16, hA16⟩ : ∃ a', a' = a15.put (some 25) (.int .i64 t) := ⟨_, rfl⟩
    change wpAnyH _ _ _ _ _ _ _ (a15.put (some 25) (.int .i64 t)) _
    rw [← hA16]
    have f16_25 : a16.eval (.tmp 25) = .int .i64 t := by rw [hA16]; exact Act.eval_put_same _ _ _ (by omega)
    have f16_23 : a16.eval (.tmp 23) = rV l := by rw [hA16]; exact (Act.eval_put_ne _ _ _ _ (by decide)).trans f15_23
    have f16_21 : a16.eval (.tmp 21) = .int .i64 t := by rw [hA16]; exact (Act.eval_put_ne _ _ _ _ (by decide)).trans f15_21
    have f16_19 : a16.eval (.tmp 19) = .pointer (some ⟨g, 0, none⟩) := by rw [hA16]; exact (Act.eval_put_ne _ _ _ _ (by decide)).trans f15_19
    have f16_18 : a16.eval (.tmp 18) = .bool true := by rw [hA16]; exact (Act.eval_put_ne _ _ _ _ (by decide)).trans f15_18
    have f16_0 : a16.eval (.tmp 0) = .pointer (some ⟨g, 0, none⟩) := by rw [hA16]; exact (Act.eval_put_ne _ _ _ _ (by decide)).trans f15_0
    have f16_3 : a16.eval (.tmp 3) = .int .i64 o := by rw [hA16]; exact (Act.eval_put_ne _ _ _ _ (by decide)).trans f15_3
    have f16_5 : a16.eval (.tmp 5) = .pointer (some ⟨w.heap.size, 0, none⟩) := by rw [hA16]; exact (Act.eval_put_ne _ _ _ _ (by decide)).trans f15_5
    have f16_6 : a16.eval (.tmp 6) = .pointer (some ⟨w.heap.size + 1, 0, none⟩) := by rw [hA16]; exact (Act.eval_put_ne _ _ _ _ (by decide)).trans f15_6
    have z16 : a16.tmps.size = 56 := by rw [hA16, Act.size_put]; exact z15
    have dd16 : a16.defers = [] := by rw [hA16, Act.defers_put']; exact dd15
    clear hA16 z15 dd15 f15_24 f15_23 f15_21 f15_19 f15_18 f15_0 f15_3 f15_5 f15_6
    refine wpAnyH_ready (rs := [13]) (by kernel_rfl) (by simp) (AllReadyH.cons (by simp only [List.getElem?_toArray, List.getElem?_cons_succ, List.getElem?_cons_zero]; rfl) (fun K hK => ?_) AllReadyH.nil)
    refine step_callg 9 18 true (by rfl) (by rfl) f16_18 11 #[.tmp 19, .tmp 21] #[23, 3] (by rfl) #[.pointer (some ⟨g, 0, none⟩), .int .i64 t] (by simp only [List.map_toArray, List.map_cons, List.map_nil, f16_19, f16_21]) Tryd.func11 (by kernel_rfl) rfl ((C1 _ t hS.ra HI.out.2).out) (fun e w' hR => ?_)
    obtain ⟨rfl, hb2⟩ := hR
    refine ⟨_, rfl, hK.out _ _ (hS.next hb2) (fun hS => ?_)⟩
    obtain ⟨a17, hA17⟩ : ∃ a', a' = a16.put (some 22) (.int .u64 ((rv l t : Nat) : Int)) := ⟨_, rfl⟩
    change wpAnyH _ _ _ _ _ _ _ (a16.put (some 22) (.int .u64 ((rv l t : Nat) : Int))) _
    rw [← hA17]
    have f17_22 : a17.eval (.tmp 22) = .int .u64 ((rv l t : Nat) : Int) := by rw [hA17]; exact Act.eval_put_same _ _ _ (by omega)
    have f17_25 : a17.eval (.tmp 25) = .int .i64 t := by rw [hA17]; exact (Act.eval_put_ne _ _ _ _ (by decide)).trans f16_25
    have f17_23 : a17.eval (.tmp 23) = rV l := by rw [hA17]; exact (Act.eval_put_ne _ _ _ _ (by decide)).trans f16_23
    have f17_18 : a17.eval (.tmp 18) = .bool true := by rw [hA17]; exact (Act.eval_put_ne _ _ _ _ (by decide)).trans f16_18
    have f17_0 : a17.eval (.tmp 0) = .pointer (some ⟨g, 0, none⟩) := by rw [hA17]; exact (Act.eval_put_ne _ _ _ _ (by decide)).trans f16_0
    have f17_3 : a17.eval (.tmp 3) = .int .i64 o := by rw [hA17]; exact (Act.eval_put_ne _ _ _ _ (by decide)).trans f16_3
    have f17_5 : a17.eval (.tmp 5) = .pointer (some ⟨w.heap.size, 0, none⟩) := by rw [hA17]; exact (Act.eval_put_ne _ _ _ _ (by decide)).trans f16_5
    have f17_6 : a17.eval (.tmp 6) = .pointer (some ⟨w.heap.size + 1, 0, none⟩) := by rw [hA17]; exact (Act.eval_put_ne _ _ _ _ (by decide)).trans f16_6
    have z17 : a17.tmps.size = 56 := by rw [hA17, Act.size_put]; exact z16
    have dd17 : a17.defers = [] := by rw [hA17, Act.defers_put']; exact dd16
    clear hA17 z16 dd16 f16_25 f16_23 f16_21 f16_19 f16_18 f16_0 f16_3 f16_5 f16_6
    refine wpAnyH_ready (rs := [17]) (by kernel_rfl) (by simp) (AllReadyH.cons (by simp only [List.getElem?_toArray, List.getElem?_cons_succ, List.getElem?_cons_zero]; rfl) (fun K hK => ?_) AllReadyH.nil)
    refine step_callg 9 18 true (by rfl) (by rfl) f17_18 16 #[.tmp 23, .tmp 25] #[28, 3] (by rfl) #[rV l, .int .i64 t] (by simp only [List.map_toArray, List.map_cons, List.map_nil, f17_23, f17_25]) Tryd.func16 (by kernel_rfl) rfl ((C2 _ t).out) (fun e w' hR => ?_)
    obtain ⟨rfl, hb2⟩ := hR
    refine ⟨_, rfl, hK.out _ _ (hS.next hb2) (fun hS => ?_)⟩
    obtain ⟨a18, hA18⟩ : ∃ a', a' = a17.put (some 26) (.int .u64 ((rv l t : Nat) : Int)) := ⟨_, rfl⟩
    change wpAnyH _ _ _ _ _ _ _ (a17.put (some 26) (.int .u64 ((rv l t : Nat) : Int))) _
    rw [← hA18]
    have f18_26 : a18.eval (.tmp 26) = .int .u64 ((rv l t : Nat) : Int) := by rw [hA18]; exact Act.eval_put_same _ _ _ (by omega)
    have f18_22 : a18.eval (.tmp 22) = .int .u64 ((rv l t : Nat) : Int) := by rw [hA18]; exact (Act.eval_put_ne _ _ _ _ (by decide)).trans f17_22
    have f18_18 : a18.eval (.tmp 18) = .bool true := by rw [hA18]; exact (Act.eval_put_ne _ _ _ _ (by decide)).trans f17_18
    have f18_0 : a18.eval (.tmp 0) = .pointer (some ⟨g, 0, none⟩) := by rw [hA18]; exact (Act.eval_put_ne _ _ _ _ (by decide)).trans f17_0
    have f18_3 : a18.eval (.tmp 3) = .int .i64 o := by rw [hA18]; exact (Act.eval_put_ne _ _ _ _ (by decide)).trans f17_3
    have f18_5 : a18.eval (.tmp 5) = .pointer (some ⟨w.heap.size, 0, none⟩) := by rw [hA18]; exact (Act.eval_put_ne _ _ _ _ (by decide)).trans f17_5
    have f18_6 : a18.eval (.tmp 6) = .pointer (some ⟨w.heap.size + 1, 0, none⟩) := by rw [hA18]; exact (Act.eval_put_ne _ _ _ _ (by decide)).trans f17_6
    have z18 : a18.tmps.size = 56 := by rw [hA18, Act.size_put]; exact z17
    have dd18 : a18.defers = [] := by rw [hA18, Act.defers_put']; exact dd17
    clear hA18 z17 dd17 f17_22 f17_25 f17_23 f17_18 f17_0 f17_3 f17_5 f17_6
    refine wpAnyH_take (i := 18) (v := .bool true) rfl (by kernel_rfl) (by kernel_rfl) (by kernel_rfl) (fun _ _ _ h => h) (yields_guarded 9 18 true rfl rfl f18_18 (yields_equ rfl (.tmp 22) (.tmp 26) rfl _ _ f18_22 f18_26 true (beq_self_eq_true _))) hS ?_
    obtain ⟨a19, hA19⟩ : ∃ a', a' = a18.put (some 27) (.bool true) := ⟨_, rfl⟩
    change wpAnyH _ _ _ _ _ _ _ (a18.put (some 27) (.bool true)) _
    rw [← hA19]
    have f19_27 : a19.eval (.tmp 27) = .bool true := by rw [hA19]; exact Act.eval_put_same _ _ _ (by omega)
    have f19_18 : a19.eval (.tmp 18) = .bool true := by rw [hA19]; exact (Act.eval_put_ne _ _ _ _ (by decide)).trans f18_18
    have f19_0 : a19.eval (.tmp 0) = .pointer (some ⟨g, 0, none⟩) := by rw [hA19]; exact (Act.eval_put_ne _ _ _ _ (by decide)).trans f18_0
    have f19_3 : a19.eval (.tmp 3) = .int .i64 o := by rw [hA19]; exact (Act.eval_put_ne _ _ _ _ (by decide)).trans f18_3
    have f19_5 : a19.eval (.tmp 5) = .pointer (some ⟨w.heap.size, 0, none⟩) := by rw [hA19]; exact (Act.eval_put_ne _ _ _ _ (by decide)).trans f18_5
    have f19_6 : a19.eval (.tmp 6) = .pointer (some ⟨w.heap.size + 1, 0, none⟩) := by rw [hA19]; exact (Act.eval_put_ne _ _ _ _ (by decide)).trans f18_6
    have z19 : a19.tmps.size = 56 := by rw [hA19, Act.size_put]; exact z18
    have dd19 : a19.defers = [] := by rw [hA19, Act.defers_put']; exact dd18
    clear hA19 z18 dd18 f18_26 f18_22 f18_18 f18_0 f18_3 f18_5 f18_6
    refine wpAnyH_take (i := 19) (v := .bool true) rfl (by kernel_rfl) (by kernel_rfl) (by kernel_rfl) (fun _ _ _ h => h) (yields_pick rfl (.tmp 18) (.tmp 27) (.const (.bool false)) rfl true f19_18 f19_27) hS ?_
    obtain ⟨a20, hA20⟩ : ∃ a', a' = a19.put (some 28) (.bool true) := ⟨_, rfl⟩
    change wpAnyH _ _ _ _ _ _ _ (a19.put (some 28) (.bool true)) _
    rw [← hA20]
    have f20_28 : a20.eval (.tmp 28) = .bool true := by rw [hA20]; exact Act.eval_put_same _ _ _ (by omega)
    have f20_0 : a20.eval (.tmp 0) = .pointer (some ⟨g, 0, none⟩) := by rw [hA20]; exact (Act.eval_put_ne _ _ _ _ (by decide)).trans f19_0
    have f20_3 : a20.eval (.tmp 3) = .int .i64 o := by rw [hA20]; exact (Act.eval_put_ne _ _ _ _ (by decide)).trans f19_3
    have f20_5 : a20.eval (.tmp 5) = .pointer (some ⟨w.heap.size, 0, none⟩) := by rw [hA20]; exact (Act.eval_put_ne _ _ _ _ (by decide)).trans f19_5
    have f20_6 : a20.eval (.tmp 6) = .pointer (some ⟨w.heap.size + 1, 0, none⟩) := by rw [hA20]; exact (Act.eval_put_ne _ _ _ _ (by decide)).trans f19_6
    have z20 : a20.tmps.size = 56 := by rw [hA20, Act.size_put]; exact z19
    have dd20 : a20.defers = [] := by rw [hA20, Act.defers_put']; exact dd19
    clear hA20 z19 dd19 f19_27 f19_18 f19_0 f19_3 f19_5 f19_6
    refine wpAnyH_take (i := 20) (v := .bool true) rfl (by kernel_rfl) (by kernel_rfl) (by kernel_rfl) (fun _ _ _ h => h) (yields_move rfl (.tmp 28) rfl f20_28) hS ?_
    obtain ⟨a21, hA21⟩ : ∃ a', a' = a20.put (some 29) (.bool true) := ⟨_, rfl⟩
    change wpAnyH _ _ _ _ _ _ _ (a20.put (some 29) (.bool true)) _
    rw [← hA21]
    have f21_29 : a21.eval (.tmp 29) = .bool true := by rw [hA21]; exact Act.eval_put_same _ _ _ (by omega)
    have f21_0 : a21.eval (.tmp 0) = .pointer (some ⟨g, 0, none⟩) := by rw [hA21]; exact (Act.eval_put_ne _ _ _ _ (by decide)).trans f20_0
    have f21_3 : a21.eval (.tmp 3) = .int .i64 o := by rw [hA21]; exact (Act.eval_put_ne _ _ _ _ (by decide)).trans f20_3
    have f21_5 : a21.eval (.tmp 5) = .pointer (some ⟨w.heap.size, 0, none⟩) := by rw [hA21]; exact (Act.eval_put_ne _ _ _ _ (by decide)).trans f20_5
    have f21_6 : a21.eval (.tmp 6) = .pointer (some ⟨w.heap.size + 1, 0, none⟩) := by rw [hA21]; exact (Act.eval_put_ne _ _ _ _ (by decide)).trans f20_6
    have z21 : a21.tmps.size = 56 := by rw [hA21, Act.size_put]; exact z20
    have dd21 : a21.defers = [] := by rw [hA21, Act.defers_put']; exact dd20
    clear hA21 z20 dd20 f20_28 f20_0 f20_3 f20_5 f20_6
    refine wpAnyH_take (i := 21) (v := .pointer (some ⟨g, 0, none⟩)) rfl (by kernel_rfl) (by kernel_rfl) (by kernel_rfl) (fun _ _ _ h => h) (yields_guarded 20 29 true rfl rfl f21_29 (yields_move rfl (.tmp 0) rfl f21_0)) hS ?_
    obtain ⟨a22, hA22⟩ : ∃ a', a' = a21.put (some 30) (.pointer (some ⟨g, 0, none⟩)) := ⟨_, rfl⟩
    change wpAnyH _ _ _ _ _ _ _ (a21.put (some 30) (.pointer (some ⟨g, 0, none⟩))) _
    rw [← hA22]
    have f22_30 : a22.eval (.tmp 30) = .pointer (some ⟨g, 0, none⟩) := by rw [hA22]; exact Act.eval_put_same _ _ _ (by omega)
    have f22_29 : a22.eval (.tmp 29) = .bool true := by rw [hA22]; exact (Act.eval_put_ne _ _ _ _ (by decide)).trans f21_29
    have f22_0 : a22.eval (.tmp 0) = .pointer (some ⟨g, 0, none⟩) := by rw [hA22]; exact (Act.eval_put_ne _ _ _ _ (by decide)).trans f21_0
    have f22_3 : a22.eval (.tmp 3) = .int .i64 o := by rw [hA22]; exact (Act.eval_put_ne _ _ _ _ (by decide)).trans f21_3
    have f22_5 : a22.eval (.tmp 5) = .pointer (some ⟨w.heap.size, 0, none⟩) := by rw [hA22]; exact (Act.eval_put_ne _ _ _ _ (by decide)).trans f21_5
    have f22_6 : a22.eval (.tmp 6) = .pointer (some ⟨w.heap.size + 1, 0, none⟩) := by rw [hA22]; exact (Act.eval_put_ne _ _ _ _ (by decide)).trans f21_6
    have z22 : a22.tmps.size = 56 := by rw [hA22, Act.size_put]; exact z21
    have dd22 : a22.defers = [] := by rw [hA22, Act.defers_put']; exact dd21
    clear hA22 z21 dd21 f21_29 f21_0 f21_3 f21_5 f21_6
    refine wpAnyH_take (i := 22) (v := .int .i64 o) rfl (by kernel_rfl) (by kernel_rfl) (by kernel_rfl) (fun _ _ _ h => h) (yields_guarded 20 29 true rfl rfl f22_29 (yields_move rfl (.tmp 3) rfl f22_3)) hS ?_
    obtain ⟨a23, hA23⟩ : ∃ a', a' = a22.put (some 31) (.int .i64 o) := ⟨_, rfl⟩
    change wpAnyH _ _ _ _ _ _ _ (a22.put (some 31) (.int .i64 o)) _
    rw [← hA23]
    have f23_31 : a23.eval (.tmp 31) = .int .i64 o := by rw [hA23]; exact Act.eval_put_same _ _ _ (by omega)
    have f23_30 : a23.eval (.tmp 30) = .pointer (some ⟨g, 0, none⟩) := by rw [hA23]; exact (Act.eval_put_ne _ _ _ _ (by decide)).trans f22_30
    have f23_29 : a23.eval (.tmp 29) = .bool true := by rw [hA23]; exact (Act.eval_put_ne _ _ _ _ (by decide)).trans f22_29
    have f23_0 : a23.eval (.tmp 0) = .pointer (some ⟨g, 0, none⟩) := by rw [hA23]; exact (Act.eval_put_ne _ _ _ _ (by decide)).trans f22_0
    have f23_3 : a23.eval (.tmp 3) = .int .i64 o := by rw [hA23]; exact (Act.eval_put_ne _ _ _ _ (by decide)).trans f22_3
    have f23_5 : a23.eval (.tmp 5) = .pointer (some ⟨w.heap.size, 0, none⟩) := by rw [hA23]; exact (Act.eval_put_ne _ _ _ _ (by decide)).trans f22_5
    have f23_6 : a23.eval (.tmp 6) = .pointer (some ⟨w.heap.size + 1, 0, none⟩) := by rw [hA23]; exact (Act.eval_put_ne _ _ _ _ (by decide)).trans f22_6
    have z23 : a23.tmps.size = 56 := by rw [hA23, Act.size_put]; exact z22
    have dd23 : a23.defers = [] := by rw [hA23, Act.defers_put']; exact dd22
    clear hA23 z22 dd22 f22_30 f22_29 f22_0 f22_3 f22_5 f22_6
    refine wpAnyH_take (i := 24) (v := rV l) rfl (by kernel_rfl) (by kernel_rfl) (by kernel_rfl) (fun _ _ _ h => h) (yields_guarded 20 29 true rfl rfl f23_29 (yields_r rfl (.tmp 5) rfl _ f23_5 l (fun _ h => h.b0))) hS ?_
    obtain ⟨a24, hA24⟩ : ∃ a', a' = a23.put (some 33) (rV l) := ⟨_, rfl⟩
    change wpAnyH _ _ _ _ _ _ _ (a23.put (some 33) (rV l)) _
    rw [← hA24]
    have f24_33 : a24.eval (.tmp 33) = rV l := by rw [hA24]; exact Act.eval_put_same _ _ _ (by omega)
    have f24_31 : a24.eval (.tmp 31) = .int .i64 o := by rw [hA24]; exact (Act.eval_put_ne _ _ _ _ (by decide)).trans f23_31
    have f24_30 : a24.eval (.tmp 30) = .pointer (some ⟨g, 0, none⟩) := by rw [hA24]; exact (Act.eval_put_ne _ _ _ _ (by decide)).trans f23_30
    have f24_29 : a24.eval (.tmp 29) = .bool true := by rw [hA24]; exact (Act.eval_put_ne _ _ _ _ (by decide)).trans f23_29
    have f24_0 : a24.eval (.tmp 0) = .pointer (some ⟨g, 0, none⟩) := by rw [hA24]; exact (Act.eval_put_ne _ _ _ _ (by decide)).trans f23_0
    have f24_3 : a24.eval (.tmp 3) = .int .i64 o := by rw [hA24]; exact (Act.eval_put_ne _ _ _ _ (by decide)).trans f23_3
    have f24_5 : a24.eval (.tmp 5) = .pointer (some ⟨w.heap.size, 0, none⟩) := by rw [hA24]; exact (Act.eval_put_ne _ _ _ _ (by decide)).trans f23_5
    have f24_6 : a24.eval (.tmp 6) = .pointer (some ⟨w.heap.size + 1, 0, none⟩) := by rw [hA24]; exact (Act.eval_put_ne _ _ _ _ (by decide)).trans f23_6
    have z24 : a24.tmps.size = 56 := by rw [hA24, Act.size_put]; exact z23
    have dd24 : a24.defers = [] := by rw [hA24, Act.defers_put']; exact dd23
    clear hA24 z23 dd23 f23_31 f23_30 f23_29 f23_0 f23_3 f23_5 f23_6
    refine wpAnyH_take (i := 25) (v := .int .i64 o) rfl (by kernel_rfl) (by kernel_rfl) (by kernel_rfl) (fun _ _ _ h => h) (yields_guarded 20 29 true rfl rfl f24_29 (yields_move rfl (.tmp 3) rfl f24_3)) hS ?_
    obtain ⟨a25, hA25⟩ : ∃ a', a' = a24.put (some 34) (.int .i64 o) := ⟨_, rfl⟩
    change wpAnyH _ _ _ _ _ _ _ (a24.put (some 34) (.int .i64 o)) _
    rw [← hA25]
    have f25_34 : a25.eval (.tmp 34) = .int .i64 o := by rw [hA25]; exact Act.eval_put_same _ _ _ (by omega)
    have f25_33 : a25.eval (.tmp 33) = rV l := by rw [hA25]; exact (Act.eval_put_ne _ _ _ _ (by decide)).trans f24_33
    have f25_31 : a25.eval (.tmp 31) = .int .i64 o := by rw [hA25]; exact (Act.eval_put_ne _ _ _ _ (by decide)).trans f24_31
    have f25_30 : a25.eval (.tmp 30) = .pointer (some ⟨g, 0, none⟩) := by rw [hA25]; exact (Act.eval_put_ne _ _ _ _ (by decide)).trans f24_30
    have f25_29 : a25.eval (.tmp 29) = .bool true := by rw [hA25]; exact (Act.eval_put_ne _ _ _ _ (by decide)).trans f24_29
    have f25_0 : a25.eval (.tmp 0) = .pointer (some ⟨g, 0, none⟩) := by rw [hA25]; exact (Act.eval_put_ne _ _ _ _ (by decide)).trans f24_0
    have f25_3 : a25.eval (.tmp 3) = .int .i64 o := by rw [hA25]; exact (Act.eval_put_ne _ _ _ _ (by decide)).trans f24_3
    have f25_5 : a25.eval (.tmp 5) = .pointer (some ⟨w.heap.size, 0, none⟩) := by rw [hA25]; exact (Act.eval_put_ne _ _ _ _ (by decide)).trans f24_5
    have f25_6 : a25.eval (.tmp 6) = .pointer (some ⟨w.heap.size + 1, 0, none⟩) := by rw [hA25]; exact (Act.eval_put_ne _ _ _ _ (by decide)).trans f24_6
    have z25 : a25.tmps.size = 56 := by rw [hA25, Act.size_put]; exact z24
    have dd25 : a25.defers = [] := by rw [hA25, Act.defers_put']; exact dd24
    clear hA25 z24 dd24 f24_33 f24_31 f24_30 f24_29 f24_0 f24_3 f24_5 f24_6
    refine wpAnyH_ready (rs := [23]) (by kernel_rfl) (by simp) (AllReadyH.cons (by simp only [List.getElem?_toArray, List.getElem?_cons_succ, List.getElem?_cons_zero]; rfl) (fun K hK => ?_) AllReadyH.nil)
    refine step_callg 20 29 true (by rfl) (by rfl) f25_29 13 #[.tmp 30, .tmp 31] #[23, 3] (by rfl) #[.pointer (some ⟨g, 0, none⟩), .int .i64 o] (by simp only [List.map_toArray, List.map_cons, List.map_nil, f25_30, f25_31]) Tryd.func13 (by kernel_rfl) rfl ((C3 _ hS.ra).out) (fun e w' hR => ?_)
    obtain ⟨rfl, hb2⟩ := hR
    refine ⟨_, rfl, hK.out _ _ (hS.next hb2) (fun hS => ?_)⟩
    obtain ⟨a26, hA26⟩ : ∃ a', a' = a25.put (some 32) (.int .u64 ((ys : Nat) : Int)) := ⟨_, rfl⟩
    change wpAnyH _ _ _ _ _ _ _ (a25.put (some 32) (.int .u64 ((ys : Nat) : Int))) _
    rw [← hA26]
    have f26_32 : a26.eval (.tmp 32) = .int .u64 ((ys : Nat) : Int) := by rw [hA26]; exact Act.eval_put_same _ _ _ (by omega)
    have f26_34 : a26.eval (.tmp 34) = .int .i64 o := by rw [hA26]; exact (Act.eval_put_ne _ _ _ _ (by decide)).trans f25_34
    have f26_33 : a26.eval (.tmp 33) = rV l := by rw [hA26]; exact (Act.eval_put_ne _ _ _ _ (by decide)).trans f25_33
    have f26_29 : a26.eval (.tmp 29) = .bool true := by rw [hA26]; exact (Act.eval_put_ne _ _ _ _ (by decide)).trans f25_29
    have f26_0 : a26.eval (.tmp 0) = .pointer (some ⟨g, 0, none⟩) := by rw [hA26]; exact (Act.eval_put_ne _ _ _ _ (by decide)).trans f25_0
    have f26_3 : a26.eval (.tmp 3) = .int .i64 o := by rw [hA26]; exact (Act.eval_put_ne _ _ _ _ (by decide)).trans f25_3
    have f26_5 : a26.eval (.tmp 5) = .pointer (some ⟨w.heap.size, 0, none⟩) := by rw [hA26]; exact (Act.eval_put_ne _ _ _ _ (by decide)).trans f25_5
    have f26_6 : a26.eval (.tmp 6) = .pointer (some ⟨w.heap.size + 1, 0, none⟩) := by rw [hA26]; exact (Act.eval_put_ne _ _ _ _ (by decide)).trans f25_6
    have z26 : a26.tmps.size = 56 := by rw [hA26, Act.size_put]; exact z25
    have dd26 : a26.defers = [] := by rw [hA26, Act.defers_put']; exact dd25
    clear hA26 z25 dd25 f25_34 f25_33 f25_31 f25_30 f25_29 f25_0 f25_3 f25_5 f25_6
    refine wpAnyH_ready (rs := [26]) (by kernel_rfl) (by simp) (AllReadyH.cons (by simp only [List.getElem?_toArray, List.getElem?_cons_succ, List.getElem?_cons_zero]; rfl) (fun K hK => ?_) AllReadyH.nil)
    refine step_callg 20 29 true (by rfl) (by rfl) f26_29 24 #[.tmp 33, .tmp 34] #[28, 3] (by rfl) #[rV l, .int .i64 o] (by simp only [List.map_toArray, List.map_cons, List.map_nil, f26_33, f26_34]) Tryd.func24 (by kernel_rfl) rfl ((C4 _).out) (fun e w' hR => ?_)
    obtain ⟨rfl, hb2⟩ := hR
    refine ⟨_, rfl, hK.out _ _ (hS.next hb2) (fun hS => ?_)⟩
    obtain ⟨a27, hA27⟩ : ∃ a', a' = a26.put (some 35) (.int .u64 ((ys : Nat) : Int)) := ⟨_, rfl⟩
    change wpAnyH _ _ _ _ _ _ _ (a26.put (some 35) (.int .u64 ((ys : Nat) : Int))) _
    rw [← hA27]
    have f27_35 : a27.eval (.tmp 35) = .int .u64 ((ys : Nat) : Int) := by rw [hA27]; exact Act.eval_put_same _ _ _ (by omega)
    have f27_32 : a27.eval (.tmp 32) = .int .u64 ((ys : Nat) : Int) := by rw [hA27]; exact (Act.eval_put_ne _ _ _ _ (by decide)).trans f26_32
    have f27_29 : a27.eval (.tmp 29) = .bool true := by rw [hA27]; exact (Act.eval_put_ne _ _ _ _ (by decide)).trans f26_29
    have f27_0 : a27.eval (.tmp 0) = .pointer (some ⟨g, 0, none⟩) := by rw [hA27]; exact (Act.eval_put_ne _ _ _ _ (by decide)).trans f26_0
    have f27_3 : a27.eval (.tmp 3) = .int .i64 o := by rw [hA27]; exact (Act.eval_put_ne _ _ _ _ (by decide)).trans f26_3
    have f27_5 : a27.eval (.tmp 5) = .pointer (some ⟨w.heap.size, 0, none⟩) := by rw [hA27]; exact (Act.eval_put_ne _ _ _ _ (by decide)).trans f26_5
    have f27_6 : a27.eval (.tmp 6) = .pointer (some ⟨w.heap.size + 1, 0, none⟩) := by rw [hA27]; exact (Act.eval_put_ne _ _ _ _ (by decide)).trans f26_6
    have z27 : a27.tmps.size = 56 := by rw [hA27, Act.size_put]; exact z26
    have dd27 : a27.defers = [] := by rw [hA27, Act.defers_put']; exact dd26
    clear hA27 z26 dd26 f26_32 f26_34 f26_33 f26_29 f26_0 f26_3 f26_5 f26_6
    refine wpAnyH_take (i := 27) (v := .bool true) rfl (by kernel_rfl) (by kernel_rfl) (by kernel_rfl) (fun _ _ _ h => h) (yields_guarded 20 29 true rfl rfl f27_29 (yields_equ rfl (.tmp 32) (.tmp 35) rfl _ _ f27_32 f27_35 true (beq_self_eq_true _))) hS ?_
    obtain ⟨a28, hA28⟩ : ∃ a', a' = a27.put (some 36) (.bool true) := ⟨_, rfl⟩
    change wpAnyH _ _ _ _ _ _ _ (a27.put (some 36) (.bool true)) _
    rw [← hA28]
    have f28_36 : a28.eval (.tmp 36) = .bool true := by rw [hA28]; exact Act.eval_put_same _ _ _ (by omega)
    have f28_29 : a28.eval (.tmp 29) = .bool true := by rw [hA28]; exact (Act.eval_put_ne _ _ _ _ (by decide)).trans f27_29
    have f28_0 : a28.eval (.tmp 0) = .pointer (some ⟨g, 0, none⟩) := by rw [hA28]; exact (Act.eval_put_ne _ _ _ _ (by decide)).trans f27_0
    have f28_3 : a28.eval (.tmp 3) = .int .i64 o := by rw [hA28]; exact (Act.eval_put_ne _ _ _ _ (by decide)).trans f27_3
    have f28_5 : a28.eval (.tmp 5) = .pointer (some ⟨w.heap.size, 0, none⟩) := by rw [hA28]; exact (Act.eval_put_ne _ _ _ _ (by decide)).trans f27_5
    have f28_6 : a28.eval (.tmp 6) = .pointer (some ⟨w.heap.size + 1, 0, none⟩) := by rw [hA28]; exact (Act.eval_put_ne _ _ _ _ (by decide)).trans f27_6
    have z28 : a28.tmps.size = 56 := by rw [hA28, Act.size_put]; exact z27
    have dd28 : a28.defers = [] := by rw [hA28, Act.defers_put']; exact dd27
    clear hA28 z27 dd27 f27_35 f27_32 f27_29 f27_0 f27_3 f27_5 f27_6
    refine wpAnyH_take (i := 28) (v := .bool true) rfl (by kernel_rfl) (by kernel_rfl) (by kernel_rfl) (fun _ _ _ h => h) (yields_pick rfl (.tmp 29) (.tmp 36) (.const (.bool false)) rfl true f28_29 f28_36) hS ?_
    obtain ⟨a29, hA29⟩ : ∃ a', a' = a28.put (some 37) (.bool true) := ⟨_, rfl⟩
    change wpAnyH _ _ _ _ _ _ _ (a28.put (some 37) (.bool true)) _
    rw [← hA29]
    have f29_37 : a29.eval (.tmp 37) = .bool true := by rw [hA29]; exact Act.eval_put_same _ _ _ (by omega)
    have f29_0 : a29.eval (.tmp 0) = .pointer (some ⟨g, 0, none⟩) := by rw [hA29]; exact (Act.eval_put_ne _ _ _ _ (by decide)).trans f28_0
    have f29_3 : a29.eval (.tmp 3) = .int .i64 o := by rw [hA29]; exact (Act.eval_put_ne _ _ _ _ (by decide)).trans f28_3
    have f29_5 : a29.eval (.tmp 5) = .pointer (some ⟨w.heap.size, 0, none⟩) := by rw [hA29]; exact (Act.eval_put_ne _ _ _ _ (by decide)).trans f28_5
    have f29_6 : a29.eval (.tmp 6) = .pointer (some ⟨w.heap.size + 1, 0, none⟩) := by rw [hA29]; exact (Act.eval_put_ne _ _ _ _ (by decide)).trans f28_6
    have z29 : a29.tmps.size = 56 := by rw [hA29, Act.size_put]; exact z28
    have dd29 : a29.defers = [] := by rw [hA29, Act.defers_put']; exact dd28
    clear hA29 z28 dd28 f28_36 f28_29 f28_0 f28_3 f28_5 f28_6
    refine wpAnyH_take (i := 29) (v := .bool true) rfl (by kernel_rfl) (by kernel_rfl) (by kernel_rfl) (fun _ _ _ h => h) (yields_move rfl (.tmp 37) rfl f29_37) hS ?_
    obtain ⟨a30, hA30⟩ : ∃ a', a' = a29.put (some 38) (.bool true) := ⟨_, rfl⟩
    change wpAnyH _ _ _ _ _ _ _ (a29.put (some 38) (.bool true)) _
    rw [← hA30]
    have f30_38 : a30.eval (.tmp 38) = .bool true := by rw [hA30]; exact Act.eval_put_same _ _ _ (by omega)
    have f30_0 : a30.eval (.tmp 0) = .pointer (some ⟨g, 0, none⟩) := by rw [hA30]; exact (Act.eval_put_ne _ _ _ _ (by decide)).trans f29_0
    have f30_3 : a30.eval (.tmp 3) = .int .i64 o := by rw [hA30]; exact (Act.eval_put_ne _ _ _ _ (by decide)).trans f29_3
    have f30_5 : a30.eval (.tmp 5) = .pointer (some ⟨w.heap.size, 0, none⟩) := by rw [hA30]; exact (Act.eval_put_ne _ _ _ _ (by decide)).trans f29_5
    have f30_6 : a30.eval (.tmp 6) = .pointer (some ⟨w.heap.size + 1, 0, none⟩) := by rw [hA30]; exact (Act.eval_put_ne _ _ _ _ (by decide)).trans f29_6
    have z30 : a30.tmps.size = 56 := by rw [hA30, Act.size_put]; exact z29
    have dd30 : a30.defers = [] := by rw [hA30, Act.defers_put']; exact dd29
    clear hA30 z29 dd29 f29_37 f29_0 f29_3 f29_5 f29_6
    refine wpAnyH_take (i := 30) (v := .pointer (some ⟨g, 0, none⟩)) rfl (by kernel_rfl) (by kernel_rfl) (by kernel_rfl) (fun _ _ _ h => h) (yields_guarded 29 38 true rfl rfl f30_38 (yields_move rfl (.tmp 0) rfl f30_0)) hS ?_
    obtain ⟨a31, hA31⟩ : ∃ a', a' = a30.put (some 39) (.pointer (some ⟨g, 0, none⟩)) := ⟨_, rfl⟩
    change wpAnyH _ _ _ _ _ _ _ (a30.put (some 39) (.pointer (some ⟨g, 0, none⟩))) _
    rw [← hA31]
    have f31_39 : a31.eval (.tmp 39) = .pointer (some ⟨g, 0, none⟩) := by rw [hA31]; exact Act.eval_put_same _ _ _ (by omega)
    have f31_38 : a31.eval (.tmp 38) = .bool true := by rw [hA31]; exact (Act.eval_put_ne _ _ _ _ (by decide)).trans f30_38
    have f31_3 : a31.eval (.tmp 3) = .int .i64 o := by rw [hA31]; exact (Act.eval_put_ne _ _ _ _ (by decide)).trans f30_3
    have f31_5 : a31.eval (.tmp 5) = .pointer (some ⟨w.heap.size, 0, none⟩) := by rw [hA31]; exact (Act.eval_put_ne _ _ _ _ (by decide)).trans f30_5
    have f31_6 : a31.eval (.tmp 6) = .pointer (some ⟨w.heap.size + 1, 0, none⟩) := by rw [hA31]; exact (Act.eval_put_ne _ _ _ _ (by decide)).trans f30_6
    have z31 : a31.tmps.size = 56 := by rw [hA31, Act.size_put]; exact z30
    have dd31 : a31.defers = [] := by rw [hA31, Act.defers_put']; exact dd30
    clear hA31 z30 dd30 f30_38 f30_0 f30_3 f30_5 f30_6
    refine wpAnyH_take (i := 31) (v := .pointer (some ⟨w.heap.size + 1, 2, none⟩)) rfl (by kernel_rfl) (by kernel_rfl) (by kernel_rfl) (fun _ _ _ h => h) (yields_guarded 29 38 true rfl rfl f31_38 (yields_fop rfl (.tmp 6) 2 (by omega) rfl _ _ f31_6 _ rfl)) hS ?_
    obtain ⟨a32, hA32⟩ : ∃ a', a' = a31.put (some 40) (.pointer (some ⟨w.heap.size + 1, 2, none⟩)) := ⟨_, rfl⟩
    change wpAnyH _ _ _ _ _ _ _ (a31.put (some 40) (.pointer (some ⟨w.heap.size + 1, 2, none⟩))) _
    rw [← hA32]
    have f32_40 : a32.eval (.tmp 40) = .pointer (some ⟨w.heap.size + 1, 2, none⟩) := by rw [hA32]; exact Act.eval_put_same _ _ _ (by omega)
    have f32_39 : a32.eval (.tmp 39) = .pointer (some ⟨g, 0, none⟩) := by rw [hA32]; exact (Act.eval_put_ne _ _ _ _ (by decide)).trans f31_39
    have f32_38 : a32.eval (.tmp 38) = .bool true := by rw [hA32]; exact (Act.eval_put_ne _ _ _ _ (by decide)).trans f31_38
    have f32_3 : a32.eval (.tmp 3) = .int .i64 o := by rw [hA32]; exact (Act.eval_put_ne _ _ _ _ (by decide)).trans f31_3
    have f32_5 : a32.eval (.tmp 5) = .pointer (some ⟨w.heap.size, 0, none⟩) := by rw [hA32]; exact (Act.eval_put_ne _ _ _ _ (by decide)).trans f31_5
    have f32_6 : a32.eval (.tmp 6) = .pointer (some ⟨w.heap.size + 1, 0, none⟩) := by rw [hA32]; exact (Act.eval_put_ne _ _ _ _ (by decide)).trans f31_6
    have z32 : a32.tmps.size = 56 := by rw [hA32, Act.size_put]; exact z31
    have dd32 : a32.defers = [] := by rw [hA32, Act.defers_put']; exact dd31
    clear hA32 z31 dd31 f31_39 f31_38 f31_3 f31_5 f31_6
    refine wpAnyH_take (i := 32) (v := .int .i64 t) rfl (by kernel_rfl) (by kernel_rfl) (by kernel_rfl) (fun _ _ _ h => h) (yields_guarded 29 38 true rfl rfl f32_38 (yields_int rfl (.tmp 40) rfl _ f32_40 t (fun _ h => h.cells.2.2.1))) hS ?_
    obtain ⟨a33, hA33⟩ : ∃ a', a' = a32.put (some 41) (.int .i64 t) := ⟨_, rfl⟩
    change wpAnyH _ _ _ _ _ _ _ (a32.put (some 41) (.int .i64 t)) _
    rw [← hA33]
    have f33_41 : a33.eval (.tmp 41) = .int .i64 t := by rw [hA33]; exact Act.eval_put_same _ _ _ (by omega)
    have f33_39 : a33.eval (.tmp 39) = .pointer (some ⟨g, 0, none⟩) := by rw [hA33]; exact (Act.eval_put_ne _ _ _ _ (by decide)).trans f32_39
    have f33_38 : a33.eval (.tmp 38) = .bool true := by rw [hA33]; exact (Act.eval_put_ne _ _ _ _ (by decide)).trans f32_38
    have f33_3 : a33.eval (.tmp 3) = .int .i64 o := by rw [hA33]; exact (Act.eval_put_ne _ _ _ _ (by decide)).trans f32_3
    have f33_5 : a33.eval (.tmp 5) = .pointer (some ⟨w.heap.size, 0, none⟩) := by rw [hA33]; exact (Act.eval_put_ne _ _ _ _ (by decide)).trans f32_5
    have f33_6 : a33.eval (.tmp 6) = .pointer (some ⟨w.heap.size + 1, 0, none⟩) := by rw [hA33]; exact (Act.eval_put_ne _ _ _ _ (by decide)).trans f32_6
    have z33 : a33.tmps.size = 56 := by rw [hA33, Act.size_put]; exact z32
    have dd33 : a33.defers = [] := by rw [hA33, Act.defers_put']; exact dd32
    clear hA33 z32 dd32 f32_40 f32_39 f32_38 f32_3 f32_5 f32_6
    refine wpAnyH_take (i := 33) (v := .int .i64 o) rfl (by kernel_rfl) (by kernel_rfl) (by kernel_rfl) (fun _ _ _ h => h) (yields_guarded 29 38 true rfl rfl f33_38 (yields_move rfl (.tmp 3) rfl f33_3)) hS ?_
    obtain ⟨a34, hA34⟩ : ∃ a', a' = a33.put (some 42) (.int .i64 o) := ⟨_, rfl⟩
    change wpAnyH _ _ _ _ _ _ _ (a33.put (some 42) (.int .i64 o)) _
    rw [← hA34]
    have f34_42 : a34.eval (.tmp 42) = .int .i64 o := by rw [hA34]; exact Act.eval_put_same _ _ _ (by omega)
    have f34_41 : a34.eval (.tmp 41) = .int .i64 t := by rw [hA34]; exact (Act.eval_put_ne _ _ _ _ (by decide)).trans f33_41
    have f34_39 : a34.eval (.tmp 39) = .pointer (some ⟨g, 0, none⟩) := by rw [hA34]; exact (Act.eval_put_ne _ _ _ _ (by decide)).trans f33_39
    have f34_38 : a34.eval (.tmp 38) = .bool true := by rw [hA34]; exact (Act.eval_put_ne _ _ _ _ (by decide)).trans f33_38
    have f34_3 : a34.eval (.tmp 3) = .int .i64 o := by rw [hA34]; exact (Act.eval_put_ne _ _ _ _ (by decide)).trans f33_3
    have f34_5 : a34.eval (.tmp 5) = .pointer (some ⟨w.heap.size, 0, none⟩) := by rw [hA34]; exact (Act.eval_put_ne _ _ _ _ (by decide)).trans f33_5
    have f34_6 : a34.eval (.tmp 6) = .pointer (some ⟨w.heap.size + 1, 0, none⟩) := by rw [hA34]; exact (Act.eval_put_ne _ _ _ _ (by decide)).trans f33_6
    have z34 : a34.tmps.size = 56 := by rw [hA34, Act.size_put]; exact z33
    have dd34 : a34.defers = [] := by rw [hA34, Act.defers_put']; exact dd33
    clear hA34 z33 dd33 f33_41 f33_39 f33_38 f33_3 f33_5 f33_6
    refine wpAnyH_take (i := 35) (v := .int .i64 o) rfl (by kernel_rfl) (by kernel_rfl) (by kernel_rfl) (fun _ _ _ h => h) (yields_guarded 29 38 true rfl rfl f34_38 (yields_move rfl (.tmp 3) rfl f34_3)) hS ?_
    obtain ⟨a35, hA35⟩ : ∃ a', a' = a34.put (some 44) (.int .i64 o) := ⟨_, rfl⟩
    change wpAnyH _ _ _ _ _ _ _ (a34.put (some 44) (.int .i64 o)) _
    rw [← hA35]
    have f35_44 : a35.eval (.tmp 44) = .int .i64 o := by rw [hA35]; exact Act.eval_put_same _ _ _ (by omega)
    have f35_42 : a35.eval (.tmp 42) = .int .i64 o := by rw [hA35]; exact (Act.eval_put_ne _ _ _ _ (by decide)).trans f34_42
    have f35_41 : a35.eval (.tmp 41) = .int .i64 t := by rw [hA35]; exact (Act.eval_put_ne _ _ _ _ (by decide)).trans f34_41
    have f35_39 : a35.eval (.tmp 39) = .pointer (some ⟨g, 0, none⟩) := by rw [hA35]; exact (Act.eval_put_ne _ _ _ _ (by decide)).trans f34_39
    have f35_38 : a35.eval (.tmp 38) = .bool true := by rw [hA35]; exact (Act.eval_put_ne _ _ _ _ (by decide)).trans f34_38
    have f35_3 : a35.eval (.tmp 3) = .int .i64 o := by rw [hA35]; exact (Act.eval_put_ne _ _ _ _ (by decide)).trans f34_3
    have f35_5 : a35.eval (.tmp 5) = .pointer (some ⟨w.heap.size, 0, none⟩) := by rw [hA35]; exact (Act.eval_put_ne _ _ _ _ (by decide)).trans f34_5
    have f35_6 : a35.eval (.tmp 6) = .pointer (some ⟨w.heap.size + 1, 0, none⟩) := by rw [hA35]; exact (Act.eval_put_ne _ _ _ _ (by decide)).trans f34_6
    have z35 : a35.tmps.size = 56 := by rw [hA35, Act.size_put]; exact z34
    have dd35 : a35.defers = [] := by rw [hA35, Act.defers_put']; exact dd34
    clear hA35 z34 dd34 f34_42 f34_41 f34_39 f34_38 f34_3 f34_5 f34_6
    refine wpAnyH_take (i := 36) (v := .bool false) rfl (by kernel_rfl) (by kernel_rfl) (by kernel_rfl) (fun _ _ _ h => h) (yields_guarded 29 38 true rfl rfl f35_38 (yields_lss rfl (.tmp 44) (.const (.int .i64 32)) rfl o 32 f35_44 rfl false d0)) hS ?_
    obtain ⟨a36, hA36⟩ : ∃ a', a' = a35.put (some 45) (.bool false) := ⟨_, rfl⟩
    change wpAnyH _ _ _ _ _ _ _ (a35.put (some 45) (.bool false)) _
    rw [← hA36]
    have f36_45 : a36.eval (.tmp 45) = .bool false := by rw [hA36]; exact Act.eval_put_same _ _ _ (by omega)
    have f36_42 : a36.eval (.tmp 42) = .int .i64 o := by rw [hA36]; exact (Act.eval_put_ne _ _ _ _ (by decide)).trans f35_42
    have f36_41 : a36.eval (.tmp 41) = .int .i64 t := by rw [hA36]; exact (Act.eval_put_ne _ _ _ _ (by decide)).trans f35_41
    have f36_39 : a36.eval (.tmp 39) = .pointer (some ⟨g, 0, none⟩) := by rw [hA36]; exact (Act.eval_put_ne _ _ _ _ (by decide)).trans f35_39
    have f36_38 : a36.eval (.tmp 38) = .bool true := by rw [hA36]; exact (Act.eval_put_ne _ _ _ _ (by decide)).trans f35_38
    have f36_3 : a36.eval (.tmp 3) = .int .i64 o := by rw [hA36]; exact (Act.eval_put_ne _ _ _ _ (by decide)).trans f35_3
    have f36_5 : a36.eval (.tmp 5) = .pointer (some ⟨w.heap.size, 0, none⟩) := by rw [hA36]; exact (Act.eval_put_ne _ _ _ _ (by decide)).trans f35_5
    have f36_6 : a36.eval (.tmp 6) = .pointer (some ⟨w.heap.size + 1, 0, none⟩) := by rw [hA36]; exact (Act.eval_put_ne _ _ _ _ (by decide)).trans f35_6
    have z36 : a36.tmps.size = 56 := by rw [hA36, Act.size_put]; exact z35
    have dd36 : a36.defers = [] := by rw [hA36, Act.defers_put']; exact dd35
    clear hA36 z35 dd35 f35_44 f35_42 f35_41 f35_39 f35_38 f35_3 f35_5 f35_6
    refine wpAnyH_ready (rs := [34]) (by kernel_rfl) (by simp) (AllReadyH.cons (by simp only [List.getElem?_toArray, List.getElem?_cons_succ, List.getElem?_cons_zero]; rfl) (fun K hK => ?_) AllReadyH.nil)
    refine step_callg 29 38 true (by rfl) (by rfl) f36_38 15 #[.tmp 39, .tmp 41, .tmp 42] #[23, 3, 3] (by rfl) #[.pointer (some ⟨g, 0, none⟩), .int .i64 t, .int .i64 o] (by simp only [List.map_toArray, List.map_cons, List.map_nil, f36_39, f36_41, f36_42]) Tryd.func15 (by kernel_rfl) rfl ((C5 _ hS.ra).out) (fun e w' hR => ?_)
    obtain ⟨rfl, hb2⟩ := hR
    refine ⟨_, rfl, hK.out _ _ (hS.next hb2) (fun hS => ?_)⟩
    obtain ⟨a37, hA37⟩ : ∃ a', a' = a36.put (some 43) (.bool false) := ⟨_, rfl⟩
    change wpAnyH _ _ _ _ _ _ _ (a36.put (some 43) (.bool false)) _
    rw [← hA37]
    have f37_43 : a37.eval (.tmp 43) = .bool false := by rw [hA37]; exact Act.eval_put_same _ _ _ (by omega)
    have f37_45 : a37.eval (.tmp 45) = .bool false := by rw [hA37]; exact (Act.eval_put_ne _ _ _ _ (by decide)).trans f36_45
    have f37_38 : a37.eval (.tmp 38) = .bool true := by rw [hA37]; exact (Act.eval_put_ne _ _ _ _ (by decide)).trans f36_38
    have f37_3 : a37.eval (.tmp 3) = .int .i64 o := by rw [hA37]; exact (Act.eval_put_ne _ _ _ _ (by decide)).trans f36_3
    have f37_5 : a37.eval (.tmp 5) = .pointer (some ⟨w.heap.size, 0, none⟩) := by rw [hA37]; exact (Act.eval_put_ne _ _ _ _ (by decide)).trans f36_5
    have f37_6 : a37.eval (.tmp 6) = .pointer (some ⟨w.heap.size + 1, 0, none⟩) := by rw [hA37]; exact (Act.eval_put_ne _ _ _ _ (by decide)).trans f36_6
    have z37 : a37.tmps.size = 56 := by rw [hA37, Act.size_put]; exact z36
    have dd37 : a37.defers = [] := by rw [hA37, Act.defers_put']; exact dd36
    clear hA37 z36 dd36 f36_45 f36_42 f36_41 f36_39 f36_38 f36_3 f36_5 f36_6
    refine wpAnyH_take (i := 37) (v := .bool false) rfl (by kernel_rfl) (by kernel_rfl) (by kernel_rfl) (fun _ _ _ h => h) (yields_guarded 29 38 true rfl rfl f37_38 (yields_move rfl (.tmp 45) rfl f37_45)) hS ?_
    obtain ⟨a38, hA38⟩ : ∃ a', a' = a37.put (some 46) (.bool false) := ⟨_, rfl⟩
    change wpAnyH _ _ _ _ _ _ _ (a37.put (some 46) (.bool false)) _
    rw [← hA38]
    have f38_46 : a38.eval (.tmp 46) = .bool false := by rw [hA38]; exact Act.eval_put_same _ _ _ (by omega)
    have f38_43 : a38.eval (.tmp 43) = .bool false := by rw [hA38]; exact (Act.eval_put_ne _ _ _ _ (by decide)).trans f37_43
    have f38_38 : a38.eval (.tmp 38) = .bool true := by rw [hA38]; exact (Act.eval_put_ne _ _ _ _ (by decide)).trans f37_38
    have f38_3 : a38.eval (.tmp 3) = .int .i64 o := by rw [hA38]; exact (Act.eval_put_ne _ _ _ _ (by decide)).trans f37_3
    have f38_5 : a38.eval (.tmp 5) = .pointer (some ⟨w.heap.size, 0, none⟩) := by rw [hA38]; exact (Act.eval_put_ne _ _ _ _ (by decide)).trans f37_5
    have f38_6 : a38.eval (.tmp 6) = .pointer (some ⟨w.heap.size + 1, 0, none⟩) := by rw [hA38]; exact (Act.eval_put_ne _ _ _ _ (by decide)).trans f37_6
    have z38 : a38.tmps.size = 56 := by rw [hA38, Act.size_put]; exact z37
    have dd38 : a38.defers = [] := by rw [hA38, Act.defers_put']; exact dd37
    clear hA38 z37 dd37 f37_43 f37_45 f37_38 f37_3 f37_5 f37_6
    refine wpAnyH_take (i := 38) (v := undef) rfl (by kernel_rfl) (by kernel_rfl) (by kernel_rfl) (fun _ _ _ h => h) (yields_skip 37 46 true false rfl rfl f38_46 rfl) hS ?_
    obtain ⟨a39, hA39⟩ : ∃ a', a' = a38.put (some 47) (undef) := ⟨_, rfl⟩
    change wpAnyH _ _ _ _ _ _ _ (a38.put (some 47) (undef)) _
    rw [← hA39]
    have f39_47 : a39.eval (.tmp 47) = undef := by rw [hA39]; exact Act.eval_put_same _ _ _ (by omega)
    have f39_46 : a39.eval (.tmp 46) = .bool false := by rw [hA39]; exact (Act.eval_put_ne _ _ _ _ (by decide)).trans f38_46
    have f39_43 : a39.eval (.tmp 43) = .bool false := by rw [hA39]; exact (Act.eval_put_ne _ _ _ _ (by decide)).trans f38_43
    have f39_38 : a39.eval (.tmp 38) = .bool true := by rw [hA39]; exact (Act.eval_put_ne _ _ _ _ (by decide)).trans f38_38
    have f39_3 : a39.eval (.tmp 3) = .int .i64 o := by rw [hA39]; exact (Act.eval_put_ne _ _ _ _ (by decide)).trans f38_3
    have f39_6 : a39.eval (.tmp 6) = .pointer (some ⟨w.heap.size + 1, 0, none⟩) := by rw [hA39]; exact (Act.eval_put_ne _ _ _ _ (by decide)).trans f38_6
    have z39 : a39.tmps.size = 56 := by rw [hA39, Act.size_put]; exact z38
    have dd39 : a39.defers = [] := by rw [hA39, Act.defers_put']; exact dd38
    clear hA39 z38 dd38 f38_46 f38_43 f38_38 f38_3 f38_5 f38_6
    refine wpAnyH_take (i := 39) (v := undef) rfl (by kernel_rfl) (by kernel_rfl) (by kernel_rfl) (fun _ _ _ h => h) (yields_skip 37 46 true false rfl rfl f39_46 rfl) hS ?_
    obtain ⟨a40, hA40⟩ : ∃ a', a' = a39.put (some 48) (undef) := ⟨_, rfl⟩
    change wpAnyH _ _ _ _ _ _ _ (a39.put (some 48) (undef)) _
    rw [← hA40]
    have f40_48 : a40.eval (.tmp 48) = undef := by rw [hA40]; exact Act.eval_put_same _ _ _ (by omega)
    have f40_47 : a40.eval (.tmp 47) = undef := by rw [hA40]; exact (Act.eval_put_ne _ _ _ _ (by decide)).trans f39_47
    have f40_46 : a40.eval (.tmp 46) = .bool false := by rw [hA40]; exact (Act.eval_put_ne _ _ _ _ (by decide)).trans f39_46
    have f40_43 : a40.eval (.tmp 43) = .bool false := by rw [hA40]; exact (Act.eval_put_ne _ _ _ _ (by decide)).trans f39_43
    have f40_38 : a40.eval (.tmp 38) = .bool true := by rw [hA40]; exact (Act.eval_put_ne _ _ _ _ (by decide)).trans f39_38
    have f40_3 : a40.eval (.tmp 3) = .int .i64 o := by rw [hA40]; exact (Act.eval_put_ne _ _ _ _ (by decide)).trans f39_3
    have z40 : a40.tmps.size = 56 := by rw [hA40, Act.size_put]; exact z39
    have dd40 : a40.defers = [] := by rw [hA40, Act.defers_put']; exact dd39
    clear hA40 z39 dd39 f39_47 f39_46 f39_43 f39_38 f39_3 f39_6
    refine wpAnyH_take (i := 40) (v := undef) rfl (by kernel_rfl) (by kernel_rfl) (by kernel_rfl) (fun _ _ _ h => h) (yields_skip 37 46 true false rfl rfl f40_46 rfl) hS ?_
    obtain ⟨a41, hA41⟩ : ∃ a', a' = a40.put (some 49) (undef) := ⟨_, rfl⟩
    change wpAnyH _ _ _ _ _ _ _ (a40.put (some 49) (undef)) _
    rw [← hA41]
    have f41_49 : a41.eval (.tmp 49) = undef := by rw [hA41]; exact Act.eval_put_same _ _ _ (by omega)
    have f41_47 : a41.eval (.tmp 47) = undef := by rw [hA41]; exact (Act.eval_put_ne _ _ _ _ (by decide)).trans f40_47
    have f41_46 : a41.eval (.tmp 46) = .bool false := by rw [hA41]; exact (Act.eval_put_ne _ _ _ _ (by decide)).trans f40_46
    have f41_43 : a41.eval (.tmp 43) = .bool false := by rw [hA41]; exact (Act.eval_put_ne _ _ _ _ (by decide)).trans f40_43
    have f41_38 : a41.eval (.tmp 38) = .bool true := by rw [hA41]; exact (Act.eval_put_ne _ _ _ _ (by decide)).trans f40_38
    have f41_3 : a41.eval (.tmp 3) = .int .i64 o := by rw [hA41]; exact (Act.eval_put_ne _ _ _ _ (by decide)).trans f40_3
    have z41 : a41.tmps.size = 56 := by rw [hA41, Act.size_put]; exact z40
    have dd41 : a41.defers = [] := by rw [hA41, Act.defers_put']; exact dd40
    clear hA41 z40 dd40 f40_48 f40_47 f40_46 f40_43 f40_38 f40_3
    refine wpAnyH_take (i := 41) (v := undef) rfl (by kernel_rfl) (by kernel_rfl) (by kernel_rfl) (fun _ _ _ h => h) (yields_skip 37 46 true false rfl rfl f41_46 rfl) hS ?_
    obtain ⟨a42, hA42⟩ : ∃ a', a' = a41.put (some 50) (undef) := ⟨_, rfl⟩
    change wpAnyH _ _ _ _ _ _ _ (a41.put (some 50) (undef)) _
    rw [← hA42]
    have f42_50 : a42.eval (.tmp 50) = undef := by rw [hA42]; exact Act.eval_put_same _ _ _ (by omega)
    have f42_46 : a42.eval (.tmp 46) = .bool false := by rw [hA42]; exact (Act.eval_put_ne _ _ _ _ (by decide)).trans f41_46
    have f42_43 : a42.eval (.tmp 43) = .bool false := by rw [hA42]; exact (Act.eval_put_ne _ _ _ _ (by decide)).trans f41_43
    have f42_38 : a42.eval (.tmp 38) = .bool true := by rw [hA42]; exact (Act.eval_put_ne _ _ _ _ (by decide)).trans f41_38
    have f42_3 : a42.eval (.tmp 3) = .int .i64 o := by rw [hA42]; exact (Act.eval_put_ne _ _ _ _ (by decide)).trans f41_3
    have z42 : a42.tmps.size = 56 := by rw [hA42, Act.size_put]; exact z41
    have dd42 : a42.defers = [] := by rw [hA42, Act.defers_put']; exact dd41
    clear hA42 z41 dd41 f41_49 f41_47 f41_46 f41_43 f41_38 f41_3
    refine wpAnyH_take (i := 42) (v := undef) rfl (by kernel_rfl) (by kernel_rfl) (by kernel_rfl) (fun _ _ _ h => h) (yields_skip 37 46 true false rfl rfl f42_46 rfl) hS ?_
    obtain ⟨a43, hA43⟩ : ∃ a', a' = a42.put (some 51) (undef) := ⟨_, rfl⟩
    change wpAnyH _ _ _ _ _ _ _ (a42.put (some 51) (undef)) _
    rw [← hA43]
    have f43_51 : a43.eval (.tmp 51) = undef := by rw [hA43]; exact Act.eval_put_same _ _ _ (by omega)
    have f43_50 : a43.eval (.tmp 50) = undef := by rw [hA43]; exact (Act.eval_put_ne _ _ _ _ (by decide)).trans f42_50
    have f43_46 : a43.eval (.tmp 46) = .bool false := by rw [hA43]; exact (Act.eval_put_ne _ _ _ _ (by decide)).trans f42_46
    have f43_43 : a43.eval (.tmp 43) = .bool false := by rw [hA43]; exact (Act.eval_put_ne _ _ _ _ (by decide)).trans f42_43
    have f43_38 : a43.eval (.tmp 38) = .bool true := by rw [hA43]; exact (Act.eval_put_ne _ _ _ _ (by decide)).trans f42_38
    have z43 : a43.tmps.size = 56 := by rw [hA43, Act.size_put]; exact z42
    have dd43 : a43.defers = [] := by rw [hA43, Act.defers_put']; exact dd42
    clear hA43 z42 dd42 f42_50 f42_46 f42_43 f42_38 f42_3
    refine wpAnyH_take (i := 43) (v := undef) rfl (by kernel_rfl) (by kernel_rfl) (by kernel_rfl) (fun _ _ _ h => h) (yields_skip 37 46 true false rfl rfl f43_46 rfl) hS ?_
    obtain ⟨a44, hA44⟩ : ∃ a', a' = a43.put (some 52) (undef) := ⟨_, rfl⟩
    change wpAnyH _ _ _ _ _ _ _ (a43.put (some 52) (undef)) _
    rw [← hA44]
    have f44_52 : a44.eval (.tmp 52) = undef := by rw [hA44]; exact Act.eval_put_same _ _ _ (by omega)
    have f44_46 : a44.eval (.tmp 46) = .bool false := by rw [hA44]; exact (Act.eval_put_ne _ _ _ _ (by decide)).trans f43_46
    have f44_43 : a44.eval (.tmp 43) = .bool false := by rw [hA44]; exact (Act.eval_put_ne _ _ _ _ (by decide)).trans f43_43
    have f44_38 : a44.eval (.tmp 38) = .bool true := by rw [hA44]; exact (Act.eval_put_ne _ _ _ _ (by decide)).trans f43_38
    have z44 : a44.tmps.size = 56 := by rw [hA44, Act.size_put]; exact z43
    have dd44 : a44.defers = [] := by rw [hA44, Act.defers_put']; exact dd43
    clear hA44 z43 dd43 f43_51 f43_50 f43_46 f43_43 f43_38
    refine wpAnyH_take (i := 44) (v := .bool false) rfl (by kernel_rfl) (by kernel_rfl) (by kernel_rfl) (fun _ _ _ h => h) (yields_guarded 29 38 true rfl rfl f44_38 (yields_pick rfl (.tmp 46) (.tmp 52) (.const (.bool false)) rfl false f44_46 rfl)) hS ?_
    obtain ⟨a45, hA45⟩ : ∃ a', a' = a44.put (some 53) (.bool false) := ⟨_, rfl⟩
    change wpAnyH _ _ _ _ _ _ _ (a44.put (some 53) (.bool false)) _
    rw [← hA45]
    have f45_53 : a45.eval (.tmp 53) = .bool false := by rw [hA45]; exact Act.eval_put_same _ _ _ (by omega)
    have f45_43 : a45.eval (.tmp 43) = .bool false := by rw [hA45]; exact (Act.eval_put_ne _ _ _ _ (by decide)).trans f44_43
    have f45_38 : a45.eval (.tmp 38) = .bool true := by rw [hA45]; exact (Act.eval_put_ne _ _ _ _ (by decide)).trans f44_38
    have z45 : a45.tmps.size = 56 := by rw [hA45, Act.size_put]; exact z44
    have dd45 : a45.defers = [] := by rw [hA45, Act.defers_put']; exact dd44
    clear hA45 z44 dd44 f44_52 f44_46 f44_43 f44_38
    refine wpAnyH_take (i := 45) (v := .bool true) rfl (by kernel_rfl) (by kernel_rfl) (by kernel_rfl) (fun _ _ _ h => h) (yields_guarded 29 38 true rfl rfl f45_38 (yields_eqb rfl (.tmp 43) (.tmp 53) rfl _ f45_43 f45_53)) hS ?_
    obtain ⟨a46, hA46⟩ : ∃ a', a' = a45.put (some 54) (.bool true) := ⟨_, rfl⟩
    change wpAnyH _ _ _ _ _ _ _ (a45.put (some 54) (.bool true)) _
    rw [← hA46]
    have f46_54 : a46.eval (.tmp 54) = .bool true := by rw [hA46]; exact Act.eval_put_same _ _ _ (by omega)
    have f46_38 : a46.eval (.tmp 38) = .bool true := by rw [hA46]; exact (Act.eval_put_ne _ _ _ _ (by decide)).trans f45_38
    have z46 : a46.tmps.size = 56 := by rw [hA46, Act.size_put]; exact z45
    have dd46 : a46.defers = [] := by rw [hA46, Act.defers_put']; exact dd45
    clear hA46 z45 dd45 f45_53 f45_43 f45_38
    refine wpAnyH_take (i := 46) (v := .bool true) rfl (by kernel_rfl) (by kernel_rfl) (by kernel_rfl) (fun _ _ _ h => h) (yields_pick rfl (.tmp 38) (.tmp 54) (.const (.bool false)) rfl true f46_38 f46_54) hS ?_
    obtain ⟨a47, hA47⟩ : ∃ a', a' = a46.put (some 55) (.bool true) := ⟨_, rfl⟩
    change wpAnyH _ _ _ _ _ _ _ (a46.put (some 55) (.bool true)) _
    rw [← hA47]
    have f47_55 : a47.eval (.tmp 55) = .bool true := by rw [hA47]; exact Act.eval_put_same _ _ _ (by omega)
    have z47 : a47.tmps.size = 56 := by rw [hA47, Act.size_put]; exact z46
    have dd47 : a47.defers = [] := by rw [hA47, Act.defers_put']; exact dd46
    clear hA47 z46 dd46 f46_54 f46_38
    refine wpAnyH_take (i := 47) (v := .bool true) rfl (by kernel_rfl) (by kernel_rfl) (by kernel_rfl) (fun _ _ _ h => h) (yields_assign rfl (.tmp 55) rfl f47_55) hS ?_
    obtain ⟨a48, hA48⟩ : ∃ a', a' = a47.put (some 8) (.bool true) := ⟨_, rfl⟩
    change wpAnyH _ _ _ _ _ _ _ (a47.put (some 8) (.bool true)) _
    rw [← hA48]
    have f48_8 : a48.eval (.tmp 8) = .bool true := by rw [hA48]; exact Act.eval_put_same _ _ _ (by omega)
    have z48 : a48.tmps.size = 56 := by rw [hA48, Act.size_put]; exact z47
    have dd48 : a48.defers = [] := by rw [hA48, Act.defers_put']; exact dd47
    clear hA48 z47 dd47 f47_55
    refine wpAnyH_done (by kernel_rfl) ?_ _
    go_wp2_with fail
    exact ret_same (by rw [← Array.getD_eq_getD_getElem?]; exact f48_8) dd48 ⟨rfl, hS.below⟩
end Go.Proofs.YtjedinodopcdaaaDoor.rig
