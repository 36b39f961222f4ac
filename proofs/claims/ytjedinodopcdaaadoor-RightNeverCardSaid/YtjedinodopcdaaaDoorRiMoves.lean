/-
  The program's own calls that move rights, and its clone (typed over the code of 93b5486). No condition.
-/
import Derived.Test.YtjedinodopcdaaaDoorRiWaive
import Derived.Shelf.SlMaps.Clone
namespace Go.Proofs.YtjedinodopcdaaaDoor.rig
open Go.RowKit Go.ChangeShapes Go.WideShapes
open Go.Proofs.YtjedinodopcdaaaDoor.obj (I64 U64)
open Go.Proofs.YtjedinodopcdaaaDoor.bits (Is64 hasB els minus)
open Go.Proofs.YtjedinodopcdaaaDoor.bits.one (Okt okt_mono)
set_option linter.unusedVariables false
set_option linter.unusedSimpArgs false

/-- Behind a move. -/
def Moved (g : Nat) (B : Option Nat) (l : List Nat) (w : World) (e : Ending) (w' : World) : Prop := e = .returned (.tuple #[]) ∧ ∃ B', AtM w' g B' l ∧ Turn g B w w' ∧ Grow w B B'
theorem zero_minus (m : Nat) : minus 0 m = 0 := by
  unfold minus
  exact Nat.zero_and _
theorem waive_any (w : World) (g : Nat) (B : Option Nat) (l : List Nat) (t : Int) (m : Nat) (ha : AtM w g B l) (hm : Is64 m) :
    Calls Tryd.prog 20 #[.pointer (some ⟨g, 0, none⟩), .int .i64 t, .int .u64 (m : Int)] w fun e w' => e = .returned (.tuple #[]) ∧ AtM w' g B (setR l t (minus (rv l t) m)) ∧ Turn g B w w' := by
  cases B with
  | some b => exact waive_some w g b l t m ha hm
  | none =>
    refine (waive_none w g l t m ha).mono ?_
    rintro e w' ⟨rfl, rfl⟩
    have hb : Below w.heap.size w (w.alloc (.mapIter none 0 #[] 0)) := (Below.refl _ w).alloc (Nat.le_refl _) _
    have ha2 := ha.next hb
    refine ⟨rfl, ⟨ha2.1, set_fine ha.2.1 t (minus_lt32 _ (rv_lt ha.2.1 t)), fun _ u => ?_, (fun b e => by cases e)⟩, Turn.of_below hb⟩
    rw [rv_set ha.2.1, ha.2.2.1 rfl, ha.2.2.1 rfl, zero_minus]
    simp
theorem all_is : ((allR : Nat) : Int) = 4294967295 := rfl
set_option maxHeartbeats 1000000 in
theorem clear_any (w : World) (g : Nat) (B : Option Nat) (l : List Nat) (t : Int) (ha : AtM w g B l) :
    Calls Tryd.prog 21 #[.pointer (some ⟨g, 0, none⟩), .int .i64 t] w fun e w' => e = .returned (.tuple #[]) ∧ AtM w' g B (setR l t 0) ∧ Turn g B w w' := by
  have C := Lib.hid (waive_any w g B l t allR ha (by unfold allR Is64; omega))
  rw [waive_all ha.2.1, all_is] at C
  clear ha
  go_enter Tryd.func21, Tryd.ntmps21
  go_wp2_with fail
  refine C.out.mono ?_
  rintro _ w1 ⟨rfl, h1, h2⟩
  have HR := Lib.hid (And.intro h1 h2)
  clear h1 h2 C
  go_wp2
  go_end0
  exact ⟨rfl, HR.out⟩
set_option maxHeartbeats 1000000 in
theorem root_any (w : World) (g : Nat) (B : Option Nat) (l : List Nat) (t : Int) (ha : AtM w g B l) (ht : I64 t) (hO : Okt w) :
    Calls Tryd.prog 17 #[.pointer (some ⟨g, 0, none⟩), .int .i64 t] w (Moved g B (setR l t allR) w) := by
  have C := Lib.hid (add_any w g B l t allR ha ht (by unfold allR; omega) hO)
  rw [add_all ha.2.1, all_is] at C
  unfold Moved
  clear ha ht hO
  go_enter Tryd.func17, Tryd.ntmps17
  go_wp2_with fail
  refine C.out.mono ?_
  rintro _ w1 ⟨rfl, h1⟩
  have HR := Lib.hid h1
  clear h1 C
  go_wp2
  go_end0
  exact ⟨rfl, HR.out⟩
set_option maxHeartbeats 1000000 in
theorem give_any (w : World) (g : Nat) (B : Option Nat) (l : List Nat) (f t : Int) (m : Nat) (ha : AtM w g B l) (hf : I64 f) (ht : I64 t) (hm : Is64 m) (hO : Okt w) :
    Calls Tryd.prog 19 #[.pointer (some ⟨g, 0, none⟩), .int .i64 f, .int .i64 t, .int .u64 (m : Int)] w (Moved g B (setR l t (rv l t ||| (rv l f &&& m))) w) := by
  have C1 := Lib.hid (of_any w g B l f ha hf)
  have hand := bits.and_u64 (rv_is ha.2.1 f) hm
  have C2 : ∀ w1, Below w.heap.size w w1 → Hid (Calls Tryd.prog 28 #[.pointer (some ⟨g, 0, none⟩), .int .i64 t, .int .u64 (Go.bits .and .u64 ((rv l f : Nat) : Int) (m : Int))] w1 (Moved g B (setR l t (rv l t ||| (rv l f &&& m))) w1)) := fun w1 hb => Lib.hid (by
    rw [hand]
    exact add_any w1 g B l t _ (ha.next hb) ht (and_lt m (rv_lt ha.2.1 f)) (okt_mono _ _ hO hb))
  have HA := Lib.hid ha.lt
  generalize setR l t (rv l t ||| (rv l f &&& m)) = l2 at *
  generalize rv l f = x at *
  clear ha hf ht hm hO hand
  go_enter Tryd.func19, Tryd.ntmps19
  go_wp2_with fail
  refine C1.out.mono ?_
  rintro _ w1 ⟨rfl, hb⟩
  have HB := Lib.hid hb
  have C3 := C2 w1 hb
  clear hb C1 C2
  go_wp2_with fail
  refine C3.out.mono ?_
  rintro _ w2 ⟨rfl, B', h1, h2, h3⟩
  have HR : Hid (AtM w2 g B' l2 ∧ Turn g B w w2 ∧ Grow w B B') := Lib.hid ⟨h1, (Turn.of_below HB.out).trans h2 (Grow.refl _ _), (Grow.refl w B).trans h3 HB.out.size⟩
  clear h1 h2 h3 C3
  go_wp2
  go_end0
  exact ⟨rfl, B', HR.out⟩
set_option maxHeartbeats 1000000 in
theorem child_any (w : World) (g : Nat) (B : Option Nat) (l : List Nat) (f t : Int) (m : Nat) (ha : AtM w g B l) (hf : I64 f) (ht : I64 t) (hm : Is64 m) (hO : Okt w) :
    Calls Tryd.prog 18 #[.pointer (some ⟨g, 0, none⟩), .int .i64 f, .int .i64 t, .int .u64 (m : Int)] w (Moved g B (setR l t (rv l f &&& m)) w) := by
  have C1 := Lib.hid (of_any w g B l f ha hf)
  have hand := bits.and_u64 (rv_is ha.2.1 f) hm
  have C2 : ∀ w1, Below w.heap.size w w1 → Hid (Calls Tryd.prog 21 #[.pointer (some ⟨g, 0, none⟩), .int .i64 t] w1 fun e w' => e = .returned (.tuple #[]) ∧ AtM w' g B (setR l t 0) ∧ Turn g B w w' ∧ Okt w') := fun w1 hb => Lib.hid (by
    refine (clear_any w1 g B l t (ha.next hb)).mono ?_
    rintro e w' ⟨h1, h2, h3⟩
    have h4 := (Turn.of_below hb).trans h3 (Grow.refl _ _)
    exact ⟨h1, h2, h4, okt_turn hO ha h4⟩)
  have C3 : ∀ w2, AtM w2 g B (setR l t 0) → Okt w2 → Hid (Calls Tryd.prog 28 #[.pointer (some ⟨g, 0, none⟩), .int .i64 t, .int .u64 (Go.bits .and .u64 ((rv l f : Nat) : Int) (m : Int))] w2 (Moved g B (setR l t (rv l f &&& m)) w2)) := fun w2 h1 h2 => Lib.hid (by
    rw [hand, ← clear_add ha.2.1]
    exact add_any w2 g B _ t _ h1 ht (and_lt m (rv_lt ha.2.1 f)) h2)
  generalize setR l t (rv l f &&& m) = l2 at *
  generalize setR l t 0 = l1 at *
  generalize rv l f = x at *
  clear ha hf ht hm hO hand
  go_enter Tryd.func18, Tryd.ntmps18
  go_wp2_with fail
  refine C1.out.mono ?_
  rintro _ w1 ⟨rfl, hb⟩
  have C4 := C2 w1 hb
  clear hb C1 C2
  go_wp2_with fail
  refine C4.out.mono ?_
  rintro _ w2 ⟨rfl, h1, h2, h3⟩
  have C5 := C3 w2 h1 h3
  have HT := Lib.hid h2
  clear h1 h2 h3 C3 C4
  go_wp2_with fail
  refine C5.out.mono ?_
  rintro _ w3 ⟨rfl, B', h1, h2, h3⟩
  have HR : Hid (AtM w3 g B' l2 ∧ Turn g B w w3 ∧ Grow w B B') := Lib.hid ⟨h1, HT.out.trans h2 (Grow.refl _ _), (Grow.refl w B).trans h3 HT.out.size⟩
  clear h1 h2 h3 C5
  go_wp2
  go_end0
  exact ⟨rfl, B', HR.out⟩

set_option maxHeartbeats 1000000 in
theorem add_nil (w : World) (t : Int) (s : Nat) : Calls Tryd.prog 28 #[.pointer none, .int .i64 t, .int .u64 (s : Int)] w fun e w' => e = .returned (.tuple #[]) ∧ w = w' := by
  go_enter Tryd.func28, Tryd.ntmps28
  go_wp2
  all_goals
    refine bodyPost_ret (results_none rfl _ _ _) rfl ?_
    exact ⟨rfl, rfl⟩
theorem clear_nil (w : World) (t : Int) : Calls Tryd.prog 21 #[.pointer none, .int .i64 t] w fun e w' => e = .returned (.tuple #[]) ∧ w = w' := by
  have C := Lib.hid (waive_nil w t allR)
  rw [all_is] at C
  go_enter Tryd.func21, Tryd.ntmps21
  go_wp2_with fail
  refine C.out.mono ?_
  rintro _ w1 ⟨rfl, rfl⟩
  clear C
  go_wp2
  go_end0
  exact ⟨rfl, rfl⟩
theorem root_nil (w : World) (t : Int) : Calls Tryd.prog 17 #[.pointer none, .int .i64 t] w fun e w' => e = .returned (.tuple #[]) ∧ w = w' := by
  have C := Lib.hid (add_nil w t allR)
  rw [all_is] at C
  go_enter Tryd.func17, Tryd.ntmps17
  go_wp2_with fail
  refine C.out.mono ?_
  rintro _ w1 ⟨rfl, rfl⟩
  clear C
  go_wp2
  go_end0
  exact ⟨rfl, rfl⟩
theorem zero_and (m : Nat) (hm : Is64 m) : Go.bits .and .u64 0 (m : Int) = ((0 : Nat) : Int) := by
  have := bits.and_u64 (a := 0) (b := m) (by unfold Is64; omega) hm
  rw [Nat.zero_and] at this
  exact this
theorem give_nil (w : World) (f t : Int) (m : Nat) (hm : Is64 m) : Calls Tryd.prog 19 #[.pointer none, .int .i64 f, .int .i64 t, .int .u64 (m : Int)] w fun e w' => e = .returned (.tuple #[]) ∧ w = w' := by
  have C1 := Lib.hid (of_nil w f)
  have C2 := Lib.hid (add_nil w t 0)
  rw [← zero_and m hm] at C2
  go_enter Tryd.func19, Tryd.ntmps19
  go_wp2_with fail
  refine C1.out.mono ?_
  rintro _ w1 ⟨rfl, rfl⟩
  clear C1
  go_wp2_with fail
  refine C2.out.mono ?_
  rintro _ w2 ⟨rfl, rfl⟩
  clear C2
  go_wp2
  go_end0
  exact ⟨rfl, rfl⟩
theorem child_nil (w : World) (f t : Int) (m : Nat) (hm : Is64 m) : Calls Tryd.prog 18 #[.pointer none, .int .i64 f, .int .i64 t, .int .u64 (m : Int)] w fun e w' => e = .returned (.tuple #[]) ∧ w = w' := by
  have C1 := Lib.hid (of_nil w f)
  have C2 := Lib.hid (clear_nil w t)
  have C3 := Lib.hid (add_nil w t 0)
  rw [← zero_and m hm] at C3
  go_enter Tryd.func18, Tryd.ntmps18
  go_wp2_with fail
  refine C1.out.mono ?_
  rintro _ w1 ⟨rfl, rfl⟩
  clear C1
  go_wp2_with fail
  refine C2.out.mono ?_
  rintro _ w2 ⟨rfl, rfl⟩
  clear C2
  go_wp2_with fail
  refine C3.out.mono ?_
  rintro _ w3 ⟨rfl, rfl⟩
  clear C3
  go_wp2
  go_end0
  exact ⟨rfl, rfl⟩

theorem mapsClone_any (w : World) (b : Nat) (l : List Nat) (h : MapS w b l) :
    Calls Tryd.prog 27 #[.map (some b)] w fun e w' => e = .returned (.map (some w.heap.size)) ∧ MapS w' w.heap.size l ∧ Below w.heap.size w w' := by
  obtain ⟨D, ⟨es, clock, hb, F, hs, hD⟩, hr⟩ := h
  have hm : MapS (w.alloc (.map es clock)) w.heap.size l := ⟨D, ⟨es, clock, (MapKept.heap_alloc w _).1, F, hs, hD⟩, hr⟩
  have HM := Lib.hid hm
  have HB := Lib.hid ((Below.refl w.heap.size w).alloc (Nat.le_refl _) (.map es clock))
  have hq := eql_map (some b)
  clear hm F hs hD hr
  go_enter Tryd.func27, Tryd.ntmps27
  go_wp2
  rw [run_callFunc_extern Tryd.func32 (by kernel_rfl) (by kernel_rfl) (by kernel_rfl) (e := Extern.MapsClone.clone) (by kernel_rfl), run_maps_clone_sl w 38 hb]
  simp only [Result.andThen]
  rw [Oper.upon_value]
  go_wp2
  rw [run_typeAssert_map_sl _ 38 20 _ _ _ Tryd.underlying38]
  simp only [Result.andThen]
  rw [Oper.upon_value]
  go_wp2
  go_ret
  exact ⟨rfl, HM.out, HB.out⟩
theorem mapsClone_nil (w : World) :
    Calls Tryd.prog 27 #[.map none] w fun e w' => e = .returned (.map none) ∧ w = w' := by
  have hq := eql_map none
  go_enter Tryd.func27, Tryd.ntmps27
  go_wp2
  go_ret
  exact ⟨rfl, rfl⟩
theorem clone_nil (w : World) : Calls Tryd.prog 14 #[.pointer none] w fun e w' => e = .returned (.pointer none) ∧ w = w' := by
  go_enter Tryd.func14, Tryd.ntmps14
  go_wp2
  go_ret
  exact ⟨rfl, rfl⟩
/-- Behind a clone: one of its own. -/
def Cloned (l : List Nat) (w : World) (e : Ending) (w' : World) : Prop :=
  ∃ g B, e = .returned (.pointer (some ⟨g, 0, none⟩)) ∧ w.heap.size ≤ g ∧ (∀ b, B = some b → w.heap.size ≤ b) ∧ AtM w' g B l ∧ Below w.heap.size w w'
theorem clone_any (w : World) (g : Nat) (B : Option Nat) (l : List Nat) (ha : AtM w g B l) : Calls Tryd.prog 14 #[.pointer (some ⟨g, 0, none⟩)] w (Cloned l w) := by
  have c0 := ri_cell ha.1
  have HF := Lib.hid ha.2.1
  unfold Cloned
  cases B with
  | none =>
    have HZ := Lib.hid (ha.2.2.1 rfl)
    have C := Lib.hid (mapsClone_nil w)
    clear ha
    go_enter Tryd.func14, Tryd.ntmps14
    go_wp2_with fail
    refine C.out.mono ?_
    rintro _ w1 ⟨rfl, rfl⟩
    clear C
    go_wp2
    go_ret
    exact ⟨_, none, rfl, Nat.le_refl _, (fun b e => by cases e), ⟨heap_alloc_new w _, HF.out, fun _ => HZ.out, (fun b e => by cases e)⟩, (Below.refl _ w).alloc (Nat.le_refl _) _⟩
  | some b =>
    have C := Lib.hid (mapsClone_any w b l (ha.2.2.2 b rfl))
    clear ha
    go_enter Tryd.func14, Tryd.ntmps14
    go_wp2_with fail
    refine C.out.mono ?_
    rintro _ w1 ⟨rfl, hm, hb⟩
    have HM := Lib.hid hm
    have HB := Lib.hid hb
    clear C hm hb c0
    go_wp2
    go_ret
    refine ⟨_, some w.heap.size, rfl, HB.out.size, (fun b e => by injection e with e; omega), ⟨heap_alloc_new w1 _, HF.out, (fun e => by cases e), fun b' e => ?_⟩, HB.out.alloc HB.out.size _⟩
    injection e with e
    subst e
    exact HM.out.same (Below.heap_alloc w1 _ _ HM.out.lt)
end Go.Proofs.YtjedinodopcdaaaDoor.rig
