/-
  What the statements on depths ask of the program's two calls, and their common end: whether depths are found. No condition.
-/
import Derived.Test.YtjlmgoaglpkhoaaHPlain
import Derived.Test.YtjlmgoaglpkhoaaGMem
import Derived.Test.YtjlmgoaglpkhoaaGStay
import Derived.Test.YtjlmgoaglpkhoaaNums
import Derived.WalkLawsBesides
namespace Go.Proofs.Ytjlmgoaglpkhoaa.pgm.dep
open Go.RowKit Go.ChangeShapes
open Go.Proofs.Ytjlmgoaglpkhoaa.pgm
open Go.Proofs.Ytjlmgoaglpkhoaa.objs (De zero DAt cells3)
open Go.Proofs.Ytjlmgoaglpkhoaa.nums (NAt NAt.next)
set_option linter.unusedVariables false

def I64 (n : Int) : Prop := -9223372036854775808 ≤ n ∧ n ≤ 9223372036854775807
/-- The depths, the place and the error are answered. -/
def OfPost (q : List Int × Nat × Nat) (w : World) (e : Ending) (w' : World) : Prop :=
  ∃ A c, e = .returned (.tuple #[.slice A q.1.length c, .int .i64 (q.2.1 : Int), .int .i64 (q.2.2 : Int)]) ∧ NAt w' A q.1 ∧ Below w.heap.size w w'
/-- What is asked of the program's calls. -/
structure Keeps : Prop where
  of : ∀ v p fn w, PAt w v p → chkP p = 0 → I64 fn → Calls Try.prog 7 #[v, .int .i64 fn] w (OfPost (depths p.fs fn) w)
  most : ∀ A l c w, NAt w A l → l.length ≤ 1000 → (∀ x ∈ l, I64 x) → Calls Try.prog 9 #[.slice A l.length c] w fun e w' => e = .returned (.int .i64 (most l)) ∧ Below w.heap.size w w'

/-- The program that lives makes. -/
def liP : Pg := ⟨[], [], [⟨0, 0, [(0, 0, 0), (0, 0, 0), (3, 0, 0), (21, 0, 0)]⟩, ⟨0, 0, [(21, 0, 0)]⟩]⟩
theorem chk_liP : chkP liP = 0 := by decide +kernel
theorem of_liP0 : depths liP.fs 0 = ([0, 1, 2, 1], 0, 0) := by decide +kernel
theorem of_liP1 : depths liP.fs 1 = ([], 0, 2) := by decide +kernel
theorem most_li : most [0, 1, 2, 1] = 2 := by decide +kernel
def inB4 : Obj := .cells #[.int .i64 0, .int .i64 0, .int .i64 0, .int .i64 0, .int .i64 0, .int .i64 0, .int .i64 3, .int .i64 0, .int .i64 0, .int .i64 21, .int .i64 0, .int .i64 0] 40
def inB1 : Obj := .cells #[.int .i64 21, .int .i64 0, .int .i64 0] 40
def fnB2 (g : Nat) : Obj := .cells #[.int .i64 0, .int .i64 0, .slice (some ⟨g, 0, none⟩) 4 4, .int .i64 0, .int .i64 0, .slice (some ⟨g + 1, 0, none⟩) 1 1] 37
def prB (g : Nat) : Obj := .cells #[.slice none 0 0, .slice none 0 0, .slice (some ⟨g, 0, none⟩) 2 2] 26
def liV (g : Nat) : Value := .agg #[.slice none 0 0, .slice none 0 0, .slice (some ⟨g, 0, none⟩) 2 2]
def liW (w : World) : World := (((w.alloc inB4).alloc inB1).alloc (fnB2 w.heap.size)).alloc (prB (w.heap.size + 1 + 1))
theorem liW_sizes (w : World) : (w.alloc inB4).heap.size = w.heap.size + 1 ∧ ((w.alloc inB4).alloc inB1).heap.size = w.heap.size + 1 + 1 ∧ (((w.alloc inB4).alloc inB1).alloc (fnB2 w.heap.size)).heap.size = w.heap.size + 1 + 1 + 1 := by
  refine ⟨World.size_alloc w _, ?_, ?_⟩
  · rw [World.size_alloc, World.size_alloc]
  · rw [World.size_alloc, World.size_alloc, World.size_alloc]
theorem liW_below (w : World) : Below w.heap.size w (liW w) := by
  obtain ⟨z1, z2, z3⟩ := liW_sizes w
  exact ((((Below.refl _ w).alloc (Nat.le_refl _) _).alloc (by omega) _).alloc (by omega) _).alloc (by omega) _
theorem liW_box (w : World) : (liW w).heap[w.heap.size + 1 + 1 + 1]? = some (prB (w.heap.size + 1 + 1)) := by
  obtain ⟨z1, z2, z3⟩ := liW_sizes w
  rw [← z3]
  exact heap_alloc_new _ _
theorem liW_at (w : World) : PAt (liW w) (liV (w.heap.size + 1 + 1)) liP := by
  obtain ⟨z1, z2, z3⟩ := liW_sizes w
  have b0 : (liW w).heap[w.heap.size]? = some inB4 := (Below.heap_alloc _ _ _ (by omega)).trans ((Below.heap_alloc _ _ _ (by omega)).trans ((Below.heap_alloc _ _ _ (by omega)).trans (heap_alloc_new w _)))
  have b1 : (liW w).heap[w.heap.size + 1]? = some inB1 := (Below.heap_alloc _ _ _ (by omega)).trans ((Below.heap_alloc _ _ _ (by omega)).trans (by rw [← z1]; exact heap_alloc_new _ _))
  have b2 : (liW w).heap[w.heap.size + 1 + 1]? = some (fnB2 w.heap.size) := (Below.heap_alloc _ _ _ (by omega)).trans (by rw [← z2]; exact heap_alloc_new _ _)
  refine ⟨none, none, some ⟨w.heap.size + 1 + 1, 0, none⟩, 0, 0, 2, rfl, DAt.nil _ _, WsAt.nil _ _, fun j hj => ?_⟩
  have hj2 : j < 2 := hj
  have cell : ∀ (g i : Nat) (cs : Array Value) (T : TypeId) (x : Value), (liW w).heap[g]? = some (.cells cs T) → cs[i]? = some x → (liW w).cell? ⟨g, i, none⟩ = some x := fun g i cs T x h hx => by
    unfold World.cell?
    rw [h]
    simpa using hx
  match j, hj2 with
  | 0, _ =>
    refine ⟨_, 0, some ⟨w.heap.size, 0, none⟩, 4, rfl, lt_of_block b2, ⟨cell _ _ _ _ _ b2 rfl, cell _ _ _ _ _ b2 rfl, cell _ _ _ _ _ b2 rfl⟩, fun i hi => ?_⟩
    have hi2 : i < 4 := hi
    refine ⟨_, 0, rfl, lt_of_block b0, ?_⟩
    match i, hi2 with
    | 0, _ => exact ⟨cell _ _ _ _ _ b0 rfl, cell _ _ _ _ _ b0 rfl, cell _ _ _ _ _ b0 rfl⟩
    | 1, _ => exact ⟨cell _ _ _ _ _ b0 rfl, cell _ _ _ _ _ b0 rfl, cell _ _ _ _ _ b0 rfl⟩
    | 2, _ => exact ⟨cell _ _ _ _ _ b0 rfl, cell _ _ _ _ _ b0 rfl, cell _ _ _ _ _ b0 rfl⟩
    | 3, _ => exact ⟨cell _ _ _ _ _ b0 rfl, cell _ _ _ _ _ b0 rfl, cell _ _ _ _ _ b0 rfl⟩
  | 1, _ =>
    refine ⟨_, 0, some ⟨w.heap.size + 1, 0, none⟩, 1, rfl, lt_of_block b2, ⟨cell _ _ _ _ _ b2 rfl, cell _ _ _ _ _ b2 rfl, cell _ _ _ _ _ b2 rfl⟩, fun i hi => ?_⟩
    have hi2 : i < 1 := hi
    refine ⟨_, 0, rfl, lt_of_block b1, ?_⟩
    match i, hi2 with
    | 0, _ => exact ⟨cell _ _ _ _ _ b1 rfl, cell _ _ _ _ _ b1 rfl, cell _ _ _ _ _ b1 rfl⟩

set_option maxRecDepth 100000 in
set_option maxHeartbeats 4000000 in
theorem lives_any (K : Keeps) (w : World) : Calls Try.prog 6 #[] w fun e w' => e = .returned (.bool true) ∧ Below w.heap.size w w' := by
  have HB0 := Lib.hid (liW_below w)
  have HP0 := Lib.hid (liW_at w)
  have HX0 := Lib.hid (liW_box w)
  unfold liV at HP0
  have HO0 := fun W h => Lib.hid (K.of (liV (w.heap.size + 1 + 1)) liP 0 W h chk_liP ⟨by decide, by decide⟩)
  have HO1 := fun W h => Lib.hid (K.of (liV (w.heap.size + 1 + 1)) liP 1 W h chk_liP ⟨by decide, by decide⟩)
  rw [of_liP0] at HO0
  rw [of_liP1] at HO1
  unfold OfPost liV at HO0 HO1
  have HM := fun A c W h => Lib.hid (K.most A [0, 1, 2, 1] c W h (by decide) (by intro x hx; unfold I64; simp only [List.mem_cons, List.not_mem_nil, or_false] at hx; omega))
  rw [most_li] at HM
  go_enter Try.func6, Try.ntmps6
  unfold liW inB4 inB1 fnB2 prB at HB0 HP0 HX0
  obtain ⟨x0, x1, x2, _, _, _⟩ := cells3 HX0.out
  go_upto_region 2 with fail
  generalize (((w.alloc (.cells #[.int .i64 0, .int .i64 0, .int .i64 0, .int .i64 0, .int .i64 0, .int .i64 0, .int .i64 3, .int .i64 0, .int .i64 0, .int .i64 21, .int .i64 0, .int .i64 0] 40)).alloc (.cells #[.int .i64 21, .int .i64 0, .int .i64 0] 40)).alloc (.cells #[.int .i64 0, .int .i64 0, .slice (some ⟨w.heap.size, 0, none⟩) 4 4, .int .i64 0, .int .i64 0, .slice (some ⟨w.heap.size + 1, 0, none⟩) 1 1] 37)).alloc (.cells #[.slice none 0 0, .slice none 0 0, .slice (some ⟨w.heap.size + 1 + 1, 0, none⟩) 2 2] 26) = W0 at *
  go_wp2_with fail
  refine (HO0 _ HP0.out).out.mono ?_
  rintro e w1 ⟨A, c, rfl, hN, hb1⟩
  have HB1 := Lib.hid (HB0.out.trans (hb1.mono HB0.out.size))
  have HP1 := Lib.hid (HP0.out.next hb1)
  obtain ⟨y0, y1, y2, _, _, _⟩ := cells3 ((hb1.block _ (lt_of_block HX0.out)).trans HX0.out)
  have HN := Lib.hid hN
  clear hb1 hN HB0 HP0 HX0 HO0 x0 x1 x2
  go_wp2_with fail
  refine (HO1 _ HP1.out).out.mono ?_
  rintro e w2 ⟨A2, c2, rfl, _, hb2⟩
  have HB2 := Lib.hid (HB1.out.trans (hb2.mono HB1.out.size))
  have HN2 := Lib.hid (HN.out.next hb2)
  obtain ⟨b, off, rfl, hbl, n2⟩ := HN2.out 2 (by decide)
  obtain ⟨b', off', hq, _, n3⟩ := HN2.out 3 (by decide)
  injection hq with hq
  injection hq with q1 q2
  subst q1 q2
  have n2' : w2.cell? ⟨b, off + 2, none⟩ = some (.int .i64 2) := n2
  have n3' : w2.cell? ⟨b, off + 3, none⟩ = some (.int .i64 1) := n3
  clear hb2 HN HO1 HP1 HB1 y0 y1 y2 n2 n3
  go_wp2_with fail
  refine (HM _ _ _ HN2.out).out.mono ?_
  rintro e w3 ⟨rfl, hb3⟩
  have HB3 := Lib.hid (HB2.out.trans (hb3.mono HB2.out.size))
  clear hb3
  go_wp2
  go_ret
  exact ⟨rfl, HB3.out⟩
end Go.Proofs.Ytjlmgoaglpkhoaa.pgm.dep
