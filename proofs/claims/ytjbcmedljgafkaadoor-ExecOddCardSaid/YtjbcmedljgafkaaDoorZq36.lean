/-
  Texts of one claim in one file: ZLive. Each has its own sentence, with its conditions.
-/
import Derived.Test.YtjbcmedljgafkaaDoorZq35
import Derived.Test.YtjbcmedljgafkaaDoorZq12
/-
  Instructions do something: what each statement on exec asks at its end. No condition but what is asked of the program's calls.
-/

namespace Go.Proofs.YtjbcmedljgafkaaDoor.pgm.exe
open Go.RowKit Go.ChangeShapes
open Go.Proofs.YtjbcmedljgafkaaDoor.pgm
open Go.Proofs.YtjbcmedljgafkaaDoor.objs (De zero DAt cells3)
open Go.Proofs.YtjbcmedljgafkaaDoor.frames (Fr num cnt topF zeroF newF In frB wl_row)
open Go.Proofs.YtjbcmedljgafkaaDoor.pgm.ver (progV)
open Go.Proofs.YtjbcmedljgafkaaDoor.pgm.dep (depths)
set_option linter.unusedVariables false
set_option linter.unusedSimpArgs false

theorem wl_zero {ops : Array Oper} {rest : List Oper} {o : Oper} {a : Act} {w : World} {Q : Exit → Act → World → Prop} (hgd : o.guard = none) (ho : o.op = .build 45 #[])
    (h : wpList Tryd.prog ops Q rest (a.put o.dst (.agg (Go.Proofs.YtjbcmedljgafkaaDoor.frames.cellsF zeroF).toArray)) w) : wpList Tryd.prog ops Q (o :: rest) a w := by
  have b0 : Tryd.prog.built 45 [] = some (Go.Proofs.YtjbcmedljgafkaaDoor.frames.cellsF zeroF).toArray := by kernel_rfl
  have e : ((#[] : Array (Nat × Operand)).map fun (i, x) => (i, a.eval x)).toList = [] := by simp
  refine wpList_build hgd _ _ ho (by rw [e, b0]; rfl) ?_
  rw [e, b0]
  exact h
/-- The program that lives makes, and the frames that come of it. -/
def liP : Pg := ⟨[], [], [⟨0, 0, [(0, 7, 0), (24, 0, 0), (21, 0, 0)]⟩]⟩
def lf1 : Fr := [0, 1, 1, 0, 0, 0, 0, 0, 0, 0, 0, 7, 0, 0, 0, 0, 0, 0, 0, 0, 0, 0, 0, 0, 0, 0, 0]
def lf2 : Fr := [0, 2, 0, 0, 0, 0, 0, 0, 0, 0, 0, 0, 0, 0, 0, 0, 0, 0, 0, 0, 0, 0, 0, 0, 0, 0, 0]
theorem good_li : (progV liP).2.2 = 0 := by decide +kernel
theorem do_li1 : doZ liP.fs [zeroF] 0 0 = ([lf1], noE, 0) := by kernel_rfl
theorem do_li2 : doZ liP.fs [lf1] 0 0 = ([lf2], ⟨24, 0, 0, [7]⟩, 0) := by kernel_rfl
theorem fit_li1 : FitL liP.fs 0 [zeroF] := ⟨[], zeroF, rfl, by decide, ⟨0, 0, 0, ⟨rfl, rfl, rfl, rfl⟩, by decide, by decide, by decide +kernel, by decide⟩, fun g hg => by cases hg⟩
theorem fit_li2 : FitL liP.fs 0 [lf1] := ⟨[], lf1, rfl, by decide, ⟨0, 1, 1, ⟨rfl, rfl, rfl, rfl⟩, by decide, by decide, by decide +kernel, by decide⟩, fun g hg => by cases hg⟩
def inB3 : Obj := .cells #[.int .i64 0, .int .i64 7, .int .i64 0, .int .i64 24, .int .i64 0, .int .i64 0, .int .i64 21, .int .i64 0, .int .i64 0] 55
def fnB1 (g : Nat) : Obj := .cells #[.int .i64 0, .int .i64 0, .slice (some ⟨g, 0, none⟩) 3 3] 58
def prB (g : Nat) : Obj := .cells #[.slice none 0 0, .slice none 0 0, .slice (some ⟨g, 0, none⟩) 1 1] 26
def liV (g : Nat) : Value := .agg #[.slice none 0 0, .slice none 0 0, .slice (some ⟨g, 0, none⟩) 1 1]
def liW (w : World) : World := ((w.alloc inB3).alloc (fnB1 w.heap.size)).alloc (prB (w.heap.size + 1))
theorem liW_sizes (w : World) : (w.alloc inB3).heap.size = w.heap.size + 1 ∧ ((w.alloc inB3).alloc (fnB1 w.heap.size)).heap.size = w.heap.size + 1 + 1 := by
  refine ⟨World.size_alloc w _, ?_⟩
  rw [World.size_alloc, World.size_alloc]
theorem liW_below (w : World) : Below w.heap.size w (liW w) := by
  obtain ⟨z1, z2⟩ := liW_sizes w
  exact (((Below.refl _ w).alloc (Nat.le_refl _) _).alloc (by omega) _).alloc (by omega) _
theorem liW_box (w : World) : (liW w).heap[w.heap.size + 1 + 1]? = some (prB (w.heap.size + 1)) := by
  obtain ⟨z1, z2⟩ := liW_sizes w
  rw [← z2]
  exact heap_alloc_new _ _
theorem liW_at (w : World) : PAt (liW w) (liV (w.heap.size + 1)) liP := by
  obtain ⟨z1, z2⟩ := liW_sizes w
  have b0 : (liW w).heap[w.heap.size]? = some inB3 := (Below.heap_alloc _ _ _ (by omega)).trans ((Below.heap_alloc _ _ _ (by omega)).trans (heap_alloc_new w _))
  have b1 : (liW w).heap[w.heap.size + 1]? = some (fnB1 w.heap.size) := (Below.heap_alloc _ _ _ (by omega)).trans (by rw [← z1]; exact heap_alloc_new _ _)
  have cell : ∀ (g i : Nat) (cs : Array Value) (T : TypeId) (x : Value), (liW w).heap[g]? = some (.cells cs T) → cs[i]? = some x → (liW w).cell? ⟨g, i, none⟩ = some x := fun g i cs T x h hx => by
    unfold World.cell?
    rw [h]
    simpa using hx
  refine ⟨none, none, some ⟨w.heap.size + 1, 0, none⟩, 0, 0, 1, rfl, DAt.nil _ _, WsAt.nil _ _, fun j hj => ?_⟩
  have hj2 : j < 1 := hj
  match j, hj2 with
  | 0, _ =>
    refine ⟨_, 0, some ⟨w.heap.size, 0, none⟩, 3, rfl, lt_of_block b1, ⟨cell _ _ _ _ _ b1 rfl, cell _ _ _ _ _ b1 rfl, cell _ _ _ _ _ b1 rfl⟩, fun i hi => ?_⟩
    have hi2 : i < 3 := hi
    refine ⟨_, 0, rfl, lt_of_block b0, ?_⟩
    match i, hi2 with
    | 0, _ => exact ⟨cell _ _ _ _ _ b0 rfl, cell _ _ _ _ _ b0 rfl, cell _ _ _ _ _ b0 rfl⟩
    | 1, _ => exact ⟨cell _ _ _ _ _ b0 rfl, cell _ _ _ _ _ b0 rfl, cell _ _ _ _ _ b0 rfl⟩
    | 2, _ => exact ⟨cell _ _ _ _ _ b0 rfl, cell _ _ _ _ _ b0 rfl, cell _ _ _ _ _ b0 rfl⟩

set_option maxRecDepth 100000 in
set_option maxHeartbeats 8000000 in
theorem lives_any {Ok : World → Prop} (K : Keeps Ok) (w : World) (hw : Ok w) : Calls Tryd.prog 8 #[] w fun e w' => e = .returned (.bool true) ∧ Below w.heap.size w w' := by
  have HK := Lib.hid K
  have HO := Lib.hid hw
  have HB0 := Lib.hid (liW_below w)
  have HP0 := Lib.hid (liW_at w)
  have HX0 := Lib.hid (liW_box w)
  unfold liW inB3 fnB1 prB at HB0 HP0 HX0
  clear K hw
  go_enter Tryd.func8, Tryd.ntmps8
  go_upto_region 2 with fail
  refine wp_hold_world (fun W1 HW1 => ?_)
  have H1 : Hid (Below w.heap.size w W1 ∧ PAt W1 (liV (w.heap.size + 1)) liP ∧ W1.heap[w.heap.size + 1 + 1]? = some (prB (w.heap.size + 1))) := Lib.hid (by rw [HW1.out]; exact ⟨liW_below w, liW_at w, liW_box w⟩)
  obtain ⟨p0, p1, p2, -, -, -⟩ := cells3 H1.out.2.2
  have H2 : Hid (Below w.heap.size w (W1.alloc (frB zeroF)) ∧ PAt (W1.alloc (frB zeroF)) (liV (w.heap.size + 1)) liP ∧ (W1.alloc (frB zeroF)).heap[w.heap.size + 1 + 1]? = some (prB (w.heap.size + 1)) ∧ In (W1.alloc (frB zeroF)) (some ⟨W1.heap.size, 0, none⟩) 1 [zeroF]) := Lib.hid (by
    have hb : Below W1.heap.size W1 (W1.alloc (frB zeroF)) := (Below.refl _ _).alloc (Nat.le_refl _) _
    exact ⟨H1.out.1.trans (hb.mono H1.out.1.size), H1.out.2.1.next hb, (hb.block _ (lt_of_block H1.out.2.2)).trans H1.out.2.2, Go.Proofs.YtjbcmedljgafkaaDoor.frames.FsAt.one (heap_alloc_new W1 _), by simp, by simp, fun f hf => by rw [List.mem_singleton.1 hf]; rfl, fun e => by cases e⟩)
  clear HW1 HB0 HP0 HX0
  go_wp2_with (first | refine wl_zero rfl rfl ?_ | refine wl_row rfl _ rfl zeroF rfl ?_)
  try simp only [Go.Act.put, List.setIfInBounds_toArray, List.set_cons_zero, List.set_cons_succ]
  generalize hg1 : W1.heap.size = g1 at *
  generalize W1.alloc (frB zeroF) = W2 at *
  have HD := Lib.hid (HK.out.do' (liV (w.heap.size + 1)) liP (some ⟨g1, 0, none⟩) 1 [zeroF] 0 0 W2 (HK.out.mono _ _ HO.out H2.out.1) H2.out.2.1 good_li H2.out.2.2.2 fit_li1 (by unfold I64; omega) (by unfold I64; omega))
  unfold DoPost liV at HD
  rw [do_li1] at HD
  simp only [List.length_singleton] at HD
  clear p0 p1 p2
  go_wp2_with fail
  refine HD.out.mono ?_
  rintro _ w3 ⟨A3, c3, rfl, hI3, hb3⟩
  have H3 : Hid (Below w.heap.size w w3 ∧ PAt w3 (liV (w.heap.size + 1)) liP ∧ w3.heap[w.heap.size + 1 + 1]? = some (prB (w.heap.size + 1)) ∧ In w3 A3 c3 [lf1]) := Lib.hid ⟨H2.out.1.trans (hb3.mono H2.out.1.size), H2.out.2.1.next hb3, (hb3.block _ (lt_of_block H2.out.2.2.1)).trans H2.out.2.2.1, hI3⟩
  clear hI3 hb3 HD H2 H1
  go_upto_region 3 with (first | refine we_alloc rfl rfl ?_ | refine we_store rfl _ _ rfl w3.heap.size zE noE rfl rfl (heap_alloc_new w3 (efB zE)) ?_)
  try simp only [Go.Act.put, List.setIfInBounds_toArray, List.set_cons_zero, List.set_cons_succ]
  refine wp_hold_world (fun W4 HW4 => ?_)
  have H4 : Hid ((Below w.heap.size w W4 ∧ PAt W4 (liV (w.heap.size + 1)) liP ∧ W4.heap[w.heap.size + 1 + 1]? = some (prB (w.heap.size + 1)) ∧ In W4 A3 c3 [lf1]) ∧ W4.heap[w3.heap.size]? = some (efB noE)) := Lib.hid (by
    have hb : Below w3.heap.size w3 W4 := by rw [HW4.out]; exact Go.Proofs.YtjbcmedljgafkaaDoor.frames.row_below ((Below.refl _ _).alloc (Nat.le_refl _) _) (Nat.le_refl _) _
    refine ⟨⟨H3.out.1.trans (hb.mono H3.out.1.size), H3.out.2.1.next hb, (hb.block _ (lt_of_block H3.out.2.2.1)).trans H3.out.2.2.1, H3.out.2.2.2.next hb⟩, ?_⟩
    rw [HW4.out]
    exact row_turned (heap_alloc_new w3 (efB zE)) _)
  clear HW4 H3
  generalize w3.heap.size = g3 at *
  obtain ⟨p0, p1, p2, -, -, -⟩ := cells3 H4.out.1.2.2.1
  have HD := Lib.hid (HK.out.do' (liV (w.heap.size + 1)) liP A3 c3 [lf1] 0 0 W4 (HK.out.mono _ _ HO.out H4.out.1.1) H4.out.1.2.1 good_li H4.out.1.2.2.2 fit_li2 (by unfold I64; omega) (by unfold I64; omega))
  unfold DoPost liV at HD
  rw [do_li2] at HD
  simp only [List.length_singleton] at HD
  go_wp2_with fail
  refine HD.out.mono ?_
  rintro _ w5 ⟨A5, c5, rfl, hI5, hb5⟩
  have H5 : Hid ((Below w.heap.size w w5 ∧ In w5 A3 c3 [lf1] ∧ In w5 A5 c5 [lf2]) ∧ w5.heap[g3]? = some (efB noE)) := Lib.hid ⟨⟨H4.out.1.1.trans (hb5.mono H4.out.1.1.size), H4.out.1.2.2.2.next hb5, hI5⟩, (hb5.block _ (lt_of_block H4.out.2)).trans H4.out.2⟩
  clear hI5 hb5 HD H4 p0 p1 p2
  go_upto_region 4 with (first | refine we_alloc rfl rfl ?_ | refine we_store rfl _ _ rfl w5.heap.size zE ⟨24, 0, 0, [7]⟩ rfl rfl (heap_alloc_new w5 (efB zE)) ?_)
  try simp only [Go.Act.put, List.setIfInBounds_toArray, List.set_cons_zero, List.set_cons_succ]
  refine wp_hold_world (fun W6 HW6 => ?_)
  have H6 : Hid ((Below w.heap.size w W6 ∧ In W6 A3 c3 [lf1] ∧ In W6 A5 c5 [lf2]) ∧ W6.heap[g3]? = some (efB noE) ∧ W6.heap[w5.heap.size]? = some (efB ⟨24, 0, 0, [7]⟩)) := Lib.hid (by
    have hb : Below w5.heap.size w5 W6 := by rw [HW6.out]; exact Go.Proofs.YtjbcmedljgafkaaDoor.frames.row_below ((Below.refl _ _).alloc (Nat.le_refl _) _) (Nat.le_refl _) _
    refine ⟨⟨H5.out.1.1.trans (hb.mono H5.out.1.1.size), H5.out.1.2.1.next hb, H5.out.1.2.2.next hb⟩, (hb.block _ (lt_of_block H5.out.2)).trans H5.out.2, ?_⟩
    rw [HW6.out]
    exact row_turned (heap_alloc_new w5 (efB zE)) _)
  clear HW6 H5
  generalize w5.heap.size = g5 at *
  obtain ⟨b1, o1, rfl, -, hF1⟩ := H6.out.1.2.1.at' 0 (by simp)
  obtain ⟨b2, o2, rfl, -, hF2⟩ := H6.out.1.2.2.at' 0 (by simp)
  have a1 := hF1 1 (by decide)
  have a2 := hF1 2 (by decide)
  have a11 := hF1 11 (by decide)
  have b2' := hF2 2 (by decide)
  simp only [Nat.zero_mul, Nat.add_zero, List.getD_cons_zero] at a1 a2 a11 b2'
  rw [show num lf1 1 = 1 from by decide] at a1
  rw [show num lf1 2 = 1 from by decide] at a2
  rw [show num lf1 11 = 7 from by decide] at a11
  rw [show num lf2 2 = 0 from by decide] at b2'
  have e0 := ef_cell H6.out.2.1 (j := 0) (v := .int .i64 (-1)) rfl
  have y0 := ef_cell H6.out.2.2 (j := 0) (v := .int .i64 24) rfl
  have y1 := ef_cell H6.out.2.2 (j := 1) (v := .int .i64 0) rfl
  have y2 := ef_cell H6.out.2.2 (j := 2) (v := .int .i64 0) rfl
  have y3 := ef_cell H6.out.2.2 (j := 3) (v := .int .i64 7) rfl
  have y4 := ef_cell H6.out.2.2 (j := 4) (v := .int .i64 0) rfl
  have y5 := ef_cell H6.out.2.2 (j := 5) (v := .int .i64 0) rfl
  have y6 := ef_cell H6.out.2.2 (j := 6) (v := .int .i64 0) rfl
  have y7 := ef_cell H6.out.2.2 (j := 7) (v := .int .i64 0) rfl
  have hq : ∀ W, (binOp .eql 36 (.agg #[.int .i64 24, .int .i64 0, .int .i64 0, .int .i64 7, .int .i64 0, .int .i64 0, .int .i64 0, .int .i64 0]) (.agg #[.int .i64 24, .int .i64 0, .int .i64 0, .int .i64 7, .int .i64 0, .int .i64 0, .int .i64 0, .int .i64 0])).run Tryd.prog W = .ok (.bool true) W := fun W => eqlE ⟨24, 0, 0, [7]⟩ W
  have hgq : ∀ x y W, (eqGuard .eql 36 x y (.agg #[.int .i64 24, .int .i64 0, .int .i64 0, .int .i64 7, .int .i64 0, .int .i64 0, .int .i64 0, .int .i64 0]) (.agg #[.int .i64 24, .int .i64 0, .int .i64 0, .int .i64 7, .int .i64 0, .int .i64 0, .int .i64 0, .int .i64 0])).run Tryd.prog W = .ok () W := fun x y W => guardE x y ⟨24, 0, 0, [7]⟩ W
  have HPu := Lib.hid (fun n W h1 h2 => HK.out.pure n W h1 h2)
  have HB6 := Lib.hid H6.out.1.1
  clear hF1 hF2 H6
  go_wp2_with fail
  refine (HPu.out 23 _ (HK.out.mono _ _ HO.out HB6.out) (by unfold I64; omega)).mono ?_
  rintro _ w7 ⟨rfl, hb7⟩
  have HB7 := Lib.hid (HB6.out.trans (hb7.mono HB6.out.size))
  clear hb7 a1 a2 a11 b2' e0 y0 y1 y2 y3 y4 y5 y6 y7
  have d1 : decide ((0 : Int) ≤ 23 ∧ (23 : Int) ≤ 23) = true := by decide
  rw [d1]
  go_wp2_with fail
  refine (HPu.out 24 _ (HK.out.mono _ _ HO.out HB7.out) (by unfold I64; omega)).mono ?_
  rintro _ w8 ⟨rfl, hb8⟩
  have HB8 := Lib.hid (HB7.out.trans (hb8.mono HB7.out.size))
  have d2 : decide ((0 : Int) ≤ 24 ∧ (24 : Int) ≤ 23) = false := by decide
  rw [d2]
  clear hb8
  go_wp2
  go_ret
  exact ⟨rfl, HB8.out⟩
end Go.Proofs.YtjbcmedljgafkaaDoor.pgm.exe
