/-
  Any calls on a barrier, and on the document's beside it: the walk over what is asked of the program's calls. No condition. Printed by tools/mkbarplays.py.
-/
import Derived.Test.YtiekbbknmneikaaBarAny
import Derived.LoopTactic
import Derived.Deep.DeepCutAuto
namespace Go.Proofs.Ytiekbbknmneikaa.bar
open Go.RowKit Go.ChangeShapes
open Go.Proofs.Ytiekbbknmneikaa.obj
open Go.Proofs.Ytiekbbknmneikaa.bits (Is64 hasB wth wout minus)
set_option linter.unusedVariables false
set_option linter.unusedSimpArgs false

theorem bx_built0 : Try.prog.built 29 [] = some (bxC bxZ).toArray := by kernel_rfl
theorem wbx_build0 {ops : Array Oper} {rest : List Oper} {o : Oper} {a : Act} {w : World} {Q : Exit → Act → World → Prop} (hgd : o.guard = none) (ho : o.op = .build 29 #[])
    (h : wpList Try.prog ops Q rest (a.put o.dst (bxV bxZ)) w) : wpList Try.prog ops Q (o :: rest) a w := by
  have e : ((#[] : Array (Nat × Operand)).map fun (i, x) => (i, a.eval x)).toList = [] := by simp
  refine wpList_build hgd _ _ ho (by rw [e, bx_built0]; rfl) ?_
  rw [e, bx_built0]
  exact h
section
variable {ops : Array Oper} {S : World → Prop} {o : Oper} {a : Act}
theorem yields_idx (hg : o.guard = none) (y z : Operand) (ho : o.op = .indexAddr 22 y z) (b i n c j : Nat) (hx : a.eval y = .slice (some ⟨b, i, none⟩) n c) (hz : a.eval z = .int .i64 (j : Int)) (k0 : (0 : Int) ≤ (j : Int)) (k1 : (j : Int) < (n : Int)) : YieldsIf Try.prog ops S o (.pointer (some ⟨b, i + j * 2, none⟩)) a :=
  .inl ⟨by simp [Region.wanted, hg], fun w' _ => by
    unfold execOp
    simp only [ho, hx, hz]
    go_simp⟩
theorem sizeOp {n : Nat} (h : n = 2) : (Try.prog.info? 35).map (·.size) = some n := by
  subst h
  kernel_rfl
theorem yields_op (hw : o.guard = none) (x : Operand) (ho : o.op = .load 35 x) (b i : Nat) (hx : a.eval x = .pointer (some ⟨b, i, none⟩)) (k t : Int) (hS : ∀ w, S w → w.cell? ⟨b, i, none⟩ = some (.int .i64 k) ∧ w.cell? ⟨b, i + 1, none⟩ = some (.int .i64 t)) : YieldsIf Try.prog ops S o (.agg #[.int .i64 k, .int .i64 t]) a :=
  yieldsIf_load_mid (by simp [Region.wanted, hw]) _ x ho b i hx [.int .i64 k, .int .i64 t] _ (fun w h j v hv => by
    obtain ⟨h0, h1⟩ := hS w h
    match j, hv with
    | 0, hv => obtain rfl := Option.some.inj hv; exact h0
    | 1, hv => obtain rfl := Option.some.inj hv; exact h1) Try.underlying35 rfl (sizeOp rfl)
end
/-- What holds while calls are made: the program's barrier, the document's in its box. -/
structure Pz (At : World → Nat → Bx → Prop) (w : World) (g gx : Nat) (m : Bx) (W : World) : Prop where
  hs : Hs At w g m W
  x : W.heap[gx]? = some (bxO m)
  far : w.heap.size ≤ gx
  ne : g ≠ gx
theorem Pz.next {At : World → Nat → Bx → Prop} (K : Keeps At) {w W W' : World} {g gx : Nat} {m : Bx} (h : Pz At w g gx m W) (hb : Below W.heap.size W W') : Pz At w g gx m W' :=
  ⟨hs_next K h.hs hb, (hb.block _ (lt_of_block h.x)).trans h.x, h.far, h.ne⟩
theorem Pz.row {At : World → Nat → Bx → Prop} (K : Keeps At) {w W : World} {g gx : Nat} {m : Bx} (h : Pz At w g gx m W) {k : Nat} (hk : w.heap.size ≤ k) (hg : k ≠ g) (hx : k ≠ gx) (rs : Array Value) : Pz At w g gx m (W.setRow k rs) :=
  ⟨⟨row_below h.hs.1 hk rs, h.hs.2.1, K.loc _ _ _ _ h.hs.2.2 (row_far rs (fun e => hg e.symm)) (row_size _ _ _)⟩, (row_far rs (Ne.symm hx)).trans h.x, h.far, h.ne⟩
theorem pz_new {At : World → Nat → Bx → Prop} (K : Keeps At) {w W : World} {g : Nat} {m : Bx} (h : Hs At w g m W) : Pz At w g W.heap.size m ((W.alloc (bxO bxZ)).setRow W.heap.size (bxC m).toArray) := by
  have hl := K.lt _ _ _ h.2.2
  have h2 := hs_next K h ((Below.refl _ W).alloc (Nat.le_refl _) (bxO bxZ))
  exact ⟨⟨row_below h2.1 h.1.size _, h2.2.1, K.loc _ _ _ _ h2.2.2 (row_far _ (by omega)) (row_size _ _ _)⟩, bx_turned (heap_alloc_new W (bxO bxZ)) m, h.1.size, by omega⟩
/-- And what was told, boxed. -/
def Qz (At : World → Nat → Bx → Prop) (w : World) (gx gt : Nat) (m : Bx) (y : Tx) (W : World) : Prop := Pz At w w.heap.size gx m W ∧ W.heap[gt]? = some (txO y)
theorem Qz.next {At : World → Nat → Bx → Prop} (K : Keeps At) {w W W' : World} {gx gt : Nat} {m : Bx} {y : Tx} (h : Qz At w gx gt m y W) (hb : Below W.heap.size W W') : Qz At w gx gt m y W' :=
  ⟨h.1.next K hb, (hb.block _ (lt_of_block h.2)).trans h.2⟩
set_option maxRecDepth 100000 in
set_option maxHeartbeats 8000000 in
theorem plays_walk {At : World → Nat → Bx → Prop} (K : Keeps At) (A : Option Addr) (cap : Nat) (ops : List (Int × Int)) (w : World) (ho : OpsAt w A ops) (hi : ∀ j, j < ops.length → I64 (ops.getD j (0, 0)).1 ∧ I64 (ops.getD j (0, 0)).2) (hl : ops.length ≤ 9223372036854775807) :
    Calls Try.prog 3 #[.slice A ops.length cap] w fun e w' => e = .returned (.bool true) ∧ Below w.heap.size w w' := by
  have HK := Lib.hid K
  have HO := Lib.hid ho
  have HI := Lib.hid hi
  have HL := fun W => Lib.hid (lives_any K W)
  have H1 : Hid (Hs At w w.heap.size bxZ (w.alloc zbB)) := Lib.hid ⟨(Below.refl _ w).alloc (Nat.le_refl _) _, Nat.le_refl _, K.new w⟩
  have hz1 : (w.alloc zbB).heap.size = w.heap.size + 1 := World.size_alloc _ _
  have hnew : ((w.alloc zbB).alloc (bxO bxZ)).heap[w.heap.size + 1]? = some (bxO bxZ) := by rw [← hz1]; exact heap_alloc_new _ _
  have hp2 := pz_new K H1.out
  rw [hz1] at hp2
  have HP2 := Lib.hid hp2
  clear K ho hi hp2 hz1
  go_enter Try.func3, Try.ntmps3
  go_upto_region 2 with (first | refine wq_build rfl rfl ?_ | refine wq_box rfl _ rfl rfl ?_ | refine wbx_build0 rfl rfl ?_ | refine wbx_alloc rfl rfl ?_ | refine wbx_store rfl _ _ rfl (w.heap.size + 1) bxZ bxZ rfl rfl hnew ?_)
  try simp only [Act.put, List.setIfInBounds_toArray, List.set_cons_zero, List.set_cons_succ]
  generalize ((w.alloc zbB).alloc (bxO bxZ)).setRow (w.heap.size + 1) (bxC bxZ).toArray = W2 at *
  generalize w.heap.size + 1 = gx at *
  clear H1 hnew
  have HG : Hid (∃ g, g = w.heap.size) := Lib.hid ⟨_, rfl⟩
  go_wp2_with fail
  go_loopw [5] (fun i wr => ∃ (j : Nat) (m : Bx), i = .int .i64 (j : Int) ∧ j ≤ ops.length ∧ j ≤ 100 ∧ Fine m ∧ Pz At w w.heap.size gx m wr) (fun i _ => ops.length - (intOf i).toNat)
  case atStart => exact ⟨0, bxZ, rfl, Nat.zero_le _, Nat.zero_le _, new_fine, HP2.out⟩
  case round =>
    obtain ⟨j, m, rfl, hj, hj80, hfm, hP⟩ := hrel
    clear HP2 HG
    by_cases hlt : j < ops.length ∧ j < 100
    · obtain ⟨hlt, h80⟩ := hlt
      have d1 : decide (j < ops.length) = true := by simp; omega
      have d2 : decide ((j : Int) < 100) = true := by simp; omega
      obtain ⟨b, off, rfl, hb, c0, c1⟩ := HO.out j hlt
      obtain ⟨i0, i1⟩ := HI.out j hlt
      generalize ops.getD j (0, 0) = o at *
      obtain ⟨k, t⟩ := o
      dsimp only at c0 c1 i0 i1
      have HCe : ∀ W, Below w.heap.size w W → W.cell? ⟨b, off + j * 2, none⟩ = some (.int .i64 k) ∧ W.cell? ⟨b, off + j * 2 + 1, none⟩ = some (.int .i64 t) := fun W h => ⟨(h.cell (p := ⟨b, off + j * 2, none⟩) hb).trans c0, (h.cell (p := ⟨b, off + j * 2 + 1, none⟩) hb).trans c1⟩
      have HRd := fun W => Lib.hid (refDo19_any m k t W hfm.1 hfm.2.1)
      unfold BxPost at HRd
      have HDo := fun W h => Lib.hid (do_any HK.out m w.heap.size k t W h hfm i1)
      unfold DoPost at HDo
      obtain ⟨q, hq⟩ : ∃ q, q = doB m k t := ⟨_, rfl⟩
      rw [← hq] at HRd HDo
      have hf' : Fine q.1 := by rw [hq]; exact do_fine hfm k t
      obtain ⟨m', y⟩ := q
      dsimp only at HRd HDo hf'
      have HF' := Lib.hid hf'
      have HP := Lib.hid hP
      have n0 : (0 : Int) ≤ (j : Int) := by omega
      have n1 : (j : Int) < (ops.length : Int) := by omega
      have HJ := Lib.hid (And.intro hlt h80)
      clear c0 c1 i0 i1 hb hq hf' hfm hP hj hj80 hlt h80
      go_upto_region 5 with fail
      try simp only [Act.put, List.setIfInBounds_toArray, List.set_cons_zero, List.set_cons_succ]
      go_cut [6, 7] (fun x z wx => ∃ gn gt, x = .pointer (some ⟨gn, 0, none⟩) ∧ z = .pointer (some ⟨gt, 0, none⟩) ∧ Hid (Pz At w w.heap.size gx m wx ∧ wx.heap[gn]? = some (bxO m') ∧ wx.heap[gt]? = some (txO y) ∧ gt ≠ gx ∧ gt ≠ w.heap.size))
      case first =>
        refine wp_hold_act (fun a0 HA0 => ?_)
        have z0 : a0.tmps.size = 61 := by rw [HA0.out]; rfl
        have dd0 : a0.defers = [] := by rw [HA0.out]
        have f0_0 : a0.eval (.tmp 0) = .slice (some ⟨b, off, none⟩) ops.length cap := by rw [HA0.out]; rfl
        have f0_4 : a0.eval (.tmp 4) = .pointer (some ⟨gx, 0, none⟩) := by rw [HA0.out]; rfl
        have f0_5 : a0.eval (.tmp 5) = .int .i64 (j : Int) := by rw [HA0.out]; rfl
        refine wp_region_held_drew (S := fun w' => Pz At w w.heap.size gx m w') (by kernel_rfl) (HP.out.next HK.out (Below.refl _ _).drew) (fun hS => ?_)
        refine wpAnyH_take (i := 0) (v := bxV m) rfl (by kernel_rfl) (by kernel_rfl) (by kernel_rfl) (fun _ _ _ h => h) (yields_bx rfl (.tmp 4) rfl _ f0_4 m (fun _ h => h.x)) hS ?_
        obtain ⟨a1, hA1⟩ : ∃ a', a' = a0.put (some 22) (bxV m) := ⟨_, rfl⟩
        change wpAnyH _ _ _ _ _ _ _ (a0.put (some 22) (bxV m)) _
        rw [← hA1]
        have f1_22 : a1.eval (.tmp 22) = bxV m := by rw [hA1]; exact Act.eval_put_same _ _ _ (by omega)
        have f1_0 : a1.eval (.tmp 0) = .slice (some ⟨b, off, none⟩) ops.length cap := by rw [hA1]; exact (Act.eval_put_ne _ _ _ _ (by decide)).trans f0_0
        have f1_5 : a1.eval (.tmp 5) = .int .i64 (j : Int) := by rw [hA1]; exact (Act.eval_put_ne _ _ _ _ (by decide)).trans f0_5
        have z1 : a1.tmps.size = 61 := by rw [hA1, Act.size_put]; exact z0
        have dd1 : a1.defers = [] := by rw [hA1, Act.defers_put']; exact dd0
        have HA1 := Lib.hid hA1
        clear hA1 z0 dd0 f0_0 f0_4 f0_5
        refine wpAnyH_take (i := 1) (v := .slice (some ⟨b, off, none⟩) ops.length cap) rfl (by kernel_rfl) (by kernel_rfl) (by kernel_rfl) (fun _ _ _ h => h) (yields_move rfl (.tmp 0) rfl f1_0) hS ?_
        obtain ⟨a2, hA2⟩ : ∃ a', a' = a1.put (some 23) (.slice (some ⟨b, off, none⟩) ops.length cap) := ⟨_, rfl⟩
        change wpAnyH _ _ _ _ _ _ _ (a1.put (some 23) (.slice (some ⟨b, off, none⟩) ops.length cap)) _
        rw [← hA2]
        have f2_23 : a2.eval (.tmp 23) = .slice (some ⟨b, off, none⟩) ops.length cap := by rw [hA2]; exact Act.eval_put_same _ _ _ (by omega)
        have f2_22 : a2.eval (.tmp 22) = bxV m := by rw [hA2]; exact (Act.eval_put_ne _ _ _ _ (by decide)).trans f1_22
        have f2_5 : a2.eval (.tmp 5) = .int .i64 (j : Int) := by rw [hA2]; exact (Act.eval_put_ne _ _ _ _ (by decide)).trans f1_5
        have z2 : a2.tmps.size = 61 := by rw [hA2, Act.size_put]; exact z1
        have dd2 : a2.defers = [] := by rw [hA2, Act.defers_put']; exact dd1
        have HA2 := Lib.hid hA2
        clear hA2 z1 dd1 f1_22 f1_0 f1_5
        refine wpAnyH_take (i := 2) (v := .int .i64 (j : Int)) rfl (by kernel_rfl) (by kernel_rfl) (by kernel_rfl) (fun _ _ _ h => h) (yields_move rfl (.tmp 5) rfl f2_5) hS ?_
        obtain ⟨a3, hA3⟩ : ∃ a', a' = a2.put (some 24) (.int .i64 (j : Int)) := ⟨_, rfl⟩
        change wpAnyH _ _ _ _ _ _ _ (a2.put (some 24) (.int .i64 (j : Int))) _
        rw [← hA3]
        have f3_24 : a3.eval (.tmp 24) = .int .i64 (j : Int) := by rw [hA3]; exact Act.eval_put_same _ _ _ (by omega)
        have f3_23 : a3.eval (.tmp 23) = .slice (some ⟨b, off, none⟩) ops.length cap := by rw [hA3]; exact (Act.eval_put_ne _ _ _ _ (by decide)).trans f2_23
        have f3_22 : a3.eval (.tmp 22) = bxV m := by rw [hA3]; exact (Act.eval_put_ne _ _ _ _ (by decide)).trans f2_22
        have z3 : a3.tmps.size = 61 := by rw [hA3, Act.size_put]; exact z2
        have dd3 : a3.defers = [] := by rw [hA3, Act.defers_put']; exact dd2
        have HA3 := Lib.hid hA3
        clear hA3 z2 dd2 f2_23 f2_22 f2_5
        refine wpAnyH_take (i := 3) (v := .pointer (some ⟨b, off + j * 2, none⟩)) rfl (by kernel_rfl) (by kernel_rfl) (by kernel_rfl) (fun _ _ _ h => h) (yields_idx rfl (.tmp 23) (.tmp 24) rfl _ _ _ _ j f3_23 f3_24 n0 n1) hS ?_
        obtain ⟨a4, hA4⟩ : ∃ a', a' = a3.put (some 25) (.pointer (some ⟨b, off + j * 2, none⟩)) := ⟨_, rfl⟩
        change wpAnyH _ _ _ _ _ _ _ (a3.put (some 25) (.pointer (some ⟨b, off + j * 2, none⟩))) _
        rw [← hA4]
        have f4_25 : a4.eval (.tmp 25) = .pointer (some ⟨b, off + j * 2, none⟩) := by rw [hA4]; exact Act.eval_put_same _ _ _ (by omega)
        have f4_22 : a4.eval (.tmp 22) = bxV m := by rw [hA4]; exact (Act.eval_put_ne _ _ _ _ (by decide)).trans f3_22
        have z4 : a4.tmps.size = 61 := by rw [hA4, Act.size_put]; exact z3
        have dd4 : a4.defers = [] := by rw [hA4, Act.defers_put']; exact dd3
        have HA4 := Lib.hid hA4
        clear hA4 z3 dd3 f3_24 f3_23 f3_22
        refine wpAnyH_take (i := 4) (v := .agg #[.int .i64 k, .int .i64 t]) rfl (by kernel_rfl) (by kernel_rfl) (by kernel_rfl) (fun _ _ _ h => h) (yields_op rfl (.tmp 25) rfl _ _ f4_25 k t (fun _ h => HCe _ h.hs.1)) hS ?_
        obtain ⟨a5, hA5⟩ : ∃ a', a' = a4.put (some 26) (.agg #[.int .i64 k, .int .i64 t]) := ⟨_, rfl⟩
        change wpAnyH _ _ _ _ _ _ _ (a4.put (some 26) (.agg #[.int .i64 k, .int .i64 t])) _
        rw [← hA5]
        have f5_26 : a5.eval (.tmp 26) = .agg #[.int .i64 k, .int .i64 t] := by rw [hA5]; exact Act.eval_put_same _ _ _ (by omega)
        have f5_22 : a5.eval (.tmp 22) = bxV m := by rw [hA5]; exact (Act.eval_put_ne _ _ _ _ (by decide)).trans f4_22
        have z5 : a5.tmps.size = 61 := by rw [hA5, Act.size_put]; exact z4
        have dd5 : a5.defers = [] := by rw [hA5, Act.defers_put']; exact dd4
        have HA5 := Lib.hid hA5
        clear hA5 z4 dd4 f4_25 f4_22
        refine wpAnyH_ready (rs := [5, 9, 10]) (by kernel_rfl) (by simp) (AllReadyH.cons (by simp only [List.getElem?_toArray, List.getElem?_cons_succ, List.getElem?_cons_zero]; rfl) (fun K hK => ?_) (AllReadyH.cons (by simp only [List.getElem?_toArray, List.getElem?_cons_succ, List.getElem?_cons_zero]; rfl) (fun K hK => ?_) (AllReadyH.cons (by simp only [List.getElem?_toArray, List.getElem?_cons_succ, List.getElem?_cons_zero]; rfl) (fun K hK => ?_) AllReadyH.nil)))
        · skip
          refine step_call (by rfl) 7 #[.tmp 22, .tmp 26] #[29, 35] (by rfl) #[bxV m, .agg #[.int .i64 k, .int .i64 t]] (by simp only [List.map_toArray, List.map_cons, List.map_nil, f5_22, f5_26]) Try.func7 (by kernel_rfl) rfl (HRd wr.drew).out (fun e' V1 hR => ?_)
          obtain ⟨rfl, hb2⟩ := hR
          refine ⟨_, rfl, hK.out _ _ (hS.next HK.out hb2) (fun hS => ?_)⟩
          obtain ⟨a6, hA6⟩ : ∃ a', a' = a5.put (some 27) (.tuple #[bxV m', txV y]) := ⟨_, rfl⟩
          change wpAnyH _ _ _ _ _ _ _ (a5.put (some 27) (.tuple #[bxV m', txV y])) _
          rw [← hA6]
          have f6_27 : a6.eval (.tmp 27) = .tuple #[bxV m', txV y] := by rw [hA6]; exact Act.eval_put_same _ _ _ (by omega)
          have z6 : a6.tmps.size = 61 := by rw [hA6, Act.size_put]; exact z5
          have dd6 : a6.defers = [] := by rw [hA6, Act.defers_put']; exact dd5
          have HA6 := Lib.hid hA6
          clear hA6 z5 dd5 f5_26 f5_22
          refine wpAnyH_take (i := 6) (v := .tuple #[bxV m', txV y]) rfl (by kernel_rfl) (by kernel_rfl) (by kernel_rfl) (fun _ _ _ h => h) (yields_move rfl (.tmp 27) rfl f6_27) hS ?_
          obtain ⟨a7, hA7⟩ : ∃ a', a' = a6.put (some 21) (.tuple #[bxV m', txV y]) := ⟨_, rfl⟩
          change wpAnyH _ _ _ _ _ _ _ (a6.put (some 21) (.tuple #[bxV m', txV y])) _
          rw [← hA7]
          have f7_21 : a7.eval (.tmp 21) = .tuple #[bxV m', txV y] := by rw [hA7]; exact Act.eval_put_same _ _ _ (by omega)
          have z7 : a7.tmps.size = 61 := by rw [hA7, Act.size_put]; exact z6
          have dd7 : a7.defers = [] := by rw [hA7, Act.defers_put']; exact dd6
          have HA7 := Lib.hid hA7
          clear hA7 z6 dd6 f6_27
          refine wpAnyH_take (i := 7) (v := bxV m') rfl (by kernel_rfl) (by kernel_rfl) (by kernel_rfl) (fun _ _ _ h => h) (yields_part rfl (.tmp 21) 0 rfl _ _ f7_21 rfl) hS ?_
          obtain ⟨a8, hA8⟩ : ∃ a', a' = a7.put (some 28) (bxV m') := ⟨_, rfl⟩
          change wpAnyH _ _ _ _ _ _ _ (a7.put (some 28) (bxV m')) _
          rw [← hA8]
          have f8_28 : a8.eval (.tmp 28) = bxV m' := by rw [hA8]; exact Act.eval_put_same _ _ _ (by omega)
          have f8_21 : a8.eval (.tmp 21) = .tuple #[bxV m', txV y] := by rw [hA8]; exact (Act.eval_put_ne _ _ _ _ (by decide)).trans f7_21
          have z8 : a8.tmps.size = 61 := by rw [hA8, Act.size_put]; exact z7
          have dd8 : a8.defers = [] := by rw [hA8, Act.defers_put']; exact dd7
          have HA8 := Lib.hid hA8
          clear hA8 z7 dd7 f7_21
          refine wpAnyH_take (i := 8) (v := txV y) rfl (by kernel_rfl) (by kernel_rfl) (by kernel_rfl) (fun _ _ _ h => h) (yields_part rfl (.tmp 21) 1 rfl _ _ f8_21 rfl) hS ?_
          obtain ⟨a9, hA9⟩ : ∃ a', a' = a8.put (some 29) (txV y) := ⟨_, rfl⟩
          change wpAnyH _ _ _ _ _ _ _ (a8.put (some 29) (txV y)) _
          rw [← hA9]
          have f9_29 : a9.eval (.tmp 29) = txV y := by rw [hA9]; exact Act.eval_put_same _ _ _ (by omega)
          have f9_28 : a9.eval (.tmp 28) = bxV m' := by rw [hA9]; exact (Act.eval_put_ne _ _ _ _ (by decide)).trans f8_28
          have z9 : a9.tmps.size = 61 := by rw [hA9, Act.size_put]; exact z8
          have dd9 : a9.defers = [] := by rw [hA9, Act.defers_put']; exact dd8
          have HA9 := Lib.hid hA9
          clear hA9 z8 dd8 f8_28 f8_21
          refine wpAnyH_ready (rs := [9, 10]) (by kernel_rfl) (by simp) (AllReadyH.cons (by simp only [List.getElem?_toArray, List.getElem?_cons_succ, List.getElem?_cons_zero]; rfl) (fun K hK => ?_) (AllReadyH.cons (by simp only [List.getElem?_toArray, List.getElem?_cons_succ, List.getElem?_cons_zero]; rfl) (fun K hK => ?_) AllReadyH.nil))
          · skip
            refine sbx_alloc (by rfl) (by rfl) ?_
            have hgb := heap_alloc_new V1 (bxO bxZ)
            have hfb : w.heap.size ≤ V1.heap.size ∧ V1.heap.size ≠ gx ∧ V1.heap.size ≠ w.heap.size := by have h1 := lt_of_block hS.x; have h2 := hS.hs.1.size; have h3 := HK.out.lt _ _ _ hS.hs.2.2; omega
            refine hK.out _ _ (hS.next HK.out ((Below.refl _ _).alloc (Nat.le_refl _) _)) (fun hS => ?_)
            obtain ⟨a10, hA10⟩ : ∃ a', a' = a9.put (some 6) (.pointer (some ⟨V1.heap.size, 0, none⟩)) := ⟨_, rfl⟩
            change wpAnyH _ _ _ _ _ _ _ (a9.put (some 6) (.pointer (some ⟨V1.heap.size, 0, none⟩))) _
            rw [← hA10]
            have f10_6 : a10.eval (.tmp 6) = .pointer (some ⟨V1.heap.size, 0, none⟩) := by rw [hA10]; exact Act.eval_put_same _ _ _ (by omega)
            have f10_29 : a10.eval (.tmp 29) = txV y := by rw [hA10]; exact (Act.eval_put_ne _ _ _ _ (by decide)).trans f9_29
            have f10_28 : a10.eval (.tmp 28) = bxV m' := by rw [hA10]; exact (Act.eval_put_ne _ _ _ _ (by decide)).trans f9_28
            have z10 : a10.tmps.size = 61 := by rw [hA10, Act.size_put]; exact z9
            have dd10 : a10.defers = [] := by rw [hA10, Act.defers_put']; exact dd9
            have HA10 := Lib.hid hA10
            clear hA10 z9 dd9 f9_29 f9_28
            refine wpAnyH_ready (rs := [10]) (by kernel_rfl) (by simp) (AllReadyH.cons (by simp only [List.getElem?_toArray, List.getElem?_cons_succ, List.getElem?_cons_zero]; rfl) (fun K hK => ?_) AllReadyH.nil)
            refine stx_alloc (by rfl) (by rfl) ?_
            have hne : V1.heap.size ≠ (V1.alloc (bxO bxZ)).heap.size := by have := lt_of_block hgb; omega
            replace hgb := (Below.heap_alloc (V1.alloc (bxO bxZ)) (txO txZ) _ (lt_of_block hgb)).trans hgb
            have hgt := heap_alloc_new (V1.alloc (bxO bxZ)) (txO txZ)
            have hft : w.heap.size ≤ (V1.alloc (bxO bxZ)).heap.size ∧ (V1.alloc (bxO bxZ)).heap.size ≠ gx ∧ (V1.alloc (bxO bxZ)).heap.size ≠ w.heap.size := by have h1 := lt_of_block hS.x; have h2 := hS.hs.1.size; have h3 := HK.out.lt _ _ _ hS.hs.2.2; omega
            refine hK.out _ _ (hS.next HK.out ((Below.refl _ _).alloc (Nat.le_refl _) _)) (fun hS => ?_)
            obtain ⟨a11, hA11⟩ : ∃ a', a' = a10.put (some 7) (.pointer (some ⟨(V1.alloc (bxO bxZ)).heap.size, 0, none⟩)) := ⟨_, rfl⟩
            change wpAnyH _ _ _ _ _ _ _ (a10.put (some 7) (.pointer (some ⟨(V1.alloc (bxO bxZ)).heap.size, 0, none⟩))) _
            rw [← hA11]
            have f11_7 : a11.eval (.tmp 7) = .pointer (some ⟨(V1.alloc (bxO bxZ)).heap.size, 0, none⟩) := by rw [hA11]; exact Act.eval_put_same _ _ _ (by omega)
            have f11_6 : a11.eval (.tmp 6) = .pointer (some ⟨V1.heap.size, 0, none⟩) := by rw [hA11]; exact (Act.eval_put_ne _ _ _ _ (by decide)).trans f10_6
            have f11_29 : a11.eval (.tmp 29) = txV y := by rw [hA11]; exact (Act.eval_put_ne _ _ _ _ (by decide)).trans f10_29
            have f11_28 : a11.eval (.tmp 28) = bxV m' := by rw [hA11]; exact (Act.eval_put_ne _ _ _ _ (by decide)).trans f10_28
            have z11 : a11.tmps.size = 61 := by rw [hA11, Act.size_put]; exact z10
            have dd11 : a11.defers = [] := by rw [hA11, Act.defers_put']; exact dd10
            have HA11 := Lib.hid hA11
            clear hA11 z10 dd10 f10_6 f10_29 f10_28
            refine wpAnyH_ready (rs := [11]) (by kernel_rfl) (by simp) (AllReadyH.cons (by simp only [List.getElem?_toArray, List.getElem?_cons_succ, List.getElem?_cons_zero]; rfl) (fun K hK => ?_) AllReadyH.nil)
            refine sbx_store (by rfl) (.tmp 6) (.tmp 28) (by rfl) V1.heap.size bxZ m' f11_6 f11_28 hgb ?_
            have hgb2 := bx_turned hgb m'
            have hgt2 := (row_far (bxC m').toArray (Ne.symm hne)).trans hgt
            refine hK.out _ _ (hS.row HK.out hfb.1 hfb.2.2 hfb.2.1 _) (fun hS => ?_)
            change wpAnyH _ _ _ _ _ _ _ a11 _
            refine wpAnyH_ready (rs := [12]) (by kernel_rfl) (by simp) (AllReadyH.cons (by simp only [List.getElem?_toArray, List.getElem?_cons_succ, List.getElem?_cons_zero]; rfl) (fun K hK => ?_) AllReadyH.nil)
            refine stx_store (by rfl) (.tmp 7) (.tmp 29) (by rfl) (V1.alloc (bxO bxZ)).heap.size txZ y f11_7 f11_29 hgt2 ?_
            have hgt3 := tx_turned hgt2 y
            have hgb3 := (row_far (txC y).toArray hne).trans hgb2
            refine hK.out _ _ (hS.row HK.out hft.1 hft.2.2 hft.2.1 _) (fun hS => ?_)
            change wpAnyH _ _ _ _ _ _ _ a11 _
            refine wpAnyH_done (by kernel_rfl) ?_ _
            have HE := Lib.hid (And.intro hS (And.intro hgb3 (And.intro hgt3 hft.2)))
            clear hS hgb hgb2 hgb3 hgt hgt2 hgt3 hfb hft hne hK
            rw [HA11.out]
            rw [HA10.out]
            rw [HA9.out]
            rw [HA8.out]
            rw [HA7.out]
            rw [HA6.out]
            rw [HA5.out]
            rw [HA4.out]
            rw [HA3.out]
            rw [HA2.out]
            rw [HA1.out]
            rw [HA0.out]
            simp only [Act.put, List.setIfInBounds_toArray, List.set_cons_zero, List.set_cons_succ]
            go_wp2_with fail
            go_meet
            exact ⟨_, _, rfl, rfl, HE⟩
          · skip
            refine stx_alloc (by rfl) (by rfl) ?_
            have hgt := heap_alloc_new V1 (txO txZ)
            have hft : w.heap.size ≤ V1.heap.size ∧ V1.heap.size ≠ gx ∧ V1.heap.size ≠ w.heap.size := by have h1 := lt_of_block hS.x; have h2 := hS.hs.1.size; have h3 := HK.out.lt _ _ _ hS.hs.2.2; omega
            refine hK.out _ _ (hS.next HK.out ((Below.refl _ _).alloc (Nat.le_refl _) _)) (fun hS => ?_)
            obtain ⟨a10, hA10⟩ : ∃ a', a' = a9.put (some 7) (.pointer (some ⟨V1.heap.size, 0, none⟩)) := ⟨_, rfl⟩
            change wpAnyH _ _ _ _ _ _ _ (a9.put (some 7) (.pointer (some ⟨V1.heap.size, 0, none⟩))) _
            rw [← hA10]
            have f10_7 : a10.eval (.tmp 7) = .pointer (some ⟨V1.heap.size, 0, none⟩) := by rw [hA10]; exact Act.eval_put_same _ _ _ (by omega)
            have f10_29 : a10.eval (.tmp 29) = txV y := by rw [hA10]; exact (Act.eval_put_ne _ _ _ _ (by decide)).trans f9_29
            have f10_28 : a10.eval (.tmp 28) = bxV m' := by rw [hA10]; exact (Act.eval_put_ne _ _ _ _ (by decide)).trans f9_28
            have z10 : a10.tmps.size = 61 := by rw [hA10, Act.size_put]; exact z9
            have dd10 : a10.defers = [] := by rw [hA10, Act.defers_put']; exact dd9
            have HA10 := Lib.hid hA10
            clear hA10 z9 dd9 f9_29 f9_28
            refine wpAnyH_ready (rs := [9]) (by kernel_rfl) (by simp) (AllReadyH.cons (by simp only [List.getElem?_toArray, List.getElem?_cons_succ, List.getElem?_cons_zero]; rfl) (fun K hK => ?_) AllReadyH.nil)
            refine sbx_alloc (by rfl) (by rfl) ?_
            have hne : (V1.alloc (txO txZ)).heap.size ≠ V1.heap.size := by have := lt_of_block hgt; omega
            replace hgt := (Below.heap_alloc (V1.alloc (txO txZ)) (bxO bxZ) _ (lt_of_block hgt)).trans hgt
            have hgb := heap_alloc_new (V1.alloc (txO txZ)) (bxO bxZ)
            have hfb : w.heap.size ≤ (V1.alloc (txO txZ)).heap.size ∧ (V1.alloc (txO txZ)).heap.size ≠ gx ∧ (V1.alloc (txO txZ)).heap.size ≠ w.heap.size := by have h1 := lt_of_block hS.x; have h2 := hS.hs.1.size; have h3 := HK.out.lt _ _ _ hS.hs.2.2; omega
            refine hK.out _ _ (hS.next HK.out ((Below.refl _ _).alloc (Nat.le_refl _) _)) (fun hS => ?_)
            obtain ⟨a11, hA11⟩ : ∃ a', a' = a10.put (some 6) (.pointer (some ⟨(V1.alloc (txO txZ)).heap.size, 0, none⟩)) := ⟨_, rfl⟩
            change wpAnyH _ _ _ _ _ _ _ (a10.put (some 6) (.pointer (some ⟨(V1.alloc (txO txZ)).heap.size, 0, none⟩))) _
            rw [← hA11]
            have f11_6 : a11.eval (.tmp 6) = .pointer (some ⟨(V1.alloc (txO txZ)).heap.size, 0, none⟩) := by rw [hA11]; exact Act.eval_put_same _ _ _ (by omega)
            have f11_7 : a11.eval (.tmp 7) = .pointer (some ⟨V1.heap.size, 0, none⟩) := by rw [hA11]; exact (Act.eval_put_ne _ _ _ _ (by decide)).trans f10_7
            have f11_29 : a11.eval (.tmp 29) = txV y := by rw [hA11]; exact (Act.eval_put_ne _ _ _ _ (by decide)).trans f10_29
            have f11_28 : a11.eval (.tmp 28) = bxV m' := by rw [hA11]; exact (Act.eval_put_ne _ _ _ _ (by decide)).trans f10_28
            have z11 : a11.tmps.size = 61 := by rw [hA11, Act.size_put]; exact z10
            have dd11 : a11.defers = [] := by rw [hA11, Act.defers_put']; exact dd10
            have HA11 := Lib.hid hA11
            clear hA11 z10 dd10 f10_7 f10_29 f10_28
            refine wpAnyH_ready (rs := [11]) (by kernel_rfl) (by simp) (AllReadyH.cons (by simp only [List.getElem?_toArray, List.getElem?_cons_succ, List.getElem?_cons_zero]; rfl) (fun K hK => ?_) AllReadyH.nil)
            refine sbx_store (by rfl) (.tmp 6) (.tmp 28) (by rfl) (V1.alloc (txO txZ)).heap.size bxZ m' f11_6 f11_28 hgb ?_
            have hgb2 := bx_turned hgb m'
            have hgt2 := (row_far (bxC m').toArray (Ne.symm hne)).trans hgt
            refine hK.out _ _ (hS.row HK.out hfb.1 hfb.2.2 hfb.2.1 _) (fun hS => ?_)
            change wpAnyH _ _ _ _ _ _ _ a11 _
            refine wpAnyH_ready (rs := [12]) (by kernel_rfl) (by simp) (AllReadyH.cons (by simp only [List.getElem?_toArray, List.getElem?_cons_succ, List.getElem?_cons_zero]; rfl) (fun K hK => ?_) AllReadyH.nil)
            refine stx_store (by rfl) (.tmp 7) (.tmp 29) (by rfl) V1.heap.size txZ y f11_7 f11_29 hgt2 ?_
            have hgt3 := tx_turned hgt2 y
            have hgb3 := (row_far (txC y).toArray hne).trans hgb2
            refine hK.out _ _ (hS.row HK.out hft.1 hft.2.2 hft.2.1 _) (fun hS => ?_)
            change wpAnyH _ _ _ _ _ _ _ a11 _
            refine wpAnyH_done (by kernel_rfl) ?_ _
            have HE := Lib.hid (And.intro hS (And.intro hgb3 (And.intro hgt3 hft.2)))
            clear hS hgb hgb2 hgb3 hgt hgt2 hgt3 hfb hft hne hK
            rw [HA11.out]
            rw [HA10.out]
            rw [HA9.out]
            rw [HA8.out]
            rw [HA7.out]
            rw [HA6.out]
            rw [HA5.out]
            rw [HA4.out]
            rw [HA3.out]
            rw [HA2.out]
            rw [HA1.out]
            rw [HA0.out]
            simp only [Act.put, List.setIfInBounds_toArray, List.set_cons_zero, List.set_cons_succ]
            go_wp2_with fail
            go_meet
            exact ⟨_, _, rfl, rfl, HE⟩
        · skip
          refine sbx_alloc (by rfl) (by rfl) ?_
          have hgb := heap_alloc_new wr.drew (bxO bxZ)
          have hfb : w.heap.size ≤ wr.drew.heap.size ∧ wr.drew.heap.size ≠ gx ∧ wr.drew.heap.size ≠ w.heap.size := by have h1 := lt_of_block hS.x; have h2 := hS.hs.1.size; have h3 := HK.out.lt _ _ _ hS.hs.2.2; omega
          refine hK.out _ _ (hS.next HK.out ((Below.refl _ _).alloc (Nat.le_refl _) _)) (fun hS => ?_)
          obtain ⟨a6, hA6⟩ : ∃ a', a' = a5.put (some 6) (.pointer (some ⟨wr.drew.heap.size, 0, none⟩)) := ⟨_, rfl⟩
          change wpAnyH _ _ _ _ _ _ _ (a5.put (some 6) (.pointer (some ⟨wr.drew.heap.size, 0, none⟩))) _
          rw [← hA6]
          have f6_6 : a6.eval (.tmp 6) = .pointer (some ⟨wr.drew.heap.size, 0, none⟩) := by rw [hA6]; exact Act.eval_put_same _ _ _ (by omega)
          have f6_26 : a6.eval (.tmp 26) = .agg #[.int .i64 k, .int .i64 t] := by rw [hA6]; exact (Act.eval_put_ne _ _ _ _ (by decide)).trans f5_26
          have f6_22 : a6.eval (.tmp 22) = bxV m := by rw [hA6]; exact (Act.eval_put_ne _ _ _ _ (by decide)).trans f5_22
          have z6 : a6.tmps.size = 61 := by rw [hA6, Act.size_put]; exact z5
          have dd6 : a6.defers = [] := by rw [hA6, Act.defers_put']; exact dd5
          have HA6 := Lib.hid hA6
          clear hA6 z5 dd5 f5_26 f5_22
          refine wpAnyH_ready (rs := [5, 10]) (by kernel_rfl) (by simp) (AllReadyH.cons (by simp only [List.getElem?_toArray, List.getElem?_cons_succ, List.getElem?_cons_zero]; rfl) (fun K hK => ?_) (AllReadyH.cons (by simp only [List.getElem?_toArray, List.getElem?_cons_succ, List.getElem?_cons_zero]; rfl) (fun K hK => ?_) AllReadyH.nil))
          · skip
            refine step_call (by rfl) 7 #[.tmp 22, .tmp 26] #[29, 35] (by rfl) #[bxV m, .agg #[.int .i64 k, .int .i64 t]] (by simp only [List.map_toArray, List.map_cons, List.map_nil, f6_22, f6_26]) Try.func7 (by kernel_rfl) rfl (HRd (wr.drew.alloc (bxO bxZ))).out (fun e' V1 hR => ?_)
            obtain ⟨rfl, hb2⟩ := hR
            refine ⟨_, rfl, hK.out _ _ (hS.next HK.out hb2) (fun hS => ?_)⟩
            obtain ⟨a7, hA7⟩ : ∃ a', a' = a6.put (some 27) (.tuple #[bxV m', txV y]) := ⟨_, rfl⟩
            change wpAnyH _ _ _ _ _ _ _ (a6.put (some 27) (.tuple #[bxV m', txV y])) _
            rw [← hA7]
            have f7_27 : a7.eval (.tmp 27) = .tuple #[bxV m', txV y] := by rw [hA7]; exact Act.eval_put_same _ _ _ (by omega)
            have f7_6 : a7.eval (.tmp 6) = .pointer (some ⟨wr.drew.heap.size, 0, none⟩) := by rw [hA7]; exact (Act.eval_put_ne _ _ _ _ (by decide)).trans f6_6
            have z7 : a7.tmps.size = 61 := by rw [hA7, Act.size_put]; exact z6
            have dd7 : a7.defers = [] := by rw [hA7, Act.defers_put']; exact dd6
            have HA7 := Lib.hid hA7
            clear hA7 z6 dd6 f6_6 f6_26 f6_22
            replace hgb := (hb2.block _ (lt_of_block hgb)).trans hgb
            refine wpAnyH_take (i := 6) (v := .tuple #[bxV m', txV y]) rfl (by kernel_rfl) (by kernel_rfl) (by kernel_rfl) (fun _ _ _ h => h) (yields_move rfl (.tmp 27) rfl f7_27) hS ?_
            obtain ⟨a8, hA8⟩ : ∃ a', a' = a7.put (some 21) (.tuple #[bxV m', txV y]) := ⟨_, rfl⟩
            change wpAnyH _ _ _ _ _ _ _ (a7.put (some 21) (.tuple #[bxV m', txV y])) _
            rw [← hA8]
            have f8_21 : a8.eval (.tmp 21) = .tuple #[bxV m', txV y] := by rw [hA8]; exact Act.eval_put_same _ _ _ (by omega)
            have f8_6 : a8.eval (.tmp 6) = .pointer (some ⟨wr.drew.heap.size, 0, none⟩) := by rw [hA8]; exact (Act.eval_put_ne _ _ _ _ (by decide)).trans f7_6
            have z8 : a8.tmps.size = 61 := by rw [hA8, Act.size_put]; exact z7
            have dd8 : a8.defers = [] := by rw [hA8, Act.defers_put']; exact dd7
            have HA8 := Lib.hid hA8
            clear hA8 z7 dd7 f7_27 f7_6
            refine wpAnyH_take (i := 7) (v := bxV m') rfl (by kernel_rfl) (by kernel_rfl) (by kernel_rfl) (fun _ _ _ h => h) (yields_part rfl (.tmp 21) 0 rfl _ _ f8_21 rfl) hS ?_
            obtain ⟨a9, hA9⟩ : ∃ a', a' = a8.put (some 28) (bxV m') := ⟨_, rfl⟩
            change wpAnyH _ _ _ _ _ _ _ (a8.put (some 28) (bxV m')) _
            rw [← hA9]
            have f9_28 : a9.eval (.tmp 28) = bxV m' := by rw [hA9]; exact Act.eval_put_same _ _ _ (by omega)
            have f9_21 : a9.eval (.tmp 21) = .tuple #[bxV m', txV y] := by rw [hA9]; exact (Act.eval_put_ne _ _ _ _ (by decide)).trans f8_21
            have f9_6 : a9.eval (.tmp 6) = .pointer (some ⟨wr.drew.heap.size, 0, none⟩) := by rw [hA9]; exact (Act.eval_put_ne _ _ _ _ (by decide)).trans f8_6
            have z9 : a9.tmps.size = 61 := by rw [hA9, Act.size_put]; exact z8
            have dd9 : a9.defers = [] := by rw [hA9, Act.defers_put']; exact dd8
            have HA9 := Lib.hid hA9
            clear hA9 z8 dd8 f8_21 f8_6
            refine wpAnyH_take (i := 8) (v := txV y) rfl (by kernel_rfl) (by kernel_rfl) (by kernel_rfl) (fun _ _ _ h => h) (yields_part rfl (.tmp 21) 1 rfl _ _ f9_21 rfl) hS ?_
            obtain ⟨a10, hA10⟩ : ∃ a', a' = a9.put (some 29) (txV y) := ⟨_, rfl⟩
            change wpAnyH _ _ _ _ _ _ _ (a9.put (some 29) (txV y)) _
            rw [← hA10]
            have f10_29 : a10.eval (.tmp 29) = txV y := by rw [hA10]; exact Act.eval_put_same _ _ _ (by omega)
            have f10_28 : a10.eval (.tmp 28) = bxV m' := by rw [hA10]; exact (Act.eval_put_ne _ _ _ _ (by decide)).trans f9_28
            have f10_6 : a10.eval (.tmp 6) = .pointer (some ⟨wr.drew.heap.size, 0, none⟩) := by rw [hA10]; exact (Act.eval_put_ne _ _ _ _ (by decide)).trans f9_6
            have z10 : a10.tmps.size = 61 := by rw [hA10, Act.size_put]; exact z9
            have dd10 : a10.defers = [] := by rw [hA10, Act.defers_put']; exact dd9
            have HA10 := Lib.hid hA10
            clear hA10 z9 dd9 f9_28 f9_21 f9_6
            refine wpAnyH_ready (rs := [10]) (by kernel_rfl) (by simp) (AllReadyH.cons (by simp only [List.getElem?_toArray, List.getElem?_cons_succ, List.getElem?_cons_zero]; rfl) (fun K hK => ?_) AllReadyH.nil)
            refine stx_alloc (by rfl) (by rfl) ?_
            have hne : wr.drew.heap.size ≠ V1.heap.size := by have := lt_of_block hgb; omega
            replace hgb := (Below.heap_alloc V1 (txO txZ) _ (lt_of_block hgb)).trans hgb
            have hgt := heap_alloc_new V1 (txO txZ)
            have hft : w.heap.size ≤ V1.heap.size ∧ V1.heap.size ≠ gx ∧ V1.heap.size ≠ w.heap.size := by have h1 := lt_of_block hS.x; have h2 := hS.hs.1.size; have h3 := HK.out.lt _ _ _ hS.hs.2.2; omega
            refine hK.out _ _ (hS.next HK.out ((Below.refl _ _).alloc (Nat.le_refl _) _)) (fun hS => ?_)
            obtain ⟨a11, hA11⟩ : ∃ a', a' = a10.put (some 7) (.pointer (some ⟨V1.heap.size, 0, none⟩)) := ⟨_, rfl⟩
            change wpAnyH _ _ _ _ _ _ _ (a10.put (some 7) (.pointer (some ⟨V1.heap.size, 0, none⟩))) _
            rw [← hA11]
            have f11_7 : a11.eval (.tmp 7) = .pointer (some ⟨V1.heap.size, 0, none⟩) := by rw [hA11]; exact Act.eval_put_same _ _ _ (by omega)
            have f11_29 : a11.eval (.tmp 29) = txV y := by rw [hA11]; exact (Act.eval_put_ne _ _ _ _ (by decide)).trans f10_29
            have f11_28 : a11.eval (.tmp 28) = bxV m' := by rw [hA11]; exact (Act.eval_put_ne _ _ _ _ (by decide)).trans f10_28
            have f11_6 : a11.eval (.tmp 6) = .pointer (some ⟨wr.drew.heap.size, 0, none⟩) := by rw [hA11]; exact (Act.eval_put_ne _ _ _ _ (by decide)).trans f10_6
            have z11 : a11.tmps.size = 61 := by rw [hA11, Act.size_put]; exact z10
            have dd11 : a11.defers = [] := by rw [hA11, Act.defers_put']; exact dd10
            have HA11 := Lib.hid hA11
            clear hA11 z10 dd10 f10_29 f10_28 f10_6
            refine wpAnyH_ready (rs := [11]) (by kernel_rfl) (by simp) (AllReadyH.cons (by simp only [List.getElem?_toArray, List.getElem?_cons_succ, List.getElem?_cons_zero]; rfl) (fun K hK => ?_) AllReadyH.nil)
            refine sbx_store (by rfl) (.tmp 6) (.tmp 28) (by rfl) wr.drew.heap.size bxZ m' f11_6 f11_28 hgb ?_
            have hgb2 := bx_turned hgb m'
            have hgt2 := (row_far (bxC m').toArray (Ne.symm hne)).trans hgt
            refine hK.out _ _ (hS.row HK.out hfb.1 hfb.2.2 hfb.2.1 _) (fun hS => ?_)
            change wpAnyH _ _ _ _ _ _ _ a11 _
            refine wpAnyH_ready (rs := [12]) (by kernel_rfl) (by simp) (AllReadyH.cons (by simp only [List.getElem?_toArray, List.getElem?_cons_succ, List.getElem?_cons_zero]; rfl) (fun K hK => ?_) AllReadyH.nil)
            refine stx_store (by rfl) (.tmp 7) (.tmp 29) (by rfl) V1.heap.size txZ y f11_7 f11_29 hgt2 ?_
            have hgt3 := tx_turned hgt2 y
            have hgb3 := (row_far (txC y).toArray hne).trans hgb2
            refine hK.out _ _ (hS.row HK.out hft.1 hft.2.2 hft.2.1 _) (fun hS => ?_)
            change wpAnyH _ _ _ _ _ _ _ a11 _
            refine wpAnyH_done (by kernel_rfl) ?_ _
            have HE := Lib.hid (And.intro hS (And.intro hgb3 (And.intro hgt3 hft.2)))
            clear hS hgb hgb2 hgb3 hgt hgt2 hgt3 hfb hft hne hK
            rw [HA11.out]
            rw [HA10.out]
            rw [HA9.out]
            rw [HA8.out]
            rw [HA7.out]
            rw [HA6.out]
            rw [HA5.out]
            rw [HA4.out]
            rw [HA3.out]
            rw [HA2.out]
            rw [HA1.out]
            rw [HA0.out]
            simp only [Act.put, List.setIfInBounds_toArray, List.set_cons_zero, List.set_cons_succ]
            go_wp2_with fail
            go_meet
            exact ⟨_, _, rfl, rfl, HE⟩
          · skip
            refine stx_alloc (by rfl) (by rfl) ?_
            have hne : wr.drew.heap.size ≠ (wr.drew.alloc (bxO bxZ)).heap.size := by have := lt_of_block hgb; omega
            replace hgb := (Below.heap_alloc (wr.drew.alloc (bxO bxZ)) (txO txZ) _ (lt_of_block hgb)).trans hgb
            have hgt := heap_alloc_new (wr.drew.alloc (bxO bxZ)) (txO txZ)
            have hft : w.heap.size ≤ (wr.drew.alloc (bxO bxZ)).heap.size ∧ (wr.drew.alloc (bxO bxZ)).heap.size ≠ gx ∧ (wr.drew.alloc (bxO bxZ)).heap.size ≠ w.heap.size := by have h1 := lt_of_block hS.x; have h2 := hS.hs.1.size; have h3 := HK.out.lt _ _ _ hS.hs.2.2; omega
            refine hK.out _ _ (hS.next HK.out ((Below.refl _ _).alloc (Nat.le_refl _) _)) (fun hS => ?_)
            obtain ⟨a7, hA7⟩ : ∃ a', a' = a6.put (some 7) (.pointer (some ⟨(wr.drew.alloc (bxO bxZ)).heap.size, 0, none⟩)) := ⟨_, rfl⟩
            change wpAnyH _ _ _ _ _ _ _ (a6.put (some 7) (.pointer (some ⟨(wr.drew.alloc (bxO bxZ)).heap.size, 0, none⟩))) _
            rw [← hA7]
            have f7_7 : a7.eval (.tmp 7) = .pointer (some ⟨(wr.drew.alloc (bxO bxZ)).heap.size, 0, none⟩) := by rw [hA7]; exact Act.eval_put_same _ _ _ (by omega)
            have f7_6 : a7.eval (.tmp 6) = .pointer (some ⟨wr.drew.heap.size, 0, none⟩) := by rw [hA7]; exact (Act.eval_put_ne _ _ _ _ (by decide)).trans f6_6
            have f7_26 : a7.eval (.tmp 26) = .agg #[.int .i64 k, .int .i64 t] := by rw [hA7]; exact (Act.eval_put_ne _ _ _ _ (by decide)).trans f6_26
            have f7_22 : a7.eval (.tmp 22) = bxV m := by rw [hA7]; exact (Act.eval_put_ne _ _ _ _ (by decide)).trans f6_22
            have z7 : a7.tmps.size = 61 := by rw [hA7, Act.size_put]; exact z6
            have dd7 : a7.defers = [] := by rw [hA7, Act.defers_put']; exact dd6
            have HA7 := Lib.hid hA7
            clear hA7 z6 dd6 f6_6 f6_26 f6_22
            refine wpAnyH_ready (rs := [5]) (by kernel_rfl) (by simp) (AllReadyH.cons (by simp only [List.getElem?_toArray, List.getElem?_cons_succ, List.getElem?_cons_zero]; rfl) (fun K hK => ?_) AllReadyH.nil)
            refine step_call (by rfl) 7 #[.tmp 22, .tmp 26] #[29, 35] (by rfl) #[bxV m, .agg #[.int .i64 k, .int .i64 t]] (by simp only [List.map_toArray, List.map_cons, List.map_nil, f7_22, f7_26]) Try.func7 (by kernel_rfl) rfl (HRd ((wr.drew.alloc (bxO bxZ)).alloc (txO txZ))).out (fun e' V1 hR => ?_)
            obtain ⟨rfl, hb2⟩ := hR
            refine ⟨_, rfl, hK.out _ _ (hS.next HK.out hb2) (fun hS => ?_)⟩
            obtain ⟨a8, hA8⟩ : ∃ a', a' = a7.put (some 27) (.tuple #[bxV m', txV y]) := ⟨_, rfl⟩
            change wpAnyH _ _ _ _ _ _ _ (a7.put (some 27) (.tuple #[bxV m', txV y])) _
            rw [← hA8]
            have f8_27 : a8.eval (.tmp 27) = .tuple #[bxV m', txV y] := by rw [hA8]; exact Act.eval_put_same _ _ _ (by omega)
            have f8_7 : a8.eval (.tmp 7) = .pointer (some ⟨(wr.drew.alloc (bxO bxZ)).heap.size, 0, none⟩) := by rw [hA8]; exact (Act.eval_put_ne _ _ _ _ (by decide)).trans f7_7
            have f8_6 : a8.eval (.tmp 6) = .pointer (some ⟨wr.drew.heap.size, 0, none⟩) := by rw [hA8]; exact (Act.eval_put_ne _ _ _ _ (by decide)).trans f7_6
            have z8 : a8.tmps.size = 61 := by rw [hA8, Act.size_put]; exact z7
            have dd8 : a8.defers = [] := by rw [hA8, Act.defers_put']; exact dd7
            have HA8 := Lib.hid hA8
            clear hA8 z7 dd7 f7_7 f7_6 f7_26 f7_22
            replace hgb := (hb2.block _ (lt_of_block hgb)).trans hgb
            replace hgt := (hb2.block _ (lt_of_block hgt)).trans hgt
            refine wpAnyH_take (i := 6) (v := .tuple #[bxV m', txV y]) rfl (by kernel_rfl) (by kernel_rfl) (by kernel_rfl) (fun _ _ _ h => h) (yields_move rfl (.tmp 27) rfl f8_27) hS ?_
            obtain ⟨a9, hA9⟩ : ∃ a', a' = a8.put (some 21) (.tuple #[bxV m', txV y]) := ⟨_, rfl⟩
            change wpAnyH _ _ _ _ _ _ _ (a8.put (some 21) (.tuple #[bxV m', txV y])) _
            rw [← hA9]
            have f9_21 : a9.eval (.tmp 21) = .tuple #[bxV m', txV y] := by rw [hA9]; exact Act.eval_put_same _ _ _ (by omega)
            have f9_7 : a9.eval (.tmp 7) = .pointer (some ⟨(wr.drew.alloc (bxO bxZ)).heap.size, 0, none⟩) := by rw [hA9]; exact (Act.eval_put_ne _ _ _ _ (by decide)).trans f8_7
            have f9_6 : a9.eval (.tmp 6) = .pointer (some ⟨wr.drew.heap.size, 0, none⟩) := by rw [hA9]; exact (Act.eval_put_ne _ _ _ _ (by decide)).trans f8_6
            have z9 : a9.tmps.size = 61 := by rw [hA9, Act.size_put]; exact z8
            have dd9 : a9.defers = [] := by rw [hA9, Act.defers_put']; exact dd8
            have HA9 := Lib.hid hA9
            clear hA9 z8 dd8 f8_27 f8_7 f8_6
            refine wpAnyH_take (i := 7) (v := bxV m') rfl (by kernel_rfl) (by kernel_rfl) (by kernel_rfl) (fun _ _ _ h => h) (yields_part rfl (.tmp 21) 0 rfl _ _ f9_21 rfl) hS ?_
            obtain ⟨a10, hA10⟩ : ∃ a', a' = a9.put (some 28) (bxV m') := ⟨_, rfl⟩
            change wpAnyH _ _ _ _ _ _ _ (a9.put (some 28) (bxV m')) _
            rw [← hA10]
            have f10_28 : a10.eval (.tmp 28) = bxV m' := by rw [hA10]; exact Act.eval_put_same _ _ _ (by omega)
            have f10_21 : a10.eval (.tmp 21) = .tuple #[bxV m', txV y] := by rw [hA10]; exact (Act.eval_put_ne _ _ _ _ (by decide)).trans f9_21
            have f10_7 : a10.eval (.tmp 7) = .pointer (some ⟨(wr.drew.alloc (bxO bxZ)).heap.size, 0, none⟩) := by rw [hA10]; exact (Act.eval_put_ne _ _ _ _ (by decide)).trans f9_7
            have f10_6 : a10.eval (.tmp 6) = .pointer (some ⟨wr.drew.heap.size, 0, none⟩) := by rw [hA10]; exact (Act.eval_put_ne _ _ _ _ (by decide)).trans f9_6
            have z10 : a10.tmps.size = 61 := by rw [hA10, Act.size_put]; exact z9
            have dd10 : a10.defers = [] := by rw [hA10, Act.defers_put']; exact dd9
            have HA10 := Lib.hid hA10
            clear hA10 z9 dd9 f9_21 f9_7 f9_6
            refine wpAnyH_take (i := 8) (v := txV y) rfl (by kernel_rfl) (by kernel_rfl) (by kernel_rfl) (fun _ _ _ h => h) (yields_part rfl (.tmp 21) 1 rfl _ _ f10_21 rfl) hS ?_
            obtain ⟨a11, hA11⟩ : ∃ a', a' = a10.put (some 29) (txV y) := ⟨_, rfl⟩
            change wpAnyH _ _ _ _ _ _ _ (a10.put (some 29) (txV y)) _
            rw [← hA11]
            have f11_29 : a11.eval (.tmp 29) = txV y := by rw [hA11]; exact Act.eval_put_same _ _ _ (by omega)
            have f11_28 : a11.eval (.tmp 28) = bxV m' := by rw [hA11]; exact (Act.eval_put_ne _ _ _ _ (by decide)).trans f10_28
            have f11_7 : a11.eval (.tmp 7) = .pointer (some ⟨(wr.drew.alloc (bxO bxZ)).heap.size, 0, none⟩) := by rw [hA11]; exact (Act.eval_put_ne _ _ _ _ (by decide)).trans f10_7
            have f11_6 : a11.eval (.tmp 6) = .pointer (some ⟨wr.drew.heap.size, 0, none⟩) := by rw [hA11]; exact (Act.eval_put_ne _ _ _ _ (by decide)).trans f10_6
            have z11 : a11.tmps.size = 61 := by rw [hA11, Act.size_put]; exact z10
            have dd11 : a11.defers = [] := by rw [hA11, Act.defers_put']; exact dd10
            have HA11 := Lib.hid hA11
            clear hA11 z10 dd10 f10_28 f10_21 f10_7 f10_6
            refine wpAnyH_ready (rs := [11]) (by kernel_rfl) (by simp) (AllReadyH.cons (by simp only [List.getElem?_toArray, List.getElem?_cons_succ, List.getElem?_cons_zero]; rfl) (fun K hK => ?_) AllReadyH.nil)
            refine sbx_store (by rfl) (.tmp 6) (.tmp 28) (by rfl) wr.drew.heap.size bxZ m' f11_6 f11_28 hgb ?_
            have hgb2 := bx_turned hgb m'
            have hgt2 := (row_far (bxC m').toArray (Ne.symm hne)).trans hgt
            refine hK.out _ _ (hS.row HK.out hfb.1 hfb.2.2 hfb.2.1 _) (fun hS => ?_)
            change wpAnyH _ _ _ _ _ _ _ a11 _
            refine wpAnyH_ready (rs := [12]) (by kernel_rfl) (by simp) (AllReadyH.cons (by simp only [List.getElem?_toArray, List.getElem?_cons_succ, List.getElem?_cons_zero]; rfl) (fun K hK => ?_) AllReadyH.nil)
            refine stx_store (by rfl) (.tmp 7) (.tmp 29) (by rfl) (wr.drew.alloc (bxO bxZ)).heap.size txZ y f11_7 f11_29 hgt2 ?_
            have hgt3 := tx_turned hgt2 y
            have hgb3 := (row_far (txC y).toArray hne).trans hgb2
            refine hK.out _ _ (hS.row HK.out hft.1 hft.2.2 hft.2.1 _) (fun hS => ?_)
            change wpAnyH _ _ _ _ _ _ _ a11 _
            refine wpAnyH_done (by kernel_rfl) ?_ _
            have HE := Lib.hid (And.intro hS (And.intro hgb3 (And.intro hgt3 hft.2)))
            clear hS hgb hgb2 hgb3 hgt hgt2 hgt3 hfb hft hne hK
            rw [HA11.out]
            rw [HA10.out]
            rw [HA9.out]
            rw [HA8.out]
            rw [HA7.out]
            rw [HA6.out]
            rw [HA5.out]
            rw [HA4.out]
            rw [HA3.out]
            rw [HA2.out]
            rw [HA1.out]
            rw [HA0.out]
            simp only [Act.put, List.setIfInBounds_toArray, List.set_cons_zero, List.set_cons_succ]
            go_wp2_with fail
            go_meet
            exact ⟨_, _, rfl, rfl, HE⟩
        · skip
          refine stx_alloc (by rfl) (by rfl) ?_
          have hgt := heap_alloc_new wr.drew (txO txZ)
          have hft : w.heap.size ≤ wr.drew.heap.size ∧ wr.drew.heap.size ≠ gx ∧ wr.drew.heap.size ≠ w.heap.size := by have h1 := lt_of_block hS.x; have h2 := hS.hs.1.size; have h3 := HK.out.lt _ _ _ hS.hs.2.2; omega
          refine hK.out _ _ (hS.next HK.out ((Below.refl _ _).alloc (Nat.le_refl _) _)) (fun hS => ?_)
          obtain ⟨a6, hA6⟩ : ∃ a', a' = a5.put (some 7) (.pointer (some ⟨wr.drew.heap.size, 0, none⟩)) := ⟨_, rfl⟩
          change wpAnyH _ _ _ _ _ _ _ (a5.put (some 7) (.pointer (some ⟨wr.drew.heap.size, 0, none⟩))) _
          rw [← hA6]
          have f6_7 : a6.eval (.tmp 7) = .pointer (some ⟨wr.drew.heap.size, 0, none⟩) := by rw [hA6]; exact Act.eval_put_same _ _ _ (by omega)
          have f6_26 : a6.eval (.tmp 26) = .agg #[.int .i64 k, .int .i64 t] := by rw [hA6]; exact (Act.eval_put_ne _ _ _ _ (by decide)).trans f5_26
          have f6_22 : a6.eval (.tmp 22) = bxV m := by rw [hA6]; exact (Act.eval_put_ne _ _ _ _ (by decide)).trans f5_22
          have z6 : a6.tmps.size = 61 := by rw [hA6, Act.size_put]; exact z5
          have dd6 : a6.defers = [] := by rw [hA6, Act.defers_put']; exact dd5
          have HA6 := Lib.hid hA6
          clear hA6 z5 dd5 f5_26 f5_22
          refine wpAnyH_ready (rs := [5, 9]) (by kernel_rfl) (by simp) (AllReadyH.cons (by simp only [List.getElem?_toArray, List.getElem?_cons_succ, List.getElem?_cons_zero]; rfl) (fun K hK => ?_) (AllReadyH.cons (by simp only [List.getElem?_toArray, List.getElem?_cons_succ, List.getElem?_cons_zero]; rfl) (fun K hK => ?_) AllReadyH.nil))
          · skip
            refine step_call (by rfl) 7 #[.tmp 22, .tmp 26] #[29, 35] (by rfl) #[bxV m, .agg #[.int .i64 k, .int .i64 t]] (by simp only [List.map_toArray, List.map_cons, List.map_nil, f6_22, f6_26]) Try.func7 (by kernel_rfl) rfl (HRd (wr.drew.alloc (txO txZ))).out (fun e' V1 hR => ?_)
            obtain ⟨rfl, hb2⟩ := hR
            refine ⟨_, rfl, hK.out _ _ (hS.next HK.out hb2) (fun hS => ?_)⟩
            obtain ⟨a7, hA7⟩ : ∃ a', a' = a6.put (some 27) (.tuple #[bxV m', txV y]) := ⟨_, rfl⟩
            change wpAnyH _ _ _ _ _ _ _ (a6.put (some 27) (.tuple #[bxV m', txV y])) _
            rw [← hA7]
            have f7_27 : a7.eval (.tmp 27) = .tuple #[bxV m', txV y] := by rw [hA7]; exact Act.eval_put_same _ _ _ (by omega)
            have f7_7 : a7.eval (.tmp 7) = .pointer (some ⟨wr.drew.heap.size, 0, none⟩) := by rw [hA7]; exact (Act.eval_put_ne _ _ _ _ (by decide)).trans f6_7
            have z7 : a7.tmps.size = 61 := by rw [hA7, Act.size_put]; exact z6
            have dd7 : a7.defers = [] := by rw [hA7, Act.defers_put']; exact dd6
            have HA7 := Lib.hid hA7
            clear hA7 z6 dd6 f6_7 f6_26 f6_22
            replace hgt := (hb2.block _ (lt_of_block hgt)).trans hgt
            refine wpAnyH_take (i := 6) (v := .tuple #[bxV m', txV y]) rfl (by kernel_rfl) (by kernel_rfl) (by kernel_rfl) (fun _ _ _ h => h) (yields_move rfl (.tmp 27) rfl f7_27) hS ?_
            obtain ⟨a8, hA8⟩ : ∃ a', a' = a7.put (some 21) (.tuple #[bxV m', txV y]) := ⟨_, rfl⟩
            change wpAnyH _ _ _ _ _ _ _ (a7.put (some 21) (.tuple #[bxV m', txV y])) _
            rw [← hA8]
            have f8_21 : a8.eval (.tmp 21) = .tuple #[bxV m', txV y] := by rw [hA8]; exact Act.eval_put_same _ _ _ (by omega)
            have f8_7 : a8.eval (.tmp 7) = .pointer (some ⟨wr.drew.heap.size, 0, none⟩) := by rw [hA8]; exact (Act.eval_put_ne _ _ _ _ (by decide)).trans f7_7
            have z8 : a8.tmps.size = 61 := by rw [hA8, Act.size_put]; exact z7
            have dd8 : a8.defers = [] := by rw [hA8, Act.defers_put']; exact dd7
            have HA8 := Lib.hid hA8
            clear hA8 z7 dd7 f7_27 f7_7
            refine wpAnyH_take (i := 7) (v := bxV m') rfl (by kernel_rfl) (by kernel_rfl) (by kernel_rfl) (fun _ _ _ h => h) (yields_part rfl (.tmp 21) 0 rfl _ _ f8_21 rfl) hS ?_
            obtain ⟨a9, hA9⟩ : ∃ a', a' = a8.put (some 28) (bxV m') := ⟨_, rfl⟩
            change wpAnyH _ _ _ _ _ _ _ (a8.put (some 28) (bxV m')) _
            rw [← hA9]
            have f9_28 : a9.eval (.tmp 28) = bxV m' := by rw [hA9]; exact Act.eval_put_same _ _ _ (by omega)
            have f9_21 : a9.eval (.tmp 21) = .tuple #[bxV m', txV y] := by rw [hA9]; exact (Act.eval_put_ne _ _ _ _ (by decide)).trans f8_21
            have f9_7 : a9.eval (.tmp 7) = .pointer (some ⟨wr.drew.heap.size, 0, none⟩) := by rw [hA9]; exact (Act.eval_put_ne _ _ _ _ (by decide)).trans f8_7
            have z9 : a9.tmps.size = 61 := by rw [hA9, Act.size_put]; exact z8
            have dd9 : a9.defers = [] := by rw [hA9, Act.defers_put']; exact dd8
            have HA9 := Lib.hid hA9
            clear hA9 z8 dd8 f8_21 f8_7
            refine wpAnyH_take (i := 8) (v := txV y) rfl (by kernel_rfl) (by kernel_rfl) (by kernel_rfl) (fun _ _ _ h => h) (yields_part rfl (.tmp 21) 1 rfl _ _ f9_21 rfl) hS ?_
            obtain ⟨a10, hA10⟩ : ∃ a', a' = a9.put (some 29) (txV y) := ⟨_, rfl⟩
            change wpAnyH _ _ _ _ _ _ _ (a9.put (some 29) (txV y)) _
            rw [← hA10]
            have f10_29 : a10.eval (.tmp 29) = txV y := by rw [hA10]; exact Act.eval_put_same _ _ _ (by omega)
            have f10_28 : a10.eval (.tmp 28) = bxV m' := by rw [hA10]; exact (Act.eval_put_ne _ _ _ _ (by decide)).trans f9_28
            have f10_7 : a10.eval (.tmp 7) = .pointer (some ⟨wr.drew.heap.size, 0, none⟩) := by rw [hA10]; exact (Act.eval_put_ne _ _ _ _ (by decide)).trans f9_7
            have z10 : a10.tmps.size = 61 := by rw [hA10, Act.size_put]; exact z9
            have dd10 : a10.defers = [] := by rw [hA10, Act.defers_put']; exact dd9
            have HA10 := Lib.hid hA10
            clear hA10 z9 dd9 f9_28 f9_21 f9_7
            refine wpAnyH_ready (rs := [9]) (by kernel_rfl) (by simp) (AllReadyH.cons (by simp only [List.getElem?_toArray, List.getElem?_cons_succ, List.getElem?_cons_zero]; rfl) (fun K hK => ?_) AllReadyH.nil)
            refine sbx_alloc (by rfl) (by rfl) ?_
            have hne : V1.heap.size ≠ wr.drew.heap.size := by have := lt_of_block hgt; omega
            replace hgt := (Below.heap_alloc V1 (bxO bxZ) _ (lt_of_block hgt)).trans hgt
            have hgb := heap_alloc_new V1 (bxO bxZ)
            have hfb : w.heap.size ≤ V1.heap.size ∧ V1.heap.size ≠ gx ∧ V1.heap.size ≠ w.heap.size := by have h1 := lt_of_block hS.x; have h2 := hS.hs.1.size; have h3 := HK.out.lt _ _ _ hS.hs.2.2; omega
            refine hK.out _ _ (hS.next HK.out ((Below.refl _ _).alloc (Nat.le_refl _) _)) (fun hS => ?_)
            obtain ⟨a11, hA11⟩ : ∃ a', a' = a10.put (some 6) (.pointer (some ⟨V1.heap.size, 0, none⟩)) := ⟨_, rfl⟩
            change wpAnyH _ _ _ _ _ _ _ (a10.put (some 6) (.pointer (some ⟨V1.heap.size, 0, none⟩))) _
            rw [← hA11]
            have f11_6 : a11.eval (.tmp 6) = .pointer (some ⟨V1.heap.size, 0, none⟩) := by rw [hA11]; exact Act.eval_put_same _ _ _ (by omega)
            have f11_29 : a11.eval (.tmp 29) = txV y := by rw [hA11]; exact (Act.eval_put_ne _ _ _ _ (by decide)).trans f10_29
            have f11_28 : a11.eval (.tmp 28) = bxV m' := by rw [hA11]; exact (Act.eval_put_ne _ _ _ _ (by decide)).trans f10_28
            have f11_7 : a11.eval (.tmp 7) = .pointer (some ⟨wr.drew.heap.size, 0, none⟩) := by rw [hA11]; exact (Act.eval_put_ne _ _ _ _ (by decide)).trans f10_7
            have z11 : a11.tmps.size = 61 := by rw [hA11, Act.size_put]; exact z10
            have dd11 : a11.defers = [] := by rw [hA11, Act.defers_put']; exact dd10
            have HA11 := Lib.hid hA11
            clear hA11 z10 dd10 f10_29 f10_28 f10_7
            refine wpAnyH_ready (rs := [11]) (by kernel_rfl) (by simp) (AllReadyH.cons (by simp only [List.getElem?_toArray, List.getElem?_cons_succ, List.getElem?_cons_zero]; rfl) (fun K hK => ?_) AllReadyH.nil)
            refine sbx_store (by rfl) (.tmp 6) (.tmp 28) (by rfl) V1.heap.size bxZ m' f11_6 f11_28 hgb ?_
            have hgb2 := bx_turned hgb m'
            have hgt2 := (row_far (bxC m').toArray (Ne.symm hne)).trans hgt
            refine hK.out _ _ (hS.row HK.out hfb.1 hfb.2.2 hfb.2.1 _) (fun hS => ?_)
            change wpAnyH _ _ _ _ _ _ _ a11 _
            refine wpAnyH_ready (rs := [12]) (by kernel_rfl) (by simp) (AllReadyH.cons (by simp only [List.getElem?_toArray, List.getElem?_cons_succ, List.getElem?_cons_zero]; rfl) (fun K hK => ?_) AllReadyH.nil)
            refine stx_store (by rfl) (.tmp 7) (.tmp 29) (by rfl) wr.drew.heap.size txZ y f11_7 f11_29 hgt2 ?_
            have hgt3 := tx_turned hgt2 y
            have hgb3 := (row_far (txC y).toArray hne).trans hgb2
            refine hK.out _ _ (hS.row HK.out hft.1 hft.2.2 hft.2.1 _) (fun hS => ?_)
            change wpAnyH _ _ _ _ _ _ _ a11 _
            refine wpAnyH_done (by kernel_rfl) ?_ _
            have HE := Lib.hid (And.intro hS (And.intro hgb3 (And.intro hgt3 hft.2)))
            clear hS hgb hgb2 hgb3 hgt hgt2 hgt3 hfb hft hne hK
            rw [HA11.out]
            rw [HA10.out]
            rw [HA9.out]
            rw [HA8.out]
            rw [HA7.out]
            rw [HA6.out]
            rw [HA5.out]
            rw [HA4.out]
            rw [HA3.out]
            rw [HA2.out]
            rw [HA1.out]
            rw [HA0.out]
            simp only [Act.put, List.setIfInBounds_toArray, List.set_cons_zero, List.set_cons_succ]
            go_wp2_with fail
            go_meet
            exact ⟨_, _, rfl, rfl, HE⟩
          · skip
            refine sbx_alloc (by rfl) (by rfl) ?_
            have hne : (wr.drew.alloc (txO txZ)).heap.size ≠ wr.drew.heap.size := by have := lt_of_block hgt; omega
            replace hgt := (Below.heap_alloc (wr.drew.alloc (txO txZ)) (bxO bxZ) _ (lt_of_block hgt)).trans hgt
            have hgb := heap_alloc_new (wr.drew.alloc (txO txZ)) (bxO bxZ)
            have hfb : w.heap.size ≤ (wr.drew.alloc (txO txZ)).heap.size ∧ (wr.drew.alloc (txO txZ)).heap.size ≠ gx ∧ (wr.drew.alloc (txO txZ)).heap.size ≠ w.heap.size := by have h1 := lt_of_block hS.x; have h2 := hS.hs.1.size; have h3 := HK.out.lt _ _ _ hS.hs.2.2; omega
            refine hK.out _ _ (hS.next HK.out ((Below.refl _ _).alloc (Nat.le_refl _) _)) (fun hS => ?_)
            obtain ⟨a7, hA7⟩ : ∃ a', a' = a6.put (some 6) (.pointer (some ⟨(wr.drew.alloc (txO txZ)).heap.size, 0, none⟩)) := ⟨_, rfl⟩
            change wpAnyH _ _ _ _ _ _ _ (a6.put (some 6) (.pointer (some ⟨(wr.drew.alloc (txO txZ)).heap.size, 0, none⟩))) _
            rw [← hA7]
            have f7_6 : a7.eval (.tmp 6) = .pointer (some ⟨(wr.drew.alloc (txO txZ)).heap.size, 0, none⟩) := by rw [hA7]; exact Act.eval_put_same _ _ _ (by omega)
            have f7_7 : a7.eval (.tmp 7) = .pointer (some ⟨wr.drew.heap.size, 0, none⟩) := by rw [hA7]; exact (Act.eval_put_ne _ _ _ _ (by decide)).trans f6_7
            have f7_26 : a7.eval (.tmp 26) = .agg #[.int .i64 k, .int .i64 t] := by rw [hA7]; exact (Act.eval_put_ne _ _ _ _ (by decide)).trans f6_26
            have f7_22 : a7.eval (.tmp 22) = bxV m := by rw [hA7]; exact (Act.eval_put_ne _ _ _ _ (by decide)).trans f6_22
            have z7 : a7.tmps.size = 61 := by rw [hA7, Act.size_put]; exact z6
            have dd7 : a7.defers = [] := by rw [hA7, Act.defers_put']; exact dd6
            have HA7 := Lib.hid hA7
            clear hA7 z6 dd6 f6_7 f6_26 f6_22
            refine wpAnyH_ready (rs := [5]) (by kernel_rfl) (by simp) (AllReadyH.cons (by simp only [List.getElem?_toArray, List.getElem?_cons_succ, List.getElem?_cons_zero]; rfl) (fun K hK => ?_) AllReadyH.nil)
            refine step_call (by rfl) 7 #[.tmp 22, .tmp 26] #[29, 35] (by rfl) #[bxV m, .agg #[.int .i64 k, .int .i64 t]] (by simp only [List.map_toArray, List.map_cons, List.map_nil, f7_22, f7_26]) Try.func7 (by kernel_rfl) rfl (HRd ((wr.drew.alloc (txO txZ)).alloc (bxO bxZ))).out (fun e' V1 hR => ?_)
            obtain ⟨rfl, hb2⟩ := hR
            refine ⟨_, rfl, hK.out _ _ (hS.next HK.out hb2) (fun hS => ?_)⟩
            obtain ⟨a8, hA8⟩ : ∃ a', a' = a7.put (some 27) (.tuple #[bxV m', txV y]) := ⟨_, rfl⟩
            change wpAnyH _ _ _ _ _ _ _ (a7.put (some 27) (.tuple #[bxV m', txV y])) _
            rw [← hA8]
            have f8_27 : a8.eval (.tmp 27) = .tuple #[bxV m', txV y] := by rw [hA8]; exact Act.eval_put_same _ _ _ (by omega)
            have f8_6 : a8.eval (.tmp 6) = .pointer (some ⟨(wr.drew.alloc (txO txZ)).heap.size, 0, none⟩) := by rw [hA8]; exact (Act.eval_put_ne _ _ _ _ (by decide)).trans f7_6
            have f8_7 : a8.eval (.tmp 7) = .pointer (some ⟨wr.drew.heap.size, 0, none⟩) := by rw [hA8]; exact (Act.eval_put_ne _ _ _ _ (by decide)).trans f7_7
            have z8 : a8.tmps.size = 61 := by rw [hA8, Act.size_put]; exact z7
            have dd8 : a8.defers = [] := by rw [hA8, Act.defers_put']; exact dd7
            have HA8 := Lib.hid hA8
            clear hA8 z7 dd7 f7_6 f7_7 f7_26 f7_22
            replace hgb := (hb2.block _ (lt_of_block hgb)).trans hgb
            replace hgt := (hb2.block _ (lt_of_block hgt)).trans hgt
            refine wpAnyH_take (i := 6) (v := .tuple #[bxV m', txV y]) rfl (by kernel_rfl) (by kernel_rfl) (by kernel_rfl) (fun _ _ _ h => h) (yields_move rfl (.tmp 27) rfl f8_27) hS ?_
            obtain ⟨a9, hA9⟩ : ∃ a', a' = a8.put (some 21) (.tuple #[bxV m', txV y]) := ⟨_, rfl⟩
            change wpAnyH _ _ _ _ _ _ _ (a8.put (some 21) (.tuple #[bxV m', txV y])) _
            rw [← hA9]
            have f9_21 : a9.eval (.tmp 21) = .tuple #[bxV m', txV y] := by rw [hA9]; exact Act.eval_put_same _ _ _ (by omega)
            have f9_6 : a9.eval (.tmp 6) = .pointer (some ⟨(wr.drew.alloc (txO txZ)).heap.size, 0, none⟩) := by rw [hA9]; exact (Act.eval_put_ne _ _ _ _ (by decide)).trans f8_6
            have f9_7 : a9.eval (.tmp 7) = .pointer (some ⟨wr.drew.heap.size, 0, none⟩) := by rw [hA9]; exact (Act.eval_put_ne _ _ _ _ (by decide)).trans f8_7
            have z9 : a9.tmps.size = 61 := by rw [hA9, Act.size_put]; exact z8
            have dd9 : a9.defers = [] := by rw [hA9, Act.defers_put']; exact dd8
            have HA9 := Lib.hid hA9
            clear hA9 z8 dd8 f8_27 f8_6 f8_7
            refine wpAnyH_take (i := 7) (v := bxV m') rfl (by kernel_rfl) (by kernel_rfl) (by kernel_rfl) (fun _ _ _ h => h) (yields_part rfl (.tmp 21) 0 rfl _ _ f9_21 rfl) hS ?_
            obtain ⟨a10, hA10⟩ : ∃ a', a' = a9.put (some 28) (bxV m') := ⟨_, rfl⟩
            change wpAnyH _ _ _ _ _ _ _ (a9.put (some 28) (bxV m')) _
            rw [← hA10]
            have f10_28 : a10.eval (.tmp 28) = bxV m' := by rw [hA10]; exact Act.eval_put_same _ _ _ (by omega)
            have f10_21 : a10.eval (.tmp 21) = .tuple #[bxV m', txV y] := by rw [hA10]; exact (Act.eval_put_ne _ _ _ _ (by decide)).trans f9_21
            have f10_6 : a10.eval (.tmp 6) = .pointer (some ⟨(wr.drew.alloc (txO txZ)).heap.size, 0, none⟩) := by rw [hA10]; exact (Act.eval_put_ne _ _ _ _ (by decide)).trans f9_6
            have f10_7 : a10.eval (.tmp 7) = .pointer (some ⟨wr.drew.heap.size, 0, none⟩) := by rw [hA10]; exact (Act.eval_put_ne _ _ _ _ (by decide)).trans f9_7
            have z10 : a10.tmps.size = 61 := by rw [hA10, Act.size_put]; exact z9
            have dd10 : a10.defers = [] := by rw [hA10, Act.defers_put']; exact dd9
            have HA10 := Lib.hid hA10
            clear hA10 z9 dd9 f9_21 f9_6 f9_7
            refine wpAnyH_take (i := 8) (v := txV y) rfl (by kernel_rfl) (by kernel_rfl) (by kernel_rfl) (fun _ _ _ h => h) (yields_part rfl (.tmp 21) 1 rfl _ _ f10_21 rfl) hS ?_
            obtain ⟨a11, hA11⟩ : ∃ a', a' = a10.put (some 29) (txV y) := ⟨_, rfl⟩
            change wpAnyH _ _ _ _ _ _ _ (a10.put (some 29) (txV y)) _
            rw [← hA11]
            have f11_29 : a11.eval (.tmp 29) = txV y := by rw [hA11]; exact Act.eval_put_same _ _ _ (by omega)
            have f11_28 : a11.eval (.tmp 28) = bxV m' := by rw [hA11]; exact (Act.eval_put_ne _ _ _ _ (by decide)).trans f10_28
            have f11_6 : a11.eval (.tmp 6) = .pointer (some ⟨(wr.drew.alloc (txO txZ)).heap.size, 0, none⟩) := by rw [hA11]; exact (Act.eval_put_ne _ _ _ _ (by decide)).trans f10_6
            have f11_7 : a11.eval (.tmp 7) = .pointer (some ⟨wr.drew.heap.size, 0, none⟩) := by rw [hA11]; exact (Act.eval_put_ne _ _ _ _ (by decide)).trans f10_7
            have z11 : a11.tmps.size = 61 := by rw [hA11, Act.size_put]; exact z10
            have dd11 : a11.defers = [] := by rw [hA11, Act.defers_put']; exact dd10
            have HA11 := Lib.hid hA11
            clear hA11 z10 dd10 f10_28 f10_21 f10_6 f10_7
            refine wpAnyH_ready (rs := [11]) (by kernel_rfl) (by simp) (AllReadyH.cons (by simp only [List.getElem?_toArray, List.getElem?_cons_succ, List.getElem?_cons_zero]; rfl) (fun K hK => ?_) AllReadyH.nil)
            refine sbx_store (by rfl) (.tmp 6) (.tmp 28) (by rfl) (wr.drew.alloc (txO txZ)).heap.size bxZ m' f11_6 f11_28 hgb ?_
            have hgb2 := bx_turned hgb m'
            have hgt2 := (row_far (bxC m').toArray (Ne.symm hne)).trans hgt
            refine hK.out _ _ (hS.row HK.out hfb.1 hfb.2.2 hfb.2.1 _) (fun hS => ?_)
            change wpAnyH _ _ _ _ _ _ _ a11 _
            refine wpAnyH_ready (rs := [12]) (by kernel_rfl) (by simp) (AllReadyH.cons (by simp only [List.getElem?_toArray, List.getElem?_cons_succ, List.getElem?_cons_zero]; rfl) (fun K hK => ?_) AllReadyH.nil)
            refine stx_store (by rfl) (.tmp 7) (.tmp 29) (by rfl) wr.drew.heap.size txZ y f11_7 f11_29 hgt2 ?_
            have hgt3 := tx_turned hgt2 y
            have hgb3 := (row_far (txC y).toArray hne).trans hgb2
            refine hK.out _ _ (hS.row HK.out hft.1 hft.2.2 hft.2.1 _) (fun hS => ?_)
            change wpAnyH _ _ _ _ _ _ _ a11 _
            refine wpAnyH_done (by kernel_rfl) ?_ _
            have HE := Lib.hid (And.intro hS (And.intro hgb3 (And.intro hgt3 hft.2)))
            clear hS hgb hgb2 hgb3 hgt hgt2 hgt3 hfb hft hne hK
            rw [HA11.out]
            rw [HA10.out]
            rw [HA9.out]
            rw [HA8.out]
            rw [HA7.out]
            rw [HA6.out]
            rw [HA5.out]
            rw [HA4.out]
            rw [HA3.out]
            rw [HA2.out]
            rw [HA1.out]
            rw [HA0.out]
            simp only [Act.put, List.setIfInBounds_toArray, List.set_cons_zero, List.set_cons_succ]
            go_wp2_with fail
            go_meet
            exact ⟨_, _, rfl, rfl, HE⟩
      case rest =>
        obtain ⟨gn, gt, rfl, rfl, HW⟩ := hcut
        clear HP HRd
        go_upto_region 7 with (first | refine wbx_load rfl _ rfl gn rfl m' HW.out.2.1 ?_ | refine wbx_store rfl _ _ rfl gx m m' rfl rfl HW.out.1.x ?_)
        try simp only [Act.put, List.setIfInBounds_toArray, List.set_cons_zero, List.set_cons_succ]
        refine wp_hold_world (fun W3 HW3 => ?_)
        have H3 : Hid (Hs At w w.heap.size m W3 ∧ W3.heap[gx]? = some (bxO m') ∧ W3.heap[gt]? = some (txO y) ∧ w.heap.size ≤ gx ∧ w.heap.size ≠ gx ∧ gt ≠ w.heap.size) := Lib.hid (by
          rw [HW3.out]
          have h := HW.out.1
          have hgw : gt ≠ w.heap.size := HW.out.2.2.2.2
          exact ⟨⟨row_below h.hs.1 h.far _, h.hs.2.1, HK.out.loc _ _ _ _ h.hs.2.2 (row_far _ h.ne) (row_size _ _ _)⟩, bx_turned h.x _, (row_far _ HW.out.2.2.2.1).trans HW.out.2.2.1, h.far, h.ne, hgw⟩)
        clear HW3 HW
        obtain ⟨c0, c1⟩ := HCe W3 H3.out.1.1
        obtain ⟨x0, x1⟩ := bx_cells H3.out.2.1
        obtain ⟨t0, t1, t2⟩ := tx_cells H3.out.2.2.1
        have HX := fun W (h : Qz At w gx gt m' y W) => And.intro (HCe W h.1.hs.1) (And.intro (bx_cells h.1.x) (tx_cells h.2))
        have HD3 := HDo W3.drew (HK.out.loc _ _ _ _ H3.out.1.2.2 rfl (Nat.le_refl _))
        have HMe := fun W h => Lib.hid (HK.out.members W w.heap.size m' h HF'.out)
        have HAr := fun W h => Lib.hid (HK.out.arrived W w.heap.size m' h HF'.out)
        have HMi := fun W h => Lib.hid (HK.out.missing W w.heap.size m' h HF'.out)
        have HRm := fun W => Lib.hid (refMissing_any m' W HF'.out.1 HF'.out.2.1)
        unfold bxV bxC at HRm
        unfold txV txC at HD3
        generalize missB m' = z' at *
        have q1 : ((m'.m : Int) != (m'.m : Int)) = false := by simp
        have q2 : ((m'.a : Int) != (m'.a : Int)) = false := by simp
        have q3 : ((z' : Int) != (z' : Int)) = false := by simp
        go_region_held3 (fun w' => w'.cell? ⟨b, off + j * 2, none⟩ = some (.int .i64 k) ∧ w'.cell? ⟨b, off + j * 2 + 1, none⟩ = some (.int .i64 t) ∧ w'.cell? ⟨gx, 0, none⟩ = some (.int .u64 (m'.m : Int)) ∧ w'.cell? ⟨gx, 1, none⟩ = some (.int .u64 (m'.a : Int)) ∧ w'.cell? ⟨gt, 0, none⟩ = some (.int .u64 (y.s : Int)) ∧ w'.cell? ⟨gt, 1, none⟩ = some (.bool y.b) ∧ w'.cell? ⟨gt, 2, none⟩ = some (.int .i64 y.e)) (go_keep)
          (first
            | (go_at_call 8; refine HD3.out.mono ?_; rintro _ w4 ⟨rfl, ha4, ho4⟩; have HM : Hid (Qz At w gx gt m' y w4) := Lib.hid ⟨⟨⟨ho4.below H3.out.1.1.drew H3.out.1.2.1 H3.out.1.1.drew.size, H3.out.1.2.1, ha4⟩, (ho4.block gx (lt_of_block H3.out.2.1) (by have := H3.out.2.2.2.2.1; omega)).trans H3.out.2.1, H3.out.2.2.2.1, H3.out.2.2.2.2.1⟩, (ho4.block gt (lt_of_block H3.out.2.2.1) H3.out.2.2.2.2.2).trans H3.out.2.2.1⟩; obtain ⟨⟨e4, f4⟩, ⟨y4, z4⟩, u4, v4, x4⟩ := HX w4 HM.out)
            | (go_at_call 9; refine (HMe _ ?_).out.mono ?_; (exact HM.out.1.hs.2.2); rintro _ w5 ⟨rfl, hb5⟩; have HM := Lib.hid (HM.out.next HK.out hb5); obtain ⟨⟨e4, f4⟩, ⟨y4, z4⟩, u4, v4, x4⟩ := HX w5 HM.out)
            | (go_at_call 10; refine (HAr _ ?_).out.mono ?_; (exact HM.out.1.hs.2.2); rintro _ w5 ⟨rfl, hb5⟩; have HM := Lib.hid (HM.out.next HK.out hb5); obtain ⟨⟨e4, f4⟩, ⟨y4, z4⟩, u4, v4, x4⟩ := HX w5 HM.out)
            | (go_at_call 11; refine (HMi _ ?_).out.mono ?_; (exact HM.out.1.hs.2.2); rintro _ w5 ⟨rfl, hb5⟩; have HM := Lib.hid (HM.out.next HK.out hb5); obtain ⟨⟨e4, f4⟩, ⟨y4, z4⟩, u4, v4, x4⟩ := HX w5 HM.out)
            | (go_at_call 12; refine (HRm _).out.mono ?_; rintro _ w5 ⟨rfl, hb5⟩; have HM := Lib.hid (HM.out.next HK.out hb5); obtain ⟨⟨e4, f4⟩, ⟨y4, z4⟩, u4, v4, x4⟩ := HX w5 HM.out))
        all_goals
          have H8 := HM
          clear HM ha4 ho4 hb5 e4 f4 y4 z4 u4 v4 x4 c0 c1 x0 x1 t0 t1 t2 HX
          go_wp2_with fail
          exact ⟨⟨j + 1, m', by go_num, by have := HJ.out.1; omega, by have := HJ.out.2; omega, HF'.out, H8.out.1⟩, by have := HJ.out.1; simp [intOf]; omega⟩
    · have HB := Lib.hid hP.hs.1
      clear hP hfm HI HO
      go_wp2_with fail
      all_goals
        refine (HL _).out.mono ?_
        rintro _ w2 ⟨rfl, hb⟩
        go_wp2
        go_ret
        exact ⟨rfl, HB.out.trans (hb.mono HB.out.size)⟩
end Go.Proofs.Ytiekbbknmneikaa.bar
