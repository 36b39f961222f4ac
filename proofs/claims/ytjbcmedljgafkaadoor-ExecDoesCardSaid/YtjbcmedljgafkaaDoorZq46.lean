/-
  Texts of one claim in one file: ZCur. Each has its own sentence, with its conditions.
-/
import Derived.Test.YtjbcmedljgafkaaDoorZq45
import Derived.Test.YtjbcmedljgafkaaDoorZq1
import Derived.BigQuiet
/-
  The program's own look at the instruction at which the last frame is (typed over the code of 8d70ec2; its drawn regions printed by tools/zcur.py). At most a thousand frames, each of twenty-seven numbers; a program of at most twenty functions of 250 instructions.
-/

namespace Go.Proofs.YtjbcmedljgafkaaDoor.pgm.exe
open Go.RowKit Go.ChangeShapes
open Go.Proofs.YtjbcmedljgafkaaDoor.pgm (Fn FsAt getD_in)
open Go.Proofs.YtjbcmedljgafkaaDoor.objs (De zero cells3 CellsAt)
open Go.Proofs.YtjbcmedljgafkaaDoor.frames (Fr In num topF frB zeroF cell_block wl_load wl_alloc wl_store below_drewN')
open Go.Proofs.YtjbcmedljgafkaaDoor.within (within_any)
open Go.Proofs.YtjbcmedljgafkaaDoor.oper (Tab nm name_yes name_no)
set_option linter.unusedVariables false
set_option linter.unusedSimpArgs false

section
variable {ops : Array Oper} {rest : List Oper} {o : Oper} {a : Act} {w : World} {Q : Exit → Act → World → Prop} {K : Act → World → Prop} {S : World → Prop} {E : Prop}
theorem builtI0 : Tryd.prog.built 55 [] = some (insC zero).toArray := by kernel_rfl
theorem wi_build0 (hgd : o.guard = none) (ho : o.op = .build 55 #[])
    (h : wpList Tryd.prog ops Q rest (a.put o.dst (insV zero)) w) : wpList Tryd.prog ops Q (o :: rest) a w := by
  have e : ((#[] : Array (Nat × Operand)).map fun (i, x) => (i, a.eval x)).toList = [] := by simp
  refine wpList_build hgd _ _ ho (by rw [e, builtI0]; rfl) ?_
  rw [e, builtI0]
  exact h
theorem step_ialloc (hgd : o.guard = none) (ho : o.op = .alloc 55)
    (h : K (a.put o.dst (.pointer (some ⟨w.heap.size, 0, none⟩))) (w.alloc (insO zero))) : if Region.wanted o (yielded ops a.tmps) = true then Oper.wp Tryd.prog o a w K Q else E := by
  have hw : Region.wanted o (yielded ops a.tmps) = true := by simp [Region.wanted, hgd]
  rw [if_pos hw]
  have hr : (execOp a.eval o).run Tryd.prog w = .ok (.value (.pointer (some ⟨w.heap.size, 0, none⟩))) (w.alloc (insO zero)) := by
    unfold execOp
    simp only [ho, Instr.alloc, Sem.run_bind, zI_run, Result.andThen_ok, newVar, newRow, Sem.run_pure, Value.cells]
    rfl
  unfold Oper.wp
  rw [hr, Oper.upon_value]
  exact h
theorem step_istore (hgd : o.guard = none) (x y : Operand) (ho : o.op = .store 55 x y) (g : Nat) (z0 z : De) (hx : a.eval x = .pointer (some ⟨g, 0, none⟩)) (hy : a.eval y = insV z) (hg : w.heap[g]? = some (insO z0))
    (h : K (a.put o.dst undef) (w.setRow g (insC z).toArray)) : if Region.wanted o (yielded ops a.tmps) = true then Oper.wp Tryd.prog o a w K Q else E := by
  have hw : Region.wanted o (yielded ops a.tmps) = true := by simp [Region.wanted, hgd]
  rw [if_pos hw]
  exact wp_store_row _ x y ho g (insC z).toArray hx hy 55 (insC z0).toArray hg (sizeI rfl) rfl (insC_all z) h
theorem yields_ins (hw : o.guard = none) (y : Operand) (ho : o.op = .load 55 y) (b i : Nat) (hx : a.eval y = .pointer (some ⟨b, i, none⟩)) (z : De) (hS : ∀ w, S w → CellsAt w b i z) : YieldsIf Tryd.prog ops S o (insV z) a :=
  yieldsIf_load_mid (by simp [Region.wanted, hw]) _ y ho b i hx (insC z) _ (fun w h j v hv => by
    obtain ⟨h0, h1, h2⟩ := hS w h
    match j, hv with
    | 0, hv => rw [show some v = some (Value.int .i64 z.1) from hv.symm]; exact h0
    | 1, hv => rw [show some v = some (Value.int .i64 z.2.1) from hv.symm]; exact h1
    | 2, hv => rw [show some v = some (Value.int .i64 z.2.2) from hv.symm]; exact h2) Tryd.underlying55 rfl (sizeI rfl)
theorem yields_frfld (hg : o.guard = none) (y : Operand) (k : Nat) (hk : k < 2) (ho : o.op = .fieldAddr 45 y k) (g : Nat) (hx : a.eval y = .pointer (some ⟨g, 0, none⟩)) : YieldsIf Tryd.prog ops S o (.pointer (some ⟨g, k, none⟩)) a :=
  .inl ⟨by simp [Region.wanted, hg], fun w' _ => by
    unfold execOp
    simp only [ho, hx]
    match k, hk with
    | 0, _ => go_simp
    | 1, _ => go_simp⟩
theorem yields_ff2 (hg : o.guard = none) (y : Operand) (ho : o.op = .fieldAddr 58 y 2) (b i : Nat) (hx : a.eval y = .pointer (some ⟨b, i, none⟩)) : YieldsIf Tryd.prog ops S o (.pointer (some ⟨b, i + 2, none⟩)) a :=
  .inl ⟨by simp [Region.wanted, hg], fun w' _ => by
    unfold execOp
    simp only [ho, hx]
    go_simp⟩
theorem yields_csl (hg : o.guard = none) (y : Operand) (ho : o.op = .load 56 y) (p : Addr) (hx : a.eval y = .pointer (some p)) (A : Option Addr) (n c : Nat) (hS : ∀ w, S w → w.cell? p = some (.slice A n c)) : YieldsIf Tryd.prog ops S o (.slice A n c) a :=
  .inl ⟨by simp [Region.wanted, hg], fun w' h => by
    have hc := hS w' h
    unfold execOp
    simp only [ho, hx]
    go_simp⟩
theorem yields_cidx (hg : o.guard = none) (y z : Operand) (ho : o.op = .indexAddr 56 y z) (b i n c j : Nat) (hx : a.eval y = .slice (some ⟨b, i, none⟩) n c) (hz : a.eval z = .int .i64 (j : Int)) (k0 : (0 : Int) ≤ (j : Int)) (k1 : (j : Int) < (n : Int)) : YieldsIf Tryd.prog ops S o (.pointer (some ⟨b, i + j * 3, none⟩)) a :=
  .inl ⟨by simp [Region.wanted, hg], fun w' _ => by
    unfold execOp
    simp only [ho, hx, hz]
    go_simp⟩
theorem yields_named (hg : o.guard = none) (y : Operand) (ho : o.op = .binOp .neq 9 y (.const (.string ⟨#[]⟩)) 9) (x : ByteArray) (b : Bool) (hx : a.eval y = .string x) (hb : x.toList.isEmpty = !b) : YieldsIf Tryd.prog ops S o (.bool b) a :=
  .inl ⟨by simp [Region.wanted, hg], fun w' _ => by
    have hz : a.eval (.const (.string ⟨#[]⟩)) = .string ⟨#[]⟩ := rfl
    unfold execOp
    simp only [ho, hx, hz]
    simp [go_sem, hb]⟩
end

/-- What is told of the instruction at which the last frame is. -/
def CurPost (q : Option De) (w : World) (e : Ending) (w' : World) : Prop :=
  Below w.heap.size w w' ∧ ∃ (z : De) (b : Bool), e = .returned (.tuple #[insV z, .bool b]) ∧ q = if b then some z else none
theorem cur_ret {W : World} {act : Act} {g : Nat} {z : De} {b : Bool} {R : Ending → World → Prop} (h4 : act.tmps[4]?.getD undef = .pointer (some ⟨g, 0, none⟩)) (h5 : act.tmps[5]?.getD undef = .bool b) (hd : act.defers = [])
    (hx : W.heap[g]? = some (insO z)) (hR : R (.returned (.tuple #[insV z, .bool b])) W) : bodyPost Tryd.prog Tryd.f18 R .ret act W := by
  have hL := run_loadVar_mid (P := Tryd.prog) W g 0 55 (insC z) _ (ins_range hx) Tryd.underlying55 rfl (sizeI rfl)
  refine bodyPost_ret (v := .tuple #[insV z, .bool b]) ?_ hd hR
  simp [results, Tryd.results18, asAddr, h4, h5, hL, Sem.run_bind, Sem.run_pure, Result.andThen, insV_eq]
/-- Memory while it is looked: the program's box, the answer's, and, if there is a last frame, that one's. -/
structure Zc (w : World) (pb : Obj) (z : De) (W : World) : Prop where
  below : Below w.heap.size w W
  b0 : W.heap[w.heap.size]? = some pb
  b1 : W.heap[w.heap.size + 1]? = some (insO z)
theorem Zc.next {w W W' : World} {pb : Obj} {z : De} (h : Zc w pb z W) (hb : Below W.heap.size W W') : Zc w pb z W' := ⟨h.below.trans (hb.mono h.below.size), (hb.block _ (lt_of_block h.b0)).trans h.b0, (hb.block _ (lt_of_block h.b1)).trans h.b1⟩
theorem Zc.store {w W : World} {pb : Obj} {z0 : De} (h : Zc w pb z0 W) (z : De) : Zc w pb z (W.setRow (w.heap.size + 1) (insC z).toArray) :=
  ⟨Go.Proofs.YtjbcmedljgafkaaDoor.frames.row_below h.below (Nat.le_succ _) _, (Go.Proofs.YtjbcmedljgafkaaDoor.frames.row_far _ (by omega)).trans h.b0, row_turned h.b1 _⟩
/-- And the last frame's box. -/
structure Zf (w : World) (pb : Obj) (z : De) (g : Nat) (f : Fr) (W : World) : Prop where
  zc : Zc w pb z W
  fr : W.heap[g]? = some (frB f)
  far : w.heap.size + 1 < g
theorem Zf.next {w W W' : World} {pb : Obj} {z : De} {g : Nat} {f : Fr} (h : Zf w pb z g f W) (hb : Below W.heap.size W W') : Zf w pb z g f W' := ⟨h.zc.next hb, (hb.block _ (lt_of_block h.fr)).trans h.fr, h.far⟩
theorem Zf.store {w W : World} {pb : Obj} {z0 : De} {g : Nat} {f : Fr} (h : Zf w pb z0 g f W) (z : De) : Zf w pb z g f (W.setRow (w.heap.size + 1) (insC z).toArray) := ⟨h.zc.store z, (Go.Proofs.YtjbcmedljgafkaaDoor.frames.row_far _ (by have := h.far; omega)).trans h.fr, h.far⟩
theorem name_full : ∀ k, k < 52 → (nm.getD k ⟨#[]⟩).toList.isEmpty = false := by decide +kernel

set_option maxRecDepth 100000 in
set_option maxHeartbeats 4000000 in
theorem current_any (x y : Value) (C : Option Addr) (cc : Nat) (fs : List Fn) (A : Option Addr) (c : Nat) (l : List Fr) (w : World) (hF : FsAt w C fs) (hsm : fs.length ≤ 20) (hsc : ∀ f ∈ fs, f.co.length ≤ 250) (hI : In w A c l) (hT : Tab w) (hg : 0 < w.heap.size) :
    Calls Tryd.prog 18 #[.agg #[x, y, .slice C fs.length cc], .slice A l.length c] w (CurPost (curR fs l) w) := by
  have hb0 : Below w.heap.size w (w.alloc (.cells #[x, y, .slice C fs.length cc] 26)) := (Below.refl _ w).alloc (Nat.le_refl _) _
  have hz1 : (w.alloc (.cells #[x, y, .slice C fs.length cc] 26)).heap.size = w.heap.size + 1 := World.size_alloc _ _
  have HZ : Hid (Zc w (.cells #[x, y, .slice C fs.length cc] 26 (0, 0)) zero ((w.alloc (.cells #[x, y, .slice C fs.length cc] 26)).alloc (insO zero))) := Lib.hid ⟨hb0.alloc (by rw [hz1]; omega) _, (Below.heap_alloc _ _ _ (by rw [hz1]; omega)).trans (heap_alloc_new w _), by rw [← hz1]; exact heap_alloc_new _ _⟩
  obtain ⟨q, hQ⟩ : ∃ q, q = curR fs l := ⟨_, rfl⟩
  rw [← hQ]
  unfold curR at hQ
  by_cases h0 : l.length = 0
  · rw [if_pos (.inl h0)] at hQ
    have HQ := Lib.hid hQ
    have q1 : ((l.length : Int) == 0) = true := by rw [h0]; rfl
    have q2 : (l.length == 0) = true := by rw [h0]; rfl
    clear hQ hb0 hz1 hF hsm hsc hI hT hg h0
    go_enter Tryd.func18, Tryd.ntmps18
    go_upto_region 1 with (first | refine wi_alloc rfl rfl ?_)
    try simp only [Act.put, List.setIfInBounds_toArray, List.set_cons_zero, List.set_cons_succ, World.size_alloc]
    generalize (w.alloc (.cells #[x, y, .slice C fs.length cc] 26)).alloc (insO zero) = W1 at *
    go_wp2_with (first | refine wi_build0 rfl rfl ?_ | refine wi_store rfl _ _ rfl (w.heap.size + 1) zero zero rfl rfl HZ.out.b1 ?_)
    rw [HQ.out]
    exact cur_ret rfl rfl rfl (HZ.out.store zero).b1 ⟨(HZ.out.store zero).below, zero, false, rfl, rfl⟩
  have hcur : ∀ r : Option De, q = r → Hid (q = r) := fun r h => Lib.hid h
  obtain ⟨b, off, m, rfl, hm, hb, hFr, hl27⟩ := hI.top h0
  have hlen := hI.len
  have hcap := hI.cap
  rw [show insZ fs l = (fs.getD (num (topF l) 0).toNat Fn.zero).co.getD (num (topF l) 1).toNat zero from rfl] at hQ
  generalize topF l = f at *
  have HFr := Lib.hid (And.intro hb hFr)
  have e0 : ((l.length : Int) == 0) = false := by rw [beq_eq_false_iff_ne]; omega
  rw [hm] at hlen hcap e0 ⊢
  have k0 : (0 : Int) ≤ (m : Int) := by omega
  have k1 : (m : Int) < ((m + 1 : Nat) : Int) := by omega
  have k2 : (m : Int) < (m : Int) + 1 := by omega
  have hw0 : IntKind.i64.wrap ((m : Int) + 1 - 1) = (m : Int) := by rw [IntKind.wrap_i64]; omega
  have hw1 : IntKind.i64.wrap (m : Int) = (m : Int) := by rw [IntKind.wrap_i64]; omega
  have HWi := fun (W : World) => Lib.hid (within_any (num f 0) 0 ((fs.length : Int) - 1) W)
  have hw2 : IntKind.i64.wrap ((fs.length : Int) - 1) = (fs.length : Int) - 1 := by rw [IntKind.wrap_i64]; omega
  have hw3 : wrap64 ((fs.length : Int) - 1) = (fs.length : Int) - 1 := by unfold wrap64; omega
  by_cases hfn : 0 ≤ num f 0 ∧ num f 0 ≤ (fs.length : Int) - 1
  · rw [decide_eq_true hfn] at HWi
    obtain ⟨i, hi⟩ : ∃ i : Nat, num f 0 = (i : Int) := ⟨(num f 0).toNat, by omega⟩
    have hil : i < fs.length := by omega
    rw [hi, Int.toNat_natCast] at hQ
    rw [hi] at HWi
    obtain ⟨gf, of, Aj, cj, rfl, hgf, ⟨f0w, f1w, f2w⟩, hDw⟩ := hF i hil
    have hcl := hsc _ (getD_in (d := Fn.zero) hil)
    have i0 : (0 : Int) ≤ (i : Int) := by omega
    have i1 : (i : Int) < (fs.length : Int) := by omega
    generalize (fs.getD i Fn.zero).co = co at *
    have HF2 := Lib.hid (And.intro hgf f2w)
    have HDw := Lib.hid hDw
    have HWp := fun (W : World) => Lib.hid (within_any (num f 1) 0 ((co.length : Int) - 1) W)
    have hw4 : IntKind.i64.wrap ((co.length : Int) - 1) = (co.length : Int) - 1 := by rw [IntKind.wrap_i64]; omega
    have hw5 : wrap64 ((co.length : Int) - 1) = (co.length : Int) - 1 := by unfold wrap64; omega
    have HHi := Lib.hid hi
    by_cases hpc : 0 ≤ num f 1 ∧ num f 1 ≤ (co.length : Int) - 1
    · rw [decide_eq_true hpc] at HWp
      obtain ⟨j, hj⟩ : ∃ j : Nat, num f 1 = (j : Int) := ⟨(num f 1).toNat, by omega⟩
      have hjl : j < co.length := by omega
      rw [hj, Int.toNat_natCast, if_neg (by rintro (e | e | e); exact h0 e; exact e ⟨by omega, by omega⟩; exact e ⟨by omega, by omega⟩)] at hQ
      rw [hj] at HWp
      obtain ⟨gc, oc, rfl, hgc, hcw⟩ := hDw j hjl
      have j0 : (0 : Int) ≤ (j : Int) := by omega
      have j1 : (j : Int) < (co.length : Int) := by omega
      have HHj := Lib.hid hj
      have HCw := Lib.hid (And.intro hgc hcw)
      generalize co.getD j zero = z at *
      have HT := Lib.hid hT
      have HG := Lib.hid hg
      have HNm : ∀ W, Below w.heap.size w W → Hid (∃ (s : ByteArray) (b : Bool), s.toList.isEmpty = (!b) ∧ q = (if b then some z else none) ∧ Calls Tryd.prog 38 #[.int .i64 z.1] W fun e w' => e = .returned (.string s) ∧ W = w') := fun W hW => Lib.hid (by
        have hTW : Tab W := HT.out.below hW HG.out
        by_cases hk : 0 ≤ z.1 ∧ z.1 ≤ 51
        · obtain ⟨k, hk1, hk2⟩ := Go.Proofs.YtjbcmedljgafkaaDoor.oper.nat_of hk
          refine ⟨nm.getD k ⟨#[]⟩, true, name_full k hk1, by rw [hQ, if_pos hk]; rfl, ?_⟩
          rw [hk2]
          exact name_yes k hk1 W hTW
        · refine ⟨⟨#[]⟩, false, by decide +kernel, by rw [hQ, if_neg hk]; rfl, ?_⟩
          exact name_no z.1 (by omega) W)
      clear hQ hb0 hz1 hF hsm hsc hI hT hg h0 hcur hfn hpc hm hb hFr hl27 hcl hDw hi hj hil hjl f0w f1w f2w hgf hgc hcw
      go_enter Tryd.func18, Tryd.ntmps18
      go_upto_region 1 with (first | refine wi_alloc rfl rfl ?_)
      try simp only [Act.put, List.setIfInBounds_toArray, List.set_cons_zero, List.set_cons_succ, World.size_alloc]
      generalize (w.alloc (.cells #[x, y, .slice (some ⟨gf, of, none⟩) fs.length cc] 26)).alloc (insO zero) = W1 at *
      have HFc : Hid (Go.Proofs.YtjbcmedljgafkaaDoor.frames.FCells W1 b (off + m * 27) f) := Lib.hid (HFr.out.2.keep (HZ.out.below.block b HFr.out.1))
      go_upto_region 4 with (first | refine wl_load rfl _ rfl b (off + m * 27) rfl f HFc.out ?_ | refine wl_alloc rfl rfl ?_ | refine wl_store rfl _ _ rfl W1 zeroF _ rfl rfl rfl ?_)
      try simp only [Act.put, List.setIfInBounds_toArray, List.set_cons_zero, List.set_cons_succ]
      have HZf : Hid (Zf w (.cells #[x, y, .slice (some ⟨gf, of, none⟩) fs.length cc] 26 (0, 0)) zero W1.heap.size f (W1.alloc (frB f))) := Lib.hid ⟨HZ.out.next ((Below.refl _ _).alloc (Nat.le_refl _) _), heap_alloc_new W1 _, lt_of_block HZ.out.b1⟩
      generalize W1.alloc (frB f) = W2 at *
      generalize W1.heap.size = g at *
      clear HFc HZ
      obtain ⟨y0, y1, y2, -, -, -⟩ := cells3 HZf.out.zc.b0
      have v0 := cell_block HZf.out.fr (k := 0) (by omega)
      have v1 := cell_block HZf.out.fr (k := 1) (by omega)
      rw [HHi.out] at v0
      rw [HHj.out] at v1
      have u2 := (HZf.out.zc.below.cell (p := ⟨gf, of + i * 3 + 2, none⟩) HF2.out.1).trans HF2.out.2
      go_quiet ((first
        | (go_at_call_of 35 (i : Int); exact Calls.quiet_of_same ((HWi _).out.mono fun _ _ h => ⟨h.1, h.2.symm⟩))
        | (go_at_call_of 35 (j : Int); exact Calls.quiet_of_same ((HWp _).out.mono fun _ _ h => ⟨h.1, h.2.symm⟩))))
      have HZg := Lib.hid (HZf.out.next (below_drewN' (Below.refl _ _) nq))
      clear y0 y1 y2 v0 v1 u2 HZf
      generalize W2.drewN nq = W3 at *
      go_upto_region 6 with fail
      -- REGION6
      refine Go.Proofs.YtjbcmedljgafkaaDoor.frames.wp_hold_act (fun a0 HA0 => ?_)
      have z0 : a0.tmps.size = 58 := by rw [HA0.out]; rfl
      have dd0 : a0.defers = [] := by rw [HA0.out]
      have f0_2 : a0.eval (.tmp 2) = .pointer (some ⟨w.heap.size, 0, none⟩) := by rw [HA0.out]; rfl
      have f0_6 : a0.eval (.tmp 6) = .pointer (some ⟨g, 0, none⟩) := by rw [HA0.out]; rfl
      have f0_4 : a0.eval (.tmp 4) = .pointer (some ⟨w.heap.size + 1, 0, none⟩) := by rw [HA0.out]; rfl
      clear HA0
      refine wp_region_held_drew (S := fun w' => Zf w (.cells #[x, y, .slice (some ⟨gf, of, none⟩) fs.length cc] 26 (0, 0)) zero g f w') (by kernel_rfl) (HZg.out.next (Below.refl _ _).drew) (fun hS => ?_)
      refine wpAnyH_take (i := 0) (v := .pointer (some ⟨w.heap.size, 2, none⟩)) rfl (by kernel_rfl) (by kernel_rfl) (by kernel_rfl) (fun _ _ _ h => h) (yields_pfld rfl (.tmp 2) rfl _ f0_2) hS ?_
      obtain ⟨a1, hA1⟩ : ∃ a', a' = a0.put (some 42) (.pointer (some ⟨w.heap.size, 2, none⟩)) := ⟨_, rfl⟩
      change wpAnyH _ _ _ _ _ _ _ (a0.put (some 42) (.pointer (some ⟨w.heap.size, 2, none⟩))) _
      rw [← hA1]
      have f1_42 : a1.eval (.tmp 42) = .pointer (some ⟨w.heap.size, 2, none⟩) := by rw [hA1]; exact Act.eval_put_same _ _ _ (by omega)
      have f1_6 : a1.eval (.tmp 6) = .pointer (some ⟨g, 0, none⟩) := by rw [hA1]; exact (Act.eval_put_ne _ _ _ _ (by decide)).trans f0_6
      have f1_4 : a1.eval (.tmp 4) = .pointer (some ⟨w.heap.size + 1, 0, none⟩) := by rw [hA1]; exact (Act.eval_put_ne _ _ _ _ (by decide)).trans f0_4
      have z1 : a1.tmps.size = 58 := by rw [hA1, Act.size_put]; exact z0
      have dd1 : a1.defers = [] := by rw [hA1, Act.defers_put']; exact dd0
      clear hA1 z0 dd0 f0_2 f0_6 f0_4
      refine wpAnyH_take (i := 1) (v := .slice (some ⟨gf, of, none⟩) fs.length cc) rfl (by kernel_rfl) (by kernel_rfl) (by kernel_rfl) (fun _ _ _ h => h) (yields_fsl rfl (.tmp 42) rfl _ f1_42 _ _ _ (fun _ h => (cells3 h.zc.b0).2.2.1)) hS ?_
      obtain ⟨a2, hA2⟩ : ∃ a', a' = a1.put (some 43) (.slice (some ⟨gf, of, none⟩) fs.length cc) := ⟨_, rfl⟩
      change wpAnyH _ _ _ _ _ _ _ (a1.put (some 43) (.slice (some ⟨gf, of, none⟩) fs.length cc)) _
      rw [← hA2]
      have f2_43 : a2.eval (.tmp 43) = .slice (some ⟨gf, of, none⟩) fs.length cc := by rw [hA2]; exact Act.eval_put_same _ _ _ (by omega)
      have f2_6 : a2.eval (.tmp 6) = .pointer (some ⟨g, 0, none⟩) := by rw [hA2]; exact (Act.eval_put_ne _ _ _ _ (by decide)).trans f1_6
      have f2_4 : a2.eval (.tmp 4) = .pointer (some ⟨w.heap.size + 1, 0, none⟩) := by rw [hA2]; exact (Act.eval_put_ne _ _ _ _ (by decide)).trans f1_4
      have z2 : a2.tmps.size = 58 := by rw [hA2, Act.size_put]; exact z1
      have dd2 : a2.defers = [] := by rw [hA2, Act.defers_put']; exact dd1
      clear hA2 z1 dd1 f1_42 f1_6 f1_4
      refine wpAnyH_take (i := 2) (v := .pointer (some ⟨g, 0, none⟩)) rfl (by kernel_rfl) (by kernel_rfl) (by kernel_rfl) (fun _ _ _ h => h) (yields_frfld rfl (.tmp 6) 0 (by omega) rfl _ f2_6) hS ?_
      obtain ⟨a3, hA3⟩ : ∃ a', a' = a2.put (some 44) (.pointer (some ⟨g, 0, none⟩)) := ⟨_, rfl⟩
      change wpAnyH _ _ _ _ _ _ _ (a2.put (some 44) (.pointer (some ⟨g, 0, none⟩))) _
      rw [← hA3]
      have f3_44 : a3.eval (.tmp 44) = .pointer (some ⟨g, 0, none⟩) := by rw [hA3]; exact Act.eval_put_same _ _ _ (by omega)
      have f3_43 : a3.eval (.tmp 43) = .slice (some ⟨gf, of, none⟩) fs.length cc := by rw [hA3]; exact (Act.eval_put_ne _ _ _ _ (by decide)).trans f2_43
      have f3_6 : a3.eval (.tmp 6) = .pointer (some ⟨g, 0, none⟩) := by rw [hA3]; exact (Act.eval_put_ne _ _ _ _ (by decide)).trans f2_6
      have f3_4 : a3.eval (.tmp 4) = .pointer (some ⟨w.heap.size + 1, 0, none⟩) := by rw [hA3]; exact (Act.eval_put_ne _ _ _ _ (by decide)).trans f2_4
      have z3 : a3.tmps.size = 58 := by rw [hA3, Act.size_put]; exact z2
      have dd3 : a3.defers = [] := by rw [hA3, Act.defers_put']; exact dd2
      clear hA3 z2 dd2 f2_43 f2_6 f2_4
      refine wpAnyH_take (i := 3) (v := .int .i64 (i : Int)) rfl (by kernel_rfl) (by kernel_rfl) (by kernel_rfl) (fun _ _ _ h => h) (yields_int rfl (.tmp 44) rfl _ f3_44 _ (fun _ h => (cell_block h.fr (k := 0) (by omega)).trans (by rw [HHi.out]))) hS ?_
      obtain ⟨a4, hA4⟩ : ∃ a', a' = a3.put (some 45) (.int .i64 (i : Int)) := ⟨_, rfl⟩
      change wpAnyH _ _ _ _ _ _ _ (a3.put (some 45) (.int .i64 (i : Int))) _
      rw [← hA4]
      have f4_45 : a4.eval (.tmp 45) = .int .i64 (i : Int) := by rw [hA4]; exact Act.eval_put_same _ _ _ (by omega)
      have f4_43 : a4.eval (.tmp 43) = .slice (some ⟨gf, of, none⟩) fs.length cc := by rw [hA4]; exact (Act.eval_put_ne _ _ _ _ (by decide)).trans f3_43
      have f4_6 : a4.eval (.tmp 6) = .pointer (some ⟨g, 0, none⟩) := by rw [hA4]; exact (Act.eval_put_ne _ _ _ _ (by decide)).trans f3_6
      have f4_4 : a4.eval (.tmp 4) = .pointer (some ⟨w.heap.size + 1, 0, none⟩) := by rw [hA4]; exact (Act.eval_put_ne _ _ _ _ (by decide)).trans f3_4
      have z4 : a4.tmps.size = 58 := by rw [hA4, Act.size_put]; exact z3
      have dd4 : a4.defers = [] := by rw [hA4, Act.defers_put']; exact dd3
      clear hA4 z3 dd3 f3_44 f3_43 f3_6 f3_4
      refine wpAnyH_take (i := 4) (v := .pointer (some ⟨gf, of + i * 3, none⟩)) rfl (by kernel_rfl) (by kernel_rfl) (by kernel_rfl) (fun _ _ _ h => h) (yields_fidx rfl (.tmp 43) (.tmp 45) rfl _ _ _ _ i f4_43 f4_45 i0 i1) hS ?_
      obtain ⟨a5, hA5⟩ : ∃ a', a' = a4.put (some 46) (.pointer (some ⟨gf, of + i * 3, none⟩)) := ⟨_, rfl⟩
      change wpAnyH _ _ _ _ _ _ _ (a4.put (some 46) (.pointer (some ⟨gf, of + i * 3, none⟩))) _
      rw [← hA5]
      have f5_46 : a5.eval (.tmp 46) = .pointer (some ⟨gf, of + i * 3, none⟩) := by rw [hA5]; exact Act.eval_put_same _ _ _ (by omega)
      have f5_6 : a5.eval (.tmp 6) = .pointer (some ⟨g, 0, none⟩) := by rw [hA5]; exact (Act.eval_put_ne _ _ _ _ (by decide)).trans f4_6
      have f5_4 : a5.eval (.tmp 4) = .pointer (some ⟨w.heap.size + 1, 0, none⟩) := by rw [hA5]; exact (Act.eval_put_ne _ _ _ _ (by decide)).trans f4_4
      have z5 : a5.tmps.size = 58 := by rw [hA5, Act.size_put]; exact z4
      have dd5 : a5.defers = [] := by rw [hA5, Act.defers_put']; exact dd4
      clear hA5 z4 dd4 f4_45 f4_43 f4_6 f4_4
      refine wpAnyH_take (i := 5) (v := .pointer (some ⟨gf, of + i * 3 + 2, none⟩)) rfl (by kernel_rfl) (by kernel_rfl) (by kernel_rfl) (fun _ _ _ h => h) (yields_ff2 rfl (.tmp 46) rfl _ _ f5_46) hS ?_
      obtain ⟨a6, hA6⟩ : ∃ a', a' = a5.put (some 47) (.pointer (some ⟨gf, of + i * 3 + 2, none⟩)) := ⟨_, rfl⟩
      change wpAnyH _ _ _ _ _ _ _ (a5.put (some 47) (.pointer (some ⟨gf, of + i * 3 + 2, none⟩))) _
      rw [← hA6]
      have f6_47 : a6.eval (.tmp 47) = .pointer (some ⟨gf, of + i * 3 + 2, none⟩) := by rw [hA6]; exact Act.eval_put_same _ _ _ (by omega)
      have f6_6 : a6.eval (.tmp 6) = .pointer (some ⟨g, 0, none⟩) := by rw [hA6]; exact (Act.eval_put_ne _ _ _ _ (by decide)).trans f5_6
      have f6_4 : a6.eval (.tmp 4) = .pointer (some ⟨w.heap.size + 1, 0, none⟩) := by rw [hA6]; exact (Act.eval_put_ne _ _ _ _ (by decide)).trans f5_4
      have z6 : a6.tmps.size = 58 := by rw [hA6, Act.size_put]; exact z5
      have dd6 : a6.defers = [] := by rw [hA6, Act.defers_put']; exact dd5
      clear hA6 z5 dd5 f5_46 f5_6 f5_4
      refine wpAnyH_take (i := 6) (v := .slice (some ⟨gc, oc, none⟩) co.length cj) rfl (by kernel_rfl) (by kernel_rfl) (by kernel_rfl) (fun _ _ _ h => h) (yields_csl rfl (.tmp 47) rfl _ f6_47 _ _ _ (fun _ h => (h.zc.below.cell (p := ⟨gf, of + i * 3 + 2, none⟩) HF2.out.1).trans HF2.out.2)) hS ?_
      obtain ⟨a7, hA7⟩ : ∃ a', a' = a6.put (some 48) (.slice (some ⟨gc, oc, none⟩) co.length cj) := ⟨_, rfl⟩
      change wpAnyH _ _ _ _ _ _ _ (a6.put (some 48) (.slice (some ⟨gc, oc, none⟩) co.length cj)) _
      rw [← hA7]
      have f7_48 : a7.eval (.tmp 48) = .slice (some ⟨gc, oc, none⟩) co.length cj := by rw [hA7]; exact Act.eval_put_same _ _ _ (by omega)
      have f7_6 : a7.eval (.tmp 6) = .pointer (some ⟨g, 0, none⟩) := by rw [hA7]; exact (Act.eval_put_ne _ _ _ _ (by decide)).trans f6_6
      have f7_4 : a7.eval (.tmp 4) = .pointer (some ⟨w.heap.size + 1, 0, none⟩) := by rw [hA7]; exact (Act.eval_put_ne _ _ _ _ (by decide)).trans f6_4
      have z7 : a7.tmps.size = 58 := by rw [hA7, Act.size_put]; exact z6
      have dd7 : a7.defers = [] := by rw [hA7, Act.defers_put']; exact dd6
      clear hA7 z6 dd6 f6_47 f6_6 f6_4
      refine wpAnyH_take (i := 7) (v := .pointer (some ⟨g, 1, none⟩)) rfl (by kernel_rfl) (by kernel_rfl) (by kernel_rfl) (fun _ _ _ h => h) (yields_frfld rfl (.tmp 6) 1 (by omega) rfl _ f7_6) hS ?_
      obtain ⟨a8, hA8⟩ : ∃ a', a' = a7.put (some 49) (.pointer (some ⟨g, 1, none⟩)) := ⟨_, rfl⟩
      change wpAnyH _ _ _ _ _ _ _ (a7.put (some 49) (.pointer (some ⟨g, 1, none⟩))) _
      rw [← hA8]
      have f8_49 : a8.eval (.tmp 49) = .pointer (some ⟨g, 1, none⟩) := by rw [hA8]; exact Act.eval_put_same _ _ _ (by omega)
      have f8_48 : a8.eval (.tmp 48) = .slice (some ⟨gc, oc, none⟩) co.length cj := by rw [hA8]; exact (Act.eval_put_ne _ _ _ _ (by decide)).trans f7_48
      have f8_4 : a8.eval (.tmp 4) = .pointer (some ⟨w.heap.size + 1, 0, none⟩) := by rw [hA8]; exact (Act.eval_put_ne _ _ _ _ (by decide)).trans f7_4
      have z8 : a8.tmps.size = 58 := by rw [hA8, Act.size_put]; exact z7
      have dd8 : a8.defers = [] := by rw [hA8, Act.defers_put']; exact dd7
      clear hA8 z7 dd7 f7_48 f7_6 f7_4
      refine wpAnyH_take (i := 8) (v := .int .i64 (j : Int)) rfl (by kernel_rfl) (by kernel_rfl) (by kernel_rfl) (fun _ _ _ h => h) (yields_int rfl (.tmp 49) rfl _ f8_49 _ (fun _ h => (cell_block h.fr (k := 1) (by omega)).trans (by rw [HHj.out]))) hS ?_
      obtain ⟨a9, hA9⟩ : ∃ a', a' = a8.put (some 50) (.int .i64 (j : Int)) := ⟨_, rfl⟩
      change wpAnyH _ _ _ _ _ _ _ (a8.put (some 50) (.int .i64 (j : Int))) _
      rw [← hA9]
      have f9_50 : a9.eval (.tmp 50) = .int .i64 (j : Int) := by rw [hA9]; exact Act.eval_put_same _ _ _ (by omega)
      have f9_48 : a9.eval (.tmp 48) = .slice (some ⟨gc, oc, none⟩) co.length cj := by rw [hA9]; exact (Act.eval_put_ne _ _ _ _ (by decide)).trans f8_48
      have f9_4 : a9.eval (.tmp 4) = .pointer (some ⟨w.heap.size + 1, 0, none⟩) := by rw [hA9]; exact (Act.eval_put_ne _ _ _ _ (by decide)).trans f8_4
      have z9 : a9.tmps.size = 58 := by rw [hA9, Act.size_put]; exact z8
      have dd9 : a9.defers = [] := by rw [hA9, Act.defers_put']; exact dd8
      clear hA9 z8 dd8 f8_49 f8_48 f8_4
      refine wpAnyH_take (i := 9) (v := .pointer (some ⟨gc, oc + j * 3, none⟩)) rfl (by kernel_rfl) (by kernel_rfl) (by kernel_rfl) (fun _ _ _ h => h) (yields_cidx rfl (.tmp 48) (.tmp 50) rfl _ _ _ _ j f9_48 f9_50 j0 j1) hS ?_
      obtain ⟨a10, hA10⟩ : ∃ a', a' = a9.put (some 51) (.pointer (some ⟨gc, oc + j * 3, none⟩)) := ⟨_, rfl⟩
      change wpAnyH _ _ _ _ _ _ _ (a9.put (some 51) (.pointer (some ⟨gc, oc + j * 3, none⟩))) _
      rw [← hA10]
      have f10_51 : a10.eval (.tmp 51) = .pointer (some ⟨gc, oc + j * 3, none⟩) := by rw [hA10]; exact Act.eval_put_same _ _ _ (by omega)
      have f10_4 : a10.eval (.tmp 4) = .pointer (some ⟨w.heap.size + 1, 0, none⟩) := by rw [hA10]; exact (Act.eval_put_ne _ _ _ _ (by decide)).trans f9_4
      have z10 : a10.tmps.size = 58 := by rw [hA10, Act.size_put]; exact z9
      have dd10 : a10.defers = [] := by rw [hA10, Act.defers_put']; exact dd9
      clear hA10 z9 dd9 f9_50 f9_48 f9_4
      refine wpAnyH_take (i := 10) (v := insV z) rfl (by kernel_rfl) (by kernel_rfl) (by kernel_rfl) (fun _ _ _ h => h) (yields_ins rfl (.tmp 51) rfl _ _ f10_51 z (fun _ h => HCw.out.2.keep (h.zc.below.block _ HCw.out.1))) hS ?_
      obtain ⟨a11, hA11⟩ : ∃ a', a' = a10.put (some 52) (insV z) := ⟨_, rfl⟩
      change wpAnyH _ _ _ _ _ _ _ (a10.put (some 52) (insV z)) _
      rw [← hA11]
      have f11_52 : a11.eval (.tmp 52) = insV z := by rw [hA11]; exact Act.eval_put_same _ _ _ (by omega)
      have f11_4 : a11.eval (.tmp 4) = .pointer (some ⟨w.heap.size + 1, 0, none⟩) := by rw [hA11]; exact (Act.eval_put_ne _ _ _ _ (by decide)).trans f10_4
      have z11 : a11.tmps.size = 58 := by rw [hA11, Act.size_put]; exact z10
      have dd11 : a11.defers = [] := by rw [hA11, Act.defers_put']; exact dd10
      clear hA11 z10 dd10 f10_51 f10_4
      refine wpAnyH_ready (rs := [11]) (by kernel_rfl) (by simp) (AllReadyH.cons (by simp only [List.getElem?_toArray, List.getElem?_cons_succ, List.getElem?_cons_zero]; rfl) (fun K hK => ?_) AllReadyH.nil)
      refine step_ialloc (by rfl) (by rfl) ?_
      have HZh := Lib.hid (HZg.out.next ((Below.refl _ _).drew.alloc (Nat.le_refl _) (insO zero)))
      have HX := Lib.hid (heap_alloc_new W3.drew (insO zero))
      have hg3 : w.heap.size + 1 < W3.drew.heap.size := lt_of_block HZg.out.zc.b1
      have hgf3 : g < W3.drew.heap.size := lt_of_block HZg.out.fr
      generalize W3.drew.alloc (insO zero) = W4 at *
      generalize W3.drew.heap.size = g2 at *
      refine hK.out _ _ HZh.out (fun hS => ?_)
      obtain ⟨a12, hA12⟩ : ∃ a', a' = a11.put (some 7) (.pointer (some ⟨g2, 0, none⟩)) := ⟨_, rfl⟩
      change wpAnyH _ _ _ _ _ _ _ (a11.put (some 7) (.pointer (some ⟨g2, 0, none⟩))) _
      rw [← hA12]
      have f12_7 : a12.eval (.tmp 7) = .pointer (some ⟨g2, 0, none⟩) := by rw [hA12]; exact Act.eval_put_same _ _ _ (by omega)
      have f12_52 : a12.eval (.tmp 52) = insV z := by rw [hA12]; exact (Act.eval_put_ne _ _ _ _ (by decide)).trans f11_52
      have f12_4 : a12.eval (.tmp 4) = .pointer (some ⟨w.heap.size + 1, 0, none⟩) := by rw [hA12]; exact (Act.eval_put_ne _ _ _ _ (by decide)).trans f11_4
      have z12 : a12.tmps.size = 58 := by rw [hA12, Act.size_put]; exact z11
      have dd12 : a12.defers = [] := by rw [hA12, Act.defers_put']; exact dd11
      clear hA12 z11 dd11 f11_52 f11_4
      refine wpAnyH_ready (rs := [12]) (by kernel_rfl) (by simp) (AllReadyH.cons (by simp only [List.getElem?_toArray, List.getElem?_cons_succ, List.getElem?_cons_zero]; rfl) (fun K hK => ?_) AllReadyH.nil)
      refine step_istore (by rfl) (.tmp 7) (.tmp 52) (by rfl) g2 zero z f12_7 f12_52 HX.out ?_
      have HZi : Hid (Zf w (.cells #[x, y, .slice (some ⟨gf, of, none⟩) fs.length cc] 26 (0, 0)) zero g f (W4.setRow g2 (insC z).toArray)) := Lib.hid ⟨⟨Go.Proofs.YtjbcmedljgafkaaDoor.frames.row_below HZh.out.zc.below (by omega) _, (Go.Proofs.YtjbcmedljgafkaaDoor.frames.row_far _ (by omega)).trans HZh.out.zc.b0, (Go.Proofs.YtjbcmedljgafkaaDoor.frames.row_far _ (by omega)).trans HZh.out.zc.b1⟩, (Go.Proofs.YtjbcmedljgafkaaDoor.frames.row_far _ (by omega)).trans HZh.out.fr, HZh.out.far⟩
      have HXi := Lib.hid (row_turned HX.out (insC z).toArray)
      generalize W4.setRow g2 (insC z).toArray = W5 at *
      clear HZh HX
      refine hK.out _ _ (HZi.out) (fun hS => ?_)
      change wpAnyH _ _ _ _ _ _ _ a12 _
      have HGn : Hid (w.heap.size + 1 < g2) := Lib.hid hg3
      clear hS hK K hg3 hgf3
      refine wpAnyH_done (by kernel_rfl) ?_ _
      go_upto_region 7 with fail
      obtain ⟨s, bn, hs, hqn, hNc⟩ := (HNm W5.drew (HZi.out.next (Below.refl _ _).drew).zc.below).out
      have HNc := Lib.hid hNc
      have HQn := Lib.hid hqn
      have HSn := Lib.hid hs
      clear hs hqn hNc HNm
      refine Go.Proofs.YtjbcmedljgafkaaDoor.frames.wp_hold_act (fun a0 HA0 => ?_)
      have z0 : a0.tmps.size = 58 := by rw [HA0.out]; exact z12
      have dd0 : a0.defers = [] := by rw [HA0.out]; exact dd12
      have f0_4 : a0.eval (.tmp 4) = .pointer (some ⟨w.heap.size + 1, 0, none⟩) := by rw [HA0.out]; exact f12_4
      have f0_7 : a0.eval (.tmp 7) = .pointer (some ⟨g2, 0, none⟩) := by rw [HA0.out]; exact f12_7
      clear HA0
      refine wp_region_held_drew (S := fun w' => (∃ z0, Zf w (.cells #[x, y, .slice (some ⟨gf, of, none⟩) fs.length cc] 26 (0, 0)) z0 g f w') ∧ w'.heap[g2]? = some (insO z)) (by kernel_rfl) (⟨⟨zero, HZi.out.next (Below.refl _ _).drew⟩, HXi.out⟩) (fun hS => ?_)
      refine wpAnyH_take (i := 0) (v := insV z) rfl (by kernel_rfl) (by kernel_rfl) (by kernel_rfl) (fun _ _ _ h => h) (yields_ins rfl (.tmp 7) rfl _ _ f0_7 z (fun _ h => ins_cells h.2)) hS ?_
      obtain ⟨a1, hA1⟩ : ∃ a', a' = a0.put (some 53) (insV z) := ⟨_, rfl⟩
      change wpAnyH _ _ _ _ _ _ _ (a0.put (some 53) (insV z)) _
      rw [← hA1]
      have f1_53 : a1.eval (.tmp 53) = insV z := by rw [hA1]; exact Act.eval_put_same _ _ _ (by omega)
      have f1_4 : a1.eval (.tmp 4) = .pointer (some ⟨w.heap.size + 1, 0, none⟩) := by rw [hA1]; exact (Act.eval_put_ne _ _ _ _ (by decide)).trans f0_4
      have f1_7 : a1.eval (.tmp 7) = .pointer (some ⟨g2, 0, none⟩) := by rw [hA1]; exact (Act.eval_put_ne _ _ _ _ (by decide)).trans f0_7
      have z1 : a1.tmps.size = 58 := by rw [hA1, Act.size_put]; exact z0
      have dd1 : a1.defers = [] := by rw [hA1, Act.defers_put']; exact dd0
      clear hA1 z0 dd0 f0_4 f0_7
      refine wpAnyH_take (i := 1) (v := .pointer (some ⟨g2, 0, none⟩)) rfl (by kernel_rfl) (by kernel_rfl) (by kernel_rfl) (fun _ _ _ h => h) (yields_fld rfl (.tmp 7) 0 (by omega) rfl _ f1_7) hS ?_
      obtain ⟨a2, hA2⟩ : ∃ a', a' = a1.put (some 54) (.pointer (some ⟨g2, 0, none⟩)) := ⟨_, rfl⟩
      change wpAnyH _ _ _ _ _ _ _ (a1.put (some 54) (.pointer (some ⟨g2, 0, none⟩))) _
      rw [← hA2]
      have f2_54 : a2.eval (.tmp 54) = .pointer (some ⟨g2, 0, none⟩) := by rw [hA2]; exact Act.eval_put_same _ _ _ (by omega)
      have f2_53 : a2.eval (.tmp 53) = insV z := by rw [hA2]; exact (Act.eval_put_ne _ _ _ _ (by decide)).trans f1_53
      have f2_4 : a2.eval (.tmp 4) = .pointer (some ⟨w.heap.size + 1, 0, none⟩) := by rw [hA2]; exact (Act.eval_put_ne _ _ _ _ (by decide)).trans f1_4
      have z2 : a2.tmps.size = 58 := by rw [hA2, Act.size_put]; exact z1
      have dd2 : a2.defers = [] := by rw [hA2, Act.defers_put']; exact dd1
      clear hA2 z1 dd1 f1_53 f1_4 f1_7
      refine wpAnyH_take (i := 2) (v := .int .i64 z.1) rfl (by kernel_rfl) (by kernel_rfl) (by kernel_rfl) (fun _ _ _ h => h) (yields_int rfl (.tmp 54) rfl _ f2_54 _ (fun _ h => (ins_cells h.2).1)) hS ?_
      obtain ⟨a3, hA3⟩ : ∃ a', a' = a2.put (some 55) (.int .i64 z.1) := ⟨_, rfl⟩
      change wpAnyH _ _ _ _ _ _ _ (a2.put (some 55) (.int .i64 z.1)) _
      rw [← hA3]
      have f3_55 : a3.eval (.tmp 55) = .int .i64 z.1 := by rw [hA3]; exact Act.eval_put_same _ _ _ (by omega)
      have f3_53 : a3.eval (.tmp 53) = insV z := by rw [hA3]; exact (Act.eval_put_ne _ _ _ _ (by decide)).trans f2_53
      have f3_4 : a3.eval (.tmp 4) = .pointer (some ⟨w.heap.size + 1, 0, none⟩) := by rw [hA3]; exact (Act.eval_put_ne _ _ _ _ (by decide)).trans f2_4
      have z3 : a3.tmps.size = 58 := by rw [hA3, Act.size_put]; exact z2
      have dd3 : a3.defers = [] := by rw [hA3, Act.defers_put']; exact dd2
      clear hA3 z2 dd2 f2_54 f2_53 f2_4
      refine wpAnyH_ready (rs := [3]) (by kernel_rfl) (by simp) (AllReadyH.cons (by simp only [List.getElem?_toArray, List.getElem?_cons_succ, List.getElem?_cons_zero]; rfl) (fun K hK => ?_) AllReadyH.nil)
      refine step_call (by rfl) 38 #[.tmp 55] #[3] (by rfl) #[.int .i64 z.1] (by simp only [List.map_toArray, List.map_cons, List.map_nil, f3_55]) Tryd.func38 (by kernel_rfl) rfl (HNc.out) (fun e w' hR => ?_)
      obtain ⟨rfl, rfl⟩ := hR
      refine ⟨_, rfl, hK.out _ _ (hS) (fun hS => ?_)⟩
      obtain ⟨a4, hA4⟩ : ∃ a', a' = a3.put (some 56) (.string s) := ⟨_, rfl⟩
      change wpAnyH _ _ _ _ _ _ _ (a3.put (some 56) (.string s)) _
      rw [← hA4]
      have f4_56 : a4.eval (.tmp 56) = .string s := by rw [hA4]; exact Act.eval_put_same _ _ _ (by omega)
      have f4_53 : a4.eval (.tmp 53) = insV z := by rw [hA4]; exact (Act.eval_put_ne _ _ _ _ (by decide)).trans f3_53
      have f4_4 : a4.eval (.tmp 4) = .pointer (some ⟨w.heap.size + 1, 0, none⟩) := by rw [hA4]; exact (Act.eval_put_ne _ _ _ _ (by decide)).trans f3_4
      have z4 : a4.tmps.size = 58 := by rw [hA4, Act.size_put]; exact z3
      have dd4 : a4.defers = [] := by rw [hA4, Act.defers_put']; exact dd3
      clear hA4 z3 dd3 f3_55 f3_53 f3_4
      refine wpAnyH_take (i := 4) (v := .bool bn) rfl (by kernel_rfl) (by kernel_rfl) (by kernel_rfl) (fun _ _ _ h => h) (yields_named rfl (.tmp 56) rfl s bn f4_56 HSn.out) hS ?_
      obtain ⟨a5, hA5⟩ : ∃ a', a' = a4.put (some 57) (.bool bn) := ⟨_, rfl⟩
      change wpAnyH _ _ _ _ _ _ _ (a4.put (some 57) (.bool bn)) _
      rw [← hA5]
      have f5_57 : a5.eval (.tmp 57) = .bool bn := by rw [hA5]; exact Act.eval_put_same _ _ _ (by omega)
      have f5_53 : a5.eval (.tmp 53) = insV z := by rw [hA5]; exact (Act.eval_put_ne _ _ _ _ (by decide)).trans f4_53
      have f5_4 : a5.eval (.tmp 4) = .pointer (some ⟨w.heap.size + 1, 0, none⟩) := by rw [hA5]; exact (Act.eval_put_ne _ _ _ _ (by decide)).trans f4_4
      have z5 : a5.tmps.size = 58 := by rw [hA5, Act.size_put]; exact z4
      have dd5 : a5.defers = [] := by rw [hA5, Act.defers_put']; exact dd4
      clear hA5 z4 dd4 f4_56 f4_53 f4_4
      refine wpAnyH_ready (rs := [5]) (by kernel_rfl) (by simp) (AllReadyH.cons (by simp only [List.getElem?_toArray, List.getElem?_cons_succ, List.getElem?_cons_zero]; rfl) (fun K hK => ?_) AllReadyH.nil)
      refine step_istore (by rfl) (.tmp 4) (.tmp 53) (by rfl) (w.heap.size + 1) _ z f5_4 f5_53 hS.1.choose_spec.zc.b1 ?_
      have HZk := Lib.hid (hS.1.choose_spec.store z)
      refine hK.out _ _ ⟨⟨_, HZk.out⟩, (Go.Proofs.YtjbcmedljgafkaaDoor.frames.row_far _ (by have := HGn.out; omega)).trans hS.2⟩ (fun hS => ?_)
      change wpAnyH _ _ _ _ _ _ _ a5 _
      refine wpAnyH_take (i := 6) (v := .bool bn) rfl (by kernel_rfl) (by kernel_rfl) (by kernel_rfl) (fun _ _ _ h => h) (yields_assign rfl (.tmp 57) rfl f5_57) hS ?_
      obtain ⟨a6, hA6⟩ : ∃ a', a' = a5.put (some 5) (.bool bn) := ⟨_, rfl⟩
      change wpAnyH _ _ _ _ _ _ _ (a5.put (some 5) (.bool bn)) _
      rw [← hA6]
      have f6_5 : a6.eval (.tmp 5) = .bool bn := by rw [hA6]; exact Act.eval_put_same _ _ _ (by omega)
      have f6_53 : a6.eval (.tmp 53) = insV z := by rw [hA6]; exact (Act.eval_put_ne _ _ _ _ (by decide)).trans f5_53
      have f6_4 : a6.eval (.tmp 4) = .pointer (some ⟨w.heap.size + 1, 0, none⟩) := by rw [hA6]; exact (Act.eval_put_ne _ _ _ _ (by decide)).trans f5_4
      have z6 : a6.tmps.size = 58 := by rw [hA6, Act.size_put]; exact z5
      have dd6 : a6.defers = [] := by rw [hA6, Act.defers_put']; exact dd5
      clear hA6 z5 dd5 f5_57 f5_53 f5_4
      refine wpAnyH_done (by kernel_rfl) ?_ _
      go_wp2_with fail
      exact cur_ret (by rw [← Array.getD_eq_getD_getElem?]; exact f6_4) (by rw [← Array.getD_eq_getD_getElem?]; exact f6_5) dd6 HZk.out.zc.b1 ⟨HZk.out.zc.below, z, bn, rfl, HQn.out⟩
      -- END6
    · rw [decide_eq_false hpc] at HWp
      rw [if_pos (.inr (.inr hpc))] at hQ
      have HQ := Lib.hid hQ
      clear hQ hb0 hz1 hF hsm hsc hI hT hg h0 hcur hfn hm hb hFr hl27 hcl hDw hi hil f0w f1w f2w hgf hpc
      go_enter Tryd.func18, Tryd.ntmps18
      go_upto_region 1 with (first | refine wi_alloc rfl rfl ?_)
      try simp only [Act.put, List.setIfInBounds_toArray, List.set_cons_zero, List.set_cons_succ, World.size_alloc]
      generalize (w.alloc (.cells #[x, y, .slice (some ⟨gf, of, none⟩) fs.length cc] 26)).alloc (insO zero) = W1 at *
      have HFc : Hid (Go.Proofs.YtjbcmedljgafkaaDoor.frames.FCells W1 b (off + m * 27) f) := Lib.hid (HFr.out.2.keep (HZ.out.below.block b HFr.out.1))
      go_upto_region 4 with (first | refine wl_load rfl _ rfl b (off + m * 27) rfl f HFc.out ?_ | refine wl_alloc rfl rfl ?_ | refine wl_store rfl _ _ rfl W1 zeroF _ rfl rfl rfl ?_)
      try simp only [Act.put, List.setIfInBounds_toArray, List.set_cons_zero, List.set_cons_succ]
      have HZf : Hid (Zf w (.cells #[x, y, .slice (some ⟨gf, of, none⟩) fs.length cc] 26 (0, 0)) zero W1.heap.size f (W1.alloc (frB f))) := Lib.hid ⟨HZ.out.next ((Below.refl _ _).alloc (Nat.le_refl _) _), heap_alloc_new W1 _, lt_of_block HZ.out.b1⟩
      generalize W1.alloc (frB f) = W2 at *
      generalize W1.heap.size = g at *
      clear HFc HZ
      obtain ⟨y0, y1, y2, -, -, -⟩ := cells3 HZf.out.zc.b0
      have v0 := cell_block HZf.out.fr (k := 0) (by omega)
      have v1 := cell_block HZf.out.fr (k := 1) (by omega)
      rw [HHi.out] at v0
      generalize num f 1 = pc at *
      have u2 := (HZf.out.zc.below.cell (p := ⟨gf, of + i * 3 + 2, none⟩) HF2.out.1).trans HF2.out.2
      go_quiet ((first
        | (go_at_call_of 35 (i : Int); exact Calls.quiet_of_same ((HWi _).out.mono fun _ _ h => ⟨h.1, h.2.symm⟩))
        | (go_at_call_of 35 pc; exact Calls.quiet_of_same ((HWp _).out.mono fun _ _ h => ⟨h.1, h.2.symm⟩))))
      have HZg := Lib.hid (HZf.out.next (below_drewN' (Below.refl _ _) nq))
      clear y0 y1 y2 v0 v1 u2 HZf
      generalize W2.drewN nq = W3 at *
      go_wp2_with (first | refine wi_build0 rfl rfl ?_ | refine wi_store rfl _ _ rfl (w.heap.size + 1) zero zero rfl rfl HZg.out.zc.b1 ?_)
      rw [HQ.out]
      exact cur_ret rfl rfl rfl (HZg.out.zc.store zero).b1 ⟨(HZg.out.zc.store zero).below, zero, false, rfl, rfl⟩
  · rw [decide_eq_false hfn] at HWi
    rw [if_pos (.inr (.inl hfn))] at hQ
    have HQ := Lib.hid hQ
    clear hQ hb0 hz1 hF hsm hsc hI hT hg h0 hcur hfn hm hb hFr hl27
    go_enter Tryd.func18, Tryd.ntmps18
    go_upto_region 1 with (first | refine wi_alloc rfl rfl ?_)
    try simp only [Act.put, List.setIfInBounds_toArray, List.set_cons_zero, List.set_cons_succ, World.size_alloc]
    generalize (w.alloc (.cells #[x, y, .slice C fs.length cc] 26)).alloc (insO zero) = W1 at *
    have HFc : Hid (Go.Proofs.YtjbcmedljgafkaaDoor.frames.FCells W1 b (off + m * 27) f) := Lib.hid (HFr.out.2.keep (HZ.out.below.block b HFr.out.1))
    go_upto_region 4 with (first | refine wl_load rfl _ rfl b (off + m * 27) rfl f HFc.out ?_ | refine wl_alloc rfl rfl ?_ | refine wl_store rfl _ _ rfl W1 zeroF _ rfl rfl rfl ?_)
    try simp only [Act.put, List.setIfInBounds_toArray, List.set_cons_zero, List.set_cons_succ]
    have HZf : Hid (Zf w (.cells #[x, y, .slice C fs.length cc] 26 (0, 0)) zero W1.heap.size f (W1.alloc (frB f))) := Lib.hid ⟨HZ.out.next ((Below.refl _ _).alloc (Nat.le_refl _) _), heap_alloc_new W1 _, lt_of_block HZ.out.b1⟩
    generalize W1.alloc (frB f) = W2 at *
    generalize W1.heap.size = g at *
    clear HFc HZ
    obtain ⟨y0, y1, y2, -, -, -⟩ := cells3 HZf.out.zc.b0
    have v0 := cell_block HZf.out.fr (k := 0) (by omega)
    generalize num f 0 = fn at *
    go_quiet ((first
      | (go_at_call_of 35 fn; exact Calls.quiet_of_same ((HWi _).out.mono fun _ _ h => ⟨h.1, h.2.symm⟩))))
    have HZg := Lib.hid (HZf.out.next (below_drewN' (Below.refl _ _) nq))
    clear y0 y1 y2 v0 HZf
    generalize W2.drewN nq = W3 at *
    go_wp2_with (first | refine wi_build0 rfl rfl ?_ | refine wi_store rfl _ _ rfl (w.heap.size + 1) zero zero rfl rfl HZg.out.zc.b1 ?_)
    rw [HQ.out]
    exact cur_ret rfl rfl rfl (HZg.out.zc.store zero).b1 ⟨(HZg.out.zc.store zero).below, zero, false, rfl, rfl⟩
end Go.Proofs.YtjbcmedljgafkaaDoor.pgm.exe
