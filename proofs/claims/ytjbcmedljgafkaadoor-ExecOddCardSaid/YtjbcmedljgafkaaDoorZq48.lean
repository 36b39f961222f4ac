/-
  Texts of one claim in one file: ZKeep, ZCome. Each has its own sentence, with its conditions.
-/
import Derived.Test.YtjbcmedljgafkaaDoorZq47
import Derived.Test.YtjbcmedljgafkaaDoorZq35
import Derived.Test.YtjbcmedljgafkaaDoorZq39
/-
  The program's own Do (typed over the code of 8d70ec2; its drawn regions printed by tools/zkeep.py), and that all calls keep what is asked of them. The table of names lies where its initialiser lays it; a program of at most twenty functions of 250 instructions.
-/

namespace Go.Proofs.YtjbcmedljgafkaaDoor.pgm.exe
open Go.RowKit Go.ChangeShapes
open Go.Proofs.YtjbcmedljgafkaaDoor.pgm (Fn Pg FsAt PAt getD_in)
open Go.Proofs.YtjbcmedljgafkaaDoor.objs (De zero cells3)
open Go.Proofs.YtjbcmedljgafkaaDoor.oper (Tab pops)
open Go.Proofs.YtjbcmedljgafkaaDoor.frames (Fr In clone_any)
open Go.Proofs.YtjbcmedljgafkaaDoor.pgm.ver (progV)
set_option linter.unusedVariables false
set_option linter.unusedSimpArgs false

section
variable {ops : Array Oper} {S : World → Prop} {o : Oper} {a : Act}
theorem yields_ofld1 (hg : o.guard = none) (y : Operand) (ho : o.op = .fieldAddr 60 y 1) (g : Nat) (hx : a.eval y = .pointer (some ⟨g, 0, none⟩)) : YieldsIf Tryd.prog ops S o (.pointer (some ⟨g, 1, none⟩)) a :=
  .inl ⟨by simp [Region.wanted, hg], fun w' _ => by
    unfold execOp
    simp only [ho, hx]
    go_simp⟩
theorem yields_ofld2 (hg : o.guard = none) (y : Operand) (ho : o.op = .fieldAddr 60 y 2) (g : Nat) (hx : a.eval y = .pointer (some ⟨g, 0, none⟩)) : YieldsIf Tryd.prog ops S o (.pointer (some ⟨g, 2, none⟩)) a :=
  .inl ⟨by simp [Region.wanted, hg], fun w' _ => by
    unfold execOp
    simp only [ho, hx]
    go_simp⟩
theorem yields_ofld3 (hg : o.guard = none) (y : Operand) (ho : o.op = .fieldAddr 60 y 3) (g : Nat) (hx : a.eval y = .pointer (some ⟨g, 0, none⟩)) : YieldsIf Tryd.prog ops S o (.pointer (some ⟨g, 10, none⟩)) a :=
  .inl ⟨by simp [Region.wanted, hg], fun w' _ => by
    unfold execOp
    simp only [ho, hx]
    go_simp⟩
theorem yields_frsl (hg : o.guard = none) (y : Operand) (ho : o.op = .load 30 y) (p : Addr) (hx : a.eval y = .pointer (some p)) (A : Option Addr) (n c : Nat) (hS : ∀ w, S w → w.cell? p = some (.slice A n c)) : YieldsIf Tryd.prog ops S o (.slice A n c) a :=
  .inl ⟨by simp [Region.wanted, hg], fun w' h => by
    have hc := hS w' h
    unfold execOp
    simp only [ho, hx]
    go_simp⟩
theorem yields_noE (hg : o.guard = none) (ho : o.op = .build 36 #[(0, .const (.int .i64 (-1)))]) : YieldsIf Tryd.prog ops S o (efV noE) a :=
  .inl ⟨by simp [Region.wanted, hg], fun w' _ => by
    have e : ((#[(0, Operand.const (.int .i64 (-1)))] : Array (Nat × Operand)).map fun (i, x) => (i, a.eval x)).toList = [((0 : Nat), Value.int .i64 (-1))] := by simp [Act.eval]
    have hb := run_build (P := Tryd.prog) w' 36 (#[(0, Operand.const (.int .i64 (-1)))].map fun (i, x) => (i, a.eval x)) _ (by rw [e]; exact builtE)
    unfold execOp
    simp only [ho, Sem.run_bind, hb, Sem.run_pure, Result.andThen_ok]
    rfl⟩
end
/-- Memory while Do goes: the program's box, the effect's, what the instruction comes to. -/
structure Zy (w : World) (pb : Obj) (f : Ef) (q : Oc) (W : World) : Prop where
  zo : Zo w (w.heap.size + 2) q W
  b0 : W.heap[w.heap.size]? = some pb
  b1 : W.heap[w.heap.size + 1]? = some (efB f)
theorem Zy.next {w W W' : World} {pb : Obj} {f : Ef} {q : Oc} (h : Zy w pb f q W) (hb : Below W.heap.size W W') : Zy w pb f q W' := ⟨h.zo.next hb, (hb.block _ (lt_of_block h.b0)).trans h.b0, (hb.block _ (lt_of_block h.b1)).trans h.b1⟩
theorem Zy.store {w W : World} {pb : Obj} {f : Ef} {q0 : Oc} (h : Zy w pb f q0 W) (q : Oc) : Zy w pb f q (W.setRow (w.heap.size + 2) (ocC q).toArray) :=
  ⟨h.zo.store q, (Go.Proofs.YtjbcmedljgafkaaDoor.frames.row_far _ (by omega)).trans h.b0, (Go.Proofs.YtjbcmedljgafkaaDoor.frames.row_far _ (by omega)).trans h.b1⟩
theorem Zy.effect {w W : World} {pb : Obj} {f0 : Ef} {q : Oc} (h : Zy w pb f0 q W) (f : Ef) : Zy w pb f q (W.setRow (w.heap.size + 1) (efC f).toArray) :=
  ⟨⟨Go.Proofs.YtjbcmedljgafkaaDoor.frames.row_below h.zo.below (by omega) _, (Go.Proofs.YtjbcmedljgafkaaDoor.frames.row_far _ (by omega)).trans h.zo.block, h.zo.far⟩, (Go.Proofs.YtjbcmedljgafkaaDoor.frames.row_far _ (by omega)).trans h.b0, row_turned h.b1 _⟩
theorem zy_new (w : World) (pb : Obj) : Zy w pb zE zO (((w.alloc pb).alloc (efB zE)).alloc (ocB zO)) := by
  have h := zx_new w pb (efB zE)
  exact ⟨h.zo, h.b0, h.b1⟩
theorem xdo_ret {w W : World} {q : List Fr × Ef × Int} {l : List Fr} {e : Ef} {act : Act} {A : Option Addr} {c n : Nat} {k : Int} (hq : q = (l, e, k)) (hn : n = l.length) (h8 : act.eval (.tmp 8) = .slice A n c) (h9 : act.eval (.tmp 9) = .pointer (some ⟨w.heap.size + 1, 0, none⟩)) (h10 : act.eval (.tmp 10) = .int .i64 k) (hd : act.defers = [])
    (hx : W.heap[w.heap.size + 1]? = some (efB e)) {R : Ending → World → Prop} (hR : R (.returned (.tuple #[.slice A l.length c, efV e, .int .i64 k])) W) : bodyPost Tryd.prog Tryd.f9 R .ret act W := by
  subst hq hn
  have hL := run_loadVar_mid (P := Tryd.prog) W (w.heap.size + 1) 0 36 (efC e) _ (ef_range hx) Tryd.underlying36 rfl (sizeE rfl)
  refine bodyPost_ret (v := .tuple #[.slice A l.length c, efV e, .int .i64 k]) ?_ hd hR
  have e8 : act.tmps[8]?.getD undef = .slice A l.length c := by rw [← Array.getD_eq_getD_getElem?]; exact h8
  have e9 : act.tmps[9]?.getD undef = .pointer (some ⟨w.heap.size + 1, 0, none⟩) := by rw [← Array.getD_eq_getD_getElem?]; exact h9
  have e10 : act.tmps[10]?.getD undef = .int .i64 k := by rw [← Array.getD_eq_getD_getElem?]; exact h10
  simp only [results, Tryd.results9]
  simp [e8, e9, e10, asAddr, hL, Sem.run_bind, Sem.run_pure, Result.andThen, efV]

/-- From where it is known what the instruction comes to: the frames, the effect and the fault. -/
def FullPost (fs : List Fn) (l : List Fr) (self now : Int) (w : World) (e : Ending) (w' : World) : Prop := ∃ n, (l.length ≠ 0 → Exact (insZ fs l) n) ∧ DoPost (doO fs l self now n) w e w'

set_option maxRecDepth 100000 in
set_option maxHeartbeats 4000000 in
theorem xdo_any (x y : Value) (C : Option Addr) (cc : Nat) (fs : List Fn) (A : Option Addr) (c : Nat) (l : List Fr) (self now : Int) (w : World) (hF : FsAt w C fs) (hsm : fs.length ≤ 20) (hsc : ∀ f ∈ fs, f.co.length ≤ 250) (hI : In w A c l) (hT : Tab w) (hg : 0 < w.heap.size) :
    Calls Tryd.prog 9 #[.agg #[x, y, .slice C fs.length cc], .slice A l.length c, .int .i64 self, .int .i64 now] w (FullPost fs l self now w) := by
  have HZ := Lib.hid (zy_new w (.cells #[x, y, .slice C fs.length cc] 26))
  have HCu := fun (W : World) (h : Below w.heap.size w W) => Lib.hid (current_any x y C cc fs A c l W (hF.next h) hsm hsc (hI.next h) (hT.below h hg) (Nat.lt_of_lt_of_le hg h.size))
  have HIn := fun (W : World) (z : De) (h : Below w.heap.size w W) (h0 : l.length ≠ 0) => Lib.hid (inner_any x y C cc fs A c l z self now W (hF.next h) hsm (hI.next h) h0)
  have HCl := fun (W : World) (h : Below w.heap.size w W) => Lib.hid (clone_any A c l W (hI.next h))
  have HI := Lib.hid hI
  have HB1 := Lib.hid (heap_alloc_new ((w.alloc (.cells #[x, y, .slice C fs.length cc] 26)).alloc (efB zE)) (ocB zO))
  have hsz : ((w.alloc (.cells #[x, y, .slice C fs.length cc] 26)).alloc (efB zE)).heap.size = w.heap.size + 2 := by rw [World.size_alloc, World.size_alloc]
  have HZ1 := Lib.hid (HZ.out.store zO)
  have HSz := Lib.hid hsz
  clear hF hsm hsc hI hT hg hsz HZ
  go_enter Tryd.func9, Tryd.ntmps9
  go_upto_region 2 with (first | refine we_alloc rfl rfl ?_ | refine wo_build0 rfl rfl ?_ | refine wo_alloc rfl rfl ?_ | refine wo_store rfl _ _ rfl ((w.alloc (.cells #[x, y, .slice C fs.length cc] 26)).alloc (efB zE)).heap.size zO zO rfl rfl HB1.out ?_)
  simp only [Act.put, List.setIfInBounds_toArray, List.set_cons_zero, List.set_cons_succ, HSz.out]
  generalize (((w.alloc (.cells #[x, y, .slice C fs.length cc] 26)).alloc (efB zE)).alloc (ocB zO)).setRow (w.heap.size + 2) (ocC zO).toArray = W1 at *
  clear HB1 HSz
  obtain ⟨p0, p1, p2, -, -, -⟩ := cells3 HZ1.out.b0
  have HCu1 := HCu W1 HZ1.out.zo.below
  clear HCu
  go_wp2_with fail
  refine HCu1.out.mono ?_
  rintro e w2 ⟨hb2, z, b, rfl, hq⟩
  have HZ2 := Lib.hid (HZ1.out.next hb2)
  have HQ := Lib.hid hq
  have m0 := Lib.hid (heap_alloc_new w2 (insO zero))
  have HZ3 := Lib.hid (HZ2.out.next (Go.Proofs.YtjbcmedljgafkaaDoor.frames.row_below ((Below.refl w2.heap.size w2).alloc (Nat.le_refl _) (insO zero)) (Nat.le_refl _) (insC z).toArray))
  have HX3 : Hid (((w2.alloc (insO zero)).setRow w2.heap.size (insC z).toArray).heap[w2.heap.size]? = some (insO z)) := Lib.hid (row_turned m0.out _)
  clear hb2 hq HZ1 HCu1 p0 p1 p2
  go_upto_region 3 with (first | refine wi_alloc rfl rfl ?_ | refine wi_store rfl _ _ rfl w2.heap.size zero z rfl rfl m0.out ?_)
  try simp only [Act.put, List.setIfInBounds_toArray, List.set_cons_zero, List.set_cons_succ]
  generalize (w2.alloc (insO zero)).setRow w2.heap.size (insC z).toArray = W3 at *
  generalize w2.heap.size = g at *
  clear m0 HZ2
  cases b with
  | false =>
    have HR : Hid (∀ n, doO fs l self now n = (l, noE, zO.k)) := Lib.hid fun n => by
      unfold doO outR
      rw [HQ.out]
      rfl
    have HW : Hid (∃ n, (l.length ≠ 0 → Exact (insZ fs l) n)) := Lib.hid ⟨_, fun _ _ => rfl⟩
    obtain ⟨p0, p1, p2, -, -, -⟩ := cells3 HZ3.out.b0
    obtain ⟨o0, o1, o2⟩ := oc_cells HZ3.out.zo.block
    change W3.cell? _ = some (.bool false) at o0
    go_upto_region 6 with fail
    clear p0 p1 p2 o0 o1 o2
    -- REGION6A
    refine Go.Proofs.YtjbcmedljgafkaaDoor.frames.wp_hold_act (fun a0 HA0 => ?_)
    have z0 : a0.tmps.size = 40 := by rw [HA0.out]; rfl
    have dd0 : a0.defers = [] := by rw [HA0.out]
    have f0_1 : a0.eval (.tmp 1) = .slice A l.length c := by rw [HA0.out]; rfl
    have f0_9 : a0.eval (.tmp 9) = .pointer (some ⟨w.heap.size + 1, 0, none⟩) := by rw [HA0.out]; rfl
    have f0_11 : a0.eval (.tmp 11) = .pointer (some ⟨w.heap.size + 2, 0, none⟩) := by rw [HA0.out]; rfl
    clear HA0
    refine wp_region_held_drew (S := fun w' => ∃ f, Zy w (.cells #[x, y, .slice C fs.length cc] 26 (0, 0)) f zO w') (by kernel_rfl) (⟨_, HZ3.out.next (Below.refl _ _).drew⟩) (fun hS => ?_)
    refine wpAnyH_take (i := 0) (v := .slice A l.length c) rfl (by kernel_rfl) (by kernel_rfl) (by kernel_rfl) (fun _ _ _ h => h) (Go.Proofs.YtjbcmedljgafkaaDoor.frames.yields_move rfl (.tmp 1) rfl f0_1) hS ?_
    obtain ⟨a1, hA1⟩ : ∃ a', a' = a0.put (some 31) (.slice A l.length c) := ⟨_, rfl⟩
    change wpAnyH _ _ _ _ _ _ _ (a0.put (some 31) (.slice A l.length c)) _
    rw [← hA1]
    have f1_31 : a1.eval (.tmp 31) = .slice A l.length c := by rw [hA1]; exact Act.eval_put_same _ _ _ (by omega)
    have f1_9 : a1.eval (.tmp 9) = .pointer (some ⟨w.heap.size + 1, 0, none⟩) := by rw [hA1]; exact (Act.eval_put_ne _ _ _ _ (by decide)).trans f0_9
    have f1_11 : a1.eval (.tmp 11) = .pointer (some ⟨w.heap.size + 2, 0, none⟩) := by rw [hA1]; exact (Act.eval_put_ne _ _ _ _ (by decide)).trans f0_11
    have z1 : a1.tmps.size = 40 := by rw [hA1, Act.size_put]; exact z0
    have dd1 : a1.defers = [] := by rw [hA1, Act.defers_put']; exact dd0
    clear hA1 z0 dd0 f0_1 f0_9 f0_11
    refine wpAnyH_take (i := 2) (v := efV noE) rfl (by kernel_rfl) (by kernel_rfl) (by kernel_rfl) (fun _ _ _ h => h) (yields_noE rfl rfl) hS ?_
    obtain ⟨a2, hA2⟩ : ∃ a', a' = a1.put (some 33) (efV noE) := ⟨_, rfl⟩
    change wpAnyH _ _ _ _ _ _ _ (a1.put (some 33) (efV noE)) _
    rw [← hA2]
    have f2_33 : a2.eval (.tmp 33) = efV noE := by rw [hA2]; exact Act.eval_put_same _ _ _ (by omega)
    have f2_31 : a2.eval (.tmp 31) = .slice A l.length c := by rw [hA2]; exact (Act.eval_put_ne _ _ _ _ (by decide)).trans f1_31
    have f2_9 : a2.eval (.tmp 9) = .pointer (some ⟨w.heap.size + 1, 0, none⟩) := by rw [hA2]; exact (Act.eval_put_ne _ _ _ _ (by decide)).trans f1_9
    have f2_11 : a2.eval (.tmp 11) = .pointer (some ⟨w.heap.size + 2, 0, none⟩) := by rw [hA2]; exact (Act.eval_put_ne _ _ _ _ (by decide)).trans f1_11
    have z2 : a2.tmps.size = 40 := by rw [hA2, Act.size_put]; exact z1
    have dd2 : a2.defers = [] := by rw [hA2, Act.defers_put']; exact dd1
    clear hA2 z1 dd1 f1_31 f1_9 f1_11
    refine wpAnyH_take (i := 3) (v := .pointer (some ⟨w.heap.size + 2, 10, none⟩)) rfl (by kernel_rfl) (by kernel_rfl) (by kernel_rfl) (fun _ _ _ h => h) (yields_ofld3 rfl (.tmp 11) rfl _ f2_11) hS ?_
    obtain ⟨a3, hA3⟩ : ∃ a', a' = a2.put (some 34) (.pointer (some ⟨w.heap.size + 2, 10, none⟩)) := ⟨_, rfl⟩
    change wpAnyH _ _ _ _ _ _ _ (a2.put (some 34) (.pointer (some ⟨w.heap.size + 2, 10, none⟩))) _
    rw [← hA3]
    have f3_34 : a3.eval (.tmp 34) = .pointer (some ⟨w.heap.size + 2, 10, none⟩) := by rw [hA3]; exact Act.eval_put_same _ _ _ (by omega)
    have f3_33 : a3.eval (.tmp 33) = efV noE := by rw [hA3]; exact (Act.eval_put_ne _ _ _ _ (by decide)).trans f2_33
    have f3_31 : a3.eval (.tmp 31) = .slice A l.length c := by rw [hA3]; exact (Act.eval_put_ne _ _ _ _ (by decide)).trans f2_31
    have f3_9 : a3.eval (.tmp 9) = .pointer (some ⟨w.heap.size + 1, 0, none⟩) := by rw [hA3]; exact (Act.eval_put_ne _ _ _ _ (by decide)).trans f2_9
    have z3 : a3.tmps.size = 40 := by rw [hA3, Act.size_put]; exact z2
    have dd3 : a3.defers = [] := by rw [hA3, Act.defers_put']; exact dd2
    clear hA3 z2 dd2 f2_33 f2_31 f2_9 f2_11
    refine wpAnyH_take (i := 4) (v := .int .i64 zO.k) rfl (by kernel_rfl) (by kernel_rfl) (by kernel_rfl) (fun _ _ _ h => h) (yields_int rfl (.tmp 34) rfl _ f3_34 _ (fun _ h => (oc_cells h.choose_spec.zo.block).2.2)) hS ?_
    obtain ⟨a4, hA4⟩ : ∃ a', a' = a3.put (some 35) (.int .i64 zO.k) := ⟨_, rfl⟩
    change wpAnyH _ _ _ _ _ _ _ (a3.put (some 35) (.int .i64 zO.k)) _
    rw [← hA4]
    have f4_35 : a4.eval (.tmp 35) = .int .i64 zO.k := by rw [hA4]; exact Act.eval_put_same _ _ _ (by omega)
    have f4_33 : a4.eval (.tmp 33) = efV noE := by rw [hA4]; exact (Act.eval_put_ne _ _ _ _ (by decide)).trans f3_33
    have f4_31 : a4.eval (.tmp 31) = .slice A l.length c := by rw [hA4]; exact (Act.eval_put_ne _ _ _ _ (by decide)).trans f3_31
    have f4_9 : a4.eval (.tmp 9) = .pointer (some ⟨w.heap.size + 1, 0, none⟩) := by rw [hA4]; exact (Act.eval_put_ne _ _ _ _ (by decide)).trans f3_9
    have z4 : a4.tmps.size = 40 := by rw [hA4, Act.size_put]; exact z3
    have dd4 : a4.defers = [] := by rw [hA4, Act.defers_put']; exact dd3
    clear hA4 z3 dd3 f3_34 f3_33 f3_31 f3_9
    refine wpAnyH_ready (rs := [1]) (by kernel_rfl) (by simp) (AllReadyH.cons (by simp only [List.getElem?_toArray, List.getElem?_cons_succ, List.getElem?_cons_zero]; rfl) (fun K hK => ?_) AllReadyH.nil)
    refine step_call (by rfl) 20 #[.tmp 31] #[30] (by rfl) #[.slice A l.length c] (by simp only [List.map_toArray, List.map_cons, List.map_nil, f4_31]) Tryd.func20 (by kernel_rfl) rfl ((HCl _ (HZ3.out.next (Below.refl _ _).drew).zo.below).out) (fun e w' hR => ?_)
    obtain ⟨A1, c1, rfl, hO1, hb1⟩ := hR
    have HZk := Lib.hid ((HZ3.out.next (Below.refl _ _).drew).next hb1)
    have HI1 := Lib.hid (hO1.ins HI.out.len HI.out.all)
    clear hO1 hb1
    refine ⟨_, rfl, hK.out _ _ (⟨_, HZk.out⟩) (fun hS => ?_)⟩
    obtain ⟨a5, hA5⟩ : ∃ a', a' = a4.put (some 32) (.slice A1 l.length c1) := ⟨_, rfl⟩
    change wpAnyH _ _ _ _ _ _ _ (a4.put (some 32) (.slice A1 l.length c1)) _
    rw [← hA5]
    have f5_32 : a5.eval (.tmp 32) = .slice A1 l.length c1 := by rw [hA5]; exact Act.eval_put_same _ _ _ (by omega)
    have f5_35 : a5.eval (.tmp 35) = .int .i64 zO.k := by rw [hA5]; exact (Act.eval_put_ne _ _ _ _ (by decide)).trans f4_35
    have f5_33 : a5.eval (.tmp 33) = efV noE := by rw [hA5]; exact (Act.eval_put_ne _ _ _ _ (by decide)).trans f4_33
    have f5_9 : a5.eval (.tmp 9) = .pointer (some ⟨w.heap.size + 1, 0, none⟩) := by rw [hA5]; exact (Act.eval_put_ne _ _ _ _ (by decide)).trans f4_9
    have z5 : a5.tmps.size = 40 := by rw [hA5, Act.size_put]; exact z4
    have dd5 : a5.defers = [] := by rw [hA5, Act.defers_put']; exact dd4
    clear hA5 z4 dd4 f4_35 f4_33 f4_31 f4_9
    refine wpAnyH_take (i := 5) (v := .slice A1 l.length c1) rfl (by kernel_rfl) (by kernel_rfl) (by kernel_rfl) (fun _ _ _ h => h) (yields_assign rfl (.tmp 32) rfl f5_32) hS ?_
    obtain ⟨a6, hA6⟩ : ∃ a', a' = a5.put (some 8) (.slice A1 l.length c1) := ⟨_, rfl⟩
    change wpAnyH _ _ _ _ _ _ _ (a5.put (some 8) (.slice A1 l.length c1)) _
    rw [← hA6]
    have f6_8 : a6.eval (.tmp 8) = .slice A1 l.length c1 := by rw [hA6]; exact Act.eval_put_same _ _ _ (by omega)
    have f6_35 : a6.eval (.tmp 35) = .int .i64 zO.k := by rw [hA6]; exact (Act.eval_put_ne _ _ _ _ (by decide)).trans f5_35
    have f6_33 : a6.eval (.tmp 33) = efV noE := by rw [hA6]; exact (Act.eval_put_ne _ _ _ _ (by decide)).trans f5_33
    have f6_9 : a6.eval (.tmp 9) = .pointer (some ⟨w.heap.size + 1, 0, none⟩) := by rw [hA6]; exact (Act.eval_put_ne _ _ _ _ (by decide)).trans f5_9
    have z6 : a6.tmps.size = 40 := by rw [hA6, Act.size_put]; exact z5
    have dd6 : a6.defers = [] := by rw [hA6, Act.defers_put']; exact dd5
    clear hA6 z5 dd5 f5_32 f5_35 f5_33 f5_9
    refine wpAnyH_ready (rs := [6]) (by kernel_rfl) (by simp) (AllReadyH.cons (by simp only [List.getElem?_toArray, List.getElem?_cons_succ, List.getElem?_cons_zero]; rfl) (fun K hK => ?_) AllReadyH.nil)
    refine step_ef (by rfl) (.tmp 9) (.tmp 33) (by rfl) (w.heap.size + 1) zE noE f6_9 f6_33 HZk.out.b1 ?_
    refine hK.out _ _ (⟨_, HZk.out.effect noE⟩) (fun hS => ?_)
    change wpAnyH _ _ _ _ _ _ _ a6 _
    refine wpAnyH_take (i := 7) (v := .int .i64 zO.k) rfl (by kernel_rfl) (by kernel_rfl) (by kernel_rfl) (fun _ _ _ h => h) (yields_assign rfl (.tmp 35) rfl f6_35) hS ?_
    obtain ⟨a7, hA7⟩ : ∃ a', a' = a6.put (some 10) (.int .i64 zO.k) := ⟨_, rfl⟩
    change wpAnyH _ _ _ _ _ _ _ (a6.put (some 10) (.int .i64 zO.k)) _
    rw [← hA7]
    have f7_10 : a7.eval (.tmp 10) = .int .i64 zO.k := by rw [hA7]; exact Act.eval_put_same _ _ _ (by omega)
    have f7_8 : a7.eval (.tmp 8) = .slice A1 l.length c1 := by rw [hA7]; exact (Act.eval_put_ne _ _ _ _ (by decide)).trans f6_8
    have f7_9 : a7.eval (.tmp 9) = .pointer (some ⟨w.heap.size + 1, 0, none⟩) := by rw [hA7]; exact (Act.eval_put_ne _ _ _ _ (by decide)).trans f6_9
    have z7 : a7.tmps.size = 40 := by rw [hA7, Act.size_put]; exact z6
    have dd7 : a7.defers = [] := by rw [hA7, Act.defers_put']; exact dd6
    clear hA7 z6 dd6 f6_8 f6_35 f6_33 f6_9
    refine wpAnyH_done (by kernel_rfl) ?_ _
    go_wp2_with fail
    exact xdo_ret (q := (l, noE, zO.k)) rfl rfl f7_8 f7_9 f7_10 dd7 (HZk.out.effect noE).b1 ⟨HW.out.choose, HW.out.choose_spec, by rw [HR.out _]; exact ⟨A1, c1, rfl, in_row HI1.out HZk.out.b1 (by decide) _, (HZk.out.effect noE).zo.below⟩⟩
    -- END6A
  | true =>
    have h0 : l.length ≠ 0 := fun h => by
      have h1 := HQ.out
      unfold curR at h1
      rw [if_pos (.inl h)] at h1
      cases h1
    have HE : Hid (insZ fs l = z) := Lib.hid (by
      have h1 := HQ.out
      unfold curR at h1
      split at h1
      · cases h1
      · split at h1
        · exact Option.some.inj h1
        · cases h1)
    have HIn3 := HIn W3 z HZ3.out.zo.below h0
    obtain ⟨p0, p1, p2, -, -, -⟩ := cells3 HZ3.out.b0
    clear HIn h0
    go_wp2_with (first | refine wi_load rfl _ rfl g rfl z HX3.out ?_)
    refine HIn3.out.mono ?_
    rintro e w4 ⟨n, hx, h4⟩
    obtain ⟨q, rfl, hb4, hq4⟩ := out_open h4
    have HZ4 := Lib.hid (HZ3.out.next hb4)
    have HZ5 := Lib.hid (HZ4.out.store q)
    have HQ5 := Lib.hid (hq4.store HZ4.out.zo.block (ocC q).toArray)
    have HX := Lib.hid hx
    clear h4 hb4 hq4 hx HIn3 p0 p1 p2 HZ3 HX3
    go_upto_region 5 with (first | refine wo_store rfl _ _ rfl (w.heap.size + 2) zO q rfl rfl HZ4.out.zo.block ?_)
    try simp only [Act.put, List.setIfInBounds_toArray, List.set_cons_zero, List.set_cons_succ]
    generalize w4.setRow (w.heap.size + 2) (ocC q).toArray = W5 at *
    clear HZ4
    obtain ⟨o0, o1, o2⟩ := oc_cells HZ5.out.zo.block
    have HR1 : Hid (doO fs l self now n = ansR l (doR fs l z self now n)) := Lib.hid (by
      unfold doO outR
      rw [HQ.out]
      rfl)
    have HW : Hid (l.length ≠ 0 → Exact (insZ fs l) n) := Lib.hid fun _ => by rw [HE.out]; exact HX.out
    clear HQ HE HX
    generalize doR fs l z self now n = r at *
    obtain ⟨r1, k⟩ := r
    have hq5 := HQ5.out
    clear HQ5
    cases r1 with
    | none =>
      obtain ⟨hd5, rfl⟩ := hq5
      rw [hd5] at o0
      have HR : Hid (doO fs l self now n = (l, noE, q.k)) := HR1
      clear HR1 hd5
      go_upto_region 6 with fail
      clear o0 o1 o2
      -- REGION6B
      refine Go.Proofs.YtjbcmedljgafkaaDoor.frames.wp_hold_act (fun a0 HA0 => ?_)
      have z0 : a0.tmps.size = 40 := by rw [HA0.out]; rfl
      have dd0 : a0.defers = [] := by rw [HA0.out]
      have f0_1 : a0.eval (.tmp 1) = .slice A l.length c := by rw [HA0.out]; rfl
      have f0_9 : a0.eval (.tmp 9) = .pointer (some ⟨w.heap.size + 1, 0, none⟩) := by rw [HA0.out]; rfl
      have f0_11 : a0.eval (.tmp 11) = .pointer (some ⟨w.heap.size + 2, 0, none⟩) := by rw [HA0.out]; rfl
      clear HA0
      refine wp_region_held_drew (S := fun w' => ∃ f, Zy w (.cells #[x, y, .slice C fs.length cc] 26 (0, 0)) f q w') (by kernel_rfl) (⟨_, HZ5.out.next (Below.refl _ _).drew⟩) (fun hS => ?_)
      refine wpAnyH_take (i := 0) (v := .slice A l.length c) rfl (by kernel_rfl) (by kernel_rfl) (by kernel_rfl) (fun _ _ _ h => h) (Go.Proofs.YtjbcmedljgafkaaDoor.frames.yields_move rfl (.tmp 1) rfl f0_1) hS ?_
      obtain ⟨a1, hA1⟩ : ∃ a', a' = a0.put (some 31) (.slice A l.length c) := ⟨_, rfl⟩
      change wpAnyH _ _ _ _ _ _ _ (a0.put (some 31) (.slice A l.length c)) _
      rw [← hA1]
      have f1_31 : a1.eval (.tmp 31) = .slice A l.length c := by rw [hA1]; exact Act.eval_put_same _ _ _ (by omega)
      have f1_9 : a1.eval (.tmp 9) = .pointer (some ⟨w.heap.size + 1, 0, none⟩) := by rw [hA1]; exact (Act.eval_put_ne _ _ _ _ (by decide)).trans f0_9
      have f1_11 : a1.eval (.tmp 11) = .pointer (some ⟨w.heap.size + 2, 0, none⟩) := by rw [hA1]; exact (Act.eval_put_ne _ _ _ _ (by decide)).trans f0_11
      have z1 : a1.tmps.size = 40 := by rw [hA1, Act.size_put]; exact z0
      have dd1 : a1.defers = [] := by rw [hA1, Act.defers_put']; exact dd0
      clear hA1 z0 dd0 f0_1 f0_9 f0_11
      refine wpAnyH_take (i := 2) (v := efV noE) rfl (by kernel_rfl) (by kernel_rfl) (by kernel_rfl) (fun _ _ _ h => h) (yields_noE rfl rfl) hS ?_
      obtain ⟨a2, hA2⟩ : ∃ a', a' = a1.put (some 33) (efV noE) := ⟨_, rfl⟩
      change wpAnyH _ _ _ _ _ _ _ (a1.put (some 33) (efV noE)) _
      rw [← hA2]
      have f2_33 : a2.eval (.tmp 33) = efV noE := by rw [hA2]; exact Act.eval_put_same _ _ _ (by omega)
      have f2_31 : a2.eval (.tmp 31) = .slice A l.length c := by rw [hA2]; exact (Act.eval_put_ne _ _ _ _ (by decide)).trans f1_31
      have f2_9 : a2.eval (.tmp 9) = .pointer (some ⟨w.heap.size + 1, 0, none⟩) := by rw [hA2]; exact (Act.eval_put_ne _ _ _ _ (by decide)).trans f1_9
      have f2_11 : a2.eval (.tmp 11) = .pointer (some ⟨w.heap.size + 2, 0, none⟩) := by rw [hA2]; exact (Act.eval_put_ne _ _ _ _ (by decide)).trans f1_11
      have z2 : a2.tmps.size = 40 := by rw [hA2, Act.size_put]; exact z1
      have dd2 : a2.defers = [] := by rw [hA2, Act.defers_put']; exact dd1
      clear hA2 z1 dd1 f1_31 f1_9 f1_11
      refine wpAnyH_take (i := 3) (v := .pointer (some ⟨w.heap.size + 2, 10, none⟩)) rfl (by kernel_rfl) (by kernel_rfl) (by kernel_rfl) (fun _ _ _ h => h) (yields_ofld3 rfl (.tmp 11) rfl _ f2_11) hS ?_
      obtain ⟨a3, hA3⟩ : ∃ a', a' = a2.put (some 34) (.pointer (some ⟨w.heap.size + 2, 10, none⟩)) := ⟨_, rfl⟩
      change wpAnyH _ _ _ _ _ _ _ (a2.put (some 34) (.pointer (some ⟨w.heap.size + 2, 10, none⟩))) _
      rw [← hA3]
      have f3_34 : a3.eval (.tmp 34) = .pointer (some ⟨w.heap.size + 2, 10, none⟩) := by rw [hA3]; exact Act.eval_put_same _ _ _ (by omega)
      have f3_33 : a3.eval (.tmp 33) = efV noE := by rw [hA3]; exact (Act.eval_put_ne _ _ _ _ (by decide)).trans f2_33
      have f3_31 : a3.eval (.tmp 31) = .slice A l.length c := by rw [hA3]; exact (Act.eval_put_ne _ _ _ _ (by decide)).trans f2_31
      have f3_9 : a3.eval (.tmp 9) = .pointer (some ⟨w.heap.size + 1, 0, none⟩) := by rw [hA3]; exact (Act.eval_put_ne _ _ _ _ (by decide)).trans f2_9
      have z3 : a3.tmps.size = 40 := by rw [hA3, Act.size_put]; exact z2
      have dd3 : a3.defers = [] := by rw [hA3, Act.defers_put']; exact dd2
      clear hA3 z2 dd2 f2_33 f2_31 f2_9 f2_11
      refine wpAnyH_take (i := 4) (v := .int .i64 q.k) rfl (by kernel_rfl) (by kernel_rfl) (by kernel_rfl) (fun _ _ _ h => h) (yields_int rfl (.tmp 34) rfl _ f3_34 _ (fun _ h => (oc_cells h.choose_spec.zo.block).2.2)) hS ?_
      obtain ⟨a4, hA4⟩ : ∃ a', a' = a3.put (some 35) (.int .i64 q.k) := ⟨_, rfl⟩
      change wpAnyH _ _ _ _ _ _ _ (a3.put (some 35) (.int .i64 q.k)) _
      rw [← hA4]
      have f4_35 : a4.eval (.tmp 35) = .int .i64 q.k := by rw [hA4]; exact Act.eval_put_same _ _ _ (by omega)
      have f4_33 : a4.eval (.tmp 33) = efV noE := by rw [hA4]; exact (Act.eval_put_ne _ _ _ _ (by decide)).trans f3_33
      have f4_31 : a4.eval (.tmp 31) = .slice A l.length c := by rw [hA4]; exact (Act.eval_put_ne _ _ _ _ (by decide)).trans f3_31
      have f4_9 : a4.eval (.tmp 9) = .pointer (some ⟨w.heap.size + 1, 0, none⟩) := by rw [hA4]; exact (Act.eval_put_ne _ _ _ _ (by decide)).trans f3_9
      have z4 : a4.tmps.size = 40 := by rw [hA4, Act.size_put]; exact z3
      have dd4 : a4.defers = [] := by rw [hA4, Act.defers_put']; exact dd3
      clear hA4 z3 dd3 f3_34 f3_33 f3_31 f3_9
      refine wpAnyH_ready (rs := [1]) (by kernel_rfl) (by simp) (AllReadyH.cons (by simp only [List.getElem?_toArray, List.getElem?_cons_succ, List.getElem?_cons_zero]; rfl) (fun K hK => ?_) AllReadyH.nil)
      refine step_call (by rfl) 20 #[.tmp 31] #[30] (by rfl) #[.slice A l.length c] (by simp only [List.map_toArray, List.map_cons, List.map_nil, f4_31]) Tryd.func20 (by kernel_rfl) rfl ((HCl _ (HZ5.out.next (Below.refl _ _).drew).zo.below).out) (fun e w' hR => ?_)
      obtain ⟨A1, c1, rfl, hO1, hb1⟩ := hR
      have HZk := Lib.hid ((HZ5.out.next (Below.refl _ _).drew).next hb1)
      have HI1 := Lib.hid (hO1.ins HI.out.len HI.out.all)
      clear hO1 hb1
      refine ⟨_, rfl, hK.out _ _ (⟨_, HZk.out⟩) (fun hS => ?_)⟩
      obtain ⟨a5, hA5⟩ : ∃ a', a' = a4.put (some 32) (.slice A1 l.length c1) := ⟨_, rfl⟩
      change wpAnyH _ _ _ _ _ _ _ (a4.put (some 32) (.slice A1 l.length c1)) _
      rw [← hA5]
      have f5_32 : a5.eval (.tmp 32) = .slice A1 l.length c1 := by rw [hA5]; exact Act.eval_put_same _ _ _ (by omega)
      have f5_35 : a5.eval (.tmp 35) = .int .i64 q.k := by rw [hA5]; exact (Act.eval_put_ne _ _ _ _ (by decide)).trans f4_35
      have f5_33 : a5.eval (.tmp 33) = efV noE := by rw [hA5]; exact (Act.eval_put_ne _ _ _ _ (by decide)).trans f4_33
      have f5_9 : a5.eval (.tmp 9) = .pointer (some ⟨w.heap.size + 1, 0, none⟩) := by rw [hA5]; exact (Act.eval_put_ne _ _ _ _ (by decide)).trans f4_9
      have z5 : a5.tmps.size = 40 := by rw [hA5, Act.size_put]; exact z4
      have dd5 : a5.defers = [] := by rw [hA5, Act.defers_put']; exact dd4
      clear hA5 z4 dd4 f4_35 f4_33 f4_31 f4_9
      refine wpAnyH_take (i := 5) (v := .slice A1 l.length c1) rfl (by kernel_rfl) (by kernel_rfl) (by kernel_rfl) (fun _ _ _ h => h) (yields_assign rfl (.tmp 32) rfl f5_32) hS ?_
      obtain ⟨a6, hA6⟩ : ∃ a', a' = a5.put (some 8) (.slice A1 l.length c1) := ⟨_, rfl⟩
      change wpAnyH _ _ _ _ _ _ _ (a5.put (some 8) (.slice A1 l.length c1)) _
      rw [← hA6]
      have f6_8 : a6.eval (.tmp 8) = .slice A1 l.length c1 := by rw [hA6]; exact Act.eval_put_same _ _ _ (by omega)
      have f6_35 : a6.eval (.tmp 35) = .int .i64 q.k := by rw [hA6]; exact (Act.eval_put_ne _ _ _ _ (by decide)).trans f5_35
      have f6_33 : a6.eval (.tmp 33) = efV noE := by rw [hA6]; exact (Act.eval_put_ne _ _ _ _ (by decide)).trans f5_33
      have f6_9 : a6.eval (.tmp 9) = .pointer (some ⟨w.heap.size + 1, 0, none⟩) := by rw [hA6]; exact (Act.eval_put_ne _ _ _ _ (by decide)).trans f5_9
      have z6 : a6.tmps.size = 40 := by rw [hA6, Act.size_put]; exact z5
      have dd6 : a6.defers = [] := by rw [hA6, Act.defers_put']; exact dd5
      clear hA6 z5 dd5 f5_32 f5_35 f5_33 f5_9
      refine wpAnyH_ready (rs := [6]) (by kernel_rfl) (by simp) (AllReadyH.cons (by simp only [List.getElem?_toArray, List.getElem?_cons_succ, List.getElem?_cons_zero]; rfl) (fun K hK => ?_) AllReadyH.nil)
      refine step_ef (by rfl) (.tmp 9) (.tmp 33) (by rfl) (w.heap.size + 1) zE noE f6_9 f6_33 HZk.out.b1 ?_
      refine hK.out _ _ (⟨_, HZk.out.effect noE⟩) (fun hS => ?_)
      change wpAnyH _ _ _ _ _ _ _ a6 _
      refine wpAnyH_take (i := 7) (v := .int .i64 q.k) rfl (by kernel_rfl) (by kernel_rfl) (by kernel_rfl) (fun _ _ _ h => h) (yields_assign rfl (.tmp 35) rfl f6_35) hS ?_
      obtain ⟨a7, hA7⟩ : ∃ a', a' = a6.put (some 10) (.int .i64 q.k) := ⟨_, rfl⟩
      change wpAnyH _ _ _ _ _ _ _ (a6.put (some 10) (.int .i64 q.k)) _
      rw [← hA7]
      have f7_10 : a7.eval (.tmp 10) = .int .i64 q.k := by rw [hA7]; exact Act.eval_put_same _ _ _ (by omega)
      have f7_8 : a7.eval (.tmp 8) = .slice A1 l.length c1 := by rw [hA7]; exact (Act.eval_put_ne _ _ _ _ (by decide)).trans f6_8
      have f7_9 : a7.eval (.tmp 9) = .pointer (some ⟨w.heap.size + 1, 0, none⟩) := by rw [hA7]; exact (Act.eval_put_ne _ _ _ _ (by decide)).trans f6_9
      have z7 : a7.tmps.size = 40 := by rw [hA7, Act.size_put]; exact z6
      have dd7 : a7.defers = [] := by rw [hA7, Act.defers_put']; exact dd6
      clear hA7 z6 dd6 f6_8 f6_35 f6_33 f6_9
      refine wpAnyH_done (by kernel_rfl) ?_ _
      go_wp2_with fail
      exact xdo_ret (q := (l, noE, q.k)) rfl rfl f7_8 f7_9 f7_10 dd7 (HZk.out.effect noE).b1 ⟨n, HW.out, by rw [HR.out]; exact ⟨A1, c1, rfl, in_row HI1.out HZk.out.b1 (by decide) _, (HZk.out.effect noE).zo.below⟩⟩
      -- END6B
    | some yf =>
      obtain ⟨yl, f⟩ := yf
      obtain ⟨A5, c5, rfl, hI5⟩ := hq5
      have HI5 := Lib.hid hI5
      have HR : Hid (doO fs l self now n = (yl, f, 0)) := HR1
      change W5.cell? _ = some (.bool true) at o0
      clear HR1 hI5
      go_upto_region 7 with fail
      clear o0 o1 o2
      -- REGION7
      refine Go.Proofs.YtjbcmedljgafkaaDoor.frames.wp_hold_act (fun a0 HA0 => ?_)
      have z0 : a0.tmps.size = 40 := by rw [HA0.out]; rfl
      have dd0 : a0.defers = [] := by rw [HA0.out]
      have f0_9 : a0.eval (.tmp 9) = .pointer (some ⟨w.heap.size + 1, 0, none⟩) := by rw [HA0.out]; rfl
      have f0_11 : a0.eval (.tmp 11) = .pointer (some ⟨w.heap.size + 2, 0, none⟩) := by rw [HA0.out]; rfl
      clear HA0
      refine wp_region_held_drew (S := fun w' => ∃ f0, Zy w (.cells #[x, y, .slice C fs.length cc] 26 (0, 0)) f0 ⟨true, A5, yl.length, c5, f, 0⟩ w') (by kernel_rfl) (⟨_, HZ5.out.next (Below.refl _ _).drew⟩) (fun hS => ?_)
      refine wpAnyH_take (i := 0) (v := .pointer (some ⟨w.heap.size + 2, 1, none⟩)) rfl (by kernel_rfl) (by kernel_rfl) (by kernel_rfl) (fun _ _ _ h => h) (yields_ofld1 rfl (.tmp 11) rfl _ f0_11) hS ?_
      obtain ⟨a1, hA1⟩ : ∃ a', a' = a0.put (some 36) (.pointer (some ⟨w.heap.size + 2, 1, none⟩)) := ⟨_, rfl⟩
      change wpAnyH _ _ _ _ _ _ _ (a0.put (some 36) (.pointer (some ⟨w.heap.size + 2, 1, none⟩))) _
      rw [← hA1]
      have f1_36 : a1.eval (.tmp 36) = .pointer (some ⟨w.heap.size + 2, 1, none⟩) := by rw [hA1]; exact Act.eval_put_same _ _ _ (by omega)
      have f1_9 : a1.eval (.tmp 9) = .pointer (some ⟨w.heap.size + 1, 0, none⟩) := by rw [hA1]; exact (Act.eval_put_ne _ _ _ _ (by decide)).trans f0_9
      have f1_11 : a1.eval (.tmp 11) = .pointer (some ⟨w.heap.size + 2, 0, none⟩) := by rw [hA1]; exact (Act.eval_put_ne _ _ _ _ (by decide)).trans f0_11
      have z1 : a1.tmps.size = 40 := by rw [hA1, Act.size_put]; exact z0
      have dd1 : a1.defers = [] := by rw [hA1, Act.defers_put']; exact dd0
      clear hA1 z0 dd0 f0_9 f0_11
      refine wpAnyH_take (i := 1) (v := .slice A5 yl.length c5) rfl (by kernel_rfl) (by kernel_rfl) (by kernel_rfl) (fun _ _ _ h => h) (yields_frsl rfl (.tmp 36) rfl _ f1_36 _ _ _ (fun _ h => (oc_cells h.choose_spec.zo.block).2.1)) hS ?_
      obtain ⟨a2, hA2⟩ : ∃ a', a' = a1.put (some 37) (.slice A5 yl.length c5) := ⟨_, rfl⟩
      change wpAnyH _ _ _ _ _ _ _ (a1.put (some 37) (.slice A5 yl.length c5)) _
      rw [← hA2]
      have f2_37 : a2.eval (.tmp 37) = .slice A5 yl.length c5 := by rw [hA2]; exact Act.eval_put_same _ _ _ (by omega)
      have f2_9 : a2.eval (.tmp 9) = .pointer (some ⟨w.heap.size + 1, 0, none⟩) := by rw [hA2]; exact (Act.eval_put_ne _ _ _ _ (by decide)).trans f1_9
      have f2_11 : a2.eval (.tmp 11) = .pointer (some ⟨w.heap.size + 2, 0, none⟩) := by rw [hA2]; exact (Act.eval_put_ne _ _ _ _ (by decide)).trans f1_11
      have z2 : a2.tmps.size = 40 := by rw [hA2, Act.size_put]; exact z1
      have dd2 : a2.defers = [] := by rw [hA2, Act.defers_put']; exact dd1
      clear hA2 z1 dd1 f1_36 f1_9 f1_11
      refine wpAnyH_take (i := 2) (v := .pointer (some ⟨w.heap.size + 2, 2, none⟩)) rfl (by kernel_rfl) (by kernel_rfl) (by kernel_rfl) (fun _ _ _ h => h) (yields_ofld2 rfl (.tmp 11) rfl _ f2_11) hS ?_
      obtain ⟨a3, hA3⟩ : ∃ a', a' = a2.put (some 38) (.pointer (some ⟨w.heap.size + 2, 2, none⟩)) := ⟨_, rfl⟩
      change wpAnyH _ _ _ _ _ _ _ (a2.put (some 38) (.pointer (some ⟨w.heap.size + 2, 2, none⟩))) _
      rw [← hA3]
      have f3_38 : a3.eval (.tmp 38) = .pointer (some ⟨w.heap.size + 2, 2, none⟩) := by rw [hA3]; exact Act.eval_put_same _ _ _ (by omega)
      have f3_37 : a3.eval (.tmp 37) = .slice A5 yl.length c5 := by rw [hA3]; exact (Act.eval_put_ne _ _ _ _ (by decide)).trans f2_37
      have f3_9 : a3.eval (.tmp 9) = .pointer (some ⟨w.heap.size + 1, 0, none⟩) := by rw [hA3]; exact (Act.eval_put_ne _ _ _ _ (by decide)).trans f2_9
      have z3 : a3.tmps.size = 40 := by rw [hA3, Act.size_put]; exact z2
      have dd3 : a3.defers = [] := by rw [hA3, Act.defers_put']; exact dd2
      clear hA3 z2 dd2 f2_37 f2_9 f2_11
      refine wpAnyH_take (i := 3) (v := efV f) rfl (by kernel_rfl) (by kernel_rfl) (by kernel_rfl) (fun _ _ _ h => h) (yields_oe rfl (.tmp 38) rfl _ f3_38 ⟨true, A5, yl.length, c5, f, 0⟩ (fun _ h => h.choose_spec.zo.block)) hS ?_
      obtain ⟨a4, hA4⟩ : ∃ a', a' = a3.put (some 39) (efV f) := ⟨_, rfl⟩
      change wpAnyH _ _ _ _ _ _ _ (a3.put (some 39) (efV f)) _
      rw [← hA4]
      have f4_39 : a4.eval (.tmp 39) = efV f := by rw [hA4]; exact Act.eval_put_same _ _ _ (by omega)
      have f4_37 : a4.eval (.tmp 37) = .slice A5 yl.length c5 := by rw [hA4]; exact (Act.eval_put_ne _ _ _ _ (by decide)).trans f3_37
      have f4_9 : a4.eval (.tmp 9) = .pointer (some ⟨w.heap.size + 1, 0, none⟩) := by rw [hA4]; exact (Act.eval_put_ne _ _ _ _ (by decide)).trans f3_9
      have z4 : a4.tmps.size = 40 := by rw [hA4, Act.size_put]; exact z3
      have dd4 : a4.defers = [] := by rw [hA4, Act.defers_put']; exact dd3
      clear hA4 z3 dd3 f3_38 f3_37 f3_9
      refine wpAnyH_take (i := 4) (v := .slice A5 yl.length c5) rfl (by kernel_rfl) (by kernel_rfl) (by kernel_rfl) (fun _ _ _ h => h) (yields_assign rfl (.tmp 37) rfl f4_37) hS ?_
      obtain ⟨a5, hA5⟩ : ∃ a', a' = a4.put (some 8) (.slice A5 yl.length c5) := ⟨_, rfl⟩
      change wpAnyH _ _ _ _ _ _ _ (a4.put (some 8) (.slice A5 yl.length c5)) _
      rw [← hA5]
      have f5_8 : a5.eval (.tmp 8) = .slice A5 yl.length c5 := by rw [hA5]; exact Act.eval_put_same _ _ _ (by omega)
      have f5_39 : a5.eval (.tmp 39) = efV f := by rw [hA5]; exact (Act.eval_put_ne _ _ _ _ (by decide)).trans f4_39
      have f5_9 : a5.eval (.tmp 9) = .pointer (some ⟨w.heap.size + 1, 0, none⟩) := by rw [hA5]; exact (Act.eval_put_ne _ _ _ _ (by decide)).trans f4_9
      have z5 : a5.tmps.size = 40 := by rw [hA5, Act.size_put]; exact z4
      have dd5 : a5.defers = [] := by rw [hA5, Act.defers_put']; exact dd4
      clear hA5 z4 dd4 f4_39 f4_37 f4_9
      refine wpAnyH_ready (rs := [5]) (by kernel_rfl) (by simp) (AllReadyH.cons (by simp only [List.getElem?_toArray, List.getElem?_cons_succ, List.getElem?_cons_zero]; rfl) (fun K hK => ?_) AllReadyH.nil)
      refine step_ef (by rfl) (.tmp 9) (.tmp 39) (by rfl) (w.heap.size + 1) zE f f5_9 f5_39 HZ5.out.b1 ?_
      refine hK.out _ _ (⟨_, (HZ5.out.next (Below.refl _ _).drew).effect f⟩) (fun hS => ?_)
      change wpAnyH _ _ _ _ _ _ _ a5 _
      refine wpAnyH_take (i := 6) (v := .int .i64 0) rfl (by kernel_rfl) (by kernel_rfl) (by kernel_rfl) (fun _ _ _ h => h) (yields_assign rfl _ rfl rfl) hS ?_
      obtain ⟨a6, hA6⟩ : ∃ a', a' = a5.put (some 10) (.int .i64 0) := ⟨_, rfl⟩
      change wpAnyH _ _ _ _ _ _ _ (a5.put (some 10) (.int .i64 0)) _
      rw [← hA6]
      have f6_10 : a6.eval (.tmp 10) = .int .i64 0 := by rw [hA6]; exact Act.eval_put_same _ _ _ (by omega)
      have f6_8 : a6.eval (.tmp 8) = .slice A5 yl.length c5 := by rw [hA6]; exact (Act.eval_put_ne _ _ _ _ (by decide)).trans f5_8
      have f6_9 : a6.eval (.tmp 9) = .pointer (some ⟨w.heap.size + 1, 0, none⟩) := by rw [hA6]; exact (Act.eval_put_ne _ _ _ _ (by decide)).trans f5_9
      have z6 : a6.tmps.size = 40 := by rw [hA6, Act.size_put]; exact z5
      have dd6 : a6.defers = [] := by rw [hA6, Act.defers_put']; exact dd5
      clear hA6 z5 dd5 f5_8 f5_39 f5_9
      refine wpAnyH_done (by kernel_rfl) ?_ _
      go_wp2_with fail
      have HZk := Lib.hid ((HZ5.out.next (Below.refl _ _).drew).effect f)
      exact xdo_ret (q := (yl, f, 0)) rfl rfl f6_8 f6_9 f6_10 dd6 HZk.out.b1 ⟨n, HW.out, by rw [HR.out]; exact ⟨A5, c5, rfl, in_row (HI5.out.next (Below.refl _ _).drew) HZ5.out.b1 (by decide) _, HZk.out.zo.below⟩⟩
      -- END7

/-- What the world must hold: the table of names. -/
def Okz (w : World) : Prop := Tab w ∧ 0 < w.heap.size
theorem exact_may {x : De} (h : Go.Proofs.YtjbcmedljgafkaaDoor.pgm.chkI x = 0) {n : Int} (hx : Exact x n) : n = pops x.1 x.2.2 0 := by
  have hb := Go.Proofs.YtjbcmedljgafkaaDoor.pgm.dep.b_small h
  exact hx (.inr ⟨by omega, by omega⟩)
theorem keeps : Keeps Okz where
  mono := fun w w' h hb => ⟨h.1.below hb h.2, Nat.lt_of_lt_of_le h.2 hb.size⟩
  do' := fun v p A c l self now w hw hv hz hI hf hs hn => by
    obtain ⟨A0, B0, C0, ca, cb, cc, rfl, -, -, hF⟩ := hv
    have hm := may_of hz
    have hff := fit_facts hm hf
    refine (xdo_any _ _ C0 cc p.fs A c l self now w hF (by have := hm.len; omega) (fun f h => by have := (hm.code f h).2.1; omega) hI hw.1 hw.2).mono fun e w' h => ?_
    obtain ⟨n, hx, h⟩ := h
    obtain ⟨i, a, -, -, -, -, -, hchk, -⟩ := hff.2.2
    rw [exact_may hchk (hx hff.1), do_same hm hf] at h
    exact h
  odd := fun v p A c l self w hw hv hsm hI hl ha hs => by
    obtain ⟨A0, B0, C0, ca, cb, cc, rfl, -, -, hF⟩ := hv
    refine (xdo_any _ _ C0 cc p.fs A c l self 1 w hF hsm.1 hsm.2 hI hw.1 hw.2).mono fun e w' h => ?_
    obtain ⟨n, -, A', c', he, -, hb⟩ := h
    exact ⟨⟨_, he⟩, hb⟩
  pure := fun n w hw hn => (pure_any n w).mono fun e w' ⟨h1, h2⟩ => ⟨h1, h2 ▸ Below.refl _ _⟩
end Go.Proofs.YtjbcmedljgafkaaDoor.pgm.exe

/-
  What a statement on frames that come of a program keeps in memory while the program's Do goes: its two boxes, and the frames. No condition.
-/

namespace Go.Proofs.YtjbcmedljgafkaaDoor.pgm.exe
open Go.RowKit Go.ChangeShapes
open Go.Proofs.YtjbcmedljgafkaaDoor.pgm
open Go.Proofs.YtjbcmedljgafkaaDoor.frames (Fr num In row_below row_far)
set_option linter.unusedVariables false
set_option linter.unusedSimpArgs false

structure Bz (w : World) (px sx : List Value) (A : Option Addr) (c : Nat) (B : Option Addr) (d : Nat) (l : List Fr) (W : World) : Prop where
  below : Below w.heap.size w W
  b0 : W.heap[w.heap.size]? = some (.cells px.toArray 26 (0, 0))
  b1 : W.heap[w.heap.size + 1]? = some (.cells sx.toArray 29 (0, 0))
  i1 : In W A c l
  i2 : In W B d l
theorem Bz.next {w W W' : World} {px sx : List Value} {A B : Option Addr} {c d : Nat} {l : List Fr} (h : Bz w px sx A c B d l W) (hb : Below W.heap.size W W') : Bz w px sx A c B d l W' :=
  ⟨h.below.trans (hb.mono h.below.size), (hb.block _ (lt_of_block h.b0)).trans h.b0, (hb.block _ (lt_of_block h.b1)).trans h.b1, h.i1.next hb, h.i2.next hb⟩
theorem Bz.alloc {w W : World} {px sx : List Value} {A B : Option Addr} {c d : Nat} {l : List Fr} (h : Bz w px sx A c B d l W) (o : Obj) : Bz w px sx A c B d l (W.alloc o) := h.next ((Below.refl _ _).alloc (Nat.le_refl _) _)
theorem Bz.far {w W : World} {px sx : List Value} {A B : Option Addr} {c d : Nat} {l : List Fr} (h : Bz w px sx A c B d l W) : w.heap.size + 1 < W.heap.size := lt_of_block h.b1
theorem Bz.row {w W : World} {px sx : List Value} {A B : Option Addr} {c d : Nat} {l : List Fr} (h : Bz w px sx A c B d l W) {g : Nat} {e0 : Ef} (hg : W.heap[g]? = some (efB e0)) (hn : w.heap.size + 1 < g) (rs : Array Value) : Bz w px sx A c B d l (W.setRow g rs) :=
  ⟨row_below h.below (by omega) _, (row_far _ (by omega)).trans h.b0, (row_far _ (by omega)).trans h.b1, in_row h.i1 hg (by simp [efC]) rs, in_row h.i2 hg (by simp [efC]) rs⟩
theorem cell_of {W : World} {g : Nat} {xs : List Value} {T : TypeId} (h : W.heap[g]? = some (.cells xs.toArray T (0, 0))) {j : Nat} {v : Value} (hv : xs[j]? = some v) : W.cell? ⟨g, j, none⟩ = some v := by
  unfold World.cell?
  rw [h]
  simp only [List.getElem?_toArray]
  exact hv
section
variable {ops : Array Oper} {S : World → Prop} {o : Oper} {a : Act}
theorem yields_prog (hw : o.guard = none) (x : Operand) (ho : o.op = .load 26 x) (g : Nat) (hx : a.eval x = .pointer (some ⟨g, 0, none⟩)) (xs : List Value) (h3 : xs.length = 3) (hS : ∀ w, S w → w.heap[g]? = some (.cells xs.toArray 26 (0, 0))) : YieldsIf Tryd.prog ops S o (.agg xs.toArray) a :=
  yieldsIf_load_mid (by simp [Region.wanted, hw]) _ x ho g 0 hx xs _ (fun w h j v hv => by rw [Nat.zero_add]; exact cell_of (hS w h) hv) Tryd.underlying26 rfl (by rw [h3]; kernel_rfl)
theorem yields_sfld (hg : o.guard = none) (y : Operand) (k : Nat) (hk : k = 3 ∨ k = 4) (ho : o.op = .fieldAddr 29 y k) (g : Nat) (hx : a.eval y = .pointer (some ⟨g, 0, none⟩)) : YieldsIf Tryd.prog ops S o (.pointer (some ⟨g, k, none⟩)) a :=
  .inl ⟨by simp [Region.wanted, hg], fun w' _ => by
    unfold execOp
    simp only [ho, hx]
    rcases hk with rfl | rfl
    · go_simp
    · go_simp⟩
theorem step_ealloc {w : World} {Q : Exit → Act → World → Prop} {K : Act → World → Prop} {E : Prop} (hgd : o.guard = none) (ho : o.op = .alloc 36)
    (h : K (a.put o.dst (.pointer (some ⟨w.heap.size, 0, none⟩))) (w.alloc (efB zE))) : if Region.wanted o (yielded ops a.tmps) = true then Oper.wp Tryd.prog o a w K Q else E := by
  have hw : Region.wanted o (yielded ops a.tmps) = true := by simp [Region.wanted, hgd]
  rw [if_pos hw]
  have hr : (execOp a.eval o).run Tryd.prog w = .ok (.value (.pointer (some ⟨w.heap.size, 0, none⟩))) (w.alloc (efB zE)) := by
    unfold execOp
    simp only [ho, Instr.alloc, Sem.run_bind, zE_run, Result.andThen_ok, newVar, newRow, Sem.run_pure, Value.cells]
    rfl
  unfold Oper.wp
  rw [hr]
  exact h
end
theorem eql8 (a0 a1 a2 a3 a4 a5 a6 a7 : Int) (w : World) : (binOp .eql 36 (.agg #[.int .i64 a0, .int .i64 a1, .int .i64 a2, .int .i64 a3, .int .i64 a4, .int .i64 a5, .int .i64 a6, .int .i64 a7]) (.agg #[.int .i64 a0, .int .i64 a1, .int .i64 a2, .int .i64 a3, .int .i64 a4, .int .i64 a5, .int .i64 a6, .int .i64 a7])).run Tryd.prog w = .ok (.bool true) w := eqlE ⟨a0, a1, a2, [a3, a4, a5, a6, a7]⟩ w
theorem guard8 (x y : Operand) (a0 a1 a2 a3 a4 a5 a6 a7 : Int) (w : World) : (eqGuard .eql 36 x y (.agg #[.int .i64 a0, .int .i64 a1, .int .i64 a2, .int .i64 a3, .int .i64 a4, .int .i64 a5, .int .i64 a6, .int .i64 a7]) (.agg #[.int .i64 a0, .int .i64 a1, .int .i64 a2, .int .i64 a3, .int .i64 a4, .int .i64 a5, .int .i64 a6, .int .i64 a7])).run Tryd.prog w = .ok () w := guardE x y ⟨a0, a1, a2, [a3, a4, a5, a6, a7]⟩ w
theorem ef_eight (e : Ef) : ∃ a0 a1 a2 a3 a4 a5 a6 a7, efC e = [.int .i64 a0, .int .i64 a1, .int .i64 a2, .int .i64 a3, .int .i64 a4, .int .i64 a5, .int .i64 a6, .int .i64 a7] ∧ a0 = e.op := ⟨_, _, _, _, _, _, _, _, rfl, rfl⟩
end Go.Proofs.YtjbcmedljgafkaaDoor.pgm.exe
