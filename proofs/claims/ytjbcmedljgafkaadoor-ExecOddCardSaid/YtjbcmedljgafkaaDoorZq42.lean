/-
  Texts of one claim in one file: FInts, FLocal, ZOc, ZRes, ZSmall, WRefHigh, WSpec, WShifts. Each has its own sentence, with its conditions.
-/
import Derived.Test.YtjbcmedljgafkaaDoorZq41
import Derived.Test.YtjbcmedljgafkaaDoorZq17
import Derived.Laws.CopyOwn
import Derived.Test.YtjbcmedljgafkaaDoorZq16
/-
  Frames of numbers that the machine can hold come to such ones again: plain mathematics of lists. No condition.
-/

namespace Go.Proofs.YtjbcmedljgafkaaDoor.frames
open Go.Proofs.YtjbcmedljgafkaaDoor.word (low)
set_option linter.unusedVariables false

/-- Frames of numbers that the machine can hold. -/
def IntF (f : Fr) : Prop := ∀ k, k < 27 → I64 (num f k)
def Ints (l : List Fr) : Prop := ∀ f ∈ l, IntF f
theorem i64_zero : I64 0 := by unfold I64; omega
theorem i64_low (v : Int) : I64 (low v) := by
  have h1 := Go.Proofs.YtjbcmedljgafkaaDoor.word.low_word v
  unfold Go.Proofs.YtjbcmedljgafkaaDoor.word.Word at h1
  unfold I64
  omega
theorem IntF.set {f : Fr} (h : IntF f) (i : Nat) {v : Int} (hv : I64 v) : IntF (f.set i v) := fun k hk => by
  by_cases e : i = k
  · subst e
    unfold num
    rw [List.getD_eq_getElem?_getD]
    by_cases hl : i < f.length
    · rw [List.getElem?_set_self hl]
      exact hv
    · rw [List.getElem?_eq_none (by rw [List.length_set]; omega)]
      exact i64_zero
  · rw [num_ne e]
    exact h k hk
theorem zero_int : IntF zeroF := fun k hk => by
  unfold num zeroF
  rw [List.getD_eq_getElem?_getD, List.getElem?_replicate, if_pos hk]
  exact i64_zero
theorem Ints.top {l : List Fr} (h : Ints l) : IntF (topF l) := by
  by_cases h0 : l.length = 0
  · obtain rfl := List.eq_nil_of_length_eq_zero h0
    exact zero_int
  · exact h _ (top_mem h0)
theorem clamp_int {f : Fr} (h : IntF f) : IntF (clampF f) := h.set 2 (by unfold I64; omega)
theorem Ints.last {l : List Fr} (h : Ints l) : IntF (lastO l) := clamp_int h.top
theorem with_int {l : List Fr} {f : Fr} (h : Ints l) (hf : IntF f) : Ints (withF l f) := fun g hg => by
  unfold withF at hg
  rcases List.mem_append.1 hg with hg | hg
  · exact h g (mem_take_any hg)
  · rw [List.mem_singleton.1 hg]; exact hf
theorem push_int {l x : List Fr} {v : Int} (h : Ints l) (hx : pushO l v = some x) : Ints x ∧ x.length = l.length ∧ l.length ≠ 0 := by
  unfold pushO at hx
  split at hx
  · cases hx
  · rename_i hn
    have h1 : ¬ 15 < cnt (lastO l) := fun e => hn (.inr (.inl e))
    have h2 : ¬ cnt (lastO l) < 0 := fun e => hn (.inr (.inr e))
    obtain rfl := Option.some.inj hx
    refine ⟨with_int h ?_, with_length (fun e => hn (.inl e)), fun e => hn (.inl e)⟩
    unfold pushed
    exact (h.last.set _ (i64_low v)).set 2 (by unfold I64; omega)
theorem top_int {l : List Fr} (h : Ints l) (hc : cnt (lastO l) ≤ 16) : I64 (topO l) := by
  unfold topO
  exact h.last _ (by omega)
theorem ret_int {l x : List Fr} {v : Int} (h : Ints l) (hc : cnt (lastO l) ≤ 16) (hx : retO l = some (x, v)) : Ints x ∧ x.length + 1 = l.length ∧ I64 v := by
  unfold retO at hx
  split at hx
  · cases hx
  · rename_i hn
    split at hx
    · rename_i h1
      obtain ⟨rfl, rfl⟩ := Prod.mk.inj (Option.some.inj hx)
      exact ⟨fun g hg => absurd hg (List.not_mem_nil), h1.symm, top_int h hc⟩
    · cases hp : pushO (l.take (l.length - 1)) (topO l) with
      | none => rw [hp] at hx; cases hx
      | some y =>
        rw [hp] at hx
        obtain ⟨rfl, rfl⟩ := Prod.mk.inj (Option.some.inj hx)
        have h1 := push_int (fun g hg => h g (mem_take_any hg)) hp
        rw [List.length_take] at h1
        exact ⟨h1.1, by have := h1.2.1; have : ¬ l.length = 0 := fun e => hn (.inl e); omega, top_int h hc⟩
theorem go_same {l : List Fr} (h : Good l) (pc : Int) : goO l pc = goF l pc := by
  unfold goO goF
  by_cases h0 : l.length = 0
  · rw [if_pos h0, if_pos h0]
  · rw [last_same h h0]
theorem store_same {l : List Fr} (h : Good l) (k v : Int) : storeO l k v = storeF l k v := by
  unfold storeO storeF
  by_cases h0 : l.length = 0
  · rw [if_pos (.inl h0), if_pos (.inl h0)]
  · rw [last_same h h0]
theorem call_same {l : List Fr} (h : Good l) (fn n : Int) : callO l fn n = callF l fn n := by
  unfold callO callF
  rw [pop_same h]
  rfl
end Go.Proofs.YtjbcmedljgafkaaDoor.frames

/-
  The program's own local, of frames of any number of values. At most a thousand frames, each of twenty-seven numbers.
-/

namespace Go.Proofs.YtjbcmedljgafkaaDoor.frames
open Go.RowKit Go.ChangeShapes
set_option linter.unusedVariables false
set_option linter.unusedSimpArgs false

def localO (l : List Fr) (k : Int) : Int := if l.length = 0 ∨ k < 0 ∨ 7 < k then 0 else num (lastO l) (3 + k.toNat)
theorem local_same {l : List Fr} (h : Good l) (k : Int) : localO l k = if l.length = 0 ∨ k < 0 ∨ 7 < k then 0 else num (topF l) (3 + k.toNat) := by
  unfold localO
  by_cases h0 : l.length = 0
  · rw [if_pos (.inl h0), if_pos (.inl h0)]
  · rw [last_same h h0]
set_option maxRecDepth 100000 in
set_option maxHeartbeats 4000000 in
theorem local_odd (A : Option Addr) (c : Nat) (l : List Fr) (k : Int) (w : World) (hI : In w A c l) :
    Calls Tryd.prog 66 #[.slice A l.length c, .int .i64 k] w fun e w' => e = .returned (.int .i64 (localO l k)) ∧ Below w.heap.size w w' := by
  have HLa : Hid (∃ f b, f.length = 27 ∧ (0 ≤ k → k ≤ 7 → num f (3 + k.toNat) = localO l k) ∧ Calls Tryd.prog 61 #[.slice A l.length c] w fun e w' => e = .returned (.tuple #[.agg (cellsF f).toArray, .bool b]) ∧ Below w.heap.size w w') := Lib.hid (by
    by_cases h0 : l.length = 0
    · refine ⟨zeroF, false, rfl, fun h1 h2 => ?_, by rw [h0]; exact last_none A c w⟩
      unfold localO
      rw [if_pos (.inl h0)]
      unfold num zeroF
      rw [List.getD_eq_getElem?_getD, List.getElem?_replicate, if_pos (by omega)]
      rfl
    · refine ⟨lastO l, true, (last_good hI h0).1, fun h1 h2 => ?_, last_odd A c l w hI h0⟩
      unfold localO
      rw [if_neg (by rintro (e | e | e); exact h0 e; omega; omega)])
  obtain ⟨f, b, hf27, hval, hLa⟩ := HLa.out
  have HLb := Lib.hid hLa
  have HIs := Lib.hid (isLocal_any k)
  have hno : ¬ (0 ≤ k ∧ k ≤ 7) → localO l k = 0 := fun h => by
    unfold localO
    rw [if_pos (by omega)]
  clear hLa HLa hI
  generalize localO l k = v at *
  generalize l.length = L at *
  by_cases hk : 0 ≤ k ∧ k ≤ 7
  · rw [decide_eq_true hk] at HIs
    have hv := hval hk.1 hk.2
    obtain ⟨n, rfl⟩ : ∃ n : Nat, k = (n : Int) := ⟨k.toNat, by omega⟩
    rw [Int.toNat_natCast] at hv
    have n0 : (0 : Int) ≤ (n : Int) := by omega
    have n1 : (n : Int) < 8 := by omega
    go_enter Tryd.func66, Tryd.ntmps66
    go_wp2_with fail
    refine HLb.out.mono ?_
    rintro _ w1 ⟨rfl, hb1⟩
    have hL := lf_new hb1 f
    have HL := Lib.hid hL
    have x1 := cell_block hL.block (k := 3 + n) (by omega)
    rw [hv] at x1
    clear hL hb1 HLb hval hno hv hk hf27
    go_upto_region 2 with (first | refine wl_alloc rfl rfl ?_ | refine wl_store rfl _ _ rfl w1 zeroF _ rfl rfl rfl ?_)
    try simp only [Act.put, List.setIfInBounds_toArray, List.set_cons_zero, List.set_cons_succ]
    generalize w1.alloc (frB f) = W2 at *
    go_wp2_with fail
    refine (HIs.out _).mono ?_
    rintro _ _ ⟨rfl, rfl⟩
    go_wp2
    go_ret
    exact ⟨rfl, HL.out.below⟩
  · rw [decide_eq_false hk] at HIs
    obtain rfl := hno hk
    clear hno hval hk
    go_enter Tryd.func66, Tryd.ntmps66
    go_wp2_with fail
    refine HLb.out.mono ?_
    rintro _ w1 ⟨rfl, hb1⟩
    have HL := Lib.hid (lf_new hb1 f)
    clear hb1 HLb
    go_upto_region 2 with (first | refine wl_alloc rfl rfl ?_ | refine wl_store rfl _ _ rfl w1 zeroF _ rfl rfl rfl ?_)
    try simp only [Act.put, List.setIfInBounds_toArray, List.set_cons_zero, List.set_cons_succ]
    generalize w1.alloc (frB f) = W2 at *
    go_wp2_with fail
    refine (HIs.out _).mono ?_
    rintro _ _ ⟨rfl, rfl⟩
    go_wp2
    go_ret
    exact ⟨rfl, HL.out.below⟩
end Go.Proofs.YtjbcmedljgafkaaDoor.frames

/-
  What an instruction comes to, as the program keeps it: made, loaded, stored, answered, one operation each; and the frames, the effect and the fault that Do answers for it. No condition.
-/

namespace Go.Proofs.YtjbcmedljgafkaaDoor.pgm.exe
open Go.RowKit Go.ChangeShapes
open Go.Proofs.YtjbcmedljgafkaaDoor.frames (Fr In)
set_option linter.unusedVariables false
set_option linter.unusedSimpArgs false

/-- What an instruction comes to: whether it is done, the frames as they lie, the effect, the fault. -/
structure Oc where
  done : Bool
  A : Option Addr
  n : Nat
  c : Nat
  e : Ef
  k : Int
def ocC (o : Oc) : List Value := .bool o.done :: .slice o.A o.n o.c :: (efC o.e ++ [.int .i64 o.k])
def ocB (o : Oc) : Obj := .cells (ocC o).toArray 60
def ocV (o : Oc) : Value := .agg (ocC o).toArray
def zO : Oc := ⟨false, none, 0, 0, zE, 0⟩
theorem ocC_size (o : Oc) : (ocC o).toArray.size = 11 := by simp [ocC, efC]
theorem ocC_all (o : Oc) : (ocC o).toArray.all (·.oneCell') = true := by
  rw [Array.all_eq_true_iff_forall_mem]
  intro u hu
  unfold ocC at hu
  simp only [List.mem_toArray, List.mem_cons, List.mem_append, List.not_mem_nil, or_false] at hu
  rcases hu with rfl | rfl | hu | rfl
  · rfl
  · rfl
  · exact efC_one _ u hu
  · rfl
theorem sizeO {n : Nat} (h : n = 11) : (Tryd.prog.info? 60).map (·.size) = some n := by
  subst h
  kernel_rfl
theorem oc_cell {w : World} {g : Nat} {o : Oc} (h : w.heap[g]? = some (ocB o)) {j : Nat} {v : Value} (hv : (ocC o)[j]? = some v) : w.cell? ⟨g, j, none⟩ = some v := by
  unfold World.cell?
  rw [h]
  unfold ocB
  simp only [List.getElem?_toArray]
  exact hv
theorem oc_range {w : World} {g : Nat} {o : Oc} (h : w.heap[g]? = some (ocB o)) : w.rangeAt g 0 (ocC o) := fun j v hv => by
  rw [Nat.zero_add]
  exact oc_cell h hv
/-- Whether it is done, its frames, its fault. -/
theorem oc_cells {w : World} {g : Nat} {o : Oc} (h : w.heap[g]? = some (ocB o)) : w.cell? ⟨g, 0, none⟩ = some (.bool o.done) ∧ w.cell? ⟨g, 1, none⟩ = some (.slice o.A o.n o.c) ∧ w.cell? ⟨g, 10, none⟩ = some (.int .i64 o.k) :=
  ⟨oc_cell h rfl, oc_cell h rfl, oc_cell h rfl⟩
/-- Its effect. -/
theorem oc_effect {w : World} {g : Nat} {o : Oc} (h : w.heap[g]? = some (ocB o)) : w.rangeAt g 2 (efC o.e) := fun j v hv => by
  have hj : j < 8 := (List.getElem?_eq_some_iff.1 hv).1
  refine oc_cell h ?_
  unfold ocC
  rw [Nat.add_comm, List.getElem?_cons_succ, List.getElem?_cons_succ, List.getElem?_append_left (by exact hj)]
  exact hv
theorem zO_run (w : World) : (zeroValue 60).run Tryd.prog w = .ok (.agg (ocC zO).toArray) w :=
  (zero_of_info (P := Tryd.prog) (t := 60) (v := .agg (ocC zO).toArray) (n := 11) (by kernel_rfl)).1 w
theorem builtO0 : Tryd.prog.built 60 [] = some (ocC zO).toArray := by kernel_rfl
theorem builtOk (k : Int) : Tryd.prog.built 60 [(3, .int .i64 k)] = some (ocC ⟨false, none, 0, 0, zE, k⟩).toArray := by kernel_rfl
theorem builtO3 (b : Bool) (A : Option Addr) (n c : Nat) (e : Ef) : Tryd.prog.built 60 [(0, .bool b), (1, .slice A n c), (2, .agg (efC e).toArray)] = some (ocC ⟨b, A, n, c, e, 0⟩).toArray := by kernel_rfl
theorem builtO2 (b : Bool) (e : Ef) : Tryd.prog.built 60 [(0, .bool b), (2, .agg (efC e).toArray)] = some (ocC ⟨b, none, 0, 0, e, 0⟩).toArray := by kernel_rfl
theorem builtE2 : Tryd.prog.built 36 [(0, .int .i64 (-2))] = some (efC ⟨-2, 0, 0, []⟩).toArray := by kernel_rfl
section
variable {ops : Array Oper} {rest : List Oper} {o : Oper} {a : Act} {w : World} {Q : Exit → Act → World → Prop} {K : Act → World → Prop}
theorem wo_alloc (hgd : o.guard = none) (ho : o.op = .alloc 60)
    (h : wpList Tryd.prog ops Q rest (a.put o.dst (.pointer (some ⟨w.heap.size, 0, none⟩))) (w.alloc (ocB zO))) : wpList Tryd.prog ops Q (o :: rest) a w := by
  refine Go.Great.wpList_runTo hgd o.dst rfl _ _ ?_ h
  unfold execOp
  simp only [ho, Instr.alloc, Sem.run_bind, zO_run, Result.andThen_ok, newVar, newRow, Sem.run_pure, Value.cells]
  rfl
theorem wo_store (hgd : o.guard = none) (x y : Operand) (ho : o.op = .store 60 x y) (g : Nat) (q0 q : Oc) (hx : a.eval x = .pointer (some ⟨g, 0, none⟩)) (hy : a.eval y = ocV q) (hg : w.heap[g]? = some (ocB q0))
    (h : wpList Tryd.prog ops Q rest (a.put o.dst undef) (w.setRow g (ocC q).toArray)) : wpList Tryd.prog ops Q (o :: rest) a w :=
  wpList_store_row hgd _ x y ho g (ocC q).toArray hx hy 60 (ocC q0).toArray hg (sizeO (ocC_size q)) (by rw [ocC_size, ocC_size]) (ocC_all q) h
theorem step_oc {E : Prop} (hgd : o.guard = none) (x y : Operand) (ho : o.op = .store 60 x y) (g : Nat) (q0 q : Oc) (hx : a.eval x = .pointer (some ⟨g, 0, none⟩)) (hy : a.eval y = ocV q) (hg : w.heap[g]? = some (ocB q0))
    (h : K (a.put o.dst undef) (w.setRow g (ocC q).toArray)) : if Region.wanted o (yielded ops a.tmps) = true then Oper.wp Tryd.prog o a w K Q else E := by
  have hw : Region.wanted o (yielded ops a.tmps) = true := by simp [Region.wanted, hgd]
  rw [if_pos hw]
  exact wp_store_row _ x y ho g (ocC q).toArray hx hy 60 (ocC q0).toArray hg (sizeO (ocC_size q)) (by rw [ocC_size, ocC_size]) (ocC_all q) h
theorem wo_build0 (hgd : o.guard = none) (ho : o.op = .build 60 #[])
    (h : wpList Tryd.prog ops Q rest (a.put o.dst (ocV zO)) w) : wpList Tryd.prog ops Q (o :: rest) a w := by
  have e : ((#[] : Array (Nat × Operand)).map fun (i, x) => (i, a.eval x)).toList = [] := by simp
  refine wpList_build hgd _ _ ho (by rw [e, builtO0]; rfl) ?_
  rw [e, builtO0]
  exact h
theorem wo_buildk (hgd : o.guard = none) (x : Operand) (ho : o.op = .build 60 #[(3, x)]) (k : Int) (hx : a.eval x = .int .i64 k)
    (h : wpList Tryd.prog ops Q rest (a.put o.dst (ocV ⟨false, none, 0, 0, zE, k⟩)) w) : wpList Tryd.prog ops Q (o :: rest) a w := by
  have e : (#[(3, x)].map fun (i, x) => (i, a.eval x)).toList = [((3 : Nat), Value.int .i64 k)] := by simp [hx]
  refine wpList_build hgd _ _ ho (by rw [e, builtOk]; rfl) ?_
  rw [e, builtOk]
  exact h
theorem wo_build3 (hgd : o.guard = none) (x y z : Operand) (ho : o.op = .build 60 #[(0, x), (1, y), (2, z)]) (b : Bool) (A : Option Addr) (n c : Nat) (f : Ef) (hx : a.eval x = .bool b) (hy : a.eval y = .slice A n c) (hz : a.eval z = efV f)
    (h : wpList Tryd.prog ops Q rest (a.put o.dst (ocV ⟨b, A, n, c, f, 0⟩)) w) : wpList Tryd.prog ops Q (o :: rest) a w := by
  have e : (#[(0, x), (1, y), (2, z)].map fun (i, x) => (i, a.eval x)).toList = [((0 : Nat), Value.bool b), (1, .slice A n c), (2, .agg (efC f).toArray)] := by simp [hx, hy, hz, efV]
  refine wpList_build hgd _ _ ho (by rw [e, builtO3]; rfl) ?_
  rw [e, builtO3]
  exact h
theorem wo_build2 (hgd : o.guard = none) (x z : Operand) (ho : o.op = .build 60 #[(0, x), (2, z)]) (b : Bool) (f : Ef) (hx : a.eval x = .bool b) (hz : a.eval z = efV f)
    (h : wpList Tryd.prog ops Q rest (a.put o.dst (ocV ⟨b, none, 0, 0, f, 0⟩)) w) : wpList Tryd.prog ops Q (o :: rest) a w := by
  have e : (#[(0, x), (2, z)].map fun (i, x) => (i, a.eval x)).toList = [((0 : Nat), Value.bool b), (2, .agg (efC f).toArray)] := by simp [hx, hz, efV]
  refine wpList_build hgd _ _ ho (by rw [e, builtO2]; rfl) ?_
  rw [e, builtO2]
  exact h
theorem we_build2 (hgd : o.guard = none) (ho : o.op = .build 36 #[(0, .const (.int .i64 (-2)))])
    (h : wpList Tryd.prog ops Q rest (a.put o.dst (efV ⟨-2, 0, 0, []⟩)) w) : wpList Tryd.prog ops Q (o :: rest) a w := by
  have e : ((#[(0, Operand.const (.int .i64 (-2)))] : Array (Nat × Operand)).map fun (i, x) => (i, a.eval x)).toList = [((0 : Nat), Value.int .i64 (-2))] := by simp [Act.eval]
  refine wpList_build hgd _ _ ho (by rw [e, builtE2]; rfl) ?_
  rw [e, builtE2]
  exact h
/-- An effect that lies in what an instruction comes to. -/
theorem yields_oe {S : World → Prop} (hw : o.guard = none) (x : Operand) (ho : o.op = .load 36 x) (g : Nat) (hx : a.eval x = .pointer (some ⟨g, 2, none⟩)) (q : Oc) (hS : ∀ w, S w → w.heap[g]? = some (ocB q)) : YieldsIf Tryd.prog ops S o (efV q.e) a :=
  yieldsIf_load_mid (by simp [Region.wanted, hw]) _ x ho g 2 hx (efC q.e) _ (fun w h => oc_effect (hS w h)) Tryd.underlying36 rfl (sizeE rfl)
end
/-- A function that answers what an instruction comes to, which lies in a cell. -/
theorem oc_ret {f : Func} {s : Nat} (hr : f.results = #[.cell s 60]) {W : World} {act : Act} {g : Nat} {q : Oc} {R : Ending → World → Prop} (h : act.tmps[s]?.getD undef = .pointer (some ⟨g, 0, none⟩)) (hd : act.defers = [])
    (hx : W.heap[g]? = some (ocB q)) (hR : R (.returned (ocV q)) W) : bodyPost Tryd.prog f R .ret act W := by
  have hL := run_loadVar_mid (P := Tryd.prog) W g 0 60 (ocC q) _ (oc_range hx) Tryd.underlying60 rfl (sizeO (ocC_size q))
  refine bodyPost_ret (v := ocV q) ?_ hd hR
  simp [results, hr, asAddr, h, hL, Sem.run_bind, Sem.run_pure, Result.andThen, ocV]
theorem oc_turned {w : World} {g : Nat} {q0 : Oc} (h : w.heap[g]? = some (ocB q0)) (q : Oc) : (w.setRow g (ocC q).toArray).heap[g]? = some (ocB q) := row_turned h _

/-- What an instruction comes to: frames and an effect, or a fault. -/
def OutPost (r : Option (List Fr × Ef) × Int) (w : World) (e : Ending) (w' : World) : Prop :=
  Below w.heap.size w w' ∧ match r with
  | (some (l, f), _) => ∃ A c, e = .returned (ocV ⟨true, A, l.length, c, f, 0⟩) ∧ In w' A c l
  | (none, k) => ∃ q : Oc, q.done = false ∧ q.k = k ∧ e = .returned (ocV q)
/-- Memory while a function goes that answers such a thing. -/
structure Zo (w : World) (g : Nat) (q : Oc) (W : World) : Prop where
  below : Below w.heap.size w W
  block : W.heap[g]? = some (ocB q)
  far : w.heap.size ≤ g
theorem Zo.next {w W W' : World} {g : Nat} {q : Oc} (h : Zo w g q W) (hb : Below W.heap.size W W') : Zo w g q W' :=
  ⟨h.below.trans (hb.mono h.below.size), (hb.block _ (lt_of_block h.block)).trans h.block, h.far⟩
theorem Zo.store {w W : World} {g : Nat} {q0 : Oc} (h : Zo w g q0 W) (q : Oc) : Zo w g q (W.setRow g (ocC q).toArray) :=
  ⟨Go.Proofs.YtjbcmedljgafkaaDoor.frames.row_below h.below h.far _, oc_turned h.block q, h.far⟩
theorem zo_new {w W : World} (h : Below w.heap.size w W) : Zo w W.heap.size zO (W.alloc (ocB zO)) := ⟨h.alloc h.size _, heap_alloc_new W _, h.size⟩
end Go.Proofs.YtjbcmedljgafkaaDoor.pgm.exe

/-
  What the program's own Do makes of frames, whatever they are, and that it is what the document says of a program that may run and frames that come of it: plain mathematics of lists. No condition.
-/

namespace Go.Proofs.YtjbcmedljgafkaaDoor.pgm.exe
open Go.RowKit
open Go.Proofs.YtjbcmedljgafkaaDoor.pgm (Fn Pg chkI getD_in)
open Go.Proofs.YtjbcmedljgafkaaDoor.objs (De zero)
open Go.Proofs.YtjbcmedljgafkaaDoor.oper (pops numb ly)
open Go.Proofs.YtjbcmedljgafkaaDoor.word (low doW)
open Go.Proofs.YtjbcmedljgafkaaDoor.frames
set_option linter.unusedVariables false

abbrev Res := Option (List Fr × Ef) × Int
def quietO (x : Option (List Fr)) : Res := (x.map fun l => (l, noE), 0)
/-- Frames with the last one at its next place, as a machine of sixty-four bits counts. -/
def onwO (l : List Fr) : List Fr := goO l (wrap64 (num (topF l) 1 + 1))
def callR (fs : List Fn) (l : List Fr) (fn : Int) : Res :=
  if 8 ≤ l.length then (none, 3) else if 0 ≤ fn ∧ fn ≤ (fs.length : Int) - 1 then quietO (callO (onwO l) fn (fs.getD fn.toNat Fn.zero).ar) else (none, 0)
def retR (l : List Fr) : Res := match retO l with
  | none => (none, 0)
  | some (x, v) => if x.length = 0 then (some ([], ⟨-2, 0, 0, [v]⟩), 0) else (some (x, noE), 0)
def compR (rest : List Fr) (o : Int) (v : List Int) : Res :=
  if (doW o (low (v.getD 0 0)) (low (v.getD 1 0))).2 ≠ 0 then (none, (doW o (low (v.getD 0 0)) (low (v.getD 1 0))).2) else quietO (pushO rest (doW o (low (v.getD 0 0)) (low (v.getD 1 0))).1)
def aloneR (rest : List Fr) (x : De) (v : List Int) (self now : Int) : Res :=
  if x.1 = 0 then quietO (pushO rest x.2.1)
  else if x.1 = 1 then quietO (pushO rest (localO rest x.2.1))
  else if x.1 = 2 then quietO (some (storeO rest x.2.1 (v.getD 0 0)))
  else if x.1 = 16 then quietO (pushO ((pushO rest (v.getD 0 0)).getD []) (v.getD 0 0))
  else if x.1 = 17 then quietO (some rest)
  else if x.1 = 18 then quietO (some (goO rest x.2.1))
  else if x.1 = 19 then quietO (some (if v.getD 0 0 = 0 then goO rest x.2.1 else rest))
  else if x.1 = 22 then quietO (pushO rest self)
  else if x.1 = 23 then quietO (pushO rest now)
  else compR rest x.1 v
def doR (fs : List Fn) (l : List Fr) (x : De) (self now n : Int) : Res :=
  if x.1 = 20 then callR fs l x.2.1 else if x.1 = 21 then retR l else match popO (onwO l) n with
    | none => (none, 0)
    | some (rest, v) => if 0 ≤ x.1 ∧ x.1 ≤ 23 then aloneR rest x v self now else (some (rest, ⟨x.1, x.2.1, x.2.2, v⟩), 0)
/-- The instruction at which the last frame is, if there is one that is an operation. -/
def curR (fs : List Fn) (l : List Fr) : Option De :=
  if l.length = 0 ∨ ¬ (0 ≤ num (topF l) 0 ∧ num (topF l) 0 ≤ (fs.length : Int) - 1) ∨ ¬ (0 ≤ num (topF l) 1 ∧ num (topF l) 1 ≤ ((fs.getD (num (topF l) 0).toNat Fn.zero).co.length : Int) - 1) then none
  else if 0 ≤ (insZ fs l).1 ∧ (insZ fs l).1 ≤ 51 then some (insZ fs l) else none
def ansR (l : List Fr) (r : Res) : List Fr × Ef × Int := match r with
  | (some (y, f), _) => (y, f, 0)
  | (none, k) => (l, noE, k)
def outR (fs : List Fn) (l : List Fr) (self now n : Int) : Res := match curR fs l with
  | none => (none, 0)
  | some x => doR fs l x self now n
def doO (fs : List Fn) (l : List Fr) (self now n : Int) : List Fr × Ef × Int := ansR l (outR fs l self now n)

theorem ans_quiet {l : List Fr} {x : Option (List Fr)} {y : List Fr} (h : x = some y) : ansR l (quietO x) = (x.getD [], noE, 0) := by
  subst h
  rfl
theorem retO_length {l x : List Fr} {v : Int} (hx : retO l = some (x, v)) : x.length + 1 = l.length := by
  unfold retO at hx
  split at hx
  · cases hx
  · rename_i hn
    split at hx
    · rename_i h1
      obtain ⟨rfl, rfl⟩ := Prod.mk.inj (Option.some.inj hx)
      exact h1.symm
    · cases hp : pushO (l.take (l.length - 1)) (topO l) with
      | none => rw [hp] at hx; cases hx
      | some y =>
        rw [hp] at hx
        obtain ⟨rfl, rfl⟩ := Prod.mk.inj (Option.some.inj hx)
        unfold pushO at hp
        split at hp
        · cases hp
        · rename_i hq
          obtain rfl := Option.some.inj hp
          rw [with_length (fun e => hq (.inl e)), List.length_take]
          have : ¬ l.length = 0 := fun e => hn (.inl e)
          omega
theorem do_same {fs : List Fn} (hm : May fs) {l : List Fr} (h : FitL fs 0 l) (self now : Int) : doO fs l self now (pops (insZ fs l).1 (insZ fs l).2.2 0) = doZ fs l self now := by
  have hG := h.good hm (Int.le_refl 0)
  obtain ⟨h0, hl8, i, a, hi, ha, hfn, hpc, hins, hchk, ha200⟩ := fit_facts hm h
  have hK := known_of hchk
  have hC := fit_call hm h
  have hR := fit_ret hm h
  have hT := fit_take hm h
  have hL := local_small hchk
  have hcur : curR fs l = some (insZ fs l) := by
    unfold curR
    rw [hfn, hpc, Int.toNat_natCast, if_neg (by rintro (e | e | e); exact h0 e; exact e ⟨by omega, by omega⟩; exact e ⟨by omega, by omega⟩), if_pos hK]
  have honw : onwO l = nextF l := by
    unfold onwO nextF
    rw [hpc, show wrap64 ((a : Int) + 1) = (a : Int) + 1 by unfold wrap64; omega]
    exact go_same hG _
  have hGn : frames.Good (nextF l) := go_good hG _
  unfold doO outR
  rw [hcur]
  show ansR l (doR fs l (insZ fs l) self now (pops (insZ fs l).1 (insZ fs l).2.2 0)) = _
  unfold doR doZ
  dsimp only
  rw [honw, show takeZ (insZ fs l) l = (popF (nextF l) (pops (insZ fs l).1 (insZ fs l).2.2 0)).getD ([], []) from rfl]
  generalize hx : insZ fs l = x at *
  by_cases h20 : x.1 = 20
  · rw [if_pos h20, if_pos h20]
    unfold callR
    by_cases h8 : l.length = 8
    · rw [if_pos (by omega), if_pos h8]
      rfl
    · obtain ⟨fi, y, hA, hfi, hcl, -⟩ := hC h20 h8
      rw [if_neg (by omega), if_neg h8, hA, if_pos ⟨by omega, by omega⟩, Int.toNat_natCast, honw, call_same hGn, hcl]
      rfl
  rw [if_neg h20, if_neg h20]
  by_cases h21 : x.1 = 21
  · rw [if_pos h21, if_pos h21]
    unfold retR
    rw [ret_same hG]
    by_cases h1 : l.length = 1
    · obtain ⟨v, hv⟩ := (hR h21).1 h1
      rw [hv, if_pos h1]
      rfl
    · obtain ⟨y, v, hv⟩ := (hR h21).2 h1
      have hy : y.length ≠ 0 := by
        have := retO_length (l := l) (by rw [ret_same hG]; exact hv)
        omega
      rw [hv, if_neg h1]
      show ansR l (if y.length = 0 then _ else _) = _
      rw [if_neg hy]
      rfl
  rw [if_neg h21, if_neg h21]
  obtain ⟨rest, v, ht, hpo, hvl, hp, r, g, hrest, hg0, hg1, hg27⟩ := hT h20
  rw [pop_same hGn, hpo]
  have hGr : frames.Good rest := (pop_good hGn hpo).1
  dsimp only [Option.getD_some]
  have on : x.1 ≠ 18 → (x.1 = 16 ∨ numb ly x.1 = 1) → ∀ z, ∃ y, pushF rest z = some y := fun h18 hl z => by
    rw [hrest]
    refine ⟨_, f_push r g z hg0 ?_⟩
    rcases hl with hl | hl
    · have : numb ly x.1 = 2 := by rw [hl]; rfl
      omega
    · omega
  by_cases h23 : 23 < x.1
  · rw [if_neg (by omega), if_pos h23]
    rfl
  rw [if_pos ⟨hK.1, by omega⟩, if_neg h23]
  unfold aloneR
  have ly1 : ([2, 16, 17, 18, 19, 21] : List Nat).all (fun j => !(x.1.toNat == j)) = true → numb ly x.1 = 1 := fun e => by
    unfold numb
    rw [if_pos hK]
    exact ly_one _ (by omega) e
  have last : ∀ z, x.1 ≠ 18 → numb ly x.1 = 1 → ansR l (quietO (pushO rest z)) = ((pushF rest z).getD [], noE, 0) := fun z h18 hl => by
    obtain ⟨y, hy⟩ := on h18 (.inr hl) z
    rw [push_same hGr]
    exact ans_quiet hy
  by_cases e0 : x.1 = 0
  · have hv : valZ x rest v self now = (x.2.1, 0) := by unfold valZ; rw [if_neg (by omega), if_neg (by omega), if_pos e0]
    rw [if_pos e0, if_neg (by omega), if_neg (by omega), if_neg (by omega), if_neg (by omega), if_neg (show ¬ (valZ x rest v self now).2 ≠ 0 from fun e => e (by rw [hv])), if_neg (by omega), hv]
    exact last _ (by omega) (by rw [e0]; rfl)
  rw [if_neg e0]
  by_cases e1 : x.1 = 1
  · have hv : valZ x rest v self now = (localO rest x.2.1, 0) := by
      unfold valZ
      rw [if_neg (by omega), if_neg (by omega), if_neg e0, if_pos e1, local_same hGr]
      rfl
    rw [if_pos e1, if_neg (by omega), if_neg (by omega), if_neg (by omega), if_neg (by omega), if_neg (show ¬ (valZ x rest v self now).2 ≠ 0 from fun e => e (by rw [hv])), if_neg (by omega), hv]
    exact last _ (by omega) (by rw [e1]; rfl)
  rw [if_neg e1]
  by_cases e2 : x.1 = 2
  · rw [if_pos e2, if_pos e2, store_same hGr]
    rfl
  rw [if_neg e2, if_neg e2]
  by_cases e16 : x.1 = 16
  · have hv : valZ x rest v self now = (0, 0) := by unfold valZ; rw [if_neg (by omega), if_neg (by omega), if_neg (by omega), if_neg (by omega), if_neg (by omega), if_neg (by omega)]
    rw [if_pos e16, if_neg (by omega), if_neg (by omega), if_neg (by omega), if_neg (show ¬ (valZ x rest v self now).2 ≠ 0 from fun e => e (by rw [hv])), if_pos e16, push_same hGr]
    have hl2 : numb ly x.1 = 2 := by rw [e16]; rfl
    have p1 := f_push r g (v.getD 0 0) hg0 (by omega)
    rw [← hrest] at p1
    have hGp : frames.Good (r ++ [pushed g (v.getD 0 0)]) := (push_good hGr p1).1
    have hc : cnt (pushed g (v.getD 0 0)) = cnt g + 1 := by
      unfold pushed
      rw [cnt_here (by rw [List.length_set]; exact hg27)]
    rw [p1]
    dsimp only [Option.getD_some]
    rw [push_same hGp]
    exact ans_quiet (f_push r _ _ (by omega) (by omega))
  rw [if_neg e16]
  by_cases e17 : x.1 = 17
  · rw [if_pos e17, if_pos e17]
    rfl
  rw [if_neg e17, if_neg e17]
  by_cases e18 : x.1 = 18
  · rw [if_pos e18, if_pos (.inl e18), go_same hGr]
    rfl
  rw [if_neg e18]
  by_cases e19 : x.1 = 19
  · rw [if_pos e19]
    by_cases hz : v.getD 0 0 = 0
    · rw [if_pos hz, if_pos (.inr ⟨e19, hz⟩), go_same hGr]
      rfl
    · rw [if_neg hz, if_neg (by rintro (e | e); exact e18 e; exact hz e.2), if_pos e19]
      rfl
  rw [if_neg e19, if_neg (show ¬ (x.1 = 18 ∨ (x.1 = 19 ∧ v.getD 0 0 = 0)) by rintro (e | e); exact e18 e; exact e19 e.1)]
  try rw [if_neg e19]
  by_cases e22 : x.1 = 22
  · have hv : valZ x rest v self now = (self, 0) := by unfold valZ; rw [if_neg (by omega), if_neg (by omega), if_neg e0, if_neg e1, if_pos e22]
    rw [if_pos e22, if_neg (show ¬ (valZ x rest v self now).2 ≠ 0 from fun e => e (by rw [hv])), if_neg e16, hv]
    exact last _ e18 (by rw [e22]; rfl)
  rw [if_neg e22]
  by_cases e23 : x.1 = 23
  · have hv : valZ x rest v self now = (now, 0) := by unfold valZ; rw [if_neg (by omega), if_neg (by omega), if_neg e0, if_neg e1, if_neg e22, if_pos e23]
    rw [if_pos e23, if_neg (show ¬ (valZ x rest v self now).2 ≠ 0 from fun e => e (by rw [hv])), if_neg e16, hv]
    exact last _ e18 (by rw [e23]; rfl)
  rw [if_neg e23]
  have hv : valZ x rest v self now = doW x.1 (low (v.getD 0 0)) (low (v.getD 1 0)) := by
    unfold valZ
    by_cases e8 : x.1 = 8
    · have hv1 : v.length = 1 := by
        rw [hvl, e8]
        rfl
      rw [if_pos e8, e8, show v.getD 1 0 = 0 by rw [List.getD_eq_getElem?_getD, List.getElem?_eq_none (by omega)]; rfl]
    · rw [if_neg e8, if_pos ⟨by omega, by omega⟩]
  unfold compR
  by_cases hf : (doW x.1 (low (v.getD 0 0)) (low (v.getD 1 0))).2 ≠ 0
  · rw [if_pos hf, if_pos (show (valZ x rest v self now).2 ≠ 0 by rw [hv]; exact hf), hv]
    rfl
  · rw [if_neg hf, if_neg (show ¬ (valZ x rest v self now).2 ≠ 0 by rw [hv]; exact hf), if_neg e16, hv]
    exact last _ e18 (ly1 (by
      simp only [List.all_cons, List.all_nil, Bool.and_true, Bool.and_eq_true, Bool.not_eq_true', beq_eq_false_iff_ne, ne_eq]
      omega))
end Go.Proofs.YtjbcmedljgafkaaDoor.pgm.exe

/-
  The program's own small calls of Do (typed over the code of 8d70ec2): frames at their next place, an outcome without an effect, one that asks, which operations ask nothing. At most a thousand frames, each of twenty-seven numbers.
-/

namespace Go.Proofs.YtjbcmedljgafkaaDoor.pgm.exe
open Go.RowKit Go.ChangeShapes
open Go.Proofs.YtjbcmedljgafkaaDoor.objs (De zero cells3)
open Go.Proofs.YtjbcmedljgafkaaDoor.oper (insBox)
open Go.Proofs.YtjbcmedljgafkaaDoor.nums (NAt)
open Go.Proofs.YtjbcmedljgafkaaDoor.frames
open Go.Proofs.YtjbcmedljgafkaaDoor.within (within_any)
set_option linter.unusedVariables false
set_option linter.unusedSimpArgs false

theorem pure_any (n : Int) (w : World) : Calls Tryd.prog 15 #[.int .i64 n] w fun e w' => e = .returned (.bool (decide (0 ≤ n ∧ n ≤ 23))) ∧ w = w' := by
  have HW := Lib.hid (within_any n 0 23 w)
  obtain ⟨b, hb⟩ : ∃ b, b = decide (0 ≤ n ∧ n ≤ 23) := ⟨_, rfl⟩
  rw [← hb] at HW ⊢
  clear hb
  go_enter Tryd.func15, Tryd.ntmps15
  go_wp2_with fail
  refine HW.out.mono ?_
  rintro _ _ ⟨rfl, rfl⟩
  go_wp2
  go_ret
  exact ⟨rfl, rfl⟩

set_option maxRecDepth 100000 in
set_option maxHeartbeats 4000000 in
theorem onward_any (A : Option Addr) (c : Nat) (l : List Fr) (w : World) (hI : In w A c l) (h0 : l.length ≠ 0) :
    Calls Tryd.prog 42 #[.slice A l.length c] w (FrsPost (onwO l) w) := by
  obtain ⟨b, off, m, rfl, hm, hb, hF, hl27⟩ := hI.top h0
  have hlen := hI.len
  have hcap := hI.cap
  have HG : Hid (Calls Tryd.prog 64 #[.slice (some ⟨b, off, none⟩) l.length c, .int .i64 (wrap64 (num (topF l) 1 + 1))] w (FrsPost (goO l (wrap64 (num (topF l) 1 + 1))) w)) := Lib.hid (go_odd (some ⟨b, off, none⟩) c l (wrap64 (num (topF l) 1 + 1)) w hI)
  have x1 := hF 1 (by omega)
  unfold onwO
  generalize num (topF l) 1 = P at *
  generalize goO l (wrap64 (P + 1)) = r at *
  rw [hm] at hlen hcap HG ⊢
  have k0 : (0 : Int) ≤ (m : Int) := by omega
  have k1 : (m : Int) < ((m + 1 : Nat) : Int) := by omega
  have k2 : (m : Int) < (m : Int) + 1 := by omega
  have hw0 : IntKind.i64.wrap ((m : Int) + 1 - 1) = (m : Int) := by rw [IntKind.wrap_i64]; omega
  have hw1 : IntKind.i64.wrap (m : Int) = (m : Int) := by rw [IntKind.wrap_i64]; omega
  clear hI h0 hF hb hl27 hm
  go_enter Tryd.func42, Tryd.ntmps42
  go_wp2_with fail
  refine HG.out.mono ?_
  unfold FrsPost
  rintro _ w1 ⟨A1, c1, rfl, hI1, hb1⟩
  have HI1 := Lib.hid hI1
  have HB1 := Lib.hid hb1
  clear hI1 hb1 HG
  go_wp2
  go_ret
  exact ⟨A1, c1, rfl, HI1.out, HB1.out⟩

set_option maxRecDepth 100000 in
set_option maxHeartbeats 4000000 in
theorem quiet_any (A : Option Addr) (n c : Nat) (b : Bool) (w : World) :
    Calls Tryd.prog 58 #[.slice A n c, .bool b] w fun e w' => e = .returned (ocV ⟨b, A, n, c, noE, 0⟩) ∧ Below w.heap.size w w' := by
  have HZ := Lib.hid (zo_new (Below.refl w.heap.size w))
  go_enter Tryd.func58, Tryd.ntmps58
  go_upto_region 1 with (first | refine wo_alloc rfl rfl ?_)
  try simp only [Act.put, List.setIfInBounds_toArray, List.set_cons_zero, List.set_cons_succ]
  generalize w.alloc (ocB zO) = W1 at *
  go_wp2_with (first | refine we_build rfl rfl ?_ | refine wo_build3 rfl _ _ _ rfl b A n c noE rfl rfl rfl ?_ | refine wo_store rfl _ _ rfl w.heap.size zO ⟨b, A, n, c, noE, 0⟩ rfl rfl HZ.out.block ?_)
  exact oc_ret Tryd.results58 rfl rfl (HZ.out.store _).block ⟨rfl, (HZ.out.store _).below⟩

theorem ef_filled (o a b : Int) (v : List Int) : splice (efC ⟨o, a, b, []⟩) 3 ((v.take 5).map (Value.int .i64)) = efC ⟨o, a, b, v⟩ := by
  match v with
  | [] => rfl
  | [_] => rfl
  | [_, _] => rfl
  | [_, _, _] => rfl
  | [_, _, _, _] => rfl
  | _ :: _ :: _ :: _ :: _ :: _ => rfl
theorem two_filled (v : List Int) : splice [Value.int .i64 0, .int .i64 0] 0 ((v.take 2).map (Value.int .i64)) = [.int .i64 (v.getD 0 0), .int .i64 (v.getD 1 0)] := by
  match v with
  | [] => rfl
  | [_] => rfl
  | _ :: _ :: _ => rfl
theorem ints_one (v : List Int) : ∀ u ∈ v.map (Value.int .i64), u.oneCell' = true := fun u hu => by
  obtain ⟨n, -, rfl⟩ := List.mem_map.1 hu
  rfl
/-- What is copied out of a list of numbers. -/
theorem src_ints {w : World} {B : Option Addr} {v : List Int} (h : NAt w B v) (k : Nat) (h0 : 0 < ((v.take k).map (Value.int .i64)).length) : ∃ ad, B = some ad ∧ ∀ j u, ((v.take k).map (Value.int .i64))[j]? = some u → w.cell? (ad.add j) = some u := by
  rw [List.length_map, List.length_take] at h0
  obtain ⟨b, off, rfl, -, -⟩ := h 0 (by omega)
  refine ⟨_, rfl, fun j u hu => ?_⟩
  have hj : j < min k v.length := by
    have := (List.getElem?_eq_some_iff.1 hu).1
    rwa [List.length_map, List.length_take] at this
  obtain ⟨b', off', e, -, hc⟩ := h j (by omega)
  injection Option.some.inj e with e1 e2
  subst e1 e2
  rw [Addr.add_lit, hc, ← hu, List.getElem?_map, List.getElem?_take_of_lt (by omega), List.getElem?_eq_getElem (by omega), List.getD_eq_getElem?_getD, List.getElem?_eq_getElem (by omega)]
  rfl

/-- A list of numbers is copied into a row that is known whole. -/
theorem copy_runs {W : World} {B : Option Addr} {v : List Int} (hN : NAt W B v) (d N g off : Nat) (cur : List Value) (t : TypeId) (hg : W.heap[g]? = some (.cells cur.toArray t (0, 0))) (hfit : off + N ≤ cur.length) :
    ∃ W3, (Builtin.copy_ #[27, 27] 3 #[.slice (some ⟨g, off, none⟩) N N, .slice B v.length d]).run Tryd.prog W = .ok (goInt ((min v.length N : Nat) : Int)) W3 ∧ W3.heap[g]? = some (.cells (splice cur off ((v.take N).map (Value.int .i64))).toArray t (0, 0)) ∧ Below g W W3 := by
  have hl : ((v.take N).map (Value.int .i64)).length = min v.length N := by rw [List.length_map, List.length_take, Nat.min_comm]
  have hs := src_ints hN N
  have h1 := ints_one (v.take N)
  have hu : (Tryd.prog.info? 3).map (·.size) = some 1 := by kernel_rfl
  generalize (v.take N).map (Value.int .i64) = cs at *
  by_cases h0 : cs.length = 0
  · obtain rfl : cs = [] := List.eq_nil_of_length_eq_zero h0
    have hm : Nat.min v.length N = 0 := by
      show min v.length N = 0
      omega
    refine ⟨W, ?_, by simpa [splice] using hg, Below.refl _ _⟩
    rw [run_copy_none W _ _ _ 3 _ _ _ _ _ _ Tryd.underlying27 hu hm, ← hl]
    rfl
  · obtain ⟨ad, rfl, hsrc⟩ := hs (by omega)
    have hr := run_copy_row (P := Tryd.prog) W 27 27 3 3 g off N N ad v.length d cur.toArray t cs Tryd.underlying27 hu hg hl hsrc (by rw [List.size_toArray, hl]; omega) h1
    rw [hl] at hr
    refine ⟨_, hr, ?_, below_setRow (Below.refl _ _) (Nat.le_refl _) _⟩
    simpa [splice, hl] using setRow_heap W g _ _ t _ hg

set_option maxRecDepth 100000 in
set_option maxHeartbeats 4000000 in
theorem asking_any (A : Option Addr) (n c : Nat) (x1 x2 x3 : Int) (B : Option Addr) (d : Nat) (v : List Int) (w : World) (hN : NAt w B v) :
    Calls Tryd.prog 45 #[.slice A n c, .agg #[.int .i64 x1, .int .i64 x2, .int .i64 x3], .slice B v.length d] w fun e w' => e = .returned (ocV ⟨true, A, n, c, ⟨x1, x2, x3, v⟩, 0⟩) ∧ Below w.heap.size w w' := by
  have hb0 : Below w.heap.size w (w.alloc (insBox x1 x2 x3)) := (Below.refl _ w).alloc (Nat.le_refl _) _
  have HZ := Lib.hid (zo_new hb0)
  have HX := Lib.hid ((Below.heap_alloc (w.alloc (insBox x1 x2 x3)) (ocB zO) w.heap.size (by rw [World.size_alloc]; omega)).trans (heap_alloc_new w (insBox x1 x2 x3)))
  have HN := Lib.hid hN
  have HE := Lib.hid (ef_filled x1 x2 x3 v)
  have HC := fun (W : World) (h : NAt W B v) g hg => Lib.hid (copy_runs h d 5 g 3 (efC ⟨x1, x2, x3, []⟩) 36 hg (by show 3 + 5 ≤ 8; omega))
  rw [show (w.alloc (insBox x1 x2 x3)).heap.size = w.heap.size + 1 from World.size_alloc _ _] at HZ
  unfold insBox at HZ HX
  clear hb0 hN
  go_enter Tryd.func45, Tryd.ntmps45
  go_upto_region 1 with (first | refine wo_alloc rfl rfl ?_)
  try simp only [Act.put, List.setIfInBounds_toArray, List.set_cons_zero, List.set_cons_succ, World.size_alloc]
  generalize (w.alloc (.cells #[.int .i64 x1, .int .i64 x2, .int .i64 x3] 55)).alloc (ocB zO) = W1 at *
  obtain ⟨y0, y1, y2, -, -, -⟩ := cells3 HX.out
  have HE1 := Lib.hid (heap_alloc_new W1 (efB zE))
  have HZ2 : Hid (Zo w (w.heap.size + 1) zO ((W1.alloc (efB zE)).setRow W1.heap.size (efC ⟨x1, x2, x3, []⟩).toArray)) := Lib.hid (HZ.out.next (Go.Proofs.YtjbcmedljgafkaaDoor.frames.row_below ((Below.refl _ W1).alloc (Nat.le_refl _) _) (Nat.le_refl _) _))
  have HE2 := Lib.hid (row_turned HE1.out (efC ⟨x1, x2, x3, []⟩).toArray)
  have hsz := HZ.out.below.size
  have HG : Hid (w.heap.size + 1 < W1.heap.size) := Lib.hid (lt_of_block HZ.out.block)
  go_upto_region 2 with (first | refine we_build3 rfl _ _ _ rfl x1 x2 x3 rfl rfl rfl ?_ | refine we_alloc rfl rfl ?_ | refine we_store rfl _ _ rfl W1.heap.size zE ⟨x1, x2, x3, []⟩ rfl rfl HE1.out ?_)
  try simp only [Act.put, List.setIfInBounds_toArray, List.set_cons_zero, List.set_cons_succ]
  generalize (W1.alloc (efB zE)).setRow W1.heap.size (efC ⟨x1, x2, x3, []⟩).toArray = W2 at *
  generalize W1.heap.size = g at *
  clear y0 y1 y2 HX HE1 HZ
  obtain ⟨W3, hr, hg3, hb3⟩ := (HC W2 (HN.out.next HZ2.out.below) g HE2.out).out
  rw [HE.out] at hg3
  have HE3 := Lib.hid hg3
  have HZ3 : Hid (Zo w (w.heap.size + 1) zO W3) := Lib.hid ⟨HZ2.out.below.trans (hb3.mono hsz), (hb3.block _ HG.out).trans HZ2.out.block, HZ2.out.far⟩
  clear hg3 hb3 HE2 HZ2 HC HE
  go_upto_region 3 with fail
  go_wp2_with (first | refine we_load rfl _ rfl g rfl ⟨x1, x2, x3, v⟩ HE3.out ?_ | refine wo_build3 rfl _ _ _ rfl true A n c ⟨x1, x2, x3, v⟩ rfl rfl rfl ?_ | refine wo_store rfl _ _ rfl (w.heap.size + 1) zO ⟨true, A, n, c, ⟨x1, x2, x3, v⟩, 0⟩ rfl rfl HZ3.out.block ?_)
  exact oc_ret Tryd.results45 rfl rfl (HZ3.out.store _).block ⟨rfl, (HZ3.out.store _).below⟩

/-- What stands in an answer of frames and a yes or no. -/
def QI (w : World) (x : Option (List Fr)) (A : Option Addr) (n c : Nat) (b : Bool) : Prop := match x with
  | none => b = false
  | some y => b = true ∧ n = y.length ∧ In w A c y
theorem QI.next {w w' : World} {x : Option (List Fr)} {A : Option Addr} {n c : Nat} {b : Bool} (h : QI w x A n c b) (hb : Below w.heap.size w w') : QI w' x A n c b := by
  cases x with
  | none => exact h
  | some y => exact ⟨h.1, h.2.1, h.2.2.next hb⟩
theorem QI.store {w : World} {x : Option (List Fr)} {A : Option Addr} {n c : Nat} {b : Bool} (h : QI w x A n c b) {g : Nat} {q0 : Oc} (hg : w.heap[g]? = some (ocB q0)) (rs : Array Value) : QI (w.setRow g rs) x A n c b := by
  cases x with
  | none => exact h
  | some y => exact ⟨h.1, h.2.1, in_row h.2.2 hg (by rw [ocC_size]; omega) rs⟩
theorem out_of {w W : World} {x : Option (List Fr)} {A : Option Addr} {n c : Nat} {b : Bool} (h : QI W x A n c b) (hb : Below w.heap.size w W) : OutPost (quietO x) w (.returned (ocV ⟨b, A, n, c, noE, 0⟩)) W := by
  cases x with
  | none =>
    obtain rfl : b = false := h
    exact ⟨hb, _, rfl, rfl, rfl⟩
  | some y =>
    obtain ⟨rfl, rfl, hI⟩ := h
    exact ⟨hb, A, c, rfl, hI⟩
/-- The end of a function that hands on an outcome without an effect. -/
theorem oc_done {f : Func} {s : Nat} (hr : f.results = #[.cell s 60]) {w W : World} {act : Act} {g : Nat} {q0 : Oc} {x : Option (List Fr)} {A : Option Addr} {n c : Nat} {b : Bool} (h : act.tmps[s]?.getD undef = .pointer (some ⟨g, 0, none⟩)) (hd : act.defers = [])
    (hZ : Zo w g q0 W) (hq : QI W x A n c b) : bodyPost Tryd.prog f (OutPost (quietO x) w) .ret act (W.setRow g (ocC ⟨b, A, n, c, noE, 0⟩).toArray) :=
  oc_ret hr h hd (hZ.store _).block (out_of (hq.store hZ.block _) (hZ.store _).below)
theorem push_q (A : Option Addr) (c : Nat) (l : List Fr) (v : Int) (w : World) (hI : In w A c l) :
    Calls Tryd.prog 65 #[.slice A l.length c, .int .i64 v] w fun e w' => ∃ A' n' c' b, e = .returned (.tuple #[.slice A' n' c', .bool b]) ∧ Below w.heap.size w w' ∧ Hid (QI w' (pushO l v) A' n' c' b) := by
  refine (push_odd A c l v w hI).mono fun e w' h => ?_
  obtain ⟨hb, h⟩ := h
  cases hp : pushO l v with
  | none =>
    rw [hp] at h
    exact ⟨none, 0, 0, false, h, hb, Lib.hid rfl⟩
  | some y =>
    rw [hp] at h
    obtain ⟨A', c', h1, h2⟩ := h
    exact ⟨A', y.length, c', true, h1, hb, Lib.hid ⟨rfl, rfl, h2⟩⟩
theorem call_q (A : Option Addr) (c : Nat) (l : List Fr) (fn n : Int) (w : World) (hI : In w A c l) :
    Calls Tryd.prog 59 #[.slice A l.length c, .int .i64 fn, .int .i64 n] w fun e w' => ∃ A' n' c' b, e = .returned (.tuple #[.slice A' n' c', .bool b]) ∧ Below w.heap.size w w' ∧ Hid (QI w' (callO l fn n) A' n' c' b) := by
  refine (call_odd A c l fn n w hI).mono fun e w' h => ?_
  obtain ⟨hb, h⟩ := h
  cases hp : callO l fn n with
  | none =>
    rw [hp] at h
    exact ⟨none, 0, 0, false, h, hb, Lib.hid rfl⟩
  | some y =>
    rw [hp] at h
    obtain ⟨A', c', h1, h2⟩ := h
    exact ⟨A', y.length, c', true, h1, hb, Lib.hid ⟨rfl, rfl, h2⟩⟩
end Go.Proofs.YtjbcmedljgafkaaDoor.pgm.exe

/-
  The document's own answer of a product's highest bits. No condition.
-/

namespace Go.Proofs.YtjbcmedljgafkaaDoor.word
open Go.RowKit Go.ChangeShapes

end Go.Proofs.YtjbcmedljgafkaaDoor.word

/-
  What the program's calls on words must come to, as one bundle, so that the statements can be walked whatever the program's own text is; and the common end of all of them. No condition but that bundle.
-/

namespace Go.Proofs.YtjbcmedljgafkaaDoor.word
open Go.RowKit Go.ChangeShapes

/-- An int. -/
def I64 (n : Int) : Prop := -9223372036854775808 ≤ n ∧ n ≤ 9223372036854775807
theorem Word.i64 {n : Int} (h : Word n) : I64 n := by unfold Word at h; unfold I64; omega
theorem turned : low 2147483648 = -2147483648 := by decide +kernel

end Go.Proofs.YtjbcmedljgafkaaDoor.word

/-
  What is moved up and down again is as it was, where no bit went; and moving down by one is half, rounded down: walked over the bundle of what the program's calls come to.
-/

namespace Go.Proofs.YtjbcmedljgafkaaDoor.word
open Go.RowKit Go.ChangeShapes

theorem pow_pos' (m : Nat) : (0 : Int) < 2 ^ m := Int.pow_pos (by omega)
theorem by_bound {m : Nat} (h : m < 32) : (2 : Int) ^ m ≤ 2147483648 := by
  have h1 : 2 ^ m ≤ 2 ^ 31 := Nat.pow_le_pow_right (by omega) (by omega)
  have h2 : ((2 ^ m : Nat) : Int) ≤ ((2 ^ 31 : Nat) : Int) := Int.ofNat_le.2 h1
  rw [Int.natCast_pow] at h2
  exact h2
theorem moved_bound {x : Int} (hx : Word x) {p : Int} (h0 : 0 ≤ p) (hp : p ≤ 2147483648) : -4611686018427387904 ≤ x * p ∧ x * p ≤ 4611686018427387904 := by
  have hm : (x * p).natAbs ≤ 2147483648 * 2147483648 := by
    rw [Int.natAbs_mul]
    unfold Word at hx
    exact Nat.mul_le_mul (by omega) (by omega)
  omega
end Go.Proofs.YtjbcmedljgafkaaDoor.word
