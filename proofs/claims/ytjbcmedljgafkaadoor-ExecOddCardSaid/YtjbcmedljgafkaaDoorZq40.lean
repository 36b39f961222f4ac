/-
  Texts of one claim in one file: FPush, Within, FMove, FPop, FEq, FSame, FKeep. Each has its own sentence, with its conditions.
-/
import Derived.Test.YtjbcmedljgafkaaDoorZq39
import Derived.Test.YtjbcmedljgafkaaDoorProg
import Derived.WalkKit
import Derived.ProofKit
import Derived.IntWalk
import Derived.Outline
import Derived.Test.YtjbcmedljgafkaaDoorZq16
import Derived.ChangeKeysEq
import Derived.Test.YtjbcmedljgafkaaDoorZq12
/-
  The program's own first frame, the top value, and a value that is laid. At most a thousand frames, each of twenty-seven numbers.
-/

namespace Go.Proofs.YtjbcmedljgafkaaDoor.frames
open Go.RowKit Go.ChangeShapes
open Go.Proofs.YtjbcmedljgafkaaDoor.nums (NAt)
open Go.Proofs.YtjbcmedljgafkaaDoor.word (low low_any)
set_option linter.unusedVariables false
set_option linter.unusedSimpArgs false

set_option maxRecDepth 100000 in
set_option maxHeartbeats 4000000 in
theorem new_any (fn : Int) (B : Option Addr) (c : Nat) (args : List Int) (hl : args.length ≤ 1000) (w : World) (hB : NAt w B args) :
    Calls Tryd.prog 77 #[.int .i64 fn, .slice B args.length c] w fun e w' => ∃ A' c', e = .returned (.slice A' 1 c') ∧ FsAt w' A' [newF fn args] ∧ Below w.heap.size w w' ∧ 1 ≤ c' ∧ A' ≠ none := by
  have HB := Lib.hid hB
  obtain ⟨N, hN⟩ : ∃ N, N = min args.length 8 := ⟨_, rfl⟩
  have hmn : min (args.length : Int) 8 = (N : Int) := by omega
  have HN : Hid (newF fn args = argsF args (zeroF.set 0 fn) N) := Lib.hid (by rw [hN]; rfl)
  have hN8 : N ≤ 8 := by omega
  have hNa : N ≤ args.length := by omega
  have hb0 : Below w.heap.size w (w.alloc (frB (zeroF.set 0 fn))) := (Below.refl _ w).alloc (Nat.le_refl _) _
  have hx0 := heap_alloc_new w (frB (zeroF.set 0 fn))
  have H0 := Lib.hid (And.intro hx0 hb0)
  have HN8 := Lib.hid hN8
  have HNa := Lib.hid hNa
  clear hB hb0 hx0 hN hN8 hNa
  go_enter Tryd.func77, Tryd.ntmps77
  go_upto_region 2 with (first | refine wl_build rfl _ rfl fn rfl ?_ | refine wl_alloc rfl rfl ?_ | refine wl_store rfl _ _ rfl w zeroF _ rfl rfl rfl ?_)
  generalize w.alloc (frB (zeroF.set 0 fn)) = W1 at *
  go_wp2_with fail
  go_loopw [12] (fun i wr => ∃ k : Nat, k ≤ N ∧ i = .int .i64 (k : Int) ∧ Hid (wr.heap[w.heap.size]? = some (frB (argsF args (zeroF.set 0 fn) k)) ∧ Below w.heap.size w wr)) (fun i _ => 8 - (intOf i).toNat)
  case atStart => exact ⟨0, Nat.zero_le _, rfl, H0⟩
  case round =>
    clear H0
    obtain ⟨k, hk, rfl, HH⟩ := hrel
    have hN8 := HN8.out
    have hNa := HNa.out
    by_cases h1 : k < N
    · have q1 : decide ((k : Int) < (N : Int)) = true := decide_eq_true (by omega)
      obtain ⟨b, off, rfl, hb, c0'⟩ := HB.out k (by omega)
      have c0 := (HH.out.2.cell (p := ⟨b, off + k, none⟩) hb).trans c0'
      have HLo := fun W => Lib.hid (low_any (args.getD k 0) W)
      have hx := cell_block HH.out.1 (k := 3 + k) (by omega)
      have hf := free_block HH.out.1 (3 + k)
      have HK : Hid (argsF args (zeroF.set 0 fn) (k + 1) = (argsF args (zeroF.set 0 fn) k).set (3 + k) (low (args.getD k 0))) := Lib.hid rfl
      have HS := Lib.hid (set_block HH.out.1 (by rw [(args_keep args (zeroF.set 0 fn) k).1, List.length_set]; rfl) (k := 3 + k) (by omega) (low (args.getD k 0)))
      have HB2 : Hid (∀ v : Value, Below w.heap.size w (wr.setCell ⟨w.heap.size, 3 + k, none⟩ v)) := Lib.hid fun v => HH.out.2.setCell (p := ⟨w.heap.size, 3 + k, none⟩) (Nat.le_refl _) v
      generalize args.getD k 0 = x at *
      have k0 : (0 : Int) ≤ (k : Int) := by omega
      have k1 : (k : Int) < (args.length : Int) := by omega
      have k2 : (k : Int) < 8 := by omega
      clear HH c0' hk
      go_wp2_with fail
      refine (HLo _).out.mono ?_
      rintro _ _ ⟨rfl, rfl⟩
      go_wp2_with fail
      go_roundw
      case rel => exact ⟨k + 1, by omega, by go_num, Lib.hid ⟨by rw [HK.out]; exact HS.out, HB2.out _⟩⟩
      case measure => simp [intOf]; omega
    · obtain rfl : k = N := by omega
      have q1 : decide ((k : Int) < (k : Int)) = false := decide_eq_false (by omega)
      have HF : Hid (FCells wr w.heap.size 0 (newF fn args)) := Lib.hid (FCells.of_block (by rw [HN.out]; exact HH.out.1))
      go_wp2_with (first | refine wl_load rfl _ rfl w.heap.size 0 rfl (newF fn args) HF.out ?_ | refine wl_row rfl _ rfl (newF fn args) rfl ?_)
      go_ret
      exact ⟨_, _, rfl, FsAt.one (heap_alloc_new wr _), HH.out.2.alloc HH.out.2.size _, Nat.le_refl 1, fun e => by cases e⟩

/-- The last frame in a block of the call's own, and what is known of the old. -/
structure Lf (w W : World) (g : Nat) (f : Fr) : Prop where
  block : W.heap[g]? = some (frB f)
  far : w.heap.size ≤ g
  below : Below w.heap.size w W
theorem lf_new {w W : World} (h : Below w.heap.size w W) (f : Fr) : Lf w (W.alloc (frB f)) W.heap.size f := ⟨heap_alloc_new W _, h.size, h.alloc h.size _⟩
theorem Lf.set {w W : World} {g : Nat} {f : Fr} (h : Lf w W g f) (hl : f.length = 27) {k : Nat} (hk : k < 27) (v : Int) : Lf w (W.setCell ⟨g, k, none⟩ (.int .i64 v)) g (f.set k v) := ⟨set_block h.block hl hk v, h.far, h.below.setCell (p := ⟨g, k, none⟩) h.far _⟩
theorem Lf.drew {w W : World} {g : Nat} {f : Fr} (h : Lf w W g f) : Lf w W.drew g f := ⟨h.block, h.far, h.below.drew⟩
theorem with_all {l : List Fr} {f : Fr} (h : ∀ f ∈ l, f.length = 27) (hf : f.length = 27) : ∀ g ∈ withF l f, g.length = 27 := fun g hg => by
  unfold withF at hg
  rcases List.mem_append.1 hg with hg | hg
  · exact h g (mem_take_any hg)
  · rw [List.mem_singleton.1 hg]; exact hf

end Go.Proofs.YtjbcmedljgafkaaDoor.frames

/-
  Whether a number lies in a span (code of 392f5a9). No condition.
-/

namespace Go.Proofs.YtjbcmedljgafkaaDoor.within
open Go.RowKit Go.ChangeShapes
set_option linter.unusedVariables false

theorem within_any (v lo hi : Int) (w : World) : Calls Tryd.prog 35 #[.int .i64 v, .int .i64 lo, .int .i64 hi] w fun e w' => e = .returned (.bool (decide (lo ≤ v ∧ v ≤ hi))) ∧ w = w' := by
  by_cases h1 : lo ≤ v
  · by_cases h2 : v ≤ hi
    · rw [decide_eq_true ⟨h1, h2⟩]
      go_enter Tryd.func35, Tryd.ntmps35
      go_wp2
      go_ret
      exact ⟨rfl, rfl⟩
    · rw [decide_eq_false (fun h => h2 h.2)]
      have hd : decide (v ≤ hi) = false := by simpa using h2
      go_enter Tryd.func35, Tryd.ntmps35
      go_wp2
      go_ret
      exact ⟨rfl, rfl⟩
  · rw [decide_eq_false (fun h => h1 h.1)]
    have hd : decide (lo ≤ v) = false := by simpa using h1
    go_enter Tryd.func35, Tryd.ntmps35
    go_wp2
    go_ret
    exact ⟨rfl, rfl⟩
end Go.Proofs.YtjbcmedljgafkaaDoor.within

/-
  The program's own frames at another place, with another local, and with another top value. At most a thousand frames, each of twenty-seven numbers.
-/

namespace Go.Proofs.YtjbcmedljgafkaaDoor.frames
open Go.RowKit Go.ChangeShapes
open Go.Proofs.YtjbcmedljgafkaaDoor.word (low low_any)
open Go.Proofs.YtjbcmedljgafkaaDoor.within (within_any)
set_option linter.unusedVariables false
set_option linter.unusedSimpArgs false

theorem len0 {l : List Fr} (h : l.length = 0) : l = [] := List.eq_nil_of_length_eq_zero h
set_option maxRecDepth 100000 in
theorem isLocal_any (k : Int) (w : World) : Calls Tryd.prog 80 #[.int .i64 k] w fun e w' => e = .returned (.bool (decide (0 ≤ k ∧ k ≤ 7))) ∧ w = w' := by
  have HW := Lib.hid (within_any k 0 7 w)
  obtain ⟨b, hb⟩ : ∃ b, b = decide (0 ≤ k ∧ k ≤ 7) := ⟨_, rfl⟩
  rw [← hb] at HW ⊢
  clear hb
  go_enter Tryd.func80, Tryd.ntmps80
  go_wp2_with fail
  refine HW.out.mono ?_
  rintro _ _ ⟨rfl, rfl⟩
  go_wp2
  go_ret
  exact ⟨rfl, rfl⟩

/-- Frames are cloned where nothing is turned. -/
theorem clone_frs {A : Option Addr} {c : Nat} {l : List Fr} {w W : World} (hI : In w A c l) (h : Below w.heap.size w W) :
    Calls Tryd.prog 20 #[.slice A l.length c] W (fun e w' => ∃ A' c', e = .returned (.slice A' l.length c') ∧ Hid (In w' A' c' l ∧ Below w.heap.size w w')) :=
  (clone_any A c l W (hI.next h)).mono fun e w' ⟨A', c', h1, h2, h3⟩ => ⟨A', c', h1, Lib.hid ⟨h2.ins hI.len hI.all, h.trans (h3.mono h.size)⟩⟩
theorem changed_frs {A : Option Addr} {c : Nat} {l : List Fr} {f : Fr} {w W : World} (hI : In w A c l) (h0 : l.length ≠ 0) (hf : f.length = 27) (h : Below w.heap.size w W) :
    Calls Tryd.prog 63 #[.slice A l.length c, .agg (cellsF f).toArray] W (fun e w' => ∃ A' c', e = .returned (.slice A' (withF l f).length c') ∧ Hid (In w' A' c' (withF l f) ∧ Below w.heap.size w w')) :=
  (changed_any A c l f W (hI.next h) h0).mono fun e w' ⟨A', c', h1, h2, h3⟩ => ⟨A', c', h1, Lib.hid ⟨h2.ins (by rw [with_length h0]; exact hI.len) (with_all hI.all hf), h.trans (h3.mono h.size)⟩⟩

end Go.Proofs.YtjbcmedljgafkaaDoor.frames

/-
  The program's own frames without the top values, and these. At most a thousand frames, each of twenty-seven numbers.
-/

namespace Go.Proofs.YtjbcmedljgafkaaDoor.frames
open Go.RowKit Go.ChangeShapes
open Go.Proofs.YtjbcmedljgafkaaDoor.nums (NAt OwnI wpList_appI)
open Go.Proofs.YtjbcmedljgafkaaDoor.within (within_any)
set_option linter.unusedVariables false
set_option linter.unusedSimpArgs false

theorem eqlI (a : Option Addr) (n c : Nat) (w : World) : (binOp .eql 27 (.slice a n c) (.slice none 0 0)).run Tryd.prog w = .ok (.bool a.isNone) w := Lib.run_eql_slice_nil w 27 _ a n c 0 0 Tryd.underlying27
set_option maxRecDepth 100000 in
set_option maxHeartbeats 4000000 in
theorem cloneI_any (ad : Addr) (c n : Nat) (l : List Int) (hn : n = l.length) (w : World) (hA : NAt w (some ad) l) (hl : l.length ≤ 1000) :
    Calls Tryd.prog 62 #[.slice (some ad) n c] w fun e w' => ∃ A' c', e = .returned (.slice A' n c') ∧ OwnI w' w.heap.size (.slice A' n c') l ∧ Below w.heap.size w w' := by
  subst hn
  have hq := eqlI (some ad) l.length c
  have HA := Lib.hid hA
  have HL := Lib.hid hl
  have HE := Lib.hid (heap_alloc_new w (.cells #[] 3))
  have HB := Lib.hid ((Below.refl w.heap.size w).alloc (Nat.le_refl _) (.cells #[] 3))
  clear hA hl
  go_enter Tryd.func62, Tryd.ntmps62
  go_wp2_with (at_builtin; refine wpList_appI (by rfl) (.tmp 5) (.tmp 6) (by rfl) w.heap.size l.length c (.slice (some ⟨w.heap.size, 0, none⟩) 0 0) (some ad) [] l (by rfl) (OwnI.empty HE.out) (by rfl) rfl (fun h => by cases h) (HA.out.next HB.out) (by have := HL.out; simp; omega) (by simp) ?_)
  intro v' w' h1 h2
  have HB2 := Lib.hid (HB.out.grown h2 (by simp) (fun k e => by simp [Value.ownBlock] at e; omega))
  try rw [List.nil_append] at h1
  have HR := Lib.hid h1
  obtain ⟨A', c', rfl⟩ := h1.slice
  clear h1 h2
  go_wp2
  go_ret
  exact ⟨A', c', rfl, HR.out, HB2.out⟩

theorem setCells_append (b : Nat) : ∀ (x y : List Value) (o : Nat) (w : World), w.setCells b o (x ++ y) = (w.setCells b o x).setCells b (o + x.length) y := by
  intro x
  induction x with
  | nil => intro y o w; rfl
  | cons v x ih =>
    intro y o w
    show (w.setCell ⟨b, o, none⟩ v).setCells b (o + 1) (x ++ y) = _
    rw [ih, List.length_cons, show o + (x.length + 1) = o + 1 + x.length by omega]
    rfl
theorem Lf.clear {w W : World} {g : Nat} {f : Fr} (h : Lf w W g f) (hl : f.length = 27) {p : Nat} : ∀ n, p + n ≤ 16 → Lf w (W.setCells g (11 + p) (List.replicate n (.int .i64 0))) g (clearF f p n) := by
  intro n
  induction n with
  | zero => intro _; exact h
  | succ n ih =>
    intro hp
    have h1 := ih (by omega)
    rw [List.replicate_succ', setCells_append, List.length_replicate]
    have h2 := h1.set (by rw [(clear_keep f p n).1]; exact hl) (k := 11 + p + n) (by omega) 0
    have e : clearF f p (n + 1) = (clearF f p n).set (11 + p + n) 0 := by
      show (clearF f p n).set (11 + (p + n)) 0 = _
      rw [Nat.add_assoc]
    rw [e]
    exact h2
/-- Places of a frame are cleared; of none of them nothing is asked. -/
theorem clear_run {w W : World} {g : Nat} {f : Fr} (h : Lf w W g f) {p n : Nat} (hp : p + n ≤ 16) (ty : TypeId) (A : Addr) (hA : 0 < n → A = ⟨g, 11 + p, none⟩) (c : Nat) :
    (Builtin.clear_ #[27] ty #[.slice (some A) n c]).run Tryd.prog W = .ok (.tuple #[]) (W.setCells g (11 + p) (List.replicate n (.int .i64 0))) := by
  cases n with
  | zero => simp [Builtin.clear_, run_underlying Tryd.underlying27, World.setCells, Sem.run_bind, Sem.run_pure]
  | succ n =>
    obtain rfl := hA (Nat.succ_pos n)
    have hz : ∀ w, (zeroValue 3).run Tryd.prog w = .ok (.int .i64 0) w := (zero_of_info (P := Tryd.prog) (t := 3) (v := .int .i64 0) (n := 1) (by kernel_rfl)).1
    exact Lib.run_clear_slice W 27 3 ty (.int .i64 0) Tryd.underlying27 hz rfl rfl g (11 + p) (n + 1) c (Nat.succ_pos n) (fun j hj => by rw [cell_block h.block (by omega)]; rfl) (fun j hj => free_block h.block _)
section
variable {ops : Array Oper} {rest : List Oper} {o : Oper} {a : Act} {w : World} {Q : Exit → Act → World → Prop}
theorem wl_clear (hgd : o.guard = none) (x : Operand) (ho : o.op = .call { callee := .builtin .clear, args := #[x], argTypes := #[27] }) (v : Value) (W' : World) (hx : a.eval x = v)
    (hr : ∀ ty, (Builtin.clear_ #[27] ty #[v]).run Tryd.prog w = .ok (.tuple #[]) W')
    (h : wpList Tryd.prog ops Q rest (a.put o.dst (.tuple #[])) W') : wpList Tryd.prog ops Q (o :: rest) a w :=
  wpList_plain hgd fun K hK => by
    unfold Oper.wp execOp
    simp only [ho, resolve, invoke, builtin, Sem.run_bind, Sem.run_pure, Result.andThen_ok, List.map_toArray, List.map_cons, List.map_nil, hx, hr]
    exact hK _ _ h
end
set_option maxRecDepth 100000 in
/-- The top values of a frame, as a slice of its places: the place is told only where there are some. -/
theorem slice_top (g p q : Nat) (h : p ≤ q) (h16 : q ≤ 16) : ∃ A : Addr, (0 < q - p → A = ⟨g, 11 + p, none⟩) ∧ ∀ W : World, (Instr.sliceAt 43 (.pointer (some ⟨g, 11, none⟩)) (some (.int .i64 (p : Int))) (some (.int .i64 (q : Int))) none).run Tryd.prog W = .ok (.slice (some A) (q - p) (16 - p)) W := by
  have hal : Tryd.prog.arrayLen 43 = 16 := by kernel_rfl
  have hw : ∀ W, (Instr.sliceAt 43 (.pointer (some ⟨g, 11, none⟩)) (some (.int .i64 (p : Int))) (some (.int .i64 (q : Int))) none).run Tryd.prog W = .ok (slicedAt ⟨g, 11, none⟩ p q 16 1) W := fun W => by
    rw [run_sliceAt_array_lh W 43 ⟨g, 11, none⟩ (by kernel_rfl) .i64 .i64 (p : Int) (q : Int) (by omega) (by omega) (by rw [hal]; omega), hal]
    rfl
  refine ⟨if 16 = p then ⟨g, 11, none⟩ else (⟨g, 11, none⟩ : Addr).add (p * 1), fun h => ?_, fun W => ?_⟩
  · rw [if_neg (by omega)]
    rw [Addr.add_lit, Nat.mul_one]
  · rw [hw W]
    rfl
theorem top_nums {W : World} {g : Nat} {f : Fr} (h : W.heap[g]? = some (frB f)) {p n : Nat} (hp : p + n ≤ 16) {A : Addr} (hA : 0 < n → A = ⟨g, 11 + p, none⟩) : NAt W (some A) (valsF f p n) := fun j hj => by
  have hj' : j < n := by unfold valsF at hj; simpa using hj
  obtain rfl := hA (by omega)
  refine ⟨g, 11 + p, rfl, lt_of_block h, (cell_block h (by omega)).trans ?_⟩
  unfold valsF
  rw [List.getD_eq_getElem?_getD, List.getElem?_map, List.getElem?_range hj']
  simp [Nat.add_assoc]
theorem heap_cells (g : Nat) : ∀ (vs : List Value) (o : Nat) (w : World) (i : Nat), i ≠ g → (w.setCells g o vs).heap[i]? = w.heap[i]? := by
  intro vs
  induction vs with
  | nil => intro o w i h; rfl
  | cons v vs ih => intro o w i h; exact (ih _ _ i h).trans (Below.heap_setCell _ _ _ _ h)
theorem owni_cells {w : World} {base : Nat} {v : Value} {l : List Int} (h : OwnI w base v l) {g : Nat} (hg : g < base) (o : Nat) (vs : List Value) : OwnI (w.setCells g o vs) base v l :=
  h.keep fun k hk => heap_cells g vs o w k (by have := (h.lt hk).1; omega)

end Go.Proofs.YtjbcmedljgafkaaDoor.frames

/-
  A frame is the same as itself, number by number, as the model holds it against itself. No condition.
-/

namespace Go.Proofs.YtjbcmedljgafkaaDoor.frames
open Go.RowKit Go.ChangeShapes
set_option linter.unusedVariables false
set_option linter.unusedSimpArgs false

section
variable {w : World}
end
end Go.Proofs.YtjbcmedljgafkaaDoor.frames

/-
  The program's own answer whether two lists of frames are one: of two that are. At most a thousand frames.
-/

namespace Go.Proofs.YtjbcmedljgafkaaDoor.frames
open Go.RowKit Go.ChangeShapes
set_option linter.unusedVariables false
set_option linter.unusedSimpArgs false

end Go.Proofs.YtjbcmedljgafkaaDoor.frames

/-
  The program's own frames with a call, behind a return; all of the program's calls are what the statement asks of them. At most eight frames, each of twenty-seven numbers.
-/

namespace Go.Proofs.YtjbcmedljgafkaaDoor.frames
open Go.RowKit Go.ChangeShapes
open Go.Proofs.YtjbcmedljgafkaaDoor.nums (NAt)
set_option linter.unusedVariables false
set_option linter.unusedSimpArgs false

theorem ret_none {l : List Fr} (hn : l.length = 0 ∨ cnt (topF l) = 0) : retF l = none := by
  have hp : popF l 1 = none := by
    unfold popF
    rw [if_pos (by omega)]
  unfold retF
  rw [hp]
theorem ret_some {l : List Fr} (hg : Good l) (h0 : l.length ≠ 0) {n : Nat} (hn : cnt (topF l) = (n : Int) + 1) : retF l = if l.length = 1 then some ([], num (topF l) (11 + n)) else (pushF (l.take (l.length - 1)) (num (topF l) (11 + n))).map fun x => (x, num (topF l) (11 + n)) := by
  obtain ⟨g1, g2, g3⟩ := hg.2 _ (top_mem h0)
  have hp : popF l 1 = some (withF l (popped (topF l) 1), [num (topF l) (11 + n)]) := by
    unfold popF
    rw [if_neg (by rintro (e | e | e | e) <;> omega)]
    unfold valsF
    rw [show (cnt (topF l) - 1).toNat = n by omega]
    rfl
  unfold retF
  rw [hp]
  dsimp only
  rw [show [num (topF l) (11 + n)].getD 0 0 = num (topF l) (11 + n) from rfl]
  split
  · rfl
  · cases pushF (l.take (l.length - 1)) (num (topF l) (11 + n)) <;> rfl

end Go.Proofs.YtjbcmedljgafkaaDoor.frames
