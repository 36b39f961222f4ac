/-
  Texts of one claim in one file: ZBegun, ZEq, ZSpec. Each has its own sentence, with its conditions.
-/
import Derived.Test.YtjbcmedljgafkaaDoorZq26
import Derived.Test.YtjbcmedljgafkaaDoorZq34
import Derived.Test.YtjbcmedljgafkaaDoorZq17
import Derived.ChangeKeysEq
/-
  Whether any program may run, and the frames of which the statements speak, as their own package makes them. No condition but that the program came in.
-/

namespace Go.Proofs.YtjbcmedljgafkaaDoor.pgm.exe
open Go.RowKit Go.ChangeShapes
open Go.Proofs.YtjbcmedljgafkaaDoor.pgm
open Go.Proofs.YtjbcmedljgafkaaDoor.objs (De zero cells3)
open Go.Proofs.YtjbcmedljgafkaaDoor.frames (Fr num cnt topF In newF FsAt)
open Go.Proofs.YtjbcmedljgafkaaDoor.nums (NAt)
open Go.Proofs.YtjbcmedljgafkaaDoor.pgm.ver (progV refProg12_any)
set_option linter.unusedVariables false
set_option linter.unusedSimpArgs false

set_option maxRecDepth 100000 in
set_option maxHeartbeats 4000000 in
/-- What is wrong with a program of any length. -/
theorem refProgram_any (v : Value) (p : Pg) (w : World) (hg : PG w v p) : Calls Tryd.prog 36 #[v] w fun e w' =>
    e = .returned (.tuple #[.int .i64 ((progV p).1 : Int), .int .i64 ((progV p).2.1 : Int), .int .i64 ((progV p).2.2 : Int)]) ∧ Below w.heap.size w w' := by
  by_cases hz : chkP p = 0
  · exact refProg12_any v p w (hg.whole hz) hg
  have HRc := fun v W h => Lib.hid (refCheck10_any v p W h)
  unfold NumPost at HRc
  have HG := Lib.hid hg
  obtain ⟨A, B, C, na, nb, nc, ca, cb, cc, hve, -⟩ := id hg
  subst hve
  obtain ⟨r, hr⟩ : ∃ r, r = progV p := ⟨_, rfl⟩
  rw [← hr]
  unfold progV at hr
  rw [if_pos hz] at hr
  subst hr
  have q0 : ((chkP p : Int) != 0) = true := by simpa using hz
  have HB0 := Lib.hid ((Below.refl w.heap.size w).alloc (Nat.le_refl _) (.cells #[.slice A na ca, .slice B nb cb, .slice C nc cc] 26))
  have HX0 := Lib.hid (heap_alloc_new w (.cells #[.slice A na ca, .slice B nb cb, .slice C nc cc] 26))
  generalize chkP p = cp at *
  clear hz hg
  go_enter Tryd.func36, Tryd.ntmps36
  go_upto_region 1 with fail
  generalize w.alloc (.cells #[.slice A na ca, .slice B nb cb, .slice C nc cc] 26) = W0 at *
  obtain ⟨x0, x1, x2, -, -, -⟩ := cells3 HX0.out
  go_wp2_with fail
  refine (HRc _ _ (HG.out.next HB0.out).head).out.mono ?_
  rintro _ w1 ⟨rfl, hb1⟩
  have H1 := Lib.hid (HB0.out.trans (hb1.mono HB0.out.size))
  clear hb1
  go_wp2
  go_ret3
  exact ⟨rfl, H1.out⟩

set_option maxRecDepth 100000 in
set_option maxHeartbeats 4000000 in
theorem refGood12_any (v : Value) (p : Pg) (w : World) (hg : PG w v p) : Calls Tryd.prog 16 #[v] w fun e w' => e = .returned (.bool (decide ((progV p).2.2 = 0))) ∧ Below w.heap.size w w' := by
  have HP := fun v W h => Lib.hid (refProgram_any v p W h)
  have HG := Lib.hid hg
  obtain ⟨A, B, C, na, nb, nc, ca, cb, cc, hve, -⟩ := id hg
  subst hve
  have hd : (((progV p).2.2 : Int) == 0) = decide ((progV p).2.2 = 0) := by
    by_cases h : (progV p).2.2 = 0
    · rw [h]; rfl
    · rw [decide_eq_false h]; simp; omega
  generalize (progV p).2.2 = e at *
  generalize hB : decide (e = 0) = b at *
  have HB0 := Lib.hid ((Below.refl w.heap.size w).alloc (Nat.le_refl _) (.cells #[.slice A na ca, .slice B nb cb, .slice C nc cc] 26))
  have HX0 := Lib.hid (heap_alloc_new w (.cells #[.slice A na ca, .slice B nb cb, .slice C nc cc] 26))
  clear hg hB
  go_enter Tryd.func16, Tryd.ntmps16
  go_upto_region 1 with fail
  generalize w.alloc (.cells #[.slice A na ca, .slice B nb cb, .slice C nc cc] 26) = W0 at *
  obtain ⟨x0, x1, x2, -, -, -⟩ := cells3 HX0.out
  go_wp2_with fail
  refine (HP _ _ (HG.out.next HB0.out)).out.mono ?_
  rintro _ w1 ⟨rfl, hb1⟩
  have H1 := Lib.hid (HB0.out.trans (hb1.mono HB0.out.size))
  clear hb1 x0 x1 x2
  go_wp2
  go_ret
  exact ⟨rfl, H1.out⟩

/-- Where one begins. -/
structure St where
  fn : Int
  args : List Int
  steps : Int
  self : Int
  now : Int
def stV (s : St) (B : Option Addr) (n c : Nat) : Value := .agg #[.int .i64 s.fn, .slice B n c, .int .i64 s.steps, .int .i64 s.self, .int .i64 s.now]
theorem st_cells {W : World} {b : Nat} {T : TypeId} {x0 x1 x2 x3 x4 : Value} (h : W.heap[b]? = some (.cells #[x0, x1, x2, x3, x4] T (0, 0))) :
    W.cell? ⟨b, 0, none⟩ = some x0 ∧ W.cell? ⟨b, 1, none⟩ = some x1 ∧ W.cell? ⟨b, 2, none⟩ = some x2 ∧ W.cell? ⟨b, 3, none⟩ = some x3 ∧ W.cell? ⟨b, 4, none⟩ = some x4 := by
  simp [World.cell?, h]
/-- Frames that come of a program that may run; none: there are none. -/
def begunZ (p : Pg) (s : St) : Option (List Fr) :=
  if (progV p).2.2 ≠ 0 ∨ s.fn < 0 ∨ (p.fs.length : Int) ≤ s.fn ∨ 100 < s.args.length then none
  else some (runZ p.fs (min s.steps 300).toNat [newF s.fn s.args])
theorem begun_fit {p : Pg} {s : St} {l : List Fr} (h : begunZ p s = some l) : (progV p).2.2 = 0 ∧ May p.fs ∧ FitL p.fs 0 l := by
  unfold begunZ at h
  split at h
  · cases h
  · rename_i hn
    obtain rfl := Option.some.inj h
    have h0 : (progV p).2.2 = 0 := Decidable.of_not_not fun e => hn (.inl e)
    have hm := may_of h0
    have h1 : ¬ s.fn < 0 := fun e => hn (.inr (.inl e))
    have h2 : ¬ (p.fs.length : Int) ≤ s.fn := fun e => hn (.inr (.inr (.inl e)))
    have hi : s.fn.toNat < p.fs.length := by omega
    have hf := new_fit hm hi s.args
    rw [Int.toNat_of_nonneg (by omega)] at hf
    exact ⟨h0, hm, run_fit hm _ _ hf⟩

set_option maxRecDepth 100000 in
set_option maxHeartbeats 8000000 in
theorem begun_any (v : Value) (p : Pg) (s : St) (B : Option Addr) (cb' : Nat) (w : World) (hg : PG w v p) (hB : NAt w B s.args) :
    Calls Tryd.prog 7 #[v, stV s B s.args.length cb'] w fun e w' => Below w.heap.size w w' ∧ match begunZ p s with
      | none => e = .returned (.tuple #[.slice none 0 0, .bool false])
      | some l => ∃ A c, e = .returned (.tuple #[.slice A l.length c, .bool true]) ∧ In w' A c l := by
  obtain ⟨r, hr⟩ : ∃ r, r = begunZ p s := ⟨_, rfl⟩
  rw [← hr]
  unfold begunZ at hr
  have HGd := fun v W h => Lib.hid (refGood12_any v p W h)
  have HG := Lib.hid hg
  have HN := Lib.hid hB
  obtain ⟨A0, B0, C0, na, nb, nc, ca, cb, cc, hve, -⟩ := id hg
  subst hve
  have hBA : Below w.heap.size w ((w.alloc (.cells #[.slice A0 na ca, .slice B0 nb cb, .slice C0 nc cc] 26)).alloc (.cells #[.int .i64 s.fn, .slice B s.args.length cb', .int .i64 s.steps, .int .i64 s.self, .int .i64 s.now] 29)) := ((Below.refl _ w).alloc (Nat.le_refl _) _).alloc (by rw [World.size_alloc]; omega) _
  have hXA : ((w.alloc (.cells #[.slice A0 na ca, .slice B0 nb cb, .slice C0 nc cc] 26)).alloc (.cells #[.int .i64 s.fn, .slice B s.args.length cb', .int .i64 s.steps, .int .i64 s.self, .int .i64 s.now] 29)).heap[w.heap.size]? = some (.cells #[.slice A0 na ca, .slice B0 nb cb, .slice C0 nc cc] 26 (0, 0)) := (Below.heap_alloc _ _ _ (by rw [World.size_alloc]; omega)).trans (heap_alloc_new w _)
  have hYA : ((w.alloc (.cells #[.slice A0 na ca, .slice B0 nb cb, .slice C0 nc cc] 26)).alloc (.cells #[.int .i64 s.fn, .slice B s.args.length cb', .int .i64 s.steps, .int .i64 s.self, .int .i64 s.now] 29)).heap[w.heap.size + 1]? = some (.cells #[.int .i64 s.fn, .slice B s.args.length cb', .int .i64 s.steps, .int .i64 s.self, .int .i64 s.now] 29 (0, 0)) := by
    have h := heap_alloc_new (w.alloc (.cells #[.slice A0 na ca, .slice B0 nb cb, .slice C0 nc cc] 26)) (.cells #[.int .i64 s.fn, .slice B s.args.length cb', .int .i64 s.steps, .int .i64 s.self, .int .i64 s.now] 29)
    rwa [World.size_alloc] at h
  have H0 := Lib.hid (And.intro hBA (And.intro hXA hYA))
  unfold stV
  clear hBA hXA hYA hB
  go_enter Tryd.func7, Tryd.ntmps7
  go_upto_region 1 with fail
  try simp only [World.size_alloc]
  generalize (w.alloc (.cells #[.slice A0 na ca, .slice B0 nb cb, .slice C0 nc cc] 26)).alloc (.cells #[.int .i64 s.fn, .slice B s.args.length cb', .int .i64 s.steps, .int .i64 s.self, .int .i64 s.now] 29) = W0 at *
  obtain ⟨x0, x1, x2, -, -, -⟩ := cells3 H0.out.2.1
  go_wp2_with fail
  refine (HGd _ _ (HG.out.next H0.out.1)).out.mono ?_
  rintro _ w1 ⟨rfl, hb1⟩
  have H1 : Hid (Below w.heap.size w w1 ∧ w1.heap[w.heap.size]? = some (.cells #[.slice A0 na ca, .slice B0 nb cb, .slice C0 nc cc] 26 (0, 0)) ∧ w1.heap[w.heap.size + 1]? = some (.cells #[.int .i64 s.fn, .slice B s.args.length cb', .int .i64 s.steps, .int .i64 s.self, .int .i64 s.now] 29 (0, 0))) := Lib.hid ⟨H0.out.1.trans (hb1.mono H0.out.1.size), (hb1.block _ (lt_of_block H0.out.2.1)).trans H0.out.2.1, (hb1.block _ (lt_of_block H0.out.2.2)).trans H0.out.2.2⟩
  clear hb1 H0 HGd x0 x1 x2
  obtain ⟨x0, x1, x2, -, -, -⟩ := cells3 H1.out.2.1
  obtain ⟨y0, y1, y2, y3, y4⟩ := st_cells H1.out.2.2
  by_cases h0 : (progV p).2.2 = 0
  · have hp0 := (Go.Proofs.YtjbcmedljgafkaaDoor.pgm.ver.progV_zero h0).1
    have hv := hg.whole hp0
    obtain ⟨A', B', C', ca', cb'', cc', hve, -⟩ := id hv
    simp only [Value.agg.injEq, Array.mk.injEq, List.cons.injEq, Value.slice.injEq, and_true] at hve
    obtain ⟨-, -, -, hnc, -⟩ := hve
    rw [decide_eq_true h0]
    have hm := may_of h0
    subst hnc
    by_cases h1 : s.fn < 0
    · have q1 : decide (s.fn < 0) = true := decide_eq_true h1
      rw [if_pos (.inr (.inl h1))] at hr
      subst hr
      clear h0 hp0 hv hm hg h1
      go_wp2
      go_ret2
      exact ⟨H1.out.1, rfl⟩
    have q1 : decide (s.fn < 0) = false := decide_eq_false h1
    by_cases h2 : (p.fs.length : Int) ≤ s.fn
    · have q2 : decide (s.fn ≥ (p.fs.length : Int)) = true := decide_eq_true h2
      rw [if_pos (.inr (.inr (.inl h2)))] at hr
      subst hr
      clear h0 hp0 hv hm hg h1
      go_wp2
      go_ret2
      exact ⟨H1.out.1, rfl⟩
    have q2 : decide (s.fn ≥ (p.fs.length : Int)) = false := decide_eq_false h2
    by_cases h3 : 100 < s.args.length
    · have q3 : decide ((s.args.length : Int) > 100) = true := decide_eq_true (by omega)
      have q3' : decide (100 < s.args.length) = true := decide_eq_true h3
      rw [if_pos (.inr (.inr (.inr h3)))] at hr
      subst hr
      clear h0 hp0 hv hm hg h1 h2
      go_wp2
      go_ret2
      exact ⟨H1.out.1, rfl⟩
    have q3 : decide ((s.args.length : Int) > 100) = false := decide_eq_false (by omega)
    have q3' : decide (100 < s.args.length) = false := decide_eq_false h3
    rw [if_neg (by rintro (h | h | h | h); exact h h0; exact h1 h; exact h2 h; exact h3 h)] at hr
    obtain ⟨i, hi⟩ : ∃ i : Nat, s.fn = (i : Int) := ⟨s.fn.toNat, by omega⟩
    rw [hi] at hr
    have hi2 : i < p.fs.length := by omega
    obtain ⟨M, hM⟩ : ∃ M, M = min s.steps 300 := ⟨_, rfl⟩
    have hmn : min s.steps 300 = M := hM.symm
    have HRu := Lib.hid (refRun_any (.agg #[.slice A0 na ca, .slice B0 nb cb, .slice C0 p.fs.length cc]) p B cb' s.args i M.toNat M w1 (hv.next H1.out.1) hm hi2 (HN.out.next H1.out.1) (by omega) rfl (by omega))
    rw [hmn] at hr
    rw [← hi] at HRu
    rw [← hi] at hr
    have HR := Lib.hid hr
    generalize runZ p.fs M.toNat [newF s.fn s.args] = R at *
    subst hr
    have n0 : (0 : Int) ≤ s.fn := by omega
    clear h0 hp0 hv hm hg h1 h2 h3 hi hi2 hM HR
    go_wp2_with fail
    refine HRu.out.mono ?_
    rintro _ w2 ⟨A2, c2, n2, rfl, hI2, hb2⟩
    have H2 := Lib.hid (And.intro (H1.out.1.trans (hb2.mono H1.out.1.size)) hI2)
    clear hb2 hI2 x0 x1 x2 y0 y1 y2 y3 y4
    go_wp2
    go_ret2
    exact ⟨H2.out.1, A2, c2, rfl, H2.out.2⟩
  · rw [decide_eq_false h0]
    rw [if_pos (.inl h0)] at hr
    subst hr
    clear h0 hg
    go_wp2
    go_ret2
    exact ⟨H1.out.1, rfl⟩
end Go.Proofs.YtjbcmedljgafkaaDoor.pgm.exe

/-
  An effect is the same as itself, number by number, as the model holds it against itself. No condition.
-/

namespace Go.Proofs.YtjbcmedljgafkaaDoor.pgm.exe
open Go.RowKit Go.ChangeShapes
set_option linter.unusedVariables false
set_option linter.unusedSimpArgs false

/-- Numbers, cell by cell. -/
def intsC (l : List Int) : List Value := l.map (Value.int .i64)
theorem intsC_at {l : List Int} {k : Nat} (hk : k < l.length) : (intsC l).toArray[k]? = some (.int .i64 (l.getD k 0)) := by
  rw [List.getElem?_toArray]
  unfold intsC
  rw [List.getElem?_map, List.getElem?_eq_getElem hk, List.getD_eq_getElem?_getD, List.getElem?_eq_getElem hk]
  rfl
theorem intsC_size (l : List Int) : (intsC l).toArray.size = l.length := by rw [List.size_toArray]; unfold intsC; rw [List.length_map]
theorem part_num {l : List Int} {k : Nat} (hk : k < l.length) (w : World) : (part 3 (intsC l).toArray k).run Tryd.prog w = .ok (.int .i64 (l.getD k 0)) w :=
  run_part_plain (w := w) (P := Tryd.prog) (by kernel_rfl) (intsC_at hk)
theorem part_nums {t : TypeId} {n : Nat} {e : TypeId} (l : List Int) (k : Nat) (hu : Tryd.prog.underlying t = some (.array n e)) (hs : (Tryd.prog.info? t).map (·.size) = some n) (hc : Tryd.prog.cellsOf t = n) (w : World) : (part t (intsC l).toArray k).run Tryd.prog w = .ok (.agg ((intsC l).toArray.extract k (k + n))) w := by
  cases hq : Tryd.prog.info? t with
  | none => rw [hq] at hs; cases hs
  | some i =>
    rw [hq] at hs
    have : i.size = n := by simpa using hs
    simp [part, isAgg, run_underlying hu, run_sizeOf w hq, hc, Sem.run_bind, Sem.run_pure, Result.andThen]
theorem item_num {l : List Int} {k n i : Nat} (hi : i < n) (hk : k + n ≤ l.length) (w : World) : (part 3 ((intsC l).toArray.extract k (k + n)) i).run Tryd.prog w = .ok (.int .i64 (l.getD (k + i) 0)) w :=
  run_part_plain (w := w) (P := Tryd.prog) (by kernel_rfl) (by
    rw [Array.getElem?_extract, if_pos (by rw [intsC_size]; omega)]
    exact intsC_at (by omega))
theorem eqNum (d : Nat) (n : Int) (w : World) : (Op.equalIn (d + 1) 3 (.int .i64 n) (.int .i64 n)).run Tryd.prog w = .ok true w := by
  rw [run_equalIn_int w d 3 .i64 .i64 n n Tryd.underlying3, beq_self_eq_true]
theorem eqNums_self (d : Nat) {l : List Int} {k n : Nat} (hk : k + n ≤ l.length) (w : World) : ∀ is : List Nat, (∀ i ∈ is, i < n) →
    (Op.eqItems (d + 1) 3 1 ((intsC l).toArray.extract k (k + n)) ((intsC l).toArray.extract k (k + n)) is).run Tryd.prog w = .ok true w := by
  intro is
  induction is with
  | nil => intro _; rfl
  | cons i is ih =>
    intro h
    have h1 := item_num (h i (List.mem_cons_self ..)) hk w
    simp only [Op.eqItems, Sem.run_bind, Nat.mul_one, h1, eqNum, Result.andThen_ok, Bool.not_true, Bool.false_eq_true, if_false]
    exact ih fun j hj => h j (List.mem_cons_of_mem _ hj)
theorem eqNumRow (d : Nat) {t : TypeId} {n : Nat} {l : List Int} {k : Nat} (hu : Tryd.prog.underlying t = some (.array n 3)) (hk : k + n ≤ l.length) (w : World) : (Op.equalIn (d + 2) t (.agg ((intsC l).toArray.extract k (k + n))) (.agg ((intsC l).toArray.extract k (k + n)))).run Tryd.prog w = .ok true w := by
  obtain ⟨i, hi⟩ : ∃ i, Tryd.prog.info? 3 = some i := by
    cases h : Tryd.prog.info? 3 with
    | none => exact absurd h (by decide +kernel)
    | some i => exact ⟨i, rfl⟩
  have hc : Tryd.prog.cellsOf 3 = 1 := by kernel_rfl
  rw [run_equalIn_array w (d + 1) _ _ hu hi, hc]
  exact eqNums_self d hk w _ fun j hj => List.mem_range.1 hj
theorem eqEffect (e : Ef) (w : World) : (Op.equalIn 10000 36 (efV e) (efV e)).run Tryd.prog w = .ok true w := by
  obtain ⟨l, hl⟩ : ∃ l : List Int, l = [e.op, e.a, e.b, e.x.getD 0 0, e.x.getD 1 0, e.x.getD 2 0, e.x.getD 3 0, e.x.getD 4 0] := ⟨_, rfl⟩
  have h8 : l.length = 8 := by rw [hl]; rfl
  have hv : efV e = .agg (intsC l).toArray := by rw [hl]; rfl
  rw [hv]
  have p0 := fun w => part_num (l := l) (k := 0) (by omega) w
  have p1 := fun w => part_num (l := l) (k := 1) (by omega) w
  have p2 := fun w => part_num (l := l) (k := 2) (by omega) w
  have p3 : ∀ w, (part 34 (intsC l).toArray 3).run Tryd.prog w = .ok (.agg ((intsC l).toArray.extract 3 8)) w := fun w => part_nums (n := 5) l 3 Tryd.underlying34 (by kernel_rfl) (by kernel_rfl) w
  have e1 : ∀ n w, (Op.equalIn 9999 3 (.int .i64 n) (.int .i64 n)).run Tryd.prog w = .ok true w := eqNum 9998
  have e3 : ∀ w, (Op.equalIn 9999 34 (.agg ((intsC l).toArray.extract 3 8)) (.agg ((intsC l).toArray.extract 3 8))).run Tryd.prog w = .ok true w := fun w => eqNumRow 9997 (n := 5) (k := 3) Tryd.underlying34 (by omega) w
  rw [show (10000 : Nat) = 9999 + 1 from rfl, run_equalIn_struct w 9999 36 _ _ (by kernel_rfl) (by kernel_rfl)]
  clear hv
  generalize (intsC l).toArray = xs at *
  simp only [Program.fieldsOf, Tryd.underlying36, Op.eqFields]
  simp [Sem.run_bind, Sem.run_pure, p0, p1, p2, p3, e1, e3, Result.andThen_ok]
theorem eqlE (e : Ef) (w : World) : (binOp .eql 36 (efV e) (efV e)).run Tryd.prog w = .ok (.bool true) w := by
  have hn := run_eql_struct (P := Tryd.prog) w 36 (efC e).toArray (efC e).toArray
  have h1 := eqEffect e w
  unfold efV at h1 ⊢
  rw [h1] at hn
  rw [hn]
  rfl
theorem guardE (x y : Operand) (e : Ef) (w : World) : (eqGuard .eql 36 x y (efV e) (efV e)).run Tryd.prog w = .ok () w :=
  run_eqGuard_agg (P := Tryd.prog) w .eql 36 x y (efC e).toArray (efC e).toArray (by kernel_rfl)
end Go.Proofs.YtjbcmedljgafkaaDoor.pgm.exe

/-
  What the statements on exec ask of the program's calls. No condition.
-/

namespace Go.Proofs.YtjbcmedljgafkaaDoor.pgm.exe
open Go.RowKit Go.ChangeShapes
open Go.Proofs.YtjbcmedljgafkaaDoor.pgm
open Go.Proofs.YtjbcmedljgafkaaDoor.frames (Fr num In)
open Go.Proofs.YtjbcmedljgafkaaDoor.pgm.ver (progV)
set_option linter.unusedVariables false

def I64 (n : Int) : Prop := -9223372036854775808 ≤ n ∧ n ≤ 9223372036854775807
/-- As many functions and instructions as the law takes of a program that came in. -/
def Small (p : Pg) : Prop := p.fs.length ≤ 20 ∧ ∀ f ∈ p.fs, f.co.length ≤ 250
/-- What is asked of the program's calls; Ok says what the world must hold. -/
structure Keeps (Ok : World → Prop) : Prop where
  mono : ∀ w w', Ok w → Below w.heap.size w w' → Ok w'
  do' : ∀ v p A c l self now w, Ok w → PAt w v p → (progV p).2.2 = 0 → In w A c l → FitL p.fs 0 l → I64 self → I64 now → Calls Tryd.prog 9 #[v, .slice A l.length c, .int .i64 self, .int .i64 now] w (DoPost (doZ p.fs l self now) w)
  odd : ∀ v p A c l self w, Ok w → PAt w v p → Small p → In w A c l → l.length ≤ 20 → (∀ f ∈ l, ∀ k, k < 27 → I64 (num f k)) → I64 self → Calls Tryd.prog 9 #[v, .slice A l.length c, .int .i64 self, .int .i64 1] w fun e w' => (∃ u, e = .returned u) ∧ Below w.heap.size w w'
  pure : ∀ n w, Ok w → I64 n → Calls Tryd.prog 15 #[.int .i64 n] w fun e w' => e = .returned (.bool (decide (0 ≤ n ∧ n ≤ 23))) ∧ Below w.heap.size w w'
end Go.Proofs.YtjbcmedljgafkaaDoor.pgm.exe
