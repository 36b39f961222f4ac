/-
  Texts of one claim in one file: YRows, YLast. Each has its own sentence, with its conditions.
-/
import Derived.Test.YtnhoeboighndlaaGreatDoorYall26
import Derived.Laws.OwnMore
/-
  A program in memory of a call's own, object by object, wait by wait, function by function, the last function instruction by instruction; and append's law for functions without code. No condition.
-/
namespace Go.Proofs.YtnhoeboighndlaaGreatDoor.pgm.asm
open Go.RowKit Go.ChangeShapes
open Go.Proofs.YtnhoeboighndlaaGreatDoor.pgm
open Go.Proofs.YtnhoeboighndlaaGreatDoor.objs (De zero DAt Own cells3)
open Go.Proofs.YtnhoeboighndlaaGreatDoor.need (OwnN OwnW)
set_option linter.unusedVariables false

/-- None but blocks of one type have turned. -/
structure Kp (T : TypeId) (W W' : World) : Prop where
  size : W.heap.size ≤ W'.heap.size
  keep : ∀ k, k < W.heap.size → (∀ cs fr, W.heap[k]? ≠ some (.cells cs T fr)) → W'.heap[k]? = W.heap[k]?
theorem Kp.block {T T' : TypeId} {W W' : World} (h : Kp T W W') {k : Nat} {cs : Array Value} {fr : Nat × Nat} (hk : W.heap[k]? = some (.cells cs T' fr)) (hne : T' ≠ T) : W'.heap[k]? = W.heap[k]? :=
  h.keep k (lt_of_block hk) fun cs' fr' e => by
    rw [hk] at e
    injection e with e
    injection e with _ e _
    exact hne e
theorem Kp.refl (T : TypeId) (W : World) : Kp T W W := ⟨Nat.le_refl _, fun _ _ _ => rfl⟩
theorem Kp.trans {T : TypeId} {U V W : World} (h : Kp T U V) (k : Kp T V W) : Kp T U W :=
  ⟨Nat.le_trans h.size k.size, fun j hj ht => by
    have e := h.keep j hj ht
    exact (k.keep j (Nat.lt_of_lt_of_le hj h.size) (by rw [e]; exact ht)).trans e⟩
theorem Kp.below {T : TypeId} {W W' : World} (h : Below W.heap.size W W') : Kp T W W' := ⟨h.size, fun k hk _ => h.block k hk⟩
theorem Kp.grown {T : TypeId} {W W' : World} {base size n : Nat} {v : Value} {xs : List Value} (hr : W.ownsRow base T size v n xs) (hg : W.grownBy W' v.ownBlock) : Kp T W W' :=
  ⟨hg.size, fun k hk ht => hg.block k hk fun e => by
    rcases hr.2 with ⟨rfl, _⟩ | ⟨g, c, cur, rfl, _, hh, _⟩
    · cases e
    · simp [Value.ownBlock] at e
      subst e
      exact ht _ _ hh⟩
theorem Kp.set {T : TypeId} {W : World} {b : Nat} {cs : Array Value} {fr : Nat × Nat} (hb : W.heap[b]? = some (.cells cs T fr)) (j : Nat) (v : Value) : Kp T W (W.setCell ⟨b, j, none⟩ v) :=
  ⟨by simp, fun k hk ht => Below.heap_setCell _ ⟨b, j, none⟩ _ k fun e => by
    simp at e
    subst e
    exact ht _ _ hb⟩
theorem row_kp {T T' : TypeId} {W W' : World} {base size n : Nat} {v : Value} {xs : List Value} (h : W.ownsRow base T' size v n xs) (k : Kp T W W') (hne : T' ≠ T) : W'.ownsRow base T' size v n xs :=
  ⟨h.1, h.2.imp id fun ⟨g, c, cur, e, hb, hh, r⟩ => ⟨g, c, cur, e, hb, (k.block hh hne).trans hh, r⟩⟩
theorem own_kp {T : TypeId} {W W' : World} {base : Nat} {v : Value} {l : List De} (h : Own W base v l) (k : Kp T W W') (hne : 44 ≠ T) : Own W' base v l := row_kp h k hne
theorem ownN_kp {T : TypeId} {W W' : World} {base : Nat} {v : Value} {l : List De} (h : OwnN W base v l) (k : Kp T W W') (hne : 79 ≠ T) : OwnN W' base v l := row_kp h k hne
theorem ownJ_kp {T : TypeId} {W W' : World} {base : Nat} {v : Value} {l : List De} (h : OwnJ W base v l) (k : Kp T W W') (hne : 28 ≠ T) : OwnJ W' base v l := row_kp h k hne
theorem ownW_kp {T : TypeId} {W W' : World} {base : Nat} {v : Value} {l : List (List De)} (h : OwnW W base v l) (k : Kp T W W') (h1 : 79 ≠ T) (h2 : 75 ≠ T) : OwnW W' base v l := by
  obtain ⟨xs, h3, h4⟩ := h
  refine ⟨xs, row_kp h3 k h2, fun j hj => ?_⟩
  obtain ⟨x, h5, h6⟩ := h4 j hj
  exact ⟨x, h5, ownN_kp h6 k h1⟩
theorem ownV_kp {T : TypeId} {W W' : World} {base : Nat} {v : Value} {l : List (List (List De))} (h : OwnV W base v l) (k : Kp T W W') (h1 : 79 ≠ T) (h2 : 75 ≠ T) (h3 : 45 ≠ T) : OwnV W' base v l := by
  obtain ⟨xs, h4, h5⟩ := h
  refine ⟨xs, row_kp h4 k h3, fun j hj => ?_⟩
  obtain ⟨x, h6, h7⟩ := h5 j hj
  exact ⟨x, h6, ownW_kp h7 k h1 h2⟩

/-- Functions, cell by cell, with their codes' slices. -/
def flatF : List Fn → List Value → List Value
  | f :: fs, x :: xs => .int .i64 f.ar :: .int .i64 f.lo :: x :: flatF fs xs
  | _, _ => []
theorem flatF_length : ∀ (fs : List Fn) (xs : List Value), xs.length = fs.length → (flatF fs xs).length = fs.length * 3 := by
  intro fs
  induction fs with
  | nil => intro xs _; rfl
  | cons f fs ih =>
    intro xs h
    cases xs with
    | nil => cases h
    | cons x xs =>
      show (flatF fs xs).length + 1 + 1 + 1 = _
      rw [ih xs (by simpa using h), List.length_cons]
      omega
theorem flatF_snoc (f : Fn) (x : Value) : ∀ (fs : List Fn) (xs : List Value), xs.length = fs.length → flatF (fs ++ [f]) (xs ++ [x]) = flatF fs xs ++ [.int .i64 f.ar, .int .i64 f.lo, x] := by
  intro fs
  induction fs with
  | nil =>
    intro xs h
    rw [List.length_eq_zero_iff.1 h]
    rfl
  | cons g fs ih =>
    intro xs h
    cases xs with
    | nil => cases h
    | cons y xs =>
      show _ :: _ :: _ :: flatF (fs ++ [f]) (xs ++ [x]) = _
      rw [ih xs (by simpa using h)]
      rfl
theorem flatF_at : ∀ (fs : List Fn) (xs : List Value) (j : Nat), xs.length = fs.length → j < fs.length → (flatF fs xs)[j * 3]? = some (.int .i64 (fs.getD j Fn.zero).ar) ∧ (flatF fs xs)[j * 3 + 1]? = some (.int .i64 (fs.getD j Fn.zero).lo) ∧ (flatF fs xs)[j * 3 + 2]? = some (xs.getD j undef) := by
  intro fs
  induction fs with
  | nil => intro xs j _ hj; exact absurd hj (Nat.not_lt_zero j)
  | cons f fs ih =>
    intro xs j h hj
    cases xs with
    | nil => cases h
    | cons x xs =>
      cases j with
      | zero => exact ⟨rfl, rfl, rfl⟩
      | succ j =>
        obtain ⟨h1, h2, h3⟩ := ih xs j (by simpa using h) (by simpa using hj)
        rw [show (j + 1) * 3 = j * 3 + 1 + 1 + 1 from by omega]
        exact ⟨h1, h2, h3⟩
/-- The last function's code exchanged. -/
theorem flatF_set (f : Fn) (x y : Value) (co : List De) (fs : List Fn) (xs : List Value) (h : xs.length = fs.length) : (flatF (fs ++ [f]) (xs ++ [x])).set (fs.length * 3 + 2) y = flatF (fs ++ [⟨f.ar, f.lo, co⟩]) (xs ++ [y]) := by
  rw [flatF_snoc f x fs xs h, flatF_snoc _ y fs xs h, List.set_append_right _ _ (by rw [flatF_length fs xs h]; omega), flatF_length fs xs h]
  rw [show fs.length * 3 + 2 - fs.length * 3 = 2 from by omega]
  rfl
/-- A row of functions that a call owns: the last one's code lies behind all else. -/
structure OwnL (W : World) (base : Nat) (v : Value) (fs : List Fn) : Prop where
  xs : ∃ xs : List Value, xs.length = fs.length ∧ W.ownsRow base 49 3 v fs.length (flatF fs xs) ∧ (∀ j, j < fs.length → OwnJ W base (xs.getD j undef) (fs.getD j Fn.zero).co) ∧
    ∃ b2, base ≤ b2 ∧ b2 ≤ W.heap.size ∧ (∀ j, j + 1 < fs.length → ∀ g, (xs.getD j undef).ownBlock = some g → g < b2) ∧ (∀ j, j + 1 = fs.length → OwnJ W b2 (xs.getD j undef) (fs.getD j Fn.zero).co)
theorem OwnL.nil (W : World) (base : Nat) (hb : base ≤ W.heap.size) : OwnL W base (.slice none 0 0) [] :=
  ⟨[], rfl, World.ownsRow_nil .., fun j hj => absurd hj (Nat.not_lt_zero j), base, Nat.le_refl _, hb, fun j hj => absurd hj (Nat.not_lt_zero _), fun j hj => by simp at hj⟩
theorem OwnL.slice {W : World} {base : Nat} {v : Value} {fs : List Fn} (h : OwnL W base v fs) : ∃ A cap, v = .slice A fs.length cap := by
  obtain ⟨xs, _, h1, _⟩ := h.xs
  rcases h1.2 with ⟨rfl, h0⟩ | ⟨g, cap, cur, rfl, _⟩
  · exact ⟨none, 0, by rw [h0]⟩
  · exact ⟨_, _, rfl⟩
theorem OwnL.kp {T : TypeId} {W W' : World} {base : Nat} {v : Value} {fs : List Fn} (h : OwnL W base v fs) (k : Kp T W W') (h1 : 49 ≠ T) (h2 : 28 ≠ T) : OwnL W' base v fs := by
  obtain ⟨xs, e1, e2, e3, b2, e4, e5, e6, e7⟩ := h.xs
  exact ⟨xs, e1, row_kp e2 k h1, fun j hj => ownJ_kp (e3 j hj) k h2, b2, e4, Nat.le_trans e5 k.size, e6, fun j hj => ownJ_kp (e7 j hj) k h2⟩
theorem OwnL.next {W W' : World} {base : Nat} {v : Value} {fs : List Fn} (h : OwnL W base v fs) (hb : Below W.heap.size W W') : OwnL W' base v fs := by
  obtain ⟨xs, e1, e2, e3, b2, e4, e5, e6, e7⟩ := h.xs
  refine ⟨xs, e1, ⟨e2.1, e2.2.imp id ?_⟩, fun j hj => (e3 j hj).next hb, b2, e4, Nat.le_trans e5 hb.size, e6, fun j hj => (e7 j hj).next hb⟩
  rintro ⟨g, c, cur, rfl, hg, hh, r⟩
  exact ⟨g, c, cur, rfl, hg, (hb.block g (lt_of_block hh)).trans hh, r⟩
theorem OwnL.at {W : World} {base cap : Nat} {A : Option Addr} {fs : List Fn} {n : Nat} (h : OwnL W base (.slice A n cap) fs) : FsAt W A fs := by
  intro j hj
  obtain ⟨xs, e1, h1, e3, _⟩ := h.xs
  obtain ⟨q1, q2, q3⟩ := flatF_at fs xs j e1 hj
  rcases h1.2 with ⟨e, h0⟩ | ⟨g, cap', cur, e, hb, hh, _⟩
  · omega
  · injection e with p1 p2 p3
    subst p1
    obtain ⟨Aj, cj, hx⟩ := (e3 j hj).slice
    rw [hx] at q3
    have at_ : ∀ i u, (flatF fs xs)[i]? = some u → W.cell? ⟨g, 0 + i, none⟩ = some u := fun i u hu => by
      have := World.ownsRow.cells h1 (g := g) rfl _ _ hu
      rwa [Addr.add_lit] at this
    have ho := e3 j hj
    rw [hx] at ho
    exact ⟨g, 0, Aj, cj, rfl, lt_of_block hh, ⟨at_ _ _ q1, at_ _ _ q2, at_ _ _ q3⟩, ho.at⟩

/-- One function without code, in a block of its own, put behind a row of functions. -/
theorem run_appL (w w1 : World) (ty : TypeId) (base c : Nat) (v : Value) (fs : List Fn) (ar lo : Int) (hrow : OwnL w base v fs) (hw1 : w1 = w.alloc (.cells #[.int .i64 ar, .int .i64 lo, .slice none 0 0] 49)) (hlen : fs.length ≤ 100000) (hbase : base ≤ w.heap.size) :
    ∃ v' w', (Builtin.append_ #[24, 24] ty #[v, .slice (some ⟨w.heap.size, 0, none⟩) 1 c]).run Tryz.prog w1 = .ok v' w' ∧ OwnL w' base v' (fs ++ [⟨ar, lo, []⟩]) ∧ w1.grownBy w' v.ownBlock := by
  subst hw1
  obtain ⟨i, hi, hz0, hz1, hz2⟩ := info_parts infoF
  obtain ⟨xs, e1, h1, e3, b2, e4, e5, e6, e7⟩ := hrow.xs
  obtain ⟨F, hF⟩ : ∃ F : Obj, F = .cells #[.int .i64 ar, .int .i64 lo, .slice none 0 0] 49 := ⟨_, rfl⟩
  rw [← hF]
  have hb0 : Below w.heap.size w (w.alloc F) := (Below.refl _ w).alloc (Nat.le_refl _) _
  have hnew : (w.alloc F).heap[w.heap.size]? = some F := heap_alloc_new w F
  have hc : ∀ (j : Nat) (u : Value), [Value.int .i64 ar, .int .i64 lo, .slice none 0 0][j]? = some u → (w.alloc F).cell? ((⟨w.heap.size, 0, none⟩ : Addr).add j) = some u := by
    intro j u hu
    rw [Addr.add_lit, Nat.zero_add]
    unfold World.cell?
    rw [hnew, hF]
    rcases j with _ | _ | _ | j
    · simpa using hu
    · simpa using hu
    · simpa using hu
    · simp at hu
  have hrow1 : (w.alloc F).ownsRow base 49 3 v fs.length (flatF fs xs) := by
    refine ⟨h1.1, h1.2.imp id ?_⟩
    rintro ⟨g, c, cur, rfl, hg, hh, r⟩
    exact ⟨g, c, cur, rfl, hg, (hb0.block g (lt_of_block hh)).trans hh, r⟩
  obtain ⟨v', w', r1, r2, r3, _⟩ := run_append_own (P := Tryz.prog) (w.alloc F) base 24 ty 49 i _ 3 40 Tryz.underlying24 hi hz0 hz1 hz2 rfl (by omega) v fs.length (flatF fs xs) hrow1 ⟨w.heap.size, 0, none⟩ 1 c [.int .i64 ar, .int .i64 lo, .slice none 0 0] rfl hc (by
      intro u hu
      simp only [List.mem_cons, List.not_mem_nil, or_false] at hu
      rcases hu with rfl | rfl | rfl <;> rfl) (by unfold maxLen; omega) (by omega) (by simp; omega)
  have hkp : Kp 49 w w' := (Kp.below hb0).trans (Kp.grown hrow1 r3)
  have keep : ∀ (b : Nat) (y : Value) (r' : List De), OwnJ w b y r' → OwnJ w' b y r' := fun b y r' hy => ownJ_kp hy hkp (by decide)
  refine ⟨v', w', r1, ⟨xs ++ [.slice none 0 0], by simp [e1], ?_, fun j hj => ?_, w.heap.size, hbase, hkp.size, fun j hj g hg => ?_, fun j hj => ?_⟩, r3⟩
  · rw [List.length_append, flatF_snoc _ _ _ _ e1]
    exact r2
  · rw [List.length_append] at hj
    rcases Nat.lt_or_ge j fs.length with h2 | h2
    · rw [at_left h2, show (xs ++ [Value.slice none 0 0]).getD j undef = xs.getD j undef from at_left (by omega)]
      exact keep _ _ _ (e3 j h2)
    · obtain rfl : j = fs.length := by simp at hj; omega
      rw [show (fs ++ [(⟨ar, lo, []⟩ : Fn)]).getD fs.length Fn.zero = ⟨ar, lo, []⟩ from at_last rfl, show (xs ++ [Value.slice none 0 0]).getD fs.length undef = .slice none 0 0 from at_last e1]
      exact OwnJ.nil _ _
  · rw [List.length_append] at hj
    have h2 : j < fs.length := by simp at hj; omega
    rw [show (xs ++ [Value.slice none 0 0]).getD j undef = xs.getD j undef from at_left (by omega)] at hg
    exact ((e3 j h2).lt hg).2
  · rw [List.length_append] at hj
    obtain rfl : j = fs.length := by simp at hj; omega
    rw [show (fs ++ [(⟨ar, lo, []⟩ : Fn)]).getD fs.length Fn.zero = ⟨ar, lo, []⟩ from at_last rfl, show (xs ++ [Value.slice none 0 0]).getD fs.length undef = .slice none 0 0 from at_last e1]
    exact OwnJ.nil _ _
theorem wp_appL {o : Oper} {a : Act} {w w1 : World} {K : Act → World → Prop} {Q : Exit → Act → World → Prop} (s y : Operand)
    (ho : o.op = .call { callee := .builtin .append, args := #[s, y], argTypes := #[24, 24] }) (base c : Nat) (v : Value) (fs : List Fn) (ar lo : Int)
    (hs : a.eval s = v) (hrow : OwnL w base v fs) (hy : a.eval y = .slice (some ⟨w.heap.size, 0, none⟩) 1 c) (hw1 : w1 = w.alloc (.cells #[.int .i64 ar, .int .i64 lo, .slice none 0 0] 49)) (hlen : fs.length ≤ 100000) (hbase : base ≤ w.heap.size)
    (h : ∀ v' w', OwnL w' base v' (fs ++ [⟨ar, lo, []⟩]) → w1.grownBy w' v.ownBlock → K (a.put o.dst v') w') : o.wp Tryz.prog a w1 K Q := by
  obtain ⟨v', w', hr, h2, h3⟩ := run_appL w w1 o.type base c v fs ar lo hrow hw1 hlen hbase
  unfold Oper.wp execOp
  simp only [ho, resolve, invoke, builtin, Sem.run_bind, Sem.run_pure, Result.andThen_ok, List.map_toArray, List.map_cons, List.map_nil, hs, hy, hr]
  exact h v' w' h2 h3
theorem step_appL {ops : Array Oper} {o : Oper} {a : Act} {w w1 : World} {K : Act → World → Prop} {Q : Exit → Act → World → Prop} {E : Prop} (hgd : o.guard = none) (s y : Operand)
    (ho : o.op = .call { callee := .builtin .append, args := #[s, y], argTypes := #[24, 24] }) (base c : Nat) (v : Value) (fs : List Fn) (ar lo : Int)
    (hs : a.eval s = v) (hrow : OwnL w base v fs) (hy : a.eval y = .slice (some ⟨w.heap.size, 0, none⟩) 1 c) (hw1 : w1 = w.alloc (.cells #[.int .i64 ar, .int .i64 lo, .slice none 0 0] 49)) (hlen : fs.length ≤ 100000) (hbase : base ≤ w.heap.size)
    (h : ∀ v' w', OwnL w' base v' (fs ++ [⟨ar, lo, []⟩]) → w1.grownBy w' v.ownBlock → K (a.put o.dst v') w') :
    if Region.wanted o (yielded ops a.tmps) = true then Oper.wp Tryz.prog o a w1 K Q else E := by
  have hw : Region.wanted o (yielded ops a.tmps) = true := by simp [Region.wanted, hgd]
  rw [if_pos hw]
  exact wp_appL s y ho base c v fs ar lo hs hrow hy hw1 hlen hbase h

/-- The program that is built: its block, and what its lists hold. -/
structure Pz (W : World) (base bp : Nat) (va vb vc : Value) (p : Pg) : Prop where
  le : base ≤ bp
  box : W.heap[bp]? = some (.cells #[va, vb, vc] 26 (0, 0))
  ds : Own W base va p.ds
  ws : OwnV W base vb p.ws
  fs : OwnL W base vc p.fs
theorem Pz.next {W W' : World} {base bp : Nat} {va vb vc : Value} {p : Pg} (h : Pz W base bp va vb vc p) (hb : Below W.heap.size W W') : Pz W' base bp va vb vc p :=
  ⟨h.le, (hb.block _ (lt_of_block h.box)).trans h.box, h.ds.next hb, h.ws.next hb, h.fs.next hb⟩
theorem Pz.lt {W : World} {base bp : Nat} {va vb vc : Value} {p : Pg} (h : Pz W base bp va vb vc p) : base < W.heap.size := Nat.lt_of_le_of_lt h.le (lt_of_block h.box)
theorem Pz.pat {W : World} {base bp : Nat} {va vb vc : Value} {p : Pg} (h : Pz W base bp va vb vc p) : PAt W (.agg #[va, vb, vc]) p := by
  obtain ⟨A, ca, rfl⟩ := h.ds.slice
  obtain ⟨B, cb, rfl⟩ := h.ws.slice
  obtain ⟨C, cc, rfl⟩ := h.fs.slice
  exact ⟨A, B, C, ca, cb, cc, rfl, h.ds.at, h.ws.at, h.fs.at⟩
/-- The first list is put in the place of what was. -/
theorem Pz.setA {W W1 : World} {base bp : Nat} {va vb vc v' : Value} {p : Pg} {ds' : List De} (h : Pz W base bp va vb vc p) (k : Kp 44 W W1) (ho : Own W1 base v' ds') : Pz (W1.setCell ⟨bp, 0, none⟩ v') base bp v' vb vc ⟨ds', p.ws, p.fs⟩ := by
  have hb1 := (k.block h.box (by decide)).trans h.box
  have k2 : Kp 26 W1 (W1.setCell ⟨bp, 0, none⟩ v') := Kp.set hb1 0 v'
  exact ⟨h.le, by simp [World.setCell, Array.getElem?_modify, hb1], own_kp ho k2 (by decide), ownV_kp (ownV_kp h.ws k (by decide) (by decide) (by decide)) k2 (by decide) (by decide) (by decide), (h.fs.kp k (by decide) (by decide)).kp k2 (by decide) (by decide)⟩
theorem Pz.setB {W W1 : World} {base bp : Nat} {va vb vc v' : Value} {p : Pg} {ws' : List (List (List De))} (h : Pz W base bp va vb vc p) (k : Kp 45 W W1) (ho : OwnV W1 base v' ws') : Pz (W1.setCell ⟨bp, 1, none⟩ v') base bp va v' vc ⟨p.ds, ws', p.fs⟩ := by
  have hb1 := (k.block h.box (by decide)).trans h.box
  have k2 : Kp 26 W1 (W1.setCell ⟨bp, 1, none⟩ v') := Kp.set hb1 1 v'
  exact ⟨h.le, by simp [World.setCell, Array.getElem?_modify, hb1], own_kp (own_kp h.ds k (by decide)) k2 (by decide), ownV_kp ho k2 (by decide) (by decide) (by decide), (h.fs.kp k (by decide) (by decide)).kp k2 (by decide) (by decide)⟩
theorem Pz.setC {W W1 : World} {base bp : Nat} {va vb vc v' : Value} {p : Pg} {fs' : List Fn} (h : Pz W base bp va vb vc p) (k : Kp 49 W W1) (ho : OwnL W1 base v' fs') : Pz (W1.setCell ⟨bp, 2, none⟩ v') base bp va vb v' ⟨p.ds, p.ws, fs'⟩ := by
  have hb1 := (k.block h.box (by decide)).trans h.box
  have k2 : Kp 26 W1 (W1.setCell ⟨bp, 2, none⟩ v') := Kp.set hb1 2 v'
  exact ⟨h.le, by simp [World.setCell, Array.getElem?_modify, hb1], own_kp (own_kp h.ds k (by decide)) k2 (by decide), ownV_kp (ownV_kp h.ws k (by decide) (by decide) (by decide)) k2 (by decide) (by decide) (by decide), ho.kp k2 (by decide) (by decide)⟩
end Go.Proofs.YtnhoeboighndlaaGreatDoor.pgm.asm

/-
  The last function's code of a program in memory of a call's own, and an instruction put behind it. No condition.
-/
namespace Go.Proofs.YtnhoeboighndlaaGreatDoor.pgm.asm
open Go.RowKit Go.ChangeShapes
open Go.Proofs.YtnhoeboighndlaaGreatDoor.pgm
open Go.Proofs.YtnhoeboighndlaaGreatDoor.objs (De zero DAt Own cells3)
open Go.Proofs.YtnhoeboighndlaaGreatDoor.need (OwnN OwnW)
set_option linter.unusedVariables false

theorem OwnL.last {W : World} {base : Nat} {v : Value} {fs : List Fn} {f : Fn} (h : OwnL W base v (fs ++ [f])) :
    ∃ g cap x b2, v = .slice (some ⟨g, 0, none⟩) (fs.length + 1) cap ∧ base ≤ g ∧ fs.length + 1 ≤ cap ∧ (∃ cur, W.heap[g]? = some (.cells cur 49 (0, 0))) ∧ W.cell? ⟨g, fs.length * 3 + 2, none⟩ = some x ∧ W.frozen? ⟨g, fs.length * 3 + 2, none⟩ = false ∧
      OwnJ W b2 x f.co ∧ base ≤ b2 ∧ b2 ≤ W.heap.size ∧
      ∀ W1 x' co', W.heap.size ≤ W1.heap.size → (∀ k, k < W.heap.size → some k ≠ x.ownBlock → W1.heap[k]? = W.heap[k]?) → OwnJ W1 b2 x' co' → OwnL (W1.setCell ⟨g, fs.length * 3 + 2, none⟩ x') base v (fs ++ [⟨f.ar, f.lo, co'⟩]) := by
  obtain ⟨ys, e1, e2, e3, b2, e4, e5, e6, e7⟩ := h.xs
  obtain ⟨xs, x, rfl⟩ : ∃ xs x, ys = xs ++ [x] := by
    rcases List.eq_nil_or_concat ys with rfl | ⟨xs, x, rfl⟩
    · simp at e1
    · exact ⟨xs, x, by simp⟩
  have hx : xs.length = fs.length := by simpa using e1
  have hlen : (fs ++ [f]).length = fs.length + 1 := by simp
  rw [hlen] at e2 e3 e6 e7
  have gx : (xs ++ [x]).getD fs.length undef = x := at_last hx
  have gf : (fs ++ [f]).getD fs.length Fn.zero = f := at_last rfl
  have hJ := e7 fs.length rfl
  rw [gx, gf] at hJ
  have he2 := e2
  rcases e2.2 with ⟨_, h0⟩ | ⟨g, cap, cur, rfl, hb, hh, hc1, hc2, hc3, hc4⟩
  · omega
  · obtain ⟨_, _, q3⟩ := flatF_at (fs ++ [f]) (xs ++ [x]) fs.length e1 (by rw [hlen]; omega)
    rw [gx] at q3
    refine ⟨g, cap, x, b2, rfl, hb, hc1, ⟨cur, hh⟩, ?_, ?_, hJ, e4, e5, ?_⟩
    · have := World.ownsRow.cells he2 (g := g) rfl _ _ q3
      rw [Addr.add_lit] at this
      simpa using this
    · unfold World.frozen?
      rw [hh]
      simp
    · intro W1 x' co' hs hk hJ'
      have hg1 : W1.heap[g]? = some (.cells cur 49 (0, 0)) := by
        rw [hk g (lt_of_block hh) (fun e => ?_)]
        · exact hh
        · obtain ⟨cur2, hk2⟩ := hJ.kind e.symm
          rw [hk2] at hh
          injection hh with hh
          injection hh with _ hh _
          exact absurd hh (by decide)
      have hrow1 : W1.ownsRow base 49 3 (.slice (some ⟨g, 0, none⟩) (fs.length + 1) cap) (fs.length + 1) (flatF (fs ++ [f]) (xs ++ [x])) :=
        ⟨he2.1, .inr ⟨g, cap, cur, rfl, hb, hg1, hc1, hc2, hc3, hc4⟩⟩
      have hst := (World.ownsRow.stored hrow1 (fs.length * 3 + 2) x').1
      rw [flatF_set f x x' co' fs xs hx] at hst
      have k2 : Kp 49 W1 (W1.setCell ⟨g, fs.length * 3 + 2, none⟩ x') := Kp.set hg1 _ _
      refine ⟨xs ++ [x'], by simp [hx], by rw [show (fs ++ [(⟨f.ar, f.lo, co'⟩ : Fn)]).length = fs.length + 1 by simp]; exact hst, fun j hj => ?_, b2, e4, by have := k2.size; omega, fun j hj y hy => ?_, fun j hj => ?_⟩
      · have hj : j < fs.length + 1 := by simpa using hj
        rcases Nat.lt_or_ge j fs.length with h2 | h2
        · have ho := e3 j (by omega)
          rw [show (xs ++ [x]).getD j undef = xs.getD j undef from at_left (by omega), show (fs ++ [f]).getD j Fn.zero = fs.getD j Fn.zero from at_left h2] at ho
          rw [show (xs ++ [x']).getD j undef = xs.getD j undef from at_left (by omega), show (fs ++ [(⟨f.ar, f.lo, co'⟩ : Fn)]).getD j Fn.zero = fs.getD j Fn.zero from at_left h2]
          refine ownJ_kp (ho.keep fun y hy => hk y (ho.lt hy).2 fun e => ?_) k2 (by decide)
          have h3 := e6 j (by omega) y (by rw [show (xs ++ [x]).getD j undef = xs.getD j undef from at_left (by omega)]; exact hy)
          have h4 := (hJ.lt e.symm).1
          omega
        · obtain rfl : j = fs.length := by omega
          rw [show (xs ++ [x']).getD fs.length undef = x' from at_last hx, show (fs ++ [(⟨f.ar, f.lo, co'⟩ : Fn)]).getD fs.length Fn.zero = ⟨f.ar, f.lo, co'⟩ from at_last rfl]
          exact ownJ_kp (hJ'.base e4) k2 (by decide)
      · have hj : j + 1 < fs.length + 1 := by simpa using hj
        rw [show (xs ++ [x']).getD j undef = xs.getD j undef from at_left (by omega)] at hy
        exact e6 j (by omega) y (by rw [show (xs ++ [x]).getD j undef = xs.getD j undef from at_left (by omega)]; exact hy)
      · have hj : j + 1 = fs.length + 1 := by simpa using hj
        obtain rfl : j = fs.length := by omega
        rw [show (xs ++ [x']).getD fs.length undef = x' from at_last hx, show (fs ++ [(⟨f.ar, f.lo, co'⟩ : Fn)]).getD fs.length Fn.zero = ⟨f.ar, f.lo, co'⟩ from at_last rfl]
        exact ownJ_kp hJ' k2 (by decide)
theorem putI_some {x : De} : ∀ {l g : List Fn}, putI x l = some g → ∃ fs f, l = fs ++ [f] ∧ g = fs ++ [⟨f.ar, f.lo, f.co ++ [x]⟩] := by
  intro l
  rcases List.eq_nil_or_concat l with rfl | ⟨fs, f, rfl⟩
  · intro g h; cases h
  · intro g h
    rw [List.concat_eq_append, putI_last] at h
    injection h with h
    exact ⟨fs, f, by simp, h.symm⟩
/-- An instruction is put behind the last function's code. -/
theorem Pz.setI {W W1 : World} {base bp : Nat} {va vb vc : Value} {ds : List De} {ws : List (List (List De))} {fs : List Fn} {f : Fn} {x : Value} (h : Pz W base bp va vb vc ⟨ds, ws, fs ++ [f]⟩) {g : Nat} {x' : Value} {co' : List De} {n : Nat}
    (k : Kp 28 W W1) (hg : ∃ cur, W.heap[g]? = some (.cells cur 49 (0, 0))) (hL : OwnL (W1.setCell ⟨g, n, none⟩ x') base vc (fs ++ [⟨f.ar, f.lo, co'⟩])) : Pz (W1.setCell ⟨g, n, none⟩ x') base bp va vb vc ⟨ds, ws, fs ++ [⟨f.ar, f.lo, co'⟩]⟩ := by
  obtain ⟨cur, hg⟩ := hg
  have hg1 := (k.block hg (by decide)).trans hg
  have k2 : Kp 49 W1 (W1.setCell ⟨g, n, none⟩ x') := Kp.set hg1 _ _
  have hb1 := (k.block h.box (by decide)).trans h.box
  exact ⟨h.le, (k2.block hb1 (by decide)).trans hb1, own_kp (own_kp h.ds k (by decide)) k2 (by decide), ownV_kp (ownV_kp h.ws k (by decide) (by decide) (by decide)) k2 (by decide) (by decide) (by decide), hL⟩
end Go.Proofs.YtnhoeboighndlaaGreatDoor.pgm.asm
