/-
  Texts of one claim in one file: YSpec, GOwn, GStay. Each has its own sentence, with its conditions.
-/
import Derived.Test.YtnhoeboighndlaaGreatDoorYall21
import Derived.Test.YtnhoeboighndlaaGreatDoorYall25
import Derived.WalkLawsBesides
import Derived.Test.YtnhoeboighndlaaGreatDoorYall22
import Derived.Test.YtnhoeboighndlaaGreatDoorYall16
/-
  What the statements on programs in writing ask of the program's calls, and their common end: whether a program is written and read. No condition.
-/
namespace Go.Proofs.YtnhoeboighndlaaGreatDoor.pgm.asm
open Go.RowKit Go.ChangeShapes
open Go.Proofs.YtnhoeboighndlaaGreatDoor.pgm
open Go.Proofs.YtnhoeboighndlaaGreatDoor.octet (size_mk)
open Go.Proofs.YtnhoeboighndlaaGreatDoor.objs (De zero DAt)
set_option linter.unusedVariables false

def I64 (n : Int) : Prop := -9223372036854775808 ≤ n ∧ n ≤ 9223372036854775807
/-- The text of any program: an empty one, if it may not be. -/
def textA (p : Pg) : List UInt8 := if chkP p = 0 then textP p else []
def SmallP (p : Pg) : Prop := p.ds.length ≤ 40 ∧ p.ws.length ≤ 40 ∧ p.fs.length ≤ 20 ∧ ∀ f ∈ p.fs, f.co.length ≤ 250
theorem small_chk {p : Pg} (h : chkP p = 0) : SmallP p := by
  obtain ⟨g1, g2, g3, g4, g5, g6⟩ := chkP_zero h
  have g0 := (Go.Proofs.YtnhoeboighndlaaGreatDoor.objs.chk_zero g1).1
  refine ⟨by omega, by omega, by omega, fun f hf => ?_⟩
  have := (chkFn_zero (g6 f hf)).2.2.1
  omega
def LinePost (o a b : Int) (w : World) (e : Ending) (w' : World) : Prop := e = .returned (.string ⟨(lineA o a b).toArray⟩) ∧ Below w.heap.size w w'
def TextPost (p : Pg) (w : World) (e : Ending) (w' : World) : Prop := e = .returned (.tuple #[.string ⟨(textA p).toArray⟩, .int .i64 (chkP p : Nat)]) ∧ Below w.heap.size w w'
def ParsePost (s : List UInt8) (w : World) (e : Ending) (w' : World) : Prop := ∃ v, e = .returned (.tuple #[v, .int .i64 ((parse s).2.1 : Nat), .int .i64 ((parse s).2.2 : Nat)]) ∧ PAt w' v (parse s).1 ∧ Below w.heap.size w w'
/-- What is asked of the program's calls, and of the world. -/
structure Keeps (Ok : World → Prop) : Prop where
  mono : ∀ w w', Ok w → Below w.heap.size w w' → Ok w'
  line : ∀ o a b w, Ok w → I64 o → I64 a → I64 b → Calls Tryz.prog 9 #[.agg #[.int .i64 o, .int .i64 a, .int .i64 b]] w (LinePost o a b w)
  text : ∀ v p w, Ok w → PAt w v p → SmallP p → Calls Tryz.prog 8 #[v] w (TextPost p w)
  parse : ∀ s w, Ok w → Calls Tryz.prog 13 #[.string ⟨s.toArray⟩] w (ParsePost s w)

def pgB (A B C : Option Addr) (a b c ca cb cc : Nat) : Obj := .cells #[.slice A a ca, .slice B b cb, .slice C c cc] 26
theorem pg_cells {W : World} {g : Nat} {A B C : Option Addr} {a b c ca cb cc : Nat} (h : W.heap[g]? = some (pgB A B C a b c ca cb cc)) :
    W.cell? ⟨g, 0, none⟩ = some (.slice A a ca) ∧ W.cell? ⟨g, 1, none⟩ = some (.slice B b cb) ∧ W.cell? ⟨g, 2, none⟩ = some (.slice C c cc) := by
  unfold World.cell?
  rw [h]
  exact ⟨rfl, rfl, rfl⟩

set_option maxRecDepth 100000 in
set_option maxHeartbeats 4000000 in
theorem lives_any {Ok : World → Prop} (K : Keeps Ok) (w : World) (hw : Ok w) : Calls Tryz.prog 12 #[] w fun e w' => e = .returned (.bool true) ∧ Below w.heap.size w w' := by
  have HK := Lib.hid K
  have HP1 : Hid (Calls Tryz.prog 13 #[.string ⟨liveT.toArray⟩] w (ParsePost liveT w)) := Lib.hid (K.parse liveT w hw)
  unfold ParsePost at HP1
  rw [live_parse] at HP1
  have HW := Lib.hid hw
  clear hw K
  go_enter Tryz.func12, Tryz.ntmps12
  unfold liveT at HP1
  go_wp2_with fail
  refine HP1.out.mono ?_
  rintro e w1 ⟨v, rfl, ⟨A, B, C, ca, cb, cc, rfl, hA, hB, hC⟩, hb1⟩
  have HA := Lib.hid (show PAt w1 (.agg #[.slice A liveP.ds.length ca, .slice B liveP.ws.length cb, .slice C liveP.fs.length cc]) liveP from ⟨A, B, C, ca, cb, cc, rfl, hA, hB, hC⟩)
  have HB1 := Lib.hid hb1
  have HO1 := Lib.hid (HK.out.mono _ _ HW.out hb1)
  clear hA hB hC hb1 HP1 HW
  have e1 : liveP.ds.length = 1 := rfl
  have e2 : liveP.ws.length = 1 := rfl
  have e3 : liveP.fs.length = 1 := rfl
  simp only [e1, e2, e3] at HA ⊢
  have hbx : Below w1.heap.size w1 (w1.alloc (pgB A B C 1 1 1 ca cb cc)) := (Below.refl _ _).alloc (Nat.le_refl _) _
  have HT := Lib.hid (HK.out.text _ liveP (w1.alloc (pgB A B C 1 1 1 ca cb cc)) (HK.out.mono _ _ HO1.out hbx) (HA.out.next hbx) (small_chk live_chk))
  have HX := Lib.hid (heap_alloc_new w1 (pgB A B C 1 1 1 ca cb cc))
  have HBx := Lib.hid (HB1.out.trans (hbx.mono HB1.out.size))
  have HOx := Lib.hid (HK.out.mono _ _ HO1.out hbx)
  unfold TextPost textA at HT
  rw [live_chk, if_pos rfl, live_text] at HT
  obtain ⟨x0, x1, x2⟩ := pg_cells HX.out
  clear hbx
  unfold pgB at HT HBx HOx x0 x1 x2
  go_wp2_with fail
  refine HT.out.mono ?_
  rintro e w2 ⟨rfl, hb2⟩
  have HB2 := Lib.hid (HBx.out.trans (hb2.mono HBx.out.size))
  have HO2 := Lib.hid (HK.out.mono _ _ HOx.out hb2)
  have HX2 := Lib.hid ((hb2.block _ (lt_of_block HX.out)).trans HX.out)
  have HP2 : Hid (Calls Tryz.prog 13 #[.string ⟨badT.toArray⟩] w2 (ParsePost badT w2)) := Lib.hid (HK.out.parse badT w2 HO2.out)
  unfold ParsePost at HP2
  rw [bad_parse] at HP2
  unfold badT at HP2
  clear hb2 HT HA HX HBx HOx HB1 HO1 x0 x1 x2
  go_wp2_with fail
  refine HP2.out.mono ?_
  rintro e w3 ⟨v3, rfl, ⟨A3, B3, C3, ca3, cb3, cc3, rfl, _⟩, hb3⟩
  have f1 : Pg.none.ds.length = 0 := rfl
  have f2 : Pg.none.ws.length = 0 := rfl
  have f3 : Pg.none.fs.length = 0 := rfl
  simp only [f1, f2, f3]
  have HB3 := Lib.hid (HB2.out.trans (hb3.mono HB2.out.size))
  have HO3 := Lib.hid (HK.out.mono _ _ HO2.out hb3)
  have HX3 := Lib.hid ((hb3.block _ (lt_of_block HX2.out)).trans HX2.out)
  have hb4 : Below w3.heap.size w3 (w3.alloc (pgB A3 B3 C3 0 0 0 ca3 cb3 cc3)) := (Below.refl _ _).alloc (Nat.le_refl _) _
  have HX4 := Lib.hid ((hb4.block _ (lt_of_block HX3.out)).trans HX3.out)
  have HB4 := Lib.hid (HB3.out.trans (hb4.mono HB3.out.size))
  have HO4 := Lib.hid (HK.out.mono _ _ HO3.out hb4)
  obtain ⟨y0, y1, y2⟩ := pg_cells HX4.out
  clear hb3 hb4 HP2 HB2 HO2 HX2 HB3 HO3 HX3
  unfold pgB at HB4 HO4 y0 y1 y2
  have HL := fun W h => Lib.hid (HK.out.line 32 1 0 W h (by unfold I64; omega) (by unfold I64; omega) (by unfold I64; omega))
  unfold LinePost at HL
  rw [live_line] at HL
  have hT : (ByteArray.mk liveT.toArray).size = 49 := rfl
  go_wp2_with fail
  refine (HL _ HO4.out).out.mono ?_
  rintro e w5 ⟨rfl, hb5⟩
  have HB5 := Lib.hid (HB4.out.trans (hb5.mono HB4.out.size))
  clear hb5 y0 y1 y2
  go_wp2_with fail
  go_ret
  exact ⟨rfl, HB5.out⟩
end Go.Proofs.YtnhoeboighndlaaGreatDoor.pgm.asm

/-
  Rows that a call owns: of instructions, of waits, of functions; and append behind them. No condition.
-/
namespace Go.Proofs.YtnhoeboighndlaaGreatDoor.pgm
open Go.RowKit Go.ChangeShapes
open Go.Proofs.YtnhoeboighndlaaGreatDoor.objs (De zero CellsAt DAt flat flat_append flat_length flat_at flat_oneCell src_cells I64 Ints)
open Go.Proofs.YtnhoeboighndlaaGreatDoor.need (WAt OwnN OwnW)
set_option linter.unusedVariables false

/-- A slice's value of instructions, nil or a row of the call's own. -/
def OwnJ (w : World) (base : Nat) (v : Value) (l : List De) : Prop := w.ownsRow base 28 3 v l.length (flat l)
theorem OwnJ.nil (w : World) (base : Nat) : OwnJ w base (.slice none 0 0) [] := World.ownsRow_nil ..
theorem OwnJ.empty {w : World} {g : Nat} (h : w.heap[g]? = some (.cells #[] 28 (0, 0))) : OwnJ w g (.slice (some ⟨g, 0, none⟩) 0 0) [] :=
  ⟨rfl, .inr ⟨g, 0, #[], rfl, Nat.le_refl _, h, Nat.le_refl _, Nat.zero_le _, rfl, rfl⟩⟩
theorem OwnJ.slice {w : World} {base : Nat} {v : Value} {l : List De} (h : OwnJ w base v l) : ∃ A cap, v = .slice A l.length cap := by
  rcases h.2 with ⟨rfl, h0⟩ | ⟨g, cap, cur, rfl, _⟩
  · exact ⟨none, 0, by rw [h0]⟩
  · exact ⟨_, _, rfl⟩
theorem OwnJ.at {w : World} {base cap : Nat} {A : Option Addr} {l : List De} {n : Nat} (h : OwnJ w base (.slice A n cap) l) : DAt w A l := by
  intro j hj
  rcases h.2 with ⟨e, h0⟩ | ⟨g, cap', cur, e, hb, hh, _⟩
  · omega
  · injection e with e1 e2 e3
    subst e1
    obtain ⟨h1, h2, h3⟩ := flat_at l j hj
    refine ⟨g, 0, rfl, lt_of_block hh, ?_, ?_, ?_⟩
    · have := World.ownsRow.cells h (g := g) rfl _ _ h1
      rw [Addr.add_lit] at this
      simpa using this
    · have := World.ownsRow.cells h (g := g) rfl _ _ h2
      rw [Addr.add_lit] at this
      simpa using this
    · have := World.ownsRow.cells h (g := g) rfl _ _ h3
      rw [Addr.add_lit] at this
      simpa using this
theorem OwnJ.keep {w w' : World} {base : Nat} {v : Value} {l : List De} (h : OwnJ w base v l) (hk : ∀ g, v.ownBlock = some g → w'.heap[g]? = w.heap[g]?) : OwnJ w' base v l := by
  refine ⟨h.1, h.2.imp id ?_⟩
  rintro ⟨g, c, cur, rfl, hb, hh, r⟩
  exact ⟨g, c, cur, rfl, hb, (hk g rfl).trans hh, r⟩
theorem OwnJ.lt {w : World} {base g : Nat} {v : Value} {l : List De} (h : OwnJ w base v l) (hg : v.ownBlock = some g) : base ≤ g ∧ g < w.heap.size := World.ownsRow.lt h g hg
theorem OwnJ.next {w w' : World} {base : Nat} {v : Value} {l : List De} (h : OwnJ w base v l) (hb : Below w.heap.size w w') : OwnJ w' base v l := h.keep fun g hg => hb.block g (h.lt hg).2
theorem OwnJ.base {w : World} {base base' : Nat} {v : Value} {l : List De} (h : OwnJ w base v l) (hb : base' ≤ base) : OwnJ w base' v l := by
  refine ⟨h.1, h.2.imp id ?_⟩
  rintro ⟨g, c, cur, e, hb1, r⟩
  exact ⟨g, c, cur, e, Nat.le_trans hb hb1, r⟩

theorem infoJ : (Tryz.prog.info? 28).map (fun i => (i.zero, i.size, i.bytes)) = some (some (.agg #[.int .i64 0, .int .i64 0, .int .i64 0]), 3, 24) := by kernel_rfl

/-- A list that lies anywhere, put behind a row of a call's own. -/
theorem run_appJ (w : World) (ty : TypeId) (base m c : Nat) (v : Value) (A : Option Addr) (l r : List De) (hrow : OwnJ w base v l) (hm : m = r.length) (hA : A = none → r = [] ∧ c = 0) (hsrc : DAt w A r) (hlen : l.length + r.length ≤ 100000) (hbase : base ≤ w.heap.size) :
    ∃ v' w', (Builtin.append_ #[47, 47] ty #[v, .slice A m c]).run Tryz.prog w = .ok v' w' ∧ OwnJ w' base v' (l ++ r) ∧ w.grownBy w' v.ownBlock := by
  subst hm
  obtain ⟨i, hi, hz0, hz1, hz2⟩ := info_parts infoJ
  cases A with
  | none =>
    obtain ⟨rfl, rfl⟩ := hA rfl
    refine ⟨v, w, run_append_owned_none (P := Tryz.prog) (w := w) base 47 ty 28 i 3 Tryz.underlying47 hi v l.length (flat l) hrow, ?_, ⟨rfl, rfl, rfl, Nat.le_refl _, fun _ _ _ => rfl⟩⟩
    rw [List.append_nil]
    exact hrow
  | some ad =>
    obtain ⟨v', w', h1, h2, h3, _⟩ := run_append_own (P := Tryz.prog) w base 47 ty 28 i _ 3 24 Tryz.underlying47 hi hz0 hz1 hz2 rfl (by omega) v l.length (flat l) hrow ad r.length c (flat r) (flat_length r) (src_cells hsrc) (flat_oneCell r) (by unfold maxLen; omega) (by omega) hbase
    refine ⟨v', w', h1, ?_, h3⟩
    unfold OwnJ
    rw [List.length_append, flat_append]
    exact h2
theorem wp_appJ {o : Oper} {a : Act} {w : World} {K : Act → World → Prop} {Q : Exit → Act → World → Prop} (s x : Operand)
    (ho : o.op = .call { callee := .builtin .append, args := #[s, x], argTypes := #[47, 47] }) (base m c : Nat) (v : Value) (A : Option Addr) (l r : List De)
    (hs : a.eval s = v) (hrow : OwnJ w base v l) (hx : a.eval x = .slice A m c) (hm : m = r.length) (hA : A = none → r = [] ∧ c = 0) (hsrc : DAt w A r) (hlen : l.length + r.length ≤ 100000) (hbase : base ≤ w.heap.size)
    (h : ∀ v' w', OwnJ w' base v' (l ++ r) → w.grownBy w' v.ownBlock → K (a.put o.dst v') w') : o.wp Tryz.prog a w K Q := by
  obtain ⟨v', w', hr, h2, h3⟩ := run_appJ w o.type base m c v A l r hrow hm hA hsrc hlen hbase
  unfold Oper.wp execOp
  simp only [ho, resolve, invoke, builtin, Sem.run_bind, Sem.run_pure, Result.andThen_ok, List.map_toArray, List.map_cons, List.map_nil, hs, hx, hr]
  exact h v' w' h2 h3
theorem wpList_appJ {ops : Array Oper} {rest : List Oper} {o : Oper} {a : Act} {w : World} {Q : Exit → Act → World → Prop} (hgd : o.guard = none) (s x : Operand)
    (ho : o.op = .call { callee := .builtin .append, args := #[s, x], argTypes := #[47, 47] }) (base m c : Nat) (v : Value) (A : Option Addr) (l r : List De)
    (hs : a.eval s = v) (hrow : OwnJ w base v l) (hx : a.eval x = .slice A m c) (hm : m = r.length) (hA : A = none → r = [] ∧ c = 0) (hsrc : DAt w A r) (hlen : l.length + r.length ≤ 100000) (hbase : base ≤ w.heap.size)
    (h : ∀ v' w', OwnJ w' base v' (l ++ r) → w.grownBy w' v.ownBlock → wpList Tryz.prog ops Q rest (a.put o.dst v') w') : wpList Tryz.prog ops Q (o :: rest) a w :=
  wpList_plain hgd fun _ hK => wp_appJ s x ho base m c v A l r hs hrow hx hm hA hsrc hlen hbase fun v' w' h2 h3 => hK _ _ (h v' w' h2 h3)
theorem step_appJ {ops : Array Oper} {o : Oper} {a : Act} {w : World} {K : Act → World → Prop} {Q : Exit → Act → World → Prop} {E : Prop} (hgd : o.guard = none) (s x : Operand)
    (ho : o.op = .call { callee := .builtin .append, args := #[s, x], argTypes := #[47, 47] }) (base m c : Nat) (v : Value) (A : Option Addr) (l r : List De)
    (hs : a.eval s = v) (hrow : OwnJ w base v l) (hx : a.eval x = .slice A m c) (hm : m = r.length) (hA : A = none → r = [] ∧ c = 0) (hsrc : DAt w A r) (hlen : l.length + r.length ≤ 100000) (hbase : base ≤ w.heap.size)
    (h : ∀ v' w', OwnJ w' base v' (l ++ r) → w.grownBy w' v.ownBlock → K (a.put o.dst v') w') :
    if Region.wanted o (yielded ops a.tmps) = true then Oper.wp Tryz.prog o a w K Q else E := by
  have hw : Region.wanted o (yielded ops a.tmps) = true := by simp [Region.wanted, hgd]
  rw [if_pos hw]
  exact wp_appJ s x ho base m c v A l r hs hrow hx hm hA hsrc hlen hbase h
theorem DAt.oneJ {w : World} {g : Nat} {d : De} (h : w.heap[g]? = some (.cells #[.int .i64 d.1, .int .i64 d.2.1, .int .i64 d.2.2] 28 (0, 0))) : DAt w (some ⟨g, 0, none⟩) [d] := fun j hj => by
  obtain rfl : j = 0 := by simpa using hj
  refine ⟨g, 0, rfl, lt_of_block h, ?_, ?_, ?_⟩
  all_goals
    unfold World.cell?
    rw [h]
    rfl
/-- What a row of instructions holds: its block is one of instructions. -/
theorem OwnJ.kind {w : World} {base g : Nat} {v : Value} {l : List De} (h : OwnJ w base v l) (hg : v.ownBlock = some g) : ∃ cur, w.heap[g]? = some (.cells cur 28 (0, 0)) := by
  rcases h.2 with ⟨rfl, _⟩ | ⟨g', cap, cur, rfl, _, hh, _⟩
  · cases hg
  · simp [Value.ownBlock] at hg
    subst hg
    exact ⟨cur, hh⟩

/-- A row of ways stays where blocks of ways and of needs stay. -/
theorem _root_.Go.Proofs.YtnhoeboighndlaaGreatDoor.need.OwnW.kinds {w w' : World} {base : Nat} {v : Value} {l : List (List De)} (h : OwnW w base v l) (hk : ∀ g, g < w.heap.size → (∃ cur, w.heap[g]? = some (.cells cur 75 (0, 0)) ∨ w.heap[g]? = some (.cells cur 79 (0, 0))) → w'.heap[g]? = w.heap[g]?) : OwnW w' base v l := by
  obtain ⟨xs, h1, h2⟩ := h
  refine ⟨xs, ⟨h1.1, h1.2.imp id ?_⟩, fun j hj => ?_⟩
  · rintro ⟨g, c, cur, rfl, hg, hh, r⟩
    exact ⟨g, c, cur, rfl, hg, (hk g (lt_of_block hh) ⟨cur, .inl hh⟩).trans hh, r⟩
  · obtain ⟨x, h3, h4⟩ := h2 j hj
    exact ⟨x, h3, h4.keep fun g hg => hk g (h4.lt hg).2 (by obtain ⟨cur, h5⟩ := h4.kind hg; exact ⟨cur, .inr h5⟩)⟩

/-- A row of waits that a call owns, each of them a row of ways of the call's own. -/
def OwnV (W : World) (base : Nat) (v : Value) (l : List (List (List De))) : Prop :=
  ∃ xs : List Value, W.ownsRow base 45 1 v l.length xs ∧ ∀ j, j < l.length → ∃ x, xs[j]? = some x ∧ OwnW W base x (l.getD j [])
theorem OwnV.slice {w : World} {base : Nat} {v : Value} {l : List (List (List De))} (h : OwnV w base v l) : ∃ A cap, v = .slice A l.length cap := by
  obtain ⟨xs, h1, _⟩ := h
  rcases h1.2 with ⟨rfl, h0⟩ | ⟨g, cap, cur, rfl, _⟩
  · exact ⟨none, 0, by rw [h0]⟩
  · exact ⟨_, _, rfl⟩
theorem OwnV.next {w w' : World} {base : Nat} {v : Value} {l : List (List (List De))} (h : OwnV w base v l) (hb : Below w.heap.size w w') : OwnV w' base v l := by
  obtain ⟨xs, h1, h2⟩ := h
  refine ⟨xs, ?_, fun j hj => ?_⟩
  · refine ⟨h1.1, h1.2.imp id ?_⟩
    rintro ⟨g, c, cur, rfl, hg, hh, r⟩
    exact ⟨g, c, cur, rfl, hg, (hb.block g (lt_of_block hh)).trans hh, r⟩
  · obtain ⟨x, h3, h4⟩ := h2 j hj
    exact ⟨x, h3, h4.next hb⟩
theorem OwnV.nil (w : World) (base : Nat) : OwnV w base (.slice none 0 0) [] := ⟨[], World.ownsRow_nil .., fun j hj => absurd hj (Nat.not_lt_zero j)⟩
theorem OwnV.empty {w : World} {g : Nat} (h : w.heap[g]? = some (.cells #[] 45 (0, 0))) : OwnV w g (.slice (some ⟨g, 0, none⟩) 0 0) [] :=
  ⟨[], ⟨rfl, .inr ⟨g, 0, #[], rfl, Nat.le_refl _, h, Nat.le_refl _, Nat.zero_le _, rfl, rfl⟩⟩, fun j hj => absurd hj (Nat.not_lt_zero j)⟩
theorem OwnV.base {w : World} {base base' : Nat} {v : Value} {l : List (List (List De))} (h : OwnV w base v l) (hb : base' ≤ base) : OwnV w base' v l := by
  obtain ⟨xs, h1, h2⟩ := h
  refine ⟨xs, ⟨h1.1, h1.2.imp id ?_⟩, fun j hj => ?_⟩
  · rintro ⟨g, c, cur, e, hg, r⟩
    exact ⟨g, c, cur, e, Nat.le_trans hb hg, r⟩
  · obtain ⟨x, h3, h4⟩ := h2 j hj
    exact ⟨x, h3, h4.base hb⟩
theorem OwnV.at {w : World} {base cap : Nat} {A : Option Addr} {l : List (List (List De))} {n : Nat} (h : OwnV w base (.slice A n cap) l) : WsAt w A l := by
  intro j hj
  obtain ⟨xs, h1, h2⟩ := h
  obtain ⟨x, h3, h4⟩ := h2 j hj
  rcases h1.2 with ⟨e, h0⟩ | ⟨g, cap', cur, e, hb, hh, _⟩
  · omega
  · injection e with e1 e2 e3
    subst e1
    obtain ⟨Aj, cj, rfl⟩ := h4.slice
    refine ⟨g, 0, Aj, cj, rfl, lt_of_block hh, ?_, h4.at⟩
    have := World.ownsRow.cells h1 (g := g) rfl _ _ h3
    rw [Addr.add_lit] at this
    simpa using this
theorem OwnV.hold {w w' : World} {base : Nat} {v : Value} {l : List (List (List De))} (h : OwnV w base v l) (hk : ∀ g, base ≤ g → g < w.heap.size → w'.heap[g]? = w.heap[g]?) : OwnV w' base v l := by
  obtain ⟨xs, h1, h2⟩ := h
  refine ⟨xs, ⟨h1.1, h1.2.imp id ?_⟩, fun j hj => ?_⟩
  · rintro ⟨g, c, cur, rfl, hg, hh, r⟩
    exact ⟨g, c, cur, rfl, hg, (hk g hg (lt_of_block hh)).trans hh, r⟩
  · obtain ⟨x, h3, ys, h4, h5⟩ := h2 j hj
    refine ⟨x, h3, ys, ⟨h4.1, h4.2.imp id ?_⟩, fun i hi => ?_⟩
    · rintro ⟨g, c, cur, rfl, hg, hh, r⟩
      exact ⟨g, c, cur, rfl, hg, (hk g hg (lt_of_block hh)).trans hh, r⟩
    · obtain ⟨y, h6, h7⟩ := h5 i hi
      exact ⟨y, h6, h7.keep fun g hg => hk g (h7.lt hg).1 (h7.lt hg).2⟩
theorem infoV : (Tryz.prog.info? 45).map (fun i => (i.zero, i.size, i.bytes)) = some (some (.slice none 0 0), 1, 24) := by kernel_rfl

/-- One wait, in a block of its own, put behind a row of waits. -/
theorem run_appV (w w1 : World) (ty : TypeId) (base c : Nat) (v x : Value) (l : List (List (List De))) (r : List (List De)) (hrow : OwnV w base v l) (hx : OwnW w base x r) (hw1 : w1 = w.alloc (.cells #[x] 45)) (hlen : l.length ≤ 100000) (hbase : base ≤ w.heap.size) :
    ∃ v' w', (Builtin.append_ #[23, 23] ty #[v, .slice (some ⟨w.heap.size, 0, none⟩) 1 c]).run Tryz.prog w1 = .ok v' w' ∧ OwnV w' base v' (l ++ [r]) ∧ w1.grownBy w' v.ownBlock := by
  subst hw1
  obtain ⟨i, hi, hz0, hz1, hz2⟩ := info_parts infoV
  obtain ⟨xs, h1, h2⟩ := hrow
  have hb0 : Below w.heap.size w (w.alloc (.cells #[x] 45)) := (Below.refl _ w).alloc (Nat.le_refl _) _
  have hc : (w.alloc (.cells #[x] 45)).cell? ⟨w.heap.size, 0, none⟩ = some x := by
    unfold World.cell?
    rw [heap_alloc_new w _]
    rfl
  have hrow1 : (w.alloc (.cells #[x] 45)).ownsRow base 45 1 v l.length xs := by
    refine ⟨h1.1, h1.2.imp id ?_⟩
    rintro ⟨g, c, cur, rfl, hg, hh, r⟩
    exact ⟨g, c, cur, rfl, hg, (hb0.block g (lt_of_block hh)).trans hh, r⟩
  obtain ⟨Ax, cx, hxs⟩ := hx.slice
  obtain ⟨v', w', r1, r2, r3, _⟩ := run_append_own (P := Tryz.prog) (w.alloc (.cells #[x] 45)) base 23 ty 45 i _ 1 24 Tryz.underlying23 hi hz0 hz1 hz2 rfl (by omega) v l.length xs hrow1 ⟨w.heap.size, 0, none⟩ 1 c [x] rfl (by
      intro j u hu
      rcases j with _ | j
      · simp only [List.getElem?_cons_zero, Option.some.injEq] at hu
        subst hu
        rw [Addr.add_lit]
        exact hc
      · simp at hu) (by
      intro u hu
      simp only [List.mem_singleton] at hu
      subst hu
      rw [hxs]
      rfl) (by unfold maxLen; omega) (by omega) (by simp; omega)
  refine ⟨v', w', r1, ⟨xs ++ [x], ?_, fun j hj => ?_⟩, r3⟩
  · rw [List.length_append]
    exact r2
  · have hlx : xs.length = l.length := by have := h1.1; omega
    have keep : ∀ (y : Value) (r' : List (List De)), OwnW w base y r' → OwnW w' base y r' := fun y r' hy => hy.kinds fun g hlt hk => by
      rw [r3.block g (by have := hb0.size; omega) (fun e => ?_), hb0.block g hlt]
      rcases h1.2 with ⟨rfl, _⟩ | ⟨g', cap', cur', rfl, _, hh, _⟩
      · cases e
      · simp [Value.ownBlock] at e
        subst e
        obtain ⟨cur, hk | hk⟩ := hk
        · rw [hk] at hh
          injection hh with hh
          injection hh with _ hh _
          exact absurd hh (by decide)
        · rw [hk] at hh
          injection hh with hh
          injection hh with _ hh _
          exact absurd hh (by decide)
    rcases Nat.lt_or_ge j l.length with hj2 | hj2
    · obtain ⟨y, h3, h4⟩ := h2 j hj2
      refine ⟨y, by rw [List.getElem?_append_left (by omega)]; exact h3, ?_⟩
      rw [show (l ++ [r]).getD j [] = l.getD j [] from by rw [List.getD_eq_getElem?_getD, List.getD_eq_getElem?_getD, List.getElem?_append_left hj2]]
      exact keep _ _ h4
    · rw [List.length_append] at hj
      obtain rfl : j = l.length := by simp at hj; omega
      refine ⟨x, by rw [List.getElem?_append_right (by omega), hlx, Nat.sub_self]; rfl, ?_⟩
      rw [show (l ++ [r]).getD l.length [] = r from by rw [List.getD_eq_getElem?_getD, List.getElem?_append_right (Nat.le_refl _), Nat.sub_self]; rfl]
      exact keep _ _ hx
theorem wp_appV {o : Oper} {a : Act} {w w1 : World} {K : Act → World → Prop} {Q : Exit → Act → World → Prop} (s y : Operand)
    (ho : o.op = .call { callee := .builtin .append, args := #[s, y], argTypes := #[23, 23] }) (base c : Nat) (v x : Value) (l : List (List (List De))) (r : List (List De))
    (hs : a.eval s = v) (hrow : OwnV w base v l) (hy : a.eval y = .slice (some ⟨w.heap.size, 0, none⟩) 1 c) (hx : OwnW w base x r) (hw1 : w1 = w.alloc (.cells #[x] 45)) (hlen : l.length ≤ 100000) (hbase : base ≤ w.heap.size)
    (h : ∀ v' w', OwnV w' base v' (l ++ [r]) → w1.grownBy w' v.ownBlock → K (a.put o.dst v') w') : o.wp Tryz.prog a w1 K Q := by
  obtain ⟨v', w', hr, h2, h3⟩ := run_appV w w1 o.type base c v x l r hrow hx hw1 hlen hbase
  unfold Oper.wp execOp
  simp only [ho, resolve, invoke, builtin, Sem.run_bind, Sem.run_pure, Result.andThen_ok, List.map_toArray, List.map_cons, List.map_nil, hs, hy, hr]
  exact h v' w' h2 h3
theorem wpList_appV {ops : Array Oper} {rest : List Oper} {o : Oper} {a : Act} {w w1 : World} {Q : Exit → Act → World → Prop} (hgd : o.guard = none) (s y : Operand)
    (ho : o.op = .call { callee := .builtin .append, args := #[s, y], argTypes := #[23, 23] }) (base c : Nat) (v x : Value) (l : List (List (List De))) (r : List (List De))
    (hs : a.eval s = v) (hrow : OwnV w base v l) (hy : a.eval y = .slice (some ⟨w.heap.size, 0, none⟩) 1 c) (hx : OwnW w base x r) (hw1 : w1 = w.alloc (.cells #[x] 45)) (hlen : l.length ≤ 100000) (hbase : base ≤ w.heap.size)
    (h : ∀ v' w', OwnV w' base v' (l ++ [r]) → w1.grownBy w' v.ownBlock → wpList Tryz.prog ops Q rest (a.put o.dst v') w') : wpList Tryz.prog ops Q (o :: rest) a w1 :=
  wpList_plain hgd fun _ hK => wp_appV s y ho base c v x l r hs hrow hy hx hw1 hlen hbase fun v' w' h2 h3 => hK _ _ (h v' w' h2 h3)
theorem step_appV {ops : Array Oper} {o : Oper} {a : Act} {w w1 : World} {K : Act → World → Prop} {Q : Exit → Act → World → Prop} {E : Prop} (hgd : o.guard = none) (s y : Operand)
    (ho : o.op = .call { callee := .builtin .append, args := #[s, y], argTypes := #[23, 23] }) (base c : Nat) (v x : Value) (l : List (List (List De))) (r : List (List De))
    (hs : a.eval s = v) (hrow : OwnV w base v l) (hy : a.eval y = .slice (some ⟨w.heap.size, 0, none⟩) 1 c) (hx : OwnW w base x r) (hw1 : w1 = w.alloc (.cells #[x] 45)) (hlen : l.length ≤ 100000) (hbase : base ≤ w.heap.size)
    (h : ∀ v' w', OwnV w' base v' (l ++ [r]) → w1.grownBy w' v.ownBlock → K (a.put o.dst v') w') :
    if Region.wanted o (yielded ops a.tmps) = true then Oper.wp Tryz.prog o a w1 K Q else E := by
  have hw : Region.wanted o (yielded ops a.tmps) = true := by simp [Region.wanted, hgd]
  rw [if_pos hw]
  exact wp_appV s y ho base c v x l r hs hrow hy hx hw1 hlen hbase h

/-- A row of functions that a call owns, each one's code a row of instructions of the call's own. -/
def OwnF (W : World) (base : Nat) (v : Value) (l : List Fn) : Prop :=
  ∃ xs : List Value, W.ownsRow base 49 3 v l.length xs ∧ ∀ j, j < l.length → xs[j * 3]? = some (.int .i64 (l.getD j Fn.zero).ar) ∧ xs[j * 3 + 1]? = some (.int .i64 (l.getD j Fn.zero).lo) ∧ ∃ x, xs[j * 3 + 2]? = some x ∧ OwnJ W base x (l.getD j Fn.zero).co
theorem OwnF.slice {w : World} {base : Nat} {v : Value} {l : List Fn} (h : OwnF w base v l) : ∃ A cap, v = .slice A l.length cap := by
  obtain ⟨xs, h1, _⟩ := h
  rcases h1.2 with ⟨rfl, h0⟩ | ⟨g, cap, cur, rfl, _⟩
  · exact ⟨none, 0, by rw [h0]⟩
  · exact ⟨_, _, rfl⟩
theorem OwnF.hold {w w' : World} {base : Nat} {v : Value} {l : List Fn} (h : OwnF w base v l) (hk : ∀ g, base ≤ g → g < w.heap.size → w'.heap[g]? = w.heap[g]?) : OwnF w' base v l := by
  obtain ⟨xs, h1, h2⟩ := h
  refine ⟨xs, ⟨h1.1, h1.2.imp id ?_⟩, fun j hj => ?_⟩
  · rintro ⟨g, c, cur, rfl, hg, hh, r⟩
    exact ⟨g, c, cur, rfl, hg, (hk g hg (lt_of_block hh)).trans hh, r⟩
  · obtain ⟨e1, e2, x, h3, h4⟩ := h2 j hj
    exact ⟨e1, e2, x, h3, h4.keep fun g hg => hk g (h4.lt hg).1 (h4.lt hg).2⟩
theorem OwnF.next {w w' : World} {base : Nat} {v : Value} {l : List Fn} (h : OwnF w base v l) (hb : Below w.heap.size w w') : OwnF w' base v l := h.hold fun g _ hg => hb.block g hg
theorem OwnF.nil (w : World) (base : Nat) : OwnF w base (.slice none 0 0) [] := ⟨[], World.ownsRow_nil .., fun j hj => absurd hj (Nat.not_lt_zero j)⟩
theorem OwnF.base {w : World} {base base' : Nat} {v : Value} {l : List Fn} (h : OwnF w base v l) (hb : base' ≤ base) : OwnF w base' v l := by
  obtain ⟨xs, h1, h2⟩ := h
  refine ⟨xs, ⟨h1.1, h1.2.imp id ?_⟩, fun j hj => ?_⟩
  · rintro ⟨g, c, cur, e, hg, r⟩
    exact ⟨g, c, cur, e, Nat.le_trans hb hg, r⟩
  · obtain ⟨e1, e2, x, h3, h4⟩ := h2 j hj
    exact ⟨e1, e2, x, h3, h4.base hb⟩
theorem OwnF.at {w : World} {base cap : Nat} {A : Option Addr} {l : List Fn} {n : Nat} (h : OwnF w base (.slice A n cap) l) : FsAt w A l := by
  intro j hj
  obtain ⟨xs, h1, h2⟩ := h
  obtain ⟨e1, e2, x, h3, h4⟩ := h2 j hj
  rcases h1.2 with ⟨e, h0⟩ | ⟨g, cap', cur, e, hb, hh, _⟩
  · omega
  · injection e with q1 q2 q3
    subst q1
    obtain ⟨Aj, cj, rfl⟩ := h4.slice
    have at_ : ∀ i u, xs[i]? = some u → w.cell? ⟨g, 0 + i, none⟩ = some u := fun i u hu => by
      have := World.ownsRow.cells h1 (g := g) rfl _ _ hu
      rwa [Addr.add_lit] at this
    exact ⟨g, 0, Aj, cj, rfl, lt_of_block hh, ⟨at_ _ _ e1, at_ _ _ e2, at_ _ _ h3⟩, h4.at⟩
theorem infoF : (Tryz.prog.info? 49).map (fun i => (i.zero, i.size, i.bytes)) = some (some (.agg #[.int .i64 0, .int .i64 0, .slice none 0 0]), 3, 40) := by kernel_rfl
/-- One function, in a block of its own, put behind a row of functions. -/
theorem run_appF (w w1 : World) (ty : TypeId) (base c : Nat) (v x : Value) (l : List Fn) (f : Fn) (hrow : OwnF w base v l) (hx : OwnJ w base x f.co) (hw1 : w1 = w.alloc (.cells #[.int .i64 f.ar, .int .i64 f.lo, x] 49)) (hlen : l.length ≤ 100000) (hbase : base ≤ w.heap.size) :
    ∃ v' w', (Builtin.append_ #[24, 24] ty #[v, .slice (some ⟨w.heap.size, 0, none⟩) 1 c]).run Tryz.prog w1 = .ok v' w' ∧ OwnF w' base v' (l ++ [f]) ∧ w1.grownBy w' v.ownBlock := by
  subst hw1
  obtain ⟨i, hi, hz0, hz1, hz2⟩ := info_parts infoF
  obtain ⟨xs, h1, h2⟩ := hrow
  obtain ⟨F, hF⟩ : ∃ F : Obj, F = .cells #[.int .i64 f.ar, .int .i64 f.lo, x] 49 := ⟨_, rfl⟩
  rw [← hF]
  have hb0 : Below w.heap.size w (w.alloc F) := (Below.refl _ w).alloc (Nat.le_refl _) _
  have hnew : (w.alloc F).heap[w.heap.size]? = some F := heap_alloc_new w F
  have hc : ∀ (j : Nat) (u : Value), [Value.int .i64 f.ar, .int .i64 f.lo, x][j]? = some u → (w.alloc F).cell? ((⟨w.heap.size, 0, none⟩ : Addr).add j) = some u := by
    intro j u hu
    rw [Addr.add_lit, Nat.zero_add]
    unfold World.cell?
    rw [hnew, hF]
    rcases j with _ | _ | _ | j
    · simpa using hu
    · simpa using hu
    · simpa using hu
    · simp at hu
  have hrow1 : (w.alloc F).ownsRow base 49 3 v l.length xs := by
    refine ⟨h1.1, h1.2.imp id ?_⟩
    rintro ⟨g, c, cur, rfl, hg, hh, r⟩
    exact ⟨g, c, cur, rfl, hg, (hb0.block g (lt_of_block hh)).trans hh, r⟩
  obtain ⟨Ax, cx, hxs⟩ := hx.slice
  obtain ⟨v', w', r1, r2, r3, _⟩ := run_append_own (P := Tryz.prog) (w.alloc F) base 24 ty 49 i _ 3 40 Tryz.underlying24 hi hz0 hz1 hz2 rfl (by omega) v l.length xs hrow1 ⟨w.heap.size, 0, none⟩ 1 c [.int .i64 f.ar, .int .i64 f.lo, x] rfl hc (by
      intro u hu
      simp only [List.mem_cons, List.not_mem_nil, or_false] at hu
      rcases hu with rfl | rfl | rfl
      · rfl
      · rfl
      · rw [hxs]; rfl) (by unfold maxLen; omega) (by omega) (by simp; omega)
  refine ⟨v', w', r1, ⟨xs ++ [.int .i64 f.ar, .int .i64 f.lo, x], ?_, fun j hj => ?_⟩, r3⟩
  · rw [List.length_append]
    exact r2
  · have hlx : xs.length = l.length * 3 := by have := h1.1; omega
    have keep : ∀ (y : Value) (r' : List De), OwnJ w base y r' → OwnJ w' base y r' := fun y r' hy => hy.keep fun g hg => by
      have hlt := (hy.lt hg).2
      obtain ⟨cur, hk⟩ := hy.kind hg
      rw [r3.block g (by have := hb0.size; omega) (fun e => ?_), hb0.block g hlt]
      rcases h1.2 with ⟨rfl, _⟩ | ⟨g', cap', cur', rfl, _, hh, _⟩
      · cases e
      · simp [Value.ownBlock] at e
        subst e
        rw [hk] at hh
        injection hh with hh
        injection hh with _ hh _
        exact absurd hh (by decide)
    rcases Nat.lt_or_ge j l.length with hj2 | hj2
    · obtain ⟨e1, e2, y, h3, h4⟩ := h2 j hj2
      have hl1 : j * 3 + 2 < xs.length := by omega
      rw [show (l ++ [f]).getD j Fn.zero = l.getD j Fn.zero from at_left hj2]
      exact ⟨by rw [List.getElem?_append_left (by omega)]; exact e1, by rw [List.getElem?_append_left (by omega)]; exact e2, y, by rw [List.getElem?_append_left (by omega)]; exact h3, keep _ _ h4⟩
    · rw [List.length_append] at hj
      obtain rfl : j = l.length := by simp at hj; omega
      rw [show (l ++ [f]).getD l.length Fn.zero = f from at_last rfl, ← hlx]
      refine ⟨?_, ?_, x, ?_, keep _ _ hx⟩
      · rw [List.getElem?_append_right (Nat.le_refl _), Nat.sub_self]; rfl
      · rw [List.getElem?_append_right (by omega), Nat.add_sub_cancel_left]; rfl
      · rw [List.getElem?_append_right (by omega), Nat.add_sub_cancel_left]; rfl
theorem wp_appF {o : Oper} {a : Act} {w w1 : World} {K : Act → World → Prop} {Q : Exit → Act → World → Prop} (s y : Operand)
    (ho : o.op = .call { callee := .builtin .append, args := #[s, y], argTypes := #[24, 24] }) (base c : Nat) (v x : Value) (l : List Fn) (f : Fn)
    (hs : a.eval s = v) (hrow : OwnF w base v l) (hy : a.eval y = .slice (some ⟨w.heap.size, 0, none⟩) 1 c) (hx : OwnJ w base x f.co) (hw1 : w1 = w.alloc (.cells #[.int .i64 f.ar, .int .i64 f.lo, x] 49)) (hlen : l.length ≤ 100000) (hbase : base ≤ w.heap.size)
    (h : ∀ v' w', OwnF w' base v' (l ++ [f]) → w1.grownBy w' v.ownBlock → K (a.put o.dst v') w') : o.wp Tryz.prog a w1 K Q := by
  obtain ⟨v', w', hr, h2, h3⟩ := run_appF w w1 o.type base c v x l f hrow hx hw1 hlen hbase
  unfold Oper.wp execOp
  simp only [ho, resolve, invoke, builtin, Sem.run_bind, Sem.run_pure, Result.andThen_ok, List.map_toArray, List.map_cons, List.map_nil, hs, hy, hr]
  exact h v' w' h2 h3
theorem wpList_appF {ops : Array Oper} {rest : List Oper} {o : Oper} {a : Act} {w w1 : World} {Q : Exit → Act → World → Prop} (hgd : o.guard = none) (s y : Operand)
    (ho : o.op = .call { callee := .builtin .append, args := #[s, y], argTypes := #[24, 24] }) (base c : Nat) (v x : Value) (l : List Fn) (f : Fn)
    (hs : a.eval s = v) (hrow : OwnF w base v l) (hy : a.eval y = .slice (some ⟨w.heap.size, 0, none⟩) 1 c) (hx : OwnJ w base x f.co) (hw1 : w1 = w.alloc (.cells #[.int .i64 f.ar, .int .i64 f.lo, x] 49)) (hlen : l.length ≤ 100000) (hbase : base ≤ w.heap.size)
    (h : ∀ v' w', OwnF w' base v' (l ++ [f]) → w1.grownBy w' v.ownBlock → wpList Tryz.prog ops Q rest (a.put o.dst v') w') : wpList Tryz.prog ops Q (o :: rest) a w1 :=
  wpList_plain hgd fun _ hK => wp_appF s y ho base c v x l f hs hrow hy hx hw1 hlen hbase fun v' w' h2 h3 => hK _ _ (h v' w' h2 h3)
theorem step_appF {ops : Array Oper} {o : Oper} {a : Act} {w w1 : World} {K : Act → World → Prop} {Q : Exit → Act → World → Prop} {E : Prop} (hgd : o.guard = none) (s y : Operand)
    (ho : o.op = .call { callee := .builtin .append, args := #[s, y], argTypes := #[24, 24] }) (base c : Nat) (v x : Value) (l : List Fn) (f : Fn)
    (hs : a.eval s = v) (hrow : OwnF w base v l) (hy : a.eval y = .slice (some ⟨w.heap.size, 0, none⟩) 1 c) (hx : OwnJ w base x f.co) (hw1 : w1 = w.alloc (.cells #[.int .i64 f.ar, .int .i64 f.lo, x] 49)) (hlen : l.length ≤ 100000) (hbase : base ≤ w.heap.size)
    (h : ∀ v' w', OwnF w' base v' (l ++ [f]) → w1.grownBy w' v.ownBlock → K (a.put o.dst v') w') :
    if Region.wanted o (yielded ops a.tmps) = true then Oper.wp Tryz.prog o a w1 K Q else E := by
  have hw : Region.wanted o (yielded ops a.tmps) = true := by simp [Region.wanted, hgd]
  rw [if_pos hw]
  exact wp_appF s y ho base c v x l f hs hrow hy hx hw1 hlen hbase h
end Go.Proofs.YtnhoeboighndlaaGreatDoor.pgm

/-
  Rows that stay as they are while the blocks of an interval stay. No condition.
-/
namespace Go.Proofs.YtnhoeboighndlaaGreatDoor.pgm
open Go.RowKit Go.ChangeShapes
open Go.Proofs.YtnhoeboighndlaaGreatDoor.objs (De zero Own)
set_option linter.unusedVariables false

/-- What holds as long as the blocks of an interval stay. -/
def Stays (W : World) (lo hi : Nat) (p : World → Prop) : Prop := hi ≤ W.heap.size ∧ ∀ W' : World, W.heap.size ≤ W'.heap.size → (∀ g, lo ≤ g → g < hi → W'.heap[g]? = W.heap[g]?) → p W'
theorem Stays.now {W : World} {lo hi : Nat} {p : World → Prop} (h : Stays W lo hi p) : p W := h.2 W (Nat.le_refl _) fun _ _ _ => rfl
theorem Stays.keep {W W1 : World} {lo hi : Nat} {p : World → Prop} (h : Stays W lo hi p) (hs : W.heap.size ≤ W1.heap.size) (hk : ∀ g, lo ≤ g → g < hi → W1.heap[g]? = W.heap[g]?) : Stays W1 lo hi p :=
  ⟨Nat.le_trans h.1 hs, fun W' h1 h2 => h.2 W' (Nat.le_trans hs h1) fun g hl hg => (h2 g hl hg).trans (hk g hl hg)⟩
theorem Stays.next {W W1 : World} {lo hi : Nat} {p : World → Prop} (h : Stays W lo hi p) (hb : Below W.heap.size W W1) : Stays W1 lo hi p := h.keep hb.size fun g _ hg => hb.block g (Nat.lt_of_lt_of_le hg h.1)
theorem Own.stays {W : World} {base : Nat} {v : Value} {l : List De} (h : Own W base v l) : Stays W base W.heap.size (fun W' => Own W' base v l) := ⟨Nat.le_refl _, fun W' _ hk => h.keep fun g hg => hk g (h.lt hg).1 (h.lt hg).2⟩
theorem OwnV.stays {W : World} {base : Nat} {v : Value} {l : List (List (List De))} (h : OwnV W base v l) : Stays W base W.heap.size (fun W' => OwnV W' base v l) := ⟨Nat.le_refl _, fun W' _ hk => h.hold hk⟩

def pgB (a v u : Value) : Obj := .cells #[a, v, u] 26
abbrev sN : Value := .slice none 0 0
theorem pg_set1 {W : World} {b : Nat} {a v u : Value} (h : W.heap[b]? = some (pgB a v u)) (x : Value) : (W.setCell ⟨b, 1, none⟩ x).heap[b]? = some (pgB a x u) := by
  simp [World.setCell, Array.getElem?_modify, h, pgB]
theorem pg_set2 {W : World} {b : Nat} {a v u : Value} (h : W.heap[b]? = some (pgB a v u)) (x : Value) : (W.setCell ⟨b, 2, none⟩ x).heap[b]? = some (pgB a v x) := by
  simp [World.setCell, Array.getElem?_modify, h, pgB]
theorem OwnV.inB {w : World} {base g : Nat} {v : Value} {l : List (List (List De))} (h : OwnV w base v l) (hg : v.ownBlock = some g) : base ≤ g ∧ g < w.heap.size := by
  obtain ⟨xs, h1, _⟩ := h
  exact World.ownsRow.lt h1 g hg
theorem OwnF.inB {w : World} {base g : Nat} {v : Value} {l : List Fn} (h : OwnF w base v l) (hg : v.ownBlock = some g) : base ≤ g ∧ g < w.heap.size := by
  obtain ⟨xs, h1, _⟩ := h
  exact World.ownsRow.lt h1 g hg
theorem OwnV.kind {w : World} {base g : Nat} {v : Value} {l : List (List (List De))} (h : OwnV w base v l) (hg : v.ownBlock = some g) : ∃ cur, w.heap[g]? = some (.cells cur 45 (0, 0)) := by
  obtain ⟨xs, h1, _⟩ := h
  rcases h1.2 with ⟨rfl, _⟩ | ⟨g', cap, cur, rfl, _, hh, _⟩
  · cases hg
  · simp [Value.ownBlock] at hg
    subst hg
    exact ⟨cur, hh⟩
theorem OwnF.kind {w : World} {base g : Nat} {v : Value} {l : List Fn} (h : OwnF w base v l) (hg : v.ownBlock = some g) : ∃ cur, w.heap[g]? = some (.cells cur 49 (0, 0)) := by
  obtain ⟨xs, h1, _⟩ := h
  rcases h1.2 with ⟨rfl, _⟩ | ⟨g', cap, cur, rfl, _, hh, _⟩
  · cases hg
  · simp [Value.ownBlock] at hg
    subst hg
    exact ⟨cur, hh⟩
end Go.Proofs.YtnhoeboighndlaaGreatDoor.pgm
