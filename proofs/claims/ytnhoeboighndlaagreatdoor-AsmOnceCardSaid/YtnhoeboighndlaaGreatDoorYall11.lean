/-
  Texts of one claim in one file: DRefCheck, DTab, DArg, EMem. Each has its own sentence, with its conditions.
-/
import Derived.Test.YtnhoeboighndlaaGreatDoorYall10
import Derived.Test.YtnhoeboighndlaaGreatDoorYall9
import Derived.Test.YtnhoeboighndlaaGreatDoorYall1
/-
  The document's own answer where the first object stands that may not be, and why. No condition but that a list is no longer than an int can say.
-/
namespace Go.Proofs.YtnhoeboighndlaaGreatDoor.objs
open Go.RowKit Go.ChangeShapes
open Go.Proofs.YtnhoeboighndlaaGreatDoor.word (Word)
set_option linter.unusedVariables false

/-- What Check answers. -/
def ChkPost (p : Int × Nat) (w : World) (e : Ending) (w' : World) : Prop := e = .returned (.tuple #[.int .i64 p.1, .int .i64 (p.2 : Nat)]) ∧ Below w.heap.size w w'
set_option maxHeartbeats 1000000 in
theorem refCheck_long (A : Option Addr) (cap n : Nat) (hn : 32 < n) (w : World) :
    Calls Tryz.prog 16 #[.slice A n cap] w (ChkPost (0, 4) w) := by
  unfold ChkPost
  have hd : decide ((32 : Int) < (n : Int)) = true := by simp; omega
  clear hn
  go_enter Tryz.func16, Tryz.ntmps16
  go_wp2_with fail
  go_ret2
  exact ⟨rfl, Below.refl _ _⟩
set_option maxRecDepth 100000 in
set_option maxHeartbeats 4000000 in
theorem refCheck_any (A : Option Addr) (cap : Nat) (l : List De) (hl : l.length ≤ 9223372036854775807) (w : World) (hA : DAt w A l) :
    Calls Tryz.prog 16 #[.slice A l.length cap] w (ChkPost (chk l) w) := by
  by_cases h32 : 32 < l.length
  · rw [chk_long h32]
    exact refCheck_long A cap l.length h32 w
  · obtain ⟨p, hp⟩ : ∃ p, p = chk l := ⟨_, rfl⟩
    have HP := Lib.hid hp
    rw [← hp]
    unfold ChkPost
    have hd : decide ((32 : Int) < (l.length : Int)) = false := by simp; omega
    have HA := Lib.hid hA
    have H32 := Lib.hid h32
    clear hA h32 hp
    go_enter Tryz.func16, Tryz.ntmps16
    go_wp2_with fail
    go_loopw [4] (fun i wr => ∃ j : Nat, j ≤ l.length ∧ i = .int .i64 (j : Int) ∧ Hid (j ≤ bad l ∧ DAt wr A l ∧ Below w.heap.size w wr)) (fun i _ => l.length - (intOf i).toNat)
    case atStart => exact ⟨0, Nat.zero_le _, rfl, Lib.hid ⟨Nat.zero_le _, HA.out, Below.refl _ _⟩⟩
    case round =>
      obtain ⟨j, hj, rfl, HS⟩ := hrel
      by_cases hlt : j < l.length
      · have HO := Lib.hid (refOne_any A cap l (l.getD j zero) hl wr HS.out.2.1)
        obtain ⟨b, off, rfl, hb, c0, c1, c2⟩ := HS.out.2.1 j hlt
        have hlt' : (j : Int) < (l.length : Int) := by omega
        unfold OnePost at HO
        have HBad := fun h => Lib.hid (chk_bad H32.out HS.out.1 hlt h)
        have HNx := fun h => Lib.hid (bad_next HS.out.1 hlt h)
        generalize l.getD j zero = d at *
        generalize one l d = q at *
        by_cases hq : q = 0
        · subst hq
          have HE := HNx rfl
          clear HBad HNx
          go_wp2_with fail
          refine HO.out.mono ?_
          rintro e w1 ⟨rfl, hb1⟩
          have HS1 := Lib.hid (HS.out.2.1.next hb1)
          have HB1 := Lib.hid (HS.out.2.2.trans (hb1.mono HS.out.2.2.size))
          clear hb1 c0 c1 c2
          go_wp2
          go_roundw
          case rel => exact ⟨j + 1, by omega, by go_num, Lib.hid ⟨HE.out, HS1.out, HB1.out⟩⟩
          case measure => simp [intOf]; omega
        · have HE := HBad hq
          have hq' : ((q : Int) != 0) = true := by simpa using hq
          clear HBad HNx hq
          go_wp2_with fail
          refine HO.out.mono ?_
          rintro e w1 ⟨rfl, hb1⟩
          have HB1 := Lib.hid (HS.out.2.2.trans (hb1.mono HS.out.2.2.size))
          clear hb1 c0 c1 c2
          go_wp2
          go_ret2
          exact ⟨by rw [HP.out, HE.out]; rfl, HB1.out⟩
      · obtain rfl : j = l.length := by omega
        have HE := Lib.hid (chk_fine H32.out HS.out.1)
        go_wp2_with fail
        go_ret2
        exact ⟨by rw [HP.out, HE.out]; rfl, HS.out.2.2⟩
end Go.Proofs.YtnhoeboighndlaaGreatDoor.objs

/-
  The program's table of kinds' names lies where its initialiser lays it; with that: a kind's name, and whether there is such a kind (typed over the code of 392f5a9). The card ties the table to the program's text.
-/
namespace Go.Proofs.YtnhoeboighndlaaGreatDoor.objs
open Go.RowKit Go.ChangeShapes
set_option linter.unusedVariables false

/-- The table of names lies where its initialiser lays it. -/
def Tabd (w : World) : Prop := ∀ j, j < 8 → w.cell? ⟨0, j, none⟩ = some (.string (names.getD j ⟨#[]⟩))
theorem Tabd.below {B : Nat} {w w' : World} (h : Tabd w) (hb : Below B w w') (hB : 0 < B) : Tabd w' := fun j hj => (hb.cell (p := ⟨0, j, none⟩) hB).trans (h j hj)
/-- What the program's calls ask of the world: the table lies where it should, below all that is made. -/
def Okd (w : World) : Prop := Tabd w ∧ 0 < w.heap.size
theorem Okd.below {B : Nat} {w w' : World} (h : Okd w) (hb : Below B w w') (hB : 0 < B) : Okd w' := ⟨h.1.below hb hB, Nat.lt_of_lt_of_le h.2 hb.size⟩
theorem Okd.next {w w' : World} (h : Okd w) (hb : Below w.heap.size w w') : Okd w' := h.below hb h.2

theorem name_any (k : Int) (w : World) (hw : Okd w) : Calls Tryz.prog 22 #[.int .i64 k] w fun e w' => e = .returned (.string (nameK k)) ∧ w = w' := by
  by_cases h0 : k < 0
  · have HE : Hid (nameK k = ⟨#[]⟩) := Lib.hid (by unfold nameK; rw [if_neg (by omega)])
    rw [HE.out]
    have hd : decide (k < 0) = true := by simpa using h0
    go_enter Tryz.func22, Tryz.ntmps22
    go_wp2_with fail
    go_ret
    exact ⟨rfl, rfl⟩
  · have hd : decide (k < 0) = false := by simpa using h0
    by_cases h8 : 8 ≤ k
    · have HE : Hid (nameK k = ⟨#[]⟩) := Lib.hid (by unfold nameK; rw [if_neg (by omega)])
      rw [HE.out]
      have hd2 : decide (8 ≤ k) = true := by simpa using h8
      go_enter Tryz.func22, Tryz.ntmps22
      go_wp2_with fail
      go_ret
      exact ⟨rfl, rfl⟩
    · obtain ⟨m, rfl⟩ : ∃ m : Nat, k = (m : Int) := ⟨k.toNat, by omega⟩
      have hm : m < 8 := by omega
      have hc := hw.1 m hm
      have HE : Hid (nameK (m : Int) = names.getD m ⟨#[]⟩) := Lib.hid (by
        unfold nameK
        by_cases hz : m = 0
        · subst hz; rfl
        · rw [if_pos (by omega), Int.toNat_natCast])
      rw [HE.out]
      have hd2 : decide (8 ≤ (m : Int)) = false := by simpa using h8
      have hm8 : (m : Int) < 8 := by omega
      generalize names.getD m ⟨#[]⟩ = x at *
      clear hw h0 h8
      go_enter Tryz.func22, Tryz.ntmps22
      go_wp2_with fail
      go_ret
      exact ⟨rfl, rfl⟩

theorem named : ∀ k, k < 8 → (!(names.getD k ⟨#[]⟩).toList.isEmpty) = decide (1 ≤ k) := by decide +kernel
theorem name_there (k : Int) : (!(nameK k).toList.isEmpty) = decide (1 ≤ k ∧ k ≤ 7) := by
  unfold nameK
  by_cases h : 0 < k ∧ k < 8
  · rw [if_pos h, named _ (by omega)]
    congr 1
    apply propext
    omega
  · rw [if_neg h, decide_eq_false (by omega), ByteArray.toList_eq]
    rfl
theorem known_any (k : Int) (w : World) (hw : Okd w) : Calls Tryz.prog 85 #[.int .i64 k] w fun e w' => e = .returned (.bool (decide (1 ≤ k ∧ k ≤ 7))) ∧ w = w' := by
  have HN := Lib.hid (name_any k w hw)
  have HE := Lib.hid (name_there k)
  clear hw
  generalize nameK k = x at *
  go_enter Tryz.func85, Tryz.ntmps85
  go_wp2_with fail
  refine HN.out.mono ?_
  rintro e w' ⟨rfl, rfl⟩
  go_wp2
  go_ret
  exact ⟨ret_bool HE.out, rfl⟩
end Go.Proofs.YtnhoeboighndlaaGreatDoor.objs

/-
  A list of objects that came in, and what a copy of it leaves. No condition.
-/
namespace Go.Proofs.YtnhoeboighndlaaGreatDoor.objs
open Go.RowKit Go.ChangeShapes
set_option linter.unusedVariables false

/-- An int. -/
def I64 (n : Int) : Prop := -9223372036854775808 ≤ n ∧ n ≤ 9223372036854775807
def Ints (l : List De) : Prop := ∀ j, j < l.length → I64 (l.getD j zero).1 ∧ I64 (l.getD j zero).2.1 ∧ I64 (l.getD j zero).2.2
/-- A list that came in: of at most a hundred, or the first hundred of it. -/
def LIn (w : World) (A : Option Addr) (n cap : Nat) (l : List De) : Prop := (A = none → n = 0 ∧ cap = 0) ∧ n ≤ cap ∧ cap ≤ 9223372036854775807 ∧ DAt w A l ∧ Ints l ∧ l.length = min n 100
theorem own_new (W : World) : Own (W.alloc (.cells #[] 44)) W.heap.size (.slice (some ⟨W.heap.size, 0, none⟩) 0 0) [] := Own.empty (heap_alloc_new W _)
/-- Behind the copy: what is as it was, and the copy. -/
theorem own_copy {w W W2 : World} {A : Option Addr} {l : List De} {v2 : Value} {r : Option Nat} (hA : DAt w A l) (hb : Below w.heap.size w W) (h1 : Own W2 W.heap.size v2 l) (hg : (W.alloc (.cells #[] 44)).grownBy W2 r) (hr : ∀ k, r = some k → k = W.heap.size) :
    Below w.heap.size w W2 ∧ DAt W2 A l ∧ ∃ A2 c2, v2 = .slice A2 l.length c2 ∧ DAt W2 A2 l := by
  have hb2 : Below w.heap.size w W2 := (hb.alloc hb.size _).grown hg (by simp; have := hb.size; omega) (fun k e => by rw [hr k e]; exact hb.size)
  obtain ⟨A2, c2, rfl⟩ := h1.slice
  exact ⟨hb2, hA.next hb2, A2, c2, rfl, h1.at⟩

theorem DAt.two {w : World} {g : Nat} {d e : De} (h : w.heap[g]? = some (.cells #[.int .i64 d.1, .int .i64 d.2.1, .int .i64 d.2.2, .int .i64 e.1, .int .i64 e.2.1, .int .i64 e.2.2] 44 (0, 0))) : DAt w (some ⟨g, 0, none⟩) [d, e] := fun j hj => by
  have hj2 : j < 2 := hj
  refine ⟨g, 0, rfl, lt_of_block h, ?_⟩
  unfold CellsAt World.cell?
  rw [h]
  match j, hj2 with
  | 0, _ => exact ⟨rfl, rfl, rfl⟩
  | 1, _ => exact ⟨rfl, rfl, rfl⟩
end Go.Proofs.YtnhoeboighndlaaGreatDoor.objs

/-
  A wait as it lies in memory, wherever it came from; a row of needs, and a row of ways, that a call owns. No condition.
-/
namespace Go.Proofs.YtnhoeboighndlaaGreatDoor.need
open Go.RowKit Go.ChangeShapes
open Go.Proofs.YtnhoeboighndlaaGreatDoor.objs (De zero CellsAt DAt flat flat_append flat_length flat_at flat_oneCell src_cells I64 Ints)
set_option linter.unusedVariables false

/-- A slice's value of objects, nil or a row of the call's own. -/
def OwnN (w : World) (base : Nat) (v : Value) (l : List De) : Prop := w.ownsRow base 79 3 v l.length (flat l)
theorem OwnN.nil (w : World) (base : Nat) : OwnN w base (.slice none 0 0) [] := World.ownsRow_nil ..
theorem OwnN.empty {w : World} {g : Nat} (h : w.heap[g]? = some (.cells #[] 79 (0, 0))) : OwnN w g (.slice (some ⟨g, 0, none⟩) 0 0) [] :=
  ⟨rfl, .inr ⟨g, 0, #[], rfl, Nat.le_refl _, h, Nat.le_refl _, Nat.zero_le _, rfl, rfl⟩⟩
theorem OwnN.slice {w : World} {base : Nat} {v : Value} {l : List De} (h : OwnN w base v l) : ∃ A cap, v = .slice A l.length cap := by
  rcases h.2 with ⟨rfl, h0⟩ | ⟨g, cap, cur, rfl, _⟩
  · exact ⟨none, 0, by rw [h0]⟩
  · exact ⟨_, _, rfl⟩
theorem OwnN.at {w : World} {base cap : Nat} {A : Option Addr} {l : List De} {n : Nat} (h : OwnN w base (.slice A n cap) l) : DAt w A l := by
  intro j hj
  rcases h.2 with ⟨e, h0⟩ | ⟨g, cap', cur, e, hb, hh, _⟩
  · omega
  · injection e with e1 e2 e3
    subst e1
    obtain ⟨h1, h2, h3⟩ := flat_at l j hj
    refine ⟨g, 0, rfl, lt_of_block hh, ?_, ?_, ?_⟩
    · have := World.ownsRow.cells h (g := g) rfl _ _ h1
      rw [Addr.add_lit] at this
      simpa using this
    · have := World.ownsRow.cells h (g := g) rfl _ _ h2
      rw [Addr.add_lit] at this
      simpa using this
    · have := World.ownsRow.cells h (g := g) rfl _ _ h3
      rw [Addr.add_lit] at this
      simpa using this
theorem OwnN.keep {w w' : World} {base : Nat} {v : Value} {l : List De} (h : OwnN w base v l) (hk : ∀ g, v.ownBlock = some g → w'.heap[g]? = w.heap[g]?) : OwnN w' base v l := by
  refine ⟨h.1, h.2.imp id ?_⟩
  rintro ⟨g, c, cur, rfl, hb, hh, r⟩
  exact ⟨g, c, cur, rfl, hb, (hk g rfl).trans hh, r⟩
theorem OwnN.lt {w : World} {base g : Nat} {v : Value} {l : List De} (h : OwnN w base v l) (hg : v.ownBlock = some g) : base ≤ g ∧ g < w.heap.size := World.ownsRow.lt h g hg
theorem OwnN.next {w w' : World} {base : Nat} {v : Value} {l : List De} (h : OwnN w base v l) (hb : Below w.heap.size w w') : OwnN w' base v l := h.keep fun g hg => hb.block g (h.lt hg).2
theorem OwnN.base {w : World} {base base' : Nat} {v : Value} {l : List De} (h : OwnN w base v l) (hb : base' ≤ base) : OwnN w base' v l := by
  refine ⟨h.1, h.2.imp id ?_⟩
  rintro ⟨g, c, cur, e, hb1, r⟩
  exact ⟨g, c, cur, e, Nat.le_trans hb hb1, r⟩

theorem infoN : (Tryz.prog.info? 79).map (fun i => (i.zero, i.size, i.bytes)) = some (some (.agg #[.int .i64 0, .int .i64 0, .int .i64 0]), 3, 24) := by kernel_rfl

/-- A list that lies anywhere, put behind a row of a call's own. -/
theorem run_appN (w : World) (ty : TypeId) (base m c : Nat) (v : Value) (A : Option Addr) (l r : List De) (hrow : OwnN w base v l) (hm : m = r.length) (hA : A = none → r = [] ∧ c = 0) (hsrc : DAt w A r) (hlen : l.length + r.length ≤ 100000) (hbase : base ≤ w.heap.size) :
    ∃ v' w', (Builtin.append_ #[75, 75] ty #[v, .slice A m c]).run Tryz.prog w = .ok v' w' ∧ OwnN w' base v' (l ++ r) ∧ w.grownBy w' v.ownBlock := by
  subst hm
  obtain ⟨i, hi, hz0, hz1, hz2⟩ := info_parts infoN
  cases A with
  | none =>
    obtain ⟨rfl, rfl⟩ := hA rfl
    refine ⟨v, w, run_append_owned_none (P := Tryz.prog) (w := w) base 75 ty 79 i 3 Tryz.underlying75 hi v l.length (flat l) hrow, ?_, ⟨rfl, rfl, rfl, Nat.le_refl _, fun _ _ _ => rfl⟩⟩
    rw [List.append_nil]
    exact hrow
  | some ad =>
    obtain ⟨v', w', h1, h2, h3, _⟩ := run_append_own (P := Tryz.prog) w base 75 ty 79 i _ 3 24 Tryz.underlying75 hi hz0 hz1 hz2 rfl (by omega) v l.length (flat l) hrow ad r.length c (flat r) (flat_length r) (src_cells hsrc) (flat_oneCell r) (by unfold maxLen; omega) (by omega) hbase
    refine ⟨v', w', h1, ?_, h3⟩
    unfold OwnN
    rw [List.length_append, flat_append]
    exact h2
theorem wp_appN {o : Oper} {a : Act} {w : World} {K : Act → World → Prop} {Q : Exit → Act → World → Prop} (s x : Operand)
    (ho : o.op = .call { callee := .builtin .append, args := #[s, x], argTypes := #[75, 75] }) (base m c : Nat) (v : Value) (A : Option Addr) (l r : List De)
    (hs : a.eval s = v) (hrow : OwnN w base v l) (hx : a.eval x = .slice A m c) (hm : m = r.length) (hA : A = none → r = [] ∧ c = 0) (hsrc : DAt w A r) (hlen : l.length + r.length ≤ 100000) (hbase : base ≤ w.heap.size)
    (h : ∀ v' w', OwnN w' base v' (l ++ r) → w.grownBy w' v.ownBlock → K (a.put o.dst v') w') : o.wp Tryz.prog a w K Q := by
  obtain ⟨v', w', hr, h2, h3⟩ := run_appN w o.type base m c v A l r hrow hm hA hsrc hlen hbase
  unfold Oper.wp execOp
  simp only [ho, resolve, invoke, builtin, Sem.run_bind, Sem.run_pure, Result.andThen_ok, List.map_toArray, List.map_cons, List.map_nil, hs, hx, hr]
  exact h v' w' h2 h3
theorem wpList_appN {ops : Array Oper} {rest : List Oper} {o : Oper} {a : Act} {w : World} {Q : Exit → Act → World → Prop} (hgd : o.guard = none) (s x : Operand)
    (ho : o.op = .call { callee := .builtin .append, args := #[s, x], argTypes := #[75, 75] }) (base m c : Nat) (v : Value) (A : Option Addr) (l r : List De)
    (hs : a.eval s = v) (hrow : OwnN w base v l) (hx : a.eval x = .slice A m c) (hm : m = r.length) (hA : A = none → r = [] ∧ c = 0) (hsrc : DAt w A r) (hlen : l.length + r.length ≤ 100000) (hbase : base ≤ w.heap.size)
    (h : ∀ v' w', OwnN w' base v' (l ++ r) → w.grownBy w' v.ownBlock → wpList Tryz.prog ops Q rest (a.put o.dst v') w') : wpList Tryz.prog ops Q (o :: rest) a w :=
  wpList_plain hgd fun _ hK => wp_appN s x ho base m c v A l r hs hrow hx hm hA hsrc hlen hbase fun v' w' h2 h3 => hK _ _ (h v' w' h2 h3)
theorem step_appN {ops : Array Oper} {o : Oper} {a : Act} {w : World} {K : Act → World → Prop} {Q : Exit → Act → World → Prop} {E : Prop} (hgd : o.guard = none) (s x : Operand)
    (ho : o.op = .call { callee := .builtin .append, args := #[s, x], argTypes := #[75, 75] }) (base m c : Nat) (v : Value) (A : Option Addr) (l r : List De)
    (hs : a.eval s = v) (hrow : OwnN w base v l) (hx : a.eval x = .slice A m c) (hm : m = r.length) (hA : A = none → r = [] ∧ c = 0) (hsrc : DAt w A r) (hlen : l.length + r.length ≤ 100000) (hbase : base ≤ w.heap.size)
    (h : ∀ v' w', OwnN w' base v' (l ++ r) → w.grownBy w' v.ownBlock → K (a.put o.dst v') w') :
    if Region.wanted o (yielded ops a.tmps) = true then Oper.wp Tryz.prog o a w K Q else E := by
  have hw : Region.wanted o (yielded ops a.tmps) = true := by simp [Region.wanted, hgd]
  rw [if_pos hw]
  exact wp_appN s x ho base m c v A l r hs hrow hx hm hA hsrc hlen hbase h
theorem DAt.oneN {w : World} {g : Nat} {d : De} (h : w.heap[g]? = some (.cells #[.int .i64 d.1, .int .i64 d.2.1, .int .i64 d.2.2] 79 (0, 0))) : DAt w (some ⟨g, 0, none⟩) [d] := fun j hj => by
  obtain rfl : j = 0 := by simpa using hj
  refine ⟨g, 0, rfl, lt_of_block h, ?_, ?_, ?_⟩
  all_goals
    unfold World.cell?
    rw [h]
    rfl
/-- What a row of needs holds: its block is one of needs. -/
theorem OwnN.kind {w : World} {base g : Nat} {v : Value} {l : List De} (h : OwnN w base v l) (hg : v.ownBlock = some g) : ∃ cur, w.heap[g]? = some (.cells cur 79 (0, 0)) := by
  rcases h.2 with ⟨rfl, _⟩ | ⟨g', cap, cur, rfl, _, hh, _⟩
  · cases hg
  · simp [Value.ownBlock] at hg
    subst hg
    exact ⟨cur, hh⟩

/-- A list of ways, each a list of needs, from where a slice begins: all of it. -/
def WAt (w : World) (A : Option Addr) (l : List (List De)) : Prop :=
  ∀ j, j < l.length → ∃ b off Aj cj, A = some ⟨b, off, none⟩ ∧ b < w.heap.size ∧ w.cell? ⟨b, off + j, none⟩ = some (.slice Aj (l.getD j []).length cj) ∧ DAt w Aj (l.getD j [])
theorem WAt.next {w w' : World} {A : Option Addr} {l : List (List De)} (h : WAt w A l) (hb : Below w.heap.size w w') : WAt w' A l := fun j hj => by
  obtain ⟨b, off, Aj, cj, h1, h2, h3, h4⟩ := h j hj
  exact ⟨b, off, Aj, cj, h1, Nat.lt_of_lt_of_le h2 hb.size, (hb.cell (p := ⟨b, off + j, none⟩) h2).trans h3, h4.next hb⟩
theorem WAt.drew {w : World} {A : Option Addr} {l : List (List De)} (h : WAt w A l) : WAt w.drew A l := h
theorem WAt.drewN {w : World} {A : Option Addr} {l : List (List De)} (h : WAt w A l) : ∀ n, WAt (w.drewN n) A l
  | 0 => h
  | n + 1 => (WAt.drewN h n).drew
theorem WAt.nil (w : World) (A : Option Addr) : WAt w A [] := fun j hj => absurd hj (Nat.not_lt_zero j)
/-- The first six ways of a list, of each the first six needs, and how many there are. -/
def WG (w : World) (A : Option Addr) (n : Nat) (l : List (List De)) : Prop :=
  l.length = min n 6 ∧ ∀ j, j < l.length → ∃ b off Aj nj cj, A = some ⟨b, off, none⟩ ∧ b < w.heap.size ∧ w.cell? ⟨b, off + j, none⟩ = some (.slice Aj nj cj) ∧ DAt w Aj (l.getD j []) ∧ (l.getD j []).length = min nj 6 ∧ nj ≤ cj ∧ cj ≤ 9223372036854775807 ∧ (Aj = none → nj = 0 ∧ cj = 0)
theorem WG.next {w w' : World} {A : Option Addr} {n : Nat} {l : List (List De)} (h : WG w A n l) (hb : Below w.heap.size w w') : WG w' A n l := ⟨h.1, fun j hj => by
  obtain ⟨b, off, Aj, nj, cj, h1, h2, h3, h4, h5⟩ := h.2 j hj
  exact ⟨b, off, Aj, nj, cj, h1, Nat.lt_of_lt_of_le h2 hb.size, (hb.cell (p := ⟨b, off + j, none⟩) h2).trans h3, h4.next hb, h5⟩⟩
/-- One that is no longer is there whole. -/
theorem WG.whole {w : World} {A : Option Addr} {n : Nat} {l : List (List De)} (h : WG w A n l) (hl : l.length ≤ 5) (hw : ∀ x ∈ l, x.length ≤ 5) : n = l.length ∧ WAt w A l := by
  refine ⟨by have := h.1; omega, fun j hj => ?_⟩
  obtain ⟨b, off, Aj, nj, cj, h1, h2, h3, h4, h5, _⟩ := h.2 j hj
  have hm := hw _ (getW_mem hj)
  have : nj = (l.getD j []).length := by omega
  subst this
  exact ⟨b, off, Aj, cj, h1, h2, h3, h4⟩

/-- A row of ways that a call owns, each of them a row of needs of the call's own. -/
def OwnW (W : World) (base : Nat) (v : Value) (l : List (List De)) : Prop :=
  ∃ xs : List Value, W.ownsRow base 75 1 v l.length xs ∧ ∀ j, j < l.length → ∃ x, xs[j]? = some x ∧ OwnN W base x (l.getD j [])
theorem OwnW.slice {w : World} {base : Nat} {v : Value} {l : List (List De)} (h : OwnW w base v l) : ∃ A cap, v = .slice A l.length cap := by
  obtain ⟨xs, h1, _⟩ := h
  rcases h1.2 with ⟨rfl, h0⟩ | ⟨g, cap, cur, rfl, _⟩
  · exact ⟨none, 0, by rw [h0]⟩
  · exact ⟨_, _, rfl⟩
theorem OwnW.next {w w' : World} {base : Nat} {v : Value} {l : List (List De)} (h : OwnW w base v l) (hb : Below w.heap.size w w') : OwnW w' base v l := by
  obtain ⟨xs, h1, h2⟩ := h
  refine ⟨xs, ?_, fun j hj => ?_⟩
  · refine ⟨h1.1, h1.2.imp id ?_⟩
    rintro ⟨g, c, cur, rfl, hg, hh, r⟩
    exact ⟨g, c, cur, rfl, hg, (hb.block g (lt_of_block hh)).trans hh, r⟩
  · obtain ⟨x, h3, h4⟩ := h2 j hj
    exact ⟨x, h3, h4.next hb⟩
theorem OwnW.nil (w : World) (base : Nat) : OwnW w base (.slice none 0 0) [] := ⟨[], World.ownsRow_nil .., fun j hj => absurd hj (Nat.not_lt_zero j)⟩
theorem OwnW.empty {w : World} {g : Nat} (h : w.heap[g]? = some (.cells #[] 75 (0, 0))) : OwnW w g (.slice (some ⟨g, 0, none⟩) 0 0) [] :=
  ⟨[], ⟨rfl, .inr ⟨g, 0, #[], rfl, Nat.le_refl _, h, Nat.le_refl _, Nat.zero_le _, rfl, rfl⟩⟩, fun j hj => absurd hj (Nat.not_lt_zero j)⟩
theorem OwnW.base {w : World} {base base' : Nat} {v : Value} {l : List (List De)} (h : OwnW w base v l) (hb : base' ≤ base) : OwnW w base' v l := by
  obtain ⟨xs, h1, h2⟩ := h
  refine ⟨xs, ⟨h1.1, h1.2.imp id ?_⟩, fun j hj => ?_⟩
  · rintro ⟨g, c, cur, e, hg, r⟩
    exact ⟨g, c, cur, e, Nat.le_trans hb hg, r⟩
  · obtain ⟨x, h3, h4⟩ := h2 j hj
    exact ⟨x, h3, h4.base hb⟩
theorem OwnW.at {w : World} {base cap : Nat} {A : Option Addr} {l : List (List De)} {n : Nat} (h : OwnW w base (.slice A n cap) l) : WAt w A l := by
  intro j hj
  obtain ⟨xs, h1, h2⟩ := h
  obtain ⟨x, h3, h4⟩ := h2 j hj
  rcases h1.2 with ⟨e, h0⟩ | ⟨g, cap', cur, e, hb, hh, _⟩
  · omega
  · injection e with e1 e2 e3
    subst e1
    obtain ⟨Aj, cj, rfl⟩ := h4.slice
    refine ⟨g, 0, Aj, cj, rfl, lt_of_block hh, ?_, h4.at⟩
    have := World.ownsRow.cells h1 (g := g) rfl _ _ h3
    rw [Addr.add_lit] at this
    simpa using this
theorem infoW : (Tryz.prog.info? 75).map (fun i => (i.zero, i.size, i.bytes)) = some (some (.slice none 0 0), 1, 24) := by kernel_rfl

/-- One way, in a block of its own, put behind a row of ways. -/
theorem run_appW (w w1 : World) (ty : TypeId) (base c : Nat) (v x : Value) (l : List (List De)) (r : List De) (hrow : OwnW w base v l) (hx : OwnN w base x r) (hw1 : w1 = w.alloc (.cells #[x] 75)) (hlen : l.length ≤ 100000) (hbase : base ≤ w.heap.size) :
    ∃ v' w', (Builtin.append_ #[45, 45] ty #[v, .slice (some ⟨w.heap.size, 0, none⟩) 1 c]).run Tryz.prog w1 = .ok v' w' ∧ OwnW w' base v' (l ++ [r]) ∧ w1.grownBy w' v.ownBlock := by
  subst hw1
  obtain ⟨i, hi, hz0, hz1, hz2⟩ := info_parts infoW
  obtain ⟨xs, h1, h2⟩ := hrow
  have hb0 : Below w.heap.size w (w.alloc (.cells #[x] 75)) := (Below.refl _ w).alloc (Nat.le_refl _) _
  have hc : (w.alloc (.cells #[x] 75)).cell? ⟨w.heap.size, 0, none⟩ = some x := by
    unfold World.cell?
    rw [heap_alloc_new w _]
    rfl
  have hrow1 : (w.alloc (.cells #[x] 75)).ownsRow base 75 1 v l.length xs := by
    refine ⟨h1.1, h1.2.imp id ?_⟩
    rintro ⟨g, c, cur, rfl, hg, hh, r⟩
    exact ⟨g, c, cur, rfl, hg, (hb0.block g (lt_of_block hh)).trans hh, r⟩
  obtain ⟨Ax, cx, hxs⟩ := hx.slice
  obtain ⟨v', w', r1, r2, r3, _⟩ := run_append_own (P := Tryz.prog) (w.alloc (.cells #[x] 75)) base 45 ty 75 i _ 1 24 Tryz.underlying45 hi hz0 hz1 hz2 rfl (by omega) v l.length xs hrow1 ⟨w.heap.size, 0, none⟩ 1 c [x] rfl (by
      intro j u hu
      rcases j with _ | j
      · simp only [List.getElem?_cons_zero, Option.some.injEq] at hu
        subst hu
        rw [Addr.add_lit]
        exact hc
      · simp at hu) (by
      intro u hu
      simp only [List.mem_singleton] at hu
      subst hu
      rw [hxs]
      rfl) (by unfold maxLen; omega) (by omega) (by simp; omega)
  refine ⟨v', w', r1, ⟨xs ++ [x], ?_, fun j hj => ?_⟩, r3⟩
  · rw [List.length_append]
    exact r2
  · have hlx : xs.length = l.length := by have := h1.1; omega
    have keep : ∀ (y : Value) (r' : List De), OwnN w base y r' → OwnN w' base y r' := fun y r' hy => hy.keep fun g hg => by
      have hlt := (hy.lt hg).2
      obtain ⟨cur, hk⟩ := hy.kind hg
      rw [r3.block g (by have := hb0.size; omega) (fun e => ?_), hb0.block g hlt]
      rcases h1.2 with ⟨rfl, _⟩ | ⟨g', cap', cur', rfl, _, hh, _⟩
      · cases e
      · simp [Value.ownBlock] at e
        subst e
        rw [hk] at hh
        injection hh with hh
        injection hh with _ hh _
        exact absurd hh (by decide)
    rcases Nat.lt_or_ge j l.length with hj2 | hj2
    · obtain ⟨y, h3, h4⟩ := h2 j hj2
      refine ⟨y, by rw [List.getElem?_append_left (by omega)]; exact h3, ?_⟩
      rw [show (l ++ [r]).getD j [] = l.getD j [] from by rw [List.getD_eq_getElem?_getD, List.getD_eq_getElem?_getD, List.getElem?_append_left hj2]]
      exact keep _ _ h4
    · rw [List.length_append] at hj
      obtain rfl : j = l.length := by simp at hj; omega
      refine ⟨x, by rw [List.getElem?_append_right (by omega), hlx, Nat.sub_self]; rfl, ?_⟩
      rw [show (l ++ [r]).getD l.length [] = r from by rw [List.getD_eq_getElem?_getD, List.getElem?_append_right (Nat.le_refl _), Nat.sub_self]; rfl]
      exact keep _ _ hx
theorem wp_appW {o : Oper} {a : Act} {w w1 : World} {K : Act → World → Prop} {Q : Exit → Act → World → Prop} (s y : Operand)
    (ho : o.op = .call { callee := .builtin .append, args := #[s, y], argTypes := #[45, 45] }) (base c : Nat) (v x : Value) (l : List (List De)) (r : List De)
    (hs : a.eval s = v) (hrow : OwnW w base v l) (hy : a.eval y = .slice (some ⟨w.heap.size, 0, none⟩) 1 c) (hx : OwnN w base x r) (hw1 : w1 = w.alloc (.cells #[x] 75)) (hlen : l.length ≤ 100000) (hbase : base ≤ w.heap.size)
    (h : ∀ v' w', OwnW w' base v' (l ++ [r]) → w1.grownBy w' v.ownBlock → K (a.put o.dst v') w') : o.wp Tryz.prog a w1 K Q := by
  obtain ⟨v', w', hr, h2, h3⟩ := run_appW w w1 o.type base c v x l r hrow hx hw1 hlen hbase
  unfold Oper.wp execOp
  simp only [ho, resolve, invoke, builtin, Sem.run_bind, Sem.run_pure, Result.andThen_ok, List.map_toArray, List.map_cons, List.map_nil, hs, hy, hr]
  exact h v' w' h2 h3
theorem wpList_appW {ops : Array Oper} {rest : List Oper} {o : Oper} {a : Act} {w w1 : World} {Q : Exit → Act → World → Prop} (hgd : o.guard = none) (s y : Operand)
    (ho : o.op = .call { callee := .builtin .append, args := #[s, y], argTypes := #[45, 45] }) (base c : Nat) (v x : Value) (l : List (List De)) (r : List De)
    (hs : a.eval s = v) (hrow : OwnW w base v l) (hy : a.eval y = .slice (some ⟨w.heap.size, 0, none⟩) 1 c) (hx : OwnN w base x r) (hw1 : w1 = w.alloc (.cells #[x] 75)) (hlen : l.length ≤ 100000) (hbase : base ≤ w.heap.size)
    (h : ∀ v' w', OwnW w' base v' (l ++ [r]) → w1.grownBy w' v.ownBlock → wpList Tryz.prog ops Q rest (a.put o.dst v') w') : wpList Tryz.prog ops Q (o :: rest) a w1 :=
  wpList_plain hgd fun _ hK => wp_appW s y ho base c v x l r hs hrow hy hx hw1 hlen hbase fun v' w' h2 h3 => hK _ _ (h v' w' h2 h3)
theorem step_appW {ops : Array Oper} {o : Oper} {a : Act} {w w1 : World} {K : Act → World → Prop} {Q : Exit → Act → World → Prop} {E : Prop} (hgd : o.guard = none) (s y : Operand)
    (ho : o.op = .call { callee := .builtin .append, args := #[s, y], argTypes := #[45, 45] }) (base c : Nat) (v x : Value) (l : List (List De)) (r : List De)
    (hs : a.eval s = v) (hrow : OwnW w base v l) (hy : a.eval y = .slice (some ⟨w.heap.size, 0, none⟩) 1 c) (hx : OwnN w base x r) (hw1 : w1 = w.alloc (.cells #[x] 75)) (hlen : l.length ≤ 100000) (hbase : base ≤ w.heap.size)
    (h : ∀ v' w', OwnW w' base v' (l ++ [r]) → w1.grownBy w' v.ownBlock → K (a.put o.dst v') w') :
    if Region.wanted o (yielded ops a.tmps) = true then Oper.wp Tryz.prog o a w1 K Q else E := by
  have hw : Region.wanted o (yielded ops a.tmps) = true := by simp [Region.wanted, hgd]
  rw [if_pos hw]
  exact wp_appW s y ho base c v x l r hs hrow hy hx hw1 hlen hbase h
end Go.Proofs.YtnhoeboighndlaaGreatDoor.need
