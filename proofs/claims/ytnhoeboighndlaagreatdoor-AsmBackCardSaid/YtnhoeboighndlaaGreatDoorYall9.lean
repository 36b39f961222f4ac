/-
  Texts of one claim in one file: Span, JChk, DMem, DRefFits, DRefFit. Each has its own sentence, with its conditions.
-/
import Derived.Test.YtnhoeboighndlaaGreatDoorYall8
import Derived.LoopTactic
import Derived.Outline
import Derived.Test.YtnhoeboighndlaaGreatDoorYall6
import Derived.Test.YtnhoeboighndlaaGreatDoorProg
import Derived.Test.YtnhoeboighndlaaGreatDoorYall2
import Derived.WalkKit
import Derived.ProofKit
import Derived.IntWalk
import Derived.Lib.Hide
import Derived.Below
import Derived.OwnWalk
import Derived.Deep.RegionLaw
import Derived.Deep.AppendLies
import Derived.Laws.AppendOwnNone
import Derived.Maps.AppendAt
import Derived.Deep.QuietTactic
import Derived.BigQuiet
import Derived.Deep.Cut
import Derived.Deep.CutBlock
import Derived.Deep.DeepCutAuto
import Derived.Deep.RegionHeld3
/-
  Package span: a number that is read, held below two to the thirty-first, and whether a number lies in a span ; what is wrong with how many there are (typed over the code of 4b95722). A text of at most two to the forty-seventh bytes.
-/
namespace Go.Proofs.YtnhoeboighndlaaGreatDoor.span
open Go.RowKit Go.ChangeShapes
open Go.Proofs.YtnhoeboighndlaaGreatDoor.octet (St Frm rdNum)
set_option linter.unusedVariables false

theorem ret_int {k : IntKind} {a b : Int} (h : a = b) : Ending.returned (.int k a) = .returned (.int k b) := by rw [h]
theorem within_any (v lo hi : Int) (w : World) : Calls Tryz.prog 75 #[.int .i64 v, .int .i64 lo, .int .i64 hi] w fun e w' => e = .returned (.bool (decide (lo ≤ v ∧ v ≤ hi))) ∧ w = w' := by
  by_cases h1 : lo ≤ v
  · by_cases h2 : v ≤ hi
    · rw [decide_eq_true ⟨h1, h2⟩]
      go_enter Tryz.func75, Tryz.ntmps75
      go_wp2
      go_ret
      exact ⟨rfl, rfl⟩
    · rw [decide_eq_false (fun h => h2 h.2)]
      have hd : decide (v ≤ hi) = false := by simpa using h2
      go_enter Tryz.func75, Tryz.ntmps75
      go_wp2
      go_ret
      exact ⟨rfl, rfl⟩
  · rw [decide_eq_false (fun h => h1 h.1)]
    have hd : decide (lo ≤ v) = false := by simpa using h1
    go_enter Tryz.func75, Tryz.ntmps75
    go_wp2
    go_ret
    exact ⟨rfl, rfl⟩

/-- A number as it is read here: a great one is two to the thirty-first less one. -/
def pN (s : St) : Int × St := (((min (rdNum s).1 2147483647 : Nat) : Int), (rdNum s).2)
/-- What is wrong with how many there are, where there may be as many as m. -/
def cntC (n m : Nat) : Nat := if n = 0 then 2 else if m < n then 4 else 0
theorem count_any (n m : Nat) (w : World) : Calls Tryz.prog 67 #[.int .i64 (n : Int), .int .i64 (m : Int)] w fun e w' => e = .returned (.int .i64 ((cntC n m : Nat) : Int)) ∧ w = w' := by
  unfold cntC
  by_cases h0 : n = 0
  · subst h0
    go_enter Tryz.func67, Tryz.ntmps67
    go_wp2
    go_ret
    exact ⟨rfl, rfl⟩
  · rw [if_neg h0]
    have e0 : ((n : Int) == 0) = false := by simp; omega
    by_cases h4 : m < n
    · rw [if_pos h4]
      have e4 : decide ((m : Int) < (n : Int)) = true := by simp; omega
      have e5 : decide (m < n) = true := by simp; omega
      clear h0 h4
      go_enter Tryz.func67, Tryz.ntmps67
      go_wp2
      go_ret
      exact ⟨rfl, rfl⟩
    · rw [if_neg h4]
      have e4 : decide ((m : Int) < (n : Int)) = false := by simp; omega
      have e5 : decide (m < n) = false := by simp; omega
      clear h0 h4
      go_enter Tryz.func67, Tryz.ntmps67
      go_wp2
      go_ret
      exact ⟨rfl, rfl⟩
end Go.Proofs.YtnhoeboighndlaaGreatDoor.span

/-
  The program's own check of an instruction (typed over the code of 392f5a9): for every instruction. The table of names must lie where its initialiser lays it.
-/
namespace Go.Proofs.YtnhoeboighndlaaGreatDoor.inst
open Go.RowKit Go.ChangeShapes
open Go.Proofs.YtnhoeboighndlaaGreatDoor.oper (ret_int ret_bool ret_string Tab nm txt)
open Go.Proofs.YtnhoeboighndlaaGreatDoor.word (Word)
set_option linter.unusedVariables false

/-- What the program's calls ask of the world: the table of names lies where it should, below all that is made. -/
def Okw (w : World) : Prop := Tab w ∧ 1 < w.heap.size
theorem Okw.below {B : Nat} {w w' : World} (h : Okw w) (hb : Below B w w') (hB : 1 < B) : Okw w' := ⟨h.1.below hb hB, Nat.lt_of_lt_of_le h.2 hb.size⟩
theorem Okw.next {w w' : World} (h : Okw w) (hb : Below w.heap.size w w') : Okw w' := h.below hb h.2

theorem u8_of {c : UInt8} {k : UInt8} (h : ((c.toNat : Int) == (k.toNat : Int)) = true) : c = k := by
  have h1 := eq_of_beq h
  exact UInt8.toNat_inj.1 (by omega)
theorem u8_not {c : UInt8} {k : UInt8} (h : ((c.toNat : Int) == (k.toNat : Int)) = false) : c ≠ k := fun e => by
  subst e
  simp at h
theorem fits_bad {c : UInt8} {v : Int} (h0 : ((c.toNat : Int) == 110) = false) : fitsB c v = decide (least c ≤ v ∧ v ≤ most c) := by
  unfold fitsB
  rw [if_neg (u8_not (k := 110) h0)]
theorem fits_k (c : UInt8) (lo hi v : Int) (h : c ≠ 110) (h1 : least c = lo) (h2 : most c = hi) : (decide (lo ≤ v) && decide (v ≤ hi)) = fitsB c v := by
  unfold fitsB
  rw [if_neg h, h1, h2, Bool.decide_and]
theorem fits_n (v : Int) : decide (Word v) = fitsB 110 v := by
  unfold fitsB
  rw [if_pos rfl]
theorem fits_rest {c : UInt8} {v : Int} (h0 : ((c.toNat : Int) == 110) = false) (h1 : ((c.toNat : Int) == 107) = false) (h2 : ((c.toNat : Int) == 116) = false) (h3 : ((c.toNat : Int) == 102) = false) (h4 : ((c.toNat : Int) == 106) = false) :
    fitsB c v = (decide (0 ≤ v) && decide (v ≤ 31)) := by
  rw [fits_bad h0]
  unfold least most
  rw [Bool.decide_and, if_neg (u8_not (k := 106) h4), if_neg (u8_not (k := 107) h1), if_neg (u8_not (k := 116) h2), if_neg (u8_not (k := 102) h3), if_neg (u8_not (k := 106) h4)]

set_option maxHeartbeats 1000000 in
theorem inRange_any (c : UInt8) (v : Int) (w : World) : Calls Tryz.prog 48 #[.int .u8 (c.toNat : Int), .int .i64 v] w fun e w' => e = .returned (.bool (fitsB c v)) ∧ w = w' := by
  go_enter Tryz.func48, Tryz.ntmps48
  go_wp2_with (first
    | (go_at_call 75; refine (Go.Proofs.YtnhoeboighndlaaGreatDoor.span.within_any v _ _ _).mono ?_; rintro e w' ⟨rfl, rfl⟩)
    | (go_at_call 74; refine (Go.Proofs.YtnhoeboighndlaaGreatDoor.word.fits_any v _).mono ?_; rintro e w' ⟨rfl, rfl⟩))
  all_goals go_ret
  all_goals refine ⟨ret_bool ?_, rfl⟩
  all_goals first
    | (have hq : c = 110 := u8_of (k := 110) ‹((c.toNat : Int) == 110) = true›; subst hq; first | exact fits_n v | (refine fits_k _ _ _ v ?_ ?_ ?_ <;> decide))
    | (have hq : c = 107 := u8_of (k := 107) ‹((c.toNat : Int) == 107) = true›; subst hq; first | exact fits_n v | (refine fits_k _ _ _ v ?_ ?_ ?_ <;> decide))
    | (have hq : c = 116 := u8_of (k := 116) ‹((c.toNat : Int) == 116) = true›; subst hq; first | exact fits_n v | (refine fits_k _ _ _ v ?_ ?_ ?_ <;> decide))
    | (have hq : c = 102 := u8_of (k := 102) ‹((c.toNat : Int) == 102) = true›; subst hq; first | exact fits_n v | (refine fits_k _ _ _ v ?_ ?_ ?_ <;> decide))
    | (have hq : c = 119 := u8_of (k := 119) ‹((c.toNat : Int) == 119) = true›; subst hq; first | exact fits_n v | (refine fits_k _ _ _ v ?_ ?_ ?_ <;> decide))
    | (have hq : c = 106 := u8_of (k := 106) ‹((c.toNat : Int) == 106) = true›; subst hq; first | exact fits_n v | (refine fits_k _ _ _ v ?_ ?_ ?_ <;> decide))
    | exact (fits_rest ‹_› ‹_› ‹_› ‹_› ‹_›).symm

theorem named : ∀ k, k < 52 → (!(nm.getD k ⟨#[]⟩).toList.isEmpty) = true := by decide +kernel
theorem txt_named (o : Int) : (!(txt nm o).toList.isEmpty) = decide (Known o) := by
  by_cases h : Known o
  · rw [decide_eq_true h]
    obtain ⟨k, hk, rfl⟩ := Go.Proofs.YtnhoeboighndlaaGreatDoor.oper.nat_of h
    rw [Go.Proofs.YtnhoeboighndlaaGreatDoor.oper.txt_at hk]
    exact named k hk
  · rw [decide_eq_false h, Go.Proofs.YtnhoeboighndlaaGreatDoor.oper.txt_no (by unfold Known at h; omega)]
    rw [ByteArray.toList_eq]
    rfl
theorem knows_any (o : Int) (w : World) (hT : Tab w) : Calls Tryz.prog 46 #[.int .i64 o] w fun e w' => e = .returned (.bool (decide (Known o))) ∧ w = w' := by
  have HN := Lib.hid (Go.Proofs.YtnhoeboighndlaaGreatDoor.oper.name_any o w hT)
  have HE := Lib.hid (txt_named o)
  clear hT
  generalize txt nm o = x at *
  go_enter Tryz.func46, Tryz.ntmps46
  go_wp2_with fail
  refine HN.out.mono ?_
  rintro e w' ⟨rfl, rfl⟩
  go_wp2
  go_ret
  exact ⟨ret_bool HE.out, rfl⟩
end Go.Proofs.YtnhoeboighndlaaGreatDoor.inst

/-
  A list of objects as it lies in memory, wherever it came from; and a row of them that a call owns. No condition.
-/
namespace Go.Proofs.YtnhoeboighndlaaGreatDoor.objs
open Go.RowKit Go.ChangeShapes
set_option linter.unusedVariables false

/-- The three cells of an object. -/
def CellsAt (w : World) (b i : Nat) (d : De) : Prop := w.cell? ⟨b, i, none⟩ = some (.int .i64 d.1) ∧ w.cell? ⟨b, i + 1, none⟩ = some (.int .i64 d.2.1) ∧ w.cell? ⟨b, i + 2, none⟩ = some (.int .i64 d.2.2)
/-- A list of objects, one behind the other, from where a slice begins. -/
def DAt (w : World) (A : Option Addr) (l : List De) : Prop := ∀ j, j < l.length → ∃ b off, A = some ⟨b, off, none⟩ ∧ b < w.heap.size ∧ CellsAt w b (off + j * 3) (l.getD j zero)
theorem CellsAt.keep {w w' : World} {b i : Nat} {d : De} (h : CellsAt w b i d) (hb : w'.heap[b]? = w.heap[b]?) : CellsAt w' b i d :=
  ⟨(World.cell?_of_block (a := ⟨b, i, none⟩) hb).trans h.1, (World.cell?_of_block (a := ⟨b, i + 1, none⟩) hb).trans h.2.1, (World.cell?_of_block (a := ⟨b, i + 2, none⟩) hb).trans h.2.2⟩
theorem DAt.next {w w' : World} {A : Option Addr} {l : List De} (h : DAt w A l) (hb : Below w.heap.size w w') : DAt w' A l := fun j hj => by
  obtain ⟨b, off, h1, h2, h3⟩ := h j hj
  exact ⟨b, off, h1, Nat.lt_of_lt_of_le h2 hb.size, h3.keep (hb.block b h2)⟩
theorem DAt.drew {w : World} {A : Option Addr} {l : List De} (h : DAt w A l) : DAt w.drew A l := h
theorem DAt.drewN {w : World} {A : Option Addr} {l : List De} (h : DAt w A l) : ∀ n, DAt (w.drewN n) A l
  | 0 => h
  | n + 1 => (DAt.drewN h n).drew
theorem DAt.nil (w : World) (A : Option Addr) : DAt w A [] := fun j hj => absurd hj (Nat.not_lt_zero j)
theorem DAt.take {w : World} {A : Option Addr} {l : List De} (h : DAt w A l) (n : Nat) : DAt w A (l.take n) := fun j hj => by
  rw [List.length_take] at hj
  obtain ⟨b, off, h1, h2, h3⟩ := h j (by omega)
  refine ⟨b, off, h1, h2, ?_⟩
  rwa [List.getD_eq_getElem?_getD, List.getElem?_take_of_lt (by omega), ← List.getD_eq_getElem?_getD]

/-- Objects, cell by cell. -/
def flat (l : List De) : List Value := l.flatMap fun d => [.int .i64 d.1, .int .i64 d.2.1, .int .i64 d.2.2]
theorem flat_append (l r : List De) : flat (l ++ r) = flat l ++ flat r := by simp [flat]
theorem flat_cons (d : De) (l : List De) : flat (d :: l) = .int .i64 d.1 :: .int .i64 d.2.1 :: .int .i64 d.2.2 :: flat l := by simp [flat]
theorem flat_length (l : List De) : (flat l).length = l.length * 3 := by
  induction l with
  | nil => rfl
  | cons d l ih => rw [flat_cons]; simp only [List.length_cons, ih]; omega
theorem flat_oneCell (l : List De) : ∀ u ∈ flat l, u.oneCell' = true := by
  intro u hu
  simp only [flat, List.mem_flatMap] at hu
  obtain ⟨d, _, hd⟩ := hu
  simp only [List.mem_cons, List.not_mem_nil, or_false] at hd
  rcases hd with rfl | rfl | rfl <;> rfl
theorem flat_at (l : List De) : ∀ j, j < l.length → (flat l)[j * 3]? = some (.int .i64 (l.getD j zero).1) ∧ (flat l)[j * 3 + 1]? = some (.int .i64 (l.getD j zero).2.1) ∧ (flat l)[j * 3 + 2]? = some (.int .i64 (l.getD j zero).2.2) := by
  induction l with
  | nil => intro j hj; exact absurd hj (Nat.not_lt_zero j)
  | cons d l ih =>
    intro j hj
    rw [flat_cons]
    cases j with
    | zero => exact ⟨rfl, rfl, rfl⟩
    | succ j =>
      obtain ⟨h1, h2, h3⟩ := ih j (by simpa using hj)
      rw [show (j + 1) * 3 = j * 3 + 1 + 1 + 1 from by omega]
      exact ⟨h1, h2, h3⟩

/-- A slice's value of objects, nil or a row of the call's own. -/
def Own (w : World) (base : Nat) (v : Value) (l : List De) : Prop := w.ownsRow base 44 3 v l.length (flat l)
theorem Own.nil (w : World) (base : Nat) : Own w base (.slice none 0 0) [] := World.ownsRow_nil ..
theorem Own.empty {w : World} {g : Nat} (h : w.heap[g]? = some (.cells #[] 44 (0, 0))) : Own w g (.slice (some ⟨g, 0, none⟩) 0 0) [] :=
  ⟨rfl, .inr ⟨g, 0, #[], rfl, Nat.le_refl _, h, Nat.le_refl _, Nat.zero_le _, rfl, rfl⟩⟩
theorem Own.slice {w : World} {base : Nat} {v : Value} {l : List De} (h : Own w base v l) : ∃ A cap, v = .slice A l.length cap := by
  rcases h.2 with ⟨rfl, h0⟩ | ⟨g, cap, cur, rfl, _⟩
  · exact ⟨none, 0, by rw [h0]⟩
  · exact ⟨_, _, rfl⟩
theorem Own.at {w : World} {base cap : Nat} {A : Option Addr} {l : List De} {n : Nat} (h : Own w base (.slice A n cap) l) : DAt w A l := by
  intro j hj
  rcases h.2 with ⟨e, h0⟩ | ⟨g, cap', cur, e, hb, hh, _⟩
  · omega
  · injection e with e1 e2 e3
    subst e1
    obtain ⟨h1, h2, h3⟩ := flat_at l j hj
    refine ⟨g, 0, rfl, lt_of_block hh, ?_, ?_, ?_⟩
    · have := World.ownsRow.cells h (g := g) rfl _ _ h1
      rw [Addr.add_lit] at this
      simpa using this
    · have := World.ownsRow.cells h (g := g) rfl _ _ h2
      rw [Addr.add_lit] at this
      simpa using this
    · have := World.ownsRow.cells h (g := g) rfl _ _ h3
      rw [Addr.add_lit] at this
      simpa using this
theorem Own.keep {w w' : World} {base : Nat} {v : Value} {l : List De} (h : Own w base v l) (hk : ∀ g, v.ownBlock = some g → w'.heap[g]? = w.heap[g]?) : Own w' base v l := by
  refine ⟨h.1, h.2.imp id ?_⟩
  rintro ⟨g, c, cur, rfl, hb, hh, r⟩
  exact ⟨g, c, cur, rfl, hb, (hk g rfl).trans hh, r⟩
theorem Own.lt {w : World} {base g : Nat} {v : Value} {l : List De} (h : Own w base v l) (hg : v.ownBlock = some g) : base ≤ g ∧ g < w.heap.size := World.ownsRow.lt h g hg
theorem Own.next {w w' : World} {base : Nat} {v : Value} {l : List De} (h : Own w base v l) (hb : Below w.heap.size w w') : Own w' base v l := h.keep fun g hg => hb.block g (h.lt hg).2
theorem Own.base {w : World} {base base' : Nat} {v : Value} {l : List De} (h : Own w base v l) (hb : base' ≤ base) : Own w base' v l := by
  refine ⟨h.1, h.2.imp id ?_⟩
  rintro ⟨g, c, cur, e, hb1, r⟩
  exact ⟨g, c, cur, e, Nat.le_trans hb hb1, r⟩

theorem infoD : (Tryz.prog.info? 44).map (fun i => (i.zero, i.size, i.bytes)) = some (some (.agg #[.int .i64 0, .int .i64 0, .int .i64 0]), 3, 24) := by kernel_rfl

theorem src_cells {w : World} {ad : Addr} {r : List De} (h : DAt w (some ad) r) : ∀ (j : Nat) (u : Value), (flat r)[j]? = some u → w.cell? (ad.add j) = some u := by
  intro j u hu
  have hj : j < r.length * 3 := by
    have := (List.getElem?_eq_some_iff.1 hu).1
    rwa [flat_length] at this
  obtain ⟨b, off, e, _, h1, h2, h3⟩ := h (j / 3) (by omega)
  obtain rfl := Option.some.inj e
  obtain ⟨f1, f2, f3⟩ := flat_at r (j / 3) (by omega)
  rw [Addr.add_lit]
  rcases (by omega : j % 3 = 0 ∨ j % 3 = 1 ∨ j % 3 = 2) with hm | hm | hm
  · rw [show j / 3 * 3 = j from by omega] at h1 f1
    rw [h1, ← hu, f1]
  · rw [show off + j / 3 * 3 + 1 = off + j from by omega] at h2
    rw [show j / 3 * 3 + 1 = j from by omega] at f2
    rw [h2, ← hu, f2]
  · rw [show off + j / 3 * 3 + 2 = off + j from by omega] at h3
    rw [show j / 3 * 3 + 2 = j from by omega] at f3
    rw [h3, ← hu, f3]
/-- A list that lies anywhere, put behind a row of a call's own. -/
theorem run_appD (w : World) (ty : TypeId) (base m c : Nat) (v : Value) (A : Option Addr) (l r : List De) (hrow : Own w base v l) (hm : m = r.length) (hA : A = none → r = [] ∧ c = 0) (hsrc : DAt w A r) (hlen : l.length + r.length ≤ 100000) (hbase : base ≤ w.heap.size) :
    ∃ v' w', (Builtin.append_ #[22, 22] ty #[v, .slice A m c]).run Tryz.prog w = .ok v' w' ∧ Own w' base v' (l ++ r) ∧ w.grownBy w' v.ownBlock := by
  subst hm
  obtain ⟨i, hi, hz0, hz1, hz2⟩ := info_parts infoD
  cases A with
  | none =>
    obtain ⟨rfl, rfl⟩ := hA rfl
    refine ⟨v, w, run_append_owned_none (P := Tryz.prog) (w := w) base 22 ty 44 i 3 Tryz.underlying22 hi v l.length (flat l) hrow, ?_, ⟨rfl, rfl, rfl, Nat.le_refl _, fun _ _ _ => rfl⟩⟩
    rw [List.append_nil]
    exact hrow
  | some ad =>
    obtain ⟨v', w', h1, h2, h3, _⟩ := run_append_own (P := Tryz.prog) w base 22 ty 44 i _ 3 24 Tryz.underlying22 hi hz0 hz1 hz2 rfl (by omega) v l.length (flat l) hrow ad r.length c (flat r) (flat_length r) (src_cells hsrc) (flat_oneCell r) (by unfold maxLen; omega) (by omega) hbase
    refine ⟨v', w', h1, ?_, h3⟩
    unfold Own
    rw [List.length_append, flat_append]
    exact h2
theorem wp_appD {o : Oper} {a : Act} {w : World} {K : Act → World → Prop} {Q : Exit → Act → World → Prop} (s x : Operand)
    (ho : o.op = .call { callee := .builtin .append, args := #[s, x], argTypes := #[22, 22] }) (base m c : Nat) (v : Value) (A : Option Addr) (l r : List De)
    (hs : a.eval s = v) (hrow : Own w base v l) (hx : a.eval x = .slice A m c) (hm : m = r.length) (hA : A = none → r = [] ∧ c = 0) (hsrc : DAt w A r) (hlen : l.length + r.length ≤ 100000) (hbase : base ≤ w.heap.size)
    (h : ∀ v' w', Own w' base v' (l ++ r) → w.grownBy w' v.ownBlock → K (a.put o.dst v') w') : o.wp Tryz.prog a w K Q := by
  obtain ⟨v', w', hr, h2, h3⟩ := run_appD w o.type base m c v A l r hrow hm hA hsrc hlen hbase
  unfold Oper.wp execOp
  simp only [ho, resolve, invoke, builtin, Sem.run_bind, Sem.run_pure, Result.andThen_ok, List.map_toArray, List.map_cons, List.map_nil, hs, hx, hr]
  exact h v' w' h2 h3
theorem wpList_appD {ops : Array Oper} {rest : List Oper} {o : Oper} {a : Act} {w : World} {Q : Exit → Act → World → Prop} (hgd : o.guard = none) (s x : Operand)
    (ho : o.op = .call { callee := .builtin .append, args := #[s, x], argTypes := #[22, 22] }) (base m c : Nat) (v : Value) (A : Option Addr) (l r : List De)
    (hs : a.eval s = v) (hrow : Own w base v l) (hx : a.eval x = .slice A m c) (hm : m = r.length) (hA : A = none → r = [] ∧ c = 0) (hsrc : DAt w A r) (hlen : l.length + r.length ≤ 100000) (hbase : base ≤ w.heap.size)
    (h : ∀ v' w', Own w' base v' (l ++ r) → w.grownBy w' v.ownBlock → wpList Tryz.prog ops Q rest (a.put o.dst v') w') : wpList Tryz.prog ops Q (o :: rest) a w :=
  wpList_plain hgd fun _ hK => wp_appD s x ho base m c v A l r hs hrow hx hm hA hsrc hlen hbase fun v' w' h2 h3 => hK _ _ (h v' w' h2 h3)
theorem step_appD {ops : Array Oper} {o : Oper} {a : Act} {w : World} {K : Act → World → Prop} {Q : Exit → Act → World → Prop} {E : Prop} (hgd : o.guard = none) (s x : Operand)
    (ho : o.op = .call { callee := .builtin .append, args := #[s, x], argTypes := #[22, 22] }) (base m c : Nat) (v : Value) (A : Option Addr) (l r : List De)
    (hs : a.eval s = v) (hrow : Own w base v l) (hx : a.eval x = .slice A m c) (hm : m = r.length) (hA : A = none → r = [] ∧ c = 0) (hsrc : DAt w A r) (hlen : l.length + r.length ≤ 100000) (hbase : base ≤ w.heap.size)
    (h : ∀ v' w', Own w' base v' (l ++ r) → w.grownBy w' v.ownBlock → K (a.put o.dst v') w') :
    if Region.wanted o (yielded ops a.tmps) = true then Oper.wp Tryz.prog o a w K Q else E := by
  have hw : Region.wanted o (yielded ops a.tmps) = true := by simp [Region.wanted, hgd]
  rw [if_pos hw]
  exact wp_appD s x ho base m c v A l r hs hrow hx hm hA hsrc hlen hbase h
/-- An object in a block of its own, as a list of one. -/
theorem DAt.one {w : World} {g : Nat} {d : De} (h : w.heap[g]? = some (.cells #[.int .i64 d.1, .int .i64 d.2.1, .int .i64 d.2.2] 44 (0, 0))) : DAt w (some ⟨g, 0, none⟩) [d] := fun j hj => by
  obtain rfl : j = 0 := by simpa using hj
  refine ⟨g, 0, rfl, lt_of_block h, ?_, ?_, ?_⟩
  all_goals
    unfold World.cell?
    rw [h]
    rfl
end Go.Proofs.YtnhoeboighndlaaGreatDoor.objs

/-
  The document's names of kinds, the kinds that a letter stands for, and whether an object is of one. No condition.
-/
namespace Go.Proofs.YtnhoeboighndlaaGreatDoor.objs
open Go.RowKit Go.ChangeShapes
open Go.Proofs.YtnhoeboighndlaaGreatDoor.word (Word)
set_option linter.unusedVariables false

theorem ret_int {k : IntKind} {a b : Int} (h : a = b) : Ending.returned (.int k a) = .returned (.int k b) := by rw [h]
theorem ret_bool {a b : Bool} (h : a = b) : Ending.returned (.bool a) = .returned (.bool b) := by rw [h]
theorem ret_string {a b : ByteArray} (h : a = b) : Ending.returned (.string a) = .returned (.string b) := by rw [h]

/-- A list of kinds that a call has made. -/
def KAt (w : World) (A : Option Addr) (ks : List Int) : Prop := ∀ j, j < ks.length → ∃ b, A = some ⟨b, 0, none⟩ ∧ w.cell? ⟨b, j, none⟩ = some (.int .i64 (ks.getD j 0))
def KindsPost (c : UInt8) (w : World) (e : Ending) (w' : World) : Prop := ∃ A, e = .returned (.slice A (kindsOf c).length (kindsOf c).length) ∧ KAt w' A (kindsOf c) ∧ Below w.heap.size w w'
theorem kat_one {w : World} {b : Nat} {k : Int} (h : w.heap[b]? = some (.cells #[.int .i64 k] 3 (0, 0))) : KAt w (some ⟨b, 0, none⟩) [k] := fun j hj => by
  obtain rfl : j = 0 := by simpa using hj
  refine ⟨b, rfl, ?_⟩
  unfold World.cell?
  rw [h]
  rfl
theorem kat_two {w : World} {b : Nat} {k m : Int} (h : w.heap[b]? = some (.cells #[.int .i64 k, .int .i64 m] 3 (0, 0))) : KAt w (some ⟨b, 0, none⟩) [k, m] := fun j hj => by
  have hj2 : j < 2 := hj
  refine ⟨b, rfl, ?_⟩
  unfold World.cell?
  rw [h]
  match j, hj2 with
  | 0, _ => rfl
  | 1, _ => rfl
def letters : List UInt8 := [117, 115, 112, 99, 109, 98, 118, 113]
theorem kinds_none {c : UInt8} (h : ∀ k, k < 8 → c ≠ letters.getD k 0) : kindsOf c = [] := by
  have h0 : c ≠ 117 := h 0 (by omega)
  have h1 : c ≠ 115 := h 1 (by omega)
  have h2 : c ≠ 112 := h 2 (by omega)
  have h3 : c ≠ 99 := h 3 (by omega)
  have h4 : c ≠ 109 := h 4 (by omega)
  have h5 : c ≠ 98 := h 5 (by omega)
  have h6 : c ≠ 118 := h 6 (by omega)
  have h7 : c ≠ 113 := h 7 (by omega)
  unfold kindsOf
  rw [if_neg h0, if_neg h1, if_neg h2, if_neg h3, if_neg h4, if_neg h5, if_neg h6, if_neg h7]
theorem u8_eq {c k : UInt8} : ((k.toNat : Int) == (c.toNat : Int)) = decide (c = k) := by
  by_cases h : c = k
  · subst h; simp
  · rw [decide_eq_false h, beq_eq_false_iff_ne]
    intro e
    exact h (UInt8.toNat_inj.1 (by omega))

/-- The world in which all lists of kinds are made. -/
def ints1 (k : Int) : Obj := .cells #[.int .i64 k] 3
def ints2 (k m : Int) : Obj := .cells #[.int .i64 k, .int .i64 m] 3
def rows (n : Nat) : Obj := .cells #[.slice (some ⟨n, 0, none⟩) 2 2, .slice (some ⟨n + 1, 0, none⟩) 1 1, .slice (some ⟨n + 1 + 1, 0, none⟩) 1 1, .slice (some ⟨n + 1 + 1 + 1, 0, none⟩) 1 1, .slice (some ⟨n + 1 + 1 + 1 + 1, 0, none⟩) 1 1, .slice (some ⟨n + 1 + 1 + 1 + 1 + 1, 0, none⟩) 1 1, .slice (some ⟨n + 1 + 1 + 1 + 1 + 1 + 1, 0, none⟩) 1 1, .slice (some ⟨n + 1 + 1 + 1 + 1 + 1 + 1 + 1, 0, none⟩) 2 2] 87
def kw (w : World) : World := ((((((((w.alloc (ints2 1 2)).alloc (ints1 3)).alloc (ints1 6)).alloc (ints1 4)).alloc (ints1 1)).alloc (ints1 5)).alloc (ints1 7)).alloc (ints2 1 6)).alloc (rows w.heap.size)
theorem kw_below (w : World) : Below w.heap.size w (kw w) := by
  unfold kw
  refine (((((((((Below.refl _ w).alloc (Nat.le_refl _) _).alloc ?_ _).alloc ?_ _).alloc ?_ _).alloc ?_ _).alloc ?_ _).alloc ?_ _).alloc ?_ _).alloc ?_ _
  all_goals simp only [World.size_alloc]; omega
theorem kw_at (w : World) : (kw w).heap[w.heap.size]? = some (ints2 1 2) ∧ (kw w).heap[w.heap.size + 1]? = some (ints1 3) ∧ (kw w).heap[w.heap.size + 1 + 1]? = some (ints1 6) ∧ (kw w).heap[w.heap.size + 1 + 1 + 1]? = some (ints1 4) ∧
    (kw w).heap[w.heap.size + 1 + 1 + 1 + 1]? = some (ints1 1) ∧ (kw w).heap[w.heap.size + 1 + 1 + 1 + 1 + 1]? = some (ints1 5) ∧ (kw w).heap[w.heap.size + 1 + 1 + 1 + 1 + 1 + 1]? = some (ints1 7) ∧ (kw w).heap[w.heap.size + 1 + 1 + 1 + 1 + 1 + 1 + 1]? = some (ints2 1 6) ∧
    (kw w).heap[w.heap.size + 1 + 1 + 1 + 1 + 1 + 1 + 1 + 1]? = some (rows w.heap.size) := by
  unfold kw
  refine ⟨?_, ?_, ?_, ?_, ?_, ?_, ?_, ?_, ?_⟩
  all_goals simp only [World.alloc, Array.getElem?_push, Array.size_push]
  all_goals repeat (first | rw [if_pos trivial] | rw [if_neg (by omega)])

set_option maxRecDepth 100000 in
set_option maxHeartbeats 4000000 in
theorem refKinds_any (c : UInt8) (w : World) : Calls Tryz.prog 84 #[.int .u8 (c.toNat : Int)] w (KindsPost c w) := by
  go_enter Tryz.func84, Tryz.ntmps84
  have HB := Lib.hid (kw_below w)
  obtain ⟨k0, k1, k2, k3, k4, k5, k6, k7, k8⟩ := kw_at w
  have H0 := Lib.hid (kat_two k0)
  have H1 := Lib.hid (kat_one k1)
  have H2 := Lib.hid (kat_one k2)
  have H3 := Lib.hid (kat_one k3)
  have H4 := Lib.hid (kat_one k4)
  have H5 := Lib.hid (kat_one k5)
  have H6 := Lib.hid (kat_one k6)
  have H7 := Lib.hid (kat_two k7)
  have HR : ∀ j, j < 8 → ∃ x, (kw w).cell? ⟨w.heap.size + 1 + 1 + 1 + 1 + 1 + 1 + 1 + 1, j, none⟩ = some x := by
    intro j hj
    unfold World.cell?
    rw [k8]
    unfold rows
    rcases (by omega : j = 0 ∨ j = 1 ∨ j = 2 ∨ j = 3 ∨ j = 4 ∨ j = 5 ∨ j = 6 ∨ j = 7) with rfl | rfl | rfl | rfl | rfl | rfl | rfl | rfl <;> exact ⟨_, rfl⟩
  have r0 : (kw w).cell? ⟨w.heap.size + 1 + 1 + 1 + 1 + 1 + 1 + 1 + 1, 0, none⟩ = some (.slice (some ⟨w.heap.size, 0, none⟩) 2 2) := by unfold World.cell?; rw [k8]; rfl
  have r1 : (kw w).cell? ⟨w.heap.size + 1 + 1 + 1 + 1 + 1 + 1 + 1 + 1, 1, none⟩ = some (.slice (some ⟨w.heap.size + 1, 0, none⟩) 1 1) := by unfold World.cell?; rw [k8]; rfl
  have r2 : (kw w).cell? ⟨w.heap.size + 1 + 1 + 1 + 1 + 1 + 1 + 1 + 1, 2, none⟩ = some (.slice (some ⟨w.heap.size + 1 + 1, 0, none⟩) 1 1) := by unfold World.cell?; rw [k8]; rfl
  have r3 : (kw w).cell? ⟨w.heap.size + 1 + 1 + 1 + 1 + 1 + 1 + 1 + 1, 3, none⟩ = some (.slice (some ⟨w.heap.size + 1 + 1 + 1, 0, none⟩) 1 1) := by unfold World.cell?; rw [k8]; rfl
  have r4 : (kw w).cell? ⟨w.heap.size + 1 + 1 + 1 + 1 + 1 + 1 + 1 + 1, 4, none⟩ = some (.slice (some ⟨w.heap.size + 1 + 1 + 1 + 1, 0, none⟩) 1 1) := by unfold World.cell?; rw [k8]; rfl
  have r5 : (kw w).cell? ⟨w.heap.size + 1 + 1 + 1 + 1 + 1 + 1 + 1 + 1, 5, none⟩ = some (.slice (some ⟨w.heap.size + 1 + 1 + 1 + 1 + 1, 0, none⟩) 1 1) := by unfold World.cell?; rw [k8]; rfl
  have r6 : (kw w).cell? ⟨w.heap.size + 1 + 1 + 1 + 1 + 1 + 1 + 1 + 1, 6, none⟩ = some (.slice (some ⟨w.heap.size + 1 + 1 + 1 + 1 + 1 + 1, 0, none⟩) 1 1) := by unfold World.cell?; rw [k8]; rfl
  have r7 : (kw w).cell? ⟨w.heap.size + 1 + 1 + 1 + 1 + 1 + 1 + 1 + 1, 7, none⟩ = some (.slice (some ⟨w.heap.size + 1 + 1 + 1 + 1 + 1 + 1 + 1, 0, none⟩) 2 2) := by unfold World.cell?; rw [k8]; rfl
  clear k0 k1 k2 k3 k4 k5 k6 k7 k8 HR
  obtain ⟨n8, hn8⟩ : ∃ n8, n8 = w.heap.size + 1 + 1 + 1 + 1 + 1 + 1 + 1 + 1 := ⟨_, rfl⟩
  obtain ⟨W1, hW1⟩ : ∃ W1, W1 = kw w := ⟨_, rfl⟩
  rw [← hn8, ← hW1] at r0 r1 r2 r3 r4 r5 r6 r7
  rw [← hW1] at HB H0 H1 H2 H3 H4 H5 H6 H7
  unfold kw ints1 ints2 rows at hW1
  go_wp2_with fail
  rw [← hW1, ← hn8]
  clear hW1 hn8
  have HNx : ∀ j, c ≠ letters.getD j 0 → Hid (∀ k, k < j → c ≠ letters.getD k 0) → Hid (∀ k, k < j + 1 → c ≠ letters.getD k 0) := fun j h1 h2 => Lib.hid (fun k hk => by
    rcases Nat.lt_or_ge k j with h3 | h3
    · exact h2.out k h3
    · obtain rfl : k = j := by omega
      exact h1)
  unfold KindsPost
  go_loop [5] (fun i => ∃ j : Nat, j ≤ 8 ∧ i = .int .i64 (j : Int) ∧ Hid (∀ k, k < j → c ≠ letters.getD k 0)) (fun i => 8 - (intOf i).toNat)
  case atStart => exact ⟨0, Nat.zero_le _, rfl, Lib.hid (fun k hk => absurd hk (Nat.not_lt_zero k))⟩
  case round =>
    obtain ⟨j, hj, rfl, HO⟩ := hrel
    rcases (by omega : j = 0 ∨ j = 1 ∨ j = 2 ∨ j = 3 ∨ j = 4 ∨ j = 5 ∨ j = 6 ∨ j = 7 ∨ j = 8) with rfl | rfl | rfl | rfl | rfl | rfl | rfl | rfl | rfl
    · by_cases hc : c = 117
      · subst hc
        go_wp2
        exact bodyPost_ret (v := .slice (some ⟨w.heap.size, 0, none⟩) 2 2) (by simp [results, Tryz.results84, go_sem]) rfl ⟨_, rfl, H0.out, HB.out⟩
      · have hb : ((((⟨#[117, 115, 112, 99, 109, 98, 118, 113]⟩ : ByteArray)[0]'(by decide)).toNat : Int) == (c.toNat : Int)) = false := (u8_eq (c := c) (k := 117)).trans (decide_eq_false hc)
        have HE := HNx 0 hc HO
        clear hc
        go_wp2
        exact ⟨⟨1, by omega, rfl, HE⟩, by simp [intOf]⟩
    · by_cases hc : c = 115
      · subst hc
        go_wp2
        exact bodyPost_ret (v := .slice (some ⟨w.heap.size + 1, 0, none⟩) 1 1) (by simp [results, Tryz.results84, go_sem]) rfl ⟨_, rfl, H1.out, HB.out⟩
      · have hb : ((((⟨#[117, 115, 112, 99, 109, 98, 118, 113]⟩ : ByteArray)[1]'(by decide)).toNat : Int) == (c.toNat : Int)) = false := (u8_eq (c := c) (k := 115)).trans (decide_eq_false hc)
        have HE := HNx 1 hc HO
        clear hc
        go_wp2
        exact ⟨⟨2, by omega, rfl, HE⟩, by simp [intOf]⟩
    · by_cases hc : c = 112
      · subst hc
        go_wp2
        exact bodyPost_ret (v := .slice (some ⟨w.heap.size + 1 + 1, 0, none⟩) 1 1) (by simp [results, Tryz.results84, go_sem]) rfl ⟨_, rfl, H2.out, HB.out⟩
      · have hb : ((((⟨#[117, 115, 112, 99, 109, 98, 118, 113]⟩ : ByteArray)[2]'(by decide)).toNat : Int) == (c.toNat : Int)) = false := (u8_eq (c := c) (k := 112)).trans (decide_eq_false hc)
        have HE := HNx 2 hc HO
        clear hc
        go_wp2
        exact ⟨⟨3, by omega, rfl, HE⟩, by simp [intOf]⟩
    · by_cases hc : c = 99
      · subst hc
        go_wp2
        exact bodyPost_ret (v := .slice (some ⟨w.heap.size + 1 + 1 + 1, 0, none⟩) 1 1) (by simp [results, Tryz.results84, go_sem]) rfl ⟨_, rfl, H3.out, HB.out⟩
      · have hb : ((((⟨#[117, 115, 112, 99, 109, 98, 118, 113]⟩ : ByteArray)[3]'(by decide)).toNat : Int) == (c.toNat : Int)) = false := (u8_eq (c := c) (k := 99)).trans (decide_eq_false hc)
        have HE := HNx 3 hc HO
        clear hc
        go_wp2
        exact ⟨⟨4, by omega, rfl, HE⟩, by simp [intOf]⟩
    · by_cases hc : c = 109
      · subst hc
        go_wp2
        exact bodyPost_ret (v := .slice (some ⟨w.heap.size + 1 + 1 + 1 + 1, 0, none⟩) 1 1) (by simp [results, Tryz.results84, go_sem]) rfl ⟨_, rfl, H4.out, HB.out⟩
      · have hb : ((((⟨#[117, 115, 112, 99, 109, 98, 118, 113]⟩ : ByteArray)[4]'(by decide)).toNat : Int) == (c.toNat : Int)) = false := (u8_eq (c := c) (k := 109)).trans (decide_eq_false hc)
        have HE := HNx 4 hc HO
        clear hc
        go_wp2
        exact ⟨⟨5, by omega, rfl, HE⟩, by simp [intOf]⟩
    · by_cases hc : c = 98
      · subst hc
        go_wp2
        exact bodyPost_ret (v := .slice (some ⟨w.heap.size + 1 + 1 + 1 + 1 + 1, 0, none⟩) 1 1) (by simp [results, Tryz.results84, go_sem]) rfl ⟨_, rfl, H5.out, HB.out⟩
      · have hb : ((((⟨#[117, 115, 112, 99, 109, 98, 118, 113]⟩ : ByteArray)[5]'(by decide)).toNat : Int) == (c.toNat : Int)) = false := (u8_eq (c := c) (k := 98)).trans (decide_eq_false hc)
        have HE := HNx 5 hc HO
        clear hc
        go_wp2
        exact ⟨⟨6, by omega, rfl, HE⟩, by simp [intOf]⟩
    · by_cases hc : c = 118
      · subst hc
        go_wp2
        exact bodyPost_ret (v := .slice (some ⟨w.heap.size + 1 + 1 + 1 + 1 + 1 + 1, 0, none⟩) 1 1) (by simp [results, Tryz.results84, go_sem]) rfl ⟨_, rfl, H6.out, HB.out⟩
      · have hb : ((((⟨#[117, 115, 112, 99, 109, 98, 118, 113]⟩ : ByteArray)[6]'(by decide)).toNat : Int) == (c.toNat : Int)) = false := (u8_eq (c := c) (k := 118)).trans (decide_eq_false hc)
        have HE := HNx 6 hc HO
        clear hc
        go_wp2
        exact ⟨⟨7, by omega, rfl, HE⟩, by simp [intOf]⟩
    · by_cases hc : c = 113
      · subst hc
        go_wp2
        exact bodyPost_ret (v := .slice (some ⟨w.heap.size + 1 + 1 + 1 + 1 + 1 + 1 + 1, 0, none⟩) 2 2) (by simp [results, Tryz.results84, go_sem]) rfl ⟨_, rfl, H7.out, HB.out⟩
      · have hb : ((((⟨#[117, 115, 112, 99, 109, 98, 118, 113]⟩ : ByteArray)[7]'(by decide)).toNat : Int) == (c.toNat : Int)) = false := (u8_eq (c := c) (k := 113)).trans (decide_eq_false hc)
        have HE := HNx 7 hc HO
        clear hc
        go_wp2
        exact ⟨⟨8, by omega, rfl, HE⟩, by simp [intOf]⟩
    · have HE := Lib.hid (kinds_none HO.out)
      clear HNx
      go_wp2
      exact bodyPost_ret (v := .slice none 0 0) (by simp [results, Tryz.results84, go_sem]) rfl ⟨none, by rw [HE.out]; rfl, by rw [HE.out]; exact fun j hj => absurd hj (Nat.not_lt_zero j), HB.out⟩
end Go.Proofs.YtnhoeboighndlaaGreatDoor.objs

/-
  The document's own answer whether an object is of a kind that a letter stands for, and the names of kinds. No condition.
-/
namespace Go.Proofs.YtnhoeboighndlaaGreatDoor.objs
open Go.RowKit Go.ChangeShapes
open Go.Proofs.YtnhoeboighndlaaGreatDoor.word (Word)
set_option linter.unusedVariables false

theorem contains_at {ks : List Int} {x : Int} {j : Nat} (hj : j < ks.length) (h : ks.getD j 0 = x) : ks.contains x = true := by
  rw [List.contains_iff_mem]
  rw [List.getD_eq_getElem?_getD, List.getElem?_eq_getElem hj, Option.getD_some] at h
  rw [← h]
  exact List.getElem_mem hj
theorem contains_no {ks : List Int} {x : Int} (h : ∀ k, k < ks.length → ks.getD k 0 ≠ x) : ks.contains x = false := by
  cases hc : ks.contains x with
  | false => rfl
  | true =>
    rw [List.contains_iff_mem] at hc
    obtain ⟨k, hk, e⟩ := List.getElem_of_mem hc
    exact absurd (by rw [List.getD_eq_getElem?_getD, List.getElem?_eq_getElem hk, Option.getD_some]; exact e) (h k hk)
theorem KAt.next {w w' : World} {A : Option Addr} {ks : List Int} (h : KAt w A ks) (hb : Below w.heap.size w w') : KAt w' A ks := fun j hj => by
  obtain ⟨b, h1, h2⟩ := h j hj
  refine ⟨b, h1, ?_⟩
  have hlt : b < w.heap.size := by
    rcases Nat.lt_or_ge b w.heap.size with h3 | h3
    · exact h3
    · simp [World.cell?, Array.getElem?_eq_none h3] at h2
  exact (hb.cell (p := ⟨b, j, none⟩) hlt).trans h2
theorem KAt.drewN {w : World} {A : Option Addr} {ks : List Int} (h : KAt w A ks) (n : Nat) : KAt (w.drewN n) A ks := fun j hj => by
  obtain ⟨b, h1, h2⟩ := h j hj
  exact ⟨b, h1, by simpa using h2⟩
theorem kinds_le (c : UInt8) : (kindsOf c).length ≤ 2 := by
  unfold kindsOf
  split
  · decide
  · split
    · decide
    · split
      · decide
      · split
        · decide
        · split
          · decide
          · split
            · decide
            · split
              · decide
              · split <;> decide
theorem below_drewN {B : Nat} {a w : World} (h : Below B a w) : ∀ n, Below B a (w.drewN n)
  | 0 => h
  | n + 1 => (below_drewN h n).drew

set_option maxRecDepth 100000 in
set_option maxHeartbeats 4000000 in
theorem refFits_in (A : Option Addr) (cap : Nat) (l : List De) (c : UInt8) (m : Nat) (hm : m < l.length) (hl : l.length ≤ 9223372036854775807) (w : World) (hA : DAt w A l) :
    Calls Tryz.prog 64 #[.slice A l.length cap, .int .u8 (c.toNat : Int), .int .i64 (m : Int)] w fun e w' => e = .returned (.bool (fits l c m)) ∧ Below w.heap.size w w' := by
  have HK := Lib.hid (refKinds_any c w)
  have HF : Hid (fits l c m = (kindsOf c).contains (l.getD m zero).1) := Lib.hid (by unfold fits; rw [decide_eq_true (by omega), Bool.true_and, Int.toNat_natCast])
  obtain ⟨b, off, rfl, hb, c0, _, _⟩ := hA m hm
  have h2 := kinds_le c
  rw [HF.out]
  unfold KindsPost at HK
  clear hA HF
  generalize kindsOf c = ks at *
  generalize (l.getD m zero).1 = x at *
  go_enter Tryz.func64, Tryz.ntmps64
  go_wp2_with fail
  refine HK.out.mono ?_
  rintro e w1 ⟨B, rfl, hk, hb1⟩
  have hc1 : w1.cell? ⟨b, off + m * 3, none⟩ = some (.int .i64 x) := (hb1.cell (p := ⟨b, off + m * 3, none⟩) hb).trans c0
  have HK1 := Lib.hid hk
  have HB1 := Lib.hid hb1
  clear HK hk hb1 c0
  have hm' : (m : Int) < (l.length : Int) := by omega
  have hm0 : (0 : Int) ≤ (m : Int) := by omega
  go_wp2_with fail
  go_loopw [8] (fun i wr => ∃ j : Nat, j ≤ ks.length ∧ i = .int .i64 (j : Int) ∧ Hid (∀ k, k < j → ks.getD k 0 ≠ x) ∧ Hid (KAt wr B ks ∧ Below w.heap.size w wr) ∧ wr.cell? ⟨b, off + m * 3, none⟩ = some (.int .i64 x)) (fun i _ => ks.length - (intOf i).toNat)
  case atStart => exact ⟨0, Nat.zero_le _, rfl, Lib.hid (fun k hk => absurd hk (Nat.not_lt_zero k)), Lib.hid ⟨HK1.out, HB1.out⟩, hc1⟩
  case round =>
    obtain ⟨j, hj, rfl, HO, HS, hc⟩ := hrel
    clear hc1
    by_cases hlt : j < ks.length
    · obtain ⟨g, rfl, hg⟩ := HS.out.1 j hlt
      have hlt' : (j : Int) < (ks.length : Int) := by omega
      by_cases hx : ks.getD j 0 = x
      · have HE := Lib.hid (contains_at hlt hx)
        rw [hx] at hg
        clear hx
        go_wp2_with fail
        go_quiet (fail)
        go_wp2
        go_ret
        exact ⟨ret_bool HE.out.symm, below_drewN HS.out.2 _⟩
      · have HE : Hid (∀ k, k < j + 1 → ks.getD k 0 ≠ x) := Lib.hid (fun k hk => by
          rcases Nat.lt_or_ge k j with h1 | h1
          · exact HO.out k h1
          · obtain rfl : k = j := by omega
            exact hx)
        have hx' : (x == ks.getD j 0) = false := by rw [beq_eq_false_iff_ne]; exact fun e => hx e.symm
        clear hx
        generalize ks.getD j 0 = y at *
        go_wp2_with fail
        go_quiet (fail)
        go_wp2
        go_roundw
        case rel => exact ⟨j + 1, by omega, by go_num, HE, Lib.hid ⟨HS.out.1.drewN _, below_drewN HS.out.2 _⟩, by simpa using hc⟩
        case measure => simp [intOf]; omega
    · obtain rfl : j = ks.length := by omega
      have HE := Lib.hid (contains_no HO.out)
      go_wp2_with fail
      go_ret
      exact ⟨ret_bool HE.out.symm, HS.out.2⟩

set_option maxRecDepth 100000 in
set_option maxHeartbeats 4000000 in
theorem refFits_out (A : Option Addr) (cap : Nat) (l : List De) (c : UInt8) (o : Int) (ho : o < 0 ∨ (l.length : Int) ≤ o) (hl : l.length ≤ 9223372036854775807) (w : World) :
    Calls Tryz.prog 64 #[.slice A l.length cap, .int .u8 (c.toNat : Int), .int .i64 o] w fun e w' => e = .returned (.bool (fits l c o)) ∧ Below w.heap.size w w' := by
  have HK := Lib.hid (refKinds_any c w)
  have HF : Hid (fits l c o = false) := Lib.hid (by unfold fits; rw [decide_eq_false (by omega), Bool.false_and])
  have h2 := kinds_le c
  rw [HF.out]
  unfold KindsPost at HK
  clear HF
  generalize kindsOf c = ks at *
  have hd : (0 ≤ o) → ¬ (o < (l.length : Int)) := fun h => by omega
  have HD := Lib.hid hd
  clear hd ho
  go_enter Tryz.func64, Tryz.ntmps64
  go_wp2_with fail
  refine HK.out.mono ?_
  rintro e w1 ⟨B, rfl, hk, hb1⟩
  have HB1 := Lib.hid hb1
  clear HK hk hb1
  go_wp2_with fail
  go_loopw [8] (fun i wr => i = .int .i64 0 ∧ Hid (Below w.heap.size w wr)) (fun i _ => 0)
  case atStart => exact ⟨rfl, HB1⟩
  case round =>
    obtain ⟨rfl, HB⟩ := hrel
    by_cases hk : ks.length = 0
    · go_wp2_with fail
      go_ret
      exact ⟨rfl, HB.out⟩
    · have hk' : (0 : Int) < (ks.length : Int) := by omega
      by_cases h0 : 0 ≤ o
      · have h1 : decide (o < (l.length : Int)) = false := by simpa using HD.out h0
        clear hk
        go_wp2_with fail
        go_ret
        exact ⟨rfl, HB.out⟩
      · have h1 : decide (0 ≤ o) = false := by simpa using h0
        clear hk
        go_wp2_with fail
        go_ret
        exact ⟨rfl, HB.out⟩
theorem refFits_any (A : Option Addr) (cap : Nat) (l : List De) (c : UInt8) (o : Int) (hl : l.length ≤ 9223372036854775807) (w : World) (hA : DAt w A l) :
    Calls Tryz.prog 64 #[.slice A l.length cap, .int .u8 (c.toNat : Int), .int .i64 o] w fun e w' => e = .returned (.bool (fits l c o)) ∧ Below w.heap.size w w' := by
  by_cases h : 0 ≤ o ∧ o < (l.length : Int)
  · obtain ⟨m, rfl⟩ : ∃ m : Nat, o = (m : Int) := ⟨o.toNat, by omega⟩
    exact refFits_in A cap l c m (by omega) hl w hA
  · exact refFits_out A cap l c o (by omega) hl w
end Go.Proofs.YtnhoeboighndlaaGreatDoor.objs
