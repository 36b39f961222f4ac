/-
  Texts of one claim in one file: ETab, DBox, InText, EGetOne, ENeed, ERefCheck, BPlain, BMore, BBit, EClash, Ref. Each has its own sentence, with its conditions.
-/
import Derived.Test.YtigjeeedobnmhaaDoorEall2
import Derived.Lib.LaidTab
import Derived.Lib.ItoaNum
import Derived.WalkSmall
import Derived.Test.YtigjeeedobnmhaaDoorEall1
import Derived.Lib.Strings
import Derived.Lib.Walk
import Derived.Lib.BufferWrite
import Derived.Lib.UnsafeStr
import Derived.Laws.MakeOwn
import Derived.Laws.BitsAllLaws
import Derived.Lib.TrailingZeros
import Derived.Test.YtigjeeedobnmhaaDoorProg
import Derived.WalkKit
import Derived.ProofKit
import Derived.Lib.Hide
import Derived.Outline
import Derived.Laws.ShiftsVarLaws
import Derived.Laws.Bits64b
import Derived.RegionTactic
import Derived.ChangeAlike
import Derived.Handy
/-
  The program's tables of needs lie where their initialisers lay them; with that: whether there is such a kind, whether a kind counts, and how many there may be (typed over the code of 5ef5b61). The card ties the tables to the program's text.
-/
namespace Go.Proofs.YtigjeeedobnmhaaDoor.need
open Go.RowKit Go.ChangeShapes
open Go.Proofs.YtigjeeedobnmhaaDoor.objs (De zero CellsAt DAt)
set_option linter.unusedVariables false

theorem ret_bool {a b : Bool} (h : a = b) : Ending.returned (.bool a) = .returned (.bool b) := by rw [h]
/-- The words of the kinds, and the kinds of objects that they ask, as the program's tables have them. -/
def namesE : List ByteArray := [⟨#[]⟩, ⟨#[108, 111, 99, 107]⟩, ⟨#[114, 101, 97, 100]⟩, ⟨#[119, 114, 105, 116, 101]⟩, ⟨#[100, 111, 119, 110]⟩, ⟨#[116, 97, 107, 101]⟩]
def askedE : List Int := [0, 1, 2, 2, 3, 6]
/-- The tables lie where their initialisers lay them. -/
structure Tabe (w : World) : Prop where
  nm : ∀ j, j < 6 → w.cell? ⟨0, j, none⟩ = some (.string (namesE.getD j ⟨#[]⟩))
  ak : ∀ j, j < 6 → w.cell? ⟨1, j, none⟩ = some (.int .i64 (askedE.getD j 0))
  pw : Lib.TabIs Tryd.prog w "internal/strconv.uint64pow10" .u64 Lib.pow10Tab
theorem gPow : Tryd.prog.globalNamed "internal/strconv.uint64pow10" = some 3 := by kernel_rfl
/-- What the program's calls ask of the world: the tables lie where they should, below all that is made. -/
structure Oke (w : World) : Prop where
  tab : Tabe w
  lnm : 0 < w.heap.size
  lak : 1 < w.heap.size
  lpw : 3 < w.heap.size
theorem Oke.below {B : Nat} {w w' : World} (h : Oke w) (hb : Below B w w') (h1 : 0 < B) (h2 : 1 < B) (h3 : 3 < B) : Oke w' :=
  ⟨⟨fun j hj => (hb.cell (p := ⟨0, j, none⟩) h1).trans (h.tab.nm j hj), fun j hj => (hb.cell (p := ⟨1, j, none⟩) h2).trans (h.tab.ak j hj), var?_below hb gPow h3 h.tab.pw⟩,
    Nat.lt_of_lt_of_le h.lnm hb.size, Nat.lt_of_lt_of_le h.lak hb.size, Nat.lt_of_lt_of_le h.lpw hb.size⟩
theorem Oke.next {w w' : World} (h : Oke w) (hb : Below w.heap.size w w') : Oke w' := h.below hb h.lnm h.lak h.lpw
theorem asked_kn {k : Nat} (h1 : 1 ≤ k) (h5 : k ≤ 5) : askedE.getD k 0 = kn (k : Int) := by
  have h : k = 1 ∨ k = 2 ∨ k = 3 ∨ k = 4 ∨ k = 5 := by omega
  rcases h with rfl | rfl | rfl | rfl | rfl <;> rfl
theorem names_word {k : Nat} (h1 : 1 ≤ k) (h5 : k ≤ 5) : namesE.getD k ⟨#[]⟩ = ⟨(word (k : Int)).toArray⟩ := by
  have h : k = 1 ∨ k = 2 ∨ k = 3 ∨ k = 4 ∨ k = 5 := by omega
  rcases h with rfl | rfl | rfl | rfl | rfl <;> rfl

theorem known_any (k : Int) (w : World) : Calls Tryd.prog 44 #[.int .i64 k] w fun e w' => e = .returned (.bool (decide (1 ≤ k ∧ k ≤ 5))) ∧ w = w' := by
  by_cases h1 : 1 ≤ k
  · by_cases h2 : k ≤ 5
    · rw [decide_eq_true ⟨h1, h2⟩]
      go_enter Tryd.func44, Tryd.ntmps44
      go_wp2
      go_ret
      exact ⟨rfl, rfl⟩
    · rw [decide_eq_false (fun h => h2 h.2)]
      have hd : decide (k ≤ 5) = false := by simpa using h2
      go_enter Tryd.func44, Tryd.ntmps44
      go_wp2
      go_ret
      exact ⟨rfl, rfl⟩
  · rw [decide_eq_false (fun h => h1 h.1)]
    have hd : decide (1 ≤ k) = false := by simpa using h1
    go_enter Tryd.func44, Tryd.ntmps44
    go_wp2
    go_ret
    exact ⟨rfl, rfl⟩
theorem counts_any (k : Int) (w : World) : Calls Tryd.prog 43 #[.int .i64 k] w fun e w' => e = .returned (.bool (decide (k = 4 ∨ k = 5))) ∧ w = w' := by
  by_cases h4 : k = 4
  · subst h4
    go_enter Tryd.func43, Tryd.ntmps43
    go_wp2
    go_ret
    exact ⟨rfl, rfl⟩
  · have e4 : (k == 4) = false := by simpa using h4
    by_cases h5 : k = 5
    · subst h5
      go_enter Tryd.func43, Tryd.ntmps43
      go_wp2
      go_ret
      exact ⟨rfl, rfl⟩
    · have e5 : (k == 5) = false := by simpa using h5
      rw [decide_eq_false (by omega)]
      go_enter Tryd.func43, Tryd.ntmps43
      go_wp2
      go_ret
      exact ⟨rfl, rfl⟩
/-- What is wrong with how many there are. -/
def manyC (n : Nat) : Nat := if n = 0 then 2 else if 4 < n then 4 else 0
theorem many_any (n : Nat) (w : World) : Calls Tryd.prog 28 #[.int .i64 (n : Int), .int .i64 4] w fun e w' => e = .returned (.int .i64 ((manyC n : Nat) : Int)) ∧ w = w' := by
  unfold manyC
  by_cases h0 : n = 0
  · subst h0
    go_enter Tryd.func28, Tryd.ntmps28
    go_wp2
    go_ret
    exact ⟨rfl, rfl⟩
  · rw [if_neg h0]
    have e0 : ((n : Int) == 0) = false := by simp; omega
    by_cases h4 : 4 < n
    · rw [if_pos h4]
      have e4 : decide ((4 : Int) < (n : Int)) = true := by simp; omega
      clear h0 h4
      go_enter Tryd.func28, Tryd.ntmps28
      go_wp2
      go_ret
      exact ⟨rfl, rfl⟩
    · rw [if_neg h4]
      have e4 : decide ((4 : Int) < (n : Int)) = false := by simp; omega
      clear h0 h4
      go_enter Tryd.func28, Tryd.ntmps28
      go_wp2
      go_ret
      exact ⟨rfl, rfl⟩
end Go.Proofs.YtigjeeedobnmhaaDoor.need

/-
  Three cells at once, and a reader of the document's in a block. No condition.
-/
namespace Go.Proofs.YtigjeeedobnmhaaDoor.objs
open Go.RowKit Go.ChangeShapes
set_option linter.unusedVariables false

/-- Three cells of a block, set one behind the other. -/
abbrev put3 (W : World) (b : Nat) (x y z : Value) : World := ((W.setCell ⟨b, 0, none⟩ x).setCell ⟨b, 1, none⟩ y).setCell ⟨b, 2, none⟩ z
theorem put3_same {W : World} {b : Nat} {u v m : Value} {T : TypeId} (h : W.heap[b]? = some (.cells #[u, v, m] T (0, 0))) (x y z : Value) : (put3 W b x y z).heap[b]? = some (.cells #[x, y, z] T (0, 0)) := by
  simp [World.setCell, Array.getElem?_modify, h]
theorem cells3 {W : World} {b : Nat} {x y z : Value} {T : TypeId} (h : W.heap[b]? = some (.cells #[x, y, z] T (0, 0))) :
    W.cell? ⟨b, 0, none⟩ = some x ∧ W.cell? ⟨b, 1, none⟩ = some y ∧ W.cell? ⟨b, 2, none⟩ = some z ∧ W.frozen? ⟨b, 0, none⟩ = false ∧ W.frozen? ⟨b, 1, none⟩ = false ∧ W.frozen? ⟨b, 2, none⟩ = false := by
  simp [World.cell?, World.frozen?, h]
theorem put3_far {W : World} {b c : Nat} (h : c ≠ b) (x y z : Value) : (put3 W b x y z).heap[c]? = W.heap[c]? :=
  (Below.heap_setCell _ ⟨b, 2, none⟩ _ c h).trans ((Below.heap_setCell _ ⟨b, 1, none⟩ _ c h).trans (Below.heap_setCell _ ⟨b, 0, none⟩ _ c h))
theorem put3_below {B b : Nat} {a W : World} (h : Below B a W) (hb : B ≤ b) (x y z : Value) : Below B a (put3 W b x y z) :=
  ((h.setCell (p := ⟨b, 0, none⟩) hb _).setCell (p := ⟨b, 1, none⟩) hb _).setCell (p := ⟨b, 2, none⟩) hb _

/-- A reader of the document's, in a block. -/
def RBox (t : ByteArray) (k err : Nat) : Obj := .cells #[.string t, .int .i64 (k : Int), .int .i64 (err : Int)] 69
def RNil : Obj := .cells #[.string ⟨#[]⟩, .int .i64 0, .int .i64 0] 69
end Go.Proofs.YtigjeeedobnmhaaDoor.objs

/-
  The reader's numbers with a sign, and texts: what bytes are read as one, and the first error. The reader lies in a block of its own, holds no bytes behind an error, and at most two to the forty-seventh of them.
-/
namespace Go.Proofs.YtigjeeedobnmhaaDoor.octet
open Go.RowKit Go.ChangeShapes
set_option linter.unusedVariables false

theorem info5' : (Tryd.prog.info? 5).map (fun i => (i.zero, i.size, i.bytes)) = some (some (.int .u8 0), 1, 1) := by kernel_rfl

theorem i64_not_nat (a : Nat) (ha : a < 9223372036854775808) : bits .xor .i64 (-1) (a : Int) = -(a : Int) - 1 := by
  show IntKind.i64.wrap ((BitVec.ofInt 64 (-1) ^^^ BitVec.ofInt 64 (a : Int)).toNat : Int) = _
  have h1 : BitVec.ofInt 64 (-1) = BitVec.allOnes 64 := by decide
  rw [h1, BitVec.allOnes_xor, BitVec.toNat_not, ofInt_u64 a (by omega)]
  simp only [IntKind.wrap_i64]
  omega
theorem and1_u64 (v : Nat) (hv : v < 18446744073709551616) : bits .and .u64 (v : Int) 1 = ((v % 2 : Nat) : Int) := by
  rw [← nat_mask1]; exact u64_and_nat v 1 hv (by omega)

end Go.Proofs.YtigjeeedobnmhaaDoor.octet

/-
  The program's own reading of one need (typed over the code of 5ef5b61): for every text of at most two to the forty-seventh bytes. No other condition.
-/
namespace Go.Proofs.YtigjeeedobnmhaaDoor.need
open Go.RowKit Go.ChangeShapes
open Go.Proofs.YtigjeeedobnmhaaDoor.octet (St InAt Frm rdByte rdNum byteIn_any rdNum_ok rdNum_left rdByte_ok)
open Go.Proofs.YtigjeeedobnmhaaDoor.span (pN num_any)
open Go.Proofs.YtigjeeedobnmhaaDoor.objs (De zero put3 put3_far put3_same cells3)
set_option linter.unusedVariables false

/-- What get tells, and leaves. -/
def OnePostN (bi : Nat) (q : De × St) (w : World) (e : Ending) (w' : World) : Prop :=
  e = .returned (.agg #[.int .i64 q.1.1, .int .i64 q.1.2.1, .int .i64 q.1.2.2]) ∧ InAt w' bi q.2 ∧ Frm w.heap.size bi w w'

/-- In the midst of reading: where the reader stands, and what was read. -/
structure Gd (w : World) (bi d : Nat) (k a b : Int) (S : St) (W : World) : Prop where
  inn : InAt W bi S
  b0 : W.heap[w.heap.size]? = some (needBox 0 0 0)
  bd : W.heap[d]? = some (needBox k a b)
  frm : Frm w.heap.size bi w W
  lt : bi < w.heap.size
  h1 : w.heap.size < d
theorem Gd.next {w W W' : World} {bi d : Nat} {k a b : Int} {S S' : St} (h : Gd w bi d k a b S W) (hi : InAt W' bi S') (hf : Frm W.heap.size bi W W') : Gd w bi d k a b S' W' := by
  have e1 := h.lt
  have e2 := h.h1
  have e3 := lt_of_block h.bd
  exact ⟨hi, (hf.block _ (by omega) (by omega)).trans h.b0, (hf.block _ e3 (by omega)).trans h.bd, h.frm.trans (hf.mono h.frm.size), e1, e2⟩
theorem Gd.setA {w W : World} {bi d : Nat} {k a b : Int} {S : St} (h : Gd w bi d k a b S W) (n : Int) : Gd w bi d k n b S (W.setCell ⟨d, 1, none⟩ (.int .i64 n)) := by
  have e1 := h.lt
  have e2 := h.h1
  have hx : ∀ i, i ≠ d → (W.setCell ⟨d, 1, none⟩ (.int .i64 n)).heap[i]? = W.heap[i]? := fun i hi => Below.heap_setCell W ⟨d, 1, none⟩ _ i hi
  refine ⟨(hx bi (by omega)).trans h.inn, (hx _ (by omega)).trans h.b0, ?_, h.frm.setCell (p := ⟨d, 1, none⟩) (.inr (by show w.heap.size ≤ d; omega)) _, e1, e2⟩
  have := h.bd
  unfold needBox at this ⊢
  simp [World.setCell, Array.getElem?_modify, this]
theorem Gd.setB {w W : World} {bi d : Nat} {k a b : Int} {S : St} (h : Gd w bi d k a b S W) (n : Int) : Gd w bi d k a n S (W.setCell ⟨d, 2, none⟩ (.int .i64 n)) := by
  have e1 := h.lt
  have e2 := h.h1
  have hx : ∀ i, i ≠ d → (W.setCell ⟨d, 2, none⟩ (.int .i64 n)).heap[i]? = W.heap[i]? := fun i hi => Below.heap_setCell W ⟨d, 2, none⟩ _ i hi
  refine ⟨(hx bi (by omega)).trans h.inn, (hx _ (by omega)).trans h.b0, ?_, h.frm.setCell (p := ⟨d, 2, none⟩) (.inr (by show w.heap.size ≤ d; omega)) _, e1, e2⟩
  have := h.bd
  unfold needBox at this ⊢
  simp [World.setCell, Array.getElem?_modify, this]
theorem Gd.cells {w W : World} {bi d : Nat} {k a b : Int} {S : St} (h : Gd w bi d k a b S W) :
    (W.cell? ⟨d, 0, none⟩ = some (.int .i64 k) ∧ W.cell? ⟨d, 1, none⟩ = some (.int .i64 a) ∧ W.cell? ⟨d, 2, none⟩ = some (.int .i64 b)) ∧ (W.frozen? ⟨d, 1, none⟩ = false ∧ W.frozen? ⟨d, 2, none⟩ = false) ∧
    (W.cell? ⟨w.heap.size, 0, none⟩ = some (.int .i64 0) ∧ W.cell? ⟨w.heap.size, 1, none⟩ = some (.int .i64 0) ∧ W.cell? ⟨w.heap.size, 2, none⟩ = some (.int .i64 0)) ∧
    (W.frozen? ⟨w.heap.size, 0, none⟩ = false ∧ W.frozen? ⟨w.heap.size, 1, none⟩ = false ∧ W.frozen? ⟨w.heap.size, 2, none⟩ = false) := by
  have h1 := h.bd
  have h2 := h.b0
  unfold needBox at h1 h2
  obtain ⟨x0, x1, x2, _, y1, y2⟩ := cells3 h1
  obtain ⟨v0, v1, v2, z0, z1, z2⟩ := cells3 h2
  exact ⟨⟨x0, x1, x2⟩, ⟨y1, y2⟩, ⟨v0, v1, v2⟩, z0, z1, z2⟩
theorem gd_new {w w2 : World} {bi : Nat} {k : Int} {S : St} (hi : InAt w2 bi S) (hf : Frm (w.alloc (needBox 0 0 0)).heap.size bi (w.alloc (needBox 0 0 0)) w2) (hlt : bi < w.heap.size) : Gd w bi w2.heap.size k 0 0 S (w2.alloc (needBox k 0 0)) := by
  have hz : (w.alloc (needBox 0 0 0)).heap.size = w.heap.size + 1 := World.size_alloc w _
  have hb0 : Below w.heap.size w (w.alloc (needBox 0 0 0)) := (Below.refl _ w).alloc (Nat.le_refl _) _
  have hb : Below w2.heap.size w2 (w2.alloc (needBox k 0 0)) := (Below.refl _ w2).alloc (Nat.le_refl _) _
  have hs := hf.size
  have h0 : w2.heap[w.heap.size]? = some (needBox 0 0 0) := (hf.block _ (by omega) (by omega)).trans (heap_alloc_new w _)
  have hfr : Frm w.heap.size bi w w2 := (Frm.of_below hb0).trans (hf.mono (by omega))
  exact ⟨hi.kept (hb.block _ hi.lt), (hb.block _ (by omega)).trans h0, heap_alloc_new w2 _, hfr.trans (Frm.of_below (hb.mono (by omega))), hlt, by omega⟩

theorem getN_ret {w W : World} {bi d : Nat} {k a b : Int} {S : St} {act : Act} {q : De × St} (hq : q = ((k, a, b), S)) (h2 : act.tmps[2]?.getD undef = .pointer (some ⟨w.heap.size, 0, none⟩)) (hd : act.defers = [])
    (h : Gd w bi d k a b S W) : bodyPost Tryd.prog Tryd.f65 (OnePostN bi q w) .ret act (put3 W w.heap.size (.int .i64 k) (.int .i64 a) (.int .i64 b)) := by
  subst hq
  have h0 := h.b0
  unfold needBox at h0
  have e1 := h.lt
  obtain ⟨x0, x1, x2, _, _, _⟩ := cells3 (put3_same h0 (.int .i64 k) (.int .i64 a) (.int .i64 b))
  refine bodyPost_ret (v := .agg #[.int .i64 k, .int .i64 a, .int .i64 b]) ?_ hd ⟨rfl, h.inn.kept (put3_far (by omega) _ _ _), ((h.frm.setCell (p := ⟨w.heap.size, 0, none⟩) (.inr (Nat.le_refl _)) _).setCell (p := ⟨w.heap.size, 1, none⟩) (.inr (Nat.le_refl _)) _).setCell (p := ⟨w.heap.size, 2, none⟩) (.inr (Nat.le_refl _)) _⟩
  simp [results, Tryd.results65, go_sem, h2, x0, x1, x2]

set_option maxRecDepth 100000 in
set_option maxHeartbeats 4000000 in
theorem getN_any (w : World) (bi : Nat) (s : St) (hi : InAt w bi s) (hok : s.ok) (hl : s.rest.length ≤ 140737488355328) :
    Calls Tryd.prog 65 #[.pointer (some ⟨bi, 0, none⟩)] w (OnePostN bi (pNeed s) w) := by
  have hlt := hi.lt
  have hb1 : Below w.heap.size w (w.alloc (needBox 0 0 0)) := (Below.refl _ w).alloc (Nat.le_refl _) _
  have HB := Lib.hid (byteIn_any _ bi s (hi.kept (hb1.block bi hlt)) hok hl)
  obtain ⟨q, hq⟩ : ∃ q, q = pNeed s := ⟨_, rfl⟩
  have HQ : Hid (q = if 1 ≤ (rdByte s).1 ∧ (rdByte s).1 ≤ 5 then ((((rdByte s).1 : Int), (pN (rdByte s).2).1, (pC (rdByte s).1 (pN (rdByte s).2).2).1), (pC (rdByte s).1 (pN (rdByte s).2).2).2) else ((((rdByte s).1 : Int), 0, 0), (rdByte s).2)) := Lib.hid hq
  rw [← hq]
  clear hq hb1 hi
  have hok1 := rdByte_ok hok
  have hl1 : (rdByte s).2.rest.length ≤ 140737488355328 := Nat.le_trans (rdByte_left s) hl
  generalize rdByte s = p at *
  obtain ⟨k, S⟩ := p
  dsimp only at HB HQ hok1 hl1
  have hok2 := pN_ok hok1
  have hl2 : (pN S).2.rest.length ≤ 140737488355328 := Nat.le_trans (pN_left S) hl1
  have HK := fun W => Lib.hid (known_any (k : Int) W)
  have HCt := fun W => Lib.hid (counts_any (k : Int) W)
  have HN1 := fun W hW => Lib.hid (num_any W bi S hW hok1 hl1)
  have HN2 := fun W hW => Lib.hid (num_any W bi _ hW hok2 hl2)
  go_enter Tryd.func65, Tryd.ntmps65
  unfold needBox at HB
  go_wp2_with fail
  refine HB.out.mono ?_
  rintro e w2 ⟨rfl, hi2, hf2⟩
  have HG := Lib.hid (gd_new (k := (k : Int)) hi2 hf2 hlt)
  clear hi2 hf2 HB
  unfold needBox at HG
  go_upto_region 2 with fail
  generalize w2.alloc (.cells #[.int .i64 (k : Int), .int .i64 0, .int .i64 0] 50) = W2 at *
  generalize w2.heap.size = d at *
  obtain ⟨⟨c0, c1, c2⟩, ⟨g1, g2⟩, ⟨e0, e1, e2⟩, f0, f1, f2⟩ := HG.out.cells
  by_cases hk : 1 ≤ k ∧ k ≤ 5
  · rw [decide_eq_true (by omega)] at HK
    rw [if_pos hk] at HQ
    generalize pN S = n1 at *
    obtain ⟨x, S1⟩ := n1
    dsimp only at HN1 HN2 HQ
    clear hok2 hl2 hok1 hl1
    by_cases h3 : 3 < k
    · rw [decide_eq_true (by omega)] at HCt
      have HC1 : Hid (pC k S1 = pN S1) := Lib.hid (by unfold pC; rw [if_pos h3])
      rw [HC1.out] at HQ
      generalize pN S1 = n2 at *
      obtain ⟨y, S2⟩ := n2
      dsimp only at HN2 HQ
      clear h3 hk HC1
      go_wp2_with fail
      refine (HK _).out.mono ?_
      rintro e w3 ⟨rfl, rfl⟩
      go_wp2_with fail
      refine (HN1 _ HG.out.inn).out.mono ?_
      rintro e w3 ⟨rfl, hi3, hf3⟩
      have HG3 := Lib.hid (HG.out.next hi3 hf3)
      clear c0 c1 c2 g1 g2 e0 e1 e2 f0 f1 f2 hi3 hf3 HG HN1
      obtain ⟨⟨c0, c1, c2⟩, ⟨g1, g2⟩, ⟨e0, e1, e2⟩, f0, f1, f2⟩ := HG3.out.cells
      go_upto_region 4 with fail
      have HG4 := Lib.hid (HG3.out.setA x)
      clear c0 c1 c2 g1 g2 e0 e1 e2 f0 f1 f2 HG3
      generalize w3.setCell ⟨d, 1, none⟩ (.int .i64 x) = W4 at *
      obtain ⟨⟨c0, c1, c2⟩, ⟨g1, g2⟩, ⟨e0, e1, e2⟩, f0, f1, f2⟩ := HG4.out.cells
      go_wp2_with fail
      refine (HCt _).out.mono ?_
      rintro e w3 ⟨rfl, rfl⟩
      go_wp2_with fail
      refine (HN2 _ HG4.out.inn).out.mono ?_
      rintro e w5 ⟨rfl, hi5, hf5⟩
      have HG5 := Lib.hid (HG4.out.next hi5 hf5)
      clear hi5 hf5 HG4 HN2 c0 c1 c2 g1 g2 e0 e1 e2 f0 f1 f2
      obtain ⟨⟨c0, c1, c2⟩, ⟨g1, g2⟩, ⟨e0, e1, e2⟩, f0, f1, f2⟩ := HG5.out.cells
      go_upto_region 6 with fail
      have HG6 := Lib.hid (HG5.out.setB y)
      clear c0 c1 c2 g1 g2 e0 e1 e2 f0 f1 f2 HG5
      generalize w5.setCell ⟨d, 2, none⟩ (.int .i64 y) = W6 at *
      obtain ⟨⟨c0, c1, c2⟩, ⟨g1, g2⟩, ⟨e0, e1, e2⟩, f0, f1, f2⟩ := HG6.out.cells
      go_wp2_with fail
      exact getN_ret HQ.out (by rfl) rfl HG6.out
    · rw [decide_eq_false (by omega)] at HCt
      have HC1 : Hid (pC k S1 = (0, S1)) := Lib.hid (by unfold pC; rw [if_neg h3])
      rw [HC1.out] at HQ
      dsimp only at HQ
      clear h3 hk HC1 HN2
      go_wp2_with fail
      refine (HK _).out.mono ?_
      rintro e w3 ⟨rfl, rfl⟩
      go_wp2_with fail
      refine (HN1 _ HG.out.inn).out.mono ?_
      rintro e w3 ⟨rfl, hi3, hf3⟩
      have HG3 := Lib.hid (HG.out.next hi3 hf3)
      clear c0 c1 c2 g1 g2 e0 e1 e2 f0 f1 f2 hi3 hf3 HG HN1
      obtain ⟨⟨c0, c1, c2⟩, ⟨g1, g2⟩, ⟨e0, e1, e2⟩, f0, f1, f2⟩ := HG3.out.cells
      go_upto_region 4 with fail
      have HG4 := Lib.hid (HG3.out.setA x)
      clear c0 c1 c2 g1 g2 e0 e1 e2 f0 f1 f2 HG3
      generalize w3.setCell ⟨d, 1, none⟩ (.int .i64 x) = W4 at *
      obtain ⟨⟨c0, c1, c2⟩, ⟨g1, g2⟩, ⟨e0, e1, e2⟩, f0, f1, f2⟩ := HG4.out.cells
      go_wp2_with fail
      refine (HCt _).out.mono ?_
      rintro e w3 ⟨rfl, rfl⟩
      go_wp2_with fail
      exact getN_ret HQ.out (by rfl) rfl HG4.out
  · rw [decide_eq_false (by omega)] at HK
    rw [decide_eq_false (by omega)] at HCt
    rw [if_neg hk] at HQ
    clear hk HN1 HN2 hok2 hl2 hok1 hl1
    go_wp2_with fail
    refine (HK _).out.mono ?_
    rintro e w3 ⟨rfl, rfl⟩
    go_wp2_with fail
    refine (HCt _).out.mono ?_
    rintro e w3 ⟨rfl, rfl⟩
    go_wp2_with fail
    exact getN_ret HQ.out (by rfl) rfl HG.out
end Go.Proofs.YtigjeeedobnmhaaDoor.need

/-
  The program's own answer whether a need of a kind that there is asks what may be (typed over the code of 5ef5b61): for every need. The tables must lie where their initialisers lay them.
-/
namespace Go.Proofs.YtigjeeedobnmhaaDoor.need
open Go.RowKit Go.ChangeShapes
open Go.Proofs.YtigjeeedobnmhaaDoor.objs (De zero CellsAt DAt)
open Go.Proofs.YtigjeeedobnmhaaDoor.span (within_any)
set_option linter.unusedVariables false

/-- May the number be that a need has, of an object with numbers y, z? -/
def amount (k : Nat) (b y z : Int) : Bool := if k = 4 then decide (1 ≤ b ∧ b ≤ z) else if k = 5 then decide (1 ≤ b ∧ b ≤ y) else b == 0
theorem oneN_out {d : List De} {kk : Nat} {a b : Int} (h1 : 1 ≤ kk) (h5 : kk ≤ 5) (ho : a < 0 ∨ (d.length : Int) ≤ a) : oneN d ((kk : Int), a, b) = 1 := by
  unfold oneN
  dsimp only
  rw [if_neg (by omega), if_pos (by rcases ho with h | h; exact .inl h; exact .inr (.inl h))]
theorem oneN_in {d : List De} {kk m : Nat} {b x y z : Int} (h1 : 1 ≤ kk) (h5 : kk ≤ 5) (hm : m < d.length) (hd : d.getD m zero = (x, y, z)) : decide (oneN d ((kk : Int), (m : Int), b) = 0) = (!(x != kn kk) && amount kk b y z) := by
  unfold oneN hi lo amount
  dsimp only
  rw [if_neg (by omega), Int.toNat_natCast, hd]
  dsimp only
  by_cases hx : x = kn kk
  · rw [if_neg (by rintro (h | h | h); omega; omega; exact h hx)]
    have e : (x != kn kk) = false := by simp [hx]
    rw [e, Bool.not_false, Bool.true_and]
    by_cases e4 : kk = 4
    · have q1 : (if (kk : Int) = 4 ∨ (kk : Int) = 5 then (1 : Int) else 0) = 1 := if_pos (by omega)
      have q2 : (if (kk : Int) = 4 then z else if (kk : Int) = 5 then y else 0) = z := if_pos (by omega)
      rw [q1, q2, if_pos e4]
      by_cases hc : 1 ≤ b ∧ b ≤ z
      · rw [if_neg (by omega), decide_eq_true hc]; rfl
      · rw [if_pos (by omega), decide_eq_false hc]; rfl
    · by_cases e5 : kk = 5
      · have q1 : (if (kk : Int) = 4 ∨ (kk : Int) = 5 then (1 : Int) else 0) = 1 := if_pos (by omega)
        have q2 : (if (kk : Int) = 4 then z else if (kk : Int) = 5 then y else 0) = y := by rw [if_neg (by omega), if_pos (by omega)]
        rw [q1, q2, if_neg e4, if_pos e5]
        by_cases hc : 1 ≤ b ∧ b ≤ y
        · rw [if_neg (by omega), decide_eq_true hc]; rfl
        · rw [if_pos (by omega), decide_eq_false hc]; rfl
      · have q1 : (if (kk : Int) = 4 ∨ (kk : Int) = 5 then (1 : Int) else 0) = 0 := if_neg (by omega)
        have q2 : (if (kk : Int) = 4 then z else if (kk : Int) = 5 then y else 0) = 0 := by rw [if_neg (by omega), if_neg (by omega)]
        rw [q1, q2, if_neg e4, if_neg e5]
        by_cases hc : b = 0
        · subst hc; rfl
        · rw [if_pos (by omega)]
          simp [hc]
  · rw [if_pos (.inr (.inr hx))]
    have e : (x != kn kk) = true := by simpa using hx
    rw [e]
    rfl

/-- Behind the need's box. -/
structure Nb (w : World) (A : Option Addr) (d : List De) (k a b : Int) (W : World) : Prop where
  below : Below w.heap.size w W
  box : W.cell? ⟨w.heap.size, 0, none⟩ = some (.int .i64 k) ∧ W.cell? ⟨w.heap.size, 1, none⟩ = some (.int .i64 a) ∧ W.cell? ⟨w.heap.size, 2, none⟩ = some (.int .i64 b)
  list : DAt W A d
  ok : Oke W
theorem nb_new {w : World} {A : Option Addr} {d : List De} (k a b : Int) (hA : DAt w A d) (hw : Oke w) : Nb w A d k a b (w.alloc (needBox k a b)) := by
  have hb := nbox_below w k a b
  refine ⟨hb, ?_, hA.next hb, hw.next hb⟩
  unfold World.cell?
  rw [heap_alloc_new w _]
  exact ⟨rfl, rfl, rfl⟩
/-- Behind the object's box. -/
structure Ob (w : World) (g2 : Nat) (k a b x y z : Int) (W : World) : Prop where
  below : Below w.heap.size w W
  box : W.cell? ⟨w.heap.size, 0, none⟩ = some (.int .i64 k) ∧ W.cell? ⟨w.heap.size, 1, none⟩ = some (.int .i64 a) ∧ W.cell? ⟨w.heap.size, 2, none⟩ = some (.int .i64 b)
  obj : W.cell? ⟨g2, 0, none⟩ = some (.int .i64 x) ∧ W.cell? ⟨g2, 1, none⟩ = some (.int .i64 y) ∧ W.cell? ⟨g2, 2, none⟩ = some (.int .i64 z)
  ok : Oke W
def objBox (x y z : Int) : Obj := .cells #[.int .i64 x, .int .i64 y, .int .i64 z] 48
theorem Nb.obj {w W : World} {A : Option Addr} {d : List De} {k a b : Int} (h : Nb w A d k a b W) (x y z : Int) : Ob w W.heap.size k a b x y z (W.alloc (objBox x y z)) := by
  have hb : Below W.heap.size W (W.alloc (objBox x y z)) := (Below.refl _ W).alloc (Nat.le_refl _) _
  have hg : w.heap.size < W.heap.size := by
    rcases Nat.lt_or_ge w.heap.size W.heap.size with h1 | h1
    · exact h1
    · have := h.box.1
      simp [World.cell?, Array.getElem?_eq_none h1] at this
  refine ⟨h.below.trans (hb.mono h.below.size), ?_, ?_, h.ok.next hb⟩
  · rw [hb.cell (p := ⟨w.heap.size, 0, none⟩) hg, hb.cell (p := ⟨w.heap.size, 1, none⟩) hg, hb.cell (p := ⟨w.heap.size, 2, none⟩) hg]
    exact h.box
  · unfold World.cell?
    rw [heap_alloc_new W _]
    exact ⟨rfl, rfl, rfl⟩

set_option maxRecDepth 100000 in
set_option maxHeartbeats 2000000 in
theorem range_out (A : Option Addr) (cap : Nat) (d : List De) (kk : Nat) (a b : Int) (h1 : 1 ≤ kk) (h5 : kk ≤ 5) (ho : a < 0 ∨ (d.length : Int) ≤ a) (w : World) :
    Calls Tryd.prog 45 #[.slice A d.length cap, .agg #[.int .i64 (kk : Int), .int .i64 a, .int .i64 b]] w fun e w' => e = .returned (.bool (decide (oneN d ((kk : Int), a, b) = 0))) ∧ Below w.heap.size w w' := by
  rw [oneN_out h1 h5 ho, decide_eq_false (by decide)]
  have HB := Lib.hid (nbox_below w (kk : Int) a b)
  unfold needBox at HB
  by_cases h0 : a < 0
  · have d0 : decide (a < 0) = true := by simpa using h0
    clear ho h0
    go_enter Tryd.func45, Tryd.ntmps45
    go_wp2
    go_ret
    exact ⟨rfl, HB.out⟩
  · have d0 : decide (a < 0) = false := by simpa using h0
    have dl : decide ((d.length : Int) ≤ a) = true := by simp; omega
    clear ho h0
    go_enter Tryd.func45, Tryd.ntmps45
    go_wp2
    go_ret
    exact ⟨rfl, HB.out⟩

set_option maxRecDepth 100000 in
set_option maxHeartbeats 4000000 in
theorem range_in (A : Option Addr) (cap : Nat) (d : List De) (kk m : Nat) (b : Int) (h1 : 1 ≤ kk) (h5 : kk ≤ 5) (hm : m < d.length) (hl : d.length ≤ 9223372036854775807) (w : World) (hA : DAt w A d) (hw : Oke w) :
    Calls Tryd.prog 45 #[.slice A d.length cap, .agg #[.int .i64 (kk : Int), .int .i64 (m : Int), .int .i64 b]] w fun e w' => e = .returned (.bool (decide (oneN d ((kk : Int), (m : Int), b) = 0))) ∧ Below w.heap.size w w' := by
  obtain ⟨⟨x, y, z⟩, hdm⟩ : ∃ t : De, d.getD m zero = t := ⟨_, rfl⟩
  obtain ⟨r, hr⟩ : ∃ r, r = decide (oneN d ((kk : Int), (m : Int), b) = 0) := ⟨_, rfl⟩
  rw [← hr]
  have HR := Lib.hid (hr.trans (oneN_in h1 h5 hm hdm))
  have HN := Lib.hid (nb_new (kk : Int) (m : Int) b hA hw)
  have HO := Lib.hid (HN.out.obj x y z)
  have H1 := fun W => Lib.hid (within_any b 1 z W)
  have H2 := fun W => Lib.hid (within_any b 1 y W)
  have d0 : decide ((m : Int) < 0) = false := by simp
  have dl : decide (d.length ≤ m) = false := by simp; omega
  have dm : (m : Int) < (d.length : Int) := by omega
  have dm0 : (0 : Int) ≤ (m : Int) := by omega
  have dk : (kk : Int) < 6 := by omega
  have dk0 : (0 : Int) ≤ (kk : Int) := by omega
  have hb0 := hA.next (nbox_below w (kk : Int) (m : Int) b)
  obtain ⟨b0, off, rfl, hbl, x0, x1, x2⟩ := hb0 m hm
  rw [hdm] at x0 x1 x2
  dsimp only at x0 x1 x2
  obtain ⟨c0, c1, c2⟩ := HN.out.box
  have hk := asked_kn h1 h5
  have HK := Lib.hid (And.intro h1 h5)
  unfold needBox at HO c0 c1 c2 x0 x1 x2
  rw [World.size_alloc] at HO
  unfold objBox at HO
  clear hA hw hm h1 h5 hb0 hbl HN hdm hr
  go_enter Tryd.func45, Tryd.ntmps45
  go_upto_region 4 with fail
  clear c0 c1 c2 x0 x1 x2
  generalize (w.alloc (.cells #[.int .i64 (kk : Int), .int .i64 (m : Int), .int .i64 b] 50)).alloc (.cells #[.int .i64 x, .int .i64 y, .int .i64 z] 48) = W at *
  obtain ⟨c0, c1, c2⟩ := HO.out.box
  obtain ⟨x0, x1, x2⟩ := HO.out.obj
  have ck := HO.out.ok.tab.ak kk (by omega)
  rw [hk] at ck
  cases hx : (x != kn (kk : Int)) with
  | true =>
    have HE : Hid (r = false) := Lib.hid (by rw [HR.out, hx]; rfl)
    go_quiet (fail)
    go_wp2
    go_ret
    exact ⟨ret_bool (by rw [HE.out]), below_drewN HO.out.below _⟩
  | false =>
    have HE : Hid (r = amount kk b y z) := Lib.hid (by rw [HR.out, hx, Bool.not_false, Bool.true_and])
    clear HR
    unfold amount at HE
    by_cases e4 : kk = 4
    · rw [if_pos e4] at HE
      have f4 : ((kk : Int) == 4) = true := by simp; omega
      clear e4
      go_quiet (fail)
      go_wp2_with fail
      refine (H1 _).out.mono ?_
      rintro e w1 ⟨rfl, rfl⟩
      go_wp2
      go_ret
      exact ⟨ret_bool (by rw [HE.out, Bool.decide_and]), below_drewN HO.out.below _⟩
    · rw [if_neg e4] at HE
      have f4 : ((kk : Int) == 4) = false := by simp; omega
      by_cases e5 : kk = 5
      · rw [if_pos e5] at HE
        have f5 : ((kk : Int) == 5) = true := by simp; omega
        clear e4 e5
        go_quiet (fail)
        go_wp2_with fail
        refine (H2 _).out.mono ?_
        rintro e w1 ⟨rfl, rfl⟩
        go_wp2
        go_ret
        exact ⟨ret_bool (by rw [HE.out, Bool.decide_and]), below_drewN HO.out.below _⟩
      · rw [if_neg e5] at HE
        have f5 : ((kk : Int) == 5) = false := by simp; omega
        clear e4 e5
        go_quiet (fail)
        go_wp2
        go_ret
        exact ⟨ret_bool HE.out.symm, below_drewN HO.out.below _⟩

theorem range_any (A : Option Addr) (cap : Nat) (d : List De) (n : De) (hk : 1 ≤ n.1 ∧ n.1 ≤ 5) (hl : d.length ≤ 9223372036854775807) (w : World) (hA : DAt w A d) (hw : Oke w) :
    Calls Tryd.prog 45 #[.slice A d.length cap, .agg #[.int .i64 n.1, .int .i64 n.2.1, .int .i64 n.2.2]] w fun e w' => e = .returned (.bool (decide (oneN d n = 0))) ∧ Below w.heap.size w w' := by
  obtain ⟨k, a, b⟩ := n
  dsimp only at hk ⊢
  obtain ⟨kk, rfl⟩ : ∃ kk : Nat, k = (kk : Int) := ⟨k.toNat, by omega⟩
  by_cases ho : a < 0 ∨ (d.length : Int) ≤ a
  · exact range_out A cap d kk a b (by omega) (by omega) ho w
  · obtain ⟨m, rfl⟩ : ∃ m : Nat, a = (m : Int) := ⟨a.toNat, by omega⟩
    exact range_in A cap d kk m b (by omega) (by omega) (by omega) hl w hA hw
end Go.Proofs.YtigjeeedobnmhaaDoor.need

/-
  The document's own answer what is wrong with a wait: also of one that is longer than may be. No condition but that its lengths are ints.
-/
namespace Go.Proofs.YtigjeeedobnmhaaDoor.need
open Go.RowKit Go.ChangeShapes
open Go.Proofs.YtigjeeedobnmhaaDoor.objs (De zero CellsAt DAt below_drewN)
set_option linter.unusedVariables false

theorem clashTo_yes {l : List De} {k j : Nat} (hj : j < k) (h : clash (l.getD j zero) (l.getD k zero) = true) : ∀ m, j < m → clashTo l k m = true := by
  intro m
  induction m with
  | zero => intro h; omega
  | succ m ih =>
    intro hm
    unfold clashTo
    rcases Nat.lt_or_ge j m with h1 | h1
    · rw [ih h1, Bool.true_or]
    · obtain rfl : m = j := by omega
      rw [h, Bool.or_true]
theorem twiceTo_yes {l : List De} {k : Nat} (h : clashTo l k k = true) : ∀ m, k < m → twiceTo l m = true := by
  intro m
  induction m with
  | zero => intro h; omega
  | succ m ih =>
    intro hm
    unfold twiceTo
    rcases Nat.lt_or_ge k m with h1 | h1
    · rw [ih h1, Bool.true_or]
    · obtain rfl : m = k := by omega
      rw [h, Bool.or_true]
theorem chkWay_2 {d l : List De} (h : l.length = 0) : chkWay d l = 2 := by unfold chkWay; rw [if_pos h]
theorem chkWay_4 {d l : List De} (h : 4 < l.length) : chkWay d l = 4 := by unfold chkWay; rw [if_neg (by omega), if_pos h]
theorem chkWay_bad {d l : List De} (h0 : l.length ≠ 0) (h4 : ¬ 4 < l.length) (h : ones d l ≠ 0) : chkWay d l = ones d l := by unfold chkWay; rw [if_neg h0, if_neg h4, if_pos h]
theorem chkWay_twice {d l : List De} (h0 : l.length ≠ 0) (h4 : ¬ 4 < l.length) (h1 : ones d l = 0) (h : twiceTo l l.length = true) : chkWay d l = 2 := by unfold chkWay; rw [if_neg h0, if_neg h4, if_neg (by omega), if_pos h]
theorem chkWay_fine {d l : List De} (h0 : l.length ≠ 0) (h4 : ¬ 4 < l.length) (h1 : ones d l = 0) (h : twiceTo l l.length = false) : chkWay d l = 0 := by unfold chkWay; rw [if_neg h0, if_neg h4, if_neg (by omega), if_neg (by rw [h]; decide)]

def ChkPost9 (c : Nat) (w : World) (e : Ending) (w' : World) : Prop := e = .returned (.int .i64 (c : Nat)) ∧ Below w.heap.size w w'
set_option maxHeartbeats 1000000 in
theorem refCheck9_2 (A B : Option Addr) (nd capd capw : Nat) (w : World) : Calls Tryd.prog 11 #[.slice A nd capd, .slice B 0 capw] w (ChkPost9 2 w) := by
  unfold ChkPost9
  go_enter Tryd.func11, Tryd.ntmps11
  go_wp2_with fail
  go_ret
  exact ⟨rfl, Below.refl _ _⟩
set_option maxHeartbeats 1000000 in
theorem refCheck9_4 (A B : Option Addr) (nd capd n capw : Nat) (hn : 4 < n) (w : World) : Calls Tryd.prog 11 #[.slice A nd capd, .slice B n capw] w (ChkPost9 4 w) := by
  unfold ChkPost9
  have h0 : ((n : Int) == 0) = false := by simp; omega
  have h4 : decide ((4 : Int) < (n : Int)) = true := by simp; omega
  clear hn
  go_enter Tryd.func11, Tryd.ntmps11
  go_wp2_with fail
  go_ret
  exact ⟨rfl, Below.refl _ _⟩

set_option maxRecDepth 100000 in
set_option maxHeartbeats 16000000 in
theorem refCheck9_any (A B : Option Addr) (capd n capw : Nat) (d : List De) (l : List (List De)) (hdl : d.length ≤ 9223372036854775807) (w : World) (hA : DAt w A d) (hB : WG w B n l) :
    Calls Tryd.prog 11 #[.slice A d.length capd, .slice B n capw] w (ChkPost9 (chkW d l) w) := by
  have hmin := hB.1
  by_cases h0 : n = 0
  · subst h0
    have e : chkW d l = 2 := by unfold chkW; rw [if_pos (by omega)]
    rw [e]
    exact refCheck9_2 A B d.length capd capw w
  · by_cases h4 : 4 < n
    · have e : chkW d l = 4 := by unfold chkW; rw [if_neg (by omega), if_pos (by omega)]
      rw [e]
      exact refCheck9_4 A B d.length capd n capw h4 w
    · obtain rfl : n = l.length := by omega
      obtain ⟨v, hv⟩ : ∃ v, v = chkW d l := ⟨_, rfl⟩
      have HV : Hid (v = ways d l) := Lib.hid (by rw [hv]; unfold chkW; rw [if_neg h0, if_neg h4])
      rw [← hv]
      unfold ChkPost9
      have hb0 : ((l.length : Int) == 0) = false := by simp; intro h; exact h0 (by rw [h]; rfl)
      have hb4 : decide ((4 : Int) < (l.length : Int)) = false := by simp; omega
      have HA := Lib.hid hA
      have HB := Lib.hid hB
      have HL4 := Lib.hid h4
      clear hA hB hv hmin h0 h4
      go_enter Tryd.func11, Tryd.ntmps11
      go_wp2_with fail
      go_loopw [5] (fun i wr => ∃ j : Nat, j ≤ l.length ∧ i = .int .i64 (j : Int) ∧ Hid (v = ways d (l.drop j)) ∧ Hid (Below w.heap.size w wr)) (fun i _ => l.length - (intOf i).toNat)
      case atStart => exact ⟨0, Nat.zero_le _, rfl, by simpa using HV, Lib.hid (Below.refl _ _)⟩
      case round =>
        obtain ⟨j, hj, rfl, HJ, HW⟩ := hrel
        by_cases hlt : j < l.length
        · have HNx := Lib.hid (ways_drop (d := d) hlt)
          obtain ⟨b, off, Aj, nj, cj, rfl, hbl, hc, hdj, hmj, _, _, _⟩ := (HB.out.next HW.out).2 j hlt
          have HD0 := Lib.hid ((HB.out).2 j hlt)
          have hlt' : (j : Int) < (l.length : Int) := by omega
          have hj0 : (0 : Int) ≤ (j : Int) := by omega
          generalize l.getD j [] = lj at *
          by_cases n0 : nj = 0
          · subst n0
            have HR : Hid (v = 2) := Lib.hid (by rw [HJ.out, HNx.out, chkWay_2 (by omega)]; rfl)
            clear hdj hmj
            go_wp2_with fail
            go_ret
            exact ⟨by rw [HR.out]; rfl, HW.out⟩
          · by_cases n4 : 4 < nj
            · have HR : Hid (v = 4) := Lib.hid (by rw [HJ.out, HNx.out, chkWay_4 (by omega)]; rfl)
              have q0 : ((nj : Int) == 0) = false := by simp; omega
              have q4 : decide ((4 : Int) < (nj : Int)) = true := by simp; omega
              clear hdj hmj n0 n4
              go_wp2_with fail
              go_ret
              exact ⟨by rw [HR.out]; rfl, HW.out⟩
            · obtain rfl : nj = lj.length := by omega
              have q0 : ((lj.length : Int) == 0) = false := by simp; intro h; exact n0 (by rw [h]; rfl)
              have q4 : decide ((4 : Int) < (lj.length : Int)) = false := by simp; omega
              have HDj := Lib.hid hdj
              have HN := Lib.hid (And.intro n0 n4)
              clear hdj hmj n0 n4
              go_wp2_with fail
              go_loopw [7] (fun i wr => ∃ k : Nat, k ≤ lj.length ∧ i = .int .i64 (k : Int) ∧ Hid (ones d lj = ones d (lj.drop k)) ∧ Hid (Below w.heap.size w wr) ∧ Hid (DAt wr Aj lj)) (fun i _ => lj.length - (intOf i).toNat)
              case atStart => exact ⟨0, Nat.zero_le _, rfl, Lib.hid (by simp), HW, HDj⟩
              case round =>
                obtain ⟨k, hk, rfl, HK, HW2, HD2⟩ := hrel
                by_cases hlk : k < lj.length
                · have HNk := Lib.hid (ones_drop (d := d) hlk)
                  obtain ⟨bj, offj, rfl, hblj, c0, c1, c2⟩ := HD2.out k hlk
                  have hlk' : (k : Int) < (lj.length : Int) := by omega
                  have hk0 : (0 : Int) ≤ (k : Int) := by omega
                  have HO := Lib.hid (refOne9_any A capd d (lj.getD k zero) hdl wr (HA.out.next HW2.out))
                  unfold OnePost9 at HO
                  generalize lj.getD k zero = t at *
                  generalize oneN d t = q at *
                  obtain ⟨tk, tob, tn⟩ := t
                  dsimp only at HO c0 c1 c2
                  go_wp2_with fail
                  refine HO.out.mono ?_
                  rintro e w3 ⟨rfl, hb3⟩
                  have HW3 := Lib.hid (HW2.out.trans (hb3.mono HW2.out.size))
                  have HD3 := Lib.hid (HD2.out.next hb3)
                  clear hb3 c0 c1 c2 HO
                  by_cases hq : q = 0
                  · have HE : Hid (ones d lj = ones d (lj.drop (k + 1))) := Lib.hid (by rw [HK.out, HNk.out, if_neg (by simp [hq])])
                    have hq' : ((q : Int) != 0) = false := by simp [hq]
                    clear hq
                    go_wp2
                    go_roundw
                    case rel => exact ⟨k + 1, by omega, by go_num, HE, HW3, HD3⟩
                    case measure => simp [intOf]; omega
                  · have HE : Hid (ones d lj = q) := Lib.hid (by rw [HK.out, HNk.out, if_pos hq])
                    have HR : Hid (v = q) := Lib.hid (by
                      have h1 : chkWay d lj = q := by rw [chkWay_bad HN.out.1 HN.out.2 (by rw [HE.out]; exact hq), HE.out]
                      rw [HJ.out, HNx.out, h1, if_pos hq])
                    have hq' : ((q : Int) != 0) = true := by simpa using hq
                    clear hq
                    go_wp2
                    go_ret
                    exact ⟨by rw [HR.out]; rfl, HW3.out⟩
                · obtain rfl : k = lj.length := by omega
                  have H1 : Hid (ones d lj = 0) := Lib.hid (by rw [HK.out, List.drop_length]; rfl)
                  go_wp2_with fail
                  go_loopw [9] (fun i wr => ∃ k : Nat, k ≤ lj.length ∧ i = .int .i64 (k : Int) ∧ Hid (twiceTo lj k = false) ∧ Hid (Below w.heap.size w wr) ∧ Hid (DAt wr Aj lj)) (fun i _ => lj.length - (intOf i).toNat)
                  case atStart => exact ⟨0, Nat.zero_le _, rfl, Lib.hid rfl, HW2, HD2⟩
                  case round =>
                    obtain ⟨k, hk3, rfl, HT, HW3, HD3⟩ := hrel
                    by_cases hlk : k < lj.length
                    · have hlk' : (k : Int) < (lj.length : Int) := by omega
                      have hk0 : (0 : Int) ≤ (k : Int) := by omega
                      go_wp2_with fail
                      go_loopw [10] (fun i wr => ∃ jj : Nat, jj ≤ k ∧ i = .int .i64 (jj : Int) ∧ Hid (clashTo lj k jj = false) ∧ Hid (Below w.heap.size w wr) ∧ Hid (DAt wr Aj lj)) (fun i _ => k - (intOf i).toNat)
                      case atStart => exact ⟨0, Nat.zero_le _, rfl, Lib.hid rfl, HW3, HD3⟩
                      case round =>
                        obtain ⟨jj, hjj, rfl, HCl, HWc, HDc⟩ := hrel
                        by_cases hlj : jj < k
                        · have hlj' : (jj : Int) < (k : Int) := by omega
                          have hjj0 : (0 : Int) ≤ (jj : Int) := by omega
                          have hjl' : (jj : Int) < (lj.length : Int) := by omega
                          obtain ⟨bj, offj, rfl, hblj, x0, x1, x2⟩ := HDc.out jj (by omega)
                          obtain ⟨b2, off2, hAe, hbl2, y0, y1, y2⟩ := HDc.out k hlk
                          injection hAe with hAe
                          injection hAe with hAe1 hAe2
                          subst hAe1 hAe2
                          generalize hta : lj.getD jj zero = ta at *
                          generalize htb : lj.getD k zero = tb at *
                          obtain ⟨ak, ao, an⟩ := ta
                          obtain ⟨bk, bo, bn⟩ := tb
                          dsimp only at x0 x1 x2 y0 y1 y2
                          cases e1 : (ao == bo) with
                          | true =>
                            have HC : Hid (clash (ak, ao, an) (bk, bo, bn) = true) := Lib.hid (by unfold clash; dsimp only; rw [e1, Bool.true_or])
                            have HR : Hid (v = 2) := Lib.hid (by
                              have h1 : twiceTo lj lj.length = true := twiceTo_yes (clashTo_yes hlj (by rw [hta, htb]; exact HC.out) k hlj) lj.length hlk
                              rw [HJ.out, HNx.out, chkWay_twice HN.out.1 HN.out.2 H1.out h1]
                              rfl)
                            clear hta htb HC
                            go_wp2_with fail
                            go_quiet (fail)
                            go_wp2
                            go_ret
                            exact ⟨by rw [HR.out]; rfl, below_drewN HWc.out _⟩
                          | false =>
                            cases e2 : (ak == 4) with
                            | true =>
                              have HC : Hid (clash (ak, ao, an) (bk, bo, bn) = true) := Lib.hid (by unfold clash; dsimp only; rw [e1, e2, Bool.true_or, Bool.or_true])
                              have HR : Hid (v = 2) := Lib.hid (by
                                have h1 : twiceTo lj lj.length = true := twiceTo_yes (clashTo_yes hlj (by rw [hta, htb]; exact HC.out) k hlj) lj.length hlk
                                rw [HJ.out, HNx.out, chkWay_twice HN.out.1 HN.out.2 H1.out h1]
                                rfl)
                              clear hta htb HC
                              go_wp2_with fail
                              go_quiet (fail)
                              go_wp2
                              go_ret
                              exact ⟨by rw [HR.out]; rfl, below_drewN HWc.out _⟩
                            | false =>
                              cases e3 : (bk == 4) with
                              | true =>
                                have HC : Hid (clash (ak, ao, an) (bk, bo, bn) = true) := Lib.hid (by unfold clash; dsimp only; rw [e1, e2, e3, Bool.false_or, Bool.false_or])
                                have HR : Hid (v = 2) := Lib.hid (by
                                  have h1 : twiceTo lj lj.length = true := twiceTo_yes (clashTo_yes hlj (by rw [hta, htb]; exact HC.out) k hlj) lj.length hlk
                                  rw [HJ.out, HNx.out, chkWay_twice HN.out.1 HN.out.2 H1.out h1]
                                  rfl)
                                clear hta htb HC
                                go_wp2_with fail
                                go_quiet (fail)
                                go_wp2
                                go_ret
                                exact ⟨by rw [HR.out]; rfl, below_drewN HWc.out _⟩
                              | false =>
                                have HC : Hid (clashTo lj k (jj + 1) = false) := Lib.hid (by
                                  unfold clashTo
                                  rw [HCl.out, hta, htb]
                                  unfold clash
                                  dsimp only
                                  rw [e1, e2, e3]
                                  rfl)
                                clear hta htb
                                go_wp2_with fail
                                go_quiet (fail)
                                go_wp2
                                go_roundw
                                case rel => exact ⟨jj + 1, by omega, by go_num, HC, Lib.hid (below_drewN HWc.out _), Lib.hid (HDc.out.drewN _)⟩
                                case measure => simp [intOf]; omega
                        · obtain rfl : jj = k := by omega
                          have HT2 : Hid (twiceTo lj (jj + 1) = false) := Lib.hid (by unfold twiceTo; rw [HT.out, HCl.out]; rfl)
                          go_wp2_with fail
                          go_roundw
                          case rel => exact ⟨jj + 1, by omega, by go_num, HT2, HWc, HDc⟩
                          case measure => simp [intOf]; omega
                    · obtain rfl : k = lj.length := by omega
                      have HE : Hid (v = ways d (l.drop (j + 1))) := Lib.hid (by rw [HJ.out, HNx.out, chkWay_fine HN.out.1 HN.out.2 H1.out HT.out]; rfl)
                      have hl4 := HL4.out
                      go_wp2_with fail
                      go_roundw
                      case rel => exact ⟨j + 1, by omega, by go_num, HE, HW3⟩
                      case measure => simp [intOf]; omega
        · obtain rfl : j = l.length := by omega
          have HR : Hid (v = 0) := Lib.hid (by rw [HJ.out, List.drop_length]; rfl)
          go_wp2_with fail
          go_ret
          exact ⟨by rw [HR.out]; rfl, HW.out⟩
end Go.Proofs.YtigjeeedobnmhaaDoor.need

/-
  The plain mathematics of sets of numbers from 0 to 63, as numbers below two to the sixty-fourth: what is in one, with a number and without it, all moved. It speaks of numbers and lists alone.
-/
namespace Go.Proofs.YtigjeeedobnmhaaDoor.bits

/-- One with all its numbers below 64. -/
def Is64 (s : Nat) : Prop := s < 18446744073709551616
theorem two64 : (2 : Nat) ^ 64 = 18446744073709551616 := rfl
theorem ext64 {s t : Nat} (hs : Is64 s) (ht : Is64 t) (h : ∀ n, n < 64 → s.testBit n = t.testBit n) : s = t := by
  apply Nat.eq_of_testBit_eq
  intro n
  by_cases hn : n < 64
  · exact h n hn
  · have hp : (2 : Nat) ^ 64 ≤ 2 ^ n := Nat.pow_le_pow_right (by omega) (by omega)
    unfold Is64 at hs ht
    rw [Nat.testBit_lt_two_pow (by omega), Nat.testBit_lt_two_pow (by omega)]

theorem testBit_div (s n : Nat) : s.testBit n = decide (s / 2 ^ n % 2 = 1) := by
  rw [Nat.testBit_eq_decide_div_mod_eq]

/-- A number more: the weight of one that is not there. -/
theorem add_pow {s n : Nat} (h : s.testBit n = false) : s + 2 ^ n = s ||| 2 ^ n := by
  have h1 : s / 2 ^ n % 2 = 0 := by
    rw [testBit_div] at h
    have h2 : ¬ s / 2 ^ n % 2 = 1 := by simpa using h
    omega
  have hp : 0 < 2 ^ n := Nat.two_pow_pos n
  have hlo : s % 2 ^ n < 2 ^ n := Nat.mod_lt _ hp
  have hs : s = s / 2 ^ n * 2 ^ n + s % 2 ^ n := by rw [Nat.mul_comm]; exact (Nat.div_add_mod s (2 ^ n)).symm
  obtain ⟨q, hq⟩ : ∃ q, s / 2 ^ n = 2 * q := ⟨s / 2 ^ n / 2, by omega⟩
  have hhi : s / 2 ^ n * 2 ^ n = q * 2 ^ (n + 1) := by rw [hq, Nat.pow_succ, Nat.mul_comm 2 q, Nat.mul_assoc, Nat.mul_comm 2 (2 ^ n)]
  generalize s % 2 ^ n = lo at *
  rw [hhi] at hs
  have e1 : q * 2 ^ (n + 1) ||| lo = q * 2 ^ (n + 1) + lo := nat_join (n + 1) _ lo (Nat.mul_mod_left _ _) (by rw [Nat.pow_succ]; omega)
  have e2 : 2 ^ n ||| lo = 2 ^ n + lo := nat_join n _ lo (Nat.mod_self _) hlo
  have e3 : q * 2 ^ (n + 1) ||| (2 ^ n + lo) = q * 2 ^ (n + 1) + (2 ^ n + lo) := nat_join (n + 1) _ _ (Nat.mul_mod_left _ _) (by rw [Nat.pow_succ]; omega)
  rw [hs, ← e1, Nat.or_assoc, Nat.or_comm lo, e2, e3, e1]
  omega

def ins (s n : Nat) : Nat := if s.testBit n then s else s + 2 ^ n
def del (s n : Nat) : Nat := if s.testBit n then s - 2 ^ n else s
theorem ins_or (s n : Nat) : ins s n = s ||| 2 ^ n := by
  unfold ins
  by_cases h : s.testBit n = true
  · rw [if_pos h]
    apply Nat.eq_of_testBit_eq
    intro m
    rw [Nat.testBit_or, Nat.testBit_two_pow]
    by_cases hm : n = m
    · subst hm; simp [h]
    · simp [hm]
  · have h' : s.testBit n = false := by simpa using h
    rw [if_neg h, add_pow h']
theorem testBit_ins (s n m : Nat) : (ins s n).testBit m = (s.testBit m || decide (n = m)) := by
  rw [ins_or, Nat.testBit_or, Nat.testBit_two_pow]
theorem ins_lt {s n : Nat} (hs : Is64 s) (hn : n < 64) : Is64 (ins s n) := by
  unfold Is64 at *
  rw [ins_or, ← two64]
  exact Nat.or_lt_two_pow (by rw [two64]; exact hs) (Nat.pow_lt_pow_right (by omega) hn)
/-- Without a number that is there, and with it again. -/
theorem del_spec {s n : Nat} (h : s.testBit n = true) : ∃ t, s = t + 2 ^ n ∧ t.testBit n = false ∧ del s n = t := by
  have h1 : s / 2 ^ n % 2 = 1 := by
    rw [testBit_div] at h
    simpa using h
  have hp : 0 < 2 ^ n := Nat.two_pow_pos n
  have hge : 2 ^ n ≤ s := by
    rcases Nat.lt_or_ge s (2 ^ n) with hl | hl
    · rw [Nat.div_eq_of_lt hl] at h1
      omega
    · exact hl
  refine ⟨s - 2 ^ n, by omega, ?_, by unfold del; rw [if_pos h]⟩
  rw [testBit_div]
  have e : (s - 2 ^ n) / 2 ^ n = s / 2 ^ n - 1 := by
    have := Nat.sub_mul_div s (2 ^ n) 1
    simpa using this
  rw [e, decide_eq_false_iff_not]
  omega
theorem testBit_del (s n m : Nat) : (del s n).testBit m = (s.testBit m && !decide (n = m)) := by
  by_cases h : s.testBit n = true
  · obtain ⟨t, hs, ht, hd⟩ := del_spec h
    rw [hd, hs, add_pow ht, Nat.testBit_or, Nat.testBit_two_pow]
    by_cases hm : n = m
    · subst hm; simp [ht]
    · simp [hm]
  · have h' : s.testBit n = false := by simpa using h
    unfold del
    rw [if_neg h]
    by_cases hm : n = m
    · subst hm; simp [h']
    · simp [hm]
theorem del_le (s n : Nat) : del s n ≤ s := by
  unfold del
  split
  · exact Nat.sub_le _ _
  · exact Nat.le_refl _

/-- All that is in a set, rising. -/
def els (s : Nat) : List Nat := (List.range 64).filter fun n => s.testBit n
theorem mem_els {s n : Nat} : n ∈ els s ↔ n < 64 ∧ s.testBit n = true := by simp [els]
theorem els_rising (s : Nat) : (els s).Pairwise (· < ·) := List.Pairwise.filter _ List.pairwise_lt_range

/-- The set of a list. -/
def ofs (l : List Nat) : Nat := l.foldl ins 0
theorem foldl_ins (l : List Nat) : ∀ s m, (l.foldl ins s).testBit m = (s.testBit m || decide (m ∈ l)) := by
  induction l with
  | nil => intro s m; simp
  | cons n l ih =>
    intro s m
    rw [List.foldl_cons, ih, testBit_ins]
    by_cases hm : n = m
    · subst hm; simp
    · have hm' : ¬ m = n := fun e => hm e.symm
      simp [hm, hm']
theorem testBit_ofs (l : List Nat) (m : Nat) : (ofs l).testBit m = decide (m ∈ l) := by
  unfold ofs
  rw [foldl_ins]
  simp
theorem foldl_lt (l : List Nat) : ∀ s, Is64 s → (∀ n ∈ l, n < 64) → Is64 (l.foldl ins s) := by
  induction l with
  | nil => intro s hs _; exact hs
  | cons n l ih =>
    intro s hs h
    rw [List.foldl_cons]
    exact ih _ (ins_lt hs (h n (List.mem_cons_self ..))) fun m hm => h m (List.mem_cons_of_mem _ hm)
theorem ofs_lt {l : List Nat} (h : ∀ n ∈ l, n < 64) : Is64 (ofs l) := foldl_lt l 0 (by unfold Is64; omega) h
theorem ofs_els {s : Nat} (hs : Is64 s) : ofs (els s) = s := by
  refine ext64 (ofs_lt fun n hn => (mem_els.1 hn).1) hs fun n hn => ?_
  rw [testBit_ofs]
  by_cases h : s.testBit n = true
  · rw [h, decide_eq_true_iff]; exact mem_els.2 ⟨hn, h⟩
  · have h' : s.testBit n = false := by simpa using h
    rw [h', decide_eq_false_iff_not]
    intro hm
    exact h (mem_els.1 hm).2

/-- All moved by k, from 0 to 63. -/
def up (s k : Nat) : Nat := ofs ((els s).map fun n => (n + k) % 64)
theorem up_lt (s k : Nat) : Is64 (up s k) := ofs_lt fun n hn => by
  obtain ⟨m, _, rfl⟩ := List.mem_map.1 hn
  omega
theorem testBit_up {s k m : Nat} (hk : k < 64) (hm : m < 64) : (up s k).testBit m = s.testBit ((m + (64 - k)) % 64) := by
  unfold up
  rw [testBit_ofs]
  by_cases h : s.testBit ((m + (64 - k)) % 64) = true
  · rw [h, decide_eq_true_iff]
    exact List.mem_map.2 ⟨(m + (64 - k)) % 64, mem_els.2 ⟨by omega, h⟩, by omega⟩
  · have h' : s.testBit ((m + (64 - k)) % 64) = false := by simpa using h
    rw [h', decide_eq_false_iff_not]
    intro hmem
    obtain ⟨n, hn, hnm⟩ := List.mem_map.1 hmem
    obtain ⟨hn64, hb⟩ := mem_els.1 hn
    have e : (m + (64 - k)) % 64 = n := by omega
    rw [e] at h
    exact h hb
theorem up_up {s a b : Nat} (ha : a < 64) (hb : b < 64) : up (up s a) b = up s ((a + b) % 64) := by
  refine ext64 (up_lt _ _) (up_lt _ _) fun m hm => ?_
  rw [testBit_up hb hm, testBit_up ha (by omega), testBit_up (by omega) hm]
  congr 1
  omega
theorem up_zero {s : Nat} (hs : Is64 s) : up s 0 = s := by
  refine ext64 (up_lt _ _) hs fun m hm => ?_
  rw [testBit_up (by omega) hm]
  congr 1
  omega
theorem up_back {s a : Nat} (hs : Is64 s) (ha : a < 64) : up (up s a) ((64 - a) % 64) = s := by
  rw [up_up ha (by omega)]
  have e : (a + (64 - a) % 64) % 64 = 0 := by omega
  rw [e, up_zero hs]
/-- As a computer turns it. -/
theorem up_turn {s k : Nat} (hs : Is64 s) (hk : k < 64) : up s k = s * 2 ^ k % 18446744073709551616 ||| s / 2 ^ (64 - k) := by
  refine ext64 (up_lt _ _) ?_ fun m hm => ?_
  · unfold Is64 at *
    rw [← two64]
    refine Nat.or_lt_two_pow (Nat.mod_lt _ (Nat.two_pow_pos _)) ?_
    exact Nat.lt_of_le_of_lt (Nat.div_le_self _ _) (by rw [two64]; exact hs)
  · rw [testBit_up hk hm, Nat.testBit_or, ← two64, Nat.testBit_mod_two_pow, Nat.testBit_mul_two_pow, Nat.testBit_div_two_pow]
    by_cases hmk : k ≤ m
    · have e : (m + (64 - k)) % 64 = m - k := by omega
      have hbig : s.testBit (64 - k + m) = false := by
        refine Nat.testBit_lt_two_pow (Nat.lt_of_lt_of_le hs ?_)
        rw [← two64]
        exact Nat.pow_le_pow_right (by omega) (by omega)
      have hbig' : s.testBit (m + (64 - k)) = false := by rw [Nat.add_comm]; exact hbig
      rw [e]
      simp [hm, hmk, hbig']
    · have e : (m + (64 - k)) % 64 = m + (64 - k) := by omega
      rw [e]
      simp [hm, hmk]

/-- As many as before. -/
theorem turn_perm : ∀ k, k < 64 → ((List.range 64).map fun m => (m + (64 - k)) % 64).isPerm (List.range 64) = true := by decide +kernel
theorem count_up (s : Nat) {k : Nat} (hk : k < 64) : (els (up s k)).length = (els s).length := by
  have hp : ((List.range 64).map fun m => (m + (64 - k)) % 64).Perm (List.range 64) := List.isPerm_iff.1 (turn_perm k hk)
  have h1 := (hp.filter fun n => s.testBit n).length_eq
  rw [List.filter_map, List.length_map] at h1
  unfold els
  rw [← h1]
  congr 1
  refine List.filter_congr fun m hm => ?_
  exact testBit_up hk (by simpa using hm)

end Go.Proofs.YtigjeeedobnmhaaDoor.bits

/-
  More of the plain mathematics of sets: what is at a place of a list, which numbers are below one, the least, the next and the one with so many below it; and how many there are, as a computer counts them, byte by byte. It speaks of numbers and lists alone.
-/
namespace Go.Proofs.YtigjeeedobnmhaaDoor.bits

/-- The number at a place of a list; -1, where there is none. -/
def atI (l : List Nat) (k : Nat) : Int := match l[k]? with
  | some n => (n : Int)
  | none => -1
theorem atI_some {l : List Nat} {k n : Nat} (h : l[k]? = some n) : atI l k = (n : Int) := by unfold atI; rw [h]
theorem atI_none {l : List Nat} {k : Nat} (h : l.length ≤ k) : atI l k = -1 := by unfold atI; rw [List.getElem?_eq_none h]
theorem atI_lt {l : List Nat} {k : Nat} (h : k < l.length) : atI l k = ((l[k] : Nat) : Int) := atI_some (List.getElem?_eq_getElem h)
theorem atI_drop (l : List Nat) (a k : Nat) : atI (l.drop a) k = atI l (a + k) := by unfold atI; rw [List.getElem?_drop]

/-- Whether a set may have the number. -/
def may (n : Int) : Prop := 0 ≤ n ∧ n < 64
instance (n : Int) : Decidable (may n) := inferInstanceAs (Decidable (0 ≤ n ∧ n < 64))
def hasB (s : Nat) (n : Int) : Bool := decide (may n) && s.testBit n.toNat
def bitN (n : Int) : Nat := if may n then 2 ^ n.toNat else 0
def wth (s : Nat) (n : Int) : Nat := if may n then ins s n.toNat else s
def wout (s : Nat) (n : Int) : Nat := if may n then del s n.toNat else s
def allN (n : Int) : Nat := if 63 < n then 18446744073709551615 else if n < 0 then 0 else 2 ^ n.toNat - 1

theorem pow_lt64 {n : Nat} (h : n < 64) : Is64 (2 ^ n) := by
  unfold Is64
  rw [← two64]
  exact Nat.pow_lt_pow_right (by omega) h
theorem bitN_lt (n : Int) : Is64 (bitN n) := by
  unfold bitN
  split
  · rename_i h
    unfold may at h
    exact pow_lt64 (by omega)
  · unfold Is64; omega
theorem testBit_bitN (n : Int) (m : Nat) : (bitN n).testBit m = (decide (may n) && decide (n.toNat = m)) := by
  unfold bitN
  split
  · rename_i h
    rw [Nat.testBit_two_pow]
    simp [h]
  · rename_i h
    simp [h]
theorem wth_or (s : Nat) (n : Int) : wth s n = s ||| bitN n := by
  unfold wth bitN
  split
  · exact ins_or _ _
  · simp
theorem wth_lt {s : Nat} (hs : Is64 s) (n : Int) : Is64 (wth s n) := by
  unfold wth
  split
  · rename_i h
    unfold may at h
    exact ins_lt hs (by omega)
  · exact hs
theorem wout_lt {s : Nat} (hs : Is64 s) (n : Int) : Is64 (wout s n) := by
  unfold wout
  split
  · exact Nat.lt_of_le_of_lt (del_le _ _) hs
  · exact hs
theorem testBit_wth (s : Nat) (n : Int) (m : Nat) : (wth s n).testBit m = (s.testBit m || (decide (may n) && decide (n.toNat = m))) := by
  rw [wth_or, Nat.testBit_or, testBit_bitN]
theorem testBit_wout (s : Nat) (n : Int) (m : Nat) : (wout s n).testBit m = (s.testBit m && !(decide (may n) && decide (n.toNat = m))) := by
  unfold wout
  split
  · rename_i h
    rw [testBit_del]
    simp [h]
  · rename_i h
    simp [h]
/-- What a computer takes out of a set. -/
def minus (s t : Nat) : Nat := s &&& (18446744073709551615 - t)
theorem minus_lt {s t : Nat} (hs : Is64 s) : Is64 (minus s t) := Nat.lt_of_le_of_lt Nat.and_le_left hs
theorem testBit_minus {s t m : Nat} (ht : Is64 t) (hm : m < 64) : (minus s t).testBit m = (s.testBit m && !t.testBit m) := by
  unfold minus
  have e : 18446744073709551615 - t = 2 ^ 64 - (t + 1) := by rw [two64]; omega
  rw [Nat.testBit_and, e, Nat.testBit_two_pow_sub_succ (by rw [two64]; exact ht)]
  simp [hm]
theorem wout_minus {s : Nat} (hs : Is64 s) (n : Int) : wout s n = minus s (bitN n) :=
  ext64 (wout_lt hs n) (minus_lt hs) fun m hm => by rw [testBit_wout, testBit_minus (bitN_lt n) hm, testBit_bitN]
theorem hasB_and (s : Nat) (n : Int) : hasB s n = ((s &&& bitN n : Nat) != 0) := by
  unfold hasB bitN
  split
  · rename_i h
    simp only [h, decide_true, Bool.true_and]
    by_cases hb : s.testBit n.toNat = true
    · rw [hb]
      symm
      rw [bne_iff_ne]
      intro h0
      have h1 := congrArg (fun x => x.testBit n.toNat) h0
      simp [hb] at h1
    · have hb' : s.testBit n.toNat = false := by simpa using hb
      rw [hb']
      symm
      rw [bne_eq_false_iff_eq]
      apply Nat.eq_of_testBit_eq
      intro m
      rw [Nat.testBit_and, Nat.testBit_two_pow]
      by_cases hm : n.toNat = m
      · subst hm; simp [hb']
      · simp [hm]
  · rename_i h
    simp [h]
theorem allN_lt (n : Int) : Is64 (allN n) := by
  unfold allN
  split
  · unfold Is64; omega
  · split
    · unfold Is64; omega
    · have := pow_lt64 (show n.toNat < 64 by omega)
      unfold Is64 at *
      omega
theorem testBit_allN (n : Int) {m : Nat} (hm : m < 64) : (allN n).testBit m = decide ((m : Int) < n) := by
  unfold allN
  split
  · rename_i h
    have e : (18446744073709551615 : Nat) = 2 ^ 64 - 1 := by rw [two64]
    rw [e, Nat.testBit_two_pow_sub_one]
    have h1 : (m : Int) < n := by omega
    simp [hm, h1]
  · split
    · rename_i h
      have h1 : ¬ (m : Int) < n := by omega
      simp [h1]
    · rw [Nat.testBit_two_pow_sub_one]
      by_cases h1 : (m : Int) < n
      · have h2 : m < n.toNat := by omega
        simp [h1, h2]
      · have h2 : ¬ m < n.toNat := by omega
        simp [h1, h2]

/-- Those of a set for which something holds. -/
theorem els_filter {s t : Nat} {p : Nat → Bool} (h : ∀ m, m < 64 → t.testBit m = (s.testBit m && p m)) : els t = (els s).filter p := by
  unfold els
  rw [List.filter_filter]
  refine List.filter_congr fun m hm => ?_
  rw [h m (by simpa using hm), Bool.and_comm]
theorem els_length_le (s : Nat) : (els s).length ≤ 64 := by
  unfold els
  have := List.length_filter_le (fun n => s.testBit n) (List.range 64)
  simpa using this
theorem els_get_lt {s k n : Nat} (h : (els s)[k]? = some n) : n < 64 := (mem_els.1 (List.mem_of_getElem? h)).1
theorem els_zero : els 0 = [] := by unfold els; simp
theorem els_nil {s : Nat} (hs : Is64 s) : els s = [] ↔ s = 0 := by
  constructor
  · intro h
    have := ofs_els hs
    rw [h] at this
    exact this.symm
  · intro h
    rw [h, els_zero]
theorem atI_els (s k : Nat) : -1 ≤ atI (els s) k ∧ atI (els s) k < 64 := by
  by_cases h : k < (els s).length
  · have h1 := els_get_lt (List.getElem?_eq_getElem h)
    rw [atI_lt h]
    omega
  · rw [atI_none (by omega)]
    omega
theorem atI_els_neg (s k : Nat) : atI (els s) k = -1 ↔ (els s).length ≤ k := by
  unfold atI
  cases h : (els s)[k]? with
  | none => exact ⟨fun _ => List.getElem?_eq_none_iff.1 h, fun _ => rfl⟩
  | some n =>
    refine ⟨fun h1 => ?_, fun h1 => ?_⟩
    · have h2 : (n : Int) = -1 := h1
      omega
    · have := List.getElem?_eq_none h1
      rw [h] at this
      cases this

/-- The least of a rising list. -/
theorem least_first {l : List Nat} {c : Nat} (hl : l.Pairwise (· < ·)) (hc : c ∈ l) (h : ∀ n ∈ l, c ≤ n) : l[0]? = some c := by
  cases l with
  | nil => cases hc
  | cons a l =>
    rw [List.pairwise_cons] at hl
    rcases List.mem_cons.1 hc with rfl | hm
    · rfl
    · have h1 := hl.1 c hm
      have h2 := h a (List.mem_cons_self ..)
      omega
theorem els_first {s : Nat} (hs : Is64 s) (h0 : s ≠ 0) : (els s)[0]? = some (Lib.ctz 64 s) := by
  unfold Lib.ctz
  rw [if_neg h0]
  obtain ⟨m, hm, hc⟩ := Lib.ctzFrom_spec 64 s (by omega) (by rw [two64]; exact hs)
  generalize Lib.ctzFrom 64 s = c at *
  have hb : ∀ i, s.testBit i = (decide (c ≤ i) && (2 * m + 1).testBit (i - c)) := by
    intro i
    rw [hm, Nat.mul_comm, Nat.testBit_mul_two_pow]
  refine least_first (els_rising s) (mem_els.2 ⟨hc, ?_⟩) fun n hn => ?_
  · rw [hb]
    simp [Nat.testBit_zero]
  · have h1 := (mem_els.1 hn).2
    rw [hb] at h1
    simp only [Bool.and_eq_true, decide_eq_true_eq] at h1
    exact h1.1
/-- The first one, as the program tells it. -/
theorem first_eq {s : Nat} (hs : Is64 s) (h0 : s ≠ 0) : ((Lib.ctz 64 s : Nat) : Int) = atI (els s) 0 := (atI_some (els_first hs h0)).symm

theorem rising_drop {l : List Nat} {k a : Nat} (hl : l.Pairwise (· < ·)) (h : l[k]? = some a) : l.filter (fun n : Nat => decide ((a : Int) < (n : Int))) = l.drop (k + 1) := by
  induction l generalizing k with
  | nil => simp at h
  | cons b l ih =>
    rw [List.pairwise_cons] at hl
    cases k with
    | zero =>
      simp only [List.getElem?_cons_zero, Option.some.injEq] at h
      subst h
      rw [List.filter_cons_of_neg (by simp), List.drop_succ_cons, List.drop_zero, List.filter_eq_self]
      intro n hn
      have := hl.1 n hn
      simp
      omega
    | succ k =>
      simp only [List.getElem?_cons_succ] at h
      have hb : b < a := hl.1 a (List.mem_of_getElem? h)
      rw [List.filter_cons_of_neg (by simp; omega), List.drop_succ_cons]
      exact ih hl.2 h
/-- All above n. -/
theorem els_above (s : Nat) (n : Int) : els (wout (minus s (allN n)) n) = (els s).filter fun m : Nat => decide (n < (m : Int)) := by
  refine els_filter fun m hm => ?_
  rw [testBit_wout, testBit_minus (allN_lt n) hm, testBit_allN n hm]
  cases s.testBit m
  · simp
  · unfold may
    by_cases h1 : n < (m : Int)
    · have h2 : ¬ (m : Int) < n := by omega
      have h3 : ¬ n.toNat = m ∨ ¬ (0 ≤ n ∧ n < 64) := by omega
      rcases h3 with h3 | h3 <;> simp [h1, h2, h3]
    · by_cases h2 : (m : Int) < n
      · simp [h1, h2]
      · have h3 : n.toNat = m := by omega
        have h4 : 0 ≤ n ∧ n < 64 := by omega
        simp [h1, h2, h3, h4]
def nextI (s : Nat) (n : Int) : Int := atI ((els s).filter fun m : Nat => decide (n < (m : Int))) 0
theorem next_at {s k : Nat} (h : k < (els s).length) : nextI s (atI (els s) k) = atI (els s) (k + 1) := by
  have h1 := List.getElem?_eq_getElem h
  unfold nextI
  rw [atI_some h1, rising_drop (els_rising s) h1, atI_drop]
theorem next_start (s : Nat) {n : Int} (h : n < 0) : nextI s n = atI (els s) 0 := by
  unfold nextI
  congr 1
  rw [List.filter_eq_self]
  intro m _
  simp
  omega
/-- Without the first one. -/
theorem els_less {s : Nat} (hs : Is64 s) (h0 : s ≠ 0) : els (wout s (atI (els s) 0)) = (els s).drop 1 := by
  obtain ⟨a, l, hl⟩ : ∃ a l, els s = a :: l := by
    cases h : els s with
    | nil => exact absurd ((els_nil hs).1 h) h0
    | cons a l => exact ⟨a, l, rfl⟩
  have ha : a < 64 := els_get_lt (s := s) (k := 0) (by rw [hl]; rfl)
  have e : els (wout s (atI (els s) 0)) = (els s).filter fun n => !decide (a = n) := by
    refine els_filter fun m _ => ?_
    rw [testBit_wout, hl]
    have h1 : atI (a :: l) 0 = (a : Int) := rfl
    have h2 : may (a : Int) := by unfold may; omega
    rw [h1]
    simp [h2]
  rw [e, hl]
  have hr := els_rising s
  rw [hl, List.pairwise_cons] at hr
  rw [List.filter_cons_of_neg (by simp), List.drop_succ_cons, List.drop_zero, List.filter_eq_self]
  intro n hn
  have := hr.1 n hn
  simp
  omega

/-- How many of the lowest k bits are set. -/
def pc : Nat → Nat → Nat
  | 0, _ => 0
  | k + 1, s => s % 2 + pc k (s / 2)
theorem pc_range (k : Nat) : ∀ s, ((List.range k).filter fun n => s.testBit n).length = pc k s := by
  induction k with
  | zero => intro s; rfl
  | succ k ih =>
    intro s
    rw [List.range_succ_eq_map, List.filter_cons, pc]
    have e : (List.filter (fun n => s.testBit n) (List.map Nat.succ (List.range k))).length = pc k (s / 2) := by
      rw [List.filter_map, List.length_map, ← ih (s / 2)]
      congr 1
      refine List.filter_congr fun n _ => ?_
      show s.testBit (n + 1) = _
      rw [Nat.testBit_succ]
    split
    · rename_i h
      rw [Nat.testBit_zero, decide_eq_true_eq] at h
      rw [List.length_cons, e]
      omega
    · rename_i h
      rw [Nat.testBit_zero, decide_eq_true_eq] at h
      rw [e]
      omega
theorem pc_els (s : Nat) : (els s).length = pc 64 s := pc_range 64 s
theorem pc_add (a b : Nat) : ∀ s, pc (a + b) s = pc a s + pc b (s / 2 ^ a) := by
  induction a with
  | zero => intro s; simp [pc]
  | succ a ih =>
    intro s
    rw [Nat.succ_add, pc, pc, ih, Nat.div_div_eq_div_mul, Nat.pow_succ, Nat.mul_comm 2]
    omega
theorem pc8_mod (s : Nat) : pc 8 s = pc 8 (s % 256) := by
  simp only [pc]
  omega
theorem pc8_le (b : Nat) : pc 8 b ≤ 8 := by
  simp only [pc]
  omega

/-- A byte at a time. -/
def mk (m : Nat) : Nat → Nat
  | 0 => 0
  | k + 1 => 256 * mk m k + m
def bm (f : Nat → Nat) : Nat → Nat → Nat
  | 0, _ => 0
  | k + 1, s => f (s % 256) + 256 * bm f k (s / 256)
theorem and_join (q r M m : Nat) (hr : r < 256) (hm : m < 256) : (256 * q + r) &&& (256 * M + m) = 256 * (q &&& M) + (r &&& m) := by
  have h1 : ((256 * q + r) &&& (256 * M + m)) / 256 = q &&& M := by
    have h : ((256 * q + r) &&& (256 * M + m)) / 2 ^ 8 = (256 * q + r) / 2 ^ 8 &&& (256 * M + m) / 2 ^ 8 := Nat.and_div_two_pow
    have e1 : (256 * q + r) / 2 ^ 8 = q := by omega
    have e2 : (256 * M + m) / 2 ^ 8 = M := by omega
    rw [e1, e2] at h
    exact h
  have h2 : ((256 * q + r) &&& (256 * M + m)) % 256 = r &&& m := by
    have h : ((256 * q + r) &&& (256 * M + m)) % 2 ^ 8 = (256 * q + r) % 2 ^ 8 &&& (256 * M + m) % 2 ^ 8 := Nat.and_mod_two_pow
    have e1 : (256 * q + r) % 2 ^ 8 = r := by omega
    have e2 : (256 * M + m) % 2 ^ 8 = m := by omega
    rw [e1, e2] at h
    exact h
  omega
theorem out85 : ∀ c, c < 2 → ∀ t, t < 128 → (c * 128 + t) &&& 85 = t &&& 85 := by decide +kernel
theorem out51 : ∀ c, c < 4 → ∀ t, t < 64 → (c * 64 + t) &&& 51 = t &&& 51 := by decide +kernel
theorem out15 : ∀ c, c < 5 → ∀ r, r < 69 → (c * 16 + r / 16 + r) &&& 15 = (r / 16 + r) &&& 15 := by decide +kernel
def f1 (b : Nat) : Nat := (b / 2 &&& 85) + (b &&& 85)
def f2 (b : Nat) : Nat := (b / 4 &&& 51) + (b &&& 51)
def f3 (b : Nat) : Nat := (b / 16 + b) &&& 15
theorem f1_lt : ∀ b, b < 256 → f1 b < 256 := by decide +kernel
theorem f2_lt : ∀ b, b < 256 → f2 b < 256 := by decide +kernel
theorem f2f1 : ∀ b, b < 256 → f2 (f1 b) % 16 < 5 ∧ f2 (f1 b) < 69 := by decide +kernel
theorem f321 : ∀ b, b < 256 → f3 (f2 (f1 b)) = pc 8 b := by decide +kernel
theorem step1 (k : Nat) : ∀ s, (s / 2 &&& mk 85 k) + (s &&& mk 85 k) = bm f1 k s := by
  induction k with
  | zero => intro s; simp [mk, bm]
  | succ k ih =>
    intro s
    have e1 : s / 2 = 256 * (s / 256 / 2) + (s / 256 % 2 * 128 + s % 256 / 2) := by omega
    have e2 : s = 256 * (s / 256) + s % 256 := by omega
    have a1 : s / 2 &&& mk 85 (k + 1) = 256 * (s / 256 / 2 &&& mk 85 k) + (s % 256 / 2 &&& 85) := by
      rw [e1, mk, and_join _ _ _ _ (by omega) (by omega), out85 _ (by omega) _ (by omega)]
    have a2 : s &&& mk 85 (k + 1) = 256 * (s / 256 &&& mk 85 k) + (s % 256 &&& 85) := by
      conv => lhs; rw [e2]
      rw [mk, and_join _ _ _ _ (by omega) (by omega)]
    have := ih (s / 256)
    have hf : f1 (s % 256) = (s % 256 / 2 &&& 85) + (s % 256 &&& 85) := rfl
    rw [a1, a2, bm, hf]
    omega
theorem step2 (k : Nat) : ∀ s, (s / 4 &&& mk 51 k) + (s &&& mk 51 k) = bm f2 k s := by
  induction k with
  | zero => intro s; simp [mk, bm]
  | succ k ih =>
    intro s
    have e1 : s / 4 = 256 * (s / 256 / 4) + (s / 256 % 4 * 64 + s % 256 / 4) := by omega
    have e2 : s = 256 * (s / 256) + s % 256 := by omega
    have a1 : s / 4 &&& mk 51 (k + 1) = 256 * (s / 256 / 4 &&& mk 51 k) + (s % 256 / 4 &&& 51) := by
      rw [e1, mk, and_join _ _ _ _ (by omega) (by omega), out51 _ (by omega) _ (by omega)]
    have a2 : s &&& mk 51 (k + 1) = 256 * (s / 256 &&& mk 51 k) + (s % 256 &&& 51) := by
      conv => lhs; rw [e2]
      rw [mk, and_join _ _ _ _ (by omega) (by omega)]
    have := ih (s / 256)
    have hf : f2 (s % 256) = (s % 256 / 4 &&& 51) + (s % 256 &&& 51) := rfl
    rw [a1, a2, bm, hf]
    omega
theorem bm_bm {f g : Nat → Nat} (hg : ∀ b, b < 256 → g b < 256) (k : Nat) : ∀ s, bm f k (bm g k s) = bm (fun b => f (g b)) k s := by
  induction k with
  | zero => intro s; rfl
  | succ k ih =>
    intro s
    have h := hg (s % 256) (by omega)
    rw [bm, bm, bm]
    have e1 : (g (s % 256) + 256 * bm g k (s / 256)) % 256 = g (s % 256) := by omega
    have e2 : (g (s % 256) + 256 * bm g k (s / 256)) / 256 = bm g k (s / 256) := by omega
    rw [e1, e2, ih]
theorem bm_mod16 {g : Nat → Nat} (hg : ∀ b, b < 256 → g b % 16 < 5 ∧ g b < 69) (k s : Nat) : bm g k s % 16 < 5 := by
  cases k with
  | zero => rw [bm]; omega
  | succ k =>
    have h := hg (s % 256) (by omega)
    rw [bm]
    omega
theorem step3 {g : Nat → Nat} (hg : ∀ b, b < 256 → g b % 16 < 5 ∧ g b < 69) (k : Nat) : ∀ s, (bm g k s / 16 + bm g k s) &&& mk 15 k = bm (fun b => f3 (g b)) k s := by
  induction k with
  | zero => intro s; simp [mk]; rfl
  | succ k ih =>
    intro s
    have h := hg (s % 256) (by omega)
    have h16 := bm_mod16 hg k (s / 256)
    have := ih (s / 256)
    have hf : f3 (g (s % 256)) = (g (s % 256) / 16 + g (s % 256)) &&& 15 := rfl
    rw [bm, bm, hf]
    generalize g (s % 256) = r at *
    generalize bm g k (s / 256) = q at *
    have e : (r + 256 * q) / 16 + (r + 256 * q) = 256 * (q / 16 + q) + (q % 16 * 16 + r / 16 + r) := by omega
    rw [e, mk, and_join _ _ _ _ (by omega) (by omega), out15 _ h16 _ h.2, this]
    omega
theorem bm_congr {f g : Nat → Nat} (h : ∀ b, b < 256 → f b = g b) (k : Nat) : ∀ s, bm f k s = bm g k s := by
  induction k with
  | zero => intro s; rfl
  | succ k ih => intro s; rw [bm, bm, h _ (by omega), ih]
/-- The first three steps come to how many of each byte are set. -/
theorem steps (s : Nat) :
    bm f3 8 (bm f2 8 (bm f1 8 s)) = bm (pc 8) 8 s := by
  rw [bm_bm f1_lt, bm_bm (fun b hb => by have := (f2f1 b hb).2; omega)]
  exact bm_congr (fun b hb => f321 b hb) 8 s
theorem sum8 (s : Nat) : ∃ a b c d e f g h : Nat, (a ≤ 8 ∧ b ≤ 8 ∧ c ≤ 8 ∧ d ≤ 8 ∧ e ≤ 8 ∧ f ≤ 8 ∧ g ≤ 8 ∧ h ≤ 8) ∧
    bm (pc 8) 8 s = a + 256 * (b + 256 * (c + 256 * (d + 256 * (e + 256 * (f + 256 * (g + 256 * h)))))) ∧ pc 64 s = a + b + c + d + e + f + g + h := by
  refine ⟨pc 8 (s % 256), pc 8 (s / 256 % 256), pc 8 (s / 256 / 256 % 256), pc 8 (s / 256 / 256 / 256 % 256), pc 8 (s / 256 / 256 / 256 / 256 % 256), pc 8 (s / 256 / 256 / 256 / 256 / 256 % 256),
    pc 8 (s / 256 / 256 / 256 / 256 / 256 / 256 % 256), pc 8 (s / 256 / 256 / 256 / 256 / 256 / 256 / 256 % 256), ⟨pc8_le _, pc8_le _, pc8_le _, pc8_le _, pc8_le _, pc8_le _, pc8_le _, pc8_le _⟩, ?_, ?_⟩
  · simp only [bm, Nat.mul_zero, Nat.add_zero]
  · have e : (64 : Nat) = 8 + (8 + (8 + (8 + (8 + (8 + (8 + 8)))))) := rfl
    rw [e]
    simp only [pc_add]
    have p : (2 : Nat) ^ 8 = 256 := rfl
    rw [p]
    simp only [← pc8_mod]
    omega

end Go.Proofs.YtigjeeedobnmhaaDoor.bits

/-
  The program's calls on a set that only compute: the bit of a number, what is below one, whether one is in it, with one and without one. No condition.
-/
namespace Go.Proofs.YtigjeeedobnmhaaDoor.bits
open Go.RowKit Go.ChangeShapes

theorem shl_one {n : Int} (h : may n) : IntKind.u64.wrap (2 ^ n.toNat) = ((bitN n : Nat) : Int) := by
  unfold may at h
  have hb : bitN n = 2 ^ n.toNat := by unfold bitN; rw [if_pos (by unfold may; omega)]
  have hl := pow_lt64 (show n.toNat < 64 by omega)
  rw [hb, IntKind.wrap_u64]
  unfold Is64 at hl
  have e : ((2 : Int) ^ n.toNat) = ((2 ^ n.toNat : Nat) : Int) := by rw [Int.natCast_pow]; rfl
  rw [e]
  omega

theorem ret_int {k : IntKind} {a b : Int} (h : a = b) : Ending.returned (.int k a) = .returned (.int k b) := by rw [h]
set_option maxHeartbeats 400000 in
theorem bit_any (n : Int) (w : World) :
    Calls Tryd.prog 56 #[.int .i64 n] w fun e w' => e = .returned (.int .u64 ((bitN n : Nat) : Int)) ∧ w = w' := by
  by_cases h0 : n < 0
  · have hb : bitN n = 0 := by unfold bitN; rw [if_neg (by unfold may; omega)]
    rw [hb]
    clear hb
    go_enter Tryd.func56, Tryd.ntmps56
    go_wp2
    go_ret
    exact ⟨rfl, rfl⟩
  · by_cases h1 : 63 < n
    · have hb : bitN n = 0 := by unfold bitN; rw [if_neg (by unfold may; omega)]
      rw [hb]
      clear hb
      go_enter Tryd.func56, Tryd.ntmps56
      go_wp2
      go_ret
      exact ⟨rfl, rfl⟩
    · have hm : may n := by unfold may; omega
      have hp : 0 ≤ n := by omega
      have HB := Lib.hid (shl_one hm)
      go_enter Tryd.func56, Tryd.ntmps56
      go_wp2
      go_ret
      exact ⟨ret_int HB.out, rfl⟩

theorem and_u64 {a b : Nat} (ha : Is64 a) (hb : Is64 b) : bits .and .u64 (a : Int) (b : Int) = ((a &&& b : Nat) : Int) := bits_and_u64_nat a b ha hb
theorem or_u64 {a b : Nat} (ha : Is64 a) (hb : Is64 b) : bits .or .u64 (a : Int) (b : Int) = ((a ||| b : Nat) : Int) := bits_or_u64_nat a b ha hb
theorem andNot_u64 {a b : Nat} (ha : Is64 a) (hb : Is64 b) : bits .andNot .u64 (a : Int) (b : Int) = ((minus a b : Nat) : Int) := by
  have hx : a &&& (18446744073709551615 - b) < 2 ^ 64 := Nat.and_lt_two_pow _ (by unfold Is64 at *; omega)
  have h1 : (BitVec.ofInt 64 (a : Int)).toNat = a := by
    rw [BitVec.ofInt_natCast, BitVec.toNat_ofNat]; exact Nat.mod_eq_of_lt (by unfold Is64 at *; omega)
  have h2 : (BitVec.ofInt 64 (b : Int)).toNat = b := by
    rw [BitVec.ofInt_natCast, BitVec.toNat_ofNat]; exact Nat.mod_eq_of_lt (by unfold Is64 at *; omega)
  show IntKind.u64.wrap ((BitVec.ofInt 64 (a : Int) &&& ~~~BitVec.ofInt 64 (b : Int)).toNat : Int) = _
  rw [BitVec.toNat_and, BitVec.toNat_not, h1, h2, IntKind.wrap_u64]
  have e : 2 ^ 64 - 1 - b = 18446744073709551615 - b := by omega
  rw [e]
  unfold minus
  omega

theorem ret_bool {a b : Bool} (h : a = b) : Ending.returned (.bool a) = .returned (.bool b) := by rw [h]
theorem bne_cast (x : Nat) : ((x : Int) != 0) = (x != 0) := by
  rw [Bool.eq_iff_iff]
  simp
set_option maxHeartbeats 400000 in
theorem has_any (s : Nat) (hs : Is64 s) (n : Int) (w : World) :
    Calls Tryd.prog 62 #[.int .u64 (s : Int), .int .i64 n] w fun e w' => e = .returned (.bool (hasB s n)) ∧ w = w' := by
  have HB := Lib.hid (and_u64 hs (bitN_lt n))
  have HH := Lib.hid (hasB_and s n)
  go_enter Tryd.func62, Tryd.ntmps62
  go_wp2_with fail
  refine (bit_any _ _).mono ?_
  rintro e w1 ⟨rfl, rfl⟩
  go_wp2
  go_ret
  exact ⟨ret_bool (by rw [HB.out, HH.out, bne_cast]), rfl⟩

set_option maxHeartbeats 400000 in
theorem with_any (s : Nat) (hs : Is64 s) (n : Int) (w : World) :
    Calls Tryd.prog 39 #[.int .u64 (s : Int), .int .i64 n] w fun e w' => e = .returned (.int .u64 ((wth s n : Nat) : Int)) ∧ w = w' := by
  have HB := Lib.hid (or_u64 hs (bitN_lt n))
  have HH := Lib.hid (wth_or s n)
  go_enter Tryd.func39, Tryd.ntmps39
  go_wp2_with fail
  refine (bit_any _ _).mono ?_
  rintro e w1 ⟨rfl, rfl⟩
  go_wp2
  go_ret
  exact ⟨ret_int (by rw [HB.out, HH.out]), rfl⟩

theorem all_some {n : Int} (h0 : ¬ n < 0) (h1 : ¬ 63 < n) : IntKind.u64.wrap ((bitN n : Nat) - 1) = ((allN n : Nat) : Int) := by
  have hb : bitN n = 2 ^ n.toNat := by unfold bitN; rw [if_pos (by unfold may; omega)]
  have hl := bitN_lt n
  have hp : 0 < 2 ^ n.toNat := Nat.two_pow_pos _
  unfold allN
  rw [if_neg h1, if_neg h0, hb, IntKind.wrap_u64]
  unfold Is64 at hl
  rw [hb] at hl
  omega

end Go.Proofs.YtigjeeedobnmhaaDoor.bits

/-
  The program's own answer whether the needs of a way may not be together (typed over the code of 5ef5b61): of needs each of which may be, so that a set has all their objects.
-/
namespace Go.Proofs.YtigjeeedobnmhaaDoor.need
open Go.RowKit Go.ChangeShapes
open Go.Proofs.YtigjeeedobnmhaaDoor.objs (De zero CellsAt DAt)
open Go.Proofs.YtigjeeedobnmhaaDoor.bits (wth hasB may Is64 wth_lt has_any with_any testBit_ins)
set_option linter.unusedVariables false

theorem hasB_wth {s : Nat} {n x : Int} (hn : may n) (hx : may x) : hasB (wth s n) x = (hasB s x || decide (n = x)) := by
  unfold hasB wth
  rw [if_pos hn, testBit_ins, decide_eq_true hx, Bool.true_and, Bool.true_and]
  congr 1
  unfold may at hn hx
  have : (n.toNat = x.toNat) ↔ (n = x) := by omega
  simp [this]
theorem clashTo_no {l : List De} {k : Nat} : ∀ m, (∀ j, j < m → clash (l.getD j zero) (l.getD k zero) = false) → clashTo l k m = false := by
  intro m
  induction m with
  | zero => intro _; rfl
  | succ m ih =>
    intro h
    unfold clashTo
    rw [ih (fun j hj => h j (by omega)), h m (by omega)]
    rfl
theorem twiceTo_no {l : List De} : ∀ m, (∀ k, k < m → ∀ j, j < k → clash (l.getD j zero) (l.getD k zero) = false) → twiceTo l m = false := by
  intro m
  induction m with
  | zero => intro _; rfl
  | succ m ih =>
    intro h
    unfold twiceTo
    rw [ih (fun k hk => h k (by omega)), clashTo_no m (h m (by omega))]
    rfl
/-- A need that clashes with one ahead of it, or that must stand alone and does not. -/
theorem clash_met {l : List De} {i j : Nat} (hj : j < i) (hi : i < l.length) (h : (l.getD j zero).2.1 = (l.getD i zero).2.1) : twiceTo l l.length = true :=
  twiceTo_yes (clashTo_yes hj (by unfold clash; rw [h]; simp) i hj) l.length hi
theorem clash_down {l : List De} {i : Nat} (hi : i < l.length) (h2 : 1 < l.length) (h : (l.getD i zero).1 = 4) : twiceTo l l.length = true := by
  rcases Nat.eq_zero_or_pos i with h0 | h0
  · subst h0
    exact twiceTo_yes (clashTo_yes (l := l) (k := 1) (j := 0) (by omega) (by unfold clash; rw [h]; simp) 1 (by omega)) l.length h2
  · exact twiceTo_yes (clashTo_yes (l := l) (k := i) (j := 0) h0 (by unfold clash; rw [h]; simp) i h0) l.length hi

theorem of_none (w : World) : Calls Tryd.prog 38 #[.slice none 0 0] w fun e w' => e = .returned (.int .u64 0) ∧ w = w' := by
  go_enter Tryd.func38, Tryd.ntmps38
  go_wp2_with fail
  go_loop [3, 8] (fun t i => t = .int .u64 0 ∧ i = .int .i64 0) (fun _ _ => 0)
  case atStart => exact ⟨rfl, rfl⟩
  case round =>
    obtain ⟨rfl, rfl⟩ := hrel
    go_wp2
    go_ret
    exact ⟨rfl, rfl⟩

/-- A need in a block of its own. -/
theorem nbox_at (W : World) (k o m : Int) : (W.alloc (needBox k o m)).cell? ⟨W.heap.size, 0, none⟩ = some (.int .i64 k) ∧ (W.alloc (needBox k o m)).cell? ⟨W.heap.size, 1, none⟩ = some (.int .i64 o) ∧ (W.alloc (needBox k o m)).cell? ⟨W.heap.size, 2, none⟩ = some (.int .i64 m) := by
  unfold World.cell?
  rw [heap_alloc_new W _]
  exact ⟨rfl, rfl, rfl⟩
/-- Which objects the first needs ask. -/
structure Met (l : List De) (j : Nat) (s : Nat) : Prop where
  small : Is64 s
  has : ∀ x : Int, may x → (hasB s x = true ↔ ∃ i, i < j ∧ (l.getD i zero).2.1 = x)
  apart : ∀ i, i < j → ∀ k, k < i → (l.getD k zero).2.1 ≠ (l.getD i zero).2.1
  alone : 1 < l.length → ∀ i, i < j → (l.getD i zero).1 ≠ 4
theorem Met.next {l : List De} {j s : Nat} (h : Met l j s) (hm : may (l.getD j zero).2.1) (h1 : hasB s (l.getD j zero).2.1 = false) (h2 : 1 < l.length → (l.getD j zero).1 ≠ 4) : Met l (j + 1) (wth s (l.getD j zero).2.1) := by
  refine ⟨wth_lt h.small _, fun x hx => ?_, fun i hi k hk => ?_, fun hl i hi => ?_⟩
  · rw [hasB_wth hm hx, Bool.or_eq_true, h.has x hx, decide_eq_true_iff]
    constructor
    · rintro (⟨i, hi, e⟩ | e)
      · exact ⟨i, by omega, e⟩
      · exact ⟨j, by omega, e⟩
    · rintro ⟨i, hi, e⟩
      rcases Nat.lt_or_ge i j with h3 | h3
      · exact .inl ⟨i, h3, e⟩
      · obtain rfl : i = j := by omega
        exact .inr e
  · rcases Nat.lt_or_ge i j with h3 | h3
    · exact h.apart i h3 k hk
    · obtain rfl : i = j := by omega
      intro e
      have := (h.has _ hm).2 ⟨k, hk, e⟩
      rw [h1] at this
      cases this
  · rcases Nat.lt_or_ge i j with h3 | h3
    · exact h.alone hl i h3
    · obtain rfl : i = j := by omega
      exact h2 hl
theorem Met.fine {l : List De} {s : Nat} (h : Met l l.length s) : twiceTo l l.length = false := by
  refine twiceTo_no _ fun k hk j hj => ?_
  have h1 := h.apart k hk j hj
  have h2 := h.alone (by omega) k hk
  have h3 := h.alone (by omega) j (by omega)
  unfold clash
  rw [beq_eq_false_iff_ne.2 h1, beq_eq_false_iff_ne.2 h2, beq_eq_false_iff_ne.2 h3]
  rfl
theorem met_zero (l : List De) : Met l 0 0 := by
  refine ⟨by unfold Is64; omega, fun x hx => ?_, fun i hi => by omega, fun _ i hi => by omega⟩
  unfold hasB
  simp

set_option maxRecDepth 100000 in
set_option maxHeartbeats 4000000 in
theorem clashes_any (B : Option Addr) (cap : Nat) (l : List De) (hl : l.length ≤ 4) (ho : ∀ n ∈ l, may n.2.1) (w : World) (hB : DAt w B l) :
    Calls Tryd.prog 46 #[.slice B l.length cap] w fun e w' => e = .returned (.bool (twiceTo l l.length)) ∧ Below w.heap.size w w' := by
  have HOf := Lib.hid (of_none w)
  have HB := Lib.hid hB
  have HO := Lib.hid ho
  have H0 := Lib.hid (met_zero l)
  obtain ⟨r, hr⟩ : ∃ r, r = twiceTo l l.length := ⟨_, rfl⟩
  have HR := Lib.hid hr
  rw [← hr]
  have HL4 := Lib.hid hl
  clear hB ho hr hl
  go_enter Tryd.func46, Tryd.ntmps46
  go_wp2_with fail
  refine HOf.out.mono ?_
  rintro e w1 ⟨rfl, rfl⟩
  go_wp2_with fail
  go_loopw [3, 9] (fun t i wr => ∃ (j s : Nat), j ≤ l.length ∧ i = .int .i64 (j : Int) ∧ t = .int .u64 (s : Int) ∧ Hid (Met l j s) ∧ Hid (Below w.heap.size w wr)) (fun _ i _ => l.length - (intOf i).toNat)
  case atStart => exact ⟨0, 0, Nat.zero_le _, rfl, rfl, H0, Lib.hid (Below.refl _ _)⟩
  case round =>
    obtain ⟨j, s, hj, rfl, rfl, HM, HW⟩ := hrel
    by_cases hlt : j < l.length
    · obtain ⟨b0, off, rfl, hbl, c0, c1, c2⟩ := HB.out.next HW.out j hlt
      have hlt' : (j : Int) < (l.length : Int) := by omega
      have hj0 : (0 : Int) ≤ (j : Int) := by omega
      have HY := Lib.hid (HO.out _ (getD_mem hlt))
      have HN := fun h1 h2 => Lib.hid (HM.out.next HY.out h1 h2)
      have HD := fun h1 h2 => Lib.hid (clash_down (l := l) hlt h1 h2)
      have HC : ∀ i, i < j → (l.getD i zero).2.1 = (l.getD j zero).2.1 → Hid (twiceTo l l.length = true) := fun i h1 h2 => Lib.hid (clash_met (l := l) h1 hlt h2)
      have HE := Lib.hid (HM.out.has _ HY.out)
      have HS := Lib.hid HM.out.small
      clear HM
      generalize l.getD j zero = n at *
      obtain ⟨k, o, m⟩ := n
      dsimp only at c0 c1 c2 HY HN HD HC HE
      have HW1 := Lib.hid (HW.out.trans ((nbox_below wr k o m).mono HW.out.size))
      have hbx := nbox_at wr k o m
      unfold needBox at HW1 hbx
      clear HW
      have HH := fun W => Lib.hid (has_any s HS.out o W)
      have HWi := fun W => Lib.hid (with_any s HS.out o W)
      go_upto_region 5 with fail
      clear c0 c1 c2
      generalize wr.alloc (.cells #[.int .i64 k, .int .i64 o, .int .i64 m] 50) = W1 at *
      generalize wr.heap.size = g at *
      obtain ⟨c0, c1, c2⟩ := hbx
      cases hh : hasB s o with
      | true =>
        obtain ⟨i, hi, e⟩ := HE.out.1 hh
        have HX := HC i hi e
        clear hi e HN HD HC HE HY
        rw [hh] at HH
        go_wp2_with fail
        refine (HH _).out.mono ?_
        rintro e w2 ⟨rfl, rfl⟩
        go_wp2
        go_ret
        exact ⟨ret_bool (by rw [HR.out, HX.out]), HW1.out⟩
      | false =>
        rw [hh] at HH
        have HN1 := HN hh
        clear HC HE HY HN hh
        by_cases h4 : k = 4
        · subst h4
          by_cases h2 : 1 < l.length
          · have HX := HD h2 rfl
            have d2 : decide ((1 : Int) < (l.length : Int)) = true := by simp; omega
            clear HD HN1 h2
            go_wp2_with fail
            refine (HH _).out.mono ?_
            rintro e w2 ⟨rfl, rfl⟩
            go_wp2
            go_ret
            exact ⟨ret_bool (by rw [HR.out, HX.out]), HW1.out⟩
          · have HN2 := HN1 (fun h => absurd h h2)
            have d2 : decide ((1 : Int) < (l.length : Int)) = false := by simp; omega
            clear HD HN1 h2
            go_wp2_with fail
            refine (HH _).out.mono ?_
            rintro e w2 ⟨rfl, rfl⟩
            go_wp2_with fail
            refine (HWi _).out.mono ?_
            rintro e w2 ⟨rfl, rfl⟩
            have hl4 := HL4.out
            go_wp2
            go_roundw
            case rel => exact ⟨j + 1, _, by omega, by go_num, rfl, HN2, HW1⟩
            case measure => simp [intOf]; omega
        · have HN2 := HN1 (fun _ => h4)
          have d4 : (k == 4) = false := by simpa using h4
          clear HD HN1 h4
          go_wp2_with fail
          refine (HH _).out.mono ?_
          rintro e w2 ⟨rfl, rfl⟩
          go_wp2_with fail
          refine (HWi _).out.mono ?_
          rintro e w2 ⟨rfl, rfl⟩
          have hl4 := HL4.out
          go_wp2
          go_roundw
          case rel => exact ⟨j + 1, _, by omega, by go_num, rfl, HN2, HW1⟩
          case measure => simp [intOf]; omega
    · obtain rfl : j = l.length := by omega
      have HX := Lib.hid HM.out.fine
      go_wp2
      go_ret
      exact ⟨ret_bool (by rw [HR.out, HX.out]), HW.out⟩
end Go.Proofs.YtigjeeedobnmhaaDoor.need

/-
  The document's own answers, each by itself: what its functions make of bytes that are read. A text of at most two to the forty-seventh bytes.
-/
namespace Go.Proofs.YtigjeeedobnmhaaDoor.octet
open Go.RowKit Go.ChangeShapes
set_option linter.unusedVariables false

theorem bcell {W w1 : World} (hb : Below W.heap.size W w1) : (∀ b o, b < W.heap.size → w1.cell? ⟨b, o, none⟩ = W.cell? ⟨b, o, none⟩) ∧ (∀ b o, b < W.heap.size → w1.frozen? ⟨b, o, none⟩ = W.frozen? ⟨b, o, none⟩) :=
  ⟨fun b o h => hb.cell (p := ⟨b, o, none⟩) h, fun b o h => hb.frozen (p := ⟨b, o, none⟩) h⟩

/-- The document's reader: the text, where, the first error. -/
def RV (t : ByteArray) (at' err : Nat) : Value := .agg #[.string t, .int .i64 (at' : Int), .int .i64 (err : Int)]
/-- It stands where the program's reader stands. -/
def Stands (t : ByteArray) (k err : Nat) (s : St) : Prop := k ≤ t.size ∧ s.rest = t.data.toList.drop k ∧ s.err = err ∧ s.ok

set_option maxHeartbeats 400000 in
theorem refFail_any (w : World) (t : ByteArray) (k err e : Nat) (ht : t.size ≤ 140737488355328) :
    Calls Tryd.prog 66 #[RV t k err, .int .i64 (e : Int)] w fun r w' => r = .returned (if err = 0 then RV t t.size e else RV t k err) ∧ Below w.heap.size w w' := by
  unfold RV
  by_cases he : err = 0
  · subst he
    go_enter Tryd.func66, Tryd.ntmps66
    go_wp2
    go_returns
    exact ⟨rfl, by go_grown⟩
  · have hb : ((err : Int) == 0) = false := by simp [he]
    rw [if_neg he]
    clear he
    go_enter Tryd.func66, Tryd.ntmps66
    go_wp2
    go_returns
    exact ⟨rfl, by go_grown⟩
/-- What the document's reader reads as one byte. -/
def refByte (t : ByteArray) (k err : Nat) : Nat × Nat × Nat :=
  if k < t.size then ((t.data.toList.getD k 0).toNat, k + 1, err) else (0, if err = 0 then (t.size, 3) else (k, err))

set_option maxHeartbeats 400000 in
theorem refByte_any (w : World) (t : ByteArray) (k err : Nat) (ht : t.size ≤ 140737488355328) (hk : k ≤ t.size) :
    Calls Tryd.prog 50 #[RV t k err] w fun r w' => r = .returned (.tuple #[.int .i64 ((refByte t k err).1 : Int), RV t (refByte t k err).2.1 (refByte t k err).2.2]) ∧ Below w.heap.size w w' := by
  by_cases hlt : k < t.size
  · have hfin : refByte t k err = ((t.data.toList.getD k 0).toNat, k + 1, err) := by unfold refByte; rw [if_pos hlt]
    rw [hfin]
    have HF := Lib.hid hfin
    clear hfin
    unfold RV
    go_enter Tryd.func50, Tryd.ntmps50
    go_wp2
    go_region
    all_goals go_wp2
    go_returns
    refine ⟨?_, by go_grown⟩
    rw [show t.data.toList.getD k 0 = t[k]'hlt from by rw [List.getD_eq_getElem?_getD, List.getElem?_eq_getElem (by rw [Array.length_toList]; exact hlt)]; rfl]
    have e : wrap64 ((t[k]'hlt).toNat : Int) = ((t[k]'hlt).toNat : Int) := by
      have h256 := (t[k]'hlt).toNat_lt
      unfold wrap64
      omega
    rw [e]
    rfl
  · have hfin : refByte t k err = (0, if err = 0 then (t.size, 3) else (k, err)) := by unfold refByte; rw [if_neg hlt]
    rw [hfin]
    clear hfin
    by_cases he : err = 0
    · subst he
      rw [if_pos rfl]
      have HR : ∀ w, Calls Tryd.prog 66 #[.agg #[.string t, .int .i64 (k : Int), .int .i64 0], .int .i64 3] w fun r w' => r = .returned (.agg #[.string t, .int .i64 (t.size : Int), .int .i64 3]) ∧ Below w.heap.size w w' := fun w => refFail_any w t k 0 3 ht
      have HR' := Lib.hid HR
      clear HR
      unfold RV
      go_enter Tryd.func50, Tryd.ntmps50
      go_wp2_with fail
      refine (HR'.out _).mono ?_
      rintro e w1 ⟨rfl, hb⟩
      obtain ⟨hc, hf⟩ := bcell hb
      have hz := hb.size
      simp only [World.size_alloc] at hz
      have hbw := ((((Below.refl _ w).alloc (Nat.le_refl _) _).alloc (by simp) _).trans (hb.mono (B' := w.heap.size) (by simp; omega)))
      have HB := Lib.hid hbw
      clear hbw
      go_wp2
      have hbw := HB.out
      refine bodyPost_ret (v := .tuple #[.int .i64 0, .agg #[.string t, .int .i64 (t.size : Int), .int .i64 3]]) (by simp [results, Tryd.results50, go_sem, hc]) rfl ⟨rfl, by go_grown⟩
    · rw [if_neg he]
      have HR : ∀ w, Calls Tryd.prog 66 #[.agg #[.string t, .int .i64 (k : Int), .int .i64 (err : Int)], .int .i64 3] w fun r w' => r = .returned (.agg #[.string t, .int .i64 (k : Int), .int .i64 (err : Int)]) ∧ Below w.heap.size w w' := fun w => (refFail_any w t k err 3 ht).mono fun e w' h => by rw [if_neg he] at h; exact h
      have HR' := Lib.hid HR
      clear HR
      unfold RV
      go_enter Tryd.func50, Tryd.ntmps50
      go_wp2_with fail
      refine (HR'.out _).mono ?_
      rintro e w1 ⟨rfl, hb⟩
      obtain ⟨hc, hf⟩ := bcell hb
      have hz := hb.size
      simp only [World.size_alloc] at hz
      have hbw := ((((Below.refl _ w).alloc (Nat.le_refl _) _).alloc (by simp) _).trans (hb.mono (B' := w.heap.size) (by simp; omega)))
      have HB := Lib.hid hbw
      clear hbw
      go_wp2
      have hbw := HB.out
      refine bodyPost_ret (v := .tuple #[.int .i64 0, .agg #[.string t, .int .i64 (k : Int), .int .i64 (err : Int)]]) (by simp [results, Tryd.results50, go_sem, hc]) rfl ⟨rfl, by go_grown⟩
end Go.Proofs.YtigjeeedobnmhaaDoor.octet
