/-
  Texts of one claim in one file: JChk, DArg, EPlain, EMem. Each has its own sentence, with its conditions.
-/
import Derived.Test.YtbekfjjajggffaaDoorVall7
import Derived.Test.YtbekfjjajggffaaDoorVall1
import Derived.Test.YtbekfjjajggffaaDoorVall2
/-
  The program's own check of an instruction (typed over the code of 392f5a9): for every instruction. The table of names must lie where its initialiser lays it.
-/
namespace Go.Proofs.YtbekfjjajggffaaDoor.inst
open Go.RowKit Go.ChangeShapes
open Go.Proofs.YtbekfjjajggffaaDoor.oper (ret_int ret_bool ret_string Tab nm txt)
open Go.Proofs.YtbekfjjajggffaaDoor.word (Word)
set_option linter.unusedVariables false

/-- What the program's calls ask of the world: the table of names lies where it should, below all that is made. -/
def Okw (w : World) : Prop := Tab w ∧ 3 < w.heap.size
theorem Okw.below {B : Nat} {w w' : World} (h : Okw w) (hb : Below B w w') (hB : 3 < B) : Okw w' := ⟨h.1.below hb hB, Nat.lt_of_lt_of_le h.2 hb.size⟩
theorem Okw.next {w w' : World} (h : Okw w) (hb : Below w.heap.size w w') : Okw w' := h.below hb h.2

theorem u8_of {c : UInt8} {k : UInt8} (h : ((c.toNat : Int) == (k.toNat : Int)) = true) : c = k := by
  have h1 := eq_of_beq h
  exact UInt8.toNat_inj.1 (by omega)
theorem u8_not {c : UInt8} {k : UInt8} (h : ((c.toNat : Int) == (k.toNat : Int)) = false) : c ≠ k := fun e => by
  subst e
  simp at h
theorem fits_bad {c : UInt8} {v : Int} (h0 : ((c.toNat : Int) == 110) = false) : fitsB c v = decide (least c ≤ v ∧ v ≤ most c) := by
  unfold fitsB
  rw [if_neg (u8_not (k := 110) h0)]
theorem fits_k (c : UInt8) (lo hi v : Int) (h : c ≠ 110) (h1 : least c = lo) (h2 : most c = hi) : (decide (lo ≤ v) && decide (v ≤ hi)) = fitsB c v := by
  unfold fitsB
  rw [if_neg h, h1, h2, Bool.decide_and]
theorem fits_n (v : Int) : decide (Word v) = fitsB 110 v := by
  unfold fitsB
  rw [if_pos rfl]
theorem fits_rest {c : UInt8} {v : Int} (h0 : ((c.toNat : Int) == 110) = false) (h1 : ((c.toNat : Int) == 107) = false) (h2 : ((c.toNat : Int) == 116) = false) (h3 : ((c.toNat : Int) == 102) = false) (h4 : ((c.toNat : Int) == 106) = false) :
    fitsB c v = (decide (0 ≤ v) && decide (v ≤ 31)) := by
  rw [fits_bad h0]
  unfold least most
  rw [Bool.decide_and, if_neg (u8_not (k := 106) h4), if_neg (u8_not (k := 107) h1), if_neg (u8_not (k := 116) h2), if_neg (u8_not (k := 102) h3), if_neg (u8_not (k := 106) h4)]

set_option maxHeartbeats 1000000 in
theorem inRange_any (c : UInt8) (v : Int) (w : World) : Calls Tryd.prog 86 #[.int .u8 (c.toNat : Int), .int .i64 v] w fun e w' => e = .returned (.bool (fitsB c v)) ∧ w = w' := by
  go_enter Tryd.func86, Tryd.ntmps86
  go_wp2_with (first
    | (go_at_call 58; refine (Go.Proofs.YtbekfjjajggffaaDoor.span.within_any v _ _ _).mono ?_; rintro e w' ⟨rfl, rfl⟩)
    | (go_at_call 81; refine (Go.Proofs.YtbekfjjajggffaaDoor.word.fits_any v _).mono ?_; rintro e w' ⟨rfl, rfl⟩))
  all_goals go_ret
  all_goals refine ⟨ret_bool ?_, rfl⟩
  all_goals first
    | (have hq : c = 110 := u8_of (k := 110) ‹((c.toNat : Int) == 110) = true›; subst hq; first | exact fits_n v | (refine fits_k _ _ _ v ?_ ?_ ?_ <;> decide))
    | (have hq : c = 107 := u8_of (k := 107) ‹((c.toNat : Int) == 107) = true›; subst hq; first | exact fits_n v | (refine fits_k _ _ _ v ?_ ?_ ?_ <;> decide))
    | (have hq : c = 116 := u8_of (k := 116) ‹((c.toNat : Int) == 116) = true›; subst hq; first | exact fits_n v | (refine fits_k _ _ _ v ?_ ?_ ?_ <;> decide))
    | (have hq : c = 102 := u8_of (k := 102) ‹((c.toNat : Int) == 102) = true›; subst hq; first | exact fits_n v | (refine fits_k _ _ _ v ?_ ?_ ?_ <;> decide))
    | (have hq : c = 119 := u8_of (k := 119) ‹((c.toNat : Int) == 119) = true›; subst hq; first | exact fits_n v | (refine fits_k _ _ _ v ?_ ?_ ?_ <;> decide))
    | (have hq : c = 106 := u8_of (k := 106) ‹((c.toNat : Int) == 106) = true›; subst hq; first | exact fits_n v | (refine fits_k _ _ _ v ?_ ?_ ?_ <;> decide))
    | exact (fits_rest ‹_› ‹_› ‹_› ‹_› ‹_›).symm

theorem named : ∀ k, k < 52 → (!(nm.getD k ⟨#[]⟩).toList.isEmpty) = true := by decide +kernel
theorem txt_named (o : Int) : (!(txt nm o).toList.isEmpty) = decide (Known o) := by
  by_cases h : Known o
  · rw [decide_eq_true h]
    obtain ⟨k, hk, rfl⟩ := Go.Proofs.YtbekfjjajggffaaDoor.oper.nat_of h
    rw [Go.Proofs.YtbekfjjajggffaaDoor.oper.txt_at hk]
    exact named k hk
  · rw [decide_eq_false h, Go.Proofs.YtbekfjjajggffaaDoor.oper.txt_no (by unfold Known at h; omega)]
    rw [ByteArray.toList_eq]
    rfl
theorem knows_any (o : Int) (w : World) (hT : Tab w) : Calls Tryd.prog 85 #[.int .i64 o] w fun e w' => e = .returned (.bool (decide (Known o))) ∧ w = w' := by
  have HN := Lib.hid (Go.Proofs.YtbekfjjajggffaaDoor.oper.name_any o w hT)
  have HE := Lib.hid (txt_named o)
  clear hT
  generalize txt nm o = x at *
  go_enter Tryd.func85, Tryd.ntmps85
  go_wp2_with fail
  refine HN.out.mono ?_
  rintro e w' ⟨rfl, rfl⟩
  go_wp2
  go_ret
  exact ⟨ret_bool HE.out, rfl⟩
end Go.Proofs.YtbekfjjajggffaaDoor.inst

/-
  A list of objects that came in, and what a copy of it leaves. No condition.
-/
namespace Go.Proofs.YtbekfjjajggffaaDoor.objs
open Go.RowKit Go.ChangeShapes
set_option linter.unusedVariables false

/-- An int. -/
def I64 (n : Int) : Prop := -9223372036854775808 ≤ n ∧ n ≤ 9223372036854775807
def Ints (l : List De) : Prop := ∀ j, j < l.length → I64 (l.getD j zero).1 ∧ I64 (l.getD j zero).2.1 ∧ I64 (l.getD j zero).2.2
/-- A list that came in: of at most a hundred, or the first hundred of it. -/
def LIn (w : World) (A : Option Addr) (n cap : Nat) (l : List De) : Prop := (A = none → n = 0 ∧ cap = 0) ∧ n ≤ cap ∧ cap ≤ 9223372036854775807 ∧ DAt w A l ∧ Ints l ∧ l.length = min n 100
theorem own_new (W : World) : Own (W.alloc (.cells #[] 48)) W.heap.size (.slice (some ⟨W.heap.size, 0, none⟩) 0 0) [] := Own.empty (heap_alloc_new W _)
/-- Behind the copy: what is as it was, and the copy. -/
theorem own_copy {w W W2 : World} {A : Option Addr} {l : List De} {v2 : Value} {r : Option Nat} (hA : DAt w A l) (hb : Below w.heap.size w W) (h1 : Own W2 W.heap.size v2 l) (hg : (W.alloc (.cells #[] 48)).grownBy W2 r) (hr : ∀ k, r = some k → k = W.heap.size) :
    Below w.heap.size w W2 ∧ DAt W2 A l ∧ ∃ A2 c2, v2 = .slice A2 l.length c2 ∧ DAt W2 A2 l := by
  have hb2 : Below w.heap.size w W2 := (hb.alloc hb.size _).grown hg (by simp; have := hb.size; omega) (fun k e => by rw [hr k e]; exact hb.size)
  obtain ⟨A2, c2, rfl⟩ := h1.slice
  exact ⟨hb2, hA.next hb2, A2, c2, rfl, h1.at⟩

theorem DAt.two {w : World} {g : Nat} {d e : De} (h : w.heap[g]? = some (.cells #[.int .i64 d.1, .int .i64 d.2.1, .int .i64 d.2.2, .int .i64 e.1, .int .i64 e.2.1, .int .i64 e.2.2] 48 (0, 0))) : DAt w (some ⟨g, 0, none⟩) [d, e] := fun j hj => by
  have hj2 : j < 2 := hj
  refine ⟨g, 0, rfl, lt_of_block h, ?_⟩
  unfold CellsAt World.cell?
  rw [h]
  match j, hj2 with
  | 0, _ => exact ⟨rfl, rfl, rfl⟩
  | 1, _ => exact ⟨rfl, rfl, rfl⟩
end Go.Proofs.YtbekfjjajggffaaDoor.objs

/-
  What is wrong with a wait, its bytes, the wait with which bytes begin, its text, and the objects of a kind of needs: plain mathematics of lists and numbers. No condition.
-/
namespace Go.Proofs.YtbekfjjajggffaaDoor.need
open Go.Proofs.YtbekfjjajggffaaDoor.octet (St rdByte rdNum num num_length_le)
open Go.Proofs.YtbekfjjajggffaaDoor.objs (De zero rdN)
set_option linter.unusedVariables false

/-- The kind of object that a kind of need asks. -/
def kn (k : Int) : Int := if k = 1 then 1 else if k = 2 ∨ k = 3 then 2 else if k = 4 then 3 else 6
def lo (n : De) : Int := if n.1 = 4 ∨ n.1 = 5 then 1 else 0
def hi (d : List De) (n : De) : Int := if n.1 = 4 then (d.getD n.2.1.toNat zero).2.2 else if n.1 = 5 then (d.getD n.2.1.toNat zero).2.1 else 0
/-- What is wrong with a need (its kind, the object, the number). -/
def oneN (d : List De) (n : De) : Nat :=
  if n.1 < 1 ∨ 5 < n.1 then 6
  else if n.2.1 < 0 ∨ (d.length : Int) ≤ n.2.1 ∨ (d.getD n.2.1.toNat zero).1 ≠ kn n.1 then 1
  else if n.2.2 < lo n ∨ hi d n < n.2.2 then 1 else 0
/-- Two needs that may not stand in one way. -/
def clash (a b : De) : Bool := a.2.1 == b.2.1 || (a.1 == 4 || b.1 == 4)
def ones (d : List De) : List De → Nat
  | [] => 0
  | n :: l => if oneN d n ≠ 0 then oneN d n else ones d l
/-- Is there a clash of the k-th one with one of the first j? -/
def clashTo (l : List De) (k : Nat) : Nat → Bool
  | 0 => false
  | j + 1 => clashTo l k j || clash (l.getD j zero) (l.getD k zero)
def twiceTo (l : List De) : Nat → Bool
  | 0 => false
  | k + 1 => twiceTo l k || clashTo l k k
def chkWay (d l : List De) : Nat :=
  if l.length = 0 then 2 else if 4 < l.length then 4 else if ones d l ≠ 0 then ones d l else if twiceTo l l.length then 2 else 0
def ways (d : List De) : List (List De) → Nat
  | [] => 0
  | l :: w => if chkWay d l ≠ 0 then chkWay d l else ways d w
/-- What is wrong with a wait. -/
def chkW (d : List De) (w : List (List De)) : Nat := if w.length = 0 then 2 else if 4 < w.length then 4 else ways d w

theorem oneN_le (d : List De) (n : De) : oneN d n ≤ 6 := by
  unfold oneN
  split
  · omega
  · split
    · omega
    · split <;> omega
theorem ones_le (d l : List De) : ones d l ≤ 6 := by
  induction l with
  | nil => simp [ones]
  | cons n l ih =>
    unfold ones
    split
    · exact oneN_le d n
    · exact ih
theorem chkWay_le (d l : List De) : chkWay d l ≤ 6 := by
  unfold chkWay
  split
  · omega
  · split
    · omega
    · split
      · exact ones_le d l
      · split <;> omega
theorem ones_drop {d l : List De} {k : Nat} (h : k < l.length) : ones d (l.drop k) = if oneN d (l.getD k zero) ≠ 0 then oneN d (l.getD k zero) else ones d (l.drop (k + 1)) := by
  rw [List.drop_eq_getElem_cons h]
  have e : l.getD k zero = l[k] := by rw [List.getD_eq_getElem?_getD, List.getElem?_eq_getElem h]; rfl
  rw [e]
  rfl
theorem ways_drop {d : List De} {w : List (List De)} {k : Nat} (h : k < w.length) : ways d (w.drop k) = if chkWay d (w.getD k []) ≠ 0 then chkWay d (w.getD k []) else ways d (w.drop (k + 1)) := by
  rw [List.drop_eq_getElem_cons h]
  have e : w.getD k [] = w[k] := by rw [List.getD_eq_getElem?_getD, List.getElem?_eq_getElem h]; rfl
  rw [e]
  rfl
theorem ones_zero {d l : List De} (h : ones d l = 0) : ∀ n ∈ l, oneN d n = 0 := by
  induction l with
  | nil => intro n hn; cases hn
  | cons m l ih =>
    unfold ones at h
    by_cases hm : oneN d m ≠ 0
    · rw [if_pos hm] at h
      exact absurd h hm
    · rw [if_neg hm] at h
      intro n hn
      rcases List.mem_cons.1 hn with rfl | hn
      · omega
      · exact ih h n hn
theorem ways_zero {d : List De} {w : List (List De)} (h : ways d w = 0) : ∀ l ∈ w, chkWay d l = 0 := by
  induction w with
  | nil => intro n hn; cases hn
  | cons m l ih =>
    unfold ways at h
    by_cases hm : chkWay d m ≠ 0
    · rw [if_pos hm] at h
      exact absurd h hm
    · rw [if_neg hm] at h
      intro n hn
      rcases List.mem_cons.1 hn with rfl | hn
      · omega
      · exact ih h n hn
theorem chkWay_zero {d l : List De} (h : chkWay d l = 0) : 0 < l.length ∧ l.length ≤ 4 ∧ ∀ n ∈ l, oneN d n = 0 := by
  unfold chkWay at h
  split at h
  · cases h
  · split at h
    · cases h
    · split at h
      · omega
      · rename_i h1 h2 h3
        exact ⟨by omega, by omega, ones_zero (by omega)⟩
theorem chkW_zero {d : List De} {w : List (List De)} (h : chkW d w = 0) : 0 < w.length ∧ w.length ≤ 4 ∧ ∀ l ∈ w, 0 < l.length ∧ l.length ≤ 4 ∧ ∀ n ∈ l, oneN d n = 0 := by
  unfold chkW at h
  split at h
  · cases h
  · split at h
    · cases h
    · rename_i h1 h2
      exact ⟨by omega, by omega, fun l hl => chkWay_zero (ways_zero h l hl)⟩
/-- A need that may be has small numbers. -/
theorem oneN_zero {d : List De} {n : De} (h : oneN d n = 0) : (1 ≤ n.1 ∧ n.1 ≤ 5) ∧ (0 ≤ n.2.1 ∧ n.2.1 < (d.length : Int)) ∧ (n.1 ≤ 3 → n.2.2 = 0) ∧ 0 ≤ n.2.2 ∧ n.2.2 ≤ hi d n := by
  unfold oneN at h
  split at h
  · cases h
  · split at h
    · cases h
    · split at h
      · cases h
      · rename_i h1 h2 h3
        refine ⟨by omega, by omega, fun h4 => ?_, ?_, by omega⟩
        · have e1 : lo n = 0 := by unfold lo; rw [if_neg (by omega)]
          have e2 : hi d n = 0 := by unfold hi; rw [if_neg (by omega), if_neg (by omega)]
          omega
        · have e1 : 0 ≤ lo n := by unfold lo; split <;> omega
          omega

/-- The bytes of a need. -/
def pieceN (k n : Int) : List UInt8 := if 3 < k then num n.toNat else []
def encN (n : De) : List UInt8 := UInt8.ofNat n.1.toNat :: (num n.2.1.toNat ++ pieceN n.1 n.2.2)
def encNs (l : List De) : Nat → List UInt8
  | 0 => []
  | k + 1 => encNs l k ++ encN (l.getD k zero)
def encWay (l : List De) : List UInt8 := num l.length ++ encNs l l.length
def encWs (w : List (List De)) : Nat → List UInt8
  | 0 => []
  | k + 1 => encWs w k ++ encWay (w.getD k [])
def encW (w : List (List De)) : List UInt8 := num w.length ++ encWs w w.length
theorem encN_le (n : De) : (encN n).length ≤ 21 := by
  have h1 := num_length_le n.2.1.toNat
  have h2 : (pieceN n.1 n.2.2).length ≤ 10 := by
    unfold pieceN
    split
    · exact num_length_le _
    · simp
  simp only [encN, List.length_cons, List.length_append]
  omega
theorem encNs_le (l : List De) : ∀ j, (encNs l j).length ≤ 21 * j := by
  intro j
  induction j with
  | zero => simp [encNs]
  | succ j ih =>
    have := encN_le (l.getD j zero)
    simp only [encNs, List.length_append]
    omega
theorem encWay_le {l : List De} (h : l.length ≤ 6) : (encWay l).length ≤ 136 := by
  have h1 := num_length_le l.length
  have h2 := encNs_le l l.length
  simp only [encWay, List.length_append]
  omega
theorem encWs_le {w : List (List De)} (h : ∀ l ∈ w, l.length ≤ 6) : ∀ j, j ≤ w.length → (encWs w j).length ≤ 136 * j := by
  intro j
  induction j with
  | zero => intro _; simp [encWs]
  | succ j ih =>
    intro hj
    have h1 := ih (by omega)
    have h2 : (encWay (w.getD j [])).length ≤ 136 := encWay_le (by
      rw [List.getD_eq_getElem?_getD, List.getElem?_eq_getElem (by omega), Option.getD_some]
      exact h _ (List.getElem_mem _))
    simp only [encWs, List.length_append]
    omega

/-- A number that only some kinds have. -/
def rdC (k : Nat) (s : St) : Int × St := if 3 < k then rdN s else (0, s)
/-- A need that is read: what is left, and what is wrong. -/
def rdNeed (s : St) : De × St × Nat :=
  let y := rdByte s
  if y.2.err = 0 ∧ (y.1 < 1 ∨ 5 < y.1) then (zero, y.2, 6)
  else (((y.1 : Int), (rdN y.2).1, (rdC y.1 (rdN y.2).2).1), (rdC y.1 (rdN y.2).2).2, (rdC y.1 (rdN y.2).2).2.err)
def rdNeeds (s : St) : Nat → List De × St × Nat
  | 0 => ([], s, 0)
  | j + 1 =>
    let p := rdNeeds s j
    if p.2.2 ≠ 0 then p
    else if (rdNeed p.2.1).2.2 ≠ 0 then ([], (rdNeed p.2.1).2.1, (rdNeed p.2.1).2.2)
    else (p.1 ++ [(rdNeed p.2.1).1], (rdNeed p.2.1).2.1, 0)
def rdWay (s : St) : List De × St × Nat :=
  if 4 < (rdNum s).1 then ([], (rdNum s).2, 4) else if (rdNum s).2.err ≠ 0 then ([], (rdNum s).2, (rdNum s).2.err) else rdNeeds (rdNum s).2 (rdNum s).1
def rdWays (s : St) : Nat → List (List De) × St × Nat
  | 0 => ([], s, 0)
  | j + 1 =>
    let p := rdWays s j
    if p.2.2 ≠ 0 then p
    else if (rdWay p.2.1).2.2 ≠ 0 then ([], (rdWay p.2.1).2.1, (rdWay p.2.1).2.2)
    else (p.1 ++ [(rdWay p.2.1).1], (rdWay p.2.1).2.1, 0)
def readW (d : List De) (s : St) : List (List De) × St × Nat :=
  if 4 < (rdNum s).1 then ([], (rdNum s).2, 4) else if (rdNum s).2.err ≠ 0 then ([], (rdNum s).2, (rdNum s).2.err)
  else
    let p := rdWays (rdNum s).2 (rdNum s).1
    if p.2.2 ≠ 0 then ([], p.2.1, p.2.2)
    else if chkW d p.1 ≠ 0 then ([], p.2.1, chkW d p.1)
    else (p.1, p.2.1, 0)
/-- The wait with which bytes begin, how many bytes it has, the first error. -/
def getW (d : List De) (l : List UInt8) : List (List De) × Nat × Nat :=
  let r := readW d ⟨l, 0⟩
  if r.2.2 ≠ 0 then ([], 0, r.2.2) else (r.1, l.length - r.2.1.rest.length, 0)

/-- A number in decimals. -/
def digs (n : Nat) : List UInt8 := if h : n < 10 then [UInt8.ofNat (48 + n)] else digs (n / 10) ++ [UInt8.ofNat (48 + n % 10)]
termination_by n
decreasing_by omega
def intT (n : Int) : List UInt8 := if n < 0 then 45 :: digs (-n).toNat else digs n.toNat
theorem digs_small {n : Nat} (h : n < 10) : digs n = [UInt8.ofNat (48 + n)] := by unfold digs; rw [dif_pos h]
theorem digs_big {n : Nat} (h : ¬ n < 10) : digs n = digs (n / 10) ++ [UInt8.ofNat (48 + n % 10)] := by
  conv => lhs; unfold digs
  rw [dif_neg h]
theorem digs_le : ∀ k n, n < 10 ^ k → (digs n).length ≤ k + 1 := by
  intro k
  induction k with
  | zero =>
    intro n hn
    have : n < 1 := by simpa using hn
    rw [digs_small (by omega)]
    simp
  | succ k ih =>
    intro n hn
    by_cases h : n < 10
    · rw [digs_small h]; simp
    · rw [digs_big h, List.length_append]
      have h1 : n / 10 < 10 ^ k := by
        rw [Nat.pow_succ] at hn
        omega
      have := ih _ h1
      simp
      omega
theorem digs_64 {n : Nat} (h : n ≤ 9223372036854775808) : (digs n).length ≤ 20 := digs_le 19 n (by
  have : (10 : Nat) ^ 19 = 10000000000000000000 := by decide
  omega)
theorem intT_le {n : Int} (h : -9223372036854775808 ≤ n ∧ n ≤ 9223372036854775807) : (intT n).length ≤ 21 := by
  unfold intT
  split
  · have := digs_64 (n := (-n).toNat) (by omega)
    simp
    omega
  · have := digs_64 (n := n.toNat) (by omega)
    omega
/-- A kind's word. -/
def word (k : Int) : List UInt8 := if k = 1 then [108, 111, 99, 107] else if k = 2 then [114, 101, 97, 100] else if k = 3 then [119, 114, 105, 116, 101] else if k = 4 then [100, 111, 119, 110] else if k = 5 then [116, 97, 107, 101] else [110, 111, 110, 101]
theorem word_le (k : Int) : (word k).length ≤ 5 := by
  unfold word
  split
  · decide
  · split
    · decide
    · split
      · decide
      · split
        · decide
        · split <;> decide
def tailT (k n : Int) : List UInt8 := if k = 4 ∨ k = 5 then 58 :: intT n else []
def needT (n : De) : List UInt8 := word n.1 ++ [32] ++ intT n.2.1 ++ tailT n.1 n.2.2
def needsT (l : List De) : Nat → List UInt8
  | 0 => []
  | k + 1 => needsT l k ++ (if 0 < k then [32, 43, 32] else []) ++ needT (l.getD k zero)
def waysT (w : List (List De)) : Nat → List UInt8
  | 0 => []
  | k + 1 => waysT w k ++ (if 0 < k then [32, 124, 32] else []) ++ needsT (w.getD k []) (w.getD k []).length
/-- A wait's text. -/
def textW (w : List (List De)) : List UInt8 := waysT w w.length
def Small (n : De) : Prop := (-9223372036854775808 ≤ n.1 ∧ n.1 ≤ 9223372036854775807) ∧ (-9223372036854775808 ≤ n.2.1 ∧ n.2.1 ≤ 9223372036854775807) ∧ (-9223372036854775808 ≤ n.2.2 ∧ n.2.2 ≤ 9223372036854775807)
theorem needT_le {n : De} (h : Small n) : (needT n).length ≤ 49 := by
  have h1 := word_le n.1
  have h2 := intT_le h.2.1
  have h3 : (tailT n.1 n.2.2).length ≤ 22 := by
    unfold tailT
    split
    · have := intT_le h.2.2
      simp
      omega
    · simp
  simp only [needT, List.length_append, List.length_cons, List.length_nil]
  omega
theorem getD_mem {l : List De} {k : Nat} (h : k < l.length) : l.getD k zero ∈ l := by
  rw [List.getD_eq_getElem?_getD, List.getElem?_eq_getElem h]
  exact List.getElem_mem h
theorem getW_mem {w : List (List De)} {k : Nat} (h : k < w.length) : w.getD k [] ∈ w := by
  rw [List.getD_eq_getElem?_getD, List.getElem?_eq_getElem h]
  exact List.getElem_mem h
theorem needsT_le {l : List De} (h : ∀ n ∈ l, Small n) : ∀ j, j ≤ l.length → (needsT l j).length ≤ 52 * j := by
  intro j
  induction j with
  | zero => intro _; simp [needsT]
  | succ j ih =>
    intro hj
    have h1 := ih (by omega)
    have h2 := needT_le (h _ (getD_mem (l := l) (k := j) (by omega)))
    have h3 : (if 0 < j then ([32, 43, 32] : List UInt8) else []).length ≤ 3 := by split <;> simp
    simp only [needsT, List.length_append]
    omega
theorem waysT_le {w : List (List De)} (h : ∀ l ∈ w, l.length ≤ 6 ∧ ∀ n ∈ l, Small n) : ∀ j, j ≤ w.length → (waysT w j).length ≤ 315 * j := by
  intro j
  induction j with
  | zero => intro _; simp [waysT]
  | succ j ih =>
    intro hj
    have h1 := ih (by omega)
    have hm := h _ (getW_mem (w := w) (k := j) (by omega))
    have h2 := needsT_le hm.2 _ (Nat.le_refl _)
    have h4 := hm.1
    have h3 : (if 0 < j then ([32, 124, 32] : List UInt8) else []).length ≤ 3 := by split <;> simp
    simp only [waysT, List.length_append]
    omega
end Go.Proofs.YtbekfjjajggffaaDoor.need

/-
  A wait as it lies in memory, wherever it came from; a row of needs, and a row of ways, that a call owns. No condition.
-/
namespace Go.Proofs.YtbekfjjajggffaaDoor.need
open Go.RowKit Go.ChangeShapes
open Go.Proofs.YtbekfjjajggffaaDoor.objs (De zero CellsAt DAt flat flat_append flat_length flat_at flat_oneCell src_cells I64 Ints)
set_option linter.unusedVariables false

/-- A slice's value of objects, nil or a row of the call's own. -/
def OwnN (w : World) (base : Nat) (v : Value) (l : List De) : Prop := w.ownsRow base 71 3 v l.length (flat l)
theorem OwnN.nil (w : World) (base : Nat) : OwnN w base (.slice none 0 0) [] := World.ownsRow_nil ..
theorem OwnN.empty {w : World} {g : Nat} (h : w.heap[g]? = some (.cells #[] 71 (0, 0))) : OwnN w g (.slice (some ⟨g, 0, none⟩) 0 0) [] :=
  ⟨rfl, .inr ⟨g, 0, #[], rfl, Nat.le_refl _, h, Nat.le_refl _, Nat.zero_le _, rfl, rfl⟩⟩
theorem OwnN.slice {w : World} {base : Nat} {v : Value} {l : List De} (h : OwnN w base v l) : ∃ A cap, v = .slice A l.length cap := by
  rcases h.2 with ⟨rfl, h0⟩ | ⟨g, cap, cur, rfl, _⟩
  · exact ⟨none, 0, by rw [h0]⟩
  · exact ⟨_, _, rfl⟩
theorem OwnN.at {w : World} {base cap : Nat} {A : Option Addr} {l : List De} {n : Nat} (h : OwnN w base (.slice A n cap) l) : DAt w A l := by
  intro j hj
  rcases h.2 with ⟨e, h0⟩ | ⟨g, cap', cur, e, hb, hh, _⟩
  · omega
  · injection e with e1 e2 e3
    subst e1
    obtain ⟨h1, h2, h3⟩ := flat_at l j hj
    refine ⟨g, 0, rfl, lt_of_block hh, ?_, ?_, ?_⟩
    · have := World.ownsRow.cells h (g := g) rfl _ _ h1
      rw [Addr.add_lit] at this
      simpa using this
    · have := World.ownsRow.cells h (g := g) rfl _ _ h2
      rw [Addr.add_lit] at this
      simpa using this
    · have := World.ownsRow.cells h (g := g) rfl _ _ h3
      rw [Addr.add_lit] at this
      simpa using this
theorem OwnN.keep {w w' : World} {base : Nat} {v : Value} {l : List De} (h : OwnN w base v l) (hk : ∀ g, v.ownBlock = some g → w'.heap[g]? = w.heap[g]?) : OwnN w' base v l := by
  refine ⟨h.1, h.2.imp id ?_⟩
  rintro ⟨g, c, cur, rfl, hb, hh, r⟩
  exact ⟨g, c, cur, rfl, hb, (hk g rfl).trans hh, r⟩
theorem OwnN.lt {w : World} {base g : Nat} {v : Value} {l : List De} (h : OwnN w base v l) (hg : v.ownBlock = some g) : base ≤ g ∧ g < w.heap.size := World.ownsRow.lt h g hg
theorem OwnN.next {w w' : World} {base : Nat} {v : Value} {l : List De} (h : OwnN w base v l) (hb : Below w.heap.size w w') : OwnN w' base v l := h.keep fun g hg => hb.block g (h.lt hg).2
theorem OwnN.base {w : World} {base base' : Nat} {v : Value} {l : List De} (h : OwnN w base v l) (hb : base' ≤ base) : OwnN w base' v l := by
  refine ⟨h.1, h.2.imp id ?_⟩
  rintro ⟨g, c, cur, e, hb1, r⟩
  exact ⟨g, c, cur, e, Nat.le_trans hb hb1, r⟩

theorem infoN : (Tryd.prog.info? 71).map (fun i => (i.zero, i.size, i.bytes)) = some (some (.agg #[.int .i64 0, .int .i64 0, .int .i64 0]), 3, 24) := by kernel_rfl

/-- A list that lies anywhere, put behind a row of a call's own. -/
theorem run_appN (w : World) (ty : TypeId) (base m c : Nat) (v : Value) (A : Option Addr) (l r : List De) (hrow : OwnN w base v l) (hm : m = r.length) (hA : A = none → r = [] ∧ c = 0) (hsrc : DAt w A r) (hlen : l.length + r.length ≤ 100000) (hbase : base ≤ w.heap.size) :
    ∃ v' w', (Builtin.append_ #[68, 68] ty #[v, .slice A m c]).run Tryd.prog w = .ok v' w' ∧ OwnN w' base v' (l ++ r) ∧ w.grownBy w' v.ownBlock := by
  subst hm
  obtain ⟨i, hi, hz0, hz1, hz2⟩ := info_parts infoN
  cases A with
  | none =>
    obtain ⟨rfl, rfl⟩ := hA rfl
    refine ⟨v, w, run_append_owned_none (P := Tryd.prog) (w := w) base 68 ty 71 i 3 Tryd.underlying68 hi v l.length (flat l) hrow, ?_, ⟨rfl, rfl, rfl, Nat.le_refl _, fun _ _ _ => rfl⟩⟩
    rw [List.append_nil]
    exact hrow
  | some ad =>
    obtain ⟨v', w', h1, h2, h3, _⟩ := run_append_own (P := Tryd.prog) w base 68 ty 71 i _ 3 24 Tryd.underlying68 hi hz0 hz1 hz2 rfl (by omega) v l.length (flat l) hrow ad r.length c (flat r) (flat_length r) (src_cells hsrc) (flat_oneCell r) (by unfold maxLen; omega) (by omega) hbase
    refine ⟨v', w', h1, ?_, h3⟩
    unfold OwnN
    rw [List.length_append, flat_append]
    exact h2
theorem wp_appN {o : Oper} {a : Act} {w : World} {K : Act → World → Prop} {Q : Exit → Act → World → Prop} (s x : Operand)
    (ho : o.op = .call { callee := .builtin .append, args := #[s, x], argTypes := #[68, 68] }) (base m c : Nat) (v : Value) (A : Option Addr) (l r : List De)
    (hs : a.eval s = v) (hrow : OwnN w base v l) (hx : a.eval x = .slice A m c) (hm : m = r.length) (hA : A = none → r = [] ∧ c = 0) (hsrc : DAt w A r) (hlen : l.length + r.length ≤ 100000) (hbase : base ≤ w.heap.size)
    (h : ∀ v' w', OwnN w' base v' (l ++ r) → w.grownBy w' v.ownBlock → K (a.put o.dst v') w') : o.wp Tryd.prog a w K Q := by
  obtain ⟨v', w', hr, h2, h3⟩ := run_appN w o.type base m c v A l r hrow hm hA hsrc hlen hbase
  unfold Oper.wp execOp
  simp only [ho, resolve, invoke, builtin, Sem.run_bind, Sem.run_pure, Result.andThen_ok, List.map_toArray, List.map_cons, List.map_nil, hs, hx, hr]
  exact h v' w' h2 h3
theorem wpList_appN {ops : Array Oper} {rest : List Oper} {o : Oper} {a : Act} {w : World} {Q : Exit → Act → World → Prop} (hgd : o.guard = none) (s x : Operand)
    (ho : o.op = .call { callee := .builtin .append, args := #[s, x], argTypes := #[68, 68] }) (base m c : Nat) (v : Value) (A : Option Addr) (l r : List De)
    (hs : a.eval s = v) (hrow : OwnN w base v l) (hx : a.eval x = .slice A m c) (hm : m = r.length) (hA : A = none → r = [] ∧ c = 0) (hsrc : DAt w A r) (hlen : l.length + r.length ≤ 100000) (hbase : base ≤ w.heap.size)
    (h : ∀ v' w', OwnN w' base v' (l ++ r) → w.grownBy w' v.ownBlock → wpList Tryd.prog ops Q rest (a.put o.dst v') w') : wpList Tryd.prog ops Q (o :: rest) a w :=
  wpList_plain hgd fun _ hK => wp_appN s x ho base m c v A l r hs hrow hx hm hA hsrc hlen hbase fun v' w' h2 h3 => hK _ _ (h v' w' h2 h3)
theorem step_appN {ops : Array Oper} {o : Oper} {a : Act} {w : World} {K : Act → World → Prop} {Q : Exit → Act → World → Prop} {E : Prop} (hgd : o.guard = none) (s x : Operand)
    (ho : o.op = .call { callee := .builtin .append, args := #[s, x], argTypes := #[68, 68] }) (base m c : Nat) (v : Value) (A : Option Addr) (l r : List De)
    (hs : a.eval s = v) (hrow : OwnN w base v l) (hx : a.eval x = .slice A m c) (hm : m = r.length) (hA : A = none → r = [] ∧ c = 0) (hsrc : DAt w A r) (hlen : l.length + r.length ≤ 100000) (hbase : base ≤ w.heap.size)
    (h : ∀ v' w', OwnN w' base v' (l ++ r) → w.grownBy w' v.ownBlock → K (a.put o.dst v') w') :
    if Region.wanted o (yielded ops a.tmps) = true then Oper.wp Tryd.prog o a w K Q else E := by
  have hw : Region.wanted o (yielded ops a.tmps) = true := by simp [Region.wanted, hgd]
  rw [if_pos hw]
  exact wp_appN s x ho base m c v A l r hs hrow hx hm hA hsrc hlen hbase h
theorem DAt.oneN {w : World} {g : Nat} {d : De} (h : w.heap[g]? = some (.cells #[.int .i64 d.1, .int .i64 d.2.1, .int .i64 d.2.2] 71 (0, 0))) : DAt w (some ⟨g, 0, none⟩) [d] := fun j hj => by
  obtain rfl : j = 0 := by simpa using hj
  refine ⟨g, 0, rfl, lt_of_block h, ?_, ?_, ?_⟩
  all_goals
    unfold World.cell?
    rw [h]
    rfl
/-- What a row of needs holds: its block is one of needs. -/
theorem OwnN.kind {w : World} {base g : Nat} {v : Value} {l : List De} (h : OwnN w base v l) (hg : v.ownBlock = some g) : ∃ cur, w.heap[g]? = some (.cells cur 71 (0, 0)) := by
  rcases h.2 with ⟨rfl, _⟩ | ⟨g', cap, cur, rfl, _, hh, _⟩
  · cases hg
  · simp [Value.ownBlock] at hg
    subst hg
    exact ⟨cur, hh⟩

/-- A list of ways, each a list of needs, from where a slice begins: all of it. -/
def WAt (w : World) (A : Option Addr) (l : List (List De)) : Prop :=
  ∀ j, j < l.length → ∃ b off Aj cj, A = some ⟨b, off, none⟩ ∧ b < w.heap.size ∧ w.cell? ⟨b, off + j, none⟩ = some (.slice Aj (l.getD j []).length cj) ∧ DAt w Aj (l.getD j [])
theorem WAt.next {w w' : World} {A : Option Addr} {l : List (List De)} (h : WAt w A l) (hb : Below w.heap.size w w') : WAt w' A l := fun j hj => by
  obtain ⟨b, off, Aj, cj, h1, h2, h3, h4⟩ := h j hj
  exact ⟨b, off, Aj, cj, h1, Nat.lt_of_lt_of_le h2 hb.size, (hb.cell (p := ⟨b, off + j, none⟩) h2).trans h3, h4.next hb⟩
theorem WAt.drew {w : World} {A : Option Addr} {l : List (List De)} (h : WAt w A l) : WAt w.drew A l := h
theorem WAt.drewN {w : World} {A : Option Addr} {l : List (List De)} (h : WAt w A l) : ∀ n, WAt (w.drewN n) A l
  | 0 => h
  | n + 1 => (WAt.drewN h n).drew
theorem WAt.nil (w : World) (A : Option Addr) : WAt w A [] := fun j hj => absurd hj (Nat.not_lt_zero j)
/-- The first six ways of a list, of each the first six needs, and how many there are. -/
def WG (w : World) (A : Option Addr) (n : Nat) (l : List (List De)) : Prop :=
  l.length = min n 6 ∧ ∀ j, j < l.length → ∃ b off Aj nj cj, A = some ⟨b, off, none⟩ ∧ b < w.heap.size ∧ w.cell? ⟨b, off + j, none⟩ = some (.slice Aj nj cj) ∧ DAt w Aj (l.getD j []) ∧ (l.getD j []).length = min nj 6 ∧ nj ≤ cj ∧ cj ≤ 9223372036854775807 ∧ (Aj = none → nj = 0 ∧ cj = 0)
theorem WG.next {w w' : World} {A : Option Addr} {n : Nat} {l : List (List De)} (h : WG w A n l) (hb : Below w.heap.size w w') : WG w' A n l := ⟨h.1, fun j hj => by
  obtain ⟨b, off, Aj, nj, cj, h1, h2, h3, h4, h5⟩ := h.2 j hj
  exact ⟨b, off, Aj, nj, cj, h1, Nat.lt_of_lt_of_le h2 hb.size, (hb.cell (p := ⟨b, off + j, none⟩) h2).trans h3, h4.next hb, h5⟩⟩
/-- One that is no longer is there whole. -/
theorem WG.whole {w : World} {A : Option Addr} {n : Nat} {l : List (List De)} (h : WG w A n l) (hl : l.length ≤ 5) (hw : ∀ x ∈ l, x.length ≤ 5) : n = l.length ∧ WAt w A l := by
  refine ⟨by have := h.1; omega, fun j hj => ?_⟩
  obtain ⟨b, off, Aj, nj, cj, h1, h2, h3, h4, h5, _⟩ := h.2 j hj
  have hm := hw _ (getW_mem hj)
  have : nj = (l.getD j []).length := by omega
  subst this
  exact ⟨b, off, Aj, cj, h1, h2, h3, h4⟩

/-- A row of ways that a call owns, each of them a row of needs of the call's own. -/
def OwnW (W : World) (base : Nat) (v : Value) (l : List (List De)) : Prop :=
  ∃ xs : List Value, W.ownsRow base 68 1 v l.length xs ∧ ∀ j, j < l.length → ∃ x, xs[j]? = some x ∧ OwnN W base x (l.getD j [])
theorem OwnW.slice {w : World} {base : Nat} {v : Value} {l : List (List De)} (h : OwnW w base v l) : ∃ A cap, v = .slice A l.length cap := by
  obtain ⟨xs, h1, _⟩ := h
  rcases h1.2 with ⟨rfl, h0⟩ | ⟨g, cap, cur, rfl, _⟩
  · exact ⟨none, 0, by rw [h0]⟩
  · exact ⟨_, _, rfl⟩
theorem OwnW.next {w w' : World} {base : Nat} {v : Value} {l : List (List De)} (h : OwnW w base v l) (hb : Below w.heap.size w w') : OwnW w' base v l := by
  obtain ⟨xs, h1, h2⟩ := h
  refine ⟨xs, ?_, fun j hj => ?_⟩
  · refine ⟨h1.1, h1.2.imp id ?_⟩
    rintro ⟨g, c, cur, rfl, hg, hh, r⟩
    exact ⟨g, c, cur, rfl, hg, (hb.block g (lt_of_block hh)).trans hh, r⟩
  · obtain ⟨x, h3, h4⟩ := h2 j hj
    exact ⟨x, h3, h4.next hb⟩
theorem OwnW.nil (w : World) (base : Nat) : OwnW w base (.slice none 0 0) [] := ⟨[], World.ownsRow_nil .., fun j hj => absurd hj (Nat.not_lt_zero j)⟩
theorem OwnW.empty {w : World} {g : Nat} (h : w.heap[g]? = some (.cells #[] 68 (0, 0))) : OwnW w g (.slice (some ⟨g, 0, none⟩) 0 0) [] :=
  ⟨[], ⟨rfl, .inr ⟨g, 0, #[], rfl, Nat.le_refl _, h, Nat.le_refl _, Nat.zero_le _, rfl, rfl⟩⟩, fun j hj => absurd hj (Nat.not_lt_zero j)⟩
theorem OwnW.base {w : World} {base base' : Nat} {v : Value} {l : List (List De)} (h : OwnW w base v l) (hb : base' ≤ base) : OwnW w base' v l := by
  obtain ⟨xs, h1, h2⟩ := h
  refine ⟨xs, ⟨h1.1, h1.2.imp id ?_⟩, fun j hj => ?_⟩
  · rintro ⟨g, c, cur, e, hg, r⟩
    exact ⟨g, c, cur, e, Nat.le_trans hb hg, r⟩
  · obtain ⟨x, h3, h4⟩ := h2 j hj
    exact ⟨x, h3, h4.base hb⟩
theorem OwnW.at {w : World} {base cap : Nat} {A : Option Addr} {l : List (List De)} {n : Nat} (h : OwnW w base (.slice A n cap) l) : WAt w A l := by
  intro j hj
  obtain ⟨xs, h1, h2⟩ := h
  obtain ⟨x, h3, h4⟩ := h2 j hj
  rcases h1.2 with ⟨e, h0⟩ | ⟨g, cap', cur, e, hb, hh, _⟩
  · omega
  · injection e with e1 e2 e3
    subst e1
    obtain ⟨Aj, cj, rfl⟩ := h4.slice
    refine ⟨g, 0, Aj, cj, rfl, lt_of_block hh, ?_, h4.at⟩
    have := World.ownsRow.cells h1 (g := g) rfl _ _ h3
    rw [Addr.add_lit] at this
    simpa using this
theorem infoW : (Tryd.prog.info? 68).map (fun i => (i.zero, i.size, i.bytes)) = some (some (.slice none 0 0), 1, 24) := by kernel_rfl

/-- One way, in a block of its own, put behind a row of ways. -/
theorem run_appW (w w1 : World) (ty : TypeId) (base c : Nat) (v x : Value) (l : List (List De)) (r : List De) (hrow : OwnW w base v l) (hx : OwnN w base x r) (hw1 : w1 = w.alloc (.cells #[x] 68)) (hlen : l.length ≤ 1000) (hbase : base ≤ w.heap.size) :
    ∃ v' w', (Builtin.append_ #[52, 52] ty #[v, .slice (some ⟨w.heap.size, 0, none⟩) 1 c]).run Tryd.prog w1 = .ok v' w' ∧ OwnW w' base v' (l ++ [r]) ∧ w1.grownBy w' v.ownBlock := by
  subst hw1
  obtain ⟨i, hi, hz0, hz1, hz2⟩ := info_parts infoW
  obtain ⟨xs, h1, h2⟩ := hrow
  have hb0 : Below w.heap.size w (w.alloc (.cells #[x] 68)) := (Below.refl _ w).alloc (Nat.le_refl _) _
  have hc : (w.alloc (.cells #[x] 68)).cell? ⟨w.heap.size, 0, none⟩ = some x := by
    unfold World.cell?
    rw [heap_alloc_new w _]
    rfl
  have hrow1 : (w.alloc (.cells #[x] 68)).ownsRow base 68 1 v l.length xs := by
    refine ⟨h1.1, h1.2.imp id ?_⟩
    rintro ⟨g, c, cur, rfl, hg, hh, r⟩
    exact ⟨g, c, cur, rfl, hg, (hb0.block g (lt_of_block hh)).trans hh, r⟩
  obtain ⟨Ax, cx, hxs⟩ := hx.slice
  obtain ⟨v', w', r1, r2, r3, _⟩ := run_append_own (P := Tryd.prog) (w.alloc (.cells #[x] 68)) base 52 ty 68 i _ 1 24 Tryd.underlying52 hi hz0 hz1 hz2 rfl (by omega) v l.length xs hrow1 ⟨w.heap.size, 0, none⟩ 1 c [x] rfl (by
      intro j u hu
      rcases j with _ | j
      · simp only [List.getElem?_cons_zero, Option.some.injEq] at hu
        subst hu
        rw [Addr.add_lit]
        exact hc
      · simp at hu) (by
      intro u hu
      simp only [List.mem_singleton] at hu
      subst hu
      rw [hxs]
      rfl) (by unfold maxLen; omega) (by omega) (by simp; omega)
  refine ⟨v', w', r1, ⟨xs ++ [x], ?_, fun j hj => ?_⟩, r3⟩
  · rw [List.length_append]
    exact r2
  · have hlx : xs.length = l.length := by have := h1.1; omega
    have keep : ∀ (y : Value) (r' : List De), OwnN w base y r' → OwnN w' base y r' := fun y r' hy => hy.keep fun g hg => by
      have hlt := (hy.lt hg).2
      obtain ⟨cur, hk⟩ := hy.kind hg
      rw [r3.block g (by have := hb0.size; omega) (fun e => ?_), hb0.block g hlt]
      rcases h1.2 with ⟨rfl, _⟩ | ⟨g', cap', cur', rfl, _, hh, _⟩
      · cases e
      · simp [Value.ownBlock] at e
        subst e
        rw [hk] at hh
        injection hh with hh
        injection hh with _ hh _
        exact absurd hh (by decide)
    rcases Nat.lt_or_ge j l.length with hj2 | hj2
    · obtain ⟨y, h3, h4⟩ := h2 j hj2
      refine ⟨y, by rw [List.getElem?_append_left (by omega)]; exact h3, ?_⟩
      rw [show (l ++ [r]).getD j [] = l.getD j [] from by rw [List.getD_eq_getElem?_getD, List.getD_eq_getElem?_getD, List.getElem?_append_left hj2]]
      exact keep _ _ h4
    · rw [List.length_append] at hj
      obtain rfl : j = l.length := by simp at hj; omega
      refine ⟨x, by rw [List.getElem?_append_right (by omega), hlx, Nat.sub_self]; rfl, ?_⟩
      rw [show (l ++ [r]).getD l.length [] = r from by rw [List.getD_eq_getElem?_getD, List.getElem?_append_right (Nat.le_refl _), Nat.sub_self]; rfl]
      exact keep _ _ hx
theorem wp_appW {o : Oper} {a : Act} {w w1 : World} {K : Act → World → Prop} {Q : Exit → Act → World → Prop} (s y : Operand)
    (ho : o.op = .call { callee := .builtin .append, args := #[s, y], argTypes := #[52, 52] }) (base c : Nat) (v x : Value) (l : List (List De)) (r : List De)
    (hs : a.eval s = v) (hrow : OwnW w base v l) (hy : a.eval y = .slice (some ⟨w.heap.size, 0, none⟩) 1 c) (hx : OwnN w base x r) (hw1 : w1 = w.alloc (.cells #[x] 68)) (hlen : l.length ≤ 1000) (hbase : base ≤ w.heap.size)
    (h : ∀ v' w', OwnW w' base v' (l ++ [r]) → w1.grownBy w' v.ownBlock → K (a.put o.dst v') w') : o.wp Tryd.prog a w1 K Q := by
  obtain ⟨v', w', hr, h2, h3⟩ := run_appW w w1 o.type base c v x l r hrow hx hw1 hlen hbase
  unfold Oper.wp execOp
  simp only [ho, resolve, invoke, builtin, Sem.run_bind, Sem.run_pure, Result.andThen_ok, List.map_toArray, List.map_cons, List.map_nil, hs, hy, hr]
  exact h v' w' h2 h3
theorem wpList_appW {ops : Array Oper} {rest : List Oper} {o : Oper} {a : Act} {w w1 : World} {Q : Exit → Act → World → Prop} (hgd : o.guard = none) (s y : Operand)
    (ho : o.op = .call { callee := .builtin .append, args := #[s, y], argTypes := #[52, 52] }) (base c : Nat) (v x : Value) (l : List (List De)) (r : List De)
    (hs : a.eval s = v) (hrow : OwnW w base v l) (hy : a.eval y = .slice (some ⟨w.heap.size, 0, none⟩) 1 c) (hx : OwnN w base x r) (hw1 : w1 = w.alloc (.cells #[x] 68)) (hlen : l.length ≤ 1000) (hbase : base ≤ w.heap.size)
    (h : ∀ v' w', OwnW w' base v' (l ++ [r]) → w1.grownBy w' v.ownBlock → wpList Tryd.prog ops Q rest (a.put o.dst v') w') : wpList Tryd.prog ops Q (o :: rest) a w1 :=
  wpList_plain hgd fun _ hK => wp_appW s y ho base c v x l r hs hrow hy hx hw1 hlen hbase fun v' w' h2 h3 => hK _ _ (h v' w' h2 h3)
theorem step_appW {ops : Array Oper} {o : Oper} {a : Act} {w w1 : World} {K : Act → World → Prop} {Q : Exit → Act → World → Prop} {E : Prop} (hgd : o.guard = none) (s y : Operand)
    (ho : o.op = .call { callee := .builtin .append, args := #[s, y], argTypes := #[52, 52] }) (base c : Nat) (v x : Value) (l : List (List De)) (r : List De)
    (hs : a.eval s = v) (hrow : OwnW w base v l) (hy : a.eval y = .slice (some ⟨w.heap.size, 0, none⟩) 1 c) (hx : OwnN w base x r) (hw1 : w1 = w.alloc (.cells #[x] 68)) (hlen : l.length ≤ 1000) (hbase : base ≤ w.heap.size)
    (h : ∀ v' w', OwnW w' base v' (l ++ [r]) → w1.grownBy w' v.ownBlock → K (a.put o.dst v') w') :
    if Region.wanted o (yielded ops a.tmps) = true then Oper.wp Tryd.prog o a w1 K Q else E := by
  have hw : Region.wanted o (yielded ops a.tmps) = true := by simp [Region.wanted, hgd]
  rw [if_pos hw]
  exact wp_appW s y ho base c v x l r hs hrow hy hx hw1 hlen hbase h
end Go.Proofs.YtbekfjjajggffaaDoor.need
