/-
  The document's Add. No condition.
-/
import Derived.Test.YtlkcpplpjjbiaaaReRefW
namespace Go.Proofs.Ytlkcpplpjjbiaaa.reg
open Go.RowKit Go.ChangeShapes
open Go.Proofs.Ytlkcpplpjjbiaaa.pol (SAt below_grown)
set_option linter.unusedVariables false
set_option linter.unusedSimpArgs false

def shO (x : E) : Obj := .cells #[.int .i64 x.1, .int .i64 x.2] 42 (0, 0)
/-- In a round: what was put out, and the box of the one at hand. -/
structure Xs (w : World) (v : Value) (out : List E) (g : Nat) (x : E) (W : World) : Prop where
  own : pol.Own W w.heap.size v out
  below : Below w.heap.size w W
  box : W.heap[g]? = some (shO x)
  ge : w.heap.size ≤ g
section
variable {w W W' : World} {v : Value} {out : List E} {g : Nat} {x : E}
theorem Xs.new (ho : pol.Own W w.heap.size v out) (hb : Below w.heap.size w W) (x : E) : Xs w v out W.heap.size x (W.alloc (shO x)) :=
  ⟨ho.next ((Below.refl _ W).alloc (Nat.le_refl _) _), hb.alloc hb.size _, heap_alloc_new W _, hb.size⟩
theorem Xs.next (h : Xs w v out g x W) (hb : Below W.heap.size W W') : Xs w v out g x W' :=
  ⟨h.own.next hb, h.below.trans (hb.mono h.below.size), (hb.block _ (lt_of_block h.box)).trans h.box, h.ge⟩
theorem Xs.cells (h : Xs w v out g x W) : W.cell? ⟨g, 0, none⟩ = some (.int .i64 x.1) ∧ W.cell? ⟨g, 1, none⟩ = some (.int .i64 x.2) ∧ W.frozen? ⟨g, 1, none⟩ = false := by
  refine ⟨?_, ?_, frozen_of_row W g 1 _ _ h.box⟩
  all_goals
    unfold World.cell?
    rw [h.box]
    rfl
theorem Xs.set (h : Xs w v out g x W) (hv : ∀ b, v.ownBlock = some b → b ≠ g) (y : Int) : Xs w v out g (x.1, y) (W.setCell ⟨g, 1, none⟩ (.int .i64 y)) :=
  ⟨own_setCell h.own _ hv, h.below.setCell (p := ⟨g, 1, none⟩) h.ge _, heap_setCell_same W g 1 _ _ _ h.box, h.ge⟩
/-- What an append asks: the row, and the pair in a block that was made just now. -/
theorem Xs.app (h : Xs w v out g x W) (y : E) : pol.Own (W.alloc (.cells #[.int .i64 y.1, .int .i64 y.2] 42)) w.heap.size v out ∧ SAt (W.alloc (.cells #[.int .i64 y.1, .int .i64 y.2] 42)) (fun j => W.heap.size ≤ j) (some ⟨W.heap.size, 0, none⟩) [y] ∧ w.heap.size ≤ (W.alloc (.cells #[.int .i64 y.1, .int .i64 y.2] 42)).heap.size ∧
    ∀ v2 w2, pol.Own w2 w.heap.size v2 (out ++ [y]) → (W.alloc (.cells #[.int .i64 y.1, .int .i64 y.2] 42)).grownBy w2 v.ownBlock → (pol.Own w2 w.heap.size v2 (out ++ [y]) ∧ Below w.heap.size w w2) ∧ ((∀ b, v.ownBlock = some b → b ≠ g) → Xs w v2 (out ++ [y]) g x w2) := by
  have hb := (Below.refl W.heap.size W).alloc (Nat.le_refl _) (.cells #[.int .i64 y.1, .int .i64 y.2] 42)
  have hn := h.next hb
  refine ⟨hn.own, SAt.one (heap_alloc_new W _), hn.below.size, fun v2 w2 ho hg => ?_⟩
  have hb2 : Below w.heap.size w w2 := below_grown hn.below hg (fun j e => (hn.own.lt e).1) hn.below.size
  exact ⟨⟨ho, hb2⟩, fun hv => ⟨ho, hb2, (hg.block g (lt_of_block hn.box) fun e => hv g e.symm rfl).trans hn.box, h.ge⟩⟩
end
/-- What Add answers. -/
def AddP (l2 : List E) (w : World) (e : Ending) (w' : World) : Prop := ∃ A c, e = .returned (.slice A l2.length c) ∧ pol.Own w' w.heap.size (.slice A l2.length c) l2 ∧ Below w.heap.size w w'
theorem drop_get {l : List E} {k : Nat} (h : k < l.length) : l.drop k = l.getD k (0, 0) :: l.drop (k + 1) := by
  rw [List.drop_eq_getElem_cons h, List.getD_eq_getElem?_getD, List.getElem?_eq_getElem h]
  rfl
/-- What a round asks of what was put out. -/
def Inv (l : List E) (o n : Int) (k : Nat) (out : List E) (d : Bool) : Prop := out ++ (if d then l.drop k else addL (l.drop k) o n) = addL l o n ∧ out.length ≤ k + d.toNat
section
variable {l out : List E} {o n : Int} {k : Nat}
theorem Inv.done (h : Inv l o n k out true) (hk : k < l.length) : Inv l o n (k + 1) (out ++ [l.getD k (0, 0)]) true := by
  obtain ⟨h1, h2⟩ := h
  refine ⟨?_, by rw [List.length_append, List.length_singleton]; simp only [Bool.toNat_true, Bool.toNat_false] at h2 ⊢; omega⟩
  rw [← h1]
  simp only [if_true]
  rw [drop_get hk]
  simp
theorem Inv.less (h : Inv l o n k out false) (hk : k < l.length) (ha : (l.getD k (0, 0)).1 < o) : Inv l o n (k + 1) (out ++ [l.getD k (0, 0)]) false := by
  obtain ⟨h1, h2⟩ := h
  refine ⟨?_, by rw [List.length_append, List.length_singleton]; simp only [Bool.toNat_true, Bool.toNat_false] at h2 ⊢; omega⟩
  rw [← h1]
  simp only [Bool.false_eq_true, if_false]
  rw [drop_get hk, addL, if_pos ha]
  simp
theorem Inv.same (h : Inv l o n k out false) (hk : k < l.length) (ha : (l.getD k (0, 0)).1 = o) (hp : 0 < (l.getD k (0, 0)).2 + n) : Inv l o n (k + 1) (out ++ [((l.getD k (0, 0)).1, (l.getD k (0, 0)).2 + n)]) true := by
  obtain ⟨h1, h2⟩ := h
  refine ⟨?_, by rw [List.length_append, List.length_singleton]; simp only [Bool.toNat_true, Bool.toNat_false] at h2 ⊢; omega⟩
  rw [← h1]
  simp only [Bool.false_eq_true, if_false, if_true]
  rw [drop_get hk, addL, if_neg (by omega), if_pos ha, if_pos hp]
  simp
theorem Inv.gone (h : Inv l o n k out false) (hk : k < l.length) (ha : (l.getD k (0, 0)).1 = o) (hp : ¬ 0 < (l.getD k (0, 0)).2 + n) : Inv l o n (k + 1) out true := by
  obtain ⟨h1, h2⟩ := h
  refine ⟨?_, by simp only [Bool.toNat_true, Bool.toNat_false] at h2 ⊢; omega⟩
  rw [← h1]
  simp only [Bool.false_eq_true, if_false, if_true]
  rw [drop_get hk, addL, if_neg (by omega), if_pos ha, if_neg hp]
theorem Inv.ahead (h : Inv l o n k out false) (hk : k < l.length) (ha : o < (l.getD k (0, 0)).1) (hp : 0 < n) : Inv l o n (k + 1) (out ++ [(o, n)] ++ [l.getD k (0, 0)]) true := by
  obtain ⟨h1, h2⟩ := h
  refine ⟨?_, by simp only [List.length_append, List.length_singleton, Bool.toNat_true, Bool.toNat_false] at h2 ⊢; omega⟩
  rw [← h1]
  simp only [Bool.false_eq_true, if_false, if_true]
  rw [drop_get hk, addL, if_neg (by omega), if_neg (by omega), if_pos hp]
  simp
theorem Inv.past (h : Inv l o n k out false) (hk : k < l.length) (ha : o < (l.getD k (0, 0)).1) (hp : ¬ 0 < n) : Inv l o n (k + 1) (out ++ [l.getD k (0, 0)]) true := by
  obtain ⟨h1, h2⟩ := h
  refine ⟨?_, by rw [List.length_append, List.length_singleton]; simp only [Bool.toNat_true, Bool.toNat_false] at h2 ⊢; omega⟩
  rw [← h1]
  simp only [Bool.false_eq_true, if_false, if_true]
  rw [drop_get hk, addL, if_neg (by omega), if_neg (by omega), if_neg hp]
  simp
end
set_option maxRecDepth 100000 in
set_option maxHeartbeats 8000000 in
theorem refAdd_any (A : Option Addr) (c : Nat) (l : List E) (o n : Int) (w : World) (hs : pol.Own w 0 (.slice A l.length c) l) (hl : l.length ≤ 4000) (hpos : ∀ p ∈ l, 1 ≤ p.2 ∧ p.2 ≤ 2305843009213693952) (hn : -2305843009213693952 ≤ n ∧ n ≤ 2305843009213693952) :
    Calls Try.prog 30 #[.slice A l.length c, .int .i64 o, .int .i64 n] w (AddP (addL l o n) w) := by
  have HS := Lib.hid hs
  have HL := Lib.hid hl
  have HP : Hid (∀ k, k < l.length → 1 ≤ (l.getD k (0, 0)).2 ∧ (l.getD k (0, 0)).2 ≤ 2305843009213693952) := Lib.hid fun k hk => hpos _ (by rw [List.getD_eq_getElem?_getD, List.getElem?_eq_getElem hk]; exact List.getElem_mem hk)
  have H0 : Hid (pol.Own (w.alloc (.cells #[] 42)) w.heap.size (.slice (some ⟨w.heap.size, 0, none⟩) 0 0) [] ∧ Below w.heap.size w (w.alloc (.cells #[] 42)) ∧ Inv l o n 0 [] false) := Lib.hid ⟨pol.Own.empty (heap_alloc_new w _), (Below.refl _ w).alloc (Nat.le_refl _) _, by simp [Inv]⟩
  unfold AddP
  clear hs hl hpos
  go_enter Try.func30, Try.ntmps30
  go_wp2
  go_loopw [7, 8, 9] (fun v dn i wr => ∃ (k : Nat) (out : List E) (d : Bool), i = .int .i64 (k : Int) ∧ dn = .bool d ∧ k ≤ l.length ∧ Hid (pol.Own wr w.heap.size v out ∧ Below w.heap.size w wr ∧ Inv l o n k out d)) (fun _ _ i _ => l.length - (intOf i).toNat)
  case atStart => exact ⟨0, [], false, rfl, rfl, Nat.zero_le _, H0⟩
  case round =>
    obtain ⟨k, out, d, rfl, rfl, hk, HW⟩ := hrel
    clear H0
    by_cases hlt : k < l.length
    · obtain ⟨b, off, rfl, _, _, c0, c1⟩ := (HS.out.next HW.out.2.1).at k hlt
      have HK : Hid (k + 1 ≤ l.length) := Lib.hid hlt
      have hw1 : wrap64 ((k : Int) + 1) = (k : Int) + 1 := IntWalk.wrap64_in _ (by have := HL.out; omega)
      have hw2 : IntKind.i64.wrap ((k : Int) + 1) = (k : Int) + 1 := by rw [IntWalk.i64_left, hw1]
      have k1 : (0 : Int) ≤ (k : Int) := by omega
      have k2 : (k : Int) < (l.length : Int) := by omega
      obtain ⟨q0, q1⟩ := HP.out k hlt
      have HX := Lib.hid (Xs.new HW.out.1 HW.out.2.1 (l.getD k (0, 0)))
      have HV : Hid (∀ b, u7.ownBlock = some b → b ≠ wr.heap.size) := Lib.hid fun b e => by have := (HW.out.1.lt e).2; omega
      have HLn : Hid (out.length ≤ 5000) := Lib.hid (by
        have h1 := HW.out.2.2.2
        have h2 := HL.out
        have h3 : d.toNat ≤ 1 := by cases d <;> decide
        omega)
      have HI := Lib.hid HW.out.2.2
      clear HW hk
      unfold shO at HX
      cases d
      case' true =>
        · -- done
          have p0 : decide ((l.getD k (0, 0)).2 > 0) = true := decide_eq_true (by omega)
          have p1 : decide (0 < (l.getD k (0, 0)).2) = true := decide_eq_true (by omega)
          have HN := Lib.hid (Inv.done HI.out hlt)
          generalize l.getD k (0, 0) = x at *
          clear HI hlt
          try clear ha
          go_upto_region 6 with fail
          generalize wr.alloc (.cells #[.int .i64 x.1, .int .i64 x.2] 42) = W2 at *
          obtain ⟨x0, x1, x2⟩ := HX.out.cells
          go_wp2_with (at_builtin; refine pol.wpList_appS (by rfl) (.tmp 50) (.tmp 52) (by rfl) w.heap.size 1 1 _ u7 ⟨W2.heap.size, 0, none⟩ (out) [x] (by rfl) (HX.out.app x).1 (by rfl) (by rfl) (HX.out.app x).2.1 (by have := HLn.out; simp at this ⊢; omega) (HX.out.app x).2.2.1 ?_)
          intro v2 w2 ho2 hg2
          have h3 := (HX.out.app x).2.2.2 v2 w2 ho2 hg2
          have H3 : Hid (pol.Own w2 w.heap.size v2 (out ++ [x]) ∧ Below w.heap.size w w2 ∧ Inv l o n (k + 1) (out ++ [x]) true) := Lib.hid ⟨h3.1.1, h3.1.2, HN.out⟩
          clear ho2 hg2 h3
          go_wp2_with fail
          go_roundw
          case rel => exact ⟨k + 1, out ++ [x], true, by go_num, rfl, HK.out, H3⟩
          case measure => have := HK.out; simp [intOf, hw1]; omega

      case' false =>
        rcases Int.lt_trichotomy (l.getD k (0, 0)).1 o with ha | ha | ha
        · -- less
          have p0 : decide ((l.getD k (0, 0)).2 > 0) = true := decide_eq_true (by omega)
          have p1 : decide (0 < (l.getD k (0, 0)).2) = true := decide_eq_true (by omega)
          have g0 : decide ((l.getD k (0, 0)).1 ≥ o) = false := decide_eq_false (by omega)
          have g1 : decide (o ≤ (l.getD k (0, 0)).1) = false := decide_eq_false (by omega)
          have HN := Lib.hid (Inv.less HI.out hlt ha)
          generalize l.getD k (0, 0) = x at *
          clear HI hlt
          try clear ha
          go_upto_region 6 with fail
          generalize wr.alloc (.cells #[.int .i64 x.1, .int .i64 x.2] 42) = W2 at *
          obtain ⟨x0, x1, x2⟩ := HX.out.cells
          go_wp2_with (at_builtin; refine pol.wpList_appS (by rfl) (.tmp 50) (.tmp 52) (by rfl) w.heap.size 1 1 _ u7 ⟨W2.heap.size, 0, none⟩ (out) [x] (by rfl) (HX.out.app x).1 (by rfl) (by rfl) (HX.out.app x).2.1 (by have := HLn.out; simp at this ⊢; omega) (HX.out.app x).2.2.1 ?_)
          intro v2 w2 ho2 hg2
          have h3 := (HX.out.app x).2.2.2 v2 w2 ho2 hg2
          have H3 : Hid (pol.Own w2 w.heap.size v2 (out ++ [x]) ∧ Below w.heap.size w w2 ∧ Inv l o n (k + 1) (out ++ [x]) false) := Lib.hid ⟨h3.1.1, h3.1.2, HN.out⟩
          clear ho2 hg2 h3
          go_wp2_with fail
          go_roundw
          case rel => exact ⟨k + 1, out ++ [x], false, by go_num, rfl, HK.out, H3⟩
          case measure => have := HK.out; simp [intOf, hw1]; omega

        · by_cases hp : 0 < (l.getD k (0, 0)).2 + n
          · -- same
            have s0 : wrap64 ((l.getD k (0, 0)).2 + n) = (l.getD k (0, 0)).2 + n := IntWalk.wrap64_in _ (by omega)
            have s1 : IntKind.i64.wrap ((l.getD k (0, 0)).2 + n) = (l.getD k (0, 0)).2 + n := by rw [IntWalk.i64_left, s0]
            have e0 : ((l.getD k (0, 0)).1 == o) = true := by simpa using ha
            have g0 : decide ((l.getD k (0, 0)).1 ≥ o) = true := decide_eq_true (by omega)
            have g1 : decide (o ≤ (l.getD k (0, 0)).1) = true := decide_eq_true (by omega)
            have p0 : decide ((l.getD k (0, 0)).2 + n > 0) = true := decide_eq_true (by omega)
            have p1 : decide (0 < (l.getD k (0, 0)).2 + n) = true := decide_eq_true (by omega)
            have HN := Lib.hid (Inv.same HI.out hlt ha hp)
            generalize l.getD k (0, 0) = x at *
            clear HI hlt
            try clear ha
            go_upto_region 6 with fail
            generalize wr.alloc (.cells #[.int .i64 x.1, .int .i64 x.2] 42) = W2 at *
            obtain ⟨x0, x1, x2⟩ := HX.out.cells
            go_upto_region 12 with fail
            have HX3 := Lib.hid (HX.out.set HV.out (x.2 + n))
            generalize W2.setCell ⟨wr.heap.size, 1, none⟩ (.int .i64 (x.2 + n)) = W3 at *
            clear x0 x1 x2 HX
            obtain ⟨y, hy⟩ : ∃ y : E, y = (x.1, x.2 + n) := ⟨_, rfl⟩
            have hy2 : y.2 = x.2 + n := by rw [hy]
            rw [← hy2] at p0 p1
            rw [← hy] at HX3
            have HY := Lib.hid hy
            clear hy hy2
            obtain ⟨x0, x1, x2⟩ := HX3.out.cells
            have HN2 := Lib.hid HN.out
            rw [← HY.out] at HN2
            go_wp2_with (at_builtin; refine pol.wpList_appS (by rfl) (.tmp 50) (.tmp 52) (by rfl) w.heap.size 1 1 _ u7 ⟨W3.heap.size, 0, none⟩ (out) [y] (by rfl) (HX3.out.app y).1 (by rfl) (by rfl) (HX3.out.app y).2.1 (by have := HLn.out; simp at this ⊢; omega) (HX3.out.app y).2.2.1 ?_)
            intro v2 w2 ho2 hg2
            have h3 := (HX3.out.app y).2.2.2 v2 w2 ho2 hg2
            have H3 : Hid (pol.Own w2 w.heap.size v2 (out ++ [y]) ∧ Below w.heap.size w w2 ∧ Inv l o n (k + 1) (out ++ [y]) true) := Lib.hid ⟨h3.1.1, h3.1.2, HN2.out⟩
            clear ho2 hg2 h3
            go_wp2_with fail
            go_roundw
            case rel => exact ⟨k + 1, out ++ [y], true, by go_num, rfl, HK.out, H3⟩
            case measure => have := HK.out; simp [intOf, hw1]; omega

          · -- gone
            have s0 : wrap64 ((l.getD k (0, 0)).2 + n) = (l.getD k (0, 0)).2 + n := IntWalk.wrap64_in _ (by omega)
            have s1 : IntKind.i64.wrap ((l.getD k (0, 0)).2 + n) = (l.getD k (0, 0)).2 + n := by rw [IntWalk.i64_left, s0]
            have e0 : ((l.getD k (0, 0)).1 == o) = true := by simpa using ha
            have g0 : decide ((l.getD k (0, 0)).1 ≥ o) = true := decide_eq_true (by omega)
            have g1 : decide (o ≤ (l.getD k (0, 0)).1) = true := decide_eq_true (by omega)
            have p0 : decide ((l.getD k (0, 0)).2 + n > 0) = false := decide_eq_false (by omega)
            have p1 : decide (0 < (l.getD k (0, 0)).2 + n) = false := decide_eq_false (by omega)
            have HN := Lib.hid (Inv.gone HI.out hlt ha hp)
            generalize l.getD k (0, 0) = x at *
            clear HI hlt
            try clear ha
            go_upto_region 6 with fail
            generalize wr.alloc (.cells #[.int .i64 x.1, .int .i64 x.2] 42) = W2 at *
            obtain ⟨x0, x1, x2⟩ := HX.out.cells
            go_upto_region 12 with fail
            have HX3 := Lib.hid (HX.out.set HV.out (x.2 + n))
            generalize W2.setCell ⟨wr.heap.size, 1, none⟩ (.int .i64 (x.2 + n)) = W3 at *
            clear x0 x1 x2 HX
            obtain ⟨y, hy⟩ : ∃ y : E, y = (x.1, x.2 + n) := ⟨_, rfl⟩
            have hy2 : y.2 = x.2 + n := by rw [hy]
            rw [← hy2] at p0 p1
            rw [← hy] at HX3
            have HY := Lib.hid hy
            clear hy hy2
            obtain ⟨x0, x1, x2⟩ := HX3.out.cells
            have H3 : Hid (pol.Own W3 w.heap.size u7 out ∧ Below w.heap.size w W3 ∧ Inv l o n (k + 1) out true) := Lib.hid ⟨HX3.out.own, HX3.out.below, HN.out⟩
            go_wp2_with fail
            go_roundw
            case rel => exact ⟨k + 1, out, true, by go_num, rfl, HK.out, H3⟩
            case measure => have := HK.out; simp [intOf, hw1]; omega

        · by_cases hp : 0 < n
          · -- ahead
            have p0 : decide ((l.getD k (0, 0)).2 > 0) = true := decide_eq_true (by omega)
            have p1 : decide (0 < (l.getD k (0, 0)).2) = true := decide_eq_true (by omega)
            have g0 : decide ((l.getD k (0, 0)).1 ≥ o) = true := decide_eq_true (by omega)
            have g1 : decide (o ≤ (l.getD k (0, 0)).1) = true := decide_eq_true (by omega)
            have e0 : ((l.getD k (0, 0)).1 == o) = false := by rw [beq_eq_false_iff_ne]; omega
            have m0 : decide (n > 0) = true := decide_eq_true hp
            have m1 : decide (0 < n) = true := decide_eq_true hp
            have HN := Lib.hid (Inv.ahead HI.out hlt ha hp)
            generalize l.getD k (0, 0) = x at *
            clear HI hlt
            try clear ha
            go_upto_region 6 with fail
            generalize wr.alloc (.cells #[.int .i64 x.1, .int .i64 x.2] 42) = W2 at *
            obtain ⟨x0, x1, x2⟩ := HX.out.cells
            go_wp2_with (at_builtin; refine pol.wpList_appS (by rfl) (.tmp 41) (.tmp 45) (by rfl) w.heap.size 1 1 _ u7 ⟨W2.heap.size, 0, none⟩ (out) [((o, n) : E)] (by rfl) (HX.out.app ((o, n) : E)).1 (by rfl) (by rfl) (HX.out.app ((o, n) : E)).2.1 (by have := HLn.out; simp at this ⊢; omega) (HX.out.app ((o, n) : E)).2.2.1 ?_)
            intro v1 w1 ho1 hg1
            have HX4 := Lib.hid ((((HX.out.app ((o, n) : E)).2.2.2 v1 w1 ho1 hg1).2) HV.out)
            obtain ⟨out2, ho2⟩ : ∃ out2, out2 = out ++ [((o, n) : E)] := ⟨_, rfl⟩
            have HLn2 : Hid (out2.length ≤ 6000) := Lib.hid (by rw [ho2]; have := HLn.out; simp; omega)
            rw [← ho2] at HX4 HN
            clear x0 x1 x2 ho1 hg1 HX ho2
            obtain ⟨x0, x1, x2⟩ := HX4.out.cells
            go_wp2_with (at_builtin; refine pol.wpList_appS (by rfl) (.tmp 50) (.tmp 52) (by rfl) w.heap.size 1 1 _ v1 ⟨w1.heap.size, 0, none⟩ (out2) [x] (by rfl) (HX4.out.app x).1 (by rfl) (by rfl) (HX4.out.app x).2.1 (by have := HLn2.out; simp at this ⊢; omega) (HX4.out.app x).2.2.1 ?_)
            intro v2 w2 ho2 hg2
            have h3 := (HX4.out.app x).2.2.2 v2 w2 ho2 hg2
            have H3 : Hid (pol.Own w2 w.heap.size v2 (out2 ++ [x]) ∧ Below w.heap.size w w2 ∧ Inv l o n (k + 1) (out2 ++ [x]) true) := Lib.hid ⟨h3.1.1, h3.1.2, HN.out⟩
            clear ho2 hg2 h3
            go_wp2_with fail
            go_roundw
            case rel => exact ⟨k + 1, out2 ++ [x], true, by go_num, rfl, HK.out, H3⟩
            case measure => have := HK.out; simp [intOf, hw1]; omega

          · -- past
            have p0 : decide ((l.getD k (0, 0)).2 > 0) = true := decide_eq_true (by omega)
            have p1 : decide (0 < (l.getD k (0, 0)).2) = true := decide_eq_true (by omega)
            have g0 : decide ((l.getD k (0, 0)).1 ≥ o) = true := decide_eq_true (by omega)
            have g1 : decide (o ≤ (l.getD k (0, 0)).1) = true := decide_eq_true (by omega)
            have e0 : ((l.getD k (0, 0)).1 == o) = false := by rw [beq_eq_false_iff_ne]; omega
            have m0 : decide (n > 0) = false := decide_eq_false hp
            have m1 : decide (0 < n) = false := decide_eq_false hp
            have HN := Lib.hid (Inv.past HI.out hlt ha hp)
            generalize l.getD k (0, 0) = x at *
            clear HI hlt
            try clear ha
            go_upto_region 6 with fail
            generalize wr.alloc (.cells #[.int .i64 x.1, .int .i64 x.2] 42) = W2 at *
            obtain ⟨x0, x1, x2⟩ := HX.out.cells
            go_wp2_with (at_builtin; refine pol.wpList_appS (by rfl) (.tmp 50) (.tmp 52) (by rfl) w.heap.size 1 1 _ u7 ⟨W2.heap.size, 0, none⟩ (out) [x] (by rfl) (HX.out.app x).1 (by rfl) (by rfl) (HX.out.app x).2.1 (by have := HLn.out; simp at this ⊢; omega) (HX.out.app x).2.2.1 ?_)
            intro v2 w2 ho2 hg2
            have h3 := (HX.out.app x).2.2.2 v2 w2 ho2 hg2
            have H3 : Hid (pol.Own w2 w.heap.size v2 (out ++ [x]) ∧ Below w.heap.size w w2 ∧ Inv l o n (k + 1) (out ++ [x]) true) := Lib.hid ⟨h3.1.1, h3.1.2, HN.out⟩
            clear ho2 hg2 h3
            go_wp2_with fail
            go_roundw
            case rel => exact ⟨k + 1, out ++ [x], true, by go_num, rfl, HK.out, H3⟩
            case measure => have := HK.out; simp [intOf, hw1]; omega

    · obtain rfl : k = l.length := by omega
      have HI := Lib.hid HW.out.2.2
      cases d
      case' true =>
        have HR : out = addL l o n := by
          have h1 := HI.out.1
          simp only [if_true, List.drop_length, List.append_nil] at h1
          exact h1
        subst HR
        have HO := Lib.hid HW.out
        obtain ⟨A2, c2, rfl⟩ := HW.out.1.slice
        clear HW HI HS HP hk
        go_wp2_with fail
        go_ret
        exact ⟨_, _, rfl, HO.out.1, HO.out.2.1⟩
      case' false =>
        by_cases hp : 0 < n
        · have m0 : decide (n > 0) = true := decide_eq_true hp
          have m1 : decide (0 < n) = true := decide_eq_true hp
          have HX := Lib.hid HW.out.1
          have HE : Hid (addL l o n = out ++ [((o, n) : E)]) := Lib.hid (by
            have h1 := HI.out.1
            simp only [Bool.false_eq_true, if_false, List.drop_length, addL] at h1
            rw [if_pos hp] at h1
            exact h1.symm)
          have HT := Lib.hid (And.intro (HW.out.1.next ((Below.refl _ wr).alloc (Nat.le_refl _) (.cells #[.int .i64 o, .int .i64 n] 42))) (HW.out.2.1.alloc HW.out.2.1.size (.cells #[.int .i64 o, .int .i64 n] 42)))
          have HLn : Hid (out.length ≤ 5000) := Lib.hid (by
            have h1 := HW.out.2.2.2
            have h2 := HL.out
            simp only [Bool.toNat_false] at h1
            omega)
          have HO1 : Hid (SAt (wr.alloc (.cells #[.int .i64 o, .int .i64 n] 42)) (fun j => wr.heap.size ≤ j) (some ⟨wr.heap.size, 0, none⟩) [((o, n) : E)]) := Lib.hid (SAt.one (e := ((o, n) : E)) (heap_alloc_new wr _))
          clear HW HI HS HP hk hp
          go_wp2_with (at_builtin; refine pol.wpList_appS (by rfl) (.tmp 60) (.tmp 64) (by rfl) w.heap.size 1 1 _ u7 ⟨wr.heap.size, 0, none⟩ out [((o, n) : E)] (by rfl) HT.out.1 (by rfl) (by rfl) HO1.out (by have := HLn.out; simp; omega) HT.out.2.size ?_)
          intro v2 w2 ho2 hg2
          have H3 : Hid (pol.Own w2 w.heap.size v2 (addL l o n) ∧ Below w.heap.size w w2) := Lib.hid (by rw [HE.out]; exact ⟨ho2, below_grown HT.out.2 hg2 (fun j e => (HT.out.1.lt e).1) HT.out.2.size⟩)
          obtain ⟨A2, c2, rfl⟩ := H3.out.1.slice
          clear ho2 hg2 HT HO1
          go_wp2_with fail
          go_ret
          exact ⟨_, _, rfl, H3.out.1, H3.out.2⟩
        · have m0 : decide (n > 0) = false := decide_eq_false hp
          have m1 : decide (0 < n) = false := decide_eq_false hp
          have HR : out = addL l o n := by
            have h1 := HI.out.1
            simp only [Bool.false_eq_true, if_false, List.drop_length, addL] at h1
            rw [if_neg hp, List.append_nil] at h1
            exact h1
          subst HR
          have HO := Lib.hid HW.out
          obtain ⟨A2, c2, rfl⟩ := HW.out.1.slice
          clear HW HI HS HP hk hp
          go_wp2_with fail
          go_ret
          exact ⟨_, _, rfl, HO.out.1, HO.out.2.1⟩
end Go.Proofs.Ytlkcpplpjjbiaaa.reg
