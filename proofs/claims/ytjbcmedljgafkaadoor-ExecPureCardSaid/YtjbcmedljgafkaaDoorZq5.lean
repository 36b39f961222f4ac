/-
  Texts of one claim in one file: DRefCheck, EOwn, EOps, EBack, JPlain, GPlain, GOnce, GMem. Each has its own sentence, with its conditions.
-/
import Derived.Test.YtjbcmedljgafkaaDoorZq4
import Derived.Test.YtjbcmedljgafkaaDoorZq2
import Derived.Test.YtjbcmedljgafkaaDoorZq1
/-
  The document's own answer where the first object stands that may not be, and why. No condition but that a list is no longer than an int can say.
-/

namespace Go.Proofs.YtjbcmedljgafkaaDoor.objs
open Go.RowKit Go.ChangeShapes
open Go.Proofs.YtjbcmedljgafkaaDoor.word (Word)
set_option linter.unusedVariables false

/-- What Check answers. -/
def ChkPost (p : Int × Nat) (w : World) (e : Ending) (w' : World) : Prop := e = .returned (.tuple #[.int .i64 p.1, .int .i64 (p.2 : Nat)]) ∧ Below w.heap.size w w'
set_option maxHeartbeats 1000000 in
theorem refCheck_long (A : Option Addr) (cap n : Nat) (hn : 32 < n) (w : World) :
    Calls Tryd.prog 71 #[.slice A n cap] w (ChkPost (0, 4) w) := by
  unfold ChkPost
  have hd : decide ((32 : Int) < (n : Int)) = true := by simp; omega
  clear hn
  go_enter Tryd.func71, Tryd.ntmps71
  go_wp2_with fail
  go_ret2
  exact ⟨rfl, Below.refl _ _⟩
set_option maxRecDepth 100000 in
set_option maxHeartbeats 4000000 in
theorem refCheck_any (A : Option Addr) (cap : Nat) (l : List De) (hl : l.length ≤ 9223372036854775807) (w : World) (hA : DAt w A l) :
    Calls Tryd.prog 71 #[.slice A l.length cap] w (ChkPost (chk l) w) := by
  by_cases h32 : 32 < l.length
  · rw [chk_long h32]
    exact refCheck_long A cap l.length h32 w
  · obtain ⟨p, hp⟩ : ∃ p, p = chk l := ⟨_, rfl⟩
    have HP := Lib.hid hp
    rw [← hp]
    unfold ChkPost
    have hd : decide ((32 : Int) < (l.length : Int)) = false := by simp; omega
    have HA := Lib.hid hA
    have H32 := Lib.hid h32
    clear hA h32 hp
    go_enter Tryd.func71, Tryd.ntmps71
    go_wp2_with fail
    go_loopw [4] (fun i wr => ∃ j : Nat, j ≤ l.length ∧ i = .int .i64 (j : Int) ∧ Hid (j ≤ bad l ∧ DAt wr A l ∧ Below w.heap.size w wr)) (fun i _ => l.length - (intOf i).toNat)
    case atStart => exact ⟨0, Nat.zero_le _, rfl, Lib.hid ⟨Nat.zero_le _, HA.out, Below.refl _ _⟩⟩
    case round =>
      obtain ⟨j, hj, rfl, HS⟩ := hrel
      by_cases hlt : j < l.length
      · have HO := Lib.hid (refOne_any A cap l (l.getD j zero) hl wr HS.out.2.1)
        obtain ⟨b, off, rfl, hb, c0, c1, c2⟩ := HS.out.2.1 j hlt
        have hlt' : (j : Int) < (l.length : Int) := by omega
        unfold OnePost at HO
        have HBad := fun h => Lib.hid (chk_bad H32.out HS.out.1 hlt h)
        have HNx := fun h => Lib.hid (bad_next HS.out.1 hlt h)
        generalize l.getD j zero = d at *
        generalize one l d = q at *
        by_cases hq : q = 0
        · subst hq
          have HE := HNx rfl
          clear HBad HNx
          go_wp2_with fail
          refine HO.out.mono ?_
          rintro e w1 ⟨rfl, hb1⟩
          have HS1 := Lib.hid (HS.out.2.1.next hb1)
          have HB1 := Lib.hid (HS.out.2.2.trans (hb1.mono HS.out.2.2.size))
          clear hb1 c0 c1 c2
          go_wp2
          go_roundw
          case rel => exact ⟨j + 1, by omega, by go_num, Lib.hid ⟨HE.out, HS1.out, HB1.out⟩⟩
          case measure => simp [intOf]; omega
        · have HE := HBad hq
          have hq' : ((q : Int) != 0) = true := by simpa using hq
          clear HBad HNx hq
          go_wp2_with fail
          refine HO.out.mono ?_
          rintro e w1 ⟨rfl, hb1⟩
          have HB1 := Lib.hid (HS.out.2.2.trans (hb1.mono HS.out.2.2.size))
          clear hb1 c0 c1 c2
          go_wp2
          go_ret2
          exact ⟨by rw [HP.out, HE.out]; rfl, HB1.out⟩
      · obtain rfl : j = l.length := by omega
        have HE := Lib.hid (chk_fine H32.out HS.out.1)
        go_wp2_with fail
        go_ret2
        exact ⟨by rw [HP.out, HE.out]; rfl, HS.out.2.2⟩
end Go.Proofs.YtjbcmedljgafkaaDoor.objs

/-
  What the statements make of their own arguments: objects and waits in memory of their own, and whether objects may be. No condition but that lengths are ints.
-/

namespace Go.Proofs.YtjbcmedljgafkaaDoor.need
open Go.RowKit Go.ChangeShapes
open Go.Proofs.YtjbcmedljgafkaaDoor.objs (De zero CellsAt DAt chk chk_long chk_zero Own LIn Ints I64 ChkPost refCheck_any refCheck_long)
set_option linter.unusedVariables false

/-- A wait that came in: the first six of its ways, of each the first six needs, all of ints. -/
def WIn (w : World) (A : Option Addr) (n cap : Nat) (l : List (List De)) : Prop := (A = none → n = 0 ∧ cap = 0) ∧ n ≤ cap ∧ cap ≤ 9223372036854775807 ∧ WG w A n l ∧ ∀ x ∈ l, ∀ t ∈ x, Small t
theorem OwnW.whole {W : World} {base n cap : Nat} {A : Option Addr} {l : List (List De)} (h : OwnW W base (.slice A n cap) l) (hl : l.length ≤ 6) (hll : ∀ x ∈ l, x.length ≤ 6) : WG W A l.length l := by
  refine ⟨by omega, fun j hj => ?_⟩
  obtain ⟨xs, h1, h2⟩ := h
  obtain ⟨x, h3, h4⟩ := h2 j hj
  have h6 := hll _ (getW_mem hj)
  rcases h1.2 with ⟨e, h0⟩ | ⟨g, cap', cur, e, hb, hh, _⟩
  · omega
  · injection e with e1 e2 e3
    subst e1
    have hcell : W.cell? ⟨g, 0 + j, none⟩ = some x := by
      have := World.ownsRow.cells h1 (g := g) rfl _ _ h3
      rwa [Addr.add_lit] at this
    rcases h4.2 with ⟨rfl, h0⟩ | ⟨g', c', cur', rfl, hb', hh', hn, hm, _⟩
    · refine ⟨g, 0, none, 0, 0, rfl, lt_of_block hh, hcell, ?_, by omega, Nat.le_refl _, by omega, fun _ => ⟨rfl, rfl⟩⟩
      have := List.length_eq_zero_iff.1 h0
      rw [this]
      exact Go.Proofs.YtjbcmedljgafkaaDoor.objs.DAt.nil _ _
    · refine ⟨g, 0, some ⟨g', 0, none⟩, (l.getD j []).length, c', rfl, lt_of_block hh, hcell, h4.at, by omega, hn, by simpa [maxLen] using hm, fun h => by cases h⟩
theorem WG.short {w : World} {A : Option Addr} {n : Nat} {l : List (List De)} (h : WG w A n l) : l.length ≤ 6 ∧ ∀ x ∈ l, x.length ≤ 6 := by
  refine ⟨by have := h.1; omega, fun x hx => ?_⟩
  obtain ⟨j, hj, rfl⟩ := List.getElem_of_mem hx
  obtain ⟨_, _, _, nj, _, _, _, _, _, h5, _⟩ := h.2 j hj
  rw [List.getD_eq_getElem?_getD, List.getElem?_eq_getElem hj, Option.getD_some] at h5
  omega
/-- The same, and that its rows are the call's own. -/
def OwnMore (l : List (List De)) (w : World) (e : Ending) (w' : World) : Prop := ∃ A2 c2, e = .returned (.slice A2 l.length c2) ∧ OwnW w' w.heap.size (.slice A2 l.length c2) l ∧ Below w.heap.size w w'
theorem ownN_new (W : World) : OwnN (W.alloc (.cells #[] 124)) W.heap.size (.slice (some ⟨W.heap.size, 0, none⟩) 0 0) [] := OwnN.empty (heap_alloc_new W _)
/-- Behind the copy of a way. -/
theorem ownN_copy {W W2 : World} {v2 : Value} {l : List De} {r : Option Nat} (h1 : OwnN W2 W.heap.size v2 l) (hg : (W.alloc (.cells #[] 124)).grownBy W2 r) (hr : ∀ k, r = some k → k = W.heap.size) : Below W.heap.size W W2 :=
  ((Below.refl _ W).alloc (Nat.le_refl _) _).grown hg (by simp) (fun k e => by rw [hr k e]; exact Nat.le_refl _)
theorem take_more {l : List (List De)} {j : Nat} (h : j < l.length) : l.take (j + 1) = l.take j ++ [l.getD j []] := by
  rw [List.take_add_one, List.getD_eq_getElem?_getD, List.getElem?_eq_getElem h]
  rfl

set_option maxRecDepth 100000 in
set_option maxHeartbeats 8000000 in
theorem own_more (A : Option Addr) (n cap : Nat) (l : List (List De)) (hn : n ≤ 9223372036854775807) (w : World) (hA : WG w A n l) :
    Calls Tryd.prog 21 #[.slice A n cap] w (OwnMore l w) := by
  have HMin := Lib.hid hA.1
  have HSh := Lib.hid hA.short
  have HA := Lib.hid hA
  unfold OwnMore
  clear hA
  go_enter Tryd.func21, Tryd.ntmps21
  have hb0 : Below w.heap.size w (w.alloc (.cells #[] 95)) := (Below.refl _ w).alloc (Nat.le_refl _) _
  have HO0 : Hid (OwnW (w.alloc (.cells #[] 95)) w.heap.size (.slice (some ⟨w.heap.size, 0, none⟩) 0 0) []) := Lib.hid (OwnW.empty (heap_alloc_new w _))
  have HB0 := Lib.hid hb0
  clear hb0
  go_wp2_with fail
  generalize w.alloc (.cells #[] 95) = W0 at *
  go_loopw [3, 4] (fun o i wr => ∃ j : Nat, j ≤ l.length ∧ i = .int .i64 (j : Int) ∧ Hid (OwnW wr w.heap.size o (l.take j)) ∧ Hid (Below w.heap.size w wr)) (fun _ i _ => l.length - (intOf i).toNat)
  case atStart => exact ⟨0, Nat.zero_le _, rfl, HO0, HB0⟩
  case round =>
    obtain ⟨j, hj, rfl, HO, HB⟩ := hrel
    obtain ⟨Ao, co, ho⟩ := HO.out.slice
    have htl : (l.take j).length = j := by rw [List.length_take]; omega
    rw [htl] at ho
    subst ho
    by_cases hlt : j < l.length
    · obtain ⟨b, off, Aj, nj, cj, rfl, hbl, hc, hdj, hmj, hnc, hcm, hno⟩ := (HA.out.next HB.out).2 j hlt
      have HT := Lib.hid (take_more hlt)
      have hlt' : (j : Int) < (n : Int) := by have := HMin.out; omega
      have hlt6 : (j : Int) < 6 := by have := HMin.out; omega
      have hj0 : (0 : Int) ≤ (j : Int) := by omega
      have hj6 : j ≤ 5 := by have := HMin.out; omega
      have hl1 : (l.take j).length ≤ 6 := by omega
      generalize l.getD j [] = lj at *
      generalize l.take j = lt at *
      have hA1 := hdj.next ((Below.refl _ _).alloc (Nat.le_refl _) (.cells #[] 124))
      by_cases h6 : 6 < nj
      · have q6 : decide ((6 : Int) < (nj : Int)) = true := by simp; omega
        obtain ⟨a2, o2, rfl, hbl2, _⟩ := hdj 0 (by omega)
        have hl6 : lj.length = 6 := by omega
        have hc6 : (6 : Int) ≤ (cj : Int) := by omega
        have HBx := Lib.hid (show w.heap.size ≤ wr.heap.size from HB.out.size)
        clear hno hmj
        go_wp2_with (
          at_builtin
          refine wpList_appN (by rfl) (.tmp 27) (.tmp 28) (by rfl) wr.heap.size 6 cj (.slice (some ⟨wr.heap.size, 0, none⟩) 0 0) (some ⟨a2, o2, none⟩) [] lj (by rfl) (ownN_new wr) (by rfl) hl6.symm (fun h => by cases h) hA1 (by simp; omega) (by simp) ?_)
        intro v2 W2 hv2 hg2
        have hb2 := ownN_copy hv2 hg2 (fun k e => by simpa [Value.ownBlock] using e.symm)
        have hO2 := HO.out.next hb2
        have hx2 := hv2.base HBx.out
        obtain ⟨Av, cv, hve⟩ := hv2.slice
        rw [hl6] at hve
        subst hve
        have HB2 := Lib.hid (HB.out.trans (hb2.mono HB.out.size))
        clear hv2 hg2 hA1 hc
        go_wp2_with (
          at_builtin
          refine wpList_appW (w := W2) (by rfl) (.tmp 26) (.tmp 30) (by rfl) w.heap.size 1 (.slice Ao j co) _ lt lj (by rfl) hO2 (by rfl) hx2 (by rfl) (by omega) (HB2.out.size) ?_)
        intro v3 W3 hv3 hg3
        have HO3 := Lib.hid hv3
        have HB3 : Hid (Below w.heap.size w W3) := Lib.hid ((HB2.out.alloc HB2.out.size _).grown hg3 (by simp; have := HB2.out.size; omega) (fun k e => by
          obtain ⟨xs, h1, _⟩ := hO2
          exact (World.ownsRow.lt h1 k e).1))
        clear hv3 hg3 hO2 hx2
        go_wp2
        go_roundw
        case rel => exact ⟨j + 1, by omega, by go_num, by rw [HT.out]; exact HO3, HB3⟩
        case measure => simp [intOf]; omega
      · have q6 : decide ((6 : Int) < (nj : Int)) = false := by simp; omega
        obtain rfl : nj = lj.length := by omega
        have hno2 : Aj = none → lj = [] ∧ cj = 0 := fun h => ⟨List.length_eq_zero_iff.1 (hno h).1, (hno h).2⟩
        have HBx := Lib.hid (show w.heap.size ≤ wr.heap.size from HB.out.size)
        clear hno hmj
        go_wp2_with (
          at_builtin
          refine wpList_appN (by rfl) (.tmp 27) (.tmp 28) (by rfl) wr.heap.size lj.length cj (.slice (some ⟨wr.heap.size, 0, none⟩) 0 0) Aj [] lj (by rfl) (ownN_new wr) (by rfl) rfl hno2 hA1 (by simp; omega) (by simp) ?_)
        intro v2 W2 hv2 hg2
        have hb2 := ownN_copy hv2 hg2 (fun k e => by simpa [Value.ownBlock] using e.symm)
        have hO2 := HO.out.next hb2
        have hx2 := hv2.base HBx.out
        obtain ⟨Av, cv, rfl⟩ := hv2.slice
        have HB2 := Lib.hid (HB.out.trans (hb2.mono HB.out.size))
        clear hv2 hg2 hA1 hc
        go_wp2_with (
          at_builtin
          refine wpList_appW (w := W2) (by rfl) (.tmp 26) (.tmp 30) (by rfl) w.heap.size 1 (.slice Ao j co) _ lt lj (by rfl) hO2 (by rfl) hx2 (by rfl) (by omega) (HB2.out.size) ?_)
        intro v3 W3 hv3 hg3
        have HO3 := Lib.hid hv3
        have HB3 : Hid (Below w.heap.size w W3) := Lib.hid ((HB2.out.alloc HB2.out.size _).grown hg3 (by simp; have := HB2.out.size; omega) (fun k e => by
          obtain ⟨xs, h1, _⟩ := hO2
          exact (World.ownsRow.lt h1 k e).1))
        clear hv3 hg3 hO2 hx2
        go_wp2
        go_roundw
        case rel => exact ⟨j + 1, by omega, by go_num, by rw [HT.out]; exact HO3, HB3⟩
        case measure => simp [intOf]; omega
    · obtain rfl : j = l.length := by omega
      have hall : l.take l.length = l := List.take_length
      rw [hall] at HO
      have hmin := HMin.out
      by_cases hn6 : l.length < n
      · have q1 : (l.length : Int) < (n : Int) := by omega
        have q2 : ¬ (l.length : Int) < 6 := by omega
        have q3 : decide ((l.length : Int) < 6) = false := by simpa using q2
        clear hmin
        go_wp2_with fail
        go_ret
        exact ⟨Ao, co, rfl, HO.out, HB.out⟩
      · have q1 : decide ((l.length : Int) < (n : Int)) = false := by simp; omega
        clear hmin
        go_wp2_with fail
        go_ret
        exact ⟨Ao, co, rfl, HO.out, HB.out⟩
end Go.Proofs.YtjbcmedljgafkaaDoor.need

/-
  A wait that came in, as it lies in memory: of its ways the first six, of each of them the first six needs. No condition.
-/

namespace Go.Proofs.YtjbcmedljgafkaaDoor.need
open Go.ChangeShapes Go.WideShapes Go.RowKit
open Go.Proofs.YtjbcmedljgafkaaDoor.objs (De zero DAt I64 cells3i i64_of)
set_option linter.unusedVariables false

theorem cellsNeed : Tryd.prog.cellsOf 124 = 3 := by kernel_rfl
theorem cellsRow : Tryd.prog.cellsOf 95 = 1 := by kernel_rfl

section
variable {H : Type} {enc : TypeId × Value → H} {w : World} {base : Nat} {spare : Nat → Bool} {held : Bool}

set_option maxRecDepth 100000 in
/-- One need, out of its three cells. -/
theorem one_need {n : Nat} {cs : List Value} {y : DataW H × List MemPlace} (h : DataW.trod enc Tryd.prog w base spare held n 124 cs = some y) :
    ∃ o : De, cs = [.int .i64 o.1, .int .i64 o.2.1, .int .i64 o.2.2] ∧ I64 o.1 ∧ I64 o.2.1 ∧ I64 o.2.2 := by
  obtain ⟨xs, m, _, hy, hlen, hxl, hf⟩ := DataW.trod_struct Tryd.underlying124 h
  rw [cellsNeed] at hlen
  match cs, hlen with
  | [v0, v1, v2], _ =>
    match xs, hxl with
    | [y0, y1, y2], _ =>
      have f0 : DataW.trod enc Tryd.prog w base spare held m 3 [v0] = some y0 := by simpa [cells3i] using hf 0 _ rfl
      have f1 : DataW.trod enc Tryd.prog w base spare held m 3 [v1] = some y1 := by simpa [cells3i] using hf 1 _ rfl
      have f2 : DataW.trod enc Tryd.prog w base spare held m 3 [v2] = some y2 := by simpa [cells3i] using hf 2 _ rfl
      obtain ⟨k, e0, _, w0⟩ := DataW.trod_int Tryd.underlying3 f0
      obtain ⟨i, e1, _, w1⟩ := DataW.trod_int Tryd.underlying3 f1
      obtain ⟨j, e2, _, w2⟩ := DataW.trod_int Tryd.underlying3 f2
      refine ⟨(k, i, j), ?_, i64_of w0, i64_of w1, i64_of w2⟩
      simp only [List.cons.injEq, and_true] at e0 e1 e2
      rw [e0, e1, e2]

/-- A list of needs: nil, or its needs in their order, each where it lies; of a long one the first six. -/
theorem open_needs {fuel : Nat} {cs : List Value} {x : DataW H × List MemPlace} (hlt : ∀ p ∈ x.2, p.block < w.heap.size) (h : DataW.trod enc Tryd.prog w base spare held fuel 95 cs = some x) :
    ∃ (A : Option Addr) (n cap : Nat) (l : List De), cs = [.slice A n cap] ∧ (A = none → n = 0 ∧ cap = 0) ∧ n ≤ cap ∧ cap ≤ 9223372036854775807 ∧ DAt w A l ∧ (∀ t ∈ l, Small t) ∧ l.length = min n 6 := by
  rcases Go.Deep.open_slice Tryd.underlying95 h with h0 | ⟨a, len, cap, m, n, D, Pl, hcs, hb, hl, hm, hmm, hx, hi⟩
  · exact ⟨none, 0, 0, [], h0.1, fun _ => ⟨rfl, rfl⟩, Nat.le_refl _, by omega, DAt.nil _ _, fun t ht => (by cases ht), rfl⟩
  · have hm' : cap ≤ 9223372036854775807 := by simpa [maxLen] using hm
    have hlm : len ≤ m := by rw [hmm]; split <;> omega
    have each : ∀ i, ∃ o : De, i < len → w.cell? (a.add (i * 3)) = some (.int .i64 o.1) ∧ w.cell? (a.add (i * 3 + 1)) = some (.int .i64 o.2.1) ∧ w.cell? (a.add (i * 3 + 2)) = some (.int .i64 o.2.2) ∧ I64 o.1 ∧ I64 o.2.1 ∧ I64 o.2.2 := by
      intro i
      by_cases hil : i < len
      · obtain ⟨cs', hc, ht⟩ := hi i (by omega)
        obtain ⟨o, he, hwf⟩ := one_need ht
        obtain ⟨_, _, hat⟩ := World.cells?_some hc
        rw [cellsNeed] at hat
        subst he
        have a0 := hat 0 (by omega)
        have a1 := hat 1 (by omega)
        have a2 := hat 2 (by omega)
        rw [Go.Deep.add_add] at a0 a1 a2
        exact ⟨o, fun _ => ⟨a0, a1, a2, hwf⟩⟩
      · exact ⟨zero, fun hh => absurd hh hil⟩
    obtain ⟨ops, hall⟩ : ∃ ops : Nat → De, ∀ i, i < len → w.cell? (a.add (i * 3)) = some (.int .i64 (ops i).1) ∧ w.cell? (a.add (i * 3 + 1)) = some (.int .i64 (ops i).2.1) ∧ w.cell? (a.add (i * 3 + 2)) = some (.int .i64 (ops i).2.2) ∧ I64 (ops i).1 ∧ I64 (ops i).2.1 ∧ I64 (ops i).2.2 :=
      ⟨fun i => Classical.choose (each i), fun i hil => Classical.choose_spec (each i) hil⟩
    have hget : ∀ j, j < min len 6 → ((List.range (min len 6)).map ops).getD j zero = ops j := fun j hj => by
      rw [List.getD_eq_getElem?_getD, List.getElem?_map, List.getElem?_range hj]
      rfl
    have hlen : ((List.range (min len 6)).map ops).length = min len 6 := by simp
    refine ⟨some a, len, cap, (List.range (min len 6)).map ops, hcs, fun h => (by cases h), hl, hm', fun j hj => ?_, fun t ht => ?_, hlen⟩
    · rw [hlen] at hj
      have hbl : a.block < w.heap.size := by
        refine hlt (.cell a.block a.off) ?_
        rw [hx]
        exact List.mem_append_left _ (MemPlace.mem_row.2 ⟨0, by rw [cellsNeed]; omega, by simp⟩)
      obtain ⟨b, off, spot⟩ := a
      have hspot : spot = none := by simpa [Addr.add] using World.cell?_spot (hall 0 (by omega)).1
      subst hspot
      obtain ⟨h0, h1, h2, _⟩ := hall j (by omega)
      rw [add_plain] at h0 h1 h2
      rw [hget j hj]
      refine ⟨b, off, rfl, hbl, h0, ?_, ?_⟩
      · rw [Nat.add_assoc]; exact h1
      · rw [Nat.add_assoc]; exact h2
    · obtain ⟨j, hj, rfl⟩ := List.mem_map.1 ht
      have hj2 := List.mem_range.1 hj
      exact (hall j (by omega)).2.2.2

/-- A list of ways: nil, or its ways in their order, each where it lies; of a long one the first six. -/
theorem open_wait {fuel : Nat} {cs : List Value} {x : DataW H × List MemPlace} (hlt : ∀ p ∈ x.2, p.block < w.heap.size) (h : DataW.trod enc Tryd.prog w base spare held fuel 67 cs = some x) :
    ∃ (A : Option Addr) (n cap : Nat) (l : List (List De)), cs = [.slice A n cap] ∧ WIn w A n cap l := by
  rcases Go.Deep.open_slice1 Tryd.underlying67 cellsRow h with h0 | ⟨a, len, cap, m, n, V, D, Pl, hcs, hb, hl, hm, hmm, hx, hi⟩
  · exact ⟨none, 0, 0, [], h0.1, fun _ => ⟨rfl, rfl⟩, Nat.le_refl _, by omega, ⟨rfl, fun j hj => absurd hj (Nat.not_lt_zero j)⟩, fun x hx => (by cases hx)⟩
  · have hm' : cap ≤ 9223372036854775807 := by simpa [maxLen] using hm
    have hlm : len ≤ m := by rw [hmm]; split <;> omega
    have each : ∀ i, ∃ y : Option Addr × Nat × Nat × List De, i < len → w.cell? (a.add i) = some (.slice y.1 y.2.1 y.2.2.1) ∧ (y.1 = none → y.2.1 = 0 ∧ y.2.2.1 = 0) ∧ y.2.1 ≤ y.2.2.1 ∧ y.2.2.1 ≤ 9223372036854775807 ∧ DAt w y.1 y.2.2.2 ∧ (∀ t ∈ y.2.2.2, Small t) ∧ y.2.2.2.length = min y.2.1 6 := by
      intro i
      by_cases hil : i < len
      · obtain ⟨hc, ht⟩ := hi i (by omega)
        have hlt2 : ∀ p ∈ (D i, Pl i).2, p.block < w.heap.size := fun p hp => by
          refine hlt p ?_
          rw [hx]
          exact List.mem_append_right _ (List.mem_flatMap.2 ⟨i, List.mem_range.2 (by omega), hp⟩)
        obtain ⟨A, n1, c1, l1, hv, h1, h2, h3, h4, h5, h6⟩ := open_needs hlt2 ht
        have hv2 : V i = .slice A n1 c1 := by simpa using hv
        exact ⟨(A, n1, c1, l1), fun _ => ⟨by rw [hc, hv2], h1, h2, h3, h4, h5, h6⟩⟩
      · exact ⟨(none, 0, 0, []), fun hh => absurd hh hil⟩
    obtain ⟨ys, hall⟩ : ∃ ys : Nat → Option Addr × Nat × Nat × List De, ∀ i, i < len → w.cell? (a.add i) = some (.slice (ys i).1 (ys i).2.1 (ys i).2.2.1) ∧ ((ys i).1 = none → (ys i).2.1 = 0 ∧ (ys i).2.2.1 = 0) ∧ (ys i).2.1 ≤ (ys i).2.2.1 ∧ (ys i).2.2.1 ≤ 9223372036854775807 ∧ DAt w (ys i).1 (ys i).2.2.2 ∧ (∀ t ∈ (ys i).2.2.2, Small t) ∧ (ys i).2.2.2.length = min (ys i).2.1 6 :=
      ⟨fun i => Classical.choose (each i), fun i hil => Classical.choose_spec (each i) hil⟩
    have hget : ∀ j, j < min len 6 → ((List.range (min len 6)).map fun i => (ys i).2.2.2).getD j [] = (ys j).2.2.2 := fun j hj => by
      rw [List.getD_eq_getElem?_getD, List.getElem?_map, List.getElem?_range hj]
      rfl
    have hlen : ((List.range (min len 6)).map fun i => (ys i).2.2.2).length = min len 6 := by simp
    refine ⟨some a, len, cap, (List.range (min len 6)).map fun i => (ys i).2.2.2, hcs, fun h => (by cases h), hl, hm', ⟨hlen, fun j hj => ?_⟩, fun t ht => ?_⟩
    · rw [hlen] at hj
      have hbl : a.block < w.heap.size := by
        refine hlt (.cell a.block a.off) ?_
        rw [hx]
        exact List.mem_append_left _ (MemPlace.mem_row.2 ⟨0, by omega, by simp⟩)
      obtain ⟨b, off, spot⟩ := a
      have hspot : spot = none := by simpa [Addr.add] using World.cell?_spot (hall 0 (by omega)).1
      subst hspot
      obtain ⟨h0, h1, h2, h3, h4, _, h6⟩ := hall j (by omega)
      rw [add_plain] at h0
      rw [hget j hj]
      exact ⟨b, off, (ys j).1, (ys j).2.1, (ys j).2.2.1, rfl, hbl, h0, h4, h6, h2, h3, h1⟩
    · obtain ⟨j, hj, rfl⟩ := List.mem_map.1 ht
      have hj2 := List.mem_range.1 hj
      exact (hall j (by omega)).2.2.2.2.2.1
end
end Go.Proofs.YtjbcmedljgafkaaDoor.need

/-
  What was put of a wait is got again, whatever stands behind; what was got, put, is just the bytes that it had. Plain mathematics; no condition.
-/

namespace Go.Proofs.YtjbcmedljgafkaaDoor.need
open Go.Proofs.YtjbcmedljgafkaaDoor.octet (St num)
open Go.Proofs.YtjbcmedljgafkaaDoor.objs (De zero chk chk_zero one)
set_option linter.unusedVariables false

end Go.Proofs.YtjbcmedljgafkaaDoor.need

/-
  What is wrong with an instruction, its bytes, and the instruction with which bytes begin: plain mathematics of lists and numbers, and that putting and getting undo each other. No condition but that operands are ints.
-/

namespace Go.Proofs.YtjbcmedljgafkaaDoor.inst
open Go.Proofs.YtjbcmedljgafkaaDoor.octet (St num zig)
open Go.Proofs.YtjbcmedljgafkaaDoor.oper (fm txt)
open Go.Proofs.YtjbcmedljgafkaaDoor.word (Word)

/-- The letters of an operation's operands. -/
def form (o : Int) : List UInt8 := (txt fm o).data.toList
def most (c : UInt8) : Int := if c = 107 then 7 else if c = 116 then 199 else if c = 102 then 15 else if c = 106 then 4 else 31
def least (c : UInt8) : Int := if c = 106 then 1 else 0
/-- Is a number in the range of a letter? -/
def fitsB (c : UInt8) (v : Int) : Bool := if c = 110 then decide (Word v) else decide (least c ≤ v ∧ v ≤ most c)
def opd (a b : Int) (j : Nat) : Int := if j = 0 then a else b
def okAt (f : List UInt8) (a b : Int) (j : Nat) : Bool := fitsB (f.getD j 0) (opd a b j)
/-- What is wrong with the operands of an operation of this form. -/
def chkF (f : List UInt8) (a b : Int) : Nat :=
  if (List.range f.length).all (okAt f a b) = false then 1
  else if f = [106, 106] ∧ b < a then 1
  else if (List.range 2).all (fun j => decide (j < f.length) || (opd a b j == 0)) = false then 2 else 0
def Known (o : Int) : Prop := 0 ≤ o ∧ o ≤ 51
instance (o : Int) : Decidable (Known o) := by unfold Known; infer_instance
/-- What is wrong with an instruction. -/
def chk (o a b : Int) : Nat := if Known o then chkF (form o) a b else 6

theorem chkF_arg {f : List UInt8} {a b : Int} {j : Nat} (hj : j < f.length) (h : okAt f a b j = false) : chkF f a b = 1 := by
  unfold chkF
  rw [if_pos]
  cases hh : (List.range f.length).all (okAt f a b) with
  | false => rfl
  | true => rw [List.all_eq_true] at hh; rw [hh j (List.mem_range.2 hj)] at h; cases h
theorem all_ok {f : List UInt8} {a b : Int} (h : ∀ j, j < f.length → okAt f a b j = true) : (List.range f.length).all (okAt f a b) = true := by
  rw [List.all_eq_true]
  exact fun j hj => h j (List.mem_range.1 hj)
theorem chkF_two {f : List UInt8} {a b : Int} (h : ∀ j, j < f.length → okAt f a b j = true) (hf : f = [106, 106]) (hab : b < a) : chkF f a b = 1 := by
  unfold chkF
  rw [all_ok h, if_neg (by decide), if_pos ⟨hf, hab⟩]
theorem chkF_form {f : List UInt8} {a b : Int} (h : ∀ j, j < f.length → okAt f a b j = true) (h2 : ¬ (f = [106, 106] ∧ b < a)) {j : Nat} (hj : f.length ≤ j) (hj2 : j < 2) (hv : opd a b j ≠ 0) : chkF f a b = 2 := by
  unfold chkF
  rw [all_ok h, if_neg (by decide), if_neg h2, if_pos]
  cases hh : (List.range 2).all (fun j => decide (j < f.length) || (opd a b j == 0)) with
  | false => rfl
  | true =>
    rw [List.all_eq_true] at hh
    have := hh j (List.mem_range.2 hj2)
    simp only [Bool.or_eq_true, decide_eq_true_iff, beq_iff_eq] at this
    rcases this with h | h
    · omega
    · exact absurd h hv
theorem chkF_fine {f : List UInt8} {a b : Int} (h : ∀ j, j < f.length → okAt f a b j = true) (h2 : ¬ (f = [106, 106] ∧ b < a)) (h3 : ∀ j, f.length ≤ j → j < 2 → opd a b j = 0) : chkF f a b = 0 := by
  unfold chkF
  rw [all_ok h, if_neg (by decide), if_neg h2, if_neg]
  rw [Bool.not_eq_false, List.all_eq_true]
  intro j hj
  rcases Nat.lt_or_ge j f.length with hl | hl
  · simp [hl]
  · simp [h3 j hl (List.mem_range.1 hj)]
theorem chkF_zero {f : List UInt8} {a b : Int} (h : chkF f a b = 0) : (∀ j, j < f.length → okAt f a b j = true) ∧ ¬ (f = [106, 106] ∧ b < a) ∧ ∀ j, f.length ≤ j → j < 2 → opd a b j = 0 := by
  have h1 : ∀ j, j < f.length → okAt f a b j = true := fun j hj => by
    cases hh : okAt f a b j with
    | true => rfl
    | false => rw [chkF_arg hj hh] at h; cases h
  have h2 : ¬ (f = [106, 106] ∧ b < a) := fun ⟨hf, hab⟩ => by rw [chkF_two h1 hf hab] at h; cases h
  refine ⟨h1, h2, fun j hj hj2 => ?_⟩
  by_cases hv : opd a b j = 0
  · exact hv
  · rw [chkF_form h1 h2 hj hj2 hv] at h; cases h
theorem forms2 : ∀ k, k < 52 → (fm.getD k ⟨#[]⟩).data.toList.length ≤ 2 := by decide +kernel
theorem form_at {k : Nat} (h : k < 52) : form (k : Int) = (fm.getD k ⟨#[]⟩).data.toList := by
  unfold form txt
  rw [if_pos (by omega), Int.toNat_natCast]
theorem form_le (o : Int) : (form o).length ≤ 2 := by
  by_cases h : 0 ≤ o ∧ o ≤ 51
  · have := forms2 o.toNat (by omega)
    have e := form_at (k := o.toNat) (by omega)
    rw [show ((o.toNat : Nat) : Int) = o from by omega] at e
    rw [e]; exact this
  · unfold form txt
    rw [if_neg h]
    exact Nat.zero_le _

structure Got where
  o : Int
  a : Int
  b : Int
  n : Nat
  e : Nat
def Got.bad (e : Nat) : Got := ⟨0, 0, 0, 0, e⟩
theorem chk_zero {o a b : Int} (h : chk o a b = 0) : Known o ∧ chkF (form o) a b = 0 := by
  unfold chk at h
  split at h
  · exact ⟨‹_›, h⟩
  · cases h
end Go.Proofs.YtjbcmedljgafkaaDoor.inst

/-
  What is wrong with a program, its bytes, and the program whose bytes some are: plain mathematics of lists and numbers, by one pair of laws for each list that is put behind another. No condition.
-/

namespace Go.Proofs.YtjbcmedljgafkaaDoor.pgm
open Go.Proofs.YtjbcmedljgafkaaDoor.octet (St num)
open Go.Proofs.YtjbcmedljgafkaaDoor.objs (De zero)
set_option linter.unusedVariables false

/-- A function: its arguments, its locals, its instructions (an operation and two operands each). -/
structure Fn where
  ar : Int
  lo : Int
  co : List De
def Fn.zero : Fn := ⟨0, 0, []⟩
/-- A program: its objects, its waits, its functions. -/
structure Pg where
  ds : List De
  ws : List (List (List De))
  fs : List Fn
def Pg.none : Pg := ⟨[], [], []⟩

section
variable {α : Type}
/-- The first thing that is wrong with one of a list. -/
def firstE (f : α → Nat) : List α → Nat
  | [] => 0
  | x :: l => if f x ≠ 0 then f x else firstE f l
theorem getD_at {l : List α} {k : Nat} {d : α} (h : k < l.length) : l.getD k d = l[k] := by rw [List.getD_eq_getElem?_getD, List.getElem?_eq_getElem h]; rfl
theorem getD_in {l : List α} {k : Nat} {d : α} (h : k < l.length) : l.getD k d ∈ l := by rw [getD_at h]; exact List.getElem_mem _
theorem firstE_drop {f : α → Nat} {l : List α} {k : Nat} (d : α) (h : k < l.length) : firstE f (l.drop k) = if f (l.getD k d) ≠ 0 then f (l.getD k d) else firstE f (l.drop (k + 1)) := by
  rw [List.drop_eq_getElem_cons h, getD_at h]
  rfl
theorem firstE_zero {f : α → Nat} {l : List α} (h : firstE f l = 0) : ∀ x ∈ l, f x = 0 := by
  induction l with
  | nil => intro n hn; cases hn
  | cons m l ih =>
    unfold firstE at h
    by_cases hm : f m ≠ 0
    · rw [if_pos hm] at h
      exact absurd h hm
    · rw [if_neg hm] at h
      intro n hn
      rcases List.mem_cons.1 hn with rfl | hn
      · omega
      · exact ih h n hn
theorem at_left {l r : List α} {i : Nat} {d : α} (h : i < l.length) : (l ++ r).getD i d = l.getD i d := by
  rw [List.getD_eq_getElem?_getD, List.getD_eq_getElem?_getD, List.getElem?_append_left h]
theorem at_last {l : List α} {x d : α} {i : Nat} (h : l.length = i) : (l ++ [x]).getD i d = x := by
  subst h
  rw [List.getD_eq_getElem?_getD, List.getElem?_append_right (Nat.le_refl _), Nat.sub_self]
  rfl
end

/-- What is wrong with an instruction. -/
def chkI (x : De) : Nat := Go.Proofs.YtjbcmedljgafkaaDoor.inst.chk x.1 x.2.1 x.2.2
def chkFn (f : Fn) : Nat := if f.ar < 0 ∨ f.lo < f.ar ∨ 8 < f.lo then 1 else if f.co.length = 0 then 2 else if 200 < f.co.length then 4 else firstE chkI f.co
/-- What is wrong with a program. -/
def chkP (p : Pg) : Nat :=
  if (Go.Proofs.YtjbcmedljgafkaaDoor.objs.chk p.ds).2 ≠ 0 then (Go.Proofs.YtjbcmedljgafkaaDoor.objs.chk p.ds).2
  else if 32 < p.ws.length then 4
  else if firstE (Go.Proofs.YtjbcmedljgafkaaDoor.need.chkW p.ds) p.ws ≠ 0 then firstE (Go.Proofs.YtjbcmedljgafkaaDoor.need.chkW p.ds) p.ws
  else if p.fs.length = 0 then 2
  else if 16 < p.fs.length then 4
  else firstE chkFn p.fs
theorem chkFn_zero {f : Fn} (h : chkFn f = 0) : (0 ≤ f.ar ∧ f.ar ≤ f.lo ∧ f.lo ≤ 8) ∧ 0 < f.co.length ∧ f.co.length ≤ 200 ∧ ∀ x ∈ f.co, chkI x = 0 := by
  unfold chkFn at h
  split at h
  · cases h
  · split at h
    · cases h
    · split at h
      · cases h
      · exact ⟨by omega, by omega, by omega, firstE_zero h⟩
theorem chkP_zero {p : Pg} (h : chkP p = 0) : (Go.Proofs.YtjbcmedljgafkaaDoor.objs.chk p.ds).2 = 0 ∧ p.ws.length ≤ 32 ∧ (∀ w ∈ p.ws, Go.Proofs.YtjbcmedljgafkaaDoor.need.chkW p.ds w = 0) ∧ 0 < p.fs.length ∧ p.fs.length ≤ 16 ∧ ∀ f ∈ p.fs, chkFn f = 0 := by
  unfold chkP at h
  split at h
  · exact absurd h ‹_›
  · split at h
    · cases h
    · split at h
      · exact absurd h ‹_›
      · split at h
        · cases h
        · split at h
          · cases h
          · exact ⟨by omega, by omega, firstE_zero (by omega), by omega, by omega, firstE_zero h⟩

/-! What was put is got. -/
end Go.Proofs.YtjbcmedljgafkaaDoor.pgm

/-
  What was got of bytes, put, is just the bytes that it had, and no bytes that end sooner are a program's. Plain mathematics; no condition.
-/

namespace Go.Proofs.YtjbcmedljgafkaaDoor.pgm
open Go.Proofs.YtjbcmedljgafkaaDoor.octet (St num)
open Go.Proofs.YtjbcmedljgafkaaDoor.objs (De zero)
set_option linter.unusedVariables false

end Go.Proofs.YtjbcmedljgafkaaDoor.pgm

/-
  Functions, waits and programs as they lie in memory, wherever they came from. No condition.
-/

namespace Go.Proofs.YtjbcmedljgafkaaDoor.pgm
open Go.RowKit Go.ChangeShapes
open Go.Proofs.YtjbcmedljgafkaaDoor.objs (De zero DAt I64 Ints)
open Go.Proofs.YtjbcmedljgafkaaDoor.need (WAt WG WIn Small)
set_option linter.unusedVariables false

/-- The three cells of a function: its arguments, its locals, its code's slice. -/
def FCells (w : World) (b i : Nat) (ar lo : Int) (v : Value) : Prop := w.cell? ⟨b, i, none⟩ = some (.int .i64 ar) ∧ w.cell? ⟨b, i + 1, none⟩ = some (.int .i64 lo) ∧ w.cell? ⟨b, i + 2, none⟩ = some v
theorem FCells.keep {w w' : World} {b i : Nat} {ar lo : Int} {v : Value} (h : FCells w b i ar lo v) (hb : w'.heap[b]? = w.heap[b]?) : FCells w' b i ar lo v :=
  ⟨(World.cell?_of_block (a := ⟨b, i, none⟩) hb).trans h.1, (World.cell?_of_block (a := ⟨b, i + 1, none⟩) hb).trans h.2.1, (World.cell?_of_block (a := ⟨b, i + 2, none⟩) hb).trans h.2.2⟩
/-- Functions, one behind the other, from where a slice begins: all of each. -/
def FsAt (w : World) (A : Option Addr) (l : List Fn) : Prop :=
  ∀ j, j < l.length → ∃ b off Aj cj, A = some ⟨b, off, none⟩ ∧ b < w.heap.size ∧ FCells w b (off + j * 3) (l.getD j Fn.zero).ar (l.getD j Fn.zero).lo (.slice Aj (l.getD j Fn.zero).co.length cj) ∧ DAt w Aj (l.getD j Fn.zero).co
theorem FsAt.next {w w' : World} {A : Option Addr} {l : List Fn} (h : FsAt w A l) (hb : Below w.heap.size w w') : FsAt w' A l := fun j hj => by
  obtain ⟨b, off, Aj, cj, h1, h2, h3, h4⟩ := h j hj
  exact ⟨b, off, Aj, cj, h1, Nat.lt_of_lt_of_le h2 hb.size, h3.keep (hb.block b h2), h4.next hb⟩
theorem FsAt.nil (w : World) (A : Option Addr) : FsAt w A [] := fun j hj => absurd hj (Nat.not_lt_zero j)
/-- The first twenty functions of a slice, of each the first 250 instructions. -/
def FsG (w : World) (A : Option Addr) (n : Nat) (l : List Fn) : Prop :=
  l.length = min n 20 ∧ ∀ j, j < l.length → ∃ b off Aj nj cj, A = some ⟨b, off, none⟩ ∧ b < w.heap.size ∧ FCells w b (off + j * 3) (l.getD j Fn.zero).ar (l.getD j Fn.zero).lo (.slice Aj nj cj) ∧ DAt w Aj (l.getD j Fn.zero).co ∧ (l.getD j Fn.zero).co.length = min nj 250 ∧ nj ≤ cj ∧ cj ≤ 9223372036854775807 ∧ (Aj = none → nj = 0 ∧ cj = 0)
theorem FsG.next {w w' : World} {A : Option Addr} {n : Nat} {l : List Fn} (h : FsG w A n l) (hb : Below w.heap.size w w') : FsG w' A n l := ⟨h.1, fun j hj => by
  obtain ⟨b, off, Aj, nj, cj, h1, h2, h3, h4, h5⟩ := h.2 j hj
  exact ⟨b, off, Aj, nj, cj, h1, Nat.lt_of_lt_of_le h2 hb.size, h3.keep (hb.block b h2), h4.next hb, h5⟩⟩
/-- Waits, one behind the other, from where a slice begins: all of each. -/
def WsAt (w : World) (A : Option Addr) (l : List (List (List De))) : Prop :=
  ∀ j, j < l.length → ∃ b off Aj cj, A = some ⟨b, off, none⟩ ∧ b < w.heap.size ∧ w.cell? ⟨b, off + j, none⟩ = some (.slice Aj (l.getD j []).length cj) ∧ WAt w Aj (l.getD j [])
theorem WsAt.next {w w' : World} {A : Option Addr} {l : List (List (List De))} (h : WsAt w A l) (hb : Below w.heap.size w w') : WsAt w' A l := fun j hj => by
  obtain ⟨b, off, Aj, cj, h1, h2, h3, h4⟩ := h j hj
  exact ⟨b, off, Aj, cj, h1, Nat.lt_of_lt_of_le h2 hb.size, (hb.cell (p := ⟨b, off + j, none⟩) h2).trans h3, h4.next hb⟩
theorem WsAt.nil (w : World) (A : Option Addr) : WsAt w A [] := fun j hj => absurd hj (Nat.not_lt_zero j)
/-- The first forty waits of a slice, of each the first six ways, of each the first six needs. -/
def WsG (w : World) (A : Option Addr) (n : Nat) (l : List (List (List De))) : Prop :=
  l.length = min n 40 ∧ ∀ j, j < l.length → ∃ b off Aj nj cj, A = some ⟨b, off, none⟩ ∧ b < w.heap.size ∧ w.cell? ⟨b, off + j, none⟩ = some (.slice Aj nj cj) ∧ WG w Aj nj (l.getD j []) ∧ nj ≤ cj ∧ cj ≤ 9223372036854775807 ∧ (Aj = none → nj = 0 ∧ cj = 0)
theorem WsG.next {w w' : World} {A : Option Addr} {n : Nat} {l : List (List (List De))} (h : WsG w A n l) (hb : Below w.heap.size w w') : WsG w' A n l := ⟨h.1, fun j hj => by
  obtain ⟨b, off, Aj, nj, cj, h1, h2, h3, h4, h5⟩ := h.2 j hj
  exact ⟨b, off, Aj, nj, cj, h1, Nat.lt_of_lt_of_le h2 hb.size, (hb.cell (p := ⟨b, off + j, none⟩) h2).trans h3, h4.next hb, h5⟩⟩
/-- A program's value that is whole, and one that came in, of any length. -/
def PAt (w : World) (v : Value) (p : Pg) : Prop := ∃ A B C ca cb cc, v = .agg #[.slice A p.ds.length ca, .slice B p.ws.length cb, .slice C p.fs.length cc] ∧ DAt w A p.ds ∧ WsAt w B p.ws ∧ FsAt w C p.fs
theorem PAt.next {w w' : World} {v : Value} {p : Pg} (h : PAt w v p) (hb : Below w.heap.size w w') : PAt w' v p := by
  obtain ⟨A, B, C, ca, cb, cc, h1, h2, h3, h4⟩ := h
  exact ⟨A, B, C, ca, cb, cc, h1, h2.next hb, h3.next hb, h4.next hb⟩
def PG (w : World) (v : Value) (p : Pg) : Prop := ∃ A B C na nb nc ca cb cc, v = .agg #[.slice A na ca, .slice B nb cb, .slice C nc cc] ∧ p.ds.length = min na 40 ∧ DAt w A p.ds ∧ WsG w B nb p.ws ∧ FsG w C nc p.fs ∧ (A = none → na = 0 ∧ ca = 0) ∧ (B = none → nb = 0 ∧ cb = 0) ∧ (C = none → nc = 0 ∧ cc = 0) ∧ (na ≤ ca ∧ ca ≤ 9223372036854775807) ∧ (nb ≤ cb ∧ cb ≤ 9223372036854775807) ∧ (nc ≤ cc ∧ cc ≤ 9223372036854775807)
theorem PG.next {w w' : World} {v : Value} {p : Pg} (h : PG w v p) (hb : Below w.heap.size w w') : PG w' v p := by
  obtain ⟨A, B, C, na, nb, nc, ca, cb, cc, h1, h0, h2, h3, h4, h5⟩ := h
  exact ⟨A, B, C, na, nb, nc, ca, cb, cc, h1, h0, h2.next hb, h3.next hb, h4.next hb, h5⟩
/-- A program of which the first forty objects and waits, and the first twenty functions, lie there: the caps of its own lists are left open. -/
def PH (w : World) (v : Value) (p : Pg) : Prop := ∃ A B C na nb nc ca cb cc, v = .agg #[.slice A na ca, .slice B nb cb, .slice C nc cc] ∧ p.ds.length = min na 40 ∧ DAt w A p.ds ∧ WsG w B nb p.ws ∧ FsG w C nc p.fs ∧ na ≤ 9223372036854775807 ∧ nb ≤ 9223372036854775807 ∧ nc ≤ 9223372036854775807
theorem PH.next {w w' : World} {v : Value} {p : Pg} (h : PH w v p) (hb : Below w.heap.size w w') : PH w' v p := by
  obtain ⟨A, B, C, na, nb, nc, ca, cb, cc, h1, h0, h2, h3, h4, h5⟩ := h
  exact ⟨A, B, C, na, nb, nc, ca, cb, cc, h1, h0, h2.next hb, h3.next hb, h4.next hb, h5⟩
theorem PG.head {w : World} {v : Value} {p : Pg} (h : PG w v p) : PH w v p := by
  obtain ⟨A, B, C, na, nb, nc, ca, cb, cc, h1, h0, h2, h3, h4, _, _, _, h5, h6, h7⟩ := h
  exact ⟨A, B, C, na, nb, nc, ca, cb, cc, h1, h0, h2, h3, h4, by omega, by omega, by omega⟩
/-- One that may be is there whole. -/
theorem FsG.whole {w : World} {A : Option Addr} {n : Nat} {l : List Fn} (h : FsG w A n l) (hl : l.length ≤ 16) (hw : ∀ f ∈ l, f.co.length ≤ 200) : n = l.length ∧ FsAt w A l := by
  refine ⟨by have := h.1; omega, fun j hj => ?_⟩
  obtain ⟨b, off, Aj, nj, cj, h1, h2, h3, h4, h5, _, _, h6⟩ := h.2 j hj
  have hm := hw _ (getD_in (d := Fn.zero) hj)
  have : nj = (l.getD j Fn.zero).co.length := by omega
  subst this
  exact ⟨b, off, Aj, cj, h1, h2, h3, h4⟩
theorem WsG.whole {w : World} {A : Option Addr} {n : Nat} {l : List (List (List De))} (h : WsG w A n l) (hl : l.length ≤ 32) (hw : ∀ x ∈ l, x.length ≤ 4 ∧ ∀ y ∈ x, y.length ≤ 4) : n = l.length ∧ WsAt w A l := by
  refine ⟨by have := h.1; omega, fun j hj => ?_⟩
  obtain ⟨b, off, Aj, nj, cj, h1, h2, h3, h4, _⟩ := h.2 j hj
  have hm := hw _ (getD_in (d := []) hj)
  obtain ⟨e, h5⟩ := h4.whole (by omega) (fun y hy => by have := hm.2 y hy; omega)
  subst e
  exact ⟨b, off, Aj, cj, h1, h2, h3, h5⟩
theorem PG.whole {w : World} {v : Value} {p : Pg} (h : PG w v p) (hz : chkP p = 0) : PAt w v p := by
  obtain ⟨A, B, C, na, nb, nc, ca, cb, cc, rfl, h0, h2, h3, h4, a1, a2, a3, b1, b2, b3⟩ := h
  obtain ⟨g1, g2, g3, g4, g5, g6⟩ := chkP_zero hz
  have g0 := (Go.Proofs.YtjbcmedljgafkaaDoor.objs.chk_zero g1).1
  obtain rfl : na = p.ds.length := by omega
  obtain ⟨e1, h5⟩ := h3.whole g2 (fun x hx => by
    obtain ⟨_, q1, q2⟩ := Go.Proofs.YtjbcmedljgafkaaDoor.need.chkW_zero (g3 x hx)
    exact ⟨q1, fun y hy => (q2 y hy).2.1⟩)
  obtain ⟨e2, h6⟩ := h4.whole g5 (fun f hf => (chkFn_zero (g6 f hf)).2.2.1)
  subst e1
  subst e2
  exact ⟨A, B, C, ca, cb, cc, rfl, h2, h5, h6⟩
end Go.Proofs.YtjbcmedljgafkaaDoor.pgm
