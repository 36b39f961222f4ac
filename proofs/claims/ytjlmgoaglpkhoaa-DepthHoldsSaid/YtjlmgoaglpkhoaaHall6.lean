/-
  Texts of one claim in one file: DRefCheck, EOwn, GMem, GOwn, DBox, GStay, HRef, Nums, HSpec. Each has its own sentence, with its conditions.
-/
import Derived.Test.YtjlmgoaglpkhoaaHall5
import Derived.Test.YtjlmgoaglpkhoaaHall4
import Derived.Test.YtjlmgoaglpkhoaaHall2
import Derived.Test.YtjlmgoaglpkhoaaHall3
import Derived.Test.YtjlmgoaglpkhoaaProg
import Derived.WalkKit
import Derived.ProofKit
import Derived.IntWalk
import Derived.LoopTactic
import Derived.Lib.Hide
import Derived.Below
import Derived.Outline
import Derived.OwnWalk
import Derived.Deep.RegionLaw
import Derived.Deep.AppendLies
import Derived.Laws.AppendOwnNone
import Derived.Maps.AppendAt
import Derived.Deep.QuietTactic
import Derived.BigQuiet
import Derived.Deep.Cut
import Derived.Deep.CutBlock
import Derived.Deep.DeepCutAuto
import Derived.Deep.RegionHeld3
import Derived.WalkLawsBesides
/-
  The document's own answer where the first object stands that may not be, and why. No condition but that a list is no longer than an int can say.
-/
namespace Go.Proofs.Ytjlmgoaglpkhoaa.objs
open Go.RowKit Go.ChangeShapes
open Go.Proofs.Ytjlmgoaglpkhoaa.word (Word)
set_option linter.unusedVariables false

/-- What Check answers. -/
def ChkPost (p : Int × Nat) (w : World) (e : Ending) (w' : World) : Prop := e = .returned (.tuple #[.int .i64 p.1, .int .i64 (p.2 : Nat)]) ∧ Below w.heap.size w w'
set_option maxHeartbeats 1000000 in
theorem refCheck_long (A : Option Addr) (cap n : Nat) (hn : 32 < n) (w : World) :
    Calls Try.prog 11 #[.slice A n cap] w (ChkPost (0, 4) w) := by
  unfold ChkPost
  have hd : decide ((32 : Int) < (n : Int)) = true := by simp; omega
  clear hn
  go_enter Try.func11, Try.ntmps11
  go_wp2_with fail
  go_ret2
  exact ⟨rfl, Below.refl _ _⟩
set_option maxRecDepth 100000 in
set_option maxHeartbeats 4000000 in
theorem refCheck_any (A : Option Addr) (cap : Nat) (l : List De) (hl : l.length ≤ 9223372036854775807) (w : World) (hA : DAt w A l) :
    Calls Try.prog 11 #[.slice A l.length cap] w (ChkPost (chk l) w) := by
  by_cases h32 : 32 < l.length
  · rw [chk_long h32]
    exact refCheck_long A cap l.length h32 w
  · obtain ⟨p, hp⟩ : ∃ p, p = chk l := ⟨_, rfl⟩
    have HP := Lib.hid hp
    rw [← hp]
    unfold ChkPost
    have hd : decide ((32 : Int) < (l.length : Int)) = false := by simp; omega
    have HA := Lib.hid hA
    have H32 := Lib.hid h32
    clear hA h32 hp
    go_enter Try.func11, Try.ntmps11
    go_wp2_with fail
    go_loopw [4] (fun i wr => ∃ j : Nat, j ≤ l.length ∧ i = .int .i64 (j : Int) ∧ Hid (j ≤ bad l ∧ DAt wr A l ∧ Below w.heap.size w wr)) (fun i _ => l.length - (intOf i).toNat)
    case atStart => exact ⟨0, Nat.zero_le _, rfl, Lib.hid ⟨Nat.zero_le _, HA.out, Below.refl _ _⟩⟩
    case round =>
      obtain ⟨j, hj, rfl, HS⟩ := hrel
      by_cases hlt : j < l.length
      · have HO := Lib.hid (refOne_any A cap l (l.getD j zero) hl wr HS.out.2.1)
        obtain ⟨b, off, rfl, hb, c0, c1, c2⟩ := HS.out.2.1 j hlt
        have hlt' : (j : Int) < (l.length : Int) := by omega
        unfold OnePost at HO
        have HBad := fun h => Lib.hid (chk_bad H32.out HS.out.1 hlt h)
        have HNx := fun h => Lib.hid (bad_next HS.out.1 hlt h)
        generalize l.getD j zero = d at *
        generalize one l d = q at *
        by_cases hq : q = 0
        · subst hq
          have HE := HNx rfl
          clear HBad HNx
          go_wp2_with fail
          refine HO.out.mono ?_
          rintro e w1 ⟨rfl, hb1⟩
          have HS1 := Lib.hid (HS.out.2.1.next hb1)
          have HB1 := Lib.hid (HS.out.2.2.trans (hb1.mono HS.out.2.2.size))
          clear hb1 c0 c1 c2
          go_wp2
          go_roundw
          case rel => exact ⟨j + 1, by omega, by go_num, Lib.hid ⟨HE.out, HS1.out, HB1.out⟩⟩
          case measure => simp [intOf]; omega
        · have HE := HBad hq
          have hq' : ((q : Int) != 0) = true := by simpa using hq
          clear HBad HNx hq
          go_wp2_with fail
          refine HO.out.mono ?_
          rintro e w1 ⟨rfl, hb1⟩
          have HB1 := Lib.hid (HS.out.2.2.trans (hb1.mono HS.out.2.2.size))
          clear hb1 c0 c1 c2
          go_wp2
          go_ret2
          exact ⟨by rw [HP.out, HE.out]; rfl, HB1.out⟩
      · obtain rfl : j = l.length := by omega
        have HE := Lib.hid (chk_fine H32.out HS.out.1)
        go_wp2_with fail
        go_ret2
        exact ⟨by rw [HP.out, HE.out]; rfl, HS.out.2.2⟩
end Go.Proofs.Ytjlmgoaglpkhoaa.objs

/-
  What the statements make of their own arguments: objects and waits in memory of their own, and whether objects may be. No condition but that lengths are ints.
-/
namespace Go.Proofs.Ytjlmgoaglpkhoaa.need
open Go.RowKit Go.ChangeShapes
open Go.Proofs.Ytjlmgoaglpkhoaa.objs (De zero CellsAt DAt chk chk_long chk_zero Own own_new own_copy wpList_appD LIn Ints I64 ChkPost refCheck_any refCheck_long)
set_option linter.unusedVariables false

def DeclPost (l : List De) (w : World) (e : Ending) (w' : World) : Prop := ∃ A2 c2, e = .returned (.slice A2 l.length c2) ∧ DAt w' A2 l ∧ Below w.heap.size w w'
def BadPost (l : List De) (w : World) (e : Ending) (w' : World) : Prop := e = .returned (.bool (decide ((chk l).2 ≠ 0))) ∧ Below w.heap.size w w'
/-- A wait that came in: the first six of its ways, of each the first six needs, all of ints. -/
def WIn (w : World) (A : Option Addr) (n cap : Nat) (l : List (List De)) : Prop := (A = none → n = 0 ∧ cap = 0) ∧ n ≤ cap ∧ cap ≤ 9223372036854775807 ∧ WG w A n l ∧ ∀ x ∈ l, ∀ t ∈ x, Small t
theorem OwnW.whole {W : World} {base n cap : Nat} {A : Option Addr} {l : List (List De)} (h : OwnW W base (.slice A n cap) l) (hl : l.length ≤ 6) (hll : ∀ x ∈ l, x.length ≤ 6) : WG W A l.length l := by
  refine ⟨by omega, fun j hj => ?_⟩
  obtain ⟨xs, h1, h2⟩ := h
  obtain ⟨x, h3, h4⟩ := h2 j hj
  have h6 := hll _ (getW_mem hj)
  rcases h1.2 with ⟨e, h0⟩ | ⟨g, cap', cur, e, hb, hh, _⟩
  · omega
  · injection e with e1 e2 e3
    subst e1
    have hcell : W.cell? ⟨g, 0 + j, none⟩ = some x := by
      have := World.ownsRow.cells h1 (g := g) rfl _ _ h3
      rwa [Addr.add_lit] at this
    rcases h4.2 with ⟨rfl, h0⟩ | ⟨g', c', cur', rfl, hb', hh', hn, hm, _⟩
    · refine ⟨g, 0, none, 0, 0, rfl, lt_of_block hh, hcell, ?_, by omega, Nat.le_refl _, by omega, fun _ => ⟨rfl, rfl⟩⟩
      have := List.length_eq_zero_iff.1 h0
      rw [this]
      exact Go.Proofs.Ytjlmgoaglpkhoaa.objs.DAt.nil _ _
    · refine ⟨g, 0, some ⟨g', 0, none⟩, (l.getD j []).length, c', rfl, lt_of_block hh, hcell, h4.at, by omega, hn, by simpa [maxLen] using hm, fun h => by cases h⟩
theorem WG.short {w : World} {A : Option Addr} {n : Nat} {l : List (List De)} (h : WG w A n l) : l.length ≤ 6 ∧ ∀ x ∈ l, x.length ≤ 6 := by
  refine ⟨by have := h.1; omega, fun x hx => ?_⟩
  obtain ⟨j, hj, rfl⟩ := List.getElem_of_mem hx
  obtain ⟨_, _, _, nj, _, _, _, _, _, h5, _⟩ := h.2 j hj
  rw [List.getD_eq_getElem?_getD, List.getElem?_eq_getElem hj, Option.getD_some] at h5
  omega
def OwnPost (l : List (List De)) (w : World) (e : Ending) (w' : World) : Prop := ∃ A2 c2, e = .returned (.slice A2 l.length c2) ∧ WAt w' A2 l ∧ WG w' A2 l.length l ∧ Below w.heap.size w w'
/-- The same, and that its rows are the call's own. -/
def OwnMore (l : List (List De)) (w : World) (e : Ending) (w' : World) : Prop := ∃ A2 c2, e = .returned (.slice A2 l.length c2) ∧ OwnW w' w.heap.size (.slice A2 l.length c2) l ∧ Below w.heap.size w w'
theorem ownN_new (W : World) : OwnN (W.alloc (.cells #[] 67)) W.heap.size (.slice (some ⟨W.heap.size, 0, none⟩) 0 0) [] := OwnN.empty (heap_alloc_new W _)
/-- Behind the copy of a way. -/
theorem ownN_copy {W W2 : World} {v2 : Value} {l : List De} {r : Option Nat} (h1 : OwnN W2 W.heap.size v2 l) (hg : (W.alloc (.cells #[] 67)).grownBy W2 r) (hr : ∀ k, r = some k → k = W.heap.size) : Below W.heap.size W W2 :=
  ((Below.refl _ W).alloc (Nat.le_refl _) _).grown hg (by simp) (fun k e => by rw [hr k e]; exact Nat.le_refl _)
theorem take_more {l : List (List De)} {j : Nat} (h : j < l.length) : l.take (j + 1) = l.take j ++ [l.getD j []] := by
  rw [List.take_add_one, List.getD_eq_getElem?_getD, List.getElem?_eq_getElem h]
  rfl

set_option maxRecDepth 100000 in
set_option maxHeartbeats 8000000 in
theorem own_more (A : Option Addr) (n cap : Nat) (l : List (List De)) (hn : n ≤ 9223372036854775807) (w : World) (hA : WG w A n l) :
    Calls Try.prog 19 #[.slice A n cap] w (OwnMore l w) := by
  have HMin := Lib.hid hA.1
  have HSh := Lib.hid hA.short
  have HA := Lib.hid hA
  unfold OwnMore
  clear hA
  go_enter Try.func19, Try.ntmps19
  have hb0 : Below w.heap.size w (w.alloc (.cells #[] 64)) := (Below.refl _ w).alloc (Nat.le_refl _) _
  have HO0 : Hid (OwnW (w.alloc (.cells #[] 64)) w.heap.size (.slice (some ⟨w.heap.size, 0, none⟩) 0 0) []) := Lib.hid (OwnW.empty (heap_alloc_new w _))
  have HB0 := Lib.hid hb0
  clear hb0
  go_wp2_with fail
  generalize w.alloc (.cells #[] 64) = W0 at *
  go_loopw [3, 4] (fun o i wr => ∃ j : Nat, j ≤ l.length ∧ i = .int .i64 (j : Int) ∧ Hid (OwnW wr w.heap.size o (l.take j)) ∧ Hid (Below w.heap.size w wr)) (fun _ i _ => l.length - (intOf i).toNat)
  case atStart => exact ⟨0, Nat.zero_le _, rfl, HO0, HB0⟩
  case round =>
    obtain ⟨j, hj, rfl, HO, HB⟩ := hrel
    obtain ⟨Ao, co, ho⟩ := HO.out.slice
    have htl : (l.take j).length = j := by rw [List.length_take]; omega
    rw [htl] at ho
    subst ho
    by_cases hlt : j < l.length
    · obtain ⟨b, off, Aj, nj, cj, rfl, hbl, hc, hdj, hmj, hnc, hcm, hno⟩ := (HA.out.next HB.out).2 j hlt
      have HT := Lib.hid (take_more hlt)
      have hlt' : (j : Int) < (n : Int) := by have := HMin.out; omega
      have hlt6 : (j : Int) < 6 := by have := HMin.out; omega
      have hj0 : (0 : Int) ≤ (j : Int) := by omega
      have hj6 : j ≤ 5 := by have := HMin.out; omega
      have hl1 : (l.take j).length ≤ 6 := by omega
      generalize l.getD j [] = lj at *
      generalize l.take j = lt at *
      have hA1 := hdj.next ((Below.refl _ _).alloc (Nat.le_refl _) (.cells #[] 67))
      by_cases h6 : 6 < nj
      · have q6 : decide ((6 : Int) < (nj : Int)) = true := by simp; omega
        obtain ⟨a2, o2, rfl, hbl2, _⟩ := hdj 0 (by omega)
        have hl6 : lj.length = 6 := by omega
        have hc6 : (6 : Int) ≤ (cj : Int) := by omega
        have HBx := Lib.hid (show w.heap.size ≤ wr.heap.size from HB.out.size)
        clear hno hmj
        go_wp2_with (
          at_builtin
          refine wpList_appN (by rfl) (.tmp 27) (.tmp 28) (by rfl) wr.heap.size 6 cj (.slice (some ⟨wr.heap.size, 0, none⟩) 0 0) (some ⟨a2, o2, none⟩) [] lj (by rfl) (ownN_new wr) (by rfl) hl6.symm (fun h => by cases h) hA1 (by simp; omega) (by simp) ?_)
        intro v2 W2 hv2 hg2
        have hb2 := ownN_copy hv2 hg2 (fun k e => by simpa [Value.ownBlock] using e.symm)
        have hO2 := HO.out.next hb2
        have hx2 := hv2.base HBx.out
        obtain ⟨Av, cv, hve⟩ := hv2.slice
        rw [hl6] at hve
        subst hve
        have HB2 := Lib.hid (HB.out.trans (hb2.mono HB.out.size))
        clear hv2 hg2 hA1 hc
        go_wp2_with (
          at_builtin
          refine wpList_appW (w := W2) (by rfl) (.tmp 26) (.tmp 30) (by rfl) w.heap.size 1 (.slice Ao j co) _ lt lj (by rfl) hO2 (by rfl) hx2 (by rfl) (by omega) (HB2.out.size) ?_)
        intro v3 W3 hv3 hg3
        have HO3 := Lib.hid hv3
        have HB3 : Hid (Below w.heap.size w W3) := Lib.hid ((HB2.out.alloc HB2.out.size _).grown hg3 (by simp; have := HB2.out.size; omega) (fun k e => by
          obtain ⟨xs, h1, _⟩ := hO2
          exact (World.ownsRow.lt h1 k e).1))
        clear hv3 hg3 hO2 hx2
        go_wp2
        go_roundw
        case rel => exact ⟨j + 1, by omega, by go_num, by rw [HT.out]; exact HO3, HB3⟩
        case measure => simp [intOf]; omega
      · have q6 : decide ((6 : Int) < (nj : Int)) = false := by simp; omega
        obtain rfl : nj = lj.length := by omega
        have hno2 : Aj = none → lj = [] ∧ cj = 0 := fun h => ⟨List.length_eq_zero_iff.1 (hno h).1, (hno h).2⟩
        have HBx := Lib.hid (show w.heap.size ≤ wr.heap.size from HB.out.size)
        clear hno hmj
        go_wp2_with (
          at_builtin
          refine wpList_appN (by rfl) (.tmp 27) (.tmp 28) (by rfl) wr.heap.size lj.length cj (.slice (some ⟨wr.heap.size, 0, none⟩) 0 0) Aj [] lj (by rfl) (ownN_new wr) (by rfl) rfl hno2 hA1 (by simp; omega) (by simp) ?_)
        intro v2 W2 hv2 hg2
        have hb2 := ownN_copy hv2 hg2 (fun k e => by simpa [Value.ownBlock] using e.symm)
        have hO2 := HO.out.next hb2
        have hx2 := hv2.base HBx.out
        obtain ⟨Av, cv, rfl⟩ := hv2.slice
        have HB2 := Lib.hid (HB.out.trans (hb2.mono HB.out.size))
        clear hv2 hg2 hA1 hc
        go_wp2_with (
          at_builtin
          refine wpList_appW (w := W2) (by rfl) (.tmp 26) (.tmp 30) (by rfl) w.heap.size 1 (.slice Ao j co) _ lt lj (by rfl) hO2 (by rfl) hx2 (by rfl) (by omega) (HB2.out.size) ?_)
        intro v3 W3 hv3 hg3
        have HO3 := Lib.hid hv3
        have HB3 : Hid (Below w.heap.size w W3) := Lib.hid ((HB2.out.alloc HB2.out.size _).grown hg3 (by simp; have := HB2.out.size; omega) (fun k e => by
          obtain ⟨xs, h1, _⟩ := hO2
          exact (World.ownsRow.lt h1 k e).1))
        clear hv3 hg3 hO2 hx2
        go_wp2
        go_roundw
        case rel => exact ⟨j + 1, by omega, by go_num, by rw [HT.out]; exact HO3, HB3⟩
        case measure => simp [intOf]; omega
    · obtain rfl : j = l.length := by omega
      have hall : l.take l.length = l := List.take_length
      rw [hall] at HO
      have hmin := HMin.out
      by_cases hn6 : l.length < n
      · have q1 : (l.length : Int) < (n : Int) := by omega
        have q2 : ¬ (l.length : Int) < 6 := by omega
        have q3 : decide ((l.length : Int) < 6) = false := by simpa using q2
        clear hmin
        go_wp2_with fail
        go_ret
        exact ⟨Ao, co, rfl, HO.out, HB.out⟩
      · have q1 : decide ((l.length : Int) < (n : Int)) = false := by simp; omega
        clear hmin
        go_wp2_with fail
        go_ret
        exact ⟨Ao, co, rfl, HO.out, HB.out⟩
theorem own_any (A : Option Addr) (n cap : Nat) (l : List (List De)) (hn : n ≤ 9223372036854775807) (w : World) (hA : WG w A n l) :
    Calls Try.prog 19 #[.slice A n cap] w (OwnPost l w) :=
  (own_more A n cap l hn w hA).mono fun e w' ⟨A2, c2, h1, h2, h3⟩ => ⟨A2, c2, h1, h2.at, h2.whole hA.short.1 hA.short.2, h3⟩
end Go.Proofs.Ytjlmgoaglpkhoaa.need

/-
  Functions, waits and programs as they lie in memory, wherever they came from. No condition.
-/
namespace Go.Proofs.Ytjlmgoaglpkhoaa.pgm
open Go.RowKit Go.ChangeShapes
open Go.Proofs.Ytjlmgoaglpkhoaa.objs (De zero DAt I64 Ints)
open Go.Proofs.Ytjlmgoaglpkhoaa.need (WAt WG WIn Small)
set_option linter.unusedVariables false

/-- The three cells of a function: its arguments, its locals, its code's slice. -/
def FCells (w : World) (b i : Nat) (ar lo : Int) (v : Value) : Prop := w.cell? ⟨b, i, none⟩ = some (.int .i64 ar) ∧ w.cell? ⟨b, i + 1, none⟩ = some (.int .i64 lo) ∧ w.cell? ⟨b, i + 2, none⟩ = some v
theorem FCells.keep {w w' : World} {b i : Nat} {ar lo : Int} {v : Value} (h : FCells w b i ar lo v) (hb : w'.heap[b]? = w.heap[b]?) : FCells w' b i ar lo v :=
  ⟨(World.cell?_of_block (a := ⟨b, i, none⟩) hb).trans h.1, (World.cell?_of_block (a := ⟨b, i + 1, none⟩) hb).trans h.2.1, (World.cell?_of_block (a := ⟨b, i + 2, none⟩) hb).trans h.2.2⟩
/-- Functions, one behind the other, from where a slice begins: all of each. -/
def FsAt (w : World) (A : Option Addr) (l : List Fn) : Prop :=
  ∀ j, j < l.length → ∃ b off Aj cj, A = some ⟨b, off, none⟩ ∧ b < w.heap.size ∧ FCells w b (off + j * 3) (l.getD j Fn.zero).ar (l.getD j Fn.zero).lo (.slice Aj (l.getD j Fn.zero).co.length cj) ∧ DAt w Aj (l.getD j Fn.zero).co
theorem FsAt.next {w w' : World} {A : Option Addr} {l : List Fn} (h : FsAt w A l) (hb : Below w.heap.size w w') : FsAt w' A l := fun j hj => by
  obtain ⟨b, off, Aj, cj, h1, h2, h3, h4⟩ := h j hj
  exact ⟨b, off, Aj, cj, h1, Nat.lt_of_lt_of_le h2 hb.size, h3.keep (hb.block b h2), h4.next hb⟩
theorem FsAt.nil (w : World) (A : Option Addr) : FsAt w A [] := fun j hj => absurd hj (Nat.not_lt_zero j)
/-- The first twenty functions of a slice, of each the first 250 instructions. -/
def FsG (w : World) (A : Option Addr) (n : Nat) (l : List Fn) : Prop :=
  l.length = min n 20 ∧ ∀ j, j < l.length → ∃ b off Aj nj cj, A = some ⟨b, off, none⟩ ∧ b < w.heap.size ∧ FCells w b (off + j * 3) (l.getD j Fn.zero).ar (l.getD j Fn.zero).lo (.slice Aj nj cj) ∧ DAt w Aj (l.getD j Fn.zero).co ∧ (l.getD j Fn.zero).co.length = min nj 250 ∧ nj ≤ cj ∧ cj ≤ 9223372036854775807 ∧ (Aj = none → nj = 0 ∧ cj = 0)
theorem FsG.next {w w' : World} {A : Option Addr} {n : Nat} {l : List Fn} (h : FsG w A n l) (hb : Below w.heap.size w w') : FsG w' A n l := ⟨h.1, fun j hj => by
  obtain ⟨b, off, Aj, nj, cj, h1, h2, h3, h4, h5⟩ := h.2 j hj
  exact ⟨b, off, Aj, nj, cj, h1, Nat.lt_of_lt_of_le h2 hb.size, h3.keep (hb.block b h2), h4.next hb, h5⟩⟩
/-- Waits, one behind the other, from where a slice begins: all of each. -/
def WsAt (w : World) (A : Option Addr) (l : List (List (List De))) : Prop :=
  ∀ j, j < l.length → ∃ b off Aj cj, A = some ⟨b, off, none⟩ ∧ b < w.heap.size ∧ w.cell? ⟨b, off + j, none⟩ = some (.slice Aj (l.getD j []).length cj) ∧ WAt w Aj (l.getD j [])
theorem WsAt.next {w w' : World} {A : Option Addr} {l : List (List (List De))} (h : WsAt w A l) (hb : Below w.heap.size w w') : WsAt w' A l := fun j hj => by
  obtain ⟨b, off, Aj, cj, h1, h2, h3, h4⟩ := h j hj
  exact ⟨b, off, Aj, cj, h1, Nat.lt_of_lt_of_le h2 hb.size, (hb.cell (p := ⟨b, off + j, none⟩) h2).trans h3, h4.next hb⟩
theorem WsAt.nil (w : World) (A : Option Addr) : WsAt w A [] := fun j hj => absurd hj (Nat.not_lt_zero j)
/-- The first forty waits of a slice, of each the first six ways, of each the first six needs. -/
def WsG (w : World) (A : Option Addr) (n : Nat) (l : List (List (List De))) : Prop :=
  l.length = min n 40 ∧ ∀ j, j < l.length → ∃ b off Aj nj cj, A = some ⟨b, off, none⟩ ∧ b < w.heap.size ∧ w.cell? ⟨b, off + j, none⟩ = some (.slice Aj nj cj) ∧ WG w Aj nj (l.getD j []) ∧ nj ≤ cj ∧ cj ≤ 9223372036854775807 ∧ (Aj = none → nj = 0 ∧ cj = 0)
theorem WsG.next {w w' : World} {A : Option Addr} {n : Nat} {l : List (List (List De))} (h : WsG w A n l) (hb : Below w.heap.size w w') : WsG w' A n l := ⟨h.1, fun j hj => by
  obtain ⟨b, off, Aj, nj, cj, h1, h2, h3, h4, h5⟩ := h.2 j hj
  exact ⟨b, off, Aj, nj, cj, h1, Nat.lt_of_lt_of_le h2 hb.size, (hb.cell (p := ⟨b, off + j, none⟩) h2).trans h3, h4.next hb, h5⟩⟩
/-- A program's value that is whole, and one that came in, of any length. -/
def PAt (w : World) (v : Value) (p : Pg) : Prop := ∃ A B C ca cb cc, v = .agg #[.slice A p.ds.length ca, .slice B p.ws.length cb, .slice C p.fs.length cc] ∧ DAt w A p.ds ∧ WsAt w B p.ws ∧ FsAt w C p.fs
theorem PAt.next {w w' : World} {v : Value} {p : Pg} (h : PAt w v p) (hb : Below w.heap.size w w') : PAt w' v p := by
  obtain ⟨A, B, C, ca, cb, cc, h1, h2, h3, h4⟩ := h
  exact ⟨A, B, C, ca, cb, cc, h1, h2.next hb, h3.next hb, h4.next hb⟩
def PG (w : World) (v : Value) (p : Pg) : Prop := ∃ A B C na nb nc ca cb cc, v = .agg #[.slice A na ca, .slice B nb cb, .slice C nc cc] ∧ p.ds.length = min na 40 ∧ DAt w A p.ds ∧ WsG w B nb p.ws ∧ FsG w C nc p.fs ∧ (A = none → na = 0 ∧ ca = 0) ∧ (B = none → nb = 0 ∧ cb = 0) ∧ (C = none → nc = 0 ∧ cc = 0) ∧ (na ≤ ca ∧ ca ≤ 9223372036854775807) ∧ (nb ≤ cb ∧ cb ≤ 9223372036854775807) ∧ (nc ≤ cc ∧ cc ≤ 9223372036854775807)
theorem PG.next {w w' : World} {v : Value} {p : Pg} (h : PG w v p) (hb : Below w.heap.size w w') : PG w' v p := by
  obtain ⟨A, B, C, na, nb, nc, ca, cb, cc, h1, h0, h2, h3, h4, h5⟩ := h
  exact ⟨A, B, C, na, nb, nc, ca, cb, cc, h1, h0, h2.next hb, h3.next hb, h4.next hb, h5⟩
/-- A program of which the first forty objects and waits, and the first twenty functions, lie there: the caps of its own lists are left open. -/
def PH (w : World) (v : Value) (p : Pg) : Prop := ∃ A B C na nb nc ca cb cc, v = .agg #[.slice A na ca, .slice B nb cb, .slice C nc cc] ∧ p.ds.length = min na 40 ∧ DAt w A p.ds ∧ WsG w B nb p.ws ∧ FsG w C nc p.fs ∧ na ≤ 9223372036854775807 ∧ nb ≤ 9223372036854775807 ∧ nc ≤ 9223372036854775807
theorem PH.next {w w' : World} {v : Value} {p : Pg} (h : PH w v p) (hb : Below w.heap.size w w') : PH w' v p := by
  obtain ⟨A, B, C, na, nb, nc, ca, cb, cc, h1, h0, h2, h3, h4, h5⟩ := h
  exact ⟨A, B, C, na, nb, nc, ca, cb, cc, h1, h0, h2.next hb, h3.next hb, h4.next hb, h5⟩
theorem PG.head {w : World} {v : Value} {p : Pg} (h : PG w v p) : PH w v p := by
  obtain ⟨A, B, C, na, nb, nc, ca, cb, cc, h1, h0, h2, h3, h4, _, _, _, h5, h6, h7⟩ := h
  exact ⟨A, B, C, na, nb, nc, ca, cb, cc, h1, h0, h2, h3, h4, by omega, by omega, by omega⟩
/-- One that may be is there whole. -/
theorem FsG.whole {w : World} {A : Option Addr} {n : Nat} {l : List Fn} (h : FsG w A n l) (hl : l.length ≤ 16) (hw : ∀ f ∈ l, f.co.length ≤ 200) : n = l.length ∧ FsAt w A l := by
  refine ⟨by have := h.1; omega, fun j hj => ?_⟩
  obtain ⟨b, off, Aj, nj, cj, h1, h2, h3, h4, h5, _, _, h6⟩ := h.2 j hj
  have hm := hw _ (getD_in (d := Fn.zero) hj)
  have : nj = (l.getD j Fn.zero).co.length := by omega
  subst this
  exact ⟨b, off, Aj, cj, h1, h2, h3, h4⟩
theorem WsG.whole {w : World} {A : Option Addr} {n : Nat} {l : List (List (List De))} (h : WsG w A n l) (hl : l.length ≤ 32) (hw : ∀ x ∈ l, x.length ≤ 4 ∧ ∀ y ∈ x, y.length ≤ 4) : n = l.length ∧ WsAt w A l := by
  refine ⟨by have := h.1; omega, fun j hj => ?_⟩
  obtain ⟨b, off, Aj, nj, cj, h1, h2, h3, h4, _⟩ := h.2 j hj
  have hm := hw _ (getD_in (d := []) hj)
  obtain ⟨e, h5⟩ := h4.whole (by omega) (fun y hy => by have := hm.2 y hy; omega)
  subst e
  exact ⟨b, off, Aj, cj, h1, h2, h3, h5⟩
theorem PG.whole {w : World} {v : Value} {p : Pg} (h : PG w v p) (hz : chkP p = 0) : PAt w v p := by
  obtain ⟨A, B, C, na, nb, nc, ca, cb, cc, rfl, h0, h2, h3, h4, a1, a2, a3, b1, b2, b3⟩ := h
  obtain ⟨g1, g2, g3, g4, g5, g6⟩ := chkP_zero hz
  have g0 := (Go.Proofs.Ytjlmgoaglpkhoaa.objs.chk_zero g1).1
  obtain rfl : na = p.ds.length := by omega
  obtain ⟨e1, h5⟩ := h3.whole g2 (fun x hx => by
    obtain ⟨_, q1, q2⟩ := Go.Proofs.Ytjlmgoaglpkhoaa.need.chkW_zero (g3 x hx)
    exact ⟨q1, fun y hy => (q2 y hy).2.1⟩)
  obtain ⟨e2, h6⟩ := h4.whole g5 (fun f hf => (chkFn_zero (g6 f hf)).2.2.1)
  subst e1
  subst e2
  exact ⟨A, B, C, ca, cb, cc, rfl, h2, h5, h6⟩
end Go.Proofs.Ytjlmgoaglpkhoaa.pgm

/-
  Rows that a call owns: of instructions, of waits, of functions; and append behind them. No condition.
-/
namespace Go.Proofs.Ytjlmgoaglpkhoaa.pgm
open Go.RowKit Go.ChangeShapes
open Go.Proofs.Ytjlmgoaglpkhoaa.objs (De zero CellsAt DAt flat flat_append flat_length flat_at flat_oneCell src_cells I64 Ints)
open Go.Proofs.Ytjlmgoaglpkhoaa.need (WAt OwnN OwnW)
set_option linter.unusedVariables false

/-- A slice's value of instructions, nil or a row of the call's own. -/
def OwnJ (w : World) (base : Nat) (v : Value) (l : List De) : Prop := w.ownsRow base 40 3 v l.length (flat l)
theorem OwnJ.nil (w : World) (base : Nat) : OwnJ w base (.slice none 0 0) [] := World.ownsRow_nil ..
theorem OwnJ.empty {w : World} {g : Nat} (h : w.heap[g]? = some (.cells #[] 40 (0, 0))) : OwnJ w g (.slice (some ⟨g, 0, none⟩) 0 0) [] :=
  ⟨rfl, .inr ⟨g, 0, #[], rfl, Nat.le_refl _, h, Nat.le_refl _, Nat.zero_le _, rfl, rfl⟩⟩
theorem OwnJ.slice {w : World} {base : Nat} {v : Value} {l : List De} (h : OwnJ w base v l) : ∃ A cap, v = .slice A l.length cap := by
  rcases h.2 with ⟨rfl, h0⟩ | ⟨g, cap, cur, rfl, _⟩
  · exact ⟨none, 0, by rw [h0]⟩
  · exact ⟨_, _, rfl⟩
theorem OwnJ.at {w : World} {base cap : Nat} {A : Option Addr} {l : List De} {n : Nat} (h : OwnJ w base (.slice A n cap) l) : DAt w A l := by
  intro j hj
  rcases h.2 with ⟨e, h0⟩ | ⟨g, cap', cur, e, hb, hh, _⟩
  · omega
  · injection e with e1 e2 e3
    subst e1
    obtain ⟨h1, h2, h3⟩ := flat_at l j hj
    refine ⟨g, 0, rfl, lt_of_block hh, ?_, ?_, ?_⟩
    · have := World.ownsRow.cells h (g := g) rfl _ _ h1
      rw [Addr.add_lit] at this
      simpa using this
    · have := World.ownsRow.cells h (g := g) rfl _ _ h2
      rw [Addr.add_lit] at this
      simpa using this
    · have := World.ownsRow.cells h (g := g) rfl _ _ h3
      rw [Addr.add_lit] at this
      simpa using this
theorem OwnJ.keep {w w' : World} {base : Nat} {v : Value} {l : List De} (h : OwnJ w base v l) (hk : ∀ g, v.ownBlock = some g → w'.heap[g]? = w.heap[g]?) : OwnJ w' base v l := by
  refine ⟨h.1, h.2.imp id ?_⟩
  rintro ⟨g, c, cur, rfl, hb, hh, r⟩
  exact ⟨g, c, cur, rfl, hb, (hk g rfl).trans hh, r⟩
theorem OwnJ.lt {w : World} {base g : Nat} {v : Value} {l : List De} (h : OwnJ w base v l) (hg : v.ownBlock = some g) : base ≤ g ∧ g < w.heap.size := World.ownsRow.lt h g hg
theorem OwnJ.next {w w' : World} {base : Nat} {v : Value} {l : List De} (h : OwnJ w base v l) (hb : Below w.heap.size w w') : OwnJ w' base v l := h.keep fun g hg => hb.block g (h.lt hg).2
theorem OwnJ.base {w : World} {base base' : Nat} {v : Value} {l : List De} (h : OwnJ w base v l) (hb : base' ≤ base) : OwnJ w base' v l := by
  refine ⟨h.1, h.2.imp id ?_⟩
  rintro ⟨g, c, cur, e, hb1, r⟩
  exact ⟨g, c, cur, e, Nat.le_trans hb hb1, r⟩

theorem infoJ : (Try.prog.info? 40).map (fun i => (i.zero, i.size, i.bytes)) = some (some (.agg #[.int .i64 0, .int .i64 0, .int .i64 0]), 3, 24) := by kernel_rfl

/-- A list that lies anywhere, put behind a row of a call's own. -/
theorem run_appJ (w : World) (ty : TypeId) (base m c : Nat) (v : Value) (A : Option Addr) (l r : List De) (hrow : OwnJ w base v l) (hm : m = r.length) (hA : A = none → r = [] ∧ c = 0) (hsrc : DAt w A r) (hlen : l.length + r.length ≤ 100000) (hbase : base ≤ w.heap.size) :
    ∃ v' w', (Builtin.append_ #[35, 35] ty #[v, .slice A m c]).run Try.prog w = .ok v' w' ∧ OwnJ w' base v' (l ++ r) ∧ w.grownBy w' v.ownBlock := by
  subst hm
  obtain ⟨i, hi, hz0, hz1, hz2⟩ := info_parts infoJ
  cases A with
  | none =>
    obtain ⟨rfl, rfl⟩ := hA rfl
    refine ⟨v, w, run_append_owned_none (P := Try.prog) (w := w) base 35 ty 40 i 3 Try.underlying35 hi v l.length (flat l) hrow, ?_, ⟨rfl, rfl, rfl, Nat.le_refl _, fun _ _ _ => rfl⟩⟩
    rw [List.append_nil]
    exact hrow
  | some ad =>
    obtain ⟨v', w', h1, h2, h3, _⟩ := run_append_own (P := Try.prog) w base 35 ty 40 i _ 3 24 Try.underlying35 hi hz0 hz1 hz2 rfl (by omega) v l.length (flat l) hrow ad r.length c (flat r) (flat_length r) (src_cells hsrc) (flat_oneCell r) (by unfold maxLen; omega) (by omega) hbase
    refine ⟨v', w', h1, ?_, h3⟩
    unfold OwnJ
    rw [List.length_append, flat_append]
    exact h2
theorem wp_appJ {o : Oper} {a : Act} {w : World} {K : Act → World → Prop} {Q : Exit → Act → World → Prop} (s x : Operand)
    (ho : o.op = .call { callee := .builtin .append, args := #[s, x], argTypes := #[35, 35] }) (base m c : Nat) (v : Value) (A : Option Addr) (l r : List De)
    (hs : a.eval s = v) (hrow : OwnJ w base v l) (hx : a.eval x = .slice A m c) (hm : m = r.length) (hA : A = none → r = [] ∧ c = 0) (hsrc : DAt w A r) (hlen : l.length + r.length ≤ 100000) (hbase : base ≤ w.heap.size)
    (h : ∀ v' w', OwnJ w' base v' (l ++ r) → w.grownBy w' v.ownBlock → K (a.put o.dst v') w') : o.wp Try.prog a w K Q := by
  obtain ⟨v', w', hr, h2, h3⟩ := run_appJ w o.type base m c v A l r hrow hm hA hsrc hlen hbase
  unfold Oper.wp execOp
  simp only [ho, resolve, invoke, builtin, Sem.run_bind, Sem.run_pure, Result.andThen_ok, List.map_toArray, List.map_cons, List.map_nil, hs, hx, hr]
  exact h v' w' h2 h3
theorem wpList_appJ {ops : Array Oper} {rest : List Oper} {o : Oper} {a : Act} {w : World} {Q : Exit → Act → World → Prop} (hgd : o.guard = none) (s x : Operand)
    (ho : o.op = .call { callee := .builtin .append, args := #[s, x], argTypes := #[35, 35] }) (base m c : Nat) (v : Value) (A : Option Addr) (l r : List De)
    (hs : a.eval s = v) (hrow : OwnJ w base v l) (hx : a.eval x = .slice A m c) (hm : m = r.length) (hA : A = none → r = [] ∧ c = 0) (hsrc : DAt w A r) (hlen : l.length + r.length ≤ 100000) (hbase : base ≤ w.heap.size)
    (h : ∀ v' w', OwnJ w' base v' (l ++ r) → w.grownBy w' v.ownBlock → wpList Try.prog ops Q rest (a.put o.dst v') w') : wpList Try.prog ops Q (o :: rest) a w :=
  wpList_plain hgd fun _ hK => wp_appJ s x ho base m c v A l r hs hrow hx hm hA hsrc hlen hbase fun v' w' h2 h3 => hK _ _ (h v' w' h2 h3)
theorem step_appJ {ops : Array Oper} {o : Oper} {a : Act} {w : World} {K : Act → World → Prop} {Q : Exit → Act → World → Prop} {E : Prop} (hgd : o.guard = none) (s x : Operand)
    (ho : o.op = .call { callee := .builtin .append, args := #[s, x], argTypes := #[35, 35] }) (base m c : Nat) (v : Value) (A : Option Addr) (l r : List De)
    (hs : a.eval s = v) (hrow : OwnJ w base v l) (hx : a.eval x = .slice A m c) (hm : m = r.length) (hA : A = none → r = [] ∧ c = 0) (hsrc : DAt w A r) (hlen : l.length + r.length ≤ 100000) (hbase : base ≤ w.heap.size)
    (h : ∀ v' w', OwnJ w' base v' (l ++ r) → w.grownBy w' v.ownBlock → K (a.put o.dst v') w') :
    if Region.wanted o (yielded ops a.tmps) = true then Oper.wp Try.prog o a w K Q else E := by
  have hw : Region.wanted o (yielded ops a.tmps) = true := by simp [Region.wanted, hgd]
  rw [if_pos hw]
  exact wp_appJ s x ho base m c v A l r hs hrow hx hm hA hsrc hlen hbase h
theorem DAt.oneJ {w : World} {g : Nat} {d : De} (h : w.heap[g]? = some (.cells #[.int .i64 d.1, .int .i64 d.2.1, .int .i64 d.2.2] 40 (0, 0))) : DAt w (some ⟨g, 0, none⟩) [d] := fun j hj => by
  obtain rfl : j = 0 := by simpa using hj
  refine ⟨g, 0, rfl, lt_of_block h, ?_, ?_, ?_⟩
  all_goals
    unfold World.cell?
    rw [h]
    rfl
/-- What a row of instructions holds: its block is one of instructions. -/
theorem OwnJ.kind {w : World} {base g : Nat} {v : Value} {l : List De} (h : OwnJ w base v l) (hg : v.ownBlock = some g) : ∃ cur, w.heap[g]? = some (.cells cur 40 (0, 0)) := by
  rcases h.2 with ⟨rfl, _⟩ | ⟨g', cap, cur, rfl, _, hh, _⟩
  · cases hg
  · simp [Value.ownBlock] at hg
    subst hg
    exact ⟨cur, hh⟩

/-- A row of ways stays where blocks of ways and of needs stay. -/
theorem _root_.Go.Proofs.Ytjlmgoaglpkhoaa.need.OwnW.kinds {w w' : World} {base : Nat} {v : Value} {l : List (List De)} (h : OwnW w base v l) (hk : ∀ g, g < w.heap.size → (∃ cur, w.heap[g]? = some (.cells cur 64 (0, 0)) ∨ w.heap[g]? = some (.cells cur 67 (0, 0))) → w'.heap[g]? = w.heap[g]?) : OwnW w' base v l := by
  obtain ⟨xs, h1, h2⟩ := h
  refine ⟨xs, ⟨h1.1, h1.2.imp id ?_⟩, fun j hj => ?_⟩
  · rintro ⟨g, c, cur, rfl, hg, hh, r⟩
    exact ⟨g, c, cur, rfl, hg, (hk g (lt_of_block hh) ⟨cur, .inl hh⟩).trans hh, r⟩
  · obtain ⟨x, h3, h4⟩ := h2 j hj
    exact ⟨x, h3, h4.keep fun g hg => hk g (h4.lt hg).2 (by obtain ⟨cur, h5⟩ := h4.kind hg; exact ⟨cur, .inr h5⟩)⟩

/-- A row of waits that a call owns, each of them a row of ways of the call's own. -/
def OwnV (W : World) (base : Nat) (v : Value) (l : List (List (List De))) : Prop :=
  ∃ xs : List Value, W.ownsRow base 47 1 v l.length xs ∧ ∀ j, j < l.length → ∃ x, xs[j]? = some x ∧ OwnW W base x (l.getD j [])
theorem OwnV.slice {w : World} {base : Nat} {v : Value} {l : List (List (List De))} (h : OwnV w base v l) : ∃ A cap, v = .slice A l.length cap := by
  obtain ⟨xs, h1, _⟩ := h
  rcases h1.2 with ⟨rfl, h0⟩ | ⟨g, cap, cur, rfl, _⟩
  · exact ⟨none, 0, by rw [h0]⟩
  · exact ⟨_, _, rfl⟩
theorem OwnV.next {w w' : World} {base : Nat} {v : Value} {l : List (List (List De))} (h : OwnV w base v l) (hb : Below w.heap.size w w') : OwnV w' base v l := by
  obtain ⟨xs, h1, h2⟩ := h
  refine ⟨xs, ?_, fun j hj => ?_⟩
  · refine ⟨h1.1, h1.2.imp id ?_⟩
    rintro ⟨g, c, cur, rfl, hg, hh, r⟩
    exact ⟨g, c, cur, rfl, hg, (hb.block g (lt_of_block hh)).trans hh, r⟩
  · obtain ⟨x, h3, h4⟩ := h2 j hj
    exact ⟨x, h3, h4.next hb⟩
theorem OwnV.nil (w : World) (base : Nat) : OwnV w base (.slice none 0 0) [] := ⟨[], World.ownsRow_nil .., fun j hj => absurd hj (Nat.not_lt_zero j)⟩
theorem OwnV.empty {w : World} {g : Nat} (h : w.heap[g]? = some (.cells #[] 47 (0, 0))) : OwnV w g (.slice (some ⟨g, 0, none⟩) 0 0) [] :=
  ⟨[], ⟨rfl, .inr ⟨g, 0, #[], rfl, Nat.le_refl _, h, Nat.le_refl _, Nat.zero_le _, rfl, rfl⟩⟩, fun j hj => absurd hj (Nat.not_lt_zero j)⟩
theorem OwnV.base {w : World} {base base' : Nat} {v : Value} {l : List (List (List De))} (h : OwnV w base v l) (hb : base' ≤ base) : OwnV w base' v l := by
  obtain ⟨xs, h1, h2⟩ := h
  refine ⟨xs, ⟨h1.1, h1.2.imp id ?_⟩, fun j hj => ?_⟩
  · rintro ⟨g, c, cur, e, hg, r⟩
    exact ⟨g, c, cur, e, Nat.le_trans hb hg, r⟩
  · obtain ⟨x, h3, h4⟩ := h2 j hj
    exact ⟨x, h3, h4.base hb⟩
theorem OwnV.at {w : World} {base cap : Nat} {A : Option Addr} {l : List (List (List De))} {n : Nat} (h : OwnV w base (.slice A n cap) l) : WsAt w A l := by
  intro j hj
  obtain ⟨xs, h1, h2⟩ := h
  obtain ⟨x, h3, h4⟩ := h2 j hj
  rcases h1.2 with ⟨e, h0⟩ | ⟨g, cap', cur, e, hb, hh, _⟩
  · omega
  · injection e with e1 e2 e3
    subst e1
    obtain ⟨Aj, cj, rfl⟩ := h4.slice
    refine ⟨g, 0, Aj, cj, rfl, lt_of_block hh, ?_, h4.at⟩
    have := World.ownsRow.cells h1 (g := g) rfl _ _ h3
    rw [Addr.add_lit] at this
    simpa using this
theorem OwnV.hold {w w' : World} {base : Nat} {v : Value} {l : List (List (List De))} (h : OwnV w base v l) (hk : ∀ g, base ≤ g → g < w.heap.size → w'.heap[g]? = w.heap[g]?) : OwnV w' base v l := by
  obtain ⟨xs, h1, h2⟩ := h
  refine ⟨xs, ⟨h1.1, h1.2.imp id ?_⟩, fun j hj => ?_⟩
  · rintro ⟨g, c, cur, rfl, hg, hh, r⟩
    exact ⟨g, c, cur, rfl, hg, (hk g hg (lt_of_block hh)).trans hh, r⟩
  · obtain ⟨x, h3, ys, h4, h5⟩ := h2 j hj
    refine ⟨x, h3, ys, ⟨h4.1, h4.2.imp id ?_⟩, fun i hi => ?_⟩
    · rintro ⟨g, c, cur, rfl, hg, hh, r⟩
      exact ⟨g, c, cur, rfl, hg, (hk g hg (lt_of_block hh)).trans hh, r⟩
    · obtain ⟨y, h6, h7⟩ := h5 i hi
      exact ⟨y, h6, h7.keep fun g hg => hk g (h7.lt hg).1 (h7.lt hg).2⟩
theorem infoV : (Try.prog.info? 47).map (fun i => (i.zero, i.size, i.bytes)) = some (some (.slice none 0 0), 1, 24) := by kernel_rfl

/-- One wait, in a block of its own, put behind a row of waits. -/
theorem run_appV (w w1 : World) (ty : TypeId) (base c : Nat) (v x : Value) (l : List (List (List De))) (r : List (List De)) (hrow : OwnV w base v l) (hx : OwnW w base x r) (hw1 : w1 = w.alloc (.cells #[x] 47)) (hlen : l.length ≤ 1000) (hbase : base ≤ w.heap.size) :
    ∃ v' w', (Builtin.append_ #[23, 23] ty #[v, .slice (some ⟨w.heap.size, 0, none⟩) 1 c]).run Try.prog w1 = .ok v' w' ∧ OwnV w' base v' (l ++ [r]) ∧ w1.grownBy w' v.ownBlock := by
  subst hw1
  obtain ⟨i, hi, hz0, hz1, hz2⟩ := info_parts infoV
  obtain ⟨xs, h1, h2⟩ := hrow
  have hb0 : Below w.heap.size w (w.alloc (.cells #[x] 47)) := (Below.refl _ w).alloc (Nat.le_refl _) _
  have hc : (w.alloc (.cells #[x] 47)).cell? ⟨w.heap.size, 0, none⟩ = some x := by
    unfold World.cell?
    rw [heap_alloc_new w _]
    rfl
  have hrow1 : (w.alloc (.cells #[x] 47)).ownsRow base 47 1 v l.length xs := by
    refine ⟨h1.1, h1.2.imp id ?_⟩
    rintro ⟨g, c, cur, rfl, hg, hh, r⟩
    exact ⟨g, c, cur, rfl, hg, (hb0.block g (lt_of_block hh)).trans hh, r⟩
  obtain ⟨Ax, cx, hxs⟩ := hx.slice
  obtain ⟨v', w', r1, r2, r3, _⟩ := run_append_own (P := Try.prog) (w.alloc (.cells #[x] 47)) base 23 ty 47 i _ 1 24 Try.underlying23 hi hz0 hz1 hz2 rfl (by omega) v l.length xs hrow1 ⟨w.heap.size, 0, none⟩ 1 c [x] rfl (by
      intro j u hu
      rcases j with _ | j
      · simp only [List.getElem?_cons_zero, Option.some.injEq] at hu
        subst hu
        rw [Addr.add_lit]
        exact hc
      · simp at hu) (by
      intro u hu
      simp only [List.mem_singleton] at hu
      subst hu
      rw [hxs]
      rfl) (by unfold maxLen; omega) (by omega) (by simp; omega)
  refine ⟨v', w', r1, ⟨xs ++ [x], ?_, fun j hj => ?_⟩, r3⟩
  · rw [List.length_append]
    exact r2
  · have hlx : xs.length = l.length := by have := h1.1; omega
    have keep : ∀ (y : Value) (r' : List (List De)), OwnW w base y r' → OwnW w' base y r' := fun y r' hy => hy.kinds fun g hlt hk => by
      rw [r3.block g (by have := hb0.size; omega) (fun e => ?_), hb0.block g hlt]
      rcases h1.2 with ⟨rfl, _⟩ | ⟨g', cap', cur', rfl, _, hh, _⟩
      · cases e
      · simp [Value.ownBlock] at e
        subst e
        obtain ⟨cur, hk | hk⟩ := hk
        · rw [hk] at hh
          injection hh with hh
          injection hh with _ hh _
          exact absurd hh (by decide)
        · rw [hk] at hh
          injection hh with hh
          injection hh with _ hh _
          exact absurd hh (by decide)
    rcases Nat.lt_or_ge j l.length with hj2 | hj2
    · obtain ⟨y, h3, h4⟩ := h2 j hj2
      refine ⟨y, by rw [List.getElem?_append_left (by omega)]; exact h3, ?_⟩
      rw [show (l ++ [r]).getD j [] = l.getD j [] from by rw [List.getD_eq_getElem?_getD, List.getD_eq_getElem?_getD, List.getElem?_append_left hj2]]
      exact keep _ _ h4
    · rw [List.length_append] at hj
      obtain rfl : j = l.length := by simp at hj; omega
      refine ⟨x, by rw [List.getElem?_append_right (by omega), hlx, Nat.sub_self]; rfl, ?_⟩
      rw [show (l ++ [r]).getD l.length [] = r from by rw [List.getD_eq_getElem?_getD, List.getElem?_append_right (Nat.le_refl _), Nat.sub_self]; rfl]
      exact keep _ _ hx
theorem wp_appV {o : Oper} {a : Act} {w w1 : World} {K : Act → World → Prop} {Q : Exit → Act → World → Prop} (s y : Operand)
    (ho : o.op = .call { callee := .builtin .append, args := #[s, y], argTypes := #[23, 23] }) (base c : Nat) (v x : Value) (l : List (List (List De))) (r : List (List De))
    (hs : a.eval s = v) (hrow : OwnV w base v l) (hy : a.eval y = .slice (some ⟨w.heap.size, 0, none⟩) 1 c) (hx : OwnW w base x r) (hw1 : w1 = w.alloc (.cells #[x] 47)) (hlen : l.length ≤ 1000) (hbase : base ≤ w.heap.size)
    (h : ∀ v' w', OwnV w' base v' (l ++ [r]) → w1.grownBy w' v.ownBlock → K (a.put o.dst v') w') : o.wp Try.prog a w1 K Q := by
  obtain ⟨v', w', hr, h2, h3⟩ := run_appV w w1 o.type base c v x l r hrow hx hw1 hlen hbase
  unfold Oper.wp execOp
  simp only [ho, resolve, invoke, builtin, Sem.run_bind, Sem.run_pure, Result.andThen_ok, List.map_toArray, List.map_cons, List.map_nil, hs, hy, hr]
  exact h v' w' h2 h3
theorem wpList_appV {ops : Array Oper} {rest : List Oper} {o : Oper} {a : Act} {w w1 : World} {Q : Exit → Act → World → Prop} (hgd : o.guard = none) (s y : Operand)
    (ho : o.op = .call { callee := .builtin .append, args := #[s, y], argTypes := #[23, 23] }) (base c : Nat) (v x : Value) (l : List (List (List De))) (r : List (List De))
    (hs : a.eval s = v) (hrow : OwnV w base v l) (hy : a.eval y = .slice (some ⟨w.heap.size, 0, none⟩) 1 c) (hx : OwnW w base x r) (hw1 : w1 = w.alloc (.cells #[x] 47)) (hlen : l.length ≤ 1000) (hbase : base ≤ w.heap.size)
    (h : ∀ v' w', OwnV w' base v' (l ++ [r]) → w1.grownBy w' v.ownBlock → wpList Try.prog ops Q rest (a.put o.dst v') w') : wpList Try.prog ops Q (o :: rest) a w1 :=
  wpList_plain hgd fun _ hK => wp_appV s y ho base c v x l r hs hrow hy hx hw1 hlen hbase fun v' w' h2 h3 => hK _ _ (h v' w' h2 h3)
theorem step_appV {ops : Array Oper} {o : Oper} {a : Act} {w w1 : World} {K : Act → World → Prop} {Q : Exit → Act → World → Prop} {E : Prop} (hgd : o.guard = none) (s y : Operand)
    (ho : o.op = .call { callee := .builtin .append, args := #[s, y], argTypes := #[23, 23] }) (base c : Nat) (v x : Value) (l : List (List (List De))) (r : List (List De))
    (hs : a.eval s = v) (hrow : OwnV w base v l) (hy : a.eval y = .slice (some ⟨w.heap.size, 0, none⟩) 1 c) (hx : OwnW w base x r) (hw1 : w1 = w.alloc (.cells #[x] 47)) (hlen : l.length ≤ 1000) (hbase : base ≤ w.heap.size)
    (h : ∀ v' w', OwnV w' base v' (l ++ [r]) → w1.grownBy w' v.ownBlock → K (a.put o.dst v') w') :
    if Region.wanted o (yielded ops a.tmps) = true then Oper.wp Try.prog o a w1 K Q else E := by
  have hw : Region.wanted o (yielded ops a.tmps) = true := by simp [Region.wanted, hgd]
  rw [if_pos hw]
  exact wp_appV s y ho base c v x l r hs hrow hy hx hw1 hlen hbase h

/-- A row of functions that a call owns, each one's code a row of instructions of the call's own. -/
def OwnF (W : World) (base : Nat) (v : Value) (l : List Fn) : Prop :=
  ∃ xs : List Value, W.ownsRow base 37 3 v l.length xs ∧ ∀ j, j < l.length → xs[j * 3]? = some (.int .i64 (l.getD j Fn.zero).ar) ∧ xs[j * 3 + 1]? = some (.int .i64 (l.getD j Fn.zero).lo) ∧ ∃ x, xs[j * 3 + 2]? = some x ∧ OwnJ W base x (l.getD j Fn.zero).co
theorem OwnF.slice {w : World} {base : Nat} {v : Value} {l : List Fn} (h : OwnF w base v l) : ∃ A cap, v = .slice A l.length cap := by
  obtain ⟨xs, h1, _⟩ := h
  rcases h1.2 with ⟨rfl, h0⟩ | ⟨g, cap, cur, rfl, _⟩
  · exact ⟨none, 0, by rw [h0]⟩
  · exact ⟨_, _, rfl⟩
theorem OwnF.hold {w w' : World} {base : Nat} {v : Value} {l : List Fn} (h : OwnF w base v l) (hk : ∀ g, base ≤ g → g < w.heap.size → w'.heap[g]? = w.heap[g]?) : OwnF w' base v l := by
  obtain ⟨xs, h1, h2⟩ := h
  refine ⟨xs, ⟨h1.1, h1.2.imp id ?_⟩, fun j hj => ?_⟩
  · rintro ⟨g, c, cur, rfl, hg, hh, r⟩
    exact ⟨g, c, cur, rfl, hg, (hk g hg (lt_of_block hh)).trans hh, r⟩
  · obtain ⟨e1, e2, x, h3, h4⟩ := h2 j hj
    exact ⟨e1, e2, x, h3, h4.keep fun g hg => hk g (h4.lt hg).1 (h4.lt hg).2⟩
theorem OwnF.next {w w' : World} {base : Nat} {v : Value} {l : List Fn} (h : OwnF w base v l) (hb : Below w.heap.size w w') : OwnF w' base v l := h.hold fun g _ hg => hb.block g hg
theorem OwnF.nil (w : World) (base : Nat) : OwnF w base (.slice none 0 0) [] := ⟨[], World.ownsRow_nil .., fun j hj => absurd hj (Nat.not_lt_zero j)⟩
theorem OwnF.base {w : World} {base base' : Nat} {v : Value} {l : List Fn} (h : OwnF w base v l) (hb : base' ≤ base) : OwnF w base' v l := by
  obtain ⟨xs, h1, h2⟩ := h
  refine ⟨xs, ⟨h1.1, h1.2.imp id ?_⟩, fun j hj => ?_⟩
  · rintro ⟨g, c, cur, e, hg, r⟩
    exact ⟨g, c, cur, e, Nat.le_trans hb hg, r⟩
  · obtain ⟨e1, e2, x, h3, h4⟩ := h2 j hj
    exact ⟨e1, e2, x, h3, h4.base hb⟩
theorem OwnF.at {w : World} {base cap : Nat} {A : Option Addr} {l : List Fn} {n : Nat} (h : OwnF w base (.slice A n cap) l) : FsAt w A l := by
  intro j hj
  obtain ⟨xs, h1, h2⟩ := h
  obtain ⟨e1, e2, x, h3, h4⟩ := h2 j hj
  rcases h1.2 with ⟨e, h0⟩ | ⟨g, cap', cur, e, hb, hh, _⟩
  · omega
  · injection e with q1 q2 q3
    subst q1
    obtain ⟨Aj, cj, rfl⟩ := h4.slice
    have at_ : ∀ i u, xs[i]? = some u → w.cell? ⟨g, 0 + i, none⟩ = some u := fun i u hu => by
      have := World.ownsRow.cells h1 (g := g) rfl _ _ hu
      rwa [Addr.add_lit] at this
    exact ⟨g, 0, Aj, cj, rfl, lt_of_block hh, ⟨at_ _ _ e1, at_ _ _ e2, at_ _ _ h3⟩, h4.at⟩
theorem infoF : (Try.prog.info? 37).map (fun i => (i.zero, i.size, i.bytes)) = some (some (.agg #[.int .i64 0, .int .i64 0, .slice none 0 0]), 3, 40) := by kernel_rfl
/-- One function, in a block of its own, put behind a row of functions. -/
theorem run_appF (w w1 : World) (ty : TypeId) (base c : Nat) (v x : Value) (l : List Fn) (f : Fn) (hrow : OwnF w base v l) (hx : OwnJ w base x f.co) (hw1 : w1 = w.alloc (.cells #[.int .i64 f.ar, .int .i64 f.lo, x] 37)) (hlen : l.length ≤ 1000) (hbase : base ≤ w.heap.size) :
    ∃ v' w', (Builtin.append_ #[24, 24] ty #[v, .slice (some ⟨w.heap.size, 0, none⟩) 1 c]).run Try.prog w1 = .ok v' w' ∧ OwnF w' base v' (l ++ [f]) ∧ w1.grownBy w' v.ownBlock := by
  subst hw1
  obtain ⟨i, hi, hz0, hz1, hz2⟩ := info_parts infoF
  obtain ⟨xs, h1, h2⟩ := hrow
  obtain ⟨F, hF⟩ : ∃ F : Obj, F = .cells #[.int .i64 f.ar, .int .i64 f.lo, x] 37 := ⟨_, rfl⟩
  rw [← hF]
  have hb0 : Below w.heap.size w (w.alloc F) := (Below.refl _ w).alloc (Nat.le_refl _) _
  have hnew : (w.alloc F).heap[w.heap.size]? = some F := heap_alloc_new w F
  have hc : ∀ (j : Nat) (u : Value), [Value.int .i64 f.ar, .int .i64 f.lo, x][j]? = some u → (w.alloc F).cell? ((⟨w.heap.size, 0, none⟩ : Addr).add j) = some u := by
    intro j u hu
    rw [Addr.add_lit, Nat.zero_add]
    unfold World.cell?
    rw [hnew, hF]
    rcases j with _ | _ | _ | j
    · simpa using hu
    · simpa using hu
    · simpa using hu
    · simp at hu
  have hrow1 : (w.alloc F).ownsRow base 37 3 v l.length xs := by
    refine ⟨h1.1, h1.2.imp id ?_⟩
    rintro ⟨g, c, cur, rfl, hg, hh, r⟩
    exact ⟨g, c, cur, rfl, hg, (hb0.block g (lt_of_block hh)).trans hh, r⟩
  obtain ⟨Ax, cx, hxs⟩ := hx.slice
  obtain ⟨v', w', r1, r2, r3, _⟩ := run_append_own (P := Try.prog) (w.alloc F) base 24 ty 37 i _ 3 40 Try.underlying24 hi hz0 hz1 hz2 rfl (by omega) v l.length xs hrow1 ⟨w.heap.size, 0, none⟩ 1 c [.int .i64 f.ar, .int .i64 f.lo, x] rfl hc (by
      intro u hu
      simp only [List.mem_cons, List.not_mem_nil, or_false] at hu
      rcases hu with rfl | rfl | rfl
      · rfl
      · rfl
      · rw [hxs]; rfl) (by unfold maxLen; omega) (by omega) (by simp; omega)
  refine ⟨v', w', r1, ⟨xs ++ [.int .i64 f.ar, .int .i64 f.lo, x], ?_, fun j hj => ?_⟩, r3⟩
  · rw [List.length_append]
    exact r2
  · have hlx : xs.length = l.length * 3 := by have := h1.1; omega
    have keep : ∀ (y : Value) (r' : List De), OwnJ w base y r' → OwnJ w' base y r' := fun y r' hy => hy.keep fun g hg => by
      have hlt := (hy.lt hg).2
      obtain ⟨cur, hk⟩ := hy.kind hg
      rw [r3.block g (by have := hb0.size; omega) (fun e => ?_), hb0.block g hlt]
      rcases h1.2 with ⟨rfl, _⟩ | ⟨g', cap', cur', rfl, _, hh, _⟩
      · cases e
      · simp [Value.ownBlock] at e
        subst e
        rw [hk] at hh
        injection hh with hh
        injection hh with _ hh _
        exact absurd hh (by decide)
    rcases Nat.lt_or_ge j l.length with hj2 | hj2
    · obtain ⟨e1, e2, y, h3, h4⟩ := h2 j hj2
      have hl1 : j * 3 + 2 < xs.length := by omega
      rw [show (l ++ [f]).getD j Fn.zero = l.getD j Fn.zero from at_left hj2]
      exact ⟨by rw [List.getElem?_append_left (by omega)]; exact e1, by rw [List.getElem?_append_left (by omega)]; exact e2, y, by rw [List.getElem?_append_left (by omega)]; exact h3, keep _ _ h4⟩
    · rw [List.length_append] at hj
      obtain rfl : j = l.length := by simp at hj; omega
      rw [show (l ++ [f]).getD l.length Fn.zero = f from at_last rfl, ← hlx]
      refine ⟨?_, ?_, x, ?_, keep _ _ hx⟩
      · rw [List.getElem?_append_right (Nat.le_refl _), Nat.sub_self]; rfl
      · rw [List.getElem?_append_right (by omega), Nat.add_sub_cancel_left]; rfl
      · rw [List.getElem?_append_right (by omega), Nat.add_sub_cancel_left]; rfl
theorem wp_appF {o : Oper} {a : Act} {w w1 : World} {K : Act → World → Prop} {Q : Exit → Act → World → Prop} (s y : Operand)
    (ho : o.op = .call { callee := .builtin .append, args := #[s, y], argTypes := #[24, 24] }) (base c : Nat) (v x : Value) (l : List Fn) (f : Fn)
    (hs : a.eval s = v) (hrow : OwnF w base v l) (hy : a.eval y = .slice (some ⟨w.heap.size, 0, none⟩) 1 c) (hx : OwnJ w base x f.co) (hw1 : w1 = w.alloc (.cells #[.int .i64 f.ar, .int .i64 f.lo, x] 37)) (hlen : l.length ≤ 1000) (hbase : base ≤ w.heap.size)
    (h : ∀ v' w', OwnF w' base v' (l ++ [f]) → w1.grownBy w' v.ownBlock → K (a.put o.dst v') w') : o.wp Try.prog a w1 K Q := by
  obtain ⟨v', w', hr, h2, h3⟩ := run_appF w w1 o.type base c v x l f hrow hx hw1 hlen hbase
  unfold Oper.wp execOp
  simp only [ho, resolve, invoke, builtin, Sem.run_bind, Sem.run_pure, Result.andThen_ok, List.map_toArray, List.map_cons, List.map_nil, hs, hy, hr]
  exact h v' w' h2 h3
theorem wpList_appF {ops : Array Oper} {rest : List Oper} {o : Oper} {a : Act} {w w1 : World} {Q : Exit → Act → World → Prop} (hgd : o.guard = none) (s y : Operand)
    (ho : o.op = .call { callee := .builtin .append, args := #[s, y], argTypes := #[24, 24] }) (base c : Nat) (v x : Value) (l : List Fn) (f : Fn)
    (hs : a.eval s = v) (hrow : OwnF w base v l) (hy : a.eval y = .slice (some ⟨w.heap.size, 0, none⟩) 1 c) (hx : OwnJ w base x f.co) (hw1 : w1 = w.alloc (.cells #[.int .i64 f.ar, .int .i64 f.lo, x] 37)) (hlen : l.length ≤ 1000) (hbase : base ≤ w.heap.size)
    (h : ∀ v' w', OwnF w' base v' (l ++ [f]) → w1.grownBy w' v.ownBlock → wpList Try.prog ops Q rest (a.put o.dst v') w') : wpList Try.prog ops Q (o :: rest) a w1 :=
  wpList_plain hgd fun _ hK => wp_appF s y ho base c v x l f hs hrow hy hx hw1 hlen hbase fun v' w' h2 h3 => hK _ _ (h v' w' h2 h3)
theorem step_appF {ops : Array Oper} {o : Oper} {a : Act} {w w1 : World} {K : Act → World → Prop} {Q : Exit → Act → World → Prop} {E : Prop} (hgd : o.guard = none) (s y : Operand)
    (ho : o.op = .call { callee := .builtin .append, args := #[s, y], argTypes := #[24, 24] }) (base c : Nat) (v x : Value) (l : List Fn) (f : Fn)
    (hs : a.eval s = v) (hrow : OwnF w base v l) (hy : a.eval y = .slice (some ⟨w.heap.size, 0, none⟩) 1 c) (hx : OwnJ w base x f.co) (hw1 : w1 = w.alloc (.cells #[.int .i64 f.ar, .int .i64 f.lo, x] 37)) (hlen : l.length ≤ 1000) (hbase : base ≤ w.heap.size)
    (h : ∀ v' w', OwnF w' base v' (l ++ [f]) → w1.grownBy w' v.ownBlock → K (a.put o.dst v') w') :
    if Region.wanted o (yielded ops a.tmps) = true then Oper.wp Try.prog o a w1 K Q else E := by
  have hw : Region.wanted o (yielded ops a.tmps) = true := by simp [Region.wanted, hgd]
  rw [if_pos hw]
  exact wp_appF s y ho base c v x l f hs hrow hy hx hw1 hlen hbase h
end Go.Proofs.Ytjlmgoaglpkhoaa.pgm

/-
  Three cells at once, and a reader of the document's in a block. No condition.
-/
namespace Go.Proofs.Ytjlmgoaglpkhoaa.objs
open Go.RowKit Go.ChangeShapes
set_option linter.unusedVariables false

/-- Three cells of a block, set one behind the other. -/
abbrev put3 (W : World) (b : Nat) (x y z : Value) : World := ((W.setCell ⟨b, 0, none⟩ x).setCell ⟨b, 1, none⟩ y).setCell ⟨b, 2, none⟩ z
theorem put3_same {W : World} {b : Nat} {u v m : Value} {T : TypeId} (h : W.heap[b]? = some (.cells #[u, v, m] T (0, 0))) (x y z : Value) : (put3 W b x y z).heap[b]? = some (.cells #[x, y, z] T (0, 0)) := by
  simp [World.setCell, Array.getElem?_modify, h]
theorem cells3 {W : World} {b : Nat} {x y z : Value} {T : TypeId} (h : W.heap[b]? = some (.cells #[x, y, z] T (0, 0))) :
    W.cell? ⟨b, 0, none⟩ = some x ∧ W.cell? ⟨b, 1, none⟩ = some y ∧ W.cell? ⟨b, 2, none⟩ = some z ∧ W.frozen? ⟨b, 0, none⟩ = false ∧ W.frozen? ⟨b, 1, none⟩ = false ∧ W.frozen? ⟨b, 2, none⟩ = false := by
  simp [World.cell?, World.frozen?, h]
theorem put3_far {W : World} {b c : Nat} (h : c ≠ b) (x y z : Value) : (put3 W b x y z).heap[c]? = W.heap[c]? :=
  (Below.heap_setCell _ ⟨b, 2, none⟩ _ c h).trans ((Below.heap_setCell _ ⟨b, 1, none⟩ _ c h).trans (Below.heap_setCell _ ⟨b, 0, none⟩ _ c h))
theorem put3_below {B b : Nat} {a W : World} (h : Below B a W) (hb : B ≤ b) (x y z : Value) : Below B a (put3 W b x y z) :=
  ((h.setCell (p := ⟨b, 0, none⟩) hb _).setCell (p := ⟨b, 1, none⟩) hb _).setCell (p := ⟨b, 2, none⟩) hb _

end Go.Proofs.Ytjlmgoaglpkhoaa.objs

/-
  Rows that stay as they are while the blocks of an interval stay. No condition.
-/
namespace Go.Proofs.Ytjlmgoaglpkhoaa.pgm
open Go.RowKit Go.ChangeShapes
open Go.Proofs.Ytjlmgoaglpkhoaa.objs (De zero Own)
set_option linter.unusedVariables false

/-- What holds as long as the blocks of an interval stay. -/
def Stays (W : World) (lo hi : Nat) (p : World → Prop) : Prop := hi ≤ W.heap.size ∧ ∀ W' : World, W.heap.size ≤ W'.heap.size → (∀ g, lo ≤ g → g < hi → W'.heap[g]? = W.heap[g]?) → p W'
theorem Stays.now {W : World} {lo hi : Nat} {p : World → Prop} (h : Stays W lo hi p) : p W := h.2 W (Nat.le_refl _) fun _ _ _ => rfl
theorem Stays.keep {W W1 : World} {lo hi : Nat} {p : World → Prop} (h : Stays W lo hi p) (hs : W.heap.size ≤ W1.heap.size) (hk : ∀ g, lo ≤ g → g < hi → W1.heap[g]? = W.heap[g]?) : Stays W1 lo hi p :=
  ⟨Nat.le_trans h.1 hs, fun W' h1 h2 => h.2 W' (Nat.le_trans hs h1) fun g hl hg => (h2 g hl hg).trans (hk g hl hg)⟩
theorem Stays.next {W W1 : World} {lo hi : Nat} {p : World → Prop} (h : Stays W lo hi p) (hb : Below W.heap.size W W1) : Stays W1 lo hi p := h.keep hb.size fun g _ hg => hb.block g (Nat.lt_of_lt_of_le hg h.1)
theorem Own.stays {W : World} {base : Nat} {v : Value} {l : List De} (h : Own W base v l) : Stays W base W.heap.size (fun W' => Own W' base v l) := ⟨Nat.le_refl _, fun W' _ hk => h.keep fun g hg => hk g (h.lt hg).1 (h.lt hg).2⟩
theorem OwnV.stays {W : World} {base : Nat} {v : Value} {l : List (List (List De))} (h : OwnV W base v l) : Stays W base W.heap.size (fun W' => OwnV W' base v l) := ⟨Nat.le_refl _, fun W' _ hk => h.hold hk⟩

def pgB (a v u : Value) : Obj := .cells #[a, v, u] 26
abbrev sN : Value := .slice none 0 0
theorem pg_set1 {W : World} {b : Nat} {a v u : Value} (h : W.heap[b]? = some (pgB a v u)) (x : Value) : (W.setCell ⟨b, 1, none⟩ x).heap[b]? = some (pgB a x u) := by
  simp [World.setCell, Array.getElem?_modify, h, pgB]
theorem pg_set2 {W : World} {b : Nat} {a v u : Value} (h : W.heap[b]? = some (pgB a v u)) (x : Value) : (W.setCell ⟨b, 2, none⟩ x).heap[b]? = some (pgB a v x) := by
  simp [World.setCell, Array.getElem?_modify, h, pgB]
theorem OwnV.inB {w : World} {base g : Nat} {v : Value} {l : List (List (List De))} (h : OwnV w base v l) (hg : v.ownBlock = some g) : base ≤ g ∧ g < w.heap.size := by
  obtain ⟨xs, h1, _⟩ := h
  exact World.ownsRow.lt h1 g hg
theorem OwnF.inB {w : World} {base g : Nat} {v : Value} {l : List Fn} (h : OwnF w base v l) (hg : v.ownBlock = some g) : base ≤ g ∧ g < w.heap.size := by
  obtain ⟨xs, h1, _⟩ := h
  exact World.ownsRow.lt h1 g hg
theorem OwnV.kind {w : World} {base g : Nat} {v : Value} {l : List (List (List De))} (h : OwnV w base v l) (hg : v.ownBlock = some g) : ∃ cur, w.heap[g]? = some (.cells cur 47 (0, 0)) := by
  obtain ⟨xs, h1, _⟩ := h
  rcases h1.2 with ⟨rfl, _⟩ | ⟨g', cap, cur, rfl, _, hh, _⟩
  · cases hg
  · simp [Value.ownBlock] at hg
    subst hg
    exact ⟨cur, hh⟩
theorem OwnF.kind {w : World} {base g : Nat} {v : Value} {l : List Fn} (h : OwnF w base v l) (hg : v.ownBlock = some g) : ∃ cur, w.heap[g]? = some (.cells cur 37 (0, 0)) := by
  obtain ⟨xs, h1, _⟩ := h
  rcases h1.2 with ⟨rfl, _⟩ | ⟨g', cap, cur, rfl, _, hh, _⟩
  · cases hg
  · simp [Value.ownBlock] at hg
    subst hg
    exact ⟨cur, hh⟩
end Go.Proofs.Ytjlmgoaglpkhoaa.pgm

/-
  The document's own depth behind an instruction. The instruction may be; the functions' arguments are from 0 to 8; the depth is from 0 to 16.
-/
namespace Go.Proofs.Ytjlmgoaglpkhoaa.pgm.dep
open Go.RowKit Go.ChangeShapes
open Go.Proofs.Ytjlmgoaglpkhoaa.pgm
open Go.Proofs.Ytjlmgoaglpkhoaa.objs (De zero DAt CellsAt cells3)
open Go.Proofs.Ytjlmgoaglpkhoaa.oper (pops numb ly insBox refPops_any refPushes_any)
set_option linter.unusedVariables false

set_option maxRecDepth 100000 in
set_option maxHeartbeats 4000000 in
theorem refBehind_any (v : Value) (p : Pg) (x : De) (d : Int) (w : World) (hv : PAt w v p) (hl : p.fs.length ≤ 16) (hf : ∀ f ∈ p.fs, 0 ≤ f.ar ∧ f.ar ≤ 8) (hx : chkI x = 0) (h0 : 0 ≤ d) (h1 : d ≤ 16) :
    Calls Try.prog 10 #[v, .agg #[.int .i64 x.1, .int .i64 x.2.1, .int .i64 x.2.2], .int .i64 d] w fun e w' => e = .returned (.int .i64 (behind p.fs x d)) ∧ Below w.heap.size w w' := by
  obtain ⟨A, B, C, ca, cb, cc, rfl, _, _, hC⟩ := hv
  have hp := pops_small hf hx
  have hy := lays_small x.1
  have hb := b_small hx
  have ha := fun h => func_small hx h
  obtain ⟨r, hr⟩ : ∃ r, r = behind p.fs x d := ⟨_, rfl⟩
  rw [← hr]
  unfold behind at hr
  obtain ⟨n, hn⟩ : ∃ n, n = argsOf p.fs x := ⟨_, rfl⟩
  rw [← hn] at hr hp
  unfold argsOf at hn
  obtain ⟨o, a, b⟩ := x
  dsimp only at *
  have hP := fun W => Lib.hid (refPops_any o a b n (by omega) (by omega) W)
  have hU := fun W => Lib.hid (refPushes_any o W)
  generalize pops o b n = k at *
  generalize numb ly o = y at *
  have hN := Lib.hid hn
  have hR := Lib.hid hr
  have hz0 : (w.alloc (pgB (.slice A p.ds.length ca) (.slice B p.ws.length cb) (.slice C p.fs.length cc))).heap.size = w.heap.size + 1 := World.size_alloc _ _
  have hb0 : Below w.heap.size w ((w.alloc (pgB (.slice A p.ds.length ca) (.slice B p.ws.length cb) (.slice C p.fs.length cc))).alloc (insBox o a b)) := ((Below.refl _ w).alloc (Nat.le_refl _) _).alloc (by omega) _
  have hx0 : ((w.alloc (pgB (.slice A p.ds.length ca) (.slice B p.ws.length cb) (.slice C p.fs.length cc))).alloc (insBox o a b)).heap[w.heap.size]? = some (pgB (.slice A p.ds.length ca) (.slice B p.ws.length cb) (.slice C p.fs.length cc)) := (Below.heap_alloc _ _ _ (by omega)).trans (heap_alloc_new w _)
  have hx1 : ((w.alloc (pgB (.slice A p.ds.length ca) (.slice B p.ws.length cb) (.slice C p.fs.length cc))).alloc (insBox o a b)).heap[w.heap.size + 1]? = some (insBox o a b) := by rw [← hz0]; exact heap_alloc_new _ _
  have hC0 := Lib.hid (hC.next hb0)
  have HB0 := Lib.hid hb0
  unfold pgB insBox at hx0 hx1 hC0 HB0
  clear hr hn hb0 hz0 hC
  go_enter Try.func10, Try.ntmps10
  go_upto_region 2 with fail
  generalize (w.alloc (.cells #[.slice A p.ds.length ca, .slice B p.ws.length cb, .slice C p.fs.length cc] 26)).alloc (.cells #[.int .i64 o, .int .i64 a, .int .i64 b] 40) = W0 at *
  obtain ⟨p0, p1, p2, -, -, -⟩ := cells3 hx0
  obtain ⟨i0, i1, i2, -, -, -⟩ := cells3 hx1
  have hlay : ∀ (W : World), Below W0.heap.size W0 W → W.heap[w.heap.size + 1]? = some (.cells #[.int .i64 o, .int .i64 a, .int .i64 b] 40) := fun W h => (h.block _ (lt_of_block hx1)).trans hx1
  have HLay := Lib.hid hlay
  by_cases ho : o = 20
  · subst ho
    obtain ⟨ha0, ha1⟩ := ha rfl
    by_cases hlt : a < (p.fs.length : Int)
    · obtain ⟨j, rfl⟩ : ∃ j : Nat, a = (j : Int) := ⟨a.toNat, by omega⟩
      have hj : j < p.fs.length := by omega
      obtain ⟨g, off, Aj, cj, rfl, hg, ⟨f0, _, _⟩, _⟩ := hC0.out j hj
      have e1 : (p.fs.getD j Fn.zero).ar = n := by rw [hN.out, if_pos ⟨rfl, hlt⟩, Int.toNat_natCast]
      rw [e1] at f0
      have q0 : decide ((j : Int) < (p.fs.length : Int)) = true := decide_eq_true hlt
      go_upto_region 4 with fail
      go_wp2_with fail
      refine (hP _).out.mono ?_
      rintro _ w1 ⟨rfl, hb1⟩
      have HB1 := Lib.hid (HB0.out.trans (hb1.mono HB0.out.size))
      obtain ⟨j0, j1, j2, -, -, -⟩ := cells3 (HLay.out _ hb1)
      clear hb1 i0 i1 i2 p0 p1 p2 hP
      by_cases hd : d - k < 0
      · have hv := hR.out
        rw [if_pos hd] at hv
        subst hv
        go_wp2
        go_ret
        exact ⟨rfl, HB1.out⟩
      · have hv := hR.out
        rw [if_neg hd] at hv
        subst hv
        go_wp2_with fail
        refine (hU _).out.mono ?_
        rintro _ w2 ⟨rfl, hb2⟩
        have HB2 := Lib.hid (HB1.out.trans (hb2.mono HB1.out.size))
        clear hb2
        go_wp2
        go_ret
        exact ⟨rfl, HB2.out⟩
    · have e1 : n = 0 := by rw [hN.out, if_neg (fun h => hlt h.2)]
      subst e1
      have q0 : decide (a < (p.fs.length : Int)) = false := decide_eq_false hlt
      go_upto_region 4 with fail
      go_wp2_with fail
      refine (hP _).out.mono ?_
      rintro _ w1 ⟨rfl, hb1⟩
      have HB1 := Lib.hid (HB0.out.trans (hb1.mono HB0.out.size))
      obtain ⟨j0, j1, j2, -, -, -⟩ := cells3 (HLay.out _ hb1)
      clear hb1 i0 i1 i2 p0 p1 p2 hP
      by_cases hd : d - k < 0
      · have hv := hR.out
        rw [if_pos hd] at hv
        subst hv
        go_wp2
        go_ret
        exact ⟨rfl, HB1.out⟩
      · have hv := hR.out
        rw [if_neg hd] at hv
        subst hv
        go_wp2_with fail
        refine (hU _).out.mono ?_
        rintro _ w2 ⟨rfl, hb2⟩
        have HB2 := Lib.hid (HB1.out.trans (hb2.mono HB1.out.size))
        clear hb2
        go_wp2
        go_ret
        exact ⟨rfl, HB2.out⟩
  · have e1 : n = 0 := by rw [hN.out, if_neg (fun h => ho h.1)]
    subst e1
    have q0 : (o == 20) = false := by simpa using ho
    go_upto_region 4 with fail
    go_wp2_with fail
    refine (hP _).out.mono ?_
    rintro _ w1 ⟨rfl, hb1⟩
    have HB1 := Lib.hid (HB0.out.trans (hb1.mono HB0.out.size))
    obtain ⟨j0, j1, j2, -, -, -⟩ := cells3 (HLay.out _ hb1)
    clear hb1 i0 i1 i2 p0 p1 p2 hP
    by_cases hd : d - k < 0
    · have hv := hR.out
      rw [if_pos hd] at hv
      subst hv
      go_wp2
      go_ret
      exact ⟨rfl, HB1.out⟩
    · have hv := hR.out
      rw [if_neg hd] at hv
      subst hv
      go_wp2_with fail
      refine (hU _).out.mono ?_
      rintro _ w2 ⟨rfl, hb2⟩
      have HB2 := Lib.hid (HB1.out.trans (hb2.mono HB1.out.size))
      clear hb2
      go_wp2
      go_ret
      exact ⟨rfl, HB2.out⟩
end Go.Proofs.Ytjlmgoaglpkhoaa.pgm.dep

/-
  Lists of numbers as they lie in memory, wherever they came from; a row of numbers that a call owns, and what an append makes of it. No condition.
-/
namespace Go.Proofs.Ytjlmgoaglpkhoaa.nums
open Go.RowKit Go.ChangeShapes
set_option linter.unusedVariables false

/-- A list of numbers, one behind the other, from where a slice begins. -/
def NAt (w : World) (A : Option Addr) (l : List Int) : Prop := ∀ j, j < l.length → ∃ b off, A = some ⟨b, off, none⟩ ∧ b < w.heap.size ∧ w.cell? ⟨b, off + j, none⟩ = some (.int .i64 (l.getD j 0))
theorem NAt.next {w w' : World} {A : Option Addr} {l : List Int} (h : NAt w A l) (hb : Below w.heap.size w w') : NAt w' A l := fun j hj => by
  obtain ⟨b, off, h1, h2, h3⟩ := h j hj
  exact ⟨b, off, h1, Nat.lt_of_lt_of_le h2 hb.size, (hb.cell (p := ⟨b, off + j, none⟩) h2).trans h3⟩
theorem NAt.keep {w w' : World} {b off : Nat} {l : List Int} (h : NAt w (some ⟨b, off, none⟩) l) (hk : w'.heap[b]? = w.heap[b]?) : NAt w' (some ⟨b, off, none⟩) l := fun j hj => by
  obtain ⟨b', off', h1, h2, h3⟩ := h j hj
  injection h1 with h1
  injection h1 with e1 e2
  subst e1 e2
  have := (World.cell?_of_block (a := ⟨b, off + j, none⟩) hk).trans h3
  refine ⟨b, off, rfl, ?_, this⟩
  rcases Nat.lt_or_ge b w'.heap.size with h | h
  · exact h
  · rw [Array.getElem?_eq_none h, Array.getElem?_eq_getElem h2] at hk
    cases hk
theorem NAt.nil (w : World) (A : Option Addr) : NAt w A [] := fun j hj => absurd hj (Nat.not_lt_zero j)
theorem NAt.take {w : World} {A : Option Addr} {l : List Int} (h : NAt w A l) (n : Nat) : NAt w A (l.take n) := fun j hj => by
  rw [List.length_take] at hj
  obtain ⟨b, off, h1, h2, h3⟩ := h j (by omega)
  refine ⟨b, off, h1, h2, h3.trans ?_⟩
  rw [List.getD_eq_getElem?_getD, List.getD_eq_getElem?_getD, List.getElem?_take_of_lt (by omega)]
theorem getD_any {l : List Int} {j : Nat} (h : j < l.length) (x y : Int) : l.getD j x = l.getD j y := by
  rw [List.getD_eq_getElem?_getD, List.getD_eq_getElem?_getD, List.getElem?_eq_getElem h]
  rfl
def ints (l : List Int) : List Value := l.map (Value.int .i64)
theorem ints_length (l : List Int) : (ints l).length = l.length := by simp [ints]
theorem ints_append (l r : List Int) : ints (l ++ r) = ints l ++ ints r := by simp [ints]
theorem ints_at {l : List Int} {j : Nat} (h : j < l.length) : (ints l)[j]? = some (.int .i64 (l.getD j 0)) := by
  simp [ints, List.getD_eq_getElem?_getD, List.getElem?_eq_getElem h]
theorem ints_oneCell (l : List Int) : ∀ u ∈ ints l, u.oneCell' = true := by
  intro u hu
  obtain ⟨x, _, rfl⟩ := List.mem_map.1 hu
  rfl
/-- A slice's value of numbers, nil or a row of the call's own. -/
def OwnI (w : World) (base : Nat) (v : Value) (l : List Int) : Prop := w.ownsRow base 3 1 v l.length (ints l)
theorem OwnI.nil (w : World) (base : Nat) : OwnI w base (.slice none 0 0) [] := World.ownsRow_nil ..
theorem OwnI.empty {w : World} {g : Nat} (h : w.heap[g]? = some (.cells #[] 3 (0, 0))) : OwnI w g (.slice (some ⟨g, 0, none⟩) 0 0) [] :=
  ⟨rfl, .inr ⟨g, 0, #[], rfl, Nat.le_refl _, h, Nat.le_refl _, Nat.zero_le _, rfl, rfl⟩⟩
theorem OwnI.slice {w : World} {base : Nat} {v : Value} {l : List Int} (h : OwnI w base v l) : ∃ A cap, v = .slice A l.length cap := by
  rcases h.2 with ⟨rfl, h0⟩ | ⟨g, cap, cur, rfl, _⟩
  · exact ⟨none, 0, by rw [h0]⟩
  · exact ⟨_, _, rfl⟩
theorem OwnI.at {w : World} {base cap : Nat} {A : Option Addr} {l : List Int} {n : Nat} (h : OwnI w base (.slice A n cap) l) : NAt w A l := by
  intro j hj
  rcases h.2 with ⟨e, h0⟩ | ⟨g, cap', cur, e, hb, hh, _⟩
  · omega
  · injection e with e1 e2 e3
    subst e1
    refine ⟨g, 0, rfl, lt_of_block hh, ?_⟩
    have := World.ownsRow.cells h (g := g) rfl _ _ (ints_at hj)
    rw [Addr.add_lit] at this
    simpa using this
theorem OwnI.keep {w w' : World} {base : Nat} {v : Value} {l : List Int} (h : OwnI w base v l) (hk : ∀ g, v.ownBlock = some g → w'.heap[g]? = w.heap[g]?) : OwnI w' base v l := by
  refine ⟨h.1, h.2.imp id ?_⟩
  rintro ⟨g, c, cur, rfl, hb, hh, r⟩
  exact ⟨g, c, cur, rfl, hb, (hk g rfl).trans hh, r⟩
theorem OwnI.lt {w : World} {base g : Nat} {v : Value} {l : List Int} (h : OwnI w base v l) (hg : v.ownBlock = some g) : base ≤ g ∧ g < w.heap.size := World.ownsRow.lt h g hg
theorem OwnI.next {w w' : World} {base : Nat} {v : Value} {l : List Int} (h : OwnI w base v l) (hb : Below w.heap.size w w') : OwnI w' base v l := h.keep fun g hg => hb.block g (h.lt hg).2
theorem OwnI.base {w : World} {base base' : Nat} {v : Value} {l : List Int} (h : OwnI w base v l) (hb : base' ≤ base) : OwnI w base' v l := by
  refine ⟨h.1, h.2.imp id ?_⟩
  rintro ⟨g, c, cur, e, hb1, r⟩
  exact ⟨g, c, cur, e, Nat.le_trans hb hb1, r⟩
theorem infoI : (Try.prog.info? 3).map (fun i => (i.zero, i.size, i.bytes)) = some (some (.int .i64 0), 1, 8) := by kernel_rfl
theorem src_ints {w : World} {ad : Addr} {r : List Int} (h : NAt w (some ad) r) : ∀ (j : Nat) (u : Value), (ints r)[j]? = some u → w.cell? (ad.add j) = some u := by
  intro j u hu
  have hj : j < r.length := by
    have := (List.getElem?_eq_some_iff.1 hu).1
    rwa [ints_length] at this
  obtain ⟨b, off, e, _, h1⟩ := h j hj
  obtain rfl := Option.some.inj e
  rw [Addr.add_lit, h1, ← hu, ints_at hj]
/-- A list that lies anywhere, put behind a row of a call's own. -/
theorem run_appI (w : World) (ty : TypeId) (base m c : Nat) (v : Value) (A : Option Addr) (l r : List Int) (hrow : OwnI w base v l) (hm : m = r.length) (hA : A = none → r = [] ∧ c = 0) (hsrc : NAt w A r) (hlen : l.length + r.length ≤ 100000) (hbase : base ≤ w.heap.size) :
    ∃ v' w', (Builtin.append_ #[30, 30] ty #[v, .slice A m c]).run Try.prog w = .ok v' w' ∧ OwnI w' base v' (l ++ r) ∧ w.grownBy w' v.ownBlock := by
  subst hm
  obtain ⟨i, hi, hz0, hz1, hz2⟩ := info_parts infoI
  cases A with
  | none =>
    obtain ⟨rfl, rfl⟩ := hA rfl
    refine ⟨v, w, run_append_owned_none (P := Try.prog) (w := w) base 30 ty 3 i 1 Try.underlying30 hi v l.length (ints l) hrow, ?_, ⟨rfl, rfl, rfl, Nat.le_refl _, fun _ _ _ => rfl⟩⟩
    rw [List.append_nil]
    exact hrow
  | some ad =>
    obtain ⟨v', w', h1, h2, h3, _⟩ := run_append_own (P := Try.prog) w base 30 ty 3 i _ 1 8 Try.underlying30 hi hz0 hz1 hz2 rfl (by omega) v l.length (ints l) hrow ad r.length c (ints r) (by rw [ints_length, Nat.mul_one]) (src_ints hsrc) (ints_oneCell r) (by unfold maxLen; omega) (by omega) hbase
    refine ⟨v', w', h1, ?_, h3⟩
    unfold OwnI
    rw [List.length_append, ints_append]
    exact h2
theorem wp_appI {o : Oper} {a : Act} {w : World} {K : Act → World → Prop} {Q : Exit → Act → World → Prop} (s x : Operand)
    (ho : o.op = .call { callee := .builtin .append, args := #[s, x], argTypes := #[30, 30] }) (base m c : Nat) (v : Value) (A : Option Addr) (l r : List Int)
    (hs : a.eval s = v) (hrow : OwnI w base v l) (hx : a.eval x = .slice A m c) (hm : m = r.length) (hA : A = none → r = [] ∧ c = 0) (hsrc : NAt w A r) (hlen : l.length + r.length ≤ 100000) (hbase : base ≤ w.heap.size)
    (h : ∀ v' w', OwnI w' base v' (l ++ r) → w.grownBy w' v.ownBlock → K (a.put o.dst v') w') : o.wp Try.prog a w K Q := by
  obtain ⟨v', w', hr, h2, h3⟩ := run_appI w o.type base m c v A l r hrow hm hA hsrc hlen hbase
  unfold Oper.wp execOp
  simp only [ho, resolve, invoke, builtin, Sem.run_bind, Sem.run_pure, Result.andThen_ok, List.map_toArray, List.map_cons, List.map_nil, hs, hx, hr]
  exact h v' w' h2 h3
theorem wpList_appI {ops : Array Oper} {rest : List Oper} {o : Oper} {a : Act} {w : World} {Q : Exit → Act → World → Prop} (hgd : o.guard = none) (s x : Operand)
    (ho : o.op = .call { callee := .builtin .append, args := #[s, x], argTypes := #[30, 30] }) (base m c : Nat) (v : Value) (A : Option Addr) (l r : List Int)
    (hs : a.eval s = v) (hrow : OwnI w base v l) (hx : a.eval x = .slice A m c) (hm : m = r.length) (hA : A = none → r = [] ∧ c = 0) (hsrc : NAt w A r) (hlen : l.length + r.length ≤ 100000) (hbase : base ≤ w.heap.size)
    (h : ∀ v' w', OwnI w' base v' (l ++ r) → w.grownBy w' v.ownBlock → wpList Try.prog ops Q rest (a.put o.dst v') w') : wpList Try.prog ops Q (o :: rest) a w :=
  wpList_plain hgd fun _ hK => wp_appI s x ho base m c v A l r hs hrow hx hm hA hsrc hlen hbase fun v' w' h2 h3 => hK _ _ (h v' w' h2 h3)
theorem step_appI {ops : Array Oper} {o : Oper} {a : Act} {w : World} {K : Act → World → Prop} {Q : Exit → Act → World → Prop} {E : Prop} (hgd : o.guard = none) (s x : Operand)
    (ho : o.op = .call { callee := .builtin .append, args := #[s, x], argTypes := #[30, 30] }) (base m c : Nat) (v : Value) (A : Option Addr) (l r : List Int)
    (hs : a.eval s = v) (hrow : OwnI w base v l) (hx : a.eval x = .slice A m c) (hm : m = r.length) (hA : A = none → r = [] ∧ c = 0) (hsrc : NAt w A r) (hlen : l.length + r.length ≤ 100000) (hbase : base ≤ w.heap.size)
    (h : ∀ v' w', OwnI w' base v' (l ++ r) → w.grownBy w' v.ownBlock → K (a.put o.dst v') w') :
    if Region.wanted o (yielded ops a.tmps) = true then Oper.wp Try.prog o a w K Q else E := by
  have hw : Region.wanted o (yielded ops a.tmps) = true := by simp [Region.wanted, hgd]
  rw [if_pos hw]
  exact wp_appI s x ho base m c v A l r hs hrow hx hm hA hsrc hlen hbase h
end Go.Proofs.Ytjlmgoaglpkhoaa.nums

/-
  What the statements on depths ask of the program's two calls, and their common end: whether depths are found. No condition.
-/
namespace Go.Proofs.Ytjlmgoaglpkhoaa.pgm.dep
open Go.RowKit Go.ChangeShapes
open Go.Proofs.Ytjlmgoaglpkhoaa.pgm
open Go.Proofs.Ytjlmgoaglpkhoaa.objs (De zero DAt cells3)
open Go.Proofs.Ytjlmgoaglpkhoaa.nums (NAt NAt.next)
set_option linter.unusedVariables false

def I64 (n : Int) : Prop := -9223372036854775808 ≤ n ∧ n ≤ 9223372036854775807
/-- The depths, the place and the error are answered. -/
def OfPost (q : List Int × Nat × Nat) (w : World) (e : Ending) (w' : World) : Prop :=
  ∃ A c, e = .returned (.tuple #[.slice A q.1.length c, .int .i64 (q.2.1 : Int), .int .i64 (q.2.2 : Int)]) ∧ NAt w' A q.1 ∧ Below w.heap.size w w'
/-- What is asked of the program's calls. -/
structure Keeps : Prop where
  of : ∀ v p fn w, PAt w v p → chkP p = 0 → I64 fn → Calls Try.prog 7 #[v, .int .i64 fn] w (OfPost (depths p.fs fn) w)
  most : ∀ A l c w, NAt w A l → l.length ≤ 1000 → (∀ x ∈ l, I64 x) → Calls Try.prog 9 #[.slice A l.length c] w fun e w' => e = .returned (.int .i64 (most l)) ∧ Below w.heap.size w w'

/-- The program that lives makes. -/
def liP : Pg := ⟨[], [], [⟨0, 0, [(0, 0, 0), (0, 0, 0), (3, 0, 0), (21, 0, 0)]⟩, ⟨0, 0, [(21, 0, 0)]⟩]⟩
theorem chk_liP : chkP liP = 0 := by decide +kernel
theorem of_liP0 : depths liP.fs 0 = ([0, 1, 2, 1], 0, 0) := by decide +kernel
theorem of_liP1 : depths liP.fs 1 = ([], 0, 2) := by decide +kernel
theorem most_li : most [0, 1, 2, 1] = 2 := by decide +kernel
def inB4 : Obj := .cells #[.int .i64 0, .int .i64 0, .int .i64 0, .int .i64 0, .int .i64 0, .int .i64 0, .int .i64 3, .int .i64 0, .int .i64 0, .int .i64 21, .int .i64 0, .int .i64 0] 40
def inB1 : Obj := .cells #[.int .i64 21, .int .i64 0, .int .i64 0] 40
def fnB2 (g : Nat) : Obj := .cells #[.int .i64 0, .int .i64 0, .slice (some ⟨g, 0, none⟩) 4 4, .int .i64 0, .int .i64 0, .slice (some ⟨g + 1, 0, none⟩) 1 1] 37
def prB (g : Nat) : Obj := .cells #[.slice none 0 0, .slice none 0 0, .slice (some ⟨g, 0, none⟩) 2 2] 26
def liV (g : Nat) : Value := .agg #[.slice none 0 0, .slice none 0 0, .slice (some ⟨g, 0, none⟩) 2 2]
def liW (w : World) : World := (((w.alloc inB4).alloc inB1).alloc (fnB2 w.heap.size)).alloc (prB (w.heap.size + 1 + 1))
theorem liW_sizes (w : World) : (w.alloc inB4).heap.size = w.heap.size + 1 ∧ ((w.alloc inB4).alloc inB1).heap.size = w.heap.size + 1 + 1 ∧ (((w.alloc inB4).alloc inB1).alloc (fnB2 w.heap.size)).heap.size = w.heap.size + 1 + 1 + 1 := by
  refine ⟨World.size_alloc w _, ?_, ?_⟩
  · rw [World.size_alloc, World.size_alloc]
  · rw [World.size_alloc, World.size_alloc, World.size_alloc]
theorem liW_below (w : World) : Below w.heap.size w (liW w) := by
  obtain ⟨z1, z2, z3⟩ := liW_sizes w
  exact ((((Below.refl _ w).alloc (Nat.le_refl _) _).alloc (by omega) _).alloc (by omega) _).alloc (by omega) _
theorem liW_box (w : World) : (liW w).heap[w.heap.size + 1 + 1 + 1]? = some (prB (w.heap.size + 1 + 1)) := by
  obtain ⟨z1, z2, z3⟩ := liW_sizes w
  rw [← z3]
  exact heap_alloc_new _ _
theorem liW_at (w : World) : PAt (liW w) (liV (w.heap.size + 1 + 1)) liP := by
  obtain ⟨z1, z2, z3⟩ := liW_sizes w
  have b0 : (liW w).heap[w.heap.size]? = some inB4 := (Below.heap_alloc _ _ _ (by omega)).trans ((Below.heap_alloc _ _ _ (by omega)).trans ((Below.heap_alloc _ _ _ (by omega)).trans (heap_alloc_new w _)))
  have b1 : (liW w).heap[w.heap.size + 1]? = some inB1 := (Below.heap_alloc _ _ _ (by omega)).trans ((Below.heap_alloc _ _ _ (by omega)).trans (by rw [← z1]; exact heap_alloc_new _ _))
  have b2 : (liW w).heap[w.heap.size + 1 + 1]? = some (fnB2 w.heap.size) := (Below.heap_alloc _ _ _ (by omega)).trans (by rw [← z2]; exact heap_alloc_new _ _)
  refine ⟨none, none, some ⟨w.heap.size + 1 + 1, 0, none⟩, 0, 0, 2, rfl, DAt.nil _ _, WsAt.nil _ _, fun j hj => ?_⟩
  have hj2 : j < 2 := hj
  have cell : ∀ (g i : Nat) (cs : Array Value) (T : TypeId) (x : Value), (liW w).heap[g]? = some (.cells cs T) → cs[i]? = some x → (liW w).cell? ⟨g, i, none⟩ = some x := fun g i cs T x h hx => by
    unfold World.cell?
    rw [h]
    simpa using hx
  match j, hj2 with
  | 0, _ =>
    refine ⟨_, 0, some ⟨w.heap.size, 0, none⟩, 4, rfl, lt_of_block b2, ⟨cell _ _ _ _ _ b2 rfl, cell _ _ _ _ _ b2 rfl, cell _ _ _ _ _ b2 rfl⟩, fun i hi => ?_⟩
    have hi2 : i < 4 := hi
    refine ⟨_, 0, rfl, lt_of_block b0, ?_⟩
    match i, hi2 with
    | 0, _ => exact ⟨cell _ _ _ _ _ b0 rfl, cell _ _ _ _ _ b0 rfl, cell _ _ _ _ _ b0 rfl⟩
    | 1, _ => exact ⟨cell _ _ _ _ _ b0 rfl, cell _ _ _ _ _ b0 rfl, cell _ _ _ _ _ b0 rfl⟩
    | 2, _ => exact ⟨cell _ _ _ _ _ b0 rfl, cell _ _ _ _ _ b0 rfl, cell _ _ _ _ _ b0 rfl⟩
    | 3, _ => exact ⟨cell _ _ _ _ _ b0 rfl, cell _ _ _ _ _ b0 rfl, cell _ _ _ _ _ b0 rfl⟩
  | 1, _ =>
    refine ⟨_, 0, some ⟨w.heap.size + 1, 0, none⟩, 1, rfl, lt_of_block b2, ⟨cell _ _ _ _ _ b2 rfl, cell _ _ _ _ _ b2 rfl, cell _ _ _ _ _ b2 rfl⟩, fun i hi => ?_⟩
    have hi2 : i < 1 := hi
    refine ⟨_, 0, rfl, lt_of_block b1, ?_⟩
    match i, hi2 with
    | 0, _ => exact ⟨cell _ _ _ _ _ b1 rfl, cell _ _ _ _ _ b1 rfl, cell _ _ _ _ _ b1 rfl⟩

set_option maxRecDepth 100000 in
set_option maxHeartbeats 4000000 in
theorem lives_any (K : Keeps) (w : World) : Calls Try.prog 6 #[] w fun e w' => e = .returned (.bool true) ∧ Below w.heap.size w w' := by
  have HB0 := Lib.hid (liW_below w)
  have HP0 := Lib.hid (liW_at w)
  have HX0 := Lib.hid (liW_box w)
  unfold liV at HP0
  have HO0 := fun W h => Lib.hid (K.of (liV (w.heap.size + 1 + 1)) liP 0 W h chk_liP ⟨by decide, by decide⟩)
  have HO1 := fun W h => Lib.hid (K.of (liV (w.heap.size + 1 + 1)) liP 1 W h chk_liP ⟨by decide, by decide⟩)
  rw [of_liP0] at HO0
  rw [of_liP1] at HO1
  unfold OfPost liV at HO0 HO1
  have HM := fun A c W h => Lib.hid (K.most A [0, 1, 2, 1] c W h (by decide) (by intro x hx; unfold I64; simp only [List.mem_cons, List.not_mem_nil, or_false] at hx; omega))
  rw [most_li] at HM
  go_enter Try.func6, Try.ntmps6
  unfold liW inB4 inB1 fnB2 prB at HB0 HP0 HX0
  obtain ⟨x0, x1, x2, _, _, _⟩ := cells3 HX0.out
  go_upto_region 2 with fail
  generalize (((w.alloc (.cells #[.int .i64 0, .int .i64 0, .int .i64 0, .int .i64 0, .int .i64 0, .int .i64 0, .int .i64 3, .int .i64 0, .int .i64 0, .int .i64 21, .int .i64 0, .int .i64 0] 40)).alloc (.cells #[.int .i64 21, .int .i64 0, .int .i64 0] 40)).alloc (.cells #[.int .i64 0, .int .i64 0, .slice (some ⟨w.heap.size, 0, none⟩) 4 4, .int .i64 0, .int .i64 0, .slice (some ⟨w.heap.size + 1, 0, none⟩) 1 1] 37)).alloc (.cells #[.slice none 0 0, .slice none 0 0, .slice (some ⟨w.heap.size + 1 + 1, 0, none⟩) 2 2] 26) = W0 at *
  go_wp2_with fail
  refine (HO0 _ HP0.out).out.mono ?_
  rintro e w1 ⟨A, c, rfl, hN, hb1⟩
  have HB1 := Lib.hid (HB0.out.trans (hb1.mono HB0.out.size))
  have HP1 := Lib.hid (HP0.out.next hb1)
  obtain ⟨y0, y1, y2, _, _, _⟩ := cells3 ((hb1.block _ (lt_of_block HX0.out)).trans HX0.out)
  have HN := Lib.hid hN
  clear hb1 hN HB0 HP0 HX0 HO0 x0 x1 x2
  go_wp2_with fail
  refine (HO1 _ HP1.out).out.mono ?_
  rintro e w2 ⟨A2, c2, rfl, _, hb2⟩
  have HB2 := Lib.hid (HB1.out.trans (hb2.mono HB1.out.size))
  have HN2 := Lib.hid (HN.out.next hb2)
  obtain ⟨b, off, rfl, hbl, n2⟩ := HN2.out 2 (by decide)
  obtain ⟨b', off', hq, _, n3⟩ := HN2.out 3 (by decide)
  injection hq with hq
  injection hq with q1 q2
  subst q1 q2
  have n2' : w2.cell? ⟨b, off + 2, none⟩ = some (.int .i64 2) := n2
  have n3' : w2.cell? ⟨b, off + 3, none⟩ = some (.int .i64 1) := n3
  clear hb2 HN HO1 HP1 HB1 y0 y1 y2 n2 n3
  go_wp2_with fail
  refine (HM _ _ _ HN2.out).out.mono ?_
  rintro e w3 ⟨rfl, hb3⟩
  have HB3 := Lib.hid (HB2.out.trans (hb3.mono HB2.out.size))
  clear hb3
  go_wp2
  go_ret
  exact ⟨rfl, HB3.out⟩
end Go.Proofs.Ytjlmgoaglpkhoaa.pgm.dep
