/-
  Frames as they came in and lie in memory, and an array of eight numbers; the law's own test of them. No condition. The opener printed by tools/mkrefr.py out of exec's ZOps.
-/
import Derived.Test.YtlkcpplpjjbiaaaReTurn
import Derived.Deep.Slices
import Derived.OpenShut
import Derived.Below
import Derived.ChangeSame
import Derived.ChangeArms
import Derived.Carry
import Derived.ProofKit
import Derived.WideKeyArgs
namespace Go.Proofs.Ytlkcpplpjjbiaaa.reg.fri
open Go.ChangeShapes Go.WideShapes Go.RowKit
open Go.Proofs.Ytlkcpplpjjbiaaa.frames (Fr num FCells FsAt In GoodN GoodF cnt zeroF)
set_option linter.unusedVariables false
set_option linter.unusedSimpArgs false

def I64 (n : Int) : Prop := -9223372036854775808 ≤ n ∧ n ≤ 9223372036854775807
theorem cellsInt : Try.prog.cellsOf 3 = 1 := by kernel_rfl
theorem cellsFrame : Try.prog.cellsOf 56 = 27 := by kernel_rfl
theorem cells8 : Try.prog.cellsOf 39 = 8 := by kernel_rfl
theorem cells16 : Try.prog.cellsOf 54 = 16 := by kernel_rfl
theorem add_plain2 (b off i : Nat) : (⟨b, off, none⟩ : Addr).add i = ⟨b, off + i, none⟩ := Addr.add_lit ..
theorem i64_of {z : Int} (h : (Lit.int .i64 z).wf = true) : I64 z := by
  have hx : -9223372036854775808 ≤ z ∧ z ≤ 9223372036854775807 := by simpa [Lit.wf, IntKind.min, IntKind.max, IntKind.signed, IntKind.bits] using h
  exact hx
/-- Frames as they came in. -/
structure FrIn (w : World) (A : Option Addr) (c : Nat) (l : List Fr) : Prop where
  at' : FsAt w A l
  cap : l.length ≤ c
  max : c ≤ 9223372036854775807
  all : ∀ f ∈ l, f.length = 27
  nil : A = none → l = [] ∧ c = 0
theorem FrIn.next {w w' : World} {A : Option Addr} {c : Nat} {l : List Fr} (h : FrIn w A c l) (hb : Below w.heap.size w w') : FrIn w' A c l := ⟨h.at'.next hb, h.cap, h.max, h.all, h.nil⟩
theorem FrIn.ins {w : World} {A : Option Addr} {c : Nat} {l : List Fr} (h : FrIn w A c l) (hl : l.length ≤ 100) : In w A c l := ⟨h.at', h.cap, by omega, h.all, h.nil⟩
theorem split27 (cs : List Value) (h : cs.length = 27) : cs = (cs.drop 0).take 1 ++ ((cs.drop 1).take 1 ++ ((cs.drop 2).take 1 ++ ((cs.drop 3).take 8 ++ (cs.drop 11).take 16))) := by
  have e5 : (cs.drop 11).take 16 = cs.drop 11 := List.take_of_length_le (by rw [List.length_drop]; omega)
  have e4 : (cs.drop 3).take 8 ++ cs.drop 11 = cs.drop 3 := by
    have := List.take_append_drop 8 (cs.drop 3)
    rwa [List.drop_drop] at this
  have e3 : (cs.drop 2).take 1 ++ cs.drop 3 = cs.drop 2 := by
    have := List.take_append_drop 1 (cs.drop 2)
    rwa [List.drop_drop] at this
  have e2 : (cs.drop 1).take 1 ++ cs.drop 2 = cs.drop 1 := by
    have := List.take_append_drop 1 (cs.drop 1)
    rwa [List.drop_drop] at this
  have e1 : (cs.drop 0).take 1 ++ cs.drop 1 = cs := by
    rw [List.drop_zero]
    exact List.take_append_drop 1 cs
  rw [e5, e4, e3, e2, e1]

section
variable {H : Type} {enc : TypeId × Value → H} {w : World} {base : Nat} {spare : Nat → Bool} {held : Bool}
/-- An array of numbers, out of its cells. -/
theorem nums_array {t : TypeId} {k n : Nat} {cs : List Value} {y : DataW H × List MemPlace} (ht : Try.prog.underlying t = some (.array n 3)) (hc : Try.prog.cellsOf t = n) (h : DataW.trod enc Try.prog w base spare held k t cs = some y) :
    ∃ l : List Int, l.length = n ∧ cs = l.map (Value.int .i64) ∧ ∀ z ∈ l, I64 z := by
  obtain ⟨xs, m, _, hy, hlen, hxl, hi⟩ := DataW.trod_array ht h
  rw [hc] at hlen
  have each : ∀ i, ∃ z : Int, i < n → cs[i]? = some (.int .i64 z) ∧ I64 z := by
    intro i
    by_cases hin : i < n
    · have h1 := hi i hin
      rw [cellsInt, Nat.mul_one, List.getElem?_eq_getElem (by omega)] at h1
      obtain ⟨z, e0, _, w0⟩ := DataW.trod_int Try.underlying3 h1
      refine ⟨z, fun _ => ⟨?_, i64_of w0⟩⟩
      have e1 : ((cs.drop i).take 1)[0]? = some (.int .i64 z) := by rw [e0]; rfl
      rw [List.getElem?_take_of_lt (by omega), List.getElem?_drop, Nat.add_zero] at e1
      exact e1
    · exact ⟨0, fun hh => absurd hh hin⟩
  obtain ⟨z, hall⟩ : ∃ z : Nat → Int, ∀ i, i < n → cs[i]? = some (.int .i64 (z i)) ∧ I64 (z i) :=
    ⟨fun i => Classical.choose (each i), fun i hin => Classical.choose_spec (each i) hin⟩
  refine ⟨(List.range n).map z, by simp, ?_, fun x hx => ?_⟩
  · apply List.ext_getElem?
    intro i
    by_cases hin : i < n
    · rw [(hall i hin).1, List.getElem?_map, List.getElem?_map, List.getElem?_range hin]
      rfl
    · rw [List.getElem?_eq_none (by omega), List.getElem?_eq_none (by simp; omega)]
  · obtain ⟨i, hi2, rfl⟩ := List.mem_map.1 hx
    exact (hall i (List.mem_range.1 hi2)).2
set_option maxRecDepth 100000 in
/-- One frame, out of its cells. -/
theorem one_frame {n : Nat} {cs : List Value} {y : DataW H × List MemPlace} (h : DataW.trod enc Try.prog w base spare held n 56 cs = some y) :
    ∃ f : Fr, f.length = 27 ∧ cs = f.map (Value.int .i64) ∧ ∀ z ∈ f, I64 z := by
  obtain ⟨xs, m, _, hy, hlen, hxl, hf⟩ := DataW.trod_struct Try.underlying56 h
  rw [cellsFrame] at hlen
  match xs, hxl with
  | [y0, y1, y2, y3, y4], _ =>
    have f0 : DataW.trod enc Try.prog w base spare held m 3 ((cs.drop 0).take 1) = some y0 := by
      have h0 : DataW.trod enc Try.prog w base spare held m 3 ((cs.drop 0).take (Try.prog.cellsOf 3)) = some y0 := hf 0 _ rfl
      rwa [cellsInt] at h0
    have f1 : DataW.trod enc Try.prog w base spare held m 3 ((cs.drop 1).take 1) = some y1 := by
      have h1 : DataW.trod enc Try.prog w base spare held m 3 ((cs.drop 1).take (Try.prog.cellsOf 3)) = some y1 := hf 1 _ rfl
      rwa [cellsInt] at h1
    have f2 : DataW.trod enc Try.prog w base spare held m 3 ((cs.drop 2).take 1) = some y2 := by
      have h2 : DataW.trod enc Try.prog w base spare held m 3 ((cs.drop 2).take (Try.prog.cellsOf 3)) = some y2 := hf 2 _ rfl
      rwa [cellsInt] at h2
    have f3 : DataW.trod enc Try.prog w base spare held m 39 ((cs.drop 3).take 8) = some y3 := by
      have h3 : DataW.trod enc Try.prog w base spare held m 39 ((cs.drop 3).take (Try.prog.cellsOf 39)) = some y3 := hf 3 _ rfl
      rwa [cells8] at h3
    have f4 : DataW.trod enc Try.prog w base spare held m 54 ((cs.drop 11).take 16) = some y4 := by
      have h4 : DataW.trod enc Try.prog w base spare held m 54 ((cs.drop 11).take (Try.prog.cellsOf 54)) = some y4 := hf 4 _ rfl
      rwa [cells16] at h4
    obtain ⟨k0, e0, _, w0⟩ := DataW.trod_int Try.underlying3 f0
    obtain ⟨k1, e1, _, w1⟩ := DataW.trod_int Try.underlying3 f1
    obtain ⟨k2, e2, _, w2⟩ := DataW.trod_int Try.underlying3 f2
    obtain ⟨l3, h3, e3, w3⟩ := nums_array Try.underlying39 cells8 f3
    obtain ⟨l4, h4, e4, w4⟩ := nums_array Try.underlying54 cells16 f4
    refine ⟨[k0] ++ ([k1] ++ ([k2] ++ (l3 ++ l4))), by simp [h3, h4], ?_, ?_⟩
    · rw [split27 cs hlen, e0, e1, e2, e3, e4]
      simp only [List.map_append, List.map_cons, List.map_nil]
    · intro z hz
      simp only [List.mem_append, List.mem_singleton] at hz
      rcases hz with rfl | rfl | rfl | hz | hz
      · exact i64_of w0
      · exact i64_of w1
      · exact i64_of w2
      · exact w3 z hz
      · exact w4 z hz

/-- A list of frames: nil, or its frames in their order. -/
theorem open_frames {fuel : Nat} {cs : List Value} {x : DataW H × List MemPlace} (hlt : ∀ p ∈ x.2, p.block < w.heap.size) (h : DataW.trod enc Try.prog w base spare held fuel 22 cs = some x) :
    ∃ (A : Option Addr) (c : Nat) (l : List Fr), cs = [.slice A l.length c] ∧ FrIn w A c l := by
  rcases Go.Deep.open_slice Try.underlying22 h with h0 | ⟨a, len, cap, m, n, D, Pl, hcs, hb, hl, hm, hmm, hx, hi⟩
  · exact ⟨none, 0, [], h0.1, ⟨Go.Proofs.Ytlkcpplpjjbiaaa.frames.FsAt.nil _ _, Nat.le_refl _, by omega, fun f hf => (by cases hf), fun _ => ⟨rfl, rfl⟩⟩⟩
  · have hm' : cap ≤ 9223372036854775807 := by simpa [maxLen] using hm
    have hlm : len ≤ m := by rw [hmm]; split <;> omega
    have each : ∀ i, ∃ f : Fr, i < len → f.length = 27 ∧ ∀ k, k < 27 → w.cell? (a.add (i * 27 + k)) = some (.int .i64 (num f k)) := by
      intro i
      by_cases hil : i < len
      · obtain ⟨cs', hc, ht⟩ := hi i (by omega)
        obtain ⟨f, h27, he, hwf⟩ := one_frame ht
        obtain ⟨_, _, hat⟩ := World.cells?_some hc
        rw [cellsFrame] at hat
        subst he
        refine ⟨f, fun _ => ⟨h27, fun k hk => ?_⟩⟩
        have a0 := hat k hk
        rw [Go.Deep.add_add] at a0
        rw [a0, List.getElem?_map, List.getElem?_eq_getElem (by omega)]
        unfold num
        rw [List.getD_eq_getElem?_getD, List.getElem?_eq_getElem (by omega)]
        rfl
      · exact ⟨[], fun hh => absurd hh hil⟩
    obtain ⟨fs, hall⟩ : ∃ fs : Nat → Fr, ∀ i, i < len → (fs i).length = 27 ∧ ∀ k, k < 27 → w.cell? (a.add (i * 27 + k)) = some (.int .i64 (num (fs i) k)) :=
      ⟨fun i => Classical.choose (each i), fun i hil => Classical.choose_spec (each i) hil⟩
    have hlen : ((List.range len).map fs).length = len := by simp
    refine ⟨some a, cap, (List.range len).map fs, by rw [hlen]; exact hcs, ⟨fun j hj => ?_, by rw [hlen]; exact hl, hm', fun f hf => ?_, fun h => (by cases h)⟩⟩
    · rw [hlen] at hj
      have hbl : a.block < w.heap.size := by
        refine hlt (.cell a.block a.off) ?_
        rw [hx]
        exact List.mem_append_left _ (MemPlace.mem_row.2 ⟨0, by rw [cellsFrame]; omega, by simp⟩)
      obtain ⟨b, off, spot⟩ := a
      have hspot : spot = none := by simpa [Addr.add] using World.cell?_spot ((hall 0 (by omega)).2 0 (by omega))
      subst hspot
      refine ⟨b, off, rfl, hbl, fun k hk => ?_⟩
      have h1 := (hall j (by omega)).2 k hk
      rw [add_plain2] at h1
      rw [List.getD_eq_getElem?_getD, List.getElem?_map, List.getElem?_range hj, Nat.add_assoc]
      exact h1
    · obtain ⟨i, hi2, rfl⟩ := List.mem_map.1 hf
      exact (hall i (by have := List.mem_range.1 hi2; omega)).1
/-- An array of eight numbers that came in. -/
theorem open_eight {n : Nat} {cs : List Value} {y : DataW H × List MemPlace} (h : DataW.trod enc Try.prog w base spare held n 39 cs = some y) : ∃ l : List Int, l.length = 8 ∧ cs = l.map (Value.int .i64) ∧ ∀ z ∈ l, I64 z :=
  nums_array Try.underlying39 cells8 h
end
/-- What the test answers. -/
def GoodP (l : List Fr) (w : World) (e : Ending) (w' : World) : Prop := ∃ r, e = .returned (.bool r) ∧ (r = true → GoodN l) ∧ w = w'
set_option maxRecDepth 100000 in
set_option maxHeartbeats 2000000 in
/-- The law's own test of frames. -/
theorem good_any (A : Option Addr) (c : Nat) (l : List Fr) (w : World) (hI : FrIn w A c l) :
    Calls Try.prog 6 #[.slice A l.length c] w (GoodP l w) := by
  have HI := Lib.hid hI.at'
  have HA := Lib.hid hI.all
  have hmax : l.length ≤ 9223372036854775807 := Nat.le_trans hI.cap hI.max
  clear hI
  go_enter Try.func6, Try.ntmps6
  go_wp2
  go_loop [3] (fun i => ∃ k : Nat, i = .int .i64 (k : Int) ∧ k ≤ l.length ∧ Hid (∀ j, j < k → 0 ≤ cnt (l.getD j zeroF) ∧ cnt (l.getD j zeroF) ≤ 16)) (fun i => l.length - (intOf i).toNat)
  case atStart => exact ⟨0, rfl, Nat.zero_le _, Lib.hid fun j h => absurd h (Nat.not_lt_zero _)⟩
  case round =>
    obtain ⟨k, rfl, hk, HR⟩ := hrel
    by_cases hlt : k < l.length
    · have HK : Hid (k + 1 ≤ l.length) := Lib.hid hlt
      obtain ⟨b, off, rfl, _, hc⟩ := HI.out k hlt
      have c2 := hc 2 (by decide)
      have hw1 : wrap64 ((k : Int) + 1) = (k : Int) + 1 := IntWalk.wrap64_in _ (by omega)
      have hw2 : IntKind.i64.wrap ((k : Int) + 1) = (k : Int) + 1 := by rw [IntWalk.i64_left, hw1]
      have k0 : (0 : Int) ≤ (k : Int) := by omega
      have k1 : (k : Int) < (l.length : Int) := by omega
      have HR2 : Hid (0 ≤ num (l.getD k zeroF) 2 → num (l.getD k zeroF) 2 ≤ 16 → ∀ j, j < k + 1 → 0 ≤ cnt (l.getD j zeroF) ∧ cnt (l.getD j zeroF) ≤ 16) := Lib.hid fun h1 h2 j hj => by
        by_cases e : j = k
        · rw [e]; exact ⟨h1, h2⟩
        · exact HR.out j (by omega)
      generalize num (l.getD k zeroF) 2 = x at *
      clear hc hlt hk HR
      by_cases hx0 : x < 0
      · have d0 : decide (x < 0) = true := decide_eq_true hx0
        clear HR2
        go_wp2_with fail
        go_ret
        exact ⟨_, rfl, (fun h => by cases h), rfl⟩
      · have d0 : decide (x < 0) = false := decide_eq_false hx0
        by_cases hx1 : 16 < x
        · have d1 : decide (x > 16) = true := decide_eq_true hx1
          have d2 : decide (16 < x) = true := decide_eq_true hx1
          clear HR2
          go_wp2_with fail
          go_ret
          exact ⟨_, rfl, (fun h => by cases h), rfl⟩
        · have d1 : decide (x > 16) = false := decide_eq_false hx1
          have d2 : decide (16 < x) = false := decide_eq_false hx1
          have HR3 := Lib.hid (HR2.out (by omega) (by omega))
          clear HR2 hx0 hx1
          go_wp2_with fail
          go_round
          case rel => exact ⟨k + 1, by go_num, HK.out, HR3⟩
          case measure => have := HK.out; simp [intOf, hw1]; omega
    · obtain rfl : k = l.length := by omega
      have HG : Hid (∀ r, r = decide ((l.length : Int) ≤ 100) → r = true → GoodN l) := Lib.hid fun r h1 h2 => by
        rw [h1] at h2
        have h3 := of_decide_eq_true h2
        refine ⟨by omega, fun f hf => ?_⟩
        obtain ⟨j, hj, rfl⟩ := List.getElem_of_mem hf
        have h4 := HR.out j hj
        rw [List.getD_eq_getElem?_getD, List.getElem?_eq_getElem hj] at h4
        exact ⟨HA.out _ hf, h4.1, h4.2⟩
      obtain ⟨r, hr⟩ : ∃ r, r = decide ((l.length : Int) ≤ 100) := ⟨_, rfl⟩
      have HG2 := Lib.hid (HG.out r hr)
      have hr2 : decide ((l.length : Int) ≤ 100) = r := hr.symm
      clear HG hr HR HA HI hk hlt hmax
      go_wp2_with fail
      go_ret
      exact ⟨r, by simp [hr2], HG2.out, rfl⟩
end Go.Proofs.Ytlkcpplpjjbiaaa.reg.fri
