/-
  Texts of one claim in one file: ZOdd, ZOps, FLast, FChange, FRefDo, FSpec, WProg. Each has its own sentence, with its conditions.
-/
import Derived.Test.YtjbcmedljgafkaaDoorZq36
import Derived.Test.YtjbcmedljgafkaaDoorZq38
import Derived.Test.YtjbcmedljgafkaaDoorZq6
import Derived.Test.YtjbcmedljgafkaaDoorZq12
import Derived.Lib.SliceRun
import Derived.Test.YtjbcmedljgafkaaDoorZq16
import Derived.Test.YtjbcmedljgafkaaDoorZq2
/-
  Which operations ask nothing, and that nothing panics, whatever frames, of whatever program: the walks over what is asked of the program's calls. No condition but that the arguments came in.
-/

namespace Go.Proofs.YtjbcmedljgafkaaDoor.pgm.exe
open Go.RowKit Go.ChangeShapes
open Go.Proofs.YtjbcmedljgafkaaDoor.pgm
open Go.Proofs.YtjbcmedljgafkaaDoor.objs (De zero DAt cells3)
open Go.Proofs.YtjbcmedljgafkaaDoor.frames (Fr num In zeroF refSame_yes)
set_option linter.unusedVariables false
set_option linter.unusedSimpArgs false

theorem own_in {w : World} {base c : Nat} {A : Option Addr} {l : List Fr} (h : Go.Proofs.YtjbcmedljgafkaaDoor.frames.Own w base (.slice A l.length c) l) (hl : l.length ≤ 1000) (ha : ∀ f ∈ l, f.length = 27) : In w A c l := by
  refine ⟨h.at, h.cap, hl, ha, fun e => ?_⟩
  subst e
  rcases h.2 with ⟨e, h0⟩ | ⟨g, cap', cur, e, _⟩
  · injection e with e1 e2 e3
    exact ⟨List.eq_nil_of_length_eq_zero h0, e3⟩
  · cases e

set_option maxRecDepth 100000 in
set_option maxHeartbeats 4000000 in
theorem pure_walk {Ok : World → Prop} (K : Keeps Ok) (n : Int) (w : World) (hw : Ok w) (hn : I64 n) : Calls Tryd.prog 6 #[.int .i64 n] w fun e w' => e = .returned (.bool true) ∧ Below w.heap.size w w' := by
  have HP := Lib.hid (K.pure n w hw hn)
  have HL := fun W h => Lib.hid (lives_any K W h)
  have HM := Lib.hid K.mono
  have HO := Lib.hid hw
  clear K hw hn
  by_cases h1 : 0 ≤ n
  · have q1 : decide (n ≥ 0) = true := decide_eq_true h1
    by_cases h2 : n ≤ 23
    · have q2 : decide (n ≤ 23) = true := decide_eq_true h2
      rw [decide_eq_true ⟨h1, h2⟩] at HP
      clear h1 h2
      go_enter Tryd.func6, Tryd.ntmps6
      go_wp2_with fail
      refine HP.out.mono ?_
      rintro _ w1 ⟨rfl, hb1⟩
      have HB := Lib.hid hb1
      have HL1 := HL w1 (HM.out _ _ HO.out hb1)
      clear hb1 HL
      go_wp2_with fail
      refine HL1.out.mono ?_
      rintro _ w2 ⟨rfl, hb2⟩
      have HB2 := Lib.hid (HB.out.trans (hb2.mono HB.out.size))
      clear hb2
      go_wp2
      go_ret
      exact ⟨rfl, HB2.out⟩
    · have q2 : decide (n ≤ 23) = false := decide_eq_false h2
      rw [decide_eq_false (fun h => h2 h.2)] at HP
      clear h1 h2
      go_enter Tryd.func6, Tryd.ntmps6
      go_wp2_with fail
      refine HP.out.mono ?_
      rintro _ w1 ⟨rfl, hb1⟩
      have HB := Lib.hid hb1
      have HL1 := HL w1 (HM.out _ _ HO.out hb1)
      clear hb1 HL
      go_wp2_with fail
      refine HL1.out.mono ?_
      rintro _ w2 ⟨rfl, hb2⟩
      have HB2 := Lib.hid (HB.out.trans (hb2.mono HB.out.size))
      clear hb2
      go_wp2
      go_ret
      exact ⟨rfl, HB2.out⟩
  · have q1 : decide (n ≥ 0) = false := decide_eq_false h1
    rw [decide_eq_false (fun h => h1 h.1)] at HP
    clear h1
    go_enter Tryd.func6, Tryd.ntmps6
    go_wp2_with fail
    refine HP.out.mono ?_
    rintro _ w1 ⟨rfl, hb1⟩
    have HB := Lib.hid hb1
    have HL1 := HL w1 (HM.out _ _ HO.out hb1)
    clear hb1 HL
    go_wp2_with fail
    refine HL1.out.mono ?_
    rintro _ w2 ⟨rfl, hb2⟩
    have HB2 := Lib.hid (HB.out.trans (hb2.mono HB.out.size))
    clear hb2
    go_wp2
    go_ret
    exact ⟨rfl, HB2.out⟩

/-- Frames that came in: the first twenty of a slice. -/
structure Fin (w : World) (A : Option Addr) (n c : Nat) (l : List Fr) : Prop where
  at' : Go.Proofs.YtjbcmedljgafkaaDoor.frames.FsAt w A l
  len : l.length = min n 20
  cap : n ≤ c
  big : c ≤ 9223372036854775807
  all : ∀ f ∈ l, f.length = 27
  ints : ∀ f ∈ l, ∀ k, k < 27 → I64 (num f k)
  nil : A = none → n = 0 ∧ c = 0

theorem small_of {w : World} {v : Value} {p : Pg} (h : PG w v p) : Small p := by
  obtain ⟨A0, B0, C0, na, nb, nc, ca, cb, cc, -, -, -, -, ⟨h1, h2⟩, -⟩ := h
  refine ⟨by omega, fun f hf => ?_⟩
  obtain ⟨i, hi, rfl⟩ := List.getElem_of_mem hf
  obtain ⟨b, off, Aj, nj, cj, -, -, -, -, hl, -⟩ := h2 i hi
  rw [List.getD_eq_getElem?_getD, List.getElem?_eq_getElem hi] at hl
  have : p.fs[i].co.length = min nj 250 := hl
  omega

set_option maxRecDepth 100000 in
set_option maxHeartbeats 8000000 in
theorem odd_walk {Ok : World → Prop} (K : Keeps Ok) (v : Value) (p : Pg) (A : Option Addr) (n c : Nat) (l : List Fr) (self : Int) (w : World) (hw : Ok w) (hv : PG w v p) (hl : Fin w A n c l) (hs : I64 self) :
    Calls Tryd.prog 5 #[v, .slice A n c, .int .i64 self] w fun e w' => e = .returned (.bool true) ∧ Below w.heap.size w w' := by
  have hI : In w A c l := ⟨hl.at', by have := hl.len; have := hl.cap; omega, by have := hl.len; omega, hl.all, fun e => by
    have h1 := hl.nil e
    exact ⟨List.eq_nil_of_length_eq_zero (by rw [hl.len, h1.1]; rfl), h1.2⟩⟩
  have hn20 : l.length ≤ 20 := by have := hl.len; omega
  have HI := Lib.hid hI
  have HLl := Lib.hid hl
  have HOd := fun v' W h1 h2 h3 => Lib.hid (K.odd v' p A c l self W h1 h2 (small_of hv) h3 hn20 hl.ints hs)
  have HL := fun W h => Lib.hid (lives_any K W h)
  have HM := Lib.hid K.mono
  have HO := Lib.hid hw
  have HV := Lib.hid hv
  have HOw := fun v W h => Lib.hid (own10_any v p W h)
  unfold OwnPost10 at HOw
  obtain ⟨A0, B0, C0, na, nb, nc, ca, cb, cc, hve, -⟩ := id hv
  subst hve
  have H0 : Hid (Below w.heap.size w (w.alloc (.cells #[.slice A0 na ca, .slice B0 nb cb, .slice C0 nc cc] 26)) ∧ (w.alloc (.cells #[.slice A0 na ca, .slice B0 nb cb, .slice C0 nc cc] 26)).heap[w.heap.size]? = some (.cells #[.slice A0 na ca, .slice B0 nb cb, .slice C0 nc cc] 26 (0, 0))) := Lib.hid ⟨(Below.refl _ w).alloc (Nat.le_refl _) _, heap_alloc_new w _⟩
  have hnc := hl.cap
  have hcb := hl.big
  have hlen := hl.len
  have HNl := Lib.hid hlen
  have HSl := Lib.hid hn20
  clear K hw hv hI hl hs hn20
  go_enter Tryd.func5, Tryd.ntmps5
  go_upto_if 10 with fail
  generalize w.alloc (.cells #[.slice A0 na ca, .slice B0 nb cb, .slice C0 nc cc] 26) = W0 at *
  go_cut [1] (fun x wx => x = .slice A l.length c ∧ wx = W0)
  case first =>
    by_cases h20 : 20 < n
    · have q1 : decide ((n : Int) > 20) = true := decide_eq_true (by omega)
      have q1' : decide (20 < n) = true := decide_eq_true h20
      have e20 : Hid (l.length = 20) := Lib.hid (by omega)
      have k1 : (20 : Int) ≤ (c : Int) := by omega
      have k2 : 20 ≤ c := by omega
      clear hlen
      go_wp2_with fail
      go_meet
      exact ⟨by rw [e20.out], rfl⟩
    · have q1 : decide ((n : Int) > 20) = false := decide_eq_false (by omega)
      have q1' : decide (20 < n) = false := decide_eq_false h20
      have en : Hid (l.length = n) := Lib.hid (by omega)
      clear hlen
      go_wp2_with fail
      go_meet
      exact ⟨by rw [en.out], rfl⟩
  case rest =>
    obtain ⟨rfl, rfl⟩ := hcut
    have HE := Lib.hid (heap_alloc_new wc (.cells #[] 45))
    have HBe := Lib.hid ((Below.refl wc.heap.size wc).alloc (Nat.le_refl _) (.cells #[] 45))
    clear hlen hnc hcb
    go_wp2_with (at_builtin; go_must (refine Go.Proofs.YtjbcmedljgafkaaDoor.frames.wpList_appF (by rfl) (.tmp 13) (.tmp 14) (by rfl) wc.heap.size l.length c (.slice (some ⟨wc.heap.size, 0, none⟩) 0 0) A [] l (by rfl) (Go.Proofs.YtjbcmedljgafkaaDoor.frames.Own.empty HE.out) (by rfl) rfl (fun h => HI.out.nil h) ((HI.out.next H0.out.1).at'.next HBe.out) (by have := HSl.out; simp; omega) (by simp) ?_))
    intro v' w2 h1 h2
    have HB2 : Hid (Below wc.heap.size wc w2) := Lib.hid (HBe.out.grown h2 (by simp) (fun k e => by simp [Value.ownBlock] at e; omega))
    try rw [List.nil_append] at h1
    obtain ⟨A2, c2, rfl⟩ := h1.slice
    have H2 : Hid (Below w.heap.size w w2 ∧ w2.heap[w.heap.size]? = some (.cells #[.slice A0 na ca, .slice B0 nb cb, .slice C0 nc cc] 26 (0, 0)) ∧ In w2 A2 c2 l) := Lib.hid ⟨H0.out.1.trans (HB2.out.mono H0.out.1.size), (HB2.out.block _ (lt_of_block H0.out.2)).trans H0.out.2, own_in h1 (by have := HSl.out; omega) HLl.out.all⟩
    clear h1 h2 HE HBe HB2 H0
    obtain ⟨x0, x1, x2, -, -, -⟩ := cells3 H2.out.2.1
    go_wp2_with fail
    refine (HOw _ _ (HV.out.next H2.out.1)).out.mono ?_
    rintro _ w3 ⟨v3, rfl, hst, hb3⟩
    have H3 : Hid (Below w.heap.size w w3 ∧ In w3 A2 c2 l ∧ PAt w3 v3 p) := Lib.hid ⟨H2.out.1.trans (hb3.mono H2.out.1.size), H2.out.2.2.next hb3, hst.now.1⟩
    clear hst hb3 H2 HOw x0 x1 x2
    have HOd3 := HOd v3 w3 (HM.out _ _ HO.out H3.out.1) H3.out.2.2 (HI.out.next H3.out.1)
    clear HOd
    go_wp2_with fail
    refine HOd3.out.mono ?_
    rintro _ w4 ⟨⟨u, rfl⟩, hb4⟩
    have H4 : Hid (Below w.heap.size w w4 ∧ In w4 A2 c2 l) := Lib.hid ⟨H3.out.1.trans (hb4.mono H3.out.1.size), H3.out.2.1.next hb4⟩
    have HSm := Lib.hid (refSame_yes A A2 c c2 l w4 (HI.out.next H4.out.1).at' H4.out.2.at' HI.out.len)
    clear hb4 H3 HOd3
    go_wp2_with fail
    refine HSm.out.mono ?_
    rintro _ w5 ⟨rfl, hb5⟩
    have H5 := Lib.hid (H4.out.1.trans (hb5.mono H4.out.1.size))
    have HL5 := HL w5 (HM.out _ _ HO.out H5.out)
    clear hb5 HSm H4 HL
    go_wp2_with fail
    refine HL5.out.mono ?_
    rintro _ w6 ⟨rfl, hb6⟩
    have H6 := Lib.hid (H5.out.trans (hb6.mono H5.out.size))
    clear hb6
    go_wp2
    go_ret
    exact ⟨rfl, H6.out⟩
end Go.Proofs.YtjbcmedljgafkaaDoor.pgm.exe

/-
  Where one begins, and frames, as they came in and lie in memory: of a long list of frames the first twenty. No condition.
-/

namespace Go.Proofs.YtjbcmedljgafkaaDoor.pgm.exe
open Go.ChangeShapes Go.WideShapes Go.RowKit
open Go.Proofs.YtjbcmedljgafkaaDoor.pgm
open Go.Proofs.YtjbcmedljgafkaaDoor.frames (Fr num FCells)
open Go.Proofs.YtjbcmedljgafkaaDoor.nums (open_nums NAt)
set_option linter.unusedVariables false

theorem cellsInt : Tryd.prog.cellsOf 3 = 1 := by kernel_rfl
theorem cellsNums : Tryd.prog.cellsOf 27 = 1 := by kernel_rfl
theorem cellsStart : Tryd.prog.cellsOf 29 = 5 := by kernel_rfl
theorem cellsFrame : Tryd.prog.cellsOf 45 = 27 := by kernel_rfl
theorem cells8 : Tryd.prog.cellsOf 42 = 8 := by kernel_rfl
theorem cells16 : Tryd.prog.cellsOf 43 = 16 := by kernel_rfl
theorem add_plain2 (b off i : Nat) : (⟨b, off, none⟩ : Addr).add i = ⟨b, off + i, none⟩ := Addr.add_lit ..
theorem i64_of {z : Int} (h : (Lit.int .i64 z).wf = true) : I64 z := by
  have hx : -9223372036854775808 ≤ z ∧ z ≤ 9223372036854775807 := by simpa [Lit.wf, IntKind.min, IntKind.max, IntKind.signed, IntKind.bits] using h
  exact hx
theorem split27 (cs : List Value) (h : cs.length = 27) : cs = (cs.drop 0).take 1 ++ ((cs.drop 1).take 1 ++ ((cs.drop 2).take 1 ++ ((cs.drop 3).take 8 ++ (cs.drop 11).take 16))) := by
  have e5 : (cs.drop 11).take 16 = cs.drop 11 := List.take_of_length_le (by rw [List.length_drop]; omega)
  have e4 : (cs.drop 3).take 8 ++ cs.drop 11 = cs.drop 3 := by
    have := List.take_append_drop 8 (cs.drop 3)
    rwa [List.drop_drop] at this
  have e3 : (cs.drop 2).take 1 ++ cs.drop 3 = cs.drop 2 := by
    have := List.take_append_drop 1 (cs.drop 2)
    rwa [List.drop_drop] at this
  have e2 : (cs.drop 1).take 1 ++ cs.drop 2 = cs.drop 1 := by
    have := List.take_append_drop 1 (cs.drop 1)
    rwa [List.drop_drop] at this
  have e1 : (cs.drop 0).take 1 ++ cs.drop 1 = cs := by
    rw [List.drop_zero]
    exact List.take_append_drop 1 cs
  rw [e5, e4, e3, e2, e1]

section
variable {H : Type} {enc : TypeId × Value → H} {w : World} {base : Nat} {spare : Nat → Bool} {held : Bool}
/-- An array of numbers, out of its cells. -/
theorem nums_array {t : TypeId} {k n : Nat} {cs : List Value} {y : DataW H × List MemPlace} (ht : Tryd.prog.underlying t = some (.array n 3)) (hc : Tryd.prog.cellsOf t = n) (h : DataW.trod enc Tryd.prog w base spare held k t cs = some y) :
    ∃ l : List Int, l.length = n ∧ cs = l.map (Value.int .i64) ∧ ∀ z ∈ l, I64 z := by
  obtain ⟨xs, m, _, hy, hlen, hxl, hi⟩ := DataW.trod_array ht h
  rw [hc] at hlen
  have each : ∀ i, ∃ z : Int, i < n → cs[i]? = some (.int .i64 z) ∧ I64 z := by
    intro i
    by_cases hin : i < n
    · have h1 := hi i hin
      rw [cellsInt, Nat.mul_one, List.getElem?_eq_getElem (by omega)] at h1
      obtain ⟨z, e0, _, w0⟩ := DataW.trod_int Tryd.underlying3 h1
      refine ⟨z, fun _ => ⟨?_, i64_of w0⟩⟩
      have e1 : ((cs.drop i).take 1)[0]? = some (.int .i64 z) := by rw [e0]; rfl
      rw [List.getElem?_take_of_lt (by omega), List.getElem?_drop, Nat.add_zero] at e1
      exact e1
    · exact ⟨0, fun hh => absurd hh hin⟩
  obtain ⟨z, hall⟩ : ∃ z : Nat → Int, ∀ i, i < n → cs[i]? = some (.int .i64 (z i)) ∧ I64 (z i) :=
    ⟨fun i => Classical.choose (each i), fun i hin => Classical.choose_spec (each i) hin⟩
  refine ⟨(List.range n).map z, by simp, ?_, fun x hx => ?_⟩
  · apply List.ext_getElem?
    intro i
    by_cases hin : i < n
    · rw [(hall i hin).1, List.getElem?_map, List.getElem?_map, List.getElem?_range hin]
      rfl
    · rw [List.getElem?_eq_none (by omega), List.getElem?_eq_none (by simp; omega)]
  · obtain ⟨i, hi2, rfl⟩ := List.mem_map.1 hx
    exact (hall i (List.mem_range.1 hi2)).2
set_option maxRecDepth 100000 in
/-- One frame, out of its cells. -/
theorem one_frame {n : Nat} {cs : List Value} {y : DataW H × List MemPlace} (h : DataW.trod enc Tryd.prog w base spare held n 45 cs = some y) :
    ∃ f : Fr, f.length = 27 ∧ cs = f.map (Value.int .i64) ∧ ∀ z ∈ f, I64 z := by
  obtain ⟨xs, m, _, hy, hlen, hxl, hf⟩ := DataW.trod_struct Tryd.underlying45 h
  rw [cellsFrame] at hlen
  match xs, hxl with
  | [y0, y1, y2, y3, y4], _ =>
    have f0 : DataW.trod enc Tryd.prog w base spare held m 3 ((cs.drop 0).take 1) = some y0 := by
      have h0 : DataW.trod enc Tryd.prog w base spare held m 3 ((cs.drop 0).take (Tryd.prog.cellsOf 3)) = some y0 := hf 0 _ rfl
      rwa [cellsInt] at h0
    have f1 : DataW.trod enc Tryd.prog w base spare held m 3 ((cs.drop 1).take 1) = some y1 := by
      have h1 : DataW.trod enc Tryd.prog w base spare held m 3 ((cs.drop 1).take (Tryd.prog.cellsOf 3)) = some y1 := hf 1 _ rfl
      rwa [cellsInt] at h1
    have f2 : DataW.trod enc Tryd.prog w base spare held m 3 ((cs.drop 2).take 1) = some y2 := by
      have h2 : DataW.trod enc Tryd.prog w base spare held m 3 ((cs.drop 2).take (Tryd.prog.cellsOf 3)) = some y2 := hf 2 _ rfl
      rwa [cellsInt] at h2
    have f3 : DataW.trod enc Tryd.prog w base spare held m 42 ((cs.drop 3).take 8) = some y3 := by
      have h3 : DataW.trod enc Tryd.prog w base spare held m 42 ((cs.drop 3).take (Tryd.prog.cellsOf 42)) = some y3 := hf 3 _ rfl
      rwa [cells8] at h3
    have f4 : DataW.trod enc Tryd.prog w base spare held m 43 ((cs.drop 11).take 16) = some y4 := by
      have h4 : DataW.trod enc Tryd.prog w base spare held m 43 ((cs.drop 11).take (Tryd.prog.cellsOf 43)) = some y4 := hf 4 _ rfl
      rwa [cells16] at h4
    obtain ⟨k0, e0, _, w0⟩ := DataW.trod_int Tryd.underlying3 f0
    obtain ⟨k1, e1, _, w1⟩ := DataW.trod_int Tryd.underlying3 f1
    obtain ⟨k2, e2, _, w2⟩ := DataW.trod_int Tryd.underlying3 f2
    obtain ⟨l3, h3, e3, w3⟩ := nums_array Tryd.underlying42 cells8 f3
    obtain ⟨l4, h4, e4, w4⟩ := nums_array Tryd.underlying43 cells16 f4
    refine ⟨[k0] ++ ([k1] ++ ([k2] ++ (l3 ++ l4))), by simp [h3, h4], ?_, ?_⟩
    · rw [split27 cs hlen, e0, e1, e2, e3, e4]
      simp only [List.map_append, List.map_cons, List.map_nil]
    · intro z hz
      simp only [List.mem_append, List.mem_singleton] at hz
      rcases hz with rfl | rfl | rfl | hz | hz
      · exact i64_of w0
      · exact i64_of w1
      · exact i64_of w2
      · exact w3 z hz
      · exact w4 z hz

/-- A list of frames: nil, or its frames in their order; of a long one the first twenty. -/
theorem open_frames {fuel : Nat} {cs : List Value} {x : DataW H × List MemPlace} (hlt : ∀ p ∈ x.2, p.block < w.heap.size) (h : DataW.trod enc Tryd.prog w base spare held fuel 30 cs = some x) :
    ∃ (A : Option Addr) (n c : Nat) (l : List Fr), cs = [.slice A n c] ∧ Fin w A n c l := by
  rcases Go.Deep.open_slice Tryd.underlying30 h with h0 | ⟨a, len, cap, m, n, D, Pl, hcs, hb, hl, hm, hmm, hx, hi⟩
  · exact ⟨none, 0, 0, [], h0.1, ⟨Go.Proofs.YtjbcmedljgafkaaDoor.frames.FsAt.nil _ _, rfl, Nat.le_refl _, by omega, fun f hf => (by cases hf), fun f hf => (by cases hf), fun _ => ⟨rfl, rfl⟩⟩⟩
  · have hm' : cap ≤ 9223372036854775807 := by simpa [maxLen] using hm
    have hlm : len ≤ m := by rw [hmm]; split <;> omega
    have each : ∀ i, ∃ f : Fr, i < len → f.length = 27 ∧ (∀ z ∈ f, I64 z) ∧ ∀ k, k < 27 → w.cell? (a.add (i * 27 + k)) = some (.int .i64 (num f k)) := by
      intro i
      by_cases hil : i < len
      · obtain ⟨cs', hc, ht⟩ := hi i (by omega)
        obtain ⟨f, h27, he, hwf⟩ := one_frame ht
        obtain ⟨_, _, hat⟩ := World.cells?_some hc
        rw [cellsFrame] at hat
        subst he
        refine ⟨f, fun _ => ⟨h27, hwf, fun k hk => ?_⟩⟩
        have a0 := hat k hk
        rw [Go.Deep.add_add] at a0
        rw [a0, List.getElem?_map, List.getElem?_eq_getElem (by omega)]
        unfold num
        rw [List.getD_eq_getElem?_getD, List.getElem?_eq_getElem (by omega)]
        rfl
      · exact ⟨[], fun hh => absurd hh hil⟩
    obtain ⟨fs, hall⟩ : ∃ fs : Nat → Fr, ∀ i, i < len → (fs i).length = 27 ∧ (∀ z ∈ fs i, I64 z) ∧ ∀ k, k < 27 → w.cell? (a.add (i * 27 + k)) = some (.int .i64 (num (fs i) k)) :=
      ⟨fun i => Classical.choose (each i), fun i hil => Classical.choose_spec (each i) hil⟩
    have hlen : ((List.range (min len 20)).map fs).length = min len 20 := by simp
    refine ⟨some a, len, cap, (List.range (min len 20)).map fs, hcs, ⟨fun j hj => ?_, hlen, hl, hm', fun f hf => ?_, fun f hf k hk => ?_, fun h => (by cases h)⟩⟩
    · rw [hlen] at hj
      have hbl : a.block < w.heap.size := by
        refine hlt (.cell a.block a.off) ?_
        rw [hx]
        exact List.mem_append_left _ (MemPlace.mem_row.2 ⟨0, by rw [cellsFrame]; omega, by simp⟩)
      obtain ⟨b, off, spot⟩ := a
      have hspot : spot = none := by simpa [Addr.add] using World.cell?_spot ((hall 0 (by omega)).2.2 0 (by omega))
      subst hspot
      refine ⟨b, off, rfl, hbl, fun k hk => ?_⟩
      have h1 := (hall j (by omega)).2.2 k hk
      rw [add_plain2] at h1
      rw [List.getD_eq_getElem?_getD, List.getElem?_map, List.getElem?_range hj, Nat.add_assoc]
      exact h1
    · obtain ⟨i, hi2, rfl⟩ := List.mem_map.1 hf
      exact (hall i (by have := List.mem_range.1 hi2; omega)).1
    · obtain ⟨i, hi2, rfl⟩ := List.mem_map.1 hf
      have hq := hall i (by have := List.mem_range.1 hi2; omega)
      unfold num
      rw [List.getD_eq_getElem?_getD, List.getElem?_eq_getElem (by omega)]
      exact hq.2.1 _ (List.getElem_mem _)

set_option maxRecDepth 100000 in
/-- Where one begins. -/
theorem open_start {n : Nat} {cs : List Value} {y : DataW H × List MemPlace} (h : DataW.trod enc Tryd.prog w base spare held n 29 cs = some y) :
    ∃ (s : St) (B : Option Addr) (c : Nat), cs = [.int .i64 s.fn, .slice B s.args.length c, .int .i64 s.steps, .int .i64 s.self, .int .i64 s.now] ∧ NAt w B s.args ∧ I64 s.self ∧ I64 s.now := by
  obtain ⟨xs, m, _, hy, hlen, hxl, hf⟩ := DataW.trod_struct Tryd.underlying29 h
  rw [cellsStart] at hlen
  match cs, hlen with
  | [v0, v1, v2, v3, v4], _ =>
    match xs, hxl with
    | [y0, y1, y2, y3, y4], _ =>
      have f0 : DataW.trod enc Tryd.prog w base spare held m 3 [v0] = some y0 := by simpa [cellsInt] using hf 0 _ rfl
      have f1 : DataW.trod enc Tryd.prog w base spare held m 27 [v1] = some y1 := by simpa [cellsNums] using hf 1 _ rfl
      have f2 : DataW.trod enc Tryd.prog w base spare held m 3 [v2] = some y2 := by simpa [cellsInt] using hf 2 _ rfl
      have f3 : DataW.trod enc Tryd.prog w base spare held m 3 [v3] = some y3 := by simpa [cellsInt] using hf 3 _ rfl
      have f4 : DataW.trod enc Tryd.prog w base spare held m 3 [v4] = some y4 := by simpa [cellsInt] using hf 4 _ rfl
      obtain ⟨k0, e0, _, w0⟩ := DataW.trod_int Tryd.underlying3 f0
      obtain ⟨B, n1, c1, l, e1, a1, a2, a3, a4, a5, a6⟩ := open_nums f1
      obtain ⟨k2, e2, _, w2⟩ := DataW.trod_int Tryd.underlying3 f2
      obtain ⟨k3, e3, _, w3⟩ := DataW.trod_int Tryd.underlying3 f3
      obtain ⟨k4, e4, _, w4⟩ := DataW.trod_int Tryd.underlying3 f4
      simp only [List.cons.injEq, and_true] at e0 e1 e2 e3 e4
      subst a4
      exact ⟨⟨k0, l, k2, k3, k4⟩, B, c1, by rw [e0, e1, e2, e3, e4], a5, i64_of w3, i64_of w4⟩
end
end Go.Proofs.YtjbcmedljgafkaaDoor.pgm.exe

/-
  The program's own last frame, frames that are cloned, and frames the last of which is another one. At most a thousand frames, each of twenty-seven numbers.
-/

namespace Go.Proofs.YtjbcmedljgafkaaDoor.frames
open Go.RowKit Go.ChangeShapes
set_option linter.unusedVariables false
set_option linter.unusedSimpArgs false

section
variable {ops : Array Oper} {rest : List Oper} {o : Oper} {a : Act} {w : World} {Q : Exit → Act → World → Prop} {K : Act → World → Prop}
theorem wl_storeG (hgd : o.guard = none) (x y : Operand) (ho : o.op = .store 45 x y) (g : Nat) (f0 f : Fr) (hx : a.eval x = .pointer (some ⟨g, 0, none⟩)) (hy : a.eval y = .agg (cellsF f).toArray) (hg : w.heap[g]? = some (frB f0))
    (h : wpList Tryd.prog ops Q rest (a.put o.dst undef) (w.setRow g (cellsF f).toArray)) : wpList Tryd.prog ops Q (o :: rest) a w :=
  wpList_store_row hgd _ x y ho g (cellsF f).toArray hx hy 45 (cellsF f0).toArray hg (sizeF (cellsF_size f)) (by rw [cellsF_size, cellsF_size]) (cellsF_all f) h
theorem wl_build0 (hgd : o.guard = none) (ho : o.op = .build 45 #[])
    (h : wpList Tryd.prog ops Q rest (a.put o.dst (.agg (cellsF zeroF).toArray)) w) : wpList Tryd.prog ops Q (o :: rest) a w := by
  have b0 : Tryd.prog.built 45 [] = some (cellsF zeroF).toArray := by kernel_rfl
  have e : ((#[] : Array (Nat × Operand)).map fun (i, x) => (i, a.eval x)).toList = [] := by simp
  refine wpList_build hgd _ _ ho (by rw [e, b0]; rfl) ?_
  rw [e, b0]
  exact h
end
theorem last_ret {W : World} {act : Act} {g : Nat} {f : Fr} {b : Bool} {R : Ending → World → Prop} (h2 : act.tmps[2]?.getD undef = .pointer (some ⟨g, 0, none⟩)) (h3 : act.tmps[3]?.getD undef = .bool b) (hd : act.defers = [])
    (hx : W.heap[g]? = some (frB f)) (hR : R (.returned (.tuple #[.agg (cellsF f).toArray, .bool b])) W) : bodyPost Tryd.prog Tryd.f61 R .ret act W := by
  have hL := run_loadVar_mid (P := Tryd.prog) W g 0 45 (cellsF f) _ (range_of (FCells.of_block hx)) Tryd.underlying45 rfl (sizeF (cellsF_length f))
  refine bodyPost_ret (v := .tuple #[.agg (cellsF f).toArray, .bool b]) ?_ hd hR
  simp [results, Tryd.results61, asAddr, h2, h3, hL, Sem.run_bind, Sem.run_pure, Result.andThen]

theorem set_num (f : Fr) {k : Nat} (hk : k < f.length) : f.set k (num f k) = f := by
  apply List.ext_getElem?
  intro j
  by_cases e : k = j
  · subst e
    rw [List.getElem?_set_self hk]
    unfold num
    rw [List.getD_eq_getElem?_getD, List.getElem?_eq_getElem hk]
    rfl
  · rw [List.getElem?_set_ne e]

set_option maxRecDepth 100000 in
set_option maxHeartbeats 4000000 in
theorem last_none (A : Option Addr) (c : Nat) (w : World) :
    Calls Tryd.prog 61 #[.slice A 0 c] w fun e w' => e = .returned (.tuple #[.agg (cellsF zeroF).toArray, .bool false]) ∧ Below w.heap.size w w' := by
  have HX := Lib.hid (heap_alloc_new w (frB zeroF))
  have HB := Lib.hid ((Below.refl w.heap.size w).alloc (Nat.le_refl _) (frB zeroF))
  have q0 : ((0 : Int) == 0) = true := rfl
  go_enter Tryd.func61, Tryd.ntmps61
  go_upto_region 1 with (first | refine wl_alloc rfl rfl ?_)
  try simp only [Act.put, List.setIfInBounds_toArray, List.set_cons_zero, List.set_cons_succ]
  generalize w.alloc (frB zeroF) = W1 at *
  go_wp2_with (first | refine wl_build0 rfl rfl ?_ | refine wl_storeG rfl _ _ rfl w.heap.size zeroF zeroF rfl rfl HX.out ?_)
  exact last_ret rfl rfl rfl (row_same HX.out) ⟨rfl, row_below HB.out (Nat.le_refl _) _⟩

end Go.Proofs.YtjbcmedljgafkaaDoor.frames

/-
  The program's own frames that are cloned, and frames the last of which is another one. At most a thousand frames, each of twenty-seven numbers.
-/

namespace Go.Proofs.YtjbcmedljgafkaaDoor.frames
open Go.RowKit Go.ChangeShapes
set_option linter.unusedVariables false
set_option linter.unusedSimpArgs false

theorem Own.ins {w : World} {base c : Nat} {A : Option Addr} {l : List Fr} (h : Own w base (.slice A l.length c) l) (hl : l.length ≤ 1000) (ha : ∀ f ∈ l, f.length = 27) : In w A c l := by
  refine ⟨h.at, h.cap, hl, ha, fun e => ?_⟩
  subst e
  rcases h.2 with ⟨e, h0⟩ | ⟨g, cap', cur, e, _⟩
  · injection e with e1 e2 e3
    exact ⟨List.eq_nil_of_length_eq_zero h0, e3⟩
  · cases e
theorem own_cells {base : Nat} {e : TypeId} {size g n cap : Nat} : ∀ (vs q p : List Value) (w : World), q.length = vs.length → w.ownsRow base e size (.slice (some ⟨g, 0, none⟩) n cap) n (p ++ q) →
    (w.setCells g p.length vs).ownsRow base e size (.slice (some ⟨g, 0, none⟩) n cap) n (p ++ vs) := by
  intro vs
  induction vs with
  | nil =>
    intro q p w hq h
    obtain rfl := List.eq_nil_of_length_eq_zero hq
    exact h
  | cons v vs ih =>
    intro q p w hq h
    cases q with
    | nil => cases hq
    | cons u q =>
      have h1 := (h.stored p.length v).1
      have e1 : (p ++ u :: q).set p.length v = (p ++ [v]) ++ q := by
        rw [List.set_append_right _ _ (Nat.le_refl _), Nat.sub_self, List.set_cons_zero]
        simp
      rw [e1] at h1
      have h2 := ih q (p ++ [v]) _ (by simpa using hq) h1
      rw [List.length_append, List.length_singleton] at h2
      simpa [World.setCells] using h2
theorem below_cells {B g : Nat} (hg : B ≤ g) : ∀ (vs : List Value) (o : Nat) (a w : World), Below B a w → Below B a (w.setCells g o vs) := by
  intro vs
  induction vs with
  | nil => intro o a w h; exact h
  | cons v vs ih => intro o a w h; exact ih _ _ _ (h.setCell (p := ⟨g, o, none⟩) hg v)
theorem own_last {w : World} {base g n cap : Nat} {r : List Fr} {f0 : Fr} (h : Own w base (.slice (some ⟨g, 0, none⟩) n cap) (r ++ [f0])) (f : Fr) : Own (w.setCells g (r.length * 27) (cellsF f)) base (.slice (some ⟨g, 0, none⟩) n cap) (r ++ [f]) := by
  unfold Own at h ⊢
  have hn : n = r.length + 1 := by
    rcases h.2 with ⟨e, _⟩ | ⟨g', c', cur, e, _⟩
    · cases e
    · injection e with _ e2 _
      simpa using e2
  rw [List.length_append, List.length_singleton, flat_append] at h ⊢
  have e0 : ∀ f, flat [f] = cellsF f := fun f => by simp [flat]
  rw [e0] at h ⊢
  subst hn
  have := own_cells (cellsF f) (cellsF f0) (flat r) w (by rw [cellsF_length, cellsF_length]) h
  rwa [flat_length] at this
theorem own_there {w : World} {base g n cap : Nat} {r : List Fr} {f0 : Fr} (h : Own w base (.slice (some ⟨g, 0, none⟩) n cap) (r ++ [f0])) : w.there g (r.length * 27) 27 := fun j hj => by
  have hn : n = (r ++ [f0]).length := by
    rcases h.2 with ⟨e, _⟩ | ⟨g', c', cur, e, _⟩
    · cases e
    · injection e with _ e2 _
  subst hn
  refine ⟨?_, World.ownsRow.frozenAt h _⟩
  rw [World.ownsRow.cellAt h _ (by rw [List.length_append, List.length_singleton]; omega), flat_append, List.getElem?_append_right (by rw [flat_length]; omega), flat_length, show r.length * 27 + j - r.length * 27 = j by omega]
  simp [flat, cellsF_at f0 hj]
theorem Own.some {w : World} {base n c : Nat} {A : Option Addr} {l : List Fr} (h : Own w base (.slice A n c) l) (h0 : l.length ≠ 0) : ∃ g, A = some ⟨g, 0, none⟩ ∧ base ≤ g ∧ g < w.heap.size := by
  rcases h.2 with ⟨e, h1⟩ | ⟨g, cap', cur, e, hb, hh, _⟩
  · exact absurd h1 h0
  · injection e with e1 e2 e3
    exact ⟨g, e1, hb, lt_of_block hh⟩

section
variable {ops : Array Oper} {rest : List Oper} {o : Oper} {a : Act} {w : World} {Q : Exit → Act → World → Prop}
theorem wl_storeM (hgd : o.guard = none) (x y : Operand) (ho : o.op = .store 45 x y) (b i : Nat) (f : Fr) (hx : a.eval x = .pointer (some ⟨b, i, none⟩)) (hy : a.eval y = .agg (cellsF f).toArray) (ht : w.there b i 27)
    (h : wpList Tryd.prog ops Q rest (a.put o.dst undef) (w.setCells b i (cellsF f))) : wpList Tryd.prog ops Q (o :: rest) a w :=
  wpList_store_mid hgd _ x y ho b i (cellsF f).toArray hx hy (by rw [cellsF_size]; exact ht) (sizeF (cellsF_size f)) (cellsF_all f) h
end

theorem eqlF (a : Option Addr) (n c : Nat) (w : World) : (binOp .eql 30 (.slice a n c) (.slice none 0 0)).run Tryd.prog w = .ok (.bool a.isNone) w := Lib.run_eql_slice_nil w 30 _ a n c 0 0 Tryd.underlying30

set_option maxRecDepth 100000 in
set_option maxHeartbeats 4000000 in
theorem clone_any (A : Option Addr) (c : Nat) (l : List Fr) (w : World) (hI : In w A c l) :
    Calls Tryd.prog 20 #[.slice A l.length c] w fun e w' => ∃ A' c', e = .returned (.slice A' l.length c') ∧ Own w' w.heap.size (.slice A' l.length c') l ∧ Below w.heap.size w w' := by
  have hq := eqlF A l.length c
  cases A with
  | none =>
    obtain ⟨rfl, rfl⟩ := hI.nil rfl
    clear hI hq
    have hq := eqlF none 0 0
    show Calls _ _ #[.slice none 0 0] _ _
    go_enter Tryd.func20, Tryd.ntmps20
    go_wp2
    go_ret
    exact ⟨none, 0, rfl, Own.nil _ _, Below.refl _ _⟩
  | some ad =>
    have HA := Lib.hid hI.at'
    have HL := Lib.hid hI.len
    have HE := Lib.hid (heap_alloc_new w (.cells #[] 45))
    have HB := Lib.hid ((Below.refl w.heap.size w).alloc (Nat.le_refl _) (.cells #[] 45))
    clear hI
    go_enter Tryd.func20, Tryd.ntmps20
    go_wp2_with (at_builtin; refine wpList_appF (by rfl) (.tmp 5) (.tmp 6) (by rfl) w.heap.size l.length c (.slice (some ⟨w.heap.size, 0, none⟩) 0 0) (some ad) [] l (by rfl) (Own.empty HE.out) (by rfl) rfl (fun h => by cases h) (HA.out.next HB.out) (by have := HL.out; simp; omega) (by simp) ?_)
    intro v' w' h1 h2
    have HB2 := Lib.hid (HB.out.grown h2 (by simp) (fun k e => by simp [Value.ownBlock] at e; omega))
    try rw [List.nil_append] at h1
    have HR := Lib.hid h1
    obtain ⟨A', c', rfl⟩ := h1.slice
    clear h1 h2
    go_wp2
    go_ret
    exact ⟨A', c', rfl, HR.out, HB2.out⟩

theorem top_last {l : List Fr} {m : Nat} (hm : l.length = m + 1) : l = l.take m ++ [topF l] := by
  unfold topF
  rw [hm]
  apply List.ext_getElem?
  intro j
  rw [Nat.add_sub_cancel]
  rcases Nat.lt_trichotomy j m with h | h | h
  · rw [List.getElem?_append_left (by rw [List.length_take]; omega), List.getElem?_take_of_lt h]
  · subst h
    rw [List.getElem?_append_right (by rw [List.length_take]; omega), List.length_take, show j - min j l.length = 0 by omega, List.getD_eq_getElem?_getD, List.getElem?_eq_getElem (by omega)]
    rfl
  · rw [List.getElem?_eq_none (by omega), List.getElem?_eq_none (by rw [List.length_append, List.length_take, List.length_singleton]; omega)]

/-- Frames, the last of which is another one, in memory of their own. -/
def ChPost (x : List Fr) (w : World) (e : Ending) (w' : World) : Prop :=
  ∃ A c, e = .returned (.slice A x.length c) ∧ Own w' w.heap.size (.slice A x.length c) x ∧ Below w.heap.size w w'

set_option maxRecDepth 100000 in
set_option maxHeartbeats 4000000 in
theorem changed_any (A : Option Addr) (c : Nat) (l : List Fr) (f : Fr) (w : World) (hI : In w A c l) (h0 : l.length ≠ 0) :
    Calls Tryd.prog 63 #[.slice A l.length c, .agg (cellsF f).toArray] w (ChPost (withF l f) w) := by
  obtain ⟨m, hm⟩ : ∃ m, l.length = m + 1 := ⟨l.length - 1, by omega⟩
  have hb0 : Below w.heap.size w (w.alloc (frB f)) := (Below.refl _ w).alloc (Nat.le_refl _) _
  have hx0 := heap_alloc_new w (frB f)
  have hs0 : (w.alloc (frB f)).heap.size = w.heap.size + 1 := World.size_alloc _ _
  have HC := Lib.hid (clone_any A c l _ (hI.next hb0))
  have HT := Lib.hid (top_last hm)
  have HW : Hid (withF l f = l.take m ++ [f]) := Lib.hid (by unfold withF; rw [hm]; rfl)
  have HL : Hid ((l.take m).length = m) := Lib.hid (by rw [List.length_take]; omega)
  unfold ChPost
  rw [HW.out]
  unfold frB at hb0 hx0 hs0 HC
  have HX := Lib.hid hx0
  have HB := Lib.hid hb0
  have HS := Lib.hid hs0
  have hlen := hI.len
  rw [HT.out] at HC
  rw [List.length_append, List.length_singleton, HL.out] at HC
  rw [hm] at hlen ⊢
  generalize l.take m = r at *
  generalize topF l = f0 at *
  have k0 : (0 : Int) ≤ (m : Int) := by omega
  have k1 : (m : Int) < ((m + 1 : Nat) : Int) := by omega
  have k2 : (m : Int) < (m : Int) + 1 := by omega
  have hw0 : IntKind.i64.wrap ((m : Int) + 1 - 1) = (m : Int) := by rw [IntKind.wrap_i64]; omega
  have hw1 : IntKind.i64.wrap (m : Int) = (m : Int) := by rw [IntKind.wrap_i64]; omega
  clear hI hb0 hx0 hs0 hm h0
  go_enter Tryd.func63, Tryd.ntmps63
  go_upto_region 1 with fail
  generalize w.alloc (.cells (cellsF f).toArray 45) = W1 at *
  go_wp2_with fail
  refine HC.out.mono ?_
  rintro _ w2 ⟨A2, c2, rfl, hO, hb2⟩
  obtain ⟨g, rfl, hg1, hg2⟩ := hO.some (by simp)
  have hcap := hO.cap
  rw [List.length_append, List.length_singleton, HL.out] at hcap
  have HFc : Hid (FCells w2 w.heap.size 0 f) := Lib.hid (FCells.of_block (f := f) ((hb2.block w.heap.size (by rw [HS.out]; omega)).trans HX.out))
  have HTh := Lib.hid (own_there hO)
  have HO := Lib.hid (own_last hO f)
  rw [HL.out] at HTh HO
  have HBb := Lib.hid (below_cells (g := g) (B := w.heap.size) (by have := HS.out; omega) (cellsF f) (m * 27) w w2 (HB.out.trans (hb2.mono (by have := HS.out; omega))))
  have HLe : Hid ((r ++ [f]).length = m + 1) := Lib.hid (by rw [List.length_append, List.length_singleton, HL.out])
  clear hO hb2 HC HT hg1 hg2
  go_wp2_with (first | refine wl_load rfl _ rfl w.heap.size 0 rfl f HFc.out ?_ | refine wl_storeM rfl _ _ rfl g (m * 27) f (by first | rfl | simp) rfl HTh.out ?_)
  go_ret
  exact ⟨_, c2, by rw [HLe.out]; rfl, by rw [HLe.out]; exact HO.out.base (by have := HS.out; omega), HBb.out⟩
end Go.Proofs.YtjbcmedljgafkaaDoor.frames

/-
  What a call makes of frames, by the document. At most nine hundred frames, each of twenty-seven numbers.
-/

namespace Go.Proofs.YtjbcmedljgafkaaDoor.frames
open Go.RowKit Go.ChangeShapes
set_option linter.unusedVariables false
set_option linter.unusedSimpArgs false

end Go.Proofs.YtjbcmedljgafkaaDoor.frames

/-
  What the statement on frames asks of the program's calls. No condition.
-/

namespace Go.Proofs.YtjbcmedljgafkaaDoor.frames
open Go.RowKit Go.ChangeShapes
open Go.Proofs.YtjbcmedljgafkaaDoor.nums (NAt)
set_option linter.unusedVariables false

def I64 (n : Int) : Prop := -9223372036854775808 ≤ n ∧ n ≤ 9223372036854775807
/-- Calls as they came in: three numbers each. -/
def OpsAt (w : World) (A : Option Addr) (ops : List (Int × Int × Int)) : Prop :=
  ∀ j, j < ops.length → ∃ b off, A = some ⟨b, off, none⟩ ∧ b < w.heap.size ∧ w.cell? ⟨b, off + j * 3, none⟩ = some (.int .i64 (ops.getD j (0, 0, 0)).1) ∧ w.cell? ⟨b, off + j * 3 + 1, none⟩ = some (.int .i64 (ops.getD j (0, 0, 0)).2.1) ∧ w.cell? ⟨b, off + j * 3 + 2, none⟩ = some (.int .i64 (ops.getD j (0, 0, 0)).2.2)
theorem OpsAt.next {w w' : World} {A : Option Addr} {ops : List (Int × Int × Int)} (h : OpsAt w A ops) (hb : Below w.heap.size w w') : OpsAt w' A ops := fun j hj => by
  obtain ⟨b, off, h1, h2, h3, h4, h5⟩ := h j hj
  exact ⟨b, off, h1, Nat.lt_of_lt_of_le h2 hb.size, (hb.cell (p := ⟨b, off + j * 3, none⟩) h2).trans h3, (hb.cell (p := ⟨b, off + j * 3 + 1, none⟩) h2).trans h4, (hb.cell (p := ⟨b, off + j * 3 + 2, none⟩) h2).trans h5⟩
/-- While calls are made: both lists of frames are one. -/
structure Ru (w : World) (A : Option Addr) (c : Nat) (B : Option Addr) (d : Nat) (l : List Fr) (W : World) : Prop where
  below : Below w.heap.size w W
  x : In W A c l
  y : In W B d l
  good : Good l
theorem Ru.next {w W W' : World} {A B : Option Addr} {c d : Nat} {l : List Fr} (h : Ru w A c B d l W) (hb : Below W.heap.size W W') : Ru w A c B d l W' :=
  ⟨h.below.trans (hb.mono h.below.size), h.x.next hb, h.y.next hb, h.good⟩
end Go.Proofs.YtjbcmedljgafkaaDoor.frames

/-
  The program's calls on words come to what the document says (typed over the code of 2169cae). No condition.
-/

namespace Go.Proofs.YtjbcmedljgafkaaDoor.word
open Go.RowKit Go.ChangeShapes

theorem conv_low (n : Int) : wrap64 (wrap32 n) = low n := by
  unfold wrap64 wrap32 low
  omega

set_option maxHeartbeats 400000 in
theorem low_any (n : Int) (w : World) :
    Calls Tryd.prog 79 #[.int .i64 n] w fun e w' => e = .returned (.int .i64 (low n)) ∧ w = w' := by
  have HW := Lib.hid (conv_low n)
  go_enter Tryd.func79, Tryd.ntmps79
  go_wp2
  go_ret
  exact ⟨ret_int HW.out, rfl⟩

/-- The numbers of sixty-four bits that a word's bits are. -/
def wd (n : Int) : Nat := (n % 18446744073709551616).toNat
theorem wd_low (n : Int) : wd n % 4294967296 = un n := by unfold wd un; omega
theorem wd_high {n : Int} (h : Word n) : wd n / 2147483648 = 0 ∨ wd n / 2147483648 = 8589934591 := by
  unfold Word at h
  unfold wd
  by_cases h0 : 0 ≤ n
  · left; omega
  · right; omega
theorem wrap_back {z : Nat} (_ : z < 18446744073709551616) (h : z / 2147483648 = 0 ∨ z / 2147483648 = 8589934591) : IntKind.i64.wrap (z : Int) = low ((z % 4294967296 : Nat) : Int) := by
  rw [IntKind.wrap_i64]
  unfold low
  omega
theorem ofInt_wd (n : Int) : (BitVec.ofInt 64 n).toNat = wd n := by
  rw [BitVec.toNat_ofInt]
  rfl
theorem wd_lt (n : Int) : wd n < 18446744073709551616 := by unfold wd; omega
theorem and_words {x y : Int} (hx : Word x) (hy : Word y) : bits .and .i64 x y = low (bitop 11 (un x) (un y) : Nat) := by
  show IntKind.i64.wrap ((BitVec.ofInt 64 x &&& BitVec.ofInt 64 y).toNat : Int) = _
  rw [BitVec.toNat_and, ofInt_wd, ofInt_wd]
  have h1 : (wd x &&& wd y) / 2 ^ 31 = wd x / 2 ^ 31 &&& wd y / 2 ^ 31 := Nat.and_div_two_pow
  have h2 : (wd x &&& wd y) % 2 ^ 32 = wd x % 2 ^ 32 &&& wd y % 2 ^ 32 := Nat.and_mod_two_pow
  have e1 : (2 : Nat) ^ 31 = 2147483648 := rfl
  have e2 : (2 : Nat) ^ 32 = 4294967296 := rfl
  rw [e1] at h1
  rw [e2, wd_low, wd_low] at h2
  rw [wrap_back (Nat.lt_of_le_of_lt Nat.and_le_left (wd_lt x)) ?_, h2]
  · rfl
  · rw [h1]
    rcases wd_high hx with a | a <;> rcases wd_high hy with b | b <;> rw [a, b] <;> decide
theorem or_words {x y : Int} (hx : Word x) (hy : Word y) : bits .or .i64 x y = low (bitop 12 (un x) (un y) : Nat) := by
  show IntKind.i64.wrap ((BitVec.ofInt 64 x ||| BitVec.ofInt 64 y).toNat : Int) = _
  rw [BitVec.toNat_or, ofInt_wd, ofInt_wd]
  have h1 : (wd x ||| wd y) / 2 ^ 31 = wd x / 2 ^ 31 ||| wd y / 2 ^ 31 := Nat.or_div_two_pow
  have h2 : (wd x ||| wd y) % 2 ^ 32 = wd x % 2 ^ 32 ||| wd y % 2 ^ 32 := Nat.or_mod_two_pow
  have e1 : (2 : Nat) ^ 31 = 2147483648 := rfl
  have e2 : (2 : Nat) ^ 32 = 4294967296 := rfl
  have hlt : wd x ||| wd y < 2 ^ 64 := Nat.or_lt_two_pow (wd_lt x) (wd_lt y)
  rw [e1] at h1
  rw [e2, wd_low, wd_low] at h2
  rw [wrap_back hlt ?_, h2]
  · rfl
  · rw [h1]
    rcases wd_high hx with a | a <;> rcases wd_high hy with b | b <;> rw [a, b] <;> decide
theorem xor_words {x y : Int} (hx : Word x) (hy : Word y) : bits .xor .i64 x y = low (bitop 13 (un x) (un y) : Nat) := by
  show IntKind.i64.wrap ((BitVec.ofInt 64 x ^^^ BitVec.ofInt 64 y).toNat : Int) = _
  rw [BitVec.toNat_xor, ofInt_wd, ofInt_wd]
  have h1 : (wd x ^^^ wd y) / 2 ^ 31 = wd x / 2 ^ 31 ^^^ wd y / 2 ^ 31 := Nat.xor_div_two_pow
  have h2 : (wd x ^^^ wd y) % 2 ^ 32 = wd x % 2 ^ 32 ^^^ wd y % 2 ^ 32 := Nat.xor_mod_two_pow
  have e1 : (2 : Nat) ^ 31 = 2147483648 := rfl
  have e2 : (2 : Nat) ^ 32 = 4294967296 := rfl
  have hlt : wd x ^^^ wd y < 2 ^ 64 := Nat.xor_lt_two_pow (wd_lt x) (wd_lt y)
  rw [e1] at h1
  rw [e2, wd_low, wd_low] at h2
  rw [wrap_back hlt ?_, h2]
  · rfl
  · rw [h1]
    rcases wd_high hx with a | a <;> rcases wd_high hy with b | b <;> rw [a, b] <;> decide
theorem mask5 (n : Int) : bits .and .i64 n 31 = (far n : Int) := by
  show IntKind.i64.wrap ((BitVec.ofInt 64 n &&& BitVec.ofInt 64 31).toNat : Int) = _
  rw [BitVec.toNat_and, ofInt_wd, show (BitVec.ofInt 64 31).toNat = 2 ^ 5 - 1 from rfl, Nat.and_two_pow_sub_one_eq_mod, IntKind.wrap_i64]
  have e : (2 : Nat) ^ 5 = 32 := rfl
  rw [e]
  unfold wd far
  omega

set_option maxHeartbeats 400000 in
theorem exact_any (n : Int) (w : World) :
    Calls Tryd.prog 86 #[.int .i64 n] w fun e w' => e = .returned (two (ex n)) ∧ w = w' := by
  by_cases h : Word n
  · rw [show ex n = (n, 0) from by unfold ex; rw [if_pos h]]
    have HW := Lib.hid (conv_low n)
    have HT : Hid (low n = n) := Lib.hid (low_id h)
    rw [HT.out] at HW
    have hn : (wrap64 (wrap32 n) != n) = false := by rw [HW.out]; simp
    clear h
    unfold two
    go_enter Tryd.func86, Tryd.ntmps86
    go_wp2
    go_ret2
    exact ⟨by rw [HW.out]; rfl, rfl⟩
  · rw [show ex n = (0, 1) from by unfold ex; rw [if_neg h]]
    have hn : (wrap64 (wrap32 n) != n) = true := by
      rw [conv_low, bne_iff_ne]
      intro e
      exact h (e ▸ low_word n)
    clear h
    unfold two
    go_enter Tryd.func86, Tryd.ntmps86
    go_wp2
    go_ret2
    exact ⟨rfl, rfl⟩
set_option maxHeartbeats 400000 in
theorem product_any (a b : Int) (ha : Word a) (hb : Word b) (w : World) :
    Calls Tryd.prog 87 #[.int .i64 a, .int .i64 b] w fun e w' => e = .returned (.int .i64 (a * b)) ∧ w = w' := by
  have hm := mul_bound ha hb
  clear ha hb
  go_enter Tryd.func87, Tryd.ntmps87
  go_wp2
  go_ret
  exact ⟨rfl, rfl⟩
/-- A quotient of words, and its fault. -/
def quo (a b : Int) : Int × Int := if b = 0 then (0, 2) else ex (a.tdiv b)
def left (a b : Int) : Int × Int := if b = 0 then (0, 2) else (a.tmod b, 0)
set_option maxHeartbeats 400000 in
theorem quotient_any (x y : Int) (ha : Word x) (w : World) :
    Calls Tryd.prog 88 #[.int .i64 x, .int .i64 y] w fun e w' => e = .returned (two (quo x y)) ∧ w = w' := by
  by_cases hy0 : y = 0
  · subst hy0
    rw [show quo x 0 = (0, 2) from by unfold quo; simp]
    unfold two
    clear ha
    go_enter Tryd.func88, Tryd.ntmps88
    go_wp2
    go_ret2
    exact ⟨rfl, rfl⟩
  · have hyn : (y == 0) = false := by simp [hy0]
    rw [show quo x y = ex (x.tdiv y) from by unfold quo; simp [hy0]]
    have hq := tdiv_bound (b := y) ha
    unfold Word at ha
    go_enter Tryd.func88, Tryd.ntmps88
    go_wp2_with fail
    refine (exact_any _ _).mono ?_
    rintro e w1 ⟨rfl, rfl⟩
    unfold two
    go_wp2
    go_ret2
    exact ⟨rfl, rfl⟩
set_option maxHeartbeats 400000 in
theorem rest_any (x y : Int) (ha : Word x) (w : World) :
    Calls Tryd.prog 89 #[.int .i64 x, .int .i64 y] w fun e w' => e = .returned (two (left x y)) ∧ w = w' := by
  by_cases hy0 : y = 0
  · subst hy0
    rw [show left x 0 = (0, 2) from by unfold left; simp]
    unfold two
    clear ha
    go_enter Tryd.func89, Tryd.ntmps89
    go_wp2
    go_ret2
    exact ⟨rfl, rfl⟩
  · have hyn : (y == 0) = false := by simp [hy0]
    rw [show left x y = (x.tmod y, 0) from by unfold left; simp [hy0]]
    have hq := tdiv_bound (b := y) ha
    unfold Word at ha
    unfold two
    go_enter Tryd.func89, Tryd.ntmps89
    go_wp2
    go_ret2
    exact ⟨rfl, rfl⟩
set_option maxHeartbeats 400000 in
theorem truth_any (b : Bool) (w : World) :
    Calls Tryd.prog 90 #[.bool b] w fun e w' => e = .returned (.int .i64 (if b then 1 else 0)) ∧ w = w' := by
  cases b
  · go_enter Tryd.func90, Tryd.ntmps90
    go_wp2
    go_ret
    exact ⟨rfl, rfl⟩
  · go_enter Tryd.func90, Tryd.ntmps90
    go_wp2
    go_ret
    exact ⟨rfl, rfl⟩

end Go.Proofs.YtjbcmedljgafkaaDoor.word
