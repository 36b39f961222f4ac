/-
  Texts of one claim in one file: HRef, HStep, HMem, HRefOne. Each has its own sentence, with its conditions.
-/
import Derived.Test.YtbekfjjajggffaaDoorVall11
import Derived.Test.YtbekfjjajggffaaDoorVall17
import Derived.Test.YtbekfjjajggffaaDoorVall14
import Derived.Test.YtbekfjjajggffaaDoorVall15
import Derived.Test.YtbekfjjajggffaaDoorVall16
import Derived.Laws.Rows
import Derived.StillTailTactics
/-
  The document's own depth behind an instruction. The instruction may be; the functions' arguments are from 0 to 8; the depth is from 0 to 16.
-/
namespace Go.Proofs.YtbekfjjajggffaaDoor.pgm.dep
open Go.RowKit Go.ChangeShapes
open Go.Proofs.YtbekfjjajggffaaDoor.pgm
open Go.Proofs.YtbekfjjajggffaaDoor.objs (De zero DAt CellsAt cells3)
open Go.Proofs.YtbekfjjajggffaaDoor.oper (pops numb ly insBox refPops_any refPushes_any)
set_option linter.unusedVariables false

set_option maxRecDepth 100000 in
set_option maxHeartbeats 4000000 in
theorem refBehind_any (v : Value) (p : Pg) (x : De) (d : Int) (w : World) (hv : PAt w v p) (hl : p.fs.length ≤ 16) (hf : ∀ f ∈ p.fs, 0 ≤ f.ar ∧ f.ar ≤ 8) (hx : chkI x = 0) (h0 : 0 ≤ d) (h1 : d ≤ 16) :
    Calls Tryd.prog 78 #[v, .agg #[.int .i64 x.1, .int .i64 x.2.1, .int .i64 x.2.2], .int .i64 d] w fun e w' => e = .returned (.int .i64 (behind p.fs x d)) ∧ Below w.heap.size w w' := by
  obtain ⟨A, B, C, ca, cb, cc, rfl, _, _, hC⟩ := hv
  have hp := pops_small hf hx
  have hy := lays_small x.1
  have hb := b_small hx
  have ha := fun h => func_small hx h
  obtain ⟨r, hr⟩ : ∃ r, r = behind p.fs x d := ⟨_, rfl⟩
  rw [← hr]
  unfold behind at hr
  obtain ⟨n, hn⟩ : ∃ n, n = argsOf p.fs x := ⟨_, rfl⟩
  rw [← hn] at hr hp
  unfold argsOf at hn
  obtain ⟨o, a, b⟩ := x
  dsimp only at *
  have hP := fun W => Lib.hid (refPops_any o a b n (by omega) (by omega) W)
  have hU := fun W => Lib.hid (refPushes_any o W)
  generalize pops o b n = k at *
  generalize numb ly o = y at *
  have hN := Lib.hid hn
  have hR := Lib.hid hr
  have hz0 : (w.alloc (pgB (.slice A p.ds.length ca) (.slice B p.ws.length cb) (.slice C p.fs.length cc))).heap.size = w.heap.size + 1 := World.size_alloc _ _
  have hb0 : Below w.heap.size w ((w.alloc (pgB (.slice A p.ds.length ca) (.slice B p.ws.length cb) (.slice C p.fs.length cc))).alloc (insBox o a b)) := ((Below.refl _ w).alloc (Nat.le_refl _) _).alloc (by omega) _
  have hx0 : ((w.alloc (pgB (.slice A p.ds.length ca) (.slice B p.ws.length cb) (.slice C p.fs.length cc))).alloc (insBox o a b)).heap[w.heap.size]? = some (pgB (.slice A p.ds.length ca) (.slice B p.ws.length cb) (.slice C p.fs.length cc)) := (Below.heap_alloc _ _ _ (by omega)).trans (heap_alloc_new w _)
  have hx1 : ((w.alloc (pgB (.slice A p.ds.length ca) (.slice B p.ws.length cb) (.slice C p.fs.length cc))).alloc (insBox o a b)).heap[w.heap.size + 1]? = some (insBox o a b) := by rw [← hz0]; exact heap_alloc_new _ _
  have hC0 := Lib.hid (hC.next hb0)
  have HB0 := Lib.hid hb0
  unfold pgB insBox at hx0 hx1 hC0 HB0
  clear hr hn hb0 hz0 hC
  go_enter Tryd.func78, Tryd.ntmps78
  go_upto_region 2 with fail
  generalize (w.alloc (.cells #[.slice A p.ds.length ca, .slice B p.ws.length cb, .slice C p.fs.length cc] 26)).alloc (.cells #[.int .i64 o, .int .i64 a, .int .i64 b] 46) = W0 at *
  obtain ⟨p0, p1, p2, -, -, -⟩ := cells3 hx0
  obtain ⟨i0, i1, i2, -, -, -⟩ := cells3 hx1
  have hlay : ∀ (W : World), Below W0.heap.size W0 W → W.heap[w.heap.size + 1]? = some (.cells #[.int .i64 o, .int .i64 a, .int .i64 b] 46) := fun W h => (h.block _ (lt_of_block hx1)).trans hx1
  have HLay := Lib.hid hlay
  by_cases ho : o = 20
  · subst ho
    obtain ⟨ha0, ha1⟩ := ha rfl
    by_cases hlt : a < (p.fs.length : Int)
    · obtain ⟨j, rfl⟩ : ∃ j : Nat, a = (j : Int) := ⟨a.toNat, by omega⟩
      have hj : j < p.fs.length := by omega
      obtain ⟨g, off, Aj, cj, rfl, hg, ⟨f0, _, _⟩, _⟩ := hC0.out j hj
      have e1 : (p.fs.getD j Fn.zero).ar = n := by rw [hN.out, if_pos ⟨rfl, hlt⟩, Int.toNat_natCast]
      rw [e1] at f0
      have q0 : decide ((j : Int) < (p.fs.length : Int)) = true := decide_eq_true hlt
      go_upto_region 4 with fail
      go_wp2_with fail
      refine (hP _).out.mono ?_
      rintro _ w1 ⟨rfl, hb1⟩
      have HB1 := Lib.hid (HB0.out.trans (hb1.mono HB0.out.size))
      obtain ⟨j0, j1, j2, -, -, -⟩ := cells3 (HLay.out _ hb1)
      clear hb1 i0 i1 i2 p0 p1 p2 hP
      by_cases hd : d - k < 0
      · have hv := hR.out
        rw [if_pos hd] at hv
        subst hv
        go_wp2
        go_ret
        exact ⟨rfl, HB1.out⟩
      · have hv := hR.out
        rw [if_neg hd] at hv
        subst hv
        go_wp2_with fail
        refine (hU _).out.mono ?_
        rintro _ w2 ⟨rfl, hb2⟩
        have HB2 := Lib.hid (HB1.out.trans (hb2.mono HB1.out.size))
        clear hb2
        go_wp2
        go_ret
        exact ⟨rfl, HB2.out⟩
    · have e1 : n = 0 := by rw [hN.out, if_neg (fun h => hlt h.2)]
      subst e1
      have q0 : decide (a < (p.fs.length : Int)) = false := decide_eq_false hlt
      go_upto_region 4 with fail
      go_wp2_with fail
      refine (hP _).out.mono ?_
      rintro _ w1 ⟨rfl, hb1⟩
      have HB1 := Lib.hid (HB0.out.trans (hb1.mono HB0.out.size))
      obtain ⟨j0, j1, j2, -, -, -⟩ := cells3 (HLay.out _ hb1)
      clear hb1 i0 i1 i2 p0 p1 p2 hP
      by_cases hd : d - k < 0
      · have hv := hR.out
        rw [if_pos hd] at hv
        subst hv
        go_wp2
        go_ret
        exact ⟨rfl, HB1.out⟩
      · have hv := hR.out
        rw [if_neg hd] at hv
        subst hv
        go_wp2_with fail
        refine (hU _).out.mono ?_
        rintro _ w2 ⟨rfl, hb2⟩
        have HB2 := Lib.hid (HB1.out.trans (hb2.mono HB1.out.size))
        clear hb2
        go_wp2
        go_ret
        exact ⟨rfl, HB2.out⟩
  · have e1 : n = 0 := by rw [hN.out, if_neg (fun h => ho h.1)]
    subst e1
    have q0 : (o == 20) = false := by simpa using ho
    go_upto_region 4 with fail
    go_wp2_with fail
    refine (hP _).out.mono ?_
    rintro _ w1 ⟨rfl, hb1⟩
    have HB1 := Lib.hid (HB0.out.trans (hb1.mono HB0.out.size))
    obtain ⟨j0, j1, j2, -, -, -⟩ := cells3 (HLay.out _ hb1)
    clear hb1 i0 i1 i2 p0 p1 p2 hP
    by_cases hd : d - k < 0
    · have hv := hR.out
      rw [if_pos hd] at hv
      subst hv
      go_wp2
      go_ret
      exact ⟨rfl, HB1.out⟩
    · have hv := hR.out
      rw [if_neg hd] at hv
      subst hv
      go_wp2_with fail
      refine (hU _).out.mono ?_
      rintro _ w2 ⟨rfl, hb2⟩
      have HB2 := Lib.hid (HB1.out.trans (hb2.mono HB1.out.size))
      clear hb2
      go_wp2
      go_ret
      exact ⟨rfl, HB2.out⟩
end Go.Proofs.YtbekfjjajggffaaDoor.pgm.dep

/-
  How the program finds depths, place by place, and that it comes to the chapter's own way: plain mathematics of lists. No condition.
-/
namespace Go.Proofs.YtbekfjjajggffaaDoor.pgm.dep
open Go.Proofs.YtbekfjjajggffaaDoor.pgm
open Go.Proofs.YtbekfjjajggffaaDoor.objs (De zero)
open Go.Proofs.YtbekfjjajggffaaDoor.oper (pops numb ly goesB)
set_option linter.unusedVariables false

/-- What the program keeps: depths, which are to be looked at, and a place below which none of them stands. -/
structure Z where
  dp : List Int
  ah : List Bool
  le : Nat
/-- It goes to a place. -/
def reachZ (n : Nat) (d : Int) (z : Z) (t : Nat) : Z × Nat :=
  if n ≤ t then (z, 3) else if z.dp.getD t (-1) = -1 then (⟨z.dp.set t d, z.ah.set t true, min z.le t⟩, 0) else if z.dp.getD t (-1) ≠ d then (z, 2) else (z, 0)
/-- How many values stand there behind an instruction, or what is wrong with that. -/
def behindE (fs : List Fn) (x : De) (d : Int) : Int × Nat :=
  if d < pops x.1 x.2.2 (argsOf fs x) then (0, 2) else if 16 < d + (numb ly x.1 - pops x.1 x.2.2 (argsOf fs x)) then (0, 4) else (d + (numb ly x.1 - pops x.1 x.2.2 (argsOf fs x)), 0)
/-- It goes on from an instruction behind which so many values stand. -/
def goZ (n : Nat) (x : De) (d : Int) (a : Nat) (z : Z) : Z × Nat :=
  if goesB x.1 = true then
    if (reachZ n d z (a + 1)).2 ≠ 0 then reachZ n d z (a + 1)
    else if x.1 = 18 ∨ x.1 = 19 then reachZ n d (reachZ n d z (a + 1)).1 x.2.1.toNat else ((reachZ n d z (a + 1)).1, 0)
  else if x.1 = 18 ∨ x.1 = 19 then reachZ n d z x.2.1.toNat else (z, 0)
/-- It looks at an instruction. -/
def lookZ (n : Nat) (fs : List Fn) (x : De) (a : Nat) (z : Z) : Z × Nat :=
  if (behindE fs x (z.dp.getD a (-1))).2 ≠ 0 then (z, (behindE fs x (z.dp.getD a (-1))).2) else goZ n x (behindE fs x (z.dp.getD a (-1))).1 a z

/-- What the program keeps is what the chapter keeps: of those that are looked at the depths are known. -/
structure R (n : Nat) (dp : List Int) (dn : List Bool) (z : Z) : Prop where
  same : z.dp = dp
  ld : dp.length = n
  ln : dn.length = n
  la : z.ah.length = n
  le : z.le ≤ n
  ahead : ∀ i, i < n → z.ah.getD i false = (!dn.getD i true && decide (0 ≤ dp.getD i (-1)))
  least : ∀ i, i < z.le → z.ah.getD i false = false
  known : ∀ i, i < n → dn.getD i true = true → 0 ≤ dp.getD i (-1)
  rng : ∀ x ∈ dp, -1 ≤ x ∧ x ≤ 16

theorem R.at {n : Nat} {dp : List Int} {dn : List Bool} {z : Z} (h : R n dp dn z) {t : Nat} (ht : t < n) : -1 ≤ dp.getD t (-1) ∧ dp.getD t (-1) ≤ 16 := h.rng _ (Go.Proofs.YtbekfjjajggffaaDoor.pgm.getD_in (by rw [h.ld]; exact ht))
theorem set_same {α : Type} {l : List α} {t : Nat} {d x : α} (ht : t < l.length) (h : l.getD t d = x) : l.set t x = l := by
  rw [List.getD_eq_getElem?_getD, List.getElem?_eq_getElem ht] at h
  subst h
  simp
theorem lead_one (n : Nat) (d : Int) (t : Nat) (dp : List Int) : lead n d [t] dp = if n ≤ t then (dp, 3) else if 0 ≤ dp.getD t (-1) ∧ dp.getD t (-1) ≠ d then (dp, 2) else (dp.set t d, 0) := rfl
theorem lead_two (n : Nat) (d : Int) (s t : Nat) (dp : List Int) : lead n d [s, t] dp = if (lead n d [s] dp).2 ≠ 0 then lead n d [s] dp else lead n d [t] (lead n d [s] dp).1 := by
  rw [lead_one]
  show (if n ≤ s then (dp, 3) else if 0 ≤ dp.getD s (-1) ∧ dp.getD s (-1) ≠ d then (dp, 2) else lead n d [t] (dp.set s d)) = _
  by_cases h1 : n ≤ s
  · rw [if_pos h1, if_pos h1, if_pos (show (3 : Nat) ≠ 0 by decide)]
  · rw [if_neg h1, if_neg h1]
    by_cases h2 : 0 ≤ dp.getD s (-1) ∧ dp.getD s (-1) ≠ d
    · rw [if_pos h2, if_pos h2, if_pos (show (2 : Nat) ≠ 0 by decide)]
    · rw [if_neg h2, if_neg h2, if_neg (show ¬ (0 : Nat) ≠ 0 by decide)]
/-- One place. -/
theorem R.reach {n : Nat} {dp : List Int} {dn : List Bool} {z : Z} (h : R n dp dn z) {d : Int} (h0 : 0 ≤ d) (h1 : d ≤ 16) (t : Nat) :
    (reachZ n d z t).2 = (lead n d [t] dp).2 ∧ R n (lead n d [t] dp).1 dn (reachZ n d z t).1 := by
  rw [lead_one]
  unfold reachZ
  rw [h.same]
  by_cases ht : n ≤ t
  · rw [if_pos ht, if_pos ht]
    exact ⟨rfl, h⟩
  · have hlt : t < n := by omega
    have hr := h.at hlt
    rw [if_neg ht, if_neg ht]
    by_cases he : dp.getD t (-1) = -1
    · rw [if_pos he, if_neg (by omega)]
      have hdn : dn.getD t true = false := by
        cases hd : dn.getD t true with
        | false => rfl
        | true => have := h.known t hlt hd; omega
      refine ⟨rfl, rfl, by rw [List.length_set]; exact h.ld, h.ln, by rw [List.length_set]; exact h.la, by show min z.le t ≤ n; have := h.le; omega, fun i hi => ?_, fun i hi => ?_, fun i hi hd => ?_, fun x hx => ?_⟩
      · show (z.ah.set t true).getD i false = _
        rw [getD_set, getD_set, h.la, h.ld]
        by_cases hi2 : t = i
        · subst hi2
          rw [if_pos ⟨rfl, hlt⟩, if_pos ⟨rfl, hlt⟩, hdn, decide_eq_true h0]
          rfl
        · rw [if_neg (fun e => hi2 e.1), if_neg (fun e => hi2 e.1)]
          exact h.ahead i hi
      · show (z.ah.set t true).getD i false = false
        have hi' : i < min z.le t := hi
        rw [getD_set, if_neg (fun e => by omega)]
        exact h.least i (by omega)
      · show 0 ≤ (dp.set t d).getD i (-1)
        rw [getD_set]
        split
        · exact h0
        · exact h.known i hi hd
      · rcases List.mem_or_eq_of_mem_set hx with hx | rfl
        · exact h.rng x hx
        · omega
    · rw [if_neg he]
      by_cases hd : dp.getD t (-1) = d
      · rw [if_neg (fun hh => hh hd), if_neg (fun hh => hh.2 hd), set_same (by rw [h.ld]; exact hlt) hd]
        exact ⟨rfl, h⟩
      · rw [if_pos hd, if_pos ⟨by omega, hd⟩]
        exact ⟨rfl, h⟩
theorem goes_known {o : Int} (h : 0 ≤ o ∧ o ≤ 51) : (goesB o = true) ↔ (o ≠ 18 ∧ o ≠ 21) := by
  unfold goesB
  rw [decide_eq_true_iff]
  omega
/-- Way by way. -/
theorem R.go {n : Nat} {dp : List Int} {dn : List Bool} {z : Z} (h : R n dp dn z) {d : Int} (h0 : 0 ≤ d) (h1 : d ≤ 16) {x : De} (hk : 0 ≤ x.1 ∧ x.1 ≤ 51) (a : Nat) :
    (goZ n x d a z).2 = (lead n d (ways x a) dp).2 ∧ R n (lead n d (ways x a) dp).1 dn (goZ n x d a z).1 := by
  unfold goZ ways
  have hg := goes_known hk
  by_cases hc : x.1 ≠ 18 ∧ x.1 ≠ 21
  · rw [if_pos (hg.2 hc), if_pos hc]
    have hr := h.reach h0 h1 (a + 1)
    by_cases hj : x.1 = 18 ∨ x.1 = 19
    · rw [if_pos hj, if_pos hj]
      show _ = (lead n d [a + 1, x.2.1.toNat] dp).2 ∧ R n (lead n d [a + 1, x.2.1.toNat] dp).1 dn _
      rw [lead_two, ← hr.1]
      by_cases he : (reachZ n d z (a + 1)).2 ≠ 0
      · rw [if_pos he, if_pos he]
        exact hr
      · rw [if_neg he, if_neg he]
        exact hr.2.reach h0 h1 _
    · rw [if_neg hj, if_neg hj]
      show _ = (lead n d [a + 1] dp).2 ∧ R n (lead n d [a + 1] dp).1 dn _
      by_cases he : (reachZ n d z (a + 1)).2 ≠ 0
      · rw [if_pos he]
        exact hr
      · rw [if_neg he]
        exact ⟨by rw [← hr.1]; exact (Decidable.of_not_not he).symm, hr.2⟩
  · rw [if_neg (fun e => hc (hg.1 e)), if_neg hc]
    by_cases hj : x.1 = 18 ∨ x.1 = 19
    · rw [if_pos hj, if_pos hj]
      exact h.reach h0 h1 _
    · rw [if_neg hj, if_neg hj]
      exact ⟨rfl, h⟩
theorem behind_zero {fs : List Fn} {x : De} {d : Int} (h : 0 ≤ numb ly x.1) :
    (behindE fs x d).2 = (if behind fs x d < 0 then 2 else if 16 < behind fs x d then 4 else 0) ∧ ((behindE fs x d).2 = 0 → (behindE fs x d).1 = behind fs x d ∧ 0 ≤ behind fs x d ∧ behind fs x d ≤ 16) := by
  unfold behindE
  obtain ⟨b, hb⟩ : ∃ b, b = behind fs x d := ⟨_, rfl⟩
  rw [← hb]
  unfold behind at hb
  generalize pops x.1 x.2.2 (argsOf fs x) = k at *
  generalize numb ly x.1 = y at *
  by_cases h1 : d < k
  · rw [if_pos (by omega)] at hb
    rw [if_pos h1, if_pos (by omega)]
    exact ⟨rfl, fun e => by cases e⟩
  · rw [if_neg (by omega)] at hb
    rw [if_neg h1, if_neg (by omega : ¬ b < 0)]
    by_cases h2 : 16 < d + (y - k)
    · rw [if_pos h2, if_pos (by omega)]
      exact ⟨rfl, fun e => by cases e⟩
    · rw [if_neg h2, if_neg (by omega)]
      exact ⟨rfl, fun _ => ⟨by show d + (y - k) = b; omega, by omega, by omega⟩⟩
/-- One instruction. -/
theorem R.look {n : Nat} {fs : List Fn} {co : List De} {dp : List Int} {dn : List Bool} {z : Z} (hn : co.length = n) (h : R n dp dn z) {a : Nat} (hx : chkI (co.getD a zero) = 0) :
    (lookZ n fs (co.getD a zero) a z).2 = (one fs co dp a).2 ∧ R n (one fs co dp a).1 dn (lookZ n fs (co.getD a zero) a z).1 := by
  unfold lookZ one
  rw [h.same, hn]
  have hk := (Go.Proofs.YtbekfjjajggffaaDoor.inst.chk_zero hx).1
  have hy := (lays_small (co.getD a zero).1).1
  obtain ⟨b1, b2⟩ := behind_zero (fs := fs) (x := co.getD a zero) (d := dp.getD a (-1)) hy
  by_cases h1 : behind fs (co.getD a zero) (dp.getD a (-1)) < 0
  · rw [if_pos h1] at b1 ⊢
    rw [b1, if_pos (by decide)]
    exact ⟨rfl, h⟩
  · rw [if_neg h1] at b1 ⊢
    by_cases h2 : 16 < behind fs (co.getD a zero) (dp.getD a (-1))
    · rw [if_pos h2] at b1 ⊢
      rw [b1, if_pos (by decide)]
      exact ⟨rfl, h⟩
    · rw [if_neg h2] at b1 ⊢
      obtain ⟨b3, b4, b5⟩ := b2 b1
      rw [b1, if_neg (by decide), b3]
      exact h.go b4 b5 hk a
/-- Where the next one stands. -/
theorem R.next {n : Nat} {dp : List Int} {dn : List Bool} {z : Z} (h : R n dp dn z) : pick dp dn n ≤ n ∧ z.le ≤ pick dp dn n ∧ (∀ i, z.le ≤ i → i < pick dp dn n → z.ah.getD i false = false) ∧
    (pick dp dn n < n → z.ah.getD (pick dp dn n) false = true ∧ R n dp (dn.set (pick dp dn n) true) ⟨z.dp, z.ah.set (pick dp dn n) false, pick dp dn n⟩) := by
  have hn : pick dp dn n ≤ n := by
    have := List.findIdx_le_length (xs := List.range n) (p := fun i => !dn.getD i true && decide (0 ≤ dp.getD i (-1)))
    rw [List.length_range] at this
    exact this
  have hb : ∀ i, i < pick dp dn n → z.ah.getD i false = false := fun i hi => by
    have h1 := List.not_of_lt_findIdx (xs := List.range n) (p := fun i => !dn.getD i true && decide (0 ≤ dp.getD i (-1))) (i := i) hi
    have e : (List.range n)[i]'(by rw [List.length_range]; omega) = i := List.getElem_range _
    rw [e] at h1
    rw [h.ahead i (by omega)]
    simpa using h1
  have ht : pick dp dn n < n → z.ah.getD (pick dp dn n) false = true := fun hp => by
    obtain ⟨p1, p2⟩ := pick_lt hp
    rw [h.ahead _ hp, p1, decide_eq_true p2]
    rfl
  refine ⟨hn, ?_, fun i _ hi => hb i hi, fun hp => ⟨ht hp, h.same, h.ld, by rw [List.length_set]; exact h.ln, by rw [List.length_set]; exact h.la, hn, fun i hi => ?_, fun i hi => ?_, fun i hi hd => ?_, h.rng⟩⟩
  · rcases Nat.lt_or_ge (pick dp dn n) z.le with hc | hc
    · by_cases hp : pick dp dn n < n
      · have := h.least _ hc
        rw [ht hp] at this
        cases this
      · have := h.le
        omega
    · exact hc
  · show (z.ah.set _ false).getD i false = _
    rw [getD_set, getD_set, h.la, h.ln]
    by_cases hi2 : pick dp dn n = i
    · rw [if_pos ⟨hi2, hi⟩, if_pos ⟨hi2, hi⟩]
      rfl
    · rw [if_neg (fun e => hi2 e.1), if_neg (fun e => hi2 e.1)]
      exact h.ahead i hi
  · show (z.ah.set _ false).getD i false = false
    rw [getD_set]
    split
    · rfl
    · exact hb i hi
  · rw [getD_set] at hd
    split at hd
    · rename_i h2
      rw [← h2.1]
      exact (pick_lt hp).2
    · exact h.known i hi hd
/-- Ahead of the first one. -/
theorem R.start {co : List De} (h : 0 < co.length) : R co.length (startQ co).dp (startQ co).dn ⟨0 :: List.replicate (co.length - 1) (-1), true :: List.replicate (co.length - 1) false, 0⟩ := by
  have hf : ∀ a, a < co.length → (List.replicate co.length false).getD a true = false := fun a ha => by
    rw [List.getD_eq_getElem?_getD, List.getElem?_replicate, if_pos ha]; rfl
  refine ⟨rfl, by simp [startQ]; omega, by simp [startQ], by simp; omega, Nat.zero_le _, fun i hi => ?_, fun i hi => absurd hi (Nat.not_lt_zero i), fun i hi hd => ?_, (start_inv (fs := []) h).rng⟩
  · rw [show (startQ co).dn.getD i true = false from hf i hi]
    cases i with
    | zero => rfl
    | succ i =>
      show (List.replicate (co.length - 1) false).getD i false = (!false && decide (0 ≤ (List.replicate (co.length - 1) (-1)).getD i (-1)))
      have e1 : (List.replicate (co.length - 1) false).getD i false = false := by rw [List.getD_eq_getElem?_getD, List.getElem?_replicate, if_pos (by omega)]; rfl
      have e2 : (List.replicate (co.length - 1) (-1 : Int)).getD i (-1) = -1 := by rw [List.getD_eq_getElem?_getD, List.getElem?_replicate, if_pos (by omega)]; rfl
      rw [e1]
      show false = (!false && decide (0 ≤ (List.replicate (co.length - 1) (-1 : Int)).getD i (-1)))
      simp only [e2]
      rfl
  · rw [show (startQ co).dn = List.replicate co.length false from rfl, hf i hi] at hd
    cases hd
/-- The first step of the program's own: all are unknown, and it goes to the first place. -/
theorem start_reach {n : Nat} (h : 0 < n) : reachZ n 0 ⟨List.replicate n (-1), List.replicate n false, 0⟩ 0 = (⟨0 :: List.replicate (n - 1) (-1), true :: List.replicate (n - 1) false, 0⟩, 0) := by
  obtain ⟨m, rfl⟩ : ∃ m, n = m + 1 := ⟨n - 1, by omega⟩
  unfold reachZ
  rw [if_neg (by omega), if_pos (by rfl)]
  rfl
/-- What is kept of what is wrong. -/
structure W2 (n : Nat) (q : Q) (pl er : Int) : Prop where
  er : er = (q.bad : Int)
  bad : q.bad ≠ 0 → pl = (q.first : Int)
  fine : q.bad = 0 → q.first = n
theorem W2.start (co : List De) : W2 co.length (startQ co) 0 0 := ⟨rfl, fun h => absurd rfl h, fun _ => rfl⟩
/-- The step that blames. -/
def blameZ (pl er : Int) (a : Nat) (e : Nat) : Int × Int := if e ≠ 0 ∧ (er = 0 ∨ (a : Int) < pl) then ((a : Int), (e : Int)) else (pl, er)
theorem W2.step {n : Nat} {fs : List Fn} {co : List De} {q : Q} {pl er : Int} (h : W2 n q pl er) {a : Nat} (ha : a < n) : W2 n (stepQ fs co q a) (blameZ pl er a (one fs co q.dp a).2).1 (blameZ pl er a (one fs co q.dp a).2).2 := by
  unfold stepQ blameZ
  have e1 := h.er
  generalize (one fs co q.dp a).2 = e at *
  by_cases he : e = 0
  · rw [if_neg (fun hh => hh.1 he), if_neg (fun hh => hh.1 he)]
    exact ⟨h.er, h.bad, h.fine⟩
  · by_cases hb : q.bad = 0
    · have hf := h.fine hb
      rw [if_pos ⟨he, by omega⟩, if_pos ⟨he, .inl (by omega)⟩]
      exact ⟨rfl, fun _ => rfl, fun hh => absurd hh he⟩
    · have hf := h.bad hb
      by_cases hl : a < q.first
      · rw [if_pos ⟨he, hl⟩, if_pos ⟨he, .inr (by omega)⟩]
        exact ⟨rfl, fun _ => rfl, fun hh => absurd hh he⟩
      · rw [if_neg (fun hh => hl hh.2), if_neg (fun hh => by rcases hh.2 with h3 | h3 <;> omega)]
        exact ⟨h.er, h.bad, h.fine⟩
theorem step_dn (fs : List Fn) (co : List De) (q : Q) (a : Nat) : (stepQ fs co q a).dn = q.dn.set a true := by unfold stepQ; split <;> rfl
theorem step_dp (fs : List Fn) (co : List De) (q : Q) (a : Nat) : (stepQ fs co q a).dp = (one fs co q.dp a).1 := by unfold stepQ; split <;> rfl
theorem run_end {fs : List Fn} {co : List De} {q : Q} (h : ¬ pick q.dp q.dn co.length < co.length) : ∀ j, runQ fs co j q = q
  | 0 => rfl
  | j + 1 => by unfold runQ; rw [if_neg h]
theorem run_step {fs : List Fn} {co : List De} {q : Q} (h : pick q.dp q.dn co.length < co.length) (j : Nat) : runQ fs co (j + 1) q = runQ fs co j (stepQ fs co q (pick q.dp q.dn co.length)) := by
  show (if pick q.dp q.dn co.length < co.length then _ else _) = _
  rw [if_pos h]
end Go.Proofs.YtbekfjjajggffaaDoor.pgm.dep

/-
  How a walk over a function's instructions lies in memory: a block of seven cells, the depths, and which are to be looked at; what a call may turn. No condition.
-/
namespace Go.Proofs.YtbekfjjajggffaaDoor.pgm.dep
open Go.RowKit Go.ChangeShapes
open Go.Proofs.YtbekfjjajggffaaDoor.pgm
open Go.Proofs.YtbekfjjajggffaaDoor.objs (De zero DAt cells3)
open Go.Proofs.YtbekfjjajggffaaDoor.nums (NAt ints ints_length ints_at)
set_option linter.unusedVariables false

/-- Of the blocks that were there none has turned but x, y and z; no block has gone. -/
structure Trn (x y z : Nat) (w w' : World) : Prop where
  os : w'.os = w.os
  tape : w'.tape = w.tape
  output : w'.output = w.output
  size : w.heap.size ≤ w'.heap.size
  block : ∀ k, k < w.heap.size → k ≠ x → k ≠ y → k ≠ z → w'.heap[k]? = w.heap[k]?
theorem Trn.refl (x y z : Nat) (w : World) : Trn x y z w w := ⟨rfl, rfl, rfl, Nat.le_refl _, fun _ _ _ _ _ => rfl⟩
theorem Trn.and {x y z : Nat} {a b c : World} (h : Trn x y z a b) (k : Trn x y z b c) : Trn x y z a c :=
  ⟨k.os.trans h.os, k.tape.trans h.tape, k.output.trans h.output, Nat.le_trans h.size k.size, fun i hi h1 h2 h3 => (k.block i (Nat.lt_of_lt_of_le hi h.size) h1 h2 h3).trans (h.block i hi h1 h2 h3)⟩
theorem Trn.drewN {x y z : Nat} {a w : World} (h : Trn x y z a w) (n : Nat) : Trn x y z a (w.drewN n) := ⟨h.os, h.tape, h.output, h.size, h.block⟩
theorem Trn.drew {x y z : Nat} {a w : World} (h : Trn x y z a w) : Trn x y z a w.drew := ⟨h.os, h.tape, h.output, h.size, h.block⟩
theorem Trn.setCell {x y z : Nat} {a w : World} (h : Trn x y z a w) {p : Addr} (hp : p.block = x ∨ p.block = y ∨ p.block = z) (u : Value) : Trn x y z a (w.setCell p u) :=
  ⟨h.os, h.tape, h.output, Nat.le_trans h.size (by simp [World.setCell]), fun k hk h1 h2 h3 => (Below.heap_setCell _ _ _ _ (by omega)).trans (h.block k hk h1 h2 h3)⟩
theorem Trn.of_below {x y z : Nat} {w w' : World} (h : Below w.heap.size w w') : Trn x y z w w' := ⟨h.os, h.tape, h.output, h.size, fun k hk _ _ _ => h.block k hk⟩
theorem Trn.below {x y z B : Nat} {w w' : World} (h : Trn x y z w w') (hx : B ≤ x) (hy : B ≤ y) (hz : B ≤ z) (hB : B ≤ w.heap.size) : Below B w w' :=
  ⟨h.os, h.tape, h.output, h.size, fun k hk => h.block k (by omega) (by omega) (by omega) (by omega)⟩

def yess (l : List Bool) : List Value := l.map Value.bool
theorem yess_length (l : List Bool) : (yess l).length = l.length := by simp [yess]
theorem yess_at {l : List Bool} {j : Nat} (h : j < l.length) : (yess l)[j]? = some (.bool (l.getD j false)) := by
  simp [yess, List.getD_eq_getElem?_getD, List.getElem?_eq_getElem h]
def wkB (vF vC : Value) (bd ba n : Nat) (le : Nat) (pl er : Int) : Obj := .cells #[vF, vC, .slice (some ⟨bd, 0, none⟩) n n, .slice (some ⟨ba, 0, none⟩) n n, .int .i64 (le : Int), .int .i64 pl, .int .i64 er] 109
/-- A walk lies in its three blocks. -/
structure Wk (W : World) (bw bd ba n : Nat) (vF vC : Value) (z : Z) (pl er : Int) : Prop where
  box : W.heap[bw]? = some (wkB vF vC bd ba n z.le pl er)
  rd : W.heap[bd]? = some (.cells (ints z.dp).toArray 3 (0, 0))
  ra : W.heap[ba]? = some (.cells (yess z.ah).toArray 4 (0, 0))
  n1 : bw ≠ bd
  n2 : bw ≠ ba
  n3 : bd ≠ ba
  ld : z.dp.length = n
  la : z.ah.length = n
theorem cells7 {W : World} {b : Nat} {x0 x1 x2 x3 x4 x5 x6 : Value} {T : TypeId} (h : W.heap[b]? = some (.cells #[x0, x1, x2, x3, x4, x5, x6] T (0, 0))) :
    W.cell? ⟨b, 0, none⟩ = some x0 ∧ W.cell? ⟨b, 1, none⟩ = some x1 ∧ W.cell? ⟨b, 2, none⟩ = some x2 ∧ W.cell? ⟨b, 3, none⟩ = some x3 ∧ W.cell? ⟨b, 4, none⟩ = some x4 ∧ W.cell? ⟨b, 5, none⟩ = some x5 ∧ W.cell? ⟨b, 6, none⟩ = some x6 ∧
    W.frozen? ⟨b, 4, none⟩ = false ∧ W.frozen? ⟨b, 5, none⟩ = false ∧ W.frozen? ⟨b, 6, none⟩ = false := by
  simp [World.cell?, World.frozen?, h]
theorem Wk.cells {W : World} {bw bd ba n : Nat} {vF vC : Value} {z : Z} {pl er : Int} (h : Wk W bw bd ba n vF vC z pl er) :
    W.cell? ⟨bw, 0, none⟩ = some vF ∧ W.cell? ⟨bw, 1, none⟩ = some vC ∧ W.cell? ⟨bw, 2, none⟩ = some (.slice (some ⟨bd, 0, none⟩) n n) ∧ W.cell? ⟨bw, 3, none⟩ = some (.slice (some ⟨ba, 0, none⟩) n n) ∧
    W.cell? ⟨bw, 4, none⟩ = some (.int .i64 (z.le : Int)) ∧ W.cell? ⟨bw, 5, none⟩ = some (.int .i64 pl) ∧ W.cell? ⟨bw, 6, none⟩ = some (.int .i64 er) ∧ W.frozen? ⟨bw, 4, none⟩ = false ∧ W.frozen? ⟨bw, 5, none⟩ = false ∧ W.frozen? ⟨bw, 6, none⟩ = false := cells7 h.box
theorem Wk.depth {W : World} {bw bd ba n : Nat} {vF vC : Value} {z : Z} {pl er : Int} (h : Wk W bw bd ba n vF vC z pl er) {t : Nat} (ht : t < n) :
    W.cell? ⟨bd, t, none⟩ = some (.int .i64 (z.dp.getD t (-1))) ∧ W.frozen? ⟨bd, t, none⟩ = false := by
  refine ⟨?_, frozen_of_row W bd t _ _ h.rd⟩
  rw [cell_of_row W bd t _ _ (0, 0) h.rd, List.getElem?_toArray, Go.Proofs.YtbekfjjajggffaaDoor.nums.ints_at (by rw [h.ld]; exact ht), Go.Proofs.YtbekfjjajggffaaDoor.nums.getD_any (by rw [h.ld]; exact ht) 0 (-1)]
theorem Wk.yes {W : World} {bw bd ba n : Nat} {vF vC : Value} {z : Z} {pl er : Int} (h : Wk W bw bd ba n vF vC z pl er) {t : Nat} (ht : t < n) :
    W.cell? ⟨ba, t, none⟩ = some (.bool (z.ah.getD t false)) ∧ W.frozen? ⟨ba, t, none⟩ = false := by
  refine ⟨?_, frozen_of_row W ba t _ _ h.ra⟩
  rw [cell_of_row W ba t _ _ (0, 0) h.ra, List.getElem?_toArray, yess_at (by rw [h.la]; exact ht)]
theorem Wk.lt {W : World} {bw bd ba n : Nat} {vF vC : Value} {z : Z} {pl er : Int} (h : Wk W bw bd ba n vF vC z pl er) : bw < W.heap.size ∧ bd < W.heap.size ∧ ba < W.heap.size := ⟨lt_of_block h.box, lt_of_block h.rd, lt_of_block h.ra⟩
theorem Wk.drewN {W : World} {bw bd ba n : Nat} {vF vC : Value} {z : Z} {pl er : Int} (h : Wk W bw bd ba n vF vC z pl er) (m : Nat) : Wk (W.drewN m) bw bd ba n vF vC z pl er := ⟨h.box, h.rd, h.ra, h.n1, h.n2, h.n3, h.ld, h.la⟩
theorem Wk.drew {W : World} {bw bd ba n : Nat} {vF vC : Value} {z : Z} {pl er : Int} (h : Wk W bw bd ba n vF vC z pl er) : Wk W.drew bw bd ba n vF vC z pl er := ⟨h.box, h.rd, h.ra, h.n1, h.n2, h.n3, h.ld, h.la⟩
theorem Wk.next {W W' : World} {bw bd ba n : Nat} {vF vC : Value} {z : Z} {pl er : Int} (h : Wk W bw bd ba n vF vC z pl er) (hb : Below W.heap.size W W') : Wk W' bw bd ba n vF vC z pl er :=
  ⟨(hb.block _ h.lt.1).trans h.box, (hb.block _ h.lt.2.1).trans h.rd, (hb.block _ h.lt.2.2).trans h.ra, h.n1, h.n2, h.n3, h.ld, h.la⟩
theorem row_setCell {w : World} {b j : Nat} {cur : Array Value} {t : TypeId} (h : w.heap[b]? = some (.cells cur t (0, 0))) (u : Value) : (w.setCell ⟨b, j, none⟩ u).heap[b]? = some (.cells (cur.setIfInBounds j u) t (0, 0)) :=
  heap_setCell_same w b j cur t u h
/-- The least place is stored. -/
theorem Wk.least {W : World} {bw bd ba n : Nat} {vF vC : Value} {z : Z} {pl er : Int} (h : Wk W bw bd ba n vF vC z pl er) (m : Nat) : Wk (W.setCell ⟨bw, 4, none⟩ (.int .i64 (m : Int))) bw bd ba n vF vC ⟨z.dp, z.ah, m⟩ pl er :=
  ⟨row_setCell h.box _, (Below.heap_setCell _ _ _ _ (Ne.symm h.n1)).trans h.rd, (Below.heap_setCell _ _ _ _ (Ne.symm h.n2)).trans h.ra, h.n1, h.n2, h.n3, h.ld, h.la⟩
/-- What is wrong, and where, is stored. -/
theorem Wk.wrong {W : World} {bw bd ba n : Nat} {vF vC : Value} {z : Z} {pl er : Int} (h : Wk W bw bd ba n vF vC z pl er) (p e : Int) : Wk ((W.setCell ⟨bw, 5, none⟩ (.int .i64 p)).setCell ⟨bw, 6, none⟩ (.int .i64 e)) bw bd ba n vF vC z p e :=
  ⟨row_setCell (row_setCell h.box _) _, (Below.heap_setCell _ _ _ _ (Ne.symm h.n1)).trans ((Below.heap_setCell _ _ _ _ (Ne.symm h.n1)).trans h.rd), (Below.heap_setCell _ _ _ _ (Ne.symm h.n2)).trans ((Below.heap_setCell _ _ _ _ (Ne.symm h.n2)).trans h.ra), h.n1, h.n2, h.n3, h.ld, h.la⟩
/-- A depth is stored. -/
theorem Wk.deep {W : World} {bw bd ba n : Nat} {vF vC : Value} {z : Z} {pl er : Int} (h : Wk W bw bd ba n vF vC z pl er) (t : Nat) (d : Int) : Wk (W.setCell ⟨bd, t, none⟩ (.int .i64 d)) bw bd ba n vF vC ⟨z.dp.set t d, z.ah, z.le⟩ pl er :=
  ⟨(Below.heap_setCell _ _ _ _ h.n1).trans h.box, (row_setCell h.rd _).trans (by simp [ints, List.map_set]), (Below.heap_setCell _ _ _ _ (Ne.symm h.n3)).trans h.ra, h.n1, h.n2, h.n3, by rw [List.length_set]; exact h.ld, h.la⟩
/-- Whether one is to be looked at is stored. -/
theorem Wk.mark {W : World} {bw bd ba n : Nat} {vF vC : Value} {z : Z} {pl er : Int} (h : Wk W bw bd ba n vF vC z pl er) (t : Nat) (b : Bool) : Wk (W.setCell ⟨ba, t, none⟩ (.bool b)) bw bd ba n vF vC ⟨z.dp, z.ah.set t b, z.le⟩ pl er :=
  ⟨(Below.heap_setCell _ _ _ _ h.n2).trans h.box, (Below.heap_setCell _ _ _ _ h.n3).trans h.rd, (row_setCell h.ra _).trans (by simp [yess, List.map_set]), h.n1, h.n2, h.n3, h.ld, by rw [List.length_set]; exact h.la⟩
end Go.Proofs.YtbekfjjajggffaaDoor.pgm.dep

/-
  The document's own look at one instruction, by depths that are known. The instruction may be, of at most 200; the functions' arguments are from 0 to 8; the depth is from 0 to 16.
-/
namespace Go.Proofs.YtbekfjjajggffaaDoor.pgm.dep
open Go.RowKit Go.ChangeShapes
open Go.Proofs.YtbekfjjajggffaaDoor.pgm
open Go.Proofs.YtbekfjjajggffaaDoor.objs (De zero DAt CellsAt cells3)
open Go.Proofs.YtbekfjjajggffaaDoor.nums (NAt ints OwnI OwnI.at OwnI.keep OwnI.lt OwnI.next)
set_option linter.unusedVariables false

theorem lt_of_cell {W : World} {b i : Nat} {v : Value} (h : W.cell? ⟨b, i, none⟩ = some v) : b < W.heap.size := World.block_lt_of_cell? W _ h
/-- Depths lie in a block, from its head on. -/
def RowD (W : World) (b : Nat) (dp : List Int) : Prop := W.heap[b]? = some (.cells (ints dp).toArray 3 (0, 0))
theorem RowD.cell {W : World} {b : Nat} {dp : List Int} (h : RowD W b dp) {t : Nat} (ht : t < dp.length) : W.cell? ⟨b, t, none⟩ = some (.int .i64 (dp.getD t (-1))) ∧ W.frozen? ⟨b, t, none⟩ = false := by
  refine ⟨?_, frozen_of_row W b t _ _ h⟩
  rw [cell_of_row W b t _ _ (0, 0) h, List.getElem?_toArray, Go.Proofs.YtbekfjjajggffaaDoor.nums.ints_at ht, Go.Proofs.YtbekfjjajggffaaDoor.nums.getD_any ht 0 (-1)]
theorem RowD.set {W : World} {b : Nat} {dp : List Int} (h : RowD W b dp) (t : Nat) (d : Int) : RowD (W.setCell ⟨b, t, none⟩ (.int .i64 d)) b (dp.set t d) := (row_setCell h _).trans (by simp [ints, List.map_set])
theorem RowD.lt {W : World} {b : Nat} {dp : List Int} (h : RowD W b dp) : b < W.heap.size := lt_of_block h
theorem lead_cons (n : Nat) (d : Int) (t : Nat) (l : List Nat) (dp : List Int) : lead n d (t :: l) dp = if n ≤ t then (dp, 3) else if 0 ≤ dp.getD t (-1) ∧ dp.getD t (-1) ≠ d then (dp, 2) else lead n d l (dp.set t d) := rfl
theorem ways_len (x : De) (a : Nat) : (ways x a).length ≤ 2 := by
  unfold ways
  rw [List.length_append]
  split <;> split <;> simp

set_option maxRecDepth 100000 in
set_option maxHeartbeats 8000000 in
theorem refOne_any (v : Value) (p : Pg) (C : Option Addr) (cc : Nat) (co : List De) (dp : List Int) (bd n a : Nat) (w : World) (hv : PAt w v p) (hl : p.fs.length ≤ 16) (hf : ∀ f ∈ p.fs, 0 ≤ f.ar ∧ f.ar ≤ 8)
    (hC : DAt w C co) (hn : co.length = n) (hn2 : n ≤ 200) (ha : a < n) (hx : chkI (co.getD a zero) = 0) (hd : RowD w bd dp) (hld : dp.length = n) (hrng : ∀ y ∈ dp, -1 ≤ y ∧ y ≤ 16) (h0 : 0 ≤ dp.getD a (-1)) :
    Calls Tryd.prog 68 #[v, .slice C n cc, .slice (some ⟨bd, 0, none⟩) n n, .int .i64 (a : Int)] w fun e w' =>
      e = .returned (.tuple #[.slice (some ⟨bd, 0, none⟩) n n, .int .i64 ((one p.fs co dp a).2 : Int)]) ∧ RowD w' bd (one p.fs co dp a).1 ∧ Trn bd bd bd w w' := by
  obtain ⟨A, B, D, ca, cb, cd, rfl, h1, h2, h3⟩ := id hv
  have hb0 : Below w.heap.size w (w.alloc (pgB (.slice A p.ds.length ca) (.slice B p.ws.length cb) (.slice D p.fs.length cd))) := (Below.refl _ _).alloc (Nat.le_refl _) _
  have hx0 := heap_alloc_new w (pgB (.slice A p.ds.length ca) (.slice B p.ws.length cb) (.slice D p.fs.length cd))
  have hlt := hd.lt
  have h16 : dp.getD a (-1) ≤ 16 := (hrng _ (Go.Proofs.YtbekfjjajggffaaDoor.pgm.getD_in (by omega))).2
  have HBe := Lib.hid (refBehind_any _ p (co.getD a zero) (dp.getD a (-1)) (w.alloc (pgB (.slice A p.ds.length ca) (.slice B p.ws.length cb) (.slice D p.fs.length cd))).drew ((hv.next hb0).next (Below.refl _ _).drew) hl hf hx h0 h16)
  have HD0 : Hid (RowD (w.alloc (pgB (.slice A p.ds.length ca) (.slice B p.ws.length cb) (.slice D p.fs.length cd))) bd dp) := Lib.hid ((hb0.block _ hlt).trans hd)
  have HB0 := Lib.hid hb0
  obtain ⟨b1, o1, rfl, hb1, d0, d1, d2⟩ := hC.next hb0 a (by omega)
  have hpl := fun h => place_small hx h
  obtain ⟨r, hr⟩ : ∃ r, r = one p.fs co dp a := ⟨_, rfl⟩
  rw [← hr]
  unfold one at hr
  obtain ⟨L, hL⟩ : ∃ L, L = ways (co.getD a zero) a := ⟨_, rfl⟩
  have HWy := fun W => Lib.hid (refWays_any (co.getD a zero) a W (by omega) (fun h => (hpl h).1))
  rw [← hL] at HWy
  rw [← hL, hn] at hr
  have hwl : L.length ≤ 2 := by rw [hL]; exact ways_len _ _
  obtain ⟨x0, -⟩ := HD0.out.cell (t := a) (by omega)
  generalize behind p.fs (co.getD a zero) (dp.getD a (-1)) = d at *
  generalize dp.getD a (-1) = dd at *
  generalize co.getD a zero = x at *
  obtain ⟨o, xp, xq⟩ := x
  dsimp only at *
  have HR := Lib.hid hr
  have g0 : (0 : Int) ≤ (a : Int) := by omega
  have g1 : (a : Int) < (n : Int) := by omega
  unfold pgB at hx0 HBe HD0 HB0 x0 d0 d1 d2
  have hC1 := hC.next HB0.out
  have HRng := Lib.hid hrng
  have HLD := Lib.hid hld
  clear hr hpl hL hx hd hb0 hv h1 h2 h3 hC hf hld hrng
  go_enter Tryd.func68, Tryd.ntmps68
  go_upto_region 1 with fail
  generalize hW0 : w.alloc (.cells #[.slice A p.ds.length ca, .slice B p.ws.length cb, .slice D p.fs.length cd] 26) = W0 at *
  clear hW0
  obtain ⟨p0, p1, p2, -, -, -⟩ := cells3 hx0
  go_still_tail 9, (by kernel_rfl)
  change wpList _ _ _ _ _ W0.drew
  have HB1 : Hid (Below w.heap.size w W0.drew) := Lib.hid HB0.out.drew
  have HD1 : Hid (RowD W0.drew bd dp) := Lib.hid HD0.out
  have HC1 : Hid (DAt W0.drew (some ⟨b1, o1, none⟩) co) := Lib.hid hC1.drew
  have hd1 : CellsAt W0.drew b1 (o1 + a * 3) (o, xp, xq) := ⟨d0, d1, d2⟩
  generalize W0.drew = W1 at *
  clear HB0 HD0 p0 p1 p2 d0 d1 d2 x0 hx0 hC1
  go_wp2_with fail
  refine HBe.out.mono ?_
  rintro _ w2 ⟨rfl, hb2⟩
  have HB2 := Lib.hid (HB1.out.trans (hb2.mono HB1.out.size))
  have HD2 : Hid (RowD w2 bd dp) := Lib.hid ((hb2.block _ HD1.out.lt).trans HD1.out)
  have hbb : b1 < W1.heap.size := lt_of_cell hd1.1
  obtain ⟨d0, d1, d2⟩ := hd1.keep (hb2.block _ hbb)
  clear hb2 HBe HB1 HD1 HC1 hd1
  by_cases h1 : d < 0
  · have hr := HR.out
    rw [if_pos h1] at hr
    subst hr
    have q0 : decide (d < 0) = true := decide_eq_true h1
    go_wp2
    go_ret2
    exact ⟨rfl, HD2.out, Trn.of_below HB2.out⟩
  · have q0 : decide (d < 0) = false := decide_eq_false h1
    by_cases h2 : 16 < d
    · have hr := HR.out
      rw [if_neg h1, if_pos h2] at hr
      subst hr
      have q1 : decide (d > 16) = true := decide_eq_true h2
      go_wp2
      go_ret2
      exact ⟨rfl, HD2.out, Trn.of_below HB2.out⟩
    · have q1 : decide (d > 16) = false := decide_eq_false h2
      have hr := HR.out
      rw [if_neg h1, if_neg h2] at hr
      have HR2 := Lib.hid hr
      clear hr HR
      go_wp2_with fail
      refine (HWy _).out.mono ?_
      rintro _ w3 ⟨A3, c3, rfl, ho3, hb3⟩
      have HB3 := Lib.hid (HB2.out.trans (hb3.mono HB2.out.size))
      have HD3 : Hid (RowD w3 bd dp) := Lib.hid ((hb3.block _ HD2.out.lt).trans HD2.out)
      have HO3 := Lib.hid (ho3.base HB2.out.size)
      clear ho3 hb3 HWy d0 d1 d2 HD2 HB2
      go_wp2_with fail
      go_loopw [12] (fun i wr => ∃ (j : Nat) (dj : List Int), i = .int .i64 (j : Int) ∧ j ≤ L.length ∧ Hid (r = lead n d (L.drop j) dj) ∧ Hid (dj.length = n) ∧ Hid (∀ y ∈ dj, -1 ≤ y ∧ y ≤ 16) ∧ Hid (RowD wr bd dj) ∧ Hid (OwnI wr w.heap.size (.slice A3 L.length c3) (nats L)) ∧ Hid (Trn bd bd bd w wr)) (fun i _ => L.length - (intOf i).toNat)
      case atStart => exact ⟨0, dp, rfl, Nat.zero_le _, Lib.hid (by rw [HR2.out]; rfl), HLD, HRng, HD3, HO3, Lib.hid (Trn.of_below HB3.out)⟩
      case round =>
        obtain ⟨j, dj, rfl, hj, HE, HL, HG, HD, HO, HT⟩ := hrel
        clear HD3 HO3 HB3 HR2 HLD HRng
        by_cases hlt2 : j < L.length
        · have q2 : decide ((j : Int) < (L.length : Int)) = true := decide_eq_true (by omega)
          obtain ⟨b3, o3, rfl, hb3, n3⟩ := HO.out.at j (by rw [nats_length]; exact hlt2)
          have en : (nats L).getD j 0 = ((L.getD j 0 : Nat) : Int) := by
            unfold nats
            rw [List.getD_eq_getElem?_getD, List.getD_eq_getElem?_getD, List.getElem?_map, List.getElem?_eq_getElem hlt2]
            rfl
          rw [en] at n3
          have hEE := HE.out
          rw [List.drop_eq_getElem_cons hlt2, lead_cons, show L[j] = L.getD j 0 by rw [List.getD_eq_getElem?_getD, List.getElem?_eq_getElem hlt2]; rfl] at hEE
          have hne : b3 ≠ bd := by
            have := (HO.out.lt (g := b3) rfl).1
            omega
          generalize L.getD j 0 = t at *
          have h30 : (0 : Int) ≤ (j : Int) := by omega
          have h31 : (j : Int) < (L.length : Int) := by omega
          by_cases ht : n ≤ t
          · rw [if_pos ht] at hEE
            subst hEE
            have q3 : decide ((t : Int) ≥ (n : Int)) = true := decide_eq_true (by omega)
            go_wp2_with fail
            go_ret2
            exact ⟨rfl, HD.out, HT.out⟩
          · rw [if_neg ht] at hEE
            have q3 : decide ((t : Int) ≥ (n : Int)) = false := decide_eq_false (by omega)
            have h40 : (0 : Int) ≤ (t : Int) := by omega
            have h41 : (t : Int) < (n : Int) := by omega
            obtain ⟨x0, y0⟩ := HD.out.cell (t := t) (by rw [HL.out]; omega)
            by_cases hc : 0 ≤ dj.getD t (-1) ∧ dj.getD t (-1) ≠ d
            · rw [if_pos hc] at hEE
              subst hEE
              obtain ⟨hc0, hc1⟩ := hc
              have q4 : decide (dj.getD t (-1) ≥ 0) = true := decide_eq_true hc0
              have q5 : (dj.getD t (-1) != d) = true := by simpa using hc1
              generalize dj.getD t (-1) = dt at *
              go_wp2_with fail
              go_ret2
              exact ⟨rfl, HD.out, HT.out⟩
            · rw [if_neg hc] at hEE
              have HE2 := Lib.hid hEE
              have HD4 := Lib.hid (HD.out.set t d)
              have HT4 := Lib.hid (HT.out.setCell (p := ⟨bd, t, none⟩) (.inl rfl) (.int .i64 d))
              have HO4 := Lib.hid (HO.out.keep (w' := wr.setCell ⟨bd, t, none⟩ (.int .i64 d)) (fun g hg => by
                obtain rfl : b3 = g := by simpa [Value.ownBlock] using hg
                exact Below.heap_setCell _ _ _ _ hne))
              have HG4 : Hid (∀ y ∈ dj.set t d, -1 ≤ y ∧ y ≤ 16) := Lib.hid fun y hy => by
                rcases List.mem_or_eq_of_mem_set hy with hy | rfl
                · exact HG.out y hy
                · omega
              have HL4 : Hid ((dj.set t d).length = n) := Lib.hid (by rw [List.length_set]; exact HL.out)
              clear hEE HE HD HT HO
              by_cases hn : 0 ≤ dj.getD t (-1)
              · have q4 : decide (dj.getD t (-1) ≥ 0) = true := decide_eq_true hn
                have q5 : (dj.getD t (-1) != d) = false := by
                  have : dj.getD t (-1) = d := by
                    by_cases e : dj.getD t (-1) = d
                    · exact e
                    · exact absurd ⟨hn, e⟩ hc
                  simpa using this
                clear hc hn
                generalize dj.getD t (-1) = dt at *
                go_wp2_with fail
                go_roundw
                case rel => exact ⟨j + 1, dj.set t d, by go_num, by omega, HE2, HL4, HG4, HD4, HO4, HT4⟩
                case measure => simp [intOf]; omega
              · have q4 : decide (dj.getD t (-1) ≥ 0) = false := decide_eq_false hn
                clear hc hn
                generalize dj.getD t (-1) = dt at *
                go_wp2_with fail
                go_roundw
                case rel => exact ⟨j + 1, dj.set t d, by go_num, by omega, HE2, HL4, HG4, HD4, HO4, HT4⟩
                case measure => simp [intOf]; omega
        · obtain rfl : j = L.length := by omega
          have q2 : decide ((L.length : Int) < (L.length : Int)) = false := decide_eq_false (by omega)
          have hEE := HE.out
          rw [List.drop_length] at hEE
          subst hEE
          clear HE
          go_wp2_with fail
          go_ret2
          exact ⟨rfl, HD.out, HT.out⟩
end Go.Proofs.YtbekfjjajggffaaDoor.pgm.dep
