/-
  Texts of one claim in one file: VRefOpd, VThere, Nums, HRefWays. Each has its own sentence, with its conditions.
-/
import Derived.Test.YtbekfjjajggffaaDoorVall15
import Derived.Test.YtbekfjjajggffaaDoorVall7
import Derived.Test.YtbekfjjajggffaaDoorProg
import Derived.WalkKit
import Derived.ProofKit
import Derived.IntWalk
import Derived.LoopTactic
import Derived.Lib.Hide
import Derived.Below
import Derived.Outline
import Derived.OwnWalk
import Derived.Deep.RegionLaw
import Derived.Deep.AppendLies
import Derived.Laws.AppendOwnNone
import Derived.Maps.AppendAt
import Derived.Deep.QuietTactic
import Derived.BigQuiet
import Derived.Deep.Cut
import Derived.Deep.CutBlock
import Derived.Deep.DeepCutAuto
import Derived.Deep.RegionHeld3
import Derived.Test.YtbekfjjajggffaaDoorVall11
import Derived.Test.YtbekfjjajggffaaDoorVall10
/-
  The document's own answer of what is wrong with an operand. A function's number is not below 0; lists as a machine can hold them.
-/
namespace Go.Proofs.YtbekfjjajggffaaDoor.pgm.ver
open Go.RowKit Go.ChangeShapes
open Go.Proofs.YtbekfjjajggffaaDoor.pgm
open Go.Proofs.YtbekfjjajggffaaDoor.objs (De zero DAt cells3 fits refFits_any)
open Go.Proofs.YtbekfjjajggffaaDoor.oper (insBox)
set_option linter.unusedVariables false

/-- A function handed in by value. -/
def fnV (ar lo : Int) (A : Option Addr) (n c : Nat) : Obj := .cells #[.int .i64 ar, .int .i64 lo, .slice A n c] 44

set_option maxRecDepth 100000 in
set_option maxHeartbeats 8000000 in
theorem refOperand_any (v : Value) (p : Pg) (f : Fn) (x : De) (c : UInt8) (n : Int) (Af : Option Addr) (cf : Nat) (w : World) (hv : PAt w v p) (hl : p.ds.length ≤ 1000) (hl2 : p.ws.length ≤ 1000) (hl3 : p.fs.length ≤ 1000) (hl4 : f.co.length ≤ 1000) (hn : c = 102 → 0 ≤ n) :
    Calls Tryd.prog 45 #[v, .agg #[.int .i64 f.ar, .int .i64 f.lo, .slice Af f.co.length cf], .agg #[.int .i64 x.1, .int .i64 x.2.1, .int .i64 x.2.2], .int .u8 (c.toNat : Int), .int .i64 n] w fun e w' =>
      e = .returned (.int .i64 ((opV p f x.1 c n : Nat) : Int)) ∧ Below w.heap.size w w' := by
  obtain ⟨A, B, C, ca, cb, cc, rfl, hA, hB, hC⟩ := hv
  obtain ⟨r, hr⟩ : ∃ r, r = opV p f x.1 c n := ⟨_, rfl⟩
  rw [← hr]
  unfold opV at hr
  have z1 : (w.alloc (pgB (.slice A p.ds.length ca) (.slice B p.ws.length cb) (.slice C p.fs.length cc))).heap.size = w.heap.size + 1 := World.size_alloc _ _
  have z2 : ((w.alloc (pgB (.slice A p.ds.length ca) (.slice B p.ws.length cb) (.slice C p.fs.length cc))).alloc (fnV f.ar f.lo Af f.co.length cf)).heap.size = w.heap.size + 1 + 1 := by rw [World.size_alloc, World.size_alloc]
  have hb0 : Below w.heap.size w (((w.alloc (pgB (.slice A p.ds.length ca) (.slice B p.ws.length cb) (.slice C p.fs.length cc))).alloc (fnV f.ar f.lo Af f.co.length cf)).alloc (insBox x.1 x.2.1 x.2.2)) := (((Below.refl _ w).alloc (Nat.le_refl _) _).alloc (by omega) _).alloc (by omega) _
  have hx0 : (((w.alloc (pgB (.slice A p.ds.length ca) (.slice B p.ws.length cb) (.slice C p.fs.length cc))).alloc (fnV f.ar f.lo Af f.co.length cf)).alloc (insBox x.1 x.2.1 x.2.2)).heap[w.heap.size]? = some (pgB (.slice A p.ds.length ca) (.slice B p.ws.length cb) (.slice C p.fs.length cc)) :=
    (Below.heap_alloc _ _ _ (by omega)).trans ((Below.heap_alloc _ _ _ (by omega)).trans (heap_alloc_new _ _))
  have hx1 : (((w.alloc (pgB (.slice A p.ds.length ca) (.slice B p.ws.length cb) (.slice C p.fs.length cc))).alloc (fnV f.ar f.lo Af f.co.length cf)).alloc (insBox x.1 x.2.1 x.2.2)).heap[w.heap.size + 1]? = some (fnV f.ar f.lo Af f.co.length cf) :=
    (Below.heap_alloc _ _ _ (by omega)).trans (by rw [← z1]; exact heap_alloc_new _ _)
  have hx2 : (((w.alloc (pgB (.slice A p.ds.length ca) (.slice B p.ws.length cb) (.slice C p.fs.length cc))).alloc (fnV f.ar f.lo Af f.co.length cf)).alloc (insBox x.1 x.2.1 x.2.2)).heap[w.heap.size + 1 + 1]? = some (insBox x.1 x.2.1 x.2.2) := by
    rw [← z2]; exact heap_alloc_new _ _
  have HB0 := Lib.hid hb0
  have HA := Lib.hid (hA.next hb0)
  have HC := Lib.hid (hC.next hb0)
  obtain ⟨ar, lo, co⟩ := f
  obtain ⟨o, xp, xq⟩ := x
  dsimp only at *
  unfold pgB fnV insBox at hx0 hx1 hx2 HB0 HA HC
  clear z1 z2 hb0 hA hB hC
  have HOb := fun W => Lib.hid (refObject_any c W)
  have HFi := fun W h => Lib.hid (refFits_any A ca p.ds c n (by omega) W h)
  have HR := Lib.hid hr
  have HN := Lib.hid hn
  clear hn
  go_enter Tryd.func45, Tryd.ntmps45
  go_upto_region 1 with fail
  generalize hW0 : ((w.alloc (.cells #[.slice A p.ds.length ca, .slice B p.ws.length cb, .slice C p.fs.length cc] 26)).alloc (.cells #[.int .i64 ar, .int .i64 lo, .slice Af co.length cf] 44)).alloc (.cells #[.int .i64 o, .int .i64 xp, .int .i64 xq] 46) = W0 at *
  clear hW0 hr
  obtain ⟨x0, x1, x2, -, -, -⟩ := cells3 hx0
  obtain ⟨y0, y1, y2, -, -, -⟩ := cells3 hx1
  obtain ⟨i0, i1, i2, -, -, -⟩ := cells3 hx2
  clear hx0 hx1 hx2
  by_cases h1 : c = 107
  · subst h1
    by_cases hq : lo ≤ n
    · have hv := HR.out
      rw [if_pos (.inl ⟨rfl, hq⟩)] at hv
      subst hv
      have q0 : decide (n ≥ lo) = true := decide_eq_true hq
      go_wp2
      go_ret
      exact ⟨rfl, HB0.out⟩
    · have hv := HR.out
      rw [if_neg (fun h => by rcases h with h | h | h; exact hq h.2; exact absurd h.1 (by decide); exact absurd h.1 (by decide)), if_neg (fun h => absurd h.1 (by decide)), if_neg (fun h => absurd h.1 (by decide))] at hv
      subst hv
      have q0 : decide (n ≥ lo) = false := decide_eq_false (by omega)
      have HO2 := fun W => HOb W
      rw [show objV 107 = false from by decide] at HO2
      clear HOb HFi
      go_wp2_with fail
      refine (HO2 _).out.mono ?_
      rintro _ _ ⟨rfl, rfl⟩
      go_wp2
      go_ret
      exact ⟨rfl, HB0.out⟩
  · by_cases h2 : c = 116
    · subst h2
      by_cases hq : (co.length : Int) ≤ n
      · have hv := HR.out
        rw [if_pos (.inr (.inl ⟨rfl, hq⟩))] at hv
        subst hv
        have q0 : decide (n ≥ (co.length : Int)) = true := decide_eq_true hq
        go_wp2
        go_ret
        exact ⟨rfl, HB0.out⟩
      · have hv := HR.out
        rw [if_neg (fun h => by rcases h with h | h | h; exact absurd h.1 (by decide); exact hq h.2; exact absurd h.1 (by decide)), if_neg (fun h => absurd h.1 (by decide)), if_neg (fun h => absurd h.1 (by decide))] at hv
        subst hv
        have q0 : decide (n ≥ (co.length : Int)) = false := decide_eq_false (by omega)
        have HO2 := fun W => HOb W
        rw [show objV 116 = false from by decide] at HO2
        clear HOb HFi
        go_wp2_with fail
        refine (HO2 _).out.mono ?_
        rintro _ _ ⟨rfl, rfl⟩
        go_wp2
        go_ret
        exact ⟨rfl, HB0.out⟩
    · by_cases h3 : c = 119
      · subst h3
        by_cases hq : (p.ws.length : Int) ≤ n
        · have hv := HR.out
          rw [if_pos (.inr (.inr ⟨rfl, hq⟩))] at hv
          subst hv
          have q0 : decide (n ≥ (p.ws.length : Int)) = true := decide_eq_true hq
          go_wp2
          go_ret
          exact ⟨rfl, HB0.out⟩
        · have hv := HR.out
          rw [if_neg (fun h => by rcases h with h | h | h; exact absurd h.1 (by decide); exact absurd h.1 (by decide); exact hq h.2), if_neg (fun h => absurd h.1 (by decide)), if_neg (fun h => absurd h.1 (by decide))] at hv
          subst hv
          have q0 : decide (n ≥ (p.ws.length : Int)) = false := decide_eq_false (by omega)
          have HO2 := fun W => HOb W
          rw [show objV 119 = false from by decide] at HO2
          clear HOb HFi
          go_wp2_with fail
          refine (HO2 _).out.mono ?_
          rintro _ _ ⟨rfl, rfl⟩
          go_wp2
          go_ret
          exact ⟨rfl, HB0.out⟩
      · have m1 : ((c.toNat : Int) == 107) = false := (letter_ne h1).1
        have m2 : ((c.toNat : Int) == 116) = false := (letter_ne h2).1
        have m3 : ((c.toNat : Int) == 119) = false := (letter_ne h3).1
        have hv := HR.out
        rw [if_neg (fun h => by rcases h with h | h | h; exact h1 h.1; exact h2 h.1; exact h3 h.1)] at hv
        have HV := Lib.hid hv
        clear hv
        by_cases h4 : c = 102
        · subst h4
          have HO2 := fun W => HOb W
          rw [show objV 102 = false from by decide] at HO2
          have hn0 := HN.out rfl
          by_cases hq : (p.fs.length : Int) ≤ n
          · have hv := HV.out
            rw [if_pos ⟨rfl, .inl hq⟩] at hv
            subst hv
            have q0 : decide (n ≥ (p.fs.length : Int)) = true := decide_eq_true hq
            go_wp2
            go_ret
            exact ⟨rfl, HB0.out⟩
          · obtain ⟨j, rfl⟩ : ∃ j : Nat, n = (j : Int) := ⟨n.toNat, by omega⟩
            have q0 : decide ((j : Int) ≥ (p.fs.length : Int)) = false := decide_eq_false hq
            have q0' : decide (p.fs.length ≤ j) = false := decide_eq_false (by omega)
            have hj : j < p.fs.length := by omega
            obtain ⟨g, off, Aj, cj, rfl, hg, ⟨f0, f1, f2⟩, _⟩ := HC.out j hj
            have hv := HV.out
            rw [Int.toNat_natCast] at hv
            generalize (p.fs.getD j Fn.zero).ar = fa at *
            have k0 : (0 : Int) ≤ (j : Int) := by omega
            have k1 : (j : Int) < (p.fs.length : Int) := by omega
            by_cases ho : o = 40
            · by_cases hfa : fa = 1
              · rw [if_neg (fun h => by rcases h.2 with h | h; exact hq h; exact h.2 hfa), if_neg (fun h => absurd h.1 (by decide))] at hv
                subst hv
                have e1 : (o == 40) = true := by simpa using ho
                have e2 : (fa != 1) = false := by simpa using hfa
                clear ho hfa
                go_wp2_with fail
                refine (HO2 _).out.mono ?_
                rintro _ _ ⟨rfl, rfl⟩
                go_wp2
                go_ret
                exact ⟨rfl, HB0.out⟩
              · rw [if_pos ⟨rfl, .inr ⟨ho, hfa⟩⟩] at hv
                subst hv
                have e1 : (o == 40) = true := by simpa using ho
                have e2 : (fa != 1) = true := by simpa using hfa
                clear ho hfa
                go_wp2
                go_ret
                exact ⟨rfl, HB0.out⟩
            · rw [if_neg (fun h => by rcases h.2 with h | h; exact hq h; exact ho h.1), if_neg (fun h => absurd h.1 (by decide))] at hv
              subst hv
              have e1 : (o == 40) = false := by simpa using ho
              clear ho
              go_wp2_with fail
              refine (HO2 _).out.mono ?_
              rintro _ _ ⟨rfl, rfl⟩
              go_wp2
              go_ret
              exact ⟨rfl, HB0.out⟩
        · have m4 : ((c.toNat : Int) == 102) = false := (letter_ne h4).1
          have hv := HV.out
          rw [if_neg (fun h => h4 h.1)] at hv
          cases hob : objV c with
          | false =>
            rw [if_neg (fun h => by rw [hob] at h; cases h.1)] at hv
            subst hv
            have HO2 := fun W => HOb W
            rw [hob] at HO2
            clear HOb HFi h1 h2 h3 h4
            go_wp2_with fail
            refine (HO2 _).out.mono ?_
            rintro _ _ ⟨rfl, rfl⟩
            go_wp2
            go_ret
            exact ⟨rfl, HB0.out⟩
          | true =>
            have HO2 := fun W => HOb W
            rw [hob] at HO2
            cases hfi : fits p.ds c n with
            | false =>
              rw [if_pos ⟨hob, hfi⟩] at hv
              subst hv
              rw [hfi] at HFi
              clear HOb h1 h2 h3 h4
              go_wp2_with fail
              refine (HO2 _).out.mono ?_
              rintro _ _ ⟨rfl, rfl⟩
              go_wp2_with fail
              refine (HFi _ HA.out).out.mono ?_
              rintro _ w2 ⟨rfl, hb2⟩
              have HB2 := Lib.hid (HB0.out.trans (hb2.mono HB0.out.size))
              clear hb2
              go_wp2
              go_ret
              exact ⟨rfl, HB2.out⟩
            | true =>
              rw [if_neg (fun h => by rw [hfi] at h; cases h.2)] at hv
              subst hv
              rw [hfi] at HFi
              clear HOb h1 h2 h3 h4
              go_wp2_with fail
              refine (HO2 _).out.mono ?_
              rintro _ _ ⟨rfl, rfl⟩
              go_wp2_with fail
              refine (HFi _ HA.out).out.mono ?_
              rintro _ w2 ⟨rfl, hb2⟩
              have HB2 := Lib.hid (HB0.out.trans (hb2.mono HB0.out.size))
              clear hb2
              go_wp2
              go_ret
              exact ⟨rfl, HB2.out⟩
end Go.Proofs.YtbekfjjajggffaaDoor.pgm.ver

/-
  The program's own small answers on operands (typed over the code of 674cbdc): does a letter stand for an object, is a number one of so many, is what an operand names there. Lists of at most a thousand.
-/
namespace Go.Proofs.YtbekfjjajggffaaDoor.pgm.ver
open Go.RowKit Go.ChangeShapes
open Go.Proofs.YtbekfjjajggffaaDoor.pgm
open Go.Proofs.YtbekfjjajggffaaDoor.objs (De zero DAt cells3 fits)
open Go.Proofs.YtbekfjjajggffaaDoor.span (within_any)
set_option linter.unusedVariables false

set_option maxRecDepth 100000 in
set_option maxHeartbeats 2000000 in
theorem isObj_any (c : UInt8) (w : World) : Calls Tryd.prog 39 #[.int .u8 (c.toNat : Int)] w fun e w' => e = .returned (.bool (objV c)) ∧ w = w' := by
  by_cases h1 : c = 110
  · subst h1
    go_enter Tryd.func39, Tryd.ntmps39
    go_wp2
    go_ret
    exact ⟨rfl, rfl⟩
  by_cases h2 : c = 106
  · subst h2
    go_enter Tryd.func39, Tryd.ntmps39
    go_wp2
    go_ret
    exact ⟨rfl, rfl⟩
  by_cases h3 : c = 107
  · subst h3
    go_enter Tryd.func39, Tryd.ntmps39
    go_wp2
    go_ret
    exact ⟨rfl, rfl⟩
  by_cases h4 : c = 116
  · subst h4
    go_enter Tryd.func39, Tryd.ntmps39
    go_wp2
    go_ret
    exact ⟨rfl, rfl⟩
  by_cases h5 : c = 102
  · subst h5
    go_enter Tryd.func39, Tryd.ntmps39
    go_wp2
    go_ret
    exact ⟨rfl, rfl⟩
  by_cases h6 : c = 119
  · subst h6
    go_enter Tryd.func39, Tryd.ntmps39
    go_wp2
    go_ret
    exact ⟨rfl, rfl⟩
  have hv : objV c = true := decide_eq_true ⟨h1, h3, h4, h5, h6, h2⟩
  rw [hv]
  have n1 : ((c.toNat : Int) == 110) = false := (letter_ne h1).1
  have n2 : ((c.toNat : Int) == 106) = false := (letter_ne h2).1
  have n3 : ((c.toNat : Int) == 107) = false := (letter_ne h3).1
  have n4 : ((c.toNat : Int) == 116) = false := (letter_ne h4).1
  have n5 : ((c.toNat : Int) == 102) = false := (letter_ne h5).1
  have n6 : ((c.toNat : Int) == 119) = false := (letter_ne h6).1
  clear h1 h2 h3 h4 h5 h6 hv
  go_enter Tryd.func39, Tryd.ntmps39
  go_wp2
  go_ret
  exact ⟨rfl, rfl⟩

set_option maxRecDepth 100000 in
set_option maxHeartbeats 2000000 in
theorem below_any (n m : Int) (h0 : 0 ≤ m) (h1 : m ≤ 1000) (w : World) : Calls Tryd.prog 40 #[.int .i64 n, .int .i64 m] w fun e w' => e = .returned (.bool (decide (0 ≤ n ∧ n < m))) ∧ w = w' := by
  have HW := fun W => Lib.hid (within_any n 0 (m - 1) W)
  have HE : Hid (decide (0 ≤ n ∧ n ≤ m - 1) = decide (0 ≤ n ∧ n < m)) := Lib.hid (decide_eq_decide.2 (by omega))
  rw [HE.out] at HW
  clear HE
  generalize decide (0 ≤ n ∧ n < m) = q at *
  go_enter Tryd.func40, Tryd.ntmps40
  go_wp2_with fail
  refine (HW _).out.mono ?_
  rintro _ _ ⟨rfl, rfl⟩
  go_wp2
  go_ret
  exact ⟨rfl, rfl⟩

theorem below_as (r : Bool) (n m : Int) (hr : r = decide (0 ≤ n ∧ n < m)) (h0 : 0 ≤ m) (h1 : m ≤ 1000) (w : World) : Calls Tryd.prog 40 #[.int .i64 n, .int .i64 m] w fun e w' => e = .returned (.bool r) ∧ w = w' := by
  rw [hr]
  exact below_any n m h0 h1 w

/-- Is what an operand names there, if it is no object? -/
def thereV (p : Pg) (f : Fn) (o : Int) (c : UInt8) (n : Int) : Bool :=
  if c = 107 then decide (0 ≤ n ∧ n < f.lo) else if c = 116 then decide (0 ≤ n ∧ n < (f.co.length : Int)) else if c = 102 then decide (0 ≤ n ∧ n < (p.fs.length : Int)) && (decide (o ≠ 40) || decide ((p.fs.getD n.toNat Fn.zero).ar = 1)) else if c = 119 then decide (0 ≤ n ∧ n < (p.ws.length : Int)) else true
theorem opV_there (p : Pg) (f : Fn) (o : Int) (c : UInt8) (n : Int) (hn : 0 ≤ n ∨ objV c = true ∨ c = 110 ∨ c = 106) :
    opV p f o c n = if thereV p f o c n = false then 1 else if objV c = true ∧ fits p.ds c n = false then 6 else 0 := by
  by_cases h1 : c = 107
  · subst h1
    have hn0 : 0 ≤ n := by rcases hn with h | h | h | h; exact h; exact absurd h (by decide); exact absurd h (by decide); exact absurd h (by decide)
    unfold opV thereV
    rw [if_pos (rfl : (107 : UInt8) = 107)]
    by_cases hq : f.lo ≤ n
    · rw [if_pos (.inl ⟨rfl, hq⟩), if_pos (decide_eq_false (by omega))]
    · rw [if_neg (fun h => by rcases h with h | h | h; exact hq h.2; exact absurd h.1 (by decide); exact absurd h.1 (by decide)), if_neg (fun h => absurd h.1 (by decide)), if_neg (show ¬ decide (0 ≤ n ∧ n < f.lo) = false from fun h => absurd (of_decide_eq_false h) (by omega))]
  by_cases h2 : c = 116
  · subst h2
    have hn0 : 0 ≤ n := by rcases hn with h | h | h | h; exact h; exact absurd h (by decide); exact absurd h (by decide); exact absurd h (by decide)
    unfold opV thereV
    rw [if_neg h1, if_pos (rfl : (116 : UInt8) = 116)]
    by_cases hq : (f.co.length : Int) ≤ n
    · rw [if_pos (.inr (.inl ⟨rfl, hq⟩)), if_pos (decide_eq_false (by omega))]
    · rw [if_neg (fun h => by rcases h with h | h | h; exact h1 h.1; exact hq h.2; exact absurd h.1 (by decide)), if_neg (fun h => absurd h.1 (by decide)), if_neg (show ¬ decide (0 ≤ n ∧ n < (f.co.length : Int)) = false from fun h => absurd (of_decide_eq_false h) (by omega))]
  by_cases h3 : c = 102
  · subst h3
    have hn0 : 0 ≤ n := by rcases hn with h | h | h | h; exact h; exact absurd h (by decide); exact absurd h (by decide); exact absurd h (by decide)
    unfold opV thereV
    rw [if_neg h1, if_neg h2, if_pos (rfl : (102 : UInt8) = 102), if_neg (fun h => by rcases h with h | h | h; exact h1 h.1; exact h2 h.1; exact absurd h.1 (by decide))]
    by_cases hq : (p.fs.length : Int) ≤ n
    · rw [if_pos ⟨rfl, .inl hq⟩, decide_eq_false (show ¬ (0 ≤ n ∧ n < (p.fs.length : Int)) by omega), Bool.false_and, if_pos rfl]
    · rw [decide_eq_true (show 0 ≤ n ∧ n < (p.fs.length : Int) by omega), Bool.true_and]
      by_cases ho : o = 40
      · rw [decide_eq_false (fun h => h ho), Bool.false_or]
        by_cases ha : (p.fs.getD n.toNat Fn.zero).ar = 1
        · rw [if_neg (fun h => by rcases h.2 with h | h; exact hq h; exact h.2 ha), decide_eq_true ha, if_neg (show ¬ true = false by decide)]
        · rw [if_pos ⟨rfl, .inr ⟨ho, ha⟩⟩, decide_eq_false ha, if_pos rfl]
      · rw [decide_eq_true ho, Bool.true_or, if_neg (fun h => by rcases h.2 with h | h; exact hq h; exact ho h.1), if_neg (show ¬ true = false by decide)]
  by_cases h4 : c = 119
  · subst h4
    have hn0 : 0 ≤ n := by rcases hn with h | h | h | h; exact h; exact absurd h (by decide); exact absurd h (by decide); exact absurd h (by decide)
    unfold opV thereV
    rw [if_neg h1, if_neg h2, if_neg h3, if_pos (rfl : (119 : UInt8) = 119)]
    by_cases hq : (p.ws.length : Int) ≤ n
    · rw [if_pos (.inr (.inr ⟨rfl, hq⟩)), if_pos (decide_eq_false (by omega))]
    · rw [if_neg (fun h => by rcases h with h | h | h; exact h1 h.1; exact h2 h.1; exact hq h.2), if_neg (fun h => absurd h.1 h3), if_neg (show ¬ decide (0 ≤ n ∧ n < (p.ws.length : Int)) = false from fun h => absurd (of_decide_eq_false h) (by omega))]
  · unfold opV thereV
    rw [if_neg h1, if_neg h2, if_neg h3, if_neg h4, if_neg (fun h => by rcases h with h | h | h; exact h1 h.1; exact h2 h.1; exact h4 h.1), if_neg (fun h => h3 h.1), if_neg (show ¬ true = false by decide)]

set_option maxRecDepth 100000 in
set_option maxHeartbeats 8000000 in
theorem there_any (v : Value) (p : Pg) (f : Fn) (o : Int) (c : UInt8) (n : Int) (Af : Option Addr) (cf : Nat) (w : World) (hv : PAt w v p) (hl2 : p.ws.length ≤ 1000) (hl3 : p.fs.length ≤ 1000) (hl4 : f.co.length ≤ 1000) (hl5 : 0 ≤ f.lo ∧ f.lo ≤ 1000) :
    Calls Tryd.prog 60 #[v, .agg #[.int .i64 f.ar, .int .i64 f.lo, .slice Af f.co.length cf], .int .i64 o, .int .u8 (c.toNat : Int), .int .i64 n] w fun e w' =>
      e = .returned (.bool (thereV p f o c n)) ∧ Below w.heap.size w w' := by
  obtain ⟨A, B, C, ca, cb, cc, rfl, hA, hB, hC⟩ := hv
  obtain ⟨r, hr⟩ : ∃ r, r = thereV p f o c n := ⟨_, rfl⟩
  rw [← hr]
  unfold thereV at hr
  have z1 : (w.alloc (pgB (.slice A p.ds.length ca) (.slice B p.ws.length cb) (.slice C p.fs.length cc))).heap.size = w.heap.size + 1 := World.size_alloc _ _
  have hb0 : Below w.heap.size w ((w.alloc (pgB (.slice A p.ds.length ca) (.slice B p.ws.length cb) (.slice C p.fs.length cc))).alloc (fnV f.ar f.lo Af f.co.length cf)) := ((Below.refl _ w).alloc (Nat.le_refl _) _).alloc (by omega) _
  have hx0 : ((w.alloc (pgB (.slice A p.ds.length ca) (.slice B p.ws.length cb) (.slice C p.fs.length cc))).alloc (fnV f.ar f.lo Af f.co.length cf)).heap[w.heap.size]? = some (pgB (.slice A p.ds.length ca) (.slice B p.ws.length cb) (.slice C p.fs.length cc)) :=
    (Below.heap_alloc _ _ _ (by omega)).trans (heap_alloc_new _ _)
  have hx1 : ((w.alloc (pgB (.slice A p.ds.length ca) (.slice B p.ws.length cb) (.slice C p.fs.length cc))).alloc (fnV f.ar f.lo Af f.co.length cf)).heap[w.heap.size + 1]? = some (fnV f.ar f.lo Af f.co.length cf) := by
    rw [← z1]; exact heap_alloc_new _ _
  have HB0 := Lib.hid hb0
  have HC := Lib.hid (hC.next hb0)
  obtain ⟨ar, lo, co⟩ := f
  dsimp only at *
  unfold pgB fnV at hx0 hx1 HB0 HC
  have HBe := fun r m hr h0 h1 W => Lib.hid (below_as r n m hr h0 h1 W)
  have HR := Lib.hid hr
  clear z1 hb0 hA hB hC hr
  go_enter Tryd.func60, Tryd.ntmps60
  go_upto_region 1 with fail
  generalize hW0 : (w.alloc (.cells #[.slice A p.ds.length ca, .slice B p.ws.length cb, .slice C p.fs.length cc] 26)).alloc (.cells #[.int .i64 ar, .int .i64 lo, .slice Af co.length cf] 44) = W0 at *
  clear hW0
  obtain ⟨x0, x1, x2, -, -, -⟩ := cells3 hx0
  obtain ⟨y0, y1, y2, -, -, -⟩ := cells3 hx1
  clear hx0 hx1
  by_cases h1 : c = 107
  · subst h1
    have hv := HR.out
    rw [if_pos rfl] at hv
    have HB2 := HBe r lo hv hl5.1 hl5.2
    clear HBe HR hv
    go_wp2_with fail
    refine (HB2 _).out.mono ?_
    rintro _ _ ⟨rfl, rfl⟩
    go_wp2
    go_ret
    exact ⟨rfl, HB0.out⟩
  by_cases h2 : c = 116
  · subst h2
    have hv := HR.out
    rw [if_neg (by decide), if_pos rfl] at hv
    have HB2 := HBe r (co.length : Int) hv (by omega) (by omega)
    clear HBe HR hv
    go_wp2_with fail
    refine (HB2 _).out.mono ?_
    rintro _ _ ⟨rfl, rfl⟩
    go_wp2
    go_ret
    exact ⟨rfl, HB0.out⟩
  by_cases h3 : c = 102
  · subst h3
    have hv := HR.out
    rw [if_neg (by decide), if_neg (by decide), if_pos rfl] at hv
    by_cases hq : 0 ≤ n ∧ n < (p.fs.length : Int)
    · rw [decide_eq_true hq, Bool.true_and] at hv
      have HB2 := HBe true (p.fs.length : Int) (decide_eq_true hq).symm (by omega) (by omega)
      clear HBe HR
      obtain ⟨j, rfl⟩ : ∃ j : Nat, n = (j : Int) := ⟨n.toNat, by omega⟩
      have hj : j < p.fs.length := by omega
      obtain ⟨g, off, Aj, cj, rfl, hg, ⟨f0, f1, f2⟩, _⟩ := HC.out j hj
      rw [Int.toNat_natCast] at hv
      generalize (p.fs.getD j Fn.zero).ar = fa at *
      have k0 : (0 : Int) ≤ (j : Int) := by omega
      have k1 : (j : Int) < (p.fs.length : Int) := by omega
      by_cases ho : o = 40
      · rw [decide_eq_false (fun h => h ho), Bool.false_or] at hv
        have e1 : (o != 40) = false := by simpa using ho
        have hv2 : r = (fa == 1) := by rw [hv]; by_cases h : fa = 1 <;> simp [h]
        subst hv2
        clear ho hv h1 h2 hq
        go_wp2_with fail
        refine (HB2 _).out.mono ?_
        rintro _ _ ⟨rfl, rfl⟩
        go_wp2
        go_ret
        exact ⟨rfl, HB0.out⟩
      · rw [decide_eq_true ho, Bool.true_or] at hv
        subst hv
        have e1 : (o != 40) = true := by simpa using ho
        clear ho h1 h2 hq
        go_wp2_with fail
        refine (HB2 _).out.mono ?_
        rintro _ _ ⟨rfl, rfl⟩
        go_wp2
        go_ret
        exact ⟨rfl, HB0.out⟩
    · rw [decide_eq_false hq, Bool.false_and] at hv
      have HB2 := HBe false (p.fs.length : Int) (decide_eq_false hq).symm (by omega) (by omega)
      subst hv
      clear hq h1 h2 HBe HR
      go_wp2_with fail
      refine (HB2 _).out.mono ?_
      rintro _ _ ⟨rfl, rfl⟩
      go_wp2
      go_ret
      exact ⟨rfl, HB0.out⟩
  by_cases h4 : c = 119
  · subst h4
    have hv := HR.out
    rw [if_neg (by decide), if_neg (by decide), if_neg (by decide), if_pos rfl] at hv
    have HB2 := HBe r (p.ws.length : Int) hv (by omega) (by omega)
    clear HBe HR hv
    go_wp2_with fail
    refine (HB2 _).out.mono ?_
    rintro _ _ ⟨rfl, rfl⟩
    go_wp2
    go_ret
    exact ⟨rfl, HB0.out⟩
  have m1 : ((c.toNat : Int) == 107) = false := (letter_ne h1).1
  have m2 : ((c.toNat : Int) == 116) = false := (letter_ne h2).1
  have m3 : ((c.toNat : Int) == 102) = false := (letter_ne h3).1
  have m4 : ((c.toNat : Int) == 119) = false := (letter_ne h4).1
  have hv := HR.out
  rw [if_neg h1, if_neg h2, if_neg h3, if_neg h4] at hv
  subst hv
  clear h1 h2 h3 h4 HR HBe
  go_wp2
  go_ret
  exact ⟨rfl, HB0.out⟩
end Go.Proofs.YtbekfjjajggffaaDoor.pgm.ver

/-
  Lists of numbers as they lie in memory, wherever they came from; a row of numbers that a call owns, and what an append makes of it. No condition.
-/
namespace Go.Proofs.YtbekfjjajggffaaDoor.nums
open Go.RowKit Go.ChangeShapes
set_option linter.unusedVariables false

/-- A list of numbers, one behind the other, from where a slice begins. -/
def NAt (w : World) (A : Option Addr) (l : List Int) : Prop := ∀ j, j < l.length → ∃ b off, A = some ⟨b, off, none⟩ ∧ b < w.heap.size ∧ w.cell? ⟨b, off + j, none⟩ = some (.int .i64 (l.getD j 0))
theorem NAt.next {w w' : World} {A : Option Addr} {l : List Int} (h : NAt w A l) (hb : Below w.heap.size w w') : NAt w' A l := fun j hj => by
  obtain ⟨b, off, h1, h2, h3⟩ := h j hj
  exact ⟨b, off, h1, Nat.lt_of_lt_of_le h2 hb.size, (hb.cell (p := ⟨b, off + j, none⟩) h2).trans h3⟩
theorem NAt.keep {w w' : World} {b off : Nat} {l : List Int} (h : NAt w (some ⟨b, off, none⟩) l) (hk : w'.heap[b]? = w.heap[b]?) : NAt w' (some ⟨b, off, none⟩) l := fun j hj => by
  obtain ⟨b', off', h1, h2, h3⟩ := h j hj
  injection h1 with h1
  injection h1 with e1 e2
  subst e1 e2
  have := (World.cell?_of_block (a := ⟨b, off + j, none⟩) hk).trans h3
  refine ⟨b, off, rfl, ?_, this⟩
  rcases Nat.lt_or_ge b w'.heap.size with h | h
  · exact h
  · rw [Array.getElem?_eq_none h, Array.getElem?_eq_getElem h2] at hk
    cases hk
theorem NAt.nil (w : World) (A : Option Addr) : NAt w A [] := fun j hj => absurd hj (Nat.not_lt_zero j)
theorem NAt.take {w : World} {A : Option Addr} {l : List Int} (h : NAt w A l) (n : Nat) : NAt w A (l.take n) := fun j hj => by
  rw [List.length_take] at hj
  obtain ⟨b, off, h1, h2, h3⟩ := h j (by omega)
  refine ⟨b, off, h1, h2, h3.trans ?_⟩
  rw [List.getD_eq_getElem?_getD, List.getD_eq_getElem?_getD, List.getElem?_take_of_lt (by omega)]
theorem getD_any {l : List Int} {j : Nat} (h : j < l.length) (x y : Int) : l.getD j x = l.getD j y := by
  rw [List.getD_eq_getElem?_getD, List.getD_eq_getElem?_getD, List.getElem?_eq_getElem h]
  rfl
def ints (l : List Int) : List Value := l.map (Value.int .i64)
theorem ints_length (l : List Int) : (ints l).length = l.length := by simp [ints]
theorem ints_append (l r : List Int) : ints (l ++ r) = ints l ++ ints r := by simp [ints]
theorem ints_at {l : List Int} {j : Nat} (h : j < l.length) : (ints l)[j]? = some (.int .i64 (l.getD j 0)) := by
  simp [ints, List.getD_eq_getElem?_getD, List.getElem?_eq_getElem h]
theorem ints_oneCell (l : List Int) : ∀ u ∈ ints l, u.oneCell' = true := by
  intro u hu
  obtain ⟨x, _, rfl⟩ := List.mem_map.1 hu
  rfl
/-- A slice's value of numbers, nil or a row of the call's own. -/
def OwnI (w : World) (base : Nat) (v : Value) (l : List Int) : Prop := w.ownsRow base 3 1 v l.length (ints l)
theorem OwnI.nil (w : World) (base : Nat) : OwnI w base (.slice none 0 0) [] := World.ownsRow_nil ..
theorem OwnI.empty {w : World} {g : Nat} (h : w.heap[g]? = some (.cells #[] 3 (0, 0))) : OwnI w g (.slice (some ⟨g, 0, none⟩) 0 0) [] :=
  ⟨rfl, .inr ⟨g, 0, #[], rfl, Nat.le_refl _, h, Nat.le_refl _, Nat.zero_le _, rfl, rfl⟩⟩
theorem OwnI.slice {w : World} {base : Nat} {v : Value} {l : List Int} (h : OwnI w base v l) : ∃ A cap, v = .slice A l.length cap := by
  rcases h.2 with ⟨rfl, h0⟩ | ⟨g, cap, cur, rfl, _⟩
  · exact ⟨none, 0, by rw [h0]⟩
  · exact ⟨_, _, rfl⟩
theorem OwnI.at {w : World} {base cap : Nat} {A : Option Addr} {l : List Int} {n : Nat} (h : OwnI w base (.slice A n cap) l) : NAt w A l := by
  intro j hj
  rcases h.2 with ⟨e, h0⟩ | ⟨g, cap', cur, e, hb, hh, _⟩
  · omega
  · injection e with e1 e2 e3
    subst e1
    refine ⟨g, 0, rfl, lt_of_block hh, ?_⟩
    have := World.ownsRow.cells h (g := g) rfl _ _ (ints_at hj)
    rw [Addr.add_lit] at this
    simpa using this
theorem OwnI.keep {w w' : World} {base : Nat} {v : Value} {l : List Int} (h : OwnI w base v l) (hk : ∀ g, v.ownBlock = some g → w'.heap[g]? = w.heap[g]?) : OwnI w' base v l := by
  refine ⟨h.1, h.2.imp id ?_⟩
  rintro ⟨g, c, cur, rfl, hb, hh, r⟩
  exact ⟨g, c, cur, rfl, hb, (hk g rfl).trans hh, r⟩
theorem OwnI.lt {w : World} {base g : Nat} {v : Value} {l : List Int} (h : OwnI w base v l) (hg : v.ownBlock = some g) : base ≤ g ∧ g < w.heap.size := World.ownsRow.lt h g hg
theorem OwnI.next {w w' : World} {base : Nat} {v : Value} {l : List Int} (h : OwnI w base v l) (hb : Below w.heap.size w w') : OwnI w' base v l := h.keep fun g hg => hb.block g (h.lt hg).2
theorem OwnI.base {w : World} {base base' : Nat} {v : Value} {l : List Int} (h : OwnI w base v l) (hb : base' ≤ base) : OwnI w base' v l := by
  refine ⟨h.1, h.2.imp id ?_⟩
  rintro ⟨g, c, cur, e, hb1, r⟩
  exact ⟨g, c, cur, e, Nat.le_trans hb hb1, r⟩
theorem infoI : (Tryd.prog.info? 3).map (fun i => (i.zero, i.size, i.bytes)) = some (some (.int .i64 0), 1, 8) := by kernel_rfl
theorem src_ints {w : World} {ad : Addr} {r : List Int} (h : NAt w (some ad) r) : ∀ (j : Nat) (u : Value), (ints r)[j]? = some u → w.cell? (ad.add j) = some u := by
  intro j u hu
  have hj : j < r.length := by
    have := (List.getElem?_eq_some_iff.1 hu).1
    rwa [ints_length] at this
  obtain ⟨b, off, e, _, h1⟩ := h j hj
  obtain rfl := Option.some.inj e
  rw [Addr.add_lit, h1, ← hu, ints_at hj]
/-- A list that lies anywhere, put behind a row of a call's own. -/
theorem run_appI (w : World) (ty : TypeId) (base m c : Nat) (v : Value) (A : Option Addr) (l r : List Int) (hrow : OwnI w base v l) (hm : m = r.length) (hA : A = none → r = [] ∧ c = 0) (hsrc : NAt w A r) (hlen : l.length + r.length ≤ 100000) (hbase : base ≤ w.heap.size) :
    ∃ v' w', (Builtin.append_ #[32, 32] ty #[v, .slice A m c]).run Tryd.prog w = .ok v' w' ∧ OwnI w' base v' (l ++ r) ∧ w.grownBy w' v.ownBlock := by
  subst hm
  obtain ⟨i, hi, hz0, hz1, hz2⟩ := info_parts infoI
  cases A with
  | none =>
    obtain ⟨rfl, rfl⟩ := hA rfl
    refine ⟨v, w, run_append_owned_none (P := Tryd.prog) (w := w) base 32 ty 3 i 1 Tryd.underlying32 hi v l.length (ints l) hrow, ?_, ⟨rfl, rfl, rfl, Nat.le_refl _, fun _ _ _ => rfl⟩⟩
    rw [List.append_nil]
    exact hrow
  | some ad =>
    obtain ⟨v', w', h1, h2, h3, _⟩ := run_append_own (P := Tryd.prog) w base 32 ty 3 i _ 1 8 Tryd.underlying32 hi hz0 hz1 hz2 rfl (by omega) v l.length (ints l) hrow ad r.length c (ints r) (by rw [ints_length, Nat.mul_one]) (src_ints hsrc) (ints_oneCell r) (by unfold maxLen; omega) (by omega) hbase
    refine ⟨v', w', h1, ?_, h3⟩
    unfold OwnI
    rw [List.length_append, ints_append]
    exact h2
theorem wp_appI {o : Oper} {a : Act} {w : World} {K : Act → World → Prop} {Q : Exit → Act → World → Prop} (s x : Operand)
    (ho : o.op = .call { callee := .builtin .append, args := #[s, x], argTypes := #[32, 32] }) (base m c : Nat) (v : Value) (A : Option Addr) (l r : List Int)
    (hs : a.eval s = v) (hrow : OwnI w base v l) (hx : a.eval x = .slice A m c) (hm : m = r.length) (hA : A = none → r = [] ∧ c = 0) (hsrc : NAt w A r) (hlen : l.length + r.length ≤ 100000) (hbase : base ≤ w.heap.size)
    (h : ∀ v' w', OwnI w' base v' (l ++ r) → w.grownBy w' v.ownBlock → K (a.put o.dst v') w') : o.wp Tryd.prog a w K Q := by
  obtain ⟨v', w', hr, h2, h3⟩ := run_appI w o.type base m c v A l r hrow hm hA hsrc hlen hbase
  unfold Oper.wp execOp
  simp only [ho, resolve, invoke, builtin, Sem.run_bind, Sem.run_pure, Result.andThen_ok, List.map_toArray, List.map_cons, List.map_nil, hs, hx, hr]
  exact h v' w' h2 h3
theorem wpList_appI {ops : Array Oper} {rest : List Oper} {o : Oper} {a : Act} {w : World} {Q : Exit → Act → World → Prop} (hgd : o.guard = none) (s x : Operand)
    (ho : o.op = .call { callee := .builtin .append, args := #[s, x], argTypes := #[32, 32] }) (base m c : Nat) (v : Value) (A : Option Addr) (l r : List Int)
    (hs : a.eval s = v) (hrow : OwnI w base v l) (hx : a.eval x = .slice A m c) (hm : m = r.length) (hA : A = none → r = [] ∧ c = 0) (hsrc : NAt w A r) (hlen : l.length + r.length ≤ 100000) (hbase : base ≤ w.heap.size)
    (h : ∀ v' w', OwnI w' base v' (l ++ r) → w.grownBy w' v.ownBlock → wpList Tryd.prog ops Q rest (a.put o.dst v') w') : wpList Tryd.prog ops Q (o :: rest) a w :=
  wpList_plain hgd fun _ hK => wp_appI s x ho base m c v A l r hs hrow hx hm hA hsrc hlen hbase fun v' w' h2 h3 => hK _ _ (h v' w' h2 h3)
theorem step_appI {ops : Array Oper} {o : Oper} {a : Act} {w : World} {K : Act → World → Prop} {Q : Exit → Act → World → Prop} {E : Prop} (hgd : o.guard = none) (s x : Operand)
    (ho : o.op = .call { callee := .builtin .append, args := #[s, x], argTypes := #[32, 32] }) (base m c : Nat) (v : Value) (A : Option Addr) (l r : List Int)
    (hs : a.eval s = v) (hrow : OwnI w base v l) (hx : a.eval x = .slice A m c) (hm : m = r.length) (hA : A = none → r = [] ∧ c = 0) (hsrc : NAt w A r) (hlen : l.length + r.length ≤ 100000) (hbase : base ≤ w.heap.size)
    (h : ∀ v' w', OwnI w' base v' (l ++ r) → w.grownBy w' v.ownBlock → K (a.put o.dst v') w') :
    if Region.wanted o (yielded ops a.tmps) = true then Oper.wp Tryd.prog o a w K Q else E := by
  have hw : Region.wanted o (yielded ops a.tmps) = true := by simp [Region.wanted, hgd]
  rw [if_pos hw]
  exact wp_appI s x ho base m c v A l r hs hrow hx hm hA hsrc hlen hbase h
end Go.Proofs.YtbekfjjajggffaaDoor.nums

/-
  The document's own ways of an instruction. The place is at most 100000, and the place that a jump or a zero names is not below 0.
-/
namespace Go.Proofs.YtbekfjjajggffaaDoor.pgm.dep
open Go.RowKit Go.ChangeShapes
open Go.Proofs.YtbekfjjajggffaaDoor.pgm
open Go.Proofs.YtbekfjjajggffaaDoor.objs (De zero cells3)
open Go.Proofs.YtbekfjjajggffaaDoor.oper (insBox)
open Go.Proofs.YtbekfjjajggffaaDoor.nums (NAt NAt.next NAt.nil OwnI OwnI.empty OwnI.slice OwnI.at OwnI.lt OwnI.next OwnI.base wpList_appI)
set_option linter.unusedVariables false

/-- Numbers from 0 on, as numbers. -/
def nats (l : List Nat) : List Int := l.map fun (k : Nat) => (k : Int)
theorem nats_length (l : List Nat) : (nats l).length = l.length := by simp [nats]
theorem one_src (W : World) (y : Int) : NAt (W.alloc (.cells #[.int .i64 y] 3)) (some ⟨W.heap.size, 0, none⟩) [y] := fun j hj => by
  have hj0 : j = 0 := by simpa using hj
  subst hj0
  refine ⟨_, 0, rfl, by rw [World.size_alloc]; omega, ?_⟩
  unfold World.cell?
  rw [heap_alloc_new]
  rfl
/-- Behind an append to a row from a base on. -/
theorem own_grown {w w1 w2 : World} {base : Nat} {v : Value} {l : List Int} {y : Int} (hb : Below base w w1) (h0 : base ≤ w1.heap.size) (h1 : OwnI w1 base v l) (hg : (w1.alloc (.cells #[.int .i64 y] 3)).grownBy w2 v.ownBlock) : Below base w w2 :=
  (hb.alloc h0 _).grown hg (by rw [World.size_alloc]; omega) (fun k e => (h1.lt e).1)

set_option maxRecDepth 100000 in
set_option maxHeartbeats 4000000 in
theorem refWays_any (x : De) (a : Nat) (w : World) (ha : a ≤ 100000) (h1 : x.1 = 18 ∨ x.1 = 19 → 0 ≤ x.2.1) :
    Calls Tryd.prog 79 #[.agg #[.int .i64 x.1, .int .i64 x.2.1, .int .i64 x.2.2], .int .i64 (a : Int)] w fun e w' => ∃ A c, e = .returned (.slice A (ways x a).length c) ∧ OwnI w' w.heap.size (.slice A (ways x a).length c) (nats (ways x a)) ∧ Below w.heap.size w w' := by
  obtain ⟨r, hr⟩ : ∃ r, r = ways x a := ⟨_, rfl⟩
  rw [← hr]
  obtain ⟨N, hN⟩ : ∃ N, N = nats r := ⟨_, rfl⟩
  rw [← hN]
  unfold ways at hr
  obtain ⟨o, p, q⟩ := x
  dsimp only at *
  have hb0 : Below w.heap.size w ((w.alloc (insBox o p q)).alloc (.cells #[] 3)) := ((Below.refl _ w).alloc (Nat.le_refl _) _).alloc (by rw [World.size_alloc]; omega) _
  have z1 : (w.alloc (insBox o p q)).heap.size = w.heap.size + 1 := World.size_alloc _ _
  have z2 : ((w.alloc (insBox o p q)).alloc (.cells #[] 3)).heap.size = w.heap.size + 1 + 1 := by rw [World.size_alloc, World.size_alloc]
  have hx0 : ((w.alloc (insBox o p q)).alloc (.cells #[] 3)).heap[w.heap.size]? = some (insBox o p q) := (Below.heap_alloc _ _ _ (by omega)).trans (heap_alloc_new _ _)
  have ho0 : OwnI ((w.alloc (insBox o p q)).alloc (.cells #[] 3)) (w.heap.size + 1) (.slice (some ⟨w.heap.size + 1, 0, none⟩) 0 0) [] := OwnI.empty (by rw [← z1]; exact heap_alloc_new _ _)
  have HB0 := Lib.hid hb0
  have HO0 := Lib.hid ho0
  have HZ2 := Lib.hid z2
  unfold insBox at hx0 HB0 HO0 HZ2
  clear hb0 ho0 z2 z1
  go_enter Tryd.func79, Tryd.ntmps79
  go_upto_region 2 with fail
  generalize (w.alloc (.cells #[.int .i64 o, .int .i64 p, .int .i64 q] 46)).alloc (.cells #[] 3) = W0 at *
  obtain ⟨i0, i1, i2, -, -, -⟩ := cells3 hx0
  have hs0 := HB0.out.size
  have hz0 := HZ2.out
  have e1 : ((a + 1 : Nat) : Int) = (a : Int) + 1 := by omega
  by_cases h18 : o = 18
  · subst h18
    rw [if_neg (fun h => h.1 rfl), if_pos (.inl rfl), List.nil_append] at hr
    subst hr
    obtain ⟨t, rfl⟩ : ∃ t : Nat, p = (t : Int) := ⟨p.toNat, by have := h1 (.inl rfl); omega⟩
    obtain rfl : N = [(t : Int)] := by rw [hN, Int.toNat_natCast]; rfl
    clear hN
    go_wp2_with (
      at_builtin
      refine wpList_appI (by rfl) (.tmp 28) (.tmp 31) (by rfl) (w.heap.size + 1) 1 1 (.slice (some ⟨w.heap.size + 1, 0, none⟩) 0 0) (some ⟨w.heap.size + 1 + 1, 0, none⟩) [] [(t : Int)] (by rfl) (HO0.out.next ((Below.refl _ _).alloc (Nat.le_refl _) _)) (by rfl) rfl (fun h => by cases h) (by have := one_src W0 (t : Int); rwa [hz0] at this) (by simp) (by rw [World.size_alloc]; omega) ?_)
    intro v3 w3 ho3 hg3
    have hb3 := own_grown (Below.refl _ W0) (by omega) HO0.out hg3
    obtain ⟨A3, c3, rfl⟩ := ho3.slice
    have HN := Lib.hid (ho3.base (base' := w.heap.size) (by omega))
    have HBB := Lib.hid hb3
    clear ho3 hg3 hb3
    go_wp2
    go_ret
    exact ⟨A3, c3, rfl, HN.out, HB0.out.trans (HBB.out.mono (by omega))⟩
  · have n18 : (o != 18) = true := by simpa using h18
    have m18 : (o == 18) = false := by simpa using h18
    by_cases h19 : o = 19
    · subst h19
      rw [if_pos (by decide), if_pos (.inr rfl)] at hr
      subst hr
      obtain ⟨t, rfl⟩ : ∃ t : Nat, p = (t : Int) := ⟨p.toNat, by have := h1 (.inr rfl); omega⟩
      obtain rfl : N = [((a + 1 : Nat) : Int)] ++ [(t : Int)] := by rw [hN, Int.toNat_natCast]; rfl
      clear hN
      go_wp2_with (
        at_builtin
        refine wpList_appI (by rfl) (.tmp 15) (.tmp 18) (by rfl) (w.heap.size + 1) 1 1 (.slice (some ⟨w.heap.size + 1, 0, none⟩) 0 0) (some ⟨w.heap.size + 1 + 1, 0, none⟩) [] [((a + 1 : Nat) : Int)] (by rfl) (HO0.out.next ((Below.refl _ _).alloc (Nat.le_refl _) _)) (by rfl) rfl (fun h => by cases h) (by have := one_src W0 ((a + 1 : Nat) : Int); rwa [e1, hz0] at this) (by simp) (by rw [World.size_alloc]; omega) ?_)
      intro v2 w2 ho2 hg2
      have hb2 : Below (w.heap.size + 1) W0 w2 := own_grown (Below.refl _ W0) (by omega) HO0.out hg2
      obtain ⟨A2, c2, rfl⟩ := ho2.slice
      have HO2 := Lib.hid ho2
      have HB2 := Lib.hid hb2
      have hs2 := hb2.size
      have hx2 := (hb2.block w.heap.size (by omega)).trans hx0
      clear ho2 hg2 hb2 i0 i1 i2
      obtain ⟨i0, i1, i2, -, -, -⟩ := cells3 hx2
      clear hx2
      go_wp2_with (
        at_builtin
        refine wpList_appI (by rfl) (.tmp 28) (.tmp 31) (by rfl) (w.heap.size + 1) 1 1 (.slice A2 1 c2) (some ⟨w2.heap.size, 0, none⟩) [((a + 1 : Nat) : Int)] [(t : Int)] (by rfl) (HO2.out.next ((Below.refl _ _).alloc (Nat.le_refl _) _)) (by rfl) rfl (fun h => by cases h) (one_src w2 (t : Int)) (by simp) (by rw [World.size_alloc]; omega) ?_)
      intro v3 w3 ho3 hg3
      have hb3 := own_grown HB2.out (by omega) HO2.out hg3
      obtain ⟨A3, c3, rfl⟩ := ho3.slice
      have HN := Lib.hid (ho3.base (base' := w.heap.size) (by omega))
      have HBB := Lib.hid hb3
      clear ho3 hg3 hb3
      go_wp2
      go_ret
      exact ⟨A3, c3, rfl, HN.out, HB0.out.trans (HBB.out.mono (by omega))⟩
    · have m19 : (o == 19) = false := by simpa using h19
      by_cases h21 : o = 21
      · subst h21
        rw [if_neg (fun h => h.2 rfl), if_neg (by decide)] at hr
        subst hr
        obtain rfl : N = [] := hN
        go_wp2
        go_ret
        exact ⟨_, _, rfl, HO0.out.base (by omega), HB0.out⟩
      · have n21 : (o != 21) = true := by simpa using h21
        rw [if_pos ⟨h18, h21⟩, if_neg (fun h => by rcases h with h | h; exact h18 h; exact h19 h), List.append_nil] at hr
        subst hr
        obtain rfl : N = [((a + 1 : Nat) : Int)] := hN
        clear h18 h19 h21 h1
        go_wp2_with (
          at_builtin
          refine wpList_appI (by rfl) (.tmp 15) (.tmp 18) (by rfl) (w.heap.size + 1) 1 1 (.slice (some ⟨w.heap.size + 1, 0, none⟩) 0 0) (some ⟨w.heap.size + 1 + 1, 0, none⟩) [] [((a + 1 : Nat) : Int)] (by rfl) (HO0.out.next ((Below.refl _ _).alloc (Nat.le_refl _) _)) (by rfl) rfl (fun h => by cases h) (by have := one_src W0 ((a + 1 : Nat) : Int); rwa [e1, hz0] at this) (by simp) (by rw [World.size_alloc]; omega) ?_)
        intro v2 w2 ho2 hg2
        have hb2 : Below (w.heap.size + 1) W0 w2 := own_grown (Below.refl _ W0) (by omega) HO0.out hg2
        obtain ⟨A2, c2, rfl⟩ := ho2.slice
        have HO2 := Lib.hid ho2
        have HB2 := Lib.hid hb2
        have hs2 := hb2.size
        have hx2 := (hb2.block w.heap.size (by omega)).trans hx0
        clear ho2 hg2 hb2 i0 i1 i2
        obtain ⟨i0, i1, i2, -, -, -⟩ := cells3 hx2
        clear hx2
        have HN := Lib.hid (HO2.out.base (base' := w.heap.size) (by omega))
        go_wp2
        go_ret
        exact ⟨A2, c2, rfl, HN.out, HB0.out.trans (HB2.out.mono (by omega))⟩
end Go.Proofs.YtbekfjjajggffaaDoor.pgm.dep
