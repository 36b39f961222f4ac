/-
  Texts of one claim in one file: VRefOpd, HRefWays, HRef, HStep, HMem. Each has its own sentence, with its conditions.
-/
import Derived.Test.YtjbcmedljgafkaaDoorZq26
import Derived.Test.YtjbcmedljgafkaaDoorZq7
import Derived.Test.YtjbcmedljgafkaaDoorZq6
import Derived.Test.YtjbcmedljgafkaaDoorZq9
import Derived.Test.YtjbcmedljgafkaaDoorZq15
import Derived.Test.YtjbcmedljgafkaaDoorZq5
import Derived.Laws.Rows
/-
  The document's own answer of what is wrong with an operand. A function's number is not below 0; lists as a machine can hold them.
-/

namespace Go.Proofs.YtjbcmedljgafkaaDoor.pgm.ver
open Go.RowKit Go.ChangeShapes
open Go.Proofs.YtjbcmedljgafkaaDoor.pgm
open Go.Proofs.YtjbcmedljgafkaaDoor.objs (De zero DAt cells3 fits refFits_any)
open Go.Proofs.YtjbcmedljgafkaaDoor.oper (insBox)
set_option linter.unusedVariables false

/-- A function handed in by value. -/
def fnV (ar lo : Int) (A : Option Addr) (n c : Nat) : Obj := .cells #[.int .i64 ar, .int .i64 lo, .slice A n c] 58

set_option maxRecDepth 100000 in
set_option maxHeartbeats 8000000 in
theorem refOperand_any (v : Value) (p : Pg) (f : Fn) (x : De) (c : UInt8) (n : Int) (Af : Option Addr) (cf : Nat) (w : World) (hv : PAt w v p) (hl : p.ds.length ≤ 1000) (hl2 : p.ws.length ≤ 1000) (hl3 : p.fs.length ≤ 1000) (hl4 : f.co.length ≤ 1000) (hn : c = 102 → 0 ≤ n) :
    Calls Tryd.prog 56 #[v, .agg #[.int .i64 f.ar, .int .i64 f.lo, .slice Af f.co.length cf], .agg #[.int .i64 x.1, .int .i64 x.2.1, .int .i64 x.2.2], .int .u8 (c.toNat : Int), .int .i64 n] w fun e w' =>
      e = .returned (.int .i64 ((opV p f x.1 c n : Nat) : Int)) ∧ Below w.heap.size w w' := by
  obtain ⟨A, B, C, ca, cb, cc, rfl, hA, hB, hC⟩ := hv
  obtain ⟨r, hr⟩ : ∃ r, r = opV p f x.1 c n := ⟨_, rfl⟩
  rw [← hr]
  unfold opV at hr
  have z1 : (w.alloc (pgB (.slice A p.ds.length ca) (.slice B p.ws.length cb) (.slice C p.fs.length cc))).heap.size = w.heap.size + 1 := World.size_alloc _ _
  have z2 : ((w.alloc (pgB (.slice A p.ds.length ca) (.slice B p.ws.length cb) (.slice C p.fs.length cc))).alloc (fnV f.ar f.lo Af f.co.length cf)).heap.size = w.heap.size + 1 + 1 := by rw [World.size_alloc, World.size_alloc]
  have hb0 : Below w.heap.size w (((w.alloc (pgB (.slice A p.ds.length ca) (.slice B p.ws.length cb) (.slice C p.fs.length cc))).alloc (fnV f.ar f.lo Af f.co.length cf)).alloc (insBox x.1 x.2.1 x.2.2)) := (((Below.refl _ w).alloc (Nat.le_refl _) _).alloc (by omega) _).alloc (by omega) _
  have hx0 : (((w.alloc (pgB (.slice A p.ds.length ca) (.slice B p.ws.length cb) (.slice C p.fs.length cc))).alloc (fnV f.ar f.lo Af f.co.length cf)).alloc (insBox x.1 x.2.1 x.2.2)).heap[w.heap.size]? = some (pgB (.slice A p.ds.length ca) (.slice B p.ws.length cb) (.slice C p.fs.length cc)) :=
    (Below.heap_alloc _ _ _ (by omega)).trans ((Below.heap_alloc _ _ _ (by omega)).trans (heap_alloc_new _ _))
  have hx1 : (((w.alloc (pgB (.slice A p.ds.length ca) (.slice B p.ws.length cb) (.slice C p.fs.length cc))).alloc (fnV f.ar f.lo Af f.co.length cf)).alloc (insBox x.1 x.2.1 x.2.2)).heap[w.heap.size + 1]? = some (fnV f.ar f.lo Af f.co.length cf) :=
    (Below.heap_alloc _ _ _ (by omega)).trans (by rw [← z1]; exact heap_alloc_new _ _)
  have hx2 : (((w.alloc (pgB (.slice A p.ds.length ca) (.slice B p.ws.length cb) (.slice C p.fs.length cc))).alloc (fnV f.ar f.lo Af f.co.length cf)).alloc (insBox x.1 x.2.1 x.2.2)).heap[w.heap.size + 1 + 1]? = some (insBox x.1 x.2.1 x.2.2) := by
    rw [← z2]; exact heap_alloc_new _ _
  have HB0 := Lib.hid hb0
  have HA := Lib.hid (hA.next hb0)
  have HC := Lib.hid (hC.next hb0)
  obtain ⟨ar, lo, co⟩ := f
  obtain ⟨o, xp, xq⟩ := x
  dsimp only at *
  unfold pgB fnV insBox at hx0 hx1 hx2 HB0 HA HC
  clear z1 z2 hb0 hA hB hC
  have HOb := fun W => Lib.hid (refObject_any c W)
  have HFi := fun W h => Lib.hid (refFits_any A ca p.ds c n (by omega) W h)
  have HR := Lib.hid hr
  have HN := Lib.hid hn
  clear hn
  go_enter Tryd.func56, Tryd.ntmps56
  go_upto_region 1 with fail
  generalize hW0 : ((w.alloc (.cells #[.slice A p.ds.length ca, .slice B p.ws.length cb, .slice C p.fs.length cc] 26)).alloc (.cells #[.int .i64 ar, .int .i64 lo, .slice Af co.length cf] 58)).alloc (.cells #[.int .i64 o, .int .i64 xp, .int .i64 xq] 55) = W0 at *
  clear hW0 hr
  obtain ⟨x0, x1, x2, -, -, -⟩ := cells3 hx0
  obtain ⟨y0, y1, y2, -, -, -⟩ := cells3 hx1
  obtain ⟨i0, i1, i2, -, -, -⟩ := cells3 hx2
  clear hx0 hx1 hx2
  by_cases h1 : c = 107
  · subst h1
    by_cases hq : lo ≤ n
    · have hv := HR.out
      rw [if_pos (.inl ⟨rfl, hq⟩)] at hv
      subst hv
      have q0 : decide (n ≥ lo) = true := decide_eq_true hq
      go_wp2
      go_ret
      exact ⟨rfl, HB0.out⟩
    · have hv := HR.out
      rw [if_neg (fun h => by rcases h with h | h | h; exact hq h.2; exact absurd h.1 (by decide); exact absurd h.1 (by decide)), if_neg (fun h => absurd h.1 (by decide)), if_neg (fun h => absurd h.1 (by decide))] at hv
      subst hv
      have q0 : decide (n ≥ lo) = false := decide_eq_false (by omega)
      have HO2 := fun W => HOb W
      rw [show objV 107 = false from by decide] at HO2
      clear HOb HFi
      go_wp2_with fail
      refine (HO2 _).out.mono ?_
      rintro _ _ ⟨rfl, rfl⟩
      go_wp2
      go_ret
      exact ⟨rfl, HB0.out⟩
  · by_cases h2 : c = 116
    · subst h2
      by_cases hq : (co.length : Int) ≤ n
      · have hv := HR.out
        rw [if_pos (.inr (.inl ⟨rfl, hq⟩))] at hv
        subst hv
        have q0 : decide (n ≥ (co.length : Int)) = true := decide_eq_true hq
        go_wp2
        go_ret
        exact ⟨rfl, HB0.out⟩
      · have hv := HR.out
        rw [if_neg (fun h => by rcases h with h | h | h; exact absurd h.1 (by decide); exact hq h.2; exact absurd h.1 (by decide)), if_neg (fun h => absurd h.1 (by decide)), if_neg (fun h => absurd h.1 (by decide))] at hv
        subst hv
        have q0 : decide (n ≥ (co.length : Int)) = false := decide_eq_false (by omega)
        have HO2 := fun W => HOb W
        rw [show objV 116 = false from by decide] at HO2
        clear HOb HFi
        go_wp2_with fail
        refine (HO2 _).out.mono ?_
        rintro _ _ ⟨rfl, rfl⟩
        go_wp2
        go_ret
        exact ⟨rfl, HB0.out⟩
    · by_cases h3 : c = 119
      · subst h3
        by_cases hq : (p.ws.length : Int) ≤ n
        · have hv := HR.out
          rw [if_pos (.inr (.inr ⟨rfl, hq⟩))] at hv
          subst hv
          have q0 : decide (n ≥ (p.ws.length : Int)) = true := decide_eq_true hq
          go_wp2
          go_ret
          exact ⟨rfl, HB0.out⟩
        · have hv := HR.out
          rw [if_neg (fun h => by rcases h with h | h | h; exact absurd h.1 (by decide); exact absurd h.1 (by decide); exact hq h.2), if_neg (fun h => absurd h.1 (by decide)), if_neg (fun h => absurd h.1 (by decide))] at hv
          subst hv
          have q0 : decide (n ≥ (p.ws.length : Int)) = false := decide_eq_false (by omega)
          have HO2 := fun W => HOb W
          rw [show objV 119 = false from by decide] at HO2
          clear HOb HFi
          go_wp2_with fail
          refine (HO2 _).out.mono ?_
          rintro _ _ ⟨rfl, rfl⟩
          go_wp2
          go_ret
          exact ⟨rfl, HB0.out⟩
      · have m1 : ((c.toNat : Int) == 107) = false := (letter_ne h1).1
        have m2 : ((c.toNat : Int) == 116) = false := (letter_ne h2).1
        have m3 : ((c.toNat : Int) == 119) = false := (letter_ne h3).1
        have hv := HR.out
        rw [if_neg (fun h => by rcases h with h | h | h; exact h1 h.1; exact h2 h.1; exact h3 h.1)] at hv
        have HV := Lib.hid hv
        clear hv
        by_cases h4 : c = 102
        · subst h4
          have HO2 := fun W => HOb W
          rw [show objV 102 = false from by decide] at HO2
          have hn0 := HN.out rfl
          by_cases hq : (p.fs.length : Int) ≤ n
          · have hv := HV.out
            rw [if_pos ⟨rfl, .inl hq⟩] at hv
            subst hv
            have q0 : decide (n ≥ (p.fs.length : Int)) = true := decide_eq_true hq
            go_wp2
            go_ret
            exact ⟨rfl, HB0.out⟩
          · obtain ⟨j, rfl⟩ : ∃ j : Nat, n = (j : Int) := ⟨n.toNat, by omega⟩
            have q0 : decide ((j : Int) ≥ (p.fs.length : Int)) = false := decide_eq_false hq
            have q0' : decide (p.fs.length ≤ j) = false := decide_eq_false (by omega)
            have hj : j < p.fs.length := by omega
            obtain ⟨g, off, Aj, cj, rfl, hg, ⟨f0, f1, f2⟩, _⟩ := HC.out j hj
            have hv := HV.out
            rw [Int.toNat_natCast] at hv
            generalize (p.fs.getD j Fn.zero).ar = fa at *
            have k0 : (0 : Int) ≤ (j : Int) := by omega
            have k1 : (j : Int) < (p.fs.length : Int) := by omega
            by_cases ho : o = 40
            · by_cases hfa : fa = 1
              · rw [if_neg (fun h => by rcases h.2 with h | h; exact hq h; exact h.2 hfa), if_neg (fun h => absurd h.1 (by decide))] at hv
                subst hv
                have e1 : (o == 40) = true := by simpa using ho
                have e2 : (fa != 1) = false := by simpa using hfa
                clear ho hfa
                go_wp2_with fail
                refine (HO2 _).out.mono ?_
                rintro _ _ ⟨rfl, rfl⟩
                go_wp2
                go_ret
                exact ⟨rfl, HB0.out⟩
              · rw [if_pos ⟨rfl, .inr ⟨ho, hfa⟩⟩] at hv
                subst hv
                have e1 : (o == 40) = true := by simpa using ho
                have e2 : (fa != 1) = true := by simpa using hfa
                clear ho hfa
                go_wp2
                go_ret
                exact ⟨rfl, HB0.out⟩
            · rw [if_neg (fun h => by rcases h.2 with h | h; exact hq h; exact ho h.1), if_neg (fun h => absurd h.1 (by decide))] at hv
              subst hv
              have e1 : (o == 40) = false := by simpa using ho
              clear ho
              go_wp2_with fail
              refine (HO2 _).out.mono ?_
              rintro _ _ ⟨rfl, rfl⟩
              go_wp2
              go_ret
              exact ⟨rfl, HB0.out⟩
        · have m4 : ((c.toNat : Int) == 102) = false := (letter_ne h4).1
          have hv := HV.out
          rw [if_neg (fun h => h4 h.1)] at hv
          cases hob : objV c with
          | false =>
            rw [if_neg (fun h => by rw [hob] at h; cases h.1)] at hv
            subst hv
            have HO2 := fun W => HOb W
            rw [hob] at HO2
            clear HOb HFi h1 h2 h3 h4
            go_wp2_with fail
            refine (HO2 _).out.mono ?_
            rintro _ _ ⟨rfl, rfl⟩
            go_wp2
            go_ret
            exact ⟨rfl, HB0.out⟩
          | true =>
            have HO2 := fun W => HOb W
            rw [hob] at HO2
            cases hfi : fits p.ds c n with
            | false =>
              rw [if_pos ⟨hob, hfi⟩] at hv
              subst hv
              rw [hfi] at HFi
              clear HOb h1 h2 h3 h4
              go_wp2_with fail
              refine (HO2 _).out.mono ?_
              rintro _ _ ⟨rfl, rfl⟩
              go_wp2_with fail
              refine (HFi _ HA.out).out.mono ?_
              rintro _ w2 ⟨rfl, hb2⟩
              have HB2 := Lib.hid (HB0.out.trans (hb2.mono HB0.out.size))
              clear hb2
              go_wp2
              go_ret
              exact ⟨rfl, HB2.out⟩
            | true =>
              rw [if_neg (fun h => by rw [hfi] at h; cases h.2)] at hv
              subst hv
              rw [hfi] at HFi
              clear HOb h1 h2 h3 h4
              go_wp2_with fail
              refine (HO2 _).out.mono ?_
              rintro _ _ ⟨rfl, rfl⟩
              go_wp2_with fail
              refine (HFi _ HA.out).out.mono ?_
              rintro _ w2 ⟨rfl, hb2⟩
              have HB2 := Lib.hid (HB0.out.trans (hb2.mono HB0.out.size))
              clear hb2
              go_wp2
              go_ret
              exact ⟨rfl, HB2.out⟩
end Go.Proofs.YtjbcmedljgafkaaDoor.pgm.ver

/-
  The document's own ways of an instruction. The place is at most 100000, and the place that a jump or a zero names is not below 0.
-/

namespace Go.Proofs.YtjbcmedljgafkaaDoor.pgm.dep
open Go.RowKit Go.ChangeShapes
open Go.Proofs.YtjbcmedljgafkaaDoor.pgm
open Go.Proofs.YtjbcmedljgafkaaDoor.objs (De zero cells3)
open Go.Proofs.YtjbcmedljgafkaaDoor.oper (insBox)
open Go.Proofs.YtjbcmedljgafkaaDoor.nums (NAt NAt.next NAt.nil OwnI OwnI.empty OwnI.slice OwnI.at OwnI.lt OwnI.next OwnI.base wpList_appI)
set_option linter.unusedVariables false

/-- Numbers from 0 on, as numbers. -/
def nats (l : List Nat) : List Int := l.map fun (k : Nat) => (k : Int)
theorem nats_length (l : List Nat) : (nats l).length = l.length := by simp [nats]
theorem one_src (W : World) (y : Int) : NAt (W.alloc (.cells #[.int .i64 y] 3)) (some ⟨W.heap.size, 0, none⟩) [y] := fun j hj => by
  have hj0 : j = 0 := by simpa using hj
  subst hj0
  refine ⟨_, 0, rfl, by rw [World.size_alloc]; omega, ?_⟩
  unfold World.cell?
  rw [heap_alloc_new]
  rfl
/-- Behind an append to a row from a base on. -/
theorem own_grown {w w1 w2 : World} {base : Nat} {v : Value} {l : List Int} {y : Int} (hb : Below base w w1) (h0 : base ≤ w1.heap.size) (h1 : OwnI w1 base v l) (hg : (w1.alloc (.cells #[.int .i64 y] 3)).grownBy w2 v.ownBlock) : Below base w w2 :=
  (hb.alloc h0 _).grown hg (by rw [World.size_alloc]; omega) (fun k e => (h1.lt e).1)

set_option maxRecDepth 100000 in
set_option maxHeartbeats 4000000 in
theorem refWays_any (x : De) (a : Nat) (w : World) (ha : a ≤ 100000) (h1 : x.1 = 18 ∨ x.1 = 19 → 0 ≤ x.2.1) :
    Calls Tryd.prog 53 #[.agg #[.int .i64 x.1, .int .i64 x.2.1, .int .i64 x.2.2], .int .i64 (a : Int)] w fun e w' => ∃ A c, e = .returned (.slice A (ways x a).length c) ∧ OwnI w' w.heap.size (.slice A (ways x a).length c) (nats (ways x a)) ∧ Below w.heap.size w w' := by
  obtain ⟨r, hr⟩ : ∃ r, r = ways x a := ⟨_, rfl⟩
  rw [← hr]
  obtain ⟨N, hN⟩ : ∃ N, N = nats r := ⟨_, rfl⟩
  rw [← hN]
  unfold ways at hr
  obtain ⟨o, p, q⟩ := x
  dsimp only at *
  have hb0 : Below w.heap.size w ((w.alloc (insBox o p q)).alloc (.cells #[] 3)) := ((Below.refl _ w).alloc (Nat.le_refl _) _).alloc (by rw [World.size_alloc]; omega) _
  have z1 : (w.alloc (insBox o p q)).heap.size = w.heap.size + 1 := World.size_alloc _ _
  have z2 : ((w.alloc (insBox o p q)).alloc (.cells #[] 3)).heap.size = w.heap.size + 1 + 1 := by rw [World.size_alloc, World.size_alloc]
  have hx0 : ((w.alloc (insBox o p q)).alloc (.cells #[] 3)).heap[w.heap.size]? = some (insBox o p q) := (Below.heap_alloc _ _ _ (by omega)).trans (heap_alloc_new _ _)
  have ho0 : OwnI ((w.alloc (insBox o p q)).alloc (.cells #[] 3)) (w.heap.size + 1) (.slice (some ⟨w.heap.size + 1, 0, none⟩) 0 0) [] := OwnI.empty (by rw [← z1]; exact heap_alloc_new _ _)
  have HB0 := Lib.hid hb0
  have HO0 := Lib.hid ho0
  have HZ2 := Lib.hid z2
  unfold insBox at hx0 HB0 HO0 HZ2
  clear hb0 ho0 z2 z1
  go_enter Tryd.func53, Tryd.ntmps53
  go_upto_region 2 with fail
  generalize (w.alloc (.cells #[.int .i64 o, .int .i64 p, .int .i64 q] 55)).alloc (.cells #[] 3) = W0 at *
  obtain ⟨i0, i1, i2, -, -, -⟩ := cells3 hx0
  have hs0 := HB0.out.size
  have hz0 := HZ2.out
  have e1 : ((a + 1 : Nat) : Int) = (a : Int) + 1 := by omega
  by_cases h18 : o = 18
  · subst h18
    rw [if_neg (fun h => h.1 rfl), if_pos (.inl rfl), List.nil_append] at hr
    subst hr
    obtain ⟨t, rfl⟩ : ∃ t : Nat, p = (t : Int) := ⟨p.toNat, by have := h1 (.inl rfl); omega⟩
    obtain rfl : N = [(t : Int)] := by rw [hN, Int.toNat_natCast]; rfl
    clear hN
    go_wp2_with (
      at_builtin
      refine wpList_appI (by rfl) (.tmp 28) (.tmp 31) (by rfl) (w.heap.size + 1) 1 1 (.slice (some ⟨w.heap.size + 1, 0, none⟩) 0 0) (some ⟨w.heap.size + 1 + 1, 0, none⟩) [] [(t : Int)] (by rfl) (HO0.out.next ((Below.refl _ _).alloc (Nat.le_refl _) _)) (by rfl) rfl (fun h => by cases h) (by have := one_src W0 (t : Int); rwa [hz0] at this) (by simp) (by rw [World.size_alloc]; omega) ?_)
    intro v3 w3 ho3 hg3
    have hb3 := own_grown (Below.refl _ W0) (by omega) HO0.out hg3
    obtain ⟨A3, c3, rfl⟩ := ho3.slice
    have HN := Lib.hid (ho3.base (base' := w.heap.size) (by omega))
    have HBB := Lib.hid hb3
    clear ho3 hg3 hb3
    go_wp2
    go_ret
    exact ⟨A3, c3, rfl, HN.out, HB0.out.trans (HBB.out.mono (by omega))⟩
  · have n18 : (o != 18) = true := by simpa using h18
    have m18 : (o == 18) = false := by simpa using h18
    by_cases h19 : o = 19
    · subst h19
      rw [if_pos (by decide), if_pos (.inr rfl)] at hr
      subst hr
      obtain ⟨t, rfl⟩ : ∃ t : Nat, p = (t : Int) := ⟨p.toNat, by have := h1 (.inr rfl); omega⟩
      obtain rfl : N = [((a + 1 : Nat) : Int)] ++ [(t : Int)] := by rw [hN, Int.toNat_natCast]; rfl
      clear hN
      go_wp2_with (
        at_builtin
        refine wpList_appI (by rfl) (.tmp 15) (.tmp 18) (by rfl) (w.heap.size + 1) 1 1 (.slice (some ⟨w.heap.size + 1, 0, none⟩) 0 0) (some ⟨w.heap.size + 1 + 1, 0, none⟩) [] [((a + 1 : Nat) : Int)] (by rfl) (HO0.out.next ((Below.refl _ _).alloc (Nat.le_refl _) _)) (by rfl) rfl (fun h => by cases h) (by have := one_src W0 ((a + 1 : Nat) : Int); rwa [e1, hz0] at this) (by simp) (by rw [World.size_alloc]; omega) ?_)
      intro v2 w2 ho2 hg2
      have hb2 : Below (w.heap.size + 1) W0 w2 := own_grown (Below.refl _ W0) (by omega) HO0.out hg2
      obtain ⟨A2, c2, rfl⟩ := ho2.slice
      have HO2 := Lib.hid ho2
      have HB2 := Lib.hid hb2
      have hs2 := hb2.size
      have hx2 := (hb2.block w.heap.size (by omega)).trans hx0
      clear ho2 hg2 hb2 i0 i1 i2
      obtain ⟨i0, i1, i2, -, -, -⟩ := cells3 hx2
      clear hx2
      go_wp2_with (
        at_builtin
        refine wpList_appI (by rfl) (.tmp 28) (.tmp 31) (by rfl) (w.heap.size + 1) 1 1 (.slice A2 1 c2) (some ⟨w2.heap.size, 0, none⟩) [((a + 1 : Nat) : Int)] [(t : Int)] (by rfl) (HO2.out.next ((Below.refl _ _).alloc (Nat.le_refl _) _)) (by rfl) rfl (fun h => by cases h) (one_src w2 (t : Int)) (by simp) (by rw [World.size_alloc]; omega) ?_)
      intro v3 w3 ho3 hg3
      have hb3 := own_grown HB2.out (by omega) HO2.out hg3
      obtain ⟨A3, c3, rfl⟩ := ho3.slice
      have HN := Lib.hid (ho3.base (base' := w.heap.size) (by omega))
      have HBB := Lib.hid hb3
      clear ho3 hg3 hb3
      go_wp2
      go_ret
      exact ⟨A3, c3, rfl, HN.out, HB0.out.trans (HBB.out.mono (by omega))⟩
    · have m19 : (o == 19) = false := by simpa using h19
      by_cases h21 : o = 21
      · subst h21
        rw [if_neg (fun h => h.2 rfl), if_neg (by decide)] at hr
        subst hr
        obtain rfl : N = [] := hN
        go_wp2
        go_ret
        exact ⟨_, _, rfl, HO0.out.base (by omega), HB0.out⟩
      · have n21 : (o != 21) = true := by simpa using h21
        rw [if_pos ⟨h18, h21⟩, if_neg (fun h => by rcases h with h | h; exact h18 h; exact h19 h), List.append_nil] at hr
        subst hr
        obtain rfl : N = [((a + 1 : Nat) : Int)] := hN
        clear h18 h19 h21 h1
        go_wp2_with (
          at_builtin
          refine wpList_appI (by rfl) (.tmp 15) (.tmp 18) (by rfl) (w.heap.size + 1) 1 1 (.slice (some ⟨w.heap.size + 1, 0, none⟩) 0 0) (some ⟨w.heap.size + 1 + 1, 0, none⟩) [] [((a + 1 : Nat) : Int)] (by rfl) (HO0.out.next ((Below.refl _ _).alloc (Nat.le_refl _) _)) (by rfl) rfl (fun h => by cases h) (by have := one_src W0 ((a + 1 : Nat) : Int); rwa [e1, hz0] at this) (by simp) (by rw [World.size_alloc]; omega) ?_)
        intro v2 w2 ho2 hg2
        have hb2 : Below (w.heap.size + 1) W0 w2 := own_grown (Below.refl _ W0) (by omega) HO0.out hg2
        obtain ⟨A2, c2, rfl⟩ := ho2.slice
        have HO2 := Lib.hid ho2
        have HB2 := Lib.hid hb2
        have hs2 := hb2.size
        have hx2 := (hb2.block w.heap.size (by omega)).trans hx0
        clear ho2 hg2 hb2 i0 i1 i2
        obtain ⟨i0, i1, i2, -, -, -⟩ := cells3 hx2
        clear hx2
        have HN := Lib.hid (HO2.out.base (base' := w.heap.size) (by omega))
        go_wp2
        go_ret
        exact ⟨A2, c2, rfl, HN.out, HB0.out.trans (HB2.out.mono (by omega))⟩
end Go.Proofs.YtjbcmedljgafkaaDoor.pgm.dep

/-
  The document's own depth behind an instruction. The instruction may be; the functions' arguments are from 0 to 8; the depth is from 0 to 16.
-/

namespace Go.Proofs.YtjbcmedljgafkaaDoor.pgm.dep
open Go.RowKit Go.ChangeShapes
open Go.Proofs.YtjbcmedljgafkaaDoor.pgm
open Go.Proofs.YtjbcmedljgafkaaDoor.objs (De zero DAt CellsAt cells3)
open Go.Proofs.YtjbcmedljgafkaaDoor.oper (pops numb ly insBox refPops_any refPushes_any)
set_option linter.unusedVariables false

set_option maxRecDepth 100000 in
set_option maxHeartbeats 4000000 in
theorem refBehind_any (v : Value) (p : Pg) (x : De) (d : Int) (w : World) (hv : PAt w v p) (hl : p.fs.length ≤ 16) (hf : ∀ f ∈ p.fs, 0 ≤ f.ar ∧ f.ar ≤ 8) (hx : chkI x = 0) (h0 : 0 ≤ d) (h1 : d ≤ 16) :
    Calls Tryd.prog 52 #[v, .agg #[.int .i64 x.1, .int .i64 x.2.1, .int .i64 x.2.2], .int .i64 d] w fun e w' => e = .returned (.int .i64 (behind p.fs x d)) ∧ Below w.heap.size w w' := by
  obtain ⟨A, B, C, ca, cb, cc, rfl, _, _, hC⟩ := hv
  have hp := pops_small hf hx
  have hy := lays_small x.1
  have hb := b_small hx
  have ha := fun h => func_small hx h
  obtain ⟨r, hr⟩ : ∃ r, r = behind p.fs x d := ⟨_, rfl⟩
  rw [← hr]
  unfold behind at hr
  obtain ⟨n, hn⟩ : ∃ n, n = argsOf p.fs x := ⟨_, rfl⟩
  rw [← hn] at hr hp
  unfold argsOf at hn
  obtain ⟨o, a, b⟩ := x
  dsimp only at *
  have hP := fun W => Lib.hid (refPops_any o a b n (by omega) (by omega) W)
  have hU := fun W => Lib.hid (refPushes_any o W)
  generalize pops o b n = k at *
  generalize numb ly o = y at *
  have hN := Lib.hid hn
  have hR := Lib.hid hr
  have hz0 : (w.alloc (pgB (.slice A p.ds.length ca) (.slice B p.ws.length cb) (.slice C p.fs.length cc))).heap.size = w.heap.size + 1 := World.size_alloc _ _
  have hb0 : Below w.heap.size w ((w.alloc (pgB (.slice A p.ds.length ca) (.slice B p.ws.length cb) (.slice C p.fs.length cc))).alloc (insBox o a b)) := ((Below.refl _ w).alloc (Nat.le_refl _) _).alloc (by omega) _
  have hx0 : ((w.alloc (pgB (.slice A p.ds.length ca) (.slice B p.ws.length cb) (.slice C p.fs.length cc))).alloc (insBox o a b)).heap[w.heap.size]? = some (pgB (.slice A p.ds.length ca) (.slice B p.ws.length cb) (.slice C p.fs.length cc)) := (Below.heap_alloc _ _ _ (by omega)).trans (heap_alloc_new w _)
  have hx1 : ((w.alloc (pgB (.slice A p.ds.length ca) (.slice B p.ws.length cb) (.slice C p.fs.length cc))).alloc (insBox o a b)).heap[w.heap.size + 1]? = some (insBox o a b) := by rw [← hz0]; exact heap_alloc_new _ _
  have hC0 := Lib.hid (hC.next hb0)
  have HB0 := Lib.hid hb0
  unfold pgB insBox at hx0 hx1 hC0 HB0
  clear hr hn hb0 hz0 hC
  go_enter Tryd.func52, Tryd.ntmps52
  go_upto_region 2 with fail
  generalize (w.alloc (.cells #[.slice A p.ds.length ca, .slice B p.ws.length cb, .slice C p.fs.length cc] 26)).alloc (.cells #[.int .i64 o, .int .i64 a, .int .i64 b] 55) = W0 at *
  obtain ⟨p0, p1, p2, -, -, -⟩ := cells3 hx0
  obtain ⟨i0, i1, i2, -, -, -⟩ := cells3 hx1
  have hlay : ∀ (W : World), Below W0.heap.size W0 W → W.heap[w.heap.size + 1]? = some (.cells #[.int .i64 o, .int .i64 a, .int .i64 b] 55) := fun W h => (h.block _ (lt_of_block hx1)).trans hx1
  have HLay := Lib.hid hlay
  by_cases ho : o = 20
  · subst ho
    obtain ⟨ha0, ha1⟩ := ha rfl
    by_cases hlt : a < (p.fs.length : Int)
    · obtain ⟨j, rfl⟩ : ∃ j : Nat, a = (j : Int) := ⟨a.toNat, by omega⟩
      have hj : j < p.fs.length := by omega
      obtain ⟨g, off, Aj, cj, rfl, hg, ⟨f0, _, _⟩, _⟩ := hC0.out j hj
      have e1 : (p.fs.getD j Fn.zero).ar = n := by rw [hN.out, if_pos ⟨rfl, hlt⟩, Int.toNat_natCast]
      rw [e1] at f0
      have q0 : decide ((j : Int) < (p.fs.length : Int)) = true := decide_eq_true hlt
      go_upto_region 4 with fail
      go_wp2_with fail
      refine (hP _).out.mono ?_
      rintro _ w1 ⟨rfl, hb1⟩
      have HB1 := Lib.hid (HB0.out.trans (hb1.mono HB0.out.size))
      obtain ⟨j0, j1, j2, -, -, -⟩ := cells3 (HLay.out _ hb1)
      clear hb1 i0 i1 i2 p0 p1 p2 hP
      by_cases hd : d - k < 0
      · have hv := hR.out
        rw [if_pos hd] at hv
        subst hv
        go_wp2
        go_ret
        exact ⟨rfl, HB1.out⟩
      · have hv := hR.out
        rw [if_neg hd] at hv
        subst hv
        go_wp2_with fail
        refine (hU _).out.mono ?_
        rintro _ w2 ⟨rfl, hb2⟩
        have HB2 := Lib.hid (HB1.out.trans (hb2.mono HB1.out.size))
        clear hb2
        go_wp2
        go_ret
        exact ⟨rfl, HB2.out⟩
    · have e1 : n = 0 := by rw [hN.out, if_neg (fun h => hlt h.2)]
      subst e1
      have q0 : decide (a < (p.fs.length : Int)) = false := decide_eq_false hlt
      go_upto_region 4 with fail
      go_wp2_with fail
      refine (hP _).out.mono ?_
      rintro _ w1 ⟨rfl, hb1⟩
      have HB1 := Lib.hid (HB0.out.trans (hb1.mono HB0.out.size))
      obtain ⟨j0, j1, j2, -, -, -⟩ := cells3 (HLay.out _ hb1)
      clear hb1 i0 i1 i2 p0 p1 p2 hP
      by_cases hd : d - k < 0
      · have hv := hR.out
        rw [if_pos hd] at hv
        subst hv
        go_wp2
        go_ret
        exact ⟨rfl, HB1.out⟩
      · have hv := hR.out
        rw [if_neg hd] at hv
        subst hv
        go_wp2_with fail
        refine (hU _).out.mono ?_
        rintro _ w2 ⟨rfl, hb2⟩
        have HB2 := Lib.hid (HB1.out.trans (hb2.mono HB1.out.size))
        clear hb2
        go_wp2
        go_ret
        exact ⟨rfl, HB2.out⟩
  · have e1 : n = 0 := by rw [hN.out, if_neg (fun h => ho h.1)]
    subst e1
    have q0 : (o == 20) = false := by simpa using ho
    go_upto_region 4 with fail
    go_wp2_with fail
    refine (hP _).out.mono ?_
    rintro _ w1 ⟨rfl, hb1⟩
    have HB1 := Lib.hid (HB0.out.trans (hb1.mono HB0.out.size))
    obtain ⟨j0, j1, j2, -, -, -⟩ := cells3 (HLay.out _ hb1)
    clear hb1 i0 i1 i2 p0 p1 p2 hP
    by_cases hd : d - k < 0
    · have hv := hR.out
      rw [if_pos hd] at hv
      subst hv
      go_wp2
      go_ret
      exact ⟨rfl, HB1.out⟩
    · have hv := hR.out
      rw [if_neg hd] at hv
      subst hv
      go_wp2_with fail
      refine (hU _).out.mono ?_
      rintro _ w2 ⟨rfl, hb2⟩
      have HB2 := Lib.hid (HB1.out.trans (hb2.mono HB1.out.size))
      clear hb2
      go_wp2
      go_ret
      exact ⟨rfl, HB2.out⟩
end Go.Proofs.YtjbcmedljgafkaaDoor.pgm.dep

/-
  How the program finds depths, place by place, and that it comes to the chapter's own way: plain mathematics of lists. No condition.
-/

namespace Go.Proofs.YtjbcmedljgafkaaDoor.pgm.dep
open Go.Proofs.YtjbcmedljgafkaaDoor.pgm
open Go.Proofs.YtjbcmedljgafkaaDoor.objs (De zero)
open Go.Proofs.YtjbcmedljgafkaaDoor.oper (pops numb ly goesB)
set_option linter.unusedVariables false

/-- What the program keeps: depths, which are to be looked at, and a place below which none of them stands. -/
structure Z where
  dp : List Int
  ah : List Bool
  le : Nat
/-- It goes to a place. -/
def reachZ (n : Nat) (d : Int) (z : Z) (t : Nat) : Z × Nat :=
  if n ≤ t then (z, 3) else if z.dp.getD t (-1) = -1 then (⟨z.dp.set t d, z.ah.set t true, min z.le t⟩, 0) else if z.dp.getD t (-1) ≠ d then (z, 2) else (z, 0)
/-- It goes on from an instruction behind which so many values stand. -/
def goZ (n : Nat) (x : De) (d : Int) (a : Nat) (z : Z) : Z × Nat :=
  if goesB x.1 = true then
    if (reachZ n d z (a + 1)).2 ≠ 0 then reachZ n d z (a + 1)
    else if x.1 = 18 ∨ x.1 = 19 then reachZ n d (reachZ n d z (a + 1)).1 x.2.1.toNat else ((reachZ n d z (a + 1)).1, 0)
  else if x.1 = 18 ∨ x.1 = 19 then reachZ n d z x.2.1.toNat else (z, 0)
/-- What the program keeps is what the chapter keeps: of those that are looked at the depths are known. -/
structure R (n : Nat) (dp : List Int) (dn : List Bool) (z : Z) : Prop where
  same : z.dp = dp
  ld : dp.length = n
  ln : dn.length = n
  la : z.ah.length = n
  le : z.le ≤ n
  ahead : ∀ i, i < n → z.ah.getD i false = (!dn.getD i true && decide (0 ≤ dp.getD i (-1)))
  least : ∀ i, i < z.le → z.ah.getD i false = false
  known : ∀ i, i < n → dn.getD i true = true → 0 ≤ dp.getD i (-1)
  rng : ∀ x ∈ dp, -1 ≤ x ∧ x ≤ 16

theorem R.at {n : Nat} {dp : List Int} {dn : List Bool} {z : Z} (h : R n dp dn z) {t : Nat} (ht : t < n) : -1 ≤ dp.getD t (-1) ∧ dp.getD t (-1) ≤ 16 := h.rng _ (Go.Proofs.YtjbcmedljgafkaaDoor.pgm.getD_in (by rw [h.ld]; exact ht))
theorem set_same {α : Type} {l : List α} {t : Nat} {d x : α} (ht : t < l.length) (h : l.getD t d = x) : l.set t x = l := by
  rw [List.getD_eq_getElem?_getD, List.getElem?_eq_getElem ht] at h
  subst h
  simp
theorem lead_one (n : Nat) (d : Int) (t : Nat) (dp : List Int) : lead n d [t] dp = if n ≤ t then (dp, 3) else if 0 ≤ dp.getD t (-1) ∧ dp.getD t (-1) ≠ d then (dp, 2) else (dp.set t d, 0) := rfl
theorem lead_two (n : Nat) (d : Int) (s t : Nat) (dp : List Int) : lead n d [s, t] dp = if (lead n d [s] dp).2 ≠ 0 then lead n d [s] dp else lead n d [t] (lead n d [s] dp).1 := by
  rw [lead_one]
  show (if n ≤ s then (dp, 3) else if 0 ≤ dp.getD s (-1) ∧ dp.getD s (-1) ≠ d then (dp, 2) else lead n d [t] (dp.set s d)) = _
  by_cases h1 : n ≤ s
  · rw [if_pos h1, if_pos h1, if_pos (show (3 : Nat) ≠ 0 by decide)]
  · rw [if_neg h1, if_neg h1]
    by_cases h2 : 0 ≤ dp.getD s (-1) ∧ dp.getD s (-1) ≠ d
    · rw [if_pos h2, if_pos h2, if_pos (show (2 : Nat) ≠ 0 by decide)]
    · rw [if_neg h2, if_neg h2, if_neg (show ¬ (0 : Nat) ≠ 0 by decide)]
/-- One place. -/
theorem R.reach {n : Nat} {dp : List Int} {dn : List Bool} {z : Z} (h : R n dp dn z) {d : Int} (h0 : 0 ≤ d) (h1 : d ≤ 16) (t : Nat) :
    (reachZ n d z t).2 = (lead n d [t] dp).2 ∧ R n (lead n d [t] dp).1 dn (reachZ n d z t).1 := by
  rw [lead_one]
  unfold reachZ
  rw [h.same]
  by_cases ht : n ≤ t
  · rw [if_pos ht, if_pos ht]
    exact ⟨rfl, h⟩
  · have hlt : t < n := by omega
    have hr := h.at hlt
    rw [if_neg ht, if_neg ht]
    by_cases he : dp.getD t (-1) = -1
    · rw [if_pos he, if_neg (by omega)]
      have hdn : dn.getD t true = false := by
        cases hd : dn.getD t true with
        | false => rfl
        | true => have := h.known t hlt hd; omega
      refine ⟨rfl, rfl, by rw [List.length_set]; exact h.ld, h.ln, by rw [List.length_set]; exact h.la, by show min z.le t ≤ n; have := h.le; omega, fun i hi => ?_, fun i hi => ?_, fun i hi hd => ?_, fun x hx => ?_⟩
      · show (z.ah.set t true).getD i false = _
        rw [getD_set, getD_set, h.la, h.ld]
        by_cases hi2 : t = i
        · subst hi2
          rw [if_pos ⟨rfl, hlt⟩, if_pos ⟨rfl, hlt⟩, hdn, decide_eq_true h0]
          rfl
        · rw [if_neg (fun e => hi2 e.1), if_neg (fun e => hi2 e.1)]
          exact h.ahead i hi
      · show (z.ah.set t true).getD i false = false
        have hi' : i < min z.le t := hi
        rw [getD_set, if_neg (fun e => by omega)]
        exact h.least i (by omega)
      · show 0 ≤ (dp.set t d).getD i (-1)
        rw [getD_set]
        split
        · exact h0
        · exact h.known i hi hd
      · rcases List.mem_or_eq_of_mem_set hx with hx | rfl
        · exact h.rng x hx
        · omega
    · rw [if_neg he]
      by_cases hd : dp.getD t (-1) = d
      · rw [if_neg (fun hh => hh hd), if_neg (fun hh => hh.2 hd), set_same (by rw [h.ld]; exact hlt) hd]
        exact ⟨rfl, h⟩
      · rw [if_pos hd, if_pos ⟨by omega, hd⟩]
        exact ⟨rfl, h⟩
theorem goes_known {o : Int} (h : 0 ≤ o ∧ o ≤ 51) : (goesB o = true) ↔ (o ≠ 18 ∧ o ≠ 21) := by
  unfold goesB
  rw [decide_eq_true_iff]
  omega
/-- Way by way. -/
theorem R.go {n : Nat} {dp : List Int} {dn : List Bool} {z : Z} (h : R n dp dn z) {d : Int} (h0 : 0 ≤ d) (h1 : d ≤ 16) {x : De} (hk : 0 ≤ x.1 ∧ x.1 ≤ 51) (a : Nat) :
    (goZ n x d a z).2 = (lead n d (ways x a) dp).2 ∧ R n (lead n d (ways x a) dp).1 dn (goZ n x d a z).1 := by
  unfold goZ ways
  have hg := goes_known hk
  by_cases hc : x.1 ≠ 18 ∧ x.1 ≠ 21
  · rw [if_pos (hg.2 hc), if_pos hc]
    have hr := h.reach h0 h1 (a + 1)
    by_cases hj : x.1 = 18 ∨ x.1 = 19
    · rw [if_pos hj, if_pos hj]
      show _ = (lead n d [a + 1, x.2.1.toNat] dp).2 ∧ R n (lead n d [a + 1, x.2.1.toNat] dp).1 dn _
      rw [lead_two, ← hr.1]
      by_cases he : (reachZ n d z (a + 1)).2 ≠ 0
      · rw [if_pos he, if_pos he]
        exact hr
      · rw [if_neg he, if_neg he]
        exact hr.2.reach h0 h1 _
    · rw [if_neg hj, if_neg hj]
      show _ = (lead n d [a + 1] dp).2 ∧ R n (lead n d [a + 1] dp).1 dn _
      by_cases he : (reachZ n d z (a + 1)).2 ≠ 0
      · rw [if_pos he]
        exact hr
      · rw [if_neg he]
        exact ⟨by rw [← hr.1]; exact (Decidable.of_not_not he).symm, hr.2⟩
  · rw [if_neg (fun e => hc (hg.1 e)), if_neg hc]
    by_cases hj : x.1 = 18 ∨ x.1 = 19
    · rw [if_pos hj, if_pos hj]
      exact h.reach h0 h1 _
    · rw [if_neg hj, if_neg hj]
      exact ⟨rfl, h⟩
/-- Where the next one stands. -/
theorem R.next {n : Nat} {dp : List Int} {dn : List Bool} {z : Z} (h : R n dp dn z) : pick dp dn n ≤ n ∧ z.le ≤ pick dp dn n ∧ (∀ i, z.le ≤ i → i < pick dp dn n → z.ah.getD i false = false) ∧
    (pick dp dn n < n → z.ah.getD (pick dp dn n) false = true ∧ R n dp (dn.set (pick dp dn n) true) ⟨z.dp, z.ah.set (pick dp dn n) false, pick dp dn n⟩) := by
  have hn : pick dp dn n ≤ n := by
    have := List.findIdx_le_length (xs := List.range n) (p := fun i => !dn.getD i true && decide (0 ≤ dp.getD i (-1)))
    rw [List.length_range] at this
    exact this
  have hb : ∀ i, i < pick dp dn n → z.ah.getD i false = false := fun i hi => by
    have h1 := List.not_of_lt_findIdx (xs := List.range n) (p := fun i => !dn.getD i true && decide (0 ≤ dp.getD i (-1))) (i := i) hi
    have e : (List.range n)[i]'(by rw [List.length_range]; omega) = i := List.getElem_range _
    rw [e] at h1
    rw [h.ahead i (by omega)]
    simpa using h1
  have ht : pick dp dn n < n → z.ah.getD (pick dp dn n) false = true := fun hp => by
    obtain ⟨p1, p2⟩ := pick_lt hp
    rw [h.ahead _ hp, p1, decide_eq_true p2]
    rfl
  refine ⟨hn, ?_, fun i _ hi => hb i hi, fun hp => ⟨ht hp, h.same, h.ld, by rw [List.length_set]; exact h.ln, by rw [List.length_set]; exact h.la, hn, fun i hi => ?_, fun i hi => ?_, fun i hi hd => ?_, h.rng⟩⟩
  · rcases Nat.lt_or_ge (pick dp dn n) z.le with hc | hc
    · by_cases hp : pick dp dn n < n
      · have := h.least _ hc
        rw [ht hp] at this
        cases this
      · have := h.le
        omega
    · exact hc
  · show (z.ah.set _ false).getD i false = _
    rw [getD_set, getD_set, h.la, h.ln]
    by_cases hi2 : pick dp dn n = i
    · rw [if_pos ⟨hi2, hi⟩, if_pos ⟨hi2, hi⟩]
      rfl
    · rw [if_neg (fun e => hi2 e.1), if_neg (fun e => hi2 e.1)]
      exact h.ahead i hi
  · show (z.ah.set _ false).getD i false = false
    rw [getD_set]
    split
    · rfl
    · exact hb i hi
  · rw [getD_set] at hd
    split at hd
    · rename_i h2
      rw [← h2.1]
      exact (pick_lt hp).2
    · exact h.known i hi hd
/-- Ahead of the first one. -/
theorem R.start {co : List De} (h : 0 < co.length) : R co.length (startQ co).dp (startQ co).dn ⟨0 :: List.replicate (co.length - 1) (-1), true :: List.replicate (co.length - 1) false, 0⟩ := by
  have hf : ∀ a, a < co.length → (List.replicate co.length false).getD a true = false := fun a ha => by
    rw [List.getD_eq_getElem?_getD, List.getElem?_replicate, if_pos ha]; rfl
  refine ⟨rfl, by simp [startQ]; omega, by simp [startQ], by simp; omega, Nat.zero_le _, fun i hi => ?_, fun i hi => absurd hi (Nat.not_lt_zero i), fun i hi hd => ?_, (start_inv (fs := []) h).rng⟩
  · rw [show (startQ co).dn.getD i true = false from hf i hi]
    cases i with
    | zero => rfl
    | succ i =>
      show (List.replicate (co.length - 1) false).getD i false = (!false && decide (0 ≤ (List.replicate (co.length - 1) (-1)).getD i (-1)))
      have e1 : (List.replicate (co.length - 1) false).getD i false = false := by rw [List.getD_eq_getElem?_getD, List.getElem?_replicate, if_pos (by omega)]; rfl
      have e2 : (List.replicate (co.length - 1) (-1 : Int)).getD i (-1) = -1 := by rw [List.getD_eq_getElem?_getD, List.getElem?_replicate, if_pos (by omega)]; rfl
      rw [e1]
      show false = (!false && decide (0 ≤ (List.replicate (co.length - 1) (-1 : Int)).getD i (-1)))
      simp only [e2]
      rfl
  · rw [show (startQ co).dn = List.replicate co.length false from rfl, hf i hi] at hd
    cases hd
/-- What is kept of what is wrong. -/
structure W2 (n : Nat) (q : Q) (pl er : Int) : Prop where
  er : er = (q.bad : Int)
  bad : q.bad ≠ 0 → pl = (q.first : Int)
  fine : q.bad = 0 → q.first = n
theorem W2.start (co : List De) : W2 co.length (startQ co) 0 0 := ⟨rfl, fun h => absurd rfl h, fun _ => rfl⟩
/-- The step that blames. -/
def blameZ (pl er : Int) (a : Nat) (e : Nat) : Int × Int := if e ≠ 0 ∧ (er = 0 ∨ (a : Int) < pl) then ((a : Int), (e : Int)) else (pl, er)
theorem W2.step {n : Nat} {fs : List Fn} {co : List De} {q : Q} {pl er : Int} (h : W2 n q pl er) {a : Nat} (ha : a < n) : W2 n (stepQ fs co q a) (blameZ pl er a (one fs co q.dp a).2).1 (blameZ pl er a (one fs co q.dp a).2).2 := by
  unfold stepQ blameZ
  have e1 := h.er
  generalize (one fs co q.dp a).2 = e at *
  by_cases he : e = 0
  · rw [if_neg (fun hh => hh.1 he), if_neg (fun hh => hh.1 he)]
    exact ⟨h.er, h.bad, h.fine⟩
  · by_cases hb : q.bad = 0
    · have hf := h.fine hb
      rw [if_pos ⟨he, by omega⟩, if_pos ⟨he, .inl (by omega)⟩]
      exact ⟨rfl, fun _ => rfl, fun hh => absurd hh he⟩
    · have hf := h.bad hb
      by_cases hl : a < q.first
      · rw [if_pos ⟨he, hl⟩, if_pos ⟨he, .inr (by omega)⟩]
        exact ⟨rfl, fun _ => rfl, fun hh => absurd hh he⟩
      · rw [if_neg (fun hh => hl hh.2), if_neg (fun hh => by rcases hh.2 with h3 | h3 <;> omega)]
        exact ⟨h.er, h.bad, h.fine⟩
end Go.Proofs.YtjbcmedljgafkaaDoor.pgm.dep

/-
  How a walk over a function's instructions lies in memory: a block of seven cells, the depths, and which are to be looked at; what a call may turn. No condition.
-/

namespace Go.Proofs.YtjbcmedljgafkaaDoor.pgm.dep
open Go.RowKit Go.ChangeShapes
open Go.Proofs.YtjbcmedljgafkaaDoor.pgm
open Go.Proofs.YtjbcmedljgafkaaDoor.objs (De zero DAt cells3)
open Go.Proofs.YtjbcmedljgafkaaDoor.nums (NAt ints ints_length ints_at)
set_option linter.unusedVariables false

/-- Of the blocks that were there none has turned but x, y and z; no block has gone. -/
structure Trn (x y z : Nat) (w w' : World) : Prop where
  os : w'.os = w.os
  tape : w'.tape = w.tape
  output : w'.output = w.output
  size : w.heap.size ≤ w'.heap.size
  block : ∀ k, k < w.heap.size → k ≠ x → k ≠ y → k ≠ z → w'.heap[k]? = w.heap[k]?
theorem Trn.refl (x y z : Nat) (w : World) : Trn x y z w w := ⟨rfl, rfl, rfl, Nat.le_refl _, fun _ _ _ _ _ => rfl⟩
theorem Trn.and {x y z : Nat} {a b c : World} (h : Trn x y z a b) (k : Trn x y z b c) : Trn x y z a c :=
  ⟨k.os.trans h.os, k.tape.trans h.tape, k.output.trans h.output, Nat.le_trans h.size k.size, fun i hi h1 h2 h3 => (k.block i (Nat.lt_of_lt_of_le hi h.size) h1 h2 h3).trans (h.block i hi h1 h2 h3)⟩
theorem Trn.drewN {x y z : Nat} {a w : World} (h : Trn x y z a w) (n : Nat) : Trn x y z a (w.drewN n) := ⟨h.os, h.tape, h.output, h.size, h.block⟩
theorem Trn.drew {x y z : Nat} {a w : World} (h : Trn x y z a w) : Trn x y z a w.drew := ⟨h.os, h.tape, h.output, h.size, h.block⟩
theorem Trn.setCell {x y z : Nat} {a w : World} (h : Trn x y z a w) {p : Addr} (hp : p.block = x ∨ p.block = y ∨ p.block = z) (u : Value) : Trn x y z a (w.setCell p u) :=
  ⟨h.os, h.tape, h.output, Nat.le_trans h.size (by simp [World.setCell]), fun k hk h1 h2 h3 => (Below.heap_setCell _ _ _ _ (by omega)).trans (h.block k hk h1 h2 h3)⟩
theorem Trn.of_below {x y z : Nat} {w w' : World} (h : Below w.heap.size w w') : Trn x y z w w' := ⟨h.os, h.tape, h.output, h.size, fun k hk _ _ _ => h.block k hk⟩
theorem Trn.below {x y z B : Nat} {w w' : World} (h : Trn x y z w w') (hx : B ≤ x) (hy : B ≤ y) (hz : B ≤ z) (hB : B ≤ w.heap.size) : Below B w w' :=
  ⟨h.os, h.tape, h.output, h.size, fun k hk => h.block k (by omega) (by omega) (by omega) (by omega)⟩

def yess (l : List Bool) : List Value := l.map Value.bool
theorem yess_at {l : List Bool} {j : Nat} (h : j < l.length) : (yess l)[j]? = some (.bool (l.getD j false)) := by
  simp [yess, List.getD_eq_getElem?_getD, List.getElem?_eq_getElem h]
theorem row_setCell {w : World} {b j : Nat} {cur : Array Value} {t : TypeId} (h : w.heap[b]? = some (.cells cur t (0, 0))) (u : Value) : (w.setCell ⟨b, j, none⟩ u).heap[b]? = some (.cells (cur.setIfInBounds j u) t (0, 0)) :=
  heap_setCell_same w b j cur t u h
end Go.Proofs.YtjbcmedljgafkaaDoor.pgm.dep
