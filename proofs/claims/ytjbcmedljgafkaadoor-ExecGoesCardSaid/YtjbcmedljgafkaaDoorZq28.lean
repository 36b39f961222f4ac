/-
  Texts of one claim in one file: HRefOne, Mem, In, InNum, Span, HReach, HStart, HSpec. Each has its own sentence, with its conditions.
-/
import Derived.Test.YtjbcmedljgafkaaDoorZq27
import Derived.StillTailTactics
import Derived.Test.YtjbcmedljgafkaaDoorZq1
import Derived.OneCell
import Derived.Laws.Rows
import Derived.WalkKit
import Derived.Test.YtjbcmedljgafkaaDoorProg
import Derived.Lib.Hide
import Derived.ProofKit
import Derived.BigQuiet
import Derived.Deep.QuietTactic
import Derived.Outline
import Derived.LoopTactic
import Derived.RegionTactic
import Derived.ChangeAlike
import Derived.Laws.MakeOwn
import Derived.Deep.RegionWith
import Derived.Test.YtjbcmedljgafkaaDoorZq7
import Derived.Test.YtjbcmedljgafkaaDoorZq5
import Derived.Test.YtjbcmedljgafkaaDoorZq9
import Derived.Test.YtjbcmedljgafkaaDoorZq6
import Derived.WalkLawsBesides
/-
  The document's own look at one instruction, by depths that are known. The instruction may be, of at most 200; the functions' arguments are from 0 to 8; the depth is from 0 to 16.
-/

namespace Go.Proofs.YtjbcmedljgafkaaDoor.pgm.dep
open Go.RowKit Go.ChangeShapes
open Go.Proofs.YtjbcmedljgafkaaDoor.pgm
open Go.Proofs.YtjbcmedljgafkaaDoor.objs (De zero DAt CellsAt cells3)
open Go.Proofs.YtjbcmedljgafkaaDoor.nums (NAt ints OwnI OwnI.at OwnI.keep OwnI.lt OwnI.next)
set_option linter.unusedVariables false

theorem lt_of_cell {W : World} {b i : Nat} {v : Value} (h : W.cell? ⟨b, i, none⟩ = some v) : b < W.heap.size := World.block_lt_of_cell? W _ h
/-- Depths lie in a block, from its head on. -/
def RowD (W : World) (b : Nat) (dp : List Int) : Prop := W.heap[b]? = some (.cells (ints dp).toArray 3 (0, 0))
theorem RowD.cell {W : World} {b : Nat} {dp : List Int} (h : RowD W b dp) {t : Nat} (ht : t < dp.length) : W.cell? ⟨b, t, none⟩ = some (.int .i64 (dp.getD t (-1))) ∧ W.frozen? ⟨b, t, none⟩ = false := by
  refine ⟨?_, frozen_of_row W b t _ _ h⟩
  rw [cell_of_row W b t _ _ (0, 0) h, List.getElem?_toArray, Go.Proofs.YtjbcmedljgafkaaDoor.nums.ints_at ht, Go.Proofs.YtjbcmedljgafkaaDoor.nums.getD_any ht 0 (-1)]
theorem RowD.set {W : World} {b : Nat} {dp : List Int} (h : RowD W b dp) (t : Nat) (d : Int) : RowD (W.setCell ⟨b, t, none⟩ (.int .i64 d)) b (dp.set t d) := (row_setCell h _).trans (by simp [ints, List.map_set])
theorem RowD.lt {W : World} {b : Nat} {dp : List Int} (h : RowD W b dp) : b < W.heap.size := lt_of_block h
theorem lead_cons (n : Nat) (d : Int) (t : Nat) (l : List Nat) (dp : List Int) : lead n d (t :: l) dp = if n ≤ t then (dp, 3) else if 0 ≤ dp.getD t (-1) ∧ dp.getD t (-1) ≠ d then (dp, 2) else lead n d l (dp.set t d) := rfl
theorem ways_len (x : De) (a : Nat) : (ways x a).length ≤ 2 := by
  unfold ways
  rw [List.length_append]
  split <;> split <;> simp

set_option maxRecDepth 100000 in
set_option maxHeartbeats 8000000 in
theorem refOne_any (v : Value) (p : Pg) (C : Option Addr) (cc : Nat) (co : List De) (dp : List Int) (bd n a : Nat) (w : World) (hv : PAt w v p) (hl : p.fs.length ≤ 16) (hf : ∀ f ∈ p.fs, 0 ≤ f.ar ∧ f.ar ≤ 8)
    (hC : DAt w C co) (hn : co.length = n) (hn2 : n ≤ 200) (ha : a < n) (hx : chkI (co.getD a zero) = 0) (hd : RowD w bd dp) (hld : dp.length = n) (hrng : ∀ y ∈ dp, -1 ≤ y ∧ y ≤ 16) (h0 : 0 ≤ dp.getD a (-1)) :
    Calls Tryd.prog 32 #[v, .slice C n cc, .slice (some ⟨bd, 0, none⟩) n n, .int .i64 (a : Int)] w fun e w' =>
      e = .returned (.tuple #[.slice (some ⟨bd, 0, none⟩) n n, .int .i64 ((one p.fs co dp a).2 : Int)]) ∧ RowD w' bd (one p.fs co dp a).1 ∧ Trn bd bd bd w w' := by
  obtain ⟨A, B, D, ca, cb, cd, rfl, h1, h2, h3⟩ := id hv
  have hb0 : Below w.heap.size w (w.alloc (pgB (.slice A p.ds.length ca) (.slice B p.ws.length cb) (.slice D p.fs.length cd))) := (Below.refl _ _).alloc (Nat.le_refl _) _
  have hx0 := heap_alloc_new w (pgB (.slice A p.ds.length ca) (.slice B p.ws.length cb) (.slice D p.fs.length cd))
  have hlt := hd.lt
  have h16 : dp.getD a (-1) ≤ 16 := (hrng _ (Go.Proofs.YtjbcmedljgafkaaDoor.pgm.getD_in (by omega))).2
  have HBe := Lib.hid (refBehind_any _ p (co.getD a zero) (dp.getD a (-1)) (w.alloc (pgB (.slice A p.ds.length ca) (.slice B p.ws.length cb) (.slice D p.fs.length cd))).drew ((hv.next hb0).next (Below.refl _ _).drew) hl hf hx h0 h16)
  have HD0 : Hid (RowD (w.alloc (pgB (.slice A p.ds.length ca) (.slice B p.ws.length cb) (.slice D p.fs.length cd))) bd dp) := Lib.hid ((hb0.block _ hlt).trans hd)
  have HB0 := Lib.hid hb0
  obtain ⟨b1, o1, rfl, hb1, d0, d1, d2⟩ := hC.next hb0 a (by omega)
  have hpl := fun h => place_small hx h
  obtain ⟨r, hr⟩ : ∃ r, r = one p.fs co dp a := ⟨_, rfl⟩
  rw [← hr]
  unfold one at hr
  obtain ⟨L, hL⟩ : ∃ L, L = ways (co.getD a zero) a := ⟨_, rfl⟩
  have HWy := fun W => Lib.hid (refWays_any (co.getD a zero) a W (by omega) (fun h => (hpl h).1))
  rw [← hL] at HWy
  rw [← hL, hn] at hr
  have hwl : L.length ≤ 2 := by rw [hL]; exact ways_len _ _
  obtain ⟨x0, -⟩ := HD0.out.cell (t := a) (by omega)
  generalize behind p.fs (co.getD a zero) (dp.getD a (-1)) = d at *
  generalize dp.getD a (-1) = dd at *
  generalize co.getD a zero = x at *
  obtain ⟨o, xp, xq⟩ := x
  dsimp only at *
  have HR := Lib.hid hr
  have g0 : (0 : Int) ≤ (a : Int) := by omega
  have g1 : (a : Int) < (n : Int) := by omega
  unfold pgB at hx0 HBe HD0 HB0 x0 d0 d1 d2
  have hC1 := hC.next HB0.out
  have HRng := Lib.hid hrng
  have HLD := Lib.hid hld
  clear hr hpl hL hx hd hb0 hv h1 h2 h3 hC hf hld hrng
  go_enter Tryd.func32, Tryd.ntmps32
  go_upto_region 1 with fail
  generalize hW0 : w.alloc (.cells #[.slice A p.ds.length ca, .slice B p.ws.length cb, .slice D p.fs.length cd] 26) = W0 at *
  clear hW0
  obtain ⟨p0, p1, p2, -, -, -⟩ := cells3 hx0
  go_still_tail 9, (by kernel_rfl)
  change wpList _ _ _ _ _ W0.drew
  have HB1 : Hid (Below w.heap.size w W0.drew) := Lib.hid HB0.out.drew
  have HD1 : Hid (RowD W0.drew bd dp) := Lib.hid HD0.out
  have HC1 : Hid (DAt W0.drew (some ⟨b1, o1, none⟩) co) := Lib.hid hC1.drew
  have hd1 : CellsAt W0.drew b1 (o1 + a * 3) (o, xp, xq) := ⟨d0, d1, d2⟩
  generalize W0.drew = W1 at *
  clear HB0 HD0 p0 p1 p2 d0 d1 d2 x0 hx0 hC1
  go_wp2_with fail
  refine HBe.out.mono ?_
  rintro _ w2 ⟨rfl, hb2⟩
  have HB2 := Lib.hid (HB1.out.trans (hb2.mono HB1.out.size))
  have HD2 : Hid (RowD w2 bd dp) := Lib.hid ((hb2.block _ HD1.out.lt).trans HD1.out)
  have hbb : b1 < W1.heap.size := lt_of_cell hd1.1
  obtain ⟨d0, d1, d2⟩ := hd1.keep (hb2.block _ hbb)
  clear hb2 HBe HB1 HD1 HC1 hd1
  by_cases h1 : d < 0
  · have hr := HR.out
    rw [if_pos h1] at hr
    subst hr
    have q0 : decide (d < 0) = true := decide_eq_true h1
    go_wp2
    go_ret2
    exact ⟨rfl, HD2.out, Trn.of_below HB2.out⟩
  · have q0 : decide (d < 0) = false := decide_eq_false h1
    by_cases h2 : 16 < d
    · have hr := HR.out
      rw [if_neg h1, if_pos h2] at hr
      subst hr
      have q1 : decide (d > 16) = true := decide_eq_true h2
      go_wp2
      go_ret2
      exact ⟨rfl, HD2.out, Trn.of_below HB2.out⟩
    · have q1 : decide (d > 16) = false := decide_eq_false h2
      have hr := HR.out
      rw [if_neg h1, if_neg h2] at hr
      have HR2 := Lib.hid hr
      clear hr HR
      go_wp2_with fail
      refine (HWy _).out.mono ?_
      rintro _ w3 ⟨A3, c3, rfl, ho3, hb3⟩
      have HB3 := Lib.hid (HB2.out.trans (hb3.mono HB2.out.size))
      have HD3 : Hid (RowD w3 bd dp) := Lib.hid ((hb3.block _ HD2.out.lt).trans HD2.out)
      have HO3 := Lib.hid (ho3.base HB2.out.size)
      clear ho3 hb3 HWy d0 d1 d2 HD2 HB2
      go_wp2_with fail
      go_loopw [12] (fun i wr => ∃ (j : Nat) (dj : List Int), i = .int .i64 (j : Int) ∧ j ≤ L.length ∧ Hid (r = lead n d (L.drop j) dj) ∧ Hid (dj.length = n) ∧ Hid (∀ y ∈ dj, -1 ≤ y ∧ y ≤ 16) ∧ Hid (RowD wr bd dj) ∧ Hid (OwnI wr w.heap.size (.slice A3 L.length c3) (nats L)) ∧ Hid (Trn bd bd bd w wr)) (fun i _ => L.length - (intOf i).toNat)
      case atStart => exact ⟨0, dp, rfl, Nat.zero_le _, Lib.hid (by rw [HR2.out]; rfl), HLD, HRng, HD3, HO3, Lib.hid (Trn.of_below HB3.out)⟩
      case round =>
        obtain ⟨j, dj, rfl, hj, HE, HL, HG, HD, HO, HT⟩ := hrel
        clear HD3 HO3 HB3 HR2 HLD HRng
        by_cases hlt2 : j < L.length
        · have q2 : decide ((j : Int) < (L.length : Int)) = true := decide_eq_true (by omega)
          obtain ⟨b3, o3, rfl, hb3, n3⟩ := HO.out.at j (by rw [nats_length]; exact hlt2)
          have en : (nats L).getD j 0 = ((L.getD j 0 : Nat) : Int) := by
            unfold nats
            rw [List.getD_eq_getElem?_getD, List.getD_eq_getElem?_getD, List.getElem?_map, List.getElem?_eq_getElem hlt2]
            rfl
          rw [en] at n3
          have hEE := HE.out
          rw [List.drop_eq_getElem_cons hlt2, lead_cons, show L[j] = L.getD j 0 by rw [List.getD_eq_getElem?_getD, List.getElem?_eq_getElem hlt2]; rfl] at hEE
          have hne : b3 ≠ bd := by
            have := (HO.out.lt (g := b3) rfl).1
            omega
          generalize L.getD j 0 = t at *
          have h30 : (0 : Int) ≤ (j : Int) := by omega
          have h31 : (j : Int) < (L.length : Int) := by omega
          by_cases ht : n ≤ t
          · rw [if_pos ht] at hEE
            subst hEE
            have q3 : decide ((t : Int) ≥ (n : Int)) = true := decide_eq_true (by omega)
            go_wp2_with fail
            go_ret2
            exact ⟨rfl, HD.out, HT.out⟩
          · rw [if_neg ht] at hEE
            have q3 : decide ((t : Int) ≥ (n : Int)) = false := decide_eq_false (by omega)
            have h40 : (0 : Int) ≤ (t : Int) := by omega
            have h41 : (t : Int) < (n : Int) := by omega
            obtain ⟨x0, y0⟩ := HD.out.cell (t := t) (by rw [HL.out]; omega)
            by_cases hc : 0 ≤ dj.getD t (-1) ∧ dj.getD t (-1) ≠ d
            · rw [if_pos hc] at hEE
              subst hEE
              obtain ⟨hc0, hc1⟩ := hc
              have q4 : decide (dj.getD t (-1) ≥ 0) = true := decide_eq_true hc0
              have q5 : (dj.getD t (-1) != d) = true := by simpa using hc1
              generalize dj.getD t (-1) = dt at *
              go_wp2_with fail
              go_ret2
              exact ⟨rfl, HD.out, HT.out⟩
            · rw [if_neg hc] at hEE
              have HE2 := Lib.hid hEE
              have HD4 := Lib.hid (HD.out.set t d)
              have HT4 := Lib.hid (HT.out.setCell (p := ⟨bd, t, none⟩) (.inl rfl) (.int .i64 d))
              have HO4 := Lib.hid (HO.out.keep (w' := wr.setCell ⟨bd, t, none⟩ (.int .i64 d)) (fun g hg => by
                obtain rfl : b3 = g := by simpa [Value.ownBlock] using hg
                exact Below.heap_setCell _ _ _ _ hne))
              have HG4 : Hid (∀ y ∈ dj.set t d, -1 ≤ y ∧ y ≤ 16) := Lib.hid fun y hy => by
                rcases List.mem_or_eq_of_mem_set hy with hy | rfl
                · exact HG.out y hy
                · omega
              have HL4 : Hid ((dj.set t d).length = n) := Lib.hid (by rw [List.length_set]; exact HL.out)
              clear hEE HE HD HT HO
              by_cases hn : 0 ≤ dj.getD t (-1)
              · have q4 : decide (dj.getD t (-1) ≥ 0) = true := decide_eq_true hn
                have q5 : (dj.getD t (-1) != d) = false := by
                  have : dj.getD t (-1) = d := by
                    by_cases e : dj.getD t (-1) = d
                    · exact e
                    · exact absurd ⟨hn, e⟩ hc
                  simpa using this
                clear hc hn
                generalize dj.getD t (-1) = dt at *
                go_wp2_with fail
                go_roundw
                case rel => exact ⟨j + 1, dj.set t d, by go_num, by omega, HE2, HL4, HG4, HD4, HO4, HT4⟩
                case measure => simp [intOf]; omega
              · have q4 : decide (dj.getD t (-1) ≥ 0) = false := decide_eq_false hn
                clear hc hn
                generalize dj.getD t (-1) = dt at *
                go_wp2_with fail
                go_roundw
                case rel => exact ⟨j + 1, dj.set t d, by go_num, by omega, HE2, HL4, HG4, HD4, HO4, HT4⟩
                case measure => simp [intOf]; omega
        · obtain rfl : j = L.length := by omega
          have q2 : decide ((L.length : Int) < (L.length : Int)) = false := decide_eq_false (by omega)
          have hEE := HE.out
          rw [List.drop_length] at hEE
          subst hEE
          clear HE
          go_wp2_with fail
          go_ret2
          exact ⟨rfl, HD.out, HT.out⟩
end Go.Proofs.YtjbcmedljgafkaaDoor.pgm.dep

/-
  How the writer and the reader lie in memory, and what a step leaves alone: a writer's block holds a slice of bytes of its own; a reader's block holds the bytes that are left and the first error. No condition.
-/

namespace Go.Proofs.YtjbcmedljgafkaaDoor.octet
open Go.RowKit

def cells (l : List UInt8) : List Value := l.map fun b => Value.int .u8 (b.toNat : Int)
/-- Of the blocks below B none has turned but x; no block has gone. -/
structure Frm (B x : Nat) (w w' : World) : Prop where
  os : w'.os = w.os
  tape : w'.tape = w.tape
  output : w'.output = w.output
  size : w.heap.size ≤ w'.heap.size
  block : ∀ k, k < B → k ≠ x → w'.heap[k]? = w.heap[k]?
theorem Frm.refl (B x : Nat) (w : World) : Frm B x w w := ⟨rfl, rfl, rfl, Nat.le_refl _, fun _ _ _ => rfl⟩
theorem Frm.trans {B x : Nat} {a b c : World} (h : Frm B x a b) (k : Frm B x b c) : Frm B x a c :=
  ⟨k.os.trans h.os, k.tape.trans h.tape, k.output.trans h.output, Nat.le_trans h.size k.size, fun i hi hx => (k.block i hi hx).trans (h.block i hi hx)⟩
theorem Frm.mono {B B' x : Nat} {w w' : World} (h : Frm B x w w') (hB : B' ≤ B) : Frm B' x w w' := ⟨h.os, h.tape, h.output, h.size, fun k hk hx => h.block k (Nat.lt_of_lt_of_le hk hB) hx⟩
theorem Frm.drew {B x : Nat} {a w : World} (h : Frm B x a w) : Frm B x a w.drew := ⟨h.os, h.tape, h.output, h.size, h.block⟩
theorem Frm.alloc {B x : Nat} {a w : World} (h : Frm B x a w) (hB : B ≤ w.heap.size) (o : Obj) : Frm B x a (w.alloc o) :=
  h.trans ⟨rfl, rfl, rfl, by simp, fun k hk _ => Below.heap_alloc _ _ _ (by omega)⟩
theorem Frm.setCell {B x : Nat} {a w : World} (h : Frm B x a w) {p : Addr} (hp : p.block = x ∨ B ≤ p.block) (u : Value) : Frm B x a (w.setCell p u) :=
  h.trans ⟨rfl, rfl, rfl, by simp [World.setCell], fun k hk hx => Below.heap_setCell _ _ _ _ (by omega)⟩
theorem Frm.below {B B' x : Nat} {w w' : World} (h : Frm B x w w') (hx : B' ≤ x) (hB : B' ≤ B) : Below B' w w' :=
  ⟨h.os, h.tape, h.output, h.size, fun k hk => h.block k (by omega) (by omega)⟩
theorem Frm.of_below {B x : Nat} {w w' : World} (h : Below B w w') : Frm B x w w' := ⟨h.os, h.tape, h.output, h.size, fun k hk _ => h.block k hk⟩
theorem Frm.grown {B x : Nat} {a w w' : World} {row : Option Nat} (h : Frm B x a w) (hg : w.grownBy w' row) (hB : B ≤ w.heap.size) (hr : ∀ k, row = some k → B ≤ k ∨ k = x) : Frm B x a w' :=
  h.trans ⟨hg.os, hg.tape, hg.output, hg.size, fun k hk hx => hg.block k (by omega) (fun e => by rcases hr k e.symm with h | h <;> omega)⟩

end Go.Proofs.YtjbcmedljgafkaaDoor.octet

/-
  The reader's calls, each by itself: what is left, the first error, one byte, a failure. The reader lies in a block of its own, and holds no bytes behind an error.
-/

set_option linter.unusedVariables false
namespace Go.Proofs.YtjbcmedljgafkaaDoor.octet
open Go.RowKit Go.ChangeShapes

end Go.Proofs.YtjbcmedljgafkaaDoor.octet

/-
  The reader's numbers: what bytes are read as one, byte by byte, and the first error. The reader lies in a block of its own, holds no bytes behind an error, and at most two to the forty-seventh of them.
-/

namespace Go.Proofs.YtjbcmedljgafkaaDoor.octet
open Go.RowKit Go.ChangeShapes
set_option linter.unusedVariables false

end Go.Proofs.YtjbcmedljgafkaaDoor.octet

/-
  Package span: a number that is read, held below two to the thirty-first, and whether a number lies in a span ; what is wrong with how many there are (typed over the code of 4b95722). A text of at most two to the forty-seventh bytes.
-/

namespace Go.Proofs.YtjbcmedljgafkaaDoor.span
open Go.RowKit Go.ChangeShapes
open Go.Proofs.YtjbcmedljgafkaaDoor.octet (St Frm)
set_option linter.unusedVariables false

theorem ret_int {k : IntKind} {a b : Int} (h : a = b) : Ending.returned (.int k a) = .returned (.int k b) := by rw [h]
theorem within_any (v lo hi : Int) (w : World) : Calls Tryd.prog 35 #[.int .i64 v, .int .i64 lo, .int .i64 hi] w fun e w' => e = .returned (.bool (decide (lo ≤ v ∧ v ≤ hi))) ∧ w = w' := by
  by_cases h1 : lo ≤ v
  · by_cases h2 : v ≤ hi
    · rw [decide_eq_true ⟨h1, h2⟩]
      go_enter Tryd.func35, Tryd.ntmps35
      go_wp2
      go_ret
      exact ⟨rfl, rfl⟩
    · rw [decide_eq_false (fun h => h2 h.2)]
      have hd : decide (v ≤ hi) = false := by simpa using h2
      go_enter Tryd.func35, Tryd.ntmps35
      go_wp2
      go_ret
      exact ⟨rfl, rfl⟩
  · rw [decide_eq_false (fun h => h1 h.1)]
    have hd : decide (lo ≤ v) = false := by simpa using h1
    go_enter Tryd.func35, Tryd.ntmps35
    go_wp2
    go_ret
    exact ⟨rfl, rfl⟩

end Go.Proofs.YtjbcmedljgafkaaDoor.span

/-
  The walk's call that goes to a place (typed over the code of 5351f23). Of at most 200 instructions.
-/

namespace Go.Proofs.YtjbcmedljgafkaaDoor.pgm.dep
open Go.RowKit Go.ChangeShapes
open Go.Proofs.YtjbcmedljgafkaaDoor.pgm
open Go.Proofs.YtjbcmedljgafkaaDoor.span (within_any)
set_option linter.unusedVariables false

end Go.Proofs.YtjbcmedljgafkaaDoor.pgm.dep

/-
  The walk as it begins (typed over the code of 5351f23): all depths unknown but the first one's. Of 1 to 200 instructions.
-/

namespace Go.Proofs.YtjbcmedljgafkaaDoor.pgm.dep
open Go.RowKit Go.ChangeShapes
open Go.Proofs.YtjbcmedljgafkaaDoor.pgm
open Go.Proofs.YtjbcmedljgafkaaDoor.nums (ints)
set_option linter.unusedVariables false

theorem infoInt : (Tryd.prog.info? 3).map (fun i => (i.zero, i.size, i.bytes)) = some (some (.int .i64 0), 1, 8) := by kernel_rfl
theorem infoBool : (Tryd.prog.info? 4).map (fun i => (i.zero, i.size, i.bytes)) = some (some (.bool false), 1, 1) := by kernel_rfl
set_option maxRecDepth 100000 in
theorem made_ints (n : Nat) (hn : n ≤ 8192) (W : World) :
    (Instr.makeSlice 27 (.int .i64 (n : Int)) (.int .i64 (n : Int))).run Tryd.prog W = .ok (.slice (some ⟨W.heap.size, 0, none⟩) n n) (W.alloc (.cells (ints (List.replicate n 0)).toArray 3)) := by
  obtain ⟨i, hi, hz0, hz1, hz2⟩ := info_parts infoInt
  have h := run_make (P := Tryd.prog) W 27 3 i (.int .i64 0) Tryd.underlying27 hi hz0 .i64 .i64 (n : Int) (n : Int) (by omega) (by omega) (by rw [hz2]; omega) (by omega)
  rw [h, hz1, Int.toNat_natCast, Nat.mul_one]
  congr 4
  rw [← Array.toList_inj]
  show (madeCells #[.int .i64 0] n).toList = _
  rw [toList_madeCells_one]
  simp [ints]
set_option maxRecDepth 100000 in
theorem made_bools (n : Nat) (hn : n ≤ 8192) (W : World) :
    (Instr.makeSlice 82 (.int .i64 (n : Int)) (.int .i64 (n : Int))).run Tryd.prog W = .ok (.slice (some ⟨W.heap.size, 0, none⟩) n n) (W.alloc (.cells (yess (List.replicate n false)).toArray 4)) := by
  obtain ⟨i, hi, hz0, hz1, hz2⟩ := info_parts infoBool
  have h := run_make (P := Tryd.prog) W 82 4 i (.bool false) Tryd.underlying82 hi hz0 .i64 .i64 (n : Int) (n : Int) (by omega) (by omega) (by rw [hz2]; omega) (by omega)
  rw [h, hz1, Int.toNat_natCast, Nat.mul_one]
  congr 4
  rw [← Array.toList_inj]
  show (madeCells #[.bool false] n).toList = _
  rw [toList_madeCells_one]
  simp [yess]

/-- Of n depths the first j are unknown. -/
def unk (n j : Nat) : List Int := List.replicate j (-1) ++ List.replicate (n - j) 0
theorem unk_next {n j : Nat} (h : j < n) : (unk n j).set j (-1) = unk n (j + 1) := by
  unfold unk
  rw [List.set_append_right _ _ (by simp), List.length_replicate, Nat.sub_self]
  obtain ⟨m, hm⟩ : ∃ m, n - j = m + 1 := ⟨n - j - 1, by omega⟩
  rw [hm, show n - (j + 1) = m by omega, List.replicate_succ (n := m), List.set_cons_zero, List.replicate_succ' (n := j)]
  simp

theorem unk_zero (n : Nat) : unk n 0 = List.replicate n 0 := by simp [unk]
theorem unk_all (n : Nat) : unk n n = List.replicate n (-1) := by simp [unk]
end Go.Proofs.YtjbcmedljgafkaaDoor.pgm.dep

/-
  What the statements on depths ask of the program's two calls, and their common end: whether depths are found. No condition.
-/

namespace Go.Proofs.YtjbcmedljgafkaaDoor.pgm.dep
open Go.RowKit Go.ChangeShapes
open Go.Proofs.YtjbcmedljgafkaaDoor.pgm
open Go.Proofs.YtjbcmedljgafkaaDoor.objs (De zero DAt cells3)
open Go.Proofs.YtjbcmedljgafkaaDoor.nums (NAt NAt.next)
set_option linter.unusedVariables false

def I64 (n : Int) : Prop := -9223372036854775808 ≤ n ∧ n ≤ 9223372036854775807
/-- The depths, the place and the error are answered. -/
def OfPost (q : List Int × Nat × Nat) (w : World) (e : Ending) (w' : World) : Prop :=
  ∃ A c, e = .returned (.tuple #[.slice A q.1.length c, .int .i64 (q.2.1 : Int), .int .i64 (q.2.2 : Int)]) ∧ NAt w' A q.1 ∧ Below w.heap.size w w'
/-- The program that lives makes. -/
def liP : Pg := ⟨[], [], [⟨0, 0, [(0, 0, 0), (0, 0, 0), (3, 0, 0), (21, 0, 0)]⟩, ⟨0, 0, [(21, 0, 0)]⟩]⟩
def inB4 : Obj := .cells #[.int .i64 0, .int .i64 0, .int .i64 0, .int .i64 0, .int .i64 0, .int .i64 0, .int .i64 3, .int .i64 0, .int .i64 0, .int .i64 21, .int .i64 0, .int .i64 0] 55
def inB1 : Obj := .cells #[.int .i64 21, .int .i64 0, .int .i64 0] 55
def fnB2 (g : Nat) : Obj := .cells #[.int .i64 0, .int .i64 0, .slice (some ⟨g, 0, none⟩) 4 4, .int .i64 0, .int .i64 0, .slice (some ⟨g + 1, 0, none⟩) 1 1] 58
def prB (g : Nat) : Obj := .cells #[.slice none 0 0, .slice none 0 0, .slice (some ⟨g, 0, none⟩) 2 2] 26
def liV (g : Nat) : Value := .agg #[.slice none 0 0, .slice none 0 0, .slice (some ⟨g, 0, none⟩) 2 2]
def liW (w : World) : World := (((w.alloc inB4).alloc inB1).alloc (fnB2 w.heap.size)).alloc (prB (w.heap.size + 1 + 1))
theorem liW_sizes (w : World) : (w.alloc inB4).heap.size = w.heap.size + 1 ∧ ((w.alloc inB4).alloc inB1).heap.size = w.heap.size + 1 + 1 ∧ (((w.alloc inB4).alloc inB1).alloc (fnB2 w.heap.size)).heap.size = w.heap.size + 1 + 1 + 1 := by
  refine ⟨World.size_alloc w _, ?_, ?_⟩
  · rw [World.size_alloc, World.size_alloc]
  · rw [World.size_alloc, World.size_alloc, World.size_alloc]
theorem liW_below (w : World) : Below w.heap.size w (liW w) := by
  obtain ⟨z1, z2, z3⟩ := liW_sizes w
  exact ((((Below.refl _ w).alloc (Nat.le_refl _) _).alloc (by omega) _).alloc (by omega) _).alloc (by omega) _
theorem liW_box (w : World) : (liW w).heap[w.heap.size + 1 + 1 + 1]? = some (prB (w.heap.size + 1 + 1)) := by
  obtain ⟨z1, z2, z3⟩ := liW_sizes w
  rw [← z3]
  exact heap_alloc_new _ _
theorem liW_at (w : World) : PAt (liW w) (liV (w.heap.size + 1 + 1)) liP := by
  obtain ⟨z1, z2, z3⟩ := liW_sizes w
  have b0 : (liW w).heap[w.heap.size]? = some inB4 := (Below.heap_alloc _ _ _ (by omega)).trans ((Below.heap_alloc _ _ _ (by omega)).trans ((Below.heap_alloc _ _ _ (by omega)).trans (heap_alloc_new w _)))
  have b1 : (liW w).heap[w.heap.size + 1]? = some inB1 := (Below.heap_alloc _ _ _ (by omega)).trans ((Below.heap_alloc _ _ _ (by omega)).trans (by rw [← z1]; exact heap_alloc_new _ _))
  have b2 : (liW w).heap[w.heap.size + 1 + 1]? = some (fnB2 w.heap.size) := (Below.heap_alloc _ _ _ (by omega)).trans (by rw [← z2]; exact heap_alloc_new _ _)
  refine ⟨none, none, some ⟨w.heap.size + 1 + 1, 0, none⟩, 0, 0, 2, rfl, DAt.nil _ _, WsAt.nil _ _, fun j hj => ?_⟩
  have hj2 : j < 2 := hj
  have cell : ∀ (g i : Nat) (cs : Array Value) (T : TypeId) (x : Value), (liW w).heap[g]? = some (.cells cs T) → cs[i]? = some x → (liW w).cell? ⟨g, i, none⟩ = some x := fun g i cs T x h hx => by
    unfold World.cell?
    rw [h]
    simpa using hx
  match j, hj2 with
  | 0, _ =>
    refine ⟨_, 0, some ⟨w.heap.size, 0, none⟩, 4, rfl, lt_of_block b2, ⟨cell _ _ _ _ _ b2 rfl, cell _ _ _ _ _ b2 rfl, cell _ _ _ _ _ b2 rfl⟩, fun i hi => ?_⟩
    have hi2 : i < 4 := hi
    refine ⟨_, 0, rfl, lt_of_block b0, ?_⟩
    match i, hi2 with
    | 0, _ => exact ⟨cell _ _ _ _ _ b0 rfl, cell _ _ _ _ _ b0 rfl, cell _ _ _ _ _ b0 rfl⟩
    | 1, _ => exact ⟨cell _ _ _ _ _ b0 rfl, cell _ _ _ _ _ b0 rfl, cell _ _ _ _ _ b0 rfl⟩
    | 2, _ => exact ⟨cell _ _ _ _ _ b0 rfl, cell _ _ _ _ _ b0 rfl, cell _ _ _ _ _ b0 rfl⟩
    | 3, _ => exact ⟨cell _ _ _ _ _ b0 rfl, cell _ _ _ _ _ b0 rfl, cell _ _ _ _ _ b0 rfl⟩
  | 1, _ =>
    refine ⟨_, 0, some ⟨w.heap.size + 1, 0, none⟩, 1, rfl, lt_of_block b2, ⟨cell _ _ _ _ _ b2 rfl, cell _ _ _ _ _ b2 rfl, cell _ _ _ _ _ b2 rfl⟩, fun i hi => ?_⟩
    have hi2 : i < 1 := hi
    refine ⟨_, 0, rfl, lt_of_block b1, ?_⟩
    match i, hi2 with
    | 0, _ => exact ⟨cell _ _ _ _ _ b1 rfl, cell _ _ _ _ _ b1 rfl, cell _ _ _ _ _ b1 rfl⟩

end Go.Proofs.YtjbcmedljgafkaaDoor.pgm.dep
