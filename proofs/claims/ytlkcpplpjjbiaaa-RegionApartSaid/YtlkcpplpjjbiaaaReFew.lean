/-
  The law's own few: calls, whose numbers are somewhat cut. No condition.
-/
import Derived.Test.YtlkcpplpjjbiaaaReOps
import Derived.Test.YtlkcpplpjjbiaaaReOpRow
import Derived.Test.YtlkcpplpjjbiaaaPoMem
import Derived.IntWalk
namespace Go.Proofs.Ytlkcpplpjjbiaaa.reg
open Go.RowKit Go.ChangeShapes
open Go.Proofs.Ytlkcpplpjjbiaaa.ro (De zero GAt)
open Go.Proofs.Ytlkcpplpjjbiaaa.pol (below_grown)
set_option linter.unusedVariables false
set_option linter.unusedSimpArgs false

def cutI (x : Int) : Int := min (max x (-1099511627776)) 1099511627776
theorem cutI_in (x : Int) : -1099511627776 ≤ cutI x ∧ cutI x ≤ 1099511627776 := by unfold cutI; omega
def cutO (o : De) : De := (o.1, cutI o.2.1, cutI o.2.2)
/-- The calls that are made. -/
def fewL (ops : List De) : List De := (ops.take 50).map cutO
theorem fewL_length (ops : List De) : (fewL ops).length ≤ 50 := by unfold fewL; rw [List.length_map, List.length_take]; omega
theorem fewL_cut (ops : List De) : ∀ p ∈ fewL ops, -1099511627776 ≤ p.2.2 ∧ p.2.2 ≤ 1099511627776 := by
  intro p hp
  unfold fewL at hp
  obtain ⟨q, _, rfl⟩ := List.mem_map.1 hp
  exact cutI_in _
theorem take_cut {ops : List De} {k : Nat} (hk : k < ops.length) : (ops.take (k + 1)).map cutO = (ops.take k).map cutO ++ [cutO (ops.getD k (0, 0, 0))] := by
  rw [List.take_succ_eq_append_getElem hk, List.map_append, List.getD_eq_getElem?_getD, List.getElem?_eq_getElem hk]
  rfl
theorem take_few {ops : List De} {k : Nat} (hk : k ≤ ops.length) (h5 : k ≤ 50) (h : ¬ (k < ops.length ∧ k < 50)) : (ops.take k).map cutO = fewL ops := by
  unfold fewL
  by_cases e : k = 50
  · rw [e]
  · have hk2 : k = ops.length := by omega
    rw [hk2, List.take_of_length_le (Nat.le_refl _), List.take_of_length_le (by omega)]
/-- Calls that lie in memory. -/
def FewP (ops : List De) (w : World) (e : Ending) (w' : World) : Prop := ∃ A c, e = .returned (.slice A (fewL ops).length c) ∧ GAt w' A (fewL ops) ∧ Below w.heap.size w w'
set_option maxRecDepth 100000 in
set_option maxHeartbeats 4000000 in
theorem few_any (A : Option Addr) (c : Nat) (ops : List De) (w : World) (ho : OpsAt w A ops) (hl : ops.length ≤ 9223372036854775807) :
    Calls Try.prog 8 #[.slice A ops.length c] w (FewP ops w) := by
  have HO := Lib.hid ho
  have H0 : Hid (ro.Own (w.alloc (.cells #[] 36)) w.heap.size (.slice (some ⟨w.heap.size, 0, none⟩) 0 0) ((ops.take 0).map cutO) ∧ Below w.heap.size w (w.alloc (.cells #[] 36))) := Lib.hid ⟨ro.Own.empty (heap_alloc_new w _), (Below.refl _ w).alloc (Nat.le_refl _) _⟩
  unfold FewP
  clear ho
  go_enter Try.func8, Try.ntmps8
  go_wp2
  go_loopw [3, 4] (fun v i wr => ∃ k : Nat, i = .int .i64 (k : Int) ∧ k ≤ ops.length ∧ k ≤ 50 ∧ Hid (ro.Own wr w.heap.size v ((ops.take k).map cutO) ∧ Below w.heap.size w wr)) (fun _ i _ => ops.length - (intOf i).toNat)
  case atStart => exact ⟨0, rfl, Nat.zero_le _, Nat.zero_le _, H0⟩
  case round =>
    obtain ⟨k, rfl, hk, hk5, HW⟩ := hrel
    clear H0
    by_cases hlt : k < ops.length ∧ k < 50
    · obtain ⟨hlt, h50⟩ := hlt
      have d1 : decide (k < ops.length) = true := decide_eq_true hlt
      have d2 : decide ((k : Int) < 50) = true := by simp; omega
      obtain ⟨b, off, rfl, hb, c0, c1, c2⟩ := (HO.out.next HW.out.2) k hlt
      have HJ := Lib.hid (And.intro hlt h50)
      have HT : Hid ((ops.take (k + 1)).map cutO = (ops.take k).map cutO ++ [cutO (ops.getD k (0, 0, 0))]) := Lib.hid (take_cut hlt)
      have HLn : Hid (((ops.take k).map cutO).length ≤ 50) := Lib.hid (by rw [List.length_map, List.length_take]; omega)
      generalize ops.getD k (0, 0, 0) = x at *
      generalize (ops.take k).map cutO = out at *
      have k0 : (0 : Int) ≤ (k : Int) := by omega
      have k1 : (k : Int) < (ops.length : Int) := by omega
      have hw1 : wrap64 ((k : Int) + 1) = (k : Int) + 1 := IntWalk.wrap64_in _ (by omega)
      have hw2 : IntKind.i64.wrap ((k : Int) + 1) = (k : Int) + 1 := by rw [IntWalk.i64_left, hw1]
      have HX : Hid (∀ W, W = wr.alloc (.cells #[.int .i64 x.1, .int .i64 (cutI x.2.1), .int .i64 (cutI x.2.2)] 36) → (W.cell? ⟨wr.heap.size, 0, none⟩ = some (.int .i64 x.1) ∧ W.cell? ⟨wr.heap.size, 1, none⟩ = some (.int .i64 (cutI x.2.1)) ∧ W.cell? ⟨wr.heap.size, 2, none⟩ = some (.int .i64 (cutI x.2.2))) ∧ (ro.Own (W.alloc (.cells #[.int .i64 x.1, .int .i64 (cutI x.2.1), .int .i64 (cutI x.2.2)] 36)) w.heap.size u3 out ∧ GAt (W.alloc (.cells #[.int .i64 x.1, .int .i64 (cutI x.2.1), .int .i64 (cutI x.2.2)] 36)) (some ⟨W.heap.size, 0, none⟩) [cutO x]) ∧ Below w.heap.size w (W.alloc (.cells #[.int .i64 x.1, .int .i64 (cutI x.2.1), .int .i64 (cutI x.2.2)] 36))) := Lib.hid fun W hW => by
        have hb1 : Below wr.heap.size wr W := by rw [hW]; exact (Below.refl _ wr).alloc (Nat.le_refl _) _
        have hb2 := hb1.alloc hb1.size (.cells #[.int .i64 x.1, .int .i64 (cutI x.2.1), .int .i64 (cutI x.2.2)] 36)
        refine ⟨?_, ⟨HW.out.1.next hb2, GAt.one (d := cutO x) (heap_alloc_new W _)⟩, HW.out.2.trans (hb2.mono HW.out.2.size)⟩
        rw [hW]
        refine ⟨?_, ?_, ?_⟩
        all_goals
          unfold World.cell?
          rw [heap_alloc_new]
          rfl
      have Y := HX.out _ rfl
      obtain ⟨y0, y1, y2⟩ := Y.1
      have HY := Lib.hid Y.2
      clear hlt h50 hk hk5 hb HW HX Y
      unfold cutI at HY y0 y1 y2
      go_upto_region 8 with fail
      generalize wr.alloc (.cells #[.int .i64 x.1, .int .i64 (min (max x.2.1 (-1099511627776)) 1099511627776), .int .i64 (min (max x.2.2 (-1099511627776)) 1099511627776)] 36) = W8 at *
      go_wp2_with (at_builtin; refine ro.wpList_appG (by rfl) (.tmp 31) (.tmp 33) (by rfl) w.heap.size 1 1 u3 (some ⟨W8.heap.size, 0, none⟩) out [cutO x] (by rfl) HY.out.1.1 (by rfl) (by rfl) (fun h => by cases h) HY.out.1.2 (by have := HLn.out; simp; omega) HY.out.2.size ?_)
      intro v2 w2 ho2 hg2
      have H3 : Hid (ro.Own w2 w.heap.size v2 ((ops.take (k + 1)).map cutO) ∧ Below w.heap.size w w2) := Lib.hid (by rw [HT.out]; exact ⟨ho2, below_grown HY.out.2 hg2 (fun j e => (HY.out.1.1.lt e).1) HY.out.2.size⟩)
      clear ho2 hg2 HY HT y0 y1 y2
      go_wp2_with fail
      go_roundw
      case rel => exact ⟨k + 1, by go_num, HJ.out.1, HJ.out.2, H3⟩
      case measure => have := HJ.out; simp [intOf, hw1]; omega
    · have HT : Hid ((ops.take k).map cutO = fewL ops) := Lib.hid (take_few hk hk5 hlt)
      have HD := Lib.hid HW.out
      rw [HT.out] at HD
      obtain ⟨A', c', e⟩ := HD.out.1.slice
      subst e
      obtain ⟨a, a2, ha, ha2, haa⟩ : ∃ a a2 : Bool, decide (k < ops.length) = a ∧ decide ((k : Int) < 50) = a2 ∧ (a && a2) = false := ⟨_, _, rfl, rfl, by
        rw [Bool.eq_false_iff]
        intro h
        rw [Bool.and_eq_true, decide_eq_true_iff, decide_eq_true_iff] at h
        exact hlt ⟨h.1, by omega⟩⟩
      clear HW HT hlt hk hk5 HO
      cases a
      case' true => obtain rfl : a2 = false := by simpa using haa
      all_goals
        clear haa
        go_wp2_with fail
        go_ret
        exact ⟨_, _, rfl, HD.out.1.at, HD.out.2⟩
end Go.Proofs.Ytlkcpplpjjbiaaa.reg
