/-
  Texts of one claim in one file: GRefFn. Each has its own sentence, with its conditions.
-/
import Derived.Test.YtjlmgoaglpkhoaaHall6
import Derived.Test.YtjlmgoaglpkhoaaHall7
/-
  The document's own answer of what is wrong with a function. No condition.
-/
namespace Go.Proofs.Ytjlmgoaglpkhoaa.pgm
open Go.RowKit Go.ChangeShapes
open Go.Proofs.Ytjlmgoaglpkhoaa.objs (De zero DAt)
open Go.Proofs.Ytjlmgoaglpkhoaa.inst (refCheck_any)
set_option linter.unusedVariables false

def NumPost (c : Nat) (w : World) (e : Ending) (w' : World) : Prop := e = .returned (.int .i64 (c : Nat)) ∧ Below w.heap.size w w'
def fnBox (ar lo : Int) (v : Value) : Obj := .cells #[.int .i64 ar, .int .i64 lo, v] 37
theorem fn_cells {w W : World} {ar lo : Int} {v : Value} (hb : Below (w.alloc (fnBox ar lo v)).heap.size (w.alloc (fnBox ar lo v)) W) : W.heap[w.heap.size]? = some (fnBox ar lo v) :=
  (hb.block _ (by rw [World.size_alloc]; omega)).trans (heap_alloc_new w _)

set_option maxRecDepth 100000 in
set_option maxHeartbeats 8000000 in
theorem refFn_any (A : Option Addr) (n c : Nat) (ar lo : Int) (l : List De) (hn : l.length = min n 250) (w : World) (hA : DAt w A l) :
    Calls Try.prog 13 #[.agg #[.int .i64 ar, .int .i64 lo, .slice A n c]] w (NumPost (chkFn ⟨ar, lo, l⟩) w) := by
  unfold NumPost
  obtain ⟨v, hv⟩ : ∃ v, v = chkFn ⟨ar, lo, l⟩ := ⟨_, rfl⟩
  rw [← hv]
  unfold chkFn at hv
  dsimp only at hv
  have hb0 : Below w.heap.size w (w.alloc (fnBox ar lo (.slice A n c))) := (Below.refl _ w).alloc (Nat.le_refl _) _
  have HB0 := Lib.hid hb0
  by_cases h1 : ar < 0 ∨ lo < ar ∨ 8 < lo
  · rw [if_pos h1] at hv
    clear hn hA hb0
    subst hv
    unfold fnBox at HB0
    by_cases a1 : ar < 0
    · clear h1
      go_enter Try.func13, Try.ntmps13
      go_wp2_with fail
      go_ret
      exact ⟨rfl, HB0.out⟩
    · by_cases a2 : lo < ar
      · have q1 : decide (ar < 0) = false := by simp; omega
        have q2 : decide (ar > lo) = true := by simp; omega
        clear h1 a1
        go_enter Try.func13, Try.ntmps13
        go_wp2_with fail
        go_ret
        exact ⟨rfl, HB0.out⟩
      · have a3 : 8 < lo := by omega
        have q1 : decide (ar < 0) = false := by simp; omega
        have q2 : decide (ar > lo) = false := by simp; omega
        clear h1 a1 a2
        go_enter Try.func13, Try.ntmps13
        go_wp2_with fail
        go_ret
        exact ⟨rfl, HB0.out⟩
  · rw [if_neg h1] at hv
    have q1 : decide (ar < 0) = false := by simp; omega
    have q2 : decide (ar > lo) = false := by simp; omega
    have q3 : decide (lo > 8) = false := by simp; omega
    by_cases h0 : n = 0
    · subst h0
      rw [if_pos (by omega)] at hv
      clear hA hb0 h1 hn
      subst hv
      unfold fnBox at HB0
      go_enter Try.func13, Try.ntmps13
      go_wp2_with fail
      go_ret
      exact ⟨rfl, HB0.out⟩
    · have q4 : ((n : Int) == 0) = false := by simpa using h0
      rw [if_neg (by omega)] at hv
      by_cases h2 : 200 < n
      · have q5 : decide ((n : Int) > 200) = true := by simp; omega
        rw [if_pos (by omega)] at hv
        clear hA hb0 h1 hn h0 h2
        subst hv
        unfold fnBox at HB0
        go_enter Try.func13, Try.ntmps13
        go_wp2_with fail
        go_ret
        exact ⟨rfl, HB0.out⟩
      · obtain rfl : n = l.length := by omega
        rw [if_neg (by omega)] at hv
        have q5 : decide ((l.length : Int) > 200) = false := by simp; omega
        have HV := Lib.hid hv
        have hl64 : l.length ≤ 9223372036854775807 := by omega
        have HA := Lib.hid hA
        have HL := Lib.hid h2
        clear hA hb0 h1 hn h0 h2 hv
        unfold fnBox at HB0
        go_enter Try.func13, Try.ntmps13
        go_wp2_with fail
        go_loopw [3] (fun i wr => ∃ j : Nat, j ≤ l.length ∧ i = .int .i64 (j : Int) ∧ Hid (v = firstE chkI (l.drop j)) ∧ Hid (Below (w.heap.size + 1) (w.alloc (.cells #[.int .i64 ar, .int .i64 lo, .slice A l.length c] 37)) wr)) (fun i _ => l.length - (intOf i).toNat)
        case atStart => exact ⟨0, Nat.zero_le _, rfl, Lib.hid (by simpa using HV.out), Lib.hid (Below.refl _ _)⟩
        case round =>
          obtain ⟨j, hj, rfl, HJ, HW⟩ := hrel
          have HD := Lib.hid (HA.out.next (HB0.out.trans (HW.out.mono (Nat.le_succ _))))
          have hblk : wr.heap[w.heap.size]? = some (.cells #[.int .i64 ar, .int .i64 lo, .slice A l.length c] 37) := (HW.out.block _ (Nat.lt_succ_self _)).trans (heap_alloc_new w _)
          have e2 : wr.cell? ⟨w.heap.size, 2, none⟩ = some (.slice A l.length c) := by unfold World.cell?; rw [hblk]; rfl
          clear hblk
          by_cases hlt : j < l.length
          · have HNx := Lib.hid (firstE_drop (f := chkI) zero hlt)
            obtain ⟨b, off, rfl, hbl, c0, c1, c2⟩ := HD.out j hlt
            have hlt' : (j : Int) < (l.length : Int) := by omega
            have hj0 : (0 : Int) ≤ (j : Int) := by omega
            have HO := Lib.hid (refCheck_any (l.getD j zero).1 (l.getD j zero).2.1 (l.getD j zero).2.2 wr)
            have hI : chkI (l.getD j zero) = Go.Proofs.Ytjlmgoaglpkhoaa.inst.chk (l.getD j zero).1 (l.getD j zero).2.1 (l.getD j zero).2.2 := rfl
            rw [← hI] at HO
            clear hI
            generalize l.getD j zero = t at *
            generalize chkI t = q at *
            obtain ⟨tk, ta, tb⟩ := t
            dsimp only at HO c0 c1 c2
            go_wp2_with fail
            refine HO.out.mono ?_
            rintro e w3 ⟨rfl, hb3⟩
            have HW3 := Lib.hid (HW.out.trans (hb3.mono (by have := HW.out.size; rw [World.size_alloc] at this; exact this)))
            have HB3 := Lib.hid (HB0.out.trans (HW3.out.mono (Nat.le_succ _)))
            clear hb3 c0 c1 c2 HO
            by_cases hq : q = 0
            · have HE : Hid (v = firstE chkI (l.drop (j + 1))) := Lib.hid (by rw [HJ.out, HNx.out, if_neg (by simp [hq])])
              have hq' : ((q : Int) != 0) = false := by simp [hq]
              clear hq
              go_wp2
              go_roundw
              case rel => have h200 := HL.out; exact ⟨j + 1, by omega, by go_num, HE, HW3⟩
              case measure => have h200 := HL.out; simp [intOf]; omega
            · have HE : Hid (v = q) := Lib.hid (by rw [HJ.out, HNx.out, if_pos hq])
              have hq' : ((q : Int) != 0) = true := by simpa using hq
              clear hq
              go_wp2
              go_ret
              exact ⟨by rw [HE.out]; rfl, HB3.out⟩
          · have H1 : Hid (v = 0) := Lib.hid (by
              obtain rfl : j = l.length := by omega
              rw [HJ.out, List.drop_length]; rfl)
            have HB3 := Lib.hid (HB0.out.trans (HW.out.mono (Nat.le_succ _)))
            have hge : decide ((j : Int) < (l.length : Int)) = false := by simp; omega
            go_wp2
            go_ret
            exact ⟨by rw [H1.out]; rfl, HB3.out⟩
end Go.Proofs.Ytjlmgoaglpkhoaa.pgm
