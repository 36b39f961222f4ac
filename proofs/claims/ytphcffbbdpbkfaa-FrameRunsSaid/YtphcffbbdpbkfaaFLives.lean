/-
  Values are laid and taken: what the statement asks at its end. No condition but what is asked of the program's calls.
-/
import Derived.Test.YtphcffbbdpbkfaaFRuns
namespace Go.Proofs.Ytphcffbbdpbkfaa.frames
open Go.RowKit Go.ChangeShapes
open Go.Proofs.Ytphcffbbdpbkfaa.nums (NAt)
set_option linter.unusedVariables false
set_option linter.unusedSimpArgs false

def liveF : Fr := [2, 0, 1, 7, 0, 0, 0, 0, 0, 0, 0, 5, 0, 0, 0, 0, 0, 0, 0, 0, 0, 0, 0, 0, 0, 0, 0]
theorem live_push : pushF [newF 2 [7]] 5 = some [liveF] := by decide +kernel
theorem live_good : GoodF liveF := ⟨by decide, by decide, by decide⟩
theorem live_new : Good [newF 2 [7]] := ⟨by simp, fun g hg => by rw [List.mem_singleton.1 hg]; exact new_good 2 [7]⟩

set_option maxRecDepth 100000 in
set_option maxHeartbeats 8000000 in
theorem lives_any (K : Keeps) (w : World) : Calls Try.prog 15 #[] w fun e w' => e = .returned (.bool true) ∧ Below w.heap.size w w' := by
  have HK := Lib.hid K
  have hb0 : Below w.heap.size w (w.alloc (.cells #[.int .i64 7] 3)) := (Below.refl _ w).alloc (Nat.le_refl _) _
  have HB0 := Lib.hid hb0
  have hn : NAt (w.alloc (.cells #[.int .i64 7] 3)) (some ⟨w.heap.size, 0, none⟩) [7] := fun j hj => by
    obtain rfl : j = 0 := by simpa using hj
    refine ⟨w.heap.size, 0, rfl, by simp, ?_⟩
    unfold World.cell?
    rw [heap_alloc_new w _]
    rfl
  have HN := Lib.hid (K.new 2 (some ⟨w.heap.size, 0, none⟩) 1 [7] _ hn (by simp) (by simp) (fun e => by cases e) (by unfold I64; omega))
  unfold FrsPost at HN
  simp only [List.length_singleton] at HN
  clear K hb0 hn
  go_enter Try.func15, Try.ntmps15
  go_wp2_with fail
  refine HN.out.mono ?_
  rintro _ w1 ⟨A, c, rfl, hx, hb1⟩
  have HX1 := Lib.hid hx
  have HB1 := Lib.hid (HB0.out.trans (hb1.mono HB0.out.size))
  have HP := Lib.hid (HK.out.push A c [newF 2 [7]] 5 w1 hx live_new (by unfold I64; omega))
  rw [live_push] at HP
  unfold YesPost at HP
  simp only [List.length_singleton] at HP
  clear hx hb1 HN HB0
  go_wp2_with fail
  refine HP.out.mono ?_
  rintro _ w2 ⟨hb2, A2, c2, rfl, hy⟩
  have HB2 := Lib.hid (HB1.out.trans (hb2.mono HB1.out.size))
  have HY := Lib.hid hy
  have HT := Lib.hid (HK.out.top A2 c2 [] liveF 5 w2 hy live_good (by decide) (by decide))
  simp only [List.nil_append, List.length_singleton] at HT
  clear hy hb2 HP HX1 HB1
  go_wp2_with fail
  refine HT.out.mono ?_
  rintro _ w3 ⟨rfl, hb3⟩
  have HB3 := Lib.hid (HB2.out.trans (hb3.mono HB2.out.size))
  have HY3 := Lib.hid (HY.out.next hb3)
  have HS := Lib.hid (HK.out.same A2 A2 c2 c2 [liveF] w3 HY3.out HY3.out ⟨by simp, fun g hg => by rw [List.mem_singleton.1 hg]; exact live_good⟩)
  simp only [List.length_singleton] at HS
  obtain ⟨b, off, hA, hb, hF⟩ := HY3.out.at' 0 (by simp)
  subst hA
  have hF2 : FCells w3 b off liveF := by simpa using hF
  have x2 := hF2 2 (by decide)
  have x3 := hF2 3 (by decide)
  have x11 := hF2 11 (by decide)
  rw [show num liveF 2 = 1 from by decide] at x2
  rw [show num liveF 3 = 7 from by decide] at x3
  rw [show num liveF 11 = 5 from by decide] at x11
  clear hb3 HT HB2 HY HK hF hF2
  go_wp2_with fail
  refine HS.out.mono ?_
  rintro _ w4 ⟨rfl, hb4⟩
  go_wp2
  go_ret
  exact ⟨rfl, HB3.out.trans (hb4.mono HB3.out.size)⟩
end Go.Proofs.Ytphcffbbdpbkfaa.frames
