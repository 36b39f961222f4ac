/-
  The common end of all these statements: sets are made. The table of math/bits must lie where its initialiser lays it.
-/
import Derived.Test.YtlpdilkenbjajaaDoorBSay
import Derived.Test.YtlpdilkenbjajaaDoorBOf
namespace Go.Proofs.YtlpdilkenbjajaaDoor.bits
open Go.RowKit Go.ChangeShapes

def five : List Int := [0, 5, 63, 64, -1]
def fiveBlock : Obj := .cells #[.int .i64 0, .int .i64 5, .int .i64 63, .int .i64 64, .int .i64 (-1)] 3
theorem five_in {W : World} {b : Nat} (h : W.heap[b]? = some fiveBlock) : RowAt W b 0 five := by
  intro j hj
  have hj' : j < 5 := hj
  match j, hj' with
  | 0, _ => simp [World.cell?, h, fiveBlock, five]
  | 1, _ => simp [World.cell?, h, fiveBlock, five]
  | 2, _ => simp [World.cell?, h, fiveBlock, five]
  | 3, _ => simp [World.cell?, h, fiveBlock, five]
  | 4, _ => simp [World.cell?, h, fiveBlock, five]
theorem five_at (w : World) : RowAt (w.alloc fiveBlock) w.heap.size 0 five := five_in (heap_alloc_new w _)
theorem five_set : ofI 0 five = 9223372036854775841 := by decide +kernel
theorem five_els : els 9223372036854775841 = [0, 5, 63] := by decide +kernel
theorem five_text : text 9223372036854775841 = [48, 44, 53, 44, 54, 51] := by decide +kernel

set_option maxHeartbeats 1000000 in
theorem lives_any (w : World) (hT : Tab w) (hg : 1 < w.heap.size) :
    Calls Tryd.prog 8 #[] w fun e w' => e = .returned (.bool true) ∧ Below w.heap.size w w' := by
  have hs : Is64 9223372036854775841 := by unfold Is64; omega
  have hb0 := (Below.refl w.heap.size w).alloc (Nat.le_refl _) fiveBlock
  have hT1 := hT.below hb0 hg
  have hg1 : 1 < (w.alloc fiveBlock).heap.size := Nat.lt_of_lt_of_le hg hb0.size
  have HO := Lib.hid (of_any w.heap.size 0 5 five (by decide) _ (five_at w))
  have HL := Lib.hid (list_lies _ hs _ hT1 hg1)
  rw [five_set] at HO
  rw [five_els, show (w.alloc fiveBlock).heap.size = w.heap.size + 1 from by simp] at HL
  have HB0 := Lib.hid hb0
  have HT1 := Lib.hid hT1
  clear hb0 hT1 hg1 hT
  go_enter Tryd.func8, Tryd.ntmps8
  go_wp2_with fail
  refine HO.out.mono ?_
  rintro e w1 ⟨rfl, rfl⟩
  go_wp2_with fail
  refine HL.out.mono ?_
  rintro e w2 ⟨rfl, hl2, hb2⟩
  have c1 := hl2.cell (j := 1) (x := 5) rfl
  have c2 := hl2.cell (j := 2) (x := 63) rfl
  have HC : Hid _ := Lib.hid (count_any 9223372036854775841 hs w2)
  rw [five_els] at HC
  have HTX := Lib.hid (text_any 9223372036854775841 hs w2 (HT1.out.below hb2 (by omega)) (by have h := hb2.size; rw [World.size_alloc] at h; omega))
  rw [five_text] at HTX
  have HB2 := Lib.hid (HB0.out.trans (hb2.mono (by simp)))
  clear hb2 hl2
  go_wp2_with fail
  refine HC.out.mono ?_
  rintro e w3 ⟨rfl, rfl⟩
  go_wp2_with fail
  refine HTX.out.mono ?_
  rintro e w3 ⟨rfl, hb3⟩
  go_wp2
  go_ret
  exact ⟨rfl, HB2.out.trans (hb3.mono HB2.out.size)⟩
end Go.Proofs.YtlpdilkenbjajaaDoor.bits
