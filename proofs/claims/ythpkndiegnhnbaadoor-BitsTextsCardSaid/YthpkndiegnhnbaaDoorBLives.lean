/-
  The common end of all these statements: sets are made. The table of math/bits must lie where its initialiser lays it. And a list that is read where it lies, made a set of.
-/
import Derived.Test.YthpkndiegnhnbaaDoorBSay
namespace Go.Proofs.YthpkndiegnhnbaaDoor.bits
open Go.RowKit Go.ChangeShapes

/-- The set of a list, whatever numbers stand there. -/
def ofI (s : Nat) (l : List Int) : Nat := l.foldl wth s
theorem ofI_lt (l : List Int) : ∀ s, Is64 s → Is64 (ofI s l) := by
  induction l with
  | nil => intro s h; exact h
  | cons n l ih => intro s h; exact ih _ (wth_lt h n)
theorem ofI_take {l : List Int} {k : Nat} (h : k < l.length) (s : Nat) : ofI s (l.take (k + 1)) = wth (ofI s (l.take k)) l[k] := by
  unfold ofI
  rw [List.take_succ_eq_append_getElem h, List.foldl_append]
  rfl

/-- The numbers lie at a place of a block, one behind the other. -/
def RowAt (w : World) (b off : Nat) (l : List Int) : Prop := ∀ (j : Nat) (h : j < l.length), w.cell? ⟨b, off + j, none⟩ = some (.int .i64 l[j])
theorem RowAt.below {B : Nat} {w w' : World} {b off : Nat} {l : List Int} (h : RowAt w b off l) (hb : Below B w w') (hB : b < B) : RowAt w' b off l := fun j hj => (hb.cell (p := ⟨b, off + j, none⟩) hB).trans (h j hj)

set_option maxHeartbeats 1000000 in
theorem of_any (b off cap : Nat) (l : List Int) (hl : l.length ≤ 9223372036854775807) (w : World) (h : RowAt w b off l) :
    Calls Tryd.prog 22 #[.slice (some ⟨b, off, none⟩) l.length cap] w fun e w' => e = .returned (.int .u64 ((ofI 0 l : Nat) : Int)) ∧ w = w' := by
  have HR := Lib.hid h
  clear h
  generalize hN : l.length = N at *
  have HN := Lib.hid hN
  clear hN
  go_enter Tryd.func22, Tryd.ntmps22
  go_wp2
  go_loop [3, 8] (fun t i => ∃ k : Nat, k ≤ N ∧ i = .int .i64 (k : Int) ∧ t = .int .u64 ((ofI 0 (l.take k) : Nat) : Int)) (fun _ i => N - (intOf i).toNat)
  case atStart => exact ⟨0, Nat.zero_le _, rfl, rfl⟩
  case round =>
    obtain ⟨k, hk, rfl, rfl⟩ := hrel
    have hs := ofI_lt (l.take k) 0 (by unfold Is64; omega)
    by_cases hlt : k < N
    · have hkl : k < l.length := by have := HN.out; omega
      have hc := HR.out k hkl
      have HT := Lib.hid (ofI_take hkl 0)
      generalize ofI 0 (l.take k) = s at *
      generalize l[k] = x at *
      go_wp2_with fail
      refine (with_any s hs x _).mono ?_
      rintro e w1 ⟨rfl, rfl⟩
      go_wp2
      go_round
      case rel => exact ⟨k + 1, by omega, by go_num, by rw [HT.out]⟩
      case measure => simp [intOf]; omega
    · obtain rfl : k = N := by omega
      have HT : Hid (l.take k = l) := Lib.hid (List.take_of_length_le (by have := HN.out; omega))
      go_wp2
      go_ret
      exact ⟨ret_int (by rw [HT.out]), rfl⟩

def five : List Int := [0, 5, 63, 64, -1]
def fiveBlock : Obj := .cells #[.int .i64 0, .int .i64 5, .int .i64 63, .int .i64 64, .int .i64 (-1)] 3
theorem five_in {W : World} {b : Nat} (h : W.heap[b]? = some fiveBlock) : RowAt W b 0 five := by
  intro j hj
  have hj' : j < 5 := hj
  match j, hj' with
  | 0, _ => simp [World.cell?, h, fiveBlock, five]
  | 1, _ => simp [World.cell?, h, fiveBlock, five]
  | 2, _ => simp [World.cell?, h, fiveBlock, five]
  | 3, _ => simp [World.cell?, h, fiveBlock, five]
  | 4, _ => simp [World.cell?, h, fiveBlock, five]
theorem five_at (w : World) : RowAt (w.alloc fiveBlock) w.heap.size 0 five := five_in (heap_alloc_new w _)
theorem five_set : ofI 0 five = 9223372036854775841 := by decide +kernel
theorem five_els : els 9223372036854775841 = [0, 5, 63] := by decide +kernel
theorem five_text : text 9223372036854775841 = [48, 44, 53, 44, 54, 51] := by decide +kernel

set_option maxHeartbeats 1000000 in
theorem lives_any (w : World) (hT : Tab w) (hg : 0 < w.heap.size) :
    Calls Tryd.prog 24 #[] w fun e w' => e = .returned (.bool true) ∧ Below w.heap.size w w' := by
  have hs : Is64 9223372036854775841 := by unfold Is64; omega
  have hb0 := (Below.refl w.heap.size w).alloc (Nat.le_refl _) fiveBlock
  have hT1 := hT.below hb0 hg
  have hg1 : 0 < (w.alloc fiveBlock).heap.size := by simp
  have HO := Lib.hid (of_any w.heap.size 0 5 five (by decide) _ (five_at w))
  have HL := Lib.hid (list_lies _ hs _ hT1 hg1)
  rw [five_set] at HO
  rw [five_els, show (w.alloc fiveBlock).heap.size = w.heap.size + 1 from by simp] at HL
  have HB0 := Lib.hid hb0
  have HT1 := Lib.hid hT1
  clear hb0 hT1 hg1 hT
  go_enter Tryd.func24, Tryd.ntmps24
  go_wp2_with fail
  refine HO.out.mono ?_
  rintro e w1 ⟨rfl, rfl⟩
  go_wp2_with fail
  refine HL.out.mono ?_
  rintro e w2 ⟨rfl, hl2, hb2⟩
  have c1 := hl2.cell (j := 1) (x := 5) rfl
  have c2 := hl2.cell (j := 2) (x := 63) rfl
  have HC : Hid _ := Lib.hid (count_any 9223372036854775841 hs w2)
  rw [five_els] at HC
  have HTX := Lib.hid (text_any 9223372036854775841 hs w2 (HT1.out.below hb2 (by omega)) (by have h := hb2.size; rw [World.size_alloc] at h; omega))
  rw [five_text] at HTX
  have HB2 := Lib.hid (HB0.out.trans (hb2.mono (by simp)))
  clear hb2 hl2
  go_wp2_with fail
  refine HC.out.mono ?_
  rintro e w3 ⟨rfl, rfl⟩
  go_wp2_with fail
  refine HTX.out.mono ?_
  rintro e w3 ⟨rfl, hb3⟩
  go_wp2
  go_ret
  exact ⟨rfl, HB2.out.trans (hb3.mono HB2.out.size)⟩
end Go.Proofs.YthpkndiegnhnbaaDoor.bits
