/-
  What the program's calls on instructions must come to, as one bundle, so that the statements can be walked whatever the program's own text is; and the common end of all of them. No condition but that bundle.
-/
import Derived.Test.YtaefkkhmhogpeaaDoorJRefGet
import Derived.WalkLawsBesides
namespace Go.Proofs.YtaefkkhmhogpeaaDoor.inst
open Go.RowKit Go.ChangeShapes
open Go.Proofs.YtaefkkhmhogpeaaDoor.oper (ret_int ret_bool ret_string)
open Go.Proofs.YtaefkkhmhogpeaaDoor.word (Word)
set_option linter.unusedVariables false

/-- An int. -/
def I64 (n : Int) : Prop := -9223372036854775808 ≤ n ∧ n ≤ 9223372036854775807
/-- An instruction that may be has small numbers alone. -/
theorem chk_i64 (o a b : Int) (h : chk o a b = 0) : I64 o ∧ I64 a ∧ I64 b := by
  obtain ⟨hk, hf⟩ := chk_zero h
  obtain ⟨h1, _, h3⟩ := chkF_zero hf
  have hj : ∀ j, j < 2 → I64 (opd a b j) := fun j hj => by
    rcases Nat.lt_or_ge j (form o).length with hl | hl
    · have := h1 j hl
      unfold okAt fitsB at this
      by_cases hc : (form o).getD j 0 = 110
      · rw [if_pos hc] at this
        have hw : Word (opd a b j) := by simpa using this
        unfold Word at hw; unfold I64; omega
      · rw [if_neg hc] at this
        have hw : least ((form o).getD j 0) ≤ opd a b j ∧ opd a b j ≤ most ((form o).getD j 0) := by simpa using this
        have h0 : 0 ≤ least ((form o).getD j 0) := by unfold least; split <;> omega
        have hm : most ((form o).getD j 0) ≤ 199 := by unfold most; split; omega; split; omega; split; omega; split <;> omega
        unfold I64; omega
    · rw [h3 j hl hj]; unfold I64; omega
  unfold Known at hk
  exact ⟨by unfold I64; omega, hj 0 (by omega), hj 1 (by omega)⟩
/-- The bytes that Put answers. -/
def putL (o a b : Int) : List UInt8 := if chk o a b = 0 then encI o a b else []
theorem putL_le (o a b : Int) : (putL o a b).length ≤ 21 := by
  unfold putL
  split
  · exact encI_le o a b
  · simp
/-- The program's calls come to what the document says, while Ok holds of the world, which nothing that makes memory breaks. -/
structure Keeps (Ok : World → Prop) : Prop where
  mono : ∀ W W' : World, Ok W → Below W.heap.size W W' → Ok W'
  check : ∀ (o a b : Int) (W : World), I64 o → I64 a → I64 b → Ok W → Calls Tryd.prog 14 #[.agg #[.int .i64 o, .int .i64 a, .int .i64 b]] W fun e w' => e = .returned (.int .i64 (chk o a b : Nat)) ∧ Below W.heap.size W w'
  put : ∀ (o a b : Int) (W : World), I64 o → I64 a → I64 b → Ok W → Calls Tryd.prog 13 #[.agg #[.int .i64 o, .int .i64 a, .int .i64 b]] W fun e w' => e = .returned (.tuple #[.string ⟨(putL o a b).toArray⟩, .int .i64 (chk o a b : Nat)]) ∧ Below W.heap.size W w'
  get : ∀ (t : ByteArray) (W : World), t.size ≤ 140737488355328 → Ok W → Calls Tryd.prog 17 #[.string t] W (GotPost (getI t.data.toList) W)

theorem putL_push : putL 0 (-1) 0 = [0, 1] := by decide +kernel
theorem chk_push : chk 0 (-1) 0 = 0 := by decide +kernel
theorem chk_99 : chk 99 0 0 = 6 := by decide +kernel
theorem get_load : getI [1, 7, 109, 111, 114, 101] = ⟨1, 7, 0, 2, 0⟩ := by
  have h : ∀ g : Got, g.o = 1 → g.a = 7 → g.b = 0 → g.n = 2 → g.e = 0 → g = ⟨1, 7, 0, 2, 0⟩ := fun g h1 h2 h3 h4 h5 => by cases g; simp_all
  exact h _ (by decide +kernel) (by decide +kernel) (by decide +kernel) (by decide +kernel) (by decide +kernel)

set_option maxHeartbeats 1000000 in
theorem lives_any {Ok : World → Prop} (K : Keeps Ok) (w : World) (hw : Ok w) : Calls Tryd.prog 16 #[] w fun e w' => e = .returned (.bool true) ∧ Below w.heap.size w w' := by
  have HP := Lib.hid (K.put 0 (-1) 0 w (by unfold I64; omega) (by unfold I64; omega) (by unfold I64; omega) hw)
  rw [putL_push, chk_push] at HP
  have HG := fun W hW => Lib.hid (K.get ⟨#[1, 7, 109, 111, 114, 101]⟩ W (by decide) hW)
  rw [show (⟨#[1, 7, 109, 111, 114, 101]⟩ : ByteArray).data.toList = [1, 7, 109, 111, 114, 101] from rfl, get_load] at HG
  unfold GotPost at HG
  have HC := fun W hW => Lib.hid (K.check 99 0 0 W (by unfold I64; omega) (by unfold I64; omega) (by unfold I64; omega) hW)
  rw [chk_99] at HC
  have HM := Lib.hid K.mono
  clear K
  have HW := Lib.hid hw
  clear hw
  go_enter Tryd.func16, Tryd.ntmps16
  go_wp2_with fail
  refine HP.out.mono ?_
  rintro e w1 ⟨rfl, hb1⟩
  have HB1 := Lib.hid hb1
  clear hb1
  go_wp2_with fail
  refine (HG _ (HM.out _ _ HW.out HB1.out)).out.mono ?_
  rintro e w2 ⟨rfl, hb2⟩
  have HB2 := Lib.hid hb2
  clear hb2
  go_wp2_with fail
  have HB3 := Lib.hid ((HB1.out.trans (HB2.out.mono HB1.out.size)).alloc (by have := HB1.out.size; have := HB2.out.size; omega) (.cells #[.int .i64 1, .int .i64 7, .int .i64 0] 23))
  refine (HC _ (HM.out _ _ HW.out HB3.out)).out.mono ?_
  rintro e w3 ⟨rfl, hb3⟩
  have HB4 := Lib.hid (HB3.out.trans (hb3.mono HB3.out.size))
  clear hb3
  go_wp2
  go_ret
  exact ⟨rfl, HB4.out⟩

/-- An instruction stands at a place of its own, behind all that was there. -/
structure Box (w : World) (o a b : Int) (W : World) : Prop where
  below : Below w.heap.size w W
  blk : W.heap[w.heap.size]? = some (.cells #[.int .i64 o, .int .i64 a, .int .i64 b] 23 (0, 0))
theorem box_new (w : World) (o a b : Int) : Box w o a b (w.alloc (.cells #[.int .i64 o, .int .i64 a, .int .i64 b] 23)) := ⟨(Below.refl _ _).alloc (Nat.le_refl _) _, heap_alloc_new w _⟩
theorem Box.next {w W W' : World} {o a b : Int} (h : Box w o a b W) (hb : Below W.heap.size W W') : Box w o a b W' := by
  have h1 := lt_of_block h.blk
  exact ⟨h.below.trans (hb.mono (Nat.le_of_lt h1)), (hb.block _ h1).trans h.blk⟩

set_option maxHeartbeats 2000000 in
theorem checks_walk {Ok : World → Prop} (K : Keeps Ok) (o a b : Int) (ho : I64 o) (ha : I64 a) (hb : I64 b) (w : World) (hw : Ok w) :
    Calls Tryd.prog 3 #[.agg #[.int .i64 o, .int .i64 a, .int .i64 b]] w fun e w' => e = .returned (.bool true) ∧ Below w.heap.size w w' := by
  have HR := fun W => Lib.hid (refCheck_any o a b W)
  have HP := fun W hW => Lib.hid (K.put o a b W ho ha hb hW)
  have HC := fun W hW => Lib.hid (K.check o a b W ho ha hb hW)
  have HL := fun W hW => Lib.hid (lives_any K W hW)
  have HM := Lib.hid K.mono
  have HW := Lib.hid hw
  have HQ := fun (h : chk o a b = 0) W => Lib.hid (refPut_any o a b h W)
  have BX0 := Lib.hid (box_new w o a b)
  unfold putL at HP
  clear K hw ho ha hb
  by_cases hz : chk o a b = 0
  · rw [if_pos hz] at HP
    have HQ := HQ hz
    rw [hz] at HR HP HC
    clear hz
    have hsz := Go.Proofs.YtaefkkhmhogpeaaDoor.octet.size_mk (encI o a b)
    generalize encI o a b = q at *
    go_enter Tryd.func3, Tryd.ntmps3
    go_wp2_with fail
    refine (HR _).out.mono ?_
    rintro e w1 ⟨rfl, hb⟩
    have BX1 := Lib.hid (BX0.out.next hb)
    obtain ⟨p0, p1, p2, _, _, _⟩ := cells3 BX1.out.blk
    clear hb
    go_wp2_with fail
    refine (HP _ (HM.out _ _ HW.out BX1.out.below)).out.mono ?_
    rintro e w2 ⟨rfl, hb⟩
    have BX2 := Lib.hid (BX1.out.next hb)
    obtain ⟨p0, p1, p2, _, _, _⟩ := cells3 BX2.out.blk
    clear hb
    go_wp2_with fail
    refine (HC _ (HM.out _ _ HW.out BX2.out.below)).out.mono ?_
    rintro e w3 ⟨rfl, hb⟩
    have BX3 := Lib.hid (BX2.out.next hb)
    obtain ⟨p0, p1, p2, _, _, _⟩ := cells3 BX3.out.blk
    clear hb
    go_wp2_with fail
    refine (HQ _).out.mono ?_
    rintro e w4 ⟨rfl, hb⟩
    have BX4 := Lib.hid (BX3.out.next hb)
    obtain ⟨p0, p1, p2, _, _, _⟩ := cells3 BX4.out.blk
    clear hb
    go_wp2_with fail
    refine (HL _ (HM.out _ _ HW.out BX4.out.below)).out.mono ?_
    rintro e w5 ⟨rfl, hb⟩
    have BX5 := Lib.hid (BX4.out.next hb)
    obtain ⟨p0, p1, p2, _, _, _⟩ := cells3 BX5.out.blk
    clear hb
    go_wp2
    go_ret
    exact ⟨rfl, BX5.out.below⟩
  · rw [if_neg hz] at HP
    have hz1 : ((chk o a b : Int) != 0) = true := by simpa using hz
    have hz2 : ((chk o a b : Int) == 0) = false := by simpa using hz
    clear hz HQ
    generalize chk o a b = ce at *
    go_enter Tryd.func3, Tryd.ntmps3
    go_wp2_with fail
    refine (HR _).out.mono ?_
    rintro e w1 ⟨rfl, hb⟩
    have BX1 := Lib.hid (BX0.out.next hb)
    obtain ⟨p0, p1, p2, _, _, _⟩ := cells3 BX1.out.blk
    clear hb
    go_wp2_with fail
    refine (HP _ (HM.out _ _ HW.out BX1.out.below)).out.mono ?_
    rintro e w2 ⟨rfl, hb⟩
    have BX2 := Lib.hid (BX1.out.next hb)
    obtain ⟨p0, p1, p2, _, _, _⟩ := cells3 BX2.out.blk
    clear hb
    go_wp2_with fail
    refine (HC _ (HM.out _ _ HW.out BX2.out.below)).out.mono ?_
    rintro e w3 ⟨rfl, hb⟩
    have BX3 := Lib.hid (BX2.out.next hb)
    obtain ⟨p0, p1, p2, _, _, _⟩ := cells3 BX3.out.blk
    clear hb
    go_wp2_with fail
    refine (HL _ (HM.out _ _ HW.out BX3.out.below)).out.mono ?_
    rintro e w4 ⟨rfl, hb⟩
    have BX4 := Lib.hid (BX3.out.next hb)
    obtain ⟨p0, p1, p2, _, _, _⟩ := cells3 BX4.out.blk
    clear hb
    go_wp2
    go_ret
    exact ⟨rfl, BX4.out.below⟩
end Go.Proofs.YtaefkkhmhogpeaaDoor.inst
