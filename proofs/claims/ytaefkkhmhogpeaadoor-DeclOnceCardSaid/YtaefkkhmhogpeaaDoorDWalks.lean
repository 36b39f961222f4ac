/-
  The walks of DeclGets and DeclOnce over the bundle: whatever the program's own text is. A text of at most two to the forty-seventh bytes.
-/
import Derived.Test.YtaefkkhmhogpeaaDoorDSpec
namespace Go.Proofs.YtaefkkhmhogpeaaDoor.objs
open Go.RowKit Go.ChangeShapes
set_option linter.unusedVariables false

theorem getL_len (t : List UInt8) : (getL t).1.length ≤ 32 := by
  rcases Nat.eq_zero_or_pos (getL t).2.2 with h | h
  · exact (chk_zero (once h).1).1
  · rw [got_bad (by omega)]
    exact Nat.zero_le _

set_option maxHeartbeats 2000000 in
theorem gets_walk {Ok : World → Prop} (K : Keeps Ok) (t : ByteArray) (ht : t.size ≤ 140737488355328) (w : World) (hw : Ok w) :
    Calls Tryd.prog 8 #[.string t] w fun e w' => e = .returned (.bool true) ∧ Below w.heap.size w w' := by
  have HI := Lib.hid (K.get t w ht hw)
  have HR := fun W => Lib.hid (refGet8_any W t ht)
  have HL := fun W hW => Lib.hid (lives_any K W hW)
  have hlen := getL_len t.data.toList
  have HM := Lib.hid K.mono
  have HW := Lib.hid hw
  clear K hw
  unfold GotPost at HI HR
  generalize getL t.data.toList = g at *
  obtain ⟨gl, gn, ge⟩ := g
  dsimp only at HI HR hlen
  have Hlen := Lib.hid hlen
  clear hlen
  go_enter Tryd.func8, Tryd.ntmps8
  go_wp2_with fail
  refine HI.out.mono ?_
  rintro e w1 ⟨v, rfl, ⟨A, ca, rfl, hA⟩, hb1⟩
  have HA := Lib.hid hA
  have HB1 := Lib.hid hb1
  clear hA hb1
  go_wp2_with fail
  refine (HR _).out.mono ?_
  rintro e w2 ⟨v2, rfl, ⟨B, cb, rfl, hB⟩, hb2⟩
  have HS := Lib.hid (same_any A B ca cb gl gl (by have := Hlen.out; omega) (by have := Hlen.out; omega) w2 (HA.out.next hb2) hB)
  rw [decide_eq_true (rfl : gl = gl)] at HS
  have HB2 := Lib.hid (HB1.out.trans (hb2.mono HB1.out.size))
  clear hb2 hB
  go_wp2_with fail
  refine HS.out.mono ?_
  rintro e w3 ⟨rfl, hb3⟩
  have HB3 := Lib.hid (HB2.out.trans (hb3.mono HB2.out.size))
  clear hb3
  go_wp2_with fail
  refine (HL _ (HM.out _ _ HW.out HB3.out)).out.mono ?_
  rintro e w4 ⟨rfl, hb4⟩
  have HB4 := Lib.hid (HB3.out.trans (hb4.mono HB3.out.size))
  clear hb4
  go_wp2
  go_ret
  exact ⟨rfl, HB4.out⟩

theorem ints_of {l : List De} (h : (chk l).2 = 0) : Ints l := fun j hj => by
  obtain ⟨hl, _, hall⟩ := chk_zero h
  obtain ⟨h0, h3, h6, h7, hb, ha⟩ := one_zero (hall j hj)
  generalize l.getD j zero = d at *
  obtain ⟨k, a, b⟩ := d
  dsimp only at *
  unfold I64
  refine ⟨by omega, ?_, ?_⟩
  · by_cases e3 : k = 3
    · have := h3 e3; omega
    · by_cases e6 : k = 6
      · have := h6 e6; omega
      · by_cases e7 : k = 7
        · have := (h7 e7).1
          unfold Go.Proofs.YtaefkkhmhogpeaaDoor.word.Word at this
          omega
        · have := ha e3 e6 e7; omega
  · by_cases e3 : k = 3
    · have := h3 e3; omega
    · by_cases e7 : k = 7
      · have := fits_lt (h7 e7).2; omega
      · have := hb e3 e7; omega

set_option maxRecDepth 100000 in
set_option maxHeartbeats 2000000 in
theorem once_walk {Ok : World → Prop} (K : Keeps Ok) (t : ByteArray) (ht : t.size ≤ 140737488355328) (w : World) (hw : Ok w) :
    Calls Tryd.prog 10 #[.string t] w fun e w' => e = .returned (.bool true) ∧ Below w.heap.size w w' := by
  have HI := Lib.hid (K.get t w ht hw)
  have HL := fun W hW => Lib.hid (lives_any K W hW)
  have hlen := getL_len t.data.toList
  have hone := fun h => once (t := t.data.toList) h
  have hbad := fun h => got_bad (l := t.data.toList) h
  have HPt := fun A cap W h1 h2 h3 => Lib.hid (K.put A cap (getL t.data.toList).1 W (by omega) h1 h2 h3)
  have HM := Lib.hid K.mono
  have HW := Lib.hid hw
  have HSz := Lib.hid (size_list t)
  clear K hw
  unfold GotPost at HI
  unfold PutPost putL at HPt
  obtain ⟨q, hq⟩ : ∃ q, q = getL t.data.toList := ⟨_, rfl⟩
  rw [← hq] at HI hlen hone hbad HPt
  obtain ⟨gl, gn, ge⟩ := q
  dsimp only at HI hlen hone hbad HPt
  clear hq
  by_cases he : ge = 0
  · subst he
    obtain ⟨h1, h2, h3, h4⟩ := hone rfl
    have hi := ints_of h1
    rw [h1, if_pos rfl] at HPt
    have hn1 : (0 : Int) < (gn : Int) := by omega
    have hn2 : (gn : Int) ≤ (t.size : Int) := by rw [size_list]; omega
    have hcut : t.extract 0 gn = ⟨(encL gl).toArray⟩ := by
      apply ByteArray.ext
      rw [ByteArray.data_extract, h4]
      apply Array.toList_inj.1
      rw [Array.toList_extract]
      simp [List.extract_eq_take_drop]
    have HCut := Lib.hid hcut
    have Hi := Lib.hid hi
    clear hone hbad h1 h2 h3 h4 hi hlen hcut
    generalize encL gl = eb at *
    go_enter Tryd.func10, Tryd.ntmps10
    go_wp2_with fail
    refine HI.out.mono ?_
    rintro e w1 ⟨v, rfl, ⟨A, ca, rfl, hA⟩, hb1⟩
    have HP := HPt A ca w1 Hi.out hA (HM.out _ _ HW.out hb1)
    have HB1 := Lib.hid hb1
    clear hA hb1
    go_wp2_with fail
    refine HP.out.mono ?_
    rintro e w2 ⟨rfl, hb2⟩
    have HB2 := Lib.hid (HB1.out.trans (hb2.mono HB1.out.size))
    clear hb2
    have hcut := HCut.out
    go_wp2_with fail
    refine (HL _ (HM.out _ _ HW.out HB2.out)).out.mono ?_
    rintro e w4 ⟨rfl, hb4⟩
    have HB4 := Lib.hid (HB2.out.trans (hb4.mono HB2.out.size))
    clear hb4
    go_wp2
    go_ret
    exact ⟨rfl, HB4.out⟩
  · have hb := hbad he
    simp only [Prod.mk.injEq] at hb
    obtain ⟨rfl, rfl, _⟩ := hb
    have he' : ((ge : Int) != 0) = true := by simpa using he
    clear hone hbad hlen HPt he
    go_enter Tryd.func10, Tryd.ntmps10
    go_wp2_with fail
    refine HI.out.mono ?_
    rintro e w1 ⟨v, rfl, ⟨A, ca, rfl, _⟩, hb1⟩
    have HB1 := Lib.hid hb1
    clear hb1
    go_wp2_with fail
    refine (HL _ (HM.out _ _ HW.out HB1.out)).out.mono ?_
    rintro e w4 ⟨rfl, hb4⟩
    have HB4 := Lib.hid (HB1.out.trans (hb4.mono HB1.out.size))
    clear hb4
    go_wp2
    go_ret
    exact ⟨rfl, HB4.out⟩
end Go.Proofs.YtaefkkhmhogpeaaDoor.objs
