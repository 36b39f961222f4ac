/-
  The walks of NeedGets and NeedOnce over the bundle: whatever the program's own text is. A text of at most two to the forty-seventh bytes.
-/
import Derived.Test.YtfkcmdnnmnkklaaDoorEall17
namespace Go.Proofs.YtfkcmdnnmnkklaaDoor.need
open Go.RowKit Go.ChangeShapes
open Go.Proofs.YtfkcmdnnmnkklaaDoor.objs (De zero DAt chk chk_zero I64 Ints LIn)
set_option linter.unusedVariables false

/-- Objects that came in and may be are there whole. -/
theorem in_whole {w : World} {A : Option Addr} {n cap : Nat} {d : List De} (hI : LIn w A n cap d) (h : (chk d).2 = 0) : n = d.length ∧ d.length ≤ 32 ∧ DAt w A d ∧ (A = none → d = [] ∧ cap = 0) := by
  obtain ⟨h1, _, _, h4, _, h6⟩ := hI
  have := (chk_zero h).1
  exact ⟨by omega, this, h4, fun e => ⟨List.eq_nil_of_length_eq_zero (by have := (h1 e).1; omega), (h1 e).2⟩⟩
theorem small_of {d : List De} {n : De} (hd : (chk d).2 = 0) (h : oneN d n = 0) : Small n := by
  obtain ⟨h1, h2, h3, h4, h5⟩ := need_small hd h
  unfold Small
  omega
theorem fine_of {d : List De} {l : List (List De)} (hd : (chk d).2 = 0) (h : chkW d l = 0) : Fine l := by
  obtain ⟨_, h4, hall⟩ := chkW_zero h
  exact ⟨by omega, fun x hx => ⟨by have := (hall x hx).2.1; omega, fun t ht => small_of hd ((hall x hx).2.2 t ht)⟩⟩
theorem slim_of {d : List De} {l : List (List De)} (hd : (chk d).2 = 0) (h : chkW d l = 0) : ∀ x ∈ l, ∀ t ∈ x, Slim9 t := fun x hx t ht => by
  obtain ⟨h1, h2, _, h4, h5⟩ := need_small hd ((chkW_zero h).2.2 x hx |>.2.2 t ht)
  exact ⟨h1, by omega, by omega⟩
theorem getW_fine {d : List De} (hd : (chk d).2 = 0) (t : List UInt8) : (getW d t).1.length ≤ 6 ∧ ∀ x ∈ (getW d t).1, x.length ≤ 6 := by
  rcases Nat.eq_zero_or_pos (getW d t).2.2 with h | h
  · have := fine_of hd (once hd h).1
    exact ⟨this.1, fun x hx => (this.2 x hx).1⟩
  · rw [got_bad (by omega)]
    exact ⟨by simp, fun x hx => by cases hx⟩

set_option maxRecDepth 100000 in
set_option maxHeartbeats 4000000 in
theorem gets_walk {Ok : World → Prop} (K : Keeps Ok) (A : Option Addr) (n cap : Nat) (d : List De) (t : ByteArray) (ht : t.size ≤ 140737488355328) (w : World) (hI : LIn w A n cap d) (hw : Ok w) :
    Calls Tryd.prog 4 #[.slice A n cap, .string t] w fun e w' => e = .returned (.bool true) ∧ Below w.heap.size w w' := by
  have HBd := Lib.hid (bad_any A n cap d w hI)
  unfold BadPost at HBd
  have HL := fun W hW => Lib.hid (lives_any K W hW)
  have HM := Lib.hid K.mono
  have HW := Lib.hid hw
  by_cases hz : (chk d).2 = 0
  · obtain ⟨rfl, h32, hA, hno⟩ := in_whole hI hz
    rw [decide_eq_false (by simp [hz] : ¬ (chk d).2 ≠ 0)] at HBd
    have HDc := fun W h => Lib.hid (decl_any A cap d hno (by omega) W h)
    unfold DeclPost at HDc
    have HGt := fun A2 c2 W h1 h2 => Lib.hid (K.get A2 c2 d t W hz ht h1 h2)
    have HRf := fun W h => Lib.hid (refGet9_any W A cap d (by omega) h t ht)
    obtain ⟨hf1, hf2⟩ := getW_fine hz t.data.toList
    have HSm := fun B cb D cd W h1 h2 => Lib.hid (refSame9_any B D cb cd (getW d t.data.toList).1 (getW d t.data.toList).1 hf1 hf1 hf2 hf2 W h1 h2)
    unfold SamePost at HSm
    rw [decide_eq_true rfl] at HSm
    unfold GotPost9 at HGt HRf
    have HA := Lib.hid hA
    clear K hw hI hA hno hz hf1 hf2 ht
    generalize getW d t.data.toList = g at *
    obtain ⟨gl, gn, ge⟩ := g
    dsimp only at HGt HRf HSm
    go_enter Tryd.func4, Tryd.ntmps4
    go_wp2_with fail
    refine HBd.out.mono ?_
    rintro e w1 ⟨rfl, hb1⟩
    have HB1 := Lib.hid hb1
    have HD1 := HDc w1 (HA.out.next hb1)
    clear hb1 HDc
    go_wp2_with fail
    refine HD1.out.mono ?_
    rintro e w2 ⟨A2, c2, rfl, hd2, hb2⟩
    have HB2 := Lib.hid (HB1.out.trans (hb2.mono HB1.out.size))
    have HG2 := HGt A2 c2 w2 hd2 (HM.out _ _ HW.out HB2.out)
    clear hb2 hd2 HGt
    go_wp2_with fail
    refine HG2.out.mono ?_
    rintro e w3 ⟨v, rfl, ⟨B, cb, rfl, hB⟩, hb3⟩
    have HB3 := Lib.hid (HB2.out.trans (hb3.mono HB2.out.size))
    have HBw := Lib.hid hB
    have HR3 := HRf w3 (HA.out.next HB3.out)
    clear hb3 hB HRf
    go_wp2_with fail
    refine HR3.out.mono ?_
    rintro e w4 ⟨v2, rfl, ⟨D, cd, rfl, hD⟩, hb4⟩
    have HS4 := HSm B cb D cd w4 (HBw.out.next hb4) hD
    have HB4 := Lib.hid (HB3.out.trans (hb4.mono HB3.out.size))
    clear hb4 hD HSm
    go_wp2_with fail
    refine HS4.out.mono ?_
    rintro e w5 ⟨rfl, hb5⟩
    have HB5 := Lib.hid (HB4.out.trans (hb5.mono HB4.out.size))
    clear hb5
    go_wp2_with fail
    refine (HL _ (HM.out _ _ HW.out HB5.out)).out.mono ?_
    rintro e w6 ⟨rfl, hb6⟩
    have HB6 := Lib.hid (HB5.out.trans (hb6.mono HB5.out.size))
    clear hb6
    go_wp2
    go_ret
    exact ⟨rfl, HB6.out⟩
  · rw [decide_eq_true (by simpa using hz : (chk d).2 ≠ 0)] at HBd
    clear K hw hI hz ht
    go_enter Tryd.func4, Tryd.ntmps4
    go_wp2_with fail
    refine HBd.out.mono ?_
    rintro e w1 ⟨rfl, hb1⟩
    have HB1 := Lib.hid hb1
    clear hb1
    go_wp2_with fail
    refine (HL _ (HM.out _ _ HW.out HB1.out)).out.mono ?_
    rintro e w2 ⟨rfl, hb2⟩
    have HB2 := Lib.hid (HB1.out.trans (hb2.mono HB1.out.size))
    clear hb2
    go_wp2
    go_ret
    exact ⟨rfl, HB2.out⟩

set_option maxRecDepth 100000 in
set_option maxHeartbeats 4000000 in
theorem once_walk {Ok : World → Prop} (K : Keeps Ok) (A : Option Addr) (n cap : Nat) (d : List De) (t : ByteArray) (ht : t.size ≤ 140737488355328) (w : World) (hI : LIn w A n cap d) (hw : Ok w) :
    Calls Tryd.prog 6 #[.slice A n cap, .string t] w fun e w' => e = .returned (.bool true) ∧ Below w.heap.size w w' := by
  have HBd := Lib.hid (bad_any A n cap d w hI)
  unfold BadPost at HBd
  have HL := fun W hW => Lib.hid (lives_any K W hW)
  have HM := Lib.hid K.mono
  have HW := Lib.hid hw
  by_cases hz : (chk d).2 = 0
  · obtain ⟨rfl, h32, hA, hno⟩ := in_whole hI hz
    rw [decide_eq_false (by simp [hz] : ¬ (chk d).2 ≠ 0)] at HBd
    have HDc := fun W h => Lib.hid (decl_any A cap d hno (by omega) W h)
    unfold DeclPost at HDc
    have HGt := fun A2 c2 W h1 h2 => Lib.hid (K.get A2 c2 d t W hz ht h1 h2)
    unfold GotPost9 at HGt
    have hone := fun h => once (d := d) (t := t.data.toList) hz h
    have hbad := fun h => got_bad (d := d) (l := t.data.toList) h
    have HPt := fun A2 c2 B cb W h0 h1 h2 h3 => Lib.hid (K.put A2 B c2 cb d (getW d t.data.toList).1 W hz (fine_of hz h0) h1 h2 h3)
    unfold PutPost9 putW at HPt
    have HA := Lib.hid hA
    clear K hw hI hA hno hz ht
    obtain ⟨g, hg⟩ : ∃ g, g = getW d t.data.toList := ⟨_, rfl⟩
    rw [← hg] at HGt hone hbad HPt
    clear hg
    obtain ⟨gl, gn, ge⟩ := g
    dsimp only at HGt hone hbad HPt
    by_cases he : ge = 0
    · subst he
      obtain ⟨h1, h2, h3, h4⟩ := hone rfl
      have HPt2 := fun A2 c2 B cb W => HPt A2 c2 B cb W h1
      rw [h1, if_pos rfl] at HPt2
      have hn1 : (0 : Int) < (gn : Int) := by omega
      have hn2 : (gn : Int) ≤ (t.size : Int) := by rw [size_list]; omega
      have hcut : t.extract 0 gn = ⟨(encW gl).toArray⟩ := by
        apply ByteArray.ext
        rw [ByteArray.data_extract, h4]
        apply Array.toList_inj.1
        rw [Array.toList_extract]
        simp [List.extract_eq_take_drop]
      have HCut := Lib.hid hcut
      clear hone hbad h1 h2 h3 h4 hcut HPt
      generalize encW gl = eb at *
      go_enter Tryd.func6, Tryd.ntmps6
      go_wp2_with fail
      refine HBd.out.mono ?_
      rintro e w1 ⟨rfl, hb1⟩
      have HB1 := Lib.hid hb1
      have HD1 := HDc w1 (HA.out.next hb1)
      clear hb1
      go_wp2_with fail
      refine HD1.out.mono ?_
      rintro e w2 ⟨A2, c2, rfl, hd2, hb2⟩
      have HB2 := Lib.hid (HB1.out.trans (hb2.mono HB1.out.size))
      have HG2 := HGt A2 c2 w2 hd2 (HM.out _ _ HW.out HB2.out)
      clear hb2 hd2 HGt
      go_wp2_with fail
      refine HG2.out.mono ?_
      rintro e w3 ⟨v, rfl, ⟨B, cb, rfl, hB⟩, hb3⟩
      have HB3 := Lib.hid (HB2.out.trans (hb3.mono HB2.out.size))
      have HBw := Lib.hid hB
      have HD3 := HDc w3 (HA.out.next HB3.out)
      clear hb3 hB HDc
      go_wp2_with fail
      refine HD3.out.mono ?_
      rintro e w4 ⟨A4, c4, rfl, hd4, hb4⟩
      have HB4 := Lib.hid (HB3.out.trans (hb4.mono HB3.out.size))
      have HP4 := HPt2 A4 c4 B cb w4 hd4 (HBw.out.next hb4) (HM.out _ _ HW.out HB4.out)
      clear hb4 hd4 HPt2
      go_wp2_with fail
      refine HP4.out.mono ?_
      rintro e w5 ⟨rfl, hb5⟩
      have HB5 := Lib.hid (HB4.out.trans (hb5.mono HB4.out.size))
      clear hb5
      have hcut := HCut.out
      go_wp2_with fail
      refine (HL _ (HM.out _ _ HW.out HB5.out)).out.mono ?_
      rintro e w6 ⟨rfl, hb6⟩
      have HB6 := Lib.hid (HB5.out.trans (hb6.mono HB5.out.size))
      clear hb6
      go_wp2
      go_ret
      exact ⟨rfl, HB6.out⟩
    · have hb := hbad he
      simp only [Prod.mk.injEq] at hb
      obtain ⟨rfl, rfl, _⟩ := hb
      have he' : ((ge : Int) != 0) = true := by simpa using he
      clear hone hbad HPt he
      go_enter Tryd.func6, Tryd.ntmps6
      go_wp2_with fail
      refine HBd.out.mono ?_
      rintro e w1 ⟨rfl, hb1⟩
      have HB1 := Lib.hid hb1
      have HD1 := HDc w1 (HA.out.next hb1)
      clear hb1 HDc
      go_wp2_with fail
      refine HD1.out.mono ?_
      rintro e w2 ⟨A2, c2, rfl, hd2, hb2⟩
      have HB2 := Lib.hid (HB1.out.trans (hb2.mono HB1.out.size))
      have HG2 := HGt A2 c2 w2 hd2 (HM.out _ _ HW.out HB2.out)
      clear hb2 hd2 HGt
      go_wp2_with fail
      refine HG2.out.mono ?_
      rintro e w3 ⟨v, rfl, ⟨B, cb, rfl, hB⟩, hb3⟩
      have HB3 := Lib.hid (HB2.out.trans (hb3.mono HB2.out.size))
      clear hb3 hB
      go_wp2_with fail
      refine (HL _ (HM.out _ _ HW.out HB3.out)).out.mono ?_
      rintro e w4 ⟨rfl, hb4⟩
      have HB4 := Lib.hid (HB3.out.trans (hb4.mono HB3.out.size))
      clear hb4
      go_wp2
      go_ret
      exact ⟨rfl, HB4.out⟩
  · rw [decide_eq_true (by simpa using hz : (chk d).2 ≠ 0)] at HBd
    clear K hw hI hz ht
    go_enter Tryd.func6, Tryd.ntmps6
    go_wp2_with fail
    refine HBd.out.mono ?_
    rintro e w1 ⟨rfl, hb1⟩
    have HB1 := Lib.hid hb1
    clear hb1
    go_wp2_with fail
    refine (HL _ (HM.out _ _ HW.out HB1.out)).out.mono ?_
    rintro e w2 ⟨rfl, hb2⟩
    have HB2 := Lib.hid (HB1.out.trans (hb2.mono HB1.out.size))
    clear hb2
    go_wp2
    go_ret
    exact ⟨rfl, HB2.out⟩
end Go.Proofs.YtfkcmdnnmnkklaaDoor.need
