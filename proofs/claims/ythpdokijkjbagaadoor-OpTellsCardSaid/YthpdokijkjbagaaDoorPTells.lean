/-
  The name, the form, and what is laid, of any number, and the operation of any name: the walk. The table of names must lie where its initialiser lays it.
-/
import Derived.Test.YthpdokijkjbagaaDoorPLives
import Derived.Test.YthpdokijkjbagaaDoorPRef
import Derived.WalkLawsBesides
namespace Go.Proofs.YthpdokijkjbagaaDoor.oper
open Go.RowKit Go.ChangeShapes
set_option linter.unusedVariables false

/-- What both answer of a name. -/
def OfIs (s : ByteArray) : Prop := (∃ j : Nat, j < 52 ∧ refI s = j ∧ ofK s = j ∧ ofB s = true) ∨ (refI s = -1 ∧ ofK s = 0 ∧ ofB s = false)
theorem ofIs (s : ByteArray) : OfIs s := by
  unfold OfIs refI ofK ofB
  by_cases h : idx s < 52
  · exact .inl ⟨idx s, h, by rw [if_pos h], by rw [if_pos h], decide_eq_true h⟩
  · exact .inr ⟨by rw [if_neg h], by rw [if_neg h], decide_eq_false h⟩
/-- Whether the next instruction follows, and which of the two that it does not follow this is. -/
def GoesIs (n : Int) (w : World) : Prop :=
  ((n != 18) = true ∧ (n != 21) = true ∧ Calls Tryd.prog 15 #[.int .i64 n] w fun e w' => e = .returned (.bool true) ∧ w = w') ∨
  ((n != 18) = true ∧ (n != 21) = false ∧ Calls Tryd.prog 15 #[.int .i64 n] w fun e w' => e = .returned (.bool false) ∧ w = w') ∨
  ((n != 18) = false ∧ (n != 21) = true ∧ Calls Tryd.prog 15 #[.int .i64 n] w fun e w' => e = .returned (.bool false) ∧ w = w')
theorem goesIs (n : Int) (h0 : 0 ≤ n) (h1 : n ≤ 51) (w : World) : GoesIs n w := by
  unfold GoesIs
  by_cases h2 : n = 18
  · subst h2; exact .inr (.inr ⟨rfl, rfl, goes_18 w⟩)
  · by_cases h3 : n = 21
    · subst h3; exact .inr (.inl ⟨rfl, rfl, goes_21 w⟩)
    · have e2 : (n != 18) = true := by simpa using h2
      have e3 : (n != 21) = true := by simpa using h3
      exact .inl ⟨e2, e3, goes_yes n h0 h1 e2 e3 w⟩
theorem names_cell (n : Int) (h0 : 0 ≤ n) (h1 : n ≤ 51) (w : World) : (w.alloc nmBlock).cell? ⟨w.heap.size, n.toNat, none⟩ = some (.string (txt nm n)) := by
  obtain ⟨k, hk, rfl⟩ := nat_of ⟨h0, h1⟩
  rw [txt_at hk, Int.toNat_natCast]
  exact nmBlock_cell w hk

set_option maxHeartbeats 2000000 in
theorem tells_no (n : Int) (s : ByteArray) (h : n < 0 ∨ 51 < n) (w : World) (hT : Tab w) (hg : 0 < w.heap.size) :
    Calls Tryd.prog 3 #[.int .i64 n, .string s] w fun e w' => e = .returned (.bool true) ∧ Below w.heap.size w w' := by
  have HK := Lib.hid (refKnown_no n h w)
  have HK2 := fun W => Lib.hid (refKnown_no n h W)
  have HN := fun W (hW : Tab W) => Lib.hid (name_no n h W)
  have HF := fun W => Lib.hid (form_any n W)
  have HRF := fun W => Lib.hid (refForm_any n W)
  have HP := fun W => Lib.hid (pushes_no n h W)
  have HRP := fun W => Lib.hid (refPushes_any n W)
  have HG := fun W => Lib.hid (goes_not n h W)
  have HO := fun W hW => Lib.hid (of_any s W hW)
  unfold OfPost at HO
  have HR : ∀ W, Hid (Calls Tryd.prog 9 #[.string s] W fun e w' => e = .returned (.int .i64 (refI s)) ∧ Below W.heap.size W w') := fun W => Lib.hid ((refOf_any s W).mono fun e w' ⟨he, hw⟩ => ⟨he, hw ▸ (Below.refl W.heap.size W).alloc (Nat.le_refl _) nmBlock⟩)
  have HT := Lib.hid hT
  clear hT
  clear h
  generalize txt fm n = y at *
  generalize numb ly n = z at *
  rcases ofIs s with ⟨j, hj, e1, e2, e3⟩ | ⟨e1, e2, e3⟩
  all_goals
    rw [e2, e3] at HO
    rw [e1] at HR
    clear e1 e2 e3
    go_enter Tryd.func3, Tryd.ntmps3
    go_wp2_with fail
    refine HK.out.mono ?_
    rintro e w1 ⟨rfl, rfl⟩
    have HB1 := Lib.hid (Below.refl w.heap.size w)
    have HT1 := Lib.hid (HT.out.below HB1.out hg)
    have HO1 := (HO w HT1.out)
    go_wp2_with fail
    refine HO1.out.mono ?_
    rintro e w1 ⟨rfl, rfl⟩
    have HR1 := HR w
    go_wp2_with fail
    refine HR1.out.mono ?_
    rintro e w1 ⟨rfl, hb⟩
    have HB2 := Lib.hid (HB1.out.trans (hb.mono HB1.out.size))
    clear hb
    have HN2 := HN _ (HT.out.below HB2.out hg)
    go_wp2_with fail
    refine HN2.out.mono ?_
    rintro e w2 ⟨rfl, rfl⟩
    go_wp2_with fail
    refine (HF _).out.mono ?_
    rintro e w2 ⟨rfl, rfl⟩
    go_wp2_with fail
    refine (HRF _).out.mono ?_
    rintro e w2 ⟨rfl, hb⟩
    have HB3 := Lib.hid (HB2.out.trans (hb.mono HB2.out.size))
    clear hb
    go_wp2_with fail
    refine (HP _).out.mono ?_
    rintro e w3 ⟨rfl, rfl⟩
    go_wp2_with fail
    refine (HRP _).out.mono ?_
    rintro e w3 ⟨rfl, hb⟩
    have HB4 := Lib.hid (HB3.out.trans (hb.mono HB3.out.size))
    clear hb
    go_wp2_with fail
    refine (HG _).out.mono ?_
    rintro e w4 ⟨rfl, rfl⟩
    go_wp2_with fail
    refine (HK2 _).out.mono ?_
    rintro e w4 ⟨rfl, rfl⟩
    have HL4 := Lib.hid (lives_any _ (HT.out.below HB4.out hg))
    go_wp2_with fail
    refine HL4.out.mono ?_
    rintro e w5 ⟨rfl, hb⟩
    have HB5 := Lib.hid (HB4.out.trans (hb.mono HB4.out.size))
    clear hb
    go_wp2
    go_ret
    exact ⟨rfl, HB5.out⟩

set_option maxHeartbeats 4000000 in
theorem tells_yes (n : Int) (s : ByteArray) (h0 : 0 ≤ n) (h1 : n ≤ 51) (w : World) (hT : Tab w) (hg : 0 < w.heap.size) :
    Calls Tryd.prog 3 #[.int .i64 n, .string s] w fun e w' => e = .returned (.bool true) ∧ Below w.heap.size w w' := by
  have hc := names_cell n h0 h1 w
  have HNS := Lib.hid (refNames_any w)
  have HK := Lib.hid (refKnown_yes n h0 h1 w)
  have HK2 := fun W => Lib.hid (refKnown_yes n h0 h1 W)
  have HN := fun W (hW : Tab W) => Lib.hid (name_any n W hW)
  have HF := fun W => Lib.hid (form_any n W)
  have HRF := fun W => Lib.hid (refForm_any n W)
  have HP := fun W => Lib.hid (pushes_yes n h0 h1 W)
  have HRP := fun W => Lib.hid (refPushes_any n W)
  have HO := fun W hW => Lib.hid (of_any s W hW)
  unfold OfPost at HO
  have HR : ∀ W, Hid (Calls Tryd.prog 9 #[.string s] W fun e w' => e = .returned (.int .i64 (refI s)) ∧ Below W.heap.size W w') := fun W => Lib.hid ((refOf_any s W).mono fun e w' ⟨he, hw⟩ => ⟨he, hw ▸ (Below.refl W.heap.size W).alloc (Nat.le_refl _) nmBlock⟩)
  have HT := Lib.hid hT
  clear hT
  have HGI := fun W => Lib.hid (goesIs n h0 h1 W)
  have h52 : n < 52 := by omega
  generalize txt nm n = x at *
  generalize txt fm n = y at *
  generalize numb ly n = z at *
  rcases ofIs s with ⟨j, hj, e1, e2, e3⟩ | ⟨e1, e2, e3⟩
  all_goals
    rw [e2, e3] at HO
    rw [e1] at HR
    clear e1 e2 e3
    go_enter Tryd.func3, Tryd.ntmps3
    go_wp2_with fail
    refine HK.out.mono ?_
    rintro e w1 ⟨rfl, rfl⟩
    go_wp2_with fail
    refine HNS.out.mono ?_
    rintro e w1 ⟨rfl, rfl⟩
    have HB1 := Lib.hid ((Below.refl w.heap.size w).alloc (Nat.le_refl _) nmBlock)
    generalize w.alloc nmBlock = W1 at *
    have HT1 := Lib.hid (HT.out.below HB1.out hg)
    have HO1 := (HO W1 HT1.out)
    go_wp2_with fail
    refine HO1.out.mono ?_
    rintro e w1 ⟨rfl, rfl⟩
    have HR1 := HR W1
    go_wp2_with fail
    refine HR1.out.mono ?_
    rintro e w1 ⟨rfl, hb⟩
    have HB2 := Lib.hid (HB1.out.trans (hb.mono HB1.out.size))
    clear hb
    have HN2 := HN _ (HT.out.below HB2.out hg)
    go_wp2_with fail
    refine HN2.out.mono ?_
    rintro e w2 ⟨rfl, rfl⟩
    go_wp2_with fail
    refine (HF _).out.mono ?_
    rintro e w2 ⟨rfl, rfl⟩
    go_wp2_with fail
    refine (HRF _).out.mono ?_
    rintro e w2 ⟨rfl, hb⟩
    have HB3 := Lib.hid (HB2.out.trans (hb.mono HB2.out.size))
    clear hb
    go_wp2_with fail
    refine (HP _).out.mono ?_
    rintro e w3 ⟨rfl, rfl⟩
    go_wp2_with fail
    refine (HRP _).out.mono ?_
    rintro e w3 ⟨rfl, hb⟩
    have HB4 := Lib.hid (HB3.out.trans (hb.mono HB3.out.size))
    clear hb
    rcases (HGI w3).out with ⟨g1, g2, HG⟩ | ⟨g1, g2, HG⟩ | ⟨g1, g2, HG⟩
    all_goals
      replace HG := Lib.hid HG
      go_wp2_with fail
      refine HG.out.mono ?_
      rintro e w4 ⟨rfl, rfl⟩
      go_wp2_with fail
      refine (HK2 _).out.mono ?_
      rintro e w4 ⟨rfl, rfl⟩
      have HL4 := Lib.hid (lives_any _ (HT.out.below HB4.out hg))
      go_wp2_with fail
      refine HL4.out.mono ?_
      rintro e w5 ⟨rfl, hb⟩
      have HB5 := Lib.hid (HB4.out.trans (hb.mono HB4.out.size))
      clear hb
      go_wp2
      go_ret
      exact ⟨rfl, HB5.out⟩
end Go.Proofs.YthpdokijkjbagaaDoor.oper

