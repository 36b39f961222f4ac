/-
  The walk of DeclBack over the bundle: whatever the program's own text is. A text of at most two to the forty-seventh bytes, but for a thousand.
-/
import Derived.Test.YtaefkkhmhogpeaaDoorDWalks
namespace Go.Proofs.YtaefkkhmhogpeaaDoor.objs
open Go.RowKit Go.ChangeShapes
open Go.Proofs.YtaefkkhmhogpeaaDoor.octet (size_mk)
set_option linter.unusedVariables false

/-- A list that came in: of at most a hundred, or the first hundred of it. -/
def LIn (w : World) (A : Option Addr) (n cap : Nat) (l : List De) : Prop := (A = none → n = 0 ∧ cap = 0) ∧ n ≤ cap ∧ cap ≤ 9223372036854775807 ∧ DAt w A l ∧ Ints l ∧ l.length = min n 100
theorem own_new (W : World) : Own (W.alloc (.cells #[] 80)) W.heap.size (.slice (some ⟨W.heap.size, 0, none⟩) 0 0) [] := Own.empty (heap_alloc_new W _)
theorem same_self (A B : Option Addr) (ca cb : Nat) (l : List De) (hl : l.length ≤ 100) (w : World) (hA : DAt w A l) (hB : DAt w B l) :
    Calls Tryd.prog 26 #[.slice A l.length ca, .slice B l.length cb] w fun e w' => e = .returned (.bool true) ∧ Below w.heap.size w w' :=
  (same_any A B ca cb l l hl hl w hA hB).mono fun e w' ⟨h, hb⟩ => ⟨by rw [h, decide_eq_true rfl], hb⟩
/-- Behind the copy: what is as it was, and the copy. -/
theorem own_copy {w W W2 : World} {A : Option Addr} {l : List De} {v2 : Value} {r : Option Nat} (hA : DAt w A l) (hb : Below w.heap.size w W) (h1 : Own W2 W.heap.size v2 l) (hg : (W.alloc (.cells #[] 80)).grownBy W2 r) (hr : ∀ k, r = some k → k = W.heap.size) :
    Below w.heap.size w W2 ∧ DAt W2 A l ∧ ∃ A2 c2, v2 = .slice A2 l.length c2 ∧ DAt W2 A2 l := by
  have hb2 : Below w.heap.size w W2 := (hb.alloc hb.size _).grown hg (by simp; have := hb.size; omega) (fun k e => by rw [hr k e]; exact hb.size)
  obtain ⟨A2, c2, rfl⟩ := h1.slice
  exact ⟨hb2, hA.next hb2, A2, c2, rfl, h1.at⟩

set_option maxRecDepth 100000 in
set_option maxHeartbeats 4000000 in
theorem back_walk {Ok : World → Prop} (K : Keeps Ok) (A : Option Addr) (n cap : Nat) (l : List De) (t : ByteArray) (ht : t.size ≤ 140737488351232) (w : World) (hI : LIn w A n cap l) (hw : Ok w) :
    Calls Tryd.prog 9 #[.slice A n cap, .string t] w fun e w' => e = .returned (.bool true) ∧ Below w.heap.size w w' := by
  obtain ⟨hnone, hnc, hcm, hA, hints, hlen⟩ := hI
  have HL := fun W hW => Lib.hid (lives_any K W hW)
  have HM := Lib.hid K.mono
  have HW := Lib.hid hw
  by_cases hz : 32 < n ∨ (chk l).2 ≠ 0
  · have HR : Hid (∃ p : Int × Nat, p.2 ≠ 0 ∧ Calls Tryd.prog 20 #[.slice A n cap] w (ChkPost p w)) := Lib.hid (by
      by_cases h32 : 32 < n
      · exact ⟨(0, 4), by decide, refCheck_long A cap n h32 w⟩
      · have e : n = l.length := by omega
        subst e
        refine ⟨chk l, ?_, refCheck_any A cap l (by omega) w hA⟩
        rcases hz with h | h
        · omega
        · exact h)
    obtain ⟨⟨pi, pe⟩, hpe, hc⟩ := HR.out
    unfold ChkPost at hc
    dsimp only at hpe hc
    have HC := Lib.hid hc
    have hpe' : ((pe : Int) != 0) = true := by simpa using hpe
    clear HR hz hpe hc hA hints hnone K hw hnc hcm hlen
    go_enter Tryd.func9, Tryd.ntmps9
    go_wp2_with fail
    refine HC.out.mono ?_
    rintro e w1 ⟨rfl, hb1⟩
    have HB1 := Lib.hid hb1
    clear hb1
    go_wp2_with fail
    refine (HL _ (HM.out _ _ HW.out HB1.out)).out.mono ?_
    rintro e w2 ⟨rfl, hb2⟩
    have HB2 := Lib.hid (HB1.out.trans (hb2.mono HB1.out.size))
    clear hb2
    go_wp2
    go_ret
    exact ⟨rfl, HB2.out⟩
  · have hz2 : (chk l).2 = 0 := Classical.byContradiction fun h => hz (.inr h)
    have e : n = l.length := by omega
    have h32 : l.length ≤ 32 := by omega
    subst e
    have HC := Lib.hid (refCheck_any A cap l (by omega) w hA)
    rw [(chk_zero hz2).2.1] at HC
    unfold ChkPost at HC
    have HP := fun A2 c2 W h1 h2 => Lib.hid (K.put A2 c2 l W (by omega) hints h1 h2)
    unfold PutPost putL at HP
    rw [if_pos hz2, hz2] at HP
    have hql := encL_le l
    have hqs := size_mk (encL l)
    have hdl : (ByteArray.mk (encL l).toArray ++ t).data.toList = encL l ++ t.data.toList := by rw [ByteArray.data_append, Array.toList_append]
    have hds : (ByteArray.mk (encL l).toArray ++ t).size = (encL l).length + t.size := by rw [size_list, hdl, List.length_append, ← size_list]
    have HG := fun W hW => Lib.hid (K.get (ByteArray.mk (encL l).toArray ++ t) W (by omega) hW)
    rw [hdl, back hz2] at HG
    unfold GotPost at HG
    dsimp only at HG HC
    have HS := fun (B : Option Addr) (cb : Nat) (W : World) h1 h2 => Lib.hid (same_self A B cap cb l (by omega) W h1 h2)
    have HDS := Lib.hid hds
    have HA := Lib.hid hA
    have HNo : Hid (A = none → l = [] ∧ cap = 0) := Lib.hid (fun h => ⟨List.eq_nil_of_length_eq_zero (hnone h).1, (hnone h).2⟩)
    clear hz hz2 hdl hds K hw hints hnone hA hlen hnc hcm
    generalize encL l = q at *
    go_enter Tryd.func9, Tryd.ntmps9
    go_wp2_with fail
    refine HC.out.mono ?_
    rintro e w1 ⟨rfl, hb1⟩
    have HB1 := Lib.hid hb1
    have hA1 := (HA.out.next hb1).next ((Below.refl _ _).alloc (Nat.le_refl _) (.cells #[] 80))
    clear hb1
    go_wp2_with (
      at_builtin
      refine wpList_appD (by rfl) (.tmp 21) (.tmp 22) (by rfl) w1.heap.size l.length cap (.slice (some ⟨w1.heap.size, 0, none⟩) 0 0) A [] l (by rfl) (own_new w1) (by rfl) rfl HNo.out hA1 (by simp; omega) (by simp) ?_)
    intro v2 w2 hv2 hg2
    obtain ⟨hB2, hA2, A2, c2, rfl, hC2⟩ := own_copy HA.out HB1.out hv2 hg2 (fun k e => by simpa [Value.ownBlock] using e.symm)
    have HB2 := Lib.hid hB2
    have HP2 := HP A2 c2 w2 hC2 (HM.out _ _ HW.out hB2)
    have HA2 := Lib.hid hA2
    clear hv2 hg2 hB2 hA2 hC2 hA1
    go_wp2_with fail
    refine HP2.out.mono ?_
    rintro e w3 ⟨rfl, hb3⟩
    have HA3 := Lib.hid (HA2.out.next hb3)
    have HB3 := Lib.hid (HB2.out.trans (hb3.mono HB2.out.size))
    clear hb3
    go_wp2_with fail
    refine (HG _ (HM.out _ _ HW.out HB3.out)).out.mono ?_
    rintro e w4 ⟨v4, rfl, ⟨B4, c4, rfl, hB4⟩, hb4⟩
    have HS4 := HS B4 c4 w4 (HA3.out.next hb4) hB4
    have HB4 := Lib.hid (HB3.out.trans (hb4.mono HB3.out.size))
    clear hb4 hB4
    go_wp2_with fail
    refine HS4.out.mono ?_
    rintro e w5 ⟨rfl, hb5⟩
    have HB5 := Lib.hid (HB4.out.trans (hb5.mono HB4.out.size))
    clear hb5
    go_wp2_with fail
    refine (HL _ (HM.out _ _ HW.out HB5.out)).out.mono ?_
    rintro e w6 ⟨rfl, hb6⟩
    have HB6 := Lib.hid (HB5.out.trans (hb6.mono HB5.out.size))
    clear hb6
    go_wp2
    go_ret
    exact ⟨rfl, HB6.out⟩
end Go.Proofs.YtaefkkhmhogpeaaDoor.objs
