/-
  The program's calls that make memory: All, Clone, New (typed over the code of 644c691). No condition.
-/
import Derived.Test.YtdmcmgcecdgegaaCeGet
import Derived.Test.YtdmcmgcecdgegaaDBox
import Derived.Test.YtdmcmgcecdgegaaDArg
import Derived.Maps.AppendAt
namespace Go.Proofs.Ytdmcmgcecdgegaa.cel
open Go.RowKit Go.ChangeShapes
open Go.Proofs.Ytdmcmgcecdgegaa.objs (De zero DAt put3 put3_same put3_far put3_below cells3 I64)
open Go.Proofs.Ytdmcmgcecdgegaa.gd (Own GAt flat flat_length flat_oneCell infoG)
open Go.Proofs.Ytdmcmgcecdgegaa.word (low low_any)
open Go.Proofs.Ytdmcmgcecdgegaa.pol (SAt below_grown)
set_option linter.unusedVariables false
set_option linter.unusedSimpArgs false

theorem all_nil (w : World) : Calls Try.prog 10 #[.pointer none] w fun e w' => e = .returned (.slice none 0 0) ∧ w = w' := by
  go_enter Try.func10, Try.ntmps10
  go_wp2
  go_ret
  exact ⟨rfl, rfl⟩
theorem vals_next {l : List De} {k : Nat} {x y z : Int} (hk : k < l.length) (h : l.getD k zero = (x, y, z)) : vals (l.take (k + 1)) = vals (l.take k) ++ [(x, y)] := by
  rw [take_next hk, h]
  simp [vals]
set_option maxHeartbeats 2000000 in
theorem all_any (w : World) (g : Nat) (v : Value) (l : List De) (ha : AtC w g v l) :
    Calls Try.prog 10 #[.pointer (some ⟨g, 0, none⟩)] w fun e w' => ∃ A c, e = .returned (.slice A (vals l).length c) ∧ SAt w' (fun b => w.heap.size ≤ b) A (vals l) ∧ Below w.heap.size w w' := by
  obtain ⟨A, cap, rfl⟩ := ha.row.slice
  have h0 := (ce_cell ha.box).1
  have HA := Lib.hid ha.gat
  have hl := ha.len
  have H0 : Hid (pol.Own w w.heap.size (.slice none 0 0) (vals (l.take 0)) ∧ Below w.heap.size w w) := Lib.hid ⟨pol.Own.nil w _, Below.refl _ _⟩
  clear ha
  go_enter Try.func10, Try.ntmps10
  go_wp2
  go_loopw [3, 13] (fun v i wr => ∃ k : Nat, i = .int .i64 (k : Int) ∧ k ≤ l.length ∧ Hid (pol.Own wr w.heap.size v (vals (l.take k)) ∧ Below w.heap.size w wr)) (fun _ i _ => l.length - (intOf i).toNat)
  case atStart => exact ⟨0, rfl, Nat.zero_le _, H0⟩
  case round =>
    obtain ⟨k, rfl, hk, HW⟩ := hrel
    clear H0 h0
    by_cases hlt : k < l.length
    · have HK := Lib.hid hlt
      have HG := Lib.hid (HA.out.next HW.out.2)
      obtain ⟨b, off, rfl, _, c0, c1, c2⟩ := HG.out k hlt
      obtain ⟨x, y, z, hy⟩ : ∃ x y z, l.getD k zero = (x, y, z) := ⟨_, _, _, rfl⟩
      rw [hy] at c0 c1 c2
      dsimp only at c0 c1 c2
      have HV := Lib.hid (vals_next hlt hy)
      have HL : Hid ((vals (l.take k)).length ≤ 4096) := Lib.hid (by rw [vals_length, List.length_take]; omega)
      obtain ⟨X, hX⟩ : ∃ X : Obj, X = .cells #[.int .i64 x, .int .i64 y, .int .i64 z] 47 := ⟨_, rfl⟩
      obtain ⟨Y, hY⟩ : ∃ Y : Obj, Y = .cells #[.int .i64 x, .int .i64 y] 32 := ⟨_, rfl⟩
      have hb1 := (HW.out.2.alloc HW.out.2.size X).alloc (by have := HW.out.2.size; simp; omega) Y
      have hb0 : Below wr.heap.size wr ((wr.alloc X).alloc Y) := ((Below.refl _ wr).alloc (Nat.le_refl _) X).alloc (by simp) Y
      have HX : Hid (SAt ((wr.alloc X).alloc Y) (fun b => (wr.alloc X).heap.size ≤ b) (some ⟨wr.heap.size + 1, 0, none⟩) [(x, y)]) := Lib.hid (by
        have h := SAt.one (e := (x, y)) (w := (wr.alloc X).alloc Y) (g := (wr.alloc X).heap.size) (by rw [hY]; exact heap_alloc_new (wr.alloc X) _)
        have e : (wr.alloc X).heap.size = wr.heap.size + 1 := by simp
        rw [e] at h ⊢
        exact h)
      have H1 := Lib.hid (And.intro (HW.out.1.next hb0) hb1)
      subst hX hY
      clear hy HG hb0 hb1 HW hlt hk HA
      go_upto_region 7 with fail
      go_wp2_with (at_builtin; refine pol.wpList_appS (by rfl) (.tmp 17) (.tmp 23) (by rfl) w.heap.size 1 1 _ u3 ⟨wr.heap.size + 1, 0, none⟩ (vals (l.take k)) [(x, y)] (by rfl) H1.out.1 (by rfl) (by rfl) HX.out (by have := HL.out; simp; omega) H1.out.2.size ?_)
      intro v2 w2 ho2 hg2
      have H3 : Hid (pol.Own w2 w.heap.size v2 (vals (l.take (k + 1))) ∧ Below w.heap.size w w2) := Lib.hid (by rw [HV.out]; exact ⟨ho2, below_grown H1.out.2 hg2 (fun j e => (H1.out.1.lt e).1) H1.out.2.size⟩)
      clear ho2 hg2 HV HX H1
      go_wp2_with fail
      go_roundw
      case rel => exact ⟨k + 1, by go_num, HK.out, H3⟩
      case measure => have := HK.out; simp [intOf]; omega
    · obtain rfl : k = l.length := by omega
      obtain ⟨A', c', e⟩ := HW.out.1.slice
      have HF := Lib.hid HW.out
      rw [List.take_length] at HF e
      subst e
      have HD := Lib.hid (And.intro HF.out.1.at HF.out.2)
      clear HW HF HA
      go_wp2_with fail
      go_ret
      exact ⟨_, _, rfl, HD.out.1, HD.out.2⟩

theorem eql_slice (a : Option Addr) (n c : Nat) (w : World) : (binOp .eql 43 (.slice a n c) (.slice none 0 0)).run Try.prog w = .ok (.bool a.isNone) w := Lib.run_eql_slice_nil w 43 _ a n c 0 0 Try.underlying43
theorem sliceClone_nil (w : World) :
    Calls Try.prog 21 #[.slice none 0 0] w fun e w' => e = .returned (.slice none 0 0) ∧ w = w' := by
  have hq := eql_slice none 0 0
  go_enter Try.func21, Try.ntmps21
  go_wp2
  go_ret
  exact ⟨rfl, rfl⟩
theorem sliceClone_some (w : World) (b cap : Nat) (l : List De) (hr : Own w 0 (.slice (some ⟨b, 0, none⟩) l.length cap) l) (hl : l.length ≤ 4096) :
    Calls Try.prog 21 #[.slice (some ⟨b, 0, none⟩) l.length cap] w fun e w' => ∃ v', e = .returned v' ∧ Own w' w.heap.size v' l ∧ Below w.heap.size w w' := by
  have hq := eql_slice (some ⟨b, 0, none⟩) l.length cap
  obtain ⟨i, hi, hz0, hz1, hz2⟩ := info_parts infoG
  have hW : Own (w.alloc (.cells #[] 47)) 0 (.slice (some ⟨b, 0, none⟩) l.length cap) l := hr.next ((Below.refl _ w).alloc (Nat.le_refl _) _)
  have hN : Own (w.alloc (.cells #[] 47)) w.heap.size (.slice (some ⟨w.heap.size, 0, none⟩) 0 0) [] := Own.empty (heap_alloc_new w _)
  have hc : ∀ (j : Nat) (u : Value), (flat l)[j]? = some u → (w.alloc (.cells #[] 47)).cell? ((⟨b, 0, none⟩ : Addr).add j) = some u := fun j u hu => World.ownsRow.cells hW (g := b) rfl j u hu
  have hB := (Below.refl w.heap.size w).alloc (Nat.le_refl _) (.cells #[] 47)
  have HB := Lib.hid hB
  have HL := Lib.hid hl
  clear hr hB hW
  go_enter Try.func21, Try.ntmps21
  go_wp2_with (at_builtin; refine wpList_append_own_at _ (by rfl) (.tmp 5) (.tmp 6) 43 (by rfl) w.heap.size 47 i _ 3 24 Try.underlying43 hi hz0 hz1 hz2 rfl (by omega) (.slice (some ⟨w.heap.size, 0, none⟩) 0 0) 0 [] (by rfl) hN ⟨b, 0, none⟩ l.length cap (flat l) (by rfl) (flat_length l) hc (flat_oneCell l) (by unfold maxLen; omega) (by omega) (by simp) ?_)
  intro v' w' h1 h2 h3 _
  have HB2 : Hid (Below w.heap.size w w') := HB.out.grown h2 (by simp) (fun k e => by simp [Value.ownBlock] at e; omega)
  have HR : Hid (Own w' w.heap.size v' l) := Lib.hid (by
    unfold Own
    exact h1)
  clear h1 h2 h3 hN hc
  go_wp2
  go_ret
  exact ⟨v', rfl, HR.out, HB2.out⟩
theorem sliceClone_any (w : World) (v : Value) (l : List De) (hr : Own w 0 v l) (hl : l.length ≤ 4096) :
    Calls Try.prog 21 #[v] w fun e w' => ∃ v', e = .returned v' ∧ Own w' w.heap.size v' l ∧ Below w.heap.size w w' := by
  rcases hr.2 with ⟨rfl, h0⟩ | ⟨b, cap, cur, rfl, _⟩
  · have hn : l = [] := List.eq_nil_of_length_eq_zero h0
    subst hn
    refine (sliceClone_nil w).mono ?_
    rintro e w' ⟨rfl, rfl⟩
    exact ⟨_, rfl, Own.nil _ _, Below.refl _ _⟩
  · exact sliceClone_some w b cap l hr hl
theorem clone_nil (w : World) : Calls Try.prog 18 #[.pointer none] w fun e w' => e = .returned (.pointer none) ∧ w = w' := by
  go_enter Try.func18, Try.ntmps18
  go_wp2
  go_ret
  exact ⟨rfl, rfl⟩
/-- Cells that a call has made: all of them in blocks that are new. -/
def Made (w : World) (l : List De) (e : Ending) (w' : World) : Prop :=
  ∃ g v, e = .returned (.pointer (some ⟨g, 0, none⟩)) ∧ AtC w' g v l ∧ Below w.heap.size w w' ∧ w.heap.size ≤ g ∧ ∀ b, v.ownBlock = some b → w.heap.size ≤ b
theorem made_of {w w1 : World} {v : Value} {l : List De} (h : Own w1 w.heap.size v l) (hb : Below w.heap.size w w1) (hr : Rising l) (hl : l.length ≤ 4096) : Made w l (.returned (.pointer (some ⟨w1.heap.size, 0, none⟩))) (w1.alloc (ceO v)) :=
  have h2 := h.next ((Below.refl _ w1).alloc (Nat.le_refl _) (ceO v))
  ⟨w1.heap.size, v, rfl, ⟨heap_alloc_new w1 _, h2.base (Nat.zero_le _), hr, hl⟩, hb.alloc hb.size _, hb.size, fun b e => (h.lt e).1⟩
theorem clone_any (w : World) (g : Nat) (v : Value) (l : List De) (ha : AtC w g v l) :
    Calls Try.prog 18 #[.pointer (some ⟨g, 0, none⟩)] w (Made w l) := by
  have h0 := (ce_cell ha.box).1
  have HS : Hid (Calls Try.prog 21 #[v] w fun e w' => ∃ A c, e = .returned (.slice A l.length c) ∧ Own w' w.heap.size (.slice A l.length c) l ∧ Below w.heap.size w w') := Lib.hid ((sliceClone_any w v l ha.row ha.len).mono fun e w' h => by
    obtain ⟨v1, rfl, h1, h2⟩ := h
    obtain ⟨A, c, rfl⟩ := h1.slice
    exact ⟨A, c, rfl, h1, h2⟩)
  obtain ⟨A0, c0, hv⟩ := ha.row.slice
  have HM := Lib.hid (fun (w1 : World) (v1 : Value) (h : Own w1 w.heap.size v1 l) (hb : Below w.heap.size w w1) => made_of h hb ha.rise ha.len)
  unfold ceO at HM
  clear ha
  subst hv
  go_enter Try.func18, Try.ntmps18
  go_wp2_with (refine HS.out.mono ?_; rintro _ w1 ⟨A1, c1, rfl, h1, h2⟩; have HD := Lib.hid (HM.out w1 _ h1 h2); clear h1 h2)
  all_goals
    go_ret
    exact HD.out
end Go.Proofs.Ytdmcmgcecdgegaa.cel
