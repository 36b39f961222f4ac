/-
  From one number of a set to the next all are met, rising, just as they are picked: for every set, under no condition. The table of math/bits lies where its initialiser lays it: the card ties that to the program's text.
-/
import Derived.Test.YthpkndiegnhnbaaDoorBRefList
import Derived.Test.YthpkndiegnhnbaaDoorBClose
import Derived.Test.YthpkndiegnhnbaaDoorCards
import Derived.Test.YthpkndiegnhnbaaDoorTie
import Derived.SevenTiedAt
namespace Go.Proofs.YthpkndiegnhnbaaDoor.bitsWalk
open Go.ChangeShapes Go.WideShapes Go.ChangeAt Go.RowKit Go.Proofs.YthpkndiegnhnbaaDoor.bits
set_option linter.unusedVariables false

set_option maxHeartbeats 1000000 in
theorem walk (s : Nat) (hs : Is64 s) (w : World) (hT : Tab w) (hg : 0 < w.heap.size) :
    Calls Tryd.prog 7 #[.int .u64 (s : Int)] w fun e w' => e = .returned (.bool true) ∧ Below w.heap.size w w' := by
  have HT := Lib.hid hT
  clear hT
  have hlen := els_length_le s
  go_enter Tryd.func7, Tryd.ntmps7
  go_wp2_with fail
  refine (first_any s hs _ HT.out).mono ?_
  rintro e w1 ⟨rfl, rfl⟩
  go_wp2_with fail
  refine (refList_any s hs _).mono ?_
  rintro e w1 ⟨g, cap, rfl, hl, hb, _⟩
  have HL := Lib.hid hl
  have HB := Lib.hid hb
  have HT1 := Lib.hid (HT.out.below hb hg)
  clear hl hb
  generalize hN : (els s).length = N at *
  have HN := Lib.hid hN
  clear hN
  go_wp2_with fail
  go_loop [4, 5] (fun n i => ∃ k : Nat, k ≤ N ∧ i = .int .i64 (k : Int) ∧ n = .int .i64 (atI (els s) k)) (fun _ i => N - (intOf i).toNat)
  case atStart => exact ⟨0, Nat.zero_le _, rfl, rfl⟩
  case round =>
    obtain ⟨k, hk, rfl, rfl⟩ := hrel
    have HP := Lib.hid (pick_any s hs (k : Int) w1 HT1.out)
    rw [if_neg (by omega), Int.toNat_natCast] at HP
    by_cases hlt : k < N
    · obtain ⟨x, hx⟩ : ∃ x : Nat, (els s)[k]? = some x := ⟨_, List.getElem?_eq_getElem (by rw [HN.out]; exact hlt)⟩
      have hc := HL.out.cell hx
      have HX := Lib.hid (next_any s hs (atI (els s) k) w1 HT1.out)
      rw [next_at (by rw [HN.out]; exact hlt), atI_some hx] at HX
      rw [atI_some hx] at HP
      rw [atI_some hx]
      have hk64 : k < 64 := by omega
      have hd : decide (N ≤ k) = false := by simp; omega
      have hd2 : decide (k < 64) = true := by simp; omega
      have hd3 : decide ((k : Int) < 64) = true := by simp; omega
      clear hx
      go_wp2_with fail
      refine HP.out.mono ?_
      rintro e w2 ⟨rfl, rfl⟩
      go_wp2_with fail
      refine HX.out.mono ?_
      rintro e w2 ⟨rfl, rfl⟩
      go_wp2
      go_round
      case rel => exact ⟨k + 1, by omega, by go_num, rfl⟩
      case measure => simp [intOf]; omega
    · obtain rfl : k = N := by omega
      rw [atI_none (l := els s) (k := k) (by rw [HN.out]; exact Nat.le_refl _)] at HP ⊢
      go_wp2_with fail
      refine HP.out.mono ?_
      rintro e w2 ⟨rfl, rfl⟩
      go_wp2_with fail
      refine (lives_any _ HT1.out (by have := HB.out.size; omega)).mono ?_
      rintro e w2 ⟨rfl, hb2⟩
      go_wp2
      go_ret
      exact ⟨rfl, HB.out.trans (hb2.mono HB.out.size)⟩

set_option maxRecDepth 100000 in
theorem lifted (os : Os) (started : os.Started) (H : Type) (enc : TypeId × Value → H) :
    ReturnsInHanded {} Tryd.checked os 7 .any (fun w args => (Rows.bitsWalkSpec.pre enc Tryd.prog Tryd.f7 [] false w args ∧ laidMetH Tryd.prog laid3 w) ∧ sizedMet enc Tryd.prog Tryd.f7 (OpenSpec.ofChange Rows.bitsWalkSpec) false w args)
      (Rows.bitsWalkSpec.post enc Tryd.prog Tryd.f7 false true false false) := by
  refine returnsInHanded_of_change_and (C := Tryd.checked) (X := fun w _ => laidMetH Tryd.prog laid3 w) (fun _ _ _ hh h => h.of_heap hh) own started (by kernel_rfl) Tryd.func7
    (ChangeSpec.witness_shaped (enc := enc) (C := Tryd.checked) (os := os) (X := fun w _ => laidMetH Tryd.prog laid3 w) false (World.doorLaid Tryd.prog 62 os) #[.int .u64 0] 8 rfl (World.shaped_of_RefB (by kernel_rfl) (by kernel_rfl)) (by kernel_rfl) (by kernel_rfl) (by kernel_rfl) (door_met os _)) ?_
  intro W base args ds gs before hval0 hW _ _ hL _
  have hval : ∀ (j : Nat) t v, Tryd.f7.params[j]? = some t → args[j]? = some v → Value.okWide Tryd.prog W .any base t v := hval0

  have hW' := hW
  obtain ⟨p, q, hA0, hV, rfl, hfz, hnd⟩ := hW
  have hA : DataW.TrodAll enc Tryd.prog W 0 (fun _ => true) true Tryd.f7.params.toList args.toList ds p := hA0
  rw [Tryd.params7] at hA hval
  obtain ⟨v0, d0, rfl, rfl, h0⟩ := trodAll_one hA
  obtain ⟨rfl, rfl⟩ := trodVars_none hV
  obtain ⟨a0, rfl, rfl, rfl, w0⟩ := open_int Tryd.underlying22 (hval 0 22 v0 rfl rfl) h0
  obtain ⟨n0, rfl, hn0⟩ := fits_of a0 w0
  clear hA0 hval0
  obtain ⟨hT, hg⟩ := of_laid hL
  simp only [List.append_nil] at hW'
  refine (walk n0 hn0 W hT hg).mono fun e W' ⟨he, hb⟩ => ?_
  subst he
  exact ⟨_, rfl, post_below (pa := []) (pv := []) hW' (fun _ _ _ => (trodAll_cons_mk (shut_bool Tryd.underlying4 _) trodAll_mk0)) (fun sp _ => trodAll_mk1 (shut_int Tryd.underlying22 w0)) (fun _ _ => rfl) rfl
    hb (ok_one (by kernel_rfl) rfl (okWide_bool_mk Tryd.underlying4 _))⟩

theorem said : Rows.BitsWalkSaid :=
  OpenClaim.holds_of_wide 7 Tryd.f7 rfl rfl rfl rfl rfl rfl rfl ⟨rfl, rfl, rfl, rfl, rfl⟩ rfl rfl rfl rfl rfl (by kernel_rfl) Tryd.func7 (by kernel_rfl)
    (of_decide_eq_true (by kernel_rfl)) (by unfold Func.isWrapper; first | (rw [if_pos (by decide +kernel)]; kernel_rfl) | (rw [if_neg (by decide +kernel)]; exact ⟨rfl, rfl⟩))
    (fun os started H enc _ => lifted os started H enc)

theorem proved : Rows.BitsWalkCardSaid :=
  Claim7.holds_tied_plain_at .later [] [.data, .data, .data] true Rows.bitsWalkCard.stood.harness true
    said (fun _ h => by cases h) (by kernel_rfl) (fun _ h => by cases h) bitsWalk_row_tie rfl ⟨rfl, rfl⟩ (by kernel_rfl) rfl
    (fun f fn hf hfn => by
      obtain rfl : f = 7 := Option.some.inj ((show Tryd.prog.funcNamed "logjam/logjamlaw02.BitsWalk" = some 7 by kernel_rfl).symm.trans hf) |>.symm
      obtain rfl : fn = Tryd.f7 := (Option.some.inj (Tryd.func7.symm.trans hfn)).symm
      exact ⟨by kernel_rfl, fun j t ht => by
        rw [Tryd.params7] at ht
        have hm : t ∈ [22] := by simpa using Array.mem_of_getElem? ht
        have hall : ([22].all fun u => !Tryd.prog.wantsStandIn u) = true := by kernel_rfl
        exact (show Tryd.prog.wantsStandIn t = false by simpa using List.all_eq_true.1 hall t hm)⟩)
    (by kernel_rfl)
end Go.Proofs.YthpkndiegnhnbaaDoor.bitsWalk
