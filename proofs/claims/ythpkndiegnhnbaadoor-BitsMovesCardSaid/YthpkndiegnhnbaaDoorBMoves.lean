/-
  Where the numbers of a set are moved, and that a set moved by n and by less n is as it was: for every set and all pairs of numbers, under no condition. The table of math/bits lies where its initialiser lays it: the card ties that to the program's text.
-/
import Derived.Test.YthpkndiegnhnbaaDoorBRefUp
import Derived.Test.YthpkndiegnhnbaaDoorBUp
import Derived.Test.YthpkndiegnhnbaaDoorBClose
import Derived.Test.YthpkndiegnhnbaaDoorCards
import Derived.Test.YthpkndiegnhnbaaDoorTie
import Derived.SevenTiedAt
namespace Go.Proofs.YthpkndiegnhnbaaDoor.bitsMoves
open Go.ChangeShapes Go.WideShapes Go.ChangeAt Go.RowKit Go.Proofs.YthpkndiegnhnbaaDoor.bits
set_option linter.unusedVariables false

theorem rem_sum (n k : Int) : ((n.tmod 64 + k.tmod 64) % 64).toNat = ((n % 64).toNat + (k % 64).toNat) % 64 := by
  by_cases hn : n.tmod 64 < 0
  · have h1 := rem_neg hn
    by_cases hk : k.tmod 64 < 0
    · have h2 := rem_neg hk
      omega
    · have h2 := rem_pos hk
      omega
  · have h1 := rem_pos hn
    by_cases hk : k.tmod 64 < 0
    · have h2 := rem_neg hk
      omega
    · have h2 := rem_pos hk
      omega
theorem rem_back (n : Int) : ((-(n.tmod 64)) % 64).toNat = (64 - (n % 64).toNat) % 64 := by
  by_cases hn : n.tmod 64 < 0
  · have h1 := rem_neg hn
    omega
  · have h1 := rem_pos hn
    omega

set_option maxHeartbeats 1000000 in
theorem walk (s : Nat) (hs : Is64 s) (n k : Int) (w : World) (hT : Tab w) (hg : 0 < w.heap.size) :
    Calls Tryd.prog 5 #[.int .u64 (s : Int), .int .i64 n, .int .i64 k] w fun e w' => e = .returned (.bool true) ∧ Below w.heap.size w w' := by
  have HT := Lib.hid hT
  clear hT
  have ha : (n % 64).toNat < 64 := by omega
  have hb : (k % 64).toNat < 64 := by omega
  have hy := up_lt s (n % 64).toNat
  have HC1 := Lib.hid (count_up s ha)
  have HUU := Lib.hid (up_up (s := s) ha hb)
  have HBK := Lib.hid (up_back hs ha)
  have HRS := Lib.hid (rem_sum n k)
  have HRB := Lib.hid (rem_back n)
  have HR := Lib.hid (refUp_any s hs n w)
  have hr1 := rem_range n
  have hr2 := rem_range k
  have HU := fun v : World => Lib.hid (up_any s hs n v)
  generalize (n % 64).toNat = a at *
  clear ha hb
  go_enter Tryd.func5, Tryd.ntmps5
  go_wp2_with fail
  refine (HU _).out.mono ?_
  rintro e w1 ⟨rfl, rfl⟩
  go_wp2_with fail
  refine HR.out.mono ?_
  rintro e w1 ⟨rfl, hb1⟩
  have HB1 := Lib.hid hb1
  clear hb1
  go_wp2_with fail
  refine (count_any _ hy _).mono ?_
  rw [HC1.out]
  rintro e w2 ⟨rfl, rfl⟩
  go_wp2_with fail
  refine (count_any _ hs _).mono ?_
  rintro e w2 ⟨rfl, rfl⟩
  go_wp2_with fail
  refine (HU _).out.mono ?_
  rintro e w2 ⟨rfl, rfl⟩
  go_wp2_with fail
  refine (up_any _ hy _ _).mono ?_
  rw [HUU.out]
  rintro e w2 ⟨rfl, rfl⟩
  go_wp2_with fail
  refine (up_any _ hs _ _).mono ?_
  rw [HRS.out]
  rintro e w2 ⟨rfl, rfl⟩
  go_wp2_with fail
  refine (up_any _ hy _ _).mono ?_
  rw [HRB.out, HBK.out]
  rintro e w2 ⟨rfl, rfl⟩
  go_wp2_with fail
  refine (lives_any _ (HT.out.below HB1.out hg) (by have := HB1.out.size; omega)).mono ?_
  rintro e w2 ⟨rfl, hb2⟩
  go_wp2
  go_ret
  exact ⟨rfl, HB1.out.trans (hb2.mono HB1.out.size)⟩

set_option maxRecDepth 100000 in
theorem lifted (os : Os) (started : os.Started) (H : Type) (enc : TypeId × Value → H) :
    ReturnsInHanded {} Tryd.checked os 5 .any (fun w args => (Rows.bitsMovesSpec.pre enc Tryd.prog Tryd.f5 [] false w args ∧ laidMetH Tryd.prog laid3 w) ∧ sizedMet enc Tryd.prog Tryd.f5 (OpenSpec.ofChange Rows.bitsMovesSpec) false w args)
      (Rows.bitsMovesSpec.post enc Tryd.prog Tryd.f5 false true false false) := by
  refine returnsInHanded_of_change_and (C := Tryd.checked) (X := fun w _ => laidMetH Tryd.prog laid3 w) (fun _ _ _ hh h => h.of_heap hh) own started (by kernel_rfl) Tryd.func5
    (ChangeSpec.witness_shaped (enc := enc) (C := Tryd.checked) (os := os) (X := fun w _ => laidMetH Tryd.prog laid3 w) false (World.doorLaid Tryd.prog 62 os) #[.int .u64 0, .int .i64 0, .int .i64 0] 8 rfl (World.shaped_of_RefB (by kernel_rfl) (by kernel_rfl)) (by kernel_rfl) (by kernel_rfl) (by kernel_rfl) (door_met os _)) ?_
  intro W base args ds gs before hval0 hW _ _ hL _
  have hval : ∀ (j : Nat) t v, Tryd.f5.params[j]? = some t → args[j]? = some v → Value.okWide Tryd.prog W .any base t v := hval0

  have hW' := hW
  obtain ⟨p, q, hA0, hV, rfl, hfz, hnd⟩ := hW
  have hA : DataW.TrodAll enc Tryd.prog W 0 (fun _ => true) true Tryd.f5.params.toList args.toList ds p := hA0
  rw [Tryd.params5] at hA hval
  obtain ⟨v0, vs0, d0, ds0, p0, q0, hargs, rfl, rfl, h0, r0⟩ := trodAll_cons hA
  obtain ⟨v1, vs1, d1, ds1, p1, q1, rfl, rfl, rfl, h1, r1⟩ := trodAll_cons r0
  obtain ⟨v2, vs2, d2, ds2, p2, q2, rfl, rfl, rfl, h2, r2⟩ := trodAll_cons r1
  obtain ⟨rfl, rfl, rfl⟩ := trodAll_nil r2
  obtain rfl : args = #[v0, v1, v2] := by cases args; simp_all
  obtain ⟨rfl, rfl⟩ := trodVars_none hV
  obtain ⟨a0, rfl, rfl, rfl, w0⟩ := open_int Tryd.underlying22 (hval 0 22 v0 rfl rfl) h0
  obtain ⟨a1, rfl, rfl, rfl, w1⟩ := open_int Tryd.underlying3 (hval 1 3 v1 rfl rfl) h1
  obtain ⟨a2, rfl, rfl, rfl, w2⟩ := open_int Tryd.underlying3 (hval 2 3 v2 rfl rfl) h2
  obtain ⟨n0, rfl, hn0⟩ := fits_of a0 w0
  clear hA0 hval0
  obtain ⟨hT, hg⟩ := of_laid hL
  simp only [List.append_nil] at hW'
  refine (walk n0 hn0 a1 a2 W hT hg).mono fun e W' ⟨he, hb⟩ => ?_
  subst he
  exact ⟨_, rfl, post_below (pa := []) (pv := []) hW' (fun _ _ _ => (trodAll_cons_mk (shut_bool Tryd.underlying4 _) trodAll_mk0)) (fun sp _ => trodAll_cons_mk (shut_int Tryd.underlying22 w0) (trodAll_cons_mk (shut_int Tryd.underlying3 w1) (trodAll_cons_mk (shut_int Tryd.underlying3 w2) trodAll_mk0))) (fun _ _ => rfl) rfl
    hb (ok_one (by kernel_rfl) rfl (okWide_bool_mk Tryd.underlying4 _))⟩

theorem said : Rows.BitsMovesSaid :=
  OpenClaim.holds_of_wide 5 Tryd.f5 rfl rfl rfl rfl rfl rfl rfl ⟨rfl, rfl, rfl, rfl, rfl⟩ rfl rfl rfl rfl rfl (by kernel_rfl) Tryd.func5 (by kernel_rfl)
    (of_decide_eq_true (by kernel_rfl)) (by unfold Func.isWrapper; first | (rw [if_pos (by decide +kernel)]; kernel_rfl) | (rw [if_neg (by decide +kernel)]; exact ⟨rfl, rfl⟩))
    (fun os started H enc _ => lifted os started H enc)

theorem proved : Rows.BitsMovesCardSaid :=
  Claim7.holds_tied_plain_at .later [] [.data, .data, .data] true Rows.bitsMovesCard.stood.harness true
    said (fun _ h => by cases h) (by kernel_rfl) (fun _ h => by cases h) bitsMoves_row_tie rfl ⟨rfl, rfl⟩ (by kernel_rfl) rfl
    (fun f fn hf hfn => by
      obtain rfl : f = 5 := Option.some.inj ((show Tryd.prog.funcNamed "logjam/logjamlaw02.BitsMoves" = some 5 by kernel_rfl).symm.trans hf) |>.symm
      obtain rfl : fn = Tryd.f5 := (Option.some.inj (Tryd.func5.symm.trans hfn)).symm
      exact ⟨by kernel_rfl, fun j t ht => by
        rw [Tryd.params5] at ht
        have hm : t ∈ [22, 3] := by simpa using Array.mem_of_getElem? ht
        have hall : ([22, 3].all fun u => !Tryd.prog.wantsStandIn u) = true := by kernel_rfl
        exact (show Tryd.prog.wantsStandIn t = false by simpa using List.all_eq_true.1 hall t hm)⟩)
    (by kernel_rfl)
end Go.Proofs.YthpkndiegnhnbaaDoor.bitsMoves
