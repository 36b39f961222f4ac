/-
  A cell is what it was set to last, or what it was at first: the walk of CellLast. No condition.
-/
import Derived.Test.YtdmcmgcecdgegaaCePlays
namespace Go.Proofs.Ytdmcmgcecdgegaa.cel
open Go.RowKit Go.ChangeShapes
open Go.Proofs.Ytdmcmgcecdgegaa.objs (De zero DAt LIn)
open Go.Proofs.Ytdmcmgcecdgegaa.word (low refLow_any)
open Go.Proofs.Ytdmcmgcecdgegaa.pol (SAt)
set_option linter.unusedVariables false
set_option linter.unusedSimpArgs false

set_option maxRecDepth 100000 in
set_option maxHeartbeats 8000000 in
theorem last_walk (A : Option Addr) (n cap : Nat) (d : List De) (A' : Option Addr) (cap' : Nat) (ops : List (Int × Int)) (obj : Int) (w : World) (hI : LIn w A n cap d) (ho : OpsAt w A' ops) (hl : ops.length ≤ 9223372036854775807) :
    Calls Try.prog 4 #[.slice A n cap, .slice A' ops.length cap', .int .i64 obj] w fun e w' => e = .returned (.bool true) ∧ Below w.heap.size w w' := by
  have HF := fun W A n cap d (h : LIn W A n cap d) => Lib.hid (few22_any W A n cap d h)
  have HF1 := HF w A n cap d hI
  have HL := fun W => Lib.hid (lives_any W)
  have HO := Lib.hid ho
  have hd4 : (d.take 60).length ≤ 4096 := by rw [List.length_take]; omega
  have HF2 := fun W A n cap (h : LIn W A n cap (d.take 60)) => HF W A n cap (d.take 60) h
  rw [take60] at HF2
  generalize d.take 60 = d1 at *
  have HD4 := Lib.hid hd4
  have HN := fun W A2 c2 h => Lib.hid (new_any W A2 c2 d1 h HD4.out)
  have HI0 := Lib.hid (Inv.new hd4)
  generalize cellsOf 0 d1 = l0 at *
  clear HF hI ho hd4
  go_enter Try.func4, Try.ntmps4
  go_wp2_with fail
  refine HF1.out.mono ?_
  rintro _ w1 ⟨A1, c1, rfl, hI1, hb1⟩
  have HB1 := Lib.hid hb1
  have HA1 := Lib.hid hI1.2.2.2.1
  have D := HF2 _ _ _ _ hI1
  clear HF1 hI1 hb1
  go_wp2_with fail
  refine D.out.mono ?_
  rintro _ w2 ⟨A2, c2, rfl, hI2, hb2⟩
  have HB2 := Lib.hid (HB1.out.trans (hb2.mono HB1.out.size))
  have HA2 := Lib.hid (HA1.out.next hb2)
  have D := HN _ _ c2 hI2.2.2.2.1
  clear HF2 hI2 hb2 HN
  go_wp2_with fail
  refine D.out.mono ?_
  intro e w3 hh
  obtain ⟨g, v, rfl, h⟩ := ls_made hh
  have H3 := Lib.hid h
  have CG := Lib.hid (H3.out.c_get obj)
  obtain ⟨ok, hok⟩ : ∃ ok, ok = (getV l0 obj).2 := ⟨_, rfl⟩
  have HOk : Hid ((getV l0 obj).2 = ok) := Lib.hid hok.symm
  rw [← hok] at CG
  have HI1 : Hid ((getV l0 obj).1 = (getV l0 obj).1) := Lib.hid rfl
  obtain ⟨v0, hv0⟩ : ∃ v0, v0 = (getV l0 obj).1 := ⟨_, rfl⟩
  have HV0 : Hid ((getV l0 obj).1 = v0) := Lib.hid hv0.symm
  rw [← hv0] at CG
  clear hh h HI1 hok hv0 D
  go_wp2_with (refine CG.out.mono ?_; rintro _ w4 ⟨rfl, h4, _⟩; have H4 := Lib.hid h4; clear h4)
  all_goals
    have H7 : Hid (Inv d1 l0 ∧ getV l0 obj = (v0, ok) ∧ Ls w2 g v l0 w4) := Lib.hid ⟨HI0.out, Prod.ext HV0.out HOk.out, H4.out⟩
    clear HI0 H4 HV0 HOk CG H3
    go_loopw [8, 10] (fun s8 s10 wr => ∃ (j : Nat) (l : List De) (z : Int), s10 = .int .i64 (j : Int) ∧ s8 = .int .i64 z ∧ j ≤ ops.length ∧ j ≤ 40 ∧ Hid (Inv d1 l ∧ getV l obj = (z, ok) ∧ Ls w2 g v l wr)) (fun _ s10 _ => ops.length - (intOf s10).toNat)
  all_goals try (case atStart => exact ⟨0, l0, v0, rfl, rfl, Nat.zero_le _, Nat.zero_le _, H7⟩)
  all_goals
    obtain ⟨j, l, z, rfl, rfl, hj, hj40, HW⟩ := hrel
    clear H7
    by_cases hlt : j < ops.length ∧ j < 40
    · obtain ⟨hlt, h40⟩ := hlt
      have d1' : decide (j < ops.length) = true := decide_eq_true hlt
      have d2 : decide ((j : Int) < 40) = true := by simp; omega
      obtain ⟨b, off, rfl, hb, c0, c1'⟩ := HO.out j hlt
      generalize ops.getD j (0, 0) = o at *
      obtain ⟨x, y⟩ := o
      dsimp only at c0 c1'
      have HCe : Hid (∀ W, Below w2.heap.size w2 W → W.cell? ⟨b, off + j * 2, none⟩ = some (.int .i64 x) ∧ W.cell? ⟨b, off + j * 2 + 1, none⟩ = some (.int .i64 y)) := Lib.hid fun W h =>
        have h2 := HB2.out.trans (h.mono HB2.out.size)
        ⟨(h2.cell (p := ⟨b, off + j * 2, none⟩) hb).trans c0, (h2.cell (p := ⟨b, off + j * 2 + 1, none⟩) hb).trans c1'⟩
      obtain ⟨l2, hl2⟩ : ∃ l2, l2 = setC l x y := ⟨_, rfl⟩
      obtain ⟨r, hr⟩ : ∃ r, r = (getV l x).2 := ⟨_, rfl⟩
      have HV2 : Hid (Inv d1 l2) := Lib.hid (by rw [hl2]; exact HW.out.1.set x y)
      have HG : Hid (getV l2 obj = if ok = true ∧ x = obj then (low y, true) else (z, ok)) := Lib.hid (by rw [hl2, getV_setC HW.out.1.rise, HW.out.2.1])
      have HSet : Hid (∀ W, Ls w2 g v l W → Calls Try.prog 11 #[.pointer (some ⟨g, 0, none⟩), .int .i64 x, .int .i64 y] W fun e w' => e = .returned (.bool r) ∧ w'.cell? ⟨b, off + j * 2, none⟩ = some (.int .i64 x) ∧ w'.cell? ⟨b, off + j * 2 + 1, none⟩ = some (.int .i64 y) ∧ Hid (Ls w2 g v l2 w')) := Lib.hid fun W h => by
        rw [hr, hl2]
        exact (h.c_set x y).mono fun e w' hh => ⟨hh.1, (HCe.out w' hh.2.1.below).1, (HCe.out w' hh.2.1.below).2, Lib.hid hh.2.1⟩
      have HLo := Lib.hid (fun W => refLow_any y W)
      have HM := Lib.hid (HW.out.2.2.next (Below.refl _ _).drew)
      obtain ⟨x0, x1⟩ := HCe.out wr HW.out.2.2.below
      have n0 : (0 : Int) ≤ (j : Int) := by omega
      have n1 : (j : Int) < (ops.length : Int) := by omega
      have HJ := Lib.hid (And.intro hlt h40)
      clear c0 c1' hb hl2 hr hj hj40 hlt h40 HW HCe
      generalize low y = q at *
      go_wp2_with fail
      go_region_held3 (fun w' => w'.cell? ⟨b, off + j * 2, none⟩ = some (.int .i64 x) ∧ w'.cell? ⟨b, off + j * 2 + 1, none⟩ = some (.int .i64 y)) (go_keep)
        (first
          | (go_at_call 11; refine (HSet.out _ ?_).mono ?_; (exact HM.out); rintro _ w' ⟨rfl, e0, e1, HM2⟩))
      clear HSet HM x0 x1
      by_cases hx : ok = true ∧ x = obj
      · have HG2 : Hid (getV l2 obj = (q, true)) := Lib.hid (by rw [HG.out, if_pos hx])
        obtain ⟨rfl, rfl⟩ := hx
        clear HG
        go_wp2_with (go_at_call 17; refine (HLo.out _).mono ?_; rintro _ _ ⟨rfl, rfl⟩)
        all_goals
          go_roundw
          case rel => exact ⟨j + 1, l2, q, by go_num, rfl, HJ.out.1, HJ.out.2, Lib.hid ⟨HV2.out, HG2.out, HM2.out⟩⟩
          case measure => have := HJ.out; simp [intOf]; omega
      · have HG2 : Hid (getV l2 obj = (z, ok)) := Lib.hid (by rw [HG.out, if_neg hx])
        clear HG
        cases ok
        case' true => have hx2 : (x == obj) = false := by simpa using hx
        all_goals
          clear hx
          go_wp2_with fail
          go_roundw
          case rel => exact ⟨j + 1, l2, z, by go_num, rfl, HJ.out.1, HJ.out.2, Lib.hid ⟨HV2.out, HG2.out, HM2.out⟩⟩
          case measure => have := HJ.out; simp [intOf]; omega
    · obtain ⟨a, a2, ha, ha2, haa⟩ : ∃ a a2 : Bool, decide (j < ops.length) = a ∧ decide ((j : Int) < 40) = a2 ∧ (a && a2) = false := ⟨_, _, rfl, rfl, by
        rw [Bool.eq_false_iff]
        intro h
        rw [Bool.and_eq_true, decide_eq_true_iff, decide_eq_true_iff] at h
        exact hlt ⟨h.1, by omega⟩⟩
      have HL2 := Lib.hid HL
      have HS := Lib.hid HW.out.2.2
      have CG := HW.out.2.2.c_get obj
      rw [HW.out.2.1] at CG
      have HCG := Lib.hid CG
      clear hlt hj hj40 HO HL HW CG HA2
      cases a
      case' true => obtain rfl : a2 = false := by simpa using haa
      all_goals
        clear haa
        go_wp2_with (first
          | (go_at_call 14; refine HCG.out.mono ?_; rintro _ w14 ⟨rfl, h14, _⟩; have H14 := Lib.hid h14; have D14 := HL2.out w14; clear h14)
          | (go_at_call 16; refine D14.out.mono ?_; rintro _ w15 ⟨rfl, hb15⟩; have H15 := Lib.hid hb15; clear hb15))
      all_goals
        go_ret
        exact ⟨by simp, HB2.out.trans ((H14.out.below.trans (H15.out.mono H14.out.below.size)).mono HB2.out.size)⟩
end Go.Proofs.Ytdmcmgcecdgegaa.cel
