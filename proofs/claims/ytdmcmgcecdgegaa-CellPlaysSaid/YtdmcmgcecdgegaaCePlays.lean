/-
  What each cell is, behind any settings, and what guards it: the walk of CellPlays. No condition.
-/
import Derived.Test.YtdmcmgcecdgegaaCeTwo
import Derived.LoopTactic
import Derived.Deep.DeepCutAuto
import Derived.Deep.RegionHeld3
import Derived.BigQuiet
namespace Go.Proofs.Ytdmcmgcecdgegaa.cel
open Go.RowKit Go.ChangeShapes
open Go.Proofs.Ytdmcmgcecdgegaa.objs (De zero DAt LIn)
open Go.Proofs.Ytdmcmgcecdgegaa.word (low)
open Go.Proofs.Ytdmcmgcecdgegaa.pol (SAt)
set_option linter.unusedVariables false
set_option linter.unusedSimpArgs false

/-- What holds of the cells of objects behind any settings. -/
structure Inv (d l : List De) : Prop where
  rise : Rising l
  len : l.length ≤ 4096
  guards : ∀ obj k, Stands l obj k → 0 ≤ obj ∧ obj.toNat < d.length ∧ (l.getD k zero).2.2 = (d.getD obj.toNat zero).2.2
theorem Inv.new {d : List De} (hd : d.length ≤ 4096) : Inv d (cellsOf 0 d) := ⟨cellsOf_rising d 0, Nat.le_trans (cellsOf_length d 0) hd, fun _ _ h => guard_declared h⟩
theorem Inv.set {d l : List De} (h : Inv d l) (obj x : Int) : Inv d (setC l obj x) := by
  refine ⟨setC_rising h.rise _ _, by rw [setC_length]; exact h.len, fun o k hk => ?_⟩
  unfold Stands at hk
  rw [setC_length, setC_obj] at hk
  rw [setC_guard]
  exact h.guards o k hk
/-- The beginning of each statement: two copies, and the cells of one. -/
theorem take60 (d : List De) : (d.take 60).take 60 = d.take 60 := by rw [List.take_take]; rfl

set_option maxRecDepth 100000 in
set_option maxHeartbeats 8000000 in
theorem plays_walk (A : Option Addr) (n cap : Nat) (d : List De) (A' : Option Addr) (cap' : Nat) (ops : List (Int × Int)) (obj : Int) (w : World) (hI : LIn w A n cap d) (ho : OpsAt w A' ops) (hl : ops.length ≤ 9223372036854775807) :
    Calls Try.prog 3 #[.slice A n cap, .slice A' ops.length cap', .int .i64 obj] w fun e w' => e = .returned (.bool true) ∧ Below w.heap.size w w' := by
  have HF := fun W A n cap d (h : LIn W A n cap d) => Lib.hid (few22_any W A n cap d h)
  have HF1 := HF w A n cap d hI
  have HL := fun W => Lib.hid (lives_any W)
  have HO := Lib.hid ho
  have hd4 : (d.take 60).length ≤ 4096 := by rw [List.length_take]; omega
  have HF2 := fun W A n cap (h : LIn W A n cap (d.take 60)) => HF W A n cap (d.take 60) h
  rw [take60] at HF2
  generalize d.take 60 = d1 at *
  have HD4 := Lib.hid hd4
  have HN := fun W A2 c2 h => Lib.hid (new_any W A2 c2 d1 h HD4.out)
  have HR := fun W A1 c1 h => Lib.hid (refNew22_any W A1 c1 d1 h HD4.out)
  have HI0 := Lib.hid (Inv.new hd4)
  generalize cellsOf 0 d1 = l0 at *
  clear HF hI ho hd4
  go_enter Try.func3, Try.ntmps3
  go_wp2_with fail
  refine HF1.out.mono ?_
  rintro _ w1 ⟨A1, c1, rfl, hI1, hb1⟩
  have HB1 := Lib.hid hb1
  have HA1 := Lib.hid hI1.2.2.2.1
  have D := HF2 _ _ _ _ hI1
  clear HF1 hI1 hb1
  go_wp2_with fail
  refine D.out.mono ?_
  rintro _ w2 ⟨A2, c2, rfl, hI2, hb2⟩
  have HB2 := Lib.hid (HB1.out.trans (hb2.mono HB1.out.size))
  have HA2 := Lib.hid (HA1.out.next hb2)
  have D := HN _ _ c2 hI2.2.2.2.1
  clear HF2 hI2 hb2 HN
  go_wp2_with fail
  refine D.out.mono ?_
  intro e w3 hh
  obtain ⟨g, v, rfl, h⟩ := ls_made hh
  have H3 := Lib.hid h
  have D := HR _ _ c1 (HA2.out.next h.below)
  clear hh h HR
  go_wp2_with fail
  refine D.out.mono ?_
  rintro _ w4 ⟨vx, rfl, hx, hb⟩
  obtain ⟨A3, c3, rfl⟩ := hx.slice
  have H4 : Hid (Cz w2 g v l0 (.slice A3 l0.length c3) l0 w4) := Lib.hid ⟨H3.out.next hb, by
    rw [vals_length] at hx
    exact ⟨hx.1, hx.2.imp id fun ⟨g, cap, cur, e, hb, r⟩ => ⟨g, cap, cur, e, Nat.zero_le _, r⟩⟩⟩
  rw [vals_length]
  have CA := Lib.hid H4.out.c_all
  clear D hx hb H3 H4
  go_wp2_with (first
    | (go_at_call 10; refine CA.out.mono ?_; rintro _ w5 ⟨A4, c4, rfl, h5, hs⟩; have H5 := Lib.hid (And.intro h5 hs); clear h5 hs)
    | (go_at_call 9; refine (H5.out.1.c_same _ A4 c4 H5.out.2).mono ?_; rintro _ w6 ⟨rfl, h6⟩; have H6 := Lib.hid h6; clear h6))
  clear CA H5
  have H7 : Hid (Inv d1 l0 ∧ Cz w2 g v l0 (.slice A3 l0.length c3) l0 w6) := Lib.hid ⟨HI0.out, H6.out⟩
  clear HI0 H6
  go_loopw [8, 9] (fun s8 s9 wr => ∃ (j : Nat) (l : List De) (A5 : Option Addr) (c5 : Nat), s9 = .int .i64 (j : Int) ∧ s8 = .slice A5 l.length c5 ∧ j ≤ ops.length ∧ j ≤ 40 ∧ Hid (Inv d1 l ∧ Cz w2 g v l (.slice A5 l.length c5) l wr)) (fun _ s9 _ => ops.length - (intOf s9).toNat)
  case atStart => exact ⟨0, l0, A3, c3, rfl, rfl, Nat.zero_le _, Nat.zero_le _, H7⟩
  case round =>
    obtain ⟨j, l, A5, c5, rfl, rfl, hj, hj40, HW⟩ := hrel
    clear H7
    by_cases hlt : j < ops.length ∧ j < 40
    · obtain ⟨hlt, h40⟩ := hlt
      have d1' : decide (j < ops.length) = true := decide_eq_true hlt
      have d2 : decide ((j : Int) < 40) = true := by simp; omega
      obtain ⟨b, off, rfl, hb, c0, c1'⟩ := HO.out j hlt
      generalize ops.getD j (0, 0) = o at *
      obtain ⟨x, y⟩ := o
      dsimp only at c0 c1'
      have HCe : Hid (∀ W, Below w2.heap.size w2 W → W.cell? ⟨b, off + j * 2, none⟩ = some (.int .i64 x) ∧ W.cell? ⟨b, off + j * 2 + 1, none⟩ = some (.int .i64 y)) := Lib.hid fun W h =>
        have h2 := HB2.out.trans (h.mono HB2.out.size)
        ⟨(h2.cell (p := ⟨b, off + j * 2, none⟩) hb).trans c0, (h2.cell (p := ⟨b, off + j * 2 + 1, none⟩) hb).trans c1'⟩
      obtain ⟨l2, hl2⟩ : ∃ l2, l2 = setC l x y := ⟨_, rfl⟩
      obtain ⟨r, hr⟩ : ∃ r, r = (getV l x).2 := ⟨_, rfl⟩
      obtain ⟨q, hq⟩ : ∃ q, q = posV l x := ⟨_, rfl⟩
      have p1 : decide (q ≥ 0) = r := by rw [hq, hr]; exact pos_yes HW.out.1.rise x
      have p2 : decide (0 ≤ q) = r := p1
      have HV2 : Hid (Inv d1 l2) := Lib.hid (by rw [hl2]; exact HW.out.1.set x y)
      have HSet : Hid (∀ W, Cz w2 g v l (.slice A5 l.length c5) l W → Calls Try.prog 11 #[.pointer (some ⟨g, 0, none⟩), .int .i64 x, .int .i64 y] W fun e w' => e = .returned (.bool r) ∧ w'.cell? ⟨b, off + j * 2, none⟩ = some (.int .i64 x) ∧ w'.cell? ⟨b, off + j * 2 + 1, none⟩ = some (.int .i64 y) ∧ Hid (Cz w2 g v l2 (.slice A5 l.length c5) l w')) := Lib.hid fun W h => by
        rw [hr, hl2]
        exact (h.c_set x y).mono fun e w' hh => ⟨hh.1, (HCe.out w' hh.2.ls.below).1, (HCe.out w' hh.2.ls.below).2, Lib.hid hh.2⟩
      have HFind : Hid (∀ W, Hid (Cz w2 g v l2 (.slice A5 l.length c5) l W) → Calls Try.prog 12 #[.slice A5 l.length c5, .int .i64 x] W fun e w' => e = .returned (.int .i64 q) ∧ W = w') := Lib.hid fun W h => by
        rw [hq]
        exact h.out.c_find HW.out.1.rise HW.out.1.len x
      have HRs : Hid (∀ W, Hid (Cz w2 g v l2 (.slice A5 l.length c5) l W) → Calls Try.prog 13 #[.slice A5 l.length c5, .int .i64 x, .int .i64 y] W fun e w' => ∃ A6 c6, e = .returned (.slice A6 l2.length c6) ∧ w'.cell? ⟨b, off + j * 2, none⟩ = some (.int .i64 x) ∧ w'.cell? ⟨b, off + j * 2 + 1, none⟩ = some (.int .i64 y) ∧ Hid (Cz w2 g v l2 (.slice A6 l2.length c6) l2 w')) := Lib.hid fun W h => by
        refine (h.out.c_rset HW.out.1.rise HW.out.1.len x y).mono fun e w' hh => ?_
        obtain ⟨A6, c6, h1, h2⟩ := hh
        rw [← hl2] at h1 h2
        exact ⟨A6, c6, h1, (HCe.out w' h2.ls.below).1, (HCe.out w' h2.ls.below).2, Lib.hid h2⟩
      have HM := Lib.hid (HW.out.2.next (Below.refl _ _).drew)
      obtain ⟨x0, x1⟩ := HCe.out wr HW.out.2.ls.below
      have n0 : (0 : Int) ≤ (j : Int) := by omega
      have n1 : (j : Int) < (ops.length : Int) := by omega
      have HJ := Lib.hid (And.intro hlt h40)
      clear c0 c1' hb hl2 hr hq hj hj40 hlt h40 HW HCe
      go_wp2_with fail
      go_region_held3 (fun w' => w'.cell? ⟨b, off + j * 2, none⟩ = some (.int .i64 x) ∧ w'.cell? ⟨b, off + j * 2 + 1, none⟩ = some (.int .i64 y)) (go_keep)
        (first
          | (go_at_call 11; refine (HSet.out _ ?_).mono ?_; (exact HM.out); rintro _ w' ⟨rfl, e0, e1, HM2⟩)
          | (go_at_call 12; refine (HFind.out _ ?_).mono ?_; (exact HM2); rintro _ _ ⟨rfl, rfl⟩))
      clear HSet HFind HM x0 x1 p1 p2
      have HM := Lib.hid (HM2.out.next (Below.refl _ _).drew)
      go_wp2_with fail
      go_region_held3 (fun w' => w'.cell? ⟨b, off + j * 2, none⟩ = some (.int .i64 x) ∧ w'.cell? ⟨b, off + j * 2 + 1, none⟩ = some (.int .i64 y)) (go_keep)
        (first
          | (go_at_call 13; refine (HRs.out _ ?_).mono ?_; (exact HM); rintro _ w9 ⟨A6, c6, rfl, f0, f1, HM3⟩))
      have CA := Lib.hid HM3.out.c_all
      clear HRs HM HM2 e0 e1 f0 f1
      go_wp2_with (first
        | (go_at_call 10; refine CA.out.mono ?_; rintro _ w10 ⟨A7, c7, rfl, h5, hs⟩; have H5 := Lib.hid (And.intro h5 hs); clear h5 hs)
        | (go_at_call 9; refine (H5.out.1.c_same _ A7 c7 H5.out.2).mono ?_; rintro _ w11 ⟨rfl, h6⟩; have H6 := Lib.hid h6; clear h6))
      have H7 : Hid (Inv d1 l2 ∧ Cz w2 g v l2 (.slice A6 l2.length c6) l2 w11) := Lib.hid ⟨HV2.out, H6.out⟩
      clear CA H5 HM3 HV2 H6
      go_roundw
      case rel => exact ⟨j + 1, l2, A6, c6, by go_num, rfl, HJ.out.1, HJ.out.2, H7⟩
      case measure => have := HJ.out; simp [intOf]; omega
    · obtain ⟨a, a2, ha, ha2, haa⟩ : ∃ a a2 : Bool, decide (j < ops.length) = a ∧ decide ((j : Int) < 40) = a2 ∧ (a && a2) = false := ⟨_, _, rfl, rfl, by
        rw [Bool.eq_false_iff]
        intro h
        rw [Bool.and_eq_true, decide_eq_true_iff, decide_eq_true_iff] at h
        exact hlt ⟨h.1, by omega⟩⟩
      have HL2 := Lib.hid HL
      clear hlt hj hj40 HO HL
      rcases stands_or obj l with ⟨k, hk⟩ | hk
      · obtain ⟨h0, ht, hgd⟩ := HW.out.1.guards obj k hk
        obtain ⟨t, rfl⟩ : ∃ t : Nat, obj = (t : Int) := ⟨obj.toNat, by omega⟩
        rw [Int.toNat_natCast] at ht hgd
        obtain ⟨b, off, rfl, hbl, _, _, c2⟩ := (HA2.out.next HW.out.2.ls.below) t ht
        obtain ⟨b5, off5, rfl, _, hbl5, _, c3⟩ := HW.out.2.x.at k (by rw [vals_length]; exact hk.1)
        rw [vals_at hk.1] at c3
        dsimp only at c3
        rw [← hgd] at c2
        have CG := HW.out.2.ls.c_get (t : Int)
        rw [getV_stands HW.out.1.rise hk] at CG
        have CF := fun W (h : Cz w2 g v l (.slice (some ⟨b5, off5, none⟩) l.length c5) l W) => Lib.hid (h.c_find HW.out.1.rise HW.out.1.len (t : Int))
        rw [posV_stands HW.out.1.rise hk] at CF
        have CU := fun W (h : Cz w2 g v l (.slice (some ⟨b5, off5, none⟩) l.length c5) l W) => Lib.hid (h.ls.c_guard (t : Int))
        rw [guardV_stands HW.out.1.rise hk] at CU
        have hk1 := hk.1
        generalize (l.getD k zero).2.2 = gd at *
        generalize (l.getD k zero).2.1 = vl at *
        have HCG := Lib.hid CG
        have HQ : Hid (∀ W, Below wr.heap.size wr W → W.cell? ⟨b, off + t * 3 + 2, none⟩ = some (.int .i64 gd) ∧ W.cell? ⟨b5, off5 + k * 2 + 1, none⟩ = some (.int .i64 vl)) := Lib.hid fun W h => ⟨(h.cell (p := ⟨b, off + t * 3 + 2, none⟩) hbl).trans c2, (h.cell (p := ⟨b5, off5 + k * 2 + 1, none⟩) hbl5).trans c3⟩
        have HC := Lib.hid HW.out.2
        have k0 : (0 : Int) ≤ (t : Int) := by omega
        have k1 : (t : Int) < (d1.length : Int) := by omega
        have k2 : (0 : Int) ≤ (k : Int) := by omega
        have k3 : (k : Int) < (l.length : Int) := by omega
        clear HW c2 c3 CG hbl hbl5 h0 hgd hk ht hk1
        cases a
        case' true => obtain rfl : a2 = false := by simpa using haa
        all_goals
          clear haa
          go_wp2_with (first
            | (go_at_call 14; refine HCG.out.mono ?_; rintro _ w12 ⟨rfl, h12, hb12⟩; obtain ⟨q0, q1⟩ := HQ.out w12 hb12; have H12 := Lib.hid (HC.out.next hb12); have D12 := CF w12 H12.out; clear h12 hb12)
            | (go_at_call 12; refine D12.out.mono ?_; rintro _ _ ⟨rfl, rfl⟩))
        all_goals
          clear CF HQ HCG D12 HC HA2
          go_quiet (fail)
          have H13 : Hid (∀ q, Cz w2 g v l (.slice (some ⟨b5, off5, none⟩) l.length c5) l (w12.drewN q)) := Lib.hid fun q => H12.out.next (pol.below_drewN (Below.refl _ _) q)
          clear H12 q0 q1
          go_wp2_with (first
            | (go_at_call 15; refine (CU _ (H13.out _)).out.mono ?_; rintro _ w14 ⟨rfl, h14, _⟩; have H14 := Lib.hid h14; have D14 := HL2.out w14; clear h14)
            | (go_at_call 16; refine D14.out.mono ?_; rintro _ w15 ⟨rfl, hb15⟩; have H15 := Lib.hid hb15; clear hb15))
          go_ret
          exact ⟨by simp, HB2.out.trans ((H14.out.below.trans (H15.out.mono H14.out.below.size)).mono HB2.out.size)⟩
      · have CG := HW.out.2.ls.c_get obj
        rw [getV_lacks hk] at CG
        have CF := fun W (h : Cz w2 g v l (.slice A5 l.length c5) l W) => Lib.hid (h.c_find HW.out.1.rise HW.out.1.len obj)
        rw [posV_lacks hk] at CF
        have CU := fun W (h : Cz w2 g v l (.slice A5 l.length c5) l W) => Lib.hid (h.ls.c_guard obj)
        rw [guardV_lacks hk] at CU
        have HCG := Lib.hid CG
        have HC := Lib.hid HW.out.2
        clear HW CG hk HA2
        cases a
        case' true => obtain rfl : a2 = false := by simpa using haa
        all_goals
          clear haa
          go_wp2_with (first
            | (go_at_call 14; refine HCG.out.mono ?_; rintro _ w12 ⟨rfl, h12, hb12⟩; have H12 := Lib.hid (HC.out.next hb12); have D12 := CF w12 H12.out; clear h12 hb12)
            | (go_at_call 12; refine D12.out.mono ?_; rintro _ _ ⟨rfl, rfl⟩)
            | (go_at_call 15; refine (CU _ H12.out).out.mono ?_; rintro _ w14 ⟨rfl, h14, _⟩; have H14 := Lib.hid h14; have D14 := HL2.out w14; clear h14)
            | (go_at_call 16; refine D14.out.mono ?_; rintro _ w15 ⟨rfl, hb15⟩; have H15 := Lib.hid hb15; clear hb15))
        all_goals
          go_ret
          exact ⟨by simp, HB2.out.trans ((H14.out.below.trans (H15.out.mono H14.out.below.size)).mono HB2.out.size)⟩
end Go.Proofs.Ytdmcmgcecdgegaa.cel
