/-
  A clone has the same, and goes on by itself; and what is not there: the walk of CellApart. No condition.
-/
import Derived.Test.YtdmcmgcecdgegaaCePlays
namespace Go.Proofs.Ytdmcmgcecdgegaa.cel
open Go.RowKit Go.ChangeShapes
open Go.Proofs.Ytdmcmgcecdgegaa.objs (De zero DAt LIn)
open Go.Proofs.Ytdmcmgcecdgegaa.word (low)
open Go.Proofs.Ytdmcmgcecdgegaa.pol (SAt same_any)
set_option linter.unusedVariables false
set_option linter.unusedSimpArgs false

/-- Cells, and a clone apart. -/
structure Bz (w : World) (g : Nat) (v : Value) (l : List De) (g2 : Nat) (v2 : Value) (m : List De) (W : World) : Prop where
  ls : Ls w g v l W
  k : AtC W g2 v2 m
  ne : v.ownBlock ≠ some g2
  far : ∀ b, v2.ownBlock = some b → v.ownBlock ≠ some b
section
variable {w W W' : World} {g g2 : Nat} {v v2 : Value} {l l' m : List De}
theorem Bz.next (h : Bz w g v l g2 v2 m W) (hb : Below W.heap.size W W') : Bz w g v l g2 v2 m W' := ⟨h.ls.next hb, h.k.next hb, h.ne, h.far⟩
theorem Bz.c_set (h : Bz w g v l g2 v2 m W) (obj x : Int) : Calls Try.prog 11 #[.pointer (some ⟨g, 0, none⟩), .int .i64 obj, .int .i64 x] W fun e w' => e = .returned (.bool (getV l obj).2) ∧ Bz w g v (setC l obj x) g2 v2 m w' :=
  (h.ls.c_set obj x).mono fun _ _ hh => ⟨hh.1, hh.2.1, h.k.keep (hh.2.2.block _ h.k.lt.1 h.ne) (fun b e => hh.2.2.block b (h.k.lt.2 b e) (h.far b e)), h.ne, h.far⟩
theorem Bz.clone (h : Ls w g v l W) : Calls Try.prog 18 #[.pointer (some ⟨g, 0, none⟩)] W fun e w' => ∃ g2 v2, e = .returned (.pointer (some ⟨g2, 0, none⟩)) ∧ Bz w g v l g2 v2 l w' :=
  (clone_any W g v l h.at_).mono fun e w' hh => by
    obtain ⟨g2, v2, rfl, h1, h2, h3, h4⟩ := hh
    refine ⟨g2, v2, rfl, h.next h2, h1, fun e => ?_, fun b e e2 => ?_⟩
    · have := h.at_.lt.2 _ e
      omega
    · have := h.at_.lt.2 _ e2
      have := h4 b e
      omega
end
set_option maxRecDepth 100000 in
set_option maxHeartbeats 8000000 in
theorem apart_walk (A : Option Addr) (n cap : Nat) (d : List De) (A' : Option Addr) (cap' : Nat) (ops : List (Int × Int)) (obj : Int) (w : World) (hI : LIn w A n cap d) (ho : OpsAt w A' ops) (hl : ops.length ≤ 9223372036854775807) :
    Calls Try.prog 5 #[.slice A n cap, .slice A' ops.length cap', .int .i64 obj] w fun e w' => e = .returned (.bool true) ∧ Below w.heap.size w w' := by
  have HF := fun W A n cap d (h : LIn W A n cap d) => Lib.hid (few22_any W A n cap d h)
  have HF1 := HF w A n cap d hI
  have HL := fun W => Lib.hid (lives_any W)
  have HO := Lib.hid ho
  have hd4 : (d.take 60).length ≤ 4096 := by rw [List.length_take]; omega
  have HF2 := fun W A n cap (h : LIn W A n cap (d.take 60)) => HF W A n cap (d.take 60) h
  rw [take60] at HF2
  generalize d.take 60 = d1 at *
  have HD4 := Lib.hid hd4
  have HN := fun W A2 c2 h => Lib.hid (new_any W A2 c2 d1 h HD4.out)
  have HR := fun W A1 c1 h => Lib.hid (refNew22_any W A1 c1 d1 h HD4.out)
  have HI0 := Lib.hid (Inv.new hd4)
  generalize cellsOf 0 d1 = l0 at *
  clear HF hI ho hd4
  go_enter Try.func5, Try.ntmps5
  go_wp2_with fail
  refine HF1.out.mono ?_
  rintro _ w1 ⟨A1, c1, rfl, hI1, hb1⟩
  have HB1 := Lib.hid hb1
  have HA1 := Lib.hid hI1.2.2.2.1
  have D := HF2 _ _ _ _ hI1
  clear HF1 hI1 hb1
  go_wp2_with fail
  refine D.out.mono ?_
  rintro _ w2 ⟨A2, c2, rfl, hI2, hb2⟩
  have HB2 := Lib.hid (HB1.out.trans (hb2.mono HB1.out.size))
  have HA2 := Lib.hid (HA1.out.next hb2)
  have D := HN _ _ c2 hI2.2.2.2.1
  clear HF2 hI2 hb2 HN
  go_wp2_with fail
  refine D.out.mono ?_
  intro e w3 hh
  obtain ⟨g, v, rfl, h⟩ := ls_made hh
  have H3 := Lib.hid h
  have CC := Lib.hid (Bz.clone H3.out)
  clear hh h D
  go_wp2_with fail
  refine CC.out.mono ?_
  rintro _ w4 ⟨g2, v2, rfl, h4⟩
  have H4 := Lib.hid h4
  clear h4 CC H3
  go_wp2_with fail
  go_loopw [9] (fun s9 wr => ∃ (j : Nat) (l : List De), s9 = .int .i64 (j : Int) ∧ j ≤ ops.length ∧ j ≤ 40 ∧ Hid (Bz w2 g v l g2 v2 l0 wr)) (fun s9 _ => ops.length - (intOf s9).toNat)
  case atStart => exact ⟨0, l0, rfl, Nat.zero_le _, Nat.zero_le _, H4⟩
  case round =>
    obtain ⟨j, l, rfl, hj, hj40, HW⟩ := hrel
    clear H4
    by_cases hlt : j < ops.length ∧ j < 40
    · obtain ⟨hlt, h40⟩ := hlt
      have d1' : decide (j < ops.length) = true := decide_eq_true hlt
      have d2 : decide ((j : Int) < 40) = true := by simp; omega
      obtain ⟨b, off, rfl, hb, c0, c1'⟩ := HO.out j hlt
      generalize ops.getD j (0, 0) = o at *
      obtain ⟨x, y⟩ := o
      dsimp only at c0 c1'
      have HCe : Hid (∀ W, Below w2.heap.size w2 W → W.cell? ⟨b, off + j * 2, none⟩ = some (.int .i64 x) ∧ W.cell? ⟨b, off + j * 2 + 1, none⟩ = some (.int .i64 y)) := Lib.hid fun W h =>
        have h2 := HB2.out.trans (h.mono HB2.out.size)
        ⟨(h2.cell (p := ⟨b, off + j * 2, none⟩) hb).trans c0, (h2.cell (p := ⟨b, off + j * 2 + 1, none⟩) hb).trans c1'⟩
      have HSet : Hid (∀ W, Bz w2 g v l g2 v2 l0 W → Calls Try.prog 11 #[.pointer (some ⟨g, 0, none⟩), .int .i64 x, .int .i64 y] W fun e w' => (∃ r, e = .returned (.bool r)) ∧ w'.cell? ⟨b, off + j * 2, none⟩ = some (.int .i64 x) ∧ w'.cell? ⟨b, off + j * 2 + 1, none⟩ = some (.int .i64 y) ∧ Hid (Bz w2 g v (setC l x y) g2 v2 l0 w')) := Lib.hid fun W h =>
        (h.c_set x y).mono fun e w' hh => ⟨⟨_, hh.1⟩, (HCe.out w' hh.2.ls.below).1, (HCe.out w' hh.2.ls.below).2, Lib.hid hh.2⟩
      have HM := Lib.hid (HW.out.next (Below.refl _ _).drew)
      obtain ⟨x0, x1⟩ := HCe.out wr HW.out.ls.below
      have n0 : (0 : Int) ≤ (j : Int) := by omega
      have n1 : (j : Int) < (ops.length : Int) := by omega
      have HJ := Lib.hid (And.intro hlt h40)
      clear c0 c1' hb hj hj40 hlt h40 HW HCe
      go_wp2_with fail
      go_region_held3 (fun w' => w'.cell? ⟨b, off + j * 2, none⟩ = some (.int .i64 x) ∧ w'.cell? ⟨b, off + j * 2 + 1, none⟩ = some (.int .i64 y)) (go_keep)
        (first
          | (go_at_call 11; refine (HSet.out _ ?_).mono ?_; (exact HM.out); rintro _ w' ⟨⟨r, rfl⟩, e0, e1, HM2⟩))
      clear HSet HM x0 x1 e0 e1
      go_wp2_with fail
      go_roundw
      case rel => exact ⟨j + 1, _, by go_num, HJ.out.1, HJ.out.2, HM2⟩
      case measure => have := HJ.out; simp [intOf]; omega
    · obtain ⟨a, a2, ha, ha2, haa⟩ : ∃ a a2 : Bool, decide (j < ops.length) = a ∧ decide ((j : Int) < 40) = a2 ∧ (a && a2) = false := ⟨_, _, rfl, rfl, by
        rw [Bool.eq_false_iff]
        intro h
        rw [Bool.and_eq_true, decide_eq_true_iff, decide_eq_true_iff] at h
        exact hlt ⟨h.1, by omega⟩⟩
      have HL2 := Lib.hid HL
      have CK : Hid (Calls Try.prog 10 #[.pointer (some ⟨g2, 0, none⟩)] wr fun e w' => ∃ A c, e = .returned (.slice A l0.length c) ∧ Hid (Ls w2 g v l w' ∧ SAt w' (fun _ => True) A (vals l0))) := Lib.hid ((all_any wr g2 v2 l0 HW.out.k).mono fun e w' hh => by
        obtain ⟨A, c, rfl, h1, h2⟩ := hh
        rw [vals_length]
        exact ⟨A, c, rfl, Lib.hid ⟨HW.out.ls.next h2, h1.base fun _ _ _ => trivial⟩⟩)
      have HRf : Hid (∀ W A4, Ls w2 g v l W ∧ SAt W (fun _ => True) A4 (vals l0) → Calls Try.prog 8 #[.slice A1 d1.length c1] W fun e w' => ∃ A5 c5, e = .returned (.slice A5 l0.length c5) ∧ Hid (Ls w2 g v l w' ∧ SAt w' (fun _ => True) A4 (vals l0) ∧ pol.Own w' W.heap.size (.slice A5 l0.length c5) (vals l0))) := Lib.hid fun W A4 h =>
        (HR W A1 c1 (HA2.out.next h.1.below)).out.mono fun e w' hh => by
          obtain ⟨v', rfl, h1, h2⟩ := hh
          obtain ⟨A, c, rfl⟩ := h1.slice
          rw [vals_length] at h1 ⊢
          exact ⟨A, c, rfl, Lib.hid ⟨h.1.next h2, h.2.next h2, h1⟩⟩
      have HSm : Hid (∀ W A4 c4 A5 c5 B, Ls w2 g v l W ∧ SAt W (fun _ => True) A4 (vals l0) ∧ pol.Own W B (.slice A5 l0.length c5) (vals l0) → Calls Try.prog 9 #[.slice A4 l0.length c4, .slice A5 l0.length c5] W fun e w' => e = .returned (.bool true) ∧ Ls w2 g v l w') := Lib.hid fun W A4 c4 A5 c5 B h => by
        have h1 := same_any A4 A5 c4 c5 (vals l0) (by rw [vals_length]; exact HI0.out.len) W _ _ h.2.1 h.2.2.at
        rw [vals_length] at h1
        exact h1.mono fun _ _ hh => ⟨hh.1, h.1.next hh.2⟩
      clear hlt hj hj40 HO HL HW HA2 HR HI0
      cases a
      case' true => obtain rfl : a2 = false := by simpa using haa
      all_goals
        clear haa
        go_wp2_with (first
          | (go_at_call 14; refine (get_nil obj _).mono ?_; rintro _ _ ⟨rfl, rfl⟩)
          | (go_at_call_of 10 (g2); refine CK.out.mono ?_; rintro _ w12 ⟨A4, c4, rfl, H12⟩)
          | (go_at_call 8; refine (HRf.out _ _ H12.out).mono ?_; rintro _ w13 ⟨A5, c5, rfl, H13⟩)
          | (go_at_call 9; refine (HSm.out _ _ c4 _ c5 _ H13.out).mono ?_; rintro _ w14 ⟨rfl, h14⟩; have H14 := Lib.hid h14; have D14 := HL2.out w14; clear h14)
          | (go_at_call 11; refine (set_nil obj 1 _).mono ?_; rintro _ _ ⟨rfl, rfl⟩)
          | (go_at_call 15; refine (guard_nil obj _).mono ?_; rintro _ _ ⟨rfl, rfl⟩)
          | (go_at_call 10; refine (all_nil _).mono ?_; rintro _ _ ⟨rfl, rfl⟩)
          | (go_at_call 18; refine (clone_nil _).mono ?_; rintro _ _ ⟨rfl, rfl⟩)
          | (go_at_call 16; refine D14.out.mono ?_; rintro _ w15 ⟨rfl, hb15⟩; have H15 := Lib.hid hb15; clear hb15))
      all_goals
        go_ret
        exact ⟨by simp, HB2.out.trans ((H14.out.below.trans (H15.out.mono H14.out.below.size)).mono HB2.out.size)⟩
end Go.Proofs.Ytdmcmgcecdgegaa.cel
