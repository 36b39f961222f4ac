/-
  The program's own answer where the first object stands that may not be, and why (typed over the code of 392f5a9): for every list that an int can count. The table of names must lie where its initialiser lays it.
-/
import Derived.Test.YtaefkkhmhogpeaaDoorDOne
namespace Go.Proofs.YtaefkkhmhogpeaaDoor.objs
open Go.RowKit Go.ChangeShapes
set_option linter.unusedVariables false

/-- Between two objects. -/
structure Cs (w : World) (A : Option Addr) (l : List De) (W : World) : Prop where
  below : Below w.heap.size w W
  list : DAt W A l
  ok : Okd W
theorem Cs.next {w W W' : World} {A : Option Addr} {l : List De} (h : Cs w A l W) (hb : Below W.heap.size W W') : Cs w A l W' := ⟨h.below.trans (hb.mono h.below.size), h.list.next hb, h.ok.next hb⟩
theorem Cs.box {w W : World} {A : Option Addr} {l : List De} (h : Cs w A l W) (d : De) : Cs w A l (W.alloc (declBox d.1 d.2.1 d.2.2)) := h.next ((Below.refl _ _).alloc (Nat.le_refl _) _)
theorem box_at (W : World) (d : De) : (W.alloc (declBox d.1 d.2.1 d.2.2)).cell? ⟨W.heap.size, 0, none⟩ = some (.int .i64 d.1) ∧ (W.alloc (declBox d.1 d.2.1 d.2.2)).cell? ⟨W.heap.size, 1, none⟩ = some (.int .i64 d.2.1) ∧ (W.alloc (declBox d.1 d.2.1 d.2.2)).cell? ⟨W.heap.size, 2, none⟩ = some (.int .i64 d.2.2) := by
  unfold World.cell?
  rw [heap_alloc_new W _]
  exact ⟨rfl, rfl, rfl⟩

set_option maxHeartbeats 1000000 in
theorem check_long (A : Option Addr) (cap n : Nat) (hn : 32 < n) (w : World) :
    Calls Tryd.prog 19 #[.slice A n cap] w (ChkPost (0, 4) w) := by
  unfold ChkPost
  have hd : decide ((32 : Int) < (n : Int)) = true := by simp; omega
  clear hn
  go_enter Tryd.func19, Tryd.ntmps19
  go_wp2_with fail
  go_ret2
  exact ⟨rfl, Below.refl _ _⟩
set_option maxRecDepth 100000 in
set_option maxHeartbeats 4000000 in
theorem check_any (A : Option Addr) (cap : Nat) (l : List De) (hl : l.length ≤ 9223372036854775807) (w : World) (hA : DAt w A l) (hw : Okd w) :
    Calls Tryd.prog 19 #[.slice A l.length cap] w (ChkPost (chk l) w) := by
  by_cases h32 : 32 < l.length
  · rw [chk_long h32]
    exact check_long A cap l.length h32 w
  · obtain ⟨p, hp⟩ : ∃ p, p = chk l := ⟨_, rfl⟩
    have HP := Lib.hid hp
    rw [← hp]
    unfold ChkPost
    have hd : decide ((32 : Int) < (l.length : Int)) = false := by simp; omega
    have HC0 : Hid (Cs w A l w) := Lib.hid ⟨Below.refl _ _, hA, hw⟩
    have H32 := Lib.hid h32
    clear hA hw h32 hp
    go_enter Tryd.func19, Tryd.ntmps19
    go_wp2_with fail
    go_loopw [12] (fun i wr => ∃ j : Nat, j ≤ l.length ∧ i = .int .i64 (j : Int) ∧ Hid (j ≤ bad l) ∧ Hid (Cs w A l wr)) (fun i _ => l.length - (intOf i).toNat)
    case atStart => exact ⟨0, Nat.zero_le _, rfl, Lib.hid (Nat.zero_le _), HC0⟩
    case round =>
      obtain ⟨j, hj, rfl, HJ, HS⟩ := hrel
      by_cases hlt : j < l.length
      · have HO := fun W (hW : Cs w A l W) => Lib.hid (one_any A cap l (l.getD j zero) hl W hW.list hW.ok)
        obtain ⟨b, off, rfl, hb, c0, c1, c2⟩ := HS.out.list j hlt
        have hlt' : (j : Int) < (l.length : Int) := by omega
        unfold OnePost at HO
        have HBad := fun h => Lib.hid (chk_bad H32.out HJ.out hlt h)
        have HNx := fun h => Lib.hid (bad_next HJ.out hlt h)
        generalize l.getD j zero = d at *
        generalize one l d = q at *
        have HS1 := Lib.hid (HS.out.box d)
        have hbx := box_at wr d
        obtain ⟨k, x, y⟩ := d
        unfold declBox at HS1 hbx
        dsimp only at HO c0 c1 c2 HS1 hbx
        clear HS
        go_upto_region 6 with fail
        clear c0 c1 c2
        generalize wr.alloc (.cells #[.int .i64 k, .int .i64 x, .int .i64 y] 80) = W1 at *
        generalize wr.heap.size = g at *
        obtain ⟨c0, c1, c2⟩ := hbx
        by_cases hq : q = 0
        · subst hq
          have HE := HNx rfl
          clear HBad HNx
          go_wp2_with fail
          refine (HO _ HS1.out).out.mono ?_
          rintro e w1 ⟨rfl, hb1⟩
          have HS2 := Lib.hid (HS1.out.next hb1)
          clear hb1 c0 c1 c2
          go_wp2
          go_roundw
          case rel => exact ⟨j + 1, by omega, by go_num, HE, HS2⟩
          case measure => simp [intOf]; omega
        · have HE := HBad hq
          have hq' : ((q : Int) != 0) = true := by simpa using hq
          clear HBad HNx hq
          go_wp2_with fail
          refine (HO _ HS1.out).out.mono ?_
          rintro e w1 ⟨rfl, hb1⟩
          have HS2 := Lib.hid (HS1.out.next hb1)
          clear hb1 c0 c1 c2
          go_wp2
          go_ret2
          exact ⟨by rw [HP.out, HE.out]; rfl, HS2.out.below⟩
      · obtain rfl : j = l.length := by omega
        have HE := Lib.hid (chk_fine H32.out HJ.out)
        go_wp2_with fail
        go_ret2
        exact ⟨by rw [HP.out, HE.out]; rfl, HS.out.below⟩
end Go.Proofs.YtaefkkhmhogpeaaDoor.objs
