/-
  Texts of one claim in one file: ERefOne, ETab, DBox, InText, EGetOne. Each has its own sentence, with its conditions.
-/
import Derived.Test.YtfkcmdnnmnkklaaDoorEall4
import Derived.Test.YtfkcmdnnmnkklaaDoorEall5
import Derived.Test.YtfkcmdnnmnkklaaDoorEall3
import Derived.Lib.LaidTab
import Derived.Lib.ItoaNum
import Derived.WalkSmall
import Derived.Lib.Strings
import Derived.Lib.Walk
import Derived.Lib.BufferWrite
import Derived.Lib.UnsafeStr
import Derived.Laws.MakeOwn
/-
  The document's own answer what is wrong with a need. No condition but that a list is no longer than an int can say.
-/
namespace Go.Proofs.YtfkcmdnnmnkklaaDoor.need
open Go.RowKit Go.ChangeShapes
open Go.Proofs.YtfkcmdnnmnkklaaDoor.objs (De zero CellsAt DAt below_drewN)
set_option linter.unusedVariables false

theorem ret_int {k : IntKind} {a b : Int} (h : a = b) : Ending.returned (.int k a) = .returned (.int k b) := by rw [h]
def needBox (k o m : Int) : Obj := .cells #[.int .i64 k, .int .i64 o, .int .i64 m] 59
def kindBox : Obj := .cells #[.int .i64 0, .int .i64 1, .int .i64 2, .int .i64 2, .int .i64 3, .int .i64 6] 3
/-- What 'one' answers. -/
def OnePost9 (d : List De) (n : De) (w : World) (e : Ending) (w' : World) : Prop := e = .returned (.int .i64 (oneN d n : Nat)) ∧ Below w.heap.size w w'
theorem nbox_below (w : World) (k a b : Int) : Below w.heap.size w (w.alloc (needBox k a b)) := (Below.refl _ w).alloc (Nat.le_refl _) _

set_option maxHeartbeats 1000000 in
theorem refOne9_6 (A : Option Addr) (cap : Nat) (d : List De) (k a b : Int) (h : k < 1 ∨ 5 < k) (w : World) :
    Calls Tryd.prog 29 #[.slice A d.length cap, .agg #[.int .i64 k, .int .i64 a, .int .i64 b]] w (OnePost9 d (k, a, b) w) := by
  have HV : Hid (oneN d (k, a, b) = 6) := Lib.hid (by unfold oneN; rw [if_pos h])
  have HB := Lib.hid (nbox_below w k a b)
  unfold OnePost9
  rw [HV.out]
  by_cases h1 : k < 1
  · have hd : decide (k < 1) = true := by simpa using h1
    clear h
    go_enter Tryd.func29, Tryd.ntmps29
    go_wp2_with fail
    go_ret
    exact ⟨rfl, HB.out⟩
  · have hd : decide (k < 1) = false := by simpa using h1
    have hd2 : decide (5 < k) = true := by simp; omega
    clear h h1
    go_enter Tryd.func29, Tryd.ntmps29
    go_wp2_with fail
    go_ret
    exact ⟨rfl, HB.out⟩

/-- Behind the list of kinds. -/
structure Os (w : World) (A : Option Addr) (d : List De) (g g2 : Nat) (k a b : Int) (W : World) : Prop where
  below : Below w.heap.size w W
  box : W.cell? ⟨g, 0, none⟩ = some (.int .i64 k) ∧ W.cell? ⟨g, 1, none⟩ = some (.int .i64 a) ∧ W.cell? ⟨g, 2, none⟩ = some (.int .i64 b)
  kinds : ∀ j : Nat, 1 ≤ j → j ≤ 5 → W.cell? ⟨g2, j, none⟩ = some (.int .i64 (kn j))
  list : DAt W A d
theorem os_new {w : World} {A : Option Addr} {d : List De} (k a b : Int) (hA : DAt w A d) : Os w A d w.heap.size (w.heap.size + 1) k a b ((w.alloc (needBox k a b)).alloc kindBox) := by
  have hz : (w.alloc (needBox k a b)).heap.size = w.heap.size + 1 := World.size_alloc w _
  have hb : Below w.heap.size w ((w.alloc (needBox k a b)).alloc kindBox) := ((Below.refl _ w).alloc (Nat.le_refl _) _).alloc (by omega) _
  have h0 : ((w.alloc (needBox k a b)).alloc kindBox).heap[w.heap.size]? = some (needBox k a b) := (Below.heap_alloc _ _ _ (by omega)).trans (heap_alloc_new w _)
  have h1 : ((w.alloc (needBox k a b)).alloc kindBox).heap[w.heap.size + 1]? = some kindBox := by rw [← hz]; exact heap_alloc_new _ _
  refine ⟨hb, ?_, fun j h2 h3 => ?_, hA.next hb⟩
  · unfold World.cell?
    rw [h0]
    exact ⟨rfl, rfl, rfl⟩
  · unfold World.cell?
    rw [h1]
    rcases (by omega : j = 1 ∨ j = 2 ∨ j = 3 ∨ j = 4 ∨ j = 5) with rfl | rfl | rfl | rfl | rfl <;> rfl

set_option maxRecDepth 100000 in
set_option maxHeartbeats 2000000 in
theorem refOne9_out (A : Option Addr) (cap : Nat) (d : List De) (kk : Nat) (a b : Int) (h1 : 1 ≤ kk) (h5 : kk ≤ 5) (ho : a < 0 ∨ (d.length : Int) ≤ a) (w : World) (hA : DAt w A d) :
    Calls Tryd.prog 29 #[.slice A d.length cap, .agg #[.int .i64 (kk : Int), .int .i64 a, .int .i64 b]] w (OnePost9 d ((kk : Int), a, b) w) := by
  have HV : Hid (oneN d ((kk : Int), a, b) = 1) := Lib.hid (by unfold oneN; dsimp only; rw [if_neg (by omega), if_pos (by rcases ho with h | h; exact .inl h; exact .inr (.inl h))])
  have HO := Lib.hid (os_new (kk : Int) a b hA)
  unfold OnePost9
  rw [HV.out]
  have d1 : decide ((kk : Int) < 1) = false := by simp; omega
  have d5 : decide (5 < (kk : Int)) = false := by simp; omega
  unfold needBox kindBox at HO
  clear hA h1 h5
  by_cases h0 : a < 0
  · have d0 : decide (a < 0) = true := by simpa using h0
    clear ho h0
    go_enter Tryd.func29, Tryd.ntmps29
    go_upto_region 4 with fail
    generalize (w.alloc (.cells #[.int .i64 (kk : Int), .int .i64 a, .int .i64 b] 59)).alloc (.cells #[.int .i64 0, .int .i64 1, .int .i64 2, .int .i64 2, .int .i64 3, .int .i64 6] 3) = W at *
    obtain ⟨c0, c1, c2⟩ := HO.out.box
    go_quiet (fail)
    go_wp2
    go_ret
    exact ⟨rfl, below_drewN HO.out.below _⟩
  · have d0 : decide (a < 0) = false := by simpa using h0
    have dl : decide ((d.length : Int) ≤ a) = true := by simp; omega
    clear ho h0
    go_enter Tryd.func29, Tryd.ntmps29
    go_upto_region 4 with fail
    generalize (w.alloc (.cells #[.int .i64 (kk : Int), .int .i64 a, .int .i64 b] 59)).alloc (.cells #[.int .i64 0, .int .i64 1, .int .i64 2, .int .i64 2, .int .i64 3, .int .i64 6] 3) = W at *
    obtain ⟨c0, c1, c2⟩ := HO.out.box
    go_quiet (fail)
    go_wp2
    go_ret
    exact ⟨rfl, below_drewN HO.out.below _⟩

set_option maxRecDepth 100000 in
set_option maxHeartbeats 4000000 in
theorem refOne9_in (ad : Addr) (cap : Nat) (d : List De) (kk m : Nat) (b : Int) (h1 : 1 ≤ kk) (h5 : kk ≤ 5) (hm : m < d.length) (hl : d.length ≤ 9223372036854775807) (w : World) (hA : DAt w (some ad) d) :
    Calls Tryd.prog 29 #[.slice (some ad) d.length cap, .agg #[.int .i64 (kk : Int), .int .i64 (m : Int), .int .i64 b]] w (OnePost9 d ((kk : Int), (m : Int), b) w) := by
  have HO := Lib.hid (os_new (kk : Int) (m : Int) b hA)
  have HM := Lib.hid hm
  have HK := Lib.hid (And.intro h1 h5)
  obtain ⟨v, hv⟩ : ∃ v, v = oneN d ((kk : Int), (m : Int), b) := ⟨_, rfl⟩
  unfold OnePost9
  rw [← hv]
  obtain ⟨⟨x, y, z⟩, hdm⟩ : ∃ t : De, d.getD m zero = t := ⟨_, rfl⟩
  have HV : Hid (v = if x ≠ kn kk then 1 else if b < lo ((kk : Int), (m : Int), b) ∨ (if (kk : Int) = 4 then z else if (kk : Int) = 5 then y else 0) < b then 1 else 0) := Lib.hid (by
    rw [hv]
    unfold oneN hi
    dsimp only
    rw [if_neg (by omega), Int.toNat_natCast, hdm]
    dsimp only
    by_cases hx : x ≠ kn kk
    · rw [if_pos hx, if_pos (.inr (.inr hx))]
    · rw [if_neg hx, if_neg]
      rintro (h | h | h)
      · omega
      · omega
      · exact hx h)
  have d1 : decide ((kk : Int) < 1) = false := by simp; omega
  have d5 : decide (5 < (kk : Int)) = false := by simp; omega
  have d0 : decide ((m : Int) < 0) = false := by simp
  have dl : decide (d.length ≤ m) = false := by simp; omega
  have dm : (m : Int) < (d.length : Int) := by omega
  have dm0 : (0 : Int) ≤ (m : Int) := by omega
  have dk : (kk : Int) < 6 := by omega
  have dk0 : (0 : Int) ≤ (kk : Int) := by omega
  unfold needBox kindBox at HO
  clear hA hv hm
  by_cases hx : x = kn kk
  · have hxb : (x != kn kk) = false := by simp [hx]
    have HV2 : Hid (v = if b < lo ((kk : Int), (m : Int), b) ∨ (if (kk : Int) = 4 then z else if (kk : Int) = 5 then y else 0) < b then 1 else 0) := Lib.hid (by rw [HV.out, if_neg (by simpa using hx)])
    clear HV hx
    by_cases e4 : kk = 4
    · have f4 : ((kk : Int) == 4) = true := by simp; omega
      have f5 : ((kk : Int) == 5) = false := by simp; omega
      have HV3 : Hid (v = if b < 1 ∨ z < b then 1 else 0) := Lib.hid (by
        have el : lo ((kk : Int), (m : Int), b) = 1 := if_pos (.inl (by show (kk : Int) = 4; omega))
        have eh : (if (kk : Int) = 4 then z else if (kk : Int) = 5 then y else 0) = z := if_pos (by omega)
        rw [HV2.out, el, eh])
      clear e4 HV2 h1 h5
      by_cases g1 : b < 1
      · have q1 : decide (b < 1) = true := by simpa using g1
        have HV4 : Hid (v = 1) := Lib.hid (by rw [HV3.out, if_pos (.inl g1)])
        rw [HV4.out]
        clear g1
        go_enter Tryd.func29, Tryd.ntmps29
        go_upto_region 4 with fail
        generalize (w.alloc (.cells #[.int .i64 (kk : Int), .int .i64 (m : Int), .int .i64 b] 59)).alloc (.cells #[.int .i64 0, .int .i64 1, .int .i64 2, .int .i64 2, .int .i64 3, .int .i64 6] 3) = W at *
        obtain ⟨c0, c1, c2⟩ := HO.out.box
        have ck := HO.out.kinds kk HK.out.1 HK.out.2
        obtain ⟨b0, off, hAe, hbl, x0, x1, x2⟩ := HO.out.list m HM.out
        injection hAe with hAe
        subst hAe
        rw [hdm] at x0 x1 x2
        dsimp only at x0 x1 x2
        go_quiet (fail)
        go_wp2_with fail
        go_quiet (fail)
        go_wp2
        go_ret
        exact ⟨rfl, by first | exact below_drewN (below_drewN HO.out.below _) _ | exact below_drewN HO.out.below _⟩
      · have q1 : decide (b < 1) = false := by simpa using g1
        by_cases g2 : z < b
        · have q2 : decide (z < b) = true := by simpa using g2
          have HV4 : Hid (v = 1) := Lib.hid (by rw [HV3.out, if_pos (.inr g2)])
          rw [HV4.out]
          clear g1 g2
          go_enter Tryd.func29, Tryd.ntmps29
          go_upto_region 4 with fail
          generalize (w.alloc (.cells #[.int .i64 (kk : Int), .int .i64 (m : Int), .int .i64 b] 59)).alloc (.cells #[.int .i64 0, .int .i64 1, .int .i64 2, .int .i64 2, .int .i64 3, .int .i64 6] 3) = W at *
          obtain ⟨c0, c1, c2⟩ := HO.out.box
          have ck := HO.out.kinds kk HK.out.1 HK.out.2
          obtain ⟨b0, off, hAe, hbl, x0, x1, x2⟩ := HO.out.list m HM.out
          injection hAe with hAe
          subst hAe
          rw [hdm] at x0 x1 x2
          dsimp only at x0 x1 x2
          go_quiet (fail)
          go_wp2_with fail
          go_quiet (fail)
          go_wp2
          go_ret
          exact ⟨rfl, by first | exact below_drewN (below_drewN HO.out.below _) _ | exact below_drewN HO.out.below _⟩
        · have q2 : decide (z < b) = false := by simpa using g2
          have HV4 : Hid (v = 0) := Lib.hid (by rw [HV3.out, if_neg (by omega)])
          rw [HV4.out]
          clear g1 g2
          go_enter Tryd.func29, Tryd.ntmps29
          go_upto_region 4 with fail
          generalize (w.alloc (.cells #[.int .i64 (kk : Int), .int .i64 (m : Int), .int .i64 b] 59)).alloc (.cells #[.int .i64 0, .int .i64 1, .int .i64 2, .int .i64 2, .int .i64 3, .int .i64 6] 3) = W at *
          obtain ⟨c0, c1, c2⟩ := HO.out.box
          have ck := HO.out.kinds kk HK.out.1 HK.out.2
          obtain ⟨b0, off, hAe, hbl, x0, x1, x2⟩ := HO.out.list m HM.out
          injection hAe with hAe
          subst hAe
          rw [hdm] at x0 x1 x2
          dsimp only at x0 x1 x2
          go_quiet (fail)
          go_wp2_with fail
          go_quiet (fail)
          go_wp2
          go_ret
          exact ⟨rfl, by first | exact below_drewN (below_drewN HO.out.below _) _ | exact below_drewN HO.out.below _⟩
    · have f4 : ((kk : Int) == 4) = false := by simp; omega
      by_cases e5 : kk = 5
      · have f5 : ((kk : Int) == 5) = true := by simp; omega
        have HV3 : Hid (v = if b < 1 ∨ y < b then 1 else 0) := Lib.hid (by
          have el : lo ((kk : Int), (m : Int), b) = 1 := if_pos (.inr (by show (kk : Int) = 5; omega))
          have eh : (if (kk : Int) = 4 then z else if (kk : Int) = 5 then y else 0) = y := by rw [if_neg (by omega), if_pos (by omega)]
          rw [HV2.out, el, eh])
        clear e4 e5 HV2 h1 h5
        by_cases g1 : b < 1
        · have q1 : decide (b < 1) = true := by simpa using g1
          have HV4 : Hid (v = 1) := Lib.hid (by rw [HV3.out, if_pos (.inl g1)])
          rw [HV4.out]
          clear g1
          go_enter Tryd.func29, Tryd.ntmps29
          go_upto_region 4 with fail
          generalize (w.alloc (.cells #[.int .i64 (kk : Int), .int .i64 (m : Int), .int .i64 b] 59)).alloc (.cells #[.int .i64 0, .int .i64 1, .int .i64 2, .int .i64 2, .int .i64 3, .int .i64 6] 3) = W at *
          obtain ⟨c0, c1, c2⟩ := HO.out.box
          have ck := HO.out.kinds kk HK.out.1 HK.out.2
          obtain ⟨b0, off, hAe, hbl, x0, x1, x2⟩ := HO.out.list m HM.out
          injection hAe with hAe
          subst hAe
          rw [hdm] at x0 x1 x2
          dsimp only at x0 x1 x2
          go_quiet (fail)
          go_wp2_with fail
          go_quiet (fail)
          go_wp2
          go_ret
          exact ⟨rfl, by first | exact below_drewN (below_drewN HO.out.below _) _ | exact below_drewN HO.out.below _⟩
        · have q1 : decide (b < 1) = false := by simpa using g1
          by_cases g2 : y < b
          · have q2 : decide (y < b) = true := by simpa using g2
            have HV4 : Hid (v = 1) := Lib.hid (by rw [HV3.out, if_pos (.inr g2)])
            rw [HV4.out]
            clear g1 g2
            go_enter Tryd.func29, Tryd.ntmps29
            go_upto_region 4 with fail
            generalize (w.alloc (.cells #[.int .i64 (kk : Int), .int .i64 (m : Int), .int .i64 b] 59)).alloc (.cells #[.int .i64 0, .int .i64 1, .int .i64 2, .int .i64 2, .int .i64 3, .int .i64 6] 3) = W at *
            obtain ⟨c0, c1, c2⟩ := HO.out.box
            have ck := HO.out.kinds kk HK.out.1 HK.out.2
            obtain ⟨b0, off, hAe, hbl, x0, x1, x2⟩ := HO.out.list m HM.out
            injection hAe with hAe
            subst hAe
            rw [hdm] at x0 x1 x2
            dsimp only at x0 x1 x2
            go_quiet (fail)
            go_wp2_with fail
            go_quiet (fail)
            go_wp2
            go_ret
            exact ⟨rfl, by first | exact below_drewN (below_drewN HO.out.below _) _ | exact below_drewN HO.out.below _⟩
          · have q2 : decide (y < b) = false := by simpa using g2
            have HV4 : Hid (v = 0) := Lib.hid (by rw [HV3.out, if_neg (by omega)])
            rw [HV4.out]
            clear g1 g2
            go_enter Tryd.func29, Tryd.ntmps29
            go_upto_region 4 with fail
            generalize (w.alloc (.cells #[.int .i64 (kk : Int), .int .i64 (m : Int), .int .i64 b] 59)).alloc (.cells #[.int .i64 0, .int .i64 1, .int .i64 2, .int .i64 2, .int .i64 3, .int .i64 6] 3) = W at *
            obtain ⟨c0, c1, c2⟩ := HO.out.box
            have ck := HO.out.kinds kk HK.out.1 HK.out.2
            obtain ⟨b0, off, hAe, hbl, x0, x1, x2⟩ := HO.out.list m HM.out
            injection hAe with hAe
            subst hAe
            rw [hdm] at x0 x1 x2
            dsimp only at x0 x1 x2
            go_quiet (fail)
            go_wp2_with fail
            go_quiet (fail)
            go_wp2
            go_ret
            exact ⟨rfl, by first | exact below_drewN (below_drewN HO.out.below _) _ | exact below_drewN HO.out.below _⟩
      · have f5 : ((kk : Int) == 5) = false := by simp; omega
        have HV3 : Hid (v = if b < 0 ∨ 0 < b then 1 else 0) := Lib.hid (by
          have el : lo ((kk : Int), (m : Int), b) = 0 := if_neg (by show ¬ ((kk : Int) = 4 ∨ (kk : Int) = 5); omega)
          have eh : (if (kk : Int) = 4 then z else if (kk : Int) = 5 then y else 0) = 0 := by rw [if_neg (by omega), if_neg (by omega)]
          rw [HV2.out, el, eh])
        clear e4 e5 HV2 h1 h5
        by_cases g1 : b < 0
        · have q1 : decide (b < 0) = true := by simpa using g1
          have HV4 : Hid (v = 1) := Lib.hid (by rw [HV3.out, if_pos (.inl g1)])
          rw [HV4.out]
          clear g1
          go_enter Tryd.func29, Tryd.ntmps29
          go_upto_region 4 with fail
          generalize (w.alloc (.cells #[.int .i64 (kk : Int), .int .i64 (m : Int), .int .i64 b] 59)).alloc (.cells #[.int .i64 0, .int .i64 1, .int .i64 2, .int .i64 2, .int .i64 3, .int .i64 6] 3) = W at *
          obtain ⟨c0, c1, c2⟩ := HO.out.box
          have ck := HO.out.kinds kk HK.out.1 HK.out.2
          obtain ⟨b0, off, hAe, hbl, x0, x1, x2⟩ := HO.out.list m HM.out
          injection hAe with hAe
          subst hAe
          rw [hdm] at x0 x1 x2
          dsimp only at x0 x1 x2
          go_quiet (fail)
          go_wp2
          go_ret
          exact ⟨rfl, by first | exact below_drewN (below_drewN HO.out.below _) _ | exact below_drewN HO.out.below _⟩
        · have q1 : decide (b < 0) = false := by simpa using g1
          by_cases g2 : 0 < b
          · have q2 : decide (0 < b) = true := by simpa using g2
            have HV4 : Hid (v = 1) := Lib.hid (by rw [HV3.out, if_pos (.inr g2)])
            rw [HV4.out]
            clear g1 g2
            go_enter Tryd.func29, Tryd.ntmps29
            go_upto_region 4 with fail
            generalize (w.alloc (.cells #[.int .i64 (kk : Int), .int .i64 (m : Int), .int .i64 b] 59)).alloc (.cells #[.int .i64 0, .int .i64 1, .int .i64 2, .int .i64 2, .int .i64 3, .int .i64 6] 3) = W at *
            obtain ⟨c0, c1, c2⟩ := HO.out.box
            have ck := HO.out.kinds kk HK.out.1 HK.out.2
            obtain ⟨b0, off, hAe, hbl, x0, x1, x2⟩ := HO.out.list m HM.out
            injection hAe with hAe
            subst hAe
            rw [hdm] at x0 x1 x2
            dsimp only at x0 x1 x2
            go_quiet (fail)
            go_wp2
            go_ret
            exact ⟨rfl, by first | exact below_drewN (below_drewN HO.out.below _) _ | exact below_drewN HO.out.below _⟩
          · have q2 : decide (0 < b) = false := by simpa using g2
            have HV4 : Hid (v = 0) := Lib.hid (by rw [HV3.out, if_neg (by omega)])
            rw [HV4.out]
            clear g1 g2
            go_enter Tryd.func29, Tryd.ntmps29
            go_upto_region 4 with fail
            generalize (w.alloc (.cells #[.int .i64 (kk : Int), .int .i64 (m : Int), .int .i64 b] 59)).alloc (.cells #[.int .i64 0, .int .i64 1, .int .i64 2, .int .i64 2, .int .i64 3, .int .i64 6] 3) = W at *
            obtain ⟨c0, c1, c2⟩ := HO.out.box
            have ck := HO.out.kinds kk HK.out.1 HK.out.2
            obtain ⟨b0, off, hAe, hbl, x0, x1, x2⟩ := HO.out.list m HM.out
            injection hAe with hAe
            subst hAe
            rw [hdm] at x0 x1 x2
            dsimp only at x0 x1 x2
            go_quiet (fail)
            go_wp2
            go_ret
            exact ⟨rfl, by first | exact below_drewN (below_drewN HO.out.below _) _ | exact below_drewN HO.out.below _⟩
  · have hxb : (x != kn kk) = true := by simpa using hx
    have HV2 : Hid (v = 1) := Lib.hid (by rw [HV.out, if_pos hx])
    rw [HV2.out]
    clear HV hx h1 h5
    go_enter Tryd.func29, Tryd.ntmps29
    go_upto_region 4 with fail
    generalize (w.alloc (.cells #[.int .i64 (kk : Int), .int .i64 (m : Int), .int .i64 b] 59)).alloc (.cells #[.int .i64 0, .int .i64 1, .int .i64 2, .int .i64 2, .int .i64 3, .int .i64 6] 3) = W at *
    obtain ⟨c0, c1, c2⟩ := HO.out.box
    have ck := HO.out.kinds kk HK.out.1 HK.out.2
    obtain ⟨b0, off, hAe, hbl, x0, x1, x2⟩ := HO.out.list m HM.out
    injection hAe with hAe
    subst hAe
    rw [hdm] at x0 x1 x2
    dsimp only at x0 x1 x2
    go_quiet (fail)
    go_wp2
    go_ret
    exact ⟨rfl, below_drewN HO.out.below _⟩
theorem refOne9_any (A : Option Addr) (cap : Nat) (d : List De) (n : De) (hl : d.length ≤ 9223372036854775807) (w : World) (hA : DAt w A d) :
    Calls Tryd.prog 29 #[.slice A d.length cap, .agg #[.int .i64 n.1, .int .i64 n.2.1, .int .i64 n.2.2]] w (OnePost9 d n w) := by
  obtain ⟨k, a, b⟩ := n
  dsimp only
  by_cases h : k < 1 ∨ 5 < k
  · exact refOne9_6 A cap d k a b h w
  · obtain ⟨kk, rfl⟩ : ∃ kk : Nat, k = (kk : Int) := ⟨k.toNat, by omega⟩
    by_cases ho : a < 0 ∨ (d.length : Int) ≤ a
    · exact refOne9_out A cap d kk a b (by omega) (by omega) ho w hA
    · obtain ⟨m, rfl⟩ : ∃ m : Nat, a = (m : Int) := ⟨a.toNat, by omega⟩
      have hm : m < d.length := by omega
      obtain ⟨b0, off, rfl, _⟩ := hA m hm
      exact refOne9_in _ cap d kk m b (by omega) (by omega) hm hl w hA
end Go.Proofs.YtfkcmdnnmnkklaaDoor.need

/-
  The program's tables of needs lie where their initialisers lay them; with that: whether there is such a kind, whether a kind counts, and how many there may be (typed over the code of 4b95722). The card ties the tables to the program's text.
-/
namespace Go.Proofs.YtfkcmdnnmnkklaaDoor.need
open Go.RowKit Go.ChangeShapes
open Go.Proofs.YtfkcmdnnmnkklaaDoor.objs (De zero CellsAt DAt)
set_option linter.unusedVariables false

theorem ret_bool {a b : Bool} (h : a = b) : Ending.returned (.bool a) = .returned (.bool b) := by rw [h]
/-- The words of the kinds, and the kinds of objects that they ask, as the program's tables have them. -/
def namesE : List ByteArray := [⟨#[]⟩, ⟨#[108, 111, 99, 107]⟩, ⟨#[114, 101, 97, 100]⟩, ⟨#[119, 114, 105, 116, 101]⟩, ⟨#[100, 111, 119, 110]⟩, ⟨#[116, 97, 107, 101]⟩]
def askedE : List Int := [0, 1, 2, 2, 3, 6]
/-- The table of what is asked lies where its initialiser lays it, below all that is made. -/
structure Oka (w : World) : Prop where
  ak : ∀ j, j < 6 → w.cell? ⟨1, j, none⟩ = some (.int .i64 (askedE.getD j 0))
  lak : 1 < w.heap.size
theorem Oka.below {B : Nat} {w w' : World} (h : Oka w) (hb : Below B w w') (h2 : 1 < B) : Oka w' :=
  ⟨fun j hj => (hb.cell (p := ⟨1, j, none⟩) h2).trans (h.ak j hj), Nat.lt_of_lt_of_le h.lak hb.size⟩
theorem Oka.next {w w' : World} (h : Oka w) (hb : Below w.heap.size w w') : Oka w' := h.below hb h.lak
/-- The tables lie where their initialisers lay them. -/
structure Tabe (w : World) : Prop where
  nm : ∀ j, j < 6 → w.cell? ⟨0, j, none⟩ = some (.string (namesE.getD j ⟨#[]⟩))
  pw : Lib.TabIs Tryd.prog w "internal/strconv.uint64pow10" .u64 Lib.pow10Tab
theorem gPow : Tryd.prog.globalNamed "internal/strconv.uint64pow10" = some 3 := by kernel_rfl
/-- What the program's calls ask of the world: the tables lie where they should, below all that is made. -/
structure Oke (w : World) : Prop where
  tab : Tabe w
  oka : Oka w
  lnm : 0 < w.heap.size
  lpw : 3 < w.heap.size
theorem Oke.below {B : Nat} {w w' : World} (h : Oke w) (hb : Below B w w') (h1 : 0 < B) (h2 : 1 < B) (h3 : 3 < B) : Oke w' :=
  ⟨⟨fun j hj => (hb.cell (p := ⟨0, j, none⟩) h1).trans (h.tab.nm j hj), var?_below hb gPow h3 h.tab.pw⟩, h.oka.below hb h2,
    Nat.lt_of_lt_of_le h.lnm hb.size, Nat.lt_of_lt_of_le h.lpw hb.size⟩
theorem Oke.next {w w' : World} (h : Oke w) (hb : Below w.heap.size w w') : Oke w' := h.below hb h.lnm h.oka.lak h.lpw
theorem asked_kn {k : Nat} (h1 : 1 ≤ k) (h5 : k ≤ 5) : askedE.getD k 0 = kn (k : Int) := by
  have h : k = 1 ∨ k = 2 ∨ k = 3 ∨ k = 4 ∨ k = 5 := by omega
  rcases h with rfl | rfl | rfl | rfl | rfl <;> rfl
theorem names_word {k : Nat} (h1 : 1 ≤ k) (h5 : k ≤ 5) : namesE.getD k ⟨#[]⟩ = ⟨(word (k : Int)).toArray⟩ := by
  have h : k = 1 ∨ k = 2 ∨ k = 3 ∨ k = 4 ∨ k = 5 := by omega
  rcases h with rfl | rfl | rfl | rfl | rfl <;> rfl

theorem known_any (k : Int) (w : World) : Calls Tryd.prog 57 #[.int .i64 k] w fun e w' => e = .returned (.bool (decide (1 ≤ k ∧ k ≤ 5))) ∧ w = w' := by
  by_cases h1 : 1 ≤ k
  · by_cases h2 : k ≤ 5
    · rw [decide_eq_true ⟨h1, h2⟩]
      go_enter Tryd.func57, Tryd.ntmps57
      go_wp2
      go_ret
      exact ⟨rfl, rfl⟩
    · rw [decide_eq_false (fun h => h2 h.2)]
      have hd : decide (k ≤ 5) = false := by simpa using h2
      go_enter Tryd.func57, Tryd.ntmps57
      go_wp2
      go_ret
      exact ⟨rfl, rfl⟩
  · rw [decide_eq_false (fun h => h1 h.1)]
    have hd : decide (1 ≤ k) = false := by simpa using h1
    go_enter Tryd.func57, Tryd.ntmps57
    go_wp2
    go_ret
    exact ⟨rfl, rfl⟩
theorem counts_any (k : Int) (w : World) : Calls Tryd.prog 56 #[.int .i64 k] w fun e w' => e = .returned (.bool (decide (k = 4 ∨ k = 5))) ∧ w = w' := by
  by_cases h4 : k = 4
  · subst h4
    go_enter Tryd.func56, Tryd.ntmps56
    go_wp2
    go_ret
    exact ⟨rfl, rfl⟩
  · have e4 : (k == 4) = false := by simpa using h4
    by_cases h5 : k = 5
    · subst h5
      go_enter Tryd.func56, Tryd.ntmps56
      go_wp2
      go_ret
      exact ⟨rfl, rfl⟩
    · have e5 : (k == 5) = false := by simpa using h5
      rw [decide_eq_false (by omega)]
      go_enter Tryd.func56, Tryd.ntmps56
      go_wp2
      go_ret
      exact ⟨rfl, rfl⟩
/-- What is wrong with how many there are. -/
def manyC (n : Nat) : Nat := if n = 0 then 2 else if 4 < n then 4 else 0
theorem many_any (n : Nat) (w : World) : Calls Tryd.prog 33 #[.int .i64 (n : Int), .int .i64 4] w fun e w' => e = .returned (.int .i64 ((manyC n : Nat) : Int)) ∧ w = w' :=
  Go.Proofs.YtfkcmdnnmnkklaaDoor.span.count_any n 4 w
end Go.Proofs.YtfkcmdnnmnkklaaDoor.need

/-
  Three cells at once, and a reader of the document's in a block. No condition.
-/
namespace Go.Proofs.YtfkcmdnnmnkklaaDoor.objs
open Go.RowKit Go.ChangeShapes
set_option linter.unusedVariables false

/-- Three cells of a block, set one behind the other. -/
abbrev put3 (W : World) (b : Nat) (x y z : Value) : World := ((W.setCell ⟨b, 0, none⟩ x).setCell ⟨b, 1, none⟩ y).setCell ⟨b, 2, none⟩ z
theorem put3_same {W : World} {b : Nat} {u v m : Value} {T : TypeId} (h : W.heap[b]? = some (.cells #[u, v, m] T (0, 0))) (x y z : Value) : (put3 W b x y z).heap[b]? = some (.cells #[x, y, z] T (0, 0)) := by
  simp [World.setCell, Array.getElem?_modify, h]
theorem cells3 {W : World} {b : Nat} {x y z : Value} {T : TypeId} (h : W.heap[b]? = some (.cells #[x, y, z] T (0, 0))) :
    W.cell? ⟨b, 0, none⟩ = some x ∧ W.cell? ⟨b, 1, none⟩ = some y ∧ W.cell? ⟨b, 2, none⟩ = some z ∧ W.frozen? ⟨b, 0, none⟩ = false ∧ W.frozen? ⟨b, 1, none⟩ = false ∧ W.frozen? ⟨b, 2, none⟩ = false := by
  simp [World.cell?, World.frozen?, h]
theorem put3_far {W : World} {b c : Nat} (h : c ≠ b) (x y z : Value) : (put3 W b x y z).heap[c]? = W.heap[c]? :=
  (Below.heap_setCell _ ⟨b, 2, none⟩ _ c h).trans ((Below.heap_setCell _ ⟨b, 1, none⟩ _ c h).trans (Below.heap_setCell _ ⟨b, 0, none⟩ _ c h))
theorem put3_below {B b : Nat} {a W : World} (h : Below B a W) (hb : B ≤ b) (x y z : Value) : Below B a (put3 W b x y z) :=
  ((h.setCell (p := ⟨b, 0, none⟩) hb _).setCell (p := ⟨b, 1, none⟩) hb _).setCell (p := ⟨b, 2, none⟩) hb _

/-- A reader of the document's, in a block. -/
def RBox (t : ByteArray) (k err : Nat) : Obj := .cells #[.string t, .int .i64 (k : Int), .int .i64 (err : Int)] 78
def RNil : Obj := .cells #[.string ⟨#[]⟩, .int .i64 0, .int .i64 0] 78
end Go.Proofs.YtfkcmdnnmnkklaaDoor.objs

/-
  The reader's numbers with a sign, and texts: what bytes are read as one, and the first error. The reader lies in a block of its own, holds no bytes behind an error, and at most two to the forty-seventh of them.
-/
namespace Go.Proofs.YtfkcmdnnmnkklaaDoor.octet
open Go.RowKit Go.ChangeShapes
set_option linter.unusedVariables false

theorem info5' : (Tryd.prog.info? 5).map (fun i => (i.zero, i.size, i.bytes)) = some (some (.int .u8 0), 1, 1) := by kernel_rfl

theorem i64_not_nat (a : Nat) (ha : a < 9223372036854775808) : bits .xor .i64 (-1) (a : Int) = -(a : Int) - 1 := by
  show IntKind.i64.wrap ((BitVec.ofInt 64 (-1) ^^^ BitVec.ofInt 64 (a : Int)).toNat : Int) = _
  have h1 : BitVec.ofInt 64 (-1) = BitVec.allOnes 64 := by decide
  rw [h1, BitVec.allOnes_xor, BitVec.toNat_not, ofInt_u64 a (by omega)]
  simp only [IntKind.wrap_i64]
  omega
theorem and1_u64 (v : Nat) (hv : v < 18446744073709551616) : bits .and .u64 (v : Int) 1 = ((v % 2 : Nat) : Int) := by
  rw [← nat_mask1]; exact u64_and_nat v 1 hv (by omega)

set_option maxHeartbeats 1000000 in
theorem intIn_any (w : World) (bi : Nat) (s : St) (hi : InAt w bi s) (hok : s.ok) (hl : s.rest.length ≤ 140737488355328) :
    Calls Tryd.prog 135 #[.pointer (some ⟨bi, 0, none⟩)] w fun r w' => r = .returned (.int .i64 (rdInt s).1) ∧ InAt w' bi (rdInt s).2 ∧ Frm w.heap.size bi w w' := by
  have hlt := rdNum_lt s
  have HN := Lib.hid (numIn_any w bi s hi hok hl)
  have HI : Hid (rdInt s = (zag (rdNum s).1, (rdNum s).2)) := rfl
  generalize rdNum s = p at *
  obtain ⟨v, s1⟩ := p
  have hlt' : v < 18446744073709551616 := hlt
  have hand := and1_u64 v hlt'
  have HX : Hid (bits .xor .i64 (-1) ((v : Int) / 2) = -((v / 2 : Nat) : Int) - 1) := Lib.hid (i64_not_nat (v / 2) (by omega))
  by_cases hv : v % 2 = 1
  · rw [hv] at hand
    have hfin : zag v = -((v / 2 : Nat) : Int) - 1 := by unfold zag; rw [if_pos hv]
    have HZ := Lib.hid hfin
    have HV := Lib.hid hv
    clear hfin hv
    go_enter Tryd.func135, Tryd.ntmps135
    go_wp2_with fail
    refine HN.out.mono ?_
    rintro e w1 ⟨rfl, hi1, hf1⟩
    go_wp2
    go_ret
    rw [HI.out]
    refine ⟨?_, hi1, hf1⟩
    rw [show (zag v, s1).1 = zag v from rfl, HZ.out]
    exact congrArg (fun x => Ending.returned (Value.int .i64 x)) HX.out
  · have hv0 : v % 2 = 0 := by omega
    rw [hv0] at hand
    have hfin : zag v = ((v / 2 : Nat) : Int) := by unfold zag; rw [if_neg hv]
    have HZ := Lib.hid hfin
    have HV := Lib.hid hv
    clear hfin hv hv0
    go_enter Tryd.func135, Tryd.ntmps135
    go_wp2_with fail
    refine HN.out.mono ?_
    rintro e w1 ⟨rfl, hi1, hf1⟩
    go_wp2
    go_ret
    rw [HI.out]
    refine ⟨?_, hi1, hf1⟩
    rw [show (zag v, s1).1 = zag v from rfl, HZ.out]
    rfl

end Go.Proofs.YtfkcmdnnmnkklaaDoor.octet

/-
  The program's own reading of one need (typed over the code of 5ef5b61): for every text of at most two to the forty-seventh bytes. No other condition.
-/
namespace Go.Proofs.YtfkcmdnnmnkklaaDoor.need
open Go.RowKit Go.ChangeShapes
open Go.Proofs.YtfkcmdnnmnkklaaDoor.octet (St InAt Frm rdByte rdNum byteIn_any rdNum_ok rdNum_left rdByte_ok)
open Go.Proofs.YtfkcmdnnmnkklaaDoor.span (pN num_any)
open Go.Proofs.YtfkcmdnnmnkklaaDoor.objs (De zero put3 put3_far put3_same cells3)
set_option linter.unusedVariables false

/-- What get tells, and leaves. -/
def OnePostN (bi : Nat) (q : De × St) (w : World) (e : Ending) (w' : World) : Prop :=
  e = .returned (.agg #[.int .i64 q.1.1, .int .i64 q.1.2.1, .int .i64 q.1.2.2]) ∧ InAt w' bi q.2 ∧ Frm w.heap.size bi w w'

/-- In the midst of reading: where the reader stands, and what was read. -/
structure Gd (w : World) (bi d : Nat) (k a b : Int) (S : St) (W : World) : Prop where
  inn : InAt W bi S
  b0 : W.heap[w.heap.size]? = some (needBox 0 0 0)
  bd : W.heap[d]? = some (needBox k a b)
  frm : Frm w.heap.size bi w W
  lt : bi < w.heap.size
  h1 : w.heap.size < d
theorem Gd.next {w W W' : World} {bi d : Nat} {k a b : Int} {S S' : St} (h : Gd w bi d k a b S W) (hi : InAt W' bi S') (hf : Frm W.heap.size bi W W') : Gd w bi d k a b S' W' := by
  have e1 := h.lt
  have e2 := h.h1
  have e3 := lt_of_block h.bd
  exact ⟨hi, (hf.block _ (by omega) (by omega)).trans h.b0, (hf.block _ e3 (by omega)).trans h.bd, h.frm.trans (hf.mono h.frm.size), e1, e2⟩
theorem Gd.setA {w W : World} {bi d : Nat} {k a b : Int} {S : St} (h : Gd w bi d k a b S W) (n : Int) : Gd w bi d k n b S (W.setCell ⟨d, 1, none⟩ (.int .i64 n)) := by
  have e1 := h.lt
  have e2 := h.h1
  have hx : ∀ i, i ≠ d → (W.setCell ⟨d, 1, none⟩ (.int .i64 n)).heap[i]? = W.heap[i]? := fun i hi => Below.heap_setCell W ⟨d, 1, none⟩ _ i hi
  refine ⟨(hx bi (by omega)).trans h.inn, (hx _ (by omega)).trans h.b0, ?_, h.frm.setCell (p := ⟨d, 1, none⟩) (.inr (by show w.heap.size ≤ d; omega)) _, e1, e2⟩
  have := h.bd
  unfold needBox at this ⊢
  simp [World.setCell, Array.getElem?_modify, this]
theorem Gd.setB {w W : World} {bi d : Nat} {k a b : Int} {S : St} (h : Gd w bi d k a b S W) (n : Int) : Gd w bi d k a n S (W.setCell ⟨d, 2, none⟩ (.int .i64 n)) := by
  have e1 := h.lt
  have e2 := h.h1
  have hx : ∀ i, i ≠ d → (W.setCell ⟨d, 2, none⟩ (.int .i64 n)).heap[i]? = W.heap[i]? := fun i hi => Below.heap_setCell W ⟨d, 2, none⟩ _ i hi
  refine ⟨(hx bi (by omega)).trans h.inn, (hx _ (by omega)).trans h.b0, ?_, h.frm.setCell (p := ⟨d, 2, none⟩) (.inr (by show w.heap.size ≤ d; omega)) _, e1, e2⟩
  have := h.bd
  unfold needBox at this ⊢
  simp [World.setCell, Array.getElem?_modify, this]
theorem Gd.cells {w W : World} {bi d : Nat} {k a b : Int} {S : St} (h : Gd w bi d k a b S W) :
    (W.cell? ⟨d, 0, none⟩ = some (.int .i64 k) ∧ W.cell? ⟨d, 1, none⟩ = some (.int .i64 a) ∧ W.cell? ⟨d, 2, none⟩ = some (.int .i64 b)) ∧ (W.frozen? ⟨d, 1, none⟩ = false ∧ W.frozen? ⟨d, 2, none⟩ = false) ∧
    (W.cell? ⟨w.heap.size, 0, none⟩ = some (.int .i64 0) ∧ W.cell? ⟨w.heap.size, 1, none⟩ = some (.int .i64 0) ∧ W.cell? ⟨w.heap.size, 2, none⟩ = some (.int .i64 0)) ∧
    (W.frozen? ⟨w.heap.size, 0, none⟩ = false ∧ W.frozen? ⟨w.heap.size, 1, none⟩ = false ∧ W.frozen? ⟨w.heap.size, 2, none⟩ = false) := by
  have h1 := h.bd
  have h2 := h.b0
  unfold needBox at h1 h2
  obtain ⟨x0, x1, x2, _, y1, y2⟩ := cells3 h1
  obtain ⟨v0, v1, v2, z0, z1, z2⟩ := cells3 h2
  exact ⟨⟨x0, x1, x2⟩, ⟨y1, y2⟩, ⟨v0, v1, v2⟩, z0, z1, z2⟩
theorem gd_new {w w2 : World} {bi : Nat} {k : Int} {S : St} (hi : InAt w2 bi S) (hf : Frm (w.alloc (needBox 0 0 0)).heap.size bi (w.alloc (needBox 0 0 0)) w2) (hlt : bi < w.heap.size) : Gd w bi w2.heap.size k 0 0 S (w2.alloc (needBox k 0 0)) := by
  have hz : (w.alloc (needBox 0 0 0)).heap.size = w.heap.size + 1 := World.size_alloc w _
  have hb0 : Below w.heap.size w (w.alloc (needBox 0 0 0)) := (Below.refl _ w).alloc (Nat.le_refl _) _
  have hb : Below w2.heap.size w2 (w2.alloc (needBox k 0 0)) := (Below.refl _ w2).alloc (Nat.le_refl _) _
  have hs := hf.size
  have h0 : w2.heap[w.heap.size]? = some (needBox 0 0 0) := (hf.block _ (by omega) (by omega)).trans (heap_alloc_new w _)
  have hfr : Frm w.heap.size bi w w2 := (Frm.of_below hb0).trans (hf.mono (by omega))
  exact ⟨hi.kept (hb.block _ hi.lt), (hb.block _ (by omega)).trans h0, heap_alloc_new w2 _, hfr.trans (Frm.of_below (hb.mono (by omega))), hlt, by omega⟩

theorem getN_ret {w W : World} {bi d : Nat} {k a b : Int} {S : St} {act : Act} {q : De × St} (hq : q = ((k, a, b), S)) (h2 : act.tmps[2]?.getD undef = .pointer (some ⟨w.heap.size, 0, none⟩)) (hd : act.defers = [])
    (h : Gd w bi d k a b S W) : bodyPost Tryd.prog Tryd.f87 (OnePostN bi q w) .ret act (put3 W w.heap.size (.int .i64 k) (.int .i64 a) (.int .i64 b)) := by
  subst hq
  have h0 := h.b0
  unfold needBox at h0
  have e1 := h.lt
  obtain ⟨x0, x1, x2, _, _, _⟩ := cells3 (put3_same h0 (.int .i64 k) (.int .i64 a) (.int .i64 b))
  refine bodyPost_ret (v := .agg #[.int .i64 k, .int .i64 a, .int .i64 b]) ?_ hd ⟨rfl, h.inn.kept (put3_far (by omega) _ _ _), ((h.frm.setCell (p := ⟨w.heap.size, 0, none⟩) (.inr (Nat.le_refl _)) _).setCell (p := ⟨w.heap.size, 1, none⟩) (.inr (Nat.le_refl _)) _).setCell (p := ⟨w.heap.size, 2, none⟩) (.inr (Nat.le_refl _)) _⟩
  simp [results, Tryd.results87, go_sem, h2, x0, x1, x2]

set_option maxRecDepth 100000 in
set_option maxHeartbeats 4000000 in
theorem getN_any (w : World) (bi : Nat) (s : St) (hi : InAt w bi s) (hok : s.ok) (hl : s.rest.length ≤ 140737488355328) :
    Calls Tryd.prog 87 #[.pointer (some ⟨bi, 0, none⟩)] w (OnePostN bi (pNeed s) w) := by
  have hlt := hi.lt
  have hb1 : Below w.heap.size w (w.alloc (needBox 0 0 0)) := (Below.refl _ w).alloc (Nat.le_refl _) _
  have HB := Lib.hid (byteIn_any _ bi s (hi.kept (hb1.block bi hlt)) hok hl)
  obtain ⟨q, hq⟩ : ∃ q, q = pNeed s := ⟨_, rfl⟩
  have HQ : Hid (q = if 1 ≤ (rdByte s).1 ∧ (rdByte s).1 ≤ 5 then ((((rdByte s).1 : Int), (pN (rdByte s).2).1, (pC (rdByte s).1 (pN (rdByte s).2).2).1), (pC (rdByte s).1 (pN (rdByte s).2).2).2) else ((((rdByte s).1 : Int), 0, 0), (rdByte s).2)) := Lib.hid hq
  rw [← hq]
  clear hq hb1 hi
  have hok1 := rdByte_ok hok
  have hl1 : (rdByte s).2.rest.length ≤ 140737488355328 := Nat.le_trans (rdByte_left s) hl
  generalize rdByte s = p at *
  obtain ⟨k, S⟩ := p
  dsimp only at HB HQ hok1 hl1
  have hok2 := pN_ok hok1
  have hl2 : (pN S).2.rest.length ≤ 140737488355328 := Nat.le_trans (pN_left S) hl1
  have HK := fun W => Lib.hid (known_any (k : Int) W)
  have HCt := fun W => Lib.hid (counts_any (k : Int) W)
  have HN1 := fun W hW => Lib.hid (num_any W bi S hW hok1 hl1)
  have HN2 := fun W hW => Lib.hid (num_any W bi _ hW hok2 hl2)
  go_enter Tryd.func87, Tryd.ntmps87
  unfold needBox at HB
  go_wp2_with fail
  refine HB.out.mono ?_
  rintro e w2 ⟨rfl, hi2, hf2⟩
  have HG := Lib.hid (gd_new (k := (k : Int)) hi2 hf2 hlt)
  clear hi2 hf2 HB
  unfold needBox at HG
  go_upto_region 2 with fail
  generalize w2.alloc (.cells #[.int .i64 (k : Int), .int .i64 0, .int .i64 0] 59) = W2 at *
  generalize w2.heap.size = d at *
  obtain ⟨⟨c0, c1, c2⟩, ⟨g1, g2⟩, ⟨e0, e1, e2⟩, f0, f1, f2⟩ := HG.out.cells
  by_cases hk : 1 ≤ k ∧ k ≤ 5
  · rw [decide_eq_true (by omega)] at HK
    rw [if_pos hk] at HQ
    generalize pN S = n1 at *
    obtain ⟨x, S1⟩ := n1
    dsimp only at HN1 HN2 HQ
    clear hok2 hl2 hok1 hl1
    by_cases h3 : 3 < k
    · rw [decide_eq_true (by omega)] at HCt
      have HC1 : Hid (pC k S1 = pN S1) := Lib.hid (by unfold pC; rw [if_pos h3])
      rw [HC1.out] at HQ
      generalize pN S1 = n2 at *
      obtain ⟨y, S2⟩ := n2
      dsimp only at HN2 HQ
      clear h3 hk HC1
      go_wp2_with fail
      refine (HK _).out.mono ?_
      rintro e w3 ⟨rfl, rfl⟩
      go_wp2_with fail
      refine (HN1 _ HG.out.inn).out.mono ?_
      rintro e w3 ⟨rfl, hi3, hf3⟩
      have HG3 := Lib.hid (HG.out.next hi3 hf3)
      clear c0 c1 c2 g1 g2 e0 e1 e2 f0 f1 f2 hi3 hf3 HG HN1
      obtain ⟨⟨c0, c1, c2⟩, ⟨g1, g2⟩, ⟨e0, e1, e2⟩, f0, f1, f2⟩ := HG3.out.cells
      go_upto_region 4 with fail
      have HG4 := Lib.hid (HG3.out.setA x)
      clear c0 c1 c2 g1 g2 e0 e1 e2 f0 f1 f2 HG3
      generalize w3.setCell ⟨d, 1, none⟩ (.int .i64 x) = W4 at *
      obtain ⟨⟨c0, c1, c2⟩, ⟨g1, g2⟩, ⟨e0, e1, e2⟩, f0, f1, f2⟩ := HG4.out.cells
      go_wp2_with fail
      refine (HCt _).out.mono ?_
      rintro e w3 ⟨rfl, rfl⟩
      go_wp2_with fail
      refine (HN2 _ HG4.out.inn).out.mono ?_
      rintro e w5 ⟨rfl, hi5, hf5⟩
      have HG5 := Lib.hid (HG4.out.next hi5 hf5)
      clear hi5 hf5 HG4 HN2 c0 c1 c2 g1 g2 e0 e1 e2 f0 f1 f2
      obtain ⟨⟨c0, c1, c2⟩, ⟨g1, g2⟩, ⟨e0, e1, e2⟩, f0, f1, f2⟩ := HG5.out.cells
      go_upto_region 6 with fail
      have HG6 := Lib.hid (HG5.out.setB y)
      clear c0 c1 c2 g1 g2 e0 e1 e2 f0 f1 f2 HG5
      generalize w5.setCell ⟨d, 2, none⟩ (.int .i64 y) = W6 at *
      obtain ⟨⟨c0, c1, c2⟩, ⟨g1, g2⟩, ⟨e0, e1, e2⟩, f0, f1, f2⟩ := HG6.out.cells
      go_wp2_with fail
      exact getN_ret HQ.out (by rfl) rfl HG6.out
    · rw [decide_eq_false (by omega)] at HCt
      have HC1 : Hid (pC k S1 = (0, S1)) := Lib.hid (by unfold pC; rw [if_neg h3])
      rw [HC1.out] at HQ
      dsimp only at HQ
      clear h3 hk HC1 HN2
      go_wp2_with fail
      refine (HK _).out.mono ?_
      rintro e w3 ⟨rfl, rfl⟩
      go_wp2_with fail
      refine (HN1 _ HG.out.inn).out.mono ?_
      rintro e w3 ⟨rfl, hi3, hf3⟩
      have HG3 := Lib.hid (HG.out.next hi3 hf3)
      clear c0 c1 c2 g1 g2 e0 e1 e2 f0 f1 f2 hi3 hf3 HG HN1
      obtain ⟨⟨c0, c1, c2⟩, ⟨g1, g2⟩, ⟨e0, e1, e2⟩, f0, f1, f2⟩ := HG3.out.cells
      go_upto_region 4 with fail
      have HG4 := Lib.hid (HG3.out.setA x)
      clear c0 c1 c2 g1 g2 e0 e1 e2 f0 f1 f2 HG3
      generalize w3.setCell ⟨d, 1, none⟩ (.int .i64 x) = W4 at *
      obtain ⟨⟨c0, c1, c2⟩, ⟨g1, g2⟩, ⟨e0, e1, e2⟩, f0, f1, f2⟩ := HG4.out.cells
      go_wp2_with fail
      refine (HCt _).out.mono ?_
      rintro e w3 ⟨rfl, rfl⟩
      go_wp2_with fail
      exact getN_ret HQ.out (by rfl) rfl HG4.out
  · rw [decide_eq_false (by omega)] at HK
    rw [decide_eq_false (by omega)] at HCt
    rw [if_neg hk] at HQ
    clear hk HN1 HN2 hok2 hl2 hok1 hl1
    go_wp2_with fail
    refine (HK _).out.mono ?_
    rintro e w3 ⟨rfl, rfl⟩
    go_wp2_with fail
    refine (HCt _).out.mono ?_
    rintro e w3 ⟨rfl, rfl⟩
    go_wp2_with fail
    exact getN_ret HQ.out (by rfl) rfl HG.out
end Go.Proofs.YtfkcmdnnmnkklaaDoor.need
