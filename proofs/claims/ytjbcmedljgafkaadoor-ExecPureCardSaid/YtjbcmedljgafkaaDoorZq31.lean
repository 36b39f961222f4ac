/-
  Texts of one claim in one file: ERefOne. Each has its own sentence, with its conditions.
-/
import Derived.Test.YtjbcmedljgafkaaDoorZq2
import Derived.Test.YtjbcmedljgafkaaDoorZq5
/-
  The document's own answer what is wrong with a need. No condition but that a list is no longer than an int can say.
-/

namespace Go.Proofs.YtjbcmedljgafkaaDoor.need
open Go.RowKit Go.ChangeShapes
open Go.Proofs.YtjbcmedljgafkaaDoor.objs (De zero CellsAt DAt below_drewN)
set_option linter.unusedVariables false

theorem ret_int {k : IntKind} {a b : Int} (h : a = b) : Ending.returned (.int k a) = .returned (.int k b) := by rw [h]
def needBox (k o m : Int) : Obj := .cells #[.int .i64 k, .int .i64 o, .int .i64 m] 124
def kindBox : Obj := .cells #[.int .i64 0, .int .i64 1, .int .i64 2, .int .i64 2, .int .i64 3, .int .i64 6] 3
/-- What 'one' answers. -/
def OnePost9 (d : List De) (n : De) (w : World) (e : Ending) (w' : World) : Prop := e = .returned (.int .i64 (oneN d n : Nat)) ∧ Below w.heap.size w w'
theorem nbox_below (w : World) (k a b : Int) : Below w.heap.size w (w.alloc (needBox k a b)) := (Below.refl _ w).alloc (Nat.le_refl _) _

set_option maxHeartbeats 1000000 in
theorem refOne9_6 (A : Option Addr) (cap : Nat) (d : List De) (k a b : Int) (h : k < 1 ∨ 5 < k) (w : World) :
    Calls Tryd.prog 83 #[.slice A d.length cap, .agg #[.int .i64 k, .int .i64 a, .int .i64 b]] w (OnePost9 d (k, a, b) w) := by
  have HV : Hid (oneN d (k, a, b) = 6) := Lib.hid (by unfold oneN; rw [if_pos h])
  have HB := Lib.hid (nbox_below w k a b)
  unfold OnePost9
  rw [HV.out]
  by_cases h1 : k < 1
  · have hd : decide (k < 1) = true := by simpa using h1
    clear h
    go_enter Tryd.func83, Tryd.ntmps83
    go_wp2_with fail
    go_ret
    exact ⟨rfl, HB.out⟩
  · have hd : decide (k < 1) = false := by simpa using h1
    have hd2 : decide (5 < k) = true := by simp; omega
    clear h h1
    go_enter Tryd.func83, Tryd.ntmps83
    go_wp2_with fail
    go_ret
    exact ⟨rfl, HB.out⟩

/-- Behind the list of kinds. -/
structure Os (w : World) (A : Option Addr) (d : List De) (g g2 : Nat) (k a b : Int) (W : World) : Prop where
  below : Below w.heap.size w W
  box : W.cell? ⟨g, 0, none⟩ = some (.int .i64 k) ∧ W.cell? ⟨g, 1, none⟩ = some (.int .i64 a) ∧ W.cell? ⟨g, 2, none⟩ = some (.int .i64 b)
  kinds : ∀ j : Nat, 1 ≤ j → j ≤ 5 → W.cell? ⟨g2, j, none⟩ = some (.int .i64 (kn j))
  list : DAt W A d
theorem os_new {w : World} {A : Option Addr} {d : List De} (k a b : Int) (hA : DAt w A d) : Os w A d w.heap.size (w.heap.size + 1) k a b ((w.alloc (needBox k a b)).alloc kindBox) := by
  have hz : (w.alloc (needBox k a b)).heap.size = w.heap.size + 1 := World.size_alloc w _
  have hb : Below w.heap.size w ((w.alloc (needBox k a b)).alloc kindBox) := ((Below.refl _ w).alloc (Nat.le_refl _) _).alloc (by omega) _
  have h0 : ((w.alloc (needBox k a b)).alloc kindBox).heap[w.heap.size]? = some (needBox k a b) := (Below.heap_alloc _ _ _ (by omega)).trans (heap_alloc_new w _)
  have h1 : ((w.alloc (needBox k a b)).alloc kindBox).heap[w.heap.size + 1]? = some kindBox := by rw [← hz]; exact heap_alloc_new _ _
  refine ⟨hb, ?_, fun j h2 h3 => ?_, hA.next hb⟩
  · unfold World.cell?
    rw [h0]
    exact ⟨rfl, rfl, rfl⟩
  · unfold World.cell?
    rw [h1]
    rcases (by omega : j = 1 ∨ j = 2 ∨ j = 3 ∨ j = 4 ∨ j = 5) with rfl | rfl | rfl | rfl | rfl <;> rfl

set_option maxRecDepth 100000 in
set_option maxHeartbeats 2000000 in
theorem refOne9_out (A : Option Addr) (cap : Nat) (d : List De) (kk : Nat) (a b : Int) (h1 : 1 ≤ kk) (h5 : kk ≤ 5) (ho : a < 0 ∨ (d.length : Int) ≤ a) (w : World) (hA : DAt w A d) :
    Calls Tryd.prog 83 #[.slice A d.length cap, .agg #[.int .i64 (kk : Int), .int .i64 a, .int .i64 b]] w (OnePost9 d ((kk : Int), a, b) w) := by
  have HV : Hid (oneN d ((kk : Int), a, b) = 1) := Lib.hid (by unfold oneN; dsimp only; rw [if_neg (by omega), if_pos (by rcases ho with h | h; exact .inl h; exact .inr (.inl h))])
  have HO := Lib.hid (os_new (kk : Int) a b hA)
  unfold OnePost9
  rw [HV.out]
  have d1 : decide ((kk : Int) < 1) = false := by simp; omega
  have d5 : decide (5 < (kk : Int)) = false := by simp; omega
  unfold needBox kindBox at HO
  clear hA h1 h5
  by_cases h0 : a < 0
  · have d0 : decide (a < 0) = true := by simpa using h0
    clear ho h0
    go_enter Tryd.func83, Tryd.ntmps83
    go_upto_region 4 with fail
    generalize (w.alloc (.cells #[.int .i64 (kk : Int), .int .i64 a, .int .i64 b] 124)).alloc (.cells #[.int .i64 0, .int .i64 1, .int .i64 2, .int .i64 2, .int .i64 3, .int .i64 6] 3) = W at *
    obtain ⟨c0, c1, c2⟩ := HO.out.box
    go_quiet (fail)
    go_wp2
    go_ret
    exact ⟨rfl, below_drewN HO.out.below _⟩
  · have d0 : decide (a < 0) = false := by simpa using h0
    have dl : decide ((d.length : Int) ≤ a) = true := by simp; omega
    clear ho h0
    go_enter Tryd.func83, Tryd.ntmps83
    go_upto_region 4 with fail
    generalize (w.alloc (.cells #[.int .i64 (kk : Int), .int .i64 a, .int .i64 b] 124)).alloc (.cells #[.int .i64 0, .int .i64 1, .int .i64 2, .int .i64 2, .int .i64 3, .int .i64 6] 3) = W at *
    obtain ⟨c0, c1, c2⟩ := HO.out.box
    go_quiet (fail)
    go_wp2
    go_ret
    exact ⟨rfl, below_drewN HO.out.below _⟩

set_option maxRecDepth 100000 in
set_option maxHeartbeats 4000000 in
theorem refOne9_in (ad : Addr) (cap : Nat) (d : List De) (kk m : Nat) (b : Int) (h1 : 1 ≤ kk) (h5 : kk ≤ 5) (hm : m < d.length) (hl : d.length ≤ 9223372036854775807) (w : World) (hA : DAt w (some ad) d) :
    Calls Tryd.prog 83 #[.slice (some ad) d.length cap, .agg #[.int .i64 (kk : Int), .int .i64 (m : Int), .int .i64 b]] w (OnePost9 d ((kk : Int), (m : Int), b) w) := by
  have HO := Lib.hid (os_new (kk : Int) (m : Int) b hA)
  have HM := Lib.hid hm
  have HK := Lib.hid (And.intro h1 h5)
  obtain ⟨v, hv⟩ : ∃ v, v = oneN d ((kk : Int), (m : Int), b) := ⟨_, rfl⟩
  unfold OnePost9
  rw [← hv]
  obtain ⟨⟨x, y, z⟩, hdm⟩ : ∃ t : De, d.getD m zero = t := ⟨_, rfl⟩
  have HV : Hid (v = if x ≠ kn kk then 1 else if b < lo ((kk : Int), (m : Int), b) ∨ (if (kk : Int) = 4 then z else if (kk : Int) = 5 then y else 0) < b then 1 else 0) := Lib.hid (by
    rw [hv]
    unfold oneN hi
    dsimp only
    rw [if_neg (by omega), Int.toNat_natCast, hdm]
    dsimp only
    by_cases hx : x ≠ kn kk
    · rw [if_pos hx, if_pos (.inr (.inr hx))]
    · rw [if_neg hx, if_neg]
      rintro (h | h | h)
      · omega
      · omega
      · exact hx h)
  have d1 : decide ((kk : Int) < 1) = false := by simp; omega
  have d5 : decide (5 < (kk : Int)) = false := by simp; omega
  have d0 : decide ((m : Int) < 0) = false := by simp
  have dl : decide (d.length ≤ m) = false := by simp; omega
  have dm : (m : Int) < (d.length : Int) := by omega
  have dm0 : (0 : Int) ≤ (m : Int) := by omega
  have dk : (kk : Int) < 6 := by omega
  have dk0 : (0 : Int) ≤ (kk : Int) := by omega
  unfold needBox kindBox at HO
  clear hA hv hm
  by_cases hx : x = kn kk
  · have hxb : (x != kn kk) = false := by simp [hx]
    have HV2 : Hid (v = if b < lo ((kk : Int), (m : Int), b) ∨ (if (kk : Int) = 4 then z else if (kk : Int) = 5 then y else 0) < b then 1 else 0) := Lib.hid (by rw [HV.out, if_neg (by simpa using hx)])
    clear HV hx
    by_cases e4 : kk = 4
    · have f4 : ((kk : Int) == 4) = true := by simp; omega
      have f5 : ((kk : Int) == 5) = false := by simp; omega
      have HV3 : Hid (v = if b < 1 ∨ z < b then 1 else 0) := Lib.hid (by
        have el : lo ((kk : Int), (m : Int), b) = 1 := if_pos (.inl (by show (kk : Int) = 4; omega))
        have eh : (if (kk : Int) = 4 then z else if (kk : Int) = 5 then y else 0) = z := if_pos (by omega)
        rw [HV2.out, el, eh])
      clear e4 HV2 h1 h5
      by_cases g1 : b < 1
      · have q1 : decide (b < 1) = true := by simpa using g1
        have HV4 : Hid (v = 1) := Lib.hid (by rw [HV3.out, if_pos (.inl g1)])
        rw [HV4.out]
        clear g1
        go_enter Tryd.func83, Tryd.ntmps83
        go_upto_region 4 with fail
        generalize (w.alloc (.cells #[.int .i64 (kk : Int), .int .i64 (m : Int), .int .i64 b] 124)).alloc (.cells #[.int .i64 0, .int .i64 1, .int .i64 2, .int .i64 2, .int .i64 3, .int .i64 6] 3) = W at *
        obtain ⟨c0, c1, c2⟩ := HO.out.box
        have ck := HO.out.kinds kk HK.out.1 HK.out.2
        obtain ⟨b0, off, hAe, hbl, x0, x1, x2⟩ := HO.out.list m HM.out
        injection hAe with hAe
        subst hAe
        rw [hdm] at x0 x1 x2
        dsimp only at x0 x1 x2
        go_quiet (fail)
        go_wp2_with fail
        go_quiet (fail)
        go_wp2
        go_ret
        exact ⟨rfl, by first | exact below_drewN (below_drewN HO.out.below _) _ | exact below_drewN HO.out.below _⟩
      · have q1 : decide (b < 1) = false := by simpa using g1
        by_cases g2 : z < b
        · have q2 : decide (z < b) = true := by simpa using g2
          have HV4 : Hid (v = 1) := Lib.hid (by rw [HV3.out, if_pos (.inr g2)])
          rw [HV4.out]
          clear g1 g2
          go_enter Tryd.func83, Tryd.ntmps83
          go_upto_region 4 with fail
          generalize (w.alloc (.cells #[.int .i64 (kk : Int), .int .i64 (m : Int), .int .i64 b] 124)).alloc (.cells #[.int .i64 0, .int .i64 1, .int .i64 2, .int .i64 2, .int .i64 3, .int .i64 6] 3) = W at *
          obtain ⟨c0, c1, c2⟩ := HO.out.box
          have ck := HO.out.kinds kk HK.out.1 HK.out.2
          obtain ⟨b0, off, hAe, hbl, x0, x1, x2⟩ := HO.out.list m HM.out
          injection hAe with hAe
          subst hAe
          rw [hdm] at x0 x1 x2
          dsimp only at x0 x1 x2
          go_quiet (fail)
          go_wp2_with fail
          go_quiet (fail)
          go_wp2
          go_ret
          exact ⟨rfl, by first | exact below_drewN (below_drewN HO.out.below _) _ | exact below_drewN HO.out.below _⟩
        · have q2 : decide (z < b) = false := by simpa using g2
          have HV4 : Hid (v = 0) := Lib.hid (by rw [HV3.out, if_neg (by omega)])
          rw [HV4.out]
          clear g1 g2
          go_enter Tryd.func83, Tryd.ntmps83
          go_upto_region 4 with fail
          generalize (w.alloc (.cells #[.int .i64 (kk : Int), .int .i64 (m : Int), .int .i64 b] 124)).alloc (.cells #[.int .i64 0, .int .i64 1, .int .i64 2, .int .i64 2, .int .i64 3, .int .i64 6] 3) = W at *
          obtain ⟨c0, c1, c2⟩ := HO.out.box
          have ck := HO.out.kinds kk HK.out.1 HK.out.2
          obtain ⟨b0, off, hAe, hbl, x0, x1, x2⟩ := HO.out.list m HM.out
          injection hAe with hAe
          subst hAe
          rw [hdm] at x0 x1 x2
          dsimp only at x0 x1 x2
          go_quiet (fail)
          go_wp2_with fail
          go_quiet (fail)
          go_wp2
          go_ret
          exact ⟨rfl, by first | exact below_drewN (below_drewN HO.out.below _) _ | exact below_drewN HO.out.below _⟩
    · have f4 : ((kk : Int) == 4) = false := by simp; omega
      by_cases e5 : kk = 5
      · have f5 : ((kk : Int) == 5) = true := by simp; omega
        have HV3 : Hid (v = if b < 1 ∨ y < b then 1 else 0) := Lib.hid (by
          have el : lo ((kk : Int), (m : Int), b) = 1 := if_pos (.inr (by show (kk : Int) = 5; omega))
          have eh : (if (kk : Int) = 4 then z else if (kk : Int) = 5 then y else 0) = y := by rw [if_neg (by omega), if_pos (by omega)]
          rw [HV2.out, el, eh])
        clear e4 e5 HV2 h1 h5
        by_cases g1 : b < 1
        · have q1 : decide (b < 1) = true := by simpa using g1
          have HV4 : Hid (v = 1) := Lib.hid (by rw [HV3.out, if_pos (.inl g1)])
          rw [HV4.out]
          clear g1
          go_enter Tryd.func83, Tryd.ntmps83
          go_upto_region 4 with fail
          generalize (w.alloc (.cells #[.int .i64 (kk : Int), .int .i64 (m : Int), .int .i64 b] 124)).alloc (.cells #[.int .i64 0, .int .i64 1, .int .i64 2, .int .i64 2, .int .i64 3, .int .i64 6] 3) = W at *
          obtain ⟨c0, c1, c2⟩ := HO.out.box
          have ck := HO.out.kinds kk HK.out.1 HK.out.2
          obtain ⟨b0, off, hAe, hbl, x0, x1, x2⟩ := HO.out.list m HM.out
          injection hAe with hAe
          subst hAe
          rw [hdm] at x0 x1 x2
          dsimp only at x0 x1 x2
          go_quiet (fail)
          go_wp2_with fail
          go_quiet (fail)
          go_wp2
          go_ret
          exact ⟨rfl, by first | exact below_drewN (below_drewN HO.out.below _) _ | exact below_drewN HO.out.below _⟩
        · have q1 : decide (b < 1) = false := by simpa using g1
          by_cases g2 : y < b
          · have q2 : decide (y < b) = true := by simpa using g2
            have HV4 : Hid (v = 1) := Lib.hid (by rw [HV3.out, if_pos (.inr g2)])
            rw [HV4.out]
            clear g1 g2
            go_enter Tryd.func83, Tryd.ntmps83
            go_upto_region 4 with fail
            generalize (w.alloc (.cells #[.int .i64 (kk : Int), .int .i64 (m : Int), .int .i64 b] 124)).alloc (.cells #[.int .i64 0, .int .i64 1, .int .i64 2, .int .i64 2, .int .i64 3, .int .i64 6] 3) = W at *
            obtain ⟨c0, c1, c2⟩ := HO.out.box
            have ck := HO.out.kinds kk HK.out.1 HK.out.2
            obtain ⟨b0, off, hAe, hbl, x0, x1, x2⟩ := HO.out.list m HM.out
            injection hAe with hAe
            subst hAe
            rw [hdm] at x0 x1 x2
            dsimp only at x0 x1 x2
            go_quiet (fail)
            go_wp2_with fail
            go_quiet (fail)
            go_wp2
            go_ret
            exact ⟨rfl, by first | exact below_drewN (below_drewN HO.out.below _) _ | exact below_drewN HO.out.below _⟩
          · have q2 : decide (y < b) = false := by simpa using g2
            have HV4 : Hid (v = 0) := Lib.hid (by rw [HV3.out, if_neg (by omega)])
            rw [HV4.out]
            clear g1 g2
            go_enter Tryd.func83, Tryd.ntmps83
            go_upto_region 4 with fail
            generalize (w.alloc (.cells #[.int .i64 (kk : Int), .int .i64 (m : Int), .int .i64 b] 124)).alloc (.cells #[.int .i64 0, .int .i64 1, .int .i64 2, .int .i64 2, .int .i64 3, .int .i64 6] 3) = W at *
            obtain ⟨c0, c1, c2⟩ := HO.out.box
            have ck := HO.out.kinds kk HK.out.1 HK.out.2
            obtain ⟨b0, off, hAe, hbl, x0, x1, x2⟩ := HO.out.list m HM.out
            injection hAe with hAe
            subst hAe
            rw [hdm] at x0 x1 x2
            dsimp only at x0 x1 x2
            go_quiet (fail)
            go_wp2_with fail
            go_quiet (fail)
            go_wp2
            go_ret
            exact ⟨rfl, by first | exact below_drewN (below_drewN HO.out.below _) _ | exact below_drewN HO.out.below _⟩
      · have f5 : ((kk : Int) == 5) = false := by simp; omega
        have HV3 : Hid (v = if b < 0 ∨ 0 < b then 1 else 0) := Lib.hid (by
          have el : lo ((kk : Int), (m : Int), b) = 0 := if_neg (by show ¬ ((kk : Int) = 4 ∨ (kk : Int) = 5); omega)
          have eh : (if (kk : Int) = 4 then z else if (kk : Int) = 5 then y else 0) = 0 := by rw [if_neg (by omega), if_neg (by omega)]
          rw [HV2.out, el, eh])
        clear e4 e5 HV2 h1 h5
        by_cases g1 : b < 0
        · have q1 : decide (b < 0) = true := by simpa using g1
          have HV4 : Hid (v = 1) := Lib.hid (by rw [HV3.out, if_pos (.inl g1)])
          rw [HV4.out]
          clear g1
          go_enter Tryd.func83, Tryd.ntmps83
          go_upto_region 4 with fail
          generalize (w.alloc (.cells #[.int .i64 (kk : Int), .int .i64 (m : Int), .int .i64 b] 124)).alloc (.cells #[.int .i64 0, .int .i64 1, .int .i64 2, .int .i64 2, .int .i64 3, .int .i64 6] 3) = W at *
          obtain ⟨c0, c1, c2⟩ := HO.out.box
          have ck := HO.out.kinds kk HK.out.1 HK.out.2
          obtain ⟨b0, off, hAe, hbl, x0, x1, x2⟩ := HO.out.list m HM.out
          injection hAe with hAe
          subst hAe
          rw [hdm] at x0 x1 x2
          dsimp only at x0 x1 x2
          go_quiet (fail)
          go_wp2
          go_ret
          exact ⟨rfl, by first | exact below_drewN (below_drewN HO.out.below _) _ | exact below_drewN HO.out.below _⟩
        · have q1 : decide (b < 0) = false := by simpa using g1
          by_cases g2 : 0 < b
          · have q2 : decide (0 < b) = true := by simpa using g2
            have HV4 : Hid (v = 1) := Lib.hid (by rw [HV3.out, if_pos (.inr g2)])
            rw [HV4.out]
            clear g1 g2
            go_enter Tryd.func83, Tryd.ntmps83
            go_upto_region 4 with fail
            generalize (w.alloc (.cells #[.int .i64 (kk : Int), .int .i64 (m : Int), .int .i64 b] 124)).alloc (.cells #[.int .i64 0, .int .i64 1, .int .i64 2, .int .i64 2, .int .i64 3, .int .i64 6] 3) = W at *
            obtain ⟨c0, c1, c2⟩ := HO.out.box
            have ck := HO.out.kinds kk HK.out.1 HK.out.2
            obtain ⟨b0, off, hAe, hbl, x0, x1, x2⟩ := HO.out.list m HM.out
            injection hAe with hAe
            subst hAe
            rw [hdm] at x0 x1 x2
            dsimp only at x0 x1 x2
            go_quiet (fail)
            go_wp2
            go_ret
            exact ⟨rfl, by first | exact below_drewN (below_drewN HO.out.below _) _ | exact below_drewN HO.out.below _⟩
          · have q2 : decide (0 < b) = false := by simpa using g2
            have HV4 : Hid (v = 0) := Lib.hid (by rw [HV3.out, if_neg (by omega)])
            rw [HV4.out]
            clear g1 g2
            go_enter Tryd.func83, Tryd.ntmps83
            go_upto_region 4 with fail
            generalize (w.alloc (.cells #[.int .i64 (kk : Int), .int .i64 (m : Int), .int .i64 b] 124)).alloc (.cells #[.int .i64 0, .int .i64 1, .int .i64 2, .int .i64 2, .int .i64 3, .int .i64 6] 3) = W at *
            obtain ⟨c0, c1, c2⟩ := HO.out.box
            have ck := HO.out.kinds kk HK.out.1 HK.out.2
            obtain ⟨b0, off, hAe, hbl, x0, x1, x2⟩ := HO.out.list m HM.out
            injection hAe with hAe
            subst hAe
            rw [hdm] at x0 x1 x2
            dsimp only at x0 x1 x2
            go_quiet (fail)
            go_wp2
            go_ret
            exact ⟨rfl, by first | exact below_drewN (below_drewN HO.out.below _) _ | exact below_drewN HO.out.below _⟩
  · have hxb : (x != kn kk) = true := by simpa using hx
    have HV2 : Hid (v = 1) := Lib.hid (by rw [HV.out, if_pos hx])
    rw [HV2.out]
    clear HV hx h1 h5
    go_enter Tryd.func83, Tryd.ntmps83
    go_upto_region 4 with fail
    generalize (w.alloc (.cells #[.int .i64 (kk : Int), .int .i64 (m : Int), .int .i64 b] 124)).alloc (.cells #[.int .i64 0, .int .i64 1, .int .i64 2, .int .i64 2, .int .i64 3, .int .i64 6] 3) = W at *
    obtain ⟨c0, c1, c2⟩ := HO.out.box
    have ck := HO.out.kinds kk HK.out.1 HK.out.2
    obtain ⟨b0, off, hAe, hbl, x0, x1, x2⟩ := HO.out.list m HM.out
    injection hAe with hAe
    subst hAe
    rw [hdm] at x0 x1 x2
    dsimp only at x0 x1 x2
    go_quiet (fail)
    go_wp2
    go_ret
    exact ⟨rfl, below_drewN HO.out.below _⟩
theorem refOne9_any (A : Option Addr) (cap : Nat) (d : List De) (n : De) (hl : d.length ≤ 9223372036854775807) (w : World) (hA : DAt w A d) :
    Calls Tryd.prog 83 #[.slice A d.length cap, .agg #[.int .i64 n.1, .int .i64 n.2.1, .int .i64 n.2.2]] w (OnePost9 d n w) := by
  obtain ⟨k, a, b⟩ := n
  dsimp only
  by_cases h : k < 1 ∨ 5 < k
  · exact refOne9_6 A cap d k a b h w
  · obtain ⟨kk, rfl⟩ : ∃ kk : Nat, k = (kk : Int) := ⟨k.toNat, by omega⟩
    by_cases ho : a < 0 ∨ (d.length : Int) ≤ a
    · exact refOne9_out A cap d kk a b (by omega) (by omega) ho w hA
    · obtain ⟨m, rfl⟩ : ∃ m : Nat, a = (m : Int) := ⟨a.toNat, by omega⟩
      have hm : m < d.length := by omega
      obtain ⟨b0, off, rfl, _⟩ := hA m hm
      exact refOne9_in _ cap d kk m b (by omega) (by omega) hm hl w hA
end Go.Proofs.YtjbcmedljgafkaaDoor.need
