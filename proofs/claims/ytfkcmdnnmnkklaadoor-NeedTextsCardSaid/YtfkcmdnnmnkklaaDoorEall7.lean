/-
  Texts of one claim in one file: ENeed, ERefCheck, BPlain. Each has its own sentence, with its conditions.
-/
import Derived.Test.YtfkcmdnnmnkklaaDoorEall6
import Derived.Test.YtfkcmdnnmnkklaaDoorEall3
import Derived.Laws.BitsAllLaws
/-
  The program's own answer whether a need of a kind that there is asks what may be (typed over the code of 5ef5b61): for every need. The tables must lie where their initialisers lay them.
-/
namespace Go.Proofs.YtfkcmdnnmnkklaaDoor.need
open Go.RowKit Go.ChangeShapes
open Go.Proofs.YtfkcmdnnmnkklaaDoor.objs (De zero CellsAt DAt)
open Go.Proofs.YtfkcmdnnmnkklaaDoor.span (within_any)
set_option linter.unusedVariables false

/-- May the number be that a need has, of an object with numbers y, z? -/
def amount (k : Nat) (b y z : Int) : Bool := if k = 4 then decide (1 ≤ b ∧ b ≤ z) else if k = 5 then decide (1 ≤ b ∧ b ≤ y) else b == 0
theorem oneN_out {d : List De} {kk : Nat} {a b : Int} (h1 : 1 ≤ kk) (h5 : kk ≤ 5) (ho : a < 0 ∨ (d.length : Int) ≤ a) : oneN d ((kk : Int), a, b) = 1 := by
  unfold oneN
  dsimp only
  rw [if_neg (by omega), if_pos (by rcases ho with h | h; exact .inl h; exact .inr (.inl h))]
theorem oneN_in {d : List De} {kk m : Nat} {b x y z : Int} (h1 : 1 ≤ kk) (h5 : kk ≤ 5) (hm : m < d.length) (hd : d.getD m zero = (x, y, z)) : decide (oneN d ((kk : Int), (m : Int), b) = 0) = (!(x != kn kk) && amount kk b y z) := by
  unfold oneN hi lo amount
  dsimp only
  rw [if_neg (by omega), Int.toNat_natCast, hd]
  dsimp only
  by_cases hx : x = kn kk
  · rw [if_neg (by rintro (h | h | h); omega; omega; exact h hx)]
    have e : (x != kn kk) = false := by simp [hx]
    rw [e, Bool.not_false, Bool.true_and]
    by_cases e4 : kk = 4
    · have q1 : (if (kk : Int) = 4 ∨ (kk : Int) = 5 then (1 : Int) else 0) = 1 := if_pos (by omega)
      have q2 : (if (kk : Int) = 4 then z else if (kk : Int) = 5 then y else 0) = z := if_pos (by omega)
      rw [q1, q2, if_pos e4]
      by_cases hc : 1 ≤ b ∧ b ≤ z
      · rw [if_neg (by omega), decide_eq_true hc]; rfl
      · rw [if_pos (by omega), decide_eq_false hc]; rfl
    · by_cases e5 : kk = 5
      · have q1 : (if (kk : Int) = 4 ∨ (kk : Int) = 5 then (1 : Int) else 0) = 1 := if_pos (by omega)
        have q2 : (if (kk : Int) = 4 then z else if (kk : Int) = 5 then y else 0) = y := by rw [if_neg (by omega), if_pos (by omega)]
        rw [q1, q2, if_neg e4, if_pos e5]
        by_cases hc : 1 ≤ b ∧ b ≤ y
        · rw [if_neg (by omega), decide_eq_true hc]; rfl
        · rw [if_pos (by omega), decide_eq_false hc]; rfl
      · have q1 : (if (kk : Int) = 4 ∨ (kk : Int) = 5 then (1 : Int) else 0) = 0 := if_neg (by omega)
        have q2 : (if (kk : Int) = 4 then z else if (kk : Int) = 5 then y else 0) = 0 := by rw [if_neg (by omega), if_neg (by omega)]
        rw [q1, q2, if_neg e4, if_neg e5]
        by_cases hc : b = 0
        · subst hc; rfl
        · rw [if_pos (by omega)]
          simp [hc]
  · rw [if_pos (.inr (.inr hx))]
    have e : (x != kn kk) = true := by simpa using hx
    rw [e]
    rfl

/-- Behind the need's box. -/
structure Nb (w : World) (A : Option Addr) (d : List De) (k a b : Int) (W : World) : Prop where
  below : Below w.heap.size w W
  box : W.cell? ⟨w.heap.size, 0, none⟩ = some (.int .i64 k) ∧ W.cell? ⟨w.heap.size, 1, none⟩ = some (.int .i64 a) ∧ W.cell? ⟨w.heap.size, 2, none⟩ = some (.int .i64 b)
  list : DAt W A d
  ok : Oka W
theorem nb_new {w : World} {A : Option Addr} {d : List De} (k a b : Int) (hA : DAt w A d) (hw : Oka w) : Nb w A d k a b (w.alloc (needBox k a b)) := by
  have hb := nbox_below w k a b
  refine ⟨hb, ?_, hA.next hb, hw.next hb⟩
  unfold World.cell?
  rw [heap_alloc_new w _]
  exact ⟨rfl, rfl, rfl⟩
/-- Behind the object's box. -/
structure Ob (w : World) (g2 : Nat) (k a b x y z : Int) (W : World) : Prop where
  below : Below w.heap.size w W
  box : W.cell? ⟨w.heap.size, 0, none⟩ = some (.int .i64 k) ∧ W.cell? ⟨w.heap.size, 1, none⟩ = some (.int .i64 a) ∧ W.cell? ⟨w.heap.size, 2, none⟩ = some (.int .i64 b)
  obj : W.cell? ⟨g2, 0, none⟩ = some (.int .i64 x) ∧ W.cell? ⟨g2, 1, none⟩ = some (.int .i64 y) ∧ W.cell? ⟨g2, 2, none⟩ = some (.int .i64 z)
  ok : Oka W
def objBox (x y z : Int) : Obj := .cells #[.int .i64 x, .int .i64 y, .int .i64 z] 57
theorem Nb.obj {w W : World} {A : Option Addr} {d : List De} {k a b : Int} (h : Nb w A d k a b W) (x y z : Int) : Ob w W.heap.size k a b x y z (W.alloc (objBox x y z)) := by
  have hb : Below W.heap.size W (W.alloc (objBox x y z)) := (Below.refl _ W).alloc (Nat.le_refl _) _
  have hg : w.heap.size < W.heap.size := by
    rcases Nat.lt_or_ge w.heap.size W.heap.size with h1 | h1
    · exact h1
    · have := h.box.1
      simp [World.cell?, Array.getElem?_eq_none h1] at this
  refine ⟨h.below.trans (hb.mono h.below.size), ?_, ?_, h.ok.next hb⟩
  · rw [hb.cell (p := ⟨w.heap.size, 0, none⟩) hg, hb.cell (p := ⟨w.heap.size, 1, none⟩) hg, hb.cell (p := ⟨w.heap.size, 2, none⟩) hg]
    exact h.box
  · unfold World.cell?
    rw [heap_alloc_new W _]
    exact ⟨rfl, rfl, rfl⟩

set_option maxRecDepth 100000 in
set_option maxHeartbeats 2000000 in
theorem range_out (A : Option Addr) (cap : Nat) (d : List De) (kk : Nat) (a b : Int) (h1 : 1 ≤ kk) (h5 : kk ≤ 5) (ho : a < 0 ∨ (d.length : Int) ≤ a) (w : World) :
    Calls Tryd.prog 58 #[.slice A d.length cap, .agg #[.int .i64 (kk : Int), .int .i64 a, .int .i64 b]] w fun e w' => e = .returned (.bool (decide (oneN d ((kk : Int), a, b) = 0))) ∧ Below w.heap.size w w' := by
  rw [oneN_out h1 h5 ho, decide_eq_false (by decide)]
  have HB := Lib.hid (nbox_below w (kk : Int) a b)
  unfold needBox at HB
  by_cases h0 : a < 0
  · have d0 : decide (a < 0) = true := by simpa using h0
    clear ho h0
    go_enter Tryd.func58, Tryd.ntmps58
    go_wp2
    go_ret
    exact ⟨rfl, HB.out⟩
  · have d0 : decide (a < 0) = false := by simpa using h0
    have dl : decide ((d.length : Int) ≤ a) = true := by simp; omega
    clear ho h0
    go_enter Tryd.func58, Tryd.ntmps58
    go_wp2
    go_ret
    exact ⟨rfl, HB.out⟩

set_option maxRecDepth 100000 in
set_option maxHeartbeats 4000000 in
theorem range_in (A : Option Addr) (cap : Nat) (d : List De) (kk m : Nat) (b : Int) (h1 : 1 ≤ kk) (h5 : kk ≤ 5) (hm : m < d.length) (hl : d.length ≤ 9223372036854775807) (w : World) (hA : DAt w A d) (hw : Oka w) :
    Calls Tryd.prog 58 #[.slice A d.length cap, .agg #[.int .i64 (kk : Int), .int .i64 (m : Int), .int .i64 b]] w fun e w' => e = .returned (.bool (decide (oneN d ((kk : Int), (m : Int), b) = 0))) ∧ Below w.heap.size w w' := by
  obtain ⟨⟨x, y, z⟩, hdm⟩ : ∃ t : De, d.getD m zero = t := ⟨_, rfl⟩
  obtain ⟨r, hr⟩ : ∃ r, r = decide (oneN d ((kk : Int), (m : Int), b) = 0) := ⟨_, rfl⟩
  rw [← hr]
  have HR := Lib.hid (hr.trans (oneN_in h1 h5 hm hdm))
  have HN := Lib.hid (nb_new (kk : Int) (m : Int) b hA hw)
  have HO := Lib.hid (HN.out.obj x y z)
  have H1 := fun W => Lib.hid (within_any b 1 z W)
  have H2 := fun W => Lib.hid (within_any b 1 y W)
  have d0 : decide ((m : Int) < 0) = false := by simp
  have dl : decide (d.length ≤ m) = false := by simp; omega
  have dm : (m : Int) < (d.length : Int) := by omega
  have dm0 : (0 : Int) ≤ (m : Int) := by omega
  have dk : (kk : Int) < 6 := by omega
  have dk0 : (0 : Int) ≤ (kk : Int) := by omega
  have hb0 := hA.next (nbox_below w (kk : Int) (m : Int) b)
  obtain ⟨b0, off, rfl, hbl, x0, x1, x2⟩ := hb0 m hm
  rw [hdm] at x0 x1 x2
  dsimp only at x0 x1 x2
  obtain ⟨c0, c1, c2⟩ := HN.out.box
  have hk := asked_kn h1 h5
  have HK := Lib.hid (And.intro h1 h5)
  unfold needBox at HO c0 c1 c2 x0 x1 x2
  rw [World.size_alloc] at HO
  unfold objBox at HO
  clear hA hw hm h1 h5 hb0 hbl HN hdm hr
  go_enter Tryd.func58, Tryd.ntmps58
  go_upto_region 4 with fail
  clear c0 c1 c2 x0 x1 x2
  generalize (w.alloc (.cells #[.int .i64 (kk : Int), .int .i64 (m : Int), .int .i64 b] 59)).alloc (.cells #[.int .i64 x, .int .i64 y, .int .i64 z] 57) = W at *
  obtain ⟨c0, c1, c2⟩ := HO.out.box
  obtain ⟨x0, x1, x2⟩ := HO.out.obj
  have ck := HO.out.ok.ak kk (by omega)
  rw [hk] at ck
  cases hx : (x != kn (kk : Int)) with
  | true =>
    have HE : Hid (r = false) := Lib.hid (by rw [HR.out, hx]; rfl)
    go_quiet (fail)
    go_wp2
    go_ret
    exact ⟨ret_bool (by rw [HE.out]), below_drewN HO.out.below _⟩
  | false =>
    have HE : Hid (r = amount kk b y z) := Lib.hid (by rw [HR.out, hx, Bool.not_false, Bool.true_and])
    clear HR
    unfold amount at HE
    by_cases e4 : kk = 4
    · rw [if_pos e4] at HE
      have f4 : ((kk : Int) == 4) = true := by simp; omega
      clear e4
      go_quiet (fail)
      go_wp2_with fail
      refine (H1 _).out.mono ?_
      rintro e w1 ⟨rfl, rfl⟩
      go_wp2
      go_ret
      exact ⟨ret_bool (by rw [HE.out, Bool.decide_and]), below_drewN HO.out.below _⟩
    · rw [if_neg e4] at HE
      have f4 : ((kk : Int) == 4) = false := by simp; omega
      by_cases e5 : kk = 5
      · rw [if_pos e5] at HE
        have f5 : ((kk : Int) == 5) = true := by simp; omega
        clear e4 e5
        go_quiet (fail)
        go_wp2_with fail
        refine (H2 _).out.mono ?_
        rintro e w1 ⟨rfl, rfl⟩
        go_wp2
        go_ret
        exact ⟨ret_bool (by rw [HE.out, Bool.decide_and]), below_drewN HO.out.below _⟩
      · rw [if_neg e5] at HE
        have f5 : ((kk : Int) == 5) = false := by simp; omega
        clear e4 e5
        go_quiet (fail)
        go_wp2
        go_ret
        exact ⟨ret_bool HE.out.symm, below_drewN HO.out.below _⟩

theorem range_any (A : Option Addr) (cap : Nat) (d : List De) (n : De) (hk : 1 ≤ n.1 ∧ n.1 ≤ 5) (hl : d.length ≤ 9223372036854775807) (w : World) (hA : DAt w A d) (hw : Oka w) :
    Calls Tryd.prog 58 #[.slice A d.length cap, .agg #[.int .i64 n.1, .int .i64 n.2.1, .int .i64 n.2.2]] w fun e w' => e = .returned (.bool (decide (oneN d n = 0))) ∧ Below w.heap.size w w' := by
  obtain ⟨k, a, b⟩ := n
  dsimp only at hk ⊢
  obtain ⟨kk, rfl⟩ : ∃ kk : Nat, k = (kk : Int) := ⟨k.toNat, by omega⟩
  by_cases ho : a < 0 ∨ (d.length : Int) ≤ a
  · exact range_out A cap d kk a b (by omega) (by omega) ho w
  · obtain ⟨m, rfl⟩ : ∃ m : Nat, a = (m : Int) := ⟨a.toNat, by omega⟩
    exact range_in A cap d kk m b (by omega) (by omega) (by omega) hl w hA hw
end Go.Proofs.YtfkcmdnnmnkklaaDoor.need

/-
  The document's own answer what is wrong with a wait: also of one that is longer than may be. No condition but that its lengths are ints.
-/
namespace Go.Proofs.YtfkcmdnnmnkklaaDoor.need
open Go.RowKit Go.ChangeShapes
open Go.Proofs.YtfkcmdnnmnkklaaDoor.objs (De zero CellsAt DAt below_drewN)
set_option linter.unusedVariables false

theorem clashTo_yes {l : List De} {k j : Nat} (hj : j < k) (h : clash (l.getD j zero) (l.getD k zero) = true) : ∀ m, j < m → clashTo l k m = true := by
  intro m
  induction m with
  | zero => intro h; omega
  | succ m ih =>
    intro hm
    unfold clashTo
    rcases Nat.lt_or_ge j m with h1 | h1
    · rw [ih h1, Bool.true_or]
    · obtain rfl : m = j := by omega
      rw [h, Bool.or_true]
theorem twiceTo_yes {l : List De} {k : Nat} (h : clashTo l k k = true) : ∀ m, k < m → twiceTo l m = true := by
  intro m
  induction m with
  | zero => intro h; omega
  | succ m ih =>
    intro hm
    unfold twiceTo
    rcases Nat.lt_or_ge k m with h1 | h1
    · rw [ih h1, Bool.true_or]
    · obtain rfl : m = k := by omega
      rw [h, Bool.or_true]
theorem chkWay_2 {d l : List De} (h : l.length = 0) : chkWay d l = 2 := by unfold chkWay; rw [if_pos h]
theorem chkWay_4 {d l : List De} (h : 4 < l.length) : chkWay d l = 4 := by unfold chkWay; rw [if_neg (by omega), if_pos h]
theorem chkWay_bad {d l : List De} (h0 : l.length ≠ 0) (h4 : ¬ 4 < l.length) (h : ones d l ≠ 0) : chkWay d l = ones d l := by unfold chkWay; rw [if_neg h0, if_neg h4, if_pos h]
theorem chkWay_twice {d l : List De} (h0 : l.length ≠ 0) (h4 : ¬ 4 < l.length) (h1 : ones d l = 0) (h : twiceTo l l.length = true) : chkWay d l = 2 := by unfold chkWay; rw [if_neg h0, if_neg h4, if_neg (by omega), if_pos h]
theorem chkWay_fine {d l : List De} (h0 : l.length ≠ 0) (h4 : ¬ 4 < l.length) (h1 : ones d l = 0) (h : twiceTo l l.length = false) : chkWay d l = 0 := by unfold chkWay; rw [if_neg h0, if_neg h4, if_neg (by omega), if_neg (by rw [h]; decide)]

def ChkPost9 (c : Nat) (w : World) (e : Ending) (w' : World) : Prop := e = .returned (.int .i64 (c : Nat)) ∧ Below w.heap.size w w'
set_option maxHeartbeats 1000000 in
theorem refCheck9_2 (A B : Option Addr) (nd capd capw : Nat) (w : World) : Calls Tryd.prog 12 #[.slice A nd capd, .slice B 0 capw] w (ChkPost9 2 w) := by
  unfold ChkPost9
  go_enter Tryd.func12, Tryd.ntmps12
  go_wp2_with fail
  go_ret
  exact ⟨rfl, Below.refl _ _⟩
set_option maxHeartbeats 1000000 in
theorem refCheck9_4 (A B : Option Addr) (nd capd n capw : Nat) (hn : 4 < n) (w : World) : Calls Tryd.prog 12 #[.slice A nd capd, .slice B n capw] w (ChkPost9 4 w) := by
  unfold ChkPost9
  have h0 : ((n : Int) == 0) = false := by simp; omega
  have h4 : decide ((4 : Int) < (n : Int)) = true := by simp; omega
  clear hn
  go_enter Tryd.func12, Tryd.ntmps12
  go_wp2_with fail
  go_ret
  exact ⟨rfl, Below.refl _ _⟩

set_option maxRecDepth 100000 in
set_option maxHeartbeats 16000000 in
theorem refCheck9_any (A B : Option Addr) (capd n capw : Nat) (d : List De) (l : List (List De)) (hdl : d.length ≤ 9223372036854775807) (w : World) (hA : DAt w A d) (hB : WG w B n l) :
    Calls Tryd.prog 12 #[.slice A d.length capd, .slice B n capw] w (ChkPost9 (chkW d l) w) := by
  have hmin := hB.1
  by_cases h0 : n = 0
  · subst h0
    have e : chkW d l = 2 := by unfold chkW; rw [if_pos (by omega)]
    rw [e]
    exact refCheck9_2 A B d.length capd capw w
  · by_cases h4 : 4 < n
    · have e : chkW d l = 4 := by unfold chkW; rw [if_neg (by omega), if_pos (by omega)]
      rw [e]
      exact refCheck9_4 A B d.length capd n capw h4 w
    · obtain rfl : n = l.length := by omega
      obtain ⟨v, hv⟩ : ∃ v, v = chkW d l := ⟨_, rfl⟩
      have HV : Hid (v = ways d l) := Lib.hid (by rw [hv]; unfold chkW; rw [if_neg h0, if_neg h4])
      rw [← hv]
      unfold ChkPost9
      have hb0 : ((l.length : Int) == 0) = false := by simp; intro h; exact h0 (by rw [h]; rfl)
      have hb4 : decide ((4 : Int) < (l.length : Int)) = false := by simp; omega
      have HA := Lib.hid hA
      have HB := Lib.hid hB
      have HL4 := Lib.hid h4
      clear hA hB hv hmin h0 h4
      go_enter Tryd.func12, Tryd.ntmps12
      go_wp2_with fail
      go_loopw [5] (fun i wr => ∃ j : Nat, j ≤ l.length ∧ i = .int .i64 (j : Int) ∧ Hid (v = ways d (l.drop j)) ∧ Hid (Below w.heap.size w wr)) (fun i _ => l.length - (intOf i).toNat)
      case atStart => exact ⟨0, Nat.zero_le _, rfl, by simpa using HV, Lib.hid (Below.refl _ _)⟩
      case round =>
        obtain ⟨j, hj, rfl, HJ, HW⟩ := hrel
        by_cases hlt : j < l.length
        · have HNx := Lib.hid (ways_drop (d := d) hlt)
          obtain ⟨b, off, Aj, nj, cj, rfl, hbl, hc, hdj, hmj, _, _, _⟩ := (HB.out.next HW.out).2 j hlt
          have HD0 := Lib.hid ((HB.out).2 j hlt)
          have hlt' : (j : Int) < (l.length : Int) := by omega
          have hj0 : (0 : Int) ≤ (j : Int) := by omega
          generalize l.getD j [] = lj at *
          by_cases n0 : nj = 0
          · subst n0
            have HR : Hid (v = 2) := Lib.hid (by rw [HJ.out, HNx.out, chkWay_2 (by omega)]; rfl)
            clear hdj hmj
            go_wp2_with fail
            go_ret
            exact ⟨by rw [HR.out]; rfl, HW.out⟩
          · by_cases n4 : 4 < nj
            · have HR : Hid (v = 4) := Lib.hid (by rw [HJ.out, HNx.out, chkWay_4 (by omega)]; rfl)
              have q0 : ((nj : Int) == 0) = false := by simp; omega
              have q4 : decide ((4 : Int) < (nj : Int)) = true := by simp; omega
              clear hdj hmj n0 n4
              go_wp2_with fail
              go_ret
              exact ⟨by rw [HR.out]; rfl, HW.out⟩
            · obtain rfl : nj = lj.length := by omega
              have q0 : ((lj.length : Int) == 0) = false := by simp; intro h; exact n0 (by rw [h]; rfl)
              have q4 : decide ((4 : Int) < (lj.length : Int)) = false := by simp; omega
              have HDj := Lib.hid hdj
              have HN := Lib.hid (And.intro n0 n4)
              clear hdj hmj n0 n4
              go_wp2_with fail
              go_loopw [7] (fun i wr => ∃ k : Nat, k ≤ lj.length ∧ i = .int .i64 (k : Int) ∧ Hid (ones d lj = ones d (lj.drop k)) ∧ Hid (Below w.heap.size w wr) ∧ Hid (DAt wr Aj lj)) (fun i _ => lj.length - (intOf i).toNat)
              case atStart => exact ⟨0, Nat.zero_le _, rfl, Lib.hid (by simp), HW, HDj⟩
              case round =>
                obtain ⟨k, hk, rfl, HK, HW2, HD2⟩ := hrel
                by_cases hlk : k < lj.length
                · have HNk := Lib.hid (ones_drop (d := d) hlk)
                  obtain ⟨bj, offj, rfl, hblj, c0, c1, c2⟩ := HD2.out k hlk
                  have hlk' : (k : Int) < (lj.length : Int) := by omega
                  have hk0 : (0 : Int) ≤ (k : Int) := by omega
                  have HO := Lib.hid (refOne9_any A capd d (lj.getD k zero) hdl wr (HA.out.next HW2.out))
                  unfold OnePost9 at HO
                  generalize lj.getD k zero = t at *
                  generalize oneN d t = q at *
                  obtain ⟨tk, tob, tn⟩ := t
                  dsimp only at HO c0 c1 c2
                  go_wp2_with fail
                  refine HO.out.mono ?_
                  rintro e w3 ⟨rfl, hb3⟩
                  have HW3 := Lib.hid (HW2.out.trans (hb3.mono HW2.out.size))
                  have HD3 := Lib.hid (HD2.out.next hb3)
                  clear hb3 c0 c1 c2 HO
                  by_cases hq : q = 0
                  · have HE : Hid (ones d lj = ones d (lj.drop (k + 1))) := Lib.hid (by rw [HK.out, HNk.out, if_neg (by simp [hq])])
                    have hq' : ((q : Int) != 0) = false := by simp [hq]
                    clear hq
                    go_wp2
                    go_roundw
                    case rel => exact ⟨k + 1, by omega, by go_num, HE, HW3, HD3⟩
                    case measure => simp [intOf]; omega
                  · have HE : Hid (ones d lj = q) := Lib.hid (by rw [HK.out, HNk.out, if_pos hq])
                    have HR : Hid (v = q) := Lib.hid (by
                      have h1 : chkWay d lj = q := by rw [chkWay_bad HN.out.1 HN.out.2 (by rw [HE.out]; exact hq), HE.out]
                      rw [HJ.out, HNx.out, h1, if_pos hq])
                    have hq' : ((q : Int) != 0) = true := by simpa using hq
                    clear hq
                    go_wp2
                    go_ret
                    exact ⟨by rw [HR.out]; rfl, HW3.out⟩
                · obtain rfl : k = lj.length := by omega
                  have H1 : Hid (ones d lj = 0) := Lib.hid (by rw [HK.out, List.drop_length]; rfl)
                  go_wp2_with fail
                  go_loopw [9] (fun i wr => ∃ k : Nat, k ≤ lj.length ∧ i = .int .i64 (k : Int) ∧ Hid (twiceTo lj k = false) ∧ Hid (Below w.heap.size w wr) ∧ Hid (DAt wr Aj lj)) (fun i _ => lj.length - (intOf i).toNat)
                  case atStart => exact ⟨0, Nat.zero_le _, rfl, Lib.hid rfl, HW2, HD2⟩
                  case round =>
                    obtain ⟨k, hk3, rfl, HT, HW3, HD3⟩ := hrel
                    by_cases hlk : k < lj.length
                    · have hlk' : (k : Int) < (lj.length : Int) := by omega
                      have hk0 : (0 : Int) ≤ (k : Int) := by omega
                      go_wp2_with fail
                      go_loopw [10] (fun i wr => ∃ jj : Nat, jj ≤ k ∧ i = .int .i64 (jj : Int) ∧ Hid (clashTo lj k jj = false) ∧ Hid (Below w.heap.size w wr) ∧ Hid (DAt wr Aj lj)) (fun i _ => k - (intOf i).toNat)
                      case atStart => exact ⟨0, Nat.zero_le _, rfl, Lib.hid rfl, HW3, HD3⟩
                      case round =>
                        obtain ⟨jj, hjj, rfl, HCl, HWc, HDc⟩ := hrel
                        by_cases hlj : jj < k
                        · have hlj' : (jj : Int) < (k : Int) := by omega
                          have hjj0 : (0 : Int) ≤ (jj : Int) := by omega
                          have hjl' : (jj : Int) < (lj.length : Int) := by omega
                          obtain ⟨bj, offj, rfl, hblj, x0, x1, x2⟩ := HDc.out jj (by omega)
                          obtain ⟨b2, off2, hAe, hbl2, y0, y1, y2⟩ := HDc.out k hlk
                          injection hAe with hAe
                          injection hAe with hAe1 hAe2
                          subst hAe1 hAe2
                          generalize hta : lj.getD jj zero = ta at *
                          generalize htb : lj.getD k zero = tb at *
                          obtain ⟨ak, ao, an⟩ := ta
                          obtain ⟨bk, bo, bn⟩ := tb
                          dsimp only at x0 x1 x2 y0 y1 y2
                          cases e1 : (ao == bo) with
                          | true =>
                            have HC : Hid (clash (ak, ao, an) (bk, bo, bn) = true) := Lib.hid (by unfold clash; dsimp only; rw [e1, Bool.true_or])
                            have HR : Hid (v = 2) := Lib.hid (by
                              have h1 : twiceTo lj lj.length = true := twiceTo_yes (clashTo_yes hlj (by rw [hta, htb]; exact HC.out) k hlj) lj.length hlk
                              rw [HJ.out, HNx.out, chkWay_twice HN.out.1 HN.out.2 H1.out h1]
                              rfl)
                            clear hta htb HC
                            go_wp2_with fail
                            go_quiet (fail)
                            go_wp2
                            go_ret
                            exact ⟨by rw [HR.out]; rfl, below_drewN HWc.out _⟩
                          | false =>
                            cases e2 : (ak == 4) with
                            | true =>
                              have HC : Hid (clash (ak, ao, an) (bk, bo, bn) = true) := Lib.hid (by unfold clash; dsimp only; rw [e1, e2, Bool.true_or, Bool.or_true])
                              have HR : Hid (v = 2) := Lib.hid (by
                                have h1 : twiceTo lj lj.length = true := twiceTo_yes (clashTo_yes hlj (by rw [hta, htb]; exact HC.out) k hlj) lj.length hlk
                                rw [HJ.out, HNx.out, chkWay_twice HN.out.1 HN.out.2 H1.out h1]
                                rfl)
                              clear hta htb HC
                              go_wp2_with fail
                              go_quiet (fail)
                              go_wp2
                              go_ret
                              exact ⟨by rw [HR.out]; rfl, below_drewN HWc.out _⟩
                            | false =>
                              cases e3 : (bk == 4) with
                              | true =>
                                have HC : Hid (clash (ak, ao, an) (bk, bo, bn) = true) := Lib.hid (by unfold clash; dsimp only; rw [e1, e2, e3, Bool.false_or, Bool.false_or])
                                have HR : Hid (v = 2) := Lib.hid (by
                                  have h1 : twiceTo lj lj.length = true := twiceTo_yes (clashTo_yes hlj (by rw [hta, htb]; exact HC.out) k hlj) lj.length hlk
                                  rw [HJ.out, HNx.out, chkWay_twice HN.out.1 HN.out.2 H1.out h1]
                                  rfl)
                                clear hta htb HC
                                go_wp2_with fail
                                go_quiet (fail)
                                go_wp2
                                go_ret
                                exact ⟨by rw [HR.out]; rfl, below_drewN HWc.out _⟩
                              | false =>
                                have HC : Hid (clashTo lj k (jj + 1) = false) := Lib.hid (by
                                  unfold clashTo
                                  rw [HCl.out, hta, htb]
                                  unfold clash
                                  dsimp only
                                  rw [e1, e2, e3]
                                  rfl)
                                clear hta htb
                                go_wp2_with fail
                                go_quiet (fail)
                                go_wp2
                                go_roundw
                                case rel => exact ⟨jj + 1, by omega, by go_num, HC, Lib.hid (below_drewN HWc.out _), Lib.hid (HDc.out.drewN _)⟩
                                case measure => simp [intOf]; omega
                        · obtain rfl : jj = k := by omega
                          have HT2 : Hid (twiceTo lj (jj + 1) = false) := Lib.hid (by unfold twiceTo; rw [HT.out, HCl.out]; rfl)
                          go_wp2_with fail
                          go_roundw
                          case rel => exact ⟨jj + 1, by omega, by go_num, HT2, HWc, HDc⟩
                          case measure => simp [intOf]; omega
                    · obtain rfl : k = lj.length := by omega
                      have HE : Hid (v = ways d (l.drop (j + 1))) := Lib.hid (by rw [HJ.out, HNx.out, chkWay_fine HN.out.1 HN.out.2 H1.out HT.out]; rfl)
                      have hl4 := HL4.out
                      go_wp2_with fail
                      go_roundw
                      case rel => exact ⟨j + 1, by omega, by go_num, HE, HW3⟩
                      case measure => simp [intOf]; omega
        · obtain rfl : j = l.length := by omega
          have HR : Hid (v = 0) := Lib.hid (by rw [HJ.out, List.drop_length]; rfl)
          go_wp2_with fail
          go_ret
          exact ⟨by rw [HR.out]; rfl, HW.out⟩
end Go.Proofs.YtfkcmdnnmnkklaaDoor.need

/-
  The plain mathematics of sets of numbers from 0 to 63, as numbers below two to the sixty-fourth: what is in one, with a number and without it, all moved. It speaks of numbers and lists alone.
-/
namespace Go.Proofs.YtfkcmdnnmnkklaaDoor.bits

/-- One with all its numbers below 64. -/
def Is64 (s : Nat) : Prop := s < 18446744073709551616
theorem two64 : (2 : Nat) ^ 64 = 18446744073709551616 := rfl
theorem ext64 {s t : Nat} (hs : Is64 s) (ht : Is64 t) (h : ∀ n, n < 64 → s.testBit n = t.testBit n) : s = t := by
  apply Nat.eq_of_testBit_eq
  intro n
  by_cases hn : n < 64
  · exact h n hn
  · have hp : (2 : Nat) ^ 64 ≤ 2 ^ n := Nat.pow_le_pow_right (by omega) (by omega)
    unfold Is64 at hs ht
    rw [Nat.testBit_lt_two_pow (by omega), Nat.testBit_lt_two_pow (by omega)]

theorem testBit_div (s n : Nat) : s.testBit n = decide (s / 2 ^ n % 2 = 1) := by
  rw [Nat.testBit_eq_decide_div_mod_eq]

/-- A number more: the weight of one that is not there. -/
theorem add_pow {s n : Nat} (h : s.testBit n = false) : s + 2 ^ n = s ||| 2 ^ n := by
  have h1 : s / 2 ^ n % 2 = 0 := by
    rw [testBit_div] at h
    have h2 : ¬ s / 2 ^ n % 2 = 1 := by simpa using h
    omega
  have hp : 0 < 2 ^ n := Nat.two_pow_pos n
  have hlo : s % 2 ^ n < 2 ^ n := Nat.mod_lt _ hp
  have hs : s = s / 2 ^ n * 2 ^ n + s % 2 ^ n := by rw [Nat.mul_comm]; exact (Nat.div_add_mod s (2 ^ n)).symm
  obtain ⟨q, hq⟩ : ∃ q, s / 2 ^ n = 2 * q := ⟨s / 2 ^ n / 2, by omega⟩
  have hhi : s / 2 ^ n * 2 ^ n = q * 2 ^ (n + 1) := by rw [hq, Nat.pow_succ, Nat.mul_comm 2 q, Nat.mul_assoc, Nat.mul_comm 2 (2 ^ n)]
  generalize s % 2 ^ n = lo at *
  rw [hhi] at hs
  have e1 : q * 2 ^ (n + 1) ||| lo = q * 2 ^ (n + 1) + lo := nat_join (n + 1) _ lo (Nat.mul_mod_left _ _) (by rw [Nat.pow_succ]; omega)
  have e2 : 2 ^ n ||| lo = 2 ^ n + lo := nat_join n _ lo (Nat.mod_self _) hlo
  have e3 : q * 2 ^ (n + 1) ||| (2 ^ n + lo) = q * 2 ^ (n + 1) + (2 ^ n + lo) := nat_join (n + 1) _ _ (Nat.mul_mod_left _ _) (by rw [Nat.pow_succ]; omega)
  rw [hs, ← e1, Nat.or_assoc, Nat.or_comm lo, e2, e3, e1]
  omega

def ins (s n : Nat) : Nat := if s.testBit n then s else s + 2 ^ n
def del (s n : Nat) : Nat := if s.testBit n then s - 2 ^ n else s
theorem ins_or (s n : Nat) : ins s n = s ||| 2 ^ n := by
  unfold ins
  by_cases h : s.testBit n = true
  · rw [if_pos h]
    apply Nat.eq_of_testBit_eq
    intro m
    rw [Nat.testBit_or, Nat.testBit_two_pow]
    by_cases hm : n = m
    · subst hm; simp [h]
    · simp [hm]
  · have h' : s.testBit n = false := by simpa using h
    rw [if_neg h, add_pow h']
theorem testBit_ins (s n m : Nat) : (ins s n).testBit m = (s.testBit m || decide (n = m)) := by
  rw [ins_or, Nat.testBit_or, Nat.testBit_two_pow]
theorem ins_lt {s n : Nat} (hs : Is64 s) (hn : n < 64) : Is64 (ins s n) := by
  unfold Is64 at *
  rw [ins_or, ← two64]
  exact Nat.or_lt_two_pow (by rw [two64]; exact hs) (Nat.pow_lt_pow_right (by omega) hn)
/-- Without a number that is there, and with it again. -/
theorem del_spec {s n : Nat} (h : s.testBit n = true) : ∃ t, s = t + 2 ^ n ∧ t.testBit n = false ∧ del s n = t := by
  have h1 : s / 2 ^ n % 2 = 1 := by
    rw [testBit_div] at h
    simpa using h
  have hp : 0 < 2 ^ n := Nat.two_pow_pos n
  have hge : 2 ^ n ≤ s := by
    rcases Nat.lt_or_ge s (2 ^ n) with hl | hl
    · rw [Nat.div_eq_of_lt hl] at h1
      omega
    · exact hl
  refine ⟨s - 2 ^ n, by omega, ?_, by unfold del; rw [if_pos h]⟩
  rw [testBit_div]
  have e : (s - 2 ^ n) / 2 ^ n = s / 2 ^ n - 1 := by
    have := Nat.sub_mul_div s (2 ^ n) 1
    simpa using this
  rw [e, decide_eq_false_iff_not]
  omega
theorem testBit_del (s n m : Nat) : (del s n).testBit m = (s.testBit m && !decide (n = m)) := by
  by_cases h : s.testBit n = true
  · obtain ⟨t, hs, ht, hd⟩ := del_spec h
    rw [hd, hs, add_pow ht, Nat.testBit_or, Nat.testBit_two_pow]
    by_cases hm : n = m
    · subst hm; simp [ht]
    · simp [hm]
  · have h' : s.testBit n = false := by simpa using h
    unfold del
    rw [if_neg h]
    by_cases hm : n = m
    · subst hm; simp [h']
    · simp [hm]
theorem del_le (s n : Nat) : del s n ≤ s := by
  unfold del
  split
  · exact Nat.sub_le _ _
  · exact Nat.le_refl _

/-- All that is in a set, rising. -/
def els (s : Nat) : List Nat := (List.range 64).filter fun n => s.testBit n
theorem mem_els {s n : Nat} : n ∈ els s ↔ n < 64 ∧ s.testBit n = true := by simp [els]
theorem els_rising (s : Nat) : (els s).Pairwise (· < ·) := List.Pairwise.filter _ List.pairwise_lt_range

/-- The set of a list. -/
def ofs (l : List Nat) : Nat := l.foldl ins 0
theorem foldl_ins (l : List Nat) : ∀ s m, (l.foldl ins s).testBit m = (s.testBit m || decide (m ∈ l)) := by
  induction l with
  | nil => intro s m; simp
  | cons n l ih =>
    intro s m
    rw [List.foldl_cons, ih, testBit_ins]
    by_cases hm : n = m
    · subst hm; simp
    · have hm' : ¬ m = n := fun e => hm e.symm
      simp [hm, hm']
theorem testBit_ofs (l : List Nat) (m : Nat) : (ofs l).testBit m = decide (m ∈ l) := by
  unfold ofs
  rw [foldl_ins]
  simp
theorem foldl_lt (l : List Nat) : ∀ s, Is64 s → (∀ n ∈ l, n < 64) → Is64 (l.foldl ins s) := by
  induction l with
  | nil => intro s hs _; exact hs
  | cons n l ih =>
    intro s hs h
    rw [List.foldl_cons]
    exact ih _ (ins_lt hs (h n (List.mem_cons_self ..))) fun m hm => h m (List.mem_cons_of_mem _ hm)
theorem ofs_lt {l : List Nat} (h : ∀ n ∈ l, n < 64) : Is64 (ofs l) := foldl_lt l 0 (by unfold Is64; omega) h
theorem ofs_els {s : Nat} (hs : Is64 s) : ofs (els s) = s := by
  refine ext64 (ofs_lt fun n hn => (mem_els.1 hn).1) hs fun n hn => ?_
  rw [testBit_ofs]
  by_cases h : s.testBit n = true
  · rw [h, decide_eq_true_iff]; exact mem_els.2 ⟨hn, h⟩
  · have h' : s.testBit n = false := by simpa using h
    rw [h', decide_eq_false_iff_not]
    intro hm
    exact h (mem_els.1 hm).2

/-- All moved by k, from 0 to 63. -/
def up (s k : Nat) : Nat := ofs ((els s).map fun n => (n + k) % 64)
theorem up_lt (s k : Nat) : Is64 (up s k) := ofs_lt fun n hn => by
  obtain ⟨m, _, rfl⟩ := List.mem_map.1 hn
  omega
theorem testBit_up {s k m : Nat} (hk : k < 64) (hm : m < 64) : (up s k).testBit m = s.testBit ((m + (64 - k)) % 64) := by
  unfold up
  rw [testBit_ofs]
  by_cases h : s.testBit ((m + (64 - k)) % 64) = true
  · rw [h, decide_eq_true_iff]
    exact List.mem_map.2 ⟨(m + (64 - k)) % 64, mem_els.2 ⟨by omega, h⟩, by omega⟩
  · have h' : s.testBit ((m + (64 - k)) % 64) = false := by simpa using h
    rw [h', decide_eq_false_iff_not]
    intro hmem
    obtain ⟨n, hn, hnm⟩ := List.mem_map.1 hmem
    obtain ⟨hn64, hb⟩ := mem_els.1 hn
    have e : (m + (64 - k)) % 64 = n := by omega
    rw [e] at h
    exact h hb
theorem up_up {s a b : Nat} (ha : a < 64) (hb : b < 64) : up (up s a) b = up s ((a + b) % 64) := by
  refine ext64 (up_lt _ _) (up_lt _ _) fun m hm => ?_
  rw [testBit_up hb hm, testBit_up ha (by omega), testBit_up (by omega) hm]
  congr 1
  omega
theorem up_zero {s : Nat} (hs : Is64 s) : up s 0 = s := by
  refine ext64 (up_lt _ _) hs fun m hm => ?_
  rw [testBit_up (by omega) hm]
  congr 1
  omega
theorem up_back {s a : Nat} (hs : Is64 s) (ha : a < 64) : up (up s a) ((64 - a) % 64) = s := by
  rw [up_up ha (by omega)]
  have e : (a + (64 - a) % 64) % 64 = 0 := by omega
  rw [e, up_zero hs]
/-- As a computer turns it. -/
theorem up_turn {s k : Nat} (hs : Is64 s) (hk : k < 64) : up s k = s * 2 ^ k % 18446744073709551616 ||| s / 2 ^ (64 - k) := by
  refine ext64 (up_lt _ _) ?_ fun m hm => ?_
  · unfold Is64 at *
    rw [← two64]
    refine Nat.or_lt_two_pow (Nat.mod_lt _ (Nat.two_pow_pos _)) ?_
    exact Nat.lt_of_le_of_lt (Nat.div_le_self _ _) (by rw [two64]; exact hs)
  · rw [testBit_up hk hm, Nat.testBit_or, ← two64, Nat.testBit_mod_two_pow, Nat.testBit_mul_two_pow, Nat.testBit_div_two_pow]
    by_cases hmk : k ≤ m
    · have e : (m + (64 - k)) % 64 = m - k := by omega
      have hbig : s.testBit (64 - k + m) = false := by
        refine Nat.testBit_lt_two_pow (Nat.lt_of_lt_of_le hs ?_)
        rw [← two64]
        exact Nat.pow_le_pow_right (by omega) (by omega)
      have hbig' : s.testBit (m + (64 - k)) = false := by rw [Nat.add_comm]; exact hbig
      rw [e]
      simp [hm, hmk, hbig']
    · have e : (m + (64 - k)) % 64 = m + (64 - k) := by omega
      rw [e]
      simp [hm, hmk]

/-- As many as before. -/
theorem turn_perm : ∀ k, k < 64 → ((List.range 64).map fun m => (m + (64 - k)) % 64).isPerm (List.range 64) = true := by decide +kernel
theorem count_up (s : Nat) {k : Nat} (hk : k < 64) : (els (up s k)).length = (els s).length := by
  have hp : ((List.range 64).map fun m => (m + (64 - k)) % 64).Perm (List.range 64) := List.isPerm_iff.1 (turn_perm k hk)
  have h1 := (hp.filter fun n => s.testBit n).length_eq
  rw [List.filter_map, List.length_map] at h1
  unfold els
  rw [← h1]
  congr 1
  refine List.filter_congr fun m hm => ?_
  exact testBit_up hk (by simpa using hm)

end Go.Proofs.YtfkcmdnnmnkklaaDoor.bits
