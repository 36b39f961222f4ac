/-
  Texts of one claim in one file: BBit, EClash, ECheck, GChk, GChkAll, DGetPlain, EGetPlain, EGetOne, ERefRead. Each has its own sentence, with its conditions.
-/
import Derived.Test.YtahejekcfgkiaaaGreatDoorProg
import Derived.Test.YtahejekcfgkiaaaGreatDoorGall15
import Derived.WalkKit
import Derived.ProofKit
import Derived.Lib.Hide
import Derived.Outline
import Derived.Laws.ShiftsVarLaws
import Derived.Laws.Bits64b
import Derived.Test.YtahejekcfgkiaaaGreatDoorGall11
import Derived.Test.YtahejekcfgkiaaaGreatDoorGall7
import Derived.Test.YtahejekcfgkiaaaGreatDoorGall5
/-
  The program's calls on a set that only compute: the bit of a number, what is below one, whether one is in it, with one and without one. No condition.
-/
namespace Go.Proofs.YtahejekcfgkiaaaGreatDoor.bits
open Go.RowKit Go.ChangeShapes

theorem shl_one {n : Int} (h : may n) : IntKind.u64.wrap (2 ^ n.toNat) = ((bitN n : Nat) : Int) := by
  unfold may at h
  have hb : bitN n = 2 ^ n.toNat := by unfold bitN; rw [if_pos (by unfold may; omega)]
  have hl := pow_lt64 (show n.toNat < 64 by omega)
  rw [hb, IntKind.wrap_u64]
  unfold Is64 at hl
  have e : ((2 : Int) ^ n.toNat) = ((2 ^ n.toNat : Nat) : Int) := by rw [Int.natCast_pow]; rfl
  rw [e]
  omega

theorem ret_int {k : IntKind} {a b : Int} (h : a = b) : Ending.returned (.int k a) = .returned (.int k b) := by rw [h]
set_option maxHeartbeats 400000 in
theorem bit_any (n : Int) (w : World) :
    Calls Tryz.prog 114 #[.int .i64 n] w fun e w' => e = .returned (.int .u64 ((bitN n : Nat) : Int)) ∧ w = w' := by
  by_cases h0 : n < 0
  · have hb : bitN n = 0 := by unfold bitN; rw [if_neg (by unfold may; omega)]
    rw [hb]
    clear hb
    go_enter Tryz.func114, Tryz.ntmps114
    go_wp2
    go_ret
    exact ⟨rfl, rfl⟩
  · by_cases h1 : 63 < n
    · have hb : bitN n = 0 := by unfold bitN; rw [if_neg (by unfold may; omega)]
      rw [hb]
      clear hb
      go_enter Tryz.func114, Tryz.ntmps114
      go_wp2
      go_ret
      exact ⟨rfl, rfl⟩
    · have hm : may n := by unfold may; omega
      have hp : 0 ≤ n := by omega
      have HB := Lib.hid (shl_one hm)
      go_enter Tryz.func114, Tryz.ntmps114
      go_wp2
      go_ret
      exact ⟨ret_int HB.out, rfl⟩

theorem and_u64 {a b : Nat} (ha : Is64 a) (hb : Is64 b) : bits .and .u64 (a : Int) (b : Int) = ((a &&& b : Nat) : Int) := bits_and_u64_nat a b ha hb
theorem or_u64 {a b : Nat} (ha : Is64 a) (hb : Is64 b) : bits .or .u64 (a : Int) (b : Int) = ((a ||| b : Nat) : Int) := bits_or_u64_nat a b ha hb
theorem andNot_u64 {a b : Nat} (ha : Is64 a) (hb : Is64 b) : bits .andNot .u64 (a : Int) (b : Int) = ((minus a b : Nat) : Int) := by
  have hx : a &&& (18446744073709551615 - b) < 2 ^ 64 := Nat.and_lt_two_pow _ (by unfold Is64 at *; omega)
  have h1 : (BitVec.ofInt 64 (a : Int)).toNat = a := by
    rw [BitVec.ofInt_natCast, BitVec.toNat_ofNat]; exact Nat.mod_eq_of_lt (by unfold Is64 at *; omega)
  have h2 : (BitVec.ofInt 64 (b : Int)).toNat = b := by
    rw [BitVec.ofInt_natCast, BitVec.toNat_ofNat]; exact Nat.mod_eq_of_lt (by unfold Is64 at *; omega)
  show IntKind.u64.wrap ((BitVec.ofInt 64 (a : Int) &&& ~~~BitVec.ofInt 64 (b : Int)).toNat : Int) = _
  rw [BitVec.toNat_and, BitVec.toNat_not, h1, h2, IntKind.wrap_u64]
  have e : 2 ^ 64 - 1 - b = 18446744073709551615 - b := by omega
  rw [e]
  unfold minus
  omega

theorem ret_bool {a b : Bool} (h : a = b) : Ending.returned (.bool a) = .returned (.bool b) := by rw [h]
theorem bne_cast (x : Nat) : ((x : Int) != 0) = (x != 0) := by
  rw [Bool.eq_iff_iff]
  simp
set_option maxHeartbeats 400000 in
theorem has_any (s : Nat) (hs : Is64 s) (n : Int) (w : World) :
    Calls Tryz.prog 105 #[.int .u64 (s : Int), .int .i64 n] w fun e w' => e = .returned (.bool (hasB s n)) ∧ w = w' := by
  have HB := Lib.hid (and_u64 hs (bitN_lt n))
  have HH := Lib.hid (hasB_and s n)
  go_enter Tryz.func105, Tryz.ntmps105
  go_wp2_with fail
  refine (bit_any _ _).mono ?_
  rintro e w1 ⟨rfl, rfl⟩
  go_wp2
  go_ret
  exact ⟨ret_bool (by rw [HB.out, HH.out, bne_cast]), rfl⟩

set_option maxHeartbeats 400000 in
theorem with_any (s : Nat) (hs : Is64 s) (n : Int) (w : World) :
    Calls Tryz.prog 106 #[.int .u64 (s : Int), .int .i64 n] w fun e w' => e = .returned (.int .u64 ((wth s n : Nat) : Int)) ∧ w = w' := by
  have HB := Lib.hid (or_u64 hs (bitN_lt n))
  have HH := Lib.hid (wth_or s n)
  go_enter Tryz.func106, Tryz.ntmps106
  go_wp2_with fail
  refine (bit_any _ _).mono ?_
  rintro e w1 ⟨rfl, rfl⟩
  go_wp2
  go_ret
  exact ⟨ret_int (by rw [HB.out, HH.out]), rfl⟩

theorem all_some {n : Int} (h0 : ¬ n < 0) (h1 : ¬ 63 < n) : IntKind.u64.wrap ((bitN n : Nat) - 1) = ((allN n : Nat) : Int) := by
  have hb : bitN n = 2 ^ n.toNat := by unfold bitN; rw [if_pos (by unfold may; omega)]
  have hl := bitN_lt n
  have hp : 0 < 2 ^ n.toNat := Nat.two_pow_pos _
  unfold allN
  rw [if_neg h1, if_neg h0, hb, IntKind.wrap_u64]
  unfold Is64 at hl
  rw [hb] at hl
  omega

end Go.Proofs.YtahejekcfgkiaaaGreatDoor.bits

/-
  The program's own answer whether the needs of a way may not be together (typed over the code of 5ef5b61): of needs each of which may be, so that a set has all their objects.
-/
namespace Go.Proofs.YtahejekcfgkiaaaGreatDoor.need
open Go.RowKit Go.ChangeShapes
open Go.Proofs.YtahejekcfgkiaaaGreatDoor.objs (De zero CellsAt DAt)
open Go.Proofs.YtahejekcfgkiaaaGreatDoor.bits (wth hasB may Is64 wth_lt has_any with_any testBit_ins)
set_option linter.unusedVariables false

theorem hasB_wth {s : Nat} {n x : Int} (hn : may n) (hx : may x) : hasB (wth s n) x = (hasB s x || decide (n = x)) := by
  unfold hasB wth
  rw [if_pos hn, testBit_ins, decide_eq_true hx, Bool.true_and, Bool.true_and]
  congr 1
  unfold may at hn hx
  have : (n.toNat = x.toNat) ↔ (n = x) := by omega
  simp [this]
theorem clashTo_no {l : List De} {k : Nat} : ∀ m, (∀ j, j < m → clash (l.getD j zero) (l.getD k zero) = false) → clashTo l k m = false := by
  intro m
  induction m with
  | zero => intro _; rfl
  | succ m ih =>
    intro h
    unfold clashTo
    rw [ih (fun j hj => h j (by omega)), h m (by omega)]
    rfl
theorem twiceTo_no {l : List De} : ∀ m, (∀ k, k < m → ∀ j, j < k → clash (l.getD j zero) (l.getD k zero) = false) → twiceTo l m = false := by
  intro m
  induction m with
  | zero => intro _; rfl
  | succ m ih =>
    intro h
    unfold twiceTo
    rw [ih (fun k hk => h k (by omega)), clashTo_no m (h m (by omega))]
    rfl
/-- A need that clashes with one ahead of it, or that must stand alone and does not. -/
theorem clash_met {l : List De} {i j : Nat} (hj : j < i) (hi : i < l.length) (h : (l.getD j zero).2.1 = (l.getD i zero).2.1) : twiceTo l l.length = true :=
  twiceTo_yes (clashTo_yes hj (by unfold clash; rw [h]; simp) i hj) l.length hi
theorem clash_down {l : List De} {i : Nat} (hi : i < l.length) (h2 : 1 < l.length) (h : (l.getD i zero).1 = 4) : twiceTo l l.length = true := by
  rcases Nat.eq_zero_or_pos i with h0 | h0
  · subst h0
    exact twiceTo_yes (clashTo_yes (l := l) (k := 1) (j := 0) (by omega) (by unfold clash; rw [h]; simp) 1 (by omega)) l.length h2
  · exact twiceTo_yes (clashTo_yes (l := l) (k := i) (j := 0) h0 (by unfold clash; rw [h]; simp) i h0) l.length hi

theorem of_none (w : World) : Calls Tryz.prog 104 #[.slice none 0 0] w fun e w' => e = .returned (.int .u64 0) ∧ w = w' := by
  go_enter Tryz.func104, Tryz.ntmps104
  go_wp2_with fail
  go_loop [3, 8] (fun t i => t = .int .u64 0 ∧ i = .int .i64 0) (fun _ _ => 0)
  case atStart => exact ⟨rfl, rfl⟩
  case round =>
    obtain ⟨rfl, rfl⟩ := hrel
    go_wp2
    go_ret
    exact ⟨rfl, rfl⟩

/-- A need in a block of its own. -/
theorem nbox_at (W : World) (k o m : Int) : (W.alloc (needBox k o m)).cell? ⟨W.heap.size, 0, none⟩ = some (.int .i64 k) ∧ (W.alloc (needBox k o m)).cell? ⟨W.heap.size, 1, none⟩ = some (.int .i64 o) ∧ (W.alloc (needBox k o m)).cell? ⟨W.heap.size, 2, none⟩ = some (.int .i64 m) := by
  unfold World.cell?
  rw [heap_alloc_new W _]
  exact ⟨rfl, rfl, rfl⟩
/-- Which objects the first needs ask. -/
structure Met (l : List De) (j : Nat) (s : Nat) : Prop where
  small : Is64 s
  has : ∀ x : Int, may x → (hasB s x = true ↔ ∃ i, i < j ∧ (l.getD i zero).2.1 = x)
  apart : ∀ i, i < j → ∀ k, k < i → (l.getD k zero).2.1 ≠ (l.getD i zero).2.1
  alone : 1 < l.length → ∀ i, i < j → (l.getD i zero).1 ≠ 4
theorem Met.next {l : List De} {j s : Nat} (h : Met l j s) (hm : may (l.getD j zero).2.1) (h1 : hasB s (l.getD j zero).2.1 = false) (h2 : 1 < l.length → (l.getD j zero).1 ≠ 4) : Met l (j + 1) (wth s (l.getD j zero).2.1) := by
  refine ⟨wth_lt h.small _, fun x hx => ?_, fun i hi k hk => ?_, fun hl i hi => ?_⟩
  · rw [hasB_wth hm hx, Bool.or_eq_true, h.has x hx, decide_eq_true_iff]
    constructor
    · rintro (⟨i, hi, e⟩ | e)
      · exact ⟨i, by omega, e⟩
      · exact ⟨j, by omega, e⟩
    · rintro ⟨i, hi, e⟩
      rcases Nat.lt_or_ge i j with h3 | h3
      · exact .inl ⟨i, h3, e⟩
      · obtain rfl : i = j := by omega
        exact .inr e
  · rcases Nat.lt_or_ge i j with h3 | h3
    · exact h.apart i h3 k hk
    · obtain rfl : i = j := by omega
      intro e
      have := (h.has _ hm).2 ⟨k, hk, e⟩
      rw [h1] at this
      cases this
  · rcases Nat.lt_or_ge i j with h3 | h3
    · exact h.alone hl i h3
    · obtain rfl : i = j := by omega
      exact h2 hl
theorem Met.fine {l : List De} {s : Nat} (h : Met l l.length s) : twiceTo l l.length = false := by
  refine twiceTo_no _ fun k hk j hj => ?_
  have h1 := h.apart k hk j hj
  have h2 := h.alone (by omega) k hk
  have h3 := h.alone (by omega) j (by omega)
  unfold clash
  rw [beq_eq_false_iff_ne.2 h1, beq_eq_false_iff_ne.2 h2, beq_eq_false_iff_ne.2 h3]
  rfl
theorem met_zero (l : List De) : Met l 0 0 := by
  refine ⟨by unfold Is64; omega, fun x hx => ?_, fun i hi => by omega, fun _ i hi => by omega⟩
  unfold hasB
  simp

set_option maxRecDepth 100000 in
set_option maxHeartbeats 4000000 in
theorem clashes_any (B : Option Addr) (cap : Nat) (l : List De) (hl : l.length ≤ 4) (ho : ∀ n ∈ l, may n.2.1) (w : World) (hB : DAt w B l) :
    Calls Tryz.prog 90 #[.slice B l.length cap] w fun e w' => e = .returned (.bool (twiceTo l l.length)) ∧ Below w.heap.size w w' := by
  have HOf := Lib.hid (of_none w)
  have HB := Lib.hid hB
  have HO := Lib.hid ho
  have H0 := Lib.hid (met_zero l)
  obtain ⟨r, hr⟩ : ∃ r, r = twiceTo l l.length := ⟨_, rfl⟩
  have HR := Lib.hid hr
  rw [← hr]
  have HL4 := Lib.hid hl
  clear hB ho hr hl
  go_enter Tryz.func90, Tryz.ntmps90
  go_wp2_with fail
  refine HOf.out.mono ?_
  rintro e w1 ⟨rfl, rfl⟩
  go_wp2_with fail
  go_loopw [3, 9] (fun t i wr => ∃ (j s : Nat), j ≤ l.length ∧ i = .int .i64 (j : Int) ∧ t = .int .u64 (s : Int) ∧ Hid (Met l j s) ∧ Hid (Below w.heap.size w wr)) (fun _ i _ => l.length - (intOf i).toNat)
  case atStart => exact ⟨0, 0, Nat.zero_le _, rfl, rfl, H0, Lib.hid (Below.refl _ _)⟩
  case round =>
    obtain ⟨j, s, hj, rfl, rfl, HM, HW⟩ := hrel
    by_cases hlt : j < l.length
    · obtain ⟨b0, off, rfl, hbl, c0, c1, c2⟩ := HB.out.next HW.out j hlt
      have hlt' : (j : Int) < (l.length : Int) := by omega
      have hj0 : (0 : Int) ≤ (j : Int) := by omega
      have HY := Lib.hid (HO.out _ (getD_mem hlt))
      have HN := fun h1 h2 => Lib.hid (HM.out.next HY.out h1 h2)
      have HD := fun h1 h2 => Lib.hid (clash_down (l := l) hlt h1 h2)
      have HC : ∀ i, i < j → (l.getD i zero).2.1 = (l.getD j zero).2.1 → Hid (twiceTo l l.length = true) := fun i h1 h2 => Lib.hid (clash_met (l := l) h1 hlt h2)
      have HE := Lib.hid (HM.out.has _ HY.out)
      have HS := Lib.hid HM.out.small
      clear HM
      generalize l.getD j zero = n at *
      obtain ⟨k, o, m⟩ := n
      dsimp only at c0 c1 c2 HY HN HD HC HE
      have HW1 := Lib.hid (HW.out.trans ((nbox_below wr k o m).mono HW.out.size))
      have hbx := nbox_at wr k o m
      unfold needBox at HW1 hbx
      clear HW
      have HH := fun W => Lib.hid (has_any s HS.out o W)
      have HWi := fun W => Lib.hid (with_any s HS.out o W)
      go_upto_region 5 with fail
      clear c0 c1 c2
      generalize wr.alloc (.cells #[.int .i64 k, .int .i64 o, .int .i64 m] 93) = W1 at *
      generalize wr.heap.size = g at *
      obtain ⟨c0, c1, c2⟩ := hbx
      cases hh : hasB s o with
      | true =>
        obtain ⟨i, hi, e⟩ := HE.out.1 hh
        have HX := HC i hi e
        clear hi e HN HD HC HE HY
        rw [hh] at HH
        go_wp2_with fail
        refine (HH _).out.mono ?_
        rintro e w2 ⟨rfl, rfl⟩
        go_wp2
        go_ret
        exact ⟨ret_bool (by rw [HR.out, HX.out]), HW1.out⟩
      | false =>
        rw [hh] at HH
        have HN1 := HN hh
        clear HC HE HY HN hh
        by_cases h4 : k = 4
        · subst h4
          by_cases h2 : 1 < l.length
          · have HX := HD h2 rfl
            have d2 : decide ((1 : Int) < (l.length : Int)) = true := by simp; omega
            clear HD HN1 h2
            go_wp2_with fail
            refine (HH _).out.mono ?_
            rintro e w2 ⟨rfl, rfl⟩
            go_wp2
            go_ret
            exact ⟨ret_bool (by rw [HR.out, HX.out]), HW1.out⟩
          · have HN2 := HN1 (fun h => absurd h h2)
            have d2 : decide ((1 : Int) < (l.length : Int)) = false := by simp; omega
            clear HD HN1 h2
            go_wp2_with fail
            refine (HH _).out.mono ?_
            rintro e w2 ⟨rfl, rfl⟩
            go_wp2_with fail
            refine (HWi _).out.mono ?_
            rintro e w2 ⟨rfl, rfl⟩
            have hl4 := HL4.out
            go_wp2
            go_roundw
            case rel => exact ⟨j + 1, _, by omega, by go_num, rfl, HN2, HW1⟩
            case measure => simp [intOf]; omega
        · have HN2 := HN1 (fun _ => h4)
          have d4 : (k == 4) = false := by simpa using h4
          clear HD HN1 h4
          go_wp2_with fail
          refine (HH _).out.mono ?_
          rintro e w2 ⟨rfl, rfl⟩
          go_wp2_with fail
          refine (HWi _).out.mono ?_
          rintro e w2 ⟨rfl, rfl⟩
          have hl4 := HL4.out
          go_wp2
          go_roundw
          case rel => exact ⟨j + 1, _, by omega, by go_num, rfl, HN2, HW1⟩
          case measure => simp [intOf]; omega
    · obtain rfl : j = l.length := by omega
      have HX := Lib.hid HM.out.fine
      go_wp2
      go_ret
      exact ⟨ret_bool (by rw [HR.out, HX.out]), HW.out⟩
end Go.Proofs.YtahejekcfgkiaaaGreatDoor.need

/-
  The program's own answer what is wrong with a wait (typed over the code of 5ef5b61): of objects of which there are no more than a set has numbers. The tables must lie where their initialisers lay them.
-/
namespace Go.Proofs.YtahejekcfgkiaaaGreatDoor.need
open Go.RowKit Go.ChangeShapes
open Go.Proofs.YtahejekcfgkiaaaGreatDoor.objs (De zero CellsAt DAt)
open Go.Proofs.YtahejekcfgkiaaaGreatDoor.bits (may)
set_option linter.unusedVariables false

theorem oneN_kind {d : List De} {n : De} (h : ¬ (1 ≤ n.1 ∧ n.1 ≤ 5)) : oneN d n = 6 := by unfold oneN; rw [if_pos (by omega)]
theorem oneN_known {d : List De} {n : De} (h : 1 ≤ n.1 ∧ n.1 ≤ 5) (h0 : oneN d n ≠ 0) : oneN d n = 1 := by
  unfold oneN at h0 ⊢
  rw [if_neg (by omega)] at h0 ⊢
  split
  · rfl
  · split
    · rfl
    · rename_i h1 h2
      rw [if_neg h1, if_neg h2] at h0
      exact absurd rfl h0
theorem ones_may {d l : List De} (hd : d.length ≤ 64) (h : ones d l = 0) : ∀ n ∈ l, may n.2.1 := fun n hn => by
  obtain ⟨_, h2, _⟩ := oneN_zero (ones_zero h n hn)
  unfold may
  omega

/-- Between two needs. -/
structure Ws (w : World) (A B : Option Addr) (d l : List De) (W : World) : Prop where
  below : Below w.heap.size w W
  objs : DAt W A d
  way : DAt W B l
  ok : Oka W
theorem Ws.next {w W W' : World} {A B : Option Addr} {d l : List De} (h : Ws w A B d l W) (hb : Below W.heap.size W W') : Ws w A B d l W' := ⟨h.below.trans (hb.mono h.below.size), h.objs.next hb, h.way.next hb, h.ok.next hb⟩
theorem Ws.box {w W : World} {A B : Option Addr} {d l : List De} (h : Ws w A B d l W) (k o m : Int) : Ws w A B d l (W.alloc (needBox k o m)) := h.next (nbox_below W k o m)

set_option maxRecDepth 100000 in
set_option maxHeartbeats 4000000 in
theorem way_any (A B : Option Addr) (capd cap : Nat) (d l : List De) (hd : d.length ≤ 64) (w : World) (hA : DAt w A d) (hB : DAt w B l) (hw : Oka w) :
    Calls Tryz.prog 69 #[.slice A d.length capd, .slice B l.length cap] w (ChkPost9 (chkWay d l) w) := by
  have HM := Lib.hid (many_any l.length w)
  unfold ChkPost9
  unfold manyC at HM
  by_cases h0 : l.length = 0
  · rw [if_pos h0] at HM
    have HV := Lib.hid (chkWay_2 (d := d) h0)
    clear hA hB hw h0
    go_enter Tryz.func69, Tryz.ntmps69
    go_wp2_with fail
    refine HM.out.mono ?_
    rintro e w1 ⟨rfl, rfl⟩
    go_wp2
    go_ret
    exact ⟨ret_int (by rw [HV.out]; rfl), Below.refl _ _⟩
  · rw [if_neg h0] at HM
    by_cases h4 : 4 < l.length
    · rw [if_pos h4] at HM
      have HV := Lib.hid (chkWay_4 (d := d) h4)
      clear hA hB hw h0 h4
      go_enter Tryz.func69, Tryz.ntmps69
      go_wp2_with fail
      refine HM.out.mono ?_
      rintro e w1 ⟨rfl, rfl⟩
      go_wp2
      go_ret
      exact ⟨ret_int (by rw [HV.out]; rfl), Below.refl _ _⟩
    · rw [if_neg h4] at HM
      have HV1 := fun h1 => Lib.hid (chkWay_bad (d := d) h0 h4 h1)
      have HV2 := fun h1 h2 => Lib.hid (chkWay_twice (d := d) h0 h4 h1 h2)
      have HV3 := fun h1 h2 => Lib.hid (chkWay_fine (d := d) h0 h4 h1 h2)
      obtain ⟨v, hv⟩ : ∃ v, v = chkWay d l := ⟨_, rfl⟩
      rw [← hv] at HV1 HV2 HV3 ⊢
      have hl4 : l.length ≤ 4 := by omega
      have HS0 : Hid (Ws w A B d l w) := Lib.hid ⟨Below.refl _ _, hA, hB, hw⟩
      have HD := Lib.hid hd
      clear hA hB hw h0 h4 hv hd
      go_enter Tryz.func69, Tryz.ntmps69
      go_wp2_with fail
      refine HM.out.mono ?_
      rintro e w1 ⟨rfl, rfl⟩
      go_wp2_with fail
      go_loopw [16] (fun i wr => ∃ j : Nat, j ≤ l.length ∧ i = .int .i64 (j : Int) ∧ Hid (ones d l = ones d (l.drop j)) ∧ Hid (Ws w A B d l wr)) (fun i _ => l.length - (intOf i).toNat)
      case atStart => exact ⟨0, Nat.zero_le _, rfl, Lib.hid (by simp), HS0⟩
      case round =>
        obtain ⟨j, hj, rfl, HJ, HS⟩ := hrel
        by_cases hlt : j < l.length
        · have HNx := Lib.hid (ones_drop (d := d) hlt)
          obtain ⟨b0, off, hBe, hbl, c0, c1, c2⟩ := HS.out.way j hlt
          have hlt' : (j : Int) < (l.length : Int) := by omega
          have hj0 : (0 : Int) ≤ (j : Int) := by omega
          have HR := fun (hk : 1 ≤ (l.getD j zero).1 ∧ (l.getD j zero).1 ≤ 5) W (hW : Ws w A B d l W) => Lib.hid (range_any A capd d (l.getD j zero) hk (by have := HD.out; omega) W hW.objs hW.ok)
          have HX6 := fun h => Lib.hid (oneN_kind (d := d) (n := l.getD j zero) h)
          have HX1 := fun h1 h2 => Lib.hid (oneN_known (d := d) (n := l.getD j zero) h1 h2)
          generalize l.getD j zero = n at *
          have HS1 := Lib.hid (HS.out.box n.1 n.2.1 n.2.2)
          have hbx := nbox_at wr n.1 n.2.1 n.2.2
          have HK := fun W => Lib.hid (known_any n.1 W)
          generalize oneN d n = q at *
          obtain ⟨k, o, m⟩ := n
          unfold needBox at HS1 hbx
          dsimp only at HR HX6 HX1 HS1 hbx HK c0 c1 c2
          clear HS
          subst hBe
          go_upto_region 7 with fail
          clear c0 c1 c2
          generalize wr.alloc (.cells #[.int .i64 k, .int .i64 o, .int .i64 m] 93) = W1 at *
          generalize wr.heap.size = g at *
          obtain ⟨c0, c1, c2⟩ := hbx
          by_cases hk : 1 ≤ k ∧ k ≤ 5
          · rw [decide_eq_true hk] at HK
            have HR1 := HR hk W1 HS1.out
            have HX := HX1 hk
            clear HR HX6 HX1 hk
            by_cases hq : q = 0
            · have HE : Hid (ones d l = ones d (l.drop (j + 1))) := Lib.hid (by rw [HJ.out, HNx.out, if_neg (by simp [hq])])
              rw [decide_eq_true hq] at HR1
              clear hq HX
              go_wp2_with fail
              refine (HK _).out.mono ?_
              rintro e w2 ⟨rfl, rfl⟩
              go_wp2_with fail
              refine HR1.out.mono ?_
              rintro e w2 ⟨rfl, hb2⟩
              have HS2 := Lib.hid (HS1.out.next hb2)
              clear hb2 HS1 HR1 c0 c1 c2
              go_wp2
              go_roundw
              case rel => exact ⟨j + 1, by omega, by go_num, HE, HS2⟩
              case measure => simp [intOf]; omega
            · have hq1 := (HX hq).out
              have HE : Hid (ones d l = 1) := Lib.hid (by rw [HJ.out, HNx.out, if_pos hq, hq1])
              have HV : Hid (v = 1) := Lib.hid (by rw [(HV1 (by rw [HE.out]; decide)).out, HE.out])
              rw [decide_eq_false hq] at HR1
              clear hq HX hq1
              go_wp2_with fail
              refine (HK _).out.mono ?_
              rintro e w2 ⟨rfl, rfl⟩
              go_wp2_with fail
              refine HR1.out.mono ?_
              rintro e w2 ⟨rfl, hb2⟩
              have HS2 := Lib.hid (HS1.out.next hb2)
              clear hb2 HS1 HR1 c0 c1 c2
              go_wp2
              go_ret
              exact ⟨ret_int (by rw [HV.out]; rfl), HS2.out.below⟩
          · rw [decide_eq_false hk] at HK
            have hq1 := (HX6 hk).out
            have HE : Hid (ones d l = 6) := Lib.hid (by rw [HJ.out, HNx.out, hq1, if_pos (by decide)])
            have HV : Hid (v = 6) := Lib.hid (by rw [(HV1 (by rw [HE.out]; decide)).out, HE.out])
            clear HR HX6 HX1 hk hq1
            go_wp2_with fail
            refine (HK _).out.mono ?_
            rintro e w2 ⟨rfl, rfl⟩
            go_wp2
            go_ret
            exact ⟨ret_int (by rw [HV.out]; rfl), HS1.out.below⟩
        · obtain rfl : j = l.length := by omega
          have h1 : ones d l = 0 := by rw [HJ.out, List.drop_length]; rfl
          have HC := Lib.hid (clashes_any B cap l hl4 (ones_may HD.out h1) wr HS.out.way)
          have HV2' := fun h2 => HV2 h1 h2
          have HV3' := fun h2 => HV3 h1 h2
          clear HV1 HV2 HV3 h1 HJ
          generalize twiceTo l l.length = t at *
          cases t with
          | true =>
            have HV := HV2' rfl
            go_wp2_with fail
            refine HC.out.mono ?_
            rintro e w2 ⟨rfl, hb2⟩
            have HS2 := Lib.hid (HS.out.next hb2)
            clear hb2 HS HC
            go_wp2
            go_ret
            exact ⟨ret_int (by rw [HV.out]; rfl), HS2.out.below⟩
          | false =>
            have HV := HV3' rfl
            go_wp2_with fail
            refine HC.out.mono ?_
            rintro e w2 ⟨rfl, hb2⟩
            have HS2 := Lib.hid (HS.out.next hb2)
            clear hb2 HS HC
            go_wp2
            go_ret
            exact ⟨ret_int (by rw [HV.out]; rfl), HS2.out.below⟩

/-- Between two ways. -/
structure Vs (w : World) (A B : Option Addr) (d : List De) (l : List (List De)) (W : World) : Prop where
  below : Below w.heap.size w W
  objs : DAt W A d
  ways : WAt W B l
  ok : Oka W
theorem Vs.next {w W W' : World} {A B : Option Addr} {d : List De} {l : List (List De)} (h : Vs w A B d l W) (hb : Below W.heap.size W W') : Vs w A B d l W' := ⟨h.below.trans (hb.mono h.below.size), h.objs.next hb, h.ways.next hb, h.ok.next hb⟩

set_option maxRecDepth 100000 in
set_option maxHeartbeats 4000000 in
theorem check_any (A B : Option Addr) (capd cap : Nat) (d : List De) (l : List (List De)) (hd : d.length ≤ 64) (w : World) (hA : DAt w A d) (hB : WAt w B l) (hw : Oka w) :
    Calls Tryz.prog 46 #[.slice A d.length capd, .slice B l.length cap] w (ChkPost9 (chkW d l) w) := by
  have HM := Lib.hid (many_any l.length w)
  unfold ChkPost9
  unfold manyC at HM
  obtain ⟨v, hv⟩ : ∃ v, v = chkW d l := ⟨_, rfl⟩
  rw [← hv]
  by_cases h0 : l.length = 0
  · rw [if_pos h0] at HM
    have HV : Hid (v = 2) := Lib.hid (by rw [hv]; unfold chkW; rw [if_pos h0])
    clear hA hB hw h0 hv
    go_enter Tryz.func46, Tryz.ntmps46
    go_wp2_with fail
    refine HM.out.mono ?_
    rintro e w1 ⟨rfl, rfl⟩
    go_wp2
    go_ret
    exact ⟨ret_int (by rw [HV.out]; rfl), Below.refl _ _⟩
  · rw [if_neg h0] at HM
    by_cases h4 : 4 < l.length
    · rw [if_pos h4] at HM
      have HV : Hid (v = 4) := Lib.hid (by rw [hv]; unfold chkW; rw [if_neg h0, if_pos h4])
      clear hA hB hw h0 h4 hv
      go_enter Tryz.func46, Tryz.ntmps46
      go_wp2_with fail
      refine HM.out.mono ?_
      rintro e w1 ⟨rfl, rfl⟩
      go_wp2
      go_ret
      exact ⟨ret_int (by rw [HV.out]; rfl), Below.refl _ _⟩
    · rw [if_neg h4] at HM
      have HV : Hid (v = ways d l) := Lib.hid (by rw [hv]; unfold chkW; rw [if_neg h0, if_neg h4])
      have hl4 : l.length ≤ 4 := by omega
      have HS0 : Hid (Vs w A B d l w) := Lib.hid ⟨Below.refl _ _, hA, hB, hw⟩
      have HD := Lib.hid hd
      clear hA hB hw h0 h4 hv hd
      go_enter Tryz.func46, Tryz.ntmps46
      go_wp2_with fail
      refine HM.out.mono ?_
      rintro e w1 ⟨rfl, rfl⟩
      go_wp2_with fail
      go_loopw [17] (fun i wr => ∃ j : Nat, j ≤ l.length ∧ i = .int .i64 (j : Int) ∧ Hid (v = ways d (l.drop j)) ∧ Hid (Vs w A B d l wr)) (fun i _ => l.length - (intOf i).toNat)
      case atStart => exact ⟨0, Nat.zero_le _, rfl, by simpa using HV, HS0⟩
      case round =>
        obtain ⟨j, hj, rfl, HJ, HS⟩ := hrel
        by_cases hlt : j < l.length
        · have HNx := Lib.hid (ways_drop (d := d) hlt)
          obtain ⟨b0, off, Aj, cj, hBe, hbl, hc, hdj⟩ := HS.out.ways j hlt
          have hlt' : (j : Int) < (l.length : Int) := by omega
          have hj0 : (0 : Int) ≤ (j : Int) := by omega
          have HC := Lib.hid (way_any A Aj capd cj d (l.getD j []) HD.out wr HS.out.objs hdj HS.out.ok)
          unfold ChkPost9 at HC
          generalize l.getD j [] = lj at *
          generalize chkWay d lj = q at *
          subst hBe
          clear hdj
          by_cases hq : q = 0
          · have HE : Hid (v = ways d (l.drop (j + 1))) := Lib.hid (by rw [HJ.out, HNx.out, if_neg (by simp [hq])])
            have hq' : ((q : Int) != 0) = false := by simp [hq]
            clear hq
            go_wp2_with fail
            refine HC.out.mono ?_
            rintro e w2 ⟨rfl, hb2⟩
            have HS2 := Lib.hid (HS.out.next hb2)
            clear hb2 HS HC hc
            go_wp2
            go_roundw
            case rel => exact ⟨j + 1, by omega, by go_num, HE, HS2⟩
            case measure => simp [intOf]; omega
          · have HE : Hid (v = q) := Lib.hid (by rw [HJ.out, HNx.out, if_pos hq])
            have hq' : ((q : Int) != 0) = true := by simpa using hq
            clear hq
            go_wp2_with fail
            refine HC.out.mono ?_
            rintro e w2 ⟨rfl, hb2⟩
            have HS2 := Lib.hid (HS.out.next hb2)
            clear hb2 HS HC hc
            go_wp2
            go_ret
            exact ⟨ret_int (by rw [HE.out]), HS2.out.below⟩
        · obtain rfl : j = l.length := by omega
          have HE : Hid (v = 0) := Lib.hid (by rw [HJ.out, List.drop_length]; rfl)
          go_wp2
          go_ret
          exact ⟨ret_int (by rw [HE.out]; rfl), HS.out.below⟩
end Go.Proofs.YtahejekcfgkiaaaGreatDoor.need

/-
  The program's own answer of what is wrong with a program (typed over the code of 4b95722). The tables must lie where their initialisers lay them.
-/
namespace Go.Proofs.YtahejekcfgkiaaaGreatDoor.pgm
open Go.RowKit Go.ChangeShapes
open Go.Proofs.YtahejekcfgkiaaaGreatDoor.objs (De zero DAt cells3)
open Go.Proofs.YtahejekcfgkiaaaGreatDoor.need (WAt chkW ChkPost9)
open Go.Proofs.YtahejekcfgkiaaaGreatDoor.span (within_any count_any cntC)
set_option linter.unusedVariables false

theorem cntC_zero {n m : Nat} (h0 : n ≠ 0) (hm : ¬ m < n) : cntC n m = 0 := by unfold cntC; rw [if_neg h0, if_neg hm]
theorem ins_box_below (w : World) (o a b : Int) : Below w.heap.size w (w.alloc (.cells #[.int .i64 o, .int .i64 a, .int .i64 b] 51)) := (Below.refl _ w).alloc (Nat.le_refl _) _

set_option maxRecDepth 100000 in
set_option maxHeartbeats 8000000 in
theorem fn_any (A : Option Addr) (c : Nat) (ar lo : Int) (l : List De) (w : World) (hA : DAt w A l) (hw : Okp w) :
    Calls Tryz.prog 51 #[.agg #[.int .i64 ar, .int .i64 lo, .slice A l.length c]] w (NumPost (chkFn ⟨ar, lo, l⟩) w) := by
  unfold NumPost
  obtain ⟨v, hv⟩ : ∃ v, v = chkFn ⟨ar, lo, l⟩ := ⟨_, rfl⟩
  rw [← hv]
  unfold chkFn at hv
  dsimp only at hv
  have HB0 : Hid (Below w.heap.size w (w.alloc (fnBox ar lo (.slice A l.length c)))) := Lib.hid ((Below.refl _ w).alloc (Nat.le_refl _) _)
  obtain ⟨c0, c1, c2, _, _, _⟩ := cells3 (heap_alloc_new w (fnBox ar lo (.slice A l.length c)))
  have HWi := fun W => Lib.hid (within_any ar 0 lo W)
  have HCn := fun W => Lib.hid (count_any l.length 200 W)
  have HA := Lib.hid hA
  have HK := Lib.hid hw
  clear hA hw
  unfold fnBox at HB0 c0 c1 c2
  by_cases h1 : 0 ≤ ar ∧ ar ≤ lo
  · rw [decide_eq_true h1] at HWi
    by_cases h8 : 8 < lo
    · rw [if_pos (by omega)] at hv
      have q3 : decide (lo > 8) = true := by simpa using h8
      have HV := Lib.hid hv
      clear h1 h8 hv
      go_enter Tryz.func51, Tryz.ntmps51
      go_wp2_with fail
      refine (HWi _).out.mono ?_
      rintro e w1 ⟨rfl, rfl⟩
      go_wp2
      go_ret
      exact ⟨by rw [HV.out]; rfl, HB0.out⟩
    · rw [if_neg (by omega)] at hv
      have q3 : decide (lo > 8) = false := by simpa using h8
      have HV := Lib.hid hv
      clear h1 h8 hv
      by_cases h0 : cntC l.length 200 = 0
      · rw [h0] at HCn
        have hl0 : l.length ≠ 0 ∧ l.length ≤ 200 := by
          unfold cntC at h0
          split at h0
          · cases h0
          · split at h0
            · cases h0
            · omega
        have HF : Hid (v = firstE chkI l) := Lib.hid (by rw [HV.out, if_neg (by omega), if_neg (by omega)])
        have hl64 : l.length ≤ 9223372036854775807 := by omega
        have HL := Lib.hid hl0
        clear h0 HV hl0
        go_enter Tryz.func51, Tryz.ntmps51
        go_wp2_with fail
        refine (HWi _).out.mono ?_
        rintro e w1 ⟨rfl, rfl⟩
        go_wp2_with fail
        refine (HCn _).out.mono ?_
        rintro e w1 ⟨rfl, rfl⟩
        go_wp2_with fail
        go_loopw [28] (fun i wr => ∃ j : Nat, j ≤ l.length ∧ i = .int .i64 (j : Int) ∧ Hid (v = firstE chkI (l.drop j)) ∧ Hid (Below w.heap.size w wr)) (fun i _ => l.length - (intOf i).toNat)
        case atStart => exact ⟨0, Nat.zero_le _, rfl, Lib.hid (by simpa using HF.out), HB0⟩
        case round =>
          obtain ⟨j, hj, rfl, HJ, HW⟩ := hrel
          have HD := Lib.hid (HA.out.next HW.out)
          by_cases hlt : j < l.length
          · have HNx := Lib.hid (firstE_drop (f := chkI) zero hlt)
            obtain ⟨b, off, rfl, hbl, d0, d1, d2⟩ := HD.out j hlt
            have hlt' : (j : Int) < (l.length : Int) := by omega
            have hj0 : (0 : Int) ≤ (j : Int) := by omega
            have hI : chkI (l.getD j zero) = Go.Proofs.YtahejekcfgkiaaaGreatDoor.inst.chk (l.getD j zero).1 (l.getD j zero).2.1 (l.getD j zero).2.2 := rfl
            have hbx := ins_box_below wr (l.getD j zero).1 (l.getD j zero).2.1 (l.getD j zero).2.2
            have HO := Lib.hid (Go.Proofs.YtahejekcfgkiaaaGreatDoor.inst.check_any (l.getD j zero).1 (l.getD j zero).2.1 (l.getD j zero).2.2 _ ((HK.out.next HW.out).next hbx).ins)
            have HBx := Lib.hid (HW.out.trans (hbx.mono HW.out.size))
            rw [← hI] at HO
            clear hI hbx
            generalize l.getD j zero = t at *
            generalize chkI t = q at *
            obtain ⟨tk, ta, tb⟩ := t
            dsimp only at HO HBx d0 d1 d2
            go_wp2_with fail
            refine HO.out.mono ?_
            rintro e w3 ⟨rfl, hb3⟩
            have HW3 := Lib.hid (HBx.out.trans (hb3.mono HBx.out.size))
            clear hb3 d0 d1 d2 HO HBx
            by_cases hq : q = 0
            · have HE : Hid (v = firstE chkI (l.drop (j + 1))) := Lib.hid (by rw [HJ.out, HNx.out, if_neg (by simp [hq])])
              have hq' : ((q : Int) != 0) = false := by simp [hq]
              clear hq
              go_wp2
              go_roundw
              case rel => have h200 := HL.out; exact ⟨j + 1, by omega, by go_num, HE, HW3⟩
              case measure => have h200 := HL.out; simp [intOf]; omega
            · have HE : Hid (v = q) := Lib.hid (by rw [HJ.out, HNx.out, if_pos hq])
              have hq' : ((q : Int) != 0) = true := by simpa using hq
              clear hq
              go_wp2
              go_ret
              exact ⟨by rw [HE.out]; rfl, HW3.out⟩
          · have H1 : Hid (v = 0) := Lib.hid (by
              obtain rfl : j = l.length := by omega
              rw [HJ.out, List.drop_length]; rfl)
            have hge : decide ((j : Int) < (l.length : Int)) = false := by simp; omega
            go_wp2
            go_ret
            exact ⟨by rw [H1.out]; rfl, HW.out⟩
      · have HE : Hid (v = cntC l.length 200) := Lib.hid (by
          rw [HV.out]
          unfold cntC at h0 ⊢
          split
          · rfl
          · split
            · rfl
            · rename_i a b
              rw [if_neg a, if_neg b] at h0
              exact absurd rfl h0)
        generalize cntC l.length 200 = q at *
        have hq' : ((q : Int) != 0) = true := by simpa using h0
        clear h0 HV
        go_enter Tryz.func51, Tryz.ntmps51
        go_wp2_with fail
        refine (HWi _).out.mono ?_
        rintro e w1 ⟨rfl, rfl⟩
        go_wp2_with fail
        refine (HCn _).out.mono ?_
        rintro e w1 ⟨rfl, rfl⟩
        go_wp2
        go_ret
        exact ⟨by rw [HE.out]; rfl, HB0.out⟩
  · rw [decide_eq_false h1] at HWi
    rw [if_pos (by omega)] at hv
    have HV := Lib.hid hv
    clear h1 hv
    go_enter Tryz.func51, Tryz.ntmps51
    go_wp2_with fail
    refine (HWi _).out.mono ?_
    rintro e w1 ⟨rfl, rfl⟩
    go_wp2
    go_ret
    exact ⟨by rw [HV.out]; rfl, HB0.out⟩
end Go.Proofs.YtahejekcfgkiaaaGreatDoor.pgm

/-
  The program's own answer of what is wrong with functions, with waits, and with a whole program (typed over the code of 4b95722). The tables must lie where their initialisers lay them.
-/
namespace Go.Proofs.YtahejekcfgkiaaaGreatDoor.pgm
open Go.RowKit Go.ChangeShapes
open Go.Proofs.YtahejekcfgkiaaaGreatDoor.objs (De zero DAt cells3 chk chk_zero ChkPost)
open Go.Proofs.YtahejekcfgkiaaaGreatDoor.need (WAt chkW ChkPost9)
open Go.Proofs.YtahejekcfgkiaaaGreatDoor.span (within_any count_any cntC)
set_option linter.unusedVariables false

/-- What is wrong with functions. -/
def chkFs (l : List Fn) : Nat := if l.length = 0 then 2 else if 16 < l.length then 4 else firstE chkFn l
theorem chkFs_cnt {l : List Fn} (h : cntC l.length 16 ≠ 0) : chkFs l = cntC l.length 16 := by
  unfold cntC chkFs at *
  split
  · rfl
  · split
    · rfl
    · rename_i a b
      rw [if_neg a, if_neg b] at h
      exact absurd rfl h
theorem chkFs_all {l : List Fn} (h : cntC l.length 16 = 0) : chkFs l = firstE chkFn l ∧ l.length ≤ 16 := by
  unfold cntC chkFs at *
  split at h
  · cases h
  · split at h
    · cases h
    · rename_i a b
      rw [if_neg a, if_neg b]
      exact ⟨rfl, by omega⟩

set_option maxRecDepth 100000 in
set_option maxHeartbeats 8000000 in
theorem fns_any (A : Option Addr) (c : Nat) (l : List Fn) (w : World) (hA : FsAt w A l) (hw : Okp w) :
    Calls Tryz.prog 27 #[.slice A l.length c] w (NumPost (chkFs l) w) := by
  unfold NumPost
  have HCn := fun W => Lib.hid (count_any l.length 16 W)
  have HA := Lib.hid hA
  have HK := Lib.hid hw
  clear hA hw
  by_cases h0 : cntC l.length 16 = 0
  · rw [h0] at HCn
    obtain ⟨hv, hl16⟩ := chkFs_all h0
    generalize chkFs l = v at *
    have HV := Lib.hid hv
    have hl64 : l.length ≤ 9223372036854775807 := by omega
    have HL := Lib.hid hl16
    clear h0 hv hl16
    go_enter Tryz.func27, Tryz.ntmps27
    go_wp2_with fail
    refine (HCn _).out.mono ?_
    rintro e w1 ⟨rfl, rfl⟩
    go_wp2_with fail
    go_loopw [15] (fun i wr => ∃ j : Nat, j ≤ l.length ∧ i = .int .i64 (j : Int) ∧ Hid (v = firstE chkFn (l.drop j)) ∧ Hid (Below w.heap.size w wr)) (fun i _ => l.length - (intOf i).toNat)
    case atStart => exact ⟨0, Nat.zero_le _, rfl, Lib.hid (by simpa using HV.out), Lib.hid (Below.refl _ _)⟩
    case round =>
      obtain ⟨j, hj, rfl, HJ, HW⟩ := hrel
      have HD := Lib.hid (HA.out.next HW.out)
      by_cases hlt : j < l.length
      · have HNx := Lib.hid (firstE_drop (f := chkFn) Fn.zero hlt)
        obtain ⟨b, off, Aj, cj, rfl, hbl, ⟨d0, d1, d2⟩, hco⟩ := HD.out j hlt
        have hlt' : (j : Int) < (l.length : Int) := by omega
        have hj0 : (0 : Int) ≤ (j : Int) := by omega
        have hbx : Below wr.heap.size wr (wr.alloc (fnBox (l.getD j Fn.zero).ar (l.getD j Fn.zero).lo (.slice Aj (l.getD j Fn.zero).co.length cj))) := (Below.refl _ _).alloc (Nat.le_refl _) _
        have HO := Lib.hid (fn_any Aj cj (l.getD j Fn.zero).ar (l.getD j Fn.zero).lo (l.getD j Fn.zero).co _ (hco.next hbx) ((HK.out.next HW.out).next hbx))
        have HBx := Lib.hid (HW.out.trans (hbx.mono HW.out.size))
        unfold NumPost at HO
        unfold fnBox at HO HBx
        clear hbx hco
        rw [show (⟨(l.getD j Fn.zero).ar, (l.getD j Fn.zero).lo, (l.getD j Fn.zero).co⟩ : Fn) = l.getD j Fn.zero from rfl] at HO
        generalize chkFn (l.getD j Fn.zero) = q at *
        generalize l.getD j Fn.zero = t at *
        obtain ⟨tar, tlo, tco⟩ := t
        dsimp only at HO HBx d0 d1 d2
        generalize tco.length = m at *
        go_wp2_with fail
        refine HO.out.mono ?_
        rintro e w3 ⟨rfl, hb3⟩
        have HW3 := Lib.hid (HBx.out.trans (hb3.mono HBx.out.size))
        clear hb3 d0 d1 d2 HO HBx
        by_cases hq : q = 0
        · have HE : Hid (v = firstE chkFn (l.drop (j + 1))) := Lib.hid (by rw [HJ.out, HNx.out, if_neg (by simp [hq])])
          have hq' : ((q : Int) != 0) = false := by simp [hq]
          clear hq
          go_wp2
          go_roundw
          case rel => have h200 := HL.out; exact ⟨j + 1, by omega, by go_num, HE, HW3⟩
          case measure => have h200 := HL.out; simp [intOf]; omega
        · have HE : Hid (v = q) := Lib.hid (by rw [HJ.out, HNx.out, if_pos hq])
          have hq' : ((q : Int) != 0) = true := by simpa using hq
          clear hq
          go_wp2
          go_ret
          exact ⟨by rw [HE.out]; rfl, HW3.out⟩
      · have H1 : Hid (v = 0) := Lib.hid (by
          obtain rfl : j = l.length := by omega
          rw [HJ.out, List.drop_length]; rfl)
        have hge : decide ((j : Int) < (l.length : Int)) = false := by simp; omega
        go_wp2
        go_ret
        exact ⟨by rw [H1.out]; rfl, HW.out⟩
  · have HE := Lib.hid (chkFs_cnt h0)
    generalize chkFs l = v at *
    generalize cntC l.length 16 = q at *
    have hq' : ((q : Int) != 0) = true := by simpa using h0
    clear h0
    go_enter Tryz.func27, Tryz.ntmps27
    go_wp2_with fail
    refine (HCn _).out.mono ?_
    rintro e w1 ⟨rfl, rfl⟩
    go_wp2
    go_ret
    exact ⟨by rw [HE.out]; rfl, Below.refl _ _⟩

def progBox (x y z : Value) : Obj := .cells #[x, y, z] 26
/-- What is wrong with waits. -/
def chkWs (d : List De) (l : List (List (List De))) : Nat := if 32 < l.length then 4 else firstE (chkW d) l

set_option maxRecDepth 100000 in
set_option maxHeartbeats 8000000 in
theorem ws_any (A B C : Option Addr) (ca cb cc n : Nat) (d : List De) (l : List (List (List De))) (hd : d.length ≤ 64) (w : World) (hA : DAt w A d) (hB : WsAt w B l) (hw : Okp w) :
    Calls Tryz.prog 26 #[.agg #[.slice A d.length ca, .slice B l.length cb, .slice C n cc]] w (NumPost (chkWs d l) w) := by
  unfold NumPost
  obtain ⟨v, hv⟩ : ∃ v, v = chkWs d l := ⟨_, rfl⟩
  rw [← hv]
  unfold chkWs at hv
  have hnew := heap_alloc_new w (progBox (.slice A d.length ca) (.slice B l.length cb) (.slice C n cc))
  obtain ⟨c0, c1, c2, _, _, _⟩ := cells3 hnew
  have HB0 : Hid (Below w.heap.size w (w.alloc (progBox (.slice A d.length ca) (.slice B l.length cb) (.slice C n cc)))) := Lib.hid ((Below.refl _ w).alloc (Nat.le_refl _) _)
  have HA := Lib.hid hA
  have HBs := Lib.hid hB
  have HK := Lib.hid hw
  have HD := Lib.hid hd
  clear hA hB hw hd
  by_cases h32 : 32 < l.length
  · rw [if_pos h32] at hv
    have q5 : decide ((l.length : Int) > 32) = true := by simp; omega
    clear h32 hnew
    subst hv
    unfold progBox at HB0 c0 c1 c2
    go_enter Tryz.func26, Tryz.ntmps26
    go_wp2
    go_ret
    exact ⟨rfl, HB0.out⟩
  · rw [if_neg h32] at hv
    have q5 : decide ((l.length : Int) > 32) = false := by simp; omega
    have HV := Lib.hid hv
    have HL := Lib.hid h32
    have hl64 : l.length ≤ 9223372036854775807 := by omega
    have HX : ∀ W, Below (w.heap.size + 1) (w.alloc (progBox (.slice A d.length ca) (.slice B l.length cb) (.slice C n cc))) W → Hid (Below w.heap.size w W ∧ W.cell? ⟨w.heap.size, 0, none⟩ = some (.slice A d.length ca)) := fun W h => by
      have hblk := (h.block _ (Nat.lt_succ_self _)).trans (heap_alloc_new w _)
      refine Lib.hid ⟨HB0.out.trans (h.mono (Nat.le_succ _)), ?_⟩
      unfold World.cell?
      rw [hblk]
      rfl
    clear h32 hnew hv
    unfold progBox at HB0 c0 c1 c2 HX
    go_enter Tryz.func26, Tryz.ntmps26
    go_wp2_with fail
    clear c0 c1 c2
    go_loopw [13] (fun i wr => ∃ j : Nat, j ≤ l.length ∧ i = .int .i64 (j : Int) ∧ Hid (v = firstE (chkW d) (l.drop j)) ∧ Hid (Below (w.heap.size + 1) (w.alloc (.cells #[.slice A d.length ca, .slice B l.length cb, .slice C n cc] 26)) wr)) (fun i _ => l.length - (intOf i).toNat)
    case atStart => exact ⟨0, Nat.zero_le _, rfl, Lib.hid (by simpa using HV.out), Lib.hid (Below.refl _ _)⟩
    case round =>
      obtain ⟨j, hj, rfl, HJ, HW⟩ := hrel
      have c0 := (HX wr HW.out).out.2
      have HW0 := Lib.hid (HX wr HW.out).out.1
      by_cases hlt : j < l.length
      · have HNx := Lib.hid (firstE_drop (f := chkW d) [] hlt)
        obtain ⟨b, off, Aj, cj, rfl, hbl, d0, hwt⟩ := (HBs.out.next HW0.out) j hlt
        have hlt' : (j : Int) < (l.length : Int) := by omega
        have hj0 : (0 : Int) ≤ (j : Int) := by omega
        have HO := Lib.hid (Go.Proofs.YtahejekcfgkiaaaGreatDoor.need.check_any A Aj ca cj d (l.getD j []) HD.out wr (HA.out.next HW0.out) hwt (HK.out.next HW0.out).need)
        unfold ChkPost9 at HO
        clear hwt
        generalize chkW d (l.getD j []) = q at *
        generalize (l.getD j []).length = m at *
        go_wp2_with fail
        refine HO.out.mono ?_
        rintro e w3 ⟨rfl, hb3⟩
        have HW3 := Lib.hid (HW.out.trans (hb3.mono (by have := HW.out.size; rw [World.size_alloc] at this; exact this)))
        have HB3 := Lib.hid (HW0.out.trans (hb3.mono HW0.out.size))
        clear hb3 d0 HO
        by_cases hq : q = 0
        · have HE : Hid (v = firstE (chkW d) (l.drop (j + 1))) := Lib.hid (by rw [HJ.out, HNx.out, if_neg (by simp [hq])])
          have hq' : ((q : Int) != 0) = false := by simp [hq]
          clear hq
          go_wp2
          go_roundw
          case rel => have h200 := HL.out; exact ⟨j + 1, by omega, by go_num, HE, HW3⟩
          case measure => have h200 := HL.out; simp [intOf]; omega
        · have HE : Hid (v = q) := Lib.hid (by rw [HJ.out, HNx.out, if_pos hq])
          have hq' : ((q : Int) != 0) = true := by simpa using hq
          clear hq
          go_wp2
          go_ret
          exact ⟨by rw [HE.out]; rfl, HB3.out⟩
      · have H1 : Hid (v = 0) := Lib.hid (by
          obtain rfl : j = l.length := by omega
          rw [HJ.out, List.drop_length]; rfl)
        have hge : decide ((j : Int) < (l.length : Int)) = false := by simp; omega
        go_wp2
        go_ret
        exact ⟨by rw [H1.out]; rfl, HW0.out⟩

theorem chkP_parts (p : Pg) : chkP p = if (chk p.ds).2 ≠ 0 then (chk p.ds).2 else if chkWs p.ds p.ws ≠ 0 then chkWs p.ds p.ws else chkFs p.fs := by
  unfold chkP chkWs chkFs
  split
  · rfl
  · split
    · rw [if_pos (by decide)]
    · rfl

set_option maxRecDepth 100000 in
set_option maxHeartbeats 8000000 in
theorem check_any (v : Value) (p : Pg) (hl : p.ds.length ≤ 9223372036854775807) (w : World) (hv : PAt w v p) (hw : Okp w) :
    Calls Tryz.prog 9 #[v] w (NumPost (chkP p) w) := by
  obtain ⟨A, B, C, ca, cb, cc, rfl, hA, hB, hC⟩ := hv
  unfold NumPost
  obtain ⟨q, hq⟩ : ∃ q, q = chkP p := ⟨_, rfl⟩
  rw [← hq]
  rw [chkP_parts] at hq
  obtain ⟨ds, ws, fs⟩ := p
  dsimp only at hq hl hA hB hC
  have hnew := heap_alloc_new w (progBox (.slice A ds.length ca) (.slice B ws.length cb) (.slice C fs.length cc))
  obtain ⟨c0, c1, c2, _, _, _⟩ := cells3 hnew
  have HB0 : Hid (Below w.heap.size w (w.alloc (progBox (.slice A ds.length ca) (.slice B ws.length cb) (.slice C fs.length cc)))) := Lib.hid ((Below.refl _ w).alloc (Nat.le_refl _) _)
  have HX : ∀ W, Below (w.heap.size + 1) (w.alloc (progBox (.slice A ds.length ca) (.slice B ws.length cb) (.slice C fs.length cc))) W → Hid (Below w.heap.size w W ∧ W.cell? ⟨w.heap.size, 0, none⟩ = some (.slice A ds.length ca) ∧ W.cell? ⟨w.heap.size, 1, none⟩ = some (.slice B ws.length cb) ∧ W.cell? ⟨w.heap.size, 2, none⟩ = some (.slice C fs.length cc)) := fun W h => by
    have hblk := (h.block _ (Nat.lt_succ_self _)).trans (heap_alloc_new w _)
    refine Lib.hid ⟨HB0.out.trans (h.mono (Nat.le_succ _)), ?_, ?_, ?_⟩
    all_goals (unfold World.cell?; rw [hblk]; rfl)
  have HDc := Lib.hid (Go.Proofs.YtahejekcfgkiaaaGreatDoor.objs.check_any A ca ds hl _ (hA.next HB0.out) (hw.next HB0.out).decl)
  unfold ChkPost at HDc
  have HWs := fun (hd : ds.length ≤ 64) W (hb : Below w.heap.size w W) => Lib.hid (ws_any A B C ca cb cc fs.length ds ws hd W (hA.next hb) (hB.next hb) (hw.next hb))
  have HFs := fun W (hb : Below w.heap.size w W) => Lib.hid (fns_any C cc fs W (hC.next hb) (hw.next hb))
  unfold NumPost at HWs HFs
  have HD32 : Hid ((chk ds).2 = 0 → ds.length ≤ 64) := Lib.hid (fun h => by have := (chk_zero h).1; omega)
  have HQ := Lib.hid hq
  clear hq hA hB hC hw hnew hl
  unfold progBox at HB0 c0 c1 c2 HX HDc
  generalize chk ds = cd at *
  obtain ⟨ci, ce⟩ := cd
  dsimp only at HDc HQ HD32
  generalize chkWs ds ws = cw at *
  generalize chkFs fs = cf at *
  go_enter Tryz.func9, Tryz.ntmps9
  go_wp2_with fail
  refine HDc.out.mono ?_
  rintro e w1 ⟨rfl, hb1⟩
  have HB1 := Lib.hid (show Below (w.heap.size + 1) _ w1 from hb1.mono (by rw [World.size_alloc]; exact Nat.le_refl _))
  clear hb1 HDc c0 c1 c2
  obtain ⟨hbw1, c0, c1, c2⟩ := (HX w1 HB1.out).out
  have HW1 := Lib.hid hbw1
  clear hbw1
  by_cases he : ce = 0
  · have he' : ((ce : Int) != 0) = false := by simp [he]
    have HO := HWs (HD32.out he) w1 HW1.out
    have HQ2 : Hid (q = if cw ≠ 0 then cw else cf) := Lib.hid (by rw [HQ.out, if_neg (by simp [he])])
    clear he HQ HWs
    go_wp2_with fail
    refine HO.out.mono ?_
    rintro e w2 ⟨rfl, hb2⟩
    have HB2 := Lib.hid (HB1.out.trans (hb2.mono (by have := HB1.out.size; rw [World.size_alloc] at this; exact this)))
    clear hb2 HO c0 c1 c2 HB1 HW1
    obtain ⟨hbw2, c0, c1, c2⟩ := (HX w2 HB2.out).out
    have HW2 := Lib.hid hbw2
    clear hbw2
    by_cases hw0 : cw = 0
    · have hw' : ((cw : Int) != 0) = false := by simp [hw0]
      have HO := HFs w2 HW2.out
      have HQ3 : Hid (q = cf) := Lib.hid (by rw [HQ2.out, if_neg (by simp [hw0])])
      clear hw0 HQ2 HFs
      go_wp2_with fail
      refine HO.out.mono ?_
      rintro e w3 ⟨rfl, hb3⟩
      have HW3 := Lib.hid (HW2.out.trans (hb3.mono HW2.out.size))
      clear hb3 HO c0 c1 c2
      go_wp2
      go_ret
      exact ⟨by rw [HQ3.out]; rfl, HW3.out⟩
    · have hw' : ((cw : Int) != 0) = true := by simpa using hw0
      have HQ3 : Hid (q = cw) := Lib.hid (by rw [HQ2.out, if_pos hw0])
      clear hw0 HQ2 HFs
      go_wp2
      go_ret
      exact ⟨by rw [HQ3.out]; rfl, HW2.out⟩
  · have he' : ((ce : Int) != 0) = true := by simpa using he
    have HQ3 : Hid (q = ce) := Lib.hid (by rw [HQ.out, if_pos he])
    clear he HQ HWs HFs
    go_wp2
    go_ret
    exact ⟨by rw [HQ3.out]; rfl, HW1.out⟩
end Go.Proofs.YtahejekcfgkiaaaGreatDoor.pgm

/-
  The program reads a number that is above all ranges as another such number than the document does: what is told of the objects is the same. Plain mathematics; no condition.
-/
namespace Go.Proofs.YtahejekcfgkiaaaGreatDoor.objs
open Go.Proofs.YtahejekcfgkiaaaGreatDoor.octet (St rdByte rdNum rdInt)
open Go.Proofs.YtahejekcfgkiaaaGreatDoor.word (Word)
open Go.Proofs.YtahejekcfgkiaaaGreatDoor.span (pN)
set_option linter.unusedVariables false

/-- A number held below two to the thirty-first. -/
def low31 (n : Int) : Int := min n 2147483647
/-- An object of the document's as the program reads it. -/
def cutD (d : De) : De := (d.1, if d.1 = 7 then d.2.1 else low31 d.2.1, low31 d.2.2)
def pA (k : Nat) (s : St) : Int × St := if k = 3 ∨ k = 6 then pN s else if k = 7 then rdInt s else (0, s)
def pB (k : Nat) (s : St) : Int × St := if k = 3 ∨ k = 7 then pN s else (0, s)
/-- An object as the program reads it, whether it may be or not. -/
def pD (s : St) : De × St :=
  let y := rdByte s
  (((y.1 : Int), (pA y.1 y.2).1, (pB y.1 (pA y.1 y.2).2).1), (pB y.1 (pA y.1 y.2).2).2)

theorem pN_rdN (s : St) : (pN s).2 = (rdN s).2 ∧ (pN s).1 = low31 (rdN s).1 := by
  refine ⟨rfl, ?_⟩
  unfold pN rdN low31
  dsimp only
  omega
theorem pA_rdA (k : Nat) (s : St) : (pA k s).2 = (rdA k s).2 ∧ (pA k s).1 = if k = 7 then (rdA k s).1 else low31 (rdA k s).1 := by
  unfold pA rdA
  by_cases h : k = 3 ∨ k = 6
  · rw [if_pos h, if_pos h, if_neg (by omega)]
    exact pN_rdN s
  · rw [if_neg h, if_neg h]
    by_cases h7 : k = 7
    · rw [if_pos h7, if_pos h7]
      exact ⟨rfl, rfl⟩
    · rw [if_neg h7, if_neg h7]
      exact ⟨rfl, rfl⟩
theorem pB_rdB (k : Nat) (s : St) : (pB k s).2 = (rdB k s).2 ∧ (pB k s).1 = low31 (rdB k s).1 := by
  unfold pB rdB
  by_cases h : k = 3 ∨ k = 7
  · rw [if_pos h, if_pos h]
    exact pN_rdN s
  · rw [if_neg h, if_neg h]
    exact ⟨rfl, rfl⟩
/-- What is wrong with the bytes of an object. -/
theorem pD_err {s : St} (h : (pD s).2.err ≠ 0) : (rdD s).2 = ((pD s).2, (pD s).2.err) := by
  unfold pD at h ⊢
  unfold rdD
  dsimp only at h ⊢
  generalize rdByte s = y at *
  obtain ⟨k, S⟩ := y
  dsimp only at h ⊢
  obtain ⟨a1, _⟩ := pA_rdA k S
  obtain ⟨b1, _⟩ := pB_rdB k (pA k S).2
  have e1 : (pB k (pA k S).2).2 = (rdB k (rdA k S).2).2 := by rw [b1, a1]
  rw [e1] at h ⊢
  by_cases hb : S.err = 0 ∧ (k < 1 ∨ 7 < k)
  · exfalso
    refine h ?_
    have e : (rdB k (rdA k S).2).2 = S := by
      unfold rdA
      rw [if_neg (by omega), if_neg (by omega)]
      unfold rdB
      rw [if_neg (by omega)]
    rw [e]
    exact hb.1
  · rw [if_neg hb]
/-- A byte that is no kind. -/
theorem pD_kind {s : St} (h : (pD s).2.err = 0) (hk : ¬ (1 ≤ (pD s).1.1 ∧ (pD s).1.1 ≤ 7)) : (rdD s).2 = ((pD s).2, 6) := by
  unfold pD at h hk ⊢
  unfold rdD
  dsimp only at h hk ⊢
  generalize rdByte s = y at *
  obtain ⟨k, S⟩ := y
  dsimp only at h hk ⊢
  have e1 : (pB k (pA k S).2).2 = S := by
    unfold pA
    rw [if_neg (by omega), if_neg (by omega)]
    unfold pB
    rw [if_neg (by omega)]
  rw [e1] at h ⊢
  rw [if_pos ⟨h, by omega⟩]
/-- An object that is there. -/
theorem pD_fine {s : St} (h : (pD s).2.err = 0) (hk : 1 ≤ (pD s).1.1 ∧ (pD s).1.1 ≤ 7) : (rdD s).2 = ((pD s).2, 0) ∧ (pD s).1 = cutD (rdD s).1 := by
  unfold pD at h hk ⊢
  unfold rdD cutD
  dsimp only at h hk ⊢
  generalize rdByte s = y at *
  obtain ⟨k, S⟩ := y
  dsimp only at h hk ⊢
  obtain ⟨a1, a2⟩ := pA_rdA k S
  obtain ⟨b1, b2⟩ := pB_rdB k (pA k S).2
  rw [if_neg (by omega)]
  have e1 : (pB k (pA k S).2).2 = (rdB k (rdA k S).2).2 := by rw [b1, a1]
  rw [e1] at h ⊢
  refine ⟨by rw [h], ?_⟩
  dsimp only
  rw [a2, b2, a1]
  by_cases h7 : k = 7
  · rw [if_pos h7, if_pos (by omega)]
  · rw [if_neg h7, if_neg (by omega)]

theorem low31_of {n : Int} (h : n ≤ 2147483647) : low31 n = n := by unfold low31; omega
theorem fits_cut (l : List De) (c : UInt8) (o : Int) (hl : l.length ≤ 32) : fits (l.map cutD) c (low31 o) = fits l c o := by
  unfold fits
  rw [List.length_map]
  by_cases h : 0 ≤ o ∧ o < (l.length : Int)
  · rw [low31_of (by omega)]
    congr 1
    congr 1
    obtain ⟨m, rfl⟩ : ∃ m : Nat, o = (m : Int) := ⟨o.toNat, by omega⟩
    rw [Int.toNat_natCast, List.getD_eq_getElem?_getD, List.getD_eq_getElem?_getD, List.getElem?_map, List.getElem?_eq_getElem (by omega)]
    rfl
  · rw [decide_eq_false h, decide_eq_false (by unfold low31; omega), Bool.false_and, Bool.false_and]
theorem one_cut (l : List De) (d : De) (hl : l.length ≤ 32) : one (l.map cutD) (cutD d) = one l d := by
  obtain ⟨k, a, b⟩ := d
  have hf : fits (l.map cutD) 117 (low31 b) = fits l 117 b := fits_cut l 117 b hl
  show one (l.map cutD) (k, if k = 7 then a else low31 a, low31 b) = one l (k, a, b)
  unfold one
  dsimp only
  rw [hf]
  have hlow : low31 b = min b 2147483647 := rfl
  by_cases h7 : k = 7
  · subst h7
    rw [if_pos rfl]
    have e1 : (low31 b < 1 ↔ b < 1) := by omega
    have e2 : (low31 b ≠ 0 ↔ b ≠ 0) := by omega
    simp only [e2]
    rw [if_neg (fun h => by omega), if_neg (fun h => by omega), if_neg (fun h => by omega)]
    rw [if_neg (fun h => by omega : ¬ ((7 : Int) < 1 ∨ (7 : Int) < 7)), if_neg (fun h => by omega : ¬ ((7 : Int) = 3 ∧ (b < 1 ∨ 1000 < b ∨ a < 0 ∨ b < a)))]
  · rw [if_neg h7]
    have hla : low31 a = min a 2147483647 := rfl
    have e1 : (low31 b < 1 ∨ 1000 < low31 b ∨ low31 a < 0 ∨ low31 b < low31 a) ↔ (b < 1 ∨ 1000 < b ∨ a < 0 ∨ b < a) := by omega
    have e2 : (low31 b ≠ 0 ↔ b ≠ 0) := by omega
    have e3 : (low31 a ≠ 0 ↔ a ≠ 0) := by omega
    have e4 : (low31 a < 1 ∨ 1000 < low31 a) ↔ (a < 1 ∨ 1000 < a) := by omega
    have e5 : ¬ (k = 7 ∧ (¬ Word (low31 a) ∨ fits l 117 b = false)) := fun h => h7 h.1
    have e6 : ¬ (k = 7 ∧ (¬ Word a ∨ fits l 117 b = false)) := fun h => h7 h.1
    simp only [e1, e2, e3, e4, if_neg e5, if_neg e6]
theorem chk_cut (l : List De) (hl : l.length ≤ 32) : chk (l.map cutD) = chk l := by
  have hb : bad (l.map cutD) = bad l := by
    unfold bad
    rw [List.findIdx_map]
    congr 1
    funext d
    show (one (l.map cutD) (cutD d) != 0) = (one l d != 0)
    rw [one_cut l d hl]
  unfold chk
  rw [List.length_map, hb]
  by_cases h : bad l < l.length
  · rw [if_pos h, if_pos h]
    have : (l.map cutD).getD (bad l) zero = cutD (l.getD (bad l) zero) := by
      rw [List.getD_eq_getElem?_getD, List.getD_eq_getElem?_getD, List.getElem?_map, List.getElem?_eq_getElem h]
      rfl
    rw [this, one_cut l _ hl]
  · rw [if_neg h, if_neg h]
/-- Objects that may be are read alike. -/
theorem cut_same {l : List De} (h : (chk l).2 = 0) : l.map cutD = l := by
  obtain ⟨hl, _, hall⟩ := chk_zero h
  apply List.ext_getElem?
  intro i
  rw [List.getElem?_map]
  rcases Nat.lt_or_ge i l.length with hi | hi
  · rw [List.getElem?_eq_getElem hi, Option.map_some]
    have h1 := hall i hi
    rw [List.getD_eq_getElem?_getD, List.getElem?_eq_getElem hi, Option.getD_some] at h1
    generalize l[i] = d at *
    obtain ⟨k, a, b⟩ := d
    obtain ⟨hk, h3, h6, h7, hb, ha⟩ := one_zero h1
    dsimp only at hk h3 h6 h7 hb ha
    congr 1
    unfold cutD
    dsimp only
    have eb : low31 b = b := by
      apply low31_of
      by_cases e3 : k = 3
      · have := h3 e3; omega
      · by_cases e7 : k = 7
        · have := fits_lt (h7 e7).2; omega
        · have := hb e3 e7; omega
    have ea : (if k = 7 then a else low31 a) = a := by
      by_cases e7 : k = 7
      · rw [if_pos e7]
      · rw [if_neg e7]
        apply low31_of
        by_cases e3 : k = 3
        · have := h3 e3; omega
        · by_cases e6 : k = 6
          · have := h6 e6; omega
          · have := ha e3 e6 e7; omega
    rw [ea, eb]
  · rw [List.getElem?_eq_none hi]
    rfl

/-- The objects that the program reads, before they are checked. -/
def pAll (s : St) : List De × St × Nat :=
  let n := pN s
  if n.2.err ≠ 0 then ([], n.2, n.2.err)
  else if 32 < n.1 then ([], n.2, 4)
  else
    let p := rdL n.2 n.1.toNat
    (p.1.map cutD, p.2.1, p.2.2)
theorem rdL_empty {s : St} : ∀ j, (rdL s j).2.2 ≠ 0 → (rdL s j).1 = [] := by
  intro j
  induction j with
  | zero => intro h; exact absurd rfl h
  | succ j ih =>
    intro h
    simp only [rdL] at h ⊢
    by_cases h1 : (rdL s j).2.2 ≠ 0
    · rw [if_pos h1] at h ⊢
      exact ih h1
    · rw [if_neg h1] at h ⊢
      by_cases h2 : (rdD (rdL s j).2.1).2.2 ≠ 0
      · rw [if_pos h2]
      · rw [if_neg h2] at h
        exact absurd rfl h
theorem rdL_short {s : St} : ∀ j, (rdL s j).1.length ≤ j := by
  intro j
  induction j with
  | zero => exact Nat.le_refl _
  | succ j ih =>
    simp only [rdL]
    split
    · omega
    · split
      · simp
      · rw [List.length_append]; simp; exact ih
theorem getL_prog (t : List UInt8) : getL t = if (pAll ⟨t, 0⟩).2.2 ≠ 0 then ([], 0, (pAll ⟨t, 0⟩).2.2)
    else if (chk (pAll ⟨t, 0⟩).1).2 ≠ 0 then ([], 0, (chk (pAll ⟨t, 0⟩).1).2)
    else ((pAll ⟨t, 0⟩).1, t.length - (pAll ⟨t, 0⟩).2.1.rest.length, 0) := by
  unfold getL readL pAll
  dsimp only
  obtain ⟨e1, e2⟩ := pN_rdN ⟨t, 0⟩
  simp only [e1, e2]
  have hn : 0 ≤ (rdN ⟨t, 0⟩).1 := by unfold rdN; dsimp only; omega
  generalize rdN ⟨t, 0⟩ = N at *
  obtain ⟨n, S⟩ := N
  dsimp only at hn ⊢
  by_cases h1 : S.err ≠ 0
  · simp only [if_pos h1]
  · simp only [if_neg h1]
    by_cases h2 : 32 < n
    · have h3 : 32 < low31 n := by unfold low31; omega
      simp only [if_pos h2, if_pos h3]
      rfl
    · have h3 : low31 n = n := by unfold low31; omega
      rw [h3]
      simp only [if_neg h2]
      by_cases h4 : (rdL S n.toNat).2.2 ≠ 0
      · simp only [if_pos h4]
      · simp only [if_neg h4]
        have hs : (rdL S n.toNat).1.length ≤ 32 := by have := rdL_short (s := S) n.toNat; omega
        rw [chk_cut _ hs]
        by_cases h5 : (chk (rdL S n.toNat).1).2 ≠ 0
        · simp only [if_pos h5]
        · simp only [if_neg h5]
          rw [cut_same (by omega)]
          rfl
end Go.Proofs.YtahejekcfgkiaaaGreatDoor.objs

/-
  The program reads a number that is above all ranges as another such number than the document does, and it reads nothing behind a byte that is no kind: what is told of the wait is the same. Plain mathematics; no condition.
-/
namespace Go.Proofs.YtahejekcfgkiaaaGreatDoor.need
open Go.Proofs.YtahejekcfgkiaaaGreatDoor.octet (St rdByte rdNum rdNum_ok rdNum_left rdByte_ok dec_fails)
open Go.Proofs.YtahejekcfgkiaaaGreatDoor.objs (De zero rdN chk chk_zero low31 low31_of pN_rdN)
open Go.Proofs.YtahejekcfgkiaaaGreatDoor.span (pN)
set_option linter.unusedVariables false

theorem pN_ok {s : St} (h : s.ok) : (pN s).2.ok := rdNum_ok h
theorem pN_left (s : St) : (pN s).2.rest.length ≤ s.rest.length := rdNum_left s
theorem rdByte_left (s : St) : (rdByte s).2.rest.length ≤ s.rest.length := by
  unfold rdByte
  split
  · exact Nat.le_refl _
  · split
    · exact Nat.zero_le _
    · rename_i h; rw [h]; simp
theorem rdNum_fail {s : St} (h : (rdNum s).2.err ≠ 0) : (rdNum s).1 = 0 := by
  unfold rdNum at h ⊢
  split
  · rfl
  · rename_i h1
    rw [if_neg h1] at h
    exact (dec_fails _ _ _ h).1
theorem rdByte_fail {s : St} (h : (rdByte s).2.err ≠ 0) : (rdByte s).1 = 0 := by
  unfold rdByte at h ⊢
  split
  · rfl
  · rename_i h1
    rw [if_neg h1] at h
    split
    · rfl
    · rename_i h2
      rw [h2] at h
      exact absurd rfl h
theorem rdNum_stay {s : St} (h : s.err ≠ 0) : rdNum s = (0, s) := by unfold rdNum; rw [if_pos h]

/-- A need of the document's as the program reads it. -/
def cutN (n : De) : De := (n.1, low31 n.2.1, low31 n.2.2)
def pC (k : Nat) (s : St) : Int × St := if 3 < k then pN s else (0, s)
/-- A need as the program reads it, whether it may be or not. -/
def pNeed (s : St) : De × St :=
  let y := rdByte s
  if 1 ≤ y.1 ∧ y.1 ≤ 5 then (((y.1 : Int), (pN y.2).1, (pC y.1 (pN y.2).2).1), (pC y.1 (pN y.2).2).2) else (((y.1 : Int), 0, 0), y.2)
theorem pC_rdC (k : Nat) (s : St) : (pC k s).2 = (rdC k s).2 ∧ (pC k s).1 = low31 (rdC k s).1 := by
  unfold pC rdC
  by_cases h : 3 < k
  · rw [if_pos h, if_pos h]
    exact pN_rdN s
  · rw [if_neg h, if_neg h]
    exact ⟨rfl, rfl⟩
theorem pC_ok {k : Nat} {s : St} (h : s.ok) : (pC k s).2.ok := by
  unfold pC
  split
  · exact pN_ok h
  · exact h
theorem pC_left (k : Nat) (s : St) : (pC k s).2.rest.length ≤ s.rest.length := by
  unfold pC
  split
  · exact pN_left s
  · exact Nat.le_refl _
theorem pNeed_ok {s : St} (h : s.ok) : (pNeed s).2.ok := by
  unfold pNeed
  dsimp only
  split
  · exact pC_ok (pN_ok (rdByte_ok h))
  · exact rdByte_ok h
theorem pNeed_left (s : St) : (pNeed s).2.rest.length ≤ s.rest.length := by
  unfold pNeed
  dsimp only
  split
  · exact Nat.le_trans (pC_left _ _) (Nat.le_trans (pN_left _) (rdByte_left s))
  · exact rdByte_left s
theorem rdC_stay {k : Nat} {s : St} (h : s.err ≠ 0) : (rdC k s).2 = s := rdC_err h
/-- What is wrong with the bytes of a need. -/
theorem pNeed_err {s : St} (h : (pNeed s).2.err ≠ 0) : (rdNeed s).2 = ((pNeed s).2, (pNeed s).2.err) := by
  have hf := rdByte_fail (s := s)
  unfold pNeed at h ⊢
  unfold rdNeed
  dsimp only at h ⊢
  generalize rdByte s = y at *
  obtain ⟨k, S⟩ := y
  dsimp only at h hf ⊢
  by_cases hk : 1 ≤ k ∧ k ≤ 5
  · rw [if_pos hk] at h ⊢
    rw [if_neg (by omega)]
    have e1 : (pC k (pN S).2).2 = (rdC k (rdN S).2).2 := by rw [(pC_rdC _ _).1, (pN_rdN S).1]
    dsimp only at h ⊢
    rw [e1]
  · rw [if_neg hk] at h ⊢
    dsimp only at h ⊢
    rw [if_neg (fun hh => h hh.1)]
    have e1 : (rdN S).2 = S := by
      show (rdNum S).2 = S
      rw [rdNum_stay h]
    have e2 : (rdC k (rdN S).2).2 = S := by rw [e1]; exact rdC_stay h
    rw [e2]
/-- A byte that is no kind. -/
theorem pNeed_kind {s : St} (h : (pNeed s).2.err = 0) (hk : ¬ (1 ≤ (pNeed s).1.1 ∧ (pNeed s).1.1 ≤ 5)) : (rdNeed s).2 = ((pNeed s).2, 6) := by
  unfold pNeed at h hk ⊢
  unfold rdNeed
  dsimp only at h hk ⊢
  generalize rdByte s = y at *
  obtain ⟨k, S⟩ := y
  dsimp only at h hk ⊢
  by_cases hk2 : 1 ≤ k ∧ k ≤ 5
  · exfalso
    rw [if_pos hk2] at hk
    dsimp only at hk
    omega
  · rw [if_neg hk2] at h ⊢
    dsimp only at h ⊢
    rw [if_pos ⟨h, by omega⟩]
/-- A need that is there. -/
theorem pNeed_fine {s : St} (h : (pNeed s).2.err = 0) (hk : 1 ≤ (pNeed s).1.1 ∧ (pNeed s).1.1 ≤ 5) : (rdNeed s).2 = ((pNeed s).2, 0) ∧ (pNeed s).1 = cutN (rdNeed s).1 := by
  unfold pNeed at h hk ⊢
  unfold rdNeed cutN
  dsimp only at h hk ⊢
  generalize rdByte s = y at *
  obtain ⟨k, S⟩ := y
  dsimp only at h hk ⊢
  by_cases hk2 : 1 ≤ k ∧ k ≤ 5
  · rw [if_pos hk2] at h ⊢
    rw [if_neg (by omega)]
    obtain ⟨a1, a2⟩ := pN_rdN S
    obtain ⟨b1, b2⟩ := pC_rdC k (rdN S).2
    dsimp only at h ⊢
    rw [a1, b1] at h ⊢
    rw [h, a2, b2]
    exact ⟨rfl, rfl⟩
  · exfalso
    rw [if_neg hk2] at hk
    dsimp only at hk
    omega

theorem cutN_same {d : List De} {n : De} (hd : (chk d).2 = 0) (h : oneN d n = 0) : cutN n = n := by
  obtain ⟨_, h2, _, _, h5⟩ := need_small hd h
  obtain ⟨k, o, m⟩ := n
  dsimp only at h2 h5
  unfold cutN
  dsimp only
  rw [low31_of (by omega), low31_of (by omega)]
theorem oneN_cut {d : List De} {n : De} (hd : (chk d).2 = 0) : oneN d (cutN n) = oneN d n := by
  have hl := (chk_zero hd).1
  by_cases h : oneN d n = 0
  · rw [cutN_same hd h]
  · obtain ⟨k, o, m⟩ := n
    by_cases hk : k < 1 ∨ 5 < k
    · unfold oneN cutN
      dsimp only
      rw [if_pos hk, if_pos hk]
    · by_cases ho : o < 0 ∨ (d.length : Int) ≤ o
      · have ho2 : low31 o < 0 ∨ (d.length : Int) ≤ low31 o := by unfold low31; omega
        unfold oneN cutN
        dsimp only
        rw [if_neg hk, if_neg hk, if_pos (by rcases ho2 with h | h; exact .inl h; exact .inr (.inl h)), if_pos (by rcases ho with h | h; exact .inl h; exact .inr (.inl h))]
      · have eo : low31 o = o := low31_of (by omega)
        have e1 : oneN d (k, o, m) = 1 := by
          unfold oneN at h ⊢
          dsimp only at h ⊢
          rw [if_neg hk] at h ⊢
          split
          · rfl
          · rename_i h1
            rw [if_neg h1] at h
            split
            · rfl
            · rename_i h2
              rw [if_neg h2] at h
              exact absurd rfl h
        rw [e1]
        unfold oneN at h ⊢
        unfold cutN
        dsimp only at h ⊢
        rw [eo]
        rw [if_neg hk] at h ⊢
        by_cases hx : o < 0 ∨ (d.length : Int) ≤ o ∨ (d.getD o.toNat zero).1 ≠ kn k
        · rw [if_pos hx]
        · rw [if_neg hx] at h ⊢
          have hr : m < lo (k, o, m) ∨ hi d (k, o, m) < m := by
            rcases Classical.em (m < lo (k, o, m) ∨ hi d (k, o, m) < m) with h3 | h3
            · exact h3
            · rw [if_neg h3] at h
              exact absurd rfl h
          have el : lo (k, o, low31 m) = lo (k, o, m) := rfl
          have eh : hi d (k, o, low31 m) = hi d (k, o, m) := rfl
          have hh : hi d (k, o, m) ≤ 1000 := by
            unfold hi
            dsimp only
            have hnot : ¬ o < 0 ∧ ¬ (d.length : Int) ≤ o ∧ (d.getD o.toNat zero).1 = kn k := by
              refine ⟨fun h => hx (.inl h), fun h => hx (.inr (.inl h)), ?_⟩
              rcases Classical.em ((d.getD o.toNat zero).1 = kn k) with h3 | h3
              · exact h3
              · exact absurd (.inr (.inr h3)) hx
            have hj : o.toNat < d.length := by omega
            have h1 := (chk_zero hd).2.2 o.toNat hj
            obtain ⟨_, q3, q6, _⟩ := Go.Proofs.YtahejekcfgkiaaaGreatDoor.objs.one_zero h1
            split
            · rename_i e4
              have := q3 (by rw [hnot.2.2, e4]; rfl)
              omega
            · split
              · rename_i e5
                have := q6 (by rw [hnot.2.2, e5]; rfl)
                omega
              · omega
          have hlo : 0 ≤ lo (k, o, m) ∧ lo (k, o, m) ≤ 1 := by unfold lo; split <;> omega
          rw [el, eh, if_pos]
          unfold low31
          omega
theorem ones_cut {d : List De} (hd : (chk d).2 = 0) (l : List De) : ones d (l.map cutN) = ones d l := by
  induction l with
  | nil => rfl
  | cons n l ih =>
    rw [List.map_cons]
    unfold ones
    rw [oneN_cut hd, ih]
theorem way_same {d l : List De} (hd : (chk d).2 = 0) (h : ones d l = 0) : l.map cutN = l := by
  have h1 := ones_zero h
  clear h
  induction l with
  | nil => rfl
  | cons n l ih =>
    rw [List.map_cons, cutN_same hd (h1 n (List.mem_cons_self ..)), ih (fun x hx => h1 x (List.mem_cons_of_mem _ hx))]
theorem chkWay_cut {d : List De} (hd : (chk d).2 = 0) (l : List De) : chkWay d (l.map cutN) = chkWay d l := by
  by_cases h : ones d l = 0
  · rw [way_same hd h]
  · unfold chkWay
    rw [List.length_map, ones_cut hd, if_pos h, if_pos h]
theorem ways_cut {d : List De} (hd : (chk d).2 = 0) (w : List (List De)) : ways d (w.map (·.map cutN)) = ways d w := by
  induction w with
  | nil => rfl
  | cons n l ih =>
    rw [List.map_cons]
    unfold ways
    rw [chkWay_cut hd, ih]
theorem chkW_cut {d : List De} (hd : (chk d).2 = 0) (w : List (List De)) : chkW d (w.map (·.map cutN)) = chkW d w := by
  unfold chkW
  rw [List.length_map, ways_cut hd]
theorem wait_same {d : List De} {w : List (List De)} (hd : (chk d).2 = 0) (h : chkW d w = 0) : w.map (·.map cutN) = w := by
  have h1 := (chkW_zero h).2.2
  clear h
  induction w with
  | nil => rfl
  | cons n l ih =>
    have hn := h1 n (List.mem_cons_self ..)
    have ho : ones d n = 0 := by
      have h2 := hn.2.2
      clear hn h1 ih
      induction n with
      | nil => rfl
      | cons m r ih2 =>
        unfold ones
        rw [if_neg (by simp [h2 m (List.mem_cons_self ..)])]
        exact ih2 (fun x hx => h2 x (List.mem_cons_of_mem _ hx))
    rw [List.map_cons, way_same hd ho, ih (fun x hx => h1 x (List.mem_cons_of_mem _ hx))]

/-- The ways as they are read, before they are checked. -/
def allW (s : St) : List (List De) × St × Nat :=
  if (rdNum s).2.err ≠ 0 then ([], (rdNum s).2, (rdNum s).2.err) else if 4 < (rdNum s).1 then ([], (rdNum s).2, 4) else rdWays (rdNum s).2 (rdNum s).1
theorem rdWay_eq (s : St) : rdWay s = if (rdNum s).2.err ≠ 0 then ([], (rdNum s).2, (rdNum s).2.err) else if 4 < (rdNum s).1 then ([], (rdNum s).2, 4) else rdNeeds (rdNum s).2 (rdNum s).1 := by
  unfold rdWay
  by_cases h : (rdNum s).2.err ≠ 0
  · have h0 := rdNum_fail h
    rw [if_pos h, if_neg (by omega), if_pos h]
  · rw [if_neg h, if_neg h]
theorem readW_eq2 (d : List De) (s : St) : readW d s = if (allW s).2.2 ≠ 0 then ([], (allW s).2.1, (allW s).2.2) else if chkW d (allW s).1 ≠ 0 then ([], (allW s).2.1, chkW d (allW s).1) else allW s := by
  unfold readW allW
  by_cases h : (rdNum s).2.err ≠ 0
  · have h0 := rdNum_fail h
    rw [if_neg (by omega), if_pos h, if_pos h, if_pos h]
  · rw [if_neg h, if_neg h]
    by_cases h4 : 4 < (rdNum s).1
    · rw [if_pos h4, if_pos h4]
      rfl
    · rw [if_neg h4, if_neg h4]
      dsimp only
      split
      · rfl
      · split
        · rfl
        · rename_i h1 h2
          have : (rdWays (rdNum s).2 (rdNum s).1).2.2 = 0 := by omega
          rw [← this]
theorem getW_prog {d : List De} (hd : (chk d).2 = 0) (t : List UInt8) : getW d t = if (allW ⟨t, 0⟩).2.2 ≠ 0 then ([], 0, (allW ⟨t, 0⟩).2.2)
    else if chkW d ((allW ⟨t, 0⟩).1.map (·.map cutN)) ≠ 0 then ([], 0, chkW d ((allW ⟨t, 0⟩).1.map (·.map cutN)))
    else ((allW ⟨t, 0⟩).1.map (·.map cutN), t.length - (allW ⟨t, 0⟩).2.1.rest.length, 0) := by
  unfold getW
  dsimp only
  rw [readW_eq2, chkW_cut hd]
  generalize allW ⟨t, 0⟩ = r at *
  obtain ⟨ls, S, e⟩ := r
  dsimp only
  by_cases h : e ≠ 0
  · rw [if_pos h, if_pos h]
    dsimp only
    rw [if_pos h]
  · rw [if_neg h, if_neg h]
    by_cases hc : chkW d ls ≠ 0
    · rw [if_pos hc, if_pos hc]
      dsimp only
      rw [if_pos hc]
    · rw [if_neg hc, if_neg hc, if_neg h, wait_same hd (by omega)]
theorem rdNeeds_empty {s : St} : ∀ j, (rdNeeds s j).2.2 ≠ 0 → (rdNeeds s j).1 = [] := by
  intro j
  induction j with
  | zero => intro h; exact absurd rfl h
  | succ j ih =>
    intro h
    simp only [rdNeeds] at h ⊢
    by_cases h1 : (rdNeeds s j).2.2 ≠ 0
    · rw [if_pos h1] at h ⊢
      exact ih h1
    · rw [if_neg h1] at h ⊢
      by_cases h2 : (rdNeed (rdNeeds s j).2.1).2.2 ≠ 0
      · rw [if_pos h2]
      · rw [if_neg h2] at h
        exact absurd rfl h
theorem rdWays_empty {s : St} : ∀ j, (rdWays s j).2.2 ≠ 0 → (rdWays s j).1 = [] := by
  intro j
  induction j with
  | zero => intro h; exact absurd rfl h
  | succ j ih =>
    intro h
    simp only [rdWays] at h ⊢
    by_cases h1 : (rdWays s j).2.2 ≠ 0
    · rw [if_pos h1] at h ⊢
      exact ih h1
    · rw [if_neg h1] at h ⊢
      by_cases h2 : (rdWay (rdWays s j).2.1).2.2 ≠ 0
      · rw [if_pos h2]
      · rw [if_neg h2] at h
        exact absurd rfl h
theorem rdNeed_state (s : St) : (rdNeed s).2.1 = (pNeed s).2 := by
  by_cases h : (pNeed s).2.err ≠ 0
  · rw [pNeed_err h]
  · by_cases hk : 1 ≤ (pNeed s).1.1 ∧ (pNeed s).1.1 ≤ 5
    · rw [(pNeed_fine (by omega) hk).1]
    · rw [pNeed_kind (by omega) hk]
theorem rdNeeds_ok {s : St} (h : s.ok) : ∀ j, (rdNeeds s j).2.1.ok := by
  intro j
  induction j with
  | zero => exact h
  | succ j ih =>
    simp only [rdNeeds]
    split
    · exact ih
    · split <;> (show (rdNeed _).2.1.ok; rw [rdNeed_state]; exact pNeed_ok ih)
theorem rdNeeds_left (s : St) : ∀ j, (rdNeeds s j).2.1.rest.length ≤ s.rest.length := by
  intro j
  induction j with
  | zero => exact Nat.le_refl _
  | succ j ih =>
    simp only [rdNeeds]
    split
    · exact ih
    · split <;> (show (rdNeed _).2.1.rest.length ≤ _; rw [rdNeed_state]; exact Nat.le_trans (pNeed_left _) ih)
theorem rdWay_ok {s : St} (h : s.ok) : (rdWay s).2.1.ok := by
  rw [rdWay_eq]
  split
  · exact rdNum_ok h
  · split
    · exact rdNum_ok h
    · exact rdNeeds_ok (rdNum_ok h) _
theorem rdWay_left (s : St) : (rdWay s).2.1.rest.length ≤ s.rest.length := by
  rw [rdWay_eq]
  split
  · exact rdNum_left s
  · split
    · exact rdNum_left s
    · exact Nat.le_trans (rdNeeds_left _ _) (rdNum_left s)
theorem rdWays_ok {s : St} (h : s.ok) : ∀ j, (rdWays s j).2.1.ok := by
  intro j
  induction j with
  | zero => exact h
  | succ j ih =>
    simp only [rdWays]
    split
    · exact ih
    · split <;> exact rdWay_ok ih
theorem rdWays_left (s : St) : ∀ j, (rdWays s j).2.1.rest.length ≤ s.rest.length := by
  intro j
  induction j with
  | zero => exact Nat.le_refl _
  | succ j ih =>
    simp only [rdWays]
    split
    · exact ih
    · split <;> exact Nat.le_trans (rdWay_left _) ih
theorem allW_left (s : St) : (allW s).2.1.rest.length ≤ s.rest.length := by
  unfold allW
  split
  · exact rdNum_left s
  · split
    · exact rdNum_left s
    · exact Nat.le_trans (rdWays_left _ _) (rdNum_left s)
theorem rdNeeds_stuck {s : St} {j : Nat} {q : List De × St × Nat} (h : rdNeeds s j = q) (hq : q.2.2 ≠ 0) : ∀ k, j ≤ k → rdNeeds s k = q := fun k hk => by
  rw [rdNeeds_err (by rw [h]; exact hq) k hk, h]
theorem rdWays_stuck {s : St} {j : Nat} {q : List (List De) × St × Nat} (h : rdWays s j = q) (hq : q.2.2 ≠ 0) : ∀ k, j ≤ k → rdWays s k = q := fun k hk => by
  rw [rdWays_err (by rw [h]; exact hq) k hk, h]
theorem rdNeeds_short {s : St} : ∀ j, (rdNeeds s j).1.length ≤ j := by
  intro j
  induction j with
  | zero => exact Nat.le_refl _
  | succ j ih =>
    simp only [rdNeeds]
    split
    · omega
    · split
      · simp
      · rw [List.length_append]; simp; exact ih
theorem rdWays_short {s : St} : ∀ j, (rdWays s j).1.length ≤ j := by
  intro j
  induction j with
  | zero => exact Nat.le_refl _
  | succ j ih =>
    simp only [rdWays]
    split
    · omega
    · split
      · simp
      · rw [List.length_append]; simp; exact ih
theorem allW_short (s : St) : (allW s).1.length ≤ 4 := by
  unfold allW
  split
  · simp
  · split
    · simp
    · have := rdWays_short (s := (rdNum s).2) (rdNum s).1
      omega
end Go.Proofs.YtahejekcfgkiaaaGreatDoor.need

/-
  The program's own reading of one need (typed over the code of 5ef5b61): for every text of at most two to the forty-seventh bytes. No other condition.
-/
namespace Go.Proofs.YtahejekcfgkiaaaGreatDoor.need
open Go.RowKit Go.ChangeShapes
open Go.Proofs.YtahejekcfgkiaaaGreatDoor.octet (St InAt Frm rdByte rdNum byteIn_any rdNum_ok rdNum_left rdByte_ok)
open Go.Proofs.YtahejekcfgkiaaaGreatDoor.span (pN num_any)
open Go.Proofs.YtahejekcfgkiaaaGreatDoor.objs (De zero put3 put3_far put3_same cells3)
set_option linter.unusedVariables false

/-- What get tells, and leaves. -/
def OnePostN (bi : Nat) (q : De × St) (w : World) (e : Ending) (w' : World) : Prop :=
  e = .returned (.agg #[.int .i64 q.1.1, .int .i64 q.1.2.1, .int .i64 q.1.2.2]) ∧ InAt w' bi q.2 ∧ Frm w.heap.size bi w w'

/-- In the midst of reading: where the reader stands, and what was read. -/
structure Gd (w : World) (bi d : Nat) (k a b : Int) (S : St) (W : World) : Prop where
  inn : InAt W bi S
  b0 : W.heap[w.heap.size]? = some (needBox 0 0 0)
  bd : W.heap[d]? = some (needBox k a b)
  frm : Frm w.heap.size bi w W
  lt : bi < w.heap.size
  h1 : w.heap.size < d
theorem Gd.next {w W W' : World} {bi d : Nat} {k a b : Int} {S S' : St} (h : Gd w bi d k a b S W) (hi : InAt W' bi S') (hf : Frm W.heap.size bi W W') : Gd w bi d k a b S' W' := by
  have e1 := h.lt
  have e2 := h.h1
  have e3 := lt_of_block h.bd
  exact ⟨hi, (hf.block _ (by omega) (by omega)).trans h.b0, (hf.block _ e3 (by omega)).trans h.bd, h.frm.trans (hf.mono h.frm.size), e1, e2⟩
theorem Gd.setA {w W : World} {bi d : Nat} {k a b : Int} {S : St} (h : Gd w bi d k a b S W) (n : Int) : Gd w bi d k n b S (W.setCell ⟨d, 1, none⟩ (.int .i64 n)) := by
  have e1 := h.lt
  have e2 := h.h1
  have hx : ∀ i, i ≠ d → (W.setCell ⟨d, 1, none⟩ (.int .i64 n)).heap[i]? = W.heap[i]? := fun i hi => Below.heap_setCell W ⟨d, 1, none⟩ _ i hi
  refine ⟨(hx bi (by omega)).trans h.inn, (hx _ (by omega)).trans h.b0, ?_, h.frm.setCell (p := ⟨d, 1, none⟩) (.inr (by show w.heap.size ≤ d; omega)) _, e1, e2⟩
  have := h.bd
  unfold needBox at this ⊢
  simp [World.setCell, Array.getElem?_modify, this]
theorem Gd.setB {w W : World} {bi d : Nat} {k a b : Int} {S : St} (h : Gd w bi d k a b S W) (n : Int) : Gd w bi d k a n S (W.setCell ⟨d, 2, none⟩ (.int .i64 n)) := by
  have e1 := h.lt
  have e2 := h.h1
  have hx : ∀ i, i ≠ d → (W.setCell ⟨d, 2, none⟩ (.int .i64 n)).heap[i]? = W.heap[i]? := fun i hi => Below.heap_setCell W ⟨d, 2, none⟩ _ i hi
  refine ⟨(hx bi (by omega)).trans h.inn, (hx _ (by omega)).trans h.b0, ?_, h.frm.setCell (p := ⟨d, 2, none⟩) (.inr (by show w.heap.size ≤ d; omega)) _, e1, e2⟩
  have := h.bd
  unfold needBox at this ⊢
  simp [World.setCell, Array.getElem?_modify, this]
theorem Gd.cells {w W : World} {bi d : Nat} {k a b : Int} {S : St} (h : Gd w bi d k a b S W) :
    (W.cell? ⟨d, 0, none⟩ = some (.int .i64 k) ∧ W.cell? ⟨d, 1, none⟩ = some (.int .i64 a) ∧ W.cell? ⟨d, 2, none⟩ = some (.int .i64 b)) ∧ (W.frozen? ⟨d, 1, none⟩ = false ∧ W.frozen? ⟨d, 2, none⟩ = false) ∧
    (W.cell? ⟨w.heap.size, 0, none⟩ = some (.int .i64 0) ∧ W.cell? ⟨w.heap.size, 1, none⟩ = some (.int .i64 0) ∧ W.cell? ⟨w.heap.size, 2, none⟩ = some (.int .i64 0)) ∧
    (W.frozen? ⟨w.heap.size, 0, none⟩ = false ∧ W.frozen? ⟨w.heap.size, 1, none⟩ = false ∧ W.frozen? ⟨w.heap.size, 2, none⟩ = false) := by
  have h1 := h.bd
  have h2 := h.b0
  unfold needBox at h1 h2
  obtain ⟨x0, x1, x2, _, y1, y2⟩ := cells3 h1
  obtain ⟨v0, v1, v2, z0, z1, z2⟩ := cells3 h2
  exact ⟨⟨x0, x1, x2⟩, ⟨y1, y2⟩, ⟨v0, v1, v2⟩, z0, z1, z2⟩
theorem gd_new {w w2 : World} {bi : Nat} {k : Int} {S : St} (hi : InAt w2 bi S) (hf : Frm (w.alloc (needBox 0 0 0)).heap.size bi (w.alloc (needBox 0 0 0)) w2) (hlt : bi < w.heap.size) : Gd w bi w2.heap.size k 0 0 S (w2.alloc (needBox k 0 0)) := by
  have hz : (w.alloc (needBox 0 0 0)).heap.size = w.heap.size + 1 := World.size_alloc w _
  have hb0 : Below w.heap.size w (w.alloc (needBox 0 0 0)) := (Below.refl _ w).alloc (Nat.le_refl _) _
  have hb : Below w2.heap.size w2 (w2.alloc (needBox k 0 0)) := (Below.refl _ w2).alloc (Nat.le_refl _) _
  have hs := hf.size
  have h0 : w2.heap[w.heap.size]? = some (needBox 0 0 0) := (hf.block _ (by omega) (by omega)).trans (heap_alloc_new w _)
  have hfr : Frm w.heap.size bi w w2 := (Frm.of_below hb0).trans (hf.mono (by omega))
  exact ⟨hi.kept (hb.block _ hi.lt), (hb.block _ (by omega)).trans h0, heap_alloc_new w2 _, hfr.trans (Frm.of_below (hb.mono (by omega))), hlt, by omega⟩

theorem getN_ret {w W : World} {bi d : Nat} {k a b : Int} {S : St} {act : Act} {q : De × St} (hq : q = ((k, a, b), S)) (h2 : act.tmps[2]?.getD undef = .pointer (some ⟨w.heap.size, 0, none⟩)) (hd : act.defers = [])
    (h : Gd w bi d k a b S W) : bodyPost Tryz.prog Tryz.f118 (OnePostN bi q w) .ret act (put3 W w.heap.size (.int .i64 k) (.int .i64 a) (.int .i64 b)) := by
  subst hq
  have h0 := h.b0
  unfold needBox at h0
  have e1 := h.lt
  obtain ⟨x0, x1, x2, _, _, _⟩ := cells3 (put3_same h0 (.int .i64 k) (.int .i64 a) (.int .i64 b))
  refine bodyPost_ret (v := .agg #[.int .i64 k, .int .i64 a, .int .i64 b]) ?_ hd ⟨rfl, h.inn.kept (put3_far (by omega) _ _ _), ((h.frm.setCell (p := ⟨w.heap.size, 0, none⟩) (.inr (Nat.le_refl _)) _).setCell (p := ⟨w.heap.size, 1, none⟩) (.inr (Nat.le_refl _)) _).setCell (p := ⟨w.heap.size, 2, none⟩) (.inr (Nat.le_refl _)) _⟩
  simp [results, Tryz.results118, go_sem, h2, x0, x1, x2]

set_option maxRecDepth 100000 in
set_option maxHeartbeats 4000000 in
theorem getN_any (w : World) (bi : Nat) (s : St) (hi : InAt w bi s) (hok : s.ok) (hl : s.rest.length ≤ 140737489403904) :
    Calls Tryz.prog 118 #[.pointer (some ⟨bi, 0, none⟩)] w (OnePostN bi (pNeed s) w) := by
  have hlt := hi.lt
  have hb1 : Below w.heap.size w (w.alloc (needBox 0 0 0)) := (Below.refl _ w).alloc (Nat.le_refl _) _
  have HB := Lib.hid (byteIn_any _ bi s (hi.kept (hb1.block bi hlt)) hok hl)
  obtain ⟨q, hq⟩ : ∃ q, q = pNeed s := ⟨_, rfl⟩
  have HQ : Hid (q = if 1 ≤ (rdByte s).1 ∧ (rdByte s).1 ≤ 5 then ((((rdByte s).1 : Int), (pN (rdByte s).2).1, (pC (rdByte s).1 (pN (rdByte s).2).2).1), (pC (rdByte s).1 (pN (rdByte s).2).2).2) else ((((rdByte s).1 : Int), 0, 0), (rdByte s).2)) := Lib.hid hq
  rw [← hq]
  clear hq hb1 hi
  have hok1 := rdByte_ok hok
  have hl1 : (rdByte s).2.rest.length ≤ 140737489403904 := Nat.le_trans (rdByte_left s) hl
  generalize rdByte s = p at *
  obtain ⟨k, S⟩ := p
  dsimp only at HB HQ hok1 hl1
  have hok2 := pN_ok hok1
  have hl2 : (pN S).2.rest.length ≤ 140737489403904 := Nat.le_trans (pN_left S) hl1
  have HK := fun W => Lib.hid (known_any (k : Int) W)
  have HCt := fun W => Lib.hid (counts_any (k : Int) W)
  have HN1 := fun W hW => Lib.hid (num_any W bi S hW hok1 hl1)
  have HN2 := fun W hW => Lib.hid (num_any W bi _ hW hok2 hl2)
  go_enter Tryz.func118, Tryz.ntmps118
  unfold needBox at HB
  go_wp2_with fail
  refine HB.out.mono ?_
  rintro e w2 ⟨rfl, hi2, hf2⟩
  have HG := Lib.hid (gd_new (k := (k : Int)) hi2 hf2 hlt)
  clear hi2 hf2 HB
  unfold needBox at HG
  go_upto_region 2 with fail
  generalize w2.alloc (.cells #[.int .i64 (k : Int), .int .i64 0, .int .i64 0] 93) = W2 at *
  generalize w2.heap.size = d at *
  obtain ⟨⟨c0, c1, c2⟩, ⟨g1, g2⟩, ⟨e0, e1, e2⟩, f0, f1, f2⟩ := HG.out.cells
  by_cases hk : 1 ≤ k ∧ k ≤ 5
  · rw [decide_eq_true (by omega)] at HK
    rw [if_pos hk] at HQ
    generalize pN S = n1 at *
    obtain ⟨x, S1⟩ := n1
    dsimp only at HN1 HN2 HQ
    clear hok2 hl2 hok1 hl1
    by_cases h3 : 3 < k
    · rw [decide_eq_true (by omega)] at HCt
      have HC1 : Hid (pC k S1 = pN S1) := Lib.hid (by unfold pC; rw [if_pos h3])
      rw [HC1.out] at HQ
      generalize pN S1 = n2 at *
      obtain ⟨y, S2⟩ := n2
      dsimp only at HN2 HQ
      clear h3 hk HC1
      go_wp2_with fail
      refine (HK _).out.mono ?_
      rintro e w3 ⟨rfl, rfl⟩
      go_wp2_with fail
      refine (HN1 _ HG.out.inn).out.mono ?_
      rintro e w3 ⟨rfl, hi3, hf3⟩
      have HG3 := Lib.hid (HG.out.next hi3 hf3)
      clear c0 c1 c2 g1 g2 e0 e1 e2 f0 f1 f2 hi3 hf3 HG HN1
      obtain ⟨⟨c0, c1, c2⟩, ⟨g1, g2⟩, ⟨e0, e1, e2⟩, f0, f1, f2⟩ := HG3.out.cells
      go_upto_region 4 with fail
      have HG4 := Lib.hid (HG3.out.setA x)
      clear c0 c1 c2 g1 g2 e0 e1 e2 f0 f1 f2 HG3
      generalize w3.setCell ⟨d, 1, none⟩ (.int .i64 x) = W4 at *
      obtain ⟨⟨c0, c1, c2⟩, ⟨g1, g2⟩, ⟨e0, e1, e2⟩, f0, f1, f2⟩ := HG4.out.cells
      go_wp2_with fail
      refine (HCt _).out.mono ?_
      rintro e w3 ⟨rfl, rfl⟩
      go_wp2_with fail
      refine (HN2 _ HG4.out.inn).out.mono ?_
      rintro e w5 ⟨rfl, hi5, hf5⟩
      have HG5 := Lib.hid (HG4.out.next hi5 hf5)
      clear hi5 hf5 HG4 HN2 c0 c1 c2 g1 g2 e0 e1 e2 f0 f1 f2
      obtain ⟨⟨c0, c1, c2⟩, ⟨g1, g2⟩, ⟨e0, e1, e2⟩, f0, f1, f2⟩ := HG5.out.cells
      go_upto_region 6 with fail
      have HG6 := Lib.hid (HG5.out.setB y)
      clear c0 c1 c2 g1 g2 e0 e1 e2 f0 f1 f2 HG5
      generalize w5.setCell ⟨d, 2, none⟩ (.int .i64 y) = W6 at *
      obtain ⟨⟨c0, c1, c2⟩, ⟨g1, g2⟩, ⟨e0, e1, e2⟩, f0, f1, f2⟩ := HG6.out.cells
      go_wp2_with fail
      exact getN_ret HQ.out (by rfl) rfl HG6.out
    · rw [decide_eq_false (by omega)] at HCt
      have HC1 : Hid (pC k S1 = (0, S1)) := Lib.hid (by unfold pC; rw [if_neg h3])
      rw [HC1.out] at HQ
      dsimp only at HQ
      clear h3 hk HC1 HN2
      go_wp2_with fail
      refine (HK _).out.mono ?_
      rintro e w3 ⟨rfl, rfl⟩
      go_wp2_with fail
      refine (HN1 _ HG.out.inn).out.mono ?_
      rintro e w3 ⟨rfl, hi3, hf3⟩
      have HG3 := Lib.hid (HG.out.next hi3 hf3)
      clear c0 c1 c2 g1 g2 e0 e1 e2 f0 f1 f2 hi3 hf3 HG HN1
      obtain ⟨⟨c0, c1, c2⟩, ⟨g1, g2⟩, ⟨e0, e1, e2⟩, f0, f1, f2⟩ := HG3.out.cells
      go_upto_region 4 with fail
      have HG4 := Lib.hid (HG3.out.setA x)
      clear c0 c1 c2 g1 g2 e0 e1 e2 f0 f1 f2 HG3
      generalize w3.setCell ⟨d, 1, none⟩ (.int .i64 x) = W4 at *
      obtain ⟨⟨c0, c1, c2⟩, ⟨g1, g2⟩, ⟨e0, e1, e2⟩, f0, f1, f2⟩ := HG4.out.cells
      go_wp2_with fail
      refine (HCt _).out.mono ?_
      rintro e w3 ⟨rfl, rfl⟩
      go_wp2_with fail
      exact getN_ret HQ.out (by rfl) rfl HG4.out
  · rw [decide_eq_false (by omega)] at HK
    rw [decide_eq_false (by omega)] at HCt
    rw [if_neg hk] at HQ
    clear hk HN1 HN2 hok2 hl2 hok1 hl1
    go_wp2_with fail
    refine (HK _).out.mono ?_
    rintro e w3 ⟨rfl, rfl⟩
    go_wp2_with fail
    refine (HCt _).out.mono ?_
    rintro e w3 ⟨rfl, rfl⟩
    go_wp2_with fail
    exact getN_ret HQ.out (by rfl) rfl HG.out
end Go.Proofs.YtahejekcfgkiaaaGreatDoor.need

/-
  Memory while the document's reader goes over ways and needs: the reader, the row of ways, the row of needs, the need that is read. No condition.
-/
namespace Go.Proofs.YtahejekcfgkiaaaGreatDoor.need
open Go.RowKit Go.ChangeShapes
open Go.Proofs.YtahejekcfgkiaaaGreatDoor.octet (St rdByte rdNum Stands)
open Go.Proofs.YtahejekcfgkiaaaGreatDoor.objs (De zero CellsAt DAt RBox RNil cells3 put3 put3_same put3_far put3_below rdN)
set_option linter.unusedVariables false

/-- Between two ways: the empty answer, the reader, the row of ways. -/
structure R9 (w : World) (t : ByteArray) (bx : Nat) (v : Value) (ls : List (List De)) (S : St) (W : World) : Prop where
  below : Below w.heap.size w W
  nil : W.heap[w.heap.size + 1]? = some RNil
  x : ∃ k : Nat, W.heap[bx]? = some (RBox t k S.err) ∧ Stands t k S.err S
  own : OwnW W (bx + 1) v ls
  hx : w.heap.size + 1 < bx
theorem R9.lt {w W : World} {t : ByteArray} {bx : Nat} {v : Value} {ls : List (List De)} {S : St} (h : R9 w t bx v ls S W) : bx < W.heap.size := by
  obtain ⟨_, h1, _⟩ := h.x
  exact lt_of_block h1
theorem R9.next {w W W' : World} {t : ByteArray} {bx : Nat} {v : Value} {ls : List (List De)} {S : St} (h : R9 w t bx v ls S W) (hb : Below W.heap.size W W') : R9 w t bx v ls S W' := by
  obtain ⟨k, h1, h2⟩ := h.x
  exact ⟨h.below.trans (hb.mono h.below.size), (hb.block _ (lt_of_block h.nil)).trans h.nil, ⟨k, (hb.block _ (lt_of_block h1)).trans h1, h2⟩, h.own.next hb, h.hx⟩
/-- Behind the count. -/
theorem r9_new {w w1 : World} {t : ByteArray} {k err k1 : Nat} {S : St} (hb : Below ((w.alloc (RBox t k err)).alloc RNil).heap.size ((w.alloc (RBox t k err)).alloc RNil) w1) (hS : Stands t k1 S.err S) :
    R9 w t w1.heap.size (.slice none 0 0) [] S (w1.alloc (RBox t k1 S.err)) := by
  have hz : ((w.alloc (RBox t k err)).alloc RNil).heap.size = w.heap.size + 1 + 1 := by rw [World.size_alloc, World.size_alloc]
  have hs := hb.size
  have hb0 : Below w.heap.size w ((w.alloc (RBox t k err)).alloc RNil) := ((Below.refl _ w).alloc (Nat.le_refl _) _).alloc (by simp) _
  have hi0 : ((w.alloc (RBox t k err)).alloc RNil).heap[w.heap.size + 1]? = some RNil := by rw [← World.size_alloc w (RBox t k err)]; exact heap_alloc_new _ _
  have hb2 : Below w1.heap.size w1 (w1.alloc (RBox t k1 S.err)) := (Below.refl _ _).alloc (Nat.le_refl _) _
  exact ⟨(hb0.trans (hb.mono (by omega))).trans (hb2.mono (by omega)), (hb2.block _ (by omega)).trans ((hb.block _ (by omega)).trans hi0), ⟨k1, heap_alloc_new _ _, hS⟩, OwnW.nil _ _, by omega⟩
/-- The empty row is made. -/
theorem R9.row {w W : World} {t : ByteArray} {bx : Nat} {S : St} (h : R9 w t bx (.slice none 0 0) [] S W) : R9 w t bx (.slice (some ⟨W.heap.size, 0, none⟩) 0 0) [] S (W.alloc (.cells #[] 89)) := by
  have hb : Below W.heap.size W (W.alloc (.cells #[] 89)) := (Below.refl _ W).alloc (Nat.le_refl _) _
  have h' := h.next hb
  have := h.lt
  exact ⟨h'.below, h'.nil, h'.x, (OwnW.empty (heap_alloc_new W _)).base (by omega), h'.hx⟩
/-- Between two needs of a way that began in W1: the way's own reader at g, the row of needs. -/
structure I9 (W1 : World) (g : Nat) (t : ByteArray) (v : Value) (ns : List De) (T : St) (W : World) : Prop where
  e : W1.heap.size = g
  below : Below g W1 W
  y : ∃ k : Nat, W.heap[g]? = some (RBox t k T.err) ∧ Stands t k T.err T
  own : OwnN W (g + 1) v ns
theorem I9.lt {W1 W : World} {g : Nat} {t : ByteArray} {v : Value} {ns : List De} {T : St} (h : I9 W1 g t v ns T W) : g < W.heap.size := by
  obtain ⟨_, h1, _⟩ := h.y
  exact lt_of_block h1
theorem I9.next {W1 W W' : World} {g : Nat} {t : ByteArray} {v : Value} {ns : List De} {T : St} (h : I9 W1 g t v ns T W) (hb : Below W.heap.size W W') : I9 W1 g t v ns T W' := by
  obtain ⟨k, h1, h2⟩ := h.y
  exact ⟨h.e, h.below.trans (hb.mono (Nat.le_of_lt h.lt)), ⟨k, (hb.block _ h.lt).trans h1, h2⟩, h.own.next hb⟩
theorem i9_new {W1 : World} {t : ByteArray} {k : Nat} {T : St} (hS : Stands t k T.err T) : I9 W1 W1.heap.size t (.slice none 0 0) [] T (W1.alloc (RBox t k T.err)) :=
  ⟨rfl, (Below.refl _ _).alloc (Nat.le_refl _) _, ⟨k, heap_alloc_new W1 _, hS⟩, OwnN.nil _ _⟩
theorem I9.row {W1 W : World} {g : Nat} {t : ByteArray} {T : St} (h : I9 W1 g t (.slice none 0 0) [] T W) : I9 W1 g t (.slice (some ⟨W.heap.size, 0, none⟩) 0 0) [] T (W.alloc (.cells #[] 93)) := by
  have h' := h.next ((Below.refl _ W).alloc (Nat.le_refl _) (.cells #[] 93))
  have := h.lt
  exact ⟨h'.e, h'.below, h'.y, (OwnN.empty (heap_alloc_new W _)).base (by omega)⟩
theorem I9.outer {w W1 W : World} {t : ByteArray} {bx g : Nat} {v lv : Value} {ls : List (List De)} {ns : List De} {S T : St} (hR : R9 w t bx v ls S W1) (h : I9 W1 g t lv ns T W) : R9 w t bx v ls S W :=
  hR.next (by rw [h.e]; exact h.below)
/-- In the midst of a need that began in W2: its reader, and what stands so far of it. -/
structure M9 (W2 : World) (t : ByteArray) (bu bn : Nat) (k o m : Int) (T : St) (W : World) : Prop where
  below : Below W2.heap.size W2 W
  u : ∃ kk : Nat, W.heap[bu]? = some (RBox t kk T.err) ∧ Stands t kk T.err T
  n : W.heap[bn]? = some (needBox k o m)
  hu : W2.heap.size ≤ bu
  hn : bu < bn
theorem M9.next {W2 W W' : World} {t : ByteArray} {bu bn : Nat} {k o m : Int} {T : St} (h : M9 W2 t bu bn k o m T W) (hb : Below W.heap.size W W') : M9 W2 t bu bn k o m T W' := by
  obtain ⟨kk, h1, h2⟩ := h.u
  exact ⟨h.below.trans (hb.mono h.below.size), ⟨kk, (hb.block _ (lt_of_block h1)).trans h1, h2⟩, (hb.block _ (lt_of_block h.n)).trans h.n, h.hu, h.hn⟩
theorem m9_new {W2 W : World} {t : ByteArray} {kk : Nat} {k o : Int} {T : St} (hb : Below W2.heap.size W2 W) (hS : Stands t kk T.err T) :
    M9 W2 t W.heap.size (W.heap.size + 1) k o 0 T ((W.alloc (RBox t kk T.err)).alloc (needBox k o 0)) := by
  have hz := World.size_alloc W (RBox t kk T.err)
  have h2 : Below W.heap.size W ((W.alloc (RBox t kk T.err)).alloc (needBox k o 0)) := ((Below.refl _ _).alloc (Nat.le_refl _) _).alloc (by omega) _
  refine ⟨hb.trans (h2.mono hb.size), ⟨kk, (Below.heap_alloc _ _ _ (by omega)).trans (heap_alloc_new W _), hS⟩, ?_, hb.size, Nat.lt_succ_self _⟩
  rw [← hz]
  exact heap_alloc_new _ _
theorem M9.setN {W2 W : World} {t : ByteArray} {bu bn : Nat} {k o m : Int} {T T2 : St} {k2 : Nat} (h : M9 W2 t bu bn k o m T W) (n : Int) (hS : Stands t k2 T2.err T2) :
    M9 W2 t bu bn k o n T2 (put3 (W.setCell ⟨bn, 2, none⟩ (.int .i64 n)) bu (.string t) (.int .i64 (k2 : Int)) (.int .i64 (T2.err : Int))).drew := by
  obtain ⟨kk, h1, h2⟩ := h.u
  have e1 := h.hu
  have e2 := h.hn
  have hf : ∀ i, i ≠ bn → (W.setCell ⟨bn, 2, none⟩ (.int .i64 n)).heap[i]? = W.heap[i]? := fun i hi => Below.heap_setCell W ⟨bn, 2, none⟩ _ i hi
  refine ⟨Below.drew (put3_below (h.below.setCell (p := ⟨bn, 2, none⟩) (by show W2.heap.size ≤ bn; omega) _) e1 _ _ _), ⟨k2, put3_same ((hf bu (by omega)).trans h1) _ _ _, hS⟩, ?_, e1, e2⟩
  refine (put3_far (by omega) _ _ _).trans ?_
  have := h.n
  unfold needBox at this ⊢
  simp [World.setCell, Array.getElem?_modify, this]
/-- Behind the append of a need. -/
structure A9 (W1 : World) (g : Nat) (t : ByteArray) (bu : Nat) (v : Value) (ns : List De) (kk : Nat) (T : St) (W : World) : Prop where
  e : W1.heap.size = g
  below : Below g W1 W
  y : ∃ (k err : Nat), W.heap[g]? = some (RBox t k err)
  u : W.heap[bu]? = some (RBox t kk T.err)
  own : OwnN W (g + 1) v ns
  hu : g < bu
theorem M9.app {W1 W2 W Wa W3 : World} {g : Nat} {t : ByteArray} {bu bn kk : Nat} {lv v2 : Value} {ns ns2 : List De} {k o m : Int} {T T' : St} (hI : I9 W1 g t lv ns T W2) (h : M9 W2 t bu bn k o m T' W) (hk : W.heap[bu]? = some (RBox t kk T'.err))
    (h1 : Below W.heap.size W Wa) (h2 : OwnN W3 (g + 1) v2 ns2) (hg : Wa.grownBy W3 lv.ownBlock) : A9 W1 g t bu v2 ns2 kk T' W3 := by
  have e0 := hI.lt
  have e1 := h.hu
  have hn := h1.size
  have hs := h.below.size
  have hlo : ∀ i, lv.ownBlock = some i → g < i ∧ i < W2.heap.size := fun i e => by have := hI.own.lt e; omega
  have hf : ∀ i, i < W.heap.size → lv.ownBlock ≠ some i → W3.heap[i]? = W.heap[i]? := fun i hi hne => (hg.block i (by omega) (fun e => hne e.symm)).trans (h1.block i hi)
  obtain ⟨ky, hy1, _⟩ := hI.y
  have hyW : W.heap[g]? = some (RBox t ky T.err) := (h.below.block g e0).trans hy1
  have hbW : Below g W1 W := hI.below.trans (h.below.mono (Nat.le_of_lt e0))
  refine ⟨hI.e, (hbW.trans (h1.mono (by omega))).grown hg (by have := hbW.size; omega) (fun i e => by have := (hlo i e).1; omega), ⟨ky, _, (hf _ (lt_of_block hyW) (fun e => by have := (hlo _ e).1; omega)).trans hyW⟩, (hf _ (lt_of_block hk) (fun e => by have := (hlo _ e).2; omega)).trans hk, h2, by omega⟩
theorem A9.store {W1 W : World} {g : Nat} {t : ByteArray} {bu kk : Nat} {v : Value} {ns : List De} {T : St} (h : A9 W1 g t bu v ns kk T W) (hS : Stands t kk T.err T) : I9 W1 g t v ns T (put3 W g (.string t) (.int .i64 (kk : Int)) (.int .i64 (T.err : Int))) := by
  obtain ⟨k, err, hy⟩ := h.y
  refine ⟨h.e, put3_below h.below (Nat.le_refl _) _ _ _, ⟨kk, put3_same hy _ _ _, hS⟩, h.own.keep fun i hi => put3_far (by have := (h.own.lt hi).1; omega) _ _ _⟩
/-- Behind the append of a way. -/
structure B9 (w : World) (t : ByteArray) (bx g : Nat) (v : Value) (ls : List (List De)) (kk : Nat) (T : St) (W : World) : Prop where
  below : Below w.heap.size w W
  nil : W.heap[w.heap.size + 1]? = some RNil
  x : ∃ (k err : Nat), W.heap[bx]? = some (RBox t k err)
  y : W.heap[g]? = some (RBox t kk T.err)
  own : OwnW W (bx + 1) v ls
  hx : w.heap.size + 1 < bx
  hg : bx < g
theorem OwnW.lt {w : World} {base g : Nat} {v : Value} {l : List (List De)} (h : OwnW w base v l) (hg : v.ownBlock = some g) : base ≤ g ∧ g < w.heap.size := by
  obtain ⟨xs, h1, _⟩ := h
  exact World.ownsRow.lt h1 g hg
theorem OwnW.keep {w w' : World} {base : Nat} {v : Value} {l : List (List De)} (h : OwnW w base v l) (hk : ∀ g, base ≤ g → w'.heap[g]? = w.heap[g]?) : OwnW w' base v l := by
  obtain ⟨xs, h1, h2⟩ := h
  refine ⟨xs, ⟨h1.1, h1.2.imp id ?_⟩, fun j hj => ?_⟩
  · rintro ⟨g, c, cur, rfl, hg, hh, r⟩
    exact ⟨g, c, cur, rfl, hg, (hk g hg).trans hh, r⟩
  · obtain ⟨x, h3, h4⟩ := h2 j hj
    exact ⟨x, h3, h4.keep fun g hg => hk g (h4.lt hg).1⟩
theorem I9.app {w W1 W Wa W3 : World} {t : ByteArray} {bx g kk : Nat} {v v2 lv : Value} {ls ls2 : List (List De)} {ns : List De} {S T : St} (hR : R9 w t bx v ls S W1) (h : I9 W1 g t lv ns T W) (hk : W.heap[g]? = some (RBox t kk T.err))
    (h1 : Below W.heap.size W Wa) (h2 : OwnW W3 (bx + 1) v2 ls2) (hg : Wa.grownBy W3 v.ownBlock) : B9 w t bx g v2 ls2 kk T W3 := by
  have hRW := I9.outer hR h
  have e0 := hR.lt
  have e1 := h.e
  have hn := h1.size
  have hlo : ∀ i, v.ownBlock = some i → bx < i ∧ i < g := fun i e => by have := hR.own.lt e; omega
  have hf : ∀ i, i < W.heap.size → v.ownBlock ≠ some i → W3.heap[i]? = W.heap[i]? := fun i hi hne => (hg.block i (by omega) (fun e => hne e.symm)).trans (h1.block i hi)
  obtain ⟨kx, hx1, _⟩ := hRW.x
  have e3 := hRW.hx
  refine ⟨(hRW.below.trans (h1.mono hRW.below.size)).grown hg (by have := hRW.below.size; omega) (fun i e => by have := (hlo i e).1; omega), (hf _ (lt_of_block hRW.nil) (fun e => by have := (hlo _ e).1; omega)).trans hRW.nil, ⟨kx, _, (hf _ (lt_of_block hx1) (fun e => by have := (hlo _ e).1; omega)).trans hx1⟩, (hf _ (lt_of_block hk) (fun e => by have := (hlo _ e).2; omega)).trans hk, h2, e3, by omega⟩
theorem B9.store {w W : World} {t : ByteArray} {bx g kk : Nat} {v : Value} {ls : List (List De)} {T : St} (h : B9 w t bx g v ls kk T W) (hS : Stands t kk T.err T) : R9 w t bx v ls T (put3 W bx (.string t) (.int .i64 (kk : Int)) (.int .i64 (T.err : Int))) := by
  obtain ⟨k, err, hx⟩ := h.x
  have e := h.hx
  exact ⟨put3_below h.below (by omega) _ _ _, (put3_far (by omega) _ _ _).trans h.nil, ⟨kk, put3_same hx _ _ _, hS⟩, h.own.keep fun i hi => put3_far (by omega) _ _ _, e⟩

/-- What Read tells, and leaves. -/
def ReadPost9 (t : ByteArray) (r : List (List De) × St × Nat) (w : World) (e : Ending) (w' : World) : Prop :=
  ∃ (v : Value) (k : Nat), e = .returned (.tuple #[v, .agg #[.string t, .int .i64 (k : Int), .int .i64 (r.2.1.err : Int)], .int .i64 (r.2.2 : Int)]) ∧ Stands t k r.2.1.err r.2.1 ∧ OwnW w' w.heap.size v r.1 ∧ Below w.heap.size w w'
/-- At the end: the answer, and the reader in the result's block. -/
structure Ends9 (w : World) (t : ByteArray) (v : Value) (ls : List (List De)) (k err : Nat) (W : World) : Prop where
  below : Below w.heap.size w W
  r : W.heap[w.heap.size + 1]? = some (RBox t k err)
  at' : OwnW W w.heap.size v ls
theorem ends9_ret {w Z : World} {t : ByteArray} {v : Value} {k err : Nat} {act : Act} {r r' : List (List De) × St × Nat} (hr : r = r') (h2 : act.tmps[4]?.getD undef = v) (h3 : act.tmps[5]?.getD undef = .pointer (some ⟨w.heap.size + 1, 0, none⟩)) (h4 : act.tmps[6]?.getD undef = .int .i64 (r'.2.2 : Int)) (hd : act.defers = [])
    (hE : Ends9 w t v r'.1 k err Z) (hS : Stands t k err r'.2.1) (hs : r'.2.1.err = err) : bodyPost Tryz.prog Tryz.f37 (ReadPost9 t r w) .ret act Z := by
  subst hr hs
  have hb := hE.r
  unfold RBox at hb
  obtain ⟨y0, y1, y2, _, _, _⟩ := cells3 hb
  refine bodyPost_ret (v := .tuple #[v, .agg #[.string t, .int .i64 (k : Int), .int .i64 (r.2.1.err : Int)], .int .i64 (r.2.2 : Int)]) ?_ hd ⟨v, k, rfl, hS, hE.at', hE.below⟩
  simp [results, Tryz.results37, go_sem, h2, h3, h4, y0, y1, y2]
theorem R9.ends {w W : World} {t : ByteArray} {bx kk : Nat} {v : Value} {ls : List (List De)} {S S' : St} (h : R9 w t bx v ls S W) : Ends9 w t v ls kk S'.err (put3 W (w.heap.size + 1) (.string t) (.int .i64 (kk : Int)) (.int .i64 (S'.err : Int))).drew := by
  have e := h.hx
  have hn := h.nil
  unfold RNil at hn
  obtain ⟨A, cap, rfl⟩ := h.own.slice
  have hk : OwnW (put3 W (w.heap.size + 1) (.string t) (.int .i64 (kk : Int)) (.int .i64 (S'.err : Int))) (bx + 1) (.slice A ls.length cap) ls := h.own.keep fun g hg => put3_far (by omega) _ _ _
  exact ⟨Below.drew (put3_below h.below (by omega) _ _ _), put3_same hn _ _ _, hk.base (by omega)⟩
theorem R9.ends0 {w W : World} {t : ByteArray} {bx kk : Nat} {v : Value} {ls : List (List De)} {S S' : St} (h : R9 w t bx v ls S W) : Ends9 w t (.slice none 0 0) [] kk S'.err (put3 W (w.heap.size + 1) (.string t) (.int .i64 (kk : Int)) (.int .i64 (S'.err : Int))).drew := by
  have e := h.hx
  have hn := h.nil
  unfold RNil at hn
  exact ⟨Below.drew (put3_below h.below (by omega) _ _ _), put3_same hn _ _ _, OwnW.nil _ _⟩
end Go.Proofs.YtahejekcfgkiaaaGreatDoor.need
