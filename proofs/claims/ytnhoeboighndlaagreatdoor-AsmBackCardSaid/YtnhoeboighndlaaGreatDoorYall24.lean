/-
  Texts of one claim in one file: ERefGet, BFirst, BOnes, BCount, BRef, ERefObjs, DSame, ESame, ESpec, EWalks. Each has its own sentence, with its conditions.
-/
import Derived.Test.YtnhoeboighndlaaGreatDoorYall23
import Derived.Test.YtnhoeboighndlaaGreatDoorYall22
import Derived.Test.YtnhoeboighndlaaGreatDoorYall14
import Derived.Below
import Derived.Deep.DeepCutAuto
import Derived.Deep.CutBlock
import Derived.LoopTactic
import Derived.IntWalk
import Derived.Test.YtnhoeboighndlaaGreatDoorYall11
import Derived.Test.YtnhoeboighndlaaGreatDoorYall9
import Derived.Test.YtnhoeboighndlaaGreatDoorYall15
import Derived.WalkLawsBesides
/-
  The document's own answer of the wait with which bytes begin. A text of at most two to the forty-seventh bytes.
-/
namespace Go.Proofs.YtnhoeboighndlaaGreatDoor.need
open Go.RowKit Go.ChangeShapes
open Go.Proofs.YtnhoeboighndlaaGreatDoor.octet (St rdByte rdNum Stands)
open Go.Proofs.YtnhoeboighndlaaGreatDoor.objs (De zero DAt cells3 below_drewN)
set_option linter.unusedVariables false

theorem got_read (d : List De) (l : List UInt8) : getW d l = if (readW d ⟨l, 0⟩).2.2 ≠ 0 then ([], 0, (readW d ⟨l, 0⟩).2.2) else ((readW d ⟨l, 0⟩).1, l.length - (readW d ⟨l, 0⟩).2.1.rest.length, 0) := rfl

end Go.Proofs.YtnhoeboighndlaaGreatDoor.need

/-
  The program's calls on a set that look for its numbers: the least, the next above one, the one with so many below it; each reads the table of math/bits, which must lie where its initialiser lays it. And how many there are, and all moved.
-/
namespace Go.Proofs.YtnhoeboighndlaaGreatDoor.bits
open Go.RowKit Go.ChangeShapes

/-- The table of math/bits lies where its initialiser lays it. -/
def Tab (w : World) : Prop := ∀ j, j < 64 → w.cell? ⟨7, j, none⟩ = some (.int .u8 ((Lib.deBruijn64tab.getD j 0 : Nat) : Int))
theorem Tab.below {B : Nat} {w w' : World} (h : Tab w) (hb : Below B w w') (hB : 7 < B) : Tab w' := fun j hj => (hb.cell (p := ⟨7, j, none⟩) hB).trans (h j hj)
theorem Tab.cell {w w' : World} (h : Tab w) (hc : ∀ p, w'.cell? p = w.cell? p) : Tab w' := fun j hj => (hc _).trans (h j hj)

theorem tz_key (x a : Nat) (hx : x < 18446744073709551616) (hx0 : x ≠ 0) (hlow : x &&& (18446744073709551616 - x) = a) :
    IntKind.u64.wrap (bits BinOp.and IntKind.u64 (x : Int) (IntKind.u64.wrap (-(x : Int))) * 285870213051353865) / 288230376151711744 = ((a * 285870213051353865 % 18446744073709551616 / 288230376151711744 : Nat) : Int) := by
  have e1 : IntKind.u64.wrap (-(x : Int)) = ((18446744073709551616 - x : Nat) : Int) := by rw [IntKind.wrap_u64]; omega
  rw [e1, bits_and_u64_nat x _ hx (by omega), hlow, IntKind.wrap_u64]
  omega

set_option maxHeartbeats 1000000 in
theorem tz_core (x k idx : Nat) (w : World) (hx0 : ((x : Int) == 0) = false)
    (key : IntKind.u64.wrap (bits BinOp.and IntKind.u64 (x : Int) (IntKind.u64.wrap (-(x : Int))) * 285870213051353865) / 288230376151711744 = (idx : Int))
    (hi : idx < 64) (hk : k < 64) (hcell : w.cell? ⟨7, idx, none⟩ = some (.int .u8 (k : Int))) :
    Calls Tryz.prog 130 #[.int .u64 (x : Int)] w fun e w' => e = .returned (.int .i64 (k : Int)) ∧ w = w' := by
  go_enter Tryz.func130, Tryz.ntmps130
  go_wp2_with (simp only [key])
  go_ret
  exact ⟨rfl, rfl⟩

/-- The least of a set that has some. -/
theorem tz_any (s : Nat) (hs : Is64 s) (h0 : s ≠ 0) (w : World) (hT : Tab w) :
    Calls Tryz.prog 130 #[.int .u64 (s : Int)] w fun e w' => e = .returned (.int .i64 (atI (els s) 0)) ∧ w = w' := by
  rw [← first_eq hs h0]
  obtain ⟨hlow, hk⟩ := Lib.lowest_bit 64 s h0 hs
  obtain ⟨hi, htab⟩ := Lib.deBruijn64_at _ hk
  have hcell := hT _ hi
  rw [htab] at hcell
  exact tz_core s _ _ w (by simp; omega) (tz_key s _ hs h0 hlow) hi hk hcell

end Go.Proofs.YtnhoeboighndlaaGreatDoor.bits

/-
  How many numbers a set has, as math/bits counts them. The first part speaks of numbers alone; then the program's call. No condition.
-/
namespace Go.Proofs.YtnhoeboighndlaaGreatDoor.bits
open Go.RowKit Go.ChangeShapes

theorem two_sum {a b : Nat} (h : a + b < 18446744073709551616) : IntKind.u64.wrap ((a : Int) + (b : Int)) = ((a + b : Nat) : Int) := by
  rw [IntKind.wrap_u64]
  omega
theorem cast_div (a b : Nat) : ((a : Int) / (b : Int)) = ((a / b : Nat) : Int) := rfl
theorem mk85 : mk 85 8 = 6148914691236517205 := by decide +kernel
theorem mk51 : mk 51 8 = 3689348814741910323 := by decide +kernel
theorem mk15 : mk 15 8 = 1085102592571150095 := by decide +kernel

theorem and_cast {a : Nat} (ha : Is64 a) (m : Nat) (hm : Is64 m) (v : Int) (hv : v = (m : Int)) : bits .and .u64 (a : Int) v = ((a &&& m : Nat) : Int) := by
  rw [hv]
  exact and_u64 ha hm
theorem ones1 {s : Nat} (hs : Is64 s) : IntKind.u64.wrap (bits .and .u64 ((s : Int) / 2) 6148914691236517205 + bits .and .u64 (s : Int) 6148914691236517205) = ((bm f1 8 s : Nat) : Int) ∧ bm f1 8 s ≤ 12297829382473034410 := by
  have h := step1 8 s
  rw [mk85] at h
  have b1 : s / 2 &&& 6148914691236517205 ≤ 6148914691236517205 := Nat.and_le_right
  have b2 : s &&& 6148914691236517205 ≤ 6148914691236517205 := Nat.and_le_right
  have e0 : ((s : Int) / 2) = ((s / 2 : Nat) : Int) := rfl
  have e1 := and_cast (a := s / 2) (by unfold Is64 at *; omega) 6148914691236517205 (by unfold Is64; omega) 6148914691236517205 rfl
  have e2 := and_cast (a := s) (by unfold Is64 at *; omega) 6148914691236517205 (by unfold Is64; omega) 6148914691236517205 rfl
  generalize (s / 2 &&& 6148914691236517205) = p at *
  generalize (s &&& 6148914691236517205) = q at *
  rw [e0, e1, e2, two_sum (by omega), h]
  exact ⟨rfl, by rw [← h]; omega⟩
theorem ones2 {s : Nat} (hs : s ≤ 12297829382473034410) : IntKind.u64.wrap (bits .and .u64 ((s : Int) / 4) 3689348814741910323 + bits .and .u64 (s : Int) 3689348814741910323) = ((bm f2 8 s : Nat) : Int) ∧ bm f2 8 s ≤ 7378697629483820646 := by
  have h := step2 8 s
  rw [mk51] at h
  have b1 : s / 4 &&& 3689348814741910323 ≤ 3689348814741910323 := Nat.and_le_right
  have b2 : s &&& 3689348814741910323 ≤ 3689348814741910323 := Nat.and_le_right
  have e0 : ((s : Int) / 4) = ((s / 4 : Nat) : Int) := rfl
  have e1 := and_cast (a := s / 4) (by unfold Is64 at *; omega) 3689348814741910323 (by unfold Is64; omega) 3689348814741910323 rfl
  have e2 := and_cast (a := s) (by unfold Is64 at *; omega) 3689348814741910323 (by unfold Is64; omega) 3689348814741910323 rfl
  generalize (s / 4 &&& 3689348814741910323) = p at *
  generalize (s &&& 3689348814741910323) = q at *
  rw [e0, e1, e2, two_sum (by omega), h]
  exact ⟨rfl, by rw [← h]; omega⟩
theorem ones3 (s : Nat) (hs : bm f2 8 (bm f1 8 s) ≤ 7378697629483820646) : bits .and .u64 (IntKind.u64.wrap (((bm f2 8 (bm f1 8 s) : Nat) : Int) / 16 + ((bm f2 8 (bm f1 8 s) : Nat) : Int))) 1085102592571150095 = ((bm (pc 8) 8 s : Nat) : Int) := by
  have h : (bm f2 8 (bm f1 8 s) / 16 + bm f2 8 (bm f1 8 s)) &&& mk 15 8 = bm (pc 8) 8 s := by
    rw [bm_bm f1_lt]
    have h3 := step3 (g := fun b => f2 (f1 b)) (fun b hb => f2f1 b hb) 8 s
    rw [h3]
    exact bm_congr (fun b hb => f321 b hb) 8 s
  rw [mk15] at h
  generalize bm f2 8 (bm f1 8 s) = x at *
  generalize bm (pc 8) 8 s = y at *
  have e0 : ((x : Int) / 16) = ((x / 16 : Nat) : Int) := rfl
  have hx : Is64 (x / 16 + x) := by clear h; unfold Is64; omega
  have e1 := and_cast hx 1085102592571150095 (by clear h; unfold Is64; omega) 1085102592571150095 rfl
  rw [h] at e1
  clear h
  rw [e0, two_sum (by omega), e1]
theorem div_256 {v L C : Nat} (h : v = L + 256 * C) (hl : L < 256) : v / 256 = C := by omega
theorem div_16 {v L C : Nat} (h : v = L + 65536 * C) (hl : L < 65536) : v / 65536 = C := by omega
theorem div_32 {v L C : Nat} (h : v = L + 4294967296 * C) (hl : L < 4294967296) : v / 4294967296 = C := by omega
theorem low_7 {z L K : Nat} (h : z = L + 256 * K) (hl : L < 128) : z % 128 = L := by omega
theorem wrap_div {v d q : Nat} (h : v / d = q) (hb : v + q < 18446744073709551616) : IntKind.u64.wrap ((v : Int) + (v : Int) / (d : Int)) = ((v + q : Nat) : Int) := by
  rw [cast_div, h, two_sum hb]
theorem sum_x {x v B C D a b c : Nat} (hx : x = v + B) (hy : v = a + 256 * B) (hB : B = b + 256 * C) (hC : C = c + 256 * D) : x = (a + b + 256 * (b + c)) + 65536 * (C + D) := by omega
theorem sum_y {x y C D E F G a b c d e f g h : Nat} (hy2 : y = x + (C + D)) (x1 : x = (a + b + 256 * (b + c)) + 65536 * (C + D)) (hC : C = c + 256 * D) (hD : D = d + 256 * E) (hE : E = e + 256 * F) (hF : F = f + 256 * G) (hG : G = g + 256 * h) :
    y = (a + b + c + d + 256 * (b + c + d + e) + 65536 * (c + d + e + f + 256 * (d + e + f + g))) + 4294967296 * (E + F + G + h) := by omega
theorem sum_z {y z E F G a b c d e f g h : Nat} (hz : z = y + (E + F + G + h)) (y1 : y = (a + b + c + d + 256 * (b + c + d + e) + 65536 * (c + d + e + f + 256 * (d + e + f + g))) + 4294967296 * (E + F + G + h)) (hE : E = e + 256 * F) (hF : F = f + 256 * G) (hG : G = g + 256 * h) :
    z = (a + b + c + d + e + f + g + h) + 256 * ((b + c + d + e) + 256 * (c + d + e + f + 256 * (d + e + f + g)) + 16777216 * (E + F + G + h) + (F + G + h)) := by omega
theorem ones4 (s : Nat) : ∃ x y z : Nat, IntKind.u64.wrap (((bm (pc 8) 8 s : Nat) : Int) + ((bm (pc 8) 8 s : Nat) : Int) / 256) = (x : Int) ∧ IntKind.u64.wrap ((x : Int) + (x : Int) / 65536) = (y : Int) ∧ IntKind.u64.wrap ((y : Int) + (y : Int) / 4294967296) = (z : Int) ∧
    z < 9223372036854775808 ∧ z % 128 = (els s).length := by
  obtain ⟨a, b, c, d, e, f, g, h, ⟨ha, hb, hc, hd, he, hf, hg, hh⟩, hy, hp⟩ := sum8 s
  rw [pc_els, hp]
  clear hp
  generalize bm (pc 8) 8 s = v at *
  obtain ⟨G, hG⟩ : ∃ G, G = g + 256 * h := ⟨_, rfl⟩
  obtain ⟨F, hF⟩ : ∃ F, F = f + 256 * G := ⟨_, rfl⟩
  obtain ⟨E, hE⟩ : ∃ E, E = e + 256 * F := ⟨_, rfl⟩
  obtain ⟨D, hD⟩ : ∃ D, D = d + 256 * E := ⟨_, rfl⟩
  obtain ⟨C, hC⟩ : ∃ C, C = c + 256 * D := ⟨_, rfl⟩
  obtain ⟨B, hB⟩ : ∃ B, B = b + 256 * C := ⟨_, rfl⟩
  rw [← hG, ← hF, ← hE, ← hD, ← hC, ← hB] at hy
  have bG : G ≤ 2056 := by omega
  have bF : F ≤ 526344 := by omega
  have bE : E ≤ 134744072 := by omega
  have bD : D ≤ 34494482440 := by omega
  have bC : C ≤ 8830587504648 := by omega
  have bB : B ≤ 2260630401189896 := by omega
  have d1 : v / 256 = B := div_256 hy (by omega)
  obtain ⟨x, hx⟩ : ∃ x, x = v + B := ⟨_, rfl⟩
  have x1 := sum_x hx hy hB hC
  have bx : x ≤ 600000000000000000 := by clear x1 hB hC hD hE hF hG d1; omega
  have d2 : x / 65536 = C + D := div_16 x1 (by clear x1 hB hC hD hE hF hG d1 hx hy; omega)
  obtain ⟨y, hy2⟩ : ∃ y, y = x + (C + D) := ⟨_, rfl⟩
  have y1 := sum_y hy2 x1 hC hD hE hF hG
  have by2 : y ≤ 600010000000000000 := by clear x1 y1 hB hC hD hE hF hG d1 d2 hx hy; omega
  have d3 : y / 4294967296 = E + F + G + h := div_32 y1 (by clear x1 y1 hB hC hD hE hF hG d1 d2 hx hy hy2; omega)
  obtain ⟨z, hz⟩ : ∃ z, z = y + (E + F + G + h) := ⟨_, rfl⟩
  have z1 := sum_z hz y1 hE hF hG
  clear x1 y1 hB hC hD hE hF hG
  refine ⟨x, y, z, ?_, ?_, ?_, ?_, low_7 z1 ?_⟩
  · rw [hx]
    exact wrap_div d1 (by clear d1 d2 d3 z1 hz hy2; omega)
  · rw [hy2]
    exact wrap_div d2 (by clear d1 d2 d3 z1 hz hx hy; omega)
  · rw [hz]
    exact wrap_div d3 (by clear d1 d2 d3 z1 hx hy hy2; omega)
  · clear d1 d2 d3 z1 hx hy hy2
    omega
  · clear d1 d2 d3 z1 hx hy hy2 hz
    omega

end Go.Proofs.YtnhoeboighndlaaGreatDoor.bits

/-
  How many numbers a set has, as math/bits counts them. The program's call. No condition.
-/
namespace Go.Proofs.YtnhoeboighndlaaGreatDoor.bits
open Go.RowKit Go.ChangeShapes

theorem i64_mask (n : Int) (k : Nat) (hk : k < 62) (m : Int) (hm : m = ((2 ^ k - 1 : Nat) : Int)) : bits .and .i64 n m = n % ((2 ^ k : Nat) : Int) := by
  have hp : 2 ^ k ≤ 2 ^ 61 := Nat.pow_le_pow_right (by omega) (by omega)
  have h0 : 0 < 2 ^ k := Nat.two_pow_pos k
  have p61 : (2 : Nat) ^ 61 = 2305843009213693952 := rfl
  have hd : (2 ^ k : Nat) ∣ 2 ^ 64 := Nat.pow_dvd_pow 2 (by omega)
  rw [hm]
  show IntKind.i64.wrap ((BitVec.ofInt 64 n &&& BitVec.ofInt 64 ((2 ^ k - 1 : Nat) : Int)).toNat : Int) = _
  have e2 : (BitVec.ofInt 64 ((2 ^ k - 1 : Nat) : Int)).toNat = 2 ^ k - 1 := by
    rw [BitVec.ofInt_natCast, BitVec.toNat_ofNat]
    exact Nat.mod_eq_of_lt (by omega)
  have hl : (n % 18446744073709551616).toNat % 2 ^ k < 2 ^ k := Nat.mod_lt _ h0
  rw [BitVec.toNat_and, e2, BitVec.toNat_ofInt, Nat.and_two_pow_sub_one_eq_mod]
  have e3 : (((n % ((2 ^ 64 : Nat) : Int)).toNat % 2 ^ k : Nat) : Int) = n % ((2 ^ k : Nat) : Int) := by
    rw [Int.natCast_emod, Int.toNat_of_nonneg (Int.emod_nonneg _ (by decide)), Int.emod_emod_of_dvd n (Int.natCast_dvd_natCast.2 hd)]
  rw [e3, IntKind.wrap_i64]
  have h1 : 0 ≤ n % ((2 ^ k : Nat) : Int) := Int.emod_nonneg _ (by omega)
  have h2 : n % ((2 ^ k : Nat) : Int) < ((2 ^ k : Nat) : Int) := Int.emod_lt_of_pos _ (by omega)
  omega
theorem i64_low7 (n : Int) : bits .and .i64 n 127 = n % 128 := i64_mask n 7 (by omega) 127 rfl
theorem i64_low6 (n : Int) : bits .and .i64 n 63 = n % 64 := i64_mask n 6 (by omega) 63 rfl

end Go.Proofs.YtnhoeboighndlaaGreatDoor.bits

/-
  The document's own answers that only compute: whether a number is in a set, its weight, a set with it and without it. No condition.
-/
namespace Go.Proofs.YtnhoeboighndlaaGreatDoor.bits
open Go.RowKit Go.ChangeShapes

theorem half_pow (s j : Nat) : s / 2 ^ j / 2 = s / 2 ^ (j + 1) := by rw [Nat.div_div_eq_div_mul, Nat.pow_succ]
theorem half_val {x : Nat} (hx : Is64 x) : Value.int .u64 (IntKind.u64.wrap ((x : Int) / 2)) = .int .u64 ((x / 2 : Nat) : Int) := by
  unfold Is64 at hx
  rw [IntKind.wrap_u64]
  congr 1
  omega
theorem odd_eq (x : Nat) : (((x : Int) % 2) == 1) = decide (x % 2 = 1) := by
  rw [Bool.eq_iff_iff]
  simp
  omega

theorem wth_yes {s : Nat} {n : Int} (h : hasB s n = true) : wth s n = s := by
  unfold hasB at h
  rw [Bool.and_eq_true, decide_eq_true_iff] at h
  unfold wth ins
  rw [if_pos h.1, if_pos h.2]
theorem wth_no {s : Nat} {n : Int} (hm : may n) (h : hasB s n = false) : wth s n = s + 2 ^ n.toNat := by
  unfold hasB at h
  rw [decide_eq_true hm, Bool.true_and] at h
  unfold wth ins
  rw [if_pos hm, if_neg (by rw [h]; exact Bool.false_ne_true)]
theorem wout_no {s : Nat} {n : Int} (h : hasB s n = false) : wout s n = s := by
  unfold hasB at h
  unfold wout del
  split
  · rename_i hm
    rw [decide_eq_true hm, Bool.true_and] at h
    rw [if_neg (by rw [h]; exact Bool.false_ne_true)]
  · rfl
theorem wout_yes {s : Nat} {n : Int} (h : hasB s n = true) : wout s n = s - 2 ^ n.toNat ∧ may n ∧ 2 ^ n.toNat ≤ s := by
  unfold hasB at h
  rw [Bool.and_eq_true, decide_eq_true_iff] at h
  obtain ⟨t, h1, _, _⟩ := del_spec h.2
  refine ⟨?_, h.1, by omega⟩
  unfold wout del
  rw [if_pos h.1, if_pos h.2]

end Go.Proofs.YtnhoeboighndlaaGreatDoor.bits

/-
  The document's own answer of the objects of needs of a kind. No condition but that lengths are ints.
-/
namespace Go.Proofs.YtnhoeboighndlaaGreatDoor.need
open Go.RowKit Go.ChangeShapes
open Go.Proofs.YtnhoeboighndlaaGreatDoor.objs (De zero CellsAt DAt)
open Go.Proofs.YtnhoeboighndlaaGreatDoor.bits (wth Is64)
set_option linter.unusedVariables false

/-- The objects of the first j needs that are of a kind, with those of a set. -/
def objsIn (l : List De) (k : Int) (s : Nat) : Nat → Nat
  | 0 => s
  | j + 1 => if (l.getD j zero).1 = k then wth (objsIn l k s j) (l.getD j zero).2.1 else objsIn l k s j
def objsW (w : List (List De)) (k : Int) : Nat → Nat
  | 0 => 0
  | j + 1 => objsIn (w.getD j []) k (objsW w k j) (w.getD j []).length
def objects (w : List (List De)) (k : Int) : Nat := objsW w k w.length
theorem wth_64 {s : Nat} {n : Int} (h : Is64 s) : Is64 (wth s n) := by
  unfold wth
  split
  · rename_i h1
    exact Go.Proofs.YtnhoeboighndlaaGreatDoor.bits.ins_lt h (by unfold Go.Proofs.YtnhoeboighndlaaGreatDoor.bits.may at h1; omega)
  · exact h
theorem objsIn_64 {l : List De} {k : Int} {s : Nat} (h : Is64 s) : ∀ j, Is64 (objsIn l k s j) := by
  intro j
  induction j with
  | zero => exact h
  | succ j ih =>
    unfold objsIn
    split
    · exact wth_64 ih
    · exact ih
theorem objsW_64 {w : List (List De)} {k : Int} : ∀ j, Is64 (objsW w k j) := by
  intro j
  induction j with
  | zero => unfold objsW Is64; omega
  | succ j ih => exact objsIn_64 ih _

end Go.Proofs.YtnhoeboighndlaaGreatDoor.need

/-
  Whether two lists of objects are one, as the statements ask it. No condition but that both are of at most a hundred.
-/
namespace Go.Proofs.YtnhoeboighndlaaGreatDoor.objs
open Go.RowKit Go.ChangeShapes
set_option linter.unusedVariables false

theorem De.ext' {a b : De} : a = b ↔ a.1 = b.1 ∧ a.2.1 = b.2.1 ∧ a.2.2 = b.2.2 := by
  obtain ⟨a1, a2, a3⟩ := a
  obtain ⟨b1, b2, b3⟩ := b
  simp
theorem list_ext {l m : List De} (hl : l.length = m.length) (h : ∀ j, j < l.length → l.getD j zero = m.getD j zero) : l = m := by
  apply List.ext_getElem hl
  intro j h1 h2
  have := h j h1
  rwa [List.getD_eq_getElem?_getD, List.getD_eq_getElem?_getD, List.getElem?_eq_getElem h1, List.getElem?_eq_getElem h2] at this

end Go.Proofs.YtnhoeboighndlaaGreatDoor.objs

/-
  Whether two waits are one, as the statements ask it. No condition but that both have at most six ways, each of at most six needs.
-/
namespace Go.Proofs.YtnhoeboighndlaaGreatDoor.need
open Go.RowKit Go.ChangeShapes
open Go.Proofs.YtnhoeboighndlaaGreatDoor.objs (De zero CellsAt DAt below_drewN list_ext De.ext')
set_option linter.unusedVariables false

theorem wlist_ext {l m : List (List De)} (hl : l.length = m.length) (h : ∀ j, j < l.length → l.getD j [] = m.getD j []) : l = m := by
  apply List.ext_getElem hl
  intro j h1 h2
  have := h j h1
  rwa [List.getD_eq_getElem?_getD, List.getD_eq_getElem?_getD, List.getElem?_eq_getElem h1, List.getElem?_eq_getElem h2] at this
def SamePost (r : Bool) (w : World) (e : Ending) (w' : World) : Prop := e = .returned (.bool r) ∧ Below w.heap.size w w'
set_option maxRecDepth 100000 in
set_option maxHeartbeats 16000000 in
theorem refSame9_any (A B : Option Addr) (ca cb : Nat) (l m : List (List De)) (hl : l.length ≤ 6) (hm : m.length ≤ 6) (hll : ∀ x ∈ l, x.length ≤ 6) (hmm : ∀ x ∈ m, x.length ≤ 6) (w : World) (hA : WAt w A l) (hB : WAt w B m) :
    Calls Tryz.prog 36 #[.slice A l.length ca, .slice B m.length cb] w (SamePost (decide (l = m)) w) := by
  by_cases hlm : l.length = m.length
  · obtain ⟨r, hr⟩ : ∃ r, r = decide (l = m) := ⟨_, rfl⟩
    have HR := Lib.hid hr
    rw [← hr]
    unfold SamePost
    have HLM := Lib.hid hlm
    have HA := Lib.hid hA
    have HB := Lib.hid hB
    have HLl := Lib.hid hll
    have HLm := Lib.hid hmm
    rw [← hlm]
    clear hr hA hB hlm hm hll hmm
    go_enter Tryz.func36, Tryz.ntmps36
    go_wp2_with fail
    go_loopw [5] (fun i wr => ∃ j : Nat, j ≤ l.length ∧ i = .int .i64 (j : Int) ∧ Hid (∀ k, k < j → l.getD k [] = m.getD k []) ∧ Hid (Below w.heap.size w wr)) (fun i _ => l.length - (intOf i).toNat)
    case atStart => exact ⟨0, Nat.zero_le _, rfl, Lib.hid (fun k hk => absurd hk (Nat.not_lt_zero k)), Lib.hid (Below.refl _ _)⟩
    case round =>
      obtain ⟨j, hj, rfl, HO, HW⟩ := hrel
      by_cases hlt : j < l.length
      · have hltm : j < m.length := by have := HLM.out; omega
        obtain ⟨a, oa, Aj, cj, rfl, hbl, hca, hda⟩ := (HA.out.next HW.out) j hlt
        obtain ⟨b, ob, Bj, dj, rfl, hbm, hcb, hdb⟩ := (HB.out.next HW.out) j hltm
        have hlt' : (j : Int) < (l.length : Int) := by omega
        have hj0 : (0 : Int) ≤ (j : Int) := by omega
        have h6a := HLl.out _ (getW_mem hlt)
        have h6b := HLm.out _ (getW_mem hltm)
        generalize hgl : l.getD j [] = lj at *
        generalize hgm : m.getD j [] = mj at *
        by_cases hne : lj.length = mj.length
        · have HNE := Lib.hid hne
          have HDA := Lib.hid hda
          have HDB := Lib.hid hdb
          rw [← hne] at hcb
          clear hne hda hdb
          go_wp2_with fail
          go_quiet (fail)
          go_wp2_with fail
          go_loopw [6] (fun i wr => ∃ k : Nat, k ≤ lj.length ∧ i = .int .i64 (k : Int) ∧ Hid (∀ x, x < k → lj.getD x zero = mj.getD x zero) ∧ Hid (Below w.heap.size w wr)) (fun i _ => lj.length - (intOf i).toNat)
          case atStart => exact ⟨0, Nat.zero_le _, rfl, Lib.hid (fun k hk => absurd hk (Nat.not_lt_zero k)), Lib.hid (below_drewN HW.out _)⟩
          case round =>
            obtain ⟨k, hk, rfl, HP, HW2⟩ := hrel
            obtain ⟨aA, oA, AjA, cjA, hAe, _, hcA, hdA⟩ := (HA.out.next HW2.out) j hlt
            obtain ⟨bB, oB, BjB, djB, hBe, _, hcB, hdB⟩ := (HB.out.next HW2.out) j hltm
            injection hAe with hAe
            injection hAe with hAe1 hAe2
            injection hBe with hBe
            injection hBe with hBe1 hBe2
            subst hAe1 hAe2 hBe1 hBe2
            rw [hgl] at hcA hdA
            rw [hgm] at hcB hdB
            rw [← HNE.out] at hcB
            by_cases hlk : k < lj.length
            · obtain ⟨a2, oa2, rfl, _, a0, a1, a3⟩ := hdA k hlk
              obtain ⟨b2, ob2, rfl, _, b0, b1, b3⟩ := hdB k (by rw [← HNE.out]; exact hlk)
              have hlk' : (k : Int) < (lj.length : Int) := by omega
              have hk0 : (0 : Int) ≤ (k : Int) := by omega
              have hpar : lj.getD k zero ≠ mj.getD k zero → ¬ l = m := fun h e => h (by rw [← hgl, ← hgm, e])
              clear hca hcb
              by_cases hx : lj.getD k zero = mj.getD k zero
              · have HE : Hid (∀ x, x < k + 1 → lj.getD x zero = mj.getD x zero) := Lib.hid (fun x hx2 => by
                  rcases Nat.lt_or_ge x k with h1 | h1
                  · exact HP.out x h1
                  · obtain rfl : x = k := by omega
                    exact hx)
                rw [← hx] at b0 b1 b3
                clear hx hpar
                generalize lj.getD k zero = d at *
                go_wp2_with fail
                go_quiet (fail)
                go_wp2
                go_roundw
                case rel => exact ⟨k + 1, by omega, by go_num, HE, Lib.hid (below_drewN HW2.out _)⟩
                case measure => simp [intOf]; omega
              · have HE := Lib.hid (hpar hx)
                have hne : ¬ ((lj.getD k zero).1 = (mj.getD k zero).1 ∧ (lj.getD k zero).2.1 = (mj.getD k zero).2.1 ∧ (lj.getD k zero).2.2 = (mj.getD k zero).2.2) := fun h => hx (De.ext'.2 h)
                clear hx hpar
                generalize lj.getD k zero = d at *
                generalize mj.getD k zero = f at *
                obtain ⟨d1, d2, d3⟩ := d
                obtain ⟨f1, f2, f3⟩ := f
                dsimp only at a0 a1 a3 b0 b1 b3 hne
                by_cases e1 : d1 = f1
                · subst e1
                  by_cases e2 : d2 = f2
                  · subst e2
                    have hc : (d3 == f3) = false := by rw [beq_eq_false_iff_ne]; exact fun e => hne ⟨rfl, rfl, e⟩
                    clear hne
                    go_wp2_with fail
                    go_quiet (fail)
                    go_wp2
                    go_ret
                    exact ⟨by rw [HR.out, decide_eq_false HE.out]; rfl, below_drewN HW2.out _⟩
                  · have hc : (d2 == f2) = false := by rw [beq_eq_false_iff_ne]; exact e2
                    clear hne e2
                    go_wp2_with fail
                    go_quiet (fail)
                    go_wp2
                    go_ret
                    exact ⟨by rw [HR.out, decide_eq_false HE.out]; rfl, below_drewN HW2.out _⟩
                · have hc : (d1 == f1) = false := by rw [beq_eq_false_iff_ne]; exact e1
                  clear hne e1
                  go_wp2_with fail
                  go_quiet (fail)
                  go_wp2
                  go_ret
                  exact ⟨by rw [HR.out, decide_eq_false HE.out]; rfl, below_drewN HW2.out _⟩
            · obtain rfl : k = lj.length := by omega
              have HE : Hid (∀ x, x < j + 1 → l.getD x [] = m.getD x []) := Lib.hid (fun x hx2 => by
                rcases Nat.lt_or_ge x j with h1 | h1
                · exact HO.out x h1
                · obtain rfl : x = j := by omega
                  rw [hgl, hgm]
                  exact list_ext HNE.out HP.out)
              clear hca hcb hcB hdB hdA
              go_wp2_with fail
              go_roundw
              case rel => exact ⟨j + 1, by omega, by go_num, HE, HW2⟩
              case measure => simp [intOf]; omega
        · have HE : Hid (¬ l = m) := Lib.hid (fun h => hne (by rw [← hgl, ← hgm, h]))
          have hnb : ((lj.length : Int) != (mj.length : Int)) = true := by simp; omega
          clear hne hda hdb
          go_wp2_with fail
          go_quiet (fail)
          go_wp2
          go_ret
          exact ⟨by rw [HR.out, decide_eq_false HE.out]; rfl, below_drewN HW.out _⟩
      · obtain rfl : j = l.length := by omega
        have HE : Hid (l = m) := Lib.hid (wlist_ext HLM.out HO.out)
        go_wp2_with fail
        go_ret
        exact ⟨by rw [HR.out, decide_eq_true HE.out]; rfl, HW.out⟩
  · have hd : decide (l = m) = false := decide_eq_false (fun h => hlm (by rw [h]))
    rw [hd]
    unfold SamePost
    have hne : ((l.length : Int) != (m.length : Int)) = true := by simp; omega
    clear hlm hd hA hB
    go_enter Tryz.func36, Tryz.ntmps36
    go_wp2_with fail
    go_ret
    exact ⟨rfl, Below.refl _ _⟩
end Go.Proofs.YtnhoeboighndlaaGreatDoor.need

/-
  What the program's calls on waits must come to, as one bundle, so that the statements can be walked whatever the program's own text is; and the common end of all statements. No condition but that bundle.
-/
namespace Go.Proofs.YtnhoeboighndlaaGreatDoor.need
open Go.RowKit Go.ChangeShapes
open Go.Proofs.YtnhoeboighndlaaGreatDoor.objs (De zero DAt chk I64)
set_option linter.unusedVariables false

/-- A wait of at most six ways, each of at most six needs, of ints. -/
def Fine (l : List (List De)) : Prop := l.length ≤ 6 ∧ ∀ x ∈ l, x.length ≤ 6 ∧ ∀ t ∈ x, Small t
def TextPost9 (l : List (List De)) (w : World) (e : Ending) (w' : World) : Prop := e = .returned (.string ⟨(textW l).toArray⟩) ∧ Below w.heap.size w w'
def ObjsPost9 (l : List (List De)) (k : Int) (w : World) (e : Ending) (w' : World) : Prop := e = .returned (.int .u64 ((objects l k : Nat) : Int)) ∧ Below w.heap.size w w'
def dL : List De := [(1, 0, 0), (3, 0, 2)]
def wL : List (List De) := [[(1, 0, 0)], [(4, 1, 2)]]
theorem chk_dL : (chk dL).2 = 0 := by decide +kernel
theorem chkW_wL : chkW dL wL = 0 := by decide +kernel
theorem chkW_nil : chkW dL [] = 2 := by decide +kernel
theorem putW_wL : putW dL wL = [2, 1, 1, 0, 1, 4, 1, 2] := by unfold putW; rw [if_pos chkW_wL]; decide +kernel
theorem getW_wL : getW dL [2, 1, 1, 0, 1, 4, 1, 2] = (wL, 8, 0) := by decide +kernel
theorem textW_wL : textW wL = [108, 111, 99, 107, 32, 48, 32, 124, 32, 100, 111, 119, 110, 32, 49, 58, 50] := by
  have h0 : intT 0 = [48] := by unfold intT; rw [if_neg (by decide), show (0 : Int).toNat = 0 from rfl, digs_small (by decide)]; rfl
  have h1 : intT 1 = [49] := by unfold intT; rw [if_neg (by decide), show (1 : Int).toNat = 1 from rfl, digs_small (by decide)]; rfl
  have h2 : intT 2 = [50] := by unfold intT; rw [if_neg (by decide), show (2 : Int).toNat = 2 from rfl, digs_small (by decide)]; rfl
  have e1 : needT (1, 0, 0) = [108, 111, 99, 107, 32, 48] := by unfold needT tailT; dsimp only; rw [h0]; rfl
  have e2 : needT (4, 1, 2) = [100, 111, 119, 110, 32, 49, 58, 50] := by unfold needT tailT; dsimp only; rw [h1, h2]; rfl
  have e3 : needsT [(1, 0, 0)] 1 = [108, 111, 99, 107, 32, 48] := by show needsT [(1, 0, 0)] 0 ++ _ ++ needT (1, 0, 0) = _; rw [e1]; rfl
  have e4 : needsT [(4, 1, 2)] 1 = [100, 111, 119, 110, 32, 49, 58, 50] := by show needsT [(4, 1, 2)] 0 ++ _ ++ needT (4, 1, 2) = _; rw [e2]; rfl
  show (([] ++ [] ++ needsT [(1, 0, 0)] 1) ++ [32, 124, 32] ++ needsT [(4, 1, 2)] 1) = _
  rw [e3, e4]
  rfl
theorem fine_wL : Fine wL := by
  refine ⟨by decide, fun x hx => ?_⟩
  have hx2 : x = [(1, 0, 0)] ∨ x = [(4, 1, 2)] := by simpa [wL] using hx
  rcases hx2 with rfl | rfl
  · refine ⟨by decide, fun t ht => ?_⟩
    rw [List.mem_singleton.1 ht]
    unfold Small
    decide
  · refine ⟨by decide, fun t ht => ?_⟩
    rw [List.mem_singleton.1 ht]
    unfold Small
    decide
theorem fine_nil : Fine [] := ⟨by decide, fun x hx => by cases hx⟩
def twoBox9 : Obj := .cells #[.int .i64 1, .int .i64 0, .int .i64 0, .int .i64 3, .int .i64 0, .int .i64 2] 44
theorem two9 {w : World} {g : Nat} (h : w.heap[g]? = some twoBox9) : DAt w (some ⟨g, 0, none⟩) dL := fun j hj => by
  have hj2 : j < 2 := hj
  refine ⟨g, 0, rfl, lt_of_block h, ?_⟩
  unfold Go.Proofs.YtnhoeboighndlaaGreatDoor.objs.CellsAt World.cell?
  rw [h]
  match j, hj2 with
  | 0, _ => exact ⟨rfl, rfl, rfl⟩
  | 1, _ => exact ⟨rfl, rfl, rfl⟩
def outBox (a b : Nat) : Obj := .cells #[.slice (some ⟨a, 0, none⟩) 1 1, .slice (some ⟨b, 0, none⟩) 1 1] 75
/-- The wait that lives makes. -/
def wOf (W : World) : World := ((W.alloc (needBox 1 0 0)).alloc (needBox 4 1 2)).alloc (outBox W.heap.size (W.heap.size + 1))
theorem wOf_below (W : World) : Below W.heap.size W (wOf W) := ((((Below.refl _ W).alloc (Nat.le_refl _) _).alloc (by rw [World.size_alloc]; omega) _).alloc (by rw [World.size_alloc, World.size_alloc]; omega) _)
theorem wOf_at (W : World) : WAt (wOf W) (some ⟨W.heap.size + 1 + 1, 0, none⟩) wL := by
  have z1 : (W.alloc (needBox 1 0 0)).heap.size = W.heap.size + 1 := World.size_alloc W _
  have z2 : ((W.alloc (needBox 1 0 0)).alloc (needBox 4 1 2)).heap.size = W.heap.size + 1 + 1 := by rw [World.size_alloc, z1]
  have b0 : (wOf W).heap[W.heap.size]? = some (needBox 1 0 0) := (Below.heap_alloc _ _ _ (by omega)).trans ((Below.heap_alloc _ _ _ (by omega)).trans (heap_alloc_new W _))
  have b1 : (wOf W).heap[W.heap.size + 1]? = some (needBox 4 1 2) := (Below.heap_alloc _ _ _ (by omega)).trans (by rw [← z1]; exact heap_alloc_new _ _)
  have b2 : (wOf W).heap[W.heap.size + 1 + 1]? = some (outBox W.heap.size (W.heap.size + 1)) := by rw [← z2]; exact heap_alloc_new _ _
  intro j hj
  have hj2 : j < 2 := hj
  match j, hj2 with
  | 0, _ => exact ⟨_, 0, _, 1, rfl, lt_of_block b2, by unfold World.cell?; rw [b2]; rfl, DAt.oneN (d := (1, 0, 0)) b0⟩
  | 1, _ => exact ⟨_, 0, _, 1, rfl, lt_of_block b2, by unfold World.cell?; rw [b2]; rfl, DAt.oneN (d := (4, 1, 2)) b1⟩

end Go.Proofs.YtnhoeboighndlaaGreatDoor.need

/-
  The walks of NeedGets and NeedOnce over the bundle: whatever the program's own text is. A text of at most two to the forty-seventh bytes.
-/
namespace Go.Proofs.YtnhoeboighndlaaGreatDoor.need
open Go.RowKit Go.ChangeShapes
open Go.Proofs.YtnhoeboighndlaaGreatDoor.objs (De zero DAt chk chk_zero I64 Ints LIn)
set_option linter.unusedVariables false

/-- Objects that came in and may be are there whole. -/
theorem in_whole {w : World} {A : Option Addr} {n cap : Nat} {d : List De} (hI : LIn w A n cap d) (h : (chk d).2 = 0) : n = d.length ∧ d.length ≤ 32 ∧ DAt w A d ∧ (A = none → d = [] ∧ cap = 0) := by
  obtain ⟨h1, _, _, h4, _, h6⟩ := hI
  have := (chk_zero h).1
  exact ⟨by omega, this, h4, fun e => ⟨List.eq_nil_of_length_eq_zero (by have := (h1 e).1; omega), (h1 e).2⟩⟩
theorem small_of {d : List De} {n : De} (hd : (chk d).2 = 0) (h : oneN d n = 0) : Small n := by
  obtain ⟨h1, h2, h3, h4, h5⟩ := need_small hd h
  unfold Small
  omega
theorem fine_of {d : List De} {l : List (List De)} (hd : (chk d).2 = 0) (h : chkW d l = 0) : Fine l := by
  obtain ⟨_, h4, hall⟩ := chkW_zero h
  exact ⟨by omega, fun x hx => ⟨by have := (hall x hx).2.1; omega, fun t ht => small_of hd ((hall x hx).2.2 t ht)⟩⟩
theorem slim_of {d : List De} {l : List (List De)} (hd : (chk d).2 = 0) (h : chkW d l = 0) : ∀ x ∈ l, ∀ t ∈ x, Slim9 t := fun x hx t ht => by
  obtain ⟨h1, h2, _, h4, h5⟩ := need_small hd ((chkW_zero h).2.2 x hx |>.2.2 t ht)
  exact ⟨h1, by omega, by omega⟩
theorem getW_fine {d : List De} (hd : (chk d).2 = 0) (t : List UInt8) : (getW d t).1.length ≤ 6 ∧ ∀ x ∈ (getW d t).1, x.length ≤ 6 := by
  rcases Nat.eq_zero_or_pos (getW d t).2.2 with h | h
  · have := fine_of hd (once hd h).1
    exact ⟨this.1, fun x hx => (this.2 x hx).1⟩
  · rw [got_bad (by omega)]
    exact ⟨by simp, fun x hx => by cases hx⟩

end Go.Proofs.YtnhoeboighndlaaGreatDoor.need
