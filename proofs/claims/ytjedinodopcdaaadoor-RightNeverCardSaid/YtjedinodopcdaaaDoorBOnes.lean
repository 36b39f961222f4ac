/-
  How many numbers a set has, as math/bits counts them. The first part speaks of numbers alone; then the program's call. No condition.
-/
import Derived.Test.YtjedinodopcdaaaDoorBFirst
namespace Go.Proofs.YtjedinodopcdaaaDoor.bits
open Go.RowKit Go.ChangeShapes

theorem two_sum {a b : Nat} (h : a + b < 18446744073709551616) : IntKind.u64.wrap ((a : Int) + (b : Int)) = ((a + b : Nat) : Int) := by
  rw [IntKind.wrap_u64]
  omega
theorem cast_div (a b : Nat) : ((a : Int) / (b : Int)) = ((a / b : Nat) : Int) := rfl
theorem mk85 : mk 85 8 = 6148914691236517205 := by decide +kernel
theorem mk51 : mk 51 8 = 3689348814741910323 := by decide +kernel
theorem mk15 : mk 15 8 = 1085102592571150095 := by decide +kernel

theorem and_cast {a : Nat} (ha : Is64 a) (m : Nat) (hm : Is64 m) (v : Int) (hv : v = (m : Int)) : bits .and .u64 (a : Int) v = ((a &&& m : Nat) : Int) := by
  rw [hv]
  exact and_u64 ha hm
theorem ones1 {s : Nat} (hs : Is64 s) : IntKind.u64.wrap (bits .and .u64 ((s : Int) / 2) 6148914691236517205 + bits .and .u64 (s : Int) 6148914691236517205) = ((bm f1 8 s : Nat) : Int) ∧ bm f1 8 s ≤ 12297829382473034410 := by
  have h := step1 8 s
  rw [mk85] at h
  have b1 : s / 2 &&& 6148914691236517205 ≤ 6148914691236517205 := Nat.and_le_right
  have b2 : s &&& 6148914691236517205 ≤ 6148914691236517205 := Nat.and_le_right
  have e0 : ((s : Int) / 2) = ((s / 2 : Nat) : Int) := rfl
  have e1 := and_cast (a := s / 2) (by unfold Is64 at *; omega) 6148914691236517205 (by unfold Is64; omega) 6148914691236517205 rfl
  have e2 := and_cast (a := s) (by unfold Is64 at *; omega) 6148914691236517205 (by unfold Is64; omega) 6148914691236517205 rfl
  generalize (s / 2 &&& 6148914691236517205) = p at *
  generalize (s &&& 6148914691236517205) = q at *
  rw [e0, e1, e2, two_sum (by omega), h]
  exact ⟨rfl, by rw [← h]; omega⟩
theorem ones2 {s : Nat} (hs : s ≤ 12297829382473034410) : IntKind.u64.wrap (bits .and .u64 ((s : Int) / 4) 3689348814741910323 + bits .and .u64 (s : Int) 3689348814741910323) = ((bm f2 8 s : Nat) : Int) ∧ bm f2 8 s ≤ 7378697629483820646 := by
  have h := step2 8 s
  rw [mk51] at h
  have b1 : s / 4 &&& 3689348814741910323 ≤ 3689348814741910323 := Nat.and_le_right
  have b2 : s &&& 3689348814741910323 ≤ 3689348814741910323 := Nat.and_le_right
  have e0 : ((s : Int) / 4) = ((s / 4 : Nat) : Int) := rfl
  have e1 := and_cast (a := s / 4) (by unfold Is64 at *; omega) 3689348814741910323 (by unfold Is64; omega) 3689348814741910323 rfl
  have e2 := and_cast (a := s) (by unfold Is64 at *; omega) 3689348814741910323 (by unfold Is64; omega) 3689348814741910323 rfl
  generalize (s / 4 &&& 3689348814741910323) = p at *
  generalize (s &&& 3689348814741910323) = q at *
  rw [e0, e1, e2, two_sum (by omega), h]
  exact ⟨rfl, by rw [← h]; omega⟩
theorem ones3 (s : Nat) (hs : bm f2 8 (bm f1 8 s) ≤ 7378697629483820646) : bits .and .u64 (IntKind.u64.wrap (((bm f2 8 (bm f1 8 s) : Nat) : Int) / 16 + ((bm f2 8 (bm f1 8 s) : Nat) : Int))) 1085102592571150095 = ((bm (pc 8) 8 s : Nat) : Int) := by
  have h : (bm f2 8 (bm f1 8 s) / 16 + bm f2 8 (bm f1 8 s)) &&& mk 15 8 = bm (pc 8) 8 s := by
    rw [bm_bm f1_lt]
    have h3 := step3 (g := fun b => f2 (f1 b)) (fun b hb => f2f1 b hb) 8 s
    rw [h3]
    exact bm_congr (fun b hb => f321 b hb) 8 s
  rw [mk15] at h
  generalize bm f2 8 (bm f1 8 s) = x at *
  generalize bm (pc 8) 8 s = y at *
  have e0 : ((x : Int) / 16) = ((x / 16 : Nat) : Int) := rfl
  have hx : Is64 (x / 16 + x) := by clear h; unfold Is64; omega
  have e1 := and_cast hx 1085102592571150095 (by clear h; unfold Is64; omega) 1085102592571150095 rfl
  rw [h] at e1
  clear h
  rw [e0, two_sum (by omega), e1]
theorem div_256 {v L C : Nat} (h : v = L + 256 * C) (hl : L < 256) : v / 256 = C := by omega
theorem div_16 {v L C : Nat} (h : v = L + 65536 * C) (hl : L < 65536) : v / 65536 = C := by omega
theorem div_32 {v L C : Nat} (h : v = L + 4294967296 * C) (hl : L < 4294967296) : v / 4294967296 = C := by omega
theorem low_7 {z L K : Nat} (h : z = L + 256 * K) (hl : L < 128) : z % 128 = L := by omega
theorem wrap_div {v d q : Nat} (h : v / d = q) (hb : v + q < 18446744073709551616) : IntKind.u64.wrap ((v : Int) + (v : Int) / (d : Int)) = ((v + q : Nat) : Int) := by
  rw [cast_div, h, two_sum hb]
theorem sum_x {x v B C D a b c : Nat} (hx : x = v + B) (hy : v = a + 256 * B) (hB : B = b + 256 * C) (hC : C = c + 256 * D) : x = (a + b + 256 * (b + c)) + 65536 * (C + D) := by omega
theorem sum_y {x y C D E F G a b c d e f g h : Nat} (hy2 : y = x + (C + D)) (x1 : x = (a + b + 256 * (b + c)) + 65536 * (C + D)) (hC : C = c + 256 * D) (hD : D = d + 256 * E) (hE : E = e + 256 * F) (hF : F = f + 256 * G) (hG : G = g + 256 * h) :
    y = (a + b + c + d + 256 * (b + c + d + e) + 65536 * (c + d + e + f + 256 * (d + e + f + g))) + 4294967296 * (E + F + G + h) := by omega
theorem sum_z {y z E F G a b c d e f g h : Nat} (hz : z = y + (E + F + G + h)) (y1 : y = (a + b + c + d + 256 * (b + c + d + e) + 65536 * (c + d + e + f + 256 * (d + e + f + g))) + 4294967296 * (E + F + G + h)) (hE : E = e + 256 * F) (hF : F = f + 256 * G) (hG : G = g + 256 * h) :
    z = (a + b + c + d + e + f + g + h) + 256 * ((b + c + d + e) + 256 * (c + d + e + f + 256 * (d + e + f + g)) + 16777216 * (E + F + G + h) + (F + G + h)) := by omega
theorem ones4 (s : Nat) : ∃ x y z : Nat, IntKind.u64.wrap (((bm (pc 8) 8 s : Nat) : Int) + ((bm (pc 8) 8 s : Nat) : Int) / 256) = (x : Int) ∧ IntKind.u64.wrap ((x : Int) + (x : Int) / 65536) = (y : Int) ∧ IntKind.u64.wrap ((y : Int) + (y : Int) / 4294967296) = (z : Int) ∧
    z < 9223372036854775808 ∧ z % 128 = (els s).length := by
  obtain ⟨a, b, c, d, e, f, g, h, ⟨ha, hb, hc, hd, he, hf, hg, hh⟩, hy, hp⟩ := sum8 s
  rw [pc_els, hp]
  clear hp
  generalize bm (pc 8) 8 s = v at *
  obtain ⟨G, hG⟩ : ∃ G, G = g + 256 * h := ⟨_, rfl⟩
  obtain ⟨F, hF⟩ : ∃ F, F = f + 256 * G := ⟨_, rfl⟩
  obtain ⟨E, hE⟩ : ∃ E, E = e + 256 * F := ⟨_, rfl⟩
  obtain ⟨D, hD⟩ : ∃ D, D = d + 256 * E := ⟨_, rfl⟩
  obtain ⟨C, hC⟩ : ∃ C, C = c + 256 * D := ⟨_, rfl⟩
  obtain ⟨B, hB⟩ : ∃ B, B = b + 256 * C := ⟨_, rfl⟩
  rw [← hG, ← hF, ← hE, ← hD, ← hC, ← hB] at hy
  have bG : G ≤ 2056 := by omega
  have bF : F ≤ 526344 := by omega
  have bE : E ≤ 134744072 := by omega
  have bD : D ≤ 34494482440 := by omega
  have bC : C ≤ 8830587504648 := by omega
  have bB : B ≤ 2260630401189896 := by omega
  have d1 : v / 256 = B := div_256 hy (by omega)
  obtain ⟨x, hx⟩ : ∃ x, x = v + B := ⟨_, rfl⟩
  have x1 := sum_x hx hy hB hC
  have bx : x ≤ 600000000000000000 := by clear x1 hB hC hD hE hF hG d1; omega
  have d2 : x / 65536 = C + D := div_16 x1 (by clear x1 hB hC hD hE hF hG d1 hx hy; omega)
  obtain ⟨y, hy2⟩ : ∃ y, y = x + (C + D) := ⟨_, rfl⟩
  have y1 := sum_y hy2 x1 hC hD hE hF hG
  have by2 : y ≤ 600010000000000000 := by clear x1 y1 hB hC hD hE hF hG d1 d2 hx hy; omega
  have d3 : y / 4294967296 = E + F + G + h := div_32 y1 (by clear x1 y1 hB hC hD hE hF hG d1 d2 hx hy hy2; omega)
  obtain ⟨z, hz⟩ : ∃ z, z = y + (E + F + G + h) := ⟨_, rfl⟩
  have z1 := sum_z hz y1 hE hF hG
  clear x1 y1 hB hC hD hE hF hG
  refine ⟨x, y, z, ?_, ?_, ?_, ?_, low_7 z1 ?_⟩
  · rw [hx]
    exact wrap_div d1 (by clear d1 d2 d3 z1 hz hy2; omega)
  · rw [hy2]
    exact wrap_div d2 (by clear d1 d2 d3 z1 hz hx hy; omega)
  · rw [hz]
    exact wrap_div d3 (by clear d1 d2 d3 z1 hx hy hy2; omega)
  · clear d1 d2 d3 z1 hx hy hy2
    omega
  · clear d1 d2 d3 z1 hx hy hy2 hz
    omega

end Go.Proofs.YtjedinodopcdaaaDoor.bits
