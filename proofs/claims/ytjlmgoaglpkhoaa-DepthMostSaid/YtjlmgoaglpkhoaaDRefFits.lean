/-
  The document's names of kinds, the kinds that a letter stands for, and whether an object is of one. No condition.
-/
import Derived.Test.YtjlmgoaglpkhoaaDMem
import Derived.Test.YtjlmgoaglpkhoaaWRef
namespace Go.Proofs.Ytjlmgoaglpkhoaa.objs
open Go.RowKit Go.ChangeShapes
open Go.Proofs.Ytjlmgoaglpkhoaa.word (Word)
set_option linter.unusedVariables false

theorem ret_int {k : IntKind} {a b : Int} (h : a = b) : Ending.returned (.int k a) = .returned (.int k b) := by rw [h]
theorem ret_bool {a b : Bool} (h : a = b) : Ending.returned (.bool a) = .returned (.bool b) := by rw [h]
theorem ret_string {a b : ByteArray} (h : a = b) : Ending.returned (.string a) = .returned (.string b) := by rw [h]

/-- A list of kinds that a call has made. -/
def KAt (w : World) (A : Option Addr) (ks : List Int) : Prop := ∀ j, j < ks.length → ∃ b, A = some ⟨b, 0, none⟩ ∧ w.cell? ⟨b, j, none⟩ = some (.int .i64 (ks.getD j 0))
def KindsPost (c : UInt8) (w : World) (e : Ending) (w' : World) : Prop := ∃ A, e = .returned (.slice A (kindsOf c).length (kindsOf c).length) ∧ KAt w' A (kindsOf c) ∧ Below w.heap.size w w'
theorem kat_one {w : World} {b : Nat} {k : Int} (h : w.heap[b]? = some (.cells #[.int .i64 k] 3 (0, 0))) : KAt w (some ⟨b, 0, none⟩) [k] := fun j hj => by
  obtain rfl : j = 0 := by simpa using hj
  refine ⟨b, rfl, ?_⟩
  unfold World.cell?
  rw [h]
  rfl
theorem kat_two {w : World} {b : Nat} {k m : Int} (h : w.heap[b]? = some (.cells #[.int .i64 k, .int .i64 m] 3 (0, 0))) : KAt w (some ⟨b, 0, none⟩) [k, m] := fun j hj => by
  have hj2 : j < 2 := hj
  refine ⟨b, rfl, ?_⟩
  unfold World.cell?
  rw [h]
  match j, hj2 with
  | 0, _ => rfl
  | 1, _ => rfl
def letters : List UInt8 := [117, 115, 112, 99, 109, 98, 118, 113]
theorem kinds_none {c : UInt8} (h : ∀ k, k < 8 → c ≠ letters.getD k 0) : kindsOf c = [] := by
  have h0 : c ≠ 117 := h 0 (by omega)
  have h1 : c ≠ 115 := h 1 (by omega)
  have h2 : c ≠ 112 := h 2 (by omega)
  have h3 : c ≠ 99 := h 3 (by omega)
  have h4 : c ≠ 109 := h 4 (by omega)
  have h5 : c ≠ 98 := h 5 (by omega)
  have h6 : c ≠ 118 := h 6 (by omega)
  have h7 : c ≠ 113 := h 7 (by omega)
  unfold kindsOf
  rw [if_neg h0, if_neg h1, if_neg h2, if_neg h3, if_neg h4, if_neg h5, if_neg h6, if_neg h7]
theorem u8_eq {c k : UInt8} : ((k.toNat : Int) == (c.toNat : Int)) = decide (c = k) := by
  by_cases h : c = k
  · subst h; simp
  · rw [decide_eq_false h, beq_eq_false_iff_ne]
    intro e
    exact h (UInt8.toNat_inj.1 (by omega))

/-- The world in which all lists of kinds are made. -/
def ints1 (k : Int) : Obj := .cells #[.int .i64 k] 3
def ints2 (k m : Int) : Obj := .cells #[.int .i64 k, .int .i64 m] 3
def rows (n : Nat) : Obj := .cells #[.slice (some ⟨n, 0, none⟩) 2 2, .slice (some ⟨n + 1, 0, none⟩) 1 1, .slice (some ⟨n + 1 + 1, 0, none⟩) 1 1, .slice (some ⟨n + 1 + 1 + 1, 0, none⟩) 1 1, .slice (some ⟨n + 1 + 1 + 1 + 1, 0, none⟩) 1 1, .slice (some ⟨n + 1 + 1 + 1 + 1 + 1, 0, none⟩) 1 1, .slice (some ⟨n + 1 + 1 + 1 + 1 + 1 + 1, 0, none⟩) 1 1, .slice (some ⟨n + 1 + 1 + 1 + 1 + 1 + 1 + 1, 0, none⟩) 2 2] 30
def kw (w : World) : World := ((((((((w.alloc (ints2 1 2)).alloc (ints1 3)).alloc (ints1 6)).alloc (ints1 4)).alloc (ints1 1)).alloc (ints1 5)).alloc (ints1 7)).alloc (ints2 1 6)).alloc (rows w.heap.size)
theorem kw_below (w : World) : Below w.heap.size w (kw w) := by
  unfold kw
  refine (((((((((Below.refl _ w).alloc (Nat.le_refl _) _).alloc ?_ _).alloc ?_ _).alloc ?_ _).alloc ?_ _).alloc ?_ _).alloc ?_ _).alloc ?_ _).alloc ?_ _
  all_goals simp only [World.size_alloc]; omega
theorem kw_at (w : World) : (kw w).heap[w.heap.size]? = some (ints2 1 2) ∧ (kw w).heap[w.heap.size + 1]? = some (ints1 3) ∧ (kw w).heap[w.heap.size + 1 + 1]? = some (ints1 6) ∧ (kw w).heap[w.heap.size + 1 + 1 + 1]? = some (ints1 4) ∧
    (kw w).heap[w.heap.size + 1 + 1 + 1 + 1]? = some (ints1 1) ∧ (kw w).heap[w.heap.size + 1 + 1 + 1 + 1 + 1]? = some (ints1 5) ∧ (kw w).heap[w.heap.size + 1 + 1 + 1 + 1 + 1 + 1]? = some (ints1 7) ∧ (kw w).heap[w.heap.size + 1 + 1 + 1 + 1 + 1 + 1 + 1]? = some (ints2 1 6) ∧
    (kw w).heap[w.heap.size + 1 + 1 + 1 + 1 + 1 + 1 + 1 + 1]? = some (rows w.heap.size) := by
  unfold kw
  refine ⟨?_, ?_, ?_, ?_, ?_, ?_, ?_, ?_, ?_⟩
  all_goals simp only [World.alloc, Array.getElem?_push, Array.size_push]
  all_goals repeat (first | rw [if_pos trivial] | rw [if_neg (by omega)])

set_option maxRecDepth 100000 in
set_option maxHeartbeats 4000000 in
theorem refKinds_any (c : UInt8) (w : World) : Calls Try.prog 40 #[.int .u8 (c.toNat : Int)] w (KindsPost c w) := by
  go_enter Try.func40, Try.ntmps40
  have HB := Lib.hid (kw_below w)
  obtain ⟨k0, k1, k2, k3, k4, k5, k6, k7, k8⟩ := kw_at w
  have H0 := Lib.hid (kat_two k0)
  have H1 := Lib.hid (kat_one k1)
  have H2 := Lib.hid (kat_one k2)
  have H3 := Lib.hid (kat_one k3)
  have H4 := Lib.hid (kat_one k4)
  have H5 := Lib.hid (kat_one k5)
  have H6 := Lib.hid (kat_one k6)
  have H7 := Lib.hid (kat_two k7)
  have HR : ∀ j, j < 8 → ∃ x, (kw w).cell? ⟨w.heap.size + 1 + 1 + 1 + 1 + 1 + 1 + 1 + 1, j, none⟩ = some x := by
    intro j hj
    unfold World.cell?
    rw [k8]
    unfold rows
    rcases (by omega : j = 0 ∨ j = 1 ∨ j = 2 ∨ j = 3 ∨ j = 4 ∨ j = 5 ∨ j = 6 ∨ j = 7) with rfl | rfl | rfl | rfl | rfl | rfl | rfl | rfl <;> exact ⟨_, rfl⟩
  have r0 : (kw w).cell? ⟨w.heap.size + 1 + 1 + 1 + 1 + 1 + 1 + 1 + 1, 0, none⟩ = some (.slice (some ⟨w.heap.size, 0, none⟩) 2 2) := by unfold World.cell?; rw [k8]; rfl
  have r1 : (kw w).cell? ⟨w.heap.size + 1 + 1 + 1 + 1 + 1 + 1 + 1 + 1, 1, none⟩ = some (.slice (some ⟨w.heap.size + 1, 0, none⟩) 1 1) := by unfold World.cell?; rw [k8]; rfl
  have r2 : (kw w).cell? ⟨w.heap.size + 1 + 1 + 1 + 1 + 1 + 1 + 1 + 1, 2, none⟩ = some (.slice (some ⟨w.heap.size + 1 + 1, 0, none⟩) 1 1) := by unfold World.cell?; rw [k8]; rfl
  have r3 : (kw w).cell? ⟨w.heap.size + 1 + 1 + 1 + 1 + 1 + 1 + 1 + 1, 3, none⟩ = some (.slice (some ⟨w.heap.size + 1 + 1 + 1, 0, none⟩) 1 1) := by unfold World.cell?; rw [k8]; rfl
  have r4 : (kw w).cell? ⟨w.heap.size + 1 + 1 + 1 + 1 + 1 + 1 + 1 + 1, 4, none⟩ = some (.slice (some ⟨w.heap.size + 1 + 1 + 1 + 1, 0, none⟩) 1 1) := by unfold World.cell?; rw [k8]; rfl
  have r5 : (kw w).cell? ⟨w.heap.size + 1 + 1 + 1 + 1 + 1 + 1 + 1 + 1, 5, none⟩ = some (.slice (some ⟨w.heap.size + 1 + 1 + 1 + 1 + 1, 0, none⟩) 1 1) := by unfold World.cell?; rw [k8]; rfl
  have r6 : (kw w).cell? ⟨w.heap.size + 1 + 1 + 1 + 1 + 1 + 1 + 1 + 1, 6, none⟩ = some (.slice (some ⟨w.heap.size + 1 + 1 + 1 + 1 + 1 + 1, 0, none⟩) 1 1) := by unfold World.cell?; rw [k8]; rfl
  have r7 : (kw w).cell? ⟨w.heap.size + 1 + 1 + 1 + 1 + 1 + 1 + 1 + 1, 7, none⟩ = some (.slice (some ⟨w.heap.size + 1 + 1 + 1 + 1 + 1 + 1 + 1, 0, none⟩) 2 2) := by unfold World.cell?; rw [k8]; rfl
  clear k0 k1 k2 k3 k4 k5 k6 k7 k8 HR
  obtain ⟨n8, hn8⟩ : ∃ n8, n8 = w.heap.size + 1 + 1 + 1 + 1 + 1 + 1 + 1 + 1 := ⟨_, rfl⟩
  obtain ⟨W1, hW1⟩ : ∃ W1, W1 = kw w := ⟨_, rfl⟩
  rw [← hn8, ← hW1] at r0 r1 r2 r3 r4 r5 r6 r7
  rw [← hW1] at HB H0 H1 H2 H3 H4 H5 H6 H7
  unfold kw ints1 ints2 rows at hW1
  go_wp2_with fail
  rw [← hW1, ← hn8]
  clear hW1 hn8
  have HNx : ∀ j, c ≠ letters.getD j 0 → Hid (∀ k, k < j → c ≠ letters.getD k 0) → Hid (∀ k, k < j + 1 → c ≠ letters.getD k 0) := fun j h1 h2 => Lib.hid (fun k hk => by
    rcases Nat.lt_or_ge k j with h3 | h3
    · exact h2.out k h3
    · obtain rfl : k = j := by omega
      exact h1)
  unfold KindsPost
  go_loop [5] (fun i => ∃ j : Nat, j ≤ 8 ∧ i = .int .i64 (j : Int) ∧ Hid (∀ k, k < j → c ≠ letters.getD k 0)) (fun i => 8 - (intOf i).toNat)
  case atStart => exact ⟨0, Nat.zero_le _, rfl, Lib.hid (fun k hk => absurd hk (Nat.not_lt_zero k))⟩
  case round =>
    obtain ⟨j, hj, rfl, HO⟩ := hrel
    rcases (by omega : j = 0 ∨ j = 1 ∨ j = 2 ∨ j = 3 ∨ j = 4 ∨ j = 5 ∨ j = 6 ∨ j = 7 ∨ j = 8) with rfl | rfl | rfl | rfl | rfl | rfl | rfl | rfl | rfl
    · by_cases hc : c = 117
      · subst hc
        go_wp2
        exact bodyPost_ret (v := .slice (some ⟨w.heap.size, 0, none⟩) 2 2) (by simp [results, Try.results40, go_sem]) rfl ⟨_, rfl, H0.out, HB.out⟩
      · have hb : ((((⟨#[117, 115, 112, 99, 109, 98, 118, 113]⟩ : ByteArray)[0]'(by decide)).toNat : Int) == (c.toNat : Int)) = false := (u8_eq (c := c) (k := 117)).trans (decide_eq_false hc)
        have HE := HNx 0 hc HO
        clear hc
        go_wp2
        exact ⟨⟨1, by omega, rfl, HE⟩, by simp [intOf]⟩
    · by_cases hc : c = 115
      · subst hc
        go_wp2
        exact bodyPost_ret (v := .slice (some ⟨w.heap.size + 1, 0, none⟩) 1 1) (by simp [results, Try.results40, go_sem]) rfl ⟨_, rfl, H1.out, HB.out⟩
      · have hb : ((((⟨#[117, 115, 112, 99, 109, 98, 118, 113]⟩ : ByteArray)[1]'(by decide)).toNat : Int) == (c.toNat : Int)) = false := (u8_eq (c := c) (k := 115)).trans (decide_eq_false hc)
        have HE := HNx 1 hc HO
        clear hc
        go_wp2
        exact ⟨⟨2, by omega, rfl, HE⟩, by simp [intOf]⟩
    · by_cases hc : c = 112
      · subst hc
        go_wp2
        exact bodyPost_ret (v := .slice (some ⟨w.heap.size + 1 + 1, 0, none⟩) 1 1) (by simp [results, Try.results40, go_sem]) rfl ⟨_, rfl, H2.out, HB.out⟩
      · have hb : ((((⟨#[117, 115, 112, 99, 109, 98, 118, 113]⟩ : ByteArray)[2]'(by decide)).toNat : Int) == (c.toNat : Int)) = false := (u8_eq (c := c) (k := 112)).trans (decide_eq_false hc)
        have HE := HNx 2 hc HO
        clear hc
        go_wp2
        exact ⟨⟨3, by omega, rfl, HE⟩, by simp [intOf]⟩
    · by_cases hc : c = 99
      · subst hc
        go_wp2
        exact bodyPost_ret (v := .slice (some ⟨w.heap.size + 1 + 1 + 1, 0, none⟩) 1 1) (by simp [results, Try.results40, go_sem]) rfl ⟨_, rfl, H3.out, HB.out⟩
      · have hb : ((((⟨#[117, 115, 112, 99, 109, 98, 118, 113]⟩ : ByteArray)[3]'(by decide)).toNat : Int) == (c.toNat : Int)) = false := (u8_eq (c := c) (k := 99)).trans (decide_eq_false hc)
        have HE := HNx 3 hc HO
        clear hc
        go_wp2
        exact ⟨⟨4, by omega, rfl, HE⟩, by simp [intOf]⟩
    · by_cases hc : c = 109
      · subst hc
        go_wp2
        exact bodyPost_ret (v := .slice (some ⟨w.heap.size + 1 + 1 + 1 + 1, 0, none⟩) 1 1) (by simp [results, Try.results40, go_sem]) rfl ⟨_, rfl, H4.out, HB.out⟩
      · have hb : ((((⟨#[117, 115, 112, 99, 109, 98, 118, 113]⟩ : ByteArray)[4]'(by decide)).toNat : Int) == (c.toNat : Int)) = false := (u8_eq (c := c) (k := 109)).trans (decide_eq_false hc)
        have HE := HNx 4 hc HO
        clear hc
        go_wp2
        exact ⟨⟨5, by omega, rfl, HE⟩, by simp [intOf]⟩
    · by_cases hc : c = 98
      · subst hc
        go_wp2
        exact bodyPost_ret (v := .slice (some ⟨w.heap.size + 1 + 1 + 1 + 1 + 1, 0, none⟩) 1 1) (by simp [results, Try.results40, go_sem]) rfl ⟨_, rfl, H5.out, HB.out⟩
      · have hb : ((((⟨#[117, 115, 112, 99, 109, 98, 118, 113]⟩ : ByteArray)[5]'(by decide)).toNat : Int) == (c.toNat : Int)) = false := (u8_eq (c := c) (k := 98)).trans (decide_eq_false hc)
        have HE := HNx 5 hc HO
        clear hc
        go_wp2
        exact ⟨⟨6, by omega, rfl, HE⟩, by simp [intOf]⟩
    · by_cases hc : c = 118
      · subst hc
        go_wp2
        exact bodyPost_ret (v := .slice (some ⟨w.heap.size + 1 + 1 + 1 + 1 + 1 + 1, 0, none⟩) 1 1) (by simp [results, Try.results40, go_sem]) rfl ⟨_, rfl, H6.out, HB.out⟩
      · have hb : ((((⟨#[117, 115, 112, 99, 109, 98, 118, 113]⟩ : ByteArray)[6]'(by decide)).toNat : Int) == (c.toNat : Int)) = false := (u8_eq (c := c) (k := 118)).trans (decide_eq_false hc)
        have HE := HNx 6 hc HO
        clear hc
        go_wp2
        exact ⟨⟨7, by omega, rfl, HE⟩, by simp [intOf]⟩
    · by_cases hc : c = 113
      · subst hc
        go_wp2
        exact bodyPost_ret (v := .slice (some ⟨w.heap.size + 1 + 1 + 1 + 1 + 1 + 1 + 1, 0, none⟩) 2 2) (by simp [results, Try.results40, go_sem]) rfl ⟨_, rfl, H7.out, HB.out⟩
      · have hb : ((((⟨#[117, 115, 112, 99, 109, 98, 118, 113]⟩ : ByteArray)[7]'(by decide)).toNat : Int) == (c.toNat : Int)) = false := (u8_eq (c := c) (k := 113)).trans (decide_eq_false hc)
        have HE := HNx 7 hc HO
        clear hc
        go_wp2
        exact ⟨⟨8, by omega, rfl, HE⟩, by simp [intOf]⟩
    · have HE := Lib.hid (kinds_none HO.out)
      clear HNx
      go_wp2
      exact bodyPost_ret (v := .slice none 0 0) (by simp [results, Try.results40, go_sem]) rfl ⟨none, by rw [HE.out]; rfl, by rw [HE.out]; exact fun j hj => absurd hj (Nat.not_lt_zero j), HB.out⟩
end Go.Proofs.Ytjlmgoaglpkhoaa.objs
