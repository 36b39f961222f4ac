/-
  Texts of one claim in one file: DRefFits, DRefFit. Each has its own sentence, with its conditions.
-/
import Derived.Test.YtjbcmedljgafkaaDoorZq1
import Derived.Test.YtjbcmedljgafkaaDoorZq2
/-
  The document's names of kinds, the kinds that a letter stands for, and whether an object is of one. No condition.
-/

namespace Go.Proofs.YtjbcmedljgafkaaDoor.objs
open Go.RowKit Go.ChangeShapes
open Go.Proofs.YtjbcmedljgafkaaDoor.word (Word)
set_option linter.unusedVariables false

theorem ret_int {k : IntKind} {a b : Int} (h : a = b) : Ending.returned (.int k a) = .returned (.int k b) := by rw [h]
theorem ret_bool {a b : Bool} (h : a = b) : Ending.returned (.bool a) = .returned (.bool b) := by rw [h]
/-- A list of kinds that a call has made. -/
def KAt (w : World) (A : Option Addr) (ks : List Int) : Prop := ∀ j, j < ks.length → ∃ b, A = some ⟨b, 0, none⟩ ∧ w.cell? ⟨b, j, none⟩ = some (.int .i64 (ks.getD j 0))
def KindsPost (c : UInt8) (w : World) (e : Ending) (w' : World) : Prop := ∃ A, e = .returned (.slice A (kindsOf c).length (kindsOf c).length) ∧ KAt w' A (kindsOf c) ∧ Below w.heap.size w w'
theorem kat_one {w : World} {b : Nat} {k : Int} (h : w.heap[b]? = some (.cells #[.int .i64 k] 3 (0, 0))) : KAt w (some ⟨b, 0, none⟩) [k] := fun j hj => by
  obtain rfl : j = 0 := by simpa using hj
  refine ⟨b, rfl, ?_⟩
  unfold World.cell?
  rw [h]
  rfl
theorem kat_two {w : World} {b : Nat} {k m : Int} (h : w.heap[b]? = some (.cells #[.int .i64 k, .int .i64 m] 3 (0, 0))) : KAt w (some ⟨b, 0, none⟩) [k, m] := fun j hj => by
  have hj2 : j < 2 := hj
  refine ⟨b, rfl, ?_⟩
  unfold World.cell?
  rw [h]
  match j, hj2 with
  | 0, _ => rfl
  | 1, _ => rfl
def letters : List UInt8 := [117, 115, 112, 99, 109, 98, 118, 113]
theorem kinds_none {c : UInt8} (h : ∀ k, k < 8 → c ≠ letters.getD k 0) : kindsOf c = [] := by
  have h0 : c ≠ 117 := h 0 (by omega)
  have h1 : c ≠ 115 := h 1 (by omega)
  have h2 : c ≠ 112 := h 2 (by omega)
  have h3 : c ≠ 99 := h 3 (by omega)
  have h4 : c ≠ 109 := h 4 (by omega)
  have h5 : c ≠ 98 := h 5 (by omega)
  have h6 : c ≠ 118 := h 6 (by omega)
  have h7 : c ≠ 113 := h 7 (by omega)
  unfold kindsOf
  rw [if_neg h0, if_neg h1, if_neg h2, if_neg h3, if_neg h4, if_neg h5, if_neg h6, if_neg h7]
theorem u8_eq {c k : UInt8} : ((k.toNat : Int) == (c.toNat : Int)) = decide (c = k) := by
  by_cases h : c = k
  · subst h; simp
  · rw [decide_eq_false h, beq_eq_false_iff_ne]
    intro e
    exact h (UInt8.toNat_inj.1 (by omega))

/-- The world in which all lists of kinds are made. -/
def ints1 (k : Int) : Obj := .cells #[.int .i64 k] 3
def ints2 (k m : Int) : Obj := .cells #[.int .i64 k, .int .i64 m] 3
def rows (n : Nat) : Obj := .cells #[.slice (some ⟨n, 0, none⟩) 2 2, .slice (some ⟨n + 1, 0, none⟩) 1 1, .slice (some ⟨n + 1 + 1, 0, none⟩) 1 1, .slice (some ⟨n + 1 + 1 + 1, 0, none⟩) 1 1, .slice (some ⟨n + 1 + 1 + 1 + 1, 0, none⟩) 1 1, .slice (some ⟨n + 1 + 1 + 1 + 1 + 1, 0, none⟩) 1 1, .slice (some ⟨n + 1 + 1 + 1 + 1 + 1 + 1, 0, none⟩) 1 1, .slice (some ⟨n + 1 + 1 + 1 + 1 + 1 + 1 + 1, 0, none⟩) 2 2] 27
def kw (w : World) : World := ((((((((w.alloc (ints2 1 2)).alloc (ints1 3)).alloc (ints1 6)).alloc (ints1 4)).alloc (ints1 1)).alloc (ints1 5)).alloc (ints1 7)).alloc (ints2 1 6)).alloc (rows w.heap.size)
theorem kw_below (w : World) : Below w.heap.size w (kw w) := by
  unfold kw
  refine (((((((((Below.refl _ w).alloc (Nat.le_refl _) _).alloc ?_ _).alloc ?_ _).alloc ?_ _).alloc ?_ _).alloc ?_ _).alloc ?_ _).alloc ?_ _).alloc ?_ _
  all_goals simp only [World.size_alloc]; omega
theorem kw_at (w : World) : (kw w).heap[w.heap.size]? = some (ints2 1 2) ∧ (kw w).heap[w.heap.size + 1]? = some (ints1 3) ∧ (kw w).heap[w.heap.size + 1 + 1]? = some (ints1 6) ∧ (kw w).heap[w.heap.size + 1 + 1 + 1]? = some (ints1 4) ∧
    (kw w).heap[w.heap.size + 1 + 1 + 1 + 1]? = some (ints1 1) ∧ (kw w).heap[w.heap.size + 1 + 1 + 1 + 1 + 1]? = some (ints1 5) ∧ (kw w).heap[w.heap.size + 1 + 1 + 1 + 1 + 1 + 1]? = some (ints1 7) ∧ (kw w).heap[w.heap.size + 1 + 1 + 1 + 1 + 1 + 1 + 1]? = some (ints2 1 6) ∧
    (kw w).heap[w.heap.size + 1 + 1 + 1 + 1 + 1 + 1 + 1 + 1]? = some (rows w.heap.size) := by
  unfold kw
  refine ⟨?_, ?_, ?_, ?_, ?_, ?_, ?_, ?_, ?_⟩
  all_goals simp only [World.alloc, Array.getElem?_push, Array.size_push]
  all_goals repeat (first | rw [if_pos trivial] | rw [if_neg (by omega)])

set_option maxRecDepth 100000 in
set_option maxHeartbeats 4000000 in
theorem refKinds_any (c : UInt8) (w : World) : Calls Tryd.prog 85 #[.int .u8 (c.toNat : Int)] w (KindsPost c w) := by
  go_enter Tryd.func85, Tryd.ntmps85
  have HB := Lib.hid (kw_below w)
  obtain ⟨k0, k1, k2, k3, k4, k5, k6, k7, k8⟩ := kw_at w
  have H0 := Lib.hid (kat_two k0)
  have H1 := Lib.hid (kat_one k1)
  have H2 := Lib.hid (kat_one k2)
  have H3 := Lib.hid (kat_one k3)
  have H4 := Lib.hid (kat_one k4)
  have H5 := Lib.hid (kat_one k5)
  have H6 := Lib.hid (kat_one k6)
  have H7 := Lib.hid (kat_two k7)
  have HR : ∀ j, j < 8 → ∃ x, (kw w).cell? ⟨w.heap.size + 1 + 1 + 1 + 1 + 1 + 1 + 1 + 1, j, none⟩ = some x := by
    intro j hj
    unfold World.cell?
    rw [k8]
    unfold rows
    rcases (by omega : j = 0 ∨ j = 1 ∨ j = 2 ∨ j = 3 ∨ j = 4 ∨ j = 5 ∨ j = 6 ∨ j = 7) with rfl | rfl | rfl | rfl | rfl | rfl | rfl | rfl <;> exact ⟨_, rfl⟩
  have r0 : (kw w).cell? ⟨w.heap.size + 1 + 1 + 1 + 1 + 1 + 1 + 1 + 1, 0, none⟩ = some (.slice (some ⟨w.heap.size, 0, none⟩) 2 2) := by unfold World.cell?; rw [k8]; rfl
  have r1 : (kw w).cell? ⟨w.heap.size + 1 + 1 + 1 + 1 + 1 + 1 + 1 + 1, 1, none⟩ = some (.slice (some ⟨w.heap.size + 1, 0, none⟩) 1 1) := by unfold World.cell?; rw [k8]; rfl
  have r2 : (kw w).cell? ⟨w.heap.size + 1 + 1 + 1 + 1 + 1 + 1 + 1 + 1, 2, none⟩ = some (.slice (some ⟨w.heap.size + 1 + 1, 0, none⟩) 1 1) := by unfold World.cell?; rw [k8]; rfl
  have r3 : (kw w).cell? ⟨w.heap.size + 1 + 1 + 1 + 1 + 1 + 1 + 1 + 1, 3, none⟩ = some (.slice (some ⟨w.heap.size + 1 + 1 + 1, 0, none⟩) 1 1) := by unfold World.cell?; rw [k8]; rfl
  have r4 : (kw w).cell? ⟨w.heap.size + 1 + 1 + 1 + 1 + 1 + 1 + 1 + 1, 4, none⟩ = some (.slice (some ⟨w.heap.size + 1 + 1 + 1 + 1, 0, none⟩) 1 1) := by unfold World.cell?; rw [k8]; rfl
  have r5 : (kw w).cell? ⟨w.heap.size + 1 + 1 + 1 + 1 + 1 + 1 + 1 + 1, 5, none⟩ = some (.slice (some ⟨w.heap.size + 1 + 1 + 1 + 1 + 1, 0, none⟩) 1 1) := by unfold World.cell?; rw [k8]; rfl
  have r6 : (kw w).cell? ⟨w.heap.size + 1 + 1 + 1 + 1 + 1 + 1 + 1 + 1, 6, none⟩ = some (.slice (some ⟨w.heap.size + 1 + 1 + 1 + 1 + 1 + 1, 0, none⟩) 1 1) := by unfold World.cell?; rw [k8]; rfl
  have r7 : (kw w).cell? ⟨w.heap.size + 1 + 1 + 1 + 1 + 1 + 1 + 1 + 1, 7, none⟩ = some (.slice (some ⟨w.heap.size + 1 + 1 + 1 + 1 + 1 + 1 + 1, 0, none⟩) 2 2) := by unfold World.cell?; rw [k8]; rfl
  clear k0 k1 k2 k3 k4 k5 k6 k7 k8 HR
  obtain ⟨n8, hn8⟩ : ∃ n8, n8 = w.heap.size + 1 + 1 + 1 + 1 + 1 + 1 + 1 + 1 := ⟨_, rfl⟩
  obtain ⟨W1, hW1⟩ : ∃ W1, W1 = kw w := ⟨_, rfl⟩
  rw [← hn8, ← hW1] at r0 r1 r2 r3 r4 r5 r6 r7
  rw [← hW1] at HB H0 H1 H2 H3 H4 H5 H6 H7
  unfold kw ints1 ints2 rows at hW1
  go_wp2_with fail
  rw [← hW1, ← hn8]
  clear hW1 hn8
  have HNx : ∀ j, c ≠ letters.getD j 0 → Hid (∀ k, k < j → c ≠ letters.getD k 0) → Hid (∀ k, k < j + 1 → c ≠ letters.getD k 0) := fun j h1 h2 => Lib.hid (fun k hk => by
    rcases Nat.lt_or_ge k j with h3 | h3
    · exact h2.out k h3
    · obtain rfl : k = j := by omega
      exact h1)
  unfold KindsPost
  go_loop [5] (fun i => ∃ j : Nat, j ≤ 8 ∧ i = .int .i64 (j : Int) ∧ Hid (∀ k, k < j → c ≠ letters.getD k 0)) (fun i => 8 - (intOf i).toNat)
  case atStart => exact ⟨0, Nat.zero_le _, rfl, Lib.hid (fun k hk => absurd hk (Nat.not_lt_zero k))⟩
  case round =>
    obtain ⟨j, hj, rfl, HO⟩ := hrel
    rcases (by omega : j = 0 ∨ j = 1 ∨ j = 2 ∨ j = 3 ∨ j = 4 ∨ j = 5 ∨ j = 6 ∨ j = 7 ∨ j = 8) with rfl | rfl | rfl | rfl | rfl | rfl | rfl | rfl | rfl
    · by_cases hc : c = 117
      · subst hc
        go_wp2
        exact bodyPost_ret (v := .slice (some ⟨w.heap.size, 0, none⟩) 2 2) (by simp [results, Tryd.results85, go_sem]) rfl ⟨_, rfl, H0.out, HB.out⟩
      · have hb : ((((⟨#[117, 115, 112, 99, 109, 98, 118, 113]⟩ : ByteArray)[0]'(by decide)).toNat : Int) == (c.toNat : Int)) = false := (u8_eq (c := c) (k := 117)).trans (decide_eq_false hc)
        have HE := HNx 0 hc HO
        clear hc
        go_wp2
        exact ⟨⟨1, by omega, rfl, HE⟩, by simp [intOf]⟩
    · by_cases hc : c = 115
      · subst hc
        go_wp2
        exact bodyPost_ret (v := .slice (some ⟨w.heap.size + 1, 0, none⟩) 1 1) (by simp [results, Tryd.results85, go_sem]) rfl ⟨_, rfl, H1.out, HB.out⟩
      · have hb : ((((⟨#[117, 115, 112, 99, 109, 98, 118, 113]⟩ : ByteArray)[1]'(by decide)).toNat : Int) == (c.toNat : Int)) = false := (u8_eq (c := c) (k := 115)).trans (decide_eq_false hc)
        have HE := HNx 1 hc HO
        clear hc
        go_wp2
        exact ⟨⟨2, by omega, rfl, HE⟩, by simp [intOf]⟩
    · by_cases hc : c = 112
      · subst hc
        go_wp2
        exact bodyPost_ret (v := .slice (some ⟨w.heap.size + 1 + 1, 0, none⟩) 1 1) (by simp [results, Tryd.results85, go_sem]) rfl ⟨_, rfl, H2.out, HB.out⟩
      · have hb : ((((⟨#[117, 115, 112, 99, 109, 98, 118, 113]⟩ : ByteArray)[2]'(by decide)).toNat : Int) == (c.toNat : Int)) = false := (u8_eq (c := c) (k := 112)).trans (decide_eq_false hc)
        have HE := HNx 2 hc HO
        clear hc
        go_wp2
        exact ⟨⟨3, by omega, rfl, HE⟩, by simp [intOf]⟩
    · by_cases hc : c = 99
      · subst hc
        go_wp2
        exact bodyPost_ret (v := .slice (some ⟨w.heap.size + 1 + 1 + 1, 0, none⟩) 1 1) (by simp [results, Tryd.results85, go_sem]) rfl ⟨_, rfl, H3.out, HB.out⟩
      · have hb : ((((⟨#[117, 115, 112, 99, 109, 98, 118, 113]⟩ : ByteArray)[3]'(by decide)).toNat : Int) == (c.toNat : Int)) = false := (u8_eq (c := c) (k := 99)).trans (decide_eq_false hc)
        have HE := HNx 3 hc HO
        clear hc
        go_wp2
        exact ⟨⟨4, by omega, rfl, HE⟩, by simp [intOf]⟩
    · by_cases hc : c = 109
      · subst hc
        go_wp2
        exact bodyPost_ret (v := .slice (some ⟨w.heap.size + 1 + 1 + 1 + 1, 0, none⟩) 1 1) (by simp [results, Tryd.results85, go_sem]) rfl ⟨_, rfl, H4.out, HB.out⟩
      · have hb : ((((⟨#[117, 115, 112, 99, 109, 98, 118, 113]⟩ : ByteArray)[4]'(by decide)).toNat : Int) == (c.toNat : Int)) = false := (u8_eq (c := c) (k := 109)).trans (decide_eq_false hc)
        have HE := HNx 4 hc HO
        clear hc
        go_wp2
        exact ⟨⟨5, by omega, rfl, HE⟩, by simp [intOf]⟩
    · by_cases hc : c = 98
      · subst hc
        go_wp2
        exact bodyPost_ret (v := .slice (some ⟨w.heap.size + 1 + 1 + 1 + 1 + 1, 0, none⟩) 1 1) (by simp [results, Tryd.results85, go_sem]) rfl ⟨_, rfl, H5.out, HB.out⟩
      · have hb : ((((⟨#[117, 115, 112, 99, 109, 98, 118, 113]⟩ : ByteArray)[5]'(by decide)).toNat : Int) == (c.toNat : Int)) = false := (u8_eq (c := c) (k := 98)).trans (decide_eq_false hc)
        have HE := HNx 5 hc HO
        clear hc
        go_wp2
        exact ⟨⟨6, by omega, rfl, HE⟩, by simp [intOf]⟩
    · by_cases hc : c = 118
      · subst hc
        go_wp2
        exact bodyPost_ret (v := .slice (some ⟨w.heap.size + 1 + 1 + 1 + 1 + 1 + 1, 0, none⟩) 1 1) (by simp [results, Tryd.results85, go_sem]) rfl ⟨_, rfl, H6.out, HB.out⟩
      · have hb : ((((⟨#[117, 115, 112, 99, 109, 98, 118, 113]⟩ : ByteArray)[6]'(by decide)).toNat : Int) == (c.toNat : Int)) = false := (u8_eq (c := c) (k := 118)).trans (decide_eq_false hc)
        have HE := HNx 6 hc HO
        clear hc
        go_wp2
        exact ⟨⟨7, by omega, rfl, HE⟩, by simp [intOf]⟩
    · by_cases hc : c = 113
      · subst hc
        go_wp2
        exact bodyPost_ret (v := .slice (some ⟨w.heap.size + 1 + 1 + 1 + 1 + 1 + 1 + 1, 0, none⟩) 2 2) (by simp [results, Tryd.results85, go_sem]) rfl ⟨_, rfl, H7.out, HB.out⟩
      · have hb : ((((⟨#[117, 115, 112, 99, 109, 98, 118, 113]⟩ : ByteArray)[7]'(by decide)).toNat : Int) == (c.toNat : Int)) = false := (u8_eq (c := c) (k := 113)).trans (decide_eq_false hc)
        have HE := HNx 7 hc HO
        clear hc
        go_wp2
        exact ⟨⟨8, by omega, rfl, HE⟩, by simp [intOf]⟩
    · have HE := Lib.hid (kinds_none HO.out)
      clear HNx
      go_wp2
      exact bodyPost_ret (v := .slice none 0 0) (by simp [results, Tryd.results85, go_sem]) rfl ⟨none, by rw [HE.out]; rfl, by rw [HE.out]; exact fun j hj => absurd hj (Nat.not_lt_zero j), HB.out⟩
end Go.Proofs.YtjbcmedljgafkaaDoor.objs

/-
  The document's own answer whether an object is of a kind that a letter stands for, and the names of kinds. No condition.
-/

namespace Go.Proofs.YtjbcmedljgafkaaDoor.objs
open Go.RowKit Go.ChangeShapes
open Go.Proofs.YtjbcmedljgafkaaDoor.word (Word)
set_option linter.unusedVariables false

theorem contains_at {ks : List Int} {x : Int} {j : Nat} (hj : j < ks.length) (h : ks.getD j 0 = x) : ks.contains x = true := by
  rw [List.contains_iff_mem]
  rw [List.getD_eq_getElem?_getD, List.getElem?_eq_getElem hj, Option.getD_some] at h
  rw [← h]
  exact List.getElem_mem hj
theorem contains_no {ks : List Int} {x : Int} (h : ∀ k, k < ks.length → ks.getD k 0 ≠ x) : ks.contains x = false := by
  cases hc : ks.contains x with
  | false => rfl
  | true =>
    rw [List.contains_iff_mem] at hc
    obtain ⟨k, hk, e⟩ := List.getElem_of_mem hc
    exact absurd (by rw [List.getD_eq_getElem?_getD, List.getElem?_eq_getElem hk, Option.getD_some]; exact e) (h k hk)
theorem KAt.next {w w' : World} {A : Option Addr} {ks : List Int} (h : KAt w A ks) (hb : Below w.heap.size w w') : KAt w' A ks := fun j hj => by
  obtain ⟨b, h1, h2⟩ := h j hj
  refine ⟨b, h1, ?_⟩
  have hlt : b < w.heap.size := by
    rcases Nat.lt_or_ge b w.heap.size with h3 | h3
    · exact h3
    · simp [World.cell?, Array.getElem?_eq_none h3] at h2
  exact (hb.cell (p := ⟨b, j, none⟩) hlt).trans h2
theorem KAt.drewN {w : World} {A : Option Addr} {ks : List Int} (h : KAt w A ks) (n : Nat) : KAt (w.drewN n) A ks := fun j hj => by
  obtain ⟨b, h1, h2⟩ := h j hj
  exact ⟨b, h1, by simpa using h2⟩
theorem kinds_le (c : UInt8) : (kindsOf c).length ≤ 2 := by
  unfold kindsOf
  split
  · decide
  · split
    · decide
    · split
      · decide
      · split
        · decide
        · split
          · decide
          · split
            · decide
            · split
              · decide
              · split <;> decide
theorem below_drewN {B : Nat} {a w : World} (h : Below B a w) : ∀ n, Below B a (w.drewN n)
  | 0 => h
  | n + 1 => (below_drewN h n).drew

set_option maxRecDepth 100000 in
set_option maxHeartbeats 4000000 in
theorem refFits_in (A : Option Addr) (cap : Nat) (l : List De) (c : UInt8) (m : Nat) (hm : m < l.length) (hl : l.length ≤ 9223372036854775807) (w : World) (hA : DAt w A l) :
    Calls Tryd.prog 76 #[.slice A l.length cap, .int .u8 (c.toNat : Int), .int .i64 (m : Int)] w fun e w' => e = .returned (.bool (fits l c m)) ∧ Below w.heap.size w w' := by
  have HK := Lib.hid (refKinds_any c w)
  have HF : Hid (fits l c m = (kindsOf c).contains (l.getD m zero).1) := Lib.hid (by unfold fits; rw [decide_eq_true (by omega), Bool.true_and, Int.toNat_natCast])
  obtain ⟨b, off, rfl, hb, c0, _, _⟩ := hA m hm
  have h2 := kinds_le c
  rw [HF.out]
  unfold KindsPost at HK
  clear hA HF
  generalize kindsOf c = ks at *
  generalize (l.getD m zero).1 = x at *
  go_enter Tryd.func76, Tryd.ntmps76
  go_wp2_with fail
  refine HK.out.mono ?_
  rintro e w1 ⟨B, rfl, hk, hb1⟩
  have hc1 : w1.cell? ⟨b, off + m * 3, none⟩ = some (.int .i64 x) := (hb1.cell (p := ⟨b, off + m * 3, none⟩) hb).trans c0
  have HK1 := Lib.hid hk
  have HB1 := Lib.hid hb1
  clear HK hk hb1 c0
  have hm' : (m : Int) < (l.length : Int) := by omega
  have hm0 : (0 : Int) ≤ (m : Int) := by omega
  go_wp2_with fail
  go_loopw [8] (fun i wr => ∃ j : Nat, j ≤ ks.length ∧ i = .int .i64 (j : Int) ∧ Hid (∀ k, k < j → ks.getD k 0 ≠ x) ∧ Hid (KAt wr B ks ∧ Below w.heap.size w wr) ∧ wr.cell? ⟨b, off + m * 3, none⟩ = some (.int .i64 x)) (fun i _ => ks.length - (intOf i).toNat)
  case atStart => exact ⟨0, Nat.zero_le _, rfl, Lib.hid (fun k hk => absurd hk (Nat.not_lt_zero k)), Lib.hid ⟨HK1.out, HB1.out⟩, hc1⟩
  case round =>
    obtain ⟨j, hj, rfl, HO, HS, hc⟩ := hrel
    clear hc1
    by_cases hlt : j < ks.length
    · obtain ⟨g, rfl, hg⟩ := HS.out.1 j hlt
      have hlt' : (j : Int) < (ks.length : Int) := by omega
      by_cases hx : ks.getD j 0 = x
      · have HE := Lib.hid (contains_at hlt hx)
        rw [hx] at hg
        clear hx
        go_wp2_with fail
        go_quiet (fail)
        go_wp2
        go_ret
        exact ⟨ret_bool HE.out.symm, below_drewN HS.out.2 _⟩
      · have HE : Hid (∀ k, k < j + 1 → ks.getD k 0 ≠ x) := Lib.hid (fun k hk => by
          rcases Nat.lt_or_ge k j with h1 | h1
          · exact HO.out k h1
          · obtain rfl : k = j := by omega
            exact hx)
        have hx' : (x == ks.getD j 0) = false := by rw [beq_eq_false_iff_ne]; exact fun e => hx e.symm
        clear hx
        generalize ks.getD j 0 = y at *
        go_wp2_with fail
        go_quiet (fail)
        go_wp2
        go_roundw
        case rel => exact ⟨j + 1, by omega, by go_num, HE, Lib.hid ⟨HS.out.1.drewN _, below_drewN HS.out.2 _⟩, by simpa using hc⟩
        case measure => simp [intOf]; omega
    · obtain rfl : j = ks.length := by omega
      have HE := Lib.hid (contains_no HO.out)
      go_wp2_with fail
      go_ret
      exact ⟨ret_bool HE.out.symm, HS.out.2⟩

set_option maxRecDepth 100000 in
set_option maxHeartbeats 4000000 in
theorem refFits_out (A : Option Addr) (cap : Nat) (l : List De) (c : UInt8) (o : Int) (ho : o < 0 ∨ (l.length : Int) ≤ o) (hl : l.length ≤ 9223372036854775807) (w : World) :
    Calls Tryd.prog 76 #[.slice A l.length cap, .int .u8 (c.toNat : Int), .int .i64 o] w fun e w' => e = .returned (.bool (fits l c o)) ∧ Below w.heap.size w w' := by
  have HK := Lib.hid (refKinds_any c w)
  have HF : Hid (fits l c o = false) := Lib.hid (by unfold fits; rw [decide_eq_false (by omega), Bool.false_and])
  have h2 := kinds_le c
  rw [HF.out]
  unfold KindsPost at HK
  clear HF
  generalize kindsOf c = ks at *
  have hd : (0 ≤ o) → ¬ (o < (l.length : Int)) := fun h => by omega
  have HD := Lib.hid hd
  clear hd ho
  go_enter Tryd.func76, Tryd.ntmps76
  go_wp2_with fail
  refine HK.out.mono ?_
  rintro e w1 ⟨B, rfl, hk, hb1⟩
  have HB1 := Lib.hid hb1
  clear HK hk hb1
  go_wp2_with fail
  go_loopw [8] (fun i wr => i = .int .i64 0 ∧ Hid (Below w.heap.size w wr)) (fun i _ => 0)
  case atStart => exact ⟨rfl, HB1⟩
  case round =>
    obtain ⟨rfl, HB⟩ := hrel
    by_cases hk : ks.length = 0
    · go_wp2_with fail
      go_ret
      exact ⟨rfl, HB.out⟩
    · have hk' : (0 : Int) < (ks.length : Int) := by omega
      by_cases h0 : 0 ≤ o
      · have h1 : decide (o < (l.length : Int)) = false := by simpa using HD.out h0
        clear hk
        go_wp2_with fail
        go_ret
        exact ⟨rfl, HB.out⟩
      · have h1 : decide (0 ≤ o) = false := by simpa using h0
        clear hk
        go_wp2_with fail
        go_ret
        exact ⟨rfl, HB.out⟩
theorem refFits_any (A : Option Addr) (cap : Nat) (l : List De) (c : UInt8) (o : Int) (hl : l.length ≤ 9223372036854775807) (w : World) (hA : DAt w A l) :
    Calls Tryd.prog 76 #[.slice A l.length cap, .int .u8 (c.toNat : Int), .int .i64 o] w fun e w' => e = .returned (.bool (fits l c o)) ∧ Below w.heap.size w w' := by
  by_cases h : 0 ≤ o ∧ o < (l.length : Int)
  · obtain ⟨m, rfl⟩ : ∃ m : Nat, o = (m : Int) := ⟨o.toNat, by omega⟩
    exact refFits_in A cap l c m (by omega) hl w hA
  · exact refFits_out A cap l c o (by omega) hl w
end Go.Proofs.YtjbcmedljgafkaaDoor.objs
