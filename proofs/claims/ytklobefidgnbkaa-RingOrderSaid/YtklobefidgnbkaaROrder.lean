/-
  The walk of RingOrder: what is put behind comes from the front in its order, and from behind in the other one. No condition.
-/
import Derived.Test.YtklobefidgnbkaaRLives
namespace Go.Proofs.Ytklobefidgnbkaa.ring
open Go.RowKit

/-- The new row of a room, and what lay ahead of it. -/
structure OInv (w : World) (room : Nat) (wr : World) (bi : Nat) (l : List Int) : Prop where
  lies : Lies wr w.heap.size bi room l
  own : w.heap.size ≤ bi
  below : Below w.heap.size w wr
theorem OInv.step {w wr w1 : World} {room bi bi' : Nat} {l l' : List Int} (h : OInv w room wr bi l) (h1 : Lies w1 w.heap.size bi' room l') (h2 : Frm w.heap.size bi wr w1) (h3 : bi' = bi ∨ bi' = wr.heap.size) : OInv w room w1 bi' l' :=
  ⟨h1, by have := h.own; have := h.below.size; omega, h.below.trans (h2.below (Nat.le_refl _) h.own h.below.size)⟩
theorem OInv.drewN {w wr : World} {room bi : Nat} {l : List Int} (h : OInv w room wr bi l) (m : Nat) : OInv w room (wr.drewN m) bi l := ⟨h.lies.drewN m, h.own, below_drewN h.below m⟩

/-- The cells of a list that came in. -/
def CellsAt (w : World) (a : Option Addr) (l : List Int) : Prop := ∀ i, i < l.length → ∃ b off, a = some ⟨b, off, none⟩ ∧ b < w.heap.size ∧ ∀ j, j < l.length → w.cell? ⟨b, off + j, none⟩ = some (.int .i64 (l.getD j 0))

/-- What stands in the row behind j rounds. -/
def rest (l : List Int) (back : Bool) (j : Nat) : List Int := if back then l.take (l.length - j) else l.drop j
theorem rest_end (l : List Int) (back : Bool) : rest l back l.length = [] := by cases back <;> simp [rest]
theorem rest_start (l : List Int) (back : Bool) : rest l back 0 = l := by cases back <;> simp [rest]
theorem rest_front {l : List Int} {j : Nat} (h : j < l.length) : rest l false j = l.getD j 0 :: rest l false (j + 1) := by
  show l.drop j = l.getD j 0 :: l.drop (j + 1)
  rw [List.drop_eq_getElem_cons h]
  simp [List.getD, h]
theorem rest_back {l : List Int} {j q : Nat} (h : j < l.length) (hq : l.length - 1 - j = q) : rest l true j = rest l true (j + 1) ++ [l.getD q 0] := by
  show l.take (l.length - j) = l.take (l.length - (j + 1)) ++ [l.getD q 0]
  rw [show l.length - j = q + 1 by omega, show l.length - (j + 1) = q by omega, List.take_succ_eq_append_getElem (by omega)]
  simp [List.getD, show q < l.length by omega]
theorem rest_length (l : List Int) (back : Bool) (j : Nat) : (rest l back j).length ≤ l.length := by cases back <;> simp [rest] <;> omega
theorem take_snoc {l : List Int} {j : Nat} (h : j < l.length) : l.take (j + 1) = l.take j ++ [l.getD j 0] := by
  rw [List.take_succ_eq_append_getElem h]
  simp [List.getD, h]
theorem clamp_nat {n : Nat} (h : n ≤ 4096) : clamp (n : Int) = n := by unfold clamp; omega

def Head (w : World) (room : Nat) (top : Nat) (f : Nat → List Int) (i : Value) (wr : World) : Prop := ∃ j bi : Nat, i = .int .i64 (j : Int) ∧ j ≤ top ∧ OInv w room wr bi (f j)

set_option maxHeartbeats 2000000 in
set_option maxRecDepth 100000 in
theorem order_few (a : Option Addr) (k cap : Nat) (l : List Int) (hl : l.length = k) (hk : k ≤ 40) (n : Nat) (hn : n ≤ 255) (back : Bool) (w : World) (hc : CellsAt w a l) :
    Calls Try.prog 4 #[.slice a k cap, .int .u8 (n : Int), .bool back] w fun e w' => e = .returned (.bool true) ∧ Below w.heap.size w w' := by
  have hroom : clamp ((k : Int) + 1) = k + 1 := by have := clamp_nat (n := k + 1) (by omega); simpa using this
  have HC := Lib.hid hc
  clear hc
  go_enter Try.func4, Try.ntmps4
  go_wp2_with fail
  refine (new_any _ _).mono ?_
  rintro e w1 ⟨rfl, h1, b1⟩
  rw [hroom] at h1
  have O1 : OInv w (k + 1) w1 w.heap.size [] := ⟨h1, Nat.le_refl _, b1⟩
  have HO := Lib.hid O1
  clear O1 h1 b1 hroom
  go_wp2_with fail
  go_loopw [8] (Head w (k + 1) n (fun _ => [])) (fun i _ => n - (intOf i).toNat)
  case atStart => exact ⟨0, _, rfl, Nat.zero_le _, HO.out⟩
  case round =>
    obtain ⟨j, bi, rfl, hj, hO⟩ := hrel
    by_cases hlt : j < n
    · have c1 := back_any wr _ _ _ _ (j : Int) hO.lies (by simp)
      have HO := Lib.hid hO
      clear hO
      go_wp2_with fail
      refine c1.mono ?_
      rintro e w2 ⟨rfl, b2, h2, f2, e2⟩
      have hO2 := HO.out.step h2 f2 e2
      have c2 := popFront_any w2 _ _ _ [] (j : Int) hO2.lies
      have HO2 := Lib.hid hO2
      clear c1 h2 f2 e2 hO2
      go_wp2_with fail
      refine c2.mono ?_
      rintro e w3 ⟨rfl, h3, f3⟩
      have HO3 := Lib.hid (HO2.out.step h3 f3 (.inl rfl))
      clear c2 h3 f3 HO2
      go_wp2_with fail
      exact ⟨⟨j + 1, b2, by go_num, by omega, HO3.out⟩, by simp [intOf]; omega⟩
    · have HO1 := Lib.hid hO
      clear hO HO
      go_wp2_with fail
      go_loopw [12] (Head w (k + 1) k (fun j => l.take j)) (fun i _ => k - (intOf i).toNat)
      case atStart => exact ⟨0, _, rfl, Nat.zero_le _, HO1.out⟩
      case round =>
        obtain ⟨j2, bi2, rfl, hj2, hO⟩ := hrel
        by_cases hlt2 : j2 < k
        · obtain ⟨b, off, rfl, hb, hcell⟩ := HC.out j2 (by omega)
          have hcl := (hO.below.cell (p := ⟨b, off + j2, none⟩) hb).trans (hcell j2 (by omega))
          have HT := Lib.hid (take_snoc (l := l) (j := j2) (by omega))
          generalize l.getD j2 0 = x at *
          have c1 := back_any wr _ _ _ _ x hO.lies (by rw [List.length_take]; omega)
          have HO := Lib.hid hO
          clear hO hcell
          have hi1 : (0 : Int) ≤ (j2 : Int) := by omega
          have hi2 : (j2 : Int) < (k : Int) := by omega
          go_wp2_with fail
          refine c1.mono ?_
          rintro e w2 ⟨rfl, b2, h2, f2, e2⟩
          rw [← HT.out] at h2
          have HO2 := Lib.hid (HO.out.step h2 f2 e2)
          clear c1 h2 f2 e2
          go_wp2_with fail
          exact ⟨⟨j2 + 1, b2, by go_num, by omega, HO2.out⟩, by simp [intOf]; omega⟩
        · have hJ2 : l.take j2 = rest l back 0 := by rw [List.take_of_length_le (by omega), rest_start]
          have hO : OInv w (k + 1) wr bi2 (l.take j2) := hO
          rw [hJ2] at hO
          clear hJ2
          have HO2 := Lib.hid hO
          clear hO HO1
          go_wp2_with fail
          go_loopw [13] (Head w (k + 1) k (rest l back)) (fun i _ => k - (intOf i).toNat)
          case atStart => exact ⟨0, _, rfl, Nat.zero_le _, HO2.out⟩
          case round =>
            obtain ⟨j3, bi3, rfl, hj3, hO⟩ := hrel
            by_cases hlt3 : j3 < k
            · obtain ⟨b, off, rfl, hb, hcell⟩ := HC.out j3 (by omega)
              have hi1 : (0 : Int) ≤ (j3 : Int) := by omega
              have hi2 : (j3 : Int) < (k : Int) := by omega
              clear HO2
              cases back with
              | false =>
                have HR := Lib.hid (rest_front (l := l) (j := j3) (by omega))
                have HX := Lib.hid (hcell j3 (by omega))
                generalize l.getD j3 0 = x at *
                have hL := hO.lies
                rw [HR.out] at hL
                have c1 := popFront_any wr _ _ _ _ x hL
                have HO := Lib.hid hO
                clear hO hL hcell
                go_wp2_with fail
                refine c1.mono ?_
                rintro e w2 ⟨rfl, h2, f2⟩
                have hO2 := HO.out.step h2 f2 (.inl rfl)
                have hcl := (hO2.below.cell (p := ⟨b, off + j3, none⟩) hb).trans HX.out
                have HO2 := Lib.hid hO2
                clear c1 h2 f2 hO2 HO
                go_wp2_with fail
                exact ⟨⟨j3 + 1, _, by go_num, by omega, HO2.out⟩, by simp [intOf]; omega⟩
              | true =>
                obtain ⟨q, hq⟩ : ∃ q : Nat, l.length - 1 - j3 = q := ⟨_, rfl⟩
                have hqi : (k : Int) - 1 - (j3 : Int) = (q : Int) := by omega
                have hq1 : (0 : Int) ≤ (q : Int) := by omega
                have hq2 : (q : Int) < (k : Int) := by omega
                have HR := Lib.hid (rest_back (l := l) (j := j3) (by omega) hq)
                have HX := Lib.hid (hcell j3 (by omega))
                have HZ := Lib.hid (hcell q (by omega))
                have hlen := rest_length l true j3
                clear hq
                generalize l.getD j3 0 = x at *
                generalize l.getD q 0 = z at *
                have HO := Lib.hid hO
                have hL := hO.lies
                obtain ⟨y, r, hyr⟩ : ∃ y r, rest l true j3 = y :: r := by
                  rw [HR.out]
                  rcases rest l true (j3 + 1) with _ | ⟨y, r⟩
                  · exact ⟨z, [], rfl⟩
                  · exact ⟨y, r ++ [z], rfl⟩
                rw [hyr] at hL hlen
                rw [List.length_cons] at hlen
                have HY := Lib.hid hyr
                have c1 := popFront_any wr _ _ _ _ y hL
                clear hO hL hcell hyr
                go_wp2_with fail
                refine c1.mono ?_
                rintro e w2 ⟨rfl, h2, f2⟩
                have hO2 := HO.out.step h2 f2 (.inl rfl)
                have hcl := (hO2.below.cell (p := ⟨b, off + j3, none⟩) hb).trans HX.out
                have c2 := front_any w2 _ _ _ _ y h2 (by omega)
                have HO2 := Lib.hid hO2
                clear c1 h2 f2 hO2 HO
                go_wp2_with fail
                refine c2.mono ?_
                rintro e w3 ⟨rfl, b3, h3, f3, e3⟩
                have hO3 := HO2.out.step h3 f3 e3
                rw [← HY.out, HR.out] at h3
                have c3 := popBack_any w3 _ _ _ _ z h3
                have HO3 := Lib.hid hO3
                clear c2 h3 f3 e3 hO3 HO2 hcl
                go_wp2_with fail
                refine c3.mono ?_
                rintro e w4 ⟨rfl, h4, f4⟩
                have hO4 := HO3.out.step h4 f4 (.inl rfl)
                have hcl := (hO4.below.cell (p := ⟨b, off + q, none⟩) hb).trans HZ.out
                have HO4 := Lib.hid hO4
                clear c3 h4 f4 hO4 HO3
                go_wp2_with fail
                exact ⟨⟨j3 + 1, _, by go_num, by omega, HO4.out⟩, by simp [intOf]; omega⟩
            · have hJ : j3 = l.length := by omega
              rw [hJ, rest_end] at hO
              have c1 := len_lies wr _ _ _ _ hO.lies
              have HB := Lib.hid hO.below
              clear hO hJ HO2 HC
              go_wp2_with fail
              refine c1.mono ?_
              rintro e w' ⟨rfl, rfl⟩
              clear c1
              go_wp2_with fail
              refine (lives_any _).mono ?_
              rintro e w' ⟨rfl, hb⟩
              have HB2 := Lib.hid (HB.out.trans (hb.mono HB.out.size))
              clear hb
              go_wp2_with fail
              go_ret
              exact ⟨rfl, HB2.out⟩

set_option maxHeartbeats 2000000 in
set_option maxRecDepth 100000 in
theorem order_many (b off len cap : Nat) (l : List Int) (hl : l.length = 40) (hk : 40 < len) (hcap : len ≤ cap) (hmax : cap ≤ maxLen) (n : Nat) (hn : n ≤ 255) (back : Bool) (w : World) (hb : b < w.heap.size) (hc : ∀ j, j < l.length → w.cell? ⟨b, off + j, none⟩ = some (.int .i64 (l.getD j 0))) :
    Calls Try.prog 4 #[.slice (some ⟨b, off, none⟩) len cap, .int .u8 (n : Int), .bool back] w fun e w' => e = .returned (.bool true) ∧ Below w.heap.size w w' := by
  have hroom : clamp 41 = 41 := by decide
  have hmax2 : cap ≤ 9223372036854775807 := hmax
  have hx1 : (40 : Int) ≤ (cap : Int) := by omega
  have hx2 : (40 : Int) < (len : Int) := by omega
  have HC := Lib.hid hc
  clear hc
  go_enter Try.func4, Try.ntmps4
  go_wp2_with fail
  refine (new_any _ _).mono ?_
  rintro e w1 ⟨rfl, h1, b1⟩
  rw [hroom] at h1
  have O1 : OInv w (41) w1 w.heap.size [] := ⟨h1, Nat.le_refl _, b1⟩
  have HO := Lib.hid O1
  clear O1 h1 b1 hroom
  go_wp2_with fail
  go_loopw [8] (Head w (41) n (fun _ => [])) (fun i _ => n - (intOf i).toNat)
  case atStart => exact ⟨0, _, rfl, Nat.zero_le _, HO.out⟩
  case round =>
    obtain ⟨j, bi, rfl, hj, hO⟩ := hrel
    by_cases hlt : j < n
    · have c1 := back_any wr _ _ _ _ (j : Int) hO.lies (by simp)
      have HO := Lib.hid hO
      clear hO
      go_wp2_with fail
      refine c1.mono ?_
      rintro e w2 ⟨rfl, b2, h2, f2, e2⟩
      have hO2 := HO.out.step h2 f2 e2
      have c2 := popFront_any w2 _ _ _ [] (j : Int) hO2.lies
      have HO2 := Lib.hid hO2
      clear c1 h2 f2 e2 hO2
      go_wp2_with fail
      refine c2.mono ?_
      rintro e w3 ⟨rfl, h3, f3⟩
      have HO3 := Lib.hid (HO2.out.step h3 f3 (.inl rfl))
      clear c2 h3 f3 HO2
      go_wp2_with fail
      exact ⟨⟨j + 1, b2, by go_num, by omega, HO3.out⟩, by simp [intOf]; omega⟩
    · have HO1 := Lib.hid hO
      clear hO HO
      go_wp2_with fail
      go_loopw [12] (Head w (41) 40 (fun j => l.take j)) (fun i _ => 40 - (intOf i).toNat)
      case atStart => exact ⟨0, _, rfl, Nat.zero_le _, HO1.out⟩
      case round =>
        obtain ⟨j2, bi2, rfl, hj2, hO⟩ := hrel
        by_cases hlt2 : j2 < 40
        · have hcell := HC.out
          have hcl := (hO.below.cell (p := ⟨b, off + j2, none⟩) hb).trans (hcell j2 (by omega))
          have HT := Lib.hid (take_snoc (l := l) (j := j2) (by omega))
          generalize l.getD j2 0 = x at *
          have c1 := back_any wr _ _ _ _ x hO.lies (by rw [List.length_take]; omega)
          have HO := Lib.hid hO
          clear hO hcell
          have hi1 : (0 : Int) ≤ (j2 : Int) := by omega
          have hi2 : (j2 : Int) < (40 : Int) := by omega
          go_wp2_with fail
          refine c1.mono ?_
          rintro e w2 ⟨rfl, b2, h2, f2, e2⟩
          rw [← HT.out] at h2
          have HO2 := Lib.hid (HO.out.step h2 f2 e2)
          clear c1 h2 f2 e2
          go_wp2_with fail
          exact ⟨⟨j2 + 1, b2, by go_num, by omega, HO2.out⟩, by simp [intOf]; omega⟩
        · have hJ2 : l.take j2 = rest l back 0 := by rw [List.take_of_length_le (by omega), rest_start]
          have hO : OInv w (41) wr bi2 (l.take j2) := hO
          rw [hJ2] at hO
          clear hJ2
          have HO2 := Lib.hid hO
          clear hO HO1
          go_wp2_with fail
          go_loopw [13] (Head w (41) 40 (rest l back)) (fun i _ => 40 - (intOf i).toNat)
          case atStart => exact ⟨0, _, rfl, Nat.zero_le _, HO2.out⟩
          case round =>
            obtain ⟨j3, bi3, rfl, hj3, hO⟩ := hrel
            by_cases hlt3 : j3 < 40
            · have hcell := HC.out
              have hi1 : (0 : Int) ≤ (j3 : Int) := by omega
              have hi2 : (j3 : Int) < (40 : Int) := by omega
              clear HO2
              cases back with
              | false =>
                have HR := Lib.hid (rest_front (l := l) (j := j3) (by omega))
                have HX := Lib.hid (hcell j3 (by omega))
                generalize l.getD j3 0 = x at *
                have hL := hO.lies
                rw [HR.out] at hL
                have c1 := popFront_any wr _ _ _ _ x hL
                have HO := Lib.hid hO
                clear hO hL hcell
                go_wp2_with fail
                refine c1.mono ?_
                rintro e w2 ⟨rfl, h2, f2⟩
                have hO2 := HO.out.step h2 f2 (.inl rfl)
                have hcl := (hO2.below.cell (p := ⟨b, off + j3, none⟩) hb).trans HX.out
                have HO2 := Lib.hid hO2
                clear c1 h2 f2 hO2 HO
                go_wp2_with fail
                exact ⟨⟨j3 + 1, _, by go_num, by omega, HO2.out⟩, by simp [intOf]; omega⟩
              | true =>
                obtain ⟨q, hq⟩ : ∃ q : Nat, l.length - 1 - j3 = q := ⟨_, rfl⟩
                have hqi : (39 : Int) - (j3 : Int) = (q : Int) := by omega
                have hq1 : (0 : Int) ≤ (q : Int) := by omega
                have hq2 : (q : Int) < (40 : Int) := by omega
                have HR := Lib.hid (rest_back (l := l) (j := j3) (by omega) hq)
                have HX := Lib.hid (hcell j3 (by omega))
                have HZ := Lib.hid (hcell q (by omega))
                have hlen := rest_length l true j3
                clear hq
                generalize l.getD j3 0 = x at *
                generalize l.getD q 0 = z at *
                have HO := Lib.hid hO
                have hL := hO.lies
                obtain ⟨y, r, hyr⟩ : ∃ y r, rest l true j3 = y :: r := by
                  rw [HR.out]
                  rcases rest l true (j3 + 1) with _ | ⟨y, r⟩
                  · exact ⟨z, [], rfl⟩
                  · exact ⟨y, r ++ [z], rfl⟩
                rw [hyr] at hL hlen
                rw [List.length_cons] at hlen
                have HY := Lib.hid hyr
                have c1 := popFront_any wr _ _ _ _ y hL
                clear hO hL hcell hyr
                go_wp2_with fail
                refine c1.mono ?_
                rintro e w2 ⟨rfl, h2, f2⟩
                have hO2 := HO.out.step h2 f2 (.inl rfl)
                have hcl := (hO2.below.cell (p := ⟨b, off + j3, none⟩) hb).trans HX.out
                have c2 := front_any w2 _ _ _ _ y h2 (by omega)
                have HO2 := Lib.hid hO2
                clear c1 h2 f2 hO2 HO
                go_wp2_with fail
                refine c2.mono ?_
                rintro e w3 ⟨rfl, b3, h3, f3, e3⟩
                have hO3 := HO2.out.step h3 f3 e3
                rw [← HY.out, HR.out] at h3
                have c3 := popBack_any w3 _ _ _ _ z h3
                have HO3 := Lib.hid hO3
                clear c2 h3 f3 e3 hO3 HO2 hcl
                go_wp2_with fail
                refine c3.mono ?_
                rintro e w4 ⟨rfl, h4, f4⟩
                have hO4 := HO3.out.step h4 f4 (.inl rfl)
                have hcl := (hO4.below.cell (p := ⟨b, off + q, none⟩) hb).trans HZ.out
                have HO4 := Lib.hid hO4
                clear c3 h4 f4 hO4 HO3
                go_wp2_with fail
                exact ⟨⟨j3 + 1, _, by go_num, by omega, HO4.out⟩, by simp [intOf]; omega⟩
            · have hJ : j3 = l.length := by omega
              rw [hJ, rest_end] at hO
              have c1 := len_lies wr _ _ _ _ hO.lies
              have HB := Lib.hid hO.below
              clear hO hJ HO2 HC
              go_wp2_with fail
              refine c1.mono ?_
              rintro e w' ⟨rfl, rfl⟩
              clear c1
              go_wp2_with fail
              refine (lives_any _).mono ?_
              rintro e w' ⟨rfl, hb⟩
              have HB2 := Lib.hid (HB.out.trans (hb.mono HB.out.size))
              clear hb
              go_wp2_with fail
              go_ret
              exact ⟨rfl, HB2.out⟩
end Go.Proofs.Ytklobefidgnbkaa.ring
