/-
  The document's own answer of a set that is moved. No condition.
-/
import Derived.Test.YthpkndiegnhnbaaDoorBRefList
namespace Go.Proofs.YthpkndiegnhnbaaDoor.bits
open Go.RowKit Go.ChangeShapes

/-- Of the first j numbers of a set, moved. -/
def upPre (s k j : Nat) : Nat := ofs (((els s).take j).map fun n => (n + k) % 64)
theorem upPre_lt (s k j : Nat) : Is64 (upPre s k j) := ofs_lt fun n hn => by
  obtain ⟨m, _, rfl⟩ := List.mem_map.1 hn
  omega
theorem upPre_succ {s k j x : Nat} (hx : (els s)[j]? = some x) : upPre s k (j + 1) = wth (upPre s k j) (((x + k) % 64 : Nat) : Int) := by
  unfold upPre
  rw [List.take_add_one, hx]
  show ofs (((els s).take j ++ [x]).map _) = _
  rw [List.map_append]
  unfold ofs wth
  rw [List.foldl_append, if_pos (by unfold may; omega)]
  rfl
theorem upPre_end {s k j : Nat} (h : (els s).length ≤ j) : upPre s k j = up s k := by
  unfold upPre up
  rw [List.take_of_length_le h]

theorem rem_neg {n : Int} (h : n.tmod 64 < 0) : n.tmod 64 + 64 = ((n % 64).toNat : Int) := by
  have h1 : n < 0 := by
    rcases (show n < 0 ∨ 0 ≤ n by omega) with h2 | h2
    · exact h2
    · rw [Int.tmod_eq_emod_of_nonneg h2] at h
      omega
  have h3 : (-n).tmod 64 = -(n.tmod 64) := Int.neg_tmod _ _
  rw [Int.tmod_eq_emod_of_nonneg (by omega)] at h3
  omega
theorem rem_pos {n : Int} (h : ¬ n.tmod 64 < 0) : n.tmod 64 = ((n % 64).toNat : Int) := by
  rcases (show n < 0 ∨ 0 ≤ n by omega) with h2 | h2
  · have h3 : (-n).tmod 64 = -(n.tmod 64) := Int.neg_tmod _ _
    rw [Int.tmod_eq_emod_of_nonneg (by omega)] at h3
    omega
  · rw [Int.tmod_eq_emod_of_nonneg h2]
    omega
theorem rem_range (n : Int) : -64 ≤ n.tmod 64 ∧ n.tmod 64 < 64 := by
  by_cases h : n.tmod 64 < 0
  · have := rem_neg h
    omega
  · have := rem_pos h
    omega

set_option maxHeartbeats 1000000 in
theorem refUp_any (s : Nat) (hs : Is64 s) (n : Int) (w : World) :
    Calls Tryd.prog 27 #[.int .u64 (s : Int), .int .i64 n] w fun e w' => e = .returned (.int .u64 ((up s (n % 64).toNat : Nat) : Int)) ∧ Below w.heap.size w w' := by
  have hr := rem_range n
  have hk : (n % 64).toNat < 64 := by omega
  by_cases hneg : n.tmod 64 < 0
  · have HK := Lib.hid (rem_neg hneg)
    generalize (n % 64).toNat = k at *
    go_enter Tryd.func27, Tryd.ntmps27
    go_wp2_with fail
    refine (refList_any s hs _).mono ?_
    rintro e w1 ⟨g, cap, rfl, hl, hb, _⟩
    rw [HK.out]
    have HL := Lib.hid hl
    have HB := Lib.hid hb
    clear hl hb HK hneg hr
    have hlen := els_length_le s
    have HZ : Hid (upPre s k 0 = 0) := Lib.hid rfl
    generalize hN : (els s).length = N at *
    have HN := Lib.hid hN
    clear hN
    go_wp2
    go_loop [7, 8] (fun o i => ∃ j : Nat, j ≤ N ∧ i = .int .i64 (j : Int) ∧ o = .int .u64 ((upPre s k j : Nat) : Int)) (fun _ i => N - (intOf i).toNat)
    case atStart => exact ⟨0, Nat.zero_le _, rfl, by rw [HZ.out]; rfl⟩
    case round =>
      obtain ⟨j, hj, rfl, rfl⟩ := hrel
      have hp := upPre_lt s k j
      by_cases hlt : j < N
      · obtain ⟨x, hx⟩ : ∃ x : Nat, (els s)[j]? = some x := ⟨_, List.getElem?_eq_getElem (by rw [HN.out]; exact hlt)⟩
        have hc := HL.out.cell hx
        have hx64 := els_get_lt hx
        have HS := Lib.hid (upPre_succ (k := k) hx)
        clear hx
        generalize upPre s k j = y at *
        go_wp2_with fail
        refine (refWith_any y hp _ _).mono ?_
        rintro e w2 ⟨rfl, rfl⟩
        go_wp2
        go_round
        case rel => exact ⟨j + 1, by omega, by go_num, by rw [HS.out]; rfl⟩
        case measure => simp [intOf]; omega
      · obtain rfl : j = N := by omega
        have HS := Lib.hid (upPre_end (s := s) (k := k) (j := j) (by rw [HN.out]; exact Nat.le_refl _))
        go_wp2
        go_ret
        exact ⟨ret_int (by rw [HS.out]), HB.out⟩
  · have HK := Lib.hid (rem_pos hneg)
    generalize (n % 64).toNat = k at *
    go_enter Tryd.func27, Tryd.ntmps27
    go_wp2_with fail
    refine (refList_any s hs _).mono ?_
    rintro e w1 ⟨g, cap, rfl, hl, hb, _⟩
    rw [HK.out]
    have HL := Lib.hid hl
    have HB := Lib.hid hb
    clear hl hb HK hneg hr
    have hlen := els_length_le s
    have HZ : Hid (upPre s k 0 = 0) := Lib.hid rfl
    generalize hN : (els s).length = N at *
    have HN := Lib.hid hN
    clear hN
    go_wp2
    go_loop [7, 8] (fun o i => ∃ j : Nat, j ≤ N ∧ i = .int .i64 (j : Int) ∧ o = .int .u64 ((upPre s k j : Nat) : Int)) (fun _ i => N - (intOf i).toNat)
    case atStart => exact ⟨0, Nat.zero_le _, rfl, by rw [HZ.out]; rfl⟩
    case round =>
      obtain ⟨j, hj, rfl, rfl⟩ := hrel
      have hp := upPre_lt s k j
      by_cases hlt : j < N
      · obtain ⟨x, hx⟩ : ∃ x : Nat, (els s)[j]? = some x := ⟨_, List.getElem?_eq_getElem (by rw [HN.out]; exact hlt)⟩
        have hc := HL.out.cell hx
        have hx64 := els_get_lt hx
        have HS := Lib.hid (upPre_succ (k := k) hx)
        clear hx
        generalize upPre s k j = y at *
        go_wp2_with fail
        refine (refWith_any y hp _ _).mono ?_
        rintro e w2 ⟨rfl, rfl⟩
        go_wp2
        go_round
        case rel => exact ⟨j + 1, by omega, by go_num, by rw [HS.out]; rfl⟩
        case measure => simp [intOf]; omega
      · obtain rfl : j = N := by omega
        have HS := Lib.hid (upPre_end (s := s) (k := k) (j := j) (by rw [HN.out]; exact Nat.le_refl _))
        go_wp2
        go_ret
        exact ⟨ret_int (by rw [HS.out]), HB.out⟩
end Go.Proofs.YthpkndiegnhnbaaDoor.bits
