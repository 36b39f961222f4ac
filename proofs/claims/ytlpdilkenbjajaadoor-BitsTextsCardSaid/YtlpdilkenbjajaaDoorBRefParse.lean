/-
  The document's reading of a set's text. A text of at most a million bytes.
-/
import Derived.Test.YtlpdilkenbjajaaDoorBRefText
namespace Go.Proofs.YtlpdilkenbjajaaDoor.bits
open Go.RowKit Go.ChangeShapes

/-- How great the number so far may be, by how many digits it has. -/
def Few (n m : Nat) : Prop := m ≤ 3 ∧ n ≤ 999 ∧ (m ≤ 2 → n ≤ 99) ∧ (m ≤ 1 → n ≤ 9) ∧ (m = 0 → n = 0)
theorem ins64_wth (s n : Nat) : ins64 s n = wth s (n : Int) := by
  unfold ins64 wth
  by_cases h : n < 64
  · rw [if_pos h, if_pos (by unfold may; omega)]
    rfl
  · rw [if_neg h, if_neg (by unfold may; omega)]
theorem loose_step {l : List UInt8} {k : Nat} (h : k < l.length) (s n m : Nat) :
    loose (l.drop k) s n m = if (48 ≤ (l[k]).toNat ∧ (l[k]).toNat ≤ 57) ∧ m < 3 then loose (l.drop (k + 1)) s (10 * n + ((l[k]).toNat - 48)) (m + 1) else loose (l.drop (k + 1)) (if 0 < m then ins64 s n else s) 0 0 := by
  rw [List.drop_eq_getElem_cons h, loose]
theorem loose_last {l : List UInt8} {k : Nat} (h : l.length ≤ k) (s n m : Nat) : loose (l.drop k) s n m = if 0 < m then ins64 s n else s := by
  rw [List.drop_of_length_le h, loose]

set_option maxHeartbeats 4000000 in
theorem refParse_any (t : ByteArray) (ht : t.size ≤ 1048576) (w : World) :
    Calls Tryd.prog 5 #[.string t] w fun e w' => e = .returned (.tuple #[.int .u64 (((strict t.data.toList).1 : Nat) : Int), .bool (strict t.data.toList).2]) ∧ Below w.heap.size w w' := by
  have htl : t.data.toList.length = t.size := by rw [Array.length_toList]; rfl
  obtain ⟨L, hL⟩ : ∃ L, loose t.data.toList 0 0 0 = L := ⟨_, rfl⟩
  have hL64 : Is64 L := by rw [← hL]; exact loose_lt _ _ _ _ (by unfold Is64; omega)
  have HST : Hid (strict t.data.toList = if text L = t.data.toList then (L, true) else (0, false)) := Lib.hid (by unfold strict; rw [hL])
  have HL0 : Hid ((0 ≤ t.size ∧ loose (t.data.toList.drop 0) 0 0 0 = L) ∨ (0 = t.size + 1 ∧ 0 = L)) := Lib.hid (.inl ⟨by omega, hL⟩)
  have HTL := Lib.hid htl
  clear hL htl
  go_enter Tryd.func5, Tryd.ntmps5
  go_wp2
  go_loop [4, 5, 6, 7] (fun sv nv mv iv => ∃ (y n m k : Nat), sv = .int .u64 (y : Int) ∧ nv = .int .i64 (n : Int) ∧ mv = .int .i64 (m : Int) ∧ iv = .int .i64 (k : Int) ∧ Is64 y ∧ Hid (Few n m) ∧ k ≤ t.size + 1 ∧
    Hid ((k ≤ t.size ∧ loose (t.data.toList.drop k) y n m = L) ∨ (k = t.size + 1 ∧ y = L))) (fun _ _ _ iv => t.size + 1 - (intOf iv).toNat)
  case atStart => exact ⟨0, 0, 0, 0, rfl, rfl, rfl, rfl, by unfold Is64; omega, Lib.hid (by unfold Few; omega), by omega, HL0⟩
  case round =>
    obtain ⟨y, n, m, k, rfl, rfl, rfl, rfl, hy, HF, hk, HR⟩ := hrel
    by_cases hle : k ≤ t.size
    · have HRr : Hid (loose (t.data.toList.drop k) y n m = L) := Lib.hid (by
        rcases HR.out with ⟨_, h⟩ | ⟨h, _⟩
        · exact h
        · omega)
      have hf := HF.out
      unfold Few at hf
      have hm3 : m ≤ 3 := hf.1
      have hn9 : n ≤ 999 := hf.2.1
      clear HR hf
      by_cases hlt : k < t.size
      · have hkl : k < t.data.toList.length := by rw [HTL.out]; exact hlt
        have hc := loose_step hkl y n m
        have hce : t.data.toList[k] = t[k]'hlt := rfl
        rw [hce] at hc
        have h256 := (t[k]'hlt).toNat_lt
        have HST2 := Lib.hid hc
        clear hc hce hkl
        by_cases h48 : 48 ≤ (t[k]'hlt).toNat
        · have g48 : (48 : Int) ≤ ((t[k]'hlt).toNat : Int) := by omega
          by_cases h57 : (t[k]'hlt).toNat ≤ 57
          · have g57 : ((t[k]'hlt).toNat : Int) ≤ 57 := by omega
            by_cases hm : m < 3
            · have HN : Hid (loose (t.data.toList.drop (k + 1)) y (10 * n + ((t[k]'hlt).toNat - 48)) (m + 1) = L) := Lib.hid (by rw [← HRr.out, HST2.out, if_pos ⟨⟨h48, h57⟩, hm⟩])
              have HFN : Hid (Few (10 * n + ((t[k]'hlt).toNat - 48)) (m + 1)) := Lib.hid (by
                have h := HF.out
                unfold Few at h ⊢
                omega)
              go_wp2
              go_round
              case rel => exact ⟨y, _, m + 1, k + 1, rfl, by congr 1; omega, by go_num, by go_num, hy, HFN, by omega, Lib.hid (.inl ⟨by omega, HN.out⟩)⟩
              case measure => simp [intOf]; omega
            · have hno : ¬ ((48 ≤ (t[k]'hlt).toNat ∧ (t[k]'hlt).toNat ≤ 57) ∧ m < 3) := by omega
              have hdm : decide ((m : Int) < 3) = false := by simp; omega
              have HN : Hid (loose (t.data.toList.drop (k + 1)) (if 0 < m then ins64 y n else y) 0 0 = L) := Lib.hid (by rw [← HRr.out, HST2.out, if_neg hno])
              clear hno
              by_cases hm0 : 0 < m
              · have HN1 : Hid (loose (t.data.toList.drop (k + 1)) (wth y (n : Int)) 0 0 = L) := Lib.hid (by rw [← HN.out, if_pos hm0, ins64_wth])
                have hw := wth_lt hy (n : Int)
                clear HN
                go_wp2_with fail
                refine (refWith_any y hy _ _).mono ?_
                rintro e w1 ⟨rfl, rfl⟩
                go_wp2
                go_round
                case rel => exact ⟨_, 0, 0, k + 1, rfl, rfl, rfl, by go_num, hw, Lib.hid (by unfold Few; omega), by omega, Lib.hid (.inl ⟨by omega, HN1.out⟩)⟩
                case measure => simp [intOf]; omega
              · omega
          · have hno : ¬ ((48 ≤ (t[k]'hlt).toNat ∧ (t[k]'hlt).toNat ≤ 57) ∧ m < 3) := by omega
            have hdm : decide (((t[k]'hlt).toNat : Int) ≤ 57) = false := by simp; omega
            have HN : Hid (loose (t.data.toList.drop (k + 1)) (if 0 < m then ins64 y n else y) 0 0 = L) := Lib.hid (by rw [← HRr.out, HST2.out, if_neg hno])
            clear hno
            by_cases hm0 : 0 < m
            · have HN1 : Hid (loose (t.data.toList.drop (k + 1)) (wth y (n : Int)) 0 0 = L) := Lib.hid (by rw [← HN.out, if_pos hm0, ins64_wth])
              have hw := wth_lt hy (n : Int)
              clear HN
              go_wp2_with fail
              refine (refWith_any y hy _ _).mono ?_
              rintro e w1 ⟨rfl, rfl⟩
              go_wp2
              go_round
              case rel => exact ⟨_, 0, 0, k + 1, rfl, rfl, rfl, by go_num, hw, Lib.hid (by unfold Few; omega), by omega, Lib.hid (.inl ⟨by omega, HN1.out⟩)⟩
              case measure => simp [intOf]; omega
            · obtain rfl : m = 0 := by omega
              have HN1 : Hid (loose (t.data.toList.drop (k + 1)) y 0 0 = L) := Lib.hid (by rw [← HN.out, if_neg hm0])
              clear HN
              go_wp2
              go_round
              case rel => exact ⟨y, 0, 0, k + 1, rfl, rfl, rfl, by go_num, hy, Lib.hid (by unfold Few; omega), by omega, Lib.hid (.inl ⟨by omega, HN1.out⟩)⟩
              case measure => simp [intOf]; omega
        · have hno : ¬ ((48 ≤ (t[k]'hlt).toNat ∧ (t[k]'hlt).toNat ≤ 57) ∧ m < 3) := by omega
          have hdm : decide ((48 : Int) ≤ ((t[k]'hlt).toNat : Int)) = false := by simp; omega
          have HN : Hid (loose (t.data.toList.drop (k + 1)) (if 0 < m then ins64 y n else y) 0 0 = L) := Lib.hid (by rw [← HRr.out, HST2.out, if_neg hno])
          clear hno
          by_cases hm0 : 0 < m
          · have HN1 : Hid (loose (t.data.toList.drop (k + 1)) (wth y (n : Int)) 0 0 = L) := Lib.hid (by rw [← HN.out, if_pos hm0, ins64_wth])
            have hw := wth_lt hy (n : Int)
            clear HN
            go_wp2_with fail
            refine (refWith_any y hy _ _).mono ?_
            rintro e w1 ⟨rfl, rfl⟩
            go_wp2
            go_round
            case rel => exact ⟨_, 0, 0, k + 1, rfl, rfl, rfl, by go_num, hw, Lib.hid (by unfold Few; omega), by omega, Lib.hid (.inl ⟨by omega, HN1.out⟩)⟩
            case measure => simp [intOf]; omega
          · obtain rfl : m = 0 := by omega
            have HN1 : Hid (loose (t.data.toList.drop (k + 1)) y 0 0 = L) := Lib.hid (by rw [← HN.out, if_neg hm0])
            clear HN
            go_wp2
            go_round
            case rel => exact ⟨y, 0, 0, k + 1, rfl, rfl, rfl, by go_num, hy, Lib.hid (by unfold Few; omega), by omega, Lib.hid (.inl ⟨by omega, HN1.out⟩)⟩
            case measure => simp [intOf]; omega
      · obtain rfl : k = t.size := by omega
        have HN := HRr.out
        rw [loose_last (by rw [HTL.out]; exact Nat.le_refl _)] at HN
        by_cases hm0 : 0 < m
        · have HN1 : Hid (wth y (n : Int) = L) := Lib.hid (by rw [← HN, if_pos hm0, ins64_wth])
          have hw := wth_lt hy (n : Int)
          clear HN
          go_wp2_with fail
          refine (refWith_any y hy _ _).mono ?_
          rintro e w1 ⟨rfl, rfl⟩
          go_wp2
          go_round
          case rel => exact ⟨_, 0, 0, t.size + 1, rfl, rfl, rfl, by go_num, hw, Lib.hid (by unfold Few; omega), by omega, Lib.hid (.inr ⟨rfl, HN1.out⟩)⟩
          case measure => simp [intOf]
        · obtain rfl : m = 0 := by omega
          have HN1 : Hid (y = L) := Lib.hid (by rw [← HN, if_neg hm0])
          clear HN
          go_wp2
          go_round
          case rel => exact ⟨y, 0, 0, t.size + 1, rfl, rfl, rfl, by go_num, hy, Lib.hid (by unfold Few; omega), by omega, Lib.hid (.inr ⟨rfl, HN1.out⟩)⟩
          case measure => simp [intOf]
    · obtain rfl : k = t.size + 1 := by omega
      have HRe : Hid (y = L) := Lib.hid (by
        rcases HR.out with ⟨h, _⟩ | ⟨_, h⟩
        · omega
        · exact h)
      obtain rfl := HRe.out
      clear HR HRe HF
      have HTX := fun u => Lib.hid (refText_any y hy u)
      by_cases he : text y = t.data.toList
      · have HS : Hid (strict t.data.toList = (y, true)) := Lib.hid (by rw [HST.out, if_pos he])
        have hq : (text y == t.toList) = true := by rw [ByteArray.toList_eq, beq_iff_eq, he]
        have HQ := Lib.hid hq
        clear he hq
        go_wp2_with fail
        refine (HTX _).out.mono ?_
        rintro e w1 ⟨rfl, hb1⟩
        have hq := HQ.out
        go_wp2
        go_ret2
        exact ⟨by rw [HS.out]; rfl, hb1⟩
      · have HS : Hid (strict t.data.toList = (0, false)) := Lib.hid (by rw [HST.out, if_neg he])
        have hq : (text y == t.toList) = false := by rw [ByteArray.toList_eq, beq_eq_false_iff_ne]; exact he
        have HQ := Lib.hid hq
        clear he hq
        go_wp2_with fail
        refine (HTX _).out.mono ?_
        rintro e w1 ⟨rfl, hb1⟩
        have hq := HQ.out
        go_wp2
        go_ret2
        exact ⟨by rw [HS.out]; rfl, hb1⟩
end Go.Proofs.YtlpdilkenbjajaaDoor.bits
