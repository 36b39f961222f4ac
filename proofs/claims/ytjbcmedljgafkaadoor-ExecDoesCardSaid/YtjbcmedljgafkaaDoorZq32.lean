/-
  Texts of one claim in one file: ERefCheck. Each has its own sentence, with its conditions.
-/
import Derived.Test.YtjbcmedljgafkaaDoorZq31
/-
  The document's own answer what is wrong with a wait: also of one that is longer than may be. No condition but that its lengths are ints.
-/

namespace Go.Proofs.YtjbcmedljgafkaaDoor.need
open Go.RowKit Go.ChangeShapes
open Go.Proofs.YtjbcmedljgafkaaDoor.objs (De zero CellsAt DAt below_drewN)
set_option linter.unusedVariables false

theorem clashTo_yes {l : List De} {k j : Nat} (hj : j < k) (h : clash (l.getD j zero) (l.getD k zero) = true) : ∀ m, j < m → clashTo l k m = true := by
  intro m
  induction m with
  | zero => intro h; omega
  | succ m ih =>
    intro hm
    unfold clashTo
    rcases Nat.lt_or_ge j m with h1 | h1
    · rw [ih h1, Bool.true_or]
    · obtain rfl : m = j := by omega
      rw [h, Bool.or_true]
theorem twiceTo_yes {l : List De} {k : Nat} (h : clashTo l k k = true) : ∀ m, k < m → twiceTo l m = true := by
  intro m
  induction m with
  | zero => intro h; omega
  | succ m ih =>
    intro hm
    unfold twiceTo
    rcases Nat.lt_or_ge k m with h1 | h1
    · rw [ih h1, Bool.true_or]
    · obtain rfl : m = k := by omega
      rw [h, Bool.or_true]
theorem chkWay_2 {d l : List De} (h : l.length = 0) : chkWay d l = 2 := by unfold chkWay; rw [if_pos h]
theorem chkWay_4 {d l : List De} (h : 4 < l.length) : chkWay d l = 4 := by unfold chkWay; rw [if_neg (by omega), if_pos h]
theorem chkWay_bad {d l : List De} (h0 : l.length ≠ 0) (h4 : ¬ 4 < l.length) (h : ones d l ≠ 0) : chkWay d l = ones d l := by unfold chkWay; rw [if_neg h0, if_neg h4, if_pos h]
theorem chkWay_twice {d l : List De} (h0 : l.length ≠ 0) (h4 : ¬ 4 < l.length) (h1 : ones d l = 0) (h : twiceTo l l.length = true) : chkWay d l = 2 := by unfold chkWay; rw [if_neg h0, if_neg h4, if_neg (by omega), if_pos h]
theorem chkWay_fine {d l : List De} (h0 : l.length ≠ 0) (h4 : ¬ 4 < l.length) (h1 : ones d l = 0) (h : twiceTo l l.length = false) : chkWay d l = 0 := by unfold chkWay; rw [if_neg h0, if_neg h4, if_neg (by omega), if_neg (by rw [h]; decide)]

def ChkPost9 (c : Nat) (w : World) (e : Ending) (w' : World) : Prop := e = .returned (.int .i64 (c : Nat)) ∧ Below w.heap.size w w'
set_option maxHeartbeats 1000000 in
theorem refCheck9_2 (A B : Option Addr) (nd capd capw : Nat) (w : World) : Calls Tryd.prog 72 #[.slice A nd capd, .slice B 0 capw] w (ChkPost9 2 w) := by
  unfold ChkPost9
  go_enter Tryd.func72, Tryd.ntmps72
  go_wp2_with fail
  go_ret
  exact ⟨rfl, Below.refl _ _⟩
set_option maxHeartbeats 1000000 in
theorem refCheck9_4 (A B : Option Addr) (nd capd n capw : Nat) (hn : 4 < n) (w : World) : Calls Tryd.prog 72 #[.slice A nd capd, .slice B n capw] w (ChkPost9 4 w) := by
  unfold ChkPost9
  have h0 : ((n : Int) == 0) = false := by simp; omega
  have h4 : decide ((4 : Int) < (n : Int)) = true := by simp; omega
  clear hn
  go_enter Tryd.func72, Tryd.ntmps72
  go_wp2_with fail
  go_ret
  exact ⟨rfl, Below.refl _ _⟩

set_option maxRecDepth 100000 in
set_option maxHeartbeats 16000000 in
theorem refCheck9_any (A B : Option Addr) (capd n capw : Nat) (d : List De) (l : List (List De)) (hdl : d.length ≤ 9223372036854775807) (w : World) (hA : DAt w A d) (hB : WG w B n l) :
    Calls Tryd.prog 72 #[.slice A d.length capd, .slice B n capw] w (ChkPost9 (chkW d l) w) := by
  have hmin := hB.1
  by_cases h0 : n = 0
  · subst h0
    have e : chkW d l = 2 := by unfold chkW; rw [if_pos (by omega)]
    rw [e]
    exact refCheck9_2 A B d.length capd capw w
  · by_cases h4 : 4 < n
    · have e : chkW d l = 4 := by unfold chkW; rw [if_neg (by omega), if_pos (by omega)]
      rw [e]
      exact refCheck9_4 A B d.length capd n capw h4 w
    · obtain rfl : n = l.length := by omega
      obtain ⟨v, hv⟩ : ∃ v, v = chkW d l := ⟨_, rfl⟩
      have HV : Hid (v = ways d l) := Lib.hid (by rw [hv]; unfold chkW; rw [if_neg h0, if_neg h4])
      rw [← hv]
      unfold ChkPost9
      have hb0 : ((l.length : Int) == 0) = false := by simp; intro h; exact h0 (by rw [h]; rfl)
      have hb4 : decide ((4 : Int) < (l.length : Int)) = false := by simp; omega
      have HA := Lib.hid hA
      have HB := Lib.hid hB
      have HL4 := Lib.hid h4
      clear hA hB hv hmin h0 h4
      go_enter Tryd.func72, Tryd.ntmps72
      go_wp2_with fail
      go_loopw [5] (fun i wr => ∃ j : Nat, j ≤ l.length ∧ i = .int .i64 (j : Int) ∧ Hid (v = ways d (l.drop j)) ∧ Hid (Below w.heap.size w wr)) (fun i _ => l.length - (intOf i).toNat)
      case atStart => exact ⟨0, Nat.zero_le _, rfl, by simpa using HV, Lib.hid (Below.refl _ _)⟩
      case round =>
        obtain ⟨j, hj, rfl, HJ, HW⟩ := hrel
        by_cases hlt : j < l.length
        · have HNx := Lib.hid (ways_drop (d := d) hlt)
          obtain ⟨b, off, Aj, nj, cj, rfl, hbl, hc, hdj, hmj, _, _, _⟩ := (HB.out.next HW.out).2 j hlt
          have HD0 := Lib.hid ((HB.out).2 j hlt)
          have hlt' : (j : Int) < (l.length : Int) := by omega
          have hj0 : (0 : Int) ≤ (j : Int) := by omega
          generalize l.getD j [] = lj at *
          by_cases n0 : nj = 0
          · subst n0
            have HR : Hid (v = 2) := Lib.hid (by rw [HJ.out, HNx.out, chkWay_2 (by omega)]; rfl)
            clear hdj hmj
            go_wp2_with fail
            go_ret
            exact ⟨by rw [HR.out]; rfl, HW.out⟩
          · by_cases n4 : 4 < nj
            · have HR : Hid (v = 4) := Lib.hid (by rw [HJ.out, HNx.out, chkWay_4 (by omega)]; rfl)
              have q0 : ((nj : Int) == 0) = false := by simp; omega
              have q4 : decide ((4 : Int) < (nj : Int)) = true := by simp; omega
              clear hdj hmj n0 n4
              go_wp2_with fail
              go_ret
              exact ⟨by rw [HR.out]; rfl, HW.out⟩
            · obtain rfl : nj = lj.length := by omega
              have q0 : ((lj.length : Int) == 0) = false := by simp; intro h; exact n0 (by rw [h]; rfl)
              have q4 : decide ((4 : Int) < (lj.length : Int)) = false := by simp; omega
              have HDj := Lib.hid hdj
              have HN := Lib.hid (And.intro n0 n4)
              clear hdj hmj n0 n4
              go_wp2_with fail
              go_loopw [7] (fun i wr => ∃ k : Nat, k ≤ lj.length ∧ i = .int .i64 (k : Int) ∧ Hid (ones d lj = ones d (lj.drop k)) ∧ Hid (Below w.heap.size w wr) ∧ Hid (DAt wr Aj lj)) (fun i _ => lj.length - (intOf i).toNat)
              case atStart => exact ⟨0, Nat.zero_le _, rfl, Lib.hid (by simp), HW, HDj⟩
              case round =>
                obtain ⟨k, hk, rfl, HK, HW2, HD2⟩ := hrel
                by_cases hlk : k < lj.length
                · have HNk := Lib.hid (ones_drop (d := d) hlk)
                  obtain ⟨bj, offj, rfl, hblj, c0, c1, c2⟩ := HD2.out k hlk
                  have hlk' : (k : Int) < (lj.length : Int) := by omega
                  have hk0 : (0 : Int) ≤ (k : Int) := by omega
                  have HO := Lib.hid (refOne9_any A capd d (lj.getD k zero) hdl wr (HA.out.next HW2.out))
                  unfold OnePost9 at HO
                  generalize lj.getD k zero = t at *
                  generalize oneN d t = q at *
                  obtain ⟨tk, tob, tn⟩ := t
                  dsimp only at HO c0 c1 c2
                  go_wp2_with fail
                  refine HO.out.mono ?_
                  rintro e w3 ⟨rfl, hb3⟩
                  have HW3 := Lib.hid (HW2.out.trans (hb3.mono HW2.out.size))
                  have HD3 := Lib.hid (HD2.out.next hb3)
                  clear hb3 c0 c1 c2 HO
                  by_cases hq : q = 0
                  · have HE : Hid (ones d lj = ones d (lj.drop (k + 1))) := Lib.hid (by rw [HK.out, HNk.out, if_neg (by simp [hq])])
                    have hq' : ((q : Int) != 0) = false := by simp [hq]
                    clear hq
                    go_wp2
                    go_roundw
                    case rel => exact ⟨k + 1, by omega, by go_num, HE, HW3, HD3⟩
                    case measure => simp [intOf]; omega
                  · have HE : Hid (ones d lj = q) := Lib.hid (by rw [HK.out, HNk.out, if_pos hq])
                    have HR : Hid (v = q) := Lib.hid (by
                      have h1 : chkWay d lj = q := by rw [chkWay_bad HN.out.1 HN.out.2 (by rw [HE.out]; exact hq), HE.out]
                      rw [HJ.out, HNx.out, h1, if_pos hq])
                    have hq' : ((q : Int) != 0) = true := by simpa using hq
                    clear hq
                    go_wp2
                    go_ret
                    exact ⟨by rw [HR.out]; rfl, HW3.out⟩
                · obtain rfl : k = lj.length := by omega
                  have H1 : Hid (ones d lj = 0) := Lib.hid (by rw [HK.out, List.drop_length]; rfl)
                  go_wp2_with fail
                  go_loopw [9] (fun i wr => ∃ k : Nat, k ≤ lj.length ∧ i = .int .i64 (k : Int) ∧ Hid (twiceTo lj k = false) ∧ Hid (Below w.heap.size w wr) ∧ Hid (DAt wr Aj lj)) (fun i _ => lj.length - (intOf i).toNat)
                  case atStart => exact ⟨0, Nat.zero_le _, rfl, Lib.hid rfl, HW2, HD2⟩
                  case round =>
                    obtain ⟨k, hk3, rfl, HT, HW3, HD3⟩ := hrel
                    by_cases hlk : k < lj.length
                    · have hlk' : (k : Int) < (lj.length : Int) := by omega
                      have hk0 : (0 : Int) ≤ (k : Int) := by omega
                      go_wp2_with fail
                      go_loopw [10] (fun i wr => ∃ jj : Nat, jj ≤ k ∧ i = .int .i64 (jj : Int) ∧ Hid (clashTo lj k jj = false) ∧ Hid (Below w.heap.size w wr) ∧ Hid (DAt wr Aj lj)) (fun i _ => k - (intOf i).toNat)
                      case atStart => exact ⟨0, Nat.zero_le _, rfl, Lib.hid rfl, HW3, HD3⟩
                      case round =>
                        obtain ⟨jj, hjj, rfl, HCl, HWc, HDc⟩ := hrel
                        by_cases hlj : jj < k
                        · have hlj' : (jj : Int) < (k : Int) := by omega
                          have hjj0 : (0 : Int) ≤ (jj : Int) := by omega
                          have hjl' : (jj : Int) < (lj.length : Int) := by omega
                          obtain ⟨bj, offj, rfl, hblj, x0, x1, x2⟩ := HDc.out jj (by omega)
                          obtain ⟨b2, off2, hAe, hbl2, y0, y1, y2⟩ := HDc.out k hlk
                          injection hAe with hAe
                          injection hAe with hAe1 hAe2
                          subst hAe1 hAe2
                          generalize hta : lj.getD jj zero = ta at *
                          generalize htb : lj.getD k zero = tb at *
                          obtain ⟨ak, ao, an⟩ := ta
                          obtain ⟨bk, bo, bn⟩ := tb
                          dsimp only at x0 x1 x2 y0 y1 y2
                          cases e1 : (ao == bo) with
                          | true =>
                            have HC : Hid (clash (ak, ao, an) (bk, bo, bn) = true) := Lib.hid (by unfold clash; dsimp only; rw [e1, Bool.true_or])
                            have HR : Hid (v = 2) := Lib.hid (by
                              have h1 : twiceTo lj lj.length = true := twiceTo_yes (clashTo_yes hlj (by rw [hta, htb]; exact HC.out) k hlj) lj.length hlk
                              rw [HJ.out, HNx.out, chkWay_twice HN.out.1 HN.out.2 H1.out h1]
                              rfl)
                            clear hta htb HC
                            go_wp2_with fail
                            go_quiet (fail)
                            go_wp2
                            go_ret
                            exact ⟨by rw [HR.out]; rfl, below_drewN HWc.out _⟩
                          | false =>
                            cases e2 : (ak == 4) with
                            | true =>
                              have HC : Hid (clash (ak, ao, an) (bk, bo, bn) = true) := Lib.hid (by unfold clash; dsimp only; rw [e1, e2, Bool.true_or, Bool.or_true])
                              have HR : Hid (v = 2) := Lib.hid (by
                                have h1 : twiceTo lj lj.length = true := twiceTo_yes (clashTo_yes hlj (by rw [hta, htb]; exact HC.out) k hlj) lj.length hlk
                                rw [HJ.out, HNx.out, chkWay_twice HN.out.1 HN.out.2 H1.out h1]
                                rfl)
                              clear hta htb HC
                              go_wp2_with fail
                              go_quiet (fail)
                              go_wp2
                              go_ret
                              exact ⟨by rw [HR.out]; rfl, below_drewN HWc.out _⟩
                            | false =>
                              cases e3 : (bk == 4) with
                              | true =>
                                have HC : Hid (clash (ak, ao, an) (bk, bo, bn) = true) := Lib.hid (by unfold clash; dsimp only; rw [e1, e2, e3, Bool.false_or, Bool.false_or])
                                have HR : Hid (v = 2) := Lib.hid (by
                                  have h1 : twiceTo lj lj.length = true := twiceTo_yes (clashTo_yes hlj (by rw [hta, htb]; exact HC.out) k hlj) lj.length hlk
                                  rw [HJ.out, HNx.out, chkWay_twice HN.out.1 HN.out.2 H1.out h1]
                                  rfl)
                                clear hta htb HC
                                go_wp2_with fail
                                go_quiet (fail)
                                go_wp2
                                go_ret
                                exact ⟨by rw [HR.out]; rfl, below_drewN HWc.out _⟩
                              | false =>
                                have HC : Hid (clashTo lj k (jj + 1) = false) := Lib.hid (by
                                  unfold clashTo
                                  rw [HCl.out, hta, htb]
                                  unfold clash
                                  dsimp only
                                  rw [e1, e2, e3]
                                  rfl)
                                clear hta htb
                                go_wp2_with fail
                                go_quiet (fail)
                                go_wp2
                                go_roundw
                                case rel => exact ⟨jj + 1, by omega, by go_num, HC, Lib.hid (below_drewN HWc.out _), Lib.hid (HDc.out.drewN _)⟩
                                case measure => simp [intOf]; omega
                        · obtain rfl : jj = k := by omega
                          have HT2 : Hid (twiceTo lj (jj + 1) = false) := Lib.hid (by unfold twiceTo; rw [HT.out, HCl.out]; rfl)
                          go_wp2_with fail
                          go_roundw
                          case rel => exact ⟨jj + 1, by omega, by go_num, HT2, HWc, HDc⟩
                          case measure => simp [intOf]; omega
                    · obtain rfl : k = lj.length := by omega
                      have HE : Hid (v = ways d (l.drop (j + 1))) := Lib.hid (by rw [HJ.out, HNx.out, chkWay_fine HN.out.1 HN.out.2 H1.out HT.out]; rfl)
                      have hl4 := HL4.out
                      go_wp2_with fail
                      go_roundw
                      case rel => exact ⟨j + 1, by omega, by go_num, HE, HW3⟩
                      case measure => simp [intOf]; omega
        · obtain rfl : j = l.length := by omega
          have HR : Hid (v = 0) := Lib.hid (by rw [HJ.out, List.drop_length]; rfl)
          go_wp2_with fail
          go_ret
          exact ⟨by rw [HR.out]; rfl, HW.out⟩
end Go.Proofs.YtjbcmedljgafkaaDoor.need
