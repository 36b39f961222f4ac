/-
  Texts of one claim in one file: DRefRead2. Each has its own sentence, with its conditions.
-/
import Derived.Test.YtahejekcfgkiaaaGreatDoorGall17
/-
  The document's own answer of the objects that are read behind what was read ahead, and of those with which bytes begin. A text of at most two to the forty-seventh bytes.
-/
namespace Go.Proofs.YtahejekcfgkiaaaGreatDoor.objs
open Go.RowKit Go.ChangeShapes
open Go.Proofs.YtahejekcfgkiaaaGreatDoor.octet (St rdByte rdNum rdInt Stands RefAt refByte_plain refInt_plain refNum_plain rdNum_lt)
set_option linter.unusedVariables false

def readR (n : Nat) (S : St) : List De × St × Nat :=
  let p := rdL S n
  if p.2.2 ≠ 0 then ([], p.2.1, p.2.2)
  else if (chk p.1).2 ≠ 0 then ([], p.2.1, (chk p.1).2)
  else (p.1, p.2.1, 0)
theorem rdL_stop {s : St} {j : Nat} {q : List De × St × Nat} (h : rdL s j = q) (hq : q.2.2 ≠ 0) : ∀ k, j ≤ k → rdL s k = q := by
  intro k hk
  induction k with
  | zero =>
    obtain rfl : j = 0 := by omega
    exact h
  | succ k ih =>
    rcases Nat.eq_or_lt_of_le hk with e | e
    · subst e; exact h
    · have := ih (by omega)
      simp only [rdL, this]
      rw [if_pos hq]
theorem rdByte_lt (s : St) : (rdByte s).1 < 256 := by
  unfold rdByte
  split
  · omega
  · split
    · omega
    · exact UInt8.toNat_lt _

set_option maxRecDepth 100000 in
set_option maxHeartbeats 16000000 in
theorem refRead8_any (w : World) (t : ByteArray) (k err : Nat) (s : St) (ht : t.size ≤ 140737489403904) (hst : Stands t k err s) :
    Calls Tryz.prog 35 #[.agg #[.string t, .int .i64 (k : Int), .int .i64 (err : Int)]] w (ReadPost8 t (readL s) w) := by
  have HN := fun W => Lib.hid (refNum8_any W t k err s ht hst)
  unfold NumPost at HN
  have HZ : Hid (readL s = (if (rdN s).2.err ≠ 0 then ([], (rdN s).2, (rdN s).2.err) else if 32 < (rdN s).1 then ([], (rdN s).2, 4) else readR (rdN s).1.toNat (rdN s).2)) := Lib.hid rfl
  have hn0 : 0 ≤ (rdN s).1 := by unfold rdN; dsimp only; omega
  clear hst
  generalize rdN s = N at *
  obtain ⟨n, S⟩ := N
  dsimp only at HN HZ hn0
  go_enter Tryz.func35, Tryz.ntmps35
  go_wp2_with fail
  refine (HN _).out.mono ?_
  rintro e w1 ⟨k1, rfl, hS, hb⟩
  have hRs := rs_new (w := w) (k := k) (err := err) (by unfold RBox RNil; exact hb) hS
  have HS := Lib.hid hS
  unfold RBox at hRs
  clear hb hS HN
  go_upto_region 2 with fail
  generalize w1.alloc (.cells #[.string t, .int .i64 (k1 : Int), .int .i64 (S.err : Int)] 79) = W2 at *
  generalize w1.heap.size = bx at *
  have hnil := hRs.nil
  obtain ⟨kx, hxx, hSx⟩ := hRs.x
  have HSx := Lib.hid hSx
  unfold RNil at hnil
  unfold RBox at hxx
  obtain ⟨x0, x1, x2, xf0, xf1, xf2⟩ := cells3 hnil
  obtain ⟨y0, y1, y2, _, _, _⟩ := cells3 hxx
  have n1 : bx ≠ w.heap.size + 1 := by have := hRs.hx; omega
  have HRs := Lib.hid hRs
  clear hnil hxx hRs hSx
  by_cases he : S.err = 0
  · have he' : ((S.err : Int) != 0) = false := by simp [he]
    have HE0 := Lib.hid he
    clear he
    by_cases h32 : 32 < n
    · have HR : Hid (readL s = ([], S, 4)) := Lib.hid (by rw [HZ.out, if_neg (by simp [HE0.out]), if_pos h32])
      have hd : decide (32 < n) = true := by simpa using h32
      have HE8 := Lib.hid (HRs.out.ends0 (kk := kx) (S' := S))
      clear HZ h32
      go_wp2_with fail
      go_region
      go_wp2_with fail
      exact ends8_ret HR.out (by rfl) (by rfl) (by rfl) rfl HE8.out HSx.out rfl
    · have HR0 : Hid (readL s = readR n.toNat S) := Lib.hid (by rw [HZ.out, if_neg (by simp [HE0.out]), if_neg h32])
      obtain ⟨m, rfl⟩ : ∃ m : Nat, n = (m : Int) := ⟨n.toNat, by omega⟩
      have HR : Hid (readL s = readR m S) := Lib.hid HR0.out
      have hd : decide (32 < (m : Int)) = false := by simp; omega
      have hm32 : m ≤ 32 := by omega
      have HRow := Lib.hid HRs.out.row
      have hmm : (0 : Int) ≤ (m : Int) := by omega
      clear HZ h32 hn0 HR0 HRs
      go_wp2_with fail
      generalize W2.alloc (.cells #[] 44) = W3 at *
      generalize W2.heap.size = g0 at *
      clear x0 x1 x2 xf0 xf1 xf2 y0 y1 y2 n1
      have HStop : Hid (∀ j, j ≤ m → ∀ q : List De × St × Nat, rdL S j = q → q.2.2 ≠ 0 → rdL S m = q) := Lib.hid (fun j hj q h hq => rdL_stop h hq m hj)
      go_loopw [7, 8] (fun v i wr => ∃ (j : Nat) (ls : List De) (S' : St), j ≤ m ∧ i = .int .i64 (j : Int) ∧ Hid (rdL S j = (ls, S', 0)) ∧ Hid (Rs w t bx v ls S' wr) ∧ Hid (S'.err = 0)) (fun _ i _ => m - (intOf i).toNat)
      case atStart => exact ⟨0, [], S, Nat.zero_le _, rfl, Lib.hid rfl, HRow, HE0⟩
      case round =>
        obtain ⟨j, ls, S', hj, rfl, HL, HRs, HE'⟩ := hrel
        have hlen : ls.length = j := by have := rdL_length j (by rw [HL.out] : (rdL S j).2.2 = 0); rwa [HL.out] at this
        obtain ⟨A, cap, hv⟩ := HRs.out.own.slice
        rw [hlen] at hv
        subst hv
        by_cases hlt : j < m
        · have hlt' : (j : Int) < (m : Int) := by omega
          obtain ⟨kk, hxx, hSx⟩ := HRs.out.x
          have HB := fun U => Lib.hid (refByte_plain U t kk S'.err S' ht hSx)
          unfold RBox at hxx
          obtain ⟨y0, y1, y2, _, _, _⟩ := cells3 hxx
          have HNx : Hid (rdL S (j + 1) = if (rdD S').2.2 ≠ 0 then ([], (rdD S').2.1, (rdD S').2.2) else (ls ++ [(rdD S').1], (rdD S').2.1, 0)) := Lib.hid (by simp only [rdL, HL.out]; rfl)
          have HD0 : Hid (rdD S' = if (rdByte S').2.err = 0 ∧ ((rdByte S').1 < 1 ∨ 7 < (rdByte S').1) then (zero, (rdByte S').2, 6) else ((((rdByte S').1 : Int), (rdA (rdByte S').1 (rdByte S').2).1, (rdB (rdByte S').1 (rdA (rdByte S').1 (rdByte S').2).2).1), (rdB (rdByte S').1 (rdA (rdByte S').1 (rdByte S').2).2).2, (rdB (rdByte S').1 (rdA (rdByte S').1 (rdByte S').2).2).2.err)) := Lib.hid rfl
          have hc256 := rdByte_lt S'
          have hc0 : (rdByte S').2.err ≠ 0 → (rdByte S').1 = 0 := fun h => by
            unfold rdByte at h ⊢
            split
            · rfl
            · rename_i h1
              rw [if_neg h1] at h
              split
              · rfl
              · rename_i h2
                rw [h2] at h
                exact absurd (by simp) h
          clear hxx hSx
          generalize rdByte S' = B at *
          obtain ⟨c, S1⟩ := B
          dsimp only at HB HD0 hc256 hc0
          have HCc := Lib.hid (And.intro hc256 hc0)
          clear hc256 hc0
          go_upto_region 10 with fail
          go_cut [9, 10] (fun u y wx => ∃ (k3 b : Nat), u = .int .i64 (c : Int) ∧ y = .pointer (some ⟨b, 0, none⟩) ∧ Hid (Stands t k3 S1.err S1) ∧ Hid (Rs w t bx (.slice A j cap) ls S' wx) ∧ Hid (wx.heap[b]? = some (RBox t k3 S1.err)) ∧ Hid (bx < b ∧ ∀ g, (Value.slice A j cap).ownBlock = some g → g < b))
          case first =>
            go_wp2_with fail
            refine (HB _).out.mono ?_
            rintro e w3 ⟨k3, rfl, hs3, hb3⟩
            have HRs3 := Lib.hid (HRs.out.next hb3)
            have HS3 := Lib.hid hs3
            clear hb3 hs3 y0 y1 y2 HB
            go_wp2_with fail
            go_meet
            refine ⟨k3, w3.heap.size, rfl, rfl, HS3, Lib.hid (HRs3.out.next ((Below.refl _ _).alloc (Nat.le_refl _) _)), Lib.hid (heap_alloc_new w3 _), Lib.hid ⟨?_, fun g hg => (HRs3.out.own.lt hg).2⟩⟩
            obtain ⟨_, h, _⟩ := HRs3.out.x
            exact lt_of_block h
          case rest =>
          clear y0 y1 y2 HB HRs
          obtain ⟨k3, b, rfl, rfl, HS3, HRs3, HY3, HB3⟩ := hcut
          have hR4 := HY3.out
          unfold RBox at hR4
          obtain ⟨y0, y1, y2, _, _, _⟩ := cells3 hR4
          clear hR4
          by_cases hbad : S1.err = 0 ∧ (c < 1 ∨ 7 < c)
          · obtain ⟨he1, hbad⟩ := hbad
            have hs1 : ((S1.err : Int) == 0) = true := by simp [he1]
            have HQ : Hid (rdL S m = ([], S1, 6)) := Lib.hid (HStop.out (j + 1) (by omega) ([], S1, 6) (by rw [HNx.out, show rdD S' = (zero, S1, 6) from by rw [HD0.out, if_pos ⟨he1, hbad⟩]]; rfl) (by show 6 ≠ 0; decide))
            have HRR : Hid (readL s = ([], S1, 6)) := Lib.hid (by rw [HR.out]; unfold readR; simp only [HQ.out]; rfl)
            have hnil := HRs3.out.nil
            unfold RNil at hnil
            obtain ⟨x0, x1, x2, xf0, xf1, xf2⟩ := cells3 hnil
            have n1 : b ≠ w.heap.size + 1 := by have := HB3.out.1; have := HRs3.out.hx; omega
            have HE8 := Lib.hid (HRs3.out.ends0 (kk := k3) (S' := S1))
            clear hnil he1 HQ HD0 HNx
            by_cases hc1 : c < 1
            · have hd1 : decide ((c : Int) < 1) = true := by simp; omega
              clear hbad hc1
              go_wp2_with fail
              go_region
              go_wp2_with fail
              exact ends8_ret HRR.out (by rfl) (by rfl) (by rfl) rfl HE8.out HS3.out rfl
            · have hd1 : decide ((c : Int) < 1) = false := by simp; omega
              have hd2 : decide (7 < (c : Int)) = true := by simp; omega
              clear hbad hc1
              go_wp2_with fail
              go_region
              go_wp2_with fail
              exact ends8_ret HRR.out (by rfl) (by rfl) (by rfl) rfl HE8.out HS3.out rfl
          · have HD0' : Hid (rdD S' = (((c : Int), (rdA c S1).1, (rdB c (rdA c S1).2).1), (rdB c (rdA c S1).2).2, (rdB c (rdA c S1).2).2.err)) := Lib.hid (by rw [HD0.out, if_neg hbad])
            have HBad := Lib.hid hbad
            clear hbad HD0
            (rename (∀ (a : Act) (w : World), Code.wp _ _ _ a w → _) => hK; refine hK _ _ ?_; clear hK; apply wp_seq_k; intro _ _)
            go_cut [9] (fun u wx => u = .int .i64 (c : Int) ∧ wx = wc)
            case first =>
              by_cases he1 : S1.err = 0
              · have hs1 : ((S1.err : Int) == 0) = true := by simp [he1]
                have hr : 1 ≤ c ∧ c ≤ 7 := by have := HBad.out; omega
                have hd1 : decide ((c : Int) < 1) = false := by simp; omega
                have hd2 : decide (7 < (c : Int)) = false := by simp; omega
                clear he1 hr
                go_wp2_with fail
                go_meet
                exact ⟨rfl, rfl⟩
              · have hs1 : ((S1.err : Int) == 0) = false := by simpa using he1
                clear he1
                go_wp2_with fail
                go_meet
                exact ⟨rfl, rfl⟩
            case rest =>
              obtain ⟨rfl, rfl⟩ := hcut
              clear y0 y1 y2
              (rename (∀ (a : Act) (w : World), Code.wp _ _ _ a w → _) => hK; refine hK _ _ ?_; clear hK; apply wp_seq_k; intro _ _)
              go_cut [9, 11] (fun u d wx => u = .int .i64 (c : Int) ∧ ∃ dd : Nat, d = .pointer (some ⟨dd, 0, none⟩) ∧ Hid (Yd w t bx b dd (.slice A j cap) ls S' c 0 0 S1 wx))
              case first =>
                go_wp2_with fail
                go_meet
                exact ⟨rfl, _, rfl, Lib.hid (yd_at HRs3.out HS3.out HY3.out HB3.out.1 HB3.out.2)⟩
              case rest =>
              clear HRs3 HY3 HB3 HS3
              obtain ⟨rfl, dd, rfl, HY⟩ := hcut
              (rename (∀ (a : Act) (w : World), Code.wp _ _ _ a w → _) => hK; refine hK _ _ ?_; clear hK; apply wp_seq_k; intro _ _)
              go_cut [9] (fun u wx => u = .int .i64 (c : Int) ∧ ∃ (x1 : Int) (T1 : St), Hid ((x1, T1) = if c = 3 ∨ c = 6 then rdN S1 else (0, S1)) ∧ Hid (Yd w t bx b dd (.slice A j cap) ls S' c x1 0 T1 wx))
              case first =>
                by_cases e3 : c = 3
                · have f3 : ((c : Int) == 3) = true := by simp; omega
                  have HQ1 : Hid ((if c = 3 ∨ c = 6 then rdN S1 else (0, S1)) = rdN S1) := Lib.hid (if_pos (.inl e3))
                  clear e3
                  obtain ⟨kc1, hyc1, hSc1⟩ := HY.out.ry
                  have HNc1 := fun U => Lib.hid (refNum8_any U t kc1 S1.err S1 ht hSc1)
                  unfold NumPost at HNc1
                  unfold RBox at hyc1
                  obtain ⟨y0, y1, y2, yf0, yf1, yf2⟩ := cells3 hyc1
                  clear hyc1 hSc1
                  generalize rdN S1 = N1 at *
                  obtain ⟨nv1, T1⟩ := N1
                  dsimp only at HNc1
                  go_wp2_with fail
                  refine (HNc1 _).out.mono ?_
                  rintro e u1 ⟨k1, rfl, hs1, hb1⟩
                  have HS1 := Lib.hid hs1
                  have hY1 := HY.out.next hb1
                  clear hs1 hb1 HNc1 y0 y1 y2 yf0 yf1 yf2 HY
                  go_upto_region 16 with fail
                  have hbL : Below u1.heap.size u1 (u1.alloc (.cells #[.string t, .int .i64 (k1 : Int), .int .i64 (T1.err : Int)] 79)) := (Below.refl _ _).alloc (Nat.le_refl _) _
                  have hR : (u1.alloc (.cells #[.string t, .int .i64 (k1 : Int), .int .i64 (T1.err : Int)] 79)).heap[u1.heap.size]? = some (.cells #[.string t, .int .i64 (k1 : Int), .int .i64 (T1.err : Int)] 79 (0, 0)) := heap_alloc_new u1 _
                  have hZ1 := hY1.next hbL
                  obtain ⟨kd1, hyd, _⟩ := hY1.ry
                  have m1 := lt_of_block hyd
                  have m2 := lt_of_block hY1.rd
                  obtain ⟨ke1, hye, _⟩ := hZ1.ry
                  have hde := hZ1.rd
                  unfold RBox at hye
                  unfold declBox at hde
                  obtain ⟨z0, z1, z2, _, _, _⟩ := cells3 hR
                  obtain ⟨y0, y1, y2, yf0, yf1, yf2⟩ := cells3 hye
                  obtain ⟨d0, d1, d2, df0, df1, df2⟩ := cells3 hde
                  have n1 : u1.heap.size ≠ b := by omega
                  have n2 : u1.heap.size ≠ dd := by omega
                  have n3 : b ≠ dd := by have := hZ1.hd; omega
                  have n4 : dd ≠ b := fun e => n3 e.symm
                  have HX1 := Lib.hid (hZ1.setA nv1 HS1.out)
                  clear hbL hR hY1 hZ1 hyd hye hde m1 m2
                  generalize u1.alloc (.cells #[.string t, .int .i64 (k1 : Int), .int .i64 (T1.err : Int)] 79) = V1 at *
                  generalize u1.heap.size = bz1 at *
                  go_region
                  clear z0 z1 z2 y0 y1 y2 yf0 yf1 yf2 d0 d1 d2 df0 df1 df2 n1 n2 n3 n4
                  generalize (put3 (V1.setCell ⟨dd, 1, none⟩ (.int .i64 nv1)) b (.string t) (.int .i64 (k1 : Int)) (.int .i64 (T1.err : Int))).drew = W1 at *
                  go_wp2_with fail
                  go_meet
                  exact ⟨rfl, nv1, T1, Lib.hid HQ1.out.symm, HX1⟩
                · by_cases e6 : c = 6
                  · have f3 : ((c : Int) == 3) = false := by simp; omega
                    have f6 : ((c : Int) == 6) = true := by simp; omega
                    have HQ1 : Hid ((if c = 3 ∨ c = 6 then rdN S1 else (0, S1)) = rdN S1) := Lib.hid (if_pos (.inr e6))
                    clear e3 e6
                    obtain ⟨kc1, hyc1, hSc1⟩ := HY.out.ry
                    have HNc1 := fun U => Lib.hid (refNum8_any U t kc1 S1.err S1 ht hSc1)
                    unfold NumPost at HNc1
                    unfold RBox at hyc1
                    obtain ⟨y0, y1, y2, yf0, yf1, yf2⟩ := cells3 hyc1
                    clear hyc1 hSc1
                    generalize rdN S1 = N1 at *
                    obtain ⟨nv1, T1⟩ := N1
                    dsimp only at HNc1
                    go_wp2_with fail
                    refine (HNc1 _).out.mono ?_
                    rintro e u1 ⟨k1, rfl, hs1, hb1⟩
                    have HS1 := Lib.hid hs1
                    have hY1 := HY.out.next hb1
                    clear hs1 hb1 HNc1 y0 y1 y2 yf0 yf1 yf2 HY
                    go_upto_region 16 with fail
                    have hbL : Below u1.heap.size u1 (u1.alloc (.cells #[.string t, .int .i64 (k1 : Int), .int .i64 (T1.err : Int)] 79)) := (Below.refl _ _).alloc (Nat.le_refl _) _
                    have hR : (u1.alloc (.cells #[.string t, .int .i64 (k1 : Int), .int .i64 (T1.err : Int)] 79)).heap[u1.heap.size]? = some (.cells #[.string t, .int .i64 (k1 : Int), .int .i64 (T1.err : Int)] 79 (0, 0)) := heap_alloc_new u1 _
                    have hZ1 := hY1.next hbL
                    obtain ⟨kd1, hyd, _⟩ := hY1.ry
                    have m1 := lt_of_block hyd
                    have m2 := lt_of_block hY1.rd
                    obtain ⟨ke1, hye, _⟩ := hZ1.ry
                    have hde := hZ1.rd
                    unfold RBox at hye
                    unfold declBox at hde
                    obtain ⟨z0, z1, z2, _, _, _⟩ := cells3 hR
                    obtain ⟨y0, y1, y2, yf0, yf1, yf2⟩ := cells3 hye
                    obtain ⟨d0, d1, d2, df0, df1, df2⟩ := cells3 hde
                    have n1 : u1.heap.size ≠ b := by omega
                    have n2 : u1.heap.size ≠ dd := by omega
                    have n3 : b ≠ dd := by have := hZ1.hd; omega
                    have n4 : dd ≠ b := fun e => n3 e.symm
                    have HX1 := Lib.hid (hZ1.setA nv1 HS1.out)
                    clear hbL hR hY1 hZ1 hyd hye hde m1 m2
                    generalize u1.alloc (.cells #[.string t, .int .i64 (k1 : Int), .int .i64 (T1.err : Int)] 79) = V1 at *
                    generalize u1.heap.size = bz1 at *
                    go_region
                    clear z0 z1 z2 y0 y1 y2 yf0 yf1 yf2 d0 d1 d2 df0 df1 df2 n1 n2 n3 n4
                    generalize (put3 (V1.setCell ⟨dd, 1, none⟩ (.int .i64 nv1)) b (.string t) (.int .i64 (k1 : Int)) (.int .i64 (T1.err : Int))).drew = W1 at *
                    go_wp2_with fail
                    go_meet
                    exact ⟨rfl, nv1, T1, Lib.hid HQ1.out.symm, HX1⟩
                  · have f3 : ((c : Int) == 3) = false := by simp; omega
                    have f6 : ((c : Int) == 6) = false := by simp; omega
                    have HQ1 : Hid ((if c = 3 ∨ c = 6 then rdN S1 else (0, S1)) = (0, S1)) := Lib.hid (if_neg (by omega))
                    clear e3 e6
                    go_wp2_with fail
                    go_meet
                    exact ⟨rfl, 0, S1, Lib.hid HQ1.out.symm, HY⟩
              case rest =>
                obtain ⟨rfl, xa, Ta, HQa, HYa⟩ := hcut
                (rename (∀ (a : Act) (w : World), Code.wp _ _ _ a w → _) => hK; refine hK _ _ ?_; clear hK; apply wp_seq_k; intro _ _)
                go_cut [9] (fun u wx => u = .int .i64 (c : Int) ∧ ∃ (x1 : Int) (T1 : St), Hid ((x1, T1) = rdA c S1) ∧ Hid (Yd w t bx b dd (.slice A j cap) ls S' c x1 0 T1 wx))
                case first =>
                  by_cases e7 : c = 7
                  · have f7 : ((c : Int) == 7) = true := by simp; omega
                    have HT : Hid (Ta = S1) := Lib.hid (by have := HQa.out; rw [if_neg (by omega)] at this; exact (Prod.mk.inj this).2)
                    have HQ1 : Hid (rdA c S1 = rdInt S1) := Lib.hid (by unfold rdA; rw [if_neg (by omega), if_pos e7])
                    clear e7
                    obtain rfl := HT.out
                    clear HT
                    obtain ⟨kc1, hyc1, hSc1⟩ := HYa.out.ry
                    have HNc1 := fun U => Lib.hid (refInt_plain U t kc1 Ta.err Ta ht hSc1)
                    skip
                    unfold RBox at hyc1
                    obtain ⟨y0, y1, y2, yf0, yf1, yf2⟩ := cells3 hyc1
                    clear hyc1 hSc1
                    generalize rdInt Ta = N1 at *
                    obtain ⟨nv1, T1⟩ := N1
                    dsimp only at HNc1
                    go_wp2_with fail
                    refine (HNc1 _).out.mono ?_
                    rintro e u1 ⟨k1, rfl, hs1, hb1⟩
                    have HS1 := Lib.hid hs1
                    have hY1 := HYa.out.next hb1
                    clear hs1 hb1 HNc1 y0 y1 y2 yf0 yf1 yf2 HYa
                    go_upto_region 19 with fail
                    have hbL : Below u1.heap.size u1 (u1.alloc (.cells #[.string t, .int .i64 (k1 : Int), .int .i64 (T1.err : Int)] 79)) := (Below.refl _ _).alloc (Nat.le_refl _) _
                    have hR : (u1.alloc (.cells #[.string t, .int .i64 (k1 : Int), .int .i64 (T1.err : Int)] 79)).heap[u1.heap.size]? = some (.cells #[.string t, .int .i64 (k1 : Int), .int .i64 (T1.err : Int)] 79 (0, 0)) := heap_alloc_new u1 _
                    have hZ1 := hY1.next hbL
                    obtain ⟨kd1, hyd, _⟩ := hY1.ry
                    have m1 := lt_of_block hyd
                    have m2 := lt_of_block hY1.rd
                    obtain ⟨ke1, hye, _⟩ := hZ1.ry
                    have hde := hZ1.rd
                    unfold RBox at hye
                    unfold declBox at hde
                    obtain ⟨z0, z1, z2, _, _, _⟩ := cells3 hR
                    obtain ⟨y0, y1, y2, yf0, yf1, yf2⟩ := cells3 hye
                    obtain ⟨d0, d1, d2, df0, df1, df2⟩ := cells3 hde
                    have n1 : u1.heap.size ≠ b := by omega
                    have n2 : u1.heap.size ≠ dd := by omega
                    have n3 : b ≠ dd := by have := hZ1.hd; omega
                    have n4 : dd ≠ b := fun e => n3 e.symm
                    have HX1 := Lib.hid (hZ1.setA nv1 HS1.out)
                    clear hbL hR hY1 hZ1 hyd hye hde m1 m2
                    generalize u1.alloc (.cells #[.string t, .int .i64 (k1 : Int), .int .i64 (T1.err : Int)] 79) = V1 at *
                    generalize u1.heap.size = bz1 at *
                    go_region
                    clear z0 z1 z2 y0 y1 y2 yf0 yf1 yf2 d0 d1 d2 df0 df1 df2 n1 n2 n3 n4
                    generalize (put3 (V1.setCell ⟨dd, 1, none⟩ (.int .i64 nv1)) b (.string t) (.int .i64 (k1 : Int)) (.int .i64 (T1.err : Int))).drew = W1 at *
                    go_wp2_with fail
                    go_meet
                    exact ⟨rfl, nv1, T1, Lib.hid HQ1.out.symm, HX1⟩
                  · have f7 : ((c : Int) == 7) = false := by simp; omega
                    have HQ1 : Hid (rdA c S1 = (xa, Ta)) := Lib.hid (by
                      rw [HQa.out]
                      unfold rdA
                      by_cases h : c = 3 ∨ c = 6
                      · rw [if_pos h, if_pos h]
                      · rw [if_neg h, if_neg h, if_neg e7])
                    clear e7
                    go_wp2_with fail
                    go_meet
                    exact ⟨rfl, xa, Ta, Lib.hid HQ1.out.symm, HYa⟩
                case rest =>
                  clear HYa HQa
                  obtain ⟨rfl, xb, Tb, HQb, HYb⟩ := hcut
                  have HDb : Hid (rdD S' = (((c : Int), xb, (rdB c Tb).1), (rdB c Tb).2, (rdB c Tb).2.err)) := Lib.hid (by rw [HD0'.out, ← HQb.out])
                  clear HD0' HQb
                  (rename (∀ (a : Act) (w : World), Code.wp _ _ _ a w → _) => hK; refine hK _ _ ?_; clear hK; apply wp_seq_k; intro _ _)
                  go_cut [9] (fun u wx => u = .int .i64 (c : Int) ∧ ∃ (y1 : Int) (T1 : St), Hid ((y1, T1) = rdB c Tb) ∧ Hid (Yd w t bx b dd (.slice A j cap) ls S' c xb y1 T1 wx))
                  case first =>
                    by_cases e3 : c = 3
                    · have f3 : ((c : Int) == 3) = true := by simp; omega
                      have HQ1 : Hid (rdB c Tb = rdN Tb) := Lib.hid (by unfold rdB; rw [if_pos (.inl e3)])
                      clear e3
                      obtain ⟨kc1, hyc1, hSc1⟩ := HYb.out.ry
                      have HNc1 := fun U => Lib.hid (refNum8_any U t kc1 Tb.err Tb ht hSc1)
                      unfold NumPost at HNc1
                      unfold RBox at hyc1
                      obtain ⟨y0, y1, y2, yf0, yf1, yf2⟩ := cells3 hyc1
                      clear hyc1 hSc1
                      generalize rdN Tb = N1 at *
                      obtain ⟨nv1, T1⟩ := N1
                      dsimp only at HNc1
                      go_wp2_with fail
                      refine (HNc1 _).out.mono ?_
                      rintro e u1 ⟨k1, rfl, hs1, hb1⟩
                      have HS1 := Lib.hid hs1
                      have hY1 := HYb.out.next hb1
                      clear hs1 hb1 HNc1 y0 y1 y2 yf0 yf1 yf2 HYb
                      go_upto_region 22 with fail
                      have hbL : Below u1.heap.size u1 (u1.alloc (.cells #[.string t, .int .i64 (k1 : Int), .int .i64 (T1.err : Int)] 79)) := (Below.refl _ _).alloc (Nat.le_refl _) _
                      have hR : (u1.alloc (.cells #[.string t, .int .i64 (k1 : Int), .int .i64 (T1.err : Int)] 79)).heap[u1.heap.size]? = some (.cells #[.string t, .int .i64 (k1 : Int), .int .i64 (T1.err : Int)] 79 (0, 0)) := heap_alloc_new u1 _
                      have hZ1 := hY1.next hbL
                      obtain ⟨kd1, hyd, _⟩ := hY1.ry
                      have m1 := lt_of_block hyd
                      have m2 := lt_of_block hY1.rd
                      obtain ⟨ke1, hye, _⟩ := hZ1.ry
                      have hde := hZ1.rd
                      unfold RBox at hye
                      unfold declBox at hde
                      obtain ⟨z0, z1, z2, _, _, _⟩ := cells3 hR
                      obtain ⟨y0, y1, y2, yf0, yf1, yf2⟩ := cells3 hye
                      obtain ⟨d0, d1, d2, df0, df1, df2⟩ := cells3 hde
                      have n1 : u1.heap.size ≠ b := by omega
                      have n2 : u1.heap.size ≠ dd := by omega
                      have n3 : b ≠ dd := by have := hZ1.hd; omega
                      have n4 : dd ≠ b := fun e => n3 e.symm
                      have HX1 := Lib.hid (hZ1.setB nv1 HS1.out)
                      clear hbL hR hY1 hZ1 hyd hye hde m1 m2
                      generalize u1.alloc (.cells #[.string t, .int .i64 (k1 : Int), .int .i64 (T1.err : Int)] 79) = V1 at *
                      generalize u1.heap.size = bz1 at *
                      go_region
                      clear z0 z1 z2 y0 y1 y2 yf0 yf1 yf2 d0 d1 d2 df0 df1 df2 n1 n2 n3 n4
                      generalize (put3 (V1.setCell ⟨dd, 2, none⟩ (.int .i64 nv1)) b (.string t) (.int .i64 (k1 : Int)) (.int .i64 (T1.err : Int))).drew = W1 at *
                      go_wp2_with fail
                      go_meet
                      exact ⟨rfl, nv1, T1, Lib.hid HQ1.out.symm, HX1⟩
                    · by_cases e7 : c = 7
                      · have f3 : ((c : Int) == 3) = false := by simp; omega
                        have f7 : ((c : Int) == 7) = true := by simp; omega
                        have HQ1 : Hid (rdB c Tb = rdN Tb) := Lib.hid (by unfold rdB; rw [if_pos (.inr e7)])
                        clear e3 e7
                        obtain ⟨kc1, hyc1, hSc1⟩ := HYb.out.ry
                        have HNc1 := fun U => Lib.hid (refNum8_any U t kc1 Tb.err Tb ht hSc1)
                        unfold NumPost at HNc1
                        unfold RBox at hyc1
                        obtain ⟨y0, y1, y2, yf0, yf1, yf2⟩ := cells3 hyc1
                        clear hyc1 hSc1
                        generalize rdN Tb = N1 at *
                        obtain ⟨nv1, T1⟩ := N1
                        dsimp only at HNc1
                        go_wp2_with fail
                        refine (HNc1 _).out.mono ?_
                        rintro e u1 ⟨k1, rfl, hs1, hb1⟩
                        have HS1 := Lib.hid hs1
                        have hY1 := HYb.out.next hb1
                        clear hs1 hb1 HNc1 y0 y1 y2 yf0 yf1 yf2 HYb
                        go_upto_region 22 with fail
                        have hbL : Below u1.heap.size u1 (u1.alloc (.cells #[.string t, .int .i64 (k1 : Int), .int .i64 (T1.err : Int)] 79)) := (Below.refl _ _).alloc (Nat.le_refl _) _
                        have hR : (u1.alloc (.cells #[.string t, .int .i64 (k1 : Int), .int .i64 (T1.err : Int)] 79)).heap[u1.heap.size]? = some (.cells #[.string t, .int .i64 (k1 : Int), .int .i64 (T1.err : Int)] 79 (0, 0)) := heap_alloc_new u1 _
                        have hZ1 := hY1.next hbL
                        obtain ⟨kd1, hyd, _⟩ := hY1.ry
                        have m1 := lt_of_block hyd
                        have m2 := lt_of_block hY1.rd
                        obtain ⟨ke1, hye, _⟩ := hZ1.ry
                        have hde := hZ1.rd
                        unfold RBox at hye
                        unfold declBox at hde
                        obtain ⟨z0, z1, z2, _, _, _⟩ := cells3 hR
                        obtain ⟨y0, y1, y2, yf0, yf1, yf2⟩ := cells3 hye
                        obtain ⟨d0, d1, d2, df0, df1, df2⟩ := cells3 hde
                        have n1 : u1.heap.size ≠ b := by omega
                        have n2 : u1.heap.size ≠ dd := by omega
                        have n3 : b ≠ dd := by have := hZ1.hd; omega
                        have n4 : dd ≠ b := fun e => n3 e.symm
                        have HX1 := Lib.hid (hZ1.setB nv1 HS1.out)
                        clear hbL hR hY1 hZ1 hyd hye hde m1 m2
                        generalize u1.alloc (.cells #[.string t, .int .i64 (k1 : Int), .int .i64 (T1.err : Int)] 79) = V1 at *
                        generalize u1.heap.size = bz1 at *
                        go_region
                        clear z0 z1 z2 y0 y1 y2 yf0 yf1 yf2 d0 d1 d2 df0 df1 df2 n1 n2 n3 n4
                        generalize (put3 (V1.setCell ⟨dd, 2, none⟩ (.int .i64 nv1)) b (.string t) (.int .i64 (k1 : Int)) (.int .i64 (T1.err : Int))).drew = W1 at *
                        go_wp2_with fail
                        go_meet
                        exact ⟨rfl, nv1, T1, Lib.hid HQ1.out.symm, HX1⟩
                      · have f3 : ((c : Int) == 3) = false := by simp; omega
                        have f7 : ((c : Int) == 7) = false := by simp; omega
                        have HQ1 : Hid (rdB c Tb = (0, Tb)) := Lib.hid (by unfold rdB; rw [if_neg (by omega)])
                        clear e3 e7
                        go_wp2_with fail
                        go_meet
                        exact ⟨rfl, 0, Tb, Lib.hid HQ1.out.symm, HYb⟩
                  case rest =>
                    clear HYb
                    obtain ⟨rfl, yc, Tc, HQc, HYc⟩ := hcut
                    have HD : Hid (rdD S' = (((c : Int), xb, yc), Tc, Tc.err)) := Lib.hid (by rw [HDb.out, ← HQc.out])
                    clear HDb HQc
                    obtain ⟨kf, hyf, hSf⟩ := HYc.out.ry
                    have hyf' := hyf
                    unfold RBox at hyf'
                    obtain ⟨y0, y1, y2, _, _, _⟩ := cells3 hyf'
                    have HSf := Lib.hid hSf
                    by_cases hse : Tc.err = 0
                    · have HQ : Hid (rdL S (j + 1) = (ls ++ [((c : Int), xb, yc)], Tc, 0)) := Lib.hid (by rw [HNx.out, HD.out]; simp only [hse]; rfl)
                      have hse' : ((Tc.err : Int) != 0) = false := by simp [hse]
                      have HSE := Lib.hid hse
                      clear hse hyf' hSf
                      have hrd := HYc.out.rd
                      have hbA : Below wc.heap.size wc (wc.alloc (declBox (c : Int) xb yc)) := (Below.refl _ _).alloc (Nat.le_refl _) _
                      have hown1 : Own (wc.alloc (declBox (c : Int) xb yc)) (bx + 1) (.slice A j cap) ls := HYc.out.rs.own.next hbA
                      have hone : DAt (wc.alloc (declBox (c : Int) xb yc)) (some ⟨wc.heap.size, 0, none⟩) [((c : Int), xb, yc)] := DAt.one (heap_alloc_new wc _)
                      have hbase : bx + 1 ≤ wc.heap.size := by have := lt_of_block hyf; have := HYc.out.hb; omega
                      have hll : ls.length ≤ 32 := by have := hlen; omega
                      have Hap := fun (v2 : Value) (W2 : World) (h1 : Own W2 (bx + 1) v2 (ls ++ [((c : Int), xb, yc)])) (h2 : (wc.alloc (declBox (c : Int) xb yc)).grownBy W2 (Value.slice A j cap).ownBlock) => HYc.out.app hyf hbA h1 h2
                      have hyA : (wc.alloc (declBox (c : Int) xb yc)).heap[b]? = some (RBox t kf Tc.err) := (hbA.block b (lt_of_block hyf)).trans hyf
                      unfold declBox at hrd hown1 hone Hap hyA
                      unfold RBox at hyA
                      obtain ⟨b0, b1, b2, _, _, _⟩ := cells3 hyA
                      obtain ⟨d0, d1, d2, df0, df1, df2⟩ := cells3 hrd
                      clear hyf hbA hrd hyA
                      go_wp2_with fail
                      go_region_law (first
                        | (refine step_appD (w := (wc.alloc (.cells #[.int .i64 (c : Int), .int .i64 xb, .int .i64 yc] 44)).drew) (by rfl) (.tmp 103) (.tmp 105) (by rfl) (bx + 1) 1 1 (.slice A j cap) (some ⟨wc.heap.size, 0, none⟩) ls [((c : Int), xb, yc)] (by rfl) hown1 (by rfl) rfl (fun h => by cases h) hone (by simp; omega) (by simp; omega) ?_; intro v2 W2 hv2 hg2; have hAp := Hap v2 W2 hv2 ⟨hg2.os, hg2.tape, hg2.output, hg2.size, hg2.block⟩; have HAp := Lib.hid hAp; have hyW := hAp.y; unfold RBox at hyW; obtain ⟨a0, a1, a2, _, _, _⟩ := cells3 hyW; obtain ⟨ka, ea, hxa⟩ := hAp.x; unfold RBox at hxa; obtain ⟨x0, x1, x2, xf0, xf1, xf2⟩ := cells3 hxa; clear hAp hyW hxa)
                        | (refine step_appD (w := wc.drew.alloc (.cells #[.int .i64 (c : Int), .int .i64 xb, .int .i64 yc] 44)) (by rfl) (.tmp 103) (.tmp 105) (by rfl) (bx + 1) 1 1 (.slice A j cap) (some ⟨wc.heap.size, 0, none⟩) ls [((c : Int), xb, yc)] (by rfl) hown1 (by rfl) rfl (fun h => by cases h) hone (by simp; omega) (by simp; omega) ?_; intro v2 W2 hv2 hg2; have hAp := Hap v2 W2 hv2 ⟨hg2.os, hg2.tape, hg2.output, hg2.size, hg2.block⟩; have HAp := Lib.hid hAp; have hyW := hAp.y; unfold RBox at hyW; obtain ⟨a0, a1, a2, _, _, _⟩ := cells3 hyW; obtain ⟨ka, ea, hxa⟩ := hAp.x; unfold RBox at hxa; obtain ⟨x0, x1, x2, xf0, xf1, xf2⟩ := cells3 hxa; clear hAp hyW hxa))
                      all_goals
                        go_wp2_with fail
                        exact ⟨⟨j + 1, ls ++ [((c : Int), xb, yc)], Tc, by omega, by go_num, HQ, Lib.hid (HAp.out.store HSf.out), HSE⟩, by simp [intOf]; omega⟩
                    · have HQ : Hid (rdL S m = ([], Tc, Tc.err)) := Lib.hid (HStop.out (j + 1) (by omega) ([], Tc, Tc.err) (by rw [HNx.out, HD.out]; simp only [ne_eq, hse, not_false_eq_true, if_true]) hse)
                      have hse' : ((Tc.err : Int) != 0) = true := by simpa using hse
                      have HRR : Hid (readL s = ([], Tc, Tc.err)) := Lib.hid (by rw [HR.out]; unfold readR; simp only [HQ.out, ne_eq, hse, not_false_eq_true, if_true])
                      have hnil := HYc.out.rs.nil
                      unfold RNil at hnil
                      obtain ⟨x0, x1, x2, xf0, xf1, xf2⟩ := cells3 hnil
                      have n1 : b ≠ w.heap.size + 1 := by have := HYc.out.rs.hx; have := HYc.out.hb; omega
                      have HE8 := Lib.hid (HYc.out.rs.ends0 (kk := kf) (S' := Tc))
                      clear hse hnil hyf hyf' hSf HQ
                      go_wp2_with fail
                      go_region
                      go_wp2_with fail
                      exact ends8_ret HRR.out (by rfl) (by rfl) (by rfl) rfl HE8.out HSf.out rfl
        · obtain rfl : j = m := by omega
          have HC := Lib.hid (refCheck_any A cap ls (by omega) wr (HRs.out.own.at))
          rw [hlen] at HC
          unfold ChkPost at HC
          clear HStop
          have HQ : Hid (readL s = (if (chk ls).2 ≠ 0 then ([], S', (chk ls).2) else (ls, S', 0))) := Lib.hid (by rw [HR.out]; unfold readR; simp only [HL.out]; rfl)
          generalize chk ls = pc at *
          obtain ⟨pi, pe⟩ := pc
          dsimp only at HC HQ
          go_wp2_with fail
          refine HC.out.mono ?_
          rintro e w9 ⟨rfl, hb9⟩
          have hRs9 := HRs.out.next hb9
          have hnil := hRs9.nil
          obtain ⟨kz, hxx, hSz⟩ := hRs9.x
          unfold RNil at hnil
          unfold RBox at hxx
          obtain ⟨x0, x1, x2, xf0, xf1, xf2⟩ := cells3 hnil
          obtain ⟨y0, y1, y2, _, _, _⟩ := cells3 hxx
          have n1 : bx ≠ w.heap.size + 1 := by have := hRs9.hx; omega
          have HR9 := Lib.hid hRs9
          have HS9 := Lib.hid hSz
          clear hnil hxx hRs9 hSz hb9 HC HRs
          by_cases hq : pe = 0
          · have HRR : Hid (readL s = (ls, S', 0)) := Lib.hid (by rw [HQ.out, if_neg (by simp [hq])])
            have hq' : ((pe : Int) != 0) = false := by simp [hq]
            have HE8 := Lib.hid (HR9.out.ends (kk := kz) (S' := S'))
            clear hq HQ
            go_wp2_with fail
            go_region
            go_wp2_with fail
            exact ends8_ret HRR.out (by rfl) (by rfl) (by rfl) rfl HE8.out HS9.out rfl
          · have HRR : Hid (readL s = ([], S', pe)) := Lib.hid (by rw [HQ.out, if_pos hq])
            have hq' : ((pe : Int) != 0) = true := by simpa using hq
            have HE8 := Lib.hid (HR9.out.ends0 (kk := kz) (S' := S'))
            clear hq HQ
            go_wp2_with fail
            go_region
            go_wp2_with fail
            exact ends8_ret HRR.out (by rfl) (by rfl) (by rfl) rfl HE8.out HS9.out rfl
  · have HR : Hid (readL s = ([], S, S.err)) := Lib.hid (by rw [HZ.out, if_pos he])
    have he' : ((S.err : Int) != 0) = true := by simpa using he
    have HE8 := Lib.hid (HRs.out.ends0 (kk := kx) (S' := S))
    clear HZ he
    go_wp2_with fail
    go_region
    go_wp2_with fail
    exact ends8_ret HR.out (by rfl) (by rfl) (by rfl) rfl HE8.out HSx.out rfl
end Go.Proofs.YtahejekcfgkiaaaGreatDoor.objs
