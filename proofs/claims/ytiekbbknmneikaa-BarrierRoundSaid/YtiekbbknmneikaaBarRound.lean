/-
  Each of any members waits till all have arrived, round by round, from whichever of them on: the walk over what is asked of the program's calls. No condition.
-/
import Derived.Test.YtiekbbknmneikaaBarSpec
import Derived.Test.YtiekbbknmneikaaBarTurn
import Derived.Test.YtiekbbknmneikaaBBit
import Derived.LoopTactic
namespace Go.Proofs.Ytiekbbknmneikaa.bar
open Go.RowKit Go.ChangeShapes
open Go.Proofs.Ytiekbbknmneikaa.obj
open Go.Proofs.Ytiekbbknmneikaa.bits (Is64 hasB wth wout may minus els upto upto_succ upto_length_le infoInt icells icells_append ListAt listAt_of bitN wth_or testBit_div)
set_option linter.unusedVariables false
set_option linter.unusedSimpArgs false

/-- While calls are made: the barrier, and the list of those that come. -/
def Lk (At : World → Nat → Bx → Prop) (w : World) (s : Bx) (gl : Nat) (l : List Nat) (W : World) : Prop := Hs At w w.heap.size s W ∧ ListAt W gl l ∧ gl ≠ w.heap.size
theorem Lk.next {At : World → Nat → Bx → Prop} (K : Keeps At) {w W W' : World} {s : Bx} {gl : Nat} {l : List Nat} (h : Lk At w s gl l W) (hb : Below W.heap.size W W') : Lk At w s gl l W' :=
  ⟨hs_next K h.1 hb, h.2.1.kept (hb.block _ h.2.1.lt), h.2.2⟩
theorem Lk.only {At : World → Nat → Bx → Prop} {w W W' : World} {s s' : Bx} {gl : Nat} {l : List Nat} (h : Lk At w s gl l W) (ha : At W' w.heap.size s') (ho : Only w.heap.size W W') : Lk At w s' gl l W' :=
  ⟨hs_only h.1 ho ha, h.2.1.kept (ho.block _ h.2.1.lt h.2.2), h.2.2⟩
theorem u64_of {z : Int} (h : (Lit.int .u64 z).wf = true) : ∃ M : Nat, z = (M : Int) ∧ Is64 M := by
  have hx : 0 ≤ z ∧ z ≤ 18446744073709551615 := by simpa [Lit.wf, IntKind.min, IntKind.max, IntKind.signed, IntKind.bits] using h
  exact ⟨z.toNat, by omega, by unfold Is64; omega⟩
theorem bit_test {M : Nat} (hM : Is64 M) (j : Nat) : (bits .and .u64 ((M : Int) / 2 ^ j) 1 == 1) = decide (M / 2 ^ j % 2 = 1) := by
  have e : ((M : Int) / 2 ^ j) = ((M / 2 ^ j : Nat) : Int) := by
    rw [Int.natCast_ediv, Int.natCast_pow]
    rfl
  have h := bits.and_u64 (a := M / 2 ^ j) (b := 1) (Nat.lt_of_le_of_lt (Nat.div_le_self _ _) hM) (by unfold Is64; omega)
  rw [e]
  have h1 : ((1 : Nat) : Int) = 1 := rfl
  rw [h1] at h
  rw [h, Nat.and_one_is_mod, Bool.eq_iff_iff, beq_iff_eq, decide_eq_true_iff]
  omega
theorem met_or {m r : Nat} (hm : Is64 m) (hr : (r : Int) < 64) : Value.int .u64 (bits .or .u64 (m : Int) (IntKind.u64.wrap (2 ^ r))) = .int .u64 ((wth m ((r : Nat) : Int) : Nat) : Int) := by
  have hy : may ((r : Nat) : Int) := by unfold may; omega
  have h := bits.shl_one hy
  rw [Int.toNat_natCast] at h
  rw [h, bits.or_u64 hm (bits.bitN_lt _), ← wth_or]
theorem turn_is (turn : Int) : ∃ d : Nat, d < 64 ∧ ∀ e n : Nat, e < 64 → 0 < n → (wrap64 ((e : Int) + wrap64 ((IntKind.u64.wrap turn).tmod 64))).tmod (n : Int) = (((e + d) % n : Nat) : Int) := by
  have hu : 0 ≤ IntKind.u64.wrap turn := by rw [IntKind.wrap_u64]; omega
  refine ⟨(IntKind.u64.wrap turn % 64).toNat, by omega, fun e n he hn => ?_⟩
  rw [Int.tmod_eq_emod_of_nonneg hu]
  have h1 : wrap64 (IntKind.u64.wrap turn % 64) = IntKind.u64.wrap turn % 64 := by unfold wrap64; omega
  have h2 : wrap64 ((e : Int) + IntKind.u64.wrap turn % 64) = ((e + (IntKind.u64.wrap turn % 64).toNat : Nat) : Int) := by unfold wrap64; omega
  rw [h1, h2, Int.tmod_eq_emod_of_nonneg (by omega), Int.natCast_emod]
set_option maxRecDepth 100000 in
set_option maxHeartbeats 8000000 in
theorem round_walk {At : World → Nat → Bx → Prop} (K : Keeps At) (M : Nat) (turn : Int) (w : World) (hM : Is64 M) (ht : I64 turn) :
    Calls Try.prog 5 #[.int .u64 (M : Int), .int .i64 turn] w fun e w' => e = .returned (.bool true) ∧ Below w.heap.size w w' := by
  have HK := Lib.hid K
  have HM := Lib.hid hM
  have HT := Lib.hid ht
  have HL := fun W => Lib.hid (lives_any K W)
  obtain ⟨i0, hi, hz0, hz1, hz2⟩ := info_parts infoInt
  have H1 : Hid (Hs At w w.heap.size ⟨0, 0⟩ (w.alloc zbB)) := Lib.hid ⟨(Below.refl _ w).alloc (Nat.le_refl _) _, Nat.le_refl _, K.new w⟩
  have hs1 : (w.alloc zbB).heap.size = w.heap.size + 1 := World.size_alloc _ _
  have hB0 := (Below.refl (w.alloc zbB).heap.size (w.alloc zbB)).alloc (Nat.le_refl _) (.cells #[] 3)
  have hO0 : ((w.alloc zbB).alloc (.cells #[] 3)).ownsRow (w.alloc zbB).heap.size 3 1 (.slice (some ⟨(w.alloc zbB).heap.size, 0, none⟩) 0 0) 0 [] := World.ownsRow_made (w.alloc zbB) #[] 0 (Nat.le_refl _) (by unfold maxLen; omega) rfl
  rw [hs1] at hB0 hO0
  have HB0 := Lib.hid hB0
  have HO0 := Lib.hid hO0
  have HS1 := Lib.hid hs1
  clear K hM ht hB0 hO0 hs1
  go_enter Try.func5, Try.ntmps5
  go_upto_region 2 with (first | refine wq_build rfl rfl ?_ | refine wq_box rfl _ rfl rfl ?_)
  try simp only [Act.put, List.setIfInBounds_toArray, List.set_cons_zero, List.set_cons_succ]
  generalize (w.alloc zbB).alloc (.cells #[] 3) = W0 at *
  generalize w.alloc zbB = W1 at *
  obtain ⟨B, hBe⟩ : ∃ B, B = w.heap.size + 1 := ⟨_, rfl⟩
  rw [← hBe] at HB0 HO0 HS1
  rw [← hBe]
  have HBe := Lib.hid hBe
  clear hBe
  go_wp2_with fail
  go_loopw [6, 7] (fun l i wr => ∃ j g cap : Nat, j ≤ 64 ∧ i = .int .i64 (j : Int) ∧ l = .slice (some ⟨g, 0, none⟩) (upto M j).length cap ∧
    wr.ownsRow B 3 1 (.slice (some ⟨g, 0, none⟩) (upto M j).length cap) (upto M j).length (icells (upto M j)) ∧ Below B W1 wr) (fun _ i _ => 64 - (intOf i).toNat)
  case atStart => exact ⟨0, B, 0, by omega, rfl, rfl, HO0.out, HB0.out⟩
  case round =>
    obtain ⟨j, g, cap, hj, rfl, rfl, hown, hb⟩ := hrel
    clear HO0 HB0
    have hz := hb.size
    have hul := upto_length_le M j
    have HU := Lib.hid (upto_succ M j)
    have HO := Lib.hid hown
    have HB := Lib.hid hb
    have HTB : Hid (M.testBit j = decide (M / 2 ^ j % 2 = 1)) := Lib.hid (testBit_div M j)
    have HEE : Hid (j = 64 → upto M j = els M) := Lib.hid (fun h => by subst h; rfl)
    clear hown hb
    generalize upto M j = u at *
    have HBt := Lib.hid (bit_test HM.out j)
    by_cases hlt : j < 64
    · by_cases ho : M / 2 ^ j % 2 = 1
      · have hodd : (bits .and .u64 ((M : Int) / 2 ^ j) 1 == 1) = true := by rw [HBt.out]; exact decide_eq_true ho
        have HU1 : Hid (upto M (j + 1) = u ++ [j]) := Lib.hid (by rw [HU.out, HTB.out, decide_eq_true ho]; rfl)
        clear HU HTB ho HBt
        go_wp2_with (
          at_builtin
          refine wpList_append_own _ rfl (.tmp 29) (.tmp 31) 41 rfl B 3 i0 _ 1 8 Try.underlying41 hi hz0 hz1 hz2 rfl (by omega) _ u.length _ rfl (HO.out.alloc _)
            ⟨wr.heap.size, 0, none⟩ 1 1 [.int .i64 (j : Int)] rfl rfl ?c1 ?c2 ?c3 ?c4 ?c5 ?_)
        case c1 =>
          intro i u hu
          rcases i with _ | i
          · simp only [List.getElem?_cons_zero, Option.some.injEq] at hu
            subst hu
            exact cell_of_one (heap_alloc_new wr _)
          · simp at hu
        case c2 => intro u hu; simp only [List.mem_singleton] at hu; subst hu; rfl
        case c3 => unfold maxLen; omega
        case c4 => omega
        case c5 => have := HS1.out; simp; omega
        intro v2 w2 hown2 hg2 hv2
        have hb2 := (HB.out.alloc (by have := HS1.out; omega) (.cells #[.int .i64 (j : Int)] 3)).grown hg2 (by have := HS1.out; simp; omega) (fun k hk => (HO.out.lt k hk).1)
        obtain ⟨g2, cap2, rfl⟩ : ∃ g2 cap2, v2 = .slice (some ⟨g2, 0, none⟩) (u.length + 1) cap2 := by
          rcases hown2.2 with ⟨_, h⟩ | ⟨g2, cap2, _, h, _⟩
          · omega
          · exact ⟨g2, cap2, h⟩
        have HO2 := Lib.hid hown2
        have HB2 := Lib.hid hb2
        clear hown2 hg2 hb2 hv2
        go_wp2_with fail
        go_roundw
        case rel =>
          have hl : (upto M (j + 1)).length = u.length + 1 := by rw [HU1.out]; simp
          refine ⟨j + 1, g2, cap2, by omega, by go_num, by rw [hl], ?_, HB2.out⟩
          rw [hl, HU1.out, icells_append]
          exact HO2.out
        case measure => simp [intOf]; omega
      · have hodd : (bits .and .u64 ((M : Int) / 2 ^ j) 1 == 1) = false := by rw [HBt.out]; exact decide_eq_false ho
        have HU1 : Hid (upto M (j + 1) = u) := Lib.hid (by rw [HU.out, HTB.out, decide_eq_false ho]; simp)
        clear HU HTB ho HBt
        go_wp2_with fail
        go_roundw
        case rel =>
          refine ⟨j + 1, g, cap, by omega, by go_num, by rw [HU1.out], ?_, HB.out⟩
          rw [HU1.out]
          exact HO.out
        case measure => simp [intOf]; omega
    · obtain rfl : u = els M := HEE.out (by omega)
      obtain rfl : j = 64 := by omega
      clear HU HEE HTB HBt
      have hla := listAt_of HO.out
      have HK1 : Hid (Lk At w (⟨0, 0⟩ : Bx) g (els M) wr) := Lib.hid ⟨hs_next HK.out H1.out (by rw [HS1.out]; exact HB.out), hla.1, by have := HBe.out; have := hla.2; omega⟩
      have HN : Hid ((els M).length ≤ 64) := Lib.hid hul
      clear hla HO HB H1 hz hul hlt
      generalize hN : (els M).length = N at *
      have HNe := Lib.hid hN
      clear hN hj
      rw [show ((64 : Nat) : Int) = 64 from rfl]
      go_wp2_with fail
      go_loopw [8] (fun i wq => ∃ j : Nat, i = .int .i64 (j : Int) ∧ j ≤ N ∧ Lk At w ⟨met (els M) 0 j, 0⟩ g (els M) wq) (fun i _ => N - (intOf i).toNat)
      case atStart => exact ⟨0, rfl, Nat.zero_le _, HK1.out⟩
      case round =>
        obtain ⟨j, rfl, hj, hP⟩ := hrel
        clear HK1
        have HP := Lib.hid hP
        clear hP
        by_cases hlt : j < N
        · have hjl : j < (els M).length := by have := HNe.out; omega
          have c0 := HP.out.2.1.cell (rot_zero hjl)
          have HE := Lib.hid (HK.out.enrol wr w.heap.size ⟨met (els M) 0 j, 0⟩ ((rot (els M) 0 j : Nat) : Int) HP.out.1.2.2 (zero_fine (met_lt _ _ _)) (by have := (rot_has (d := 0) hjl).1; unfold may at this; unfold I64; omega))
          rw [turn_enrol hjl] at HE
          generalize rot (els M) 0 j = t at *
          have k0 : (0 : Int) ≤ (j : Int) := by omega
          have k1 : (j : Int) < (N : Int) := by omega
          have HJ := Lib.hid hlt
          clear hjl hlt hj
          go_wp2_with fail
          refine HE.out.mono ?_
          rintro _ w2 ⟨rfl, ha, ho⟩
          have HP2 := Lib.hid (HP.out.only ha ho)
          clear ha ho HE HP c0
          have hN64 := HN.out
          go_wp2_with fail
          go_roundw
          case rel => exact ⟨j + 1, by go_num, by have := HJ.out; omega, HP2.out⟩
          case measure => have := HJ.out; simp [intOf]; omega
        · obtain rfl : j = N := by omega
          have HP3 : Hid (Lk At w ⟨M, 0⟩ g (els M) wr) := Lib.hid (by
            have h := HP.out
            rw [← HNe.out, met_all HM.out] at h
            exact h)
          clear HP hj hlt
          go_wp2_with fail
          go_loopw [9] (fun i wo => ∃ k : Nat, i = .int .i64 (k : Int) ∧ k ≤ 2 ∧ Lk At w ⟨M, 0⟩ g (els M) wo) (fun i _ => 2 - (intOf i).toNat)
          case atStart => exact ⟨0, rfl, by omega, HP3.out⟩
          case round =>
            obtain ⟨k, rfl, hk, hP⟩ := hrel
            have HP := Lib.hid hP
            clear hP HP3
            by_cases hlt : k < 2
            · have HKk := Lib.hid hlt
              have d2 : decide ((k : Int) < 2) = true := decide_eq_true (by omega)
              obtain ⟨d, hd, hd2⟩ := turn_is turn
              have HD := Lib.hid hd2
              clear hd hd2
              clear hlt hk
              have HA0 : Hid (Lk At w (if 0 = j then ⟨M, 0⟩ else ⟨M, met (els M) d 0⟩) g (els M) wr) := Lib.hid (by split <;> exact HP.out)
              clear HP
              go_wp2_with fail
              go_loopw [10, 11] (fun s i wq => ∃ e : Nat, i = .int .i64 (e : Int) ∧ e ≤ j ∧ s = .int .u64 ((met (els M) d e : Nat) : Int) ∧ Lk At w (if e = j then ⟨M, 0⟩ else ⟨M, met (els M) d e⟩) g (els M) wq) (fun _ i _ => j - (intOf i).toNat)
              case atStart => exact ⟨0, rfl, Nat.zero_le _, rfl, HA0.out⟩
              case round =>
                obtain ⟨e, rfl, he, rfl, hA⟩ := hrel
                clear HA0
                have HA := Lib.hid hA
                clear hA
                by_cases hel : e < j
                · rw [if_neg (by omega)] at HA
                  have hn64 := HN.out
                  have hel2 : e < (els M).length := by have := HNe.out; omega
                  have hx := HD.out e j (by omega) (by omega)
                  have c0 := HA.out.2.1.cell (rot_some (l := els M) (d := d) (i := e) (by omega))
                  rw [HNe.out] at c0
                  have k1 : (((e + d) % j : Nat) : Int) < (j : Int) := by have := Nat.mod_lt (e + d) (show 0 < j by omega); omega
                  have k0 : (0 : Int) ≤ (((e + d) % j : Nat) : Int) := by omega
                  have HC := Lib.hid (HK.out.arrive wr w.heap.size ⟨M, met (els M) d e⟩ ((rot (els M) d e : Nat) : Int) HA.out.1.2.2 (met_fine HM.out hel2) (by have := (rot_has (d := d) hel2).1; unfold may at this; unfold I64; omega))
                  rw [turn_arrive HM.out hel2] at HC
                  generalize (e + d) % j = x at *
                  have HE := Lib.hid hel
                  have HR : Hid (((rot (els M) d e : Nat) : Int) < 64) := Lib.hid (by have := (rot_has (d := d) hel2).1; unfold may at this; omega)
                  by_cases hl : e + 1 = j
                  · rw [HNe.out, if_pos hl] at HC
                    have HMe : Hid (met (els M) d (e + 1) = wth (met (els M) d e) ((rot (els M) d e : Nat) : Int)) := Lib.hid rfl
                    have HA3 : ∀ W, Lk At w ⟨M, 0⟩ g (els M) W → Lk At w (if e + 1 = j then ⟨M, 0⟩ else ⟨M, met (els M) d (e + 1)⟩) g (els M) W := fun W h => by rw [if_pos hl]; exact h
                    have HMl := Lib.hid (met_lt (els M) d e)
                    generalize met (els M) d e = m0 at *
                    generalize rot (els M) d e = r at *
                    have HLl := Lib.hid hl
                    have e1 : ((e : Int) == (j : Int) - 1) = true := by rw [beq_iff_eq]; omega
                    have q0 : ((m0 : Int) != (m0 : Int)) = false := by simp
                    clear hel hel2 hl
                    go_wp2_with fail
                    refine HC.out.mono ?_
                    rintro _ w2 ⟨rfl, ha, ho⟩
                    have HA2 := Lib.hid (HA3 _ (HA.out.only ha ho))
                    clear ha ho HC HA c0 HA3
                    have hr64 : (r : Int) < 64 := HR.out
                    go_wp2_with fail
                    go_roundw
                    case rel => exact ⟨e + 1, by go_num, by omega, by rw [HMe.out]; exact met_or HMl.out HR.out, HA2.out⟩
                    case measure => have := HE.out; simp [intOf]; omega
                  · rw [HNe.out, if_neg hl] at HC
                    have HMe : Hid (met (els M) d (e + 1) = wth (met (els M) d e) ((rot (els M) d e : Nat) : Int)) := Lib.hid rfl
                    have HA3 : ∀ W, Lk At w ⟨M, met (els M) d (e + 1)⟩ g (els M) W → Lk At w (if e + 1 = j then ⟨M, 0⟩ else ⟨M, met (els M) d (e + 1)⟩) g (els M) W := fun W h => by rw [if_neg hl]; exact h
                    have HMl := Lib.hid (met_lt (els M) d e)
                    generalize met (els M) d e = m0 at *
                    generalize rot (els M) d e = r at *
                    have e1 : ((e : Int) == (j : Int) - 1) = false := by rw [beq_eq_false_iff_ne]; omega
                    clear hel hel2 hl
                    go_wp2_with fail
                    refine HC.out.mono ?_
                    rintro _ w2 ⟨rfl, ha, ho⟩
                    have HA2 := Lib.hid (HA3 _ (HA.out.only ha ho))
                    clear ha ho HC HA c0 HA3
                    have hr64 : (r : Int) < 64 := HR.out
                    go_wp2_with fail
                    go_roundw
                    case rel => exact ⟨e + 1, by go_num, by omega, by rw [HMe.out]; exact met_or HMl.out HR.out, HA2.out⟩
                    case measure => have := HE.out; simp [intOf]; omega
                · obtain rfl : e = j := by omega
                  rw [if_pos rfl] at HA
                  have HK2 := HKk.out
                  clear hel
                  go_wp2_with fail
                  go_roundw
                  case rel => exact ⟨k + 1, by go_num, by omega, HA.out⟩
                  case measure => simp [intOf]; omega
            · obtain rfl : k = 2 := by omega
              rw [show ((2 : Nat) : Int) = 2 from rfl]
              have f0 : Fine ⟨M, 0⟩ := zero_fine HM.out
              have HMm := fun W h => Lib.hid (HK.out.members W w.heap.size ⟨M, 0⟩ h f0)
              have HAr := fun W h => Lib.hid (HK.out.arrived W w.heap.size ⟨M, 0⟩ h f0)
              have q1 : ((M : Int) == (M : Int)) = true := by simp
              clear hlt hk f0
              go_wp2_with fail
              refine (HMm _ HP.out.1.2.2).out.mono ?_
              rintro _ w2 ⟨rfl, hb⟩
              have HP2 := Lib.hid (HP.out.next HK.out hb)
              clear hb HMm HP
              go_wp2_with fail
              refine (HAr _ HP2.out.1.2.2).out.mono ?_
              rintro _ w3 ⟨rfl, hb⟩
              have HP3 := Lib.hid (HP2.out.next HK.out hb)
              clear hb HAr HP2
              go_wp2_with fail
              refine (HL _).out.mono ?_
              rintro _ w4 ⟨rfl, hb⟩
              go_wp2
              go_ret
              exact ⟨rfl, HP3.out.1.1.trans (hb.mono HP3.out.1.1.size)⟩
end Go.Proofs.Ytiekbbknmneikaa.bar
