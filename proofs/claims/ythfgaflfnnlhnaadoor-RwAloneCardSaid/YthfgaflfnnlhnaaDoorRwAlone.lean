/-
  Where one writes nobody else holds the lock; who is told OK holds it as it asked: the walk over what is asked of the program's calls. No condition. Printed by tools/mkrwalone.py.
-/
import Derived.Test.YthfgaflfnnlhnaaDoorRwSpec
import Derived.LoopTactic
import Derived.Deep.DeepCutAuto
namespace Go.Proofs.YthfgaflfnnlhnaaDoor.rwl
open Go.RowKit Go.ChangeShapes
open Go.Proofs.YthfgaflfnnlhnaaDoor.obj
open Go.Proofs.YthfgaflfnnlhnaaDoor.bits (Is64 hasB wth wout)
set_option linter.unusedVariables false
set_option linter.unusedSimpArgs false

def wantR (k : Int) : Int := if k = 0 ∨ k = 1 then k + 1 else 0
set_option maxRecDepth 100000 in
set_option maxHeartbeats 8000000 in
theorem alone_walk {Ok : World → Prop} {At : World → Nat → Rx → Prop} (K : Keeps Ok At) (A : Option Addr) (cap : Nat) (ops : List (Int × Int)) (w : World) (ho : OpsAt w A ops) (hi : ∀ j, j < ops.length → I64 (ops.getD j (0, 0)).1 ∧ I64 (ops.getD j (0, 0)).2) (hl : ops.length ≤ 9223372036854775807) (hok : Ok w) :
    Calls Tryd.prog 4 #[.slice A ops.length cap] w fun e w' => e = .returned (.bool true) ∧ Below w.heap.size w w' := by
  have HK := Lib.hid K
  have HO := Lib.hid ho
  have HI := Lib.hid hi
  have HL := fun W (h : Below w.heap.size w W) => Lib.hid (lives_any K W (K.mono _ _ hok h))
  have HOk := Lib.hid hok
  have H1 : Hid (Hs At w w.heap.size newR (w.alloc rzB)) := Lib.hid ⟨(Below.refl _ w).alloc (Nat.le_refl _) _, Nat.le_refl _, K.new w⟩
  clear K ho hi hok
  go_enter Tryd.func4, Tryd.ntmps4
  go_upto_region 2 with (first | refine wq_build rfl rfl ?_ | refine wq_box rfl _ rfl rfl ?_)
  try simp only [Act.put, List.setIfInBounds_toArray, List.set_cons_zero, List.set_cons_succ]
  generalize w.alloc rzB = W1 at *
  go_wp2_with fail
  go_loopw [4] (fun i wr => ∃ (j : Nat) (m : Rx), i = .int .i64 (j : Int) ∧ j ≤ ops.length ∧ j ≤ 80 ∧ Fine m ∧ Hs At w w.heap.size m wr) (fun i _ => ops.length - (intOf i).toNat)
  case atStart => exact ⟨0, newR, rfl, Nat.zero_le _, Nat.zero_le _, new_fine, H1.out⟩
  case round =>
    obtain ⟨j, m, rfl, hj, hj80, hfm, hP⟩ := hrel
    clear H1
    by_cases hlt : j < ops.length ∧ j < 80
    · obtain ⟨hlt, h80⟩ := hlt
      have d1 : decide (j < ops.length) = true := by simp; omega
      have d2 : decide ((j : Int) < 80) = true := by simp; omega
      obtain ⟨b, off, rfl, hb, c0, c1⟩ := HO.out j hlt
      obtain ⟨i0, i1⟩ := HI.out j hlt
      generalize ops.getD j (0, 0) = o at *
      obtain ⟨k, t⟩ := o
      dsimp only at c0 c1 i0 i1
      have HCe : ∀ W, Below w.heap.size w W → W.cell? ⟨b, off + j * 2, none⟩ = some (.int .i64 k) ∧ W.cell? ⟨b, off + j * 2 + 1, none⟩ = some (.int .i64 t) := fun W h => ⟨(h.cell (p := ⟨b, off + j * 2, none⟩) hb).trans c0, (h.cell (p := ⟨b, off + j * 2 + 1, none⟩) hb).trans c1⟩
      have HDo := fun W h => Lib.hid (do_any HK.out m w.heap.size k t W h hfm i1)
      unfold DoPost at HDo
      have HA := Lib.hid (do_asked (s := m) k t)
      obtain ⟨q, hq⟩ : ∃ q, q = doR m k t := ⟨_, rfl⟩
      rw [← hq] at HA HDo
      change Hid (_ → _ = wantR k) at HA
      have hf' : Fine q.1 := by rw [hq]; exact do_fine hfm k t
      obtain ⟨m', y⟩ := q
      dsimp only at HA HDo hf'
      have HF' := Lib.hid hf'
      have HP := Lib.hid hP
      have HT := Lib.hid i1
      have n0 : (0 : Int) ≤ (j : Int) := by omega
      have n1 : (j : Int) < (ops.length : Int) := by omega
      have HJ := Lib.hid (And.intro hlt h80)
      clear c0 c1 i0 i1 hb hq hf' hfm hP hj hj80 hlt h80
      obtain ⟨c0, c1⟩ := HCe wr HP.out.1
      go_upto_region 5 with fail
      go_cut [5, 6] (fun x z wx => x = .int .i64 y ∧ z = .int .i64 0 ∧ Hid (Hs At w w.heap.size m' wx))
      case first =>
        clear HA HL HI HO
        have D := HDo wr HP.out.2.2
        go_wp2_with fail
        refine D.out.mono ?_
        rintro _ w2 ⟨rfl, ha, ho⟩
        have H2 := Lib.hid (hs_only HP.out ho ha)
        clear ha ho D HP c0 c1
        go_wp2_with fail
        go_meet
        exact ⟨rfl, rfl, H2⟩
      case rest =>
        obtain ⟨rfl, rfl, HW⟩ := hcut
        clear HP HDo c0 c1
        obtain ⟨c0, c1⟩ := HCe wc HW.out.1
        (rename (∀ (a : Act) (w : World), Code.wp _ _ _ a w → _) => hK; refine hK _ _ ?_; clear hK; apply wp_seq_k; intro _ _)
        go_cut [6] (fun z wx => z = .int .i64 (wantR k) ∧ Hid (Hs At w w.heap.size m' wx))
        case first =>
          clear HA HL HI HO
          by_cases k0 : k = 0
          · subst k0
            have hw : wantR 0 = 1 := by rfl
            go_wp2_with fail
            go_meet
            exact ⟨by rw [hw], HW⟩
          by_cases k1 : k = 1
          · subst k1
            have hw : wantR 1 = 2 := by rfl
            go_wp2_with fail
            go_meet
            exact ⟨by rw [hw], HW⟩
          · have hw : wantR k = 0 := by unfold wantR; rw [if_neg (by omega)]
            have e0 : (k == 0) = false := by rw [beq_eq_false_iff_ne]; exact k0
            have e1 : (k == 1) = false := by rw [beq_eq_false_iff_ne]; exact k1
            clear k0 k1
            go_wp2_with fail
            go_meet
            exact ⟨by rw [hw], HW⟩
        case rest =>
          obtain ⟨rfl, HW2⟩ := hcut
          clear HW c0 c1
          obtain ⟨c0, c1⟩ := HCe wc HW2.out.1
          have HWr := fun W (h : Hs At w w.heap.size m' W) => Lib.hid (HK.out.writer W w.heap.size m' h.2.2 HF'.out (HK.out.mono _ _ HOk.out h.1))
          have HRe := fun W h => Lib.hid (HK.out.readers W w.heap.size m' h HF'.out)
          have HHo := fun W h => Lib.hid (HK.out.holders W w.heap.size m' h HF'.out)
          have HMd := fun W v h hv => Lib.hid (HK.out.mode W w.heap.size m' v h HF'.out hv)
          (rename (∀ (a : Act) (w : World), Code.wp _ _ _ a w → _) => hK; refine hK _ _ ?_; clear hK)
          by_cases hy : y = 0
          · subst hy
            have D := fun W h => HMd W t h HT.out
            rw [HA.out rfl] at D
            generalize wantR k = z at *
            have qz : (z != z) = false := by simp
            go_wp2_with fail
            refine (D _ HW2.out.2.2).out.mono ?_
            rintro _ w5 ⟨rfl, hb5⟩
            have H5 := Lib.hid (hs_next HK.out HW2.out hb5)
            clear hb5 D HW2
            go_wp2_with fail
            refine (HWr _ H5.out).out.mono ?_
            rintro _ w6 ⟨rfl, hb6⟩
            have H6 := Lib.hid (hs_next HK.out H5.out hb6)
            clear hb6 HWr H5 HA HI HO HCe c0 c1
            by_cases hp : 0 ≤ m'.p
            · obtain ⟨r0, h2, md, hlt64, hpe⟩ := fine_alone HF'.out hp
              have D2 := fun W h => HMd W m'.p h (by unfold I64; omega)
              rw [md] at D2
              rw [r0, show ((0 : Nat) : Int) = 0 from rfl] at HRe
              rw [h2] at HHo
              have HS : Hid ((2 : Int) ^ m'.p.toNat = IntKind.u64.wrap (2 ^ min (IntKind.u64.wrap m'.p).toNat 64)) := Lib.hid (by
                have hl : 2 ^ m'.p.toNat < 2 ^ 64 := Nat.pow_lt_pow_right (by omega) hlt64
                have h64 : (2 : Nat) ^ 64 = 18446744073709551616 := rfl
                have e : ((2 : Int) ^ m'.p.toNat) = ((2 ^ m'.p.toNat : Nat) : Int) := by rw [Int.natCast_pow]; rfl
                have e3 : IntKind.u64.wrap m'.p = m'.p := by rw [IntKind.wrap_u64]; omega
                rw [e3, show min m'.p.toNat 64 = m'.p.toNat by omega, e, IntKind.wrap_u64]
                omega)
              have e1 : decide (m'.p ≥ 0) = true := decide_eq_true hp
              have e2 : decide (0 ≤ m'.p) = true := decide_eq_true hp
              clear r0 h2 md hpe hlt64
              go_wp2_with fail
              refine (HRe _ H6.out.2.2).out.mono ?_
              rintro _ w7 ⟨rfl, hb7⟩
              have H7 := Lib.hid (hs_next HK.out H6.out hb7)
              clear hb7 HRe H6
              go_wp2_with fail
              refine (HHo _ H7.out.2.2).out.mono ?_
              rintro _ w8 ⟨rfl, hb8⟩
              have H8 := Lib.hid (hs_next HK.out H7.out hb8)
              clear hb8 HHo H7
              go_wp2_with fail
              all_goals first | (rename_i h; exact absurd HS.out h) | skip
              refine (D2 _ H8.out.2.2).out.mono ?_
              rintro _ w9 ⟨rfl, hb9⟩
              have H9 := Lib.hid (hs_next HK.out H8.out hb9)
              clear hb9 D2 HMd H8
              go_wp2_with fail
              exact ⟨⟨j + 1, m', by go_num, by have := HJ.out.1; omega, by have := HJ.out.2; omega, HF'.out, H9.out⟩, by have := HJ.out.1; simp [intOf]; omega⟩
            · have e1 : decide (m'.p ≥ 0) = false := decide_eq_false hp
              have e2 : decide (0 ≤ m'.p) = false := decide_eq_false hp
              clear hp HRe HHo HMd
              go_wp2_with fail
              exact ⟨⟨j + 1, m', by go_num, by have := HJ.out.1; omega, by have := HJ.out.2; omega, HF'.out, H6.out⟩, by have := HJ.out.1; simp [intOf]; omega⟩
          · have e0 : (y == 0) = false := by rw [beq_eq_false_iff_ne]; exact hy
            clear hy
            go_wp2_with fail
            refine (HWr _ HW2.out).out.mono ?_
            rintro _ w6 ⟨rfl, hb6⟩
            have H6 := Lib.hid (hs_next HK.out HW2.out hb6)
            clear hb6 HWr HW2 HA HI HO HCe c0 c1
            by_cases hp : 0 ≤ m'.p
            · obtain ⟨r0, h2, md, hlt64, hpe⟩ := fine_alone HF'.out hp
              have D2 := fun W h => HMd W m'.p h (by unfold I64; omega)
              rw [md] at D2
              rw [r0, show ((0 : Nat) : Int) = 0 from rfl] at HRe
              rw [h2] at HHo
              have HS : Hid ((2 : Int) ^ m'.p.toNat = IntKind.u64.wrap (2 ^ min (IntKind.u64.wrap m'.p).toNat 64)) := Lib.hid (by
                have hl : 2 ^ m'.p.toNat < 2 ^ 64 := Nat.pow_lt_pow_right (by omega) hlt64
                have h64 : (2 : Nat) ^ 64 = 18446744073709551616 := rfl
                have e : ((2 : Int) ^ m'.p.toNat) = ((2 ^ m'.p.toNat : Nat) : Int) := by rw [Int.natCast_pow]; rfl
                have e3 : IntKind.u64.wrap m'.p = m'.p := by rw [IntKind.wrap_u64]; omega
                rw [e3, show min m'.p.toNat 64 = m'.p.toNat by omega, e, IntKind.wrap_u64]
                omega)
              have e1 : decide (m'.p ≥ 0) = true := decide_eq_true hp
              have e2 : decide (0 ≤ m'.p) = true := decide_eq_true hp
              clear r0 h2 md hpe hlt64
              go_wp2_with fail
              refine (HRe _ H6.out.2.2).out.mono ?_
              rintro _ w7 ⟨rfl, hb7⟩
              have H7 := Lib.hid (hs_next HK.out H6.out hb7)
              clear hb7 HRe H6
              go_wp2_with fail
              refine (HHo _ H7.out.2.2).out.mono ?_
              rintro _ w8 ⟨rfl, hb8⟩
              have H8 := Lib.hid (hs_next HK.out H7.out hb8)
              clear hb8 HHo H7
              go_wp2_with fail
              all_goals first | (rename_i h; exact absurd HS.out h) | skip
              refine (D2 _ H8.out.2.2).out.mono ?_
              rintro _ w9 ⟨rfl, hb9⟩
              have H9 := Lib.hid (hs_next HK.out H8.out hb9)
              clear hb9 D2 HMd H8
              go_wp2_with fail
              exact ⟨⟨j + 1, m', by go_num, by have := HJ.out.1; omega, by have := HJ.out.2; omega, HF'.out, H9.out⟩, by have := HJ.out.1; simp [intOf]; omega⟩
            · have e1 : decide (m'.p ≥ 0) = false := decide_eq_false hp
              have e2 : decide (0 ≤ m'.p) = false := decide_eq_false hp
              clear hp HRe HHo HMd
              go_wp2_with fail
              exact ⟨⟨j + 1, m', by go_num, by have := HJ.out.1; omega, by have := HJ.out.2; omega, HF'.out, H6.out⟩, by have := HJ.out.1; simp [intOf]; omega⟩
    · have HB := Lib.hid hP.1
      clear hP hfm HI HO
      go_wp2_with fail
      all_goals
        refine (HL _ HB.out).out.mono ?_
        rintro _ w2 ⟨rfl, hb⟩
        go_wp2
        go_ret
        exact ⟨rfl, HB.out.trans (hb.mono HB.out.size)⟩
end Go.Proofs.YthfgaflfnnlhnaaDoor.rwl
