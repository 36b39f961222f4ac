/-
  Behind each call some member is missing, or nobody has arrived; who is told had arrived: the walk over what is asked of the program's calls. No condition. Printed by tools/mkbarwaits.py.
-/
import Derived.Test.YtiekbbknmneikaaBarAny
import Derived.LoopTactic
namespace Go.Proofs.Ytiekbbknmneikaa.bar
open Go.RowKit Go.ChangeShapes
open Go.Proofs.Ytiekbbknmneikaa.obj
open Go.Proofs.Ytiekbbknmneikaa.bits (Is64 hasB wth wout minus andNot_u64)
set_option linter.unusedVariables false
set_option linter.unusedSimpArgs false

/-- While calls are made: the barrier, and what was told, boxed. -/
def Wz (At : World → Nat → Bx → Prop) (w : World) (s : Bx) (gt : Nat) (x : Tx) (W : World) : Prop := Hs At w w.heap.size s W ∧ W.heap[gt]? = some (txO x)
theorem wz_next {At : World → Nat → Bx → Prop} (K : Keeps At) {w W W' : World} {s : Bx} {gt : Nat} {x : Tx} (h : Wz At w s gt x W) (hb : Below W.heap.size W W') : Wz At w s gt x W' :=
  ⟨hs_next K h.1 hb, (hb.block _ (lt_of_block h.2)).trans h.2⟩
theorem wz_new {At : World → Nat → Bx → Prop} (K : Keeps At) {w W : World} {s : Bx} (h : Hs At w w.heap.size s W) (x : Tx) : Wz At w s W.heap.size x ((W.alloc (txO txZ)).setRow W.heap.size (txC x).toArray) := by
  have hl := K.lt _ _ _ h.2.2
  have h2 := hs_next K h ((Below.refl _ W).alloc (Nat.le_refl _) (txO txZ))
  exact ⟨⟨row_below h2.1 h.1.size _, h2.2.1, K.loc _ _ _ _ h2.2.2 (row_far _ (by omega)) (row_size _ _ _)⟩, tx_turned (heap_alloc_new W (txO txZ)) x⟩
set_option maxRecDepth 100000 in
set_option maxHeartbeats 8000000 in
theorem waits_walk {At : World → Nat → Bx → Prop} (K : Keeps At) (A : Option Addr) (cap : Nat) (ops : List (Int × Int)) (w : World) (ho : OpsAt w A ops) (hi : ∀ j, j < ops.length → I64 (ops.getD j (0, 0)).1 ∧ I64 (ops.getD j (0, 0)).2) (hl : ops.length ≤ 9223372036854775807) :
    Calls Try.prog 4 #[.slice A ops.length cap] w fun e w' => e = .returned (.bool true) ∧ Below w.heap.size w w' := by
  have HK := Lib.hid K
  have HO := Lib.hid ho
  have HI := Lib.hid hi
  have HL := fun W => Lib.hid (lives_any K W)
  have H1 : Hid (Hs At w w.heap.size ⟨0, 0⟩ (w.alloc zbB)) := Lib.hid ⟨(Below.refl _ w).alloc (Nat.le_refl _) _, Nat.le_refl _, K.new w⟩
  clear K ho hi
  go_enter Try.func4, Try.ntmps4
  go_upto_region 2 with (first | refine wq_build rfl rfl ?_ | refine wq_box rfl _ rfl rfl ?_)
  try simp only [Act.put, List.setIfInBounds_toArray, List.set_cons_zero, List.set_cons_succ]
  generalize w.alloc zbB = W1 at *
  go_wp2_with fail
  go_loopw [4] (fun i wr => ∃ (j : Nat) (m : Bx), i = .int .i64 (j : Int) ∧ j ≤ ops.length ∧ j ≤ 100 ∧ Fine m ∧ Hs At w w.heap.size m wr) (fun i _ => ops.length - (intOf i).toNat)
  case atStart => exact ⟨0, ⟨0, 0⟩, rfl, Nat.zero_le _, Nat.zero_le _, new_fine, H1.out⟩
  case round =>
    obtain ⟨j, m, rfl, hj, hj80, hfm, hP⟩ := hrel
    clear H1
    by_cases hlt : j < ops.length ∧ j < 100
    · obtain ⟨hlt, h80⟩ := hlt
      have d1 : decide (j < ops.length) = true := by simp; omega
      have d2 : decide ((j : Int) < 100) = true := by simp; omega
      obtain ⟨b, off, rfl, hb, c0, c1⟩ := HO.out j hlt
      obtain ⟨i0, i1⟩ := HI.out j hlt
      generalize ops.getD j (0, 0) = o at *
      obtain ⟨k, t⟩ := o
      dsimp only at c0 c1 i0 i1
      have HCe : ∀ W, Below w.heap.size w W → W.cell? ⟨b, off + j * 2, none⟩ = some (.int .i64 k) ∧ W.cell? ⟨b, off + j * 2 + 1, none⟩ = some (.int .i64 t) := fun W h => ⟨(h.cell (p := ⟨b, off + j * 2, none⟩) hb).trans c0, (h.cell (p := ⟨b, off + j * 2 + 1, none⟩) hb).trans c1⟩
      have HDo := fun W h => Lib.hid (do_any HK.out m w.heap.size k t W h hfm i1)
      have HWas := fun W h => Lib.hid (HK.out.arrived W w.heap.size m h hfm)
      unfold DoPost at HDo
      have ht1 := do_told m k t
      have ht2 := do_told_lt hfm k t
      have hf' := do_fine hfm k t
      generalize doB m k t = q at *
      obtain ⟨m', y⟩ := q
      dsimp only at HDo hf' ht1 ht2
      have hA : bits .andNot .u64 (m'.a : Int) (m'.m : Int) = 0 := by rw [andNot_u64 hf'.2.1 hf'.1, minus_none hf'.2.1 hf'.1 hf'.2.2.1]; rfl
      have hB : bits .andNot .u64 (y.s : Int) (m.a : Int) = 0 := by rw [andNot_u64 ht2 hfm.2.1, minus_none ht2 hfm.2.1 ht1.1]; rfl
      have HT := Lib.hid (And.intro ht1.2 hf'.2.2.2)
      have HF' := Lib.hid hf'
      have HP := Lib.hid hP
      have n0 : (0 : Int) ≤ (j : Int) := by omega
      have n1 : (j : Int) < (ops.length : Int) := by omega
      have HJ := Lib.hid (And.intro hlt h80)
      clear c0 c1 i0 i1 hb hf' hfm hP hj hj80 hlt h80 ht1 ht2
      obtain ⟨c0, c1⟩ := HCe wr HP.out.1
      go_wp2_with fail
      refine (HWas _ HP.out.2.2).out.mono ?_
      rintro _ w2 ⟨rfl, hb2⟩
      have HP2 := Lib.hid (hs_next HK.out HP.out hb2)
      clear hb2 HWas HP c0 c1
      obtain ⟨c0, c1⟩ := HCe w2 HP2.out.1
      go_wp2_with fail
      refine (HDo _ HP2.out.2.2).out.mono ?_
      rintro _ w4 ⟨rfl, ha, ho⟩
      have HX := Lib.hid (wz_new HK.out (hs_only HP2.out ho ha) y)
      clear ha ho HDo HP2 c0 c1 HCe
      go_upto_region 7 with (first | refine wtx_alloc rfl rfl ?_ | refine wtx_store rfl _ _ rfl w4.heap.size txZ y rfl rfl (heap_alloc_new w4 (txO txZ)) ?_)
      try simp only [Act.put, List.setIfInBounds_toArray, List.set_cons_zero, List.set_cons_succ]
      generalize (w4.alloc (txO txZ)).setRow w4.heap.size (txC y).toArray = W5 at *
      generalize w4.heap.size = gt at *
      have HAr := fun W h => Lib.hid (HK.out.arrived W w.heap.size m' h HF'.out)
      have HMe := fun W h => Lib.hid (HK.out.members W w.heap.size m' h HF'.out)
      have HMi := fun W h => Lib.hid (HK.out.missing W w.heap.size m' h HF'.out)
      by_cases ha0 : m'.a = 0
      · rw [ha0, show ((0 : Nat) : Int) = 0 from rfl] at HAr hA
        by_cases hs0 : y.s = 0
        · have e1 : ((y.s : Int) != 0) = false := by rw [hs0]; rfl
          clear hs0 ha0 HT
          obtain ⟨t0, t1, t2⟩ := tx_cells HX.out.2
          go_wp2_with fail
          refine (HAr _ HX.out.1.2.2).out.mono ?_
          rintro _ w9 ⟨rfl, hb9⟩
          replace HX := Lib.hid (wz_next HK.out HX.out hb9)
          clear hb9 t0 t1 t2
          obtain ⟨t0, t1, t2⟩ := tx_cells HX.out.2
          go_wp2_with fail
          refine (HMe _ HX.out.1.2.2).out.mono ?_
          rintro _ w9 ⟨rfl, hb9⟩
          replace HX := Lib.hid (wz_next HK.out HX.out hb9)
          clear hb9 t0 t1 t2
          obtain ⟨t0, t1, t2⟩ := tx_cells HX.out.2
          go_wp2_with fail
          refine (HAr _ HX.out.1.2.2).out.mono ?_
          rintro _ w9 ⟨rfl, hb9⟩
          replace HX := Lib.hid (wz_next HK.out HX.out hb9)
          clear hb9 t0 t1 t2
          obtain ⟨t0, t1, t2⟩ := tx_cells HX.out.2
          go_wp2_with fail
          exact ⟨⟨j + 1, m', by go_num, by have := HJ.out.1; omega, by have := HJ.out.2; omega, HF'.out, HX.out.1⟩, by have := HJ.out.1; simp [intOf]; omega⟩
        have e1 : ((y.s : Int) != 0) = true := by rw [bne_iff_ne]; omega
        clear hs0 ha0 HT
        obtain ⟨t0, t1, t2⟩ := tx_cells HX.out.2
        go_wp2_with fail
        refine (HAr _ HX.out.1.2.2).out.mono ?_
        rintro _ w9 ⟨rfl, hb9⟩
        replace HX := Lib.hid (wz_next HK.out HX.out hb9)
        clear hb9 t0 t1 t2
        obtain ⟨t0, t1, t2⟩ := tx_cells HX.out.2
        go_wp2_with fail
        refine (HMe _ HX.out.1.2.2).out.mono ?_
        rintro _ w9 ⟨rfl, hb9⟩
        replace HX := Lib.hid (wz_next HK.out HX.out hb9)
        clear hb9 t0 t1 t2
        obtain ⟨t0, t1, t2⟩ := tx_cells HX.out.2
        go_wp2_with fail
        refine (HAr _ HX.out.1.2.2).out.mono ?_
        rintro _ w9 ⟨rfl, hb9⟩
        replace HX := Lib.hid (wz_next HK.out HX.out hb9)
        clear hb9 t0 t1 t2
        obtain ⟨t0, t1, t2⟩ := tx_cells HX.out.2
        go_wp2_with fail
        refine (HAr _ HX.out.1.2.2).out.mono ?_
        rintro _ w9 ⟨rfl, hb9⟩
        replace HX := Lib.hid (wz_next HK.out HX.out hb9)
        clear hb9 t0 t1 t2
        obtain ⟨t0, t1, t2⟩ := tx_cells HX.out.2
        go_wp2_with fail
        exact ⟨⟨j + 1, m', by go_num, by have := HJ.out.1; omega, by have := HJ.out.2; omega, HF'.out, HX.out.1⟩, by have := HJ.out.1; simp [intOf]; omega⟩
      have hs0 : y.s = 0 := Decidable.byContradiction fun h => ha0 (HT.out.1 h)
      have hm0 := HT.out.2 ha0
      have e1 : ((y.s : Int) != 0) = false := by rw [hs0]; rfl
      have e2 : ((m'.a : Int) != 0) = true := by rw [bne_iff_ne]; omega
      have e3 : (((missB m' : Nat) : Int) == 0) = false := by rw [beq_eq_false_iff_ne]; omega
      clear hs0 ha0 hm0 HT
      generalize missB m' = z at *
      obtain ⟨t0, t1, t2⟩ := tx_cells HX.out.2
      go_wp2_with fail
      refine (HAr _ HX.out.1.2.2).out.mono ?_
      rintro _ w9 ⟨rfl, hb9⟩
      replace HX := Lib.hid (wz_next HK.out HX.out hb9)
      clear hb9 t0 t1 t2
      obtain ⟨t0, t1, t2⟩ := tx_cells HX.out.2
      go_wp2_with fail
      refine (HMe _ HX.out.1.2.2).out.mono ?_
      rintro _ w9 ⟨rfl, hb9⟩
      replace HX := Lib.hid (wz_next HK.out HX.out hb9)
      clear hb9 t0 t1 t2
      obtain ⟨t0, t1, t2⟩ := tx_cells HX.out.2
      go_wp2_with fail
      refine (HAr _ HX.out.1.2.2).out.mono ?_
      rintro _ w9 ⟨rfl, hb9⟩
      replace HX := Lib.hid (wz_next HK.out HX.out hb9)
      clear hb9 t0 t1 t2
      obtain ⟨t0, t1, t2⟩ := tx_cells HX.out.2
      go_wp2_with fail
      refine (HMi _ HX.out.1.2.2).out.mono ?_
      rintro _ w9 ⟨rfl, hb9⟩
      replace HX := Lib.hid (wz_next HK.out HX.out hb9)
      clear hb9 t0 t1 t2
      obtain ⟨t0, t1, t2⟩ := tx_cells HX.out.2
      go_wp2_with fail
      exact ⟨⟨j + 1, m', by go_num, by have := HJ.out.1; omega, by have := HJ.out.2; omega, HF'.out, HX.out.1⟩, by have := HJ.out.1; simp [intOf]; omega⟩
    · have HB := Lib.hid hP.1
      clear hP hfm HI HO
      go_wp2_with fail
      all_goals
        refine (HL _).out.mono ?_
        rintro _ w2 ⟨rfl, hb⟩
        go_wp2
        go_ret
        exact ⟨rfl, HB.out.trans (hb.mono HB.out.size)⟩
end Go.Proofs.Ytiekbbknmneikaa.bar
