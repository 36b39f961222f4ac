/-
  What is free, and what threads have, is all: the walk over what is asked of the program's calls. No condition.
-/
import Derived.Test.YthdencddocgbjaaPoTwo
namespace Go.Proofs.Ythdencddocgbjaa.pol
open Go.RowKit Go.ChangeShapes
open Go.Proofs.Ythdencddocgbjaa.obj
set_option linter.unusedVariables false
set_option linter.unusedSimpArgs false

theorem share_facts {p : Px} (hf : Fine p) {k : Nat} (hk : k < (shares p.h).length) : 1 ≤ ((shares p.h).getD k (0, 0)).2 ∧ hv p.h ((shares p.h).getD k (0, 0)).1 = ((shares p.h).getD k (0, 0)).2 ∧ I64 ((shares p.h).getD k (0, 0)).1 := by
  have hm : (shares p.h).getD k (0, 0) ∈ shares p.h := by
    rw [List.getD_eq_getElem?_getD, List.getElem?_eq_getElem hk]
    exact List.getElem_mem hk
  obtain ⟨t, ht, he, hp⟩ := shares_mem p.h 64 _ hm
  rw [he]
  dsimp only
  refine ⟨by omega, ?_, by unfold I64; omega⟩
  rw [hv_in (by omega) (by omega), Int.toNat_natCast]
/-- What is free, and what the first k of the threads that have some have. -/
def part (p : Px) (k : Nat) : Int := freeP p + sumH (((shares p.h).take k).map Prod.snd)
theorem part_zero (p : Px) : part p 0 = freeP p := by unfold part; simp [sumH]
theorem part_next (p : Px) {k : Nat} (hk : k < (shares p.h).length) : part p (k + 1) = part p k + ((shares p.h).getD k (0, 0)).2 := by
  unfold part
  rw [take_get hk, List.map_append, sumH_append]
  simp only [List.map_cons, List.map_nil, sumH]
  omega
theorem part_all {p : Px} (hf : Fine p) : part p (shares p.h).length = p.total := by
  unfold part freeP
  rw [List.take_length, shares_all hf]
  omega
theorem part_small {p : Px} (hf : Fine p) (k : Nat) : 0 ≤ part p k ∧ part p k ≤ 1000 := by
  have h1 := shares_part hf k
  have h2 := hf.t1
  have h3 := hf.sum
  unfold part freeP
  omega
/-- While the shares are gone through: the pool, and where they lie. -/
def Iz (At : World → Nat → Px → Prop) (w : World) (g : Nat) (m : Px) (A : Option Addr) (W : World) : Prop := Hs At w g m W ∧ SAt W (fun b => g < b) A (shares m.h)
theorem Iz.drewN {At : World → Nat → Px → Prop} (K : Keeps At) {w W : World} {g : Nat} {m : Px} {A : Option Addr} (h : Iz At w g m A W) (n : Nat) : Iz At w g m A (W.drewN n) :=
  ⟨hs_next K h.1 (below_drewN (Below.refl _ _) n), h.2.keep (fun _ _ _ => rfl) (Nat.le_refl _)⟩

set_option maxRecDepth 100000 in
set_option maxHeartbeats 8000000 in
theorem sums_walk {At : World → Nat → Px → Prop} (K : Keeps At) (total : Int) (A : Option Addr) (cap : Nat) (ops : List (Int × Int × Int)) (w : World) (hi1 : I64 total) (ho : OpsAt w A ops) (hi : ∀ j, j < ops.length → I64 (ops.getD j (0, 0, 0)).1 ∧ I64 (ops.getD j (0, 0, 0)).2.1 ∧ I64 (ops.getD j (0, 0, 0)).2.2) (hl : ops.length ≤ 9223372036854775807) :
    Calls Try.prog 4 #[.int .i64 total, .slice A ops.length cap] w fun e w' => e = .returned (.bool true) ∧ Below w.heap.size w w' := by
  have HK := Lib.hid K
  have HO := Lib.hid ho
  have HI := Lib.hid hi
  have HL := fun W => Lib.hid (lives_any K W)
  have C0 := Lib.hid (K.new total w hi1)
  have hf0 := new_fine total
  generalize newP total = m0 at *
  have HF0 := Lib.hid hf0
  clear K ho hi hi1 hf0
  go_enter Try.func4, Try.ntmps4
  go_wp2_with fail
  refine C0.out.mono ?_
  rintro _ w1 ⟨g, rfl, hg, ha, hb⟩
  have H1 : Hid (Hs At w g m0 w1) := Lib.hid ⟨hb, hg, ha⟩
  clear hg ha hb C0
  go_wp2_with fail
  go_loopw [6] (fun i wr => ∃ (j : Nat) (m : Px), i = .int .i64 (j : Int) ∧ j ≤ ops.length ∧ j ≤ 60 ∧ Fine m ∧ Hs At w g m wr) (fun i _ => ops.length - (intOf i).toNat)
  case atStart => exact ⟨0, m0, rfl, Nat.zero_le _, Nat.zero_le _, HF0.out, H1.out⟩
  case round =>
    obtain ⟨j, m, rfl, hj, hj80, hfm, hP⟩ := hrel
    clear H1 HF0
    by_cases hlt : j < ops.length ∧ j < 60
    · obtain ⟨hlt, h80⟩ := hlt
      have d1 : decide (j < ops.length) = true := by simp; omega
      have d2 : decide ((j : Int) < 60) = true := by simp; omega
      obtain ⟨b, off, rfl, hb, c0w, c1w, c2w⟩ := HO.out j hlt
      obtain ⟨i0, i1, i2⟩ := HI.out j hlt
      generalize ops.getD j (0, 0, 0) = o at *
      obtain ⟨k, t, n⟩ := o
      dsimp only at c0w c1w c2w i0 i1 i2
      have c0 := (hP.1.cell (p := ⟨b, off + j * 3, none⟩) hb).trans c0w
      have c1 := (hP.1.cell (p := ⟨b, off + j * 3 + 1, none⟩) hb).trans c1w
      have c2 := (hP.1.cell (p := ⟨b, off + j * 3 + 2, none⟩) hb).trans c2w
      have D := Lib.hid (do_any HK.out m g k t n wr hP.2.2 hfm i1 i2)
      unfold DoPost at D
      obtain ⟨q, hq⟩ : ∃ q, q = doP m k t n := ⟨_, rfl⟩
      rw [← hq] at D
      have hf' : Fine q.1 := by rw [hq]; exact do_fine hfm k t n
      obtain ⟨m', y⟩ := q
      dsimp only at D hf'
      have HF' := Lib.hid hf'
      have n0 : (0 : Int) ≤ (j : Int) := by omega
      have n1 : (j : Int) < (ops.length : Int) := by omega
      have HJ := Lib.hid (And.intro hlt h80)
      have HP := Lib.hid hP
      clear c0w c1w c2w i0 i1 i2 hb hq hf' hfm hP hj hj80 hlt h80
      go_wp2_with fail
      refine D.out.mono ?_
      rintro _ w2 ⟨rfl, ha, ho⟩
      have H2 := Lib.hid (hs_only HP.out ho ha)
      clear ha ho D HP c0 c1 c2
      have D := Lib.hid (HK.out.free w2 g m' H2.out.2.2 HF'.out)
      go_wp2_with fail
      refine D.out.mono ?_
      rintro _ w3 ⟨rfl, hb⟩
      have H3 := Lib.hid (hs_next HK.out H2.out hb)
      clear hb D H2
      have D := Lib.hid (HK.out.shares w3 g m' H3.out.2.2 HF'.out)
      go_wp2_with fail
      refine D.out.mono ?_
      rintro _ w4 ⟨A4, c4, rfl, hs4, hb⟩
      have H4 : Hid (Iz At w g m' A4 w4) := Lib.hid ⟨hs_next HK.out H3.out hb, hs4.base (fun b h _ => by have := HK.out.lt _ _ _ H3.out.2.2; omega)⟩
      clear hs4 hb D H3
      have HP0 : Hid (freeP m' = part m' 0) := Lib.hid (part_zero m').symm
      have HFr : Hid (0 ≤ freeP m') := Lib.hid (by have := part_small HF'.out 0; rw [part_zero] at this; exact this.1)
      have HPa := Lib.hid (part_all HF'.out)
      have HLs : Hid ((shares m'.h).length ≤ 64) := Lib.hid (shares_small m'.h)
      have HSf := fun i h => Lib.hid (share_facts HF'.out (k := i) h)
      have HPn := fun i h => Lib.hid (part_next m' (k := i) h)
      have HPs := fun i => Lib.hid (part_small HF'.out i)
      have HRi := fun i h => Lib.hid (shares_rise m'.h 64 i h)
      have HFq := fun W h => Lib.hid (HK.out.free W g m' h HF'.out)
      have HTq := fun W h => Lib.hid (HK.out.total W g m' h HF'.out)
      generalize freeP m' = fr at *
      obtain ⟨l, hl2⟩ : ∃ l, l = shares m'.h := ⟨_, rfl⟩
      have HRi : ∀ i, i + 1 < l.length → Hid ((l.getD i (0, 0)).1 < (l.getD (i + 1) (0, 0)).1) := fun i h => by rw [hl2] at h ⊢; exact HRi i h
      unfold Iz at H4
      rw [← hl2] at HPa HLs HSf HPn H4
      rw [← hl2]
      have HEl := Lib.hid hl2
      clear hl2
      go_wp2_with fail
      go_loopw [7, 9] (fun z i wq => ∃ k : Nat, i = .int .i64 (k : Int) ∧ k ≤ l.length ∧ z = .int .i64 (part m' k) ∧ Hid (Iz At w g m' A4 wq)) (fun _ i _ => l.length - (intOf i).toNat)
      case atStart => exact ⟨0, rfl, Nat.zero_le _, by rw [HP0.out], by unfold Iz; rw [← HEl.out]; exact H4⟩
      case round =>
        obtain ⟨k, rfl, hk, rfl, HZ⟩ := hrel
        clear H4 HP0
        by_cases hlt : k < l.length
        · have HJk := Lib.hid hlt
          have hz := HZ.out.2
          rw [← HEl.out] at hz
          obtain ⟨b, off, rfl, _, _, c0, c1⟩ := hz k hlt
          obtain ⟨f1, f2, f3⟩ := (HSf k hlt).out
          have hl64 := HLs.out
          have hn := (HPn k hlt).out
          have hs1 := (HPs (k + 1)).out
          have HHe := fun i => Lib.hid (HK.out.heldq (wr.drewN i) g m' (l.getD k (0, 0)).1 (HZ.out.drewN HK.out i).1.2.2 HF'.out f3)
          rw [f2] at HHe
          have hr : ∀ i, k = i + 1 → (l.getD i (0, 0)).1 < (l.getD k (0, 0)).1 := fun i e => by subst e; exact (HRi i hlt).out
          have hc : ∀ i, k = i + 1 → wr.cell? ⟨b, off + i * 2, none⟩ = some (.int .i64 (l.getD i (0, 0)).1) := fun i e => by
            obtain ⟨b', off', e1, _, _, c0', _⟩ := hz i (by omega)
            injection e1 with e1
            injection e1 with e2 e3
            rw [e2, e3]
            exact c0'
          have HN := Lib.hid hn
          rw [hn] at hs1
          obtain ⟨e, he⟩ : ∃ e, e = l.getD k (0, 0) := ⟨_, rfl⟩
          rw [← he] at c0 c1 f1 f2 f3 hr HHe hs1 HN
          obtain ⟨e1, e2⟩ := e
          dsimp only at c0 c1 f1 f2 f3 hr HHe hs1 HN
          have d3 : decide (e2 < 1) = false := decide_eq_false (by omega)
          have q1 : (e2 != e2) = false := by simp
          generalize part m' k = z at *
          have hw1 : IntKind.i64.wrap (z + e2) = z + e2 := by rw [IntKind.wrap_i64]; omega
          have hw2 : wrap64 (z + e2) = z + e2 := by unfold wrap64; omega
          have k1 : (0 : Int) ≤ (k : Int) := by omega
          have k2 : (k : Int) < (l.length : Int) := by omega
          by_cases hk0 : k = 0
          · have d4 : decide ((k : Int) > 0) = false := decide_eq_false (by omega)
            have d5 : decide (0 < (k : Int)) = false := decide_eq_false (by omega)
            have d7 : decide (0 < k) = false := decide_eq_false (by omega)
            have d8 : (0 < k) = False := eq_false (by omega)
            clear hk0 hn hs1 f1 f2 f3 hr hc he hlt hk hz HSf HPn HPs HRi
            go_upto_region 12 with fail
            go_quiet ((go_at_call 16; refine Calls.quiet_of_same (HHe _).out))
            go_wp2
            go_roundw
            case rel => exact ⟨k + 1, by go_num, by have := HJk.out; omega, by rw [HN.out], Lib.hid (HZ.out.drewN HK.out _)⟩
            case measure => have := HJk.out; simp [intOf]; omega
          · obtain ⟨i, hi⟩ : ∃ i, k = i + 1 := ⟨k - 1, by omega⟩
            have d4 : decide ((k : Int) > 0) = true := decide_eq_true (by omega)
            have d5 : decide (0 < (k : Int)) = true := decide_eq_true (by omega)
            have d7 : decide (0 < k) = true := decide_eq_true (by omega)
            have d8 : (0 < k) = True := eq_true (by omega)
            have c2 := hc i hi
            have hr2 := hr i hi
            have hw3 : IntKind.i64.wrap ((k : Int) - 1) = (i : Int) := by rw [IntKind.wrap_i64]; omega
            have hw4 : wrap64 ((k : Int) - 1) = (i : Int) := by unfold wrap64; omega
            have k3 : (0 : Int) ≤ (i : Int) := by omega
            have k4 : (i : Int) < (l.length : Int) := by omega
            generalize (l.getD i (0, 0)).1 = e0 at *
            have d6 : decide (e1 ≤ e0) = false := decide_eq_false (by omega)
            clear hk0 hn hs1 f1 f2 f3 hr hr2 hc he hlt hk hz hi HSf HPn HPs HRi
            go_upto_region 12 with fail
            go_quiet ((go_at_call 16; refine Calls.quiet_of_same (HHe _).out))
            go_wp2
            go_roundw
            case rel => exact ⟨k + 1, by go_num, by have := HJk.out; omega, by rw [HN.out], Lib.hid (HZ.out.drewN HK.out _)⟩
            case measure => have := HJk.out; simp [intOf]; omega
        · obtain rfl : k = l.length := by omega
          rw [HPa.out]
          clear hlt hk HSf HPn HPs HRi HPa HLs
          go_wp2_with fail
          refine (HFq _ HZ.out.1.2.2).out.mono ?_
          rintro _ w5 ⟨rfl, hb⟩
          have H5 := Lib.hid (hs_next HK.out HZ.out.1 hb)
          clear hb HFq HZ
          have d3 : decide (fr < 0) = false := decide_eq_false (by have := HFr.out; omega)
          have q1 : (m'.total != m'.total) = false := by simp
          go_wp2_with fail
          refine (HTq _ H5.out.2.2).out.mono ?_
          rintro _ w6 ⟨rfl, hb⟩
          have H6 := Lib.hid (hs_next HK.out H5.out hb)
          clear hb HTq H5
          go_wp2_with fail
          go_roundw
          case rel => exact ⟨j + 1, m', by go_num, by have := HJ.out.1; omega, by have := HJ.out.2; omega, HF'.out, H6.out⟩
          case measure => have := HJ.out.1; simp [intOf]; omega
    · have HB := Lib.hid hP.1
      clear hP hfm HI HO
      go_wp2_with fail
      all_goals
        refine (HL _).out.mono ?_
        rintro _ w2 ⟨rfl, hb⟩
        go_wp2
        go_ret
        exact ⟨rfl, HB.out.trans (hb.mono HB.out.size)⟩
end Go.Proofs.Ythdencddocgbjaa.pol
