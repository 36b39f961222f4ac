/-
  What is lost stays so, and is nobody's, and what is bad stays so till it is mended, or lost: the walk over what is asked of the program's calls. No condition.
-/
import Derived.Test.YtelpkfldmgeaiaaMuKit
import Derived.LoopTactic
import Derived.Deep.DeepCutAuto
namespace Go.Proofs.Ytelpkfldmgeaiaa.mut
open Go.RowKit Go.ChangeShapes
set_option linter.unusedVariables false
set_option linter.unusedSimpArgs false

theorem at_next {At : World → Nat → Mx → Prop} (K : Keeps At) {w W W' : World} {m : Mx} (h : Below w.heap.size w W ∧ At W w.heap.size m) (hb : Below W.heap.size W W') : Below w.heap.size w W' ∧ At W' w.heap.size m :=
  ⟨h.1.trans (hb.mono h.1.size), K.loc _ _ _ _ h.2 (hb.block _ (K.lt _ _ _ h.2)) hb.size⟩

set_option maxRecDepth 100000 in
set_option maxHeartbeats 4000000 in
theorem stays_walk {At : World → Nat → Mx → Prop} (K : Keeps At) (A : Option Addr) (cap : Nat) (ops : List (Int × Int)) (w : World) (ho : OpsAt w A ops) (hi : ∀ j, j < ops.length → I64 (ops.getD j (0, 0)).1 ∧ I64 (ops.getD j (0, 0)).2) (hl : ops.length ≤ 9223372036854775807) :
    Calls Try.prog 4 #[.slice A ops.length cap] w fun e w' => e = .returned (.bool true) ∧ Below w.heap.size w w' := by
  have HK := Lib.hid K
  have HO := Lib.hid ho
  have HI := Lib.hid hi
  have HL := fun W => Lib.hid (lives_any K W)
  have H0 : Hid (Below w.heap.size w (w.alloc mzB) ∧ At (w.alloc mzB) w.heap.size newM) := Lib.hid ⟨(Below.refl _ w).alloc (Nat.le_refl _) _, K.new w⟩
  clear K ho hi
  go_enter Try.func4, Try.ntmps4
  go_upto_region 2 with (first | refine wq_build rfl rfl ?_ | refine wq_box rfl _ rfl rfl ?_)
  try simp only [Act.put, List.setIfInBounds_toArray, List.set_cons_zero, List.set_cons_succ]
  generalize w.alloc mzB = W0 at *
  go_wp2_with fail
  go_loopw [4] (fun i wr => ∃ (j : Nat) (m : Mx), i = .int .i64 (j : Int) ∧ j ≤ ops.length ∧ j ≤ 80 ∧ Fine m ∧ (Below w.heap.size w wr ∧ At wr w.heap.size m)) (fun i _ => ops.length - (intOf i).toNat)
  case atStart => exact ⟨0, newM, rfl, Nat.zero_le _, Nat.zero_le _, new_fine, H0.out⟩
  case round =>
    obtain ⟨j, m, rfl, hj, hj80, hfm, hP⟩ := hrel
    clear H0
    by_cases hlt : j < ops.length ∧ j < 80
    · obtain ⟨hlt, h80⟩ := hlt
      have d1 : decide (j < ops.length) = true := by simp; omega
      have d2 : decide ((j : Int) < 80) = true := by simp; omega
      obtain ⟨b, off, rfl, hb, c0, c1⟩ := HO.out j hlt
      obtain ⟨i0, i1⟩ := HI.out j hlt
      generalize ops.getD j (0, 0) = o at *
      obtain ⟨k, t⟩ := o
      dsimp only at c0 c1 i0 i1
      have HCe : ∀ W, Below w.heap.size w W → W.cell? ⟨b, off + j * 2, none⟩ = some (.int .i64 k) ∧ W.cell? ⟨b, off + j * 2 + 1, none⟩ = some (.int .i64 t) := fun W h => ⟨(h.cell (p := ⟨b, off + j * 2, none⟩) hb).trans c0, (h.cell (p := ⟨b, off + j * 2 + 1, none⟩) hb).trans c1⟩
      have CBad := fun W h => Lib.hid (HK.out.bad W w.heap.size m h hfm)
      have CLost := fun W h => Lib.hid (HK.out.lost W w.heap.size m h hfm)
      have COwn := fun W h => Lib.hid (HK.out.owner W w.heap.size m h hfm)
      have CDo := fun W h => Lib.hid (do_any HK.out m w.heap.size k t W h hfm i1)
      unfold DoPost at CDo
      have hf' : Fine (doM m k t).1 := do_fine hfm k t
      have ql := fun h => do_lost hfm k t h
      have qb := fun h => do_bad (m := m) k t h
      have qo := fun h => do_owner (m := m) k t h
      obtain ⟨q, hq⟩ : ∃ q, q = doM m k t := ⟨_, rfl⟩
      rw [← hq] at CDo hf' ql qb qo
      obtain ⟨m', y⟩ := q
      dsimp only at CDo hf' ql qb qo
      have DBad := fun W h => Lib.hid (HK.out.bad W w.heap.size m' h hf')
      have DLost := fun W h => Lib.hid (HK.out.lost W w.heap.size m' h hf')
      have DOwn := fun W h => Lib.hid (HK.out.owner W w.heap.size m' h hf')
      have HF' := Lib.hid hf'
      have HFm := Lib.hid hfm
      obtain ⟨o, bad, lost⟩ := m
      obtain ⟨o', bad', lost'⟩ := m'
      dsimp only at CBad CLost COwn DBad DLost DOwn ql qb qo
      have HQl := Lib.hid ql
      have HQb := Lib.hid qb
      have HQo := Lib.hid qo
      have HP := Lib.hid hP
      have n0 : (0 : Int) ≤ (j : Int) := by omega
      have n1 : (j : Int) < (ops.length : Int) := by omega
      have HJ := Lib.hid (And.intro hlt h80)
      clear c0 c1 i0 i1 hb hq hf' hfm hP hj hj80 hlt h80 ql qb qo
      have C1 := CBad wr HP.out.2
      go_wp2_with fail
      refine C1.out.mono ?_
      rintro _ w1 ⟨rfl, hb1⟩
      have H1 := Lib.hid (at_next HK.out HP.out hb1)
      clear hb1 C1 CBad HP
      have C2 := CLost w1 H1.out.2
      go_wp2_with fail
      refine C2.out.mono ?_
      rintro _ w2 ⟨rfl, hb2⟩
      have H2 := Lib.hid (at_next HK.out H1.out hb2)
      clear hb2 C2 CLost H1
      have C3 := COwn w2 H2.out.2
      go_wp2_with fail
      refine C3.out.mono ?_
      rintro _ w3 ⟨rfl, hb3⟩
      have H3 := Lib.hid (at_next HK.out H2.out hb3)
      clear hb3 C3 COwn H2
      obtain ⟨c0, c1⟩ := HCe w3 H3.out.1
      have C4 := CDo w3 H3.out.2
      clear CDo
      go_wp2_with fail
      refine C4.out.mono ?_
      rintro _ w4 ⟨rfl, ha4, ho4⟩
      have H4 : Hid (Below w.heap.size w w4 ∧ At w4 w.heap.size ⟨o', bad', lost'⟩) := Lib.hid ⟨ho4.below H3.out.1 (Nat.le_refl _) H3.out.1.size, ha4⟩
      clear ha4 ho4 C4 H3 c0 c1
      go_upto_region 7 with fail
      go_cut [51] (fun x wx => x = .bool false ∧ Hid (Below w.heap.size w wx ∧ At wx w.heap.size ⟨o', bad', lost'⟩))
      case first =>
        have D1 := DLost w4 H4.out.2
        cases lost with
        | true =>
          obtain ⟨rfl, rfl, rfl⟩ : o' = -1 ∧ bad' = false ∧ lost' = true := by
            have h1 := HQl.out rfl
            injection h1 with h2 h3 h4
            have h5 := HFm.out.2 rfl
            exact ⟨h2.trans h5.1, h3.trans h5.2, h4⟩
          go_wp2_with fail
          refine D1.out.mono ?_
          rintro _ w5 ⟨rfl, hb5⟩
          have H5 := Lib.hid (at_next HK.out H4.out hb5)
          have D2 := DOwn w5 H5.out.2
          clear hb5 D1
          go_wp2_with fail
          refine D2.out.mono ?_
          rintro _ w6 ⟨rfl, hb6⟩
          have H6 := Lib.hid (at_next HK.out H5.out hb6)
          have D3 := DLost w6 H6.out.2
          clear hb6 D2
          go_wp2_with fail
          refine D3.out.mono ?_
          rintro _ w7 ⟨rfl, hb7⟩
          have H7 := Lib.hid (at_next HK.out H6.out hb7)
          have D4 := DBad w7 H7.out.2
          clear hb7 D3
          go_wp2_with fail
          refine D4.out.mono ?_
          rintro _ w8 ⟨rfl, hb8⟩
          have H8 := Lib.hid (at_next HK.out H7.out hb8)
          clear hb8 D4
          go_wp2_with fail
          go_meet
          exact ⟨rfl, H8⟩
        | false =>
          cases lost' with
          | true =>
            obtain rfl : bad' = false := (HF'.out.2 rfl).2
            go_wp2_with fail
            refine D1.out.mono ?_
            rintro _ w7 ⟨rfl, hb7⟩
            have H7 := Lib.hid (at_next HK.out H4.out hb7)
            have D4 := DBad w7 H7.out.2
            clear hb7 D1
            go_wp2_with fail
            refine D4.out.mono ?_
            rintro _ w8 ⟨rfl, hb8⟩
            have H8 := Lib.hid (at_next HK.out H7.out hb8)
            clear hb8 D4
            go_wp2_with fail
            go_meet
            exact ⟨rfl, H8⟩
          | false =>
            go_wp2_with fail
            refine D1.out.mono ?_
            rintro _ w7 ⟨rfl, hb7⟩
            have H7 := Lib.hid (at_next HK.out H4.out hb7)
            clear hb7 D1
            go_wp2_with fail
            go_meet
            exact ⟨rfl, H7⟩
      case rest =>
        obtain ⟨rfl, H5⟩ := hcut
        clear H4 DLost DBad
        have DBad := fun W h => Lib.hid (HK.out.bad W w.heap.size ⟨o', bad', lost'⟩ h HF'.out)
        have DLost := fun W h => Lib.hid (HK.out.lost W w.heap.size ⟨o', bad', lost'⟩ h HF'.out)
        dsimp only at DBad DLost
        go_upto_region 9 with fail
        go_cut [8] (fun x wx => ∃ mended, x = .bool mended ∧ Hid (bad = true → bad' = false → lost' = false → mended = true) ∧ Hid (Below w.heap.size w wx ∧ At wx w.heap.size ⟨o', bad', lost'⟩))
        case first =>
          obtain ⟨c0, c1⟩ := HCe wc H5.out.1
          by_cases hm : bad = true ∧ bad' = false ∧ lost' = false
          · obtain ⟨q0, q1, q2, q3, q4, q5⟩ := HQb.out hm.1 hm.2.1 hm.2.2
            have e0 : (k != 0) = true := by simpa using q0
            have e1 : (k != 1) = true := by simpa using q1
            have e2 : (k != 2) = true := by simpa using q2
            have e3 : (k != 3) = true := by simpa using q3
            have e4 : (t == o) = true := by simpa using q4
            have e5 : decide (o ≥ 0) = true := decide_eq_true q5
            have e6 : decide (0 ≤ o) = true := decide_eq_true q5
            clear q0 q1 q2 q3 q4 q5 hm
            go_wp2_with fail
            go_meet
            exact ⟨true, rfl, Lib.hid (fun _ _ _ => rfl), H5⟩
          · have HM : Hid (∀ b : Bool, bad = true → bad' = false → lost' = false → b = true) := Lib.hid (fun b h1 h2 h3 => absurd ⟨h1, h2, h3⟩ hm)
            clear hm
            go_wp2_with fail
            all_goals
              go_meet
              exact ⟨_, rfl, Lib.hid (HM.out _), H5⟩
        case rest =>
          obtain ⟨mended, rfl, HMe, H6⟩ := hcut
          clear H5 HQl HQb
          go_upto_region 10 with fail
          go_cut [109] (fun x wx => x = .bool false ∧ Hid (Below w.heap.size w wx ∧ At wx w.heap.size ⟨o', bad', lost'⟩))
          case first =>
            have D1 := DBad _ H6.out.2
            cases bad with
            | false =>
              go_wp2_with fail
              go_meet
              exact ⟨rfl, H6⟩
            | true =>
              go_wp2_with fail
              refine D1.out.mono ?_
              rintro _ w7 ⟨rfl, hb7⟩
              have H7 := Lib.hid (at_next HK.out H6.out hb7)
              have D2 := DLost _ H7.out.2
              clear hb7 D1
              cases bad' with
              | true =>
                go_wp2_with fail
                go_meet
                exact ⟨rfl, H7⟩
              | false =>
                go_wp2_with fail
                refine D2.out.mono ?_
                rintro _ w8 ⟨rfl, hb8⟩
                have H8 := Lib.hid (at_next HK.out H7.out hb8)
                clear hb8 D2
                cases lost' with
                | true =>
                  go_wp2_with fail
                  go_meet
                  exact ⟨rfl, H8⟩
                | false =>
                  obtain rfl : mended = true := by
                    have h := HMe.out
                    simpa using h
                  go_wp2_with fail
                  go_meet
                  exact ⟨rfl, H8⟩
          case rest =>
            obtain ⟨rfl, H7⟩ := hcut
            clear H6 HMe
            go_upto_region 12 with fail
            go_cut [122] (fun x wx => x = .bool false ∧ Hid (Below w.heap.size w wx ∧ At wx w.heap.size ⟨o', bad', lost'⟩))
            case first =>
              have D1 := DOwn _ H7.out.2
              by_cases h0 : 0 ≤ o
              · have e5 : decide (o ≥ 0) = true := decide_eq_true h0
                have e6 : decide (0 ≤ o) = true := decide_eq_true h0
                go_wp2_with fail
                refine D1.out.mono ?_
                rintro _ w8 ⟨rfl, hb8⟩
                have H8 := Lib.hid (at_next HK.out H7.out hb8)
                have D2 := DOwn _ H8.out.2
                clear hb8 D1
                by_cases h1 : 0 ≤ o'
                · have f5 : decide (o' ≥ 0) = true := decide_eq_true h1
                  have f6 : decide (0 ≤ o') = true := decide_eq_true h1
                  have f7 : (o' != o) = false := by simpa using HQo.out h0 h1
                  clear h0 h1
                  go_wp2_with fail
                  refine D2.out.mono ?_
                  rintro _ w9 ⟨rfl, hb9⟩
                  have H9 := Lib.hid (at_next HK.out H8.out hb9)
                  clear hb9 D2
                  go_wp2_with fail
                  go_meet
                  exact ⟨rfl, H9⟩
                · have f5 : decide (o' ≥ 0) = false := decide_eq_false h1
                  have f6 : decide (0 ≤ o') = false := decide_eq_false h1
                  clear h0 h1
                  go_wp2_with fail
                  go_meet
                  exact ⟨rfl, H8⟩
              · have e5 : decide (o ≥ 0) = false := decide_eq_false h0
                have e6 : decide (0 ≤ o) = false := decide_eq_false h0
                clear h0
                go_wp2_with fail
                go_meet
                exact ⟨rfl, H7⟩
            case rest =>
              obtain ⟨rfl, H8⟩ := hcut
              clear H7
              go_wp2_with fail
              exact ⟨⟨j + 1, ⟨o', bad', lost'⟩, by go_num, by have := HJ.out.1; omega, by have := HJ.out.2; omega, HF'.out, H8.out⟩, by have := HJ.out.1; simp [intOf]; omega⟩
    · have HB := Lib.hid hP.1
      clear hP hfm HI HO
      go_wp2_with fail
      all_goals
        refine (HL _).out.mono ?_
        rintro _ w2 ⟨rfl, hb⟩
        go_wp2
        go_ret
        exact ⟨rfl, HB.out.trans (hb.mono HB.out.size)⟩
end Go.Proofs.Ytelpkfldmgeaiaa.mut
