/-
  Texts of one claim in one file: GLawOwn2. Each has its own sentence, with its conditions.
-/
import Derived.Test.YtjbcmedljgafkaaDoorZq37
/-
  A program copied into memory of its own, as the statements do it: the walk. No condition.
-/

namespace Go.Proofs.YtjbcmedljgafkaaDoor.pgm
open Go.RowKit Go.ChangeShapes
open Go.Proofs.YtjbcmedljgafkaaDoor.objs (De zero DAt put3 cells3 put3_same put3_far put3_below step_appD)
open Go.Proofs.YtjbcmedljgafkaaDoor.need (WAt WG OwnW own_more OwnMore)
set_option linter.unusedVariables false

set_option maxRecDepth 100000 in
set_option maxHeartbeats 16000000 in
theorem own10_any (v : Value) (p : Pg) (w : World) (hv : PG w v p) : Calls Tryd.prog 10 #[v] w (OwnPost10 p w) := by
  obtain ⟨A, B, C, na, nb, nc, ca, cb, cc, rfl, hl, hA, hB, hC, _, _, _, qa, qb, qc⟩ := hv
  obtain ⟨ds, ws, fs⟩ := p
  dsimp only at hl hA hB hC
  have HA := Lib.hid hA
  have HB := Lib.hid hB
  have HC := Lib.hid hC
  have HL := Lib.hid hl
  have HO0 := Lib.hid (Ob.new w (.slice A na ca) (.slice B nb cb) (.slice C nc cc))
  unfold pgB at HO0
  unfold OwnPost10
  clear hA hB hC hl
  go_enter Tryd.func10, Tryd.ntmps10
  go_upto_region 2 with fail
  generalize ((w.alloc (.cells #[.slice A na ca, .slice B nb cb, .slice C nc cc] 26)).alloc (.cells #[sN, sN, sN] 26)).alloc (.cells #[sN, sN, sN] 26) = W0 at *
  have HSh := Lib.hid (And.intro HB.out.short HC.out.short)
  go_cut [4] (fun i wx => i = .int .i64 0 ∧ wx = W0)
  case first =>
    go_wp2_with fail
    go_meet
    exact ⟨rfl, rfl⟩
  case rest =>
  obtain ⟨rfl, rfl⟩ := hcut
  (rename (∀ (a : Act) (w : World), Code.wp _ _ _ a w → _) => hK; refine hK _ _ ?_; clear hK)
  go_cut [4] (fun i wx => ∃ d, Hid (Ob w (.slice A na ca) (.slice B nb cb) (.slice C nc cc) d sN sN wx ∧ Go.Proofs.YtjbcmedljgafkaaDoor.objs.Own wx (w.heap.size + 1 + 1 + 1) d ds))
  case first =>
    clear HB HC HSh
    go_wp2_with fail
    go_loopw [4] (fun i wr => ∃ (j : Nat) (d : Value), j ≤ ds.length ∧ i = .int .i64 (j : Int) ∧ Hid (Ob w (.slice A na ca) (.slice B nb cb) (.slice C nc cc) d sN sN wr) ∧ Hid (Go.Proofs.YtjbcmedljgafkaaDoor.objs.Own wr (w.heap.size + 1 + 1 + 1) d (ds.take j))) (fun i _ => ds.length - (intOf i).toNat)
    case atStart => exact ⟨0, _, Nat.zero_le _, rfl, HO0, Lib.hid (World.ownsRow_nil ..)⟩
    case round =>
      clear HO0
      obtain ⟨j, d, hj, rfl, HO, HR⟩ := hrel
      obtain ⟨x0, x1, x2, _, _, _⟩ := cells3 HO.out.a
      have htl : (ds.take j).length = j := by rw [List.length_take]; omega
      obtain ⟨Ad, cd, hd⟩ := HR.out.slice
      rw [htl] at hd
      subst hd
      by_cases hlt : j < ds.length
      · have hl40 := HL.out
        have hlt' : (j : Int) < (na : Int) := by omega
        have hlt4 : (j : Int) < 40 := by omega
        obtain ⟨a, oa, rfl, hba, a0, a1, a2⟩ := (HA.out.next HO.out.below) j hlt
        have HT := Lib.hid (take_one (d := zero) hlt)
        generalize ds.getD j zero = y at *
        obtain ⟨y0, y1, y2⟩ := y
        dsimp only at a0 a1 a2
        have hbA : Below wr.heap.size wr (wr.alloc (.cells #[.int .i64 y0, .int .i64 y1, .int .i64 y2] 66)) := (Below.refl _ _).alloc (Nat.le_refl _) _
        have hown1 := HR.out.next hbA
        have hone : DAt (wr.alloc (.cells #[.int .i64 y0, .int .i64 y1, .int .i64 y2] 66)) (some ⟨wr.heap.size, 0, none⟩) [(y0, y1, y2)] := Go.Proofs.YtjbcmedljgafkaaDoor.objs.DAt.one (d := (y0, y1, y2)) (heap_alloc_new wr _)
        have hbase : w.heap.size + 1 + 1 + 1 ≤ (wr.alloc (.cells #[.int .i64 y0, .int .i64 y1, .int .i64 y2] 66)).heap.size := by have := HO.out.lt; rw [World.size_alloc]; omega
        have hll : (ds.take j).length + 1 ≤ 100000 := by omega
        have HLn : Hid ((ds.take j ++ [(y0, y1, y2)]).length = j + 1) := Lib.hid (by rw [List.length_append, htl]; rfl)
        have Hap := fun (W2 : World) (h2 : (wr.alloc (.cells #[.int .i64 y0, .int .i64 y1, .int .i64 y2] 66)).grownBy W2 (Value.slice Ad j cd).ownBlock) => HO.out.grown hbA h2 (fun i e => (HR.out.lt e).1)
        obtain ⟨q0, _, _, _, _, _⟩ := cells3 HO.out.q
        obtain ⟨b0, _, _, _, _, _⟩ := cells3 ((hbA.block _ (lt_of_block HO.out.q)).trans HO.out.q)
        have u0 := (hbA.cell (p := ⟨w.heap.size, 0, none⟩) (lt_of_block HO.out.a)).trans x0
        have v0 := (hbA.cell (p := ⟨a, oa + j * 3, none⟩) hba).trans a0
        have v1 := (hbA.cell (p := ⟨a, oa + j * 3 + 1, none⟩) hba).trans a1
        have v2 := (hbA.cell (p := ⟨a, oa + j * 3 + 2, none⟩) hba).trans a2
        generalize ds.take j = ls at *
        clear hbA hba hl40 x1 x2
        go_wp2_with fail
        go_region_law (first
          | (refine step_appD (w := (wr.alloc (.cells #[.int .i64 y0, .int .i64 y1, .int .i64 y2] 66)).drew) (by rfl) (.tmp 22) (.tmp 28) (by rfl) (w.heap.size + 1 + 1 + 1) 1 1 (.slice Ad j cd) (some ⟨wr.heap.size, 0, none⟩) ls [(y0, y1, y2)] (by rfl) hown1 (by rfl) rfl (fun h => by cases h) hone hll hbase ?_; intro v2 W9 hv2 hg2; have hAp := Hap W9 ⟨hg2.os, hg2.tape, hg2.output, hg2.size, hg2.block⟩; obtain ⟨g0, g1, g2, gf0, gf1, gf2⟩ := cells3 hAp.q; have HAp := Lib.hid hAp; obtain ⟨Av, cv, hve⟩ := hv2.slice; rw [HLn.out] at hve; subst hve; have HV2 := Lib.hid hv2; clear hAp hv2 hg2)
          | (refine step_appD (w := wr.drew.alloc (.cells #[.int .i64 y0, .int .i64 y1, .int .i64 y2] 66)) (by rfl) (.tmp 22) (.tmp 28) (by rfl) (w.heap.size + 1 + 1 + 1) 1 1 (.slice Ad j cd) (some ⟨wr.heap.size, 0, none⟩) ls [(y0, y1, y2)] (by rfl) hown1 (by rfl) rfl (fun h => by cases h) hone hll hbase ?_; intro v2 W9 hv2 hg2; have hAp := Hap W9 ⟨hg2.os, hg2.tape, hg2.output, hg2.size, hg2.block⟩; obtain ⟨g0, g1, g2, gf0, gf1, gf2⟩ := cells3 hAp.q; have HAp := Lib.hid hAp; obtain ⟨Av, cv, hve⟩ := hv2.slice; rw [HLn.out] at hve; subst hve; have HV2 := Lib.hid hv2; clear hAp hv2 hg2))
        all_goals
          go_wp2_with fail
          go_roundw
          case rel => exact ⟨j + 1, _, by omega, by go_num, Lib.hid (HAp.out.set (pg_set0 HAp.out.q _)), Lib.hid (by rw [HT.out]; exact HV2.out.keep fun g hg => Below.heap_setCell _ ⟨w.heap.size + 1 + 1, 0, none⟩ _ g (by have := (HV2.out.lt hg).1; show g ≠ w.heap.size + 1 + 1; omega))⟩
          case measure => simp [intOf]; omega
      · obtain rfl : j = ds.length := by omega
        rw [List.take_length] at HR
        have hl40 := HL.out
        by_cases hn : ds.length < na
        · have t1 : (ds.length : Int) < (na : Int) := by omega
          have t2 : decide ((ds.length : Int) < 40) = false := by simp; omega
          go_wp2_with fail
          go_meet
          exact ⟨_, Lib.hid ⟨HO.out, HR.out⟩⟩
        · have t1 : decide ((ds.length : Int) < (na : Int)) = false := by simp; omega
          go_wp2_with fail
          go_meet
          exact ⟨_, Lib.hid ⟨HO.out, HR.out⟩⟩
  case rest =>
    obtain ⟨d, HO⟩ := hcut
    clear HO0
    (rename (∀ (a : Act) (w : World), Code.wp _ _ _ a w → _) => hK; refine hK _ _ ?_; clear hK; apply wp_seq_k; intro _ _)
    have HM0 := Lib.hid (Om.start HO.out.1 HO.out.2)
    clear HO
    generalize wc.heap.size = M at HM0
    go_cut [5] (fun i wx => ∃ v, Hid (Om w (.slice A na ca) (.slice B nb cb) (.slice C nc cc) d v sN ds M wx ∧ OwnV wx M v ws))
    case first =>
      clear HA HC HL
      go_wp2_with fail
      go_loopw [5] (fun i wr => ∃ (j : Nat) (v : Value), j ≤ ws.length ∧ i = .int .i64 (j : Int) ∧ Hid (Om w (.slice A na ca) (.slice B nb cb) (.slice C nc cc) d v sN ds M wr) ∧ Hid (OwnV wr M v (ws.take j))) (fun i _ => ws.length - (intOf i).toNat)
      case atStart => exact ⟨0, _, Nat.zero_le _, rfl, HM0, Lib.hid (OwnV.nil _ _)⟩
      case round =>
        clear HM0
        obtain ⟨j, v, hj, rfl, HO, HR⟩ := hrel
        obtain ⟨x0, x1, x2, _, _, _⟩ := cells3 HO.out.o.a
        have htl : (ws.take j).length = j := by rw [List.length_take]; omega
        obtain ⟨Ad, cd, hd⟩ := HR.out.slice
        rw [htl] at hd
        subst hd
        have hl40 := HB.out.1
        by_cases hlt : j < ws.length
        · have hlt' : (j : Int) < (nb : Int) := by omega
          have hlt4 : (j : Int) < 40 := by omega
          obtain ⟨a, oa, Aj, nj, cj, rfl, hba, a0, hWG, hn1, hn2, _⟩ := (HB.out.next HO.out.o.below).2 j hlt
          have HT := Lib.hid (take_one (d := []) hlt)
          generalize ws.getD j [] = y at *
          have HOw := fun W (hb : Below wr.heap.size wr W) => Lib.hid (own_more Aj nj cj y (by omega) W (hWG.next hb))
          unfold OwnMore at HOw
          have HLn : Hid ((ws.take j ++ [y]).length = j + 1) := Lib.hid (by rw [List.length_append, htl]; rfl)
          have hll : (ws.take j).length ≤ 100000 := by omega
          have HN3 := fun w3 (hb3 : Below wr.heap.size wr w3) => Lib.hid (And.intro (HO.out.next hb3) (HR.out.next hb3))
          have hMr : M ≤ wr.heap.size := HO.out.hd.1
          obtain ⟨_, q1, _, _, _, _⟩ := cells3 HO.out.o.q
          generalize ws.take j = ls at *
          clear hWG hl40 x0 x2 HO HR
          go_wp2_with fail
          go_region_law (first
            | (go_simp; go_at_call 21; refine (HOw _ ?_).out.mono ?_; (exact (Below.refl wr.heap.size wr).drew); rintro e w3 ⟨A2, c2, rfl, hO2, hb3⟩; have hs3 := HN3 w3 ((Below.refl wr.heap.size wr).drew.trans hb3); obtain ⟨_, e1, _, ef0, ef1, ef2⟩ := cells3 hs3.out.1.o.q; have hO3 := hO2.base (base' := M) hMr; have hM3 : M ≤ w3.heap.size := hs3.out.1.hd.1; have hb4 : Below w3.heap.size w3 (w3.alloc (.cells #[.slice A2 y.length c2] 67)) := (Below.refl _ _).alloc (Nat.le_refl _) _; have hown3 := hs3.out.2; have Hap := (fun (W2 : World) (h2 : (w3.alloc (.cells #[.slice A2 y.length c2] 67)).grownBy W2 (Value.slice Ad j cd).ownBlock) => hs3.out.1.grown hb4 h2 (fun i e => (hown3.inB e).1)); obtain ⟨_, f1, _, _, _, _⟩ := cells3 ((hb4.block _ (lt_of_block hs3.out.1.o.q)).trans hs3.out.1.o.q); clear hb4 hO2)
            | (refine step_appV (w := w3) (by rfl) (.tmp 43) (.tmp 50) (by rfl) M 1 (.slice Ad j cd) (.slice A2 y.length c2) ls y (by rfl) hown3 (by rfl) hO3 (by rfl) hll hM3 ?_; intro v2 W9 hv2 hg2; have hAp := Hap W9 ⟨hg2.os, hg2.tape, hg2.output, hg2.size, hg2.block⟩; obtain ⟨g0, g1, g2, gf0, gf1, gf2⟩ := cells3 hAp.o.q; have HAp := Lib.hid hAp; obtain ⟨Av, cv, hve⟩ := hv2.slice; rw [HLn.out] at hve; subst hve; have HV2 := Lib.hid hv2; clear hAp hv2 hg2))
          all_goals
            go_wp2_with fail
            go_roundw
            case rel => exact ⟨j + 1, _, by omega, by go_num, Lib.hid (HAp.out.set (pg_set1 HAp.out.o.q _)), Lib.hid (by rw [HT.out]; exact HV2.out.hold fun g hg _ => Below.heap_setCell _ ⟨w.heap.size + 1 + 1, 1, none⟩ _ g (by have := HAp.out.hm; show g ≠ w.heap.size + 1 + 1; omega))⟩
            case measure => simp [intOf]; omega
        · obtain rfl : j = ws.length := by omega
          rw [List.take_length] at HR
          by_cases hn : ws.length < nb
          · have t1 : (ws.length : Int) < (nb : Int) := by omega
            have t2 : decide ((ws.length : Int) < 40) = false := by simp; omega
            go_wp2_with fail
            go_meet
            exact ⟨_, Lib.hid ⟨HO.out, HR.out⟩⟩
          · have t1 : decide ((ws.length : Int) < (nb : Int)) = false := by simp; omega
            go_wp2_with fail
            go_meet
            exact ⟨_, Lib.hid ⟨HO.out, HR.out⟩⟩
    case rest =>
      obtain ⟨v, HO⟩ := hcut
      clear HM0
      (rename (∀ (a : Act) (w : World), Code.wp _ _ _ a w → _) => hK; refine hK _ _ ?_; clear hK; apply wp_seq_k; intro _ _)
      have HN0 := Lib.hid (On.start HO.out.1 HO.out.2)
      clear HO
      generalize wc.heap.size = N at HN0
      go_cut [6] (fun i wx => ∃ u, Hid (On w (.slice A na ca) (.slice B nb cb) (.slice C nc cc) d v u ds ws M N wx ∧ OwnF wx N u fs))
      case first =>
        clear HA HB HL
        go_wp2_with fail
        go_loopw [6] (fun i wr => ∃ (j : Nat) (u : Value), j ≤ fs.length ∧ i = .int .i64 (j : Int) ∧ Hid (On w (.slice A na ca) (.slice B nb cb) (.slice C nc cc) d v u ds ws M N wr) ∧ Hid (OwnF wr N u (fs.take j))) (fun i _ => fs.length - (intOf i).toNat)
        case atStart => exact ⟨0, _, Nat.zero_le _, rfl, HN0, Lib.hid (OwnF.nil _ _)⟩
        case round =>
          clear HN0
          obtain ⟨j, u, hj, rfl, HO, HR⟩ := hrel
          obtain ⟨x0, x1, x2, _, _, _⟩ := cells3 HO.out.m.o.a
          have htl : (fs.take j).length = j := by rw [List.length_take]; omega
          obtain ⟨Ad, cd, hd⟩ := HR.out.slice
          rw [htl] at hd
          subst hd
          have hl20 := HC.out.1
          by_cases hlt : j < fs.length
          · have hlt' : (j : Int) < (nc : Int) := by omega
            have hlt4 : (j : Int) < 20 := by omega
            obtain ⟨a, oa, Aj, nj, cj, rfl, hba, hfc, hDA, hmn, hn1, hn2, _⟩ := HC.out.2 j hlt
            obtain ⟨a0, a1, a2⟩ := hfc.keep (HO.out.m.o.below.block a hba)
            have hbw := Nat.lt_of_lt_of_le hba HO.out.m.o.below.size
            have HT := Lib.hid (take_one (d := Fn.zero) hlt)
            generalize fs.getD j Fn.zero = y at *
            obtain ⟨far, flo, fco⟩ := y
            dsimp only at hfc hDA hmn a0 a1 a2
            have hZ1 : ∀ O, Below wr.heap.size wr (wr.alloc O) := fun O => (Below.refl _ wr).alloc (Nat.le_refl _) _
            have hqa := lt_of_block HO.out.m.o.a
            have x2a := fun O => ((hZ1 O).cell (p := ⟨w.heap.size, 2, none⟩) hqa).trans x2
            have a0a := fun O => ((hZ1 O).cell (p := ⟨a, oa + j * 3, none⟩) hbw).trans a0
            have a1a := fun O => ((hZ1 O).cell (p := ⟨a, oa + j * 3 + 1, none⟩) hbw).trans a1
            have HF := Lib.hid (Of.new HO.out HR.out far flo (.slice none 0 0))
            have HFC := Lib.hid hfc
            have HDA := Lib.hid hDA
            have HMN := Lib.hid hmn
            clear hZ1 hDA hfc hqa hbw hmn
            generalize fs.take j = fl at *
            go_upto_region 13 with fail
            go_cut [6, 7] (fun i p wx => i = .int .i64 (j : Int) ∧ ∃ g : Nat, p = .pointer (some ⟨g, 0, none⟩) ∧ Hid (Of w (.slice A na ca) (.slice B nb cb) (.slice (some ⟨a, oa, none⟩) nc cc) d v (.slice Ad j cd) ds ws M N fl g far flo (.slice none 0 0) wx))
            case first =>
              go_wp2_with fail
              go_region
              all_goals
                go_wp2_with fail
                go_meet
                exact ⟨rfl, _, rfl, HF⟩
            case rest =>
              obtain ⟨rfl, g, rfl, HO2⟩ := hcut
              clear HF HO HR x0 x1 x2 x2a a0 a1 a2 a0a a1a
              (rename (∀ (a : Act) (w : World), Code.wp _ _ _ a w → _) => hK; refine hK _ _ ?_; clear hK; apply wp_seq_k; intro _ _)
              have HJ0 := Lib.hid (OwnJ.nil wc (g + 1))
              go_cut [8] (fun k wx => ∃ c, Hid (Of w (.slice A na ca) (.slice B nb cb) (.slice (some ⟨a, oa, none⟩) nc cc) d v (.slice Ad j cd) ds ws M N fl g far flo c wx) ∧ Hid (OwnJ wx (g + 1) c fco))
              case first =>
                go_wp2_with fail
                obtain ⟨Wo, rfl⟩ : ∃ Wo, Wo = wr := ⟨_, rfl⟩
                go_loopw [8] (fun i wr => ∃ (k : Nat) (c : Value), k ≤ fco.length ∧ i = .int .i64 (k : Int) ∧ Hid (Of w (.slice A na ca) (.slice B nb cb) (.slice (some ⟨a, oa, none⟩) nc cc) d v (.slice Ad j cd) ds ws M N fl g far flo c wr) ∧ Hid (OwnJ wr (g + 1) c (fco.take k))) (fun i _ => fco.length - (intOf i).toNat)
                case atStart => exact ⟨0, _, Nat.zero_le _, rfl, HO2, HJ0⟩
                case round =>
                  clear HO2 HJ0
                  obtain ⟨k, c, hk, rfl, HO, HR⟩ := hrel
                  obtain ⟨_, _, x2, _, _, _⟩ := cells3 HO.out.n.m.o.a
                  obtain ⟨_, _, a2⟩ := HFC.out.keep (HO.out.n.m.o.below.block a hba)
                  have hbw := Nat.lt_of_lt_of_le hba HO.out.n.m.o.below.size
                  have htk : (fco.take k).length = k := by rw [List.length_take]; omega
                  obtain ⟨Ac, cd2, hc⟩ := HR.out.slice
                  rw [htk] at hc
                  subst hc
                  by_cases hlk : k < fco.length
                  · have hlk' : (k : Int) < (nj : Int) := by have := HMN.out; omega
                    have hlk2 : (k : Int) < 250 := by have := HMN.out; omega
                    obtain ⟨b2, ob2, rfl, hbb, c0, c1, c2⟩ := (HDA.out.next HO.out.n.m.o.below) k hlk
                    have HT2 := Lib.hid (take_one (d := zero) hlk)
                    generalize fco.getD k zero = z at *
                    obtain ⟨z0, z1, z2⟩ := z
                    dsimp only at c0 c1 c2
                    have hbA : Below wr.heap.size wr (wr.alloc (.cells #[.int .i64 z0, .int .i64 z1, .int .i64 z2] 55)) := (Below.refl _ _).alloc (Nat.le_refl _) _
                    have hown1 := HR.out.next hbA
                    have hone : DAt (wr.alloc (.cells #[.int .i64 z0, .int .i64 z1, .int .i64 z2] 55)) (some ⟨wr.heap.size, 0, none⟩) [(z0, z1, z2)] := DAt.oneJ (d := (z0, z1, z2)) (heap_alloc_new wr _)
                    have hbase : g + 1 ≤ (wr.alloc (.cells #[.int .i64 z0, .int .i64 z1, .int .i64 z2] 55)).heap.size := by have := lt_of_block HO.out.hg; rw [World.size_alloc]; omega
                    have hll : (fco.take k).length + 1 ≤ 100000 := by have := HMN.out; omega
                    have HLn : Hid ((fco.take k ++ [(z0, z1, z2)]).length = k + 1) := Lib.hid (by rw [List.length_append, htk]; rfl)
                    have Hap := fun (W2 : World) (h2 : (wr.alloc (.cells #[.int .i64 z0, .int .i64 z1, .int .i64 z2] 55)).grownBy W2 (Value.slice Ac k cd2).ownBlock) => HO.out.grown hbA h2 (fun i e => (HR.out.lt e).1)
                    obtain ⟨_, _, q2, _, _, _⟩ := cells3 HO.out.hg
                    obtain ⟨_, _, p2, _, _, _⟩ := cells3 ((hbA.block _ (lt_of_block HO.out.hg)).trans HO.out.hg)
                    have u2 := (hbA.cell (p := ⟨w.heap.size, 2, none⟩) (lt_of_block HO.out.n.m.o.a)).trans x2
                    have s2 := (hbA.cell (p := ⟨a, oa + j * 3 + 2, none⟩) hbw).trans a2
                    have v0 := (hbA.cell (p := ⟨b2, ob2 + k * 3, none⟩) hbb).trans c0
                    have v1 := (hbA.cell (p := ⟨b2, ob2 + k * 3 + 1, none⟩) hbb).trans c1
                    have v2 := (hbA.cell (p := ⟨b2, ob2 + k * 3 + 2, none⟩) hbb).trans c2
                    generalize fco.take k = lk at *
                    clear hbA hbb hbw
                    go_wp2_with fail
                    go_region_law (first
                      | (refine step_appJ (w := (wr.alloc (.cells #[.int .i64 z0, .int .i64 z1, .int .i64 z2] 55)).drew) (by rfl) (.tmp 93) (.tmp 103) (by rfl) (g + 1) 1 1 (.slice Ac k cd2) (some ⟨wr.heap.size, 0, none⟩) lk [(z0, z1, z2)] (by rfl) hown1 (by rfl) rfl (fun h => by cases h) hone hll hbase ?_; intro v2 W9 hv2 hg2; have hAp := Hap W9 ⟨hg2.os, hg2.tape, hg2.output, hg2.size, hg2.block⟩; obtain ⟨g0, g1, g2, gf0, gf1, gf2⟩ := cells3 hAp.hg; have HAp := Lib.hid hAp; obtain ⟨Av, cv, hve⟩ := hv2.slice; rw [HLn.out] at hve; subst hve; have HV2 := Lib.hid hv2; clear hAp hv2 hg2)
                      | (refine step_appJ (w := wr.drew.alloc (.cells #[.int .i64 z0, .int .i64 z1, .int .i64 z2] 55)) (by rfl) (.tmp 93) (.tmp 103) (by rfl) (g + 1) 1 1 (.slice Ac k cd2) (some ⟨wr.heap.size, 0, none⟩) lk [(z0, z1, z2)] (by rfl) hown1 (by rfl) rfl (fun h => by cases h) hone hll hbase ?_; intro v2 W9 hv2 hg2; have hAp := Hap W9 ⟨hg2.os, hg2.tape, hg2.output, hg2.size, hg2.block⟩; obtain ⟨g0, g1, g2, gf0, gf1, gf2⟩ := cells3 hAp.hg; have HAp := Lib.hid hAp; obtain ⟨Av, cv, hve⟩ := hv2.slice; rw [HLn.out] at hve; subst hve; have HV2 := Lib.hid hv2; clear hAp hv2 hg2))
                    all_goals
                      go_wp2_with fail
                      go_roundw
                      case rel => exact ⟨k + 1, _, by omega, by go_num, Lib.hid (HAp.out.set _), Lib.hid (by rw [HT2.out]; exact HV2.out.keep fun b hb => Below.heap_setCell _ ⟨g, 2, none⟩ _ b (by have := (HV2.out.lt hb).1; show b ≠ g; omega))⟩
                      case measure => simp [intOf]; omega
                  · obtain rfl : k = fco.length := by omega
                    rw [List.take_length] at HR
                    by_cases hn : fco.length < nj
                    · have t1 : (fco.length : Int) < (nj : Int) := by omega
                      have t2 : decide ((fco.length : Int) < 250) = false := by have := HMN.out; simp; omega
                      go_wp2_with fail
                      go_meet
                      exact ⟨_, HO, HR⟩
                    · have t1 : decide ((fco.length : Int) < (nj : Int)) = false := by have := HMN.out; simp; omega
                      go_wp2_with fail
                      go_meet
                      exact ⟨_, HO, HR⟩
              case rest =>
                obtain ⟨c, HO, HR⟩ := hcut
                clear HO2 HJ0
                obtain ⟨A4, c4, rfl⟩ := HR.out.slice
                obtain ⟨q0, q1, q2, qf0, qf1, qf2⟩ := cells3 HO.out.n.m.o.q
                obtain ⟨f0, f1, f2, _, _, _⟩ := cells3 HO.out.hg
                have hown := HO.out.hf.now
                have hone := HR.out.base (base' := N) (by have := HO.out.hn; omega)
                have hbase : N ≤ wc.heap.size := HO.out.n.hv.1
                have hlen : fl.length = j := htl
                have hb4 : Below wc.heap.size wc (wc.alloc (.cells #[.int .i64 far, .int .i64 flo, .slice A4 fco.length c4] 58)) := (Below.refl _ _).alloc (Nat.le_refl _) _
                have HLn : Hid ((fl ++ [(⟨far, flo, fco⟩ : Fn)]).length = j + 1) := Lib.hid (by rw [List.length_append, hlen]; rfl)
                (rename (∀ (a : Act) (w : World), Code.wp _ _ _ a w → _) => hK; refine hK _ _ ?_; clear hK)
                go_wp2_with (
                  at_builtin
                  refine wpList_appF (w := wc) (by rfl) (.tmp 107) (.tmp 109) (by rfl) N 1 (.slice Ad j cd) (.slice A4 fco.length c4) fl ⟨far, flo, fco⟩ (by rfl) hown (by rfl) hone rfl (by omega) hbase ?_)
                intro v2 W9 hv2 hg2
                have hAp := HO.out.n.grown hb4 hg2 (fun i e => (hown.inB e).1)
                obtain ⟨g0, g1, g2, gf0, gf1, gf2⟩ := cells3 hAp.m.o.q
                have HAp := Lib.hid hAp
                obtain ⟨Av, cv, hve⟩ := hv2.slice
                rw [HLn.out] at hve
                subst hve
                have HV2 := Lib.hid hv2
                clear hAp hv2 hg2 hb4
                go_wp2_with fail
                go_roundw
                case rel => exact ⟨j + 1, _, by omega, by go_num, Lib.hid (HAp.out.set (pg_set2 HAp.out.m.o.q _)), Lib.hid (by rw [HT.out]; exact HV2.out.hold fun b hb _ => Below.heap_setCell _ ⟨w.heap.size + 1 + 1, 2, none⟩ _ b (by have := HAp.out.m.hm; have := HAp.out.hn; show b ≠ w.heap.size + 1 + 1; omega))⟩
                case measure => simp [intOf]; omega
          · obtain rfl : j = fs.length := by omega
            rw [List.take_length] at HR
            by_cases hn : fs.length < nc
            · have t1 : (fs.length : Int) < (nc : Int) := by omega
              have t2 : decide ((fs.length : Int) < 20) = false := by simp; omega
              go_wp2_with fail
              go_meet
              exact ⟨_, Lib.hid ⟨HO.out, HR.out⟩⟩
            · have t1 : decide ((fs.length : Int) < (nc : Int)) = false := by simp; omega
              go_wp2_with fail
              go_meet
              exact ⟨_, Lib.hid ⟨HO.out, HR.out⟩⟩
      case rest =>
        obtain ⟨u, HO⟩ := hcut
        clear HN0 HA HB HC
        obtain ⟨A1, c1, rfl⟩ := HO.out.1.m.hd.now.slice
        obtain ⟨A2, c2, rfl⟩ := HO.out.1.hv.now.slice
        obtain ⟨A3, c3, rfl⟩ := HO.out.2.slice
        obtain ⟨r0, r1, r2, rf0, rf1, rf2⟩ := cells3 HO.out.1.m.o.r
        obtain ⟨q0, q1, q2, _, _, _⟩ := cells3 HO.out.1.m.o.q
        have hl40 := HL.out
        have HE := Lib.hid (HO.out.1.copy (x := .slice A1 ds.length c1) (y := .slice A2 ws.length c2) (z := .slice A3 fs.length c3) HO.out.2 (by omega) HSh.out.1.1 HSh.out.1.2 HSh.out.2.1 HSh.out.2.2)
        have hE := put3_same HO.out.1.m.o.r (.slice A1 ds.length c1) (.slice A2 ws.length c2) (.slice A3 fs.length c3)
        clear hl40 HL
        go_wp2_with fail
        refine bodyPost_ret (v := .agg #[.slice A1 ds.length c1, .slice A2 ws.length c2, .slice A3 fs.length c3]) ?_ rfl ⟨_, rfl, HE.out⟩
        unfold pgB at hE
        obtain ⟨k0, k1, k2, _, _, _⟩ := cells3 hE
        simp [results, Tryd.results10, go_sem, k0, k1, k2]
end Go.Proofs.YtjbcmedljgafkaaDoor.pgm
