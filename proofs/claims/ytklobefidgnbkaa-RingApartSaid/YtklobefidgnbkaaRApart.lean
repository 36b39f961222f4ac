/-
  The walk of RingApart: a row and its clone go on each by itself. No condition.
-/
import Derived.Test.YtklobefidgnbkaaRInv
import Derived.Deep.CutBlock
import Derived.Deep.DeepCutAuto
namespace Go.Proofs.Ytklobefidgnbkaa.ring
open Go.RowKit

/-- The calls of a list that came in. -/
def OpsIn (w : World) (a : Option Addr) (len : Nat) (ops : Nat → Int × Int) : Prop := ∀ i, i < len → ∃ b off, a = some ⟨b, off, none⟩ ∧ b < w.heap.size ∧ w.cell? ⟨b, off + i * 2, none⟩ = some (.int .i64 (ops i).1) ∧ w.cell? ⟨b, off + i * 2 + 1, none⟩ = some (.int .i64 (ops i).2)

theorem clamp_small {n : Nat} (h : n ≤ 4096) : clamp (n : Int) = n := by unfold clamp; omega
theorem Inv.told2 {w0 wr w1 : World} {br b0 room bi g cap : Nat} {lr lm : List Int} {r : List Int × Int × Bool} {e : Ending} (h : Inv w0 br b0 room wr bi g cap lr lm) (ht : Told wr g cap lm r e w1) :
    ∃ g' cap', e = .returned (.tuple #[.slice (some ⟨g', 0, none⟩) r.1.length cap', .int .i64 r.2.1, .bool r.2.2]) ∧ Inv w0 br b0 room w1 bi g' cap' lr r.1 ∧ (g' = g ∨ w0.heap.size ≤ g') := by
  obtain ⟨g', cap', he, h1, hb⟩ := ht
  have hk := h.below hb
  refine ⟨g', cap', he, ?_⟩
  rcases h1 with ⟨rfl, rfl, e1⟩ | h1
  · rw [e1]
    exact ⟨hk, .inl rfl⟩
  · have hl := h.lies.lt
    have h2 := h1.lt.1
    have h3 := h.base
    exact ⟨⟨hk.lies, h1.base (Nat.zero_le _), by omega, by omega, hk.frm, hk.own, hk.base⟩, .inr (by omega)⟩

/-- What holds at each round's head, and behind the rounds. -/
def AHead (w0 : World) (br b0 room g0 len : Nat) (m i : Value) (wr : World) : Prop :=
  ∃ (j g cap bi : Nat) (l : List Int), i = .int .i64 (j : Int) ∧ j ≤ len ∧ m = .slice (some ⟨g, 0, none⟩) l.length cap ∧ Inv w0 br b0 room wr bi g cap l l ∧ (g = g0 ∨ w0.heap.size ≤ g)
def ATail (w0 : World) (br b0 room g0 : Nat) (m : Value) (wr : World) : Prop :=
  ∃ (g cap bi : Nat) (l : List Int), m = .slice (some ⟨g, 0, none⟩) l.length cap ∧ Inv w0 br b0 room wr bi g cap l l ∧ (g = g0 ∨ w0.heap.size ≤ g)

set_option maxHeartbeats 4000000 in
set_option maxRecDepth 100000 in
theorem apart_walk (n : Nat) (hn : n ≤ 255) (aA aB aC : Option Addr) (lenA capA lenB capB lenC capC : Nat) (opsA opsB opsC : Nat → Int × Int)
    (w : World) (hA : OpsIn w aA lenA opsA) (hB : OpsIn w aB lenB opsB) (hC : OpsIn w aC lenC opsC) :
    Calls Try.prog 5 #[.agg #[.int .u8 (n : Int), .slice aA lenA capA, .slice aB lenB capB, .slice aC lenC capC]] w fun e w' => e = .returned (.bool true) ∧ Below w.heap.size w w' := by
  have HA := Lib.hid hA
  have HB := Lib.hid hB
  have HC := Lib.hid hC
  clear hA hB hC
  obtain ⟨rm, hrm, hclamp, hroom⟩ : ∃ rm : Nat, (n : Int) % 12 = (rm : Int) ∧ clamp (rm : Int) = rm ∧ rm ≤ 11 := ⟨n % 12, by omega, clamp_small (by omega), by omega⟩
  go_enter Try.func5, Try.ntmps5
  go_wp2_with fail
  go_quiet (fail)
  go_wp2_with fail
  have bW := below_drewN ((Below.refl w.heap.size w).alloc (Nat.le_refl _) (.cells #[.int .u8 (n : Int), .slice aA lenA capA, .slice aB lenB capB, .slice aC lenC capC] 42)) nq
  generalize (w.alloc (.cells #[.int .u8 (n : Int), .slice aA lenA capA, .slice aB lenB capB, .slice aC lenC capC] 42)).drewN nq = W at *
  have hnew := new_any W (rm : Int)
  rw [hclamp] at hnew
  clear hclamp
  refine hnew.mono ?_
  rintro e w1 ⟨rfl, h1, b1⟩
  have I0 := inv_new h1
  have hw1 := h1.lt.1
  have B0 := bW.trans ((b1.alloc (Nat.le_of_lt hw1) (.cells #[] 3)).mono bW.size)
  have hsW := bW.size
  clear hnew bW b1 h1
  go_upto_block 0 with fail
  have hs0 : W.heap.size < (w1.alloc (.cells #[] 3)).heap.size := by simp; omega
  generalize w1.alloc (.cells #[] 3) = w0 at *
  generalize W.heap.size = br at *
  generalize w1.heap.size = g0 at *
  have HI0 := Lib.hid I0
  have HB0 : Hid (Below w.heap.size w w0 ∧ (w.heap.size ≤ br ∧ w.heap.size ≤ w0.heap.size)) := ⟨B0, hsW, B0.size⟩
  clear I0 B0
  go_cut [8] (fun m wx => ATail w0 br br rm g0 m wx)
  case first =>
    go_wp2_with fail
    go_loopw [8, 9] (AHead w0 br br rm g0 lenA) (fun _ i _ => lenA - (intOf i).toNat)
    case atStart => exact ⟨0, _, _, _, _, rfl, Nat.zero_le _, rfl, HI0.out, .inl rfl⟩
    case round =>
      obtain ⟨j, g, cp, bi, l, rfl, hj, rfl, hI, hg⟩ := hrel
      by_cases hlt : j < lenA ∧ j < 30
      · obtain ⟨hlt, h30⟩ := hlt
        have d1 : decide (j < lenA) = true := by simp; omega
        have d2 : decide ((j : Int) < 30) = true := by simp; omega
        obtain ⟨b, off, rfl, hbw, hc0, hc1⟩ := HA.out j hlt
        have hbb : ∀ w', Frm br br w0 w' → w'.cell? ⟨b, off + j * 2, none⟩ = some (.int .i64 (opsA j).1) ∧ w'.cell? ⟨b, off + j * 2 + 1, none⟩ = some (.int .i64 (opsA j).2) := fun w' h => by
          have e : w'.heap[b]? = w.heap[b]? := (h.block b (by have := HB0.out.2; omega) (by have := HB0.out.2; omega) (by have := HB0.out.2; omega)).trans (HB0.out.1.block b hbw)
          exact ⟨(World.cell?_of_block (a := ⟨b, off + j * 2, none⟩) e).trans hc0, (World.cell?_of_block (a := ⟨b, off + j * 2 + 1, none⟩) e).trans hc1⟩
        have HBB := Lib.hid hbb
        obtain ⟨c0, c1⟩ := hbb wr hI.frm
        generalize opsA j = o at *
        have hdo := do_any wr br bi rm l o.1 o.2 hI.lies
        have hrf := fun W h => ref_any W 0 g cp rm l o.1 o.2 h hI.room.1 hI.room.2
        have HI := Lib.hid hI
        have HG := Lib.hid hg
        clear hbb hI hc0 hc1 hg
        generalize play rm l o.1 o.2 = r at *
        obtain ⟨l', y, bb⟩ := r
        go_wp2_with fail
        refine hdo.mono ?_
        intro e w2 hd
        obtain ⟨rfl, bi', hI2⟩ := HI.out.did hd
        obtain ⟨e0, e1⟩ := HBB.out w2 hI2.frm
        have HI2 := Lib.hid hI2
        clear hdo hd hI2 c0 c1 HI
        go_wp2_with fail
        refine (hrf _ HI2.out.row).mono ?_
        intro e w3 ht
        obtain ⟨g', cp', rfl, hI3, hg3⟩ := HI2.out.told2 ht
        have HI3 := Lib.hid hI3
        have HG3 : Hid (g' = g0 ∨ w0.heap.size ≤ g') := Lib.hid (by have := HG.out; omega)
        clear ht hI3 hg3 hrf e0 e1 HI2
        go_wp2_with fail
        exact ⟨⟨j + 1, g', cp', bi', l', by go_num, by omega, rfl, HI3.out, HG3.out⟩, by simp [intOf]; omega⟩
      · have HT : Hid (ATail w0 br br rm g0 (.slice (some ⟨g, 0, none⟩) l.length cp) wr) := ⟨g, cp, bi, l, rfl, hI, hg⟩
        clear hI hg
        go_wp2_with fail
        all_goals
          go_meet
          exact HT.out
  case rest =>
    obtain ⟨g1, cp1, bi1, l1, rfl, hI1, hg1⟩ := hcut
    have hcl := clone_any wc br bi1 rm l1 hI1.lies
    have hlt1 := hI1.lies.lt
    have hgl1 := hI1.row.lt.2
    have HI1 := Lib.hid hI1
    have HX1 : Hid (Below w.heap.size w wc ∧ (w.heap.size ≤ br ∧ w.heap.size ≤ bi1)) := by
      have h := HB0.out
      have ho := hI1.own
      exact ⟨h.1.trans (hI1.frm.below h.2.1 h.2.1 h.2.2), h.2.1, by omega⟩
    clear hI1 hg1 HB0 HI0
    go_wp2_with fail
    refine hcl.mono ?_
    rintro e wd ⟨kr, rfl, hkr, hkl, hbd⟩
    have hId := HI1.out.below hbd
    have I2 : Inv wd br bi1 rm wd bi1 g1 cp1 l1 l1 := ⟨hId.lies, hId.row, hId.ne1, hId.ne2, Frm.refl _ _ _, .inl rfl, Nat.le_refl _⟩
    have HI2 := Lib.hid I2
    have hkk := hkl.lt
    have HK := Lib.hid hkl
    have hne1 := hId.ne1
    have hne2 := hId.ne2
    have HX2 : Hid (Below w.heap.size w wd ∧ (w.heap.size ≤ br ∧ w.heap.size ≤ bi1 ∧ w.heap.size ≤ wd.heap.size)) := by
      have h := HX1.out
      have hb := h.1.trans (hbd.mono h.1.size)
      exact ⟨hb, h.2.1, h.2.2, hb.size⟩
    generalize wc.heap.size = ki at *
    clear hId I2 hkl hbd HX1 HI1 hcl
    go_upto_block 2 with fail
    go_cut [8] (fun m wx => ATail wd br bi1 rm g1 m wx)
    case first =>
      go_wp2_with fail
      go_loopw [8, 15] (AHead wd br bi1 rm g1 lenB) (fun _ i _ => lenB - (intOf i).toNat)
      case atStart => exact ⟨0, _, _, _, _, rfl, Nat.zero_le _, rfl, HI2.out, .inl rfl⟩
      case round =>
        obtain ⟨j, g, cp, bi, l, rfl, hj, rfl, hI, hg⟩ := hrel
        by_cases hlt : j < lenB ∧ j < 30
        · obtain ⟨hlt, h30⟩ := hlt
          have d1 : decide (j < lenB) = true := by simp; omega
          have d2 : decide ((j : Int) < 30) = true := by simp; omega
          obtain ⟨b, off, rfl, hbw, hc0, hc1⟩ := HB.out j hlt
          have hbb : ∀ w', Frm br bi1 wd w' → w'.cell? ⟨b, off + j * 2, none⟩ = some (.int .i64 (opsB j).1) ∧ w'.cell? ⟨b, off + j * 2 + 1, none⟩ = some (.int .i64 (opsB j).2) := fun w' h => by
            have e : w'.heap[b]? = w.heap[b]? := (h.block b (by have := HX2.out.2; omega) (by have := HX2.out.2; omega) (by have := HX2.out.2; omega)).trans (HX2.out.1.block b hbw)
            exact ⟨(World.cell?_of_block (a := ⟨b, off + j * 2, none⟩) e).trans hc0, (World.cell?_of_block (a := ⟨b, off + j * 2 + 1, none⟩) e).trans hc1⟩
          have HBB := Lib.hid hbb
          obtain ⟨c0, c1⟩ := hbb wr hI.frm
          generalize opsB j = o at *
          have hdo := do_any wr br bi rm l o.1 o.2 hI.lies
          have hrf := fun W h => ref_any W 0 g cp rm l o.1 o.2 h hI.room.1 hI.room.2
          have HI := Lib.hid hI
          have HG := Lib.hid hg
          clear hbb hI hc0 hc1 hg
          generalize play rm l o.1 o.2 = r at *
          obtain ⟨l', y, bb⟩ := r
          go_wp2_with fail
          refine hdo.mono ?_
          intro e w2 hd
          obtain ⟨rfl, bi', hI2⟩ := HI.out.did hd
          obtain ⟨e0, e1⟩ := HBB.out w2 hI2.frm
          have HI2 := Lib.hid hI2
          clear hdo hd hI2 c0 c1 HI
          go_wp2_with fail
          refine (hrf _ HI2.out.row).mono ?_
          intro e w3 ht
          obtain ⟨g', cp', rfl, hI3, hg3⟩ := HI2.out.told2 ht
          have HI3 := Lib.hid hI3
          have HG3 : Hid (g' = g1 ∨ wd.heap.size ≤ g') := Lib.hid (by have := HG.out; omega)
          clear ht hI3 hg3 hrf e0 e1 HI2
          go_wp2_with fail
          exact ⟨⟨j + 1, g', cp', bi', l', by go_num, by omega, rfl, HI3.out, HG3.out⟩, by simp [intOf]; omega⟩
        · have HT : Hid (ATail wd br bi1 rm g1 (.slice (some ⟨g, 0, none⟩) l.length cp) wr) := ⟨g, cp, bi, l, rfl, hI, hg⟩
          clear hI hg
          go_wp2_with fail
          all_goals
            go_meet
            exact HT.out
    case rest =>
      obtain ⟨g2, cp2, bi2, l2, rfl, hI2, hg2⟩ := hcut
      have hown2 := hI2.own
      have hK2 : Lies wc kr ki rm l1 := HK.out.keep (hI2.kept hkk.1 (by omega) (by omega)) (hI2.kept hkk.2 (by omega) (by omega))
      have hP2 : Row wc 0 g1 cp1 l1 := HI2.out.row.keep (hI2.kept HI2.out.row.lt.2 hne1 hne2)
      have I3 : Inv wc kr ki rm wc ki g1 cp1 l1 l1 := ⟨hK2, hP2, by omega, by omega, Frm.refl _ _ _, .inl rfl, Nat.le_refl _⟩
      have HI3 := Lib.hid I3
      have HR2 := Lib.hid hI2
      have hne3 : br ≠ kr ∧ br ≠ ki ∧ bi2 ≠ kr ∧ bi2 ≠ ki ∧ g2 ≠ kr ∧ g2 ≠ ki := by omega
      have hbig : w.heap.size ≤ kr ∧ w.heap.size ≤ ki := by have := HX2.out.2; omega
      have HX3 : Hid (Below w.heap.size w wc ∧ (w.heap.size ≤ kr ∧ w.heap.size ≤ ki ∧ w.heap.size ≤ wc.heap.size)) := by
        have h := HX2.out
        have hb := h.1.trans (hI2.frm.below h.2.1 h.2.2.1 h.2.2.2)
        exact ⟨hb, hbig.1, hbig.2, hb.size⟩
      clear hI2 hK2 hP2 I3 HX2 HI2 HK hg2 hown2
      obtain ⟨we, hwe⟩ : ∃ we : World, we = wc := ⟨_, rfl⟩
      subst hwe
      go_upto_block 4 with fail
      go_cut [14] (fun m wx => ATail we kr ki rm g1 m wx)
      case first =>
        go_wp2_with fail
        go_loopw [14, 19] (AHead we kr ki rm g1 lenC) (fun _ i _ => lenC - (intOf i).toNat)
        case atStart => exact ⟨0, _, _, _, _, rfl, Nat.zero_le _, rfl, HI3.out, .inl rfl⟩
        case round =>
          obtain ⟨j, g, cp, bi, l, rfl, hj, rfl, hI, hg⟩ := hrel
          by_cases hlt : j < lenC ∧ j < 30
          · obtain ⟨hlt, h30⟩ := hlt
            have d1 : decide (j < lenC) = true := by simp; omega
            have d2 : decide ((j : Int) < 30) = true := by simp; omega
            obtain ⟨b, off, rfl, hbw, hc0, hc1⟩ := HC.out j hlt
            have hbb : ∀ w', Frm kr ki we w' → w'.cell? ⟨b, off + j * 2, none⟩ = some (.int .i64 (opsC j).1) ∧ w'.cell? ⟨b, off + j * 2 + 1, none⟩ = some (.int .i64 (opsC j).2) := fun w' h => by
              have e : w'.heap[b]? = w.heap[b]? := (h.block b (by have := HX3.out.2; omega) (by have := HX3.out.2; omega) (by have := HX3.out.2; omega)).trans (HX3.out.1.block b hbw)
              exact ⟨(World.cell?_of_block (a := ⟨b, off + j * 2, none⟩) e).trans hc0, (World.cell?_of_block (a := ⟨b, off + j * 2 + 1, none⟩) e).trans hc1⟩
            have HBB := Lib.hid hbb
            obtain ⟨c0, c1⟩ := hbb wr hI.frm
            generalize opsC j = o at *
            have hdo := do_any wr kr bi rm l o.1 o.2 hI.lies
            have hrf := fun W h => ref_any W 0 g cp rm l o.1 o.2 h hI.room.1 hI.room.2
            have HI := Lib.hid hI
            have HG := Lib.hid hg
            clear hbb hI hc0 hc1 hg
            generalize play rm l o.1 o.2 = r at *
            obtain ⟨l', y, bb⟩ := r
            go_wp2_with fail
            refine hdo.mono ?_
            intro e w2 hd
            obtain ⟨rfl, bi', hI2⟩ := HI.out.did hd
            obtain ⟨e0, e1⟩ := HBB.out w2 hI2.frm
            have HI2 := Lib.hid hI2
            clear hdo hd hI2 c0 c1 HI
            go_wp2_with fail
            refine (hrf _ HI2.out.row).mono ?_
            intro e w3 ht
            obtain ⟨g', cp', rfl, hI3, hg3⟩ := HI2.out.told2 ht
            have HI3 := Lib.hid hI3
            have HG3 : Hid (g' = g1 ∨ we.heap.size ≤ g') := Lib.hid (by have := HG.out; omega)
            clear ht hI3 hg3 hrf e0 e1 HI2
            go_wp2_with fail
            exact ⟨⟨j + 1, g', cp', bi', l', by go_num, by omega, rfl, HI3.out, HG3.out⟩, by simp [intOf]; omega⟩
          · have HT : Hid (ATail we kr ki rm g1 (.slice (some ⟨g, 0, none⟩) l.length cp) wr) := ⟨g, cp, bi, l, rfl, hI, hg⟩
            clear hI hg
            go_wp2_with fail
            all_goals
              go_meet
              exact HT.out
      case rest =>
        obtain ⟨g3, cp3, bi3, l3, rfl, hI3, hg3⟩ := hcut
        have hlt2 := HR2.out.lies.lt
        have hgl2 := HR2.out.row.lt.2
        have hR3 : Lies wc br bi2 rm l2 := HR2.out.lies.keep (hI3.kept hlt2.1 hne3.1 hne3.2.1) (hI3.kept hlt2.2 hne3.2.2.1 hne3.2.2.2.1)
        have hM3 : Row wc 0 g2 cp2 l2 := HR2.out.row.keep (hI3.kept hgl2 hne3.2.2.2.2.1 hne3.2.2.2.2.2)
        have hB3 : Below w.heap.size w wc := by
          have h := HX3.out
          exact h.1.trans (hI3.frm.below h.2.1 h.2.2.1 h.2.2.2)
        have hr2 := hR3.room
        have hr3 := hI3.lies.room
        have c1 := all_any wc br bi2 rm l2 hR3
        have HR := Lib.hid (⟨hR3, hM3, hI3.lies, hI3.row, hB3⟩ : Lies wc br bi2 rm l2 ∧ Row wc 0 g2 cp2 l2 ∧ Lies wc kr bi3 rm l3 ∧ Row wc 0 g3 cp3 l3 ∧ Below w.heap.size w wc)
        clear hI3 hg3 hR3 hM3 hB3 HX3 HR2 HI3 hlt2 hgl2
        go_wp2_with fail
        refine c1.mono ?_
        rintro e w4 ⟨rfl, hh4, hb4⟩
        obtain ⟨r1, r2, r3, r4, r5⟩ := HR.out
        have s1 := same_any w4 _ _ l2 (by omega) (ListAt.of_block hh4 rfl (by unfold maxLen; omega)) (r2.keep (hb4.block _ r2.lt.2)).list
        have HR4 := Lib.hid (⟨r3.below hb4, r4.keep (hb4.block _ r4.lt.2), r5.trans (hb4.mono r5.size)⟩ : Lies w4 kr bi3 rm l3 ∧ Row w4 0 g3 cp3 l3 ∧ Below w.heap.size w w4)
        clear r1 r2 r3 r4 r5 hh4 hb4 HR c1
        go_wp2_with fail
        refine s1.mono ?_
        rintro e w' ⟨rfl, m5, rfl⟩
        have c2 := all_any _ _ _ _ _ (HR4.out.1.drewN m5)
        clear s1
        go_wp2_with fail
        refine c2.mono ?_
        rintro e w6 ⟨rfl, hh6, hb6⟩
        obtain ⟨r3, r4, r5⟩ := HR4.out
        have hb6' : Below w4.heap.size w4 w6 := ⟨hb6.os, hb6.tape, hb6.output, hb6.size, hb6.block⟩
        have hh6' : w6.heap[w4.heap.size]? = some (.cells (ints l3).toArray 3 (0, 0)) := hh6
        have s2 := same_any w6 _ _ l3 (by omega) (ListAt.of_block hh6' rfl (by unfold maxLen; omega)) (r4.keep (hb6'.block _ r4.lt.2)).list
        have HB6 := Lib.hid (r5.trans (hb6'.mono r5.size))
        clear r3 r4 r5 hh6 hb6 hb6' hh6' c2 HR4
        go_wp2_with fail
        refine s2.mono ?_
        rintro e w' ⟨rfl, m7, rfl⟩
        clear s2
        go_wp2_with fail
        refine (lives_any _).mono ?_
        rintro e w8 ⟨rfl, hb8⟩
        have HB8 := Lib.hid ((below_drewN HB6.out m7).trans (hb8.mono HB6.out.size))
        clear hb8
        go_wp2_with fail
        go_ret
        exact ⟨rfl, HB8.out⟩
end Go.Proofs.Ytklobefidgnbkaa.ring
