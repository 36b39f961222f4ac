/-
  The walk of TimerApart: what is due and its clone go on each by itself. No condition.
-/
import Derived.Test.YtfhkaedpbandiaaTInv
import Derived.Deep.CutBlock
import Derived.Deep.DeepCutAuto
namespace Go.Proofs.Ytfhkaedpbandiaa.timer
open Go.RowKit
attribute [local go_sem ↓] Go.wp_at_zero Go.wp_at_succ

/-- What holds between two calls, since wd: none but the own blocks has turned. -/
structure At3 (w wd : World) (bt bh0 bm0 : Nat) (wr : World) (bh bm gg cap : Nat) (m : List E) : Prop where
  inv : Inv w bt wr bh bm gg cap m
  frm : Frm bt bh0 bm0 wd wr
  o1 : bh = bh0 ∨ wd.heap.size ≤ bh
  o2 : bm = bm0 ∨ wd.heap.size ≤ bm
theorem At3.did {w wd wr w' : World} {bt bh0 bm0 bh bm gg cap : Nat} {m m' : List E} {e : Ending} (h : At3 w wd bt bh0 bm0 wr bh bm gg cap m) (d : Did wr bt bh bm m' e w') :
    ∃ bh' bm' gg' cap', e = .returned (.tuple #[.slice (some ⟨gg', 0, none⟩) m'.length cap', .bool true]) ∧ At3 w wd bt bh0 bm0 w' bh' bm' gg' cap' m' := by
  obtain ⟨bh', bm', gg', cap', he, h1, h2, h3, h4, h5⟩ := d
  have hs := h.inv.below.size
  have hs2 := h.frm.size
  have := h.inv.l2
  have := h.inv.l3
  have := h.o1
  have := h.o2
  exact ⟨bh', bm', gg', cap', he, ⟨h1, h2, below_frm h.inv.below hs h3 h.inv.l1 h.inv.l2 h.inv.l3, h.inv.l1, by omega, by omega⟩, h.frm.trans h3 (.inl rfl) (by omega) (by omega), by omega, by omega⟩
theorem Inv.at3 {w wr : World} {bt bh bm gg cap : Nat} {m : List E} (h : Inv w bt wr bh bm gg cap m) : At3 w wr bt bh bm wr bh bm gg cap m := ⟨h, Frm.refl _ _ _ _, .inl rfl, .inl rfl⟩

def AHead (w wd : World) (bt bh0 bm0 L len : Nat) (s ok i : Value) (wr : World) : Prop :=
  ∃ (j gg cap bh bm : Nat) (m : List E), i = .int .i64 (j : Int) ∧ j ≤ len ∧ j ≤ 30 ∧ m.length ≤ L + j ∧ s = .slice (some ⟨gg, 0, none⟩) m.length cap ∧ ok = .bool true ∧ At3 w wd bt bh0 bm0 wr bh bm gg cap m
def ATail (w wd : World) (bt bh0 bm0 L : Nat) (s ok : Value) (wr : World) : Prop :=
  ∃ (gg cap bh bm : Nat) (m : List E), m.length ≤ L + 30 ∧ s = .slice (some ⟨gg, 0, none⟩) m.length cap ∧ ok = .bool true ∧ At3 w wd bt bh0 bm0 wr bh bm gg cap m

set_option maxHeartbeats 4000000 in
set_option maxRecDepth 100000 in
theorem apart_walk (aA aB aC : Option Addr) (lenA capA lenB capB lenC capC : Nat) (opsA opsB opsC : Nat → O) (hlA : lenA ≤ maxLen) (hlB : lenB ≤ maxLen) (hlC : lenC ≤ maxLen)
    (w : World) (hA : OpsIn w aA lenA opsA) (hB : OpsIn w aB lenB opsB) (hC : OpsIn w aC lenC opsC) :
    Calls Try.prog 5 #[.slice aA lenA capA, .slice aB lenB capB, .slice aC lenC capC] w fun e w' => e = .returned (.bool true) ∧ Below w.heap.size w w' := by
  have hlA : lenA ≤ 9223372036854775807 := hlA
  have hlB : lenB ≤ 9223372036854775807 := hlB
  have hlC : lenC ≤ 9223372036854775807 := hlC
  have HA := Lib.hid hA
  have HB := Lib.hid hB
  have HC := Lib.hid hC
  clear hA hB hC
  have HI0 := Lib.hid (inv_new w)
  go_enter Try.func5, Try.ntmps5
  go_upto_block 0 with fail
  generalize (w.alloc (.cells #[.slice none 0 0, .map none] 27)).alloc (.cells #[] 57) = w0 at *
  have H0 : Hid (AHead w w0 w.heap.size w.heap.size w.heap.size 0 lenA (.slice (some ⟨w.heap.size + 1, 0, none⟩) 0 0) (.bool true) (.int .i64 0) w0) := ⟨0, _, 0, _, _, [], rfl, Nat.zero_le _, Nat.zero_le _, Nat.le_refl _, rfl, rfl, HI0.out.at3⟩
  clear HI0
  go_cut [8, 9] (fun s ok wx => ATail w w0 w.heap.size w.heap.size w.heap.size 0 s ok wx)
  case first =>
    go_wp2_with fail
    go_loopw [8, 9, 10] (fun s ok i wr => AHead w w0 w.heap.size w.heap.size w.heap.size 0 lenA s ok i wr) (fun _ _ i _ => lenA - (intOf i).toNat)
    case atStart => exact H0.out
    case round =>
      obtain ⟨j, gg, cap, bh, bm, m, rfl, hj, hj30, hml, rfl, rfl, hI⟩ := hrel
      by_cases hlt : j < lenA ∧ j < 30
      · obtain ⟨hlt, h30⟩ := hlt
        have d1 : decide (j < lenA) = true := by simp; omega
        have d2 : decide ((j : Int) < 30) = true := by simp; omega
        obtain ⟨b, off, rfl, hbw, hops⟩ : ∃ b off, aA = some ⟨b, off, none⟩ ∧ b < w.heap.size ∧ OpsAt w b off lenA opsA := HA.out.resolve_left (by omega)
        have HOP := Lib.hid fun w' (h : Below w.heap.size w w') => (hops.keep (h.block b hbw)) j hlt
        obtain ⟨c0, c1, c2, hwf⟩ := HOP.out wr hI.inv.below
        generalize opsA j = o at *
        clear hops HOP
        have hdo := do_any wr w.heap.size bh bm gg cap m o.1 o.2.1 o.2.2 hI.inv.lies hI.inv.row (by omega) hwf
        have hsl := step_length m o.1 o.2.1 o.2.2
        generalize step m o.1 o.2.1 o.2.2 = m' at *
        have HI := Lib.hid hI
        clear hI
        go_wp2_with fail
        refine hdo.mono ?_
        intro e w2 hd
        obtain ⟨bh', bm', g', cap', rfl, hI2⟩ := HI.out.did hd
        have HT : Hid (AHead w w0 w.heap.size w.heap.size w.heap.size 0 lenA (.slice (some ⟨g', 0, none⟩) m'.length cap') (.bool true) (.int .i64 ((j + 1 : Nat) : Int)) w2) :=
          ⟨j + 1, g', cap', bh', bm', m', rfl, hlt, h30, by omega, rfl, rfl, hI2⟩
        clear hdo hd hI2 c0 c1 c2 HI
        go_wp2_with fail
        exact ⟨HT.out, by simp [intOf]; omega⟩
      · have HT : Hid (ATail w w0 w.heap.size w.heap.size w.heap.size 0 (.slice (some ⟨gg, 0, none⟩) m.length cap) (.bool true) wr) := ⟨gg, cap, bh, bm, m, by omega, rfl, rfl, hI⟩
        clear hI
        go_wp2_with fail
        all_goals
          go_meet
          exact HT.out
  case rest =>
    obtain ⟨gg1, cap1, bh1, bm1, m1, hm1, rfl, rfl, hI1⟩ := hcut
    have hcl := clone_any wc w.heap.size bh1 bm1 m1 hI1.inv.lies
    have HI1 := Lib.hid hI1
    have hlt1 := hI1.inv.lies.lt
    clear hI1 H0
    go_wp2_with fail
    refine hcl.mono ?_
    rintro e wd ⟨kt, kh, km, rfl, hk, hbd, hk1, hk2, hk3⟩
    have hkl := hk.lt
    have I2 : Inv w w.heap.size wd bh1 bm1 gg1 cap1 m1 := HI1.out.inv.on hbd
    have hne1 := Lib.hid (row_ne I2.lies I2.row)
    have HK := Lib.hid hk
    have HS : Hid (w.heap.size < wc.heap.size ∧ bh1 < wc.heap.size ∧ bm1 < wc.heap.size ∧ wc.heap.size ≤ kt ∧ wc.heap.size ≤ kh ∧ wc.heap.size ≤ km ∧ kt < wd.heap.size ∧ kh < wd.heap.size ∧ km < wd.heap.size) := ⟨hlt1.1, hlt1.2.1, hlt1.2.2, hk1, hk2, hk3, hkl.1, hkl.2.1, hkl.2.2⟩
    have HI2 := Lib.hid I2
    have H2 : Hid (AHead w wd w.heap.size bh1 bm1 30 lenB (.slice (some ⟨gg1, 0, none⟩) m1.length cap1) (.bool true) (.int .i64 0) wd) := ⟨0, _, _, _, _, m1, rfl, Nat.zero_le _, Nat.zero_le _, by omega, rfl, rfl, I2.at3⟩
    clear I2 hk hbd hk1 hk2 hk3 hcl HI1 hlt1 hkl
    generalize wc.heap.size = S at *
    go_upto_block 2 with fail
    go_cut [8, 9] (fun s ok wx => ATail w wd w.heap.size bh1 bm1 30 s ok wx)
    case first =>
      go_wp2_with fail
      go_loopw [8, 9, 13] (fun s ok i wr => AHead w wd w.heap.size bh1 bm1 30 lenB s ok i wr) (fun _ _ i _ => lenB - (intOf i).toNat)
      case atStart => exact H2.out
      case round =>
        obtain ⟨j, gg, cap, bh, bm, m, rfl, hj, hj30, hml, rfl, rfl, hI⟩ := hrel
        by_cases hlt : j < lenB ∧ j < 30
        · obtain ⟨hlt, h30⟩ := hlt
          have d1 : decide (j < lenB) = true := by simp; omega
          have d2 : decide ((j : Int) < 30) = true := by simp; omega
          obtain ⟨b, off, rfl, hbw, hops⟩ : ∃ b off, aB = some ⟨b, off, none⟩ ∧ b < w.heap.size ∧ OpsAt w b off lenB opsB := HB.out.resolve_left (by omega)
          have HOP := Lib.hid fun w' (h : Below w.heap.size w w') => (hops.keep (h.block b hbw)) j hlt
          obtain ⟨c0, c1, c2, hwf⟩ := HOP.out wr hI.inv.below
          generalize opsB j = o at *
          clear hops HOP
          have hdo := do_any wr w.heap.size bh bm gg cap m o.1 o.2.1 o.2.2 hI.inv.lies hI.inv.row (by omega) hwf
          have hsl := step_length m o.1 o.2.1 o.2.2
          generalize step m o.1 o.2.1 o.2.2 = m' at *
          have HI := Lib.hid hI
          clear hI
          go_wp2_with fail
          refine hdo.mono ?_
          intro e w2 hd
          obtain ⟨bh', bm', g', cap', rfl, hI2⟩ := HI.out.did hd
          have HT : Hid (AHead w wd w.heap.size bh1 bm1 30 lenB (.slice (some ⟨g', 0, none⟩) m'.length cap') (.bool true) (.int .i64 ((j + 1 : Nat) : Int)) w2) :=
            ⟨j + 1, g', cap', bh', bm', m', rfl, hlt, h30, by omega, rfl, rfl, hI2⟩
          clear hdo hd hI2 c0 c1 c2 HI
          go_wp2_with fail
          exact ⟨HT.out, by simp [intOf]; omega⟩
        · have HT : Hid (ATail w wd w.heap.size bh1 bm1 30 (.slice (some ⟨gg, 0, none⟩) m.length cap) (.bool true) wr) := ⟨gg, cap, bh, bm, m, by omega, rfl, rfl, hI⟩
          clear hI
          go_wp2_with fail
          all_goals
            go_meet
            exact HT.out
    case rest =>
      clear H2
      obtain ⟨gg2, cap2, bh2, bm2, m2, hm2, rfl, rfl, hI2⟩ := hcut
      have hS := HS.out
      have ho1 := hI2.o1
      have ho2 := hI2.o2
      have hK2 : Lies wc kt kh km m1 := HK.out.kept hI2.frm (by omega) (by omega) (by omega)
      have hP2 : Row 57 wc 0 gg1 cap1 m1 := HI2.out.row.keep (hI2.frm.block gg1 HI2.out.row.lt.2 hne1.out.1 hne1.out.2.1 hne1.out.2.2)
      have I3 : Inv w kt wc kh km gg1 cap1 m1 := ⟨hK2, hP2, hI2.inv.below, by omega, by omega, by omega⟩
      have HNE := Lib.hid (row_ne hK2 hI2.inv.row)
      have HR2 := Lib.hid hI2.inv
      have HS3 : Hid ((w.heap.size ≠ kt ∧ w.heap.size ≠ kh ∧ w.heap.size ≠ km) ∧ (bh2 ≠ kt ∧ bh2 ≠ kh ∧ bh2 ≠ km) ∧ (bm2 ≠ kt ∧ bm2 ≠ kh ∧ bm2 ≠ km)) := ⟨by omega, by omega, by omega⟩
      obtain ⟨we, hwe⟩ : ∃ we : World, we = wc := ⟨_, rfl⟩
      have H3 : Hid (AHead w we kt kh km 30 lenC (.slice (some ⟨gg1, 0, none⟩) m1.length cap1) (.bool true) (.int .i64 0) we) := by
        subst hwe
        exact ⟨0, _, _, _, _, m1, rfl, Nat.zero_le _, Nat.zero_le _, by omega, rfl, rfl, I3.at3⟩
      subst hwe
      clear hS ho1 ho2 hI2 hK2 hP2 I3 HS HI2 HK hne1
      go_upto_block 4 with fail
      go_cut [9, 12] (fun ok s wx => ATail w we kt kh km 30 s ok wx)
      case first =>
        go_wp2_with fail
        go_loopw [9, 12, 14] (fun ok s i wr => AHead w we kt kh km 30 lenC s ok i wr) (fun _ _ i _ => lenC - (intOf i).toNat)
        case atStart => exact H3.out
        case round =>
          obtain ⟨j, gg, cap, bh, bm, m, rfl, hj, hj30, hml, rfl, rfl, hI⟩ := hrel
          by_cases hlt : j < lenC ∧ j < 30
          · obtain ⟨hlt, h30⟩ := hlt
            have d1 : decide (j < lenC) = true := by simp; omega
            have d2 : decide ((j : Int) < 30) = true := by simp; omega
            obtain ⟨b, off, rfl, hbw, hops⟩ : ∃ b off, aC = some ⟨b, off, none⟩ ∧ b < w.heap.size ∧ OpsAt w b off lenC opsC := HC.out.resolve_left (by omega)
            have HOP := Lib.hid fun w' (h : Below w.heap.size w w') => (hops.keep (h.block b hbw)) j hlt
            obtain ⟨c0, c1, c2, hwf⟩ := HOP.out wr hI.inv.below
            generalize opsC j = o at *
            clear hops HOP
            have hdo := do_any wr kt bh bm gg cap m o.1 o.2.1 o.2.2 hI.inv.lies hI.inv.row (by omega) hwf
            have hsl := step_length m o.1 o.2.1 o.2.2
            generalize step m o.1 o.2.1 o.2.2 = m' at *
            have HI := Lib.hid hI
            clear hI
            go_wp2_with fail
            refine hdo.mono ?_
            intro e w2 hd
            obtain ⟨bh', bm', g', cap', rfl, hI2⟩ := HI.out.did hd
            have HT : Hid (AHead w we kt kh km 30 lenC (.slice (some ⟨g', 0, none⟩) m'.length cap') (.bool true) (.int .i64 ((j + 1 : Nat) : Int)) w2) :=
              ⟨j + 1, g', cap', bh', bm', m', rfl, hlt, h30, by omega, rfl, rfl, hI2⟩
            clear hdo hd hI2 c0 c1 c2 HI
            go_wp2_with fail
            exact ⟨HT.out, by simp [intOf]; omega⟩
          · have HT : Hid (ATail w we kt kh km 30 (.slice (some ⟨gg, 0, none⟩) m.length cap) (.bool true) wr) := ⟨gg, cap, bh, bm, m, by omega, rfl, rfl, hI⟩
            clear hI
            go_wp2_with fail
            all_goals
              go_meet
              exact HT.out
      case rest =>
        clear H3
        obtain ⟨gg3, cap3, kh3, km3, m3, hm3, rfl, rfl, hI3⟩ := hcut
        have hT3 : Lies wc w.heap.size bh2 bm2 m2 := HR2.out.lies.kept hI3.frm HS3.out.1 HS3.out.2.1 HS3.out.2.2
        have hM3 : Row 57 wc 0 gg2 cap2 m2 := HR2.out.row.keep (hI3.frm.block gg2 HR2.out.row.lt.2 HNE.out.1 HNE.out.2.1 HNE.out.2.2)
        have t1 := tells_any wc w.heap.size bh2 bm2 gg2 cap2 m2 1 hT3 hM3 (by omega) (wf_nat (k := 1) (by omega))
        have t2 := fun n => tells_any (wc.drewN n) kt kh3 km3 gg3 cap3 m3 1 (hI3.inv.drewN n).lies (hI3.inv.drewN n).row (by omega) (wf_nat (k := 1) (by omega))
        have HB3 := Lib.hid hI3.inv.below
        clear hI3 hT3 hM3 HR2 HS3 HNE
        go_wp2_with fail
        refine t1.mono ?_
        rintro e w4 ⟨rfl, n4, rfl⟩
        clear t1
        go_wp2_with fail
        refine (t2 n4).mono ?_
        rintro e w5 ⟨rfl, n5, rfl⟩
        clear t2
        go_wp2_with fail
        refine (lives_any _).mono ?_
        rintro e w8 ⟨rfl, hb8⟩
        have HB8 : Hid (Below w.heap.size w w8) := (below_drewN HB3.out _).trans (hb8.mono HB3.out.size)
        clear hb8
        go_wp2_with fail
        go_ret
        exact ⟨rfl, HB8.out⟩
end Go.Proofs.Ytfhkaedpbandiaa.timer
