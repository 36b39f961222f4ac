/-
  What any bytes are read as, by any calls, and the first error: just what the document's own reader says: for every text of bytes and every list of kinds of calls, under no condition.
-/
import Derived.Test.YtlbnmlcdjkaiiaaClose
import Derived.Test.YtlbnmlcdjkaiiaaLives
import Derived.Test.YtlbnmlcdjkaiiaaRefText
import Derived.Deep.RegionWith
import Derived.Deep.RegionHeld3
import Derived.Deep.DeepCutAuto
import Derived.Deep.CutBlock
import Derived.Outline
import Derived.OpenShut
import Derived.SizedLaws
namespace Go.Proofs.Ytlbnmlcdjkaiiaa.octetReads
open Go.ChangeShapes Go.WideShapes Go.ChangeAt Go.RowKit Go.Proofs.Ytlbnmlcdjkaiiaa.octet
open Go.ChangeMaps (open_string shut_string)
set_option linter.unusedVariables false

theorem rest_le {t : ByteArray} {k err : Nat} {s : St} (h : Stands t k err s) (ht : t.size ≤ 140737488355328) : s.rest.length ≤ 140737488355328 := by
  have hsz : t.data.toList.length = t.size := by rw [Array.length_toList]; rfl
  rw [h.2.1, List.length_drop]
  omega

/-- Both readers, each in its block, stand at one place. -/
def Mid (s : ByteArray) (bi br : Nat) (w wx : World) : Prop := ∃ (k3 : Nat) (s3 : St), InAt wx bi s3 ∧ Stands s k3 s3.err s3 ∧ RefAt wx br s k3 s3.err ∧ Below w.heap.size w wx

theorem mid_end {s : ByteArray} {bi br k k1 e : Nat} {w w4 : World} {s3 : St} (hi : InAt w4 bi s3) (hr : RefAt w4 br s k e) (hs : Stands s k1 s3.err s3) (hne : br ≠ bi) (hb : Below w.heap.size w w4) (hbr : w.heap.size ≤ br) :
    Mid s bi br w (((w4.setCell ⟨br, 0, none⟩ (.string s)).setCell ⟨br, 1, none⟩ (.int .i64 (k1 : Int))).setCell ⟨br, 2, none⟩ (.int .i64 (s3.err : Int))) := by
  refine ⟨k1, s3, ?_, hs, hr.set3 s k1 s3.err, ((hb.setCell (p := ⟨br, 0, none⟩) hbr _).setCell (p := ⟨br, 1, none⟩) hbr _).setCell (p := ⟨br, 2, none⟩) hbr _⟩
  exact ((hi.kept (Below.heap_setCell _ ⟨br, 0, none⟩ _ _ (fun h => hne h.symm))).kept (Below.heap_setCell _ ⟨br, 1, none⟩ _ _ (fun h => hne h.symm))).kept (Below.heap_setCell _ ⟨br, 2, none⟩ _ _ (fun h => hne h.symm))
theorem refByte_plain (w : World) (t : ByteArray) (k err : Nat) (s : St) (ht : t.size ≤ 140737488355328) (hst : Stands t k err s) :
    Calls Try.prog 14 #[.agg #[.string t, .int .i64 (k : Int), .int .i64 (err : Int)]] w fun e w' => ∃ k1 : Nat, e = .returned (.tuple #[.int .i64 ((rdByte s).1 : Int), .agg #[.string t, .int .i64 (k1 : Int), .int .i64 ((rdByte s).2.err : Int)]]) ∧ Stands t k1 (rdByte s).2.err (rdByte s).2 ∧ Below w.heap.size w w' := by
  obtain ⟨k1, h, hs⟩ := refByte_stands w t k err s ht hst
  exact h.mono fun e w' ⟨he, hb⟩ => ⟨k1, he, hs, hb⟩
theorem refInt_plain (w : World) (t : ByteArray) (k err : Nat) (s : St) (ht : t.size ≤ 140737488355328) (hst : Stands t k err s) :
    Calls Try.prog 18 #[.agg #[.string t, .int .i64 (k : Int), .int .i64 (err : Int)]] w fun e w' => ∃ k1 : Nat, e = .returned (.tuple #[.int .i64 (rdInt s).1, .agg #[.string t, .int .i64 (k1 : Int), .int .i64 ((rdInt s).2.err : Int)]]) ∧ Stands t k1 (rdInt s).2.err (rdInt s).2 ∧ Below w.heap.size w w' :=
  (refInt_any w t k err s ht hst).mono fun e w' ⟨⟨k1, he, hs⟩, hb⟩ => ⟨k1, he, hs, hb⟩
theorem refText_plain (w : World) (t : ByteArray) (k err : Nat) (s : St) (ht : t.size ≤ 140737488355328) (hst : Stands t k err s) :
    Calls Try.prog 20 #[.agg #[.string t, .int .i64 (k : Int), .int .i64 (err : Int)]] w fun e w' => ∃ k1 : Nat, e = .returned (.tuple #[.string ⟨(rdText s).1.toArray⟩, .agg #[.string t, .int .i64 (k1 : Int), .int .i64 ((rdText s).2.err : Int)]]) ∧ Stands t k1 (rdText s).2.err (rdText s).2 ∧ Below w.heap.size w w' :=
  (refText_any w t k err s ht hst).mono fun e w' ⟨⟨k1, he, hs⟩, hb⟩ => ⟨k1, he, hs, hb⟩

set_option maxHeartbeats 8000000 in
set_option maxRecDepth 100000 in
theorem walk_some (s : ByteArray) (hs : s.size ≤ 140737488355328) (b off len cap : Nat) (zs : List Int) (hlen : len ≤ 9223372036854775807) (hz : len ≤ zs.length) (w : World) (hbw : b < w.heap.size)
    (hc : ∀ i, i < len → w.cell? ⟨b, off + i, none⟩ = some (.int .i64 (zs.getD i 0))) :
    Calls Try.prog 4 #[.string s, .slice (some ⟨b, off, none⟩) len cap] w fun e w' => e = .returned (.bool true) ∧ Below w.heap.size w w' := by
  have HC := Lib.hid hc
  clear hc
  go_enter Try.func4, Try.ntmps4
  go_wp2_with fail
  refine (open_any _ _).mono ?_
  rintro e w1 ⟨rfl, hi1, hb1, hs1⟩
  have HS1 := Lib.hid hs1
  clear hs1
  have hi2 : InAt (w1.alloc (.cells #[.string s, .int .i64 0, .int .i64 0] 39)) w.heap.size ⟨s.data.toList, 0⟩ := hi1.kept (Below.heap_alloc _ _ _ hi1.lt)
  have hr2 : RefAt (w1.alloc (.cells #[.string s, .int .i64 0, .int .i64 0] 39)) w1.heap.size s 0 0 := heap_alloc_new w1 _
  have hb2 : Below w.heap.size w (w1.alloc (.cells #[.string s, .int .i64 0, .int .i64 0] 39)) := hb1.alloc hb1.size _
  have H2 := Lib.hid hi2
  have H3 := Lib.hid hr2
  have H4 := Lib.hid hb2
  clear hi2 hr2 hb2 hi1 hb1
  go_wp2_with fail
  go_loopw [7] (fun i wr => ∃ (k k2 : Nat) (s2 : St), i = .int .i64 (k : Int) ∧ k ≤ len ∧ InAt wr w.heap.size s2 ∧ Stands s k2 s2.err s2 ∧ RefAt wr w1.heap.size s k2 s2.err ∧ Below w.heap.size w wr) (fun i _ => len - (intOf i).toNat)
  case atStart => exact ⟨0, 0, ⟨s.data.toList, 0⟩, rfl, Nat.zero_le _, H2.out, ⟨Nat.zero_le _, rfl, rfl, fun h => absurd rfl h⟩, H3.out, H4.out⟩
  case round =>
    obtain ⟨k, k2, s2, rfl, hk, hi, hst, hr, hb⟩ := hrel
    by_cases hlt : k < len
    · by_cases h100 : k < 100
      · obtain ⟨z, hck⟩ : ∃ z, wr.cell? ⟨b, off + k, none⟩ = some (.int .i64 z) := ⟨_, (hb.cell (p := ⟨b, off + k, none⟩) hbw).trans (HC.out k hlt)⟩
        have d1 : decide (k < len) = true := by simp; omega
        have d2 : decide ((k : Int) < 100) = true := by simp; omega
        have HST := Lib.hid hst
        have HL := Lib.hid (rest_le hst hs)
        have c0 := hr.cell0
        have c1 := hr.cell1
        have c2 := hr.cell2
        clear hst
        go_upto_block 2 with fail
        go_cut [8] (fun l wx => l = .bool true ∧ Mid s w.heap.size w1.heap.size w wx)
        case first =>
          by_cases z0 : z = 0
          · subst z0
            go_wp2_with fail
            refine (refByte_plain _ s k2 s2.err s2 hs HST.out).mono ?_
            rintro e w2 ⟨k1, rfl, hs1, hb2⟩
            have HS3 := Lib.hid hs1
            clear hs1
            go_wp2_with fail
            have hx3 : RefAt (w2.alloc (.cells #[.string s, .int .i64 (k1 : Int), .int .i64 ((rdByte s2).2.err : Int)] 39)) w2.heap.size s k1 (rdByte s2).2.err := heap_alloc_new w2 _
            have hi3 : InAt (w2.alloc (.cells #[.string s, .int .i64 (k1 : Int), .int .i64 ((rdByte s2).2.err : Int)] 39)) w.heap.size s2 := (hi.kept (hb2.block _ hi.lt)).kept (Below.heap_alloc _ _ _ (by have := hi.lt; have := hb2.size; omega))
            have hr3 : RefAt (w2.alloc (.cells #[.string s, .int .i64 (k1 : Int), .int .i64 ((rdByte s2).2.err : Int)] 39)) w1.heap.size s k2 s2.err := (Below.heap_alloc _ _ _ (by have := hr.lt; have := hb2.size; omega)).trans (hr.below hb2 hr.lt)
            have hb3 : Below w.heap.size w (w2.alloc (.cells #[.string s, .int .i64 (k1 : Int), .int .i64 ((rdByte s2).2.err : Int)] 39)) := (hb.trans (hb2.mono hb.size)).alloc (by have := hb2.size; have := hb.size; omega) _
            have HN : Hid (w2.heap.size ≠ w.heap.size ∧ w1.heap.size ≠ w.heap.size ∧ w.heap.size ≤ w1.heap.size) := by
              have h1 := hi.lt
              have h2 := hb2.size
              have h3 := HS1.out
              exact ⟨by omega, by omega, by omega⟩
            generalize w2.alloc (.cells #[.string s, .int .i64 (k1 : Int), .int .i64 ((rdByte s2).2.err : Int)] 39) = w3 at *
            generalize w2.heap.size = bx at *
            clear c0 c1 c2
            have c0 := hx3.cell0
            have c1 := hx3.cell1
            have c2 := hx3.cell2
            go_region_with (
              go_at_call 15
              refine (byteIn_any _ _ s2 ?_ HST.out.2.2.2 HL.out).mono ?_
              · exact hi3
              rintro e w4 ⟨rfl, hi4, hf4⟩
              have hr4 : RefAt w4 w1.heap.size s k2 s2.err := (hf4.block _ hr3.lt HN.out.2.1).trans hr3
              have hx4 : RefAt w4 bx s k1 (rdByte s2).2.err := (hf4.block _ hx3.lt HN.out.1).trans hx3
              have hb4 : Below w.heap.size w w4 := by first | exact hb3.drew.trans (Frm.below hf4 (Nat.le_refl _) hb3.size) | exact hb3.trans (Frm.below hf4 (Nat.le_refl _) hb3.size)
              have d10 := hr4.cell0
              have d11 := hr4.cell1
              have d12 := hr4.cell2
              have g10 := hr4.free 0
              have g11 := hr4.free 1
              have g12 := hr4.free 2
              have e10 := hx4.cell0
              have e11 := hx4.cell1
              have e12 := hx4.cell2)
            all_goals
              go_wp2_with fail
              go_meet
              exact ⟨rfl, mid_end hi4 hr4 HS3.out HN.out.2.1 hb4 HN.out.2.2⟩
          · by_cases z1 : z = 1
            · subst z1
              go_wp2_with fail
              refine (refNum_plain _ s k2 s2.err s2 hs HST.out).mono ?_
              rintro e w2 ⟨k1, rfl, hs1, hb2⟩
              have HS3 := Lib.hid hs1
              clear hs1
              go_wp2_with fail
              have hx3 : RefAt (w2.alloc (.cells #[.string s, .int .i64 (k1 : Int), .int .i64 ((rdNum s2).2.err : Int)] 39)) w2.heap.size s k1 (rdNum s2).2.err := heap_alloc_new w2 _
              have hi3 : InAt (w2.alloc (.cells #[.string s, .int .i64 (k1 : Int), .int .i64 ((rdNum s2).2.err : Int)] 39)) w.heap.size s2 := (hi.kept (hb2.block _ hi.lt)).kept (Below.heap_alloc _ _ _ (by have := hi.lt; have := hb2.size; omega))
              have hr3 : RefAt (w2.alloc (.cells #[.string s, .int .i64 (k1 : Int), .int .i64 ((rdNum s2).2.err : Int)] 39)) w1.heap.size s k2 s2.err := (Below.heap_alloc _ _ _ (by have := hr.lt; have := hb2.size; omega)).trans (hr.below hb2 hr.lt)
              have hb3 : Below w.heap.size w (w2.alloc (.cells #[.string s, .int .i64 (k1 : Int), .int .i64 ((rdNum s2).2.err : Int)] 39)) := (hb.trans (hb2.mono hb.size)).alloc (by have := hb2.size; have := hb.size; omega) _
              have HN : Hid (w2.heap.size ≠ w.heap.size ∧ w1.heap.size ≠ w.heap.size ∧ w.heap.size ≤ w1.heap.size) := by
                have h1 := hi.lt
                have h2 := hb2.size
                have h3 := HS1.out
                exact ⟨by omega, by omega, by omega⟩
              generalize w2.alloc (.cells #[.string s, .int .i64 (k1 : Int), .int .i64 ((rdNum s2).2.err : Int)] 39) = w3 at *
              generalize w2.heap.size = bx at *
              clear c0 c1 c2
              have c0 := hx3.cell0
              have c1 := hx3.cell1
              have c2 := hx3.cell2
              go_region_with (
                go_at_call 17
                refine (numIn_any _ _ s2 ?_ HST.out.2.2.2 HL.out).mono ?_
                · exact hi3
                rintro e w4 ⟨rfl, hi4, hf4⟩
                have hr4 : RefAt w4 w1.heap.size s k2 s2.err := (hf4.block _ hr3.lt HN.out.2.1).trans hr3
                have hx4 : RefAt w4 bx s k1 (rdNum s2).2.err := (hf4.block _ hx3.lt HN.out.1).trans hx3
                have hb4 : Below w.heap.size w w4 := by first | exact hb3.drew.trans (Frm.below hf4 (Nat.le_refl _) hb3.size) | exact hb3.trans (Frm.below hf4 (Nat.le_refl _) hb3.size)
                have d10 := hr4.cell0
                have d11 := hr4.cell1
                have d12 := hr4.cell2
                have g10 := hr4.free 0
                have g11 := hr4.free 1
                have g12 := hr4.free 2
                have e10 := hx4.cell0
                have e11 := hx4.cell1
                have e12 := hx4.cell2)
              all_goals
                go_wp2_with fail
                go_meet
                exact ⟨rfl, mid_end hi4 hr4 HS3.out HN.out.2.1 hb4 HN.out.2.2⟩
            · by_cases z2 : z = 2
              · subst z2
                go_wp2_with fail
                refine (refInt_plain _ s k2 s2.err s2 hs HST.out).mono ?_
                rintro e w2 ⟨k1, rfl, hs1, hb2⟩
                have HS3 := Lib.hid hs1
                clear hs1
                go_wp2_with fail
                have hx3 : RefAt (w2.alloc (.cells #[.string s, .int .i64 (k1 : Int), .int .i64 ((rdInt s2).2.err : Int)] 39)) w2.heap.size s k1 (rdInt s2).2.err := heap_alloc_new w2 _
                have hi3 : InAt (w2.alloc (.cells #[.string s, .int .i64 (k1 : Int), .int .i64 ((rdInt s2).2.err : Int)] 39)) w.heap.size s2 := (hi.kept (hb2.block _ hi.lt)).kept (Below.heap_alloc _ _ _ (by have := hi.lt; have := hb2.size; omega))
                have hr3 : RefAt (w2.alloc (.cells #[.string s, .int .i64 (k1 : Int), .int .i64 ((rdInt s2).2.err : Int)] 39)) w1.heap.size s k2 s2.err := (Below.heap_alloc _ _ _ (by have := hr.lt; have := hb2.size; omega)).trans (hr.below hb2 hr.lt)
                have hb3 : Below w.heap.size w (w2.alloc (.cells #[.string s, .int .i64 (k1 : Int), .int .i64 ((rdInt s2).2.err : Int)] 39)) := (hb.trans (hb2.mono hb.size)).alloc (by have := hb2.size; have := hb.size; omega) _
                have HN : Hid (w2.heap.size ≠ w.heap.size ∧ w1.heap.size ≠ w.heap.size ∧ w.heap.size ≤ w1.heap.size) := by
                  have h1 := hi.lt
                  have h2 := hb2.size
                  have h3 := HS1.out
                  exact ⟨by omega, by omega, by omega⟩
                generalize w2.alloc (.cells #[.string s, .int .i64 (k1 : Int), .int .i64 ((rdInt s2).2.err : Int)] 39) = w3 at *
                generalize w2.heap.size = bx at *
                clear c0 c1 c2
                have c0 := hx3.cell0
                have c1 := hx3.cell1
                have c2 := hx3.cell2
                go_region_with (
                  go_at_call 19
                  refine (intIn_any _ _ s2 ?_ HST.out.2.2.2 HL.out).mono ?_
                  · exact hi3
                  rintro e w4 ⟨rfl, hi4, hf4⟩
                  have hr4 : RefAt w4 w1.heap.size s k2 s2.err := (hf4.block _ hr3.lt HN.out.2.1).trans hr3
                  have hx4 : RefAt w4 bx s k1 (rdInt s2).2.err := (hf4.block _ hx3.lt HN.out.1).trans hx3
                  have hb4 : Below w.heap.size w w4 := by first | exact hb3.drew.trans (Frm.below hf4 (Nat.le_refl _) hb3.size) | exact hb3.trans (Frm.below hf4 (Nat.le_refl _) hb3.size)
                  have d10 := hr4.cell0
                  have d11 := hr4.cell1
                  have d12 := hr4.cell2
                  have g10 := hr4.free 0
                  have g11 := hr4.free 1
                  have g12 := hr4.free 2
                  have e10 := hx4.cell0
                  have e11 := hx4.cell1
                  have e12 := hx4.cell2)
                all_goals
                  go_wp2_with fail
                  go_meet
                  exact ⟨rfl, mid_end hi4 hr4 HS3.out HN.out.2.1 hb4 HN.out.2.2⟩
              · have y0 : (z == 0) = false := by simp [z0]
                have y1 : (z == 1) = false := by simp [z1]
                have y2 : (z == 2) = false := by simp [z2]
                clear z0 z1 z2
                go_wp2_with fail
                refine (refText_plain _ s k2 s2.err s2 hs HST.out).mono ?_
                rintro e w2 ⟨k1, rfl, hs1, hb2⟩
                have HS3 := Lib.hid hs1
                clear hs1
                go_wp2_with fail
                have hx3 : RefAt (w2.alloc (.cells #[.string s, .int .i64 (k1 : Int), .int .i64 ((rdText s2).2.err : Int)] 39)) w2.heap.size s k1 (rdText s2).2.err := heap_alloc_new w2 _
                have hi3 : InAt (w2.alloc (.cells #[.string s, .int .i64 (k1 : Int), .int .i64 ((rdText s2).2.err : Int)] 39)) w.heap.size s2 := (hi.kept (hb2.block _ hi.lt)).kept (Below.heap_alloc _ _ _ (by have := hi.lt; have := hb2.size; omega))
                have hr3 : RefAt (w2.alloc (.cells #[.string s, .int .i64 (k1 : Int), .int .i64 ((rdText s2).2.err : Int)] 39)) w1.heap.size s k2 s2.err := (Below.heap_alloc _ _ _ (by have := hr.lt; have := hb2.size; omega)).trans (hr.below hb2 hr.lt)
                have hb3 : Below w.heap.size w (w2.alloc (.cells #[.string s, .int .i64 (k1 : Int), .int .i64 ((rdText s2).2.err : Int)] 39)) := (hb.trans (hb2.mono hb.size)).alloc (by have := hb2.size; have := hb.size; omega) _
                have HN : Hid (w2.heap.size ≠ w.heap.size ∧ w1.heap.size ≠ w.heap.size ∧ w.heap.size ≤ w1.heap.size) := by
                  have h1 := hi.lt
                  have h2 := hb2.size
                  have h3 := HS1.out
                  exact ⟨by omega, by omega, by omega⟩
                generalize w2.alloc (.cells #[.string s, .int .i64 (k1 : Int), .int .i64 ((rdText s2).2.err : Int)] 39) = w3 at *
                generalize w2.heap.size = bx at *
                clear c0 c1 c2
                have c0 := hx3.cell0
                have c1 := hx3.cell1
                have c2 := hx3.cell2
                go_region_with (
                  go_at_call 21
                  refine (textIn_any _ _ s2 ?_ HST.out.2.2.2 HL.out).mono ?_
                  · exact hi3
                  rintro e w4 ⟨rfl, hi4, hf4⟩
                  have hr4 : RefAt w4 w1.heap.size s k2 s2.err := (hf4.block _ hr3.lt HN.out.2.1).trans hr3
                  have hx4 : RefAt w4 bx s k1 (rdText s2).2.err := (hf4.block _ hx3.lt HN.out.1).trans hx3
                  have hb4 : Below w.heap.size w w4 := by first | exact hb3.drew.trans (Frm.below hf4 (Nat.le_refl _) hb3.size) | exact hb3.trans (Frm.below hf4 (Nat.le_refl _) hb3.size)
                  have d10 := hr4.cell0
                  have d11 := hr4.cell1
                  have d12 := hr4.cell2
                  have g10 := hr4.free 0
                  have g11 := hr4.free 1
                  have g12 := hr4.free 2
                  have e10 := hx4.cell0
                  have e11 := hx4.cell1
                  have e12 := hx4.cell2)
                all_goals
                  go_wp2_with fail
                  go_meet
                  exact ⟨rfl, mid_end hi4 hr4 HS3.out HN.out.2.1 hb4 HN.out.2.2⟩
        case rest =>
          obtain ⟨rfl, k3, s3, hi', hst', hr', hb'⟩ := hcut
          have hsz : s.data.toList.length = s.size := by rw [Array.length_toList]; rfl
          have hq : ((s3.rest.length : Int) != (s.size : Int) - (k3 : Int)) = false := by
            have h1 := hst'.2.1
            have h2 := hst'.1
            rw [bne_eq_false_iff_eq, h1, List.length_drop, hsz]
            omega
          have hk3 : k3 ≤ s.size := hst'.1
          have HS' := Lib.hid hst'
          clear hst' hsz c0 c1 c2
          have c0 := hr'.cell0
          have c1 := hr'.cell1
          have c2 := hr'.cell2
          go_wp2_with fail
          go_quiet ((first
            | (go_at_call 22; exact Calls.quiet_of_same ((left_any _ _ s3 (by exact hi')).mono fun _ _ h => ⟨h.1, h.2.symm⟩))
            | (go_at_call 23; exact Calls.quiet_of_same ((err_any _ _ s3 (by exact hi')).mono fun _ _ h => ⟨h.1, h.2.symm⟩))))
          go_wp2
          refine ⟨⟨k + 1, k3, s3, by go_num, by omega, hi', HS'.out, hr', ⟨hb'.os, hb'.tape, hb'.output, hb'.size, hb'.block⟩⟩, ?_⟩
          simp [intOf]
          omega
      · have d1 : decide (k < len) = true := by simp; omega
        have d2 : decide ((k : Int) < 100) = false := by simp; omega
        go_wp2_with fail
        refine (lives_any _).mono ?_
        rintro e w5 ⟨rfl, hb5⟩
        go_wp2
        go_ret
        exact ⟨rfl, hb.trans (hb5.mono hb.size)⟩
    · have d1 : decide (k < len) = false := by simp; omega
      go_wp2_with fail
      refine (lives_any _).mono ?_
      rintro e w5 ⟨rfl, hb5⟩
      go_wp2
      go_ret
      exact ⟨rfl, hb.trans (hb5.mono hb.size)⟩
set_option maxHeartbeats 1000000 in
theorem walk_none (s : ByteArray) (A : Option Addr) (cap : Nat) (w : World) :
    Calls Try.prog 4 #[.string s, .slice A 0 cap] w fun e w' => e = .returned (.bool true) ∧ Below w.heap.size w w' := by
  go_enter Try.func4, Try.ntmps4
  go_wp2_with fail
  refine (open_any _ _).mono ?_
  rintro e w1 ⟨rfl, hi1, hb1, hs1⟩
  have hb2 : Below w.heap.size w (w1.alloc (.cells #[.string s, .int .i64 0, .int .i64 0] 39)) := hb1.alloc hb1.size _
  have H4 := Lib.hid hb2
  clear hb2 hi1 hb1 hs1
  go_wp2_with fail
  go_loopw [7] (fun i wr => i = .int .i64 0 ∧ Below w.heap.size w wr) (fun _ _ => 0)
  case atStart => exact ⟨rfl, H4.out⟩
  case round =>
    obtain ⟨rfl, hb⟩ := hrel
    go_wp2_with fail
    refine (lives_any _).mono ?_
    rintro e w5 ⟨rfl, hb5⟩
    go_wp2
    go_ret
    exact ⟨rfl, hb.trans (hb5.mono hb.size)⟩

theorem laidOut : laidOutB Try.prog = true := by kernel_rfl
theorem cells3 : Try.prog.cellsOf 3 = 1 := by kernel_rfl
theorem bytes3 : Try.prog.bytesOf 3 = 8 := by kernel_rfl

set_option maxRecDepth 100000 in
theorem lifted (os : Os) (started : os.Started) (H : Type) (enc : TypeId × Value → H) :
    ReturnsInHanded {} Try.checked os 4 .any (Rows.octetReadsSpec.pre6 enc Try.prog Try.f4 Rows.octetReadsRow.domain false) (Rows.octetReadsSpec.post enc Try.prog Try.f4 false true false false) := by
  refine returnsInHanded_of_change_sized (C := Try.checked) own started (by kernel_rfl) Try.func4
    (ChangeSpec.witness6 (enc := enc) (C := Try.checked) false ⟨#[], #[.string .empty, .slice none 0 0], []⟩ 8 (by kernel_rfl) (by kernel_rfl) (by kernel_rfl) (by kernel_rfl)) ?_
  intro W base args ds gs before hval0 hW hcnd hsz0 _
  have hval : ∀ (j : Nat) t v, Try.f4.params[j]? = some t → args[j]? = some v → Value.okWide Try.prog W .any base t v := hval0
  have hsz : (DataW.weightsEach Try.prog (Try.f4.params.toList ++ Rows.octetReadsSpec.plain.varTypes Try.prog) (ds ++ gs)).all (· ≤ reachBytes) = true := hsz0
  have hW' := hW
  obtain ⟨p, q, hA0, hV, rfl, hfz, hnd⟩ := hW
  have hA : DataW.TrodAll enc Try.prog W 0 (fun _ => true) true Try.f4.params.toList args.toList ds p := hA0
  rw [Try.params4] at hA hval hsz
  obtain ⟨v0, v1, d0, d1, p0, p1, rfl, rfl, rfl, h0, h1⟩ := trodAll_two hA
  obtain ⟨rfl, rfl⟩ := trodVars_none hV
  obtain ⟨s, rfl, rfl, rfl, hmax⟩ := open_string Try.underlying9 (hval 0 9 v0 rfl rfl) h0
  obtain ⟨a0, len, cap, rfl⟩ := okWide_slice Try.underlying35 (hval 1 35 v1 rfl rfl)
  have h1k := h1
  obtain ⟨fuel, hf⟩ := h1
  clear hA0 hval0
  have hreach := sized_string hsz (j := 0) (t := 9) rfl rfl
  have hlen : s.size ≤ 140737488355328 := by
    have e : s.data.toList.length = s.size := by rw [Array.length_toList]; rfl
    simp only [reachBytes] at hreach
    omega
  simp only [List.append_nil, List.nil_append] at hW'
  have hlt : ∀ x ∈ p1, x.block < W.heap.size := fun x hx => by simpa using hW'.lt x hx
  have hwalk : Calls Try.prog 4 #[.string s, .slice a0 len cap] W fun e w' => e = .returned (.bool true) ∧ Below W.heap.size W w' := by
    rcases open_ints Try.underlying35 Try.underlying3 cells3 hf with ⟨hcs, hx⟩ | ⟨a, len', cap', zs, hcs, _, hl, hm, hz, hx, hcell, hwz⟩
    · simp [Value.cells] at hcs
      obtain ⟨rfl, rfl, rfl⟩ := hcs
      exact walk_none s none 0 W
    · simp [Value.cells] at hcs
      obtain ⟨rfl, rfl, rfl⟩ := hcs
      simp only [Prod.mk.injEq] at hx
      obtain ⟨rfl, rfl⟩ := hx
      simp only [if_true] at hz
      by_cases hl0 : len = 0
      · subst hl0
        exact walk_none s _ cap W
      · obtain ⟨b, off, spot⟩ := a
        have hspot : spot = none := by simpa [Addr.add] using World.cell?_spot (hcell 0 (by omega))
        subst hspot
        have hbW : b < W.heap.size := hlt (.cell b off) (MemPlace.mem_row.2 ⟨0, by omega, by simp⟩)
        have hm' : cap ≤ 9223372036854775807 := by simpa [maxLen] using hm
        exact walk_some s hlen b off len cap zs (by omega) (by omega) W hbW (fun j hj => by rw [← add_plain]; exact hcell j (by omega))
  refine hwalk.mono fun e W' ⟨he, hb⟩ => ?_
  subst he
  exact ⟨_, rfl, post_below (pa := p1) (pv := []) hW' (fun _ _ _ => (trodAll_cons_mk (shut_bool Try.underlying4 _) trodAll_mk0))
    (fun sp hsp => trodAll_mk2 (p := []) (shut_string Try.underlying9 hmax) (WideElems.Trod_stays laidOut (by kernel_rfl) (of_decide_eq_true (by kernel_rfl)) h1k (fun x hx => hb.same (hlt x hx)) (fun x hx => hsp x hx))) (fun _ _ => rfl) (by simp)
    hb (ok_one (by kernel_rfl) rfl (okWide_bool_mk Try.underlying4 _))⟩

theorem proved : Rows.OctetReadsSaid :=
  OpenClaim.holds_of_wide 4 Try.f4 rfl rfl rfl rfl rfl rfl rfl ⟨rfl, rfl, rfl, rfl, rfl⟩ rfl rfl rfl rfl rfl (by kernel_rfl) Try.func4 (by kernel_rfl)
    (of_decide_eq_true (by kernel_rfl)) (by unfold Func.isWrapper; first | (rw [if_pos (by decide +kernel)]; kernel_rfl) | (rw [if_neg (by decide +kernel)]; exact ⟨rfl, rfl⟩))
    (fun os started H enc _ => lifted os started H enc)
end Go.Proofs.Ytlbnmlcdjkaiiaa.octetReads
