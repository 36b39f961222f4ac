/-
  The document's own bytes of an instruction that may be. No condition but that it may be.
-/
import Derived.Test.YtaefkkhmhogpeaaDoorJRefChk
import Derived.Test.YtaefkkhmhogpeaaDoorPut
namespace Go.Proofs.YtaefkkhmhogpeaaDoor.inst
open Go.RowKit Go.ChangeShapes
open Go.Proofs.YtaefkkhmhogpeaaDoor.oper (ret_int ret_bool ret_string)
open Go.Proofs.YtaefkkhmhogpeaaDoor.octet (run_one mk_append size_mk refNumW_any refIntW_any num zig)
open Go.Proofs.YtaefkkhmhogpeaaDoor.word (Word)
set_option linter.unusedVariables false

theorem Stand.glt {w W : World} {o a b : Int} {g : Nat} (h : Stand w o a b g W) : g < W.heap.size := by
  rcases Nat.lt_or_ge g W.heap.size with h1 | h1
  · exact h1
  · have := h.s0
    simp [World.cell?, Array.getElem?_eq_none h1] at this
theorem Stand.next {w W W' : World} {o a b : Int} {g : Nat} (h : Stand w o a b g W) (hb : Below W.heap.size W W') : Stand w o a b g W' :=
  ⟨h.below.trans (hb.mono (Nat.le_of_lt h.size)), Nat.lt_of_lt_of_le h.size hb.size, (hb.cell (p := ⟨w.heap.size, 0, none⟩) h.size).trans h.c0, (hb.cell (p := ⟨w.heap.size, 1, none⟩) h.size).trans h.c1, (hb.cell (p := ⟨w.heap.size, 2, none⟩) h.size).trans h.c2, (hb.cell (p := ⟨g, 0, none⟩) h.glt).trans h.s0, (hb.cell (p := ⟨g, 1, none⟩) h.glt).trans h.s1⟩

/-- Form, called while an instruction stands in memory. -/
theorem form_in (w W : World) (o a b : Int) (hs : w.heap.size < W.heap.size) (h0 : W.cell? ⟨w.heap.size, 0, none⟩ = some (.int .i64 o)) (h1 : W.cell? ⟨w.heap.size, 1, none⟩ = some (.int .i64 a)) (h2 : W.cell? ⟨w.heap.size, 2, none⟩ = some (.int .i64 b)) :
    Calls Tryd.prog 32 #[.int .i64 o] W fun e w' => e = .returned (.string (Go.Proofs.YtaefkkhmhogpeaaDoor.oper.txt Go.Proofs.YtaefkkhmhogpeaaDoor.oper.fm o)) ∧ w'.cell? ⟨w.heap.size, 0, none⟩ = some (.int .i64 o) ∧ w'.cell? ⟨w.heap.size, 1, none⟩ = some (.int .i64 a) ∧ w'.cell? ⟨w.heap.size, 2, none⟩ = some (.int .i64 b) ∧ Hid (Below W.heap.size W w') := by
  refine (Go.Proofs.YtaefkkhmhogpeaaDoor.oper.refForm_any o W).mono ?_
  rintro e w' ⟨rfl, hb⟩
  exact ⟨rfl, (hb.cell (p := ⟨w.heap.size, 0, none⟩) hs).trans h0, (hb.cell (p := ⟨w.heap.size, 1, none⟩) hs).trans h1, (hb.cell (p := ⟨w.heap.size, 2, none⟩) hs).trans h2, Lib.hid hb⟩

set_option maxRecDepth 100000 in
set_option maxHeartbeats 4000000 in
theorem refPut_any (o a b : Int) (hz : chk o a b = 0) (w : World) : Calls Tryd.prog 15 #[.agg #[.int .i64 o, .int .i64 a, .int .i64 b]] w fun e w' => e = .returned (.string ⟨(encI o a b).toArray⟩) ∧ Below w.heap.size w w' := by
  obtain ⟨hk, hf⟩ := chk_zero hz
  have hok := (chkF_zero hf).1
  have HF := fun W => form_in w W o a b
  have hy2 : (Go.Proofs.YtaefkkhmhogpeaaDoor.oper.txt Go.Proofs.YtaefkkhmhogpeaaDoor.oper.fm o).size ≤ 2 := by have := form_le o; unfold form at this; rwa [← size_list] at this
  have HW : Hid (encI o a b = UInt8.ofNat o.toNat :: pieces (form o) a b (form o).length) := Lib.hid rfl
  rw [HW.out]
  unfold form at hok ⊢
  have HO := Lib.hid hok
  have ho := hk.1
  have ho' := hk.2
  clear hk hf hz HW hok
  generalize Go.Proofs.YtaefkkhmhogpeaaDoor.oper.txt Go.Proofs.YtaefkkhmhogpeaaDoor.oper.fm o = y at *
  go_enter Tryd.func15, Tryd.ntmps15
  go_upto_region 1 with fail
  go_cut [3, 4] (fun t l wx => Forms w o a b y t l wx)
  case first =>
    go_region_held3 (fun w' => w'.cell? ⟨w.heap.size, 0, none⟩ = some (.int .i64 o) ∧ w'.cell? ⟨w.heap.size, 1, none⟩ = some (.int .i64 a) ∧ w'.cell? ⟨w.heap.size, 2, none⟩ = some (.int .i64 b)) (go_keep)
      (first | (go_at_call 32; refine (HF _ ?_ ?_ ?_ ?_).mono ?_; (simp <;> omega); (simp); (simp); (simp); rintro e w1 ⟨rfl, d0, d1, d2, HX⟩))
    all_goals
      go_wp2_with fail
      go_meet
      refine ⟨rfl, _, rfl, ?_⟩
      first
        | exact stand_late ((Below.refl _ _).drew.trans HX.out)
        | exact stand_early ((Below.refl _ _).drew.trans HX.out)
  case rest =>
    obtain ⟨rfl, g, rfl, hS⟩ := hcut
    have HS0 := Lib.hid hS
    have c0 := hS.c0
    have hone := run_one wc o (UInt8.ofNat o.toNat) (by rw [UInt8.toNat_ofNat']; omega)
    have HB0 := Lib.hid (hS.next ((Below.refl wc.heap.size wc).alloc (Nat.le_refl _) (.cells #[.int .u8 o] 5)))
    clear hS
    go_wp2_with fail
    generalize wc.alloc (.cells #[.int .u8 o] 5) = W1 at *
    clear hone HS0 c0
    obtain ⟨h, hh⟩ : ∃ h, h = UInt8.ofNat o.toNat := ⟨_, rfl⟩
    rw [← hh]
    have HH := Lib.hid hh
    clear hh
    go_loopw [5, 6] (fun t i wr => ∃ j : Nat, j ≤ y.size ∧ i = .int .i64 (j : Int) ∧ t = .string ⟨(h :: pieces y.data.toList a b j).toArray⟩ ∧ Hid (Stand w o a b g wr)) (fun _ i _ => y.size - (intOf i).toNat)
    case atStart => exact ⟨0, Nat.zero_le _, rfl, rfl, HB0⟩
    case round =>
      obtain ⟨j, hj, rfl, rfl, HS⟩ := hrel
      by_cases hlt : j < y.size
      · have hcell := HS.out.at (j := j) (by omega)
        have hj2 : (j : Int) < 2 := by omega
        have hyj : y[j] = y.data.toList.getD j 0 := letter_at hlt
        have hk := HO.out j (by rw [← size_list]; exact hlt)
        have HP : Hid (pieces y.data.toList a b (j + 1) = pieces y.data.toList a b j ++ piece (y.data.toList.getD j 0) (opd a b j)) := Lib.hid rfl
        have hpl := pieces_le y.data.toList a b j
        unfold okAt at hk
        generalize y.data.toList.getD j 0 = c at *
        generalize opd a b j = v at *
        have hs1 := size_mk (h :: pieces y.data.toList a b j)
        rw [List.length_cons] at hs1
        generalize pieces y.data.toList a b j = pre at *
        by_cases hc : c = 110
        · subst hc
          have hv : Word v := by unfold fitsB at hk; rw [if_pos rfl] at hk; simpa using hk
          unfold Word at hv
          have HE : Hid (piece 110 v = num (zig v)) := Lib.hid rfl
          have hs2 := size_mk (num (zig v))
          have hn2 := Go.Proofs.YtaefkkhmhogpeaaDoor.octet.num_length_le (zig v)
          clear hk
          go_wp2_with fail
          refine (refIntW_any _ v (by omega) (by omega)).mono ?_
          rintro e w1 ⟨rfl, hb⟩
          have HS1 := Lib.hid (HS.out.next hb)
          clear hb hcell
          generalize num (zig v) = q at *
          go_wp2
          go_roundw
          case rel => exact ⟨j + 1, by omega, by go_num, by rw [HP.out, HE.out, ← List.cons_append, ← mk_append], HS1⟩
          case measure => simp [intOf]; omega
        · have hw : least c ≤ v ∧ v ≤ most c := by unfold fitsB at hk; rw [if_neg hc] at hk; simpa using hk
          have hl0 : 0 ≤ least c := by unfold least; split <;> omega
          have hm0 : most c ≤ 199 := by unfold most; split; omega; split; omega; split; omega; split <;> omega
          obtain ⟨m, rfl⟩ : ∃ m : Nat, v = (m : Int) := ⟨v.toNat, by omega⟩
          have HE : Hid (piece c (m : Int) = num m) := Lib.hid (by unfold piece; rw [if_neg hc, Int.toNat_natCast])
          have hc1 : ((c.toNat : Int) == 110) = false := (u8_ne hc).1
          have hs2 := size_mk (num m)
          have hn2 := Go.Proofs.YtaefkkhmhogpeaaDoor.octet.num_length_le m
          have hm1 : m ≤ 199 := by omega
          clear hk hw hc hl0 hm0
          go_wp2_with fail
          refine (refNumW_any _ m (by unfold Go.Proofs.YtaefkkhmhogpeaaDoor.octet.Fits; omega)).mono ?_
          rintro e w1 ⟨rfl, hb⟩
          have HS1 := Lib.hid (HS.out.next hb)
          clear hb hcell
          generalize num m = q at *
          go_wp2
          go_roundw
          case rel => exact ⟨j + 1, by omega, by go_num, by rw [HP.out, HE.out, ← List.cons_append, ← mk_append], HS1⟩
          case measure => simp [intOf]; omega
      · obtain rfl : j = y.size := by omega
        have HB := Lib.hid HS.out.below
        go_wp2_with fail
        go_ret
        refine ⟨?_, HB.out⟩
        rw [HH.out, ← size_list]
        rfl
end Go.Proofs.YtaefkkhmhogpeaaDoor.inst
