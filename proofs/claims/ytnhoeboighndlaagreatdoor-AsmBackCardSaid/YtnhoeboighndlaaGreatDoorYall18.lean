/-
  Texts of one claim in one file: YRefLine. Each has its own sentence, with its conditions.
-/
import Derived.Test.YtnhoeboighndlaaGreatDoorYall4
import Derived.Test.YtnhoeboighndlaaGreatDoorYall15
import Derived.Test.YtnhoeboighndlaaGreatDoorYall7
import Derived.Deep.AppendLies
/-
  The document's own line of an instruction. Conditions: an operation that there is, and operands of at most ten digits; those that its form lacks are 0.
-/
namespace Go.Proofs.YtnhoeboighndlaaGreatDoor.pgm.asm
open Go.RowKit Go.ChangeShapes
open Go.Proofs.YtnhoeboighndlaaGreatDoor.pgm
open Go.Proofs.YtnhoeboighndlaaGreatDoor.octet (mk_append size_mk)
open Go.Proofs.YtnhoeboighndlaaGreatDoor.need (digs intT intT_le refInt9_any)
open Go.Proofs.YtnhoeboighndlaaGreatDoor.objs (De)
open Go.Proofs.YtnhoeboighndlaaGreatDoor.oper (nm fm txt txt_at nat_of nmBlock nmBlock_cell refNames_any refForm_any ret_string)
open Go.Proofs.YtnhoeboighndlaaGreatDoor.inst (form Stand Forms insBox opdBox stand_late stand_early opd below_drewN size_list)
set_option linter.unusedVariables false

/-- A line of an instruction, up to so many operands. -/
def lineTo (o a b : Int) (j : Nat) : List UInt8 := (txt nm o).data.toList ++ numsT ((opsL (form o).length a b).take j)
theorem lineTo_zero (o a b : Int) : lineTo o a b 0 = (txt nm o).data.toList := by simp [lineTo, numsT]
theorem lineTo_next (o a b : Int) (j : Nat) (h : j < (form o).length) (h2 : (form o).length ≤ 2) : lineTo o a b (j + 1) = lineTo o a b j ++ [32] ++ intT (opd a b j) := by
  have hn : (form o).length = 1 ∨ (form o).length = 2 := by omega
  unfold lineTo
  rcases hn with e | e
  · have : j = 0 := by omega
    subst this
    rw [e]
    simp [opsL, numsT, opd]
  · rw [e]
    have : j = 0 ∨ j = 1 := by omega
    rcases this with rfl | rfl <;> simp [opsL, numsT, opd]
theorem lineTo_all (o a b : Int) (h2 : (form o).length ≤ 2) : lineTo o a b (form o).length = lineT (o, a, b) := by
  unfold lineTo lineT
  rw [show (opsL (form o).length a b).take (form o).length = opsL (form o).length a b by
    conv => lhs; rw [show (form o).length = (opsL (form o).length a b).length from (opsL_length h2 a b).symm]
    conv => lhs; rw [opsL_length h2 a b]
    exact List.take_of_length_le (by rw [opsL_length h2 a b]; exact Nat.le_refl _)]
theorem name_short : ∀ k : Nat, k < 52 → (nm.getD k ⟨#[]⟩).data.toList.length ≤ 10 := by decide +kernel
theorem lineTo_le (o a b : Int) (ho : 0 ≤ o ∧ o ≤ 51) (h2 : (form o).length ≤ 2) (hab : ∀ j, j < 2 → Sm (opd a b j)) : ∀ j, j ≤ (form o).length → (lineTo o a b j).length ≤ 10 + 22 * j := by
  intro j
  induction j with
  | zero =>
    intro _
    rw [lineTo_zero]
    obtain ⟨k, hk, rfl⟩ := nat_of ho
    rw [txt_at hk]
    exact name_short k hk
  | succ j ih =>
    intro hj
    have h1 := ih (by omega)
    have h3 := intT_le (n := opd a b j) (by have := hab j (by omega); unfold Sm at this; omega)
    rw [lineTo_next o a b j (by omega) h2]
    simp only [List.length_append, List.length_cons, List.length_nil]
    omega

theorem stand_next {w W W' : World} {o a b : Int} {g : Nat} (h : Stand w o a b g W) (hb : Below W.heap.size W W') : Stand w o a b g W' := by
  have hg : g < W.heap.size := World.block_lt_of_cell? W _ h.s0
  exact ⟨h.below.trans (hb.mono h.below.size), Nat.lt_of_lt_of_le h.size hb.size, (hb.cell (p := ⟨w.heap.size, 0, none⟩) h.size).trans h.c0, (hb.cell (p := ⟨w.heap.size, 1, none⟩) h.size).trans h.c1, (hb.cell (p := ⟨w.heap.size, 2, none⟩) h.size).trans h.c2, (hb.cell (p := ⟨g, 0, none⟩) hg).trans h.s0, (hb.cell (p := ⟨g, 1, none⟩) hg).trans h.s1⟩

set_option maxRecDepth 100000 in
set_option maxHeartbeats 8000000 in
theorem refLine13_any (o a b : Int) (ho : 0 ≤ o ∧ o ≤ 51) (ha : Sm a) (hb : Sm b) (w : World) : Calls Tryz.prog 30 #[.agg #[.int .i64 o, .int .i64 a, .int .i64 b]] w fun e w' => e = .returned (.string ⟨(lineT (o, a, b)).toArray⟩) ∧ Below w.heap.size w w' := by
  have hab : ∀ j, j < 2 → Sm (opd a b j) := fun j hj => by
    unfold opd
    split
    · exact ha
    · exact hb
  have hf2 : (form o).length ≤ 2 := by
    obtain ⟨k, hk, rfl⟩ := nat_of ho
    exact form_two k hk
  have HLe := Lib.hid (lineTo_le o a b ho hf2 hab)
  have HAll := Lib.hid (lineTo_all o a b hf2)
  have HNext := Lib.hid (fun j h => lineTo_next o a b j h hf2)
  have HZero : Hid (ByteArray.mk (lineTo o a b 0).toArray = txt nm o) := Lib.hid (by
    rw [lineTo_zero])
  have HI : ∀ j W, j < 2 → Hid (Calls Tryz.prog 33 #[.int .i64 (opd a b j)] W fun e w' => e = .returned (.string ⟨(intT (opd a b j)).toArray⟩) ∧ Below W.heap.size W w') := fun j W hj => Lib.hid (refInt9_any (opd a b j) (by have := hab j hj; unfold Sm at this; omega) W)
  have HIl : ∀ j, j < 2 → (intT (opd a b j)).length ≤ 21 := fun j hj => intT_le (by have := hab j hj; unfold Sm at this; omega)
  have HFo : ∀ W, Hid (Calls Tryz.prog 51 #[.int .i64 o] W fun e w' => e = .returned (.string (txt fm o)) ∧ Below W.heap.size W w') := fun W => Lib.hid (refForm_any o W)
  have hsz : (txt fm o).size = (form o).length := size_list _
  have hny : (txt nm o).size ≤ 10 := by
    have := (lineTo_le o a b ho hf2 hab) 0 (Nat.zero_le _)
    rw [lineTo_zero] at this
    rw [size_list]
    exact this
  obtain ⟨k, hk, hok⟩ := nat_of ho
  have hcell : ∀ W : World, (W.alloc nmBlock).cell? ⟨W.heap.size, k, none⟩ = some (.string (txt nm o)) := fun W => by
    rw [hok, txt_at hk]
    exact nmBlock_cell W hk
  have HF : ∀ W : World, w.heap.size < W.heap.size → W.cell? ⟨w.heap.size, 0, none⟩ = some (.int .i64 o) → W.cell? ⟨w.heap.size, 1, none⟩ = some (.int .i64 a) → W.cell? ⟨w.heap.size, 2, none⟩ = some (.int .i64 b) →
      Calls Tryz.prog 55 #[] W fun e w' => e = .returned (.slice (some ⟨W.heap.size, 0, none⟩) 52 52) ∧ w'.cell? ⟨W.heap.size, k, none⟩ = some (.string (txt nm o)) ∧ W.heap.size < w'.heap.size ∧ w'.cell? ⟨w.heap.size, 0, none⟩ = some (.int .i64 o) ∧ w'.cell? ⟨w.heap.size, 1, none⟩ = some (.int .i64 a) ∧ w'.cell? ⟨w.heap.size, 2, none⟩ = some (.int .i64 b) ∧ (∀ x : Obj, (w'.alloc x).cell? ⟨W.heap.size, k, none⟩ = some (.string (txt nm o)) ∧ (w'.alloc x).cell? ⟨w.heap.size, 0, none⟩ = some (.int .i64 o) ∧ (w'.alloc x).cell? ⟨w.heap.size, 1, none⟩ = some (.int .i64 a) ∧ (w'.alloc x).cell? ⟨w.heap.size, 2, none⟩ = some (.int .i64 b)) ∧ Hid (Below W.heap.size W w') := by
    intro W hs h0 h1 h2
    refine (refNames_any W).mono ?_
    rintro e w' ⟨rfl, rfl⟩
    have hb : Below W.heap.size W (W.alloc nmBlock) := (Below.refl _ _).alloc (Nat.le_refl _) _
    have c0 := (hb.cell (p := ⟨w.heap.size, 0, none⟩) hs).trans h0
    have c1 := (hb.cell (p := ⟨w.heap.size, 1, none⟩) hs).trans h1
    have c2 := (hb.cell (p := ⟨w.heap.size, 2, none⟩) hs).trans h2
    have cs : (W.alloc nmBlock).heap.size = W.heap.size + 1 := World.size_alloc W _
    have hx : ∀ (x : Obj) (p : Addr), p.block < (W.alloc nmBlock).heap.size → ((W.alloc nmBlock).alloc x).cell? p = (W.alloc nmBlock).cell? p := fun x p hp => ((Below.refl (W.alloc nmBlock).heap.size (W.alloc nmBlock)).alloc (Nat.le_refl _) x).cell hp
    exact ⟨rfl, hcell W, by omega, c0, c1, c2, fun x => ⟨(hx x _ (by dsimp only; omega)).trans (hcell W), (hx x _ (by dsimp only; omega)).trans c0, (hx x _ (by dsimp only; omega)).trans c1, (hx x _ (by dsimp only; omega)).trans c2⟩, Lib.hid hb⟩
  clear hcell ha hb
  generalize hL : (form o).length = L at *
  generalize txt nm o = y at *
  generalize txt fm o = z at *
  subst hok
  go_enter Tryz.func30, Tryz.ntmps30
  go_upto_region 1 with fail
  go_cut [3, 4] (fun t l wx => Forms w (k : Int) a b y t l wx)
  case first =>
    have hk0 : (0 : Int) ≤ (k : Int) := by omega
    have hk1 : (k : Int) < 52 := by omega
    go_region_law (go_simp; go_at_call 55; refine (HF _ ?_ ?_ ?_ ?_).mono ?_; (simp <;> omega); (simp); (simp); (simp); rintro e w1 ⟨rfl, dn, ds, d0, d1, d2, dx, HX⟩; simp at dn ds dx)
    all_goals
      go_wp2_with fail
      go_meet
      refine ⟨rfl, _, rfl, ?_⟩
      first
        | exact stand_late ((Below.refl _ _).drew.trans HX.out)
        | exact stand_early ((Below.refl _ _).drew.trans HX.out)
  case rest =>
    obtain ⟨rfl, g, rfl, hS⟩ := hcut
    have HS0 := Lib.hid hS
    clear hS HF
    go_wp2_with fail
    go_loopw [3, 5] (fun s i wr => ∃ j : Nat, j ≤ L ∧ i = .int .i64 (j : Int) ∧ s = .string ⟨(lineTo (k : Int) a b j).toArray⟩ ∧ Hid (Stand w (k : Int) a b g wr)) (fun _ i _ => L - (intOf i).toNat)
    case atStart => exact ⟨0, Nat.zero_le _, rfl, by rw [HZero.out], HS0⟩
    case round =>
      obtain ⟨j, hj, rfl, rfl, HS⟩ := hrel
      have hb0 := HS.out.c0
      have hj0 : (0 : Int) ≤ (j : Int) := by omega
      by_cases hlt : j < L
      · have hlt' : (j : Int) < (z.size : Int) := by omega
        have hj2 : j < 2 := by omega
        have hj2' : (j : Int) < 2 := by omega
        have HE := Lib.hid (HNext.out j hlt)
        have hpl := HLe.out j hj
        have hil := HIl j hj2
        have HIj := fun W => HI j W hj2
        have HcW : ∀ W : World, Hid (Stand w (k : Int) a b g W) → W.cell? ⟨g, j, none⟩ = some (.int .i64 (opd a b j)) := fun W h => h.out.at hj2
        generalize opd a b j = v at *
        generalize lineTo (k : Int) a b j = pre at *
        have hs1 := size_mk pre
        have hs2 : (ByteArray.mk #[32]).size = 1 := rfl
        have hs3 := size_mk (intT v)
        clear HLe HNext HIl HI HAll HZero
        go_wp2_with fail
        refine (HFo _).out.mono ?_
        rintro e w2 ⟨rfl, hb2⟩
        have HS2 := Lib.hid (stand_next HS.out hb2)
        have hc := HcW _ HS2
        go_wp2_with fail
        refine (HIj _).out.mono ?_
        rintro e w3 ⟨rfl, hb3⟩
        have HS3 := Lib.hid (stand_next HS2.out hb3)
        clear hb2 hb3
        go_wp2_with fail
        go_roundw
        case rel => exact ⟨j + 1, by omega, by go_num, by rw [HE.out, mk_append, mk_append], HS3⟩
        case measure => simp [intOf]; omega
      · have hlt' : ¬ (j : Int) < (z.size : Int) := by omega
        obtain rfl : j = L := by omega
        rw [HAll.out]
        clear HLe HNext HIl HI HZero
        go_wp2_with fail
        refine (HFo _).out.mono ?_
        rintro e w2 ⟨rfl, hb2⟩
        have HB := Lib.hid (stand_next HS.out hb2).below
        clear hb2
        go_wp2_with fail
        go_ret
        exact ⟨rfl, HB.out⟩
end Go.Proofs.YtnhoeboighndlaaGreatDoor.pgm.asm
