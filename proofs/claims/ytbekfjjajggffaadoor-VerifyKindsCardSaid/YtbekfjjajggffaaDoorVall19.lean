/-
  Texts of one claim in one file: HReach, HStart, HSpec. Each has its own sentence, with its conditions.
-/
import Derived.Test.YtbekfjjajggffaaDoorVall18
import Derived.Test.YtbekfjjajggffaaDoorVall7
import Derived.RegionTactic
import Derived.ChangeAlike
import Derived.LoopTactic
import Derived.Laws.MakeOwn
import Derived.Deep.RegionWith
import Derived.Test.YtbekfjjajggffaaDoorVall11
import Derived.Test.YtbekfjjajggffaaDoorVall14
import Derived.Test.YtbekfjjajggffaaDoorVall15
import Derived.Test.YtbekfjjajggffaaDoorVall16
import Derived.WalkLawsBesides
/-
  The walk's call that goes to a place (typed over the code of 5351f23). Of at most 200 instructions.
-/
namespace Go.Proofs.YtbekfjjajggffaaDoor.pgm.dep
open Go.RowKit Go.ChangeShapes
open Go.Proofs.YtbekfjjajggffaaDoor.pgm
open Go.Proofs.YtbekfjjajggffaaDoor.span (within_any)
set_option linter.unusedVariables false

set_option maxRecDepth 100000 in
set_option maxHeartbeats 2000000 in
theorem reach_any (W : World) (bw bd ba n : Nat) (vF : Value) (C : Option Addr) (cc : Nat) (z : Z) (pl er d : Int) (t : Nat) (h : Wk W bw bd ba n vF (.slice C n cc) z pl er) (hn : n ≤ 200) (hle : z.le ≤ 200) (ht : t ≤ 1000) (hd : -1 < d) :
    Calls Tryd.prog 75 #[.pointer (some ⟨bw, 0, none⟩), .int .i64 (t : Int), .int .i64 d] W fun e w' => e = .returned (.int .i64 ((reachZ n d z t).2 : Int)) ∧ Wk w' bw bd ba n vF (.slice C n cc) (reachZ n d z t).1 pl er ∧ Trn bw bd ba W w' := by
  obtain ⟨-, c1, c2, c3, c4, -, -, d4, -, -⟩ := h.cells
  have HWi := fun W => Lib.hid (within_any (t : Int) 0 ((n : Int) - 1) W)
  have HS := Lib.hid h
  unfold reachZ
  by_cases hlt : n ≤ t
  · rw [if_pos hlt]
    rw [decide_eq_false (fun hh => by omega)] at HWi
    clear h
    go_enter Tryd.func75, Tryd.ntmps75
    go_wp2_with fail
    refine (HWi _).out.mono ?_
    rintro e w1 ⟨rfl, rfl⟩
    go_wp2
    go_ret
    exact ⟨rfl, HS.out, Trn.refl _ _ _ _⟩
  · rw [if_neg hlt]
    have htn : t < n := by omega
    rw [decide_eq_true (by omega)] at HWi
    obtain ⟨x0, y0⟩ := h.depth htn
    have h0 : (0 : Int) ≤ (t : Int) := by omega
    have h1 : (t : Int) < (n : Int) := by omega
    by_cases he : z.dp.getD t (-1) = -1
    · rw [if_pos he]
      rw [he] at x0
      obtain ⟨u0, v0⟩ := h.yes htn
      generalize z.ah.getD t false = ob at *
      have HD := Lib.hid ((((h.deep t d).mark t true).drew))
      have HT := Lib.hid ((((Trn.refl bw bd ba W).setCell (p := ⟨bd, t, none⟩) (.inr (.inl rfl)) (.int .i64 d)).setCell (p := ⟨ba, t, none⟩) (.inr (.inr rfl)) (.bool true)).drew)
      have n3 := h.n3
      have n4 := Ne.symm n3
      clear h he hlt
      go_enter Tryd.func75, Tryd.ntmps75
      go_wp2_with fail
      refine (HWi _).out.mono ?_
      rintro e w1 ⟨rfl, rfl⟩
      go_wp2
      go_region
      generalize ((W.setCell ⟨bd, t, none⟩ (.int .i64 d)).setCell ⟨ba, t, none⟩ (.bool true)).drew = W1 at *
      clear c1 c2 c3 c4 d4 x0 y0 u0 v0
      obtain ⟨-, -, c2, -, c4, -, -, d4, -, -⟩ := HD.out.cells
      obtain ⟨x0, -⟩ := HD.out.depth htn
      have ld := HD.out.ld
      rw [List.length_set] at ld
      have ex : (z.dp.set t d).getD t (-1) = d := by rw [getD_set, if_pos ⟨rfl, by omega⟩]
      have x1 : W1.cell? ⟨bd, t, none⟩ = some (.int .i64 d) := x0.trans (by rw [ex])
      have n1 := HD.out.n1
      have n2 := Ne.symm n1
      have HL : Hid (∀ m : Nat, m = min z.le t → Wk (W1.setCell ⟨bw, 4, none⟩ (.int .i64 (m : Int))) bw bd ba n vF (.slice C n cc) ⟨z.dp.set t d, z.ah.set t true, min z.le t⟩ pl er) := Lib.hid fun m hm => by
        rw [← hm]
        exact HD.out.least m
      have HU := Lib.hid (fun m : Nat => HT.out.setCell (p := ⟨bw, 4, none⟩) (.inl rfl) (.int .i64 (m : Int)))
      have q1 : (d != d) = false := by simp
      clear x0 ex HD HT ld
      go_wp2
      all_goals go_ret
      all_goals first
        | exact ⟨rfl, HL.out z.le (by omega), HU.out z.le⟩
        | exact ⟨rfl, HL.out t (by omega), HU.out t⟩
        | (rw [show min (z.le : Int) (t : Int) = ((min z.le t : Nat) : Int) by omega]; exact ⟨rfl, HL.out _ rfl, HU.out _⟩)
    · rw [if_neg he]
      have q0 : (z.dp.getD t (-1) == -1) = false := by simpa using he
      by_cases hq : z.dp.getD t (-1) = d
      · rw [if_neg (fun hh => hh hq)]
        rw [hq] at x0 q0
        have q1 : (d != d) = false := by simp
        clear h he hlt hq
        go_enter Tryd.func75, Tryd.ntmps75
        go_wp2_with fail
        refine (HWi _).out.mono ?_
        rintro e w1 ⟨rfl, rfl⟩
        go_wp2
        go_ret
        exact ⟨rfl, HS.out, Trn.refl _ _ _ _⟩
      · rw [if_pos hq]
        have q1 : (z.dp.getD t (-1) != d) = true := by simpa using hq
        clear h he hlt hq
        generalize z.dp.getD t (-1) = x at *
        go_enter Tryd.func75, Tryd.ntmps75
        go_wp2_with fail
        refine (HWi _).out.mono ?_
        rintro e w1 ⟨rfl, rfl⟩
        go_wp2
        go_ret
        exact ⟨rfl, HS.out, Trn.refl _ _ _ _⟩
end Go.Proofs.YtbekfjjajggffaaDoor.pgm.dep

/-
  The walk as it begins (typed over the code of 5351f23): all depths unknown but the first one's. Of 1 to 200 instructions.
-/
namespace Go.Proofs.YtbekfjjajggffaaDoor.pgm.dep
open Go.RowKit Go.ChangeShapes
open Go.Proofs.YtbekfjjajggffaaDoor.pgm
open Go.Proofs.YtbekfjjajggffaaDoor.nums (ints)
set_option linter.unusedVariables false

theorem infoInt : (Tryd.prog.info? 3).map (fun i => (i.zero, i.size, i.bytes)) = some (some (.int .i64 0), 1, 8) := by kernel_rfl
theorem infoBool : (Tryd.prog.info? 4).map (fun i => (i.zero, i.size, i.bytes)) = some (some (.bool false), 1, 1) := by kernel_rfl
set_option maxRecDepth 100000 in
theorem made_ints (n : Nat) (hn : n ≤ 8192) (W : World) :
    (Instr.makeSlice 32 (.int .i64 (n : Int)) (.int .i64 (n : Int))).run Tryd.prog W = .ok (.slice (some ⟨W.heap.size, 0, none⟩) n n) (W.alloc (.cells (ints (List.replicate n 0)).toArray 3)) := by
  obtain ⟨i, hi, hz0, hz1, hz2⟩ := info_parts infoInt
  have h := run_make (P := Tryd.prog) W 32 3 i (.int .i64 0) Tryd.underlying32 hi hz0 .i64 .i64 (n : Int) (n : Int) (by omega) (by omega) (by rw [hz2]; omega) (by omega)
  rw [h, hz1, Int.toNat_natCast, Nat.mul_one]
  congr 4
  rw [← Array.toList_inj]
  show (madeCells #[.int .i64 0] n).toList = _
  rw [toList_madeCells_one]
  simp [ints]
set_option maxRecDepth 100000 in
theorem made_bools (n : Nat) (hn : n ≤ 8192) (W : World) :
    (Instr.makeSlice 107 (.int .i64 (n : Int)) (.int .i64 (n : Int))).run Tryd.prog W = .ok (.slice (some ⟨W.heap.size, 0, none⟩) n n) (W.alloc (.cells (yess (List.replicate n false)).toArray 4)) := by
  obtain ⟨i, hi, hz0, hz1, hz2⟩ := info_parts infoBool
  have h := run_make (P := Tryd.prog) W 107 4 i (.bool false) Tryd.underlying107 hi hz0 .i64 .i64 (n : Int) (n : Int) (by omega) (by omega) (by rw [hz2]; omega) (by omega)
  rw [h, hz1, Int.toNat_natCast, Nat.mul_one]
  congr 4
  rw [← Array.toList_inj]
  show (madeCells #[.bool false] n).toList = _
  rw [toList_madeCells_one]
  simp [yess]

/-- Of n depths the first j are unknown. -/
def unk (n j : Nat) : List Int := List.replicate j (-1) ++ List.replicate (n - j) 0
theorem unk_length {n j : Nat} (h : j ≤ n) : (unk n j).length = n := by simp [unk]; omega
theorem unk_next {n j : Nat} (h : j < n) : (unk n j).set j (-1) = unk n (j + 1) := by
  unfold unk
  rw [List.set_append_right _ _ (by simp), List.length_replicate, Nat.sub_self]
  obtain ⟨m, hm⟩ : ∃ m, n - j = m + 1 := ⟨n - j - 1, by omega⟩
  rw [hm, show n - (j + 1) = m by omega, List.replicate_succ (n := m), List.set_cons_zero, List.replicate_succ' (n := j)]
  simp

theorem unk_zero (n : Nat) : unk n 0 = List.replicate n 0 := by simp [unk]
theorem unk_all (n : Nat) : unk n n = List.replicate n (-1) := by simp [unk]
/-- Behind the making of its three blocks, the depths' first. -/
theorem laid_di (W : World) (vF vC : Value) (n : Nat) : Wk ((((W.alloc (.cells (ints (List.replicate n 0)).toArray 3)).alloc (.cells (yess (List.replicate n false)).toArray 4)).alloc (wkB vF vC W.heap.size (W.heap.size + 1) n 0 0 0)).drew) (W.heap.size + 1 + 1) W.heap.size (W.heap.size + 1) n vF vC ⟨unk n 0, List.replicate n false, 0⟩ 0 0 ∧
    Below W.heap.size W ((((W.alloc (.cells (ints (List.replicate n 0)).toArray 3)).alloc (.cells (yess (List.replicate n false)).toArray 4)).alloc (wkB vF vC W.heap.size (W.heap.size + 1) n 0 0 0)).drew) := by
  have z1 : (W.alloc (.cells (ints (List.replicate n 0)).toArray 3)).heap.size = W.heap.size + 1 := World.size_alloc _ _
  have z2 : ((W.alloc (.cells (ints (List.replicate n 0)).toArray 3)).alloc (.cells (yess (List.replicate n false)).toArray 4)).heap.size = W.heap.size + 1 + 1 := by rw [World.size_alloc, World.size_alloc]
  rw [unk_zero]
  refine ⟨⟨?_, ?_, ?_, by omega, by omega, by omega, by simp, by simp⟩, ((((Below.refl _ W).alloc (Nat.le_refl _) _).alloc (by omega) _).alloc (by omega) _).drew⟩
  · rw [← z2]
    exact heap_alloc_new _ _
  · exact (Below.heap_alloc _ _ _ (by omega)).trans ((Below.heap_alloc _ _ _ (by omega)).trans (heap_alloc_new W _))
  · exact (Below.heap_alloc _ _ _ (by omega)).trans (by rw [← z1]; exact heap_alloc_new _ _)
/-- The same, the other one first. -/
theorem laid_id (W : World) (vF vC : Value) (n : Nat) : Wk ((((W.alloc (.cells (yess (List.replicate n false)).toArray 4)).alloc (.cells (ints (List.replicate n 0)).toArray 3)).alloc (wkB vF vC (W.heap.size + 1) W.heap.size n 0 0 0)).drew) (W.heap.size + 1 + 1) (W.heap.size + 1) W.heap.size n vF vC ⟨unk n 0, List.replicate n false, 0⟩ 0 0 ∧
    Below W.heap.size W ((((W.alloc (.cells (yess (List.replicate n false)).toArray 4)).alloc (.cells (ints (List.replicate n 0)).toArray 3)).alloc (wkB vF vC (W.heap.size + 1) W.heap.size n 0 0 0)).drew) := by
  have z1 : (W.alloc (.cells (yess (List.replicate n false)).toArray 4)).heap.size = W.heap.size + 1 := World.size_alloc _ _
  have z2 : ((W.alloc (.cells (yess (List.replicate n false)).toArray 4)).alloc (.cells (ints (List.replicate n 0)).toArray 3)).heap.size = W.heap.size + 1 + 1 := by rw [World.size_alloc, World.size_alloc]
  rw [unk_zero]
  refine ⟨⟨?_, ?_, ?_, by omega, by omega, by omega, by simp, by simp⟩, ((((Below.refl _ W).alloc (Nat.le_refl _) _).alloc (by omega) _).alloc (by omega) _).drew⟩
  · rw [← z2]
    exact heap_alloc_new _ _
  · exact (Below.heap_alloc _ _ _ (by omega)).trans (by rw [← z1]; exact heap_alloc_new _ _)
  · exact (Below.heap_alloc _ _ _ (by omega)).trans ((Below.heap_alloc _ _ _ (by omega)).trans (heap_alloc_new W _))
/-- The bodies that follow are the same. -/
theorem ret_ptr {bw bd ba : Nat} {W W' : World} {n : Nat} {vF vC : Value} {z : Z} (h1 : W.heap.size ≤ bw) (h2 : W.heap.size ≤ bd) (h3 : W.heap.size ≤ ba) (h4 : Wk W' bw bd ba n vF vC z 0 0) (h5 : Below W.heap.size W W') :
    ∃ bw' bd' ba', Ending.returned (.pointer (some ⟨bw, 0, none⟩)) = .returned (.pointer (some ⟨bw', 0, none⟩)) ∧ W.heap.size ≤ bw' ∧ W.heap.size ≤ bd' ∧ W.heap.size ≤ ba' ∧ Wk W' bw' bd' ba' n vF vC z 0 0 ∧ Below W.heap.size W W' :=
  ⟨bw, bd, ba, rfl, h1, h2, h3, h4, h5⟩

set_option maxRecDepth 100000 in
set_option maxHeartbeats 4000000 in
theorem start_any (W : World) (A C : Option Addr) (nf cf n cc : Nat) (hn0 : 0 < n) (hn : n ≤ 200) :
    Calls Tryd.prog 62 #[.slice A nf cf, .slice C n cc] W fun e w' => ∃ bw bd ba, e = .returned (.pointer (some ⟨bw, 0, none⟩)) ∧ W.heap.size ≤ bw ∧ W.heap.size ≤ bd ∧ W.heap.size ≤ ba ∧
      Wk w' bw bd ba n (.slice A nf cf) (.slice C n cc) ⟨0 :: List.replicate (n - 1) (-1), true :: List.replicate (n - 1) false, 0⟩ 0 0 ∧ Below W.heap.size W w' := by
  have hm1 := made_ints n (by omega)
  have hm2 := made_bools n (by omega)
  go_enter Tryd.func62, Tryd.ntmps62
  go_wp2
  go_region
  · have HK := Lib.hid (laid_di W (.slice A nf cf) (.slice C n cc) n).1
    have HB := Lib.hid (laid_di W (.slice A nf cf) (.slice C n cc) n).2
    unfold wkB at HK HB
    rw [show ((0 : Nat) : Int) = 0 from rfl] at HK HB
    generalize (((W.alloc (.cells (ints (List.replicate n 0)).toArray 3)).alloc (.cells (yess (List.replicate n false)).toArray 4)).alloc (.cells #[.slice A nf cf, .slice C n cc, .slice (some ⟨W.heap.size, 0, none⟩) n n, .slice (some ⟨W.heap.size + 1, 0, none⟩) n n, .int .i64 0, .int .i64 0, .int .i64 0] 109)).drew = W1 at *
    obtain ⟨-, -, c2, -, -, -, -, -, -, -⟩ := HK.out.cells
    go_wp2
    clear c2
    go_loopw [22] (fun i wr => ∃ j : Nat, i = .int .i64 (j : Int) ∧ j ≤ n ∧ Hid (Wk wr (W.heap.size + 1 + 1) (W.heap.size) (W.heap.size + 1) n (.slice A nf cf) (.slice C n cc) ⟨unk n j, List.replicate n false, 0⟩ 0 0) ∧ Hid (Below W.heap.size W wr)) (fun i _ => n - (intOf i).toNat)
    case atStart => exact ⟨0, rfl, Nat.zero_le _, HK, HB⟩
    case round =>
      clear HK HB
      obtain ⟨j, rfl, hj, HK, HB⟩ := hrel
      by_cases hlt : j < n
      · obtain ⟨-, -, c2, -, -, -, -, -, -, -⟩ := HK.out.cells
        obtain ⟨x0, y0⟩ := HK.out.depth hlt
        have HM := Lib.hid (HK.out.deep j (-1))
        dsimp only at HM x0
        rw [unk_next hlt] at HM
        have HU := Lib.hid (HB.out.setCell (p := ⟨W.heap.size, j, none⟩) (by show W.heap.size ≤ W.heap.size; omega) (.int .i64 (-1)))
        have q0 : decide ((j : Int) < (n : Int)) = true := decide_eq_true (by omega)
        have h0 : (0 : Int) ≤ (j : Int) := by omega
        have h1 : (j : Int) < (n : Int) := by omega
        generalize (unk n j).getD j (-1) = ox at *
        clear HK
        go_wp2_with fail
        go_roundw
        case rel => exact ⟨j + 1, by go_num, by omega, HM, HU⟩
        case measure => simp [intOf]; omega
      · obtain rfl : j = n := by omega
        have q0 : decide ((j : Int) < (j : Int)) = false := decide_eq_false (by omega)
        rw [unk_all] at HK
        have HRe := Lib.hid (reach_any wr (W.heap.size + 1 + 1) (W.heap.size) (W.heap.size + 1) j (.slice A nf cf) C cc ⟨List.replicate j (-1), List.replicate j false, 0⟩ 0 0 0 0 HK.out hn (Nat.zero_le _) (Nat.zero_le _) (by decide))
        rw [start_reach hn0, show ((0 : Nat) : Int) = 0 from rfl] at HRe
        go_wp2_with fail
        refine HRe.out.mono ?_
        rintro _ w2 ⟨rfl, hw2, ht2⟩
        have HB2 := Lib.hid (HB.out.trans (ht2.below (B := W.heap.size) (by omega) (by omega) (by omega) HB.out.size))
        have HW2 := Lib.hid hw2
        clear hw2 ht2 HRe
        go_wp2
        go_ret
        exact ret_ptr (by omega) (by omega) (by omega) HW2.out HB2.out
  · have HK := Lib.hid (laid_id W (.slice A nf cf) (.slice C n cc) n).1
    have HB := Lib.hid (laid_id W (.slice A nf cf) (.slice C n cc) n).2
    unfold wkB at HK HB
    rw [show ((0 : Nat) : Int) = 0 from rfl] at HK HB
    generalize (((W.alloc (.cells (yess (List.replicate n false)).toArray 4)).alloc (.cells (ints (List.replicate n 0)).toArray 3)).alloc (.cells #[.slice A nf cf, .slice C n cc, .slice (some ⟨W.heap.size + 1, 0, none⟩) n n, .slice (some ⟨W.heap.size, 0, none⟩) n n, .int .i64 0, .int .i64 0, .int .i64 0] 109)).drew = W1 at *
    obtain ⟨-, -, c2, -, -, -, -, -, -, -⟩ := HK.out.cells
    go_wp2
    clear c2
    go_loopw [22] (fun i wr => ∃ j : Nat, i = .int .i64 (j : Int) ∧ j ≤ n ∧ Hid (Wk wr (W.heap.size + 1 + 1) (W.heap.size + 1) (W.heap.size) n (.slice A nf cf) (.slice C n cc) ⟨unk n j, List.replicate n false, 0⟩ 0 0) ∧ Hid (Below W.heap.size W wr)) (fun i _ => n - (intOf i).toNat)
    case atStart => exact ⟨0, rfl, Nat.zero_le _, HK, HB⟩
    case round =>
      clear HK HB
      obtain ⟨j, rfl, hj, HK, HB⟩ := hrel
      by_cases hlt : j < n
      · obtain ⟨-, -, c2, -, -, -, -, -, -, -⟩ := HK.out.cells
        obtain ⟨x0, y0⟩ := HK.out.depth hlt
        have HM := Lib.hid (HK.out.deep j (-1))
        dsimp only at HM x0
        rw [unk_next hlt] at HM
        have HU := Lib.hid (HB.out.setCell (p := ⟨W.heap.size + 1, j, none⟩) (by show W.heap.size ≤ W.heap.size + 1; omega) (.int .i64 (-1)))
        have q0 : decide ((j : Int) < (n : Int)) = true := decide_eq_true (by omega)
        have h0 : (0 : Int) ≤ (j : Int) := by omega
        have h1 : (j : Int) < (n : Int) := by omega
        generalize (unk n j).getD j (-1) = ox at *
        clear HK
        go_wp2_with fail
        go_roundw
        case rel => exact ⟨j + 1, by go_num, by omega, HM, HU⟩
        case measure => simp [intOf]; omega
      · obtain rfl : j = n := by omega
        have q0 : decide ((j : Int) < (j : Int)) = false := decide_eq_false (by omega)
        rw [unk_all] at HK
        have HRe := Lib.hid (reach_any wr (W.heap.size + 1 + 1) (W.heap.size + 1) (W.heap.size) j (.slice A nf cf) C cc ⟨List.replicate j (-1), List.replicate j false, 0⟩ 0 0 0 0 HK.out hn (Nat.zero_le _) (Nat.zero_le _) (by decide))
        rw [start_reach hn0, show ((0 : Nat) : Int) = 0 from rfl] at HRe
        go_wp2_with fail
        refine HRe.out.mono ?_
        rintro _ w2 ⟨rfl, hw2, ht2⟩
        have HB2 := Lib.hid (HB.out.trans (ht2.below (B := W.heap.size) (by omega) (by omega) (by omega) HB.out.size))
        have HW2 := Lib.hid hw2
        clear hw2 ht2 HRe
        go_wp2
        go_ret
        exact ret_ptr (by omega) (by omega) (by omega) HW2.out HB2.out
end Go.Proofs.YtbekfjjajggffaaDoor.pgm.dep

/-
  What the statements on depths ask of the program's two calls, and their common end: whether depths are found. No condition.
-/
namespace Go.Proofs.YtbekfjjajggffaaDoor.pgm.dep
open Go.RowKit Go.ChangeShapes
open Go.Proofs.YtbekfjjajggffaaDoor.pgm
open Go.Proofs.YtbekfjjajggffaaDoor.objs (De zero DAt cells3)
open Go.Proofs.YtbekfjjajggffaaDoor.nums (NAt NAt.next)
set_option linter.unusedVariables false

def I64 (n : Int) : Prop := -9223372036854775808 ≤ n ∧ n ≤ 9223372036854775807
/-- The depths, the place and the error are answered. -/
def OfPost (q : List Int × Nat × Nat) (w : World) (e : Ending) (w' : World) : Prop :=
  ∃ A c, e = .returned (.tuple #[.slice A q.1.length c, .int .i64 (q.2.1 : Int), .int .i64 (q.2.2 : Int)]) ∧ NAt w' A q.1 ∧ Below w.heap.size w w'
/-- The program that lives makes. -/
def liP : Pg := ⟨[], [], [⟨0, 0, [(0, 0, 0), (0, 0, 0), (3, 0, 0), (21, 0, 0)]⟩, ⟨0, 0, [(21, 0, 0)]⟩]⟩
theorem chk_liP : chkP liP = 0 := by decide +kernel
theorem of_liP0 : depths liP.fs 0 = ([0, 1, 2, 1], 0, 0) := by decide +kernel
theorem of_liP1 : depths liP.fs 1 = ([], 0, 2) := by decide +kernel
theorem most_li : most [0, 1, 2, 1] = 2 := by decide +kernel
def inB4 : Obj := .cells #[.int .i64 0, .int .i64 0, .int .i64 0, .int .i64 0, .int .i64 0, .int .i64 0, .int .i64 3, .int .i64 0, .int .i64 0, .int .i64 21, .int .i64 0, .int .i64 0] 46
def inB1 : Obj := .cells #[.int .i64 21, .int .i64 0, .int .i64 0] 46
def fnB2 (g : Nat) : Obj := .cells #[.int .i64 0, .int .i64 0, .slice (some ⟨g, 0, none⟩) 4 4, .int .i64 0, .int .i64 0, .slice (some ⟨g + 1, 0, none⟩) 1 1] 44
def prB (g : Nat) : Obj := .cells #[.slice none 0 0, .slice none 0 0, .slice (some ⟨g, 0, none⟩) 2 2] 26
def liV (g : Nat) : Value := .agg #[.slice none 0 0, .slice none 0 0, .slice (some ⟨g, 0, none⟩) 2 2]
def liW (w : World) : World := (((w.alloc inB4).alloc inB1).alloc (fnB2 w.heap.size)).alloc (prB (w.heap.size + 1 + 1))
theorem liW_sizes (w : World) : (w.alloc inB4).heap.size = w.heap.size + 1 ∧ ((w.alloc inB4).alloc inB1).heap.size = w.heap.size + 1 + 1 ∧ (((w.alloc inB4).alloc inB1).alloc (fnB2 w.heap.size)).heap.size = w.heap.size + 1 + 1 + 1 := by
  refine ⟨World.size_alloc w _, ?_, ?_⟩
  · rw [World.size_alloc, World.size_alloc]
  · rw [World.size_alloc, World.size_alloc, World.size_alloc]
theorem liW_below (w : World) : Below w.heap.size w (liW w) := by
  obtain ⟨z1, z2, z3⟩ := liW_sizes w
  exact ((((Below.refl _ w).alloc (Nat.le_refl _) _).alloc (by omega) _).alloc (by omega) _).alloc (by omega) _
theorem liW_box (w : World) : (liW w).heap[w.heap.size + 1 + 1 + 1]? = some (prB (w.heap.size + 1 + 1)) := by
  obtain ⟨z1, z2, z3⟩ := liW_sizes w
  rw [← z3]
  exact heap_alloc_new _ _
theorem liW_at (w : World) : PAt (liW w) (liV (w.heap.size + 1 + 1)) liP := by
  obtain ⟨z1, z2, z3⟩ := liW_sizes w
  have b0 : (liW w).heap[w.heap.size]? = some inB4 := (Below.heap_alloc _ _ _ (by omega)).trans ((Below.heap_alloc _ _ _ (by omega)).trans ((Below.heap_alloc _ _ _ (by omega)).trans (heap_alloc_new w _)))
  have b1 : (liW w).heap[w.heap.size + 1]? = some inB1 := (Below.heap_alloc _ _ _ (by omega)).trans ((Below.heap_alloc _ _ _ (by omega)).trans (by rw [← z1]; exact heap_alloc_new _ _))
  have b2 : (liW w).heap[w.heap.size + 1 + 1]? = some (fnB2 w.heap.size) := (Below.heap_alloc _ _ _ (by omega)).trans (by rw [← z2]; exact heap_alloc_new _ _)
  refine ⟨none, none, some ⟨w.heap.size + 1 + 1, 0, none⟩, 0, 0, 2, rfl, DAt.nil _ _, WsAt.nil _ _, fun j hj => ?_⟩
  have hj2 : j < 2 := hj
  have cell : ∀ (g i : Nat) (cs : Array Value) (T : TypeId) (x : Value), (liW w).heap[g]? = some (.cells cs T) → cs[i]? = some x → (liW w).cell? ⟨g, i, none⟩ = some x := fun g i cs T x h hx => by
    unfold World.cell?
    rw [h]
    simpa using hx
  match j, hj2 with
  | 0, _ =>
    refine ⟨_, 0, some ⟨w.heap.size, 0, none⟩, 4, rfl, lt_of_block b2, ⟨cell _ _ _ _ _ b2 rfl, cell _ _ _ _ _ b2 rfl, cell _ _ _ _ _ b2 rfl⟩, fun i hi => ?_⟩
    have hi2 : i < 4 := hi
    refine ⟨_, 0, rfl, lt_of_block b0, ?_⟩
    match i, hi2 with
    | 0, _ => exact ⟨cell _ _ _ _ _ b0 rfl, cell _ _ _ _ _ b0 rfl, cell _ _ _ _ _ b0 rfl⟩
    | 1, _ => exact ⟨cell _ _ _ _ _ b0 rfl, cell _ _ _ _ _ b0 rfl, cell _ _ _ _ _ b0 rfl⟩
    | 2, _ => exact ⟨cell _ _ _ _ _ b0 rfl, cell _ _ _ _ _ b0 rfl, cell _ _ _ _ _ b0 rfl⟩
    | 3, _ => exact ⟨cell _ _ _ _ _ b0 rfl, cell _ _ _ _ _ b0 rfl, cell _ _ _ _ _ b0 rfl⟩
  | 1, _ =>
    refine ⟨_, 0, some ⟨w.heap.size + 1, 0, none⟩, 1, rfl, lt_of_block b2, ⟨cell _ _ _ _ _ b2 rfl, cell _ _ _ _ _ b2 rfl, cell _ _ _ _ _ b2 rfl⟩, fun i hi => ?_⟩
    have hi2 : i < 1 := hi
    refine ⟨_, 0, rfl, lt_of_block b1, ?_⟩
    match i, hi2 with
    | 0, _ => exact ⟨cell _ _ _ _ _ b1 rfl, cell _ _ _ _ _ b1 rfl, cell _ _ _ _ _ b1 rfl⟩

end Go.Proofs.YtbekfjjajggffaaDoor.pgm.dep
