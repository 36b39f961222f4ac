/-
  The walk as it begins (typed over the code of 5351f23): all depths unknown but the first one's. Of 1 to 200 instructions.
-/
import Derived.Test.YtjlmgoaglpkhoaaHReach
import Derived.LoopTactic
import Derived.Laws.MakeOwn
import Derived.Deep.RegionWith
namespace Go.Proofs.Ytjlmgoaglpkhoaa.pgm.dep
open Go.RowKit Go.ChangeShapes
open Go.Proofs.Ytjlmgoaglpkhoaa.pgm
open Go.Proofs.Ytjlmgoaglpkhoaa.nums (ints)
set_option linter.unusedVariables false

theorem infoInt : (Try.prog.info? 3).map (fun i => (i.zero, i.size, i.bytes)) = some (some (.int .i64 0), 1, 8) := by kernel_rfl
theorem infoBool : (Try.prog.info? 4).map (fun i => (i.zero, i.size, i.bytes)) = some (some (.bool false), 1, 1) := by kernel_rfl
theorem made_ints (n : Nat) (hn : n ≤ 8192) (W : World) :
    (Instr.makeSlice 30 (.int .i64 (n : Int)) (.int .i64 (n : Int))).run Try.prog W = .ok (.slice (some ⟨W.heap.size, 0, none⟩) n n) (W.alloc (.cells (ints (List.replicate n 0)).toArray 3)) := by
  obtain ⟨i, hi, hz0, hz1, hz2⟩ := info_parts infoInt
  have h := run_make (P := Try.prog) W 30 3 i (.int .i64 0) Try.underlying30 hi hz0 .i64 .i64 (n : Int) (n : Int) (by omega) (by omega) (by rw [hz2]; omega) (by omega)
  rw [h, hz1, Int.toNat_natCast, Nat.mul_one]
  congr 4
  rw [← Array.toList_inj]
  show (madeCells #[.int .i64 0] n).toList = _
  rw [toList_madeCells_one]
  simp [ints]
theorem made_bools (n : Nat) (hn : n ≤ 8192) (W : World) :
    (Instr.makeSlice 27 (.int .i64 (n : Int)) (.int .i64 (n : Int))).run Try.prog W = .ok (.slice (some ⟨W.heap.size, 0, none⟩) n n) (W.alloc (.cells (yess (List.replicate n false)).toArray 4)) := by
  obtain ⟨i, hi, hz0, hz1, hz2⟩ := info_parts infoBool
  have h := run_make (P := Try.prog) W 27 4 i (.bool false) Try.underlying27 hi hz0 .i64 .i64 (n : Int) (n : Int) (by omega) (by omega) (by rw [hz2]; omega) (by omega)
  rw [h, hz1, Int.toNat_natCast, Nat.mul_one]
  congr 4
  rw [← Array.toList_inj]
  show (madeCells #[.bool false] n).toList = _
  rw [toList_madeCells_one]
  simp [yess]

/-- Of n depths the first j are unknown. -/
def unk (n j : Nat) : List Int := List.replicate j (-1) ++ List.replicate (n - j) 0
theorem unk_length {n j : Nat} (h : j ≤ n) : (unk n j).length = n := by simp [unk]; omega
theorem unk_next {n j : Nat} (h : j < n) : (unk n j).set j (-1) = unk n (j + 1) := by
  unfold unk
  rw [List.set_append_right _ _ (by simp), List.length_replicate, Nat.sub_self]
  obtain ⟨m, hm⟩ : ∃ m, n - j = m + 1 := ⟨n - j - 1, by omega⟩
  rw [hm, show n - (j + 1) = m by omega, List.replicate_succ (n := m), List.set_cons_zero, List.replicate_succ' (n := j)]
  simp

theorem unk_zero (n : Nat) : unk n 0 = List.replicate n 0 := by simp [unk]
theorem unk_all (n : Nat) : unk n n = List.replicate n (-1) := by simp [unk]
/-- Behind the making of its three blocks, the depths' first. -/
theorem laid_di (W : World) (vF vC : Value) (n : Nat) : Wk ((((W.alloc (.cells (ints (List.replicate n 0)).toArray 3)).alloc (.cells (yess (List.replicate n false)).toArray 4)).alloc (wkB vF vC W.heap.size (W.heap.size + 1) n 0 0 0)).drew) (W.heap.size + 1 + 1) W.heap.size (W.heap.size + 1) n vF vC ⟨unk n 0, List.replicate n false, 0⟩ 0 0 ∧
    Below W.heap.size W ((((W.alloc (.cells (ints (List.replicate n 0)).toArray 3)).alloc (.cells (yess (List.replicate n false)).toArray 4)).alloc (wkB vF vC W.heap.size (W.heap.size + 1) n 0 0 0)).drew) := by
  have z1 : (W.alloc (.cells (ints (List.replicate n 0)).toArray 3)).heap.size = W.heap.size + 1 := World.size_alloc _ _
  have z2 : ((W.alloc (.cells (ints (List.replicate n 0)).toArray 3)).alloc (.cells (yess (List.replicate n false)).toArray 4)).heap.size = W.heap.size + 1 + 1 := by rw [World.size_alloc, World.size_alloc]
  rw [unk_zero]
  refine ⟨⟨?_, ?_, ?_, by omega, by omega, by omega, by simp, by simp⟩, ((((Below.refl _ W).alloc (Nat.le_refl _) _).alloc (by omega) _).alloc (by omega) _).drew⟩
  · rw [← z2]
    exact heap_alloc_new _ _
  · exact (Below.heap_alloc _ _ _ (by omega)).trans ((Below.heap_alloc _ _ _ (by omega)).trans (heap_alloc_new W _))
  · exact (Below.heap_alloc _ _ _ (by omega)).trans (by rw [← z1]; exact heap_alloc_new _ _)
/-- The same, the other one first. -/
theorem laid_id (W : World) (vF vC : Value) (n : Nat) : Wk ((((W.alloc (.cells (yess (List.replicate n false)).toArray 4)).alloc (.cells (ints (List.replicate n 0)).toArray 3)).alloc (wkB vF vC (W.heap.size + 1) W.heap.size n 0 0 0)).drew) (W.heap.size + 1 + 1) (W.heap.size + 1) W.heap.size n vF vC ⟨unk n 0, List.replicate n false, 0⟩ 0 0 ∧
    Below W.heap.size W ((((W.alloc (.cells (yess (List.replicate n false)).toArray 4)).alloc (.cells (ints (List.replicate n 0)).toArray 3)).alloc (wkB vF vC (W.heap.size + 1) W.heap.size n 0 0 0)).drew) := by
  have z1 : (W.alloc (.cells (yess (List.replicate n false)).toArray 4)).heap.size = W.heap.size + 1 := World.size_alloc _ _
  have z2 : ((W.alloc (.cells (yess (List.replicate n false)).toArray 4)).alloc (.cells (ints (List.replicate n 0)).toArray 3)).heap.size = W.heap.size + 1 + 1 := by rw [World.size_alloc, World.size_alloc]
  rw [unk_zero]
  refine ⟨⟨?_, ?_, ?_, by omega, by omega, by omega, by simp, by simp⟩, ((((Below.refl _ W).alloc (Nat.le_refl _) _).alloc (by omega) _).alloc (by omega) _).drew⟩
  · rw [← z2]
    exact heap_alloc_new _ _
  · exact (Below.heap_alloc _ _ _ (by omega)).trans (by rw [← z1]; exact heap_alloc_new _ _)
  · exact (Below.heap_alloc _ _ _ (by omega)).trans ((Below.heap_alloc _ _ _ (by omega)).trans (heap_alloc_new W _))
/-- The bodies that follow are the same. -/
theorem ret_ptr {bw bd ba : Nat} {W W' : World} {n : Nat} {vF vC : Value} {z : Z} (h1 : W.heap.size ≤ bw) (h2 : W.heap.size ≤ bd) (h3 : W.heap.size ≤ ba) (h4 : Wk W' bw bd ba n vF vC z 0 0) (h5 : Below W.heap.size W W') :
    ∃ bw' bd' ba', Ending.returned (.pointer (some ⟨bw, 0, none⟩)) = .returned (.pointer (some ⟨bw', 0, none⟩)) ∧ W.heap.size ≤ bw' ∧ W.heap.size ≤ bd' ∧ W.heap.size ≤ ba' ∧ Wk W' bw' bd' ba' n vF vC z 0 0 ∧ Below W.heap.size W W' :=
  ⟨bw, bd, ba, rfl, h1, h2, h3, h4, h5⟩

set_option maxRecDepth 100000 in
set_option maxHeartbeats 4000000 in
theorem start_any (W : World) (A C : Option Addr) (nf cf n cc : Nat) (hn0 : 0 < n) (hn : n ≤ 200) :
    Calls Try.prog 15 #[.slice A nf cf, .slice C n cc] W fun e w' => ∃ bw bd ba, e = .returned (.pointer (some ⟨bw, 0, none⟩)) ∧ W.heap.size ≤ bw ∧ W.heap.size ≤ bd ∧ W.heap.size ≤ ba ∧
      Wk w' bw bd ba n (.slice A nf cf) (.slice C n cc) ⟨0 :: List.replicate (n - 1) (-1), true :: List.replicate (n - 1) false, 0⟩ 0 0 ∧ Below W.heap.size W w' := by
  have hm1 := made_ints n (by omega)
  have hm2 := made_bools n (by omega)
  go_enter Try.func15, Try.ntmps15
  go_wp2
  go_region
  · have HK := Lib.hid (laid_di W (.slice A nf cf) (.slice C n cc) n).1
    have HB := Lib.hid (laid_di W (.slice A nf cf) (.slice C n cc) n).2
    unfold wkB at HK HB
    rw [show ((0 : Nat) : Int) = 0 from rfl] at HK HB
    generalize (((W.alloc (.cells (ints (List.replicate n 0)).toArray 3)).alloc (.cells (yess (List.replicate n false)).toArray 4)).alloc (.cells #[.slice A nf cf, .slice C n cc, .slice (some ⟨W.heap.size, 0, none⟩) n n, .slice (some ⟨W.heap.size + 1, 0, none⟩) n n, .int .i64 0, .int .i64 0, .int .i64 0] 57)).drew = W1 at *
    obtain ⟨-, -, c2, -, -, -, -, -, -, -⟩ := HK.out.cells
    go_wp2
    clear c2
    go_loopw [22] (fun i wr => ∃ j : Nat, i = .int .i64 (j : Int) ∧ j ≤ n ∧ Hid (Wk wr (W.heap.size + 1 + 1) (W.heap.size) (W.heap.size + 1) n (.slice A nf cf) (.slice C n cc) ⟨unk n j, List.replicate n false, 0⟩ 0 0) ∧ Hid (Below W.heap.size W wr)) (fun i _ => n - (intOf i).toNat)
    case atStart => exact ⟨0, rfl, Nat.zero_le _, HK, HB⟩
    case round =>
      clear HK HB
      obtain ⟨j, rfl, hj, HK, HB⟩ := hrel
      by_cases hlt : j < n
      · obtain ⟨-, -, c2, -, -, -, -, -, -, -⟩ := HK.out.cells
        obtain ⟨x0, y0⟩ := HK.out.depth hlt
        have HM := Lib.hid (HK.out.deep j (-1))
        dsimp only at HM x0
        rw [unk_next hlt] at HM
        have HU := Lib.hid (HB.out.setCell (p := ⟨W.heap.size, j, none⟩) (by show W.heap.size ≤ W.heap.size; omega) (.int .i64 (-1)))
        have q0 : decide ((j : Int) < (n : Int)) = true := decide_eq_true (by omega)
        have h0 : (0 : Int) ≤ (j : Int) := by omega
        have h1 : (j : Int) < (n : Int) := by omega
        generalize (unk n j).getD j (-1) = ox at *
        clear HK
        go_wp2_with fail
        go_roundw
        case rel => exact ⟨j + 1, by go_num, by omega, HM, HU⟩
        case measure => simp [intOf]; omega
      · obtain rfl : j = n := by omega
        have q0 : decide ((j : Int) < (j : Int)) = false := decide_eq_false (by omega)
        rw [unk_all] at HK
        have HRe := Lib.hid (reach_any wr (W.heap.size + 1 + 1) (W.heap.size) (W.heap.size + 1) j (.slice A nf cf) C cc ⟨List.replicate j (-1), List.replicate j false, 0⟩ 0 0 0 0 HK.out hn (Nat.zero_le _) (Nat.zero_le _) (by decide))
        rw [start_reach hn0, show ((0 : Nat) : Int) = 0 from rfl] at HRe
        go_wp2_with fail
        refine HRe.out.mono ?_
        rintro _ w2 ⟨rfl, hw2, ht2⟩
        have HB2 := Lib.hid (HB.out.trans (ht2.below (B := W.heap.size) (by omega) (by omega) (by omega) HB.out.size))
        have HW2 := Lib.hid hw2
        clear hw2 ht2 HRe
        go_wp2
        go_ret
        exact ret_ptr (by omega) (by omega) (by omega) HW2.out HB2.out
  · have HK := Lib.hid (laid_id W (.slice A nf cf) (.slice C n cc) n).1
    have HB := Lib.hid (laid_id W (.slice A nf cf) (.slice C n cc) n).2
    unfold wkB at HK HB
    rw [show ((0 : Nat) : Int) = 0 from rfl] at HK HB
    generalize (((W.alloc (.cells (yess (List.replicate n false)).toArray 4)).alloc (.cells (ints (List.replicate n 0)).toArray 3)).alloc (.cells #[.slice A nf cf, .slice C n cc, .slice (some ⟨W.heap.size + 1, 0, none⟩) n n, .slice (some ⟨W.heap.size, 0, none⟩) n n, .int .i64 0, .int .i64 0, .int .i64 0] 57)).drew = W1 at *
    obtain ⟨-, -, c2, -, -, -, -, -, -, -⟩ := HK.out.cells
    go_wp2
    clear c2
    go_loopw [22] (fun i wr => ∃ j : Nat, i = .int .i64 (j : Int) ∧ j ≤ n ∧ Hid (Wk wr (W.heap.size + 1 + 1) (W.heap.size + 1) (W.heap.size) n (.slice A nf cf) (.slice C n cc) ⟨unk n j, List.replicate n false, 0⟩ 0 0) ∧ Hid (Below W.heap.size W wr)) (fun i _ => n - (intOf i).toNat)
    case atStart => exact ⟨0, rfl, Nat.zero_le _, HK, HB⟩
    case round =>
      clear HK HB
      obtain ⟨j, rfl, hj, HK, HB⟩ := hrel
      by_cases hlt : j < n
      · obtain ⟨-, -, c2, -, -, -, -, -, -, -⟩ := HK.out.cells
        obtain ⟨x0, y0⟩ := HK.out.depth hlt
        have HM := Lib.hid (HK.out.deep j (-1))
        dsimp only at HM x0
        rw [unk_next hlt] at HM
        have HU := Lib.hid (HB.out.setCell (p := ⟨W.heap.size + 1, j, none⟩) (by show W.heap.size ≤ W.heap.size + 1; omega) (.int .i64 (-1)))
        have q0 : decide ((j : Int) < (n : Int)) = true := decide_eq_true (by omega)
        have h0 : (0 : Int) ≤ (j : Int) := by omega
        have h1 : (j : Int) < (n : Int) := by omega
        generalize (unk n j).getD j (-1) = ox at *
        clear HK
        go_wp2_with fail
        go_roundw
        case rel => exact ⟨j + 1, by go_num, by omega, HM, HU⟩
        case measure => simp [intOf]; omega
      · obtain rfl : j = n := by omega
        have q0 : decide ((j : Int) < (j : Int)) = false := decide_eq_false (by omega)
        rw [unk_all] at HK
        have HRe := Lib.hid (reach_any wr (W.heap.size + 1 + 1) (W.heap.size + 1) (W.heap.size) j (.slice A nf cf) C cc ⟨List.replicate j (-1), List.replicate j false, 0⟩ 0 0 0 0 HK.out hn (Nat.zero_le _) (Nat.zero_le _) (by decide))
        rw [start_reach hn0, show ((0 : Nat) : Int) = 0 from rfl] at HRe
        go_wp2_with fail
        refine HRe.out.mono ?_
        rintro _ w2 ⟨rfl, hw2, ht2⟩
        have HB2 := Lib.hid (HB.out.trans (ht2.below (B := W.heap.size) (by omega) (by omega) (by omega) HB.out.size))
        have HW2 := Lib.hid hw2
        clear hw2 ht2 HRe
        go_wp2
        go_ret
        exact ret_ptr (by omega) (by omega) (by omega) HW2.out HB2.out
end Go.Proofs.Ytjlmgoaglpkhoaa.pgm.dep
