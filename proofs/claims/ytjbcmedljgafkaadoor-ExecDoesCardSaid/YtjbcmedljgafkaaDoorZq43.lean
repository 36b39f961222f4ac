/-
  Texts of one claim in one file: WDo, ZComp. Each has its own sentence, with its conditions.
-/
import Derived.Test.YtjbcmedljgafkaaDoorZq42
import Derived.Test.YtjbcmedljgafkaaDoorZq39
/-
  The program's operations on words come to what the document says (typed over the code of 2169cae), and the bundle of all its calls. No condition.
-/

namespace Go.Proofs.YtjbcmedljgafkaaDoor.word
open Go.RowKit Go.ChangeShapes

set_option maxRecDepth 100000 in
set_option maxHeartbeats 4000000 in
theorem do_any (op a b : Int) (w : World) :
    Calls Tryd.prog 81 #[.int .i64 op, .int .i64 a, .int .i64 b] w fun e w' => e = .returned (two (doW op (low a) (low b))) ∧ w = w' := by
  have ha := low_word a
  have hb := low_word b
  have HLA := Lib.hid (fun u : World => low_any a u)
  have HLB := Lib.hid (fun u : World => low_any b u)
  generalize low a = x at *
  generalize low b = y at *
  by_cases h3 : op = 3
  · subst h3
    have HD : Hid (doW 3 x y = ex (x + y)) := Lib.hid (by unfold doW; simp)
    rw [HD.out]
    unfold Word at ha hb
    go_enter Tryd.func81, Tryd.ntmps81
    go_wp2_with fail
    refine (HLA.out _).mono ?_
    rintro e w1 ⟨rfl, rfl⟩
    go_wp2_with fail
    refine (HLB.out _).mono ?_
    rintro e w1 ⟨rfl, rfl⟩
    go_wp2_with fail
    refine (exact_any _ _).mono ?_
    rintro e w1 ⟨rfl, rfl⟩
    unfold two
    go_wp2
    go_ret2
    exact ⟨rfl, rfl⟩
  by_cases h4 : op = 4
  · subst h4
    have HD : Hid (doW 4 x y = ex (x - y)) := Lib.hid (by unfold doW; simp)
    rw [HD.out]
    unfold Word at ha hb
    go_enter Tryd.func81, Tryd.ntmps81
    go_wp2_with fail
    refine (HLA.out _).mono ?_
    rintro e w1 ⟨rfl, rfl⟩
    go_wp2_with fail
    refine (HLB.out _).mono ?_
    rintro e w1 ⟨rfl, rfl⟩
    go_wp2_with fail
    refine (exact_any _ _).mono ?_
    rintro e w1 ⟨rfl, rfl⟩
    unfold two
    go_wp2
    go_ret2
    exact ⟨rfl, rfl⟩
  by_cases h5 : op = 5
  · subst h5
    have HD : Hid (doW 5 x y = ex (x * y)) := Lib.hid (by unfold doW; simp)
    rw [HD.out]
    have HP := Lib.hid (fun u : World => product_any _ _ ha hb u)
    clear ha hb HD
    generalize x * y = p at *
    go_enter Tryd.func81, Tryd.ntmps81
    go_wp2_with fail
    refine (HLA.out _).mono ?_
    rintro e w1 ⟨rfl, rfl⟩
    go_wp2_with fail
    refine (HLB.out _).mono ?_
    rintro e w1 ⟨rfl, rfl⟩
    go_wp2_with fail
    refine (HP.out _).mono ?_
    rintro e w1 ⟨rfl, rfl⟩
    go_wp2_with fail
    refine (exact_any _ _).mono ?_
    rintro e w1 ⟨rfl, rfl⟩
    unfold two
    go_wp2
    go_ret2
    exact ⟨rfl, rfl⟩
  by_cases h6 : op = 6
  · subst h6
    have HD : Hid (doW 6 x y = quo x y) := Lib.hid (by unfold doW quo; simp)
    rw [HD.out]
    have HP := Lib.hid (fun u : World => quotient_any x y ha u)
    clear ha hb HD
    generalize quo x y = p at *
    go_enter Tryd.func81, Tryd.ntmps81
    go_wp2_with fail
    refine (HLA.out _).mono ?_
    rintro e w1 ⟨rfl, rfl⟩
    go_wp2_with fail
    refine (HLB.out _).mono ?_
    rintro e w1 ⟨rfl, rfl⟩
    go_wp2_with fail
    refine (HP.out _).mono ?_
    rintro e w1 ⟨rfl, rfl⟩
    unfold two
    go_wp2
    go_ret2
    exact ⟨rfl, rfl⟩
  by_cases h7 : op = 7
  · subst h7
    have HD : Hid (doW 7 x y = left x y) := Lib.hid (by unfold doW left; simp)
    rw [HD.out]
    have HP := Lib.hid (fun u : World => rest_any x y ha u)
    clear ha hb HD
    generalize left x y = p at *
    go_enter Tryd.func81, Tryd.ntmps81
    go_wp2_with fail
    refine (HLA.out _).mono ?_
    rintro e w1 ⟨rfl, rfl⟩
    go_wp2_with fail
    refine (HLB.out _).mono ?_
    rintro e w1 ⟨rfl, rfl⟩
    go_wp2_with fail
    refine (HP.out _).mono ?_
    rintro e w1 ⟨rfl, rfl⟩
    unfold two
    go_wp2
    go_ret2
    exact ⟨rfl, rfl⟩
  by_cases h8 : op = 8
  · subst h8
    have HD : Hid (doW 8 x y = ex (-x)) := Lib.hid (by unfold doW; simp)
    rw [HD.out]
    unfold Word at ha hb
    go_enter Tryd.func81, Tryd.ntmps81
    go_wp2_with fail
    refine (HLA.out _).mono ?_
    rintro e w1 ⟨rfl, rfl⟩
    go_wp2_with fail
    refine (HLB.out _).mono ?_
    rintro e w1 ⟨rfl, rfl⟩
    go_wp2_with fail
    refine (exact_any _ _).mono ?_
    rintro e w1 ⟨rfl, rfl⟩
    unfold two
    go_wp2
    go_ret2
    exact ⟨rfl, rfl⟩
  by_cases h9 : op = 9
  · subst h9
    by_cases h : x < y
    · have hd : decide (x < y) = true := by simp [h]
      have HD : Hid (doW 9 x y = (1, 0)) := Lib.hid (by unfold doW; simp [h])
      rw [HD.out]
      unfold two
      clear h HD
      go_enter Tryd.func81, Tryd.ntmps81
      go_wp2_with fail
      refine (HLA.out _).mono ?_
      rintro e w1 ⟨rfl, rfl⟩
      go_wp2_with fail
      refine (HLB.out _).mono ?_
      rintro e w1 ⟨rfl, rfl⟩
      go_wp2_with fail
      refine (truth_any true _).mono ?_
      rintro e w1 ⟨rfl, rfl⟩
      go_wp2
      go_ret2
      exact ⟨rfl, rfl⟩
    · have hd : decide (x < y) = false := by simp [h]
      have HD : Hid (doW 9 x y = (0, 0)) := Lib.hid (by unfold doW; simp [h])
      rw [HD.out]
      unfold two
      clear h HD
      go_enter Tryd.func81, Tryd.ntmps81
      go_wp2_with fail
      refine (HLA.out _).mono ?_
      rintro e w1 ⟨rfl, rfl⟩
      go_wp2_with fail
      refine (HLB.out _).mono ?_
      rintro e w1 ⟨rfl, rfl⟩
      go_wp2_with fail
      refine (truth_any false _).mono ?_
      rintro e w1 ⟨rfl, rfl⟩
      go_wp2
      go_ret2
      exact ⟨rfl, rfl⟩
  by_cases h10 : op = 10
  · subst h10
    by_cases h : x = y
    · have hd : (x == y) = true := by simp [h]
      have HD : Hid (doW 10 x y = (1, 0)) := Lib.hid (by unfold doW; simp [h])
      rw [HD.out]
      unfold two
      clear h HD
      go_enter Tryd.func81, Tryd.ntmps81
      go_wp2_with fail
      refine (HLA.out _).mono ?_
      rintro e w1 ⟨rfl, rfl⟩
      go_wp2_with fail
      refine (HLB.out _).mono ?_
      rintro e w1 ⟨rfl, rfl⟩
      go_wp2_with fail
      refine (truth_any true _).mono ?_
      rintro e w1 ⟨rfl, rfl⟩
      go_wp2
      go_ret2
      exact ⟨rfl, rfl⟩
    · have hd : (x == y) = false := by simp [h]
      have HD : Hid (doW 10 x y = (0, 0)) := Lib.hid (by unfold doW; simp [h])
      rw [HD.out]
      unfold two
      clear h HD
      go_enter Tryd.func81, Tryd.ntmps81
      go_wp2_with fail
      refine (HLA.out _).mono ?_
      rintro e w1 ⟨rfl, rfl⟩
      go_wp2_with fail
      refine (HLB.out _).mono ?_
      rintro e w1 ⟨rfl, rfl⟩
      go_wp2_with fail
      refine (truth_any false _).mono ?_
      rintro e w1 ⟨rfl, rfl⟩
      go_wp2
      go_ret2
      exact ⟨rfl, rfl⟩
  by_cases h11 : op = 11
  · subst h11
    have HD : Hid (doW 11 x y = (low (bitop 11 (un x) (un y) : Nat), 0)) := Lib.hid (by unfold doW; simp)
    rw [HD.out]
    unfold two
    have HB := Lib.hid (and_words ha hb)
    go_enter Tryd.func81, Tryd.ntmps81
    go_wp2_with fail
    refine (HLA.out _).mono ?_
    rintro e w1 ⟨rfl, rfl⟩
    go_wp2_with fail
    refine (HLB.out _).mono ?_
    rintro e w1 ⟨rfl, rfl⟩
    go_wp2
    go_ret2
    exact ⟨by rw [← HB.out]; rfl, rfl⟩
  by_cases h12 : op = 12
  · subst h12
    have HD : Hid (doW 12 x y = (low (bitop 12 (un x) (un y) : Nat), 0)) := Lib.hid (by unfold doW; simp)
    rw [HD.out]
    unfold two
    have HB := Lib.hid (or_words ha hb)
    go_enter Tryd.func81, Tryd.ntmps81
    go_wp2_with fail
    refine (HLA.out _).mono ?_
    rintro e w1 ⟨rfl, rfl⟩
    go_wp2_with fail
    refine (HLB.out _).mono ?_
    rintro e w1 ⟨rfl, rfl⟩
    go_wp2
    go_ret2
    exact ⟨by rw [← HB.out]; rfl, rfl⟩
  by_cases h13 : op = 13
  · subst h13
    have HD : Hid (doW 13 x y = (low (bitop 13 (un x) (un y) : Nat), 0)) := Lib.hid (by unfold doW; simp)
    rw [HD.out]
    unfold two
    have HB := Lib.hid (xor_words ha hb)
    go_enter Tryd.func81, Tryd.ntmps81
    go_wp2_with fail
    refine (HLA.out _).mono ?_
    rintro e w1 ⟨rfl, rfl⟩
    go_wp2_with fail
    refine (HLB.out _).mono ?_
    rintro e w1 ⟨rfl, rfl⟩
    go_wp2
    go_ret2
    exact ⟨by rw [← HB.out]; rfl, rfl⟩
  by_cases h14 : op = 14
  · subst h14
    have HD : Hid (doW 14 x y = (low (x * 2 ^ far y), 0)) := Lib.hid (by unfold doW; simp)
    rw [HD.out]
    unfold two
    have hM := mask5 y
    have hf := far_lt y
    have HB : Hid (-4611686018427387904 ≤ x * 2 ^ far y ∧ x * 2 ^ far y ≤ 4611686018427387904) := Lib.hid (moved_bound ha (Int.le_of_lt (pow_pos' _)) (by_bound hf))
    generalize far y = m at *
    have hm0 : (0 : Int) ≤ (m : Int) := by omega
    have hmb := HB.out
    unfold Word at ha hb
    go_enter Tryd.func81, Tryd.ntmps81
    go_wp2_with fail
    refine (HLA.out _).mono ?_
    rintro e w1 ⟨rfl, rfl⟩
    go_wp2_with fail
    refine (HLB.out _).mono ?_
    rintro e w1 ⟨rfl, rfl⟩
    go_wp2_with fail
    refine (low_any _ _).mono ?_
    rintro e w1 ⟨rfl, rfl⟩
    go_wp2
    go_ret2
    exact ⟨rfl, rfl⟩
  by_cases h15 : op = 15
  · subst h15
    have HD : Hid (doW 15 x y = (x / 2 ^ far y, 0)) := Lib.hid (by unfold doW; simp)
    rw [HD.out]
    unfold two
    have hM := mask5 y
    have hf := far_lt y
    generalize far y = m at *
    have hm0 : (0 : Int) ≤ (m : Int) := by omega
    go_enter Tryd.func81, Tryd.ntmps81
    go_wp2_with fail
    refine (HLA.out _).mono ?_
    rintro e w1 ⟨rfl, rfl⟩
    go_wp2_with fail
    refine (HLB.out _).mono ?_
    rintro e w1 ⟨rfl, rfl⟩
    go_wp2
    go_ret2
    exact ⟨rfl, rfl⟩
  have HD : Hid (doW op x y = (0, 0)) := Lib.hid (by unfold doW; simp [h3, h4, h5, h6, h7, h8, h9, h10, h11, h12, h13, h14, h15])
  rw [HD.out]
  have n3 : (op == 3) = false := by simp [h3]
  have n4 : (op == 4) = false := by simp [h4]
  have n5 : (op == 5) = false := by simp [h5]
  have n6 : (op == 6) = false := by simp [h6]
  have n7 : (op == 7) = false := by simp [h7]
  have n8 : (op == 8) = false := by simp [h8]
  have n9 : (op == 9) = false := by simp [h9]
  have n10 : (op == 10) = false := by simp [h10]
  have n11 : (op == 11) = false := by simp [h11]
  have n12 : (op == 12) = false := by simp [h12]
  have n13 : (op == 13) = false := by simp [h13]
  have n14 : (op == 14) = false := by simp [h14]
  have n15 : (op == 15) = false := by simp [h15]
  unfold two
  clear h3 h4 h5 h6 h7 h8 h9 h10 h11 h12 h13 h14 h15
  go_enter Tryd.func81, Tryd.ntmps81
  go_wp2_with fail
  refine (HLA.out _).mono ?_
  rintro e w1 ⟨rfl, rfl⟩
  go_wp2_with fail
  refine (HLB.out _).mono ?_
  rintro e w1 ⟨rfl, rfl⟩
  go_wp2
  go_ret2
  exact ⟨rfl, rfl⟩
end Go.Proofs.YtjbcmedljgafkaaDoor.word

/-
  The program's own operations of words, and the end of a frame (typed over the code of 8d70ec2). At most a thousand frames, each of twenty-seven numbers.
-/

namespace Go.Proofs.YtjbcmedljgafkaaDoor.pgm.exe
open Go.RowKit Go.ChangeShapes
open Go.Proofs.YtjbcmedljgafkaaDoor.objs (De zero cells3)
open Go.Proofs.YtjbcmedljgafkaaDoor.nums (NAt)
open Go.Proofs.YtjbcmedljgafkaaDoor.word (low doW two do_any)
open Go.Proofs.YtjbcmedljgafkaaDoor.frames
set_option linter.unusedVariables false
set_option linter.unusedSimpArgs false

set_option maxRecDepth 100000 in
set_option maxHeartbeats 4000000 in
theorem computed_any (A : Option Addr) (c : Nat) (rest : List Fr) (o : Int) (B : Option Addr) (d : Nat) (v : List Int) (w : World) (hI : In w A c rest) (hN : NAt w B v) :
    Calls Tryd.prog 68 #[.slice A rest.length c, .int .i64 o, .slice B v.length d] w (OutPost (compR rest o v) w) := by
  have HZ := Lib.hid (zo_new (Below.refl w.heap.size w))
  have HI := Lib.hid hI
  have HN := Lib.hid hN
  have HF := Lib.hid (two_filled v)
  have HC := fun (W : World) (h : NAt W B v) g hg => Lib.hid (copy_runs h d 2 g 0 [.int .i64 0, .int .i64 0] 120 hg (by show 0 + 2 ≤ 2; omega))
  have HD := fun (W : World) => Lib.hid (do_any o (v.getD 0 0) (v.getD 1 0) W)
  unfold two at HD
  unfold compR
  generalize v.getD 0 0 = a0 at *
  generalize v.getD 1 0 = a1 at *
  generalize doW o (low a0) (low a1) = q at *
  obtain ⟨q1, q2⟩ := q
  dsimp only at HD ⊢
  obtain ⟨r, hR⟩ : ∃ r, r = if q2 ≠ 0 then (none, q2) else quietO (pushO rest q1) := ⟨_, rfl⟩
  rw [← hR]
  have HR := Lib.hid hR
  clear hR
  have HP := fun (W : World) (h : Below w.heap.size w W) => Lib.hid (push_q A c rest q1 W (hI.next h))
  clear hI hN
  go_enter Tryd.func68, Tryd.ntmps68
  go_upto_region 1 with (first | refine wo_alloc rfl rfl ?_)
  try simp only [Act.put, List.setIfInBounds_toArray, List.set_cons_zero, List.set_cons_succ]
  generalize w.alloc (ocB zO) = W1 at *
  have HG : Hid (w.heap.size < W1.heap.size) := Lib.hid (lt_of_block HZ.out.block)
  have HZ2 := Lib.hid (HZ.out.next ((Below.refl W1.heap.size W1).alloc (Nat.le_refl _) (.cells #[.int .i64 0, .int .i64 0] 120)))
  have HE2 := Lib.hid (heap_alloc_new W1 (.cells #[.int .i64 0, .int .i64 0] 120))
  go_upto_region 2 with fail
  generalize W1.alloc (.cells #[.int .i64 0, .int .i64 0] 120) = W2 at *
  generalize W1.heap.size = g at *
  obtain ⟨W3, hr, hg3, hb3⟩ := (HC W2 (HN.out.next HZ2.out.below) g HE2.out).out
  rw [HF.out] at hg3
  have hsz : w.heap.size ≤ g := Nat.le_of_lt HG.out
  have HZ3 : Hid (Zo w w.heap.size zO W3) := Lib.hid ⟨HZ2.out.below.trans (hb3.mono hsz), (hb3.block _ HG.out).trans HZ2.out.block, HZ2.out.far⟩
  have y0 : W3.cell? ⟨g, 0, none⟩ = some (.int .i64 a0) := by simp [World.cell?, hg3]
  have y1 : W3.cell? ⟨g, 1, none⟩ = some (.int .i64 a1) := by simp [World.cell?, hg3]
  have HP3 := HP W3 HZ3.out.below
  clear hg3 hb3 HE2 HZ2 HC HF HZ HP hsz
  go_upto_region 3 with fail
  clear hr
  go_wp2_with fail
  refine (HD W3).out.mono ?_
  rintro _ _ ⟨rfl, rfl⟩
  by_cases h2 : q2 = 0
  · subst h2
    have HR2 : Hid (r = quietO (pushO rest q1)) := Lib.hid (by rw [HR.out, if_neg (fun h => h rfl)])
    clear HR
    go_wp2_with fail
    refine HP3.out.mono ?_
    rintro _ w4 ⟨A4, n4, c4, b4, rfl, hb4, HQ4⟩
    have HZ4 := Lib.hid (HZ3.out.next hb4)
    have HU := Lib.hid (quiet_any A4 n4 c4 b4 w4)
    clear hb4 HP3 y0 y1
    go_wp2_with fail
    refine HU.out.mono ?_
    rintro _ w5 ⟨rfl, hb5⟩
    have HZ5 := Lib.hid (HZ4.out.next hb5)
    have HQ5 := Lib.hid (HQ4.out.next hb5)
    clear hb5 HU
    go_wp2_with (first | refine wo_store rfl _ _ rfl w.heap.size zO ⟨b4, A4, n4, c4, noE, 0⟩ rfl rfl HZ5.out.block ?_)
    rw [HR2.out]
    exact oc_done Tryd.results68 rfl rfl HZ5.out HQ5.out
  · have HR2 : Hid (r = (none, q2)) := Lib.hid (by rw [HR.out, if_pos h2])
    have e2 : (q2 != 0) = true := by simpa using h2
    clear h2 HP3 HR
    go_wp2_with (first | refine wo_buildk rfl _ rfl q2 rfl ?_ | refine wo_store rfl _ _ rfl w.heap.size zO ⟨false, none, 0, 0, zE, q2⟩ rfl rfl HZ3.out.block ?_)
    rw [HR2.out]
    exact oc_ret Tryd.results68 rfl rfl (HZ3.out.store _).block ⟨(HZ3.out.store _).below, _, rfl, rfl, rfl⟩
end Go.Proofs.YtjbcmedljgafkaaDoor.pgm.exe
