/-
  The program's own bytes of an instruction (typed over the code of 392f5a9): for every instruction of sixty-four-bit numbers. The table of names must lie where its initialiser lays it.
-/
import Derived.Test.YtaefkkhmhogpeaaDoorJCheck
import Derived.Test.YtaefkkhmhogpeaaDoorJRefRead
import Derived.Test.YtaefkkhmhogpeaaDoorOutKeep
import Derived.Test.YtaefkkhmhogpeaaDoorLives
import Derived.StillTailTactics
namespace Go.Proofs.YtaefkkhmhogpeaaDoor.inst
open Go.RowKit Go.ChangeShapes
open Go.Proofs.YtaefkkhmhogpeaaDoor.oper (ret_int ret_bool ret_string Tab nm txt)
open Go.Proofs.YtaefkkhmhogpeaaDoor.word (Word)
open Go.Proofs.YtaefkkhmhogpeaaDoor.octet (OutAt Frm Spare NoBytes num zig num_keep int_keep byte_keep done_any Fits bof bof_nat num_length_le)
set_option linter.unusedVariables false

theorem fit_small {c : UInt8} {v : Int} (hc : c ≠ 110) (h : fitsB c v = true) : 0 ≤ v ∧ v ≤ 199 := by
  have hw : least c ≤ v ∧ v ≤ most c := by unfold fitsB at h; rw [if_neg hc] at h; simpa using h
  have h0 : 0 ≤ least c := by unfold least; split <;> omega
  have hm : most c ≤ 199 := by unfold most; split; omega; split; omega; split; omega; split <;> omega
  omega

set_option maxHeartbeats 400000 in
theorem putOperand_any (w : World) (base bo : Nat) (l : List UInt8) (c : UInt8) (v : Int) (hf : fitsB c v = true) (ho : OutAt w base bo l) (hl : l.length + 10 ≤ 140737488355328) :
    Calls Tryd.prog 38 #[.pointer (some ⟨bo, 0, none⟩), .int .u8 (c.toNat : Int), .int .i64 v] w fun e w' => e = .returned (.tuple #[]) ∧ OutAt w' base bo (l ++ piece c v) ∧ Frm base bo w w' ∧ Spare bo w w' := by
  by_cases hc : c = 110
  · subst hc
    have hv : Word v := by unfold fitsB at hf; rw [if_pos rfl] at hf; simpa using hf
    unfold Word at hv
    have HE : Hid (piece 110 v = num (zig v)) := Lib.hid rfl
    rw [HE.out]
    clear hf
    have HI := Lib.hid (int_keep w base bo l v (by omega) (by omega) ho hl)
    go_enter Tryd.func38, Tryd.ntmps38
    go_wp2_with fail
    refine HI.out.mono ?_
    rintro e w1 ⟨rfl, h1, h2, h3⟩
    go_wp2
    refine bodyPost_ret (results_none rfl _ _ _) rfl ?_
    exact ⟨rfl, h1, h2, h3⟩
  · obtain ⟨h0, h1⟩ := fit_small hc hf
    obtain ⟨m, rfl⟩ : ∃ m : Nat, v = (m : Int) := ⟨v.toNat, by omega⟩
    have HE : Hid (piece c (m : Int) = num m) := Lib.hid (by unfold piece; rw [if_neg hc, Int.toNat_natCast])
    have hc1 : ((c.toNat : Int) == 110) = false := (u8_ne hc).1
    rw [HE.out]
    clear hf hc
    have HI := Lib.hid (num_keep w base bo l m (by unfold Fits; omega) ho hl)
    go_enter Tryd.func38, Tryd.ntmps38
    go_wp2_with fail
    refine HI.out.mono ?_
    rintro e w1 ⟨rfl, h1, h2, h3⟩
    go_wp2
    go_end0
    exact ⟨rfl, h1, h2, h3⟩

/-- While an instruction is put: the writer at bo holds L, both operands stand at g. -/
structure Puts (w : World) (a b : Int) (bo g : Nat) (L : List UInt8) (W : World) : Prop where
  out : OutAt W (bo + 1) bo L
  arr : W.heap[g]? = some (arrBox a b)
  ne : g ≠ bo
  below : Below w.heap.size w W
theorem noBytes_arr (a b : Int) : NoBytes (arrBox a b) := fun cur q h => by
  unfold arrBox at h
  injection h with _ h2 _
  exact absurd h2 (by decide)
theorem noBytes_ins (o a b : Int) : NoBytes (insBox o a b) := fun cur q h => by
  unfold insBox at h
  injection h with _ h2 _
  exact absurd h2 (by decide)
theorem Puts.next {w W W' : World} {a b : Int} {bo g : Nat} {L L' : List UInt8} (h : Puts w a b bo g L W) (hw : w.heap.size ≤ bo) (ho : OutAt W' (bo + 1) bo L') (hf : Frm (bo + 1) bo W W') (hs : Spare bo W W') : Puts w a b bo g L' W' :=
  ⟨ho, hs _ _ h.arr h.ne (noBytes_arr a b), h.ne, h.below.trans (hf.below hw (by omega))⟩
theorem Puts.drew {w W : World} {a b : Int} {bo g : Nat} {L : List UInt8} (h : Puts w a b bo g L W) : Puts w a b bo g L W.drew :=
  ⟨h.out.keep (Nat.le_refl _) rfl (fun _ _ _ => rfl), h.arr, h.ne, h.below.drew⟩
theorem Puts.at {w W : World} {a b : Int} {bo g : Nat} {L : List UInt8} (h : Puts w a b bo g L W) {j : Nat} (hj : j < 2) : W.cell? ⟨g, j, none⟩ = some (.int .i64 (opd a b j)) := by
  unfold World.cell?
  rw [h.arr]
  match j, hj with
  | 0, _ => rfl
  | 1, _ => rfl

/-- What Put answers. -/
def PutPost (o a b : Int) (w : World) (e : Ending) (w' : World) : Prop := e = .returned (.tuple #[.string ⟨(putL o a b).toArray⟩, .int .i64 (chk o a b : Nat)]) ∧ Below w.heap.size w w'

set_option maxRecDepth 100000 in
set_option maxHeartbeats 4000000 in
theorem put_good (o a b : Int) (hz : chk o a b = 0) (w : World) (hw : Okw w) : Calls Tryd.prog 13 #[.agg #[.int .i64 o, .int .i64 a, .int .i64 b]] w (PutPost o a b w) := by
  obtain ⟨hk, hf⟩ := chk_zero hz
  have hok := (chkF_zero hf).1
  have HC := Lib.hid (check_any o a b (w.alloc (insBox o a b)) (hw.next ((Below.refl _ _).alloc (Nat.le_refl _) _)))
  rw [hz] at HC
  have hy2 : (txt Go.Proofs.YtaefkkhmhogpeaaDoor.oper.fm o).size ≤ 2 := by have := form_le o; unfold form at this; rwa [← size_list] at this
  have HW : Hid (putL o a b = UInt8.ofNat o.toNat :: pieces (form o) a b (form o).length) := Lib.hid (by unfold putL; rw [if_pos hz]; rfl)
  have hz1 : (w.alloc (insBox o a b)).heap.size = w.heap.size + 1 := World.size_alloc w _
  have HF := fun W => Lib.hid (Go.Proofs.YtaefkkhmhogpeaaDoor.oper.form_any o W)
  unfold PutPost
  rw [HW.out, hz, show (((0 : Nat) : Int)) = 0 from rfl]
  have ho := hk.1
  have hB : bof o = UInt8.ofNat o.toNat := by
    have : ((o.toNat : Nat) : Int) = o := by omega
    rw [← bof_nat, this]
  unfold form at hok ⊢
  have HO := Lib.hid hok
  clear hk hf hz HW hok hw ho
  generalize txt Go.Proofs.YtaefkkhmhogpeaaDoor.oper.fm o = y at *
  rw [← hB, ← size_list y]
  clear hB
  go_enter Tryd.func13, Tryd.ntmps13
  have HI : Hid ((w.alloc (insBox o a b)).heap[w.heap.size]? = some (insBox o a b)) := Lib.hid (heap_alloc_new w _)
  have HB0 : Hid (Below w.heap.size w (w.alloc (insBox o a b))) := Lib.hid ((Below.refl _ w).alloc (Nat.le_refl _) _)
  unfold insBox at HC hz1 HI HB0
  go_wp2_with fail
  refine HC.out.mono ?_
  rintro e w1 ⟨rfl, hb⟩
  have hs1 := hb.size
  have HB1 := Lib.hid (HB0.out.trans (hb.mono (by omega)))
  have HI1 := Lib.hid ((hb.block w.heap.size (by omega)).trans HI.out)
  clear hb HC HI HB0
  go_upto_region 5 with fail
  have hb2 : Below w1.heap.size w1 (w1.alloc (.cells #[.slice none 0 0] 62)) := (Below.refl _ w1).alloc (Nat.le_refl _) _
  have HO2 := Lib.hid (Go.Proofs.YtaefkkhmhogpeaaDoor.octet.out_new w1)
  have HB2 := Lib.hid (HB1.out.trans (hb2.mono (by omega)))
  have HI2 := Lib.hid ((hb2.block w.heap.size (by omega)).trans HI1.out)
  obtain ⟨c0, c1, c2, _, _, _⟩ := cells3 HI2.out
  have hbo : w.heap.size < w1.heap.size := by omega
  clear hb2 HB1 HI1
  generalize w1.alloc (.cells #[.slice none 0 0] 62) = W2 at *
  generalize w1.heap.size = bo at *
  have HY := Lib.hid (byte_keep W2 (bo + 1) bo [] o HO2.out (by simp))
  go_wp2_with fail
  refine HY.out.mono ?_
  rintro e W3 ⟨rfl, ho3, hf3, hs3⟩
  have HO3 := Lib.hid ho3
  have HB3 := Lib.hid (HB2.out.trans (hf3.below (B' := w.heap.size) (by omega) (by omega)))
  have HI3 := Lib.hid (hs3 _ _ HI2.out (by omega) (noBytes_ins o a b))
  have hn2 : w.heap.size < W3.heap.size := by have := HB2.out.size; have := lt_of_block HI3.out; omega
  have hn3 : bo < W3.heap.size := HO3.out.lt
  clear ho3 hf3 hs3 HY HO2 HB2 HI2 c0 c1 c2
  obtain ⟨c0, c1, c2, _, _, _⟩ := cells3 HI3.out
  go_wp2_with fail
  refine (HF _).out.mono ?_
  rintro e w4 ⟨rfl, rfl⟩
  go_upto_region 8 with fail
  have HP0 : Hid (Puts w a b bo W3.heap.size [bof o] (W3.alloc (.cells #[.int .i64 a, .int .i64 b] 64))) := Lib.hid
    ⟨HO3.out.kept ((Below.refl W3.heap.size W3).alloc (Nat.le_refl _) _) (Nat.le_refl _), heap_alloc_new _ _, by omega, HB3.out.alloc (by omega) _⟩
  clear HO3 HB3 HI3 c0 c1 c2
  generalize W3.alloc (.cells #[.int .i64 a, .int .i64 b] 64) = W5 at *
  generalize W3.heap.size = g at *
  obtain ⟨h0, hh0⟩ : ∃ h, h = bof o := ⟨_, rfl⟩
  rw [← hh0] at HP0
  have HH0 := Lib.hid hh0
  clear hh0
  have HN := Lib.hid hy2
  go_wp2_with fail
  go_loopw [30] (fun i wr => ∃ j : Nat, j ≤ y.size ∧ i = .int .i64 (j : Int) ∧ Hid (Puts w a b bo g (h0 :: pieces y.data.toList a b j) wr)) (fun i _ => y.size - (intOf i).toNat)
  case atStart => exact ⟨0, Nat.zero_le _, rfl, HP0⟩
  case round =>
    obtain ⟨j, hj, rfl, HS⟩ := hrel
    by_cases hlt : j < y.size
    · have hcell := HS.out.at (j := j) (by omega)
      have hlt' : (j : Int) < (y.size : Int) := by omega
      have hj2 : j < 2 := by omega
      have hj0 : (0 : Int) ≤ (j : Int) := by omega
      have hj2' : (j : Int) < 2 := by omega
      have hyj : y[j] = y.data.toList.getD j 0 := letter_at hlt
      have hk := HO.out j (by rw [← size_list]; exact hlt)
      have HPc : Hid (pieces y.data.toList a b (j + 1) = pieces y.data.toList a b j ++ piece (y.data.toList.getD j 0) (opd a b j)) := Lib.hid rfl
      have hpl := pieces_le y.data.toList a b j
      unfold okAt at hk
      generalize y.data.toList.getD j 0 = c at *
      generalize opd a b j = v at *
      generalize hpre : pieces y.data.toList a b j = pre at *
      have HC := fun W (hW : Puts w a b bo g (h0 :: pre) W) => Lib.hid ((putOperand_any W (bo + 1) bo (h0 :: pre) c v hk hW.out (by simp; omega)).mono (R' := fun e w' => e = .returned (.tuple #[]) ∧ Puts w a b bo g (h0 :: (pre ++ piece c v)) w') fun e w' ⟨h1, h2, h3, h4⟩ => ⟨h1, hW.next (by omega) h2 h3 h4⟩)
      clear hpre hpl hk
      go_wp2_with fail
      go_still_tail 7, (by kernel_rfl)
      change wpList _ _ _ _ _ wr.drew
      have HS1 := Lib.hid HS.out.drew
      generalize wr.drew = W6 at *
      go_wp2_with fail
      refine (HC _ HS1.out).out.mono ?_
      rintro e W7 ⟨rfl, hp⟩
      have HS2 := Lib.hid hp
      clear hp HC
      go_wp2
      go_roundw
      case rel => exact ⟨j + 1, by omega, by go_num, by rw [HPc.out]; exact HS2⟩
      case measure => simp [intOf]; omega
    · obtain rfl : j = y.size := by omega
      have HD := Lib.hid (done_any wr (bo + 1) bo _ HS.out.out)
      have HBz := Lib.hid HS.out.below
      go_wp2_with fail
      refine HD.out.mono ?_
      rintro e w8 ⟨rfl, rfl⟩
      go_wp2
      go_ret2
      rw [HH0.out]
      exact ⟨rfl, HBz.out⟩

set_option maxHeartbeats 1000000 in
theorem put_bad (o a b : Int) (hz : chk o a b ≠ 0) (w : World) (hw : Okw w) : Calls Tryd.prog 13 #[.agg #[.int .i64 o, .int .i64 a, .int .i64 b]] w (PutPost o a b w) := by
  have HC := Lib.hid (check_any o a b (w.alloc (insBox o a b)) (hw.next ((Below.refl _ _).alloc (Nat.le_refl _) _)))
  have HW : Hid (putL o a b = []) := Lib.hid (by unfold putL; rw [if_neg hz])
  have hz1 : (w.alloc (insBox o a b)).heap.size = w.heap.size + 1 := World.size_alloc w _
  unfold PutPost
  rw [HW.out]
  have hn : (((chk o a b : Nat) : Int) != 0) = true := by simpa using hz
  have HB0 : Hid (Below w.heap.size w (w.alloc (insBox o a b))) := Lib.hid ((Below.refl _ w).alloc (Nat.le_refl _) _)
  clear hz HW hw
  generalize chk o a b = q at *
  go_enter Tryd.func13, Tryd.ntmps13
  unfold insBox at HC hz1 HB0
  go_wp2_with fail
  refine HC.out.mono ?_
  rintro e w1 ⟨rfl, hb⟩
  have HB1 := Lib.hid (HB0.out.trans (hb.mono (by omega)))
  clear hb HC HB0
  go_wp2_with fail
  go_ret2
  exact ⟨rfl, HB1.out⟩
theorem put_any (o a b : Int) (w : World) (hw : Okw w) : Calls Tryd.prog 13 #[.agg #[.int .i64 o, .int .i64 a, .int .i64 b]] w (PutPost o a b w) := by
  by_cases h : chk o a b = 0
  · exact put_good o a b h w hw
  · exact put_bad o a b h w hw
end Go.Proofs.YtaefkkhmhogpeaaDoor.inst
