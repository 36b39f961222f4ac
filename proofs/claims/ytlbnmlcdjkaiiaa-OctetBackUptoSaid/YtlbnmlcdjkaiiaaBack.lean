/-
  What was put is read again, whatever stands behind: for every list of calls and every text that are together of bulk at most 1048576.
-/
import Derived.Test.YtlbnmlcdjkaiiaaWritesU
import Derived.Deep.RegionWith
import Derived.Deep.DeepCutAuto
import Derived.Deep.CutBlock
namespace Go.Proofs.Ytlbnmlcdjkaiiaa.octetBack
open Go.ChangeShapes Go.WideShapes Go.ChangeAt Go.RowKit Go.Proofs.Ytlbnmlcdjkaiiaa.octet Go.Proofs.Ytlbnmlcdjkaiiaa.octetWrites
open Go.ChangeMaps (open_string shut_string)
set_option linter.unusedVariables false

theorem data_mk (s : ByteArray) : (ByteArray.mk s.data.toList.toArray) = s := by
  apply ByteArray.ext
  simp

theorem back0 {o : OpD} (h : o.kind = 0) (r : List UInt8) : rdByte ⟨o.bytes ++ r, 0⟩ = (o.n % 256, ⟨r, 0⟩) := by
  have e : o.bytes = [UInt8.ofNat (o.n % 256)] := by unfold OpD.bytes; rw [if_pos h]
  rw [e]
  show ((UInt8.ofNat (o.n % 256)).toNat, _) = _
  rw [UInt8.toNat_ofNat', Nat.mod_mod]
  rfl
theorem num_rd {n : Nat} (h : Fits n) (r : List UInt8) : rdNum ⟨num n ++ r, 0⟩ = (n, ⟨r, 0⟩) := by
  unfold rdNum
  rw [if_neg (by simp)]
  simp only
  rw [num_back h]
theorem back1 {o : OpD} (hf : o.fits) (h : o.kind = 1) (r : List UInt8) : rdNum ⟨o.bytes ++ r, 0⟩ = (o.n, ⟨r, 0⟩) := by
  have e : o.bytes = num o.n := by unfold OpD.bytes; rw [if_neg (by omega), if_pos h]
  rw [e]
  exact num_rd hf.1 r
theorem back2 {o : OpD} (hf : o.fits) (h : o.kind = 2) (r : List UInt8) : rdInt ⟨o.bytes ++ r, 0⟩ = (o.i, ⟨r, 0⟩) := by
  have e : o.bytes = num (zig o.i) := by unfold OpD.bytes; rw [if_neg (by omega), if_neg (by omega), if_pos h]
  unfold rdInt
  rw [e, num_rd (zig_lt hf.2.1 hf.2.2), zag_zig]
theorem back3 {o : OpD} (hs : o.s.size ≤ 140737488355328) (h0 : o.kind ≠ 0) (h1 : o.kind ≠ 1) (h2 : o.kind ≠ 2) (r : List UInt8) : rdText ⟨o.bytes ++ r, 0⟩ = (o.s.data.toList, ⟨r, 0⟩) := by
  have e : o.bytes = num o.s.size ++ o.s.data.toList := by unfold OpD.bytes; rw [if_neg h0, if_neg h1, if_neg h2]
  have hl : o.s.data.toList.length = o.s.size := by rw [Array.length_toList]; rfl
  unfold rdText
  rw [e, List.append_assoc, num_rd (by unfold Fits; omega)]
  simp only
  rw [if_neg (by rw [List.length_append, hl]; omega), ← hl, List.take_left, List.drop_left]

/-- Where the reading stands: behind the k-th of K calls. -/
def Stood (ops : Nat → OpD) (more : ByteArray) (K k : Nat) (rest : List UInt8) : Prop := rest = tl ops k (K - k) ++ more.data.toList ∧ rest.length ≤ 4194304
theorem stood_next {ops : Nat → OpD} {more : ByteArray} {K k : Nat} {rest : List UInt8} (h : Stood ops more K k rest) (hk : k < K) : ∃ r, rest = (ops k).bytes ++ r ∧ Stood ops more K (k + 1) r := by
  obtain ⟨h1, h2⟩ := h
  obtain ⟨d, hd⟩ : ∃ d, K - k = d + 1 := ⟨K - k - 1, by omega⟩
  have hd' : K - (k + 1) = d := by omega
  rw [hd, tl, List.append_assoc] at h1
  refine ⟨tl ops (k + 1) d ++ more.data.toList, h1, by rw [hd'], ?_⟩
  rw [h1, List.length_append] at h2
  omega
theorem stood_end {ops : Nat → OpD} {more : ByteArray} {K : Nat} {rest : List UInt8} (h : Stood ops more K K rest) : rest = more.data.toList := by
  rw [h.1, Nat.sub_self, tl, List.nil_append]

def Wrote (ops : Nat → OpD) (K : Nat) (w wx : World) : Prop := OutAt wx (w.heap.size + 1) w.heap.size (tl ops 0 K) ∧ Below w.heap.size w wx

theorem mod256 {n : Nat} (h : Fits n) : IntKind.i64.wrap ((n : Int).tmod 256) = (n : Int) % 256 := by
  rw [Int.tmod_eq_emod_of_nonneg (by omega), IntKind.wrap_i64]
  omega

/-- One call in a block of its own. -/
def opBlock (o : OpD) : Obj := .cells #[.int .i64 o.kind, .int .u64 (o.n : Int), .int .i64 o.i, .string o.s] 30
def OpAt (w : World) (b : Nat) (o : OpD) : Prop := w.heap[b]? = some (.cells #[.int .i64 o.kind, .int .u64 (o.n : Int), .int .i64 o.i, .string o.s] 30 (0, 0))
theorem OpAt.lt {w : World} {b : Nat} {o : OpD} (h : OpAt w b o) : b < w.heap.size := lt_of_block h
theorem OpAt.cell {w : World} {b : Nat} {o : OpD} (h : OpAt w b o) (i : Nat) (hi : i < 4) : w.cell? ⟨b, i, none⟩ = #[Value.int .i64 o.kind, .int .u64 (o.n : Int), .int .i64 o.i, .string o.s][i]? := by
  unfold OpAt at h
  simp [World.cell?, h]

theorem read0 {bi : Nat} {o : OpD} {r : List UInt8} (hl : (o.bytes ++ r).length ≤ 140737488355328) (hk : o.kind = 0) (W : World) (hi : InAt W bi ⟨o.bytes ++ r, 0⟩) :
    Calls Try.prog 15 #[.pointer (some ⟨bi, 0, none⟩)] W fun e w' => e = .returned (.int .i64 ((o.n : Int) % 256)) ∧ InAt w' bi ⟨r, 0⟩ ∧ Frm W.heap.size bi W w' := by
  have h := byteIn_any W bi ⟨o.bytes ++ r, 0⟩ hi (fun h => absurd rfl h) hl
  rw [back0 hk r] at h
  exact h
theorem read1 {bi : Nat} {o : OpD} {r : List UInt8} (hf : o.fits) (hl : (o.bytes ++ r).length ≤ 140737488355328) (hk : o.kind = 1) (W : World) (hi : InAt W bi ⟨o.bytes ++ r, 0⟩) :
    Calls Try.prog 17 #[.pointer (some ⟨bi, 0, none⟩)] W fun e w' => e = .returned (.int .u64 (o.n : Int)) ∧ InAt w' bi ⟨r, 0⟩ ∧ Frm W.heap.size bi W w' := by
  have h := numIn_any W bi ⟨o.bytes ++ r, 0⟩ hi (fun h => absurd rfl h) hl
  rw [back1 hf hk r] at h
  exact h
theorem read2 {bi : Nat} {o : OpD} {r : List UInt8} (hf : o.fits) (hl : (o.bytes ++ r).length ≤ 140737488355328) (hk : o.kind = 2) (W : World) (hi : InAt W bi ⟨o.bytes ++ r, 0⟩) :
    Calls Try.prog 19 #[.pointer (some ⟨bi, 0, none⟩)] W fun e w' => e = .returned (.int .i64 o.i) ∧ InAt w' bi ⟨r, 0⟩ ∧ Frm W.heap.size bi W w' := by
  have h := intIn_any W bi ⟨o.bytes ++ r, 0⟩ hi (fun h => absurd rfl h) hl
  rw [back2 hf hk r] at h
  exact h
theorem read3 {bi : Nat} {o : OpD} {r : List UInt8} (hs : o.s.size ≤ 140737488355328) (hl : (o.bytes ++ r).length ≤ 140737488355328) (hk : o.kind ≠ 0 ∧ o.kind ≠ 1 ∧ o.kind ≠ 2) (W : World) (hi : InAt W bi ⟨o.bytes ++ r, 0⟩) :
    Calls Try.prog 21 #[.pointer (some ⟨bi, 0, none⟩)] W fun e w' => e = .returned (.string o.s) ∧ InAt w' bi ⟨r, 0⟩ ∧ Frm W.heap.size bi W w' := by
  have h := textIn_any W bi ⟨o.bytes ++ r, 0⟩ hi (fun h => absurd rfl h) hl
  rw [back3 hs hk.1 hk.2.1 hk.2.2 r] at h
  rw [← data_mk o.s]
  exact h

set_option maxHeartbeats 8000000 in
set_option maxRecDepth 100000 in
theorem walk_some (b off len cap : Nat) (ops : Nat → OpD) (more : ByteArray) (hmore : more.size ≤ 1048576) (hlen : len ≤ 1048576) (htot : tot ops len ≤ 1048576) (hfit : ∀ i, i < len → (ops i).fits) (w : World) (hbw : b < w.heap.size) (hl : Lies w b off len ops)
    (K : Nat) (hKl : K ≤ len) (hK100 : K ≤ 100) (hK : K = len ∨ K = 100) :
    Calls Try.prog 5 #[.slice (some ⟨b, off, none⟩) len cap, .string more] w fun e w' => e = .returned (.bool true) ∧ Below w.heap.size w w' := by
  have HL := Lib.hid hl
  have HF := Lib.hid hfit
  have HK := Lib.hid hK
  have HO := Lib.hid (out_new w)
  have HB := Lib.hid ((Below.refl _ w).alloc (Nat.le_refl w.heap.size) (.cells #[.slice none 0 0] 26))
  clear hl hfit hK
  go_enter Try.func5, Try.ntmps5
  go_upto_block 0 with fail
  go_cut [6] (fun _ wx => Wrote ops K w wx)
  case first =>
    go_wp2_with fail
    go_loopw [6] (fun i wr => ∃ k : Nat, i = .int .i64 (k : Int) ∧ k ≤ K ∧ Wrote ops k w wr) (fun i _ => len - (intOf i).toNat)
    case atStart => exact ⟨0, rfl, Nat.zero_le _, HO.out, HB.out⟩
    case round =>
      obtain ⟨k, rfl, hk, ho, hb⟩ := hrel
      have hlk := tl_length ops k
      have htk := tot_mono ops (show k ≤ len by omega)
      by_cases hlt : k < K
      · have d1 : decide (k < len) = true := by simp; omega
        have d2 : decide ((k : Int) < 100) = true := by simp; omega
        have hsk : (ops k).s.size ≤ 1048576 := by
          have h1 := tot_mono ops (show k + 1 ≤ len by omega)
          rw [tot] at h1
          omega
        have HS : Hid (tl ops 0 (k + 1) = tl ops 0 k ++ (ops k).bytes) := by
          have h1 := tl_snoc ops k 0
          rw [Nat.zero_add] at h1
          exact h1
        have HFk := Lib.hid (HF.out k (by omega))
        obtain ⟨c0, c1, c2, c3⟩ := HL.out.below hb hbw k (by omega)
        generalize ops k = o at *
        go_wp2_with fail
        refine (put_any _ (w.heap.size + 1) w.heap.size _ o HFk.out ho (by omega)).mono ?_
        rintro e w1 ⟨rfl, ho1, hf1⟩
        have HB1 := Lib.hid (hb.trans (hf1.below (Nat.le_refl _) (by omega)))
        have HO1 := Lib.hid ho1
        clear c0 c1 c2 c3 ho1
        go_wp2
        refine ⟨⟨k + 1, by go_num, by omega, ?_, HB1.out⟩, ?_⟩
        · rw [HS.out]
          exact HO1.out
        · simp [intOf]
          omega
      · have hkK : k = K := by omega
        subst hkK
        have hgo := HK.out
        have HW : Hid (Wrote ops k w wr) := Lib.hid ⟨ho, hb⟩
        go_wp2_with fail
        all_goals
          go_meet
          exact HW.out
  case rest =>
    obtain ⟨ho, hb⟩ := hcut
    have hlK := tl_length ops K
    have htK := tot_mono ops hKl
    have hsz := size_mk (tl ops 0 K)
    have hst : Stood ops more K 0 (tl ops 0 K ++ more.data.toList) := by
      refine ⟨rfl, ?_⟩
      have hm : more.data.toList.length = more.size := by rw [Array.length_toList]; rfl
      rw [List.length_append]
      omega
    have HST := Lib.hid hst
    have hopen := open_any wc (⟨(tl ops 0 K).toArray⟩ ++ more)
    rw [show (ByteArray.mk (tl ops 0 K).toArray ++ more).data.toList = tl ops 0 K ++ more.data.toList from by simp [ByteArray.data_append]] at hopen
    have HOP := Lib.hid hopen
    clear hst hopen
    go_wp2_with fail
    refine (done_any _ _ _ _ ho).mono ?_
    rintro e w1 ⟨rfl, rfl⟩
    go_wp2_with fail
    refine HOP.out.mono ?_
    rintro e w2 ⟨rfl, hi2, hb2, hs2⟩
    have HI := Lib.hid hi2
    have HB2 := Lib.hid (hb.trans (hb2.mono hb.size))
    have hble : w.heap.size ≤ wc.heap.size := hb.size
    clear hi2 hb2 hs2 ho hb
    go_wp2_with fail
    go_loopw [8] (fun i wr => ∃ (k : Nat) (rest : List UInt8), i = .int .i64 (k : Int) ∧ k ≤ K ∧ Stood ops more K k rest ∧ InAt wr wc.heap.size ⟨rest, 0⟩ ∧ Below w.heap.size w wr) (fun i _ => len - (intOf i).toNat)
    case atStart => exact ⟨0, _, rfl, Nat.zero_le _, HST.out, HI.out, HB2.out⟩
    case round =>
      obtain ⟨k, rest, rfl, hk, hsd, hi, hb⟩ := hrel
      by_cases hlt : k < K
      · have d1 : decide (k < len) = true := by simp; omega
        have d2 : decide ((k : Int) < 100) = true := by simp; omega
        obtain ⟨r, hr, hsd'⟩ := stood_next hsd hlt
        have HSD := Lib.hid hsd'
        have hrl : (rest.length ≤ 140737488355328) := Nat.le_trans hsd.2 (by omega)
        have hsk : (ops k).s.size ≤ 140737488355328 := by
          have h1 := tot_mono ops (show k + 1 ≤ len by omega)
          rw [tot] at h1
          omega
        subst hr
        have HFk := Lib.hid (HF.out k (by omega))
        obtain ⟨c0, c1, c2, c3⟩ := HL.out.below hb hbw k (by omega)
        clear hsd hsd'
        generalize ops k = o at *
        have hi3 : InAt (wr.alloc (opBlock o)) wc.heap.size ⟨o.bytes ++ r, 0⟩ := hi.kept (Below.heap_alloc _ _ _ hi.lt)
        have hx3 : OpAt (wr.alloc (opBlock o)) wr.heap.size o := heap_alloc_new wr _
        have hb3 : Below w.heap.size w (wr.alloc (opBlock o)) := hb.alloc hb.size _
        have HN : Hid (wr.heap.size ≠ wc.heap.size ∧ w.heap.size ≤ wc.heap.size) := ⟨by have := hi.lt; omega, hble⟩
        have HI3 := Lib.hid hi3
        have HX3 := Lib.hid hx3
        have HB3 := Lib.hid hb3
        clear hi3 hx3 hb3 hi
        go_upto_block 4 with fail
        go_cut [10] (fun l wx => l = .bool true ∧ InAt wx wc.heap.size ⟨r, 0⟩ ∧ Below w.heap.size w wx)
        case first =>
          have hi3 := HI3.out
          have hx3 := HX3.out
          have hb3 := HB3.out
          clear HI3 HX3 HB3 c0 c1 c2 c3
          unfold opBlock at hi3 hx3 hb3
          generalize wr.alloc (.cells #[.int .i64 o.kind, .int .u64 (o.n : Int), .int .i64 o.i, .string o.s] 30) = w3 at *
          generalize wr.heap.size = bx at *
          have e0 := hx3.cell 0 (by omega)
          have e1 := hx3.cell 1 (by omega)
          have e2 := hx3.cell 2 (by omega)
          have e3 := hx3.cell 3 (by omega)
          have HCA := Lib.hid (read0 (bi := wc.heap.size) (o := o) (r := r) hrl)
          have HCB := Lib.hid (read1 (bi := wc.heap.size) (o := o) (r := r) HFk.out hrl)
          have HCC := Lib.hid (read2 (bi := wc.heap.size) (o := o) (r := r) HFk.out hrl)
          have HCD := Lib.hid (read3 (bi := wc.heap.size) (o := o) (r := r) hsk hrl)
          by_cases k0 : o.kind = 0
          · have y0 : (o.kind == 0) = true := by simp [k0]
            have HKD : Hid (o.kind = 0) := k0
            clear k0
            go_wp2_with fail
            go_region_with (
              go_at_call 15
              refine (HCA.out HKD.out _ ?_).mono ?_
              · exact hi3
              rintro e w4 ⟨rfl, hi4, hf4⟩
              have hx4 : OpAt w4 bx o := (hf4.block _ hx3.lt HN.out.1).trans hx3
              have hb4 : Below w.heap.size w w4 := by first | exact hb3.drew.trans (Frm.below hf4 HN.out.2 hb3.size) | exact hb3.trans (Frm.below hf4 HN.out.2 hb3.size)
              have e10 := hx4.cell 0 (by omega)
              have e11 := hx4.cell 1 (by omega)
              have e12 := hx4.cell 2 (by omega)
              have e13 := hx4.cell 3 (by omega))
            all_goals
              go_wp2_with fail
              go_meet
              exact ⟨by first | rfl | (rw [mod256 HFk.out.1]; simp), hi4, hb4⟩
          · have y0 : (o.kind == 0) = false := by simp [k0]
            by_cases k1 : o.kind = 1
            · have y1 : (o.kind == 1) = true := by simp [k1]
              have HKD : Hid (o.kind = 1) := k1
              clear k0 k1
              go_wp2_with fail
              go_region_with (
                go_at_call 17
                refine (HCB.out HKD.out _ ?_).mono ?_
                · exact hi3
                rintro e w4 ⟨rfl, hi4, hf4⟩
                have hx4 : OpAt w4 bx o := (hf4.block _ hx3.lt HN.out.1).trans hx3
                have hb4 : Below w.heap.size w w4 := by first | exact hb3.drew.trans (Frm.below hf4 HN.out.2 hb3.size) | exact hb3.trans (Frm.below hf4 HN.out.2 hb3.size)
                have e10 := hx4.cell 0 (by omega)
                have e11 := hx4.cell 1 (by omega)
                have e12 := hx4.cell 2 (by omega)
                have e13 := hx4.cell 3 (by omega))
              all_goals
                go_wp2_with fail
                go_meet
                exact ⟨by first | rfl | (rw [mod256 HFk.out.1]; simp), hi4, hb4⟩
            · have y1 : (o.kind == 1) = false := by simp [k1]
              by_cases k2 : o.kind = 2
              · have y2 : (o.kind == 2) = true := by simp [k2]
                have HKD : Hid (o.kind = 2) := k2
                clear k0 k1 k2
                go_wp2_with fail
                go_region_with (
                  go_at_call 19
                  refine (HCC.out HKD.out _ ?_).mono ?_
                  · exact hi3
                  rintro e w4 ⟨rfl, hi4, hf4⟩
                  have hx4 : OpAt w4 bx o := (hf4.block _ hx3.lt HN.out.1).trans hx3
                  have hb4 : Below w.heap.size w w4 := by first | exact hb3.drew.trans (Frm.below hf4 HN.out.2 hb3.size) | exact hb3.trans (Frm.below hf4 HN.out.2 hb3.size)
                  have e10 := hx4.cell 0 (by omega)
                  have e11 := hx4.cell 1 (by omega)
                  have e12 := hx4.cell 2 (by omega)
                  have e13 := hx4.cell 3 (by omega))
                all_goals
                  go_wp2_with fail
                  go_meet
                  exact ⟨by first | rfl | (rw [mod256 HFk.out.1]; simp), hi4, hb4⟩
              · have y2 : (o.kind == 2) = false := by simp [k2]
                have HKD : Hid (o.kind ≠ 0 ∧ o.kind ≠ 1 ∧ o.kind ≠ 2) := ⟨k0, k1, k2⟩
                clear k0 k1 k2
                go_wp2_with fail
                go_region_with (
                  go_at_call 21
                  refine (HCD.out HKD.out _ ?_).mono ?_
                  · exact hi3
                  rintro e w4 ⟨rfl, hi4, hf4⟩
                  have hx4 : OpAt w4 bx o := (hf4.block _ hx3.lt HN.out.1).trans hx3
                  have hb4 : Below w.heap.size w w4 := by first | exact hb3.drew.trans (Frm.below hf4 HN.out.2 hb3.size) | exact hb3.trans (Frm.below hf4 HN.out.2 hb3.size)
                  have e10 := hx4.cell 0 (by omega)
                  have e11 := hx4.cell 1 (by omega)
                  have e12 := hx4.cell 2 (by omega)
                  have e13 := hx4.cell 3 (by omega))
                all_goals
                  go_wp2_with fail
                  go_meet
                  exact ⟨by first | rfl | (rw [mod256 HFk.out.1]; simp), hi4, hb4⟩
        case rest =>
          obtain ⟨rfl, hi', hb'⟩ := hcut
          go_wp2
          refine ⟨⟨k + 1, r, by go_num, by omega, HSD.out, hi', hb'⟩, ?_⟩
          simp [intOf]
          omega
      · have hkK : k = K := by omega
        subst hkK
        have hgo := HK.out
        have hq : ((rest.length : Int) == (more.size : Int)) = true := by
          have hm : more.data.toList.length = more.size := by rw [Array.length_toList]; rfl
          rw [beq_iff_eq, stood_end hsd, hm]
        have HQ : rest.length ≤ 140737488355328 := Nat.le_trans hsd.2 (by omega)
        clear hsd
        go_wp2_with fail
        all_goals
          refine (left_any _ _ ⟨rest, 0⟩ hi).mono ?_
          rintro e w5 ⟨rfl, rfl⟩
          go_wp2_with fail
          refine (err_any _ _ ⟨rest, 0⟩ hi).mono ?_
          rintro e w5 ⟨rfl, rfl⟩
          go_wp2_with fail
          refine (lives_any _).mono ?_
          rintro e w5 ⟨rfl, hb5⟩
          go_wp2
          go_ret
          exact ⟨rfl, hb.trans (hb5.mono hb.size)⟩
set_option maxHeartbeats 1000000 in
theorem walk_none (A : Option Addr) (cap : Nat) (more : ByteArray) (hmore : more.size ≤ 1048576) (w : World) :
    Calls Try.prog 5 #[.slice A 0 cap, .string more] w fun e w' => e = .returned (.bool true) ∧ Below w.heap.size w w' := by
  have HO := Lib.hid (out_new w)
  have HB := Lib.hid ((Below.refl _ w).alloc (Nat.le_refl w.heap.size) (.cells #[.slice none 0 0] 26))
  have hml : more.data.toList.length = more.size := by rw [Array.length_toList]; rfl
  have hq : ((more.data.toList.length : Int) == (more.size : Int)) = true := by rw [beq_iff_eq, hml]
  have hsz : (ByteArray.mk #[]).size = 0 := rfl
  go_enter Try.func5, Try.ntmps5
  go_wp2_with fail
  go_loopw [6] (fun i wr => i = .int .i64 0 ∧ OutAt wr (w.heap.size + 1) w.heap.size [] ∧ Below w.heap.size w wr) (fun _ _ => 0)
  case atStart => exact ⟨rfl, HO.out, HB.out⟩
  case round =>
    obtain ⟨rfl, ho, hb⟩ := hrel
    have hopen := open_any wr (⟨#[]⟩ ++ more)
    rw [show (ByteArray.mk #[] ++ more).data.toList = more.data.toList from by simp [ByteArray.data_append]] at hopen
    have HOP := Lib.hid hopen
    clear hopen hml
    go_wp2_with fail
    refine (done_any _ _ _ _ ho).mono ?_
    rintro e w1 ⟨rfl, rfl⟩
    go_wp2_with fail
    refine HOP.out.mono ?_
    rintro e w2 ⟨rfl, hi2, hb2, hs2⟩
    have HI := Lib.hid hi2
    have HB2 := Lib.hid (hb.trans (hb2.mono hb.size))
    clear hi2 hb2 hs2 ho hb
    go_wp2_with fail
    go_loopw [8] (fun i wq => i = .int .i64 0 ∧ InAt wq wr.heap.size ⟨more.data.toList, 0⟩ ∧ Below w.heap.size w wq) (fun _ _ => 0)
    case atStart => exact ⟨rfl, HI.out, HB2.out⟩
    case round =>
      obtain ⟨rfl, hi, hb⟩ := hrel
      go_wp2_with fail
      refine (left_any _ _ ⟨more.data.toList, 0⟩ hi).mono ?_
      rintro e w5 ⟨rfl, rfl⟩
      go_wp2_with fail
      refine (err_any _ _ ⟨more.data.toList, 0⟩ hi).mono ?_
      rintro e w5 ⟨rfl, rfl⟩
      go_wp2_with fail
      refine (lives_any _).mono ?_
      rintro e w5 ⟨rfl, hb5⟩
      go_wp2
      go_ret
      exact ⟨rfl, hb.trans (hb5.mono hb.size)⟩

set_option maxRecDepth 100000 in
theorem lifted (os : Os) (started : os.Started) (H : Type) (enc : TypeId × Value → H) (F : Stop.Interp) :
    ReturnsInHanded {} Try.checked os 5 .any ((Rows.OpenSpec.upto Rows.octetBackSpec).pre6 enc Try.prog Try.f5 Rows.octetBackUptoRow.domain false) (((Rows.OpenSpec.upto Rows.octetBackSpec).at F).post enc Try.prog Try.f5 false true false false) := by
  refine returnsInHanded_of_cond (C := Try.checked) (s := Rows.OpenSpec.upto Rows.octetBackSpec) (k := Rows.uptoSmall) rfl own started (by kernel_rfl) Try.func5
    (OpenSpec.witness (enc := enc) (C := Try.checked) (s := Rows.OpenSpec.upto Rows.octetBackSpec) (k := Rows.uptoSmall) rfl false ⟨#[], #[.slice none 0 0, .string .empty], []⟩ 8 (by kernel_rfl) (by kernel_rfl) (by kernel_rfl)
      (x := ([.nil, .lit (.string [])], [], [])) (by kernel_rfl) rfl (by kernel_rfl)) ?_
  intro W base args ds gs before hval0 hW _ hk0 _
  have hval : ∀ (j : Nat) t v, Try.f5.params[j]? = some t → args[j]? = some v → Value.okWide Try.prog W .any base t v := hval0
  have hW' : DataW.Whole enc Try.prog Try.f5.params.toList Rows.octetBackSpec.vars false W args.toList ds gs before := hW
  obtain ⟨p, q, hA0, hV0, rfl, hfz, hnd⟩ := hW
  have hV : DataW.TrodVars enc Try.prog W (fun _ => true) Rows.octetBackSpec.vars gs q := hV0
  have hA : DataW.TrodAll enc Try.prog W 0 (fun _ => true) true Try.f5.params.toList args.toList ds p := hA0
  rw [Try.params5] at hA hval
  obtain ⟨v0, v1, d0, d1, p0, p1, rfl, rfl, rfl, h0, h1⟩ := trodAll_two hA
  obtain ⟨rfl, rfl⟩ := trodVars_none hV
  obtain ⟨more, rfl, rfl, rfl, hmax⟩ := open_string Try.underlying9 (hval 1 9 v1 rfl rfl) h1
  obtain ⟨a0, len, cap, rfl⟩ := okWide_slice Try.underlying22 (hval 0 22 v0 rfl rfl)
  have h0k := h0
  obtain ⟨fuel, hf⟩ := h0
  clear hA0 hval0 hV0
  have hk1 : Rows.uptoSmall H [d0, .lit (.string more.data.toList)] = true := by simpa using hk0
  have hk : Rows.uptoBulkAll [d0, .lit (.string more.data.toList)] ≤ 1048576 := of_decide_eq_true hk1
  have hml : more.data.toList.length = more.size := by rw [Array.length_toList]; rfl
  have hmore : more.size ≤ 1048576 := by
    simp only [Rows.uptoBulkAll, Rows.uptoBulk] at hk
    omega
  simp only [List.append_nil] at hW'
  have hlt : ∀ x ∈ p0, x.block < W.heap.size := fun x hx => by simpa using hW'.lt x hx
  have hwalk : Calls Try.prog 5 #[.slice a0 len cap, .string more] W fun e w' => e = .returned (.bool true) ∧ Below W.heap.size W w' := by
    rcases open_ops hf with ⟨hcs, hx⟩ | ⟨a, len', cap', rest, ops, hcs, hx, hpl, hops⟩
    · simp [Value.cells] at hcs
      obtain ⟨rfl, rfl, rfl⟩ := hcs
      exact walk_none none 0 more hmore W
    · simp [Value.cells] at hcs
      obtain ⟨rfl, rfl, rfl⟩ := hcs
      simp only at hx
      by_cases hl0 : len = 0
      · subst hl0
        exact walk_none _ cap more hmore W
      · obtain ⟨b, off, spot⟩ := a
        have hspot : spot = none := by simpa [Addr.add] using World.cell?_spot (hops 0 (by omega)).2.1
        subst hspot
        obtain ⟨pl, hpm, hpb⟩ := hpl (by omega)
        have hbW : b < W.heap.size := by
          have h1 := hlt pl hpm
          rw [hpb] at h1
          exact h1
        have hbulk := bulk_range (H := H) ops len
        rw [hx] at hk
        simp only [Rows.uptoBulkAll, Rows.uptoBulk] at hk
        obtain ⟨K, hK1, hK2, hK3⟩ : ∃ K, K ≤ len ∧ K ≤ 100 ∧ (K = len ∨ K = 100) := by
          by_cases h100 : len ≤ 100
          · exact ⟨len, Nat.le_refl _, h100, .inl rfl⟩
          · exact ⟨100, by omega, Nat.le_refl _, .inr rfl⟩
        exact walk_some b off len cap ops more hmore (by omega) (by omega) (fun i hi => (hops i hi).1) W hbW (lies_of hops) K hK1 hK2 hK3
  refine hwalk.mono fun e W' ⟨he, hb⟩ => ?_
  subst he
  exact ⟨_, rfl, post_below (s := Rows.octetBackSpec) (pa := p0) (pv := []) hW' (fun _ _ _ => (trodAll_cons_mk (shut_bool Try.underlying4 _) trodAll_mk0))
    (fun sp hsp => by
      have h := trodAll_mk2 (WideElems.Trod_stays laidOut (by kernel_rfl) (of_decide_eq_true (by kernel_rfl)) h0k (fun x hx => hb.same (hlt x hx)) (fun x hx => hsp x hx)) (shut_string (enc := enc) (w := W') (base := 0) (sp := sp) (held := true) Try.underlying9 hmax)
      rw [List.append_nil] at h
      exact h) (fun _ _ => rfl) (by simp)
    hb (ok_one (by kernel_rfl) rfl (okWide_bool_mk Try.underlying4 _))⟩

theorem proved : Rows.OctetBackUptoSaid :=
  OpenClaim.holds_of_cond 5 Try.f5 rfl rfl rfl rfl rfl rfl rfl ⟨rfl, rfl, rfl, rfl, rfl⟩ rfl rfl rfl rfl rfl (by kernel_rfl) Try.func5 (by kernel_rfl)
    (of_decide_eq_true (by kernel_rfl)) (by unfold Func.isWrapper; first | (rw [if_pos (by decide +kernel)]; kernel_rfl) | (rw [if_neg (by decide +kernel)]; exact ⟨rfl, rfl⟩))
    (fun os started H enc _ F => lifted os started H enc F)
end Go.Proofs.Ytlbnmlcdjkaiiaa.octetBack
