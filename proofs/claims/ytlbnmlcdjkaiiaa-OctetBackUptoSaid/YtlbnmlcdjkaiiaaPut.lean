/-
  One call that puts something: what it lays behind what was put; and the document's own bytes of it. The bytes put are together at most two to the forty-seventh.
-/
import Derived.Test.YtlbnmlcdjkaiiaaOut
import Derived.Test.YtlbnmlcdjkaiiaaIn
import Derived.Handy
import Derived.Lib.Strings
import Derived.Lib.SmallJoins
namespace Go.Proofs.Ytlbnmlcdjkaiiaa.octet
open Go.RowKit Go.ChangeShapes
set_option linter.unusedVariables false

/-- What is put: which kind, and its number, number with a sign, text. -/
structure OpD where
  kind : Int
  n : Nat
  i : Int
  s : ByteArray
def OpD.fits (o : OpD) : Prop := Fits o.n ∧ -9223372036854775808 ≤ o.i ∧ o.i ≤ 9223372036854775807
def OpD.bytes (o : OpD) : List UInt8 := if o.kind = 0 then [UInt8.ofNat (o.n % 256)] else if o.kind = 1 then num o.n else if o.kind = 2 then num (zig o.i) else num o.s.size ++ o.s.data.toList
theorem OpD.length_le (o : OpD) : o.bytes.length ≤ o.s.size + 10 := by
  have h1 := num_length_le o.n
  have h2 := num_length_le (zig o.i)
  have h3 := num_length_le o.s.size
  have h4 : o.s.data.toList.length = o.s.size := by rw [Array.length_toList]; rfl
  unfold OpD.bytes
  split
  · simp
  · split
    · omega
    · split
      · omega
      · rw [List.length_append]; omega

set_option maxHeartbeats 1000000 in
theorem put_any (w : World) (base bo : Nat) (l : List UInt8) (o : OpD) (hf : o.fits) (ho : OutAt w base bo l) (hl : l.length + o.s.size + 10 ≤ 140737488355328) :
    Calls Try.prog 9 #[.pointer (some ⟨bo, 0, none⟩), .agg #[.int .i64 o.kind, .int .u64 (o.n : Int), .int .i64 o.i, .string o.s]] w fun e w' => e = .returned (.tuple #[]) ∧ OutAt w' base bo (l ++ o.bytes) ∧ Frm base bo w w' := by
  obtain ⟨kind, n, i, s⟩ := o
  obtain ⟨hn, hi1, hi2⟩ := hf
  have hn' : n < 18446744073709551616 := hn
  have hlim : l.length + 10 ≤ 140737488355328 := by simp only at hl; omega
  have hbase := ho.base_le
  have hol := ho.lt
  have ho1 : OutAt (w.alloc (.cells #[.int .i64 kind, .int .u64 (n : Int), .int .i64 i, .string s] 30)) base bo l :=
    ho.keep (by simp) (Below.heap_alloc _ _ _ hol) fun k _ hk => Below.heap_alloc _ _ _ hk
  have hfr : Frm base bo w (w.alloc (.cells #[.int .i64 kind, .int .u64 (n : Int), .int .i64 i, .string s] 30)) := (Frm.refl _ _ _).alloc hbase _
  by_cases k0 : kind = 0
  · have hfin : OpD.bytes ⟨kind, n, i, s⟩ = [UInt8.ofNat (n % 256)] := by unfold OpD.bytes; rw [if_pos k0]
    rw [hfin]
    clear hfin
    subst k0
    go_enter Try.func9, Try.ntmps9
    go_wp2_with fail
    refine (byte_any _ base bo l ((n : Int) % 256) ho1 (by omega)).mono ?_
    rintro e w1 ⟨rfl, ho2, hf2⟩
    go_wp2
    go_end0
    rw [show bof ((n : Int) % 256) = UInt8.ofNat (n % 256) from bof_nat (n % 256)] at ho2
    exact ⟨rfl, ho2, hfr.trans hf2⟩
  · have y0 : (kind == 0) = false := by simp [k0]
    by_cases k1 : kind = 1
    · have hfin : OpD.bytes ⟨kind, n, i, s⟩ = num n := by unfold OpD.bytes; rw [if_neg k0, if_pos k1]
      rw [hfin]
      clear hfin y0
      subst k1
      go_enter Try.func9, Try.ntmps9
      go_wp2_with fail
      refine (num_any _ base bo l n hn ho1 hlim).mono ?_
      rintro e w1 ⟨rfl, ho2, hf2⟩
      go_wp2
      go_end0
      exact ⟨rfl, ho2, hfr.trans hf2⟩
    · have y1 : (kind == 1) = false := by simp [k1]
      by_cases k2 : kind = 2
      · have hfin : OpD.bytes ⟨kind, n, i, s⟩ = num (zig i) := by unfold OpD.bytes; rw [if_neg k0, if_neg k1, if_pos k2]
        rw [hfin]
        clear hfin y0 y1
        subst k2
        go_enter Try.func9, Try.ntmps9
        go_wp2_with fail
        refine (int_any _ base bo l i hi1 hi2 ho1 hlim).mono ?_
        rintro e w1 ⟨rfl, ho2, hf2⟩
        go_wp2
        go_end0
        exact ⟨rfl, ho2, hfr.trans hf2⟩
      · have y2 : (kind == 2) = false := by simp [k2]
        have hfin : OpD.bytes ⟨kind, n, i, s⟩ = num s.size ++ s.data.toList := by unfold OpD.bytes; rw [if_neg k0, if_neg k1, if_neg k2]
        rw [hfin]
        clear hfin k0 k1 k2
        go_enter Try.func9, Try.ntmps9
        go_wp2_with fail
        refine (text_any _ base bo l s ho1 hl).mono ?_
        rintro e w1 ⟨rfl, ho2, hf2⟩
        go_wp2
        go_end0
        exact ⟨rfl, ho2, hfr.trans hf2⟩

theorem mk_append (l r : List UInt8) : ByteArray.mk l.toArray ++ ByteArray.mk r.toArray = ByteArray.mk (l ++ r).toArray := by
  apply ByteArray.ext
  apply Array.toList_inj.1
  simp [ByteArray.data_append]
theorem run_one (w : World) (x : Int) (b : UInt8) (hx : x = (b.toNat : Int)) :
    (convert 24 9 (.slice (some ⟨w.heap.size, 0, none⟩) 1 1)).run Try.prog (w.alloc (.cells #[.int .u8 x] 5)) = .ok (.string ⟨[b].toArray⟩) (w.alloc (.cells #[.int .u8 x] 5)) := by
  subst hx
  refine run_convert_bytes_back _ 24 9 5 ⟨w.heap.size, 0, none⟩ 1 [b] Try.underlying24 Try.underlying5 Try.underlying9 (fun j hj => ?_)
  have hj0 : j = 0 := by simp at hj; exact hj
  subst hj0
  exact cell_of_one (heap_alloc_new w _)

set_option maxHeartbeats 1000000 in
set_option maxRecDepth 100000 in
theorem refNumW_any (w : World) (n : Nat) (hn : Fits n) :
    Calls Try.prog 28 #[.int .u64 (n : Int)] w fun e w' => e = .returned (.string ⟨(num n).toArray⟩) ∧ Below w.heap.size w w' := by
  go_enter Try.func28, Try.ntmps28
  go_wp2
  go_loopw [0, 3] (fun t v wr => ∃ (m : Nat) (pre : List UInt8), t = .int .u64 (m : Int) ∧ v = .string ⟨pre.toArray⟩ ∧ Fits m ∧ pre ++ num m = num n ∧ Below w.heap.size w wr) (fun t _ _ => (intOf t).toNat)
  case atStart => exact ⟨n, [], rfl, rfl, hn, rfl, Below.refl _ _⟩
  case round =>
    obtain ⟨m, pre, rfl, rfl, hm, he, hb⟩ := hrel
    have hpl : pre.length ≤ 9 := by
      have e1 := congrArg List.length he
      have e2 := num_length_le n
      have e3 := enc_length_pos 9 m
      have e4 : (num m).length = (enc 9 m).length := rfl
      simp only [List.length_append] at e1
      omega
    have hps := size_mk pre
    have HE := Lib.hid he
    clear he
    by_cases hlt : m < 128
    · obtain ⟨c, hc⟩ : ∃ c, c = UInt8.ofNat m := ⟨_, rfl⟩
      have hone := run_one wr (m : Int) c (by rw [hc, UInt8.toNat_ofNat']; omega)
      have hos := size_mk [c]
      have HC := Lib.hid hc
      have HB := Lib.hid (hb.alloc hb.size (.cells #[.int .u8 (m : Int)] 5))
      clear hc
      go_wp2
      go_ret
      refine ⟨?_, HB.out⟩
      rw [← HE.out, num_small hlt, ← HC.out, ← mk_append]
      rfl
    · obtain ⟨c, hc⟩ : ∃ c, c = UInt8.ofNat (m % 128 + 128) := ⟨_, rfl⟩
      have hone := run_one wr ((m : Int) % 128 + 128) c (by rw [hc, UInt8.toNat_ofNat']; omega)
      have hos := size_mk [c]
      have HC := Lib.hid hc
      have HB := Lib.hid (hb.alloc hb.size (.cells #[.int .u8 ((m : Int) % 128 + 128)] 5))
      clear hc
      go_wp2
      refine ⟨⟨m / 128, pre ++ [c], ?_, ?_, ?_, ?_, HB.out⟩, ?_⟩
      · unfold Fits at hm
        rw [IntKind.wrap_u64]
        congr 1
        omega
      · rw [← mk_append]
      · unfold Fits at hm ⊢; omega
      · rw [← HE.out, num_big (by omega) hm, List.append_assoc, HC.out]
        rfl
      · unfold Fits at hm
        rw [IntKind.wrap_u64]
        simp [intOf]
        omega

set_option maxHeartbeats 1000000 in
theorem refIntW_any (w : World) (n : Int) (h1 : -9223372036854775808 ≤ n) (h2 : n ≤ 9223372036854775807) :
    Calls Try.prog 29 #[.int .i64 n] w fun e w' => e = .returned (.string ⟨(num (zig n)).toArray⟩) ∧ Below w.heap.size w w' := by
  by_cases hlt : 0 ≤ n
  · have hz : 2 * n = ((zig n : Nat) : Int) := by unfold zig; rw [if_pos hlt]; omega
    go_enter Try.func29, Try.ntmps29
    go_wp2_with fail
    refine (refNumW_any _ (zig n) (zig_lt h1 h2)).mono ?_
    rintro e w1 ⟨rfl, hb⟩
    go_wp2
    go_ret
    exact ⟨rfl, hb⟩
  · have hz : 2 * -(n + 1) + 1 = ((zig n : Nat) : Int) := by unfold zig; rw [if_neg hlt]; omega
    go_enter Try.func29, Try.ntmps29
    go_wp2_with fail
    refine (refNumW_any _ (zig n) (zig_lt h1 h2)).mono ?_
    rintro e w1 ⟨rfl, hb⟩
    go_wp2
    go_ret
    exact ⟨rfl, hb⟩

set_option maxHeartbeats 1000000 in
theorem refTextW_any (w : World) (s : ByteArray) (hs : s.size ≤ 140737488355328) :
    Calls Try.prog 30 #[.string s] w fun e w' => e = .returned (.string ⟨(num s.size ++ s.data.toList).toArray⟩) ∧ Below w.heap.size w w' := by
  have hfit : Fits s.size := by unfold Fits; omega
  have hn := size_mk (num s.size)
  have hl := num_length_le s.size
  go_enter Try.func30, Try.ntmps30
  go_wp2_with fail
  refine (refNumW_any _ s.size hfit).mono ?_
  rintro e w1 ⟨rfl, hb⟩
  go_wp2
  go_ret
  refine ⟨?_, hb⟩
  rw [← mk_append]
  rfl

set_option maxHeartbeats 1000000 in
theorem refPut_any (w : World) (o : OpD) (hf : o.fits) (hs : o.s.size ≤ 140737488355328) :
    Calls Try.prog 10 #[.agg #[.int .i64 o.kind, .int .u64 (o.n : Int), .int .i64 o.i, .string o.s]] w fun e w' => e = .returned (.string ⟨o.bytes.toArray⟩) ∧ Below w.heap.size w w' := by
  obtain ⟨kind, n, i, s⟩ := o
  obtain ⟨hn, hi1, hi2⟩ := hf
  have hn' : n < 18446744073709551616 := hn
  have hbw : Below w.heap.size w (w.alloc (.cells #[.int .i64 kind, .int .u64 (n : Int), .int .i64 i, .string s] 30)) := (Below.refl _ _).alloc (Nat.le_refl _) _
  by_cases k0 : kind = 0
  · have hfin : OpD.bytes ⟨kind, n, i, s⟩ = [UInt8.ofNat (n % 256)] := by unfold OpD.bytes; rw [if_pos k0]
    rw [hfin]
    clear hfin
    subst k0
    obtain ⟨c, hc⟩ : ∃ c, c = UInt8.ofNat (n % 256) := ⟨_, rfl⟩
    have hone := run_one (w.alloc (.cells #[.int .i64 0, .int .u64 (n : Int), .int .i64 i, .string s] 30)) ((n : Int) % 256) c (by rw [hc, UInt8.toNat_ofNat']; omega)
    rw [World.size_alloc] at hone
    rw [← hc]
    clear hc
    go_enter Try.func10, Try.ntmps10
    go_wp2
    go_ret
    exact ⟨rfl, by go_grown⟩
  · have y0 : (kind == 0) = false := by simp [k0]
    by_cases k1 : kind = 1
    · have hfin : OpD.bytes ⟨kind, n, i, s⟩ = num n := by unfold OpD.bytes; rw [if_neg k0, if_pos k1]
      rw [hfin]
      clear hfin y0
      subst k1
      go_enter Try.func10, Try.ntmps10
      go_wp2_with fail
      refine (refNumW_any _ n hn).mono ?_
      rintro e w1 ⟨rfl, hb⟩
      go_wp2
      go_ret
      exact ⟨rfl, hbw.trans (hb.mono hbw.size)⟩
    · have y1 : (kind == 1) = false := by simp [k1]
      by_cases k2 : kind = 2
      · have hfin : OpD.bytes ⟨kind, n, i, s⟩ = num (zig i) := by unfold OpD.bytes; rw [if_neg k0, if_neg k1, if_pos k2]
        rw [hfin]
        clear hfin y0 y1
        subst k2
        go_enter Try.func10, Try.ntmps10
        go_wp2_with fail
        refine (refIntW_any _ i hi1 hi2).mono ?_
        rintro e w1 ⟨rfl, hb⟩
        go_wp2
        go_ret
        exact ⟨rfl, hbw.trans (hb.mono hbw.size)⟩
      · have y2 : (kind == 2) = false := by simp [k2]
        have hfin : OpD.bytes ⟨kind, n, i, s⟩ = num s.size ++ s.data.toList := by unfold OpD.bytes; rw [if_neg k0, if_neg k1, if_neg k2]
        rw [hfin]
        clear hfin k0 k1 k2
        go_enter Try.func10, Try.ntmps10
        go_wp2_with fail
        refine (refTextW_any _ s hs).mono ?_
        rintro e w1 ⟨rfl, hb⟩
        go_wp2
        go_ret
        exact ⟨rfl, hbw.trans (hb.mono hbw.size)⟩
end Go.Proofs.Ytlbnmlcdjkaiiaa.octet
