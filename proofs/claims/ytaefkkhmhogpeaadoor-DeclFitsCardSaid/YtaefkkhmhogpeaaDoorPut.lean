/-
  One call that puts something: what it lays behind what was put; and the document's own bytes of it. The bytes put are together at most two to the forty-seventh.
-/
import Derived.Test.YtaefkkhmhogpeaaDoorOut
import Derived.Test.YtaefkkhmhogpeaaDoorIn
import Derived.Handy
import Derived.Lib.Strings
import Derived.Lib.SmallJoins
namespace Go.Proofs.YtaefkkhmhogpeaaDoor.octet
open Go.RowKit Go.ChangeShapes
set_option linter.unusedVariables false

/-- What is put: which kind, and its number, number with a sign, text. -/
structure OpD where
  kind : Int
  n : Nat
  i : Int
  s : ByteArray
def OpD.fits (o : OpD) : Prop := Fits o.n ∧ -9223372036854775808 ≤ o.i ∧ o.i ≤ 9223372036854775807
def OpD.bytes (o : OpD) : List UInt8 := if o.kind = 0 then [UInt8.ofNat (o.n % 256)] else if o.kind = 1 then num o.n else if o.kind = 2 then num (zig o.i) else num o.s.size ++ o.s.data.toList
theorem OpD.length_le (o : OpD) : o.bytes.length ≤ o.s.size + 10 := by
  have h1 := num_length_le o.n
  have h2 := num_length_le (zig o.i)
  have h3 := num_length_le o.s.size
  have h4 : o.s.data.toList.length = o.s.size := by rw [Array.length_toList]; rfl
  unfold OpD.bytes
  split
  · simp
  · split
    · omega
    · split
      · omega
      · rw [List.length_append]; omega

theorem mk_append (l r : List UInt8) : ByteArray.mk l.toArray ++ ByteArray.mk r.toArray = ByteArray.mk (l ++ r).toArray := by
  apply ByteArray.ext
  apply Array.toList_inj.1
  simp [ByteArray.data_append]
theorem run_one (w : World) (x : Int) (b : UInt8) (hx : x = (b.toNat : Int)) :
    (convert 60 9 (.slice (some ⟨w.heap.size, 0, none⟩) 1 1)).run Tryd.prog (w.alloc (.cells #[.int .u8 x] 5)) = .ok (.string ⟨[b].toArray⟩) (w.alloc (.cells #[.int .u8 x] 5)) := by
  subst hx
  refine run_convert_bytes_back _ 60 9 5 ⟨w.heap.size, 0, none⟩ 1 [b] Tryd.underlying60 Tryd.underlying5 Tryd.underlying9 (fun j hj => ?_)
  have hj0 : j = 0 := by simp at hj; exact hj
  subst hj0
  exact cell_of_one (heap_alloc_new w _)

set_option maxHeartbeats 1000000 in
set_option maxRecDepth 100000 in
theorem refNumW_any (w : World) (n : Nat) (hn : Fits n) :
    Calls Tryd.prog 43 #[.int .u64 (n : Int)] w fun e w' => e = .returned (.string ⟨(num n).toArray⟩) ∧ Below w.heap.size w w' := by
  go_enter Tryd.func43, Tryd.ntmps43
  go_wp2
  go_loopw [0, 3] (fun t v wr => ∃ (m : Nat) (pre : List UInt8), t = .int .u64 (m : Int) ∧ v = .string ⟨pre.toArray⟩ ∧ Fits m ∧ pre ++ num m = num n ∧ Below w.heap.size w wr) (fun t _ _ => (intOf t).toNat)
  case atStart => exact ⟨n, [], rfl, rfl, hn, rfl, Below.refl _ _⟩
  case round =>
    obtain ⟨m, pre, rfl, rfl, hm, he, hb⟩ := hrel
    have hpl : pre.length ≤ 9 := by
      have e1 := congrArg List.length he
      have e2 := num_length_le n
      have e3 := enc_length_pos 9 m
      have e4 : (num m).length = (enc 9 m).length := rfl
      simp only [List.length_append] at e1
      omega
    have hps := size_mk pre
    have HE := Lib.hid he
    clear he
    by_cases hlt : m < 128
    · obtain ⟨c, hc⟩ : ∃ c, c = UInt8.ofNat m := ⟨_, rfl⟩
      have hone := run_one wr (m : Int) c (by rw [hc, UInt8.toNat_ofNat']; omega)
      have hos := size_mk [c]
      have HC := Lib.hid hc
      have HB := Lib.hid (hb.alloc hb.size (.cells #[.int .u8 (m : Int)] 5))
      clear hc
      go_wp2
      go_ret
      refine ⟨?_, HB.out⟩
      rw [← HE.out, num_small hlt, ← HC.out, ← mk_append]
      rfl
    · obtain ⟨c, hc⟩ : ∃ c, c = UInt8.ofNat (m % 128 + 128) := ⟨_, rfl⟩
      have hone := run_one wr ((m : Int) % 128 + 128) c (by rw [hc, UInt8.toNat_ofNat']; omega)
      have hos := size_mk [c]
      have HC := Lib.hid hc
      have HB := Lib.hid (hb.alloc hb.size (.cells #[.int .u8 ((m : Int) % 128 + 128)] 5))
      clear hc
      go_wp2
      refine ⟨⟨m / 128, pre ++ [c], ?_, ?_, ?_, ?_, HB.out⟩, ?_⟩
      · unfold Fits at hm
        rw [IntKind.wrap_u64]
        congr 1
        omega
      · rw [← mk_append]
      · unfold Fits at hm ⊢; omega
      · rw [← HE.out, num_big (by omega) hm, List.append_assoc, HC.out]
        rfl
      · unfold Fits at hm
        rw [IntKind.wrap_u64]
        simp [intOf]
        omega

set_option maxHeartbeats 1000000 in
theorem refIntW_any (w : World) (n : Int) (h1 : -9223372036854775808 ≤ n) (h2 : n ≤ 9223372036854775807) :
    Calls Tryd.prog 42 #[.int .i64 n] w fun e w' => e = .returned (.string ⟨(num (zig n)).toArray⟩) ∧ Below w.heap.size w w' := by
  by_cases hlt : 0 ≤ n
  · have hz : 2 * n = ((zig n : Nat) : Int) := by unfold zig; rw [if_pos hlt]; omega
    go_enter Tryd.func42, Tryd.ntmps42
    go_wp2_with fail
    refine (refNumW_any _ (zig n) (zig_lt h1 h2)).mono ?_
    rintro e w1 ⟨rfl, hb⟩
    go_wp2
    go_ret
    exact ⟨rfl, hb⟩
  · have hz : 2 * -(n + 1) + 1 = ((zig n : Nat) : Int) := by unfold zig; rw [if_neg hlt]; omega
    go_enter Tryd.func42, Tryd.ntmps42
    go_wp2_with fail
    refine (refNumW_any _ (zig n) (zig_lt h1 h2)).mono ?_
    rintro e w1 ⟨rfl, hb⟩
    go_wp2
    go_ret
    exact ⟨rfl, hb⟩

end Go.Proofs.YtaefkkhmhogpeaaDoor.octet
