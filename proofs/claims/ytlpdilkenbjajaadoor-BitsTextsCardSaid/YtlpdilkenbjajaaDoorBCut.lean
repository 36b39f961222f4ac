/-
  The library's Cut at a comma, and the program's reading of one number of a set. The library's two errors and its table of powers of ten must be there (typed over the code of 0aab59b).
-/
import Derived.Test.YtlpdilkenbjajaaDoorShelf
import Derived.Test.YtlpdilkenbjajaaDoorQRead
import Derived.Test.YtlpdilkenbjajaaDoorBParts
import Derived.Test.YtlpdilkenbjajaaDoorBSay
import Derived.Deep.QuietTactic
import Derived.BigQuiet
import Derived.Lib.SmallJoins
import Derived.Lib.Strings
namespace Go.Proofs.YtlpdilkenbjajaaDoor.bits
open Go.RowKit Go.ChangeShapes

def comma : ByteArray := ⟨#[44]⟩

set_option maxHeartbeats 400000 in
theorem sliteCut_no (s : ByteArray) (h : Lib.indexByte s.data.toList 44 = -1) (w : World) :
    Calls Tryd.prog 19 #[.string s, .string ⟨#[44]⟩] w fun e w' => e = .returned (.tuple #[.string s, .string ⟨#[]⟩, .bool false]) ∧ Below w.heap.size w w' := by
  have HI := Lib.hid (Tryd.stringslite_Index_one s 44 w)
  rw [h] at HI
  clear h
  go_enter Tryd.func19, Tryd.ntmps19
  go_wp2_with fail
  refine HI.out.mono ?_
  rintro e w1 ⟨rfl, rfl⟩
  go_wp2
  go_ret3
  exact ⟨rfl, Below.refl _ _⟩

set_option maxHeartbeats 400000 in
theorem sliteCut_at (s : ByteArray) (o : Nat) (h : Lib.indexByte s.data.toList 44 = (o : Int)) (ho : o < s.size) (hm : s.size ≤ 1048576) (w : World) :
    Calls Tryd.prog 19 #[.string s, .string ⟨#[44]⟩] w fun e w' => e = .returned (.tuple #[.string (s.extract 0 o), .string (s.extract (o + 1) s.size), .bool true]) ∧ Below w.heap.size w w' := by
  have HI := Lib.hid (Tryd.stringslite_Index_one s 44 w)
  rw [h] at HI
  clear h
  have h1 : (o : Int) ≤ (s.size : Int) := by omega
  have h2 : (o : Int) + 1 ≤ (s.size : Int) := by omega
  go_enter Tryd.func19, Tryd.ntmps19
  go_wp2_with fail
  refine HI.out.mono ?_
  rintro e w1 ⟨rfl, rfl⟩
  go_wp2_with fail
  go_quiet (fail)
  go_wp2
  go_ret3
  exact ⟨rfl, rfl, rfl, rfl, Nat.le_refl _, fun _ _ => rfl⟩

set_option maxHeartbeats 400000 in
theorem cut_no (s : ByteArray) (h : Lib.indexByte s.data.toList 44 = -1) (w : World) :
    Calls Tryd.prog 9 #[.string s, .string ⟨#[44]⟩] w fun e w' => e = .returned (.tuple #[.string s, .string ⟨#[]⟩, .bool false]) ∧ Below w.heap.size w w' := by
  have HI := Lib.hid (sliteCut_no s h w)
  clear h
  go_enter Tryd.func9, Tryd.ntmps9
  go_wp2_with fail
  refine HI.out.mono ?_
  rintro e w1 ⟨rfl, hb⟩
  go_wp2
  go_ret3
  exact ⟨rfl, hb⟩
set_option maxHeartbeats 400000 in
theorem cut_at (s : ByteArray) (o : Nat) (h : Lib.indexByte s.data.toList 44 = (o : Int)) (ho : o < s.size) (hm : s.size ≤ 1048576) (w : World) :
    Calls Tryd.prog 9 #[.string s, .string ⟨#[44]⟩] w fun e w' => e = .returned (.tuple #[.string (s.extract 0 o), .string (s.extract (o + 1) s.size), .bool true]) ∧ Below w.heap.size w w' := by
  have HI := Lib.hid (sliteCut_at s o h ho hm w)
  clear h
  go_enter Tryd.func9, Tryd.ntmps9
  go_wp2_with fail
  refine HI.out.mono ?_
  rintro e w1 ⟨rfl, hb⟩
  go_wp2
  go_ret3
  exact ⟨rfl, hb⟩

/-- What the reading of a number asks of the world. -/
def Errs (w : World) : Prop := Go.Proofs.YtlpdilkenbjajaaDoor.digi.Okn w
theorem Errs.below {B : Nat} {w w' : World} (h : Errs w) (hb : Below B w w') (hB : 3 < B ∧ 4 < B ∧ 2 < B) : Errs w' :=
  Go.Proofs.YtlpdilkenbjajaaDoor.digi.Okn.below h hb hB.1 hB.2.1 hB.2.2

theorem pnum_no {p : List UInt8} {v : Int} (h : Lib.atoiAll p = .ok v) (hv : v < 0 ∨ 63 < v) : pnum p = -1 := by
  by_cases h1 : pnum p = -1
  · exact h1
  · obtain ⟨n, hn, hp, _⟩ := pnum_some h1
    rw [hp, atoi_dig n hn] at h
    injection h with h
    omega
theorem dig_itoa : ∀ n : Nat, n < 64 → Lib.itoa (n : Int) = dig n ∧ (Lib.decDigits n).length ≤ 2 := by decide +kernel
/-- The number of a set that a word is, by the reading of numbers of two digits. -/
theorem pnum_read (p : List UInt8) : pnum p = match Go.Proofs.YtlpdilkenbjajaaDoor.digi.readD p 2 with | some v => if v < 0 ∨ 63 < v then -1 else v | none => -1 := by
  cases hr : Go.Proofs.YtlpdilkenbjajaaDoor.digi.readD p 2 with
  | some v =>
    obtain ⟨h1, h2, h3, h4⟩ := Go.Proofs.YtlpdilkenbjajaaDoor.digi.readD_some hr
    show pnum p = if v < 0 ∨ 63 < v then -1 else v
    by_cases hv : v < 0 ∨ 63 < v
    · rw [if_pos hv, pnum_no h1 hv]
    · rw [if_neg hv]
      obtain ⟨m, rfl⟩ : ∃ m : Nat, v = (m : Int) := ⟨v.toNat, by omega⟩
      rw [h2, (dig_itoa m (by omega)).1, pnum_dig (by omega)]
  | none =>
    show pnum p = -1
    by_cases h1 : pnum p = -1
    · exact h1
    · obtain ⟨n, hn, hp, _⟩ := pnum_some h1
      have := Go.Proofs.YtlpdilkenbjajaaDoor.digi.readD_itoa (v := (n : Int)) (k := 2) ⟨by omega, by omega⟩ (by rw [Int.natAbs_natCast]; exact (dig_itoa n hn).2)
      rw [(dig_itoa n hn).1, ← hp, hr] at this
      cases this

set_option maxHeartbeats 1000000 in
theorem number_any (t : ByteArray) (ht : t.size ≤ 1048576) (w : World) (hE : Errs w) :
    Calls Tryd.prog 10 #[.string t] w fun e w' => e = .returned (.int .i64 (pnum t.data.toList)) ∧ Below w.heap.size w w' := by
  have HR := Lib.hid (Go.Proofs.YtlpdilkenbjajaaDoor.digi.read_any t ht 2 (by omega) w hE)
  unfold Go.Proofs.YtlpdilkenbjajaaDoor.digi.ReadPost at HR
  rw [pnum_read]
  cases hr : Go.Proofs.YtlpdilkenbjajaaDoor.digi.readD t.data.toList 2 with
  | none =>
    rw [hr] at HR
    clear hr hE
    go_enter Tryd.func10, Tryd.ntmps10
    go_wp2_with fail
    refine HR.out.mono ?_
    rintro e w1 ⟨rfl, hb⟩
    go_wp2
    go_ret
    exact ⟨rfl, hb⟩
  | some v =>
    rw [hr] at HR
    have HR : Hid (Calls Tryd.prog 20 #[.string t, .int .i64 2] w fun e w' => e = .returned (.tuple #[.int .i64 v, .bool true]) ∧ Below w.heap.size w w') := HR
    clear hr hE
    show Calls _ _ _ _ fun e w' => e = .returned (.int .i64 (if v < 0 ∨ 63 < v then -1 else v)) ∧ Below w.heap.size w w'
    by_cases h0 : v < 0
    · rw [if_pos (.inl h0)]
      go_enter Tryd.func10, Tryd.ntmps10
      go_wp2_with fail
      refine HR.out.mono ?_
      rintro e w1 ⟨rfl, hb⟩
      go_wp2
      go_ret
      exact ⟨rfl, hb⟩
    · by_cases h1 : 63 < v
      · rw [if_pos (.inr h1)]
        go_enter Tryd.func10, Tryd.ntmps10
        go_wp2_with fail
        refine HR.out.mono ?_
        rintro e w1 ⟨rfl, hb⟩
        go_wp2
        go_ret
        exact ⟨rfl, hb⟩
      · rw [if_neg (by omega)]
        go_enter Tryd.func10, Tryd.ntmps10
        go_wp2_with fail
        refine HR.out.mono ?_
        rintro e w1 ⟨rfl, hb⟩
        go_wp2
        go_ret
        exact ⟨rfl, hb⟩
end Go.Proofs.YtlpdilkenbjajaaDoor.bits
