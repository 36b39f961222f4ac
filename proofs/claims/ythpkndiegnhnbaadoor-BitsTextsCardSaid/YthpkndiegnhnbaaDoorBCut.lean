/-
  The library's Cut at a comma, and the program's reading of one number of a set. The library's two errors must be there.
-/
import Derived.Test.YthpkndiegnhnbaaDoorShelf
import Derived.Test.YthpkndiegnhnbaaDoorBParts
import Derived.Test.YthpkndiegnhnbaaDoorBSay
import Derived.Deep.QuietTactic
import Derived.BigQuiet
import Derived.Lib.SmallJoins
import Derived.Lib.Strings
namespace Go.Proofs.YthpkndiegnhnbaaDoor.bits
open Go.RowKit Go.ChangeShapes

def comma : ByteArray := ⟨#[44]⟩

set_option maxHeartbeats 400000 in
theorem sliteCut_no (s : ByteArray) (h : Lib.indexByte s.data.toList 44 = -1) (w : World) :
    Calls Tryd.prog 41 #[.string s, .string ⟨#[44]⟩] w fun e w' => e = .returned (.tuple #[.string s, .string ⟨#[]⟩, .bool false]) ∧ Below w.heap.size w w' := by
  have HI := Lib.hid (Tryd.stringslite_Index_one s 44 w)
  rw [h] at HI
  clear h
  go_enter Tryd.func41, Tryd.ntmps41
  go_wp2_with fail
  refine HI.out.mono ?_
  rintro e w1 ⟨rfl, rfl⟩
  go_wp2
  go_ret3
  exact ⟨rfl, Below.refl _ _⟩

set_option maxHeartbeats 400000 in
theorem sliteCut_at (s : ByteArray) (o : Nat) (h : Lib.indexByte s.data.toList 44 = (o : Int)) (ho : o < s.size) (hm : s.size ≤ 1048576) (w : World) :
    Calls Tryd.prog 41 #[.string s, .string ⟨#[44]⟩] w fun e w' => e = .returned (.tuple #[.string (s.extract 0 o), .string (s.extract (o + 1) s.size), .bool true]) ∧ Below w.heap.size w w' := by
  have HI := Lib.hid (Tryd.stringslite_Index_one s 44 w)
  rw [h] at HI
  clear h
  have h1 : (o : Int) ≤ (s.size : Int) := by omega
  have h2 : (o : Int) + 1 ≤ (s.size : Int) := by omega
  go_enter Tryd.func41, Tryd.ntmps41
  go_wp2_with fail
  refine HI.out.mono ?_
  rintro e w1 ⟨rfl, rfl⟩
  go_wp2_with fail
  go_quiet (fail)
  go_wp2
  go_ret3
  exact ⟨rfl, rfl, rfl, rfl, Nat.le_refl _, fun _ _ => rfl⟩

set_option maxHeartbeats 400000 in
theorem cut_no (s : ByteArray) (h : Lib.indexByte s.data.toList 44 = -1) (w : World) :
    Calls Tryd.prog 37 #[.string s, .string ⟨#[44]⟩] w fun e w' => e = .returned (.tuple #[.string s, .string ⟨#[]⟩, .bool false]) ∧ Below w.heap.size w w' := by
  have HI := Lib.hid (sliteCut_no s h w)
  clear h
  go_enter Tryd.func37, Tryd.ntmps37
  go_wp2_with fail
  refine HI.out.mono ?_
  rintro e w1 ⟨rfl, hb⟩
  go_wp2
  go_ret3
  exact ⟨rfl, hb⟩
set_option maxHeartbeats 400000 in
theorem cut_at (s : ByteArray) (o : Nat) (h : Lib.indexByte s.data.toList 44 = (o : Int)) (ho : o < s.size) (hm : s.size ≤ 1048576) (w : World) :
    Calls Tryd.prog 37 #[.string s, .string ⟨#[44]⟩] w fun e w' => e = .returned (.tuple #[.string (s.extract 0 o), .string (s.extract (o + 1) s.size), .bool true]) ∧ Below w.heap.size w w' := by
  have HI := Lib.hid (sliteCut_at s o h ho hm w)
  clear h
  go_enter Tryd.func37, Tryd.ntmps37
  go_wp2_with fail
  refine HI.out.mono ?_
  rintro e w1 ⟨rfl, hb⟩
  go_wp2
  go_ret3
  exact ⟨rfl, hb⟩

/-- The library's two errors are there. -/
def Errs (w : World) : Prop := ∃ t1 p1 t2 p2, w.cell? ⟨2, 0, none⟩ = some (.iface t1 p1) ∧ w.cell? ⟨3, 0, none⟩ = some (.iface t2 p2)
theorem Errs.below {B : Nat} {w w' : World} (h : Errs w) (hb : Below B w w') (hB : 2 < B ∧ 3 < B) : Errs w' := by
  obtain ⟨t1, p1, t2, p2, h1, h2⟩ := h
  exact ⟨t1, p1, t2, p2, (hb.cell (p := ⟨2, 0, none⟩) hB.1).trans h1, (hb.cell (p := ⟨3, 0, none⟩) hB.2).trans h2⟩

theorem atoi_ok (t : ByteArray) (ht : t.size ≤ 1048576) (v : Int) (h : Lib.atoiAll t.data.toList = .ok v) (w : World) :
    Calls Tryd.prog 42 #[.string t] w fun e w' => e = .returned (.tuple #[.int .i64 v, .nilIface]) ∧ Below w.heap.size w w' :=
  (Tryd.strconv_Atoi_ok t (by omega) v h w).mono fun e w' ⟨he, hw⟩ => ⟨he, by
    rcases hw with rfl | ⟨x, rfl⟩
    · exact Below.refl _ _
    · exact Lib.bytesWorld_below _ _ _⟩
theorem atoi_bad (t : ByteArray) (ht : t.size ≤ 1048576) (h : ∀ v, Lib.atoiAll t.data.toList ≠ .ok v) (w : World) (hE : Errs w) :
    Calls Tryd.prog 42 #[.string t] w fun e w' => ∃ v N, e = .returned (.tuple #[.int .i64 v, .iface 70 (.pointer (some ⟨N, 0, none⟩))]) ∧ Below w.heap.size w w' := by
  obtain ⟨t1, p1, t2, p2, h1, h2⟩ := hE
  rcases hA : Lib.atoiAll t.data.toList with v | _ | _
  · exact absurd hA (h v)
  · exact (Any.strconv_Atoi_syntax Tryd.laysC172 t (by omega) hA _ w h1 (.inr ⟨_, _, rfl⟩)).mono fun e w' ⟨N, he, _, _, hb⟩ => ⟨_, N, he, hb⟩
  · exact (Tryd.strconv_Atoi_range t (by omega) hA _ w h2 (.inr ⟨_, _, rfl⟩)).mono fun e w' ⟨N, he, _, _, hb⟩ => ⟨_, N, he, hb⟩

theorem pnum_no {p : List UInt8} {v : Int} (h : Lib.atoiAll p = .ok v) (hv : v < 0 ∨ 63 < v) : pnum p = -1 := by
  by_cases h1 : pnum p = -1
  · exact h1
  · obtain ⟨n, hn, hp, _⟩ := pnum_some h1
    rw [hp, atoi_dig n hn] at h
    injection h with h
    omega
theorem pnum_bad {p : List UInt8} (h : ∀ v, Lib.atoiAll p ≠ .ok v) : pnum p = -1 := by
  by_cases h1 : pnum p = -1
  · exact h1
  · obtain ⟨n, hn, hp, _⟩ := pnum_some h1
    exact absurd (by rw [hp]; exact atoi_dig n hn) (h (n : Int))
theorem pnum_other {p : List UInt8} {m : Nat} (h : Lib.atoiAll p = .ok (m : Int)) (hne : dig m ≠ p) : pnum p = -1 := by
  by_cases h1 : pnum p = -1
  · exact h1
  · obtain ⟨n, hn, hp, _⟩ := pnum_some h1
    rw [hp, atoi_dig n hn] at h
    injection h with h
    exact absurd (by rw [hp]; congr 1; omega) hne

set_option maxHeartbeats 1000000 in
theorem number_any (t : ByteArray) (ht : t.size ≤ 1048576) (w : World) (hE : Errs w) :
    Calls Tryd.prog 38 #[.string t] w fun e w' => e = .returned (.int .i64 (pnum t.data.toList)) ∧ Below w.heap.size w w' := by
  by_cases hok : ∃ v, Lib.atoiAll t.data.toList = .ok v
  · obtain ⟨v, hv⟩ := hok
    have HA := Lib.hid (atoi_ok t ht v hv w)
    by_cases h0 : v < 0
    · rw [pnum_no hv (.inl h0)]
      clear hv hE
      go_enter Tryd.func38, Tryd.ntmps38
      go_wp2_with fail
      refine HA.out.mono ?_
      rintro e w1 ⟨rfl, hb⟩
      go_wp2
      go_ret
      exact ⟨rfl, hb⟩
    · by_cases h63 : 63 < v
      · rw [pnum_no hv (.inr h63)]
        clear hv hE
        go_enter Tryd.func38, Tryd.ntmps38
        go_wp2_with fail
        refine HA.out.mono ?_
        rintro e w1 ⟨rfl, hb⟩
        go_wp2
        go_ret
        exact ⟨rfl, hb⟩
      · obtain ⟨m, rfl⟩ : ∃ m : Nat, v = (m : Int) := ⟨v.toNat, by omega⟩
        have hm : m < 64 := by omega
        have HI := fun u : World => Lib.hid (Tryd.strconv_Itoa_small m (by omega) u)
        rw [← dig_dec m (by omega)] at HI
        have hd : decide ((63 : Int) < (m : Int)) = false := by simp; omega
        have hd0 : decide ((m : Int) < 0) = false := by simp
        by_cases he : dig m = t.data.toList
        · rw [← he, pnum_dig hm]
          have hq : (dig m == t.toList) = true := by rw [ByteArray.toList_eq, beq_iff_eq, he]
          have HQ := Lib.hid hq
          clear hv he h0 h63 hE hq
          go_enter Tryd.func38, Tryd.ntmps38
          go_wp2_with fail
          refine HA.out.mono ?_
          rintro e w1 ⟨rfl, hb⟩
          go_wp2_with fail
          refine (HI _).out.mono ?_
          rintro e w2 ⟨rfl, rfl⟩
          have hq := HQ.out
          go_wp2
          go_ret
          exact ⟨rfl, hb⟩
        · rw [pnum_other hv he]
          have hq : (dig m == t.toList) = false := by rw [ByteArray.toList_eq, beq_eq_false_iff_ne]; exact he
          have HQ := Lib.hid hq
          clear hv he h0 h63 hE hq
          go_enter Tryd.func38, Tryd.ntmps38
          go_wp2_with fail
          refine HA.out.mono ?_
          rintro e w1 ⟨rfl, hb⟩
          go_wp2_with fail
          refine (HI _).out.mono ?_
          rintro e w2 ⟨rfl, rfl⟩
          have hq := HQ.out
          go_wp2
          go_ret
          exact ⟨rfl, hb⟩
  · have hbad : ∀ v, Lib.atoiAll t.data.toList ≠ .ok v := fun v h => hok ⟨v, h⟩
    rw [pnum_bad hbad]
    have HA := Lib.hid (atoi_bad t ht hbad w hE)
    clear hbad hok hE
    go_enter Tryd.func38, Tryd.ntmps38
    go_wp2_with fail
    refine HA.out.mono ?_
    rintro e w1 ⟨v, N, rfl, hb⟩
    go_wp2
    go_ret
    exact ⟨rfl, hb⟩
end Go.Proofs.YthpkndiegnhnbaaDoor.bits
