/-
  The program's reading of a number in writing: strconv.Atoi, strconv.Itoa and strings.TrimPrefix by the library's contracts (typed over the code of 0aab59b). The library's two errors and its table of powers of ten must be there.
-/
import Derived.Test.YtlpdilkenbjajaaDoorShelf
import Derived.Test.YtlpdilkenbjajaaDoorQPlain
import Derived.Below
import Derived.WalkKit
import Derived.Deep.QuietTactic
import Derived.BigQuiet
import Derived.Lib.Hide
import Derived.Lib.LaidTab
import Derived.Lib.AppendIntMem
import Derived.WalkSmall
namespace Go.Proofs.YtlpdilkenbjajaaDoor.digi
open Go.RowKit Go.ChangeShapes
set_option linter.unusedVariables false

/-- The library's two errors are there. -/
def Errs (w : World) : Prop := ∃ t1 p1 t2 p2, w.cell? ⟨3, 0, none⟩ = some (.iface t1 p1) ∧ w.cell? ⟨4, 0, none⟩ = some (.iface t2 p2)
theorem Errs.below {B : Nat} {w w' : World} (h : Errs w) (hb : Below B w w') (hB : 3 < B ∧ 4 < B) : Errs w' := by
  obtain ⟨t1, p1, t2, p2, h1, h2⟩ := h
  exact ⟨t1, p1, t2, p2, (hb.cell (p := ⟨3, 0, none⟩) hB.1).trans h1, (hb.cell (p := ⟨4, 0, none⟩) hB.2).trans h2⟩
/-- The library's table of powers of ten lies where its initialiser lays it. -/
def Pows (w : World) : Prop := Lib.TabIs Tryd.prog w "internal/strconv.uint64pow10" .u64 Lib.pow10Tab
theorem gPows : Tryd.prog.globalNamed "internal/strconv.uint64pow10" = some 2 := by kernel_rfl

theorem atoi_ok (t : ByteArray) (ht : t.size ≤ 1048576) (v : Int) (h : Lib.atoiAll t.data.toList = .ok v) (w : World) :
    Calls Tryd.prog 29 #[.string t] w fun e w' => e = .returned (.tuple #[.int .i64 v, .nilIface]) ∧ Below w.heap.size w w' :=
  (Tryd.strconv_Atoi_ok t (by omega) v h w).mono fun e w' ⟨he, hw⟩ => ⟨he, by
    rcases hw with rfl | ⟨x, rfl⟩
    · exact Below.refl _ _
    · exact Lib.bytesWorld_below _ _ _⟩
theorem atoi_bad (t : ByteArray) (ht : t.size ≤ 1048576) (h : ∀ v, Lib.atoiAll t.data.toList ≠ .ok v) (w : World) (hE : Errs w) :
    Calls Tryd.prog 29 #[.string t] w fun e w' => ∃ v N, e = .returned (.tuple #[.int .i64 v, .iface 72 (.pointer (some ⟨N, 0, none⟩))]) ∧ Below w.heap.size w w' := by
  obtain ⟨t1, p1, t2, p2, h1, h2⟩ := hE
  rcases hA : Lib.atoiAll t.data.toList with v | _ | _
  · exact absurd hA (h v)
  · exact (Any.strconv_Atoi_syntax Tryd.laysC172 t (by omega) hA _ w h1 (.inr ⟨_, _, rfl⟩)).mono fun e w' ⟨N, he, _, _, hb⟩ => ⟨_, N, he, hb⟩
  · exact (Tryd.strconv_Atoi_range t (by omega) hA _ w h2 (.inr ⟨_, _, rfl⟩)).mono fun e w' ⟨N, he, _, _, hb⟩ => ⟨_, N, he, hb⟩
theorem itoa_all (n : Int) (hn : I64 n) (w : World) (hw : Pows w) : Calls Tryd.prog 30 #[.int .i64 n] w fun e w' => e = .returned (.string ⟨(Lib.itoa n).toArray⟩) ∧ Below w.heap.size w w' := by
  refine (Tryd.strconv_Itoa n hn.1 hn.2 w hw).mono ?_
  rintro e w' ⟨rfl, k, os, rfl⟩
  exact ⟨rfl, Lib.below_grow _ w (Nat.le_refl _) k os⟩

/-- What is asked of the world, below all that is made. -/
structure Okn (w : World) : Prop where
  errs : Errs w
  pows : Pows w
  ls : 3 < w.heap.size
  lr : 4 < w.heap.size
  lp : 2 < w.heap.size
theorem Okn.below {B : Nat} {w w' : World} (h : Okn w) (hb : Below B w w') (h1 : 3 < B) (h2 : 4 < B) (h3 : 2 < B) : Okn w' :=
  ⟨h.errs.below hb ⟨h1, h2⟩, var?_below hb gPows h3 h.pows, Nat.lt_of_lt_of_le h.ls hb.size, Nat.lt_of_lt_of_le h.lr hb.size, Nat.lt_of_lt_of_le h.lp hb.size⟩
theorem Okn.next {w w' : World} (h : Okn w) (hb : Below w.heap.size w w') : Okn w' := h.below hb h.ls h.lr h.lp

def ReadPost (t : List UInt8) (k : Nat) (w : World) (e : Ending) (w' : World) : Prop := e = .returned (.tuple #[.int .i64 ((readD t k).getD 0), .bool (readD t k).isSome]) ∧ Below w.heap.size w w'
set_option maxHeartbeats 1000000 in
theorem read_any (t : ByteArray) (ht : t.size ≤ 1048576) (k : Nat) (hk : k ≤ 1000) (w : World) (hw : Okn w) :
    Calls Tryd.prog 20 #[.string t, .int .i64 (k : Int)] w (ReadPost t.data.toList k w) := by
  unfold ReadPost
  by_cases hok : ∃ v, Lib.atoiAll t.data.toList = .ok v
  · obtain ⟨v, hv⟩ := hok
    have HA := Lib.hid (atoi_ok t ht v hv w)
    have HI := fun u hu => Lib.hid (itoa_all v (atoi_small hv) u hu)
    have HR : Hid (readD t.data.toList k = if Lib.itoa v = t.data.toList ∧ (Lib.trimPrefix t.data.toList [45]).length ≤ k then some v else none) := Lib.hid (by unfold readD; rw [hv])
    have HW := Lib.hid hw
    clear hv hw
    by_cases he : Lib.itoa v = t.data.toList
    · have hq : (Lib.itoa v == t.toList) = true := by rw [ByteArray.toList_eq, beq_iff_eq, he]
      have HT := fun u => Lib.hid (Tryd.strings_TrimPrefix t ⟨#[45]⟩ u)
      have hsz : ((ByteArray.mk (Lib.trimPrefix t.data.toList (ByteArray.mk #[45]).data.toList).toArray).size : Int) = ((Lib.trimPrefix t.data.toList [45]).length : Nat) := rfl
      have HZ := Lib.hid hsz
      have HQ := Lib.hid hq
      clear hq hsz
      by_cases hl : (Lib.trimPrefix t.data.toList [45]).length ≤ k
      · rw [HR.out, if_pos ⟨he, hl⟩]
        have hd : decide (k < (Lib.trimPrefix t.data.toList [45]).length) = false := decide_eq_false (by omega)
        have HD := Lib.hid hd
        clear HR he hl hd
        go_enter Tryd.func20, Tryd.ntmps20
        go_wp2_with fail
        refine HA.out.mono ?_
        rintro e w1 ⟨rfl, hb⟩
        have HB := Lib.hid hb
        clear hb
        go_wp2_with fail
        refine (HI _ (HW.out.next HB.out).pows).out.mono ?_
        rintro e w2 ⟨rfl, hb2⟩
        have HB2 := Lib.hid (HB.out.trans (hb2.mono HB.out.size))
        have hq := HQ.out
        clear hb2
        go_wp2_with fail
        refine (HT _).out.mono ?_
        rintro e w3 ⟨rfl, rfl⟩
        have hz := HZ.out
        have hd := HD.out
        go_wp2
        go_ret2
        exact ⟨rfl, HB2.out⟩
      · rw [HR.out, if_neg (fun h => hl h.2)]
        have hd : decide (k < (Lib.trimPrefix t.data.toList [45]).length) = true := decide_eq_true (by omega)
        have HD := Lib.hid hd
        clear HR he hl hd
        go_enter Tryd.func20, Tryd.ntmps20
        go_wp2_with fail
        refine HA.out.mono ?_
        rintro e w1 ⟨rfl, hb⟩
        have HB := Lib.hid hb
        clear hb
        go_wp2_with fail
        refine (HI _ (HW.out.next HB.out).pows).out.mono ?_
        rintro e w2 ⟨rfl, hb2⟩
        have HB2 := Lib.hid (HB.out.trans (hb2.mono HB.out.size))
        have hq := HQ.out
        clear hb2
        go_wp2_with fail
        refine (HT _).out.mono ?_
        rintro e w3 ⟨rfl, rfl⟩
        have hz := HZ.out
        have hd := HD.out
        go_wp2
        go_ret2
        exact ⟨rfl, HB2.out⟩
    · rw [HR.out, if_neg (fun h => he h.1)]
      have hq : (Lib.itoa v == t.toList) = false := by rw [ByteArray.toList_eq, beq_eq_false_iff_ne]; exact he
      have HQ := Lib.hid hq
      clear HR he hq
      go_enter Tryd.func20, Tryd.ntmps20
      go_wp2_with fail
      refine HA.out.mono ?_
      rintro e w1 ⟨rfl, hb⟩
      have HB := Lib.hid hb
      clear hb
      go_wp2_with fail
      refine (HI _ (HW.out.next HB.out).pows).out.mono ?_
      rintro e w2 ⟨rfl, hb2⟩
      have HB2 := Lib.hid (HB.out.trans (hb2.mono HB.out.size))
      have hq := HQ.out
      clear hb2
      go_wp2
      go_ret2
      exact ⟨rfl, HB2.out⟩
  · have hbad : ∀ v, Lib.atoiAll t.data.toList ≠ .ok v := fun v h => hok ⟨v, h⟩
    have HR : readD t.data.toList k = none := by
      unfold readD
      split
      · rename_i v hv
        exact absurd hv (hbad v)
      · rfl
    rw [HR]
    have HA := Lib.hid (atoi_bad t ht hbad w hw.errs)
    clear hbad hok hw HR
    go_enter Tryd.func20, Tryd.ntmps20
    go_wp2_with fail
    refine HA.out.mono ?_
    rintro e w1 ⟨v, N, rfl, hb⟩
    go_wp2
    go_ret2
    exact ⟨rfl, hb⟩
end Go.Proofs.YtlpdilkenbjajaaDoor.digi
