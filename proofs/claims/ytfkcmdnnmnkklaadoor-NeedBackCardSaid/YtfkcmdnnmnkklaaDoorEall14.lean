/-
  Texts of one claim in one file: ERefGet, EPost, EGetIn, BFirst, BOnes, BCount, BRef, ERefObjs, EObjs. Each has its own sentence, with its conditions.
-/
import Derived.Test.YtfkcmdnnmnkklaaDoorEall13
import Derived.Test.YtfkcmdnnmnkklaaDoorEall11
import Derived.Test.YtfkcmdnnmnkklaaDoorEall10
import Derived.Test.YtfkcmdnnmnkklaaDoorEall12
import Derived.Test.YtfkcmdnnmnkklaaDoorEall8
import Derived.Below
import Derived.Deep.DeepCutAuto
import Derived.Deep.CutBlock
import Derived.LoopTactic
import Derived.IntWalk
import Derived.Test.YtfkcmdnnmnkklaaDoorEall4
/-
  The document's own answer of the wait with which bytes begin. A text of at most two to the forty-seventh bytes.
-/
namespace Go.Proofs.YtfkcmdnnmnkklaaDoor.need
open Go.RowKit Go.ChangeShapes
open Go.Proofs.YtfkcmdnnmnkklaaDoor.octet (St rdByte rdNum Stands)
open Go.Proofs.YtfkcmdnnmnkklaaDoor.objs (De zero DAt cells3 below_drewN)
set_option linter.unusedVariables false

theorem size_list (y : ByteArray) : y.size = y.data.toList.length := by rw [Array.length_toList]; rfl
/-- What a reading of bytes tells. -/
def GotPost9 (g : List (List De) × Nat × Nat) (w : World) (e : Ending) (w' : World) : Prop :=
  ∃ v, e = .returned (.tuple #[v, .int .i64 (g.2.1 : Int), .int .i64 (g.2.2 : Int)]) ∧ (∃ A cap, v = .slice A g.1.length cap ∧ WAt w' A g.1) ∧ Below w.heap.size w w'
theorem got_read (d : List De) (l : List UInt8) : getW d l = if (readW d ⟨l, 0⟩).2.2 ≠ 0 then ([], 0, (readW d ⟨l, 0⟩).2.2) else ((readW d ⟨l, 0⟩).1, l.length - (readW d ⟨l, 0⟩).2.1.rest.length, 0) := rfl

set_option maxRecDepth 100000 in
set_option maxHeartbeats 2000000 in
theorem refGet9_any (w : World) (A : Option Addr) (capd : Nat) (d : List De) (hdl : d.length ≤ 9223372036854775807) (hA : DAt w A d) (t : ByteArray) (ht : t.size ≤ 140737488355328) :
    Calls Tryd.prog 18 #[.slice A d.length capd, .string t] w (GotPost9 (getW d t.data.toList) w) := by
  have hst : Stands t 0 0 ⟨t.data.toList, 0⟩ := ⟨Nat.zero_le _, rfl, rfl, fun h => absurd rfl h⟩
  have HR := Lib.hid (refRead9_any w A capd d hdl hA t 0 0 ⟨t.data.toList, 0⟩ ht hst)
  unfold ReadPost9 at HR
  have HG := Lib.hid (got_read d t.data.toList)
  clear hst hA
  obtain ⟨g, hg⟩ : ∃ g, g = getW d t.data.toList := ⟨_, rfl⟩
  have HGg := Lib.hid hg
  rw [← hg]
  clear hg
  generalize readW d ⟨t.data.toList, 0⟩ = r at *
  obtain ⟨ls, S, e⟩ := r
  dsimp only at HG HR
  unfold GotPost9
  go_enter Tryd.func18, Tryd.ntmps18
  go_wp2_with fail
  refine HR.out.mono ?_
  rintro e1 w1 ⟨v, k, rfl, hS, ⟨Av, cv, rfl, hwa⟩, hb⟩
  have HS := Lib.hid hS
  have HB := Lib.hid hb
  have HO := Lib.hid hwa
  clear hS hb hwa
  have hbL : Below w1.heap.size w1 (w1.alloc (.cells #[.string t, .int .i64 (k : Int), .int .i64 (S.err : Int)] 78)) := (Below.refl _ _).alloc (Nat.le_refl _) _
  have hR4 : (w1.alloc (.cells #[.string t, .int .i64 (k : Int), .int .i64 (S.err : Int)] 78)).heap[w1.heap.size]? = some (.cells #[.string t, .int .i64 (k : Int), .int .i64 (S.err : Int)] 78 (0, 0)) := heap_alloc_new w1 _
  have HO2 := Lib.hid (HO.out.next hbL)
  have HB2 := Lib.hid (HB.out.trans (hbL.mono HB.out.size))
  obtain ⟨z0, z1, z2, _, _, _⟩ := cells3 hR4
  clear hbL hR4 HO HB HR
  go_upto_region 2 with fail
  generalize w1.alloc (.cells #[.string t, .int .i64 (k : Int), .int .i64 (S.err : Int)] 78) = W2 at *
  generalize w1.heap.size = b at *
  by_cases he : e = 0
  · have HE : Hid (g = (ls, k, 0)) := Lib.hid (by
      rw [HGg.out, HG.out, if_neg (by simp [he])]
      have h1 := HS.out.1
      have h2 := HS.out.2.1
      rw [h2, List.length_drop, ← size_list]
      congr 2
      omega)
    have he' : ((e : Int) != 0) = false := by simp [he]
    clear he HG
    go_wp2_with fail
    go_quiet (fail)
    go_wp2
    rw [HE.out]
    refine bodyPost_ret (v := .tuple #[.slice Av ls.length cv, .int .i64 (k : Int), .int .i64 0]) (by simp [results, Tryd.results18, go_sem]) rfl ⟨_, rfl, ⟨Av, cv, rfl, HO2.out.drewN _⟩, below_drewN HB2.out _⟩
  · have HE : Hid (g = ([], 0, e)) := Lib.hid (by rw [HGg.out, HG.out, if_pos he])
    have he' : ((e : Int) != 0) = true := by simpa using he
    clear he HG
    go_wp2_with fail
    rw [HE.out]
    exact bodyPost_ret (v := .tuple #[.slice none 0 0, .int .i64 0, .int .i64 (e : Int)]) (by simp [results, Tryd.results18, go_sem]) rfl ⟨_, rfl, ⟨none, 0, rfl, WAt.nil _ _⟩, HB2.out⟩
end Go.Proofs.YtfkcmdnnmnkklaaDoor.need

/-
  What the program's bytes of a wait must come to. No condition.
-/
namespace Go.Proofs.YtfkcmdnnmnkklaaDoor.need
open Go.RowKit Go.ChangeShapes
open Go.Proofs.YtfkcmdnnmnkklaaDoor.objs (De zero DAt chk I64)
set_option linter.unusedVariables false

/-- The bytes that Put answers. -/
def putW (d : List De) (l : List (List De)) : List UInt8 := if chkW d l = 0 then encW l else []
def PutPost9 (d : List De) (l : List (List De)) (w : World) (e : Ending) (w' : World) : Prop := e = .returned (.tuple #[.string ⟨(putW d l).toArray⟩, .int .i64 (chkW d l : Nat)]) ∧ Below w.heap.size w w'
end Go.Proofs.YtfkcmdnnmnkklaaDoor.need

/-
  The wait with which bytes begin, as the program tells it (typed over the code of 5ef5b61). The tables must lie where their initialisers lay them; texts of at most two to the forty-seventh bytes.
-/
namespace Go.Proofs.YtfkcmdnnmnkklaaDoor.need
open Go.RowKit Go.ChangeShapes
open Go.Proofs.YtfkcmdnnmnkklaaDoor.octet (St InAt Frm left_any open_any)
open Go.Proofs.YtfkcmdnnmnkklaaDoor.objs (De zero DAt chk chk_zero I64)
set_option linter.unusedVariables false

theorem put_any (A B : Option Addr) (capd cap : Nat) (d : List De) (l : List (List De)) (hd : (chk d).2 = 0) (w : World) (hA : DAt w A d) (hB : WAt w B l) (hw : Oka w) :
    Calls Tryd.prog 13 #[.slice A d.length capd, .slice B l.length cap] w (PutPost9 d l w) := by
  unfold PutPost9 putW
  by_cases hz : chkW d l = 0
  · rw [if_pos hz, hz]
    exact put_good A B capd cap d l hd hz w hA hB hw
  · rw [if_neg hz]
    exact put_bad A B capd cap d l (by have := (chk_zero hd).1; omega) hz w hA hB hw

/-- What a reading of bytes tells, in rows of the call's own. -/
def GotOwn9 (g : List (List De) × Nat × Nat) (w : World) (e : Ending) (w' : World) : Prop :=
  ∃ v, e = .returned (.tuple #[v, .int .i64 (g.2.1 : Int), .int .i64 (g.2.2 : Int)]) ∧ OwnW w' w.heap.size v g.1 ∧ Below w.heap.size w w'
theorem get_ret {w W : World} {n cap : Nat} {A : Option Addr} {act : Act} {g : List (List De) × Nat × Nat} (h2 : act.tmps[4]?.getD undef = .slice A n cap) (h3 : act.tmps[5]?.getD undef = .int .i64 (g.2.1 : Int)) (h4 : act.tmps[6]?.getD undef = .int .i64 (g.2.2 : Int)) (hd : act.defers = [])
    (hA : OwnW W w.heap.size (.slice A n cap) g.1) (hb : Below w.heap.size w W) : bodyPost Tryd.prog Tryd.f17 (GotOwn9 g w) .ret act W := by
  refine bodyPost_ret (v := .tuple #[.slice A n cap, .int .i64 (g.2.1 : Int), .int .i64 (g.2.2 : Int)]) ?_ hd ⟨_, rfl, hA, hb⟩
  simp [results, Tryd.results17, go_sem, h2, h3, h4]

set_option maxRecDepth 100000 in
set_option maxHeartbeats 4000000 in
theorem get_own (A : Option Addr) (capd : Nat) (d : List De) (hd : (chk d).2 = 0) (t : ByteArray) (w : World) (ht : t.size ≤ 140737488355328) (hA : DAt w A d) (hw : Oka w) :
    Calls Tryd.prog 17 #[.slice A d.length capd, .string t] w (GotOwn9 (getW d t.data.toList) w) := by
  have HG := Lib.hid (getW_prog hd t.data.toList)
  have HOp := Lib.hid (open_any w t)
  have HAll := fun W hi => Lib.hid (getWays_any W w.heap.size ⟨t.data.toList, 0⟩ hi (fun h => absurd rfl h) (by rw [← size_list]; exact ht))
  have HLe : Hid ((allW ⟨t.data.toList, 0⟩).2.1.rest.length ≤ t.size) := Lib.hid (by rw [size_list]; exact allW_left ⟨t.data.toList, 0⟩)
  have hd64 : d.length ≤ 64 := by have := (chk_zero hd).1; omega
  have HD := Lib.hid hd64
  unfold WaysPost at HAll
  obtain ⟨g, hg⟩ : ∃ g, g = getW d t.data.toList := ⟨_, rfl⟩
  rw [← hg] at HG ⊢
  clear hg hd hd64
  generalize allW ⟨t.data.toList, 0⟩ = r at *
  obtain ⟨ls, S, e⟩ := r
  dsimp only at HG HAll HLe
  generalize ls.map (·.map cutN) = lc at *
  have HW := Lib.hid hw
  have HT := Lib.hid ht
  have HA := Lib.hid hA
  clear hw ht hA
  go_enter Tryd.func17, Tryd.ntmps17
  go_wp2_with fail
  refine HOp.out.mono ?_
  rintro e1 w1 ⟨rfl, hi1, hb1, hs1⟩
  have HA1 := HAll w1 hi1
  have HB1 := Lib.hid hb1
  have HS1 := Lib.hid hs1
  clear hi1 hb1 hs1 HAll HOp
  go_wp2_with fail
  refine HA1.out.mono ?_
  rintro e2 w2 ⟨v, rfl, hv, hi2, hf2⟩
  have hB2 : Below w.heap.size w w2 := HB1.out.trans (hf2.below (Nat.le_refl _) (by have := HS1.out; omega))
  have HK2 := Lib.hid (HW.out.next hB2)
  have HB2 := Lib.hid hB2
  obtain ⟨B, cap, rfl⟩ := hv.slice
  have HV2 := Lib.hid (hv.base (HB1.out.size))
  have HI2 := Lib.hid hi2
  clear hv hi2 hf2 hB2 HB1 HS1 HA1
  by_cases he : e = 0
  · have he' : ((e : Int) == 0) = true := by simp [he]
    have HE0 := Lib.hid he
    have HC := Lib.hid (check_any A B capd cap d lc HD.out w2 (HA.out.next HB2.out) HV2.out.at HK2.out)
    unfold ChkPost9 at HC
    clear he
    generalize chkW d lc = c at *
    go_wp2_with fail
    refine HC.out.mono ?_
    rintro e3 w3 ⟨rfl, hb3⟩
    have HV3 := Lib.hid (HV2.out.next hb3)
    have HI3 := Lib.hid (HI2.out.kept (hb3.block _ HI2.out.lt))
    have HB3 := Lib.hid (HB2.out.trans (hb3.mono HB2.out.size))
    clear hb3 HV2 HI2 HB2 HC HK2
    by_cases hc : c = 0
    · have HR : Hid (g = (lc, t.data.toList.length - S.rest.length, 0)) := Lib.hid (by rw [HG.out, if_neg (by simp [HE0.out]), if_neg (by simp [hc])])
      have hc' : ((c : Int) != 0) = false := by simp [hc]
      have HLq := Lib.hid (left_any w3 w.heap.size S HI3.out)
      have HWr : Hid ((t.data.toList.length - S.rest.length : Nat) = wrap64 ((t.size : Int) - (S.rest.length : Int))) := Lib.hid (by
        have h1 := HLe.out
        have h2 := HT.out
        rw [← size_list, IntWalk.wrap64_in _ (by omega)]
        omega)
      clear hc HG
      go_wp2_with fail
      refine HLq.out.mono ?_
      rintro e4 w4 ⟨rfl, rfl⟩
      go_wp2_with fail
      exact get_ret (by rfl) (by rw [HR.out, HWr.out]; rfl) (by rw [HR.out]; rfl) rfl (by rw [HR.out]; exact HV3.out) HB3.out
    · have HR : Hid (g = ([], 0, c)) := Lib.hid (by rw [HG.out, if_neg (by simp [HE0.out]), if_pos hc])
      have hc' : ((c : Int) != 0) = true := by simpa using hc
      clear hc HG
      go_wp2_with fail
      exact get_ret (by rfl) (by rw [HR.out]; rfl) (by rw [HR.out]; rfl) rfl (by rw [HR.out]; exact OwnW.nil _ _) HB3.out
  · have HR : Hid (g = ([], 0, e)) := Lib.hid (by rw [HG.out, if_pos he])
    have he' : ((e : Int) != 0) = true := by simpa using he
    have he2 : ((e : Int) == 0) = false := by simpa using he
    clear he HG
    go_wp2_with fail
    exact get_ret (by rfl) (by rw [HR.out]; rfl) (by rw [HR.out]; rfl) rfl (by rw [HR.out]; exact OwnW.nil _ _) HB2.out
theorem get_any (A : Option Addr) (capd : Nat) (d : List De) (hd : (chk d).2 = 0) (t : ByteArray) (w : World) (ht : t.size ≤ 140737488355328) (hA : DAt w A d) (hw : Oka w) :
    Calls Tryd.prog 17 #[.slice A d.length capd, .string t] w (GotPost9 (getW d t.data.toList) w) :=
  (get_own A capd d hd t w ht hA hw).mono fun e w' ⟨v, h1, h2, h3⟩ => by
    obtain ⟨B, cb, rfl⟩ := h2.slice
    exact ⟨_, h1, ⟨B, cb, rfl, h2.at⟩, h3⟩
end Go.Proofs.YtfkcmdnnmnkklaaDoor.need

/-
  The program's calls on a set that look for its numbers: the least, the next above one, the one with so many below it; each reads the table of math/bits, which must lie where its initialiser lays it. And how many there are, and all moved.
-/
namespace Go.Proofs.YtfkcmdnnmnkklaaDoor.bits
open Go.RowKit Go.ChangeShapes

/-- The table of math/bits lies where its initialiser lays it. -/
def Tab (w : World) : Prop := ∀ j, j < 64 → w.cell? ⟨7, j, none⟩ = some (.int .u8 ((Lib.deBruijn64tab.getD j 0 : Nat) : Int))
theorem Tab.below {B : Nat} {w w' : World} (h : Tab w) (hb : Below B w w') (hB : 7 < B) : Tab w' := fun j hj => (hb.cell (p := ⟨7, j, none⟩) hB).trans (h j hj)
theorem Tab.cell {w w' : World} (h : Tab w) (hc : ∀ p, w'.cell? p = w.cell? p) : Tab w' := fun j hj => (hc _).trans (h j hj)

theorem tz_key (x a : Nat) (hx : x < 18446744073709551616) (hx0 : x ≠ 0) (hlow : x &&& (18446744073709551616 - x) = a) :
    IntKind.u64.wrap (bits BinOp.and IntKind.u64 (x : Int) (IntKind.u64.wrap (-(x : Int))) * 285870213051353865) / 288230376151711744 = ((a * 285870213051353865 % 18446744073709551616 / 288230376151711744 : Nat) : Int) := by
  have e1 : IntKind.u64.wrap (-(x : Int)) = ((18446744073709551616 - x : Nat) : Int) := by rw [IntKind.wrap_u64]; omega
  rw [e1, bits_and_u64_nat x _ hx (by omega), hlow, IntKind.wrap_u64]
  omega

set_option maxHeartbeats 1000000 in
theorem tz_core (x k idx : Nat) (w : World) (hx0 : ((x : Int) == 0) = false)
    (key : IntKind.u64.wrap (bits BinOp.and IntKind.u64 (x : Int) (IntKind.u64.wrap (-(x : Int))) * 285870213051353865) / 288230376151711744 = (idx : Int))
    (hi : idx < 64) (hk : k < 64) (hcell : w.cell? ⟨7, idx, none⟩ = some (.int .u8 (k : Int))) :
    Calls Tryd.prog 140 #[.int .u64 (x : Int)] w fun e w' => e = .returned (.int .i64 (k : Int)) ∧ w = w' := by
  go_enter Tryd.func140, Tryd.ntmps140
  go_wp2_with (simp only [key])
  go_ret
  exact ⟨rfl, rfl⟩

/-- The least of a set that has some. -/
theorem tz_any (s : Nat) (hs : Is64 s) (h0 : s ≠ 0) (w : World) (hT : Tab w) :
    Calls Tryd.prog 140 #[.int .u64 (s : Int)] w fun e w' => e = .returned (.int .i64 (atI (els s) 0)) ∧ w = w' := by
  rw [← first_eq hs h0]
  obtain ⟨hlow, hk⟩ := Lib.lowest_bit 64 s h0 hs
  obtain ⟨hi, htab⟩ := Lib.deBruijn64_at _ hk
  have hcell := hT _ hi
  rw [htab] at hcell
  exact tz_core s _ _ w (by simp; omega) (tz_key s _ hs h0 hlow) hi hk hcell

end Go.Proofs.YtfkcmdnnmnkklaaDoor.bits

/-
  How many numbers a set has, as math/bits counts them. The first part speaks of numbers alone; then the program's call. No condition.
-/
namespace Go.Proofs.YtfkcmdnnmnkklaaDoor.bits
open Go.RowKit Go.ChangeShapes

theorem two_sum {a b : Nat} (h : a + b < 18446744073709551616) : IntKind.u64.wrap ((a : Int) + (b : Int)) = ((a + b : Nat) : Int) := by
  rw [IntKind.wrap_u64]
  omega
theorem cast_div (a b : Nat) : ((a : Int) / (b : Int)) = ((a / b : Nat) : Int) := rfl
theorem mk85 : mk 85 8 = 6148914691236517205 := by decide +kernel
theorem mk51 : mk 51 8 = 3689348814741910323 := by decide +kernel
theorem mk15 : mk 15 8 = 1085102592571150095 := by decide +kernel

theorem and_cast {a : Nat} (ha : Is64 a) (m : Nat) (hm : Is64 m) (v : Int) (hv : v = (m : Int)) : bits .and .u64 (a : Int) v = ((a &&& m : Nat) : Int) := by
  rw [hv]
  exact and_u64 ha hm
theorem ones1 {s : Nat} (hs : Is64 s) : IntKind.u64.wrap (bits .and .u64 ((s : Int) / 2) 6148914691236517205 + bits .and .u64 (s : Int) 6148914691236517205) = ((bm f1 8 s : Nat) : Int) ∧ bm f1 8 s ≤ 12297829382473034410 := by
  have h := step1 8 s
  rw [mk85] at h
  have b1 : s / 2 &&& 6148914691236517205 ≤ 6148914691236517205 := Nat.and_le_right
  have b2 : s &&& 6148914691236517205 ≤ 6148914691236517205 := Nat.and_le_right
  have e0 : ((s : Int) / 2) = ((s / 2 : Nat) : Int) := rfl
  have e1 := and_cast (a := s / 2) (by unfold Is64 at *; omega) 6148914691236517205 (by unfold Is64; omega) 6148914691236517205 rfl
  have e2 := and_cast (a := s) (by unfold Is64 at *; omega) 6148914691236517205 (by unfold Is64; omega) 6148914691236517205 rfl
  generalize (s / 2 &&& 6148914691236517205) = p at *
  generalize (s &&& 6148914691236517205) = q at *
  rw [e0, e1, e2, two_sum (by omega), h]
  exact ⟨rfl, by rw [← h]; omega⟩
theorem ones2 {s : Nat} (hs : s ≤ 12297829382473034410) : IntKind.u64.wrap (bits .and .u64 ((s : Int) / 4) 3689348814741910323 + bits .and .u64 (s : Int) 3689348814741910323) = ((bm f2 8 s : Nat) : Int) ∧ bm f2 8 s ≤ 7378697629483820646 := by
  have h := step2 8 s
  rw [mk51] at h
  have b1 : s / 4 &&& 3689348814741910323 ≤ 3689348814741910323 := Nat.and_le_right
  have b2 : s &&& 3689348814741910323 ≤ 3689348814741910323 := Nat.and_le_right
  have e0 : ((s : Int) / 4) = ((s / 4 : Nat) : Int) := rfl
  have e1 := and_cast (a := s / 4) (by unfold Is64 at *; omega) 3689348814741910323 (by unfold Is64; omega) 3689348814741910323 rfl
  have e2 := and_cast (a := s) (by unfold Is64 at *; omega) 3689348814741910323 (by unfold Is64; omega) 3689348814741910323 rfl
  generalize (s / 4 &&& 3689348814741910323) = p at *
  generalize (s &&& 3689348814741910323) = q at *
  rw [e0, e1, e2, two_sum (by omega), h]
  exact ⟨rfl, by rw [← h]; omega⟩
theorem ones3 (s : Nat) (hs : bm f2 8 (bm f1 8 s) ≤ 7378697629483820646) : bits .and .u64 (IntKind.u64.wrap (((bm f2 8 (bm f1 8 s) : Nat) : Int) / 16 + ((bm f2 8 (bm f1 8 s) : Nat) : Int))) 1085102592571150095 = ((bm (pc 8) 8 s : Nat) : Int) := by
  have h : (bm f2 8 (bm f1 8 s) / 16 + bm f2 8 (bm f1 8 s)) &&& mk 15 8 = bm (pc 8) 8 s := by
    rw [bm_bm f1_lt]
    have h3 := step3 (g := fun b => f2 (f1 b)) (fun b hb => f2f1 b hb) 8 s
    rw [h3]
    exact bm_congr (fun b hb => f321 b hb) 8 s
  rw [mk15] at h
  generalize bm f2 8 (bm f1 8 s) = x at *
  generalize bm (pc 8) 8 s = y at *
  have e0 : ((x : Int) / 16) = ((x / 16 : Nat) : Int) := rfl
  have hx : Is64 (x / 16 + x) := by clear h; unfold Is64; omega
  have e1 := and_cast hx 1085102592571150095 (by clear h; unfold Is64; omega) 1085102592571150095 rfl
  rw [h] at e1
  clear h
  rw [e0, two_sum (by omega), e1]
theorem div_256 {v L C : Nat} (h : v = L + 256 * C) (hl : L < 256) : v / 256 = C := by omega
theorem div_16 {v L C : Nat} (h : v = L + 65536 * C) (hl : L < 65536) : v / 65536 = C := by omega
theorem div_32 {v L C : Nat} (h : v = L + 4294967296 * C) (hl : L < 4294967296) : v / 4294967296 = C := by omega
theorem low_7 {z L K : Nat} (h : z = L + 256 * K) (hl : L < 128) : z % 128 = L := by omega
theorem wrap_div {v d q : Nat} (h : v / d = q) (hb : v + q < 18446744073709551616) : IntKind.u64.wrap ((v : Int) + (v : Int) / (d : Int)) = ((v + q : Nat) : Int) := by
  rw [cast_div, h, two_sum hb]
theorem sum_x {x v B C D a b c : Nat} (hx : x = v + B) (hy : v = a + 256 * B) (hB : B = b + 256 * C) (hC : C = c + 256 * D) : x = (a + b + 256 * (b + c)) + 65536 * (C + D) := by omega
theorem sum_y {x y C D E F G a b c d e f g h : Nat} (hy2 : y = x + (C + D)) (x1 : x = (a + b + 256 * (b + c)) + 65536 * (C + D)) (hC : C = c + 256 * D) (hD : D = d + 256 * E) (hE : E = e + 256 * F) (hF : F = f + 256 * G) (hG : G = g + 256 * h) :
    y = (a + b + c + d + 256 * (b + c + d + e) + 65536 * (c + d + e + f + 256 * (d + e + f + g))) + 4294967296 * (E + F + G + h) := by omega
theorem sum_z {y z E F G a b c d e f g h : Nat} (hz : z = y + (E + F + G + h)) (y1 : y = (a + b + c + d + 256 * (b + c + d + e) + 65536 * (c + d + e + f + 256 * (d + e + f + g))) + 4294967296 * (E + F + G + h)) (hE : E = e + 256 * F) (hF : F = f + 256 * G) (hG : G = g + 256 * h) :
    z = (a + b + c + d + e + f + g + h) + 256 * ((b + c + d + e) + 256 * (c + d + e + f + 256 * (d + e + f + g)) + 16777216 * (E + F + G + h) + (F + G + h)) := by omega
theorem ones4 (s : Nat) : ∃ x y z : Nat, IntKind.u64.wrap (((bm (pc 8) 8 s : Nat) : Int) + ((bm (pc 8) 8 s : Nat) : Int) / 256) = (x : Int) ∧ IntKind.u64.wrap ((x : Int) + (x : Int) / 65536) = (y : Int) ∧ IntKind.u64.wrap ((y : Int) + (y : Int) / 4294967296) = (z : Int) ∧
    z < 9223372036854775808 ∧ z % 128 = (els s).length := by
  obtain ⟨a, b, c, d, e, f, g, h, ⟨ha, hb, hc, hd, he, hf, hg, hh⟩, hy, hp⟩ := sum8 s
  rw [pc_els, hp]
  clear hp
  generalize bm (pc 8) 8 s = v at *
  obtain ⟨G, hG⟩ : ∃ G, G = g + 256 * h := ⟨_, rfl⟩
  obtain ⟨F, hF⟩ : ∃ F, F = f + 256 * G := ⟨_, rfl⟩
  obtain ⟨E, hE⟩ : ∃ E, E = e + 256 * F := ⟨_, rfl⟩
  obtain ⟨D, hD⟩ : ∃ D, D = d + 256 * E := ⟨_, rfl⟩
  obtain ⟨C, hC⟩ : ∃ C, C = c + 256 * D := ⟨_, rfl⟩
  obtain ⟨B, hB⟩ : ∃ B, B = b + 256 * C := ⟨_, rfl⟩
  rw [← hG, ← hF, ← hE, ← hD, ← hC, ← hB] at hy
  have bG : G ≤ 2056 := by omega
  have bF : F ≤ 526344 := by omega
  have bE : E ≤ 134744072 := by omega
  have bD : D ≤ 34494482440 := by omega
  have bC : C ≤ 8830587504648 := by omega
  have bB : B ≤ 2260630401189896 := by omega
  have d1 : v / 256 = B := div_256 hy (by omega)
  obtain ⟨x, hx⟩ : ∃ x, x = v + B := ⟨_, rfl⟩
  have x1 := sum_x hx hy hB hC
  have bx : x ≤ 600000000000000000 := by clear x1 hB hC hD hE hF hG d1; omega
  have d2 : x / 65536 = C + D := div_16 x1 (by clear x1 hB hC hD hE hF hG d1 hx hy; omega)
  obtain ⟨y, hy2⟩ : ∃ y, y = x + (C + D) := ⟨_, rfl⟩
  have y1 := sum_y hy2 x1 hC hD hE hF hG
  have by2 : y ≤ 600010000000000000 := by clear x1 y1 hB hC hD hE hF hG d1 d2 hx hy; omega
  have d3 : y / 4294967296 = E + F + G + h := div_32 y1 (by clear x1 y1 hB hC hD hE hF hG d1 d2 hx hy hy2; omega)
  obtain ⟨z, hz⟩ : ∃ z, z = y + (E + F + G + h) := ⟨_, rfl⟩
  have z1 := sum_z hz y1 hE hF hG
  clear x1 y1 hB hC hD hE hF hG
  refine ⟨x, y, z, ?_, ?_, ?_, ?_, low_7 z1 ?_⟩
  · rw [hx]
    exact wrap_div d1 (by clear d1 d2 d3 z1 hz hy2; omega)
  · rw [hy2]
    exact wrap_div d2 (by clear d1 d2 d3 z1 hz hx hy; omega)
  · rw [hz]
    exact wrap_div d3 (by clear d1 d2 d3 z1 hx hy hy2; omega)
  · clear d1 d2 d3 z1 hx hy hy2
    omega
  · clear d1 d2 d3 z1 hx hy hy2 hz
    omega

end Go.Proofs.YtfkcmdnnmnkklaaDoor.bits

/-
  How many numbers a set has, as math/bits counts them. The program's call. No condition.
-/
namespace Go.Proofs.YtfkcmdnnmnkklaaDoor.bits
open Go.RowKit Go.ChangeShapes

theorem i64_mask (n : Int) (k : Nat) (hk : k < 62) (m : Int) (hm : m = ((2 ^ k - 1 : Nat) : Int)) : bits .and .i64 n m = n % ((2 ^ k : Nat) : Int) := by
  have hp : 2 ^ k ≤ 2 ^ 61 := Nat.pow_le_pow_right (by omega) (by omega)
  have h0 : 0 < 2 ^ k := Nat.two_pow_pos k
  have p61 : (2 : Nat) ^ 61 = 2305843009213693952 := rfl
  have hd : (2 ^ k : Nat) ∣ 2 ^ 64 := Nat.pow_dvd_pow 2 (by omega)
  rw [hm]
  show IntKind.i64.wrap ((BitVec.ofInt 64 n &&& BitVec.ofInt 64 ((2 ^ k - 1 : Nat) : Int)).toNat : Int) = _
  have e2 : (BitVec.ofInt 64 ((2 ^ k - 1 : Nat) : Int)).toNat = 2 ^ k - 1 := by
    rw [BitVec.ofInt_natCast, BitVec.toNat_ofNat]
    exact Nat.mod_eq_of_lt (by omega)
  have hl : (n % 18446744073709551616).toNat % 2 ^ k < 2 ^ k := Nat.mod_lt _ h0
  rw [BitVec.toNat_and, e2, BitVec.toNat_ofInt, Nat.and_two_pow_sub_one_eq_mod]
  have e3 : (((n % ((2 ^ 64 : Nat) : Int)).toNat % 2 ^ k : Nat) : Int) = n % ((2 ^ k : Nat) : Int) := by
    rw [Int.natCast_emod, Int.toNat_of_nonneg (Int.emod_nonneg _ (by decide)), Int.emod_emod_of_dvd n (Int.natCast_dvd_natCast.2 hd)]
  rw [e3, IntKind.wrap_i64]
  have h1 : 0 ≤ n % ((2 ^ k : Nat) : Int) := Int.emod_nonneg _ (by omega)
  have h2 : n % ((2 ^ k : Nat) : Int) < ((2 ^ k : Nat) : Int) := Int.emod_lt_of_pos _ (by omega)
  omega
theorem i64_low7 (n : Int) : bits .and .i64 n 127 = n % 128 := i64_mask n 7 (by omega) 127 rfl
theorem i64_low6 (n : Int) : bits .and .i64 n 63 = n % 64 := i64_mask n 6 (by omega) 63 rfl

end Go.Proofs.YtfkcmdnnmnkklaaDoor.bits

/-
  The document's own answers that only compute: whether a number is in a set, its weight, a set with it and without it. No condition.
-/
namespace Go.Proofs.YtfkcmdnnmnkklaaDoor.bits
open Go.RowKit Go.ChangeShapes

theorem half_pow (s j : Nat) : s / 2 ^ j / 2 = s / 2 ^ (j + 1) := by rw [Nat.div_div_eq_div_mul, Nat.pow_succ]
theorem half_val {x : Nat} (hx : Is64 x) : Value.int .u64 (IntKind.u64.wrap ((x : Int) / 2)) = .int .u64 ((x / 2 : Nat) : Int) := by
  unfold Is64 at hx
  rw [IntKind.wrap_u64]
  congr 1
  omega
theorem odd_eq (x : Nat) : (((x : Int) % 2) == 1) = decide (x % 2 = 1) := by
  rw [Bool.eq_iff_iff]
  simp
  omega

set_option maxHeartbeats 1000000 in
theorem refHas_any (s : Nat) (hs : Is64 s) (n : Int) (w : World) :
    Calls Tryd.prog 70 #[.int .u64 (s : Int), .int .i64 n] w fun e w' => e = .returned (.bool (hasB s n)) ∧ w = w' := by
  by_cases h0 : n < 0
  · have hb : hasB s n = false := by unfold hasB; rw [decide_eq_false (by unfold may; omega)]; rfl
    rw [hb]
    clear hb
    go_enter Tryd.func70, Tryd.ntmps70
    go_wp2
    go_ret
    exact ⟨rfl, rfl⟩
  · by_cases h1 : 63 < n
    · have hb : hasB s n = false := by unfold hasB; rw [decide_eq_false (by unfold may; omega)]; rfl
      rw [hb]
      clear hb
      go_enter Tryd.func70, Tryd.ntmps70
      go_wp2
      go_ret
      exact ⟨rfl, rfl⟩
    · obtain ⟨k, rfl⟩ : ∃ k : Nat, n = (k : Int) := ⟨n.toNat, by omega⟩
      have hk : k < 64 := by omega
      have hb : hasB s (k : Int) = decide (s / 2 ^ k % 2 = 1) := by
        unfold hasB
        rw [decide_eq_true (by unfold may; omega), Bool.true_and, testBit_div]
        rfl
      rw [hb]
      clear hb h0 h1
      have hd : decide ((63 : Int) < (k : Int)) = false := by simp; omega
      go_enter Tryd.func70, Tryd.ntmps70
      go_wp2
      go_loop [0, 5] (fun t i => ∃ j x : Nat, j ≤ k ∧ i = .int .i64 (j : Int) ∧ t = .int .u64 (x : Int) ∧ Is64 x ∧ Hid (x = s / 2 ^ j)) (fun _ i => k - (intOf i).toNat)
      case atStart => exact ⟨0, s, Nat.zero_le _, rfl, rfl, hs, Lib.hid (by simp)⟩
      case round =>
        obtain ⟨j, x, hj, rfl, rfl, hx, HE⟩ := hrel
        by_cases hlt : j < k
        · go_wp2
          go_round
          case rel => exact ⟨j + 1, x / 2, by omega, by go_num, half_val hx, by unfold Is64 at *; omega, Lib.hid (by rw [HE.out, half_pow])⟩
          case measure => simp [intOf]; omega
        · obtain rfl : j = k := by omega
          go_wp2
          go_ret
          exact ⟨ret_bool (by rw [← HE.out]; exact odd_eq x), rfl⟩

set_option maxHeartbeats 1000000 in
theorem power_any (k : Nat) (hk : k < 64) (w : World) :
    Calls Tryd.prog 71 #[.int .i64 (k : Int)] w fun e w' => e = .returned (.int .u64 ((2 ^ k : Nat) : Int)) ∧ w = w' := by
  go_enter Tryd.func71, Tryd.ntmps71
  go_wp2
  go_loop [3, 4] (fun t i => ∃ j x : Nat, j ≤ k ∧ i = .int .i64 (j : Int) ∧ t = .int .u64 (x : Int) ∧ Hid (x = 2 ^ j)) (fun _ i => k - (intOf i).toNat)
  case atStart => exact ⟨0, 1, Nat.zero_le _, rfl, rfl, Lib.hid rfl⟩
  case round =>
    obtain ⟨j, x, hj, rfl, rfl, HE⟩ := hrel
    by_cases hlt : j < k
    · have hb : x < 9223372036854775808 := by
        have h1 := HE.out
        have h2 : 2 ^ j < 2 ^ 63 := Nat.pow_lt_pow_right (by omega) (by omega)
        have h3 : (2 : Nat) ^ 63 = 9223372036854775808 := rfl
        omega
      go_wp2
      go_round
      case rel => exact ⟨j + 1, x * 2, by omega, by go_num, by go_num, Lib.hid (by rw [HE.out, Nat.pow_succ])⟩
      case measure => simp [intOf]; omega
    · obtain rfl : j = k := by omega
      go_wp2
      go_ret
      exact ⟨ret_int (congrArg (fun y : Nat => (y : Int)) HE.out), rfl⟩

theorem wth_yes {s : Nat} {n : Int} (h : hasB s n = true) : wth s n = s := by
  unfold hasB at h
  rw [Bool.and_eq_true, decide_eq_true_iff] at h
  unfold wth ins
  rw [if_pos h.1, if_pos h.2]
theorem wth_no {s : Nat} {n : Int} (hm : may n) (h : hasB s n = false) : wth s n = s + 2 ^ n.toNat := by
  unfold hasB at h
  rw [decide_eq_true hm, Bool.true_and] at h
  unfold wth ins
  rw [if_pos hm, if_neg (by rw [h]; exact Bool.false_ne_true)]
theorem wout_no {s : Nat} {n : Int} (h : hasB s n = false) : wout s n = s := by
  unfold hasB at h
  unfold wout del
  split
  · rename_i hm
    rw [decide_eq_true hm, Bool.true_and] at h
    rw [if_neg (by rw [h]; exact Bool.false_ne_true)]
  · rfl
theorem wout_yes {s : Nat} {n : Int} (h : hasB s n = true) : wout s n = s - 2 ^ n.toNat ∧ may n ∧ 2 ^ n.toNat ≤ s := by
  unfold hasB at h
  rw [Bool.and_eq_true, decide_eq_true_iff] at h
  obtain ⟨t, h1, _, _⟩ := del_spec h.2
  refine ⟨?_, h.1, by omega⟩
  unfold wout del
  rw [if_pos h.1, if_pos h.2]

set_option maxHeartbeats 1000000 in
theorem refWith_any (s : Nat) (hs : Is64 s) (n : Int) (w : World) :
    Calls Tryd.prog 45 #[.int .u64 (s : Int), .int .i64 n] w fun e w' => e = .returned (.int .u64 ((wth s n : Nat) : Int)) ∧ w = w' := by
  by_cases h0 : n < 0
  · have hb : wth s n = s := by unfold wth; rw [if_neg (by unfold may; omega)]
    rw [hb]
    clear hb
    go_enter Tryd.func45, Tryd.ntmps45
    go_wp2
    go_ret
    exact ⟨rfl, rfl⟩
  · by_cases h1 : 63 < n
    · have hb : wth s n = s := by unfold wth; rw [if_neg (by unfold may; omega)]
      rw [hb]
      clear hb
      go_enter Tryd.func45, Tryd.ntmps45
      go_wp2
      go_ret
      exact ⟨rfl, rfl⟩
    · have hm : may n := by unfold may; omega
      obtain ⟨k, rfl⟩ : ∃ k : Nat, n = (k : Int) := ⟨n.toNat, by omega⟩
      have hk : k < 64 := by omega
      have hd : decide ((63 : Int) < (k : Int)) = false := by simp; omega
      have HH := Lib.hid (refHas_any s hs (k : Int) w)
      by_cases hb : hasB s (k : Int) = true
      · rw [wth_yes hb]
        rw [hb] at HH
        clear hb h0 h1 hm
        go_enter Tryd.func45, Tryd.ntmps45
        go_wp2_with fail
        refine HH.out.mono ?_
        rintro e w1 ⟨rfl, rfl⟩
        go_wp2
        go_ret
        exact ⟨rfl, rfl⟩
      · have hb' : hasB s (k : Int) = false := by simpa using hb
        have hl := wth_lt hs (k : Int)
        have HW : Hid (wth s (k : Int) = s + 2 ^ k) := Lib.hid (wth_no hm hb')
        have HS : Hid (IntKind.u64.wrap ((s : Int) + ((2 ^ k : Nat) : Int)) = ((wth s (k : Int) : Nat) : Int)) := Lib.hid (by
          have h := HW.out
          rw [h] at hl ⊢
          exact two_sum hl)
        rw [hb'] at HH
        clear hb hb' h0 h1 hm hl
        go_enter Tryd.func45, Tryd.ntmps45
        go_wp2_with fail
        refine HH.out.mono ?_
        rintro e w1 ⟨rfl, rfl⟩
        go_wp2_with fail
        refine (power_any k hk _).mono ?_
        rintro e w1 ⟨rfl, rfl⟩
        go_wp2
        go_ret
        exact ⟨ret_int HS.out, rfl⟩

end Go.Proofs.YtfkcmdnnmnkklaaDoor.bits

/-
  The document's own answer of the objects of needs of a kind. No condition but that lengths are ints.
-/
namespace Go.Proofs.YtfkcmdnnmnkklaaDoor.need
open Go.RowKit Go.ChangeShapes
open Go.Proofs.YtfkcmdnnmnkklaaDoor.objs (De zero CellsAt DAt)
open Go.Proofs.YtfkcmdnnmnkklaaDoor.bits (wth Is64 refWith_any)
set_option linter.unusedVariables false

/-- The objects of the first j needs that are of a kind, with those of a set. -/
def objsIn (l : List De) (k : Int) (s : Nat) : Nat → Nat
  | 0 => s
  | j + 1 => if (l.getD j zero).1 = k then wth (objsIn l k s j) (l.getD j zero).2.1 else objsIn l k s j
def objsW (w : List (List De)) (k : Int) : Nat → Nat
  | 0 => 0
  | j + 1 => objsIn (w.getD j []) k (objsW w k j) (w.getD j []).length
def objects (w : List (List De)) (k : Int) : Nat := objsW w k w.length
theorem wth_64 {s : Nat} {n : Int} (h : Is64 s) : Is64 (wth s n) := by
  unfold wth
  split
  · rename_i h1
    exact Go.Proofs.YtfkcmdnnmnkklaaDoor.bits.ins_lt h (by unfold Go.Proofs.YtfkcmdnnmnkklaaDoor.bits.may at h1; omega)
  · exact h
theorem objsIn_64 {l : List De} {k : Int} {s : Nat} (h : Is64 s) : ∀ j, Is64 (objsIn l k s j) := by
  intro j
  induction j with
  | zero => exact h
  | succ j ih =>
    unfold objsIn
    split
    · exact wth_64 ih
    · exact ih
theorem objsW_64 {w : List (List De)} {k : Int} : ∀ j, Is64 (objsW w k j) := by
  intro j
  induction j with
  | zero => unfold objsW Is64; omega
  | succ j ih => exact objsIn_64 ih _

set_option maxRecDepth 100000 in
set_option maxHeartbeats 4000000 in
theorem refObjects9_any (A : Option Addr) (cap : Nat) (l : List (List De)) (k : Int) (hl : l.length ≤ 6) (hll : ∀ x ∈ l, x.length ≤ 6) (w : World) (hA : WAt w A l) :
    Calls Tryd.prog 23 #[.slice A l.length cap, .int .i64 k] w fun e w' => e = .returned (.int .u64 ((objects l k : Nat) : Int)) ∧ w = w' := by
  have HA := Lib.hid hA
  have HL := Lib.hid hll
  clear hA hll
  go_enter Tryd.func23, Tryd.ntmps23
  go_wp2_with fail
  go_loop [5, 6] (fun t i => ∃ j s : Nat, j ≤ l.length ∧ i = .int .i64 (j : Int) ∧ t = .int .u64 (s : Int) ∧ Is64 s ∧ Hid (s = objsW l k j)) (fun _ i => l.length - (intOf i).toNat)
  case atStart => exact ⟨0, 0, Nat.zero_le _, rfl, rfl, by unfold Is64; omega, Lib.hid rfl⟩
  case round =>
    obtain ⟨j, s, hj, rfl, rfl, hs, HE⟩ := hrel
    by_cases hlt : j < l.length
    · obtain ⟨b, off, Aj, cj, rfl, hbl, hc, hdj⟩ := HA.out j hlt
      have HN : Hid (objsW l k (j + 1) = objsIn (l.getD j []) k s (l.getD j []).length) := Lib.hid (by rw [HE.out]; rfl)
      have hlj := HL.out _ (getW_mem hlt)
      have hlt' : (j : Int) < (l.length : Int) := by omega
      have hj0 : (0 : Int) ≤ (j : Int) := by omega
      have HD := Lib.hid hdj
      generalize l.getD j [] = lj at *
      clear hdj
      go_wp2_with fail
      go_loop [5, 7] (fun t i => ∃ m q : Nat, m ≤ lj.length ∧ i = .int .i64 (m : Int) ∧ t = .int .u64 (q : Int) ∧ Is64 q ∧ Hid (q = objsIn lj k s m)) (fun _ i => lj.length - (intOf i).toNat)
      case atStart => exact ⟨0, s, Nat.zero_le _, rfl, rfl, hs, Lib.hid rfl⟩
      case round =>
        obtain ⟨m, q, hm, rfl, rfl, hq, HQ⟩ := hrel
        by_cases hlm : m < lj.length
        · obtain ⟨b2, off2, rfl, hbl2, c0, c1, c2⟩ := HD.out m hlm
          have hlm' : (m : Int) < (lj.length : Int) := by omega
          have hm0 : (0 : Int) ≤ (m : Int) := by omega
          have HQ2 : Hid (objsIn lj k s (m + 1) = if (lj.getD m zero).1 = k then wth q (lj.getD m zero).2.1 else q) := Lib.hid (by rw [HQ.out]; rfl)
          generalize lj.getD m zero = t at *
          obtain ⟨tk, tob, tn⟩ := t
          dsimp only at c0 c1 c2 HQ2
          have HC := Lib.hid (refWith_any q hq tob w)
          have h64 := wth_64 (n := tob) hq
          generalize wth q tob = q2 at *
          by_cases hk : tk = k
          · have hkb : (tk == k) = true := by simpa using hk
            have HQ3 : Hid (objsIn lj k s (m + 1) = q2) := Lib.hid (by rw [HQ2.out, if_pos hk])
            clear hk
            go_wp2_with fail
            refine HC.out.mono ?_
            rintro e w1 ⟨rfl, rfl⟩
            go_wp2
            go_round
            case rel => exact ⟨m + 1, q2, by omega, by go_num, rfl, h64, Lib.hid HQ3.out.symm⟩
            case measure => simp [intOf]; omega
          · have hkb : (tk == k) = false := by simpa using hk
            have HQ3 : Hid (objsIn lj k s (m + 1) = q) := Lib.hid (by rw [HQ2.out, if_neg hk])
            clear hk
            go_wp2
            go_round
            case rel => exact ⟨m + 1, q, by omega, by go_num, rfl, hq, Lib.hid HQ3.out.symm⟩
            case measure => simp [intOf]; omega
        · obtain rfl : m = lj.length := by omega
          go_wp2
          go_round
          case rel => exact ⟨j + 1, q, by omega, by go_num, rfl, hq, Lib.hid (by rw [HN.out, HQ.out])⟩
          case measure => simp [intOf]; omega
    · obtain rfl : j = l.length := by omega
      go_wp2
      go_ret
      exact ⟨by rw [HE.out]; rfl, rfl⟩
end Go.Proofs.YtfkcmdnnmnkklaaDoor.need

/-
  The program's own answer of the objects of needs of a kind (typed over the code of 5ef5b61): of at most six ways, each of at most six needs.
-/
namespace Go.Proofs.YtfkcmdnnmnkklaaDoor.need
open Go.RowKit Go.ChangeShapes
open Go.Proofs.YtfkcmdnnmnkklaaDoor.objs (De zero CellsAt DAt)
open Go.Proofs.YtfkcmdnnmnkklaaDoor.bits (wth Is64 with_any)
set_option linter.unusedVariables false

set_option maxRecDepth 100000 in
set_option maxHeartbeats 4000000 in
theorem objs_any (B : Option Addr) (cap : Nat) (l : List (List De)) (k : Int) (hl : l.length ≤ 6) (hll : ∀ x ∈ l, x.length ≤ 6) (w : World) (hB : WAt w B l) :
    Calls Tryd.prog 22 #[.slice B l.length cap, .int .i64 k] w fun e w' => e = .returned (.int .u64 ((objects l k : Nat) : Int)) ∧ Below w.heap.size w w' := by
  have HOf := Lib.hid (of_none w)
  have HB := Lib.hid hB
  have HLL := Lib.hid hll
  have HO : Hid (objects l k = objsW l k l.length) := Lib.hid rfl
  rw [HO.out]
  clear hB hll HO
  go_enter Tryd.func22, Tryd.ntmps22
  go_wp2_with fail
  refine HOf.out.mono ?_
  rintro e w1 ⟨rfl, rfl⟩
  go_wp2_with fail
  go_loopw [5, 13] (fun t i wr => ∃ j : Nat, j ≤ l.length ∧ i = .int .i64 (j : Int) ∧ t = .int .u64 ((objsW l k j : Nat) : Int) ∧ Hid (Below w.heap.size w wr)) (fun _ i _ => l.length - (intOf i).toNat)
  case atStart => exact ⟨0, Nat.zero_le _, rfl, rfl, Lib.hid (Below.refl _ _)⟩
  case round =>
    obtain ⟨j, hj, rfl, rfl, HW⟩ := hrel
    by_cases hlt : j < l.length
    · obtain ⟨b, off, Aj, cj, rfl, hbl, hc0, hdj⟩ := HB.out j hlt
      have hc := (HW.out.cell (p := ⟨b, off + j, none⟩) hbl).trans hc0
      have hlt' : (j : Int) < (l.length : Int) := by omega
      have hj0 : (0 : Int) ≤ (j : Int) := by omega
      have h6 := HLL.out _ (getW_mem hlt)
      have HS := Lib.hid (objsW_64 (w := l) (k := k) j)
      have HE : Hid (objsW l k (j + 1) = objsIn (l.getD j []) k (objsW l k j) (l.getD j []).length) := Lib.hid rfl
      generalize objsW l k j = s at *
      generalize l.getD j [] = x at *
      have HD := Lib.hid hdj
      clear hdj hc0 hbl
      go_wp2_with fail
      clear hc
      go_loopw [5, 19] (fun t i wr => ∃ q : Nat, q ≤ x.length ∧ i = .int .i64 (q : Int) ∧ t = .int .u64 ((objsIn x k s q : Nat) : Int) ∧ Hid (Below w.heap.size w wr)) (fun _ i _ => x.length - (intOf i).toNat)
      case atStart => exact ⟨0, Nat.zero_le _, rfl, rfl, HW⟩
      case round =>
        obtain ⟨q, hq, rfl, rfl, HV⟩ := hrel
        by_cases hlq : q < x.length
        · obtain ⟨b1, off1, rfl, hb1, c0, c1, c2⟩ := HD.out.next HV.out q hlq
          have hlq' : (q : Int) < (x.length : Int) := by omega
          have hq0 : (0 : Int) ≤ (q : Int) := by omega
          have HS2 := Lib.hid (objsIn_64 (l := x) (k := k) HS.out q)
          have HE2 : Hid (objsIn x k s (q + 1) = if (x.getD q zero).1 = k then wth (objsIn x k s q) (x.getD q zero).2.1 else objsIn x k s q) := Lib.hid rfl
          generalize objsIn x k s q = s2 at *
          generalize x.getD q zero = n at *
          have HV1 := Lib.hid (HV.out.trans ((nbox_below wr n.1 n.2.1 n.2.2).mono HV.out.size))
          have hbx := nbox_at wr n.1 n.2.1 n.2.2
          have HWi := fun W => Lib.hid (with_any s2 HS2.out n.2.1 W)
          obtain ⟨k0, o0, m0⟩ := n
          unfold needBox at HV1 hbx
          dsimp only at c0 c1 c2 HE2 HV1 hbx HWi
          clear HV
          go_upto_region 8 with fail
          clear c0 c1 c2
          generalize wr.alloc (.cells #[.int .i64 k0, .int .i64 o0, .int .i64 m0] 59) = W4 at *
          generalize wr.heap.size = g at *
          obtain ⟨c0, c1, c2⟩ := hbx
          by_cases hk : k0 = k
          · have HE3 : Hid (objsIn x k s (q + 1) = wth s2 o0) := Lib.hid (by rw [HE2.out, if_pos hk])
            have hk' : (k0 == k) = true := by simpa using hk
            clear hk
            go_wp2_with fail
            refine (HWi _).out.mono ?_
            rintro e w5 ⟨rfl, rfl⟩
            go_wp2
            go_roundw
            case rel => exact ⟨q + 1, by omega, by go_num, by rw [HE3.out], HV1⟩
            case measure => simp [intOf]; omega
          · have HE3 : Hid (objsIn x k s (q + 1) = s2) := Lib.hid (by rw [HE2.out, if_neg hk])
            have hk' : (k0 == k) = false := by simpa using hk
            clear hk
            go_wp2
            go_roundw
            case rel => exact ⟨q + 1, by omega, by go_num, by rw [HE3.out], HV1⟩
            case measure => simp [intOf]; omega
        · obtain rfl : q = x.length := by omega
          go_wp2
          go_roundw
          case rel => exact ⟨j + 1, by omega, by go_num, by rw [HE.out], HV⟩
          case measure => simp [intOf]; omega
    · obtain rfl : j = l.length := by omega
      go_wp2
      go_ret
      exact ⟨rfl, HW.out⟩
end Go.Proofs.YtfkcmdnnmnkklaaDoor.need
