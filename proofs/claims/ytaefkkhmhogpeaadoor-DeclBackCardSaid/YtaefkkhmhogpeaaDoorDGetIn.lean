/-
  The objects with which bytes begin, as the program tells them (typed over the code of 392f5a9), and with it the bundle over which the five laws are walked. The table of names must lie where its initialiser lays it; texts of at most two to the forty-seventh bytes.
-/
import Derived.Test.YtaefkkhmhogpeaaDoorDGetAll
import Derived.Test.YtaefkkhmhogpeaaDoorDPut
import Derived.Test.YtaefkkhmhogpeaaDoorDSpec
import Derived.Deep.RegionLaw
namespace Go.Proofs.YtaefkkhmhogpeaaDoor.objs
open Go.RowKit Go.ChangeShapes
open Go.Proofs.YtaefkkhmhogpeaaDoor.octet (St InAt Frm rdByte rdNum rdInt err_any left_any open_any rdNum_left)
open Go.Proofs.YtaefkkhmhogpeaaDoor.span (pN num_any)
set_option linter.unusedVariables false

theorem rdN_left (s : St) : (rdN s).2.rest.length ≤ s.rest.length := rdNum_left s
theorem rdA_left (k : Nat) (s : St) : (rdA k s).2.rest.length ≤ s.rest.length := by
  rw [← (pA_rdA k s).1]
  exact pA_left k s
theorem rdB_left (k : Nat) (s : St) : (rdB k s).2.rest.length ≤ s.rest.length := by
  rw [← (pB_rdB k s).1]
  exact pB_left k s
theorem rdD_left (s : St) : (rdD s).2.1.rest.length ≤ s.rest.length := by
  unfold rdD
  dsimp only
  split
  · exact rdByte_left s
  · exact Nat.le_trans (rdB_left _ _) (Nat.le_trans (rdA_left _ _) (rdByte_left s))
theorem rdL_left (s : St) : ∀ j, (rdL s j).2.1.rest.length ≤ s.rest.length := by
  intro j
  induction j with
  | zero => exact Nat.le_refl _
  | succ j ih =>
    simp only [rdL]
    split
    · exact ih
    · split
      · exact Nat.le_trans (rdD_left _) ih
      · exact Nat.le_trans (rdD_left _) ih
theorem pAll_left (s : St) : (pAll s).2.1.rest.length ≤ s.rest.length := by
  rw [pAll_eq]
  split
  · exact pN_left s
  · split
    · exact pN_left s
    · exact Nat.le_trans (rdL_left _ _) (pN_left s)
theorem pAll_short (s : St) : (pAll s).1.length ≤ 32 := by
  rw [pAll_eq]
  split
  · simp
  · split
    · simp
    · have := rdL_short (s := (pN s).2) (pN s).1.toNat
      rw [List.length_map]
      omega

theorem get_ret {w W : World} {n cap : Nat} {A : Option Addr} {act : Act} {g : List De × Nat × Nat} (hn : n = g.1.length) (h2 : act.tmps[2]?.getD undef = .slice A n cap) (h3 : act.tmps[3]?.getD undef = .int .i64 (g.2.1 : Int)) (h4 : act.tmps[4]?.getD undef = .int .i64 (g.2.2 : Int)) (hd : act.defers = [])
    (hA : DAt W A g.1) (hb : Below w.heap.size w W) : bodyPost Tryd.prog Tryd.f24 (GotPost g w) .ret act W := by
  subst hn
  refine bodyPost_ret (v := .tuple #[.slice A g.1.length cap, .int .i64 (g.2.1 : Int), .int .i64 (g.2.2 : Int)]) ?_ hd ⟨_, rfl, ⟨A, cap, rfl, hA⟩, hb⟩
  simp [results, Tryd.results24, go_sem, h2, h3, h4]

set_option maxRecDepth 100000 in
set_option maxHeartbeats 4000000 in
theorem get_any (t : ByteArray) (w : World) (ht : t.size ≤ 140737488355328) (hw : Okd w) : Calls Tryd.prog 24 #[.string t] w (GotPost (getL t.data.toList) w) := by
  have HG := Lib.hid (getL_prog t.data.toList)
  have HOp := Lib.hid (open_any w t)
  have HAll := fun W hi hok => Lib.hid (getAll_any W w.heap.size ⟨t.data.toList, 0⟩ hi (fun h => absurd rfl h) (by rw [← size_list]; exact ht) hok hw.2)
  have HLe : Hid ((pAll ⟨t.data.toList, 0⟩).2.1.rest.length ≤ t.size) := Lib.hid (by rw [size_list]; exact pAll_left ⟨t.data.toList, 0⟩)
  have h32 := pAll_short ⟨t.data.toList, 0⟩
  unfold AllPost at HAll
  obtain ⟨g, hg⟩ : ∃ g, g = getL t.data.toList := ⟨_, rfl⟩
  rw [← hg] at HG ⊢
  clear hg
  generalize pAll ⟨t.data.toList, 0⟩ = r at *
  obtain ⟨ls, S, e⟩ := r
  dsimp only at HG HAll HLe h32
  have HW := Lib.hid hw
  have HT := Lib.hid ht
  clear hw ht
  go_enter Tryd.func24, Tryd.ntmps24
  go_wp2_with fail
  refine HOp.out.mono ?_
  rintro e1 w1 ⟨rfl, hi1, hb1, hs1⟩
  have HA1 := HAll w1 hi1 (HW.out.next hb1)
  have HB1 := Lib.hid hb1
  have HS1 := Lib.hid hs1
  clear hi1 hb1 hs1 HAll HOp
  go_wp2_with fail
  refine HA1.out.mono ?_
  rintro e2 w2 ⟨v, rfl, ⟨A, cap, rfl, hA2⟩, hi2, hf2⟩
  have hB2 : Below w.heap.size w w2 := HB1.out.trans (hf2.below (Nat.le_refl _) (by have := HS1.out; omega))
  have HK2 := Lib.hid (HW.out.next hB2)
  have HB2 := Lib.hid hB2
  have HA2 := Lib.hid hA2
  have HI2 := Lib.hid hi2
  clear hA2 hi2 hf2 hB2 HB1 HS1 HA1
  by_cases he : e = 0
  · have he' : ((e : Int) == 0) = true := by simp [he]
    have HE0 := Lib.hid he
    have HC := Lib.hid (check_any A cap ls (by omega) w2 HA2.out HK2.out)
    unfold ChkPost at HC
    clear he
    generalize chk ls = p at *
    obtain ⟨i, c⟩ := p
    dsimp only at HC HG
    go_wp2_with fail
    refine HC.out.mono ?_
    rintro e3 w3 ⟨rfl, hb3⟩
    have HA3 := Lib.hid (HA2.out.next hb3)
    have HI3 := Lib.hid (HI2.out.kept (hb3.block _ HI2.out.lt))
    have HB3 := Lib.hid (HB2.out.trans (hb3.mono HB2.out.size))
    clear hb3 HA2 HI2 HB2 HC HK2
    by_cases hc : c = 0
    · have HR : Hid (g = (ls, t.data.toList.length - S.rest.length, 0)) := Lib.hid (by rw [HG.out, if_neg (by simp [HE0.out]), if_neg (by simp [hc])])
      have hc' : ((c : Int) != 0) = false := by simp [hc]
      have HLq := Lib.hid (left_any w3 w.heap.size S HI3.out)
      have HWr : Hid ((t.data.toList.length - S.rest.length : Nat) = wrap64 ((t.size : Int) - (S.rest.length : Int))) := Lib.hid (by
        have h1 := HLe.out
        have h2 := HT.out
        rw [← size_list, IntWalk.wrap64_in _ (by omega)]
        omega)
      clear hc HG
      go_wp2_with fail
      refine HLq.out.mono ?_
      rintro e4 w4 ⟨rfl, rfl⟩
      go_wp2_with fail
      exact get_ret (by rw [HR.out]) (by rfl) (by rw [HR.out, HWr.out]; rfl) (by rw [HR.out]; rfl) rfl (by rw [HR.out]; exact HA3.out) HB3.out
    · have HR : Hid (g = ([], 0, c)) := Lib.hid (by rw [HG.out, if_neg (by simp [HE0.out]), if_pos hc])
      have hc' : ((c : Int) != 0) = true := by simpa using hc
      clear hc HG
      go_wp2_with fail
      exact get_ret (by rw [HR.out]) (by rfl) (by rw [HR.out]; rfl) (by rw [HR.out]; rfl) rfl (by rw [HR.out]; exact DAt.nil _ _) HB3.out
  · have HR : Hid (g = ([], 0, e)) := Lib.hid (by rw [HG.out, if_pos he])
    have he' : ((e : Int) != 0) = true := by simpa using he
    have he2 : ((e : Int) == 0) = false := by simpa using he
    clear he HG
    go_wp2_with fail
    exact get_ret (by rw [HR.out]) (by rfl) (by rw [HR.out]; rfl) (by rw [HR.out]; rfl) rfl (by rw [HR.out]; exact DAt.nil _ _) HB2.out

theorem put_any (A : Option Addr) (cap : Nat) (l : List De) (hl : l.length ≤ 100) (w : World) (hA : DAt w A l) (hw : Okd w) : Calls Tryd.prog 21 #[.slice A l.length cap] w (PutPost l w) := by
  unfold PutPost putL
  by_cases hz : (chk l).2 = 0
  · rw [if_pos hz, hz]
    exact put_good A cap l hz w hA hw
  · rw [if_neg hz]
    exact put_bad A cap l (by omega) hz w hA hw
theorem keeps : Keeps Okd where
  mono := fun W W' h hb => h.next hb
  name := fun k W _ h => (name_any k W h).mono fun e w' ⟨h1, h2⟩ => ⟨h1, h2 ▸ Below.refl _ _⟩
  check := fun A cap l W hl _ hA h => check_any A cap l (by omega) W hA h
  put := fun A cap l W hl _ hA h => put_any A cap l hl W hA h
  get := fun t W ht h => get_any t W ht h
  fits := fun A cap l c o W hl _ _ hA h => (fit_any A cap l c o (by omega) W hA).mono fun e w' ⟨h1, h2⟩ => ⟨h1, h2 ▸ Below.refl _ _⟩
end Go.Proofs.YtaefkkhmhogpeaaDoor.objs
