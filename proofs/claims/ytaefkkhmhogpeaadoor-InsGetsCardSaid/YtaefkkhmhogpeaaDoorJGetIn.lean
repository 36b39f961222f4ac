/-
  The instruction with which bytes begin, as the program tells it (typed over the code of 392f5a9), and with it the bundle over which the four laws are walked. The table of names must lie where its initialiser lays it; texts of at most two to the forty-seventh bytes.
-/
import Derived.Test.YtaefkkhmhogpeaaDoorJGet
import Derived.Deep.RegionLaw
namespace Go.Proofs.YtaefkkhmhogpeaaDoor.inst
open Go.RowKit Go.ChangeShapes
open Go.Proofs.YtaefkkhmhogpeaaDoor.oper (ret_int ret_bool ret_string Tab nm txt)
open Go.Proofs.YtaefkkhmhogpeaaDoor.word (Word)
open Go.Proofs.YtaefkkhmhogpeaaDoor.octet (St InAt Frm rdByte rdNum rdInt err_any left_any open_any)
set_option linter.unusedVariables false

theorem pget_ret {w Z : World} {g : Got} {act : Act} (h2 : act.tmps[2]?.getD undef = .pointer (some ⟨w.heap.size, 0, none⟩)) (h3 : act.tmps[3]?.getD undef = .int .i64 (g.n : Int)) (h4 : act.tmps[4]?.getD undef = .int .i64 (g.e : Int)) (hd : act.defers = [])
    (hE : Z.heap[w.heap.size]? = some (.cells #[.int .i64 g.o, .int .i64 g.a, .int .i64 g.b] 23 (0, 0))) (hb : Below w.heap.size w Z) : bodyPost Tryd.prog Tryd.f17 (GotPost g w) .ret act Z := by
  obtain ⟨x0, x1, x2, _, _, _⟩ := cells3 hE
  refine bodyPost_ret (v := .tuple #[.agg #[.int .i64 g.o, .int .i64 g.a, .int .i64 g.b], .int .i64 (g.n : Int), .int .i64 (g.e : Int)]) ?_ hd ⟨rfl, hb⟩
  simp [results, Tryd.results17, go_sem, h2, h3, h4, x0, x1, x2]

/-- Behind the reading: the empty answer, the reader, and what was read. -/
structure Gets (w : World) (bi bx : Nat) (o a b : Int) (S : St) (W : World) : Prop where
  below : Below w.heap.size w W
  b0 : W.heap[w.heap.size]? = some (.cells #[.int .i64 0, .int .i64 0, .int .i64 0] 23 (0, 0))
  inn : InAt W bi S
  bb : W.heap[bx]? = some (.cells #[.int .i64 o, .int .i64 a, .int .i64 b] 23 (0, 0))
  h1 : w.heap.size < bx
  h2 : bi < bx
  h3 : w.heap.size < bi
theorem Gets.next {w W W' : World} {bi bx : Nat} {o a b : Int} {S : St} (h : Gets w bi bx o a b S W) (hb : Below W.heap.size W W') : Gets w bi bx o a b S W' := by
  have h1 := lt_of_block h.b0
  have h2 := h.inn.lt
  have h3 := lt_of_block h.bb
  exact ⟨h.below.trans (hb.mono h.below.size), (hb.block _ h1).trans h.b0, (hb.block _ h2).trans h.inn, (hb.block _ h3).trans h.bb, h.h1, h.h2, h.h3⟩
theorem Gets.h3' {w W : World} {bi bx : Nat} {o a b : Int} {S : St} (h : Gets w bi bx o a b S W) : bi ≠ w.heap.size := by have := h.h3; omega
theorem Gets.drew {w W : World} {bi bx : Nat} {o a b : Int} {S : St} (h : Gets w bi bx o a b S W) : Gets w bi bx o a b S W.drew := ⟨h.below.drew, h.b0, h.inn, h.bb, h.h1, h.h2, h.h3⟩

theorem gets_new {w w1 w2 : World} {o a b : Int} {S : St}
    (h1 : Below (w.alloc (insBox 0 0 0)).heap.size (w.alloc (insBox 0 0 0)) w1) (hs : w1.heap.size = (w.alloc (insBox 0 0 0)).heap.size + 1)
    (hi : InAt w2 (w.heap.size + 1) S) (hf : Frm w1.heap.size (w.heap.size + 1) w1 w2) :
    Gets w (w.heap.size + 1) w2.heap.size o a b S (w2.alloc (insBox o a b)) := by
  have hz : (w.alloc (insBox 0 0 0)).heap.size = w.heap.size + 1 := World.size_alloc w _
  have hs2 := hf.size
  have hb : Below w2.heap.size w2 (w2.alloc (insBox o a b)) := (Below.refl _ w2).alloc (Nat.le_refl _) _
  have hb0 : Below w.heap.size w w1 := ((Below.refl _ w).alloc (Nat.le_refl _) _).trans (h1.mono (by omega))
  have hb1 : Below w.heap.size w w2 := hb0.trans (hf.below (by omega) (by omega))
  refine ⟨hb1.trans (hb.mono (by omega)), ?_, (hb.block _ hi.lt).trans hi, heap_alloc_new w2 _, by omega, by have := hi.lt; omega, by omega⟩
  refine (hb.block _ (by omega)).trans ((hf.block _ (by omega) (by omega)).trans ((h1.block _ (by omega)).trans (heap_alloc_new w _)))

theorem pOpds_left (f : List UInt8) (s : St) : ∀ j, (pOpds f s j).2.rest.length ≤ s.rest.length := by
  intro j
  induction j with
  | zero => exact Nat.le_refl _
  | succ j ih => exact Nat.le_trans (pOpd_left _ _) ih
theorem pRead_left (s : St) : (pRead s).s.rest.length ≤ s.rest.length := Nat.le_trans (pOpds_left _ _ _) (rdByte_left s)
theorem below_drew' {B : Nat} {a W : World} (h : Below B a W) : Below B a W.drew := h.drew

set_option maxRecDepth 100000 in
set_option maxHeartbeats 2000000 in
theorem get_any (t : ByteArray) (w : World) (ht : t.size ≤ 140737488355328) (hw : Okw w) : Calls Tryd.prog 17 #[.string t] w (GotPost (getI t.data.toList) w) := by
  have HG := Lib.hid (got_prog t.data.toList)
  have HRd := fun W hi => Lib.hid (read_any W (w.heap.size + 1) ⟨t.data.toList, 0⟩ hi (fun h => absurd rfl h) (by rw [← size_list]; exact ht))
  have HE0 : Hid ((pRead ⟨t.data.toList, 0⟩).e = (pRead ⟨t.data.toList, 0⟩).s.err) := Lib.hid rfl
  have HLe : Hid ((pRead ⟨t.data.toList, 0⟩).s.rest.length ≤ t.size) := Lib.hid (by rw [size_list]; exact pRead_left ⟨t.data.toList, 0⟩)
  unfold PReadPost at HRd
  have HOp := Lib.hid (open_any (w.alloc (insBox 0 0 0)) t)
  have hz : (w.alloc (insBox 0 0 0)).heap.size = w.heap.size + 1 := World.size_alloc w _
  rw [hz] at HOp
  generalize pRead ⟨t.data.toList, 0⟩ = r at *
  obtain ⟨o, a, b, S, e⟩ := r
  dsimp only at HG HRd HE0 HLe
  have he0 := HE0.out
  subst he0
  have HW := Lib.hid hw
  have HT := Lib.hid ht
  clear hw HE0 ht
  go_enter Tryd.func17, Tryd.ntmps17
  unfold insBox at HOp hz
  go_wp2_with fail
  refine HOp.out.mono ?_
  rintro e w1 ⟨rfl, hi1, hb1, hs1⟩
  go_wp2_with fail
  refine (HRd _ hi1).out.mono ?_
  rintro e w2 ⟨rfl, hi2, hf2⟩
  have HGt := Lib.hid (gets_new (o := o) (a := a) (b := b) (by unfold insBox; rw [hz]; exact hb1) (by unfold insBox; rw [hz]; exact hs1) hi2 hf2)
  unfold insBox at HGt
  clear hi1 hb1 hs1 hi2 hf2 HRd HOp hz
  go_upto_region 3 with fail
  generalize w2.alloc (.cells #[.int .i64 o, .int .i64 a, .int .i64 b] 23) = W3 at *
  generalize w2.heap.size = bx at *
  have HEr := Lib.hid (err_any W3 (w.heap.size + 1) S HGt.out.inn)
  go_wp2_with fail
  refine HEr.out.mono ?_
  rintro e w4 ⟨rfl, rfl⟩
  by_cases he : S.err = 0
  · have HC := Lib.hid (check_any o a b W3 (HW.out.below HGt.out.below HW.out.2))
    obtain ⟨x0, x1, x2, _, _, _⟩ := cells3 HGt.out.bb
    have he' : ((S.err : Int) == 0) = true := by simp [he]
    have HEq := Lib.hid he
    clear he
    go_wp2_with fail
    refine HC.out.mono ?_
    rintro e w5 ⟨rfl, hb5⟩
    have HGt5 := Lib.hid (HGt.out.next hb5)
    clear hb5 HC x0 x1 x2 HEr HGt
    obtain ⟨x0, x1, x2, _, _, _⟩ := cells3 HGt5.out.bb
    obtain ⟨z0, z1, z2, zf0, zf1, zf2⟩ := cells3 HGt5.out.b0
    by_cases hc : chk o a b = 0
    · have HR : Hid (getI t.data.toList = ⟨o, a, b, t.data.toList.length - S.rest.length, 0⟩) := Lib.hid (by rw [HG.out, if_neg (by simp [HEq.out]), if_neg (by simp [hc])])
      have hc' : (((chk o a b : Nat) : Int) != 0) = false := by simp [hc]
      clear hc HG
      have HLq := fun W (hW : W.heap[w.heap.size + 1]? = w5.heap[w.heap.size + 1]?) => Lib.hid (left_any W (w.heap.size + 1) S (HGt5.out.inn.kept hW))
      have HWr : Hid ((t.data.toList.length - S.rest.length : Nat) = IntKind.i64.wrap ((t.size : Int) - (S.rest.length : Int))) := Lib.hid (by
        have h1 := HLe.out
        have h2 := HT.out
        rw [← size_list, IntKind.wrap_i64]
        omega)
      go_wp2_with fail
      have x9 := HGt5.out.h3'
      go_region_law (go_simp; go_at_call 47; refine (HLq _ ?_).out.mono ?_; (first | rfl | exact put3_far x9 _ _ _); rintro e w7 ⟨rfl, rfl⟩)
      all_goals
        go_wp2_with fail
        exact pget_ret (by rfl) (by rw [HR.out, HWr.out]; rfl) (by rw [HR.out]; rfl) rfl (by rw [HR.out]; exact put3_same HGt5.out.b0 _ _ _) (below_drew' (put3_below HGt5.out.below (Nat.le_refl _) _ _ _))
    · have HR : Hid (getI t.data.toList = .bad (chk o a b)) := Lib.hid (by rw [HG.out, if_neg (by simp [HEq.out]), if_pos hc])
      have hc' : (((chk o a b : Nat) : Int) != 0) = true := by simpa using hc
      clear hc HG
      generalize chk o a b = q at *
      go_wp2_with fail
      exact pget_ret (by rfl) (by rw [HR.out]; rfl) (by rw [HR.out]; rfl) rfl (by rw [HR.out]; exact put3_same HGt5.out.b0 _ _ _) (put3_below HGt5.out.below (Nat.le_refl _) _ _ _)
  · have HR : Hid (getI t.data.toList = .bad S.err) := Lib.hid (by rw [HG.out, if_pos he])
    have he' : ((S.err : Int) != 0) = true := by simpa using he
    have he2 : ((S.err : Int) == 0) = false := by simpa using he
    obtain ⟨z0, z1, z2, zf0, zf1, zf2⟩ := cells3 HGt.out.b0
    clear he HG
    go_wp2_with fail
    exact pget_ret (by rfl) (by rw [HR.out]; rfl) (by rw [HR.out]; rfl) rfl (by rw [HR.out]; exact put3_same HGt.out.b0 _ _ _) (put3_below HGt.out.below (Nat.le_refl _) _ _ _)

theorem keeps : Keeps Okw where
  mono := fun W W' h hb => h.next hb
  check := fun o a b W _ _ _ h => check_any o a b W h
  put := fun o a b W _ _ _ h => put_any o a b W h
  get := fun t W ht h => get_any t W ht h
end Go.Proofs.YtaefkkhmhogpeaaDoor.inst
