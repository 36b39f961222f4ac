/-
  The document's own answer of a count that is read. A text of at most two to the forty-seventh bytes.
-/
import Derived.Test.YtahejekcfgkiaaaGreatDoorGall11
import Derived.Test.YtahejekcfgkiaaaGreatDoorGall15
import Derived.Test.YtahejekcfgkiaaaGreatDoorGall5
import Derived.RegionTactic
import Derived.BigRegion
namespace Go.Proofs.YtahejekcfgkiaaaGreatDoor.pgm
open Go.RowKit Go.ChangeShapes
open Go.Proofs.YtahejekcfgkiaaaGreatDoor.objs (De zero put3 cells3 put3_same put3_far put3_below RBox RNil)
open Go.Proofs.YtahejekcfgkiaaaGreatDoor.octet (St rdNum Stands refNum_plain rdNum_lt)
set_option linter.unusedVariables false

def ManyPost (t : ByteArray) (q : Nat × St × Nat) (w : World) (e : Ending) (w' : World) : Prop :=
  ∃ k1 : Nat, e = .returned (.tuple #[.int .i64 (q.1 : Int), .agg #[.string t, .int .i64 (k1 : Int), .int .i64 (q.2.1.err : Int)], .int .i64 (q.2.2 : Int)]) ∧ Stands t k1 q.2.1.err q.2.1 ∧ Below w.heap.size w w'
theorem many_ret {w Z : World} {t : ByteArray} {n er : Nat} {S : St} {k1 : Nat} {act : Act} (h4 : act.tmps[4]?.getD undef = .int .i64 (n : Int)) (h5 : act.tmps[5]?.getD undef = .pointer (some ⟨w.heap.size + 1, 0, none⟩)) (h6 : act.tmps[6]?.getD undef = .int .i64 (er : Int)) (hd : act.defers = [])
    (hE : Z.heap[w.heap.size + 1]? = some (.cells #[.string t, .int .i64 (k1 : Int), .int .i64 (S.err : Int)] 79 (0, 0))) (hS : Stands t k1 S.err S) (hb : Below w.heap.size w Z) : bodyPost Tryz.prog Tryz.f36 (ManyPost t (n, S, er) w) .ret act Z := by
  obtain ⟨x0, x1, x2, _, _, _⟩ := cells3 hE
  refine bodyPost_ret (v := .tuple #[.int .i64 (n : Int), .agg #[.string t, .int .i64 (k1 : Int), .int .i64 (S.err : Int)], .int .i64 (er : Int)]) ?_ hd ⟨k1, rfl, hS, hb⟩
  simp [results, Tryz.results36, go_sem, h4, h5, h6, x0, x1, x2]

set_option maxRecDepth 100000 in
set_option maxHeartbeats 2000000 in
theorem refMany_any (w : World) (t : ByteArray) (k err : Nat) (s : St) (most : Nat) (hm : most ≤ 1000) (ht : t.size ≤ 140737489403904) (hst : Stands t k err s) :
    Calls Tryz.prog 36 #[.agg #[.string t, .int .i64 (k : Int), .int .i64 (err : Int)], .int .u64 (most : Int)] w (ManyPost t (rdMany s most) w) := by
  have HN := fun W => Lib.hid (refNum_plain W t k err s ht hst)
  have hlt := rdNum_lt s
  obtain ⟨q, hq⟩ : ∃ q, q = rdMany s most := ⟨_, rfl⟩
  rw [← hq]
  unfold rdMany at hq
  have HQ := Lib.hid hq
  clear hst hq
  generalize rdNum s = p at *
  obtain ⟨v, S⟩ := p
  dsimp only at HN hlt HQ
  go_enter Tryz.func36, Tryz.ntmps36
  have hz : ((w.alloc (RBox t k err)).alloc RNil).heap.size = w.heap.size + 1 + 1 := by rw [World.size_alloc, World.size_alloc]
  have hb0 : Below w.heap.size w ((w.alloc (RBox t k err)).alloc RNil) := ((Below.refl _ w).alloc (Nat.le_refl _) _).alloc (by simp) _
  have hi0 : ((w.alloc (RBox t k err)).alloc RNil).heap[w.heap.size + 1]? = some RNil := by rw [← World.size_alloc w (RBox t k err)]; exact heap_alloc_new _ _
  unfold RBox RNil at hz hb0 hi0
  go_wp2_with fail
  refine (HN _).out.mono ?_
  rintro e w1 ⟨k1, rfl, hS, hb⟩
  have hs1 := hb.size
  have HS := Lib.hid hS
  have hb1 := hb0.trans (hb.mono (by omega))
  have hi1 := (hb.block (w.heap.size + 1) (by omega)).trans hi0
  have hb2 : Below w1.heap.size w1 (w1.alloc (.cells #[.string t, .int .i64 (k1 : Int), .int .i64 (S.err : Int)] 79)) := (Below.refl _ _).alloc (Nat.le_refl _) _
  have hR4 : (w1.alloc (.cells #[.string t, .int .i64 (k1 : Int), .int .i64 (S.err : Int)] 79)).heap[w1.heap.size]? = some (.cells #[.string t, .int .i64 (k1 : Int), .int .i64 (S.err : Int)] 79 (0, 0)) := heap_alloc_new w1 _
  have HB2 := Lib.hid (hb1.trans (hb2.mono (by omega)))
  have HI2 := Lib.hid ((hb2.block (w.heap.size + 1) (by omega)).trans hi1)
  have n1 : w1.heap.size ≠ w.heap.size + 1 := by omega
  have n2 : w.heap.size + 1 ≠ w1.heap.size := by omega
  obtain ⟨z0, z1, z2, _, _, _⟩ := cells3 hR4
  obtain ⟨x0, x1, x2, xf0, xf1, xf2⟩ := cells3 HI2.out
  clear hS hb hb0 hb1 hb2 hi0 hi1 hR4 hz hs1 HN
  by_cases hv : most < v
  · have HE : Hid (q = (0, S, 4)) := Lib.hid (by rw [HQ.out, if_pos hv])
    have q1 : decide (most < v) = true := by simpa using hv
    have q2 : decide ((most : Int) < (v : Int)) = true := by simp; omega
    clear hv HQ
    go_upto_region 3 with fail
    generalize w1.alloc (.cells #[.string t, .int .i64 (k1 : Int), .int .i64 (S.err : Int)] 79) = W2 at *
    generalize w1.heap.size = b1 at *
    go_region
    go_wp2_with fail
    rw [HE.out]
    exact many_ret (n := 0) (er := 4) rfl (by rfl) rfl rfl (put3_same HI2.out _ _ _) HS.out (Below.drew (put3_below HB2.out (by omega) _ _ _))
  · have HE : Hid (q = (v, S, S.err)) := Lib.hid (by rw [HQ.out, if_neg hv])
    have q1 : decide (most < v) = false := by simpa using hv
    have q2 : decide ((most : Int) < (v : Int)) = false := by simp; omega
    have hvs : v ≤ 1000 := by omega
    clear hv HQ
    go_upto_region 4 with fail
    generalize w1.alloc (.cells #[.string t, .int .i64 (k1 : Int), .int .i64 (S.err : Int)] 79) = W2 at *
    generalize w1.heap.size = b1 at *
    go_region
    go_wp2_with fail
    rw [HE.out]
    exact many_ret rfl (by rfl) rfl rfl (put3_same HI2.out _ _ _) HS.out (Below.drew (put3_below HB2.out (by omega) _ _ _))
end Go.Proofs.YtahejekcfgkiaaaGreatDoor.pgm
