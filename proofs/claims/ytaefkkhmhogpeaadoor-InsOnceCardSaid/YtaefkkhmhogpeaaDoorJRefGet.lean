/-
  The document's own answer of the instruction with which bytes begin. A text of at most two to the forty-seventh bytes.
-/
import Derived.Test.YtaefkkhmhogpeaaDoorJRefRead
namespace Go.Proofs.YtaefkkhmhogpeaaDoor.inst
open Go.RowKit Go.ChangeShapes
open Go.Proofs.YtaefkkhmhogpeaaDoor.oper (ret_int ret_bool ret_string)
open Go.Proofs.YtaefkkhmhogpeaaDoor.octet (St rdByte rdNum rdInt Stands)
set_option linter.unusedVariables false

theorem got_read (l : List UInt8) : getI l = if (readI ⟨l, 0⟩).e ≠ 0 then .bad (readI ⟨l, 0⟩).e else ⟨(readI ⟨l, 0⟩).o, (readI ⟨l, 0⟩).a, (readI ⟨l, 0⟩).b, l.length - (readI ⟨l, 0⟩).s.rest.length, 0⟩ := by
  unfold getI readI
  dsimp only
  by_cases h1 : (rdByte ⟨l, 0⟩).2.err ≠ 0
  · simp only [if_pos h1]
  · simp only [if_neg h1]
    by_cases h2 : 51 < (rdByte ⟨l, 0⟩).1
    · simp only [if_pos h2]
      rfl
    · simp only [if_neg h2]
      by_cases h3 : (rdOpds (form ((rdByte ⟨l, 0⟩).1 : Int)) (rdByte ⟨l, 0⟩).2 (form ((rdByte ⟨l, 0⟩).1 : Int)).length).2.err ≠ 0
      · simp only [if_pos h3]
      · simp only [if_neg h3]
        by_cases h4 : chk ((rdByte ⟨l, 0⟩).1 : Int) ((rdOpds (form ((rdByte ⟨l, 0⟩).1 : Int)) (rdByte ⟨l, 0⟩).2 (form ((rdByte ⟨l, 0⟩).1 : Int)).length).1.getD 0 0) ((rdOpds (form ((rdByte ⟨l, 0⟩).1 : Int)) (rdByte ⟨l, 0⟩).2 (form ((rdByte ⟨l, 0⟩).1 : Int)).length).1.getD 1 0) ≠ 0
        · simp only [if_pos h4]
        · simp only [if_neg h4]
          rfl

/-- What a reading of bytes tells. -/
def GotPost (g : Got) (w : World) (e : Ending) (w' : World) : Prop :=
  e = .returned (.tuple #[.agg #[.int .i64 g.o, .int .i64 g.a, .int .i64 g.b], .int .i64 (g.n : Int), .int .i64 (g.e : Int)]) ∧ Below w.heap.size w w'

theorem get_ret {w Z : World} {g : Got} {act : Act} (h2 : act.tmps[2]?.getD undef = .pointer (some ⟨w.heap.size, 0, none⟩)) (h3 : act.tmps[3]?.getD undef = .int .i64 (g.n : Int)) (h4 : act.tmps[4]?.getD undef = .int .i64 (g.e : Int)) (hd : act.defers = [])
    (hE : Z.heap[w.heap.size]? = some (.cells #[.int .i64 g.o, .int .i64 g.a, .int .i64 g.b] 23 (0, 0))) (hb : Below w.heap.size w Z) : bodyPost Tryd.prog Tryd.f18 (GotPost g w) .ret act Z := by
  obtain ⟨x0, x1, x2, _, _, _⟩ := cells3 hE
  refine bodyPost_ret (v := .tuple #[.agg #[.int .i64 g.o, .int .i64 g.a, .int .i64 g.b], .int .i64 (g.n : Int), .int .i64 (g.e : Int)]) ?_ hd ⟨rfl, hb⟩
  simp [results, Tryd.results18, go_sem, h2, h3, h4, x0, x1, x2]

set_option maxHeartbeats 2000000 in
theorem refGet_any (w : World) (t : ByteArray) (ht : t.size ≤ 140737488355328) :
    Calls Tryd.prog 18 #[.string t] w (GotPost (getI t.data.toList) w) := by
  have hst : Stands t 0 0 ⟨t.data.toList, 0⟩ := ⟨Nat.zero_le _, rfl, rfl, fun h => absurd rfl h⟩
  have HR := fun W => Lib.hid (refRead_any W t 0 0 ⟨t.data.toList, 0⟩ ht hst)
  unfold ReadPost at HR
  have HG := Lib.hid (got_read t.data.toList)
  clear hst
  generalize readI ⟨t.data.toList, 0⟩ = r at *
  obtain ⟨o, a, b, s, e⟩ := r
  dsimp only at HG HR
  go_enter Tryd.func18, Tryd.ntmps18
  go_wp2_with fail
  refine (HR _).out.mono ?_
  rintro e1 w1 ⟨k, rfl, hS, hb⟩
  have HS := Lib.hid hS
  have HB := Lib.hid hb
  clear hS hb
  go_upto_region 2 with fail
  have hz : (w.alloc (.cells #[.int .i64 0, .int .i64 0, .int .i64 0] 23)).heap.size = w.heap.size + 1 := World.size_alloc w _
  have hs := HB.out.size
  have hb2 : Below w.heap.size w ((w1.alloc (.cells #[.int .i64 o, .int .i64 a, .int .i64 b] 23)).alloc (.cells #[.string t, .int .i64 (k : Int), .int .i64 (s.err : Int)] 76)) :=
    (((Below.refl _ w).alloc (Nat.le_refl _) _).trans (HB.out.mono (by omega))).trans (((Below.refl _ w1).alloc (by omega) _).alloc (by simp; omega) _)
  have h0 : ((w1.alloc (.cells #[.int .i64 o, .int .i64 a, .int .i64 b] 23)).alloc (.cells #[.string t, .int .i64 (k : Int), .int .i64 (s.err : Int)] 76)).heap[w.heap.size]? = some (.cells #[.int .i64 0, .int .i64 0, .int .i64 0] 23 (0, 0)) :=
    (Below.heap_alloc _ _ _ (by simp; omega)).trans ((Below.heap_alloc _ _ _ (by omega)).trans ((HB.out.block _ (by omega)).trans (heap_alloc_new w _)))
  have h1 : ((w1.alloc (.cells #[.int .i64 o, .int .i64 a, .int .i64 b] 23)).alloc (.cells #[.string t, .int .i64 (k : Int), .int .i64 (s.err : Int)] 76)).heap[w1.heap.size]? = some (.cells #[.int .i64 o, .int .i64 a, .int .i64 b] 23 (0, 0)) :=
    (Below.heap_alloc _ _ _ (by simp)).trans (heap_alloc_new w1 _)
  have h2 : ((w1.alloc (.cells #[.int .i64 o, .int .i64 a, .int .i64 b] 23)).alloc (.cells #[.string t, .int .i64 (k : Int), .int .i64 (s.err : Int)] 76)).heap[w1.heap.size + 1]? = some (.cells #[.string t, .int .i64 (k : Int), .int .i64 (s.err : Int)] 76 (0, 0)) :=
    (by rw [← World.size_alloc w1 (.cells #[.int .i64 o, .int .i64 a, .int .i64 b] 23)]; exact heap_alloc_new _ _)
  have n1 : w1.heap.size ≠ w.heap.size := by omega
  have n2 : w1.heap.size + 1 ≠ w.heap.size := by omega
  have HB2 := Lib.hid hb2
  have H0 := Lib.hid h0
  obtain ⟨x0, x1, x2, xf0, xf1, xf2⟩ := cells3 h0
  obtain ⟨y0, y1, y2, _, _, _⟩ := cells3 h1
  obtain ⟨z0, z1, z2, _, _, _⟩ := cells3 h2
  clear hb2 h0 h1 h2 hz hs HB HR
  generalize (w1.alloc (.cells #[.int .i64 o, .int .i64 a, .int .i64 b] 23)).alloc (.cells #[.string t, .int .i64 (k : Int), .int .i64 (s.err : Int)] 76) = W at *
  generalize w1.heap.size = q at *
  by_cases he : e = 0
  · have HE : Hid (getI t.data.toList = ⟨o, a, b, k, 0⟩) := Lib.hid (by
      rw [HG.out, if_neg (by simp [he])]
      have h1 := HS.out.1
      have h2 := HS.out.2.1
      congr 1
      rw [h2, List.length_drop, ← size_list]
      omega)
    have he' : ((e : Int) != 0) = false := by simp [he]
    clear he HG
    go_wp2_with fail
    go_region
    go_wp2_with fail
    exact get_ret (by rfl) (by rw [HE.out]; rfl) (by rw [HE.out]; rfl) rfl (by rw [HE.out]; exact put3_same H0.out _ _ _) (put3_below HB2.out (Nat.le_refl _) _ _ _).drew
  · have HE : Hid (getI t.data.toList = .bad e) := Lib.hid (by rw [HG.out, if_pos he])
    have he' : ((e : Int) != 0) = true := by simpa using he
    clear he HG
    go_wp2_with fail
    exact get_ret (by rfl) (by rw [HE.out]; rfl) (by rw [HE.out]; rfl) rfl (by rw [HE.out]; exact put3_same H0.out _ _ _) (put3_below HB2.out (Nat.le_refl _) _ _ _)
end Go.Proofs.YtaefkkhmhogpeaaDoor.inst
