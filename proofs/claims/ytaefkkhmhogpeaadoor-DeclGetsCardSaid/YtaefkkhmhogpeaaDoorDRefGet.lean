/-
  The document's own answer of the objects with which bytes begin, and the names of kinds. A text of at most two to the forty-seventh bytes.
-/
import Derived.Test.YtaefkkhmhogpeaaDoorDRefRead2
namespace Go.Proofs.YtaefkkhmhogpeaaDoor.objs
open Go.RowKit Go.ChangeShapes
open Go.Proofs.YtaefkkhmhogpeaaDoor.octet (St rdByte rdNum rdInt Stands)
set_option linter.unusedVariables false

theorem size_list (y : ByteArray) : y.size = y.data.toList.length := by rw [Array.length_toList]; rfl
/-- What a reading of bytes tells. -/
def GotPost (g : List De × Nat × Nat) (w : World) (e : Ending) (w' : World) : Prop :=
  ∃ v, e = .returned (.tuple #[v, .int .i64 (g.2.1 : Int), .int .i64 (g.2.2 : Int)]) ∧ (∃ A cap, v = .slice A g.1.length cap ∧ DAt w' A g.1) ∧ Below w.heap.size w w'
theorem got_read (l : List UInt8) : getL l = if (readL ⟨l, 0⟩).2.2 ≠ 0 then ([], 0, (readL ⟨l, 0⟩).2.2) else ((readL ⟨l, 0⟩).1, l.length - (readL ⟨l, 0⟩).2.1.rest.length, 0) := rfl

set_option maxRecDepth 100000 in
set_option maxHeartbeats 2000000 in
theorem refGet8_any (w : World) (t : ByteArray) (ht : t.size ≤ 140737488355328) :
    Calls Tryd.prog 25 #[.string t] w (GotPost (getL t.data.toList) w) := by
  have hst : Stands t 0 0 ⟨t.data.toList, 0⟩ := ⟨Nat.zero_le _, rfl, rfl, fun h => absurd rfl h⟩
  have HR := fun W => Lib.hid (refRead8_any W t 0 0 ⟨t.data.toList, 0⟩ ht hst)
  unfold ReadPost8 at HR
  have HG := Lib.hid (got_read t.data.toList)
  clear hst
  obtain ⟨g, hg⟩ : ∃ g, g = getL t.data.toList := ⟨_, rfl⟩
  have HGg := Lib.hid hg
  rw [← hg]
  clear hg
  generalize readL ⟨t.data.toList, 0⟩ = r at *
  obtain ⟨ls, S, e⟩ := r
  dsimp only at HG HR
  unfold GotPost
  go_enter Tryd.func25, Tryd.ntmps25
  go_wp2_with fail
  refine (HR _).out.mono ?_
  rintro e1 w1 ⟨v, k, rfl, hS, ⟨base, hown, hbase⟩, hb⟩
  have HS := Lib.hid hS
  have HB := Lib.hid hb
  have HO := Lib.hid hown
  clear hS hb hown
  have hbL : Below w1.heap.size w1 (w1.alloc (.cells #[.string t, .int .i64 (k : Int), .int .i64 (S.err : Int)] 76)) := (Below.refl _ _).alloc (Nat.le_refl _) _
  have hR4 : (w1.alloc (.cells #[.string t, .int .i64 (k : Int), .int .i64 (S.err : Int)] 76)).heap[w1.heap.size]? = some (.cells #[.string t, .int .i64 (k : Int), .int .i64 (S.err : Int)] 76 (0, 0)) := heap_alloc_new w1 _
  have HO2 := Lib.hid (HO.out.next hbL)
  have HB2 := Lib.hid (HB.out.trans (hbL.mono HB.out.size))
  obtain ⟨z0, z1, z2, _, _, _⟩ := cells3 hR4
  clear hbL hR4 HO HB HR
  go_upto_region 2 with fail
  generalize w1.alloc (.cells #[.string t, .int .i64 (k : Int), .int .i64 (S.err : Int)] 76) = W2 at *
  generalize w1.heap.size = b at *
  by_cases he : e = 0
  · have HE : Hid (g = (ls, k, 0)) := Lib.hid (by
      rw [HGg.out, HG.out, if_neg (by simp [he])]
      have h1 := HS.out.1
      have h2 := HS.out.2.1
      rw [h2, List.length_drop, ← size_list]
      congr 2
      omega)
    have he' : ((e : Int) != 0) = false := by simp [he]
    obtain ⟨A, cap, hv⟩ := HO2.out.slice
    subst hv
    clear he HG
    go_wp2_with fail
    go_quiet (fail)
    go_wp2
    rw [HE.out]
    refine bodyPost_ret (v := .tuple #[.slice A ls.length cap, .int .i64 (k : Int), .int .i64 0]) (by simp [results, Tryd.results25, go_sem]) rfl ⟨_, rfl, ⟨A, cap, rfl, HO2.out.at.drewN _⟩, below_drewN HB2.out _⟩
  · have HE : Hid (g = ([], 0, e)) := Lib.hid (by rw [HGg.out, HG.out, if_pos he])
    have he' : ((e : Int) != 0) = true := by simpa using he
    clear he HG
    go_wp2_with fail
    rw [HE.out]
    exact bodyPost_ret (v := .tuple #[.slice none 0 0, .int .i64 0, .int .i64 (e : Int)]) (by simp [results, Tryd.results25, go_sem]) rfl ⟨_, rfl, ⟨none, 0, rfl, DAt.nil _ _⟩, HB2.out⟩

/-- The names, as a list that a call has made. -/
def NamesPost (w : World) (e : Ending) (w' : World) : Prop := ∃ g, e = .returned (.slice (some ⟨g, 0, none⟩) 8 8) ∧ (∀ j, j < 8 → w'.cell? ⟨g, j, none⟩ = some (.string (names.getD j ⟨#[]⟩))) ∧ Below w.heap.size w w'
theorem refNames8_any (w : World) : Calls Tryd.prog 27 #[] w (NamesPost w) := by
  have HB : Hid (Below w.heap.size w (w.alloc (.cells (names.map Value.string).toArray 9))) := Lib.hid ((Below.refl _ w).alloc (Nat.le_refl _) _)
  have HC : Hid (∀ j, j < 8 → (w.alloc (.cells (names.map Value.string).toArray 9)).cell? ⟨w.heap.size, j, none⟩ = some (.string (names.getD j ⟨#[]⟩))) := Lib.hid (by
    intro j hj
    unfold World.cell?
    rw [heap_alloc_new w _]
    rcases (by omega : j = 0 ∨ j = 1 ∨ j = 2 ∨ j = 3 ∨ j = 4 ∨ j = 5 ∨ j = 6 ∨ j = 7) with rfl | rfl | rfl | rfl | rfl | rfl | rfl | rfl <;> rfl)
  unfold NamesPost
  go_enter Tryd.func27, Tryd.ntmps27
  go_wp2
  exact bodyPost_ret (v := .slice (some ⟨w.heap.size, 0, none⟩) 8 8) (by simp [results, Tryd.results27, go_sem]) rfl ⟨_, rfl, HC.out, HB.out⟩
end Go.Proofs.YtaefkkhmhogpeaaDoor.objs
