/-
  Texts of one claim in one file: PRef. Each has its own sentence, with its conditions.
-/
import Derived.Test.YtjbcmedljgafkaaDoorZq1
import Derived.PlainAid
import Derived.BigQuiet
import Derived.Deep.QuietTactic
import Derived.Deep.RegionHeld3
/-
  The document's own answers of operations, each by itself: its tables, which numbers are operations, the operation of a name, form, what is taken and laid. No condition but that an operand is not the greatest number.
-/

namespace Go.Proofs.YtjbcmedljgafkaaDoor.oper
open Go.RowKit Go.ChangeShapes
set_option linter.unusedVariables false

theorem row_cell {α : Type} (f : α → Value) (l : List α) (d : α) (T : TypeId) (w : World) {j : Nat} (hj : j < l.length) : (w.alloc (.cells (l.map f).toArray T)).cell? ⟨w.heap.size, j, none⟩ = some (f (l.getD j d)) := by
  have hb : (w.alloc (.cells (l.map f).toArray T)).heap[w.heap.size]? = some (.cells (l.map f).toArray T) := heap_alloc_new w _
  unfold World.cell?
  rw [hb]
  simp [List.getElem?_eq_getElem hj]

def fmBlock : Obj := .cells (fm.map fun x => .string x).toArray 9
theorem fmBlock_cell (w : World) {j : Nat} (hj : j < 52) : (w.alloc fmBlock).cell? ⟨w.heap.size, j, none⟩ = some (.string (fm.getD j ⟨#[]⟩)) :=
  row_cell (fun x => .string x) fm ⟨#[]⟩ 9 w hj

def tkBlock : Obj := .cells (tk.map fun x => .int .i64 x).toArray 3
theorem tkBlock_cell (w : World) {j : Nat} (hj : j < 52) : (w.alloc tkBlock).cell? ⟨w.heap.size, j, none⟩ = some (.int .i64 (tk.getD j 0)) :=
  row_cell (fun x => .int .i64 x) tk 0 3 w hj

def lyBlock : Obj := .cells (ly.map fun x => .int .i64 x).toArray 3
theorem lyBlock_cell (w : World) {j : Nat} (hj : j < 52) : (w.alloc lyBlock).cell? ⟨w.heap.size, j, none⟩ = some (.int .i64 (ly.getD j 0)) :=
  row_cell (fun x => .int .i64 x) ly 0 3 w hj

theorem refForms_any (w : World) : Calls Tryd.prog 74 #[] w fun e w' => e = .returned (.slice (some ⟨w.heap.size, 0, none⟩) 52 52) ∧ w' = w.alloc fmBlock := by
  go_enter Tryd.func74, Tryd.ntmps74
  go_wp2
  go_ret
  exact ⟨rfl, rfl⟩

theorem refTakes_any (w : World) : Calls Tryd.prog 47 #[] w fun e w' => e = .returned (.slice (some ⟨w.heap.size, 0, none⟩) 52 52) ∧ w' = w.alloc tkBlock := by
  go_enter Tryd.func47, Tryd.ntmps47
  go_wp2
  go_ret
  exact ⟨rfl, rfl⟩

theorem refLays_any (w : World) : Calls Tryd.prog 34 #[] w fun e w' => e = .returned (.slice (some ⟨w.heap.size, 0, none⟩) 52 52) ∧ w' = w.alloc lyBlock := by
  go_enter Tryd.func34, Tryd.ntmps34
  go_wp2
  go_ret
  exact ⟨rfl, rfl⟩

theorem refKnown_yes (n : Int) (h0 : 0 ≤ n) (h1 : n ≤ 51) (w : World) : Calls Tryd.prog 33 #[.int .i64 n] w fun e w' => e = .returned (.bool true) ∧ w = w' := by
  go_enter Tryd.func33, Tryd.ntmps33
  go_wp2
  go_ret
  exact ⟨rfl, rfl⟩
theorem refKnown_no (n : Int) (h : n < 0 ∨ 51 < n) (w : World) : Calls Tryd.prog 33 #[.int .i64 n] w fun e w' => e = .returned (.bool false) ∧ w = w' := by
  by_cases h0 : 0 ≤ n
  · have hd : decide (n ≤ 51) = false := by rw [decide_eq_false_iff_not]; omega
    go_enter Tryd.func33, Tryd.ntmps33
    go_wp2
    go_ret
    exact ⟨rfl, rfl⟩
  · have hd : decide (0 ≤ n) = false := by simpa using h0
    go_enter Tryd.func33, Tryd.ntmps33
    go_wp2
    go_ret
    exact ⟨rfl, rfl⟩

theorem refForm_yes (k : Nat) (hk : k < 52) (w : World) : Calls Tryd.prog 55 #[.int .i64 (k : Int)] w fun e w' => e = .returned (.string (txt fm (k : Int))) ∧ Below w.heap.size w w' := by
  rw [txt_at hk]
  have HK := Lib.hid (refKnown_yes k (by omega) (by omega) w)
  have HT := Lib.hid (refForms_any w)
  have hc := fmBlock_cell w hk
  have h1 : (k : Int) < 52 := by omega
  have HB := Lib.hid ((Below.refl w.heap.size w).alloc (Nat.le_refl _) fmBlock)
  generalize fm.getD k ⟨#[]⟩ = x at *
  generalize fmBlock = B at *
  go_enter Tryd.func55, Tryd.ntmps55
  go_wp2_with fail
  refine HK.out.mono ?_
  rintro e w1 ⟨rfl, rfl⟩
  go_wp2_with fail
  refine HT.out.mono ?_
  rintro e w1 ⟨rfl, rfl⟩
  go_wp2
  go_ret
  exact ⟨rfl, HB.out⟩
theorem refForm_no (n : Int) (h : n < 0 ∨ 51 < n) (w : World) : Calls Tryd.prog 55 #[.int .i64 n] w fun e w' => e = .returned (.string (txt fm n)) ∧ Below w.heap.size w w' := by
  rw [txt_no h]
  have HK := Lib.hid (refKnown_no n h w)
  clear h
  go_enter Tryd.func55, Tryd.ntmps55
  go_wp2_with fail
  refine HK.out.mono ?_
  rintro e w1 ⟨rfl, rfl⟩
  go_wp2
  go_ret
  exact ⟨rfl, Below.refl _ _⟩
theorem refForm_any (n : Int) (w : World) : Calls Tryd.prog 55 #[.int .i64 n] w fun e w' => e = .returned (.string (txt fm n)) ∧ Below w.heap.size w w' := by
  by_cases h : 0 ≤ n ∧ n ≤ 51
  · obtain ⟨k, hk, rfl⟩ := nat_of h
    exact refForm_yes k hk w
  · exact refForm_no n (by omega) w

theorem refPushes_yes (k : Nat) (hk : k < 52) (w : World) : Calls Tryd.prog 14 #[.int .i64 (k : Int)] w fun e w' => e = .returned (.int .i64 (numb ly (k : Int))) ∧ Below w.heap.size w w' := by
  rw [numb_at hk]
  have HK := Lib.hid (refKnown_yes k (by omega) (by omega) w)
  have HT := Lib.hid (refLays_any w)
  have hc := lyBlock_cell w hk
  have h1 : (k : Int) < 52 := by omega
  have HB := Lib.hid ((Below.refl w.heap.size w).alloc (Nat.le_refl _) lyBlock)
  generalize ly.getD k 0 = x at *
  generalize lyBlock = B at *
  go_enter Tryd.func14, Tryd.ntmps14
  go_wp2_with fail
  refine HK.out.mono ?_
  rintro e w1 ⟨rfl, rfl⟩
  go_wp2_with fail
  refine HT.out.mono ?_
  rintro e w1 ⟨rfl, rfl⟩
  go_wp2
  go_ret
  exact ⟨rfl, HB.out⟩
theorem refPushes_no (n : Int) (h : n < 0 ∨ 51 < n) (w : World) : Calls Tryd.prog 14 #[.int .i64 n] w fun e w' => e = .returned (.int .i64 (numb ly n)) ∧ Below w.heap.size w w' := by
  rw [numb_no h]
  have HK := Lib.hid (refKnown_no n h w)
  clear h
  go_enter Tryd.func14, Tryd.ntmps14
  go_wp2_with fail
  refine HK.out.mono ?_
  rintro e w1 ⟨rfl, rfl⟩
  go_wp2
  go_ret
  exact ⟨rfl, Below.refl _ _⟩
theorem refPushes_any (n : Int) (w : World) : Calls Tryd.prog 14 #[.int .i64 n] w fun e w' => e = .returned (.int .i64 (numb ly n)) ∧ Below w.heap.size w w' := by
  by_cases h : 0 ≤ n ∧ n ≤ 51
  · obtain ⟨k, hk, rfl⟩ := nat_of h
    exact refPushes_yes k hk w
  · exact refPushes_no n (by omega) w

end Go.Proofs.YtjbcmedljgafkaaDoor.oper
