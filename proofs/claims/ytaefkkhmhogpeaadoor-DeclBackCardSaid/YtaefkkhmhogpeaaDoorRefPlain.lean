/-
  The document's reader, its calls by plain values: a byte, a number, a number with a sign, each from where it stands. A text of at most two to the forty-seventh bytes.
-/
import Derived.Test.YtaefkkhmhogpeaaDoorRefText
namespace Go.Proofs.YtaefkkhmhogpeaaDoor.octet
open Go.RowKit Go.ChangeShapes
set_option linter.unusedVariables false

theorem rest_le {t : ByteArray} {k err : Nat} {s : St} (h : Stands t k err s) (ht : t.size ≤ 140737488355328) : s.rest.length ≤ 140737488355328 := by
  have hsz : t.data.toList.length = t.size := by rw [Array.length_toList]; rfl
  rw [h.2.1, List.length_drop]
  omega
theorem refByte_plain (w : World) (t : ByteArray) (k err : Nat) (s : St) (ht : t.size ≤ 140737488355328) (hst : Stands t k err s) :
    Calls Tryd.prog 63 #[.agg #[.string t, .int .i64 (k : Int), .int .i64 (err : Int)]] w fun e w' => ∃ k1 : Nat, e = .returned (.tuple #[.int .i64 ((rdByte s).1 : Int), .agg #[.string t, .int .i64 (k1 : Int), .int .i64 ((rdByte s).2.err : Int)]]) ∧ Stands t k1 (rdByte s).2.err (rdByte s).2 ∧ Below w.heap.size w w' := by
  obtain ⟨k1, h, hs⟩ := refByte_stands w t k err s ht hst
  exact h.mono fun e w' ⟨he, hb⟩ => ⟨k1, he, hs, hb⟩
theorem refInt_plain (w : World) (t : ByteArray) (k err : Nat) (s : St) (ht : t.size ≤ 140737488355328) (hst : Stands t k err s) :
    Calls Tryd.prog 64 #[.agg #[.string t, .int .i64 (k : Int), .int .i64 (err : Int)]] w fun e w' => ∃ k1 : Nat, e = .returned (.tuple #[.int .i64 (rdInt s).1, .agg #[.string t, .int .i64 (k1 : Int), .int .i64 ((rdInt s).2.err : Int)]]) ∧ Stands t k1 (rdInt s).2.err (rdInt s).2 ∧ Below w.heap.size w w' :=
  (refInt_any w t k err s ht hst).mono fun e w' ⟨⟨k1, he, hs⟩, hb⟩ => ⟨k1, he, hs, hb⟩
end Go.Proofs.YtaefkkhmhogpeaaDoor.octet
