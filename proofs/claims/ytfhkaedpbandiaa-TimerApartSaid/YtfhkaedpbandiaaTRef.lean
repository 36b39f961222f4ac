/-
  The document's list: without an id, with one, and where an id stands. No condition.
-/
import Derived.Test.YtfhkaedpbandiaaTClone
namespace Go.Proofs.Ytfhkaedpbandiaa.timer
open Go.RowKit
attribute [local go_sem ↓] Go.wp_at_zero Go.wp_at_succ

theorem take_g {m : List E} {k : Nat} (hk : k < m.length) : m.take (k + 1) = m.take k ++ [g m k] := by
  rw [g_get hk, List.take_succ_eq_append_getElem hk]
theorem take_all {m : List E} {k : Nat} (hk : m.length ≤ k) : m.take k = m := List.take_of_length_le hk

/-- A list of a call's own. -/
def RefList (w : World) (m : List E) (e : Ending) (w' : World) : Prop :=
  ∃ gg cap, e = .returned (.slice (some ⟨gg, 0, none⟩) m.length cap) ∧ Row 57 w' w.heap.size gg cap m ∧ Below w.heap.size w w'
def RDHead (w : World) (m : List E) (x : Int) (v i : Value) (wr : World) : Prop :=
  ∃ (k gg cap : Nat), i = .int .i64 (k : Int) ∧ k ≤ m.length ∧ v = .slice (some ⟨gg, 0, none⟩) (drop (m.take k) x).length cap ∧ Row 57 wr w.heap.size gg cap (drop (m.take k) x) ∧ Below w.heap.size w wr

set_option maxHeartbeats 1000000 in
theorem refDrop_any (w : World) (b cp : Nat) (m : List E) (x : Int) (hr : Row 57 w 0 b cp m) (hm : m.length ≤ 4096) :
    Calls Try.prog 20 #[.slice (some ⟨b, 0, none⟩) m.length cp, .int .i64 x] w (RefList w (drop m x)) := by
  have hlt := hr.lt.2
  have HR := Lib.hid hr
  clear hr
  have H0 : Hid (RDHead w m x (.slice (some ⟨w.heap.size, 0, none⟩) 0 0) (.int .i64 0) (w.alloc (.cells #[] 57))) :=
    ⟨0, w.heap.size, 0, rfl, Nat.zero_le _, rfl, Row.nil (heap_alloc_new w _), (Below.refl _ _).alloc (Nat.le_refl _) _⟩
  go_enter Try.func20, Try.ntmps20
  go_wp2_with fail
  go_loopw [5, 6] (RDHead w m x) (fun _ i _ => m.length - (intOf i).toNat)
  case atStart => exact H0.out
  case round =>
    clear H0
    obtain ⟨k, gg, cap, rfl, hk, rfl, hrow, hb⟩ := hrel
    by_cases hlk : k < m.length
    · obtain ⟨c0, c1, _, _⟩ := (HR.out.keep (hb.block b hlt)).cells hlk
      have htk := take_g hlk
      have hgl := hrow.lt
      have hcap := hrow.cap
      have hdl := drop_length (m.take k) x
      have hdl2 : (drop (m.take k) x).length ≤ 4096 := by rw [List.length_take] at hdl; omega
      have hbs := hb.size
      have k1 : (0 : Int) ≤ (k : Int) := by omega
      have k2 : (k : Int) < (m.length : Int) := by omega
      by_cases hx : (g m k).1 = x
      · have hd : drop (m.take (k + 1)) x = drop (m.take k) x := by rw [htk, drop_append, drop_one, if_pos hx, List.append_nil]
        have HT : Hid (RDHead w m x (.slice (some ⟨gg, 0, none⟩) (drop (m.take k) x).length cap) (.int .i64 ((k + 1 : Nat) : Int)) wr) :=
          ⟨k + 1, gg, cap, rfl, hlk, by rw [hd], by rw [hd]; exact hrow, hb⟩
        clear hd htk hrow hb hcap hdl
        generalize drop (m.take k) x = dk at *
        generalize g m k = e0 at *
        subst hx
        go_wp2_with fail
        exact ⟨HT.out, by simp [intOf]; omega⟩
      · have hd : drop (m.take (k + 1)) x = drop (m.take k) x ++ [g m k] := by rw [htk, drop_append, drop_one, if_neg hx]
        have hrow1 : Own 57 (wr.alloc (.cells #[.int .i64 (g m k).1, .int .i64 (g m k).2] 57)) w.heap.size (.slice (some ⟨gg, 0, none⟩) (drop (m.take k) x).length cap) (drop (m.take k) x) := hrow.keep (Below.heap_alloc _ _ _ hgl.2)
        have hsrc := heap_alloc_new wr (.cells #[.int .i64 (g m k).1, .int .i64 (g m k).2] 57)
        have HB := Lib.hid (hb.alloc hbs (.cells #[.int .i64 (g m k).1, .int .i64 (g m k).2] 57))
        have HD := Lib.hid hd
        clear hd htk hrow hb hcap hdl
        generalize drop (m.take k) x = dk at *
        generalize g m k = e0 at *
        have ne1 : (e0.1 != x) = true := by simpa using hx
        have ne2 : (e0.1 == x) = false := by simpa using hx
        go_wp2_with (at_builtin; refine wpList_appO (by rfl) (.tmp 21) (.tmp 26) (by rfl) w.heap.size (dk.length + 1) wr.heap.size (.slice (some ⟨gg, 0, none⟩) dk.length cap) dk e0 (by rfl) rfl hrow1 (by rfl) hsrc (by omega) (by simp; omega) ?_)
        intro g2 cap2 w2 hr2 hg2 _
        have HT : Hid (RDHead w m x (.slice (some ⟨g2, 0, none⟩) (dk.length + 1) cap2) (.int .i64 ((k + 1 : Nat) : Int)) w2) :=
          ⟨k + 1, g2, cap2, rfl, hlk, by rw [HD.out, List.length_append, List.length_singleton], by rw [HD.out]; exact hr2, HB.out.grown hg2 (by simp; omega) (fun j e => by simp [Value.ownBlock] at e; omega)⟩
        clear hr2 hg2 hrow1 hsrc HB HD c0 c1
        go_wp2_with fail
        exact ⟨HT.out, by simp [intOf]; omega⟩
    · have HT : Hid (RefList w (drop m x) (.returned (.slice (some ⟨gg, 0, none⟩) (drop (m.take k) x).length cap)) wr) := by
        rw [take_all (by omega : m.length ≤ k)] at hrow ⊢
        exact ⟨gg, cap, rfl, hrow, hb⟩
      clear hrow hb
      generalize drop (m.take k) x = dk at *
      go_wp2_with fail
      go_ret
      exact HT.out

set_option maxHeartbeats 400000 in
theorem refSet_any (w : World) (b cp : Nat) (m : List E) (x y : Int) (hr : Row 57 w 0 b cp m) (hm : m.length ≤ 4000) :
    Calls Try.prog 11 #[.slice (some ⟨b, 0, none⟩) m.length cp, .int .i64 x, .int .i64 y] w (RefList w (setl m x y)) := by
  have hd := refDrop_any w b cp m x hr (by omega)
  have hdl := drop_length m x
  clear hr
  unfold setl
  generalize drop m x = dk at *
  go_enter Try.func11, Try.ntmps11
  go_wp2_with fail
  refine hd.mono ?_
  rintro e w1 ⟨gg, cap, rfl, hrow, hb⟩
  have hgl := hrow.lt
  have hbs := hb.size
  have hrow1 : Own 57 (w1.alloc (.cells #[.int .i64 x, .int .i64 y] 57)) w.heap.size (.slice (some ⟨gg, 0, none⟩) dk.length cap) dk := hrow.keep (Below.heap_alloc _ _ _ hgl.2)
  have hsrc := heap_alloc_new w1 (.cells #[.int .i64 x, .int .i64 y] 57)
  have HB := Lib.hid (hb.alloc hbs (.cells #[.int .i64 x, .int .i64 y] 57))
  clear hd hrow hb
  go_wp2_with (at_builtin; refine wpList_appO (by rfl) (.tmp 9) (.tmp 13) (by rfl) w.heap.size (dk.length + 1) w1.heap.size (.slice (some ⟨gg, 0, none⟩) dk.length cap) dk (x, y) (by rfl) rfl hrow1 (by rfl) hsrc (by omega) (by simp; omega) ?_)
  intro g2 cap2 w2 hr2 hg2 _
  have HT : Hid (RefList w (dk ++ [(x, y)]) (.returned (.slice (some ⟨g2, 0, none⟩) (dk.length + 1) cap2)) w2) :=
    ⟨g2, cap2, by rw [List.length_append, List.length_singleton], hr2, HB.out.grown hg2 (by simp; omega) (fun j e => by simp [Value.ownBlock] at e; omega)⟩
  clear hr2 hg2 hrow1 hsrc HB
  go_wp2_with fail
  go_ret
  exact HT.out

def RFound (w : World) (m : List E) (x : Int) (e : Ending) (w' : World) : Prop :=
  w = w' ∧ ((∃ k : Nat, e = .returned (.int .i64 (k : Int)) ∧ k < m.length ∧ (g m k).1 = x) ∨ (e = .returned (.int .i64 (-1)) ∧ ∀ f ∈ m, f.1 ≠ x))
set_option maxHeartbeats 400000 in
theorem refFind_any (w : World) (b cp : Nat) (m : List E) (x : Int) (hr : Row 57 w 0 b cp m) (hm : m.length ≤ 4096) :
    Calls Try.prog 21 #[.slice (some ⟨b, 0, none⟩) m.length cp, .int .i64 x] w (RFound w m x) := by
  have HR := Lib.hid hr
  clear hr
  go_enter Try.func21, Try.ntmps21
  go_wp2_with fail
  go_loop [5] (fun i => ∃ k : Nat, k ≤ m.length ∧ i = .int .i64 (k : Int) ∧ Hid (∀ j, j < k → (g m j).1 ≠ x)) (fun i => m.length - (intOf i).toNat)
  case atStart => exact ⟨0, Nat.zero_le _, rfl, fun j hj => absurd hj (by omega)⟩
  case round =>
    obtain ⟨k, hk, rfl, HN⟩ := hrel
    by_cases hlk : k < m.length
    · obtain ⟨c0, c1, _, _⟩ := HR.out.cells hlk
      have k1 : (0 : Int) ≤ (k : Int) := by omega
      have k2 : (k : Int) < (m.length : Int) := by omega
      by_cases hx : (g m k).1 = x
      · have HT : Hid (RFound w m x (.returned (.int .i64 (k : Int))) w) := ⟨rfl, .inl ⟨k, rfl, hlk, hx⟩⟩
        generalize g m k = e0 at *
        subst hx
        clear HN
        go_wp2_with fail
        go_ret
        exact HT.out
      · have HN2 : Hid (∀ j, j < k + 1 → (g m j).1 ≠ x) := Lib.hid fun j hj => by
          by_cases hjk : j = k
          · subst hjk
            exact hx
          · exact HN.out j (by omega)
        generalize g m k = e0 at *
        have ne2 : (e0.1 == x) = false := by simpa using hx
        clear HN
        go_wp2_with fail
        go_round
        case rel => exact ⟨k + 1, by omega, by go_num, HN2⟩
        case measure => simp [intOf]; omega
    · have HT : Hid (RFound w m x (.returned (.int .i64 (-1))) w) := ⟨rfl, .inr ⟨rfl, fun f hf => by
        obtain ⟨j, hj, rfl⟩ := mem_g hf
        exact HN.out j (by omega)⟩⟩
      clear HN
      go_wp2_with fail
      go_ret
      exact HT.out
end Go.Proofs.Ytfhkaedpbandiaa.timer
