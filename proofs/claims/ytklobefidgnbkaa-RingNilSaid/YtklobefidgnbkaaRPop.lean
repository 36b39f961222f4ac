/-
  Taking the last one and the first one, each by itself. No condition.
-/
import Derived.Test.YtklobefidgnbkaaRPut
namespace Go.Proofs.Ytklobefidgnbkaa.ring
open Go.RowKit

theorem popBack_nil (w : World) :
    Calls Try.prog 18 #[.pointer none] w fun e w' => e = .returned (.tuple #[.int .i64 0, .bool false]) ∧ w = w' := by
  go_enter Try.func18, Try.ntmps18
  go_wp2_with (first | (go_at_call 11; refine (len_nil _).mono ?_; rintro e w' ⟨rfl, rfl⟩) | (go_at_call 20; refine (at_nil _ _).mono ?_; rintro e w' ⟨rfl, rfl⟩))
  go_ret2
  exact ⟨rfl, rfl⟩
theorem popFront_nil (w : World) :
    Calls Try.prog 16 #[.pointer none] w fun e w' => e = .returned (.tuple #[.int .i64 0, .bool false]) ∧ w = w' := by
  go_enter Try.func16, Try.ntmps16
  go_wp2_with (go_at_call 20; refine (at_nil _ _).mono ?_; rintro e w' ⟨rfl, rfl⟩)
  go_ret2
  exact ⟨rfl, rfl⟩
theorem popBack_none (w : World) (br bi room : Nat) (h : Lies w br bi room []) :
    Calls Try.prog 18 #[.pointer (some ⟨br, 0, none⟩)] w fun e w' => e = .returned (.tuple #[.int .i64 0, .bool false]) ∧ w = w' := by
  obtain ⟨a, D, f, h, _⟩ := h
  have h1 := len_any w br bi a D f 0 room h
  have h2 := at_out w br bi a D f 0 room (-1) h (.inl (by omega))
  clear h
  go_enter Try.func18, Try.ntmps18
  go_wp2_with (first | (go_at_call 11; refine h1.mono ?_; rintro e w' ⟨rfl, rfl⟩) | (go_at_call 20; refine h2.mono ?_; rintro e w' ⟨rfl, rfl⟩))
  go_ret2
  exact ⟨rfl, rfl⟩
theorem popFront_none (w : World) (br bi room : Nat) (h : Lies w br bi room []) :
    Calls Try.prog 16 #[.pointer (some ⟨br, 0, none⟩)] w fun e w' => e = .returned (.tuple #[.int .i64 0, .bool false]) ∧ w = w' := by
  obtain ⟨a, D, f, h, _⟩ := h
  have h2 := at_out w br bi a D f 0 room 0 h (.inr (by simp))
  clear h
  go_enter Try.func16, Try.ntmps16
  go_wp2_with (go_at_call 20; refine h2.mono ?_; rintro e w' ⟨rfl, rfl⟩)
  go_ret2
  exact ⟨rfl, rfl⟩

set_option maxHeartbeats 400000 in
theorem popBack_any (w : World) (br bi room : Nat) (l : List Int) (x : Int) (h : Lies w br bi room (l ++ [x])) :
    Calls Try.prog 18 #[.pointer (some ⟨br, 0, none⟩)] w fun e w' => e = .returned (.tuple #[.int .i64 x, .bool true]) ∧ Lies w' br bi room l ∧ Frm br bi w w' := by
  obtain ⟨a, D, f, h, hv⟩ := h
  rw [List.length_append] at h hv
  change At w br bi a D f (l.length + 1) room at h
  change view D f (l.length + 1) = l ++ [x] at hv
  have hk := h.hk
  have hDn := Nat.le_trans h.hn h.hroom
  rw [view_succ] at hv
  obtain ⟨hv1, hv2⟩ := List.append_inj' hv rfl
  simp only [List.cons.injEq, and_true] at hv2
  have h1 := len_any w br bi a D f (l.length + 1) room h
  have h2 := at_in w br bi a D f (l.length + 1) room l.length h (by omega)
  rw [hv2] at h2
  have h3 := fun m => (h.drewN m).setCount l.length (by omega)
  have h4 := fun m => forget_any _ br bi a D f l.length room (l.length : Int) (h3 m) (by omega) (by omega) (by omega)
  rw [Int.toNat_natCast] at h4
  obtain ⟨_, _, c2, _, _, _, f2⟩ := h.cells
  have HV := Lib.hid hv1
  have H3 := Lib.hid h3
  have hfr := Lib.hid fun m => ((Frm.refl br bi w).drewN m).setCell (p := ⟨br, 2, none⟩) (.inl rfl) (.int .i64 (l.length : Int))
  clear h hv hv1 hv2 h3
  have hkk : l.length ≤ 4096 := by omega
  go_enter Try.func18, Try.ntmps18
  go_wp2_with fail
  refine h1.mono ?_
  rintro e w' ⟨rfl, rfl⟩
  go_wp2_with fail
  refine h2.mono ?_
  rintro e w' ⟨rfl, m, rfl⟩
  go_wp2_with fail
  refine (h4 m).mono ?_
  rintro e w' ⟨rfl, hA, hf⟩
  go_wp2_with fail
  go_ret2
  refine ⟨rfl, ⟨a, _, f, hA, ?_⟩, (hfr.out m).trans hf (.inl rfl) (.inr (.inl rfl))⟩
  rw [view_out (by omega)]
  exact HV.out

set_option maxHeartbeats 400000 in
theorem popFront_any (w : World) (br bi room : Nat) (l : List Int) (x : Int) (h : Lies w br bi room (x :: l)) :
    Calls Try.prog 16 #[.pointer (some ⟨br, 0, none⟩)] w fun e w' => e = .returned (.tuple #[.int .i64 x, .bool true]) ∧ Lies w' br bi room l ∧ Frm br bi w w' := by
  obtain ⟨a, D, f, h, hv⟩ := h
  change At w br bi a D f (l.length + 1) room at h
  change view D f (l.length + 1) = x :: l at hv
  have hk := h.hk
  have hDn := Nat.le_trans h.hn h.hroom
  have hf := h.hf
  rw [view_head] at hv
  obtain ⟨hv1, hv2⟩ := List.cons.inj hv
  have h2 := at_in w br bi a D f (l.length + 1) room 0 h (by omega)
  rw [Nat.add_zero, hv1] at h2
  have h4 := fun m => forget_any _ br bi a D f (l.length + 1) room 0 (h.drewN m) (by omega) (by omega) (by omega)
  rw [Int.toNat_zero, Nat.add_zero] at h4
  have HV := Lib.hid hv2
  have hfr := Lib.hid fun m => (Frm.refl br bi w).drewN m
  clear h hv hv1 hv2
  have hkk : l.length ≤ 4096 := by omega
  go_enter Try.func16, Try.ntmps16
  go_wp2_with fail
  refine h2.mono ?_
  rintro e w' ⟨rfl, m, rfl⟩
  go_wp2_with fail
  refine (h4 m).mono ?_
  rintro e w1 ⟨rfl, hA, hf1⟩
  have h5 := place_any w1 br bi a _ f (l.length + 1) room 1 hA (by rw [List.length_set]; omega) (by omega) (by omega)
  rw [List.length_set, show (1 : Int).toNat = 1 from rfl] at h5
  obtain ⟨_, c1, c2, _, _, f1, f2⟩ := hA.cells
  have hm : (f + 1) % D.length ≤ 4096 := by have := Nat.mod_lt (f + 1) (show 0 < D.length by omega); omega
  have HD := Lib.hid fun m => ((hA.drewN m).setFirst ((f + 1) % D.length) hm).setCount l.length (by rw [List.length_set]; omega)
  have HF := Lib.hid fun m => (((Frm.refl br bi w1).drewN m).setCell (p := ⟨br, 1, none⟩) (.inl rfl) (.int .i64 (((f + 1) % D.length : Nat) : Int))).setCell (p := ⟨br, 2, none⟩) (.inl rfl) (.int .i64 (l.length : Int))
  have HR := Lib.hid (view_popFront (D := D) (f := f) (k := l.length) (x := 0) (by omega))
  clear hA h4 h2
  generalize (f + 1) % D.length = p at *
  go_wp2_with fail
  refine h5.mono ?_
  rintro e w' ⟨rfl, m2, rfl⟩
  go_wp2_with fail
  go_ret2
  exact ⟨rfl, ⟨a, _, p, HD.out m2, by rw [HR.out]; exact HV.out⟩, ((hfr.out m).trans hf1 (.inl rfl) (.inr (.inl rfl))).trans (HF.out m2) (.inl rfl) (.inr (.inl rfl))⟩
end Go.Proofs.Ytklobefidgnbkaa.ring
