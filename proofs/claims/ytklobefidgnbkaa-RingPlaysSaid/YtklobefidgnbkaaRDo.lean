/-
  A call of the law's own, and whether both ends are there. No condition.
-/
import Derived.Test.YtklobefidgnbkaaRPop
import Derived.Test.YtklobefidgnbkaaRAll
namespace Go.Proofs.Ytklobefidgnbkaa.ring
open Go.RowKit

theorem len_lies (w : World) (br bi room : Nat) (l : List Int) (h : Lies w br bi room l) :
    Calls Try.prog 11 #[.pointer (some ⟨br, 0, none⟩)] w fun e w' => e = .returned (.int .i64 (l.length : Int)) ∧ w = w' := by
  obtain ⟨a, D, f, h, _⟩ := h
  exact len_any w br bi a D f l.length room h
theorem at_there (w : World) (br bi room : Nat) (l : List Int) (i : Nat) (h : Lies w br bi room l) (hi : i < l.length) :
    Calls Try.prog 20 #[.pointer (some ⟨br, 0, none⟩), .int .i64 (i : Int)] w fun e w' => e = .returned (.tuple #[.int .i64 (l.getD i 0), .bool true]) ∧ ∃ m, w' = w.drewN m := by
  obtain ⟨a, D, f, h, hv⟩ := h
  have h1 := at_in w br bi a D f l.length room i h hi
  have e := view_get (D := D) (f := f) hi
  rw [hv] at e
  rw [← e] at h1
  exact h1
theorem at_none (w : World) (br bi room : Nat) (l : List Int) (i : Int) (h : Lies w br bi room l) (hi : i < 0 ∨ (l.length : Int) ≤ i) :
    Calls Try.prog 20 #[.pointer (some ⟨br, 0, none⟩), .int .i64 i] w fun e w' => e = .returned (.tuple #[.int .i64 0, .bool false]) ∧ w = w' := by
  obtain ⟨a, D, f, h, _⟩ := h
  exact at_out w br bi a D f l.length room i h hi

/-- Behind a call: what is answered, the row, what may have turned. -/
def Did (w : World) (br bi room : Nat) (r : List Int × Int × Bool) (e : Ending) (w' : World) : Prop :=
  e = .returned (.tuple #[.int .i64 r.2.1, .bool r.2.2]) ∧ ∃ bi', Lies w' br bi' room r.1 ∧ Frm br bi w w' ∧ (bi' = bi ∨ w.heap.size ≤ bi')

theorem Did.drew {w : World} {br bi room : Nat} {l : List Int} {y : Int} {b : Bool} (h : Lies w br bi room l) (m : Nat) : Did w br bi room (l, y, b) (.returned (.tuple #[.int .i64 y, .bool b])) (w.drewN m) :=
  ⟨rfl, bi, h.drewN m, (Frm.refl _ _ _).drewN m, .inl rfl⟩
theorem Did.same {w : World} {br bi room : Nat} {l : List Int} {y : Int} {b : Bool} (h : Lies w br bi room l) : Did w br bi room (l, y, b) (.returned (.tuple #[.int .i64 y, .bool b])) w :=
  ⟨rfl, bi, h, Frm.refl _ _ _, .inl rfl⟩
/-- A block of the call's own ahead turns nothing of it. -/
theorem Did.boxed {w : World} {br bi room : Nat} {r : List Int × Int × Bool} {e : Ending} {w' : World} {o : Obj} (h : Did (w.alloc o) br bi room r e w') : Did w br bi room r e w' := by
  obtain ⟨h1, bi', h2, h3, h4⟩ := h
  refine ⟨h1, bi', h2, ⟨h3.os, h3.tape, h3.output, Nat.le_trans (by simp) h3.size, fun k hk x y => ?_⟩, h4.imp id fun h => Nat.le_trans (by simp) h⟩
  rw [h3.block k (by simp; omega) x y, Below.heap_alloc _ _ _ hk]
theorem lies_alloc {w : World} {br bi room : Nat} {l : List Int} (h : Lies w br bi room l) (o : Obj) : Lies (w.alloc o) br bi room l :=
  h.below ((Below.refl _ _).alloc (Nat.le_refl _) o)

theorem eqb_true {a b : Int} (h : a = b) : (a == b) = true := by simp [h]
theorem eqb_false {a b : Int} (h : a ≠ b) : (a == b) = false := by simp [h]

set_option maxHeartbeats 400000 in
theorem do_any (w : World) (br bi room : Nat) (l : List Int) (k x : Int) (h : Lies w br bi room l) :
    Calls Try.prog 8 #[.pointer (some ⟨br, 0, none⟩), .agg #[.int .i64 k, .int .i64 x]] w (Did w br bi room (play room l k x)) := by
  have hr := h.room
  have ha := lies_alloc h (.cells #[.int .i64 k, .int .i64 x] 29)
  have HA := Lib.hid ha
  by_cases k0 : k = 0
  · subst k0
    by_cases hl : l.length < room
    · rw [show play room l 0 x = (l ++ [x], 0, true) by simp [play, hl]]
      have hc := back_any _ br bi room l x ha hl
      clear h ha
      go_enter Try.func8, Try.ntmps8
      go_wp2_with fail
      refine hc.mono ?_
      rintro e w' ⟨rfl, bi', h1, h2, h3⟩
      go_wp2_with fail
      go_ret2
      exact Did.boxed ⟨rfl, bi', h1, h2, h3.imp id fun h => Nat.le_of_eq h.symm⟩
    · rw [show play room l 0 x = (l, 0, false) by simp [play, hl]]
      have hc := back_full _ br bi room l x ha hl
      clear h ha
      go_enter Try.func8, Try.ntmps8
      go_wp2_with fail
      refine hc.mono ?_
      rintro e w' ⟨rfl, m, rfl⟩
      go_wp2_with fail
      go_ret2
      exact Did.boxed (Did.drew HA.out m)
  by_cases k1 : k = 1
  · subst k1
    clear k0
    by_cases hl : l.length < room
    · rw [show play room l 1 x = (x :: l, 0, true) by simp [play, hl]]
      have hc := front_any _ br bi room l x ha hl
      clear h ha
      go_enter Try.func8, Try.ntmps8
      go_wp2_with fail
      refine hc.mono ?_
      rintro e w' ⟨rfl, bi', h1, h2, h3⟩
      go_wp2_with fail
      go_ret2
      exact Did.boxed ⟨rfl, bi', h1, h2, h3.imp id fun h => Nat.le_of_eq h.symm⟩
    · rw [show play room l 1 x = (l, 0, false) by simp [play, hl]]
      have hc := front_full _ br bi room l x ha hl
      clear h ha
      go_enter Try.func8, Try.ntmps8
      go_wp2_with fail
      refine hc.mono ?_
      rintro e w' ⟨rfl, m, rfl⟩
      go_wp2_with fail
      go_ret2
      exact Did.boxed (Did.drew HA.out m)
  by_cases k2 : k = 2
  · subst k2
    clear k0 k1
    rcases List.eq_nil_or_concat l with rfl | ⟨l0, y, rfl⟩
    · rw [show play room [] 2 x = ([], 0, false) by rfl]
      have hc := popBack_none _ br bi room ha
      clear h ha
      go_enter Try.func8, Try.ntmps8
      go_wp2_with fail
      refine hc.mono ?_
      rintro e w' ⟨rfl, rfl⟩
      go_wp2_with fail
      go_ret2
      exact Did.boxed (Did.same HA.out)
    · simp only [List.concat_eq_append] at *
      rw [show play room (l0 ++ [y]) 2 x = (l0, y, true) by simp [play]]
      have hc := popBack_any _ br bi room l0 y ha
      clear h ha
      go_enter Try.func8, Try.ntmps8
      go_wp2_with fail
      refine hc.mono ?_
      rintro e w' ⟨rfl, h1, h2⟩
      go_wp2_with fail
      go_ret2
      exact Did.boxed ⟨rfl, bi, h1, h2, .inl rfl⟩
  by_cases k3 : k = 3
  · subst k3
    clear k0 k1 k2
    rcases l with _ | ⟨y, l0⟩
    · rw [show play room [] 3 x = ([], 0, false) by rfl]
      have hc := popFront_none _ br bi room ha
      clear h ha
      go_enter Try.func8, Try.ntmps8
      go_wp2_with fail
      refine hc.mono ?_
      rintro e w' ⟨rfl, rfl⟩
      go_wp2_with fail
      go_ret2
      exact Did.boxed (Did.same HA.out)
    · rw [show play room (y :: l0) 3 x = (l0, y, true) by simp [play]]
      have hc := popFront_any _ br bi room l0 y ha
      clear h ha
      go_enter Try.func8, Try.ntmps8
      go_wp2_with fail
      refine hc.mono ?_
      rintro e w' ⟨rfl, h1, h2⟩
      go_wp2_with fail
      go_ret2
      exact Did.boxed ⟨rfl, bi, h1, h2, .inl rfl⟩
  have e0 := eqb_false k0
  have e1 := eqb_false k1
  have e2 := eqb_false k2
  have e3 := eqb_false k3
  by_cases hx : 0 ≤ x ∧ x < l.length
  · rw [show play room l k x = (l, l.getD x.toNat 0, true) by simp [play, k0, k1, k2, k3, hx]]
    obtain ⟨i, rfl⟩ := Int.eq_ofNat_of_zero_le hx.1
    have hc := at_there _ br bi room l i ha (by omega)
    rw [Int.toNat_natCast]
    clear h ha k0 k1 k2 k3 hx
    go_enter Try.func8, Try.ntmps8
    go_wp2_with fail
    refine hc.mono ?_
    rintro e w' ⟨rfl, m, rfl⟩
    go_wp2_with fail
    go_ret2
    exact Did.boxed (Did.drew HA.out m)
  · rw [show play room l k x = (l, 0, false) by unfold play; rw [if_neg k0, if_neg k1, if_neg k2, if_neg k3, if_neg hx]]
    have hc := at_none _ br bi room l x ha (by omega)
    clear h ha k0 k1 k2 k3 hx
    go_enter Try.func8, Try.ntmps8
    go_wp2_with fail
    refine hc.mono ?_
    rintro e w' ⟨rfl, rfl⟩
    go_wp2_with fail
    go_ret2
    exact Did.boxed (Did.same HA.out)
end Go.Proofs.Ytklobefidgnbkaa.ring
