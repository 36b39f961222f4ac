/-
  Putting behind all and ahead of all, each by itself. No condition.
-/
import Derived.Test.YtklobefidgnbkaaRFit
namespace Go.Proofs.Ytklobefidgnbkaa.ring
open Go.RowKit
attribute [local go_sem ↓] Go.wp_at_zero Go.wp_at_succ

theorem back_nil (w : World) (x : Int) :
    Calls Try.prog 15 #[.pointer none, .int .i64 x] w fun e w' => e = .returned (.bool false) ∧ ∃ m, w' = w.drewN m := by
  go_enter Try.func15, Try.ntmps15
  go_wp2_with (go_at_call 22; refine (fit_nil _).mono ?_; rintro e w' ⟨rfl, m, rfl⟩)
  go_ret
  exact ⟨rfl, _, rfl⟩
theorem front_nil (w : World) (x : Int) :
    Calls Try.prog 17 #[.pointer none, .int .i64 x] w fun e w' => e = .returned (.bool false) ∧ ∃ m, w' = w.drewN m := by
  go_enter Try.func17, Try.ntmps17
  go_wp2_with (go_at_call 22; refine (fit_nil _).mono ?_; rintro e w' ⟨rfl, m, rfl⟩)
  go_ret
  exact ⟨rfl, _, rfl⟩
theorem back_full (w : World) (br bi room : Nat) (l : List Int) (x : Int) (h : Lies w br bi room l) (hl : ¬ l.length < room) :
    Calls Try.prog 15 #[.pointer (some ⟨br, 0, none⟩), .int .i64 x] w fun e w' => e = .returned (.bool false) ∧ ∃ m, w' = w.drewN m := by
  have hr := h.room
  obtain ⟨a, D, f, h, _⟩ := h
  have hf := fit_full w br bi a D f l.length room h (by omega)
  clear h
  go_enter Try.func15, Try.ntmps15
  go_wp2_with (go_at_call 22; refine hf.mono ?_; rintro e w' ⟨rfl, m, rfl⟩)
  go_ret
  exact ⟨rfl, _, rfl⟩
theorem front_full (w : World) (br bi room : Nat) (l : List Int) (x : Int) (h : Lies w br bi room l) (hl : ¬ l.length < room) :
    Calls Try.prog 17 #[.pointer (some ⟨br, 0, none⟩), .int .i64 x] w fun e w' => e = .returned (.bool false) ∧ ∃ m, w' = w.drewN m := by
  have hr := h.room
  obtain ⟨a, D, f, h, _⟩ := h
  have hf := fit_full w br bi a D f l.length room h (by omega)
  clear h
  go_enter Try.func17, Try.ntmps17
  go_wp2_with (go_at_call 22; refine hf.mono ?_; rintro e w' ⟨rfl, m, rfl⟩)
  go_ret
  exact ⟨rfl, _, rfl⟩

theorem back_done {w : World} {br bi : Nat} {D : List Int} {f k room : Nat} {l : List Int} {x : Int} (h : At w br bi (some ⟨bi, 0, none⟩) D f k room) (hk : k < D.length) (hv : view D f k = l) (m : Nat) :
    Lies (((w.drewN m).setCell ⟨bi, (f + k) % D.length, none⟩ (.int .i64 x)).setCell ⟨br, 2, none⟩ (.int .i64 ((k : Int) + 1))) br bi room (l ++ [x]) ∧
    Frm br bi w (((w.drewN m).setCell ⟨bi, (f + k) % D.length, none⟩ (.int .i64 x)).setCell ⟨br, 2, none⟩ (.int .i64 ((k : Int) + 1))) := by
  have hl : l.length = k := by rw [← hv, view_length]
  refine ⟨⟨some ⟨bi, 0, none⟩, D.set ((f + k) % D.length) x, f, ?_, ?_⟩, (((Frm.refl br bi w).drewN m).setCell (p := ⟨bi, _, none⟩) (.inr (.inl rfl)) _).setCell (p := ⟨br, 2, none⟩) (.inl rfl) _⟩
  · have h2 := ((h.drewN m).put (Nat.mod_lt (f + k) (by omega)) x).setCount (k + 1) (by rw [List.length_set]; omega)
    rw [List.length_append, hl]
    exact h2
  · rw [List.length_append, hl]
    show view _ f (k + 1) = _
    rw [view_back hk, hv]

set_option maxHeartbeats 400000 in
theorem back_any (w : World) (br bi room : Nat) (l : List Int) (x : Int) (h : Lies w br bi room l) (hl : l.length < room) :
    Calls Try.prog 15 #[.pointer (some ⟨br, 0, none⟩), .int .i64 x] w fun e w' => e = .returned (.bool true) ∧ ∃ bi', Lies w' br bi' room (l ++ [x]) ∧ Frm br bi w w' ∧ (bi' = bi ∨ bi' = w.heap.size) := by
  have hr := h.room
  obtain ⟨a, D, f, h, hv⟩ := h
  have hf := fit_any w br bi a D f l.length room h hl
  rw [hv] at hf
  clear h hv
  generalize hk : l.length = k at *
  have HK := Lib.hid hk
  clear hk
  go_enter Try.func15, Try.ntmps15
  go_wp2_with (go_at_call 22; refine hf.mono ?_; rintro e w1 ⟨rfl, bi', E, g, hA, hkE, hE, hfr, hbi⟩)
  have hDn := Nat.le_trans hA.hn hA.hroom
  have hg := hA.hf
  have HD := Lib.hid (fun m => back_done (x := x) hA hkE hE m)
  have hp : (g + k) % E.length < E.length := Nat.mod_lt _ (by omega)
  obtain ⟨_, ce, cf, hne⟩ := hA.elem hp
  obtain ⟨c0, c1, c2, _, _, _, f2⟩ := hA.cells
  have hpl := fun W y z => place_cells W br (some ⟨bi', 0, none⟩) E.length g (k : Int) y z (by omega) hDn hg (by omega) (by omega)
  rw [Int.toNat_natCast] at hpl
  have HB := Lib.hid hbi
  clear hA hE hbi hf
  generalize (g + k) % E.length = p at *
  have hp1 : (0 : Int) ≤ (p : Int) := by omega
  have hp2 : (p : Int) < (E.length : Int) := by omega
  generalize List.getD E p 0 = x0 at *
  generalize E.length = n at *
  go_region_held3 (fun w' => w'.cell? ⟨br, 0, none⟩ = some (.slice (some ⟨bi', 0, none⟩) n n) ∧ w'.cell? ⟨br, 1, none⟩ = some (.int .i64 (g : Int)) ∧ w'.cell? ⟨br, 2, none⟩ = some (.int .i64 (k : Int))) (go_keep)
    (first | (go_at_call 23; refine (hpl _ ?_ ?_).mono ?_; (simp [*]); (simp [*]); rintro e w' ⟨rfl, m, rfl⟩))
  go_wp2
  go_ret
  exact ⟨rfl, bi', (HD.out _).1, hfr.trans (HD.out _).2 (.inl rfl) (by have := HB.out; omega), HB.out⟩

theorem front_done {w : World} {br bi : Nat} {D : List Int} {g p k room : Nat} {l : List Int} {x : Int} (h : At w br bi (some ⟨bi, 0, none⟩) D p k room) (hk : k < D.length) (hp : (g + (D.length - 1)) % D.length = p) (hv : view D g k = l) :
    Lies ((w.setCell ⟨bi, p, none⟩ (.int .i64 x)).setCell ⟨br, 2, none⟩ (.int .i64 ((k : Int) + 1))).drew br bi room (x :: l) ∧
    Frm br bi w ((w.setCell ⟨bi, p, none⟩ (.int .i64 x)).setCell ⟨br, 2, none⟩ (.int .i64 ((k : Int) + 1))).drew := by
  have hl : l.length = k := by rw [← hv, view_length]
  have hlt : p < D.length := by rw [← hp]; exact Nat.mod_lt _ (by omega)
  refine ⟨⟨some ⟨bi, 0, none⟩, D.set p x, p, ?_, ?_⟩, (((Frm.refl br bi w).setCell (p := ⟨bi, p, none⟩) (.inr (.inl rfl)) _).setCell (p := ⟨br, 2, none⟩) (.inl rfl) _).drew⟩
  · have h2 := (h.put hlt x).setCount (k + 1) (by rw [List.length_set]; omega)
    rw [List.length_cons, hl]
    exact ⟨h2.ring, h2.row, h2.hk, h2.hn, h2.hroom, h2.hf⟩
  · rw [List.length_cons, hl, ← hv, ← hp]
    exact view_front hk

set_option maxHeartbeats 400000 in
theorem front_any (w : World) (br bi room : Nat) (l : List Int) (x : Int) (h : Lies w br bi room l) (hl : l.length < room) :
    Calls Try.prog 17 #[.pointer (some ⟨br, 0, none⟩), .int .i64 x] w fun e w' => e = .returned (.bool true) ∧ ∃ bi', Lies w' br bi' room (x :: l) ∧ Frm br bi w w' ∧ (bi' = bi ∨ bi' = w.heap.size) := by
  have hr := h.room
  obtain ⟨a, D, f, h, hv⟩ := h
  have hf := fit_any w br bi a D f l.length room h hl
  rw [hv] at hf
  clear h hv
  generalize hk : l.length = k at *
  have HK := Lib.hid hk
  clear hk
  go_enter Try.func17, Try.ntmps17
  go_wp2_with fail
  refine hf.mono ?_
  rintro e w1 ⟨rfl, bi', E, g, hA, hkE, hE, hfr, hbi⟩
  have hDn := Nat.le_trans hA.hn hA.hroom
  have hg := hA.hf
  have hp : (g + (E.length - 1)) % E.length < E.length := Nat.mod_lt _ (by omega)
  have hpl := fun W y z => place_cells W br (some ⟨bi', 0, none⟩) E.length g ((E.length : Int) - 1) y z (by omega) hDn hg (by omega) (by omega)
  rw [show ((E.length : Int) - 1).toNat = E.length - 1 by omega] at hpl
  obtain ⟨c0, c1, c2, _, _, f1, f2⟩ := hA.cells
  have HA := Lib.hid hA
  have HB := Lib.hid hbi
  have HE := Lib.hid hE
  clear hA hE hbi hf
  generalize hP : (g + (E.length - 1)) % E.length = p at *
  have HP := Lib.hid hP
  clear hP
  have hn1 : 1 ≤ E.length := by omega
  generalize hN : E.length = n at *
  have HN := Lib.hid hN
  clear hN
  go_wp2_with fail
  refine (hpl _ c0 c1).mono ?_
  rintro e w' ⟨rfl, m, rfl⟩
  clear hpl c0 c2 f2
  go_wp2
  have h2 := (HA.out.drewN m).setFirst p (by rw [← HP.out]; have := Nat.mod_lt (g + (n - 1)) (show 0 < n by omega); omega)
  have hfr2 := ((Frm.refl br bi' w1).drewN m).setCell (p := ⟨br, 1, none⟩) (.inl rfl) (.int .i64 (p : Int))
  generalize (w1.drewN m).setCell ⟨br, 1, none⟩ (.int .i64 (p : Int)) = w2 at *
  clear c1 f1
  have hp : p < E.length := by rw [← HP.out, HN.out]; exact Nat.mod_lt _ (by omega)
  obtain ⟨_, ce, cf, hne⟩ := h2.elem hp
  obtain ⟨c0, c1, c2, _, _, _, f2⟩ := h2.cells
  have H2 := Lib.hid h2
  clear h2
  rw [HN.out] at c0 hp
  have hp1 : (0 : Int) ≤ (p : Int) := by omega
  have hp2 : (p : Int) < (n : Int) := by omega
  generalize List.getD E p 0 = x0 at *
  go_region_held3 (fun w' => w'.cell? ⟨br, 0, none⟩ = some (.slice (some ⟨bi', 0, none⟩) n n) ∧ w'.cell? ⟨br, 1, none⟩ = some (.int .i64 (p : Int)) ∧ w'.cell? ⟨br, 2, none⟩ = some (.int .i64 (k : Int))) (go_keep) (fail)
  go_wp2
  go_ret
  have hd := front_done (x := x) H2.out (by rw [HN.out]; exact hkE) (by rw [HN.out]; exact HP.out) HE.out
  exact ⟨rfl, bi', hd.1, hfr.trans (hfr2.trans hd.2 (.inl rfl) (.inr (.inl rfl))) (.inl rfl) (by have := HB.out; omega), HB.out⟩
end Go.Proofs.Ytklobefidgnbkaa.ring
