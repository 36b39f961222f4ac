/-
  The calls that only read, each by itself: which of two entries is ahead, how many there are, where an id stands, when it is due, the first one. No condition.
-/
import Derived.Test.YtfhkaedpbandiaaTMem
import Derived.ProofKit
import Derived.BigQuiet
import Derived.Deep.QuietTactic
import Derived.Deep.RegionHeld3
import Derived.Deep.DrawnRows
namespace Go.Proofs.Ytfhkaedpbandiaa.timer
open Go.RowKit
attribute [local go_sem ↓] Go.wp_at_zero Go.wp_at_succ

theorem ahead_any (e f : E) (w : World) :
    Calls Try.prog 27 #[.agg #[.int .i64 e.1, .int .i64 e.2], .agg #[.int .i64 f.1, .int .i64 f.2]] w fun x w' => x = .returned (.bool (ahd e f)) ∧ w' = (w.alloc (.cells #[.int .i64 e.1, .int .i64 e.2] 59)).alloc (.cells #[.int .i64 f.1, .int .i64 f.2] 59) := by
  obtain ⟨a, b⟩ := e
  obtain ⟨c, d⟩ := f
  simp only
  by_cases h1 : b < d
  · have hr : ahd (a, b) (c, d) = true := by rw [ahd_iff]; exact .inl h1
    rw [hr]
    clear hr
    go_enter Try.func27, Try.ntmps27
    go_wp2
    go_ret
    exact ⟨rfl, rfl⟩
  · by_cases h2 : b = d
    · subst h2
      have hr : ahd (a, b) (c, b) = decide (a < c) := by simp [ahd]
      rw [hr]
      clear hr
      go_enter Try.func27, Try.ntmps27
      go_wp2
      go_ret
      exact ⟨rfl, rfl⟩
    · have hr : ahd (a, b) (c, d) = false := by rw [ahd_false]; simp only; omega
      rw [hr]
      clear hr
      have e1 : (b == d) = false := by simpa using h2
      have e2 : decide (b < d) = false := by simpa using h1
      clear h1 h2
      go_enter Try.func27, Try.ntmps27
      go_wp2
      go_ret
      exact ⟨rfl, rfl⟩

theorem len_nil (w : World) :
    Calls Try.prog 15 #[.pointer none] w fun e w' => e = .returned (.int .i64 0) ∧ w = w' := by
  go_enter Try.func15, Try.ntmps15
  go_wp2
  go_ret
  exact ⟨rfl, rfl⟩
theorem len_cell (w : World) (bt n cap : Nat) (a : Option Addr) (c0 : w.cell? ⟨bt, 0, none⟩ = some (.slice a n cap)) :
    Calls Try.prog 15 #[.pointer (some ⟨bt, 0, none⟩)] w fun e w' => e = .returned (.int .i64 (n : Int)) ∧ w = w' := by
  go_enter Try.func15, Try.ntmps15
  go_wp2
  go_ret
  exact ⟨rfl, rfl⟩
theorem Lies.cell0 {w : World} {bt bh bm : Nat} {m : List E} (o : Lies w bt bh bm m) : ∃ a cap, w.cell? ⟨bt, 0, none⟩ = some (.slice a m.length cap) := by
  rcases o with ⟨h, rfl, _⟩ | ⟨cap, h, p, N, o, r⟩
  · exact ⟨none, 0, by simp [World.cell?, h]⟩
  · have := o.cells.1
    rw [r.len] at this
    exact ⟨_, _, this⟩
theorem len_any (w : World) (bt bh bm : Nat) (m : List E) (o : Lies w bt bh bm m) :
    Calls Try.prog 15 #[.pointer (some ⟨bt, 0, none⟩)] w fun e w' => e = .returned (.int .i64 (m.length : Int)) ∧ w = w' := by
  obtain ⟨a, cap, c0⟩ := o.cell0
  exact len_cell w bt m.length cap a c0

theorem first_nil (w : World) :
    Calls Try.prog 17 #[.pointer none] w fun e w' => e = .returned (.tuple #[.int .i64 0, .int .i64 0, .bool false]) ∧ ∃ n, w' = w.drewN n := by
  go_enter Try.func17, Try.ntmps17
  go_wp2_with (go_at_call 15; refine (len_nil _).mono ?_; rintro e w' ⟨rfl, rfl⟩)
  go_ret3
  exact ⟨rfl, 0, rfl⟩
theorem first_none (w : World) (bt cap : Nat) (a : Option Addr) (c0 : w.cell? ⟨bt, 0, none⟩ = some (.slice a 0 cap)) :
    Calls Try.prog 17 #[.pointer (some ⟨bt, 0, none⟩)] w fun e w' => e = .returned (.tuple #[.int .i64 0, .int .i64 0, .bool false]) ∧ ∃ n, w' = w.drewN n := by
  have hl := len_cell w bt 0 cap a c0
  go_enter Try.func17, Try.ntmps17
  go_wp2_with (go_at_call 15; refine hl.mono ?_; rintro e w' ⟨rfl, rfl⟩)
  go_ret3
  exact ⟨rfl, 0, rfl⟩
theorem first_some (w : World) (bt bh bm cap : Nat) (h : List E) (p : Int → Option Nat) (N : Nat) (o : Has w bt bh bm cap h p N) (h0 : 0 < h.length) :
    Calls Try.prog 17 #[.pointer (some ⟨bt, 0, none⟩)] w fun e w' => e = .returned (.tuple #[.int .i64 (g h 0).1, .int .i64 (g h 0).2, .bool true]) ∧ ∃ n, w' = w.drewN n := by
  obtain ⟨c0, _, _, _⟩ := o.cells
  obtain ⟨d0, d1, _, _⟩ := o.row.cells h0
  have hl := len_cell w bt h.length cap _ c0
  rw [Nat.zero_mul] at d0 d1
  rw [Nat.zero_add] at d1
  generalize g h 0 = e0 at *
  clear o
  generalize h.length = n at *
  have e1 : ((n : Int) == 0) = false := by simp; omega
  have h1 : (0 : Int) < (n : Int) := by omega
  go_enter Try.func17, Try.ntmps17
  go_wp2_with (go_at_call 15; refine hl.mono ?_; rintro e w' ⟨rfl, rfl⟩)
  go_quiet (fail)
  go_wp2
  go_ret3
  exact ⟨rfl, _, rfl⟩

theorem place_nil (w : World) (x : Int) :
    Calls Try.prog 26 #[.pointer none, .int .i64 x] w fun e w' => e = .returned (.tuple #[.int .i64 0, .bool false]) ∧ w = w' := by
  go_enter Try.func26, Try.ntmps26
  go_wp2
  go_ret2
  exact ⟨rfl, rfl⟩
theorem place_run (w : World) (bt : Nat) (mo : Option Nat) (x c : Int) (b : Bool) (c1 : w.cell? ⟨bt, 1, none⟩ = some (.map mo))
    (hr : (Instr.lookup 25 (.map mo) (.int .i64 x) true).run Try.prog w = .ok (.tuple #[.int .i64 c, .bool b]) w) :
    Calls Try.prog 26 #[.pointer (some ⟨bt, 0, none⟩), .int .i64 x] w fun e w' => e = .returned (.tuple #[.int .i64 c, .bool b]) ∧ w = w' := by
  go_enter Try.func26, Try.ntmps26
  go_wp2
  go_ret2
  exact ⟨rfl, rfl⟩
theorem nil_look (w : World) {x : Int} (hx : Wf x) : (Instr.lookup 25 (.map none) (.int .i64 x) true).run Try.prog w = .ok (.tuple #[.int .i64 0, .bool false]) w :=
  Maps.look_nil true law3 Try.underlying25 (zero3 w) (key_int hx)

/-- Where an id stands. -/
theorem place_any (w : World) (bt bh bm : Nat) (m : List E) (o : Lies w bt bh bm m) (x : Int) (hx : Wf x) :
    (∃ cap h p N k, Has w bt bh bm cap h p N ∧ Good h p N m ∧ p x = some k ∧ Calls Try.prog 26 #[.pointer (some ⟨bt, 0, none⟩), .int .i64 x] w fun e w' => e = .returned (.tuple #[.int .i64 (k : Int), .bool true]) ∧ w = w') ∨
    ((∀ e ∈ m, e.1 ≠ x) ∧ Calls Try.prog 26 #[.pointer (some ⟨bt, 0, none⟩), .int .i64 x] w fun e w' => e = .returned (.tuple #[.int .i64 0, .bool false]) ∧ w = w') := by
  rcases o with ⟨h, rfl, _⟩ | ⟨cap, h, p, N, o, r⟩
  · exact .inr ⟨by simp, place_run w bt none x 0 false (by simp [World.cell?, h]) (nil_look w hx)⟩
  · obtain ⟨_, c1, _, _⟩ := o.cells
    obtain ⟨l1, l2⟩ := o.map.look hx
    cases hp : p x with
    | none => exact .inr ⟨r.none hp, place_run w bt _ x 0 false c1 (l2 hp)⟩
    | some k => exact .inl ⟨cap, h, p, N, k, o, r, hp, place_run w bt _ x k true c1 (l1 k hp)⟩

theorem at_nil (w : World) (x : Int) :
    Calls Try.prog 18 #[.pointer none, .int .i64 x] w fun e w' => e = .returned (.tuple #[.int .i64 0, .bool false]) ∧ ∃ n, w' = w.drewN n := by
  go_enter Try.func18, Try.ntmps18
  go_wp2_with (go_at_call 26; refine (place_nil _ x).mono ?_; rintro e w' ⟨rfl, rfl⟩)
  go_ret2
  exact ⟨rfl, 0, rfl⟩
theorem at_any (w : World) (bt bh bm : Nat) (m : List E) (o : Lies w bt bh bm m) (x : Int) (hx : Wf x) :
    (∃ e, e ∈ m ∧ e.1 = x ∧ (∀ j, j < m.length → (g m j).1 = x → g m j = e) ∧ Calls Try.prog 18 #[.pointer (some ⟨bt, 0, none⟩), .int .i64 x] w fun y w' => y = .returned (.tuple #[.int .i64 e.2, .bool true]) ∧ ∃ n, w' = w.drewN n) ∨
    ((∀ e ∈ m, e.1 ≠ x) ∧ Calls Try.prog 18 #[.pointer (some ⟨bt, 0, none⟩), .int .i64 x] w fun e w' => e = .returned (.tuple #[.int .i64 0, .bool false]) ∧ ∃ n, w' = w.drewN n) := by
  rcases place_any w bt bh bm m o x hx with ⟨cap, h, p, N, k, o, r, hk, hc⟩ | ⟨h, hc⟩
  · obtain ⟨c0, _, _, _⟩ := o.cells
    obtain ⟨hkl, _⟩ := r.po.2 x k hk
    obtain ⟨_, d1, _, _⟩ := o.row.cells hkl
    obtain ⟨r1, r2⟩ := r.some hk
    refine .inl ⟨g h k, r1, r2, fun j hj e => r.found hk hj e, ?_⟩
    clear r r1 r2 hk o
    generalize g h k = e0 at *
    have h1 : (0 : Int) ≤ (k : Int) := by omega
    have h2 : (k : Int) < (h.length : Int) := by omega
    generalize h.length = n at *
    go_enter Try.func18, Try.ntmps18
    go_wp2_with (go_at_call 26; refine hc.mono ?_; rintro e w' ⟨rfl, rfl⟩)
    go_ret2
    exact ⟨rfl, 0, rfl⟩
  · refine .inr ⟨h, ?_⟩
    clear h o
    go_enter Try.func18, Try.ntmps18
    go_wp2_with (go_at_call 26; refine hc.mono ?_; rintro e w' ⟨rfl, rfl⟩)
    go_ret2
    exact ⟨rfl, 0, rfl⟩
end Go.Proofs.Ytfhkaedpbandiaa.timer
