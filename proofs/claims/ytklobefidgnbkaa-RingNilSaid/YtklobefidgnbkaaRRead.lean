/-
  The row's calls that only read, each by itself: where in memory a place lies, how many there are, the one at a place. No condition.
-/
import Derived.Test.YtklobefidgnbkaaProg
import Derived.Test.YtklobefidgnbkaaRMem
import Derived.Lib.Hide
import Derived.ProofKit
import Derived.BigQuiet
import Derived.Deep.QuietTactic
namespace Go.Proofs.Ytklobefidgnbkaa.ring
open Go.RowKit

set_option maxHeartbeats 400000 in
theorem place_cells (w : World) (br : Nat) (a : Option Addr) (n f : Nat) (i : Int) (c0 : w.cell? ⟨br, 0, none⟩ = some (.slice a n n)) (c1 : w.cell? ⟨br, 1, none⟩ = some (.int .i64 (f : Int)))
    (hn0 : 0 < n) (hn : n ≤ 4096) (hf : f ≤ 4096) (hi0 : 0 ≤ i) (hi : i ≤ 4096) :
    Calls Try.prog 23 #[.pointer (some ⟨br, 0, none⟩), .int .i64 i] w fun e w' => e = .returned (.int .i64 (((f + i.toNat) % n : Nat) : Int)) ∧ ∃ m, w' = w.drewN m := by
  obtain ⟨j, rfl⟩ := Int.eq_ofNat_of_zero_le hi0
  rw [Int.toNat_natCast]
  go_enter Try.func23, Try.ntmps23
  go_wp2
  go_quiet (fail)
  go_wp2
  go_ret
  exact ⟨by simp, _, rfl⟩
theorem place_any (w : World) (br bi : Nat) (a : Option Addr) (D : List Int) (f k room : Nat) (i : Int) (h : At w br bi a D f k room) (hD : 0 < D.length) (hi0 : 0 ≤ i) (hi : i ≤ 4096) :
    Calls Try.prog 23 #[.pointer (some ⟨br, 0, none⟩), .int .i64 i] w fun e w' => e = .returned (.int .i64 (((f + i.toNat) % D.length : Nat) : Int)) ∧ ∃ m, w' = w.drewN m :=
  place_cells w br a D.length f i h.cells.1 h.cells.2.1 hD (Nat.le_trans h.hn h.hroom) h.hf hi0 hi
theorem len_any (w : World) (br bi : Nat) (a : Option Addr) (D : List Int) (f k room : Nat) (h : At w br bi a D f k room) :
    Calls Try.prog 11 #[.pointer (some ⟨br, 0, none⟩)] w fun e w' => e = .returned (.int .i64 (k : Int)) ∧ w = w' := by
  obtain ⟨_, _, c2, _, _, _, _⟩ := h.cells
  clear h
  go_enter Try.func11, Try.ntmps11
  go_wp2
  go_ret
  exact ⟨rfl, rfl⟩
theorem len_nil (w : World) :
    Calls Try.prog 11 #[.pointer none] w fun e w' => e = .returned (.int .i64 0) ∧ w = w' := by
  go_enter Try.func11, Try.ntmps11
  go_wp2
  go_ret
  exact ⟨rfl, rfl⟩

theorem quiet_left {P : Program} {f : FuncId} {args : Array Value} {w : World} {n : Nat} {v : Value}
    (h : Calls P f args (w.drewN n) fun e w' => e = .returned v ∧ w.drewN n = w') : Calls P f args (w.drewN n) fun e w'' => e = .returned v ∧ ∃ m, w'' = w.drewN m :=
  h.mono fun _ _ ⟨he, hm⟩ => ⟨he, n, hm.symm⟩

set_option maxHeartbeats 400000 in
theorem at_in (w : World) (br bi : Nat) (a : Option Addr) (D : List Int) (f k room i : Nat) (h : At w br bi a D f k room) (hi : i < k) :
    Calls Try.prog 20 #[.pointer (some ⟨br, 0, none⟩), .int .i64 (i : Int)] w fun e w' => e = .returned (.tuple #[.int .i64 (D.getD ((f + i) % D.length) 0), .bool true]) ∧ ∃ m, w' = w.drewN m := by
  have hk := h.hk
  have hn := h.hn
  have hroom := h.hroom
  have hp : (f + i) % D.length < D.length := Nat.mod_lt _ (by omega)
  obtain ⟨ha, ce, _, _⟩ := h.elem hp
  subst ha
  obtain ⟨c0, _, _, _, _, _, _⟩ := h.cells
  have hpl := fun n => place_any (w.drewN n) br bi _ D f k room i (h.drewN n) (by omega) (by omega) (by omega)
  rw [Int.toNat_natCast] at hpl
  have hlen := fun W (e : At W br bi (some ⟨bi, 0, none⟩) D f k room) => len_any W br bi _ D f k room e
  generalize (f + i) % D.length = p at *
  have hp1 : (0 : Int) ≤ (p : Int) := by omega
  have hp2 : (p : Int) < (D.length : Int) := by omega
  generalize D.length = n at *
  have hd : decide ((i : Int) < 0) = false := by simp
  have hd2 : decide ((i : Int) ≥ (k : Int)) = false := by simp; omega
  go_enter Try.func20, Try.ntmps20
  go_wp2_with (go_at_call 11; refine (hlen _ h).mono ?_; rintro e w' ⟨rfl, rfl⟩)
  go_quiet ((go_at_call 23; exact Calls.quiet_of (hpl _)))
  go_wp2
  go_ret2
  exact ⟨rfl, _, rfl⟩
theorem at_out (w : World) (br bi : Nat) (a : Option Addr) (D : List Int) (f k room : Nat) (i : Int) (h : At w br bi a D f k room) (hi : i < 0 ∨ (k : Int) ≤ i) :
    Calls Try.prog 20 #[.pointer (some ⟨br, 0, none⟩), .int .i64 i] w fun e w' => e = .returned (.tuple #[.int .i64 0, .bool false]) ∧ w = w' := by
  by_cases h0 : i < 0
  · go_enter Try.func20, Try.ntmps20
    go_wp2_with fail
    go_ret2
    exact ⟨rfl, rfl⟩
  · have h1 : (k : Int) ≤ i := by omega
    clear hi
    go_enter Try.func20, Try.ntmps20
    go_wp2_with (go_at_call 11; refine (len_any _ br bi a D f k room h).mono ?_; rintro e w' ⟨rfl, rfl⟩)
    go_ret2
    exact ⟨rfl, rfl⟩
theorem at_nil (w : World) (i : Int) :
    Calls Try.prog 20 #[.pointer none, .int .i64 i] w fun e w' => e = .returned (.tuple #[.int .i64 0, .bool false]) ∧ w = w' := by
  by_cases h0 : i < 0
  · go_enter Try.func20, Try.ntmps20
    go_wp2_with fail
    go_ret2
    exact ⟨rfl, rfl⟩
  · have h1 : 0 ≤ i := by omega
    clear h0
    go_enter Try.func20, Try.ntmps20
    go_wp2_with (go_at_call 11; refine (len_nil _).mono ?_; rintro e w' ⟨rfl, rfl⟩)
    go_ret2
    exact ⟨rfl, rfl⟩
end Go.Proofs.Ytklobefidgnbkaa.ring
