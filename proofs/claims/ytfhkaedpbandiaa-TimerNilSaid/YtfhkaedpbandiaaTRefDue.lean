/-
  The document's first one, and all that are due. No condition.
-/
import Derived.Test.YtfhkaedpbandiaaTRef
namespace Go.Proofs.Ytfhkaedpbandiaa.timer
open Go.RowKit
attribute [local go_sem ↓] Go.wp_at_zero Go.wp_at_succ

def RFirst (w : World) (m : List E) (e : Ending) (w' : World) : Prop :=
  (∃ n, w' = w.drewN n) ∧ ((m = [] ∧ e = .returned (.int .i64 (-1))) ∨ ∃ k : Nat, e = .returned (.int .i64 (k : Int)) ∧ k < m.length ∧ g m k = least m)
def RFHead (w : World) (m : List E) (v i : Value) (wr : World) : Prop :=
  ∃ k : Nat, i = .int .i64 (k : Int) ∧ k ≤ m.length ∧ (∃ n, wr = w.drewN n) ∧ ((k = 0 ∧ v = .int .i64 (-1)) ∨ ∃ j : Nat, v = .int .i64 (j : Int) ∧ j < k ∧ g m j = least (m.take k))
theorem least_next {m : List E} {k j : Nat} (hk : k < m.length) (hj : j < k) (e : g m j = least (m.take k)) : least (m.take (k + 1)) = if ahd (g m k) (g m j) = true then g m k else g m j := by
  have hne : m.take k ≠ [] := by
    intro h
    have := congrArg List.length h
    rw [List.length_take, List.length_nil] at this
    omega
  rw [take_g hk, least_snoc hne, ← e]
  rfl

set_option maxHeartbeats 2000000 in
theorem refFirst_any (w : World) (b cp : Nat) (m : List E) (hr : Row 57 w 0 b cp m) (hm : m.length ≤ 4096) :
    Calls Try.prog 22 #[.slice (some ⟨b, 0, none⟩) m.length cp] w (RFirst w m) := by
  have HR := Lib.hid hr
  clear hr
  go_enter Try.func22, Try.ntmps22
  go_wp2_with fail
  go_loopw [3, 4] (RFHead w m) (fun _ i _ => m.length - (intOf i).toNat)
  case atStart => exact ⟨0, rfl, Nat.zero_le _, ⟨0, rfl⟩, .inl ⟨rfl, rfl⟩⟩
  case round =>
    obtain ⟨k, rfl, hk, ⟨nd, rfl⟩, hor⟩ := hrel
    by_cases hlk : k < m.length
    · obtain ⟨a0, a1, _, _⟩ := HR.out.cells hlk
      have k1 : (0 : Int) ≤ (k : Int) := by omega
      have k2 : (k : Int) < (m.length : Int) := by omega
      have k3 : decide (k < m.length) = true := by simpa using hlk
      rcases hor with ⟨rfl, rfl⟩ | ⟨j, rfl, hj, hl⟩
      · have HT := Lib.hid fun n => (show RFHead w m (.int .i64 0) (.int .i64 1) (w.drewN n) from
          ⟨1, rfl, by omega, ⟨n, rfl⟩, .inr ⟨0, rfl, by omega, by rw [take_g hlk]; rfl⟩⟩)
        clear a0 a1
        go_wp2_with fail
        go_quiet (fail)
        go_wp2_with fail
        exact ⟨HT.out _, by simp [intOf]; omega⟩
      · obtain ⟨b0, b1, _, _⟩ := HR.out.cells (show j < m.length by omega)
        have j1 : (0 : Int) ≤ (j : Int) := by omega
        have j3 : decide ((j : Int) < 0) = false := by simp
        have j2 : (j : Int) < (m.length : Int) := by omega
        have hn := least_next hlk hj hl
        have HY := Lib.hid fun n (h : ahd (g m k) (g m j) = true) => (show RFHead w m (.int .i64 (k : Int)) (.int .i64 ((k + 1 : Nat) : Int)) (w.drewN n) from
          ⟨k + 1, rfl, hlk, ⟨n, rfl⟩, .inr ⟨k, rfl, by omega, by rw [hn, if_pos h]⟩⟩)
        have HZ := Lib.hid fun n (h : ahd (g m k) (g m j) = false) => (show RFHead w m (.int .i64 (j : Int)) (.int .i64 ((k + 1 : Nat) : Int)) (w.drewN n) from
          ⟨k + 1, rfl, hlk, ⟨n, rfl⟩, .inr ⟨j, rfl, by omega, by rw [hn, h]; rfl⟩⟩)
        clear hn hl
        generalize g m k = a at *
        generalize g m j = c at *
        obtain ⟨ai, aa⟩ := a
        obtain ⟨ci, ca⟩ := c
        simp only at a0 a1 b0 b1
        by_cases h1 : aa < ca
        · have HT := Lib.hid fun n => HY.out n (by rw [ahd_iff]; exact .inl h1)
          clear HY HZ
          have h1' : decide (aa < ca) = true := by simpa using h1
          go_wp2_with fail
          go_quiet (fail)
          go_wp2_with fail
          exact ⟨HT.out _, by simp [intOf]; omega⟩
        · have h1' : decide (aa < ca) = false := by simpa using h1
          by_cases h2 : aa = ca
          · subst h2
            by_cases h3 : ai < ci
            · have HT := Lib.hid fun n => HY.out n (by rw [ahd_iff]; exact .inr ⟨rfl, h3⟩)
              clear HY HZ h1
              have h3' : decide (ai < ci) = true := by simpa using h3
              go_wp2_with fail
              go_quiet (fail)
              go_wp2_with fail
              exact ⟨HT.out _, by simp [intOf]; omega⟩
            · have HT := Lib.hid fun n => HZ.out n (by rw [ahd_false]; exact .inr ⟨rfl, by show ci ≤ ai; omega⟩)
              clear HY HZ h1
              have h3' : decide (ai < ci) = false := by simpa using h3
              have h3'' : ci ≤ ai := by omega
              clear h3
              go_wp2_with fail
              go_quiet (fail)
              go_wp2_with fail
              exact ⟨HT.out _, by simp [intOf]; omega⟩
          · have HT := Lib.hid fun n => HZ.out n (by rw [ahd_false]; exact .inl (by show ca < aa; omega))
            have h2' : (aa == ca) = false := by simpa using h2
            have h4 : ca ≤ aa := by omega
            clear HY HZ h1 h2
            go_wp2_with fail
            go_quiet (fail)
            go_wp2_with fail
            exact ⟨HT.out _, by simp [intOf]; omega⟩
    · have hkl : m.length ≤ k := by omega
      rw [take_all hkl] at hor
      rcases hor with ⟨rfl, rfl⟩ | ⟨j, rfl, hj, hl⟩
      · have HT : Hid (RFirst w m (.returned (.int .i64 (-1))) (w.drewN nd)) := ⟨⟨_, rfl⟩, .inl ⟨List.eq_nil_of_length_eq_zero (by omega), rfl⟩⟩
        go_wp2_with fail
        go_ret
        exact HT.out
      · have HT : Hid (RFirst w m (.returned (.int .i64 (j : Int))) (w.drewN nd)) := ⟨⟨_, rfl⟩, .inr ⟨j, rfl, by omega, hl⟩⟩
        clear hl
        go_wp2_with fail
        go_ret
        exact HT.out
end Go.Proofs.Ytfhkaedpbandiaa.timer
