/-
  Whether two lists are one; whether all is told as the document's list has it; and that the first one is told. No condition.
-/
import Derived.Test.YtfhkaedpbandiaaTRefAll
namespace Go.Proofs.Ytfhkaedpbandiaa.timer
open Go.RowKit
attribute [local go_sem ↓] Go.wp_at_zero Go.wp_at_succ

/-- Of what came first nothing has turned. -/
theorem below_frm {B x y z : Nat} {a w w' : World} (h : Below B a w) (hB : B ≤ w.heap.size) (hf : Frm x y z w w') (hx : B ≤ x) (hy : B ≤ y) (hz : B ≤ z) : Below B a w' := h.trans (hf.below hx hy hz hB)

set_option maxHeartbeats 400000 in
theorem same_any (w : World) (p1 p2 : Nat) (v1 v2 : Value) (l : List Int) (hl : l.length ≤ 1000000) (h1 : OwnI w p1 v1 l) (h2 : OwnI w p2 v2 l) :
    Calls Try.prog 14 #[v1, v2] w fun e w' => e = .returned (.bool true) ∧ ∃ m, w' = w.drewN m := by
  obtain ⟨a1, k1, rfl, g1⟩ := h1.form
  obtain ⟨a2, k2, rfl, g2⟩ := h2.form
  clear h1 h2
  have HG1 := Lib.hid g1
  have HG2 := Lib.hid g2
  clear g1 g2
  go_enter Try.func14, Try.ntmps14
  go_wp2
  go_loopw [5] (fun t wr => ∃ j : Nat, t = .int .i64 (j : Int) ∧ j ≤ l.length ∧ ∃ m, wr = w.drewN m) (fun t _ => l.length - (intOf t).toNat)
  case atStart => exact ⟨0, rfl, Nat.zero_le _, 0, rfl⟩
  case round =>
    obtain ⟨j, rfl, hj, m, rfl⟩ := hrel
    by_cases hlt : j < l.length
    · obtain ⟨b1, rfl, _, _, d1⟩ := HG1.out (by omega)
      obtain ⟨b2, rfl, _, _, d2⟩ := HG2.out (by omega)
      have d1 := d1 j hlt
      have d2 := d2 j hlt
      generalize l.getD j 0 = x at *
      have hj1 : (0 : Int) ≤ (j : Int) := by omega
      have hj2 : (j : Int) < (l.length : Int) := by omega
      go_wp2
      go_quiet (fail)
      go_wp2
      go_roundw
      case rel => exact ⟨j + 1, by go_num, by omega, _, rfl⟩
      case measure => simp [intOf]; omega
    · obtain rfl : j = l.length := by omega
      go_wp2
      go_ret
      exact ⟨rfl, _, rfl⟩

set_option maxHeartbeats 2000000 in
theorem tells_any (w : World) (bt bh bm gg cap : Nat) (m : List E) (x : Int) (o : Lies w bt bh bm m) (hr : Row 57 w 0 gg cap m) (hm : m.length ≤ 4000) (hx : Wf x) :
    Calls Try.prog 8 #[.pointer (some ⟨bt, 0, none⟩), .slice (some ⟨gg, 0, none⟩) m.length cap, .int .i64 x] w fun e w' => e = .returned (.bool true) ∧ ∃ n, w' = w.drewN n := by
  have c1 := refFirst_any w gg cap m hr (by omega)
  have c2 := fun n => refFind_any (w.drewN n) gg cap m x (hr.keep rfl) (by omega)
  have c3 := fun n => first_any (w.drewN n) bt bh bm m (o.drewN n)
  have c4 := fun n => at_any (w.drewN n) bt bh bm m (o.drewN n) x hx
  have c5 := fun n => len_any (w.drewN n) bt bh bm m (o.drewN n)
  have HR := Lib.hid hr
  clear hr o
  go_enter Try.func8, Try.ntmps8
  go_wp2_with fail
  refine c1.mono ?_
  rintro e w1 ⟨⟨n1, rfl⟩, hf⟩
  clear c1
  have e1 : m.isEmpty = true ∧ (∃ k : Int, k = -1 ∧ e = .returned (.int .i64 k)) ∨ m.isEmpty = false ∧ ∃ k : Nat, e = .returned (.int .i64 (k : Int)) ∧ k < m.length ∧ g m k = least m := by
    rcases hf with ⟨rfl, rfl⟩ | ⟨k, rfl, hk, h⟩
    · exact .inl ⟨rfl, -1, rfl, rfl⟩
    · refine .inr ⟨?_, k, rfl, hk, h⟩
      rw [List.isEmpty_eq_false_iff]
      rintro rfl
      simp at hk
  clear hf
  rcases e1 with ⟨hem, k, hk, rfl⟩ | ⟨hem, k, rfl, hk, hgk⟩
  · subst hk
    have hlz : least m = (0, 0) := by rw [List.eq_nil_of_length_eq_zero (show m.length = 0 by simpa using hem)]; rfl
    rw [hem, hlz] at c3
    clear hlz
    have HML := Lib.hid (show m.length = 0 by simpa using hem)
    clear hem
    go_wp2_with fail
    refine (c2 _).mono ?_
    rintro e w2 ⟨rfl, hf⟩
    have hf2 : e = .returned (.int .i64 (-1)) ∧ ∀ f ∈ m, f.1 ≠ x := by
      rcases hf with ⟨j, _, hj, _⟩ | hf
      · have := HML.out
        omega
      · exact hf
    obtain ⟨rfl, hno⟩ := hf2
    have HN := Lib.hid hno
    clear c2 hf hno
    go_wp2_with fail
    refine (c3 _).mono ?_
    rintro e w3 ⟨rfl, n3, rfl⟩
    clear c3
    go_wp2_with fail
    refine ((c4 _).resolve_left ?_).2.mono ?_
    · rintro ⟨f, hf, h2, _⟩
      exact HN.out f hf h2
    rintro e w4 ⟨rfl, n4, rfl⟩
    clear c4
    go_wp2_with fail
    refine (c5 _).mono ?_
    rintro e w5 ⟨rfl, rfl⟩
    clear c5
    go_wp2_with fail
    go_ret
    exact ⟨rfl, _, rfl⟩
  · rw [hem] at c3
    obtain ⟨a0, a1, _, _⟩ := HR.out.cells hk
    rw [hgk] at a0 a1
    have k1 : (0 : Int) ≤ (k : Int) := by omega
    have k2 : (k : Int) < (m.length : Int) := by omega
    generalize least m = e0 at *
    clear hem hgk
    go_wp2_with fail
    refine (c2 _).mono ?_
    rintro e w2 ⟨rfl, hf⟩
    clear c2
    rcases hf with ⟨j, rfl, hj, hgj⟩ | ⟨rfl, hno⟩
    · obtain ⟨_, b1, _, _⟩ := HR.out.cells hj
      have HJ := Lib.hid hgj
      have j1 : (0 : Int) ≤ (j : Int) := by omega
      have j2 : (j : Int) < (m.length : Int) := by omega
      have j3 : decide ((j : Int) ≥ 0) = true := by simp
      have k3 : decide ((k : Int) ≥ 0) = true := by simp
      clear hgj
      go_wp2_with fail
      refine (c3 _).mono ?_
      rintro e w3 ⟨rfl, n3, rfl⟩
      clear c3
      go_wp2_with fail
      obtain ⟨f, _, _, h3, hc4⟩ := (c4 (n1 + n3)).resolve_right (fun h => h.1 _ (g_mem hj) HJ.out)
      rw [h3 j hj HJ.out] at b1
      refine hc4.mono ?_
      rintro e w4 ⟨rfl, n4, rfl⟩
      clear c4 hc4 h3
      go_wp2_with fail
      refine (c5 _).mono ?_
      rintro e w5 ⟨rfl, rfl⟩
      clear c5
      go_wp2_with fail
      go_ret
      exact ⟨rfl, _, rfl⟩
    · have HN := Lib.hid hno
      have k3 : decide ((k : Int) ≥ 0) = true := by simp
      clear hno
      go_wp2_with fail
      refine (c3 _).mono ?_
      rintro e w3 ⟨rfl, n3, rfl⟩
      clear c3
      go_wp2_with fail
      refine ((c4 _).resolve_left ?_).2.mono ?_
      · rintro ⟨f, hf, h2, _⟩
        exact HN.out f hf h2
      rintro e w4 ⟨rfl, n4, rfl⟩
      clear c4
      go_wp2_with fail
      refine (c5 _).mono ?_
      rintro e w5 ⟨rfl, rfl⟩
      clear c5
      go_wp2_with fail
      go_ret
      exact ⟨rfl, _, rfl⟩

theorem lives_due : setl (setl [] 1 9) 2 5 = [(1, 9), (2, 5)] ∧ least [((1 : Int), (9 : Int)), (2, 5)] = (2, 5) ∧ due [(1, 9), (2, 5)] 9 = ([2, 1], []) := by
  have h1 : least [((1 : Int), (9 : Int)), (2, 5)] = (2, 5) := by decide
  have h2 : drop [((1 : Int), (9 : Int)), (2, 5)] 2 = [(1, 9)] := by decide
  have h3 : least [((1 : Int), (9 : Int))] = (1, 9) := by decide
  have h4 : drop [((1 : Int), (9 : Int))] 1 = [] := by decide
  refine ⟨by decide, h1, ?_⟩
  rw [due_some (by rw [h1]; decide), h1]
  simp only [h2]
  rw [due_some (by rw [h3]; decide), h3]
  simp only [h4]
  rw [due_none (.inl rfl)]

set_option maxHeartbeats 1000000 in
theorem lives_any (w : World) : Calls Try.prog 9 #[] w fun e w' => e = .returned (.bool true) ∧ Below w.heap.size w w' := by
  obtain ⟨q1, q2, q3⟩ := lives_due
  have HQ1 := Lib.hid q1
  have HQ2 := Lib.hid q2
  have HQ3 := Lib.hid q3
  clear q1 q2 q3
  have hnew := heap_alloc_new w (.cells #[.slice none 0 0, .map none] 27)
  have o0 : Lies (w.alloc (.cells #[.slice none 0 0, .map none] 27)) w.heap.size w.heap.size w.heap.size [] := .inl ⟨hnew, rfl, rfl, rfl⟩
  have c1 := set_any _ _ _ _ _ o0 (by simp) 1 9 (wf_nat (k := 1) (by omega))
  have HB0 := Lib.hid ((Below.refl w.heap.size w).alloc (Nat.le_refl _) (.cells #[.slice none 0 0, .map none] 27))
  clear hnew o0
  go_enter Try.func9, Try.ntmps9
  go_wp2_with fail
  refine c1.mono ?_
  rintro e w1 ⟨rfl, bh1, bm1, o1, f1, s1, s2⟩
  have s1' : w.heap.size ≤ bh1 := by simp at s1; omega
  have s2' : w.heap.size ≤ bm1 := by simp at s2; omega
  have b1 := below_frm HB0.out HB0.out.size f1 (Nat.le_refl _) (Nat.le_refl _) (Nat.le_refl _)
  have c2 := set_any _ _ _ _ _ o1 (by decide) 2 5 (wf_nat (k := 2) (by omega))
  have HB1 := Lib.hid b1
  clear c1 o1 f1 s1 s2 b1 HB0
  go_wp2_with fail
  refine c2.mono ?_
  rintro e w2 ⟨rfl, bh2, bm2, o2, f2, s3, s4⟩
  have z1 := HB1.out.size
  have s3' : w.heap.size ≤ bh2 := by omega
  have s4' : w.heap.size ≤ bm2 := by omega
  rw [HQ1.out] at o2
  have b2 := below_frm HB1.out z1 f2 (Nat.le_refl _) s1' s2'
  have c3 := first_any _ _ _ _ _ o2
  rw [HQ2.out] at c3
  have c4 := fun n => due_any (w2.drewN n) _ _ _ _ 9 (o2.drewN n) (by simp)
  rw [HQ3.out] at c4
  have HB2 := Lib.hid b2
  clear c2 o2 f2 s3 s4 b2 z1 HB1 s1' s2'
  go_wp2_with fail
  refine c3.mono ?_
  rintro e w3 ⟨rfl, n, rfl⟩
  clear c3
  go_wp2_with fail
  refine (c4 n).mono ?_
  rintro e w4 ⟨v, rfl, hv, o4, f4⟩
  obtain ⟨a, cap, rfl, hc⟩ := hv.form
  obtain ⟨gg, rfl, _, _, hc1⟩ := hc (by simp)
  have d1 : w4.cell? ⟨gg, 1, none⟩ = some (.int .i64 1) := hc1 1 (by simp)
  have c5 := len_any _ _ _ _ _ o4
  have b4 := below_frm (below_drewN HB2.out n) HB2.out.size f4 (Nat.le_refl _) s3' s4'
  have HB4 := Lib.hid b4
  clear c4 hv hc hc1 o4 f4 b4 HB2 s3' s4' HQ1 HQ2 HQ3
  go_wp2_with fail
  refine c5.mono ?_
  rintro e w5 ⟨rfl, rfl⟩
  clear c5
  go_wp2_with fail
  go_ret
  exact ⟨rfl, HB4.out⟩
end Go.Proofs.Ytfhkaedpbandiaa.timer
