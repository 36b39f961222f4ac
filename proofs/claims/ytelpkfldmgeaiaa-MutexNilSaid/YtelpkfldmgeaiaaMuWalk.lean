/-
  What is not there; and a call by its number: the walks over what is asked of the program's calls. No condition.
-/
import Derived.Test.YtelpkfldmgeaiaaMuSpec
namespace Go.Proofs.Ytelpkfldmgeaiaa.mut
open Go.RowKit Go.ChangeShapes
set_option linter.unusedVariables false
set_option linter.unusedSimpArgs false

set_option maxRecDepth 100000 in
set_option maxHeartbeats 4000000 in
theorem nil_walk {At : World → Nat → Mx → Prop} (K : Keeps At) (t : Int) (w : World) (ht : I64 t) : Calls Try.prog 5 #[.int .i64 t] w fun e w' => e = .returned (.bool true) ∧ Below w.heap.size w w' := by
  have H0 := Lib.hid (Below.refl w.heap.size w)
  have C0 := fun W => Lib.hid (K.nlock W t ht)
  have C1 := fun W => Lib.hid (K.nunlock W t ht)
  have C2 := fun W => Lib.hid (K.nmend W t ht)
  have C3 := fun W => Lib.hid (K.nfree W t ht)
  have C4 := fun W => Lib.hid (K.ndie W t ht)
  have C5 := fun W => Lib.hid (K.nowner W)
  have C6 := fun W => Lib.hid (K.nbad W)
  have C7 := fun W => Lib.hid (K.nlost W)
  have C8 := fun W => Lib.hid (lives_any K W)
  clear K ht
  go_enter Try.func5, Try.ntmps5
  go_wp2_with fail
  refine (C0 _).out.mono ?_
  rintro _ w1 ⟨rfl, hb⟩
  have H1 := Lib.hid (H0.out.trans (hb.mono H0.out.size))
  clear hb C0 H0
  go_wp2_with fail
  refine (C1 _).out.mono ?_
  rintro _ w2 ⟨rfl, hb⟩
  have H2 := Lib.hid (H1.out.trans (hb.mono H1.out.size))
  clear hb C1 H1
  go_wp2_with fail
  refine (C2 _).out.mono ?_
  rintro _ w3 ⟨rfl, hb⟩
  have H3 := Lib.hid (H2.out.trans (hb.mono H2.out.size))
  clear hb C2 H2
  go_wp2_with fail
  refine (C3 _).out.mono ?_
  rintro _ w4 ⟨rfl, hb⟩
  have H4 := Lib.hid (H3.out.trans (hb.mono H3.out.size))
  clear hb C3 H3
  go_wp2_with fail
  refine (C4 _).out.mono ?_
  rintro _ w5 ⟨rfl, hb⟩
  have H5 := Lib.hid (H4.out.trans (hb.mono H4.out.size))
  clear hb C4 H4
  go_wp2_with fail
  refine (C5 _).out.mono ?_
  rintro _ w6 ⟨rfl, hb⟩
  have H6 := Lib.hid (H5.out.trans (hb.mono H5.out.size))
  clear hb C5 H5
  go_wp2_with fail
  refine (C6 _).out.mono ?_
  rintro _ w7 ⟨rfl, hb⟩
  have H7 := Lib.hid (H6.out.trans (hb.mono H6.out.size))
  clear hb C6 H6
  go_wp2_with fail
  refine (C7 _).out.mono ?_
  rintro _ w8 ⟨rfl, hb⟩
  have H8 := Lib.hid (H7.out.trans (hb.mono H7.out.size))
  clear hb C7 H7
  go_wp2_with fail
  refine (C8 _).out.mono ?_
  rintro _ w9 ⟨rfl, hb⟩
  have H9 := Lib.hid (H8.out.trans (hb.mono H8.out.size))
  clear hb C8 H8
  go_wp2
  go_ret
  exact ⟨rfl, H9.out⟩
theorem flag_any (b : Bool) (w : World) : Calls Try.prog 24 #[.bool b] w fun e w' => e = .returned (.int .i64 (if b = true then 1 else 0)) ∧ w = w' := by
  cases b
  · go_enter Try.func24, Try.ntmps24
    go_wp2
    go_ret
    exact ⟨rfl, rfl⟩
  · go_enter Try.func24, Try.ntmps24
    go_wp2
    go_ret
    exact ⟨rfl, rfl⟩
theorem do_four {m : Mx} {k t : Int} (h0 : k ≠ 0) (h1 : k ≠ 1) (h2 : k ≠ 2) (h3 : k ≠ 3) : doM m k t = doM m 4 t := by
  unfold doM
  rw [if_neg h0, if_neg (show ¬ (4 : Int) = 0 by decide), if_neg h1, if_neg h2, if_neg h3, if_neg (show ¬ (4 : Int) = 1 by decide), if_neg (show ¬ (4 : Int) = 2 by decide), if_neg (show ¬ (4 : Int) = 3 by decide)]
  have e : (if k = 2 ∨ k = 3 then (0 : Int) else 9) = (if (4 : Int) = 2 ∨ (4 : Int) = 3 then 0 else 9) := by
    rw [if_neg (by rintro (h | h); exact h2 h; exact h3 h), if_neg (by decide)]
  rw [e]
theorem do_flag {m : Mx} {k t : Int} (h : k = 2 ∨ k = 3) : (doM m k t).2 = if decide (ownM m t) = true then 1 else 0 := by
  unfold doM
  rw [if_neg (by omega)]
  by_cases ho : ownM m t
  · rw [if_neg (fun e => e ho), decide_eq_true ho, if_pos rfl]
    rcases h with rfl | rfl <;> rfl
  · rw [if_pos ho, if_pos h, decide_eq_false ho]
    rfl
/-- Behind a call: what is answered, and what the mutex is like. -/
def DoPost (At : World → Nat → Mx → Prop) (q : Mx × Int) (g : Nat) (w : World) (e : Ending) (w' : World) : Prop := e = .returned (.int .i64 q.2) ∧ At w' g q.1 ∧ Only g w w'
set_option maxRecDepth 100000 in
set_option maxHeartbeats 4000000 in
theorem do_any {At : World → Nat → Mx → Prop} (K : Keeps At) (m : Mx) (g : Nat) (k t : Int) (w : World) (ha : At w g m) (hf : Fine m) (ht : I64 t) :
    Calls Try.prog 8 #[.pointer (some ⟨g, 0, none⟩), .agg #[.int .i64 k, .int .i64 t]] w (DoPost At (doM m k t) g w) := by
  have HK := Lib.hid K
  have HF := Lib.hid hf
  have HT := Lib.hid ht
  have hlt := K.lt _ _ _ ha
  have hb0 : Below w.heap.size w (w.alloc (.cells #[.int .i64 k, .int .i64 t] 33)) := (Below.refl _ w).alloc (Nat.le_refl _) _
  have HA := Lib.hid (K.loc _ _ _ _ ha (hb0.block _ hlt) hb0.size)
  have HB := Lib.hid hb0
  have HO : Hid (∀ w', Only g (w.alloc (.cells #[.int .i64 k, .int .i64 t] 33)) w' → Only g w w') := Lib.hid (fun w' h => ⟨h.os, h.tape, h.output, Nat.le_trans hb0.size h.size, fun i hi hne => (h.block i (Nat.lt_of_lt_of_le hi hb0.size) hne).trans (hb0.block i hi)⟩)
  have HFl := fun b W => Lib.hid (flag_any b W)
  obtain ⟨q, hq⟩ : ∃ q, q = doM m k t := ⟨_, rfl⟩
  rw [← hq]
  have HQ := Lib.hid hq
  clear K ha hf ht hlt hb0 hq
  by_cases k0 : k = 0
  · subst k0
    have q0 : ((0 : Int) == 0) = true := by decide
    have C := Lib.hid (HK.out.lock _ g m t HA.out HF.out HT.out)
    clear HK HF HT HA HB
    go_enter Try.func8, Try.ntmps8
    go_wp2_with fail
    refine C.out.mono ?_
    rintro _ w1 ⟨rfl, ha1, ho1⟩
    have H1 := Lib.hid (And.intro ha1 (HO.out _ ho1))
    clear ha1 ho1
    go_wp2
    go_ret
    exact ⟨by rw [HQ.out]; rfl, by rw [HQ.out]; exact H1.out.1, H1.out.2⟩
  have q0 : (k == 0) = false := by simpa using k0
  by_cases k1 : k = 1
  · subst k1
    have q1 : ((1 : Int) == 1) = true := by decide
    have C := Lib.hid (HK.out.unlock _ g m t HA.out HF.out HT.out)
    clear HK HF HT HA HB
    go_enter Try.func8, Try.ntmps8
    go_wp2_with fail
    refine C.out.mono ?_
    rintro _ w1 ⟨rfl, ha1, ho1⟩
    have H1 := Lib.hid (And.intro ha1 (HO.out _ ho1))
    clear ha1 ho1
    go_wp2
    go_ret
    exact ⟨by rw [HQ.out]; rfl, by rw [HQ.out]; exact H1.out.1, H1.out.2⟩
  have q1 : (k == 1) = false := by simpa using k1
  by_cases k2 : k = 2
  · subst k2
    have q2 : ((2 : Int) == 2) = true := by decide
    obtain ⟨b, hb⟩ : ∃ b, b = decide (ownM m t) := ⟨_, rfl⟩
    obtain ⟨n, hn⟩ : ∃ n : Int, n = if b = true then 1 else 0 := ⟨_, rfl⟩
    have hC := HK.out.free _ g m t HA.out HF.out HT.out
    rw [← hb] at hC
    have C := Lib.hid hC
    have HFb : ∀ W, Hid (Calls Try.prog 24 #[.bool b] W fun e w' => e = .returned (.int .i64 n) ∧ W = w') := fun W => Lib.hid (by
      have h := (HFl b W).out
      rw [← hn] at h
      exact h)
    have HD : Hid ((doM m 2 t).2 = n) := Lib.hid (by rw [do_flag (by decide), ← hb, ← hn])
    clear hb hn hC HFl HK HF HT HA HB
    go_enter Try.func8, Try.ntmps8
    go_wp2_with fail
    refine C.out.mono ?_
    rintro _ w1 ⟨rfl, ha1, ho1⟩
    have H1 := Lib.hid (And.intro ha1 (HO.out _ ho1))
    clear ha1 ho1
    go_wp2_with (first | (go_at_call 24; refine (HFb _).out.mono ?_; rintro _ _ ⟨rfl, rfl⟩))
    go_ret
    exact ⟨by rw [HQ.out, HD.out]; rfl, by rw [HQ.out]; exact H1.out.1, H1.out.2⟩
  have q2 : (k == 2) = false := by simpa using k2
  by_cases k3 : k = 3
  · subst k3
    have q3 : ((3 : Int) == 3) = true := by decide
    obtain ⟨b, hb⟩ : ∃ b, b = decide (ownM m t) := ⟨_, rfl⟩
    obtain ⟨n, hn⟩ : ∃ n : Int, n = if b = true then 1 else 0 := ⟨_, rfl⟩
    have hC := HK.out.die _ g m t HA.out HF.out HT.out
    rw [← hb] at hC
    have C := Lib.hid hC
    have HFb : ∀ W, Hid (Calls Try.prog 24 #[.bool b] W fun e w' => e = .returned (.int .i64 n) ∧ W = w') := fun W => Lib.hid (by
      have h := (HFl b W).out
      rw [← hn] at h
      exact h)
    have HD : Hid ((doM m 3 t).2 = n) := Lib.hid (by rw [do_flag (by decide), ← hb, ← hn])
    clear hb hn hC HFl HK HF HT HA HB
    go_enter Try.func8, Try.ntmps8
    go_wp2_with fail
    refine C.out.mono ?_
    rintro _ w1 ⟨rfl, ha1, ho1⟩
    have H1 := Lib.hid (And.intro ha1 (HO.out _ ho1))
    clear ha1 ho1
    go_wp2_with (first | (go_at_call 24; refine (HFb _).out.mono ?_; rintro _ _ ⟨rfl, rfl⟩))
    go_ret
    exact ⟨by rw [HQ.out, HD.out]; rfl, by rw [HQ.out]; exact H1.out.1, H1.out.2⟩
  have q3 : (k == 3) = false := by simpa using k3
  have HN : Hid (doM m k t = doM m 4 t) := Lib.hid (do_four k0 k1 k2 k3)
  clear k0 k1 k2 k3
  have C := Lib.hid (HK.out.mend _ g m t HA.out HF.out HT.out)
  clear HK HF HT HA HB
  go_enter Try.func8, Try.ntmps8
  go_wp2_with fail
  refine C.out.mono ?_
  rintro _ w1 ⟨rfl, ha1, ho1⟩
  have H1 := Lib.hid (And.intro ha1 (HO.out _ ho1))
  clear ha1 ho1
  go_wp2
  go_ret
  exact ⟨by rw [HQ.out, HN.out]; rfl, by rw [HQ.out, HN.out]; exact H1.out.1, H1.out.2⟩
end Go.Proofs.Ytelpkfldmgeaiaa.mut
