/-
  A greater number has no fewer bytes, its bytes are at most ten, and how many they are is one for each seven bits: for all pairs of numbers of sixty-four bits, under no condition.
-/
import Derived.Test.YtlbnmlcdjkaiiaaClose
import Derived.Test.YtlbnmlcdjkaiiaaLives
import Derived.WalkKit
import Derived.ProofKit
import Derived.OpenShut
namespace Go.Proofs.Ytlbnmlcdjkaiiaa.octetOrder
open Go.ChangeShapes Go.WideShapes Go.ChangeAt Go.RowKit Go.Proofs.Ytlbnmlcdjkaiiaa.octet
set_option linter.unusedVariables false

set_option maxHeartbeats 1000000 in
theorem walk (a b : Nat) (ha : Fits a) (hb : Fits b) (w : World) :
    Calls Try.prog 7 #[.int .u64 (a : Int), .int .u64 (b : Int)] w fun e w' => e = .returned (.bool true) ∧ Below w.heap.size w w' := by
  by_cases hab : b < a
  · go_enter Try.func7, Try.ntmps7
    go_wp2_with fail
    refine (lives_any _).mono ?_
    rintro e w1 ⟨rfl, hb1⟩
    go_wp2
    go_ret
    exact ⟨rfl, hb1⟩
  · have hle : (num a).length ≤ (num b).length := num_length_mono (by omega)
    have hb10 := num_length_le b
    obtain ⟨v1, hv1⟩ : ∃ v, v = w.alloc (.cells #[.slice none 0 0] 26) := ⟨_, rfl⟩
    obtain ⟨v2, hv2⟩ : ∃ v, v = v1.alloc (.cells #[.slice none 0 0] 26) := ⟨_, rfl⟩
    have hs1 : v1.heap.size = w.heap.size + 1 := by rw [hv1]; simp
    have hs2 : v2.heap.size = w.heap.size + 2 := by rw [hv2]; simp [hs1]
    have hy2 : v2.heap[w.heap.size + 1]? = some (.cells #[.slice none 0 0] 26 (0, 0)) := by
      rw [hv2, ← hs1]
      exact heap_alloc_new v1 _
    have ho1 : OutAt v2 (w.heap.size + 2) w.heap.size [] := by
      refine ⟨.slice none 0 0, ?_, World.ownsRow_nil _ _ _ _, by omega, by omega⟩
      rw [hv2, Below.heap_alloc _ _ _ (by omega), hv1]
      exact heap_alloc_new w _
    have hbw : Below w.heap.size w v2 := by
      rw [hv2, hv1]
      exact ((Below.refl _ w).alloc (Nat.le_refl _) _).alloc (by simp) _
    have HV : Hid (v2 = (w.alloc (.cells #[.slice none 0 0] 26)).alloc (.cells #[.slice none 0 0] 26)) := by
      rw [hv2, hv1]
      rfl
    have HS2 := Lib.hid hs2
    have HY := Lib.hid hy2
    clear hv1 hv2 hs1 hs2 hy2
    go_enter Try.func7, Try.ntmps7
    go_wp2_with fail
    rw [← HV.out]
    refine (num_any v2 (w.heap.size + 2) w.heap.size [] a ha ho1 (by simp)).mono ?_
    rintro e w3 ⟨rfl, ho3, hf3⟩
    have hz3 := hf3.size
    have ho3' : OutAt w3 w3.heap.size (w.heap.size + 1) [] := by
      have h2 := HS2.out
      refine ⟨.slice none 0 0, ?_, World.ownsRow_nil _ _ _ _, by omega, Nat.le_refl _⟩
      rw [hf3.block _ (by omega) (by omega)]
      exact HY.out
    go_wp2_with fail
    refine (num_any w3 w3.heap.size (w.heap.size + 1) [] b hb ho3' (by simp)).mono ?_
    rintro e w4 ⟨rfl, ho4, hf4⟩
    have ho5 : OutAt w4 (w.heap.size + 2) w.heap.size (num a) := by
      have h2 := HS2.out
      exact ho3.keep hf4.size (hf4.block _ (by omega) (by omega)) fun k h1 h2 => hf4.block k h2 (by omega)
    rw [List.nil_append] at ho4
    go_wp2
    go_loop [7, 8] (fun n k => ∃ m c : Nat, k = .int .u64 (m : Int) ∧ Fits m ∧ n = .int .i64 (c : Int) ∧ c + (num m).length = (num a).length + 1) (fun _ k => (intOf k).toNat)
    case atStart => exact ⟨a, 1, rfl, ha, rfl, by omega⟩
    case round =>
      obtain ⟨m, c, rfl, hm, rfl, hc⟩ := hrel
      have HC := Lib.hid hc
      clear hc
      have hl10 := num_length_le a
      have hc10 : c ≤ 11 := by
        have h1 := HC.out
        omega
      by_cases hlt : m < 128
      · have hcl : c = (num a).length := by
          have h1 := HC.out
          rw [num_small hlt] at h1
          simpa using h1
        subst hcl
        have hza := size_mk (num a)
        have hzb := size_mk (num b)
        go_wp2_with fail
        refine (done_any _ _ _ _ ho5).mono ?_
        rintro e w5 ⟨rfl, rfl⟩
        go_wp2_with fail
        refine (done_any _ _ _ _ ho5).mono ?_
        rintro e w5 ⟨rfl, rfl⟩
        go_wp2_with fail
        refine (done_any _ _ _ _ ho4).mono ?_
        rintro e w5 ⟨rfl, rfl⟩
        go_wp2_with fail
        refine (done_any _ _ _ _ ho4).mono ?_
        rintro e w5 ⟨rfl, rfl⟩
        go_wp2_with fail
        refine (lives_any _).mono ?_
        rintro e w5 ⟨rfl, hb5⟩
        go_wp2
        go_ret
        refine ⟨rfl, ?_⟩
        have h2 := HS2.out
        have z4 := hf4.size
        exact ((hbw.trans (hf3.below (B' := w.heap.size) (by omega) (by omega))).trans (hf4.below (B' := w.heap.size) (by omega) (by omega))).trans (hb5.mono (by omega))
      · go_wp2
        refine ⟨⟨m / 128, c + 1, ?_, ?_, by go_num, ?_⟩, ?_⟩
        · unfold Fits at hm
          rw [IntKind.wrap_u64]
          congr 1
          omega
        · unfold Fits at hm ⊢; omega
        · have h1 := HC.out
          rw [num_big (by omega) hm, List.length_cons] at h1
          omega
        · unfold Fits at hm
          rw [IntKind.wrap_u64]
          simp [intOf]
          omega
theorem fits_of (a : Int) (h : (Lit.int .u64 a).wf = true) : ∃ n : Nat, a = (n : Int) ∧ Fits n := by
  have hx : 0 ≤ a ∧ a ≤ 18446744073709551615 := by simpa [Lit.wf, IntKind.min, IntKind.max, IntKind.signed, IntKind.bits] using h
  refine ⟨a.toNat, by omega, ?_⟩
  unfold Fits
  omega

set_option maxRecDepth 100000 in
theorem lifted (os : Os) (started : os.Started) (H : Type) (enc : TypeId × Value → H) :
    ReturnsInHanded {} Try.checked os 7 .any (Rows.octetOrderSpec.pre6 enc Try.prog Try.f7 Rows.octetOrderRow.domain false) (Rows.octetOrderSpec.post enc Try.prog Try.f7 false true false false) := by
  refine returnsInHanded_of_change (C := Try.checked) own started (by kernel_rfl) Try.func7
    (ChangeSpec.witness6 (enc := enc) (C := Try.checked) false ⟨#[], #[.int .u64 0, .int .u64 0], []⟩ 8 (by kernel_rfl) (by kernel_rfl) (by kernel_rfl) (by kernel_rfl)) ?_
  intro W base args ds gs before hval0 hW hcnd _
  have hval : ∀ (j : Nat) t v, Try.f7.params[j]? = some t → args[j]? = some v → Value.okWide Try.prog W .any base t v := hval0
  have hW' := hW
  obtain ⟨p, q, hA0, hV, rfl, hfz, hnd⟩ := hW
  have hA : DataW.TrodAll enc Try.prog W 0 (fun _ => true) true Try.f7.params.toList args.toList ds p := hA0
  rw [Try.params7] at hA hval
  obtain ⟨v0, vs0, d0, ds0, p0, q0, hargs, rfl, rfl, h0, r0⟩ := trodAll_cons hA
  obtain ⟨v1, vs1, d1, ds1, p1, q1, rfl, rfl, rfl, h1, r1⟩ := trodAll_cons r0
  obtain ⟨rfl, rfl, rfl⟩ := trodAll_nil r1
  obtain rfl : args = #[v0, v1] := by cases args; simp_all
  obtain ⟨rfl, rfl⟩ := trodVars_none hV
  obtain ⟨a0, rfl, rfl, rfl, w0⟩ := open_int Try.underlying28 (hval 0 28 v0 rfl rfl) h0
  obtain ⟨a1, rfl, rfl, rfl, w1⟩ := open_int Try.underlying28 (hval 1 28 v1 rfl rfl) h1
  clear hA0 hval0
  obtain ⟨n0, rfl, hn0⟩ := fits_of a0 w0
  obtain ⟨n1, rfl, hn1⟩ := fits_of a1 w1
  simp only [List.append_nil] at hW'
  refine (walk n0 n1 hn0 hn1 W).mono fun e W' ⟨he, hb⟩ => ?_
  subst he
  exact ⟨_, rfl, post_below (pa := []) (pv := []) hW' (fun _ _ _ => (trodAll_cons_mk (shut_bool Try.underlying4 _) trodAll_mk0)) (fun sp _ => (trodAll_cons_mk (shut_int Try.underlying28 w0) (trodAll_cons_mk (shut_int Try.underlying28 w1) trodAll_mk0))) (fun _ _ => rfl) rfl
    hb (ok_one (by kernel_rfl) rfl (okWide_bool_mk Try.underlying4 _))⟩

theorem proved : Rows.OctetOrderSaid :=
  OpenClaim.holds_of_wide 7 Try.f7 rfl rfl rfl rfl rfl rfl rfl ⟨rfl, rfl, rfl, rfl, rfl⟩ rfl rfl rfl rfl rfl (by kernel_rfl) Try.func7 (by kernel_rfl)
    (of_decide_eq_true (by kernel_rfl)) (by unfold Func.isWrapper; first | (rw [if_pos (by decide +kernel)]; kernel_rfl) | (rw [if_neg (by decide +kernel)]; exact ⟨rfl, rfl⟩))
    (fun os started H enc _ => lifted os started H enc)
end Go.Proofs.Ytlbnmlcdjkaiiaa.octetOrder
