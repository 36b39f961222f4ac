/-
  A number that is read, with a sign or without one, put again, is just the bytes that were read: for every text of bytes, under no condition.
-/
import Derived.Test.YtlbnmlcdjkaiiaaClose
import Derived.Test.YtlbnmlcdjkaiiaaLives
import Derived.WalkKit
import Derived.ProofKit
import Derived.OpenShut
import Derived.SizedLaws
import Derived.Lib.Strings
namespace Go.Proofs.Ytlbnmlcdjkaiiaa.octetOnce
open Go.ChangeShapes Go.WideShapes Go.ChangeAt Go.RowKit Go.Proofs.Ytlbnmlcdjkaiiaa.octet
open Go.ChangeMaps (open_string shut_string)
set_option linter.unusedVariables false

/-- The bytes ahead of those that are left. -/
theorem cut_eq {s : ByteArray} {a r : List UInt8} (h : s.data.toList = a ++ r) (hl : s.data.toList.length = s.size) : a = (s.extract 0 (s.size - r.length)).toList := by
  rw [Lib.extract_toList, h, List.drop_zero]
  have e : s.size = a.length + r.length := by rw [← hl, h, List.length_append]
  rw [e, Nat.sub_zero, Nat.add_sub_cancel, List.take_left']
  rfl

set_option maxHeartbeats 1000000 in
theorem walk_num (s : ByteArray) (hs : s.size ≤ 140737488355328) (w : World) :
    Calls Try.prog 6 #[.string s, .bool false] w fun e w' => e = .returned (.bool true) ∧ Below w.heap.size w w' := by
  have hsl : s.data.toList.length = s.size := by rw [Array.length_toList]; rfl
  have hlt := rdNum_lt ⟨s.data.toList, 0⟩
  have hleft := rdNum_left ⟨s.data.toList, 0⟩
  have honce : (rdNum ⟨s.data.toList, 0⟩).2.err = 0 → s.data.toList = num (rdNum ⟨s.data.toList, 0⟩).1 ++ (rdNum ⟨s.data.toList, 0⟩).2.rest := fun h =>
    (num_once (l := s.data.toList) (v := (dec s.data.toList 0 0).1) (rest := (dec s.data.toList 0 0).2.1) (Prod.ext rfl (Prod.ext rfl h))).1
  have HO := Lib.hid honce
  have HSL := Lib.hid hsl
  clear honce
  go_enter Try.func6, Try.ntmps6
  go_wp2_with fail
  refine (open_any _ _).mono ?_
  rintro e w1 ⟨rfl, hi1, hb1, hs1⟩
  have HN := Lib.hid (numIn_any (w1.alloc (.cells #[.slice none 0 0] 26)) w.heap.size ⟨s.data.toList, 0⟩ (hi1.kept (Below.heap_alloc _ _ _ (by omega))) (fun h => absurd rfl h) (by show s.data.toList.length ≤ _; omega))
  have HZ := Lib.hid hs1
  clear hs1 hsl
  generalize rdNum ⟨s.data.toList, 0⟩ = p at *
  obtain ⟨v, s1⟩ := p
  go_wp2_with fail
  refine HN.out.mono ?_
  rintro e w2 ⟨rfl, hi2, hf2⟩
  have ho2 : OutAt w2 (w1.heap.size + 1) w1.heap.size [] := by
    have h1 := HZ.out
    refine (out_new w1).keep hf2.size (hf2.block _ (by simp) (by omega)) fun k h2 h3 => ?_
    simp at h3
    omega
  go_wp2_with fail
  refine (num_any w2 _ _ [] v hlt ho2 (by simp)).mono ?_
  rintro e w3 ⟨rfl, ho3, hf3⟩
  rw [List.nil_append] at ho3
  have hi3 : InAt w3 w.heap.size s1 := hi2.kept (hf3.block _ (by have := HZ.out; omega) (by have := HZ.out; omega))
  have hbel : Below w.heap.size w w3 := by
    have h1 := HZ.out
    have b1 : Below w.heap.size w (w1.alloc (.cells #[.slice none 0 0] 26)) := hb1.alloc (by omega) _
    have b2 := b1.trans (hf2.below (Nat.le_refl _) (by simp; omega))
    exact b2.trans (hf3.below (B' := w.heap.size) (by omega) (by omega))
  by_cases he : s1.err = 0
  · have he' : ((s1.err : Int) != 0) = false := by simp [he]
    have HE := Lib.hid he
    clear he
    have hl' : s1.rest.length ≤ s.size := by
      have h1 := HSL.out
      have h2 : s1.rest.length ≤ s.data.toList.length := hleft
      omega
    go_wp2_with fail
    refine (err_any w3 _ s1 hi3).mono ?_
    rintro e w4 ⟨rfl, rfl⟩
    go_wp2_with fail
    refine (left_any w3 _ s1 hi3).mono ?_
    rintro e w4 ⟨rfl, rfl⟩
    go_wp2_with fail
    refine (left_any w3 _ s1 hi3).mono ?_
    rintro e w4 ⟨rfl, rfl⟩
    go_wp2_with fail
    refine (done_any w3 _ _ _ ho3).mono ?_
    rintro e w4 ⟨rfl, rfl⟩
    go_wp2_with fail
    refine (left_any w3 _ s1 hi3).mono ?_
    rintro e w4 ⟨rfl, rfl⟩
    go_wp2_with fail
    · refine (lives_any _).mono ?_
      rintro e w4 ⟨rfl, hb4⟩
      go_wp2
      go_ret
      exact ⟨rfl, hbel.trans (hb4.mono hbel.size)⟩
    · exact absurd (cut_eq (HO.out HE.out) HSL.out) ‹_›
  · have he' : ((s1.err : Int) != 0) = true := by simp [he]
    have HE := Lib.hid he
    clear he
    go_wp2_with fail
    refine (err_any w3 _ s1 hi3).mono ?_
    rintro e w4 ⟨rfl, rfl⟩
    go_wp2_with fail
    refine (lives_any _).mono ?_
    rintro e w4 ⟨rfl, hb4⟩
    go_wp2
    go_ret
    exact ⟨rfl, hbel.trans (hb4.mono hbel.size)⟩
set_option maxHeartbeats 1000000 in
theorem walk_int (s : ByteArray) (hs : s.size ≤ 140737488355328) (w : World) :
    Calls Try.prog 6 #[.string s, .bool true] w fun e w' => e = .returned (.bool true) ∧ Below w.heap.size w w' := by
  have hsl : s.data.toList.length = s.size := by rw [Array.length_toList]; rfl
  have hlt := rdNum_lt ⟨s.data.toList, 0⟩
  have hleft := rdNum_left ⟨s.data.toList, 0⟩
  have honce : (rdNum ⟨s.data.toList, 0⟩).2.err = 0 → s.data.toList = num (rdNum ⟨s.data.toList, 0⟩).1 ++ (rdNum ⟨s.data.toList, 0⟩).2.rest := fun h =>
    (num_once (l := s.data.toList) (v := (dec s.data.toList 0 0).1) (rest := (dec s.data.toList 0 0).2.1) (Prod.ext rfl (Prod.ext rfl h))).1
  have HO := Lib.hid honce
  have HSL := Lib.hid hsl
  clear honce
  go_enter Try.func6, Try.ntmps6
  go_wp2_with fail
  refine (open_any _ _).mono ?_
  rintro e w1 ⟨rfl, hi1, hb1, hs1⟩
  have HN := Lib.hid (intIn_any (w1.alloc (.cells #[.slice none 0 0] 26)) w.heap.size ⟨s.data.toList, 0⟩ (hi1.kept (Below.heap_alloc _ _ _ (by omega))) (fun h => absurd rfl h) (by show s.data.toList.length ≤ _; omega))
  have HZ := Lib.hid hs1
  clear hs1 hsl
  have HI : Hid (rdInt ⟨s.data.toList, 0⟩ = (zag (rdNum ⟨s.data.toList, 0⟩).1, (rdNum ⟨s.data.toList, 0⟩).2)) := rfl
  rw [HI.out] at HN
  clear HI
  generalize rdNum ⟨s.data.toList, 0⟩ = p at *
  obtain ⟨v, s1⟩ := p
  have hz := zag_ge hlt
  go_wp2_with fail
  refine HN.out.mono ?_
  rintro e w2 ⟨rfl, hi2, hf2⟩
  have ho2 : OutAt w2 (w1.heap.size + 1) w1.heap.size [] := by
    have h1 := HZ.out
    refine (out_new w1).keep hf2.size (hf2.block _ (by simp) (by omega)) fun k h2 h3 => ?_
    simp at h3
    omega
  go_wp2_with fail
  refine (int_any w2 _ _ [] (zag v) hz.1 hz.2 ho2 (by simp)).mono ?_
  rintro e w3 ⟨rfl, ho3, hf3⟩
  rw [List.nil_append, zig_zag] at ho3
  have hi3 : InAt w3 w.heap.size s1 := hi2.kept (hf3.block _ (by have := HZ.out; omega) (by have := HZ.out; omega))
  have hbel : Below w.heap.size w w3 := by
    have h1 := HZ.out
    have b1 : Below w.heap.size w (w1.alloc (.cells #[.slice none 0 0] 26)) := hb1.alloc (by omega) _
    have b2 := b1.trans (hf2.below (Nat.le_refl _) (by simp; omega))
    exact b2.trans (hf3.below (B' := w.heap.size) (by omega) (by omega))
  by_cases he : s1.err = 0
  · have he' : ((s1.err : Int) != 0) = false := by simp [he]
    have HE := Lib.hid he
    clear he
    have hl' : s1.rest.length ≤ s.size := by
      have h1 := HSL.out
      have h2 : s1.rest.length ≤ s.data.toList.length := hleft
      omega
    go_wp2_with fail
    refine (err_any w3 _ s1 hi3).mono ?_
    rintro e w4 ⟨rfl, rfl⟩
    go_wp2_with fail
    refine (left_any w3 _ s1 hi3).mono ?_
    rintro e w4 ⟨rfl, rfl⟩
    go_wp2_with fail
    refine (left_any w3 _ s1 hi3).mono ?_
    rintro e w4 ⟨rfl, rfl⟩
    go_wp2_with fail
    refine (done_any w3 _ _ _ ho3).mono ?_
    rintro e w4 ⟨rfl, rfl⟩
    go_wp2_with fail
    refine (left_any w3 _ s1 hi3).mono ?_
    rintro e w4 ⟨rfl, rfl⟩
    go_wp2_with fail
    · refine (lives_any _).mono ?_
      rintro e w4 ⟨rfl, hb4⟩
      go_wp2
      go_ret
      exact ⟨rfl, hbel.trans (hb4.mono hbel.size)⟩
    · exact absurd (cut_eq (HO.out HE.out) HSL.out) ‹_›
  · have he' : ((s1.err : Int) != 0) = true := by simp [he]
    have HE := Lib.hid he
    clear he
    go_wp2_with fail
    refine (err_any w3 _ s1 hi3).mono ?_
    rintro e w4 ⟨rfl, rfl⟩
    go_wp2_with fail
    refine (lives_any _).mono ?_
    rintro e w4 ⟨rfl, hb4⟩
    go_wp2
    go_ret
    exact ⟨rfl, hbel.trans (hb4.mono hbel.size)⟩
set_option maxRecDepth 100000 in
theorem lifted (os : Os) (started : os.Started) (H : Type) (enc : TypeId × Value → H) :
    ReturnsInHanded {} Try.checked os 6 .any (Rows.octetOnceSpec.pre6 enc Try.prog Try.f6 Rows.octetOnceRow.domain false) (Rows.octetOnceSpec.post enc Try.prog Try.f6 false true false false) := by
  refine returnsInHanded_of_change_sized (C := Try.checked) own started (by kernel_rfl) Try.func6
    (ChangeSpec.witness6 (enc := enc) (C := Try.checked) false ⟨#[], #[.string .empty, .bool false], []⟩ 8 (by kernel_rfl) (by kernel_rfl) (by kernel_rfl) (by kernel_rfl)) ?_
  intro W base args ds gs before hval0 hW hcnd hsz0 _
  have hval : ∀ (j : Nat) t v, Try.f6.params[j]? = some t → args[j]? = some v → Value.okWide Try.prog W .any base t v := hval0
  have hsz : (DataW.weightsEach Try.prog (Try.f6.params.toList ++ Rows.octetOnceSpec.plain.varTypes Try.prog) (ds ++ gs)).all (· ≤ reachBytes) = true := hsz0
  have hW' := hW
  obtain ⟨p, q, hA0, hV, rfl, hfz, hnd⟩ := hW
  have hA : DataW.TrodAll enc Try.prog W 0 (fun _ => true) true Try.f6.params.toList args.toList ds p := hA0
  rw [Try.params6] at hA hval hsz
  obtain ⟨v0, vs0, d0, ds0, p0, q0, hargs, rfl, rfl, h0, r0⟩ := trodAll_cons hA
  obtain ⟨v1, vs1, d1, ds1, p1, q1, rfl, rfl, rfl, h1, r1⟩ := trodAll_cons r0
  obtain ⟨rfl, rfl, rfl⟩ := trodAll_nil r1
  obtain rfl : args = #[v0, v1] := by cases args; simp_all
  obtain ⟨rfl, rfl⟩ := trodVars_none hV
  obtain ⟨s, rfl, rfl, rfl, hmax⟩ := open_string Try.underlying9 (hval 0 9 v0 rfl rfl) h0
  obtain ⟨b, rfl, rfl, rfl⟩ := open_bool Try.underlying4 (hval 1 4 v1 rfl rfl) h1
  clear hA0 hval0
  have hreach := sized_string hsz (j := 0) (t := 9) rfl rfl
  have hlen : s.size ≤ 140737488355328 := by
    have e : s.data.toList.length = s.size := by rw [Array.length_toList]; rfl
    simp only [reachBytes] at hreach
    omega
  simp only [List.append_nil] at hW'
  have hwalk : Calls Try.prog 6 #[.string s, .bool b] W fun e w' => e = .returned (.bool true) ∧ Below W.heap.size W w' := by
    cases b
    · exact walk_num s hlen W
    · exact walk_int s hlen W
  refine hwalk.mono fun e W' ⟨he, hb⟩ => ?_
  subst he
  exact ⟨_, rfl, post_below (pa := []) (pv := []) hW' (fun _ _ _ => (trodAll_cons_mk (shut_bool Try.underlying4 _) trodAll_mk0)) (fun sp _ => (trodAll_cons_mk (shut_string Try.underlying9 hmax) (trodAll_cons_mk (shut_bool Try.underlying4 _) trodAll_mk0))) (fun _ _ => rfl) rfl
    hb (ok_one (by kernel_rfl) rfl (okWide_bool_mk Try.underlying4 _))⟩

theorem proved : Rows.OctetOnceSaid :=
  OpenClaim.holds_of_wide 6 Try.f6 rfl rfl rfl rfl rfl rfl rfl ⟨rfl, rfl, rfl, rfl, rfl⟩ rfl rfl rfl rfl rfl (by kernel_rfl) Try.func6 (by kernel_rfl)
    (of_decide_eq_true (by kernel_rfl)) (by unfold Func.isWrapper; first | (rw [if_pos (by decide +kernel)]; kernel_rfl) | (rw [if_neg (by decide +kernel)]; exact ⟨rfl, rfl⟩))
    (fun os started H enc _ => lifted os started H enc)
end Go.Proofs.Ytlbnmlcdjkaiiaa.octetOnce
