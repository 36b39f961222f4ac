/-
  A clone has what its row has, and goes on by itself: for every room and all lists of calls, under no condition.
-/
import Derived.Test.YtklobefidgnbkaaROps
import Derived.Test.YtklobefidgnbkaaRApart
namespace Go.Proofs.Ytklobefidgnbkaa.ringApart
open Go.ChangeShapes Go.WideShapes Go.ChangeAt Go.RowKit Go.Proofs.Ytklobefidgnbkaa.ring
set_option linter.unusedVariables false

theorem cells42 : Try.prog.cellsOf 42 = 4 := by kernel_rfl
theorem cells5 : Try.prog.cellsOf 5 = 1 := by kernel_rfl
theorem cells22 : Try.prog.cellsOf 22 = 1 := by kernel_rfl

theorem opsIn_of {w : World} {a : Option Addr} {len : Nat} (h : len = 0 ∨ ∃ b off ops, a = some ⟨b, off, none⟩ ∧ b < w.heap.size ∧ OpsAt w b off len ops) : ∃ ops, OpsIn w a len ops := by
  rcases h with rfl | ⟨b, off, ops, rfl, hb, ho⟩
  · exact ⟨fun _ => (0, 0), fun i hi => by omega⟩
  · exact ⟨ops, fun i hi => ⟨b, off, rfl, hb, ho i hi⟩⟩

/-- The argument, out of its four cells. -/
theorem open_apart {H : Type} {enc : TypeId × Value → H} {w : World} {base : Nat} {spare : Nat → Bool} {held : Bool} {fuel : Nat} {cs : List Value} {x : DataW H × List MemPlace} (hlt : ∀ p ∈ x.2, p.block < w.heap.size)
    (h : DataW.trod enc Try.prog w base spare held fuel 42 cs = some x) :
    ∃ (n : Nat) (a1 a2 a3 : Option Addr) (len1 cap1 len2 cap2 len3 cap3 : Nat) (ops1 ops2 ops3 : Nat → Int × Int), cs = [.int .u8 (n : Int), .slice a1 len1 cap1, .slice a2 len2 cap2, .slice a3 len3 cap3] ∧ n ≤ 255 ∧
      OpsIn w a1 len1 ops1 ∧ OpsIn w a2 len2 ops2 ∧ OpsIn w a3 len3 ops3 := by
  obtain ⟨xs, m, _, hy, hlen, hxl, hfs⟩ := DataW.trod_struct Try.underlying42 h
  rw [cells42] at hlen
  match cs, hlen with
  | [v0, v1, v2, v3], _ =>
    match xs, hxl with
    | [y0, y1, y2, y3], _ =>
      have f0 : DataW.trod enc Try.prog w base spare held m 5 [v0] = some y0 := by simpa [cells5] using hfs 0 _ rfl
      have f1 : DataW.trod enc Try.prog w base spare held m 22 [v1] = some y1 := by simpa [cells22] using hfs 1 _ rfl
      have f2 : DataW.trod enc Try.prog w base spare held m 22 [v2] = some y2 := by simpa [cells22] using hfs 2 _ rfl
      have f3 : DataW.trod enc Try.prog w base spare held m 22 [v3] = some y3 := by simpa [cells22] using hfs 3 _ rfl
      have hp : x.2 = y0.2 ++ (y1.2 ++ (y2.2 ++ y3.2)) := by rw [hy]; simp
      obtain ⟨k, e0, _, w0⟩ := DataW.trod_int Try.underlying5 f0
      obtain ⟨a1, len1, cap1, e1, _, o1⟩ := open_ops (fun x hx => hlt x (by rw [hp]; simp [hx])) f1
      obtain ⟨a2, len2, cap2, e2, _, o2⟩ := open_ops (fun x hx => hlt x (by rw [hp]; simp [hx])) f2
      obtain ⟨a3, len3, cap3, e3, _, o3⟩ := open_ops (fun x hx => hlt x (by rw [hp]; simp [hx])) f3
      obtain ⟨ops1, O1⟩ := opsIn_of o1
      obtain ⟨ops2, O2⟩ := opsIn_of o2
      obtain ⟨ops3, O3⟩ := opsIn_of o3
      simp only [List.cons.injEq, and_true] at e0 e1 e2 e3
      have hk : 0 ≤ k ∧ k ≤ 255 := by simpa [Lit.wf, IntKind.min, IntKind.max, IntKind.signed, IntKind.bits] using w0
      obtain ⟨n, rfl⟩ := Int.eq_ofNat_of_zero_le hk.1
      exact ⟨n, a1, a2, a3, len1, cap1, len2, cap2, len3, cap3, ops1, ops2, ops3, by rw [e0, e1, e2, e3], by omega, O1, O2, O3⟩

set_option maxRecDepth 100000 in
theorem lifted (os : Os) (started : os.Started) (H : Type) (enc : TypeId × Value → H) :
    ReturnsInHanded {} Try.checked os 5 .any (Rows.ringApartSpec.pre6 enc Try.prog Try.f5 Rows.ringApartRow.domain false) (Rows.ringApartSpec.post enc Try.prog Try.f5 false true false false) := by
  refine returnsInHanded_of_change (C := Try.checked) own started (by kernel_rfl) Try.func5
    (ChangeSpec.witness6 (enc := enc) (C := Try.checked) false ⟨#[], #[.agg #[.int .u8 0, .slice none 0 0, .slice none 0 0, .slice none 0 0]], []⟩ 8 (by kernel_rfl) (by kernel_rfl) (by kernel_rfl) (by kernel_rfl)) ?_
  intro W base args ds gs before hval0 hW hcnd _
  have hval : ∀ (j : Nat) t v, Try.f5.params[j]? = some t → args[j]? = some v → Value.okWide Try.prog W .any base t v := hval0
  have hW' := hW
  obtain ⟨p, q, hA0, hV, rfl, hfz, hnd⟩ := hW
  have hA : DataW.TrodAll enc Try.prog W 0 (fun _ => true) true Try.f5.params.toList args.toList ds p := hA0
  rw [Try.params5] at hA hval
  obtain ⟨v0, vs0, d0, ds0, p0, q0, hargs, rfl, rfl, h0, r0⟩ := trodAll_cons hA
  obtain ⟨rfl, rfl, rfl⟩ := trodAll_nil r0
  obtain rfl : args = #[v0] := by cases args; simp_all
  obtain ⟨rfl, rfl⟩ := trodVars_none hV
  obtain ⟨cs, rfl, hsz⟩ := okWide_struct Try.underlying42 (hval 0 42 v0 rfl rfl)
  have h0k := h0
  obtain ⟨fuel, hf⟩ := h0
  clear hA0 hval0
  simp only [List.append_nil] at hW'
  have hlt : ∀ x ∈ p0, x.block < W.heap.size := fun x hx => by simpa using hW'.lt x hx
  have hwalk : Calls Try.prog 5 #[.agg cs] W fun e w' => e = .returned (.bool true) ∧ Below W.heap.size W w' := by
    obtain ⟨n, a1, a2, a3, len1, cap1, len2, cap2, len3, cap3, ops1, ops2, ops3, hcs, hn, O1, O2, O3⟩ := open_apart hlt hf
    obtain rfl : cs = #[.int .u8 (n : Int), .slice a1 len1 cap1, .slice a2 len2 cap2, .slice a3 len3 cap3] := by
      rw [← Array.toList_inj]
      exact hcs
    exact apart_walk n hn a1 a2 a3 len1 cap1 len2 cap2 len3 cap3 ops1 ops2 ops3 W O1 O2 O3
  refine hwalk.mono fun e W' ⟨he, hb⟩ => ?_
  subst he
  exact ⟨_, rfl, post_below (s := Rows.ringApartSpec) (pa := p0) (pv := []) hW' (fun _ _ _ => (trodAll_cons_mk (shut_bool Try.underlying4 _) trodAll_mk0))
    (fun sp hsp => trodAll_mk1 (WideElems.Trod_stays laidOut (by kernel_rfl) (of_decide_eq_true (by kernel_rfl)) h0k (fun x hx => hb.same (hlt x hx)) (fun x hx => hsp x hx))) (fun _ _ => rfl) (by simp)
    hb (ok_one (by kernel_rfl) rfl (okWide_bool_mk Try.underlying4 _))⟩

theorem proved : Rows.RingApartSaid :=
  OpenClaim.holds_of_wide 5 Try.f5 rfl rfl rfl rfl rfl rfl rfl ⟨rfl, rfl, rfl, rfl, rfl⟩ rfl rfl rfl rfl rfl (by kernel_rfl) Try.func5 (by kernel_rfl)
    (of_decide_eq_true (by kernel_rfl)) (by unfold Func.isWrapper; first | (rw [if_pos (by decide +kernel)]; kernel_rfl) | (rw [if_neg (by decide +kernel)]; exact ⟨rfl, rfl⟩))
    (fun os started H enc _ => lifted os started H enc)
end Go.Proofs.Ytklobefidgnbkaa.ringApart
