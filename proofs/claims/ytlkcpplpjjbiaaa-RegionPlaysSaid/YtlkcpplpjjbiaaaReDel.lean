/-
  slices.Delete of one pair out of a row of a call's own (typed over the code of cce19aa). No condition.
-/
import Derived.Test.YtlkcpplpjjbiaaaReRow
import Derived.Lib.SliceRun
import Derived.Lib.Walk
import Derived.Deep.RegionLaw
import Derived.WalkKit
namespace Go.Proofs.Ytlkcpplpjjbiaaa.reg
open Go.RowKit Go.ChangeShapes
open Go.Proofs.Ytlkcpplpjjbiaaa.pr (SAt Own flat flat_length flat_oneCell infoS)
set_option linter.unusedVariables false
set_option linter.unusedSimpArgs false

/-- What Delete leaves. -/
def GoneP (base b cap k : Nat) (l : List E) (w w' : World) : Prop :=
  Own w' base (.slice (some ⟨b, 0, none⟩) (l.length - 1) cap) (l.take k ++ l.drop (k + 1)) ∧ (∀ j, j ≠ b → w'.heap[j]? = w.heap[j]?) ∧ w'.heap.size = w.heap.size ∧ w'.os = w.os ∧ w'.tape = w.tape ∧ w'.output = w.output
theorem gone_of {base b cap k : Nat} {l : List E} {w : World} (hr : Own w base (.slice (some ⟨b, 0, none⟩) l.length cap) l) (hk : k < l.length) :
    GoneP base b cap k l w ((w.drew.setCells b (k * 2) (flat (l.drop (k + 1)))).setCells b ((l.length - 1) * 2) [.int .i64 0, .int .i64 0]) := by
  have hrd : Own w.drew base (.slice (some ⟨b, 0, none⟩) l.length cap) l := hr
  obtain ⟨a1, a2, a3, a4⟩ := pr.cells_size [.int .i64 0, .int .i64 0] b ((l.length - 1) * 2) (w.drew.setCells b (k * 2) (flat (l.drop (k + 1))))
  obtain ⟨b1, b2, b3, b4⟩ := pr.cells_size (flat (l.drop (k + 1))) b (k * 2) w.drew
  exact ⟨hrd.gone hk, fun j hj => (pr.cells_far _ _ _ _ _ hj).trans (pr.cells_far _ _ _ _ _ hj), a1.trans b1, a2.trans b2, a3.trans b3, a4.trans b4⟩
theorem clear2 (W : World) (ty : TypeId) (b o c : Nat) (hc : ∀ j, j < 2 → (W.cell? ⟨b, o + j, none⟩).isSome = true) (hf : ∀ j, j < 2 → W.frozen? ⟨b, o + j, none⟩ = false) :
    (Builtin.clear_ #[44] ty #[.slice (some ⟨b, o, none⟩) 1 c]).run Try.prog W = .ok (.tuple #[]) (W.setCells b o [.int .i64 0, .int .i64 0]) := by
  have hv : ∀ w, (zeroValue 47).run Try.prog w = .ok (.agg #[.int .i64 0, .int .i64 0]) w := (zero_of_info (P := Try.prog) (t := 47) (v := .agg #[.int .i64 0, .int .i64 0]) (n := 2) (by kernel_rfl)).1
  have hzc : (Builtin.zeroCells (Value.agg #[.int .i64 0, .int .i64 0]).cells 1).toList = [.int .i64 0, .int .i64 0] := by
    simp [Builtin.zeroCells, Value.cells]
    rfl
  have hst := run_storeCells_cells (P := Try.prog) b o [.int .i64 0, .int .i64 0] 0 W (by simpa using hc) (by simpa using hf) (by intro v hv'; simp at hv'; rcases hv' with rfl | rfl <;> rfl)
  simp only [Nat.add_zero] at hst
  simp [Builtin.clear_, run_underlying Try.underlying44, hv, hzc, hst]
section
variable {ops : Array Oper} {rest : List Oper} {o : Oper} {a : Act} {w : World} {Q : Exit → Act → World → Prop}
theorem wl_clear (hgd : o.guard = none) (x : Operand) (ho : o.op = .call { callee := .builtin .clear, args := #[x], argTypes := #[44] }) (v : Value) (W' : World) (hx : a.eval x = v)
    (hr : ∀ ty, (Builtin.clear_ #[44] ty #[v]).run Try.prog w = .ok (.tuple #[]) W')
    (h : wpList Try.prog ops Q rest (a.put o.dst (.tuple #[])) W') : wpList Try.prog ops Q (o :: rest) a w :=
  wpList_plain hgd fun K hK => by
    unfold Oper.wp execOp
    simp only [ho, resolve, invoke, builtin, Sem.run_bind, Sem.run_pure, Result.andThen_ok, List.map_toArray, List.map_cons, List.map_nil, hx, hr]
    exact hK _ _ h
end
set_option maxHeartbeats 4000000 in
set_option maxRecDepth 1000000 in
/-- A row out of which one has gone. -/
theorem delete_walk (w : World) (base b n cap k j : Nat) (l : List E) (hj : j = k + 1) (hr : Own w base (.slice (some ⟨b, 0, none⟩) n cap) l) (hk : k < l.length) :
    Calls Try.prog 35 #[.slice (some ⟨b, 0, none⟩) n cap, .int .i64 (k : Int), .int .i64 (j : Int)] w fun e w' => e = .returned (.slice (some ⟨b, 0, none⟩) (l.length - 1) cap) ∧ GoneP base b cap k l w w' := by
  obtain rfl := hr.len
  obtain ⟨hcap, hmax⟩ := hr.cap
  obtain ⟨i0, hi0, hz0, hz1, hz2⟩ := info_parts infoS
  have hrd : Own w.drew base (.slice (some ⟨b, 0, none⟩) l.length cap) l := hr
  have HG := gone_of hr hk
  have hspl : flat l = flat (l.take k) ++ flat (l.drop k) := by rw [← pr.flat_append, List.take_append_drop]
  obtain ⟨news, hnews⟩ : ∃ news, news = flat (l.drop (k + 1)) := ⟨_, rfl⟩
  rw [← hnews] at HG
  have hlen : news.length = (l.length - (k + 1)) * 2 := by rw [hnews, flat_length, List.length_drop]
  have hone : Hid (∀ u ∈ news, u.oneCell' = true) := Lib.hid (by rw [hnews]; exact flat_oneCell _)
  obtain ⟨A, hA, hsrc⟩ : ∃ A : Addr, (if cap = j then some (⟨b, 0, none⟩ : Addr) else some ⟨b, j * 2, none⟩) = some A ∧ Hid (∀ t u, news[t]? = some u → w.drew.cell? (A.add t) = some u) := by
    by_cases h : cap = j
    · refine ⟨⟨b, 0, none⟩, by simp [h], Lib.hid fun t u hu => ?_⟩
      have h0 : news.length = 0 := by rw [hlen]; omega
      rw [List.length_eq_zero_iff.1 h0] at hu
      simp at hu
    · refine ⟨⟨b, j * 2, none⟩, by simp [h], Lib.hid fun t u hu => ?_⟩
      have ht : t < (l.length - (k + 1)) * 2 := by
        have := (List.getElem?_eq_some_iff.1 hu).1
        rwa [hlen] at this
      have e : flat l = flat (l.take (k + 1)) ++ flat (l.drop (k + 1)) := by rw [← pr.flat_append, List.take_append_drop]
      have e1 : (flat (l.take (k + 1))).length = (k + 1) * 2 := by rw [flat_length, List.length_take]; omega
      rw [Addr.add_lit, hj, World.ownsRow.cellAt hrd _ (by omega), e, List.getElem?_append_right (by omega), e1, show (k + 1) * 2 + t - (k + 1) * 2 = t by omega, ← hnews, hu]
  have s1 : Hid (news.length = (l.length - (k + 1)) * 2) := Lib.hid hlen
  have s3 : Hid (∀ t, t < news.length → (w.drew.cell? ⟨b, 0 + k * 2 + t, none⟩).isSome = true ∧ w.drew.frozen? ⟨b, 0 + k * 2 + t, none⟩ = false) := Lib.hid fun t ht => by
    rw [hlen] at ht
    rw [Nat.zero_add]
    refine ⟨?_, World.ownsRow.frozenAt hrd _⟩
    rw [World.ownsRow.cellAt hrd _ (by omega), List.getElem?_eq_getElem (by rw [flat_length]; omega)]
    rfl
  obtain ⟨W1, hW1⟩ : ∃ W1, W1 = w.drew.setCells b (0 + k * 2) news := ⟨_, rfl⟩
  have hO1 : W1.ownsRow base 47 2 (.slice (some ⟨b, 0, none⟩) l.length cap) l.length (flat (l.take k) ++ (news ++ (flat (l.drop k)).drop ((l.length - (k + 1)) * 2))) := by
    have hp : (flat (l.take k)).length = k * 2 := by rw [flat_length, List.length_take]; omega
    have hdk : (flat (l.drop k)).length = (l.length - k) * 2 := by rw [flat_length, List.length_drop]
    have hcut : flat (l.drop k) = (flat (l.drop k)).take ((l.length - (k + 1)) * 2) ++ (flat (l.drop k)).drop ((l.length - (k + 1)) * 2) := (List.take_append_drop _ _).symm
    have h0 : w.drew.ownsRow base 47 2 (.slice (some ⟨b, 0, none⟩) l.length cap) l.length (flat l) := hrd
    rw [hspl, hcut] at h0
    have h1 := pr.own_mid news _ _ _ w.drew (by rw [List.length_take, hlen, hdk]; omega) h0
    rw [hp] at h1
    rw [hW1, Nat.zero_add]
    exact h1
  have hlast : (flat (l.take k) ++ (news ++ (flat (l.drop k)).drop ((l.length - (k + 1)) * 2))).length = l.length * 2 := by
    rw [List.length_append, List.length_append, List.length_drop, hlen, flat_length, flat_length, List.length_take, List.length_drop]
    omega
  have hcl : Hid (∀ ty c, (Builtin.clear_ #[44] ty #[.slice (some ⟨b, (l.length - 1) * 2, none⟩) 1 c]).run Try.prog W1 = .ok (.tuple #[]) (W1.setCells b ((l.length - 1) * 2) [.int .i64 0, .int .i64 0])) := Lib.hid fun ty c =>
    clear2 W1 ty b _ c (fun t ht => by
      rw [World.ownsRow.cellAt hO1 _ (by omega), List.getElem?_eq_getElem (by rw [hlast]; omega)]
      rfl) (fun t ht => World.ownsRow.frozenAt hO1 _)
  have HE : Hid (GoneP base b cap k l w (W1.setCells b ((l.length - 1) * 2) [.int .i64 0, .int .i64 0])) := Lib.hid (by rw [hW1, Nat.zero_add]; exact HG)
  have hW : Hid (W1 = w.drew.setCells b (0 + k * 2) news) := Lib.hid hW1
  obtain ⟨L, hL⟩ : ∃ L, L = l.length := ⟨_, rfl⟩
  rw [← hL] at hk hcap s1 hcl HE ⊢
  have hic : k ≤ cap := by omega
  have hjc : j ≤ cap := by omega
  have hjl : j ≤ L := by omega
  have hkj : k ≤ j := by omega
  have hkn : ¬ k = j := by omega
  have hmx : Try.prog.follows Departure.mixedOrders = true := by kernel_rfl
  rw [show L - (k + 1) = L - j by omega] at s1
  obtain ⟨M, hM⟩ : ∃ M, M = L - 1 := ⟨_, rfl⟩
  have HC : Hid (∀ ty c, (Builtin.clear_ #[44] ty #[.slice (some ⟨b, M * 2, none⟩) (L - M) c]).run Try.prog W1 = .ok (.tuple #[]) (W1.setCells b (M * 2) [.int .i64 0, .int .i64 0])) := Lib.hid fun ty c => by
    have := hcl.out ty c
    rw [← hM] at this
    rw [show L - M = 1 by omega]
    exact this
  rw [← hM] at HE ⊢
  have hML : M ≤ L := by omega
  have hMc : ¬ cap = M := by omega
  have hkM : k + (L - j) = M := by omega
  have HK := Lib.hid hkM
  clear hcl hkM
  have HJ := Lib.hid hj
  clear hj hM hW1 hO1 hlast hnews hlen hspl hrd HG hr hL
  go_enter Try.func35, Try.ntmps35
  go_wp2_with fail
  go_region_law_o (refine step_append_room rfl (.tmp 22) (.tmp 25) 44 rfl 47 i0 2 Try.underlying44 hi0 hz1 b 0 k cap (by simp [Act.eval, Act.put]) A (L - j) (cap - j) news (by simp [Act.eval, Act.put]) s1.out hsrc.out hone.out (by omega) s3.out ?_; rw [← hW.out])
  simp only [HK.out]
  go_wp2_with (refine wl_clear rfl (.tmp 31) rfl _ _ (by rfl) (fun ty => HC.out ty _) ?_)
  go_ret
  exact ⟨by simp, HE.out⟩
theorem delete_any (w : World) (base b n cap k : Nat) (l : List E) (hr : Own w base (.slice (some ⟨b, 0, none⟩) n cap) l) (hk : k < l.length) :
    Calls Try.prog 35 #[.slice (some ⟨b, 0, none⟩) n cap, .int .i64 (k : Int), .int .i64 ((k : Int) + 1)] w fun e w' => e = .returned (.slice (some ⟨b, 0, none⟩) (l.length - 1) cap) ∧ GoneP base b cap k l w w' := by
  have h := delete_walk w base b n cap k (k + 1) l rfl hr hk
  rwa [Int.natCast_add, Int.natCast_one] at h
end Go.Proofs.Ytlkcpplpjjbiaaa.reg
