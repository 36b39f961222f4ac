/-
  The program's own frames that are cloned, and frames the last of which is another one. At most a thousand frames, each of twenty-seven numbers.
-/
import Derived.Test.YtlkcpplpjjbiaaaFLast
namespace Go.Proofs.Ytlkcpplpjjbiaaa.frames
open Go.RowKit Go.ChangeShapes
set_option linter.unusedVariables false
set_option linter.unusedSimpArgs false

theorem Own.ins {w : World} {base c : Nat} {A : Option Addr} {l : List Fr} (h : Own w base (.slice A l.length c) l) (hl : l.length ≤ 1000) (ha : ∀ f ∈ l, f.length = 27) : In w A c l := by
  refine ⟨h.at, h.cap, hl, ha, fun e => ?_⟩
  subst e
  rcases h.2 with ⟨e, h0⟩ | ⟨g, cap', cur, e, _⟩
  · injection e with e1 e2 e3
    exact ⟨List.eq_nil_of_length_eq_zero h0, e3⟩
  · cases e
theorem own_cells {base : Nat} {e : TypeId} {size g n cap : Nat} : ∀ (vs q p : List Value) (w : World), q.length = vs.length → w.ownsRow base e size (.slice (some ⟨g, 0, none⟩) n cap) n (p ++ q) →
    (w.setCells g p.length vs).ownsRow base e size (.slice (some ⟨g, 0, none⟩) n cap) n (p ++ vs) := by
  intro vs
  induction vs with
  | nil =>
    intro q p w hq h
    obtain rfl := List.eq_nil_of_length_eq_zero hq
    exact h
  | cons v vs ih =>
    intro q p w hq h
    cases q with
    | nil => cases hq
    | cons u q =>
      have h1 := (h.stored p.length v).1
      have e1 : (p ++ u :: q).set p.length v = (p ++ [v]) ++ q := by
        rw [List.set_append_right _ _ (Nat.le_refl _), Nat.sub_self, List.set_cons_zero]
        simp
      rw [e1] at h1
      have h2 := ih q (p ++ [v]) _ (by simpa using hq) h1
      rw [List.length_append, List.length_singleton] at h2
      simpa [World.setCells] using h2
theorem below_cells {B g : Nat} (hg : B ≤ g) : ∀ (vs : List Value) (o : Nat) (a w : World), Below B a w → Below B a (w.setCells g o vs) := by
  intro vs
  induction vs with
  | nil => intro o a w h; exact h
  | cons v vs ih => intro o a w h; exact ih _ _ _ (h.setCell (p := ⟨g, o, none⟩) hg v)
theorem own_last {w : World} {base g n cap : Nat} {r : List Fr} {f0 : Fr} (h : Own w base (.slice (some ⟨g, 0, none⟩) n cap) (r ++ [f0])) (f : Fr) : Own (w.setCells g (r.length * 27) (cellsF f)) base (.slice (some ⟨g, 0, none⟩) n cap) (r ++ [f]) := by
  unfold Own at h ⊢
  have hn : n = r.length + 1 := by
    rcases h.2 with ⟨e, _⟩ | ⟨g', c', cur, e, _⟩
    · cases e
    · injection e with _ e2 _
      simpa using e2
  rw [List.length_append, List.length_singleton, flat_append] at h ⊢
  have e0 : ∀ f, flat [f] = cellsF f := fun f => by simp [flat]
  rw [e0] at h ⊢
  subst hn
  have := own_cells (cellsF f) (cellsF f0) (flat r) w (by rw [cellsF_length, cellsF_length]) h
  rwa [flat_length] at this
theorem own_there {w : World} {base g n cap : Nat} {r : List Fr} {f0 : Fr} (h : Own w base (.slice (some ⟨g, 0, none⟩) n cap) (r ++ [f0])) : w.there g (r.length * 27) 27 := fun j hj => by
  have hn : n = (r ++ [f0]).length := by
    rcases h.2 with ⟨e, _⟩ | ⟨g', c', cur, e, _⟩
    · cases e
    · injection e with _ e2 _
  subst hn
  refine ⟨?_, World.ownsRow.frozenAt h _⟩
  rw [World.ownsRow.cellAt h _ (by rw [List.length_append, List.length_singleton]; omega), flat_append, List.getElem?_append_right (by rw [flat_length]; omega), flat_length, show r.length * 27 + j - r.length * 27 = j by omega]
  simp [flat, cellsF_at f0 hj]
theorem Own.some {w : World} {base n c : Nat} {A : Option Addr} {l : List Fr} (h : Own w base (.slice A n c) l) (h0 : l.length ≠ 0) : ∃ g, A = some ⟨g, 0, none⟩ ∧ base ≤ g ∧ g < w.heap.size := by
  rcases h.2 with ⟨e, h1⟩ | ⟨g, cap', cur, e, hb, hh, _⟩
  · exact absurd h1 h0
  · injection e with e1 e2 e3
    exact ⟨g, e1, hb, lt_of_block hh⟩

section
variable {ops : Array Oper} {rest : List Oper} {o : Oper} {a : Act} {w : World} {Q : Exit → Act → World → Prop}
theorem wl_storeM (hgd : o.guard = none) (x y : Operand) (ho : o.op = .store 56 x y) (b i : Nat) (f : Fr) (hx : a.eval x = .pointer (some ⟨b, i, none⟩)) (hy : a.eval y = .agg (cellsF f).toArray) (ht : w.there b i 27)
    (h : wpList Try.prog ops Q rest (a.put o.dst undef) (w.setCells b i (cellsF f))) : wpList Try.prog ops Q (o :: rest) a w :=
  wpList_store_mid hgd _ x y ho b i (cellsF f).toArray hx hy (by rw [cellsF_size]; exact ht) (sizeF (cellsF_size f)) (cellsF_all f) h
end

theorem eqlF (a : Option Addr) (n c : Nat) (w : World) : (binOp .eql 22 (.slice a n c) (.slice none 0 0)).run Try.prog w = .ok (.bool a.isNone) w := Lib.run_eql_slice_nil w 22 _ a n c 0 0 Try.underlying22

set_option maxRecDepth 100000 in
set_option maxHeartbeats 4000000 in
theorem clone_any (A : Option Addr) (c : Nat) (l : List Fr) (w : World) (hI : In w A c l) :
    Calls Try.prog 24 #[.slice A l.length c] w fun e w' => ∃ A' c', e = .returned (.slice A' l.length c') ∧ Own w' w.heap.size (.slice A' l.length c') l ∧ Below w.heap.size w w' := by
  have hq := eqlF A l.length c
  cases A with
  | none =>
    obtain ⟨rfl, rfl⟩ := hI.nil rfl
    clear hI hq
    have hq := eqlF none 0 0
    show Calls _ _ #[.slice none 0 0] _ _
    go_enter Try.func24, Try.ntmps24
    go_wp2
    go_ret
    exact ⟨none, 0, rfl, Own.nil _ _, Below.refl _ _⟩
  | some ad =>
    have HA := Lib.hid hI.at'
    have HL := Lib.hid hI.len
    have HE := Lib.hid (heap_alloc_new w (.cells #[] 56))
    have HB := Lib.hid ((Below.refl w.heap.size w).alloc (Nat.le_refl _) (.cells #[] 56))
    clear hI
    go_enter Try.func24, Try.ntmps24
    go_wp2_with (at_builtin; refine wpList_appF (by rfl) (.tmp 5) (.tmp 6) (by rfl) w.heap.size l.length c (.slice (some ⟨w.heap.size, 0, none⟩) 0 0) (some ad) [] l (by rfl) (Own.empty HE.out) (by rfl) rfl (fun h => by cases h) (HA.out.next HB.out) (by have := HL.out; simp; omega) (by simp) ?_)
    intro v' w' h1 h2
    have HB2 := Lib.hid (HB.out.grown h2 (by simp) (fun k e => by simp [Value.ownBlock] at e; omega))
    try rw [List.nil_append] at h1
    have HR := Lib.hid h1
    obtain ⟨A', c', rfl⟩ := h1.slice
    clear h1 h2
    go_wp2
    go_ret
    exact ⟨A', c', rfl, HR.out, HB2.out⟩

theorem top_last {l : List Fr} {m : Nat} (hm : l.length = m + 1) : l = l.take m ++ [topF l] := by
  unfold topF
  rw [hm]
  apply List.ext_getElem?
  intro j
  rw [Nat.add_sub_cancel]
  rcases Nat.lt_trichotomy j m with h | h | h
  · rw [List.getElem?_append_left (by rw [List.length_take]; omega), List.getElem?_take_of_lt h]
  · subst h
    rw [List.getElem?_append_right (by rw [List.length_take]; omega), List.length_take, show j - min j l.length = 0 by omega, List.getD_eq_getElem?_getD, List.getElem?_eq_getElem (by omega)]
    rfl
  · rw [List.getElem?_eq_none (by omega), List.getElem?_eq_none (by rw [List.length_append, List.length_take, List.length_singleton]; omega)]

/-- Frames, the last of which is another one, in memory of their own. -/
def ChPost (x : List Fr) (w : World) (e : Ending) (w' : World) : Prop :=
  ∃ A c, e = .returned (.slice A x.length c) ∧ Own w' w.heap.size (.slice A x.length c) x ∧ Below w.heap.size w w'

set_option maxRecDepth 100000 in
set_option maxHeartbeats 4000000 in
theorem changed_any (A : Option Addr) (c : Nat) (l : List Fr) (f : Fr) (w : World) (hI : In w A c l) (h0 : l.length ≠ 0) :
    Calls Try.prog 49 #[.slice A l.length c, .agg (cellsF f).toArray] w (ChPost (withF l f) w) := by
  obtain ⟨m, hm⟩ : ∃ m, l.length = m + 1 := ⟨l.length - 1, by omega⟩
  have hb0 : Below w.heap.size w (w.alloc (frB f)) := (Below.refl _ w).alloc (Nat.le_refl _) _
  have hx0 := heap_alloc_new w (frB f)
  have hs0 : (w.alloc (frB f)).heap.size = w.heap.size + 1 := World.size_alloc _ _
  have HC := Lib.hid (clone_any A c l _ (hI.next hb0))
  have HT := Lib.hid (top_last hm)
  have HW : Hid (withF l f = l.take m ++ [f]) := Lib.hid (by unfold withF; rw [hm]; rfl)
  have HL : Hid ((l.take m).length = m) := Lib.hid (by rw [List.length_take]; omega)
  unfold ChPost
  rw [HW.out]
  unfold frB at hb0 hx0 hs0 HC
  have HX := Lib.hid hx0
  have HB := Lib.hid hb0
  have HS := Lib.hid hs0
  have hlen := hI.len
  rw [HT.out] at HC
  rw [List.length_append, List.length_singleton, HL.out] at HC
  rw [hm] at hlen ⊢
  generalize l.take m = r at *
  generalize topF l = f0 at *
  have k0 : (0 : Int) ≤ (m : Int) := by omega
  have k1 : (m : Int) < ((m + 1 : Nat) : Int) := by omega
  have k2 : (m : Int) < (m : Int) + 1 := by omega
  have hw0 : IntKind.i64.wrap ((m : Int) + 1 - 1) = (m : Int) := by rw [IntKind.wrap_i64]; omega
  have hw1 : IntKind.i64.wrap (m : Int) = (m : Int) := by rw [IntKind.wrap_i64]; omega
  clear hI hb0 hx0 hs0 hm h0
  go_enter Try.func49, Try.ntmps49
  go_upto_region 1 with fail
  generalize w.alloc (.cells (cellsF f).toArray 56) = W1 at *
  go_wp2_with fail
  refine HC.out.mono ?_
  rintro _ w2 ⟨A2, c2, rfl, hO, hb2⟩
  obtain ⟨g, rfl, hg1, hg2⟩ := hO.some (by simp)
  have hcap := hO.cap
  rw [List.length_append, List.length_singleton, HL.out] at hcap
  have HFc : Hid (FCells w2 w.heap.size 0 f) := Lib.hid (FCells.of_block (f := f) ((hb2.block w.heap.size (by rw [HS.out]; omega)).trans HX.out))
  have HTh := Lib.hid (own_there hO)
  have HO := Lib.hid (own_last hO f)
  rw [HL.out] at HTh HO
  have HBb := Lib.hid (below_cells (g := g) (B := w.heap.size) (by have := HS.out; omega) (cellsF f) (m * 27) w w2 (HB.out.trans (hb2.mono (by have := HS.out; omega))))
  have HLe : Hid ((r ++ [f]).length = m + 1) := Lib.hid (by rw [List.length_append, List.length_singleton, HL.out])
  clear hO hb2 HC HT hg1 hg2
  go_wp2_with (first | refine wl_load rfl _ rfl w.heap.size 0 rfl f HFc.out ?_ | refine wl_storeM rfl _ _ rfl g (m * 27) f (by first | rfl | simp) rfl HTh.out ?_)
  go_ret
  exact ⟨_, c2, by rw [HLe.out]; rfl, by rw [HLe.out]; exact HO.out.base (by have := HS.out; omega), HBb.out⟩
end Go.Proofs.Ytlkcpplpjjbiaaa.frames
