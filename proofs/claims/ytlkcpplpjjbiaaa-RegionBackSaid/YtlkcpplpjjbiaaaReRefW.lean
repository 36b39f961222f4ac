/-
  The document's Wrote. No condition.
-/
import Derived.Test.YtlkcpplpjjbiaaaReRef
namespace Go.Proofs.Ytlkcpplpjjbiaaa.reg
open Go.RowKit Go.ChangeShapes
open Go.Proofs.Ytlkcpplpjjbiaaa.pol (SAt below_grown)
set_option linter.unusedVariables false
set_option linter.unusedSimpArgs false

/-- A row of shares put behind another one. -/
theorem run_appO (w : World) (ty : TypeId) (base base2 : Nat) (v v2 : Value) (l r : List E) (hrow : pol.Own w base v l) (hsrc : pol.Own w base2 v2 r) (hlen : l.length + r.length ≤ 100000) (hbase : base ≤ w.heap.size) :
    ∃ v' w', (Builtin.append_ #[29, 29] ty #[v, v2]).run Try.prog w = .ok v' w' ∧ pol.Own w' base v' (l ++ r) ∧ w.grownBy w' v.ownBlock := by
  obtain ⟨A, c, rfl⟩ := hsrc.slice
  cases A with
  | none =>
    rcases hsrc.2 with ⟨e, h0⟩ | ⟨g, cap, cur, e, _⟩
    · have hn : r = [] := List.eq_nil_of_length_eq_zero h0
      subst hn
      injection e with e1 e2 e3
      subst e3
      obtain ⟨i, hi, hz0, hz1, hz2⟩ := info_parts pol.infoS
      refine ⟨v, w, run_append_owned_none (P := Try.prog) (w := w) base 29 ty 42 i 2 Try.underlying29 hi v l.length (pol.flat l) hrow, ?_, ⟨rfl, rfl, rfl, Nat.le_refl _, fun _ _ _ => rfl⟩⟩
      rw [List.append_nil]
      exact hrow
    · injection e with e1 e2 e3
      cases e1
  | some ad => exact pol.run_appS w ty base r.length c _ v ad l r hrow rfl hsrc.at hlen hbase
theorem wpList_appO {ops : Array Oper} {rest : List Oper} {o : Oper} {a : Act} {w : World} {Q : Exit → Act → World → Prop} (hgd : o.guard = none) (s x : Operand)
    (ho : o.op = .call { callee := .builtin .append, args := #[s, x], argTypes := #[29, 29] }) (base base2 : Nat) (v v2 : Value) (l r : List E)
    (hs : a.eval s = v) (hrow : pol.Own w base v l) (hx : a.eval x = v2) (hsrc : pol.Own w base2 v2 r) (hlen : l.length + r.length ≤ 100000) (hbase : base ≤ w.heap.size)
    (h : ∀ v' w', pol.Own w' base v' (l ++ r) → w.grownBy w' v.ownBlock → wpList Try.prog ops Q rest (a.put o.dst v') w') : wpList Try.prog ops Q (o :: rest) a w :=
  wpList_plain hgd fun _ hK => by
    obtain ⟨v', w', hr, h2, h3⟩ := run_appO w o.type base base2 v v2 l r hrow hsrc hlen hbase
    unfold Oper.wp execOp
    simp only [ho, resolve, invoke, builtin, Sem.run_bind, Sem.run_pure, Result.andThen_ok, List.map_toArray, List.map_cons, List.map_nil, hs, hx, hr]
    exact hK _ _ (h v' w' h2 h3)
/-- Two boxes: of what came in, and of what is answered. -/
structure Bx (w : World) (m r : Rg) (W : World) : Prop where
  below : Below w.heap.size w W
  b0 : W.heap[w.heap.size]? = some (rgO m)
  b1 : W.heap[w.heap.size + 1]? = some (rgO r)
theorem bx_new (w : World) (m : Rg) : Bx w m rgZ ((w.alloc (rgO m)).alloc (rgO rgZ)) := by
  have z1 : (w.alloc (rgO m)).heap.size = w.heap.size + 1 := World.size_alloc _ _
  exact ⟨((Below.refl w.heap.size w).alloc (Nat.le_refl _) (rgO m)).alloc (by omega) (rgO rgZ), (Below.heap_alloc _ _ _ (by omega)).trans (heap_alloc_new w _), by rw [← z1]; exact heap_alloc_new _ _⟩
theorem Bx.next {w W W' : World} {m r : Rg} (h : Bx w m r W) (hb : Below W.heap.size W W') : Bx w m r W' :=
  ⟨h.below.trans (hb.mono h.below.size), (hb.block _ (lt_of_block h.b0)).trans h.b0, (hb.block _ (lt_of_block h.b1)).trans h.b1⟩
theorem Bx.setU {w W : World} {m r : Rg} (h : Bx w m r W) (A : Option Addr) (n c : Nat) : Bx w { m with U := A, nu := n, cu := c } r (W.setCell ⟨w.heap.size, 3, none⟩ (.slice A n c)) :=
  ⟨h.below.setCell (p := ⟨w.heap.size, 3, none⟩) (Nat.le_refl _) _, rg_setU h.b0 A n c, (heap_setCell_other W ⟨w.heap.size, 3, none⟩ _ _ (by show w.heap.size + 1 ≠ w.heap.size; omega)).trans h.b1⟩
theorem Bx.setR {w W : World} {m r : Rg} (h : Bx w m r W) (q : Rg) : Bx w m q (W.setRow (w.heap.size + 1) (rgC q).toArray) :=
  ⟨row_below h.below (by omega) _, (setRow_other W (w.heap.size + 1) w.heap.size _ (by omega)).trans h.b0, rg_turned h.b1 q⟩
/-- The document's region behind a Wrote. -/
def WroteP (m : Rg) (l2 : List E) (w : World) (e : Ending) (w' : World) : Prop :=
  ∃ U cu, e = .returned (rgV { m with U := U, nu := l2.length, cu := cu }) ∧ pol.Own w' 0 (.slice U l2.length cu) l2 ∧ Below w.heap.size w w'
theorem own_setCell {w : World} {base : Nat} {v : Value} {l : List E} (h : pol.Own w base v l) {g j : Nat} (u : Value) (hg : ∀ b, v.ownBlock = some b → b ≠ g) : pol.Own (w.setCell ⟨g, j, none⟩ u) base v l :=
  h.keep fun b e => heap_setCell_other w ⟨g, j, none⟩ b u (hg b e)
theorem own_setRow {w : World} {base : Nat} {v : Value} {l : List E} (h : pol.Own w base v l) {g : Nat} (cs : Array Value) (hg : ∀ b, v.ownBlock = some b → b ≠ g) : pol.Own (w.setRow g cs) base v l :=
  h.keep fun b e => setRow_other w g b cs (hg b e)
theorem pown_ne {w : World} {base g : Nat} {v : Value} {l : List E} {m : Rg} (h : pol.Own w base v l) (hg : w.heap[g]? = some (rgO m)) : ∀ b, v.ownBlock = some b → b ≠ g := by
  rintro b hb rfl
  rcases h.2 with ⟨rfl, _⟩ | ⟨g', cap, cur, rfl, _, hh, _⟩
  · cases hb
  · injection hb with hb
    simp only at hb
    subst hb
    rw [hh] at hg
    simp [rgO] at hg
set_option maxRecDepth 100000 in
set_option maxHeartbeats 2000000 in
theorem refWrote_any (m : Rg) (l : List E) (o v : Int) (w : World) (hs : pol.Own w 0 (.slice m.U m.nu m.cu) l) (hn : m.nu = l.length) (hl : l.length ≤ 4000) : Calls Try.prog 29 #[rgV m, .int .i64 o, .int .i64 v] w (WroteP m (wrote l o v) w) := by
  have hX := bx_new w m
  have HX := Lib.hid hX
  have HS := Lib.hid hs
  have HH := Lib.hid (fun W (h : Below w.heap.size w W) => refHas_any m.U m.cu l o W _ (by have := (hs.next h).at; exact this) (by omega))
  rw [hn] at HS
  unfold WroteP
  by_cases hp : l.any (fun p => p.1 == o) = true
  · have e : wrote l o v = l := by unfold wrote; rw [if_pos hp]
    rw [e]
    rw [hp] at HH
    have HM : Hid (rgV { m with U := m.U, nu := l.length, cu := m.cu } = rgV m) := Lib.hid (by rw [← hn])
    clear hX hs e hp
    go_enter Try.func29, Try.ntmps29
    go_upto_region 1 with (first | refine wrg_box rfl _ rfl m rfl ?_ | refine wrg_alloc rfl rfl ?_)
    try simp only [Act.put, List.setIfInBounds_toArray, List.set_cons_zero, List.set_cons_succ]
    try simp only [World.size_alloc]
    generalize (w.alloc (rgO m)).alloc (rgO rgZ) = W1 at *
    obtain ⟨x0, x1, x2, x3, x4⟩ := rg_cells HX.out.b0
    rw [hn] at x3
    have HQ := Lib.hid (HH.out W1 HX.out.below)
    clear x0 x1 x2 x4 HH hn
    go_wp2_with (first
      | (go_at_call 41; refine HQ.out.mono ?_; rintro _ _ ⟨rfl, rfl⟩)
      | refine wrg_load rfl _ rfl w.heap.size rfl m HX.out.b0 ?_
      | refine wrg_store rfl _ _ rfl (w.heap.size + 1) rgZ m rfl rfl HX.out.b1 ?_)
    have hZ := HX.out.setR m
    exact ret_wrote rfl rfl hZ.b1 ⟨m.U, m.cu, by rw [HM.out], own_setRow (HS.out.next HX.out.below) _ (pown_ne (HS.out.next HX.out.below) HX.out.b1), hZ.below⟩
  · have e : wrote l o v = l ++ [(o, v)] := by unfold wrote; rw [if_neg hp]
    have hp2 : l.any (fun p => p.1 == o) = false := by rw [Bool.not_eq_true] at hp; exact hp
    rw [e]
    rw [hp2] at HH
    have HL : Hid (([] : List E).length + l.length ≤ 100000 ∧ (([] : List E) ++ l).length + [(o, v)].length ≤ 100000) := Lib.hid (by simp; omega)
    clear hX hs e hp hp2
    go_enter Try.func29, Try.ntmps29
    go_upto_region 1 with (first | refine wrg_box rfl _ rfl m rfl ?_ | refine wrg_alloc rfl rfl ?_)
    try simp only [Act.put, List.setIfInBounds_toArray, List.set_cons_zero, List.set_cons_succ]
    try simp only [World.size_alloc]
    generalize (w.alloc (rgO m)).alloc (rgO rgZ) = W1 at *
    obtain ⟨x0, x1, x2, x3, x4⟩ := rg_cells HX.out.b0
    rw [hn] at x3
    have HQ := Lib.hid (HH.out W1 HX.out.below)
    have HE : Hid (pol.Own (W1.alloc (.cells #[] 42)) W1.heap.size (.slice (some ⟨W1.heap.size, 0, none⟩) 0 0) [] ∧ Below W1.heap.size W1 (W1.alloc (.cells #[] 42))) := Lib.hid ⟨pol.Own.empty (heap_alloc_new W1 _), (Below.refl _ W1).alloc (Nat.le_refl _) _⟩
    have HO := Lib.hid ((HS.out.next HX.out.below).next HE.out.2)
    have y3 := (HE.out.2.cell (p := ⟨w.heap.size, 3, none⟩) (lt_of_block HX.out.b0)).trans x3
    have hlt : w.heap.size < W1.heap.size := lt_of_block HX.out.b0
    have hne : ¬ w.heap.size = W1.heap.size := by omega
    clear x0 x1 x2 x4 HH hn
    go_wp2_with (first
      | (go_at_call 41; refine HQ.out.mono ?_; rintro _ _ ⟨rfl, rfl⟩)
      | (at_builtin; refine wpList_appO (by rfl) (.tmp 12) (.tmp 14) (by rfl) W1.heap.size 0 (.slice (some ⟨W1.heap.size, 0, none⟩) 0 0) (.slice m.U l.length m.cu) [] l (by rfl) HE.out.1 (by rfl) HO.out HL.out.1 HE.out.2.size ?_))
    intro v1 w1 ho1 hg1
    have H1 : Hid (pol.Own w1 W1.heap.size v1 ([] ++ l) ∧ Below W1.heap.size W1 w1) := Lib.hid ⟨ho1, below_grown HE.out.2 hg1 (fun j e => (HE.out.1.lt e).1) HE.out.2.size⟩
    have HT : Hid (pol.Own (w1.alloc (.cells #[.int .i64 o, .int .i64 v] 42)) W1.heap.size v1 ([] ++ l) ∧ Below W1.heap.size W1 (w1.alloc (.cells #[.int .i64 o, .int .i64 v] 42)) ∧ SAt (w1.alloc (.cells #[.int .i64 o, .int .i64 v] 42)) (fun j => w1.heap.size ≤ j) (some ⟨w1.heap.size, 0, none⟩) [(o, v)]) := Lib.hid ⟨H1.out.1.next ((Below.refl _ w1).alloc (Nat.le_refl _) _), H1.out.2.alloc H1.out.2.size _, SAt.one (heap_alloc_new w1 _)⟩
    clear ho1 hg1 HE HO HQ y3 hlt hne
    go_wp2_with (at_builtin; refine pol.wpList_appS (by rfl) (.tmp 15) (.tmp 19) (by rfl) W1.heap.size 1 1 _ v1 ⟨w1.heap.size, 0, none⟩ ([] ++ l) [(o, v)] (by rfl) HT.out.1 (by rfl) (by rfl) HT.out.2.2 HL.out.2 HT.out.2.1.size ?_)
    intro v2 w2 ho2 hg2
    have hb2 : Below W1.heap.size W1 w2 := below_grown HT.out.2.1 hg2 (fun j e => (HT.out.1.lt e).1) HT.out.2.1.size
    try rw [List.nil_append] at ho2
    have H2 := Lib.hid (And.intro ho2 (HX.out.next hb2))
    obtain ⟨U2, c2, rfl⟩ := ho2.slice
    clear ho2 hg2 hb2 HT H1 x3 HX HS
    obtain ⟨-, -, -, z3, -⟩ := rg_cells H2.out.2.b0
    have z4 := rg_free H2.out.2.b0 3
    have H3 := Lib.hid (H2.out.2.setU U2 (l ++ [(o, v)]).length c2)
    have H4 := Lib.hid (own_setCell H2.out.1 (g := w.heap.size) (j := 3) (.slice U2 (l ++ [(o, v)]).length c2) (pown_ne H2.out.1 H2.out.2.b0))
    clear H2
    generalize hl2 : l ++ [(o, v)] = l2 at *
    generalize hn2 : l2.length = n2 at *
    have HE2 := Lib.hid (And.intro hl2 hn2)
    clear hl2 hn2
    go_upto_region 3 with fail
    generalize w2.setCell ⟨w.heap.size, 3, none⟩ (.slice U2 n2 c2) = W3 at *
    clear z3 z4
    go_wp2_with (first
      | refine wrg_load rfl _ rfl w.heap.size rfl _ H3.out.b0 ?_
      | refine wrg_store rfl _ _ rfl (w.heap.size + 1) rgZ _ rfl rfl H3.out.b1 ?_)
    have hZ := H3.out.setR { m with U := U2, nu := n2, cu := c2 }
    rw [HE2.out.1, HE2.out.2]
    exact ret_wrote rfl rfl hZ.b1 ⟨U2, c2, rfl, (own_setRow H4.out _ (pown_ne H4.out H3.out.b1)).base (Nat.zero_le _), hZ.below⟩
end Go.Proofs.Ytlkcpplpjjbiaaa.reg
