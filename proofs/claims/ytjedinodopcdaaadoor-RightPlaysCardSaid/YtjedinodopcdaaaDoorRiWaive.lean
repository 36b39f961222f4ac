/-
  The program's own move that takes the rights of a set from a thread: it goes over the map, in whatever order, and strikes what it meets (typed over the code of 93b5486). No condition.
-/
import Derived.Test.YtjedinodopcdaaaDoorRiAdd
import Derived.StillTailTactics
namespace Go.Proofs.YtjedinodopcdaaaDoor.rig
open Go.RowKit Go.ChangeShapes Go.WideShapes
open Go.Proofs.YtjedinodopcdaaaDoor.obj (I64 U64)
open Go.Proofs.YtjedinodopcdaaaDoor.bits (Is64 hasB els minus)
set_option linter.unusedVariables false
set_option linter.unusedSimpArgs false

/-- The step over rights: nothing is left, or one of a thread and an object has come. -/
theorem wpList_next_rights (w : World) {ops : Array Oper} {rest : List Oper} {o : Oper} {a : Act} {Q : Exit → Act → World → Prop} (hg : o.guard = none) (it : Operand) (hop : o.op = Op.next it false) (b r n : Nat) (D : DataW Unit) (left : Lit → Bool) (cnt : Nat)
    (hit : a.eval it = .pointer (some ⟨r, 0, none⟩)) (h : w.ranges Tryd.prog 54 unitElem b r n D left cnt)
    (hDone : (∀ kl, left kl = false) → wpList Tryd.prog ops Q rest (a.put o.dst (.tuple #[.bool false])) w)
    (hMore : ∀ (u p : Int) (w' : World) (cnt' : Nat), I64 u → I64 p → w'.ranges Tryd.prog 54 unitElem b r n D (fun z => left z && !z.sameKey (keyL u p)) cnt' → cnt' < cnt → left (keyL u p) = true →
      w.grownBy w' (some r) → w'.heap.size = w.heap.size → (Instr.entry (.pointer (some ⟨r, 0, none⟩))).run Tryd.prog w' = .ok (.tuple #[.agg #[.int .i64 u, .int .i64 p], .agg #[]]) w' → wpList Tryd.prog ops Q rest (a.put o.dst (.tuple #[.bool true, .agg #[.int .i64 u, .int .i64 p], .agg #[]])) w') :
    wpList Tryd.prog ops Q (o :: rest) a w :=
  wpList_next_ranges (α := Int × Int) (β := Unit) w hg it hop 54 kLaw unitElem (fun x => .agg #[.int .i64 x.1, .int .i64 x.2]) (fun _ => .agg #[])
    (fun key kl hkey => by obtain ⟨t, o, rfl, _⟩ := key_inv hkey; exact ⟨(t, o), rfl⟩) (fun v y hv => by obtain ⟨rfl, _⟩ := unitElem_inv hv; exact ⟨(), rfl⟩)
    b r n D left cnt hit h (fun _ hl => hDone hl) (fun x c kl y w' cnt' hkey hlk hv hat hrg hlt hgr hsz hen => by
      obtain ⟨u, p, e1, hu, hp, rfl⟩ := key_inv hkey
      unfold keyV at e1
      injection e1 with e1
      have e2 := congrArg Array.toList e1
      simp at e2
      obtain ⟨x1, x2⟩ := x
      dsimp only at e2
      obtain ⟨rfl, rfl⟩ := e2
      exact hMore _ _ w' cnt' hu hp hrg hlt hlk hgr hsz hen)

/-- Where the loop stands: what has come, and was to be struck, is struck. -/
structure Wv (w : World) (g b r : Nat) (l : List Nat) (t : Int) (m : Nat) (left : Lit → Bool) (cnt : Nat) (D : DataW Unit) (wr : World) : Prop where
  rg : wr.ranges Tryd.prog 54 unitElem b r 2048 D left cnt
  box : wr.heap[g]? = some (riO (some b))
  turn : Turn g (some b) w wr
  has : ∀ u o, I64 u → I64 o → Maps.has D (keyL u o) = (hasB (rv l u) o && (left (keyL u o) || !(decide (u = t) && hasB m o)))
theorem same_key {t o u p : Int} (ht : I64 t) (ho : I64 o) (hu : I64 u) (hp : I64 p) : (keyL u p).sameKey (keyL t o) = decide (u = t ∧ p = o) := by
  by_cases e : u = t ∧ p = o
  · obtain ⟨rfl, rfl⟩ := e
    rw [WideAt.sameKey_self (keyL_key hu hp)]
    simp
  · rw [Maps.sameKey_ne (fun h => e (keyL_inj hu hp ht ho h))]
    simp [e]
theorem wv_start {w w0 : World} {g b : Nat} {l : List Nat} {t : Int} {m : Nat} (ha : AtM w g (some b) l) {D : DataW Unit} (hD : ∀ u o, I64 u → I64 o → Maps.has D (keyL u o) = hasB (rv l u) o)
    (hrg : w0.ranges Tryd.prog 54 unitElem b w.heap.size 2048 D (Maps.has D) (Maps.size D)) (hg : w.grownBy w0 none) : Wv w g b w.heap.size l t m (Maps.has D) (Maps.size D) D w0 :=
  ⟨hrg, (hg.block _ ha.lt.1 (by simp)).trans ha.1, ⟨hg.os, hg.tape, hg.output, hg.size, fun k hk _ _ => hg.block k hk (by simp)⟩, fun u o hu ho => by
    rw [hD u o hu ho]
    cases hasB (rv l u) o <;> simp⟩
/-- One that stays. -/
theorem wv_stay {w wr w1 : World} {g b r : Nat} {l : List Nat} {t : Int} {m : Nat} {left : Lit → Bool} {cnt cnt1 : Nat} {D : DataW Unit} (h : Wv w g b r l t m left cnt D wr) {u p : Int} (hu : I64 u) (hp : I64 p)
    (hno : (decide (u = t) && hasB m p) = false) (hrg : w1.ranges Tryd.prog 54 unitElem b r 2048 D (fun z => left z && !z.sameKey (keyL u p)) cnt1) (hbox : w1.heap[g]? = wr.heap[g]?) (ht : Turn g (some b) w w1) :
    Wv w g b r l t m (fun z => left z && !z.sameKey (keyL u p)) cnt1 D w1 := by
  refine ⟨hrg, hbox.trans h.box, ht, fun v q hv hq => ?_⟩
  rw [h.has v q hv hq]
  rw [same_key hu hp hv hq]
  by_cases e : v = u ∧ q = p
  · obtain ⟨rfl, rfl⟩ := e
    rw [hno]
    simp
  · rw [decide_eq_false e]
    simp
/-- One that is struck. -/
theorem wv_strike {w wr w1 : World} {g b r : Nat} {l : List Nat} {t : Int} {m : Nat} {left : Lit → Bool} {cnt cnt1 : Nat} {D : DataW Unit} (h : Wv w g b r l t m left cnt D wr) {u p : Int} (hu : I64 u) (hp : I64 p)
    (hyes : (decide (u = t) && hasB m p) = true) (hrg : w1.ranges Tryd.prog 54 unitElem b r 2048 (D.del (keyL u p)) (fun z => (left z && !z.sameKey (keyL u p)) && !z.sameKey (keyL u p)) cnt1) (hbox : w1.heap[g]? = wr.heap[g]?) (ht : Turn g (some b) w w1) :
    Wv w g b r l t m (fun z => left z && !z.sameKey (keyL u p)) cnt1 (D.del (keyL u p)) w1 := by
  rw [Maps.strike_twice] at hrg
  refine ⟨hrg, hbox.trans h.box, ht, fun v q hv hq => ?_⟩
  rw [has_del hu hp hv hq, h.has v q hv hq]
  rw [same_key hu hp hv hq]
  by_cases e : v = u ∧ q = p
  · obtain ⟨rfl, rfl⟩ := e
    rw [hyes]
    simp
  · rw [decide_eq_false e]
    simp
theorem wv_end {w wr : World} {g b r : Nat} {l : List Nat} {t : Int} {m : Nat} {left : Lit → Bool} {cnt : Nat} {D : DataW Unit} (hl : Fine l) (hm : Is64 m) (h : Wv w g b r l t m left cnt D wr) (h0 : ∀ kl, left kl = false) :
    AtM wr g (some b) (setR l t (minus (rv l t) m)) := by
  refine ⟨h.box, set_fine hl t (minus_lt32 _ (rv_lt hl t)), (fun e => by cases e), fun b' e => ?_⟩
  injection e with e
  subst e
  refine ⟨D, h.rg.owns, fun u o hu ho => ?_⟩
  rw [h.has u o hu ho, h0, has_waive hl t u o hm]
  simp
/-- One step on, with a block laid for what has come. -/
theorem wv_next {w wr w1 : World} {g b r : Nat} {l : List Nat} {t : Int} {m : Nat} {left : Lit → Bool} {cnt : Nat} {D : DataW Unit} (h : Wv w g b r l t m left cnt D wr) (hr : w.heap.size = r) (hgr : g < r) (hg : wr.grownBy w1 (some r)) (hs : w1.heap.size = wr.heap.size) (o : Obj) :
    (w1.alloc o).heap[g]? = wr.heap[g]? ∧ Turn g (some b) w (w1.alloc o) := by
  have hlt := lt_of_block h.box
  have hb := Below.heap_alloc w1 o g (by omega)
  refine ⟨hb.trans (hg.block g hlt (by simp; omega)), ?_⟩
  have h1 : Turn g (some b) w w1 := ⟨hg.os.trans h.turn.os, hg.tape.trans h.turn.tape, hg.output.trans h.turn.output, Nat.le_trans h.turn.size hg.size, fun k hk h1 h2 => (hg.block k (Nat.lt_of_lt_of_le hk h.turn.size) (by simp; omega)).trans (h.turn.block k hk h1 h2)⟩
  exact h1.trans (Turn.of_below ((Below.refl _ w1).alloc (Nat.le_refl _) o)) (Grow.refl _ _)
/-- .. and struck from the map. -/
theorem wv_gone {w W2 w2 : World} {g b : Nat} (hne : g ≠ b) (ht : Turn g (some b) w W2) (hm : W2.grownBy w2 (some b)) (hg : g < W2.heap.size) : w2.heap[g]? = W2.heap[g]? ∧ Turn g (some b) w w2 :=
  ⟨hm.block g hg (by simpa using hne), ht.trans ⟨hm.os, hm.tape, hm.output, hm.size, fun k hk _ h2 => hm.block k hk (fun e => h2 e.symm)⟩ (Grow.refl _ _)⟩
theorem ranges_of {w w' : World} {b r n : Nat} {D : DataW Unit} {left : Lit → Bool} {cnt : Nat} (h : w.ranges Tryd.prog 54 unitElem b r n D left cnt) (e : w'.heap = w.heap) : w'.ranges Tryd.prog 54 unitElem b r n D left cnt := by
  obtain ⟨es, clock, since, seen, c0, h1, h2, h3, h4, h5, h6⟩ := h
  exact ⟨es, clock, since, seen, c0, by rw [e]; exact h1, h2, h3, h4, by rw [e]; exact h5, h6⟩
set_option maxHeartbeats 1000000 in
theorem waive_nil (w : World) (t : Int) (m : Nat) : Calls Tryd.prog 20 #[.pointer none, .int .i64 t, .int .u64 (m : Int)] w fun e w' => e = .returned (.tuple #[]) ∧ w = w' := by
  go_enter Tryd.func20, Tryd.ntmps20
  go_wp2
  refine bodyPost_ret (results_none rfl _ _ _) rfl ?_
  exact ⟨rfl, rfl⟩
set_option maxHeartbeats 2000000 in
theorem waive_none (w : World) (g : Nat) (l : List Nat) (t : Int) (m : Nat) (ha : AtM w g none l) :
    Calls Tryd.prog 20 #[.pointer (some ⟨g, 0, none⟩), .int .i64 t, .int .u64 (m : Int)] w fun e w' => e = .returned (.tuple #[]) ∧ w' = w.alloc (.mapIter none 0 #[] 0) := by
  have c0 := ri_cell ha.1
  have hrg := run_range_nilMap (P := Tryd.prog) w 38 54 55 Tryd.underlying38
  have hnx : ∀ ty, (Instr.next (.pointer (some ⟨w.heap.size, 0, none⟩)) false ty).run Tryd.prog (w.alloc (.mapIter none 0 #[] 0)) = _ := fun ty => run_next_nilMap w ty 0 0 #[]
  clear ha
  go_enter Tryd.func20, Tryd.ntmps20
  go_wp2
  refine wp_loop_rounds 1 ?_
  rw [rounds_succ]
  go_wp2
  go_end0
  exact ⟨rfl, rfl⟩
set_option maxHeartbeats 2000000 in
theorem waive_some (w : World) (g b : Nat) (l : List Nat) (t : Int) (m : Nat) (ha : AtM w g (some b) l) (hm : Is64 m) :
    Calls Tryd.prog 20 #[.pointer (some ⟨g, 0, none⟩), .int .i64 t, .int .u64 (m : Int)] w fun e w' => e = .returned (.tuple #[]) ∧ AtM w' g (some b) (setR l t (minus (rv l t) m)) ∧ Turn g (some b) w w' := by
  have c0 := ri_cell ha.1
  obtain ⟨D, hown, hD⟩ := ha.2.2.2 b rfl
  have HA := Lib.hid ha
  have HD := Lib.hid hD
  have HM := Lib.hid hm
  have HNE := Lib.hid ha.apart
  clear ha hD hm
  go_enter Tryd.func20, Tryd.ntmps20
  go_wp2_with (first
    | (at_range; refine wpList_range_own _ rfl _ 38 rfl 54 55 kLaw Tryd.underlying38 _ b 2048 D rfl hown ?_; intro w0 hrg0 hg0 hs0)
    | go_in)
  go_frame
  have HI0 := Lib.hid (wv_start (t := t) (m := m) HA.out HD.out hrg0 hg0)
  have HF := Lib.hid HA.out.2.1
  have HZ : Hid (w.heap.size ≤ w.heap.size) := Lib.hid (Nat.le_refl _)
  have HG := Lib.hid HA.out.lt
  generalize hr : w.heap.size = r at HI0 hs0 hrg0 ⊢
  rw [hr] at HG
  have HRs := Lib.hid hr
  clear hrg0 hg0 hs0 HA HD hown c0 HZ hr
  go_loopw [14] (fun _ wr => ∃ (left : Lit → Bool) (cnt : Nat) (D : DataW Unit), Hid (Wv w g b r l t m left cnt D wr)) (fun _ wr => wr.rangeLeft b r)
  case atStart => exact ⟨_, _, _, HI0⟩
  case round =>
    clear HI0
    obtain ⟨left, cnt, D, HI⟩ := hrel
    have hrg := HI.out.rg
    go_wp2_with (first
      | (at_next; refine wpList_next_rights _ rfl _ rfl b r 2048 D left cnt rfl hrg ?_ ?_)
      | go_in)
    · intro hl0
      have HL := Lib.hid hl0
      clear hl0 hrg
      go_wp2
      go_end0
      exact ⟨rfl, wv_end HF.out HM.out HI.out HL.out, HI.out.turn⟩
    · intro u p w1 cnt1 hu hp hrg1 hlt hlk hg1 hs1 hen
      have HU := Lib.hid hu
      have HP := Lib.hid hp
      have H2 := Lib.hid (wv_next HI.out HRs.out HG.out.1 hg1 hs1 (.cells #[.int .i64 u, .int .i64 p] 54))
      have hr2 := hrg1.alloc (.cells #[.int .i64 u, .int .i64 p] 54)
      have c1 := ri_cell (H2.out.1.trans HI.out.box)
      obtain ⟨z0, z1⟩ := obj.cells2 (heap_alloc_new w1 (.cells #[.int .i64 u, .int .i64 p] 54))
      have C := Lib.hid (bits.has_any m HM.out p (w1.alloc (.cells #[.int .i64 u, .int .i64 p] 54)))
      have HL := Lib.hid hlt
      have HR1 := Lib.hid hrg
      have HR2 := Lib.hid hr2
      clear hrg hrg1 hu hp hlt hlk hg1 hs1 hr2
      by_cases hut : u = t
      · have d0 : (u == t) = true := by rw [beq_iff_eq]; exact hut
        have HE := Lib.hid hut
        clear hut
        cases hb : hasB m p with
        | true =>
          rw [hb] at C
          have HY : Hid ((decide (u = t) && hasB m p) = true) := Lib.hid (by rw [hb]; simpa using HE.out)
          clear hb
          go_wp2_with fail
          refine C.out.mono ?_
          rintro _ w2 ⟨rfl, rfl⟩
          clear C
          go_upto_region 5 with fail
          generalize hW2 : w1.alloc (.cells #[.int .i64 u, .int .i64 p] 54) = W2 at *
          have HS1 : Hid (w1.heap.size < W2.heap.size) := Lib.hid (by rw [← hW2, World.size_alloc]; omega)
          clear hW2
          go_still_tail 5, (by kernel_rfl)
          have hkey := key_is HU.out HP.out
          unfold keyV at hkey
          refine wpList_delete_ranges _ rfl _ _ 38 54 rfl 55 kLaw Tryd.underlying38 unitElem b r 2048 D _ cnt1 rfl (ranges_of HR2.out rfl) _ _ rfl hkey ?_
          intro w2 cnt2 hrg2 hle hturn
          go_frame
          have hlt : g < W2.heap.size := by have h1 := HG.out.1; have h2 := H2.out.2.size; have h3 := HRs.out; omega
          have HD := Lib.hid (wv_gone HNE.out H2.out.2 ⟨hturn.grown.os, hturn.grown.tape, hturn.grown.output, hturn.grown.size, hturn.grown.block⟩ hlt)
          have HR3 := Lib.hid hrg2
          have HLe := Lib.hid hle
          clear hrg2 hle hturn c1 z0 z1 hkey hlt
          go_wp2
          go_roundw
          case rel => exact ⟨_, cnt2, _, Lib.hid (wv_strike HI.out HU.out HP.out HY.out HR3.out (HD.out.1.trans H2.out.1) HD.out.2)⟩
          case measure => rw [HR3.out.left_eq, HR1.out.left_eq]; exact Nat.lt_of_le_of_lt HLe.out HL.out
        | false =>
          rw [hb] at C
          have HY : Hid ((decide (u = t) && hasB m p) = false) := Lib.hid (by rw [hb]; simp)
          clear hb
          go_wp2_with fail
          refine C.out.mono ?_
          rintro _ w2 ⟨rfl, rfl⟩
          clear C c1 z0 z1
          go_wp2
          go_roundw
          case rel => exact ⟨_, cnt1, D, Lib.hid (wv_stay HI.out HU.out HP.out HY.out HR2.out H2.out.1 H2.out.2)⟩
          case measure => rw [HR2.out.left_eq, HR1.out.left_eq]; exact HL.out
      · have d0 : (u == t) = false := by rw [beq_eq_false_iff_ne]; exact hut
        have HY : Hid ((decide (u = t) && hasB m p) = false) := Lib.hid (by simp [hut])
        clear hut C
        go_wp2
        go_roundw
        case rel => exact ⟨_, cnt1, D, Lib.hid (wv_stay HI.out HU.out HP.out HY.out HR2.out H2.out.1 H2.out.2)⟩
        case measure => rw [HR2.out.left_eq, HR1.out.left_eq]; exact HL.out
end Go.Proofs.YtjedinodopcdaaaDoor.rig
