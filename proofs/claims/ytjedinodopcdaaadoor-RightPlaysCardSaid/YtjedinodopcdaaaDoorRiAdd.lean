/-
  The program's own moves of rights: a set of them given to a thread, with a map made where there was none (typed over the code of 93b5486). No condition. Printed by tools/mkriadd.py.
-/
import Derived.Test.YtjedinodopcdaaaDoorRiRead
import Derived.Test.YtjedinodopcdaaaDoorBAt
import Derived.Test.YtjedinodopcdaaaDoorBOkt
import Derived.Maps.OwnOps
import Derived.Shelf.SlMaps.Clone
namespace Go.Proofs.YtjedinodopcdaaaDoor.rig
open Go.RowKit Go.ChangeShapes Go.WideShapes
open Go.Proofs.YtjedinodopcdaaaDoor.obj (I64 U64)
open Go.Proofs.YtjedinodopcdaaaDoor.bits (Is64 hasB els ListAt list_lies els_length_le els_get_lt mem_els)
open Go.Proofs.YtjedinodopcdaaaDoor.bits.one (Okt okt_mono)
set_option linter.unusedVariables false
set_option linter.unusedSimpArgs false

theorem eql_map (b : Option Nat) (w : World) : (binOp .eql 38 (.map b) (.map none)).run Tryd.prog w = .ok (.bool b.isNone) w := run_eql_map_nil w 38 _ _ b Tryd.underlying38
def hasL (L : List Nat) (o : Int) : Bool := decide (0 ≤ o ∧ o.toNat ∈ L)
theorem hasL_nil (o : Int) : hasL [] o = false := by simp [hasL]
theorem hasL_snoc (L : List Nat) (x : Nat) (o : Int) : hasL (L ++ [x]) o = (hasL L o || decide (o = (x : Int))) := by
  unfold hasL
  rw [Bool.eq_iff_iff]
  simp only [List.mem_append, List.mem_singleton, decide_eq_true_eq, Bool.or_eq_true]
  constructor
  · rintro ⟨h0, h | h⟩
    · exact .inl ⟨h0, h⟩
    · exact .inr (by omega)
  · rintro (⟨h0, h⟩ | h)
    · exact ⟨h0, .inl h⟩
    · exact ⟨by omega, .inr (by omega)⟩
theorem hasL_els (s : Nat) (o : Int) : hasL (els s) o = hasB s o := by
  by_cases h : 0 ≤ o ∧ o < 64
  · obtain ⟨n, rfl⟩ : ∃ n : Nat, o = (n : Int) := ⟨o.toNat, by omega⟩
    rw [has_els s n (by omega)]
    unfold hasL
    simp
  · rw [hasB_none _ h]
    unfold hasL
    rw [decide_eq_false_iff_not]
    intro hh
    have := (mem_els.1 hh.2).1
    omega
theorem add_step {D : DataW Unit} (hD : Maps.IsMap D) {l : List Nat} {t : Int} (ht : I64 t) {L : List Nat} {x : Nat} (hx : x < 64)
    (h : ∀ u o, I64 u → I64 o → Maps.has D (keyL u o) = (hasB (rv l u) o || (decide (u = t) && hasL L o))) (d : DataW Unit) :
    ∀ u o, I64 u → I64 o → Maps.has (D.put (keyL t (x : Int)) d) (keyL u o) = (hasB (rv l u) o || (decide (u = t) && hasL (L ++ [x]) o)) := by
  intro u o hu ho
  rw [has_put hD ht (by unfold I64; omega) hu ho, h u o hu ho, hasL_snoc]
  by_cases e : u = t
  · subst e
    cases hasB (rv l u) o <;> cases hasL L o <;> simp
  · simp [e]
theorem MapS.congr {w : World} {b : Nat} {l l' : List Nat} (h : MapS w b l) (he : ∀ t, rv l t = rv l' t) : MapS w b l' := by
  obtain ⟨D, h1, h2⟩ := h
  exact ⟨D, h1, fun t o ht ho => by rw [h2 t o ht ho, he]⟩
theorem turn_set (w : World) (g i : Nat) (v : Value) (B : Option Nat) : Turn g B w (w.setCell ⟨g, i, none⟩ v) :=
  ⟨rfl, rfl, rfl, by show w.heap.size ≤ (w.heap.modify _ _).size; rw [Array.size_modify]; exact Nat.le_refl _, fun k _ hk _ => by simp [World.setCell, Array.getElem?_modify, Ne.symm hk]⟩
theorem ri_set {w : World} {g : Nat} {B : Option Nat} (h : w.heap[g]? = some (riO B)) (B' : Option Nat) : (w.setCell ⟨g, 0, none⟩ (.map B')).heap[g]? = some (riO B') := by
  unfold riO at h ⊢
  simp [World.setCell, Array.getElem?_modify, h]
theorem ri_free {w : World} {g : Nat} {B : Option Nat} (h : w.heap[g]? = some (riO B)) (k : Nat) : w.frozen? ⟨g, k, none⟩ = false := frozen_of_row w _ k _ _ h
/-- The table by which the least of a set is found lies in a block of its own. -/
theorem okt_turn {w w' : World} {g : Nat} {B : Option Nat} {l : List Nat} (h : Okt w) (ha : AtM w g B l) (ht : Turn g B w w') : Okt w' := by
  have h0 := h.1 0 (by omega)
  have hg : 0 ≠ g := fun e => by
    have := ri_cell ha.1
    rw [← e, h0] at this
    injection this with this
    cases this
  have hB : B ≠ some 0 := fun e => by
    obtain ⟨es, c, h1⟩ := (ha.2.2.2 _ e).isMap
    simp [World.cell?, h1] at h0
  have hb := ht.block _ h.2 hg hB
  exact ⟨fun j hj => (World.cell?_of_block (a := ⟨0, j, none⟩) hb).trans (h.1 j hj), Nat.lt_of_lt_of_le h.2 ht.size⟩
/-- A map made, and laid into the struct. -/
theorem at_made {w : World} {g : Nat} {l : List Nat} (ha : AtM w g none l) :
    AtM ((w.alloc (.map #[] 0)).setCell ⟨g, 0, none⟩ (.map (some w.heap.size))) g (some w.heap.size) l ∧ Turn g none w ((w.alloc (.map #[] 0)).setCell ⟨g, 0, none⟩ (.map (some w.heap.size))) := by
  have hlt := ha.lt.1
  have hb0 : Below w.heap.size w (w.alloc (.map #[] 0)) := (Below.refl _ w).alloc (Nat.le_refl _) _
  have ht := turn_set (w.alloc (.map #[] 0)) g 0 (.map (some w.heap.size)) none
  have hg : (w.alloc (.map #[] 0)).heap[g]? = some (riO none) := (hb0.block g hlt).trans ha.1
  refine ⟨⟨ri_set hg _, ha.2.1, (fun e => by cases e), fun b e => ?_⟩, (Turn.of_below hb0).trans ht (Grow.refl _ _)⟩
  injection e with e
  subst e
  have hm : MapS (w.alloc (.map #[] 0)) w.heap.size l := (MapS.made w).congr (fun t => by rw [rv_zeros, ha.2.2.1 rfl])
  exact hm.same (ht.block _ hm.lt (by omega) (by simp))
/-- Where the loop stands: k of the rights have been laid. -/
structure Adds (w : World) (g b bl : Nat) (B : Option Nat) (l : List Nat) (t : Int) (L : List Nat) (k : Nat) (wr : World) : Prop where
  box : wr.heap[g]? = some (riO (some b))
  list : ListAt wr bl L
  turn : Turn g B w wr
  ne : g ≠ b
  nl : bl ≠ b
  map : ∃ (n : Nat) (D : DataW Unit), wr.ownsMap Tryd.prog 54 unitElem b n D ∧ n ≤ 2048 + k ∧ ∀ u o, I64 u → I64 o → Maps.has D (keyL u o) = (hasB (rv l u) o || (decide (u = t) && hasL (L.take k) o))
theorem adds_start {w w1 w2 : World} {g b bl : Nat} {B : Option Nat} {l : List Nat} {t : Int} {L : List Nat} (ha : AtM w1 g (some b) l) (ht : Turn g B w w1) (hL : ListAt w2 bl L) (hbl : w1.heap.size ≤ bl) (hb : Below w1.heap.size w1 w2) : Adds w g b bl B l t L 0 w2 := by
  obtain ⟨D, h1, h2⟩ := (ha.next hb).2.2.2 b rfl
  have hlt := ha.lt.2 b rfl
  refine ⟨(ha.next hb).1, hL, ⟨hb.os.trans ht.os, hb.tape.trans ht.tape, hb.output.trans ht.output, Nat.le_trans ht.size hb.size, fun k hk h3 h4 => (hb.block k (Nat.lt_of_lt_of_le hk ht.size)).trans (ht.block k hk h3 h4)⟩, ha.apart, by omega, 2048, D, h1, by omega, fun u o hu ho => ?_⟩
  rw [h2 u o hu ho, List.take_zero, hasL_nil]
  simp
theorem adds_step {w wr w1 : World} {g b bl : Nat} {B : Option Nat} {l : List Nat} {t : Int} {L : List Nat} {k n x : Nat} {D : DataW Unit} (h : Adds w g b bl B l t L k wr) (hB : Grow w B (some b)) (ht : I64 t) (hx : L[k]? = some x) (hx64 : x < 64)
    (hown : wr.ownsMap Tryd.prog 54 unitElem b n D) (hn : n ≤ 2048 + k) (hD : ∀ u o, I64 u → I64 o → Maps.has D (keyL u o) = (hasB (rv l u) o || (decide (u = t) && hasL (L.take k) o)))
    (hown1 : w1.ownsMap Tryd.prog 54 unitElem b (n + 1) (D.put (keyL t (x : Int)) (.agg []))) (hg : wr.grownBy w1 (some b)) : Adds w g b bl B l t L (k + 1) w1 := by
  have hkl : k < L.length := (List.getElem?_eq_some_iff.1 hx).1
  have hxe : L[k] = x := (List.getElem?_eq_some_iff.1 hx).2
  refine ⟨(hg.block _ (lt_of_block h.box) (by simpa using h.ne)).trans h.box, h.list.kept (hg.block _ h.list.lt (by simpa using h.nl)), ?_, h.ne, h.nl, n + 1, _, hown1, by omega, ?_⟩
  · refine h.turn.trans (B' := some b) ⟨hg.os, hg.tape, hg.output, hg.size, fun j hj h1 h2 => hg.block j hj (fun e => h2 e.symm)⟩ hB
  · rw [List.take_succ_eq_append_getElem hkl, hxe]
    exact add_step hown.isMap ht hx64 hD _
theorem adds_end {w wr : World} {g b bl : Nat} {B : Option Nat} {l : List Nat} {t : Int} {s : Nat} (hl : Fine l) (hs : s < 4294967296) (h0 : 0 ≤ t) (h1 : t < 64) (h : Adds w g b bl B l t (els s) (els s).length wr) :
    AtM wr g (some b) (setR l t (rv l t ||| s)) := by
  have hf : Fine (setR l t (rv l t ||| s)) := set_fine hl t (or_lt (rv_lt hl t) hs)
  refine ⟨h.box, hf, (fun e => by cases e), fun b' e => ?_⟩
  injection e with e
  subst e
  obtain ⟨n, D, hown, _, hD⟩ := h.map
  refine MapS.of hown hf fun u o hu ho => ?_
  rw [hD u o hu ho, List.take_length, hasL_els, has_add hl]
  have e : decide (u = t ∧ 0 ≤ t ∧ t < 64) = decide (u = t) := decide_eq_decide.2 ⟨fun hh => hh.1, fun hh => ⟨hh, h0, h1⟩⟩
  rw [e]
set_option maxHeartbeats 2000000 in
theorem add_any (w : World) (g : Nat) (B : Option Nat) (l : List Nat) (t : Int) (s : Nat) (ha : AtM w g B l) (ht : I64 t) (hs : s < 4294967296) (hO : Okt w) :
    Calls Tryd.prog 28 #[.pointer (some ⟨g, 0, none⟩), .int .i64 t, .int .u64 (s : Int)] w fun e w' => e = .returned (.tuple #[]) ∧ ∃ B', AtM w' g B' (setR l t (rv l t ||| s)) ∧ Turn g B w w' ∧ Grow w B B' := by
  by_cases h0 : t < 0
  · rw [set_out (.inl h0)]
    have HA := Lib.hid ha
    have d0 : decide (t < 0) = true := decide_eq_true h0
    clear ha ht hs hO h0
    go_enter Tryd.func28, Tryd.ntmps28
    go_wp2
    refine bodyPost_ret (results_none rfl _ _ _) rfl ?_
    exact ⟨rfl, B, HA.out, Turn.refl _ _ _, Grow.refl _ _⟩
  by_cases h1 : 64 ≤ t
  · rw [set_out (.inr h1)]
    have HA := Lib.hid ha
    have d0 : decide (t < 0) = false := decide_eq_false h0
    have d1 : decide (t ≥ 64) = true := decide_eq_true h1
    have d2 : decide (64 ≤ t) = true := decide_eq_true h1
    clear ha ht hs hO h0 h1
    go_enter Tryd.func28, Tryd.ntmps28
    go_wp2
    refine bodyPost_ret (results_none rfl _ _ _) rfl ?_
    exact ⟨rfl, B, HA.out, Turn.refl _ _ _, Grow.refl _ _⟩
  have HF := Lib.hid ha.2.1
  have HT := Lib.hid ht
  have HS := Lib.hid hs
  have HR : Hid (0 ≤ t ∧ t < 64) := Lib.hid (by omega)
  have d0 : decide (t < 0) = false := decide_eq_false h0
  have d1 : decide (t ≥ 64) = false := decide_eq_false h1
  have d2 : decide (64 ≤ t) = false := decide_eq_false h1
  cases hB : B with
  | some b =>
    subst hB
    have HA1 := Lib.hid ha
    have HT1 := Lib.hid (Turn.refl g (some b) w)
    have HG := Lib.hid (Grow.refl w (some b))
    have HO1 := Lib.hid hO
    have c0 := ri_cell ha.1
    have hq := eql_map (some b)
    clear ha ht hs hO h0 h1
    go_enter Tryd.func28, Tryd.ntmps28
    refine obj.wp_hold_world ?_
    intro W1 hW
    rw [← hW.out] at HA1 HO1 c0
    have HT1 : Hid (Turn g (some b) w W1) := by rw [hW.out]; exact HT1
    clear hW
    go_upto_region 3 with fail
    have hi64 := is64_of HS.out
    have C := Lib.hid (list_lies s hi64 W1 HO1.out.1 HO1.out.2)
    clear hi64
    go_wp2_with fail
    refine C.out.mono ?_
    rintro _ w2 ⟨rfl, hl, hb⟩
    have HN := Lib.hid (els_length_le s)
    have HI0 := Lib.hid (adds_start (t := t) HA1.out HT1.out hl (Nat.le_refl _) hb)
    clear C hl hb HA1 HT1
    generalize W1.heap.size = bl at *
    clear HO1
    obtain ⟨N, hN⟩ : ∃ N, N = (els s).length := ⟨_, rfl⟩
    rw [← hN] at HN ⊢
    have HNs := Lib.hid hN
    clear hN
    go_wp2_with fail
    go_loopw [30] (fun i wr => ∃ k : Nat, k ≤ N ∧ i = .int .i64 (k : Int) ∧ Hid (Adds w g b bl (some b) l t (els s) k wr)) (fun i _ => N - (intOf i).toNat)
    case atStart => exact ⟨0, Nat.zero_le _, rfl, HI0⟩
    case round =>
      clear HI0
      obtain ⟨k, hk, rfl, HI⟩ := hrel
      have hN := HN.out
      by_cases hlk : k < N
      · obtain ⟨x, hx⟩ : ∃ x : Nat, (els s)[k]? = some x := ⟨_, List.getElem?_eq_getElem (by rw [← HNs.out]; exact hlk)⟩
        have HX := Lib.hid hx
        have hx64 := els_get_lt hx
        have c0 := ri_cell HI.out.box
        have c1 := HI.out.list.cell hx
        obtain ⟨n, D, hown, hn, hD⟩ := HI.out.map
        have k1 : (0 : Int) ≤ (k : Int) := by omega
        have k2 : (k : Int) < (N : Int) := by omega
        have d0 : decide ((k : Int) < (N : Int)) = true := decide_eq_true k2
        have hkey := key_is HT.out (show I64 (x : Int) by unfold I64; omega)
        unfold keyV at hkey
        have HD := Lib.hid hD
        have HX64 := Lib.hid hx64
        have HL := Lib.hid hlk
        have HN2 := Lib.hid hn
        have hmax : n < maxLen := by unfold maxLen; omega
        clear hx hD hx64 hk hlk hn hN
        go_wp2_with (first
          | (at_mapUpdate; refine wpList_mapUpdate_own _ rfl _ _ _ 38 rfl 54 55 kLaw Tryd.underlying38 _ b n D rfl hown hmax _ _ _ rfl rfl hkey _ [] unitElem_mk ?_; intro w1 hown1 hgrow1)
          | go_in)
        have HI2 := Lib.hid (adds_step HI.out HG.out HT.out HX.out HX64.out hown HN2.out HD.out hown1 hgrow1)
        have hk := HL.out
        have hNn := HN.out
        have hw : wrap64 ((k : Int) + 1) = ((k + 1 : Nat) : Int) := by unfold wrap64; omega
        go_roundw
        case rel => exact ⟨k + 1, by omega, by rw [hw], HI2⟩
        case measure => rw [hw]; simp only [intOf]; omega
      · obtain rfl : k = N := by omega
        have d0 : decide ((k : Int) < (k : Int)) = false := decide_eq_false (by omega)
        have HE := HI
        rw [HNs.out] at HE
        clear hk hlk HI
        go_wp2
        go_end0
        exact ⟨rfl, some b, adds_end HF.out HS.out HR.out.1 HR.out.2 HE.out, HE.out.turn, HG.out⟩
  | none =>
    subst hB
    have HA1 := Lib.hid (at_made ha).1
    have HT1 := Lib.hid (at_made ha).2
    have HG : Hid (Grow w none (some w.heap.size)) := Lib.hid (fun b e => by injection e with e; exact .inr (by omega))
    have c0 := ri_cell ha.1
    have c1 := ri_cell (((Below.refl w.heap.size w).alloc (Nat.le_refl _) (.map #[] 0)).block g ha.lt.1 |>.trans ha.1)
    have f1 := ri_free (((Below.refl w.heap.size w).alloc (Nat.le_refl _) (.map #[] 0)).block g ha.lt.1 |>.trans ha.1) 0
    have HO1 : Hid (Okt ((w.alloc (.map #[] 0)).setCell ⟨g, 0, none⟩ (.map (some w.heap.size)))) := Lib.hid (okt_turn hO ha (at_made ha).2)
    have hq := eql_map none
    have hmm := @run_makeMap Tryd.prog
    clear ha ht hs hO h0 h1
    go_enter Tryd.func28, Tryd.ntmps28
    go_upto_region 3 with fail
    generalize (w.alloc (.map #[] 0)).setCell ⟨g, 0, none⟩ (.map (some w.heap.size)) = W1 at *
    generalize w.heap.size = b at *
    have hi64 := is64_of HS.out
    have C := Lib.hid (list_lies s hi64 W1 HO1.out.1 HO1.out.2)
    clear hi64
    go_wp2_with fail
    refine C.out.mono ?_
    rintro _ w2 ⟨rfl, hl, hb⟩
    have HN := Lib.hid (els_length_le s)
    have HI0 := Lib.hid (adds_start (t := t) HA1.out HT1.out hl (Nat.le_refl _) hb)
    clear C hl hb HA1 HT1
    generalize W1.heap.size = bl at *
    clear HO1
    obtain ⟨N, hN⟩ : ∃ N, N = (els s).length := ⟨_, rfl⟩
    rw [← hN] at HN ⊢
    have HNs := Lib.hid hN
    clear hN
    go_wp2_with fail
    go_loopw [30] (fun i wr => ∃ k : Nat, k ≤ N ∧ i = .int .i64 (k : Int) ∧ Hid (Adds w g b bl (none) l t (els s) k wr)) (fun i _ => N - (intOf i).toNat)
    case atStart => exact ⟨0, Nat.zero_le _, rfl, HI0⟩
    case round =>
      clear HI0
      obtain ⟨k, hk, rfl, HI⟩ := hrel
      have hN := HN.out
      by_cases hlk : k < N
      · obtain ⟨x, hx⟩ : ∃ x : Nat, (els s)[k]? = some x := ⟨_, List.getElem?_eq_getElem (by rw [← HNs.out]; exact hlk)⟩
        have HX := Lib.hid hx
        have hx64 := els_get_lt hx
        have c0 := ri_cell HI.out.box
        have c1 := HI.out.list.cell hx
        obtain ⟨n, D, hown, hn, hD⟩ := HI.out.map
        have k1 : (0 : Int) ≤ (k : Int) := by omega
        have k2 : (k : Int) < (N : Int) := by omega
        have d0 : decide ((k : Int) < (N : Int)) = true := decide_eq_true k2
        have hkey := key_is HT.out (show I64 (x : Int) by unfold I64; omega)
        unfold keyV at hkey
        have HD := Lib.hid hD
        have HX64 := Lib.hid hx64
        have HL := Lib.hid hlk
        have HN2 := Lib.hid hn
        have hmax : n < maxLen := by unfold maxLen; omega
        clear hx hD hx64 hk hlk hn hN
        go_wp2_with (first
          | (at_mapUpdate; refine wpList_mapUpdate_own _ rfl _ _ _ 38 rfl 54 55 kLaw Tryd.underlying38 _ b n D rfl hown hmax _ _ _ rfl rfl hkey _ [] unitElem_mk ?_; intro w1 hown1 hgrow1)
          | go_in)
        have HI2 := Lib.hid (adds_step HI.out HG.out HT.out HX.out HX64.out hown HN2.out HD.out hown1 hgrow1)
        have hk := HL.out
        have hNn := HN.out
        have hw : wrap64 ((k : Int) + 1) = ((k + 1 : Nat) : Int) := by unfold wrap64; omega
        go_roundw
        case rel => exact ⟨k + 1, by omega, by rw [hw], HI2⟩
        case measure => rw [hw]; simp only [intOf]; omega
      · obtain rfl : k = N := by omega
        have d0 : decide ((k : Int) < (k : Int)) = false := decide_eq_false (by omega)
        have HE := HI
        rw [HNs.out] at HE
        clear hk hlk HI
        go_wp2
        go_end0
        exact ⟨rfl, some b, adds_end HF.out HS.out HR.out.1 HR.out.2 HE.out, HE.out.turn, HG.out⟩
end Go.Proofs.YtjedinodopcdaaaDoor.rig
