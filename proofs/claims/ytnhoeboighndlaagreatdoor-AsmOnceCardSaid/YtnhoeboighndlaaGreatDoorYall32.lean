/-
  Texts of one claim in one file: YWay, YAddW, YAdd, YWrite. Each has its own sentence, with its conditions.
-/
import Derived.Test.YtnhoeboighndlaaGreatDoorYall17
import Derived.Test.YtnhoeboighndlaaGreatDoorYall11
import Derived.Test.YtnhoeboighndlaaGreatDoorYall28
import Derived.Test.YtnhoeboighndlaaGreatDoorYall29
import Derived.Test.YtnhoeboighndlaaGreatDoorYall31
import Derived.StillTailTactics
import Derived.BigQuiet
import Derived.Test.YtnhoeboighndlaaGreatDoorYall30
import Derived.Shelf.Strings.Builder1
/-
  The program's reading of a way (typed over the code of 0aab59b). The tables must lie where their initialisers lay them.
-/
namespace Go.Proofs.YtnhoeboighndlaaGreatDoor.pgm.asm
open Go.RowKit Go.ChangeShapes
open Go.Proofs.YtnhoeboighndlaaGreatDoor.pgm
open Go.Proofs.YtnhoeboighndlaaGreatDoor.octet (mk_append size_mk)
open Go.Proofs.YtnhoeboighndlaaGreatDoor.objs (De zero DAt cells3 put3 put3_same put3_far put3_below)
open Go.Proofs.YtnhoeboighndlaaGreatDoor.need (OwnN OwnW wpList_appN wpList_appW)
set_option linter.unusedVariables false

theorem strBox_ne {ts : List (List UInt8)} {cs : Array Value} {T : TypeId} {fr : Nat × Nat} (h : strBox ts = .cells cs T fr) : T = 9 := by
  unfold strBox at h
  injection h with _ h _
  exact h.symm
/-- While a way is read: its words, and the needs so far. -/
structure Wy (w : World) (ts : List (List UInt8)) (v : Value) (l : List De) (W : World) : Prop where
  below : Below w.heap.size w W
  blk : W.heap[w.heap.size]? = some (strBox ts)
  own : OwnN W w.heap.size v l
theorem Wy.next {w W W' : World} {ts : List (List UInt8)} {v : Value} {l : List De} (h : Wy w ts v l W) (hb : Below W.heap.size W W') : Wy w ts v l W' :=
  ⟨h.below.trans (hb.mono h.below.size), (hb.block _ (lt_of_block h.blk)).trans h.blk, h.own.next hb⟩
theorem Wy.app {w W W' : World} {ts : List (List UInt8)} {v v' : Value} {l l' : List De} (h : Wy w ts v l W) (o : Obj) (ho : OwnN W' w.heap.size v' l') (hg : (W.alloc o).grownBy W' v.ownBlock) : Wy w ts v' l' W' := by
  have hb0 : Below W.heap.size W (W.alloc o) := (Below.refl _ _).alloc (Nat.le_refl _) _
  refine ⟨((h.below.trans (hb0.mono h.below.size)).grown hg (by have := h.below.size; have := hb0.size; omega) (fun k hk => (h.own.lt hk).1)), ?_, ho⟩
  rw [hg.block _ (by have := lt_of_block h.blk; have := hb0.size; omega) (fun e => ?_)]
  · exact (hb0.block _ (lt_of_block h.blk)).trans h.blk
  · obtain ⟨cur, hk⟩ := h.own.kind e.symm
    rw [h.blk] at hk
    have := strBox_ne (Option.some.inj hk)
    exact absurd this (by decide)
theorem wy_new (w : World) (ts : List (List UInt8)) : Wy w ts (.slice none 0 0) [] (w.alloc (strBox ts)) := ⟨(Below.refl _ _).alloc (Nat.le_refl _) _, heap_alloc_new w _, OwnN.nil _ _⟩

def WayPost (t : List UInt8) (w : World) (e : Ending) (w' : World) : Prop := ∃ v, e = .returned (.tuple #[v, .bool (wayW t).isSome]) ∧ OwnN w' w.heap.size v ((wayW t).getD []) ∧ Below w.heap.size w w'
theorem way_ret {w Z : World} {t : List UInt8} {v : Value} {ok : Bool} {l : List De} {act : Act} (h2 : act.tmps[2]?.getD undef = v) (h3 : act.tmps[3]?.getD undef = .bool ok) (hd : act.defers = [])
    (hs : (wayW t).isSome = ok) (hl : (wayW t).getD [] = l) (ho : OwnN Z w.heap.size v l) (hb : Below w.heap.size w Z) : bodyPost Tryz.prog Tryz.f82 (WayPost t w) .ret act Z := by
  refine bodyPost_ret (v := .tuple #[v, .bool ok]) ?_ hd ⟨v, by rw [hs], by rw [hl]; exact ho, hb⟩
  simp [results, Tryz.results82, go_sem, h2, h3]

set_option maxRecDepth 100000 in
set_option maxHeartbeats 8000000 in
theorem wayOf_any (t : List UInt8) (ht : t.length ≤ 60000) (w : World) (hw : Okz w) : Calls Tryz.prog 82 #[.string ⟨t.toArray⟩] w (WayPost t w) := by
  have HS := Lib.hid (split_any t [32, 43, 32] (by simp) (by omega) w hw)
  have hle := split_le (s := t) (sep := [32, 43, 32]) (by simp)
  have hmany := split_many (s := t) (sep := [32, 43, 32]) (by simp)
  have HWy : Hid (wayW t = allW needW (Lib.split t [32, 43, 32])) := Lib.hid rfl
  have HW := Lib.hid hw
  generalize Lib.split t [32, 43, 32] = ts at *
  have HLe := Lib.hid (fun p hp => Nat.le_trans (hle p hp) ht)
  have hts : ts.length ≤ 60001 := by omega
  clear hle hmany hw
  go_enter Tryz.func82, Tryz.ntmps82
  go_wp2_with fail
  refine HS.out.mono ?_
  rintro e w1 ⟨rfl, rfl⟩
  have HX0 := Lib.hid (wy_new w ts)
  clear HS
  go_wp2_with fail
  generalize w.alloc (strBox ts) = W0 at *
  go_loopw [4, 12] (fun v i wr => ∃ (j : Nat) (l : List De), j ≤ ts.length ∧ i = .int .i64 (j : Int) ∧ Hid (allW needW (ts.take j) = some l) ∧ Hid (Wy w ts v l wr)) (fun _ i _ => ts.length - (intOf i).toNat)
  case atStart => exact ⟨0, [], Nat.zero_le _, rfl, Lib.hid rfl, HX0⟩
  case round =>
    clear HX0
    obtain ⟨j, l, hj, rfl, HV, HX⟩ := hrel
    have hll : l.length = j := (allW_len _ _ HV.out).trans (by rw [List.length_take]; omega)
    obtain ⟨A, cap, hv⟩ := HX.out.own.slice
    rw [hll] at hv
    subst hv
    by_cases hlt : j < ts.length
    · obtain ⟨b, off, hbe, hbl, hc⟩ := str_at HX.out.blk j hlt
      obtain ⟨rfl, rfl⟩ : b = w.heap.size ∧ off = 0 := by
        injection hbe with h
        injection h with h1 h2 _
        exact ⟨h1.symm, h2.symm⟩
      rw [Nat.zero_add] at hc
      have hlt' : (j : Int) < (ts.length : Int) := by omega
      have hj0 : (0 : Int) ≤ (j : Int) := by omega
      have hN := needOf_any (ts.getD j []) (by have := HLe.out _ (by rw [List.getD_eq_getElem?_getD, List.getElem?_eq_getElem hlt]; exact List.getElem_mem hlt : ts.getD j [] ∈ ts); omega) wr (HW.out.next HX.out.below)
      unfold NeedPostZ at hN
      have HF := Lib.hid (fun (h : needW (ts.getD j []) = none) => (allW_fail (f := needW) hlt h : allW needW ts = none))
      have HT := Lib.hid (allW_take (f := needW) hlt HV.out)
      cases hr : needW (ts.getD j []) with
      | none =>
        rw [hr] at hN
        have HN := Lib.hid hN
        have HP2 : Hid (wayW t = none) := Lib.hid (HWy.out.trans (HF.out hr))
        clear hN HF HT hr HLe
        generalize ts.getD j [] = p at *
        go_wp2_with fail
        refine HN.out.mono ?_
        rintro e w3 ⟨rfl, hb⟩
        have HX3 := Lib.hid (HX.out.next hb)
        have HB4 : Hid (Below w.heap.size w (w3.alloc (nBox 0 0 0))) := Lib.hid (HX3.out.below.alloc HX3.out.below.size _)
        unfold nBox at HB4
        clear hb HN HX hc
        go_wp2_with fail
        exact way_ret (ok := false) rfl rfl rfl (by rw [HP2.out]; rfl) (by rw [HP2.out]; rfl) (OwnN.nil _ _) HB4.out
      | some n =>
        rw [hr] at hN
        obtain ⟨nk, no, nm⟩ := n
        have HN : Hid (Calls Tryz.prog 100 #[.string ⟨(ts.getD j []).toArray⟩] wr fun e w' => e = .returned (.tuple #[.agg #[.int .i64 nk, .int .i64 no, .int .i64 nm], .bool true]) ∧ Below wr.heap.size wr w') := Lib.hid hN
        have HT2 : Hid (allW needW (ts.take (j + 1)) = some (l ++ [(nk, no, nm)])) := Lib.hid (HT.out.trans (by rw [hr]; rfl))
        clear hN HF HT hr HLe HV
        generalize ts.getD j [] = p at *
        go_wp2_with fail
        refine HN.out.mono ?_
        rintro e w3 ⟨rfl, hb⟩
        have HX3 := Lib.hid (HX.out.next hb)
        have hb4 : Below w3.heap.size w3 (w3.alloc (nBox nk no nm)) := (Below.refl _ _).alloc (Nat.le_refl _) _
        have HX4 := Lib.hid (HX3.out.next hb4)
        have hsz : (w3.alloc (nBox nk no nm)).heap.size = w3.heap.size + 1 := by simp
        have hown1 : OwnN ((w3.alloc (nBox nk no nm)).alloc (nBox nk no nm)) w.heap.size (.slice A j cap) l := HX4.out.own.next ((Below.refl _ _).alloc (Nat.le_refl _) _)
        have hone : DAt ((w3.alloc (nBox nk no nm)).alloc (nBox nk no nm)) (some ⟨w3.heap.size + 1, 0, none⟩) [(nk, no, nm)] := by
          have := Go.Proofs.YtnhoeboighndlaaGreatDoor.need.DAt.oneN (d := (nk, no, nm)) (heap_alloc_new (w3.alloc (nBox nk no nm)) (nBox nk no nm))
          rwa [hsz] at this
        have hbase : w.heap.size ≤ ((w3.alloc (nBox nk no nm)).alloc (nBox nk no nm)).heap.size := by have := HX4.out.below.size; simp at this ⊢; omega
        have Hap := fun (v2 : Value) (W2 : World) (h1 : OwnN W2 w.heap.size v2 (l ++ [(nk, no, nm)])) (h2 : ((w3.alloc (nBox nk no nm)).alloc (nBox nk no nm)).grownBy W2 (Value.slice A j cap).ownBlock) => HX4.out.app (nBox nk no nm) h1 h2
        unfold nBox at hown1 hone Hap hbase
        clear hb HN HX hc hb4 hsz HX3 HX4
        go_wp2_with (
          at_builtin
          refine wpList_appN (by rfl) (.tmp 23) (.tmp 25) (by rfl) w.heap.size 1 1 (.slice A j cap) (some ⟨w3.heap.size + 1, 0, none⟩) l [(nk, no, nm)] (by rfl) hown1 (by rfl) rfl (fun h => by cases h) hone (by simp; omega) hbase ?_)
        intro v2 W5 hv2 hg2
        have HX5 := Lib.hid (Hap v2 W5 hv2 ⟨hg2.os, hg2.tape, hg2.output, hg2.size, hg2.block⟩)
        clear hown1 hone hv2 hg2 Hap hbase
        go_wp2
        go_roundw
        case rel => exact ⟨j + 1, l ++ [(nk, no, nm)], by omega, by go_num, HT2, HX5⟩
        case measure => simp [intOf]; omega
    · have HP2 : Hid (wayW t = some l) := Lib.hid (HWy.out.trans (by have := HV.out; rwa [List.take_of_length_le (by omega)] at this))
      have hge : ¬ (j : Int) < (ts.length : Int) := by omega
      go_wp2_with fail
      exact way_ret (ok := true) rfl rfl rfl (by rw [HP2.out]; rfl) (by rw [HP2.out]; rfl) HX.out.own HX.out.below
end Go.Proofs.YtnhoeboighndlaaGreatDoor.pgm.asm

/-
  The program's adding of a wait (typed over the code of 0aab59b). The tables must lie where their initialisers lay them.
-/
namespace Go.Proofs.YtnhoeboighndlaaGreatDoor.pgm.asm
open Go.RowKit Go.ChangeShapes
open Go.Proofs.YtnhoeboighndlaaGreatDoor.pgm
open Go.Proofs.YtnhoeboighndlaaGreatDoor.octet (mk_append size_mk)
open Go.Proofs.YtnhoeboighndlaaGreatDoor.objs (De zero DAt Own cells3)
open Go.Proofs.YtnhoeboighndlaaGreatDoor.need (OwnN OwnW wpList_appW)
set_option linter.unusedVariables false

/-- While the ways are read: the words, and the ways so far. -/
structure Wa (w : World) (ts : List (List UInt8)) (v : Value) (l : List (List De)) (W : World) : Prop where
  below : Below w.heap.size w W
  blk : W.heap[w.heap.size]? = some (strBox ts)
  own : OwnW W w.heap.size v l
theorem Wa.next {w W W' : World} {ts : List (List UInt8)} {v : Value} {l : List (List De)} (h : Wa w ts v l W) (hb : Below W.heap.size W W') : Wa w ts v l W' :=
  ⟨h.below.trans (hb.mono h.below.size), (hb.block _ (lt_of_block h.blk)).trans h.blk, h.own.next hb⟩
theorem ownW_kpg {W W' : World} {base : Nat} {v : Value} {l : List (List De)} (h : OwnW W base v l) (hg : W.grownBy W' v.ownBlock) : Kp 75 W W' ∧ ∀ k, v.ownBlock = some k → base ≤ k := by
  obtain ⟨xs, h1, _⟩ := h
  exact ⟨Kp.grown h1 hg, fun k hk => (World.ownsRow.lt h1 k hk).1⟩
theorem Wa.app {w W W' : World} {ts : List (List UInt8)} {v v' : Value} {l l' : List (List De)} (h : Wa w ts v l W) (o : Obj) (ho : OwnW W' w.heap.size v' l') (hg : (W.alloc o).grownBy W' v.ownBlock) : Wa w ts v' l' W' := by
  have hb0 : Below W.heap.size W (W.alloc o) := (Below.refl _ _).alloc (Nat.le_refl _) _
  have h2 := h.next hb0
  obtain ⟨k1, k2⟩ := ownW_kpg h2.own hg
  refine ⟨(h2.below.grown hg (by have := h.below.size; have := hb0.size; omega) k2), ?_, ho⟩
  have hs : (strBox ts : Obj) = strBox ts := rfl
  have h3 := h2.blk
  unfold strBox at h3 ⊢
  exact (k1.block h3 (by decide)).trans h3
theorem wa_new (w : World) (ts : List (List UInt8)) : Wa w ts (.slice none 0 0) [] (w.alloc (strBox ts)) := ⟨(Below.refl _ _).alloc (Nat.le_refl _) _, heap_alloc_new w _, OwnW.nil _ _⟩
theorem addW_ret {w Z : World} {base bp : Nat} {r : Option Pg} {ok : Bool} {act : Act} (h4 : act.tmps[4]?.getD undef = .bool ok) (hd : act.defers = []) (hs : r.isSome = ok) (hb : Below base w Z) (hp : ∀ q, r = some q → ∃ va vb vc, Pz Z base bp va vb vc q) :
    bodyPost Tryz.prog Tryz.f61 (AddPost base bp r w) .ret act Z := by
  refine bodyPost_ret (v := .bool ok) ?_ hd ⟨by rw [hs], hb, hp⟩
  simp [results, Tryz.results61, go_sem, h4]

set_option maxRecDepth 100000 in
set_option maxHeartbeats 8000000 in
theorem addWait_any (t : List UInt8) (ht : t.length ≤ 60000) (w : World) (base bp : Nat) (va vb vc : Value) (p : Pg) (hp : Pz w base bp va vb vc p) (hw : Okz w) (hl : p.ws.length ≤ 60000) :
    Calls Tryz.prog 61 #[.pointer (some ⟨bp, 0, none⟩), .string ⟨t.toArray⟩] w (AddPost base bp ((waitW t).map fun x => ⟨p.ds, p.ws ++ [x], p.fs⟩) w) := by
  obtain ⟨r, hr⟩ : ∃ r : Option Pg, r = (waitW t).map fun x => ⟨p.ds, p.ws ++ [x], p.fs⟩ := ⟨_, rfl⟩
  rw [← hr]
  have HR := Lib.hid hr
  have HS := Lib.hid (split_any t [32, 124, 32] (by simp) (by omega) w hw)
  have hle := split_le (s := t) (sep := [32, 124, 32]) (by simp)
  have hmany := split_many (s := t) (sep := [32, 124, 32]) (by simp)
  have HWy : Hid (waitW t = allW wayW (Lib.split t [32, 124, 32])) := Lib.hid rfl
  have HW := Lib.hid hw
  have HP := Lib.hid hp
  generalize Lib.split t [32, 124, 32] = ts at *
  have HLe := Lib.hid (fun p hp => Nat.le_trans (hle p hp) ht)
  have hts : ts.length ≤ 60001 := by omega
  have hpl : p.ws.length ≤ 60000 := hl
  clear hr hle hmany hw hp hl
  go_enter Tryz.func61, Tryz.ntmps61
  go_wp2_with fail
  refine HS.out.mono ?_
  rintro e w1 ⟨rfl, rfl⟩
  have HX0 := Lib.hid (wa_new w ts)
  clear HS
  go_wp2_with fail
  generalize w.alloc (strBox ts) = W0 at *
  go_loopw [5, 13] (fun v i wr => ∃ (j : Nat) (l : List (List De)), j ≤ ts.length ∧ i = .int .i64 (j : Int) ∧ Hid (allW wayW (ts.take j) = some l) ∧ Hid (Wa w ts v l wr)) (fun _ i _ => ts.length - (intOf i).toNat)
  case atStart => exact ⟨0, [], Nat.zero_le _, rfl, Lib.hid rfl, HX0⟩
  case round =>
    clear HX0
    obtain ⟨j, l, hj, rfl, HV, HX⟩ := hrel
    have hll : l.length = j := (allW_len _ _ HV.out).trans (by rw [List.length_take]; omega)
    obtain ⟨A, cap, hv⟩ := HX.out.own.slice
    rw [hll] at hv
    subst hv
    by_cases hlt : j < ts.length
    · obtain ⟨b, off, hbe, hbl, hc⟩ := str_at HX.out.blk j hlt
      obtain ⟨rfl, rfl⟩ : b = w.heap.size ∧ off = 0 := by
        injection hbe with h
        injection h with h1 h2 _
        exact ⟨h1.symm, h2.symm⟩
      rw [Nat.zero_add] at hc
      have hlt' : (j : Int) < (ts.length : Int) := by omega
      have hj0 : (0 : Int) ≤ (j : Int) := by omega
      have hN := wayOf_any (ts.getD j []) (HLe.out _ (by rw [List.getD_eq_getElem?_getD, List.getElem?_eq_getElem hlt]; exact List.getElem_mem hlt : ts.getD j [] ∈ ts)) wr (HW.out.next HX.out.below)
      unfold WayPost at hN
      have HF := Lib.hid (fun (h : wayW (ts.getD j []) = none) => (allW_fail (f := wayW) hlt h : allW wayW ts = none))
      have HT := Lib.hid (allW_take (f := wayW) hlt HV.out)
      cases hr : wayW (ts.getD j []) with
      | none =>
        rw [hr] at hN
        have HN := Lib.hid hN
        have HR2 : Hid (r = none) := Lib.hid (by rw [HR.out, HWy.out, HF.out hr]; rfl)
        clear hN HF HT hr HLe HR
        generalize ts.getD j [] = q at *
        go_wp2_with fail
        refine HN.out.mono ?_
        rintro e w3 ⟨vv, rfl, ho, hb⟩
        have HB4 : Hid (Below base w w3) := Lib.hid ((HX.out.next hb).below.mono (Nat.le_of_lt HP.out.lt))
        obtain ⟨Av, cv, hvv⟩ := ho.slice
        subst hvv
        clear hb HN HX hc ho
        go_wp2_with fail
        exact addW_ret (ok := false) rfl rfl (by rw [HR2.out]; rfl) HB4.out (fun q hq => by rw [HR2.out] at hq; cases hq)
      | some n =>
        rw [hr] at hN
        have HN : Hid (Calls Tryz.prog 82 #[.string ⟨(ts.getD j []).toArray⟩] wr fun e w' => ∃ v, e = .returned (.tuple #[v, .bool true]) ∧ OwnN w' wr.heap.size v n ∧ Below wr.heap.size wr w') := Lib.hid hN
        have HT2 : Hid (allW wayW (ts.take (j + 1)) = some (l ++ [n])) := Lib.hid (HT.out.trans (by rw [hr]; rfl))
        clear hN HF HT hr HLe HV
        generalize ts.getD j [] = q at *
        go_wp2_with fail
        refine HN.out.mono ?_
        rintro e w3 ⟨vv, rfl, ho, hb⟩
        obtain ⟨Av, cv, hvv⟩ := ho.slice
        subst hvv
        have HX3 := Lib.hid (HX.out.next hb)
        have hown1 : OwnW w3 w.heap.size (.slice A j cap) l := HX3.out.own
        have hown2 : OwnN w3 w.heap.size (.slice Av n.length cv) n := by
          refine ⟨ho.1, ho.2.imp id ?_⟩
          rintro ⟨g, c, cur, e, hb1, r⟩
          exact ⟨g, c, cur, e, Nat.le_trans HX.out.below.size hb1, r⟩
        have hbase : w.heap.size ≤ w3.heap.size := HX3.out.below.size
        have Hap := fun (v2 : Value) (W2 : World) (h1 : OwnW W2 w.heap.size v2 (l ++ [n])) (h2 : (w3.alloc (.cells #[.slice Av n.length cv] 75)).grownBy W2 (Value.slice A j cap).ownBlock) => HX3.out.app (.cells #[.slice Av n.length cv] 75) h1 h2
        clear hb HN HX hc HX3 ho
        go_wp2_with (
          at_builtin
          refine wpList_appW (by rfl) (.tmp 24) (.tmp 26) (by rfl) w.heap.size 1 (.slice A j cap) (.slice Av n.length cv) l n (by rfl) hown1 (by rfl) hown2 rfl (by omega) hbase ?_)
        intro v2 W5 hv2 hg2
        have HX5 := Lib.hid (Hap v2 W5 hv2 ⟨hg2.os, hg2.tape, hg2.output, hg2.size, hg2.block⟩)
        clear hown1 hown2 hv2 hg2 Hap hbase
        go_wp2
        go_roundw
        case rel => exact ⟨j + 1, l ++ [n], by omega, by go_num, HT2, HX5⟩
        case measure => simp [intOf]; omega
    · have HR2 : Hid (r = some ⟨p.ds, p.ws ++ [l], p.fs⟩) := Lib.hid (by
        rw [HR.out, HWy.out, ← List.take_of_length_le (l := ts) (i := j) (by omega), HV.out]
        rfl)
      have hge : ¬ (j : Int) < (ts.length : Int) := by omega
      have HP4 := Lib.hid (HP.out.next HX.out.below)
      obtain ⟨A1, c1, hvb⟩ := HP4.out.ws.slice
      subst hvb
      obtain ⟨x0, x1, x2, x3, x4, x5⟩ := cells3 HP4.out.box
      have hbA : Below wr.heap.size wr (wr.alloc (.cells #[.slice A j cap] 45)) := (Below.refl _ _).alloc (Nat.le_refl _) _
      have hown1 : OwnV wr base (.slice A1 p.ws.length c1) p.ws := HP4.out.ws
      have hown2 : OwnW wr base (.slice A j cap) l := HX.out.own.base (Nat.le_of_lt HP.out.lt)
      have hbs : base ≤ wr.heap.size := Nat.le_of_lt HP4.out.lt
      have HB2 : Hid (Below base w wr) := Lib.hid (HX.out.below.mono (Nat.le_of_lt HP.out.lt))
      have Hap : ∀ W9, (wr.alloc (.cells #[.slice A j cap] 45)).grownBy W9 (Value.slice A1 p.ws.length c1).ownBlock → (Below base w W9 ∧ Kp 45 wr W9) ∧ W9.heap[bp]? = some (.cells #[va, .slice A1 p.ws.length c1, vc] 26 (0, 0)) := fun W9 hg => by
        obtain ⟨xs, e2, _⟩ := hown1.next hbA
        have hk9 : Kp 45 wr W9 := (Kp.below hbA).trans (Kp.grown e2 hg)
        refine ⟨⟨((HB2.out.trans (hbA.mono hbs)).grown hg (by have := hbA.size; omega) (fun k hk => (World.ownsRow.lt e2 k hk).1)), hk9⟩, (hk9.block HP4.out.box (by decide)).trans HP4.out.box⟩
      have HLn : Hid ((p.ws ++ [l]).length = p.ws.length + 1) := Lib.hid (by simp)
      clear HR HV HWy HX hbA HLe HP HW
      go_wp2_with (
        at_builtin
        refine wpList_appV (by rfl) (.tmp 33) (.tmp 35) (by rfl) base 1 (.slice A1 p.ws.length c1) (.slice A j cap) p.ws l (by rfl) hown1 (by rfl) hown2 rfl (by omega) hbs ?_)
      intro v2 W9 hv2 hg2
      have hAp := Hap W9 ⟨hg2.os, hg2.tape, hg2.output, hg2.size, hg2.block⟩
      obtain ⟨z0, z1, z2, z3, z4, z5⟩ := cells3 hAp.2
      obtain ⟨Av, cv, hve⟩ := hv2.slice
      have HAp := Lib.hid hAp
      rw [HLn.out] at hve
      subst hve
      have HV2 := Lib.hid hv2
      clear hAp hv2 hg2 hown1 hown2 Hap
      go_wp2_with fail
      exact addW_ret (ok := true) rfl rfl (by rw [HR2.out]; rfl) (HAp.out.1.1.setCell (p := ⟨bp, 1, none⟩) HP4.out.le _) (fun q hq => by
        rw [HR2.out] at hq
        obtain rfl := Option.some.inj hq
        exact ⟨_, _, _, HP4.out.setB HAp.out.1.2 HV2.out⟩)
end Go.Proofs.YtnhoeboighndlaaGreatDoor.pgm.asm

/-
  The program's adding of a line to what was read (typed over the code of 0aab59b). The tables must lie where their initialisers lay them.
-/
namespace Go.Proofs.YtnhoeboighndlaaGreatDoor.pgm.asm
open Go.RowKit Go.ChangeShapes
open Go.Proofs.YtnhoeboighndlaaGreatDoor.pgm
open Go.Proofs.YtnhoeboighndlaaGreatDoor.octet (mk_append size_mk)
open Go.Proofs.YtnhoeboighndlaaGreatDoor.objs (De zero DAt Own cells3)
set_option linter.unusedVariables false

theorem fn_len : ∀ l : List Fn, l.length ≤ (l.map fnI).flatten.length ∧ ∀ f ∈ l, f.co.length ≤ (l.map fnI).flatten.length := by
  intro l
  induction l with
  | nil => exact ⟨Nat.le_refl _, fun f hf => by cases hf⟩
  | cons g l ih =>
    rw [List.map_cons, List.flatten_cons, List.length_append]
    have hg : (fnI g).length = g.co.length + 1 := by simp [fnI]
    refine ⟨by rw [List.length_cons]; have := ih.1; omega, fun f hf => ?_⟩
    rcases List.mem_cons.1 hf with rfl | hf
    · omega
    · have := ih.2 f hf
      omega
theorem items_len (p : Pg) : p.ds.length ≤ (itemsP p).length ∧ p.ws.length ≤ (itemsP p).length ∧ p.fs.length ≤ (itemsP p).length ∧ ∀ f ∈ p.fs, f.co.length ≤ (itemsP p).length := by
  have h : (itemsP p).length = p.ds.length + (p.ws.length + (p.fs.map fnI).flatten.length) := by
    unfold itemsP
    rw [List.length_append, List.length_append, List.length_map, List.length_map]
  obtain ⟨h1, h2⟩ := fn_len p.fs
  exact ⟨by omega, by omega, by omega, fun f hf => by have := h2 f hf; omega⟩
theorem pre_yes (s p : List UInt8) (h : Lib.hasPrefix s p = true) (w : World) : Calls Tryz.prog 59 #[.string ⟨s.toArray⟩, .string ⟨p.toArray⟩] w fun e w' =>
    e = .returned (.tuple #[.string ⟨(s.drop p.length).toArray⟩, .bool true]) ∧ w = w' :=
  (Tryz.strings_CutPrefix ⟨s.toArray⟩ ⟨p.toArray⟩ w).mono fun e w' h' => by
    obtain ⟨rfl, rfl⟩ := h'
    refine ⟨?_, rfl⟩
    show Ending.returned (.tuple #[.string ⟨(Lib.trimPrefix s p).toArray⟩, .bool (Lib.hasPrefix s p)]) = _
    unfold Lib.trimPrefix
    rw [if_pos h, h]
theorem pre_no (s p : List UInt8) (h : ¬ Lib.hasPrefix s p = true) (w : World) : Calls Tryz.prog 59 #[.string ⟨s.toArray⟩, .string ⟨p.toArray⟩] w fun e w' =>
    e = .returned (.tuple #[.string ⟨s.toArray⟩, .bool false]) ∧ w = w' :=
  (Tryz.strings_CutPrefix ⟨s.toArray⟩ ⟨p.toArray⟩ w).mono fun e w' h' => by
    obtain ⟨rfl, rfl⟩ := h'
    refine ⟨?_, rfl⟩
    show Ending.returned (.tuple #[.string ⟨(Lib.trimPrefix s p).toArray⟩, .bool (Lib.hasPrefix s p)]) = _
    unfold Lib.trimPrefix
    rw [if_neg h, Bool.eq_false_iff.2 h]

/-- A call that adds, from any world behind. -/
def AddAt (F : Nat) (base bp : Nat) (s : List UInt8) (r : Option Pg) (w : World) : Prop := ∀ W, Below w.heap.size w W → Calls Tryz.prog F #[.pointer (some ⟨bp, 0, none⟩), .string ⟨s.toArray⟩] W fun e w' =>
  e = .returned (.bool r.isSome) ∧ Hid (Below base w w') ∧ Hid (∀ q, r = some q → ∃ va vb vc, Pz w' base bp va vb vc q)
theorem add_at {F base bp : Nat} {s : List UInt8} {r r' : Option Pg} {w : World} {va vb vc : Value} {p : Pg} (hp : Pz w base bp va vb vc p) (e : r' = r) (h : ∀ W, Below w.heap.size w W → Calls Tryz.prog F #[.pointer (some ⟨bp, 0, none⟩), .string ⟨s.toArray⟩] W (AddPost base bp r' W)) : AddAt F base bp s r w := fun W hb =>
  (h W hb).mono fun e' w' h' => by
    subst e
    exact ⟨h'.1, Lib.hid ((hb.mono (Nat.le_of_lt hp.lt)).trans h'.2.1), Lib.hid h'.2.2⟩

set_option maxRecDepth 100000 in
set_option maxHeartbeats 8000000 in
theorem add_any (t : List UInt8) (ht : t.length ≤ 60000) (w : World) (base bp : Nat) (va vb vc : Value) (p : Pg) (hp : Pz w base bp va vb vc p) (hw : Okz w) (hl : (itemsP p).length ≤ 60000) :
    Calls Tryz.prog 35 #[.pointer (some ⟨bp, 0, none⟩), .string ⟨t.toArray⟩] w (AddPost base bp ((readItem t).bind (add p)) w) := by
  rw [← item_read]
  have hil := items_len p
  obtain ⟨ds, ws, fs⟩ := p
  obtain ⟨l1, l2, l3, l4⟩ : ds.length ≤ 60000 ∧ ws.length ≤ 60000 ∧ fs.length ≤ 60000 ∧ ∀ f ∈ fs, f.co.length ≤ 60000 := ⟨Nat.le_trans hil.1 hl, Nat.le_trans hil.2.1 hl, Nat.le_trans hil.2.2.1 hl, fun f hf => Nat.le_trans (hil.2.2.2 f hf) hl⟩
  clear hil hl
  obtain ⟨r, hr⟩ : ∃ r, r = (itemW t).bind (add ⟨ds, ws, fs⟩) := ⟨_, rfl⟩
  rw [← hr]
  unfold AddPost
  have HP := Lib.hid hp
  have hd0 : ∀ n, (t.drop n).length ≤ 60000 := fun n => by rw [List.length_drop]; omega
  have hbr : Hid (Below base w w) := Lib.hid (Below.refl _ _)
  have hbd : Hid (Below w.heap.size w w.drew) := Lib.hid (Below.refl _ _).drew
  have HB0 : Hid (Below w.heap.size w w) := Lib.hid (Below.refl _ _)
  obtain ⟨A, ca, hva⟩ : ∃ A ca, va = .slice A ds.length ca := hp.ds.slice
  obtain ⟨B, cb, hvb⟩ : ∃ A ca, vb = .slice A ws.length ca := hp.ws.slice
  obtain ⟨C, cc, hvc⟩ : ∃ A ca, vc = .slice A fs.length ca := hp.fs.slice
  by_cases c1 : Lib.hasPrefix t wO = true
  · have HC1 : Hid (Calls Tryz.prog 59 #[.string ⟨t.toArray⟩, .string ⟨#[111, 98, 106, 101, 99, 116, 32]⟩] w fun e w' => e = .returned (.tuple #[.string ⟨(t.drop 7).toArray⟩, .bool true]) ∧ w = w') := Lib.hid (pre_yes t wO c1 w)
    have hr1 : itemW t = (objW (Lib.split (t.drop 7) [32])).map .o := by unfold itemW; rw [if_pos c1]
    rw [hr1] at hr
    clear hr1 c1
    by_cases hg : ws = [] ∧ fs = []
    · obtain ⟨rfl, rfl⟩ := hg
      have HO : Hid (AddAt 60 base bp (t.drop 7) r w) := Lib.hid (add_at hp (by rw [hr]; cases objW (Lib.split (t.drop 7) [32]) <;> rfl) fun W hb => addObject_any (t.drop 7) (hd0 7) W base bp va vb vc ⟨ds, [], []⟩ (hp.next hb) (hw.next hb) l1)
      unfold AddAt at HO
      obtain ⟨x0, x1, x2, x3, x4, x5⟩ := cells3 HP.out.box
      subst hvb hvc
      clear hr hp hw HP hva
      go_enter Tryz.func35, Tryz.ntmps35
      go_wp2_with fail
      refine HC1.out.mono ?_
      rintro e w1 ⟨rfl, rfl⟩
      clear HC1
      go_wp2_with fail
      go_still_tail 15, (by kernel_rfl)
      change wpList _ _ _ _ _ w.drew
      generalize w.drew = W2 at *
      clear x0 x1 x2 x3 x4 x5
      go_wp2_with fail
      refine (HO.out W2 hbd.out).mono ?_
      rintro e w' ⟨rfl, HB, HQ⟩
      go_wp2_with fail
      go_ret
      exact ⟨rfl, HB.out, HQ.out⟩
    · have HR2 : Hid (r = none) := Lib.hid (by
        rw [hr]
        cases objW (Lib.split (t.drop 7) [32]) with
        | none => rfl
        | some d => exact if_neg hg)
      have hne : ¬ ws.length + fs.length = 0 := fun e => hg ⟨List.length_eq_zero_iff.1 (by omega), List.length_eq_zero_iff.1 (by omega)⟩
      have k1 : IntKind.i64.wrap ((ws.length : Int) + (fs.length : Int)) = (ws.length : Int) + (fs.length : Int) := by rw [IntKind.wrap_i64]; omega
      have k2 : (((ws.length : Int) + (fs.length : Int)) == 0) = false := by rw [beq_eq_false_iff_ne]; omega
      have k3 : decide (((ws.length : Int) + (fs.length : Int)) = 0) = false := decide_eq_false (by omega)
      obtain ⟨x0, x1, x2, x3, x4, x5⟩ := cells3 HP.out.box
      subst hvb hvc
      clear hr hp hw HP hva hg hne
      go_enter Tryz.func35, Tryz.ntmps35
      go_wp2_with fail
      refine HC1.out.mono ?_
      rintro e w1 ⟨rfl, rfl⟩
      clear HC1
      go_wp2_with fail
      go_quiet (fail)
      have HBq : Hid (Below base w (w.drewN nq)) := Lib.hid (Go.Proofs.YtnhoeboighndlaaGreatDoor.objs.below_drewN (Below.refl _ _) nq)
      generalize w.drewN nq = W2 at *
      go_wp2_with fail
      go_ret
      exact ⟨by rw [HR2.out]; rfl, HBq.out, fun q hq => by rw [HR2.out] at hq; cases hq⟩
  · have HC1 : Hid (Calls Tryz.prog 59 #[.string ⟨t.toArray⟩, .string ⟨#[111, 98, 106, 101, 99, 116, 32]⟩] w fun e w' => e = .returned (.tuple #[.string ⟨t.toArray⟩, .bool false]) ∧ w = w') := Lib.hid (pre_no t wO c1 w)
    by_cases c2 : Lib.hasPrefix t wW = true
    · have HC2 : Hid (Calls Tryz.prog 59 #[.string ⟨t.toArray⟩, .string ⟨#[119, 97, 105, 116, 32]⟩] w fun e w' => e = .returned (.tuple #[.string ⟨(t.drop 5).toArray⟩, .bool true]) ∧ w = w') := Lib.hid (pre_yes t wW c2 w)
      have hr1 : itemW t = (waitW (t.drop 5)).map .w := by unfold itemW; rw [if_neg c1, if_pos c2]
      rw [hr1] at hr
      clear hr1 c1 c2
      by_cases hg : fs = []
      · subst hg
        have HO : Hid (AddAt 61 base bp (t.drop 5) r w) := Lib.hid (add_at hp (by rw [hr]; cases waitW (t.drop 5) <;> rfl) fun W hb => addWait_any (t.drop 5) (hd0 5) W base bp va vb vc ⟨ds, ws, []⟩ (hp.next hb) (hw.next hb) l2)
        unfold AddAt at HO
        obtain ⟨x0, x1, x2, x3, x4, x5⟩ := cells3 HP.out.box
        subst hvb hvc
        clear hr hp hw HP hva
        go_enter Tryz.func35, Tryz.ntmps35
        go_wp2_with fail
        refine HC1.out.mono ?_
        rintro e w1 ⟨rfl, rfl⟩
        clear HC1
        go_wp2_with fail
        refine HC2.out.mono ?_
        rintro e w1 ⟨rfl, rfl⟩
        clear HC2
        go_wp2_with fail
        refine (HO.out w HB0.out).mono ?_
        rintro e w' ⟨rfl, HB, HQ⟩
        go_wp2_with fail
        go_ret
        exact ⟨rfl, HB.out, HQ.out⟩
      · have HR2 : Hid (r = none) := Lib.hid (by
          rw [hr]
          cases waitW (t.drop 5) with
          | none => rfl
          | some d => exact if_neg hg)
        have hne : ¬ fs.length = 0 := fun e => hg (List.length_eq_zero_iff.1 e)
        have k2 : ((fs.length : Int) == 0) = false := by rw [beq_eq_false_iff_ne]; omega
        have k3 : decide ((fs.length : Int) = 0) = false := decide_eq_false (by omega)
        obtain ⟨x0, x1, x2, x3, x4, x5⟩ := cells3 HP.out.box
        subst hvb hvc
        clear hr hp hw HP hva hg
        go_enter Tryz.func35, Tryz.ntmps35
        go_wp2_with fail
        refine HC1.out.mono ?_
        rintro e w1 ⟨rfl, rfl⟩
        clear HC1
        go_wp2_with fail
        refine HC2.out.mono ?_
        rintro e w1 ⟨rfl, rfl⟩
        clear HC2
        go_wp2_with fail
        go_ret
        exact ⟨by rw [HR2.out]; rfl, hbr.out, fun q hq => by rw [HR2.out] at hq; cases hq⟩
    · have HC2 : Hid (Calls Tryz.prog 59 #[.string ⟨t.toArray⟩, .string ⟨#[119, 97, 105, 116, 32]⟩] w fun e w' => e = .returned (.tuple #[.string ⟨t.toArray⟩, .bool false]) ∧ w = w') := Lib.hid (pre_no t wW c2 w)
      by_cases c3 : Lib.hasPrefix t [32, 32] = true
      · have HC3 : Hid (Calls Tryz.prog 59 #[.string ⟨t.toArray⟩, .string ⟨#[32, 32]⟩] w fun e w' => e = .returned (.tuple #[.string ⟨(t.drop 2).toArray⟩, .bool true]) ∧ w = w') := Lib.hid (pre_yes t [32, 32] c3 w)
        have hr1 : itemW t = (insW (Lib.split (t.drop 2) [32])).map .i := by unfold itemW; rw [if_neg c1, if_neg c2, if_pos c3]
        rw [hr1] at hr
        clear hr1 c1 c2 c3
        by_cases hg : fs = []
        · have HR2 : Hid (r = none) := Lib.hid (by
            rw [hr, hg]
            cases insW (Lib.split (t.drop 2) [32]) <;> rfl)
          subst hg
          obtain ⟨x0, x1, x2, x3, x4, x5⟩ := cells3 HP.out.box
          subst hvb hvc
          clear hr hp hw HP hva
          go_enter Tryz.func35, Tryz.ntmps35
          go_wp2_with fail
          refine HC1.out.mono ?_
          rintro e w1 ⟨rfl, rfl⟩
          clear HC1
          go_wp2_with fail
          refine HC2.out.mono ?_
          rintro e w1 ⟨rfl, rfl⟩
          clear HC2
          go_wp2_with fail
          refine HC3.out.mono ?_
          rintro e w1 ⟨rfl, rfl⟩
          clear HC3
          go_wp2_with fail
          go_ret
          exact ⟨by rw [HR2.out]; rfl, hbr.out, fun q hq => by rw [HR2.out] at hq; cases hq⟩
        · obtain ⟨fs0, f, hfs⟩ : ∃ fs0 f, fs = fs0 ++ [f] := by
            rcases List.eq_nil_or_concat fs with e | ⟨a, b, e⟩
            · exact absurd e hg
            · exact ⟨a, b, by rw [e]; simp⟩
          have HO : Hid (AddAt 62 base bp (t.drop 2) r w) := Lib.hid (add_at hp (by
            rw [hr, hfs]
            cases insW (Lib.split (t.drop 2) [32]) with
            | none => rfl
            | some x =>
              show _ = (putI x (fs0 ++ [f])).map fun fs => (⟨ds, ws, fs⟩ : Pg)
              rw [putI_last]
              rfl) fun W hb => addIns_any (t.drop 2) (hd0 2) W base bp va vb vc ds ws fs0 f (by have := hp.next hb; rw [hfs] at this; exact this) (hw.next hb) (l4 f (by rw [hfs]; simp)))
          unfold AddAt at HO
          have hne : ¬ fs.length = 0 := fun e => hg (List.length_eq_zero_iff.1 e)
          have k1 : (0 : Int) < (fs.length : Int) := by omega
          have k3 : decide ((0 : Int) < (fs.length : Int)) = true := decide_eq_true k1
          obtain ⟨x0, x1, x2, x3, x4, x5⟩ := cells3 HP.out.box
          subst hvb hvc
          clear hr hp hw HP hva hg hfs hne
          go_enter Tryz.func35, Tryz.ntmps35
          go_wp2_with fail
          refine HC1.out.mono ?_
          rintro e w1 ⟨rfl, rfl⟩
          clear HC1
          go_wp2_with fail
          refine HC2.out.mono ?_
          rintro e w1 ⟨rfl, rfl⟩
          clear HC2
          go_wp2_with fail
          refine HC3.out.mono ?_
          rintro e w1 ⟨rfl, rfl⟩
          clear HC3
          go_wp2_with fail
          refine (HO.out w HB0.out).mono ?_
          rintro e w' ⟨rfl, HB, HQ⟩
          go_wp2_with fail
          go_ret
          exact ⟨rfl, HB.out, HQ.out⟩
      · have HC3 : Hid (Calls Tryz.prog 59 #[.string ⟨t.toArray⟩, .string ⟨#[32, 32]⟩] w fun e w' => e = .returned (.tuple #[.string ⟨t.toArray⟩, .bool false]) ∧ w = w') := Lib.hid (pre_no t [32, 32] c3 w)
        have hr1 : itemW t = (funcW (Lib.split t [32])).map fun x => .f x.1 x.2 := by unfold itemW; rw [if_neg c1, if_neg c2, if_neg c3]
        rw [hr1] at hr
        clear hr1 c1 c2 c3
        have HO : Hid (AddAt 63 base bp t r w) := Lib.hid (add_at hp (by rw [hr]; cases funcW (Lib.split t [32]) <;> rfl) fun W hb => addFunc_any t ht W base bp va vb vc ⟨ds, ws, fs⟩ (hp.next hb) (hw.next hb) l3)
        unfold AddAt at HO
        clear hr hp hw HP hva
        go_enter Tryz.func35, Tryz.ntmps35
        go_wp2_with fail
        refine HC1.out.mono ?_
        rintro e w1 ⟨rfl, rfl⟩
        clear HC1
        go_wp2_with fail
        refine HC2.out.mono ?_
        rintro e w1 ⟨rfl, rfl⟩
        clear HC2
        go_wp2_with fail
        refine HC3.out.mono ?_
        rintro e w1 ⟨rfl, rfl⟩
        clear HC3
        go_wp2_with fail
        refine (HO.out w HB0.out).mono ?_
        rintro e w' ⟨rfl, HB, HQ⟩
        go_wp2_with fail
        go_ret
        exact ⟨rfl, HB.out, HQ.out⟩
end Go.Proofs.YtnhoeboighndlaaGreatDoor.pgm.asm

/-
  The library's Builder, and the program's writing of a line into it (typed over the code of 0aab59b): what it holds, and that no block turns but its own. Condition: less than a million bytes.
-/
namespace Go.Proofs.YtnhoeboighndlaaGreatDoor.pgm.asm
open Go.RowKit Go.ChangeShapes
open Go.Proofs.YtnhoeboighndlaaGreatDoor.pgm
open Go.Proofs.YtnhoeboighndlaaGreatDoor.octet (size_mk mk_append)
set_option linter.unusedVariables false

/-- A builder in the block b, its bytes in a block from B on. -/
def BldAt (w : World) (B b : Nat) (l : List UInt8) : Prop := Lib.IsBuilder 58 5 B b (Lib.byteCells l) w
theorem bld_lt {w : World} {B b : Nat} {l : List UInt8} (h : BldAt w B b l) : B ≤ b ∧ b < w.heap.size := by
  rcases h with h | h
  · exact ⟨h.1, h.lt⟩
  · exact ⟨h.1, h.lt⟩
theorem builderAt_next {w w' : World} {B b : Nat} {p : Value} {bs : List Value} (h : Lib.BuilderAt 58 5 B b p bs w) (hb : Below w.heap.size w w') : Lib.BuilderAt 58 5 B b p bs w' := by
  have hlt := h.lt
  obtain ⟨hB, v, h1, h2, h3⟩ := h
  refine ⟨hB, v, (hb.block b hlt).trans h1, ⟨h2.1, h2.2.imp id ?_⟩, h3⟩
  rintro ⟨g, c, cur, rfl, hg, hh, r⟩
  exact ⟨g, c, cur, rfl, hg, (hb.block g (lt_of_block hh)).trans hh, r⟩
theorem BldAt.next {w w' : World} {B b : Nat} {l : List UInt8} (h : BldAt w B b l) (hb : Below w.heap.size w w') : BldAt w' B b l := h.imp (builderAt_next · hb) (builderAt_next · hb)
theorem bld_new (w : World) : BldAt (w.alloc (.cells #[.pointer none, .slice none 0 0] 58)) w.heap.size w.heap.size [] := Lib.fresh_isBuilder _ _ w
/-- What a call that writes into the builder turns: its block, and a block of bytes. -/
structure Wr (B b : Nat) (w w' : World) : Prop where
  below : Below B w w'
  keep : ∀ k, k < w.heap.size → k ≠ b → (∀ cs fr, w.heap[k]? ≠ some (.cells cs 5 fr)) → w'.heap[k]? = w.heap[k]?
theorem Wr.refl (B b : Nat) (w : World) : Wr B b w w := ⟨Below.refl _ _, fun _ _ _ _ => rfl⟩
theorem Wr.trans {B b : Nat} {u v w : World} (h : Wr B b u v) (k : Wr B b v w) : Wr B b u w := by
  refine ⟨h.below.trans k.below, fun j hj hb ht => ?_⟩
  have e := h.keep j hj hb ht
  exact (k.keep j (Nat.lt_of_lt_of_le hj h.below.size) hb (by rw [e]; exact ht)).trans e
theorem Wr.of_below {B b : Nat} {w w' : World} (h : Below w.heap.size w w') (hB : B ≤ w.heap.size) : Wr B b w w' := ⟨h.mono hB, fun k hk _ _ => h.block k hk⟩
theorem infoU8 : (Tryz.prog.info? 5).map (fun i => (i.zero, i.size, i.bytes)) = some (some (.int .u8 0), 1, 1) := by kernel_rfl

theorem check_b (B b : Nat) (bs : List Value) (w : World) (h : Lib.IsBuilder 58 5 B b bs w) :
    Calls Tryz.prog 69 #[.pointer (some ⟨b, 0, none⟩)] w fun e w' => e = .returned (.tuple #[]) ∧ Lib.BuilderAt 58 5 B b (.pointer (some ⟨b, 0, none⟩)) bs w' ∧ Wr B b w w' := by
  rcases h with h | h
  · have hc := Any.Builder_copyCheck_fresh (P := Tryz.prog) (ρ := Tryz.lays156_ren) { Tryz.lays156 with } Tryz.Builder_Extra_156.toX72 b w h.cell0 h.shape h.frozen0
    refine (show Calls Tryz.prog 69 _ w _ from hc).mono ?_
    rintro e w' ⟨rfl, rfl⟩
    exact ⟨rfl, h.used _, (Below.refl B w).setCell (p := ⟨b, 0, none⟩) h.1 _, fun k _ hk _ => Below.heap_setCell _ ⟨b, 0, none⟩ _ k hk⟩
  · have hc := Any.Builder_copyCheck_used (P := Tryz.prog) (ρ := Tryz.lays156_ren) { Tryz.lays156 with } Tryz.Builder_Extra_156.toX72 b w h.cell0
    refine (show Calls Tryz.prog 69 _ w _ from hc).mono ?_
    rintro e w' ⟨rfl, rfl⟩
    exact ⟨rfl, h, Wr.refl _ _ _⟩

set_option maxHeartbeats 2000000 in
set_option maxRecDepth 100000 in
theorem wstr_any (B b : Nat) (l s : List UInt8) (w : World) (h : BldAt w B b l) (hlen : l.length + s.length ≤ 1000000) (hBw : B ≤ w.heap.size) :
    Calls Tryz.prog 42 #[.pointer (some ⟨b, 0, none⟩), .string ⟨s.toArray⟩] w fun e w' => e = .returned (.tuple #[.int .i64 (s.length : Nat), .nilIface]) ∧ BldAt w' B b (l ++ s) ∧ Wr B b w w' := by
  obtain ⟨i0, hi, hz0, hz1, hz2⟩ := info_parts infoU8
  have HC := Lib.hid (check_b B b (Lib.byteCells l) w h)
  have hbl : (Lib.byteCells l).length = l.length := Lib.byteCells_length l
  have hsz := size_mk s
  obtain ⟨x, hx⟩ : ∃ x, x = ByteArray.mk s.toArray := ⟨_, rfl⟩
  rw [← hx] at hsz ⊢
  have HB : Hid (Lib.byteCells (l ++ s) = Lib.byteCells l ++ Lib.strCells x) := Lib.hid (by rw [Lib.byteCells_append, hx]; rfl)
  unfold BldAt
  rw [HB.out]
  generalize Lib.byteCells l = bs at *
  clear h hx
  go_enter Tryz.func42, Tryz.ntmps42
  go_wp2_with fail
  refine HC.out.mono ?_
  rintro e w1 ⟨rfl, h1, hw1⟩
  have HW1 := Lib.hid hw1
  obtain ⟨hB, v, hbk, hown, hne⟩ := h1
  have c0 : w1.cell? ⟨b, 0, none⟩ = some (.pointer (some ⟨b, 0, none⟩)) := by rw [Lib.cell_of_heap hbk]; rfl
  have c1 : w1.cell? ⟨b, 1, none⟩ = some v := by rw [Lib.cell_of_heap hbk]; rfl
  clear hw1
  go_wp2_with (at_builtin; refine Lib.wpList_append_own_string _ rfl _ _ 56 9 rfl B 5 i0 Tryz.underlying56 Tryz.underlying9 hi hz0 hz1 hz2 _ _ _ rfl hown x rfl ?c3 ?c4 ?c5 ?_)
  case c3 => unfold maxLen; omega
  case c4 => omega
  case c5 => have := HW1.out.below.size; omega
  intro v' w2 hown' hgrow _
  have hlt : b < w1.heap.size := lt_of_block hbk
  have hb2 : w2.heap[b]? = some (.cells #[.pointer (some ⟨b, 0, none⟩), v] 58 (0, 0)) := by
    rw [hgrow.block b hlt (fun e => hne e.symm)]
    exact hbk
  have d0 : w2.cell? ⟨b, 0, none⟩ = some (.pointer (some ⟨b, 0, none⟩)) := by rw [Lib.cell_of_heap hb2]; rfl
  have d1 : w2.cell? ⟨b, 1, none⟩ = some v := by rw [Lib.cell_of_heap hb2]; rfl
  have f1 : w2.frozen? ⟨b, 1, none⟩ = false := Lib.frozen_of_heap hb2 1
  obtain ⟨ao, n', cap, rfl⟩ : ∃ ao n' cap, v' = .slice ao n' cap := by
    rcases hown'.2 with ⟨hv, _⟩ | ⟨g, cap, cur, hv, _⟩
    · exact ⟨_, _, _, hv⟩
    · exact ⟨_, _, _, hv⟩
  have hWr : Hid (Wr B b w (w2.setCell ⟨b, 1, none⟩ (.slice ao n' cap))) := Lib.hid (by
    refine HW1.out.trans ⟨((Below.refl B w1).grown hgrow (by have := HW1.out.below.size; omega) (fun k hk => (hown.lt k hk).1)).setCell (p := ⟨b, 1, none⟩) hB _, fun k hk hkb ht => ?_⟩
    rw [Below.heap_setCell _ ⟨b, 1, none⟩ _ k hkb]
    refine hgrow.block k hk fun e => ?_
    rcases hown.2 with ⟨rfl, _⟩ | ⟨g, cap', cur, rfl, _, hh, _⟩
    · cases e
    · simp [Value.ownBlock] at e
      subst e
      exact ht _ _ hh)
  have hPut : Hid (Lib.BuilderAt 58 5 B b (.pointer (some ⟨b, 0, none⟩)) (bs ++ Lib.strCells x) (w2.setCell ⟨b, 1, none⟩ (.slice ao n' cap))) := Lib.hid
    (Lib.BuilderAt.put (T := 58) (e := 5) hB hb2 (bs' := bs ++ Lib.strCells x) (by rw [show (bs ++ Lib.strCells x).length = l.length + s.length by rw [List.length_append, Lib.strCells_length, hbl, hsz]]; exact hown') (by decide))
  clear hown hown' hgrow hne hbk hb2
  go_wp2
  go_ret2
  exact ⟨rfl, .inr hPut.out, hWr.out⟩

set_option maxRecDepth 100000 in
theorem write_any (B b : Nat) (l s : List UInt8) (w : World) (h : BldAt w B b l) (hlen : l.length + s.length ≤ 900000) (hBw : B ≤ w.heap.size) :
    Calls Tryz.prog 20 #[.pointer (some ⟨b, 0, none⟩), .string ⟨s.toArray⟩] w fun e w' => e = .returned (.tuple #[]) ∧ BldAt w' B b (l ++ s ++ [10]) ∧ Wr B b w w' := by
  have H1 := Lib.hid (wstr_any B b l s w h (by omega) hBw)
  have H2 := fun W hW hB => Lib.hid (wstr_any B b (l ++ s) [10] W hW (by rw [List.length_append]; simp; omega) hB)
  have HB := Lib.hid hBw
  clear h hlen hBw
  go_enter Tryz.func20, Tryz.ntmps20
  go_wp2_with fail
  refine H1.out.mono ?_
  rintro e w1 ⟨rfl, h1, hw1⟩
  have HW1 := Lib.hid hw1
  have H3 := H2 w1 h1 (Nat.le_trans HB.out hw1.below.size)
  clear h1 hw1 H2
  go_wp2_with fail
  refine H3.out.mono ?_
  rintro e w2 ⟨rfl, h2, hw2⟩
  have HW2 := Lib.hid (HW1.out.trans hw2)
  have HB2 := Lib.hid h2
  clear h2 hw2
  go_wp2
  go_end0
  exact ⟨rfl, HB2.out, HW2.out⟩
end Go.Proofs.YtnhoeboighndlaaGreatDoor.pgm.asm
