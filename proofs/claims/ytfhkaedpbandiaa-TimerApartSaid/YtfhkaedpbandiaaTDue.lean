/-
  All that are due, taken one behind the other. No condition.
-/
import Derived.Test.YtfhkaedpbandiaaTDrop
namespace Go.Proofs.Ytfhkaedpbandiaa.timer
open Go.RowKit
attribute [local go_sem ↓] Go.wp_at_zero Go.wp_at_succ

theorem Lies.wf {w : World} {bt bh bm : Nat} {m : List E} (o : Lies w bt bh bm m) : ∀ e ∈ m, Wf e.1 := by
  rcases o with ⟨_, rfl, _⟩ | ⟨cap, h, p, N, o, r⟩
  · simp
  · intro e he
    obtain ⟨k, hk, rfl⟩ := mem_g (r.perm.mem_iff.2 he)
    exact o.wf k hk
theorem first_any (w : World) (bt bh bm : Nat) (m : List E) (o : Lies w bt bh bm m) :
    Calls Try.prog 17 #[.pointer (some ⟨bt, 0, none⟩)] w fun e w' => e = .returned (.tuple #[.int .i64 (least m).1, .int .i64 (least m).2, .bool (!m.isEmpty)]) ∧ ∃ n, w' = w.drewN n := by
  rcases o with ⟨h, rfl, _⟩ | ⟨cap, h, p, N, o, r⟩
  · exact first_none w bt 0 none (by simp [World.cell?, h])
  · by_cases h0 : 0 < h.length
    · have hm : m.isEmpty = false := by
        rw [List.isEmpty_eq_false_iff]
        rintro rfl
        have := r.len
        rw [List.length_nil] at this
        omega
      rw [← r.first h0, hm]
      exact first_some w bt bh bm cap h p N o h0
    · have hm : m = [] := List.eq_nil_of_length_eq_zero (by have := r.len; omega)
      subst hm
      have c0 := o.cells.1
      rw [show h.length = 0 by omega] at c0
      exact first_none w bt cap _ c0

def ints (l : List Int) : List Value := l.map (Value.int .i64)
theorem ints_length (l : List Int) : (ints l).length = l.length := by simp [ints]
/-- A slice's value of numbers, nil or a row of a call's own. -/
def OwnI (w : World) (base : Nat) (v : Value) (l : List Int) : Prop := w.ownsRow base 3 1 v l.length (ints l)
theorem OwnI.nil (w : World) (base : Nat) : OwnI w base (.slice none 0 0) [] := World.ownsRow_nil ..
theorem OwnI.keep {w w' : World} {base : Nat} {v : Value} {l : List Int} (h : OwnI w base v l) (hk : ∀ b, base ≤ b → b < w.heap.size → v.ownBlock = some b → w'.heap[b]? = w.heap[b]?) : OwnI w' base v l := by
  refine ⟨h.1, h.2.imp id ?_⟩
  rintro ⟨g1, c1, cur, e, hb, hh, r⟩
  exact ⟨g1, c1, cur, e, hb, (hk g1 hb (lt_of_block hh) (by rw [e]; rfl)).trans hh, r⟩
theorem OwnI.base {w : World} {base base' : Nat} {v : Value} {l : List Int} (h : OwnI w base v l) (hb : base' ≤ base) : OwnI w base' v l := by
  refine ⟨h.1, h.2.imp id ?_⟩
  rintro ⟨g1, c1, cur, e, hb1, r⟩
  exact ⟨g1, c1, cur, e, Nat.le_trans hb hb1, r⟩
def lenOf : Value → Nat
  | .slice _ n _ => n
  | _ => 0
theorem OwnI.len {w : World} {base : Nat} {v : Value} {l : List Int} (h : OwnI w base v l) : lenOf v = l.length := by
  rcases h.2 with ⟨rfl, h0⟩ | ⟨_, _, _, rfl, _⟩
  · exact h0.symm
  · rfl
theorem OwnI.form {w : World} {base : Nat} {v : Value} {l : List Int} (h : OwnI w base v l) : ∃ a cap, v = .slice a l.length cap ∧ (0 < l.length → ∃ g, a = some ⟨g, 0, none⟩ ∧ base ≤ g ∧ g < w.heap.size ∧ ∀ j, j < l.length → w.cell? ⟨g, j, none⟩ = some (.int .i64 (l.getD j 0))) := by
  have h0 := h
  rcases h.2 with ⟨rfl, h1⟩ | ⟨g, cap, cur, rfl, hb, hg, _⟩
  · exact ⟨none, 0, by rw [h1], fun h2 => by omega⟩
  · refine ⟨_, cap, rfl, fun _ => ⟨g, rfl, hb, lt_of_block hg, fun j hj => ?_⟩⟩
    rw [World.ownsRow.cellAt h0 j (by omega)]
    simp [ints, List.getD, hj]

theorem infoI : (Try.prog.info? 3).map (fun i => (i.zero, i.size, i.bytes)) = some (some (.int .i64 0), 1, 8) := by kernel_rfl
theorem ints_oneCell (l : List Int) : ∀ u ∈ ints l, u.oneCell' = true := by
  intro u hu
  simp [ints] at hu
  obtain ⟨x, _, rfl⟩ := hu
  rfl
theorem wpList_appI {ops : Array Oper} {rest : List Oper} {o : Oper} {a : Act} {w : World} {Q : Exit → Act → World → Prop} (hgd : o.guard = none) (s x : Operand)
    (ho : o.op = .call { callee := .builtin .append, args := #[s, x], argTypes := #[36, 36] }) (base sb : Nat) (v : Value) (l : List Int) (y : Int)
    (hs : a.eval s = v) (hrow : OwnI w base v l) (hx : a.eval x = .slice (some ⟨sb, 0, none⟩) 1 1) (hsrc : w.heap[sb]? = some (.cells #[.int .i64 y] 3 (0, 0))) (hlen : l.length ≤ 100000) (hbase : base ≤ w.heap.size)
    (h : ∀ g cap w', OwnI w' base (.slice (some ⟨g, 0, none⟩) (l.length + 1) cap) (l ++ [y]) → w.grownBy w' v.ownBlock → (v.ownBlock = some g ∨ g = w.heap.size) → wpList Try.prog ops Q rest (a.put o.dst (.slice (some ⟨g, 0, none⟩) (l.length + 1) cap)) w') : wpList Try.prog ops Q (o :: rest) a w := by
  refine wpList_plain hgd fun _ hK => ?_
  obtain ⟨i, hi, hz0, hz1, hz2⟩ := info_parts infoI
  obtain ⟨g, cap, w', h1, h2, h3, h4, _⟩ := run_append_lies (P := Try.prog) w 36 o.type base 3 i _ 1 8 Try.underlying36 hi hz0 hz1 hz2 rfl (by omega) v l.length (ints l) hrow ⟨sb, 0, none⟩ 1 1 (ints [y]) rfl (fun j u hu => by
    have hj : j = 0 := by
      have := (List.getElem?_eq_some_iff.1 hu).1
      simp [ints] at this
      exact this
    subst hj
    rw [← hu, Addr.add_lit, cell_of_row w sb _ _ _ _ hsrc]
    rfl) (ints_oneCell _) (by omega) (by unfold maxLen; omega) (by omega) hbase _ rfl
  unfold Oper.wp execOp
  simp only [ho, resolve, invoke, builtin, Sem.run_bind, Sem.run_pure, Result.andThen_ok, List.map_toArray, List.map_cons, List.map_nil, hs, hx, h1]
  refine hK _ _ (h g cap w' ?_ h3 h4)
  unfold OwnI
  rw [List.length_append, List.length_singleton, show ints (l ++ [y]) = ints l ++ ints [y] by simp [ints]]
  exact h2

/-- What holds at each round's head. -/
def DHead (w : World) (bt bh bm : Nat) (m : List E) (now : Int) (v a b c : Value) (wr : World) : Prop :=
  ∃ (mc : List E) (out : List Int), OwnI wr w.heap.size v out ∧ a = .int .i64 (least mc).1 ∧ b = .int .i64 (least mc).2 ∧ c = .bool (!mc.isEmpty) ∧ Lies wr bt bh bm mc ∧ Frm bt bh bm w wr ∧
    due m now = (out ++ (due mc now).1, (due mc now).2) ∧ out.length + mc.length ≤ m.length

set_option maxHeartbeats 2000000 in
theorem due_any (w : World) (bt bh bm : Nat) (m : List E) (now : Int) (o : Lies w bt bh bm m) (hm : m.length ≤ 4000) :
    Calls Try.prog 12 #[.pointer (some ⟨bt, 0, none⟩), .int .i64 now] w fun e w' => ∃ v, e = .returned v ∧ OwnI w' w.heap.size v (due m now).1 ∧ Lies w' bt bh bm (due m now).2 ∧ Frm bt bh bm w w' := by
  have hf := first_any w bt bh bm m o
  have HO := Lib.hid o
  have hlt := o.lt
  clear o
  go_enter Try.func12, Try.ntmps12
  go_wp2_with fail
  refine hf.mono ?_
  rintro e w1 ⟨rfl, n, rfl⟩
  have H0 : Hid (DHead w bt bh bm m now (.slice none 0 0) (.int .i64 (least m).1) (.int .i64 (least m).2) (.bool (!m.isEmpty)) (w.drewN n)) :=
    ⟨m, [], OwnI.nil _ _, rfl, rfl, rfl, HO.out.drewN n, (Frm.refl _ _ _ _).drewN n, rfl, by simp⟩
  clear hf HO
  go_wp2_with fail
  go_loopw [5, 6, 7, 8] (DHead w bt bh bm m now) (fun v _ _ _ _ => m.length - lenOf v)
  case atStart => exact H0.out
  case round =>
    clear H0
    obtain ⟨mc, out, hv, rfl, rfl, rfl, hl, hfr, hd, hlen⟩ := hrel
    by_cases hc : mc = [] ∨ now < (least mc).2
    · rw [due_none hc, List.append_nil] at hd
      have HR : Hid (OwnI wr w.heap.size u5 (due m now).1 ∧ Lies wr bt bh bm (due m now).2 ∧ Frm bt bh bm w wr) := by
        rw [hd]
        exact ⟨hv, hl, hfr⟩
      clear hv hl hfr hd hlen
      by_cases hc2 : mc = []
      · have e1 : mc.isEmpty = true := by simp [hc2]
        rw [e1]
        clear hc hc2 e1
        go_wp2_with fail
        go_ret
        exact ⟨u5, rfl, HR.out⟩
      · have e1 : mc.isEmpty = false := by simp [hc2]
        have e2 : now < (least mc).2 := hc.resolve_left hc2
        rw [e1]
        generalize least mc = e0 at *
        clear hc hc2 e1
        have e3 : decide (e0.2 ≤ now) = false := by simp; omega
        go_wp2_with fail
        go_ret
        exact ⟨u5, rfl, HR.out⟩
    · have hc1 : mc ≠ [] := fun h => hc (.inl h)
      have hc2 : (least mc).2 ≤ now := by have : ¬ now < (least mc).2 := fun h => hc (.inr h); omega
      have e1 : mc.isEmpty = false := by simp [hc1]
      have hmem := least_mem hc1
      rw [due_some hc] at hd
      rw [e1]
      have hwx := hl.wf _ hmem
      have hll := drop_lt hmem
      have hvl := hv.len
      have hown : ∀ k, u5.ownBlock = some k → w.heap.size ≤ k := fun k hk => (World.ownsRow.lt hv k hk).1
      have hbs := hfr.size
      have hv1 : OwnI (wr.alloc (.cells #[.int .i64 (least mc).1] 3)) w.heap.size u5 out := hv.keep fun b _ h2 _ => Below.heap_alloc _ _ _ h2
      have hsrc := heap_alloc_new wr (.cells #[.int .i64 (least mc).1] 3)
      have HD := Lib.hid fun W (h : Lies W bt bh bm mc) => (drop_any W bt bh bm mc h (least mc).1 hwx).resolve_right (fun h => h.1 _ hmem rfl)
      have hl1 := hl.keep (w' := wr.alloc (.cells #[.int .i64 (least mc).1] 3)) (Below.heap_alloc _ _ _ hl.lt.1) (Below.heap_alloc _ _ _ hl.lt.2.1) (Below.heap_alloc _ _ _ hl.lt.2.2)
      have hf1 := hfr.alloc (.cells #[.int .i64 (least mc).1] 3)
      have HL1 := Lib.hid hl1
      have HF1 := Lib.hid hf1
      have HE : Hid (due m now = ((out ++ [(least mc).1]) ++ (due (drop mc (least mc).1) now).1, (due (drop mc (least mc).1) now).2) ∧ (out ++ [(least mc).1]).length + (drop mc (least mc).1).length ≤ m.length ∧ lenOf u5 = out.length ∧ out.length < m.length) := by
        refine ⟨by rw [hd]; simp, by rw [List.length_append, List.length_singleton]; omega, hvl, by omega⟩
      clear hl hfr hd hll hv hwx hmem hc hvl hl1 hf1 e1
      generalize drop mc (least mc).1 = md at *
      generalize least mc = e0 at *
      have e3 : decide (e0.2 ≤ now) = true := by simp; omega
      go_wp2_with (at_builtin; refine wpList_appI (by rfl) (.tmp 27) (.tmp 29) (by rfl) w.heap.size wr.heap.size u5 out e0.1 (by rfl) hv1 (by rfl) hsrc (by have := HE.out.2.2.2; omega) (by simp; omega) ?_)
      intro gg cap w2 hv2 hg hor
      have hgg : w.heap.size ≤ gg := by
        rcases hor with h1 | h1
        · exact hown _ h1
        · omega
      have hk2 : ∀ k, k < w.heap.size → w2.heap[k]? = (wr.alloc (.cells #[.int .i64 e0.1] 3)).heap[k]? := fun k hk => hg.block k (by simp; omega) (fun e => by have := hown k e.symm; omega)
      have hl2 := HL1.out.keep (w' := w2) (hk2 _ hlt.1) (hk2 _ hlt.2.1) (hk2 _ hlt.2.2)
      have hf2 : Frm bt bh bm w w2 := ⟨hg.os.trans HF1.out.os, hg.tape.trans HF1.out.tape, hg.output.trans HF1.out.output, Nat.le_trans HF1.out.size hg.size, fun k hk h1 h2 h3 => (hk2 k hk).trans (HF1.out.block k hk h1 h2 h3)⟩
      obtain ⟨_, hdr⟩ := HD.out w2 hl2
      have HF2 := Lib.hid hf2
      have HV2 := Lib.hid hv2
      clear hk2 hl2 hf2 hv2 hg hor hown hv1 hsrc HL1 HF1 HD
      go_wp2_with fail
      refine hdr.mono ?_
      rintro e w3 ⟨rfl, hl3, hf3⟩
      have hv3 : OwnI w3 w.heap.size (.slice (some ⟨gg, 0, none⟩) (out.length + 1) cap) (out ++ [e0.1]) := HV2.out.keep fun b h1 h2 _ => hf3.block b h2 (by omega) (by omega) (by omega)
      have hfi := first_any w3 bt bh bm md hl3
      have HL3 := Lib.hid hl3
      have HV3 := Lib.hid hv3
      have HF3 := Lib.hid (HF2.out.and hf3)
      clear hdr hl3 hf3 hv3 HV2 HF2
      go_wp2_with fail
      refine hfi.mono ?_
      rintro e w4 ⟨rfl, n4, rfl⟩
      have HT : Hid (DHead w bt bh bm m now (.slice (some ⟨gg, 0, none⟩) (out.length + 1) cap) (.int .i64 (least md).1) (.int .i64 (least md).2) (.bool (!md.isEmpty)) (w3.drewN n4)) :=
        ⟨md, out ++ [e0.1], HV3.out.keep fun _ _ _ _ => rfl, rfl, rfl, rfl, HL3.out.drewN n4, HF3.out.drewN n4, HE.out.1, HE.out.2.1⟩
      clear hfi HL3 HV3 HF3
      go_wp2_with fail
      exact ⟨HT.out, by simp [lenOf]; have := HE.out.2.2; unfold lenOf at this; omega⟩
end Go.Proofs.Ytfhkaedpbandiaa.timer
