/-
  The document's list, and all that are due of it. No condition.
-/
import Derived.Test.YtfhkaedpbandiaaTRefDue
namespace Go.Proofs.Ytfhkaedpbandiaa.timer
open Go.RowKit
attribute [local go_sem ↓] Go.wp_at_zero Go.wp_at_succ

theorem OwnI.made (w : World) (base : Nat) (h : base ≤ w.heap.size) : OwnI (w.alloc (.cells #[] 3)) base (.slice (some ⟨w.heap.size, 0, none⟩) 0 0) [] :=
  ⟨rfl, .inr ⟨w.heap.size, 0, #[], rfl, h, heap_alloc_new w _, Nat.le_refl _, Nat.zero_le _, rfl, rfl⟩⟩
theorem Row.tag {T : TypeId} {w : World} {base b cap : Nat} {l : List E} (h : Row T w base b cap l) : ∃ cur, w.heap[b]? = some (.cells cur T (0, 0)) := by
  rcases h.2 with ⟨h, _⟩ | ⟨_, _, cur, h, _, hh, _⟩
  · simp at h
  · simp only [Value.slice.injEq, Option.some.injEq, Addr.mk.injEq, and_true] at h
    rw [← h.1] at hh
    exact ⟨cur, hh⟩
theorem OwnI.ne {w : World} {base base' b cap : Nat} {v : Value} {l : List Int} {m : List E} (h : OwnI w base v l) (k : Row 57 w base' b cap m) : v.ownBlock ≠ some b := by
  intro e
  obtain ⟨cur, hk⟩ := k.tag
  rcases h.2 with ⟨rfl, _⟩ | ⟨g1, _, _, rfl, _, hh, _⟩
  · simp [Value.ownBlock] at e
  · simp [Value.ownBlock] at e
    subst e
    rw [hk] at hh
    simp at hh
def RDue (w : World) (m : List E) (now : Int) (e : Ending) (w' : World) : Prop :=
  ∃ v gg cap, e = .returned (.tuple #[v, .slice (some ⟨gg, 0, none⟩) (due m now).2.length cap]) ∧ OwnI w' w.heap.size v (due m now).1 ∧ Row 57 w' 0 gg cap (due m now).2 ∧ Below w.heap.size w w'
def RGHead (w : World) (m : List E) (now : Int) (s v : Value) (wr : World) : Prop :=
  ∃ (mc : List E) (out : List Int) (gg cap : Nat), s = .slice (some ⟨gg, 0, none⟩) mc.length cap ∧ Row 57 wr 0 gg cap mc ∧ OwnI wr w.heap.size v out ∧ Below w.heap.size w wr ∧
    due m now = (out ++ (due mc now).1, (due mc now).2) ∧ out.length + mc.length ≤ m.length

set_option maxHeartbeats 2000000 in
theorem refDue_any (w : World) (b cp : Nat) (m : List E) (now : Int) (hr : Row 57 w 0 b cp m) (hm : m.length ≤ 4000) :
    Calls Try.prog 13 #[.slice (some ⟨b, 0, none⟩) m.length cp, .int .i64 now] w (RDue w m now) := by
  have H0 : Hid (RGHead w m now (.slice (some ⟨b, 0, none⟩) m.length cp) (.slice (some ⟨w.heap.size, 0, none⟩) 0 0) (w.alloc (.cells #[] 3))) :=
    ⟨m, [], b, cp, rfl, hr.keep (Below.heap_alloc _ _ _ hr.lt.2), OwnI.made w _ (Nat.le_refl _), (Below.refl _ _).alloc (Nat.le_refl _) _, rfl, by simp⟩
  clear hr
  go_enter Try.func13, Try.ntmps13
  go_wp2_with fail
  go_loopw [0, 6] (RGHead w m now) (fun s _ _ => lenOf s)
  case atStart => exact H0.out
  case round =>
    clear H0
    obtain ⟨mc, out, gg, cap, rfl, hrow, hv, hb, hd, hlen⟩ := hrel
    have hfi := refFirst_any wr gg cap mc hrow (by omega)
    have HR := Lib.hid hrow
    have HV := Lib.hid hv
    have HB := Lib.hid hb
    clear hrow hv hb
    go_wp2_with fail
    refine hfi.mono ?_
    rintro e w1 ⟨⟨n, hdr⟩, hor⟩
    have hrow : Row 57 w1 0 gg cap mc := by subst hdr; exact HR.out.keep rfl
    have hv : OwnI w1 w.heap.size u6 out := by subst hdr; exact HV.out.keep fun _ _ _ _ => rfl
    have hb : Below w.heap.size w w1 := by subst hdr; exact below_drewN HB.out n
    clear hfi HR HV HB hdr
    rcases hor with ⟨rfl, rfl⟩ | ⟨k, rfl, hk, hgk⟩
    · rw [due_none (.inl rfl), List.append_nil] at hd
      have HT : Hid (RDue w m now (.returned (.tuple #[u6, .slice (some ⟨gg, 0, none⟩) ([] : List E).length cap])) w1) := by
        refine ⟨u6, gg, cap, ?_, ?_, ?_, hb⟩
        · rw [hd]
        · rw [hd]; exact hv
        · rw [hd]; exact hrow
      clear hd hv hrow hb
      go_wp2_with fail
      go_ret2
      exact HT.out
    · obtain ⟨c0, c1, _, _⟩ := hrow.cells hk
      have hne : mc ≠ [] := by rintro rfl; simp at hk
      have hmem := least_mem hne
      have k1 : (0 : Int) ≤ (k : Int) := by omega
      have k2 : (k : Int) < (mc.length : Int) := by omega
      have k3 : decide ((k : Int) < 0) = false := by simp
      rw [hgk] at c0 c1
      by_cases hat : now < (least mc).2
      · rw [due_none (.inr hat), List.append_nil] at hd
        have HT : Hid (RDue w m now (.returned (.tuple #[u6, .slice (some ⟨gg, 0, none⟩) mc.length cap])) w1) := by
          refine ⟨u6, gg, cap, ?_, ?_, ?_, hb⟩
          · rw [hd]
          · rw [hd]; exact hv
          · rw [hd]; exact hrow
        clear hd hv hrow hb hgk hmem hne
        generalize least mc = e0 at *
        have h5 : decide (e0.2 > now) = true := by simpa using hat
        go_wp2_with fail
        go_ret2
        exact HT.out
      · rw [due_some (fun h => h.elim hne hat)] at hd
        have hll := drop_lt hmem
        have hgl := hrow.lt
        have hbs := hb.size
        have hown : ∀ j, u6.ownBlock = some j → w.heap.size ≤ j := fun j hj => (World.ownsRow.lt hv j hj).1
        have hv1 : OwnI (w1.alloc (.cells #[.int .i64 (least mc).1] 3)) w.heap.size u6 out := hv.keep fun b _ h2 _ => Below.heap_alloc _ _ _ h2
        have hsrc := heap_alloc_new w1 (.cells #[.int .i64 (least mc).1] 3)
        have hl4 : out.length ≤ 100000 := by omega
        have hnb := hv.ne hrow
        have HE : Hid (due m now = ((out ++ [(least mc).1]) ++ (due (drop mc (least mc).1) now).1, (due (drop mc (least mc).1) now).2) ∧ (out ++ [(least mc).1]).length + (drop mc (least mc).1).length ≤ m.length) := by
          refine ⟨by rw [hd]; simp, by rw [List.length_append, List.length_singleton]; omega⟩
        have HR := Lib.hid hrow
        have hb1 := hb.alloc hbs (.cells #[.int .i64 (least mc).1] 3)
        have HB := Lib.hid hb1
        have hdr := fun W h => refDrop_any W gg cap mc (least mc).1 h (by omega)
        have hat2 : (least mc).2 ≤ now := by omega
        clear hd hrow hv hb hgk hmem hne hat hb1
        generalize drop mc (least mc).1 = md at *
        generalize least mc = e0 at *
        have h5 : decide (e0.2 > now) = false := by simp; omega
        go_wp2_with (at_builtin; refine wpList_appI (by rfl) (.tmp 24) (.tmp 30) (by rfl) w.heap.size w1.heap.size u6 out e0.1 (by rfl) hv1 (by rfl) hsrc hl4 (by simp; omega) ?_)
        intro g2 cap2 w2 hv2 hg _
        have e1 : w2.heap[gg]? = w1.heap[gg]? := (hg.block gg (by simp; omega) (fun e => hnb e.symm)).trans (Below.heap_alloc _ _ _ hgl.2)
        have d0 : w2.cell? ⟨gg, k * 2, none⟩ = some (.int .i64 e0.1) := (World.cell?_of_block (a := ⟨gg, k * 2, none⟩) e1).trans c0
        have hdr2 := hdr w2 (HR.out.keep e1)
        have hb2 := HB.out.grown hg (by simp; omega) (fun j e => hown j e)
        have HV2 := Lib.hid hv2
        have HB2 := Lib.hid hb2
        clear hdr e1 hv2 hb2 hg hv1 hsrc hown hnb c0 c1 HR HB
        go_wp2_with fail
        refine hdr2.mono ?_
        rintro e w3 ⟨g3, cap3, rfl, hr3, hb3⟩
        have HT : Hid (RGHead w m now (.slice (some ⟨g3, 0, none⟩) md.length cap3) (.slice (some ⟨g2, 0, none⟩) (out.length + 1) cap2) w3) :=
          ⟨md, out ++ [e0.1], g3, cap3, rfl, hr3.base (Nat.zero_le _), HV2.out.keep fun b _ h2 _ => hb3.block b h2, HB2.out.trans (hb3.mono HB2.out.size), HE.out.1, HE.out.2⟩
        clear hdr2 d0 hr3 hb3 HV2 HB2
        go_wp2_with fail
        exact ⟨HT.out, by simp [lenOf]; exact hll⟩
end Go.Proofs.Ytfhkaedpbandiaa.timer
