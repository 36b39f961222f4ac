/-
  The document's own frames with another local, or at another place. At most a thousand frames, each of twenty-seven numbers.
-/
import Derived.Test.YtphcffbbdpbkfaaFRefPush
namespace Go.Proofs.Ytphcffbbdpbkfaa.frames
open Go.RowKit Go.ChangeShapes
open Go.Proofs.Ytphcffbbdpbkfaa.word (low refLow_any)
set_option linter.unusedVariables false
set_option linter.unusedSimpArgs false

/-- Frames. -/
def FrsPost (x : List Fr) (w : World) (e : Ending) (w' : World) : Prop :=
  ∃ A c, e = .returned (.slice A x.length c) ∧ In w' A c x ∧ Below w.heap.size w w'

set_option maxRecDepth 100000 in
set_option maxHeartbeats 4000000 in
theorem refStore_any (A : Option Addr) (c : Nat) (l : List Fr) (k v : Int) (w : World) (hI : In w A c l) :
    Calls Try.prog 30 #[.slice A l.length c, .int .i64 k, .int .i64 v] w (FrsPost (storeF l k v) w) := by
  obtain ⟨r, hr⟩ : ∃ r, r = storeF l k v := ⟨_, rfl⟩
  rw [← hr]
  unfold storeF at hr
  unfold FrsPost
  have HI := Lib.hid hI
  by_cases h0 : l.length = 0
  · rw [if_pos (.inl h0)] at hr
    rw [hr]
    obtain rfl := List.eq_nil_of_length_eq_zero h0
    clear h0 hI hr
    go_enter Try.func30, Try.ntmps30
    go_wp2
    go_ret
    exact ⟨A, c, rfl, HI.out, Below.refl _ _⟩
  · obtain ⟨b, off, m, rfl, hm, hb, hF, hl27⟩ := hI.top h0
    have hlen := hI.len
    have hcap := hI.cap
    have e0 : (((m + 1 : Nat) : Int) == 0) = false := by simp; omega
    have H0 := Lib.hid h0
    rw [hm] at hlen hcap
    have k0 : (0 : Int) ≤ (m : Int) := by omega
    have k1 : (m : Int) < ((m + 1 : Nat) : Int) := by omega
    have k2 : (m : Int) < (m : Int) + 1 := by omega
    have hw0 : IntKind.i64.wrap ((m : Int) + 1 - 1) = (m : Int) := by rw [IntKind.wrap_i64]; omega
    have hw1 : IntKind.i64.wrap (m : Int) = (m : Int) := by rw [IntKind.wrap_i64]; omega
    have HFc := Lib.hid hF
    by_cases h1 : k < 0
    · rw [if_pos (.inr (.inl h1))] at hr
      rw [hr]
      have q1 : decide (k < 0) = true := decide_eq_true h1
      clear hI h0 hF
      rw [hm]
      go_enter Try.func30, Try.ntmps30
      go_wp2
      go_ret
      exact ⟨_, c, rfl, HI.out, Below.refl _ _⟩
    have q1 : decide (k < 0) = false := decide_eq_false h1
    by_cases h2 : 7 < k
    · rw [if_pos (.inr (.inr h2))] at hr
      rw [hr]
      have q2 : decide (k > 7) = true := decide_eq_true h2
      clear hI h0 hF
      rw [hm]
      go_enter Try.func30, Try.ntmps30
      go_wp2
      go_ret
      exact ⟨_, c, rfl, HI.out, Below.refl _ _⟩
    have q2 : decide (k > 7) = false := decide_eq_false h2
    rw [if_neg (fun h => by rcases h with h | h | h; exact h0 h; exact h1 h; exact h2 h)] at hr
    obtain ⟨n, rfl⟩ : ∃ n : Nat, k = (n : Int) := ⟨k.toNat, by omega⟩
    rw [Int.toNat_natCast] at hr
    have n0 : (0 : Int) ≤ (n : Int) := by omega
    have n1 : (n : Int) < 8 := by omega
    subst hr
    have HW := fun W h1 h2 => Lib.hid (refWith_any (some ⟨b, off, none⟩) c l ((topF l).set (3 + n) (low v)) hI.len h0 W h1 h2)
    have HWi := fun (W : World) (A' : Option Addr) (c' : Nat) h1 h2 => Lib.hid (with_in (w := W) (A' := A') (c' := c') (f := (topF l).set (3 + n) (low v)) hI h0 (by rw [List.length_set]; exact hl27) h1 h2)
    have HLen : Hid ((withF l ((topF l).set (3 + n) (low v))).length = m + 1) := Lib.hid (by rw [with_length h0, hm])
    rw [hm] at HW
    rw [hm]
    clear hI h0 hF
    generalize hf : topF l = f at *
    go_enter Try.func30, Try.ntmps30
    go_upto_region 4 with (first | refine wl_load rfl _ rfl b (off + m * 27) rfl f HFc.out ?_ | refine wl_alloc rfl rfl ?_ | refine wl_store rfl _ _ rfl w zeroF _ rfl rfl rfl ?_)
    try simp only [Act.put, List.setIfInBounds_toArray, List.set_cons_zero, List.set_cons_succ]
    have hB1 := heap_alloc_new w (frB f)
    have hb1 : Below w.heap.size w (w.alloc (frB f)) := (Below.refl _ w).alloc (Nat.le_refl _) _
    generalize w.alloc (frB f) = W1 at *
    have xk := cell_block hB1 (k := 3 + n) (by omega)
    have fk := free_block hB1 (3 + n)
    have HP : Hid ((W1.setCell ⟨w.heap.size, 3 + n, none⟩ (.int .i64 (low v))).heap[w.heap.size]? = some (frB (f.set (3 + n) (low v))) ∧ Below w.heap.size w (W1.setCell ⟨w.heap.size, 3 + n, none⟩ (.int .i64 (low v)))) := Lib.hid ⟨set_block hB1 hl27 (by omega) _, hb1.setCell (p := ⟨w.heap.size, 3 + n, none⟩) (Nat.le_refl _) _⟩
    have HW2 := HW _ (HI.out.next HP.out.2).at' hcap
    clear hB1 hb1 HFc HW
    have HLo := fun W => Lib.hid (refLow_any v W)
    go_upto_region 5 with (first | (refine (HLo _).out.mono ?_; rintro _ _ ⟨rfl, rfl⟩))
    try simp only [Act.put, List.setIfInBounds_toArray, List.set_cons_zero, List.set_cons_succ]
    have HFp : Hid (FCells (W1.setCell ⟨w.heap.size, 3 + n, none⟩ (.int .i64 (low v))) w.heap.size 0 (f.set (3 + n) (low v))) := Lib.hid (FCells.of_block HP.out.1)
    generalize W1.setCell ⟨w.heap.size, 3 + n, none⟩ (.int .i64 (low v)) = W2 at *
    clear xk fk
    go_wp2_with (first | refine wl_load rfl _ rfl w.heap.size 0 rfl (f.set (3 + n) (low v)) HFp.out ?_)
    refine HW2.out.mono ?_
    rintro _ w5 ⟨A5, c5, rfl, hA5, hc5, hb5, hO5⟩
    have HB5 := Lib.hid (HP.out.2.trans (hb5.mono HP.out.2.size))
    have HI5 := Lib.hid (HWi w5 A5 c5 hA5 (by rw [hm]; exact hc5)).out
    clear hA5 hc5 hb5 hO5 HW2 HWi
    go_wp2_with fail
    go_ret
    exact ⟨A5, c5, by rw [HLen.out]; rfl, HI5.out, HB5.out⟩

set_option maxRecDepth 100000 in
set_option maxHeartbeats 4000000 in
theorem refGo_any (A : Option Addr) (c : Nat) (l : List Fr) (pc : Int) (w : World) (hI : In w A c l) :
    Calls Try.prog 31 #[.slice A l.length c, .int .i64 pc] w (FrsPost (goF l pc) w) := by
  obtain ⟨r, hr⟩ : ∃ r, r = goF l pc := ⟨_, rfl⟩
  rw [← hr]
  unfold goF at hr
  unfold FrsPost
  have HI := Lib.hid hI
  by_cases h0 : l.length = 0
  · rw [if_pos h0] at hr
    rw [hr]
    obtain rfl := List.eq_nil_of_length_eq_zero h0
    clear h0 hI hr
    go_enter Try.func31, Try.ntmps31
    go_wp2
    go_ret
    exact ⟨A, c, rfl, HI.out, Below.refl _ _⟩
  · obtain ⟨b, off, m, rfl, hm, hb, hF, hl27⟩ := hI.top h0
    have hlen := hI.len
    have hcap := hI.cap
    have e0 : (((m + 1 : Nat) : Int) == 0) = false := by simp; omega
    have H0 := Lib.hid h0
    rw [hm] at hlen hcap
    have k0 : (0 : Int) ≤ (m : Int) := by omega
    have k1 : (m : Int) < ((m + 1 : Nat) : Int) := by omega
    have k2 : (m : Int) < (m : Int) + 1 := by omega
    have hw0 : IntKind.i64.wrap ((m : Int) + 1 - 1) = (m : Int) := by rw [IntKind.wrap_i64]; omega
    have hw1 : IntKind.i64.wrap (m : Int) = (m : Int) := by rw [IntKind.wrap_i64]; omega
    have HFc := Lib.hid hF
    rw [if_neg h0] at hr
    subst hr
    have HW := fun W h1 h2 => Lib.hid (refWith_any (some ⟨b, off, none⟩) c l ((topF l).set 1 pc) hI.len h0 W h1 h2)
    have HWi := fun (W : World) (A' : Option Addr) (c' : Nat) h1 h2 => Lib.hid (with_in (w := W) (A' := A') (c' := c') (f := (topF l).set 1 pc) hI h0 (by rw [List.length_set]; exact hl27) h1 h2)
    have HLen : Hid ((withF l ((topF l).set 1 pc)).length = m + 1) := Lib.hid (by rw [with_length h0, hm])
    rw [hm] at HW
    rw [hm]
    clear hI h0 hF
    generalize hf : topF l = f at *
    go_enter Try.func31, Try.ntmps31
    go_upto_region 4 with (first | refine wl_load rfl _ rfl b (off + m * 27) rfl f HFc.out ?_ | refine wl_alloc rfl rfl ?_ | refine wl_store rfl _ _ rfl w zeroF _ rfl rfl rfl ?_)
    try simp only [Act.put, List.setIfInBounds_toArray, List.set_cons_zero, List.set_cons_succ]
    have hB1 := heap_alloc_new w (frB f)
    have hb1 : Below w.heap.size w (w.alloc (frB f)) := (Below.refl _ w).alloc (Nat.le_refl _) _
    generalize w.alloc (frB f) = W1 at *
    have xk := cell_block hB1 (k := 1) (by omega)
    have fk := free_block hB1 (1)
    have HP : Hid ((W1.setCell ⟨w.heap.size, 1, none⟩ (.int .i64 (pc))).heap[w.heap.size]? = some (frB (f.set (1) (pc))) ∧ Below w.heap.size w (W1.setCell ⟨w.heap.size, 1, none⟩ (.int .i64 (pc)))) := Lib.hid ⟨set_block hB1 hl27 (by omega) _, hb1.setCell (p := ⟨w.heap.size, 1, none⟩) (Nat.le_refl _) _⟩
    have HW2 := HW _ (HI.out.next HP.out.2).at' hcap
    clear hB1 hb1 HFc HW
    go_upto_region 5 with fail
    try simp only [Act.put, List.setIfInBounds_toArray, List.set_cons_zero, List.set_cons_succ]
    have HFp : Hid (FCells (W1.setCell ⟨w.heap.size, 1, none⟩ (.int .i64 (pc))) w.heap.size 0 (f.set (1) (pc))) := Lib.hid (FCells.of_block HP.out.1)
    generalize W1.setCell ⟨w.heap.size, 1, none⟩ (.int .i64 (pc)) = W2 at *
    clear xk fk
    go_wp2_with (first | refine wl_load rfl _ rfl w.heap.size 0 rfl (f.set (1) (pc)) HFp.out ?_)
    refine HW2.out.mono ?_
    rintro _ w5 ⟨A5, c5, rfl, hA5, hc5, hb5, hO5⟩
    have HB5 := Lib.hid (HP.out.2.trans (hb5.mono HP.out.2.size))
    have HI5 := Lib.hid (HWi w5 A5 c5 hA5 (by rw [hm]; exact hc5)).out
    clear hA5 hc5 hb5 hO5 HW2 HWi
    go_wp2_with fail
    go_ret
    exact ⟨A5, c5, by rw [HLen.out]; rfl, HI5.out, HB5.out⟩
end Go.Proofs.Ytphcffbbdpbkfaa.frames
