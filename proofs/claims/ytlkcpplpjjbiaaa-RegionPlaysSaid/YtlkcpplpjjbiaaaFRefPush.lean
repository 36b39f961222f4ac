/-
  The document's own frames on which a value is laid. At most a thousand frames, each of twenty-seven numbers.
-/
import Derived.Test.YtlkcpplpjjbiaaaFRefWith
import Derived.Test.YtlkcpplpjjbiaaaWRef
import Derived.Deep.RegionWith
namespace Go.Proofs.Ytlkcpplpjjbiaaa.frames
open Go.RowKit Go.ChangeShapes
open Go.Proofs.Ytlkcpplpjjbiaaa.word (low refLow_any)
set_option linter.unusedVariables false
set_option linter.unusedSimpArgs false

/-- Frames as they are handed in: their slice, and their lengths. -/
structure In (w : World) (A : Option Addr) (c : Nat) (l : List Fr) : Prop where
  at' : FsAt w A l
  cap : l.length ≤ c
  len : l.length ≤ 1000
  all : ∀ f ∈ l, f.length = 27
  nil : A = none → l = [] ∧ c = 0
theorem In.next {w w' : World} {A : Option Addr} {c : Nat} {l : List Fr} (h : In w A c l) (hb : Below w.heap.size w w') : In w' A c l := ⟨h.at'.next hb, h.cap, h.len, h.all, h.nil⟩
theorem In.top {w : World} {A : Option Addr} {c : Nat} {l : List Fr} (h : In w A c l) (h0 : l.length ≠ 0) : ∃ b off m, A = some ⟨b, off, none⟩ ∧ l.length = m + 1 ∧ b < w.heap.size ∧ FCells w b (off + m * 27) (topF l) ∧ (topF l).length = 27 := by
  obtain ⟨b, off, h1, h2, h3⟩ := h.at' (l.length - 1) (by omega)
  exact ⟨b, off, l.length - 1, h1, by omega, h2, h3, h.all _ (top_mem h0)⟩
/-- Frames, and true; nil, and false: there are none. -/
def ListPost (x : Option (List Fr)) (w : World) (e : Ending) (w' : World) : Prop :=
  Below w.heap.size w w' ∧ match x with
  | none => e = .returned (.tuple #[.slice none 0 0, .bool false])
  | some l => ∃ A c, e = .returned (.tuple #[.slice A l.length c, .bool true]) ∧ In w' A c l
theorem with_in {w : World} {A' : Option Addr} {c' : Nat} {l : List Fr} {f : Fr} {A : Option Addr} {c : Nat} {w0 : World} (h : In w0 A c l) (h0 : l.length ≠ 0) (hf : f.length = 27) (h1 : FsAt w A' (withF l f)) (h2 : l.length ≤ c') : In w A' c' (withF l f) := by
  refine ⟨h1, by rw [with_length h0]; exact h2, by rw [with_length h0]; exact h.len, fun g hg => ?_, fun e => ?_⟩
  · unfold withF at hg
    rcases List.mem_append.1 hg with hg | hg
    · exact h.all g (mem_take_any hg)
    · rw [List.mem_singleton.1 hg]; exact hf
  · obtain ⟨b, off, h4, _⟩ := h1 0 (by rw [with_length h0]; omega)
    rw [e] at h4
    cases h4

set_option maxRecDepth 100000 in
set_option maxHeartbeats 4000000 in
theorem refPush_any (A : Option Addr) (c : Nat) (l : List Fr) (v : Int) (w : World) (hI : In w A c l) :
    Calls Try.prog 51 #[.slice A l.length c, .int .i64 v] w (ListPost (pushF l v) w) := by
  obtain ⟨r, hr⟩ : ∃ r, r = pushF l v := ⟨_, rfl⟩
  rw [← hr]
  unfold pushF at hr
  unfold ListPost
  by_cases h0 : l.length = 0
  · rw [if_pos (.inl h0)] at hr
    subst hr
    have e0 : ((l.length : Int) == 0) = true := by simp [h0]
    clear h0 hI
    go_enter Try.func51, Try.ntmps51
    go_wp2
    go_ret2
    exact ⟨Below.refl _ _, rfl⟩
  · obtain ⟨b, off, m, rfl, hm, hb, hF, hl27⟩ := hI.top h0
    have hlen := hI.len
    have hcap := hI.cap
    have e0 : (((m + 1 : Nat) : Int) == 0) = false := by simp; omega
    have xN := hF 2 (by omega)
    have HI := Lib.hid hI
    have H0 := Lib.hid h0
    rw [hm] at hlen hcap
    have k0 : (0 : Int) ≤ (m : Int) := by omega
    have k1 : (m : Int) < ((m + 1 : Nat) : Int) := by omega
    have k2 : (m : Int) < (m : Int) + 1 := by omega
    have hw0 : IntKind.i64.wrap ((m : Int) + 1 - 1) = (m : Int) := by rw [IntKind.wrap_i64]; omega
    have hw1 : IntKind.i64.wrap (m : Int) = (m : Int) := by rw [IntKind.wrap_i64]; omega
    have HW := fun W h1 h2 => Lib.hid (refWith_any (some ⟨b, off, none⟩) c l (pushed (topF l) v) hI.len h0 W h1 h2)
    rw [hm] at HW
    have HWi := fun (W : World) (A' : Option Addr) (c' : Nat) h1 h2 => Lib.hid (with_in (w := W) (A' := A') (c' := c') (f := pushed (topF l) v) hI h0 (by unfold pushed; rw [List.length_set, List.length_set]; exact hl27) h1 h2)
    have HLen : Hid ((withF l (pushed (topF l) v)).length = m + 1) := Lib.hid (by rw [with_length h0, hm])
    have hcN : num (topF l) 2 = cnt (topF l) := rfl
    rw [hcN] at xN
    rw [hm]
    clear hI h0 hF
    generalize hf : topF l = f at *
    generalize hcn : cnt f = N at *
    go_enter Try.func51, Try.ntmps51
    by_cases h1 : 15 < N
    · rw [if_pos (.inr (.inl h1))] at hr
      subst hr
      have q1 : decide (N > 15) = true := decide_eq_true h1
      go_wp2
      go_ret2
      exact ⟨Below.refl _ _, rfl⟩
    · have q1 : decide (N > 15) = false := decide_eq_false h1
      by_cases h2 : N < 0
      · rw [if_pos (.inr (.inr h2))] at hr
        subst hr
        have q2 : decide (N < 0) = true := decide_eq_true h2
        go_wp2
        go_ret2
        exact ⟨Below.refl _ _, rfl⟩
      · have q2 : decide (N < 0) = false := decide_eq_false h2
        rw [if_neg (fun h => by rcases h with h | h | h; exact H0.out h; exact h1 h; exact h2 h)] at hr
        subst hr
        obtain ⟨n, rfl⟩ : ∃ n : Nat, N = (n : Int) := ⟨N.toNat, by omega⟩
        have hF := (HI.out.top H0.out)
        have HFc : Hid (FCells w b (off + m * 27) f) := Lib.hid (by
          obtain ⟨b', off', m', e, hm', _, hF', _⟩ := HI.out.top H0.out
          obtain rfl := Addr.mk.inj (Option.some.inj e) |>.1
          obtain rfl := Addr.mk.inj (Option.some.inj e) |>.2.1
          obtain rfl : m = m' := by omega
          rw [← hf]; exact hF')
        clear hF
        go_upto_region 4 with (first | refine wl_load rfl _ rfl b (off + m * 27) rfl f HFc.out ?_ | refine wl_alloc rfl rfl ?_ | refine wl_store rfl _ _ rfl w zeroF _ rfl rfl rfl ?_)
        try simp only [Act.put, List.setIfInBounds_toArray, List.set_cons_zero, List.set_cons_succ]
        have hB1 := heap_alloc_new w (frB f)
        have hz1 : (w.alloc (frB f)).heap.size = w.heap.size + 1 := World.size_alloc _ _
        have hb1 : Below w.heap.size w (w.alloc (frB f)) := (Below.refl _ w).alloc (Nat.le_refl _) _
        generalize w.alloc (frB f) = W1 at *
        have hn2 : num f 2 = (n : Int) := hcn
        have x2 := cell_block hB1 (k := 2) (by omega)
        rw [hn2] at x2
        have x11 := cell_block hB1 (k := 11 + n) (by omega)
        have f2 := free_block hB1 2
        have f11 := free_block hB1 (11 + n)
        have HS2 : Hid (((W1.setCell ⟨w.heap.size, 11 + n, none⟩ (.int .i64 (low v))).setCell ⟨w.heap.size, 2, none⟩ (.int .i64 ((n : Int) + 1))).heap[w.heap.size]? = some (frB (pushed f v))) := Lib.hid (by
          have h1 := set_block hB1 hl27 (k := 11 + n) (by omega) (low v)
          have h2 := set_block h1 (by rw [List.length_set]; exact hl27) (k := 2) (by omega) ((n : Int) + 1)
          have e : pushed f v = (f.set (11 + n) (low v)).set 2 ((n : Int) + 1) := by
            unfold pushed
            rw [hcn, Int.toNat_natCast]
          rw [e]
          exact h2)
        have HBs : Hid (Below w.heap.size w ((W1.setCell ⟨w.heap.size, 11 + n, none⟩ (.int .i64 (low v))).setCell ⟨w.heap.size, 2, none⟩ (.int .i64 ((n : Int) + 1)))) := Lib.hid ((hb1.setCell (p := ⟨w.heap.size, 11 + n, none⟩) (Nat.le_refl _) _).setCell (p := ⟨w.heap.size, 2, none⟩) (Nat.le_refl _) _)
        have hne : 11 + n ≠ 2 := by omega
        have hne2 : 2 ≠ 11 + n := by omega
        have n0 : (0 : Int) ≤ (n : Int) := by omega
        have n1 : (n : Int) < 16 := by omega
        have hwn : IntKind.i64.wrap ((n : Int) + 1) = (n : Int) + 1 := by rw [IntKind.wrap_i64]; omega
        clear hB1 hb1 hcn hn2 HFc h1 h2 xN hf
        go_cut [37] (fun t wx => Hid (wx.heap[w.heap.size]? = some (frB (pushed f v)) ∧ Below w.heap.size w wx))
        case first =>
          go_region_with (go_at_call 63; refine (refLow_any v _).mono ?_; rintro _ _ ⟨rfl, rfl⟩)
          all_goals
            try rw [hwn]
            go_wp2_with fail
            go_meet
            exact Lib.hid ⟨HS2.out, HBs.out.drew⟩
        case rest =>
          have HP := hcut
          have HFp : Hid (FCells wc w.heap.size 0 (pushed f v)) := Lib.hid (FCells.of_block HP.out.1)
          have HW2 := HW wc (HI.out.next HP.out.2).at' hcap
          clear x2 x11 f2 f11 HS2 HBs HW
          go_wp2_with (first | refine wl_load rfl _ rfl w.heap.size 0 rfl (pushed f v) HFp.out ?_)
          refine HW2.out.mono ?_
          rintro _ w5 ⟨A5, c5, rfl, hA5, hc5, hb5, hO5⟩
          have HB5 := Lib.hid (HP.out.2.trans (hb5.mono HP.out.2.size))
          have HI5 := Lib.hid (HWi w5 A5 c5 hA5 (by rw [hm]; exact hc5)).out
          clear hA5 hc5 hb5 hO5 HW2 HWi
          go_wp2_with fail
          go_ret2
          exact ⟨HB5.out, A5, c5, by rw [HLen.out]; rfl, HI5.out⟩
end Go.Proofs.Ytlkcpplpjjbiaaa.frames
