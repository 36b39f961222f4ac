/-
  What the statements on a pool ask of the program's calls; what is not there; and a call by its number. No condition. Printed by tools/mkpospec.py.
-/
import Derived.Test.YthdencddocgbjaaPoSame
import Derived.Test.YthdencddocgbjaaPoOps
import Derived.Test.YthdencddocgbjaaPoRefDo
namespace Go.Proofs.Ythdencddocgbjaa.pol
open Go.RowKit Go.ChangeShapes
open Go.Proofs.Ythdencddocgbjaa.obj
set_option linter.unusedVariables false
set_option linter.unusedSimpArgs false

/-- What is asked of the program's calls; At says how a pool lies in its block. -/
structure Keeps (At : World → Nat → Px → Prop) : Prop where
  loc : ∀ (w w' : World) g m, At w g m → w'.heap[g]? = w.heap[g]? → w.heap.size ≤ w'.heap.size → At w' g m
  lt : ∀ (w : World) g m, At w g m → g < w.heap.size
  new : ∀ total w, I64 total → Calls Try.prog 7 #[.int .i64 total] w fun e w' => ∃ g, e = .returned (.pointer (some ⟨g, 0, none⟩)) ∧ w.heap.size ≤ g ∧ At w' g (newP total) ∧ Below w.heap.size w w'
  take : ∀ w g p t n, At w g p → Fine p → I64 t → I64 n → Calls Try.prog 20 #[.pointer (some ⟨g, 0, none⟩), .int .i64 t, .int .i64 n] w fun e w' => e = .returned (.bool (decide ((doP p 0 t n).2 = 1))) ∧ At w' g (doP p 0 t n).1 ∧ Only g w w'
  give : ∀ w g p t n, At w g p → Fine p → I64 t → I64 n → Calls Try.prog 21 #[.pointer (some ⟨g, 0, none⟩), .int .i64 t, .int .i64 n] w fun e w' => e = .returned (.int .i64 (doP p 1 t n).2) ∧ At w' g (doP p 1 t n).1 ∧ Only g w w'
  back : ∀ w g p t, At w g p → Fine p → I64 t → Calls Try.prog 22 #[.pointer (some ⟨g, 0, none⟩), .int .i64 t] w fun e w' => e = .returned (.int .i64 (hv p.h t)) ∧ At w' g (setP p t 0) ∧ Only g w w'
  held : ∀ w g p t, At w g p → Fine p → I64 t → Calls Try.prog 16 #[.pointer (some ⟨g, 0, none⟩), .int .i64 t] w fun e w' => e = .returned (.int .i64 (hv p.h t)) ∧ Below w.heap.size w w'
  heldq : ∀ w g p t, At w g p → Fine p → I64 t → Calls Try.prog 16 #[.pointer (some ⟨g, 0, none⟩), .int .i64 t] w fun e w' => e = .returned (.int .i64 (hv p.h t)) ∧ w' = w
  free : ∀ w g p, At w g p → Fine p → Calls Try.prog 14 #[.pointer (some ⟨g, 0, none⟩)] w fun e w' => e = .returned (.int .i64 (freeP p)) ∧ Below w.heap.size w w'
  total : ∀ w g p, At w g p → Fine p → Calls Try.prog 9 #[.pointer (some ⟨g, 0, none⟩)] w fun e w' => e = .returned (.int .i64 p.total) ∧ Below w.heap.size w w'
  shares : ∀ w g p, At w g p → Fine p → Calls Try.prog 13 #[.pointer (some ⟨g, 0, none⟩)] w fun e w' => ∃ A c, e = .returned (.slice A (shares p.h).length c) ∧ SAt w' (fun b => w.heap.size ≤ b) A (shares p.h) ∧ Below w.heap.size w w'
  clone : ∀ w g p, At w g p → Fine p → Calls Try.prog 19 #[.pointer (some ⟨g, 0, none⟩)] w fun e w' => ∃ g', e = .returned (.pointer (some ⟨g', 0, none⟩)) ∧ w.heap.size ≤ g' ∧ At w' g' p ∧ Below w.heap.size w w'
  ntake : ∀ w t n, I64 t → I64 n → Calls Try.prog 20 #[.pointer none, .int .i64 t, .int .i64 n] w fun e w' => e = .returned (.bool false) ∧ Below w.heap.size w w'
  ngive : ∀ w t n, I64 t → I64 n → Calls Try.prog 21 #[.pointer none, .int .i64 t, .int .i64 n] w fun e w' => e = .returned (.int .i64 1) ∧ Below w.heap.size w w'
  nback : ∀ w t, I64 t → Calls Try.prog 22 #[.pointer none, .int .i64 t] w fun e w' => e = .returned (.int .i64 0) ∧ Below w.heap.size w w'
  nheld : ∀ w t, I64 t → Calls Try.prog 16 #[.pointer none, .int .i64 t] w fun e w' => e = .returned (.int .i64 0) ∧ Below w.heap.size w w'
  nfree : ∀ w, Calls Try.prog 14 #[.pointer none] w fun e w' => e = .returned (.int .i64 0) ∧ Below w.heap.size w w'
  ntotal : ∀ w, Calls Try.prog 9 #[.pointer none] w fun e w' => e = .returned (.int .i64 0) ∧ Below w.heap.size w w'
  nshares : ∀ w, Calls Try.prog 13 #[.pointer none] w fun e w' => e = .returned (.slice none 0 0) ∧ Below w.heap.size w w'
  nclone : ∀ w, Calls Try.prog 19 #[.pointer none] w fun e w' => e = .returned (.pointer none) ∧ Below w.heap.size w w'
/-- What holds while calls are made: below w nothing has turned, and the pool lies there. -/
def Hs (At : World → Nat → Px → Prop) (w : World) (g : Nat) (s : Px) (W : World) : Prop := Below w.heap.size w W ∧ w.heap.size ≤ g ∧ At W g s
theorem hs_next {At : World → Nat → Px → Prop} (K : Keeps At) {w W W' : World} {g : Nat} {s : Px} (h : Hs At w g s W) (hb : Below W.heap.size W W') : Hs At w g s W' :=
  ⟨h.1.trans (hb.mono h.1.size), h.2.1, K.loc _ _ _ _ h.2.2 (hb.block _ (K.lt _ _ _ h.2.2)) hb.size⟩
theorem hs_only {At : World → Nat → Px → Prop} {w W W' : World} {g : Nat} {s s' : Px} (h : Hs At w g s W) (ho : Only g W W') (ha : At W' g s') : Hs At w g s' W' :=
  ⟨ho.below h.1 h.2.1 h.1.size, h.2.1, ha⟩

def p1 : Px := ⟨3, zeros.set 1 2⟩
theorem p1_fine : Fine p1 := set_fine (new_fine 3) 1 2 (by decide) (by decide)
theorem p1_back : setP p1 1 0 = newP 3 := by kernel_rfl
set_option maxRecDepth 100000 in
set_option maxHeartbeats 4000000 in
theorem lives_any {At : World → Nat → Px → Prop} (K : Keeps At) (w : World) : Calls Try.prog 18 #[] w fun e w' => e = .returned (.bool true) ∧ Below w.heap.size w w' := by
  have HK := Lib.hid K
  have i1 : I64 1 := by unfold I64; omega
  have i2 : I64 2 := by unfold I64; omega
  have i3 : I64 3 := by unfold I64; omega
  have C0 := Lib.hid (K.new 3 w i3)
  have F0 := new_fine 3
  have F1 := p1_fine
  have C1 := fun W g h => Lib.hid (HK.out.take W g (newP 3) 1 2 h F0 i1 i2)
  have C2 := fun W g h => Lib.hid (HK.out.take W g p1 2 2 h F1 i2 i2)
  have C3 := fun W g h => Lib.hid (HK.out.free W g p1 h F1)
  have C4 := fun W g h => Lib.hid (HK.out.held W g p1 1 h F1 i1)
  have C5 := fun W g h => Lib.hid (HK.out.give W g p1 1 3 h F1 i1 i3)
  have C6 := fun W g h => Lib.hid (HK.out.back W g p1 1 h F1 i1)
  rw [show doP (newP 3) 0 1 2 = (p1, 1) by kernel_rfl] at C1
  rw [show doP p1 0 2 2 = (p1, 0) by kernel_rfl] at C2
  rw [show freeP p1 = 1 by decide] at C3
  rw [show hv p1.h 1 = 2 by decide] at C4 C6
  rw [show doP p1 1 1 3 = (p1, 9) by kernel_rfl] at C5
  dsimp only at C1 C2 C3 C4 C5 C6
  clear K i1 i2 i3 F0 F1
  generalize newP 3 = p0 at *
  go_enter Try.func18, Try.ntmps18
  go_wp2_with fail
  refine C0.out.mono ?_
  rintro _ w1 ⟨g, rfl, hg, ha, hb⟩
  have H1 : Hid (Hs At w g p0 w1) := Lib.hid ⟨hb, hg, ha⟩
  clear hg ha hb C0
  have D := C1 w1 g H1.out.2.2
  go_wp2_with fail
  refine D.out.mono ?_
  rintro _ w2 ⟨rfl, ha, ho⟩
  have H2 := Lib.hid (hs_only H1.out ho ha)
  clear ha ho D C1 H1
  have D := C2 w2 g H2.out.2.2
  go_wp2_with fail
  refine D.out.mono ?_
  rintro _ w3 ⟨rfl, ha, ho⟩
  have H3 := Lib.hid (hs_only H2.out ho ha)
  clear ha ho D C2 H2
  have D := C3 w3 g H3.out.2.2
  go_wp2_with fail
  refine D.out.mono ?_
  rintro _ w4 ⟨rfl, hb⟩
  have H4 := Lib.hid (hs_next HK.out H3.out hb)
  clear hb D C3 H3
  have D := C4 w4 g H4.out.2.2
  go_wp2_with fail
  refine D.out.mono ?_
  rintro _ w5 ⟨rfl, hb⟩
  have H5 := Lib.hid (hs_next HK.out H4.out hb)
  clear hb D C4 H4
  have D := C5 w5 g H5.out.2.2
  go_wp2_with fail
  refine D.out.mono ?_
  rintro _ w6 ⟨rfl, ha, ho⟩
  have H6 := Lib.hid (hs_only H5.out ho ha)
  clear ha ho D C5 H5
  have D := C6 w6 g H6.out.2.2
  go_wp2_with fail
  refine D.out.mono ?_
  rintro _ w7 ⟨rfl, ha, ho⟩
  have H7 := Lib.hid (hs_only H6.out ho ha)
  clear ha ho D C6 H6
  go_wp2
  go_ret
  exact ⟨rfl, H7.out.1⟩

set_option maxRecDepth 100000 in
set_option maxHeartbeats 4000000 in
theorem nil_walk {At : World → Nat → Px → Prop} (K : Keeps At) (t n : Int) (w : World) (ht : I64 t) (hn : I64 n) : Calls Try.prog 6 #[.int .i64 t, .int .i64 n] w fun e w' => e = .returned (.bool true) ∧ Below w.heap.size w w' := by
  have H0 := Lib.hid (Below.refl w.heap.size w)
  have C0 := fun W => Lib.hid (K.ntake W t n ht hn)
  have C1 := fun W => Lib.hid (K.ngive W t n ht hn)
  have C2 := fun W => Lib.hid (K.nback W t ht)
  have C3 := fun W => Lib.hid (K.nheld W t ht)
  have C4 := fun W => Lib.hid (K.nfree W)
  have C5 := fun W => Lib.hid (K.ntotal W)
  have C6 := fun W => Lib.hid (K.nshares W)
  have C7 := fun W => Lib.hid (K.nclone W)
  have C8 := fun W => Lib.hid (lives_any K W)
  clear K ht hn
  go_enter Try.func6, Try.ntmps6
  go_wp2_with fail
  refine (C0 _).out.mono ?_
  rintro _ w1 ⟨rfl, hb⟩
  have H1 := Lib.hid (H0.out.trans (hb.mono H0.out.size))
  clear hb C0 H0
  go_wp2_with fail
  refine (C1 _).out.mono ?_
  rintro _ w2 ⟨rfl, hb⟩
  have H2 := Lib.hid (H1.out.trans (hb.mono H1.out.size))
  clear hb C1 H1
  go_wp2_with fail
  refine (C2 _).out.mono ?_
  rintro _ w3 ⟨rfl, hb⟩
  have H3 := Lib.hid (H2.out.trans (hb.mono H2.out.size))
  clear hb C2 H2
  go_wp2_with fail
  refine (C3 _).out.mono ?_
  rintro _ w4 ⟨rfl, hb⟩
  have H4 := Lib.hid (H3.out.trans (hb.mono H3.out.size))
  clear hb C3 H3
  go_wp2_with fail
  refine (C4 _).out.mono ?_
  rintro _ w5 ⟨rfl, hb⟩
  have H5 := Lib.hid (H4.out.trans (hb.mono H4.out.size))
  clear hb C4 H4
  go_wp2_with fail
  refine (C5 _).out.mono ?_
  rintro _ w6 ⟨rfl, hb⟩
  have H6 := Lib.hid (H5.out.trans (hb.mono H5.out.size))
  clear hb C5 H5
  go_wp2_with fail
  refine (C6 _).out.mono ?_
  rintro _ w7 ⟨rfl, hb⟩
  have H7 := Lib.hid (H6.out.trans (hb.mono H6.out.size))
  clear hb C6 H6
  go_wp2_with fail
  refine (C7 _).out.mono ?_
  rintro _ w8 ⟨rfl, hb⟩
  have H8 := Lib.hid (H7.out.trans (hb.mono H7.out.size))
  clear hb C7 H7
  go_wp2_with fail
  refine (C8 _).out.mono ?_
  rintro _ w9 ⟨rfl, hb⟩
  have H9 := Lib.hid (H8.out.trans (hb.mono H8.out.size))
  clear hb C8 H8
  go_wp2
  go_ret
  exact ⟨rfl, H9.out⟩

/-- Behind a call: what is answered, and what the pool is like. -/
def DoPost (At : World → Nat → Px → Prop) (q : Px × Int) (g : Nat) (w : World) (e : Ending) (w' : World) : Prop := e = .returned (.int .i64 q.2) ∧ At w' g q.1 ∧ Only g w w'
theorem do_one (p : Px) (t n : Int) : (doP p 0 t n).2 = 1 ∨ (doP p 0 t n).2 = 0 := by
  unfold doP
  rw [if_pos rfl]
  split
  · exact .inr rfl
  · exact .inl rfl
set_option maxRecDepth 100000 in
set_option maxHeartbeats 4000000 in
theorem do_any {At : World → Nat → Px → Prop} (K : Keeps At) (s : Px) (g : Nat) (k t n : Int) (w : World) (ha : At w g s) (hf : Fine s) (ht : I64 t) (hn : I64 n) :
    Calls Try.prog 11 #[.pointer (some ⟨g, 0, none⟩), .agg #[.int .i64 k, .int .i64 t, .int .i64 n]] w (DoPost At (doP s k t n) g w) := by
  have HK := Lib.hid K
  have HF := Lib.hid hf
  have HN := Lib.hid hn
  have HT := Lib.hid ht
  have hlt := K.lt _ _ _ ha
  have hb0 : Below w.heap.size w (w.alloc (.cells #[.int .i64 k, .int .i64 t, .int .i64 n] 33)) := (Below.refl _ w).alloc (Nat.le_refl _) _
  have HA := Lib.hid (K.loc _ _ _ _ ha (hb0.block _ hlt) hb0.size)
  have HX := Lib.hid (heap_alloc_new w (.cells #[.int .i64 k, .int .i64 t, .int .i64 n] 33))
  have HO : Hid (∀ w', Only g (w.alloc (.cells #[.int .i64 k, .int .i64 t, .int .i64 n] 33)) w' → Only g w w') := Lib.hid (fun w' h => (Only.of_below hb0).trans h)
  obtain ⟨q, hq⟩ : ∃ q, q = doP s k t n := ⟨_, rfl⟩
  rw [← hq]
  have HQ := Lib.hid hq
  unfold DoPost
  clear K ha hf hn ht hlt hb0 hq
  by_cases k0 : k = 0
  · subst k0
    have C := Lib.hid (HK.out.take _ g s t n HA.out HF.out HT.out HN.out)
    have hd := do_one s t n
    rw [← HQ.out] at C hd
    clear HK HF HN HA HT HQ
    obtain ⟨q1, q2⟩ := q
    dsimp only at C hd ⊢
    rcases hd with rfl | rfl
    · rw [show decide ((1 : Int) = 1) = true by decide] at C
      go_enter Try.func11, Try.ntmps11
      go_upto_region 1 with fail
      generalize w.alloc (.cells #[.int .i64 0, .int .i64 t, .int .i64 n] 33) = W1 at *
      obtain ⟨y0, y1, y2⟩ := cells3 HX.out
      go_wp2_with fail
      refine C.out.mono ?_
      rintro _ w2 ⟨rfl, ha, ho⟩
      have HE := Lib.hid (And.intro ha (HO.out _ ho))
      clear ha ho C y0 y1 y2 HX
      go_wp2
      go_ret
      exact ⟨rfl, HE.out.1, HE.out.2⟩
    · rw [show decide ((0 : Int) = 1) = false by decide] at C
      go_enter Try.func11, Try.ntmps11
      go_upto_region 1 with fail
      generalize w.alloc (.cells #[.int .i64 0, .int .i64 t, .int .i64 n] 33) = W1 at *
      obtain ⟨y0, y1, y2⟩ := cells3 HX.out
      go_wp2_with fail
      refine C.out.mono ?_
      rintro _ w2 ⟨rfl, ha, ho⟩
      have HE := Lib.hid (And.intro ha (HO.out _ ho))
      clear ha ho C y0 y1 y2 HX
      go_wp2
      go_ret
      exact ⟨rfl, HE.out.1, HE.out.2⟩
  by_cases k1 : k = 1
  · subst k1
    have C := Lib.hid (HK.out.give _ g s t n HA.out HF.out HT.out HN.out)
    rw [← HQ.out] at C
    clear HK HF HN HA HT HQ k0
    obtain ⟨q1, q2⟩ := q
    dsimp only at C ⊢
    go_enter Try.func11, Try.ntmps11
    go_upto_region 1 with fail
    generalize w.alloc (.cells #[.int .i64 1, .int .i64 t, .int .i64 n] 33) = W1 at *
    obtain ⟨y0, y1, y2⟩ := cells3 HX.out
    go_wp2_with fail
    refine C.out.mono ?_
    rintro _ w2 ⟨rfl, ha, ho⟩
    have HE := Lib.hid (And.intro ha (HO.out _ ho))
    clear ha ho C y0 y1 y2 HX
    go_wp2
    go_ret
    exact ⟨rfl, HE.out.1, HE.out.2⟩
  · have e0 : (k == 0) = false := by rw [beq_eq_false_iff_ne]; exact k0
    have e1 : (k == 1) = false := by rw [beq_eq_false_iff_ne]; exact k1
    have C := Lib.hid (HK.out.back _ g s t HA.out HF.out HT.out)
    have hq : q = (setP s t 0, hv s.h t) := by rw [HQ.out]; exact do_else k0 k1
    obtain ⟨q1, q2⟩ := q
    injection hq with hq1 hq2
    rw [← hq1, ← hq2] at C
    dsimp only at C ⊢
    clear HK HF HN HA HT HQ k0 k1 hq1 hq2
    go_enter Try.func11, Try.ntmps11
    go_upto_region 1 with fail
    generalize w.alloc (.cells #[.int .i64 k, .int .i64 t, .int .i64 n] 33) = W1 at *
    obtain ⟨y0, y1, y2⟩ := cells3 HX.out
    go_wp2_with fail
    refine C.out.mono ?_
    rintro _ w2 ⟨rfl, ha, ho⟩
    have HE := Lib.hid (And.intro ha (HO.out _ ho))
    clear ha ho C y0 y1 y2 HX
    go_wp2
    go_ret
    exact ⟨rfl, HE.out.1, HE.out.2⟩
end Go.Proofs.Ythdencddocgbjaa.pol
