/-
  What the statements on a counter ask of the program's calls; what is not there; and a call by its number. No condition.
-/
import Derived.Test.YtngfienkbmmhjaaSeRef
import Derived.Test.YtngfienkbmmhjaaSeOps
namespace Go.Proofs.Ytngfienkbmmhjaa.sem
open Go.RowKit Go.ChangeShapes
open Go.Proofs.Ytngfienkbmmhjaa.obj
set_option linter.unusedVariables false
set_option linter.unusedSimpArgs false

def ptr (g : Nat) : Value := .pointer (some ⟨g, 0, none⟩)
/-- What is asked of the program's calls; At says how a counter lies in its block. -/
structure Keeps (At : World → Nat → Sx → Prop) : Prop where
  loc : ∀ (w w' : World) g m, At w g m → w'.heap[g]? = w.heap[g]? → w.heap.size ≤ w'.heap.size → At w' g m
  lt : ∀ (w : World) g m, At w g m → g < w.heap.size
  new : ∀ first most w, I64 first → I64 most → Calls Try.prog 6 #[.int .i64 first, .int .i64 most] w fun e w' => ∃ g, e = .returned (.pointer (some ⟨g, 0, none⟩)) ∧ w.heap.size ≤ g ∧ At w' g (newS first most) ∧ Below w.heap.size w w'
  value : ∀ w g s, At w g s → Fine s → Calls Try.prog 8 #[.pointer (some ⟨g, 0, none⟩)] w fun e w' => e = .returned (.int .i64 s.v) ∧ Below w.heap.size w w'
  most : ∀ w g s, At w g s → Fine s → Calls Try.prog 9 #[.pointer (some ⟨g, 0, none⟩)] w fun e w' => e = .returned (.int .i64 s.m) ∧ Below w.heap.size w w'
  down : ∀ w g s n, At w g s → Fine s → I64 n → Calls Try.prog 13 #[.pointer (some ⟨g, 0, none⟩), .int .i64 n] w fun e w' => e = .returned (.bool (decide (1 ≤ n ∧ n ≤ s.v))) ∧ At w' g (doS s 0 n).1 ∧ Only g w w'
  post : ∀ w g s n, At w g s → Fine s → I64 n → Calls Try.prog 14 #[.pointer (some ⟨g, 0, none⟩), .int .i64 n] w fun e w' => e = .returned (.int .i64 (doS s 1 n).2) ∧ At w' g (doS s 1 n).1 ∧ Only g w w'
  fill : ∀ w g s, At w g s → Fine s → Calls Try.prog 15 #[.pointer (some ⟨g, 0, none⟩)] w fun e w' => e = .returned (.int .i64 (s.m - s.v)) ∧ At w' g ⟨s.m, s.m⟩ ∧ Only g w w'
  nvalue : ∀ w, Calls Try.prog 8 #[.pointer none] w fun e w' => e = .returned (.int .i64 0) ∧ Below w.heap.size w w'
  nmost : ∀ w, Calls Try.prog 9 #[.pointer none] w fun e w' => e = .returned (.int .i64 0) ∧ Below w.heap.size w w'
  ndown : ∀ w n, I64 n → Calls Try.prog 13 #[.pointer none, .int .i64 n] w fun e w' => e = .returned (.bool false) ∧ Below w.heap.size w w'
  npost : ∀ w n, I64 n → Calls Try.prog 14 #[.pointer none, .int .i64 n] w fun e w' => e = .returned (.int .i64 1) ∧ Below w.heap.size w w'
  nfill : ∀ w, Calls Try.prog 15 #[.pointer none] w fun e w' => e = .returned (.int .i64 0) ∧ Below w.heap.size w w'
/-- What holds while calls are made: below w nothing has turned, and the counter lies there. -/
def Hs (At : World → Nat → Sx → Prop) (w : World) (g : Nat) (s : Sx) (W : World) : Prop := Below w.heap.size w W ∧ w.heap.size ≤ g ∧ At W g s
theorem hs_next {At : World → Nat → Sx → Prop} (K : Keeps At) {w W W' : World} {g : Nat} {s : Sx} (h : Hs At w g s W) (hb : Below W.heap.size W W') : Hs At w g s W' :=
  ⟨h.1.trans (hb.mono h.1.size), h.2.1, K.loc _ _ _ _ h.2.2 (hb.block _ (K.lt _ _ _ h.2.2)) hb.size⟩
theorem hs_only {At : World → Nat → Sx → Prop} {w W W' : World} {g : Nat} {s s' : Sx} (h : Hs At w g s W) (ho : Only g W W') (ha : At W' g s') : Hs At w g s' W' :=
  ⟨ho.below h.1 h.2.1 h.1.size, h.2.1, ha⟩

set_option maxRecDepth 100000 in
set_option maxHeartbeats 4000000 in
theorem lives_any {At : World → Nat → Sx → Prop} (K : Keeps At) (w : World) : Calls Try.prog 12 #[] w fun e w' => e = .returned (.bool true) ∧ Below w.heap.size w w' := by
  have HK := Lib.hid K
  have i1 : I64 1 := by unfold I64; omega
  have i2 : I64 2 := by unfold I64; omega
  have C0 := Lib.hid (K.new 1 2 w i1 i2)
  rw [show newS 1 2 = ⟨1, 2⟩ by kernel_rfl] at C0
  have F1 : Fine ⟨1, 2⟩ := by unfold Fine; decide
  have F2 : Fine ⟨2, 2⟩ := by unfold Fine; decide
  have F0 : Fine ⟨0, 2⟩ := by unfold Fine; decide
  have C1 := fun W g h => Lib.hid (HK.out.post W g ⟨1, 2⟩ 2 h F1 i2)
  have C2 := fun W g h => Lib.hid (HK.out.post W g ⟨1, 2⟩ 1 h F1 i1)
  have C3 := fun W g h => Lib.hid (HK.out.down W g ⟨2, 2⟩ 2 h F2 i2)
  have C4 := fun W g h => Lib.hid (HK.out.value W g ⟨0, 2⟩ h F0)
  have C5 := fun W g h => Lib.hid (HK.out.most W g ⟨0, 2⟩ h F0)
  rw [show doS ⟨1, 2⟩ 1 2 = (⟨1, 2⟩, 11) by kernel_rfl] at C1
  rw [show doS ⟨1, 2⟩ 1 1 = (⟨2, 2⟩, 0) by kernel_rfl] at C2
  rw [show (doS ⟨2, 2⟩ 0 2).1 = ⟨0, 2⟩ by kernel_rfl, show decide ((1 : Int) ≤ 2 ∧ (2 : Int) ≤ 2) = true by decide] at C3
  dsimp only at C1 C2 C3 C4 C5
  clear K i1 i2 F0 F1 F2
  go_enter Try.func12, Try.ntmps12
  go_wp2_with fail
  refine C0.out.mono ?_
  rintro _ w1 ⟨g, rfl, hg, ha, hb⟩
  have H1 : Hid (Hs At w g ⟨1, 2⟩ w1) := Lib.hid ⟨hb, hg, ha⟩
  clear hg ha hb C0
  have D := C1 w1 g H1.out.2.2
  go_wp2_with fail
  refine D.out.mono ?_
  rintro _ w2 ⟨rfl, ha, ho⟩
  have H2 := Lib.hid (hs_only H1.out ho ha)
  clear ha ho D C1 H1
  have D := C2 w2 g H2.out.2.2
  go_wp2_with fail
  refine D.out.mono ?_
  rintro _ w3 ⟨rfl, ha, ho⟩
  have H3 := Lib.hid (hs_only H2.out ho ha)
  clear ha ho D C2 H2
  have D := C3 w3 g H3.out.2.2
  go_wp2_with fail
  refine D.out.mono ?_
  rintro _ w4 ⟨rfl, ha, ho⟩
  have H4 := Lib.hid (hs_only H3.out ho ha)
  clear ha ho D C3 H3
  have D := C4 w4 g H4.out.2.2
  go_wp2_with fail
  refine D.out.mono ?_
  rintro _ w5 ⟨rfl, hb⟩
  have H5 := Lib.hid (hs_next HK.out H4.out hb)
  clear hb D C4 H4
  have D := C5 w5 g H5.out.2.2
  go_wp2_with fail
  refine D.out.mono ?_
  rintro _ w6 ⟨rfl, hb⟩
  have H6 := Lib.hid (hs_next HK.out H5.out hb)
  clear hb D C5 H5
  go_wp2
  go_ret
  exact ⟨rfl, H6.out.1⟩

set_option maxRecDepth 100000 in
set_option maxHeartbeats 4000000 in
theorem nil_walk {At : World → Nat → Sx → Prop} (K : Keeps At) (n : Int) (w : World) (hn : I64 n) : Calls Try.prog 5 #[.int .i64 n] w fun e w' => e = .returned (.bool true) ∧ Below w.heap.size w w' := by
  have H0 := Lib.hid (Below.refl w.heap.size w)
  have C0 := fun W => Lib.hid (K.nvalue W)
  have C1 := fun W => Lib.hid (K.nmost W)
  have C2 := fun W => Lib.hid (K.ndown W n hn)
  have C3 := fun W => Lib.hid (K.npost W n hn)
  have C4 := fun W => Lib.hid (K.nfill W)
  have C5 := fun W => Lib.hid (lives_any K W)
  clear K hn
  go_enter Try.func5, Try.ntmps5
  go_wp2_with fail
  refine (C0 _).out.mono ?_
  rintro _ w1 ⟨rfl, hb⟩
  have H1 := Lib.hid (H0.out.trans (hb.mono H0.out.size))
  clear hb C0 H0
  go_wp2_with fail
  refine (C1 _).out.mono ?_
  rintro _ w2 ⟨rfl, hb⟩
  have H2 := Lib.hid (H1.out.trans (hb.mono H1.out.size))
  clear hb C1 H1
  go_wp2_with fail
  refine (C2 _).out.mono ?_
  rintro _ w3 ⟨rfl, hb⟩
  have H3 := Lib.hid (H2.out.trans (hb.mono H2.out.size))
  clear hb C2 H2
  go_wp2_with fail
  refine (C3 _).out.mono ?_
  rintro _ w4 ⟨rfl, hb⟩
  have H4 := Lib.hid (H3.out.trans (hb.mono H3.out.size))
  clear hb C3 H3
  go_wp2_with fail
  refine (C4 _).out.mono ?_
  rintro _ w5 ⟨rfl, hb⟩
  have H5 := Lib.hid (H4.out.trans (hb.mono H4.out.size))
  clear hb C4 H4
  go_wp2_with fail
  refine (C5 _).out.mono ?_
  rintro _ w6 ⟨rfl, hb⟩
  have H6 := Lib.hid (H5.out.trans (hb.mono H5.out.size))
  clear hb C5 H5
  go_wp2
  go_ret
  exact ⟨rfl, H6.out⟩

/-- Behind a call: what is answered, and what the counter is like. -/
def DoPost (At : World → Nat → Sx → Prop) (q : Sx × Int) (g : Nat) (w : World) (e : Ending) (w' : World) : Prop := e = .returned (.int .i64 q.2) ∧ At w' g q.1 ∧ Only g w w'
set_option maxRecDepth 100000 in
set_option maxHeartbeats 4000000 in
theorem do_any {At : World → Nat → Sx → Prop} (K : Keeps At) (s : Sx) (g : Nat) (k n : Int) (w : World) (ha : At w g s) (hf : Fine s) (hn : I64 n) :
    Calls Try.prog 11 #[.pointer (some ⟨g, 0, none⟩), .agg #[.int .i64 k, .int .i64 n]] w (DoPost At (doS s k n) g w) := by
  have HK := Lib.hid K
  have HF := Lib.hid hf
  have HN := Lib.hid hn
  have hlt := K.lt _ _ _ ha
  have hb0 : Below w.heap.size w (w.alloc (.cells #[.int .i64 k, .int .i64 n] 32)) := (Below.refl _ w).alloc (Nat.le_refl _) _
  have HA := Lib.hid (K.loc _ _ _ _ ha (hb0.block _ hlt) hb0.size)
  have HX := Lib.hid (heap_alloc_new w (.cells #[.int .i64 k, .int .i64 n] 32))
  have HO : Hid (∀ w', Only g (w.alloc (.cells #[.int .i64 k, .int .i64 n] 32)) w' → Only g w w') := Lib.hid (fun w' h => (Only.of_below hb0).trans h)
  obtain ⟨q, hq⟩ : ∃ q, q = doS s k n := ⟨_, rfl⟩
  rw [← hq]
  have HQ := Lib.hid hq
  unfold DoPost
  clear K ha hf hn hlt hb0 hq
  by_cases k0 : k = 0
  · subst k0
    have C := Lib.hid (HK.out.down _ g s n HA.out HF.out HN.out)
    clear HK HF HN HA
    by_cases hd : 1 ≤ n ∧ n ≤ s.v
    · have HR : Hid (q.2 = 1 ∧ (doS s 0 n).1 = q.1) := Lib.hid (by
        rw [HQ.out]
        refine ⟨?_, rfl⟩
        unfold doS
        rw [if_pos rfl, if_neg (by omega)])
      rw [decide_eq_true hd] at C
      clear hd HQ
      go_enter Try.func11, Try.ntmps11
      go_upto_region 1 with fail
      generalize w.alloc (.cells #[.int .i64 0, .int .i64 n] 32) = W1 at *
      obtain ⟨y0, y1⟩ := cells2 HX.out
      go_wp2_with fail
      refine C.out.mono ?_
      rintro _ w2 ⟨rfl, ha, ho⟩
      have HE := Lib.hid (And.intro ha (HO.out _ ho))
      clear ha ho C y0 y1 HX
      go_wp2
      go_ret
      exact ⟨by rw [HR.out.1]; rfl, by rw [← HR.out.2]; exact HE.out.1, HE.out.2⟩
    · have HR : Hid (q.2 = 0 ∧ (doS s 0 n).1 = q.1) := Lib.hid (by
        rw [HQ.out]
        refine ⟨?_, rfl⟩
        unfold doS
        rw [if_pos rfl, if_pos (by omega)])
      rw [decide_eq_false hd] at C
      clear hd HQ
      go_enter Try.func11, Try.ntmps11
      go_upto_region 1 with fail
      generalize w.alloc (.cells #[.int .i64 0, .int .i64 n] 32) = W1 at *
      obtain ⟨y0, y1⟩ := cells2 HX.out
      go_wp2_with fail
      refine C.out.mono ?_
      rintro _ w2 ⟨rfl, ha, ho⟩
      have HE := Lib.hid (And.intro ha (HO.out _ ho))
      clear ha ho C y0 y1 HX
      go_wp2
      go_ret
      exact ⟨by rw [HR.out.1]; rfl, by rw [← HR.out.2]; exact HE.out.1, HE.out.2⟩
  by_cases k1 : k = 1
  · subst k1
    have C := Lib.hid (HK.out.post _ g s n HA.out HF.out HN.out)
    rw [← HQ.out] at C
    clear HK HF HN HA k0 HQ
    obtain ⟨q1, q2⟩ := q
    dsimp only at C ⊢
    go_enter Try.func11, Try.ntmps11
    go_upto_region 1 with fail
    generalize w.alloc (.cells #[.int .i64 1, .int .i64 n] 32) = W1 at *
    obtain ⟨y0, y1⟩ := cells2 HX.out
    go_wp2_with fail
    refine C.out.mono ?_
    rintro _ w2 ⟨rfl, ha, ho⟩
    have HE := Lib.hid (And.intro ha (HO.out _ ho))
    clear ha ho C y0 y1 HX
    go_wp2
    go_ret
    exact ⟨rfl, HE.out.1, HE.out.2⟩
  · have e0 : (k == 0) = false := by rw [beq_eq_false_iff_ne]; exact k0
    have e1 : (k == 1) = false := by rw [beq_eq_false_iff_ne]; exact k1
    have C := Lib.hid (HK.out.fill _ g s HA.out HF.out)
    have HR : Hid (q = (⟨s.m, s.m⟩, s.m - s.v)) := Lib.hid (by rw [HQ.out]; unfold doS; rw [if_neg k0, if_neg k1])
    clear HK HF HN HA HQ k0 k1
    generalize s.m - s.v = y at *
    go_enter Try.func11, Try.ntmps11
    go_upto_region 1 with fail
    generalize w.alloc (.cells #[.int .i64 k, .int .i64 n] 32) = W1 at *
    obtain ⟨y0, y1⟩ := cells2 HX.out
    go_wp2_with fail
    refine C.out.mono ?_
    rintro _ w2 ⟨rfl, ha, ho⟩
    have HE := Lib.hid (And.intro ha (HO.out _ ho))
    clear ha ho C y0 y1 HX
    go_wp2
    go_ret
    exact ⟨by rw [HR.out]; rfl, by rw [HR.out]; exact HE.out.1, HE.out.2⟩
end Go.Proofs.Ytngfienkbmmhjaa.sem
