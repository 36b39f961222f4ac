/-
  The document's region: Begin, Again, Has, Wrote, Undo, Frames. No condition.
-/
import Derived.Test.YtlkcpplpjjbiaaaReG
import Derived.Test.YtlkcpplpjjbiaaaFRefTurn
import Derived.LoopTactic
namespace Go.Proofs.Ytlkcpplpjjbiaaa.reg
open Go.RowKit Go.ChangeShapes
open Go.Proofs.Ytlkcpplpjjbiaaa.frames (Fr In FrsPost turnF refTurn_any)
open Go.Proofs.Ytlkcpplpjjbiaaa.pol (SAt below_grown)
set_option linter.unusedVariables false
set_option linter.unusedSimpArgs false

set_option maxRecDepth 100000 in
theorem refBegin_any (A : Option Addr) (n c : Nat) (num : Int) (w : World) : Calls Try.prog 10 #[.slice A n c, .int .i64 num] w fun e w' => e = .returned (rgV ⟨A, n, c, num, 0, none, 0, 0, none, 0, 0⟩) ∧ Below w.heap.size w w' := by
  have HB := Lib.hid ((Below.refl w.heap.size w).alloc (Nat.le_refl _) (rgO rgZ))
  have HX := Lib.hid (heap_alloc_new w (rgO rgZ))
  go_enter Try.func10, Try.ntmps10
  go_upto_region 1 with (first | refine wrg_alloc rfl rfl ?_)
  try simp only [Act.put, List.setIfInBounds_toArray, List.set_cons_zero, List.set_cons_succ]
  generalize w.alloc (rgO rgZ) = W1 at *
  go_wp2_with (first | refine wrg_build2 rfl _ _ rfl _ _ _ _ rfl rfl ?_ | refine wrg_store rfl _ _ rfl w.heap.size rgZ _ rfl rfl HX.out ?_)
  exact ret_begin rfl rfl (rg_turned HX.out _) ⟨rfl, row_below HB.out (Nat.le_refl _) _⟩
set_option maxRecDepth 100000 in
theorem refAgain_any (m : Rg) (k : Int) (w : World) (hab : 0 ≤ m.ab ∧ m.ab ≤ 4000) : Calls Try.prog 31 #[rgV m, .int .i64 k] w fun e w' => e = .returned (rgV ⟨m.A, m.n, m.c, k, m.ab + 1, none, 0, 0, none, 0, 0⟩) ∧ Below w.heap.size w w' := by
  have z1 : (w.alloc (rgO m)).heap.size = w.heap.size + 1 := World.size_alloc _ _
  have HB := Lib.hid (((Below.refl w.heap.size w).alloc (Nat.le_refl _) (rgO m)).alloc (by omega) (rgO rgZ))
  have HX : Hid (((w.alloc (rgO m)).alloc (rgO rgZ)).heap[w.heap.size]? = some (rgO m)) := Lib.hid ((Below.heap_alloc _ _ _ (by omega)).trans (heap_alloc_new w _))
  have HY : Hid (((w.alloc (rgO m)).alloc (rgO rgZ)).heap[w.heap.size + 1]? = some (rgO rgZ)) := Lib.hid (by rw [← z1]; exact heap_alloc_new _ _)
  have hw2 : wrap64 (m.ab + 1) = m.ab + 1 := IntWalk.wrap64_in _ (by omega)
  have hw3 : IntKind.i64.wrap (m.ab + 1) = m.ab + 1 := by rw [IntWalk.i64_left, hw2]
  clear z1 hab
  go_enter Try.func31, Try.ntmps31
  go_upto_region 1 with (first | refine wrg_box rfl _ rfl m rfl ?_ | refine wrg_alloc rfl rfl ?_)
  try simp only [Act.put, List.setIfInBounds_toArray, List.set_cons_zero, List.set_cons_succ]
  try simp only [World.size_alloc]
  generalize (w.alloc (rgO m)).alloc (rgO rgZ) = W1 at *
  obtain ⟨x0, x1, x2, x3, x4⟩ := rg_cells HX.out
  go_wp2_with (first | refine wrg_build3 rfl _ _ _ rfl _ _ _ _ _ rfl rfl rfl ?_ | refine wrg_store rfl _ _ rfl (w.heap.size + 1) rgZ _ rfl rfl HY.out ?_)
  exact ret_again rfl rfl (rg_turned HY.out _) ⟨rfl, row_below HB.out (by omega) _⟩
set_option maxHeartbeats 1000000 in
theorem refHas_any (A : Option Addr) (c : Nat) (l : List E) (o : Int) (w : World) (B : Nat → Prop) (hs : SAt w B A l) (hl : l.length ≤ 4096) :
    Calls Try.prog 41 #[.slice A l.length c, .int .i64 o] w fun e w' => e = .returned (.bool (l.any (fun p => p.1 == o))) ∧ w = w' := by
  have HS := Lib.hid hs
  have HY : Hid (∀ k, k < l.length → (l.getD k (0, 0)).1 = o → l.any (fun p => p.1 == o) = true) := Lib.hid fun k hk e => by
    rw [List.any_eq_true]
    refine ⟨l.getD k (0, 0), ?_, by simpa using e⟩
    rw [List.getD_eq_getElem?_getD, List.getElem?_eq_getElem hk]
    exact List.getElem_mem hk
  have HN : Hid ((∀ j, j < l.length → (l.getD j (0, 0)).1 ≠ o) → l.any (fun p => p.1 == o) = false) := Lib.hid fun h => by
    rw [← Bool.not_eq_true, List.any_eq_true]
    rintro ⟨p, hp, e⟩
    exact lacks_iff.1 h p hp (by simpa using e)
  clear hs
  generalize l.any (fun p => p.1 == o) = r at *
  go_enter Try.func41, Try.ntmps41
  go_wp2
  go_loop [5] (fun i => ∃ k : Nat, i = .int .i64 (k : Int) ∧ k ≤ l.length ∧ Hid (∀ j, j < k → (l.getD j (0, 0)).1 ≠ o)) (fun i => l.length - (intOf i).toNat)
  case atStart => exact ⟨0, rfl, Nat.zero_le _, Lib.hid fun j h => absurd h (Nat.not_lt_zero _)⟩
  case round =>
    obtain ⟨k, rfl, hk, HR⟩ := hrel
    by_cases hlt : k < l.length
    · have HK := Lib.hid hlt
      obtain ⟨b, off, rfl, _, _, c0, c1⟩ := HS.out k hlt
      have HQ := Lib.hid (HY.out k hlt)
      have HR2 : Hid ((l.getD k (0, 0)).1 ≠ o → ∀ j, j < k + 1 → (l.getD j (0, 0)).1 ≠ o) := Lib.hid fun h j hj => by
        by_cases e : j = k
        · rw [e]; exact h
        · exact HR.out j (by omega)
      generalize l.getD k (0, 0) = x at *
      by_cases he : x.1 = o
      · obtain rfl := HQ.out he
        subst he
        clear HY HN HR HR2 HS
        go_wp2_with fail
        go_ret
        exact ⟨rfl, rfl⟩
      · have hx : (x.1 == o) = false := by simpa using he
        have HR3 := Lib.hid (HR2.out he)
        clear HR HR2 he HQ
        go_wp2_with fail
        go_round
        case rel => exact ⟨k + 1, by go_num, HK.out, HR3⟩
        case measure => have := HK.out; simp [intOf]; omega
    · obtain rfl : k = l.length := by omega
      obtain rfl := HN.out HR.out
      clear HY HN HS
      go_wp2_with fail
      go_ret
      exact ⟨rfl, rfl⟩
set_option maxRecDepth 100000 in
theorem refFrames_any (m : Rg) (l : List Fr) (w : World) (hI : In w m.A m.c l) (hn : m.n = l.length) : Calls Try.prog 28 #[rgV m] w (FrsPost (if 0 < m.ab then turnF l m.ab else l) w) := by
  have hb0 := (Below.refl w.heap.size w).alloc (Nat.le_refl _) (rgO m)
  have HB := Lib.hid hb0
  have HX := Lib.hid (heap_alloc_new w (rgO m))
  have HI := Lib.hid (hI.next hb0)
  have HT : Hid (Calls Try.prog 40 #[.slice m.A m.n m.c, .int .i64 m.ab] (w.alloc (rgO m)) (FrsPost (turnF l m.ab) (w.alloc (rgO m)))) := Lib.hid (by rw [hn]; exact refTurn_any m.A m.c l m.ab _ HI.out)
  unfold FrsPost at HT ⊢
  clear hI hb0
  by_cases hp : 0 < m.ab
  · rw [if_pos hp]
    have hd : decide (0 < m.ab) = true := decide_eq_true hp
    have hd2 : decide (m.ab > 0) = true := decide_eq_true hp
    generalize turnF l m.ab = r at *
    clear hp hn
    go_enter Try.func28, Try.ntmps28
    go_upto_region 1 with (first | refine wrg_box rfl _ rfl m rfl ?_)
    try simp only [Act.put, List.setIfInBounds_toArray, List.set_cons_zero, List.set_cons_succ]
    generalize w.alloc (rgO m) = W1 at *
    obtain ⟨x0, x1, x2, x3, x4⟩ := rg_cells HX.out
    go_wp2_with (refine HT.out.mono ?_; rintro _ w2 ⟨A2, c2, rfl, h1, h2⟩; have HD := Lib.hid (And.intro h1 (HB.out.trans (h2.mono HB.out.size))); clear h1 h2)
    go_ret
    exact ⟨_, _, rfl, HD.out.1, HD.out.2⟩
  · rw [if_neg hp]
    have hd : decide (0 < m.ab) = false := decide_eq_false hp
    have hd2 : decide (m.ab > 0) = false := decide_eq_false hp
    have HN := Lib.hid hn
    clear hp hn HT
    go_enter Try.func28, Try.ntmps28
    go_upto_region 1 with (first | refine wrg_box rfl _ rfl m rfl ?_)
    try simp only [Act.put, List.setIfInBounds_toArray, List.set_cons_zero, List.set_cons_succ]
    generalize w.alloc (rgO m) = W1 at *
    obtain ⟨x0, x1, x2, x3, x4⟩ := rg_cells HX.out
    go_wp2_with fail
    go_ret
    exact ⟨_, _, by simp [HN.out], HI.out, HB.out⟩
/-- A list of shares in memory of a call's own. -/
def NewS (w : World) (l : List E) (e : Ending) (w' : World) : Prop := ∃ A c, e = .returned (.slice A l.length c) ∧ pol.Own w' w.heap.size (.slice A l.length c) l ∧ Below w.heap.size w w'
theorem drop_rev {l : List E} {j : Nat} (h : j < l.length) : (l.drop j).reverse = (l.drop (j + 1)).reverse ++ [l.getD j (0, 0)] := by
  rw [List.drop_eq_getElem_cons h, List.reverse_cons, List.getD_eq_getElem?_getD, List.getElem?_eq_getElem h]
  rfl
set_option maxRecDepth 100000 in
set_option maxHeartbeats 2000000 in
theorem refUndo_any (m : Rg) (l : List E) (w : World) (B : Nat → Prop) (hs : SAt w B m.U l) (hn : m.nu = l.length) (hl : l.length ≤ 4000) : Calls Try.prog 26 #[rgV m] w (NewS w l.reverse) := by
  have hb0 := (Below.refl w.heap.size w).alloc (Nat.le_refl _) (rgO m)
  have HB := Lib.hid hb0
  have HX := Lib.hid (heap_alloc_new w (rgO m))
  have HS := Lib.hid (hs.next hb0)
  have HZ : Hid (w.heap.size < (w.alloc (rgO m)).heap.size) := Lib.hid (by rw [World.size_alloc]; omega)
  have HL := Lib.hid hl
  unfold NewS
  clear hs hb0
  go_enter Try.func26, Try.ntmps26
  go_upto_region 1 with (first | refine wrg_box rfl _ rfl m rfl ?_)
  try simp only [Act.put, List.setIfInBounds_toArray, List.set_cons_zero, List.set_cons_succ]
  generalize w.alloc (rgO m) = W1 at *
  obtain ⟨x0, x1, x2, x3, x4⟩ := rg_cells HX.out
  rw [hn] at x3
  have H0 : Hid (pol.Own (W1.alloc (.cells #[] 42)) W1.heap.size (.slice (some ⟨W1.heap.size, 0, none⟩) 0 0) ((l.drop l.length).reverse) ∧ Below W1.heap.size W1 (W1.alloc (.cells #[] 42))) := Lib.hid ⟨by rw [List.drop_length]; exact pol.Own.empty (heap_alloc_new W1 _), (Below.refl _ W1).alloc (Nat.le_refl _) _⟩
  have HC : Hid (∀ W, Below W1.heap.size W1 W → W.cell? ⟨w.heap.size, 3, none⟩ = some (.slice m.U l.length m.cu)) := Lib.hid fun W hb => (hb.cell (p := ⟨w.heap.size, 3, none⟩) HZ.out).trans x3
  have hw1 : wrap64 ((l.length : Int) - 1) = (l.length : Int) - 1 := IntWalk.wrap64_in _ (by omega)
  have hw2 : IntKind.i64.wrap ((l.length : Int) - 1) = (l.length : Int) - 1 := by rw [IntWalk.i64_left, hw1]
  have z3 := HC.out _ H0.out.2
  clear x0 x1 x2 x4 hn hl HX
  go_wp2_with fail
  clear hw1 hw2 z3
  go_loopw [3, 4] (fun v i wr => ∃ k : Nat, i = .int .i64 ((k : Int) - 1) ∧ k ≤ l.length ∧ Hid (pol.Own wr W1.heap.size v ((l.drop k).reverse) ∧ Below W1.heap.size W1 wr)) (fun _ i _ => (intOf i + 1).toNat)
  case atStart => exact ⟨l.length, rfl, Nat.le_refl _, H0⟩
  case round =>
    obtain ⟨k, rfl, hk, HW⟩ := hrel
    clear H0
    cases k with
    | zero =>
      have HD := Lib.hid HW.out
      rw [List.drop_zero] at HD
      obtain ⟨A', c', e⟩ := HD.out.1.slice
      subst e
      clear HW HS HC
      go_wp2_with fail
      go_ret
      exact ⟨_, _, rfl, HD.out.1.base HB.out.size, HB.out.trans (HD.out.2.mono HB.out.size)⟩
    | succ j =>
      have e1 : ((j + 1 : Nat) : Int) - 1 = (j : Int) := by omega
      rw [e1]
      have hj : j < l.length := hk
      have HJ := Lib.hid hj
      have y3 := HC.out wr HW.out.2
      have HG := Lib.hid (HS.out.next HW.out.2)
      obtain ⟨b, off, hA, _, _, c0, c1⟩ := HG.out j hj
      have HV : Hid ((l.drop j).reverse = (l.drop (j + 1)).reverse ++ [l.getD j (0, 0)]) := Lib.hid (drop_rev hj)
      have HLn : Hid ((l.drop (j + 1)).reverse.length ≤ 4000) := Lib.hid (by rw [List.length_reverse, List.length_drop]; have := HL.out; omega)
      generalize l.getD j (0, 0) = x at *
      have HO := Lib.hid (SAt.one (e := x) (heap_alloc_new wr (.cells #[.int .i64 x.1, .int .i64 x.2] 42)))
      have H1 := Lib.hid (And.intro (HW.out.1.next ((Below.refl _ wr).alloc (Nat.le_refl _) (.cells #[.int .i64 x.1, .int .i64 x.2] 42))) (HW.out.2.alloc HW.out.2.size (.cells #[.int .i64 x.1, .int .i64 x.2] 42)))
      rw [hA] at y3
      clear hA
      have k0 : (0 : Int) ≤ (j : Int) := by omega
      have k1 : (j : Int) < (l.length : Int) := by omega
      have hw1 : wrap64 ((j : Int) - 1) = (j : Int) - 1 := IntWalk.wrap64_in _ (by have := HL.out; omega)
      have hw2 : IntKind.i64.wrap ((j : Int) - 1) = (j : Int) - 1 := by rw [IntWalk.i64_left, hw1]
      clear HG HW hj hk e1
      go_wp2_with (at_builtin; refine pol.wpList_appS (by rfl) (.tmp 14) (.tmp 20) (by rfl) W1.heap.size 1 1 _ u3 ⟨wr.heap.size, 0, none⟩ ((l.drop (j + 1)).reverse) [x] (by rfl) H1.out.1 (by rfl) (by rfl) HO.out (by have := HLn.out; simp at this ⊢; omega) H1.out.2.size ?_)
      intro v2 w2 ho2 hg2
      have H3 : Hid (pol.Own w2 W1.heap.size v2 ((l.drop j).reverse) ∧ Below W1.heap.size W1 w2) := Lib.hid (by rw [HV.out]; exact ⟨ho2, below_grown H1.out.2 hg2 (fun j e => (H1.out.1.lt e).1) H1.out.2.size⟩)
      clear ho2 hg2 HV HO H1 c0 c1
      go_wp2_with fail
      go_roundw
      case rel => exact ⟨j, rfl, Nat.le_of_lt HJ.out, H3⟩
      case measure => simp [intOf]
end Go.Proofs.Ytlkcpplpjjbiaaa.reg
