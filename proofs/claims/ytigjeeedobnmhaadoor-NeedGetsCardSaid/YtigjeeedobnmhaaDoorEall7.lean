/-
  Texts of one claim in one file: ERefGet, DSame, ESame, EOwn, ESpec, EGetIn, Shut, DOps, EOps, EClose, EWalks. Each has its own sentence, with its conditions.
-/
import Derived.Test.YtigjeeedobnmhaaDoorEall6
import Derived.Test.YtigjeeedobnmhaaDoorEall2
import Derived.Test.YtigjeeedobnmhaaDoorEall4
import Derived.Test.YtigjeeedobnmhaaDoorEall5
import Derived.WalkLawsBesides
import Derived.Test.YtigjeeedobnmhaaDoorRows
import Derived.OpenShut
import Derived.Below
import Derived.ChangeSame
import Derived.ChangeArms
import Derived.Carry
import Derived.ProofKit
import Derived.WideKeyArgs
import Derived.WideShapes
import Derived.LaidMore
import Derived.Lib.LaidTab
import Derived.Deep.Slices
import Derived.Test.YtigjeeedobnmhaaDoorEall3
import Derived.Stop.Joined
import Derived.Stop.LaidErr
/-
  The document's own answer of the wait with which bytes begin. A text of at most two to the forty-seventh bytes.
-/
namespace Go.Proofs.YtigjeeedobnmhaaDoor.need
open Go.RowKit Go.ChangeShapes
open Go.Proofs.YtigjeeedobnmhaaDoor.octet (St rdByte rdNum Stands)
open Go.Proofs.YtigjeeedobnmhaaDoor.objs (De zero DAt cells3 below_drewN)
set_option linter.unusedVariables false

theorem size_list (y : ByteArray) : y.size = y.data.toList.length := by rw [Array.length_toList]; rfl
/-- What a reading of bytes tells. -/
def GotPost9 (g : List (List De) × Nat × Nat) (w : World) (e : Ending) (w' : World) : Prop :=
  ∃ v, e = .returned (.tuple #[v, .int .i64 (g.2.1 : Int), .int .i64 (g.2.2 : Int)]) ∧ (∃ A cap, v = .slice A g.1.length cap ∧ WAt w' A g.1) ∧ Below w.heap.size w w'
theorem got_read (d : List De) (l : List UInt8) : getW d l = if (readW d ⟨l, 0⟩).2.2 ≠ 0 then ([], 0, (readW d ⟨l, 0⟩).2.2) else ((readW d ⟨l, 0⟩).1, l.length - (readW d ⟨l, 0⟩).2.1.rest.length, 0) := rfl

set_option maxRecDepth 100000 in
set_option maxHeartbeats 2000000 in
theorem refGet9_any (w : World) (A : Option Addr) (capd : Nat) (d : List De) (hdl : d.length ≤ 9223372036854775807) (hA : DAt w A d) (t : ByteArray) (ht : t.size ≤ 140737488355328) :
    Calls Tryd.prog 17 #[.slice A d.length capd, .string t] w (GotPost9 (getW d t.data.toList) w) := by
  have hst : Stands t 0 0 ⟨t.data.toList, 0⟩ := ⟨Nat.zero_le _, rfl, rfl, fun h => absurd rfl h⟩
  have HR := Lib.hid (refRead9_any w A capd d hdl hA t 0 0 ⟨t.data.toList, 0⟩ ht hst)
  unfold ReadPost9 at HR
  have HG := Lib.hid (got_read d t.data.toList)
  clear hst hA
  obtain ⟨g, hg⟩ : ∃ g, g = getW d t.data.toList := ⟨_, rfl⟩
  have HGg := Lib.hid hg
  rw [← hg]
  clear hg
  generalize readW d ⟨t.data.toList, 0⟩ = r at *
  obtain ⟨ls, S, e⟩ := r
  dsimp only at HG HR
  unfold GotPost9
  go_enter Tryd.func17, Tryd.ntmps17
  go_wp2_with fail
  refine HR.out.mono ?_
  rintro e1 w1 ⟨v, k, rfl, hS, ⟨Av, cv, rfl, hwa⟩, hb⟩
  have HS := Lib.hid hS
  have HB := Lib.hid hb
  have HO := Lib.hid hwa
  clear hS hb hwa
  have hbL : Below w1.heap.size w1 (w1.alloc (.cells #[.string t, .int .i64 (k : Int), .int .i64 (S.err : Int)] 69)) := (Below.refl _ _).alloc (Nat.le_refl _) _
  have hR4 : (w1.alloc (.cells #[.string t, .int .i64 (k : Int), .int .i64 (S.err : Int)] 69)).heap[w1.heap.size]? = some (.cells #[.string t, .int .i64 (k : Int), .int .i64 (S.err : Int)] 69 (0, 0)) := heap_alloc_new w1 _
  have HO2 := Lib.hid (HO.out.next hbL)
  have HB2 := Lib.hid (HB.out.trans (hbL.mono HB.out.size))
  obtain ⟨z0, z1, z2, _, _, _⟩ := cells3 hR4
  clear hbL hR4 HO HB HR
  go_upto_region 2 with fail
  generalize w1.alloc (.cells #[.string t, .int .i64 (k : Int), .int .i64 (S.err : Int)] 69) = W2 at *
  generalize w1.heap.size = b at *
  by_cases he : e = 0
  · have HE : Hid (g = (ls, k, 0)) := Lib.hid (by
      rw [HGg.out, HG.out, if_neg (by simp [he])]
      have h1 := HS.out.1
      have h2 := HS.out.2.1
      rw [h2, List.length_drop, ← size_list]
      congr 2
      omega)
    have he' : ((e : Int) != 0) = false := by simp [he]
    clear he HG
    go_wp2_with fail
    go_quiet (fail)
    go_wp2
    rw [HE.out]
    refine bodyPost_ret (v := .tuple #[.slice Av ls.length cv, .int .i64 (k : Int), .int .i64 0]) (by simp [results, Tryd.results17, go_sem]) rfl ⟨_, rfl, ⟨Av, cv, rfl, HO2.out.drewN _⟩, below_drewN HB2.out _⟩
  · have HE : Hid (g = ([], 0, e)) := Lib.hid (by rw [HGg.out, HG.out, if_pos he])
    have he' : ((e : Int) != 0) = true := by simpa using he
    clear he HG
    go_wp2_with fail
    rw [HE.out]
    exact bodyPost_ret (v := .tuple #[.slice none 0 0, .int .i64 0, .int .i64 (e : Int)]) (by simp [results, Tryd.results17, go_sem]) rfl ⟨_, rfl, ⟨none, 0, rfl, WAt.nil _ _⟩, HB2.out⟩
end Go.Proofs.YtigjeeedobnmhaaDoor.need

/-
  Whether two lists of objects are one, as the statements ask it. No condition but that both are of at most a hundred.
-/
namespace Go.Proofs.YtigjeeedobnmhaaDoor.objs
open Go.RowKit Go.ChangeShapes
set_option linter.unusedVariables false

theorem De.ext' {a b : De} : a = b ↔ a.1 = b.1 ∧ a.2.1 = b.2.1 ∧ a.2.2 = b.2.2 := by
  obtain ⟨a1, a2, a3⟩ := a
  obtain ⟨b1, b2, b3⟩ := b
  simp
theorem list_ext {l m : List De} (hl : l.length = m.length) (h : ∀ j, j < l.length → l.getD j zero = m.getD j zero) : l = m := by
  apply List.ext_getElem hl
  intro j h1 h2
  have := h j h1
  rwa [List.getD_eq_getElem?_getD, List.getD_eq_getElem?_getD, List.getElem?_eq_getElem h1, List.getElem?_eq_getElem h2] at this

end Go.Proofs.YtigjeeedobnmhaaDoor.objs

/-
  Whether two waits are one, as the statements ask it. No condition but that both have at most six ways, each of at most six needs.
-/
namespace Go.Proofs.YtigjeeedobnmhaaDoor.need
open Go.RowKit Go.ChangeShapes
open Go.Proofs.YtigjeeedobnmhaaDoor.objs (De zero CellsAt DAt below_drewN list_ext De.ext')
set_option linter.unusedVariables false

theorem wlist_ext {l m : List (List De)} (hl : l.length = m.length) (h : ∀ j, j < l.length → l.getD j [] = m.getD j []) : l = m := by
  apply List.ext_getElem hl
  intro j h1 h2
  have := h j h1
  rwa [List.getD_eq_getElem?_getD, List.getD_eq_getElem?_getD, List.getElem?_eq_getElem h1, List.getElem?_eq_getElem h2] at this
def SamePost (r : Bool) (w : World) (e : Ending) (w' : World) : Prop := e = .returned (.bool r) ∧ Below w.heap.size w w'
set_option maxRecDepth 100000 in
set_option maxHeartbeats 16000000 in
theorem refSame9_any (A B : Option Addr) (ca cb : Nat) (l m : List (List De)) (hl : l.length ≤ 6) (hm : m.length ≤ 6) (hll : ∀ x ∈ l, x.length ≤ 6) (hmm : ∀ x ∈ m, x.length ≤ 6) (w : World) (hA : WAt w A l) (hB : WAt w B m) :
    Calls Tryd.prog 18 #[.slice A l.length ca, .slice B m.length cb] w (SamePost (decide (l = m)) w) := by
  by_cases hlm : l.length = m.length
  · obtain ⟨r, hr⟩ : ∃ r, r = decide (l = m) := ⟨_, rfl⟩
    have HR := Lib.hid hr
    rw [← hr]
    unfold SamePost
    have HLM := Lib.hid hlm
    have HA := Lib.hid hA
    have HB := Lib.hid hB
    have HLl := Lib.hid hll
    have HLm := Lib.hid hmm
    rw [← hlm]
    clear hr hA hB hlm hm hll hmm
    go_enter Tryd.func18, Tryd.ntmps18
    go_wp2_with fail
    go_loopw [5] (fun i wr => ∃ j : Nat, j ≤ l.length ∧ i = .int .i64 (j : Int) ∧ Hid (∀ k, k < j → l.getD k [] = m.getD k []) ∧ Hid (Below w.heap.size w wr)) (fun i _ => l.length - (intOf i).toNat)
    case atStart => exact ⟨0, Nat.zero_le _, rfl, Lib.hid (fun k hk => absurd hk (Nat.not_lt_zero k)), Lib.hid (Below.refl _ _)⟩
    case round =>
      obtain ⟨j, hj, rfl, HO, HW⟩ := hrel
      by_cases hlt : j < l.length
      · have hltm : j < m.length := by have := HLM.out; omega
        obtain ⟨a, oa, Aj, cj, rfl, hbl, hca, hda⟩ := (HA.out.next HW.out) j hlt
        obtain ⟨b, ob, Bj, dj, rfl, hbm, hcb, hdb⟩ := (HB.out.next HW.out) j hltm
        have hlt' : (j : Int) < (l.length : Int) := by omega
        have hj0 : (0 : Int) ≤ (j : Int) := by omega
        have h6a := HLl.out _ (getW_mem hlt)
        have h6b := HLm.out _ (getW_mem hltm)
        generalize hgl : l.getD j [] = lj at *
        generalize hgm : m.getD j [] = mj at *
        by_cases hne : lj.length = mj.length
        · have HNE := Lib.hid hne
          have HDA := Lib.hid hda
          have HDB := Lib.hid hdb
          rw [← hne] at hcb
          clear hne hda hdb
          go_wp2_with fail
          go_quiet (fail)
          go_wp2_with fail
          go_loopw [6] (fun i wr => ∃ k : Nat, k ≤ lj.length ∧ i = .int .i64 (k : Int) ∧ Hid (∀ x, x < k → lj.getD x zero = mj.getD x zero) ∧ Hid (Below w.heap.size w wr)) (fun i _ => lj.length - (intOf i).toNat)
          case atStart => exact ⟨0, Nat.zero_le _, rfl, Lib.hid (fun k hk => absurd hk (Nat.not_lt_zero k)), Lib.hid (below_drewN HW.out _)⟩
          case round =>
            obtain ⟨k, hk, rfl, HP, HW2⟩ := hrel
            obtain ⟨aA, oA, AjA, cjA, hAe, _, hcA, hdA⟩ := (HA.out.next HW2.out) j hlt
            obtain ⟨bB, oB, BjB, djB, hBe, _, hcB, hdB⟩ := (HB.out.next HW2.out) j hltm
            injection hAe with hAe
            injection hAe with hAe1 hAe2
            injection hBe with hBe
            injection hBe with hBe1 hBe2
            subst hAe1 hAe2 hBe1 hBe2
            rw [hgl] at hcA hdA
            rw [hgm] at hcB hdB
            rw [← HNE.out] at hcB
            by_cases hlk : k < lj.length
            · obtain ⟨a2, oa2, rfl, _, a0, a1, a3⟩ := hdA k hlk
              obtain ⟨b2, ob2, rfl, _, b0, b1, b3⟩ := hdB k (by rw [← HNE.out]; exact hlk)
              have hlk' : (k : Int) < (lj.length : Int) := by omega
              have hk0 : (0 : Int) ≤ (k : Int) := by omega
              have hpar : lj.getD k zero ≠ mj.getD k zero → ¬ l = m := fun h e => h (by rw [← hgl, ← hgm, e])
              clear hca hcb
              by_cases hx : lj.getD k zero = mj.getD k zero
              · have HE : Hid (∀ x, x < k + 1 → lj.getD x zero = mj.getD x zero) := Lib.hid (fun x hx2 => by
                  rcases Nat.lt_or_ge x k with h1 | h1
                  · exact HP.out x h1
                  · obtain rfl : x = k := by omega
                    exact hx)
                rw [← hx] at b0 b1 b3
                clear hx hpar
                generalize lj.getD k zero = d at *
                go_wp2_with fail
                go_quiet (fail)
                go_wp2
                go_roundw
                case rel => exact ⟨k + 1, by omega, by go_num, HE, Lib.hid (below_drewN HW2.out _)⟩
                case measure => simp [intOf]; omega
              · have HE := Lib.hid (hpar hx)
                have hne : ¬ ((lj.getD k zero).1 = (mj.getD k zero).1 ∧ (lj.getD k zero).2.1 = (mj.getD k zero).2.1 ∧ (lj.getD k zero).2.2 = (mj.getD k zero).2.2) := fun h => hx (De.ext'.2 h)
                clear hx hpar
                generalize lj.getD k zero = d at *
                generalize mj.getD k zero = f at *
                obtain ⟨d1, d2, d3⟩ := d
                obtain ⟨f1, f2, f3⟩ := f
                dsimp only at a0 a1 a3 b0 b1 b3 hne
                by_cases e1 : d1 = f1
                · subst e1
                  by_cases e2 : d2 = f2
                  · subst e2
                    have hc : (d3 == f3) = false := by rw [beq_eq_false_iff_ne]; exact fun e => hne ⟨rfl, rfl, e⟩
                    clear hne
                    go_wp2_with fail
                    go_quiet (fail)
                    go_wp2
                    go_ret
                    exact ⟨by rw [HR.out, decide_eq_false HE.out]; rfl, below_drewN HW2.out _⟩
                  · have hc : (d2 == f2) = false := by rw [beq_eq_false_iff_ne]; exact e2
                    clear hne e2
                    go_wp2_with fail
                    go_quiet (fail)
                    go_wp2
                    go_ret
                    exact ⟨by rw [HR.out, decide_eq_false HE.out]; rfl, below_drewN HW2.out _⟩
                · have hc : (d1 == f1) = false := by rw [beq_eq_false_iff_ne]; exact e1
                  clear hne e1
                  go_wp2_with fail
                  go_quiet (fail)
                  go_wp2
                  go_ret
                  exact ⟨by rw [HR.out, decide_eq_false HE.out]; rfl, below_drewN HW2.out _⟩
            · obtain rfl : k = lj.length := by omega
              have HE : Hid (∀ x, x < j + 1 → l.getD x [] = m.getD x []) := Lib.hid (fun x hx2 => by
                rcases Nat.lt_or_ge x j with h1 | h1
                · exact HO.out x h1
                · obtain rfl : x = j := by omega
                  rw [hgl, hgm]
                  exact list_ext HNE.out HP.out)
              clear hca hcb hcB hdB hdA
              go_wp2_with fail
              go_roundw
              case rel => exact ⟨j + 1, by omega, by go_num, HE, HW2⟩
              case measure => simp [intOf]; omega
        · have HE : Hid (¬ l = m) := Lib.hid (fun h => hne (by rw [← hgl, ← hgm, h]))
          have hnb : ((lj.length : Int) != (mj.length : Int)) = true := by simp; omega
          clear hne hda hdb
          go_wp2_with fail
          go_quiet (fail)
          go_wp2
          go_ret
          exact ⟨by rw [HR.out, decide_eq_false HE.out]; rfl, below_drewN HW.out _⟩
      · obtain rfl : j = l.length := by omega
        have HE : Hid (l = m) := Lib.hid (wlist_ext HLM.out HO.out)
        go_wp2_with fail
        go_ret
        exact ⟨by rw [HR.out, decide_eq_true HE.out]; rfl, HW.out⟩
  · have hd : decide (l = m) = false := decide_eq_false (fun h => hlm (by rw [h]))
    rw [hd]
    unfold SamePost
    have hne : ((l.length : Int) != (m.length : Int)) = true := by simp; omega
    clear hlm hd hA hB
    go_enter Tryd.func18, Tryd.ntmps18
    go_wp2_with fail
    go_ret
    exact ⟨rfl, Below.refl _ _⟩
end Go.Proofs.YtigjeeedobnmhaaDoor.need

/-
  What the statements make of their own arguments: objects and waits in memory of their own, and whether objects may be. No condition but that lengths are ints.
-/
namespace Go.Proofs.YtigjeeedobnmhaaDoor.need
open Go.RowKit Go.ChangeShapes
open Go.Proofs.YtigjeeedobnmhaaDoor.objs (De zero CellsAt DAt chk chk_long chk_zero Own own_new own_copy wpList_appD LIn Ints I64 ChkPost refCheck_any refCheck_long)
set_option linter.unusedVariables false

def DeclPost (l : List De) (w : World) (e : Ending) (w' : World) : Prop := ∃ A2 c2, e = .returned (.slice A2 l.length c2) ∧ DAt w' A2 l ∧ Below w.heap.size w w'
set_option maxHeartbeats 1000000 in
theorem decl_any (A : Option Addr) (cap : Nat) (l : List De) (hno : A = none → l = [] ∧ cap = 0) (hl : l.length ≤ 100) (w : World) (hA : DAt w A l) :
    Calls Tryd.prog 13 #[.slice A l.length cap] w (DeclPost l w) := by
  have hA1 := hA.next ((Below.refl _ _).alloc (Nat.le_refl _) (.cells #[] 48))
  have HB1 : Hid (Below w.heap.size w w) := Lib.hid (Below.refl _ _)
  have HNo := Lib.hid hno
  have HA := Lib.hid hA
  unfold DeclPost
  clear hno hA
  go_enter Tryd.func13, Tryd.ntmps13
  go_wp2_with (
    at_builtin
    refine wpList_appD (by rfl) (.tmp 3) (.tmp 4) (by rfl) w.heap.size l.length cap (.slice (some ⟨w.heap.size, 0, none⟩) 0 0) A [] l (by rfl) (own_new w) (by rfl) rfl HNo.out hA1 (by simp; omega) (by simp) ?_)
  intro v2 w2 hv2 hg2
  obtain ⟨hB2, hA2, A2, c2, rfl, hC2⟩ := own_copy HA.out HB1.out hv2 hg2 (fun k e => by simpa [Value.ownBlock] using e.symm)
  have HB2 := Lib.hid hB2
  have HC2 := Lib.hid hC2
  clear hv2 hg2 hB2 hA2 hC2 hA1
  go_wp2
  go_ret
  exact ⟨A2, c2, rfl, HC2.out, HB2.out⟩

def BadPost (l : List De) (w : World) (e : Ending) (w' : World) : Prop := e = .returned (.bool (decide ((chk l).2 ≠ 0))) ∧ Below w.heap.size w w'
set_option maxHeartbeats 1000000 in
theorem bad_any (A : Option Addr) (n cap : Nat) (l : List De) (w : World) (hI : LIn w A n cap l) : Calls Tryd.prog 8 #[.slice A n cap] w (BadPost l w) := by
  obtain ⟨_, hnc, hcm, hA, _, hlen⟩ := hI
  have HC : Hid (Calls Tryd.prog 23 #[.slice A n cap] w (ChkPost (chk l) w)) := Lib.hid (by
    by_cases h : n ≤ 100
    · obtain rfl : n = l.length := by omega
      exact refCheck_any A cap l (by omega) w hA
    · rw [chk_long (by omega)]
      exact refCheck_long A cap n (by omega) w)
  unfold ChkPost at HC
  unfold BadPost
  clear hA hlen hnc hcm
  generalize chk l = p at *
  obtain ⟨i, c⟩ := p
  dsimp only at HC ⊢
  by_cases hc : c = 0
  · have hb : ((c : Int) != 0) = false := by simp [hc]
    have HE : Hid (decide (c ≠ 0) = false) := Lib.hid (by simp [hc])
    rw [HE.out]
    clear hc
    go_enter Tryd.func8, Tryd.ntmps8
    go_wp2_with fail
    refine HC.out.mono ?_
    rintro e w1 ⟨rfl, hb1⟩
    go_wp2
    go_ret
    exact ⟨rfl, hb1⟩
  · have hb : ((c : Int) != 0) = true := by simpa using hc
    have HE : Hid (decide (c ≠ 0) = true) := Lib.hid (by simpa using hc)
    rw [HE.out]
    clear hc
    go_enter Tryd.func8, Tryd.ntmps8
    go_wp2_with fail
    refine HC.out.mono ?_
    rintro e w1 ⟨rfl, hb1⟩
    go_wp2
    go_ret
    exact ⟨rfl, hb1⟩

/-- A wait that came in: the first six of its ways, of each the first six needs, all of ints. -/
def WIn (w : World) (A : Option Addr) (n cap : Nat) (l : List (List De)) : Prop := (A = none → n = 0 ∧ cap = 0) ∧ n ≤ cap ∧ cap ≤ 9223372036854775807 ∧ WG w A n l ∧ ∀ x ∈ l, ∀ t ∈ x, Small t
theorem OwnW.whole {W : World} {base n cap : Nat} {A : Option Addr} {l : List (List De)} (h : OwnW W base (.slice A n cap) l) (hl : l.length ≤ 6) (hll : ∀ x ∈ l, x.length ≤ 6) : WG W A l.length l := by
  refine ⟨by omega, fun j hj => ?_⟩
  obtain ⟨xs, h1, h2⟩ := h
  obtain ⟨x, h3, h4⟩ := h2 j hj
  have h6 := hll _ (getW_mem hj)
  rcases h1.2 with ⟨e, h0⟩ | ⟨g, cap', cur, e, hb, hh, _⟩
  · omega
  · injection e with e1 e2 e3
    subst e1
    have hcell : W.cell? ⟨g, 0 + j, none⟩ = some x := by
      have := World.ownsRow.cells h1 (g := g) rfl _ _ h3
      rwa [Addr.add_lit] at this
    rcases h4.2 with ⟨rfl, h0⟩ | ⟨g', c', cur', rfl, hb', hh', hn, hm, _⟩
    · refine ⟨g, 0, none, 0, 0, rfl, lt_of_block hh, hcell, ?_, by omega, Nat.le_refl _, by omega, fun _ => ⟨rfl, rfl⟩⟩
      have := List.length_eq_zero_iff.1 h0
      rw [this]
      exact Go.Proofs.YtigjeeedobnmhaaDoor.objs.DAt.nil _ _
    · refine ⟨g, 0, some ⟨g', 0, none⟩, (l.getD j []).length, c', rfl, lt_of_block hh, hcell, h4.at, by omega, hn, by simpa [maxLen] using hm, fun h => by cases h⟩
theorem WG.short {w : World} {A : Option Addr} {n : Nat} {l : List (List De)} (h : WG w A n l) : l.length ≤ 6 ∧ ∀ x ∈ l, x.length ≤ 6 := by
  refine ⟨by have := h.1; omega, fun x hx => ?_⟩
  obtain ⟨j, hj, rfl⟩ := List.getElem_of_mem hx
  obtain ⟨_, _, _, nj, _, _, _, _, _, h5, _⟩ := h.2 j hj
  rw [List.getD_eq_getElem?_getD, List.getElem?_eq_getElem hj, Option.getD_some] at h5
  omega
def OwnPost (l : List (List De)) (w : World) (e : Ending) (w' : World) : Prop := ∃ A2 c2, e = .returned (.slice A2 l.length c2) ∧ WAt w' A2 l ∧ WG w' A2 l.length l ∧ Below w.heap.size w w'
theorem ownN_new (W : World) : OwnN (W.alloc (.cells #[] 50)) W.heap.size (.slice (some ⟨W.heap.size, 0, none⟩) 0 0) [] := OwnN.empty (heap_alloc_new W _)
/-- Behind the copy of a way. -/
theorem ownN_copy {W W2 : World} {v2 : Value} {l : List De} {r : Option Nat} (h1 : OwnN W2 W.heap.size v2 l) (hg : (W.alloc (.cells #[] 50)).grownBy W2 r) (hr : ∀ k, r = some k → k = W.heap.size) : Below W.heap.size W W2 :=
  ((Below.refl _ W).alloc (Nat.le_refl _) _).grown hg (by simp) (fun k e => by rw [hr k e]; exact Nat.le_refl _)
theorem take_more {l : List (List De)} {j : Nat} (h : j < l.length) : l.take (j + 1) = l.take j ++ [l.getD j []] := by
  rw [List.take_add_one, List.getD_eq_getElem?_getD, List.getElem?_eq_getElem h]
  rfl

set_option maxRecDepth 100000 in
set_option maxHeartbeats 8000000 in
theorem own_any (A : Option Addr) (n cap : Nat) (l : List (List De)) (hn : n ≤ 9223372036854775807) (w : World) (hA : WG w A n l) :
    Calls Tryd.prog 10 #[.slice A n cap] w (OwnPost l w) := by
  have HMin := Lib.hid hA.1
  have HSh := Lib.hid hA.short
  have HA := Lib.hid hA
  unfold OwnPost
  clear hA
  go_enter Tryd.func10, Tryd.ntmps10
  have hb0 : Below w.heap.size w (w.alloc (.cells #[] 51)) := (Below.refl _ w).alloc (Nat.le_refl _) _
  have HO0 : Hid (OwnW (w.alloc (.cells #[] 51)) w.heap.size (.slice (some ⟨w.heap.size, 0, none⟩) 0 0) []) := Lib.hid (OwnW.empty (heap_alloc_new w _))
  have HB0 := Lib.hid hb0
  clear hb0
  go_wp2_with fail
  generalize w.alloc (.cells #[] 51) = W0 at *
  go_loopw [3, 4] (fun o i wr => ∃ j : Nat, j ≤ l.length ∧ i = .int .i64 (j : Int) ∧ Hid (OwnW wr w.heap.size o (l.take j)) ∧ Hid (Below w.heap.size w wr)) (fun _ i _ => l.length - (intOf i).toNat)
  case atStart => exact ⟨0, Nat.zero_le _, rfl, HO0, HB0⟩
  case round =>
    obtain ⟨j, hj, rfl, HO, HB⟩ := hrel
    obtain ⟨Ao, co, ho⟩ := HO.out.slice
    have htl : (l.take j).length = j := by rw [List.length_take]; omega
    rw [htl] at ho
    subst ho
    by_cases hlt : j < l.length
    · obtain ⟨b, off, Aj, nj, cj, rfl, hbl, hc, hdj, hmj, hnc, hcm, hno⟩ := (HA.out.next HB.out).2 j hlt
      have HT := Lib.hid (take_more hlt)
      have hlt' : (j : Int) < (n : Int) := by have := HMin.out; omega
      have hlt6 : (j : Int) < 6 := by have := HMin.out; omega
      have hj0 : (0 : Int) ≤ (j : Int) := by omega
      have hj6 : j ≤ 5 := by have := HMin.out; omega
      have hl1 : (l.take j).length ≤ 6 := by omega
      generalize l.getD j [] = lj at *
      generalize l.take j = lt at *
      have hA1 := hdj.next ((Below.refl _ _).alloc (Nat.le_refl _) (.cells #[] 50))
      by_cases h6 : 6 < nj
      · have q6 : decide ((6 : Int) < (nj : Int)) = true := by simp; omega
        obtain ⟨a2, o2, rfl, hbl2, _⟩ := hdj 0 (by omega)
        have hl6 : lj.length = 6 := by omega
        have hc6 : (6 : Int) ≤ (cj : Int) := by omega
        have HBx := Lib.hid (show w.heap.size ≤ wr.heap.size from HB.out.size)
        clear hno hmj
        go_wp2_with (
          at_builtin
          refine wpList_appN (by rfl) (.tmp 27) (.tmp 28) (by rfl) wr.heap.size 6 cj (.slice (some ⟨wr.heap.size, 0, none⟩) 0 0) (some ⟨a2, o2, none⟩) [] lj (by rfl) (ownN_new wr) (by rfl) hl6.symm (fun h => by cases h) hA1 (by simp; omega) (by simp) ?_)
        intro v2 W2 hv2 hg2
        have hb2 := ownN_copy hv2 hg2 (fun k e => by simpa [Value.ownBlock] using e.symm)
        have hO2 := HO.out.next hb2
        have hx2 := hv2.base HBx.out
        obtain ⟨Av, cv, hve⟩ := hv2.slice
        rw [hl6] at hve
        subst hve
        have HB2 := Lib.hid (HB.out.trans (hb2.mono HB.out.size))
        clear hv2 hg2 hA1 hc
        go_wp2_with (
          at_builtin
          refine wpList_appW (w := W2) (by rfl) (.tmp 26) (.tmp 30) (by rfl) w.heap.size 1 (.slice Ao j co) _ lt lj (by rfl) hO2 (by rfl) hx2 (by rfl) (by omega) (HB2.out.size) ?_)
        intro v3 W3 hv3 hg3
        have HO3 := Lib.hid hv3
        have HB3 : Hid (Below w.heap.size w W3) := Lib.hid ((HB2.out.alloc HB2.out.size _).grown hg3 (by simp; have := HB2.out.size; omega) (fun k e => by
          obtain ⟨xs, h1, _⟩ := hO2
          exact (World.ownsRow.lt h1 k e).1))
        clear hv3 hg3 hO2 hx2
        go_wp2
        go_roundw
        case rel => exact ⟨j + 1, by omega, by go_num, by rw [HT.out]; exact HO3, HB3⟩
        case measure => simp [intOf]; omega
      · have q6 : decide ((6 : Int) < (nj : Int)) = false := by simp; omega
        obtain rfl : nj = lj.length := by omega
        have hno2 : Aj = none → lj = [] ∧ cj = 0 := fun h => ⟨List.length_eq_zero_iff.1 (hno h).1, (hno h).2⟩
        have HBx := Lib.hid (show w.heap.size ≤ wr.heap.size from HB.out.size)
        clear hno hmj
        go_wp2_with (
          at_builtin
          refine wpList_appN (by rfl) (.tmp 27) (.tmp 28) (by rfl) wr.heap.size lj.length cj (.slice (some ⟨wr.heap.size, 0, none⟩) 0 0) Aj [] lj (by rfl) (ownN_new wr) (by rfl) rfl hno2 hA1 (by simp; omega) (by simp) ?_)
        intro v2 W2 hv2 hg2
        have hb2 := ownN_copy hv2 hg2 (fun k e => by simpa [Value.ownBlock] using e.symm)
        have hO2 := HO.out.next hb2
        have hx2 := hv2.base HBx.out
        obtain ⟨Av, cv, rfl⟩ := hv2.slice
        have HB2 := Lib.hid (HB.out.trans (hb2.mono HB.out.size))
        clear hv2 hg2 hA1 hc
        go_wp2_with (
          at_builtin
          refine wpList_appW (w := W2) (by rfl) (.tmp 26) (.tmp 30) (by rfl) w.heap.size 1 (.slice Ao j co) _ lt lj (by rfl) hO2 (by rfl) hx2 (by rfl) (by omega) (HB2.out.size) ?_)
        intro v3 W3 hv3 hg3
        have HO3 := Lib.hid hv3
        have HB3 : Hid (Below w.heap.size w W3) := Lib.hid ((HB2.out.alloc HB2.out.size _).grown hg3 (by simp; have := HB2.out.size; omega) (fun k e => by
          obtain ⟨xs, h1, _⟩ := hO2
          exact (World.ownsRow.lt h1 k e).1))
        clear hv3 hg3 hO2 hx2
        go_wp2
        go_roundw
        case rel => exact ⟨j + 1, by omega, by go_num, by rw [HT.out]; exact HO3, HB3⟩
        case measure => simp [intOf]; omega
    · obtain rfl : j = l.length := by omega
      have hall : l.take l.length = l := List.take_length
      rw [hall] at HO
      have hmin := HMin.out
      by_cases hn6 : l.length < n
      · have q1 : (l.length : Int) < (n : Int) := by omega
        have q2 : ¬ (l.length : Int) < 6 := by omega
        have q3 : decide ((l.length : Int) < 6) = false := by simpa using q2
        clear hmin
        go_wp2_with fail
        go_ret
        first | exact ⟨Ao, ⟨co, rfl⟩, HO.out.at, HO.out.whole HSh.out.1 HSh.out.2, HB.out⟩ | exact ⟨Ao, co, rfl, HO.out.at, HO.out.whole HSh.out.1 HSh.out.2, HB.out⟩
      · have q1 : decide ((l.length : Int) < (n : Int)) = false := by simp; omega
        clear hmin
        go_wp2_with fail
        go_ret
        first | exact ⟨Ao, ⟨co, rfl⟩, HO.out.at, HO.out.whole HSh.out.1 HSh.out.2, HB.out⟩ | exact ⟨Ao, co, rfl, HO.out.at, HO.out.whole HSh.out.1 HSh.out.2, HB.out⟩
end Go.Proofs.YtigjeeedobnmhaaDoor.need

/-
  What the program's calls on waits must come to, as one bundle, so that the statements can be walked whatever the program's own text is; and the common end of all statements. No condition but that bundle.
-/
namespace Go.Proofs.YtigjeeedobnmhaaDoor.need
open Go.RowKit Go.ChangeShapes
open Go.Proofs.YtigjeeedobnmhaaDoor.objs (De zero DAt chk I64)
set_option linter.unusedVariables false

/-- A wait of at most six ways, each of at most six needs, of ints. -/
def Fine (l : List (List De)) : Prop := l.length ≤ 6 ∧ ∀ x ∈ l, x.length ≤ 6 ∧ ∀ t ∈ x, Small t
/-- The bytes that Put answers. -/
def putW (d : List De) (l : List (List De)) : List UInt8 := if chkW d l = 0 then encW l else []
def PutPost9 (d : List De) (l : List (List De)) (w : World) (e : Ending) (w' : World) : Prop := e = .returned (.tuple #[.string ⟨(putW d l).toArray⟩, .int .i64 (chkW d l : Nat)]) ∧ Below w.heap.size w w'
def TextPost9 (l : List (List De)) (w : World) (e : Ending) (w' : World) : Prop := e = .returned (.string ⟨(textW l).toArray⟩) ∧ Below w.heap.size w w'
def ObjsPost9 (l : List (List De)) (k : Int) (w : World) (e : Ending) (w' : World) : Prop := e = .returned (.int .u64 ((objects l k : Nat) : Int)) ∧ Below w.heap.size w w'
/-- The program's calls come to what the document says, while Ok holds of the world, which nothing that makes memory breaks. -/
structure Keeps (Ok : World → Prop) : Prop where
  mono : ∀ W W' : World, Ok W → Below W.heap.size W W' → Ok W'
  check : ∀ (A B : Option Addr) (cd cw : Nat) (d : List De) (l : List (List De)) (W : World), (chk d).2 = 0 → Fine l → DAt W A d → WAt W B l → Ok W → Calls Tryd.prog 14 #[.slice A d.length cd, .slice B l.length cw] W (ChkPost9 (chkW d l) W)
  put : ∀ (A B : Option Addr) (cd cw : Nat) (d : List De) (l : List (List De)) (W : World), (chk d).2 = 0 → Fine l → DAt W A d → WAt W B l → Ok W → Calls Tryd.prog 12 #[.slice A d.length cd, .slice B l.length cw] W (PutPost9 d l W)
  get : ∀ (A : Option Addr) (cd : Nat) (d : List De) (t : ByteArray) (W : World), (chk d).2 = 0 → t.size ≤ 140737488355328 → DAt W A d → Ok W → Calls Tryd.prog 16 #[.slice A d.length cd, .string t] W (GotPost9 (getW d t.data.toList) W)
  text : ∀ (B : Option Addr) (cw : Nat) (l : List (List De)) (W : World), Fine l → WAt W B l → Ok W → Calls Tryd.prog 19 #[.slice B l.length cw] W (TextPost9 l W)
  objs : ∀ (B : Option Addr) (cw : Nat) (l : List (List De)) (k : Int) (W : World), Fine l → I64 k → WAt W B l → Ok W → Calls Tryd.prog 21 #[.slice B l.length cw, .int .i64 k] W (ObjsPost9 l k W)

def dL : List De := [(1, 0, 0), (3, 0, 2)]
def wL : List (List De) := [[(1, 0, 0)], [(4, 1, 2)]]
theorem chk_dL : (chk dL).2 = 0 := by decide +kernel
theorem chkW_wL : chkW dL wL = 0 := by decide +kernel
theorem chkW_nil : chkW dL [] = 2 := by decide +kernel
theorem putW_wL : putW dL wL = [2, 1, 1, 0, 1, 4, 1, 2] := by unfold putW; rw [if_pos chkW_wL]; decide +kernel
theorem getW_wL : getW dL [2, 1, 1, 0, 1, 4, 1, 2] = (wL, 8, 0) := by decide +kernel
theorem textW_wL : textW wL = [108, 111, 99, 107, 32, 48, 32, 124, 32, 100, 111, 119, 110, 32, 49, 58, 50] := by
  have h0 : intT 0 = [48] := by unfold intT; rw [if_neg (by decide), show (0 : Int).toNat = 0 from rfl, digs_small (by decide)]; rfl
  have h1 : intT 1 = [49] := by unfold intT; rw [if_neg (by decide), show (1 : Int).toNat = 1 from rfl, digs_small (by decide)]; rfl
  have h2 : intT 2 = [50] := by unfold intT; rw [if_neg (by decide), show (2 : Int).toNat = 2 from rfl, digs_small (by decide)]; rfl
  have e1 : needT (1, 0, 0) = [108, 111, 99, 107, 32, 48] := by unfold needT tailT; dsimp only; rw [h0]; rfl
  have e2 : needT (4, 1, 2) = [100, 111, 119, 110, 32, 49, 58, 50] := by unfold needT tailT; dsimp only; rw [h1, h2]; rfl
  have e3 : needsT [(1, 0, 0)] 1 = [108, 111, 99, 107, 32, 48] := by show needsT [(1, 0, 0)] 0 ++ _ ++ needT (1, 0, 0) = _; rw [e1]; rfl
  have e4 : needsT [(4, 1, 2)] 1 = [100, 111, 119, 110, 32, 49, 58, 50] := by show needsT [(4, 1, 2)] 0 ++ _ ++ needT (4, 1, 2) = _; rw [e2]; rfl
  show (([] ++ [] ++ needsT [(1, 0, 0)] 1) ++ [32, 124, 32] ++ needsT [(4, 1, 2)] 1) = _
  rw [e3, e4]
  rfl
theorem fine_wL : Fine wL := by
  refine ⟨by decide, fun x hx => ?_⟩
  have hx2 : x = [(1, 0, 0)] ∨ x = [(4, 1, 2)] := by simpa [wL] using hx
  rcases hx2 with rfl | rfl
  · refine ⟨by decide, fun t ht => ?_⟩
    rw [List.mem_singleton.1 ht]
    unfold Small
    decide
  · refine ⟨by decide, fun t ht => ?_⟩
    rw [List.mem_singleton.1 ht]
    unfold Small
    decide
theorem fine_nil : Fine [] := ⟨by decide, fun x hx => by cases hx⟩
def twoBox9 : Obj := .cells #[.int .i64 1, .int .i64 0, .int .i64 0, .int .i64 3, .int .i64 0, .int .i64 2] 48
theorem two9 {w : World} {g : Nat} (h : w.heap[g]? = some twoBox9) : DAt w (some ⟨g, 0, none⟩) dL := fun j hj => by
  have hj2 : j < 2 := hj
  refine ⟨g, 0, rfl, lt_of_block h, ?_⟩
  unfold Go.Proofs.YtigjeeedobnmhaaDoor.objs.CellsAt World.cell?
  rw [h]
  match j, hj2 with
  | 0, _ => exact ⟨rfl, rfl, rfl⟩
  | 1, _ => exact ⟨rfl, rfl, rfl⟩
def outBox (a b : Nat) : Obj := .cells #[.slice (some ⟨a, 0, none⟩) 1 1, .slice (some ⟨b, 0, none⟩) 1 1] 51
/-- The wait that lives makes. -/
def wOf (W : World) : World := ((W.alloc (needBox 1 0 0)).alloc (needBox 4 1 2)).alloc (outBox W.heap.size (W.heap.size + 1))
theorem wOf_below (W : World) : Below W.heap.size W (wOf W) := ((((Below.refl _ W).alloc (Nat.le_refl _) _).alloc (by rw [World.size_alloc]; omega) _).alloc (by rw [World.size_alloc, World.size_alloc]; omega) _)
theorem wOf_at (W : World) : WAt (wOf W) (some ⟨W.heap.size + 1 + 1, 0, none⟩) wL := by
  have z1 : (W.alloc (needBox 1 0 0)).heap.size = W.heap.size + 1 := World.size_alloc W _
  have z2 : ((W.alloc (needBox 1 0 0)).alloc (needBox 4 1 2)).heap.size = W.heap.size + 1 + 1 := by rw [World.size_alloc, z1]
  have b0 : (wOf W).heap[W.heap.size]? = some (needBox 1 0 0) := (Below.heap_alloc _ _ _ (by omega)).trans ((Below.heap_alloc _ _ _ (by omega)).trans (heap_alloc_new W _))
  have b1 : (wOf W).heap[W.heap.size + 1]? = some (needBox 4 1 2) := (Below.heap_alloc _ _ _ (by omega)).trans (by rw [← z1]; exact heap_alloc_new _ _)
  have b2 : (wOf W).heap[W.heap.size + 1 + 1]? = some (outBox W.heap.size (W.heap.size + 1)) := by rw [← z2]; exact heap_alloc_new _ _
  intro j hj
  have hj2 : j < 2 := hj
  match j, hj2 with
  | 0, _ => exact ⟨_, 0, _, 1, rfl, lt_of_block b2, by unfold World.cell?; rw [b2]; rfl, DAt.oneN (d := (1, 0, 0)) b0⟩
  | 1, _ => exact ⟨_, 0, _, 1, rfl, lt_of_block b2, by unfold World.cell?; rw [b2]; rfl, DAt.oneN (d := (4, 1, 2)) b1⟩

set_option maxRecDepth 100000 in
set_option maxHeartbeats 4000000 in
theorem lives_any {Ok : World → Prop} (K : Keeps Ok) (w : World) (hw : Ok w) : Calls Tryd.prog 9 #[] w fun e w' => e = .returned (.bool true) ∧ Below w.heap.size w w' := by
  have hb0 : Below w.heap.size w (w.alloc twoBox9) := (Below.refl _ w).alloc (Nat.le_refl _) _
  have hd0 : DAt (w.alloc twoBox9) (some ⟨w.heap.size, 0, none⟩) dL := two9 (heap_alloc_new w _)
  have hb1 := wOf_below (w.alloc twoBox9)
  have hd1 := hd0.next hb1
  have hw1 := wOf_at (w.alloc twoBox9)
  have hz : (w.alloc twoBox9).heap.size = w.heap.size + 1 := World.size_alloc w _
  unfold wOf at hb1 hd1 hw1
  rw [hz] at hb1 hd1 hw1
  have HB1 := Lib.hid (hb0.trans (hb1.mono (Nat.le_succ w.heap.size)))
  have HD1 := Lib.hid hd1
  have HW1 := Lib.hid hw1
  have HP := fun W h1 h2 h3 => Lib.hid (K.put (some ⟨w.heap.size, 0, none⟩) (some ⟨w.heap.size + 1 + 1 + 1, 0, none⟩) 2 2 dL wL W chk_dL fine_wL h1 h2 h3)
  unfold PutPost9 at HP
  rw [putW_wL, chkW_wL] at HP
  have HG := fun W h1 h2 => Lib.hid (K.get (some ⟨w.heap.size, 0, none⟩) 2 dL ⟨#[2, 1, 1, 0, 1, 4, 1, 2]⟩ W chk_dL (by decide) h1 h2)
  rw [show (⟨#[2, 1, 1, 0, 1, 4, 1, 2]⟩ : ByteArray).data.toList = [2, 1, 1, 0, 1, 4, 1, 2] from rfl, getW_wL] at HG
  unfold GotPost9 at HG
  have HSm := fun A ca W h1 h2 => Lib.hid (refSame9_any A (some ⟨w.heap.size + 1 + 1 + 1, 0, none⟩) ca 2 wL wL (by decide) (by decide) (fun x hx => (fine_wL.2 x hx).1) (fun x hx => (fine_wL.2 x hx).1) W h1 h2)
  unfold SamePost at HSm
  rw [decide_eq_true rfl] at HSm
  have HT := fun W h1 h2 => Lib.hid (K.text (some ⟨w.heap.size + 1 + 1 + 1, 0, none⟩) 2 wL W fine_wL h1 h2)
  unfold TextPost9 at HT
  rw [textW_wL] at HT
  have HC := fun W h1 h2 => Lib.hid (K.check (some ⟨w.heap.size, 0, none⟩) none 2 0 dL [] W chk_dL fine_nil h1 (WAt.nil _ _) h2)
  unfold ChkPost9 at HC
  rw [chkW_nil] at HC
  have HM := Lib.hid K.mono
  have HK := Lib.hid hw
  clear K hw hb0 hd0 hb1 hd1 hw1 hz
  go_enter Tryd.func9, Tryd.ntmps9
  unfold twoBox9 needBox outBox at HB1 HD1 HW1
  go_wp2_with fail
  refine (HP _ HD1.out HW1.out (HM.out _ _ HK.out HB1.out)).out.mono ?_
  rintro e w1 ⟨rfl, hb1⟩
  have HB2 := Lib.hid (HB1.out.trans (hb1.mono HB1.out.size))
  have HD2 := Lib.hid (HD1.out.next hb1)
  have HW2 := Lib.hid (HW1.out.next hb1)
  clear hb1 HB1 HD1 HW1 HP
  go_wp2_with fail
  refine (HG _ HD2.out (HM.out _ _ HK.out HB2.out)).out.mono ?_
  rintro e w2 ⟨v, rfl, ⟨B, cb, rfl, hB⟩, hb2⟩
  have HB3 := Lib.hid (HB2.out.trans (hb2.mono HB2.out.size))
  have HD3 := Lib.hid (HD2.out.next hb2)
  have HW3 := Lib.hid (HW2.out.next hb2)
  have HS3 := HSm B cb w2 hB HW3.out
  clear hb2 hB HB2 HD2 HW2 HG HSm
  go_wp2_with fail
  refine HS3.out.mono ?_
  rintro e w3 ⟨rfl, hb3⟩
  have HB4 := Lib.hid (HB3.out.trans (hb3.mono HB3.out.size))
  have HD4 := Lib.hid (HD3.out.next hb3)
  have HW4 := Lib.hid (HW3.out.next hb3)
  clear hb3 HB3 HD3 HW3 HS3
  go_wp2_with fail
  refine (HT _ HW4.out (HM.out _ _ HK.out HB4.out)).out.mono ?_
  rintro e w4 ⟨rfl, hb4⟩
  have HB5 := Lib.hid (HB4.out.trans (hb4.mono HB4.out.size))
  have HD5 := Lib.hid (HD4.out.next hb4)
  clear hb4 HB4 HD4 HW4 HT
  go_wp2_with fail
  refine (HC _ HD5.out (HM.out _ _ HK.out HB5.out)).out.mono ?_
  rintro e w5 ⟨rfl, hb5⟩
  have HB6 := Lib.hid (HB5.out.trans (hb5.mono HB5.out.size))
  clear hb5 HB5 HD5 HC
  go_wp2
  go_ret
  exact ⟨rfl, HB6.out⟩
end Go.Proofs.YtigjeeedobnmhaaDoor.need

/-
  The wait with which bytes begin, as the program tells it (typed over the code of 5ef5b61), and with it the bundle over which the five laws are walked. The tables must lie where their initialisers lay them; texts of at most two to the forty-seventh bytes.
-/
namespace Go.Proofs.YtigjeeedobnmhaaDoor.need
open Go.RowKit Go.ChangeShapes
open Go.Proofs.YtigjeeedobnmhaaDoor.octet (St InAt Frm left_any open_any)
open Go.Proofs.YtigjeeedobnmhaaDoor.objs (De zero DAt chk chk_zero I64)
set_option linter.unusedVariables false

theorem put_any (A B : Option Addr) (capd cap : Nat) (d : List De) (l : List (List De)) (hd : (chk d).2 = 0) (w : World) (hA : DAt w A d) (hB : WAt w B l) (hw : Oke w) :
    Calls Tryd.prog 12 #[.slice A d.length capd, .slice B l.length cap] w (PutPost9 d l w) := by
  unfold PutPost9 putW
  by_cases hz : chkW d l = 0
  · rw [if_pos hz, hz]
    exact put_good A B capd cap d l hd hz w hA hB hw
  · rw [if_neg hz]
    exact put_bad A B capd cap d l (by have := (chk_zero hd).1; omega) hz w hA hB hw

theorem get_ret {w W : World} {n cap : Nat} {A : Option Addr} {act : Act} {g : List (List De) × Nat × Nat} (hn : n = g.1.length) (h2 : act.tmps[4]?.getD undef = .slice A n cap) (h3 : act.tmps[5]?.getD undef = .int .i64 (g.2.1 : Int)) (h4 : act.tmps[6]?.getD undef = .int .i64 (g.2.2 : Int)) (hd : act.defers = [])
    (hA : WAt W A g.1) (hb : Below w.heap.size w W) : bodyPost Tryd.prog Tryd.f16 (GotPost9 g w) .ret act W := by
  subst hn
  refine bodyPost_ret (v := .tuple #[.slice A g.1.length cap, .int .i64 (g.2.1 : Int), .int .i64 (g.2.2 : Int)]) ?_ hd ⟨_, rfl, ⟨A, cap, rfl, hA⟩, hb⟩
  simp [results, Tryd.results16, go_sem, h2, h3, h4]

set_option maxRecDepth 100000 in
set_option maxHeartbeats 4000000 in
theorem get_any (A : Option Addr) (capd : Nat) (d : List De) (hd : (chk d).2 = 0) (t : ByteArray) (w : World) (ht : t.size ≤ 140737488355328) (hA : DAt w A d) (hw : Oke w) :
    Calls Tryd.prog 16 #[.slice A d.length capd, .string t] w (GotPost9 (getW d t.data.toList) w) := by
  have HG := Lib.hid (getW_prog hd t.data.toList)
  have HOp := Lib.hid (open_any w t)
  have HAll := fun W hi => Lib.hid (getWays_any W w.heap.size ⟨t.data.toList, 0⟩ hi (fun h => absurd rfl h) (by rw [← size_list]; exact ht))
  have HLe : Hid ((allW ⟨t.data.toList, 0⟩).2.1.rest.length ≤ t.size) := Lib.hid (by rw [size_list]; exact allW_left ⟨t.data.toList, 0⟩)
  have hd64 : d.length ≤ 64 := by have := (chk_zero hd).1; omega
  have HD := Lib.hid hd64
  unfold WaysPost at HAll
  obtain ⟨g, hg⟩ : ∃ g, g = getW d t.data.toList := ⟨_, rfl⟩
  rw [← hg] at HG ⊢
  clear hg hd hd64
  generalize allW ⟨t.data.toList, 0⟩ = r at *
  obtain ⟨ls, S, e⟩ := r
  dsimp only at HG HAll HLe
  generalize ls.map (·.map cutN) = lc at *
  have HW := Lib.hid hw
  have HT := Lib.hid ht
  have HA := Lib.hid hA
  clear hw ht hA
  go_enter Tryd.func16, Tryd.ntmps16
  go_wp2_with fail
  refine HOp.out.mono ?_
  rintro e1 w1 ⟨rfl, hi1, hb1, hs1⟩
  have HA1 := HAll w1 hi1
  have HB1 := Lib.hid hb1
  have HS1 := Lib.hid hs1
  clear hi1 hb1 hs1 HAll HOp
  go_wp2_with fail
  refine HA1.out.mono ?_
  rintro e2 w2 ⟨v, rfl, hv, hi2, hf2⟩
  have hB2 : Below w.heap.size w w2 := HB1.out.trans (hf2.below (Nat.le_refl _) (by have := HS1.out; omega))
  have HK2 := Lib.hid (HW.out.next hB2)
  have HB2 := Lib.hid hB2
  obtain ⟨B, cap, rfl⟩ := hv.slice
  have HV2 := Lib.hid hv.at
  have HI2 := Lib.hid hi2
  clear hv hi2 hf2 hB2 HB1 HS1 HA1
  by_cases he : e = 0
  · have he' : ((e : Int) == 0) = true := by simp [he]
    have HE0 := Lib.hid he
    have HC := Lib.hid (check_any A B capd cap d lc HD.out w2 (HA.out.next HB2.out) HV2.out HK2.out)
    unfold ChkPost9 at HC
    clear he
    generalize chkW d lc = c at *
    go_wp2_with fail
    refine HC.out.mono ?_
    rintro e3 w3 ⟨rfl, hb3⟩
    have HV3 := Lib.hid (HV2.out.next hb3)
    have HI3 := Lib.hid (HI2.out.kept (hb3.block _ HI2.out.lt))
    have HB3 := Lib.hid (HB2.out.trans (hb3.mono HB2.out.size))
    clear hb3 HV2 HI2 HB2 HC HK2
    by_cases hc : c = 0
    · have HR : Hid (g = (lc, t.data.toList.length - S.rest.length, 0)) := Lib.hid (by rw [HG.out, if_neg (by simp [HE0.out]), if_neg (by simp [hc])])
      have hc' : ((c : Int) != 0) = false := by simp [hc]
      have HLq := Lib.hid (left_any w3 w.heap.size S HI3.out)
      have HWr : Hid ((t.data.toList.length - S.rest.length : Nat) = wrap64 ((t.size : Int) - (S.rest.length : Int))) := Lib.hid (by
        have h1 := HLe.out
        have h2 := HT.out
        rw [← size_list, IntWalk.wrap64_in _ (by omega)]
        omega)
      clear hc HG
      go_wp2_with fail
      refine HLq.out.mono ?_
      rintro e4 w4 ⟨rfl, rfl⟩
      go_wp2_with fail
      exact get_ret (by rw [HR.out]) (by rfl) (by rw [HR.out, HWr.out]; rfl) (by rw [HR.out]; rfl) rfl (by rw [HR.out]; exact HV3.out) HB3.out
    · have HR : Hid (g = ([], 0, c)) := Lib.hid (by rw [HG.out, if_neg (by simp [HE0.out]), if_pos hc])
      have hc' : ((c : Int) != 0) = true := by simpa using hc
      clear hc HG
      go_wp2_with fail
      exact get_ret (by rw [HR.out]) (by rfl) (by rw [HR.out]; rfl) (by rw [HR.out]; rfl) rfl (by rw [HR.out]; exact WAt.nil _ _) HB3.out
  · have HR : Hid (g = ([], 0, e)) := Lib.hid (by rw [HG.out, if_pos he])
    have he' : ((e : Int) != 0) = true := by simpa using he
    have he2 : ((e : Int) == 0) = false := by simpa using he
    clear he HG
    go_wp2_with fail
    exact get_ret (by rw [HR.out]) (by rfl) (by rw [HR.out]; rfl) (by rw [HR.out]; rfl) rfl (by rw [HR.out]; exact WAt.nil _ _) HB2.out

theorem keeps : Keeps Oke where
  mono := fun W W' h hb => h.next hb
  check := fun A B cd cw d l W hd _ hA hB h => check_any A B cd cw d l (by have := (chk_zero hd).1; omega) W hA hB h
  put := fun A B cd cw d l W hd _ hA hB h => put_any A B cd cw d l hd W hA hB h
  get := fun A cd d t W hd ht hA h => get_any A cd d hd t W ht hA h
  text := fun B cw l W hf hB h => text_any B cw l hf.1 hf.2 W hB h
  objs := fun B cw l k W hf _ hB _ => objs_any B cw l k hf.1 (fun x hx => (hf.2 x hx).1) W hB
end Go.Proofs.YtigjeeedobnmhaaDoor.need

/-
  The last step of each statement: below the blocks that were there nothing has turned, so the arguments read as they did. No condition.
-/
namespace Go.Proofs.YtigjeeedobnmhaaDoor.shut
open Go.ChangeShapes Go.WideShapes Go.RowKit
set_option linter.unusedVariables false

theorem laidOut : laidOutB Tryd.prog = true := by kernel_rfl
theorem own : ownKnob Tryd.prog.godebug = none := by kernel_rfl

section
variable {H : Type} {enc : TypeId × Value → H} {P : Program}
/-- What 'post' asks, where of the call's world only this is known: below the old size no block has turned. -/
theorem post_below {f : Func} {s : ChangeSpec} {apart fresh handsOn again : Bool} {W W' : World} {args : Array Value} {v : Value} {ds gs : List (DataW H)} {before pa pv : List MemPlace}
    (hW : DataW.Whole enc P f.params.toList s.vars apart W args.toList ds gs before)
    (hres : ∀ (b : Nat) (sp : Nat → Bool) (hd : Bool), DataW.TrodAll enc P W' b sp hd f.resultTypes.toList (v.resultList f.resultTypes.size) (s.fn H (ds ++ gs)).results [])
    (hargs : ∀ sp : Nat → Bool, (∀ p ∈ before, sp p.block = true) → DataW.TrodAll enc P W' 0 sp true f.params.toList args.toList (s.fn H (ds ++ gs)).args pa)
    (hvars : ∀ sp : Nat → Bool, (∀ p ∈ before, sp p.block = true) → DataW.TrodVars enc P W' sp s.vars (s.fn H (ds ++ gs)).vars pv)
    (hps : before = pa ++ pv) (hb : Below W.heap.size W W')
    (hok : ∀ (j : Nat) (t : TypeId) (r : Value), f.resultTypes[j]? = some t → (v.resultList f.resultTypes.size)[j]? = some r → Value.okWide P W' .any 0 t r) :
    s.post enc P f apart fresh handsOn again W args v W' := by
  have hlt : ∀ p ∈ before, p.block < W.heap.size := fun p hp => hW.lt p hp
  have hold : ∀ p ∈ before, (fun b => decide (b < W.heap.size)) p.block = true := fun p hp => by simpa using hlt p hp
  refine ⟨ds, gs, before, [], pa, pv, hW, hres _ _ _, hargs _ hold, hvars _ hold, World.keptBut_mono (fun p hp => ⟨hp, ?_⟩) (hb.frame (· ∈ before)), fun _ => ?_⟩
  · rw [hps, List.mem_append] at hp
    exact Or.inr hp
  · obtain ⟨_, _, _, _, _, hz, hn⟩ := hW
    refine ⟨hok, _, _, ([] ++ pa) ++ pv, ⟨[] ++ pa, pv, trodAll_append (hargs _ (fun _ _ => rfl)) (hres _ _ _), hvars _ (fun _ _ => rfl), rfl, ?_, ?_⟩, ?_⟩
    · intro b off hp
      have hin : MemPlace.cell b off ∈ before := by rw [hps]; simpa using hp
      rw [hb.frozen (hlt _ hin)]
      exact hz b off hin
    · intro ha
      have := hn ha
      rw [hps] at this
      simpa using this
    · intro p hp _
      rw [hps]
      simpa using hp
end
/-- AN ARRAY OF TEXTS THAT READS AS A LIST HOLDS THESE TEXTS, CELL FOR CELL. -/
theorem cells_of_texts {H : Type} {enc : TypeId × Value → H} {P : Program} {w : World} {base : Nat} {sp : Nat → Bool} {held : Bool} {fuel : Nat} {t e : TypeId} {n : Nat} {cs : List Value} {zs : List ByteArray} {p : List MemPlace}
    (ht : P.underlying t = some (.array n e)) (he : P.underlying e = some .string) (hce : P.cellsOf e = 1) (hct : P.cellsOf t = n)
    (h : DataW.trod enc P w base sp held fuel t cs = some (.agg (zs.map fun z => .lit (.string z.data.toList)), p)) : cs = zs.map fun z => Value.string z := by
  cases fuel with
  | zero => simp [DataW.trod] at h
  | succ fuel =>
    simp only [DataW.trod, ht, hce, hct, Nat.mul_one] at h
    split at h
    · rename_i hl
      obtain ⟨xs, hm, hx⟩ := Option.map_eq_some_iff.1 h
      have hxs : xs.map (·.1) = zs.map fun z => (DataW.lit (.string z.data.toList) : DataW H) := by
        have := congrArg Prod.fst hx
        simpa using this
      have hxl : xs.length = n := by simpa using Lib.mapM_length hm
      have hzl : zs.length = n := by
        have := congrArg List.length hxs
        simp at this
        omega
      apply List.ext_getElem?
      intro i
      by_cases hi : i < n
      · obtain ⟨b, hb, hf⟩ := Lib.mapM_at hm i i (by simp [hi])
        obtain ⟨z, hc, rfl, _⟩ := DataW.trod_string he hf
        have h1 : cs[i]? = some (.string z) := by
          have := congrArg (·[0]?) hc
          simpa [List.getElem?_take, List.getElem?_drop] using this
        have h2 : (xs.map (·.1))[i]? = some (DataW.lit (.string z.data.toList) : DataW H) := by simp [hb]
        rw [hxs] at h2
        simp only [List.getElem?_map, Option.map_eq_some_iff, DataW.lit.injEq, Lit.string.injEq] at h2
        obtain ⟨z', hz', he'⟩ := h2
        rw [h1, List.getElem?_map, hz', Option.map_some, bytes_inj he']
      · rw [List.getElem?_eq_none (by omega), List.getElem?_eq_none (by simp; omega)]
    · cases h

end Go.Proofs.YtigjeeedobnmhaaDoor.shut

/-
  A list of objects that came in, as it lies in memory. No condition.
-/
namespace Go.Proofs.YtigjeeedobnmhaaDoor.objs
open Go.ChangeShapes Go.WideShapes Go.RowKit
set_option linter.unusedVariables false

theorem cells3i : Tryd.prog.cellsOf 3 = 1 := by kernel_rfl
theorem cellsDecl : Tryd.prog.cellsOf 48 = 3 := by kernel_rfl
theorem add_plain (b off i : Nat) : (⟨b, off, none⟩ : Addr).add i = ⟨b, off + i, none⟩ := Addr.add_lit ..
theorem i64_of {a : Int} (h : (Lit.int .i64 a).wf = true) : I64 a := by
  have hx : -9223372036854775808 ≤ a ∧ a ≤ 9223372036854775807 := by simpa [Lit.wf, IntKind.min, IntKind.max, IntKind.signed, IntKind.bits] using h
  exact hx

section
variable {H : Type} {enc : TypeId × Value → H} {w : World} {base : Nat} {spare : Nat → Bool} {held : Bool}

set_option maxRecDepth 100000 in
/-- One object, out of its three cells. -/
theorem one_decl {n : Nat} {cs : List Value} {y : DataW H × List MemPlace} (h : DataW.trod enc Tryd.prog w base spare held n 48 cs = some y) :
    ∃ o : De, cs = [.int .i64 o.1, .int .i64 o.2.1, .int .i64 o.2.2] ∧ I64 o.1 ∧ I64 o.2.1 ∧ I64 o.2.2 := by
  obtain ⟨xs, m, _, hy, hlen, hxl, hf⟩ := DataW.trod_struct Tryd.underlying48 h
  rw [cellsDecl] at hlen
  match cs, hlen with
  | [v0, v1, v2], _ =>
    match xs, hxl with
    | [y0, y1, y2], _ =>
      have f0 : DataW.trod enc Tryd.prog w base spare held m 3 [v0] = some y0 := by simpa [cells3i] using hf 0 _ rfl
      have f1 : DataW.trod enc Tryd.prog w base spare held m 3 [v1] = some y1 := by simpa [cells3i] using hf 1 _ rfl
      have f2 : DataW.trod enc Tryd.prog w base spare held m 3 [v2] = some y2 := by simpa [cells3i] using hf 2 _ rfl
      obtain ⟨k, e0, _, w0⟩ := DataW.trod_int Tryd.underlying3 f0
      obtain ⟨i, e1, _, w1⟩ := DataW.trod_int Tryd.underlying3 f1
      obtain ⟨j, e2, _, w2⟩ := DataW.trod_int Tryd.underlying3 f2
      refine ⟨(k, i, j), ?_, i64_of w0, i64_of w1, i64_of w2⟩
      simp only [List.cons.injEq, and_true] at e0 e1 e2
      rw [e0, e1, e2]

/-- A list of objects: nil, or its objects in their order, each where it lies; of a long one the first hundred. -/
theorem open_decls {fuel : Nat} {cs : List Value} {x : DataW H × List MemPlace} (hlt : ∀ p ∈ x.2, p.block < w.heap.size) (h : DataW.trod enc Tryd.prog w base spare held fuel 22 cs = some x) :
    ∃ (A : Option Addr) (n cap : Nat) (l : List De), cs = [.slice A n cap] ∧ LIn w A n cap l := by
  rcases Go.Deep.open_slice Tryd.underlying22 h with h0 | ⟨a, len, cap, m, n, D, Pl, hcs, hb, hl, hm, hmm, hx, hi⟩
  · exact ⟨none, 0, 0, [], h0.1, fun _ => ⟨rfl, rfl⟩, Nat.le_refl _, by omega, DAt.nil _ _, fun j hj => absurd hj (Nat.not_lt_zero j), rfl⟩
  · have hm' : cap ≤ 9223372036854775807 := by simpa [maxLen] using hm
    have hlm : len ≤ m := by rw [hmm]; split <;> omega
    have each : ∀ i, ∃ o : De, i < len → w.cell? (a.add (i * 3)) = some (.int .i64 o.1) ∧ w.cell? (a.add (i * 3 + 1)) = some (.int .i64 o.2.1) ∧ w.cell? (a.add (i * 3 + 2)) = some (.int .i64 o.2.2) ∧ I64 o.1 ∧ I64 o.2.1 ∧ I64 o.2.2 := by
      intro i
      by_cases hil : i < len
      · obtain ⟨cs', hc, ht⟩ := hi i (by omega)
        obtain ⟨o, he, hwf⟩ := one_decl ht
        obtain ⟨_, _, hat⟩ := World.cells?_some hc
        rw [cellsDecl] at hat
        subst he
        have a0 := hat 0 (by omega)
        have a1 := hat 1 (by omega)
        have a2 := hat 2 (by omega)
        rw [Go.Deep.add_add] at a0 a1 a2
        exact ⟨o, fun _ => ⟨a0, a1, a2, hwf⟩⟩
      · exact ⟨zero, fun hh => absurd hh hil⟩
    obtain ⟨ops, hall⟩ : ∃ ops : Nat → De, ∀ i, i < len → w.cell? (a.add (i * 3)) = some (.int .i64 (ops i).1) ∧ w.cell? (a.add (i * 3 + 1)) = some (.int .i64 (ops i).2.1) ∧ w.cell? (a.add (i * 3 + 2)) = some (.int .i64 (ops i).2.2) ∧ I64 (ops i).1 ∧ I64 (ops i).2.1 ∧ I64 (ops i).2.2 :=
      ⟨fun i => Classical.choose (each i), fun i hil => Classical.choose_spec (each i) hil⟩
    have hget : ∀ j, j < min len 100 → ((List.range (min len 100)).map ops).getD j zero = ops j := fun j hj => by
      rw [List.getD_eq_getElem?_getD, List.getElem?_map, List.getElem?_range hj]
      rfl
    have hlen : ((List.range (min len 100)).map ops).length = min len 100 := by simp
    refine ⟨some a, len, cap, (List.range (min len 100)).map ops, hcs, fun h => (by cases h), hl, hm', fun j hj => ?_, fun j hj => ?_, hlen⟩
    · rw [hlen] at hj
      have hbl : a.block < w.heap.size := by
        refine hlt (.cell a.block a.off) ?_
        rw [hx]
        exact List.mem_append_left _ (MemPlace.mem_row.2 ⟨0, by rw [cellsDecl]; omega, by simp⟩)
      obtain ⟨b, off, spot⟩ := a
      have hspot : spot = none := by simpa [Addr.add] using World.cell?_spot (hall 0 (by omega)).1
      subst hspot
      obtain ⟨h0, h1, h2, _⟩ := hall j (by omega)
      rw [add_plain] at h0 h1 h2
      rw [hget j hj]
      refine ⟨b, off, rfl, hbl, h0, ?_, ?_⟩
      · rw [Nat.add_assoc]; exact h1
      · rw [Nat.add_assoc]; exact h2
    · rw [hlen] at hj
      rw [hget j hj]
      exact (hall j (by omega)).2.2.2
end
end Go.Proofs.YtigjeeedobnmhaaDoor.objs

/-
  A wait that came in, as it lies in memory: of its ways the first six, of each of them the first six needs. No condition.
-/
namespace Go.Proofs.YtigjeeedobnmhaaDoor.need
open Go.ChangeShapes Go.WideShapes Go.RowKit
open Go.Proofs.YtigjeeedobnmhaaDoor.objs (De zero DAt I64 cells3i i64_of)
set_option linter.unusedVariables false

theorem cellsNeed : Tryd.prog.cellsOf 50 = 3 := by kernel_rfl
theorem cellsRow : Tryd.prog.cellsOf 51 = 1 := by kernel_rfl

section
variable {H : Type} {enc : TypeId × Value → H} {w : World} {base : Nat} {spare : Nat → Bool} {held : Bool}

set_option maxRecDepth 100000 in
/-- One need, out of its three cells. -/
theorem one_need {n : Nat} {cs : List Value} {y : DataW H × List MemPlace} (h : DataW.trod enc Tryd.prog w base spare held n 50 cs = some y) :
    ∃ o : De, cs = [.int .i64 o.1, .int .i64 o.2.1, .int .i64 o.2.2] ∧ I64 o.1 ∧ I64 o.2.1 ∧ I64 o.2.2 := by
  obtain ⟨xs, m, _, hy, hlen, hxl, hf⟩ := DataW.trod_struct Tryd.underlying50 h
  rw [cellsNeed] at hlen
  match cs, hlen with
  | [v0, v1, v2], _ =>
    match xs, hxl with
    | [y0, y1, y2], _ =>
      have f0 : DataW.trod enc Tryd.prog w base spare held m 3 [v0] = some y0 := by simpa [cells3i] using hf 0 _ rfl
      have f1 : DataW.trod enc Tryd.prog w base spare held m 3 [v1] = some y1 := by simpa [cells3i] using hf 1 _ rfl
      have f2 : DataW.trod enc Tryd.prog w base spare held m 3 [v2] = some y2 := by simpa [cells3i] using hf 2 _ rfl
      obtain ⟨k, e0, _, w0⟩ := DataW.trod_int Tryd.underlying3 f0
      obtain ⟨i, e1, _, w1⟩ := DataW.trod_int Tryd.underlying3 f1
      obtain ⟨j, e2, _, w2⟩ := DataW.trod_int Tryd.underlying3 f2
      refine ⟨(k, i, j), ?_, i64_of w0, i64_of w1, i64_of w2⟩
      simp only [List.cons.injEq, and_true] at e0 e1 e2
      rw [e0, e1, e2]

/-- A list of needs: nil, or its needs in their order, each where it lies; of a long one the first six. -/
theorem open_needs {fuel : Nat} {cs : List Value} {x : DataW H × List MemPlace} (hlt : ∀ p ∈ x.2, p.block < w.heap.size) (h : DataW.trod enc Tryd.prog w base spare held fuel 51 cs = some x) :
    ∃ (A : Option Addr) (n cap : Nat) (l : List De), cs = [.slice A n cap] ∧ (A = none → n = 0 ∧ cap = 0) ∧ n ≤ cap ∧ cap ≤ 9223372036854775807 ∧ DAt w A l ∧ (∀ t ∈ l, Small t) ∧ l.length = min n 6 := by
  rcases Go.Deep.open_slice Tryd.underlying51 h with h0 | ⟨a, len, cap, m, n, D, Pl, hcs, hb, hl, hm, hmm, hx, hi⟩
  · exact ⟨none, 0, 0, [], h0.1, fun _ => ⟨rfl, rfl⟩, Nat.le_refl _, by omega, DAt.nil _ _, fun t ht => (by cases ht), rfl⟩
  · have hm' : cap ≤ 9223372036854775807 := by simpa [maxLen] using hm
    have hlm : len ≤ m := by rw [hmm]; split <;> omega
    have each : ∀ i, ∃ o : De, i < len → w.cell? (a.add (i * 3)) = some (.int .i64 o.1) ∧ w.cell? (a.add (i * 3 + 1)) = some (.int .i64 o.2.1) ∧ w.cell? (a.add (i * 3 + 2)) = some (.int .i64 o.2.2) ∧ I64 o.1 ∧ I64 o.2.1 ∧ I64 o.2.2 := by
      intro i
      by_cases hil : i < len
      · obtain ⟨cs', hc, ht⟩ := hi i (by omega)
        obtain ⟨o, he, hwf⟩ := one_need ht
        obtain ⟨_, _, hat⟩ := World.cells?_some hc
        rw [cellsNeed] at hat
        subst he
        have a0 := hat 0 (by omega)
        have a1 := hat 1 (by omega)
        have a2 := hat 2 (by omega)
        rw [Go.Deep.add_add] at a0 a1 a2
        exact ⟨o, fun _ => ⟨a0, a1, a2, hwf⟩⟩
      · exact ⟨zero, fun hh => absurd hh hil⟩
    obtain ⟨ops, hall⟩ : ∃ ops : Nat → De, ∀ i, i < len → w.cell? (a.add (i * 3)) = some (.int .i64 (ops i).1) ∧ w.cell? (a.add (i * 3 + 1)) = some (.int .i64 (ops i).2.1) ∧ w.cell? (a.add (i * 3 + 2)) = some (.int .i64 (ops i).2.2) ∧ I64 (ops i).1 ∧ I64 (ops i).2.1 ∧ I64 (ops i).2.2 :=
      ⟨fun i => Classical.choose (each i), fun i hil => Classical.choose_spec (each i) hil⟩
    have hget : ∀ j, j < min len 6 → ((List.range (min len 6)).map ops).getD j zero = ops j := fun j hj => by
      rw [List.getD_eq_getElem?_getD, List.getElem?_map, List.getElem?_range hj]
      rfl
    have hlen : ((List.range (min len 6)).map ops).length = min len 6 := by simp
    refine ⟨some a, len, cap, (List.range (min len 6)).map ops, hcs, fun h => (by cases h), hl, hm', fun j hj => ?_, fun t ht => ?_, hlen⟩
    · rw [hlen] at hj
      have hbl : a.block < w.heap.size := by
        refine hlt (.cell a.block a.off) ?_
        rw [hx]
        exact List.mem_append_left _ (MemPlace.mem_row.2 ⟨0, by rw [cellsNeed]; omega, by simp⟩)
      obtain ⟨b, off, spot⟩ := a
      have hspot : spot = none := by simpa [Addr.add] using World.cell?_spot (hall 0 (by omega)).1
      subst hspot
      obtain ⟨h0, h1, h2, _⟩ := hall j (by omega)
      rw [add_plain] at h0 h1 h2
      rw [hget j hj]
      refine ⟨b, off, rfl, hbl, h0, ?_, ?_⟩
      · rw [Nat.add_assoc]; exact h1
      · rw [Nat.add_assoc]; exact h2
    · obtain ⟨j, hj, rfl⟩ := List.mem_map.1 ht
      have hj2 := List.mem_range.1 hj
      exact (hall j (by omega)).2.2.2

/-- A list of ways: nil, or its ways in their order, each where it lies; of a long one the first six. -/
theorem open_wait {fuel : Nat} {cs : List Value} {x : DataW H × List MemPlace} (hlt : ∀ p ∈ x.2, p.block < w.heap.size) (h : DataW.trod enc Tryd.prog w base spare held fuel 23 cs = some x) :
    ∃ (A : Option Addr) (n cap : Nat) (l : List (List De)), cs = [.slice A n cap] ∧ WIn w A n cap l := by
  rcases Go.Deep.open_slice1 Tryd.underlying23 cellsRow h with h0 | ⟨a, len, cap, m, n, V, D, Pl, hcs, hb, hl, hm, hmm, hx, hi⟩
  · exact ⟨none, 0, 0, [], h0.1, fun _ => ⟨rfl, rfl⟩, Nat.le_refl _, by omega, ⟨rfl, fun j hj => absurd hj (Nat.not_lt_zero j)⟩, fun x hx => (by cases hx)⟩
  · have hm' : cap ≤ 9223372036854775807 := by simpa [maxLen] using hm
    have hlm : len ≤ m := by rw [hmm]; split <;> omega
    have each : ∀ i, ∃ y : Option Addr × Nat × Nat × List De, i < len → w.cell? (a.add i) = some (.slice y.1 y.2.1 y.2.2.1) ∧ (y.1 = none → y.2.1 = 0 ∧ y.2.2.1 = 0) ∧ y.2.1 ≤ y.2.2.1 ∧ y.2.2.1 ≤ 9223372036854775807 ∧ DAt w y.1 y.2.2.2 ∧ (∀ t ∈ y.2.2.2, Small t) ∧ y.2.2.2.length = min y.2.1 6 := by
      intro i
      by_cases hil : i < len
      · obtain ⟨hc, ht⟩ := hi i (by omega)
        have hlt2 : ∀ p ∈ (D i, Pl i).2, p.block < w.heap.size := fun p hp => by
          refine hlt p ?_
          rw [hx]
          exact List.mem_append_right _ (List.mem_flatMap.2 ⟨i, List.mem_range.2 (by omega), hp⟩)
        obtain ⟨A, n1, c1, l1, hv, h1, h2, h3, h4, h5, h6⟩ := open_needs hlt2 ht
        have hv2 : V i = .slice A n1 c1 := by simpa using hv
        exact ⟨(A, n1, c1, l1), fun _ => ⟨by rw [hc, hv2], h1, h2, h3, h4, h5, h6⟩⟩
      · exact ⟨(none, 0, 0, []), fun hh => absurd hh hil⟩
    obtain ⟨ys, hall⟩ : ∃ ys : Nat → Option Addr × Nat × Nat × List De, ∀ i, i < len → w.cell? (a.add i) = some (.slice (ys i).1 (ys i).2.1 (ys i).2.2.1) ∧ ((ys i).1 = none → (ys i).2.1 = 0 ∧ (ys i).2.2.1 = 0) ∧ (ys i).2.1 ≤ (ys i).2.2.1 ∧ (ys i).2.2.1 ≤ 9223372036854775807 ∧ DAt w (ys i).1 (ys i).2.2.2 ∧ (∀ t ∈ (ys i).2.2.2, Small t) ∧ (ys i).2.2.2.length = min (ys i).2.1 6 :=
      ⟨fun i => Classical.choose (each i), fun i hil => Classical.choose_spec (each i) hil⟩
    have hget : ∀ j, j < min len 6 → ((List.range (min len 6)).map fun i => (ys i).2.2.2).getD j [] = (ys j).2.2.2 := fun j hj => by
      rw [List.getD_eq_getElem?_getD, List.getElem?_map, List.getElem?_range hj]
      rfl
    have hlen : ((List.range (min len 6)).map fun i => (ys i).2.2.2).length = min len 6 := by simp
    refine ⟨some a, len, cap, (List.range (min len 6)).map fun i => (ys i).2.2.2, hcs, fun h => (by cases h), hl, hm', ⟨hlen, fun j hj => ?_⟩, fun t ht => ?_⟩
    · rw [hlen] at hj
      have hbl : a.block < w.heap.size := by
        refine hlt (.cell a.block a.off) ?_
        rw [hx]
        exact List.mem_append_left _ (MemPlace.mem_row.2 ⟨0, by omega, by simp⟩)
      obtain ⟨b, off, spot⟩ := a
      have hspot : spot = none := by simpa [Addr.add] using World.cell?_spot (hall 0 (by omega)).1
      subst hspot
      obtain ⟨h0, h1, h2, h3, h4, _, h6⟩ := hall j (by omega)
      rw [add_plain] at h0
      rw [hget j hj]
      exact ⟨b, off, (ys j).1, (ys j).2.1, (ys j).2.2.1, rfl, hbl, h0, h4, h6, h2, h3, h1⟩
    · obtain ⟨j, hj, rfl⟩ := List.mem_map.1 ht
      have hj2 := List.mem_range.1 hj
      exact (hall j (by omega)).2.2.2.2.2.1
end
end Go.Proofs.YtigjeeedobnmhaaDoor.need

/-
  What a row's condition on the tables of needs gives, and that the door's own heap meets it. No condition.
-/
namespace Go.Proofs.YtigjeeedobnmhaaDoor.need
open Go.RowKit Go.WideShapes Go.ChangeShapes
open Go.Proofs.YtigjeeedobnmhaaDoor.shut (cells_of_texts)
set_option linter.unusedVariables false

/-- The tables that each of these rows lists. -/
def laidE : List (String × DataW Unit) := [("math/bits.deBruijn32tab", Rows.laid_math_bits_deBruijn32tab), ("math/bits.deBruijn64tab", Rows.laid_math_bits_deBruijn64tab), ("internal/strconv.uint64pow10", Rows.laid_internal_strconv_uint64pow10), ("logjam/need.names", Rows.laid_logjam_need_names), ("logjam/need.asked", Rows.laid_logjam_need_asked)]
theorem laid_namesE : (Rows.laid_logjam_need_names : DataW Unit) = .agg (namesE.map fun z => .lit (.string z.data.toList)) := rfl
theorem gNamesE : Tryd.prog.globalNamed "logjam/need.names" = some 0 := by kernel_rfl
theorem gNamesEType : (Tryd.prog.globals[0]?).map (·.type) = some 97 := by kernel_rfl
theorem namesECells : Tryd.prog.cellsOf 97 = 6 := by kernel_rfl
theorem textCellsE : Tryd.prog.cellsOf 9 = 1 := by kernel_rfl
theorem gAskedE : Tryd.prog.globalNamed "logjam/need.asked" = some 1 := by kernel_rfl
theorem gAskedEType : (Tryd.prog.globals[1]?).map (·.type) = some 108 := by kernel_rfl
theorem askedECells : Tryd.prog.cellsOf 108 = 6 := by kernel_rfl
theorem intCellsE : Tryd.prog.cellsOf 3 = 1 := by kernel_rfl
theorem gPowType : (Tryd.prog.globals[3]?).map (·.type) = some 131 := by kernel_rfl
theorem powCells : Tryd.prog.cellsOf 131 = 20 := by kernel_rfl
theorem u64Cells : Tryd.prog.cellsOf 42 = 1 := by kernel_rfl
theorem lt_of_cell {W : World} {g : Nat} {v : Value} (h : W.cell? ⟨g, 0, none⟩ = some v) : g < W.heap.size := by
  rcases Nat.lt_or_ge g W.heap.size with h1 | h1
  · exact h1
  · simp [World.cell?, Array.getElem?_eq_none h1] at h
theorem names_of_head {W : World} {rest : List (String × DataW Unit)} (h : laidMet Tryd.prog (("logjam/need.names", Rows.laid_logjam_need_names) :: rest) W) : ∀ j, j < 6 → W.cell? ⟨0, j, none⟩ = some (.string (namesE.getD j ⟨#[]⟩)) := by
  obtain ⟨ps, ⟨g', t', cs, fuel, p, q, hg', ht', hvar, hd, _, _⟩, _⟩ := h
  obtain rfl := Option.some.inj (gNamesE.symm.trans hg')
  obtain rfl := Option.some.inj (gNamesEType.symm.trans ht')
  rw [laid_namesE] at hd
  have hcs := cells_of_texts Tryd.underlying97 Tryd.underlying9 textCellsE namesECells hd
  intro j hj
  have h1 := World.var?_cell gNamesE hvar j
  have hj' : j < namesE.length := hj
  rw [h1, ← Array.getElem?_toList, hcs, List.getElem?_map, List.getElem?_eq_getElem hj', Option.map_some, List.getD_eq_getElem?_getD, List.getElem?_eq_getElem hj', Option.getD_some]
theorem asked_of_head {W : World} {rest : List (String × DataW Unit)} (h : laidMet Tryd.prog (("logjam/need.asked", Rows.laid_logjam_need_asked) :: rest) W) : ∀ j, j < 6 → W.cell? ⟨1, j, none⟩ = some (.int .i64 (askedE.getD j 0)) := by
  have hT : Lib.TabIs Tryd.prog W "logjam/need.asked" .i64 askedE :=
    Lib.tabIs_of_head gAskedE gAskedEType Tryd.underlying108 Tryd.underlying3 intCellsE askedECells (zs := askedE) h
  intro j hj
  exact hT.cell gAskedE j hj
theorem pow_of_head {W : World} {rest : List (String × DataW Unit)} (h : laidMet Tryd.prog (("internal/strconv.uint64pow10", Rows.laid_internal_strconv_uint64pow10) :: rest) W) : Lib.TabIs Tryd.prog W "internal/strconv.uint64pow10" .u64 Lib.pow10Tab :=
  Lib.tabIs_of_head gPow gPowType Tryd.underlying131 Tryd.underlying42 u64Cells powCells (zs := Lib.pow10Tab) h
theorem of_laidE {W : World} (h : laidMetH Tryd.prog laidE W) : Oke W := by
  rw [MakeChecks.laidMetH_plain _ _ _ (by kernel_rfl)] at h
  have h3 := laidMet.tail (laidMet.tail h)
  have h4 := laidMet.tail h3
  have h5 := laidMet.tail h4
  have hp := pow_of_head h3
  have hn := names_of_head h4
  have ha := asked_of_head h5
  exact ⟨⟨hn, ha, hp⟩, lt_of_cell (hn 0 (by omega)), lt_of_cell (ha 0 (by omega)), lt_of_cell (hp.cell gPow 0 (by decide))⟩

/-- The door's own heap meets the condition: three closed facts. -/
theorem door_metE (os : Go.Os) (args : Array Value) : laidMetH Tryd.prog laidE ((World.doorLaid Tryd.prog 34 os).forCall (fun _ _ => 0) ⟨#[], args, []⟩).memory :=
  laidMetH_of_parts3 (fuel := 8) (laidMet_of_run' 8 (by kernel_rfl) (by kernel_rfl)) (by kernel_rfl) (by kernel_rfl)
end Go.Proofs.YtigjeeedobnmhaaDoor.need

/-
  The walks of NeedGets and NeedOnce over the bundle: whatever the program's own text is. A text of at most two to the forty-seventh bytes.
-/
namespace Go.Proofs.YtigjeeedobnmhaaDoor.need
open Go.RowKit Go.ChangeShapes
open Go.Proofs.YtigjeeedobnmhaaDoor.objs (De zero DAt chk chk_zero I64 Ints LIn)
set_option linter.unusedVariables false

/-- Objects that came in and may be are there whole. -/
theorem in_whole {w : World} {A : Option Addr} {n cap : Nat} {d : List De} (hI : LIn w A n cap d) (h : (chk d).2 = 0) : n = d.length ∧ d.length ≤ 32 ∧ DAt w A d ∧ (A = none → d = [] ∧ cap = 0) := by
  obtain ⟨h1, _, _, h4, _, h6⟩ := hI
  have := (chk_zero h).1
  exact ⟨by omega, this, h4, fun e => ⟨List.eq_nil_of_length_eq_zero (by have := (h1 e).1; omega), (h1 e).2⟩⟩
theorem small_of {d : List De} {n : De} (hd : (chk d).2 = 0) (h : oneN d n = 0) : Small n := by
  obtain ⟨h1, h2, h3, h4, h5⟩ := need_small hd h
  unfold Small
  omega
theorem fine_of {d : List De} {l : List (List De)} (hd : (chk d).2 = 0) (h : chkW d l = 0) : Fine l := by
  obtain ⟨_, h4, hall⟩ := chkW_zero h
  exact ⟨by omega, fun x hx => ⟨by have := (hall x hx).2.1; omega, fun t ht => small_of hd ((hall x hx).2.2 t ht)⟩⟩
theorem slim_of {d : List De} {l : List (List De)} (hd : (chk d).2 = 0) (h : chkW d l = 0) : ∀ x ∈ l, ∀ t ∈ x, Slim9 t := fun x hx t ht => by
  obtain ⟨h1, h2, _, h4, h5⟩ := need_small hd ((chkW_zero h).2.2 x hx |>.2.2 t ht)
  exact ⟨h1, by omega, by omega⟩
theorem getW_fine {d : List De} (hd : (chk d).2 = 0) (t : List UInt8) : (getW d t).1.length ≤ 6 ∧ ∀ x ∈ (getW d t).1, x.length ≤ 6 := by
  rcases Nat.eq_zero_or_pos (getW d t).2.2 with h | h
  · have := fine_of hd (once hd h).1
    exact ⟨this.1, fun x hx => (this.2 x hx).1⟩
  · rw [got_bad (by omega)]
    exact ⟨by simp, fun x hx => by cases hx⟩

set_option maxRecDepth 100000 in
set_option maxHeartbeats 4000000 in
theorem gets_walk {Ok : World → Prop} (K : Keeps Ok) (A : Option Addr) (n cap : Nat) (d : List De) (t : ByteArray) (ht : t.size ≤ 140737488355328) (w : World) (hI : LIn w A n cap d) (hw : Ok w) :
    Calls Tryd.prog 4 #[.slice A n cap, .string t] w fun e w' => e = .returned (.bool true) ∧ Below w.heap.size w w' := by
  have HBd := Lib.hid (bad_any A n cap d w hI)
  unfold BadPost at HBd
  have HL := fun W hW => Lib.hid (lives_any K W hW)
  have HM := Lib.hid K.mono
  have HW := Lib.hid hw
  by_cases hz : (chk d).2 = 0
  · obtain ⟨rfl, h32, hA, hno⟩ := in_whole hI hz
    rw [decide_eq_false (by simp [hz] : ¬ (chk d).2 ≠ 0)] at HBd
    have HDc := fun W h => Lib.hid (decl_any A cap d hno (by omega) W h)
    unfold DeclPost at HDc
    have HGt := fun A2 c2 W h1 h2 => Lib.hid (K.get A2 c2 d t W hz ht h1 h2)
    have HRf := fun W h => Lib.hid (refGet9_any W A cap d (by omega) h t ht)
    obtain ⟨hf1, hf2⟩ := getW_fine hz t.data.toList
    have HSm := fun B cb D cd W h1 h2 => Lib.hid (refSame9_any B D cb cd (getW d t.data.toList).1 (getW d t.data.toList).1 hf1 hf1 hf2 hf2 W h1 h2)
    unfold SamePost at HSm
    rw [decide_eq_true rfl] at HSm
    unfold GotPost9 at HGt HRf
    have HA := Lib.hid hA
    clear K hw hI hA hno hz hf1 hf2 ht
    generalize getW d t.data.toList = g at *
    obtain ⟨gl, gn, ge⟩ := g
    dsimp only at HGt HRf HSm
    go_enter Tryd.func4, Tryd.ntmps4
    go_wp2_with fail
    refine HBd.out.mono ?_
    rintro e w1 ⟨rfl, hb1⟩
    have HB1 := Lib.hid hb1
    have HD1 := HDc w1 (HA.out.next hb1)
    clear hb1 HDc
    go_wp2_with fail
    refine HD1.out.mono ?_
    rintro e w2 ⟨A2, c2, rfl, hd2, hb2⟩
    have HB2 := Lib.hid (HB1.out.trans (hb2.mono HB1.out.size))
    have HG2 := HGt A2 c2 w2 hd2 (HM.out _ _ HW.out HB2.out)
    clear hb2 hd2 HGt
    go_wp2_with fail
    refine HG2.out.mono ?_
    rintro e w3 ⟨v, rfl, ⟨B, cb, rfl, hB⟩, hb3⟩
    have HB3 := Lib.hid (HB2.out.trans (hb3.mono HB2.out.size))
    have HBw := Lib.hid hB
    have HR3 := HRf w3 (HA.out.next HB3.out)
    clear hb3 hB HRf
    go_wp2_with fail
    refine HR3.out.mono ?_
    rintro e w4 ⟨v2, rfl, ⟨D, cd, rfl, hD⟩, hb4⟩
    have HS4 := HSm B cb D cd w4 (HBw.out.next hb4) hD
    have HB4 := Lib.hid (HB3.out.trans (hb4.mono HB3.out.size))
    clear hb4 hD HSm
    go_wp2_with fail
    refine HS4.out.mono ?_
    rintro e w5 ⟨rfl, hb5⟩
    have HB5 := Lib.hid (HB4.out.trans (hb5.mono HB4.out.size))
    clear hb5
    go_wp2_with fail
    refine (HL _ (HM.out _ _ HW.out HB5.out)).out.mono ?_
    rintro e w6 ⟨rfl, hb6⟩
    have HB6 := Lib.hid (HB5.out.trans (hb6.mono HB5.out.size))
    clear hb6
    go_wp2
    go_ret
    exact ⟨rfl, HB6.out⟩
  · rw [decide_eq_true (by simpa using hz : (chk d).2 ≠ 0)] at HBd
    clear K hw hI hz ht
    go_enter Tryd.func4, Tryd.ntmps4
    go_wp2_with fail
    refine HBd.out.mono ?_
    rintro e w1 ⟨rfl, hb1⟩
    have HB1 := Lib.hid hb1
    clear hb1
    go_wp2_with fail
    refine (HL _ (HM.out _ _ HW.out HB1.out)).out.mono ?_
    rintro e w2 ⟨rfl, hb2⟩
    have HB2 := Lib.hid (HB1.out.trans (hb2.mono HB1.out.size))
    clear hb2
    go_wp2
    go_ret
    exact ⟨rfl, HB2.out⟩

set_option maxRecDepth 100000 in
set_option maxHeartbeats 4000000 in
theorem once_walk {Ok : World → Prop} (K : Keeps Ok) (A : Option Addr) (n cap : Nat) (d : List De) (t : ByteArray) (ht : t.size ≤ 140737488355328) (w : World) (hI : LIn w A n cap d) (hw : Ok w) :
    Calls Tryd.prog 6 #[.slice A n cap, .string t] w fun e w' => e = .returned (.bool true) ∧ Below w.heap.size w w' := by
  have HBd := Lib.hid (bad_any A n cap d w hI)
  unfold BadPost at HBd
  have HL := fun W hW => Lib.hid (lives_any K W hW)
  have HM := Lib.hid K.mono
  have HW := Lib.hid hw
  by_cases hz : (chk d).2 = 0
  · obtain ⟨rfl, h32, hA, hno⟩ := in_whole hI hz
    rw [decide_eq_false (by simp [hz] : ¬ (chk d).2 ≠ 0)] at HBd
    have HDc := fun W h => Lib.hid (decl_any A cap d hno (by omega) W h)
    unfold DeclPost at HDc
    have HGt := fun A2 c2 W h1 h2 => Lib.hid (K.get A2 c2 d t W hz ht h1 h2)
    unfold GotPost9 at HGt
    have hone := fun h => once (d := d) (t := t.data.toList) hz h
    have hbad := fun h => got_bad (d := d) (l := t.data.toList) h
    have HPt := fun A2 c2 B cb W h0 h1 h2 h3 => Lib.hid (K.put A2 B c2 cb d (getW d t.data.toList).1 W hz (fine_of hz h0) h1 h2 h3)
    unfold PutPost9 putW at HPt
    have HA := Lib.hid hA
    clear K hw hI hA hno hz ht
    obtain ⟨g, hg⟩ : ∃ g, g = getW d t.data.toList := ⟨_, rfl⟩
    rw [← hg] at HGt hone hbad HPt
    clear hg
    obtain ⟨gl, gn, ge⟩ := g
    dsimp only at HGt hone hbad HPt
    by_cases he : ge = 0
    · subst he
      obtain ⟨h1, h2, h3, h4⟩ := hone rfl
      have HPt2 := fun A2 c2 B cb W => HPt A2 c2 B cb W h1
      rw [h1, if_pos rfl] at HPt2
      have hn1 : (0 : Int) < (gn : Int) := by omega
      have hn2 : (gn : Int) ≤ (t.size : Int) := by rw [size_list]; omega
      have hcut : t.extract 0 gn = ⟨(encW gl).toArray⟩ := by
        apply ByteArray.ext
        rw [ByteArray.data_extract, h4]
        apply Array.toList_inj.1
        rw [Array.toList_extract]
        simp [List.extract_eq_take_drop]
      have HCut := Lib.hid hcut
      clear hone hbad h1 h2 h3 h4 hcut HPt
      generalize encW gl = eb at *
      go_enter Tryd.func6, Tryd.ntmps6
      go_wp2_with fail
      refine HBd.out.mono ?_
      rintro e w1 ⟨rfl, hb1⟩
      have HB1 := Lib.hid hb1
      have HD1 := HDc w1 (HA.out.next hb1)
      clear hb1
      go_wp2_with fail
      refine HD1.out.mono ?_
      rintro e w2 ⟨A2, c2, rfl, hd2, hb2⟩
      have HB2 := Lib.hid (HB1.out.trans (hb2.mono HB1.out.size))
      have HG2 := HGt A2 c2 w2 hd2 (HM.out _ _ HW.out HB2.out)
      clear hb2 hd2 HGt
      go_wp2_with fail
      refine HG2.out.mono ?_
      rintro e w3 ⟨v, rfl, ⟨B, cb, rfl, hB⟩, hb3⟩
      have HB3 := Lib.hid (HB2.out.trans (hb3.mono HB2.out.size))
      have HBw := Lib.hid hB
      have HD3 := HDc w3 (HA.out.next HB3.out)
      clear hb3 hB HDc
      go_wp2_with fail
      refine HD3.out.mono ?_
      rintro e w4 ⟨A4, c4, rfl, hd4, hb4⟩
      have HB4 := Lib.hid (HB3.out.trans (hb4.mono HB3.out.size))
      have HP4 := HPt2 A4 c4 B cb w4 hd4 (HBw.out.next hb4) (HM.out _ _ HW.out HB4.out)
      clear hb4 hd4 HPt2
      go_wp2_with fail
      refine HP4.out.mono ?_
      rintro e w5 ⟨rfl, hb5⟩
      have HB5 := Lib.hid (HB4.out.trans (hb5.mono HB4.out.size))
      clear hb5
      have hcut := HCut.out
      go_wp2_with fail
      refine (HL _ (HM.out _ _ HW.out HB5.out)).out.mono ?_
      rintro e w6 ⟨rfl, hb6⟩
      have HB6 := Lib.hid (HB5.out.trans (hb6.mono HB5.out.size))
      clear hb6
      go_wp2
      go_ret
      exact ⟨rfl, HB6.out⟩
    · have hb := hbad he
      simp only [Prod.mk.injEq] at hb
      obtain ⟨rfl, rfl, _⟩ := hb
      have he' : ((ge : Int) != 0) = true := by simpa using he
      clear hone hbad HPt he
      go_enter Tryd.func6, Tryd.ntmps6
      go_wp2_with fail
      refine HBd.out.mono ?_
      rintro e w1 ⟨rfl, hb1⟩
      have HB1 := Lib.hid hb1
      have HD1 := HDc w1 (HA.out.next hb1)
      clear hb1 HDc
      go_wp2_with fail
      refine HD1.out.mono ?_
      rintro e w2 ⟨A2, c2, rfl, hd2, hb2⟩
      have HB2 := Lib.hid (HB1.out.trans (hb2.mono HB1.out.size))
      have HG2 := HGt A2 c2 w2 hd2 (HM.out _ _ HW.out HB2.out)
      clear hb2 hd2 HGt
      go_wp2_with fail
      refine HG2.out.mono ?_
      rintro e w3 ⟨v, rfl, ⟨B, cb, rfl, hB⟩, hb3⟩
      have HB3 := Lib.hid (HB2.out.trans (hb3.mono HB2.out.size))
      clear hb3 hB
      go_wp2_with fail
      refine (HL _ (HM.out _ _ HW.out HB3.out)).out.mono ?_
      rintro e w4 ⟨rfl, hb4⟩
      have HB4 := Lib.hid (HB3.out.trans (hb4.mono HB3.out.size))
      clear hb4
      go_wp2
      go_ret
      exact ⟨rfl, HB4.out⟩
  · rw [decide_eq_true (by simpa using hz : (chk d).2 ≠ 0)] at HBd
    clear K hw hI hz ht
    go_enter Tryd.func6, Tryd.ntmps6
    go_wp2_with fail
    refine HBd.out.mono ?_
    rintro e w1 ⟨rfl, hb1⟩
    have HB1 := Lib.hid hb1
    clear hb1
    go_wp2_with fail
    refine (HL _ (HM.out _ _ HW.out HB1.out)).out.mono ?_
    rintro e w2 ⟨rfl, hb2⟩
    have HB2 := Lib.hid (HB1.out.trans (hb2.mono HB1.out.size))
    clear hb2
    go_wp2
    go_ret
    exact ⟨rfl, HB2.out⟩
end Go.Proofs.YtigjeeedobnmhaaDoor.need
