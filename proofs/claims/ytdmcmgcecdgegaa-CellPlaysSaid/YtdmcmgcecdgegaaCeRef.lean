/-
  The document's cells: New, Find, Set; and the law's own copy of objects, somewhat cut. No condition.
-/
import Derived.Test.YtdmcmgcecdgegaaCePlain
import Derived.Test.YtdmcmgcecdgegaaPoMem
import Derived.Test.YtdmcmgcecdgegaaWRef
import Derived.Test.YtdmcmgcecdgegaaDArg
import Derived.LoopTactic
import Derived.Laws.OwnMore
namespace Go.Proofs.Ytdmcmgcecdgegaa.cel
open Go.RowKit Go.ChangeShapes
open Go.Proofs.Ytdmcmgcecdgegaa.objs (De zero DAt LIn Ints own_new own_copy wpList_appD)
open Go.Proofs.Ytdmcmgcecdgegaa.word (low refLow_any)
open Go.Proofs.Ytdmcmgcecdgegaa.pol (SAt below_grown E)
set_option linter.unusedVariables false
set_option linter.unusedSimpArgs false

/-- Where a cell stands; below 0: nowhere. -/
def posV (g : List De) (obj : Int) : Int := match g.findIdx? (fun e => e.1 == obj) with
  | some k => (k : Int)
  | none => -1
theorem posV_stands {g : List De} (hr : Rising g) {obj : Int} {k : Nat} (h : Stands g obj k) : posV g obj = (k : Int) := by
  unfold posV
  rw [find_stands hr h]
theorem posV_lacks {g : List De} {obj : Int} (h : Lacks g obj) : posV g obj = -1 := by
  unfold posV
  rw [find_lacks h]

/-- A row of shares put behind another one. -/
theorem run_appO (w : World) (ty : TypeId) (base base2 : Nat) (v v2 : Value) (l r : List E) (hrow : pol.Own w base v l) (hsrc : pol.Own w base2 v2 r) (hlen : l.length + r.length ≤ 100000) (hbase : base ≤ w.heap.size) :
    ∃ v' w', (Builtin.append_ #[23, 23] ty #[v, v2]).run Try.prog w = .ok v' w' ∧ pol.Own w' base v' (l ++ r) ∧ w.grownBy w' v.ownBlock := by
  obtain ⟨A, c, rfl⟩ := hsrc.slice
  cases A with
  | none =>
    rcases hsrc.2 with ⟨e, h0⟩ | ⟨g, cap, cur, e, _⟩
    · have hn : r = [] := List.eq_nil_of_length_eq_zero h0
      subst hn
      injection e with e1 e2 e3
      subst e3
      obtain ⟨i, hi, hz0, hz1, hz2⟩ := info_parts pol.infoS
      refine ⟨v, w, run_append_owned_none (P := Try.prog) (w := w) base 23 ty 32 i 2 Try.underlying23 hi v l.length (pol.flat l) hrow, ?_, ⟨rfl, rfl, rfl, Nat.le_refl _, fun _ _ _ => rfl⟩⟩
      rw [List.append_nil]
      exact hrow
    · injection e with e1 e2 e3
      cases e1
  | some ad => exact pol.run_appS w ty base r.length c _ v ad l r hrow rfl hsrc.at hlen hbase
theorem wpList_appO {ops : Array Oper} {rest : List Oper} {o : Oper} {a : Act} {w : World} {Q : Exit → Act → World → Prop} (hgd : o.guard = none) (s x : Operand)
    (ho : o.op = .call { callee := .builtin .append, args := #[s, x], argTypes := #[23, 23] }) (base base2 : Nat) (v v2 : Value) (l r : List E)
    (hs : a.eval s = v) (hrow : pol.Own w base v l) (hx : a.eval x = v2) (hsrc : pol.Own w base2 v2 r) (hlen : l.length + r.length ≤ 100000) (hbase : base ≤ w.heap.size)
    (h : ∀ v' w', pol.Own w' base v' (l ++ r) → w.grownBy w' v.ownBlock → wpList Try.prog ops Q rest (a.put o.dst v') w') : wpList Try.prog ops Q (o :: rest) a w :=
  wpList_plain hgd fun _ hK => by
    obtain ⟨v', w', hr, h2, h3⟩ := run_appO w o.type base base2 v v2 l r hrow hsrc hlen hbase
    unfold Oper.wp execOp
    simp only [ho, resolve, invoke, builtin, Sem.run_bind, Sem.run_pure, Result.andThen_ok, List.map_toArray, List.map_cons, List.map_nil, hs, hx, hr]
    exact hK _ _ (h v' w' h2 h3)
theorem pflat_set : ∀ (l : List E) (k : Nat) (x : Int), k < l.length → pol.flat (l.set k ((l.getD k (0, 0)).1, x)) = (pol.flat l).set (k * 2 + 1) (.int .i64 x)
  | [], k, x, h => absurd h (Nat.not_lt_zero k)
  | d :: l, 0, x, _ => rfl
  | d :: l, k + 1, x, h => by
    have ih := pflat_set l k x (by simpa using h)
    rw [List.set_cons_succ, show (k + 1) * 2 + 1 = k * 2 + 1 + 1 + 1 from by omega]
    simp only [pol.flat, List.set_cons_succ, List.getD_cons_succ]
    rw [ih]
/-- A row of shares of which one has another number. -/
theorem pown_put {w : World} {base n cap k : Nat} {A : Option Addr} {l : List E} (h : pol.Own w base (.slice A n cap) l) (hk : k < l.length) (x : Int) :
    ∃ b, A = some ⟨b, 0, none⟩ ∧ base ≤ b ∧ w.cell? ⟨b, k * 2 + 1, none⟩ = some (.int .i64 (l.getD k (0, 0)).2) ∧ w.frozen? ⟨b, k * 2 + 1, none⟩ = false ∧ n = l.length ∧
      pol.Own (w.setCell ⟨b, k * 2 + 1, none⟩ (.int .i64 x)) base (.slice A n cap) (l.set k ((l.getD k (0, 0)).1, x)) := by
  rcases h.2 with ⟨_, h0⟩ | ⟨b, cap', cur, e, hb, hh, _⟩
  · omega
  · injection e with e1 e2 e3
    subst e1
    subst e2
    obtain ⟨h0, h1⟩ := pol.flat_get l k hk
    refine ⟨b, rfl, hb, by rw [World.ownsRow.cellAt h _ (by omega), h1], World.ownsRow.frozenAt h _, rfl, ?_⟩
    unfold pol.Own
    rw [List.length_set, pflat_set l k x hk]
    exact (World.ownsRow.stored h _ _).1

set_option maxHeartbeats 2000000 in
theorem refNew22_any (w : World) (A : Option Addr) (cap : Nat) (d : List De) (hA : DAt w A d) (hl : d.length ≤ 4096) :
    Calls Try.prog 8 #[.slice A d.length cap] w fun e w' => ∃ v', e = .returned v' ∧ pol.Own w' w.heap.size v' (vals (cellsOf 0 d)) ∧ Below w.heap.size w w' := by
  have HA := Lib.hid hA
  have H0 : Hid (pol.Own (w.alloc (.cells #[] 32)) w.heap.size (.slice (some ⟨w.heap.size, 0, none⟩) 0 0) (vals (upto d 0)) ∧ Below w.heap.size w (w.alloc (.cells #[] 32))) := Lib.hid ⟨pol.Own.empty (heap_alloc_new w _), (Below.refl _ w).alloc (Nat.le_refl _) _⟩
  have HF : Hid (upto d d.length = cellsOf 0 d) := Lib.hid (upto_all d)
  clear hA
  go_enter Try.func8, Try.ntmps8
  go_wp2
  go_loopw [3, 4] (fun v i wr => ∃ k : Nat, i = .int .i64 (k : Int) ∧ k ≤ d.length ∧ Hid (pol.Own wr w.heap.size v (vals (upto d k)) ∧ Below w.heap.size w wr)) (fun _ i _ => d.length - (intOf i).toNat)
  case atStart => exact ⟨0, rfl, Nat.zero_le _, H0⟩
  case round =>
    obtain ⟨k, rfl, hk, HW⟩ := hrel
    clear H0
    by_cases hlt : k < d.length
    · have HK := Lib.hid hlt
      have HG := Lib.hid (HA.out.next HW.out.2)
      obtain ⟨b, off, rfl, _, c0, c1, c2⟩ := HG.out k hlt
      obtain ⟨x, y, z, hy⟩ : ∃ x y z, d.getD k zero = (x, y, z) := ⟨_, _, _, rfl⟩
      rw [hy] at c0 c1 c2
      dsimp only at c0 c1 c2
      clear HG
      by_cases h7 : x = 7
      · subst h7
        have HU : Hid (vals (upto d (k + 1)) = vals (upto d k) ++ [((k : Int), low y)]) := Lib.hid (by rw [upto_yes hlt (by rw [hy]), hy]; simp [vals])
        have HLn : Hid ((vals (upto d k)).length ≤ 4096) := Lib.hid (by rw [vals_length]; exact Nat.le_trans (upto_length d k) (by omega))
        have HLo := Lib.hid (fun W => refLow_any y W)
        generalize low y = q at *
        have HX := Lib.hid (SAt.one (e := ((k : Int), q)) (heap_alloc_new wr (.cells #[.int .i64 (k : Int), .int .i64 q] 32)))
        have H1 := Lib.hid (And.intro (HW.out.1.next ((Below.refl _ wr).alloc (Nat.le_refl _) (.cells #[.int .i64 (k : Int), .int .i64 q] 32))) (HW.out.2.alloc HW.out.2.size (.cells #[.int .i64 (k : Int), .int .i64 q] 32)))
        clear hy hlt hk HA HW
        go_upto_region 6 with fail
        go_wp2_with (first
          | (go_at_call 17; refine (HLo.out _).mono ?_; rintro _ _ ⟨rfl, rfl⟩)
          | (at_builtin; refine pol.wpList_appS (by rfl) (.tmp 18) (.tmp 27) (by rfl) w.heap.size 1 1 _ u3 ⟨wr.heap.size, 0, none⟩ (vals (upto d k)) [((k : Int), q)] (by rfl) H1.out.1 (by rfl) (by rfl) HX.out (by have := HLn.out; simp; omega) H1.out.2.size ?_))
        intro v2 w2 ho2 hg2
        have H3 : Hid (pol.Own w2 w.heap.size v2 (vals (upto d (k + 1))) ∧ Below w.heap.size w w2) := Lib.hid (by rw [HU.out]; exact ⟨ho2, below_grown H1.out.2 hg2 (fun j e => (H1.out.1.lt e).1) H1.out.2.size⟩)
        clear ho2 hg2 HU HX H1
        go_wp2_with fail
        go_roundw
        case rel => exact ⟨k + 1, by go_num, HK.out, H3⟩
        case measure => have := HK.out; simp [intOf]; omega
      · have HU : Hid (upto d (k + 1) = upto d k) := Lib.hid (upto_no hlt (by rw [hy]; exact h7))
        have hx : (x == 7) = false := by simpa using h7
        have H3 : Hid (pol.Own wr w.heap.size u3 (vals (upto d (k + 1))) ∧ Below w.heap.size w wr) := Lib.hid (by rw [HU.out]; exact HW.out)
        clear hy hlt hk HA HW h7 HU
        go_wp2_with fail
        go_roundw
        case rel => exact ⟨k + 1, by go_num, HK.out, H3⟩
        case measure => have := HK.out; simp [intOf]; omega
    · obtain rfl : k = d.length := by omega
      have HD := Lib.hid HW.out
      rw [HF.out] at HD
      obtain ⟨A', c', e⟩ := HD.out.1.slice
      subst e
      clear HW HA HF
      go_wp2_with fail
      go_ret
      exact ⟨_, rfl, HD.out.1, HD.out.2⟩
set_option maxHeartbeats 1000000 in
theorem refFind22_any (w : World) (B : Nat → Prop) (A : Option Addr) (cap : Nat) (g : List De) (obj : Int) (hr : Rising g) (hl : g.length ≤ 4096) (hA : SAt w B A (vals g)) :
    Calls Try.prog 12 #[.slice A g.length cap, .int .i64 obj] w fun e w' => e = .returned (.int .i64 (posV g obj)) ∧ w = w' := by
  have HA := Lib.hid hA
  have HP : Hid (∀ k, k < g.length → (g.getD k zero).1 = obj → posV g obj = (k : Int)) := Lib.hid fun k h1 h2 => posV_stands hr ⟨h1, h2⟩
  have HN : Hid ((∀ j, j < g.length → (g.getD j zero).1 ≠ obj) → posV g obj = -1) := Lib.hid fun h => posV_lacks h
  clear hA hr
  generalize posV g obj = p at *
  go_enter Try.func12, Try.ntmps12
  go_wp2
  go_loop [5] (fun i => ∃ k : Nat, i = .int .i64 (k : Int) ∧ k ≤ g.length ∧ Hid (∀ j, j < k → (g.getD j zero).1 ≠ obj)) (fun i => g.length - (intOf i).toNat)
  case atStart => exact ⟨0, rfl, Nat.zero_le _, Lib.hid fun j h => absurd h (Nat.not_lt_zero _)⟩
  case round =>
    obtain ⟨k, rfl, hk, HR⟩ := hrel
    by_cases hlt : k < g.length
    · have HK := Lib.hid hlt
      obtain ⟨b, off, rfl, _, _, c0, c1⟩ := HA.out k (by rw [vals_length]; exact hlt)
      rw [vals_at hlt] at c0 c1
      dsimp only at c0 c1
      have HQ := Lib.hid (HP.out k hlt)
      have HR2 : Hid ((g.getD k zero).1 ≠ obj → ∀ j, j < k + 1 → (g.getD j zero).1 ≠ obj) := Lib.hid fun h j hj => by
        by_cases e : j = k
        · rw [e]; exact h
        · exact HR.out j (by omega)
      generalize (g.getD k zero).1 = x at *
      generalize (g.getD k zero).2.1 = y at *
      by_cases he : x = obj
      · subst he
        obtain rfl := HQ.out rfl
        clear HP HN HR HR2 HA
        go_wp2_with fail
        go_ret
        exact ⟨rfl, rfl⟩
      · have hx : (x == obj) = false := by simpa using he
        have HR3 := Lib.hid (HR2.out he)
        clear HR HR2 he HQ
        go_wp2_with fail
        go_round
        case rel => exact ⟨k + 1, by go_num, HK.out, HR3⟩
        case measure => have := HK.out; simp [intOf]; omega
    · obtain rfl : k = g.length := by omega
      obtain rfl := HN.out HR.out
      clear HP HN HA
      go_wp2_with fail
      go_ret
      exact ⟨rfl, rfl⟩
/-- What the document's Set leaves. -/
def Own22 (w : World) (v : Value) (g : List De) (w' : World) : Prop := pol.Own w' w.heap.size v (vals g) ∧ Below w.heap.size w w'
set_option maxHeartbeats 2000000 in
theorem refSet22_any (w : World) (base : Nat) (v0 : Value) (g : List De) (obj x : Int) (hr : Rising g) (hl : g.length ≤ 4096) (ho : pol.Own w base v0 (vals g)) :
    Calls Try.prog 13 #[v0, .int .i64 obj, .int .i64 x] w fun e w' => ∃ v', e = .returned v' ∧ pol.Own w' w.heap.size v' (vals (setC g obj x)) ∧ Below w.heap.size w w' := by
  obtain ⟨A, c, rfl⟩ := ho.slice
  rw [vals_length] at ho ⊢
  have hb1 := (Below.refl _ w).alloc (Nat.le_refl _) (.cells #[] 32)
  have HO := Lib.hid (ho.next hb1)
  have HE : Hid (pol.Own (w.alloc (.cells #[] 32)) w.heap.size (.slice (some ⟨w.heap.size, 0, none⟩) 0 0) []) := Lib.hid (pol.Own.empty (heap_alloc_new w _))
  have HB := Lib.hid hb1
  have HF := Lib.hid (fun W (h : Below w.heap.size w W) => refFind22_any W _ A c g obj hr hl (ho.next h).at)
  have HLo := Lib.hid (fun W => refLow_any x W)
  have HLn : Hid (([] : List E).length + (vals g).length ≤ 100000) := Lib.hid (by rw [vals_length]; simp; omega)
  have HS : Hid (∀ k, Stands g obj k → posV g obj = (k : Int) ∧ setC g obj x = setK g k x) := Lib.hid fun k hk => ⟨posV_stands hr hk, setC_stands hr hk x⟩
  have HN : Hid (Lacks g obj → posV g obj = -1 ∧ setC g obj x = g) := Lib.hid fun hk => ⟨posV_lacks hk, setC_lacks hk x⟩
  clear ho hb1 hr
  go_enter Try.func13, Try.ntmps13
  go_wp2_with (at_builtin; refine wpList_appO (by rfl) (.tmp 9) (.tmp 10) (by rfl) w.heap.size base (.slice (some ⟨w.heap.size, 0, none⟩) 0 0) (.slice A g.length c) [] (vals g) (by rfl) HE.out (by rfl) HO.out HLn.out (by simp) ?_)
  intro v1 w1 ho1 hg1
  have HB1 : Hid (Below w.heap.size w w1) := Lib.hid (below_grown HB.out hg1 (fun j e => by simp [Value.ownBlock] at e; omega) (by simp))
  obtain ⟨A1, c1, rfl⟩ := ho1.slice
  have HO1 : Hid (pol.Own w1 w.heap.size (.slice A1 g.length c1) (vals g)) := Lib.hid (by
    have h : pol.Own w1 w.heap.size (.slice A1 (vals g).length c1) (vals g) := ho1
    rwa [vals_length] at h)
  have e0 : (([] : List E) ++ vals g).length = g.length := vals_length g
  simp only [List.nil_append] at e0 ⊢
  rw [e0]
  clear ho1 hg1 HE HB HO e0
  rcases stands_or obj g with ⟨k, hk⟩ | hk
  · obtain ⟨e1, e2⟩ := HS.out k hk
    rw [e1] at HF
    have HE2 := Lib.hid e2
    obtain ⟨b, rfl, hb, z0, z1, -, hp⟩ := pown_put HO1.out (k := k) (by rw [vals_length]; exact hk.1) (low x)
    rw [vals_at hk.1] at z0 hp
    dsimp only at z0 hp
    rw [← vals_set hk.1] at hp
    have HK : Hid (Own22 w (.slice (some ⟨b, 0, none⟩) g.length c1) (setK g k x) (w1.setCell ⟨b, k * 2 + 1, none⟩ (.int .i64 (low x)))) := Lib.hid ⟨hp, HB1.out.setCell (p := ⟨b, k * 2 + 1, none⟩) hb _⟩
    have hlk := hk.1
    generalize (g.getD k zero).2.1 = y at *
    generalize low x = q at *
    have HF1 := Lib.hid (HF.out w1 HB1.out)
    clear hp hb HF HB1 HO1 HS HN HLn e1 e2 hk
    go_wp2_with (first
      | (go_at_call 12; refine HF1.out.mono ?_; rintro _ _ ⟨rfl, rfl⟩)
      | (go_at_call 17; refine (HLo.out _).mono ?_; rintro _ _ ⟨rfl, rfl⟩))
    all_goals
      go_ret
      exact ⟨_, rfl, by rw [HE2.out]; exact HK.out.1, HK.out.2⟩
  · obtain ⟨e1, e2⟩ := HN.out hk
    rw [e1] at HF
    have HE2 := Lib.hid e2
    have HF1 := Lib.hid (HF.out w1 HB1.out)
    clear HF HS HN HLn e1 e2 hk
    go_wp2_with (refine HF1.out.mono ?_; rintro _ _ ⟨rfl, rfl⟩)
    all_goals
      go_ret
      exact ⟨_, rfl, by rw [HE2.out]; exact HO1.out, HB1.out⟩

/-- A list that a call owns is one that may come in. -/
theorem lin_of {w : World} {base n c : Nat} {A : Option Addr} {l : List De} (h : objs.Own w base (.slice A n c) l) (hi : Ints l) (hl : l.length ≤ 100) : n = l.length ∧ LIn w A n c l := by
  rcases h.2 with ⟨e, h0⟩ | ⟨g, cap, cur, e, _, _, h1, h2, _⟩
  · injection e with e1 e2 e3
    subst e1
    subst e2
    subst e3
    exact ⟨h0.symm, fun _ => ⟨rfl, rfl⟩, Nat.le_refl _, by omega, h.at, hi, by omega⟩
  · injection e with e1 e2 e3
    subst e2
    subst e3
    unfold maxLen at h2
    exact ⟨rfl, fun e => (by rw [e1] at e; cases e), h1, by omega, h.at, hi, by omega⟩
set_option maxHeartbeats 2000000 in
/-- Objects in memory of their own, somewhat cut. -/
theorem few22_any (w : World) (A : Option Addr) (n cap : Nat) (l : List De) (hI : LIn w A n cap l) :
    Calls Try.prog 6 #[.slice A n cap] w fun e w' => ∃ A2 c2, e = .returned (.slice A2 (l.take 60).length c2) ∧ LIn w' A2 (l.take 60).length c2 (l.take 60) ∧ Below w.heap.size w w' := by
  obtain ⟨hnone, hnc, hcm, hA, hints, hlen⟩ := hI
  have hi2 : Ints (l.take 60) := fun j hj => by
    rw [List.length_take] at hj
    have := hints j (by omega)
    rw [List.getD_eq_getElem?_getD, List.getElem?_take_of_lt (by omega), ← List.getD_eq_getElem?_getD]
    exact this
  have HI := Lib.hid hi2
  have HA := Lib.hid ((hA.take 60).next ((Below.refl _ w).alloc (Nat.le_refl _) (.cells #[] 38)))
  have HA0 := Lib.hid (hA.take 60)
  have HR : Hid (∀ v2 w2, objs.Own w2 w.heap.size v2 (l.take 60) → (w.alloc (.cells #[] 38)).grownBy w2 (some w.heap.size) → ∃ A2 c2, v2 = .slice A2 (l.take 60).length c2 ∧ LIn w2 A2 (l.take 60).length c2 (l.take 60) ∧ Below w.heap.size w w2) := Lib.hid fun v2 w2 ho hg => by
    obtain ⟨hb, _, A2, c2, rfl, _⟩ := own_copy HA0.out (Below.refl _ w) ho hg (fun k e => (Option.some.inj e).symm)
    exact ⟨A2, c2, rfl, (lin_of ho HI.out (by rw [List.length_take]; omega)).2, hb⟩
  have HLe : Hid (([] : List De).length + (l.take 60).length ≤ 100000) := Lib.hid (by rw [List.length_take]; simp; omega)
  by_cases h60 : 60 < n
  · have hm : Hid (60 = (l.take 60).length) := Lib.hid (by rw [List.length_take]; omega)
    obtain ⟨b, off, rfl, _, _⟩ := hA 0 (by omega)
    have hd : decide (n > 60) = true := decide_eq_true h60
    have hd2 : decide (60 < n) = true := decide_eq_true h60
    have h60c : 60 ≤ cap := by omega
    clear hA hints hlen hnone hi2
    generalize l.take 60 = r at *
    go_enter Try.func6, Try.ntmps6
    go_wp2_with (at_builtin; refine wpList_appD (by rfl) (.tmp 8) (.tmp 9) (by rfl) w.heap.size 60 cap (.slice (some ⟨w.heap.size, 0, none⟩) 0 0) (some ⟨b, off, none⟩) [] r (by rfl) (own_new w) (by rfl) hm.out (fun h => by cases h) HA.out HLe.out (by simp) ?_)
    intro v2 w2 ho hg
    obtain ⟨A2, c2, rfl, h1, h2⟩ := HR.out v2 w2 ho hg
    have H1 := Lib.hid h1
    have H2 := Lib.hid h2
    clear ho hg h1 h2
    go_wp2_with fail
    go_ret
    exact ⟨_, _, rfl, H1.out, H2.out⟩
  · have hm : Hid (n = (l.take 60).length) := Lib.hid (by rw [List.length_take]; omega)
    have HNo : Hid (A = none → l.take 60 = [] ∧ cap = 0) := Lib.hid fun h => ⟨List.eq_nil_of_length_eq_zero (by have := (hnone h).1; rw [List.length_take]; omega), (hnone h).2⟩
    have hd : decide (n > 60) = false := decide_eq_false h60
    have hd2 : decide (60 < n) = false := decide_eq_false h60
    clear hA hints hlen hnone hi2
    generalize l.take 60 = r at *
    go_enter Try.func6, Try.ntmps6
    go_wp2_with (at_builtin; refine wpList_appD (by rfl) (.tmp 8) (.tmp 9) (by rfl) w.heap.size n cap (.slice (some ⟨w.heap.size, 0, none⟩) 0 0) A [] r (by rfl) (own_new w) (by rfl) hm.out HNo.out HA.out HLe.out (by simp) ?_)
    intro v2 w2 ho hg
    obtain ⟨A2, c2, rfl, h1, h2⟩ := HR.out v2 w2 ho hg
    have H1 := Lib.hid h1
    have H2 := Lib.hid h2
    clear ho hg h1 h2
    go_wp2_with fail
    go_ret
    exact ⟨_, _, rfl, H1.out, H2.out⟩
end Go.Proofs.Ytdmcmgcecdgegaa.cel
