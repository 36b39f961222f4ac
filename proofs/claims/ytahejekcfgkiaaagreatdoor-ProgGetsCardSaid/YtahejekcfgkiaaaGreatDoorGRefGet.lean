/-
  The document's own answer of the program that bytes are. A text of at most two to the forty-seventh bytes.
-/
import Derived.Test.YtahejekcfgkiaaaGreatDoorGRefGetM
import Derived.Test.YtahejekcfgkiaaaGreatDoorGall20
import Derived.Test.YtahejekcfgkiaaaGreatDoorGall21
import Derived.Deep.RegionLaw
namespace Go.Proofs.YtahejekcfgkiaaaGreatDoor.pgm
open Go.RowKit Go.ChangeShapes
open Go.Proofs.YtahejekcfgkiaaaGreatDoor.objs (De zero DAt put3 cells3 put3_same put3_far put3_below RBox RNil Own readL refRead8_any ReadPost8)
open Go.Proofs.YtahejekcfgkiaaaGreatDoor.octet (St rdNum Stands)
open Go.Proofs.YtahejekcfgkiaaaGreatDoor.need (WAt WG OwnW readW chkW chkW_zero refRead9_any ReadPost9)
set_option linter.unusedVariables false

theorem get10_ret {w Z : World} {q : Pg × Nat} {v0 v1 v2 : Value} {act : Act} (hr : Z.heap[w.heap.size]? = some (pgB v0 v1 v2)) (hb : Below w.heap.size w Z) (hp : PAt Z (.agg #[v0, v1, v2]) q.1) (h2 : act.tmps[2]?.getD undef = .pointer (some ⟨w.heap.size, 0, none⟩)) (h3 : act.tmps[3]?.getD undef = .int .i64 (q.2 : Int)) (hd : act.defers = []) :
    bodyPost Tryz.prog Tryz.f13 (GotP q w) .ret act Z := by
  unfold pgB at hr
  obtain ⟨x0, x1, x2, -, -, -⟩ := cells3 hr
  refine bodyPost_ret (v := .tuple #[.agg #[v0, v1, v2], .int .i64 (q.2 : Int)]) ?_ hd ⟨_, rfl, hp, hb⟩
  simp [results, Tryz.results13, go_sem, h2, h3, x0, x1, x2]
/-- The first three bytes. -/
theorem head3 (t : ByteArray) : (t.extract 0 3).toList = t.data.toList.take 3 := by
  rw [Lib.toList_data]
  simp [ByteArray.data_extract]
def tl2 (ds : List De) (ws : List (List (List De))) (q : List Fn × St × Nat) : Pg × Nat :=
  if q.2.2 ≠ 0 then (Pg.none, q.2.2) else if q.2.1.rest ≠ [] then (Pg.none, 2) else if chkP ⟨ds, ws, q.1⟩ ≠ 0 then (Pg.none, chkP ⟨ds, ws, q.1⟩) else (⟨ds, ws, q.1⟩, 0)
def tl1 (ds : List De) (q : List (List (List De)) × St × Nat) : Pg × Nat :=
  if q.2.2 ≠ 0 then (Pg.none, q.2.2) else if (rdMany q.2.1 16).2.2 ≠ 0 then (Pg.none, (rdMany q.2.1 16).2.2) else tl2 ds q.1 (rdAll (rdFn rdIns) (rdMany q.2.1 16).2.1 (rdMany q.2.1 16).1)
def tl0 (q : List De × St × Nat) : Pg × Nat :=
  if q.2.2 ≠ 0 then (Pg.none, q.2.2) else if (rdMany q.2.1 32).2.2 ≠ 0 then (Pg.none, (rdMany q.2.1 32).2.2) else tl1 q.1 (rdAll (readW q.1) (rdMany q.2.1 32).2.1 (rdMany q.2.1 32).1)
theorem readP_tl (t : List UInt8) : readP rdIns t = if t.take 3 ≠ [76, 74, 1] then (Pg.none, 2) else tl0 (readL ⟨t.drop 3, 0⟩) := rfl
/-- The three boxes of programs. -/
structure Q0 (w : World) (dv v u : Value) (W : World) : Prop where
  below : Below w.heap.size w W
  r0 : W.heap[w.heap.size]? = some (pgB sN sN sN)
  n : W.heap[w.heap.size + 1]? = some (pgB sN sN sN)
  p : W.heap[w.heap.size + 1 + 1]? = some (pgB dv v u)
theorem Q0.next {w W W' : World} {dv v u : Value} (h : Q0 w dv v u W) (hb : Below W.heap.size W W') : Q0 w dv v u W' :=
  ⟨h.below.trans (hb.mono h.below.size), (hb.block _ (lt_of_block h.r0)).trans h.r0, (hb.block _ (lt_of_block h.n)).trans h.n, (hb.block _ (lt_of_block h.p)).trans h.p⟩
theorem P0.q {w W : World} {t : ByteArray} {bx : Nat} {dv v u : Value} {ds : List De} {S : St} (h : P0 w t bx dv v u ds S W) : Q0 w dv v u W := ⟨h.below, h.r0, h.n, h.p⟩
theorem Q0.none_ret {w W : World} {dv v u : Value} {q : Pg × Nat} {c : Nat} {act : Act} (h : Q0 w dv v u W) (hq : q = (Pg.none, c)) (h2 : act.tmps[2]?.getD undef = .pointer (some ⟨w.heap.size, 0, none⟩)) (h3 : act.tmps[3]?.getD undef = .int .i64 (c : Int)) (hd : act.defers = []) :
    bodyPost Tryz.prog Tryz.f13 (GotP q w) .ret act (put3 W w.heap.size sN sN sN) := by
  subst hq
  exact get10_ret (put3_same h.r0 _ _ _) (put3_below h.below (Nat.le_refl _) _ _ _) (pat_none _) h2 h3 hd
/-- The objects are laid into the program. -/
theorem Q0.lay {w W : World} {dv v u : Value} (h : Q0 w dv v u W) (x : Value) : Q0 w x v u (W.setCell ⟨w.heap.size + 1 + 1, 0, none⟩ x) := by
  refine ⟨h.below.setCell (p := ⟨w.heap.size + 1 + 1, 0, none⟩) (by show w.heap.size ≤ w.heap.size + 1 + 1; omega) _, (Below.heap_setCell W ⟨w.heap.size + 1 + 1, 0, none⟩ _ _ (by show w.heap.size ≠ w.heap.size + 1 + 1; omega)).trans h.r0, (Below.heap_setCell W ⟨w.heap.size + 1 + 1, 0, none⟩ _ _ (by show w.heap.size + 1 ≠ w.heap.size + 1 + 1; omega)).trans h.n, ?_⟩
  have := h.p
  simp [World.setCell, Array.getElem?_modify, this, pgB]

theorem Stays.wide {W : World} {lo hi hi' : Nat} {p : World → Prop} (h : Stays W lo hi p) (h1 : hi ≤ hi') (h2 : hi' ≤ W.heap.size) : Stays W lo hi' p := ⟨h2, fun W' a b => h.2 W' a fun g hl hg => b g hl (Nat.lt_of_lt_of_le hg h1)⟩
theorem OwnV.drew {w : World} {base : Nat} {v : Value} {l : List (List (List De))} (h : OwnV w base v l) : OwnV w.drew base v l := h
theorem OwnF.drew {w : World} {base : Nat} {v : Value} {l : List Fn} (h : OwnF w base v l) : OwnF w.drew base v l := h
theorem OwnJ.drew {w : World} {base : Nat} {v : Value} {l : List De} (h : OwnJ w base v l) : OwnJ w.drew base v l := h
/-- The program that was read stays where the result's box is stored. -/
theorem P2.answer {w W : World} {t : ByteArray} {bx M : Nat} {dv v u : Value} {ds : List De} {ws : List (List (List De))} {fs : List Fn} {S : St} (h : P2 w t bx M dv v u ds ws fs S W) (x y z : Value) : PAt (put3 W w.heap.size x y z) (.agg #[dv, v, u]) ⟨ds, ws, fs⟩ := by
  have e1 := h.o.hx
  have e2 := h.hM
  obtain ⟨base, hba, hd⟩ := h.o.ds
  have far : ∀ g, w.heap.size + 1 ≤ g → (put3 W w.heap.size x y z).heap[g]? = W.heap[g]? := fun g hg => put3_far (by omega) _ _ _
  have hs : (put3 W w.heap.size x y z).heap.size = W.heap.size := by simp [put3, World.setCell]
  have hD := (hd.keep (W1 := put3 W w.heap.size x y z) (by omega) fun g hl _ => far g (by omega)).now
  have hV := (h.ws.keep (W1 := put3 W w.heap.size x y z) (by omega) fun g hl _ => far g (by omega)).now
  have hF := h.own.hold (w' := put3 W w.heap.size x y z) fun g hl _ => far g (by omega)
  obtain ⟨A, ca, rfl⟩ := hD.slice
  obtain ⟨B, cb, rfl⟩ := hV.slice
  obtain ⟨C, cc, rfl⟩ := hF.slice
  exact ⟨A, B, C, ca, cb, cc, rfl, hD.at, hV.at, hF.at⟩
/-- The reader's box is laid: the waits begin. -/
theorem Q0.read {w W : World} {t : ByteArray} {dv v u : Value} {ds : List De} {U : St} {k base br : Nat} (h : Q0 w dv v u W) (hO : Stays W base br (fun W' => Own W' base dv ds)) (hba : w.heap.size + 1 + 1 < base) (hbr : w.heap.size + 1 + 1 < br) (hU : Stands t k U.err U) :
    P0 w t W.heap.size dv v u ds U (W.alloc (RBox t k U.err)) := by
  have hr : Below W.heap.size W (W.alloc (RBox t k U.err)) := (Below.refl _ W).alloc (Nat.le_refl _) _
  have h' := h.next hr
  exact ⟨h'.below, h'.r0, h'.n, h'.p, ⟨k, heap_alloc_new _ _, hU⟩, ⟨base, hba, (hO.next hr).wide hO.1 hr.size⟩, Nat.lt_of_lt_of_le hbr hO.1⟩

set_option maxRecDepth 100000 in
set_option maxHeartbeats 32000000 in
theorem refGet10_any (w : World) (t : ByteArray) (ht : t.size ≤ 140737489403904) :
    Calls Tryz.prog 13 #[.string t] w (GotP (readP rdIns t.data.toList) w) := by
  obtain ⟨r, hr⟩ : ∃ r, r = readP rdIns t.data.toList := ⟨_, rfl⟩
  rw [← hr]
  rw [readP_tl] at hr
  have HR := Lib.hid hr
  clear hr
  have hb0 : Below w.heap.size w (((w.alloc (pgB sN sN sN)).alloc (pgB sN sN sN)).alloc (pgB sN sN sN)) := (((Below.refl _ w).alloc (Nat.le_refl _) _).alloc (by simp) _).alloc (by simp; omega) _
  have hz1 : (w.alloc (pgB sN sN sN)).heap.size = w.heap.size + 1 := World.size_alloc _ _
  have hz2 : ((w.alloc (pgB sN sN sN)).alloc (pgB sN sN sN)).heap.size = w.heap.size + 1 + 1 := by rw [World.size_alloc, hz1]
  have h2 : (((w.alloc (pgB sN sN sN)).alloc (pgB sN sN sN)).alloc (pgB sN sN sN)).heap[w.heap.size + 1 + 1]? = some (pgB sN sN sN) := by rw [← hz2]; exact heap_alloc_new _ _
  have h1 : (((w.alloc (pgB sN sN sN)).alloc (pgB sN sN sN)).alloc (pgB sN sN sN)).heap[w.heap.size + 1]? = some (pgB sN sN sN) := (Below.heap_alloc _ _ _ (by omega)).trans (by rw [← hz1]; exact heap_alloc_new _ _)
  have h0 : (((w.alloc (pgB sN sN sN)).alloc (pgB sN sN sN)).alloc (pgB sN sN sN)).heap[w.heap.size]? = some (pgB sN sN sN) := (Below.heap_alloc _ _ _ (by omega)).trans ((Below.heap_alloc _ _ _ (by omega)).trans (heap_alloc_new w _))
  have HQ0 : Hid (Q0 w sN sN sN (((w.alloc (pgB sN sN sN)).alloc (pgB sN sN sN)).alloc (pgB sN sN sN))) := Lib.hid ⟨hb0, h0, h1, h2⟩
  have hz3 : Hid ((((w.alloc (pgB sN sN sN)).alloc (pgB sN sN sN)).alloc (pgB sN sN sN)).heap.size = w.heap.size + 1 + 1 + 1) := Lib.hid (by rw [World.size_alloc, hz2])
  unfold pgB sN at HQ0 hz3
  clear hb0 hz1 hz2 h0 h1 h2
  go_enter Tryz.func13, Tryz.ntmps13
  go_upto_region 2 with fail
  generalize ((w.alloc (.cells #[.slice none 0 0, .slice none 0 0, .slice none 0 0] 26)).alloc (.cells #[.slice none 0 0, .slice none 0 0, .slice none 0 0] 26)).alloc (.cells #[.slice none 0 0, .slice none 0 0, .slice none 0 0] 26) = W0 at *
  have nn1 : w.heap.size ≠ w.heap.size + 1 := by omega
  by_cases hx : t.data.toList.take 3 = [76, 74, 1]
  · have hl3 : ¬ t.size < 3 := by
      intro h
      have e := congrArg List.length hx
      rw [List.length_take, Array.length_toList] at e
      have : t.size = t.data.size := rfl
      have : ([76, 74, 1] : List UInt8).length = 3 := rfl
      omega
    have h3' : ¬ (t.size : Int) < 3 := by omega
    have hx' : (!(t.extract 0 3).toList == [76, 74, 1]) = false := by rw [head3, hx]; rfl
    rw [if_neg (by rw [hx]; simp)] at HR
    have hst : Stands t 3 0 ⟨t.data.toList.drop 3, 0⟩ := ⟨by omega, rfl, rfl, fun h => absurd rfl h⟩
    have HL8 := fun W => Lib.hid (refRead8_any W t 3 0 ⟨t.data.toList.drop 3, 0⟩ ht hst)
    unfold ReadPost8 at HL8
    clear hx hst
    have hsm : (readL ⟨t.data.toList.drop 3, 0⟩).2.2 = 0 → (readL ⟨t.data.toList.drop 3, 0⟩).1.length ≤ 32 := fun h => (Go.Proofs.YtahejekcfgkiaaaGreatDoor.objs.chk_zero (readL_once h).1).1
    generalize readL ⟨t.data.toList.drop 3, 0⟩ = q at *
    obtain ⟨ds, S, e⟩ := q
    dsimp only at HL8 hsm
    have HSM := Lib.hid hsm
    clear hsm
    go_upto_region 4 with fail
    go_wp2_with fail
    refine (HL8 _).out.mono ?_
    rintro e1 w1 ⟨dv, k1, rfl, hS, ⟨base, hown, hbase⟩, hb1⟩
    have hs1 := hb1.size
    have h03 := hz3.out
    have hQ1 := HQ0.out.next hb1
    have hr7 := (Below.refl w1.heap.size w1).alloc (Nat.le_refl _) (RBox t k1 S.err)
    have hQ2 := Lib.hid (hQ1.next hr7)
    have hO2 := Lib.hid ((Go.Proofs.YtahejekcfgkiaaaGreatDoor.pgm.Own.stays hown).next hr7)
    have hR7 : (w1.alloc (RBox t k1 S.err)).heap[w1.heap.size]? = some (RBox t k1 S.err) := heap_alloc_new _ _
    have HBA : Hid (w.heap.size + 1 + 1 < base) := Lib.hid (by omega)
    have HBS : Hid (w.heap.size + 1 + 1 < w1.heap.size) := Lib.hid (by omega)
    obtain ⟨A, ca, rfl⟩ := hown.slice
    have HM := fun W => Lib.hid (refMany_any W t k1 S.err S 32 (by decide) ht hS)
    unfold ManyPost at HM
    unfold RBox at hQ2 hO2 hR7
    clear hs1 hb1 hQ1 hr7 hown hbase hS HL8 HQ0 hz3 h03
    go_upto_region 5 with fail
    generalize w1.alloc (.cells #[.string t, .int .i64 (k1 : Int), .int .i64 (S.err : Int)] 79) = W1 at *
    generalize w1.heap.size = br at *
    by_cases he : e = 0
    · subst he
      have hdl : ds.length ≤ 32 := HSM.out rfl
      have hc0 : (((0 : Nat) : Int) != 0) = false := rfl
      obtain ⟨n, U, em, hMn⟩ : ∃ n U em, rdMany S 32 = (n, U, em) := ⟨_, _, _, rfl⟩
      have HR1 : Hid (r = if em ≠ 0 then (Pg.none, em) else tl1 ds (rdAll (readW ds) U n)) := Lib.hid (by rw [HR.out]; unfold tl0; dsimp only; rw [if_neg (by decide), hMn])
      have hMle := rdMany_le (s := S) (most := 32)
      rw [hMn] at HM hMle
      dsimp only at HM hMle
      have HMn := Lib.hid hMle
      have n0 : br ≠ w.heap.size + 1 + 1 := by have := HBS.out; omega
      have hO3 := Lib.hid (hO2.out.keep (W1 := W1.setCell ⟨w.heap.size + 1 + 1, 0, none⟩ (.slice A ds.length ca)) (by simp [World.setCell]) fun g hl _ => Below.heap_setCell W1 ⟨w.heap.size + 1 + 1, 0, none⟩ _ g (by have := HBA.out; show g ≠ w.heap.size + 1 + 1; omega))
      have hQ3 := Lib.hid (hQ2.out.lay (.slice A ds.length ca))
      have hR8 := (Below.heap_setCell W1 ⟨w.heap.size + 1 + 1, 0, none⟩ (.slice A ds.length ca) br n0).trans hR7
      obtain ⟨p0, p1, p2, pf0, pf1, pf2⟩ := cells3 hQ2.out.p
      clear hMn hMle HR hR7 hO2 hQ2
      go_upto_region 8 with fail
      generalize W1.setCell ⟨w.heap.size + 1 + 1, 0, none⟩ (.slice A ds.length ca) = W2 at *
      obtain ⟨x0, x1, x2, -, -, -⟩ := cells3 hR8
      clear p0 p1 p2 pf0 pf1 pf2
      go_wp2_with fail
      refine (HM _).out.mono ?_
      rintro e2 w2 ⟨k2, rfl, hU, hb2⟩
      have HP0 := Lib.hid ((hQ3.out.next hb2).read (hO3.out.next hb2) HBA.out HBS.out hU)
      unfold RBox at HP0
      clear hb2 hU hQ3 hO3 hR8 HM x0 x1 x2
      go_upto_region 9 with fail
      generalize w2.alloc (.cells #[.string t, .int .i64 (k2 : Int), .int .i64 (U.err : Int)] 79) = W3 at *
      generalize w2.heap.size = bx at *
      by_cases hem : em = 0
      · subst hem
        have HR2 : Hid (r = tl1 ds (rdAll (readW ds) U n)) := Lib.hid (by rw [HR1.out, if_neg (by decide)])
        have hn : n ≤ 32 := HMn.out rfl
        have HStop : Hid (∀ j, j < n → ∀ (ws : List (List (List De))) (S1 S2 : St) (x : List (List De)) (e : Nat), rdAll (readW ds) U j = (ws, S1, 0) → readW ds S1 = (x, S2, e) → e ≠ 0 → r = (Pg.none, e)) := Lib.hid (fun j hj ws S1 S2 x e h1 h2 h3 => by rw [HR2.out, rdAll_stop hj h1 h2 h3]; unfold tl1; rw [if_pos h3])
        clear HR1 HMn HBA HBS
        go_wp2_with fail
        go_loopw [12] (fun i wr => ∃ (j : Nat) (ws : List (List (List De))) (S1 : St) (v : Value), j ≤ n ∧ i = .int .i64 (j : Int) ∧ Hid (rdAll (readW ds) U j = (ws, S1, 0)) ∧ Hid (P1 w t bx (.slice A ds.length ca) v ds ws S1 wr)) (fun i _ => n - (intOf i).toNat)
        case atStart => exact ⟨0, [], U, _, Nat.zero_le _, rfl, Lib.hid rfl, Lib.hid ⟨HP0.out, OwnV.nil _ _⟩⟩
        case round =>
          clear HP0
          obtain ⟨j, ws, S1, v, hj, rfl, HL, HP⟩ := hrel
          have hlen : ws.length = j := by have := rdAll_length j (by rw [HL.out] : (rdAll (readW ds) U j).2.2 = 0); rwa [HL.out] at this
          obtain ⟨Ao, co, hv⟩ := HP.out.own.slice
          rw [hlen] at hv
          subst hv
          obtain ⟨kx, hxx, hSx⟩ := HP.out.o.x
          unfold RBox at hxx
          obtain ⟨x0, x1, x2, xf0, xf1, xf2⟩ := cells3 hxx
          obtain ⟨d0, d1, d2, df0, df1, df2⟩ := cells3 HP.out.o.p
          clear hxx
          by_cases hlt : j < n
          · have hlt' : (j : Int) < (n : Int) := by omega
            obtain ⟨base1, _, hst1⟩ := HP.out.o.ds
            have hDA := hst1.now.at
            have HI := fun W (hb : Below wr.heap.size wr W) => Lib.hid (refRead9_any W A ca ds (by omega) (hDA.next hb) t kx S1.err S1 ht hSx)
            unfold ReadPost9 at HI
            obtain ⟨x, Sz, ez, hI⟩ : ∃ x Sz ez, readW ds S1 = (x, Sz, ez) := ⟨_, _, _, rfl⟩
            have HY := Lib.hid hI
            rw [hI] at HI
            dsimp only at HI
            have hbxr : bx + 1 ≤ wr.heap.size := HP.out.o.lt
            clear hI hSx hDA hst1
            go_upto_block 1 with fail
            go_cut [12] (fun i wx => i = .int .i64 (j : Int) ∧ ∃ (x : List (List De)) (Sz : St) (v2 : Value), Hid (rdAll (readW ds) U (j + 1) = (ws ++ [x], Sz, 0)) ∧ Hid (P1 w t bx (.slice A ds.length ca) v2 ds (ws ++ [x]) Sz wx))
            case first =>
              go_wp2_with fail
              refine (HI _ (Below.refl _ _)).out.mono ?_
              rintro e6 w6 ⟨vw, kz, rfl, hSz, hOw, hb6⟩
              obtain ⟨Aw, cw, rfl⟩ := hOw.slice
              have hP6 := HP.out.next hb6
              have hbz : Below w6.heap.size w6 (w6.alloc (RBox t kz Sz.err)) := (Below.refl _ _).alloc (Nat.le_refl _) _
              have HP7 := Lib.hid (hP6.next hbz)
              have hO7 := (hOw.next hbz).base hbxr
              have hzn := heap_alloc_new w6 (RBox t kz Sz.err)
              have hbxz : bx < w6.heap.size := hP6.o.lt
              have HSz := Lib.hid hSz
              unfold RBox at HP7 hzn hO7
              clear hP6 hbz hb6 hSz HI hOw x0 x1 x2 xf0 xf1 xf2 d0 d1 d2 df0 df1 df2 HP
              go_upto_region 15 with fail
              generalize w6.alloc (.cells #[.string t, .int .i64 (kz : Int), .int .i64 (Sz.err : Int)] 79) = W7 at *
              generalize w6.heap.size = bz at *
              by_cases hez : ez = 0
              · subst hez
                have HQ1 := Lib.hid (rdAll_next HL.out HY.out)
                have hez' : ((0 : Int) != 0) = false := rfl
                have hbA : Below W7.heap.size W7 (W7.alloc (.cells #[.slice Aw x.length cw] 45)) := (Below.refl _ _).alloc (Nat.le_refl _) _
                have hown1 : OwnV W7 (bx + 1) (.slice Ao j co) ws := HP7.out.own
                have hbase : bx + 1 ≤ W7.heap.size := HP7.out.o.lt
                have hll : ws.length ≤ 1000 := by omega
                have HLn : Hid ((ws ++ [x]).length = j + 1) := Lib.hid (by rw [List.length_append, hlen]; rfl)
                have Hap := fun (v2 : Value) (W2 : World) (h1 : OwnV W2 (bx + 1) v2 (ws ++ [x])) (h2 : (W7.alloc (.cells #[.slice Aw x.length cw] 45)).grownBy W2 (Value.slice Ao j co).ownBlock) => HP7.out.app (bz := bz) (S' := Sz) hzn hbA h1 h2
                have hzA := (hbA.block bz (lt_of_block hzn)).trans hzn
                have hpA := (hbA.block _ (lt_of_block HP7.out.o.p)).trans HP7.out.o.p
                obtain ⟨z0, z1, z2, -, -, -⟩ := cells3 hzn
                obtain ⟨b0, b1, b2, -, -, -⟩ := cells3 hzA
                obtain ⟨-, d1, -, -, -, -⟩ := cells3 HP7.out.o.p
                obtain ⟨-, c1, -, -, -, -⟩ := cells3 hpA
                have m1 : bx ≠ w.heap.size + 1 + 1 := by have := HP7.out.o.hx; omega
                have m2 : w.heap.size + 1 + 1 ≠ bx := fun e => m1 e.symm
                have m3 : bz ≠ w.heap.size + 1 + 1 := by have := HP7.out.o.hx; omega
                have m4 : bz ≠ bx := by omega
                clear hbA hzA hpA hzn HL HY HStop HR2 HSM
                go_wp2_with fail
                go_region_law (first
                  | (refine step_appV (w := W7.drew) (by rfl) (.tmp 73) (.tmp 75) (by rfl) (bx + 1) 1 (.slice Ao j co) (.slice Aw x.length cw) ws x (by rfl) hown1.drew (by rfl) (Go.Proofs.YtahejekcfgkiaaaGreatDoor.need.OwnW.drew hO7) (by rfl) hll hbase ?_; intro v2 W9 hv2 hg2; have hAp := Hap v2 W9 hv2 ⟨hg2.os, hg2.tape, hg2.output, hg2.size, hg2.block⟩; have HAp := Lib.hid hAp; have hzW := hAp.2.1; unfold RBox at hzW; obtain ⟨a0, a1, a2, -, -, -⟩ := cells3 hzW; obtain ⟨ka, hxa, _⟩ := hAp.1.x; unfold RBox at hxa; obtain ⟨x0, x1, x2, xf0, xf1, xf2⟩ := cells3 hxa; obtain ⟨g0, g1, g2, gf0, gf1, gf2⟩ := cells3 hAp.1.p; obtain ⟨Av, cv, hve⟩ := hv2.slice; rw [HLn.out] at hve; subst hve; clear hAp hzW hxa))
                all_goals
                  go_wp2_with fail
                  go_meet
                  exact ⟨rfl, x, Sz, _, HQ1, Lib.hid (P1.stored HAp.out.1 HAp.out.2.2 HSz.out)⟩
              · have HV := Lib.hid (HStop.out j hlt _ _ _ _ _ HL.out HY.out hez)
                have hez' : ((ez : Int) != 0) = true := by simpa using hez
                obtain ⟨x0, x1, x2, -, -, -⟩ := cells3 HP7.out.o.n
                obtain ⟨r0, r1, r2, rf0, rf1, rf2⟩ := cells3 HP7.out.o.r0
                have HQ7 := Lib.hid HP7.out.o.q
                clear hez HL HY HStop HP7 hzn
                go_wp2_with fail
                exact HQ7.out.none_ret HV.out rfl rfl rfl
            case rest =>
              obtain ⟨rfl, x, Sn, v2, HQn, HPn⟩ := hcut
              clear HI HY x0 x1 x2 xf0 xf1 xf2 d0 d1 d2 df0 df1 df2 HP HL HStop
              go_wp2_with fail
              go_roundw
              case rel => exact ⟨j + 1, ws ++ [x], Sn, v2, by omega, by go_num, HQn, HPn⟩
              case measure => simp [intOf]; omega
          · obtain rfl : j = n := by omega
            have hsw : ws.length ≤ 32 ∧ ∀ x ∈ ws, SmallW x := ⟨by omega, by
              have h1 := rdAll_each (rd := readW ds) (ok := SmallW) (readW_small ds) (s := U) j (by rw [HL.out])
              rwa [HL.out] at h1⟩
            have HSw := Lib.hid hsw
            obtain ⟨m, V, em2, hMn⟩ : ∃ m V em2, rdMany S1 16 = (m, V, em2) := ⟨_, _, _, rfl⟩
            have HR3 : Hid (r = if em2 ≠ 0 then (Pg.none, em2) else tl2 ds ws (rdAll (rdFn rdIns) V m)) := Lib.hid (by rw [HR2.out, HL.out]; unfold tl1; dsimp only; rw [if_neg (by decide), hMn])
            have HM2 := fun W => Lib.hid (refMany_any W t kx S1.err S1 16 (by decide) ht hSx)
            unfold ManyPost at HM2
            have hMle := rdMany_le (s := S1) (most := 16)
            rw [hMn] at HM2 hMle
            dsimp only at HM2 hMle
            have HMn := Lib.hid hMle
            clear hMn hMle hsw HL HStop HR2 hSx
            go_wp2_with fail
            refine (HM2 _).out.mono ?_
            rintro e8 w8 ⟨k8, rfl, hV, hb8⟩
            have hP8 := HP.out.next hb8
            have HP9 := Lib.hid (hP8.turn hV)
            obtain ⟨k9, hx9, _⟩ := hP8.o.x
            unfold RBox at hx9
            clear x0 x1 x2 xf0 xf1 xf2
            obtain ⟨x0, x1, x2, xf0, xf1, xf2⟩ := cells3 hx9
            clear hb8 hP8 hx9 hV HM2 HP
            unfold put3 sN at HP9
            go_upto_region 19 with fail
            generalize ((w8.setCell ⟨bx, 0, none⟩ (.string t)).setCell ⟨bx, 1, none⟩ (.int .i64 (k8 : Int))).setCell ⟨bx, 2, none⟩ (.int .i64 (V.err : Int)) = W9 at *
            generalize w8.heap.size = M at *
            clear x0 x1 x2 xf0 xf1 xf2 d0 d1 d2 df0 df1 df2
            by_cases hem2 : em2 = 0
            · subst hem2
              have HR4 : Hid (r = tl2 ds ws (rdAll (rdFn rdIns) V m)) := Lib.hid (by rw [HR3.out, if_neg (by decide)])
              have hm : m ≤ 16 := HMn.out rfl
              have HStop : Hid (∀ j, j < m → ∀ (fs : List Fn) (S1 S2 : St) (f : Fn) (e : Nat), rdAll (rdFn rdIns) V j = (fs, S1, 0) → rdFn rdIns S1 = (f, S2, e) → e ≠ 0 → r = (Pg.none, e)) := Lib.hid (fun j hj fs S1 S2 f e h1 h2 h3 => by rw [HR4.out, rdAll_stop hj h1 h2 h3]; unfold tl2; rw [if_pos h3])
              clear HR3 HMn
              go_wp2_with fail
              obtain ⟨Wo, rfl⟩ : ∃ Wo, Wo = wr := ⟨_, rfl⟩
              go_loopw [16] (fun i wr => ∃ (i' : Nat) (fs : List Fn) (S2 : St) (u : Value), i' ≤ m ∧ i = .int .i64 (i' : Int) ∧ Hid (rdAll (rdFn rdIns) V i' = (fs, S2, 0)) ∧ Hid (P2 w t bx M (.slice A ds.length ca) (.slice Ao j co) u ds ws fs S2 wr)) (fun i _ => m - (intOf i).toNat)
              case atStart => exact ⟨0, [], V, _, Nat.zero_le _, rfl, Lib.hid rfl, HP9⟩
              case round =>
                clear HP9
                obtain ⟨i, fs, S2, u, hi, rfl, HL, HP⟩ := hrel
                have hlef : fs.length = i := by have := rdAll_length i (by rw [HL.out] : (rdAll (rdFn rdIns) V i).2.2 = 0); rwa [HL.out] at this
                obtain ⟨Bo, cb, hu⟩ := HP.out.own.slice
                rw [hlef] at hu
                subst hu
                obtain ⟨ky, hxx, hSx⟩ := HP.out.o.x
                unfold RBox at hxx
                obtain ⟨x0, x1, x2, xf0, xf1, xf2⟩ := cells3 hxx
                obtain ⟨d0, d1, d2, df0, df1, df2⟩ := cells3 HP.out.o.p
                clear hxx
                by_cases hlt : i < m
                · have hlt' : (i : Int) < (m : Int) := by omega
                  have HI := fun W => Lib.hid (refFn2_any W t ky S2.err S2 ht hSx)
                  unfold FnPost at HI
                  obtain ⟨f, Sz, ez, hI⟩ : ∃ f Sz ez, rdFn rdIns S2 = (f, Sz, ez) := ⟨_, _, _, rfl⟩
                  have HY := Lib.hid hI
                  rw [hI] at HI
                  obtain ⟨far, flo, fco⟩ := f
                  dsimp only at HI
                  have hMr : M ≤ wr.heap.size := HP.out.ws.1
                  clear hI hSx
                  go_upto_block 3 with fail
                  go_cut [16] (fun p wx => p = .int .i64 (i : Int) ∧ ∃ (f : Fn) (Sz : St) (u2 : Value), Hid (rdAll (rdFn rdIns) V (i + 1) = (fs ++ [f], Sz, 0)) ∧ Hid (P2 w t bx M (.slice A ds.length ca) (.slice Ao j co) u2 ds ws (fs ++ [f]) Sz wx))
                  case first =>
                    go_wp2_with fail
                    refine (HI _).out.mono ?_
                    rintro e6 w6 ⟨ar, lo, Af, nf, cf, t1, kz, er, rfl, hb6, hG⟩
                    have hP6 := HP.out.next hb6
                    have hb7 : Below w6.heap.size w6 (w6.alloc (fnX ar lo (.slice Af nf cf))) := (Below.refl _ _).alloc (Nat.le_refl _) _
                    have hb8 : Below (w6.alloc (fnX ar lo (.slice Af nf cf))).heap.size (w6.alloc (fnX ar lo (.slice Af nf cf))) ((w6.alloc (fnX ar lo (.slice Af nf cf))).alloc (RBox t1 kz er)) := (Below.refl _ _).alloc (Nat.le_refl _) _
                    have hz7 : (w6.alloc (fnX ar lo (.slice Af nf cf))).heap.size = w6.heap.size + 1 := World.size_alloc _ _
                    have HP7 := Lib.hid ((hP6.next hb7).next hb8)
                    have hfn := (hb8.block w6.heap.size (by omega)).trans (heap_alloc_new w6 (fnX ar lo (.slice Af nf cf)))
                    have hzn := heap_alloc_new (w6.alloc (fnX ar lo (.slice Af nf cf))) (RBox t1 kz er)
                    rw [hz7] at hzn
                    have hbxz : bx < w6.heap.size := hP6.o.lt
                    have hG2 := fun h => ((hG h).2.2.1.next hb7).next hb8
                    have HG := Lib.hid hG
                    have HG2 := Lib.hid hG2
                    clear hP6 hb6 hb7 hb8 hz7 hG hG2 HI x0 x1 x2 xf0 xf1 xf2 d0 d1 d2 df0 df1 df2 HP
                    unfold RBox fnX at HP7 hzn HG2 hfn
                    go_upto_region 25 with fail
                    generalize (w6.alloc (.cells #[.int .i64 ar, .int .i64 lo, .slice Af nf cf] 49)).alloc (.cells #[.string t1, .int .i64 (kz : Int), .int .i64 (er : Int)] 79) = W7 at *
                    generalize w6.heap.size = g at *
                    by_cases hez : ez = 0
                    · subst hez
                      obtain ⟨q1, q2, _, q3, q4, hSz⟩ := HG.out rfl
                      have hO7 := (HG2.out rfl).base hMr
                      replace q3 := q3.symm
                      subst q1 q2 q4
                      subst q3
                      obtain ⟨A1, c1, hsl⟩ := hO7.slice
                      injection hsl with z1 z2 z3
                      subst z1 z2 z3
                      have HQ1 := Lib.hid (rdAll_next HL.out HY.out)
                      have HSz := Lib.hid hSz
                      have hez' : ((0 : Int) != 0) = false := rfl
                      have hbA : Below W7.heap.size W7 (W7.alloc (fnX ar lo (.slice Af fco.length cf))) := (Below.refl _ _).alloc (Nat.le_refl _) _
                      have hown1 : OwnF W7 M (.slice Bo i cb) fs := HP7.out.own
                      have hbase : M ≤ W7.heap.size := HP7.out.ws.1
                      have hll : fs.length ≤ 1000 := by omega
                      have HLn : Hid ((fs ++ [(⟨ar, lo, fco⟩ : Fn)]).length = i + 1) := Lib.hid (by rw [List.length_append, hlef]; rfl)
                      have Hap := fun (v2 : Value) (W2 : World) (h1 : OwnF W2 M v2 (fs ++ [(⟨ar, lo, fco⟩ : Fn)])) (h2 : (W7.alloc (fnX ar lo (.slice Af fco.length cf))).grownBy W2 (Value.slice Bo i cb).ownBlock) => HP7.out.app (bz := g + 1) (S' := Sz) hzn hbA h1 h2
                      have hzA := (hbA.block (g + 1) (lt_of_block hzn)).trans hzn
                      have hfA := (hbA.block g (lt_of_block hfn)).trans hfn
                      have hpA := (hbA.block _ (lt_of_block HP7.out.o.p)).trans HP7.out.o.p
                      unfold fnX at Hap hzA hpA hfA
                      obtain ⟨z0, z1, z2, -, -, -⟩ := cells3 hzn
                      obtain ⟨b0, b1, b2, -, -, -⟩ := cells3 hzA
                      obtain ⟨f0, f1, f2, -, -, -⟩ := cells3 hfn
                      obtain ⟨h0, h1, h2, -, -, -⟩ := cells3 hfA
                      obtain ⟨-, -, d2, -, -, -⟩ := cells3 HP7.out.o.p
                      obtain ⟨-, -, c2, -, -, -⟩ := cells3 hpA
                      have m1 : bx ≠ w.heap.size + 1 + 1 := by have := HP7.out.o.hx; omega
                      have m2 : w.heap.size + 1 + 1 ≠ bx := fun e => m1 e.symm
                      have m3 : g + 1 ≠ w.heap.size + 1 + 1 := by have := HP7.out.o.hx; omega
                      have m4 : g + 1 ≠ bx := by omega
                      clear hbA hzA hpA hzn hfn hfA HG HG2 hSz HL HY HStop HR4 HSM HSw
                      go_wp2_with fail
                      go_region_law (first
                        | (refine step_appF (w := W7.drew) (by rfl) (.tmp 105) (.tmp 107) (by rfl) M 1 (.slice Bo i cb) (.slice Af fco.length cf) fs ⟨ar, lo, fco⟩ (by rfl) hown1.drew (by rfl) hO7.drew (by rfl) hll hbase ?_; intro v2 W9 hv2 hg2; have hAp := Hap v2 W9 hv2 ⟨hg2.os, hg2.tape, hg2.output, hg2.size, hg2.block⟩; have HAp := Lib.hid hAp; have hzW := hAp.2.1; unfold RBox at hzW; obtain ⟨a0, a1, a2, -, -, -⟩ := cells3 hzW; obtain ⟨ka, hxa, _⟩ := hAp.1.x; unfold RBox at hxa; obtain ⟨x0, x1, x2, xf0, xf1, xf2⟩ := cells3 hxa; obtain ⟨g0, g1, g2, gf0, gf1, gf2⟩ := cells3 hAp.1.p; obtain ⟨Av, cv, hve⟩ := hv2.slice; rw [HLn.out] at hve; subst hve; clear hAp hzW hxa))
                      all_goals
                        go_wp2_with fail
                        go_meet
                        exact ⟨rfl, ⟨ar, lo, fco⟩, Sz, _, HQ1, Lib.hid (P2.stored HAp.out.1 HAp.out.2.2.2 HAp.out.2.2.1 HP7.out.hM HSz.out)⟩
                    · have HV := Lib.hid (HStop.out i hlt _ _ _ _ _ HL.out HY.out hez)
                      have hez' : ((ez : Int) != 0) = true := by simpa using hez
                      obtain ⟨x0, x1, x2, -, -, -⟩ := cells3 HP7.out.o.n
                      obtain ⟨r0, r1, r2, rf0, rf1, rf2⟩ := cells3 HP7.out.o.r0
                      have HQ7 := Lib.hid HP7.out.o.q
                      clear hez HL HY HStop HP7 hzn hfn HG HG2
                      go_wp2_with fail
                      exact HQ7.out.none_ret HV.out rfl rfl rfl
                  case rest =>
                    obtain ⟨rfl, f, Sn, u2, HQn, HPn⟩ := hcut
                    clear HI HY x0 x1 x2 xf0 xf1 xf2 d0 d1 d2 df0 df1 df2 HP HL HStop
                    go_wp2_with fail
                    go_roundw
                    case rel => exact ⟨i + 1, fs ++ [f], Sn, u2, by omega, by go_num, HQn, HPn⟩
                    case measure => simp [intOf]; omega
                · obtain rfl : i = m := by omega
                  have hsf : ∀ f ∈ fs, f.co.length ≤ 200 := by
                    have h1 := rdAll_each (rd := rdFn rdIns) (ok := fun f : Fn => f.co.length ≤ 200) (fun s h => rdFn_small s h) (s := V) i (by rw [HL.out])
                    rwa [HL.out] at h1
                  have HR5 : Hid (r = if S2.rest ≠ [] then (Pg.none, 2) else if chkP ⟨ds, ws, fs⟩ ≠ 0 then (Pg.none, chkP ⟨ds, ws, fs⟩) else (⟨ds, ws, fs⟩, 0)) := Lib.hid (by rw [HR4.out, HL.out]; unfold tl2; dsimp only; rw [if_neg (by decide)])
                  have hrest : S2.rest = t.data.toList.drop ky := hSx.2.1
                  have hky : ky ≤ t.size := hSx.1
                  have hlen : t.data.toList.length = t.size := by rw [Array.length_toList]; rfl
                  have HH := Lib.hid (HP.out.head hdl HSw.out.1 HSw.out.2 (by omega) hsf).1
                  clear HL HStop HR4 hSx hsf
                  by_cases hk : ky < t.size
                  · have hk' : (ky : Int) < (t.size : Int) := by omega
                    have HV : Hid (r = (Pg.none, 2)) := Lib.hid (by
                      rw [HR5.out, if_pos]
                      rw [hrest]
                      intro h
                      have := congrArg List.length h
                      rw [List.length_drop, hlen] at this
                      simp at this
                      omega)
                    obtain ⟨y0, y1, y2, -, -, -⟩ := cells3 HP.out.o.n
                    obtain ⟨r0, r1, r2, rf0, rf1, rf2⟩ := cells3 HP.out.o.r0
                    have HQ7 := Lib.hid HP.out.o.q
                    clear HP HH HR5 hrest hlen
                    go_wp2_with fail
                    exact HQ7.out.none_ret HV.out rfl rfl rfl
                  · have hk' : ¬ (ky : Int) < (t.size : Int) := by omega
                    have HR6 : Hid (r = if chkP ⟨ds, ws, fs⟩ ≠ 0 then (Pg.none, chkP ⟨ds, ws, fs⟩) else (⟨ds, ws, fs⟩, 0)) := Lib.hid (by
                      rw [HR5.out, if_neg]
                      rw [hrest, List.drop_eq_nil_of_le (by omega)]
                      simp)
                    clear HR5 hrest hlen hk
                    have HC := fun W (hb : Below wr.heap.size wr W) => Lib.hid (refCheck10_any (.agg #[.slice A ds.length ca, .slice Ao j co, .slice Bo i cb]) ⟨ds, ws, fs⟩ W (HH.out.next hb))
                    unfold NumPost at HC
                    generalize hcp : chkP ⟨ds, ws, fs⟩ = cp at *
                    go_wp2_with fail
                    refine (HC _ (Below.refl _ _)).out.mono ?_
                    rintro e9 w9 ⟨rfl, hb9⟩
                    have HP9 := Lib.hid (HP.out.next hb9)
                    clear x0 x1 x2 xf0 xf1 xf2 d0 d1 d2 df0 df1 df2
                    obtain ⟨y0, y1, y2, -, -, -⟩ := cells3 HP9.out.o.n
                    obtain ⟨r0, r1, r2, rf0, rf1, rf2⟩ := cells3 HP9.out.o.r0
                    obtain ⟨d0, d1, d2, -, -, -⟩ := cells3 HP9.out.o.p
                    clear hb9 HC HH HP
                    by_cases hc : cp = 0
                    · have HV : Hid (r = (⟨ds, ws, fs⟩, 0)) := Lib.hid (by rw [HR6.out, if_neg (by simp [hc])])
                      have hc' : ((cp : Int) != 0) = false := by simp [hc]
                      clear hc HR6
                      go_wp2_with fail
                      exact get10_ret (put3_same HP9.out.o.r0 _ _ _) (put3_below HP9.out.o.below (Nat.le_refl _) _ _ _) (by rw [HV.out]; exact HP9.out.answer _ _ _) rfl (by rw [HV.out]; rfl) rfl
                    · have HV : Hid (r = (Pg.none, cp)) := Lib.hid (by rw [HR6.out, if_pos hc])
                      have hc' : ((cp : Int) != 0) = true := by simpa using hc
                      have HQ7 := Lib.hid HP9.out.o.q
                      clear hc HR6
                      go_wp2_with fail
                      exact HQ7.out.none_ret HV.out rfl rfl rfl
            · have HV : Hid (r = (Pg.none, em2)) := Lib.hid (by rw [HR3.out, if_pos hem2])
              have hem' : ((em2 : Int) != 0) = true := by simpa using hem2
              obtain ⟨x0, x1, x2, -, -, -⟩ := cells3 HP9.out.o.n
              obtain ⟨r0, r1, r2, rf0, rf1, rf2⟩ := cells3 HP9.out.o.r0
              have HQ7 := Lib.hid HP9.out.o.q
              clear hem2 HR3 HP9
              go_wp2_with fail
              exact HQ7.out.none_ret HV.out rfl rfl rfl
      · have HV : Hid (r = (Pg.none, em)) := Lib.hid (by rw [HR1.out, if_pos hem])
        have hem' : ((em : Int) != 0) = true := by simpa using hem
        obtain ⟨x0, x1, x2, -, -, -⟩ := cells3 HP0.out.n
        obtain ⟨r0, r1, r2, rf0, rf1, rf2⟩ := cells3 HP0.out.r0
        have HQ7 := Lib.hid HP0.out.q
        clear hem HR1 HP0
        go_wp2_with fail
        exact HQ7.out.none_ret HV.out rfl rfl rfl
    · have he' : ((e : Int) != 0) = true := by simpa using he
      have HV : Hid (r = (Pg.none, e)) := Lib.hid (by rw [HR.out]; unfold tl0; rw [if_pos he])
      obtain ⟨x0, x1, x2, -, -, -⟩ := cells3 hQ2.out.n
      obtain ⟨r0, r1, r2, rf0, rf1, rf2⟩ := cells3 hQ2.out.r0
      go_wp2_with fail
      exact hQ2.out.none_ret HV.out rfl rfl rfl
  · have HV : Hid (r = (Pg.none, 2)) := Lib.hid (by rw [HR.out, if_pos hx])
    obtain ⟨x0, x1, x2, -, -, -⟩ := cells3 HQ0.out.n
    obtain ⟨r0, r1, r2, rf0, rf1, rf2⟩ := cells3 HQ0.out.r0
    have hx' : (!(t.extract 0 3).toList == [76, 74, 1]) = true := by rw [head3]; simpa using hx
    clear hx HR
    by_cases h3 : t.size < 3
    · have h3' : (t.size : Int) < 3 := by omega
      go_wp2_with fail
      exact HQ0.out.none_ret HV.out rfl rfl rfl
    · have h3' : ¬ (t.size : Int) < 3 := by omega
      go_wp2_with fail
      exact HQ0.out.none_ret HV.out rfl rfl rfl
end Go.Proofs.YtahejekcfgkiaaaGreatDoor.pgm
