/-
  Texts of one claim in one file: GAll, GClip, GGet, ESame, GSame, GSpec, GOnceW, PClose, Shut, DClose, GClose. Each has its own sentence, with its conditions.
-/
import Derived.Test.YtahejekcfgkiaaaDoorOall6
import Derived.Test.YtahejekcfgkiaaaDoorOall4
import Derived.Defers
import Derived.Recover
import Derived.Tactics2
import Derived.Laws.Pointers
import Derived.Test.YtahejekcfgkiaaaDoorOall2
import Derived.Test.YtahejekcfgkiaaaDoorOall5
import Derived.Test.YtahejekcfgkiaaaDoorOall3
import Derived.WalkLawsBesides
import Derived.Test.YtahejekcfgkiaaaDoorRows
import Derived.Test.YtahejekcfgkiaaaDoorOall1
import Derived.Below
import Derived.ChangeSame
import Derived.Carry
import Derived.ProofKit
import Derived.LaidMore
import Derived.OpenShut
import Derived.Stop.Joined
import Derived.Lib.LaidTab
import Derived.WideShapes
import Derived.ChangeArms
import Derived.WideKeyArgs
import Derived.Stop.LaidErr
/-
  The program whose bytes some are, before it is checked (typed over the code of 4b95722). The tables must lie where their initialisers lay them; texts of at most two to the forty-seventh bytes.
-/
namespace Go.Proofs.YtahejekcfgkiaaaDoor.pgm
open Go.RowKit Go.ChangeShapes
open Go.Proofs.YtahejekcfgkiaaaDoor.octet (St InAt Frm rdNum num size_mk)
open Go.Proofs.YtahejekcfgkiaaaDoor.objs (De zero DAt CellsAt Okd cells3 put3 put3_same put3_far put3_below readL)
open Go.Proofs.YtahejekcfgkiaaaDoor.need (WAt OwnW Oka readW)
set_option linter.unusedVariables false

/-- What getAll reads. -/
def rdProg (t : List UInt8) : Pg × Nat :=
  if t.take 3 ≠ [76, 74, 1] then (Pg.none, 2)
  else if (readL ⟨t.drop 3, 0⟩).2.2 ≠ 0 then (Pg.none, (readL ⟨t.drop 3, 0⟩).2.2)
  else if (rdWaits (readL ⟨t.drop 3, 0⟩).1 (readL ⟨t.drop 3, 0⟩).2.1).2.2 ≠ 0 then (Pg.none, (rdWaits (readL ⟨t.drop 3, 0⟩).1 (readL ⟨t.drop 3, 0⟩).2.1).2.2)
  else if (rdFuncs (rdWaits (readL ⟨t.drop 3, 0⟩).1 (readL ⟨t.drop 3, 0⟩).2.1).2.1).2.2 ≠ 0 then (Pg.none, (rdFuncs (rdWaits (readL ⟨t.drop 3, 0⟩).1 (readL ⟨t.drop 3, 0⟩).2.1).2.1).2.2)
  else if (rdFuncs (rdWaits (readL ⟨t.drop 3, 0⟩).1 (readL ⟨t.drop 3, 0⟩).2.1).2.1).2.1.rest ≠ [] then (Pg.none, 2)
  else (⟨(readL ⟨t.drop 3, 0⟩).1, (rdWaits (readL ⟨t.drop 3, 0⟩).1 (readL ⟨t.drop 3, 0⟩).2.1).1, (rdFuncs (rdWaits (readL ⟨t.drop 3, 0⟩).1 (readL ⟨t.drop 3, 0⟩).2.1).2.1).1⟩, 0)
theorem rdProg_a {t : List UInt8} (h : ¬ t.take 3 = [76, 74, 1]) : rdProg t = (Pg.none, 2) := by unfold rdProg; rw [if_pos h]
theorem rdProg_b {t : List UInt8} {l : List De} {S : St} {e : Nat} (h : t.take 3 = [76, 74, 1]) (h1 : readL ⟨t.drop 3, 0⟩ = (l, S, e)) (he : e ≠ 0) : rdProg t = (Pg.none, e) := by
  unfold rdProg
  rw [h1]
  dsimp only
  rw [if_neg (by simpa using h), if_pos he]
theorem rdProg_c {t : List UInt8} {l : List De} {S T : St} {ws : List (List (List De))} {e : Nat} (h : t.take 3 = [76, 74, 1]) (h1 : readL ⟨t.drop 3, 0⟩ = (l, S, 0)) (h2 : rdWaits l S = (ws, T, e)) (he : e ≠ 0) : rdProg t = (Pg.none, e) := by
  unfold rdProg
  rw [h1]
  dsimp only
  rw [h2]
  dsimp only
  rw [if_neg (by simpa using h), if_neg (by decide), if_pos he]
theorem rdProg_d {t : List UInt8} {l : List De} {S T U : St} {ws : List (List (List De))} {fs : List Fn} {e : Nat} (h : t.take 3 = [76, 74, 1]) (h1 : readL ⟨t.drop 3, 0⟩ = (l, S, 0)) (h2 : rdWaits l S = (ws, T, 0)) (h3 : rdFuncs T = (fs, U, e)) (he : e ≠ 0) : rdProg t = (Pg.none, e) := by
  unfold rdProg
  rw [h1]
  dsimp only
  rw [h2]
  dsimp only
  rw [h3]
  dsimp only
  rw [if_neg (by simpa using h), if_neg (by decide), if_neg (by decide), if_pos he]
theorem rdProg_e {t : List UInt8} {l : List De} {S T U : St} {ws : List (List (List De))} {fs : List Fn} (h : t.take 3 = [76, 74, 1]) (h1 : readL ⟨t.drop 3, 0⟩ = (l, S, 0)) (h2 : rdWaits l S = (ws, T, 0)) (h3 : rdFuncs T = (fs, U, 0)) : rdProg t = if U.rest ≠ [] then (Pg.none, 2) else (⟨l, ws, fs⟩, 0) := by
  unfold rdProg
  rw [h1]
  dsimp only
  rw [h2]
  dsimp only
  rw [h3]
  dsimp only
  rw [if_neg (by simpa using h), if_neg (by decide), if_neg (by decide), if_neg (by decide)]

/-- A program that no block of slices below B bears: such a one may turn, and the program stays. -/
def PFar (B : Nat) (w : World) (v : Value) (p : Pg) : Prop := ∀ (R : Nat) (X Y Z : Option Addr) (n m k c1 c2 c3 : Nat), R < B → w.heap[R]? = some (.cells #[.slice X n c1, .slice Y m c2, .slice Z k c3] 26 (0, 0)) → ∀ W' : World, w.heap.size ≤ W'.heap.size → (∀ g, g ≠ R → W'.heap[g]? = w.heap[g]?) → PAt W' v p
/-- What a call tells that reads a program whole, or panics. -/
def AllP (q : Pg × Nat) (w : World) (e : Ending) (w' : World) : Prop := Below w.heap.size w w' ∧ (q.2 ≠ 0 → e = .panicked (flt q.2)) ∧ (q.2 = 0 → ∃ v, e = .returned v ∧ PAt w' v q.1 ∧ PFar w.heap.size w' v q.1)
theorem AllP.bad {q : Pg × Nat} {w w' : World} {e : Ending} (hq : q.2 ≠ 0) (he : e = .panicked (flt q.2)) (hb : Below w.heap.size w w') : AllP q w e w' := ⟨hb, fun _ => he, fun h => absurd h hq⟩
theorem AllP.good {q : Pg × Nat} {w w' : World} {v : Value} (hq : q.2 = 0) (hv : PAt w' v q.1) (hf : PFar w.heap.size w' v q.1) (hb : Below w.heap.size w w') : AllP q w (.returned v) w' := ⟨hb, fun h => absurd hq h, fun _ => ⟨v, rfl, hv, hf⟩⟩

theorem all_ret {w Z : World} {R : Nat} {q : Pg × Nat} {x y z : Value} {act : Act} (hr : Z.heap[R]? = some (.cells #[x, y, z] 26 (0, 0))) (h2 : act.tmps[2]?.getD undef = .pointer (some ⟨R, 0, none⟩)) (hd : act.defers = [])
    (hq : q.2 = 0) (hv : PAt Z (.agg #[x, y, z]) q.1) (hf : PFar w.heap.size Z (.agg #[x, y, z]) q.1) (hb : Below w.heap.size w Z) : bodyPost Tryd.prog Tryd.f9 (AllP q w) .ret act Z := by
  obtain ⟨x0, x1, x2, _, _, _⟩ := cells3 hr
  refine bodyPost_ret (v := .agg #[x, y, z]) ?_ hd (AllP.good hq hv hf hb)
  simp [results, Tryd.results9, go_sem, h2, x0, x1, x2]
/-- Three numbers in a row lie in no program's block. -/
theorem cells_offP {w : World} {b i P : Nat} {d : De} {A B C : Option Addr} {n m k c1 c2 c3 : Nat} (h : CellsAt w b i d) (hP : w.heap[P]? = some (.cells #[.slice A n c1, .slice B m c2, .slice C k c3] 26 (0, 0))) : b ≠ P := by
  rintro rfl
  have h1 := h.2.2
  unfold World.cell? at h1
  rw [hP] at h1
  have : i + 2 < 3 := by
    rcases Nat.lt_or_ge (i + 2) 3 with h2 | h2
    · exact h2
    · simp [Array.getElem?_eq_none (show (#[Value.slice A n c1, .slice B m c2, .slice C k c3] : Array Value).size ≤ i + 2 from h2)] at h1
  obtain rfl : i = 0 := by omega
  simp at h1
theorem dat_set {w : World} {P i : Nat} {A0 A B C : Option Addr} {n m k c1 c2 c3 : Nat} {l : List De} (h : DAt w A0 l) (hP : w.heap[P]? = some (.cells #[.slice A n c1, .slice B m c2, .slice C k c3] 26 (0, 0))) (v : Value) : DAt (w.setCell ⟨P, i, none⟩ v) A0 l := fun j hj => by
  obtain ⟨b, off, h1, h2, h3⟩ := h j hj
  exact ⟨b, off, h1, by simpa [World.setCell] using h2, h3.keep (Below.heap_setCell _ ⟨P, i, none⟩ _ b (cells_offP h3 hP))⟩

/-- Between the parts of a program that are read: the reader, the program's box, the result's box. -/
structure Ga (w : World) (R br P : Nat) (x y z : Value) (r : List UInt8) (W : World) : Prop where
  rd : RdAt W br r
  box : W.heap[P]? = some (.cells #[x, y, z] 26 (0, 0))
  res : W.heap[R]? = some (.cells #[.slice none 0 0, .slice none 0 0, .slice none 0 0] 26 (0, 0))
  below : Below w.heap.size w W
  lR : w.heap.size ≤ R
  lb : R < br
  lP : br < P
theorem Ga.next {w W W' : World} {R br P : Nat} {x y z : Value} {r r' : List UInt8} (h : Ga w R br P x y z r W) (hr : RdAt W' br r') (hf : Frm W.heap.size br W W') : Ga w R br P x y z r' W' := by
  have h1 := h.lR
  have h2 := h.lb
  have h3 := h.lP
  exact ⟨hr, (hf.block P (lt_of_block h.box) (by omega)).trans h.box, (hf.block R (lt_of_block h.res) (by omega)).trans h.res, h.below.trans ((hf.mono h.below.size).below (by omega) (Nat.le_refl _)), h1, h2, h3⟩
theorem Ga.set {w W : World} {R br P : Nat} {x y z x' y' z' : Value} {r : List UInt8} (h : Ga w R br P x y z r W) (i : Nat) (v : Value) (he : (W.setCell ⟨P, i, none⟩ v).heap[P]? = some (.cells #[x', y', z'] 26 (0, 0))) : Ga w R br P x' y' z' r (W.setCell ⟨P, i, none⟩ v) := by
  have h1 := h.lR
  have h2 := h.lb
  have h3 := h.lP
  exact ⟨h.rd.kept (Below.heap_setCell _ ⟨P, i, none⟩ _ br (by show br ≠ P; omega)), he, (Below.heap_setCell _ ⟨P, i, none⟩ _ R (by show R ≠ P; omega)).trans h.res, h.below.setCell (p := ⟨P, i, none⟩) (by show w.heap.size ≤ P; omega) v, h1, h2, h3⟩
theorem Ga.set1 {w W : World} {R br P : Nat} {x y z : Value} {r : List UInt8} (h : Ga w R br P x y z r W) (v : Value) : Ga w R br P x v z r (W.setCell ⟨P, 1, none⟩ v) := h.set 1 v (by have := h.box; simp [World.setCell, Array.getElem?_modify, this])
theorem Ga.set2 {w W : World} {R br P : Nat} {x y z : Value} {r : List UInt8} (h : Ga w R br P x y z r W) (v : Value) : Ga w R br P x y v r (W.setCell ⟨P, 2, none⟩ v) := h.set 2 v (by have := h.box; simp [World.setCell, Array.getElem?_modify, this])
theorem rdWaits_once {d : List De} {t : List UInt8} (hd : (Go.Proofs.YtahejekcfgkiaaaDoor.objs.chk d).2 = 0) (h : (rdWaits d ⟨t, 0⟩).2.2 = 0) : (rdWaits d ⟨t, 0⟩).2.1.err = 0 ∧ (rdWaits d ⟨t, 0⟩).2.1.rest.length ≤ t.length := by
  unfold rdWaits at h ⊢
  split at h
  · exact absurd h ‹_›
  · rename_i h1
    rw [if_neg h1]
    obtain ⟨h2, h3, _⟩ := rdMany_once (L := t) (most := 32) (by omega)
    have h4 := congrArg List.length h2
    generalize rdMany ⟨t, 0⟩ 32 = p at *
    obtain ⟨n, ⟨R, E⟩, e⟩ := p
    dsimp only at h h1 h2 h3 h4 ⊢
    subst h3
    obtain ⟨h5, h6⟩ := rdAll_once (rd := readW d) (e := Go.Proofs.YtahejekcfgkiaaaDoor.need.encW) (d := []) (ok := fun _ => True) (fun L2 q2 _ => readW_once hd q2) n R h (fun _ _ => trivial)
    have h7 := congrArg List.length h5
    rw [List.length_append] at h4 h7
    exact ⟨h6, by omega⟩

set_option maxRecDepth 100000 in
set_option maxHeartbeats 8000000 in
theorem all_any (t : List UInt8) (w : World) (hl : t.length ≤ 140737489403904) (hok : Okp w) : Calls Tryd.prog 9 #[.string ⟨t.toArray⟩] w (AllP (rdProg t) w) := by
  have HC := fun W => Lib.hid (cut_any t W)
  unfold CutPost at HC
  obtain ⟨q, hq⟩ : ∃ q, q = rdProg t := ⟨_, rfl⟩
  rw [← hq]
  have HQ := Lib.hid hq
  have HK := Lib.hid hok
  have HB0 : Hid (Below w.heap.size w (w.alloc (.cells #[.slice none 0 0, .slice none 0 0, .slice none 0 0] 26))) := Lib.hid ((Below.refl _ w).alloc (Nat.le_refl _) _)
  have HN0 := Lib.hid (heap_alloc_new w (.cells #[.slice none 0 0, .slice none 0 0, .slice none 0 0] 26))
  have HZ0 := Lib.hid (World.size_alloc w (.cells #[.slice none 0 0, .slice none 0 0, .slice none 0 0] 26))
  clear hq hok
  by_cases h : t.take 3 = [76, 74, 1]
  · rw [if_pos h, decide_eq_true h] at HC
    have HT := Lib.hid h
    have hl3 : (t.drop 3).length ≤ 140737489403904 := by rw [List.length_drop]; omega
    have hO1 := readL_once (L := t.drop 3)
    obtain ⟨l, ⟨S, es⟩, e, hL⟩ : ∃ l S e, readL ⟨t.drop 3, 0⟩ = (l, S, e) := ⟨_, _, _, rfl⟩
    have HL := Lib.hid hL
    have hOb := fun W br h1 h2 => objects_rd W br (t.drop 3) h1 hl3 h2
    rw [hL] at hOb hO1
    dsimp only at hOb hO1
    clear hL h
    obtain ⟨u, hu0⟩ : ∃ u, t.drop 3 = u := ⟨_, rfl⟩
    have HU := Lib.hid hu0
    rw [hu0] at HL HC hl3 hO1 hOb
    clear hu0
    go_enter Tryd.func9, Tryd.ntmps9
    go_wp2_with fail
    refine (HC _).out.mono ?_
    rintro e0 w1 ⟨rfl, rfl⟩
    generalize w.alloc (.cells #[.slice none 0 0, .slice none 0 0, .slice none 0 0] 26) = W0 at *
    have HBr : Hid (Below W0.heap.size W0 (W0.alloc (.cells #[.string ⟨u.toArray⟩] 63))) := Lib.hid ((Below.refl _ _).alloc (Nat.le_refl _) _)
    have hrd : RdAt (W0.alloc (.cells #[.string ⟨u.toArray⟩] 63)) W0.heap.size u := heap_alloc_new W0 _
    have hK1 : Okp (W0.alloc (.cells #[.string ⟨u.toArray⟩] 63)) := (HK.out.next HB0.out).next HBr.out
    have HP1 : Hid (Past W0.heap.size) := Lib.hid (HK.out.next HB0.out).past
    have HOb := Lib.hid (hOb _ _ hrd hK1)
    have HR1 := Lib.hid hrd
    have HK1 := Lib.hid hK1
    clear hOb hrd hK1 HC
    go_upto_region 5 with fail
    generalize W0.alloc (.cells #[.string ⟨u.toArray⟩] 63) = W1 at *
    go_wp2_with fail
    refine HOb.out.mono ?_
    rintro e1 w2 ⟨hf2, hbad, hgood⟩
    by_cases he : e = 0
    · subst he
      obtain ⟨v, rfl, hr2, A, cl, rfl, hA2⟩ := hgood rfl
      obtain ⟨hchk, hu, hes⟩ := hO1 rfl
      subst hes
      have hlS : S.length ≤ 140737489403904 := by
        have h4 := congrArg List.length hu
        rw [List.length_append] at h4
        omega
      have HD := Lib.hid hchk
      have HG2 : Hid (Ga w w.heap.size W0.heap.size w2.heap.size (.slice A l.length cl) (.slice none 0 0) (.slice none 0 0) S (w2.alloc (.cells #[.slice A l.length cl, .slice none 0 0, .slice none 0 0] 26))) := Lib.hid (by
        have hR1 : W1.heap[w.heap.size]? = some (.cells #[.slice none 0 0, .slice none 0 0, .slice none 0 0] 26) := (HBr.out.block _ (by rw [HZ0.out]; omega)).trans HN0.out
        have hR2 := (hf2.block w.heap.size (lt_of_block hR1) (by rw [HZ0.out]; omega)).trans hR1
        refine ⟨hr2.kept (Below.heap_alloc _ _ _ hr2.lt), heap_alloc_new w2 _, (Below.heap_alloc _ _ _ (lt_of_block hR2)).trans hR2, ?_, Nat.le_refl _, by rw [HZ0.out]; omega, hr2.lt⟩
        have hb1 : Below w.heap.size w W1 := HB0.out.trans (HBr.out.mono HB0.out.size)
        have hb2 : Below w.heap.size w w2 := hb1.trans ((hf2.mono hb1.size).below HB0.out.size (Nat.le_refl _))
        exact hb2.alloc hb2.size _)
      have HA3 : Hid (DAt (w2.alloc (.cells #[.slice A l.length cl, .slice none 0 0, .slice none 0 0] 26)) A l) := Lib.hid (hA2.next ((Below.refl _ _).alloc (Nat.le_refl _) _))
      clear hbad hgood hr2 hf2 hA2 hO1 hu hchk HOb HBr HR1 HK1 HB0 HN0 HZ0
      go_upto_region 6 with fail
      generalize w2.alloc (.cells #[.slice A l.length cl, .slice none 0 0, .slice none 0 0] 26) = W3 at *
      generalize w2.heap.size = P at *
      generalize W0.heap.size = br at *
      obtain ⟨c0, c1, c2, z0, z1, z2⟩ := cells3 HG2.out.box
      have HWt := Lib.hid (waits_rd W3 br S A cl l HD.out HA3.out HG2.out.rd hlS (HK.out.next HG2.out.below) HP1.out)
      have hO2 := rdWaits_once (t := S) HD.out
      obtain ⟨ws, ⟨T, et⟩, e, hWs⟩ : ∃ ws T e, rdWaits l ⟨S, 0⟩ = (ws, T, e) := ⟨_, _, _, rfl⟩
      have HWs := Lib.hid hWs
      rw [hWs] at HWt hO2
      dsimp only at HWt hO2
      have HlS := Lib.hid hlS
      clear hWs hlS
      go_wp2_with fail
      refine HWt.out.mono ?_
      rintro e2 w4 ⟨hf4, hbad, hgood⟩
      clear c0 c1 c2 z0 z1 z2
      by_cases he : e = 0
      · subst he
        obtain ⟨v, rfl, hr4, hv4⟩ := hgood rfl
        have hv4' : OwnV w4 W3.heap.size v ws := hv4
        obtain ⟨het, hlT⟩ := hO2 rfl
        subst het
        have HlT : Hid (T.length ≤ 140737489403904) := Lib.hid (by
          have h5 := hlT
          have h6 := HlS.out
          omega)
        have HP3 : Hid (P < W3.heap.size) := Lib.hid (lt_of_block HG2.out.box)
        have HG4 := Lib.hid (HG2.out.next hr4 hf4)
        have HA4 := Lib.hid (dat_off HA3.out HG2.out.rd hf4)
        obtain ⟨B, cb, hvv⟩ := hv4'.slice
        subst hvv
        obtain ⟨c0, c1, c2, z0, z1, z2⟩ := cells3 HG4.out.box
        have HG5 := Lib.hid (HG4.out.set1 (.slice B ws.length cb))
        have HA5 := Lib.hid (dat_set (i := 1) HA4.out HG4.out.box (.slice B ws.length cb))
        have HV5 : Hid (OwnV (w4.setCell ⟨P, 1, none⟩ (.slice B ws.length cb)) W3.heap.size (.slice B ws.length cb) ws) := Lib.hid (hv4'.hold fun g hg _ => Below.heap_setCell _ ⟨P, 1, none⟩ _ g (by have := HP3.out; show g ≠ P; omega))
        have HS5 : Hid (W3.heap.size ≤ (w4.setCell ⟨P, 1, none⟩ (.slice B ws.length cb)).heap.size) := Lib.hid (by have := hf4.size; simpa [World.setCell] using this)
        clear hbad hgood hr4 hf4 hv4 hv4' hO2 hlT HWt HG2 HA3 HG4 HA4
        go_upto_region 7 with fail
        generalize w4.setCell ⟨P, 1, none⟩ (.slice B ws.length cb) = W5 at *
        clear c0 c1 c2 z0 z1 z2
        have HFn := Lib.hid (funcs_rd W5 br T HG5.out.rd HlT.out (HK.out.next HG5.out.below) HP1.out)
        obtain ⟨fs, ⟨U, eu⟩, e, hFs⟩ : ∃ fs U e, rdFuncs ⟨T, 0⟩ = (fs, U, e) := ⟨_, _, _, rfl⟩
        have HFs := Lib.hid hFs
        rw [hFs] at HFn
        dsimp only at HFn
        clear hFs
        go_wp2_with fail
        refine HFn.out.mono ?_
        rintro e3 w6 ⟨hf6, hbad, hgood⟩
        by_cases he : e = 0
        · subst he
          obtain ⟨v, rfl, hr6, hv6⟩ := hgood rfl
          have hv6' : OwnF w6 W5.heap.size v fs := hv6
          have HP5 : Hid (P < W5.heap.size) := Lib.hid (lt_of_block HG5.out.box)
          have HG6 := Lib.hid (HG5.out.next hr6 hf6)
          have HA6 := Lib.hid (dat_off HA5.out HG5.out.rd hf6)
          have HV6 : Hid (OwnV w6 W3.heap.size (.slice B ws.length cb) ws) := Lib.hid (HV5.out.hold fun g hg hg2 => hf6.block g hg2 (by have h1 := HP3.out; have h2 := HG5.out.lP; omega))
          obtain ⟨C, cc, hvv⟩ := hv6'.slice
          subst hvv
          obtain ⟨c0, c1, c2, z0, z1, z2⟩ := cells3 HG6.out.box
          have HG7 := Lib.hid (HG6.out.set2 (.slice C fs.length cc))
          have HA7 := Lib.hid (dat_set (i := 2) HA6.out HG6.out.box (.slice C fs.length cc))
          have HV7 : Hid (OwnV (w6.setCell ⟨P, 2, none⟩ (.slice C fs.length cc)) W3.heap.size (.slice B ws.length cb) ws) := Lib.hid (HV6.out.hold fun g hg _ => Below.heap_setCell _ ⟨P, 2, none⟩ _ g (by have := HP3.out; show g ≠ P; omega))
          have HF7 : Hid (OwnF (w6.setCell ⟨P, 2, none⟩ (.slice C fs.length cc)) W5.heap.size (.slice C fs.length cc) fs) := Lib.hid (hv6'.hold fun g hg _ => Below.heap_setCell _ ⟨P, 2, none⟩ _ g (by have := HP5.out; show g ≠ P; omega))
          have HE := Lib.hid (rdProg_e HT.out (by rw [HU.out]; exact HL.out) HWs.out HFs.out)
          clear hbad hgood hr6 hf6 hv6 hv6' HFn HG5 HA5 HV5 HG6 HA6 HV6
          go_upto_region 8 with fail
          generalize w6.setCell ⟨P, 2, none⟩ (.slice C fs.length cc) = W7 at *
          clear c0 c1 c2 z0 z1 z2
          have hc := HG7.out.rd.cell
          by_cases hU : U = []
          · subst hU
            have HV : Hid (q = (⟨l, ws, fs⟩, 0)) := Lib.hid (by rw [HQ.out]; have := HE.out; simpa using this)
            obtain ⟨c0, c1, c2, z0, z1, z2⟩ := cells3 HG7.out.box
            obtain ⟨r0, r1, r2, y0, y1, y2⟩ := cells3 HG7.out.res
            have HDz : Hid (DAt (put3 W7 w.heap.size (.slice A l.length cl) (.slice B ws.length cb) (.slice C fs.length cc)) A l) := Lib.hid (fun j hj => by
              obtain ⟨b, off, q1, q2, q3⟩ := HA7.out j hj
              exact ⟨b, off, q1, by simpa [World.setCell] using q2, q3.keep (put3_far (cells_offP q3 HG7.out.res) _ _ _)⟩)
            have HVz : Hid (OwnV (put3 W7 w.heap.size (.slice A l.length cl) (.slice B ws.length cb) (.slice C fs.length cc)) W3.heap.size (.slice B ws.length cb) ws) := Lib.hid (HV7.out.hold fun g hg _ => put3_far (by have h1 := HG7.out.lb; have h2 := HG7.out.lP; have h3 := HP3.out; omega) _ _ _)
            have HFz : Hid (OwnF (put3 W7 w.heap.size (.slice A l.length cl) (.slice B ws.length cb) (.slice C fs.length cc)) W5.heap.size (.slice C fs.length cc) fs) := Lib.hid (HF7.out.hold fun g hg _ => put3_far (by have h1 := HG7.out.lb; have h2 := HG7.out.lP; have h4 := HP5.out; omega) _ _ _)
            have HPA : Hid (PAt (put3 W7 w.heap.size (.slice A l.length cl) (.slice B ws.length cb) (.slice C fs.length cc)) (.agg #[.slice A l.length cl, .slice B ws.length cb, .slice C fs.length cc]) ⟨l, ws, fs⟩) := Lib.hid ⟨A, B, C, cl, cb, cc, rfl, HDz.out, HVz.out.at, HFz.out.at⟩
            have HPF : Hid (PFar w.heap.size (put3 W7 w.heap.size (.slice A l.length cl) (.slice B ws.length cb) (.slice C fs.length cc)) (.agg #[.slice A l.length cl, .slice B ws.length cb, .slice C fs.length cc]) ⟨l, ws, fs⟩) := Lib.hid (by
              intro R0 X Y Z n m k c1 c2 c3 hR0 hh W' hsz hk
              have h1 := HG7.out.lb
              have h2 := HG7.out.lP
              have h3 := HP3.out
              have h4 := HP5.out
              refine ⟨A, B, C, cl, cb, cc, rfl, fun j hj => ?_, (HVz.out.hold fun g hg _ => hk g (by omega)).at, (HFz.out.hold fun g hg _ => hk g (by omega)).at⟩
              obtain ⟨b, off, q1, q2, q3⟩ := HDz.out j hj
              exact ⟨b, off, q1, Nat.lt_of_lt_of_le q2 hsz, q3.keep (hk b (cells_offP q3 hh))⟩)
            have HRz := Lib.hid (put3_same HG7.out.res (.slice A l.length cl) (.slice B ws.length cb) (.slice C fs.length cc))
            have HBz := Lib.hid (put3_below HG7.out.below (Nat.le_refl _) (.slice A l.length cl) (.slice B ws.length cb) (.slice C fs.length cc))
            go_wp2_with fail
            exact all_ret HRz.out (by rfl) rfl (by rw [HV.out]) (by rw [HV.out]; exact HPA.out) (by rw [HV.out]; exact HPF.out) HBz.out
          · have HV : Hid (q = (Pg.none, 2)) := Lib.hid (by rw [HQ.out, HE.out, if_pos hU])
            have HBe := Lib.hid HG7.out.below
            have hUe : U.isEmpty = false := by simpa using hU
            clear hU
            go_wp2_with fail
            refine (stop_bad 2 (by decide) _).mono ?_
            rintro e2 w8 ⟨rfl, rfl⟩
            go_wp2
            exact ⟨rfl, AllP.bad (by rw [HV.out]; decide) (by rw [HV.out]) HBe.out⟩
        · obtain rfl := hbad he
          have HV : Hid (q = (Pg.none, e)) := Lib.hid (by rw [HQ.out, rdProg_d HT.out (by rw [HU.out]; exact HL.out) HWs.out HFs.out he])
          have HE0 := Lib.hid he
          have HB6 : Hid (Below w.heap.size w w6) := Lib.hid (HG5.out.below.trans ((hf6.mono HG5.out.below.size).below (by have h1 := HG5.out.lR; have h2 := HG5.out.lb; omega) (Nat.le_refl _)))
          clear hbad hgood hf6 he HFn
          go_wp2
          exact ⟨rfl, AllP.bad (by rw [HV.out]; exact HE0.out) (by rw [HV.out]) HB6.out⟩
      · obtain rfl := hbad he
        have HV : Hid (q = (Pg.none, e)) := Lib.hid (by rw [HQ.out, rdProg_c HT.out (by rw [HU.out]; exact HL.out) HWs.out he])
        have HE0 := Lib.hid he
        have HB4 : Hid (Below w.heap.size w w4) := Lib.hid (HG2.out.below.trans ((hf4.mono HG2.out.below.size).below (by have h1 := HG2.out.lR; have h2 := HG2.out.lb; omega) (Nat.le_refl _)))
        clear hbad hgood hf4 he HWt hO2
        go_wp2
        exact ⟨rfl, AllP.bad (by rw [HV.out]; exact HE0.out) (by rw [HV.out]) HB4.out⟩
    · obtain rfl := hbad he
      have HV : Hid (q = (Pg.none, e)) := Lib.hid (by rw [HQ.out, rdProg_b HT.out (by rw [HU.out]; exact HL.out) he])
      have HE0 := Lib.hid he
      have HB2 : Hid (Below w.heap.size w w2) := Lib.hid (by
        have hb1 : Below w.heap.size w W1 := HB0.out.trans (HBr.out.mono HB0.out.size)
        exact hb1.trans ((hf2.mono hb1.size).below HB0.out.size (Nat.le_refl _)))
      clear hbad hgood hf2 he HOb
      go_wp2
      exact ⟨rfl, AllP.bad (by rw [HV.out]; exact HE0.out) (by rw [HV.out]) HB2.out⟩
  · rw [if_neg h, decide_eq_false h] at HC
    have HV : Hid (q = (Pg.none, 2)) := Lib.hid (by rw [HQ.out, rdProg_a h])
    clear h
    go_enter Tryd.func9, Tryd.ntmps9
    go_wp2_with fail
    refine (HC _).out.mono ?_
    rintro e0 w1 ⟨rfl, rfl⟩
    go_wp2_with fail
    refine (stop_bad 2 (by decide) _).mono ?_
    rintro e2 w2 ⟨rfl, rfl⟩
    go_wp2
    exact ⟨rfl, AllP.bad (by rw [HV.out]; decide) (by rw [HV.out]) HB0.out⟩
end Go.Proofs.YtahejekcfgkiaaaDoor.pgm

/-
  What the program reads is what the document reads: numbers that are too great for it are out of range either way. Plain mathematics; no condition.
-/
namespace Go.Proofs.YtahejekcfgkiaaaDoor.pgm
open Go.Proofs.YtahejekcfgkiaaaDoor.octet (St rdNum)
open Go.Proofs.YtahejekcfgkiaaaDoor.objs (De zero readL rdNum_err)
open Go.Proofs.YtahejekcfgkiaaaDoor.need (readW)
set_option linter.unusedVariables false

/-- A function with its numbers held below two to the thirty-first. -/
def clip (f : Fn) : Fn := ⟨min f.ar 2147483647, min f.lo 2147483647, f.co⟩
theorem rdFnP_clip (s : St) : rdFnP s = (clip (rdFn rdIns s).1, (rdFn rdIns s).2) := by
  unfold rdFnP rdFn rdCode
  dsimp only
  by_cases h1 : (rdNum (rdNum s).2).2.err ≠ 0
  · rw [if_pos h1, if_pos h1]; rfl
  · rw [if_neg h1, if_neg h1]
    by_cases h2 : (rdMany (rdNum (rdNum s).2).2 200).2.2 ≠ 0
    · simp only [if_pos h2]; rfl
    · simp only [if_neg h2]
      by_cases h3 : (rdAll rdIns (rdMany (rdNum (rdNum s).2).2 200).2.1 (rdMany (rdNum (rdNum s).2).2 200).1).2.2 ≠ 0
      · simp only [if_pos h3]; rfl
      · simp only [if_neg h3]
        unfold clip
        dsimp only
        congr 2 <;> omega
theorem rdAll_clip (s : St) : ∀ j, rdAll rdFnP s j = ((rdAll (rdFn rdIns) s j).1.map clip, (rdAll (rdFn rdIns) s j).2) := by
  intro j
  induction j with
  | zero => rfl
  | succ j ih =>
    simp only [rdAll]
    rw [ih]
    dsimp only
    by_cases h1 : (rdAll (rdFn rdIns) s j).2.2 ≠ 0
    · rw [if_pos h1, if_pos h1]
    · rw [if_neg h1, if_neg h1, rdFnP_clip]
      dsimp only
      by_cases h2 : (rdFn rdIns (rdAll (rdFn rdIns) s j).2.1).2.2 ≠ 0
      · rw [if_pos h2, if_pos h2]; rfl
      · rw [if_neg h2, if_neg h2, List.map_append]; rfl
theorem chkFn_clip (f : Fn) : chkFn (clip f) = chkFn f := by
  unfold chkFn clip
  dsimp only
  by_cases h : f.ar < 0 ∨ f.lo < f.ar ∨ 8 < f.lo
  · rw [if_pos h, if_pos (by omega)]
  · rw [if_neg h, if_neg (by omega)]
theorem firstE_clip (l : List Fn) : firstE chkFn (l.map clip) = firstE chkFn l := by
  induction l with
  | nil => rfl
  | cons f l ih => simp only [List.map_cons, firstE, chkFn_clip, ih]
theorem chkP_clip (ds : List De) (ws : List (List (List De))) (fs : List Fn) : chkP ⟨ds, ws, fs.map clip⟩ = chkP ⟨ds, ws, fs⟩ := by
  unfold chkP
  simp only [List.length_map, firstE_clip]
theorem clip_fine {f : Fn} (h : chkFn f = 0) : clip f = f := by
  obtain ⟨⟨h1, h2, h3⟩, _⟩ := chkFn_zero h
  obtain ⟨ar, lo, co⟩ := f
  dsimp only at h1 h2 h3
  unfold clip
  dsimp only
  congr 1 <;> omega
theorem map_clip {ds : List De} {ws : List (List (List De))} {fs : List Fn} (h : chkP ⟨ds, ws, fs⟩ = 0) : fs.map clip = fs := by
  have h6 := (chkP_zero h).2.2.2.2.2
  conv => rhs; rw [← List.map_id fs]
  exact List.map_congr_left fun f hf => clip_fine (h6 f hf)

/-- What the program makes of what it reads is what the document reads. -/
theorem readP_prog (t : List UInt8) : readP rdIns t = if (rdProg t).2 ≠ 0 then (Pg.none, (rdProg t).2) else if chkP (rdProg t).1 ≠ 0 then (Pg.none, chkP (rdProg t).1) else ((rdProg t).1, 0) := by
  unfold readP
  dsimp only
  by_cases h : t.take 3 = [76, 74, 1]
  · rw [if_neg (by simpa using h)]
    obtain ⟨l, S, e, hL⟩ : ∃ l S e, readL ⟨t.drop 3, 0⟩ = (l, S, e) := ⟨_, _, _, rfl⟩
    rw [hL]
    dsimp only
    by_cases he : e ≠ 0
    · rw [if_pos he, rdProg_b h hL he, if_pos he]
    · rw [if_neg he]
      obtain rfl : e = 0 := by omega
      by_cases h1 : (rdMany S 32).2.2 ≠ 0
      · have hW : rdWaits l S = ([], (rdMany S 32).2.1, (rdMany S 32).2.2) := by unfold rdWaits; rw [if_pos h1]
        rw [if_pos h1, rdProg_c h hL hW h1, if_pos h1]
      · rw [if_neg h1]
        have hW : rdWaits l S = rdAll (readW l) (rdMany S 32).2.1 (rdMany S 32).1 := by unfold rdWaits; rw [if_neg h1]
        obtain ⟨ws, T, e2, hA⟩ : ∃ ws T e2, rdAll (readW l) (rdMany S 32).2.1 (rdMany S 32).1 = (ws, T, e2) := ⟨_, _, _, rfl⟩
        rw [hA] at hW ⊢
        dsimp only
        by_cases h2 : e2 ≠ 0
        · rw [if_pos h2, rdProg_c h hL hW h2, if_pos h2]
        · rw [if_neg h2]
          obtain rfl : e2 = 0 := by omega
          by_cases h3 : (rdMany T 16).2.2 ≠ 0
          · have hF : rdFuncs T = ([], (rdMany T 16).2.1, (rdMany T 16).2.2) := by unfold rdFuncs; rw [if_pos h3]
            rw [if_pos h3, rdProg_d h hL hW hF h3, if_pos h3]
          · rw [if_neg h3]
            have hF : rdFuncs T = rdAll rdFnP (rdMany T 16).2.1 (rdMany T 16).1 := by unfold rdFuncs; rw [if_neg h3]
            rw [rdAll_clip] at hF
            obtain ⟨fs, U, e3, hB⟩ : ∃ fs U e3, rdAll (rdFn rdIns) (rdMany T 16).2.1 (rdMany T 16).1 = (fs, U, e3) := ⟨_, _, _, rfl⟩
            rw [hB] at hF ⊢
            dsimp only at hF ⊢
            by_cases h4 : e3 ≠ 0
            · rw [if_pos h4, rdProg_d h hL hW hF h4, if_pos h4]
            · rw [if_neg h4]
              obtain rfl : e3 = 0 := by omega
              rw [rdProg_e h hL hW hF]
              by_cases h5 : U.rest ≠ []
              · rw [if_pos h5, if_pos h5, if_pos (by decide)]
              · rw [if_neg h5, if_neg h5]
                dsimp only
                rw [chkP_clip]
                by_cases h6 : chkP ⟨l, ws, fs⟩ ≠ 0
                · rw [if_pos h6, if_neg (show ¬ (0 : Nat) ≠ 0 by decide), if_pos h6]
                · rw [if_neg h6, if_neg (show ¬ (0 : Nat) ≠ 0 by decide), if_neg h6, map_clip (by omega : chkP ⟨l, ws, fs⟩ = 0)]
  · rw [if_pos (by simpa using h), rdProg_a h, if_pos (by decide)]
end Go.Proofs.YtahejekcfgkiaaaDoor.pgm

/-
  The program whose bytes some are (typed over the code of 4b95722): a fault panics, and is recovered. The tables must lie where their initialisers lay them; texts of at most two to the forty-seventh bytes.
-/
namespace Go.Proofs.YtahejekcfgkiaaaDoor.pgm
open Go.RowKit Go.ChangeShapes
open Go.Proofs.YtahejekcfgkiaaaDoor.octet (St InAt Frm rdNum num size_mk)
open Go.Proofs.YtahejekcfgkiaaaDoor.objs (De zero DAt CellsAt Okd cells3 put3 put3_same put3_far put3_below readL)
set_option linter.unusedVariables false

set_option maxRecDepth 100000 in
set_option maxHeartbeats 1000000 in
theorem catch_panicking (R E c : Nat) (x0 x1 x2 y : Value) (older : List PanicEntry) (w : World) (hR : w.heap[R]? = some (.cells #[x0, x1, x2] 26 (0, 0))) (hE : w.heap[E]? = some (.cells #[y] 27 (0, 0))) (hne : R ≠ E) :
    CallsD Tryd.prog 8 #[.pointer (some ⟨R, 0, none⟩), .pointer (some ⟨E, 0, none⟩)] (.panicking ({ v := .iface 36 (.agg #[.int .i64 (c : Int)]), recovered := false } :: older)) w fun e u' w' =>
      e = .returned (.tuple #[]) ∧ u' = .panicking ({ v := .iface 36 (.agg #[.int .i64 (c : Int)]), recovered := true } :: older) ∧
        w'.heap[R]? = some (.cells #[.slice none 0 0, .slice none 0 0, .slice none 0 0] 26 (0, 0)) ∧ w'.heap[E]? = some (.cells #[.int .i64 (c : Int)] 27 (0, 0)) ∧ (∀ B, B ≤ R → B ≤ E → Below B w w') := by
  have hta : ∀ (v : Value) (W : World), (Instr.typeAssert (.iface 36 v) 20 36 false).run Tryd.prog W = .ok v W := fun v W => by
    simp [Instr.typeAssert, run_underlying Tryd.underlying36]
  have hfd : ∀ W : World, (Instr.field 36 (.agg #[.int .i64 (c : Int)]) 0).run Tryd.prog W = .ok (.int .i64 (c : Int)) W := fun W => by
    simp [Instr.field, run_underlying Tryd.underlying36, go_sem, asAgg, part, Result.andThen]
  obtain ⟨c0, c1, c2, z0, z1, z2⟩ := cells3 hR
  have e0 : w.cell? ⟨E, 0, none⟩ = some y := by simp [World.cell?, hE]
  have y0 : w.frozen? ⟨E, 0, none⟩ = false := by simp [World.frozen?, hE]
  refine callsD_of_wpS Tryd.func8 rfl fun c₀ cs hu => ?_
  apply wpS_seq
  apply wpS_region
  simp [wpOpsS, go_sem, recoverD, hu, Tryd.ntmps8, Exit.thenS]
  refine wpS_of_wp ?_
  go_wp2
  change Code.wp _ _ _ { tmps := #[.pointer (some ⟨R, 0, none⟩), .pointer (some ⟨E, 0, none⟩), .iface 36 (.agg #[.int .i64 (c : Int)]), .iface 36 (.agg #[.int .i64 (c : Int)]), .iface 36 (.agg #[.int .i64 (c : Int)]), .bool true, undef, undef, undef, undef], defers := [] } w
  go_region
  have h1 := put3_same hR (.slice none 0 0) (.slice none 0 0) (.slice none 0 0)
  have h2 : (put3 w R (.slice none 0 0) (.slice none 0 0) (.slice none 0 0)).heap[E]? = some (.cells #[y] 27 (0, 0)) := (put3_far hne.symm _ _ _).trans hE
  refine ⟨rfl, _, rfl, _, by simp [results, Tryd.results8], rfl, rfl, ?_, ?_, ?_⟩
  · exact (Below.heap_setCell _ ⟨E, 0, none⟩ _ R hne).trans h1
  · show ((put3 w R (.slice none 0 0) (.slice none 0 0) (.slice none 0 0)).setCell ⟨E, 0, none⟩ (.int .i64 (c : Int))).heap[E]? = _
    generalize put3 w R (.slice none 0 0) (.slice none 0 0) (.slice none 0 0) = W at *
    simp [World.setCell, Array.getElem?_modify, h2]
  · intro B hBR hBE
    exact ((put3_below (Below.refl B w) hBR _ _ _).setCell (p := ⟨E, 0, none⟩) hBE _).drew

set_option maxRecDepth 100000 in
theorem catch_idle (R E : Nat) (w : World) :
    CallsD Tryd.prog 8 #[.pointer (some ⟨R, 0, none⟩), .pointer (some ⟨E, 0, none⟩)] .returning w fun e u' w' => e = .returned (.tuple #[]) ∧ u' = .returning ∧ w' = w := by
  refine callsD_of_wpS Tryd.func8 rfl fun c₀ cs hu => ?_
  apply wpS_seq
  apply wpS_region
  simp [wpOpsS, go_sem, recoverD, hu, Tryd.ntmps8, Exit.thenS]
  refine wpS_of_wp ?_
  go_wp2
  cases c₀
  simp_all [bodyPostS, results, Tryd.results8]

theorem rdProg_short (t : List UInt8) : (rdProg t).2 = 0 → (rdProg t).1.ds.length ≤ 32 := by
  intro h
  by_cases h0 : t.take 3 = [76, 74, 1]
  · have hO := readL_once (L := t.drop 3)
    obtain ⟨l, S, e, hL⟩ : ∃ l S e, readL ⟨t.drop 3, 0⟩ = (l, S, e) := ⟨_, _, _, rfl⟩
    rw [hL] at hO
    by_cases he : e ≠ 0
    · rw [rdProg_b h0 hL he] at h
      exact absurd h he
    · obtain rfl : e = 0 := by omega
      have h32 := (Go.Proofs.YtahejekcfgkiaaaDoor.objs.chk_zero (hO rfl).1).1
      obtain ⟨ws, T, e2, hW⟩ : ∃ ws T e2, rdWaits l S = (ws, T, e2) := ⟨_, _, _, rfl⟩
      by_cases h2 : e2 ≠ 0
      · rw [rdProg_c h0 hL hW h2] at h
        exact absurd h h2
      · obtain rfl : e2 = 0 := by omega
        obtain ⟨fs, U, e3, hF⟩ : ∃ fs U e3, rdFuncs T = (fs, U, e3) := ⟨_, _, _, rfl⟩
        by_cases h3 : e3 ≠ 0
        · rw [rdProg_d h0 hL hW hF h3] at h
          exact absurd h h3
        · obtain rfl : e3 = 0 := by omega
          rw [rdProg_e h0 hL hW hF] at h ⊢
          split at h
          · cases h
          · rw [if_neg ‹_›]
            exact h32
  · rw [rdProg_a h0] at h
    cases h
/-- What a reading of a whole program tells. -/
def GotP (q : Pg × Nat) (w : World) (e : Ending) (w' : World) : Prop := ∃ v, e = .returned (.tuple #[v, .int .i64 (q.2 : Nat)]) ∧ PAt w' v q.1 ∧ Below w.heap.size w w'
theorem pat_none (w : World) : PAt w (.agg #[.slice none 0 0, .slice none 0 0, .slice none 0 0]) Pg.none := ⟨none, none, none, 0, 0, 0, rfl, DAt.nil _ _, WsAt.nil _ _, FsAt.nil _ _⟩

/-- A program stays where one error's block turns. -/
theorem pat_err {W : World} {E : Nat} {y : Value} {n : Int} {v : Value} {p : Pg} (h : PAt W v p) (hE : W.heap[E]? = some (.cells #[.int .i64 n] 27 (0, 0))) : PAt (W.setCell ⟨E, 0, none⟩ y) v p := by
  have far : ∀ b, b ≠ E → (W.setCell ⟨E, 0, none⟩ y).heap[b]? = W.heap[b]? := fun b hb => Below.heap_setCell _ ⟨E, 0, none⟩ _ b hb
  have hsz : (W.setCell ⟨E, 0, none⟩ y).heap.size = W.heap.size := by simp [World.setCell]
  have past : ∀ i (u : Value), W.cell? ⟨E, i, none⟩ = some u → i = 0 ∧ u = .int .i64 n := fun i u hu => by
    unfold World.cell? at hu
    rw [hE] at hu
    rcases i with _ | i
    · exact ⟨rfl, by simpa using hu.symm⟩
    · simp at hu
  have dat : ∀ (A : Option Addr) (l : List De), DAt W A l → DAt (W.setCell ⟨E, 0, none⟩ y) A l := fun A l hA j hj => by
    obtain ⟨b, off, h1, h2, h3⟩ := hA j hj
    refine ⟨b, off, h1, by rw [hsz]; exact h2, h3.keep (far b ?_)⟩
    rintro rfl
    have := (past _ _ h3.2.1).1
    omega
  obtain ⟨A, B, C, ca, cb, cc, rfl, hA, hB, hC⟩ := h
  refine ⟨A, B, C, ca, cb, cc, rfl, dat _ _ hA, fun j hj => ?_, fun j hj => ?_⟩
  · obtain ⟨b, off, Aj, cj, h1, h2, h3, h4⟩ := hB j hj
    have hb : b ≠ E := by
      rintro rfl
      exact absurd (past _ _ h3).2 (by intro e; cases e)
    refine ⟨b, off, Aj, cj, h1, by rw [hsz]; exact h2, (World.cell?_of_block (a := ⟨b, off + j, none⟩) (far b hb)).trans h3, fun i hi => ?_⟩
    obtain ⟨b2, off2, Ai, ci, k1, k2, k3, k4⟩ := h4 i hi
    have hb2 : b2 ≠ E := by
      rintro rfl
      exact absurd (past _ _ k3).2 (by intro e; cases e)
    exact ⟨b2, off2, Ai, ci, k1, by rw [hsz]; exact k2, (World.cell?_of_block (a := ⟨b2, off2 + i, none⟩) (far b2 hb2)).trans k3, dat _ _ k4⟩
  · obtain ⟨b, off, Aj, cj, h1, h2, h3, h4⟩ := hC j hj
    have hb : b ≠ E := by
      rintro rfl
      have := (past _ _ h3.2.1).1
      omega
    exact ⟨b, off, Aj, cj, h1, by rw [hsz]; exact h2, h3.keep (far b hb), dat _ _ h4⟩
theorem pat_same {W W' : World} {v : Value} {p : Pg} (h : PAt W v p) (hs : W.heap.size ≤ W'.heap.size) (hh : ∀ g : Nat, W'.heap[g]? = W.heap[g]?) : PAt W' v p := by
  obtain ⟨A, B, C, ca, cb, cc, h1, h2, h3, h4⟩ := h
  have dat : ∀ (A : Option Addr) (l : List De), DAt W A l → DAt W' A l := fun A l hA j hj => by
    obtain ⟨b, off, h1, h2, h3⟩ := hA j hj
    exact ⟨b, off, h1, Nat.lt_of_lt_of_le h2 hs, h3.keep (hh b)⟩
  refine ⟨A, B, C, ca, cb, cc, h1, dat _ _ h2, fun j hj => ?_, fun j hj => ?_⟩
  · obtain ⟨b, off, Aj, cj, h1, h2, h3, h4⟩ := h3 j hj
    refine ⟨b, off, Aj, cj, h1, Nat.lt_of_lt_of_le h2 hs, (World.cell?_of_block (a := ⟨b, off + j, none⟩) (hh b)).trans h3, fun i hi => ?_⟩
    obtain ⟨b2, off2, Ai, ci, k1, k2, k3, k4⟩ := h4 i hi
    exact ⟨b2, off2, Ai, ci, k1, Nat.lt_of_lt_of_le k2 hs, (World.cell?_of_block (a := ⟨b2, off2 + i, none⟩) (hh b2)).trans k3, dat _ _ k4⟩
  · obtain ⟨b, off, Aj, cj, h1, h2, h3, h4⟩ := h4 j hj
    exact ⟨b, off, Aj, cj, h1, Nat.lt_of_lt_of_le h2 hs, h3.keep (hh b), dat _ _ h4⟩
/-- A panic goes through the door: nothing, and the error. -/
theorem door_panic {w W : World} {tm : Array Value} {R E c : Nat} {x0 x1 x2 y : Value} {q : Pg × Nat} (h2 : tm[2]?.getD undef = .pointer (some ⟨R, 0, none⟩)) (h3 : tm[3]?.getD undef = .pointer (some ⟨E, 0, none⟩))
    (hR : W.heap[R]? = some (.cells #[x0, x1, x2] 26 (0, 0))) (hE : W.heap[E]? = some (.cells #[y] 27 (0, 0))) (hne : R ≠ E) (hwR : w.heap.size ≤ R) (hwE : w.heap.size ≤ E) (hb : Below w.heap.size w W) (hq : q = (Pg.none, c)) :
    bodyPostD Tryd.prog Tryd.f4 (GotP q w) (.panic (flt c)) { tmps := tm, defers := [{ target := .fn (.func 8) #[.pointer (some ⟨R, 0, none⟩), .pointer (some ⟨E, 0, none⟩)], args := #[] }] } W := by
  subst hq
  refine leaves_cons (f := 8) (args := #[.pointer (some ⟨R, 0, none⟩), .pointer (some ⟨E, 0, none⟩)]) (by simp) (by simp [go_sem]) ?_
  refine (catch_panicking R E c x0 x1 x2 y [] W hR hE hne).mono ?_
  rintro e u' w2 ⟨rfl, rfl, h4, h5, h6⟩
  obtain ⟨c0, c1, c2, _, _, _⟩ := cells3 h4
  have e0 : w2.cell? ⟨E, 0, none⟩ = some (.int .i64 (c : Int)) := by simp [World.cell?, h5]
  refine ⟨.tuple #[.agg #[.slice none 0 0, .slice none 0 0, .slice none 0 0], .int .i64 (c : Int)], ?_, _, rfl, ?_, ?_⟩
  · simp [results, Tryd.results4, go_sem, h2, h3, c0, c1, c2, e0]
  · exact pat_none _
  · exact hb.trans (h6 _ hwR hwE)
/-- A return goes through the door as it is. -/
theorem door_ret {w W : World} {tm : Array Value} {R E : Nat} {x y z : Value} {q : Pg × Nat} (h2 : tm[2]?.getD undef = .pointer (some ⟨R, 0, none⟩)) (h3 : tm[3]?.getD undef = .pointer (some ⟨E, 0, none⟩))
    (hR : W.heap[R]? = some (.cells #[x, y, z] 26 (0, 0))) (hE : W.heap[E]? = some (.cells #[.int .i64 (q.2 : Nat)] 27 (0, 0))) (hP : PAt W (.agg #[x, y, z]) q.1) (hb : Below w.heap.size w W) :
    bodyPostD Tryd.prog Tryd.f4 (GotP q w) .ret { tmps := tm, defers := [{ target := .fn (.func 8) #[.pointer (some ⟨R, 0, none⟩), .pointer (some ⟨E, 0, none⟩)], args := #[] }] } W := by
  refine leaves_cons (f := 8) (args := #[.pointer (some ⟨R, 0, none⟩), .pointer (some ⟨E, 0, none⟩)]) (by simp) (by simp [go_sem]) ?_
  refine (catch_idle R E W).mono ?_
  rintro e u' w2 ⟨rfl, rfl, rfl⟩
  obtain ⟨c0, c1, c2, _, _, _⟩ := cells3 hR
  have e0 : w2.cell? ⟨E, 0, none⟩ = some (.int .i64 (q.2 : Nat)) := by simp [World.cell?, hE]
  refine ⟨.tuple #[.agg #[x, y, z], .int .i64 (q.2 : Nat)], ?_, _, rfl, hP, hb⟩
  simp [results, Tryd.results4, go_sem, h2, h3, c0, c1, c2, e0]
theorem put3_idem {W : World} {R : Nat} {x y z : Value} {T : TypeId} (h : W.heap[R]? = some (.cells #[x, y, z] T (0, 0))) (g : Nat) : (put3 W R x y z).heap[g]? = W.heap[g]? := by
  by_cases hg : g = R
  · subst hg
    rw [put3_same h, h]
  · exact put3_far hg _ _ _

set_option maxRecDepth 100000 in
set_option maxHeartbeats 8000000 in
theorem get_any (t : List UInt8) (w : World) (hl : t.length ≤ 140737489403904) (hok : Okp w) : Calls Tryd.prog 4 #[.string ⟨t.toArray⟩] w (GotP (readP rdIns t) w) := by
  have hmf : ∀ (fn : Go.Fn) (first cap : Array Value) (w : World), (Instr.makeFunc fn first cap).run Tryd.prog w = .ok (.func fn first cap) w := fun _ _ _ _ => rfl
  have hb1 : Below w.heap.size w (w.alloc (.cells #[.slice none 0 0, .slice none 0 0, .slice none 0 0] 26)) := (Below.refl _ w).alloc (Nat.le_refl _) _
  have hb2 := hb1.alloc hb1.size (.cells #[.int .i64 0] 27)
  have hz1 : (w.alloc (.cells #[.slice none 0 0, .slice none 0 0, .slice none 0 0] 26)).heap.size = w.heap.size + 1 := World.size_alloc _ _
  have hR0 := (Below.heap_alloc (w.alloc (.cells #[.slice none 0 0, .slice none 0 0, .slice none 0 0] 26)) (.cells #[.int .i64 0] 27) w.heap.size (by omega)).trans (heap_alloc_new w (.cells #[.slice none 0 0, .slice none 0 0, .slice none 0 0] 26))
  have hE0 := heap_alloc_new (w.alloc (.cells #[.slice none 0 0, .slice none 0 0, .slice none 0 0] 26)) (.cells #[.int .i64 0] 27)
  rw [hz1] at hE0
  have HA := Lib.hid (all_any t _ hl (hok.next hb2))
  have HB2 := Lib.hid hb2
  have HR0 := Lib.hid hR0
  have HE0 := Lib.hid hE0
  obtain ⟨q, hq⟩ : ∃ q, q = readP rdIns t := ⟨_, rfl⟩
  have HQ := Lib.hid (hq.trans (readP_prog t))
  have HSh := Lib.hid (rdProg_short t)
  rw [← hq]
  have HK := Lib.hid hok
  clear hb1 hb2 hR0 hE0 hz1 hq hok
  generalize rdProg t = q0 at *
  go_enter_defers Tryd.func4, Tryd.ntmps4
  go_wp2_with fail
  generalize (w.alloc (.cells #[.slice none 0 0, .slice none 0 0, .slice none 0 0] 26)).alloc (.cells #[.int .i64 0] 27) = W0 at *
  refine HA.out.mono ?_
  rintro e1 w1 ⟨hb1, hbad, hgood⟩
  have hR1 := (hb1.block _ (lt_of_block HR0.out)).trans HR0.out
  have hE1 := (hb1.block _ (lt_of_block HE0.out)).trans HE0.out
  have HB1 := Lib.hid (HB2.out.trans (hb1.mono HB2.out.size))
  by_cases he : q0.2 = 0
  · obtain ⟨v, rfl, hv, hfar⟩ := hgood he
    obtain ⟨A, B, C, ca, cb, cc, rfl, _⟩ := hv
    have HP2 := Lib.hid (hfar w.heap.size _ _ _ _ _ _ _ _ _ (lt_of_block HR0.out) hR1 (put3 w1 w.heap.size (.slice A q0.1.ds.length ca) (.slice B q0.1.ws.length cb) (.slice C q0.1.fs.length cc)) (by simp [World.setCell]) (fun g hg => put3_far hg _ _ _))
    obtain ⟨c0, c1, c2, z0, z1, z2⟩ := cells3 hR1
    have HR2 := Lib.hid (put3_same hR1 (.slice A q0.1.ds.length ca) (.slice B q0.1.ws.length cb) (.slice C q0.1.fs.length cc))
    have HE2 := Lib.hid ((put3_far (show w.heap.size + 1 ≠ w.heap.size by omega) (.slice A q0.1.ds.length ca) (.slice B q0.1.ws.length cb) (.slice C q0.1.fs.length cc)).trans hE1)
    have HBp := Lib.hid (put3_below HB1.out (Nat.le_refl _) (.slice A q0.1.ds.length ca) (.slice B q0.1.ws.length cb) (.slice C q0.1.fs.length cc))
    have HQ1 : Hid (q = if chkP q0.1 ≠ 0 then (Pg.none, chkP q0.1) else (q0.1, 0)) := Lib.hid (by rw [HQ.out, if_neg (by omega)])
    clear hb1 hbad hgood hR1 hE1 hfar HA HQ
    have hsh := HSh.out he
    clear he HSh
    obtain ⟨p, pe⟩ := q0
    dsimp only at HP2 HR2 HE2 HBp HQ1 hsh ⊢
    have HC := Lib.hid (check_any _ p (by omega) _ HP2.out (HK.out.next HBp.out))
    unfold NumPost at HC
    generalize p.ds.length = n1 at *
    generalize p.ws.length = n2 at *
    generalize p.fs.length = n3 at *
    unfold put3 at HP2 HR2 HE2 HBp HC
    go_upto_region 3 with fail
    generalize ((w1.setCell ⟨w.heap.size, 0, none⟩ (Value.slice A n1 ca)).setCell ⟨w.heap.size, 1, none⟩ (Value.slice B n2 cb)).setCell ⟨w.heap.size, 2, none⟩ (Value.slice C n3 cc) = W2 at *
    clear c0 c1 c2 z0 z1 z2
    obtain ⟨c0, c1, c2, z0, z1, z2⟩ := cells3 HR2.out
    go_wp2_with fail
    refine HC.out.mono ?_
    rintro e2 w3 ⟨rfl, hb3⟩
    have HP3 := Lib.hid (HP2.out.next hb3)
    have hR3 := (hb3.block _ (lt_of_block HR2.out)).trans HR2.out
    have hE3 := (hb3.block _ (lt_of_block HE2.out)).trans HE2.out
    have HB3 := Lib.hid (HBp.out.trans (hb3.mono HBp.out.size))
    clear hb3 HC HP2 HR2 HE2 HBp c0 c1 c2 z0 z1 z2
    generalize chkP p = c at *
    by_cases hc : c = 0
    · subst hc
      have HQ2 : Hid (q = (p, 0)) := Lib.hid (by rw [HQ1.out, if_neg (by decide)])
      obtain ⟨c0, c1, c2, z0, z1, z2⟩ := cells3 hR3
      have hR4 := put3_same hR3 (Value.slice A n1 ca) (Value.slice B n2 cb) (Value.slice C n3 cc)
      have hE4 : (put3 w3 w.heap.size (Value.slice A n1 ca) (Value.slice B n2 cb) (Value.slice C n3 cc)).heap[w.heap.size + 1]? = some (.cells #[.int .i64 0] 27 (0, 0)) := (put3_idem hR3 _).trans hE3
      have HP4 : Hid (PAt (put3 w3 w.heap.size (Value.slice A n1 ca) (Value.slice B n2 cb) (Value.slice C n3 cc)) (.agg #[(Value.slice A n1 ca), (Value.slice B n2 cb), (Value.slice C n3 cc)]) p) := Lib.hid (pat_same HP3.out (by simp [World.setCell]) (put3_idem hR3))
      have HB4 := Lib.hid (put3_below HB3.out (Nat.le_refl _) (Value.slice A n1 ca) (Value.slice B n2 cb) (Value.slice C n3 cc))
      have e0 : (put3 w3 w.heap.size (Value.slice A n1 ca) (Value.slice B n2 cb) (Value.slice C n3 cc)).cell? ⟨w.heap.size + 1, 0, none⟩ = some (.int .i64 0) := by simp only [World.cell?, hE4]; rfl
      have y0 : (put3 w3 w.heap.size (Value.slice A n1 ca) (Value.slice B n2 cb) (Value.slice C n3 cc)).frozen? ⟨w.heap.size + 1, 0, none⟩ = false := by simp only [World.frozen?, hE4]; rfl
      have HP5 := Lib.hid (pat_err (y := .int .i64 0) HP4.out hE4)
      have HR5 := Lib.hid ((Below.heap_setCell (put3 w3 w.heap.size (Value.slice A n1 ca) (Value.slice B n2 cb) (Value.slice C n3 cc)) ⟨w.heap.size + 1, 0, none⟩ (.int .i64 0) w.heap.size (by show w.heap.size ≠ w.heap.size + 1; omega)).trans hR4)
      have HE5 : Hid (((put3 w3 w.heap.size (Value.slice A n1 ca) (Value.slice B n2 cb) (Value.slice C n3 cc)).setCell ⟨w.heap.size + 1, 0, none⟩ (.int .i64 0)).heap[w.heap.size + 1]? = some (.cells #[.int .i64 0] 27 (0, 0))) := Lib.hid (by
        generalize put3 w3 w.heap.size (Value.slice A n1 ca) (Value.slice B n2 cb) (Value.slice C n3 cc) = W at *
        simp [World.setCell, Array.getElem?_modify, hE4])
      have HB5 := Lib.hid (HB4.out.setCell (p := ⟨w.heap.size + 1, 0, none⟩) (by show w.heap.size ≤ w.heap.size + 1; omega) (.int .i64 0))
      clear HQ1 hR3 hE3 hR4 hE4
      go_wp2_with fail
      refine (stop_ok _).mono ?_
      rintro e3 w4 ⟨rfl, rfl⟩
      go_wp2
      exact door_ret (by rfl) (by rfl) HR5.out (by rw [HQ2.out]; exact HE5.out) (by rw [HQ2.out]; exact HP5.out) HB5.out
    · have HQ2 : Hid (q = (Pg.none, c)) := Lib.hid (by rw [HQ1.out, if_pos hc])
      have HC0 := Lib.hid hc
      clear hc HQ1
      go_wp2_with fail
      refine (stop_bad c HC0.out _).mono ?_
      rintro e3 w4 ⟨rfl, rfl⟩
      go_wp2
      exact door_panic (by rfl) (by rfl) hR3 hE3 (by omega) (Nat.le_refl _) (by omega) HB3.out HQ2.out
  · obtain rfl := hbad he
    have HQ1 : Hid (q = (Pg.none, q0.2)) := Lib.hid (by rw [HQ.out, if_pos he])
    clear hbad hgood he HA
    go_wp2
    exact door_panic (by rfl) (by rfl) hR1 hE1 (by omega) (Nat.le_refl _) (by omega) HB1.out HQ1.out
end Go.Proofs.YtahejekcfgkiaaaDoor.pgm

/-
  Whether two waits are one, as the statements ask it. No condition but that both have at most six ways, each of at most six needs.
-/
namespace Go.Proofs.YtahejekcfgkiaaaDoor.need
open Go.RowKit Go.ChangeShapes
open Go.Proofs.YtahejekcfgkiaaaDoor.objs (De zero CellsAt DAt below_drewN list_ext De.ext')
set_option linter.unusedVariables false

theorem wlist_ext {l m : List (List De)} (hl : l.length = m.length) (h : ∀ j, j < l.length → l.getD j [] = m.getD j []) : l = m := by
  apply List.ext_getElem hl
  intro j h1 h2
  have := h j h1
  rwa [List.getD_eq_getElem?_getD, List.getD_eq_getElem?_getD, List.getElem?_eq_getElem h1, List.getElem?_eq_getElem h2] at this
def SamePost (r : Bool) (w : World) (e : Ending) (w' : World) : Prop := e = .returned (.bool r) ∧ Below w.heap.size w w'
set_option maxRecDepth 100000 in
set_option maxHeartbeats 16000000 in
theorem refSame9_any (A B : Option Addr) (ca cb : Nat) (l m : List (List De)) (hl : l.length ≤ 6) (hm : m.length ≤ 6) (hll : ∀ x ∈ l, x.length ≤ 6) (hmm : ∀ x ∈ m, x.length ≤ 6) (w : World) (hA : WAt w A l) (hB : WAt w B m) :
    Calls Tryd.prog 12 #[.slice A l.length ca, .slice B m.length cb] w (SamePost (decide (l = m)) w) := by
  by_cases hlm : l.length = m.length
  · obtain ⟨r, hr⟩ : ∃ r, r = decide (l = m) := ⟨_, rfl⟩
    have HR := Lib.hid hr
    rw [← hr]
    unfold SamePost
    have HLM := Lib.hid hlm
    have HA := Lib.hid hA
    have HB := Lib.hid hB
    have HLl := Lib.hid hll
    have HLm := Lib.hid hmm
    rw [← hlm]
    clear hr hA hB hlm hm hll hmm
    go_enter Tryd.func12, Tryd.ntmps12
    go_wp2_with fail
    go_loopw [5] (fun i wr => ∃ j : Nat, j ≤ l.length ∧ i = .int .i64 (j : Int) ∧ Hid (∀ k, k < j → l.getD k [] = m.getD k []) ∧ Hid (Below w.heap.size w wr)) (fun i _ => l.length - (intOf i).toNat)
    case atStart => exact ⟨0, Nat.zero_le _, rfl, Lib.hid (fun k hk => absurd hk (Nat.not_lt_zero k)), Lib.hid (Below.refl _ _)⟩
    case round =>
      obtain ⟨j, hj, rfl, HO, HW⟩ := hrel
      by_cases hlt : j < l.length
      · have hltm : j < m.length := by have := HLM.out; omega
        obtain ⟨a, oa, Aj, cj, rfl, hbl, hca, hda⟩ := (HA.out.next HW.out) j hlt
        obtain ⟨b, ob, Bj, dj, rfl, hbm, hcb, hdb⟩ := (HB.out.next HW.out) j hltm
        have hlt' : (j : Int) < (l.length : Int) := by omega
        have hj0 : (0 : Int) ≤ (j : Int) := by omega
        have h6a := HLl.out _ (getW_mem hlt)
        have h6b := HLm.out _ (getW_mem hltm)
        generalize hgl : l.getD j [] = lj at *
        generalize hgm : m.getD j [] = mj at *
        by_cases hne : lj.length = mj.length
        · have HNE := Lib.hid hne
          have HDA := Lib.hid hda
          have HDB := Lib.hid hdb
          rw [← hne] at hcb
          clear hne hda hdb
          go_wp2_with fail
          go_quiet (fail)
          go_wp2_with fail
          go_loopw [6] (fun i wr => ∃ k : Nat, k ≤ lj.length ∧ i = .int .i64 (k : Int) ∧ Hid (∀ x, x < k → lj.getD x zero = mj.getD x zero) ∧ Hid (Below w.heap.size w wr)) (fun i _ => lj.length - (intOf i).toNat)
          case atStart => exact ⟨0, Nat.zero_le _, rfl, Lib.hid (fun k hk => absurd hk (Nat.not_lt_zero k)), Lib.hid (below_drewN HW.out _)⟩
          case round =>
            obtain ⟨k, hk, rfl, HP, HW2⟩ := hrel
            obtain ⟨aA, oA, AjA, cjA, hAe, _, hcA, hdA⟩ := (HA.out.next HW2.out) j hlt
            obtain ⟨bB, oB, BjB, djB, hBe, _, hcB, hdB⟩ := (HB.out.next HW2.out) j hltm
            injection hAe with hAe
            injection hAe with hAe1 hAe2
            injection hBe with hBe
            injection hBe with hBe1 hBe2
            subst hAe1 hAe2 hBe1 hBe2
            rw [hgl] at hcA hdA
            rw [hgm] at hcB hdB
            rw [← HNE.out] at hcB
            by_cases hlk : k < lj.length
            · obtain ⟨a2, oa2, rfl, _, a0, a1, a3⟩ := hdA k hlk
              obtain ⟨b2, ob2, rfl, _, b0, b1, b3⟩ := hdB k (by rw [← HNE.out]; exact hlk)
              have hlk' : (k : Int) < (lj.length : Int) := by omega
              have hk0 : (0 : Int) ≤ (k : Int) := by omega
              have hpar : lj.getD k zero ≠ mj.getD k zero → ¬ l = m := fun h e => h (by rw [← hgl, ← hgm, e])
              clear hca hcb
              by_cases hx : lj.getD k zero = mj.getD k zero
              · have HE : Hid (∀ x, x < k + 1 → lj.getD x zero = mj.getD x zero) := Lib.hid (fun x hx2 => by
                  rcases Nat.lt_or_ge x k with h1 | h1
                  · exact HP.out x h1
                  · obtain rfl : x = k := by omega
                    exact hx)
                rw [← hx] at b0 b1 b3
                clear hx hpar
                generalize lj.getD k zero = d at *
                go_wp2_with fail
                go_quiet (fail)
                go_wp2
                go_roundw
                case rel => exact ⟨k + 1, by omega, by go_num, HE, Lib.hid (below_drewN HW2.out _)⟩
                case measure => simp [intOf]; omega
              · have HE := Lib.hid (hpar hx)
                have hne : ¬ ((lj.getD k zero).1 = (mj.getD k zero).1 ∧ (lj.getD k zero).2.1 = (mj.getD k zero).2.1 ∧ (lj.getD k zero).2.2 = (mj.getD k zero).2.2) := fun h => hx (De.ext'.2 h)
                clear hx hpar
                generalize lj.getD k zero = d at *
                generalize mj.getD k zero = f at *
                obtain ⟨d1, d2, d3⟩ := d
                obtain ⟨f1, f2, f3⟩ := f
                dsimp only at a0 a1 a3 b0 b1 b3 hne
                by_cases e1 : d1 = f1
                · subst e1
                  by_cases e2 : d2 = f2
                  · subst e2
                    have hc : (d3 == f3) = false := by rw [beq_eq_false_iff_ne]; exact fun e => hne ⟨rfl, rfl, e⟩
                    clear hne
                    go_wp2_with fail
                    go_quiet (fail)
                    go_wp2
                    go_ret
                    exact ⟨by rw [HR.out, decide_eq_false HE.out]; rfl, below_drewN HW2.out _⟩
                  · have hc : (d2 == f2) = false := by rw [beq_eq_false_iff_ne]; exact e2
                    clear hne e2
                    go_wp2_with fail
                    go_quiet (fail)
                    go_wp2
                    go_ret
                    exact ⟨by rw [HR.out, decide_eq_false HE.out]; rfl, below_drewN HW2.out _⟩
                · have hc : (d1 == f1) = false := by rw [beq_eq_false_iff_ne]; exact e1
                  clear hne e1
                  go_wp2_with fail
                  go_quiet (fail)
                  go_wp2
                  go_ret
                  exact ⟨by rw [HR.out, decide_eq_false HE.out]; rfl, below_drewN HW2.out _⟩
            · obtain rfl : k = lj.length := by omega
              have HE : Hid (∀ x, x < j + 1 → l.getD x [] = m.getD x []) := Lib.hid (fun x hx2 => by
                rcases Nat.lt_or_ge x j with h1 | h1
                · exact HO.out x h1
                · obtain rfl : x = j := by omega
                  rw [hgl, hgm]
                  exact list_ext HNE.out HP.out)
              clear hca hcb hcB hdB hdA
              go_wp2_with fail
              go_roundw
              case rel => exact ⟨j + 1, by omega, by go_num, HE, HW2⟩
              case measure => simp [intOf]; omega
        · have HE : Hid (¬ l = m) := Lib.hid (fun h => hne (by rw [← hgl, ← hgm, h]))
          have hnb : ((lj.length : Int) != (mj.length : Int)) = true := by simp; omega
          clear hne hda hdb
          go_wp2_with fail
          go_quiet (fail)
          go_wp2
          go_ret
          exact ⟨by rw [HR.out, decide_eq_false HE.out]; rfl, below_drewN HW.out _⟩
      · obtain rfl : j = l.length := by omega
        have HE : Hid (l = m) := Lib.hid (wlist_ext HLM.out HO.out)
        go_wp2_with fail
        go_ret
        exact ⟨by rw [HR.out, decide_eq_true HE.out]; rfl, HW.out⟩
  · have hd : decide (l = m) = false := decide_eq_false (fun h => hlm (by rw [h]))
    rw [hd]
    unfold SamePost
    have hne : ((l.length : Int) != (m.length : Int)) = true := by simp; omega
    clear hlm hd hA hB
    go_enter Tryd.func12, Tryd.ntmps12
    go_wp2_with fail
    go_ret
    exact ⟨rfl, Below.refl _ _⟩
end Go.Proofs.YtahejekcfgkiaaaDoor.need

/-
  Whether two programs are one, as the statements ask it. No condition but that no list of either is long.
-/
namespace Go.Proofs.YtahejekcfgkiaaaDoor.pgm
open Go.RowKit Go.ChangeShapes
open Go.Proofs.YtahejekcfgkiaaaDoor.objs (De zero DAt De.ext' list_ext below_drewN cells3)
open Go.Proofs.YtahejekcfgkiaaaDoor.need (WAt refSame9_any SamePost)
set_option linter.unusedVariables false

/-- A program none of whose lists is long. -/
def SmallP (p : Pg) : Prop := p.ds.length ≤ 100 ∧ p.ws.length ≤ 100 ∧ (∀ x ∈ p.ws, x.length ≤ 6 ∧ ∀ y ∈ x, y.length ≤ 6) ∧ p.fs.length ≤ 100 ∧ ∀ f ∈ p.fs, f.co.length ≤ 250
noncomputable def eqP (p q : Pg) : Bool := @decide (p = q) (Classical.propDecidable _)
theorem eqP_yes {p q : Pg} (h : p = q) : eqP p q = true := by unfold eqP; exact @decide_eq_true _ (Classical.propDecidable _) h
theorem eqP_no {p q : Pg} (h : ¬ p = q) : eqP p q = false := by unfold eqP; exact @decide_eq_false _ (Classical.propDecidable _) h
theorem eqP_self (p : Pg) : eqP p p = true := eqP_yes rfl
theorem eqP_iff {p q : Pg} (h : eqP p q = true) : p = q := by
  rcases Classical.em (p = q) with e | e
  · exact e
  · rw [eqP_no e] at h
    cases h
def SamePost10 (p q : Pg) (w : World) (e : Ending) (w' : World) : Prop := e = .returned (.bool (eqP p q)) ∧ Below w.heap.size w w'
theorem getD_ext {α : Type} {d : α} {l m : List α} (hl : l.length = m.length) (h : ∀ j, j < l.length → l.getD j d = m.getD j d) : l = m := by
  apply List.ext_getElem hl
  intro j h1 h2
  have := h j h1
  rwa [getD_at h1, getD_at h2] at this
def pgX (a v u : Value) : Obj := .cells #[a, v, u] 26
def fnX (ar lo : Int) (v : Value) : Obj := .cells #[.int .i64 ar, .int .i64 lo, v] 46
/-- The boxes of both programs. -/
structure Bx (w : World) (a0 a1 a2 b0 b1 b2 : Value) (W : World) : Prop where
  below : Below w.heap.size w W
  a : W.heap[w.heap.size]? = some (pgX a0 a1 a2)
  b : W.heap[w.heap.size + 1]? = some (pgX b0 b1 b2)
theorem Bx.next {w W W' : World} {a0 a1 a2 b0 b1 b2 : Value} (h : Bx w a0 a1 a2 b0 b1 b2 W) (hb : Below W.heap.size W W') : Bx w a0 a1 a2 b0 b1 b2 W' :=
  ⟨h.below.trans (hb.mono h.below.size), (hb.block _ (lt_of_block h.a)).trans h.a, (hb.block _ (lt_of_block h.b)).trans h.b⟩
theorem Bx.drewN {w W : World} {a0 a1 a2 b0 b1 b2 : Value} (h : Bx w a0 a1 a2 b0 b1 b2 W) (n : Nat) : Bx w a0 a1 a2 b0 b1 b2 (W.drewN n) := h.next (below_drewN (Below.refl _ W) n)
theorem Bx.new (w : World) (a0 a1 a2 b0 b1 b2 : Value) : Bx w a0 a1 a2 b0 b1 b2 ((w.alloc (pgX a0 a1 a2)).alloc (pgX b0 b1 b2)) := by
  have hz : (w.alloc (pgX a0 a1 a2)).heap.size = w.heap.size + 1 := World.size_alloc _ _
  refine ⟨((Below.refl _ w).alloc (Nat.le_refl _) _).alloc (by omega) _, (Below.heap_alloc _ _ _ (by omega)).trans (heap_alloc_new w _), ?_⟩
  rw [← hz]
  exact heap_alloc_new _ _
theorem upto_next {α : Type} {l m : List α} {d : α} {j : Nat} (h : ∀ k, k < j → l.getD k d = m.getD k d) (hj : l.getD j d = m.getD j d) : ∀ k, k < j + 1 → l.getD k d = m.getD k d := fun k hk => by
  rcases Nat.lt_or_ge k j with h1 | h1
  · exact h k h1
  · obtain rfl : k = j := by omega
    exact hj

/-- The boxes of two functions beside them. -/
structure Bf (w : World) (a0 a1 a2 b0 b1 b2 : Value) (g h : Nat) (la ll : Int) (va : Value) (ma ml : Int) (vb : Value) (W : World) : Prop where
  bx : Bx w a0 a1 a2 b0 b1 b2 W
  f : W.heap[g]? = some (fnX la ll va)
  k : W.heap[h]? = some (fnX ma ml vb)
theorem Bf.next {w W W' : World} {a0 a1 a2 b0 b1 b2 : Value} {g h : Nat} {la ll ma ml : Int} {va vb : Value} (H : Bf w a0 a1 a2 b0 b1 b2 g h la ll va ma ml vb W) (hb : Below W.heap.size W W') : Bf w a0 a1 a2 b0 b1 b2 g h la ll va ma ml vb W' :=
  ⟨H.bx.next hb, (hb.block _ (lt_of_block H.f)).trans H.f, (hb.block _ (lt_of_block H.k)).trans H.k⟩
theorem Bf.drewN {w W : World} {a0 a1 a2 b0 b1 b2 : Value} {g h : Nat} {la ll ma ml : Int} {va vb : Value} (H : Bf w a0 a1 a2 b0 b1 b2 g h la ll va ma ml vb W) (n : Nat) : Bf w a0 a1 a2 b0 b1 b2 g h la ll va ma ml vb (W.drewN n) := H.next (below_drewN (Below.refl _ W) n)
theorem two_below (W : World) (O O2 : Obj) : Below W.heap.size W ((W.alloc O).alloc O2).drew := (((Below.refl _ W).alloc (Nat.le_refl _) _).alloc (by rw [World.size_alloc]; omega) _).drew
theorem two_first (W : World) (O O2 : Obj) : ((W.alloc O).alloc O2).heap[W.heap.size]? = some O := (Below.heap_alloc _ _ _ (by rw [World.size_alloc]; omega)).trans (heap_alloc_new W _)
theorem two_last (W : World) (O O2 : Obj) : ((W.alloc O).alloc O2).heap[W.heap.size + 1]? = some O2 := by rw [← World.size_alloc W O]; exact heap_alloc_new _ _
theorem Bx.two {w W : World} {a0 a1 a2 b0 b1 b2 : Value} (h : Bx w a0 a1 a2 b0 b1 b2 W) (la ll : Int) (va : Value) (ma ml : Int) (vb : Value) : Bf w a0 a1 a2 b0 b1 b2 W.heap.size (W.heap.size + 1) la ll va ma ml vb ((W.alloc (fnX la ll va)).alloc (fnX ma ml vb)).drew :=
  ⟨h.next (two_below _ _ _), two_first _ _ _, two_last _ _ _⟩
theorem Bx.owt {w W : World} {a0 a1 a2 b0 b1 b2 : Value} (h : Bx w a0 a1 a2 b0 b1 b2 W) (la ll : Int) (va : Value) (ma ml : Int) (vb : Value) : Bf w a0 a1 a2 b0 b1 b2 (W.heap.size + 1) W.heap.size la ll va ma ml vb ((W.alloc (fnX ma ml vb)).alloc (fnX la ll va)).drew :=
  ⟨h.next (two_below _ _ _), two_last _ _ _, two_first _ _ _⟩

set_option maxRecDepth 100000 in
set_option maxHeartbeats 16000000 in
theorem same10_any (va vb : Value) (p q : Pg) (hp : SmallP p) (hq : SmallP q) (w : World) (hA : PAt w va p) (hB : PAt w vb q) :
    Calls Tryd.prog 5 #[va, vb] w (SamePost10 p q w) := by
  obtain ⟨A, B, C, ca, cb, cc, rfl, hA1, hA2, hA3⟩ := hA
  obtain ⟨D, E, F, cd, ce, cf, rfl, hB1, hB2, hB3⟩ := hB
  unfold SamePost10
  obtain ⟨r, hr⟩ : ∃ r, r = eqP p q := ⟨_, rfl⟩
  rw [← hr]
  have HNo : Hid (¬ p = q → r = false) := Lib.hid (fun h => by rw [hr, eqP_no h])
  have HYes : Hid (p = q → r = true) := Lib.hid (fun h => by rw [hr, eqP_yes h])
  clear hr
  obtain ⟨pd, pw, pf⟩ := p
  obtain ⟨qd, qw, qf⟩ := q
  dsimp only at hA1 hA2 hA3 hB1 hB2 hB3 ⊢
  obtain ⟨s1, s2, s3, s4, s5⟩ := hp
  obtain ⟨u1, u2, u3, u4, u5⟩ := hq
  dsimp only at s1 s2 s3 s4 s5 u1 u2 u3 u4 u5
  by_cases hl : pd.length = qd.length ∧ pw.length = qw.length ∧ pf.length = qf.length
  · obtain ⟨h1, h2, h3⟩ := hl
    rw [← h1, ← h2, ← h3]
    have H1 := Lib.hid h1
    have H2 := Lib.hid h2
    have H3 := Lib.hid h3
    have HS := Lib.hid (And.intro s3 (And.intro s5 (And.intro u3 u5)))
    have HA := Lib.hid (And.intro hA1 (And.intro hA2 hA3))
    have HB := Lib.hid (And.intro hB1 (And.intro hB2 hB3))
    have HX0 := Lib.hid (Bx.new w (.slice A pd.length ca) (.slice B pw.length cb) (.slice C pf.length cc) (.slice D pd.length cd) (.slice E pw.length ce) (.slice F pf.length cf))
    unfold pgX at HX0
    clear h1 h2 h3 s3 s5 u1 u2 u3 u4 u5 hA1 hA2 hA3 hB1 hB2 hB3
    go_enter Tryd.func5, Tryd.ntmps5
    go_upto_region 1 with fail
    generalize (w.alloc (.cells #[.slice A pd.length ca, .slice B pw.length cb, .slice C pf.length cc] 26)).alloc (.cells #[.slice D pd.length cd, .slice E pw.length ce, .slice F pf.length cf] 26) = W0 at *
    obtain ⟨x0, x1, x2, _, _, _⟩ := cells3 HX0.out.a
    obtain ⟨y0, y1, y2, _, _, _⟩ := cells3 HX0.out.b
    go_wp2_with fail
    clear x0 x1 x2 y0 y1 y2
    go_loopw [5] (fun i wr => ∃ j : Nat, j ≤ pd.length ∧ i = .int .i64 (j : Int) ∧ Hid (∀ k, k < j → pd.getD k zero = qd.getD k zero) ∧ Hid (Bx w (.slice A pd.length ca) (.slice B pw.length cb) (.slice C pf.length cc) (.slice D pd.length cd) (.slice E pw.length ce) (.slice F pf.length cf) wr)) (fun i _ => pd.length - (intOf i).toNat)
    case atStart => exact ⟨0, Nat.zero_le _, rfl, Lib.hid (fun k hk => absurd hk (Nat.not_lt_zero k)), HX0⟩
    case round =>
      obtain ⟨j, hj, rfl, HO, HX⟩ := hrel
      obtain ⟨x0, x1, x2, _, _, _⟩ := cells3 HX.out.a
      obtain ⟨y0, y1, y2, _, _, _⟩ := cells3 HX.out.b
      by_cases hlt : j < pd.length
      · obtain ⟨a, oa, rfl, _, a0, a1, a2⟩ := (HA.out.1.next HX.out.below) j hlt
        obtain ⟨b, ob, rfl, _, b0, b1, b2⟩ := (HB.out.1.next HX.out.below) j (by rw [← H1.out]; exact hlt)
        have hlt' : (j : Int) < (pd.length : Int) := by omega
        by_cases hx : pd.getD j zero = qd.getD j zero
        · have HE := Lib.hid (upto_next HO.out hx)
          rw [← hx] at b0 b1 b2
          clear hx
          generalize pd.getD j zero = d at *
          go_wp2_with fail
          go_quiet (fail)
          go_wp2
          go_roundw
          case rel => exact ⟨j + 1, by omega, by go_num, HE, Lib.hid (HX.out.drewN _)⟩
          case measure => simp [intOf]; omega
        · have HE := Lib.hid (HNo.out (fun h => hx (by injection h with h; rw [h])))
          have hne : ¬ ((pd.getD j zero).1 = (qd.getD j zero).1 ∧ (pd.getD j zero).2.1 = (qd.getD j zero).2.1 ∧ (pd.getD j zero).2.2 = (qd.getD j zero).2.2) := fun h => hx (De.ext'.2 h)
          clear hx
          generalize pd.getD j zero = d at *
          generalize qd.getD j zero = f at *
          obtain ⟨d1, d2, d3⟩ := d
          obtain ⟨f1, f2, f3⟩ := f
          dsimp only at a0 a1 a2 b0 b1 b2 hne
          by_cases e1 : d1 = f1
          · subst e1
            by_cases e2 : d2 = f2
            · subst e2
              have hc : (d3 == f3) = false := by rw [beq_eq_false_iff_ne]; exact fun e => hne ⟨rfl, rfl, e⟩
              clear hne
              go_wp2_with fail
              go_quiet (fail)
              go_wp2
              go_ret
              exact ⟨by rw [HE.out]; rfl, (HX.out.drewN _).below⟩
            · have hc : (d2 == f2) = false := by rw [beq_eq_false_iff_ne]; exact e2
              clear hne e2
              go_wp2_with fail
              go_quiet (fail)
              go_wp2
              go_ret
              exact ⟨by rw [HE.out]; rfl, (HX.out.drewN _).below⟩
          · have hc : (d1 == f1) = false := by rw [beq_eq_false_iff_ne]; exact e1
            clear hne e1
            go_wp2_with fail
            go_quiet (fail)
            go_wp2
            go_ret
            exact ⟨by rw [HE.out]; rfl, (HX.out.drewN _).below⟩
      · obtain rfl : j = pd.length := by omega
        have HD : Hid (pd = qd) := Lib.hid (list_ext H1.out HO.out)
        clear HO
        go_wp2_with fail
        clear x0 x1 x2 y0 y1 y2
        obtain ⟨W1, rfl⟩ : ∃ W1, W1 = wr := ⟨_, rfl⟩
        go_loopw [6] (fun i wr => ∃ j : Nat, j ≤ pw.length ∧ i = .int .i64 (j : Int) ∧ Hid (∀ k, k < j → pw.getD k [] = qw.getD k []) ∧ Hid (Bx w (.slice A pd.length ca) (.slice B pw.length cb) (.slice C pf.length cc) (.slice D pd.length cd) (.slice E pw.length ce) (.slice F pf.length cf) wr)) (fun i _ => pw.length - (intOf i).toNat)
        case atStart => exact ⟨0, Nat.zero_le _, rfl, Lib.hid (fun k hk => absurd hk (Nat.not_lt_zero k)), HX⟩
        case round =>
          clear HX
          obtain ⟨j, hj, rfl, HO, HX⟩ := hrel
          obtain ⟨x0, x1, x2, _, _, _⟩ := cells3 HX.out.a
          obtain ⟨y0, y1, y2, _, _, _⟩ := cells3 HX.out.b
          by_cases hlt : j < pw.length
          · have hltm : j < qw.length := by rw [← H2.out]; exact hlt
            obtain ⟨a, oa, Aj, cj, rfl, hbl, hca, hda⟩ := (HA.out.2.1.next HX.out.below) j hlt
            obtain ⟨b, ob, Bj, dj, rfl, hbm, hcb, hdb⟩ := (HB.out.2.1.next HX.out.below) j hltm
            have hlt' : (j : Int) < (pw.length : Int) := by omega
            have hj0 : (0 : Int) ≤ (j : Int) := by omega
            have h6a := HS.out.1 _ (getD_in (d := []) hlt)
            have h6b := HS.out.2.2.1 _ (getD_in (d := []) hltm)
            generalize hgl : pw.getD j [] = lj at *
            generalize hgm : qw.getD j [] = mj at *
            obtain ⟨v, hv⟩ : ∃ v, v = decide (lj = mj) := ⟨_, rfl⟩
            have HC : Hid (∀ W, Below wr.heap.size wr W → Calls Tryd.prog 12 #[.slice Aj lj.length cj, .slice Bj mj.length dj] W fun e w' => e = .returned (.bool v) ∧ Below wr.heap.size wr w') := Lib.hid fun W hW => (refSame9_any Aj Bj cj dj lj mj h6a.1 h6b.1 h6a.2 h6b.2 W (hda.next hW) (hdb.next hW)).mono fun e w' ⟨h1, h2⟩ => ⟨by rw [h1, hv], hW.trans (h2.mono hW.size)⟩
            have q0 : w.heap.size < wr.heap.size := lt_of_block HX.out.a
            have q1 : w.heap.size + 1 < wr.heap.size := lt_of_block HX.out.b
            have HXn := Lib.hid (fun w3 (hb3 : Below wr.heap.size wr w3) => HX.out.next hb3)
            obtain ⟨Cl, hCl⟩ : ∃ Cl : World → Prop, Cl = Below wr.heap.size wr := ⟨_, rfl⟩
            rw [← hCl] at HC HXn
            have K0 : Hid (∀ W, Cl W → W.cell? ⟨w.heap.size, 1, none⟩ = some (.slice (some ⟨a, oa, none⟩) pw.length cb)) := Lib.hid fun W h => by rw [hCl] at h; exact (h.cell (p := ⟨w.heap.size, 1, none⟩) q0).trans x1
            have K1 : Hid (∀ W, Cl W → W.cell? ⟨w.heap.size + 1, 1, none⟩ = some (.slice (some ⟨b, ob, none⟩) pw.length ce)) := Lib.hid fun W h => by rw [hCl] at h; exact (h.cell (p := ⟨w.heap.size + 1, 1, none⟩) q1).trans y1
            have K2 : Hid (∀ W, Cl W → W.cell? ⟨a, oa + j, none⟩ = some (.slice Aj lj.length cj)) := Lib.hid fun W h => by rw [hCl] at h; exact (h.cell (p := ⟨a, oa + j, none⟩) hbl).trans hca
            have K3 : Hid (∀ W, Cl W → W.cell? ⟨b, ob + j, none⟩ = some (.slice Bj mj.length dj)) := Lib.hid fun W h => by rw [hCl] at h; exact (h.cell (p := ⟨b, ob + j, none⟩) hbm).trans hcb
            have hC0 : Cl { wr with drawn := wr.drawn + 1 } := by rw [hCl]; exact (Below.refl _ wr).drew
            have HCl := Lib.hid hCl
            have HV := Lib.hid hv
            have HGl := Lib.hid (And.intro hgl hgm)
            clear hgl hgm h6a h6b hda hdb hltm hca hcb hCl hv q0 q1 HX
            go_upto_region 11 with fail
            clear x0 x1 x2 y0 y1 y2
            refine wp_region_cls (C := Cl) (by kernel_rfl) (by kernel_rfl) hC0 ?_
            clear hC0
            (refine wpQuiet_step (fun K hK => ?_); go_simp; (first | refine hK _ ?_ | refine ⟨_, fun W hW => rfl, hK _ ?_⟩); clear hK K)
            (refine wpQuiet_step (fun K hK => ?_); go_simp; refine ⟨.slice (some ⟨a, oa, none⟩) pw.length cb, fun W hW => (by have k := K0.out W hW; simp [go_sem, k]), hK _ ?_⟩; clear hK K)
            (refine wpQuiet_step (fun K hK => ?_); go_simp; (first | refine hK _ ?_ | refine ⟨_, fun W hW => rfl, hK _ ?_⟩); clear hK K)
            (refine wpQuiet_step (fun K hK => ?_); go_simp; (first | refine hK _ ?_ | refine ⟨_, fun W hW => rfl, hK _ ?_⟩); clear hK K)
            (refine wpQuiet_step (fun K hK => ?_); go_simp; refine ⟨.slice Aj lj.length cj, fun W hW => (by have k := K2.out W hW; simp [go_sem, k]), hK _ ?_⟩; clear hK K)
            (refine wpQuiet_step (fun K hK => ?_); go_simp; (first | refine hK _ ?_ | refine ⟨_, fun W hW => rfl, hK _ ?_⟩); clear hK K)
            (refine wpQuiet_step (fun K hK => ?_); go_simp; refine ⟨.slice (some ⟨b, ob, none⟩) pw.length ce, fun W hW => (by have k := K1.out W hW; simp [go_sem, k]), hK _ ?_⟩; clear hK K)
            (refine wpQuiet_step (fun K hK => ?_); go_simp; (first | refine hK _ ?_ | refine ⟨_, fun W hW => rfl, hK _ ?_⟩); clear hK K)
            (refine wpQuiet_step (fun K hK => ?_); go_simp; (first | refine hK _ ?_ | refine ⟨_, fun W hW => rfl, hK _ ?_⟩); clear hK K)
            (refine wpQuiet_step (fun K hK => ?_); go_simp; refine ⟨.slice Bj mj.length dj, fun W hW => (by have k := K3.out W hW; simp [go_sem, k]), hK _ ?_⟩; clear hK K)
            (refine wpQuiet_step (fun K hK => ?_); go_simp; refine ⟨_, fun W hW => HC.out W hW, hK _ ?_⟩; clear hK K)
            (refine wpQuiet_step (fun K hK => ?_); go_simp; (first | refine hK _ ?_ | refine ⟨_, fun W hW => rfl, hK _ ?_⟩); clear hK K)
            refine wpQuiet_nil ?_
            intro w9 h9
            have hX9 := Lib.hid (HXn.out w9 h9)
            clear h9 HC HXn K0 K1 K2 K3
            cases v
            · have HE := Lib.hid (HNo.out (fun h => of_decide_eq_false HV.out.symm (by injection h with _ h; rw [← HGl.out.1, ← HGl.out.2, h])))
              go_wp2
              go_ret
              exact ⟨by rw [HE.out]; rfl, hX9.out.below⟩
            · have HE := Lib.hid (upto_next HO.out (by rw [HGl.out.1, HGl.out.2]; exact of_decide_eq_true HV.out.symm))
              go_wp2
              go_roundw
              case rel => exact ⟨j + 1, by omega, by go_num, HE, hX9⟩
              case measure => simp [intOf]; omega
          · obtain rfl : j = pw.length := by omega
            have HDw : Hid (pw = qw) := Lib.hid (getD_ext H2.out HO.out)
            clear HO
            go_wp2_with fail
            clear x0 x1 x2 y0 y1 y2
            obtain ⟨W2, rfl⟩ : ∃ W2, W2 = wr := ⟨_, rfl⟩
            go_loopw [7] (fun i wr => ∃ j : Nat, j ≤ pf.length ∧ i = .int .i64 (j : Int) ∧ Hid (∀ k, k < j → pf.getD k Fn.zero = qf.getD k Fn.zero) ∧ Hid (Bx w (.slice A pd.length ca) (.slice B pw.length cb) (.slice C pf.length cc) (.slice D pd.length cd) (.slice E pw.length ce) (.slice F pf.length cf) wr)) (fun i _ => pf.length - (intOf i).toNat)
            case atStart => exact ⟨0, Nat.zero_le _, rfl, Lib.hid (fun k hk => absurd hk (Nat.not_lt_zero k)), HX⟩
            case round =>
              clear HX
              obtain ⟨j, hj, rfl, HO, HX⟩ := hrel
              obtain ⟨x0, x1, x2, _, _, _⟩ := cells3 HX.out.a
              obtain ⟨y0, y1, y2, _, _, _⟩ := cells3 HX.out.b
              by_cases hlt : j < pf.length
              · have hltm : j < qf.length := by rw [← H3.out]; exact hlt
                obtain ⟨a, oa, Aj, cj, rfl, hbl, hfa, hda⟩ := HA.out.2.2 j hlt
                obtain ⟨b, ob, Bj, dj, rfl, hbm, hfb, hdb⟩ := HB.out.2.2 j hltm
                obtain ⟨a0, a1, a2⟩ := hfa.keep (HX.out.below.block a hbl)
                obtain ⟨b0, b1, b2⟩ := hfb.keep (HX.out.below.block b hbm)
                replace hbl := Nat.lt_of_lt_of_le hbl HX.out.below.size
                replace hbm := Nat.lt_of_lt_of_le hbm HX.out.below.size
                clear hfa hfb
                have hlt' : (j : Int) < (pf.length : Int) := by omega
                have hj0 : (0 : Int) ≤ (j : Int) := by omega
                have h6a := HS.out.2.1 _ (getD_in (d := Fn.zero) hlt)
                have h6b := HS.out.2.2.2 _ (getD_in (d := Fn.zero) hltm)
                generalize hgl : pf.getD j Fn.zero = lj at *
                generalize hgm : qf.getD j Fn.zero = mj at *
                obtain ⟨la, ll, lc⟩ := lj
                obtain ⟨ma, ml, mc⟩ := mj
                dsimp only at a0 a1 a2 b0 b1 b2 hda hdb h6a h6b
                have HDA := Lib.hid hda
                have HDB := Lib.hid hdb
                clear hda hdb
                have HF1 := Lib.hid (HX.out.two la ll (.slice Aj lc.length cj) ma ml (.slice Bj mc.length dj))
                have HF2 := Lib.hid (HX.out.owt la ll (.slice Aj lc.length cj) ma ml (.slice Bj mc.length dj))
                have hZ1 : ∀ O, Below wr.heap.size wr (wr.alloc O) := fun O => (Below.refl _ wr).alloc (Nat.le_refl _) _
                have hZ2 : ∀ O O2, Below wr.heap.size wr ((wr.alloc O).alloc O2) := fun O O2 => ((Below.refl _ wr).alloc (Nat.le_refl _) _).alloc (by rw [World.size_alloc]; omega) _
                have q0 : w.heap.size < wr.heap.size := lt_of_block HX.out.a
                have q1 : w.heap.size + 1 < wr.heap.size := lt_of_block HX.out.b
                have x2a := fun O => ((hZ1 O).cell (p := ⟨w.heap.size, 2, none⟩) q0).trans x2
                have y2a := fun O => ((hZ1 O).cell (p := ⟨w.heap.size + 1, 2, none⟩) q1).trans y2
                have a0a := fun O => ((hZ1 O).cell (p := ⟨a, oa + j * 3, none⟩) hbl).trans a0
                have a1a := fun O => ((hZ1 O).cell (p := ⟨a, oa + j * 3 + 1, none⟩) hbl).trans a1
                have a2a := fun O => ((hZ1 O).cell (p := ⟨a, oa + j * 3 + 2, none⟩) hbl).trans a2
                have b0a := fun O => ((hZ1 O).cell (p := ⟨b, ob + j * 3, none⟩) hbm).trans b0
                have b1a := fun O => ((hZ1 O).cell (p := ⟨b, ob + j * 3 + 1, none⟩) hbm).trans b1
                have b2a := fun O => ((hZ1 O).cell (p := ⟨b, ob + j * 3 + 2, none⟩) hbm).trans b2
                have x2b := fun O O2 => ((hZ2 O O2).cell (p := ⟨w.heap.size, 2, none⟩) q0).trans x2
                have y2b := fun O O2 => ((hZ2 O O2).cell (p := ⟨w.heap.size + 1, 2, none⟩) q1).trans y2
                have a0b := fun O O2 => ((hZ2 O O2).cell (p := ⟨a, oa + j * 3, none⟩) hbl).trans a0
                have a1b := fun O O2 => ((hZ2 O O2).cell (p := ⟨a, oa + j * 3 + 1, none⟩) hbl).trans a1
                have a2b := fun O O2 => ((hZ2 O O2).cell (p := ⟨a, oa + j * 3 + 2, none⟩) hbl).trans a2
                have b0b := fun O O2 => ((hZ2 O O2).cell (p := ⟨b, ob + j * 3, none⟩) hbm).trans b0
                have b1b := fun O O2 => ((hZ2 O O2).cell (p := ⟨b, ob + j * 3 + 1, none⟩) hbm).trans b1
                have b2b := fun O O2 => ((hZ2 O O2).cell (p := ⟨b, ob + j * 3 + 2, none⟩) hbm).trans b2
                clear x0 x1 y0 y1 hZ1 hZ2
                go_upto_block 1 with fail
                go_cut [7, 8, 9] (fun i p q wx => i = .int .i64 (j : Int) ∧ ∃ g h : Nat, p = .pointer (some ⟨g, 0, none⟩) ∧ q = .pointer (some ⟨h, 0, none⟩) ∧ Hid (Bf w (.slice A pd.length ca) (.slice B pw.length cb) (.slice (some ⟨a, oa, none⟩) pf.length cc) (.slice D pd.length cd) (.slice E pw.length ce) (.slice (some ⟨b, ob, none⟩) pf.length cf) g h la ll (.slice Aj lc.length cj) ma ml (.slice Bj mc.length dj) wx))
                case first =>
                  clear HS HA HB HO HNo HYes HDA HDB
                  go_wp2_with fail
                  go_region
                  · go_wp2_with fail
                    go_meet
                    exact ⟨rfl, _, _, rfl, rfl, HF1⟩
                  · go_wp2_with fail
                    go_meet
                    exact ⟨rfl, _, _, rfl, rfl, HF2⟩
                case rest =>
                  obtain ⟨rfl, g, h, rfl, rfl, HF⟩ := hcut
                  clear HF1 HF2 x2 y2 a0 a1 a2 b0 b1 b2 x2a y2a a0a a1a a2a b0a b1a b2a x2b y2b a0b a1b a2b b0b b1b b2b q0 q1 HX
                  have HGl := Lib.hid (And.intro hgl hgm)
                  have HJ := Lib.hid (And.intro hlt hltm)
                  clear hgl hgm hbl hbm hlt hltm hlt' hj0
                  obtain ⟨f0, f1, f2, _, _, _⟩ := cells3 HF.out.f
                  obtain ⟨k0, k1, k2, _, _, _⟩ := cells3 HF.out.k
                  by_cases hne : la = ma ∧ ll = ml ∧ lc.length = mc.length
                  · obtain ⟨e1, e2, e3⟩ := hne
                    subst e1 e2
                    have HLc := Lib.hid e3
                    rw [← e3] at k2
                    clear e3
                    go_wp2_with fail
                    clear f0 f1 f2 k0 k1 k2
                    obtain ⟨W3, rfl⟩ : ∃ W3, W3 = wr := ⟨_, rfl⟩
                    go_loopw [10] (fun i wr => ∃ k : Nat, k ≤ lc.length ∧ i = .int .i64 (k : Int) ∧ Hid (∀ x, x < k → lc.getD x zero = mc.getD x zero) ∧ Hid (Bf w (.slice A pd.length ca) (.slice B pw.length cb) (.slice (some ⟨a, oa, none⟩) pf.length cc) (.slice D pd.length cd) (.slice E pw.length ce) (.slice (some ⟨b, ob, none⟩) pf.length cf) g h la ll (.slice Aj lc.length cj) la ll (.slice Bj mc.length dj) wr)) (fun i _ => lc.length - (intOf i).toNat)
                    case atStart => exact ⟨0, Nat.zero_le _, rfl, Lib.hid (fun k hk => absurd hk (Nat.not_lt_zero k)), HF⟩
                    case round =>
                      clear HF
                      obtain ⟨k, hk, rfl, HP, HF⟩ := hrel
                      obtain ⟨_, _, f2, _, _, _⟩ := cells3 HF.out.f
                      obtain ⟨_, _, k2, _, _, _⟩ := cells3 HF.out.k
                      rw [← HLc.out] at k2
                      by_cases hlk : k < lc.length
                      · obtain ⟨a2, oa2, rfl, _, a0, a1, a3⟩ := (HDA.out.next HF.out.bx.below) k hlk
                        obtain ⟨b2, ob2, rfl, _, b0, b1, b3⟩ := (HDB.out.next HF.out.bx.below) k (by rw [← HLc.out]; exact hlk)
                        have hlk' : (k : Int) < (lc.length : Int) := by omega
                        have hk0 : (0 : Int) ≤ (k : Int) := by omega
                        by_cases hx : lc.getD k zero = mc.getD k zero
                        · have HE := Lib.hid (upto_next HP.out hx)
                          rw [← hx] at b0 b1 b3
                          clear hx
                          generalize lc.getD k zero = d at *
                          go_wp2_with fail
                          go_quiet (fail)
                          go_wp2
                          go_roundw
                          case rel => exact ⟨k + 1, by omega, by go_num, HE, Lib.hid (HF.out.drewN _)⟩
                          case measure => simp [intOf]; omega
                        · have HE : Hid (r = false) := Lib.hid (HNo.out (fun h => hx (by
                            injection h with _ _ h
                            have h1 := HGl.out.1
                            rw [h, HGl.out.2] at h1
                            injection h1 with e1 e2 e3
                            rw [e3])))
                          have hne : ¬ ((lc.getD k zero).1 = (mc.getD k zero).1 ∧ (lc.getD k zero).2.1 = (mc.getD k zero).2.1 ∧ (lc.getD k zero).2.2 = (mc.getD k zero).2.2) := fun h => hx (De.ext'.2 h)
                          clear hx
                          generalize lc.getD k zero = d at *
                          generalize mc.getD k zero = f at *
                          obtain ⟨d1, d2, d3⟩ := d
                          obtain ⟨c1, c2, c3⟩ := f
                          dsimp only at a0 a1 a3 b0 b1 b3 hne
                          by_cases e1 : d1 = c1
                          · subst e1
                            by_cases e2 : d2 = c2
                            · subst e2
                              have hc : (d3 == c3) = false := by rw [beq_eq_false_iff_ne]; exact fun e => hne ⟨rfl, rfl, e⟩
                              clear hne
                              go_wp2_with fail
                              go_quiet (fail)
                              go_wp2
                              go_ret
                              exact ⟨by rw [HE.out]; rfl, (HF.out.drewN _).bx.below⟩
                            · have hc : (d2 == c2) = false := by rw [beq_eq_false_iff_ne]; exact e2
                              clear hne e2
                              go_wp2_with fail
                              go_quiet (fail)
                              go_wp2
                              go_ret
                              exact ⟨by rw [HE.out]; rfl, (HF.out.drewN _).bx.below⟩
                          · have hc : (d1 == c1) = false := by rw [beq_eq_false_iff_ne]; exact e1
                            clear hne e1
                            go_wp2_with fail
                            go_quiet (fail)
                            go_wp2
                            go_ret
                            exact ⟨by rw [HE.out]; rfl, (HF.out.drewN _).bx.below⟩
                      · obtain rfl : k = lc.length := by omega
                        have HE : Hid (∀ x, x < j + 1 → pf.getD x Fn.zero = qf.getD x Fn.zero) := Lib.hid (upto_next HO.out (by rw [HGl.out.1, HGl.out.2, list_ext HLc.out HP.out]))
                        have hj1 := HJ.out.1
                        go_wp2_with fail
                        go_roundw
                        case rel => exact ⟨j + 1, by omega, by go_num, HE, Lib.hid HF.out.bx⟩
                        case measure => simp [intOf]; omega
                  · have HE : Hid (r = false) := Lib.hid (HNo.out (fun h => hne (by
                      injection h with _ _ h
                      have h1 := HGl.out.1
                      rw [h, HGl.out.2] at h1
                      injection h1 with e1 e2 e3
                      exact ⟨e1.symm, e2.symm, by rw [e3]⟩)))
                    by_cases e1 : la = ma
                    · subst e1
                      by_cases e2 : ll = ml
                      · subst e2
                        have t3 : ((lc.length : Int) != (mc.length : Int)) = true := by
                          simp
                          exact fun h => hne ⟨rfl, rfl, by omega⟩
                        clear hne
                        go_wp2_with fail
                        go_ret
                        exact ⟨by rw [HE.out]; rfl, HF.out.bx.below⟩
                      · have t2 : (ll != ml) = true := by simpa using e2
                        clear hne e2
                        go_wp2_with fail
                        go_ret
                        exact ⟨by rw [HE.out]; rfl, HF.out.bx.below⟩
                    · have t1 : (la != ma) = true := by simpa using e1
                      clear hne e1
                      go_wp2_with fail
                      go_ret
                      exact ⟨by rw [HE.out]; rfl, HF.out.bx.below⟩
              · obtain rfl : j = pf.length := by omega
                have HDf : Hid (pf = qf) := Lib.hid (getD_ext H3.out HO.out)
                have HE := Lib.hid (HYes.out (by rw [HD.out, HDw.out, HDf.out]))
                clear HO
                go_wp2_with fail
                go_ret
                exact ⟨by rw [HE.out]; rfl, HX.out.below⟩
  · have HE := Lib.hid (HNo.out (fun h => hl (by injection h with e1 e2 e3; exact ⟨by rw [e1], by rw [e2], by rw [e3]⟩)))
    have HX0 := Lib.hid (Bx.new w (.slice A pd.length ca) (.slice B pw.length cb) (.slice C pf.length cc) (.slice D qd.length cd) (.slice E qw.length ce) (.slice F qf.length cf))
    unfold pgX at HX0
    go_enter Tryd.func5, Tryd.ntmps5
    go_upto_region 1 with fail
    generalize (w.alloc (.cells #[.slice A pd.length ca, .slice B pw.length cb, .slice C pf.length cc] 26)).alloc (.cells #[.slice D qd.length cd, .slice E qw.length ce, .slice F qf.length cf] 26) = W0 at *
    obtain ⟨x0, x1, x2, _, _, _⟩ := cells3 HX0.out.a
    obtain ⟨y0, y1, y2, _, _, _⟩ := cells3 HX0.out.b
    by_cases h1 : pd.length = qd.length
    · have t1 : ((pd.length : Int) != (qd.length : Int)) = false := by simp; omega
      by_cases h2 : pw.length = qw.length
      · have t2 : ((pw.length : Int) != (qw.length : Int)) = false := by simp; omega
        have t3 : ((pf.length : Int) != (qf.length : Int)) = true := by
          simp
          exact fun h => hl ⟨h1, h2, by omega⟩
        clear hl h1 h2
        go_wp2_with fail
        go_ret
        exact ⟨by rw [HE.out]; rfl, HX0.out.below⟩
      · have t2 : ((pw.length : Int) != (qw.length : Int)) = true := by simp; omega
        clear hl h1 h2
        go_wp2_with fail
        go_ret
        exact ⟨by rw [HE.out]; rfl, HX0.out.below⟩
    · have t1 : ((pd.length : Int) != (qd.length : Int)) = true := by simp; omega
      clear hl h1
      go_wp2_with fail
      go_ret
      exact ⟨by rw [HE.out]; rfl, HX0.out.below⟩
end Go.Proofs.YtahejekcfgkiaaaDoor.pgm

/-
  The common end of all statements on programs: whether one is put and got. The tables must lie where their initialisers lay them.
-/
namespace Go.Proofs.YtahejekcfgkiaaaDoor.pgm
open Go.RowKit Go.ChangeShapes
open Go.Proofs.YtahejekcfgkiaaaDoor.objs (De zero DAt cells3)
open Go.Proofs.YtahejekcfgkiaaaDoor.need (WAt)
set_option linter.unusedVariables false

/-- The program that lives makes. -/
def liF : Fn := ⟨0, 0, [(0, 1, 0), (21, 0, 0)]⟩
def liP : Pg := ⟨[], [], [liF]⟩
def liB : List UInt8 := [76, 74, 1, 0, 0, 1, 0, 0, 2, 0, 2, 21]
theorem chk_liP : chkP liP = 0 := by decide +kernel
theorem chk_none : chkP Pg.none = 2 := by decide +kernel
theorem enc_liP : encP liP = liB := by decide +kernel
theorem get_liP : readP rdIns liB = (liP, 0) := by
  have h := back (rdI := rdIns) reads.back chk_liP []
  rw [List.append_nil, enc_liP] at h
  rw [h, if_neg (by simp)]
theorem small_liP : SmallP liP := by
  refine ⟨by decide, by decide, fun x hx => (by cases hx), by decide, fun f hf => ?_⟩
  rw [List.mem_singleton.1 hf]
  decide
def inB : Obj := .cells #[.int .i64 0, .int .i64 1, .int .i64 0, .int .i64 21, .int .i64 0, .int .i64 0] 48
def fnB (g : Nat) : Obj := .cells #[.int .i64 0, .int .i64 0, .slice (some ⟨g, 0, none⟩) 2 2] 46
def prB (g : Nat) : Obj := .cells #[.slice none 0 0, .slice none 0 0, .slice (some ⟨g, 0, none⟩) 1 1] 26
def liV (g : Nat) : Value := .agg #[.slice none 0 0, .slice none 0 0, .slice (some ⟨g, 0, none⟩) 1 1]
def liW (w : World) : World := ((w.alloc inB).alloc (fnB w.heap.size)).alloc (prB (w.heap.size + 1))
theorem liW_below (w : World) : Below w.heap.size w (liW w) := ((((Below.refl _ w).alloc (Nat.le_refl _) _).alloc (by rw [World.size_alloc]; omega) _).alloc (by rw [World.size_alloc, World.size_alloc]; omega) _)
theorem liW_box (w : World) : (liW w).heap[w.heap.size + 1 + 1]? = some (prB (w.heap.size + 1)) := by
  have z1 : (w.alloc inB).heap.size = w.heap.size + 1 := World.size_alloc w _
  have z2 : ((w.alloc inB).alloc (fnB w.heap.size)).heap.size = w.heap.size + 1 + 1 := by rw [World.size_alloc, z1]
  rw [← z2]
  exact heap_alloc_new _ _
theorem liW_at (w : World) : PAt (liW w) (liV (w.heap.size + 1)) liP := by
  have z1 : (w.alloc inB).heap.size = w.heap.size + 1 := World.size_alloc w _
  have z2 : ((w.alloc inB).alloc (fnB w.heap.size)).heap.size = w.heap.size + 1 + 1 := by rw [World.size_alloc, z1]
  have b0 : (liW w).heap[w.heap.size]? = some inB := (Below.heap_alloc _ _ _ (by omega)).trans ((Below.heap_alloc _ _ _ (by omega)).trans (heap_alloc_new w _))
  have b1 : (liW w).heap[w.heap.size + 1]? = some (fnB w.heap.size) := (Below.heap_alloc _ _ _ (by omega)).trans (by rw [← z1]; exact heap_alloc_new _ _)
  refine ⟨none, none, some ⟨w.heap.size + 1, 0, none⟩, 0, 0, 1, rfl, DAt.nil _ _, WsAt.nil _ _, fun j hj => ?_⟩
  have hj2 : j < 1 := hj
  obtain rfl : j = 0 := by omega
  refine ⟨_, 0, some ⟨w.heap.size, 0, none⟩, 2, rfl, lt_of_block b1, ⟨?_, ?_, ?_⟩, fun i hi => ?_⟩
  · unfold World.cell?
    rw [b1]
    rfl
  · unfold World.cell?
    rw [b1]
    rfl
  · unfold World.cell?
    rw [b1]
    rfl
  have hi2 : i < 2 := hi
  refine ⟨_, 0, rfl, lt_of_block b0, ?_⟩
  unfold Go.Proofs.YtahejekcfgkiaaaDoor.objs.CellsAt World.cell?
  rw [b0]
  match i, hi2 with
  | 0, _ => exact ⟨rfl, rfl, rfl⟩
  | 1, _ => exact ⟨rfl, rfl, rfl⟩

set_option maxRecDepth 100000 in
set_option maxHeartbeats 4000000 in
theorem lives_any (w : World) (hw : Okp w) : Calls Tryd.prog 6 #[] w fun e w' => e = .returned (.bool true) ∧ Below w.heap.size w w' := by
  have HB0 := Lib.hid (liW_below w)
  have HP0 := Lib.hid (liW_at w)
  have HX0 := Lib.hid (liW_box w)
  unfold liV at HP0
  have HPt := fun W h1 h2 => Lib.hid (put_any (liV (w.heap.size + 1)) liP (by decide) W h1 h2)
  unfold PutPost10 putP liV at HPt
  rw [if_pos chk_liP, chk_liP, enc_liP] at HPt
  have HG := fun W h2 => Lib.hid (get_any liB W (by decide) h2)
  rw [get_liP] at HG
  unfold GotP at HG
  have HSm := fun v W h1 h2 => Lib.hid (same10_any (liV (w.heap.size + 1)) v liP liP small_liP small_liP W h1 h2)
  unfold SamePost10 liV at HSm
  rw [eqP_self] at HSm
  have HC := fun W h2 => Lib.hid (check_any (.agg #[.slice none 0 0, .slice none 0 0, .slice none 0 0]) Pg.none (by decide) W (pat_none W) h2)
  unfold NumPost at HC
  rw [chk_none] at HC
  have HK := Lib.hid hw
  clear hw
  go_enter Tryd.func6, Tryd.ntmps6
  unfold liW inB fnB prB at HB0 HP0 HX0
  unfold liB at HPt HG
  obtain ⟨x0, x1, x2, _, _, _⟩ := cells3 HX0.out
  go_upto_region 2 with fail
  generalize ((w.alloc (.cells #[.int .i64 0, .int .i64 1, .int .i64 0, .int .i64 21, .int .i64 0, .int .i64 0] 48)).alloc (.cells #[.int .i64 0, .int .i64 0, .slice (some ⟨w.heap.size, 0, none⟩) 2 2] 46)).alloc (.cells #[.slice none 0 0, .slice none 0 0, .slice (some ⟨w.heap.size + 1, 0, none⟩) 1 1] 26) = W0 at *
  go_wp2_with fail
  refine (HPt _ HP0.out (HK.out.next HB0.out)).out.mono ?_
  rintro e w1 ⟨rfl, hb1⟩
  have HB1 := Lib.hid (HB0.out.trans (hb1.mono HB0.out.size))
  have HP1 := Lib.hid (HP0.out.next hb1)
  have HX1 := Lib.hid ((hb1.block _ (lt_of_block HX0.out)).trans HX0.out)
  clear hb1 HB0 HP0 HX0 HPt x0 x1 x2
  go_wp2_with fail
  refine (HG _ (HK.out.next HB1.out)).out.mono ?_
  rintro e w2 ⟨v, rfl, hv, hb2⟩
  obtain ⟨A, B, C, ca, cb, cc, hve, _⟩ := id hv
  subst hve
  have hbx : Below w2.heap.size w2 (w2.alloc (.cells #[.slice A liP.ds.length ca, .slice B liP.ws.length cb, .slice C liP.fs.length cc] 26)) := (Below.refl _ _).alloc (Nat.le_refl _) _
  have hb3 := hb2.trans (hbx.mono hb2.size)
  have HB2 := Lib.hid (HB1.out.trans (hb3.mono HB1.out.size))
  have HP2 := Lib.hid (HP1.out.next hb3)
  have hX2 := (hb3.block _ (lt_of_block HX1.out)).trans HX1.out
  have HQ2 := Lib.hid (hv.next hbx)
  obtain ⟨y0, y1, y2, _, _, _⟩ := cells3 (heap_alloc_new w2 (.cells #[.slice A liP.ds.length ca, .slice B liP.ws.length cb, .slice C liP.fs.length cc] 26))
  obtain ⟨x0, x1, x2, _, _, _⟩ := cells3 hX2
  clear hb2 hbx hb3 hv hX2 HB1 HP1 HX1 HG
  go_upto_region 4 with fail
  generalize w2.alloc (.cells #[.slice A liP.ds.length ca, .slice B liP.ws.length cb, .slice C liP.fs.length cc] 26) = W2 at *
  go_wp2_with fail
  refine (HSm _ _ HP2.out HQ2.out).out.mono ?_
  rintro e w3 ⟨rfl, hb3⟩
  have HB3 := Lib.hid (HB2.out.trans (hb3.mono HB2.out.size))
  clear hb3 HB2 HP2 HQ2 HSm x0 x1 x2 y0 y1 y2
  go_wp2_with fail
  refine (HC _ (HK.out.next HB3.out)).out.mono ?_
  rintro e w4 ⟨rfl, hb4⟩
  have HB4 := Lib.hid (HB3.out.trans (hb4.mono HB3.out.size))
  clear hb4
  go_wp2
  go_ret
  exact ⟨rfl, HB4.out⟩
end Go.Proofs.YtahejekcfgkiaaaDoor.pgm

/-
  The walk of ProgOnce. The tables must lie where their initialisers lay them; a text of at most two to the forty-seventh bytes.
-/
namespace Go.Proofs.YtahejekcfgkiaaaDoor.pgm
open Go.RowKit Go.ChangeShapes
open Go.Proofs.YtahejekcfgkiaaaDoor.objs (De zero DAt cells3)
set_option linter.unusedVariables false

theorem small_zero {p : Pg} (h : chkP p = 0) : SmallP p := by
  obtain ⟨h1, h2, h3, h4, h5, h6⟩ := chkP_zero h
  have h0 := (Go.Proofs.YtahejekcfgkiaaaDoor.objs.chk_zero h1).1
  refine ⟨by omega, by omega, fun x hx => ?_, by omega, fun f hf => by have := (chkFn_zero (h6 f hf)).2.2.1; omega⟩
  obtain ⟨_, q1, q2⟩ := Go.Proofs.YtahejekcfgkiaaaDoor.need.chkW_zero (h3 x hx)
  exact ⟨by omega, fun y hy => by have := (q2 y hy).2.1; omega⟩
theorem small_none : SmallP Pg.none := ⟨by decide, by decide, fun x hx => (by cases hx), by decide, fun f hf => (by cases hf)⟩
theorem small_got (l : List UInt8) : SmallP (readP rdIns l).1 := by
  rcases Nat.eq_zero_or_pos (readP rdIns l).2 with h | h
  · exact small_zero (once reads h).1
  · rw [got_bad (rdI := rdIns) (by omega)]
    exact small_none
theorem text_list (t : ByteArray) : (⟨t.data.toList.toArray⟩ : ByteArray) = t := by
  obtain ⟨d⟩ := t
  simp
theorem get_text (t : ByteArray) (w : World) (ht : t.size ≤ 140737489403904) (hok : Okp w) : Calls Tryd.prog 4 #[.string t] w (GotP (readP rdIns t.data.toList) w) := by
  have h := get_any t.data.toList w (by rw [Array.length_toList]; exact ht) hok
  rwa [text_list] at h

set_option maxRecDepth 100000 in
set_option maxHeartbeats 4000000 in
theorem once_walk (t : ByteArray) (ht : t.size ≤ 140737489403904) (w : World) (hw : Okp w) :
    Calls Tryd.prog 3 #[.string t] w fun e w' => e = .returned (.bool true) ∧ Below w.heap.size w w' := by
  have HG := Lib.hid (get_text t w ht hw)
  unfold GotP at HG
  have hone := fun h => once reads (t := t.data.toList) h
  have hbad := fun h => got_bad (rdI := rdIns) (t := t.data.toList) h
  have hsm := small_got t.data.toList
  have HL := fun W h => Lib.hid (lives_any W h)
  have HK := Lib.hid hw
  obtain ⟨q, hq⟩ : ∃ q, q = readP rdIns t.data.toList := ⟨_, rfl⟩
  rw [← hq] at HG hone hbad hsm
  obtain ⟨p, e⟩ := q
  dsimp only at HG hone hbad hsm
  clear hq ht hw
  go_enter Tryd.func3, Tryd.ntmps3
  go_wp2_with fail
  refine HG.out.mono ?_
  rintro _ w1 ⟨v, rfl, hv, hb1⟩
  obtain ⟨A, B, C, ca, cb, cc, hve, -⟩ := id hv
  subst hve
  have hbx : Below w1.heap.size w1 (w1.alloc (.cells #[.slice A p.ds.length ca, .slice B p.ws.length cb, .slice C p.fs.length cc] 26)) := (Below.refl _ _).alloc (Nat.le_refl _) _
  have hb2 := hb1.trans (hbx.mono hb1.size)
  have HB := Lib.hid hb2
  have HP := Lib.hid (hv.next hbx)
  obtain ⟨y0, y1, y2, -, -, -⟩ := cells3 (heap_alloc_new w1 (.cells #[.slice A p.ds.length ca, .slice B p.ws.length cb, .slice C p.fs.length cc] 26))
  clear hb1 hbx hb2 hv HG
  go_upto_region 2 with fail
  generalize w1.alloc (.cells #[.slice A p.ds.length ca, .slice B p.ws.length cb, .slice C p.fs.length cc] 26) = W1 at *
  by_cases he : e = 0
  · subst he
    obtain ⟨hz, hen⟩ := hone rfl
    have HPt := Lib.hid (put_any (.agg #[.slice A p.ds.length ca, .slice B p.ws.length cb, .slice C p.fs.length cc]) p (by have := hsm.1; omega) W1 HP.out (HK.out.next HB.out))
    unfold PutPost10 putP at HPt
    rw [if_pos hz, hz, hen, text_list] at HPt
    have hc0 : (((0 : Nat) : Int) != 0) = false := rfl
    clear hone hbad hsm hz hen
    go_wp2_with fail
    refine HPt.out.mono ?_
    rintro _ w2 ⟨rfl, hb2⟩
    have HB2 := Lib.hid (HB.out.trans (hb2.mono HB.out.size))
    clear hb2 HPt y0 y1 y2
    go_wp2_with fail
    refine (HL _ (HK.out.next HB2.out)).out.mono ?_
    rintro _ w3 ⟨rfl, hb3⟩
    have HB3 := Lib.hid (HB2.out.trans (hb3.mono HB2.out.size))
    clear hb3
    go_wp2
    go_ret
    exact ⟨rfl, HB3.out⟩
  · have hp := hbad he
    have he' : ((e : Int) != 0) = true := by simpa using he
    have HSm := Lib.hid (same10_any (.agg #[.slice A p.ds.length ca, .slice B p.ws.length cb, .slice C p.fs.length cc]) (.agg #[.slice none 0 0, .slice none 0 0, .slice none 0 0]) p Pg.none hsm small_none W1 HP.out (pat_none W1))
    unfold SamePost10 at HSm
    rw [eqP_yes hp] at HSm
    clear hone hbad hsm he hp
    go_wp2_with fail
    refine HSm.out.mono ?_
    rintro _ w2 ⟨rfl, hb2⟩
    have HB2 := Lib.hid (HB.out.trans (hb2.mono HB.out.size))
    clear hb2 HSm y0 y1 y2
    go_wp2_with fail
    refine (HL _ (HK.out.next HB2.out)).out.mono ?_
    rintro _ w3 ⟨rfl, hb3⟩
    have HB3 := Lib.hid (HB2.out.trans (hb3.mono HB2.out.size))
    clear hb3
    go_wp2
    go_ret
    exact ⟨rfl, HB3.out⟩
end Go.Proofs.YtahejekcfgkiaaaDoor.pgm

/-
  The last step of each statement: below the blocks that were there nothing has turned, so the arguments read as they did; and what the row's condition on the table of names gives. No condition.
-/
namespace Go.Proofs.YtahejekcfgkiaaaDoor.oper
open Go.RowKit Go.WideShapes Go.ChangeShapes

section
variable {H : Type} {enc : TypeId × Value → H} {P : Program}
/-- What 'post' asks, where of the call's world only this is known: below the old size no block has turned. -/
theorem post_below {f : Func} {s : ChangeSpec} {apart fresh handsOn again : Bool} {W W' : World} {args : Array Value} {v : Value} {ds gs : List (DataW H)} {before pa pv : List MemPlace}
    (hW : DataW.Whole enc P f.params.toList s.vars apart W args.toList ds gs before)
    (hres : ∀ (b : Nat) (sp : Nat → Bool) (hd : Bool), DataW.TrodAll enc P W' b sp hd f.resultTypes.toList (v.resultList f.resultTypes.size) (s.fn H (ds ++ gs)).results [])
    (hargs : ∀ sp : Nat → Bool, (∀ p ∈ before, sp p.block = true) → DataW.TrodAll enc P W' 0 sp true f.params.toList args.toList (s.fn H (ds ++ gs)).args pa)
    (hvars : ∀ sp : Nat → Bool, (∀ p ∈ before, sp p.block = true) → DataW.TrodVars enc P W' sp s.vars (s.fn H (ds ++ gs)).vars pv)
    (hps : before = pa ++ pv) (hb : Below W.heap.size W W')
    (hok : ∀ (j : Nat) (t : TypeId) (r : Value), f.resultTypes[j]? = some t → (v.resultList f.resultTypes.size)[j]? = some r → Value.okWide P W' .any 0 t r) :
    s.post enc P f apart fresh handsOn again W args v W' := by
  have hlt : ∀ p ∈ before, p.block < W.heap.size := fun p hp => hW.lt p hp
  have hold : ∀ p ∈ before, (fun b => decide (b < W.heap.size)) p.block = true := fun p hp => by simpa using hlt p hp
  refine ⟨ds, gs, before, [], pa, pv, hW, hres _ _ _, hargs _ hold, hvars _ hold, World.keptBut_mono (fun p hp => ⟨hp, ?_⟩) (hb.frame (· ∈ before)), fun _ => ?_⟩
  · rw [hps, List.mem_append] at hp
    exact Or.inr hp
  · obtain ⟨_, _, _, _, _, hz, hn⟩ := hW
    refine ⟨hok, _, _, ([] ++ pa) ++ pv, ⟨[] ++ pa, pv, trodAll_append (hargs _ (fun _ _ => rfl)) (hres _ _ _), hvars _ (fun _ _ => rfl), rfl, ?_, ?_⟩, ?_⟩
    · intro b off hp
      have hin : MemPlace.cell b off ∈ before := by rw [hps]; simpa using hp
      rw [hb.frozen (hlt _ hin)]
      exact hz b off hin
    · intro ha
      have := hn ha
      rw [hps] at this
      simpa using this
    · intro p hp _
      rw [hps]
      simpa using hp
end

theorem own : ownKnob Tryd.prog.godebug = none := by kernel_rfl

/-- AN ARRAY OF TEXTS THAT READS AS A LIST HOLDS THESE TEXTS, CELL FOR CELL. -/
theorem cells_of_texts {H : Type} {enc : TypeId × Value → H} {P : Program} {w : World} {base : Nat} {sp : Nat → Bool} {held : Bool} {fuel : Nat} {t e : TypeId} {n : Nat} {cs : List Value} {zs : List ByteArray} {p : List MemPlace}
    (ht : P.underlying t = some (.array n e)) (he : P.underlying e = some .string) (hce : P.cellsOf e = 1) (hct : P.cellsOf t = n)
    (h : DataW.trod enc P w base sp held fuel t cs = some (.agg (zs.map fun z => .lit (.string z.data.toList)), p)) : cs = zs.map fun z => Value.string z := by
  cases fuel with
  | zero => simp [DataW.trod] at h
  | succ fuel =>
    simp only [DataW.trod, ht, hce, hct, Nat.mul_one] at h
    split at h
    · rename_i hl
      obtain ⟨xs, hm, hx⟩ := Option.map_eq_some_iff.1 h
      have hxs : xs.map (·.1) = zs.map fun z => (DataW.lit (.string z.data.toList) : DataW H) := by
        have := congrArg Prod.fst hx
        simpa using this
      have hxl : xs.length = n := by simpa using Lib.mapM_length hm
      have hzl : zs.length = n := by
        have := congrArg List.length hxs
        simp at this
        omega
      apply List.ext_getElem?
      intro i
      by_cases hi : i < n
      · obtain ⟨b, hb, hf⟩ := Lib.mapM_at hm i i (by simp [hi])
        obtain ⟨z, hc, rfl, _⟩ := DataW.trod_string he hf
        have h1 : cs[i]? = some (.string z) := by
          have := congrArg (·[0]?) hc
          simpa [List.getElem?_take, List.getElem?_drop] using this
        have h2 : (xs.map (·.1))[i]? = some (DataW.lit (.string z.data.toList) : DataW H) := by simp [hb]
        rw [hxs] at h2
        simp only [List.getElem?_map, Option.map_eq_some_iff, DataW.lit.injEq, Lit.string.injEq] at h2
        obtain ⟨z', hz', he'⟩ := h2
        rw [h1, List.getElem?_map, hz', Option.map_some, bytes_inj he']
      · rw [List.getElem?_eq_none (by omega), List.getElem?_eq_none (by simp; omega)]
    · cases h

/-- The table that each of these rows lists. -/
def laid1 : List (String × DataW Unit) := [("logjam/op.names", Rows.laid_logjam_op_names)]
theorem laid_nm : (Rows.laid_logjam_op_names : DataW Unit) = .agg (nm.map fun z => .lit (.string z.data.toList)) := rfl
theorem gTab : Tryd.prog.globalNamed "logjam/op.names" = some 2 := by kernel_rfl
theorem gTabType : (Tryd.prog.globals[2]?).map (·.type) = some 133 := by kernel_rfl
theorem tabCells : Tryd.prog.cellsOf 133 = 52 := by kernel_rfl
theorem textCells1 : Tryd.prog.cellsOf 9 = 1 := by kernel_rfl
theorem tab_of_head {W : World} {rest : List (String × DataW Unit)} (h : laidMet Tryd.prog (("logjam/op.names", Rows.laid_logjam_op_names) :: rest) W) : Tab W ∧ 2 < W.heap.size := by
  obtain ⟨ps, ⟨g', t', cs, fuel, p, q, hg', ht', hvar, hd, _, _⟩, _⟩ := h
  obtain rfl := Option.some.inj (gTab.symm.trans hg')
  obtain rfl := Option.some.inj (gTabType.symm.trans ht')
  rw [laid_nm] at hd
  have hcs := cells_of_texts Tryd.underlying133 Tryd.underlying9 textCells1 tabCells hd
  have hc : Tab W := by
    intro j hj
    have h1 := World.var?_cell gTab hvar j
    have hj' : j < nm.length := hj
    rw [h1, ← Array.getElem?_toList, hcs, List.getElem?_map, List.getElem?_eq_getElem hj', Option.map_some, List.getD_eq_getElem?_getD, List.getElem?_eq_getElem hj', Option.getD_some]
  refine ⟨hc, ?_⟩
  have h0 := hc 0 (by omega)
  rcases Nat.lt_or_ge 2 W.heap.size with h1 | h1
  · exact h1
  · simp [World.cell?, Array.getElem?_eq_none h1] at h0
theorem of_laid {W : World} (h : laidMetH Tryd.prog laid1 W) : Tab W ∧ 2 < W.heap.size := by
  rw [MakeChecks.laidMetH_plain _ _ _ (by kernel_rfl)] at h
  exact tab_of_head h

/-- The door's own heap meets the condition: three closed facts. -/
theorem door_met (os : Os) (args : Array Value) : laidMetH Tryd.prog laid1 ((World.doorLaid Tryd.prog 24 os).forCall (fun _ _ => 0) ⟨#[], args, []⟩).memory :=
  laidMetH_of_parts3 (fuel := 8) (laidMet_of_run' 8 (by kernel_rfl) (by kernel_rfl)) (by kernel_rfl) (by kernel_rfl)
end Go.Proofs.YtahejekcfgkiaaaDoor.oper

/-
  The last step of each statement: below the blocks that were there nothing has turned, so the arguments read as they did. No condition.
-/
namespace Go.Proofs.YtahejekcfgkiaaaDoor.shut
open Go.ChangeShapes Go.WideShapes Go.RowKit
set_option linter.unusedVariables false

theorem laidOut : laidOutB Tryd.prog = true := by kernel_rfl
theorem own : ownKnob Tryd.prog.godebug = none := by kernel_rfl

section
variable {H : Type} {enc : TypeId × Value → H} {P : Program}
/-- What 'post' asks, where of the call's world only this is known: below the old size no block has turned. -/
theorem post_below {f : Func} {s : ChangeSpec} {apart fresh handsOn again : Bool} {W W' : World} {args : Array Value} {v : Value} {ds gs : List (DataW H)} {before pa pv : List MemPlace}
    (hW : DataW.Whole enc P f.params.toList s.vars apart W args.toList ds gs before)
    (hres : ∀ (b : Nat) (sp : Nat → Bool) (hd : Bool), DataW.TrodAll enc P W' b sp hd f.resultTypes.toList (v.resultList f.resultTypes.size) (s.fn H (ds ++ gs)).results [])
    (hargs : ∀ sp : Nat → Bool, (∀ p ∈ before, sp p.block = true) → DataW.TrodAll enc P W' 0 sp true f.params.toList args.toList (s.fn H (ds ++ gs)).args pa)
    (hvars : ∀ sp : Nat → Bool, (∀ p ∈ before, sp p.block = true) → DataW.TrodVars enc P W' sp s.vars (s.fn H (ds ++ gs)).vars pv)
    (hps : before = pa ++ pv) (hb : Below W.heap.size W W')
    (hok : ∀ (j : Nat) (t : TypeId) (r : Value), f.resultTypes[j]? = some t → (v.resultList f.resultTypes.size)[j]? = some r → Value.okWide P W' .any 0 t r) :
    s.post enc P f apart fresh handsOn again W args v W' := by
  have hlt : ∀ p ∈ before, p.block < W.heap.size := fun p hp => hW.lt p hp
  have hold : ∀ p ∈ before, (fun b => decide (b < W.heap.size)) p.block = true := fun p hp => by simpa using hlt p hp
  refine ⟨ds, gs, before, [], pa, pv, hW, hres _ _ _, hargs _ hold, hvars _ hold, World.keptBut_mono (fun p hp => ⟨hp, ?_⟩) (hb.frame (· ∈ before)), fun _ => ?_⟩
  · rw [hps, List.mem_append] at hp
    exact Or.inr hp
  · obtain ⟨_, _, _, _, _, hz, hn⟩ := hW
    refine ⟨hok, _, _, ([] ++ pa) ++ pv, ⟨[] ++ pa, pv, trodAll_append (hargs _ (fun _ _ => rfl)) (hres _ _ _), hvars _ (fun _ _ => rfl), rfl, ?_, ?_⟩, ?_⟩
    · intro b off hp
      have hin : MemPlace.cell b off ∈ before := by rw [hps]; simpa using hp
      rw [hb.frozen (hlt _ hin)]
      exact hz b off hin
    · intro ha
      have := hn ha
      rw [hps] at this
      simpa using this
    · intro p hp _
      rw [hps]
      simpa using hp
end
/-- AN ARRAY OF TEXTS THAT READS AS A LIST HOLDS THESE TEXTS, CELL FOR CELL. -/
theorem cells_of_texts {H : Type} {enc : TypeId × Value → H} {P : Program} {w : World} {base : Nat} {sp : Nat → Bool} {held : Bool} {fuel : Nat} {t e : TypeId} {n : Nat} {cs : List Value} {zs : List ByteArray} {p : List MemPlace}
    (ht : P.underlying t = some (.array n e)) (he : P.underlying e = some .string) (hce : P.cellsOf e = 1) (hct : P.cellsOf t = n)
    (h : DataW.trod enc P w base sp held fuel t cs = some (.agg (zs.map fun z => .lit (.string z.data.toList)), p)) : cs = zs.map fun z => Value.string z := by
  cases fuel with
  | zero => simp [DataW.trod] at h
  | succ fuel =>
    simp only [DataW.trod, ht, hce, hct, Nat.mul_one] at h
    split at h
    · rename_i hl
      obtain ⟨xs, hm, hx⟩ := Option.map_eq_some_iff.1 h
      have hxs : xs.map (·.1) = zs.map fun z => (DataW.lit (.string z.data.toList) : DataW H) := by
        have := congrArg Prod.fst hx
        simpa using this
      have hxl : xs.length = n := by simpa using Lib.mapM_length hm
      have hzl : zs.length = n := by
        have := congrArg List.length hxs
        simp at this
        omega
      apply List.ext_getElem?
      intro i
      by_cases hi : i < n
      · obtain ⟨b, hb, hf⟩ := Lib.mapM_at hm i i (by simp [hi])
        obtain ⟨z, hc, rfl, _⟩ := DataW.trod_string he hf
        have h1 : cs[i]? = some (.string z) := by
          have := congrArg (·[0]?) hc
          simpa [List.getElem?_take, List.getElem?_drop] using this
        have h2 : (xs.map (·.1))[i]? = some (DataW.lit (.string z.data.toList) : DataW H) := by simp [hb]
        rw [hxs] at h2
        simp only [List.getElem?_map, Option.map_eq_some_iff, DataW.lit.injEq, Lit.string.injEq] at h2
        obtain ⟨z', hz', he'⟩ := h2
        rw [h1, List.getElem?_map, hz', Option.map_some, bytes_inj he']
      · rw [List.getElem?_eq_none (by omega), List.getElem?_eq_none (by simp; omega)]
    · cases h

end Go.Proofs.YtahejekcfgkiaaaDoor.shut

/-
  What a row's condition on the table of kinds' names gives, and that the door's own heap meets it. No condition.
-/
namespace Go.Proofs.YtahejekcfgkiaaaDoor.objs
open Go.RowKit Go.WideShapes Go.ChangeShapes
open Go.Proofs.YtahejekcfgkiaaaDoor.shut (cells_of_texts)

/-- The table that each of these rows lists. -/
def laidD : List (String × DataW Unit) := [("logjam/decl.names", Rows.laid_logjam_decl_names)]
theorem laid_names : (Rows.laid_logjam_decl_names : DataW Unit) = .agg (names.map fun z => .lit (.string z.data.toList)) := rfl
theorem gTabd : Tryd.prog.globalNamed "logjam/decl.names" = some 1 := by kernel_rfl
theorem gTabdType : (Tryd.prog.globals[1]?).map (·.type) = some 132 := by kernel_rfl
theorem tabdCells : Tryd.prog.cellsOf 132 = 8 := by kernel_rfl
theorem textCellsD : Tryd.prog.cellsOf 9 = 1 := by kernel_rfl
theorem tabd_of_head {W : World} {rest : List (String × DataW Unit)} (h : laidMet Tryd.prog (("logjam/decl.names", Rows.laid_logjam_decl_names) :: rest) W) : Tabd W ∧ 1 < W.heap.size := by
  obtain ⟨ps, ⟨g', t', cs, fuel, p, q, hg', ht', hvar, hd, _, _⟩, _⟩ := h
  obtain rfl := Option.some.inj (gTabd.symm.trans hg')
  obtain rfl := Option.some.inj (gTabdType.symm.trans ht')
  rw [laid_names] at hd
  have hcs := cells_of_texts Tryd.underlying132 Tryd.underlying9 textCellsD tabdCells hd
  have hc : Tabd W := by
    intro j hj
    have h1 := World.var?_cell gTabd hvar j
    have hj' : j < names.length := hj
    rw [h1, ← Array.getElem?_toList, hcs, List.getElem?_map, List.getElem?_eq_getElem hj', Option.map_some, List.getD_eq_getElem?_getD, List.getElem?_eq_getElem hj', Option.getD_some]
  refine ⟨hc, ?_⟩
  have h0 := hc 0 (by omega)
  rcases Nat.lt_or_ge 1 W.heap.size with h1 | h1
  · exact h1
  · simp [World.cell?, Array.getElem?_eq_none h1] at h0
theorem of_laidD {W : World} (h : laidMetH Tryd.prog laidD W) : Tabd W ∧ 1 < W.heap.size := by
  rw [MakeChecks.laidMetH_plain _ _ _ (by kernel_rfl)] at h
  exact tabd_of_head h

/-- The door's own heap meets the condition: three closed facts. -/
theorem door_metD (os : Os) (args : Array Value) : laidMetH Tryd.prog laidD ((World.doorLaid Tryd.prog 24 os).forCall (fun _ _ => 0) ⟨#[], args, []⟩).memory :=
  laidMetH_of_parts3 (fuel := 8) (laidMet_of_run' 8 (by kernel_rfl) (by kernel_rfl)) (by kernel_rfl) (by kernel_rfl)
end Go.Proofs.YtahejekcfgkiaaaDoor.objs

/-
  What a row's condition on the tables gives, and that the door's own heap meets it. No condition.
-/
namespace Go.Proofs.YtahejekcfgkiaaaDoor.pgm
open Go.RowKit Go.WideShapes Go.ChangeShapes
open Go.Proofs.YtahejekcfgkiaaaDoor.need (askedE)
set_option linter.unusedVariables false

/-- The tables that each of these rows lists. -/
def laidG : List (String × DataW Unit) := [("logjam/op.names", Rows.laid_logjam_op_names), ("logjam/decl.names", Rows.laid_logjam_decl_names), ("logjam/need.asked", Rows.laid_logjam_need_asked)]
theorem gAskedG : Tryd.prog.globalNamed "logjam/need.asked" = some 0 := by kernel_rfl
theorem gAskedGType : (Tryd.prog.globals[0]?).map (·.type) = some 125 := by kernel_rfl
theorem askedGCells : Tryd.prog.cellsOf 125 = 6 := by kernel_rfl
theorem intCellsG : Tryd.prog.cellsOf 3 = 1 := by kernel_rfl
theorem lt_of_cellG {W : World} {g : Nat} {v : Value} (h : W.cell? ⟨g, 0, none⟩ = some v) : g < W.heap.size := by
  rcases Nat.lt_or_ge g W.heap.size with h1 | h1
  · exact h1
  · simp [World.cell?, Array.getElem?_eq_none h1] at h
theorem asked_of_headG {W : World} {rest : List (String × DataW Unit)} (h : laidMet Tryd.prog (("logjam/need.asked", Rows.laid_logjam_need_asked) :: rest) W) : ∀ j, j < 6 → W.cell? ⟨0, j, none⟩ = some (.int .i64 (askedE.getD j 0)) := by
  have hT : Lib.TabIs Tryd.prog W "logjam/need.asked" .i64 askedE :=
    Lib.tabIs_of_head gAskedG gAskedGType Tryd.underlying125 Tryd.underlying3 intCellsG askedGCells (zs := askedE) h
  intro j hj
  exact hT.cell gAskedG j hj
theorem of_laidG {W : World} (h : laidMetH Tryd.prog laidG W) : Okp W := by
  rw [MakeChecks.laidMetH_plain _ _ _ (by kernel_rfl)] at h
  have h2 := laidMet.tail h
  have h3 := laidMet.tail h2
  have ha := asked_of_headG h3
  exact ⟨Go.Proofs.YtahejekcfgkiaaaDoor.oper.tab_of_head h, Go.Proofs.YtahejekcfgkiaaaDoor.objs.tabd_of_head h2, ⟨ha, lt_of_cellG (ha 0 (by omega))⟩⟩

/-- The door's own heap meets the condition: three closed facts. -/
theorem door_metG (os : Go.Os) (args : Array Value) : laidMetH Tryd.prog laidG ((World.doorLaid Tryd.prog 24 os).forCall (fun _ _ => 0) ⟨#[], args, []⟩).memory :=
  laidMetH_of_parts3 (fuel := 8) (laidMet_of_run' 8 (by kernel_rfl) (by kernel_rfl)) (by kernel_rfl) (by kernel_rfl)
end Go.Proofs.YtahejekcfgkiaaaDoor.pgm
