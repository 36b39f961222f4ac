/-
  Texts of one claim in one file: GOnce, EOwn, GMem, GRefFn, EInt, ERefPut, DRefPut, GRefPut, OutKeep, JCheck, Lives, JPut, DBox, GRaw, DFit, DOne, DCheck, ENeed, ERefCheck, BPlain. Each has its own sentence, with its conditions.
-/
import Derived.Test.YtahejekcfgkiaaaDoorOall2
import Derived.Test.YtahejekcfgkiaaaDoorOall1
import Derived.StillTailTactics
import Derived.Laws.BitsAllLaws
/-
  What was got of bytes, put, is just the bytes that it had, and no bytes that end sooner are a program's. Plain mathematics; no condition.
-/
namespace Go.Proofs.YtahejekcfgkiaaaDoor.pgm
open Go.Proofs.YtahejekcfgkiaaaDoor.octet (St rdByte rdNum num num_length_le enc_length_pos)
open Go.Proofs.YtahejekcfgkiaaaDoor.objs (De zero rdNum_back rdNum_once rdNum_err)
set_option linter.unusedVariables false

theorem rdMany_once {L : List UInt8} {most : Nat} (h : (rdMany ⟨L, 0⟩ most).2.2 = 0) : L = num (rdMany ⟨L, 0⟩ most).1 ++ (rdMany ⟨L, 0⟩ most).2.1.rest ∧ (rdMany ⟨L, 0⟩ most).2.1.err = 0 ∧ (rdMany ⟨L, 0⟩ most).1 ≤ most := by
  unfold rdMany at h ⊢
  split at h
  · cases h
  · rename_i h1
    rw [if_neg h1]
    exact ⟨rdNum_once h, h, by dsimp only; omega⟩
theorem readL_once {L : List UInt8} (h : (Go.Proofs.YtahejekcfgkiaaaDoor.objs.readL ⟨L, 0⟩).2.2 = 0) : (Go.Proofs.YtahejekcfgkiaaaDoor.objs.chk (Go.Proofs.YtahejekcfgkiaaaDoor.objs.readL ⟨L, 0⟩).1).2 = 0 ∧ L = Go.Proofs.YtahejekcfgkiaaaDoor.objs.encL (Go.Proofs.YtahejekcfgkiaaaDoor.objs.readL ⟨L, 0⟩).1 ++ (Go.Proofs.YtahejekcfgkiaaaDoor.objs.readL ⟨L, 0⟩).2.1.rest ∧ (Go.Proofs.YtahejekcfgkiaaaDoor.objs.readL ⟨L, 0⟩).2.1.err = 0 := by
  unfold Go.Proofs.YtahejekcfgkiaaaDoor.objs.readL at h ⊢
  dsimp only at h ⊢
  by_cases h1 : (Go.Proofs.YtahejekcfgkiaaaDoor.objs.rdN ⟨L, 0⟩).2.err ≠ 0
  · simp only [if_pos h1] at h; exact absurd h h1
  · simp only [if_neg h1] at h ⊢
    by_cases h2 : 32 < (Go.Proofs.YtahejekcfgkiaaaDoor.objs.rdN ⟨L, 0⟩).1
    · simp only [if_pos h2] at h; cases h
    · simp only [if_neg h2] at h ⊢
      have hn := Go.Proofs.YtahejekcfgkiaaaDoor.objs.rdN_once (l := L) (by omega) (by omega)
      generalize Go.Proofs.YtahejekcfgkiaaaDoor.objs.rdN ⟨L, 0⟩ = q at *
      obtain ⟨n, ⟨R, E⟩⟩ := q
      dsimp only at h h1 h2 hn ⊢
      obtain rfl : E = 0 := by omega
      by_cases h3 : (Go.Proofs.YtahejekcfgkiaaaDoor.objs.rdL ⟨R, 0⟩ n.toNat).2.2 ≠ 0
      · simp only [if_pos h3] at h; exact absurd h h3
      · simp only [if_neg h3] at h ⊢
        by_cases h4 : (Go.Proofs.YtahejekcfgkiaaaDoor.objs.chk (Go.Proofs.YtahejekcfgkiaaaDoor.objs.rdL ⟨R, 0⟩ n.toNat).1).2 ≠ 0
        · simp only [if_pos h4] at h; exact absurd h h4
        · simp only [if_neg h4] at h ⊢
          have hlen := Go.Proofs.YtahejekcfgkiaaaDoor.objs.rdL_length n.toNat (by omega : (Go.Proofs.YtahejekcfgkiaaaDoor.objs.rdL ⟨R, 0⟩ n.toNat).2.2 = 0)
          obtain ⟨hl, _, hall⟩ := Go.Proofs.YtahejekcfgkiaaaDoor.objs.chk_zero (by omega : (Go.Proofs.YtahejekcfgkiaaaDoor.objs.chk (Go.Proofs.YtahejekcfgkiaaaDoor.objs.rdL ⟨R, 0⟩ n.toNat).1).2 = 0)
          have ho := Go.Proofs.YtahejekcfgkiaaaDoor.objs.rdL_once hl n.toNat R (by omega) (fun i hi => hall i (by omega))
          refine ⟨by omega, ?_, ho.2⟩
          unfold Go.Proofs.YtahejekcfgkiaaaDoor.objs.encL
          rw [hlen, List.append_assoc, ← ho.1]
          exact hn
theorem readW_once {d : List De} {L : List UInt8} (hd : (Go.Proofs.YtahejekcfgkiaaaDoor.objs.chk d).2 = 0) (h : (Go.Proofs.YtahejekcfgkiaaaDoor.need.readW d ⟨L, 0⟩).2.2 = 0) : L = Go.Proofs.YtahejekcfgkiaaaDoor.need.encW (Go.Proofs.YtahejekcfgkiaaaDoor.need.readW d ⟨L, 0⟩).1 ++ (Go.Proofs.YtahejekcfgkiaaaDoor.need.readW d ⟨L, 0⟩).2.1.rest ∧ (Go.Proofs.YtahejekcfgkiaaaDoor.need.readW d ⟨L, 0⟩).2.1.err = 0 := by
  unfold Go.Proofs.YtahejekcfgkiaaaDoor.need.readW at h ⊢
  dsimp only at h ⊢
  by_cases h2 : 4 < (rdNum ⟨L, 0⟩).1
  · simp only [if_pos h2] at h; cases h
  · simp only [if_neg h2] at h ⊢
    by_cases h1 : (rdNum ⟨L, 0⟩).2.err ≠ 0
    · simp only [if_pos h1] at h; exact absurd h h1
    · simp only [if_neg h1] at h ⊢
      have hn := rdNum_once (l := L) (by omega)
      generalize rdNum ⟨L, 0⟩ = q at *
      obtain ⟨n, ⟨R, E⟩⟩ := q
      dsimp only at h h1 h2 hn ⊢
      obtain rfl : E = 0 := by omega
      by_cases h3 : (Go.Proofs.YtahejekcfgkiaaaDoor.need.rdWays ⟨R, 0⟩ n).2.2 ≠ 0
      · simp only [if_pos h3] at h; exact absurd h h3
      · simp only [if_neg h3] at h ⊢
        by_cases h4 : Go.Proofs.YtahejekcfgkiaaaDoor.need.chkW d (Go.Proofs.YtahejekcfgkiaaaDoor.need.rdWays ⟨R, 0⟩ n).1 ≠ 0
        · simp only [if_pos h4] at h; exact absurd h h4
        · simp only [if_neg h4] at h ⊢
          have hlen := Go.Proofs.YtahejekcfgkiaaaDoor.need.rdWays_length n (by omega : (Go.Proofs.YtahejekcfgkiaaaDoor.need.rdWays ⟨R, 0⟩ n).2.2 = 0)
          obtain ⟨_, _, hall⟩ := Go.Proofs.YtahejekcfgkiaaaDoor.need.chkW_zero (by omega : Go.Proofs.YtahejekcfgkiaaaDoor.need.chkW d (Go.Proofs.YtahejekcfgkiaaaDoor.need.rdWays ⟨R, 0⟩ n).1 = 0)
          have ho := Go.Proofs.YtahejekcfgkiaaaDoor.need.rdWays_once hd n R (by omega) (fun l hl => (hall l hl).2.2)
          refine ⟨?_, ho.2⟩
          unfold Go.Proofs.YtahejekcfgkiaaaDoor.need.encW
          rw [hlen, List.append_assoc, ← ho.1]
          exact hn
/-- What reads an instruction reads just what was put, and of what it read the bytes are just those. -/
structure Reads (rdI : St → De × St × Nat) : Prop where
  back : ∀ x, chkI x = 0 → ∀ more, rdI ⟨encIn x ++ more, 0⟩ = (x, ⟨more, 0⟩, 0)
  once : ∀ L, (rdI ⟨L, 0⟩).2.2 = 0 → L = encIn (rdI ⟨L, 0⟩).1 ++ (rdI ⟨L, 0⟩).2.1.rest ∧ (rdI ⟨L, 0⟩).2.1.err = 0
theorem rdFn_once {rdI : St → De × St × Nat} (hI : Reads rdI) {L : List UInt8} (he : (rdFn rdI ⟨L, 0⟩).2.2 = 0) (h : chkFn (rdFn rdI ⟨L, 0⟩).1 = 0) : L = encFn (rdFn rdI ⟨L, 0⟩).1 ++ (rdFn rdI ⟨L, 0⟩).2.1.rest ∧ (rdFn rdI ⟨L, 0⟩).2.1.err = 0 := by
  unfold rdFn at he h ⊢
  dsimp only at he h ⊢
  by_cases h1 : (rdNum (rdNum ⟨L, 0⟩).2).2.err ≠ 0
  · rw [if_pos h1] at he; exact absurd he h1
  · rw [if_neg h1] at he h ⊢
    by_cases h2 : (rdMany (rdNum (rdNum ⟨L, 0⟩).2).2 200).2.2 ≠ 0
    · rw [if_pos h2] at he; exact absurd he h2
    · rw [if_neg h2] at he h ⊢
      by_cases h3 : (rdAll rdI (rdMany (rdNum (rdNum ⟨L, 0⟩).2).2 200).2.1 (rdMany (rdNum (rdNum ⟨L, 0⟩).2).2 200).1).2.2 ≠ 0
      · rw [if_pos h3] at he; exact absurd he h3
      · rw [if_neg h3] at h ⊢
        dsimp only at h ⊢
        obtain ⟨⟨g1, g2, g3⟩, _, _, _⟩ := chkFn_zero h
        dsimp only at g1 g2 g3
        clear h he
        have hA : (rdNum ⟨L, 0⟩).2.err = 0 := by
          rcases Nat.eq_zero_or_pos (rdNum ⟨L, 0⟩).2.err with e | e
          · exact e
          · rw [rdNum_err (by omega)] at h1; omega
        have ha := rdNum_once hA
        generalize rdNum ⟨L, 0⟩ = q at *
        obtain ⟨a, ⟨R, E⟩⟩ := q
        dsimp only at hA ha h1 h2 h3 g1 g2 g3 ⊢
        subst hA
        have hb := rdNum_once (l := R) (by omega)
        generalize rdNum ⟨R, 0⟩ = q at *
        obtain ⟨b, ⟨R2, E⟩⟩ := q
        dsimp only at hb h1 h2 h3 g1 g2 g3 ⊢
        obtain rfl : E = 0 := by omega
        obtain ⟨hn, hn0, _⟩ := rdMany_once (L := R2) (most := 200) (by omega)
        generalize rdMany ⟨R2, 0⟩ 200 = q at *
        obtain ⟨n, ⟨R3, E⟩, e3⟩ := q
        dsimp only at hn hn0 h2 h3 ⊢
        subst hn0
        have hq := rdAll_once (rd := rdI) (e := encIn) (d := zero) (ok := fun _ => True) (fun L2 h2 _ => hI.once L2 h2) n R3 (by omega) (fun _ _ => trivial)
        have hlen := rdAll_length n (by omega : (rdAll rdI ⟨R3, 0⟩ n).2.2 = 0)
        refine ⟨?_, hq.2⟩
        unfold encFn
        dsimp only
        rw [hlen]
        simp only [List.append_assoc]
        rw [← hq.1, ← hn]
        have e1 : ((min a 2147483648 : Nat) : Int).toNat = a := by omega
        have e2 : ((min b 2147483648 : Nat) : Int).toNat = b := by omega
        rw [e1, e2, ← hb, ← ha]
theorem once {rdI : St → De × St × Nat} (hI : Reads rdI) {t : List UInt8} (h : (readP rdI t).2 = 0) : chkP (readP rdI t).1 = 0 ∧ encP (readP rdI t).1 = t := by
  unfold readP at h ⊢
  dsimp only at h ⊢
  by_cases h0 : t.take 3 ≠ [76, 74, 1]
  · rw [if_pos h0] at h; cases h
  · rw [if_neg h0] at h ⊢
    have h0' : t.take 3 = [76, 74, 1] := Classical.byContradiction h0
    have ht : t = [76, 74, 1] ++ t.drop 3 := by rw [← h0', List.take_append_drop]
    clear h0 h0'
    generalize t.drop 3 = r at *
    by_cases h1 : (Go.Proofs.YtahejekcfgkiaaaDoor.objs.readL ⟨r, 0⟩).2.2 ≠ 0
    · rw [if_pos h1] at h; exact absurd h h1
    · rw [if_neg h1] at h ⊢
      obtain ⟨hl0, hl, hle⟩ := readL_once (L := r) (by omega)
      generalize Go.Proofs.YtahejekcfgkiaaaDoor.objs.readL ⟨r, 0⟩ = q at *
      obtain ⟨ds, ⟨R, E⟩, e1⟩ := q
      dsimp only at h h1 hl0 hl hle ⊢
      subst hle
      by_cases h2 : (rdMany ⟨R, 0⟩ 32).2.2 ≠ 0
      · rw [if_pos h2] at h; exact absurd h h2
      · rw [if_neg h2] at h ⊢
        obtain ⟨hn, hn0, _⟩ := rdMany_once (L := R) (most := 32) (by omega)
        generalize rdMany ⟨R, 0⟩ 32 = q at *
        obtain ⟨n, ⟨R2, E⟩, e2⟩ := q
        dsimp only at h hn hn0 h2 ⊢
        subst hn0
        by_cases h3 : (rdAll (Go.Proofs.YtahejekcfgkiaaaDoor.need.readW ds) ⟨R2, 0⟩ n).2.2 ≠ 0
        · rw [if_pos h3] at h; exact absurd h h3
        · rw [if_neg h3] at h ⊢
          have hw := rdAll_once (rd := Go.Proofs.YtahejekcfgkiaaaDoor.need.readW ds) (e := Go.Proofs.YtahejekcfgkiaaaDoor.need.encW) (d := []) (ok := fun _ => True) (fun L2 h2 _ => readW_once hl0 h2) n R2 (by omega) (fun _ _ => trivial)
          have hwl := rdAll_length n (by omega : (rdAll (Go.Proofs.YtahejekcfgkiaaaDoor.need.readW ds) ⟨R2, 0⟩ n).2.2 = 0)
          generalize rdAll (Go.Proofs.YtahejekcfgkiaaaDoor.need.readW ds) ⟨R2, 0⟩ n = q at *
          obtain ⟨ws, ⟨R3, E⟩, e3⟩ := q
          dsimp only at h hw hwl h3 ⊢
          obtain ⟨hw, hw0⟩ := hw
          subst hw0
          by_cases h4 : (rdMany ⟨R3, 0⟩ 16).2.2 ≠ 0
          · rw [if_pos h4] at h; exact absurd h h4
          · rw [if_neg h4] at h ⊢
            obtain ⟨hm, hm0, _⟩ := rdMany_once (L := R3) (most := 16) (by omega)
            generalize rdMany ⟨R3, 0⟩ 16 = q at *
            obtain ⟨m, ⟨R4, E⟩, e4⟩ := q
            dsimp only at h hm hm0 h4 ⊢
            subst hm0
            by_cases h5 : (rdAll (rdFn rdI) ⟨R4, 0⟩ m).2.2 ≠ 0
            · rw [if_pos h5] at h; exact absurd h h5
            · rw [if_neg h5] at h ⊢
              by_cases h6 : (rdAll (rdFn rdI) ⟨R4, 0⟩ m).2.1.rest ≠ []
              · rw [if_pos h6] at h; cases h
              · rw [if_neg h6] at h ⊢
                by_cases h7 : chkP ⟨ds, ws, (rdAll (rdFn rdI) ⟨R4, 0⟩ m).1⟩ ≠ 0
                · rw [if_pos h7] at h; exact absurd h h7
                · rw [if_neg h7]
                  dsimp only
                  have h7' : chkP ⟨ds, ws, (rdAll (rdFn rdI) ⟨R4, 0⟩ m).1⟩ = 0 := by omega
                  have h6' : (rdAll (rdFn rdI) ⟨R4, 0⟩ m).2.1.rest = [] := Classical.byContradiction h6
                  obtain ⟨_, _, _, _, _, hall⟩ := chkP_zero h7'
                  have hf := (rdAll_once (rd := rdFn rdI) (e := encFn) (d := Fn.zero) (ok := fun f => chkFn f = 0) (fun L2 h2 h3 => rdFn_once hI h2 h3) m R4 (by omega) hall).1
                  have hfl := rdAll_length m (by omega : (rdAll (rdFn rdI) ⟨R4, 0⟩ m).2.2 = 0)
                  refine ⟨h7', ?_⟩
                  rw [h6', List.append_nil] at hf
                  unfold encP
                  dsimp only
                  rw [hwl, hfl, ← hf, ← hm, ← hw, ← hn, ← hl, ← ht]
/-- No bytes that end sooner are a program's. -/
theorem sooner {rdI : St → De × St × Nat} (hI : Reads rdI) {p : Pg} (h : chkP p = 0) {s more : List UInt8} (hs : encP p = s ++ more) (hm : more ≠ []) : (readP rdI s).2 ≠ 0 := by
  intro hz
  obtain ⟨h1, h2⟩ := once hI hz
  have h3 := back hI.back h1 more
  rw [h2, ← hs, if_pos hm] at h3
  have h4 := back hI.back h []
  rw [List.append_nil, h3, if_neg (by simp)] at h4
  cases h4
theorem got_bad {rdI : St → De × St × Nat} {t : List UInt8} (h : (readP rdI t).2 ≠ 0) : (readP rdI t).1 = Pg.none := by
  unfold readP at h ⊢
  dsimp only at h ⊢
  split
  · rfl
  · split
    · rfl
    · split
      · rfl
      · split
        · rfl
        · split
          · rfl
          · split
            · rfl
            · split
              · rfl
              · split
                · rfl
                · rename_i a1 a2 a3 a4 a5 a6 a7 a8
                  rw [if_neg a1, if_neg a2, if_neg a3, if_neg a4, if_neg a5, if_neg a6, if_neg a7, if_neg a8] at h
                  exact absurd rfl h
end Go.Proofs.YtahejekcfgkiaaaDoor.pgm

/-
  What the statements make of their own arguments: objects and waits in memory of their own, and whether objects may be. No condition but that lengths are ints.
-/
namespace Go.Proofs.YtahejekcfgkiaaaDoor.need
open Go.RowKit Go.ChangeShapes
open Go.Proofs.YtahejekcfgkiaaaDoor.objs (De zero CellsAt DAt chk chk_long chk_zero Own own_new own_copy wpList_appD LIn Ints I64 ChkPost)
set_option linter.unusedVariables false

def DeclPost (l : List De) (w : World) (e : Ending) (w' : World) : Prop := ∃ A2 c2, e = .returned (.slice A2 l.length c2) ∧ DAt w' A2 l ∧ Below w.heap.size w w'
def BadPost (l : List De) (w : World) (e : Ending) (w' : World) : Prop := e = .returned (.bool (decide ((chk l).2 ≠ 0))) ∧ Below w.heap.size w w'
/-- A wait that came in: the first six of its ways, of each the first six needs, all of ints. -/
def WIn (w : World) (A : Option Addr) (n cap : Nat) (l : List (List De)) : Prop := (A = none → n = 0 ∧ cap = 0) ∧ n ≤ cap ∧ cap ≤ 9223372036854775807 ∧ WG w A n l ∧ ∀ x ∈ l, ∀ t ∈ x, Small t
theorem OwnW.whole {W : World} {base n cap : Nat} {A : Option Addr} {l : List (List De)} (h : OwnW W base (.slice A n cap) l) (hl : l.length ≤ 6) (hll : ∀ x ∈ l, x.length ≤ 6) : WG W A l.length l := by
  refine ⟨by omega, fun j hj => ?_⟩
  obtain ⟨xs, h1, h2⟩ := h
  obtain ⟨x, h3, h4⟩ := h2 j hj
  have h6 := hll _ (getW_mem hj)
  rcases h1.2 with ⟨e, h0⟩ | ⟨g, cap', cur, e, hb, hh, _⟩
  · omega
  · injection e with e1 e2 e3
    subst e1
    have hcell : W.cell? ⟨g, 0 + j, none⟩ = some x := by
      have := World.ownsRow.cells h1 (g := g) rfl _ _ h3
      rwa [Addr.add_lit] at this
    rcases h4.2 with ⟨rfl, h0⟩ | ⟨g', c', cur', rfl, hb', hh', hn, hm, _⟩
    · refine ⟨g, 0, none, 0, 0, rfl, lt_of_block hh, hcell, ?_, by omega, Nat.le_refl _, by omega, fun _ => ⟨rfl, rfl⟩⟩
      have := List.length_eq_zero_iff.1 h0
      rw [this]
      exact Go.Proofs.YtahejekcfgkiaaaDoor.objs.DAt.nil _ _
    · refine ⟨g, 0, some ⟨g', 0, none⟩, (l.getD j []).length, c', rfl, lt_of_block hh, hcell, h4.at, by omega, hn, by simpa [maxLen] using hm, fun h => by cases h⟩
theorem WG.short {w : World} {A : Option Addr} {n : Nat} {l : List (List De)} (h : WG w A n l) : l.length ≤ 6 ∧ ∀ x ∈ l, x.length ≤ 6 := by
  refine ⟨by have := h.1; omega, fun x hx => ?_⟩
  obtain ⟨j, hj, rfl⟩ := List.getElem_of_mem hx
  obtain ⟨_, _, _, nj, _, _, _, _, _, h5, _⟩ := h.2 j hj
  rw [List.getD_eq_getElem?_getD, List.getElem?_eq_getElem hj, Option.getD_some] at h5
  omega
def OwnPost (l : List (List De)) (w : World) (e : Ending) (w' : World) : Prop := ∃ A2 c2, e = .returned (.slice A2 l.length c2) ∧ WAt w' A2 l ∧ WG w' A2 l.length l ∧ Below w.heap.size w w'
/-- The same, and that its rows are the call's own. -/
def OwnMore (l : List (List De)) (w : World) (e : Ending) (w' : World) : Prop := ∃ A2 c2, e = .returned (.slice A2 l.length c2) ∧ OwnW w' w.heap.size (.slice A2 l.length c2) l ∧ Below w.heap.size w w'
theorem ownN_new (W : World) : OwnN (W.alloc (.cells #[] 72)) W.heap.size (.slice (some ⟨W.heap.size, 0, none⟩) 0 0) [] := OwnN.empty (heap_alloc_new W _)
/-- Behind the copy of a way. -/
theorem ownN_copy {W W2 : World} {v2 : Value} {l : List De} {r : Option Nat} (h1 : OwnN W2 W.heap.size v2 l) (hg : (W.alloc (.cells #[] 72)).grownBy W2 r) (hr : ∀ k, r = some k → k = W.heap.size) : Below W.heap.size W W2 :=
  ((Below.refl _ W).alloc (Nat.le_refl _) _).grown hg (by simp) (fun k e => by rw [hr k e]; exact Nat.le_refl _)
theorem take_more {l : List (List De)} {j : Nat} (h : j < l.length) : l.take (j + 1) = l.take j ++ [l.getD j []] := by
  rw [List.take_add_one, List.getD_eq_getElem?_getD, List.getElem?_eq_getElem h]
  rfl

end Go.Proofs.YtahejekcfgkiaaaDoor.need

/-
  Functions, waits and programs as they lie in memory, wherever they came from. No condition.
-/
namespace Go.Proofs.YtahejekcfgkiaaaDoor.pgm
open Go.RowKit Go.ChangeShapes
open Go.Proofs.YtahejekcfgkiaaaDoor.objs (De zero DAt I64 Ints)
open Go.Proofs.YtahejekcfgkiaaaDoor.need (WAt WG WIn Small)
set_option linter.unusedVariables false

/-- The three cells of a function: its arguments, its locals, its code's slice. -/
def FCells (w : World) (b i : Nat) (ar lo : Int) (v : Value) : Prop := w.cell? ⟨b, i, none⟩ = some (.int .i64 ar) ∧ w.cell? ⟨b, i + 1, none⟩ = some (.int .i64 lo) ∧ w.cell? ⟨b, i + 2, none⟩ = some v
theorem FCells.keep {w w' : World} {b i : Nat} {ar lo : Int} {v : Value} (h : FCells w b i ar lo v) (hb : w'.heap[b]? = w.heap[b]?) : FCells w' b i ar lo v :=
  ⟨(World.cell?_of_block (a := ⟨b, i, none⟩) hb).trans h.1, (World.cell?_of_block (a := ⟨b, i + 1, none⟩) hb).trans h.2.1, (World.cell?_of_block (a := ⟨b, i + 2, none⟩) hb).trans h.2.2⟩
/-- Functions, one behind the other, from where a slice begins: all of each. -/
def FsAt (w : World) (A : Option Addr) (l : List Fn) : Prop :=
  ∀ j, j < l.length → ∃ b off Aj cj, A = some ⟨b, off, none⟩ ∧ b < w.heap.size ∧ FCells w b (off + j * 3) (l.getD j Fn.zero).ar (l.getD j Fn.zero).lo (.slice Aj (l.getD j Fn.zero).co.length cj) ∧ DAt w Aj (l.getD j Fn.zero).co
theorem FsAt.next {w w' : World} {A : Option Addr} {l : List Fn} (h : FsAt w A l) (hb : Below w.heap.size w w') : FsAt w' A l := fun j hj => by
  obtain ⟨b, off, Aj, cj, h1, h2, h3, h4⟩ := h j hj
  exact ⟨b, off, Aj, cj, h1, Nat.lt_of_lt_of_le h2 hb.size, h3.keep (hb.block b h2), h4.next hb⟩
theorem FsAt.nil (w : World) (A : Option Addr) : FsAt w A [] := fun j hj => absurd hj (Nat.not_lt_zero j)
/-- The first twenty functions of a slice, of each the first 250 instructions. -/
def FsG (w : World) (A : Option Addr) (n : Nat) (l : List Fn) : Prop :=
  l.length = min n 20 ∧ ∀ j, j < l.length → ∃ b off Aj nj cj, A = some ⟨b, off, none⟩ ∧ b < w.heap.size ∧ FCells w b (off + j * 3) (l.getD j Fn.zero).ar (l.getD j Fn.zero).lo (.slice Aj nj cj) ∧ DAt w Aj (l.getD j Fn.zero).co ∧ (l.getD j Fn.zero).co.length = min nj 250 ∧ nj ≤ cj ∧ cj ≤ 9223372036854775807 ∧ (Aj = none → nj = 0 ∧ cj = 0)
theorem FsG.next {w w' : World} {A : Option Addr} {n : Nat} {l : List Fn} (h : FsG w A n l) (hb : Below w.heap.size w w') : FsG w' A n l := ⟨h.1, fun j hj => by
  obtain ⟨b, off, Aj, nj, cj, h1, h2, h3, h4, h5⟩ := h.2 j hj
  exact ⟨b, off, Aj, nj, cj, h1, Nat.lt_of_lt_of_le h2 hb.size, h3.keep (hb.block b h2), h4.next hb, h5⟩⟩
/-- Waits, one behind the other, from where a slice begins: all of each. -/
def WsAt (w : World) (A : Option Addr) (l : List (List (List De))) : Prop :=
  ∀ j, j < l.length → ∃ b off Aj cj, A = some ⟨b, off, none⟩ ∧ b < w.heap.size ∧ w.cell? ⟨b, off + j, none⟩ = some (.slice Aj (l.getD j []).length cj) ∧ WAt w Aj (l.getD j [])
theorem WsAt.next {w w' : World} {A : Option Addr} {l : List (List (List De))} (h : WsAt w A l) (hb : Below w.heap.size w w') : WsAt w' A l := fun j hj => by
  obtain ⟨b, off, Aj, cj, h1, h2, h3, h4⟩ := h j hj
  exact ⟨b, off, Aj, cj, h1, Nat.lt_of_lt_of_le h2 hb.size, (hb.cell (p := ⟨b, off + j, none⟩) h2).trans h3, h4.next hb⟩
theorem WsAt.nil (w : World) (A : Option Addr) : WsAt w A [] := fun j hj => absurd hj (Nat.not_lt_zero j)
/-- The first forty waits of a slice, of each the first six ways, of each the first six needs. -/
def WsG (w : World) (A : Option Addr) (n : Nat) (l : List (List (List De))) : Prop :=
  l.length = min n 40 ∧ ∀ j, j < l.length → ∃ b off Aj nj cj, A = some ⟨b, off, none⟩ ∧ b < w.heap.size ∧ w.cell? ⟨b, off + j, none⟩ = some (.slice Aj nj cj) ∧ WG w Aj nj (l.getD j []) ∧ nj ≤ cj ∧ cj ≤ 9223372036854775807 ∧ (Aj = none → nj = 0 ∧ cj = 0)
theorem WsG.next {w w' : World} {A : Option Addr} {n : Nat} {l : List (List (List De))} (h : WsG w A n l) (hb : Below w.heap.size w w') : WsG w' A n l := ⟨h.1, fun j hj => by
  obtain ⟨b, off, Aj, nj, cj, h1, h2, h3, h4, h5⟩ := h.2 j hj
  exact ⟨b, off, Aj, nj, cj, h1, Nat.lt_of_lt_of_le h2 hb.size, (hb.cell (p := ⟨b, off + j, none⟩) h2).trans h3, h4.next hb, h5⟩⟩
/-- A program's value that is whole, and one that came in, of any length. -/
def PAt (w : World) (v : Value) (p : Pg) : Prop := ∃ A B C ca cb cc, v = .agg #[.slice A p.ds.length ca, .slice B p.ws.length cb, .slice C p.fs.length cc] ∧ DAt w A p.ds ∧ WsAt w B p.ws ∧ FsAt w C p.fs
theorem PAt.next {w w' : World} {v : Value} {p : Pg} (h : PAt w v p) (hb : Below w.heap.size w w') : PAt w' v p := by
  obtain ⟨A, B, C, ca, cb, cc, h1, h2, h3, h4⟩ := h
  exact ⟨A, B, C, ca, cb, cc, h1, h2.next hb, h3.next hb, h4.next hb⟩
def PG (w : World) (v : Value) (p : Pg) : Prop := ∃ A B C na nb nc ca cb cc, v = .agg #[.slice A na ca, .slice B nb cb, .slice C nc cc] ∧ p.ds.length = min na 40 ∧ DAt w A p.ds ∧ WsG w B nb p.ws ∧ FsG w C nc p.fs ∧ (A = none → na = 0 ∧ ca = 0) ∧ (B = none → nb = 0 ∧ cb = 0) ∧ (C = none → nc = 0 ∧ cc = 0) ∧ (na ≤ ca ∧ ca ≤ 9223372036854775807) ∧ (nb ≤ cb ∧ cb ≤ 9223372036854775807) ∧ (nc ≤ cc ∧ cc ≤ 9223372036854775807)
theorem PG.next {w w' : World} {v : Value} {p : Pg} (h : PG w v p) (hb : Below w.heap.size w w') : PG w' v p := by
  obtain ⟨A, B, C, na, nb, nc, ca, cb, cc, h1, h0, h2, h3, h4, h5⟩ := h
  exact ⟨A, B, C, na, nb, nc, ca, cb, cc, h1, h0, h2.next hb, h3.next hb, h4.next hb, h5⟩
/-- A program of which the first forty objects and waits, and the first twenty functions, lie there: the caps of its own lists are left open. -/
def PH (w : World) (v : Value) (p : Pg) : Prop := ∃ A B C na nb nc ca cb cc, v = .agg #[.slice A na ca, .slice B nb cb, .slice C nc cc] ∧ p.ds.length = min na 40 ∧ DAt w A p.ds ∧ WsG w B nb p.ws ∧ FsG w C nc p.fs ∧ na ≤ 9223372036854775807 ∧ nb ≤ 9223372036854775807 ∧ nc ≤ 9223372036854775807
theorem PH.next {w w' : World} {v : Value} {p : Pg} (h : PH w v p) (hb : Below w.heap.size w w') : PH w' v p := by
  obtain ⟨A, B, C, na, nb, nc, ca, cb, cc, h1, h0, h2, h3, h4, h5⟩ := h
  exact ⟨A, B, C, na, nb, nc, ca, cb, cc, h1, h0, h2.next hb, h3.next hb, h4.next hb, h5⟩
theorem PG.head {w : World} {v : Value} {p : Pg} (h : PG w v p) : PH w v p := by
  obtain ⟨A, B, C, na, nb, nc, ca, cb, cc, h1, h0, h2, h3, h4, _, _, _, h5, h6, h7⟩ := h
  exact ⟨A, B, C, na, nb, nc, ca, cb, cc, h1, h0, h2, h3, h4, by omega, by omega, by omega⟩
/-- One that may be is there whole. -/
theorem FsG.whole {w : World} {A : Option Addr} {n : Nat} {l : List Fn} (h : FsG w A n l) (hl : l.length ≤ 16) (hw : ∀ f ∈ l, f.co.length ≤ 200) : n = l.length ∧ FsAt w A l := by
  refine ⟨by have := h.1; omega, fun j hj => ?_⟩
  obtain ⟨b, off, Aj, nj, cj, h1, h2, h3, h4, h5, _, _, h6⟩ := h.2 j hj
  have hm := hw _ (getD_in (d := Fn.zero) hj)
  have : nj = (l.getD j Fn.zero).co.length := by omega
  subst this
  exact ⟨b, off, Aj, cj, h1, h2, h3, h4⟩
theorem WsG.whole {w : World} {A : Option Addr} {n : Nat} {l : List (List (List De))} (h : WsG w A n l) (hl : l.length ≤ 32) (hw : ∀ x ∈ l, x.length ≤ 4 ∧ ∀ y ∈ x, y.length ≤ 4) : n = l.length ∧ WsAt w A l := by
  refine ⟨by have := h.1; omega, fun j hj => ?_⟩
  obtain ⟨b, off, Aj, nj, cj, h1, h2, h3, h4, _⟩ := h.2 j hj
  have hm := hw _ (getD_in (d := []) hj)
  obtain ⟨e, h5⟩ := h4.whole (by omega) (fun y hy => by have := hm.2 y hy; omega)
  subst e
  exact ⟨b, off, Aj, cj, h1, h2, h3, h5⟩
theorem PG.whole {w : World} {v : Value} {p : Pg} (h : PG w v p) (hz : chkP p = 0) : PAt w v p := by
  obtain ⟨A, B, C, na, nb, nc, ca, cb, cc, rfl, h0, h2, h3, h4, a1, a2, a3, b1, b2, b3⟩ := h
  obtain ⟨g1, g2, g3, g4, g5, g6⟩ := chkP_zero hz
  have g0 := (Go.Proofs.YtahejekcfgkiaaaDoor.objs.chk_zero g1).1
  obtain rfl : na = p.ds.length := by omega
  obtain ⟨e1, h5⟩ := h3.whole g2 (fun x hx => by
    obtain ⟨_, q1, q2⟩ := Go.Proofs.YtahejekcfgkiaaaDoor.need.chkW_zero (g3 x hx)
    exact ⟨q1, fun y hy => (q2 y hy).2.1⟩)
  obtain ⟨e2, h6⟩ := h4.whole g5 (fun f hf => (chkFn_zero (g6 f hf)).2.2.1)
  subst e1
  subst e2
  exact ⟨A, B, C, ca, cb, cc, rfl, h2, h5, h6⟩
end Go.Proofs.YtahejekcfgkiaaaDoor.pgm

/-
  The document's own answer of what is wrong with a function. No condition.
-/
namespace Go.Proofs.YtahejekcfgkiaaaDoor.pgm
open Go.RowKit Go.ChangeShapes
open Go.Proofs.YtahejekcfgkiaaaDoor.objs (De zero DAt)

set_option linter.unusedVariables false

def NumPost (c : Nat) (w : World) (e : Ending) (w' : World) : Prop := e = .returned (.int .i64 (c : Nat)) ∧ Below w.heap.size w w'
def fnBox (ar lo : Int) (v : Value) : Obj := .cells #[.int .i64 ar, .int .i64 lo, v] 46
theorem fn_cells {w W : World} {ar lo : Int} {v : Value} (hb : Below (w.alloc (fnBox ar lo v)).heap.size (w.alloc (fnBox ar lo v)) W) : W.heap[w.heap.size]? = some (fnBox ar lo v) :=
  (hb.block _ (by rw [World.size_alloc]; omega)).trans (heap_alloc_new w _)

end Go.Proofs.YtahejekcfgkiaaaDoor.pgm

/-
  The document's decimals of any number. No condition but that it is an int.
-/
namespace Go.Proofs.YtahejekcfgkiaaaDoor.need
open Go.RowKit Go.ChangeShapes
open Go.Proofs.YtahejekcfgkiaaaDoor.octet (mk_append size_mk)
set_option linter.unusedVariables false

/-- A slice of one byte as a text. -/
theorem run_byte_at (v : World) (b : Nat) (x : Int) (c : UInt8) (hc : (c.toNat : Int) = x) (h : v.cell? ⟨b, 0, none⟩ = some (.int .u8 x)) :
    (convert 50 9 (.slice (some ⟨b, 0, none⟩) 1 1)).run Tryd.prog v = .ok (.string ⟨[c].toArray⟩) v := by
  refine run_convert_bytes_back _ 50 9 5 ⟨b, 0, none⟩ 1 [c] Tryd.underlying50 Tryd.underlying5 Tryd.underlying9 (fun j hj => ?_)
  have hj0 : j = 0 := by simpa using hj
  subst hj0
  rw [← hc] at h
  exact h
theorem ret_str {a b : ByteArray} (h : a = b) : Ending.returned (.string a) = .returned (.string b) := by rw [h]
theorem ret_text {a b : List UInt8} (h : a = b) : Ending.returned (.string ⟨a.toArray⟩) = .returned (.string ⟨b.toArray⟩) := by rw [h]

theorem intT_least : intT (-9223372036854775808) = [45, 57, 50, 50, 51, 51, 55, 50, 48, 51, 54, 56, 53, 52, 55, 55, 53, 56, 48, 56] := by
  unfold intT
  rw [if_pos (by omega)]
  have e : (-(-9223372036854775808 : Int)).toNat = 9223372036854775808 := rfl
  rw [e]
  rw [digs_big (by decide), digs_big (by decide), digs_big (by decide), digs_big (by decide), digs_big (by decide), digs_big (by decide), digs_big (by decide), digs_big (by decide), digs_big (by decide), digs_big (by decide), digs_big (by decide), digs_big (by decide), digs_big (by decide), digs_big (by decide), digs_big (by decide), digs_big (by decide), digs_big (by decide), digs_big (by decide), digs_small (by decide)]
  rfl
end Go.Proofs.YtahejekcfgkiaaaDoor.need

/-
  The document's own bytes of a wait. No condition but that its numbers are small.
-/
namespace Go.Proofs.YtahejekcfgkiaaaDoor.need
open Go.RowKit Go.ChangeShapes
open Go.Proofs.YtahejekcfgkiaaaDoor.octet (mk_append size_mk num num_length_le Fits)
open Go.Proofs.YtahejekcfgkiaaaDoor.objs (De zero CellsAt DAt)
set_option linter.unusedVariables false

/-- What the bytes of a need ask of its numbers. -/
def Slim9 (n : De) : Prop := (1 ≤ n.1 ∧ n.1 ≤ 5) ∧ (0 ≤ n.2.1 ∧ n.2.1 ≤ 1000) ∧ (0 ≤ n.2.2 ∧ n.2.2 ≤ 1000)
/-- While a need is put: the wait, and the need that is put, in a block of its own. -/
structure P9 (w : World) (A : Option Addr) (l : List (List De)) (g : Nat) (k a b : Int) (W : World) : Prop where
  list : WAt W A l
  below : Below w.heap.size w W
  box : W.heap[g]? = some (needBox k a b)
theorem P9.next {w W W' : World} {A : Option Addr} {l : List (List De)} {g : Nat} {k a b : Int} (h : P9 w A l g k a b W) (hb : Below W.heap.size W W') : P9 w A l g k a b W' :=
  ⟨h.list.next hb, h.below.trans (hb.mono h.below.size), (hb.block g (lt_of_block h.box)).trans h.box⟩
theorem P9.cells {w W : World} {A : Option Addr} {l : List (List De)} {g : Nat} {k a b : Int} (h : P9 w A l g k a b W) :
    W.cell? ⟨g, 0, none⟩ = some (.int .i64 k) ∧ W.cell? ⟨g, 1, none⟩ = some (.int .i64 a) ∧ W.cell? ⟨g, 2, none⟩ = some (.int .i64 b) := by
  unfold World.cell?
  rw [h.box]
  exact ⟨rfl, rfl, rfl⟩
theorem p9_new {w wr : World} {A : Option Addr} {l : List (List De)} (k a b : Int) (hA : WAt wr A l) (hb : Below w.heap.size w wr) : P9 w A l wr.heap.size k a b (wr.alloc (needBox k a b)) :=
  ⟨hA.next ((Below.refl _ _).alloc (Nat.le_refl _) _), hb.alloc hb.size _, heap_alloc_new wr _⟩

end Go.Proofs.YtahejekcfgkiaaaDoor.need

/-
  The document's own bytes of objects that may be. No condition but that they may be.
-/
namespace Go.Proofs.YtahejekcfgkiaaaDoor.objs
open Go.RowKit Go.ChangeShapes
open Go.Proofs.YtahejekcfgkiaaaDoor.octet (run_one mk_append size_mk num zig num_length_le Fits)
open Go.Proofs.YtahejekcfgkiaaaDoor.word (Word)
set_option linter.unusedVariables false

/-- While objects are put: the list, and the one that is put, in a block of its own. -/
structure PS (w : World) (A : Option Addr) (l : List De) (g : Nat) (k a b : Int) (W : World) : Prop where
  list : DAt W A l
  below : Below w.heap.size w W
  box : W.heap[g]? = some (declBox k a b)
  old : w.heap.size ≤ g
theorem PS.next {w W W' : World} {A : Option Addr} {l : List De} {g : Nat} {k a b : Int} (h : PS w A l g k a b W) (hb : Below W.heap.size W W') : PS w A l g k a b W' :=
  ⟨h.list.next hb, h.below.trans (hb.mono h.below.size), (hb.block g (lt_of_block h.box)).trans h.box, h.old⟩
theorem PS.cells {w W : World} {A : Option Addr} {l : List De} {g : Nat} {k a b : Int} (h : PS w A l g k a b W) :
    W.cell? ⟨g, 0, none⟩ = some (.int .i64 k) ∧ W.cell? ⟨g, 1, none⟩ = some (.int .i64 a) ∧ W.cell? ⟨g, 2, none⟩ = some (.int .i64 b) := by
  have := h.box
  unfold World.cell?
  rw [this]
  exact ⟨rfl, rfl, rfl⟩
theorem ps_new {w wr : World} {A : Option Addr} {l : List De} {k a b : Int} (hA : DAt wr A l) (hb : Below w.heap.size w wr) : PS w A l wr.heap.size k a b (wr.alloc (declBox k a b)) :=
  ⟨hA.next ((Below.refl _ _).alloc (Nat.le_refl _) _), hb.alloc hb.size _, heap_alloc_new wr _, hb.size⟩

/-- The first part of the bytes, the kind's one, and a number's. -/
def PutInv (w : World) (A : Option Addr) (l : List De) (t i : Value) (wr : World) : Prop :=
  ∃ j : Nat, j ≤ l.length ∧ i = .int .i64 (j : Int) ∧ t = .string ⟨(num l.length ++ encs l j).toArray⟩ ∧ Hid (DAt wr A l ∧ Below w.heap.size w wr)

end Go.Proofs.YtahejekcfgkiaaaDoor.objs

/-
  The document's own bytes of a program that may be. No condition but that it may be.
-/
namespace Go.Proofs.YtahejekcfgkiaaaDoor.pgm
open Go.RowKit Go.ChangeShapes
open Go.Proofs.YtahejekcfgkiaaaDoor.octet (mk_append size_mk num num_length_le Fits)
open Go.Proofs.YtahejekcfgkiaaaDoor.objs (De zero DAt encL encL_le)
open Go.Proofs.YtahejekcfgkiaaaDoor.need (WAt encW encWs_le chkW chkW_zero)
set_option linter.unusedVariables false

theorem slim_of9 {d : List De} {l : List (List De)} (hd : (Go.Proofs.YtahejekcfgkiaaaDoor.objs.chk d).2 = 0) (h : chkW d l = 0) : ∀ x ∈ l, ∀ t ∈ x, Go.Proofs.YtahejekcfgkiaaaDoor.need.Slim9 t := fun x hx t ht => by
  obtain ⟨h1, h2, _, h4, h5⟩ := Go.Proofs.YtahejekcfgkiaaaDoor.need.need_small hd ((chkW_zero h).2.2 x hx |>.2.2 t ht)
  exact ⟨h1, by omega, by omega⟩
theorem encW_le {w : List (List De)} (h : w.length ≤ 4) (h2 : ∀ x ∈ w, x.length ≤ 4) : (encW w).length ≤ 554 := by
  have h1 := num_length_le w.length
  have h3 := encWs_le (w := w) (fun x hx => by have := h2 x hx; omega) w.length (Nat.le_refl _)
  simp only [encW, List.length_append]
  omega
theorem encIn_le (x : De) : (encIn x).length ≤ 21 := Go.Proofs.YtahejekcfgkiaaaDoor.inst.encI_le x.1 x.2.1 x.2.2
theorem encFn_le {f : Fn} (h : f.co.length ≤ 200) : (encFn f).length ≤ 4230 := by
  have h1 := num_length_le f.ar.toNat
  have h2 := num_length_le f.lo.toNat
  have h3 := num_length_le f.co.length
  have h4 := encAll_le (e := encIn) (d := zero) (l := f.co) (c := 21) (fun x _ => encIn_le x) f.co.length (Nat.le_refl _)
  simp only [encFn, List.length_append]
  omega

/-- A region that draws its order, whose operations only read and whose callees leave the world in a class of our own. -/
theorem wp_region_cls {P : Program} {C : World → Prop} {id : Nat} {Q : Exit → Act → World → Prop} {a : Act} {w : World} {l : List Oper} (hm : P.follows .mixedOrders = true) (hB : Region.lexB .any l.toArray = true) (hC : C { w with drawn := w.drawn + 1 })
    (h : wpQuiet P l.toArray C (fun a' => ∀ w', C w' → Q .normal a' w') l a) : (Code.region id l.toArray true).wp P Q a w :=
  wp_region_quiet (C := C) hm hB hC (by simpa using h)
/-- While a function is put: it stands in a block of its own. -/
structure PF (w W0 : World) (g : Nat) (a l : Int) (A : Option Addr) (n c : Nat) (co : List De) (W : World) : Prop where
  below : Below (w.heap.size + 1) W0 W
  size : w.heap.size + 1 ≤ W.heap.size
  box : W.heap[g]? = some (fnBox a l (.slice A n c))
  code : DAt W A co
theorem PF.next {w W0 W W' : World} {g : Nat} {a l : Int} {A : Option Addr} {n c : Nat} {co : List De} (h : PF w W0 g a l A n c co W) (hb : Below W.heap.size W W') : PF w W0 g a l A n c co W' :=
  ⟨h.below.trans (hb.mono h.size), Nat.le_trans h.size hb.size, (hb.block g (lt_of_block h.box)).trans h.box, h.code.next hb⟩
theorem PF.drew {w W0 W : World} {g : Nat} {a l : Int} {A : Option Addr} {n c : Nat} {co : List De} (h : PF w W0 g a l A n c co W) : PF w W0 g a l A n c co W.drew := ⟨h.below.drew, h.size, h.box, h.code.drew⟩
theorem PF.cells {w W0 W : World} {g : Nat} {a l : Int} {A : Option Addr} {n c : Nat} {co : List De} (h : PF w W0 g a l A n c co W) :
    W.cell? ⟨g, 0, none⟩ = some (.int .i64 a) ∧ W.cell? ⟨g, 1, none⟩ = some (.int .i64 l) ∧ W.cell? ⟨g, 2, none⟩ = some (.slice A n c) := by
  unfold World.cell?
  rw [h.box]
  exact ⟨rfl, rfl, rfl⟩

end Go.Proofs.YtahejekcfgkiaaaDoor.pgm

/-
  The writer's calls once more, with what else stays as it was: every block that holds no bytes and is not the writer itself. No condition but that the bytes are fewer than a slice can hold.
-/
namespace Go.Proofs.YtahejekcfgkiaaaDoor.octet
open Go.RowKit Go.ChangeShapes
set_option linter.unusedVariables false

/-- A block that is no row of bytes. -/
def NoBytes (o : Obj) : Prop := ∀ cur q, o ≠ .cells cur 5 q
/-- What holds no bytes, and is not at bo, has stayed. -/
def Spare (bo : Nat) (w w' : World) : Prop := ∀ k o, w.heap[k]? = some o → k ≠ bo → NoBytes o → w'.heap[k]? = some o
theorem Spare.refl (bo : Nat) (w : World) : Spare bo w w := fun _ _ h _ _ => h
theorem Spare.trans {bo : Nat} {a b c : World} (h : Spare bo a b) (k : Spare bo b c) : Spare bo a c := fun i o h1 h2 h3 => k i o (h i o h1 h2 h3) h2 h3
theorem Spare.store {base bo : Nat} {l xs : List Value} {n : Nat} {w W w1 : World} {v v' : Value} (hown : w.ownsRow base 5 1 v n xs) (hW : ∀ k, k < w.heap.size → W.heap[k]? = w.heap[k]?) (hs : w.heap.size ≤ W.heap.size) (hg : W.grownBy w1 v.ownBlock) : Spare bo w (w1.setCell ⟨bo, 0, none⟩ v') := by
  intro k o h1 h2 h3
  have hlt := lt_of_block h1
  have hne : some k ≠ v.ownBlock := by
    intro e
    rcases hown.2 with ⟨rfl, _⟩ | ⟨g, cap, cur, rfl, _, hh, _⟩
    · cases e
    · simp [Value.ownBlock] at e
      subst e
      rw [h1] at hh
      exact h3 _ _ (Option.some.inj hh)
  rw [Below.heap_setCell _ _ _ _ (show k ≠ bo from h2), hg.block k (by omega) (fun e => hne e), hW k hlt]
  exact h1

set_option maxHeartbeats 400000 in
theorem byte_keep (w : World) (base bo : Nat) (l : List UInt8) (n : Int) (h : OutAt w base bo l) (hl : l.length + 1 ≤ 140737488355328) :
    Calls Tryd.prog 26 #[.pointer (some ⟨bo, 0, none⟩), .int .i64 n] w fun e w' => e = .returned (.tuple #[]) ∧ OutAt w' base bo (l ++ [bof n]) ∧ Frm base bo w w' ∧ Spare bo w w' := by
  obtain ⟨v, h1, h2, h3, h4⟩ := h
  obtain ⟨i0, hi, hz0, hz1, hz2⟩ := info_parts info5
  have hc := cell_of_one h1
  have hf := free_of_one h1
  go_enter Tryd.func26, Tryd.ntmps26
  go_wp2_with (
    at_builtin
    refine wpList_append_own _ rfl (.tmp 10) (.tmp 13) _ rfl base 5 i0 _ 1 1 Tryd.underlying50 hi hz0 hz1 hz2 rfl (by omega) v l.length (cells l) rfl (h2.alloc _)
      ⟨w.heap.size, 0, none⟩ 1 1 [.int .u8 (n % 256)] rfl rfl ?c1 ?c2 ?c3 ?c4 ?c5 ?_)
  case c1 =>
    intro j u hu
    rcases j with _ | j
    · simp only [List.getElem?_cons_zero, Option.some.injEq] at hu
      subst hu
      exact cell_of_one (heap_alloc_new w _)
    · simp at hu
  case c2 => intro u hu; simp only [List.mem_singleton] at hu; subst hu; rfl
  case c3 => simp only [maxLen]; omega
  case c4 => omega
  case c5 => simp; omega
  intro v' w1 hown hg _
  have hs := out_store (r := [bof n]) h1 h2 h3 h4 ⟨_, .inl rfl⟩ (by simpa [cells, bof_cell] using hown) hg
  have HP : Hid (Spare bo w (w1.setCell ⟨bo, 0, none⟩ v')) := Lib.hid (Spare.store (base := base) (l := []) (xs := cells l) (n := l.length) h2 (fun k hk => Below.heap_alloc _ _ _ hk) (by simp) hg)
  have hc1 := cell_of_one hs.1
  have hf1 := free_of_one hs.1
  obtain ⟨_, hs2, hs3⟩ := hs
  obtain ⟨A', m', c', rfl⟩ := own_slice hown
  go_wp2
  go_end0
  exact ⟨rfl, hs2, hs3, HP.out⟩

set_option maxHeartbeats 400000 in
theorem num_keep (w : World) (base bo : Nat) (l : List UInt8) (n : Nat) (hn : Fits n) (h : OutAt w base bo l) (hl : l.length + 10 ≤ 140737488355328) :
    Calls Tryd.prog 27 #[.pointer (some ⟨bo, 0, none⟩), .int .u64 (n : Int)] w fun e w' => e = .returned (.tuple #[]) ∧ OutAt w' base bo (l ++ num n) ∧ Frm base bo w w' ∧ Spare bo w w' := by
  go_enter Tryd.func27, Tryd.ntmps27
  go_wp2
  go_loopw [1] (fun t wr => ∃ (m : Nat) (pre : List UInt8), t = .int .u64 (m : Int) ∧ Fits m ∧ pre ++ num m = num n ∧ OutAt wr base bo (l ++ pre) ∧ Frm base bo w wr ∧ Hid (Spare bo w wr)) (fun t _ => (intOf t).toNat)
  case atStart => exact ⟨n, [], rfl, hn, rfl, by simpa using h, Frm.refl _ _ _, Lib.hid (Spare.refl _ _)⟩
  case round =>
    obtain ⟨m, pre, rfl, hm, he, ho, hfr, HQ⟩ := hrel
    have hpl : (l ++ pre).length + 1 ≤ 140737488355328 := by
      have e1 := congrArg List.length he
      have e2 := num_length_le n
      have e3 := enc_length_pos 9 m
      have e4 : (num m).length = (enc 9 m).length := rfl
      simp only [List.length_append] at e1 ⊢
      omega
    have HE := Lib.hid he
    clear he
    by_cases hlt : m < 128
    · go_wp2_with fail
      refine (byte_keep _ base bo (l ++ pre) _ ho hpl).mono ?_
      rintro e w1 ⟨rfl, ho1, hf1, hp1⟩
      have HP := Lib.hid (HQ.out.trans hp1)
      clear hp1
      go_wp2
      go_end0
      refine ⟨rfl, ?_, hfr.trans hf1, HP.out⟩
      rw [← HE.out, num_small hlt, ← List.append_assoc]
      rw [bof_nat] at ho1
      exact ho1
    · go_wp2_with fail
      rw [or_and_u64 m hm]
      refine (byte_keep _ base bo (l ++ pre) _ ho hpl).mono ?_
      rintro e w1 ⟨rfl, ho1, hf1, hp1⟩
      have HP := Lib.hid (HQ.out.trans hp1)
      clear hp1
      go_wp2
      refine ⟨⟨m / 128, pre ++ [UInt8.ofNat (m % 128 + 128)], ?_, ?_, ?_, ?_, hfr.trans hf1, HP⟩, ?_⟩
      · congr 1
      · unfold Fits at hm ⊢; omega
      · rw [← HE.out, num_big (by omega) hm, List.append_assoc]
        rfl
      · rw [← List.append_assoc, ← bof_nat]; exact ho1
      · simp [intOf]; omega

set_option maxHeartbeats 400000 in
theorem int_keep (w : World) (base bo : Nat) (l : List UInt8) (n : Int) (h1 : -9223372036854775808 ≤ n) (h2 : n ≤ 9223372036854775807) (ho : OutAt w base bo l) (hl : l.length + 10 ≤ 140737488355328) :
    Calls Tryd.prog 42 #[.pointer (some ⟨bo, 0, none⟩), .int .i64 n] w fun e w' => e = .returned (.tuple #[]) ∧ OutAt w' base bo (l ++ num (zig n)) ∧ Frm base bo w w' ∧ Spare bo w w' := by
  by_cases hlt : n < 0
  · go_enter Tryd.func42, Tryd.ntmps42
    go_wp2_with fail
    rw [zig_neg n h1 hlt]
    refine (num_keep _ base bo l (zig n) (zig_lt h1 h2) ho hl).mono ?_
    rintro e w1 ⟨rfl, ho1, hf1, hp1⟩
    have HP := Lib.hid hp1
    clear hp1
    go_wp2
    refine bodyPost_ret (results_none rfl _ _ _) rfl ?_
    exact ⟨rfl, ho1, hf1, HP.out⟩
  · go_enter Tryd.func42, Tryd.ntmps42
    go_wp2_with fail
    rw [zig_pos n (by omega)]
    refine (num_keep _ base bo l (zig n) (zig_lt h1 h2) ho hl).mono ?_
    rintro e w1 ⟨rfl, ho1, hf1, hp1⟩
    have HP := Lib.hid hp1
    clear hp1
    go_wp2
    go_end0
    exact ⟨rfl, ho1, hf1, HP.out⟩

end Go.Proofs.YtahejekcfgkiaaaDoor.octet

/-
  The program's own check of an instruction (typed over the code of 392f5a9): for every instruction. The table of names must lie where its initialiser lays it.
-/
namespace Go.Proofs.YtahejekcfgkiaaaDoor.inst
open Go.RowKit Go.ChangeShapes
open Go.Proofs.YtahejekcfgkiaaaDoor.oper (ret_int ret_bool ret_string Tab nm txt)
open Go.Proofs.YtahejekcfgkiaaaDoor.word (Word)
set_option linter.unusedVariables false

/-- Both operands, as an array. -/
def arrBox (a b : Int) : Obj := .cells #[.int .i64 a, .int .i64 b] 96
theorem stand_arr (w : World) (o a b : Int) : Stand w o a b (w.heap.size + 1) ((w.alloc (insBox o a b)).alloc (arrBox a b)) := by
  have hz : (w.alloc (insBox o a b)).heap.size = w.heap.size + 1 := World.size_alloc w _
  have h0 : ((w.alloc (insBox o a b)).alloc (arrBox a b)).heap[w.heap.size]? = some (insBox o a b) := (Below.heap_alloc _ _ _ (by omega)).trans (heap_alloc_new w _)
  have h1 : ((w.alloc (insBox o a b)).alloc (arrBox a b)).heap[w.heap.size + 1]? = some (arrBox a b) := by rw [← hz]; exact heap_alloc_new _ _
  refine ⟨((Below.refl _ w).alloc (Nat.le_refl _) _).alloc (by omega) _, by rw [World.size_alloc]; omega, ?_, ?_, ?_, ?_, ?_⟩
  all_goals
    unfold World.cell?
    first | rw [h0] | rw [h1]
    rfl

set_option maxRecDepth 100000 in
/-- What is left of both operands behind the first d: the place, and how many. -/
theorem slice_left (g d m : Nat) (hm : d + m = 2) : ∃ A : Addr, (0 < m → A = ⟨g, d, none⟩) ∧ ∀ W : World, (Instr.sliceAt 96 (.pointer (some ⟨g, 0, none⟩)) (some (.int .i64 (d : Int))) none none).run Tryd.prog W = .ok (.slice (some A) m m) W := by
  have hal : Tryd.prog.arrayLen 96 = 2 := by kernel_rfl
  have hw : ∀ W, (Instr.sliceAt 96 (.pointer (some ⟨g, 0, none⟩)) (some (.int .i64 (d : Int))) none none).run Tryd.prog W = .ok (slicedAt ⟨g, 0, none⟩ d 2 2 1) W := fun W => by
    rw [run_sliceAt_array_l W 96 ⟨g, 0, none⟩ (by kernel_rfl) .i64 (d : Int) (by omega) (by rw [hal]; omega), hal]
    rfl
  refine ⟨if 2 = d then ⟨g, 0, none⟩ else (⟨g, 0, none⟩ : Addr).add (d * 1), fun h => ?_, fun W => ?_⟩
  · rw [if_neg (by omega)]
    simp [Addr.add]
    omega
  · rw [hw W]
    unfold slicedAt
    rw [show 2 - d = m from by omega]

set_option maxRecDepth 100000 in
set_option maxHeartbeats 4000000 in
theorem check_yes (o a b : Int) (hk : Known o) (w : World) (hw : Okw w) : Calls Tryd.prog 45 #[.agg #[.int .i64 o, .int .i64 a, .int .i64 b]] w fun e w' => e = .returned (.int .i64 (chk o a b : Nat)) ∧ Below w.heap.size w w' := by
  have HK : Hid (Calls Tryd.prog 63 #[.int .i64 o] (w.alloc (insBox o a b)) fun e w' => e = .returned (.bool true) ∧ w.alloc (insBox o a b) = w') :=
    Lib.hid ((knows_any o _ (hw.next ((Below.refl _ _).alloc (Nat.le_refl _) _)).1).mono fun e w' ⟨h1, h2⟩ => ⟨by rw [h1, decide_eq_true hk], h2⟩)
  have HF : Hid (Calls Tryd.prog 46 #[.int .i64 o] (w.alloc (insBox o a b)) fun e w' => e = .returned (.string (txt Go.Proofs.YtahejekcfgkiaaaDoor.oper.fm o)) ∧ w.alloc (insBox o a b) = w') := Lib.hid (Go.Proofs.YtahejekcfgkiaaaDoor.oper.form_any o _)
  have HZ : Hid (chk o a b = chkF (form o) a b) := Lib.hid (by unfold chk; rw [if_pos hk])
  have hy2 : (txt Go.Proofs.YtahejekcfgkiaaaDoor.oper.fm o).size ≤ 2 := by have := form_le o; unfold form at this; rwa [← size_list] at this
  have HS : Hid (Stand w o a b (w.heap.size + 1) ((w.alloc (insBox o a b)).alloc (arrBox a b))) := Lib.hid (stand_arr w o a b)
  have hz1 : (w.alloc (insBox o a b)).heap.size = w.heap.size + 1 := World.size_alloc w _
  unfold form at HZ
  rw [HZ.out]
  clear hk HZ hw
  generalize txt Go.Proofs.YtahejekcfgkiaaaDoor.oper.fm o = y at *
  go_enter Tryd.func45, Tryd.ntmps45
  unfold insBox at HK HF
  go_wp2_with fail
  refine HK.out.mono ?_
  rintro e w1 ⟨rfl, rfl⟩
  go_wp2_with fail
  refine HF.out.mono ?_
  rintro e w1 ⟨rfl, rfl⟩
  have HN := Lib.hid hy2
  unfold insBox arrBox at HS
  go_wp2_with fail
  go_loopw [22] (fun i wr => ∃ j : Nat, j ≤ y.size ∧ i = .int .i64 (j : Int) ∧ Hid (∀ k, k < j → okAt y.data.toList a b k = true) ∧ Hid (Stand w o a b (w.heap.size + 1) wr)) (fun i _ => y.size - (intOf i).toNat)
  case atStart => exact ⟨0, Nat.zero_le _, rfl, Lib.hid (fun k hk => absurd hk (Nat.not_lt_zero k)), HS⟩
  case round =>
    obtain ⟨j, hj, rfl, HO, HS⟩ := hrel
    by_cases hlt : j < y.size
    · have hcell := HS.out.at (j := j) (by omega)
      have hlt' : (j : Int) < (y.size : Int) := by omega
      have hj2 : j < 2 := by omega
      have hyj : y[j] = y.data.toList.getD j 0 := letter_at hlt
      have HK1 := fun h => Lib.hid (chkF_arg (f := y.data.toList) (a := a) (b := b) (j := j) (by rw [← size_list]; exact hlt) h)
      have HNx : ∀ h : okAt y.data.toList a b j = true, Hid (∀ k, k < j + 1 → okAt y.data.toList a b k = true) := fun h => Lib.hid (fun k hk => by
        rcases Nat.lt_or_ge k j with h1 | h1
        · exact HO.out k h1
        · obtain rfl : k = j := by omega
          exact h)
      have HR := fun W => inRange_any (y.data.toList.getD j 0) (opd a b j) W
      unfold okAt at HK1 HNx
      generalize fitsB (y.data.toList.getD j 0) (opd a b j) = q at *
      generalize y.data.toList.getD j 0 = c at *
      generalize opd a b j = v at *
      have hj0 : (0 : Int) ≤ (j : Int) := by omega
      have hj2' : (j : Int) < 2 := by omega
      have HB := Lib.hid HS.out.below
      have HR' : ∀ W : World, Calls Tryd.prog 64 #[.int .u8 (c.toNat : Int), .int .i64 v] W fun e w' => e = .returned (.bool q) ∧ w' = W := fun W => (HR W).mono fun e w' ⟨h1, h2⟩ => ⟨h1, h2.symm⟩
      clear HR
      cases q with
      | true =>
        have HE := HNx rfl
        clear HK1 HNx
        go_wp2_with fail
        go_quiet ((go_at_call 64; exact Calls.quiet_of_same (HR' _)))
        go_wp2
        go_roundw
        case rel => exact ⟨j + 1, by omega, by go_num, HE, Lib.hid (HS.out.drewN _)⟩
        case measure => simp [intOf]; omega
      | false =>
        have HE := HK1 rfl
        clear HK1 HNx
        go_wp2_with fail
        go_quiet ((go_at_call 64; exact Calls.quiet_of_same (HR' _)))
        go_wp2
        go_ret
        exact ⟨ret_int (by rw [HE.out]; rfl), below_drewN HB.out _⟩
    · obtain rfl : j = y.size := by omega
      obtain ⟨m, hm⟩ : ∃ m, y.size + m = 2 := ⟨2 - y.size, by omega⟩
      obtain ⟨A, hA, hsl⟩ := slice_left (w.heap.size + 1) y.size m hm
      have HA := Lib.hid hA
      have HM := Lib.hid hm
      clear hA hm
      have hcell := fun k (hk : k < 2) => Lib.hid (HS.out.at hk)
      have hc1 := HS.out.c1
      have hc2 := HS.out.c2
      have HB := Lib.hid HS.out.below
      have HF1 : Hid (∀ k, k < y.data.toList.length → okAt y.data.toList a b k = true) := Lib.hid (by rw [← size_list]; exact HO.out)
      go_wp2_with fail
      any_goals
        have h1 : y.toList = [106, 106] := by assumption
        have h2 : b < a := by assumption
        have HE := Lib.hid (chkF_two HF1.out (by rw [← ByteArray.toList_eq]; exact h1) h2)
        clear h1
        go_ret
        exact ⟨ret_int (by rw [HE.out]; rfl), HB.out⟩
      all_goals
        have HX : Hid (¬ (y.data.toList = [106, 106] ∧ b < a)) := Lib.hid (by
          rw [← ByteArray.toList_eq]
          rintro ⟨h1, h2⟩
          first
            | omega
            | exact absurd h1 (by assumption))
        clear hcell hc1 hc2
        try (rename y.toList = [106, 106] => h1; replace h1 := Lib.hid h1)
        try (rename ¬ y.toList = [106, 106] => h1; replace h1 := Lib.hid h1)
        go_loopw [47] (fun i wr => ∃ j : Nat, j ≤ m ∧ i = .int .i64 (j : Int) ∧ Hid (∀ k, y.size ≤ k → k < y.size + j → opd a b k = 0) ∧ Hid (Stand w o a b (w.heap.size + 1) wr)) (fun i _ => m - (intOf i).toNat)
        case atStart => exact ⟨0, Nat.zero_le _, rfl, Lib.hid (fun k h1 h2 => absurd h1 (Nat.not_le_of_lt h2)), HS⟩
        case round =>
          obtain ⟨j, hj1, rfl, HP, HS2⟩ := hrel
          have HB2 := Lib.hid HS2.out.below
          by_cases hlt : j < m
          · have hm := HM.out
            have hc := HS2.out.at (j := y.size + j) (by omega)
            obtain rfl := HA.out (by omega)
            have hj3 : (j : Int) < (m : Int) := by omega
            by_cases hv : opd a b (y.size + j) = 0
            · have HE : Hid (∀ k, y.size ≤ k → k < y.size + (j + 1) → opd a b k = 0) := Lib.hid (fun k h1 h2 => by
                rcases Nat.lt_or_ge k (y.size + j) with h3 | h3
                · exact HP.out k h1 h3
                · obtain rfl : k = y.size + j := by omega
                  exact hv)
              rw [hv] at hc
              clear hv
              go_wp2
              go_roundw
              case rel => exact ⟨j + 1, by omega, by go_num, HE, HS2⟩
              case measure => simp [intOf]; omega
            · have HE := Lib.hid (chkF_form HF1.out HX.out (j := y.size + j) (by rw [← size_list]; omega) (by omega) hv)
              have hv' : (opd a b (y.size + j) != 0) = true := by simpa using hv
              clear hv hm
              generalize opd a b (y.size + j) = v at *
              go_wp2
              go_ret
              exact ⟨ret_int (by rw [HE.out]; rfl), HB2.out⟩
          · obtain rfl : j = m := by omega
            have hm := HM.out
            have HE := Lib.hid (chkF_fine HF1.out HX.out (by rw [← size_list]; exact fun k h1 h2 => HP.out k h1 (by omega)))
            go_wp2_with fail
            go_ret
            exact ⟨ret_int (by rw [HE.out]; rfl), HB2.out⟩

theorem check_no (o a b : Int) (hk : ¬ Known o) (w : World) (hw : Okw w) : Calls Tryd.prog 45 #[.agg #[.int .i64 o, .int .i64 a, .int .i64 b]] w fun e w' => e = .returned (.int .i64 (chk o a b : Nat)) ∧ Below w.heap.size w w' := by
  have HK : Hid (Calls Tryd.prog 63 #[.int .i64 o] (w.alloc (insBox o a b)) fun e w' => e = .returned (.bool false) ∧ w.alloc (insBox o a b) = w') :=
    Lib.hid ((knows_any o _ (hw.next ((Below.refl _ _).alloc (Nat.le_refl _) _)).1).mono fun e w' ⟨h1, h2⟩ => ⟨by rw [h1, decide_eq_false hk], h2⟩)
  have HZ : Hid (chk o a b = 6) := Lib.hid (by unfold chk; rw [if_neg hk])
  have HB := Lib.hid ((Below.refl w.heap.size w).alloc (Nat.le_refl _) (insBox o a b))
  rw [HZ.out]
  clear hk HZ hw
  go_enter Tryd.func45, Tryd.ntmps45
  unfold insBox at HK
  go_wp2_with fail
  refine HK.out.mono ?_
  rintro e w1 ⟨rfl, rfl⟩
  go_wp2_with fail
  go_ret
  exact ⟨rfl, HB.out⟩
theorem check_any (o a b : Int) (w : World) (hw : Okw w) : Calls Tryd.prog 45 #[.agg #[.int .i64 o, .int .i64 a, .int .i64 b]] w fun e w' => e = .returned (.int .i64 (chk o a b : Nat)) ∧ Below w.heap.size w w' := by
  by_cases hk : Known o
  · exact check_yes o a b hk w hw
  · exact check_no o a b hk w hw
end Go.Proofs.YtahejekcfgkiaaaDoor.inst

/-
  Opening a reader; the calls on what is not there; and that numbers are put and read: the common end of all these statements. No condition.
-/
namespace Go.Proofs.YtahejekcfgkiaaaDoor.octet
open Go.RowKit Go.ChangeShapes
set_option linter.unusedVariables false

set_option maxHeartbeats 400000 in
theorem open_any (w : World) (s : ByteArray) :
    Calls Tryd.prog 49 #[.string s] w fun e w' => e = .returned (.pointer (some ⟨w.heap.size, 0, none⟩)) ∧ InAt w' w.heap.size ⟨s.data.toList, 0⟩ ∧ Below w.heap.size w w' ∧ w'.heap.size = w.heap.size + 1 := by
  go_enter Tryd.func49, Tryd.ntmps49
  go_wp2
  go_ret
  refine ⟨rfl, ?_, (Below.refl _ _).alloc (Nat.le_refl _) _, by simp⟩
  exact heap_alloc_new w _

theorem out_new (w : World) : OutAt (w.alloc (.cells #[.slice none 0 0] 52)) (w.heap.size + 1) w.heap.size [] :=
  ⟨.slice none 0 0, heap_alloc_new w _, World.ownsRow_nil _ _ _ _, by omega, by simp⟩

theorem r1 : rdNum ⟨[172, 2, 1], 0⟩ = (300, ⟨[1], 0⟩) := rfl
theorem r2 : rdInt ⟨[1], 0⟩ = (-1, ⟨[], 0⟩) := rfl
theorem r3 : rdByte ⟨[], 0⟩ = (0, ⟨[], 3⟩) := rfl

set_option maxHeartbeats 400000 in
theorem byte_nil (w : World) (n : Int) : Calls Tryd.prog 26 #[.pointer none, .int .i64 n] w fun e w' => e = .returned (.tuple #[]) ∧ w = w' := by
  go_enter Tryd.func26, Tryd.ntmps26
  go_wp2
  go_end0
  exact ⟨rfl, rfl⟩
set_option maxHeartbeats 400000 in
theorem num_nil (w : World) (n : Nat) (hn : Fits n) : Calls Tryd.prog 27 #[.pointer none, .int .u64 (n : Int)] w fun e w' => e = .returned (.tuple #[]) ∧ w = w' := by
  go_enter Tryd.func27, Tryd.ntmps27
  go_wp2
  go_loopw [1] (fun t wr => ∃ (m : Nat), t = .int .u64 (m : Int) ∧ Fits m ∧ w = wr) (fun t _ => (intOf t).toNat)
  case atStart => exact ⟨n, rfl, hn, rfl⟩
  case round =>
    obtain ⟨m, rfl, hm, rfl⟩ := hrel
    by_cases hlt : m < 128
    · go_wp2_with fail
      refine (byte_nil _ _).mono ?_
      rintro e w1 ⟨rfl, rfl⟩
      go_wp2
      go_end0
      exact ⟨rfl, rfl⟩
    · go_wp2_with fail
      rw [or_and_u64 m hm]
      refine (byte_nil _ _).mono ?_
      rintro e w1 ⟨rfl, rfl⟩
      go_wp2
      refine ⟨⟨m / 128, ?_, ?_, by first | rfl | trivial⟩, ?_⟩
      · congr 1
      · unfold Fits at hm ⊢; omega
      · simp [intOf]; omega
set_option maxHeartbeats 400000 in
theorem int_nil (w : World) (n : Int) (h1 : -9223372036854775808 ≤ n) (h2 : n ≤ 9223372036854775807) : Calls Tryd.prog 42 #[.pointer none, .int .i64 n] w fun e w' => e = .returned (.tuple #[]) ∧ w = w' := by
  by_cases hlt : n < 0
  · go_enter Tryd.func42, Tryd.ntmps42
    go_wp2_with fail
    rw [zig_neg n h1 hlt]
    refine (num_nil _ (zig n) (zig_lt h1 h2)).mono ?_
    rintro e w1 ⟨rfl, rfl⟩
    go_wp2
    refine bodyPost_ret (results_none rfl _ _ _) rfl ?_
    exact ⟨rfl, rfl⟩
  · go_enter Tryd.func42, Tryd.ntmps42
    go_wp2_with fail
    rw [zig_pos n (by omega)]
    refine (num_nil _ (zig n) (zig_lt h1 h2)).mono ?_
    rintro e w1 ⟨rfl, rfl⟩
    go_wp2
    go_end0
    exact ⟨rfl, rfl⟩
set_option maxHeartbeats 400000 in
theorem done_nil (w : World) : Calls Tryd.prog 18 #[.pointer none] w fun e w' => e = .returned (.string ⟨#[]⟩) ∧ w = w' := by
  go_enter Tryd.func18, Tryd.ntmps18
  go_wp2
  go_ret
  exact ⟨rfl, rfl⟩
set_option maxHeartbeats 400000 in
theorem left_nil (w : World) : Calls Tryd.prog 51 #[.pointer none] w fun e w' => e = .returned (.int .i64 0) ∧ w = w' := by
  go_enter Tryd.func51, Tryd.ntmps51
  go_wp2
  go_ret
  exact ⟨rfl, rfl⟩
set_option maxHeartbeats 400000 in
theorem err_nil (w : World) : Calls Tryd.prog 54 #[.pointer none] w fun e w' => e = .returned (.int .i64 7) ∧ w = w' := by
  go_enter Tryd.func54, Tryd.ntmps54
  go_wp2
  go_ret
  exact ⟨rfl, rfl⟩
set_option maxHeartbeats 400000 in
theorem fail_nil (w : World) (e : Int) : Calls Tryd.prog 81 #[.pointer none, .int .i64 e] w fun r w' => r = .returned (.tuple #[]) ∧ w = w' := by
  go_enter Tryd.func81, Tryd.ntmps81
  go_wp2
  refine bodyPost_ret (results_none rfl _ _ _) rfl ?_
  exact ⟨rfl, rfl⟩
set_option maxHeartbeats 400000 in
theorem next_nil (w : World) : Calls Tryd.prog 80 #[.pointer none] w fun r w' => r = .returned (.int .u8 0) ∧ w = w' := by
  go_enter Tryd.func80, Tryd.ntmps80
  go_wp2_with fail
  refine (left_nil _).mono ?_
  rintro e w1 ⟨rfl, rfl⟩
  go_wp2_with fail
  refine (fail_nil _ _).mono ?_
  rintro e w1 ⟨rfl, rfl⟩
  go_wp2
  go_ret
  exact ⟨rfl, rfl⟩
set_option maxHeartbeats 400000 in
theorem byteIn_nil (w : World) : Calls Tryd.prog 77 #[.pointer none] w fun r w' => r = .returned (.int .i64 0) ∧ w = w' := by
  go_enter Tryd.func77, Tryd.ntmps77
  go_wp2_with fail
  refine (next_nil _).mono ?_
  rintro e w1 ⟨rfl, rfl⟩
  go_wp2
  go_ret
  exact ⟨rfl, rfl⟩
set_option maxHeartbeats 400000 in
set_option maxRecDepth 100000 in
theorem numIn_nil (w : World) : Calls Tryd.prog 68 #[.pointer none] w fun r w' => r = .returned (.int .u64 0) ∧ w = w' := by
  go_enter Tryd.func68, Tryd.ntmps68
  go_wp2
  go_loopw [3, 6] (fun n k wr => k = .int .i64 0 ∧ n = .int .u64 0 ∧ w = wr) (fun _ k _ => 9 - (intOf k).toNat)
  case atStart => exact ⟨rfl, rfl, rfl⟩
  case round =>
    obtain ⟨rfl, rfl, rfl⟩ := hrel
    go_wp2_with fail
    refine (next_nil _).mono ?_
    rintro e w1 ⟨rfl, rfl⟩
    go_wp2_with fail
    refine (err_nil _).mono ?_
    rintro e w1 ⟨rfl, rfl⟩
    go_wp2
    go_ret
    exact ⟨rfl, rfl⟩
set_option maxHeartbeats 400000 in
theorem intIn_nil (w : World) : Calls Tryd.prog 78 #[.pointer none] w fun r w' => r = .returned (.int .i64 0) ∧ w = w' := by
  have hand := and1_u64 0 (by omega)
  go_enter Tryd.func78, Tryd.ntmps78
  go_wp2_with fail
  refine (numIn_nil _).mono ?_
  rintro e w1 ⟨rfl, rfl⟩
  go_wp2
  go_ret
  exact ⟨rfl, rfl⟩
end Go.Proofs.YtahejekcfgkiaaaDoor.octet

/-
  The program's own bytes of an instruction (typed over the code of 392f5a9): for every instruction of sixty-four-bit numbers. The table of names must lie where its initialiser lays it.
-/
namespace Go.Proofs.YtahejekcfgkiaaaDoor.inst
open Go.RowKit Go.ChangeShapes
open Go.Proofs.YtahejekcfgkiaaaDoor.oper (ret_int ret_bool ret_string Tab nm txt)
open Go.Proofs.YtahejekcfgkiaaaDoor.word (Word)
open Go.Proofs.YtahejekcfgkiaaaDoor.octet (OutAt Frm Spare NoBytes num zig num_keep int_keep byte_keep done_any Fits bof bof_nat num_length_le)
set_option linter.unusedVariables false

theorem fit_small {c : UInt8} {v : Int} (hc : c ≠ 110) (h : fitsB c v = true) : 0 ≤ v ∧ v ≤ 199 := by
  have hw : least c ≤ v ∧ v ≤ most c := by unfold fitsB at h; rw [if_neg hc] at h; simpa using h
  have h0 : 0 ≤ least c := by unfold least; split <;> omega
  have hm : most c ≤ 199 := by unfold most; split; omega; split; omega; split; omega; split <;> omega
  omega

set_option maxHeartbeats 400000 in
theorem putOperand_any (w : World) (base bo : Nat) (l : List UInt8) (c : UInt8) (v : Int) (hf : fitsB c v = true) (ho : OutAt w base bo l) (hl : l.length + 10 ≤ 140737488355328) :
    Calls Tryd.prog 47 #[.pointer (some ⟨bo, 0, none⟩), .int .u8 (c.toNat : Int), .int .i64 v] w fun e w' => e = .returned (.tuple #[]) ∧ OutAt w' base bo (l ++ piece c v) ∧ Frm base bo w w' ∧ Spare bo w w' := by
  by_cases hc : c = 110
  · subst hc
    have hv : Word v := by unfold fitsB at hf; rw [if_pos rfl] at hf; simpa using hf
    unfold Word at hv
    have HE : Hid (piece 110 v = num (zig v)) := Lib.hid rfl
    rw [HE.out]
    clear hf
    have HI := Lib.hid (int_keep w base bo l v (by omega) (by omega) ho hl)
    go_enter Tryd.func47, Tryd.ntmps47
    go_wp2_with fail
    refine HI.out.mono ?_
    rintro e w1 ⟨rfl, h1, h2, h3⟩
    go_wp2
    refine bodyPost_ret (results_none rfl _ _ _) rfl ?_
    exact ⟨rfl, h1, h2, h3⟩
  · obtain ⟨h0, h1⟩ := fit_small hc hf
    obtain ⟨m, rfl⟩ : ∃ m : Nat, v = (m : Int) := ⟨v.toNat, by omega⟩
    have HE : Hid (piece c (m : Int) = num m) := Lib.hid (by unfold piece; rw [if_neg hc, Int.toNat_natCast])
    have hc1 : ((c.toNat : Int) == 110) = false := (u8_ne hc).1
    rw [HE.out]
    clear hf hc
    have HI := Lib.hid (num_keep w base bo l m (by unfold Fits; omega) ho hl)
    go_enter Tryd.func47, Tryd.ntmps47
    go_wp2_with fail
    refine HI.out.mono ?_
    rintro e w1 ⟨rfl, h1, h2, h3⟩
    go_wp2
    go_end0
    exact ⟨rfl, h1, h2, h3⟩

/-- While an instruction is put: the writer at bo holds L, both operands stand at g. -/
structure Puts (w : World) (a b : Int) (bo g : Nat) (L : List UInt8) (W : World) : Prop where
  out : OutAt W (bo + 1) bo L
  arr : W.heap[g]? = some (arrBox a b)
  ne : g ≠ bo
  below : Below w.heap.size w W
theorem noBytes_arr (a b : Int) : NoBytes (arrBox a b) := fun cur q h => by
  unfold arrBox at h
  injection h with _ h2 _
  exact absurd h2 (by decide)
theorem noBytes_ins (o a b : Int) : NoBytes (insBox o a b) := fun cur q h => by
  unfold insBox at h
  injection h with _ h2 _
  exact absurd h2 (by decide)
theorem Puts.next {w W W' : World} {a b : Int} {bo g : Nat} {L L' : List UInt8} (h : Puts w a b bo g L W) (hw : w.heap.size ≤ bo) (ho : OutAt W' (bo + 1) bo L') (hf : Frm (bo + 1) bo W W') (hs : Spare bo W W') : Puts w a b bo g L' W' :=
  ⟨ho, hs _ _ h.arr h.ne (noBytes_arr a b), h.ne, h.below.trans (hf.below hw (by omega))⟩
theorem Puts.drew {w W : World} {a b : Int} {bo g : Nat} {L : List UInt8} (h : Puts w a b bo g L W) : Puts w a b bo g L W.drew :=
  ⟨h.out.keep (Nat.le_refl _) rfl (fun _ _ _ => rfl), h.arr, h.ne, h.below.drew⟩
theorem Puts.at {w W : World} {a b : Int} {bo g : Nat} {L : List UInt8} (h : Puts w a b bo g L W) {j : Nat} (hj : j < 2) : W.cell? ⟨g, j, none⟩ = some (.int .i64 (opd a b j)) := by
  unfold World.cell?
  rw [h.arr]
  match j, hj with
  | 0, _ => rfl
  | 1, _ => rfl

/-- What Put answers. -/
def PutPost (o a b : Int) (w : World) (e : Ending) (w' : World) : Prop := e = .returned (.tuple #[.string ⟨(putL o a b).toArray⟩, .int .i64 (chk o a b : Nat)]) ∧ Below w.heap.size w w'

set_option maxRecDepth 100000 in
set_option maxHeartbeats 4000000 in
theorem put_good (o a b : Int) (hz : chk o a b = 0) (w : World) (hw : Okw w) : Calls Tryd.prog 31 #[.agg #[.int .i64 o, .int .i64 a, .int .i64 b]] w (PutPost o a b w) := by
  obtain ⟨hk, hf⟩ := chk_zero hz
  have hok := (chkF_zero hf).1
  have HC := Lib.hid (check_any o a b (w.alloc (insBox o a b)) (hw.next ((Below.refl _ _).alloc (Nat.le_refl _) _)))
  rw [hz] at HC
  have hy2 : (txt Go.Proofs.YtahejekcfgkiaaaDoor.oper.fm o).size ≤ 2 := by have := form_le o; unfold form at this; rwa [← size_list] at this
  have HW : Hid (putL o a b = UInt8.ofNat o.toNat :: pieces (form o) a b (form o).length) := Lib.hid (by unfold putL; rw [if_pos hz]; rfl)
  have hz1 : (w.alloc (insBox o a b)).heap.size = w.heap.size + 1 := World.size_alloc w _
  have HF := fun W => Lib.hid (Go.Proofs.YtahejekcfgkiaaaDoor.oper.form_any o W)
  unfold PutPost
  rw [HW.out, hz, show (((0 : Nat) : Int)) = 0 from rfl]
  have ho := hk.1
  have hB : bof o = UInt8.ofNat o.toNat := by
    have : ((o.toNat : Nat) : Int) = o := by omega
    rw [← bof_nat, this]
  unfold form at hok ⊢
  have HO := Lib.hid hok
  clear hk hf hz HW hok hw ho
  generalize txt Go.Proofs.YtahejekcfgkiaaaDoor.oper.fm o = y at *
  rw [← hB, ← size_list y]
  clear hB
  go_enter Tryd.func31, Tryd.ntmps31
  have HI : Hid ((w.alloc (insBox o a b)).heap[w.heap.size]? = some (insBox o a b)) := Lib.hid (heap_alloc_new w _)
  have HB0 : Hid (Below w.heap.size w (w.alloc (insBox o a b))) := Lib.hid ((Below.refl _ w).alloc (Nat.le_refl _) _)
  unfold insBox at HC hz1 HI HB0
  go_wp2_with fail
  refine HC.out.mono ?_
  rintro e w1 ⟨rfl, hb⟩
  have hs1 := hb.size
  have HB1 := Lib.hid (HB0.out.trans (hb.mono (by omega)))
  have HI1 := Lib.hid ((hb.block w.heap.size (by omega)).trans HI.out)
  clear hb HC HI HB0
  go_upto_region 5 with fail
  have hb2 : Below w1.heap.size w1 (w1.alloc (.cells #[.slice none 0 0] 52)) := (Below.refl _ w1).alloc (Nat.le_refl _) _
  have HO2 := Lib.hid (Go.Proofs.YtahejekcfgkiaaaDoor.octet.out_new w1)
  have HB2 := Lib.hid (HB1.out.trans (hb2.mono (by omega)))
  have HI2 := Lib.hid ((hb2.block w.heap.size (by omega)).trans HI1.out)
  obtain ⟨c0, c1, c2, _, _, _⟩ := cells3 HI2.out
  have hbo : w.heap.size < w1.heap.size := by omega
  clear hb2 HB1 HI1
  generalize w1.alloc (.cells #[.slice none 0 0] 52) = W2 at *
  generalize w1.heap.size = bo at *
  have HY := Lib.hid (byte_keep W2 (bo + 1) bo [] o HO2.out (by simp))
  go_wp2_with fail
  refine HY.out.mono ?_
  rintro e W3 ⟨rfl, ho3, hf3, hs3⟩
  have HO3 := Lib.hid ho3
  have HB3 := Lib.hid (HB2.out.trans (hf3.below (B' := w.heap.size) (by omega) (by omega)))
  have HI3 := Lib.hid (hs3 _ _ HI2.out (by omega) (noBytes_ins o a b))
  have hn2 : w.heap.size < W3.heap.size := by have := HB2.out.size; have := lt_of_block HI3.out; omega
  have hn3 : bo < W3.heap.size := HO3.out.lt
  clear ho3 hf3 hs3 HY HO2 HB2 HI2 c0 c1 c2
  obtain ⟨c0, c1, c2, _, _, _⟩ := cells3 HI3.out
  go_wp2_with fail
  refine (HF _).out.mono ?_
  rintro e w4 ⟨rfl, rfl⟩
  go_upto_region 8 with fail
  have HP0 : Hid (Puts w a b bo W3.heap.size [bof o] (W3.alloc (.cells #[.int .i64 a, .int .i64 b] 96))) := Lib.hid
    ⟨HO3.out.kept ((Below.refl W3.heap.size W3).alloc (Nat.le_refl _) _) (Nat.le_refl _), heap_alloc_new _ _, by omega, HB3.out.alloc (by omega) _⟩
  clear HO3 HB3 HI3 c0 c1 c2
  generalize W3.alloc (.cells #[.int .i64 a, .int .i64 b] 96) = W5 at *
  generalize W3.heap.size = g at *
  obtain ⟨h0, hh0⟩ : ∃ h, h = bof o := ⟨_, rfl⟩
  rw [← hh0] at HP0
  have HH0 := Lib.hid hh0
  clear hh0
  have HN := Lib.hid hy2
  go_wp2_with fail
  go_loopw [30] (fun i wr => ∃ j : Nat, j ≤ y.size ∧ i = .int .i64 (j : Int) ∧ Hid (Puts w a b bo g (h0 :: pieces y.data.toList a b j) wr)) (fun i _ => y.size - (intOf i).toNat)
  case atStart => exact ⟨0, Nat.zero_le _, rfl, HP0⟩
  case round =>
    obtain ⟨j, hj, rfl, HS⟩ := hrel
    by_cases hlt : j < y.size
    · have hcell := HS.out.at (j := j) (by omega)
      have hlt' : (j : Int) < (y.size : Int) := by omega
      have hj2 : j < 2 := by omega
      have hj0 : (0 : Int) ≤ (j : Int) := by omega
      have hj2' : (j : Int) < 2 := by omega
      have hyj : y[j] = y.data.toList.getD j 0 := letter_at hlt
      have hk := HO.out j (by rw [← size_list]; exact hlt)
      have HPc : Hid (pieces y.data.toList a b (j + 1) = pieces y.data.toList a b j ++ piece (y.data.toList.getD j 0) (opd a b j)) := Lib.hid rfl
      have hpl := pieces_le y.data.toList a b j
      unfold okAt at hk
      generalize y.data.toList.getD j 0 = c at *
      generalize opd a b j = v at *
      generalize hpre : pieces y.data.toList a b j = pre at *
      have HC := fun W (hW : Puts w a b bo g (h0 :: pre) W) => Lib.hid ((putOperand_any W (bo + 1) bo (h0 :: pre) c v hk hW.out (by simp; omega)).mono (R' := fun e w' => e = .returned (.tuple #[]) ∧ Puts w a b bo g (h0 :: (pre ++ piece c v)) w') fun e w' ⟨h1, h2, h3, h4⟩ => ⟨h1, hW.next (by omega) h2 h3 h4⟩)
      clear hpre hpl hk
      go_wp2_with fail
      go_still_tail 7, (by kernel_rfl)
      change wpList _ _ _ _ _ wr.drew
      have HS1 := Lib.hid HS.out.drew
      generalize wr.drew = W6 at *
      go_wp2_with fail
      refine (HC _ HS1.out).out.mono ?_
      rintro e W7 ⟨rfl, hp⟩
      have HS2 := Lib.hid hp
      clear hp HC
      go_wp2
      go_roundw
      case rel => exact ⟨j + 1, by omega, by go_num, by rw [HPc.out]; exact HS2⟩
      case measure => simp [intOf]; omega
    · obtain rfl : j = y.size := by omega
      have HD := Lib.hid (done_any wr (bo + 1) bo _ HS.out.out)
      have HBz := Lib.hid HS.out.below
      go_wp2_with fail
      refine HD.out.mono ?_
      rintro e w8 ⟨rfl, rfl⟩
      go_wp2
      go_ret2
      rw [HH0.out]
      exact ⟨rfl, HBz.out⟩

set_option maxHeartbeats 1000000 in
theorem put_bad (o a b : Int) (hz : chk o a b ≠ 0) (w : World) (hw : Okw w) : Calls Tryd.prog 31 #[.agg #[.int .i64 o, .int .i64 a, .int .i64 b]] w (PutPost o a b w) := by
  have HC := Lib.hid (check_any o a b (w.alloc (insBox o a b)) (hw.next ((Below.refl _ _).alloc (Nat.le_refl _) _)))
  have HW : Hid (putL o a b = []) := Lib.hid (by unfold putL; rw [if_neg hz])
  have hz1 : (w.alloc (insBox o a b)).heap.size = w.heap.size + 1 := World.size_alloc w _
  unfold PutPost
  rw [HW.out]
  have hn : (((chk o a b : Nat) : Int) != 0) = true := by simpa using hz
  have HB0 : Hid (Below w.heap.size w (w.alloc (insBox o a b))) := Lib.hid ((Below.refl _ w).alloc (Nat.le_refl _) _)
  clear hz HW hw
  generalize chk o a b = q at *
  go_enter Tryd.func31, Tryd.ntmps31
  unfold insBox at HC hz1 HB0
  go_wp2_with fail
  refine HC.out.mono ?_
  rintro e w1 ⟨rfl, hb⟩
  have HB1 := Lib.hid (HB0.out.trans (hb.mono (by omega)))
  clear hb HC HB0
  go_wp2_with fail
  go_ret2
  exact ⟨rfl, HB1.out⟩
theorem put_any (o a b : Int) (w : World) (hw : Okw w) : Calls Tryd.prog 31 #[.agg #[.int .i64 o, .int .i64 a, .int .i64 b]] w (PutPost o a b w) := by
  by_cases h : chk o a b = 0
  · exact put_good o a b h w hw
  · exact put_bad o a b h w hw
end Go.Proofs.YtahejekcfgkiaaaDoor.inst

/-
  Three cells at once, and a reader of the document's in a block. No condition.
-/
namespace Go.Proofs.YtahejekcfgkiaaaDoor.objs
open Go.RowKit Go.ChangeShapes
set_option linter.unusedVariables false

/-- Three cells of a block, set one behind the other. -/
abbrev put3 (W : World) (b : Nat) (x y z : Value) : World := ((W.setCell ⟨b, 0, none⟩ x).setCell ⟨b, 1, none⟩ y).setCell ⟨b, 2, none⟩ z
theorem put3_same {W : World} {b : Nat} {u v m : Value} {T : TypeId} (h : W.heap[b]? = some (.cells #[u, v, m] T (0, 0))) (x y z : Value) : (put3 W b x y z).heap[b]? = some (.cells #[x, y, z] T (0, 0)) := by
  simp [World.setCell, Array.getElem?_modify, h]
theorem cells3 {W : World} {b : Nat} {x y z : Value} {T : TypeId} (h : W.heap[b]? = some (.cells #[x, y, z] T (0, 0))) :
    W.cell? ⟨b, 0, none⟩ = some x ∧ W.cell? ⟨b, 1, none⟩ = some y ∧ W.cell? ⟨b, 2, none⟩ = some z ∧ W.frozen? ⟨b, 0, none⟩ = false ∧ W.frozen? ⟨b, 1, none⟩ = false ∧ W.frozen? ⟨b, 2, none⟩ = false := by
  simp [World.cell?, World.frozen?, h]
theorem put3_far {W : World} {b c : Nat} (h : c ≠ b) (x y z : Value) : (put3 W b x y z).heap[c]? = W.heap[c]? :=
  (Below.heap_setCell _ ⟨b, 2, none⟩ _ c h).trans ((Below.heap_setCell _ ⟨b, 1, none⟩ _ c h).trans (Below.heap_setCell _ ⟨b, 0, none⟩ _ c h))
theorem put3_below {B b : Nat} {a W : World} (h : Below B a W) (hb : B ≤ b) (x y z : Value) : Below B a (put3 W b x y z) :=
  ((h.setCell (p := ⟨b, 0, none⟩) hb _).setCell (p := ⟨b, 1, none⟩) hb _).setCell (p := ⟨b, 2, none⟩) hb _

end Go.Proofs.YtahejekcfgkiaaaDoor.objs

/-
  What the program puts of a program piece by piece (typed over the code of 4b95722): bytes as they are, counts, and a function that may be. The writer lies in a block of its own; the tables must lie where their initialisers lay them.
-/
namespace Go.Proofs.YtahejekcfgkiaaaDoor.pgm
open Go.RowKit Go.ChangeShapes
open Go.Proofs.YtahejekcfgkiaaaDoor.octet (OutAt Frm Spare NoBytes byte_keep num_keep num Fits bof bof_nat size_mk num_length_le)
open Go.Proofs.YtahejekcfgkiaaaDoor.objs (De zero DAt cells3)
set_option linter.unusedVariables false

/-- What a writer's call leaves: the bytes behind, and what else stayed. -/
def RawPost (base bo : Nat) (L : List UInt8) (w : World) (e : Ending) (w' : World) : Prop := e = .returned (.tuple #[]) ∧ OutAt w' base bo L ∧ Frm base bo w w' ∧ Spare bo w w'
theorem take_byte {l : List UInt8} {k : Nat} (h : k < l.length) : l.take (k + 1) = l.take k ++ [l.getD k 0] := by
  rw [List.take_add_one, List.getD_eq_getElem?_getD, List.getElem?_eq_getElem h]
  rfl
theorem index_at (y : List UInt8) (k : Nat) (h : k < y.length) (W : World) : (Instr.index 9 (.string ⟨y.toArray⟩) (.int .i64 (k : Int))).run Tryd.prog W = .ok (.int .u8 ((y.getD k 0).toNat : Int)) W := by
  have hsz := size_mk y
  have hg : y.getD k 0 = y[k] := by rw [List.getD_eq_getElem?_getD, List.getElem?_eq_getElem h]; rfl
  rw [run_index_string W 9 ⟨y.toArray⟩ .i64 (k : Int) Tryd.underlying9, dif_pos ⟨by omega, by rw [hsz]; omega⟩, hg]
  rfl

set_option maxHeartbeats 1000000 in
theorem raw_any (w : World) (base bo : Nat) (L y : List UInt8) (ho : OutAt w base bo L) (hl : L.length + y.length ≤ 140737488355000) :
    Calls Tryd.prog 13 #[.pointer (some ⟨bo, 0, none⟩), .string ⟨y.toArray⟩] w (RawPost base bo (L ++ y) w) := by
  have hsz := size_mk y
  have HO := Lib.hid ho
  unfold RawPost
  clear ho
  go_enter Tryd.func13, Tryd.ntmps13
  go_wp2_with fail
  go_loopw [7] (fun i wr => ∃ k : Nat, k ≤ y.length ∧ i = .int .i64 (k : Int) ∧ Hid (OutAt wr base bo (L ++ y.take k)) ∧ Hid (Frm base bo w wr ∧ Spare bo w wr)) (fun i _ => y.length - (intOf i).toNat)
  case atStart => exact ⟨0, Nat.zero_le _, rfl, by simpa using HO, Lib.hid ⟨Frm.refl _ _ _, Spare.refl _ _⟩⟩
  case round =>
    obtain ⟨k, hk, rfl, HW, HF⟩ := hrel
    by_cases hlt : k < y.length
    · have hlt' : (k : Int) < (y.length : Int) := by omega
      have hix := index_at y k hlt
      have HT := Lib.hid (take_byte hlt)
      have hlen : (L ++ y.take k).length + 1 ≤ 140737488355328 := by rw [List.length_append, List.length_take]; omega
      have hc : (y.getD k 0).toNat < 256 := UInt8.toNat_lt _
      have HC : Hid (UInt8.ofNat (y.getD k 0).toNat = y.getD k 0) := Lib.hid UInt8.ofNat_toNat
      generalize y.getD k 0 = c at *
      generalize c.toNat = m at *
      have HB := Lib.hid (byte_keep wr base bo (L ++ y.take k) (m : Int) HW.out hlen)
      rw [bof_nat, HC.out] at HB
      go_wp2_with fail
      refine HB.out.mono ?_
      rintro e w1 ⟨rfl, h1, h2, h3⟩
      have HW1 := Lib.hid h1
      have HF1 := Lib.hid (And.intro (HF.out.1.trans h2) (HF.out.2.trans h3))
      clear h1 h2 h3 HB
      go_wp2
      go_roundw
      case rel => exact ⟨k + 1, by omega, by go_num, by rw [HT.out, ← List.append_assoc]; exact HW1, HF1⟩
      case measure => simp [intOf]; omega
    · obtain rfl : k = y.length := by omega
      rw [List.take_length] at HW
      go_wp2
      go_end0
      exact ⟨rfl, HW.out, HF.out.1, HF.out.2⟩

theorem cnt_any (w : World) (base bo : Nat) (L : List UInt8) (n : Nat) (hn : n ≤ 1000000) (ho : OutAt w base bo L) (hl : L.length ≤ 140737488355000) :
    Calls Tryd.prog 15 #[.pointer (some ⟨bo, 0, none⟩), .int .i64 (n : Int)] w (RawPost base bo (L ++ num n) w) := by
  have HN := Lib.hid (num_keep w base bo L n (by unfold Fits; omega) ho (by omega))
  have hw : IntKind.u64.wrap (n : Int) = (n : Int) := by rw [IntKind.wrap_u64]; omega
  unfold RawPost
  clear ho
  go_enter Tryd.func15, Tryd.ntmps15
  go_wp2_with fail
  refine HN.out.mono ?_
  rintro e w1 ⟨rfl, h1, h2, h3⟩
  go_wp2
  go_end0
  exact ⟨rfl, h1, h2, h3⟩
end Go.Proofs.YtahejekcfgkiaaaDoor.pgm

/-
  The program's own answer whether an object is of a kind that a letter stands for (typed over the code of 392f5a9). No condition but that a list is no longer than an int can say.
-/
namespace Go.Proofs.YtahejekcfgkiaaaDoor.objs
open Go.RowKit Go.ChangeShapes
set_option linter.unusedVariables false

theorem fits_out {l : List De} {c : UInt8} {o : Int} (h : ¬ (0 ≤ o ∧ o < (l.length : Int))) : fits l c o = false := by
  unfold fits
  rw [decide_eq_false h, Bool.false_and]
theorem u8_of {c k : UInt8} (h : ((c.toNat : Int) == (k.toNat : Int)) = true) : c = k := by
  have h1 := eq_of_beq h
  exact UInt8.toNat_inj.1 (by omega)
theorem u8_not {c k : UInt8} (h : ((c.toNat : Int) == (k.toNat : Int)) = false) : c ≠ k := fun e => by
  subst e
  simp at h
theorem kinds_rest {c : UInt8} {x : Int} (h0 : ((c.toNat : Int) == 117) = false) (h1 : ((c.toNat : Int) == 115) = false) (h2 : ((c.toNat : Int) == 112) = false) (h3 : ((c.toNat : Int) == 99) = false) (h4 : ((c.toNat : Int) == 109) = false) (h5 : ((c.toNat : Int) == 98) = false) (h6 : ((c.toNat : Int) == 118) = false) (h7 : ((c.toNat : Int) == 113) = false) :
    (kindsOf c).contains x = false := by
  unfold kindsOf
  rw [if_neg (u8_not (k := 117) h0), if_neg (u8_not (k := 115) h1), if_neg (u8_not (k := 112) h2), if_neg (u8_not (k := 99) h3), if_neg (u8_not (k := 109) h4), if_neg (u8_not (k := 98) h5), if_neg (u8_not (k := 118) h6), if_neg (u8_not (k := 113) h7)]
  rfl
theorem kinds_one {c : UInt8} {x m : Int} (h : kindsOf c = [m]) : (x == m) = (kindsOf c).contains x := by rw [h, List.contains_cons, List.contains_nil, Bool.or_false]
theorem kinds_two {c : UInt8} {x m n : Int} (h : kindsOf c = [m, n]) : (x == m || x == n) = (kindsOf c).contains x := by rw [h, List.contains_cons, List.contains_cons, List.contains_nil, Bool.or_false]

set_option maxRecDepth 100000 in
set_option maxHeartbeats 2000000 in
theorem fit_any (A : Option Addr) (cap : Nat) (l : List De) (c : UInt8) (o : Int) (hl : l.length ≤ 9223372036854775807) (w : World) (hA : DAt w A l) :
    Calls Tryd.prog 72 #[.slice A l.length cap, .int .u8 (c.toNat : Int), .int .i64 o] w fun e w' => e = .returned (.bool (fits l c o)) ∧ w = w' := by
  by_cases h0 : o < 0
  · have HE : Hid (fits l c o = false) := Lib.hid (fits_out (by omega))
    rw [HE.out]
    have hd : decide (o < 0) = true := by simpa using h0
    clear hA h0
    go_enter Tryd.func72, Tryd.ntmps72
    go_wp2_with fail
    go_ret
    exact ⟨rfl, rfl⟩
  · have hd : decide (o < 0) = false := by simpa using h0
    by_cases h1 : (l.length : Int) ≤ o
    · have HE : Hid (fits l c o = false) := Lib.hid (fits_out (by omega))
      rw [HE.out]
      have hd2 : decide ((l.length : Int) ≤ o) = true := by simpa using h1
      clear hA h0 h1
      go_enter Tryd.func72, Tryd.ntmps72
      go_wp2_with fail
      go_ret
      exact ⟨rfl, rfl⟩
    · obtain ⟨m, rfl⟩ : ∃ m : Nat, o = (m : Int) := ⟨o.toNat, by omega⟩
      have hm : m < l.length := by omega
      have hd2 : decide ((l.length : Int) ≤ (m : Int)) = false := by simpa using h1
      have hm2 : (m : Int) < (l.length : Int) := by omega
      have hm0 : (0 : Int) ≤ (m : Int) := by omega
      have HF : Hid (fits l c m = (kindsOf c).contains (l.getD m zero).1) := Lib.hid (by unfold fits; rw [decide_eq_true (by omega), Bool.true_and, Int.toNat_natCast])
      rw [HF.out]
      obtain ⟨b, off, rfl, hb, c0, _, _⟩ := hA m hm
      generalize (l.getD m zero).1 = x at *
      clear hA h0 h1 HF
      go_enter Tryd.func72, Tryd.ntmps72
      go_wp2
      all_goals go_ret
      all_goals refine ⟨ret_bool ?_, rfl⟩
      all_goals first
        | exact (kinds_rest ‹_› ‹_› ‹_› ‹_› ‹_› ‹_› ‹_› ‹_›).symm
        | (have hq : c = 117 := u8_of (k := 117) ‹((c.toNat : Int) == 117) = true›; subst hq; first | exact kinds_one rfl | exact kinds_two rfl | (rw [← kinds_two (x := x) (m := 1) (n := 2) rfl]; simp [*]))
        | (have hq : c = 115 := u8_of (k := 115) ‹((c.toNat : Int) == 115) = true›; subst hq; exact kinds_one rfl)
        | (have hq : c = 112 := u8_of (k := 112) ‹((c.toNat : Int) == 112) = true›; subst hq; exact kinds_one rfl)
        | (have hq : c = 99 := u8_of (k := 99) ‹((c.toNat : Int) == 99) = true›; subst hq; exact kinds_one rfl)
        | (have hq : c = 109 := u8_of (k := 109) ‹((c.toNat : Int) == 109) = true›; subst hq; exact kinds_one rfl)
        | (have hq : c = 98 := u8_of (k := 98) ‹((c.toNat : Int) == 98) = true›; subst hq; exact kinds_one rfl)
        | (have hq : c = 118 := u8_of (k := 118) ‹((c.toNat : Int) == 118) = true›; subst hq; exact kinds_one rfl)
        | (have hq : c = 113 := u8_of (k := 113) ‹((c.toNat : Int) == 113) = true›; subst hq; first | exact kinds_two rfl | (rw [← kinds_two (x := x) (m := 1) (n := 6) rfl]; simp [*]))
end Go.Proofs.YtahejekcfgkiaaaDoor.objs

/-
  The program's own answer what is wrong with an object (typed over the code of 392f5a9): for every object. The table of names must lie where its initialiser lays it.
-/
namespace Go.Proofs.YtahejekcfgkiaaaDoor.objs
open Go.RowKit Go.ChangeShapes
open Go.Proofs.YtahejekcfgkiaaaDoor.word (Word)
open Go.Proofs.YtahejekcfgkiaaaDoor.span (within_any)
set_option linter.unusedVariables false

/-- May the numbers be that an object's kind has? -/
def rng (l : List De) (d : De) : Bool :=
  if d.1 = 3 then decide (1 ≤ d.2.2 ∧ d.2.2 ≤ 1000) && decide (0 ≤ d.2.1 ∧ d.2.1 ≤ d.2.2) else if d.1 = 6 then decide (1 ≤ d.2.1 ∧ d.2.1 ≤ 1000) else if d.1 = 7 then decide (Word d.2.1) && fits l 117 d.2.2 else true
/-- Has it a number that its kind has not? -/
def more (d : De) : Bool := if d.1 = 3 ∨ d.1 = 7 then false else if d.1 = 6 then d.2.2 != 0 else (d.2.1 != 0 || d.2.2 != 0)
theorem one_6 {l : List De} {d : De} (h : ¬ (1 ≤ d.1 ∧ d.1 ≤ 7)) : one l d = 6 := by unfold one; rw [if_pos (by omega)]
theorem one_parts {l : List De} {d : De} (h : 1 ≤ d.1 ∧ d.1 ≤ 7) : one l d = if rng l d = false then 1 else if more d = true then 2 else 0 := by
  obtain ⟨k, a, b⟩ := d
  dsimp only at h
  unfold one rng more
  dsimp only
  rw [if_neg (by omega)]
  by_cases h3 : k = 3
  · subst h3
    simp only [true_and, if_true, true_or, Bool.false_eq_true, if_false]
    by_cases hr : b < 1 ∨ 1000 < b ∨ a < 0 ∨ b < a
    · rw [if_pos hr, if_pos]
      rw [← Bool.decide_and, decide_eq_false_iff_not]
      omega
    · rw [if_neg hr, if_neg (by omega), if_neg (by omega), if_neg (by omega), if_neg]
      rw [← Bool.decide_and, decide_eq_false_iff_not]
      omega
  · by_cases h6 : k = 6
    · subst h6
      rw [if_neg (by omega), if_neg (by omega : ¬ ((6 : Int) = 3)), if_pos rfl, if_neg (by omega : ¬ ((6 : Int) = 3 ∨ (6 : Int) = 7)), if_pos rfl]
      by_cases hr : a < 1 ∨ 1000 < a
      · rw [if_pos ⟨rfl, hr⟩, if_pos (by rw [decide_eq_false_iff_not]; omega)]
      · have hd : decide (1 ≤ a ∧ a ≤ 1000) = true := by rw [decide_eq_true_iff]; omega
        rw [if_neg (fun h => hr h.2), if_neg (fun h => by omega), hd]
        by_cases hb : b = 0
        · subst hb
          rw [if_neg (by omega)]
          rfl
        · rw [if_pos (by omega), if_neg (by decide : ¬ true = false), if_pos (by simpa using hb)]
    · by_cases h7 : k = 7
      · subst h7
        rw [if_neg (by omega), if_neg (by omega), if_neg (by omega : ¬ ((7 : Int) = 3)), if_neg (by omega : ¬ ((7 : Int) = 6)), if_pos rfl, if_pos (by omega : (7 : Int) = 3 ∨ (7 : Int) = 7)]
        by_cases hw : Word a
        · rw [decide_eq_true hw, Bool.true_and]
          cases hf : fits l 117 b with
          | true =>
            rw [if_neg (by rintro ⟨_, h | h⟩; exact h hw; cases h), if_neg (by omega), if_neg (by decide), if_neg (by decide)]
          | false => rw [if_pos ⟨rfl, .inr rfl⟩, if_pos rfl]
        · rw [decide_eq_false hw, Bool.false_and, if_pos ⟨rfl, .inl hw⟩, if_pos rfl]
      · rw [if_neg (h3 : ¬ k = 3), if_neg (h6 : ¬ k = 6), if_neg (h7 : ¬ k = 7), if_neg (by omega : ¬ (k = 3 ∨ k = 7)), if_neg (fun h => h3 h.1), if_neg (fun h => h6 h.1), if_neg (fun h => h7 h.1), if_neg (by decide : ¬ true = false), if_neg h6]
        by_cases ha : a = 0
        · by_cases hb : b = 0
          · subst ha hb
            rw [if_neg (by omega)]
            rfl
          · rw [if_pos (by omega), if_pos]
            rw [Bool.or_eq_true]
            exact .inr (by simpa using hb)
        · rw [if_pos (by omega), if_pos]
          rw [Bool.or_eq_true]
          exact .inl (by simpa using ha)

set_option maxHeartbeats 1000000 in
theorem range_sem (A : Option Addr) (cap : Nat) (l : List De) (a b : Int) (w : World) :
    Calls Tryd.prog 57 #[.slice A l.length cap, .agg #[.int .i64 3, .int .i64 a, .int .i64 b]] w fun e w' => e = .returned (.bool (rng l (3, a, b))) ∧ Below w.heap.size w w' := by
  have HB := Lib.hid (box_below w 3 a b)
  have H1 := fun W => Lib.hid (within_any b 1 1000 W)
  have H2 := fun W => Lib.hid (within_any a 0 b W)
  have HE : Hid (rng l (3, a, b) = (decide (1 ≤ b ∧ b ≤ 1000) && decide (0 ≤ a ∧ a ≤ b))) := Lib.hid rfl
  rw [HE.out]
  unfold declBox at HB
  generalize decide (1 ≤ b ∧ b ≤ 1000) = p at *
  generalize decide (0 ≤ a ∧ a ≤ b) = q at *
  clear HE
  cases p with
  | true =>
    go_enter Tryd.func57, Tryd.ntmps57
    go_wp2_with fail
    refine (H1 _).out.mono ?_
    rintro e w1 ⟨rfl, rfl⟩
    go_wp2_with fail
    refine (H2 _).out.mono ?_
    rintro e w1 ⟨rfl, rfl⟩
    go_wp2
    go_ret
    exact ⟨rfl, HB.out⟩
  | false =>
    go_enter Tryd.func57, Tryd.ntmps57
    go_wp2_with fail
    refine (H1 _).out.mono ?_
    rintro e w1 ⟨rfl, rfl⟩
    go_wp2
    go_ret
    exact ⟨rfl, HB.out⟩
set_option maxHeartbeats 1000000 in
theorem range_pool (A : Option Addr) (cap : Nat) (l : List De) (a b : Int) (w : World) :
    Calls Tryd.prog 57 #[.slice A l.length cap, .agg #[.int .i64 6, .int .i64 a, .int .i64 b]] w fun e w' => e = .returned (.bool (rng l (6, a, b))) ∧ Below w.heap.size w w' := by
  have HB := Lib.hid (box_below w 6 a b)
  have H1 := fun W => Lib.hid (within_any a 1 1000 W)
  have HE : Hid (rng l (6, a, b) = decide (1 ≤ a ∧ a ≤ 1000)) := Lib.hid rfl
  rw [HE.out]
  unfold declBox at HB
  generalize decide (1 ≤ a ∧ a ≤ 1000) = p at *
  clear HE
  go_enter Tryd.func57, Tryd.ntmps57
  go_wp2_with fail
  refine (H1 _).out.mono ?_
  rintro e w1 ⟨rfl, rfl⟩
  go_wp2
  go_ret
  exact ⟨rfl, HB.out⟩
set_option maxHeartbeats 1000000 in
theorem range_cell (A : Option Addr) (cap : Nat) (l : List De) (a b : Int) (hl : l.length ≤ 9223372036854775807) (w : World) (hA : DAt w A l) :
    Calls Tryd.prog 57 #[.slice A l.length cap, .agg #[.int .i64 7, .int .i64 a, .int .i64 b]] w fun e w' => e = .returned (.bool (rng l (7, a, b))) ∧ Below w.heap.size w w' := by
  have hb0 := box_below w 7 a b
  have HB := Lib.hid hb0
  have H1 := fun W => Lib.hid (Go.Proofs.YtahejekcfgkiaaaDoor.word.fits_any a W)
  have H2 := Lib.hid (fit_any A cap l 117 b hl _ (hA.next hb0))
  rw [show (((117 : UInt8).toNat : Nat) : Int) = 117 from rfl] at H2
  have HE : Hid (rng l (7, a, b) = (decide (Word a) && fits l 117 b)) := Lib.hid rfl
  rw [HE.out]
  unfold declBox at HB H2
  generalize decide (Word a) = p at *
  generalize fits l 117 b = q at *
  clear HE hA hb0
  cases p with
  | true =>
    go_enter Tryd.func57, Tryd.ntmps57
    go_wp2_with fail
    refine (H1 _).out.mono ?_
    rintro e w1 ⟨rfl, rfl⟩
    go_wp2_with fail
    refine H2.out.mono ?_
    rintro e w1 ⟨rfl, rfl⟩
    go_wp2
    go_ret
    exact ⟨rfl, HB.out⟩
  | false =>
    go_enter Tryd.func57, Tryd.ntmps57
    go_wp2_with fail
    refine (H1 _).out.mono ?_
    rintro e w1 ⟨rfl, rfl⟩
    go_wp2
    go_ret
    exact ⟨rfl, HB.out⟩
set_option maxHeartbeats 1000000 in
theorem range_bare (A : Option Addr) (cap : Nat) (l : List De) (k a b : Int) (h3 : k ≠ 3) (h6 : k ≠ 6) (h7 : k ≠ 7) (w : World) :
    Calls Tryd.prog 57 #[.slice A l.length cap, .agg #[.int .i64 k, .int .i64 a, .int .i64 b]] w fun e w' => e = .returned (.bool (rng l (k, a, b))) ∧ Below w.heap.size w w' := by
  have HB := Lib.hid (box_below w k a b)
  have HE : Hid (rng l (k, a, b) = true) := Lib.hid (by unfold rng; rw [if_neg h3, if_neg h6, if_neg h7])
  rw [HE.out]
  have e3 : (k == 3) = false := by simpa using h3
  have e6 : (k == 6) = false := by simpa using h6
  have e7 : (k == 7) = false := by simpa using h7
  clear HE h3 h6 h7
  go_enter Tryd.func57, Tryd.ntmps57
  go_wp2
  go_ret
  exact ⟨rfl, HB.out⟩
theorem range_any (A : Option Addr) (cap : Nat) (l : List De) (d : De) (hl : l.length ≤ 9223372036854775807) (w : World) (hA : DAt w A l) :
    Calls Tryd.prog 57 #[.slice A l.length cap, .agg #[.int .i64 d.1, .int .i64 d.2.1, .int .i64 d.2.2]] w fun e w' => e = .returned (.bool (rng l d)) ∧ Below w.heap.size w w' := by
  obtain ⟨k, a, b⟩ := d
  dsimp only
  by_cases h3 : k = 3
  · subst h3; exact range_sem A cap l a b w
  · by_cases h6 : k = 6
    · subst h6; exact range_pool A cap l a b w
    · by_cases h7 : k = 7
      · subst h7; exact range_cell A cap l a b hl w hA
      · exact range_bare A cap l k a b h3 h6 h7 w

set_option maxHeartbeats 1000000 in
theorem more_any (d : De) (w : World) :
    Calls Tryd.prog 58 #[.agg #[.int .i64 d.1, .int .i64 d.2.1, .int .i64 d.2.2]] w fun e w' => e = .returned (.bool (more d)) ∧ Below w.heap.size w w' := by
  obtain ⟨k, a, b⟩ := d
  dsimp only
  have HB := Lib.hid (box_below w k a b)
  unfold declBox at HB
  by_cases h : k = 3 ∨ k = 7
  · have HE : Hid (more (k, a, b) = false) := Lib.hid (by unfold more; rw [if_pos h])
    rw [HE.out]
    rcases h with rfl | rfl
    all_goals
      go_enter Tryd.func58, Tryd.ntmps58
      go_wp2
      go_ret
      exact ⟨rfl, HB.out⟩
  · have e3 : (k == 3) = false := by simp; omega
    have e7 : (k == 7) = false := by simp; omega
    by_cases h6 : k = 6
    · subst h6
      have HE : Hid (more (6, a, b) = (b != 0)) := Lib.hid (by unfold more; rw [if_neg h, if_pos rfl])
      rw [HE.out]
      clear h
      go_enter Tryd.func58, Tryd.ntmps58
      go_wp2
      go_ret
      exact ⟨rfl, HB.out⟩
    · have HE : Hid (more (k, a, b) = (a != 0 || b != 0)) := Lib.hid (by unfold more; rw [if_neg h, if_neg h6])
      rw [HE.out]
      have e6 : (k == 6) = false := by simpa using h6
      clear h h6 HE
      cases ha : (a != 0) with
      | true =>
        rw [Bool.true_or]
        go_enter Tryd.func58, Tryd.ntmps58
        go_wp2
        go_ret
        exact ⟨rfl, HB.out⟩
      | false =>
        rw [Bool.false_or]
        go_enter Tryd.func58, Tryd.ntmps58
        go_wp2
        go_ret
        exact ⟨rfl, HB.out⟩

/-- An object that came in, in a block of its own. -/
structure Bx (w : World) (A : Option Addr) (l : List De) (d : De) (W : World) : Prop where
  below : Below w.heap.size w W
  blk : W.heap[w.heap.size]? = some (.cells #[.int .i64 d.1, .int .i64 d.2.1, .int .i64 d.2.2] 41 (0, 0))
  list : DAt W A l
  ok : Okd W
theorem bx_new {w : World} {A : Option Addr} {l : List De} (d : De) (hA : DAt w A l) (hw : Okd w) : Bx w A l d (w.alloc (.cells #[.int .i64 d.1, .int .i64 d.2.1, .int .i64 d.2.2] 41)) :=
  have hb : Below w.heap.size w (w.alloc (.cells #[.int .i64 d.1, .int .i64 d.2.1, .int .i64 d.2.2] 41)) := (Below.refl _ _).alloc (Nat.le_refl _) _
  ⟨hb, heap_alloc_new w _, hA.next hb, hw.next hb⟩
theorem Bx.next {w W W' : World} {A : Option Addr} {l : List De} {d : De} (h : Bx w A l d W) (hb : Below W.heap.size W W') : Bx w A l d W' := by
  have h1 := lt_of_block h.blk
  exact ⟨h.below.trans (hb.mono (Nat.le_of_lt h1)), (hb.block _ h1).trans h.blk, h.list.next hb, h.ok.next hb⟩
theorem Bx.cells {w W : World} {A : Option Addr} {l : List De} {d : De} (h : Bx w A l d W) : W.cell? ⟨w.heap.size, 0, none⟩ = some (.int .i64 d.1) ∧ W.cell? ⟨w.heap.size, 1, none⟩ = some (.int .i64 d.2.1) ∧ W.cell? ⟨w.heap.size, 2, none⟩ = some (.int .i64 d.2.2) := by
  unfold World.cell?
  rw [h.blk]
  exact ⟨rfl, rfl, rfl⟩

set_option maxHeartbeats 2000000 in
theorem one_any (A : Option Addr) (cap : Nat) (l : List De) (d : De) (hl : l.length ≤ 9223372036854775807) (w : World) (hA : DAt w A l) (hw : Okd w) :
    Calls Tryd.prog 39 #[.slice A l.length cap, .agg #[.int .i64 d.1, .int .i64 d.2.1, .int .i64 d.2.2]] w (OnePost l d w) := by
  have HX := Lib.hid (bx_new d hA hw)
  have HK := fun W hW => Lib.hid (known_any d.1 W hW)
  have HR := fun W hW => Lib.hid (range_any A cap l d hl W hW)
  have HM := fun W => Lib.hid (more_any d W)
  have H6 := fun h => Lib.hid (one_6 (l := l) (d := d) h)
  have HP := fun h => Lib.hid (one_parts (l := l) (d := d) h)
  clear hA hw
  unfold OnePost
  generalize one l d = v at *
  generalize rng l d = r at *
  generalize more d = m at *
  obtain ⟨k, a, b⟩ := d
  dsimp only at HX HK HR HM H6 HP ⊢
  obtain ⟨c0, c1, c2⟩ := HX.out.cells
  by_cases hk : 1 ≤ k ∧ k ≤ 7
  · rw [decide_eq_true hk] at HK
    have HV := HP hk
    clear H6 HP hk
    go_enter Tryd.func39, Tryd.ntmps39
    go_wp2_with fail
    refine (HK _ HX.out.ok).out.mono ?_
    rintro e w1 ⟨rfl, rfl⟩
    go_wp2_with fail
    refine (HR _ HX.out.list).out.mono ?_
    rintro e w1 ⟨rfl, hb1⟩
    have HX1 := Lib.hid (HX.out.next hb1)
    clear c0 c1 c2 hb1 HX HR HK
    obtain ⟨c0, c1, c2⟩ := HX1.out.cells
    cases r with
    | false =>
      go_wp2
      go_ret
      exact ⟨ret_int (by rw [HV.out]; rfl), HX1.out.below⟩
    | true =>
      go_wp2_with fail
      refine (HM _).out.mono ?_
      rintro e w1 ⟨rfl, hb1⟩
      have HX2 := Lib.hid (HX1.out.next hb1)
      clear c0 c1 c2 hb1 HX1 HM
      cases m with
      | true =>
        go_wp2
        go_ret
        exact ⟨ret_int (by rw [HV.out]; rfl), HX2.out.below⟩
      | false =>
        go_wp2
        go_ret
        exact ⟨ret_int (by rw [HV.out]; rfl), HX2.out.below⟩
  · rw [decide_eq_false hk] at HK
    have HV := H6 hk
    clear H6 HP hk HR HM
    go_enter Tryd.func39, Tryd.ntmps39
    go_wp2_with fail
    refine (HK _ HX.out.ok).out.mono ?_
    rintro e w1 ⟨rfl, rfl⟩
    go_wp2
    go_ret
    exact ⟨ret_int (by rw [HV.out]; rfl), HX.out.below⟩
end Go.Proofs.YtahejekcfgkiaaaDoor.objs

/-
  The program's own answer where the first object stands that may not be, and why (typed over the code of 392f5a9): for every list that an int can count. The table of names must lie where its initialiser lays it.
-/
namespace Go.Proofs.YtahejekcfgkiaaaDoor.objs
open Go.RowKit Go.ChangeShapes
set_option linter.unusedVariables false

/-- Between two objects. -/
structure Cs (w : World) (A : Option Addr) (l : List De) (W : World) : Prop where
  below : Below w.heap.size w W
  list : DAt W A l
  ok : Okd W
theorem Cs.next {w W W' : World} {A : Option Addr} {l : List De} (h : Cs w A l W) (hb : Below W.heap.size W W') : Cs w A l W' := ⟨h.below.trans (hb.mono h.below.size), h.list.next hb, h.ok.next hb⟩
theorem Cs.box {w W : World} {A : Option Addr} {l : List De} (h : Cs w A l W) (d : De) : Cs w A l (W.alloc (declBox d.1 d.2.1 d.2.2)) := h.next ((Below.refl _ _).alloc (Nat.le_refl _) _)
theorem box_at (W : World) (d : De) : (W.alloc (declBox d.1 d.2.1 d.2.2)).cell? ⟨W.heap.size, 0, none⟩ = some (.int .i64 d.1) ∧ (W.alloc (declBox d.1 d.2.1 d.2.2)).cell? ⟨W.heap.size, 1, none⟩ = some (.int .i64 d.2.1) ∧ (W.alloc (declBox d.1 d.2.1 d.2.2)).cell? ⟨W.heap.size, 2, none⟩ = some (.int .i64 d.2.2) := by
  unfold World.cell?
  rw [heap_alloc_new W _]
  exact ⟨rfl, rfl, rfl⟩

set_option maxHeartbeats 1000000 in
theorem check_long (A : Option Addr) (cap n : Nat) (hn : 32 < n) (w : World) :
    Calls Tryd.prog 23 #[.slice A n cap] w (ChkPost (0, 4) w) := by
  unfold ChkPost
  have hd : decide ((32 : Int) < (n : Int)) = true := by simp; omega
  clear hn
  go_enter Tryd.func23, Tryd.ntmps23
  go_wp2_with fail
  go_ret2
  exact ⟨rfl, Below.refl _ _⟩
set_option maxRecDepth 100000 in
set_option maxHeartbeats 4000000 in
theorem check_any (A : Option Addr) (cap : Nat) (l : List De) (hl : l.length ≤ 9223372036854775807) (w : World) (hA : DAt w A l) (hw : Okd w) :
    Calls Tryd.prog 23 #[.slice A l.length cap] w (ChkPost (chk l) w) := by
  by_cases h32 : 32 < l.length
  · rw [chk_long h32]
    exact check_long A cap l.length h32 w
  · obtain ⟨p, hp⟩ : ∃ p, p = chk l := ⟨_, rfl⟩
    have HP := Lib.hid hp
    rw [← hp]
    unfold ChkPost
    have hd : decide ((32 : Int) < (l.length : Int)) = false := by simp; omega
    have HC0 : Hid (Cs w A l w) := Lib.hid ⟨Below.refl _ _, hA, hw⟩
    have H32 := Lib.hid h32
    clear hA hw h32 hp
    go_enter Tryd.func23, Tryd.ntmps23
    go_wp2_with fail
    go_loopw [12] (fun i wr => ∃ j : Nat, j ≤ l.length ∧ i = .int .i64 (j : Int) ∧ Hid (j ≤ bad l) ∧ Hid (Cs w A l wr)) (fun i _ => l.length - (intOf i).toNat)
    case atStart => exact ⟨0, Nat.zero_le _, rfl, Lib.hid (Nat.zero_le _), HC0⟩
    case round =>
      obtain ⟨j, hj, rfl, HJ, HS⟩ := hrel
      by_cases hlt : j < l.length
      · have HO := fun W (hW : Cs w A l W) => Lib.hid (one_any A cap l (l.getD j zero) hl W hW.list hW.ok)
        obtain ⟨b, off, rfl, hb, c0, c1, c2⟩ := HS.out.list j hlt
        have hlt' : (j : Int) < (l.length : Int) := by omega
        unfold OnePost at HO
        have HBad := fun h => Lib.hid (chk_bad H32.out HJ.out hlt h)
        have HNx := fun h => Lib.hid (bad_next HJ.out hlt h)
        generalize l.getD j zero = d at *
        generalize one l d = q at *
        have HS1 := Lib.hid (HS.out.box d)
        have hbx := box_at wr d
        obtain ⟨k, x, y⟩ := d
        unfold declBox at HS1 hbx
        dsimp only at HO c0 c1 c2 HS1 hbx
        clear HS
        go_upto_region 6 with fail
        clear c0 c1 c2
        generalize wr.alloc (.cells #[.int .i64 k, .int .i64 x, .int .i64 y] 41) = W1 at *
        generalize wr.heap.size = g at *
        obtain ⟨c0, c1, c2⟩ := hbx
        by_cases hq : q = 0
        · subst hq
          have HE := HNx rfl
          clear HBad HNx
          go_wp2_with fail
          refine (HO _ HS1.out).out.mono ?_
          rintro e w1 ⟨rfl, hb1⟩
          have HS2 := Lib.hid (HS1.out.next hb1)
          clear hb1 c0 c1 c2
          go_wp2
          go_roundw
          case rel => exact ⟨j + 1, by omega, by go_num, HE, HS2⟩
          case measure => simp [intOf]; omega
        · have HE := HBad hq
          have hq' : ((q : Int) != 0) = true := by simpa using hq
          clear HBad HNx hq
          go_wp2_with fail
          refine (HO _ HS1.out).out.mono ?_
          rintro e w1 ⟨rfl, hb1⟩
          have HS2 := Lib.hid (HS1.out.next hb1)
          clear hb1 c0 c1 c2
          go_wp2
          go_ret2
          exact ⟨by rw [HP.out, HE.out]; rfl, HS2.out.below⟩
      · obtain rfl : j = l.length := by omega
        have HE := Lib.hid (chk_fine H32.out HJ.out)
        go_wp2_with fail
        go_ret2
        exact ⟨by rw [HP.out, HE.out]; rfl, HS.out.below⟩
end Go.Proofs.YtahejekcfgkiaaaDoor.objs

/-
  The program's own answer whether a need of a kind that there is asks what may be (typed over the code of 5ef5b61): for every need. The tables must lie where their initialisers lay them.
-/
namespace Go.Proofs.YtahejekcfgkiaaaDoor.need
open Go.RowKit Go.ChangeShapes
open Go.Proofs.YtahejekcfgkiaaaDoor.objs (De zero CellsAt DAt)
open Go.Proofs.YtahejekcfgkiaaaDoor.span (within_any)
set_option linter.unusedVariables false

/-- May the number be that a need has, of an object with numbers y, z? -/
def amount (k : Nat) (b y z : Int) : Bool := if k = 4 then decide (1 ≤ b ∧ b ≤ z) else if k = 5 then decide (1 ≤ b ∧ b ≤ y) else b == 0
theorem oneN_out {d : List De} {kk : Nat} {a b : Int} (h1 : 1 ≤ kk) (h5 : kk ≤ 5) (ho : a < 0 ∨ (d.length : Int) ≤ a) : oneN d ((kk : Int), a, b) = 1 := by
  unfold oneN
  dsimp only
  rw [if_neg (by omega), if_pos (by rcases ho with h | h; exact .inl h; exact .inr (.inl h))]
theorem oneN_in {d : List De} {kk m : Nat} {b x y z : Int} (h1 : 1 ≤ kk) (h5 : kk ≤ 5) (hm : m < d.length) (hd : d.getD m zero = (x, y, z)) : decide (oneN d ((kk : Int), (m : Int), b) = 0) = (!(x != kn kk) && amount kk b y z) := by
  unfold oneN hi lo amount
  dsimp only
  rw [if_neg (by omega), Int.toNat_natCast, hd]
  dsimp only
  by_cases hx : x = kn kk
  · rw [if_neg (by rintro (h | h | h); omega; omega; exact h hx)]
    have e : (x != kn kk) = false := by simp [hx]
    rw [e, Bool.not_false, Bool.true_and]
    by_cases e4 : kk = 4
    · have q1 : (if (kk : Int) = 4 ∨ (kk : Int) = 5 then (1 : Int) else 0) = 1 := if_pos (by omega)
      have q2 : (if (kk : Int) = 4 then z else if (kk : Int) = 5 then y else 0) = z := if_pos (by omega)
      rw [q1, q2, if_pos e4]
      by_cases hc : 1 ≤ b ∧ b ≤ z
      · rw [if_neg (by omega), decide_eq_true hc]; rfl
      · rw [if_pos (by omega), decide_eq_false hc]; rfl
    · by_cases e5 : kk = 5
      · have q1 : (if (kk : Int) = 4 ∨ (kk : Int) = 5 then (1 : Int) else 0) = 1 := if_pos (by omega)
        have q2 : (if (kk : Int) = 4 then z else if (kk : Int) = 5 then y else 0) = y := by rw [if_neg (by omega), if_pos (by omega)]
        rw [q1, q2, if_neg e4, if_pos e5]
        by_cases hc : 1 ≤ b ∧ b ≤ y
        · rw [if_neg (by omega), decide_eq_true hc]; rfl
        · rw [if_pos (by omega), decide_eq_false hc]; rfl
      · have q1 : (if (kk : Int) = 4 ∨ (kk : Int) = 5 then (1 : Int) else 0) = 0 := if_neg (by omega)
        have q2 : (if (kk : Int) = 4 then z else if (kk : Int) = 5 then y else 0) = 0 := by rw [if_neg (by omega), if_neg (by omega)]
        rw [q1, q2, if_neg e4, if_neg e5]
        by_cases hc : b = 0
        · subst hc; rfl
        · rw [if_pos (by omega)]
          simp [hc]
  · rw [if_pos (.inr (.inr hx))]
    have e : (x != kn kk) = true := by simpa using hx
    rw [e]
    rfl

/-- Behind the need's box. -/
structure Nb (w : World) (A : Option Addr) (d : List De) (k a b : Int) (W : World) : Prop where
  below : Below w.heap.size w W
  box : W.cell? ⟨w.heap.size, 0, none⟩ = some (.int .i64 k) ∧ W.cell? ⟨w.heap.size, 1, none⟩ = some (.int .i64 a) ∧ W.cell? ⟨w.heap.size, 2, none⟩ = some (.int .i64 b)
  list : DAt W A d
  ok : Oka W
theorem nb_new {w : World} {A : Option Addr} {d : List De} (k a b : Int) (hA : DAt w A d) (hw : Oka w) : Nb w A d k a b (w.alloc (needBox k a b)) := by
  have hb := nbox_below w k a b
  refine ⟨hb, ?_, hA.next hb, hw.next hb⟩
  unfold World.cell?
  rw [heap_alloc_new w _]
  exact ⟨rfl, rfl, rfl⟩
/-- Behind the object's box. -/
structure Ob (w : World) (g2 : Nat) (k a b x y z : Int) (W : World) : Prop where
  below : Below w.heap.size w W
  box : W.cell? ⟨w.heap.size, 0, none⟩ = some (.int .i64 k) ∧ W.cell? ⟨w.heap.size, 1, none⟩ = some (.int .i64 a) ∧ W.cell? ⟨w.heap.size, 2, none⟩ = some (.int .i64 b)
  obj : W.cell? ⟨g2, 0, none⟩ = some (.int .i64 x) ∧ W.cell? ⟨g2, 1, none⟩ = some (.int .i64 y) ∧ W.cell? ⟨g2, 2, none⟩ = some (.int .i64 z)
  ok : Oka W
def objBox (x y z : Int) : Obj := .cells #[.int .i64 x, .int .i64 y, .int .i64 z] 41
theorem Nb.obj {w W : World} {A : Option Addr} {d : List De} {k a b : Int} (h : Nb w A d k a b W) (x y z : Int) : Ob w W.heap.size k a b x y z (W.alloc (objBox x y z)) := by
  have hb : Below W.heap.size W (W.alloc (objBox x y z)) := (Below.refl _ W).alloc (Nat.le_refl _) _
  have hg : w.heap.size < W.heap.size := by
    rcases Nat.lt_or_ge w.heap.size W.heap.size with h1 | h1
    · exact h1
    · have := h.box.1
      simp [World.cell?, Array.getElem?_eq_none h1] at this
  refine ⟨h.below.trans (hb.mono h.below.size), ?_, ?_, h.ok.next hb⟩
  · rw [hb.cell (p := ⟨w.heap.size, 0, none⟩) hg, hb.cell (p := ⟨w.heap.size, 1, none⟩) hg, hb.cell (p := ⟨w.heap.size, 2, none⟩) hg]
    exact h.box
  · unfold World.cell?
    rw [heap_alloc_new W _]
    exact ⟨rfl, rfl, rfl⟩

set_option maxRecDepth 100000 in
set_option maxHeartbeats 2000000 in
theorem range_out (A : Option Addr) (cap : Nat) (d : List De) (kk : Nat) (a b : Int) (h1 : 1 ≤ kk) (h5 : kk ≤ 5) (ho : a < 0 ∨ (d.length : Int) ≤ a) (w : World) :
    Calls Tryd.prog 61 #[.slice A d.length cap, .agg #[.int .i64 (kk : Int), .int .i64 a, .int .i64 b]] w fun e w' => e = .returned (.bool (decide (oneN d ((kk : Int), a, b) = 0))) ∧ Below w.heap.size w w' := by
  rw [oneN_out h1 h5 ho, decide_eq_false (by decide)]
  have HB := Lib.hid (nbox_below w (kk : Int) a b)
  unfold needBox at HB
  by_cases h0 : a < 0
  · have d0 : decide (a < 0) = true := by simpa using h0
    clear ho h0
    go_enter Tryd.func61, Tryd.ntmps61
    go_wp2
    go_ret
    exact ⟨rfl, HB.out⟩
  · have d0 : decide (a < 0) = false := by simpa using h0
    have dl : decide ((d.length : Int) ≤ a) = true := by simp; omega
    clear ho h0
    go_enter Tryd.func61, Tryd.ntmps61
    go_wp2
    go_ret
    exact ⟨rfl, HB.out⟩

set_option maxRecDepth 100000 in
set_option maxHeartbeats 4000000 in
theorem range_in (A : Option Addr) (cap : Nat) (d : List De) (kk m : Nat) (b : Int) (h1 : 1 ≤ kk) (h5 : kk ≤ 5) (hm : m < d.length) (hl : d.length ≤ 9223372036854775807) (w : World) (hA : DAt w A d) (hw : Oka w) :
    Calls Tryd.prog 61 #[.slice A d.length cap, .agg #[.int .i64 (kk : Int), .int .i64 (m : Int), .int .i64 b]] w fun e w' => e = .returned (.bool (decide (oneN d ((kk : Int), (m : Int), b) = 0))) ∧ Below w.heap.size w w' := by
  obtain ⟨⟨x, y, z⟩, hdm⟩ : ∃ t : De, d.getD m zero = t := ⟨_, rfl⟩
  obtain ⟨r, hr⟩ : ∃ r, r = decide (oneN d ((kk : Int), (m : Int), b) = 0) := ⟨_, rfl⟩
  rw [← hr]
  have HR := Lib.hid (hr.trans (oneN_in h1 h5 hm hdm))
  have HN := Lib.hid (nb_new (kk : Int) (m : Int) b hA hw)
  have HO := Lib.hid (HN.out.obj x y z)
  have H1 := fun W => Lib.hid (within_any b 1 z W)
  have H2 := fun W => Lib.hid (within_any b 1 y W)
  have d0 : decide ((m : Int) < 0) = false := by simp
  have dl : decide (d.length ≤ m) = false := by simp; omega
  have dm : (m : Int) < (d.length : Int) := by omega
  have dm0 : (0 : Int) ≤ (m : Int) := by omega
  have dk : (kk : Int) < 6 := by omega
  have dk0 : (0 : Int) ≤ (kk : Int) := by omega
  have hb0 := hA.next (nbox_below w (kk : Int) (m : Int) b)
  obtain ⟨b0, off, rfl, hbl, x0, x1, x2⟩ := hb0 m hm
  rw [hdm] at x0 x1 x2
  dsimp only at x0 x1 x2
  obtain ⟨c0, c1, c2⟩ := HN.out.box
  have hk := asked_kn h1 h5
  have HK := Lib.hid (And.intro h1 h5)
  unfold needBox at HO c0 c1 c2 x0 x1 x2
  rw [World.size_alloc] at HO
  unfold objBox at HO
  clear hA hw hm h1 h5 hb0 hbl HN hdm hr
  go_enter Tryd.func61, Tryd.ntmps61
  go_upto_region 4 with fail
  clear c0 c1 c2 x0 x1 x2
  generalize (w.alloc (.cells #[.int .i64 (kk : Int), .int .i64 (m : Int), .int .i64 b] 72)).alloc (.cells #[.int .i64 x, .int .i64 y, .int .i64 z] 41) = W at *
  obtain ⟨c0, c1, c2⟩ := HO.out.box
  obtain ⟨x0, x1, x2⟩ := HO.out.obj
  have ck := HO.out.ok.ak kk (by omega)
  rw [hk] at ck
  cases hx : (x != kn (kk : Int)) with
  | true =>
    have HE : Hid (r = false) := Lib.hid (by rw [HR.out, hx]; rfl)
    go_quiet (fail)
    go_wp2
    go_ret
    exact ⟨ret_bool (by rw [HE.out]), below_drewN HO.out.below _⟩
  | false =>
    have HE : Hid (r = amount kk b y z) := Lib.hid (by rw [HR.out, hx, Bool.not_false, Bool.true_and])
    clear HR
    unfold amount at HE
    by_cases e4 : kk = 4
    · rw [if_pos e4] at HE
      have f4 : ((kk : Int) == 4) = true := by simp; omega
      clear e4
      go_quiet (fail)
      go_wp2_with fail
      refine (H1 _).out.mono ?_
      rintro e w1 ⟨rfl, rfl⟩
      go_wp2
      go_ret
      exact ⟨ret_bool (by rw [HE.out, Bool.decide_and]), below_drewN HO.out.below _⟩
    · rw [if_neg e4] at HE
      have f4 : ((kk : Int) == 4) = false := by simp; omega
      by_cases e5 : kk = 5
      · rw [if_pos e5] at HE
        have f5 : ((kk : Int) == 5) = true := by simp; omega
        clear e4 e5
        go_quiet (fail)
        go_wp2_with fail
        refine (H2 _).out.mono ?_
        rintro e w1 ⟨rfl, rfl⟩
        go_wp2
        go_ret
        exact ⟨ret_bool (by rw [HE.out, Bool.decide_and]), below_drewN HO.out.below _⟩
      · rw [if_neg e5] at HE
        have f5 : ((kk : Int) == 5) = false := by simp; omega
        clear e4 e5
        go_quiet (fail)
        go_wp2
        go_ret
        exact ⟨ret_bool HE.out.symm, below_drewN HO.out.below _⟩

theorem range_any (A : Option Addr) (cap : Nat) (d : List De) (n : De) (hk : 1 ≤ n.1 ∧ n.1 ≤ 5) (hl : d.length ≤ 9223372036854775807) (w : World) (hA : DAt w A d) (hw : Oka w) :
    Calls Tryd.prog 61 #[.slice A d.length cap, .agg #[.int .i64 n.1, .int .i64 n.2.1, .int .i64 n.2.2]] w fun e w' => e = .returned (.bool (decide (oneN d n = 0))) ∧ Below w.heap.size w w' := by
  obtain ⟨k, a, b⟩ := n
  dsimp only at hk ⊢
  obtain ⟨kk, rfl⟩ : ∃ kk : Nat, k = (kk : Int) := ⟨k.toNat, by omega⟩
  by_cases ho : a < 0 ∨ (d.length : Int) ≤ a
  · exact range_out A cap d kk a b (by omega) (by omega) ho w
  · obtain ⟨m, rfl⟩ : ∃ m : Nat, a = (m : Int) := ⟨a.toNat, by omega⟩
    exact range_in A cap d kk m b (by omega) (by omega) (by omega) hl w hA hw
end Go.Proofs.YtahejekcfgkiaaaDoor.need

/-
  The document's own answer what is wrong with a wait: also of one that is longer than may be. No condition but that its lengths are ints.
-/
namespace Go.Proofs.YtahejekcfgkiaaaDoor.need
open Go.RowKit Go.ChangeShapes
open Go.Proofs.YtahejekcfgkiaaaDoor.objs (De zero CellsAt DAt below_drewN)
set_option linter.unusedVariables false

theorem clashTo_yes {l : List De} {k j : Nat} (hj : j < k) (h : clash (l.getD j zero) (l.getD k zero) = true) : ∀ m, j < m → clashTo l k m = true := by
  intro m
  induction m with
  | zero => intro h; omega
  | succ m ih =>
    intro hm
    unfold clashTo
    rcases Nat.lt_or_ge j m with h1 | h1
    · rw [ih h1, Bool.true_or]
    · obtain rfl : m = j := by omega
      rw [h, Bool.or_true]
theorem twiceTo_yes {l : List De} {k : Nat} (h : clashTo l k k = true) : ∀ m, k < m → twiceTo l m = true := by
  intro m
  induction m with
  | zero => intro h; omega
  | succ m ih =>
    intro hm
    unfold twiceTo
    rcases Nat.lt_or_ge k m with h1 | h1
    · rw [ih h1, Bool.true_or]
    · obtain rfl : m = k := by omega
      rw [h, Bool.or_true]
theorem chkWay_2 {d l : List De} (h : l.length = 0) : chkWay d l = 2 := by unfold chkWay; rw [if_pos h]
theorem chkWay_4 {d l : List De} (h : 4 < l.length) : chkWay d l = 4 := by unfold chkWay; rw [if_neg (by omega), if_pos h]
theorem chkWay_bad {d l : List De} (h0 : l.length ≠ 0) (h4 : ¬ 4 < l.length) (h : ones d l ≠ 0) : chkWay d l = ones d l := by unfold chkWay; rw [if_neg h0, if_neg h4, if_pos h]
theorem chkWay_twice {d l : List De} (h0 : l.length ≠ 0) (h4 : ¬ 4 < l.length) (h1 : ones d l = 0) (h : twiceTo l l.length = true) : chkWay d l = 2 := by unfold chkWay; rw [if_neg h0, if_neg h4, if_neg (by omega), if_pos h]
theorem chkWay_fine {d l : List De} (h0 : l.length ≠ 0) (h4 : ¬ 4 < l.length) (h1 : ones d l = 0) (h : twiceTo l l.length = false) : chkWay d l = 0 := by unfold chkWay; rw [if_neg h0, if_neg h4, if_neg (by omega), if_neg (by rw [h]; decide)]

def ChkPost9 (c : Nat) (w : World) (e : Ending) (w' : World) : Prop := e = .returned (.int .i64 (c : Nat)) ∧ Below w.heap.size w w'
end Go.Proofs.YtahejekcfgkiaaaDoor.need

/-
  The plain mathematics of sets of numbers from 0 to 63, as numbers below two to the sixty-fourth: what is in one, with a number and without it, all moved. It speaks of numbers and lists alone.
-/
namespace Go.Proofs.YtahejekcfgkiaaaDoor.bits

/-- One with all its numbers below 64. -/
def Is64 (s : Nat) : Prop := s < 18446744073709551616
theorem two64 : (2 : Nat) ^ 64 = 18446744073709551616 := rfl
theorem ext64 {s t : Nat} (hs : Is64 s) (ht : Is64 t) (h : ∀ n, n < 64 → s.testBit n = t.testBit n) : s = t := by
  apply Nat.eq_of_testBit_eq
  intro n
  by_cases hn : n < 64
  · exact h n hn
  · have hp : (2 : Nat) ^ 64 ≤ 2 ^ n := Nat.pow_le_pow_right (by omega) (by omega)
    unfold Is64 at hs ht
    rw [Nat.testBit_lt_two_pow (by omega), Nat.testBit_lt_two_pow (by omega)]

theorem testBit_div (s n : Nat) : s.testBit n = decide (s / 2 ^ n % 2 = 1) := by
  rw [Nat.testBit_eq_decide_div_mod_eq]

/-- A number more: the weight of one that is not there. -/
theorem add_pow {s n : Nat} (h : s.testBit n = false) : s + 2 ^ n = s ||| 2 ^ n := by
  have h1 : s / 2 ^ n % 2 = 0 := by
    rw [testBit_div] at h
    have h2 : ¬ s / 2 ^ n % 2 = 1 := by simpa using h
    omega
  have hp : 0 < 2 ^ n := Nat.two_pow_pos n
  have hlo : s % 2 ^ n < 2 ^ n := Nat.mod_lt _ hp
  have hs : s = s / 2 ^ n * 2 ^ n + s % 2 ^ n := by rw [Nat.mul_comm]; exact (Nat.div_add_mod s (2 ^ n)).symm
  obtain ⟨q, hq⟩ : ∃ q, s / 2 ^ n = 2 * q := ⟨s / 2 ^ n / 2, by omega⟩
  have hhi : s / 2 ^ n * 2 ^ n = q * 2 ^ (n + 1) := by rw [hq, Nat.pow_succ, Nat.mul_comm 2 q, Nat.mul_assoc, Nat.mul_comm 2 (2 ^ n)]
  generalize s % 2 ^ n = lo at *
  rw [hhi] at hs
  have e1 : q * 2 ^ (n + 1) ||| lo = q * 2 ^ (n + 1) + lo := nat_join (n + 1) _ lo (Nat.mul_mod_left _ _) (by rw [Nat.pow_succ]; omega)
  have e2 : 2 ^ n ||| lo = 2 ^ n + lo := nat_join n _ lo (Nat.mod_self _) hlo
  have e3 : q * 2 ^ (n + 1) ||| (2 ^ n + lo) = q * 2 ^ (n + 1) + (2 ^ n + lo) := nat_join (n + 1) _ _ (Nat.mul_mod_left _ _) (by rw [Nat.pow_succ]; omega)
  rw [hs, ← e1, Nat.or_assoc, Nat.or_comm lo, e2, e3, e1]
  omega

def ins (s n : Nat) : Nat := if s.testBit n then s else s + 2 ^ n
def del (s n : Nat) : Nat := if s.testBit n then s - 2 ^ n else s
theorem ins_or (s n : Nat) : ins s n = s ||| 2 ^ n := by
  unfold ins
  by_cases h : s.testBit n = true
  · rw [if_pos h]
    apply Nat.eq_of_testBit_eq
    intro m
    rw [Nat.testBit_or, Nat.testBit_two_pow]
    by_cases hm : n = m
    · subst hm; simp [h]
    · simp [hm]
  · have h' : s.testBit n = false := by simpa using h
    rw [if_neg h, add_pow h']
theorem testBit_ins (s n m : Nat) : (ins s n).testBit m = (s.testBit m || decide (n = m)) := by
  rw [ins_or, Nat.testBit_or, Nat.testBit_two_pow]
theorem ins_lt {s n : Nat} (hs : Is64 s) (hn : n < 64) : Is64 (ins s n) := by
  unfold Is64 at *
  rw [ins_or, ← two64]
  exact Nat.or_lt_two_pow (by rw [two64]; exact hs) (Nat.pow_lt_pow_right (by omega) hn)
/-- Without a number that is there, and with it again. -/
theorem del_spec {s n : Nat} (h : s.testBit n = true) : ∃ t, s = t + 2 ^ n ∧ t.testBit n = false ∧ del s n = t := by
  have h1 : s / 2 ^ n % 2 = 1 := by
    rw [testBit_div] at h
    simpa using h
  have hp : 0 < 2 ^ n := Nat.two_pow_pos n
  have hge : 2 ^ n ≤ s := by
    rcases Nat.lt_or_ge s (2 ^ n) with hl | hl
    · rw [Nat.div_eq_of_lt hl] at h1
      omega
    · exact hl
  refine ⟨s - 2 ^ n, by omega, ?_, by unfold del; rw [if_pos h]⟩
  rw [testBit_div]
  have e : (s - 2 ^ n) / 2 ^ n = s / 2 ^ n - 1 := by
    have := Nat.sub_mul_div s (2 ^ n) 1
    simpa using this
  rw [e, decide_eq_false_iff_not]
  omega
theorem testBit_del (s n m : Nat) : (del s n).testBit m = (s.testBit m && !decide (n = m)) := by
  by_cases h : s.testBit n = true
  · obtain ⟨t, hs, ht, hd⟩ := del_spec h
    rw [hd, hs, add_pow ht, Nat.testBit_or, Nat.testBit_two_pow]
    by_cases hm : n = m
    · subst hm; simp [ht]
    · simp [hm]
  · have h' : s.testBit n = false := by simpa using h
    unfold del
    rw [if_neg h]
    by_cases hm : n = m
    · subst hm; simp [h']
    · simp [hm]
theorem del_le (s n : Nat) : del s n ≤ s := by
  unfold del
  split
  · exact Nat.sub_le _ _
  · exact Nat.le_refl _

/-- All that is in a set, rising. -/
def els (s : Nat) : List Nat := (List.range 64).filter fun n => s.testBit n
theorem mem_els {s n : Nat} : n ∈ els s ↔ n < 64 ∧ s.testBit n = true := by simp [els]
theorem els_rising (s : Nat) : (els s).Pairwise (· < ·) := List.Pairwise.filter _ List.pairwise_lt_range

/-- The set of a list. -/
def ofs (l : List Nat) : Nat := l.foldl ins 0
theorem foldl_ins (l : List Nat) : ∀ s m, (l.foldl ins s).testBit m = (s.testBit m || decide (m ∈ l)) := by
  induction l with
  | nil => intro s m; simp
  | cons n l ih =>
    intro s m
    rw [List.foldl_cons, ih, testBit_ins]
    by_cases hm : n = m
    · subst hm; simp
    · have hm' : ¬ m = n := fun e => hm e.symm
      simp [hm, hm']
theorem testBit_ofs (l : List Nat) (m : Nat) : (ofs l).testBit m = decide (m ∈ l) := by
  unfold ofs
  rw [foldl_ins]
  simp
theorem foldl_lt (l : List Nat) : ∀ s, Is64 s → (∀ n ∈ l, n < 64) → Is64 (l.foldl ins s) := by
  induction l with
  | nil => intro s hs _; exact hs
  | cons n l ih =>
    intro s hs h
    rw [List.foldl_cons]
    exact ih _ (ins_lt hs (h n (List.mem_cons_self ..))) fun m hm => h m (List.mem_cons_of_mem _ hm)
theorem ofs_lt {l : List Nat} (h : ∀ n ∈ l, n < 64) : Is64 (ofs l) := foldl_lt l 0 (by unfold Is64; omega) h
theorem ofs_els {s : Nat} (hs : Is64 s) : ofs (els s) = s := by
  refine ext64 (ofs_lt fun n hn => (mem_els.1 hn).1) hs fun n hn => ?_
  rw [testBit_ofs]
  by_cases h : s.testBit n = true
  · rw [h, decide_eq_true_iff]; exact mem_els.2 ⟨hn, h⟩
  · have h' : s.testBit n = false := by simpa using h
    rw [h', decide_eq_false_iff_not]
    intro hm
    exact h (mem_els.1 hm).2

/-- All moved by k, from 0 to 63. -/
def up (s k : Nat) : Nat := ofs ((els s).map fun n => (n + k) % 64)
theorem up_lt (s k : Nat) : Is64 (up s k) := ofs_lt fun n hn => by
  obtain ⟨m, _, rfl⟩ := List.mem_map.1 hn
  omega
theorem testBit_up {s k m : Nat} (hk : k < 64) (hm : m < 64) : (up s k).testBit m = s.testBit ((m + (64 - k)) % 64) := by
  unfold up
  rw [testBit_ofs]
  by_cases h : s.testBit ((m + (64 - k)) % 64) = true
  · rw [h, decide_eq_true_iff]
    exact List.mem_map.2 ⟨(m + (64 - k)) % 64, mem_els.2 ⟨by omega, h⟩, by omega⟩
  · have h' : s.testBit ((m + (64 - k)) % 64) = false := by simpa using h
    rw [h', decide_eq_false_iff_not]
    intro hmem
    obtain ⟨n, hn, hnm⟩ := List.mem_map.1 hmem
    obtain ⟨hn64, hb⟩ := mem_els.1 hn
    have e : (m + (64 - k)) % 64 = n := by omega
    rw [e] at h
    exact h hb
theorem up_up {s a b : Nat} (ha : a < 64) (hb : b < 64) : up (up s a) b = up s ((a + b) % 64) := by
  refine ext64 (up_lt _ _) (up_lt _ _) fun m hm => ?_
  rw [testBit_up hb hm, testBit_up ha (by omega), testBit_up (by omega) hm]
  congr 1
  omega
theorem up_zero {s : Nat} (hs : Is64 s) : up s 0 = s := by
  refine ext64 (up_lt _ _) hs fun m hm => ?_
  rw [testBit_up (by omega) hm]
  congr 1
  omega
theorem up_back {s a : Nat} (hs : Is64 s) (ha : a < 64) : up (up s a) ((64 - a) % 64) = s := by
  rw [up_up ha (by omega)]
  have e : (a + (64 - a) % 64) % 64 = 0 := by omega
  rw [e, up_zero hs]
/-- As a computer turns it. -/
theorem up_turn {s k : Nat} (hs : Is64 s) (hk : k < 64) : up s k = s * 2 ^ k % 18446744073709551616 ||| s / 2 ^ (64 - k) := by
  refine ext64 (up_lt _ _) ?_ fun m hm => ?_
  · unfold Is64 at *
    rw [← two64]
    refine Nat.or_lt_two_pow (Nat.mod_lt _ (Nat.two_pow_pos _)) ?_
    exact Nat.lt_of_le_of_lt (Nat.div_le_self _ _) (by rw [two64]; exact hs)
  · rw [testBit_up hk hm, Nat.testBit_or, ← two64, Nat.testBit_mod_two_pow, Nat.testBit_mul_two_pow, Nat.testBit_div_two_pow]
    by_cases hmk : k ≤ m
    · have e : (m + (64 - k)) % 64 = m - k := by omega
      have hbig : s.testBit (64 - k + m) = false := by
        refine Nat.testBit_lt_two_pow (Nat.lt_of_lt_of_le hs ?_)
        rw [← two64]
        exact Nat.pow_le_pow_right (by omega) (by omega)
      have hbig' : s.testBit (m + (64 - k)) = false := by rw [Nat.add_comm]; exact hbig
      rw [e]
      simp [hm, hmk, hbig']
    · have e : (m + (64 - k)) % 64 = m + (64 - k) := by omega
      rw [e]
      simp [hm, hmk]

/-- As many as before. -/
theorem turn_perm : ∀ k, k < 64 → ((List.range 64).map fun m => (m + (64 - k)) % 64).isPerm (List.range 64) = true := by decide +kernel
theorem count_up (s : Nat) {k : Nat} (hk : k < 64) : (els (up s k)).length = (els s).length := by
  have hp : ((List.range 64).map fun m => (m + (64 - k)) % 64).Perm (List.range 64) := List.isPerm_iff.1 (turn_perm k hk)
  have h1 := (hp.filter fun n => s.testBit n).length_eq
  rw [List.filter_map, List.length_map] at h1
  unfold els
  rw [← h1]
  congr 1
  refine List.filter_congr fun m hm => ?_
  exact testBit_up hk (by simpa using hm)

end Go.Proofs.YtahejekcfgkiaaaDoor.bits
