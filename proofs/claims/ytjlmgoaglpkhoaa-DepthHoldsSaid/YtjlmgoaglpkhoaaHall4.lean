/-
  Texts of one claim in one file: GOnce, DMem, DArg, EMem, WRef, DRefFits, DRefFit. Each has its own sentence, with its conditions.
-/
import Derived.Test.YtjlmgoaglpkhoaaHall2
import Derived.Test.YtjlmgoaglpkhoaaProg
import Derived.Test.YtjlmgoaglpkhoaaHall1
import Derived.WalkKit
import Derived.ProofKit
import Derived.IntWalk
import Derived.LoopTactic
import Derived.Lib.Hide
import Derived.Below
import Derived.Outline
import Derived.OwnWalk
import Derived.Deep.RegionLaw
import Derived.Deep.AppendLies
import Derived.Laws.AppendOwnNone
import Derived.Maps.AppendAt
import Derived.Deep.QuietTactic
import Derived.BigQuiet
import Derived.Deep.Cut
import Derived.Deep.CutBlock
import Derived.Deep.DeepCutAuto
import Derived.Deep.RegionHeld3
/-
  What was got of bytes, put, is just the bytes that it had, and no bytes that end sooner are a program's. Plain mathematics; no condition.
-/
namespace Go.Proofs.Ytjlmgoaglpkhoaa.pgm
open Go.Proofs.Ytjlmgoaglpkhoaa.octet (St rdByte rdNum num num_length_le enc_length_pos)
open Go.Proofs.Ytjlmgoaglpkhoaa.objs (De zero rdNum_back rdNum_once rdNum_err)
set_option linter.unusedVariables false

theorem rdMany_once {L : List UInt8} {most : Nat} (h : (rdMany ⟨L, 0⟩ most).2.2 = 0) : L = num (rdMany ⟨L, 0⟩ most).1 ++ (rdMany ⟨L, 0⟩ most).2.1.rest ∧ (rdMany ⟨L, 0⟩ most).2.1.err = 0 ∧ (rdMany ⟨L, 0⟩ most).1 ≤ most := by
  unfold rdMany at h ⊢
  split at h
  · cases h
  · rename_i h1
    rw [if_neg h1]
    exact ⟨rdNum_once h, h, by dsimp only; omega⟩
theorem readL_once {L : List UInt8} (h : (Go.Proofs.Ytjlmgoaglpkhoaa.objs.readL ⟨L, 0⟩).2.2 = 0) : (Go.Proofs.Ytjlmgoaglpkhoaa.objs.chk (Go.Proofs.Ytjlmgoaglpkhoaa.objs.readL ⟨L, 0⟩).1).2 = 0 ∧ L = Go.Proofs.Ytjlmgoaglpkhoaa.objs.encL (Go.Proofs.Ytjlmgoaglpkhoaa.objs.readL ⟨L, 0⟩).1 ++ (Go.Proofs.Ytjlmgoaglpkhoaa.objs.readL ⟨L, 0⟩).2.1.rest ∧ (Go.Proofs.Ytjlmgoaglpkhoaa.objs.readL ⟨L, 0⟩).2.1.err = 0 := by
  unfold Go.Proofs.Ytjlmgoaglpkhoaa.objs.readL at h ⊢
  dsimp only at h ⊢
  by_cases h1 : (Go.Proofs.Ytjlmgoaglpkhoaa.objs.rdN ⟨L, 0⟩).2.err ≠ 0
  · simp only [if_pos h1] at h; exact absurd h h1
  · simp only [if_neg h1] at h ⊢
    by_cases h2 : 32 < (Go.Proofs.Ytjlmgoaglpkhoaa.objs.rdN ⟨L, 0⟩).1
    · simp only [if_pos h2] at h; cases h
    · simp only [if_neg h2] at h ⊢
      have hn := Go.Proofs.Ytjlmgoaglpkhoaa.objs.rdN_once (l := L) (by omega) (by omega)
      generalize Go.Proofs.Ytjlmgoaglpkhoaa.objs.rdN ⟨L, 0⟩ = q at *
      obtain ⟨n, ⟨R, E⟩⟩ := q
      dsimp only at h h1 h2 hn ⊢
      obtain rfl : E = 0 := by omega
      by_cases h3 : (Go.Proofs.Ytjlmgoaglpkhoaa.objs.rdL ⟨R, 0⟩ n.toNat).2.2 ≠ 0
      · simp only [if_pos h3] at h; exact absurd h h3
      · simp only [if_neg h3] at h ⊢
        by_cases h4 : (Go.Proofs.Ytjlmgoaglpkhoaa.objs.chk (Go.Proofs.Ytjlmgoaglpkhoaa.objs.rdL ⟨R, 0⟩ n.toNat).1).2 ≠ 0
        · simp only [if_pos h4] at h; exact absurd h h4
        · simp only [if_neg h4] at h ⊢
          have hlen := Go.Proofs.Ytjlmgoaglpkhoaa.objs.rdL_length n.toNat (by omega : (Go.Proofs.Ytjlmgoaglpkhoaa.objs.rdL ⟨R, 0⟩ n.toNat).2.2 = 0)
          obtain ⟨hl, _, hall⟩ := Go.Proofs.Ytjlmgoaglpkhoaa.objs.chk_zero (by omega : (Go.Proofs.Ytjlmgoaglpkhoaa.objs.chk (Go.Proofs.Ytjlmgoaglpkhoaa.objs.rdL ⟨R, 0⟩ n.toNat).1).2 = 0)
          have ho := Go.Proofs.Ytjlmgoaglpkhoaa.objs.rdL_once hl n.toNat R (by omega) (fun i hi => hall i (by omega))
          refine ⟨by omega, ?_, ho.2⟩
          unfold Go.Proofs.Ytjlmgoaglpkhoaa.objs.encL
          rw [hlen, List.append_assoc, ← ho.1]
          exact hn
theorem readW_once {d : List De} {L : List UInt8} (hd : (Go.Proofs.Ytjlmgoaglpkhoaa.objs.chk d).2 = 0) (h : (Go.Proofs.Ytjlmgoaglpkhoaa.need.readW d ⟨L, 0⟩).2.2 = 0) : L = Go.Proofs.Ytjlmgoaglpkhoaa.need.encW (Go.Proofs.Ytjlmgoaglpkhoaa.need.readW d ⟨L, 0⟩).1 ++ (Go.Proofs.Ytjlmgoaglpkhoaa.need.readW d ⟨L, 0⟩).2.1.rest ∧ (Go.Proofs.Ytjlmgoaglpkhoaa.need.readW d ⟨L, 0⟩).2.1.err = 0 := by
  unfold Go.Proofs.Ytjlmgoaglpkhoaa.need.readW at h ⊢
  dsimp only at h ⊢
  by_cases h2 : 4 < (rdNum ⟨L, 0⟩).1
  · simp only [if_pos h2] at h; cases h
  · simp only [if_neg h2] at h ⊢
    by_cases h1 : (rdNum ⟨L, 0⟩).2.err ≠ 0
    · simp only [if_pos h1] at h; exact absurd h h1
    · simp only [if_neg h1] at h ⊢
      have hn := rdNum_once (l := L) (by omega)
      generalize rdNum ⟨L, 0⟩ = q at *
      obtain ⟨n, ⟨R, E⟩⟩ := q
      dsimp only at h h1 h2 hn ⊢
      obtain rfl : E = 0 := by omega
      by_cases h3 : (Go.Proofs.Ytjlmgoaglpkhoaa.need.rdWays ⟨R, 0⟩ n).2.2 ≠ 0
      · simp only [if_pos h3] at h; exact absurd h h3
      · simp only [if_neg h3] at h ⊢
        by_cases h4 : Go.Proofs.Ytjlmgoaglpkhoaa.need.chkW d (Go.Proofs.Ytjlmgoaglpkhoaa.need.rdWays ⟨R, 0⟩ n).1 ≠ 0
        · simp only [if_pos h4] at h; exact absurd h h4
        · simp only [if_neg h4] at h ⊢
          have hlen := Go.Proofs.Ytjlmgoaglpkhoaa.need.rdWays_length n (by omega : (Go.Proofs.Ytjlmgoaglpkhoaa.need.rdWays ⟨R, 0⟩ n).2.2 = 0)
          obtain ⟨_, _, hall⟩ := Go.Proofs.Ytjlmgoaglpkhoaa.need.chkW_zero (by omega : Go.Proofs.Ytjlmgoaglpkhoaa.need.chkW d (Go.Proofs.Ytjlmgoaglpkhoaa.need.rdWays ⟨R, 0⟩ n).1 = 0)
          have ho := Go.Proofs.Ytjlmgoaglpkhoaa.need.rdWays_once hd n R (by omega) (fun l hl => (hall l hl).2.2)
          refine ⟨?_, ho.2⟩
          unfold Go.Proofs.Ytjlmgoaglpkhoaa.need.encW
          rw [hlen, List.append_assoc, ← ho.1]
          exact hn
/-- What reads an instruction reads just what was put, and of what it read the bytes are just those. -/
structure Reads (rdI : St → De × St × Nat) : Prop where
  back : ∀ x, chkI x = 0 → ∀ more, rdI ⟨encIn x ++ more, 0⟩ = (x, ⟨more, 0⟩, 0)
  once : ∀ L, (rdI ⟨L, 0⟩).2.2 = 0 → L = encIn (rdI ⟨L, 0⟩).1 ++ (rdI ⟨L, 0⟩).2.1.rest ∧ (rdI ⟨L, 0⟩).2.1.err = 0
theorem rdFn_once {rdI : St → De × St × Nat} (hI : Reads rdI) {L : List UInt8} (he : (rdFn rdI ⟨L, 0⟩).2.2 = 0) (h : chkFn (rdFn rdI ⟨L, 0⟩).1 = 0) : L = encFn (rdFn rdI ⟨L, 0⟩).1 ++ (rdFn rdI ⟨L, 0⟩).2.1.rest ∧ (rdFn rdI ⟨L, 0⟩).2.1.err = 0 := by
  unfold rdFn at he h ⊢
  dsimp only at he h ⊢
  by_cases h1 : (rdNum (rdNum ⟨L, 0⟩).2).2.err ≠ 0
  · rw [if_pos h1] at he; exact absurd he h1
  · rw [if_neg h1] at he h ⊢
    by_cases h2 : (rdMany (rdNum (rdNum ⟨L, 0⟩).2).2 200).2.2 ≠ 0
    · rw [if_pos h2] at he; exact absurd he h2
    · rw [if_neg h2] at he h ⊢
      by_cases h3 : (rdAll rdI (rdMany (rdNum (rdNum ⟨L, 0⟩).2).2 200).2.1 (rdMany (rdNum (rdNum ⟨L, 0⟩).2).2 200).1).2.2 ≠ 0
      · rw [if_pos h3] at he; exact absurd he h3
      · rw [if_neg h3] at h ⊢
        dsimp only at h ⊢
        obtain ⟨⟨g1, g2, g3⟩, _, _, _⟩ := chkFn_zero h
        dsimp only at g1 g2 g3
        clear h he
        have hA : (rdNum ⟨L, 0⟩).2.err = 0 := by
          rcases Nat.eq_zero_or_pos (rdNum ⟨L, 0⟩).2.err with e | e
          · exact e
          · rw [rdNum_err (by omega)] at h1; omega
        have ha := rdNum_once hA
        generalize rdNum ⟨L, 0⟩ = q at *
        obtain ⟨a, ⟨R, E⟩⟩ := q
        dsimp only at hA ha h1 h2 h3 g1 g2 g3 ⊢
        subst hA
        have hb := rdNum_once (l := R) (by omega)
        generalize rdNum ⟨R, 0⟩ = q at *
        obtain ⟨b, ⟨R2, E⟩⟩ := q
        dsimp only at hb h1 h2 h3 g1 g2 g3 ⊢
        obtain rfl : E = 0 := by omega
        obtain ⟨hn, hn0, _⟩ := rdMany_once (L := R2) (most := 200) (by omega)
        generalize rdMany ⟨R2, 0⟩ 200 = q at *
        obtain ⟨n, ⟨R3, E⟩, e3⟩ := q
        dsimp only at hn hn0 h2 h3 ⊢
        subst hn0
        have hq := rdAll_once (rd := rdI) (e := encIn) (d := zero) (ok := fun _ => True) (fun L2 h2 _ => hI.once L2 h2) n R3 (by omega) (fun _ _ => trivial)
        have hlen := rdAll_length n (by omega : (rdAll rdI ⟨R3, 0⟩ n).2.2 = 0)
        refine ⟨?_, hq.2⟩
        unfold encFn
        dsimp only
        rw [hlen]
        simp only [List.append_assoc]
        rw [← hq.1, ← hn]
        have e1 : ((min a 2147483648 : Nat) : Int).toNat = a := by omega
        have e2 : ((min b 2147483648 : Nat) : Int).toNat = b := by omega
        rw [e1, e2, ← hb, ← ha]
theorem once {rdI : St → De × St × Nat} (hI : Reads rdI) {t : List UInt8} (h : (readP rdI t).2 = 0) : chkP (readP rdI t).1 = 0 ∧ encP (readP rdI t).1 = t := by
  unfold readP at h ⊢
  dsimp only at h ⊢
  by_cases h0 : t.take 3 ≠ [76, 74, 1]
  · rw [if_pos h0] at h; cases h
  · rw [if_neg h0] at h ⊢
    have h0' : t.take 3 = [76, 74, 1] := Classical.byContradiction h0
    have ht : t = [76, 74, 1] ++ t.drop 3 := by rw [← h0', List.take_append_drop]
    clear h0 h0'
    generalize t.drop 3 = r at *
    by_cases h1 : (Go.Proofs.Ytjlmgoaglpkhoaa.objs.readL ⟨r, 0⟩).2.2 ≠ 0
    · rw [if_pos h1] at h; exact absurd h h1
    · rw [if_neg h1] at h ⊢
      obtain ⟨hl0, hl, hle⟩ := readL_once (L := r) (by omega)
      generalize Go.Proofs.Ytjlmgoaglpkhoaa.objs.readL ⟨r, 0⟩ = q at *
      obtain ⟨ds, ⟨R, E⟩, e1⟩ := q
      dsimp only at h h1 hl0 hl hle ⊢
      subst hle
      by_cases h2 : (rdMany ⟨R, 0⟩ 32).2.2 ≠ 0
      · rw [if_pos h2] at h; exact absurd h h2
      · rw [if_neg h2] at h ⊢
        obtain ⟨hn, hn0, _⟩ := rdMany_once (L := R) (most := 32) (by omega)
        generalize rdMany ⟨R, 0⟩ 32 = q at *
        obtain ⟨n, ⟨R2, E⟩, e2⟩ := q
        dsimp only at h hn hn0 h2 ⊢
        subst hn0
        by_cases h3 : (rdAll (Go.Proofs.Ytjlmgoaglpkhoaa.need.readW ds) ⟨R2, 0⟩ n).2.2 ≠ 0
        · rw [if_pos h3] at h; exact absurd h h3
        · rw [if_neg h3] at h ⊢
          have hw := rdAll_once (rd := Go.Proofs.Ytjlmgoaglpkhoaa.need.readW ds) (e := Go.Proofs.Ytjlmgoaglpkhoaa.need.encW) (d := []) (ok := fun _ => True) (fun L2 h2 _ => readW_once hl0 h2) n R2 (by omega) (fun _ _ => trivial)
          have hwl := rdAll_length n (by omega : (rdAll (Go.Proofs.Ytjlmgoaglpkhoaa.need.readW ds) ⟨R2, 0⟩ n).2.2 = 0)
          generalize rdAll (Go.Proofs.Ytjlmgoaglpkhoaa.need.readW ds) ⟨R2, 0⟩ n = q at *
          obtain ⟨ws, ⟨R3, E⟩, e3⟩ := q
          dsimp only at h hw hwl h3 ⊢
          obtain ⟨hw, hw0⟩ := hw
          subst hw0
          by_cases h4 : (rdMany ⟨R3, 0⟩ 16).2.2 ≠ 0
          · rw [if_pos h4] at h; exact absurd h h4
          · rw [if_neg h4] at h ⊢
            obtain ⟨hm, hm0, _⟩ := rdMany_once (L := R3) (most := 16) (by omega)
            generalize rdMany ⟨R3, 0⟩ 16 = q at *
            obtain ⟨m, ⟨R4, E⟩, e4⟩ := q
            dsimp only at h hm hm0 h4 ⊢
            subst hm0
            by_cases h5 : (rdAll (rdFn rdI) ⟨R4, 0⟩ m).2.2 ≠ 0
            · rw [if_pos h5] at h; exact absurd h h5
            · rw [if_neg h5] at h ⊢
              by_cases h6 : (rdAll (rdFn rdI) ⟨R4, 0⟩ m).2.1.rest ≠ []
              · rw [if_pos h6] at h; cases h
              · rw [if_neg h6] at h ⊢
                by_cases h7 : chkP ⟨ds, ws, (rdAll (rdFn rdI) ⟨R4, 0⟩ m).1⟩ ≠ 0
                · rw [if_pos h7] at h; exact absurd h h7
                · rw [if_neg h7]
                  dsimp only
                  have h7' : chkP ⟨ds, ws, (rdAll (rdFn rdI) ⟨R4, 0⟩ m).1⟩ = 0 := by omega
                  have h6' : (rdAll (rdFn rdI) ⟨R4, 0⟩ m).2.1.rest = [] := Classical.byContradiction h6
                  obtain ⟨_, _, _, _, _, hall⟩ := chkP_zero h7'
                  have hf := (rdAll_once (rd := rdFn rdI) (e := encFn) (d := Fn.zero) (ok := fun f => chkFn f = 0) (fun L2 h2 h3 => rdFn_once hI h2 h3) m R4 (by omega) hall).1
                  have hfl := rdAll_length m (by omega : (rdAll (rdFn rdI) ⟨R4, 0⟩ m).2.2 = 0)
                  refine ⟨h7', ?_⟩
                  rw [h6', List.append_nil] at hf
                  unfold encP
                  dsimp only
                  rw [hwl, hfl, ← hf, ← hm, ← hw, ← hn, ← hl, ← ht]
/-- No bytes that end sooner are a program's. -/
theorem sooner {rdI : St → De × St × Nat} (hI : Reads rdI) {p : Pg} (h : chkP p = 0) {s more : List UInt8} (hs : encP p = s ++ more) (hm : more ≠ []) : (readP rdI s).2 ≠ 0 := by
  intro hz
  obtain ⟨h1, h2⟩ := once hI hz
  have h3 := back hI.back h1 more
  rw [h2, ← hs, if_pos hm] at h3
  have h4 := back hI.back h []
  rw [List.append_nil, h3, if_neg (by simp)] at h4
  cases h4
theorem got_bad {rdI : St → De × St × Nat} {t : List UInt8} (h : (readP rdI t).2 ≠ 0) : (readP rdI t).1 = Pg.none := by
  unfold readP at h ⊢
  dsimp only at h ⊢
  split
  · rfl
  · split
    · rfl
    · split
      · rfl
      · split
        · rfl
        · split
          · rfl
          · split
            · rfl
            · split
              · rfl
              · split
                · rfl
                · rename_i a1 a2 a3 a4 a5 a6 a7 a8
                  rw [if_neg a1, if_neg a2, if_neg a3, if_neg a4, if_neg a5, if_neg a6, if_neg a7, if_neg a8] at h
                  exact absurd rfl h
end Go.Proofs.Ytjlmgoaglpkhoaa.pgm

/-
  A list of objects as it lies in memory, wherever it came from; and a row of them that a call owns. No condition.
-/
namespace Go.Proofs.Ytjlmgoaglpkhoaa.objs
open Go.RowKit Go.ChangeShapes
set_option linter.unusedVariables false

/-- The three cells of an object. -/
def CellsAt (w : World) (b i : Nat) (d : De) : Prop := w.cell? ⟨b, i, none⟩ = some (.int .i64 d.1) ∧ w.cell? ⟨b, i + 1, none⟩ = some (.int .i64 d.2.1) ∧ w.cell? ⟨b, i + 2, none⟩ = some (.int .i64 d.2.2)
/-- A list of objects, one behind the other, from where a slice begins. -/
def DAt (w : World) (A : Option Addr) (l : List De) : Prop := ∀ j, j < l.length → ∃ b off, A = some ⟨b, off, none⟩ ∧ b < w.heap.size ∧ CellsAt w b (off + j * 3) (l.getD j zero)
theorem CellsAt.keep {w w' : World} {b i : Nat} {d : De} (h : CellsAt w b i d) (hb : w'.heap[b]? = w.heap[b]?) : CellsAt w' b i d :=
  ⟨(World.cell?_of_block (a := ⟨b, i, none⟩) hb).trans h.1, (World.cell?_of_block (a := ⟨b, i + 1, none⟩) hb).trans h.2.1, (World.cell?_of_block (a := ⟨b, i + 2, none⟩) hb).trans h.2.2⟩
theorem DAt.next {w w' : World} {A : Option Addr} {l : List De} (h : DAt w A l) (hb : Below w.heap.size w w') : DAt w' A l := fun j hj => by
  obtain ⟨b, off, h1, h2, h3⟩ := h j hj
  exact ⟨b, off, h1, Nat.lt_of_lt_of_le h2 hb.size, h3.keep (hb.block b h2)⟩
theorem DAt.drew {w : World} {A : Option Addr} {l : List De} (h : DAt w A l) : DAt w.drew A l := h
theorem DAt.drewN {w : World} {A : Option Addr} {l : List De} (h : DAt w A l) : ∀ n, DAt (w.drewN n) A l
  | 0 => h
  | n + 1 => (DAt.drewN h n).drew
theorem DAt.nil (w : World) (A : Option Addr) : DAt w A [] := fun j hj => absurd hj (Nat.not_lt_zero j)
theorem DAt.take {w : World} {A : Option Addr} {l : List De} (h : DAt w A l) (n : Nat) : DAt w A (l.take n) := fun j hj => by
  rw [List.length_take] at hj
  obtain ⟨b, off, h1, h2, h3⟩ := h j (by omega)
  refine ⟨b, off, h1, h2, ?_⟩
  rwa [List.getD_eq_getElem?_getD, List.getElem?_take_of_lt (by omega), ← List.getD_eq_getElem?_getD]

/-- Objects, cell by cell. -/
def flat (l : List De) : List Value := l.flatMap fun d => [.int .i64 d.1, .int .i64 d.2.1, .int .i64 d.2.2]
theorem flat_append (l r : List De) : flat (l ++ r) = flat l ++ flat r := by simp [flat]
theorem flat_cons (d : De) (l : List De) : flat (d :: l) = .int .i64 d.1 :: .int .i64 d.2.1 :: .int .i64 d.2.2 :: flat l := by simp [flat]
theorem flat_length (l : List De) : (flat l).length = l.length * 3 := by
  induction l with
  | nil => rfl
  | cons d l ih => rw [flat_cons]; simp only [List.length_cons, ih]; omega
theorem flat_oneCell (l : List De) : ∀ u ∈ flat l, u.oneCell' = true := by
  intro u hu
  simp only [flat, List.mem_flatMap] at hu
  obtain ⟨d, _, hd⟩ := hu
  simp only [List.mem_cons, List.not_mem_nil, or_false] at hd
  rcases hd with rfl | rfl | rfl <;> rfl
theorem flat_at (l : List De) : ∀ j, j < l.length → (flat l)[j * 3]? = some (.int .i64 (l.getD j zero).1) ∧ (flat l)[j * 3 + 1]? = some (.int .i64 (l.getD j zero).2.1) ∧ (flat l)[j * 3 + 2]? = some (.int .i64 (l.getD j zero).2.2) := by
  induction l with
  | nil => intro j hj; exact absurd hj (Nat.not_lt_zero j)
  | cons d l ih =>
    intro j hj
    rw [flat_cons]
    cases j with
    | zero => exact ⟨rfl, rfl, rfl⟩
    | succ j =>
      obtain ⟨h1, h2, h3⟩ := ih j (by simpa using hj)
      rw [show (j + 1) * 3 = j * 3 + 1 + 1 + 1 from by omega]
      exact ⟨h1, h2, h3⟩

/-- A slice's value of objects, nil or a row of the call's own. -/
def Own (w : World) (base : Nat) (v : Value) (l : List De) : Prop := w.ownsRow base 59 3 v l.length (flat l)
theorem Own.nil (w : World) (base : Nat) : Own w base (.slice none 0 0) [] := World.ownsRow_nil ..
theorem Own.empty {w : World} {g : Nat} (h : w.heap[g]? = some (.cells #[] 59 (0, 0))) : Own w g (.slice (some ⟨g, 0, none⟩) 0 0) [] :=
  ⟨rfl, .inr ⟨g, 0, #[], rfl, Nat.le_refl _, h, Nat.le_refl _, Nat.zero_le _, rfl, rfl⟩⟩
theorem Own.slice {w : World} {base : Nat} {v : Value} {l : List De} (h : Own w base v l) : ∃ A cap, v = .slice A l.length cap := by
  rcases h.2 with ⟨rfl, h0⟩ | ⟨g, cap, cur, rfl, _⟩
  · exact ⟨none, 0, by rw [h0]⟩
  · exact ⟨_, _, rfl⟩
theorem Own.at {w : World} {base cap : Nat} {A : Option Addr} {l : List De} {n : Nat} (h : Own w base (.slice A n cap) l) : DAt w A l := by
  intro j hj
  rcases h.2 with ⟨e, h0⟩ | ⟨g, cap', cur, e, hb, hh, _⟩
  · omega
  · injection e with e1 e2 e3
    subst e1
    obtain ⟨h1, h2, h3⟩ := flat_at l j hj
    refine ⟨g, 0, rfl, lt_of_block hh, ?_, ?_, ?_⟩
    · have := World.ownsRow.cells h (g := g) rfl _ _ h1
      rw [Addr.add_lit] at this
      simpa using this
    · have := World.ownsRow.cells h (g := g) rfl _ _ h2
      rw [Addr.add_lit] at this
      simpa using this
    · have := World.ownsRow.cells h (g := g) rfl _ _ h3
      rw [Addr.add_lit] at this
      simpa using this
theorem Own.keep {w w' : World} {base : Nat} {v : Value} {l : List De} (h : Own w base v l) (hk : ∀ g, v.ownBlock = some g → w'.heap[g]? = w.heap[g]?) : Own w' base v l := by
  refine ⟨h.1, h.2.imp id ?_⟩
  rintro ⟨g, c, cur, rfl, hb, hh, r⟩
  exact ⟨g, c, cur, rfl, hb, (hk g rfl).trans hh, r⟩
theorem Own.lt {w : World} {base g : Nat} {v : Value} {l : List De} (h : Own w base v l) (hg : v.ownBlock = some g) : base ≤ g ∧ g < w.heap.size := World.ownsRow.lt h g hg
theorem Own.next {w w' : World} {base : Nat} {v : Value} {l : List De} (h : Own w base v l) (hb : Below w.heap.size w w') : Own w' base v l := h.keep fun g hg => hb.block g (h.lt hg).2
theorem Own.base {w : World} {base base' : Nat} {v : Value} {l : List De} (h : Own w base v l) (hb : base' ≤ base) : Own w base' v l := by
  refine ⟨h.1, h.2.imp id ?_⟩
  rintro ⟨g, c, cur, e, hb1, r⟩
  exact ⟨g, c, cur, e, Nat.le_trans hb hb1, r⟩

theorem infoD : (Try.prog.info? 59).map (fun i => (i.zero, i.size, i.bytes)) = some (some (.agg #[.int .i64 0, .int .i64 0, .int .i64 0]), 3, 24) := by kernel_rfl

theorem src_cells {w : World} {ad : Addr} {r : List De} (h : DAt w (some ad) r) : ∀ (j : Nat) (u : Value), (flat r)[j]? = some u → w.cell? (ad.add j) = some u := by
  intro j u hu
  have hj : j < r.length * 3 := by
    have := (List.getElem?_eq_some_iff.1 hu).1
    rwa [flat_length] at this
  obtain ⟨b, off, e, _, h1, h2, h3⟩ := h (j / 3) (by omega)
  obtain rfl := Option.some.inj e
  obtain ⟨f1, f2, f3⟩ := flat_at r (j / 3) (by omega)
  rw [Addr.add_lit]
  rcases (by omega : j % 3 = 0 ∨ j % 3 = 1 ∨ j % 3 = 2) with hm | hm | hm
  · rw [show j / 3 * 3 = j from by omega] at h1 f1
    rw [h1, ← hu, f1]
  · rw [show off + j / 3 * 3 + 1 = off + j from by omega] at h2
    rw [show j / 3 * 3 + 1 = j from by omega] at f2
    rw [h2, ← hu, f2]
  · rw [show off + j / 3 * 3 + 2 = off + j from by omega] at h3
    rw [show j / 3 * 3 + 2 = j from by omega] at f3
    rw [h3, ← hu, f3]
/-- A list that lies anywhere, put behind a row of a call's own. -/
theorem run_appD (w : World) (ty : TypeId) (base m c : Nat) (v : Value) (A : Option Addr) (l r : List De) (hrow : Own w base v l) (hm : m = r.length) (hA : A = none → r = [] ∧ c = 0) (hsrc : DAt w A r) (hlen : l.length + r.length ≤ 100000) (hbase : base ≤ w.heap.size) :
    ∃ v' w', (Builtin.append_ #[22, 22] ty #[v, .slice A m c]).run Try.prog w = .ok v' w' ∧ Own w' base v' (l ++ r) ∧ w.grownBy w' v.ownBlock := by
  subst hm
  obtain ⟨i, hi, hz0, hz1, hz2⟩ := info_parts infoD
  cases A with
  | none =>
    obtain ⟨rfl, rfl⟩ := hA rfl
    refine ⟨v, w, run_append_owned_none (P := Try.prog) (w := w) base 22 ty 59 i 3 Try.underlying22 hi v l.length (flat l) hrow, ?_, ⟨rfl, rfl, rfl, Nat.le_refl _, fun _ _ _ => rfl⟩⟩
    rw [List.append_nil]
    exact hrow
  | some ad =>
    obtain ⟨v', w', h1, h2, h3, _⟩ := run_append_own (P := Try.prog) w base 22 ty 59 i _ 3 24 Try.underlying22 hi hz0 hz1 hz2 rfl (by omega) v l.length (flat l) hrow ad r.length c (flat r) (flat_length r) (src_cells hsrc) (flat_oneCell r) (by unfold maxLen; omega) (by omega) hbase
    refine ⟨v', w', h1, ?_, h3⟩
    unfold Own
    rw [List.length_append, flat_append]
    exact h2
theorem wp_appD {o : Oper} {a : Act} {w : World} {K : Act → World → Prop} {Q : Exit → Act → World → Prop} (s x : Operand)
    (ho : o.op = .call { callee := .builtin .append, args := #[s, x], argTypes := #[22, 22] }) (base m c : Nat) (v : Value) (A : Option Addr) (l r : List De)
    (hs : a.eval s = v) (hrow : Own w base v l) (hx : a.eval x = .slice A m c) (hm : m = r.length) (hA : A = none → r = [] ∧ c = 0) (hsrc : DAt w A r) (hlen : l.length + r.length ≤ 100000) (hbase : base ≤ w.heap.size)
    (h : ∀ v' w', Own w' base v' (l ++ r) → w.grownBy w' v.ownBlock → K (a.put o.dst v') w') : o.wp Try.prog a w K Q := by
  obtain ⟨v', w', hr, h2, h3⟩ := run_appD w o.type base m c v A l r hrow hm hA hsrc hlen hbase
  unfold Oper.wp execOp
  simp only [ho, resolve, invoke, builtin, Sem.run_bind, Sem.run_pure, Result.andThen_ok, List.map_toArray, List.map_cons, List.map_nil, hs, hx, hr]
  exact h v' w' h2 h3
theorem wpList_appD {ops : Array Oper} {rest : List Oper} {o : Oper} {a : Act} {w : World} {Q : Exit → Act → World → Prop} (hgd : o.guard = none) (s x : Operand)
    (ho : o.op = .call { callee := .builtin .append, args := #[s, x], argTypes := #[22, 22] }) (base m c : Nat) (v : Value) (A : Option Addr) (l r : List De)
    (hs : a.eval s = v) (hrow : Own w base v l) (hx : a.eval x = .slice A m c) (hm : m = r.length) (hA : A = none → r = [] ∧ c = 0) (hsrc : DAt w A r) (hlen : l.length + r.length ≤ 100000) (hbase : base ≤ w.heap.size)
    (h : ∀ v' w', Own w' base v' (l ++ r) → w.grownBy w' v.ownBlock → wpList Try.prog ops Q rest (a.put o.dst v') w') : wpList Try.prog ops Q (o :: rest) a w :=
  wpList_plain hgd fun _ hK => wp_appD s x ho base m c v A l r hs hrow hx hm hA hsrc hlen hbase fun v' w' h2 h3 => hK _ _ (h v' w' h2 h3)
theorem step_appD {ops : Array Oper} {o : Oper} {a : Act} {w : World} {K : Act → World → Prop} {Q : Exit → Act → World → Prop} {E : Prop} (hgd : o.guard = none) (s x : Operand)
    (ho : o.op = .call { callee := .builtin .append, args := #[s, x], argTypes := #[22, 22] }) (base m c : Nat) (v : Value) (A : Option Addr) (l r : List De)
    (hs : a.eval s = v) (hrow : Own w base v l) (hx : a.eval x = .slice A m c) (hm : m = r.length) (hA : A = none → r = [] ∧ c = 0) (hsrc : DAt w A r) (hlen : l.length + r.length ≤ 100000) (hbase : base ≤ w.heap.size)
    (h : ∀ v' w', Own w' base v' (l ++ r) → w.grownBy w' v.ownBlock → K (a.put o.dst v') w') :
    if Region.wanted o (yielded ops a.tmps) = true then Oper.wp Try.prog o a w K Q else E := by
  have hw : Region.wanted o (yielded ops a.tmps) = true := by simp [Region.wanted, hgd]
  rw [if_pos hw]
  exact wp_appD s x ho base m c v A l r hs hrow hx hm hA hsrc hlen hbase h
/-- An object in a block of its own, as a list of one. -/
theorem DAt.one {w : World} {g : Nat} {d : De} (h : w.heap[g]? = some (.cells #[.int .i64 d.1, .int .i64 d.2.1, .int .i64 d.2.2] 59 (0, 0))) : DAt w (some ⟨g, 0, none⟩) [d] := fun j hj => by
  obtain rfl : j = 0 := by simpa using hj
  refine ⟨g, 0, rfl, lt_of_block h, ?_, ?_, ?_⟩
  all_goals
    unfold World.cell?
    rw [h]
    rfl
end Go.Proofs.Ytjlmgoaglpkhoaa.objs

/-
  A list of objects that came in, and what a copy of it leaves. No condition.
-/
namespace Go.Proofs.Ytjlmgoaglpkhoaa.objs
open Go.RowKit Go.ChangeShapes
set_option linter.unusedVariables false

/-- An int. -/
def I64 (n : Int) : Prop := -9223372036854775808 ≤ n ∧ n ≤ 9223372036854775807
def Ints (l : List De) : Prop := ∀ j, j < l.length → I64 (l.getD j zero).1 ∧ I64 (l.getD j zero).2.1 ∧ I64 (l.getD j zero).2.2
/-- A list that came in: of at most a hundred, or the first hundred of it. -/
def LIn (w : World) (A : Option Addr) (n cap : Nat) (l : List De) : Prop := (A = none → n = 0 ∧ cap = 0) ∧ n ≤ cap ∧ cap ≤ 9223372036854775807 ∧ DAt w A l ∧ Ints l ∧ l.length = min n 100
theorem own_new (W : World) : Own (W.alloc (.cells #[] 59)) W.heap.size (.slice (some ⟨W.heap.size, 0, none⟩) 0 0) [] := Own.empty (heap_alloc_new W _)
/-- Behind the copy: what is as it was, and the copy. -/
theorem own_copy {w W W2 : World} {A : Option Addr} {l : List De} {v2 : Value} {r : Option Nat} (hA : DAt w A l) (hb : Below w.heap.size w W) (h1 : Own W2 W.heap.size v2 l) (hg : (W.alloc (.cells #[] 59)).grownBy W2 r) (hr : ∀ k, r = some k → k = W.heap.size) :
    Below w.heap.size w W2 ∧ DAt W2 A l ∧ ∃ A2 c2, v2 = .slice A2 l.length c2 ∧ DAt W2 A2 l := by
  have hb2 : Below w.heap.size w W2 := (hb.alloc hb.size _).grown hg (by simp; have := hb.size; omega) (fun k e => by rw [hr k e]; exact hb.size)
  obtain ⟨A2, c2, rfl⟩ := h1.slice
  exact ⟨hb2, hA.next hb2, A2, c2, rfl, h1.at⟩

theorem DAt.two {w : World} {g : Nat} {d e : De} (h : w.heap[g]? = some (.cells #[.int .i64 d.1, .int .i64 d.2.1, .int .i64 d.2.2, .int .i64 e.1, .int .i64 e.2.1, .int .i64 e.2.2] 59 (0, 0))) : DAt w (some ⟨g, 0, none⟩) [d, e] := fun j hj => by
  have hj2 : j < 2 := hj
  refine ⟨g, 0, rfl, lt_of_block h, ?_⟩
  unfold CellsAt World.cell?
  rw [h]
  match j, hj2 with
  | 0, _ => exact ⟨rfl, rfl, rfl⟩
  | 1, _ => exact ⟨rfl, rfl, rfl⟩
end Go.Proofs.Ytjlmgoaglpkhoaa.objs

/-
  A wait as it lies in memory, wherever it came from; a row of needs, and a row of ways, that a call owns. No condition.
-/
namespace Go.Proofs.Ytjlmgoaglpkhoaa.need
open Go.RowKit Go.ChangeShapes
open Go.Proofs.Ytjlmgoaglpkhoaa.objs (De zero CellsAt DAt flat flat_append flat_length flat_at flat_oneCell src_cells I64 Ints)
set_option linter.unusedVariables false

/-- A slice's value of objects, nil or a row of the call's own. -/
def OwnN (w : World) (base : Nat) (v : Value) (l : List De) : Prop := w.ownsRow base 67 3 v l.length (flat l)
theorem OwnN.nil (w : World) (base : Nat) : OwnN w base (.slice none 0 0) [] := World.ownsRow_nil ..
theorem OwnN.empty {w : World} {g : Nat} (h : w.heap[g]? = some (.cells #[] 67 (0, 0))) : OwnN w g (.slice (some ⟨g, 0, none⟩) 0 0) [] :=
  ⟨rfl, .inr ⟨g, 0, #[], rfl, Nat.le_refl _, h, Nat.le_refl _, Nat.zero_le _, rfl, rfl⟩⟩
theorem OwnN.slice {w : World} {base : Nat} {v : Value} {l : List De} (h : OwnN w base v l) : ∃ A cap, v = .slice A l.length cap := by
  rcases h.2 with ⟨rfl, h0⟩ | ⟨g, cap, cur, rfl, _⟩
  · exact ⟨none, 0, by rw [h0]⟩
  · exact ⟨_, _, rfl⟩
theorem OwnN.at {w : World} {base cap : Nat} {A : Option Addr} {l : List De} {n : Nat} (h : OwnN w base (.slice A n cap) l) : DAt w A l := by
  intro j hj
  rcases h.2 with ⟨e, h0⟩ | ⟨g, cap', cur, e, hb, hh, _⟩
  · omega
  · injection e with e1 e2 e3
    subst e1
    obtain ⟨h1, h2, h3⟩ := flat_at l j hj
    refine ⟨g, 0, rfl, lt_of_block hh, ?_, ?_, ?_⟩
    · have := World.ownsRow.cells h (g := g) rfl _ _ h1
      rw [Addr.add_lit] at this
      simpa using this
    · have := World.ownsRow.cells h (g := g) rfl _ _ h2
      rw [Addr.add_lit] at this
      simpa using this
    · have := World.ownsRow.cells h (g := g) rfl _ _ h3
      rw [Addr.add_lit] at this
      simpa using this
theorem OwnN.keep {w w' : World} {base : Nat} {v : Value} {l : List De} (h : OwnN w base v l) (hk : ∀ g, v.ownBlock = some g → w'.heap[g]? = w.heap[g]?) : OwnN w' base v l := by
  refine ⟨h.1, h.2.imp id ?_⟩
  rintro ⟨g, c, cur, rfl, hb, hh, r⟩
  exact ⟨g, c, cur, rfl, hb, (hk g rfl).trans hh, r⟩
theorem OwnN.lt {w : World} {base g : Nat} {v : Value} {l : List De} (h : OwnN w base v l) (hg : v.ownBlock = some g) : base ≤ g ∧ g < w.heap.size := World.ownsRow.lt h g hg
theorem OwnN.next {w w' : World} {base : Nat} {v : Value} {l : List De} (h : OwnN w base v l) (hb : Below w.heap.size w w') : OwnN w' base v l := h.keep fun g hg => hb.block g (h.lt hg).2
theorem OwnN.base {w : World} {base base' : Nat} {v : Value} {l : List De} (h : OwnN w base v l) (hb : base' ≤ base) : OwnN w base' v l := by
  refine ⟨h.1, h.2.imp id ?_⟩
  rintro ⟨g, c, cur, e, hb1, r⟩
  exact ⟨g, c, cur, e, Nat.le_trans hb hb1, r⟩

theorem infoN : (Try.prog.info? 67).map (fun i => (i.zero, i.size, i.bytes)) = some (some (.agg #[.int .i64 0, .int .i64 0, .int .i64 0]), 3, 24) := by kernel_rfl

/-- A list that lies anywhere, put behind a row of a call's own. -/
theorem run_appN (w : World) (ty : TypeId) (base m c : Nat) (v : Value) (A : Option Addr) (l r : List De) (hrow : OwnN w base v l) (hm : m = r.length) (hA : A = none → r = [] ∧ c = 0) (hsrc : DAt w A r) (hlen : l.length + r.length ≤ 100000) (hbase : base ≤ w.heap.size) :
    ∃ v' w', (Builtin.append_ #[64, 64] ty #[v, .slice A m c]).run Try.prog w = .ok v' w' ∧ OwnN w' base v' (l ++ r) ∧ w.grownBy w' v.ownBlock := by
  subst hm
  obtain ⟨i, hi, hz0, hz1, hz2⟩ := info_parts infoN
  cases A with
  | none =>
    obtain ⟨rfl, rfl⟩ := hA rfl
    refine ⟨v, w, run_append_owned_none (P := Try.prog) (w := w) base 64 ty 67 i 3 Try.underlying64 hi v l.length (flat l) hrow, ?_, ⟨rfl, rfl, rfl, Nat.le_refl _, fun _ _ _ => rfl⟩⟩
    rw [List.append_nil]
    exact hrow
  | some ad =>
    obtain ⟨v', w', h1, h2, h3, _⟩ := run_append_own (P := Try.prog) w base 64 ty 67 i _ 3 24 Try.underlying64 hi hz0 hz1 hz2 rfl (by omega) v l.length (flat l) hrow ad r.length c (flat r) (flat_length r) (src_cells hsrc) (flat_oneCell r) (by unfold maxLen; omega) (by omega) hbase
    refine ⟨v', w', h1, ?_, h3⟩
    unfold OwnN
    rw [List.length_append, flat_append]
    exact h2
theorem wp_appN {o : Oper} {a : Act} {w : World} {K : Act → World → Prop} {Q : Exit → Act → World → Prop} (s x : Operand)
    (ho : o.op = .call { callee := .builtin .append, args := #[s, x], argTypes := #[64, 64] }) (base m c : Nat) (v : Value) (A : Option Addr) (l r : List De)
    (hs : a.eval s = v) (hrow : OwnN w base v l) (hx : a.eval x = .slice A m c) (hm : m = r.length) (hA : A = none → r = [] ∧ c = 0) (hsrc : DAt w A r) (hlen : l.length + r.length ≤ 100000) (hbase : base ≤ w.heap.size)
    (h : ∀ v' w', OwnN w' base v' (l ++ r) → w.grownBy w' v.ownBlock → K (a.put o.dst v') w') : o.wp Try.prog a w K Q := by
  obtain ⟨v', w', hr, h2, h3⟩ := run_appN w o.type base m c v A l r hrow hm hA hsrc hlen hbase
  unfold Oper.wp execOp
  simp only [ho, resolve, invoke, builtin, Sem.run_bind, Sem.run_pure, Result.andThen_ok, List.map_toArray, List.map_cons, List.map_nil, hs, hx, hr]
  exact h v' w' h2 h3
theorem wpList_appN {ops : Array Oper} {rest : List Oper} {o : Oper} {a : Act} {w : World} {Q : Exit → Act → World → Prop} (hgd : o.guard = none) (s x : Operand)
    (ho : o.op = .call { callee := .builtin .append, args := #[s, x], argTypes := #[64, 64] }) (base m c : Nat) (v : Value) (A : Option Addr) (l r : List De)
    (hs : a.eval s = v) (hrow : OwnN w base v l) (hx : a.eval x = .slice A m c) (hm : m = r.length) (hA : A = none → r = [] ∧ c = 0) (hsrc : DAt w A r) (hlen : l.length + r.length ≤ 100000) (hbase : base ≤ w.heap.size)
    (h : ∀ v' w', OwnN w' base v' (l ++ r) → w.grownBy w' v.ownBlock → wpList Try.prog ops Q rest (a.put o.dst v') w') : wpList Try.prog ops Q (o :: rest) a w :=
  wpList_plain hgd fun _ hK => wp_appN s x ho base m c v A l r hs hrow hx hm hA hsrc hlen hbase fun v' w' h2 h3 => hK _ _ (h v' w' h2 h3)
theorem step_appN {ops : Array Oper} {o : Oper} {a : Act} {w : World} {K : Act → World → Prop} {Q : Exit → Act → World → Prop} {E : Prop} (hgd : o.guard = none) (s x : Operand)
    (ho : o.op = .call { callee := .builtin .append, args := #[s, x], argTypes := #[64, 64] }) (base m c : Nat) (v : Value) (A : Option Addr) (l r : List De)
    (hs : a.eval s = v) (hrow : OwnN w base v l) (hx : a.eval x = .slice A m c) (hm : m = r.length) (hA : A = none → r = [] ∧ c = 0) (hsrc : DAt w A r) (hlen : l.length + r.length ≤ 100000) (hbase : base ≤ w.heap.size)
    (h : ∀ v' w', OwnN w' base v' (l ++ r) → w.grownBy w' v.ownBlock → K (a.put o.dst v') w') :
    if Region.wanted o (yielded ops a.tmps) = true then Oper.wp Try.prog o a w K Q else E := by
  have hw : Region.wanted o (yielded ops a.tmps) = true := by simp [Region.wanted, hgd]
  rw [if_pos hw]
  exact wp_appN s x ho base m c v A l r hs hrow hx hm hA hsrc hlen hbase h
theorem DAt.oneN {w : World} {g : Nat} {d : De} (h : w.heap[g]? = some (.cells #[.int .i64 d.1, .int .i64 d.2.1, .int .i64 d.2.2] 67 (0, 0))) : DAt w (some ⟨g, 0, none⟩) [d] := fun j hj => by
  obtain rfl : j = 0 := by simpa using hj
  refine ⟨g, 0, rfl, lt_of_block h, ?_, ?_, ?_⟩
  all_goals
    unfold World.cell?
    rw [h]
    rfl
/-- What a row of needs holds: its block is one of needs. -/
theorem OwnN.kind {w : World} {base g : Nat} {v : Value} {l : List De} (h : OwnN w base v l) (hg : v.ownBlock = some g) : ∃ cur, w.heap[g]? = some (.cells cur 67 (0, 0)) := by
  rcases h.2 with ⟨rfl, _⟩ | ⟨g', cap, cur, rfl, _, hh, _⟩
  · cases hg
  · simp [Value.ownBlock] at hg
    subst hg
    exact ⟨cur, hh⟩

/-- A list of ways, each a list of needs, from where a slice begins: all of it. -/
def WAt (w : World) (A : Option Addr) (l : List (List De)) : Prop :=
  ∀ j, j < l.length → ∃ b off Aj cj, A = some ⟨b, off, none⟩ ∧ b < w.heap.size ∧ w.cell? ⟨b, off + j, none⟩ = some (.slice Aj (l.getD j []).length cj) ∧ DAt w Aj (l.getD j [])
theorem WAt.next {w w' : World} {A : Option Addr} {l : List (List De)} (h : WAt w A l) (hb : Below w.heap.size w w') : WAt w' A l := fun j hj => by
  obtain ⟨b, off, Aj, cj, h1, h2, h3, h4⟩ := h j hj
  exact ⟨b, off, Aj, cj, h1, Nat.lt_of_lt_of_le h2 hb.size, (hb.cell (p := ⟨b, off + j, none⟩) h2).trans h3, h4.next hb⟩
theorem WAt.drew {w : World} {A : Option Addr} {l : List (List De)} (h : WAt w A l) : WAt w.drew A l := h
theorem WAt.drewN {w : World} {A : Option Addr} {l : List (List De)} (h : WAt w A l) : ∀ n, WAt (w.drewN n) A l
  | 0 => h
  | n + 1 => (WAt.drewN h n).drew
theorem WAt.nil (w : World) (A : Option Addr) : WAt w A [] := fun j hj => absurd hj (Nat.not_lt_zero j)
/-- The first six ways of a list, of each the first six needs, and how many there are. -/
def WG (w : World) (A : Option Addr) (n : Nat) (l : List (List De)) : Prop :=
  l.length = min n 6 ∧ ∀ j, j < l.length → ∃ b off Aj nj cj, A = some ⟨b, off, none⟩ ∧ b < w.heap.size ∧ w.cell? ⟨b, off + j, none⟩ = some (.slice Aj nj cj) ∧ DAt w Aj (l.getD j []) ∧ (l.getD j []).length = min nj 6 ∧ nj ≤ cj ∧ cj ≤ 9223372036854775807 ∧ (Aj = none → nj = 0 ∧ cj = 0)
theorem WG.next {w w' : World} {A : Option Addr} {n : Nat} {l : List (List De)} (h : WG w A n l) (hb : Below w.heap.size w w') : WG w' A n l := ⟨h.1, fun j hj => by
  obtain ⟨b, off, Aj, nj, cj, h1, h2, h3, h4, h5⟩ := h.2 j hj
  exact ⟨b, off, Aj, nj, cj, h1, Nat.lt_of_lt_of_le h2 hb.size, (hb.cell (p := ⟨b, off + j, none⟩) h2).trans h3, h4.next hb, h5⟩⟩
/-- One that is no longer is there whole. -/
theorem WG.whole {w : World} {A : Option Addr} {n : Nat} {l : List (List De)} (h : WG w A n l) (hl : l.length ≤ 5) (hw : ∀ x ∈ l, x.length ≤ 5) : n = l.length ∧ WAt w A l := by
  refine ⟨by have := h.1; omega, fun j hj => ?_⟩
  obtain ⟨b, off, Aj, nj, cj, h1, h2, h3, h4, h5, _⟩ := h.2 j hj
  have hm := hw _ (getW_mem hj)
  have : nj = (l.getD j []).length := by omega
  subst this
  exact ⟨b, off, Aj, cj, h1, h2, h3, h4⟩

/-- A row of ways that a call owns, each of them a row of needs of the call's own. -/
def OwnW (W : World) (base : Nat) (v : Value) (l : List (List De)) : Prop :=
  ∃ xs : List Value, W.ownsRow base 64 1 v l.length xs ∧ ∀ j, j < l.length → ∃ x, xs[j]? = some x ∧ OwnN W base x (l.getD j [])
theorem OwnW.slice {w : World} {base : Nat} {v : Value} {l : List (List De)} (h : OwnW w base v l) : ∃ A cap, v = .slice A l.length cap := by
  obtain ⟨xs, h1, _⟩ := h
  rcases h1.2 with ⟨rfl, h0⟩ | ⟨g, cap, cur, rfl, _⟩
  · exact ⟨none, 0, by rw [h0]⟩
  · exact ⟨_, _, rfl⟩
theorem OwnW.next {w w' : World} {base : Nat} {v : Value} {l : List (List De)} (h : OwnW w base v l) (hb : Below w.heap.size w w') : OwnW w' base v l := by
  obtain ⟨xs, h1, h2⟩ := h
  refine ⟨xs, ?_, fun j hj => ?_⟩
  · refine ⟨h1.1, h1.2.imp id ?_⟩
    rintro ⟨g, c, cur, rfl, hg, hh, r⟩
    exact ⟨g, c, cur, rfl, hg, (hb.block g (lt_of_block hh)).trans hh, r⟩
  · obtain ⟨x, h3, h4⟩ := h2 j hj
    exact ⟨x, h3, h4.next hb⟩
theorem OwnW.nil (w : World) (base : Nat) : OwnW w base (.slice none 0 0) [] := ⟨[], World.ownsRow_nil .., fun j hj => absurd hj (Nat.not_lt_zero j)⟩
theorem OwnW.empty {w : World} {g : Nat} (h : w.heap[g]? = some (.cells #[] 64 (0, 0))) : OwnW w g (.slice (some ⟨g, 0, none⟩) 0 0) [] :=
  ⟨[], ⟨rfl, .inr ⟨g, 0, #[], rfl, Nat.le_refl _, h, Nat.le_refl _, Nat.zero_le _, rfl, rfl⟩⟩, fun j hj => absurd hj (Nat.not_lt_zero j)⟩
theorem OwnW.base {w : World} {base base' : Nat} {v : Value} {l : List (List De)} (h : OwnW w base v l) (hb : base' ≤ base) : OwnW w base' v l := by
  obtain ⟨xs, h1, h2⟩ := h
  refine ⟨xs, ⟨h1.1, h1.2.imp id ?_⟩, fun j hj => ?_⟩
  · rintro ⟨g, c, cur, e, hg, r⟩
    exact ⟨g, c, cur, e, Nat.le_trans hb hg, r⟩
  · obtain ⟨x, h3, h4⟩ := h2 j hj
    exact ⟨x, h3, h4.base hb⟩
theorem OwnW.at {w : World} {base cap : Nat} {A : Option Addr} {l : List (List De)} {n : Nat} (h : OwnW w base (.slice A n cap) l) : WAt w A l := by
  intro j hj
  obtain ⟨xs, h1, h2⟩ := h
  obtain ⟨x, h3, h4⟩ := h2 j hj
  rcases h1.2 with ⟨e, h0⟩ | ⟨g, cap', cur, e, hb, hh, _⟩
  · omega
  · injection e with e1 e2 e3
    subst e1
    obtain ⟨Aj, cj, rfl⟩ := h4.slice
    refine ⟨g, 0, Aj, cj, rfl, lt_of_block hh, ?_, h4.at⟩
    have := World.ownsRow.cells h1 (g := g) rfl _ _ h3
    rw [Addr.add_lit] at this
    simpa using this
theorem infoW : (Try.prog.info? 64).map (fun i => (i.zero, i.size, i.bytes)) = some (some (.slice none 0 0), 1, 24) := by kernel_rfl

/-- One way, in a block of its own, put behind a row of ways. -/
theorem run_appW (w w1 : World) (ty : TypeId) (base c : Nat) (v x : Value) (l : List (List De)) (r : List De) (hrow : OwnW w base v l) (hx : OwnN w base x r) (hw1 : w1 = w.alloc (.cells #[x] 64)) (hlen : l.length ≤ 1000) (hbase : base ≤ w.heap.size) :
    ∃ v' w', (Builtin.append_ #[47, 47] ty #[v, .slice (some ⟨w.heap.size, 0, none⟩) 1 c]).run Try.prog w1 = .ok v' w' ∧ OwnW w' base v' (l ++ [r]) ∧ w1.grownBy w' v.ownBlock := by
  subst hw1
  obtain ⟨i, hi, hz0, hz1, hz2⟩ := info_parts infoW
  obtain ⟨xs, h1, h2⟩ := hrow
  have hb0 : Below w.heap.size w (w.alloc (.cells #[x] 64)) := (Below.refl _ w).alloc (Nat.le_refl _) _
  have hc : (w.alloc (.cells #[x] 64)).cell? ⟨w.heap.size, 0, none⟩ = some x := by
    unfold World.cell?
    rw [heap_alloc_new w _]
    rfl
  have hrow1 : (w.alloc (.cells #[x] 64)).ownsRow base 64 1 v l.length xs := by
    refine ⟨h1.1, h1.2.imp id ?_⟩
    rintro ⟨g, c, cur, rfl, hg, hh, r⟩
    exact ⟨g, c, cur, rfl, hg, (hb0.block g (lt_of_block hh)).trans hh, r⟩
  obtain ⟨Ax, cx, hxs⟩ := hx.slice
  obtain ⟨v', w', r1, r2, r3, _⟩ := run_append_own (P := Try.prog) (w.alloc (.cells #[x] 64)) base 47 ty 64 i _ 1 24 Try.underlying47 hi hz0 hz1 hz2 rfl (by omega) v l.length xs hrow1 ⟨w.heap.size, 0, none⟩ 1 c [x] rfl (by
      intro j u hu
      rcases j with _ | j
      · simp only [List.getElem?_cons_zero, Option.some.injEq] at hu
        subst hu
        rw [Addr.add_lit]
        exact hc
      · simp at hu) (by
      intro u hu
      simp only [List.mem_singleton] at hu
      subst hu
      rw [hxs]
      rfl) (by unfold maxLen; omega) (by omega) (by simp; omega)
  refine ⟨v', w', r1, ⟨xs ++ [x], ?_, fun j hj => ?_⟩, r3⟩
  · rw [List.length_append]
    exact r2
  · have hlx : xs.length = l.length := by have := h1.1; omega
    have keep : ∀ (y : Value) (r' : List De), OwnN w base y r' → OwnN w' base y r' := fun y r' hy => hy.keep fun g hg => by
      have hlt := (hy.lt hg).2
      obtain ⟨cur, hk⟩ := hy.kind hg
      rw [r3.block g (by have := hb0.size; omega) (fun e => ?_), hb0.block g hlt]
      rcases h1.2 with ⟨rfl, _⟩ | ⟨g', cap', cur', rfl, _, hh, _⟩
      · cases e
      · simp [Value.ownBlock] at e
        subst e
        rw [hk] at hh
        injection hh with hh
        injection hh with _ hh _
        exact absurd hh (by decide)
    rcases Nat.lt_or_ge j l.length with hj2 | hj2
    · obtain ⟨y, h3, h4⟩ := h2 j hj2
      refine ⟨y, by rw [List.getElem?_append_left (by omega)]; exact h3, ?_⟩
      rw [show (l ++ [r]).getD j [] = l.getD j [] from by rw [List.getD_eq_getElem?_getD, List.getD_eq_getElem?_getD, List.getElem?_append_left hj2]]
      exact keep _ _ h4
    · rw [List.length_append] at hj
      obtain rfl : j = l.length := by simp at hj; omega
      refine ⟨x, by rw [List.getElem?_append_right (by omega), hlx, Nat.sub_self]; rfl, ?_⟩
      rw [show (l ++ [r]).getD l.length [] = r from by rw [List.getD_eq_getElem?_getD, List.getElem?_append_right (Nat.le_refl _), Nat.sub_self]; rfl]
      exact keep _ _ hx
theorem wp_appW {o : Oper} {a : Act} {w w1 : World} {K : Act → World → Prop} {Q : Exit → Act → World → Prop} (s y : Operand)
    (ho : o.op = .call { callee := .builtin .append, args := #[s, y], argTypes := #[47, 47] }) (base c : Nat) (v x : Value) (l : List (List De)) (r : List De)
    (hs : a.eval s = v) (hrow : OwnW w base v l) (hy : a.eval y = .slice (some ⟨w.heap.size, 0, none⟩) 1 c) (hx : OwnN w base x r) (hw1 : w1 = w.alloc (.cells #[x] 64)) (hlen : l.length ≤ 1000) (hbase : base ≤ w.heap.size)
    (h : ∀ v' w', OwnW w' base v' (l ++ [r]) → w1.grownBy w' v.ownBlock → K (a.put o.dst v') w') : o.wp Try.prog a w1 K Q := by
  obtain ⟨v', w', hr, h2, h3⟩ := run_appW w w1 o.type base c v x l r hrow hx hw1 hlen hbase
  unfold Oper.wp execOp
  simp only [ho, resolve, invoke, builtin, Sem.run_bind, Sem.run_pure, Result.andThen_ok, List.map_toArray, List.map_cons, List.map_nil, hs, hy, hr]
  exact h v' w' h2 h3
theorem wpList_appW {ops : Array Oper} {rest : List Oper} {o : Oper} {a : Act} {w w1 : World} {Q : Exit → Act → World → Prop} (hgd : o.guard = none) (s y : Operand)
    (ho : o.op = .call { callee := .builtin .append, args := #[s, y], argTypes := #[47, 47] }) (base c : Nat) (v x : Value) (l : List (List De)) (r : List De)
    (hs : a.eval s = v) (hrow : OwnW w base v l) (hy : a.eval y = .slice (some ⟨w.heap.size, 0, none⟩) 1 c) (hx : OwnN w base x r) (hw1 : w1 = w.alloc (.cells #[x] 64)) (hlen : l.length ≤ 1000) (hbase : base ≤ w.heap.size)
    (h : ∀ v' w', OwnW w' base v' (l ++ [r]) → w1.grownBy w' v.ownBlock → wpList Try.prog ops Q rest (a.put o.dst v') w') : wpList Try.prog ops Q (o :: rest) a w1 :=
  wpList_plain hgd fun _ hK => wp_appW s y ho base c v x l r hs hrow hy hx hw1 hlen hbase fun v' w' h2 h3 => hK _ _ (h v' w' h2 h3)
theorem step_appW {ops : Array Oper} {o : Oper} {a : Act} {w w1 : World} {K : Act → World → Prop} {Q : Exit → Act → World → Prop} {E : Prop} (hgd : o.guard = none) (s y : Operand)
    (ho : o.op = .call { callee := .builtin .append, args := #[s, y], argTypes := #[47, 47] }) (base c : Nat) (v x : Value) (l : List (List De)) (r : List De)
    (hs : a.eval s = v) (hrow : OwnW w base v l) (hy : a.eval y = .slice (some ⟨w.heap.size, 0, none⟩) 1 c) (hx : OwnN w base x r) (hw1 : w1 = w.alloc (.cells #[x] 64)) (hlen : l.length ≤ 1000) (hbase : base ≤ w.heap.size)
    (h : ∀ v' w', OwnW w' base v' (l ++ [r]) → w1.grownBy w' v.ownBlock → K (a.put o.dst v') w') :
    if Region.wanted o (yielded ops a.tmps) = true then Oper.wp Try.prog o a w1 K Q else E := by
  have hw : Region.wanted o (yielded ops a.tmps) = true := by simp [Region.wanted, hgd]
  rw [if_pos hw]
  exact wp_appW s y ho base c v x l r hs hrow hy hx hw1 hlen hbase h
end Go.Proofs.Ytjlmgoaglpkhoaa.need

/-
  The document's own answers of words, each by itself: the word of the lowest bits, which numbers are words, a bit, two words bit by bit, a word that is moved, and what an operation comes to. No condition.
-/
namespace Go.Proofs.Ytjlmgoaglpkhoaa.word
open Go.RowKit Go.ChangeShapes

theorem ret_int {k : IntKind} {a b : Int} (h : a = b) : Ending.returned (.int k a) = .returned (.int k b) := by rw [h]
theorem ret_bool {a b : Bool} (h : a = b) : Ending.returned (.bool a) = .returned (.bool b) := by rw [h]

set_option maxHeartbeats 400000 in
theorem refFits_any (n : Int) (w : World) :
    Calls Try.prog 31 #[.int .i64 n] w fun e w' => e = .returned (.bool (decide (Word n))) ∧ w = w' := by
  by_cases h1 : -2147483648 ≤ n
  · by_cases h2 : n < 2147483648
    · have HE : Hid (decide (Word n) = true) := Lib.hid (by rw [decide_eq_true_iff]; unfold Word; omega)
      go_enter Try.func31, Try.ntmps31
      go_wp2
      go_ret
      exact ⟨ret_bool HE.out.symm, rfl⟩
    · have HE : Hid (decide (Word n) = false) := Lib.hid (by rw [decide_eq_false_iff_not]; unfold Word; omega)
      have hd : decide (n < 2147483648) = false := by simpa using h2
      go_enter Try.func31, Try.ntmps31
      go_wp2
      go_ret
      exact ⟨ret_bool HE.out.symm, rfl⟩
  · have HE : Hid (decide (Word n) = false) := Lib.hid (by rw [decide_eq_false_iff_not]; unfold Word; omega)
    have hd : decide (-2147483648 ≤ n) = false := by simpa using h1
    go_enter Try.func31, Try.ntmps31
    go_wp2
    go_ret
    exact ⟨ret_bool HE.out.symm, rfl⟩

/-- Two numbers, as a call tells them. -/
def two (p : Int × Int) : Value := .tuple #[.int .i64 p.1, .int .i64 p.2]

end Go.Proofs.Ytjlmgoaglpkhoaa.word

/-
  The document's names of kinds, the kinds that a letter stands for, and whether an object is of one. No condition.
-/
namespace Go.Proofs.Ytjlmgoaglpkhoaa.objs
open Go.RowKit Go.ChangeShapes
open Go.Proofs.Ytjlmgoaglpkhoaa.word (Word)
set_option linter.unusedVariables false

theorem ret_int {k : IntKind} {a b : Int} (h : a = b) : Ending.returned (.int k a) = .returned (.int k b) := by rw [h]
theorem ret_bool {a b : Bool} (h : a = b) : Ending.returned (.bool a) = .returned (.bool b) := by rw [h]
theorem ret_string {a b : ByteArray} (h : a = b) : Ending.returned (.string a) = .returned (.string b) := by rw [h]

/-- A list of kinds that a call has made. -/
def KAt (w : World) (A : Option Addr) (ks : List Int) : Prop := ∀ j, j < ks.length → ∃ b, A = some ⟨b, 0, none⟩ ∧ w.cell? ⟨b, j, none⟩ = some (.int .i64 (ks.getD j 0))
def KindsPost (c : UInt8) (w : World) (e : Ending) (w' : World) : Prop := ∃ A, e = .returned (.slice A (kindsOf c).length (kindsOf c).length) ∧ KAt w' A (kindsOf c) ∧ Below w.heap.size w w'
theorem kat_one {w : World} {b : Nat} {k : Int} (h : w.heap[b]? = some (.cells #[.int .i64 k] 3 (0, 0))) : KAt w (some ⟨b, 0, none⟩) [k] := fun j hj => by
  obtain rfl : j = 0 := by simpa using hj
  refine ⟨b, rfl, ?_⟩
  unfold World.cell?
  rw [h]
  rfl
theorem kat_two {w : World} {b : Nat} {k m : Int} (h : w.heap[b]? = some (.cells #[.int .i64 k, .int .i64 m] 3 (0, 0))) : KAt w (some ⟨b, 0, none⟩) [k, m] := fun j hj => by
  have hj2 : j < 2 := hj
  refine ⟨b, rfl, ?_⟩
  unfold World.cell?
  rw [h]
  match j, hj2 with
  | 0, _ => rfl
  | 1, _ => rfl
def letters : List UInt8 := [117, 115, 112, 99, 109, 98, 118, 113]
theorem kinds_none {c : UInt8} (h : ∀ k, k < 8 → c ≠ letters.getD k 0) : kindsOf c = [] := by
  have h0 : c ≠ 117 := h 0 (by omega)
  have h1 : c ≠ 115 := h 1 (by omega)
  have h2 : c ≠ 112 := h 2 (by omega)
  have h3 : c ≠ 99 := h 3 (by omega)
  have h4 : c ≠ 109 := h 4 (by omega)
  have h5 : c ≠ 98 := h 5 (by omega)
  have h6 : c ≠ 118 := h 6 (by omega)
  have h7 : c ≠ 113 := h 7 (by omega)
  unfold kindsOf
  rw [if_neg h0, if_neg h1, if_neg h2, if_neg h3, if_neg h4, if_neg h5, if_neg h6, if_neg h7]
theorem u8_eq {c k : UInt8} : ((k.toNat : Int) == (c.toNat : Int)) = decide (c = k) := by
  by_cases h : c = k
  · subst h; simp
  · rw [decide_eq_false h, beq_eq_false_iff_ne]
    intro e
    exact h (UInt8.toNat_inj.1 (by omega))

/-- The world in which all lists of kinds are made. -/
def ints1 (k : Int) : Obj := .cells #[.int .i64 k] 3
def ints2 (k m : Int) : Obj := .cells #[.int .i64 k, .int .i64 m] 3
def rows (n : Nat) : Obj := .cells #[.slice (some ⟨n, 0, none⟩) 2 2, .slice (some ⟨n + 1, 0, none⟩) 1 1, .slice (some ⟨n + 1 + 1, 0, none⟩) 1 1, .slice (some ⟨n + 1 + 1 + 1, 0, none⟩) 1 1, .slice (some ⟨n + 1 + 1 + 1 + 1, 0, none⟩) 1 1, .slice (some ⟨n + 1 + 1 + 1 + 1 + 1, 0, none⟩) 1 1, .slice (some ⟨n + 1 + 1 + 1 + 1 + 1 + 1, 0, none⟩) 1 1, .slice (some ⟨n + 1 + 1 + 1 + 1 + 1 + 1 + 1, 0, none⟩) 2 2] 30
def kw (w : World) : World := ((((((((w.alloc (ints2 1 2)).alloc (ints1 3)).alloc (ints1 6)).alloc (ints1 4)).alloc (ints1 1)).alloc (ints1 5)).alloc (ints1 7)).alloc (ints2 1 6)).alloc (rows w.heap.size)
theorem kw_below (w : World) : Below w.heap.size w (kw w) := by
  unfold kw
  refine (((((((((Below.refl _ w).alloc (Nat.le_refl _) _).alloc ?_ _).alloc ?_ _).alloc ?_ _).alloc ?_ _).alloc ?_ _).alloc ?_ _).alloc ?_ _).alloc ?_ _
  all_goals simp only [World.size_alloc]; omega
theorem kw_at (w : World) : (kw w).heap[w.heap.size]? = some (ints2 1 2) ∧ (kw w).heap[w.heap.size + 1]? = some (ints1 3) ∧ (kw w).heap[w.heap.size + 1 + 1]? = some (ints1 6) ∧ (kw w).heap[w.heap.size + 1 + 1 + 1]? = some (ints1 4) ∧
    (kw w).heap[w.heap.size + 1 + 1 + 1 + 1]? = some (ints1 1) ∧ (kw w).heap[w.heap.size + 1 + 1 + 1 + 1 + 1]? = some (ints1 5) ∧ (kw w).heap[w.heap.size + 1 + 1 + 1 + 1 + 1 + 1]? = some (ints1 7) ∧ (kw w).heap[w.heap.size + 1 + 1 + 1 + 1 + 1 + 1 + 1]? = some (ints2 1 6) ∧
    (kw w).heap[w.heap.size + 1 + 1 + 1 + 1 + 1 + 1 + 1 + 1]? = some (rows w.heap.size) := by
  unfold kw
  refine ⟨?_, ?_, ?_, ?_, ?_, ?_, ?_, ?_, ?_⟩
  all_goals simp only [World.alloc, Array.getElem?_push, Array.size_push]
  all_goals repeat (first | rw [if_pos trivial] | rw [if_neg (by omega)])

set_option maxRecDepth 100000 in
set_option maxHeartbeats 4000000 in
theorem refKinds_any (c : UInt8) (w : World) : Calls Try.prog 40 #[.int .u8 (c.toNat : Int)] w (KindsPost c w) := by
  go_enter Try.func40, Try.ntmps40
  have HB := Lib.hid (kw_below w)
  obtain ⟨k0, k1, k2, k3, k4, k5, k6, k7, k8⟩ := kw_at w
  have H0 := Lib.hid (kat_two k0)
  have H1 := Lib.hid (kat_one k1)
  have H2 := Lib.hid (kat_one k2)
  have H3 := Lib.hid (kat_one k3)
  have H4 := Lib.hid (kat_one k4)
  have H5 := Lib.hid (kat_one k5)
  have H6 := Lib.hid (kat_one k6)
  have H7 := Lib.hid (kat_two k7)
  have HR : ∀ j, j < 8 → ∃ x, (kw w).cell? ⟨w.heap.size + 1 + 1 + 1 + 1 + 1 + 1 + 1 + 1, j, none⟩ = some x := by
    intro j hj
    unfold World.cell?
    rw [k8]
    unfold rows
    rcases (by omega : j = 0 ∨ j = 1 ∨ j = 2 ∨ j = 3 ∨ j = 4 ∨ j = 5 ∨ j = 6 ∨ j = 7) with rfl | rfl | rfl | rfl | rfl | rfl | rfl | rfl <;> exact ⟨_, rfl⟩
  have r0 : (kw w).cell? ⟨w.heap.size + 1 + 1 + 1 + 1 + 1 + 1 + 1 + 1, 0, none⟩ = some (.slice (some ⟨w.heap.size, 0, none⟩) 2 2) := by unfold World.cell?; rw [k8]; rfl
  have r1 : (kw w).cell? ⟨w.heap.size + 1 + 1 + 1 + 1 + 1 + 1 + 1 + 1, 1, none⟩ = some (.slice (some ⟨w.heap.size + 1, 0, none⟩) 1 1) := by unfold World.cell?; rw [k8]; rfl
  have r2 : (kw w).cell? ⟨w.heap.size + 1 + 1 + 1 + 1 + 1 + 1 + 1 + 1, 2, none⟩ = some (.slice (some ⟨w.heap.size + 1 + 1, 0, none⟩) 1 1) := by unfold World.cell?; rw [k8]; rfl
  have r3 : (kw w).cell? ⟨w.heap.size + 1 + 1 + 1 + 1 + 1 + 1 + 1 + 1, 3, none⟩ = some (.slice (some ⟨w.heap.size + 1 + 1 + 1, 0, none⟩) 1 1) := by unfold World.cell?; rw [k8]; rfl
  have r4 : (kw w).cell? ⟨w.heap.size + 1 + 1 + 1 + 1 + 1 + 1 + 1 + 1, 4, none⟩ = some (.slice (some ⟨w.heap.size + 1 + 1 + 1 + 1, 0, none⟩) 1 1) := by unfold World.cell?; rw [k8]; rfl
  have r5 : (kw w).cell? ⟨w.heap.size + 1 + 1 + 1 + 1 + 1 + 1 + 1 + 1, 5, none⟩ = some (.slice (some ⟨w.heap.size + 1 + 1 + 1 + 1 + 1, 0, none⟩) 1 1) := by unfold World.cell?; rw [k8]; rfl
  have r6 : (kw w).cell? ⟨w.heap.size + 1 + 1 + 1 + 1 + 1 + 1 + 1 + 1, 6, none⟩ = some (.slice (some ⟨w.heap.size + 1 + 1 + 1 + 1 + 1 + 1, 0, none⟩) 1 1) := by unfold World.cell?; rw [k8]; rfl
  have r7 : (kw w).cell? ⟨w.heap.size + 1 + 1 + 1 + 1 + 1 + 1 + 1 + 1, 7, none⟩ = some (.slice (some ⟨w.heap.size + 1 + 1 + 1 + 1 + 1 + 1 + 1, 0, none⟩) 2 2) := by unfold World.cell?; rw [k8]; rfl
  clear k0 k1 k2 k3 k4 k5 k6 k7 k8 HR
  obtain ⟨n8, hn8⟩ : ∃ n8, n8 = w.heap.size + 1 + 1 + 1 + 1 + 1 + 1 + 1 + 1 := ⟨_, rfl⟩
  obtain ⟨W1, hW1⟩ : ∃ W1, W1 = kw w := ⟨_, rfl⟩
  rw [← hn8, ← hW1] at r0 r1 r2 r3 r4 r5 r6 r7
  rw [← hW1] at HB H0 H1 H2 H3 H4 H5 H6 H7
  unfold kw ints1 ints2 rows at hW1
  go_wp2_with fail
  rw [← hW1, ← hn8]
  clear hW1 hn8
  have HNx : ∀ j, c ≠ letters.getD j 0 → Hid (∀ k, k < j → c ≠ letters.getD k 0) → Hid (∀ k, k < j + 1 → c ≠ letters.getD k 0) := fun j h1 h2 => Lib.hid (fun k hk => by
    rcases Nat.lt_or_ge k j with h3 | h3
    · exact h2.out k h3
    · obtain rfl : k = j := by omega
      exact h1)
  unfold KindsPost
  go_loop [5] (fun i => ∃ j : Nat, j ≤ 8 ∧ i = .int .i64 (j : Int) ∧ Hid (∀ k, k < j → c ≠ letters.getD k 0)) (fun i => 8 - (intOf i).toNat)
  case atStart => exact ⟨0, Nat.zero_le _, rfl, Lib.hid (fun k hk => absurd hk (Nat.not_lt_zero k))⟩
  case round =>
    obtain ⟨j, hj, rfl, HO⟩ := hrel
    rcases (by omega : j = 0 ∨ j = 1 ∨ j = 2 ∨ j = 3 ∨ j = 4 ∨ j = 5 ∨ j = 6 ∨ j = 7 ∨ j = 8) with rfl | rfl | rfl | rfl | rfl | rfl | rfl | rfl | rfl
    · by_cases hc : c = 117
      · subst hc
        go_wp2
        exact bodyPost_ret (v := .slice (some ⟨w.heap.size, 0, none⟩) 2 2) (by simp [results, Try.results40, go_sem]) rfl ⟨_, rfl, H0.out, HB.out⟩
      · have hb : ((((⟨#[117, 115, 112, 99, 109, 98, 118, 113]⟩ : ByteArray)[0]'(by decide)).toNat : Int) == (c.toNat : Int)) = false := (u8_eq (c := c) (k := 117)).trans (decide_eq_false hc)
        have HE := HNx 0 hc HO
        clear hc
        go_wp2
        exact ⟨⟨1, by omega, rfl, HE⟩, by simp [intOf]⟩
    · by_cases hc : c = 115
      · subst hc
        go_wp2
        exact bodyPost_ret (v := .slice (some ⟨w.heap.size + 1, 0, none⟩) 1 1) (by simp [results, Try.results40, go_sem]) rfl ⟨_, rfl, H1.out, HB.out⟩
      · have hb : ((((⟨#[117, 115, 112, 99, 109, 98, 118, 113]⟩ : ByteArray)[1]'(by decide)).toNat : Int) == (c.toNat : Int)) = false := (u8_eq (c := c) (k := 115)).trans (decide_eq_false hc)
        have HE := HNx 1 hc HO
        clear hc
        go_wp2
        exact ⟨⟨2, by omega, rfl, HE⟩, by simp [intOf]⟩
    · by_cases hc : c = 112
      · subst hc
        go_wp2
        exact bodyPost_ret (v := .slice (some ⟨w.heap.size + 1 + 1, 0, none⟩) 1 1) (by simp [results, Try.results40, go_sem]) rfl ⟨_, rfl, H2.out, HB.out⟩
      · have hb : ((((⟨#[117, 115, 112, 99, 109, 98, 118, 113]⟩ : ByteArray)[2]'(by decide)).toNat : Int) == (c.toNat : Int)) = false := (u8_eq (c := c) (k := 112)).trans (decide_eq_false hc)
        have HE := HNx 2 hc HO
        clear hc
        go_wp2
        exact ⟨⟨3, by omega, rfl, HE⟩, by simp [intOf]⟩
    · by_cases hc : c = 99
      · subst hc
        go_wp2
        exact bodyPost_ret (v := .slice (some ⟨w.heap.size + 1 + 1 + 1, 0, none⟩) 1 1) (by simp [results, Try.results40, go_sem]) rfl ⟨_, rfl, H3.out, HB.out⟩
      · have hb : ((((⟨#[117, 115, 112, 99, 109, 98, 118, 113]⟩ : ByteArray)[3]'(by decide)).toNat : Int) == (c.toNat : Int)) = false := (u8_eq (c := c) (k := 99)).trans (decide_eq_false hc)
        have HE := HNx 3 hc HO
        clear hc
        go_wp2
        exact ⟨⟨4, by omega, rfl, HE⟩, by simp [intOf]⟩
    · by_cases hc : c = 109
      · subst hc
        go_wp2
        exact bodyPost_ret (v := .slice (some ⟨w.heap.size + 1 + 1 + 1 + 1, 0, none⟩) 1 1) (by simp [results, Try.results40, go_sem]) rfl ⟨_, rfl, H4.out, HB.out⟩
      · have hb : ((((⟨#[117, 115, 112, 99, 109, 98, 118, 113]⟩ : ByteArray)[4]'(by decide)).toNat : Int) == (c.toNat : Int)) = false := (u8_eq (c := c) (k := 109)).trans (decide_eq_false hc)
        have HE := HNx 4 hc HO
        clear hc
        go_wp2
        exact ⟨⟨5, by omega, rfl, HE⟩, by simp [intOf]⟩
    · by_cases hc : c = 98
      · subst hc
        go_wp2
        exact bodyPost_ret (v := .slice (some ⟨w.heap.size + 1 + 1 + 1 + 1 + 1, 0, none⟩) 1 1) (by simp [results, Try.results40, go_sem]) rfl ⟨_, rfl, H5.out, HB.out⟩
      · have hb : ((((⟨#[117, 115, 112, 99, 109, 98, 118, 113]⟩ : ByteArray)[5]'(by decide)).toNat : Int) == (c.toNat : Int)) = false := (u8_eq (c := c) (k := 98)).trans (decide_eq_false hc)
        have HE := HNx 5 hc HO
        clear hc
        go_wp2
        exact ⟨⟨6, by omega, rfl, HE⟩, by simp [intOf]⟩
    · by_cases hc : c = 118
      · subst hc
        go_wp2
        exact bodyPost_ret (v := .slice (some ⟨w.heap.size + 1 + 1 + 1 + 1 + 1 + 1, 0, none⟩) 1 1) (by simp [results, Try.results40, go_sem]) rfl ⟨_, rfl, H6.out, HB.out⟩
      · have hb : ((((⟨#[117, 115, 112, 99, 109, 98, 118, 113]⟩ : ByteArray)[6]'(by decide)).toNat : Int) == (c.toNat : Int)) = false := (u8_eq (c := c) (k := 118)).trans (decide_eq_false hc)
        have HE := HNx 6 hc HO
        clear hc
        go_wp2
        exact ⟨⟨7, by omega, rfl, HE⟩, by simp [intOf]⟩
    · by_cases hc : c = 113
      · subst hc
        go_wp2
        exact bodyPost_ret (v := .slice (some ⟨w.heap.size + 1 + 1 + 1 + 1 + 1 + 1 + 1, 0, none⟩) 2 2) (by simp [results, Try.results40, go_sem]) rfl ⟨_, rfl, H7.out, HB.out⟩
      · have hb : ((((⟨#[117, 115, 112, 99, 109, 98, 118, 113]⟩ : ByteArray)[7]'(by decide)).toNat : Int) == (c.toNat : Int)) = false := (u8_eq (c := c) (k := 113)).trans (decide_eq_false hc)
        have HE := HNx 7 hc HO
        clear hc
        go_wp2
        exact ⟨⟨8, by omega, rfl, HE⟩, by simp [intOf]⟩
    · have HE := Lib.hid (kinds_none HO.out)
      clear HNx
      go_wp2
      exact bodyPost_ret (v := .slice none 0 0) (by simp [results, Try.results40, go_sem]) rfl ⟨none, by rw [HE.out]; rfl, by rw [HE.out]; exact fun j hj => absurd hj (Nat.not_lt_zero j), HB.out⟩
end Go.Proofs.Ytjlmgoaglpkhoaa.objs

/-
  The document's own answer whether an object is of a kind that a letter stands for, and the names of kinds. No condition.
-/
namespace Go.Proofs.Ytjlmgoaglpkhoaa.objs
open Go.RowKit Go.ChangeShapes
open Go.Proofs.Ytjlmgoaglpkhoaa.word (Word)
set_option linter.unusedVariables false

theorem contains_at {ks : List Int} {x : Int} {j : Nat} (hj : j < ks.length) (h : ks.getD j 0 = x) : ks.contains x = true := by
  rw [List.contains_iff_mem]
  rw [List.getD_eq_getElem?_getD, List.getElem?_eq_getElem hj, Option.getD_some] at h
  rw [← h]
  exact List.getElem_mem hj
theorem contains_no {ks : List Int} {x : Int} (h : ∀ k, k < ks.length → ks.getD k 0 ≠ x) : ks.contains x = false := by
  cases hc : ks.contains x with
  | false => rfl
  | true =>
    rw [List.contains_iff_mem] at hc
    obtain ⟨k, hk, e⟩ := List.getElem_of_mem hc
    exact absurd (by rw [List.getD_eq_getElem?_getD, List.getElem?_eq_getElem hk, Option.getD_some]; exact e) (h k hk)
theorem KAt.next {w w' : World} {A : Option Addr} {ks : List Int} (h : KAt w A ks) (hb : Below w.heap.size w w') : KAt w' A ks := fun j hj => by
  obtain ⟨b, h1, h2⟩ := h j hj
  refine ⟨b, h1, ?_⟩
  have hlt : b < w.heap.size := by
    rcases Nat.lt_or_ge b w.heap.size with h3 | h3
    · exact h3
    · simp [World.cell?, Array.getElem?_eq_none h3] at h2
  exact (hb.cell (p := ⟨b, j, none⟩) hlt).trans h2
theorem KAt.drewN {w : World} {A : Option Addr} {ks : List Int} (h : KAt w A ks) (n : Nat) : KAt (w.drewN n) A ks := fun j hj => by
  obtain ⟨b, h1, h2⟩ := h j hj
  exact ⟨b, h1, by simpa using h2⟩
theorem kinds_le (c : UInt8) : (kindsOf c).length ≤ 2 := by
  unfold kindsOf
  split
  · decide
  · split
    · decide
    · split
      · decide
      · split
        · decide
        · split
          · decide
          · split
            · decide
            · split
              · decide
              · split <;> decide
theorem below_drewN {B : Nat} {a w : World} (h : Below B a w) : ∀ n, Below B a (w.drewN n)
  | 0 => h
  | n + 1 => (below_drewN h n).drew

set_option maxRecDepth 100000 in
set_option maxHeartbeats 4000000 in
theorem refFits_in (A : Option Addr) (cap : Nat) (l : List De) (c : UInt8) (m : Nat) (hm : m < l.length) (hl : l.length ≤ 9223372036854775807) (w : World) (hA : DAt w A l) :
    Calls Try.prog 32 #[.slice A l.length cap, .int .u8 (c.toNat : Int), .int .i64 (m : Int)] w fun e w' => e = .returned (.bool (fits l c m)) ∧ Below w.heap.size w w' := by
  have HK := Lib.hid (refKinds_any c w)
  have HF : Hid (fits l c m = (kindsOf c).contains (l.getD m zero).1) := Lib.hid (by unfold fits; rw [decide_eq_true (by omega), Bool.true_and, Int.toNat_natCast])
  obtain ⟨b, off, rfl, hb, c0, _, _⟩ := hA m hm
  have h2 := kinds_le c
  rw [HF.out]
  unfold KindsPost at HK
  clear hA HF
  generalize kindsOf c = ks at *
  generalize (l.getD m zero).1 = x at *
  go_enter Try.func32, Try.ntmps32
  go_wp2_with fail
  refine HK.out.mono ?_
  rintro e w1 ⟨B, rfl, hk, hb1⟩
  have hc1 : w1.cell? ⟨b, off + m * 3, none⟩ = some (.int .i64 x) := (hb1.cell (p := ⟨b, off + m * 3, none⟩) hb).trans c0
  have HK1 := Lib.hid hk
  have HB1 := Lib.hid hb1
  clear HK hk hb1 c0
  have hm' : (m : Int) < (l.length : Int) := by omega
  have hm0 : (0 : Int) ≤ (m : Int) := by omega
  go_wp2_with fail
  go_loopw [8] (fun i wr => ∃ j : Nat, j ≤ ks.length ∧ i = .int .i64 (j : Int) ∧ Hid (∀ k, k < j → ks.getD k 0 ≠ x) ∧ Hid (KAt wr B ks ∧ Below w.heap.size w wr) ∧ wr.cell? ⟨b, off + m * 3, none⟩ = some (.int .i64 x)) (fun i _ => ks.length - (intOf i).toNat)
  case atStart => exact ⟨0, Nat.zero_le _, rfl, Lib.hid (fun k hk => absurd hk (Nat.not_lt_zero k)), Lib.hid ⟨HK1.out, HB1.out⟩, hc1⟩
  case round =>
    obtain ⟨j, hj, rfl, HO, HS, hc⟩ := hrel
    clear hc1
    by_cases hlt : j < ks.length
    · obtain ⟨g, rfl, hg⟩ := HS.out.1 j hlt
      have hlt' : (j : Int) < (ks.length : Int) := by omega
      by_cases hx : ks.getD j 0 = x
      · have HE := Lib.hid (contains_at hlt hx)
        rw [hx] at hg
        clear hx
        go_wp2_with fail
        go_quiet (fail)
        go_wp2
        go_ret
        exact ⟨ret_bool HE.out.symm, below_drewN HS.out.2 _⟩
      · have HE : Hid (∀ k, k < j + 1 → ks.getD k 0 ≠ x) := Lib.hid (fun k hk => by
          rcases Nat.lt_or_ge k j with h1 | h1
          · exact HO.out k h1
          · obtain rfl : k = j := by omega
            exact hx)
        have hx' : (x == ks.getD j 0) = false := by rw [beq_eq_false_iff_ne]; exact fun e => hx e.symm
        clear hx
        generalize ks.getD j 0 = y at *
        go_wp2_with fail
        go_quiet (fail)
        go_wp2
        go_roundw
        case rel => exact ⟨j + 1, by omega, by go_num, HE, Lib.hid ⟨HS.out.1.drewN _, below_drewN HS.out.2 _⟩, by simpa using hc⟩
        case measure => simp [intOf]; omega
    · obtain rfl : j = ks.length := by omega
      have HE := Lib.hid (contains_no HO.out)
      go_wp2_with fail
      go_ret
      exact ⟨ret_bool HE.out.symm, HS.out.2⟩

set_option maxRecDepth 100000 in
set_option maxHeartbeats 4000000 in
theorem refFits_out (A : Option Addr) (cap : Nat) (l : List De) (c : UInt8) (o : Int) (ho : o < 0 ∨ (l.length : Int) ≤ o) (hl : l.length ≤ 9223372036854775807) (w : World) :
    Calls Try.prog 32 #[.slice A l.length cap, .int .u8 (c.toNat : Int), .int .i64 o] w fun e w' => e = .returned (.bool (fits l c o)) ∧ Below w.heap.size w w' := by
  have HK := Lib.hid (refKinds_any c w)
  have HF : Hid (fits l c o = false) := Lib.hid (by unfold fits; rw [decide_eq_false (by omega), Bool.false_and])
  have h2 := kinds_le c
  rw [HF.out]
  unfold KindsPost at HK
  clear HF
  generalize kindsOf c = ks at *
  have hd : (0 ≤ o) → ¬ (o < (l.length : Int)) := fun h => by omega
  have HD := Lib.hid hd
  clear hd ho
  go_enter Try.func32, Try.ntmps32
  go_wp2_with fail
  refine HK.out.mono ?_
  rintro e w1 ⟨B, rfl, hk, hb1⟩
  have HB1 := Lib.hid hb1
  clear HK hk hb1
  go_wp2_with fail
  go_loopw [8] (fun i wr => i = .int .i64 0 ∧ Hid (Below w.heap.size w wr)) (fun i _ => 0)
  case atStart => exact ⟨rfl, HB1⟩
  case round =>
    obtain ⟨rfl, HB⟩ := hrel
    by_cases hk : ks.length = 0
    · go_wp2_with fail
      go_ret
      exact ⟨rfl, HB.out⟩
    · have hk' : (0 : Int) < (ks.length : Int) := by omega
      by_cases h0 : 0 ≤ o
      · have h1 : decide (o < (l.length : Int)) = false := by simpa using HD.out h0
        clear hk
        go_wp2_with fail
        go_ret
        exact ⟨rfl, HB.out⟩
      · have h1 : decide (0 ≤ o) = false := by simpa using h0
        clear hk
        go_wp2_with fail
        go_ret
        exact ⟨rfl, HB.out⟩
theorem refFits_any (A : Option Addr) (cap : Nat) (l : List De) (c : UInt8) (o : Int) (hl : l.length ≤ 9223372036854775807) (w : World) (hA : DAt w A l) :
    Calls Try.prog 32 #[.slice A l.length cap, .int .u8 (c.toNat : Int), .int .i64 o] w fun e w' => e = .returned (.bool (fits l c o)) ∧ Below w.heap.size w w' := by
  by_cases h : 0 ≤ o ∧ o < (l.length : Int)
  · obtain ⟨m, rfl⟩ : ∃ m : Nat, o = (m : Int) := ⟨o.toNat, by omega⟩
    exact refFits_in A cap l c m (by omega) hl w hA
  · exact refFits_out A cap l c o (by omega) hl w
end Go.Proofs.Ytjlmgoaglpkhoaa.objs
