/-
  What was got of bytes, put, is just the bytes that it had, and no bytes that end sooner are a program's. Plain mathematics; no condition.
-/
import Derived.Test.YtjlmgoaglpkhoaaGPlain
namespace Go.Proofs.Ytjlmgoaglpkhoaa.pgm
open Go.Proofs.Ytjlmgoaglpkhoaa.octet (St rdByte rdNum num num_length_le enc_length_pos)
open Go.Proofs.Ytjlmgoaglpkhoaa.objs (De zero rdNum_back rdNum_once rdNum_err)
set_option linter.unusedVariables false

theorem rdMany_once {L : List UInt8} {most : Nat} (h : (rdMany ⟨L, 0⟩ most).2.2 = 0) : L = num (rdMany ⟨L, 0⟩ most).1 ++ (rdMany ⟨L, 0⟩ most).2.1.rest ∧ (rdMany ⟨L, 0⟩ most).2.1.err = 0 ∧ (rdMany ⟨L, 0⟩ most).1 ≤ most := by
  unfold rdMany at h ⊢
  split at h
  · cases h
  · rename_i h1
    rw [if_neg h1]
    exact ⟨rdNum_once h, h, by dsimp only; omega⟩
theorem readL_once {L : List UInt8} (h : (Go.Proofs.Ytjlmgoaglpkhoaa.objs.readL ⟨L, 0⟩).2.2 = 0) : (Go.Proofs.Ytjlmgoaglpkhoaa.objs.chk (Go.Proofs.Ytjlmgoaglpkhoaa.objs.readL ⟨L, 0⟩).1).2 = 0 ∧ L = Go.Proofs.Ytjlmgoaglpkhoaa.objs.encL (Go.Proofs.Ytjlmgoaglpkhoaa.objs.readL ⟨L, 0⟩).1 ++ (Go.Proofs.Ytjlmgoaglpkhoaa.objs.readL ⟨L, 0⟩).2.1.rest ∧ (Go.Proofs.Ytjlmgoaglpkhoaa.objs.readL ⟨L, 0⟩).2.1.err = 0 := by
  unfold Go.Proofs.Ytjlmgoaglpkhoaa.objs.readL at h ⊢
  dsimp only at h ⊢
  by_cases h1 : (Go.Proofs.Ytjlmgoaglpkhoaa.objs.rdN ⟨L, 0⟩).2.err ≠ 0
  · simp only [if_pos h1] at h; exact absurd h h1
  · simp only [if_neg h1] at h ⊢
    by_cases h2 : 32 < (Go.Proofs.Ytjlmgoaglpkhoaa.objs.rdN ⟨L, 0⟩).1
    · simp only [if_pos h2] at h; cases h
    · simp only [if_neg h2] at h ⊢
      have hn := Go.Proofs.Ytjlmgoaglpkhoaa.objs.rdN_once (l := L) (by omega) (by omega)
      generalize Go.Proofs.Ytjlmgoaglpkhoaa.objs.rdN ⟨L, 0⟩ = q at *
      obtain ⟨n, ⟨R, E⟩⟩ := q
      dsimp only at h h1 h2 hn ⊢
      obtain rfl : E = 0 := by omega
      by_cases h3 : (Go.Proofs.Ytjlmgoaglpkhoaa.objs.rdL ⟨R, 0⟩ n.toNat).2.2 ≠ 0
      · simp only [if_pos h3] at h; exact absurd h h3
      · simp only [if_neg h3] at h ⊢
        by_cases h4 : (Go.Proofs.Ytjlmgoaglpkhoaa.objs.chk (Go.Proofs.Ytjlmgoaglpkhoaa.objs.rdL ⟨R, 0⟩ n.toNat).1).2 ≠ 0
        · simp only [if_pos h4] at h; exact absurd h h4
        · simp only [if_neg h4] at h ⊢
          have hlen := Go.Proofs.Ytjlmgoaglpkhoaa.objs.rdL_length n.toNat (by omega : (Go.Proofs.Ytjlmgoaglpkhoaa.objs.rdL ⟨R, 0⟩ n.toNat).2.2 = 0)
          obtain ⟨hl, _, hall⟩ := Go.Proofs.Ytjlmgoaglpkhoaa.objs.chk_zero (by omega : (Go.Proofs.Ytjlmgoaglpkhoaa.objs.chk (Go.Proofs.Ytjlmgoaglpkhoaa.objs.rdL ⟨R, 0⟩ n.toNat).1).2 = 0)
          have ho := Go.Proofs.Ytjlmgoaglpkhoaa.objs.rdL_once hl n.toNat R (by omega) (fun i hi => hall i (by omega))
          refine ⟨by omega, ?_, ho.2⟩
          unfold Go.Proofs.Ytjlmgoaglpkhoaa.objs.encL
          rw [hlen, List.append_assoc, ← ho.1]
          exact hn
theorem readW_once {d : List De} {L : List UInt8} (hd : (Go.Proofs.Ytjlmgoaglpkhoaa.objs.chk d).2 = 0) (h : (Go.Proofs.Ytjlmgoaglpkhoaa.need.readW d ⟨L, 0⟩).2.2 = 0) : L = Go.Proofs.Ytjlmgoaglpkhoaa.need.encW (Go.Proofs.Ytjlmgoaglpkhoaa.need.readW d ⟨L, 0⟩).1 ++ (Go.Proofs.Ytjlmgoaglpkhoaa.need.readW d ⟨L, 0⟩).2.1.rest ∧ (Go.Proofs.Ytjlmgoaglpkhoaa.need.readW d ⟨L, 0⟩).2.1.err = 0 := by
  unfold Go.Proofs.Ytjlmgoaglpkhoaa.need.readW at h ⊢
  dsimp only at h ⊢
  by_cases h2 : 4 < (rdNum ⟨L, 0⟩).1
  · simp only [if_pos h2] at h; cases h
  · simp only [if_neg h2] at h ⊢
    by_cases h1 : (rdNum ⟨L, 0⟩).2.err ≠ 0
    · simp only [if_pos h1] at h; exact absurd h h1
    · simp only [if_neg h1] at h ⊢
      have hn := rdNum_once (l := L) (by omega)
      generalize rdNum ⟨L, 0⟩ = q at *
      obtain ⟨n, ⟨R, E⟩⟩ := q
      dsimp only at h h1 h2 hn ⊢
      obtain rfl : E = 0 := by omega
      by_cases h3 : (Go.Proofs.Ytjlmgoaglpkhoaa.need.rdWays ⟨R, 0⟩ n).2.2 ≠ 0
      · simp only [if_pos h3] at h; exact absurd h h3
      · simp only [if_neg h3] at h ⊢
        by_cases h4 : Go.Proofs.Ytjlmgoaglpkhoaa.need.chkW d (Go.Proofs.Ytjlmgoaglpkhoaa.need.rdWays ⟨R, 0⟩ n).1 ≠ 0
        · simp only [if_pos h4] at h; exact absurd h h4
        · simp only [if_neg h4] at h ⊢
          have hlen := Go.Proofs.Ytjlmgoaglpkhoaa.need.rdWays_length n (by omega : (Go.Proofs.Ytjlmgoaglpkhoaa.need.rdWays ⟨R, 0⟩ n).2.2 = 0)
          obtain ⟨_, _, hall⟩ := Go.Proofs.Ytjlmgoaglpkhoaa.need.chkW_zero (by omega : Go.Proofs.Ytjlmgoaglpkhoaa.need.chkW d (Go.Proofs.Ytjlmgoaglpkhoaa.need.rdWays ⟨R, 0⟩ n).1 = 0)
          have ho := Go.Proofs.Ytjlmgoaglpkhoaa.need.rdWays_once hd n R (by omega) (fun l hl => (hall l hl).2.2)
          refine ⟨?_, ho.2⟩
          unfold Go.Proofs.Ytjlmgoaglpkhoaa.need.encW
          rw [hlen, List.append_assoc, ← ho.1]
          exact hn
/-- What reads an instruction reads just what was put, and of what it read the bytes are just those. -/
structure Reads (rdI : St → De × St × Nat) : Prop where
  back : ∀ x, chkI x = 0 → ∀ more, rdI ⟨encIn x ++ more, 0⟩ = (x, ⟨more, 0⟩, 0)
  once : ∀ L, (rdI ⟨L, 0⟩).2.2 = 0 → L = encIn (rdI ⟨L, 0⟩).1 ++ (rdI ⟨L, 0⟩).2.1.rest ∧ (rdI ⟨L, 0⟩).2.1.err = 0
theorem rdFn_once {rdI : St → De × St × Nat} (hI : Reads rdI) {L : List UInt8} (he : (rdFn rdI ⟨L, 0⟩).2.2 = 0) (h : chkFn (rdFn rdI ⟨L, 0⟩).1 = 0) : L = encFn (rdFn rdI ⟨L, 0⟩).1 ++ (rdFn rdI ⟨L, 0⟩).2.1.rest ∧ (rdFn rdI ⟨L, 0⟩).2.1.err = 0 := by
  unfold rdFn at he h ⊢
  dsimp only at he h ⊢
  by_cases h1 : (rdNum (rdNum ⟨L, 0⟩).2).2.err ≠ 0
  · rw [if_pos h1] at he; exact absurd he h1
  · rw [if_neg h1] at he h ⊢
    by_cases h2 : (rdMany (rdNum (rdNum ⟨L, 0⟩).2).2 200).2.2 ≠ 0
    · rw [if_pos h2] at he; exact absurd he h2
    · rw [if_neg h2] at he h ⊢
      by_cases h3 : (rdAll rdI (rdMany (rdNum (rdNum ⟨L, 0⟩).2).2 200).2.1 (rdMany (rdNum (rdNum ⟨L, 0⟩).2).2 200).1).2.2 ≠ 0
      · rw [if_pos h3] at he; exact absurd he h3
      · rw [if_neg h3] at h ⊢
        dsimp only at h ⊢
        obtain ⟨⟨g1, g2, g3⟩, _, _, _⟩ := chkFn_zero h
        dsimp only at g1 g2 g3
        clear h he
        have hA : (rdNum ⟨L, 0⟩).2.err = 0 := by
          rcases Nat.eq_zero_or_pos (rdNum ⟨L, 0⟩).2.err with e | e
          · exact e
          · rw [rdNum_err (by omega)] at h1; omega
        have ha := rdNum_once hA
        generalize rdNum ⟨L, 0⟩ = q at *
        obtain ⟨a, ⟨R, E⟩⟩ := q
        dsimp only at hA ha h1 h2 h3 g1 g2 g3 ⊢
        subst hA
        have hb := rdNum_once (l := R) (by omega)
        generalize rdNum ⟨R, 0⟩ = q at *
        obtain ⟨b, ⟨R2, E⟩⟩ := q
        dsimp only at hb h1 h2 h3 g1 g2 g3 ⊢
        obtain rfl : E = 0 := by omega
        obtain ⟨hn, hn0, _⟩ := rdMany_once (L := R2) (most := 200) (by omega)
        generalize rdMany ⟨R2, 0⟩ 200 = q at *
        obtain ⟨n, ⟨R3, E⟩, e3⟩ := q
        dsimp only at hn hn0 h2 h3 ⊢
        subst hn0
        have hq := rdAll_once (rd := rdI) (e := encIn) (d := zero) (ok := fun _ => True) (fun L2 h2 _ => hI.once L2 h2) n R3 (by omega) (fun _ _ => trivial)
        have hlen := rdAll_length n (by omega : (rdAll rdI ⟨R3, 0⟩ n).2.2 = 0)
        refine ⟨?_, hq.2⟩
        unfold encFn
        dsimp only
        rw [hlen]
        simp only [List.append_assoc]
        rw [← hq.1, ← hn]
        have e1 : ((min a 2147483648 : Nat) : Int).toNat = a := by omega
        have e2 : ((min b 2147483648 : Nat) : Int).toNat = b := by omega
        rw [e1, e2, ← hb, ← ha]
theorem once {rdI : St → De × St × Nat} (hI : Reads rdI) {t : List UInt8} (h : (readP rdI t).2 = 0) : chkP (readP rdI t).1 = 0 ∧ encP (readP rdI t).1 = t := by
  unfold readP at h ⊢
  dsimp only at h ⊢
  by_cases h0 : t.take 3 ≠ [76, 74, 1]
  · rw [if_pos h0] at h; cases h
  · rw [if_neg h0] at h ⊢
    have h0' : t.take 3 = [76, 74, 1] := Classical.byContradiction h0
    have ht : t = [76, 74, 1] ++ t.drop 3 := by rw [← h0', List.take_append_drop]
    clear h0 h0'
    generalize t.drop 3 = r at *
    by_cases h1 : (Go.Proofs.Ytjlmgoaglpkhoaa.objs.readL ⟨r, 0⟩).2.2 ≠ 0
    · rw [if_pos h1] at h; exact absurd h h1
    · rw [if_neg h1] at h ⊢
      obtain ⟨hl0, hl, hle⟩ := readL_once (L := r) (by omega)
      generalize Go.Proofs.Ytjlmgoaglpkhoaa.objs.readL ⟨r, 0⟩ = q at *
      obtain ⟨ds, ⟨R, E⟩, e1⟩ := q
      dsimp only at h h1 hl0 hl hle ⊢
      subst hle
      by_cases h2 : (rdMany ⟨R, 0⟩ 32).2.2 ≠ 0
      · rw [if_pos h2] at h; exact absurd h h2
      · rw [if_neg h2] at h ⊢
        obtain ⟨hn, hn0, _⟩ := rdMany_once (L := R) (most := 32) (by omega)
        generalize rdMany ⟨R, 0⟩ 32 = q at *
        obtain ⟨n, ⟨R2, E⟩, e2⟩ := q
        dsimp only at h hn hn0 h2 ⊢
        subst hn0
        by_cases h3 : (rdAll (Go.Proofs.Ytjlmgoaglpkhoaa.need.readW ds) ⟨R2, 0⟩ n).2.2 ≠ 0
        · rw [if_pos h3] at h; exact absurd h h3
        · rw [if_neg h3] at h ⊢
          have hw := rdAll_once (rd := Go.Proofs.Ytjlmgoaglpkhoaa.need.readW ds) (e := Go.Proofs.Ytjlmgoaglpkhoaa.need.encW) (d := []) (ok := fun _ => True) (fun L2 h2 _ => readW_once hl0 h2) n R2 (by omega) (fun _ _ => trivial)
          have hwl := rdAll_length n (by omega : (rdAll (Go.Proofs.Ytjlmgoaglpkhoaa.need.readW ds) ⟨R2, 0⟩ n).2.2 = 0)
          generalize rdAll (Go.Proofs.Ytjlmgoaglpkhoaa.need.readW ds) ⟨R2, 0⟩ n = q at *
          obtain ⟨ws, ⟨R3, E⟩, e3⟩ := q
          dsimp only at h hw hwl h3 ⊢
          obtain ⟨hw, hw0⟩ := hw
          subst hw0
          by_cases h4 : (rdMany ⟨R3, 0⟩ 16).2.2 ≠ 0
          · rw [if_pos h4] at h; exact absurd h h4
          · rw [if_neg h4] at h ⊢
            obtain ⟨hm, hm0, _⟩ := rdMany_once (L := R3) (most := 16) (by omega)
            generalize rdMany ⟨R3, 0⟩ 16 = q at *
            obtain ⟨m, ⟨R4, E⟩, e4⟩ := q
            dsimp only at h hm hm0 h4 ⊢
            subst hm0
            by_cases h5 : (rdAll (rdFn rdI) ⟨R4, 0⟩ m).2.2 ≠ 0
            · rw [if_pos h5] at h; exact absurd h h5
            · rw [if_neg h5] at h ⊢
              by_cases h6 : (rdAll (rdFn rdI) ⟨R4, 0⟩ m).2.1.rest ≠ []
              · rw [if_pos h6] at h; cases h
              · rw [if_neg h6] at h ⊢
                by_cases h7 : chkP ⟨ds, ws, (rdAll (rdFn rdI) ⟨R4, 0⟩ m).1⟩ ≠ 0
                · rw [if_pos h7] at h; exact absurd h h7
                · rw [if_neg h7]
                  dsimp only
                  have h7' : chkP ⟨ds, ws, (rdAll (rdFn rdI) ⟨R4, 0⟩ m).1⟩ = 0 := by omega
                  have h6' : (rdAll (rdFn rdI) ⟨R4, 0⟩ m).2.1.rest = [] := Classical.byContradiction h6
                  obtain ⟨_, _, _, _, _, hall⟩ := chkP_zero h7'
                  have hf := (rdAll_once (rd := rdFn rdI) (e := encFn) (d := Fn.zero) (ok := fun f => chkFn f = 0) (fun L2 h2 h3 => rdFn_once hI h2 h3) m R4 (by omega) hall).1
                  have hfl := rdAll_length m (by omega : (rdAll (rdFn rdI) ⟨R4, 0⟩ m).2.2 = 0)
                  refine ⟨h7', ?_⟩
                  rw [h6', List.append_nil] at hf
                  unfold encP
                  dsimp only
                  rw [hwl, hfl, ← hf, ← hm, ← hw, ← hn, ← hl, ← ht]
/-- No bytes that end sooner are a program's. -/
theorem sooner {rdI : St → De × St × Nat} (hI : Reads rdI) {p : Pg} (h : chkP p = 0) {s more : List UInt8} (hs : encP p = s ++ more) (hm : more ≠ []) : (readP rdI s).2 ≠ 0 := by
  intro hz
  obtain ⟨h1, h2⟩ := once hI hz
  have h3 := back hI.back h1 more
  rw [h2, ← hs, if_pos hm] at h3
  have h4 := back hI.back h []
  rw [List.append_nil, h3, if_neg (by simp)] at h4
  cases h4
theorem got_bad {rdI : St → De × St × Nat} {t : List UInt8} (h : (readP rdI t).2 ≠ 0) : (readP rdI t).1 = Pg.none := by
  unfold readP at h ⊢
  dsimp only at h ⊢
  split
  · rfl
  · split
    · rfl
    · split
      · rfl
      · split
        · rfl
        · split
          · rfl
          · split
            · rfl
            · split
              · rfl
              · split
                · rfl
                · rename_i a1 a2 a3 a4 a5 a6 a7 a8
                  rw [if_neg a1, if_neg a2, if_neg a3, if_neg a4, if_neg a5, if_neg a6, if_neg a7, if_neg a8] at h
                  exact absurd rfl h
end Go.Proofs.Ytjlmgoaglpkhoaa.pgm
