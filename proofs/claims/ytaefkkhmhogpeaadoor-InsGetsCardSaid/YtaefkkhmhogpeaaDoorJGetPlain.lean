/-
  The program reads a number that is above all ranges as another such number than the document does: what is told of the instruction is the same. Plain mathematics; no condition.
-/
import Derived.Test.YtaefkkhmhogpeaaDoorJRefGet
namespace Go.Proofs.YtaefkkhmhogpeaaDoor.inst
open Go.Proofs.YtaefkkhmhogpeaaDoor.octet (St rdByte rdNum rdInt)
open Go.Proofs.YtaefkkhmhogpeaaDoor.word (Word)
set_option linter.unusedVariables false

/-- An operand as the program reads it. -/
def pOpd (c : UInt8) (s : St) : Int × St := if c = 110 then rdInt s else (((min (rdNum s).1 2147483647 : Nat) : Int), (rdNum s).2)
def pOpds (f : List UInt8) (s : St) : Nat → List Int × St
  | 0 => ([], s)
  | j + 1 => ((pOpds f s j).1 ++ [(pOpd (f.getD j 0) (pOpds f s j).2).1], (pOpd (f.getD j 0) (pOpds f s j).2).2)
/-- An instruction as the program reads it, whether it may be or not. -/
def pRead (s : St) : Rd :=
  let b := rdByte s
  let r := pOpds (form b.1) b.2 (form b.1).length
  ⟨b.1, r.1.getD 0 0, r.1.getD 1 0, r.2, r.2.err⟩

theorem pOpd_state (c : UInt8) (s : St) : (pOpd c s).2 = (rdOpd c s).2 := by unfold pOpd rdOpd; split <;> rfl
theorem pOpds_state (f : List UInt8) (s : St) : ∀ j, (pOpds f s j).2 = (rdOpds f s j).2 := by
  intro j
  induction j with
  | zero => rfl
  | succ j ih => simp only [pOpds, rdOpds]; rw [pOpd_state, ih]
theorem pOpds_length (f : List UInt8) (s : St) (j : Nat) : (pOpds f s j).1.length = j := by
  induction j with
  | zero => rfl
  | succ j ih => simp [pOpds, ih]
theorem opd_same (c : UInt8) (s : St) : (pOpd c s).1 = (rdOpd c s).1 ∨ (fitsB c (pOpd c s).1 = false ∧ fitsB c (rdOpd c s).1 = false) := by
  by_cases hc : c = 110
  · left; unfold pOpd rdOpd; rw [if_pos hc, if_pos hc]
  · unfold pOpd rdOpd
    rw [if_neg hc, if_neg hc]
    by_cases hn : (rdNum s).1 ≤ 2147483647
    · left
      show ((min (rdNum s).1 2147483647 : Nat) : Int) = ((min (rdNum s).1 2147483648 : Nat) : Int)
      congr 1
      omega
    · right
      have hm : most c ≤ 199 := by unfold most; split; omega; split; omega; split; omega; split <;> omega
      have h : ∀ v : Int, 199 < v → fitsB c v = false := fun v hv => by
        unfold fitsB
        rw [if_neg hc, decide_eq_false_iff_not]
        omega
      exact ⟨h _ (by show (199 : Int) < ((min (rdNum s).1 2147483647 : Nat) : Int); omega), h _ (by show (199 : Int) < ((min (rdNum s).1 2147483648 : Nat) : Int); omega)⟩
theorem opds_same (f : List UInt8) (s : St) : ∀ j i, i < j → (pOpds f s j).1.getD i 0 = (rdOpds f s j).1.getD i 0 ∨ (fitsB (f.getD i 0) ((pOpds f s j).1.getD i 0) = false ∧ fitsB (f.getD i 0) ((rdOpds f s j).1.getD i 0) = false) := by
  intro j
  induction j with
  | zero => intro i hi; omega
  | succ j ih =>
    intro i hi
    have h1 := pOpds_length f s j
    have h2 := rdOpds_length f s j
    simp only [pOpds, rdOpds]
    rcases Nat.lt_or_ge i j with h | h
    · rw [getD_left (by omega), getD_left (by omega)]
      exact ih i h
    · obtain rfl : i = j := by omega
      rw [getD_last h1, getD_last h2, pOpds_state]
      exact opd_same _ _
theorem opd_getD (V : List Int) {i : Nat} (h : i < 2) : opd (V.getD 0 0) (V.getD 1 0) i = V.getD i 0 := by
  match i, h with
  | 0, _ => rfl
  | 1, _ => rfl
theorem chk_same {f : List UInt8} {U V : List Int} (hf : f.length ≤ 2) (hu : U.length = f.length) (hv : V.length = f.length)
    (h : ∀ i, i < f.length → U.getD i 0 = V.getD i 0 ∨ (fitsB (f.getD i 0) (U.getD i 0) = false ∧ fitsB (f.getD i 0) (V.getD i 0) = false)) :
    (U.getD 0 0 = V.getD 0 0 ∧ U.getD 1 0 = V.getD 1 0) ∨ (chkF f (U.getD 0 0) (U.getD 1 0) = 1 ∧ chkF f (V.getD 0 0) (V.getD 1 0) = 1) := by
  by_cases hh : ∀ i, i < f.length → U.getD i 0 = V.getD i 0
  · left
    have hd : ∀ (L : List Int) i, L.length ≤ i → L.getD i 0 = 0 := fun L i hi => by rw [List.getD_eq_getElem?_getD, List.getElem?_eq_none hi]; rfl
    have h1 : ∀ i, U.getD i 0 = V.getD i 0 := fun i => by
      rcases Nat.lt_or_ge i f.length with h2 | h2
      · exact hh i h2
      · rw [hd U i (by omega), hd V i (by omega)]
    exact ⟨h1 0, h1 1⟩
  · right
    obtain ⟨i, hi⟩ := Classical.not_forall.1 hh
    obtain ⟨hi1, hi2⟩ := Classical.not_imp.1 hi
    rcases h i hi1 with h3 | ⟨h3, h4⟩
    · exact absurd h3 hi2
    · exact ⟨chkF_arg hi1 (by unfold okAt; rw [opd_getD U (by omega)]; exact h3), chkF_arg hi1 (by unfold okAt; rw [opd_getD V (by omega)]; exact h4)⟩

theorem form_none {o : Int} (h : ¬ Known o) : form o = [] := by
  unfold form
  unfold Known at h
  rw [Go.Proofs.YtaefkkhmhogpeaaDoor.oper.txt_no (by omega)]
theorem got_prog (l : List UInt8) : getI l = if (pRead ⟨l, 0⟩).e ≠ 0 then .bad (pRead ⟨l, 0⟩).e else if chk (pRead ⟨l, 0⟩).o (pRead ⟨l, 0⟩).a (pRead ⟨l, 0⟩).b ≠ 0 then .bad (chk (pRead ⟨l, 0⟩).o (pRead ⟨l, 0⟩).a (pRead ⟨l, 0⟩).b)
    else ⟨(pRead ⟨l, 0⟩).o, (pRead ⟨l, 0⟩).a, (pRead ⟨l, 0⟩).b, l.length - (pRead ⟨l, 0⟩).s.rest.length, 0⟩ := by
  unfold getI pRead
  dsimp only
  generalize hb : rdByte ⟨l, 0⟩ = B
  obtain ⟨o, S⟩ := B
  dsimp only
  have hst := pOpds_state (form o) S (form o).length
  by_cases h1 : S.err ≠ 0
  · have e1 : (pOpds (form o) S (form o).length).2.err = S.err := by
      rw [hst, rdOpds_err (f := form o) (s := S) (j := 0) h1 _ (Nat.zero_le _)]
      rfl
    rw [if_pos h1]
    simp only [e1, if_pos h1]
  · rw [if_neg h1]
    by_cases h2 : 51 < o
    · have hk : ¬ Known (o : Int) := by unfold Known; omega
      have hc : ∀ a b : Int, chk o a b = 6 := fun a b => by unfold chk; rw [if_neg hk]
      have e1 : (pOpds (form o) S (form o).length).2.err = S.err := by
        rw [form_none hk]
        rfl
      rw [if_pos h2]
      simp only [e1, if_neg h1, hc]
      rfl
    · have hk : Known (o : Int) := by unfold Known; omega
      rw [if_neg h2]
      simp only [hst]
      by_cases h3 : (rdOpds (form o) S (form o).length).2.err ≠ 0
      · simp only [if_pos h3]
      · simp only [if_neg h3]
        have hc : ∀ a b : Int, chk o a b = chkF (form o) a b := fun a b => by unfold chk; rw [if_pos hk]
        rcases chk_same (form_le o) (pOpds_length (form o) S _) (rdOpds_length (form o) S _) (opds_same (form o) S _) with ⟨e1, e2⟩ | ⟨e1, e2⟩
        · rw [e1, e2]
        · simp only [hc, e1, e2]
          rfl
end Go.Proofs.YtaefkkhmhogpeaaDoor.inst
