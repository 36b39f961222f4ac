/-
  Texts of one claim in one file: JPlain, GPlain, PProg. Each has its own sentence, with its conditions.
-/
import Derived.Test.YtnhoeboighndlaaGreatDoorYall1
import Derived.Test.YtnhoeboighndlaaGreatDoorYall2
import Derived.Test.YtnhoeboighndlaaGreatDoorProg
import Derived.WalkKit
import Derived.ProofKit
import Derived.IntWalk
import Derived.LoopTactic
import Derived.Lib.Hide
import Derived.Below
import Derived.Outline
/-
  What is wrong with an instruction, its bytes, and the instruction with which bytes begin: plain mathematics of lists and numbers, and that putting and getting undo each other. No condition but that operands are ints.
-/
namespace Go.Proofs.YtnhoeboighndlaaGreatDoor.inst
open Go.Proofs.YtnhoeboighndlaaGreatDoor.octet (St rdByte rdNum rdInt num zig zag num_back num_once zig_zag zag_zig zig_lt num_length_le dec enc_length_pos rdNum_ok rdByte_ok)
open Go.Proofs.YtnhoeboighndlaaGreatDoor.oper (fm txt)
open Go.Proofs.YtnhoeboighndlaaGreatDoor.word (Word)

/-- The letters of an operation's operands. -/
def form (o : Int) : List UInt8 := (txt fm o).data.toList
def most (c : UInt8) : Int := if c = 107 then 7 else if c = 116 then 199 else if c = 102 then 15 else if c = 106 then 4 else 31
def least (c : UInt8) : Int := if c = 106 then 1 else 0
/-- Is a number in the range of a letter? -/
def fitsB (c : UInt8) (v : Int) : Bool := if c = 110 then decide (Word v) else decide (least c ≤ v ∧ v ≤ most c)
def opd (a b : Int) (j : Nat) : Int := if j = 0 then a else b
def okAt (f : List UInt8) (a b : Int) (j : Nat) : Bool := fitsB (f.getD j 0) (opd a b j)
/-- What is wrong with the operands of an operation of this form. -/
def chkF (f : List UInt8) (a b : Int) : Nat :=
  if (List.range f.length).all (okAt f a b) = false then 1
  else if f = [106, 106] ∧ b < a then 1
  else if (List.range 2).all (fun j => decide (j < f.length) || (opd a b j == 0)) = false then 2 else 0
def Known (o : Int) : Prop := 0 ≤ o ∧ o ≤ 51
instance (o : Int) : Decidable (Known o) := by unfold Known; infer_instance
/-- What is wrong with an instruction. -/
def chk (o a b : Int) : Nat := if Known o then chkF (form o) a b else 6

theorem chkF_arg {f : List UInt8} {a b : Int} {j : Nat} (hj : j < f.length) (h : okAt f a b j = false) : chkF f a b = 1 := by
  unfold chkF
  rw [if_pos]
  cases hh : (List.range f.length).all (okAt f a b) with
  | false => rfl
  | true => rw [List.all_eq_true] at hh; rw [hh j (List.mem_range.2 hj)] at h; cases h
theorem all_ok {f : List UInt8} {a b : Int} (h : ∀ j, j < f.length → okAt f a b j = true) : (List.range f.length).all (okAt f a b) = true := by
  rw [List.all_eq_true]
  exact fun j hj => h j (List.mem_range.1 hj)
theorem chkF_two {f : List UInt8} {a b : Int} (h : ∀ j, j < f.length → okAt f a b j = true) (hf : f = [106, 106]) (hab : b < a) : chkF f a b = 1 := by
  unfold chkF
  rw [all_ok h, if_neg (by decide), if_pos ⟨hf, hab⟩]
theorem chkF_form {f : List UInt8} {a b : Int} (h : ∀ j, j < f.length → okAt f a b j = true) (h2 : ¬ (f = [106, 106] ∧ b < a)) {j : Nat} (hj : f.length ≤ j) (hj2 : j < 2) (hv : opd a b j ≠ 0) : chkF f a b = 2 := by
  unfold chkF
  rw [all_ok h, if_neg (by decide), if_neg h2, if_pos]
  cases hh : (List.range 2).all (fun j => decide (j < f.length) || (opd a b j == 0)) with
  | false => rfl
  | true =>
    rw [List.all_eq_true] at hh
    have := hh j (List.mem_range.2 hj2)
    simp only [Bool.or_eq_true, decide_eq_true_iff, beq_iff_eq] at this
    rcases this with h | h
    · omega
    · exact absurd h hv
theorem chkF_fine {f : List UInt8} {a b : Int} (h : ∀ j, j < f.length → okAt f a b j = true) (h2 : ¬ (f = [106, 106] ∧ b < a)) (h3 : ∀ j, f.length ≤ j → j < 2 → opd a b j = 0) : chkF f a b = 0 := by
  unfold chkF
  rw [all_ok h, if_neg (by decide), if_neg h2, if_neg]
  rw [Bool.not_eq_false, List.all_eq_true]
  intro j hj
  rcases Nat.lt_or_ge j f.length with hl | hl
  · simp [hl]
  · simp [h3 j hl (List.mem_range.1 hj)]
theorem chkF_zero {f : List UInt8} {a b : Int} (h : chkF f a b = 0) : (∀ j, j < f.length → okAt f a b j = true) ∧ ¬ (f = [106, 106] ∧ b < a) ∧ ∀ j, f.length ≤ j → j < 2 → opd a b j = 0 := by
  have h1 : ∀ j, j < f.length → okAt f a b j = true := fun j hj => by
    cases hh : okAt f a b j with
    | true => rfl
    | false => rw [chkF_arg hj hh] at h; cases h
  have h2 : ¬ (f = [106, 106] ∧ b < a) := fun ⟨hf, hab⟩ => by rw [chkF_two h1 hf hab] at h; cases h
  refine ⟨h1, h2, fun j hj hj2 => ?_⟩
  by_cases hv : opd a b j = 0
  · exact hv
  · rw [chkF_form h1 h2 hj hj2 hv] at h; cases h
theorem chkF_le (f : List UInt8) (a b : Int) : chkF f a b ≤ 2 := by unfold chkF; split; omega; split; omega; split <;> omega
theorem chk_le (o a b : Int) : chk o a b ≤ 6 := by
  unfold chk
  split
  · have := chkF_le (form o) a b; omega
  · omega

theorem forms2 : ∀ k, k < 52 → (fm.getD k ⟨#[]⟩).data.toList.length ≤ 2 := by decide +kernel
theorem form_at {k : Nat} (h : k < 52) : form (k : Int) = (fm.getD k ⟨#[]⟩).data.toList := by
  unfold form txt
  rw [if_pos (by omega), Int.toNat_natCast]
theorem form_le (o : Int) : (form o).length ≤ 2 := by
  by_cases h : 0 ≤ o ∧ o ≤ 51
  · have := forms2 o.toNat (by omega)
    have e := form_at (k := o.toNat) (by omega)
    rw [show ((o.toNat : Nat) : Int) = o from by omega] at e
    rw [e]; exact this
  · unfold form txt
    rw [if_neg h]
    exact Nat.zero_le _

/-- The bytes of an operand. -/
def piece (c : UInt8) (v : Int) : List UInt8 := if c = 110 then num (zig v) else num v.toNat
/-- The bytes of the first j operands. -/
def pieces (f : List UInt8) (a b : Int) : Nat → List UInt8
  | 0 => []
  | j + 1 => pieces f a b j ++ piece (f.getD j 0) (opd a b j)
def encI (o a b : Int) : List UInt8 := UInt8.ofNat o.toNat :: pieces (form o) a b (form o).length
theorem piece_le (c : UInt8) (v : Int) : (piece c v).length ≤ 10 := by unfold piece; split <;> exact num_length_le _
theorem pieces_le (f : List UInt8) (a b : Int) : ∀ j, (pieces f a b j).length ≤ 10 * j := by
  intro j
  induction j with
  | zero => simp [pieces]
  | succ j ih =>
    have := piece_le (f.getD j 0) (opd a b j)
    simp only [pieces, List.length_append]
    omega
theorem encI_le (o a b : Int) : (encI o a b).length ≤ 21 := by
  have h1 := pieces_le (form o) a b (form o).length
  have h2 := form_le o
  simp only [encI, List.length_cons]
  omega

/-- An operand that is read: its number, and what is left. -/
def rdOpd (c : UInt8) (s : St) : Int × St := if c = 110 then rdInt s else (((min (rdNum s).1 2147483648 : Nat) : Int), (rdNum s).2)
/-- What the first j operands are read as, and what is left. -/
def rdOpds (f : List UInt8) (s : St) : Nat → List Int × St
  | 0 => ([], s)
  | j + 1 => ((rdOpds f s j).1 ++ [(rdOpd (f.getD j 0) (rdOpds f s j).2).1], (rdOpd (f.getD j 0) (rdOpds f s j).2).2)
structure Got where
  o : Int
  a : Int
  b : Int
  n : Nat
  e : Nat
def Got.bad (e : Nat) : Got := ⟨0, 0, 0, 0, e⟩
/-- What bytes begin with. -/
def getI (l : List UInt8) : Got :=
  let b := rdByte ⟨l, 0⟩
  if b.2.err ≠ 0 then .bad b.2.err
  else if 51 < b.1 then .bad 6
  else
    let r := rdOpds (form b.1) b.2 (form b.1).length
    if r.2.err ≠ 0 then .bad r.2.err
    else if chk b.1 (r.1.getD 0 0) (r.1.getD 1 0) ≠ 0 then .bad (chk b.1 (r.1.getD 0 0) (r.1.getD 1 0))
    else ⟨b.1, r.1.getD 0 0, r.1.getD 1 0, l.length - r.2.rest.length, 0⟩

theorem rdOpd_err {c : UInt8} {s : St} (h : s.err ≠ 0) : (rdOpd c s).2 = s := by
  unfold rdOpd rdInt rdNum
  rw [if_pos h]
  split <;> rfl
theorem rdOpds_length (f : List UInt8) (s : St) (j : Nat) : (rdOpds f s j).1.length = j := by
  induction j with
  | zero => rfl
  | succ j ih => simp [rdOpds, ih]
theorem rdOpds_err {f : List UInt8} {s : St} {j : Nat} (h : (rdOpds f s j).2.err ≠ 0) : ∀ k, j ≤ k → (rdOpds f s k).2 = (rdOpds f s j).2 := by
  intro k hk
  induction k with
  | zero =>
    obtain rfl : j = 0 := by omega
    rfl
  | succ k ih =>
    rcases Nat.eq_or_lt_of_le hk with e | e
    · subst e; rfl
    · have := ih (by omega)
      simp only [rdOpds]
      rw [this, rdOpd_err h]

/-- What was put of an operand is read again. -/
theorem rdOpd_back {c : UInt8} {v : Int} (h : fitsB c v = true) (more : List UInt8) : rdOpd c ⟨piece c v ++ more, 0⟩ = (v, ⟨more, 0⟩) := by
  unfold rdOpd piece
  unfold fitsB at h
  by_cases hc : c = 110
  · rw [if_pos hc] at h
    rw [if_pos hc, if_pos hc]
    have hw : Word v := by simpa using h
    unfold Word at hw
    have hz := num_back (zig_lt (n := v) (by omega) (by omega)) more
    unfold rdInt rdNum
    simp only [ne_eq, not_true_eq_false, if_false, hz, zag_zig]
  · rw [if_neg hc] at h
    rw [if_neg hc, if_neg hc]
    have hw : least c ≤ v ∧ v ≤ most c := by simpa using h
    have h0 : 0 ≤ least c := by unfold least; split <;> omega
    have h1 : most c ≤ 199 := by unfold most; split; omega; split; omega; split; omega; split <;> omega
    have hz := num_back (n := v.toNat) (by omega) more
    unfold rdNum
    simp only [ne_eq, not_true_eq_false, if_false, hz]
    congr 1
    omega
/-- What is read of an operand, put again, is just what was read. -/
theorem rdOpd_once {c : UInt8} {l : List UInt8} {v : Int} {s : St} (h : rdOpd c ⟨l, 0⟩ = (v, s)) (he : s.err = 0) (hf : fitsB c v = true) : l = piece c v ++ s.rest := by
  unfold rdOpd at h
  unfold fitsB at hf
  unfold piece
  by_cases hc : c = 110
  · rw [if_pos hc] at h ⊢
    unfold rdInt rdNum at h
    simp only [ne_eq, not_true_eq_false, if_false, Prod.mk.injEq] at h
    obtain ⟨h1, h2⟩ := h
    have := num_once (l := l) (v := (dec l 0 0).1) (rest := (dec l 0 0).2.1) (Prod.ext rfl (Prod.ext rfl (by rw [← h2] at he; exact he)))
    rw [← h1, zig_zag, ← h2]
    exact this.1
  · rw [if_neg hc] at h hf ⊢
    unfold rdNum at h
    simp only [ne_eq, not_true_eq_false, if_false, Prod.mk.injEq] at h
    obtain ⟨h1, h2⟩ := h
    have hw : least c ≤ v ∧ v ≤ most c := by simpa using hf
    have hm : most c ≤ 199 := by unfold most; split; omega; split; omega; split; omega; split <;> omega
    have := num_once (l := l) (v := (dec l 0 0).1) (rest := (dec l 0 0).2.1) (Prod.ext rfl (Prod.ext rfl (by rw [← h2] at he; exact he)))
    have e : v.toNat = (dec l 0 0).1 := by omega
    rw [e, ← h2]
    exact this.1

theorem getD_left {α : Type} {l r : List α} {d : α} {i : Nat} (h : i < l.length) : (l ++ r).getD i d = l.getD i d := by
  rw [List.getD_eq_getElem?_getD, List.getD_eq_getElem?_getD, List.getElem?_append_left h]
theorem getD_last {α : Type} {l : List α} {x d : α} {i : Nat} (h : l.length = i) : (l ++ [x]).getD i d = x := by
  subst h
  rw [List.getD_eq_getElem?_getD, List.getElem?_append_right (Nat.le_refl _), Nat.sub_self]
  rfl
theorem opds_back {f : List UInt8} {a b : Int} : ∀ j, (∀ i, i < j → okAt f a b i = true) → ∀ more, rdOpds f ⟨pieces f a b j ++ more, 0⟩ j = ((List.range j).map (opd a b), ⟨more, 0⟩) := by
  intro j
  induction j with
  | zero => intro _ more; rfl
  | succ j ih =>
    intro h more
    have h1 := ih (fun i hi => h i (by omega)) (piece (f.getD j 0) (opd a b j) ++ more)
    simp only [pieces, List.append_assoc, rdOpds]
    rw [h1]
    have h2 := rdOpd_back (h j (by omega)) more
    rw [h2, List.range_succ, List.map_append]
    rfl
theorem opds_once {f : List UInt8} : ∀ j (l : List UInt8), (rdOpds f ⟨l, 0⟩ j).2.err = 0 → ∀ a b : Int, (∀ i, i < j → (rdOpds f ⟨l, 0⟩ j).1.getD i 0 = opd a b i) → (∀ i, i < j → okAt f a b i = true) → l = pieces f a b j ++ (rdOpds f ⟨l, 0⟩ j).2.rest := by
  intro j
  induction j with
  | zero => intro l _ a b _ _; simp [pieces, rdOpds]
  | succ j ih =>
    intro l he a b hv hok
    have he' : (rdOpds f ⟨l, 0⟩ j).2.err = 0 := by
      rcases Nat.eq_zero_or_pos (rdOpds f ⟨l, 0⟩ j).2.err with h | h
      · exact h
      · have := rdOpds_err (f := f) (s := ⟨l, 0⟩) (j := j) (by omega) (j + 1) (by omega)
        rw [this] at he; omega
    have hlen := rdOpds_length f ⟨l, 0⟩ j
    have h1 := ih l he' a b (fun i hi => by
      have := hv i (by omega)
      simp only [rdOpds] at this
      rwa [getD_left (by omega)] at this) (fun i hi => hok i (by omega))
    have hj := hv j (by omega)
    simp only [rdOpds] at hj he ⊢
    rw [getD_last hlen] at hj
    generalize (rdOpds f ⟨l, 0⟩ j).2 = S at *
    obtain ⟨R, E⟩ := S
    dsimp only at he'
    subst he'
    have h2 := rdOpd_once (c := f.getD j 0) (l := R) (v := opd a b j) (s := (rdOpd (f.getD j 0) ⟨R, 0⟩).2) (Prod.ext hj rfl) he (hok j (by omega))
    dsimp only at h1
    simp only [pieces, List.append_assoc]
    rw [← h2]
    exact h1

theorem chk_zero {o a b : Int} (h : chk o a b = 0) : Known o ∧ chkF (form o) a b = 0 := by
  unfold chk at h
  split at h
  · exact ⟨‹_›, h⟩
  · cases h
theorem back {o a b : Int} (h : chk o a b = 0) (more : List UInt8) : getI (encI o a b ++ more) = ⟨o, a, b, (encI o a b).length, 0⟩ := by
  obtain ⟨hk, hf⟩ := chk_zero h
  obtain ⟨h1, h2, h3⟩ := chkF_zero hf
  unfold Known at hk
  have hb : rdByte ⟨encI o a b ++ more, 0⟩ = (o.toNat, ⟨pieces (form o) a b (form o).length ++ more, 0⟩) := by
    unfold rdByte encI
    simp only [ne_eq, not_true_eq_false, if_false, List.cons_append]
    congr 1
    rw [UInt8.toNat_ofNat']
    omega
  have ho : ((o.toNat : Nat) : Int) = o := by omega
  have hr := opds_back (f := form o) (a := a) (b := b) (form o).length h1 more
  have hl := form_le o
  have ha : ((List.range (form o).length).map (opd a b)).getD 0 0 = a := by
    rcases Nat.lt_or_ge 0 (form o).length with hh | hh
    · rw [List.getD_eq_getElem?_getD, List.getElem?_map, List.getElem?_range hh]; rfl
    · have := h3 0 hh (by omega)
      rw [List.getD_eq_getElem?_getD, List.getElem?_eq_none (by simpa using hh)]
      exact this.symm
  have hb' : ((List.range (form o).length).map (opd a b)).getD 1 0 = b := by
    rcases Nat.lt_or_ge 1 (form o).length with hh | hh
    · rw [List.getD_eq_getElem?_getD, List.getElem?_map, List.getElem?_range hh]; rfl
    · have := h3 1 hh (by omega)
      rw [List.getD_eq_getElem?_getD, List.getElem?_eq_none (by simpa using hh)]
      exact this.symm
  unfold getI
  simp only [hb, ho, hr, ha, hb', h, ne_eq, not_true_eq_false, if_false]
  rw [if_neg (by omega)]
  congr 1
  simp
theorem got_bad {l : List UInt8} (h : (getI l).e ≠ 0) : getI l = .bad (getI l).e := by
  unfold getI at h ⊢
  dsimp only at h ⊢
  split
  · rfl
  · split
    · rfl
    · split
      · rfl
      · split
        · rfl
        · rename_i h1 h2 h3 h4
          rw [if_neg h1, if_neg h2, if_neg h3, if_neg h4] at h
          exact absurd rfl h
theorem once {l : List UInt8} (h : (getI l).e = 0) : chk (getI l).o (getI l).a (getI l).b = 0 ∧ 0 < (getI l).n ∧ (getI l).n ≤ l.length ∧ encI (getI l).o (getI l).a (getI l).b = l.take (getI l).n := by
  unfold getI at h ⊢
  dsimp only at h ⊢
  by_cases h1 : (rdByte ⟨l, 0⟩).2.err ≠ 0
  · rw [if_pos h1] at h; exact absurd h h1
  · rw [if_neg h1] at h ⊢
    by_cases h2 : 51 < (rdByte ⟨l, 0⟩).1
    · rw [if_pos h2] at h; cases h
    · rw [if_neg h2] at h ⊢
      obtain ⟨x, r, rfl⟩ : ∃ x r, l = x :: r := by
        cases l with
        | nil => exact absurd (show (rdByte ⟨[], 0⟩).2.err ≠ 0 by decide) h1
        | cons x r => exact ⟨x, r, rfl⟩
      have hb : rdByte ⟨x :: r, 0⟩ = (x.toNat, ⟨r, 0⟩) := rfl
      rw [hb] at h h2 ⊢
      dsimp only at h h2 ⊢
      have hk : Known (x.toNat : Int) := by unfold Known; omega
      by_cases h3 : (rdOpds (form (x.toNat : Int)) ⟨r, 0⟩ (form (x.toNat : Int)).length).2.err ≠ 0
      · rw [if_pos h3] at h; exact absurd h h3
      · rw [if_neg h3] at h ⊢
        by_cases h4 : chk (x.toNat : Int) ((rdOpds (form (x.toNat : Int)) ⟨r, 0⟩ (form (x.toNat : Int)).length).1.getD 0 0) ((rdOpds (form (x.toNat : Int)) ⟨r, 0⟩ (form (x.toNat : Int)).length).1.getD 1 0) ≠ 0
        · rw [if_pos h4] at h; exact absurd h h4
        · rw [if_neg h4]
          dsimp only
          have h4' : chk (x.toNat : Int) ((rdOpds (form (x.toNat : Int)) ⟨r, 0⟩ (form (x.toNat : Int)).length).1.getD 0 0) ((rdOpds (form (x.toNat : Int)) ⟨r, 0⟩ (form (x.toNat : Int)).length).1.getD 1 0) = 0 := by omega
          have hok := (chkF_zero (chk_zero h4').2).1
          have hl := form_le (x.toNat : Int)
          have hr := opds_once (f := form (x.toNat : Int)) (form (x.toNat : Int)).length r (by omega) _ _ (fun i hi => by
            unfold opd
            split
            · subst_vars; rfl
            · obtain rfl : i = 1 := by omega
              rfl) hok
          have henc : x :: r = encI (x.toNat : Int) ((rdOpds (form (x.toNat : Int)) ⟨r, 0⟩ (form (x.toNat : Int)).length).1.getD 0 0) ((rdOpds (form (x.toNat : Int)) ⟨r, 0⟩ (form (x.toNat : Int)).length).1.getD 1 0) ++ (rdOpds (form (x.toNat : Int)) ⟨r, 0⟩ (form (x.toNat : Int)).length).2.rest := by
            unfold encI
            rw [List.cons_append, ← hr]
            congr 1
            rw [Int.toNat_natCast, UInt8.ofNat_toNat]
          have hlen := congrArg List.length henc
          rw [List.length_append] at hlen
          have hpos : 0 < (encI (x.toNat : Int) ((rdOpds (form (x.toNat : Int)) ⟨r, 0⟩ (form (x.toNat : Int)).length).1.getD 0 0) ((rdOpds (form (x.toNat : Int)) ⟨r, 0⟩ (form (x.toNat : Int)).length).1.getD 1 0)).length := by unfold encI; simp
          refine ⟨h4', by omega, by omega, ?_⟩
          generalize encI (x.toNat : Int) _ _ = E at *
          generalize (rdOpds (form (x.toNat : Int)) ⟨r, 0⟩ (form (x.toNat : Int)).length).2.rest = R at *
          rw [henc, show (E ++ R).length - R.length = E.length from by simp, List.take_left']
          rfl
end Go.Proofs.YtnhoeboighndlaaGreatDoor.inst

/-
  What is wrong with a program, its bytes, and the program whose bytes some are: plain mathematics of lists and numbers, by one pair of laws for each list that is put behind another. No condition.
-/
namespace Go.Proofs.YtnhoeboighndlaaGreatDoor.pgm
open Go.Proofs.YtnhoeboighndlaaGreatDoor.octet (St rdByte rdNum num num_length_le enc_length_pos)
open Go.Proofs.YtnhoeboighndlaaGreatDoor.objs (De zero rdNum_back rdNum_once rdNum_err)
set_option linter.unusedVariables false

/-- A function: its arguments, its locals, its instructions (an operation and two operands each). -/
structure Fn where
  ar : Int
  lo : Int
  co : List De
def Fn.zero : Fn := ⟨0, 0, []⟩
/-- A program: its objects, its waits, its functions. -/
structure Pg where
  ds : List De
  ws : List (List (List De))
  fs : List Fn
def Pg.none : Pg := ⟨[], [], []⟩

section
variable {α : Type}
/-- The first thing that is wrong with one of a list. -/
def firstE (f : α → Nat) : List α → Nat
  | [] => 0
  | x :: l => if f x ≠ 0 then f x else firstE f l
theorem getD_at {l : List α} {k : Nat} {d : α} (h : k < l.length) : l.getD k d = l[k] := by rw [List.getD_eq_getElem?_getD, List.getElem?_eq_getElem h]; rfl
theorem getD_in {l : List α} {k : Nat} {d : α} (h : k < l.length) : l.getD k d ∈ l := by rw [getD_at h]; exact List.getElem_mem _
theorem firstE_drop {f : α → Nat} {l : List α} {k : Nat} (d : α) (h : k < l.length) : firstE f (l.drop k) = if f (l.getD k d) ≠ 0 then f (l.getD k d) else firstE f (l.drop (k + 1)) := by
  rw [List.drop_eq_getElem_cons h, getD_at h]
  rfl
theorem firstE_zero {f : α → Nat} {l : List α} (h : firstE f l = 0) : ∀ x ∈ l, f x = 0 := by
  induction l with
  | nil => intro n hn; cases hn
  | cons m l ih =>
    unfold firstE at h
    by_cases hm : f m ≠ 0
    · rw [if_pos hm] at h
      exact absurd h hm
    · rw [if_neg hm] at h
      intro n hn
      rcases List.mem_cons.1 hn with rfl | hn
      · omega
      · exact ih h n hn
theorem firstE_le {f : α → Nat} {b : Nat} (hf : ∀ x, f x ≤ b) (l : List α) : firstE f l ≤ b := by
  induction l with
  | nil => exact Nat.zero_le _
  | cons m l ih =>
    unfold firstE
    split
    · exact hf m
    · exact ih
/-- The bytes of the first j of a list. -/
def encAll (e : α → List UInt8) (d : α) (l : List α) : Nat → List UInt8
  | 0 => []
  | j + 1 => encAll e d l j ++ e (l.getD j d)
theorem encAll_le {e : α → List UInt8} {d : α} {l : List α} {c : Nat} (h : ∀ x ∈ l, (e x).length ≤ c) : ∀ j, j ≤ l.length → (encAll e d l j).length ≤ c * j := by
  intro j
  induction j with
  | zero => intro _; exact Nat.zero_le _
  | succ j ih =>
    intro hj
    have h1 := ih (by omega)
    have h2 := h _ (getD_in (d := d) (l := l) (k := j) (by omega))
    simp only [encAll, List.length_append]
    rw [Nat.mul_succ]
    omega
theorem at_left {l r : List α} {i : Nat} {d : α} (h : i < l.length) : (l ++ r).getD i d = l.getD i d := by
  rw [List.getD_eq_getElem?_getD, List.getD_eq_getElem?_getD, List.getElem?_append_left h]
theorem at_last {l : List α} {x d : α} {i : Nat} (h : l.length = i) : (l ++ [x]).getD i d = x := by
  subst h
  rw [List.getD_eq_getElem?_getD, List.getElem?_append_right (Nat.le_refl _), Nat.sub_self]
  rfl
theorem encAll_left {e : α → List UInt8} {d : α} {l r : List α} : ∀ j, j ≤ l.length → encAll e d (l ++ r) j = encAll e d l j := by
  intro j
  induction j with
  | zero => intro _; rfl
  | succ j ih =>
    intro h
    simp only [encAll]
    rw [ih (by omega), at_left (by omega)]
/-- The first j of what is read one behind the other. -/
def rdAll (rd : St → α × St × Nat) (s : St) : Nat → List α × St × Nat
  | 0 => ([], s, 0)
  | j + 1 =>
    let p := rdAll rd s j
    if p.2.2 ≠ 0 then p
    else if (rd p.2.1).2.2 ≠ 0 then ([], (rd p.2.1).2.1, (rd p.2.1).2.2)
    else (p.1 ++ [(rd p.2.1).1], (rd p.2.1).2.1, 0)
theorem rdAll_err {rd : St → α × St × Nat} {s : St} {j : Nat} (h : (rdAll rd s j).2.2 ≠ 0) : ∀ k, j ≤ k → rdAll rd s k = rdAll rd s j := by
  intro k hk
  induction k with
  | zero =>
    obtain rfl : j = 0 := by omega
    rfl
  | succ k ih =>
    rcases Nat.eq_or_lt_of_le hk with e | e
    · subst e; rfl
    · have := ih (by omega)
      simp only [rdAll]
      rw [this, if_pos h]
theorem rdAll_length {rd : St → α × St × Nat} {s : St} : ∀ j, (rdAll rd s j).2.2 = 0 → (rdAll rd s j).1.length = j := by
  intro j
  induction j with
  | zero => intro _; rfl
  | succ j ih =>
    intro h
    simp only [rdAll] at h ⊢
    split at h
    · exact absurd h ‹_›
    · rename_i h1
      have := ih (by omega)
      rw [if_neg h1]
      split at h
      · exact absurd h ‹_›
      · rename_i h2
        rw [if_neg h2, List.length_append, this]
        rfl
theorem rdAll_stop {rd : St → α × St × Nat} {s S T : St} {n j e : Nat} {ls : List α} {x : α} (hj : j < n) (hl : rdAll rd s j = (ls, S, 0)) (hw : rd S = (x, T, e)) (he : e ≠ 0) : rdAll rd s n = ([], T, e) := by
  have h1 : rdAll rd s (j + 1) = ([], T, e) := by simp [rdAll, hl, hw, he]
  rw [rdAll_err (j := j + 1) (by rw [h1]; exact he) n hj, h1]
theorem rdAll_next {rd : St → α × St × Nat} {s S T : St} {j : Nat} {ls : List α} {x : α} (hl : rdAll rd s j = (ls, S, 0)) (hw : rd S = (x, T, 0)) : rdAll rd s (j + 1) = (ls ++ [x], T, 0) := by simp [rdAll, hl, hw]
theorem rdAll_back {rd : St → α × St × Nat} {e : α → List UInt8} {d : α} {l : List α} (h : ∀ x ∈ l, ∀ more, rd ⟨e x ++ more, 0⟩ = (x, ⟨more, 0⟩, 0)) : ∀ j, j ≤ l.length → ∀ more, rdAll rd ⟨encAll e d l j ++ more, 0⟩ j = (l.take j, ⟨more, 0⟩, 0) := by
  intro j
  induction j with
  | zero => intro _ more; rfl
  | succ j ih =>
    intro hj more
    have h1 := ih (by omega) (e (l.getD j d) ++ more)
    have h2 := h _ (getD_in (d := d) (l := l) (k := j) (by omega)) more
    simp only [encAll, List.append_assoc, rdAll]
    rw [h1]
    simp only [h2]
    rw [if_neg (by decide), if_neg (by decide), List.take_add_one, getD_at (by omega), List.getElem?_eq_getElem (by omega)]
    rfl
theorem rdAll_once {rd : St → α × St × Nat} {e : α → List UInt8} {d : α} {ok : α → Prop} (hrd : ∀ L, (rd ⟨L, 0⟩).2.2 = 0 → ok (rd ⟨L, 0⟩).1 → L = e (rd ⟨L, 0⟩).1 ++ (rd ⟨L, 0⟩).2.1.rest ∧ (rd ⟨L, 0⟩).2.1.err = 0) :
    ∀ j (L : List UInt8), (rdAll rd ⟨L, 0⟩ j).2.2 = 0 → (∀ x ∈ (rdAll rd ⟨L, 0⟩ j).1, ok x) → L = encAll e d (rdAll rd ⟨L, 0⟩ j).1 j ++ (rdAll rd ⟨L, 0⟩ j).2.1.rest ∧ (rdAll rd ⟨L, 0⟩ j).2.1.err = 0 := by
  intro j
  induction j with
  | zero => intro L _ _; exact ⟨rfl, rfl⟩
  | succ j ih =>
    intro L he hall
    have h0 : (rdAll rd ⟨L, 0⟩ j).2.2 = 0 := by
      rcases Nat.eq_zero_or_pos (rdAll rd ⟨L, 0⟩ j).2.2 with h | h
      · exact h
      · rw [rdAll_err (j := j) (by omega) (j + 1) (by omega)] at he
        omega
    have hlen := rdAll_length j h0
    simp only [rdAll] at he hall ⊢
    rw [if_neg (by omega)] at he hall ⊢
    split at he
    · exact absurd he ‹_›
    · rename_i h2
      rw [if_neg h2] at hall ⊢
      dsimp only at he hall ⊢
      have h1 := ih L h0 (fun n hn => hall n (List.mem_append_left _ hn))
      have hj := hall (rd (rdAll rd ⟨L, 0⟩ j).2.1).1 (List.mem_append_right _ (List.mem_singleton.2 rfl))
      simp only [encAll]
      rw [encAll_left j (by omega), at_last hlen]
      generalize rdAll rd ⟨L, 0⟩ j = p at *
      obtain ⟨ls, ⟨R, E⟩, e'⟩ := p
      dsimp only at h0 hlen h1 hj h2 ⊢
      obtain ⟨h1, h1e⟩ := h1
      subst h1e
      have h3 := hrd R (by omega) hj
      refine ⟨?_, h3.2⟩
      rw [List.append_assoc, ← h3.1]
      exact h1
end

/-- What is wrong with an instruction. -/
def chkI (x : De) : Nat := Go.Proofs.YtnhoeboighndlaaGreatDoor.inst.chk x.1 x.2.1 x.2.2
def chkFn (f : Fn) : Nat := if f.ar < 0 ∨ f.lo < f.ar ∨ 8 < f.lo then 1 else if f.co.length = 0 then 2 else if 200 < f.co.length then 4 else firstE chkI f.co
/-- What is wrong with a program. -/
def chkP (p : Pg) : Nat :=
  if (Go.Proofs.YtnhoeboighndlaaGreatDoor.objs.chk p.ds).2 ≠ 0 then (Go.Proofs.YtnhoeboighndlaaGreatDoor.objs.chk p.ds).2
  else if 32 < p.ws.length then 4
  else if firstE (Go.Proofs.YtnhoeboighndlaaGreatDoor.need.chkW p.ds) p.ws ≠ 0 then firstE (Go.Proofs.YtnhoeboighndlaaGreatDoor.need.chkW p.ds) p.ws
  else if p.fs.length = 0 then 2
  else if 16 < p.fs.length then 4
  else firstE chkFn p.fs
theorem chkFn_zero {f : Fn} (h : chkFn f = 0) : (0 ≤ f.ar ∧ f.ar ≤ f.lo ∧ f.lo ≤ 8) ∧ 0 < f.co.length ∧ f.co.length ≤ 200 ∧ ∀ x ∈ f.co, chkI x = 0 := by
  unfold chkFn at h
  split at h
  · cases h
  · split at h
    · cases h
    · split at h
      · cases h
      · exact ⟨by omega, by omega, by omega, firstE_zero h⟩
theorem chkP_zero {p : Pg} (h : chkP p = 0) : (Go.Proofs.YtnhoeboighndlaaGreatDoor.objs.chk p.ds).2 = 0 ∧ p.ws.length ≤ 32 ∧ (∀ w ∈ p.ws, Go.Proofs.YtnhoeboighndlaaGreatDoor.need.chkW p.ds w = 0) ∧ 0 < p.fs.length ∧ p.fs.length ≤ 16 ∧ ∀ f ∈ p.fs, chkFn f = 0 := by
  unfold chkP at h
  split at h
  · exact absurd h ‹_›
  · split at h
    · cases h
    · split at h
      · exact absurd h ‹_›
      · split at h
        · cases h
        · split at h
          · cases h
          · exact ⟨by omega, by omega, firstE_zero (by omega), by omega, by omega, firstE_zero h⟩

def encIn (x : De) : List UInt8 := Go.Proofs.YtnhoeboighndlaaGreatDoor.inst.encI x.1 x.2.1 x.2.2
def encFn (f : Fn) : List UInt8 := num f.ar.toNat ++ (num f.lo.toNat ++ (num f.co.length ++ encAll encIn zero f.co f.co.length))
/-- The bytes of a program. -/
def encP (p : Pg) : List UInt8 :=
  [76, 74, 1] ++ (Go.Proofs.YtnhoeboighndlaaGreatDoor.objs.encL p.ds ++ (num p.ws.length ++ (encAll Go.Proofs.YtnhoeboighndlaaGreatDoor.need.encW [] p.ws p.ws.length ++ (num p.fs.length ++ encAll encFn Fn.zero p.fs p.fs.length))))

/-- A count that is read. -/
def rdMany (s : St) (most : Nat) : Nat × St × Nat := if most < (rdNum s).1 then (0, (rdNum s).2, 4) else ((rdNum s).1, (rdNum s).2, (rdNum s).2.err)
/-- A function that is read: by what reads an instruction. -/
def rdFn (rdI : St → De × St × Nat) (s : St) : Fn × St × Nat :=
  let a := rdNum s
  let b := rdNum a.2
  let n := rdMany b.2 200
  if b.2.err ≠ 0 then (Fn.zero, b.2, b.2.err)
  else if n.2.2 ≠ 0 then (Fn.zero, n.2.1, n.2.2)
  else
    let q := rdAll rdI n.2.1 n.1
    if q.2.2 ≠ 0 then (Fn.zero, q.2.1, q.2.2)
    else (⟨((min a.1 2147483648 : Nat) : Int), ((min b.1 2147483648 : Nat) : Int), q.1⟩, q.2.1, 0)
/-- The program whose bytes some are, or the first error. -/
def readP (rdI : St → De × St × Nat) (t : List UInt8) : Pg × Nat :=
  if t.take 3 ≠ [76, 74, 1] then (Pg.none, 2)
  else
    let l := Go.Proofs.YtnhoeboighndlaaGreatDoor.objs.readL ⟨t.drop 3, 0⟩
    if l.2.2 ≠ 0 then (Pg.none, l.2.2)
    else
      let n := rdMany l.2.1 32
      if n.2.2 ≠ 0 then (Pg.none, n.2.2)
      else
        let ws := rdAll (Go.Proofs.YtnhoeboighndlaaGreatDoor.need.readW l.1) n.2.1 n.1
        if ws.2.2 ≠ 0 then (Pg.none, ws.2.2)
        else
          let m := rdMany ws.2.1 16
          if m.2.2 ≠ 0 then (Pg.none, m.2.2)
          else
            let fs := rdAll (rdFn rdI) m.2.1 m.1
            if fs.2.2 ≠ 0 then (Pg.none, fs.2.2)
            else if fs.2.1.rest ≠ [] then (Pg.none, 2)
            else if chkP ⟨l.1, ws.1, fs.1⟩ ≠ 0 then (Pg.none, chkP ⟨l.1, ws.1, fs.1⟩)
            else (⟨l.1, ws.1, fs.1⟩, 0)

/-! What was put is got. -/
theorem rdMany_back {n most : Nat} (h : n ≤ most) (hm : most ≤ 1000) (more : List UInt8) : rdMany ⟨num n ++ more, 0⟩ most = (n, ⟨more, 0⟩, 0) := by
  unfold rdMany
  rw [rdNum_back (by omega)]
  dsimp only
  rw [if_neg (by omega)]
theorem readL_back {l : List De} (h : (Go.Proofs.YtnhoeboighndlaaGreatDoor.objs.chk l).2 = 0) (more : List UInt8) : Go.Proofs.YtnhoeboighndlaaGreatDoor.objs.readL ⟨Go.Proofs.YtnhoeboighndlaaGreatDoor.objs.encL l ++ more, 0⟩ = (l, ⟨more, 0⟩, 0) := by
  obtain ⟨hl, _, hall⟩ := Go.Proofs.YtnhoeboighndlaaGreatDoor.objs.chk_zero h
  have hn : Go.Proofs.YtnhoeboighndlaaGreatDoor.objs.rdN ⟨Go.Proofs.YtnhoeboighndlaaGreatDoor.objs.encL l ++ more, 0⟩ = ((l.length : Int), ⟨Go.Proofs.YtnhoeboighndlaaGreatDoor.objs.encs l l.length ++ more, 0⟩) := by
    unfold Go.Proofs.YtnhoeboighndlaaGreatDoor.objs.encL
    rw [List.append_assoc, Go.Proofs.YtnhoeboighndlaaGreatDoor.objs.rdN_back (by omega)]
  have hL := Go.Proofs.YtnhoeboighndlaaGreatDoor.objs.rdL_back hl hall l.length (Nat.le_refl _) more
  unfold Go.Proofs.YtnhoeboighndlaaGreatDoor.objs.readL
  have h32 : ¬ (32 : Int) < (l.length : Int) := by omega
  simp only [hn, Int.toNat_natCast, hL, List.take_length, h, ne_eq, not_true_eq_false, if_false, if_neg h32]
theorem readW_back {d : List De} {w : List (List De)} (hd : (Go.Proofs.YtnhoeboighndlaaGreatDoor.objs.chk d).2 = 0) (h : Go.Proofs.YtnhoeboighndlaaGreatDoor.need.chkW d w = 0) (more : List UInt8) : Go.Proofs.YtnhoeboighndlaaGreatDoor.need.readW d ⟨Go.Proofs.YtnhoeboighndlaaGreatDoor.need.encW w ++ more, 0⟩ = (w, ⟨more, 0⟩, 0) := by
  obtain ⟨h0, h4, hall⟩ := Go.Proofs.YtnhoeboighndlaaGreatDoor.need.chkW_zero h
  have hn : rdNum ⟨Go.Proofs.YtnhoeboighndlaaGreatDoor.need.encW w ++ more, 0⟩ = (w.length, ⟨Go.Proofs.YtnhoeboighndlaaGreatDoor.need.encWs w w.length ++ more, 0⟩) := by
    unfold Go.Proofs.YtnhoeboighndlaaGreatDoor.need.encW
    rw [List.append_assoc, rdNum_back (by omega)]
  have hL := Go.Proofs.YtnhoeboighndlaaGreatDoor.need.rdWays_back hd (fun l hl => (hall l hl).2) w.length (Nat.le_refl _) more
  unfold Go.Proofs.YtnhoeboighndlaaGreatDoor.need.readW
  have h44 : ¬ 4 < w.length := by omega
  simp only [hn, hL, List.take_length, h, ne_eq, not_true_eq_false, if_false, if_neg h44]
theorem rdFn_back {rdI : St → De × St × Nat} (hI : ∀ x, chkI x = 0 → ∀ more, rdI ⟨encIn x ++ more, 0⟩ = (x, ⟨more, 0⟩, 0)) {f : Fn} (h : chkFn f = 0) (more : List UInt8) : rdFn rdI ⟨encFn f ++ more, 0⟩ = (f, ⟨more, 0⟩, 0) := by
  obtain ⟨⟨h1, h2, h3⟩, h4, h5, h6⟩ := chkFn_zero h
  obtain ⟨ar, lo, co⟩ := f
  dsimp only at h1 h2 h3 h4 h5 h6
  have ha : rdNum ⟨encFn ⟨ar, lo, co⟩ ++ more, 0⟩ = (ar.toNat, ⟨num lo.toNat ++ (num co.length ++ (encAll encIn zero co co.length ++ more)), 0⟩) := by
    unfold encFn
    simp only [List.append_assoc]
    rw [rdNum_back (by omega)]
  have hb : rdNum ⟨num lo.toNat ++ (num co.length ++ (encAll encIn zero co co.length ++ more)), 0⟩ = (lo.toNat, ⟨num co.length ++ (encAll encIn zero co co.length ++ more), 0⟩) := rdNum_back (by omega) _
  have hn := rdMany_back h5 (by omega) (encAll encIn zero co co.length ++ more)
  have hq := rdAll_back (rd := rdI) (e := encIn) (d := zero) (l := co) (fun x hx => hI x (h6 x hx)) co.length (Nat.le_refl _) more
  unfold rdFn
  simp only [ha, hb, hn, hq, List.take_length, ne_eq, not_true_eq_false, if_false]
  have e1 : ((min ar.toNat 2147483648 : Nat) : Int) = ar := by omega
  have e2 : ((min lo.toNat 2147483648 : Nat) : Int) = lo := by omega
  rw [e1, e2]
theorem back {rdI : St → De × St × Nat} (hI : ∀ x, chkI x = 0 → ∀ more, rdI ⟨encIn x ++ more, 0⟩ = (x, ⟨more, 0⟩, 0)) {p : Pg} (h : chkP p = 0) (more : List UInt8) : readP rdI (encP p ++ more) = if more ≠ [] then (Pg.none, 2) else (p, 0) := by
  obtain ⟨h1, h2, h3, h4, h5, h6⟩ := chkP_zero h
  obtain ⟨ds, ws, fs⟩ := p
  dsimp only at h1 h2 h3 h4 h5 h6
  have ht : (encP ⟨ds, ws, fs⟩ ++ more).take 3 = [76, 74, 1] := rfl
  have hd : (encP ⟨ds, ws, fs⟩ ++ more).drop 3 = Go.Proofs.YtnhoeboighndlaaGreatDoor.objs.encL ds ++ (num ws.length ++ (encAll Go.Proofs.YtnhoeboighndlaaGreatDoor.need.encW [] ws ws.length ++ (num fs.length ++ (encAll encFn Fn.zero fs fs.length ++ more)))) := by
    unfold encP
    simp only [List.append_assoc]
    rfl
  have hl := readL_back h1 (num ws.length ++ (encAll Go.Proofs.YtnhoeboighndlaaGreatDoor.need.encW [] ws ws.length ++ (num fs.length ++ (encAll encFn Fn.zero fs fs.length ++ more))))
  have hn := rdMany_back h2 (by omega) (encAll Go.Proofs.YtnhoeboighndlaaGreatDoor.need.encW [] ws ws.length ++ (num fs.length ++ (encAll encFn Fn.zero fs fs.length ++ more)))
  have hw := rdAll_back (rd := Go.Proofs.YtnhoeboighndlaaGreatDoor.need.readW ds) (e := Go.Proofs.YtnhoeboighndlaaGreatDoor.need.encW) (d := []) (l := ws) (fun x hx => readW_back h1 (h3 x hx)) ws.length (Nat.le_refl _) (num fs.length ++ (encAll encFn Fn.zero fs fs.length ++ more))
  have hm := rdMany_back h5 (by omega) (encAll encFn Fn.zero fs fs.length ++ more)
  have hf := rdAll_back (rd := rdFn rdI) (e := encFn) (d := Fn.zero) (l := fs) (fun x hx => rdFn_back hI (h6 x hx)) fs.length (Nat.le_refl _) more
  unfold readP
  simp only [ht, hd, hl, hn, hw, hm, hf, List.take_length, h, ne_eq, not_true_eq_false, if_false]
end Go.Proofs.YtnhoeboighndlaaGreatDoor.pgm

/-
  The program's own calls on operations: which numbers are one, its form, what is laid, and whether the next one follows. No condition.
-/
namespace Go.Proofs.YtnhoeboighndlaaGreatDoor.oper
open Go.RowKit Go.ChangeShapes

theorem ret_int {k : IntKind} {a b : Int} (h : a = b) : Ending.returned (.int k a) = .returned (.int k b) := by rw [h]
theorem ret_bool {a b : Bool} (h : a = b) : Ending.returned (.bool a) = .returned (.bool b) := by rw [h]
theorem ret_string {a b : ByteArray} (h : a = b) : Ending.returned (.string a) = .returned (.string b) := by rw [h]

theorem known_yes (n : Int) (h0 : 0 ≤ n) (h1 : n ≤ 51) (w : World) : Calls Tryz.prog 49 #[.int .i64 n] w fun e w' => e = .returned (.bool true) ∧ w = w' := by
  have h2 : n < 52 := by omega
  go_enter Tryz.func49, Tryz.ntmps49
  go_wp2
  go_ret
  exact ⟨rfl, rfl⟩
theorem known_no (n : Int) (h : n < 0 ∨ 51 < n) (w : World) : Calls Tryz.prog 49 #[.int .i64 n] w fun e w' => e = .returned (.bool false) ∧ w = w' := by
  by_cases h0 : 0 ≤ n
  · have h1 : ¬ n < 52 := by omega
    have hd : decide (n < 52) = false := by simpa using h1
    go_enter Tryz.func49, Tryz.ntmps49
    go_wp2
    go_ret
    exact ⟨rfl, rfl⟩
  · have hd : decide (0 ≤ n) = false := by simpa using h0
    go_enter Tryz.func49, Tryz.ntmps49
    go_wp2
    go_ret
    exact ⟨rfl, rfl⟩

def fmL : List Int := [0, 1, 2, 18, 19, 20, 40, 26, 27, 29, 30, 31, 32, 33, 34, 35, 36, 37, 38, 39, 41, 42, 45, 46, 49, 50, 51]
def lyL : List Int := [2, 17, 18, 19, 21, 25, 16, 45]
theorem nat_of {n : Int} (h : 0 ≤ n ∧ n ≤ 51) : ∃ k : Nat, k < 52 ∧ n = (k : Int) := ⟨n.toNat, by omega, by omega⟩
theorem txt_at {l : List ByteArray} {k : Nat} (h : k < 52) : txt l (k : Int) = l.getD k ⟨#[]⟩ := by
  unfold txt
  rw [if_pos (by omega), Int.toNat_natCast]
theorem numb_at {l : List Int} {k : Nat} (h : k < 52) : numb l (k : Int) = l.getD k 0 := by
  unfold numb
  rw [if_pos (by omega), Int.toNat_natCast]
theorem txt_no {l : List ByteArray} {n : Int} (h : n < 0 ∨ 51 < n) : txt l n = ⟨#[]⟩ := by
  unfold txt
  rw [if_neg (by omega)]
theorem numb_no {l : List Int} {n : Int} (h : n < 0 ∨ 51 < n) : numb l n = 0 := by
  unfold numb
  rw [if_neg (by omega)]
theorem fm_rest : ∀ k : Nat, k < 52 → (fmL.all fun j => !((k : Int) == j)) = true → fm.getD k ⟨#[]⟩ = ⟨#[]⟩ := by decide +kernel
theorem fm_other (n : Int) (h : (fmL.all fun j => !(n == j)) = true) : txt fm n = ⟨#[]⟩ := by
  by_cases hk : 0 ≤ n ∧ n ≤ 51
  · obtain ⟨k, hk', rfl⟩ := nat_of hk
    rw [txt_at hk']
    exact fm_rest k hk' h
  · exact txt_no (by omega)
theorem ly_rest : ∀ k : Nat, k < 52 → (lyL.all fun j => !((k : Int) == j)) = true → ly.getD k 0 = 1 := by decide +kernel
theorem ly_other (n : Int) (h0 : 0 ≤ n) (h1 : n ≤ 51) (h : (lyL.all fun j => !(n == j)) = true) : numb ly n = 1 := by
  obtain ⟨k, hk, rfl⟩ := nat_of ⟨h0, h1⟩
  rw [numb_at hk]
  exact ly_rest k hk h

set_option maxHeartbeats 1000000 in
theorem form_any (n : Int) (w : World) : Calls Tryz.prog 47 #[.int .i64 n] w fun e w' => e = .returned (.string (txt fm n)) ∧ w = w' := by
  go_enter Tryz.func47, Tryz.ntmps47
  go_wp2
  all_goals go_ret
  all_goals refine ⟨ret_string ?_, rfl⟩
  all_goals first
    | (have hq := eq_of_beq ‹(n == _) = true›; subst hq; rfl)
    | (rw [fm_other n (by simp only [fmL, List.all_cons, List.all_nil, Bool.not_false, Bool.and_self, *])])

/-- Whether the next instruction follows. -/
def goesB (n : Int) : Bool := decide (0 ≤ n ∧ n ≤ 51 ∧ n ≠ 18 ∧ n ≠ 21)
end Go.Proofs.YtnhoeboighndlaaGreatDoor.oper
