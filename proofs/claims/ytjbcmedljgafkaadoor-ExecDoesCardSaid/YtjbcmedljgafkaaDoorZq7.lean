/-
  Texts of one claim in one file: HPlain, VPlain, FPlain. Each has its own sentence, with its conditions.
-/
import Derived.Test.YtjbcmedljgafkaaDoorZq5
import Derived.Test.YtjbcmedljgafkaaDoorZq6
import Derived.Test.YtjbcmedljgafkaaDoorZq1
/-
  How many values stand on the stack ahead of each instruction of a function, and what is wrong first: plain mathematics of lists; and that depths without an error are kept by every step. No condition.
-/

namespace Go.Proofs.YtjbcmedljgafkaaDoor.pgm.dep
open Go.Proofs.YtjbcmedljgafkaaDoor.pgm
open Go.Proofs.YtjbcmedljgafkaaDoor.objs (De zero)
open Go.Proofs.YtjbcmedljgafkaaDoor.oper (pops numb ly)
set_option linter.unusedVariables false

/-- How many arguments an instruction's function has; 0: there is no such function, or it is no call. -/
def argsOf (fs : List Fn) (x : De) : Int := if x.1 = 20 ∧ x.2.1 < (fs.length : Int) then (fs.getD x.2.1.toNat Fn.zero).ar else 0
/-- The depth behind an instruction; below 0: it takes more than there is. -/
def behind (fs : List Fn) (x : De) (d : Int) : Int := if d - pops x.1 x.2.2 (argsOf fs x) < 0 then -1 else d - pops x.1 x.2.2 (argsOf fs x) + numb ly x.1
/-- Where an instruction leads. -/
def ways (x : De) (a : Nat) : List Nat := (if x.1 ≠ 18 ∧ x.1 ≠ 21 then [a + 1] else []) ++ (if x.1 = 18 ∨ x.1 = 19 then [x.2.1.toNat] else [])
/-- Depths, way by way. -/
def lead (n : Nat) (d : Int) : List Nat → List Int → List Int × Nat
  | [], dp => (dp, 0)
  | t :: l, dp => if n ≤ t then (dp, 3) else if 0 ≤ dp.getD t (-1) ∧ dp.getD t (-1) ≠ d then (dp, 2) else lead n d l (dp.set t d)
/-- What is wrong with one instruction, and the depths behind it. -/
def one (fs : List Fn) (co : List De) (dp : List Int) (a : Nat) : List Int × Nat :=
  if behind fs (co.getD a zero) (dp.getD a (-1)) < 0 then (dp, 2)
  else if 16 < behind fs (co.getD a zero) (dp.getD a (-1)) then (dp, 4)
  else lead co.length (behind fs (co.getD a zero) (dp.getD a (-1))) (ways (co.getD a zero) a) dp
/-- Which one is looked at next; how many there are: none. -/
def pick (dp : List Int) (dn : List Bool) (n : Nat) : Nat := (List.range n).findIdx fun i => !dn.getD i true && decide (0 ≤ dp.getD i (-1))
structure Q where
  dp : List Int
  dn : List Bool
  first : Nat
  bad : Nat
/-- One is looked at. -/
def stepQ (fs : List Fn) (co : List De) (q : Q) (a : Nat) : Q :=
  if (one fs co q.dp a).2 ≠ 0 ∧ a < q.first then ⟨(one fs co q.dp a).1, q.dn.set a true, a, (one fs co q.dp a).2⟩ else ⟨(one fs co q.dp a).1, q.dn.set a true, q.first, q.bad⟩
/-- The first j of them are looked at. -/
def runQ (fs : List Fn) (co : List De) : Nat → Q → Q
  | 0, q => q
  | j + 1, q => if pick q.dp q.dn co.length < co.length then runQ fs co j (stepQ fs co q (pick q.dp q.dn co.length)) else q
def startQ (co : List De) : Q := ⟨0 :: List.replicate (co.length - 1) (-1), List.replicate co.length false, co.length, 0⟩
/-- The depths of a function, or the place and the error of what is wrong. -/
def depths (fs : List Fn) (fn : Int) : List Int × Nat × Nat :=
  if fn < 0 ∨ (fs.length : Int) ≤ fn then ([], 0, 19)
  else
    let co := (fs.getD fn.toNat Fn.zero).co
    if co.length = 0 then ([], 0, 3)
    else if (runQ fs co co.length (startQ co)).bad ≠ 0 then ([], (runQ fs co co.length (startQ co)).first, (runQ fs co co.length (startQ co)).bad)
    else ((runQ fs co co.length (startQ co)).dp, 0, 0)

theorem tk_small : ∀ k, k < 52 → 0 ≤ Go.Proofs.YtjbcmedljgafkaaDoor.oper.tk.getD k 0 ∧ Go.Proofs.YtjbcmedljgafkaaDoor.oper.tk.getD k 0 ≤ 2 := by decide +kernel
theorem ly_small : ∀ k, k < 52 → 0 ≤ ly.getD k 0 ∧ ly.getD k 0 ≤ 2 := by decide +kernel
theorem numb_small {l : List Int} (hl : ∀ k, k < 52 → 0 ≤ l.getD k 0 ∧ l.getD k 0 ≤ 2) (n : Int) : 0 ≤ numb l n ∧ numb l n ≤ 2 := by
  unfold numb
  by_cases h : 0 ≤ n ∧ n ≤ 51
  · rw [if_pos h]; exact hl _ (by omega)
  · rw [if_neg h]; omega
/-- An operand of an instruction that may be is in the range of its letter. -/
theorem letter {x : De} (h : Go.Proofs.YtjbcmedljgafkaaDoor.pgm.chkI x = 0) {o : Int} {f : List UInt8} {c : UInt8} {j : Nat} (ho : x.1 = o) (hf : Go.Proofs.YtjbcmedljgafkaaDoor.inst.form o = f) (hj : j < f.length) (hc : f.getD j 0 = c) (hn : c ≠ 110) :
    Go.Proofs.YtjbcmedljgafkaaDoor.inst.least c ≤ Go.Proofs.YtjbcmedljgafkaaDoor.inst.opd x.2.1 x.2.2 j ∧ Go.Proofs.YtjbcmedljgafkaaDoor.inst.opd x.2.1 x.2.2 j ≤ Go.Proofs.YtjbcmedljgafkaaDoor.inst.most c := by
  obtain ⟨_, h2⟩ := Go.Proofs.YtjbcmedljgafkaaDoor.inst.chk_zero h
  rw [ho, hf] at h2
  have h3 := (Go.Proofs.YtjbcmedljgafkaaDoor.inst.chkF_zero h2).1 j hj
  unfold Go.Proofs.YtjbcmedljgafkaaDoor.inst.okAt Go.Proofs.YtjbcmedljgafkaaDoor.inst.fitsB at h3
  rw [hc, if_neg hn] at h3
  exact of_decide_eq_true h3
theorem second : ∀ k, k < 52 → 1 < (Go.Proofs.YtjbcmedljgafkaaDoor.oper.fm.getD k ⟨#[]⟩).data.toList.length → (Go.Proofs.YtjbcmedljgafkaaDoor.oper.fm.getD k ⟨#[]⟩).data.toList.getD 1 0 = 109 ∨ (Go.Proofs.YtjbcmedljgafkaaDoor.oper.fm.getD k ⟨#[]⟩).data.toList.getD 1 0 = 106 := by decide +kernel
/-- The second operand of an instruction that may be. -/
theorem b_small {x : De} (h : Go.Proofs.YtjbcmedljgafkaaDoor.pgm.chkI x = 0) : 0 ≤ x.2.2 ∧ x.2.2 ≤ 31 := by
  obtain ⟨hk, h2⟩ := Go.Proofs.YtjbcmedljgafkaaDoor.inst.chk_zero h
  obtain ⟨k, hk1, hk2⟩ := Go.Proofs.YtjbcmedljgafkaaDoor.oper.nat_of hk
  have hF : Go.Proofs.YtjbcmedljgafkaaDoor.inst.form x.1 = (Go.Proofs.YtjbcmedljgafkaaDoor.oper.fm.getD k ⟨#[]⟩).data.toList := by
    unfold Go.Proofs.YtjbcmedljgafkaaDoor.inst.form
    rw [hk2, Go.Proofs.YtjbcmedljgafkaaDoor.oper.txt_at hk1]
  rcases Nat.lt_or_ge 1 (Go.Proofs.YtjbcmedljgafkaaDoor.oper.fm.getD k ⟨#[]⟩).data.toList.length with hl | hl
  · rcases second k hk1 hl with hc | hc
    · have := letter h rfl hF (j := 1) hl hc (by decide)
      exact ⟨this.1, this.2⟩
    · have := letter h rfl hF (j := 1) hl hc (by decide)
      have e1 : Go.Proofs.YtjbcmedljgafkaaDoor.inst.least 106 = 1 := rfl
      have e2 : Go.Proofs.YtjbcmedljgafkaaDoor.inst.most 106 = 4 := rfl
      have e3 : Go.Proofs.YtjbcmedljgafkaaDoor.inst.opd x.2.1 x.2.2 1 = x.2.2 := rfl
      omega
  · have h3 := (Go.Proofs.YtjbcmedljgafkaaDoor.inst.chkF_zero h2).2.2 1 (by rw [hF]; exact hl) (by decide)
    have e3 : Go.Proofs.YtjbcmedljgafkaaDoor.inst.opd x.2.1 x.2.2 1 = x.2.2 := rfl
    omega
theorem form_41 : Go.Proofs.YtjbcmedljgafkaaDoor.inst.form 41 = [106, 106] := by decide +kernel
theorem form_42 : Go.Proofs.YtjbcmedljgafkaaDoor.inst.form 42 = [106, 106] := by decide +kernel
theorem form_18 : Go.Proofs.YtjbcmedljgafkaaDoor.inst.form 18 = [116] := by decide +kernel
theorem form_19 : Go.Proofs.YtjbcmedljgafkaaDoor.inst.form 19 = [116] := by decide +kernel
theorem form_20 : Go.Proofs.YtjbcmedljgafkaaDoor.inst.form 20 = [102] := by decide +kernel
theorem args_small {fs : List Fn} (hf : ∀ f ∈ fs, 0 ≤ f.ar ∧ f.ar ≤ 8) (x : De) : 0 ≤ argsOf fs x ∧ argsOf fs x ≤ 8 := by
  unfold argsOf
  split
  · rename_i h
    rcases Nat.lt_or_ge x.2.1.toNat fs.length with hl | hl
    · exact hf _ (Go.Proofs.YtjbcmedljgafkaaDoor.pgm.getD_in hl)
    · rw [List.getD_eq_getElem?_getD, List.getElem?_eq_none hl]
      decide
  · omega
/-- What an instruction that may be takes is little. -/
theorem pops_small {fs : List Fn} (hf : ∀ f ∈ fs, 0 ≤ f.ar ∧ f.ar ≤ 8) {x : De} (h : Go.Proofs.YtjbcmedljgafkaaDoor.pgm.chkI x = 0) : 0 ≤ pops x.1 x.2.2 (argsOf fs x) ∧ pops x.1 x.2.2 (argsOf fs x) ≤ 8 := by
  have ha := args_small hf x
  unfold pops
  split
  · exact ha
  · split
    · rename_i h1
      have := letter h h1 form_41 (j := 1) (by decide) (c := 106) rfl (by decide)
      exact ⟨Int.le_trans (by decide) this.1, Int.le_trans this.2 (by decide)⟩
    · split
      · rename_i h1
        have := letter h h1 form_42 (j := 1) (by decide) (c := 106) rfl (by decide)
        have e1 : Go.Proofs.YtjbcmedljgafkaaDoor.inst.least 106 = 1 := rfl
        have e2 : Go.Proofs.YtjbcmedljgafkaaDoor.inst.most 106 = 4 := rfl
        have e3 : Go.Proofs.YtjbcmedljgafkaaDoor.inst.opd x.2.1 x.2.2 1 = x.2.2 := rfl
        omega
      · have := numb_small tk_small x.1
        omega
/-- The place that a jump or a zero names. -/
theorem place_small {x : De} (h : Go.Proofs.YtjbcmedljgafkaaDoor.pgm.chkI x = 0) (ho : x.1 = 18 ∨ x.1 = 19) : 0 ≤ x.2.1 ∧ x.2.1 ≤ 199 := by
  rcases ho with h1 | h1
  · have := letter h h1 form_18 (j := 0) (by decide) (c := 116) rfl (by decide)
    exact ⟨this.1, this.2⟩
  · have := letter h h1 form_19 (j := 0) (by decide) (c := 116) rfl (by decide)
    exact ⟨this.1, this.2⟩
theorem func_small {x : De} (h : Go.Proofs.YtjbcmedljgafkaaDoor.pgm.chkI x = 0) (ho : x.1 = 20) : 0 ≤ x.2.1 ∧ x.2.1 ≤ 15 := by
  have := letter h ho form_20 (j := 0) (by decide) (c := 102) rfl (by decide)
  exact ⟨this.1, this.2⟩
/-- What an instruction lays. -/
theorem lays_small (n : Int) : 0 ≤ numb ly n ∧ numb ly n ≤ 2 := numb_small ly_small n
/-- Depths of which each that is told is kept by each step. -/
def Sound (fs : List Fn) (co : List De) (dp : List Int) : Prop :=
  dp.length = co.length ∧ dp.getD 0 (-1) = 0 ∧ ∀ a, a < co.length → 0 ≤ dp.getD a (-1) →
    0 ≤ behind fs (co.getD a zero) (dp.getD a (-1)) ∧ behind fs (co.getD a zero) (dp.getD a (-1)) ≤ 16 ∧
    ∀ t ∈ ways (co.getD a zero) a, t < co.length ∧ dp.getD t (-1) = behind fs (co.getD a zero) (dp.getD a (-1))

theorem lead_length {n : Nat} {d : Int} : ∀ (l : List Nat) (dp : List Int), (lead n d l dp).1.length = dp.length := by
  intro l
  induction l with
  | nil => intro dp; rfl
  | cons t l ih =>
    intro dp
    unfold lead
    split
    · rfl
    · split
      · rfl
      · rw [ih, List.length_set]
theorem getD_set {α : Type} {l : List α} {t : Nat} {x d : α} (i : Nat) : (l.set t x).getD i d = if t = i ∧ i < l.length then x else l.getD i d := by
  rw [List.getD_eq_getElem?_getD, List.getD_eq_getElem?_getD, List.getElem?_set]
  by_cases h : t = i
  · subst h
    by_cases h2 : t < l.length
    · simp [h2]
    · rw [if_pos rfl, if_neg h2, if_neg (by omega), List.getElem?_eq_none (by omega)]
  · rw [if_neg h, if_neg (fun e => h e.1)]
/-- What is known stays. -/
theorem lead_keeps {n : Nat} {d : Int} : ∀ (l : List Nat) (dp : List Int) (i : Nat), 0 ≤ dp.getD i (-1) → (lead n d l dp).1.getD i (-1) = dp.getD i (-1) := by
  intro l
  induction l with
  | nil => intro dp i h; rfl
  | cons t l ih =>
    intro dp i h
    unfold lead
    split
    · rfl
    · split
      · rfl
      · rename_i h1 h2
        have e : (dp.set t d).getD i (-1) = dp.getD i (-1) := by
          rw [getD_set]
          split
          · rename_i h3
            obtain ⟨rfl, _⟩ := h3
            by_cases h4 : dp.getD t (-1) = d
            · exact h4.symm
            · exact absurd ⟨h, h4⟩ h2
          · rfl
        rw [ih (dp.set t d) i (by rw [e]; exact h), e]
/-- Without an error each way is there, and has this depth. -/
theorem lead_fine {n : Nat} {d : Int} (hd : 0 ≤ d) : ∀ (l : List Nat) (dp : List Int), dp.length = n → (lead n d l dp).2 = 0 → ∀ t ∈ l, t < n ∧ (lead n d l dp).1.getD t (-1) = d := by
  intro l
  induction l with
  | nil => intro dp _ _ t ht; cases ht
  | cons s l ih =>
    intro dp hn h t ht
    unfold lead at h ⊢
    split at h
    · cases h
    · split at h
      · cases h
      · rename_i h1 h2
        rw [if_neg h1, if_neg h2]
        rcases List.mem_cons.1 ht with rfl | ht
        · have e : (dp.set t d).getD t (-1) = d := by rw [getD_set, if_pos ⟨rfl, by omega⟩]
          exact ⟨by omega, (lead_keeps l _ t (by rw [e]; exact hd)).trans e⟩
        · exact ih (dp.set s d) (by rw [List.length_set]; exact hn) h t ht
theorem one_length (fs : List Fn) (co : List De) (dp : List Int) (a : Nat) : (one fs co dp a).1.length = dp.length := by
  unfold one
  split
  · rfl
  · split
    · rfl
    · exact lead_length _ _
theorem one_keeps (fs : List Fn) (co : List De) (dp : List Int) (a i : Nat) (h : 0 ≤ dp.getD i (-1)) : (one fs co dp a).1.getD i (-1) = dp.getD i (-1) := by
  unfold one
  split
  · rfl
  · split
    · rfl
    · exact lead_keeps _ _ _ h
theorem lead_rng {n : Nat} {d : Int} (h0 : 0 ≤ d) (h1 : d ≤ 16) : ∀ (l : List Nat) (dp : List Int), (∀ x ∈ dp, -1 ≤ x ∧ x ≤ 16) → ∀ x ∈ (lead n d l dp).1, -1 ≤ x ∧ x ≤ 16 := by
  intro l
  induction l with
  | nil => intro dp h; exact h
  | cons t l ih =>
    intro dp h
    unfold lead
    split
    · exact h
    · split
      · exact h
      · refine ih _ fun x hx => ?_
        rcases List.mem_or_eq_of_mem_set hx with hx | rfl
        · exact h x hx
        · omega
theorem one_rng (fs : List Fn) (co : List De) (dp : List Int) (a : Nat) (h : ∀ x ∈ dp, -1 ≤ x ∧ x ≤ 16) : ∀ x ∈ (one fs co dp a).1, -1 ≤ x ∧ x ≤ 16 := by
  unfold one
  split
  · exact h
  · split
    · exact h
    · exact lead_rng (by omega) (by omega) _ _ h
/-- What holds between any two rounds, while nothing is wrong: who has been looked at is sound. -/
structure Inv (fs : List Fn) (co : List De) (q : Q) : Prop where
  ld : q.dp.length = co.length
  ln : q.dn.length = co.length
  fl : q.first ≤ co.length
  zero : q.dp.getD 0 (-1) = 0
  rng : ∀ x ∈ q.dp, -1 ≤ x ∧ x ≤ 16
  known : ∀ a, q.dn.getD a true = true → a < co.length → 0 ≤ q.dp.getD a (-1)
  sound : q.bad = 0 → q.first = co.length ∧ ∀ a, a < co.length → q.dn.getD a true = true →
    0 ≤ behind fs (co.getD a Go.Proofs.YtjbcmedljgafkaaDoor.objs.zero) (q.dp.getD a (-1)) ∧ behind fs (co.getD a Go.Proofs.YtjbcmedljgafkaaDoor.objs.zero) (q.dp.getD a (-1)) ≤ 16 ∧
    ∀ t ∈ ways (co.getD a Go.Proofs.YtjbcmedljgafkaaDoor.objs.zero) a, t < co.length ∧ q.dp.getD t (-1) = behind fs (co.getD a Go.Proofs.YtjbcmedljgafkaaDoor.objs.zero) (q.dp.getD a (-1))
theorem pick_lt {dp : List Int} {dn : List Bool} {n : Nat} (h : pick dp dn n < n) : dn.getD (pick dp dn n) true = false ∧ 0 ≤ dp.getD (pick dp dn n) (-1) := by
  have hl : pick dp dn n < (List.range n).length := by rw [List.length_range]; exact h
  have h1 := List.findIdx_getElem (xs := List.range n) (p := fun i => !dn.getD i true && decide (0 ≤ dp.getD i (-1))) (w := hl)
  have e : (List.range n)[pick dp dn n]'hl = pick dp dn n := List.getElem_range _
  unfold pick at e ⊢
  rw [e] at h1
  simpa only [Bool.and_eq_true, Bool.not_eq_true', decide_eq_true_eq] using h1
theorem pick_none {dp : List Int} {dn : List Bool} {n : Nat} (h : ¬ pick dp dn n < n) : ∀ i, i < n → dn.getD i true = true ∨ dp.getD i (-1) < 0 := by
  intro i hi
  have h1 := List.not_of_lt_findIdx (xs := List.range n) (p := fun i => !dn.getD i true && decide (0 ≤ dp.getD i (-1))) (i := i) (by show i < pick dp dn n; omega)
  have e : (List.range n)[i]'(by rw [List.length_range]; exact hi) = i := List.getElem_range _
  rw [e] at h1
  cases hd : dn.getD i true with
  | true => exact .inl rfl
  | false =>
    right
    by_cases hp : 0 ≤ dp.getD i (-1)
    · rw [hd, decide_eq_true hp] at h1
      cases h1
    · omega
theorem dn_set {l : List Bool} {a i : Nat} (h : (l.set a true).getD i true = true) (hne : i ≠ a) : l.getD i true = true := by
  rw [getD_set, if_neg (fun e => hne e.1.symm)] at h
  exact h
theorem Inv.step {fs : List Fn} {co : List De} {q : Q} (h : Inv fs co q) {a : Nat} (ha : a < co.length) (h0 : 0 ≤ q.dp.getD a (-1)) : Inv fs co (stepQ fs co q a) := by
  have hk := one_keeps fs co q.dp a
  have hl := one_length fs co q.dp a
  have ez : (one fs co q.dp a).1.getD 0 (-1) = 0 := by rw [hk 0 (by rw [h.zero]; exact Int.le_refl 0)]; exact h.zero
  have er := one_rng fs co q.dp a h.rng
  have en : ∀ i, (q.dn.set a true).getD i true = true → i < co.length → 0 ≤ (one fs co q.dp a).1.getD i (-1) := by
    intro i hi hlt
    by_cases hne : i = a
    · subst hne; rw [hk i h0]; exact h0
    · have := h.known i (dn_set hi hne) hlt
      rw [hk i this]; exact this
  unfold stepQ
  by_cases hc : (one fs co q.dp a).2 ≠ 0 ∧ a < q.first
  · rw [if_pos hc]
    exact ⟨hl.trans h.ld, by simp [h.ln], Nat.le_of_lt ha, ez, er, en, fun hb => absurd hb hc.1⟩
  · rw [if_neg hc]
    refine ⟨hl.trans h.ld, by simp [h.ln], h.fl, ez, er, en, fun hb => ?_⟩
    obtain ⟨hf, hs⟩ := h.sound hb
    refine ⟨hf, fun i hi hd => ?_⟩
    have he : (one fs co q.dp a).2 = 0 := by
      by_cases e : (one fs co q.dp a).2 = 0
      · exact e
      · exact absurd ⟨e, by rw [hf]; exact ha⟩ hc
    by_cases hne : i = a
    · subst hne
      show 0 ≤ behind fs _ ((one fs co q.dp i).1.getD i (-1)) ∧ behind fs _ ((one fs co q.dp i).1.getD i (-1)) ≤ 16 ∧ ∀ t ∈ _, t < co.length ∧ (one fs co q.dp i).1.getD t (-1) = behind fs _ ((one fs co q.dp i).1.getD i (-1))
      rw [hk i h0]
      unfold one at he ⊢
      split at he
      · cases he
      · split at he
        · cases he
        · rename_i h1 h2
          rw [if_neg h1, if_neg h2]
          exact ⟨by omega, by omega, lead_fine (by omega) _ _ h.ld he⟩
    · have hd' := dn_set hd hne
      obtain ⟨s1, s2, s3⟩ := hs i hi hd'
      show 0 ≤ behind fs _ ((one fs co q.dp a).1.getD i (-1)) ∧ behind fs _ ((one fs co q.dp a).1.getD i (-1)) ≤ 16 ∧ ∀ t ∈ _, t < co.length ∧ (one fs co q.dp a).1.getD t (-1) = behind fs _ ((one fs co q.dp a).1.getD i (-1))
      rw [hk i (h.known i hd' hi)]
      refine ⟨s1, s2, fun t ht => ?_⟩
      obtain ⟨t1, t2⟩ := s3 t ht
      exact ⟨t1, by rw [hk t (by rw [t2]; exact s1)]; exact t2⟩
/-- How many have not been looked at. -/
def left (dn : List Bool) : Nat := dn.countP fun b => !b
theorem left_set : ∀ {l : List Bool} {a : Nat}, a < l.length → l.getD a true = false → left (l.set a true) + 1 = left l := by
  intro l
  induction l with
  | nil => intro a h; cases h
  | cons b l ih =>
    intro a h hb
    cases a with
    | zero =>
      have : b = false := hb
      subst this
      simp [left]
    | succ a =>
      have := ih (a := a) (by simpa using h) (by simpa using hb)
      unfold left at this ⊢
      rw [List.set_cons_succ, List.countP_cons, List.countP_cons]
      omega
theorem run_inv {fs : List Fn} {co : List De} : ∀ (j : Nat) (q : Q), Inv fs co q → left q.dn ≤ j → Inv fs co (runQ fs co j q) ∧ ¬ pick (runQ fs co j q).dp (runQ fs co j q).dn co.length < co.length := by
  intro j
  induction j with
  | zero =>
    intro q h hj
    refine ⟨h, fun hp => ?_⟩
    obtain ⟨h1, _⟩ := pick_lt hp
    have := left_set (l := q.dn) (a := pick q.dp q.dn co.length) (by rw [h.ln]; exact hp) h1
    omega
  | succ j ih =>
    intro q h hj
    unfold runQ
    by_cases hp : pick q.dp q.dn co.length < co.length
    · rw [if_pos hp]
      obtain ⟨h1, h2⟩ := pick_lt hp
      have hl := left_set (l := q.dn) (a := pick q.dp q.dn co.length) (by rw [h.ln]; exact hp) h1
      refine ih _ (h.step hp h2) ?_
      have : (stepQ fs co q (pick q.dp q.dn co.length)).dn = q.dn.set (pick q.dp q.dn co.length) true := by unfold stepQ; split <;> rfl
      rw [this]
      omega
    · rw [if_neg hp]
      exact ⟨h, hp⟩
theorem start_inv {fs : List Fn} {co : List De} (h : 0 < co.length) : Inv fs co (startQ co) := by
  have hf : ∀ a, a < co.length → (List.replicate co.length false).getD a true = false := fun a ha => by
    rw [List.getD_eq_getElem?_getD, List.getElem?_replicate, if_pos ha]; rfl
  refine ⟨by simp [startQ]; omega, by simp [startQ], Nat.le_refl _, rfl, fun x hx => ?_, fun a hd ha => ?_, fun _ => ⟨rfl, fun a ha hd => ?_⟩⟩
  · rcases List.mem_cons.1 hx with rfl | hx
    · omega
    · have := List.eq_of_mem_replicate hx
      omega
  · rw [show (startQ co).dn = List.replicate co.length false from rfl, hf a ha] at hd; cases hd
  · rw [show (startQ co).dn = List.replicate co.length false from rfl, hf a ha] at hd; cases hd
theorem left_start (co : List De) : left (startQ co).dn ≤ co.length := by
  have := List.countP_le_length (p := fun b => !b) (l := (startQ co).dn)
  simpa [startQ, left] using this
/-- Depths without an error are sound. -/
theorem depths_sound {fs : List Fn} {fn : Int} {dp : List Int} {a : Nat} (h : depths fs fn = (dp, a, 0)) : 0 ≤ fn ∧ fn < (fs.length : Int) ∧ 0 < (fs.getD fn.toNat Fn.zero).co.length ∧ Sound fs (fs.getD fn.toNat Fn.zero).co dp ∧ ∀ x ∈ dp, -1 ≤ x ∧ x ≤ 16 := by
  unfold depths at h
  split at h
  · cases h
  · rename_i h1
    dsimp only at h
    split at h
    · cases h
    · rename_i h2
      have hp : 0 < (fs.getD fn.toNat Fn.zero).co.length := by omega
      refine ⟨by omega, by omega, hp, ?_⟩
      obtain ⟨hi, hn⟩ := run_inv (fs := fs) _ _ (start_inv hp) (left_start _)
      split at h
      · rename_i h3
        injection h with _ h4
        injection h4 with _ h5
        exact absurd h5 h3
      · rename_i h3
        injection h with h4 _
        subst h4
        obtain ⟨_, hs⟩ := hi.sound (by omega)
        refine ⟨⟨hi.ld, hi.zero, fun b hb h0 => ?_⟩, hi.rng⟩
        rcases pick_none hn b hb with hd | hd
        · exact hs b hb hd
        · omega
/-- The greatest of a list that is not below 0. -/
def most (l : List Int) : Int := l.foldl max 0
end Go.Proofs.YtjbcmedljgafkaaDoor.pgm.dep

/-
  Which programs may run: what is wrong first, and where; which functions one reaches by call, and which objects these name: plain mathematics of lists. No condition.
-/

namespace Go.Proofs.YtjbcmedljgafkaaDoor.pgm.ver
open Go.Proofs.YtjbcmedljgafkaaDoor.pgm
open Go.Proofs.YtjbcmedljgafkaaDoor.pgm.dep (depths)
open Go.Proofs.YtjbcmedljgafkaaDoor.objs (De zero fits kindsOf)
open Go.Proofs.YtjbcmedljgafkaaDoor.inst (form opd)
set_option linter.unusedVariables false

/-- Does a letter stand for an object? -/
def objV (c : UInt8) : Bool := decide (c ≠ 110 ∧ c ≠ 107 ∧ c ≠ 116 ∧ c ≠ 102 ∧ c ≠ 119 ∧ c ≠ 106)
/-- What is wrong with an operand. -/
def opV (p : Pg) (f : Fn) (o : Int) (c : UInt8) (n : Int) : Nat :=
  if (c = 107 ∧ f.lo ≤ n) ∨ (c = 116 ∧ (f.co.length : Int) ≤ n) ∨ (c = 119 ∧ (p.ws.length : Int) ≤ n) then 1
  else if c = 102 ∧ ((p.fs.length : Int) ≤ n ∨ (o = 40 ∧ (p.fs.getD n.toNat Fn.zero).ar ≠ 1)) then 1
  else if objV c = true ∧ fits p.ds c n = false then 6 else 0
/-- Letter by letter. -/
def letV (p : Pg) (f : Fn) (x : De) : List UInt8 → Nat → Nat
  | [], _ => 0
  | c :: l, k => if opV p f x.1 c (opd x.2.1 x.2.2 k) ≠ 0 then opV p f x.1 c (opd x.2.1 x.2.2 k) else letV p f x l (k + 1)
/-- What is wrong with an instruction's operands. -/
def insV (p : Pg) (f : Fn) (x : De) : Nat := letV p f x (form x.1) 0
/-- Instruction by instruction: where, and what. -/
def codeV (p : Pg) (f : Fn) : List De → Nat → Nat × Nat
  | [], i => (i, 0)
  | x :: l, i => if insV p f x ≠ 0 then (i, insV p f x) else codeV p f l (i + 1)
/-- What is wrong with a function, and where. -/
def funV (p : Pg) (fn : Nat) : Nat × Nat :=
  if (codeV p (p.fs.getD fn Fn.zero) (p.fs.getD fn Fn.zero).co 0).2 ≠ 0 then codeV p (p.fs.getD fn Fn.zero) (p.fs.getD fn Fn.zero).co 0
  else ((depths p.fs (fn : Int)).2.1, (depths p.fs (fn : Int)).2.2)
/-- Function by function: of k of them, from one on. -/
def funsV (p : Pg) : Nat → Nat → Nat × Nat × Nat
  | 0, _ => (0, 0, 0)
  | k + 1, fn => if (funV p fn).2 ≠ 0 then (fn, (funV p fn).1, (funV p fn).2) else funsV p k (fn + 1)
/-- What is wrong with a program, and where. -/
def progV (p : Pg) : Nat × Nat × Nat :=
  if chkP p ≠ 0 then (0, 0, chkP p) else if (p.fs.getD 0 Fn.zero).ar ≠ 0 then (0, 0, 1) else funsV p p.fs.length 0

theorem letV_zero {p : Pg} {f : Fn} {x : De} : ∀ (l : List UInt8) (k : Nat), letV p f x l k = 0 → ∀ j, j < l.length → opV p f x.1 (l.getD j 0) (opd x.2.1 x.2.2 (k + j)) = 0 := by
  intro l
  induction l with
  | nil => intro k _ j hj; exact absurd hj (Nat.not_lt_zero j)
  | cons c l ih =>
    intro k h j hj
    unfold letV at h
    split at h
    · rename_i h1
      exact absurd h h1
    · rename_i h1
      cases j with
      | zero => exact Decidable.of_not_not h1
      | succ j =>
        have := ih (k + 1) h j (by simpa using hj)
        rw [show k + 1 + j = k + (j + 1) by omega] at this
        exact this
theorem codeV_zero {p : Pg} {f : Fn} : ∀ (l : List De) (i : Nat), (codeV p f l i).2 = 0 → ∀ x ∈ l, insV p f x = 0 := by
  intro l
  induction l with
  | nil => intro i _ x hx; cases hx
  | cons y l ih =>
    intro i h x hx
    unfold codeV at h
    split at h
    · rename_i h1
      exact absurd h h1
    · rename_i h1
      rcases List.mem_cons.1 hx with rfl | hx
      · exact Decidable.of_not_not h1
      · exact ih (i + 1) h x hx
theorem funV_zero {p : Pg} {fn : Nat} (h : (funV p fn).2 = 0) : ∀ x ∈ (p.fs.getD fn Fn.zero).co, insV p (p.fs.getD fn Fn.zero) x = 0 := by
  unfold funV at h
  split at h
  · rename_i h1
    exact absurd h h1
  · rename_i h1
    exact codeV_zero _ _ (Decidable.of_not_not h1)
theorem funsV_zero {p : Pg} : ∀ (k fn : Nat), (funsV p k fn).2.2 = 0 → ∀ j, fn ≤ j → j < fn + k → (funV p j).2 = 0 := by
  intro k
  induction k with
  | zero => intro fn _ j h1 h2; omega
  | succ k ih =>
    intro fn h j h1 h2
    unfold funsV at h
    split at h
    · rename_i h3
      exact absurd h h3
    · rename_i h3
      by_cases hj : j = fn
      · subst hj; exact Decidable.of_not_not h3
      · exact ih (fn + 1) h j (by omega) (by omega)
/-- In a program that may run each operand of each instruction is right. -/
theorem progV_zero {p : Pg} (h : (progV p).2.2 = 0) : chkP p = 0 ∧ (p.fs.getD 0 Fn.zero).ar = 0 ∧ ∀ fn, fn < p.fs.length → ∀ x ∈ (p.fs.getD fn Fn.zero).co, ∀ j, j < (form x.1).length → opV p (p.fs.getD fn Fn.zero) x.1 ((form x.1).getD j 0) (opd x.2.1 x.2.2 j) = 0 := by
  unfold progV at h
  split at h
  · rename_i h1
    exact absurd h h1
  · rename_i h1
    split at h
    · cases h
    · rename_i h2
      refine ⟨Decidable.of_not_not h1, Decidable.of_not_not h2, fun fn hfn x hx j hj => ?_⟩
      have := letV_zero _ _ (funV_zero (funsV_zero _ _ h fn (Nat.zero_le _) (by omega)) x hx) j hj
      rwa [Nat.zero_add] at this

theorem opV_obj {p : Pg} {f : Fn} {o : Int} {c : UInt8} {n : Int} (h : opV p f o c n = 0) (hc : objV c = true) : fits p.ds c n = true := by
  unfold opV at h
  split at h
  · cases h
  · split at h
    · cases h
    · split at h
      · cases h
      · rename_i h3
        cases hf : fits p.ds c n with
        | true => rfl
        | false => exact absurd ⟨hc, hf⟩ h3
theorem fits_kind {l : List De} {c : UInt8} {o k : Int} (h : fits l c o = true) (hk : kindsOf c = [k]) : 0 ≤ o ∧ o < (l.length : Int) ∧ (l.getD o.toNat zero).1 = k := by
  unfold fits at h
  rw [Bool.and_eq_true, decide_eq_true_eq, hk] at h
  refine ⟨h.1.1, h.1.2, ?_⟩
  simpa using h.2

/-- The kind of an operation's first object; 0: it is not asked. -/
def kindV (o : Int) : Int :=
  if o = 30 then 3 else if o = 31 then 6 else if o = 32 ∨ o = 33 ∨ o = 34 ∨ o = 35 then 4 else if o = 36 ∨ o = 37 ∨ o = 38 ∨ o = 39 then 5 else if o = 45 ∨ o = 46 then 7 else if o = 50 ∨ o = 51 then 1 else 0
theorem kind_first : ∀ k : Nat, k < 52 → kindV (k : Int) ≠ 0 → 0 < (form (k : Int)).length ∧ objV ((form (k : Int)).getD 0 0) = true ∧ kindsOf ((form (k : Int)).getD 0 0) = [kindV (k : Int)] := by decide +kernel
theorem kindV_known {o : Int} (h : kindV o ≠ 0) : 0 ≤ o ∧ o ≤ 51 := by
  unfold kindV at h
  repeat (split at h; · omega)
  exact absurd rfl h
/-- What the statement asks of an instruction of a program that may run. -/
theorem asks {p : Pg} (h : (progV p).2.2 = 0) {fn : Nat} (hfn : fn < p.fs.length) {x : De} (hx : x ∈ (p.fs.getD fn Fn.zero).co) :
    (kindV x.1 ≠ 0 → 0 ≤ x.2.1 ∧ x.2.1 < (p.ds.length : Int) ∧ (p.ds.getD x.2.1.toNat zero).1 = kindV x.1) ∧
    (x.1 = 26 → x.2.1 < (p.ws.length : Int)) ∧ (x.1 = 20 → x.2.1 < (p.fs.length : Int)) ∧ (x.1 = 18 → x.2.1 < ((p.fs.getD fn Fn.zero).co.length : Int)) ∧ (x.1 = 1 → x.2.1 < (p.fs.getD fn Fn.zero).lo) := by
  have hq := (progV_zero h).2.2 fn hfn x hx
  have first : ∀ (o : Int) (f : List UInt8), x.1 = o → form o = f → 0 < f.length → opV p (p.fs.getD fn Fn.zero) o (f.getD 0 0) x.2.1 = 0 := fun o f h1 h2 h3 => by
    have := hq 0 (by rw [h1, h2]; exact h3)
    rw [h1, h2] at this
    exact this
  refine ⟨fun hk => ?_, fun ho => ?_, fun ho => ?_, fun ho => ?_, fun ho => ?_⟩
  · obtain ⟨k0, k1⟩ := kindV_known hk
    obtain ⟨k, hk1⟩ : ∃ k : Nat, x.1 = (k : Int) := ⟨x.1.toNat, by omega⟩
    rw [hk1] at hk ⊢
    obtain ⟨f1, f2, f3⟩ := kind_first k (by omega) hk
    exact fits_kind (opV_obj (first _ _ hk1 rfl f1) f2) f3
  all_goals
    have h1 := first _ _ ho rfl (by decide +kernel)
  · rw [show (form 26).getD 0 0 = 119 from by decide +kernel] at h1
    unfold opV at h1
    rw [if_neg (show ¬ ((119 : UInt8) = 102 ∧ _) from fun e => absurd e.1 (by decide))] at h1
    split at h1
    · cases h1
    · rename_i h2
      have : ¬ ((p.ws.length : Int) ≤ x.2.1) := fun e => h2 (.inr (.inr ⟨rfl, e⟩))
      omega
  · rw [show (form 20).getD 0 0 = 102 from by decide +kernel] at h1
    unfold opV at h1
    split at h1
    · cases h1
    · split at h1
      · cases h1
      · rename_i h2
        have : ¬ ((p.fs.length : Int) ≤ x.2.1) := fun e => h2 ⟨rfl, .inl e⟩
        omega
  · rw [show (form 18).getD 0 0 = 116 from by decide +kernel] at h1
    unfold opV at h1
    split at h1
    · cases h1
    · rename_i h2
      have : ¬ (((p.fs.getD fn Fn.zero).co.length : Int) ≤ x.2.1) := fun e => h2 (.inr (.inl ⟨rfl, e⟩))
      omega
  · rw [show (form 1).getD 0 0 = 107 from by decide +kernel] at h1
    unfold opV at h1
    split at h1
    · cases h1
    · rename_i h2
      have : ¬ ((p.fs.getD fn Fn.zero).lo ≤ x.2.1) := fun e => h2 (.inl ⟨rfl, e⟩)
      omega

/-- One function calls another one. -/
def CallsF (fs : List Fn) (i j : Nat) : Prop := j < fs.length ∧ ∃ x ∈ (fs.getD i Fn.zero).co, x.1 = 20 ∧ x.2.1 = (j : Int)
/-- A function reaches another one, or itself. -/
inductive Rch (fs : List Fn) (i : Nat) : Nat → Prop
  | self : Rch fs i i
  | step {j k : Nat} : Rch fs i j → CallsF fs j k → Rch fs i k
theorem Rch.trans {fs : List Fn} {i j k : Nat} (h : Rch fs i j) (g : Rch fs j k) : Rch fs i k := by
  induction g with
  | self => exact h
  | step _ c ih => exact ih.step c
theorem Rch.lt {fs : List Fn} {i j : Nat} (h : Rch fs i j) (hi : i < fs.length) : j < fs.length := by
  cases h with
  | self => exact hi
  | step _ c => exact c.1
/-- A function, by a number that may be none: those that it reaches. -/
def Rcd (fs : List Fn) (fn : Int) (j : Nat) : Prop := 0 ≤ fn ∧ fn < (fs.length : Int) ∧ Rch fs fn.toNat j
theorem Rcd.lt {fs : List Fn} {fn : Int} {j : Nat} (h : Rcd fs fn j) : j < fs.length := h.2.2.lt (by have := h.1; have := h.2.1; omega)
theorem Rcd.self {fs : List Fn} {fn : Int} (h0 : 0 ≤ fn) (h1 : fn < (fs.length : Int)) : Rcd fs fn fn.toNat := ⟨h0, h1, .self⟩
end Go.Proofs.YtjbcmedljgafkaaDoor.pgm.ver

/-
  Frames: what the chapter's calls make of them: plain mathematics of lists. A frame is its twenty-seven numbers: its function, its place, how many values it has, eight locals, sixteen values. No condition.
-/

namespace Go.Proofs.YtjbcmedljgafkaaDoor.frames
open Go.Proofs.YtjbcmedljgafkaaDoor.word (low Word low_word low_id)
set_option linter.unusedVariables false

abbrev Fr := List Int
def zeroF : Fr := List.replicate 27 0
/-- One of a frame's numbers. -/
def num (f : Fr) (k : Nat) : Int := f.getD k 0
theorem num_ne {f : Fr} {k j : Nat} (h : k ≠ j) (v : Int) : num (f.set k v) j = num f j := by
  unfold num
  rw [List.getD_eq_getElem?_getD, List.getD_eq_getElem?_getD, List.getElem?_set_ne h]
theorem num_here {f : Fr} {k : Nat} (h : k < f.length) (v : Int) : num (f.set k v) k = v := by
  unfold num
  rw [List.getD_eq_getElem?_getD, List.getElem?_set_self h]
  rfl
/-- How many values a frame has. -/
def cnt (f : Fr) : Int := num f 2
/-- The last frame. -/
def topF (l : List Fr) : Fr := l.getD (l.length - 1) zeroF
/-- The frames, the last of which is another one. -/
def withF (l : List Fr) (f : Fr) : List Fr := l.take (l.length - 1) ++ [f]
/-- The first k locals are these. -/
def argsF (args : List Int) (f : Fr) : Nat → Fr
  | 0 => f
  | k + 1 => (argsF args f k).set (3 + k) (low (args.getD k 0))
def newF (fn : Int) (args : List Int) : Fr := argsF args (zeroF.set 0 fn) (min args.length 8)
def pushed (f : Fr) (v : Int) : Fr := (f.set (11 + (cnt f).toNat) (low v)).set 2 (cnt f + 1)
def pushF (l : List Fr) (v : Int) : Option (List Fr) :=
  if l.length = 0 ∨ 15 < cnt (topF l) ∨ cnt (topF l) < 0 then none else some (withF l (pushed (topF l) v))
/-- Of the values from the i-th one on, k are 0. -/
def clearF (f : Fr) (i : Nat) : Nat → Fr
  | 0 => f
  | k + 1 => (clearF f i k).set (11 + (i + k)) 0
/-- Of the values from the i-th one on, k. -/
def valsF (f : Fr) (i k : Nat) : List Int := (List.range k).map fun j => num f (11 + (i + j))
def popped (f : Fr) (n : Int) : Fr := (clearF f (cnt f - n).toNat n.toNat).set 2 (cnt f - n)
def popF (l : List Fr) (n : Int) : Option (List Fr × List Int) :=
  if l.length = 0 ∨ n < 0 ∨ cnt (topF l) < n ∨ 16 < cnt (topF l) then none else some (withF l (popped (topF l) n), valsF (topF l) (cnt (topF l) - n).toNat n.toNat)
def callF (l : List Fr) (fn n : Int) : Option (List Fr) :=
  match popF l n with
  | none => none
  | some (x, args) => if 8 < n ∨ 7 < l.length then none else some (x ++ [newF fn args])
def retF (l : List Fr) : Option (List Fr × Int) :=
  match popF l 1 with
  | none => none
  | some (_, v) => if l.length = 1 then some ([], v.getD 0 0) else
    match pushF (l.take (l.length - 1)) (v.getD 0 0) with
    | none => none
    | some x => some (x, v.getD 0 0)
def storeF (l : List Fr) (k v : Int) : List Fr := if l.length = 0 ∨ k < 0 ∨ 7 < k then l else withF l ((topF l).set (3 + k.toNat) (low v))
def goF (l : List Fr) (pc : Int) : List Fr := if l.length = 0 then l else withF l ((topF l).set 1 pc)
/-- Frames such as the chapter speaks of, of which a call makes at most eight. -/
def GoodF (f : Fr) : Prop := f.length = 27 ∧ 0 ≤ cnt f ∧ cnt f ≤ 16
def Good (l : List Fr) : Prop := l.length ≤ 8 ∧ ∀ f ∈ l, GoodF f
theorem cnt_set {f : Fr} {k : Nat} (hk : k ≠ 2) (v : Int) : cnt (f.set k v) = cnt f := num_ne hk v
theorem cnt_here {f : Fr} (h : f.length = 27) (v : Int) : cnt (f.set 2 v) = v := num_here (by omega) v
theorem args_keep (args : List Int) (f : Fr) : ∀ k, (argsF args f k).length = f.length ∧ (k ≤ 8 → cnt (argsF args f k) = cnt f) := by
  intro k
  induction k with
  | zero => exact ⟨rfl, fun _ => rfl⟩
  | succ k ih =>
    unfold argsF
    exact ⟨by rw [List.length_set, ih.1], fun h => by rw [cnt_set (by omega), ih.2 (by omega)]⟩
theorem new_good (fn : Int) (args : List Int) : GoodF (newF fn args) := by
  have h := args_keep args (zeroF.set 0 fn) (min args.length 8)
  have h2 := h.2 (by omega)
  rw [cnt_set (by decide)] at h2
  unfold newF
  refine ⟨by rw [h.1, List.length_set]; rfl, ?_, ?_⟩
  · rw [h2]; decide
  · rw [h2]; decide
theorem top_mem {l : List Fr} (h : l.length ≠ 0) : topF l ∈ l := by
  unfold topF
  rw [List.getD_eq_getElem?_getD, List.getElem?_eq_getElem (by omega)]
  exact List.getElem_mem _
theorem mem_take_any {l : List Fr} {n : Nat} {f : Fr} (h : f ∈ l.take n) : f ∈ l := List.mem_of_mem_take h
theorem with_good {l : List Fr} {f : Fr} (h : Good l) (h0 : l.length ≠ 0) (hf : GoodF f) : Good (withF l f) := by
  unfold withF
  refine ⟨?_, fun g hg => ?_⟩
  · have := h.1
    rw [List.length_append, List.length_take, List.length_singleton]
    omega
  · rcases List.mem_append.1 hg with hg | hg
    · exact h.2 g (mem_take_any hg)
    · rw [List.mem_singleton.1 hg]; exact hf
theorem with_length {l : List Fr} {f : Fr} (h0 : l.length ≠ 0) : (withF l f).length = l.length := by
  unfold withF
  rw [List.length_append, List.length_take, List.length_singleton]
  omega
theorem clear_keep (f : Fr) (i : Nat) : ∀ k, (clearF f i k).length = f.length ∧ cnt (clearF f i k) = cnt f := by
  intro k
  induction k with
  | zero => exact ⟨rfl, rfl⟩
  | succ k ih =>
    unfold clearF
    exact ⟨by rw [List.length_set, ih.1], by rw [cnt_set (by omega), ih.2]⟩
theorem pushed_good {f : Fr} (h : GoodF f) (hn : cnt f ≤ 15) (v : Int) : GoodF (pushed f v) := by
  obtain ⟨h1, h2, h3⟩ := h
  have h4 : cnt (pushed f v) = cnt f + 1 := cnt_here (by rw [List.length_set]; exact h1) _
  refine ⟨by unfold pushed; rw [List.length_set, List.length_set]; exact h1, by omega, by omega⟩
theorem popped_good {f : Fr} (h : GoodF f) {n : Int} (h0 : 0 ≤ n) (hn : n ≤ cnt f) : GoodF (popped f n) := by
  obtain ⟨h1, h2, h3⟩ := h
  have hk := clear_keep f (cnt f - n).toNat n.toNat
  have h4 : cnt (popped f n) = cnt f - n := cnt_here (by rw [hk.1]; exact h1) _
  refine ⟨by unfold popped; rw [List.length_set, hk.1]; exact h1, by omega, by omega⟩
theorem push_good {l x : List Fr} {v : Int} (h : Good l) (hx : pushF l v = some x) : Good x ∧ x.length = l.length := by
  unfold pushF at hx
  split at hx
  · cases hx
  · rename_i hc
    obtain rfl := (Option.some.inj hx).symm
    have h0 : l.length ≠ 0 := fun e => hc (.inl e)
    have hf := h.2 _ (top_mem h0)
    exact ⟨with_good h h0 (pushed_good hf (by have : ¬ 15 < cnt (topF l) := fun e => hc (.inr (.inl e)); omega) v), with_length h0⟩
theorem pop_good {l x : List Fr} {n : Int} {a : List Int} (h : Good l) (hx : popF l n = some (x, a)) : Good x ∧ x.length = l.length ∧ a.length = n.toNat ∧ 0 ≤ n ∧ n ≤ 16 ∧ l.length ≠ 0 := by
  unfold popF at hx
  split at hx
  · cases hx
  · rename_i hc
    have h1 := Option.some.inj hx
    have hx1 := congrArg Prod.fst h1
    have ha1 := congrArg Prod.snd h1
    dsimp only at hx1 ha1
    subst hx1 ha1
    have h0 : l.length ≠ 0 := fun e => hc (.inl e)
    have hf := h.2 _ (top_mem h0)
    have h2 : ¬ n < 0 := fun e => hc (.inr (.inl e))
    have h3 : ¬ cnt (topF l) < n := fun e => hc (.inr (.inr (.inl e)))
    have h4 := hf.2.2
    refine ⟨with_good h h0 (popped_good hf (by omega) (by omega)), with_length h0, ?_, by omega, by omega, h0⟩
    unfold valsF
    rw [List.length_map, List.length_range]
theorem take_good {l : List Fr} (h : Good l) (n : Nat) : Good (l.take n) := ⟨by have := h.1; rw [List.length_take]; omega, fun f hf => h.2 f (mem_take_any hf)⟩
theorem go_good {l : List Fr} (h : Good l) (pc : Int) : Good (goF l pc) := by
  unfold goF
  split
  · exact h
  · rename_i h0
    have hf := h.2 _ (top_mem h0)
    refine with_good h h0 ⟨by rw [List.length_set]; exact hf.1, ?_, ?_⟩
    · rw [cnt_set (by omega)]; exact hf.2.1
    · rw [cnt_set (by omega)]; exact hf.2.2
end Go.Proofs.YtjbcmedljgafkaaDoor.frames
