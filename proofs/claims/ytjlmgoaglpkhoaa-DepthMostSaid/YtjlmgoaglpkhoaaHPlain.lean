/-
  How many values stand on the stack ahead of each instruction of a function, and what is wrong first: plain mathematics of lists; and that depths without an error are kept by every step. No condition.
-/
import Derived.Test.YtjlmgoaglpkhoaaGPlain
import Derived.Test.YtjlmgoaglpkhoaaPPops
import Derived.Test.YtjlmgoaglpkhoaaPProg
namespace Go.Proofs.Ytjlmgoaglpkhoaa.pgm.dep
open Go.Proofs.Ytjlmgoaglpkhoaa.pgm
open Go.Proofs.Ytjlmgoaglpkhoaa.objs (De zero)
open Go.Proofs.Ytjlmgoaglpkhoaa.oper (pops numb ly)
set_option linter.unusedVariables false

/-- How many arguments an instruction's function has; 0: there is no such function, or it is no call. -/
def argsOf (fs : List Fn) (x : De) : Int := if x.1 = 20 ∧ x.2.1 < (fs.length : Int) then (fs.getD x.2.1.toNat Fn.zero).ar else 0
/-- The depth behind an instruction; below 0: it takes more than there is. -/
def behind (fs : List Fn) (x : De) (d : Int) : Int := if d - pops x.1 x.2.2 (argsOf fs x) < 0 then -1 else d - pops x.1 x.2.2 (argsOf fs x) + numb ly x.1
/-- Where an instruction leads. -/
def ways (x : De) (a : Nat) : List Nat := (if x.1 ≠ 18 ∧ x.1 ≠ 21 then [a + 1] else []) ++ (if x.1 = 18 ∨ x.1 = 19 then [x.2.1.toNat] else [])
/-- Depths, way by way. -/
def lead (n : Nat) (d : Int) : List Nat → List Int → List Int × Nat
  | [], dp => (dp, 0)
  | t :: l, dp => if n ≤ t then (dp, 3) else if 0 ≤ dp.getD t (-1) ∧ dp.getD t (-1) ≠ d then (dp, 2) else lead n d l (dp.set t d)
/-- What is wrong with one instruction, and the depths behind it. -/
def one (fs : List Fn) (co : List De) (dp : List Int) (a : Nat) : List Int × Nat :=
  if behind fs (co.getD a zero) (dp.getD a (-1)) < 0 then (dp, 2)
  else if 16 < behind fs (co.getD a zero) (dp.getD a (-1)) then (dp, 4)
  else lead co.length (behind fs (co.getD a zero) (dp.getD a (-1))) (ways (co.getD a zero) a) dp
/-- Which one is looked at next; how many there are: none. -/
def pick (dp : List Int) (dn : List Bool) (n : Nat) : Nat := (List.range n).findIdx fun i => !dn.getD i true && decide (0 ≤ dp.getD i (-1))
structure Q where
  dp : List Int
  dn : List Bool
  first : Nat
  bad : Nat
/-- One is looked at. -/
def stepQ (fs : List Fn) (co : List De) (q : Q) (a : Nat) : Q :=
  if (one fs co q.dp a).2 ≠ 0 ∧ a < q.first then ⟨(one fs co q.dp a).1, q.dn.set a true, a, (one fs co q.dp a).2⟩ else ⟨(one fs co q.dp a).1, q.dn.set a true, q.first, q.bad⟩
/-- The first j of them are looked at. -/
def runQ (fs : List Fn) (co : List De) : Nat → Q → Q
  | 0, q => q
  | j + 1, q => if pick q.dp q.dn co.length < co.length then runQ fs co j (stepQ fs co q (pick q.dp q.dn co.length)) else q
def startQ (co : List De) : Q := ⟨0 :: List.replicate (co.length - 1) (-1), List.replicate co.length false, co.length, 0⟩
/-- The depths of a function, or the place and the error of what is wrong. -/
def depths (fs : List Fn) (fn : Int) : List Int × Nat × Nat :=
  if fn < 0 ∨ (fs.length : Int) ≤ fn then ([], 0, 19)
  else
    let co := (fs.getD fn.toNat Fn.zero).co
    if co.length = 0 then ([], 0, 3)
    else if (runQ fs co co.length (startQ co)).bad ≠ 0 then ([], (runQ fs co co.length (startQ co)).first, (runQ fs co co.length (startQ co)).bad)
    else ((runQ fs co co.length (startQ co)).dp, 0, 0)

theorem tk_small : ∀ k, k < 52 → 0 ≤ Go.Proofs.Ytjlmgoaglpkhoaa.oper.tk.getD k 0 ∧ Go.Proofs.Ytjlmgoaglpkhoaa.oper.tk.getD k 0 ≤ 2 := by decide +kernel
theorem ly_small : ∀ k, k < 52 → 0 ≤ ly.getD k 0 ∧ ly.getD k 0 ≤ 2 := by decide +kernel
theorem numb_small {l : List Int} (hl : ∀ k, k < 52 → 0 ≤ l.getD k 0 ∧ l.getD k 0 ≤ 2) (n : Int) : 0 ≤ numb l n ∧ numb l n ≤ 2 := by
  unfold numb
  by_cases h : 0 ≤ n ∧ n ≤ 51
  · rw [if_pos h]; exact hl _ (by omega)
  · rw [if_neg h]; omega
/-- An operand of an instruction that may be is in the range of its letter. -/
theorem letter {x : De} (h : Go.Proofs.Ytjlmgoaglpkhoaa.pgm.chkI x = 0) {o : Int} {f : List UInt8} {c : UInt8} {j : Nat} (ho : x.1 = o) (hf : Go.Proofs.Ytjlmgoaglpkhoaa.inst.form o = f) (hj : j < f.length) (hc : f.getD j 0 = c) (hn : c ≠ 110) :
    Go.Proofs.Ytjlmgoaglpkhoaa.inst.least c ≤ Go.Proofs.Ytjlmgoaglpkhoaa.inst.opd x.2.1 x.2.2 j ∧ Go.Proofs.Ytjlmgoaglpkhoaa.inst.opd x.2.1 x.2.2 j ≤ Go.Proofs.Ytjlmgoaglpkhoaa.inst.most c := by
  obtain ⟨_, h2⟩ := Go.Proofs.Ytjlmgoaglpkhoaa.inst.chk_zero h
  rw [ho, hf] at h2
  have h3 := (Go.Proofs.Ytjlmgoaglpkhoaa.inst.chkF_zero h2).1 j hj
  unfold Go.Proofs.Ytjlmgoaglpkhoaa.inst.okAt Go.Proofs.Ytjlmgoaglpkhoaa.inst.fitsB at h3
  rw [hc, if_neg hn] at h3
  exact of_decide_eq_true h3
theorem second : ∀ k, k < 52 → 1 < (Go.Proofs.Ytjlmgoaglpkhoaa.oper.fm.getD k ⟨#[]⟩).data.toList.length → (Go.Proofs.Ytjlmgoaglpkhoaa.oper.fm.getD k ⟨#[]⟩).data.toList.getD 1 0 = 109 ∨ (Go.Proofs.Ytjlmgoaglpkhoaa.oper.fm.getD k ⟨#[]⟩).data.toList.getD 1 0 = 106 := by decide +kernel
/-- The second operand of an instruction that may be. -/
theorem b_small {x : De} (h : Go.Proofs.Ytjlmgoaglpkhoaa.pgm.chkI x = 0) : 0 ≤ x.2.2 ∧ x.2.2 ≤ 31 := by
  obtain ⟨hk, h2⟩ := Go.Proofs.Ytjlmgoaglpkhoaa.inst.chk_zero h
  obtain ⟨k, hk1, hk2⟩ := Go.Proofs.Ytjlmgoaglpkhoaa.oper.nat_of hk
  have hF : Go.Proofs.Ytjlmgoaglpkhoaa.inst.form x.1 = (Go.Proofs.Ytjlmgoaglpkhoaa.oper.fm.getD k ⟨#[]⟩).data.toList := by
    unfold Go.Proofs.Ytjlmgoaglpkhoaa.inst.form
    rw [hk2, Go.Proofs.Ytjlmgoaglpkhoaa.oper.txt_at hk1]
  rcases Nat.lt_or_ge 1 (Go.Proofs.Ytjlmgoaglpkhoaa.oper.fm.getD k ⟨#[]⟩).data.toList.length with hl | hl
  · rcases second k hk1 hl with hc | hc
    · have := letter h rfl hF (j := 1) hl hc (by decide)
      exact ⟨this.1, this.2⟩
    · have := letter h rfl hF (j := 1) hl hc (by decide)
      have e1 : Go.Proofs.Ytjlmgoaglpkhoaa.inst.least 106 = 1 := rfl
      have e2 : Go.Proofs.Ytjlmgoaglpkhoaa.inst.most 106 = 4 := rfl
      have e3 : Go.Proofs.Ytjlmgoaglpkhoaa.inst.opd x.2.1 x.2.2 1 = x.2.2 := rfl
      omega
  · have h3 := (Go.Proofs.Ytjlmgoaglpkhoaa.inst.chkF_zero h2).2.2 1 (by rw [hF]; exact hl) (by decide)
    have e3 : Go.Proofs.Ytjlmgoaglpkhoaa.inst.opd x.2.1 x.2.2 1 = x.2.2 := rfl
    omega
theorem form_41 : Go.Proofs.Ytjlmgoaglpkhoaa.inst.form 41 = [106, 106] := by decide +kernel
theorem form_42 : Go.Proofs.Ytjlmgoaglpkhoaa.inst.form 42 = [106, 106] := by decide +kernel
theorem form_18 : Go.Proofs.Ytjlmgoaglpkhoaa.inst.form 18 = [116] := by decide +kernel
theorem form_19 : Go.Proofs.Ytjlmgoaglpkhoaa.inst.form 19 = [116] := by decide +kernel
theorem form_20 : Go.Proofs.Ytjlmgoaglpkhoaa.inst.form 20 = [102] := by decide +kernel
theorem args_small {fs : List Fn} (hf : ∀ f ∈ fs, 0 ≤ f.ar ∧ f.ar ≤ 8) (x : De) : 0 ≤ argsOf fs x ∧ argsOf fs x ≤ 8 := by
  unfold argsOf
  split
  · rename_i h
    rcases Nat.lt_or_ge x.2.1.toNat fs.length with hl | hl
    · exact hf _ (Go.Proofs.Ytjlmgoaglpkhoaa.pgm.getD_in hl)
    · rw [List.getD_eq_getElem?_getD, List.getElem?_eq_none hl]
      decide
  · omega
/-- What an instruction that may be takes is little. -/
theorem pops_small {fs : List Fn} (hf : ∀ f ∈ fs, 0 ≤ f.ar ∧ f.ar ≤ 8) {x : De} (h : Go.Proofs.Ytjlmgoaglpkhoaa.pgm.chkI x = 0) : 0 ≤ pops x.1 x.2.2 (argsOf fs x) ∧ pops x.1 x.2.2 (argsOf fs x) ≤ 8 := by
  have ha := args_small hf x
  unfold pops
  split
  · exact ha
  · split
    · rename_i h1
      have := letter h h1 form_41 (j := 1) (by decide) (c := 106) rfl (by decide)
      exact ⟨Int.le_trans (by decide) this.1, Int.le_trans this.2 (by decide)⟩
    · split
      · rename_i h1
        have := letter h h1 form_42 (j := 1) (by decide) (c := 106) rfl (by decide)
        have e1 : Go.Proofs.Ytjlmgoaglpkhoaa.inst.least 106 = 1 := rfl
        have e2 : Go.Proofs.Ytjlmgoaglpkhoaa.inst.most 106 = 4 := rfl
        have e3 : Go.Proofs.Ytjlmgoaglpkhoaa.inst.opd x.2.1 x.2.2 1 = x.2.2 := rfl
        omega
      · have := numb_small tk_small x.1
        omega
/-- The place that a jump or a zero names. -/
theorem place_small {x : De} (h : Go.Proofs.Ytjlmgoaglpkhoaa.pgm.chkI x = 0) (ho : x.1 = 18 ∨ x.1 = 19) : 0 ≤ x.2.1 ∧ x.2.1 ≤ 199 := by
  rcases ho with h1 | h1
  · have := letter h h1 form_18 (j := 0) (by decide) (c := 116) rfl (by decide)
    exact ⟨this.1, this.2⟩
  · have := letter h h1 form_19 (j := 0) (by decide) (c := 116) rfl (by decide)
    exact ⟨this.1, this.2⟩
theorem func_small {x : De} (h : Go.Proofs.Ytjlmgoaglpkhoaa.pgm.chkI x = 0) (ho : x.1 = 20) : 0 ≤ x.2.1 ∧ x.2.1 ≤ 15 := by
  have := letter h ho form_20 (j := 0) (by decide) (c := 102) rfl (by decide)
  exact ⟨this.1, this.2⟩
/-- What an instruction lays. -/
theorem lays_small (n : Int) : 0 ≤ numb ly n ∧ numb ly n ≤ 2 := numb_small ly_small n
/-- Depths of which each that is told is kept by each step. -/
def Sound (fs : List Fn) (co : List De) (dp : List Int) : Prop :=
  dp.length = co.length ∧ dp.getD 0 (-1) = 0 ∧ ∀ a, a < co.length → 0 ≤ dp.getD a (-1) →
    0 ≤ behind fs (co.getD a zero) (dp.getD a (-1)) ∧ behind fs (co.getD a zero) (dp.getD a (-1)) ≤ 16 ∧
    ∀ t ∈ ways (co.getD a zero) a, t < co.length ∧ dp.getD t (-1) = behind fs (co.getD a zero) (dp.getD a (-1))

theorem lead_length {n : Nat} {d : Int} : ∀ (l : List Nat) (dp : List Int), (lead n d l dp).1.length = dp.length := by
  intro l
  induction l with
  | nil => intro dp; rfl
  | cons t l ih =>
    intro dp
    unfold lead
    split
    · rfl
    · split
      · rfl
      · rw [ih, List.length_set]
theorem getD_set {α : Type} {l : List α} {t : Nat} {x d : α} (i : Nat) : (l.set t x).getD i d = if t = i ∧ i < l.length then x else l.getD i d := by
  rw [List.getD_eq_getElem?_getD, List.getD_eq_getElem?_getD, List.getElem?_set]
  by_cases h : t = i
  · subst h
    by_cases h2 : t < l.length
    · simp [h2]
    · rw [if_pos rfl, if_neg h2, if_neg (by omega), List.getElem?_eq_none (by omega)]
  · rw [if_neg h, if_neg (fun e => h e.1)]
/-- What is known stays. -/
theorem lead_keeps {n : Nat} {d : Int} : ∀ (l : List Nat) (dp : List Int) (i : Nat), 0 ≤ dp.getD i (-1) → (lead n d l dp).1.getD i (-1) = dp.getD i (-1) := by
  intro l
  induction l with
  | nil => intro dp i h; rfl
  | cons t l ih =>
    intro dp i h
    unfold lead
    split
    · rfl
    · split
      · rfl
      · rename_i h1 h2
        have e : (dp.set t d).getD i (-1) = dp.getD i (-1) := by
          rw [getD_set]
          split
          · rename_i h3
            obtain ⟨rfl, _⟩ := h3
            by_cases h4 : dp.getD t (-1) = d
            · exact h4.symm
            · exact absurd ⟨h, h4⟩ h2
          · rfl
        rw [ih (dp.set t d) i (by rw [e]; exact h), e]
/-- Without an error each way is there, and has this depth. -/
theorem lead_fine {n : Nat} {d : Int} (hd : 0 ≤ d) : ∀ (l : List Nat) (dp : List Int), dp.length = n → (lead n d l dp).2 = 0 → ∀ t ∈ l, t < n ∧ (lead n d l dp).1.getD t (-1) = d := by
  intro l
  induction l with
  | nil => intro dp _ _ t ht; cases ht
  | cons s l ih =>
    intro dp hn h t ht
    unfold lead at h ⊢
    split at h
    · cases h
    · split at h
      · cases h
      · rename_i h1 h2
        rw [if_neg h1, if_neg h2]
        rcases List.mem_cons.1 ht with rfl | ht
        · have e : (dp.set t d).getD t (-1) = d := by rw [getD_set, if_pos ⟨rfl, by omega⟩]
          exact ⟨by omega, (lead_keeps l _ t (by rw [e]; exact hd)).trans e⟩
        · exact ih (dp.set s d) (by rw [List.length_set]; exact hn) h t ht
/-- Only what it leads to, at this depth, becomes known. -/
theorem lead_new {n : Nat} {d : Int} : ∀ (l : List Nat) (dp : List Int) (i : Nat), 0 ≤ (lead n d l dp).1.getD i (-1) → 0 ≤ dp.getD i (-1) ∨ (lead n d l dp).1.getD i (-1) = d := by
  intro l
  induction l with
  | nil => intro dp i h; exact .inl h
  | cons s l ih =>
    intro dp i h
    unfold lead at h ⊢
    split at h
    · exact .inl h
    · split at h
      · exact .inl h
      · rename_i h1 h2
        rw [if_neg h1, if_neg h2]
        rcases ih (dp.set s d) i h with h3 | h3
        · rw [getD_set] at h3
          by_cases hc : s = i ∧ i < dp.length
          · obtain ⟨rfl, hc⟩ := hc
            rw [if_pos ⟨rfl, hc⟩] at h3
            have e : (dp.set s d).getD s (-1) = d := by rw [getD_set, if_pos ⟨rfl, hc⟩]
            exact .inr ((lead_keeps l _ s (by rw [e]; exact h3)).trans e)
          · rw [if_neg hc] at h3
            exact .inl h3
        · exact .inr h3
theorem one_length (fs : List Fn) (co : List De) (dp : List Int) (a : Nat) : (one fs co dp a).1.length = dp.length := by
  unfold one
  split
  · rfl
  · split
    · rfl
    · exact lead_length _ _
theorem one_keeps (fs : List Fn) (co : List De) (dp : List Int) (a i : Nat) (h : 0 ≤ dp.getD i (-1)) : (one fs co dp a).1.getD i (-1) = dp.getD i (-1) := by
  unfold one
  split
  · rfl
  · split
    · rfl
    · exact lead_keeps _ _ _ h
theorem lead_rng {n : Nat} {d : Int} (h0 : 0 ≤ d) (h1 : d ≤ 16) : ∀ (l : List Nat) (dp : List Int), (∀ x ∈ dp, -1 ≤ x ∧ x ≤ 16) → ∀ x ∈ (lead n d l dp).1, -1 ≤ x ∧ x ≤ 16 := by
  intro l
  induction l with
  | nil => intro dp h; exact h
  | cons t l ih =>
    intro dp h
    unfold lead
    split
    · exact h
    · split
      · exact h
      · refine ih _ fun x hx => ?_
        rcases List.mem_or_eq_of_mem_set hx with hx | rfl
        · exact h x hx
        · omega
theorem one_rng (fs : List Fn) (co : List De) (dp : List Int) (a : Nat) (h : ∀ x ∈ dp, -1 ≤ x ∧ x ≤ 16) : ∀ x ∈ (one fs co dp a).1, -1 ≤ x ∧ x ≤ 16 := by
  unfold one
  split
  · exact h
  · split
    · exact h
    · exact lead_rng (by omega) (by omega) _ _ h
/-- What holds between any two rounds, while nothing is wrong: who has been looked at is sound. -/
structure Inv (fs : List Fn) (co : List De) (q : Q) : Prop where
  ld : q.dp.length = co.length
  ln : q.dn.length = co.length
  fl : q.first ≤ co.length
  zero : q.dp.getD 0 (-1) = 0
  rng : ∀ x ∈ q.dp, -1 ≤ x ∧ x ≤ 16
  known : ∀ a, q.dn.getD a true = true → a < co.length → 0 ≤ q.dp.getD a (-1)
  sound : q.bad = 0 → q.first = co.length ∧ ∀ a, a < co.length → q.dn.getD a true = true →
    0 ≤ behind fs (co.getD a Go.Proofs.Ytjlmgoaglpkhoaa.objs.zero) (q.dp.getD a (-1)) ∧ behind fs (co.getD a Go.Proofs.Ytjlmgoaglpkhoaa.objs.zero) (q.dp.getD a (-1)) ≤ 16 ∧
    ∀ t ∈ ways (co.getD a Go.Proofs.Ytjlmgoaglpkhoaa.objs.zero) a, t < co.length ∧ q.dp.getD t (-1) = behind fs (co.getD a Go.Proofs.Ytjlmgoaglpkhoaa.objs.zero) (q.dp.getD a (-1))
theorem pick_lt {dp : List Int} {dn : List Bool} {n : Nat} (h : pick dp dn n < n) : dn.getD (pick dp dn n) true = false ∧ 0 ≤ dp.getD (pick dp dn n) (-1) := by
  have hl : pick dp dn n < (List.range n).length := by rw [List.length_range]; exact h
  have h1 := List.findIdx_getElem (xs := List.range n) (p := fun i => !dn.getD i true && decide (0 ≤ dp.getD i (-1))) (w := hl)
  have e : (List.range n)[pick dp dn n]'hl = pick dp dn n := List.getElem_range _
  unfold pick at e ⊢
  rw [e] at h1
  simpa only [Bool.and_eq_true, Bool.not_eq_true', decide_eq_true_eq] using h1
theorem pick_none {dp : List Int} {dn : List Bool} {n : Nat} (h : ¬ pick dp dn n < n) : ∀ i, i < n → dn.getD i true = true ∨ dp.getD i (-1) < 0 := by
  intro i hi
  have h1 := List.not_of_lt_findIdx (xs := List.range n) (p := fun i => !dn.getD i true && decide (0 ≤ dp.getD i (-1))) (i := i) (by show i < pick dp dn n; omega)
  have e : (List.range n)[i]'(by rw [List.length_range]; exact hi) = i := List.getElem_range _
  rw [e] at h1
  cases hd : dn.getD i true with
  | true => exact .inl rfl
  | false =>
    right
    by_cases hp : 0 ≤ dp.getD i (-1)
    · rw [hd, decide_eq_true hp] at h1
      cases h1
    · omega
theorem dn_set {l : List Bool} {a i : Nat} (h : (l.set a true).getD i true = true) (hne : i ≠ a) : l.getD i true = true := by
  rw [getD_set, if_neg (fun e => hne e.1.symm)] at h
  exact h
theorem Inv.step {fs : List Fn} {co : List De} {q : Q} (h : Inv fs co q) {a : Nat} (ha : a < co.length) (h0 : 0 ≤ q.dp.getD a (-1)) : Inv fs co (stepQ fs co q a) := by
  have hk := one_keeps fs co q.dp a
  have hl := one_length fs co q.dp a
  have ez : (one fs co q.dp a).1.getD 0 (-1) = 0 := by rw [hk 0 (by rw [h.zero]; exact Int.le_refl 0)]; exact h.zero
  have er := one_rng fs co q.dp a h.rng
  have en : ∀ i, (q.dn.set a true).getD i true = true → i < co.length → 0 ≤ (one fs co q.dp a).1.getD i (-1) := by
    intro i hi hlt
    by_cases hne : i = a
    · subst hne; rw [hk i h0]; exact h0
    · have := h.known i (dn_set hi hne) hlt
      rw [hk i this]; exact this
  unfold stepQ
  by_cases hc : (one fs co q.dp a).2 ≠ 0 ∧ a < q.first
  · rw [if_pos hc]
    exact ⟨hl.trans h.ld, by simp [h.ln], Nat.le_of_lt ha, ez, er, en, fun hb => absurd hb hc.1⟩
  · rw [if_neg hc]
    refine ⟨hl.trans h.ld, by simp [h.ln], h.fl, ez, er, en, fun hb => ?_⟩
    obtain ⟨hf, hs⟩ := h.sound hb
    refine ⟨hf, fun i hi hd => ?_⟩
    have he : (one fs co q.dp a).2 = 0 := by
      by_cases e : (one fs co q.dp a).2 = 0
      · exact e
      · exact absurd ⟨e, by rw [hf]; exact ha⟩ hc
    by_cases hne : i = a
    · subst hne
      show 0 ≤ behind fs _ ((one fs co q.dp i).1.getD i (-1)) ∧ behind fs _ ((one fs co q.dp i).1.getD i (-1)) ≤ 16 ∧ ∀ t ∈ _, t < co.length ∧ (one fs co q.dp i).1.getD t (-1) = behind fs _ ((one fs co q.dp i).1.getD i (-1))
      rw [hk i h0]
      unfold one at he ⊢
      split at he
      · cases he
      · split at he
        · cases he
        · rename_i h1 h2
          rw [if_neg h1, if_neg h2]
          exact ⟨by omega, by omega, lead_fine (by omega) _ _ h.ld he⟩
    · have hd' := dn_set hd hne
      obtain ⟨s1, s2, s3⟩ := hs i hi hd'
      show 0 ≤ behind fs _ ((one fs co q.dp a).1.getD i (-1)) ∧ behind fs _ ((one fs co q.dp a).1.getD i (-1)) ≤ 16 ∧ ∀ t ∈ _, t < co.length ∧ (one fs co q.dp a).1.getD t (-1) = behind fs _ ((one fs co q.dp a).1.getD i (-1))
      rw [hk i (h.known i hd' hi)]
      refine ⟨s1, s2, fun t ht => ?_⟩
      obtain ⟨t1, t2⟩ := s3 t ht
      exact ⟨t1, by rw [hk t (by rw [t2]; exact s1)]; exact t2⟩
/-- How many have not been looked at. -/
def left (dn : List Bool) : Nat := dn.countP fun b => !b
theorem left_set : ∀ {l : List Bool} {a : Nat}, a < l.length → l.getD a true = false → left (l.set a true) + 1 = left l := by
  intro l
  induction l with
  | nil => intro a h; cases h
  | cons b l ih =>
    intro a h hb
    cases a with
    | zero =>
      have : b = false := hb
      subst this
      simp [left]
    | succ a =>
      have := ih (a := a) (by simpa using h) (by simpa using hb)
      unfold left at this ⊢
      rw [List.set_cons_succ, List.countP_cons, List.countP_cons]
      omega
theorem run_inv {fs : List Fn} {co : List De} : ∀ (j : Nat) (q : Q), Inv fs co q → left q.dn ≤ j → Inv fs co (runQ fs co j q) ∧ ¬ pick (runQ fs co j q).dp (runQ fs co j q).dn co.length < co.length := by
  intro j
  induction j with
  | zero =>
    intro q h hj
    refine ⟨h, fun hp => ?_⟩
    obtain ⟨h1, _⟩ := pick_lt hp
    have := left_set (l := q.dn) (a := pick q.dp q.dn co.length) (by rw [h.ln]; exact hp) h1
    omega
  | succ j ih =>
    intro q h hj
    unfold runQ
    by_cases hp : pick q.dp q.dn co.length < co.length
    · rw [if_pos hp]
      obtain ⟨h1, h2⟩ := pick_lt hp
      have hl := left_set (l := q.dn) (a := pick q.dp q.dn co.length) (by rw [h.ln]; exact hp) h1
      refine ih _ (h.step hp h2) ?_
      have : (stepQ fs co q (pick q.dp q.dn co.length)).dn = q.dn.set (pick q.dp q.dn co.length) true := by unfold stepQ; split <;> rfl
      rw [this]
      omega
    · rw [if_neg hp]
      exact ⟨h, hp⟩
theorem start_inv {fs : List Fn} {co : List De} (h : 0 < co.length) : Inv fs co (startQ co) := by
  have hf : ∀ a, a < co.length → (List.replicate co.length false).getD a true = false := fun a ha => by
    rw [List.getD_eq_getElem?_getD, List.getElem?_replicate, if_pos ha]; rfl
  refine ⟨by simp [startQ]; omega, by simp [startQ], Nat.le_refl _, rfl, fun x hx => ?_, fun a hd ha => ?_, fun _ => ⟨rfl, fun a ha hd => ?_⟩⟩
  · rcases List.mem_cons.1 hx with rfl | hx
    · omega
    · have := List.eq_of_mem_replicate hx
      omega
  · rw [show (startQ co).dn = List.replicate co.length false from rfl, hf a ha] at hd; cases hd
  · rw [show (startQ co).dn = List.replicate co.length false from rfl, hf a ha] at hd; cases hd
theorem left_start (co : List De) : left (startQ co).dn ≤ co.length := by
  have := List.countP_le_length (p := fun b => !b) (l := (startQ co).dn)
  simpa [startQ, left] using this
/-- Depths without an error are sound. -/
theorem depths_sound {fs : List Fn} {fn : Int} {dp : List Int} {a : Nat} (h : depths fs fn = (dp, a, 0)) : 0 ≤ fn ∧ fn < (fs.length : Int) ∧ 0 < (fs.getD fn.toNat Fn.zero).co.length ∧ Sound fs (fs.getD fn.toNat Fn.zero).co dp ∧ ∀ x ∈ dp, -1 ≤ x ∧ x ≤ 16 := by
  unfold depths at h
  split at h
  · cases h
  · rename_i h1
    dsimp only at h
    split at h
    · cases h
    · rename_i h2
      have hp : 0 < (fs.getD fn.toNat Fn.zero).co.length := by omega
      refine ⟨by omega, by omega, hp, ?_⟩
      obtain ⟨hi, hn⟩ := run_inv (fs := fs) _ _ (start_inv hp) (left_start _)
      split at h
      · rename_i h3
        injection h with _ h4
        injection h4 with _ h5
        exact absurd h5 h3
      · rename_i h3
        injection h with h4 _
        subst h4
        obtain ⟨_, hs⟩ := hi.sound (by omega)
        refine ⟨⟨hi.ld, hi.zero, fun b hb h0 => ?_⟩, hi.rng⟩
        rcases pick_none hn b hb with hd | hd
        · exact hs b hb hd
        · omega
/-- The greatest of a list that is not below 0. -/
def most (l : List Int) : Int := l.foldl max 0
theorem foldl_ge (l : List Int) : ∀ m : Int, m ≤ l.foldl max m ∧ ∀ x ∈ l, x ≤ l.foldl max m := by
  induction l with
  | nil => intro m; exact ⟨Int.le_refl m, fun x hx => by cases hx⟩
  | cons y l ih =>
    intro m
    obtain ⟨h1, h2⟩ := ih (max m y)
    refine ⟨by simp only [List.foldl_cons]; omega, fun x hx => ?_⟩
    simp only [List.foldl_cons]
    rcases List.mem_cons.1 hx with rfl | hx
    · omega
    · exact h2 x hx
theorem most_ge (l : List Int) : ∀ x ∈ l, x ≤ most l := (foldl_ge l 0).2
theorem most_zero (l : List Int) : 0 ≤ most l := (foldl_ge l 0).1
theorem foldl_in (l : List Int) : ∀ m : Int, l.foldl max m = m ∨ l.foldl max m ∈ l := by
  induction l with
  | nil => intro m; exact .inl rfl
  | cons y l ih =>
    intro m
    simp only [List.foldl_cons, List.mem_cons]
    rcases ih (max m y) with h | h
    · rw [h]
      by_cases hc : m ≤ y
      · right; left; omega
      · left; omega
    · exact .inr (.inr h)
theorem most_in (l : List Int) : most l = 0 ∨ most l ∈ l := foldl_in l 0
end Go.Proofs.Ytjlmgoaglpkhoaa.pgm.dep
