/-
  Texts of one claim in one file: HPlain, VPlain, BPlain. Each has its own sentence, with its conditions.
-/
import Derived.Test.YtbekfjjajggffaaDoorVall10
import Derived.Test.YtbekfjjajggffaaDoorVall1
import Derived.Laws.BitsAllLaws
/-
  How many values stand on the stack ahead of each instruction of a function, and what is wrong first: plain mathematics of lists; and that depths without an error are kept by every step. No condition.
-/
namespace Go.Proofs.YtbekfjjajggffaaDoor.pgm.dep
open Go.Proofs.YtbekfjjajggffaaDoor.pgm
open Go.Proofs.YtbekfjjajggffaaDoor.objs (De zero)
open Go.Proofs.YtbekfjjajggffaaDoor.oper (pops numb ly)
set_option linter.unusedVariables false

/-- How many arguments an instruction's function has; 0: there is no such function, or it is no call. -/
def argsOf (fs : List Fn) (x : De) : Int := if x.1 = 20 ∧ x.2.1 < (fs.length : Int) then (fs.getD x.2.1.toNat Fn.zero).ar else 0
/-- The depth behind an instruction; below 0: it takes more than there is. -/
def behind (fs : List Fn) (x : De) (d : Int) : Int := if d - pops x.1 x.2.2 (argsOf fs x) < 0 then -1 else d - pops x.1 x.2.2 (argsOf fs x) + numb ly x.1
/-- Where an instruction leads. -/
def ways (x : De) (a : Nat) : List Nat := (if x.1 ≠ 18 ∧ x.1 ≠ 21 then [a + 1] else []) ++ (if x.1 = 18 ∨ x.1 = 19 then [x.2.1.toNat] else [])
/-- Depths, way by way. -/
def lead (n : Nat) (d : Int) : List Nat → List Int → List Int × Nat
  | [], dp => (dp, 0)
  | t :: l, dp => if n ≤ t then (dp, 3) else if 0 ≤ dp.getD t (-1) ∧ dp.getD t (-1) ≠ d then (dp, 2) else lead n d l (dp.set t d)
/-- What is wrong with one instruction, and the depths behind it. -/
def one (fs : List Fn) (co : List De) (dp : List Int) (a : Nat) : List Int × Nat :=
  if behind fs (co.getD a zero) (dp.getD a (-1)) < 0 then (dp, 2)
  else if 16 < behind fs (co.getD a zero) (dp.getD a (-1)) then (dp, 4)
  else lead co.length (behind fs (co.getD a zero) (dp.getD a (-1))) (ways (co.getD a zero) a) dp
/-- Which one is looked at next; how many there are: none. -/
def pick (dp : List Int) (dn : List Bool) (n : Nat) : Nat := (List.range n).findIdx fun i => !dn.getD i true && decide (0 ≤ dp.getD i (-1))
structure Q where
  dp : List Int
  dn : List Bool
  first : Nat
  bad : Nat
/-- One is looked at. -/
def stepQ (fs : List Fn) (co : List De) (q : Q) (a : Nat) : Q :=
  if (one fs co q.dp a).2 ≠ 0 ∧ a < q.first then ⟨(one fs co q.dp a).1, q.dn.set a true, a, (one fs co q.dp a).2⟩ else ⟨(one fs co q.dp a).1, q.dn.set a true, q.first, q.bad⟩
/-- The first j of them are looked at. -/
def runQ (fs : List Fn) (co : List De) : Nat → Q → Q
  | 0, q => q
  | j + 1, q => if pick q.dp q.dn co.length < co.length then runQ fs co j (stepQ fs co q (pick q.dp q.dn co.length)) else q
def startQ (co : List De) : Q := ⟨0 :: List.replicate (co.length - 1) (-1), List.replicate co.length false, co.length, 0⟩
/-- The depths of a function, or the place and the error of what is wrong. -/
def depths (fs : List Fn) (fn : Int) : List Int × Nat × Nat :=
  if fn < 0 ∨ (fs.length : Int) ≤ fn then ([], 0, 19)
  else
    let co := (fs.getD fn.toNat Fn.zero).co
    if co.length = 0 then ([], 0, 3)
    else if (runQ fs co co.length (startQ co)).bad ≠ 0 then ([], (runQ fs co co.length (startQ co)).first, (runQ fs co co.length (startQ co)).bad)
    else ((runQ fs co co.length (startQ co)).dp, 0, 0)

theorem tk_small : ∀ k, k < 52 → 0 ≤ Go.Proofs.YtbekfjjajggffaaDoor.oper.tk.getD k 0 ∧ Go.Proofs.YtbekfjjajggffaaDoor.oper.tk.getD k 0 ≤ 2 := by decide +kernel
theorem ly_small : ∀ k, k < 52 → 0 ≤ ly.getD k 0 ∧ ly.getD k 0 ≤ 2 := by decide +kernel
theorem numb_small {l : List Int} (hl : ∀ k, k < 52 → 0 ≤ l.getD k 0 ∧ l.getD k 0 ≤ 2) (n : Int) : 0 ≤ numb l n ∧ numb l n ≤ 2 := by
  unfold numb
  by_cases h : 0 ≤ n ∧ n ≤ 51
  · rw [if_pos h]; exact hl _ (by omega)
  · rw [if_neg h]; omega
/-- An operand of an instruction that may be is in the range of its letter. -/
theorem letter {x : De} (h : Go.Proofs.YtbekfjjajggffaaDoor.pgm.chkI x = 0) {o : Int} {f : List UInt8} {c : UInt8} {j : Nat} (ho : x.1 = o) (hf : Go.Proofs.YtbekfjjajggffaaDoor.inst.form o = f) (hj : j < f.length) (hc : f.getD j 0 = c) (hn : c ≠ 110) :
    Go.Proofs.YtbekfjjajggffaaDoor.inst.least c ≤ Go.Proofs.YtbekfjjajggffaaDoor.inst.opd x.2.1 x.2.2 j ∧ Go.Proofs.YtbekfjjajggffaaDoor.inst.opd x.2.1 x.2.2 j ≤ Go.Proofs.YtbekfjjajggffaaDoor.inst.most c := by
  obtain ⟨_, h2⟩ := Go.Proofs.YtbekfjjajggffaaDoor.inst.chk_zero h
  rw [ho, hf] at h2
  have h3 := (Go.Proofs.YtbekfjjajggffaaDoor.inst.chkF_zero h2).1 j hj
  unfold Go.Proofs.YtbekfjjajggffaaDoor.inst.okAt Go.Proofs.YtbekfjjajggffaaDoor.inst.fitsB at h3
  rw [hc, if_neg hn] at h3
  exact of_decide_eq_true h3
theorem second : ∀ k, k < 52 → 1 < (Go.Proofs.YtbekfjjajggffaaDoor.oper.fm.getD k ⟨#[]⟩).data.toList.length → (Go.Proofs.YtbekfjjajggffaaDoor.oper.fm.getD k ⟨#[]⟩).data.toList.getD 1 0 = 109 ∨ (Go.Proofs.YtbekfjjajggffaaDoor.oper.fm.getD k ⟨#[]⟩).data.toList.getD 1 0 = 106 := by decide +kernel
/-- The second operand of an instruction that may be. -/
theorem b_small {x : De} (h : Go.Proofs.YtbekfjjajggffaaDoor.pgm.chkI x = 0) : 0 ≤ x.2.2 ∧ x.2.2 ≤ 31 := by
  obtain ⟨hk, h2⟩ := Go.Proofs.YtbekfjjajggffaaDoor.inst.chk_zero h
  obtain ⟨k, hk1, hk2⟩ := Go.Proofs.YtbekfjjajggffaaDoor.oper.nat_of hk
  have hF : Go.Proofs.YtbekfjjajggffaaDoor.inst.form x.1 = (Go.Proofs.YtbekfjjajggffaaDoor.oper.fm.getD k ⟨#[]⟩).data.toList := by
    unfold Go.Proofs.YtbekfjjajggffaaDoor.inst.form
    rw [hk2, Go.Proofs.YtbekfjjajggffaaDoor.oper.txt_at hk1]
  rcases Nat.lt_or_ge 1 (Go.Proofs.YtbekfjjajggffaaDoor.oper.fm.getD k ⟨#[]⟩).data.toList.length with hl | hl
  · rcases second k hk1 hl with hc | hc
    · have := letter h rfl hF (j := 1) hl hc (by decide)
      exact ⟨this.1, this.2⟩
    · have := letter h rfl hF (j := 1) hl hc (by decide)
      have e1 : Go.Proofs.YtbekfjjajggffaaDoor.inst.least 106 = 1 := rfl
      have e2 : Go.Proofs.YtbekfjjajggffaaDoor.inst.most 106 = 4 := rfl
      have e3 : Go.Proofs.YtbekfjjajggffaaDoor.inst.opd x.2.1 x.2.2 1 = x.2.2 := rfl
      omega
  · have h3 := (Go.Proofs.YtbekfjjajggffaaDoor.inst.chkF_zero h2).2.2 1 (by rw [hF]; exact hl) (by decide)
    have e3 : Go.Proofs.YtbekfjjajggffaaDoor.inst.opd x.2.1 x.2.2 1 = x.2.2 := rfl
    omega
theorem form_41 : Go.Proofs.YtbekfjjajggffaaDoor.inst.form 41 = [106, 106] := by decide +kernel
theorem form_42 : Go.Proofs.YtbekfjjajggffaaDoor.inst.form 42 = [106, 106] := by decide +kernel
theorem form_18 : Go.Proofs.YtbekfjjajggffaaDoor.inst.form 18 = [116] := by decide +kernel
theorem form_19 : Go.Proofs.YtbekfjjajggffaaDoor.inst.form 19 = [116] := by decide +kernel
theorem form_20 : Go.Proofs.YtbekfjjajggffaaDoor.inst.form 20 = [102] := by decide +kernel
theorem args_small {fs : List Fn} (hf : ∀ f ∈ fs, 0 ≤ f.ar ∧ f.ar ≤ 8) (x : De) : 0 ≤ argsOf fs x ∧ argsOf fs x ≤ 8 := by
  unfold argsOf
  split
  · rename_i h
    rcases Nat.lt_or_ge x.2.1.toNat fs.length with hl | hl
    · exact hf _ (Go.Proofs.YtbekfjjajggffaaDoor.pgm.getD_in hl)
    · rw [List.getD_eq_getElem?_getD, List.getElem?_eq_none hl]
      decide
  · omega
/-- What an instruction that may be takes is little. -/
theorem pops_small {fs : List Fn} (hf : ∀ f ∈ fs, 0 ≤ f.ar ∧ f.ar ≤ 8) {x : De} (h : Go.Proofs.YtbekfjjajggffaaDoor.pgm.chkI x = 0) : 0 ≤ pops x.1 x.2.2 (argsOf fs x) ∧ pops x.1 x.2.2 (argsOf fs x) ≤ 8 := by
  have ha := args_small hf x
  unfold pops
  split
  · exact ha
  · split
    · rename_i h1
      have := letter h h1 form_41 (j := 1) (by decide) (c := 106) rfl (by decide)
      exact ⟨Int.le_trans (by decide) this.1, Int.le_trans this.2 (by decide)⟩
    · split
      · rename_i h1
        have := letter h h1 form_42 (j := 1) (by decide) (c := 106) rfl (by decide)
        have e1 : Go.Proofs.YtbekfjjajggffaaDoor.inst.least 106 = 1 := rfl
        have e2 : Go.Proofs.YtbekfjjajggffaaDoor.inst.most 106 = 4 := rfl
        have e3 : Go.Proofs.YtbekfjjajggffaaDoor.inst.opd x.2.1 x.2.2 1 = x.2.2 := rfl
        omega
      · have := numb_small tk_small x.1
        omega
/-- The place that a jump or a zero names. -/
theorem place_small {x : De} (h : Go.Proofs.YtbekfjjajggffaaDoor.pgm.chkI x = 0) (ho : x.1 = 18 ∨ x.1 = 19) : 0 ≤ x.2.1 ∧ x.2.1 ≤ 199 := by
  rcases ho with h1 | h1
  · have := letter h h1 form_18 (j := 0) (by decide) (c := 116) rfl (by decide)
    exact ⟨this.1, this.2⟩
  · have := letter h h1 form_19 (j := 0) (by decide) (c := 116) rfl (by decide)
    exact ⟨this.1, this.2⟩
theorem func_small {x : De} (h : Go.Proofs.YtbekfjjajggffaaDoor.pgm.chkI x = 0) (ho : x.1 = 20) : 0 ≤ x.2.1 ∧ x.2.1 ≤ 15 := by
  have := letter h ho form_20 (j := 0) (by decide) (c := 102) rfl (by decide)
  exact ⟨this.1, this.2⟩
/-- What an instruction lays. -/
theorem lays_small (n : Int) : 0 ≤ numb ly n ∧ numb ly n ≤ 2 := numb_small ly_small n
/-- Depths of which each that is told is kept by each step. -/
def Sound (fs : List Fn) (co : List De) (dp : List Int) : Prop :=
  dp.length = co.length ∧ dp.getD 0 (-1) = 0 ∧ ∀ a, a < co.length → 0 ≤ dp.getD a (-1) →
    0 ≤ behind fs (co.getD a zero) (dp.getD a (-1)) ∧ behind fs (co.getD a zero) (dp.getD a (-1)) ≤ 16 ∧
    ∀ t ∈ ways (co.getD a zero) a, t < co.length ∧ dp.getD t (-1) = behind fs (co.getD a zero) (dp.getD a (-1))

theorem lead_length {n : Nat} {d : Int} : ∀ (l : List Nat) (dp : List Int), (lead n d l dp).1.length = dp.length := by
  intro l
  induction l with
  | nil => intro dp; rfl
  | cons t l ih =>
    intro dp
    unfold lead
    split
    · rfl
    · split
      · rfl
      · rw [ih, List.length_set]
theorem getD_set {α : Type} {l : List α} {t : Nat} {x d : α} (i : Nat) : (l.set t x).getD i d = if t = i ∧ i < l.length then x else l.getD i d := by
  rw [List.getD_eq_getElem?_getD, List.getD_eq_getElem?_getD, List.getElem?_set]
  by_cases h : t = i
  · subst h
    by_cases h2 : t < l.length
    · simp [h2]
    · rw [if_pos rfl, if_neg h2, if_neg (by omega), List.getElem?_eq_none (by omega)]
  · rw [if_neg h, if_neg (fun e => h e.1)]
/-- What is known stays. -/
theorem lead_keeps {n : Nat} {d : Int} : ∀ (l : List Nat) (dp : List Int) (i : Nat), 0 ≤ dp.getD i (-1) → (lead n d l dp).1.getD i (-1) = dp.getD i (-1) := by
  intro l
  induction l with
  | nil => intro dp i h; rfl
  | cons t l ih =>
    intro dp i h
    unfold lead
    split
    · rfl
    · split
      · rfl
      · rename_i h1 h2
        have e : (dp.set t d).getD i (-1) = dp.getD i (-1) := by
          rw [getD_set]
          split
          · rename_i h3
            obtain ⟨rfl, _⟩ := h3
            by_cases h4 : dp.getD t (-1) = d
            · exact h4.symm
            · exact absurd ⟨h, h4⟩ h2
          · rfl
        rw [ih (dp.set t d) i (by rw [e]; exact h), e]
/-- Without an error each way is there, and has this depth. -/
theorem lead_fine {n : Nat} {d : Int} (hd : 0 ≤ d) : ∀ (l : List Nat) (dp : List Int), dp.length = n → (lead n d l dp).2 = 0 → ∀ t ∈ l, t < n ∧ (lead n d l dp).1.getD t (-1) = d := by
  intro l
  induction l with
  | nil => intro dp _ _ t ht; cases ht
  | cons s l ih =>
    intro dp hn h t ht
    unfold lead at h ⊢
    split at h
    · cases h
    · split at h
      · cases h
      · rename_i h1 h2
        rw [if_neg h1, if_neg h2]
        rcases List.mem_cons.1 ht with rfl | ht
        · have e : (dp.set t d).getD t (-1) = d := by rw [getD_set, if_pos ⟨rfl, by omega⟩]
          exact ⟨by omega, (lead_keeps l _ t (by rw [e]; exact hd)).trans e⟩
        · exact ih (dp.set s d) (by rw [List.length_set]; exact hn) h t ht
/-- Only what it leads to, at this depth, becomes known. -/
theorem lead_new {n : Nat} {d : Int} : ∀ (l : List Nat) (dp : List Int) (i : Nat), 0 ≤ (lead n d l dp).1.getD i (-1) → 0 ≤ dp.getD i (-1) ∨ (lead n d l dp).1.getD i (-1) = d := by
  intro l
  induction l with
  | nil => intro dp i h; exact .inl h
  | cons s l ih =>
    intro dp i h
    unfold lead at h ⊢
    split at h
    · exact .inl h
    · split at h
      · exact .inl h
      · rename_i h1 h2
        rw [if_neg h1, if_neg h2]
        rcases ih (dp.set s d) i h with h3 | h3
        · rw [getD_set] at h3
          by_cases hc : s = i ∧ i < dp.length
          · obtain ⟨rfl, hc⟩ := hc
            rw [if_pos ⟨rfl, hc⟩] at h3
            have e : (dp.set s d).getD s (-1) = d := by rw [getD_set, if_pos ⟨rfl, hc⟩]
            exact .inr ((lead_keeps l _ s (by rw [e]; exact h3)).trans e)
          · rw [if_neg hc] at h3
            exact .inl h3
        · exact .inr h3
theorem one_length (fs : List Fn) (co : List De) (dp : List Int) (a : Nat) : (one fs co dp a).1.length = dp.length := by
  unfold one
  split
  · rfl
  · split
    · rfl
    · exact lead_length _ _
theorem one_keeps (fs : List Fn) (co : List De) (dp : List Int) (a i : Nat) (h : 0 ≤ dp.getD i (-1)) : (one fs co dp a).1.getD i (-1) = dp.getD i (-1) := by
  unfold one
  split
  · rfl
  · split
    · rfl
    · exact lead_keeps _ _ _ h
theorem lead_rng {n : Nat} {d : Int} (h0 : 0 ≤ d) (h1 : d ≤ 16) : ∀ (l : List Nat) (dp : List Int), (∀ x ∈ dp, -1 ≤ x ∧ x ≤ 16) → ∀ x ∈ (lead n d l dp).1, -1 ≤ x ∧ x ≤ 16 := by
  intro l
  induction l with
  | nil => intro dp h; exact h
  | cons t l ih =>
    intro dp h
    unfold lead
    split
    · exact h
    · split
      · exact h
      · refine ih _ fun x hx => ?_
        rcases List.mem_or_eq_of_mem_set hx with hx | rfl
        · exact h x hx
        · omega
theorem one_rng (fs : List Fn) (co : List De) (dp : List Int) (a : Nat) (h : ∀ x ∈ dp, -1 ≤ x ∧ x ≤ 16) : ∀ x ∈ (one fs co dp a).1, -1 ≤ x ∧ x ≤ 16 := by
  unfold one
  split
  · exact h
  · split
    · exact h
    · exact lead_rng (by omega) (by omega) _ _ h
/-- What holds between any two rounds, while nothing is wrong: who has been looked at is sound. -/
structure Inv (fs : List Fn) (co : List De) (q : Q) : Prop where
  ld : q.dp.length = co.length
  ln : q.dn.length = co.length
  fl : q.first ≤ co.length
  zero : q.dp.getD 0 (-1) = 0
  rng : ∀ x ∈ q.dp, -1 ≤ x ∧ x ≤ 16
  known : ∀ a, q.dn.getD a true = true → a < co.length → 0 ≤ q.dp.getD a (-1)
  sound : q.bad = 0 → q.first = co.length ∧ ∀ a, a < co.length → q.dn.getD a true = true →
    0 ≤ behind fs (co.getD a Go.Proofs.YtbekfjjajggffaaDoor.objs.zero) (q.dp.getD a (-1)) ∧ behind fs (co.getD a Go.Proofs.YtbekfjjajggffaaDoor.objs.zero) (q.dp.getD a (-1)) ≤ 16 ∧
    ∀ t ∈ ways (co.getD a Go.Proofs.YtbekfjjajggffaaDoor.objs.zero) a, t < co.length ∧ q.dp.getD t (-1) = behind fs (co.getD a Go.Proofs.YtbekfjjajggffaaDoor.objs.zero) (q.dp.getD a (-1))
theorem pick_lt {dp : List Int} {dn : List Bool} {n : Nat} (h : pick dp dn n < n) : dn.getD (pick dp dn n) true = false ∧ 0 ≤ dp.getD (pick dp dn n) (-1) := by
  have hl : pick dp dn n < (List.range n).length := by rw [List.length_range]; exact h
  have h1 := List.findIdx_getElem (xs := List.range n) (p := fun i => !dn.getD i true && decide (0 ≤ dp.getD i (-1))) (w := hl)
  have e : (List.range n)[pick dp dn n]'hl = pick dp dn n := List.getElem_range _
  unfold pick at e ⊢
  rw [e] at h1
  simpa only [Bool.and_eq_true, Bool.not_eq_true', decide_eq_true_eq] using h1
theorem pick_none {dp : List Int} {dn : List Bool} {n : Nat} (h : ¬ pick dp dn n < n) : ∀ i, i < n → dn.getD i true = true ∨ dp.getD i (-1) < 0 := by
  intro i hi
  have h1 := List.not_of_lt_findIdx (xs := List.range n) (p := fun i => !dn.getD i true && decide (0 ≤ dp.getD i (-1))) (i := i) (by show i < pick dp dn n; omega)
  have e : (List.range n)[i]'(by rw [List.length_range]; exact hi) = i := List.getElem_range _
  rw [e] at h1
  cases hd : dn.getD i true with
  | true => exact .inl rfl
  | false =>
    right
    by_cases hp : 0 ≤ dp.getD i (-1)
    · rw [hd, decide_eq_true hp] at h1
      cases h1
    · omega
theorem dn_set {l : List Bool} {a i : Nat} (h : (l.set a true).getD i true = true) (hne : i ≠ a) : l.getD i true = true := by
  rw [getD_set, if_neg (fun e => hne e.1.symm)] at h
  exact h
theorem Inv.step {fs : List Fn} {co : List De} {q : Q} (h : Inv fs co q) {a : Nat} (ha : a < co.length) (h0 : 0 ≤ q.dp.getD a (-1)) : Inv fs co (stepQ fs co q a) := by
  have hk := one_keeps fs co q.dp a
  have hl := one_length fs co q.dp a
  have ez : (one fs co q.dp a).1.getD 0 (-1) = 0 := by rw [hk 0 (by rw [h.zero]; exact Int.le_refl 0)]; exact h.zero
  have er := one_rng fs co q.dp a h.rng
  have en : ∀ i, (q.dn.set a true).getD i true = true → i < co.length → 0 ≤ (one fs co q.dp a).1.getD i (-1) := by
    intro i hi hlt
    by_cases hne : i = a
    · subst hne; rw [hk i h0]; exact h0
    · have := h.known i (dn_set hi hne) hlt
      rw [hk i this]; exact this
  unfold stepQ
  by_cases hc : (one fs co q.dp a).2 ≠ 0 ∧ a < q.first
  · rw [if_pos hc]
    exact ⟨hl.trans h.ld, by simp [h.ln], Nat.le_of_lt ha, ez, er, en, fun hb => absurd hb hc.1⟩
  · rw [if_neg hc]
    refine ⟨hl.trans h.ld, by simp [h.ln], h.fl, ez, er, en, fun hb => ?_⟩
    obtain ⟨hf, hs⟩ := h.sound hb
    refine ⟨hf, fun i hi hd => ?_⟩
    have he : (one fs co q.dp a).2 = 0 := by
      by_cases e : (one fs co q.dp a).2 = 0
      · exact e
      · exact absurd ⟨e, by rw [hf]; exact ha⟩ hc
    by_cases hne : i = a
    · subst hne
      show 0 ≤ behind fs _ ((one fs co q.dp i).1.getD i (-1)) ∧ behind fs _ ((one fs co q.dp i).1.getD i (-1)) ≤ 16 ∧ ∀ t ∈ _, t < co.length ∧ (one fs co q.dp i).1.getD t (-1) = behind fs _ ((one fs co q.dp i).1.getD i (-1))
      rw [hk i h0]
      unfold one at he ⊢
      split at he
      · cases he
      · split at he
        · cases he
        · rename_i h1 h2
          rw [if_neg h1, if_neg h2]
          exact ⟨by omega, by omega, lead_fine (by omega) _ _ h.ld he⟩
    · have hd' := dn_set hd hne
      obtain ⟨s1, s2, s3⟩ := hs i hi hd'
      show 0 ≤ behind fs _ ((one fs co q.dp a).1.getD i (-1)) ∧ behind fs _ ((one fs co q.dp a).1.getD i (-1)) ≤ 16 ∧ ∀ t ∈ _, t < co.length ∧ (one fs co q.dp a).1.getD t (-1) = behind fs _ ((one fs co q.dp a).1.getD i (-1))
      rw [hk i (h.known i hd' hi)]
      refine ⟨s1, s2, fun t ht => ?_⟩
      obtain ⟨t1, t2⟩ := s3 t ht
      exact ⟨t1, by rw [hk t (by rw [t2]; exact s1)]; exact t2⟩
/-- How many have not been looked at. -/
def left (dn : List Bool) : Nat := dn.countP fun b => !b
theorem left_set : ∀ {l : List Bool} {a : Nat}, a < l.length → l.getD a true = false → left (l.set a true) + 1 = left l := by
  intro l
  induction l with
  | nil => intro a h; cases h
  | cons b l ih =>
    intro a h hb
    cases a with
    | zero =>
      have : b = false := hb
      subst this
      simp [left]
    | succ a =>
      have := ih (a := a) (by simpa using h) (by simpa using hb)
      unfold left at this ⊢
      rw [List.set_cons_succ, List.countP_cons, List.countP_cons]
      omega
theorem run_inv {fs : List Fn} {co : List De} : ∀ (j : Nat) (q : Q), Inv fs co q → left q.dn ≤ j → Inv fs co (runQ fs co j q) ∧ ¬ pick (runQ fs co j q).dp (runQ fs co j q).dn co.length < co.length := by
  intro j
  induction j with
  | zero =>
    intro q h hj
    refine ⟨h, fun hp => ?_⟩
    obtain ⟨h1, _⟩ := pick_lt hp
    have := left_set (l := q.dn) (a := pick q.dp q.dn co.length) (by rw [h.ln]; exact hp) h1
    omega
  | succ j ih =>
    intro q h hj
    unfold runQ
    by_cases hp : pick q.dp q.dn co.length < co.length
    · rw [if_pos hp]
      obtain ⟨h1, h2⟩ := pick_lt hp
      have hl := left_set (l := q.dn) (a := pick q.dp q.dn co.length) (by rw [h.ln]; exact hp) h1
      refine ih _ (h.step hp h2) ?_
      have : (stepQ fs co q (pick q.dp q.dn co.length)).dn = q.dn.set (pick q.dp q.dn co.length) true := by unfold stepQ; split <;> rfl
      rw [this]
      omega
    · rw [if_neg hp]
      exact ⟨h, hp⟩
theorem start_inv {fs : List Fn} {co : List De} (h : 0 < co.length) : Inv fs co (startQ co) := by
  have hf : ∀ a, a < co.length → (List.replicate co.length false).getD a true = false := fun a ha => by
    rw [List.getD_eq_getElem?_getD, List.getElem?_replicate, if_pos ha]; rfl
  refine ⟨by simp [startQ]; omega, by simp [startQ], Nat.le_refl _, rfl, fun x hx => ?_, fun a hd ha => ?_, fun _ => ⟨rfl, fun a ha hd => ?_⟩⟩
  · rcases List.mem_cons.1 hx with rfl | hx
    · omega
    · have := List.eq_of_mem_replicate hx
      omega
  · rw [show (startQ co).dn = List.replicate co.length false from rfl, hf a ha] at hd; cases hd
  · rw [show (startQ co).dn = List.replicate co.length false from rfl, hf a ha] at hd; cases hd
theorem left_start (co : List De) : left (startQ co).dn ≤ co.length := by
  have := List.countP_le_length (p := fun b => !b) (l := (startQ co).dn)
  simpa [startQ, left] using this
/-- Depths without an error are sound. -/
theorem depths_sound {fs : List Fn} {fn : Int} {dp : List Int} {a : Nat} (h : depths fs fn = (dp, a, 0)) : 0 ≤ fn ∧ fn < (fs.length : Int) ∧ 0 < (fs.getD fn.toNat Fn.zero).co.length ∧ Sound fs (fs.getD fn.toNat Fn.zero).co dp ∧ ∀ x ∈ dp, -1 ≤ x ∧ x ≤ 16 := by
  unfold depths at h
  split at h
  · cases h
  · rename_i h1
    dsimp only at h
    split at h
    · cases h
    · rename_i h2
      have hp : 0 < (fs.getD fn.toNat Fn.zero).co.length := by omega
      refine ⟨by omega, by omega, hp, ?_⟩
      obtain ⟨hi, hn⟩ := run_inv (fs := fs) _ _ (start_inv hp) (left_start _)
      split at h
      · rename_i h3
        injection h with _ h4
        injection h4 with _ h5
        exact absurd h5 h3
      · rename_i h3
        injection h with h4 _
        subst h4
        obtain ⟨_, hs⟩ := hi.sound (by omega)
        refine ⟨⟨hi.ld, hi.zero, fun b hb h0 => ?_⟩, hi.rng⟩
        rcases pick_none hn b hb with hd | hd
        · exact hs b hb hd
        · omega
/-- The greatest of a list that is not below 0. -/
def most (l : List Int) : Int := l.foldl max 0
theorem foldl_ge (l : List Int) : ∀ m : Int, m ≤ l.foldl max m ∧ ∀ x ∈ l, x ≤ l.foldl max m := by
  induction l with
  | nil => intro m; exact ⟨Int.le_refl m, fun x hx => by cases hx⟩
  | cons y l ih =>
    intro m
    obtain ⟨h1, h2⟩ := ih (max m y)
    refine ⟨by simp only [List.foldl_cons]; omega, fun x hx => ?_⟩
    simp only [List.foldl_cons]
    rcases List.mem_cons.1 hx with rfl | hx
    · omega
    · exact h2 x hx
theorem most_ge (l : List Int) : ∀ x ∈ l, x ≤ most l := (foldl_ge l 0).2
theorem most_zero (l : List Int) : 0 ≤ most l := (foldl_ge l 0).1
theorem foldl_in (l : List Int) : ∀ m : Int, l.foldl max m = m ∨ l.foldl max m ∈ l := by
  induction l with
  | nil => intro m; exact .inl rfl
  | cons y l ih =>
    intro m
    simp only [List.foldl_cons, List.mem_cons]
    rcases ih (max m y) with h | h
    · rw [h]
      by_cases hc : m ≤ y
      · right; left; omega
      · left; omega
    · exact .inr (.inr h)
theorem most_in (l : List Int) : most l = 0 ∨ most l ∈ l := foldl_in l 0
end Go.Proofs.YtbekfjjajggffaaDoor.pgm.dep

/-
  Which programs may run: what is wrong first, and where; which functions one reaches by call, and which objects these name: plain mathematics of lists. No condition.
-/
namespace Go.Proofs.YtbekfjjajggffaaDoor.pgm.ver
open Go.Proofs.YtbekfjjajggffaaDoor.pgm
open Go.Proofs.YtbekfjjajggffaaDoor.pgm.dep (depths)
open Go.Proofs.YtbekfjjajggffaaDoor.objs (De zero fits kindsOf)
open Go.Proofs.YtbekfjjajggffaaDoor.inst (form opd)
set_option linter.unusedVariables false

/-- Does a letter stand for an object? -/
def objV (c : UInt8) : Bool := decide (c ≠ 110 ∧ c ≠ 107 ∧ c ≠ 116 ∧ c ≠ 102 ∧ c ≠ 119 ∧ c ≠ 106)
/-- What is wrong with an operand. -/
def opV (p : Pg) (f : Fn) (o : Int) (c : UInt8) (n : Int) : Nat :=
  if (c = 107 ∧ f.lo ≤ n) ∨ (c = 116 ∧ (f.co.length : Int) ≤ n) ∨ (c = 119 ∧ (p.ws.length : Int) ≤ n) then 1
  else if c = 102 ∧ ((p.fs.length : Int) ≤ n ∨ (o = 40 ∧ (p.fs.getD n.toNat Fn.zero).ar ≠ 1)) then 1
  else if objV c = true ∧ fits p.ds c n = false then 6 else 0
/-- Letter by letter. -/
def letV (p : Pg) (f : Fn) (x : De) : List UInt8 → Nat → Nat
  | [], _ => 0
  | c :: l, k => if opV p f x.1 c (opd x.2.1 x.2.2 k) ≠ 0 then opV p f x.1 c (opd x.2.1 x.2.2 k) else letV p f x l (k + 1)
/-- What is wrong with an instruction's operands. -/
def insV (p : Pg) (f : Fn) (x : De) : Nat := letV p f x (form x.1) 0
/-- Instruction by instruction: where, and what. -/
def codeV (p : Pg) (f : Fn) : List De → Nat → Nat × Nat
  | [], i => (i, 0)
  | x :: l, i => if insV p f x ≠ 0 then (i, insV p f x) else codeV p f l (i + 1)
/-- What is wrong with a function, and where. -/
def funV (p : Pg) (fn : Nat) : Nat × Nat :=
  if (codeV p (p.fs.getD fn Fn.zero) (p.fs.getD fn Fn.zero).co 0).2 ≠ 0 then codeV p (p.fs.getD fn Fn.zero) (p.fs.getD fn Fn.zero).co 0
  else ((depths p.fs (fn : Int)).2.1, (depths p.fs (fn : Int)).2.2)
/-- Function by function: of k of them, from one on. -/
def funsV (p : Pg) : Nat → Nat → Nat × Nat × Nat
  | 0, _ => (0, 0, 0)
  | k + 1, fn => if (funV p fn).2 ≠ 0 then (fn, (funV p fn).1, (funV p fn).2) else funsV p k (fn + 1)
/-- What is wrong with a program, and where. -/
def progV (p : Pg) : Nat × Nat × Nat :=
  if chkP p ≠ 0 then (0, 0, chkP p) else if (p.fs.getD 0 Fn.zero).ar ≠ 0 then (0, 0, 1) else funsV p p.fs.length 0

theorem letV_zero {p : Pg} {f : Fn} {x : De} : ∀ (l : List UInt8) (k : Nat), letV p f x l k = 0 → ∀ j, j < l.length → opV p f x.1 (l.getD j 0) (opd x.2.1 x.2.2 (k + j)) = 0 := by
  intro l
  induction l with
  | nil => intro k _ j hj; exact absurd hj (Nat.not_lt_zero j)
  | cons c l ih =>
    intro k h j hj
    unfold letV at h
    split at h
    · rename_i h1
      exact absurd h h1
    · rename_i h1
      cases j with
      | zero => exact Decidable.of_not_not h1
      | succ j =>
        have := ih (k + 1) h j (by simpa using hj)
        rw [show k + 1 + j = k + (j + 1) by omega] at this
        exact this
theorem codeV_zero {p : Pg} {f : Fn} : ∀ (l : List De) (i : Nat), (codeV p f l i).2 = 0 → ∀ x ∈ l, insV p f x = 0 := by
  intro l
  induction l with
  | nil => intro i _ x hx; cases hx
  | cons y l ih =>
    intro i h x hx
    unfold codeV at h
    split at h
    · rename_i h1
      exact absurd h h1
    · rename_i h1
      rcases List.mem_cons.1 hx with rfl | hx
      · exact Decidable.of_not_not h1
      · exact ih (i + 1) h x hx
theorem funV_zero {p : Pg} {fn : Nat} (h : (funV p fn).2 = 0) : ∀ x ∈ (p.fs.getD fn Fn.zero).co, insV p (p.fs.getD fn Fn.zero) x = 0 := by
  unfold funV at h
  split at h
  · rename_i h1
    exact absurd h h1
  · rename_i h1
    exact codeV_zero _ _ (Decidable.of_not_not h1)
theorem funsV_zero {p : Pg} : ∀ (k fn : Nat), (funsV p k fn).2.2 = 0 → ∀ j, fn ≤ j → j < fn + k → (funV p j).2 = 0 := by
  intro k
  induction k with
  | zero => intro fn _ j h1 h2; omega
  | succ k ih =>
    intro fn h j h1 h2
    unfold funsV at h
    split at h
    · rename_i h3
      exact absurd h h3
    · rename_i h3
      by_cases hj : j = fn
      · subst hj; exact Decidable.of_not_not h3
      · exact ih (fn + 1) h j (by omega) (by omega)
/-- In a program that may run each operand of each instruction is right. -/
theorem progV_zero {p : Pg} (h : (progV p).2.2 = 0) : chkP p = 0 ∧ (p.fs.getD 0 Fn.zero).ar = 0 ∧ ∀ fn, fn < p.fs.length → ∀ x ∈ (p.fs.getD fn Fn.zero).co, ∀ j, j < (form x.1).length → opV p (p.fs.getD fn Fn.zero) x.1 ((form x.1).getD j 0) (opd x.2.1 x.2.2 j) = 0 := by
  unfold progV at h
  split at h
  · rename_i h1
    exact absurd h h1
  · rename_i h1
    split at h
    · cases h
    · rename_i h2
      refine ⟨Decidable.of_not_not h1, Decidable.of_not_not h2, fun fn hfn x hx j hj => ?_⟩
      have := letV_zero _ _ (funV_zero (funsV_zero _ _ h fn (Nat.zero_le _) (by omega)) x hx) j hj
      rwa [Nat.zero_add] at this

theorem opV_obj {p : Pg} {f : Fn} {o : Int} {c : UInt8} {n : Int} (h : opV p f o c n = 0) (hc : objV c = true) : fits p.ds c n = true := by
  unfold opV at h
  split at h
  · cases h
  · split at h
    · cases h
    · split at h
      · cases h
      · rename_i h3
        cases hf : fits p.ds c n with
        | true => rfl
        | false => exact absurd ⟨hc, hf⟩ h3
theorem fits_kind {l : List De} {c : UInt8} {o k : Int} (h : fits l c o = true) (hk : kindsOf c = [k]) : 0 ≤ o ∧ o < (l.length : Int) ∧ (l.getD o.toNat zero).1 = k := by
  unfold fits at h
  rw [Bool.and_eq_true, decide_eq_true_eq, hk] at h
  refine ⟨h.1.1, h.1.2, ?_⟩
  simpa using h.2

/-- The kind of an operation's first object; 0: it is not asked. -/
def kindV (o : Int) : Int :=
  if o = 30 then 3 else if o = 31 then 6 else if o = 32 ∨ o = 33 ∨ o = 34 ∨ o = 35 then 4 else if o = 36 ∨ o = 37 ∨ o = 38 ∨ o = 39 then 5 else if o = 45 ∨ o = 46 then 7 else if o = 50 ∨ o = 51 then 1 else 0
theorem kind_first : ∀ k : Nat, k < 52 → kindV (k : Int) ≠ 0 → 0 < (form (k : Int)).length ∧ objV ((form (k : Int)).getD 0 0) = true ∧ kindsOf ((form (k : Int)).getD 0 0) = [kindV (k : Int)] := by decide +kernel
theorem kindV_known {o : Int} (h : kindV o ≠ 0) : 0 ≤ o ∧ o ≤ 51 := by
  unfold kindV at h
  repeat (split at h; · omega)
  exact absurd rfl h
/-- What the statement asks of an instruction of a program that may run. -/
theorem asks {p : Pg} (h : (progV p).2.2 = 0) {fn : Nat} (hfn : fn < p.fs.length) {x : De} (hx : x ∈ (p.fs.getD fn Fn.zero).co) :
    (kindV x.1 ≠ 0 → 0 ≤ x.2.1 ∧ x.2.1 < (p.ds.length : Int) ∧ (p.ds.getD x.2.1.toNat zero).1 = kindV x.1) ∧
    (x.1 = 26 → x.2.1 < (p.ws.length : Int)) ∧ (x.1 = 20 → x.2.1 < (p.fs.length : Int)) ∧ (x.1 = 18 → x.2.1 < ((p.fs.getD fn Fn.zero).co.length : Int)) ∧ (x.1 = 1 → x.2.1 < (p.fs.getD fn Fn.zero).lo) := by
  have hq := (progV_zero h).2.2 fn hfn x hx
  have first : ∀ (o : Int) (f : List UInt8), x.1 = o → form o = f → 0 < f.length → opV p (p.fs.getD fn Fn.zero) o (f.getD 0 0) x.2.1 = 0 := fun o f h1 h2 h3 => by
    have := hq 0 (by rw [h1, h2]; exact h3)
    rw [h1, h2] at this
    exact this
  refine ⟨fun hk => ?_, fun ho => ?_, fun ho => ?_, fun ho => ?_, fun ho => ?_⟩
  · obtain ⟨k0, k1⟩ := kindV_known hk
    obtain ⟨k, hk1⟩ : ∃ k : Nat, x.1 = (k : Int) := ⟨x.1.toNat, by omega⟩
    rw [hk1] at hk ⊢
    obtain ⟨f1, f2, f3⟩ := kind_first k (by omega) hk
    exact fits_kind (opV_obj (first _ _ hk1 rfl f1) f2) f3
  all_goals
    have h1 := first _ _ ho rfl (by decide +kernel)
  · rw [show (form 26).getD 0 0 = 119 from by decide +kernel] at h1
    unfold opV at h1
    rw [if_neg (show ¬ ((119 : UInt8) = 102 ∧ _) from fun e => absurd e.1 (by decide))] at h1
    split at h1
    · cases h1
    · rename_i h2
      have : ¬ ((p.ws.length : Int) ≤ x.2.1) := fun e => h2 (.inr (.inr ⟨rfl, e⟩))
      omega
  · rw [show (form 20).getD 0 0 = 102 from by decide +kernel] at h1
    unfold opV at h1
    split at h1
    · cases h1
    · split at h1
      · cases h1
      · rename_i h2
        have : ¬ ((p.fs.length : Int) ≤ x.2.1) := fun e => h2 ⟨rfl, .inl e⟩
        omega
  · rw [show (form 18).getD 0 0 = 116 from by decide +kernel] at h1
    unfold opV at h1
    split at h1
    · cases h1
    · rename_i h2
      have : ¬ (((p.fs.getD fn Fn.zero).co.length : Int) ≤ x.2.1) := fun e => h2 (.inr (.inl ⟨rfl, e⟩))
      omega
  · rw [show (form 1).getD 0 0 = 107 from by decide +kernel] at h1
    unfold opV at h1
    split at h1
    · cases h1
    · rename_i h2
      have : ¬ ((p.fs.getD fn Fn.zero).lo ≤ x.2.1) := fun e => h2 (.inl ⟨rfl, e⟩)
      omega

/-- One function calls another one. -/
def CallsF (fs : List Fn) (i j : Nat) : Prop := j < fs.length ∧ ∃ x ∈ (fs.getD i Fn.zero).co, x.1 = 20 ∧ x.2.1 = (j : Int)
/-- A function reaches another one, or itself. -/
inductive Rch (fs : List Fn) (i : Nat) : Nat → Prop
  | self : Rch fs i i
  | step {j k : Nat} : Rch fs i j → CallsF fs j k → Rch fs i k
theorem Rch.trans {fs : List Fn} {i j k : Nat} (h : Rch fs i j) (g : Rch fs j k) : Rch fs i k := by
  induction g with
  | self => exact h
  | step _ c ih => exact ih.step c
theorem Rch.lt {fs : List Fn} {i j : Nat} (h : Rch fs i j) (hi : i < fs.length) : j < fs.length := by
  cases h with
  | self => exact hi
  | step _ c => exact c.1
/-- A function, by a number that may be none: those that it reaches. -/
def Rcd (fs : List Fn) (fn : Int) (j : Nat) : Prop := 0 ≤ fn ∧ fn < (fs.length : Int) ∧ Rch fs fn.toNat j
/-- An instruction names an object. -/
def Names (p : Pg) (x : De) (o : Nat) : Prop := ∃ k, k < (form x.1).length ∧
  ((objV ((form x.1).getD k 0) = true ∧ opd x.2.1 x.2.2 k = (o : Int)) ∨
   ((form x.1).getD k 0 = 119 ∧ opd x.2.1 x.2.2 k < (p.ws.length : Int) ∧ ∃ y ∈ p.ws.getD (opd x.2.1 x.2.2 k).toNat [], ∃ d ∈ y, d.2.1 = (o : Int)))
/-- An object that is there, and that is named by what a function reaches. -/
def Usd (p : Pg) (fn : Int) (o : Nat) : Prop := o < p.ds.length ∧ ∃ j, Rcd p.fs fn j ∧ ∃ x ∈ (p.fs.getD j Fn.zero).co, Names p x o
/-- What a function that is reached reaches, and uses, is reached, and used. -/
theorem Rcd.more {fs : List Fn} {fn : Int} {j k : Nat} (h : Rcd fs fn j) (g : Rcd fs (j : Int) k) : Rcd fs fn k := ⟨h.1, h.2.1, h.2.2.trans (by have := g.2.2; rwa [Int.toNat_natCast] at this)⟩
theorem Usd.more {p : Pg} {fn : Int} {j o : Nat} (h : Rcd p.fs fn j) (g : Usd p (j : Int) o) : Usd p fn o := by
  obtain ⟨h0, k, hk, x, hx, hn⟩ := g
  exact ⟨h0, k, h.more hk, x, hx, hn⟩
theorem Rcd.lt {fs : List Fn} {fn : Int} {j : Nat} (h : Rcd fs fn j) : j < fs.length := h.2.2.lt (by have := h.1; have := h.2.1; omega)
theorem Rcd.self {fs : List Fn} {fn : Int} (h0 : 0 ≤ fn) (h1 : fn < (fs.length : Int)) : Rcd fs fn fn.toNat := ⟨h0, h1, .self⟩
end Go.Proofs.YtbekfjjajggffaaDoor.pgm.ver

/-
  The plain mathematics of sets of numbers from 0 to 63, as numbers below two to the sixty-fourth: what is in one, with a number and without it, all moved. It speaks of numbers and lists alone.
-/
namespace Go.Proofs.YtbekfjjajggffaaDoor.bits

/-- One with all its numbers below 64. -/
def Is64 (s : Nat) : Prop := s < 18446744073709551616
theorem two64 : (2 : Nat) ^ 64 = 18446744073709551616 := rfl
theorem ext64 {s t : Nat} (hs : Is64 s) (ht : Is64 t) (h : ∀ n, n < 64 → s.testBit n = t.testBit n) : s = t := by
  apply Nat.eq_of_testBit_eq
  intro n
  by_cases hn : n < 64
  · exact h n hn
  · have hp : (2 : Nat) ^ 64 ≤ 2 ^ n := Nat.pow_le_pow_right (by omega) (by omega)
    unfold Is64 at hs ht
    rw [Nat.testBit_lt_two_pow (by omega), Nat.testBit_lt_two_pow (by omega)]

theorem testBit_div (s n : Nat) : s.testBit n = decide (s / 2 ^ n % 2 = 1) := by
  rw [Nat.testBit_eq_decide_div_mod_eq]

/-- A number more: the weight of one that is not there. -/
theorem add_pow {s n : Nat} (h : s.testBit n = false) : s + 2 ^ n = s ||| 2 ^ n := by
  have h1 : s / 2 ^ n % 2 = 0 := by
    rw [testBit_div] at h
    have h2 : ¬ s / 2 ^ n % 2 = 1 := by simpa using h
    omega
  have hp : 0 < 2 ^ n := Nat.two_pow_pos n
  have hlo : s % 2 ^ n < 2 ^ n := Nat.mod_lt _ hp
  have hs : s = s / 2 ^ n * 2 ^ n + s % 2 ^ n := by rw [Nat.mul_comm]; exact (Nat.div_add_mod s (2 ^ n)).symm
  obtain ⟨q, hq⟩ : ∃ q, s / 2 ^ n = 2 * q := ⟨s / 2 ^ n / 2, by omega⟩
  have hhi : s / 2 ^ n * 2 ^ n = q * 2 ^ (n + 1) := by rw [hq, Nat.pow_succ, Nat.mul_comm 2 q, Nat.mul_assoc, Nat.mul_comm 2 (2 ^ n)]
  generalize s % 2 ^ n = lo at *
  rw [hhi] at hs
  have e1 : q * 2 ^ (n + 1) ||| lo = q * 2 ^ (n + 1) + lo := nat_join (n + 1) _ lo (Nat.mul_mod_left _ _) (by rw [Nat.pow_succ]; omega)
  have e2 : 2 ^ n ||| lo = 2 ^ n + lo := nat_join n _ lo (Nat.mod_self _) hlo
  have e3 : q * 2 ^ (n + 1) ||| (2 ^ n + lo) = q * 2 ^ (n + 1) + (2 ^ n + lo) := nat_join (n + 1) _ _ (Nat.mul_mod_left _ _) (by rw [Nat.pow_succ]; omega)
  rw [hs, ← e1, Nat.or_assoc, Nat.or_comm lo, e2, e3, e1]
  omega

def ins (s n : Nat) : Nat := if s.testBit n then s else s + 2 ^ n
def del (s n : Nat) : Nat := if s.testBit n then s - 2 ^ n else s
theorem ins_or (s n : Nat) : ins s n = s ||| 2 ^ n := by
  unfold ins
  by_cases h : s.testBit n = true
  · rw [if_pos h]
    apply Nat.eq_of_testBit_eq
    intro m
    rw [Nat.testBit_or, Nat.testBit_two_pow]
    by_cases hm : n = m
    · subst hm; simp [h]
    · simp [hm]
  · have h' : s.testBit n = false := by simpa using h
    rw [if_neg h, add_pow h']
theorem testBit_ins (s n m : Nat) : (ins s n).testBit m = (s.testBit m || decide (n = m)) := by
  rw [ins_or, Nat.testBit_or, Nat.testBit_two_pow]
theorem ins_lt {s n : Nat} (hs : Is64 s) (hn : n < 64) : Is64 (ins s n) := by
  unfold Is64 at *
  rw [ins_or, ← two64]
  exact Nat.or_lt_two_pow (by rw [two64]; exact hs) (Nat.pow_lt_pow_right (by omega) hn)
/-- Without a number that is there, and with it again. -/
theorem del_spec {s n : Nat} (h : s.testBit n = true) : ∃ t, s = t + 2 ^ n ∧ t.testBit n = false ∧ del s n = t := by
  have h1 : s / 2 ^ n % 2 = 1 := by
    rw [testBit_div] at h
    simpa using h
  have hp : 0 < 2 ^ n := Nat.two_pow_pos n
  have hge : 2 ^ n ≤ s := by
    rcases Nat.lt_or_ge s (2 ^ n) with hl | hl
    · rw [Nat.div_eq_of_lt hl] at h1
      omega
    · exact hl
  refine ⟨s - 2 ^ n, by omega, ?_, by unfold del; rw [if_pos h]⟩
  rw [testBit_div]
  have e : (s - 2 ^ n) / 2 ^ n = s / 2 ^ n - 1 := by
    have := Nat.sub_mul_div s (2 ^ n) 1
    simpa using this
  rw [e, decide_eq_false_iff_not]
  omega
theorem testBit_del (s n m : Nat) : (del s n).testBit m = (s.testBit m && !decide (n = m)) := by
  by_cases h : s.testBit n = true
  · obtain ⟨t, hs, ht, hd⟩ := del_spec h
    rw [hd, hs, add_pow ht, Nat.testBit_or, Nat.testBit_two_pow]
    by_cases hm : n = m
    · subst hm; simp [ht]
    · simp [hm]
  · have h' : s.testBit n = false := by simpa using h
    unfold del
    rw [if_neg h]
    by_cases hm : n = m
    · subst hm; simp [h']
    · simp [hm]
theorem del_le (s n : Nat) : del s n ≤ s := by
  unfold del
  split
  · exact Nat.sub_le _ _
  · exact Nat.le_refl _

/-- All that is in a set, rising. -/
def els (s : Nat) : List Nat := (List.range 64).filter fun n => s.testBit n
theorem mem_els {s n : Nat} : n ∈ els s ↔ n < 64 ∧ s.testBit n = true := by simp [els]
theorem els_rising (s : Nat) : (els s).Pairwise (· < ·) := List.Pairwise.filter _ List.pairwise_lt_range

/-- The set of a list. -/
def ofs (l : List Nat) : Nat := l.foldl ins 0
theorem foldl_ins (l : List Nat) : ∀ s m, (l.foldl ins s).testBit m = (s.testBit m || decide (m ∈ l)) := by
  induction l with
  | nil => intro s m; simp
  | cons n l ih =>
    intro s m
    rw [List.foldl_cons, ih, testBit_ins]
    by_cases hm : n = m
    · subst hm; simp
    · have hm' : ¬ m = n := fun e => hm e.symm
      simp [hm, hm']
theorem testBit_ofs (l : List Nat) (m : Nat) : (ofs l).testBit m = decide (m ∈ l) := by
  unfold ofs
  rw [foldl_ins]
  simp
theorem foldl_lt (l : List Nat) : ∀ s, Is64 s → (∀ n ∈ l, n < 64) → Is64 (l.foldl ins s) := by
  induction l with
  | nil => intro s hs _; exact hs
  | cons n l ih =>
    intro s hs h
    rw [List.foldl_cons]
    exact ih _ (ins_lt hs (h n (List.mem_cons_self ..))) fun m hm => h m (List.mem_cons_of_mem _ hm)
theorem ofs_lt {l : List Nat} (h : ∀ n ∈ l, n < 64) : Is64 (ofs l) := foldl_lt l 0 (by unfold Is64; omega) h
theorem ofs_els {s : Nat} (hs : Is64 s) : ofs (els s) = s := by
  refine ext64 (ofs_lt fun n hn => (mem_els.1 hn).1) hs fun n hn => ?_
  rw [testBit_ofs]
  by_cases h : s.testBit n = true
  · rw [h, decide_eq_true_iff]; exact mem_els.2 ⟨hn, h⟩
  · have h' : s.testBit n = false := by simpa using h
    rw [h', decide_eq_false_iff_not]
    intro hm
    exact h (mem_els.1 hm).2

/-- All moved by k, from 0 to 63. -/
def up (s k : Nat) : Nat := ofs ((els s).map fun n => (n + k) % 64)
theorem up_lt (s k : Nat) : Is64 (up s k) := ofs_lt fun n hn => by
  obtain ⟨m, _, rfl⟩ := List.mem_map.1 hn
  omega
theorem testBit_up {s k m : Nat} (hk : k < 64) (hm : m < 64) : (up s k).testBit m = s.testBit ((m + (64 - k)) % 64) := by
  unfold up
  rw [testBit_ofs]
  by_cases h : s.testBit ((m + (64 - k)) % 64) = true
  · rw [h, decide_eq_true_iff]
    exact List.mem_map.2 ⟨(m + (64 - k)) % 64, mem_els.2 ⟨by omega, h⟩, by omega⟩
  · have h' : s.testBit ((m + (64 - k)) % 64) = false := by simpa using h
    rw [h', decide_eq_false_iff_not]
    intro hmem
    obtain ⟨n, hn, hnm⟩ := List.mem_map.1 hmem
    obtain ⟨hn64, hb⟩ := mem_els.1 hn
    have e : (m + (64 - k)) % 64 = n := by omega
    rw [e] at h
    exact h hb
theorem up_up {s a b : Nat} (ha : a < 64) (hb : b < 64) : up (up s a) b = up s ((a + b) % 64) := by
  refine ext64 (up_lt _ _) (up_lt _ _) fun m hm => ?_
  rw [testBit_up hb hm, testBit_up ha (by omega), testBit_up (by omega) hm]
  congr 1
  omega
theorem up_zero {s : Nat} (hs : Is64 s) : up s 0 = s := by
  refine ext64 (up_lt _ _) hs fun m hm => ?_
  rw [testBit_up (by omega) hm]
  congr 1
  omega
theorem up_back {s a : Nat} (hs : Is64 s) (ha : a < 64) : up (up s a) ((64 - a) % 64) = s := by
  rw [up_up ha (by omega)]
  have e : (a + (64 - a) % 64) % 64 = 0 := by omega
  rw [e, up_zero hs]
/-- As a computer turns it. -/
theorem up_turn {s k : Nat} (hs : Is64 s) (hk : k < 64) : up s k = s * 2 ^ k % 18446744073709551616 ||| s / 2 ^ (64 - k) := by
  refine ext64 (up_lt _ _) ?_ fun m hm => ?_
  · unfold Is64 at *
    rw [← two64]
    refine Nat.or_lt_two_pow (Nat.mod_lt _ (Nat.two_pow_pos _)) ?_
    exact Nat.lt_of_le_of_lt (Nat.div_le_self _ _) (by rw [two64]; exact hs)
  · rw [testBit_up hk hm, Nat.testBit_or, ← two64, Nat.testBit_mod_two_pow, Nat.testBit_mul_two_pow, Nat.testBit_div_two_pow]
    by_cases hmk : k ≤ m
    · have e : (m + (64 - k)) % 64 = m - k := by omega
      have hbig : s.testBit (64 - k + m) = false := by
        refine Nat.testBit_lt_two_pow (Nat.lt_of_lt_of_le hs ?_)
        rw [← two64]
        exact Nat.pow_le_pow_right (by omega) (by omega)
      have hbig' : s.testBit (m + (64 - k)) = false := by rw [Nat.add_comm]; exact hbig
      rw [e]
      simp [hm, hmk, hbig']
    · have e : (m + (64 - k)) % 64 = m + (64 - k) := by omega
      rw [e]
      simp [hm, hmk]

/-- As many as before. -/
theorem turn_perm : ∀ k, k < 64 → ((List.range 64).map fun m => (m + (64 - k)) % 64).isPerm (List.range 64) = true := by decide +kernel
theorem count_up (s : Nat) {k : Nat} (hk : k < 64) : (els (up s k)).length = (els s).length := by
  have hp : ((List.range 64).map fun m => (m + (64 - k)) % 64).Perm (List.range 64) := List.isPerm_iff.1 (turn_perm k hk)
  have h1 := (hp.filter fun n => s.testBit n).length_eq
  rw [List.filter_map, List.length_map] at h1
  unfold els
  rw [← h1]
  congr 1
  refine List.filter_congr fun m hm => ?_
  exact testBit_up hk (by simpa using hm)

end Go.Proofs.YtbekfjjajggffaaDoor.bits
