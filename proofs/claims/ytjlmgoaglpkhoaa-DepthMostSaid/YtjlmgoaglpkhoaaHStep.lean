/-
  How the program finds depths, place by place, and that it comes to the chapter's own way: plain mathematics of lists. No condition.
-/
import Derived.Test.YtjlmgoaglpkhoaaHPlain
namespace Go.Proofs.Ytjlmgoaglpkhoaa.pgm.dep
open Go.Proofs.Ytjlmgoaglpkhoaa.pgm
open Go.Proofs.Ytjlmgoaglpkhoaa.objs (De zero)
open Go.Proofs.Ytjlmgoaglpkhoaa.oper (pops numb ly goesB)
set_option linter.unusedVariables false

/-- What the program keeps: depths, which are to be looked at, and a place below which none of them stands. -/
structure Z where
  dp : List Int
  ah : List Bool
  le : Nat
/-- It goes to a place. -/
def reachZ (n : Nat) (d : Int) (z : Z) (t : Nat) : Z × Nat :=
  if n ≤ t then (z, 3) else if z.dp.getD t (-1) = -1 then (⟨z.dp.set t d, z.ah.set t true, min z.le t⟩, 0) else if z.dp.getD t (-1) ≠ d then (z, 2) else (z, 0)
/-- How many values stand there behind an instruction, or what is wrong with that. -/
def behindE (fs : List Fn) (x : De) (d : Int) : Int × Nat :=
  if d < pops x.1 x.2.2 (argsOf fs x) then (0, 2) else if 16 < d + (numb ly x.1 - pops x.1 x.2.2 (argsOf fs x)) then (0, 4) else (d + (numb ly x.1 - pops x.1 x.2.2 (argsOf fs x)), 0)
/-- It goes on from an instruction behind which so many values stand. -/
def goZ (n : Nat) (x : De) (d : Int) (a : Nat) (z : Z) : Z × Nat :=
  if goesB x.1 = true then
    if (reachZ n d z (a + 1)).2 ≠ 0 then reachZ n d z (a + 1)
    else if x.1 = 18 ∨ x.1 = 19 then reachZ n d (reachZ n d z (a + 1)).1 x.2.1.toNat else ((reachZ n d z (a + 1)).1, 0)
  else if x.1 = 18 ∨ x.1 = 19 then reachZ n d z x.2.1.toNat else (z, 0)
/-- It looks at an instruction. -/
def lookZ (n : Nat) (fs : List Fn) (x : De) (a : Nat) (z : Z) : Z × Nat :=
  if (behindE fs x (z.dp.getD a (-1))).2 ≠ 0 then (z, (behindE fs x (z.dp.getD a (-1))).2) else goZ n x (behindE fs x (z.dp.getD a (-1))).1 a z

/-- What the program keeps is what the chapter keeps: of those that are looked at the depths are known. -/
structure R (n : Nat) (dp : List Int) (dn : List Bool) (z : Z) : Prop where
  same : z.dp = dp
  ld : dp.length = n
  ln : dn.length = n
  la : z.ah.length = n
  le : z.le ≤ n
  ahead : ∀ i, i < n → z.ah.getD i false = (!dn.getD i true && decide (0 ≤ dp.getD i (-1)))
  least : ∀ i, i < z.le → z.ah.getD i false = false
  known : ∀ i, i < n → dn.getD i true = true → 0 ≤ dp.getD i (-1)
  rng : ∀ x ∈ dp, -1 ≤ x ∧ x ≤ 16

theorem R.at {n : Nat} {dp : List Int} {dn : List Bool} {z : Z} (h : R n dp dn z) {t : Nat} (ht : t < n) : -1 ≤ dp.getD t (-1) ∧ dp.getD t (-1) ≤ 16 := h.rng _ (Go.Proofs.Ytjlmgoaglpkhoaa.pgm.getD_in (by rw [h.ld]; exact ht))
theorem set_same {α : Type} {l : List α} {t : Nat} {d x : α} (ht : t < l.length) (h : l.getD t d = x) : l.set t x = l := by
  rw [List.getD_eq_getElem?_getD, List.getElem?_eq_getElem ht] at h
  subst h
  simp
theorem lead_one (n : Nat) (d : Int) (t : Nat) (dp : List Int) : lead n d [t] dp = if n ≤ t then (dp, 3) else if 0 ≤ dp.getD t (-1) ∧ dp.getD t (-1) ≠ d then (dp, 2) else (dp.set t d, 0) := rfl
theorem lead_two (n : Nat) (d : Int) (s t : Nat) (dp : List Int) : lead n d [s, t] dp = if (lead n d [s] dp).2 ≠ 0 then lead n d [s] dp else lead n d [t] (lead n d [s] dp).1 := by
  rw [lead_one]
  show (if n ≤ s then (dp, 3) else if 0 ≤ dp.getD s (-1) ∧ dp.getD s (-1) ≠ d then (dp, 2) else lead n d [t] (dp.set s d)) = _
  by_cases h1 : n ≤ s
  · rw [if_pos h1, if_pos h1, if_pos (show (3 : Nat) ≠ 0 by decide)]
  · rw [if_neg h1, if_neg h1]
    by_cases h2 : 0 ≤ dp.getD s (-1) ∧ dp.getD s (-1) ≠ d
    · rw [if_pos h2, if_pos h2, if_pos (show (2 : Nat) ≠ 0 by decide)]
    · rw [if_neg h2, if_neg h2, if_neg (show ¬ (0 : Nat) ≠ 0 by decide)]
/-- One place. -/
theorem R.reach {n : Nat} {dp : List Int} {dn : List Bool} {z : Z} (h : R n dp dn z) {d : Int} (h0 : 0 ≤ d) (h1 : d ≤ 16) (t : Nat) :
    (reachZ n d z t).2 = (lead n d [t] dp).2 ∧ R n (lead n d [t] dp).1 dn (reachZ n d z t).1 := by
  rw [lead_one]
  unfold reachZ
  rw [h.same]
  by_cases ht : n ≤ t
  · rw [if_pos ht, if_pos ht]
    exact ⟨rfl, h⟩
  · have hlt : t < n := by omega
    have hr := h.at hlt
    rw [if_neg ht, if_neg ht]
    by_cases he : dp.getD t (-1) = -1
    · rw [if_pos he, if_neg (by omega)]
      have hdn : dn.getD t true = false := by
        cases hd : dn.getD t true with
        | false => rfl
        | true => have := h.known t hlt hd; omega
      refine ⟨rfl, rfl, by rw [List.length_set]; exact h.ld, h.ln, by rw [List.length_set]; exact h.la, by show min z.le t ≤ n; have := h.le; omega, fun i hi => ?_, fun i hi => ?_, fun i hi hd => ?_, fun x hx => ?_⟩
      · show (z.ah.set t true).getD i false = _
        rw [getD_set, getD_set, h.la, h.ld]
        by_cases hi2 : t = i
        · subst hi2
          rw [if_pos ⟨rfl, hlt⟩, if_pos ⟨rfl, hlt⟩, hdn, decide_eq_true h0]
          rfl
        · rw [if_neg (fun e => hi2 e.1), if_neg (fun e => hi2 e.1)]
          exact h.ahead i hi
      · show (z.ah.set t true).getD i false = false
        have hi' : i < min z.le t := hi
        rw [getD_set, if_neg (fun e => by omega)]
        exact h.least i (by omega)
      · show 0 ≤ (dp.set t d).getD i (-1)
        rw [getD_set]
        split
        · exact h0
        · exact h.known i hi hd
      · rcases List.mem_or_eq_of_mem_set hx with hx | rfl
        · exact h.rng x hx
        · omega
    · rw [if_neg he]
      by_cases hd : dp.getD t (-1) = d
      · rw [if_neg (fun hh => hh hd), if_neg (fun hh => hh.2 hd), set_same (by rw [h.ld]; exact hlt) hd]
        exact ⟨rfl, h⟩
      · rw [if_pos hd, if_pos ⟨by omega, hd⟩]
        exact ⟨rfl, h⟩
theorem goes_known {o : Int} (h : 0 ≤ o ∧ o ≤ 51) : (goesB o = true) ↔ (o ≠ 18 ∧ o ≠ 21) := by
  unfold goesB
  rw [decide_eq_true_iff]
  omega
/-- Way by way. -/
theorem R.go {n : Nat} {dp : List Int} {dn : List Bool} {z : Z} (h : R n dp dn z) {d : Int} (h0 : 0 ≤ d) (h1 : d ≤ 16) {x : De} (hk : 0 ≤ x.1 ∧ x.1 ≤ 51) (a : Nat) :
    (goZ n x d a z).2 = (lead n d (ways x a) dp).2 ∧ R n (lead n d (ways x a) dp).1 dn (goZ n x d a z).1 := by
  unfold goZ ways
  have hg := goes_known hk
  by_cases hc : x.1 ≠ 18 ∧ x.1 ≠ 21
  · rw [if_pos (hg.2 hc), if_pos hc]
    have hr := h.reach h0 h1 (a + 1)
    by_cases hj : x.1 = 18 ∨ x.1 = 19
    · rw [if_pos hj, if_pos hj]
      show _ = (lead n d [a + 1, x.2.1.toNat] dp).2 ∧ R n (lead n d [a + 1, x.2.1.toNat] dp).1 dn _
      rw [lead_two, ← hr.1]
      by_cases he : (reachZ n d z (a + 1)).2 ≠ 0
      · rw [if_pos he, if_pos he]
        exact hr
      · rw [if_neg he, if_neg he]
        exact hr.2.reach h0 h1 _
    · rw [if_neg hj, if_neg hj]
      show _ = (lead n d [a + 1] dp).2 ∧ R n (lead n d [a + 1] dp).1 dn _
      by_cases he : (reachZ n d z (a + 1)).2 ≠ 0
      · rw [if_pos he]
        exact hr
      · rw [if_neg he]
        exact ⟨by rw [← hr.1]; exact (Decidable.of_not_not he).symm, hr.2⟩
  · rw [if_neg (fun e => hc (hg.1 e)), if_neg hc]
    by_cases hj : x.1 = 18 ∨ x.1 = 19
    · rw [if_pos hj, if_pos hj]
      exact h.reach h0 h1 _
    · rw [if_neg hj, if_neg hj]
      exact ⟨rfl, h⟩
theorem behind_zero {fs : List Fn} {x : De} {d : Int} (h : 0 ≤ numb ly x.1) :
    (behindE fs x d).2 = (if behind fs x d < 0 then 2 else if 16 < behind fs x d then 4 else 0) ∧ ((behindE fs x d).2 = 0 → (behindE fs x d).1 = behind fs x d ∧ 0 ≤ behind fs x d ∧ behind fs x d ≤ 16) := by
  unfold behindE
  obtain ⟨b, hb⟩ : ∃ b, b = behind fs x d := ⟨_, rfl⟩
  rw [← hb]
  unfold behind at hb
  generalize pops x.1 x.2.2 (argsOf fs x) = k at *
  generalize numb ly x.1 = y at *
  by_cases h1 : d < k
  · rw [if_pos (by omega)] at hb
    rw [if_pos h1, if_pos (by omega)]
    exact ⟨rfl, fun e => by cases e⟩
  · rw [if_neg (by omega)] at hb
    rw [if_neg h1, if_neg (by omega : ¬ b < 0)]
    by_cases h2 : 16 < d + (y - k)
    · rw [if_pos h2, if_pos (by omega)]
      exact ⟨rfl, fun e => by cases e⟩
    · rw [if_neg h2, if_neg (by omega)]
      exact ⟨rfl, fun _ => ⟨by show d + (y - k) = b; omega, by omega, by omega⟩⟩
/-- One instruction. -/
theorem R.look {n : Nat} {fs : List Fn} {co : List De} {dp : List Int} {dn : List Bool} {z : Z} (hn : co.length = n) (h : R n dp dn z) {a : Nat} (hx : chkI (co.getD a zero) = 0) :
    (lookZ n fs (co.getD a zero) a z).2 = (one fs co dp a).2 ∧ R n (one fs co dp a).1 dn (lookZ n fs (co.getD a zero) a z).1 := by
  unfold lookZ one
  rw [h.same, hn]
  have hk := (Go.Proofs.Ytjlmgoaglpkhoaa.inst.chk_zero hx).1
  have hy := (lays_small (co.getD a zero).1).1
  obtain ⟨b1, b2⟩ := behind_zero (fs := fs) (x := co.getD a zero) (d := dp.getD a (-1)) hy
  by_cases h1 : behind fs (co.getD a zero) (dp.getD a (-1)) < 0
  · rw [if_pos h1] at b1 ⊢
    rw [b1, if_pos (by decide)]
    exact ⟨rfl, h⟩
  · rw [if_neg h1] at b1 ⊢
    by_cases h2 : 16 < behind fs (co.getD a zero) (dp.getD a (-1))
    · rw [if_pos h2] at b1 ⊢
      rw [b1, if_pos (by decide)]
      exact ⟨rfl, h⟩
    · rw [if_neg h2] at b1 ⊢
      obtain ⟨b3, b4, b5⟩ := b2 b1
      rw [b1, if_neg (by decide), b3]
      exact h.go b4 b5 hk a
/-- Where the next one stands. -/
theorem R.next {n : Nat} {dp : List Int} {dn : List Bool} {z : Z} (h : R n dp dn z) : pick dp dn n ≤ n ∧ z.le ≤ pick dp dn n ∧ (∀ i, z.le ≤ i → i < pick dp dn n → z.ah.getD i false = false) ∧
    (pick dp dn n < n → z.ah.getD (pick dp dn n) false = true ∧ R n dp (dn.set (pick dp dn n) true) ⟨z.dp, z.ah.set (pick dp dn n) false, pick dp dn n⟩) := by
  have hn : pick dp dn n ≤ n := by
    have := List.findIdx_le_length (xs := List.range n) (p := fun i => !dn.getD i true && decide (0 ≤ dp.getD i (-1)))
    rw [List.length_range] at this
    exact this
  have hb : ∀ i, i < pick dp dn n → z.ah.getD i false = false := fun i hi => by
    have h1 := List.not_of_lt_findIdx (xs := List.range n) (p := fun i => !dn.getD i true && decide (0 ≤ dp.getD i (-1))) (i := i) hi
    have e : (List.range n)[i]'(by rw [List.length_range]; omega) = i := List.getElem_range _
    rw [e] at h1
    rw [h.ahead i (by omega)]
    simpa using h1
  have ht : pick dp dn n < n → z.ah.getD (pick dp dn n) false = true := fun hp => by
    obtain ⟨p1, p2⟩ := pick_lt hp
    rw [h.ahead _ hp, p1, decide_eq_true p2]
    rfl
  refine ⟨hn, ?_, fun i _ hi => hb i hi, fun hp => ⟨ht hp, h.same, h.ld, by rw [List.length_set]; exact h.ln, by rw [List.length_set]; exact h.la, hn, fun i hi => ?_, fun i hi => ?_, fun i hi hd => ?_, h.rng⟩⟩
  · rcases Nat.lt_or_ge (pick dp dn n) z.le with hc | hc
    · by_cases hp : pick dp dn n < n
      · have := h.least _ hc
        rw [ht hp] at this
        cases this
      · have := h.le
        omega
    · exact hc
  · show (z.ah.set _ false).getD i false = _
    rw [getD_set, getD_set, h.la, h.ln]
    by_cases hi2 : pick dp dn n = i
    · rw [if_pos ⟨hi2, hi⟩, if_pos ⟨hi2, hi⟩]
      rfl
    · rw [if_neg (fun e => hi2 e.1), if_neg (fun e => hi2 e.1)]
      exact h.ahead i hi
  · show (z.ah.set _ false).getD i false = false
    rw [getD_set]
    split
    · rfl
    · exact hb i hi
  · rw [getD_set] at hd
    split at hd
    · rename_i h2
      rw [← h2.1]
      exact (pick_lt hp).2
    · exact h.known i hi hd
/-- Ahead of the first one. -/
theorem R.start {co : List De} (h : 0 < co.length) : R co.length (startQ co).dp (startQ co).dn ⟨0 :: List.replicate (co.length - 1) (-1), true :: List.replicate (co.length - 1) false, 0⟩ := by
  have hf : ∀ a, a < co.length → (List.replicate co.length false).getD a true = false := fun a ha => by
    rw [List.getD_eq_getElem?_getD, List.getElem?_replicate, if_pos ha]; rfl
  refine ⟨rfl, by simp [startQ]; omega, by simp [startQ], by simp; omega, Nat.zero_le _, fun i hi => ?_, fun i hi => absurd hi (Nat.not_lt_zero i), fun i hi hd => ?_, (start_inv (fs := []) h).rng⟩
  · rw [show (startQ co).dn.getD i true = false from hf i hi]
    cases i with
    | zero => rfl
    | succ i =>
      show (List.replicate (co.length - 1) false).getD i false = (!false && decide (0 ≤ (List.replicate (co.length - 1) (-1)).getD i (-1)))
      have e1 : (List.replicate (co.length - 1) false).getD i false = false := by rw [List.getD_eq_getElem?_getD, List.getElem?_replicate, if_pos (by omega)]; rfl
      have e2 : (List.replicate (co.length - 1) (-1 : Int)).getD i (-1) = -1 := by rw [List.getD_eq_getElem?_getD, List.getElem?_replicate, if_pos (by omega)]; rfl
      rw [e1]
      show false = (!false && decide (0 ≤ (List.replicate (co.length - 1) (-1 : Int)).getD i (-1)))
      simp only [e2]
      rfl
  · rw [show (startQ co).dn = List.replicate co.length false from rfl, hf i hi] at hd
    cases hd
/-- The first step of the program's own: all are unknown, and it goes to the first place. -/
theorem start_reach {n : Nat} (h : 0 < n) : reachZ n 0 ⟨List.replicate n (-1), List.replicate n false, 0⟩ 0 = (⟨0 :: List.replicate (n - 1) (-1), true :: List.replicate (n - 1) false, 0⟩, 0) := by
  obtain ⟨m, rfl⟩ : ∃ m, n = m + 1 := ⟨n - 1, by omega⟩
  unfold reachZ
  rw [if_neg (by omega), if_pos (by rfl)]
  rfl
/-- What is kept of what is wrong. -/
structure W2 (n : Nat) (q : Q) (pl er : Int) : Prop where
  er : er = (q.bad : Int)
  bad : q.bad ≠ 0 → pl = (q.first : Int)
  fine : q.bad = 0 → q.first = n
theorem W2.start (co : List De) : W2 co.length (startQ co) 0 0 := ⟨rfl, fun h => absurd rfl h, fun _ => rfl⟩
/-- The step that blames. -/
def blameZ (pl er : Int) (a : Nat) (e : Nat) : Int × Int := if e ≠ 0 ∧ (er = 0 ∨ (a : Int) < pl) then ((a : Int), (e : Int)) else (pl, er)
theorem W2.step {n : Nat} {fs : List Fn} {co : List De} {q : Q} {pl er : Int} (h : W2 n q pl er) {a : Nat} (ha : a < n) : W2 n (stepQ fs co q a) (blameZ pl er a (one fs co q.dp a).2).1 (blameZ pl er a (one fs co q.dp a).2).2 := by
  unfold stepQ blameZ
  have e1 := h.er
  generalize (one fs co q.dp a).2 = e at *
  by_cases he : e = 0
  · rw [if_neg (fun hh => hh.1 he), if_neg (fun hh => hh.1 he)]
    exact ⟨h.er, h.bad, h.fine⟩
  · by_cases hb : q.bad = 0
    · have hf := h.fine hb
      rw [if_pos ⟨he, by omega⟩, if_pos ⟨he, .inl (by omega)⟩]
      exact ⟨rfl, fun _ => rfl, fun hh => absurd hh he⟩
    · have hf := h.bad hb
      by_cases hl : a < q.first
      · rw [if_pos ⟨he, hl⟩, if_pos ⟨he, .inr (by omega)⟩]
        exact ⟨rfl, fun _ => rfl, fun hh => absurd hh he⟩
      · rw [if_neg (fun hh => hl hh.2), if_neg (fun hh => by rcases hh.2 with h3 | h3 <;> omega)]
        exact ⟨h.er, h.bad, h.fine⟩
theorem step_dn (fs : List Fn) (co : List De) (q : Q) (a : Nat) : (stepQ fs co q a).dn = q.dn.set a true := by unfold stepQ; split <;> rfl
theorem step_dp (fs : List Fn) (co : List De) (q : Q) (a : Nat) : (stepQ fs co q a).dp = (one fs co q.dp a).1 := by unfold stepQ; split <;> rfl
theorem run_end {fs : List Fn} {co : List De} {q : Q} (h : ¬ pick q.dp q.dn co.length < co.length) : ∀ j, runQ fs co j q = q
  | 0 => rfl
  | j + 1 => by unfold runQ; rw [if_neg h]
theorem run_step {fs : List Fn} {co : List De} {q : Q} (h : pick q.dp q.dn co.length < co.length) (j : Nat) : runQ fs co (j + 1) q = runQ fs co j (stepQ fs co q (pick q.dp q.dn co.length)) := by
  show (if pick q.dp q.dn co.length < co.length then _ else _) = _
  rw [if_pos h]
end Go.Proofs.Ytjlmgoaglpkhoaa.pgm.dep
