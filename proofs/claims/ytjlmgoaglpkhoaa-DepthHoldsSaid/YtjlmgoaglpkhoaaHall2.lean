/-
  Texts of one claim in one file: GPlain, PProg, PPops, HPlain, PTab, PRef. Each has its own sentence, with its conditions.
-/
import Derived.Test.YtjlmgoaglpkhoaaHall1
import Derived.Test.YtjlmgoaglpkhoaaProg
import Derived.WalkKit
import Derived.ProofKit
import Derived.IntWalk
import Derived.LoopTactic
import Derived.Lib.Hide
import Derived.Below
import Derived.Outline
import Derived.Deep.Cut
import Derived.Deep.CutBlock
import Derived.Deep.DeepCutAuto
import Derived.PlainAid
import Derived.BigQuiet
import Derived.Deep.QuietTactic
import Derived.Deep.RegionHeld3
/-
  What is wrong with a program, its bytes, and the program whose bytes some are: plain mathematics of lists and numbers, by one pair of laws for each list that is put behind another. No condition.
-/
namespace Go.Proofs.Ytjlmgoaglpkhoaa.pgm
open Go.Proofs.Ytjlmgoaglpkhoaa.octet (St rdByte rdNum num num_length_le enc_length_pos)
open Go.Proofs.Ytjlmgoaglpkhoaa.objs (De zero rdNum_back rdNum_once rdNum_err)
set_option linter.unusedVariables false

/-- A function: its arguments, its locals, its instructions (an operation and two operands each). -/
structure Fn where
  ar : Int
  lo : Int
  co : List De
def Fn.zero : Fn := ⟨0, 0, []⟩
/-- A program: its objects, its waits, its functions. -/
structure Pg where
  ds : List De
  ws : List (List (List De))
  fs : List Fn
def Pg.none : Pg := ⟨[], [], []⟩

section
variable {α : Type}
/-- The first thing that is wrong with one of a list. -/
def firstE (f : α → Nat) : List α → Nat
  | [] => 0
  | x :: l => if f x ≠ 0 then f x else firstE f l
theorem getD_at {l : List α} {k : Nat} {d : α} (h : k < l.length) : l.getD k d = l[k] := by rw [List.getD_eq_getElem?_getD, List.getElem?_eq_getElem h]; rfl
theorem getD_in {l : List α} {k : Nat} {d : α} (h : k < l.length) : l.getD k d ∈ l := by rw [getD_at h]; exact List.getElem_mem _
theorem firstE_drop {f : α → Nat} {l : List α} {k : Nat} (d : α) (h : k < l.length) : firstE f (l.drop k) = if f (l.getD k d) ≠ 0 then f (l.getD k d) else firstE f (l.drop (k + 1)) := by
  rw [List.drop_eq_getElem_cons h, getD_at h]
  rfl
theorem firstE_zero {f : α → Nat} {l : List α} (h : firstE f l = 0) : ∀ x ∈ l, f x = 0 := by
  induction l with
  | nil => intro n hn; cases hn
  | cons m l ih =>
    unfold firstE at h
    by_cases hm : f m ≠ 0
    · rw [if_pos hm] at h
      exact absurd h hm
    · rw [if_neg hm] at h
      intro n hn
      rcases List.mem_cons.1 hn with rfl | hn
      · omega
      · exact ih h n hn
theorem firstE_le {f : α → Nat} {b : Nat} (hf : ∀ x, f x ≤ b) (l : List α) : firstE f l ≤ b := by
  induction l with
  | nil => exact Nat.zero_le _
  | cons m l ih =>
    unfold firstE
    split
    · exact hf m
    · exact ih
/-- The bytes of the first j of a list. -/
def encAll (e : α → List UInt8) (d : α) (l : List α) : Nat → List UInt8
  | 0 => []
  | j + 1 => encAll e d l j ++ e (l.getD j d)
theorem encAll_le {e : α → List UInt8} {d : α} {l : List α} {c : Nat} (h : ∀ x ∈ l, (e x).length ≤ c) : ∀ j, j ≤ l.length → (encAll e d l j).length ≤ c * j := by
  intro j
  induction j with
  | zero => intro _; exact Nat.zero_le _
  | succ j ih =>
    intro hj
    have h1 := ih (by omega)
    have h2 := h _ (getD_in (d := d) (l := l) (k := j) (by omega))
    simp only [encAll, List.length_append]
    rw [Nat.mul_succ]
    omega
theorem at_left {l r : List α} {i : Nat} {d : α} (h : i < l.length) : (l ++ r).getD i d = l.getD i d := by
  rw [List.getD_eq_getElem?_getD, List.getD_eq_getElem?_getD, List.getElem?_append_left h]
theorem at_last {l : List α} {x d : α} {i : Nat} (h : l.length = i) : (l ++ [x]).getD i d = x := by
  subst h
  rw [List.getD_eq_getElem?_getD, List.getElem?_append_right (Nat.le_refl _), Nat.sub_self]
  rfl
theorem encAll_left {e : α → List UInt8} {d : α} {l r : List α} : ∀ j, j ≤ l.length → encAll e d (l ++ r) j = encAll e d l j := by
  intro j
  induction j with
  | zero => intro _; rfl
  | succ j ih =>
    intro h
    simp only [encAll]
    rw [ih (by omega), at_left (by omega)]
/-- The first j of what is read one behind the other. -/
def rdAll (rd : St → α × St × Nat) (s : St) : Nat → List α × St × Nat
  | 0 => ([], s, 0)
  | j + 1 =>
    let p := rdAll rd s j
    if p.2.2 ≠ 0 then p
    else if (rd p.2.1).2.2 ≠ 0 then ([], (rd p.2.1).2.1, (rd p.2.1).2.2)
    else (p.1 ++ [(rd p.2.1).1], (rd p.2.1).2.1, 0)
theorem rdAll_err {rd : St → α × St × Nat} {s : St} {j : Nat} (h : (rdAll rd s j).2.2 ≠ 0) : ∀ k, j ≤ k → rdAll rd s k = rdAll rd s j := by
  intro k hk
  induction k with
  | zero =>
    obtain rfl : j = 0 := by omega
    rfl
  | succ k ih =>
    rcases Nat.eq_or_lt_of_le hk with e | e
    · subst e; rfl
    · have := ih (by omega)
      simp only [rdAll]
      rw [this, if_pos h]
theorem rdAll_length {rd : St → α × St × Nat} {s : St} : ∀ j, (rdAll rd s j).2.2 = 0 → (rdAll rd s j).1.length = j := by
  intro j
  induction j with
  | zero => intro _; rfl
  | succ j ih =>
    intro h
    simp only [rdAll] at h ⊢
    split at h
    · exact absurd h ‹_›
    · rename_i h1
      have := ih (by omega)
      rw [if_neg h1]
      split at h
      · exact absurd h ‹_›
      · rename_i h2
        rw [if_neg h2, List.length_append, this]
        rfl
theorem rdAll_stop {rd : St → α × St × Nat} {s S T : St} {n j e : Nat} {ls : List α} {x : α} (hj : j < n) (hl : rdAll rd s j = (ls, S, 0)) (hw : rd S = (x, T, e)) (he : e ≠ 0) : rdAll rd s n = ([], T, e) := by
  have h1 : rdAll rd s (j + 1) = ([], T, e) := by simp [rdAll, hl, hw, he]
  rw [rdAll_err (j := j + 1) (by rw [h1]; exact he) n hj, h1]
theorem rdAll_next {rd : St → α × St × Nat} {s S T : St} {j : Nat} {ls : List α} {x : α} (hl : rdAll rd s j = (ls, S, 0)) (hw : rd S = (x, T, 0)) : rdAll rd s (j + 1) = (ls ++ [x], T, 0) := by simp [rdAll, hl, hw]
theorem rdAll_back {rd : St → α × St × Nat} {e : α → List UInt8} {d : α} {l : List α} (h : ∀ x ∈ l, ∀ more, rd ⟨e x ++ more, 0⟩ = (x, ⟨more, 0⟩, 0)) : ∀ j, j ≤ l.length → ∀ more, rdAll rd ⟨encAll e d l j ++ more, 0⟩ j = (l.take j, ⟨more, 0⟩, 0) := by
  intro j
  induction j with
  | zero => intro _ more; rfl
  | succ j ih =>
    intro hj more
    have h1 := ih (by omega) (e (l.getD j d) ++ more)
    have h2 := h _ (getD_in (d := d) (l := l) (k := j) (by omega)) more
    simp only [encAll, List.append_assoc, rdAll]
    rw [h1]
    simp only [h2]
    rw [if_neg (by decide), if_neg (by decide), List.take_add_one, getD_at (by omega), List.getElem?_eq_getElem (by omega)]
    rfl
theorem rdAll_once {rd : St → α × St × Nat} {e : α → List UInt8} {d : α} {ok : α → Prop} (hrd : ∀ L, (rd ⟨L, 0⟩).2.2 = 0 → ok (rd ⟨L, 0⟩).1 → L = e (rd ⟨L, 0⟩).1 ++ (rd ⟨L, 0⟩).2.1.rest ∧ (rd ⟨L, 0⟩).2.1.err = 0) :
    ∀ j (L : List UInt8), (rdAll rd ⟨L, 0⟩ j).2.2 = 0 → (∀ x ∈ (rdAll rd ⟨L, 0⟩ j).1, ok x) → L = encAll e d (rdAll rd ⟨L, 0⟩ j).1 j ++ (rdAll rd ⟨L, 0⟩ j).2.1.rest ∧ (rdAll rd ⟨L, 0⟩ j).2.1.err = 0 := by
  intro j
  induction j with
  | zero => intro L _ _; exact ⟨rfl, rfl⟩
  | succ j ih =>
    intro L he hall
    have h0 : (rdAll rd ⟨L, 0⟩ j).2.2 = 0 := by
      rcases Nat.eq_zero_or_pos (rdAll rd ⟨L, 0⟩ j).2.2 with h | h
      · exact h
      · rw [rdAll_err (j := j) (by omega) (j + 1) (by omega)] at he
        omega
    have hlen := rdAll_length j h0
    simp only [rdAll] at he hall ⊢
    rw [if_neg (by omega)] at he hall ⊢
    split at he
    · exact absurd he ‹_›
    · rename_i h2
      rw [if_neg h2] at hall ⊢
      dsimp only at he hall ⊢
      have h1 := ih L h0 (fun n hn => hall n (List.mem_append_left _ hn))
      have hj := hall (rd (rdAll rd ⟨L, 0⟩ j).2.1).1 (List.mem_append_right _ (List.mem_singleton.2 rfl))
      simp only [encAll]
      rw [encAll_left j (by omega), at_last hlen]
      generalize rdAll rd ⟨L, 0⟩ j = p at *
      obtain ⟨ls, ⟨R, E⟩, e'⟩ := p
      dsimp only at h0 hlen h1 hj h2 ⊢
      obtain ⟨h1, h1e⟩ := h1
      subst h1e
      have h3 := hrd R (by omega) hj
      refine ⟨?_, h3.2⟩
      rw [List.append_assoc, ← h3.1]
      exact h1
end

/-- What is wrong with an instruction. -/
def chkI (x : De) : Nat := Go.Proofs.Ytjlmgoaglpkhoaa.inst.chk x.1 x.2.1 x.2.2
def chkFn (f : Fn) : Nat := if f.ar < 0 ∨ f.lo < f.ar ∨ 8 < f.lo then 1 else if f.co.length = 0 then 2 else if 200 < f.co.length then 4 else firstE chkI f.co
/-- What is wrong with a program. -/
def chkP (p : Pg) : Nat :=
  if (Go.Proofs.Ytjlmgoaglpkhoaa.objs.chk p.ds).2 ≠ 0 then (Go.Proofs.Ytjlmgoaglpkhoaa.objs.chk p.ds).2
  else if 32 < p.ws.length then 4
  else if firstE (Go.Proofs.Ytjlmgoaglpkhoaa.need.chkW p.ds) p.ws ≠ 0 then firstE (Go.Proofs.Ytjlmgoaglpkhoaa.need.chkW p.ds) p.ws
  else if p.fs.length = 0 then 2
  else if 16 < p.fs.length then 4
  else firstE chkFn p.fs
theorem chkFn_zero {f : Fn} (h : chkFn f = 0) : (0 ≤ f.ar ∧ f.ar ≤ f.lo ∧ f.lo ≤ 8) ∧ 0 < f.co.length ∧ f.co.length ≤ 200 ∧ ∀ x ∈ f.co, chkI x = 0 := by
  unfold chkFn at h
  split at h
  · cases h
  · split at h
    · cases h
    · split at h
      · cases h
      · exact ⟨by omega, by omega, by omega, firstE_zero h⟩
theorem chkP_zero {p : Pg} (h : chkP p = 0) : (Go.Proofs.Ytjlmgoaglpkhoaa.objs.chk p.ds).2 = 0 ∧ p.ws.length ≤ 32 ∧ (∀ w ∈ p.ws, Go.Proofs.Ytjlmgoaglpkhoaa.need.chkW p.ds w = 0) ∧ 0 < p.fs.length ∧ p.fs.length ≤ 16 ∧ ∀ f ∈ p.fs, chkFn f = 0 := by
  unfold chkP at h
  split at h
  · exact absurd h ‹_›
  · split at h
    · cases h
    · split at h
      · exact absurd h ‹_›
      · split at h
        · cases h
        · split at h
          · cases h
          · exact ⟨by omega, by omega, firstE_zero (by omega), by omega, by omega, firstE_zero h⟩

def encIn (x : De) : List UInt8 := Go.Proofs.Ytjlmgoaglpkhoaa.inst.encI x.1 x.2.1 x.2.2
def encFn (f : Fn) : List UInt8 := num f.ar.toNat ++ (num f.lo.toNat ++ (num f.co.length ++ encAll encIn zero f.co f.co.length))
/-- The bytes of a program. -/
def encP (p : Pg) : List UInt8 :=
  [76, 74, 1] ++ (Go.Proofs.Ytjlmgoaglpkhoaa.objs.encL p.ds ++ (num p.ws.length ++ (encAll Go.Proofs.Ytjlmgoaglpkhoaa.need.encW [] p.ws p.ws.length ++ (num p.fs.length ++ encAll encFn Fn.zero p.fs p.fs.length))))

/-- A count that is read. -/
def rdMany (s : St) (most : Nat) : Nat × St × Nat := if most < (rdNum s).1 then (0, (rdNum s).2, 4) else ((rdNum s).1, (rdNum s).2, (rdNum s).2.err)
/-- A function that is read: by what reads an instruction. -/
def rdFn (rdI : St → De × St × Nat) (s : St) : Fn × St × Nat :=
  let a := rdNum s
  let b := rdNum a.2
  let n := rdMany b.2 200
  if b.2.err ≠ 0 then (Fn.zero, b.2, b.2.err)
  else if n.2.2 ≠ 0 then (Fn.zero, n.2.1, n.2.2)
  else
    let q := rdAll rdI n.2.1 n.1
    if q.2.2 ≠ 0 then (Fn.zero, q.2.1, q.2.2)
    else (⟨((min a.1 2147483648 : Nat) : Int), ((min b.1 2147483648 : Nat) : Int), q.1⟩, q.2.1, 0)
/-- The program whose bytes some are, or the first error. -/
def readP (rdI : St → De × St × Nat) (t : List UInt8) : Pg × Nat :=
  if t.take 3 ≠ [76, 74, 1] then (Pg.none, 2)
  else
    let l := Go.Proofs.Ytjlmgoaglpkhoaa.objs.readL ⟨t.drop 3, 0⟩
    if l.2.2 ≠ 0 then (Pg.none, l.2.2)
    else
      let n := rdMany l.2.1 32
      if n.2.2 ≠ 0 then (Pg.none, n.2.2)
      else
        let ws := rdAll (Go.Proofs.Ytjlmgoaglpkhoaa.need.readW l.1) n.2.1 n.1
        if ws.2.2 ≠ 0 then (Pg.none, ws.2.2)
        else
          let m := rdMany ws.2.1 16
          if m.2.2 ≠ 0 then (Pg.none, m.2.2)
          else
            let fs := rdAll (rdFn rdI) m.2.1 m.1
            if fs.2.2 ≠ 0 then (Pg.none, fs.2.2)
            else if fs.2.1.rest ≠ [] then (Pg.none, 2)
            else if chkP ⟨l.1, ws.1, fs.1⟩ ≠ 0 then (Pg.none, chkP ⟨l.1, ws.1, fs.1⟩)
            else (⟨l.1, ws.1, fs.1⟩, 0)

/-! What was put is got. -/
theorem rdMany_back {n most : Nat} (h : n ≤ most) (hm : most ≤ 1000) (more : List UInt8) : rdMany ⟨num n ++ more, 0⟩ most = (n, ⟨more, 0⟩, 0) := by
  unfold rdMany
  rw [rdNum_back (by omega)]
  dsimp only
  rw [if_neg (by omega)]
theorem readL_back {l : List De} (h : (Go.Proofs.Ytjlmgoaglpkhoaa.objs.chk l).2 = 0) (more : List UInt8) : Go.Proofs.Ytjlmgoaglpkhoaa.objs.readL ⟨Go.Proofs.Ytjlmgoaglpkhoaa.objs.encL l ++ more, 0⟩ = (l, ⟨more, 0⟩, 0) := by
  obtain ⟨hl, _, hall⟩ := Go.Proofs.Ytjlmgoaglpkhoaa.objs.chk_zero h
  have hn : Go.Proofs.Ytjlmgoaglpkhoaa.objs.rdN ⟨Go.Proofs.Ytjlmgoaglpkhoaa.objs.encL l ++ more, 0⟩ = ((l.length : Int), ⟨Go.Proofs.Ytjlmgoaglpkhoaa.objs.encs l l.length ++ more, 0⟩) := by
    unfold Go.Proofs.Ytjlmgoaglpkhoaa.objs.encL
    rw [List.append_assoc, Go.Proofs.Ytjlmgoaglpkhoaa.objs.rdN_back (by omega)]
  have hL := Go.Proofs.Ytjlmgoaglpkhoaa.objs.rdL_back hl hall l.length (Nat.le_refl _) more
  unfold Go.Proofs.Ytjlmgoaglpkhoaa.objs.readL
  have h32 : ¬ (32 : Int) < (l.length : Int) := by omega
  simp only [hn, Int.toNat_natCast, hL, List.take_length, h, ne_eq, not_true_eq_false, if_false, if_neg h32]
theorem readW_back {d : List De} {w : List (List De)} (hd : (Go.Proofs.Ytjlmgoaglpkhoaa.objs.chk d).2 = 0) (h : Go.Proofs.Ytjlmgoaglpkhoaa.need.chkW d w = 0) (more : List UInt8) : Go.Proofs.Ytjlmgoaglpkhoaa.need.readW d ⟨Go.Proofs.Ytjlmgoaglpkhoaa.need.encW w ++ more, 0⟩ = (w, ⟨more, 0⟩, 0) := by
  obtain ⟨h0, h4, hall⟩ := Go.Proofs.Ytjlmgoaglpkhoaa.need.chkW_zero h
  have hn : rdNum ⟨Go.Proofs.Ytjlmgoaglpkhoaa.need.encW w ++ more, 0⟩ = (w.length, ⟨Go.Proofs.Ytjlmgoaglpkhoaa.need.encWs w w.length ++ more, 0⟩) := by
    unfold Go.Proofs.Ytjlmgoaglpkhoaa.need.encW
    rw [List.append_assoc, rdNum_back (by omega)]
  have hL := Go.Proofs.Ytjlmgoaglpkhoaa.need.rdWays_back hd (fun l hl => (hall l hl).2) w.length (Nat.le_refl _) more
  unfold Go.Proofs.Ytjlmgoaglpkhoaa.need.readW
  have h44 : ¬ 4 < w.length := by omega
  simp only [hn, hL, List.take_length, h, ne_eq, not_true_eq_false, if_false, if_neg h44]
theorem rdFn_back {rdI : St → De × St × Nat} (hI : ∀ x, chkI x = 0 → ∀ more, rdI ⟨encIn x ++ more, 0⟩ = (x, ⟨more, 0⟩, 0)) {f : Fn} (h : chkFn f = 0) (more : List UInt8) : rdFn rdI ⟨encFn f ++ more, 0⟩ = (f, ⟨more, 0⟩, 0) := by
  obtain ⟨⟨h1, h2, h3⟩, h4, h5, h6⟩ := chkFn_zero h
  obtain ⟨ar, lo, co⟩ := f
  dsimp only at h1 h2 h3 h4 h5 h6
  have ha : rdNum ⟨encFn ⟨ar, lo, co⟩ ++ more, 0⟩ = (ar.toNat, ⟨num lo.toNat ++ (num co.length ++ (encAll encIn zero co co.length ++ more)), 0⟩) := by
    unfold encFn
    simp only [List.append_assoc]
    rw [rdNum_back (by omega)]
  have hb : rdNum ⟨num lo.toNat ++ (num co.length ++ (encAll encIn zero co co.length ++ more)), 0⟩ = (lo.toNat, ⟨num co.length ++ (encAll encIn zero co co.length ++ more), 0⟩) := rdNum_back (by omega) _
  have hn := rdMany_back h5 (by omega) (encAll encIn zero co co.length ++ more)
  have hq := rdAll_back (rd := rdI) (e := encIn) (d := zero) (l := co) (fun x hx => hI x (h6 x hx)) co.length (Nat.le_refl _) more
  unfold rdFn
  simp only [ha, hb, hn, hq, List.take_length, ne_eq, not_true_eq_false, if_false]
  have e1 : ((min ar.toNat 2147483648 : Nat) : Int) = ar := by omega
  have e2 : ((min lo.toNat 2147483648 : Nat) : Int) = lo := by omega
  rw [e1, e2]
theorem back {rdI : St → De × St × Nat} (hI : ∀ x, chkI x = 0 → ∀ more, rdI ⟨encIn x ++ more, 0⟩ = (x, ⟨more, 0⟩, 0)) {p : Pg} (h : chkP p = 0) (more : List UInt8) : readP rdI (encP p ++ more) = if more ≠ [] then (Pg.none, 2) else (p, 0) := by
  obtain ⟨h1, h2, h3, h4, h5, h6⟩ := chkP_zero h
  obtain ⟨ds, ws, fs⟩ := p
  dsimp only at h1 h2 h3 h4 h5 h6
  have ht : (encP ⟨ds, ws, fs⟩ ++ more).take 3 = [76, 74, 1] := rfl
  have hd : (encP ⟨ds, ws, fs⟩ ++ more).drop 3 = Go.Proofs.Ytjlmgoaglpkhoaa.objs.encL ds ++ (num ws.length ++ (encAll Go.Proofs.Ytjlmgoaglpkhoaa.need.encW [] ws ws.length ++ (num fs.length ++ (encAll encFn Fn.zero fs fs.length ++ more)))) := by
    unfold encP
    simp only [List.append_assoc]
    rfl
  have hl := readL_back h1 (num ws.length ++ (encAll Go.Proofs.Ytjlmgoaglpkhoaa.need.encW [] ws ws.length ++ (num fs.length ++ (encAll encFn Fn.zero fs fs.length ++ more))))
  have hn := rdMany_back h2 (by omega) (encAll Go.Proofs.Ytjlmgoaglpkhoaa.need.encW [] ws ws.length ++ (num fs.length ++ (encAll encFn Fn.zero fs fs.length ++ more)))
  have hw := rdAll_back (rd := Go.Proofs.Ytjlmgoaglpkhoaa.need.readW ds) (e := Go.Proofs.Ytjlmgoaglpkhoaa.need.encW) (d := []) (l := ws) (fun x hx => readW_back h1 (h3 x hx)) ws.length (Nat.le_refl _) (num fs.length ++ (encAll encFn Fn.zero fs fs.length ++ more))
  have hm := rdMany_back h5 (by omega) (encAll encFn Fn.zero fs fs.length ++ more)
  have hf := rdAll_back (rd := rdFn rdI) (e := encFn) (d := Fn.zero) (l := fs) (fun x hx => rdFn_back hI (h6 x hx)) fs.length (Nat.le_refl _) more
  unfold readP
  simp only [ht, hd, hl, hn, hw, hm, hf, List.take_length, h, ne_eq, not_true_eq_false, if_false]
end Go.Proofs.Ytjlmgoaglpkhoaa.pgm

/-
  The program's own calls on operations: which numbers are one, its form, what is laid, and whether the next one follows. No condition.
-/
namespace Go.Proofs.Ytjlmgoaglpkhoaa.oper
open Go.RowKit Go.ChangeShapes

theorem ret_int {k : IntKind} {a b : Int} (h : a = b) : Ending.returned (.int k a) = .returned (.int k b) := by rw [h]
theorem ret_bool {a b : Bool} (h : a = b) : Ending.returned (.bool a) = .returned (.bool b) := by rw [h]
theorem ret_string {a b : ByteArray} (h : a = b) : Ending.returned (.string a) = .returned (.string b) := by rw [h]

theorem known_yes (n : Int) (h0 : 0 ≤ n) (h1 : n ≤ 51) (w : World) : Calls Try.prog 39 #[.int .i64 n] w fun e w' => e = .returned (.bool true) ∧ w = w' := by
  have h2 : n < 52 := by omega
  go_enter Try.func39, Try.ntmps39
  go_wp2
  go_ret
  exact ⟨rfl, rfl⟩
theorem known_no (n : Int) (h : n < 0 ∨ 51 < n) (w : World) : Calls Try.prog 39 #[.int .i64 n] w fun e w' => e = .returned (.bool false) ∧ w = w' := by
  by_cases h0 : 0 ≤ n
  · have h1 : ¬ n < 52 := by omega
    have hd : decide (n < 52) = false := by simpa using h1
    go_enter Try.func39, Try.ntmps39
    go_wp2
    go_ret
    exact ⟨rfl, rfl⟩
  · have hd : decide (0 ≤ n) = false := by simpa using h0
    go_enter Try.func39, Try.ntmps39
    go_wp2
    go_ret
    exact ⟨rfl, rfl⟩

def fmL : List Int := [0, 1, 2, 18, 19, 20, 40, 26, 27, 29, 30, 31, 32, 33, 34, 35, 36, 37, 38, 39, 41, 42, 45, 46, 49, 50, 51]
def lyL : List Int := [2, 17, 18, 19, 21, 25, 16, 45]
theorem nat_of {n : Int} (h : 0 ≤ n ∧ n ≤ 51) : ∃ k : Nat, k < 52 ∧ n = (k : Int) := ⟨n.toNat, by omega, by omega⟩
theorem txt_at {l : List ByteArray} {k : Nat} (h : k < 52) : txt l (k : Int) = l.getD k ⟨#[]⟩ := by
  unfold txt
  rw [if_pos (by omega), Int.toNat_natCast]
theorem numb_at {l : List Int} {k : Nat} (h : k < 52) : numb l (k : Int) = l.getD k 0 := by
  unfold numb
  rw [if_pos (by omega), Int.toNat_natCast]
theorem txt_no {l : List ByteArray} {n : Int} (h : n < 0 ∨ 51 < n) : txt l n = ⟨#[]⟩ := by
  unfold txt
  rw [if_neg (by omega)]
theorem numb_no {l : List Int} {n : Int} (h : n < 0 ∨ 51 < n) : numb l n = 0 := by
  unfold numb
  rw [if_neg (by omega)]
theorem fm_rest : ∀ k : Nat, k < 52 → (fmL.all fun j => !((k : Int) == j)) = true → fm.getD k ⟨#[]⟩ = ⟨#[]⟩ := by decide +kernel
theorem fm_other (n : Int) (h : (fmL.all fun j => !(n == j)) = true) : txt fm n = ⟨#[]⟩ := by
  by_cases hk : 0 ≤ n ∧ n ≤ 51
  · obtain ⟨k, hk', rfl⟩ := nat_of hk
    rw [txt_at hk']
    exact fm_rest k hk' h
  · exact txt_no (by omega)
theorem ly_rest : ∀ k : Nat, k < 52 → (lyL.all fun j => !((k : Int) == j)) = true → ly.getD k 0 = 1 := by decide +kernel
theorem ly_other (n : Int) (h0 : 0 ≤ n) (h1 : n ≤ 51) (h : (lyL.all fun j => !(n == j)) = true) : numb ly n = 1 := by
  obtain ⟨k, hk, rfl⟩ := nat_of ⟨h0, h1⟩
  rw [numb_at hk]
  exact ly_rest k hk h

set_option maxHeartbeats 1000000 in
theorem pushes_yes (n : Int) (h0 : 0 ≤ n) (h1 : n ≤ 51) (w : World) : Calls Try.prog 38 #[.int .i64 n] w fun e w' => e = .returned (.int .i64 (numb ly n)) ∧ w = w' := by
  go_enter Try.func38, Try.ntmps38
  go_wp2_with (go_at_call 39; refine (known_yes n h0 h1 _).mono ?_; rintro e w' ⟨rfl, rfl⟩)
  all_goals go_ret
  all_goals refine ⟨ret_int ?_, rfl⟩
  all_goals first
    | (have hq := eq_of_beq ‹(n == _) = true›; subst hq; rfl)
    | (rw [ly_other n h0 h1 (by simp only [lyL, List.all_cons, List.all_nil, Bool.not_false, Bool.and_self, *])])
theorem pushes_no (n : Int) (h : n < 0 ∨ 51 < n) (w : World) : Calls Try.prog 38 #[.int .i64 n] w fun e w' => e = .returned (.int .i64 (numb ly n)) ∧ w = w' := by
  have HN := Lib.hid (numb_no (l := ly) h)
  go_enter Try.func38, Try.ntmps38
  go_wp2_with (go_at_call 39; refine (known_no n h _).mono ?_; rintro e w' ⟨rfl, rfl⟩)
  all_goals go_ret
  all_goals refine ⟨ret_int ?_, rfl⟩
  all_goals first
    | (exfalso; have hq := eq_of_beq ‹(n == _) = true›; omega)
    | (rw [HN.out])

/-- Whether the next instruction follows. -/
def goesB (n : Int) : Bool := decide (0 ≤ n ∧ n ≤ 51 ∧ n ≠ 18 ∧ n ≠ 21)
theorem goes_yes (n : Int) (h0 : 0 ≤ n) (h1 : n ≤ 51) (h2 : (n != 18) = true) (h3 : (n != 21) = true) (w : World) : Calls Try.prog 27 #[.int .i64 n] w fun e w' => e = .returned (.bool true) ∧ w = w' := by
  have H := Lib.hid (known_yes n h0 h1 w)
  go_enter Try.func27, Try.ntmps27
  go_wp2_with fail
  refine H.out.mono ?_
  rintro e w' ⟨rfl, rfl⟩
  go_wp2
  go_ret
  exact ⟨rfl, rfl⟩
theorem goes_not (n : Int) (h : n < 0 ∨ 51 < n) (w : World) : Calls Try.prog 27 #[.int .i64 n] w fun e w' => e = .returned (.bool false) ∧ w = w' := by
  have H := Lib.hid (known_no n h w)
  clear h
  go_enter Try.func27, Try.ntmps27
  go_wp2_with fail
  refine H.out.mono ?_
  rintro e w' ⟨rfl, rfl⟩
  go_wp2
  go_ret
  exact ⟨rfl, rfl⟩
theorem goes_18 (w : World) : Calls Try.prog 27 #[.int .i64 18] w fun e w' => e = .returned (.bool false) ∧ w = w' := by
  have H := Lib.hid (known_yes 18 (by omega) (by omega) w)
  go_enter Try.func27, Try.ntmps27
  go_wp2_with fail
  refine H.out.mono ?_
  rintro e w' ⟨rfl, rfl⟩
  go_wp2
  go_ret
  exact ⟨rfl, rfl⟩
theorem goes_21 (w : World) : Calls Try.prog 27 #[.int .i64 21] w fun e w' => e = .returned (.bool false) ∧ w = w' := by
  have H := Lib.hid (known_yes 21 (by omega) (by omega) w)
  go_enter Try.func27, Try.ntmps27
  go_wp2_with fail
  refine H.out.mono ?_
  rintro e w' ⟨rfl, rfl⟩
  go_wp2
  go_ret
  exact ⟨rfl, rfl⟩
theorem goes_any (n : Int) (w : World) : Calls Try.prog 27 #[.int .i64 n] w fun e w' => e = .returned (.bool (goesB n)) ∧ w = w' := by
  unfold goesB
  by_cases h : 0 ≤ n ∧ n ≤ 51
  · by_cases h2 : n = 18
    · subst h2; exact goes_18 w
    · by_cases h3 : n = 21
      · subst h3; exact goes_21 w
      · rw [decide_eq_true (by omega)]
        exact goes_yes n h.1 h.2 (by simpa using h2) (by simpa using h3) w
  · rw [decide_eq_false (by omega)]
    exact goes_not n (by omega) w
end Go.Proofs.Ytjlmgoaglpkhoaa.oper

/-
  How many values an instruction takes: the program's own call, wherever the second operand is not the greatest number. 
-/
namespace Go.Proofs.Ytjlmgoaglpkhoaa.oper
open Go.RowKit Go.ChangeShapes

def tkL : List Int := [20, 42, 41, 3, 4, 5, 6, 7, 9, 10, 11, 12, 13, 14, 15, 40, 43, 2, 8, 16, 17, 19, 21, 24, 27, 28, 30, 31, 33, 39, 44, 46, 49]
theorem tk_rest : ∀ k : Nat, k < 52 → (tkL.all fun j => !((k : Int) == j)) = true → tk.getD k 0 = 0 := by decide +kernel
theorem tk_other (n : Int) (h : (tkL.all fun j => !(n == j)) = true) : numb tk n = 0 := by
  by_cases hk : 0 ≤ n ∧ n ≤ 51
  · obtain ⟨k, hk', rfl⟩ := nat_of hk
    rw [numb_at hk']
    exact tk_rest k hk' h
  · exact numb_no (by omega)
/-- How many values are taken, by operation, second operand, and arguments. -/
def pops (o b args : Int) : Int := if o = 20 then args else if o = 41 then b else if o = 42 then 1 + b else numb tk o
/-- The memory that an instruction handed in by value takes. -/
def insBox (o a b : Int) : Obj := .cells #[.int .i64 o, .int .i64 a, .int .i64 b] 40
theorem pops_other (n b args : Int) (h : (tkL.all fun j => !(n == j)) = true) : pops n b args = 0 := by
  have hne : ∀ j ∈ tkL, n ≠ j := fun j hj => by simpa using List.all_eq_true.1 h j hj
  unfold pops
  rw [if_neg (hne 20 (by decide)), if_neg (hne 41 (by decide)), if_neg (hne 42 (by decide)), tk_other n h]

set_option maxHeartbeats 2000000 in
theorem pops_any (o a b args : Int) (hb0 : -9223372036854775808 ≤ b) (hb1 : b < 9223372036854775807) (w : World) :
    Calls Try.prog 36 #[.agg #[.int .i64 o, .int .i64 a, .int .i64 b], .int .i64 args] w fun e w' => e = .returned (.int .i64 (pops o b args)) ∧ w' = w.alloc (insBox o a b) := by
  go_enter Try.func36, Try.ntmps36
  go_wp2
  all_goals go_ret
  all_goals refine ⟨ret_int ?_, rfl⟩
  all_goals first
    | (have hq := eq_of_beq ‹(o == _) = true›; subst hq; first | rfl | (unfold pops; simp only [Int.zero_add]; rfl))
    | (rw [pops_other o b args (by simp only [tkL, List.all_cons, List.all_nil, Bool.not_false, Bool.and_self, *])])
end Go.Proofs.Ytjlmgoaglpkhoaa.oper

/-
  How many values stand on the stack ahead of each instruction of a function, and what is wrong first: plain mathematics of lists; and that depths without an error are kept by every step. No condition.
-/
namespace Go.Proofs.Ytjlmgoaglpkhoaa.pgm.dep
open Go.Proofs.Ytjlmgoaglpkhoaa.pgm
open Go.Proofs.Ytjlmgoaglpkhoaa.objs (De zero)
open Go.Proofs.Ytjlmgoaglpkhoaa.oper (pops numb ly)
set_option linter.unusedVariables false

/-- How many arguments an instruction's function has; 0: there is no such function, or it is no call. -/
def argsOf (fs : List Fn) (x : De) : Int := if x.1 = 20 ∧ x.2.1 < (fs.length : Int) then (fs.getD x.2.1.toNat Fn.zero).ar else 0
/-- The depth behind an instruction; below 0: it takes more than there is. -/
def behind (fs : List Fn) (x : De) (d : Int) : Int := if d - pops x.1 x.2.2 (argsOf fs x) < 0 then -1 else d - pops x.1 x.2.2 (argsOf fs x) + numb ly x.1
/-- Where an instruction leads. -/
def ways (x : De) (a : Nat) : List Nat := (if x.1 ≠ 18 ∧ x.1 ≠ 21 then [a + 1] else []) ++ (if x.1 = 18 ∨ x.1 = 19 then [x.2.1.toNat] else [])
/-- Depths, way by way. -/
def lead (n : Nat) (d : Int) : List Nat → List Int → List Int × Nat
  | [], dp => (dp, 0)
  | t :: l, dp => if n ≤ t then (dp, 3) else if 0 ≤ dp.getD t (-1) ∧ dp.getD t (-1) ≠ d then (dp, 2) else lead n d l (dp.set t d)
/-- What is wrong with one instruction, and the depths behind it. -/
def one (fs : List Fn) (co : List De) (dp : List Int) (a : Nat) : List Int × Nat :=
  if behind fs (co.getD a zero) (dp.getD a (-1)) < 0 then (dp, 2)
  else if 16 < behind fs (co.getD a zero) (dp.getD a (-1)) then (dp, 4)
  else lead co.length (behind fs (co.getD a zero) (dp.getD a (-1))) (ways (co.getD a zero) a) dp
/-- Which one is looked at next; how many there are: none. -/
def pick (dp : List Int) (dn : List Bool) (n : Nat) : Nat := (List.range n).findIdx fun i => !dn.getD i true && decide (0 ≤ dp.getD i (-1))
structure Q where
  dp : List Int
  dn : List Bool
  first : Nat
  bad : Nat
/-- One is looked at. -/
def stepQ (fs : List Fn) (co : List De) (q : Q) (a : Nat) : Q :=
  if (one fs co q.dp a).2 ≠ 0 ∧ a < q.first then ⟨(one fs co q.dp a).1, q.dn.set a true, a, (one fs co q.dp a).2⟩ else ⟨(one fs co q.dp a).1, q.dn.set a true, q.first, q.bad⟩
/-- The first j of them are looked at. -/
def runQ (fs : List Fn) (co : List De) : Nat → Q → Q
  | 0, q => q
  | j + 1, q => if pick q.dp q.dn co.length < co.length then runQ fs co j (stepQ fs co q (pick q.dp q.dn co.length)) else q
def startQ (co : List De) : Q := ⟨0 :: List.replicate (co.length - 1) (-1), List.replicate co.length false, co.length, 0⟩
/-- The depths of a function, or the place and the error of what is wrong. -/
def depths (fs : List Fn) (fn : Int) : List Int × Nat × Nat :=
  if fn < 0 ∨ (fs.length : Int) ≤ fn then ([], 0, 19)
  else
    let co := (fs.getD fn.toNat Fn.zero).co
    if co.length = 0 then ([], 0, 3)
    else if (runQ fs co co.length (startQ co)).bad ≠ 0 then ([], (runQ fs co co.length (startQ co)).first, (runQ fs co co.length (startQ co)).bad)
    else ((runQ fs co co.length (startQ co)).dp, 0, 0)

theorem tk_small : ∀ k, k < 52 → 0 ≤ Go.Proofs.Ytjlmgoaglpkhoaa.oper.tk.getD k 0 ∧ Go.Proofs.Ytjlmgoaglpkhoaa.oper.tk.getD k 0 ≤ 2 := by decide +kernel
theorem ly_small : ∀ k, k < 52 → 0 ≤ ly.getD k 0 ∧ ly.getD k 0 ≤ 2 := by decide +kernel
theorem numb_small {l : List Int} (hl : ∀ k, k < 52 → 0 ≤ l.getD k 0 ∧ l.getD k 0 ≤ 2) (n : Int) : 0 ≤ numb l n ∧ numb l n ≤ 2 := by
  unfold numb
  by_cases h : 0 ≤ n ∧ n ≤ 51
  · rw [if_pos h]; exact hl _ (by omega)
  · rw [if_neg h]; omega
/-- An operand of an instruction that may be is in the range of its letter. -/
theorem letter {x : De} (h : Go.Proofs.Ytjlmgoaglpkhoaa.pgm.chkI x = 0) {o : Int} {f : List UInt8} {c : UInt8} {j : Nat} (ho : x.1 = o) (hf : Go.Proofs.Ytjlmgoaglpkhoaa.inst.form o = f) (hj : j < f.length) (hc : f.getD j 0 = c) (hn : c ≠ 110) :
    Go.Proofs.Ytjlmgoaglpkhoaa.inst.least c ≤ Go.Proofs.Ytjlmgoaglpkhoaa.inst.opd x.2.1 x.2.2 j ∧ Go.Proofs.Ytjlmgoaglpkhoaa.inst.opd x.2.1 x.2.2 j ≤ Go.Proofs.Ytjlmgoaglpkhoaa.inst.most c := by
  obtain ⟨_, h2⟩ := Go.Proofs.Ytjlmgoaglpkhoaa.inst.chk_zero h
  rw [ho, hf] at h2
  have h3 := (Go.Proofs.Ytjlmgoaglpkhoaa.inst.chkF_zero h2).1 j hj
  unfold Go.Proofs.Ytjlmgoaglpkhoaa.inst.okAt Go.Proofs.Ytjlmgoaglpkhoaa.inst.fitsB at h3
  rw [hc, if_neg hn] at h3
  exact of_decide_eq_true h3
theorem second : ∀ k, k < 52 → 1 < (Go.Proofs.Ytjlmgoaglpkhoaa.oper.fm.getD k ⟨#[]⟩).data.toList.length → (Go.Proofs.Ytjlmgoaglpkhoaa.oper.fm.getD k ⟨#[]⟩).data.toList.getD 1 0 = 109 ∨ (Go.Proofs.Ytjlmgoaglpkhoaa.oper.fm.getD k ⟨#[]⟩).data.toList.getD 1 0 = 106 := by decide +kernel
/-- The second operand of an instruction that may be. -/
theorem b_small {x : De} (h : Go.Proofs.Ytjlmgoaglpkhoaa.pgm.chkI x = 0) : 0 ≤ x.2.2 ∧ x.2.2 ≤ 31 := by
  obtain ⟨hk, h2⟩ := Go.Proofs.Ytjlmgoaglpkhoaa.inst.chk_zero h
  obtain ⟨k, hk1, hk2⟩ := Go.Proofs.Ytjlmgoaglpkhoaa.oper.nat_of hk
  have hF : Go.Proofs.Ytjlmgoaglpkhoaa.inst.form x.1 = (Go.Proofs.Ytjlmgoaglpkhoaa.oper.fm.getD k ⟨#[]⟩).data.toList := by
    unfold Go.Proofs.Ytjlmgoaglpkhoaa.inst.form
    rw [hk2, Go.Proofs.Ytjlmgoaglpkhoaa.oper.txt_at hk1]
  rcases Nat.lt_or_ge 1 (Go.Proofs.Ytjlmgoaglpkhoaa.oper.fm.getD k ⟨#[]⟩).data.toList.length with hl | hl
  · rcases second k hk1 hl with hc | hc
    · have := letter h rfl hF (j := 1) hl hc (by decide)
      exact ⟨this.1, this.2⟩
    · have := letter h rfl hF (j := 1) hl hc (by decide)
      have e1 : Go.Proofs.Ytjlmgoaglpkhoaa.inst.least 106 = 1 := rfl
      have e2 : Go.Proofs.Ytjlmgoaglpkhoaa.inst.most 106 = 4 := rfl
      have e3 : Go.Proofs.Ytjlmgoaglpkhoaa.inst.opd x.2.1 x.2.2 1 = x.2.2 := rfl
      omega
  · have h3 := (Go.Proofs.Ytjlmgoaglpkhoaa.inst.chkF_zero h2).2.2 1 (by rw [hF]; exact hl) (by decide)
    have e3 : Go.Proofs.Ytjlmgoaglpkhoaa.inst.opd x.2.1 x.2.2 1 = x.2.2 := rfl
    omega
theorem form_41 : Go.Proofs.Ytjlmgoaglpkhoaa.inst.form 41 = [106, 106] := by decide +kernel
theorem form_42 : Go.Proofs.Ytjlmgoaglpkhoaa.inst.form 42 = [106, 106] := by decide +kernel
theorem form_18 : Go.Proofs.Ytjlmgoaglpkhoaa.inst.form 18 = [116] := by decide +kernel
theorem form_19 : Go.Proofs.Ytjlmgoaglpkhoaa.inst.form 19 = [116] := by decide +kernel
theorem form_20 : Go.Proofs.Ytjlmgoaglpkhoaa.inst.form 20 = [102] := by decide +kernel
theorem args_small {fs : List Fn} (hf : ∀ f ∈ fs, 0 ≤ f.ar ∧ f.ar ≤ 8) (x : De) : 0 ≤ argsOf fs x ∧ argsOf fs x ≤ 8 := by
  unfold argsOf
  split
  · rename_i h
    rcases Nat.lt_or_ge x.2.1.toNat fs.length with hl | hl
    · exact hf _ (Go.Proofs.Ytjlmgoaglpkhoaa.pgm.getD_in hl)
    · rw [List.getD_eq_getElem?_getD, List.getElem?_eq_none hl]
      decide
  · omega
/-- What an instruction that may be takes is little. -/
theorem pops_small {fs : List Fn} (hf : ∀ f ∈ fs, 0 ≤ f.ar ∧ f.ar ≤ 8) {x : De} (h : Go.Proofs.Ytjlmgoaglpkhoaa.pgm.chkI x = 0) : 0 ≤ pops x.1 x.2.2 (argsOf fs x) ∧ pops x.1 x.2.2 (argsOf fs x) ≤ 8 := by
  have ha := args_small hf x
  unfold pops
  split
  · exact ha
  · split
    · rename_i h1
      have := letter h h1 form_41 (j := 1) (by decide) (c := 106) rfl (by decide)
      exact ⟨Int.le_trans (by decide) this.1, Int.le_trans this.2 (by decide)⟩
    · split
      · rename_i h1
        have := letter h h1 form_42 (j := 1) (by decide) (c := 106) rfl (by decide)
        have e1 : Go.Proofs.Ytjlmgoaglpkhoaa.inst.least 106 = 1 := rfl
        have e2 : Go.Proofs.Ytjlmgoaglpkhoaa.inst.most 106 = 4 := rfl
        have e3 : Go.Proofs.Ytjlmgoaglpkhoaa.inst.opd x.2.1 x.2.2 1 = x.2.2 := rfl
        omega
      · have := numb_small tk_small x.1
        omega
/-- The place that a jump or a zero names. -/
theorem place_small {x : De} (h : Go.Proofs.Ytjlmgoaglpkhoaa.pgm.chkI x = 0) (ho : x.1 = 18 ∨ x.1 = 19) : 0 ≤ x.2.1 ∧ x.2.1 ≤ 199 := by
  rcases ho with h1 | h1
  · have := letter h h1 form_18 (j := 0) (by decide) (c := 116) rfl (by decide)
    exact ⟨this.1, this.2⟩
  · have := letter h h1 form_19 (j := 0) (by decide) (c := 116) rfl (by decide)
    exact ⟨this.1, this.2⟩
theorem func_small {x : De} (h : Go.Proofs.Ytjlmgoaglpkhoaa.pgm.chkI x = 0) (ho : x.1 = 20) : 0 ≤ x.2.1 ∧ x.2.1 ≤ 15 := by
  have := letter h ho form_20 (j := 0) (by decide) (c := 102) rfl (by decide)
  exact ⟨this.1, this.2⟩
/-- What an instruction lays. -/
theorem lays_small (n : Int) : 0 ≤ numb ly n ∧ numb ly n ≤ 2 := numb_small ly_small n
/-- Depths of which each that is told is kept by each step. -/
def Sound (fs : List Fn) (co : List De) (dp : List Int) : Prop :=
  dp.length = co.length ∧ dp.getD 0 (-1) = 0 ∧ ∀ a, a < co.length → 0 ≤ dp.getD a (-1) →
    0 ≤ behind fs (co.getD a zero) (dp.getD a (-1)) ∧ behind fs (co.getD a zero) (dp.getD a (-1)) ≤ 16 ∧
    ∀ t ∈ ways (co.getD a zero) a, t < co.length ∧ dp.getD t (-1) = behind fs (co.getD a zero) (dp.getD a (-1))

theorem lead_length {n : Nat} {d : Int} : ∀ (l : List Nat) (dp : List Int), (lead n d l dp).1.length = dp.length := by
  intro l
  induction l with
  | nil => intro dp; rfl
  | cons t l ih =>
    intro dp
    unfold lead
    split
    · rfl
    · split
      · rfl
      · rw [ih, List.length_set]
theorem getD_set {α : Type} {l : List α} {t : Nat} {x d : α} (i : Nat) : (l.set t x).getD i d = if t = i ∧ i < l.length then x else l.getD i d := by
  rw [List.getD_eq_getElem?_getD, List.getD_eq_getElem?_getD, List.getElem?_set]
  by_cases h : t = i
  · subst h
    by_cases h2 : t < l.length
    · simp [h2]
    · rw [if_pos rfl, if_neg h2, if_neg (by omega), List.getElem?_eq_none (by omega)]
  · rw [if_neg h, if_neg (fun e => h e.1)]
/-- What is known stays. -/
theorem lead_keeps {n : Nat} {d : Int} : ∀ (l : List Nat) (dp : List Int) (i : Nat), 0 ≤ dp.getD i (-1) → (lead n d l dp).1.getD i (-1) = dp.getD i (-1) := by
  intro l
  induction l with
  | nil => intro dp i h; rfl
  | cons t l ih =>
    intro dp i h
    unfold lead
    split
    · rfl
    · split
      · rfl
      · rename_i h1 h2
        have e : (dp.set t d).getD i (-1) = dp.getD i (-1) := by
          rw [getD_set]
          split
          · rename_i h3
            obtain ⟨rfl, _⟩ := h3
            by_cases h4 : dp.getD t (-1) = d
            · exact h4.symm
            · exact absurd ⟨h, h4⟩ h2
          · rfl
        rw [ih (dp.set t d) i (by rw [e]; exact h), e]
/-- Without an error each way is there, and has this depth. -/
theorem lead_fine {n : Nat} {d : Int} (hd : 0 ≤ d) : ∀ (l : List Nat) (dp : List Int), dp.length = n → (lead n d l dp).2 = 0 → ∀ t ∈ l, t < n ∧ (lead n d l dp).1.getD t (-1) = d := by
  intro l
  induction l with
  | nil => intro dp _ _ t ht; cases ht
  | cons s l ih =>
    intro dp hn h t ht
    unfold lead at h ⊢
    split at h
    · cases h
    · split at h
      · cases h
      · rename_i h1 h2
        rw [if_neg h1, if_neg h2]
        rcases List.mem_cons.1 ht with rfl | ht
        · have e : (dp.set t d).getD t (-1) = d := by rw [getD_set, if_pos ⟨rfl, by omega⟩]
          exact ⟨by omega, (lead_keeps l _ t (by rw [e]; exact hd)).trans e⟩
        · exact ih (dp.set s d) (by rw [List.length_set]; exact hn) h t ht
/-- Only what it leads to, at this depth, becomes known. -/
theorem lead_new {n : Nat} {d : Int} : ∀ (l : List Nat) (dp : List Int) (i : Nat), 0 ≤ (lead n d l dp).1.getD i (-1) → 0 ≤ dp.getD i (-1) ∨ (lead n d l dp).1.getD i (-1) = d := by
  intro l
  induction l with
  | nil => intro dp i h; exact .inl h
  | cons s l ih =>
    intro dp i h
    unfold lead at h ⊢
    split at h
    · exact .inl h
    · split at h
      · exact .inl h
      · rename_i h1 h2
        rw [if_neg h1, if_neg h2]
        rcases ih (dp.set s d) i h with h3 | h3
        · rw [getD_set] at h3
          by_cases hc : s = i ∧ i < dp.length
          · obtain ⟨rfl, hc⟩ := hc
            rw [if_pos ⟨rfl, hc⟩] at h3
            have e : (dp.set s d).getD s (-1) = d := by rw [getD_set, if_pos ⟨rfl, hc⟩]
            exact .inr ((lead_keeps l _ s (by rw [e]; exact h3)).trans e)
          · rw [if_neg hc] at h3
            exact .inl h3
        · exact .inr h3
theorem one_length (fs : List Fn) (co : List De) (dp : List Int) (a : Nat) : (one fs co dp a).1.length = dp.length := by
  unfold one
  split
  · rfl
  · split
    · rfl
    · exact lead_length _ _
theorem one_keeps (fs : List Fn) (co : List De) (dp : List Int) (a i : Nat) (h : 0 ≤ dp.getD i (-1)) : (one fs co dp a).1.getD i (-1) = dp.getD i (-1) := by
  unfold one
  split
  · rfl
  · split
    · rfl
    · exact lead_keeps _ _ _ h
theorem lead_rng {n : Nat} {d : Int} (h0 : 0 ≤ d) (h1 : d ≤ 16) : ∀ (l : List Nat) (dp : List Int), (∀ x ∈ dp, -1 ≤ x ∧ x ≤ 16) → ∀ x ∈ (lead n d l dp).1, -1 ≤ x ∧ x ≤ 16 := by
  intro l
  induction l with
  | nil => intro dp h; exact h
  | cons t l ih =>
    intro dp h
    unfold lead
    split
    · exact h
    · split
      · exact h
      · refine ih _ fun x hx => ?_
        rcases List.mem_or_eq_of_mem_set hx with hx | rfl
        · exact h x hx
        · omega
theorem one_rng (fs : List Fn) (co : List De) (dp : List Int) (a : Nat) (h : ∀ x ∈ dp, -1 ≤ x ∧ x ≤ 16) : ∀ x ∈ (one fs co dp a).1, -1 ≤ x ∧ x ≤ 16 := by
  unfold one
  split
  · exact h
  · split
    · exact h
    · exact lead_rng (by omega) (by omega) _ _ h
/-- What holds between any two rounds, while nothing is wrong: who has been looked at is sound. -/
structure Inv (fs : List Fn) (co : List De) (q : Q) : Prop where
  ld : q.dp.length = co.length
  ln : q.dn.length = co.length
  fl : q.first ≤ co.length
  zero : q.dp.getD 0 (-1) = 0
  rng : ∀ x ∈ q.dp, -1 ≤ x ∧ x ≤ 16
  known : ∀ a, q.dn.getD a true = true → a < co.length → 0 ≤ q.dp.getD a (-1)
  sound : q.bad = 0 → q.first = co.length ∧ ∀ a, a < co.length → q.dn.getD a true = true →
    0 ≤ behind fs (co.getD a Go.Proofs.Ytjlmgoaglpkhoaa.objs.zero) (q.dp.getD a (-1)) ∧ behind fs (co.getD a Go.Proofs.Ytjlmgoaglpkhoaa.objs.zero) (q.dp.getD a (-1)) ≤ 16 ∧
    ∀ t ∈ ways (co.getD a Go.Proofs.Ytjlmgoaglpkhoaa.objs.zero) a, t < co.length ∧ q.dp.getD t (-1) = behind fs (co.getD a Go.Proofs.Ytjlmgoaglpkhoaa.objs.zero) (q.dp.getD a (-1))
theorem pick_lt {dp : List Int} {dn : List Bool} {n : Nat} (h : pick dp dn n < n) : dn.getD (pick dp dn n) true = false ∧ 0 ≤ dp.getD (pick dp dn n) (-1) := by
  have hl : pick dp dn n < (List.range n).length := by rw [List.length_range]; exact h
  have h1 := List.findIdx_getElem (xs := List.range n) (p := fun i => !dn.getD i true && decide (0 ≤ dp.getD i (-1))) (w := hl)
  have e : (List.range n)[pick dp dn n]'hl = pick dp dn n := List.getElem_range _
  unfold pick at e ⊢
  rw [e] at h1
  simpa only [Bool.and_eq_true, Bool.not_eq_true', decide_eq_true_eq] using h1
theorem pick_none {dp : List Int} {dn : List Bool} {n : Nat} (h : ¬ pick dp dn n < n) : ∀ i, i < n → dn.getD i true = true ∨ dp.getD i (-1) < 0 := by
  intro i hi
  have h1 := List.not_of_lt_findIdx (xs := List.range n) (p := fun i => !dn.getD i true && decide (0 ≤ dp.getD i (-1))) (i := i) (by show i < pick dp dn n; omega)
  have e : (List.range n)[i]'(by rw [List.length_range]; exact hi) = i := List.getElem_range _
  rw [e] at h1
  cases hd : dn.getD i true with
  | true => exact .inl rfl
  | false =>
    right
    by_cases hp : 0 ≤ dp.getD i (-1)
    · rw [hd, decide_eq_true hp] at h1
      cases h1
    · omega
theorem dn_set {l : List Bool} {a i : Nat} (h : (l.set a true).getD i true = true) (hne : i ≠ a) : l.getD i true = true := by
  rw [getD_set, if_neg (fun e => hne e.1.symm)] at h
  exact h
theorem Inv.step {fs : List Fn} {co : List De} {q : Q} (h : Inv fs co q) {a : Nat} (ha : a < co.length) (h0 : 0 ≤ q.dp.getD a (-1)) : Inv fs co (stepQ fs co q a) := by
  have hk := one_keeps fs co q.dp a
  have hl := one_length fs co q.dp a
  have ez : (one fs co q.dp a).1.getD 0 (-1) = 0 := by rw [hk 0 (by rw [h.zero]; exact Int.le_refl 0)]; exact h.zero
  have er := one_rng fs co q.dp a h.rng
  have en : ∀ i, (q.dn.set a true).getD i true = true → i < co.length → 0 ≤ (one fs co q.dp a).1.getD i (-1) := by
    intro i hi hlt
    by_cases hne : i = a
    · subst hne; rw [hk i h0]; exact h0
    · have := h.known i (dn_set hi hne) hlt
      rw [hk i this]; exact this
  unfold stepQ
  by_cases hc : (one fs co q.dp a).2 ≠ 0 ∧ a < q.first
  · rw [if_pos hc]
    exact ⟨hl.trans h.ld, by simp [h.ln], Nat.le_of_lt ha, ez, er, en, fun hb => absurd hb hc.1⟩
  · rw [if_neg hc]
    refine ⟨hl.trans h.ld, by simp [h.ln], h.fl, ez, er, en, fun hb => ?_⟩
    obtain ⟨hf, hs⟩ := h.sound hb
    refine ⟨hf, fun i hi hd => ?_⟩
    have he : (one fs co q.dp a).2 = 0 := by
      by_cases e : (one fs co q.dp a).2 = 0
      · exact e
      · exact absurd ⟨e, by rw [hf]; exact ha⟩ hc
    by_cases hne : i = a
    · subst hne
      show 0 ≤ behind fs _ ((one fs co q.dp i).1.getD i (-1)) ∧ behind fs _ ((one fs co q.dp i).1.getD i (-1)) ≤ 16 ∧ ∀ t ∈ _, t < co.length ∧ (one fs co q.dp i).1.getD t (-1) = behind fs _ ((one fs co q.dp i).1.getD i (-1))
      rw [hk i h0]
      unfold one at he ⊢
      split at he
      · cases he
      · split at he
        · cases he
        · rename_i h1 h2
          rw [if_neg h1, if_neg h2]
          exact ⟨by omega, by omega, lead_fine (by omega) _ _ h.ld he⟩
    · have hd' := dn_set hd hne
      obtain ⟨s1, s2, s3⟩ := hs i hi hd'
      show 0 ≤ behind fs _ ((one fs co q.dp a).1.getD i (-1)) ∧ behind fs _ ((one fs co q.dp a).1.getD i (-1)) ≤ 16 ∧ ∀ t ∈ _, t < co.length ∧ (one fs co q.dp a).1.getD t (-1) = behind fs _ ((one fs co q.dp a).1.getD i (-1))
      rw [hk i (h.known i hd' hi)]
      refine ⟨s1, s2, fun t ht => ?_⟩
      obtain ⟨t1, t2⟩ := s3 t ht
      exact ⟨t1, by rw [hk t (by rw [t2]; exact s1)]; exact t2⟩
/-- How many have not been looked at. -/
def left (dn : List Bool) : Nat := dn.countP fun b => !b
theorem left_set : ∀ {l : List Bool} {a : Nat}, a < l.length → l.getD a true = false → left (l.set a true) + 1 = left l := by
  intro l
  induction l with
  | nil => intro a h; cases h
  | cons b l ih =>
    intro a h hb
    cases a with
    | zero =>
      have : b = false := hb
      subst this
      simp [left]
    | succ a =>
      have := ih (a := a) (by simpa using h) (by simpa using hb)
      unfold left at this ⊢
      rw [List.set_cons_succ, List.countP_cons, List.countP_cons]
      omega
theorem run_inv {fs : List Fn} {co : List De} : ∀ (j : Nat) (q : Q), Inv fs co q → left q.dn ≤ j → Inv fs co (runQ fs co j q) ∧ ¬ pick (runQ fs co j q).dp (runQ fs co j q).dn co.length < co.length := by
  intro j
  induction j with
  | zero =>
    intro q h hj
    refine ⟨h, fun hp => ?_⟩
    obtain ⟨h1, _⟩ := pick_lt hp
    have := left_set (l := q.dn) (a := pick q.dp q.dn co.length) (by rw [h.ln]; exact hp) h1
    omega
  | succ j ih =>
    intro q h hj
    unfold runQ
    by_cases hp : pick q.dp q.dn co.length < co.length
    · rw [if_pos hp]
      obtain ⟨h1, h2⟩ := pick_lt hp
      have hl := left_set (l := q.dn) (a := pick q.dp q.dn co.length) (by rw [h.ln]; exact hp) h1
      refine ih _ (h.step hp h2) ?_
      have : (stepQ fs co q (pick q.dp q.dn co.length)).dn = q.dn.set (pick q.dp q.dn co.length) true := by unfold stepQ; split <;> rfl
      rw [this]
      omega
    · rw [if_neg hp]
      exact ⟨h, hp⟩
theorem start_inv {fs : List Fn} {co : List De} (h : 0 < co.length) : Inv fs co (startQ co) := by
  have hf : ∀ a, a < co.length → (List.replicate co.length false).getD a true = false := fun a ha => by
    rw [List.getD_eq_getElem?_getD, List.getElem?_replicate, if_pos ha]; rfl
  refine ⟨by simp [startQ]; omega, by simp [startQ], Nat.le_refl _, rfl, fun x hx => ?_, fun a hd ha => ?_, fun _ => ⟨rfl, fun a ha hd => ?_⟩⟩
  · rcases List.mem_cons.1 hx with rfl | hx
    · omega
    · have := List.eq_of_mem_replicate hx
      omega
  · rw [show (startQ co).dn = List.replicate co.length false from rfl, hf a ha] at hd; cases hd
  · rw [show (startQ co).dn = List.replicate co.length false from rfl, hf a ha] at hd; cases hd
theorem left_start (co : List De) : left (startQ co).dn ≤ co.length := by
  have := List.countP_le_length (p := fun b => !b) (l := (startQ co).dn)
  simpa [startQ, left] using this
/-- Depths without an error are sound. -/
theorem depths_sound {fs : List Fn} {fn : Int} {dp : List Int} {a : Nat} (h : depths fs fn = (dp, a, 0)) : 0 ≤ fn ∧ fn < (fs.length : Int) ∧ 0 < (fs.getD fn.toNat Fn.zero).co.length ∧ Sound fs (fs.getD fn.toNat Fn.zero).co dp ∧ ∀ x ∈ dp, -1 ≤ x ∧ x ≤ 16 := by
  unfold depths at h
  split at h
  · cases h
  · rename_i h1
    dsimp only at h
    split at h
    · cases h
    · rename_i h2
      have hp : 0 < (fs.getD fn.toNat Fn.zero).co.length := by omega
      refine ⟨by omega, by omega, hp, ?_⟩
      obtain ⟨hi, hn⟩ := run_inv (fs := fs) _ _ (start_inv hp) (left_start _)
      split at h
      · rename_i h3
        injection h with _ h4
        injection h4 with _ h5
        exact absurd h5 h3
      · rename_i h3
        injection h with h4 _
        subst h4
        obtain ⟨_, hs⟩ := hi.sound (by omega)
        refine ⟨⟨hi.ld, hi.zero, fun b hb h0 => ?_⟩, hi.rng⟩
        rcases pick_none hn b hb with hd | hd
        · exact hs b hb hd
        · omega
/-- The greatest of a list that is not below 0. -/
def most (l : List Int) : Int := l.foldl max 0
theorem foldl_ge (l : List Int) : ∀ m : Int, m ≤ l.foldl max m ∧ ∀ x ∈ l, x ≤ l.foldl max m := by
  induction l with
  | nil => intro m; exact ⟨Int.le_refl m, fun x hx => by cases hx⟩
  | cons y l ih =>
    intro m
    obtain ⟨h1, h2⟩ := ih (max m y)
    refine ⟨by simp only [List.foldl_cons]; omega, fun x hx => ?_⟩
    simp only [List.foldl_cons]
    rcases List.mem_cons.1 hx with rfl | hx
    · omega
    · exact h2 x hx
theorem most_ge (l : List Int) : ∀ x ∈ l, x ≤ most l := (foldl_ge l 0).2
theorem most_zero (l : List Int) : 0 ≤ most l := (foldl_ge l 0).1
theorem foldl_in (l : List Int) : ∀ m : Int, l.foldl max m = m ∨ l.foldl max m ∈ l := by
  induction l with
  | nil => intro m; exact .inl rfl
  | cons y l ih =>
    intro m
    simp only [List.foldl_cons, List.mem_cons]
    rcases ih (max m y) with h | h
    · rw [h]
      by_cases hc : m ≤ y
      · right; left; omega
      · left; omega
    · exact .inr (.inr h)
theorem most_in (l : List Int) : most l = 0 ∨ most l ∈ l := foldl_in l 0
end Go.Proofs.Ytjlmgoaglpkhoaa.pgm.dep

/-
  The program's table of names lies where its initialiser lays it; with that: an operation's name, and the operation of a name. The card ties the table to the program's text.
-/
namespace Go.Proofs.Ytjlmgoaglpkhoaa.oper
open Go.RowKit Go.ChangeShapes

/-- What Of answers of a name: the operation, and whether there is one. -/
def ofK (s : ByteArray) : Int := if idx s < 52 then idx s else 0
def ofB (s : ByteArray) : Bool := decide (idx s < 52)
def OfPost (s : ByteArray) (w : World) (e : Ending) (w' : World) : Prop := e = .returned (.tuple #[.int .i64 (ofK s), .bool (ofB s)]) ∧ w = w'

end Go.Proofs.Ytjlmgoaglpkhoaa.oper

/-
  The document's own answers of operations, each by itself: its tables, which numbers are operations, the operation of a name, form, what is taken and laid. No condition but that an operand is not the greatest number.
-/
namespace Go.Proofs.Ytjlmgoaglpkhoaa.oper
open Go.RowKit Go.ChangeShapes
set_option linter.unusedVariables false

theorem row_cell {α : Type} (f : α → Value) (l : List α) (d : α) (T : TypeId) (w : World) {j : Nat} (hj : j < l.length) : (w.alloc (.cells (l.map f).toArray T)).cell? ⟨w.heap.size, j, none⟩ = some (f (l.getD j d)) := by
  have hb : (w.alloc (.cells (l.map f).toArray T)).heap[w.heap.size]? = some (.cells (l.map f).toArray T) := heap_alloc_new w _
  unfold World.cell?
  rw [hb]
  simp [List.getElem?_eq_getElem hj]

def nmBlock : Obj := .cells (nm.map fun x => .string x).toArray 9
theorem nmBlock_cell (w : World) {j : Nat} (hj : j < 52) : (w.alloc nmBlock).cell? ⟨w.heap.size, j, none⟩ = some (.string (nm.getD j ⟨#[]⟩)) :=
  row_cell (fun x => .string x) nm ⟨#[]⟩ 9 w hj

def fmBlock : Obj := .cells (fm.map fun x => .string x).toArray 9
theorem fmBlock_cell (w : World) {j : Nat} (hj : j < 52) : (w.alloc fmBlock).cell? ⟨w.heap.size, j, none⟩ = some (.string (fm.getD j ⟨#[]⟩)) :=
  row_cell (fun x => .string x) fm ⟨#[]⟩ 9 w hj

def tkBlock : Obj := .cells (tk.map fun x => .int .i64 x).toArray 3
theorem tkBlock_cell (w : World) {j : Nat} (hj : j < 52) : (w.alloc tkBlock).cell? ⟨w.heap.size, j, none⟩ = some (.int .i64 (tk.getD j 0)) :=
  row_cell (fun x => .int .i64 x) tk 0 3 w hj

def lyBlock : Obj := .cells (ly.map fun x => .int .i64 x).toArray 3
theorem lyBlock_cell (w : World) {j : Nat} (hj : j < 52) : (w.alloc lyBlock).cell? ⟨w.heap.size, j, none⟩ = some (.int .i64 (ly.getD j 0)) :=
  row_cell (fun x => .int .i64 x) ly 0 3 w hj

theorem refForms_any (w : World) : Calls Try.prog 41 #[] w fun e w' => e = .returned (.slice (some ⟨w.heap.size, 0, none⟩) 52 52) ∧ w' = w.alloc fmBlock := by
  go_enter Try.func41, Try.ntmps41
  go_wp2
  go_ret
  exact ⟨rfl, rfl⟩

theorem refTakes_any (w : World) : Calls Try.prog 29 #[] w fun e w' => e = .returned (.slice (some ⟨w.heap.size, 0, none⟩) 52 52) ∧ w' = w.alloc tkBlock := by
  go_enter Try.func29, Try.ntmps29
  go_wp2
  go_ret
  exact ⟨rfl, rfl⟩

theorem refLays_any (w : World) : Calls Try.prog 30 #[] w fun e w' => e = .returned (.slice (some ⟨w.heap.size, 0, none⟩) 52 52) ∧ w' = w.alloc lyBlock := by
  go_enter Try.func30, Try.ntmps30
  go_wp2
  go_ret
  exact ⟨rfl, rfl⟩

theorem refKnown_yes (n : Int) (h0 : 0 ≤ n) (h1 : n ≤ 51) (w : World) : Calls Try.prog 28 #[.int .i64 n] w fun e w' => e = .returned (.bool true) ∧ w = w' := by
  go_enter Try.func28, Try.ntmps28
  go_wp2
  go_ret
  exact ⟨rfl, rfl⟩
theorem refKnown_no (n : Int) (h : n < 0 ∨ 51 < n) (w : World) : Calls Try.prog 28 #[.int .i64 n] w fun e w' => e = .returned (.bool false) ∧ w = w' := by
  by_cases h0 : 0 ≤ n
  · have hd : decide (n ≤ 51) = false := by rw [decide_eq_false_iff_not]; omega
    go_enter Try.func28, Try.ntmps28
    go_wp2
    go_ret
    exact ⟨rfl, rfl⟩
  · have hd : decide (0 ≤ n) = false := by simpa using h0
    go_enter Try.func28, Try.ntmps28
    go_wp2
    go_ret
    exact ⟨rfl, rfl⟩

/-- The operation of a name, or -1. -/
def refI (s : ByteArray) : Int := if idx s < 52 then idx s else -1
theorem refForm_yes (k : Nat) (hk : k < 52) (w : World) : Calls Try.prog 33 #[.int .i64 (k : Int)] w fun e w' => e = .returned (.string (txt fm (k : Int))) ∧ Below w.heap.size w w' := by
  rw [txt_at hk]
  have HK := Lib.hid (refKnown_yes k (by omega) (by omega) w)
  have HT := Lib.hid (refForms_any w)
  have hc := fmBlock_cell w hk
  have h1 : (k : Int) < 52 := by omega
  have HB := Lib.hid ((Below.refl w.heap.size w).alloc (Nat.le_refl _) fmBlock)
  generalize fm.getD k ⟨#[]⟩ = x at *
  generalize fmBlock = B at *
  go_enter Try.func33, Try.ntmps33
  go_wp2_with fail
  refine HK.out.mono ?_
  rintro e w1 ⟨rfl, rfl⟩
  go_wp2_with fail
  refine HT.out.mono ?_
  rintro e w1 ⟨rfl, rfl⟩
  go_wp2
  go_ret
  exact ⟨rfl, HB.out⟩
theorem refForm_no (n : Int) (h : n < 0 ∨ 51 < n) (w : World) : Calls Try.prog 33 #[.int .i64 n] w fun e w' => e = .returned (.string (txt fm n)) ∧ Below w.heap.size w w' := by
  rw [txt_no h]
  have HK := Lib.hid (refKnown_no n h w)
  clear h
  go_enter Try.func33, Try.ntmps33
  go_wp2_with fail
  refine HK.out.mono ?_
  rintro e w1 ⟨rfl, rfl⟩
  go_wp2
  go_ret
  exact ⟨rfl, Below.refl _ _⟩
theorem refForm_any (n : Int) (w : World) : Calls Try.prog 33 #[.int .i64 n] w fun e w' => e = .returned (.string (txt fm n)) ∧ Below w.heap.size w w' := by
  by_cases h : 0 ≤ n ∧ n ≤ 51
  · obtain ⟨k, hk, rfl⟩ := nat_of h
    exact refForm_yes k hk w
  · exact refForm_no n (by omega) w

theorem refPushes_yes (k : Nat) (hk : k < 52) (w : World) : Calls Try.prog 21 #[.int .i64 (k : Int)] w fun e w' => e = .returned (.int .i64 (numb ly (k : Int))) ∧ Below w.heap.size w w' := by
  rw [numb_at hk]
  have HK := Lib.hid (refKnown_yes k (by omega) (by omega) w)
  have HT := Lib.hid (refLays_any w)
  have hc := lyBlock_cell w hk
  have h1 : (k : Int) < 52 := by omega
  have HB := Lib.hid ((Below.refl w.heap.size w).alloc (Nat.le_refl _) lyBlock)
  generalize ly.getD k 0 = x at *
  generalize lyBlock = B at *
  go_enter Try.func21, Try.ntmps21
  go_wp2_with fail
  refine HK.out.mono ?_
  rintro e w1 ⟨rfl, rfl⟩
  go_wp2_with fail
  refine HT.out.mono ?_
  rintro e w1 ⟨rfl, rfl⟩
  go_wp2
  go_ret
  exact ⟨rfl, HB.out⟩
theorem refPushes_no (n : Int) (h : n < 0 ∨ 51 < n) (w : World) : Calls Try.prog 21 #[.int .i64 n] w fun e w' => e = .returned (.int .i64 (numb ly n)) ∧ Below w.heap.size w w' := by
  rw [numb_no h]
  have HK := Lib.hid (refKnown_no n h w)
  clear h
  go_enter Try.func21, Try.ntmps21
  go_wp2_with fail
  refine HK.out.mono ?_
  rintro e w1 ⟨rfl, rfl⟩
  go_wp2
  go_ret
  exact ⟨rfl, Below.refl _ _⟩
theorem refPushes_any (n : Int) (w : World) : Calls Try.prog 21 #[.int .i64 n] w fun e w' => e = .returned (.int .i64 (numb ly n)) ∧ Below w.heap.size w w' := by
  by_cases h : 0 ≤ n ∧ n ≤ 51
  · obtain ⟨k, hk, rfl⟩ := nat_of h
    exact refPushes_yes k hk w
  · exact refPushes_no n (by omega) w

end Go.Proofs.Ytjlmgoaglpkhoaa.oper
