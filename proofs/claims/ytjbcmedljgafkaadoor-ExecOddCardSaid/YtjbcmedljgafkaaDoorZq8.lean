/-
  Texts of one claim in one file: ZPlain, ZStep. Each has its own sentence, with its conditions.
-/
import Derived.Test.YtjbcmedljgafkaaDoorZq7
/-
  What an instruction makes of frames by itself, and many one behind the other, in a program that may run: plain mathematics of lists; and that nothing is taken that is not there. No condition.
-/

namespace Go.Proofs.YtjbcmedljgafkaaDoor.pgm.exe
open Go.Proofs.YtjbcmedljgafkaaDoor.pgm (Fn Pg chkP chkI getD_in getD_at)
open Go.Proofs.YtjbcmedljgafkaaDoor.objs (De zero)
open Go.Proofs.YtjbcmedljgafkaaDoor.pgm.dep (depths behind ways argsOf Sound depths_sound pops_small lays_small letter args_small)
open Go.Proofs.YtjbcmedljgafkaaDoor.pgm.ver (progV opV funV funsV codeV)
open Go.Proofs.YtjbcmedljgafkaaDoor.oper (pops numb ly)
open Go.Proofs.YtjbcmedljgafkaaDoor.word (low doW)
open Go.Proofs.YtjbcmedljgafkaaDoor.frames
set_option linter.unusedVariables false

/-- An effect: its operation, its operands, what was taken. -/
structure Ef where
  op : Int
  a : Int
  b : Int
  x : List Int
def noE : Ef := ⟨-1, 0, 0, []⟩
/-- The instruction at which the last frame is. -/
def insZ (fs : List Fn) (l : List Fr) : De := (fs.getD (num (topF l) 0).toNat Fn.zero).co.getD (num (topF l) 1).toNat zero
def locF (l : List Fr) (k : Int) : Int := if l.length = 0 ∨ k < 0 ∨ 7 < k then 0 else num (topF l) (3 + k.toNat)
/-- The value that is laid, and the fault. -/
def valZ (x : De) (rest : List Fr) (v : List Int) (self now : Int) : Int × Int :=
  if x.1 = 8 then doW 8 (low (v.getD 0 0)) (low 0)
  else if 3 ≤ x.1 ∧ x.1 ≤ 15 then doW x.1 (low (v.getD 0 0)) (low (v.getD 1 0))
  else (if x.1 = 0 then x.2.1 else if x.1 = 1 then locF rest x.2.1 else if x.1 = 22 then self else if x.1 = 23 then now else 0, 0)
def nextF (l : List Fr) : List Fr := goF l (num (topF l) 1 + 1)
/-- What the instruction takes. -/
def takeZ (x : De) (l : List Fr) : List Fr × List Int := (popF (nextF l) (pops x.1 x.2.2 0)).getD ([], [])
/-- What an instruction makes of frames, its effect, and its fault. -/
def doZ (fs : List Fn) (l : List Fr) (self now : Int) : List Fr × Ef × Int :=
  let x := insZ fs l
  let q := takeZ x l
  if x.1 = 20 then if l.length = 8 then (l, noE, 3) else ((callF (nextF l) x.2.1 (fs.getD x.2.1.toNat Fn.zero).ar).getD [], noE, 0)
  else if x.1 = 21 then (((retF l).map (·.1)).getD [], if l.length = 1 then ⟨-2, 0, 0, [((retF l).map (·.2)).getD 0]⟩ else noE, 0)
  else if 23 < x.1 then (q.1, ⟨x.1, x.2.1, x.2.2, q.2⟩, 0)
  else if x.1 = 2 then (storeF q.1 x.2.1 (q.2.getD 0 0), noE, 0)
  else if x.1 = 17 then (q.1, noE, 0)
  else if x.1 = 18 ∨ (x.1 = 19 ∧ q.2.getD 0 0 = 0) then (goF q.1 x.2.1, noE, 0)
  else if x.1 = 19 then (q.1, noE, 0)
  else if (valZ x q.1 q.2 self now).2 ≠ 0 then (l, noE, (valZ x q.1 q.2 self now).2)
  else if x.1 = 16 then ((pushF ((pushF q.1 (q.2.getD 0 0)).getD []) (q.2.getD 0 0)).getD [], noE, 0)
  else ((pushF q.1 (valZ x q.1 q.2 self now).1).getD [], noE, 0)
/-- So many ones are laid. -/
def onesZ : Nat → List Fr → List Fr
  | 0, l => l
  | k + 1, l => onesZ k ((pushF l 1).getD [])
/-- One instruction goes ahead, if it can. -/
def stepZ (fs : List Fn) (l : List Fr) : Option (List Fr) :=
  if (doZ fs l 3 5).2.2 ≠ 0 ∨ (doZ fs l 3 5).2.1.op = -2 then none
  else some (onesZ (if 0 ≤ (doZ fs l 3 5).2.1.op then (numb ly (insZ fs l).1).toNat else 0) (doZ fs l 3 5).1)
def runZ (fs : List Fn) : Nat → List Fr → List Fr
  | 0, l => l
  | n + 1, l => match stepZ fs l with
    | none => l
    | some x => runZ fs n x

/-- Functions of a program that may run. -/
structure May (fs : List Fn) : Prop where
  len : fs.length ≤ 16
  args : ∀ f ∈ fs, 0 ≤ f.ar ∧ f.ar ≤ 8
  code : ∀ f ∈ fs, 0 < f.co.length ∧ f.co.length ≤ 200 ∧ ∀ x ∈ f.co, chkI x = 0
  deps : ∀ i : Nat, i < fs.length → ∃ dp, depths fs (i : Int) = (dp, 0, 0)
  call : ∀ f ∈ fs, ∀ x ∈ f.co, x.1 = 20 → 0 ≤ x.2.1 ∧ x.2.1 < (fs.length : Int)
theorem may_of {p : Pg} (h : (progV p).2.2 = 0) : May p.fs := by
  have hz := Go.Proofs.YtjbcmedljgafkaaDoor.pgm.ver.progV_zero h
  obtain ⟨g1, g2, g3, g4, g5, g6⟩ := Go.Proofs.YtjbcmedljgafkaaDoor.pgm.chkP_zero hz.1
  have hfn : ∀ f ∈ p.fs, _ := fun f hf => Go.Proofs.YtjbcmedljgafkaaDoor.pgm.chkFn_zero (g6 f hf)
  have hfun : ∀ i, i < p.fs.length → (funV p i).2 = 0 := fun i hi => by
    have h1 : (funsV p p.fs.length 0).2.2 = 0 := by
      unfold progV at h
      rw [if_neg (fun e => e hz.1), if_neg (fun e => e hz.2.1)] at h
      exact h
    exact Go.Proofs.YtjbcmedljgafkaaDoor.pgm.ver.funsV_zero _ _ h1 i (Nat.zero_le _) (by omega)
  have hdep : ∀ i : Nat, i < p.fs.length → (depths p.fs (i : Int)).2.2 = 0 := fun i hi => by
    have h1 := hfun i hi
    unfold funV at h1
    split at h1
    · rename_i h2
      exact absurd h1 h2
    · exact h1
  have hdep2 : ∀ i : Nat, i < p.fs.length → (depths p.fs (i : Int)).2.1 = 0 := fun i hi => by
    have h1 := hdep i hi
    unfold depths at h1 ⊢
    rw [if_neg (by omega)] at h1 ⊢
    dsimp only at h1 ⊢
    split at h1
    · cases h1
    · split at h1
      · rename_i h2
        exact absurd h1 h2
      · rename_i h2 h3
        rw [if_neg h2, if_neg h3]
  refine ⟨g5, fun f hf => ?_, fun f hf => (hfn f hf).2, fun i hi => ⟨(depths p.fs (i : Int)).1, ?_⟩, fun f hf x hx ho => ?_⟩
  · have := (hfn f hf).1
    omega
  · have h1 := hdep i hi
    have h2 := hdep2 i hi
    generalize depths p.fs (i : Int) = q at *
    obtain ⟨q1, q2, q3⟩ := q
    dsimp only at h1 h2 ⊢
    rw [h1, h2]
  · obtain ⟨i, hi, rfl⟩ := List.getElem_of_mem hf
    have h0 := Go.Proofs.YtjbcmedljgafkaaDoor.pgm.dep.func_small ((hfn _ hf).2.2.2 x hx) ho
    have h1 := (Go.Proofs.YtjbcmedljgafkaaDoor.pgm.ver.asks h hi (x := x) (by rw [getD_at hi]; exact hx)).2.2.1 ho
    exact ⟨h0.1, h1⟩

theorem f_top (r : List Fr) (f : Fr) : topF (r ++ [f]) = f := by simp [topF]
theorem f_with (r : List Fr) (f g : Fr) : withF (r ++ [f]) g = r ++ [g] := by
  unfold withF
  rw [List.length_append, List.length_singleton, Nat.add_sub_cancel, List.take_left]
theorem f_ne (r : List Fr) (f : Fr) : ¬ (r ++ [f]).length = 0 := by simp
theorem f_go (r : List Fr) (f : Fr) (pc : Int) : goF (r ++ [f]) pc = r ++ [f.set 1 pc] := by
  unfold goF
  rw [if_neg (f_ne r f), f_with, f_top]
theorem f_push (r : List Fr) (f : Fr) (v : Int) (h0 : 0 ≤ cnt f) (h1 : cnt f ≤ 15) : pushF (r ++ [f]) v = some (r ++ [pushed f v]) := by
  unfold pushF
  rw [f_top, if_neg (by rintro (e | e | e); exact f_ne r f e; omega; omega), f_with]
theorem f_pop (r : List Fr) (f : Fr) (n : Int) (h0 : 0 ≤ n) (h1 : n ≤ cnt f) (h2 : cnt f ≤ 16) : popF (r ++ [f]) n = some (r ++ [popped f n], valsF f (cnt f - n).toNat n.toNat) := by
  unfold popF
  rw [f_top, if_neg (by rintro (e | e | e | e); exact f_ne r f e; omega; omega; omega), f_with]
theorem f_store (r : List Fr) (f : Fr) (k v : Int) (h0 : 0 ≤ k) (h1 : k ≤ 7) : storeF (r ++ [f]) k v = r ++ [f.set (3 + k.toNat) (low v)] := by
  unfold storeF
  rw [f_top, if_neg (by rintro (e | e | e); exact f_ne r f e; omega; omega), f_with]
theorem f_call (r : List Fr) (f : Fr) (fn n : Int) (h0 : 0 ≤ n) (h1 : n ≤ cnt f) (h2 : cnt f ≤ 16) (h8 : n ≤ 8) (hr : r.length ≤ 6) :
    callF (r ++ [f]) fn n = some (r ++ [popped f n] ++ [newF fn (valsF f (cnt f - n).toNat n.toNat)]) := by
  unfold callF
  rw [f_pop r f n h0 h1 h2]
  dsimp only
  rw [if_neg (by rw [List.length_append, List.length_singleton]; omega)]
theorem f_ret0 (f : Fr) (h1 : 1 ≤ cnt f) (h2 : cnt f ≤ 16) : retF [f] = some ([], (valsF f (cnt f - 1).toNat 1).getD 0 0) := by
  unfold retF
  rw [show [f] = [] ++ [f] from rfl, f_pop [] f 1 (by omega) h1 h2]
  rfl
theorem f_ret (r : List Fr) (g f : Fr) (h1 : 1 ≤ cnt f) (h2 : cnt f ≤ 16) (g0 : 0 ≤ cnt g) (g1 : cnt g ≤ 15) :
    retF (r ++ [g] ++ [f]) = some (r ++ [pushed g ((valsF f (cnt f - 1).toNat 1).getD 0 0)], (valsF f (cnt f - 1).toNat 1).getD 0 0) := by
  unfold retF
  rw [f_pop (r ++ [g]) f 1 (by omega) h1 h2]
  dsimp only
  rw [if_neg (by simp), show (r ++ [g] ++ [f]).length - 1 = (r ++ [g]).length by simp, List.take_left, show (1 : Int).toNat = 1 from rfl, f_push r g _ g0 g1]

/-- A frame of a function, at a place, with so many values. -/
structure At (fn pc n : Int) (f : Fr) : Prop where
  len : f.length = 27
  fn : num f 0 = fn
  pc : num f 1 = pc
  n : cnt f = n
theorem At.go {fn pc n : Int} {f : Fr} (h : At fn pc n f) (q : Int) : At fn q n (f.set 1 q) :=
  ⟨by rw [List.length_set]; exact h.len, (num_ne (by decide) _).trans h.fn, num_here (by rw [h.len]; decide) _, (cnt_set (by decide) _).trans h.n⟩
theorem At.store {fn pc n : Int} {f : Fr} (h : At fn pc n f) {k : Nat} (hk : 3 ≤ k) (v : Int) : At fn pc n (f.set k v) :=
  ⟨by rw [List.length_set]; exact h.len, (num_ne (by omega) _).trans h.fn, (num_ne (by omega) _).trans h.pc, (cnt_set (by omega) _).trans h.n⟩
theorem At.count {fn pc n : Int} {f : Fr} (h : At fn pc n f) (m : Int) : At fn pc m (f.set 2 m) :=
  ⟨by rw [List.length_set]; exact h.len, (num_ne (by decide) _).trans h.fn, (num_ne (by decide) _).trans h.pc, cnt_here h.len _⟩
theorem At.push {fn pc n : Int} {f : Fr} (h : At fn pc n f) (v : Int) : At fn pc (n + 1) (pushed f v) := by
  unfold pushed
  rw [h.n]
  exact (h.store (by omega) _).count _
theorem At.clear {fn pc n : Int} {f : Fr} (h : At fn pc n f) (i : Nat) : ∀ k, At fn pc n (clearF f i k) := by
  intro k
  induction k with
  | zero => exact h
  | succ k ih => exact ih.store (by omega) _
theorem At.pop {fn pc n : Int} {f : Fr} (h : At fn pc n f) (k : Int) : At fn pc (n - k) (popped f k) := by
  unfold popped
  rw [h.n]
  exact (h.clear _ _).count _
theorem new_at (fn : Int) (args : List Int) : At fn 0 0 (newF fn args) := by
  have h : ∀ k, At fn 0 0 (argsF args (zeroF.set 0 fn) k) := by
    intro k
    induction k with
    | zero => exact ⟨rfl, rfl, rfl, rfl⟩
    | succ k ih => exact ih.store (by omega) _
  exact h _

/-- A frame at a place of a function whose depth there is what it has, and what it lacks. -/
def FitF (fs : List Fn) (k : Int) (f : Fr) : Prop :=
  ∃ (i a : Nat) (d : Int), At (i : Int) (a : Int) (d - k) f ∧ i < fs.length ∧ a < (fs.getD i Fn.zero).co.length ∧ (depths fs (i : Int)).1.getD a (-1) = d ∧ 0 ≤ d - k
/-- Frames that come of a program that may run; the last one lacks k values, each other one that of its call. -/
def FitL (fs : List Fn) (k : Int) (l : List Fr) : Prop := ∃ r f, l = r ++ [f] ∧ r.length ≤ 7 ∧ FitF fs k f ∧ ∀ g ∈ r, FitF fs 1 g

theorem May.sound {fs : List Fn} (h : May fs) {i : Nat} (hi : i < fs.length) : Sound fs (fs.getD i Fn.zero).co (depths fs (i : Int)).1 ∧ ∀ a : Nat, (depths fs (i : Int)).1.getD a (-1) ≤ 16 := by
  obtain ⟨dp, hd⟩ := h.deps i hi
  obtain ⟨_, _, _, h1, h2⟩ := depths_sound hd
  rw [hd]
  rw [Int.toNat_natCast] at h1
  refine ⟨h1, fun a => ?_⟩
  dsimp only
  rcases Nat.lt_or_ge a dp.length with ha | ha
  · exact (h2 _ (getD_in ha)).2
  · rw [List.getD_eq_getElem?_getD, List.getElem?_eq_none ha]
    show (-1 : Int) ≤ 16
    decide
theorem FitF.good {fs : List Fn} {k : Int} {f : Fr} (h : FitF fs k f) (hm : May fs) (hk : 0 ≤ k) : GoodF f := by
  obtain ⟨i, a, d, h1, h2, h3, h4, h5⟩ := h
  have := (hm.sound h2).2 a
  exact ⟨h1.len, by rw [h1.n]; exact h5, by rw [h1.n]; omega⟩
theorem FitL.good {fs : List Fn} {k : Int} {l : List Fr} (h : FitL fs k l) (hm : May fs) (hk : 0 ≤ k) : frames.Good l := by
  obtain ⟨r, f, rfl, h1, h2, h3⟩ := h
  refine ⟨by rw [List.length_append, List.length_singleton]; omega, fun g hg => ?_⟩
  rcases List.mem_append.1 hg with hg | hg
  · exact (h3 g hg).good hm (by decide)
  · rw [List.mem_singleton.1 hg]; exact h2.good hm hk

/-- What is known of the instruction at which frames are that come of a program that may run. -/
structure Seen (fs : List Fn) (i a : Nat) (d : Int) (x : De) : Prop where
  hi : i < fs.length
  ha : a < (fs.getD i Fn.zero).co.length
  ins : x = (fs.getD i Fn.zero).co.getD a zero
  chk : chkI x = 0
  d0 : 0 ≤ d
  p0 : 0 ≤ pops x.1 x.2.2 (argsOf fs x)
  p1 : pops x.1 x.2.2 (argsOf fs x) ≤ d
  b16 : d - pops x.1 x.2.2 (argsOf fs x) + numb ly x.1 ≤ 16
  ways : ∀ t ∈ dep.ways x a, t < (fs.getD i Fn.zero).co.length ∧ (depths fs (i : Int)).1.getD t (-1) = d - pops x.1 x.2.2 (argsOf fs x) + numb ly x.1
theorem seen_of {fs : List Fn} (hm : May fs) {i a : Nat} {d : Int} (hi : i < fs.length) (ha : a < (fs.getD i Fn.zero).co.length) (hd : (depths fs (i : Int)).1.getD a (-1) = d) (h0 : 0 ≤ d) : Seen fs i a d ((fs.getD i Fn.zero).co.getD a zero) := by
  obtain ⟨⟨_, _, hs⟩, _⟩ := hm.sound hi
  obtain ⟨s1, s2, s3⟩ := hs a ha (by rw [hd]; exact h0)
  rw [hd] at s1 s2 s3
  have hc := (hm.code _ (getD_in (d := Fn.zero) hi)).2.2 _ (getD_in (d := zero) ha)
  have hp := pops_small hm.args hc
  unfold behind at s1 s2 s3
  split at s1
  · omega
  · rename_i h1
    rw [if_neg h1] at s2
    refine ⟨hi, ha, rfl, hc, h0, hp.1, by omega, s2, fun t ht => ?_⟩
    obtain ⟨t1, t2⟩ := s3 t ht
    rw [if_neg h1] at t2
    exact ⟨t1, t2⟩
end Go.Proofs.YtjbcmedljgafkaaDoor.pgm.exe

/-
  In a program that may run each step keeps it so that nothing is taken that is not there: plain mathematics of lists. No condition.
-/

namespace Go.Proofs.YtjbcmedljgafkaaDoor.pgm.exe
open Go.Proofs.YtjbcmedljgafkaaDoor.pgm (Fn Pg chkP chkI getD_in getD_at)
open Go.Proofs.YtjbcmedljgafkaaDoor.objs (De zero)
open Go.Proofs.YtjbcmedljgafkaaDoor.pgm.dep (depths behind ways argsOf Sound depths_sound pops_small lays_small letter args_small)
open Go.Proofs.YtjbcmedljgafkaaDoor.oper (pops numb ly tk)
open Go.Proofs.YtjbcmedljgafkaaDoor.word (low doW)
open Go.Proofs.YtjbcmedljgafkaaDoor.frames
set_option linter.unusedVariables false

theorem known_of {x : De} (h : chkI x = 0) : 0 ≤ x.1 ∧ x.1 ≤ 51 := (Go.Proofs.YtjbcmedljgafkaaDoor.inst.chk_zero h).1
theorem pops_not {o b a c : Int} (h : o ≠ 20) : pops o b a = pops o b c := by
  unfold pops
  rw [if_neg h, if_neg h]
theorem ways_next {x : De} {a : Nat} (h1 : x.1 ≠ 18) (h2 : x.1 ≠ 21) : a + 1 ∈ dep.ways x a := by
  unfold dep.ways
  rw [if_pos ⟨h1, h2⟩]
  simp
theorem ways_jump {x : De} {a : Nat} (h : x.1 = 18 ∨ x.1 = 19) : x.2.1.toNat ∈ dep.ways x a := by
  unfold dep.ways
  rw [if_pos h]
  simp
theorem ly_one : ∀ k : Nat, k < 24 → ([2, 16, 17, 18, 19, 21] : List Nat).all (fun j => !(k == j)) = true → ly.getD k 0 = 1 := by decide +kernel
theorem form_k : Go.Proofs.YtjbcmedljgafkaaDoor.inst.form 1 = [107] ∧ Go.Proofs.YtjbcmedljgafkaaDoor.inst.form 2 = [107] := by decide +kernel
theorem local_small {x : De} (h : chkI x = 0) (ho : x.1 = 1 ∨ x.1 = 2) : 0 ≤ x.2.1 ∧ x.2.1 ≤ 7 := by
  rcases ho with h1 | h1
  · have := letter h h1 form_k.1 (j := 0) (by decide) (c := 107) rfl (by decide)
    exact ⟨this.1, this.2⟩
  · have := letter h h1 form_k.2 (j := 0) (by decide) (c := 107) rfl (by decide)
    exact ⟨this.1, this.2⟩

theorem ins_at (fs : List Fn) (r : List Fr) {f : Fr} {i a : Nat} {n : Int} (h : At (i : Int) (a : Int) n f) : insZ fs (r ++ [f]) = (fs.getD i Fn.zero).co.getD a zero := by
  unfold insZ
  rw [f_top, h.fn, h.pc, Int.toNat_natCast, Int.toNat_natCast]
theorem next_at (r : List Fr) {f : Fr} {i a n : Int} (h : At i a n f) : nextF (r ++ [f]) = r ++ [f.set 1 (a + 1)] := by
  unfold nextF
  rw [f_top, h.pc, f_go]
/-- What is taken, of an instruction that is no call. -/
theorem take_at (r : List Fr) {f : Fr} {i a n : Int} (h : At i a n f) {x : De} (h0 : 0 ≤ pops x.1 x.2.2 0) (h1 : pops x.1 x.2.2 0 ≤ n) (h2 : n ≤ 16) :
    ∃ g v, takeZ x (r ++ [f]) = (r ++ [g], v) ∧ At i (a + 1) (n - pops x.1 x.2.2 0) g ∧ v.length = (pops x.1 x.2.2 0).toNat ∧ popF (nextF (r ++ [f])) (pops x.1 x.2.2 0) = some (r ++ [g], v) := by
  have h3 := h.go (a + 1)
  have hp := f_pop r (f.set 1 (a + 1)) (pops x.1 x.2.2 0) h0 (by rw [h3.n]; exact h1) (by rw [h3.n]; exact h2)
  refine ⟨_, valsF (f.set 1 (a + 1)) (cnt (f.set 1 (a + 1)) - pops x.1 x.2.2 0).toNat (pops x.1 x.2.2 0).toNat, ?_, h3.pop _, by unfold valsF; rw [List.length_map, List.length_range], by rw [next_at r h]; exact hp⟩
  unfold takeZ
  rw [next_at r h, hp]
  rfl

/-- What comes of a step: a fault, the end, or frames that fit. -/
def Came (fs : List Fn) (l : List Fr) (x : De) (q : List Fr × Ef × Int) : Prop :=
  (q.2.2 ≠ 0 ∧ q.1 = l ∧ q.2.1 = noE) ∨ (q.2.2 = 0 ∧ q.2.1.op = -2 ∧ q.1 = [] ∧ l.length = 1) ∨
    (q.2.2 = 0 ∧ q.2.1.op ≠ -2 ∧ (0 ≤ q.2.1.op → q.2.1.op = x.1) ∧ FitL fs (if 0 ≤ q.2.1.op then numb ly q.2.1.op else 0) q.1)

theorem came_on {fs : List Fn} {l : List Fr} {x : De} {r : List Fr} {g : Fr} {i b : Nat} {d : Int} (hr : r.length ≤ 7) (hrs : ∀ g ∈ r, FitF fs 1 g) (hi : i < fs.length) (hb : b < (fs.getD i Fn.zero).co.length) (hd : (depths fs (i : Int)).1.getD b (-1) = d) (h0 : 0 ≤ d) (hg : At (i : Int) (b : Int) d g) :
    Came fs l x (r ++ [g], noE, 0) :=
  .inr (.inr ⟨rfl, by show (-1 : Int) ≠ -2; decide, fun h => by exact absurd h (by show ¬ (0 : Int) ≤ -1; decide), r, g, rfl, hr, ⟨i, b, d, by rw [show (if (0 : Int) ≤ noE.op then numb ly noE.op else 0) = 0 from rfl, Int.sub_zero]; exact hg, hi, hb, hd, by rw [show (if (0 : Int) ≤ noE.op then numb ly noE.op else 0) = 0 from rfl]; omega⟩, hrs⟩)

theorem do_came {fs : List Fn} (hm : May fs) {l : List Fr} (h : FitL fs 0 l) (self now : Int) : Came fs l (insZ fs l) (doZ fs l self now) := by
  obtain ⟨r, f, rfl, hr, ⟨i, a, d, hA, hi, ha, hd, h0⟩, hrs⟩ := h
  rw [Int.sub_zero] at hA h0
  have hI := ins_at fs r hA
  have S := seen_of hm hi ha hd h0
  rw [hI]
  unfold doZ
  rw [hI]
  obtain ⟨x, hx⟩ : ∃ x, x = (fs.getD i Fn.zero).co.getD a zero := ⟨_, rfl⟩
  rw [← hx] at S ⊢
  dsimp only
  have hK := known_of S.chk
  have hd16 : d ≤ 16 := by
    have := (hm.sound hi).2 a
    omega
  by_cases h20 : x.1 = 20
  · rw [if_pos h20]
    by_cases h8 : (r ++ [f]).length = 8
    · rw [if_pos h8]
      exact .inl ⟨by show (3 : Int) ≠ 0; decide, rfl, rfl⟩
    · rw [if_neg h8]
      have hr6 : r.length ≤ 6 := by
        rw [List.length_append, List.length_singleton] at h8
        omega
      have hc := hm.call _ (getD_in (d := Fn.zero) hi) x (by rw [hx]; exact getD_in ha) h20
      have hAr : argsOf fs x = (fs.getD x.2.1.toNat Fn.zero).ar := by
        unfold argsOf
        rw [if_pos ⟨h20, hc.2⟩]
      have hP : pops x.1 x.2.2 (argsOf fs x) = (fs.getD x.2.1.toNat Fn.zero).ar := by
        rw [hAr]
        unfold pops
        rw [if_pos h20]
      have hs0 := S.p0
      have hs1 := S.p1
      have hw := S.ways (a + 1) (ways_next (by omega) (by omega))
      have hl1 : numb ly x.1 = 1 := by rw [h20]; rfl
      rw [hP] at hs0 hs1
      rw [hP, hl1] at hw
      have hci : x.2.1.toNat < fs.length := by omega
      have ha8 := hm.args _ (getD_in (d := Fn.zero) hci)
      generalize (fs.getD x.2.1.toNat Fn.zero).ar = n at *
      have h3 := hA.go (a + 1)
      rw [next_at r hA, f_call r _ _ n hs0 (by rw [h3.n]; exact hs1) (by rw [h3.n]; exact hd16) ha8.2 hr6]
      have hN := new_at x.2.1 (valsF (f.set 1 (a + 1)) (cnt (f.set 1 (a + 1)) - n).toNat n.toNat)
      rw [show x.2.1 = ((x.2.1.toNat : Nat) : Int) by omega] at hN ⊢
      have hso := (hm.sound hci).1
      refine came_on (i := x.2.1.toNat) (b := 0) (d := 0) (by rw [List.length_append, List.length_singleton]; omega) (fun g hg => ?_) hci (by have := (hm.code _ (getD_in (d := Fn.zero) hci)).1; exact this) hso.2.1 (Int.le_refl 0) hN
      rcases List.mem_append.1 hg with hg | hg
      · exact hrs g hg
      · rw [List.mem_singleton.1 hg]
        refine ⟨i, a + 1, d - n + 1, ?_, hi, hw.1, hw.2, by omega⟩
        rw [show d - n + 1 - 1 = d - n by omega]
        exact h3.pop n
  rw [if_neg h20]
  have hP := pops_not (b := x.2.2) (a := argsOf fs x) (c := 0) h20
  have s0 := S.p0
  have s1 := S.p1
  have s2 := S.b16
  have sw := S.ways
  rw [hP] at s0 s1 s2 sw
  by_cases h21 : x.1 = 21
  · rw [if_pos h21]
    have hp1 : pops x.1 x.2.2 0 = 1 := by rw [h21]; rfl
    rw [hp1] at s1
    rcases List.eq_nil_or_concat r with rfl | ⟨r', g, hrr⟩
    · rw [if_pos (by rfl), List.nil_append, f_ret0 f (by rw [hA.n]; exact s1) (by rw [hA.n]; exact hd16)]
      exact .inr (.inl ⟨rfl, rfl, rfl, rfl⟩)
    · rw [List.concat_eq_append] at hrr
      subst hrr
      rw [if_neg (by simp)]
      obtain ⟨i', a', d', hA', hi', ha', hd', h0'⟩ := hrs g (by simp)
      have hg16 := (hm.sound hi').2 a'
      rw [f_ret r' g f (by rw [hA.n]; exact s1) (by rw [hA.n]; exact hd16) (by rw [hA'.n]; exact h0') (by rw [hA'.n]; omega)]
      have hpu := hA'.push ((valsF f (cnt f - 1).toNat 1).getD 0 0)
      rw [show d' - 1 + 1 = d' by omega] at hpu
      exact came_on (by simp at hr; omega) (fun g hg => hrs g (by simp [hg])) hi' ha' hd' (by omega) hpu
  rw [if_neg h21]
  obtain ⟨g, v, ht, hg, hv, hpo⟩ := take_at r hA s0 s1 hd16
  rw [ht]
  dsimp only
  generalize hPn : pops x.1 x.2.2 0 = P at *
  have on : x.1 ≠ 18 → numb ly x.1 = 0 → Came fs (r ++ [f]) x (r ++ [g], noE, 0) := fun h1 h2 => by
    have hw := sw (a + 1) (ways_next h1 h21)
    rw [h2, Int.add_zero] at hw
    exact came_on hr hrs hi hw.1 hw.2 (by omega) hg
  by_cases h23 : 23 < x.1
  · rw [if_pos h23]
    have hw := sw (a + 1) (ways_next (by omega) h21)
    refine .inr (.inr ⟨rfl, by show x.1 ≠ -2; omega, fun _ => rfl, r, g, rfl, hr, ⟨i, a + 1, _, ?_, hi, hw.1, hw.2, ?_⟩, hrs⟩)
    · rw [show (if (0 : Int) ≤ x.1 then numb ly x.1 else 0) = numb ly x.1 from if_pos hK.1, show d - P + numb ly x.1 - numb ly x.1 = d - P by omega]
      exact hg
    · rw [show (if (0 : Int) ≤ x.1 then numb ly x.1 else 0) = numb ly x.1 from if_pos hK.1]
      omega
  rw [if_neg h23]
  by_cases h2 : x.1 = 2
  · rw [if_pos h2]
    have hl := local_small S.chk (.inr h2)
    rw [f_store r g _ _ hl.1 hl.2]
    have hw := sw (a + 1) (ways_next (by omega) h21)
    rw [show numb ly x.1 = 0 by rw [h2]; rfl, Int.add_zero] at hw
    exact came_on hr hrs hi hw.1 hw.2 (by omega) (hg.store (by omega) _)
  rw [if_neg h2]
  by_cases h17 : x.1 = 17
  · rw [if_pos h17]
    exact on (by omega) (by rw [h17]; rfl)
  rw [if_neg h17]
  by_cases h18 : x.1 = 18 ∨ (x.1 = 19 ∧ v.getD 0 0 = 0)
  · rw [if_pos h18, f_go]
    have h1 : x.1 = 18 ∨ x.1 = 19 := h18.imp id (·.1)
    have hpl := Go.Proofs.YtjbcmedljgafkaaDoor.pgm.dep.place_small S.chk h1
    have hw := sw _ (ways_jump h1)
    have hl0 : numb ly x.1 = 0 := by rcases h1 with h1 | h1 <;> rw [h1] <;> rfl
    rw [hl0, Int.add_zero] at hw
    have hgo := hg.go x.2.1
    rw [show x.2.1 = ((x.2.1.toNat : Nat) : Int) by omega] at hgo ⊢
    exact came_on hr hrs hi hw.1 hw.2 (by omega) hgo
  rw [if_neg h18]
  by_cases h19 : x.1 = 19
  · rw [if_pos h19]
    exact on (by omega) (by rw [h19]; rfl)
  rw [if_neg h19]
  by_cases hf : (valZ x (r ++ [g]) v self now).2 ≠ 0
  · rw [if_pos hf]
    exact .inl ⟨hf, rfl, rfl⟩
  rw [if_neg hf]
  have hn18 : x.1 ≠ 18 := fun e => h18 (.inl e)
  have hw := sw (a + 1) (ways_next hn18 h21)
  by_cases h16 : x.1 = 16
  · rw [if_pos h16]
    have hl2 : numb ly x.1 = 2 := by rw [h16]; rfl
    rw [hl2] at hw s2
    have p1 := hg.push (v.getD 0 0)
    have p2 := p1.push (v.getD 0 0)
    rw [f_push r g _ (by rw [hg.n]; omega) (by rw [hg.n]; omega)]
    show Came fs (r ++ [f]) x ((pushF (r ++ [pushed g (v.getD 0 0)]) (v.getD 0 0)).getD [], noE, 0)
    rw [f_push r _ _ (by rw [p1.n]; omega) (by rw [p1.n]; omega)]
    rw [show d - P + 1 + 1 = d - P + 2 by omega] at p2
    exact came_on hr hrs hi hw.1 hw.2 (by omega) p2
  · rw [if_neg h16]
    have hl1 : numb ly x.1 = 1 := by
      unfold numb
      rw [if_pos hK]
      exact ly_one _ (by omega) (by
        simp only [List.all_cons, List.all_nil, Bool.and_true, Bool.and_eq_true, Bool.not_eq_true', beq_eq_false_iff_ne, ne_eq]
        omega)
    rw [hl1] at hw s2
    have p1 := hg.push (valZ x (r ++ [g]) v self now).1
    rw [f_push r g _ (by rw [hg.n]; omega) (by rw [hg.n]; omega)]
    exact came_on hr hrs hi hw.1 hw.2 (by omega) p1

theorem ones_fit {fs : List Fn} (hm : May fs) : ∀ (k : Nat) (l : List Fr), FitL fs (k : Int) l → FitL fs 0 (onesZ k l) := by
  intro k
  induction k with
  | zero => intro l h; exact h
  | succ k ih =>
    intro l h
    obtain ⟨r, f, rfl, hr, ⟨i, a, d, hA, hi, ha, hd, h0⟩, hrs⟩ := h
    have h16 := (hm.sound hi).2 a
    refine ih _ ?_
    rw [f_push r f 1 (by rw [hA.n]; exact h0) (by rw [hA.n]; omega)]
    refine ⟨r, _, rfl, hr, ⟨i, a, d, ?_, hi, ha, hd, by omega⟩, hrs⟩
    have := hA.push 1
    rwa [show d - ((k + 1 : Nat) : Int) + 1 = d - (k : Int) by omega] at this
theorem step_fit {fs : List Fn} (hm : May fs) {l x : List Fr} (h : FitL fs 0 l) (hs : stepZ fs l = some x) : FitL fs 0 x := by
  have hc := do_came hm h 3 5
  unfold stepZ at hs
  split at hs
  · cases hs
  · rename_i hn
    obtain rfl := Option.some.inj hs
    rcases hc with ⟨h1, _⟩ | ⟨_, h1, _⟩ | ⟨h1, h2, h3, h4⟩
    · exact absurd (.inl h1) hn
    · exact absurd (.inr h1) hn
    · refine ones_fit hm _ _ ?_
      by_cases h5 : 0 ≤ (doZ fs l 3 5).2.1.op
      · rw [if_pos h5] at h4 ⊢
        rw [h3 h5] at h4
        have := lays_small (insZ fs l).1
        rwa [Int.toNat_of_nonneg this.1]
      · rw [if_neg h5] at h4 ⊢
        exact h4
theorem run_fit {fs : List Fn} (hm : May fs) : ∀ (n : Nat) (l : List Fr), FitL fs 0 l → FitL fs 0 (runZ fs n l) := by
  intro n
  induction n with
  | zero => intro l h; exact h
  | succ n ih =>
    intro l h
    unfold runZ
    cases hs : stepZ fs l with
    | none => exact h
    | some x => exact ih x (step_fit hm h hs)
theorem new_fit {fs : List Fn} (hm : May fs) {i : Nat} (hi : i < fs.length) (args : List Int) : FitL fs 0 [newF (i : Int) args] :=
  ⟨[], _, rfl, Nat.zero_le _, ⟨i, 0, 0, by rw [Int.sub_zero]; exact new_at _ _, hi, (hm.code _ (getD_in (d := Fn.zero) hi)).1, (hm.sound hi).1.2.1, by omega⟩, fun g hg => by cases hg⟩
end Go.Proofs.YtjbcmedljgafkaaDoor.pgm.exe
