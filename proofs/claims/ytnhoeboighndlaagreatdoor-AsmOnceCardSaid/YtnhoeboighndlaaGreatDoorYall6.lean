/-
  Texts of one claim in one file: YReads, PTab, PRef, WRef. Each has its own sentence, with its conditions.
-/
import Derived.Test.YtnhoeboighndlaaGreatDoorYall5
import Derived.Test.YtnhoeboighndlaaGreatDoorYall3
import Derived.Deep.Cut
import Derived.Deep.CutBlock
import Derived.Deep.DeepCutAuto
import Derived.PlainAid
import Derived.BigQuiet
import Derived.Deep.QuietTactic
import Derived.Deep.RegionHeld3
import Derived.Test.YtnhoeboighndlaaGreatDoorProg
import Derived.Test.YtnhoeboighndlaaGreatDoorYall1
import Derived.WalkKit
import Derived.ProofKit
import Derived.IntWalk
import Derived.LoopTactic
import Derived.Lib.Hide
import Derived.Outline
/-
  A line's words, as the program reads them, and that this is what the plain reading says. Plain mathematics. No condition.
-/
namespace Go.Proofs.YtnhoeboighndlaaGreatDoor.pgm.asm
open Go.Proofs.YtnhoeboighndlaaGreatDoor.pgm
open Go.Proofs.YtnhoeboighndlaaGreatDoor.need (digs intT word tailT needT)
open Go.Proofs.YtnhoeboighndlaaGreatDoor.objs (De zero names nameK)
open Go.Proofs.YtnhoeboighndlaaGreatDoor.oper (nm txt txt_at nat_of idx idx_name)
open Go.Proofs.YtnhoeboighndlaaGreatDoor.inst (form)
open Go.Proofs.YtnhoeboighndlaaGreatDoor.digi (readD)
set_option linter.unusedVariables false

theorem opsL_sm {n : Nat} {a b : Int} (ha : Sm a) (hb : Sm b) : ∀ v ∈ opsL n a b, Sm v := by
  unfold opsL
  intro v hv
  split at hv
  · cases hv
  · split at hv
    · rw [List.mem_singleton.1 hv]; exact ha
    · rcases List.mem_cons.1 hv with rfl | hv
      · exact ha
      · rw [List.mem_singleton.1 hv]; exact hb
theorem opsL_get {n : Nat} {a b : Int} (z0 : n = 0 → a = 0) (z1 : n ≤ 1 → b = 0) : (opsL n a b).getD 0 0 = a ∧ (opsL n a b).getD 1 0 = b := by
  unfold opsL
  split
  · rename_i h
    rw [z0 h, z1 (by omega)]
    exact ⟨rfl, rfl⟩
  · split
    · rw [z1 (by omega)]
      exact ⟨rfl, rfl⟩
    · exact ⟨rfl, rfl⟩
theorem opsL_back {n : Nat} {vs : List Int} (h2 : n ≤ 2) (h : vs.length = n) : opsL n (vs.getD 0 0) (vs.getD 1 0) = vs := by
  unfold opsL
  match vs, h with
  | [], h => rw [if_pos (by rw [← h]; rfl)]
  | [a], h => rw [if_neg (by rw [← h]; simp), if_pos (by rw [← h]; rfl)]; rfl
  | [a, b], h => rw [if_neg (by rw [← h]; simp), if_neg (by rw [← h]; simp)]; rfl
  | a :: b :: c :: r, h => simp at h; omega
theorem sm_get {vs : List Int} (h : ∀ v ∈ vs, Sm v) (j : Nat) : Sm (vs.getD j 0) := by
  rw [List.getD_eq_getElem?_getD]
  cases hj : vs[j]? with
  | none => exact ⟨by decide, by decide⟩
  | some x => exact h x (List.mem_of_getElem? hj)
theorem get_zero {vs : List Int} {n j : Nat} (h : vs.length = n) (hj : n ≤ j) : vs.getD j 0 = 0 := by
  rw [List.getD_eq_getElem?_getD, List.getElem?_eq_none (by omega)]
  rfl

/-- An object's words. -/
def objW : List (List UInt8) → Option De
  | [] => none
  | w :: ws => if kindIdx w < 8 then (pairW ws (cntO (kindIdx w : Nat))).map fun vs => (((kindIdx w : Nat) : Int), vs.getD 0 0, vs.getD 1 0) else none
theorem objW_cons (w : List UInt8) (ws : List (List UInt8)) : objW (w :: ws) = if kindIdx w < 8 then (pairW ws (cntO (kindIdx w : Nat))).map fun vs => (((kindIdx w : Nat) : Int), vs.getD 0 0, vs.getD 1 0) else none := rfl
theorem obj_read (l : List UInt8) : objW (Lib.split l [32]) = readObj l := by
  refine same_read (W := fun l => objW (Lib.split l [32])) (T := objT) (S := SaysO) (fun _ _ h => obj_some h) (fun _ h => obj_text h) ?_ ?_ l
  · intro l d h
    have hj := join_split (sep := [32]) (by simp) (l.length + 1) l (Nat.lt_succ_self _)
    obtain ⟨w, ws, e⟩ := split_cons l (sep := [32]) (by simp)
    rw [e] at h hj
    rw [objW_cons] at h
    split at h
    · rename_i hk
      obtain ⟨hs, hp⟩ := kind_same hk
      cases hv : pairW ws (cntO (kindIdx w : Nat)) with
      | none => rw [hv] at h; cases h
      | some vs =>
        rw [hv] at h
        injection h with h
        obtain ⟨n1, n2, n3⟩ := pairW_some hv
        have hf := cnt_two (kindIdx w : Nat)
        subst h
        generalize kindIdx w = k at *
        subst n2
        rw [join_nums] at hj
        refine ⟨?_, ⟨by show (1 : Int) ≤ (k : Int); omega, by show (k : Int) ≤ 7; omega⟩, sm_get n3 0, sm_get n3 1, fun e => get_zero n1 (Nat.le_of_eq e), fun e => get_zero n1 e⟩
        unfold objT
        dsimp only
        rw [opsL_back hf n1, ← hj]
        congr 1
        unfold nameK
        rw [if_pos (by omega), Int.toNat_natCast]
        exact hs.symm
    · cases h
  · rintro ⟨o, a, b⟩ h
    obtain ⟨hk, hA, hB, z0, z1⟩ := h
    dsimp only at *
    obtain ⟨k, rfl⟩ : ∃ k : Nat, o = (k : Int) := ⟨o.toNat, by omega⟩
    have hk0 : 0 < k := by omega
    have hk1 : k < 8 := by omega
    have e0 : (nameK (k : Int)).data.toList = (names.getD k ⟨#[]⟩).data.toList := by
      unfold nameK
      rw [if_pos (by omega), Int.toNat_natCast]
    unfold objT
    dsimp only
    rw [e0, split_nums (let_not (kind_letters k hk1) (by decide))]
    rw [objW_cons]
    rw [kind_idx k hk1 hk0, if_pos hk1]
    have hn := pairW_text (opsL_sm (n := cntO (k : Int)) hA hB)
    rw [opsL_length (cnt_two _)] at hn
    rw [hn]
    obtain ⟨g0, g1⟩ := opsL_get z0 z1
    show some ((k : Int), (opsL (cntO (k : Int)) a b).getD 0 0, (opsL (cntO (k : Int)) a b).getD 1 0) = _
    rw [g0, g1]

/-- An instruction's words. -/
def insW : List (List UInt8) → Option De
  | [] => none
  | w :: ws => if idx ⟨w.toArray⟩ < 52 then (pairW ws (form (idx ⟨w.toArray⟩ : Nat)).length).map fun vs => (((idx ⟨w.toArray⟩ : Nat) : Int), vs.getD 0 0, vs.getD 1 0) else none
theorem insW_cons (w : List UInt8) (ws : List (List UInt8)) : insW (w :: ws) = if idx ⟨w.toArray⟩ < 52 then (pairW ws (form (idx ⟨w.toArray⟩ : Nat)).length).map fun vs => (((idx ⟨w.toArray⟩ : Nat) : Int), vs.getD 0 0, vs.getD 1 0) else none := rfl
theorem ins_read (l : List UInt8) : insW (Lib.split l [32]) = readIns l := by
  refine same_read (W := fun l => insW (Lib.split l [32])) (T := lineT) (S := Says) (fun _ _ h => ins_some h) (fun _ h => ins_text h) ?_ ?_ l
  · intro l d h
    have hj := join_split (sep := [32]) (by simp) (l.length + 1) l (Nat.lt_succ_self _)
    obtain ⟨w, ws, e⟩ := split_cons l (sep := [32]) (by simp)
    rw [e] at h hj
    rw [insW_cons] at h
    split at h
    · rename_i hk
      have hs := idx_same hk
      cases hv : pairW ws (form (idx ⟨w.toArray⟩ : Nat)).length with
      | none => rw [hv] at h; cases h
      | some vs =>
        rw [hv] at h
        injection h with h
        obtain ⟨n1, n2, n3⟩ := pairW_some hv
        have hf := form_two _ hk
        subst h
        generalize idx ⟨w.toArray⟩ = k at *
        subst n2
        rw [join_nums] at hj
        refine ⟨?_, ⟨by show (0 : Int) ≤ (k : Int); omega, by show (k : Int) ≤ 51; omega⟩, sm_get n3 0, sm_get n3 1, fun e => get_zero n1 (Nat.le_of_eq e), fun e => get_zero n1 e⟩
        unfold lineT
        dsimp only
        rw [opsL_back hf n1, ← hj, txt_at hk, hs]
    · cases h
  · rintro ⟨o, a, b⟩ h
    obtain ⟨hk, hA, hB, z0, z1⟩ := h
    obtain ⟨k, hk1, hk2⟩ := nat_of hk
    dsimp only at *
    subst hk2
    have e0 : (txt nm (k : Int)).data.toList = (nm.getD k ⟨#[]⟩).data.toList := by rw [txt_at hk1]
    unfold lineT
    dsimp only
    rw [e0, split_nums (let_not (name_letters k hk1) (by decide))]
    rw [insW_cons]
    have e1 : idx ⟨((nm.getD k ⟨#[]⟩).data.toList).toArray⟩ = k := by
      have : (⟨((nm.getD k ⟨#[]⟩).data.toList).toArray⟩ : ByteArray) = nm.getD k ⟨#[]⟩ := by
        generalize nm.getD k ⟨#[]⟩ = y
        cases y
        simp
      rw [this, idx_name k hk1]
    rw [e1, if_pos hk1]
    have hn := pairW_text (opsL_sm (n := (form (k : Int)).length) hA hB)
    rw [opsL_length (form_two k hk1)] at hn
    rw [hn]
    obtain ⟨g0, g1⟩ := opsL_get z0 z1
    show some ((k : Int), (opsL (form (k : Int)).length a b).getD 0 0, (opsL (form (k : Int)).length a b).getD 1 0) = _
    rw [g0, g1]

/-- A function's words. -/
def funcW : List (List UInt8) → Option (Int × Int)
  | [] => none
  | w :: ws => if w = wF then (pairW ws 2).map fun vs => (vs.getD 0 0, vs.getD 1 0) else none
theorem funcW_cons (w : List UInt8) (ws : List (List UInt8)) : funcW (w :: ws) = if w = wF then (pairW ws 2).map fun vs => (vs.getD 0 0, vs.getD 1 0) else none := rfl
def readF (l : List UInt8) : Option (Int × Int) := if l.take 4 = wF then (nums 2 (l.drop 4)).map fun vs => (vs.getD 0 0, vs.getD 1 0) else none
theorem pair_of {vs : List Int} (h : vs.length = 2) : vs = [vs.getD 0 0, vs.getD 1 0] := by
  match vs, h with
  | [a, b], _ => rfl
theorem func_read (l : List UInt8) : funcW (Lib.split l [32]) = readF l := by
  refine same_read (W := fun l => funcW (Lib.split l [32])) (T := fun x => wF ++ numsT [x.1, x.2]) (S := fun x => Sm x.1 ∧ Sm x.2) ?_ ?_ ?_ ?_ l
  · rintro l x h
    unfold readF at h
    split at h
    · rename_i hw
      cases hv : nums 2 (l.drop 4) with
      | none => rw [hv] at h; cases h
      | some vs =>
        rw [hv] at h
        injection h with h
        subst h
        obtain ⟨n1, n2, n3⟩ := nums_some _ _ _ hv
        refine ⟨?_, sm_get n3 0, sm_get n3 1⟩
        dsimp only
        rw [← pair_of n1, ← n2]
        exact cut_at hw
    · cases h
  · rintro ⟨a, b⟩ h
    unfold readF
    rw [if_pos (show (wF ++ numsT [a, b]).take 4 = wF from rfl), show (wF ++ numsT [a, b]).drop 4 = numsT [a, b] from rfl]
    rw [show nums 2 (numsT [a, b]) = some [a, b] from nums_text [a, b] (by
      intro v hv
      rcases List.mem_cons.1 hv with rfl | hv
      · exact h.1
      · rw [List.mem_singleton.1 hv]; exact h.2)]
    rfl
  · rintro l x h
    have hj := join_split (sep := [32]) (by simp) (l.length + 1) l (Nat.lt_succ_self _)
    obtain ⟨w, ws, e⟩ := split_cons l (sep := [32]) (by simp)
    rw [e] at h hj
    rw [funcW_cons] at h
    split at h
    · rename_i hw
      cases hv : pairW ws 2 with
      | none => rw [hv] at h; cases h
      | some vs =>
        rw [hv] at h
        injection h with h
        obtain ⟨n1, n2, n3⟩ := pairW_some hv
        subst h
        subst n2
        subst hw
        rw [join_nums] at hj
        refine ⟨?_, sm_get n3 0, sm_get n3 1⟩
        dsimp only
        rw [← pair_of n1, hj]
    · cases h
  · rintro ⟨a, b⟩ h
    dsimp only
    rw [split_nums (by decide)]
    rw [funcW_cons]
    rw [if_pos rfl, show pairW ([a, b].map intT) 2 = some [a, b] from pairW_text (vs := [a, b]) (by
      intro v hv
      rcases List.mem_cons.1 hv with rfl | hv
      · exact h.1
      · rw [List.mem_singleton.1 hv]; exact h.2)]
    rfl

theorem cut_one {c : UInt8} {p : List UInt8} (h : ∀ d ∈ p, d ≠ c) (r : List UInt8) : Lib.cut (p ++ c :: r) [c] = (p, r, true) := by
  have hi := (free_one h).1 r
  rw [List.append_assoc, List.singleton_append] at hi
  unfold Lib.cut
  rw [hi, if_pos (by omega), Int.toNat_natCast, List.take_left]
  congr 2
  rw [show p.length + [c].length = p.length + 1 from rfl, ← List.drop_drop, List.drop_left]
  rfl
theorem cut_none {c : UInt8} {p : List UInt8} (h : ∀ d ∈ p, d ≠ c) : Lib.cut p [c] = (p, [], false) := by
  unfold Lib.cut
  rw [(free_one h).2, if_neg (by decide)]
/-- The first kind, of so many that are left, with which these numbers are the text. -/
def needK (t : List UInt8) (o m : Int) : Nat → Option De
  | 0 => none
  | n + 1 => if needT (6 - ((n + 1 : Nat) : Int), o, m) = t then some (6 - ((n + 1 : Nat) : Int), o, m) else needK t o m n
theorem needK_some {t : List UInt8} {o m : Int} : ∀ {n : Nat} {x : De}, n ≤ 5 → needK t o m n = some x → ∃ k : Int, x = (k, o, m) ∧ (1 ≤ k ∧ k ≤ 5) ∧ needT x = t := by
  intro n
  induction n with
  | zero => intro x _ h; cases h
  | succ n ih =>
    intro x hn h
    unfold needK at h
    split at h
    · rename_i e
      injection h with h
      subst h
      exact ⟨_, rfl, ⟨by omega, by omega⟩, e⟩
    · exact ih (by omega) h
theorem need_word {k o m : Int} (h : 1 ≤ k ∧ k ≤ 5) : (needT (k, o, m)).takeWhile isA = word k := by
  have e : needT (k, o, m) = word k ++ (32 :: (intT o ++ tailT k m)) := by simp [needT]
  rw [e]
  exact (word_text _ _ (word_letters h).1 (fun c r e => by injection e with e1 _; subst e1; rfl)).1
theorem need_kind {k k' o m : Int} (h : 1 ≤ k ∧ k ≤ 5) (h' : 1 ≤ k' ∧ k' ≤ 5) (e : needT (k, o, m) = needT (k', o, m)) : k = k' := by
  have e1 := need_word (o := o) (m := m) h
  rw [e, need_word h'] at e1
  rw [← (word_letters h).2, ← (word_letters h').2, e1]
theorem needK_text {o m k : Int} : ∀ {n : Nat}, n ≤ 5 → 6 - (n : Int) ≤ k → k ≤ 5 → needK (needT (k, o, m)) o m n = some (k, o, m) := by
  intro n
  induction n with
  | zero => intro _ h1 h2; omega
  | succ n ih =>
    intro hn h1 h2
    unfold needK
    by_cases hk : k = 6 - ((n + 1 : Nat) : Int)
    · rw [← hk, if_pos rfl]
    · rw [if_neg (fun e => hk (need_kind (by omega) (by omega) e).symm)]
      exact ih (by omega) (by omega) h2
/-- A need's text: how much stands behind its object, and of which kind it is. -/
def objN (t : List UInt8) : Int := (readD (Lib.cut (Lib.cut t [32]).2.1 [58]).1 10).getD 0
def manyN (t : List UInt8) : Int := (readD (Lib.cut (Lib.cut t [32]).2.1 [58]).2.1 10).getD 0
def needW (t : List UInt8) : Option De := needK t (objN t) (manyN t) 5
theorem sm_read (t : List UInt8) : Sm ((readD t 10).getD 0) := by
  cases h : readD t 10 with
  | none => exact ⟨by decide, by decide⟩
  | some v => exact (num_some h).2
theorem read_nil : (readD [] 10).getD 0 = 0 := by decide
theorem need_cut {k o m : Int} (hk : 1 ≤ k ∧ k ≤ 5) : (Lib.cut (Lib.cut (needT (k, o, m)) [32]).2.1 [58]).1 = intT o ∧ (Lib.cut (Lib.cut (needT (k, o, m)) [32]).2.1 [58]).2.1 = if k < 4 then [] else intT m := by
  have e : needT (k, o, m) = word k ++ 32 :: (intT o ++ tailT k m) := by simp [needT]
  rw [e, cut_one (let_not (word_letters hk).1 (by decide))]
  dsimp only
  unfold tailT
  by_cases h4 : k < 4
  · rw [if_neg (by omega), if_pos h4, List.append_nil, cut_none (int_not (by decide) (by decide))]
    exact ⟨rfl, rfl⟩
  · rw [if_pos (by omega), if_neg h4, cut_one (int_not (by decide) (by decide))]
    exact ⟨rfl, rfl⟩
theorem needW_text {n : De} (h : SaysN n) : needW (needT n) = some n := by
  obtain ⟨k, o, m⟩ := n
  obtain ⟨hk, ho, hm, hz⟩ := h
  dsimp only at hk ho hm hz
  obtain ⟨c1, c2⟩ := need_cut (o := o) (m := m) hk
  have e1 : objN (needT (k, o, m)) = o := by
    unfold objN
    rw [c1, num_text ho]
    rfl
  have e2 : manyN (needT (k, o, m)) = m := by
    unfold manyN
    rw [c2]
    by_cases h4 : k < 4
    · rw [if_pos h4, hz h4]
      exact read_nil
    · rw [if_neg h4, num_text hm]
      rfl
  unfold needW
  rw [e1, e2]
  exact needK_text (Nat.le_refl _) (by omega) hk.2
theorem needW_some {t : List UInt8} {n : De} (h : needW t = some n) : t = needT n ∧ SaysN n := by
  unfold needW at h
  obtain ⟨k, rfl, hk, ht⟩ := needK_some (Nat.le_refl _) h
  refine ⟨ht.symm, hk, sm_read _, sm_read _, fun h4 => ?_⟩
  dsimp only at h4 ⊢
  have c2 := (need_cut (o := objN t) (m := manyN t) hk).2
  rw [ht, if_pos h4] at c2
  unfold manyN
  rw [c2]
  exact read_nil
def wayW (t : List UInt8) : Option (List De) := allW needW (Lib.split t [32, 43, 32])
def waitW (t : List UInt8) : Option (List (List De)) := allW wayW (Lib.split t [32, 124, 32])
theorem join_needs : ∀ l : List De, joinS [32, 43, 32] (l.map needT) = needsL l := by
  intro l
  induction l with
  | nil => rfl
  | cons n l ih =>
    cases l with
    | nil => rfl
    | cons m l =>
      show needT n ++ [32, 43, 32] ++ joinS [32, 43, 32] ((m :: l).map needT) = needT n ++ ([32, 43, 32] ++ needsL (m :: l))
      rw [ih, List.append_assoc]
theorem join_ways : ∀ w : List (List De), joinS [32, 124, 32] (w.map needsL) = waysL w := by
  intro w
  induction w with
  | nil => rfl
  | cons n l ih =>
    cases l with
    | nil => rfl
    | cons m l =>
      show needsL n ++ [32, 124, 32] ++ joinS [32, 124, 32] ((m :: l).map needsL) = needsL n ++ ([32, 124, 32] ++ waysL (m :: l))
      rw [ih, List.append_assoc]
/-- The bytes of a need. -/
theorem need_not {n : De} (h : SaysN n) {x : UInt8} (h1 : isA x = false) (h2 : isD x = false) (h3 : x ≠ 45) (h4 : x ≠ 32) (h5 : x ≠ 58) : ∀ c ∈ needT n, c ≠ x := by
  intro c hc
  unfold needT tailT at hc
  rcases List.mem_append.1 hc with hc | hc
  · rcases List.mem_append.1 hc with hc | hc
    · rcases List.mem_append.1 hc with hc | hc
      · exact let_not (word_letters h.1).1 h1 c hc
      · rw [List.mem_singleton.1 hc]; exact h4.symm
    · exact int_not h2 h3 c hc
  · split at hc
    · rcases List.mem_cons.1 hc with rfl | hc
      · exact h5.symm
      · exact int_not h2 h3 c hc
    · cases hc
theorem needs_not {l : List De} (h : ∀ n ∈ l, SaysN n) : ∀ c ∈ needsL l, c ≠ 124 := by
  induction l with
  | nil => intro c hc; cases hc
  | cons n l ih =>
    have hn := need_not (h n (List.mem_cons_self ..)) (x := 124) (by decide) (by decide) (by decide) (by decide) (by decide)
    cases l with
    | nil => exact hn
    | cons m l =>
      intro c hc
      have e : needsL (n :: m :: l) = needT n ++ ([32, 43, 32] ++ needsL (m :: l)) := rfl
      rw [e] at hc
      rcases List.mem_append.1 hc with hc | hc
      · exact hn c hc
      · rcases List.mem_append.1 hc with hc | hc
        · exact (by decide : ∀ c ∈ ([32, 43, 32] : List UInt8), c ≠ 124) c hc
        · exact ih (fun x hx => h x (List.mem_cons_of_mem _ hx)) c hc
def SaysY (y : List De) : Prop := y ≠ [] ∧ ∀ n ∈ y, SaysN n
theorem wayW_text {y : List De} (h : SaysY y) : wayW (needsL y) = some y := by
  unfold wayW
  rw [← join_needs, split_join (by simp) _ (by simpa using h.1) (fun p hp => by
    obtain ⟨n, hn, rfl⟩ := List.mem_map.1 hp
    exact free_three (by decide) (need_not (h.2 n hn) (by decide) (by decide) (by decide) (by decide) (by decide)))]
  exact allW_text (T := needT) (S := SaysN) (fun v e => needW_text e) y h.2
theorem wayW_some {t : List UInt8} {y : List De} (h : wayW t = some y) : t = needsL y ∧ SaysY y := by
  unfold wayW at h
  obtain ⟨h1, h2⟩ := allW_some (T := needT) (S := SaysN) (fun t v e => needW_some e) _ _ h
  have hj := join_split (sep := [32, 43, 32]) (by simp) (t.length + 1) t (Nat.lt_succ_self _)
  obtain ⟨w, ws, e⟩ := split_cons t (sep := [32, 43, 32]) (by simp)
  refine ⟨by rw [← join_needs, ← h1, hj], fun e2 => ?_, h2⟩
  subst e2
  rw [e] at h1
  cases h1
theorem wait_read (l : List UInt8) : waitW l = readW l.length l := by
  refine same_read (W := waitW) (rd := fun l => readW l.length l) (T := waysL) (S := SaysW) (fun _ _ h => readW_some _ _ _ h) (fun x h => readW_text _ x h (waysL_len x)) ?_ ?_ l
  · intro l x h
    unfold waitW at h
    obtain ⟨h1, h2⟩ := allW_some (T := needsL) (S := SaysY) (fun t v e => wayW_some e) _ _ h
    have hj := join_split (sep := [32, 124, 32]) (by simp) (l.length + 1) l (Nat.lt_succ_self _)
    obtain ⟨w, ws, e⟩ := split_cons l (sep := [32, 124, 32]) (by simp)
    refine ⟨by rw [← join_ways, ← h1, hj], fun e2 => ?_, h2⟩
    subst e2
    rw [e] at h1
    cases h1
  · intro x h
    unfold waitW
    rw [← join_ways, split_join (by simp) _ (by simpa using h.1) (fun p hp => by
      obtain ⟨n, hn, rfl⟩ := List.mem_map.1 hp
      exact free_three (by decide) (needs_not (h.2 n hn).2))]
    exact allW_text (T := needsL) (S := SaysY) (fun v e => wayW_text e) x h.2

theorem prefix_take (l p : List UInt8) : Lib.hasPrefix l p = true ↔ l.take p.length = p := by
  unfold Lib.hasPrefix
  rw [List.isPrefixOf_iff_prefix]
  constructor
  · rintro ⟨r, rfl⟩
    rw [List.take_left]
  · intro h
    have := List.take_prefix p.length l
    rwa [h] at this
/-- A line's words. -/
def itemW (l : List UInt8) : Option Item :=
  if Lib.hasPrefix l wO = true then (objW (Lib.split (l.drop 7) [32])).map .o
  else if Lib.hasPrefix l wW = true then (waitW (l.drop 5)).map .w
  else if Lib.hasPrefix l [32, 32] = true then (insW (Lib.split (l.drop 2) [32])).map .i
  else (funcW (Lib.split l [32])).map fun x => .f x.1 x.2
theorem item_read (l : List UInt8) : itemW l = readItem l := by
  have hO : Lib.hasPrefix l wO = true ↔ l.take 7 = wO := prefix_take l wO
  have hW : Lib.hasPrefix l wW = true ↔ l.take 5 = wW := prefix_take l wW
  have hI : Lib.hasPrefix l [32, 32] = true ↔ l.take 2 = [32, 32] := prefix_take l [32, 32]
  unfold itemW readItem
  by_cases h1 : l.take 7 = wO
  · rw [if_pos (hO.2 h1), if_pos h1, obj_read]
  · rw [if_neg (fun h => h1 (hO.1 h)), if_neg h1]
    by_cases h2 : l.take 5 = wW
    · rw [if_pos (hW.2 h2), if_pos h2, wait_read]
    · rw [if_neg (fun h => h2 (hW.1 h)), if_neg h2]
      by_cases h3 : l.take 4 = wF
      · have h4 : ¬ Lib.hasPrefix l [32, 32] = true := fun h => by
          have h5 := hI.1 h
          have : (l.take 4).take 2 = l.take 2 := by rw [List.take_take]; rfl
          rw [h3, h5] at this
          exact absurd this (by decide)
        rw [if_neg h4, if_pos h3, func_read]
        unfold readF
        rw [if_pos h3, Option.map_map]
        rfl
      · rw [if_neg h3]
        by_cases h4 : l.take 2 = [32, 32]
        · rw [if_pos (hI.2 h4), if_pos h4, ins_read]
        · rw [if_neg (fun h => h4 (hI.1 h)), if_neg h4, func_read]
          unfold readF
          rw [if_neg h3]
          rfl
theorem line_flat : ∀ s : List UInt8, ∀ d ∈ lineOf s, d ≠ 10 := by
  intro s
  induction s with
  | nil => intro d hd; cases hd
  | cons c s ih =>
    intro d hd
    unfold lineOf at hd
    rw [List.takeWhile_cons] at hd
    split at hd
    · rename_i hc
      rcases List.mem_cons.1 hd with rfl | hd
      · simpa using hc
      · exact ih d hd
    · cases hd
/-- A text cut at its first line feed. -/
theorem cut_feed (s : List UInt8) : Lib.cut s [10] = (lineOf s, (behind s).drop 1, !decide (behind s = [])) := by
  have hf := line_flat s
  by_cases hb : behind s = []
  · have hl : lineOf s = s := by conv => rhs; rw [line_split s, hb, List.append_nil]
    rw [cut_none (fun d hd => hf d (by rw [hl]; exact hd)), hl, hb]
    simp
  · have e : s = lineOf s ++ 10 :: (behind s).drop 1 := by rw [← behind_feed hb, ← line_split]
    conv => lhs; rw [e, cut_one hf]
    simp [hb]
end Go.Proofs.YtnhoeboighndlaaGreatDoor.pgm.asm

/-
  The program's table of names lies where its initialiser lays it; with that: an operation's name, and the operation of a name. The card ties the table to the program's text.
-/
namespace Go.Proofs.YtnhoeboighndlaaGreatDoor.oper
open Go.RowKit Go.ChangeShapes

/-- The table of names lies where its initialiser lays it. -/
def Tab (w : World) : Prop := ∀ j, j < 52 → w.cell? ⟨1, j, none⟩ = some (.string (nm.getD j ⟨#[]⟩))
theorem Tab.below {B : Nat} {w w' : World} (h : Tab w) (hb : Below B w w') (hB : 1 < B) : Tab w' := fun j hj => (hb.cell (p := ⟨1, j, none⟩) hB).trans (h j hj)
theorem Tab.cell {w w' : World} (h : Tab w) (hc : ∀ p, w'.cell? p = w.cell? p) : Tab w' := fun j hj => (hc _).trans (h j hj)

theorem name_yes (k : Nat) (hk : k < 52) (w : World) (hT : Tab w) : Calls Tryz.prog 27 #[.int .i64 (k : Int)] w fun e w' => e = .returned (.string (nm.getD k ⟨#[]⟩)) ∧ w = w' := by
  have hc := hT k hk
  have H := Lib.hid (known_yes k (by omega) (by omega) w)
  have h1 : (k : Int) < 52 := by omega
  clear hT
  generalize nm.getD k ⟨#[]⟩ = x at *
  go_enter Tryz.func27, Tryz.ntmps27
  go_wp2_with fail
  refine H.out.mono ?_
  rintro e w' ⟨rfl, rfl⟩
  go_wp2
  go_ret
  exact ⟨rfl, rfl⟩
theorem name_no (n : Int) (h : n < 0 ∨ 51 < n) (w : World) : Calls Tryz.prog 27 #[.int .i64 n] w fun e w' => e = .returned (.string ⟨#[]⟩) ∧ w = w' := by
  have H := Lib.hid (known_no n h w)
  clear h
  go_enter Tryz.func27, Tryz.ntmps27
  go_wp2_with fail
  refine H.out.mono ?_
  rintro e w' ⟨rfl, rfl⟩
  go_wp2
  go_ret
  exact ⟨rfl, rfl⟩
theorem name_any (n : Int) (w : World) (hT : Tab w) : Calls Tryz.prog 27 #[.int .i64 n] w fun e w' => e = .returned (.string (txt nm n)) ∧ w = w' := by
  by_cases h : 0 ≤ n ∧ n ≤ 51
  · obtain ⟨k, hk, rfl⟩ := nat_of h
    rw [txt_at hk]
    exact name_yes k hk w hT
  · rw [txt_no (by omega)]
    exact name_no n (by omega) w

/-- What Of answers of a name: the operation, and whether there is one. -/
def ofK (s : ByteArray) : Int := if idx s < 52 then idx s else 0
def ofB (s : ByteArray) : Bool := decide (idx s < 52)
def OfPost (s : ByteArray) (w : World) (e : Ending) (w' : World) : Prop := e = .returned (.tuple #[.int .i64 (ofK s), .bool (ofB s)]) ∧ w = w'

set_option maxHeartbeats 1000000 in
theorem of_any (s : ByteArray) (w : World) (hT : Tab w) : Calls Tryz.prog 83 #[.string s] w (OfPost s w) := by
  have HT := Lib.hid hT
  clear hT
  go_enter Tryz.func83, Tryz.ntmps83
  go_wp2
  go_loop [5] (fun i => ∃ k : Nat, k ≤ 52 ∧ k ≤ idx s ∧ i = .int .i64 (k : Int)) (fun i => 52 - (intOf i).toNat)
  case atStart => exact ⟨0, Nat.zero_le _, Nat.zero_le _, rfl⟩
  case round =>
    obtain ⟨k, hk, hi, rfl⟩ := hrel
    by_cases hlt : k < 52
    · have hc := HT.out k hlt
      have hlt' : (k : Int) < 52 := by omega
      cases hs : same (nm.getD k ⟨#[]⟩) s with
      | true =>
        have HE := Lib.hid (idx_of hi hlt hs)
        unfold same at hs
        generalize nm.getD k ⟨#[]⟩ = x at *
        go_wp2
        exact bodyPost_ret (v := .tuple #[.int .i64 (k : Int), .bool true]) (by simp [results, Tryz.results83, go_sem]) rfl ⟨by unfold ofK ofB; rw [HE.out, if_pos hlt, decide_eq_true hlt], rfl⟩
      | false =>
        have HE := Lib.hid (idx_next hi hlt hs)
        unfold same at hs
        generalize nm.getD k ⟨#[]⟩ = x at *
        go_wp2
        go_round
        case rel => exact ⟨k + 1, by omega, HE.out, by go_num⟩
        case measure => simp [intOf]; omega
    · have HE : Hid (¬ idx s < 52) := Lib.hid (by omega)
      have hge : ¬ (k : Int) < 52 := by omega
      go_wp2
      exact bodyPost_ret (v := .tuple #[.int .i64 0, .bool false]) (by simp [results, Tryz.results83, go_sem]) rfl ⟨by unfold ofK ofB; rw [if_neg HE.out, decide_eq_false HE.out], rfl⟩
end Go.Proofs.YtnhoeboighndlaaGreatDoor.oper

/-
  The document's own answers of operations, each by itself: its tables, which numbers are operations, the operation of a name, form, what is taken and laid. No condition but that an operand is not the greatest number.
-/
namespace Go.Proofs.YtnhoeboighndlaaGreatDoor.oper
open Go.RowKit Go.ChangeShapes
set_option linter.unusedVariables false

theorem row_cell {α : Type} (f : α → Value) (l : List α) (d : α) (T : TypeId) (w : World) {j : Nat} (hj : j < l.length) : (w.alloc (.cells (l.map f).toArray T)).cell? ⟨w.heap.size, j, none⟩ = some (f (l.getD j d)) := by
  have hb : (w.alloc (.cells (l.map f).toArray T)).heap[w.heap.size]? = some (.cells (l.map f).toArray T) := heap_alloc_new w _
  unfold World.cell?
  rw [hb]
  simp [List.getElem?_eq_getElem hj]

def nmBlock : Obj := .cells (nm.map fun x => .string x).toArray 9
theorem nmBlock_cell (w : World) {j : Nat} (hj : j < 52) : (w.alloc nmBlock).cell? ⟨w.heap.size, j, none⟩ = some (.string (nm.getD j ⟨#[]⟩)) :=
  row_cell (fun x => .string x) nm ⟨#[]⟩ 9 w hj

def fmBlock : Obj := .cells (fm.map fun x => .string x).toArray 9
theorem fmBlock_cell (w : World) {j : Nat} (hj : j < 52) : (w.alloc fmBlock).cell? ⟨w.heap.size, j, none⟩ = some (.string (fm.getD j ⟨#[]⟩)) :=
  row_cell (fun x => .string x) fm ⟨#[]⟩ 9 w hj

def tkBlock : Obj := .cells (tk.map fun x => .int .i64 x).toArray 3
theorem tkBlock_cell (w : World) {j : Nat} (hj : j < 52) : (w.alloc tkBlock).cell? ⟨w.heap.size, j, none⟩ = some (.int .i64 (tk.getD j 0)) :=
  row_cell (fun x => .int .i64 x) tk 0 3 w hj

def lyBlock : Obj := .cells (ly.map fun x => .int .i64 x).toArray 3
theorem lyBlock_cell (w : World) {j : Nat} (hj : j < 52) : (w.alloc lyBlock).cell? ⟨w.heap.size, j, none⟩ = some (.int .i64 (ly.getD j 0)) :=
  row_cell (fun x => .int .i64 x) ly 0 3 w hj

theorem refNames_any (w : World) : Calls Tryz.prog 55 #[] w fun e w' => e = .returned (.slice (some ⟨w.heap.size, 0, none⟩) 52 52) ∧ w' = w.alloc nmBlock := by
  go_enter Tryz.func55, Tryz.ntmps55
  go_wp2
  go_ret
  exact ⟨rfl, rfl⟩

theorem refForms_any (w : World) : Calls Tryz.prog 76 #[] w fun e w' => e = .returned (.slice (some ⟨w.heap.size, 0, none⟩) 52 52) ∧ w' = w.alloc fmBlock := by
  go_enter Tryz.func76, Tryz.ntmps76
  go_wp2
  go_ret
  exact ⟨rfl, rfl⟩

theorem refKnown_yes (n : Int) (h0 : 0 ≤ n) (h1 : n ≤ 51) (w : World) : Calls Tryz.prog 50 #[.int .i64 n] w fun e w' => e = .returned (.bool true) ∧ w = w' := by
  go_enter Tryz.func50, Tryz.ntmps50
  go_wp2
  go_ret
  exact ⟨rfl, rfl⟩
theorem refKnown_no (n : Int) (h : n < 0 ∨ 51 < n) (w : World) : Calls Tryz.prog 50 #[.int .i64 n] w fun e w' => e = .returned (.bool false) ∧ w = w' := by
  by_cases h0 : 0 ≤ n
  · have hd : decide (n ≤ 51) = false := by rw [decide_eq_false_iff_not]; omega
    go_enter Tryz.func50, Tryz.ntmps50
    go_wp2
    go_ret
    exact ⟨rfl, rfl⟩
  · have hd : decide (0 ≤ n) = false := by simpa using h0
    go_enter Tryz.func50, Tryz.ntmps50
    go_wp2
    go_ret
    exact ⟨rfl, rfl⟩

/-- The operation of a name, or -1. -/
def refI (s : ByteArray) : Int := if idx s < 52 then idx s else -1
theorem refForm_yes (k : Nat) (hk : k < 52) (w : World) : Calls Tryz.prog 51 #[.int .i64 (k : Int)] w fun e w' => e = .returned (.string (txt fm (k : Int))) ∧ Below w.heap.size w w' := by
  rw [txt_at hk]
  have HK := Lib.hid (refKnown_yes k (by omega) (by omega) w)
  have HT := Lib.hid (refForms_any w)
  have hc := fmBlock_cell w hk
  have h1 : (k : Int) < 52 := by omega
  have HB := Lib.hid ((Below.refl w.heap.size w).alloc (Nat.le_refl _) fmBlock)
  generalize fm.getD k ⟨#[]⟩ = x at *
  generalize fmBlock = B at *
  go_enter Tryz.func51, Tryz.ntmps51
  go_wp2_with fail
  refine HK.out.mono ?_
  rintro e w1 ⟨rfl, rfl⟩
  go_wp2_with fail
  refine HT.out.mono ?_
  rintro e w1 ⟨rfl, rfl⟩
  go_wp2
  go_ret
  exact ⟨rfl, HB.out⟩
theorem refForm_no (n : Int) (h : n < 0 ∨ 51 < n) (w : World) : Calls Tryz.prog 51 #[.int .i64 n] w fun e w' => e = .returned (.string (txt fm n)) ∧ Below w.heap.size w w' := by
  rw [txt_no h]
  have HK := Lib.hid (refKnown_no n h w)
  clear h
  go_enter Tryz.func51, Tryz.ntmps51
  go_wp2_with fail
  refine HK.out.mono ?_
  rintro e w1 ⟨rfl, rfl⟩
  go_wp2
  go_ret
  exact ⟨rfl, Below.refl _ _⟩
theorem refForm_any (n : Int) (w : World) : Calls Tryz.prog 51 #[.int .i64 n] w fun e w' => e = .returned (.string (txt fm n)) ∧ Below w.heap.size w w' := by
  by_cases h : 0 ≤ n ∧ n ≤ 51
  · obtain ⟨k, hk, rfl⟩ := nat_of h
    exact refForm_yes k hk w
  · exact refForm_no n (by omega) w

end Go.Proofs.YtnhoeboighndlaaGreatDoor.oper

/-
  The document's own answers of words, each by itself: the word of the lowest bits, which numbers are words, a bit, two words bit by bit, a word that is moved, and what an operation comes to. No condition.
-/
namespace Go.Proofs.YtnhoeboighndlaaGreatDoor.word
open Go.RowKit Go.ChangeShapes

theorem ret_int {k : IntKind} {a b : Int} (h : a = b) : Ending.returned (.int k a) = .returned (.int k b) := by rw [h]
theorem ret_bool {a b : Bool} (h : a = b) : Ending.returned (.bool a) = .returned (.bool b) := by rw [h]

set_option maxHeartbeats 400000 in
theorem refFits_any (n : Int) (w : World) :
    Calls Tryz.prog 52 #[.int .i64 n] w fun e w' => e = .returned (.bool (decide (Word n))) ∧ w = w' := by
  by_cases h1 : -2147483648 ≤ n
  · by_cases h2 : n < 2147483648
    · have HE : Hid (decide (Word n) = true) := Lib.hid (by rw [decide_eq_true_iff]; unfold Word; omega)
      go_enter Tryz.func52, Tryz.ntmps52
      go_wp2
      go_ret
      exact ⟨ret_bool HE.out.symm, rfl⟩
    · have HE : Hid (decide (Word n) = false) := Lib.hid (by rw [decide_eq_false_iff_not]; unfold Word; omega)
      have hd : decide (n < 2147483648) = false := by simpa using h2
      go_enter Tryz.func52, Tryz.ntmps52
      go_wp2
      go_ret
      exact ⟨ret_bool HE.out.symm, rfl⟩
  · have HE : Hid (decide (Word n) = false) := Lib.hid (by rw [decide_eq_false_iff_not]; unfold Word; omega)
    have hd : decide (-2147483648 ≤ n) = false := by simpa using h1
    go_enter Tryz.func52, Tryz.ntmps52
    go_wp2
    go_ret
    exact ⟨ret_bool HE.out.symm, rfl⟩

/-- Two numbers, as a call tells them. -/
def two (p : Int × Int) : Value := .tuple #[.int .i64 p.1, .int .i64 p.2]

end Go.Proofs.YtnhoeboighndlaaGreatDoor.word
