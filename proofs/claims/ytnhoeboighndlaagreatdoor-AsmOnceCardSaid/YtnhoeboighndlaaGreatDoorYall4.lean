/-
  Texts of one claim in one file: YLine, YWait, YProg. Each has its own sentence, with its conditions.
-/
import Derived.Test.YtnhoeboighndlaaGreatDoorYall2
import Derived.Test.YtnhoeboighndlaaGreatDoorYall3
/-
  Lines of objects, functions and instructions, and what is read of them: plain mathematics of lists of bytes. No condition.
-/
namespace Go.Proofs.YtnhoeboighndlaaGreatDoor.pgm.asm
open Go.Proofs.YtnhoeboighndlaaGreatDoor.pgm
open Go.Proofs.YtnhoeboighndlaaGreatDoor.need (digs intT)
open Go.Proofs.YtnhoeboighndlaaGreatDoor.objs (De names nameK)
open Go.Proofs.YtnhoeboighndlaaGreatDoor.oper (nm txt idx idx_name small txt_at nat_of name_size)
open Go.Proofs.YtnhoeboighndlaaGreatDoor.inst (form)
set_option linter.unusedVariables false

/-- Numbers, each behind a blank. -/
def numsT : List Int → List UInt8
  | [] => []
  | v :: l => 32 :: (intT v ++ numsT l)
/-- So many numbers, each behind a blank, up to the end. -/
def nums : Nat → List UInt8 → Option (List Int)
  | 0, l => if l = [] then some [] else none
  | n + 1, l => if l.head? = some 32 then
      match number (l.drop 1) with
      | some (v, r) => (nums n r).map (v :: ·)
      | none => none
    else none
theorem stop_nums (l : List Int) : Stop (numsT l) := by
  intro c r e
  cases l with
  | nil => cases e
  | cons v l =>
    injection e with e1 _
    subst e1
    rfl
theorem nums_text : ∀ (vs : List Int), (∀ v ∈ vs, Sm v) → nums vs.length (numsT vs) = some vs := by
  intro vs
  induction vs with
  | nil => intro _; rfl
  | cons v vs ih =>
    intro h
    show (if (32 :: (intT v ++ numsT vs)).head? = some 32 then _ else _) = _
    rw [if_pos (show (32 :: (intT v ++ numsT vs)).head? = some 32 from rfl)]
    show (match number (intT v ++ numsT vs) with | some (v, r) => (nums vs.length r).map (v :: ·) | none => none) = _
    rw [number_text (h v (List.mem_cons_self ..)) (stop_nums vs)]
    show (nums vs.length (numsT vs)).map (v :: ·) = _
    rw [ih (fun x hx => h x (List.mem_cons_of_mem _ hx))]
    rfl
theorem nums_some : ∀ (n : Nat) (l : List UInt8) (vs : List Int), nums n l = some vs → vs.length = n ∧ l = numsT vs ∧ ∀ v ∈ vs, Sm v := by
  intro n
  induction n with
  | zero =>
    intro l vs h
    unfold nums at h
    split at h
    · injection h with h
      subst h
      exact ⟨rfl, ‹_›, fun v hv => by cases hv⟩
    · cases h
  | succ n ih =>
    intro l vs h
    unfold nums at h
    split at h
    · rename_i h0
      split at h
      · rename_i v r hn
        obtain ⟨e1, e2, e3⟩ := number_some hn
        cases hm : nums n r with
        | none => rw [hm] at h; cases h
        | some ws =>
          rw [hm] at h
          injection h with h
          subst h
          obtain ⟨i1, i2, i3⟩ := ih r ws hm
          refine ⟨by rw [List.length_cons, i1], ?_, fun x hx => ?_⟩
          · cases l with
            | nil => cases h0
            | cons c l =>
              injection h0 with h0
              subst h0
              show 32 :: l = 32 :: (intT v ++ numsT ws)
              rw [← i2, ← e1]
              rfl
          · rcases List.mem_cons.1 hx with rfl | hx
            · exact e2
            · exact i3 x hx
      · cases h
    · cases h

/-- A small letter. -/
def isA (c : UInt8) : Bool := decide (97 ≤ c.toNat ∧ c.toNat ≤ 122)
/-- No letter stands ahead. -/
def StopA (l : List UInt8) : Prop := ∀ c r, l = c :: r → isA c = false
theorem word_text : ∀ (w r : List UInt8), (∀ c ∈ w, isA c = true) → StopA r → (w ++ r).takeWhile isA = w ∧ (w ++ r).dropWhile isA = r := by
  intro w
  induction w with
  | nil =>
    intro r _ hr
    cases r with
    | nil => exact ⟨rfl, rfl⟩
    | cons c r =>
      have := hr c r rfl
      simp [this]
  | cons c w ih =>
    intro r h hr
    obtain ⟨h1, h2⟩ := ih r (fun d hd => h d (List.mem_cons_of_mem _ hd)) hr
    have := h c (List.mem_cons_self ..)
    simp [this, h1, h2]
theorem word_split (l : List UInt8) : l = l.takeWhile isA ++ l.dropWhile isA := (List.takeWhile_append_dropWhile).symm
theorem stopA_nums (l : List Int) : StopA (numsT l) := by
  intro c r e
  cases l with
  | nil => cases e
  | cons v l =>
    injection e with e1 _
    subst e1
    rfl

/-- The operands that are written. -/
def opsL (n : Nat) (a b : Int) : List Int := if n = 0 then [] else if n = 1 then [a] else [a, b]
theorem opsL_length {n : Nat} (h : n ≤ 2) (a b : Int) : (opsL n a b).length = n := by
  unfold opsL
  split
  · simp [*]
  · split
    · simp [*]
    · simp
      omega
/-- An instruction's line. -/
def lineT (x : De) : List UInt8 := (txt nm x.1).data.toList ++ numsT (opsL (form x.1).length x.2.1 x.2.2)
/-- The instruction of a line. -/
def readIns (l : List UInt8) : Option De :=
  if idx ⟨(l.takeWhile isA).toArray⟩ < 52 then
    match nums (form (idx ⟨(l.takeWhile isA).toArray⟩ : Nat)).length (l.dropWhile isA) with
    | some vs => some ((idx ⟨(l.takeWhile isA).toArray⟩ : Nat), vs.getD 0 0, vs.getD 1 0)
    | none => none
  else none
/-- An instruction that a line can say. -/
def Says (x : De) : Prop := (0 ≤ x.1 ∧ x.1 ≤ 51) ∧ Sm x.2.1 ∧ Sm x.2.2 ∧ ((form x.1).length = 0 → x.2.1 = 0) ∧ ((form x.1).length ≤ 1 → x.2.2 = 0)
theorem form_two : ∀ k : Nat, k < 52 → (form (k : Int)).length ≤ 2 := by decide +kernel
theorem name_letters : ∀ k : Nat, k < 52 → ∀ c ∈ (nm.getD k ⟨#[]⟩).data.toList, isA c = true := by decide +kernel
theorem ins_text {x : De} (h : Says x) : readIns (lineT x) = some x := by
  obtain ⟨hk, hA, hB, z0, z1⟩ := h
  obtain ⟨o, a, b⟩ := x
  obtain ⟨k, hk1, rfl⟩ := nat_of hk
  have e0 : (txt nm (k : Int)).data.toList = (nm.getD k ⟨#[]⟩).data.toList := by rw [txt_at hk1]
  have hf := form_two k hk1
  obtain ⟨w1, w2⟩ := word_text (nm.getD k ⟨#[]⟩).data.toList (numsT (opsL (form (k : Int)).length a b)) (name_letters k hk1) (stopA_nums _)
  unfold readIns lineT
  dsimp only at *
  rw [e0, w1, w2]
  have e1 : idx ⟨((nm.getD k ⟨#[]⟩).data.toList).toArray⟩ = k := by
    have : (⟨((nm.getD k ⟨#[]⟩).data.toList).toArray⟩ : ByteArray) = nm.getD k ⟨#[]⟩ := by
      generalize nm.getD k ⟨#[]⟩ = y
      cases y
      simp
    rw [this, idx_name k hk1]
  rw [e1, if_pos hk1]
  have hn := nums_text (opsL (form (k : Int)).length a b) (by
    unfold opsL
    intro v hv
    split at hv
    · cases hv
    · split at hv
      · rw [List.mem_singleton.1 hv]; exact hA
      · rcases List.mem_cons.1 hv with rfl | hv
        · exact hA
        · rw [List.mem_singleton.1 hv]; exact hB)
  rw [opsL_length hf] at hn
  rw [hn]
  show some ((k : Int), (opsL (form (k : Int)).length a b).getD 0 0, (opsL (form (k : Int)).length a b).getD 1 0) = some ((k : Int), a, b)
  unfold opsL
  split
  · rename_i h
    rw [z0 h, z1 (by omega)]
    rfl
  · split
    · rw [z1 (by omega)]
      rfl
    · rfl
theorem idx_same {s : ByteArray} (h : idx s < 52) : nm.getD (idx s) ⟨#[]⟩ = s := by
  have hl : idx s < nm.length := by rw [Go.Proofs.YtnhoeboighndlaaGreatDoor.oper.nm_length]; exact h
  have h1 := List.findIdx_getElem (xs := nm) (p := fun x => Go.Proofs.YtnhoeboighndlaaGreatDoor.oper.same x s) (w := hl)
  rw [List.getD_eq_getElem?_getD, List.getElem?_eq_getElem hl]
  exact Go.Proofs.YtnhoeboighndlaaGreatDoor.oper.same_iff.1 h1
theorem ins_some {l : List UInt8} {x : De} (h : readIns l = some x) : l = lineT x ∧ Says x := by
  unfold readIns at h
  split at h
  · rename_i hk
    obtain ⟨k, hkk⟩ : ∃ k, k = idx ⟨(l.takeWhile isA).toArray⟩ := ⟨_, rfl⟩
    have hs := idx_same hk
    rw [← hkk] at h hk hs
    split at h
    · rename_i vs hv
      injection h with h
      obtain ⟨n1, n2, n3⟩ := nums_some _ _ _ hv
      have hf := form_two k hk
      subst h
      have e0 : (txt nm (k : Int)).data.toList = l.takeWhile isA := by rw [txt_at hk, hs]
      have hov : opsL (form (k : Int)).length (vs.getD 0 0) (vs.getD 1 0) = vs := by
        unfold opsL
        match vs, n1 with
        | [], n1 => rw [if_pos (by rw [← n1]; rfl)]
        | [a], n1 => rw [if_neg (by rw [← n1]; simp), if_pos (by rw [← n1]; rfl)]; rfl
        | [a, b], n1 => rw [if_neg (by rw [← n1]; simp), if_neg (by rw [← n1]; simp)]; rfl
        | a :: b :: c :: r, n1 => simp at n1; omega
      have hz : Sm 0 := ⟨by decide, by decide⟩
      refine ⟨?_, ⟨by show (0 : Int) ≤ (k : Int); omega, by show (k : Int) ≤ 51; omega⟩, ?_, ?_, fun e => ?_, fun e => ?_⟩
      · unfold lineT
        dsimp only
        rw [e0, hov, ← n2]
        exact word_split l
      · show Sm (vs.getD 0 0)
        cases vs with
        | nil => exact hz
        | cons a r => exact n3 a (List.mem_cons_self ..)
      · show Sm (vs.getD 1 0)
        match vs with
        | [] => exact hz
        | [a] => exact hz
        | a :: b :: r => exact n3 b (List.mem_cons_of_mem _ (List.mem_cons_self ..))
      · show vs.getD 0 0 = 0
        have e' : (form (k : Int)).length = 0 := e
        rw [e'] at n1
        rw [List.length_eq_zero_iff.1 n1]
        rfl
      · show vs.getD 1 0 = 0
        have e' : (form (k : Int)).length ≤ 1 := e
        match vs, n1 with
        | [], _ => rfl
        | [a], _ => rfl
        | a :: b :: r, n1 => simp at n1; omega
    · cases h
  · cases h

/-- How many numbers an object's line has. -/
def cntO (k : Int) : Nat := if k = 3 ∨ k = 7 then 2 else if k = 6 then 1 else 0
/-- An object's line, behind its first word. -/
def objT (d : De) : List UInt8 := (nameK d.1).data.toList ++ numsT (opsL (cntO d.1) d.2.1 d.2.2)
/-- The kind that a word names; 8: none. -/
def isKind (w : List UInt8) (x : ByteArray) : Bool := x.data.toList == w && !(w == [])
def kindIdx (w : List UInt8) : Nat := names.findIdx (isKind w)
def readObj (l : List UInt8) : Option De :=
  if kindIdx (l.takeWhile isA) < 8 then
    match nums (cntO (kindIdx (l.takeWhile isA) : Nat)) (l.dropWhile isA) with
    | some vs => some ((kindIdx (l.takeWhile isA) : Nat), vs.getD 0 0, vs.getD 1 0)
    | none => none
  else none
def SaysO (d : De) : Prop := (1 ≤ d.1 ∧ d.1 ≤ 7) ∧ Sm d.2.1 ∧ Sm d.2.2 ∧ (cntO d.1 = 0 → d.2.1 = 0) ∧ (cntO d.1 ≤ 1 → d.2.2 = 0)
theorem cnt_two (k : Int) : cntO k ≤ 2 := by
  unfold cntO
  split
  · omega
  · split <;> omega
theorem kind_letters : ∀ k : Nat, k < 8 → ∀ c ∈ (names.getD k ⟨#[]⟩).data.toList, isA c = true := by decide +kernel
theorem kind_idx : ∀ k : Nat, k < 8 → 0 < k → kindIdx (names.getD k ⟨#[]⟩).data.toList = k := by decide +kernel
theorem kind_same {w : List UInt8} (h : kindIdx w < 8) : (names.getD (kindIdx w) ⟨#[]⟩).data.toList = w ∧ 0 < kindIdx w := by
  have hl : kindIdx w < names.length := h
  have h1 := List.findIdx_getElem (xs := names) (p := isKind w) (w := hl)
  unfold isKind at h1
  rw [Bool.and_eq_true] at h1
  have e : names.getD (kindIdx w) ⟨#[]⟩ = names[kindIdx w]'hl := by rw [List.getD_eq_getElem?_getD, List.getElem?_eq_getElem hl]; rfl
  refine ⟨by rw [e]; exact eq_of_beq h1.1, ?_⟩
  rcases Nat.eq_zero_or_pos (kindIdx w) with h0 | h0
  · exfalso
    have e2 : (names.getD (kindIdx w) ⟨#[]⟩).data.toList = w := by rw [e]; exact eq_of_beq h1.1
    rw [h0] at e2
    have hw : w = [] := e2.symm
    have h2 := h1.2
    subst hw
    cases h2
  · exact h0
theorem obj_text {d : De} (h : SaysO d) : readObj (objT d) = some d := by
  obtain ⟨hk, hA, hB, z0, z1⟩ := h
  obtain ⟨o, a, b⟩ := d
  dsimp only at *
  obtain ⟨k, rfl⟩ : ∃ k : Nat, o = (k : Int) := ⟨o.toNat, by omega⟩
  have hk0 : 0 < k := by omega
  have hk1 : k < 8 := by omega
  have e0 : (nameK (k : Int)).data.toList = (names.getD k ⟨#[]⟩).data.toList := by
    unfold nameK
    rw [if_pos (by omega), Int.toNat_natCast]
  have hf := cnt_two (k : Int)
  obtain ⟨w1, w2⟩ := word_text (names.getD k ⟨#[]⟩).data.toList (numsT (opsL (cntO (k : Int)) a b)) (kind_letters k hk1) (stopA_nums _)
  unfold readObj objT
  dsimp only
  rw [e0, w1, w2, kind_idx k hk1 hk0, if_pos hk1]
  have hn := nums_text (opsL (cntO (k : Int)) a b) (by
    unfold opsL
    intro v hv
    split at hv
    · cases hv
    · split at hv
      · rw [List.mem_singleton.1 hv]; exact hA
      · rcases List.mem_cons.1 hv with rfl | hv
        · exact hA
        · rw [List.mem_singleton.1 hv]; exact hB)
  rw [opsL_length hf] at hn
  rw [hn]
  show some ((k : Int), (opsL (cntO (k : Int)) a b).getD 0 0, (opsL (cntO (k : Int)) a b).getD 1 0) = some ((k : Int), a, b)
  unfold opsL
  split
  · rename_i h
    rw [z0 h, z1 (by omega)]
    rfl
  · split
    · rw [z1 (by omega)]
      rfl
    · rfl
theorem obj_some {l : List UInt8} {d : De} (h : readObj l = some d) : l = objT d ∧ SaysO d := by
  unfold readObj at h
  split at h
  · rename_i hk
    obtain ⟨k, hkk⟩ : ∃ k, k = kindIdx (l.takeWhile isA) := ⟨_, rfl⟩
    obtain ⟨hs, hp⟩ := kind_same hk
    rw [← hkk] at h hk hs hp
    split at h
    · rename_i vs hv
      injection h with h
      obtain ⟨n1, n2, n3⟩ := nums_some _ _ _ hv
      have hf := cnt_two (k : Int)
      subst h
      have e0 : (nameK (k : Int)).data.toList = l.takeWhile isA := by
        unfold nameK
        rw [if_pos (by omega), Int.toNat_natCast]
        exact hs
      have hov : opsL (cntO (k : Int)) (vs.getD 0 0) (vs.getD 1 0) = vs := by
        unfold opsL
        match vs, n1 with
        | [], n1 => rw [if_pos (by rw [← n1]; rfl)]
        | [a], n1 => rw [if_neg (by rw [← n1]; simp), if_pos (by rw [← n1]; rfl)]; rfl
        | [a, b], n1 => rw [if_neg (by rw [← n1]; simp), if_neg (by rw [← n1]; simp)]; rfl
        | a :: b :: c :: r, n1 => simp at n1; omega
      have hz : Sm 0 := ⟨by decide, by decide⟩
      refine ⟨?_, ⟨by show (1 : Int) ≤ (k : Int); omega, by show (k : Int) ≤ 7; omega⟩, ?_, ?_, fun e => ?_, fun e => ?_⟩
      · unfold objT
        dsimp only
        rw [e0, hov, ← n2]
        exact word_split l
      · show Sm (vs.getD 0 0)
        cases vs with
        | nil => exact hz
        | cons a r => exact n3 a (List.mem_cons_self ..)
      · show Sm (vs.getD 1 0)
        match vs with
        | [] => exact hz
        | [a] => exact hz
        | a :: b :: r => exact n3 b (List.mem_cons_of_mem _ (List.mem_cons_self ..))
      · show vs.getD 0 0 = 0
        have e' : cntO (k : Int) = 0 := e
        rw [e'] at n1
        rw [List.length_eq_zero_iff.1 n1]
        rfl
      · show vs.getD 1 0 = 0
        have e' : cntO (k : Int) ≤ 1 := e
        match vs, n1 with
        | [], _ => rfl
        | [a], _ => rfl
        | a :: b :: r, n1 => simp at n1; omega
    · cases h
  · cases h
end Go.Proofs.YtnhoeboighndlaaGreatDoor.pgm.asm

/-
  A wait's text, and the wait that is read of a text: plain mathematics of lists of bytes. No condition.
-/
namespace Go.Proofs.YtnhoeboighndlaaGreatDoor.pgm.asm
open Go.Proofs.YtnhoeboighndlaaGreatDoor.pgm
open Go.Proofs.YtnhoeboighndlaaGreatDoor.need (digs intT word tailT needT needsT waysT textW)
open Go.Proofs.YtnhoeboighndlaaGreatDoor.objs (De zero)
set_option linter.unusedVariables false

def kindW (w : List UInt8) : Int := if w = word 1 then 1 else if w = word 2 then 2 else if w = word 3 then 3 else if w = word 4 then 4 else if w = word 5 then 5 else 0
/-- The need with which a text begins, and what is left. -/
def readNeed (l : List UInt8) : Option (De × List UInt8) :=
  if 0 < kindW (l.takeWhile isA) ∧ (l.dropWhile isA).head? = some 32 then
    match number ((l.dropWhile isA).drop 1) with
    | some (o, b) =>
      if kindW (l.takeWhile isA) < 4 then some ((kindW (l.takeWhile isA), o, 0), b)
      else if b.head? = some 58 then
        match number (b.drop 1) with
        | some (c, e) => some ((kindW (l.takeWhile isA), o, c), e)
        | none => none
      else none
    | none => none
  else none
def SaysN (n : De) : Prop := (1 ≤ n.1 ∧ n.1 ≤ 5) ∧ Sm n.2.1 ∧ Sm n.2.2 ∧ (n.1 < 4 → n.2.2 = 0)
theorem stop_cons {c : UInt8} (h : isD c = false) (l : List UInt8) : Stop (c :: l) := by
  intro d r e
  injection e with e1 _
  subst e1
  exact h
theorem stop_app {c : UInt8} (h : isD c = false) (x l : List UInt8) : Stop ((c :: x) ++ l) := stop_cons h (x ++ l)
theorem word_letters {k : Int} (h : 1 ≤ k ∧ k ≤ 5) : (∀ c ∈ word k, isA c = true) ∧ kindW (word k) = k := by
  have : k = 1 ∨ k = 2 ∨ k = 3 ∨ k = 4 ∨ k = 5 := by omega
  rcases this with rfl | rfl | rfl | rfl | rfl
  · exact ⟨by decide +kernel, by decide +kernel⟩
  · exact ⟨by decide +kernel, by decide +kernel⟩
  · exact ⟨by decide +kernel, by decide +kernel⟩
  · exact ⟨by decide +kernel, by decide +kernel⟩
  · exact ⟨by decide +kernel, by decide +kernel⟩
theorem kindW_word {w : List UInt8} (h : 0 < kindW w) : (1 ≤ kindW w ∧ kindW w ≤ 5) ∧ word (kindW w) = w := by
  unfold kindW at *
  split
  · rename_i e; exact ⟨by omega, e.symm⟩
  · split
    · rename_i e; exact ⟨by omega, e.symm⟩
    · split
      · rename_i e; exact ⟨by omega, e.symm⟩
      · split
        · rename_i e; exact ⟨by omega, e.symm⟩
        · split
          · rename_i e; exact ⟨by omega, e.symm⟩
          · rename_i e1 e2 e3 e4 e5
            rw [if_neg e1, if_neg e2, if_neg e3, if_neg e4, if_neg e5] at h
            omega
theorem need_text {n : De} {r : List UInt8} (h : SaysN n) (hr : Stop r) : readNeed (needT n ++ r) = some (n, r) := by
  obtain ⟨hk, hA, hB, hz⟩ := h
  obtain ⟨k, o, c⟩ := n
  dsimp only at *
  obtain ⟨l1, l2⟩ := word_letters hk
  have e : needT (k, o, c) ++ r = word k ++ (32 :: (intT o ++ (tailT k c ++ r))) := by
    unfold needT
    simp
  rw [e]
  obtain ⟨w1, w2⟩ := word_text (word k) (32 :: (intT o ++ (tailT k c ++ r))) l1 (by
    intro d q e
    injection e with e1 _
    subst e1
    decide)
  unfold readNeed
  rw [w1, w2, l2, if_pos ⟨by omega, rfl⟩]
  show (match number (intT o ++ (tailT k c ++ r)) with
    | some (o, b) => if k < 4 then some ((k, o, 0), b) else if b.head? = some 58 then (match number (b.drop 1) with | some (c, e) => some ((k, o, c), e) | none => none) else none
    | none => none) = _
  by_cases h4 : k < 4
  · have et : tailT k c = [] := by unfold tailT; rw [if_neg (by omega)]
    rw [et, List.nil_append, number_text hA hr]
    show (if k < 4 then some ((k, o, (0 : Int)), r) else _) = _
    rw [if_pos h4, hz h4]
  · have et : tailT k c = 58 :: intT c := by unfold tailT; rw [if_pos (by omega)]
    rw [et, number_text hA (stop_app (by decide) _ _)]
    show (if k < 4 then some ((k, o, (0 : Int)), (58 :: intT c) ++ r) else if ((58 :: intT c) ++ r).head? = some 58 then (match number (((58 :: intT c) ++ r).drop 1) with | some (c, e) => some ((k, o, c), e) | none => none) else none) = _
    rw [if_neg h4, if_pos (show ((58 :: intT c) ++ r).head? = some 58 from rfl)]
    show (match number (intT c ++ r) with | some (c, e) => some ((k, o, c), e) | none => none) = _
    rw [number_text hB hr]
theorem head_split {l : List UInt8} {c : UInt8} (h : l.head? = some c) : l = c :: l.drop 1 := by
  cases l with
  | nil => cases h
  | cons d l =>
    injection h with h
    subst h
    rfl
theorem need_some {l r : List UInt8} {n : De} (h : readNeed l = some (n, r)) : l = needT n ++ r ∧ SaysN n ∧ Stop r := by
  unfold readNeed at h
  have hz : Sm 0 := ⟨by decide, by decide⟩
  split at h
  · rename_i hk
    obtain ⟨hk0, hk1⟩ := hk
    obtain ⟨kk, kw⟩ := kindW_word hk0
    have hl := word_split l
    have hs := head_split hk1
    generalize kindW (l.takeWhile isA) = k at *
    split at h
    · rename_i o b hn
      obtain ⟨n1, n2, n3⟩ := number_some hn
      split at h
      · rename_i h4
        injection h with h
        injection h with e1 e2
        subst e1 e2
        refine ⟨?_, ⟨kk, n2, hz, fun _ => rfl⟩, n3⟩
        unfold needT
        rw [show tailT k 0 = [] by unfold tailT; rw [if_neg (by omega)]]
        show l = word k ++ [32] ++ intT o ++ [] ++ b
        rw [kw]
        conv => lhs; rw [hl, hs, n1]
        simp
      · rename_i h4
        split at h
        · rename_i hb
          split at h
          · rename_i c e hc
            obtain ⟨m1, m2, m3⟩ := number_some hc
            injection h with h
            injection h with e1 e2
            subst e1 e2
            refine ⟨?_, ⟨kk, n2, m2, fun h5 => absurd h5 h4⟩, m3⟩
            unfold needT
            rw [show tailT k c = 58 :: intT c by unfold tailT; rw [if_pos (by omega)]]
            show l = word k ++ [32] ++ intT o ++ (58 :: intT c) ++ e
            rw [kw]
            have hb2 := head_split hb
            conv => lhs; rw [hl, hs, n1, hb2, m1]
            simp
          · cases h
        · cases h
    · cases h
  · cases h

/-- Needs, one behind the other. -/
def needsL : List De → List UInt8
  | [] => []
  | [n] => needT n
  | n :: m :: l => needT n ++ ([32, 43, 32] ++ needsL (m :: l))
def waysL : List (List De) → List UInt8
  | [] => []
  | [y] => needsL y
  | y :: z :: w => needsL y ++ ([32, 124, 32] ++ waysL (z :: w))
theorem needsL_snoc : ∀ (l : List De) (n : De), l ≠ [] → needsL (l ++ [n]) = needsL l ++ [32, 43, 32] ++ needT n := by
  intro l
  induction l with
  | nil => intro n h; exact absurd rfl h
  | cons m l ih =>
    intro n _
    cases l with
    | nil => simp [needsL]
    | cons x l =>
      have := ih n (by simp)
      show needT m ++ ([32, 43, 32] ++ needsL (x :: (l ++ [n]))) = (needT m ++ ([32, 43, 32] ++ needsL (x :: l))) ++ [32, 43, 32] ++ needT n
      rw [show x :: (l ++ [n]) = (x :: l) ++ [n] from rfl, this]
      simp
theorem waysL_snoc : ∀ (w : List (List De)) (y : List De), w ≠ [] → waysL (w ++ [y]) = waysL w ++ [32, 124, 32] ++ needsL y := by
  intro w
  induction w with
  | nil => intro n h; exact absurd rfl h
  | cons m l ih =>
    intro n _
    cases l with
    | nil => simp [waysL]
    | cons x l =>
      have := ih n (by simp)
      show needsL m ++ ([32, 124, 32] ++ waysL (x :: (l ++ [n]))) = (needsL m ++ ([32, 124, 32] ++ waysL (x :: l))) ++ [32, 124, 32] ++ needsL n
      rw [show x :: (l ++ [n]) = (x :: l) ++ [n] from rfl, this]
      simp
theorem needsT_take (l : List De) : ∀ j, j ≤ l.length → needsT l j = needsL (l.take j) := by
  intro j
  induction j with
  | zero => intro _; rfl
  | succ j ih =>
    intro hj
    have e : l.take (j + 1) = l.take j ++ [l.getD j zero] := by
      rw [List.take_add_one, List.getElem?_eq_getElem (by omega), List.getD_eq_getElem?_getD, List.getElem?_eq_getElem (by omega)]
      rfl
    show needsT l j ++ (if 0 < j then [32, 43, 32] else []) ++ needT (l.getD j zero) = _
    rw [ih (by omega), e]
    by_cases h0 : 0 < j
    · rw [if_pos h0, needsL_snoc _ _ (by
        intro e
        have := congrArg List.length e
        rw [List.length_take, List.length_nil] at this
        omega)]
    · obtain rfl : j = 0 := by omega
      simp [needsL]
theorem waysT_take (w : List (List De)) : ∀ j, j ≤ w.length → waysT w j = waysL (w.take j) := by
  intro j
  induction j with
  | zero => intro _; rfl
  | succ j ih =>
    intro hj
    have e : w.take (j + 1) = w.take j ++ [w.getD j []] := by
      rw [List.take_add_one, List.getElem?_eq_getElem (by omega), List.getD_eq_getElem?_getD, List.getElem?_eq_getElem (by omega)]
      rfl
    show waysT w j ++ (if 0 < j then [32, 124, 32] else []) ++ needsT (w.getD j []) (w.getD j []).length = _
    rw [ih (by omega), e, needsT_take _ _ (Nat.le_refl _), List.take_length]
    by_cases h0 : 0 < j
    · rw [if_pos h0, waysL_snoc _ _ (by
        intro e
        have := congrArg List.length e
        rw [List.length_take, List.length_nil] at this
        omega)]
    · obtain rfl : j = 0 := by omega
      simp [waysL]
theorem textW_ways (w : List (List De)) : textW w = waysL w := by
  unfold textW
  rw [waysT_take w w.length (Nat.le_refl _), List.take_length]

/-- The wait of a text, in at most so many needs. -/
def readW : Nat → List UInt8 → Option (List (List De))
  | 0, _ => none
  | k + 1, l =>
    match readNeed l with
    | none => none
    | some (n, r) =>
      if r = [] then some [[n]]
      else if r.take 3 = [32, 43, 32] then
        match readW k (r.drop 3) with
        | some (y :: w) => some ((n :: y) :: w)
        | _ => none
      else if r.take 3 = [32, 124, 32] then
        match readW k (r.drop 3) with
        | some w => some ([n] :: w)
        | none => none
      else none
def SaysW (w : List (List De)) : Prop := w ≠ [] ∧ ∀ y ∈ w, y ≠ [] ∧ ∀ n ∈ y, SaysN n
def many (w : List (List De)) : Nat := (w.map List.length).sum
theorem readW_text : ∀ (k : Nat) (w : List (List De)), SaysW w → many w ≤ k → readW k (waysL w) = some w := by
  intro k
  induction k with
  | zero =>
    intro w h hm
    exfalso
    cases w with
    | nil => exact h.1 rfl
    | cons y w =>
      have hy := (h.2 y (List.mem_cons_self ..)).1
      cases y with
      | nil => exact hy rfl
      | cons n y => simp [many] at hm
  | succ k ih =>
    intro w h hm
    cases w with
    | nil => exact absurd rfl h.1
    | cons y w =>
      obtain ⟨hy, hn⟩ := h.2 y (List.mem_cons_self ..)
      cases y with
      | nil => exact absurd rfl hy
      | cons n y =>
        have hsn := hn n (List.mem_cons_self ..)
        cases y with
        | cons m y =>
          have e : waysL ((n :: m :: y) :: w) = needT n ++ ([32, 43, 32] ++ waysL ((m :: y) :: w)) := by
            cases w with
            | nil => simp [waysL, needsL]
            | cons z w => simp [waysL, needsL]
          rw [e]
          unfold readW
          rw [need_text hsn (stop_app (by decide) _ _)]
          show (if ([32, 43, 32] : List UInt8) ++ waysL ((m :: y) :: w) = [] then some [[n]] else if (([32, 43, 32] : List UInt8) ++ waysL ((m :: y) :: w)).take 3 = ([32, 43, 32] : List UInt8) then (match readW k ((([32, 43, 32] : List UInt8) ++ waysL ((m :: y) :: w)).drop 3) with | some (y :: w) => some ((n :: y) :: w) | _ => none) else _) = _
          rw [if_neg (by simp), if_pos (by simp)]
          show (match readW k (waysL ((m :: y) :: w)) with | some (y :: w) => some ((n :: y) :: w) | _ => none) = _
          rw [ih ((m :: y) :: w) ⟨by simp, fun x hx => by
            rcases List.mem_cons.1 hx with rfl | hx
            · exact ⟨by simp, fun z hz => hn z (List.mem_cons_of_mem _ hz)⟩
            · exact h.2 x (List.mem_cons_of_mem _ hx)⟩ (by simp [many] at hm ⊢; omega)]
        | nil =>
          cases w with
          | nil =>
            have e : waysL [[n]] = needT n ++ [] := by simp [waysL, needsL]
            rw [e]
            unfold readW
            rw [need_text hsn (fun c r e => by cases e)]
            rfl
          | cons z w =>
            have e : waysL ([n] :: z :: w) = needT n ++ ([32, 124, 32] ++ waysL (z :: w)) := by simp [waysL, needsL]
            rw [e]
            unfold readW
            rw [need_text hsn (stop_app (by decide) _ _)]
            show (if ([32, 124, 32] : List UInt8) ++ waysL (z :: w) = [] then some [[n]] else if (([32, 124, 32] : List UInt8) ++ waysL (z :: w)).take 3 = ([32, 43, 32] : List UInt8) then _ else if (([32, 124, 32] : List UInt8) ++ waysL (z :: w)).take 3 = ([32, 124, 32] : List UInt8) then (match readW k ((([32, 124, 32] : List UInt8) ++ waysL (z :: w)).drop 3) with | some w => some ([n] :: w) | none => none) else none) = _
            rw [if_neg (by simp), if_neg (by simp), if_pos (by simp)]
            show (match readW k (waysL (z :: w)) with | some w => some ([n] :: w) | none => none) = _
            rw [ih (z :: w) ⟨by simp, fun x hx => h.2 x (List.mem_cons_of_mem _ hx)⟩ (by simp [many] at hm ⊢; omega)]
theorem readW_some : ∀ (k : Nat) (l : List UInt8) (w : List (List De)), readW k l = some w → l = waysL w ∧ SaysW w := by
  intro k
  induction k with
  | zero => intro l w h; cases h
  | succ k ih =>
    intro l w h
    unfold readW at h
    split at h
    · cases h
    · rename_i n r hr
      obtain ⟨e1, e2, e3⟩ := need_some hr
      split at h
      · rename_i h0
        injection h with h
        subst h h0
        refine ⟨by rw [e1]; simp [waysL, needsL], by simp, fun y hy => ?_⟩
        rw [List.mem_singleton.1 hy]
        exact ⟨by simp, fun m hm => by rw [List.mem_singleton.1 hm]; exact e2⟩
      · split at h
        · rename_i h3
          have hs := List.take_append_drop 3 r
          rw [h3] at hs
          split at h
          · rename_i y v hv
            injection h with h
            subst h
            obtain ⟨i1, i2⟩ := ih _ _ hv
            have hy := i2.2 y (List.mem_cons_self ..)
            refine ⟨?_, by simp, fun x hx => ?_⟩
            · rw [e1, ← hs, i1]
              cases y with
              | nil => exact absurd rfl hy.1
              | cons m y =>
                cases v with
                | nil => simp [waysL, needsL]
                | cons z v => simp [waysL, needsL]
            · rcases List.mem_cons.1 hx with rfl | hx
              · exact ⟨by simp, fun m hm => by
                  rcases List.mem_cons.1 hm with rfl | hm
                  · exact e2
                  · exact hy.2 m hm⟩
              · exact i2.2 x (List.mem_cons_of_mem _ hx)
          · cases h
        · split at h
          · rename_i h3
            have hs := List.take_append_drop 3 r
            rw [h3] at hs
            split at h
            · rename_i v hv
              injection h with h
              subst h
              obtain ⟨i1, i2⟩ := ih _ _ hv
              refine ⟨?_, by simp, fun x hx => ?_⟩
              · rw [e1, ← hs, i1]
                cases v with
                | nil => exact absurd rfl i2.1
                | cons z v => simp [waysL, needsL]
              · rcases List.mem_cons.1 hx with rfl | hx
                · exact ⟨by simp, fun m hm => by rw [List.mem_singleton.1 hm]; exact e2⟩
                · exact i2.2 x hx
            · cases h
          · cases h
end Go.Proofs.YtnhoeboighndlaaGreatDoor.pgm.asm

/-
  A program's lines and its text, and the program that is read of a text: plain mathematics of lists of bytes. No condition.
-/
namespace Go.Proofs.YtnhoeboighndlaaGreatDoor.pgm.asm
open Go.Proofs.YtnhoeboighndlaaGreatDoor.pgm
open Go.Proofs.YtnhoeboighndlaaGreatDoor.need (digs intT word tailT needT)
open Go.Proofs.YtnhoeboighndlaaGreatDoor.objs (De zero names nameK)
open Go.Proofs.YtnhoeboighndlaaGreatDoor.oper (nm txt txt_at nat_of)
open Go.Proofs.YtnhoeboighndlaaGreatDoor.inst (form)
set_option linter.unusedVariables false

/-- A line of a program: an object, a wait, a function's head, an instruction. -/
inductive Item where
  | o (d : De)
  | w (x : List (List De))
  | f (a l : Int)
  | i (x : De)
def wO : List UInt8 := [111, 98, 106, 101, 99, 116, 32]
def wW : List UInt8 := [119, 97, 105, 116, 32]
def wF : List UInt8 := [102, 117, 110, 99]
def itemL : Item → List UInt8
  | .o d => wO ++ objT d
  | .w x => wW ++ waysL x
  | .f a l => wF ++ numsT [a, l]
  | .i x => [32, 32] ++ lineT x
def SaysI : Item → Prop
  | .o d => SaysO d
  | .w x => SaysW x
  | .f a l => Sm a ∧ Sm l
  | .i x => Says x
def readItem (l : List UInt8) : Option Item :=
  if l.take 7 = wO then (readObj (l.drop 7)).map .o
  else if l.take 5 = wW then (readW (l.drop 5).length (l.drop 5)).map .w
  else if l.take 4 = wF then (nums 2 (l.drop 4)).map fun vs => .f (vs.getD 0 0) (vs.getD 1 0)
  else if l.take 2 = [32, 32] then (readIns (l.drop 2)).map .i
  else none

theorem needT_pos (n : De) : 0 < (needT n).length := by
  unfold needT
  simp
  omega
theorem needsL_len : ∀ l : List De, l.length ≤ (needsL l).length := by
  intro l
  induction l with
  | nil => exact Nat.le_refl _
  | cons n l ih =>
    have := needT_pos n
    cases l with
    | nil => simp [needsL]; omega
    | cons m l =>
      have e : needsL (n :: m :: l) = needT n ++ ([32, 43, 32] ++ needsL (m :: l)) := rfl
      rw [e]
      simp only [List.length_append, List.length_cons] at ih ⊢
      omega
theorem waysL_len : ∀ w : List (List De), many w ≤ (waysL w).length := by
  intro w
  induction w with
  | nil => exact Nat.le_refl _
  | cons y w ih =>
    have := needsL_len y
    cases w with
    | nil => simp [waysL, many]; omega
    | cons z w =>
      have e : waysL (y :: z :: w) = needsL y ++ ([32, 124, 32] ++ waysL (z :: w)) := rfl
      have e2 : many (y :: z :: w) = y.length + many (z :: w) := by simp [many]
      rw [e, e2]
      simp only [List.length_append] at ih ⊢
      omega
theorem item_text {i : Item} (h : SaysI i) : readItem (itemL i) = some i := by
  unfold readItem
  cases i with
  | o d =>
    rw [if_pos (show (itemL (.o d)).take 7 = wO from rfl)]
    show (readObj (objT d)).map _ = _
    rw [obj_text h]
    rfl
  | w x =>
    rw [if_neg (show ¬ (itemL (.w x)).take 7 = wO by simp [itemL, wO, wW]), if_pos (show (itemL (.w x)).take 5 = wW from rfl)]
    show (readW (waysL x).length (waysL x)).map _ = _
    rw [readW_text _ x h (waysL_len x)]
    rfl
  | f a l =>
    rw [if_neg (show ¬ (itemL (.f a l)).take 7 = wO by simp [itemL, wO, wF]), if_neg (show ¬ (itemL (.f a l)).take 5 = wW by simp [itemL, wW, wF]), if_pos (show (itemL (.f a l)).take 4 = wF from rfl)]
    show (nums 2 (numsT [a, l])).map _ = _
    rw [show nums 2 (numsT [a, l]) = some [a, l] from nums_text [a, l] (by
      intro v hv
      rcases List.mem_cons.1 hv with rfl | hv
      · exact h.1
      · rw [List.mem_singleton.1 hv]; exact h.2)]
    rfl
  | i x =>
    rw [if_neg (show ¬ (itemL (.i x)).take 7 = wO by simp [itemL, wO]), if_neg (show ¬ (itemL (.i x)).take 5 = wW by simp [itemL, wW]), if_neg (show ¬ (itemL (.i x)).take 4 = wF by simp [itemL, wF]), if_pos (show (itemL (.i x)).take 2 = [32, 32] from rfl)]
    show (readIns (lineT x)).map _ = _
    rw [ins_text h]
    rfl
theorem cut_at {l w : List UInt8} {k : Nat} (h : l.take k = w) : l = w ++ l.drop k := by rw [← h, List.take_append_drop]
theorem item_some {l : List UInt8} {i : Item} (h : readItem l = some i) : l = itemL i ∧ SaysI i := by
  unfold readItem at h
  split at h
  · rename_i hw
    cases hr : readObj (l.drop 7) with
    | none => rw [hr] at h; cases h
    | some d =>
      rw [hr] at h
      injection h with h
      subst h
      obtain ⟨h1, h2⟩ := obj_some hr
      exact ⟨by rw [cut_at hw, h1]; rfl, h2⟩
  · split at h
    · rename_i hw
      cases hr : readW (l.drop 5).length (l.drop 5) with
      | none => rw [hr] at h; cases h
      | some d =>
        rw [hr] at h
        injection h with h
        subst h
        obtain ⟨h1, h2⟩ := readW_some _ _ _ hr
        exact ⟨by rw [cut_at hw, h1]; rfl, h2⟩
    · split at h
      · rename_i hw
        cases hr : nums 2 (l.drop 4) with
        | none => rw [hr] at h; cases h
        | some vs =>
          rw [hr] at h
          injection h with h
          subst h
          obtain ⟨h1, h2, h3⟩ := nums_some _ _ _ hr
          obtain ⟨a, b, rfl⟩ : ∃ a b, vs = [a, b] := by
            cases vs with
            | nil => cases h1
            | cons a vs =>
              cases vs with
              | nil => cases h1
              | cons b vs =>
                cases vs with
                | nil => exact ⟨a, b, rfl⟩
                | cons c vs => simp at h1
          exact ⟨by rw [cut_at hw, h2]; rfl, h3 a (by simp), h3 b (by simp)⟩
      · split at h
        · rename_i hw
          cases hr : readIns (l.drop 2) with
          | none => rw [hr] at h; cases h
          | some d =>
            rw [hr] at h
            injection h with h
            subst h
            obtain ⟨h1, h2⟩ := ins_some hr
            exact ⟨by rw [cut_at hw, h1]; rfl, h2⟩
        · cases h

/-- A program's lines. -/
def fnI (f : Fn) : List Item := .f f.ar f.lo :: f.co.map .i
def itemsP (p : Pg) : List Item := p.ds.map .o ++ (p.ws.map .w ++ (p.fs.map fnI).flatten)
/-- An instruction more of the last function. -/
def putI (x : De) : List Fn → Option (List Fn)
  | [] => none
  | [f] => some [⟨f.ar, f.lo, f.co ++ [x]⟩]
  | f :: g :: l => (putI x (g :: l)).map (f :: ·)
def add (p : Pg) : Item → Option Pg
  | .o d => if p.ws = [] ∧ p.fs = [] then some ⟨p.ds ++ [d], [], []⟩ else none
  | .w x => if p.fs = [] then some ⟨p.ds, p.ws ++ [x], []⟩ else none
  | .f a l => some ⟨p.ds, p.ws, p.fs ++ [⟨a, l, []⟩]⟩
  | .i x => (putI x p.fs).map fun fs => ⟨p.ds, p.ws, fs⟩
def addAll : Pg → List Item → Option Pg
  | p, [] => some p
  | p, i :: l => match add p i with
    | some q => addAll q l
    | none => none
theorem putI_items {x : De} : ∀ {l g : List Fn}, putI x l = some g → (g.map fnI).flatten = (l.map fnI).flatten ++ [.i x] := by
  intro l
  induction l with
  | nil => intro g h; cases h
  | cons f l ih =>
    intro g h
    cases l with
    | nil =>
      injection h with h
      subst h
      simp [fnI]
    | cons y l =>
      unfold putI at h
      cases hr : putI x (y :: l) with
      | none => rw [hr] at h; cases h
      | some r =>
        rw [hr] at h
        injection h with h
        subst h
        rw [List.map_cons, List.flatten_cons, ih hr, List.map_cons (l := y :: l), List.flatten_cons, List.append_assoc]
theorem add_items {p q : Pg} {i : Item} (h : add p i = some q) : itemsP q = itemsP p ++ [i] := by
  unfold add at h
  unfold itemsP
  split at h
  · split at h
    · rename_i hc
      injection h with h
      subst h
      rw [hc.1, hc.2]
      simp
    · cases h
  · split at h
    · rename_i hc
      injection h with h
      subst h
      rw [hc]
      simp
    · cases h
  · injection h with h
    subst h
    simp [fnI]
  · rename_i x
    cases hr : putI x p.fs with
    | none => rw [hr] at h; cases h
    | some fs =>
      rw [hr] at h
      injection h with h
      subst h
      show p.ds.map Item.o ++ (p.ws.map Item.w ++ (fs.map fnI).flatten) = _
      rw [putI_items hr]
      simp
theorem all_items : ∀ {l : List Item} {p q : Pg}, addAll p l = some q → itemsP q = itemsP p ++ l := by
  intro l
  induction l with
  | nil =>
    intro p q h
    injection h with h
    subst h
    simp
  | cons i l ih =>
    intro p q h
    unfold addAll at h
    split at h
    · rename_i r hr
      rw [ih h, add_items hr]
      simp
    · cases h
theorem addAll_app : ∀ (a b : List Item) (p : Pg), addAll p (a ++ b) = (addAll p a).bind (addAll · b) := by
  intro a b
  induction a with
  | nil => intro p; rfl
  | cons i a ih =>
    intro p
    show (match add p i with | some q => addAll q (a ++ b) | none => none) = Option.bind (match add p i with | some q => addAll q a | none => none) _
    cases add p i with
    | none => rfl
    | some q => exact ih q
theorem all_o : ∀ (l ds : List De), addAll ⟨ds, [], []⟩ (l.map .o) = some ⟨ds ++ l, [], []⟩ := by
  intro l
  induction l with
  | nil => intro ds; simp [addAll]
  | cons d l ih =>
    intro ds
    show addAll ⟨ds ++ [d], [], []⟩ (l.map .o) = _
    rw [ih]
    simp
theorem all_w (ds : List De) : ∀ (l ws : List (List (List De))), addAll ⟨ds, ws, []⟩ (l.map .w) = some ⟨ds, ws ++ l, []⟩ := by
  intro l
  induction l with
  | nil => intro ws; simp [addAll]
  | cons d l ih =>
    intro ws
    show addAll ⟨ds, ws ++ [d], []⟩ (l.map .w) = _
    rw [ih]
    simp
theorem putI_last (x : De) (f : Fn) : ∀ l : List Fn, putI x (l ++ [f]) = some (l ++ [⟨f.ar, f.lo, f.co ++ [x]⟩]) := by
  intro l
  induction l with
  | nil => rfl
  | cons g l ih =>
    cases hl : l ++ [f] with
    | nil => simp at hl
    | cons y r =>
      show putI x (g :: (l ++ [f])) = _
      rw [hl]
      show (putI x (y :: r)).map (g :: ·) = _
      rw [← hl, ih]
      rfl
theorem all_i (ds : List De) (ws : List (List (List De))) (fs : List Fn) (a b : Int) : ∀ (l co : List De), addAll ⟨ds, ws, fs ++ [⟨a, b, co⟩]⟩ (l.map .i) = some ⟨ds, ws, fs ++ [⟨a, b, co ++ l⟩]⟩ := by
  intro l
  induction l with
  | nil => intro co; simp [addAll]
  | cons x l ih =>
    intro co
    show (match (putI x (fs ++ [⟨a, b, co⟩])).map (fun fs => (⟨ds, ws, fs⟩ : Pg)) with | some q => addAll q (l.map .i) | none => none) = _
    rw [putI_last]
    show addAll ⟨ds, ws, fs ++ [⟨a, b, co ++ [x]⟩]⟩ (l.map .i) = _
    rw [ih]
    simp
theorem all_f (ds : List De) (ws : List (List (List De))) : ∀ (l fs : List Fn), addAll ⟨ds, ws, fs⟩ (l.map fnI).flatten = some ⟨ds, ws, fs ++ l⟩ := by
  intro l
  induction l with
  | nil => intro fs; simp [addAll]
  | cons f l ih =>
    intro fs
    rw [List.map_cons, List.flatten_cons, addAll_app]
    show (addAll ⟨ds, ws, fs ++ [⟨f.ar, f.lo, []⟩]⟩ (f.co.map .i)).bind _ = _
    rw [all_i]
    show addAll ⟨ds, ws, fs ++ [⟨f.ar, f.lo, [] ++ f.co⟩]⟩ (l.map fnI).flatten = _
    rw [List.nil_append, ih]
    simp
theorem all_back (p : Pg) : addAll Pg.none (itemsP p) = some p := by
  unfold itemsP
  rw [addAll_app]
  show (addAll ⟨[], [], []⟩ (p.ds.map .o)).bind _ = _
  rw [all_o]
  show addAll ⟨[] ++ p.ds, [], []⟩ (p.ws.map .w ++ (p.fs.map fnI).flatten) = _
  rw [addAll_app, all_w]
  show addAll ⟨[] ++ p.ds, [] ++ p.ws, []⟩ (p.fs.map fnI).flatten = _
  rw [all_f]
  rfl
end Go.Proofs.YtnhoeboighndlaaGreatDoor.pgm.asm
