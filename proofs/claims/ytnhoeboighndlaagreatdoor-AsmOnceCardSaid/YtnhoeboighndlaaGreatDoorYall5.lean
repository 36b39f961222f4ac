/-
  Texts of one claim in one file: YText, QPlain, YSplit. Each has its own sentence, with its conditions.
-/
import Derived.Test.YtnhoeboighndlaaGreatDoorYall4
import Derived.Lib.AtoiAllCases
import Derived.Lib.ItoaNum
import Derived.Lib.Strings
import Derived.Lib.Split
import Derived.Lib.SplitLaws
/-
  A program's text, and what is read of any text: what is written is read, and what is read, written, is the same text. Plain mathematics. No condition.
-/
namespace Go.Proofs.YtnhoeboighndlaaGreatDoor.pgm.asm
open Go.Proofs.YtnhoeboighndlaaGreatDoor.pgm
open Go.Proofs.YtnhoeboighndlaaGreatDoor.need (digs intT word tailT needT)
open Go.Proofs.YtnhoeboighndlaaGreatDoor.objs (De zero names nameK)
open Go.Proofs.YtnhoeboighndlaaGreatDoor.oper (nm txt txt_at nat_of)
open Go.Proofs.YtnhoeboighndlaaGreatDoor.inst (form opd okAt fitsB most least chkF_zero)
open Go.Proofs.YtnhoeboighndlaaGreatDoor.word (Word)
set_option linter.unusedVariables false

/-- No line feed. -/
def Flat (l : List UInt8) : Prop := ∀ c ∈ l, c ≠ 10
theorem flat_app {a b : List UInt8} (h : Flat a) (h2 : Flat b) : Flat (a ++ b) := fun c hc => by
  rcases List.mem_append.1 hc with hc | hc
  · exact h c hc
  · exact h2 c hc
theorem flat_nil : Flat [] := fun c hc => by cases hc
theorem flat_cons {c : UInt8} {a : List UInt8} (h : c ≠ 10) (h2 : Flat a) : Flat (c :: a) := fun d hd => by
  rcases List.mem_cons.1 hd with rfl | hd
  · exact h
  · exact h2 d hd
theorem dig_flat {c : UInt8} (h : isD c = true) : c ≠ 10 := by
  rintro rfl
  exact absurd h (by decide)
theorem let_flat {c : UInt8} (h : isA c = true) : c ≠ 10 := by
  rintro rfl
  exact absurd h (by decide)
theorem flat_digs (n : Nat) : Flat (digs n) := fun c hc => dig_flat (digs_all (n + 1) n (Nat.lt_succ_self n) c hc).1
theorem flat_int (v : Int) : Flat (intT v) := by
  unfold intT
  split
  · exact flat_cons (by decide) (flat_digs _)
  · exact flat_digs _
theorem flat_nums : ∀ l : List Int, Flat (numsT l) := by
  intro l
  induction l with
  | nil => exact flat_nil
  | cons v l ih => exact flat_cons (by decide) (flat_app (flat_int v) ih)
theorem flat_word (k : Int) : Flat (word k) := by
  unfold word
  repeat' split
  all_goals (unfold Flat; decide)
theorem flat_need (n : De) : Flat (needT n) := by
  unfold needT tailT
  refine flat_app (flat_app (flat_app (flat_word _) (by unfold Flat; decide)) (flat_int _)) ?_
  split
  · exact flat_cons (by decide) (flat_int _)
  · exact flat_nil
theorem flat_needs : ∀ l : List De, Flat (needsL l) := by
  intro l
  induction l with
  | nil => exact flat_nil
  | cons n l ih =>
    cases l with
    | nil => exact flat_need n
    | cons m l => exact flat_app (flat_need n) (flat_app (by unfold Flat; decide) ih)
theorem flat_ways : ∀ l : List (List De), Flat (waysL l) := by
  intro l
  induction l with
  | nil => exact flat_nil
  | cons n l ih =>
    cases l with
    | nil => exact flat_needs n
    | cons m l => exact flat_app (flat_needs n) (flat_app (by unfold Flat; decide) ih)
theorem flat_ins {x : De} (h : Says x) : Flat (lineT x) := by
  unfold lineT
  refine flat_app (fun c hc => ?_) (flat_nums _)
  obtain ⟨k, hk, e⟩ := nat_of h.1
  rw [e, txt_at hk] at hc
  exact let_flat (name_letters k hk c hc)
theorem flat_obj {d : De} (h : SaysO d) : Flat (objT d) := by
  unfold objT
  refine flat_app (fun c hc => ?_) (flat_nums _)
  obtain ⟨⟨h1, h2⟩, _⟩ := h
  refine let_flat (kind_letters d.1.toNat (by omega) c ?_)
  unfold nameK at hc
  rwa [if_pos ⟨by omega, by omega⟩] at hc
theorem flat_item {i : Item} (h : SaysI i) : Flat (itemL i) := by
  cases i with
  | o d => exact flat_app (by unfold Flat; decide) (flat_obj h)
  | w x => exact flat_app (by unfold Flat; decide) (flat_ways x)
  | f a l => exact flat_app (by unfold Flat; decide) (flat_nums _)
  | i x => exact flat_app (by unfold Flat; decide) (flat_ins h)

/-- The text of lines: each with a line feed behind. -/
def joinI : List Item → List UInt8
  | [] => []
  | i :: l => itemL i ++ (10 :: joinI l)
theorem joinI_app (a b : List Item) : joinI (a ++ b) = joinI a ++ joinI b := by
  induction a with
  | nil => rfl
  | cons i a ih => simp [joinI, ih]
/-- A program's text. -/
def textP (p : Pg) : List UInt8 := joinI (itemsP p)
/-- A text's first line, and what stands from its line feed on. -/
def lineOf (s : List UInt8) : List UInt8 := s.takeWhile fun c => c != 10
def behind (s : List UInt8) : List UInt8 := s.dropWhile fun c => c != 10
theorem line_split (s : List UInt8) : s = lineOf s ++ behind s := (List.takeWhile_append_dropWhile).symm
theorem line_join {l : List UInt8} (h : Flat l) (r : List UInt8) : lineOf (l ++ 10 :: r) = l ∧ behind (l ++ 10 :: r) = 10 :: r := by
  induction l with
  | nil => exact ⟨rfl, rfl⟩
  | cons c l ih =>
    have hc : (c != 10) = true := bne_iff_ne.2 (h c (List.mem_cons_self ..))
    obtain ⟨i1, i2⟩ := ih fun d hd => h d (List.mem_cons_of_mem _ hd)
    refine ⟨?_, ?_⟩
    · show List.takeWhile _ (c :: (l ++ 10 :: r)) = _
      rw [List.takeWhile_cons_of_pos (p := fun c : UInt8 => c != 10) hc]
      exact congrArg _ i1
    · show List.dropWhile _ (c :: (l ++ 10 :: r)) = _
      rw [List.dropWhile_cons_of_pos (p := fun c : UInt8 => c != 10) hc]
      exact i2
theorem behind_feed {s : List UInt8} (h : behind s ≠ []) : behind s = 10 :: (behind s).drop 1 := by
  cases hb : behind s with
  | nil => exact absurd hb h
  | cons c r =>
    have := List.head_dropWhile_not (fun c : UInt8 => c != 10) (l := s) (by
      show behind s ≠ []
      exact h)
    have hc : c = 10 := by
      have e : (List.dropWhile (fun c : UInt8 => c != 10) s).head h = c := by
        have : ∀ (t : List UInt8) (ht : t ≠ []), t = c :: r → t.head ht = c := by
          intro t ht e; subst e; rfl
        exact this _ _ hb
      rw [e] at this
      simpa using this
    rw [hc]
    rfl
/-- The program of a text's lines, behind so many lines; or which line can not stand there. -/
def readT : Nat → Nat → Pg → List UInt8 → Pg × Nat
  | 0, n, _, _ => (Pg.none, n + 1)
  | k + 1, n, p, s =>
    if s = [] then (p, 0)
    else if behind s = [] then (Pg.none, n + 1)
    else match readItem (lineOf s) with
      | some i => match add p i with
        | some q => readT k (n + 1) q ((behind s).drop 1)
        | none => (Pg.none, n + 1)
      | none => (Pg.none, n + 1)
theorem readT_back : ∀ (l : List Item) (k n : Nat) (p q : Pg), (∀ i ∈ l, SaysI i) → addAll p l = some q → l.length < k → readT k n p (joinI l) = (q, 0) := by
  intro l
  induction l with
  | nil =>
    intro k n p q _ h hk
    injection h with h
    subst h
    cases k with
    | zero => exact absurd hk (Nat.not_lt_zero _)
    | succ k => rfl
  | cons i l ih =>
    intro k n p q hs h hk
    cases k with
    | zero => exact absurd hk (Nat.not_lt_zero _)
    | succ k =>
      have hi := hs i (List.mem_cons_self ..)
      obtain ⟨j1, j2⟩ := line_join (flat_item hi) (joinI l)
      unfold readT
      rw [show joinI (i :: l) = itemL i ++ 10 :: joinI l from rfl, j1, j2, item_text hi, if_neg (by simp), if_neg (by simp)]
      unfold addAll at h
      split at h
      · rename_i r hr
        show (match add p i with | some q => readT k (n + 1) q (joinI l) | none => _) = _
        rw [hr]
        exact ih k (n + 1) r q (fun x hx => hs x (List.mem_cons_of_mem _ hx)) h (by simp at hk; omega)
      · cases h
theorem readT_once : ∀ (k n : Nat) (p q : Pg) (s : List UInt8), readT k n p s = (q, 0) → ∃ l, s = joinI l ∧ addAll p l = some q ∧ ∀ i ∈ l, SaysI i := by
  intro k
  induction k with
  | zero =>
    intro n p q s h
    exact absurd (Prod.mk.inj h).2 (by omega)
  | succ k ih =>
    intro n p q s h
    unfold readT at h
    split at h
    · rename_i h0
      obtain ⟨rfl, _⟩ := Prod.mk.inj h
      exact ⟨[], h0, rfl, fun i hi => by cases hi⟩
    · split at h
      · exact absurd (Prod.mk.inj h).2 (by omega)
      · rename_i hb
        split at h
        · rename_i i hi
          split at h
          · rename_i r hr
            obtain ⟨l, e1, e2, e3⟩ := ih _ _ _ _ h
            obtain ⟨g1, g2⟩ := item_some hi
            refine ⟨i :: l, ?_, ?_, fun x hx => ?_⟩
            · show s = itemL i ++ (10 :: joinI l)
              rw [← g1, ← e1, ← behind_feed hb]
              exact line_split s
            · unfold addAll
              rw [hr]
              exact e2
            · rcases List.mem_cons.1 hx with rfl | hx
              · exact g2
              · exact e3 x hx
          · exact absurd (Prod.mk.inj h).2 (by omega)
        · exact absurd (Prod.mk.inj h).2 (by omega)
/-- What is read of any text: the program, which line can not stand there, and the error. -/
def parse (s : List UInt8) : Pg × Nat × Nat :=
  if 60000 < s.length then (Pg.none, 0, 4)
  else if (readT (s.length + 1) 0 Pg.none s).2 ≠ 0 then (Pg.none, (readT (s.length + 1) 0 Pg.none s).2, 2)
  else if chkP (readT (s.length + 1) 0 Pg.none s).1 ≠ 0 then (Pg.none, 0, chkP (readT (s.length + 1) 0 Pg.none s).1)
  else ((readT (s.length + 1) 0 Pg.none s).1, 0, 0)
/-- A program that may be has lines alone that can be said. -/
theorem says_ins {x : De} (h : chkI x = 0) : Says x := by
  obtain ⟨hk, hf⟩ := Go.Proofs.YtnhoeboighndlaaGreatDoor.inst.chk_zero h
  obtain ⟨h1, _, h3⟩ := chkF_zero hf
  have hj : ∀ j, j < 2 → Sm (opd x.2.1 x.2.2 j) := fun j hj => by
    rcases Nat.lt_or_ge j (form x.1).length with hl | hl
    · have := h1 j hl
      unfold okAt fitsB at this
      by_cases hc : (form x.1).getD j 0 = 110
      · rw [if_pos hc] at this
        have hw : Word (opd x.2.1 x.2.2 j) := by simpa using this
        unfold Word at hw; unfold Sm; omega
      · rw [if_neg hc] at this
        have hw : least ((form x.1).getD j 0) ≤ opd x.2.1 x.2.2 j ∧ opd x.2.1 x.2.2 j ≤ most ((form x.1).getD j 0) := by simpa using this
        have h0 : 0 ≤ least ((form x.1).getD j 0) := by unfold least; split <;> omega
        have hm : most ((form x.1).getD j 0) ≤ 199 := by unfold most; split; omega; split; omega; split; omega; split <;> omega
        unfold Sm; omega
    · rw [h3 j hl hj]; unfold Sm; omega
  exact ⟨hk, hj 0 (by omega), hj 1 (by omega), fun h => h3 0 (by omega) (by omega), fun h => h3 1 (by omega) (by omega)⟩
theorem says_all {p : Pg} (h : chkP p = 0) : ∀ i ∈ itemsP p, SaysI i := by
  obtain ⟨h1, _, h3, _, _, h6⟩ := chkP_zero h
  intro i hi
  unfold itemsP at hi
  rcases List.mem_append.1 hi with hi | hi
  · obtain ⟨d, hd, rfl⟩ := List.mem_map.1 hi
    obtain ⟨j, hj, rfl⟩ := List.mem_iff_getElem.1 hd
    have := Go.Proofs.YtnhoeboighndlaaGreatDoor.objs.one_zero ((Go.Proofs.YtnhoeboighndlaaGreatDoor.objs.chk_zero h1).2.2 j hj)
    rw [getD_at hj] at this
    obtain ⟨o1, o2, o3, o4, o5, o6⟩ := this
    refine ⟨o1, ?_, ?_, fun hc => ?_, fun hc => ?_⟩
    · unfold Sm
      by_cases e3 : (p.ds[j]).1 = 3
      · have := o2 e3; omega
      · by_cases e6 : (p.ds[j]).1 = 6
        · have := o3 e6; omega
        · by_cases e7 : (p.ds[j]).1 = 7
          · have := (o4 e7).1; unfold Word at this; omega
          · have := o6 e3 e6 e7; omega
    · unfold Sm
      by_cases e3 : (p.ds[j]).1 = 3
      · have := o2 e3; omega
      · by_cases e7 : (p.ds[j]).1 = 7
        · have := (o4 e7).2
          unfold Go.Proofs.YtnhoeboighndlaaGreatDoor.objs.fits at this
          simp only [Bool.and_eq_true, decide_eq_true_iff] at this
          have hl := (Go.Proofs.YtnhoeboighndlaaGreatDoor.objs.chk_zero h1).1
          omega
        · have := o5 e3 e7; omega
    · refine o6 (fun e => ?_) (fun e => ?_) (fun e => ?_) <;> (unfold cntO at hc; rw [e] at hc; simp at hc)
    · refine o5 (fun e => ?_) (fun e => ?_) <;> (unfold cntO at hc; rw [e] at hc; simp at hc)
  · rcases List.mem_append.1 hi with hi | hi
    · obtain ⟨w, hw, rfl⟩ := List.mem_map.1 hi
      obtain ⟨c1, _, c3⟩ := Go.Proofs.YtnhoeboighndlaaGreatDoor.need.chkW_zero (h3 w hw)
      refine ⟨fun e => by rw [e] at c1; exact absurd c1 (by decide), fun y hy => ?_⟩
      obtain ⟨y1, _, y3⟩ := c3 y hy
      refine ⟨fun e => by rw [e] at y1; exact absurd y1 (by decide), fun n hn => ?_⟩
      obtain ⟨n1, n2, n3, n4, n5⟩ := Go.Proofs.YtnhoeboighndlaaGreatDoor.need.need_small h1 (y3 n hn)
      have ho := Go.Proofs.YtnhoeboighndlaaGreatDoor.need.oneN_zero (y3 n hn)
      exact ⟨n1, by unfold Sm; omega, by unfold Sm; omega, fun hk => ho.2.2.1 (by omega)⟩
    · obtain ⟨l, hl, hi⟩ := List.mem_flatten.1 hi
      obtain ⟨f, hf, rfl⟩ := List.mem_map.1 hl
      obtain ⟨f1, _, _, f4⟩ := chkFn_zero (h6 f hf)
      rcases List.mem_cons.1 hi with rfl | hi
      · exact ⟨by unfold Sm; omega, by unfold Sm; omega⟩
      · obtain ⟨x, hx, rfl⟩ := List.mem_map.1 hi
        exact says_ins (f4 x hx)
theorem joinI_len : ∀ l : List Item, l.length ≤ (joinI l).length := by
  intro l
  induction l with
  | nil => exact Nat.le_refl _
  | cons i l ih => simp [joinI]; omega
/-- What is written is read. -/
theorem parse_text {p : Pg} (h : chkP p = 0) (hl : (textP p).length ≤ 60000) : parse (textP p) = (p, 0, 0) := by
  have e : readT ((textP p).length + 1) 0 Pg.none (textP p) = (p, 0) := readT_back (itemsP p) _ 0 Pg.none p (says_all h) (all_back p) (Nat.lt_succ_of_le (joinI_len _))
  unfold parse
  rw [e, if_neg (by omega), if_neg (fun h => h rfl), if_neg (fun h2 => h2 h)]
theorem parse_long {s : List UInt8} (h : 60000 < s.length) : parse s = (Pg.none, 0, 4) := by
  unfold parse
  rw [if_pos h]
/-- What is read, written, is the same text. -/
theorem parse_once {s : List UInt8} (h : (parse s).2.2 = 0) : chkP (parse s).1 = 0 ∧ (parse s).2.1 = 0 ∧ textP (parse s).1 = s := by
  unfold parse at h ⊢
  split at h
  · cases h
  · rename_i h1
    split at h
    · cases h
    · rename_i h2
      split at h
      · rename_i h3
        exact absurd h h3
      · rename_i h3
        rw [if_neg h1, if_neg h2, if_neg h3]
        have h2 : (readT (s.length + 1) 0 Pg.none s).2 = 0 := Decidable.not_not.1 h2
        have h3 : chkP (readT (s.length + 1) 0 Pg.none s).1 = 0 := Decidable.not_not.1 h3
        refine ⟨h3, rfl, ?_⟩
        obtain ⟨l, e1, e2, _⟩ := readT_once (s.length + 1) 0 Pg.none (readT (s.length + 1) 0 Pg.none s).1 s (Prod.ext rfl h2)
        unfold textP
        show joinI (itemsP (readT (s.length + 1) 0 Pg.none s).1) = s
        rw [all_items e2]
        exact e1.symm
/-- Where there is an error, there is no program. -/
theorem parse_none {s : List UInt8} (h : (parse s).2.2 ≠ 0) : (parse s).1 = Pg.none := by
  unfold parse at h ⊢
  split
  · rfl
  · split
    · rfl
    · split
      · rfl
      · rename_i h1 h2 h3
        rw [if_neg h1, if_neg h2, if_neg h3] at h
        exact absurd rfl h
end Go.Proofs.YtnhoeboighndlaaGreatDoor.pgm.asm

/-
  The number of a text with no more than so many digits: plain mathematics over the library's own words for what Atoi, Itoa and TrimPrefix answer. No condition.
-/
namespace Go.Proofs.YtnhoeboighndlaaGreatDoor.digi
set_option linter.unusedVariables false

/-- The number of a text with so many digits at most; none: it has not just the form in which a number is written. -/
def readD (t : List UInt8) (k : Nat) : Option Int :=
  match Lib.atoiAll t with
  | .ok v => if Lib.itoa v = t ∧ (Lib.trimPrefix t [45]).length ≤ k then some v else none
  | _ => none

theorem dec_small {u : Nat} (h : u < 10) : Lib.decDigits u = [UInt8.ofNat (48 + u)] := by rw [Lib.decDigits, dif_pos h]
theorem dec_big {u : Nat} (h : ¬ u < 10) : Lib.decDigits u = Lib.decDigits (u / 10) ++ [UInt8.ofNat (48 + u % 10)] := by rw [Lib.decDigits, dif_neg h]
theorem digit_nat {n : Nat} (h : n < 10) : (UInt8.ofNat (48 + n)).toNat = 48 + n := by rw [UInt8.toNat_ofNat']; omega
theorem parse_dec (r : List UInt8) : ∀ u : Nat, u < 18446744073709551616 → Lib.parseUint10 0 (Lib.decDigits u ++ r) = Lib.parseUint10 u r := by
  intro u
  induction u using Nat.strongRecOn generalizing r with
  | _ u ih =>
    intro hu
    by_cases h : u < 10
    · rw [dec_small h, List.singleton_append, Lib.parseUint10, digit_nat h, if_pos ⟨by omega, by omega⟩, if_neg (by omega), if_neg (by omega)]
      congr 1
      omega
    · rw [dec_big h, List.append_assoc, List.singleton_append, ih (u / 10) (by omega) _ (by omega), Lib.parseUint10, digit_nat (by omega), if_pos ⟨by omega, by omega⟩, if_neg (by omega), if_neg (by omega)]
      congr 1
      omega
theorem dec_head : ∀ u : Nat, ∃ c r, Lib.decDigits u = c :: r ∧ 48 ≤ c.toNat ∧ c.toNat ≤ 57 := by
  intro u
  induction u using Nat.strongRecOn with
  | _ u ih =>
    by_cases h : u < 10
    · exact ⟨_, [], dec_small h, by rw [digit_nat h]; omega, by rw [digit_nat h]; omega⟩
    · obtain ⟨c, r, e, h1, h2⟩ := ih (u / 10) (by omega)
      exact ⟨c, r ++ [UInt8.ofNat (48 + u % 10)], by rw [dec_big h, e]; rfl, h1, h2⟩
theorem mag_dec {u : Nat} (h : u < 18446744073709551616) : Lib.parseMag (Lib.decDigits u) = .ok u := by
  obtain ⟨c, r, e, _⟩ := dec_head u
  unfold Lib.parseMag
  rw [if_neg (by rw [e]; simp)]
  have := parse_dec [] u h
  rw [List.append_nil] at this
  rw [this, Lib.parseUint10]
def I64 (v : Int) : Prop := -9223372036854775808 ≤ v ∧ v ≤ 9223372036854775807
theorem atoi_itoa {v : Int} (h : I64 v) : Lib.atoiAll (Lib.itoa v) = .ok v := by
  obtain ⟨h1, h2⟩ := h
  unfold Lib.itoa
  by_cases h0 : v < 0
  · rw [if_pos h0, Lib.atoiAll_minus, mag_dec (u := v.natAbs) (by omega)]
    show (if 9223372036854775808 < v.natAbs then Lib.NumEnd.range else .ok (-(v.natAbs : Int))) = _
    rw [if_neg (by omega)]
    congr 1
    omega
  · rw [if_neg h0]
    obtain ⟨c, r, e, k1, k2⟩ := dec_head v.toNat
    have hm := mag_dec (u := v.toNat) (by omega)
    rw [e] at hm ⊢
    rw [Lib.atoiAll_plain c r (by omega) (by omega), hm]
    show (if 9223372036854775808 ≤ v.toNat then Lib.NumEnd.range else .ok (v.toNat : Int)) = _
    rw [if_neg (by omega)]
    congr 1
    omega
theorem atoi_small {l : List UInt8} {v : Int} (h : Lib.atoiAll l = .ok v) : I64 v := Lib.atoiAll_bounds h
theorem trim_itoa (v : Int) : Lib.trimPrefix (Lib.itoa v) [45] = Lib.decDigits v.natAbs := by
  unfold Lib.trimPrefix Lib.hasPrefix Lib.itoa
  by_cases h0 : v < 0
  · rw [if_pos h0]
    simp
  · rw [if_neg h0, show v.natAbs = v.toNat by omega]
    obtain ⟨c, r, e, k1, k2⟩ := dec_head v.toNat
    rw [e]
    have hc : ((45 : UInt8) == c) = false := beq_eq_false_iff_ne.2 fun e2 => by subst e2; exact absurd k1 (by decide)
    simp [List.isPrefixOf, hc]
theorem readD_some {t : List UInt8} {k : Nat} {v : Int} (h : readD t k = some v) : Lib.atoiAll t = .ok v ∧ t = Lib.itoa v ∧ I64 v ∧ (Lib.decDigits v.natAbs).length ≤ k := by
  unfold readD at h
  split at h
  · rename_i x hx
    split at h
    · rename_i hc
      injection h with h
      subst h
      refine ⟨hx, hc.1.symm, atoi_small hx, ?_⟩
      rw [← trim_itoa, hc.1]
      exact hc.2
    · cases h
  · cases h
theorem readD_itoa {v : Int} {k : Nat} (h : I64 v) (hk : (Lib.decDigits v.natAbs).length ≤ k) : readD (Lib.itoa v) k = some v := by
  unfold readD
  rw [atoi_itoa h]
  show (if Lib.itoa v = Lib.itoa v ∧ _ then some v else none) = some v
  rw [if_pos ⟨rfl, by rw [trim_itoa]; exact hk⟩]
end Go.Proofs.YtnhoeboighndlaaGreatDoor.digi

/-
  A text cut at each place where another one stands: the library's own words for what Split, Cut and CutPrefix answer, and what they come to here. Plain mathematics. No condition.
-/
namespace Go.Proofs.YtnhoeboighndlaaGreatDoor.pgm.asm
open Go.Proofs.YtnhoeboighndlaaGreatDoor.pgm
open Go.Proofs.YtnhoeboighndlaaGreatDoor.need (digs intT word tailT needT digs_small digs_big)
open Go.Proofs.YtnhoeboighndlaaGreatDoor.digi (readD readD_some readD_itoa)
set_option linter.unusedVariables false

theorem split_miss {s sep : List UInt8} (h : Lib.index s sep = -1) : Lib.split s sep = [s] := by
  unfold Lib.split
  cases hc : Lib.count s sep with
  | zero => rfl
  | succ k =>
    unfold Lib.splitK
    rw [if_pos (by rw [h]; rfl)]
theorem split_hit {s sep : List UInt8} {i : Nat} (hs : sep ≠ []) (h : Lib.index s sep = i) : Lib.split s sep = s.take i :: Lib.split (s.drop (i + sep.length)) sep := by
  have hc : Lib.count s sep = Lib.count (s.drop (i + sep.length)) sep + 1 := by rw [Lib.count_hit hs h, Nat.add_comm]
  unfold Lib.split
  rw [hc]
  conv => lhs; unfold Lib.splitK
  rw [if_neg (by rw [h, beq_iff_eq]; omega), h, Int.toNat_natCast, Nat.add_zero]
/-- Texts, one behind the other, with one between each two. -/
def joinS (sep : List UInt8) : List (List UInt8) → List UInt8
  | [] => []
  | [p] => p
  | p :: q :: l => p ++ sep ++ joinS sep (q :: l)
theorem index_cut {s sep : List UInt8} {i : Nat} (h : Lib.index s sep = i) : s = s.take i ++ sep ++ s.drop (i + sep.length) := by
  rcases Lib.index_spec s sep with ⟨h1, _⟩ | ⟨j, h1, h2, h3, _⟩
  · rw [h1] at h
    omega
  · obtain rfl : j = i := by rw [h1] at h; omega
    unfold Lib.occAt at h3
    obtain ⟨r, hr⟩ := List.isPrefixOf_iff_prefix.1 h3
    have e : s.drop (j + sep.length) = r := by rw [← List.drop_drop, ← hr, List.drop_left]
    rw [e, List.append_assoc, hr, List.take_append_drop]
theorem split_cons (s : List UInt8) {sep : List UInt8} (hs : sep ≠ []) : ∃ p l, Lib.split s sep = p :: l := by
  rcases Lib.index_spec s sep with ⟨h1, _⟩ | ⟨j, h1, _⟩
  · exact ⟨_, _, split_miss h1⟩
  · exact ⟨_, _, split_hit hs h1⟩
theorem join_split {sep : List UInt8} (hs : sep ≠ []) : ∀ (n : Nat) (s : List UInt8), s.length < n → joinS sep (Lib.split s sep) = s := by
  have hp : 0 < sep.length := List.length_pos_iff.2 hs
  intro n
  induction n with
  | zero => intro s h; omega
  | succ n ih =>
    intro s h
    rcases Lib.index_spec s sep with ⟨h1, _⟩ | ⟨j, h1, h2, _⟩
    · rw [split_miss h1]
      rfl
    · have hc := index_cut h1
      have hl := congrArg List.length hc
      simp only [List.length_append, List.length_take, List.length_drop] at hl
      obtain ⟨p, l, e⟩ := split_cons (s.drop (j + sep.length)) hs
      have hi := ih (s.drop (j + sep.length)) (by rw [List.length_drop]; omega)
      rw [e] at hi
      rw [split_hit hs h1, e]
      show s.take j ++ sep ++ joinS sep (p :: l) = s
      rw [hi]
      exact hc.symm
/-- Nothing in it, nor over its end, is what stands between. -/
def Free (sep p : List UInt8) : Prop := (∀ r, Lib.index (p ++ sep ++ r) sep = (p.length : Nat)) ∧ Lib.index p sep = -1
theorem split_join {sep : List UInt8} (hs : sep ≠ []) : ∀ ps : List (List UInt8), ps ≠ [] → (∀ p ∈ ps, Free sep p) → Lib.split (joinS sep ps) sep = ps := by
  intro ps
  induction ps with
  | nil => intro h; exact absurd rfl h
  | cons p ps ih =>
    intro _ h
    cases ps with
    | nil => exact split_miss (h p (List.mem_cons_self ..)).2
    | cons q ps =>
      have hp := (h p (List.mem_cons_self ..)).1 (joinS sep (q :: ps))
      show Lib.split (p ++ sep ++ joinS sep (q :: ps)) sep = _
      rw [split_hit hs hp, List.append_assoc, List.take_left, ← List.append_assoc]
      rw [show (p ++ sep ++ joinS sep (q :: ps)).drop (p.length + sep.length) = joinS sep (q :: ps) from by rw [← List.length_append, List.drop_left]]
      rw [ih (by simp) (fun x hx => h x (List.mem_cons_of_mem _ hx))]
theorem free_one {c : UInt8} {p : List UInt8} (h : ∀ d ∈ p, d ≠ c) : Free [c] p := by
  induction p with
  | nil =>
    refine ⟨fun r => ?_, by simp [Lib.index]⟩
    show Lib.index (c :: r) [c] = 0
    simp [Lib.index, List.isPrefixOf]
  | cons d p ih =>
    obtain ⟨h1, h2⟩ := ih (fun x hx => h x (List.mem_cons_of_mem _ hx))
    have hd : (c == d) = false := beq_eq_false_iff_ne.2 (h d (List.mem_cons_self ..)).symm
    refine ⟨fun r => ?_, ?_⟩
    · show Lib.index (d :: (p ++ [c] ++ r)) [c] = _
      unfold Lib.index
      rw [if_neg (by simp [List.isPrefixOf, hd]), h1 r, if_neg (by rw [beq_iff_eq]; omega)]
      rfl
    · unfold Lib.index
      rw [if_neg (by simp [List.isPrefixOf, hd]), h2]
      rfl
theorem free_three {x : UInt8} {p : List UInt8} (hx : x ≠ 32) (h : ∀ d ∈ p, d ≠ x) : Free [32, x, 32] p := by
  induction p with
  | nil =>
    refine ⟨fun r => ?_, by simp [Lib.index]⟩
    show Lib.index (32 :: x :: 32 :: r) [32, x, 32] = 0
    simp [Lib.index, List.isPrefixOf]
  | cons d p ih =>
    obtain ⟨h1, h2⟩ := ih (fun y hy => h y (List.mem_cons_of_mem _ hy))
    refine ⟨fun r => ?_, ?_⟩
    · have hne : ¬ ([32, x, 32] : List UInt8).isPrefixOf (d :: (p ++ [32, x, 32] ++ r)) = true := by
        intro hp
        cases p with
        | nil =>
          simp [List.isPrefixOf] at hp
          exact hx hp.2.1
        | cons e p =>
          simp [List.isPrefixOf] at hp
          exact h e (by simp) hp.2.1.symm
      show Lib.index (d :: (p ++ [32, x, 32] ++ r)) [32, x, 32] = _
      unfold Lib.index
      rw [if_neg hne, h1 r, if_neg (by rw [beq_iff_eq]; omega)]
      rfl
    · have hne : ¬ ([32, x, 32] : List UInt8).isPrefixOf (d :: p) = true := by
        intro hp
        cases p with
        | nil => simp [List.isPrefixOf] at hp
        | cons e p =>
          simp [List.isPrefixOf] at hp
          exact h e (by simp) hp.2.1.symm
      unfold Lib.index
      rw [if_neg hne, h2]
      rfl

/-- A number's bytes: digits, and a sign. -/
theorem int_chars {v : Int} : ∀ c ∈ intT v, isD c = true ∨ c = 45 := by
  intro c hc
  unfold intT at hc
  split at hc
  · rcases List.mem_cons.1 hc with rfl | hc
    · exact .inr rfl
    · exact .inl (digs_all _ _ (Nat.lt_succ_self _) c hc).1
  · exact .inl (digs_all _ _ (Nat.lt_succ_self _) c hc).1
theorem int_not {v : Int} {x : UInt8} (h1 : isD x = false) (h2 : x ≠ 45) : ∀ c ∈ intT v, c ≠ x := fun c hc e => by
  subst e
  rcases int_chars c hc with h | h
  · rw [h1] at h; cases h
  · exact h2 h
theorem let_not {l : List UInt8} {x : UInt8} (h : ∀ c ∈ l, isA c = true) (h1 : isA x = false) : ∀ c ∈ l, c ≠ x := fun c hc e => by
  subst e
  rw [h c hc] at h1
  cases h1
theorem digs_dec (n : Nat) : digs n = Lib.decDigits n := by
  induction n using Nat.strongRecOn with
  | _ n ih =>
    by_cases h : n < 10
    · rw [digs_small h, Lib.decDigits, dif_pos h]
    · rw [digs_big h, Lib.decDigits, dif_neg h, ih (n / 10) (by omega)]
theorem int_itoa (n : Int) : intT n = Lib.itoa n := by
  unfold intT Lib.itoa
  by_cases h : n < 0
  · rw [if_pos h, if_pos h, digs_dec]
    congr 2
    omega
  · rw [if_neg h, if_neg h, digs_dec]
theorem num_text {v : Int} (h : Sm v) : readD (intT v) 10 = some v := by
  unfold Sm at h
  rw [int_itoa]
  refine readD_itoa ⟨by omega, by omega⟩ ?_
  rw [← digs_dec]
  exact digs_len 9 _ (by omega)
theorem num_some {t : List UInt8} {v : Int} (h : readD t 10 = some v) : t = intT v ∧ Sm v := by
  obtain ⟨_, h2, _, h4⟩ := readD_some h
  refine ⟨by rw [h2, int_itoa], ?_⟩
  rw [← digs_dec] at h4
  have h5 := val_lt _ (fun c hc => (digs_all _ v.natAbs (Nat.lt_succ_self _) c hc).1)
  rw [val_digs _ _ (Nat.lt_succ_self _)] at h5
  have h6 : (10 : Nat) ^ (digs v.natAbs).length ≤ 10 ^ 10 := Nat.pow_le_pow_right (by omega) h4
  have h7 : (10 : Nat) ^ 10 = 10000000000 := by decide
  unfold Sm
  omega

/-- What each of a list of texts is read as; none: one of them is none's. -/
def allW {α : Type} (f : List UInt8 → Option α) : List (List UInt8) → Option (List α)
  | [] => some []
  | t :: l => match f t with
    | some v => (allW f l).map (v :: ·)
    | none => none
theorem allW_some {α : Type} {f : List UInt8 → Option α} {T : α → List UInt8} {S : α → Prop} (h : ∀ t v, f t = some v → t = T v ∧ S v) : ∀ (ts : List (List UInt8)) (vs : List α), allW f ts = some vs → ts = vs.map T ∧ ∀ v ∈ vs, S v := by
  intro ts
  induction ts with
  | nil =>
    intro vs e
    injection e with e
    subst e
    exact ⟨rfl, fun v hv => by cases hv⟩
  | cons t ts ih =>
    intro vs e
    unfold allW at e
    split at e
    · rename_i v hv
      cases hm : allW f ts with
      | none => rw [hm] at e; cases e
      | some ws =>
        rw [hm] at e
        injection e with e
        subst e
        obtain ⟨i1, i2⟩ := ih ws hm
        obtain ⟨j1, j2⟩ := h t v hv
        refine ⟨by rw [List.map_cons, ← i1, ← j1], fun x hx => ?_⟩
        rcases List.mem_cons.1 hx with rfl | hx
        · exact j2
        · exact i2 x hx
    · cases e
theorem allW_text {α : Type} {f : List UInt8 → Option α} {T : α → List UInt8} {S : α → Prop} (h : ∀ v, S v → f (T v) = some v) : ∀ vs : List α, (∀ v ∈ vs, S v) → allW f (vs.map T) = some vs := by
  intro vs
  induction vs with
  | nil => intro _; rfl
  | cons v vs ih =>
    intro hs
    show (match f (T v) with | some v => (allW f (vs.map T)).map (v :: ·) | none => none) = _
    rw [h v (hs v (List.mem_cons_self ..)), ih (fun x hx => hs x (List.mem_cons_of_mem _ hx))]
    rfl
theorem allW_len {α : Type} {f : List UInt8 → Option α} : ∀ (ts : List (List UInt8)) (vs : List α), allW f ts = some vs → vs.length = ts.length := by
  intro ts
  induction ts with
  | nil => intro vs e; injection e with e; subst e; rfl
  | cons t ts ih =>
    intro vs e
    unfold allW at e
    split at e
    · cases hm : allW f ts with
      | none => rw [hm] at e; cases e
      | some ws =>
        rw [hm] at e
        injection e with e
        subst e
        rw [List.length_cons, List.length_cons, ih ws hm]
    · cases e
/-- One more of them. -/
theorem allW_snoc {α : Type} {f : List UInt8 → Option α} (t : List UInt8) : ∀ (ts : List (List UInt8)) (vs : List α), allW f ts = some vs → allW f (ts ++ [t]) = (f t).map fun v => vs ++ [v] := by
  intro ts
  induction ts with
  | nil =>
    intro vs e
    injection e with e
    subst e
    show (match f t with | some v => (allW f []).map (v :: ·) | none => none) = _
    cases f t <;> rfl
  | cons u ts ih =>
    intro vs e
    unfold allW at e
    split at e
    · rename_i v hv
      cases hm : allW f ts with
      | none => rw [hm] at e; cases e
      | some ws =>
        rw [hm] at e
        injection e with e
        subst e
        show (match f u with | some v => (allW f (ts ++ [t])).map (v :: ·) | none => none) = _
        rw [hv, ih ws hm]
        cases f t <;> rfl
    · cases e
theorem allW_none {α : Type} {f : List UInt8 → Option α} {t : List UInt8} (h : f t = none) : ∀ (a b : List (List UInt8)), allW f (a ++ t :: b) = none := by
  intro a b
  induction a with
  | nil => show (match f t with | some v => (allW f b).map (v :: ·) | none => none) = none; rw [h]
  | cons u a ih =>
    show (match f u with | some v => (allW f (a ++ t :: b)).map (v :: ·) | none => none) = none
    rw [ih]
    cases f u <;> rfl
theorem allW_take {α : Type} {f : List UInt8 → Option α} {ts : List (List UInt8)} {j : Nat} {vs : List α} (hj : j < ts.length) (h : allW f (ts.take j) = some vs) : allW f (ts.take (j + 1)) = (f (ts.getD j [])).map fun v => vs ++ [v] := by
  rw [List.take_add_one, List.getElem?_eq_getElem hj, List.getD_eq_getElem?_getD, List.getElem?_eq_getElem hj]
  exact allW_snoc _ _ _ h
theorem allW_fail {α : Type} {f : List UInt8 → Option α} {ts : List (List UInt8)} {j : Nat} (hj : j < ts.length) (h : f (ts.getD j []) = none) : allW f ts = none := by
  have e : ts = ts.take j ++ ts.getD j [] :: ts.drop (j + 1) := by
    rw [List.getD_eq_getElem?_getD, List.getElem?_eq_getElem hj]
    show ts = ts.take j ++ ts[j] :: ts.drop (j + 1)
    rw [← List.drop_eq_getElem_cons hj, List.take_append_drop]
  rw [e]
  exact allW_none h _ _
def numsW (ws : List (List UInt8)) : Option (List Int) := allW (fun t => readD t 10) ws
/-- The numbers that words are, if there are so many. -/
def pairW (ws : List (List UInt8)) (many : Nat) : Option (List Int) := if ws.length = many then numsW ws else none
theorem pairW_some {ws : List (List UInt8)} {many : Nat} {vs : List Int} (h : pairW ws many = some vs) : vs.length = many ∧ ws = vs.map intT ∧ ∀ v ∈ vs, Sm v := by
  unfold pairW at h
  split at h
  · rename_i hl
    obtain ⟨h1, h2⟩ := allW_some (T := intT) (S := Sm) (fun t v e => num_some e) ws vs h
    exact ⟨(allW_len ws vs h).trans hl, h1, h2⟩
  · cases h
theorem pairW_text {vs : List Int} (h : ∀ v ∈ vs, Sm v) : pairW (vs.map intT) vs.length = some vs := by
  unfold pairW
  rw [if_pos (by rw [List.length_map])]
  exact allW_text (T := intT) (S := Sm) (fun v e => num_text e) vs h
theorem join_nums (w : List UInt8) : ∀ vs : List Int, joinS [32] (w :: vs.map intT) = w ++ numsT vs := by
  intro vs
  induction vs generalizing w with
  | nil => show w = w ++ []; rw [List.append_nil]
  | cons v vs ih =>
    show w ++ [32] ++ joinS [32] (intT v :: vs.map intT) = _
    rw [ih]
    simp [numsT]
theorem split_nums {w : List UInt8} (hw : ∀ c ∈ w, c ≠ 32) (vs : List Int) : Lib.split (w ++ numsT vs) [32] = w :: vs.map intT := by
  rw [← join_nums]
  refine split_join (by simp) _ (by simp) fun p hp => free_one ?_
  rcases List.mem_cons.1 hp with rfl | hp
  · exact hw
  · obtain ⟨v, _, rfl⟩ := List.mem_map.1 hp
    exact int_not (by decide) (by decide)
/-- What two ways of reading are one by: each reads what is written, and what it reads is so written. -/
theorem same_read {α : Type} {rd W : List UInt8 → Option α} {T : α → List UInt8} {S : α → Prop} (h1 : ∀ l x, rd l = some x → l = T x ∧ S x) (h2 : ∀ x, S x → rd (T x) = some x)
    (h3 : ∀ l x, W l = some x → l = T x ∧ S x) (h4 : ∀ x, S x → W (T x) = some x) (l : List UInt8) : W l = rd l := by
  cases hW : W l with
  | some x =>
    obtain ⟨rfl, e2⟩ := h3 l x hW
    exact (h2 x e2).symm
  | none =>
    cases hR : rd l with
    | none => rfl
    | some x =>
      obtain ⟨rfl, e2⟩ := h1 l x hR
      rw [h4 x e2] at hW
      cases hW
end Go.Proofs.YtnhoeboighndlaaGreatDoor.pgm.asm
