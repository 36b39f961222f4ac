/-
  Texts of one claim in one file: ETab, GOk, EBack, GPlain, GOnce, EOwn, GMem, GRefFn, EInt. Each has its own sentence, with its conditions.
-/
import Derived.Test.YtahejekcfgkiaaaGreatDoorGall10
import Derived.Test.YtahejekcfgkiaaaGreatDoorGall7
import Derived.Lib.LaidTab
import Derived.Lib.ItoaNum
import Derived.WalkSmall
import Derived.Test.YtahejekcfgkiaaaGreatDoorGall9
import Derived.Test.YtahejekcfgkiaaaGreatDoorGall1
import Derived.Test.YtahejekcfgkiaaaGreatDoorGall2
import Derived.Test.YtahejekcfgkiaaaGreatDoorGall3
/-
  The program's tables of needs lie where their initialisers lay them; with that: whether there is such a kind, whether a kind counts, and how many there may be (typed over the code of 4b95722). The card ties the tables to the program's text.
-/
namespace Go.Proofs.YtahejekcfgkiaaaGreatDoor.need
open Go.RowKit Go.ChangeShapes
open Go.Proofs.YtahejekcfgkiaaaGreatDoor.objs (De zero CellsAt DAt)
set_option linter.unusedVariables false

theorem ret_bool {a b : Bool} (h : a = b) : Ending.returned (.bool a) = .returned (.bool b) := by rw [h]
/-- The words of the kinds, and the kinds of objects that they ask, as the program's tables have them. -/
def namesE : List ByteArray := [⟨#[]⟩, ⟨#[108, 111, 99, 107]⟩, ⟨#[114, 101, 97, 100]⟩, ⟨#[119, 114, 105, 116, 101]⟩, ⟨#[100, 111, 119, 110]⟩, ⟨#[116, 97, 107, 101]⟩]
def askedE : List Int := [0, 1, 2, 2, 3, 6]
/-- The table of what is asked lies where its initialiser lays it, below all that is made. -/
structure Oka (w : World) : Prop where
  ak : ∀ j, j < 6 → w.cell? ⟨0, j, none⟩ = some (.int .i64 (askedE.getD j 0))
  lak : 0 < w.heap.size
theorem Oka.below {B : Nat} {w w' : World} (h : Oka w) (hb : Below B w w') (h2 : 0 < B) : Oka w' :=
  ⟨fun j hj => (hb.cell (p := ⟨0, j, none⟩) h2).trans (h.ak j hj), Nat.lt_of_lt_of_le h.lak hb.size⟩
theorem Oka.next {w w' : World} (h : Oka w) (hb : Below w.heap.size w w') : Oka w' := h.below hb h.lak
theorem asked_kn {k : Nat} (h1 : 1 ≤ k) (h5 : k ≤ 5) : askedE.getD k 0 = kn (k : Int) := by
  have h : k = 1 ∨ k = 2 ∨ k = 3 ∨ k = 4 ∨ k = 5 := by omega
  rcases h with rfl | rfl | rfl | rfl | rfl <;> rfl
theorem names_word {k : Nat} (h1 : 1 ≤ k) (h5 : k ≤ 5) : namesE.getD k ⟨#[]⟩ = ⟨(word (k : Int)).toArray⟩ := by
  have h : k = 1 ∨ k = 2 ∨ k = 3 ∨ k = 4 ∨ k = 5 := by omega
  rcases h with rfl | rfl | rfl | rfl | rfl <;> rfl

theorem known_any (k : Int) (w : World) : Calls Tryz.prog 88 #[.int .i64 k] w fun e w' => e = .returned (.bool (decide (1 ≤ k ∧ k ≤ 5))) ∧ w = w' := by
  by_cases h1 : 1 ≤ k
  · by_cases h2 : k ≤ 5
    · rw [decide_eq_true ⟨h1, h2⟩]
      go_enter Tryz.func88, Tryz.ntmps88
      go_wp2
      go_ret
      exact ⟨rfl, rfl⟩
    · rw [decide_eq_false (fun h => h2 h.2)]
      have hd : decide (k ≤ 5) = false := by simpa using h2
      go_enter Tryz.func88, Tryz.ntmps88
      go_wp2
      go_ret
      exact ⟨rfl, rfl⟩
  · rw [decide_eq_false (fun h => h1 h.1)]
    have hd : decide (1 ≤ k) = false := by simpa using h1
    go_enter Tryz.func88, Tryz.ntmps88
    go_wp2
    go_ret
    exact ⟨rfl, rfl⟩
theorem counts_any (k : Int) (w : World) : Calls Tryz.prog 70 #[.int .i64 k] w fun e w' => e = .returned (.bool (decide (k = 4 ∨ k = 5))) ∧ w = w' := by
  by_cases h4 : k = 4
  · subst h4
    go_enter Tryz.func70, Tryz.ntmps70
    go_wp2
    go_ret
    exact ⟨rfl, rfl⟩
  · have e4 : (k == 4) = false := by simpa using h4
    by_cases h5 : k = 5
    · subst h5
      go_enter Tryz.func70, Tryz.ntmps70
      go_wp2
      go_ret
      exact ⟨rfl, rfl⟩
    · have e5 : (k == 5) = false := by simpa using h5
      rw [decide_eq_false (by omega)]
      go_enter Tryz.func70, Tryz.ntmps70
      go_wp2
      go_ret
      exact ⟨rfl, rfl⟩
/-- What is wrong with how many there are. -/
def manyC (n : Nat) : Nat := if n = 0 then 2 else if 4 < n then 4 else 0
theorem many_any (n : Nat) (w : World) : Calls Tryz.prog 50 #[.int .i64 (n : Int), .int .i64 4] w fun e w' => e = .returned (.int .i64 ((manyC n : Nat) : Int)) ∧ w = w' :=
  Go.Proofs.YtahejekcfgkiaaaGreatDoor.span.count_any n 4 w
end Go.Proofs.YtahejekcfgkiaaaGreatDoor.need

/-
  What the program's calls on programs ask of the world: three tables lie where their initialisers lay them. No condition.
-/
namespace Go.Proofs.YtahejekcfgkiaaaGreatDoor.pgm
open Go.RowKit Go.ChangeShapes
open Go.Proofs.YtahejekcfgkiaaaGreatDoor.objs (Okd)
open Go.Proofs.YtahejekcfgkiaaaGreatDoor.inst (Okw)
open Go.Proofs.YtahejekcfgkiaaaGreatDoor.need (Oka)
set_option linter.unusedVariables false

/-- What the program's calls ask of the world: the three tables lie where they should, below all that is made. -/
structure Okp (w : World) : Prop where
  ins : Okw w
  decl : Okd w
  need : Oka w
/-- A block above the tables. -/
def Past (b : Nat) : Prop := 2 < b ∧ 1 < b ∧ 0 < b
theorem Okp.below {B : Nat} {w w' : World} (h : Okp w) (hb : Below B w w') (hp : Past B) : Okp w' := ⟨h.ins.below hb hp.1, h.decl.below hb hp.2.1, h.need.below hb hp.2.2⟩
theorem Okp.past {w : World} (h : Okp w) : Past w.heap.size := ⟨h.ins.2, h.decl.2, h.need.lak⟩
theorem Okp.next {w w' : World} (h : Okp w) (hb : Below w.heap.size w w') : Okp w' := h.below hb h.past
end Go.Proofs.YtahejekcfgkiaaaGreatDoor.pgm

/-
  What was put of a wait is got again, whatever stands behind; what was got, put, is just the bytes that it had. Plain mathematics; no condition.
-/
namespace Go.Proofs.YtahejekcfgkiaaaGreatDoor.need
open Go.Proofs.YtahejekcfgkiaaaGreatDoor.octet (St rdByte rdNum num num_length_le enc_length_pos)
open Go.Proofs.YtahejekcfgkiaaaGreatDoor.objs (De zero rdN chk chk_zero one one_zero rdNum_back rdN_back rdNum_once rdN_once rdNum_err getD_left getD_last)
set_option linter.unusedVariables false

/-- Of objects that may be: a need that may be has numbers up to a thousand. -/
theorem need_small {d : List De} {n : De} (hd : (chk d).2 = 0) (h : oneN d n = 0) : (1 ≤ n.1 ∧ n.1 ≤ 5) ∧ (0 ≤ n.2.1 ∧ n.2.1 < 32) ∧ (n.1 ≤ 3 → n.2.2 = 0) ∧ 0 ≤ n.2.2 ∧ n.2.2 ≤ 1000 := by
  obtain ⟨h1, h2, h3, h4, h5⟩ := oneN_zero h
  obtain ⟨hl, _, hall⟩ := chk_zero hd
  refine ⟨h1, by omega, h3, h4, ?_⟩
  have hk : (d.getD n.2.1.toNat zero).1 = kn n.1 := by
    unfold oneN at h
    split at h
    · cases h
    · split at h
      · cases h
      · rename_i _ h6
        exact Classical.byContradiction fun h7 => h6 (.inr (.inr h7))
  obtain ⟨_, g3, g6, _, _, _⟩ := one_zero (hall n.2.1.toNat (by omega))
  unfold hi at h5
  by_cases e4 : n.1 = 4
  · rw [if_pos e4] at h5
    have := g3 (by rw [hk]; unfold kn; rw [e4]; decide)
    omega
  · rw [if_neg e4] at h5
    by_cases e5 : n.1 = 5
    · rw [if_pos e5] at h5
      have := g6 (by rw [hk]; unfold kn; rw [e5]; decide)
      omega
    · rw [if_neg e5] at h5
      omega

theorem rdNeed_back {d : List De} {n : De} (hd : (chk d).2 = 0) (h : oneN d n = 0) (more : List UInt8) : rdNeed ⟨encN n ++ more, 0⟩ = (n, ⟨more, 0⟩, 0) := by
  obtain ⟨h1, h2, h3, h4, h5⟩ := need_small hd h
  obtain ⟨k, o, m⟩ := n
  dsimp only at h1 h2 h3 h4 h5
  have hy : rdByte ⟨encN (k, o, m) ++ more, 0⟩ = (k.toNat, ⟨num o.toNat ++ (pieceN k m ++ more), 0⟩) := by
    unfold rdByte encN
    simp only [ne_eq, not_true_eq_false, if_false, List.cons_append, List.append_assoc]
    congr 1
    rw [UInt8.toNat_ofNat']
    omega
  have hA : rdN ⟨num o.toNat ++ (pieceN k m ++ more), 0⟩ = (o, ⟨pieceN k m ++ more, 0⟩) := by
    rw [rdN_back (by omega)]
    congr 1
    omega
  have hB : rdC k.toNat ⟨pieceN k m ++ more, 0⟩ = (m, ⟨more, 0⟩) := by
    unfold rdC pieceN
    by_cases e : 3 < k
    · rw [if_pos (by omega), if_pos e, rdN_back (by omega)]
      congr 1
      omega
    · rw [if_neg (by omega), if_neg e, h3 (by omega)]
      rfl
  unfold rdNeed
  simp only [hy, hA, hB]
  rw [if_neg (by omega)]
  congr 2
  omega
theorem rdNeeds_back {d l : List De} (hd : (chk d).2 = 0) (h : ∀ n ∈ l, oneN d n = 0) : ∀ j, j ≤ l.length → ∀ more, rdNeeds ⟨encNs l j ++ more, 0⟩ j = (l.take j, ⟨more, 0⟩, 0) := by
  intro j
  induction j with
  | zero => intro _ more; rfl
  | succ j ih =>
    intro hj more
    have h1 := ih (by omega) (encN (l.getD j zero) ++ more)
    have h2 := rdNeed_back hd (h _ (getD_mem (l := l) (k := j) (by omega))) more
    simp only [encNs, List.append_assoc, rdNeeds]
    rw [h1]
    simp only [h2]
    rw [if_neg (by decide), if_neg (by decide), List.take_add_one, List.getD_eq_getElem?_getD, List.getElem?_eq_getElem (by omega)]
    rfl
theorem rdWay_back {d l : List De} (hd : (chk d).2 = 0) (hl : l.length ≤ 4) (h : ∀ n ∈ l, oneN d n = 0) (more : List UInt8) : rdWay ⟨encWay l ++ more, 0⟩ = (l, ⟨more, 0⟩, 0) := by
  have hn : rdNum ⟨encWay l ++ more, 0⟩ = (l.length, ⟨encNs l l.length ++ more, 0⟩) := by
    unfold encWay
    rw [List.append_assoc, rdNum_back (by omega)]
  unfold rdWay
  simp only [hn]
  rw [if_neg (by omega), if_neg (by decide), rdNeeds_back hd h l.length (Nat.le_refl _) more, List.take_length]
theorem rdWays_back {d : List De} {w : List (List De)} (hd : (chk d).2 = 0) (h : ∀ l ∈ w, l.length ≤ 4 ∧ ∀ n ∈ l, oneN d n = 0) : ∀ j, j ≤ w.length → ∀ more, rdWays ⟨encWs w j ++ more, 0⟩ j = (w.take j, ⟨more, 0⟩, 0) := by
  intro j
  induction j with
  | zero => intro _ more; rfl
  | succ j ih =>
    intro hj more
    have h1 := ih (by omega) (encWay (w.getD j []) ++ more)
    have hm := h _ (getW_mem (w := w) (k := j) (by omega))
    have h2 := rdWay_back hd hm.1 hm.2 more
    simp only [encWs, List.append_assoc, rdWays]
    rw [h1]
    simp only [h2]
    rw [if_neg (by decide), if_neg (by decide), List.take_add_one, List.getD_eq_getElem?_getD, List.getElem?_eq_getElem (by omega)]
    rfl
theorem back {d : List De} {w : List (List De)} (hd : (chk d).2 = 0) (h : chkW d w = 0) (more : List UInt8) : getW d (encW w ++ more) = (w, (encW w).length, 0) := by
  obtain ⟨h0, h4, hall⟩ := chkW_zero h
  have hn : rdNum ⟨encW w ++ more, 0⟩ = (w.length, ⟨encWs w w.length ++ more, 0⟩) := by
    unfold encW
    rw [List.append_assoc, rdNum_back (by omega)]
  have hL := rdWays_back hd (fun l hl => (hall l hl).2) w.length (Nat.le_refl _) more
  unfold getW readW
  have h44 : ¬ 4 < w.length := by omega
  simp only [hn, hL, List.take_length, h, ne_eq, not_true_eq_false, if_false, if_neg h44]
  simp

theorem rdC_err {k : Nat} {s : St} (h : s.err ≠ 0) : (rdC k s).2 = s := by
  unfold rdC rdN
  split
  · exact rdNum_err h
  · rfl
theorem rdNeed_once {d : List De} {L : List UInt8} (hd : (chk d).2 = 0) (he : (rdNeed ⟨L, 0⟩).2.2 = 0) (h : oneN d (rdNeed ⟨L, 0⟩).1 = 0) : L = encN (rdNeed ⟨L, 0⟩).1 ++ (rdNeed ⟨L, 0⟩).2.1.rest ∧ (rdNeed ⟨L, 0⟩).2.1.err = 0 := by
  obtain ⟨h1, h2, h3, h4, h5⟩ := need_small hd h
  unfold rdNeed at he h1 h2 h3 h4 h5 ⊢
  dsimp only at he h1 h2 h3 h4 h5 ⊢
  split at he
  · cases he
  · rename_i hc
    rw [if_neg hc] at h1 h2 h3 h4 h5 ⊢
    dsimp only at he h1 h2 h3 h4 h5 ⊢
    obtain ⟨x, r, rfl⟩ : ∃ x r, L = x :: r := by
      cases L with
      | nil =>
        exfalso
        have e0 : (rdByte ⟨[], 0⟩).2.err ≠ 0 := by decide
        have e1 : (rdN (rdByte ⟨[], 0⟩).2).2 = (rdByte ⟨[], 0⟩).2 := rdNum_err e0
        rw [e1, rdC_err e0] at he
        exact e0 he
      | cons x r => exact ⟨x, r, rfl⟩
    have hy : rdByte ⟨x :: r, 0⟩ = (x.toNat, ⟨r, 0⟩) := rfl
    rw [hy] at he h1 h2 h3 h4 h5 hc ⊢
    dsimp only at he h1 h2 h3 h4 h5 hc ⊢
    have hA0 : (rdN ⟨r, 0⟩).2.err = 0 := by
      rcases Nat.eq_zero_or_pos (rdN ⟨r, 0⟩).2.err with e | e
      · exact e
      · rw [rdC_err (by omega)] at he; exact he
    have hA := rdN_once hA0 (by omega)
    generalize rdN ⟨r, 0⟩ = q at *
    obtain ⟨o, R, E⟩ := q
    dsimp only at hA0 hA he h2 h3 h4 h5 ⊢
    subst hA0
    have hB : R = pieceN (x.toNat : Int) (rdC x.toNat ⟨R, 0⟩).1 ++ (rdC x.toNat ⟨R, 0⟩).2.rest := by
      unfold rdC at he h4 h5 ⊢
      unfold pieceN
      by_cases e : 3 < x.toNat
      · rw [if_pos e] at he h4 h5 ⊢
        rw [if_pos (by omega)]
        exact rdN_once he (by omega)
      · rw [if_neg e] at he ⊢
        rw [if_neg (by omega)]
        rfl
    refine ⟨?_, he⟩
    unfold encN
    dsimp only
    rw [Int.toNat_natCast, List.cons_append, List.append_assoc, ← hB, ← hA]
    congr 1
    exact UInt8.ofNat_toNat.symm
theorem rdNeeds_err {s : St} {j : Nat} (h : (rdNeeds s j).2.2 ≠ 0) : ∀ k, j ≤ k → rdNeeds s k = rdNeeds s j := by
  intro k hk
  induction k with
  | zero =>
    obtain rfl : j = 0 := by omega
    rfl
  | succ k ih =>
    rcases Nat.eq_or_lt_of_le hk with e | e
    · subst e; rfl
    · have := ih (by omega)
      simp only [rdNeeds]
      rw [this, if_pos h]
theorem rdWays_err {s : St} {j : Nat} (h : (rdWays s j).2.2 ≠ 0) : ∀ k, j ≤ k → rdWays s k = rdWays s j := by
  intro k hk
  induction k with
  | zero =>
    obtain rfl : j = 0 := by omega
    rfl
  | succ k ih =>
    rcases Nat.eq_or_lt_of_le hk with e | e
    · subst e; rfl
    · have := ih (by omega)
      simp only [rdWays]
      rw [this, if_pos h]
theorem rdNeeds_length {s : St} : ∀ j, (rdNeeds s j).2.2 = 0 → (rdNeeds s j).1.length = j := by
  intro j
  induction j with
  | zero => intro _; rfl
  | succ j ih =>
    intro h
    simp only [rdNeeds] at h ⊢
    split at h
    · exact absurd h ‹_›
    · rename_i h1
      have := ih (by omega)
      rw [if_neg h1]
      split at h
      · exact absurd h ‹_›
      · rename_i h2
        rw [if_neg h2, List.length_append, this]
        rfl
theorem rdWays_length {s : St} : ∀ j, (rdWays s j).2.2 = 0 → (rdWays s j).1.length = j := by
  intro j
  induction j with
  | zero => intro _; rfl
  | succ j ih =>
    intro h
    simp only [rdWays] at h ⊢
    split at h
    · exact absurd h ‹_›
    · rename_i h1
      have := ih (by omega)
      rw [if_neg h1]
      split at h
      · exact absurd h ‹_›
      · rename_i h2
        rw [if_neg h2, List.length_append, this]
        rfl
theorem encNs_left {l r : List De} : ∀ j, j ≤ l.length → encNs (l ++ r) j = encNs l j := by
  intro j
  induction j with
  | zero => intro _; rfl
  | succ j ih =>
    intro h
    simp only [encNs]
    rw [ih (by omega), getD_left (by omega)]
theorem getW_left {l r : List (List De)} {i : Nat} (h : i < l.length) : (l ++ r).getD i [] = l.getD i [] := by
  rw [List.getD_eq_getElem?_getD, List.getD_eq_getElem?_getD, List.getElem?_append_left h]
theorem getW_last {l : List (List De)} {x : List De} {i : Nat} (h : l.length = i) : (l ++ [x]).getD i [] = x := by
  subst h
  rw [List.getD_eq_getElem?_getD, List.getElem?_append_right (Nat.le_refl _), Nat.sub_self]
  rfl
theorem encWs_left {l r : List (List De)} : ∀ j, j ≤ l.length → encWs (l ++ r) j = encWs l j := by
  intro j
  induction j with
  | zero => intro _; rfl
  | succ j ih =>
    intro h
    simp only [encWs]
    rw [ih (by omega), getW_left (by omega)]
theorem rdNeeds_once {d : List De} (hd : (chk d).2 = 0) : ∀ j (L : List UInt8), (rdNeeds ⟨L, 0⟩ j).2.2 = 0 → (∀ n ∈ (rdNeeds ⟨L, 0⟩ j).1, oneN d n = 0) → L = encNs (rdNeeds ⟨L, 0⟩ j).1 j ++ (rdNeeds ⟨L, 0⟩ j).2.1.rest ∧ (rdNeeds ⟨L, 0⟩ j).2.1.err = 0 := by
  intro j
  induction j with
  | zero => intro L _ _; exact ⟨rfl, rfl⟩
  | succ j ih =>
    intro L he hall
    have h0 : (rdNeeds ⟨L, 0⟩ j).2.2 = 0 := by
      rcases Nat.eq_zero_or_pos (rdNeeds ⟨L, 0⟩ j).2.2 with h | h
      · exact h
      · rw [rdNeeds_err (j := j) (by omega) (j + 1) (by omega)] at he
        omega
    have hlen := rdNeeds_length j h0
    simp only [rdNeeds] at he hall ⊢
    rw [if_neg (by omega)] at he hall ⊢
    split at he
    · exact absurd he ‹_›
    · rename_i h2
      rw [if_neg h2] at hall ⊢
      dsimp only at he hall ⊢
      have h1 := ih L h0 (fun n hn => hall n (List.mem_append_left _ hn))
      have hj := hall (rdNeed (rdNeeds ⟨L, 0⟩ j).2.1).1 (List.mem_append_right _ (List.mem_singleton.2 rfl))
      simp only [encNs]
      rw [encNs_left j (by omega), getD_last hlen]
      generalize rdNeeds ⟨L, 0⟩ j = p at *
      obtain ⟨ls, ⟨R, E⟩, e⟩ := p
      dsimp only at h0 hlen h1 hj h2 ⊢
      obtain ⟨h1, h1e⟩ := h1
      subst h1e
      have h3 := rdNeed_once (d := d) (L := R) hd (by omega) hj
      refine ⟨?_, h3.2⟩
      rw [List.append_assoc, ← h3.1]
      exact h1
theorem rdWay_once {d : List De} {L : List UInt8} (hd : (chk d).2 = 0) (he : (rdWay ⟨L, 0⟩).2.2 = 0) (h : ∀ n ∈ (rdWay ⟨L, 0⟩).1, oneN d n = 0) : L = encWay (rdWay ⟨L, 0⟩).1 ++ (rdWay ⟨L, 0⟩).2.1.rest ∧ (rdWay ⟨L, 0⟩).2.1.err = 0 := by
  unfold rdWay at he h ⊢
  split at he
  · cases he
  · rename_i h1
    rw [if_neg h1] at h ⊢
    split at he
    · exact absurd he ‹_›
    · rename_i h2
      rw [if_neg h2] at h ⊢
      have hn := rdNum_once (l := L) (by omega)
      generalize rdNum ⟨L, 0⟩ = q at *
      obtain ⟨n, ⟨R, E⟩⟩ := q
      dsimp only at he h h1 h2 hn ⊢
      obtain rfl : E = 0 := by omega
      have h3 := rdNeeds_once hd n R he h
      have hlen := rdNeeds_length n he
      refine ⟨?_, h3.2⟩
      unfold encWay
      rw [hlen, List.append_assoc, ← h3.1]
      exact hn
theorem rdWays_once {d : List De} (hd : (chk d).2 = 0) : ∀ j (L : List UInt8), (rdWays ⟨L, 0⟩ j).2.2 = 0 → (∀ l ∈ (rdWays ⟨L, 0⟩ j).1, ∀ n ∈ l, oneN d n = 0) → L = encWs (rdWays ⟨L, 0⟩ j).1 j ++ (rdWays ⟨L, 0⟩ j).2.1.rest ∧ (rdWays ⟨L, 0⟩ j).2.1.err = 0 := by
  intro j
  induction j with
  | zero => intro L _ _; exact ⟨rfl, rfl⟩
  | succ j ih =>
    intro L he hall
    have h0 : (rdWays ⟨L, 0⟩ j).2.2 = 0 := by
      rcases Nat.eq_zero_or_pos (rdWays ⟨L, 0⟩ j).2.2 with h | h
      · exact h
      · rw [rdWays_err (j := j) (by omega) (j + 1) (by omega)] at he
        omega
    have hlen := rdWays_length j h0
    simp only [rdWays] at he hall ⊢
    rw [if_neg (by omega)] at he hall ⊢
    split at he
    · exact absurd he ‹_›
    · rename_i h2
      rw [if_neg h2] at hall ⊢
      dsimp only at he hall ⊢
      have h1 := ih L h0 (fun n hn => hall n (List.mem_append_left _ hn))
      have hj := hall (rdWay (rdWays ⟨L, 0⟩ j).2.1).1 (List.mem_append_right _ (List.mem_singleton.2 rfl))
      simp only [encWs]
      rw [encWs_left j (by omega), getW_last hlen]
      generalize rdWays ⟨L, 0⟩ j = p at *
      obtain ⟨ls, ⟨R, E⟩, e⟩ := p
      dsimp only at h0 hlen h1 hj h2 ⊢
      obtain ⟨h1, h1e⟩ := h1
      subst h1e
      have h3 := rdWay_once (d := d) (L := R) hd (by omega) hj
      refine ⟨?_, h3.2⟩
      rw [List.append_assoc, ← h3.1]
      exact h1
theorem got_bad {d : List De} {l : List UInt8} (h : (getW d l).2.2 ≠ 0) : getW d l = ([], 0, (getW d l).2.2) := by
  unfold getW at h ⊢
  dsimp only at h ⊢
  split
  · rfl
  · rename_i h1
    rw [if_neg h1] at h
    exact absurd rfl h
theorem once {d : List De} {t : List UInt8} (hd : (chk d).2 = 0) (h : (getW d t).2.2 = 0) : chkW d (getW d t).1 = 0 ∧ 0 < (getW d t).2.1 ∧ (getW d t).2.1 ≤ t.length ∧ encW (getW d t).1 = t.take (getW d t).2.1 := by
  unfold getW readW at h ⊢
  dsimp only at h ⊢
  by_cases h2 : 4 < (rdNum ⟨t, 0⟩).1
  · simp only [if_pos h2] at h; cases h
  · simp only [if_neg h2] at h ⊢
    by_cases h1 : (rdNum ⟨t, 0⟩).2.err ≠ 0
    · simp only [if_pos h1] at h; exact absurd h h1
    · simp only [if_neg h1] at h ⊢
      have hn := rdNum_once (l := t) (by omega)
      generalize rdNum ⟨t, 0⟩ = q at *
      obtain ⟨n, ⟨R, E⟩⟩ := q
      dsimp only at h h1 h2 hn ⊢
      obtain rfl : E = 0 := by omega
      by_cases h3 : (rdWays ⟨R, 0⟩ n).2.2 ≠ 0
      · simp only [if_pos h3] at h; exact absurd h h3
      · simp only [if_neg h3] at h ⊢
        by_cases h4 : chkW d (rdWays ⟨R, 0⟩ n).1 ≠ 0
        · simp only [if_pos h4] at h; exact absurd h h4
        · simp only [if_neg h4] at h ⊢
          have hlen := rdWays_length n (by omega : (rdWays ⟨R, 0⟩ n).2.2 = 0)
          obtain ⟨_, _, hall⟩ := chkW_zero (by omega : chkW d (rdWays ⟨R, 0⟩ n).1 = 0)
          have ho := (rdWays_once hd n R (by omega) (fun l hl => (hall l hl).2.2)).1
          generalize rdWays ⟨R, 0⟩ n = p at *
          obtain ⟨ls, S, e⟩ := p
          dsimp only at h3 h4 hlen hall ho ⊢
          have hE : t = encW ls ++ S.rest := by
            unfold encW
            rw [hlen, List.append_assoc, ← ho]
            exact hn
          have hpos : 0 < (encW ls).length := by
            have := enc_length_pos 9 ls.length
            simp only [encW, List.length_append]
            have e : (num ls.length).length = (Go.Proofs.YtahejekcfgkiaaaGreatDoor.octet.enc 9 ls.length).length := rfl
            omega
          have hlt : t.length = (encW ls).length + S.rest.length := by rw [hE, List.length_append]
          simp only [ne_eq, not_true_eq_false, if_false]
          refine ⟨by omega, by omega, by omega, ?_⟩
          rw [show t.length - S.rest.length = (encW ls).length from by omega, hE, List.take_left']
          rfl
end Go.Proofs.YtahejekcfgkiaaaGreatDoor.need

/-
  What is wrong with a program, its bytes, and the program whose bytes some are: plain mathematics of lists and numbers, by one pair of laws for each list that is put behind another. No condition.
-/
namespace Go.Proofs.YtahejekcfgkiaaaGreatDoor.pgm
open Go.Proofs.YtahejekcfgkiaaaGreatDoor.octet (St rdByte rdNum num num_length_le enc_length_pos)
open Go.Proofs.YtahejekcfgkiaaaGreatDoor.objs (De zero rdNum_back rdNum_once rdNum_err)
set_option linter.unusedVariables false

/-- A function: its arguments, its locals, its instructions (an operation and two operands each). -/
structure Fn where
  ar : Int
  lo : Int
  co : List De
def Fn.zero : Fn := ⟨0, 0, []⟩
/-- A program: its objects, its waits, its functions. -/
structure Pg where
  ds : List De
  ws : List (List (List De))
  fs : List Fn
def Pg.none : Pg := ⟨[], [], []⟩

section
variable {α : Type}
/-- The first thing that is wrong with one of a list. -/
def firstE (f : α → Nat) : List α → Nat
  | [] => 0
  | x :: l => if f x ≠ 0 then f x else firstE f l
theorem getD_at {l : List α} {k : Nat} {d : α} (h : k < l.length) : l.getD k d = l[k] := by rw [List.getD_eq_getElem?_getD, List.getElem?_eq_getElem h]; rfl
theorem getD_in {l : List α} {k : Nat} {d : α} (h : k < l.length) : l.getD k d ∈ l := by rw [getD_at h]; exact List.getElem_mem _
theorem firstE_drop {f : α → Nat} {l : List α} {k : Nat} (d : α) (h : k < l.length) : firstE f (l.drop k) = if f (l.getD k d) ≠ 0 then f (l.getD k d) else firstE f (l.drop (k + 1)) := by
  rw [List.drop_eq_getElem_cons h, getD_at h]
  rfl
theorem firstE_zero {f : α → Nat} {l : List α} (h : firstE f l = 0) : ∀ x ∈ l, f x = 0 := by
  induction l with
  | nil => intro n hn; cases hn
  | cons m l ih =>
    unfold firstE at h
    by_cases hm : f m ≠ 0
    · rw [if_pos hm] at h
      exact absurd h hm
    · rw [if_neg hm] at h
      intro n hn
      rcases List.mem_cons.1 hn with rfl | hn
      · omega
      · exact ih h n hn
theorem firstE_le {f : α → Nat} {b : Nat} (hf : ∀ x, f x ≤ b) (l : List α) : firstE f l ≤ b := by
  induction l with
  | nil => exact Nat.zero_le _
  | cons m l ih =>
    unfold firstE
    split
    · exact hf m
    · exact ih
/-- The bytes of the first j of a list. -/
def encAll (e : α → List UInt8) (d : α) (l : List α) : Nat → List UInt8
  | 0 => []
  | j + 1 => encAll e d l j ++ e (l.getD j d)
theorem encAll_le {e : α → List UInt8} {d : α} {l : List α} {c : Nat} (h : ∀ x ∈ l, (e x).length ≤ c) : ∀ j, j ≤ l.length → (encAll e d l j).length ≤ c * j := by
  intro j
  induction j with
  | zero => intro _; exact Nat.zero_le _
  | succ j ih =>
    intro hj
    have h1 := ih (by omega)
    have h2 := h _ (getD_in (d := d) (l := l) (k := j) (by omega))
    simp only [encAll, List.length_append]
    rw [Nat.mul_succ]
    omega
theorem at_left {l r : List α} {i : Nat} {d : α} (h : i < l.length) : (l ++ r).getD i d = l.getD i d := by
  rw [List.getD_eq_getElem?_getD, List.getD_eq_getElem?_getD, List.getElem?_append_left h]
theorem at_last {l : List α} {x d : α} {i : Nat} (h : l.length = i) : (l ++ [x]).getD i d = x := by
  subst h
  rw [List.getD_eq_getElem?_getD, List.getElem?_append_right (Nat.le_refl _), Nat.sub_self]
  rfl
theorem encAll_left {e : α → List UInt8} {d : α} {l r : List α} : ∀ j, j ≤ l.length → encAll e d (l ++ r) j = encAll e d l j := by
  intro j
  induction j with
  | zero => intro _; rfl
  | succ j ih =>
    intro h
    simp only [encAll]
    rw [ih (by omega), at_left (by omega)]
/-- The first j of what is read one behind the other. -/
def rdAll (rd : St → α × St × Nat) (s : St) : Nat → List α × St × Nat
  | 0 => ([], s, 0)
  | j + 1 =>
    let p := rdAll rd s j
    if p.2.2 ≠ 0 then p
    else if (rd p.2.1).2.2 ≠ 0 then ([], (rd p.2.1).2.1, (rd p.2.1).2.2)
    else (p.1 ++ [(rd p.2.1).1], (rd p.2.1).2.1, 0)
theorem rdAll_err {rd : St → α × St × Nat} {s : St} {j : Nat} (h : (rdAll rd s j).2.2 ≠ 0) : ∀ k, j ≤ k → rdAll rd s k = rdAll rd s j := by
  intro k hk
  induction k with
  | zero =>
    obtain rfl : j = 0 := by omega
    rfl
  | succ k ih =>
    rcases Nat.eq_or_lt_of_le hk with e | e
    · subst e; rfl
    · have := ih (by omega)
      simp only [rdAll]
      rw [this, if_pos h]
theorem rdAll_length {rd : St → α × St × Nat} {s : St} : ∀ j, (rdAll rd s j).2.2 = 0 → (rdAll rd s j).1.length = j := by
  intro j
  induction j with
  | zero => intro _; rfl
  | succ j ih =>
    intro h
    simp only [rdAll] at h ⊢
    split at h
    · exact absurd h ‹_›
    · rename_i h1
      have := ih (by omega)
      rw [if_neg h1]
      split at h
      · exact absurd h ‹_›
      · rename_i h2
        rw [if_neg h2, List.length_append, this]
        rfl
theorem rdAll_stop {rd : St → α × St × Nat} {s S T : St} {n j e : Nat} {ls : List α} {x : α} (hj : j < n) (hl : rdAll rd s j = (ls, S, 0)) (hw : rd S = (x, T, e)) (he : e ≠ 0) : rdAll rd s n = ([], T, e) := by
  have h1 : rdAll rd s (j + 1) = ([], T, e) := by simp [rdAll, hl, hw, he]
  rw [rdAll_err (j := j + 1) (by rw [h1]; exact he) n hj, h1]
theorem rdAll_next {rd : St → α × St × Nat} {s S T : St} {j : Nat} {ls : List α} {x : α} (hl : rdAll rd s j = (ls, S, 0)) (hw : rd S = (x, T, 0)) : rdAll rd s (j + 1) = (ls ++ [x], T, 0) := by simp [rdAll, hl, hw]
theorem rdAll_back {rd : St → α × St × Nat} {e : α → List UInt8} {d : α} {l : List α} (h : ∀ x ∈ l, ∀ more, rd ⟨e x ++ more, 0⟩ = (x, ⟨more, 0⟩, 0)) : ∀ j, j ≤ l.length → ∀ more, rdAll rd ⟨encAll e d l j ++ more, 0⟩ j = (l.take j, ⟨more, 0⟩, 0) := by
  intro j
  induction j with
  | zero => intro _ more; rfl
  | succ j ih =>
    intro hj more
    have h1 := ih (by omega) (e (l.getD j d) ++ more)
    have h2 := h _ (getD_in (d := d) (l := l) (k := j) (by omega)) more
    simp only [encAll, List.append_assoc, rdAll]
    rw [h1]
    simp only [h2]
    rw [if_neg (by decide), if_neg (by decide), List.take_add_one, getD_at (by omega), List.getElem?_eq_getElem (by omega)]
    rfl
theorem rdAll_once {rd : St → α × St × Nat} {e : α → List UInt8} {d : α} {ok : α → Prop} (hrd : ∀ L, (rd ⟨L, 0⟩).2.2 = 0 → ok (rd ⟨L, 0⟩).1 → L = e (rd ⟨L, 0⟩).1 ++ (rd ⟨L, 0⟩).2.1.rest ∧ (rd ⟨L, 0⟩).2.1.err = 0) :
    ∀ j (L : List UInt8), (rdAll rd ⟨L, 0⟩ j).2.2 = 0 → (∀ x ∈ (rdAll rd ⟨L, 0⟩ j).1, ok x) → L = encAll e d (rdAll rd ⟨L, 0⟩ j).1 j ++ (rdAll rd ⟨L, 0⟩ j).2.1.rest ∧ (rdAll rd ⟨L, 0⟩ j).2.1.err = 0 := by
  intro j
  induction j with
  | zero => intro L _ _; exact ⟨rfl, rfl⟩
  | succ j ih =>
    intro L he hall
    have h0 : (rdAll rd ⟨L, 0⟩ j).2.2 = 0 := by
      rcases Nat.eq_zero_or_pos (rdAll rd ⟨L, 0⟩ j).2.2 with h | h
      · exact h
      · rw [rdAll_err (j := j) (by omega) (j + 1) (by omega)] at he
        omega
    have hlen := rdAll_length j h0
    simp only [rdAll] at he hall ⊢
    rw [if_neg (by omega)] at he hall ⊢
    split at he
    · exact absurd he ‹_›
    · rename_i h2
      rw [if_neg h2] at hall ⊢
      dsimp only at he hall ⊢
      have h1 := ih L h0 (fun n hn => hall n (List.mem_append_left _ hn))
      have hj := hall (rd (rdAll rd ⟨L, 0⟩ j).2.1).1 (List.mem_append_right _ (List.mem_singleton.2 rfl))
      simp only [encAll]
      rw [encAll_left j (by omega), at_last hlen]
      generalize rdAll rd ⟨L, 0⟩ j = p at *
      obtain ⟨ls, ⟨R, E⟩, e'⟩ := p
      dsimp only at h0 hlen h1 hj h2 ⊢
      obtain ⟨h1, h1e⟩ := h1
      subst h1e
      have h3 := hrd R (by omega) hj
      refine ⟨?_, h3.2⟩
      rw [List.append_assoc, ← h3.1]
      exact h1
end

/-- What is wrong with an instruction. -/
def chkI (x : De) : Nat := Go.Proofs.YtahejekcfgkiaaaGreatDoor.inst.chk x.1 x.2.1 x.2.2
def chkFn (f : Fn) : Nat := if f.ar < 0 ∨ f.lo < f.ar ∨ 8 < f.lo then 1 else if f.co.length = 0 then 2 else if 200 < f.co.length then 4 else firstE chkI f.co
/-- What is wrong with a program. -/
def chkP (p : Pg) : Nat :=
  if (Go.Proofs.YtahejekcfgkiaaaGreatDoor.objs.chk p.ds).2 ≠ 0 then (Go.Proofs.YtahejekcfgkiaaaGreatDoor.objs.chk p.ds).2
  else if 32 < p.ws.length then 4
  else if firstE (Go.Proofs.YtahejekcfgkiaaaGreatDoor.need.chkW p.ds) p.ws ≠ 0 then firstE (Go.Proofs.YtahejekcfgkiaaaGreatDoor.need.chkW p.ds) p.ws
  else if p.fs.length = 0 then 2
  else if 16 < p.fs.length then 4
  else firstE chkFn p.fs
theorem chkFn_zero {f : Fn} (h : chkFn f = 0) : (0 ≤ f.ar ∧ f.ar ≤ f.lo ∧ f.lo ≤ 8) ∧ 0 < f.co.length ∧ f.co.length ≤ 200 ∧ ∀ x ∈ f.co, chkI x = 0 := by
  unfold chkFn at h
  split at h
  · cases h
  · split at h
    · cases h
    · split at h
      · cases h
      · exact ⟨by omega, by omega, by omega, firstE_zero h⟩
theorem chkP_zero {p : Pg} (h : chkP p = 0) : (Go.Proofs.YtahejekcfgkiaaaGreatDoor.objs.chk p.ds).2 = 0 ∧ p.ws.length ≤ 32 ∧ (∀ w ∈ p.ws, Go.Proofs.YtahejekcfgkiaaaGreatDoor.need.chkW p.ds w = 0) ∧ 0 < p.fs.length ∧ p.fs.length ≤ 16 ∧ ∀ f ∈ p.fs, chkFn f = 0 := by
  unfold chkP at h
  split at h
  · exact absurd h ‹_›
  · split at h
    · cases h
    · split at h
      · exact absurd h ‹_›
      · split at h
        · cases h
        · split at h
          · cases h
          · exact ⟨by omega, by omega, firstE_zero (by omega), by omega, by omega, firstE_zero h⟩

def encIn (x : De) : List UInt8 := Go.Proofs.YtahejekcfgkiaaaGreatDoor.inst.encI x.1 x.2.1 x.2.2
def encFn (f : Fn) : List UInt8 := num f.ar.toNat ++ (num f.lo.toNat ++ (num f.co.length ++ encAll encIn zero f.co f.co.length))
/-- The bytes of a program. -/
def encP (p : Pg) : List UInt8 :=
  [76, 74, 1] ++ (Go.Proofs.YtahejekcfgkiaaaGreatDoor.objs.encL p.ds ++ (num p.ws.length ++ (encAll Go.Proofs.YtahejekcfgkiaaaGreatDoor.need.encW [] p.ws p.ws.length ++ (num p.fs.length ++ encAll encFn Fn.zero p.fs p.fs.length))))

/-- A count that is read. -/
def rdMany (s : St) (most : Nat) : Nat × St × Nat := if most < (rdNum s).1 then (0, (rdNum s).2, 4) else ((rdNum s).1, (rdNum s).2, (rdNum s).2.err)
/-- A function that is read: by what reads an instruction. -/
def rdFn (rdI : St → De × St × Nat) (s : St) : Fn × St × Nat :=
  let a := rdNum s
  let b := rdNum a.2
  let n := rdMany b.2 200
  if b.2.err ≠ 0 then (Fn.zero, b.2, b.2.err)
  else if n.2.2 ≠ 0 then (Fn.zero, n.2.1, n.2.2)
  else
    let q := rdAll rdI n.2.1 n.1
    if q.2.2 ≠ 0 then (Fn.zero, q.2.1, q.2.2)
    else (⟨((min a.1 2147483648 : Nat) : Int), ((min b.1 2147483648 : Nat) : Int), q.1⟩, q.2.1, 0)
/-- The program whose bytes some are, or the first error. -/
def readP (rdI : St → De × St × Nat) (t : List UInt8) : Pg × Nat :=
  if t.take 3 ≠ [76, 74, 1] then (Pg.none, 2)
  else
    let l := Go.Proofs.YtahejekcfgkiaaaGreatDoor.objs.readL ⟨t.drop 3, 0⟩
    if l.2.2 ≠ 0 then (Pg.none, l.2.2)
    else
      let n := rdMany l.2.1 32
      if n.2.2 ≠ 0 then (Pg.none, n.2.2)
      else
        let ws := rdAll (Go.Proofs.YtahejekcfgkiaaaGreatDoor.need.readW l.1) n.2.1 n.1
        if ws.2.2 ≠ 0 then (Pg.none, ws.2.2)
        else
          let m := rdMany ws.2.1 16
          if m.2.2 ≠ 0 then (Pg.none, m.2.2)
          else
            let fs := rdAll (rdFn rdI) m.2.1 m.1
            if fs.2.2 ≠ 0 then (Pg.none, fs.2.2)
            else if fs.2.1.rest ≠ [] then (Pg.none, 2)
            else if chkP ⟨l.1, ws.1, fs.1⟩ ≠ 0 then (Pg.none, chkP ⟨l.1, ws.1, fs.1⟩)
            else (⟨l.1, ws.1, fs.1⟩, 0)

/-! What was put is got. -/
theorem rdMany_back {n most : Nat} (h : n ≤ most) (hm : most ≤ 1000) (more : List UInt8) : rdMany ⟨num n ++ more, 0⟩ most = (n, ⟨more, 0⟩, 0) := by
  unfold rdMany
  rw [rdNum_back (by omega)]
  dsimp only
  rw [if_neg (by omega)]
theorem readL_back {l : List De} (h : (Go.Proofs.YtahejekcfgkiaaaGreatDoor.objs.chk l).2 = 0) (more : List UInt8) : Go.Proofs.YtahejekcfgkiaaaGreatDoor.objs.readL ⟨Go.Proofs.YtahejekcfgkiaaaGreatDoor.objs.encL l ++ more, 0⟩ = (l, ⟨more, 0⟩, 0) := by
  obtain ⟨hl, _, hall⟩ := Go.Proofs.YtahejekcfgkiaaaGreatDoor.objs.chk_zero h
  have hn : Go.Proofs.YtahejekcfgkiaaaGreatDoor.objs.rdN ⟨Go.Proofs.YtahejekcfgkiaaaGreatDoor.objs.encL l ++ more, 0⟩ = ((l.length : Int), ⟨Go.Proofs.YtahejekcfgkiaaaGreatDoor.objs.encs l l.length ++ more, 0⟩) := by
    unfold Go.Proofs.YtahejekcfgkiaaaGreatDoor.objs.encL
    rw [List.append_assoc, Go.Proofs.YtahejekcfgkiaaaGreatDoor.objs.rdN_back (by omega)]
  have hL := Go.Proofs.YtahejekcfgkiaaaGreatDoor.objs.rdL_back hl hall l.length (Nat.le_refl _) more
  unfold Go.Proofs.YtahejekcfgkiaaaGreatDoor.objs.readL
  have h32 : ¬ (32 : Int) < (l.length : Int) := by omega
  simp only [hn, Int.toNat_natCast, hL, List.take_length, h, ne_eq, not_true_eq_false, if_false, if_neg h32]
theorem readW_back {d : List De} {w : List (List De)} (hd : (Go.Proofs.YtahejekcfgkiaaaGreatDoor.objs.chk d).2 = 0) (h : Go.Proofs.YtahejekcfgkiaaaGreatDoor.need.chkW d w = 0) (more : List UInt8) : Go.Proofs.YtahejekcfgkiaaaGreatDoor.need.readW d ⟨Go.Proofs.YtahejekcfgkiaaaGreatDoor.need.encW w ++ more, 0⟩ = (w, ⟨more, 0⟩, 0) := by
  obtain ⟨h0, h4, hall⟩ := Go.Proofs.YtahejekcfgkiaaaGreatDoor.need.chkW_zero h
  have hn : rdNum ⟨Go.Proofs.YtahejekcfgkiaaaGreatDoor.need.encW w ++ more, 0⟩ = (w.length, ⟨Go.Proofs.YtahejekcfgkiaaaGreatDoor.need.encWs w w.length ++ more, 0⟩) := by
    unfold Go.Proofs.YtahejekcfgkiaaaGreatDoor.need.encW
    rw [List.append_assoc, rdNum_back (by omega)]
  have hL := Go.Proofs.YtahejekcfgkiaaaGreatDoor.need.rdWays_back hd (fun l hl => (hall l hl).2) w.length (Nat.le_refl _) more
  unfold Go.Proofs.YtahejekcfgkiaaaGreatDoor.need.readW
  have h44 : ¬ 4 < w.length := by omega
  simp only [hn, hL, List.take_length, h, ne_eq, not_true_eq_false, if_false, if_neg h44]
theorem rdFn_back {rdI : St → De × St × Nat} (hI : ∀ x, chkI x = 0 → ∀ more, rdI ⟨encIn x ++ more, 0⟩ = (x, ⟨more, 0⟩, 0)) {f : Fn} (h : chkFn f = 0) (more : List UInt8) : rdFn rdI ⟨encFn f ++ more, 0⟩ = (f, ⟨more, 0⟩, 0) := by
  obtain ⟨⟨h1, h2, h3⟩, h4, h5, h6⟩ := chkFn_zero h
  obtain ⟨ar, lo, co⟩ := f
  dsimp only at h1 h2 h3 h4 h5 h6
  have ha : rdNum ⟨encFn ⟨ar, lo, co⟩ ++ more, 0⟩ = (ar.toNat, ⟨num lo.toNat ++ (num co.length ++ (encAll encIn zero co co.length ++ more)), 0⟩) := by
    unfold encFn
    simp only [List.append_assoc]
    rw [rdNum_back (by omega)]
  have hb : rdNum ⟨num lo.toNat ++ (num co.length ++ (encAll encIn zero co co.length ++ more)), 0⟩ = (lo.toNat, ⟨num co.length ++ (encAll encIn zero co co.length ++ more), 0⟩) := rdNum_back (by omega) _
  have hn := rdMany_back h5 (by omega) (encAll encIn zero co co.length ++ more)
  have hq := rdAll_back (rd := rdI) (e := encIn) (d := zero) (l := co) (fun x hx => hI x (h6 x hx)) co.length (Nat.le_refl _) more
  unfold rdFn
  simp only [ha, hb, hn, hq, List.take_length, ne_eq, not_true_eq_false, if_false]
  have e1 : ((min ar.toNat 2147483648 : Nat) : Int) = ar := by omega
  have e2 : ((min lo.toNat 2147483648 : Nat) : Int) = lo := by omega
  rw [e1, e2]
theorem back {rdI : St → De × St × Nat} (hI : ∀ x, chkI x = 0 → ∀ more, rdI ⟨encIn x ++ more, 0⟩ = (x, ⟨more, 0⟩, 0)) {p : Pg} (h : chkP p = 0) (more : List UInt8) : readP rdI (encP p ++ more) = if more ≠ [] then (Pg.none, 2) else (p, 0) := by
  obtain ⟨h1, h2, h3, h4, h5, h6⟩ := chkP_zero h
  obtain ⟨ds, ws, fs⟩ := p
  dsimp only at h1 h2 h3 h4 h5 h6
  have ht : (encP ⟨ds, ws, fs⟩ ++ more).take 3 = [76, 74, 1] := rfl
  have hd : (encP ⟨ds, ws, fs⟩ ++ more).drop 3 = Go.Proofs.YtahejekcfgkiaaaGreatDoor.objs.encL ds ++ (num ws.length ++ (encAll Go.Proofs.YtahejekcfgkiaaaGreatDoor.need.encW [] ws ws.length ++ (num fs.length ++ (encAll encFn Fn.zero fs fs.length ++ more)))) := by
    unfold encP
    simp only [List.append_assoc]
    rfl
  have hl := readL_back h1 (num ws.length ++ (encAll Go.Proofs.YtahejekcfgkiaaaGreatDoor.need.encW [] ws ws.length ++ (num fs.length ++ (encAll encFn Fn.zero fs fs.length ++ more))))
  have hn := rdMany_back h2 (by omega) (encAll Go.Proofs.YtahejekcfgkiaaaGreatDoor.need.encW [] ws ws.length ++ (num fs.length ++ (encAll encFn Fn.zero fs fs.length ++ more)))
  have hw := rdAll_back (rd := Go.Proofs.YtahejekcfgkiaaaGreatDoor.need.readW ds) (e := Go.Proofs.YtahejekcfgkiaaaGreatDoor.need.encW) (d := []) (l := ws) (fun x hx => readW_back h1 (h3 x hx)) ws.length (Nat.le_refl _) (num fs.length ++ (encAll encFn Fn.zero fs fs.length ++ more))
  have hm := rdMany_back h5 (by omega) (encAll encFn Fn.zero fs fs.length ++ more)
  have hf := rdAll_back (rd := rdFn rdI) (e := encFn) (d := Fn.zero) (l := fs) (fun x hx => rdFn_back hI (h6 x hx)) fs.length (Nat.le_refl _) more
  unfold readP
  simp only [ht, hd, hl, hn, hw, hm, hf, List.take_length, h, ne_eq, not_true_eq_false, if_false]
end Go.Proofs.YtahejekcfgkiaaaGreatDoor.pgm

/-
  What was got of bytes, put, is just the bytes that it had, and no bytes that end sooner are a program's. Plain mathematics; no condition.
-/
namespace Go.Proofs.YtahejekcfgkiaaaGreatDoor.pgm
open Go.Proofs.YtahejekcfgkiaaaGreatDoor.octet (St rdByte rdNum num num_length_le enc_length_pos)
open Go.Proofs.YtahejekcfgkiaaaGreatDoor.objs (De zero rdNum_back rdNum_once rdNum_err)
set_option linter.unusedVariables false

theorem rdMany_once {L : List UInt8} {most : Nat} (h : (rdMany ⟨L, 0⟩ most).2.2 = 0) : L = num (rdMany ⟨L, 0⟩ most).1 ++ (rdMany ⟨L, 0⟩ most).2.1.rest ∧ (rdMany ⟨L, 0⟩ most).2.1.err = 0 ∧ (rdMany ⟨L, 0⟩ most).1 ≤ most := by
  unfold rdMany at h ⊢
  split at h
  · cases h
  · rename_i h1
    rw [if_neg h1]
    exact ⟨rdNum_once h, h, by dsimp only; omega⟩
theorem readL_once {L : List UInt8} (h : (Go.Proofs.YtahejekcfgkiaaaGreatDoor.objs.readL ⟨L, 0⟩).2.2 = 0) : (Go.Proofs.YtahejekcfgkiaaaGreatDoor.objs.chk (Go.Proofs.YtahejekcfgkiaaaGreatDoor.objs.readL ⟨L, 0⟩).1).2 = 0 ∧ L = Go.Proofs.YtahejekcfgkiaaaGreatDoor.objs.encL (Go.Proofs.YtahejekcfgkiaaaGreatDoor.objs.readL ⟨L, 0⟩).1 ++ (Go.Proofs.YtahejekcfgkiaaaGreatDoor.objs.readL ⟨L, 0⟩).2.1.rest ∧ (Go.Proofs.YtahejekcfgkiaaaGreatDoor.objs.readL ⟨L, 0⟩).2.1.err = 0 := by
  unfold Go.Proofs.YtahejekcfgkiaaaGreatDoor.objs.readL at h ⊢
  dsimp only at h ⊢
  by_cases h1 : (Go.Proofs.YtahejekcfgkiaaaGreatDoor.objs.rdN ⟨L, 0⟩).2.err ≠ 0
  · simp only [if_pos h1] at h; exact absurd h h1
  · simp only [if_neg h1] at h ⊢
    by_cases h2 : 32 < (Go.Proofs.YtahejekcfgkiaaaGreatDoor.objs.rdN ⟨L, 0⟩).1
    · simp only [if_pos h2] at h; cases h
    · simp only [if_neg h2] at h ⊢
      have hn := Go.Proofs.YtahejekcfgkiaaaGreatDoor.objs.rdN_once (l := L) (by omega) (by omega)
      generalize Go.Proofs.YtahejekcfgkiaaaGreatDoor.objs.rdN ⟨L, 0⟩ = q at *
      obtain ⟨n, ⟨R, E⟩⟩ := q
      dsimp only at h h1 h2 hn ⊢
      obtain rfl : E = 0 := by omega
      by_cases h3 : (Go.Proofs.YtahejekcfgkiaaaGreatDoor.objs.rdL ⟨R, 0⟩ n.toNat).2.2 ≠ 0
      · simp only [if_pos h3] at h; exact absurd h h3
      · simp only [if_neg h3] at h ⊢
        by_cases h4 : (Go.Proofs.YtahejekcfgkiaaaGreatDoor.objs.chk (Go.Proofs.YtahejekcfgkiaaaGreatDoor.objs.rdL ⟨R, 0⟩ n.toNat).1).2 ≠ 0
        · simp only [if_pos h4] at h; exact absurd h h4
        · simp only [if_neg h4] at h ⊢
          have hlen := Go.Proofs.YtahejekcfgkiaaaGreatDoor.objs.rdL_length n.toNat (by omega : (Go.Proofs.YtahejekcfgkiaaaGreatDoor.objs.rdL ⟨R, 0⟩ n.toNat).2.2 = 0)
          obtain ⟨hl, _, hall⟩ := Go.Proofs.YtahejekcfgkiaaaGreatDoor.objs.chk_zero (by omega : (Go.Proofs.YtahejekcfgkiaaaGreatDoor.objs.chk (Go.Proofs.YtahejekcfgkiaaaGreatDoor.objs.rdL ⟨R, 0⟩ n.toNat).1).2 = 0)
          have ho := Go.Proofs.YtahejekcfgkiaaaGreatDoor.objs.rdL_once hl n.toNat R (by omega) (fun i hi => hall i (by omega))
          refine ⟨by omega, ?_, ho.2⟩
          unfold Go.Proofs.YtahejekcfgkiaaaGreatDoor.objs.encL
          rw [hlen, List.append_assoc, ← ho.1]
          exact hn
theorem readW_once {d : List De} {L : List UInt8} (hd : (Go.Proofs.YtahejekcfgkiaaaGreatDoor.objs.chk d).2 = 0) (h : (Go.Proofs.YtahejekcfgkiaaaGreatDoor.need.readW d ⟨L, 0⟩).2.2 = 0) : L = Go.Proofs.YtahejekcfgkiaaaGreatDoor.need.encW (Go.Proofs.YtahejekcfgkiaaaGreatDoor.need.readW d ⟨L, 0⟩).1 ++ (Go.Proofs.YtahejekcfgkiaaaGreatDoor.need.readW d ⟨L, 0⟩).2.1.rest ∧ (Go.Proofs.YtahejekcfgkiaaaGreatDoor.need.readW d ⟨L, 0⟩).2.1.err = 0 := by
  unfold Go.Proofs.YtahejekcfgkiaaaGreatDoor.need.readW at h ⊢
  dsimp only at h ⊢
  by_cases h2 : 4 < (rdNum ⟨L, 0⟩).1
  · simp only [if_pos h2] at h; cases h
  · simp only [if_neg h2] at h ⊢
    by_cases h1 : (rdNum ⟨L, 0⟩).2.err ≠ 0
    · simp only [if_pos h1] at h; exact absurd h h1
    · simp only [if_neg h1] at h ⊢
      have hn := rdNum_once (l := L) (by omega)
      generalize rdNum ⟨L, 0⟩ = q at *
      obtain ⟨n, ⟨R, E⟩⟩ := q
      dsimp only at h h1 h2 hn ⊢
      obtain rfl : E = 0 := by omega
      by_cases h3 : (Go.Proofs.YtahejekcfgkiaaaGreatDoor.need.rdWays ⟨R, 0⟩ n).2.2 ≠ 0
      · simp only [if_pos h3] at h; exact absurd h h3
      · simp only [if_neg h3] at h ⊢
        by_cases h4 : Go.Proofs.YtahejekcfgkiaaaGreatDoor.need.chkW d (Go.Proofs.YtahejekcfgkiaaaGreatDoor.need.rdWays ⟨R, 0⟩ n).1 ≠ 0
        · simp only [if_pos h4] at h; exact absurd h h4
        · simp only [if_neg h4] at h ⊢
          have hlen := Go.Proofs.YtahejekcfgkiaaaGreatDoor.need.rdWays_length n (by omega : (Go.Proofs.YtahejekcfgkiaaaGreatDoor.need.rdWays ⟨R, 0⟩ n).2.2 = 0)
          obtain ⟨_, _, hall⟩ := Go.Proofs.YtahejekcfgkiaaaGreatDoor.need.chkW_zero (by omega : Go.Proofs.YtahejekcfgkiaaaGreatDoor.need.chkW d (Go.Proofs.YtahejekcfgkiaaaGreatDoor.need.rdWays ⟨R, 0⟩ n).1 = 0)
          have ho := Go.Proofs.YtahejekcfgkiaaaGreatDoor.need.rdWays_once hd n R (by omega) (fun l hl => (hall l hl).2.2)
          refine ⟨?_, ho.2⟩
          unfold Go.Proofs.YtahejekcfgkiaaaGreatDoor.need.encW
          rw [hlen, List.append_assoc, ← ho.1]
          exact hn
/-- What reads an instruction reads just what was put, and of what it read the bytes are just those. -/
structure Reads (rdI : St → De × St × Nat) : Prop where
  back : ∀ x, chkI x = 0 → ∀ more, rdI ⟨encIn x ++ more, 0⟩ = (x, ⟨more, 0⟩, 0)
  once : ∀ L, (rdI ⟨L, 0⟩).2.2 = 0 → L = encIn (rdI ⟨L, 0⟩).1 ++ (rdI ⟨L, 0⟩).2.1.rest ∧ (rdI ⟨L, 0⟩).2.1.err = 0
theorem rdFn_once {rdI : St → De × St × Nat} (hI : Reads rdI) {L : List UInt8} (he : (rdFn rdI ⟨L, 0⟩).2.2 = 0) (h : chkFn (rdFn rdI ⟨L, 0⟩).1 = 0) : L = encFn (rdFn rdI ⟨L, 0⟩).1 ++ (rdFn rdI ⟨L, 0⟩).2.1.rest ∧ (rdFn rdI ⟨L, 0⟩).2.1.err = 0 := by
  unfold rdFn at he h ⊢
  dsimp only at he h ⊢
  by_cases h1 : (rdNum (rdNum ⟨L, 0⟩).2).2.err ≠ 0
  · rw [if_pos h1] at he; exact absurd he h1
  · rw [if_neg h1] at he h ⊢
    by_cases h2 : (rdMany (rdNum (rdNum ⟨L, 0⟩).2).2 200).2.2 ≠ 0
    · rw [if_pos h2] at he; exact absurd he h2
    · rw [if_neg h2] at he h ⊢
      by_cases h3 : (rdAll rdI (rdMany (rdNum (rdNum ⟨L, 0⟩).2).2 200).2.1 (rdMany (rdNum (rdNum ⟨L, 0⟩).2).2 200).1).2.2 ≠ 0
      · rw [if_pos h3] at he; exact absurd he h3
      · rw [if_neg h3] at h ⊢
        dsimp only at h ⊢
        obtain ⟨⟨g1, g2, g3⟩, _, _, _⟩ := chkFn_zero h
        dsimp only at g1 g2 g3
        clear h he
        have hA : (rdNum ⟨L, 0⟩).2.err = 0 := by
          rcases Nat.eq_zero_or_pos (rdNum ⟨L, 0⟩).2.err with e | e
          · exact e
          · rw [rdNum_err (by omega)] at h1; omega
        have ha := rdNum_once hA
        generalize rdNum ⟨L, 0⟩ = q at *
        obtain ⟨a, ⟨R, E⟩⟩ := q
        dsimp only at hA ha h1 h2 h3 g1 g2 g3 ⊢
        subst hA
        have hb := rdNum_once (l := R) (by omega)
        generalize rdNum ⟨R, 0⟩ = q at *
        obtain ⟨b, ⟨R2, E⟩⟩ := q
        dsimp only at hb h1 h2 h3 g1 g2 g3 ⊢
        obtain rfl : E = 0 := by omega
        obtain ⟨hn, hn0, _⟩ := rdMany_once (L := R2) (most := 200) (by omega)
        generalize rdMany ⟨R2, 0⟩ 200 = q at *
        obtain ⟨n, ⟨R3, E⟩, e3⟩ := q
        dsimp only at hn hn0 h2 h3 ⊢
        subst hn0
        have hq := rdAll_once (rd := rdI) (e := encIn) (d := zero) (ok := fun _ => True) (fun L2 h2 _ => hI.once L2 h2) n R3 (by omega) (fun _ _ => trivial)
        have hlen := rdAll_length n (by omega : (rdAll rdI ⟨R3, 0⟩ n).2.2 = 0)
        refine ⟨?_, hq.2⟩
        unfold encFn
        dsimp only
        rw [hlen]
        simp only [List.append_assoc]
        rw [← hq.1, ← hn]
        have e1 : ((min a 2147483648 : Nat) : Int).toNat = a := by omega
        have e2 : ((min b 2147483648 : Nat) : Int).toNat = b := by omega
        rw [e1, e2, ← hb, ← ha]
theorem once {rdI : St → De × St × Nat} (hI : Reads rdI) {t : List UInt8} (h : (readP rdI t).2 = 0) : chkP (readP rdI t).1 = 0 ∧ encP (readP rdI t).1 = t := by
  unfold readP at h ⊢
  dsimp only at h ⊢
  by_cases h0 : t.take 3 ≠ [76, 74, 1]
  · rw [if_pos h0] at h; cases h
  · rw [if_neg h0] at h ⊢
    have h0' : t.take 3 = [76, 74, 1] := Classical.byContradiction h0
    have ht : t = [76, 74, 1] ++ t.drop 3 := by rw [← h0', List.take_append_drop]
    clear h0 h0'
    generalize t.drop 3 = r at *
    by_cases h1 : (Go.Proofs.YtahejekcfgkiaaaGreatDoor.objs.readL ⟨r, 0⟩).2.2 ≠ 0
    · rw [if_pos h1] at h; exact absurd h h1
    · rw [if_neg h1] at h ⊢
      obtain ⟨hl0, hl, hle⟩ := readL_once (L := r) (by omega)
      generalize Go.Proofs.YtahejekcfgkiaaaGreatDoor.objs.readL ⟨r, 0⟩ = q at *
      obtain ⟨ds, ⟨R, E⟩, e1⟩ := q
      dsimp only at h h1 hl0 hl hle ⊢
      subst hle
      by_cases h2 : (rdMany ⟨R, 0⟩ 32).2.2 ≠ 0
      · rw [if_pos h2] at h; exact absurd h h2
      · rw [if_neg h2] at h ⊢
        obtain ⟨hn, hn0, _⟩ := rdMany_once (L := R) (most := 32) (by omega)
        generalize rdMany ⟨R, 0⟩ 32 = q at *
        obtain ⟨n, ⟨R2, E⟩, e2⟩ := q
        dsimp only at h hn hn0 h2 ⊢
        subst hn0
        by_cases h3 : (rdAll (Go.Proofs.YtahejekcfgkiaaaGreatDoor.need.readW ds) ⟨R2, 0⟩ n).2.2 ≠ 0
        · rw [if_pos h3] at h; exact absurd h h3
        · rw [if_neg h3] at h ⊢
          have hw := rdAll_once (rd := Go.Proofs.YtahejekcfgkiaaaGreatDoor.need.readW ds) (e := Go.Proofs.YtahejekcfgkiaaaGreatDoor.need.encW) (d := []) (ok := fun _ => True) (fun L2 h2 _ => readW_once hl0 h2) n R2 (by omega) (fun _ _ => trivial)
          have hwl := rdAll_length n (by omega : (rdAll (Go.Proofs.YtahejekcfgkiaaaGreatDoor.need.readW ds) ⟨R2, 0⟩ n).2.2 = 0)
          generalize rdAll (Go.Proofs.YtahejekcfgkiaaaGreatDoor.need.readW ds) ⟨R2, 0⟩ n = q at *
          obtain ⟨ws, ⟨R3, E⟩, e3⟩ := q
          dsimp only at h hw hwl h3 ⊢
          obtain ⟨hw, hw0⟩ := hw
          subst hw0
          by_cases h4 : (rdMany ⟨R3, 0⟩ 16).2.2 ≠ 0
          · rw [if_pos h4] at h; exact absurd h h4
          · rw [if_neg h4] at h ⊢
            obtain ⟨hm, hm0, _⟩ := rdMany_once (L := R3) (most := 16) (by omega)
            generalize rdMany ⟨R3, 0⟩ 16 = q at *
            obtain ⟨m, ⟨R4, E⟩, e4⟩ := q
            dsimp only at h hm hm0 h4 ⊢
            subst hm0
            by_cases h5 : (rdAll (rdFn rdI) ⟨R4, 0⟩ m).2.2 ≠ 0
            · rw [if_pos h5] at h; exact absurd h h5
            · rw [if_neg h5] at h ⊢
              by_cases h6 : (rdAll (rdFn rdI) ⟨R4, 0⟩ m).2.1.rest ≠ []
              · rw [if_pos h6] at h; cases h
              · rw [if_neg h6] at h ⊢
                by_cases h7 : chkP ⟨ds, ws, (rdAll (rdFn rdI) ⟨R4, 0⟩ m).1⟩ ≠ 0
                · rw [if_pos h7] at h; exact absurd h h7
                · rw [if_neg h7]
                  dsimp only
                  have h7' : chkP ⟨ds, ws, (rdAll (rdFn rdI) ⟨R4, 0⟩ m).1⟩ = 0 := by omega
                  have h6' : (rdAll (rdFn rdI) ⟨R4, 0⟩ m).2.1.rest = [] := Classical.byContradiction h6
                  obtain ⟨_, _, _, _, _, hall⟩ := chkP_zero h7'
                  have hf := (rdAll_once (rd := rdFn rdI) (e := encFn) (d := Fn.zero) (ok := fun f => chkFn f = 0) (fun L2 h2 h3 => rdFn_once hI h2 h3) m R4 (by omega) hall).1
                  have hfl := rdAll_length m (by omega : (rdAll (rdFn rdI) ⟨R4, 0⟩ m).2.2 = 0)
                  refine ⟨h7', ?_⟩
                  rw [h6', List.append_nil] at hf
                  unfold encP
                  dsimp only
                  rw [hwl, hfl, ← hf, ← hm, ← hw, ← hn, ← hl, ← ht]
/-- No bytes that end sooner are a program's. -/
theorem sooner {rdI : St → De × St × Nat} (hI : Reads rdI) {p : Pg} (h : chkP p = 0) {s more : List UInt8} (hs : encP p = s ++ more) (hm : more ≠ []) : (readP rdI s).2 ≠ 0 := by
  intro hz
  obtain ⟨h1, h2⟩ := once hI hz
  have h3 := back hI.back h1 more
  rw [h2, ← hs, if_pos hm] at h3
  have h4 := back hI.back h []
  rw [List.append_nil, h3, if_neg (by simp)] at h4
  cases h4
theorem got_bad {rdI : St → De × St × Nat} {t : List UInt8} (h : (readP rdI t).2 ≠ 0) : (readP rdI t).1 = Pg.none := by
  unfold readP at h ⊢
  dsimp only at h ⊢
  split
  · rfl
  · split
    · rfl
    · split
      · rfl
      · split
        · rfl
        · split
          · rfl
          · split
            · rfl
            · split
              · rfl
              · split
                · rfl
                · rename_i a1 a2 a3 a4 a5 a6 a7 a8
                  rw [if_neg a1, if_neg a2, if_neg a3, if_neg a4, if_neg a5, if_neg a6, if_neg a7, if_neg a8] at h
                  exact absurd rfl h
end Go.Proofs.YtahejekcfgkiaaaGreatDoor.pgm

/-
  What the statements make of their own arguments: objects and waits in memory of their own, and whether objects may be. No condition but that lengths are ints.
-/
namespace Go.Proofs.YtahejekcfgkiaaaGreatDoor.need
open Go.RowKit Go.ChangeShapes
open Go.Proofs.YtahejekcfgkiaaaGreatDoor.objs (De zero CellsAt DAt chk chk_long chk_zero Own own_new own_copy wpList_appD LIn Ints I64 ChkPost refCheck_any refCheck_long)
set_option linter.unusedVariables false

def DeclPost (l : List De) (w : World) (e : Ending) (w' : World) : Prop := ∃ A2 c2, e = .returned (.slice A2 l.length c2) ∧ DAt w' A2 l ∧ Below w.heap.size w w'
def BadPost (l : List De) (w : World) (e : Ending) (w' : World) : Prop := e = .returned (.bool (decide ((chk l).2 ≠ 0))) ∧ Below w.heap.size w w'
/-- A wait that came in: the first six of its ways, of each the first six needs, all of ints. -/
def WIn (w : World) (A : Option Addr) (n cap : Nat) (l : List (List De)) : Prop := (A = none → n = 0 ∧ cap = 0) ∧ n ≤ cap ∧ cap ≤ 9223372036854775807 ∧ WG w A n l ∧ ∀ x ∈ l, ∀ t ∈ x, Small t
theorem OwnW.whole {W : World} {base n cap : Nat} {A : Option Addr} {l : List (List De)} (h : OwnW W base (.slice A n cap) l) (hl : l.length ≤ 6) (hll : ∀ x ∈ l, x.length ≤ 6) : WG W A l.length l := by
  refine ⟨by omega, fun j hj => ?_⟩
  obtain ⟨xs, h1, h2⟩ := h
  obtain ⟨x, h3, h4⟩ := h2 j hj
  have h6 := hll _ (getW_mem hj)
  rcases h1.2 with ⟨e, h0⟩ | ⟨g, cap', cur, e, hb, hh, _⟩
  · omega
  · injection e with e1 e2 e3
    subst e1
    have hcell : W.cell? ⟨g, 0 + j, none⟩ = some x := by
      have := World.ownsRow.cells h1 (g := g) rfl _ _ h3
      rwa [Addr.add_lit] at this
    rcases h4.2 with ⟨rfl, h0⟩ | ⟨g', c', cur', rfl, hb', hh', hn, hm, _⟩
    · refine ⟨g, 0, none, 0, 0, rfl, lt_of_block hh, hcell, ?_, by omega, Nat.le_refl _, by omega, fun _ => ⟨rfl, rfl⟩⟩
      have := List.length_eq_zero_iff.1 h0
      rw [this]
      exact Go.Proofs.YtahejekcfgkiaaaGreatDoor.objs.DAt.nil _ _
    · refine ⟨g, 0, some ⟨g', 0, none⟩, (l.getD j []).length, c', rfl, lt_of_block hh, hcell, h4.at, by omega, hn, by simpa [maxLen] using hm, fun h => by cases h⟩
theorem WG.short {w : World} {A : Option Addr} {n : Nat} {l : List (List De)} (h : WG w A n l) : l.length ≤ 6 ∧ ∀ x ∈ l, x.length ≤ 6 := by
  refine ⟨by have := h.1; omega, fun x hx => ?_⟩
  obtain ⟨j, hj, rfl⟩ := List.getElem_of_mem hx
  obtain ⟨_, _, _, nj, _, _, _, _, _, h5, _⟩ := h.2 j hj
  rw [List.getD_eq_getElem?_getD, List.getElem?_eq_getElem hj, Option.getD_some] at h5
  omega
def OwnPost (l : List (List De)) (w : World) (e : Ending) (w' : World) : Prop := ∃ A2 c2, e = .returned (.slice A2 l.length c2) ∧ WAt w' A2 l ∧ WG w' A2 l.length l ∧ Below w.heap.size w w'
/-- The same, and that its rows are the call's own. -/
def OwnMore (l : List (List De)) (w : World) (e : Ending) (w' : World) : Prop := ∃ A2 c2, e = .returned (.slice A2 l.length c2) ∧ OwnW w' w.heap.size (.slice A2 l.length c2) l ∧ Below w.heap.size w w'
theorem ownN_new (W : World) : OwnN (W.alloc (.cells #[] 93)) W.heap.size (.slice (some ⟨W.heap.size, 0, none⟩) 0 0) [] := OwnN.empty (heap_alloc_new W _)
/-- Behind the copy of a way. -/
theorem ownN_copy {W W2 : World} {v2 : Value} {l : List De} {r : Option Nat} (h1 : OwnN W2 W.heap.size v2 l) (hg : (W.alloc (.cells #[] 93)).grownBy W2 r) (hr : ∀ k, r = some k → k = W.heap.size) : Below W.heap.size W W2 :=
  ((Below.refl _ W).alloc (Nat.le_refl _) _).grown hg (by simp) (fun k e => by rw [hr k e]; exact Nat.le_refl _)
theorem take_more {l : List (List De)} {j : Nat} (h : j < l.length) : l.take (j + 1) = l.take j ++ [l.getD j []] := by
  rw [List.take_add_one, List.getD_eq_getElem?_getD, List.getElem?_eq_getElem h]
  rfl

set_option maxRecDepth 100000 in
set_option maxHeartbeats 8000000 in
theorem own_more (A : Option Addr) (n cap : Nat) (l : List (List De)) (hn : n ≤ 9223372036854775807) (w : World) (hA : WG w A n l) :
    Calls Tryz.prog 15 #[.slice A n cap] w (OwnMore l w) := by
  have HMin := Lib.hid hA.1
  have HSh := Lib.hid hA.short
  have HA := Lib.hid hA
  unfold OwnMore
  clear hA
  go_enter Tryz.func15, Tryz.ntmps15
  have hb0 : Below w.heap.size w (w.alloc (.cells #[] 89)) := (Below.refl _ w).alloc (Nat.le_refl _) _
  have HO0 : Hid (OwnW (w.alloc (.cells #[] 89)) w.heap.size (.slice (some ⟨w.heap.size, 0, none⟩) 0 0) []) := Lib.hid (OwnW.empty (heap_alloc_new w _))
  have HB0 := Lib.hid hb0
  clear hb0
  go_wp2_with fail
  generalize w.alloc (.cells #[] 89) = W0 at *
  go_loopw [3, 4] (fun o i wr => ∃ j : Nat, j ≤ l.length ∧ i = .int .i64 (j : Int) ∧ Hid (OwnW wr w.heap.size o (l.take j)) ∧ Hid (Below w.heap.size w wr)) (fun _ i _ => l.length - (intOf i).toNat)
  case atStart => exact ⟨0, Nat.zero_le _, rfl, HO0, HB0⟩
  case round =>
    obtain ⟨j, hj, rfl, HO, HB⟩ := hrel
    obtain ⟨Ao, co, ho⟩ := HO.out.slice
    have htl : (l.take j).length = j := by rw [List.length_take]; omega
    rw [htl] at ho
    subst ho
    by_cases hlt : j < l.length
    · obtain ⟨b, off, Aj, nj, cj, rfl, hbl, hc, hdj, hmj, hnc, hcm, hno⟩ := (HA.out.next HB.out).2 j hlt
      have HT := Lib.hid (take_more hlt)
      have hlt' : (j : Int) < (n : Int) := by have := HMin.out; omega
      have hlt6 : (j : Int) < 6 := by have := HMin.out; omega
      have hj0 : (0 : Int) ≤ (j : Int) := by omega
      have hj6 : j ≤ 5 := by have := HMin.out; omega
      have hl1 : (l.take j).length ≤ 6 := by omega
      generalize l.getD j [] = lj at *
      generalize l.take j = lt at *
      have hA1 := hdj.next ((Below.refl _ _).alloc (Nat.le_refl _) (.cells #[] 93))
      by_cases h6 : 6 < nj
      · have q6 : decide ((6 : Int) < (nj : Int)) = true := by simp; omega
        obtain ⟨a2, o2, rfl, hbl2, _⟩ := hdj 0 (by omega)
        have hl6 : lj.length = 6 := by omega
        have hc6 : (6 : Int) ≤ (cj : Int) := by omega
        have HBx := Lib.hid (show w.heap.size ≤ wr.heap.size from HB.out.size)
        clear hno hmj
        go_wp2_with (
          at_builtin
          refine wpList_appN (by rfl) (.tmp 27) (.tmp 28) (by rfl) wr.heap.size 6 cj (.slice (some ⟨wr.heap.size, 0, none⟩) 0 0) (some ⟨a2, o2, none⟩) [] lj (by rfl) (ownN_new wr) (by rfl) hl6.symm (fun h => by cases h) hA1 (by simp; omega) (by simp) ?_)
        intro v2 W2 hv2 hg2
        have hb2 := ownN_copy hv2 hg2 (fun k e => by simpa [Value.ownBlock] using e.symm)
        have hO2 := HO.out.next hb2
        have hx2 := hv2.base HBx.out
        obtain ⟨Av, cv, hve⟩ := hv2.slice
        rw [hl6] at hve
        subst hve
        have HB2 := Lib.hid (HB.out.trans (hb2.mono HB.out.size))
        clear hv2 hg2 hA1 hc
        go_wp2_with (
          at_builtin
          refine wpList_appW (w := W2) (by rfl) (.tmp 26) (.tmp 30) (by rfl) w.heap.size 1 (.slice Ao j co) _ lt lj (by rfl) hO2 (by rfl) hx2 (by rfl) (by omega) (HB2.out.size) ?_)
        intro v3 W3 hv3 hg3
        have HO3 := Lib.hid hv3
        have HB3 : Hid (Below w.heap.size w W3) := Lib.hid ((HB2.out.alloc HB2.out.size _).grown hg3 (by simp; have := HB2.out.size; omega) (fun k e => by
          obtain ⟨xs, h1, _⟩ := hO2
          exact (World.ownsRow.lt h1 k e).1))
        clear hv3 hg3 hO2 hx2
        go_wp2
        go_roundw
        case rel => exact ⟨j + 1, by omega, by go_num, by rw [HT.out]; exact HO3, HB3⟩
        case measure => simp [intOf]; omega
      · have q6 : decide ((6 : Int) < (nj : Int)) = false := by simp; omega
        obtain rfl : nj = lj.length := by omega
        have hno2 : Aj = none → lj = [] ∧ cj = 0 := fun h => ⟨List.length_eq_zero_iff.1 (hno h).1, (hno h).2⟩
        have HBx := Lib.hid (show w.heap.size ≤ wr.heap.size from HB.out.size)
        clear hno hmj
        go_wp2_with (
          at_builtin
          refine wpList_appN (by rfl) (.tmp 27) (.tmp 28) (by rfl) wr.heap.size lj.length cj (.slice (some ⟨wr.heap.size, 0, none⟩) 0 0) Aj [] lj (by rfl) (ownN_new wr) (by rfl) rfl hno2 hA1 (by simp; omega) (by simp) ?_)
        intro v2 W2 hv2 hg2
        have hb2 := ownN_copy hv2 hg2 (fun k e => by simpa [Value.ownBlock] using e.symm)
        have hO2 := HO.out.next hb2
        have hx2 := hv2.base HBx.out
        obtain ⟨Av, cv, rfl⟩ := hv2.slice
        have HB2 := Lib.hid (HB.out.trans (hb2.mono HB.out.size))
        clear hv2 hg2 hA1 hc
        go_wp2_with (
          at_builtin
          refine wpList_appW (w := W2) (by rfl) (.tmp 26) (.tmp 30) (by rfl) w.heap.size 1 (.slice Ao j co) _ lt lj (by rfl) hO2 (by rfl) hx2 (by rfl) (by omega) (HB2.out.size) ?_)
        intro v3 W3 hv3 hg3
        have HO3 := Lib.hid hv3
        have HB3 : Hid (Below w.heap.size w W3) := Lib.hid ((HB2.out.alloc HB2.out.size _).grown hg3 (by simp; have := HB2.out.size; omega) (fun k e => by
          obtain ⟨xs, h1, _⟩ := hO2
          exact (World.ownsRow.lt h1 k e).1))
        clear hv3 hg3 hO2 hx2
        go_wp2
        go_roundw
        case rel => exact ⟨j + 1, by omega, by go_num, by rw [HT.out]; exact HO3, HB3⟩
        case measure => simp [intOf]; omega
    · obtain rfl : j = l.length := by omega
      have hall : l.take l.length = l := List.take_length
      rw [hall] at HO
      have hmin := HMin.out
      by_cases hn6 : l.length < n
      · have q1 : (l.length : Int) < (n : Int) := by omega
        have q2 : ¬ (l.length : Int) < 6 := by omega
        have q3 : decide ((l.length : Int) < 6) = false := by simpa using q2
        clear hmin
        go_wp2_with fail
        go_ret
        exact ⟨Ao, co, rfl, HO.out, HB.out⟩
      · have q1 : decide ((l.length : Int) < (n : Int)) = false := by simp; omega
        clear hmin
        go_wp2_with fail
        go_ret
        exact ⟨Ao, co, rfl, HO.out, HB.out⟩
theorem own_any (A : Option Addr) (n cap : Nat) (l : List (List De)) (hn : n ≤ 9223372036854775807) (w : World) (hA : WG w A n l) :
    Calls Tryz.prog 15 #[.slice A n cap] w (OwnPost l w) :=
  (own_more A n cap l hn w hA).mono fun e w' ⟨A2, c2, h1, h2, h3⟩ => ⟨A2, c2, h1, h2.at, h2.whole hA.short.1 hA.short.2, h3⟩
end Go.Proofs.YtahejekcfgkiaaaGreatDoor.need

/-
  Functions, waits and programs as they lie in memory, wherever they came from. No condition.
-/
namespace Go.Proofs.YtahejekcfgkiaaaGreatDoor.pgm
open Go.RowKit Go.ChangeShapes
open Go.Proofs.YtahejekcfgkiaaaGreatDoor.objs (De zero DAt I64 Ints)
open Go.Proofs.YtahejekcfgkiaaaGreatDoor.need (WAt WG WIn Small)
set_option linter.unusedVariables false

/-- The three cells of a function: its arguments, its locals, its code's slice. -/
def FCells (w : World) (b i : Nat) (ar lo : Int) (v : Value) : Prop := w.cell? ⟨b, i, none⟩ = some (.int .i64 ar) ∧ w.cell? ⟨b, i + 1, none⟩ = some (.int .i64 lo) ∧ w.cell? ⟨b, i + 2, none⟩ = some v
theorem FCells.keep {w w' : World} {b i : Nat} {ar lo : Int} {v : Value} (h : FCells w b i ar lo v) (hb : w'.heap[b]? = w.heap[b]?) : FCells w' b i ar lo v :=
  ⟨(World.cell?_of_block (a := ⟨b, i, none⟩) hb).trans h.1, (World.cell?_of_block (a := ⟨b, i + 1, none⟩) hb).trans h.2.1, (World.cell?_of_block (a := ⟨b, i + 2, none⟩) hb).trans h.2.2⟩
/-- Functions, one behind the other, from where a slice begins: all of each. -/
def FsAt (w : World) (A : Option Addr) (l : List Fn) : Prop :=
  ∀ j, j < l.length → ∃ b off Aj cj, A = some ⟨b, off, none⟩ ∧ b < w.heap.size ∧ FCells w b (off + j * 3) (l.getD j Fn.zero).ar (l.getD j Fn.zero).lo (.slice Aj (l.getD j Fn.zero).co.length cj) ∧ DAt w Aj (l.getD j Fn.zero).co
theorem FsAt.next {w w' : World} {A : Option Addr} {l : List Fn} (h : FsAt w A l) (hb : Below w.heap.size w w') : FsAt w' A l := fun j hj => by
  obtain ⟨b, off, Aj, cj, h1, h2, h3, h4⟩ := h j hj
  exact ⟨b, off, Aj, cj, h1, Nat.lt_of_lt_of_le h2 hb.size, h3.keep (hb.block b h2), h4.next hb⟩
theorem FsAt.nil (w : World) (A : Option Addr) : FsAt w A [] := fun j hj => absurd hj (Nat.not_lt_zero j)
/-- The first twenty functions of a slice, of each the first 250 instructions. -/
def FsG (w : World) (A : Option Addr) (n : Nat) (l : List Fn) : Prop :=
  l.length = min n 20 ∧ ∀ j, j < l.length → ∃ b off Aj nj cj, A = some ⟨b, off, none⟩ ∧ b < w.heap.size ∧ FCells w b (off + j * 3) (l.getD j Fn.zero).ar (l.getD j Fn.zero).lo (.slice Aj nj cj) ∧ DAt w Aj (l.getD j Fn.zero).co ∧ (l.getD j Fn.zero).co.length = min nj 250 ∧ nj ≤ cj ∧ cj ≤ 9223372036854775807 ∧ (Aj = none → nj = 0 ∧ cj = 0)
theorem FsG.next {w w' : World} {A : Option Addr} {n : Nat} {l : List Fn} (h : FsG w A n l) (hb : Below w.heap.size w w') : FsG w' A n l := ⟨h.1, fun j hj => by
  obtain ⟨b, off, Aj, nj, cj, h1, h2, h3, h4, h5⟩ := h.2 j hj
  exact ⟨b, off, Aj, nj, cj, h1, Nat.lt_of_lt_of_le h2 hb.size, h3.keep (hb.block b h2), h4.next hb, h5⟩⟩
/-- Waits, one behind the other, from where a slice begins: all of each. -/
def WsAt (w : World) (A : Option Addr) (l : List (List (List De))) : Prop :=
  ∀ j, j < l.length → ∃ b off Aj cj, A = some ⟨b, off, none⟩ ∧ b < w.heap.size ∧ w.cell? ⟨b, off + j, none⟩ = some (.slice Aj (l.getD j []).length cj) ∧ WAt w Aj (l.getD j [])
theorem WsAt.next {w w' : World} {A : Option Addr} {l : List (List (List De))} (h : WsAt w A l) (hb : Below w.heap.size w w') : WsAt w' A l := fun j hj => by
  obtain ⟨b, off, Aj, cj, h1, h2, h3, h4⟩ := h j hj
  exact ⟨b, off, Aj, cj, h1, Nat.lt_of_lt_of_le h2 hb.size, (hb.cell (p := ⟨b, off + j, none⟩) h2).trans h3, h4.next hb⟩
theorem WsAt.nil (w : World) (A : Option Addr) : WsAt w A [] := fun j hj => absurd hj (Nat.not_lt_zero j)
/-- The first forty waits of a slice, of each the first six ways, of each the first six needs. -/
def WsG (w : World) (A : Option Addr) (n : Nat) (l : List (List (List De))) : Prop :=
  l.length = min n 40 ∧ ∀ j, j < l.length → ∃ b off Aj nj cj, A = some ⟨b, off, none⟩ ∧ b < w.heap.size ∧ w.cell? ⟨b, off + j, none⟩ = some (.slice Aj nj cj) ∧ WG w Aj nj (l.getD j []) ∧ nj ≤ cj ∧ cj ≤ 9223372036854775807 ∧ (Aj = none → nj = 0 ∧ cj = 0)
theorem WsG.next {w w' : World} {A : Option Addr} {n : Nat} {l : List (List (List De))} (h : WsG w A n l) (hb : Below w.heap.size w w') : WsG w' A n l := ⟨h.1, fun j hj => by
  obtain ⟨b, off, Aj, nj, cj, h1, h2, h3, h4, h5⟩ := h.2 j hj
  exact ⟨b, off, Aj, nj, cj, h1, Nat.lt_of_lt_of_le h2 hb.size, (hb.cell (p := ⟨b, off + j, none⟩) h2).trans h3, h4.next hb, h5⟩⟩
/-- A program's value that is whole, and one that came in, of any length. -/
def PAt (w : World) (v : Value) (p : Pg) : Prop := ∃ A B C ca cb cc, v = .agg #[.slice A p.ds.length ca, .slice B p.ws.length cb, .slice C p.fs.length cc] ∧ DAt w A p.ds ∧ WsAt w B p.ws ∧ FsAt w C p.fs
theorem PAt.next {w w' : World} {v : Value} {p : Pg} (h : PAt w v p) (hb : Below w.heap.size w w') : PAt w' v p := by
  obtain ⟨A, B, C, ca, cb, cc, h1, h2, h3, h4⟩ := h
  exact ⟨A, B, C, ca, cb, cc, h1, h2.next hb, h3.next hb, h4.next hb⟩
def PG (w : World) (v : Value) (p : Pg) : Prop := ∃ A B C na nb nc ca cb cc, v = .agg #[.slice A na ca, .slice B nb cb, .slice C nc cc] ∧ p.ds.length = min na 40 ∧ DAt w A p.ds ∧ WsG w B nb p.ws ∧ FsG w C nc p.fs ∧ (A = none → na = 0 ∧ ca = 0) ∧ (B = none → nb = 0 ∧ cb = 0) ∧ (C = none → nc = 0 ∧ cc = 0) ∧ (na ≤ ca ∧ ca ≤ 9223372036854775807) ∧ (nb ≤ cb ∧ cb ≤ 9223372036854775807) ∧ (nc ≤ cc ∧ cc ≤ 9223372036854775807)
theorem PG.next {w w' : World} {v : Value} {p : Pg} (h : PG w v p) (hb : Below w.heap.size w w') : PG w' v p := by
  obtain ⟨A, B, C, na, nb, nc, ca, cb, cc, h1, h0, h2, h3, h4, h5⟩ := h
  exact ⟨A, B, C, na, nb, nc, ca, cb, cc, h1, h0, h2.next hb, h3.next hb, h4.next hb, h5⟩
/-- A program of which the first forty objects and waits, and the first twenty functions, lie there: the caps of its own lists are left open. -/
def PH (w : World) (v : Value) (p : Pg) : Prop := ∃ A B C na nb nc ca cb cc, v = .agg #[.slice A na ca, .slice B nb cb, .slice C nc cc] ∧ p.ds.length = min na 40 ∧ DAt w A p.ds ∧ WsG w B nb p.ws ∧ FsG w C nc p.fs ∧ na ≤ 9223372036854775807 ∧ nb ≤ 9223372036854775807 ∧ nc ≤ 9223372036854775807
theorem PH.next {w w' : World} {v : Value} {p : Pg} (h : PH w v p) (hb : Below w.heap.size w w') : PH w' v p := by
  obtain ⟨A, B, C, na, nb, nc, ca, cb, cc, h1, h0, h2, h3, h4, h5⟩ := h
  exact ⟨A, B, C, na, nb, nc, ca, cb, cc, h1, h0, h2.next hb, h3.next hb, h4.next hb, h5⟩
theorem PG.head {w : World} {v : Value} {p : Pg} (h : PG w v p) : PH w v p := by
  obtain ⟨A, B, C, na, nb, nc, ca, cb, cc, h1, h0, h2, h3, h4, _, _, _, h5, h6, h7⟩ := h
  exact ⟨A, B, C, na, nb, nc, ca, cb, cc, h1, h0, h2, h3, h4, by omega, by omega, by omega⟩
/-- One that may be is there whole. -/
theorem FsG.whole {w : World} {A : Option Addr} {n : Nat} {l : List Fn} (h : FsG w A n l) (hl : l.length ≤ 16) (hw : ∀ f ∈ l, f.co.length ≤ 200) : n = l.length ∧ FsAt w A l := by
  refine ⟨by have := h.1; omega, fun j hj => ?_⟩
  obtain ⟨b, off, Aj, nj, cj, h1, h2, h3, h4, h5, _, _, h6⟩ := h.2 j hj
  have hm := hw _ (getD_in (d := Fn.zero) hj)
  have : nj = (l.getD j Fn.zero).co.length := by omega
  subst this
  exact ⟨b, off, Aj, cj, h1, h2, h3, h4⟩
theorem WsG.whole {w : World} {A : Option Addr} {n : Nat} {l : List (List (List De))} (h : WsG w A n l) (hl : l.length ≤ 32) (hw : ∀ x ∈ l, x.length ≤ 4 ∧ ∀ y ∈ x, y.length ≤ 4) : n = l.length ∧ WsAt w A l := by
  refine ⟨by have := h.1; omega, fun j hj => ?_⟩
  obtain ⟨b, off, Aj, nj, cj, h1, h2, h3, h4, _⟩ := h.2 j hj
  have hm := hw _ (getD_in (d := []) hj)
  obtain ⟨e, h5⟩ := h4.whole (by omega) (fun y hy => by have := hm.2 y hy; omega)
  subst e
  exact ⟨b, off, Aj, cj, h1, h2, h3, h5⟩
theorem PG.whole {w : World} {v : Value} {p : Pg} (h : PG w v p) (hz : chkP p = 0) : PAt w v p := by
  obtain ⟨A, B, C, na, nb, nc, ca, cb, cc, rfl, h0, h2, h3, h4, a1, a2, a3, b1, b2, b3⟩ := h
  obtain ⟨g1, g2, g3, g4, g5, g6⟩ := chkP_zero hz
  have g0 := (Go.Proofs.YtahejekcfgkiaaaGreatDoor.objs.chk_zero g1).1
  obtain rfl : na = p.ds.length := by omega
  obtain ⟨e1, h5⟩ := h3.whole g2 (fun x hx => by
    obtain ⟨_, q1, q2⟩ := Go.Proofs.YtahejekcfgkiaaaGreatDoor.need.chkW_zero (g3 x hx)
    exact ⟨q1, fun y hy => (q2 y hy).2.1⟩)
  obtain ⟨e2, h6⟩ := h4.whole g5 (fun f hf => (chkFn_zero (g6 f hf)).2.2.1)
  subst e1
  subst e2
  exact ⟨A, B, C, ca, cb, cc, rfl, h2, h5, h6⟩
end Go.Proofs.YtahejekcfgkiaaaGreatDoor.pgm

/-
  The document's own answer of what is wrong with a function. No condition.
-/
namespace Go.Proofs.YtahejekcfgkiaaaGreatDoor.pgm
open Go.RowKit Go.ChangeShapes
open Go.Proofs.YtahejekcfgkiaaaGreatDoor.objs (De zero DAt)
open Go.Proofs.YtahejekcfgkiaaaGreatDoor.inst (refCheck_any)
set_option linter.unusedVariables false

def NumPost (c : Nat) (w : World) (e : Ending) (w' : World) : Prop := e = .returned (.int .i64 (c : Nat)) ∧ Below w.heap.size w w'
def fnBox (ar lo : Int) (v : Value) : Obj := .cells #[.int .i64 ar, .int .i64 lo, v] 49
theorem fn_cells {w W : World} {ar lo : Int} {v : Value} (hb : Below (w.alloc (fnBox ar lo v)).heap.size (w.alloc (fnBox ar lo v)) W) : W.heap[w.heap.size]? = some (fnBox ar lo v) :=
  (hb.block _ (by rw [World.size_alloc]; omega)).trans (heap_alloc_new w _)

set_option maxRecDepth 100000 in
set_option maxHeartbeats 8000000 in
theorem refFn_any (A : Option Addr) (n c : Nat) (ar lo : Int) (l : List De) (hn : l.length = min n 250) (w : World) (hA : DAt w A l) :
    Calls Tryz.prog 18 #[.agg #[.int .i64 ar, .int .i64 lo, .slice A n c]] w (NumPost (chkFn ⟨ar, lo, l⟩) w) := by
  unfold NumPost
  obtain ⟨v, hv⟩ : ∃ v, v = chkFn ⟨ar, lo, l⟩ := ⟨_, rfl⟩
  rw [← hv]
  unfold chkFn at hv
  dsimp only at hv
  have hb0 : Below w.heap.size w (w.alloc (fnBox ar lo (.slice A n c))) := (Below.refl _ w).alloc (Nat.le_refl _) _
  have HB0 := Lib.hid hb0
  by_cases h1 : ar < 0 ∨ lo < ar ∨ 8 < lo
  · rw [if_pos h1] at hv
    clear hn hA hb0
    subst hv
    unfold fnBox at HB0
    by_cases a1 : ar < 0
    · clear h1
      go_enter Tryz.func18, Tryz.ntmps18
      go_wp2_with fail
      go_ret
      exact ⟨rfl, HB0.out⟩
    · by_cases a2 : lo < ar
      · have q1 : decide (ar < 0) = false := by simp; omega
        have q2 : decide (ar > lo) = true := by simp; omega
        clear h1 a1
        go_enter Tryz.func18, Tryz.ntmps18
        go_wp2_with fail
        go_ret
        exact ⟨rfl, HB0.out⟩
      · have a3 : 8 < lo := by omega
        have q1 : decide (ar < 0) = false := by simp; omega
        have q2 : decide (ar > lo) = false := by simp; omega
        clear h1 a1 a2
        go_enter Tryz.func18, Tryz.ntmps18
        go_wp2_with fail
        go_ret
        exact ⟨rfl, HB0.out⟩
  · rw [if_neg h1] at hv
    have q1 : decide (ar < 0) = false := by simp; omega
    have q2 : decide (ar > lo) = false := by simp; omega
    have q3 : decide (lo > 8) = false := by simp; omega
    by_cases h0 : n = 0
    · subst h0
      rw [if_pos (by omega)] at hv
      clear hA hb0 h1 hn
      subst hv
      unfold fnBox at HB0
      go_enter Tryz.func18, Tryz.ntmps18
      go_wp2_with fail
      go_ret
      exact ⟨rfl, HB0.out⟩
    · have q4 : ((n : Int) == 0) = false := by simpa using h0
      rw [if_neg (by omega)] at hv
      by_cases h2 : 200 < n
      · have q5 : decide ((n : Int) > 200) = true := by simp; omega
        rw [if_pos (by omega)] at hv
        clear hA hb0 h1 hn h0 h2
        subst hv
        unfold fnBox at HB0
        go_enter Tryz.func18, Tryz.ntmps18
        go_wp2_with fail
        go_ret
        exact ⟨rfl, HB0.out⟩
      · obtain rfl : n = l.length := by omega
        rw [if_neg (by omega)] at hv
        have q5 : decide ((l.length : Int) > 200) = false := by simp; omega
        have HV := Lib.hid hv
        have hl64 : l.length ≤ 9223372036854775807 := by omega
        have HA := Lib.hid hA
        have HL := Lib.hid h2
        clear hA hb0 h1 hn h0 h2 hv
        unfold fnBox at HB0
        go_enter Tryz.func18, Tryz.ntmps18
        go_wp2_with fail
        go_loopw [3] (fun i wr => ∃ j : Nat, j ≤ l.length ∧ i = .int .i64 (j : Int) ∧ Hid (v = firstE chkI (l.drop j)) ∧ Hid (Below (w.heap.size + 1) (w.alloc (.cells #[.int .i64 ar, .int .i64 lo, .slice A l.length c] 49)) wr)) (fun i _ => l.length - (intOf i).toNat)
        case atStart => exact ⟨0, Nat.zero_le _, rfl, Lib.hid (by simpa using HV.out), Lib.hid (Below.refl _ _)⟩
        case round =>
          obtain ⟨j, hj, rfl, HJ, HW⟩ := hrel
          have HD := Lib.hid (HA.out.next (HB0.out.trans (HW.out.mono (Nat.le_succ _))))
          have hblk : wr.heap[w.heap.size]? = some (.cells #[.int .i64 ar, .int .i64 lo, .slice A l.length c] 49) := (HW.out.block _ (Nat.lt_succ_self _)).trans (heap_alloc_new w _)
          have e2 : wr.cell? ⟨w.heap.size, 2, none⟩ = some (.slice A l.length c) := by unfold World.cell?; rw [hblk]; rfl
          clear hblk
          by_cases hlt : j < l.length
          · have HNx := Lib.hid (firstE_drop (f := chkI) zero hlt)
            obtain ⟨b, off, rfl, hbl, c0, c1, c2⟩ := HD.out j hlt
            have hlt' : (j : Int) < (l.length : Int) := by omega
            have hj0 : (0 : Int) ≤ (j : Int) := by omega
            have HO := Lib.hid (refCheck_any (l.getD j zero).1 (l.getD j zero).2.1 (l.getD j zero).2.2 wr)
            have hI : chkI (l.getD j zero) = Go.Proofs.YtahejekcfgkiaaaGreatDoor.inst.chk (l.getD j zero).1 (l.getD j zero).2.1 (l.getD j zero).2.2 := rfl
            rw [← hI] at HO
            clear hI
            generalize l.getD j zero = t at *
            generalize chkI t = q at *
            obtain ⟨tk, ta, tb⟩ := t
            dsimp only at HO c0 c1 c2
            go_wp2_with fail
            refine HO.out.mono ?_
            rintro e w3 ⟨rfl, hb3⟩
            have HW3 := Lib.hid (HW.out.trans (hb3.mono (by have := HW.out.size; rw [World.size_alloc] at this; exact this)))
            have HB3 := Lib.hid (HB0.out.trans (HW3.out.mono (Nat.le_succ _)))
            clear hb3 c0 c1 c2 HO
            by_cases hq : q = 0
            · have HE : Hid (v = firstE chkI (l.drop (j + 1))) := Lib.hid (by rw [HJ.out, HNx.out, if_neg (by simp [hq])])
              have hq' : ((q : Int) != 0) = false := by simp [hq]
              clear hq
              go_wp2
              go_roundw
              case rel => have h200 := HL.out; exact ⟨j + 1, by omega, by go_num, HE, HW3⟩
              case measure => have h200 := HL.out; simp [intOf]; omega
            · have HE : Hid (v = q) := Lib.hid (by rw [HJ.out, HNx.out, if_pos hq])
              have hq' : ((q : Int) != 0) = true := by simpa using hq
              clear hq
              go_wp2
              go_ret
              exact ⟨by rw [HE.out]; rfl, HB3.out⟩
          · have H1 : Hid (v = 0) := Lib.hid (by
              obtain rfl : j = l.length := by omega
              rw [HJ.out, List.drop_length]; rfl)
            have HB3 := Lib.hid (HB0.out.trans (HW.out.mono (Nat.le_succ _)))
            have hge : decide ((j : Int) < (l.length : Int)) = false := by simp; omega
            go_wp2
            go_ret
            exact ⟨by rw [H1.out]; rfl, HB3.out⟩
end Go.Proofs.YtahejekcfgkiaaaGreatDoor.pgm

/-
  The document's decimals of any number. No condition but that it is an int.
-/
namespace Go.Proofs.YtahejekcfgkiaaaGreatDoor.need
open Go.RowKit Go.ChangeShapes
open Go.Proofs.YtahejekcfgkiaaaGreatDoor.octet (mk_append size_mk)
set_option linter.unusedVariables false

/-- A slice of one byte as a text. -/
theorem run_byte_at (v : World) (b : Nat) (x : Int) (c : UInt8) (hc : (c.toNat : Int) = x) (h : v.cell? ⟨b, 0, none⟩ = some (.int .u8 x)) :
    (convert 57 9 (.slice (some ⟨b, 0, none⟩) 1 1)).run Tryz.prog v = .ok (.string ⟨[c].toArray⟩) v := by
  refine run_convert_bytes_back _ 57 9 5 ⟨b, 0, none⟩ 1 [c] Tryz.underlying57 Tryz.underlying5 Tryz.underlying9 (fun j hj => ?_)
  have hj0 : j = 0 := by simpa using hj
  subst hj0
  rw [← hc] at h
  exact h
theorem ret_str {a b : ByteArray} (h : a = b) : Ending.returned (.string a) = .returned (.string b) := by rw [h]
theorem ret_text {a b : List UInt8} (h : a = b) : Ending.returned (.string ⟨a.toArray⟩) = .returned (.string ⟨b.toArray⟩) := by rw [h]

theorem intT_least : intT (-9223372036854775808) = [45, 57, 50, 50, 51, 51, 55, 50, 48, 51, 54, 56, 53, 52, 55, 55, 53, 56, 48, 56] := by
  unfold intT
  rw [if_pos (by omega)]
  have e : (-(-9223372036854775808 : Int)).toNat = 9223372036854775808 := rfl
  rw [e]
  rw [digs_big (by decide), digs_big (by decide), digs_big (by decide), digs_big (by decide), digs_big (by decide), digs_big (by decide), digs_big (by decide), digs_big (by decide), digs_big (by decide), digs_big (by decide), digs_big (by decide), digs_big (by decide), digs_big (by decide), digs_big (by decide), digs_big (by decide), digs_big (by decide), digs_big (by decide), digs_big (by decide), digs_small (by decide)]
  rfl
end Go.Proofs.YtahejekcfgkiaaaGreatDoor.need
