/-
  Texts of one claim in one file: ETab, GOk, GClose, EBack, GPlain, PPops. Each has its own sentence, with its conditions.
-/
import Derived.Test.YtbekfjjajggffaaDoorVall9
import Derived.Test.YtbekfjjajggffaaDoorVall7
import Derived.Lib.LaidTab
import Derived.Lib.ItoaNum
import Derived.WalkSmall
import Derived.Test.YtbekfjjajggffaaDoorVall8
import Derived.Test.YtbekfjjajggffaaDoorVall5
import Derived.Test.YtbekfjjajggffaaDoorVall1
import Derived.LaidMore
import Derived.Stop.Joined
import Derived.Stop.LaidErr
import Derived.Test.YtbekfjjajggffaaDoorVall2
/-
  The program's tables of needs lie where their initialisers lay them; with that: whether there is such a kind, whether a kind counts, and how many there may be (typed over the code of 4b95722). The card ties the tables to the program's text.
-/
namespace Go.Proofs.YtbekfjjajggffaaDoor.need
open Go.RowKit Go.ChangeShapes
open Go.Proofs.YtbekfjjajggffaaDoor.objs (De zero CellsAt DAt)
set_option linter.unusedVariables false

theorem ret_bool {a b : Bool} (h : a = b) : Ending.returned (.bool a) = .returned (.bool b) := by rw [h]
/-- The words of the kinds, and the kinds of objects that they ask, as the program's tables have them. -/
def namesE : List ByteArray := [⟨#[]⟩, ⟨#[108, 111, 99, 107]⟩, ⟨#[114, 101, 97, 100]⟩, ⟨#[119, 114, 105, 116, 101]⟩, ⟨#[100, 111, 119, 110]⟩, ⟨#[116, 97, 107, 101]⟩]
def askedE : List Int := [0, 1, 2, 2, 3, 6]
/-- The table of what is asked lies where its initialiser lays it, below all that is made. -/
structure Oka (w : World) : Prop where
  ak : ∀ j, j < 6 → w.cell? ⟨2, j, none⟩ = some (.int .i64 (askedE.getD j 0))
  lak : 2 < w.heap.size
theorem Oka.below {B : Nat} {w w' : World} (h : Oka w) (hb : Below B w w') (h2 : 2 < B) : Oka w' :=
  ⟨fun j hj => (hb.cell (p := ⟨2, j, none⟩) h2).trans (h.ak j hj), Nat.lt_of_lt_of_le h.lak hb.size⟩
theorem Oka.next {w w' : World} (h : Oka w) (hb : Below w.heap.size w w') : Oka w' := h.below hb h.lak
theorem asked_kn {k : Nat} (h1 : 1 ≤ k) (h5 : k ≤ 5) : askedE.getD k 0 = kn (k : Int) := by
  have h : k = 1 ∨ k = 2 ∨ k = 3 ∨ k = 4 ∨ k = 5 := by omega
  rcases h with rfl | rfl | rfl | rfl | rfl <;> rfl
theorem names_word {k : Nat} (h1 : 1 ≤ k) (h5 : k ≤ 5) : namesE.getD k ⟨#[]⟩ = ⟨(word (k : Int)).toArray⟩ := by
  have h : k = 1 ∨ k = 2 ∨ k = 3 ∨ k = 4 ∨ k = 5 := by omega
  rcases h with rfl | rfl | rfl | rfl | rfl <;> rfl

theorem known_any (k : Int) (w : World) : Calls Tryd.prog 82 #[.int .i64 k] w fun e w' => e = .returned (.bool (decide (1 ≤ k ∧ k ≤ 5))) ∧ w = w' := by
  by_cases h1 : 1 ≤ k
  · by_cases h2 : k ≤ 5
    · rw [decide_eq_true ⟨h1, h2⟩]
      go_enter Tryd.func82, Tryd.ntmps82
      go_wp2
      go_ret
      exact ⟨rfl, rfl⟩
    · rw [decide_eq_false (fun h => h2 h.2)]
      have hd : decide (k ≤ 5) = false := by simpa using h2
      go_enter Tryd.func82, Tryd.ntmps82
      go_wp2
      go_ret
      exact ⟨rfl, rfl⟩
  · rw [decide_eq_false (fun h => h1 h.1)]
    have hd : decide (1 ≤ k) = false := by simpa using h1
    go_enter Tryd.func82, Tryd.ntmps82
    go_wp2
    go_ret
    exact ⟨rfl, rfl⟩
/-- What is wrong with how many there are. -/
def manyC (n : Nat) : Nat := if n = 0 then 2 else if 4 < n then 4 else 0
theorem many_any (n : Nat) (w : World) : Calls Tryd.prog 54 #[.int .i64 (n : Int), .int .i64 4] w fun e w' => e = .returned (.int .i64 ((manyC n : Nat) : Int)) ∧ w = w' :=
  Go.Proofs.YtbekfjjajggffaaDoor.span.count_any n 4 w
end Go.Proofs.YtbekfjjajggffaaDoor.need

/-
  What the program's calls on programs ask of the world: three tables lie where their initialisers lay them. No condition.
-/
namespace Go.Proofs.YtbekfjjajggffaaDoor.pgm
open Go.RowKit Go.ChangeShapes
open Go.Proofs.YtbekfjjajggffaaDoor.objs (Okd)
open Go.Proofs.YtbekfjjajggffaaDoor.inst (Okw)
open Go.Proofs.YtbekfjjajggffaaDoor.need (Oka)
set_option linter.unusedVariables false

/-- What the program's calls ask of the world: the three tables lie where they should, below all that is made. -/
structure Okp (w : World) : Prop where
  ins : Okw w
  decl : Okd w
  need : Oka w
/-- A block above the tables. -/
def Past (b : Nat) : Prop := 3 < b ∧ 1 < b ∧ 2 < b
theorem Okp.below {B : Nat} {w w' : World} (h : Okp w) (hb : Below B w w') (hp : Past B) : Okp w' := ⟨h.ins.below hb hp.1, h.decl.below hb hp.2.1, h.need.below hb hp.2.2⟩
theorem Okp.past {w : World} (h : Okp w) : Past w.heap.size := ⟨h.ins.2, h.decl.2, h.need.lak⟩
theorem Okp.next {w w' : World} (h : Okp w) (hb : Below w.heap.size w w') : Okp w' := h.below hb h.past
end Go.Proofs.YtbekfjjajggffaaDoor.pgm

/-
  What a row's condition on the tables gives, and that the door's own heap meets it. No condition.
-/
namespace Go.Proofs.YtbekfjjajggffaaDoor.pgm
open Go.RowKit Go.WideShapes Go.ChangeShapes
open Go.Proofs.YtbekfjjajggffaaDoor.need (askedE)
set_option linter.unusedVariables false

/-- The tables that each of these rows lists. -/
def laidG : List (String × DataW Unit) := [("logjam/op.names", Rows.laid_logjam_op_names), ("logjam/decl.names", Rows.laid_logjam_decl_names), ("logjam/need.asked", Rows.laid_logjam_need_asked)]
theorem gAskedG : Tryd.prog.globalNamed "logjam/need.asked" = some 2 := by kernel_rfl
theorem gAskedGType : (Tryd.prog.globals[2]?).map (·.type) = some 128 := by kernel_rfl
theorem askedGCells : Tryd.prog.cellsOf 128 = 6 := by kernel_rfl
theorem intCellsG : Tryd.prog.cellsOf 3 = 1 := by kernel_rfl
theorem lt_of_cellG {W : World} {g : Nat} {v : Value} (h : W.cell? ⟨g, 0, none⟩ = some v) : g < W.heap.size := by
  rcases Nat.lt_or_ge g W.heap.size with h1 | h1
  · exact h1
  · simp [World.cell?, Array.getElem?_eq_none h1] at h
theorem asked_of_headG {W : World} {rest : List (String × DataW Unit)} (h : laidMet Tryd.prog (("logjam/need.asked", Rows.laid_logjam_need_asked) :: rest) W) : ∀ j, j < 6 → W.cell? ⟨2, j, none⟩ = some (.int .i64 (askedE.getD j 0)) := by
  have hT : Lib.TabIs Tryd.prog W "logjam/need.asked" .i64 askedE :=
    Lib.tabIs_of_head gAskedG gAskedGType Tryd.underlying128 Tryd.underlying3 intCellsG askedGCells (zs := askedE) h
  intro j hj
  exact hT.cell gAskedG j hj
theorem of_laidG {W : World} (h : laidMetH Tryd.prog laidG W) : Okp W := by
  rw [MakeChecks.laidMetH_plain _ _ _ (by kernel_rfl)] at h
  have h2 := laidMet.tail h
  have h3 := laidMet.tail h2
  have ha := asked_of_headG h3
  exact ⟨Go.Proofs.YtbekfjjajggffaaDoor.oper.tab_of_head h, Go.Proofs.YtbekfjjajggffaaDoor.objs.tabd_of_head h2, ⟨ha, lt_of_cellG (ha 0 (by omega))⟩⟩

/-- The door's own heap meets the condition: three closed facts. -/
theorem door_metG (os : Go.Os) (args : Array Value) : laidMetH Tryd.prog laidG ((World.doorLaid Tryd.prog 29 os).forCall (fun _ _ => 0) ⟨#[], args, []⟩).memory :=
  laidMetH_of_parts3 (fuel := 8) (laidMet_of_run' 8 (by kernel_rfl) (by kernel_rfl)) (by kernel_rfl) (by kernel_rfl)
end Go.Proofs.YtbekfjjajggffaaDoor.pgm

/-
  What was put of a wait is got again, whatever stands behind; what was got, put, is just the bytes that it had. Plain mathematics; no condition.
-/
namespace Go.Proofs.YtbekfjjajggffaaDoor.need
open Go.Proofs.YtbekfjjajggffaaDoor.octet (St rdByte rdNum num num_length_le enc_length_pos)
open Go.Proofs.YtbekfjjajggffaaDoor.objs (De zero rdN chk chk_zero one one_zero rdNum_back rdN_back rdNum_once rdN_once rdNum_err getD_left getD_last)
set_option linter.unusedVariables false

/-- Of objects that may be: a need that may be has numbers up to a thousand. -/
theorem need_small {d : List De} {n : De} (hd : (chk d).2 = 0) (h : oneN d n = 0) : (1 ≤ n.1 ∧ n.1 ≤ 5) ∧ (0 ≤ n.2.1 ∧ n.2.1 < 32) ∧ (n.1 ≤ 3 → n.2.2 = 0) ∧ 0 ≤ n.2.2 ∧ n.2.2 ≤ 1000 := by
  obtain ⟨h1, h2, h3, h4, h5⟩ := oneN_zero h
  obtain ⟨hl, _, hall⟩ := chk_zero hd
  refine ⟨h1, by omega, h3, h4, ?_⟩
  have hk : (d.getD n.2.1.toNat zero).1 = kn n.1 := by
    unfold oneN at h
    split at h
    · cases h
    · split at h
      · cases h
      · rename_i _ h6
        exact Classical.byContradiction fun h7 => h6 (.inr (.inr h7))
  obtain ⟨_, g3, g6, _, _, _⟩ := one_zero (hall n.2.1.toNat (by omega))
  unfold hi at h5
  by_cases e4 : n.1 = 4
  · rw [if_pos e4] at h5
    have := g3 (by rw [hk]; unfold kn; rw [e4]; decide)
    omega
  · rw [if_neg e4] at h5
    by_cases e5 : n.1 = 5
    · rw [if_pos e5] at h5
      have := g6 (by rw [hk]; unfold kn; rw [e5]; decide)
      omega
    · rw [if_neg e5] at h5
      omega

theorem rdNeed_back {d : List De} {n : De} (hd : (chk d).2 = 0) (h : oneN d n = 0) (more : List UInt8) : rdNeed ⟨encN n ++ more, 0⟩ = (n, ⟨more, 0⟩, 0) := by
  obtain ⟨h1, h2, h3, h4, h5⟩ := need_small hd h
  obtain ⟨k, o, m⟩ := n
  dsimp only at h1 h2 h3 h4 h5
  have hy : rdByte ⟨encN (k, o, m) ++ more, 0⟩ = (k.toNat, ⟨num o.toNat ++ (pieceN k m ++ more), 0⟩) := by
    unfold rdByte encN
    simp only [ne_eq, not_true_eq_false, if_false, List.cons_append, List.append_assoc]
    congr 1
    rw [UInt8.toNat_ofNat']
    omega
  have hA : rdN ⟨num o.toNat ++ (pieceN k m ++ more), 0⟩ = (o, ⟨pieceN k m ++ more, 0⟩) := by
    rw [rdN_back (by omega)]
    congr 1
    omega
  have hB : rdC k.toNat ⟨pieceN k m ++ more, 0⟩ = (m, ⟨more, 0⟩) := by
    unfold rdC pieceN
    by_cases e : 3 < k
    · rw [if_pos (by omega), if_pos e, rdN_back (by omega)]
      congr 1
      omega
    · rw [if_neg (by omega), if_neg e, h3 (by omega)]
      rfl
  unfold rdNeed
  simp only [hy, hA, hB]
  rw [if_neg (by omega)]
  congr 2
  omega
theorem rdNeeds_back {d l : List De} (hd : (chk d).2 = 0) (h : ∀ n ∈ l, oneN d n = 0) : ∀ j, j ≤ l.length → ∀ more, rdNeeds ⟨encNs l j ++ more, 0⟩ j = (l.take j, ⟨more, 0⟩, 0) := by
  intro j
  induction j with
  | zero => intro _ more; rfl
  | succ j ih =>
    intro hj more
    have h1 := ih (by omega) (encN (l.getD j zero) ++ more)
    have h2 := rdNeed_back hd (h _ (getD_mem (l := l) (k := j) (by omega))) more
    simp only [encNs, List.append_assoc, rdNeeds]
    rw [h1]
    simp only [h2]
    rw [if_neg (by decide), if_neg (by decide), List.take_add_one, List.getD_eq_getElem?_getD, List.getElem?_eq_getElem (by omega)]
    rfl
theorem rdWay_back {d l : List De} (hd : (chk d).2 = 0) (hl : l.length ≤ 4) (h : ∀ n ∈ l, oneN d n = 0) (more : List UInt8) : rdWay ⟨encWay l ++ more, 0⟩ = (l, ⟨more, 0⟩, 0) := by
  have hn : rdNum ⟨encWay l ++ more, 0⟩ = (l.length, ⟨encNs l l.length ++ more, 0⟩) := by
    unfold encWay
    rw [List.append_assoc, rdNum_back (by omega)]
  unfold rdWay
  simp only [hn]
  rw [if_neg (by omega), if_neg (by decide), rdNeeds_back hd h l.length (Nat.le_refl _) more, List.take_length]
theorem rdWays_back {d : List De} {w : List (List De)} (hd : (chk d).2 = 0) (h : ∀ l ∈ w, l.length ≤ 4 ∧ ∀ n ∈ l, oneN d n = 0) : ∀ j, j ≤ w.length → ∀ more, rdWays ⟨encWs w j ++ more, 0⟩ j = (w.take j, ⟨more, 0⟩, 0) := by
  intro j
  induction j with
  | zero => intro _ more; rfl
  | succ j ih =>
    intro hj more
    have h1 := ih (by omega) (encWay (w.getD j []) ++ more)
    have hm := h _ (getW_mem (w := w) (k := j) (by omega))
    have h2 := rdWay_back hd hm.1 hm.2 more
    simp only [encWs, List.append_assoc, rdWays]
    rw [h1]
    simp only [h2]
    rw [if_neg (by decide), if_neg (by decide), List.take_add_one, List.getD_eq_getElem?_getD, List.getElem?_eq_getElem (by omega)]
    rfl
theorem back {d : List De} {w : List (List De)} (hd : (chk d).2 = 0) (h : chkW d w = 0) (more : List UInt8) : getW d (encW w ++ more) = (w, (encW w).length, 0) := by
  obtain ⟨h0, h4, hall⟩ := chkW_zero h
  have hn : rdNum ⟨encW w ++ more, 0⟩ = (w.length, ⟨encWs w w.length ++ more, 0⟩) := by
    unfold encW
    rw [List.append_assoc, rdNum_back (by omega)]
  have hL := rdWays_back hd (fun l hl => (hall l hl).2) w.length (Nat.le_refl _) more
  unfold getW readW
  have h44 : ¬ 4 < w.length := by omega
  simp only [hn, hL, List.take_length, h, ne_eq, not_true_eq_false, if_false, if_neg h44]
  simp

theorem rdC_err {k : Nat} {s : St} (h : s.err ≠ 0) : (rdC k s).2 = s := by
  unfold rdC rdN
  split
  · exact rdNum_err h
  · rfl
theorem rdNeed_once {d : List De} {L : List UInt8} (hd : (chk d).2 = 0) (he : (rdNeed ⟨L, 0⟩).2.2 = 0) (h : oneN d (rdNeed ⟨L, 0⟩).1 = 0) : L = encN (rdNeed ⟨L, 0⟩).1 ++ (rdNeed ⟨L, 0⟩).2.1.rest ∧ (rdNeed ⟨L, 0⟩).2.1.err = 0 := by
  obtain ⟨h1, h2, h3, h4, h5⟩ := need_small hd h
  unfold rdNeed at he h1 h2 h3 h4 h5 ⊢
  dsimp only at he h1 h2 h3 h4 h5 ⊢
  split at he
  · cases he
  · rename_i hc
    rw [if_neg hc] at h1 h2 h3 h4 h5 ⊢
    dsimp only at he h1 h2 h3 h4 h5 ⊢
    obtain ⟨x, r, rfl⟩ : ∃ x r, L = x :: r := by
      cases L with
      | nil =>
        exfalso
        have e0 : (rdByte ⟨[], 0⟩).2.err ≠ 0 := by decide
        have e1 : (rdN (rdByte ⟨[], 0⟩).2).2 = (rdByte ⟨[], 0⟩).2 := rdNum_err e0
        rw [e1, rdC_err e0] at he
        exact e0 he
      | cons x r => exact ⟨x, r, rfl⟩
    have hy : rdByte ⟨x :: r, 0⟩ = (x.toNat, ⟨r, 0⟩) := rfl
    rw [hy] at he h1 h2 h3 h4 h5 hc ⊢
    dsimp only at he h1 h2 h3 h4 h5 hc ⊢
    have hA0 : (rdN ⟨r, 0⟩).2.err = 0 := by
      rcases Nat.eq_zero_or_pos (rdN ⟨r, 0⟩).2.err with e | e
      · exact e
      · rw [rdC_err (by omega)] at he; exact he
    have hA := rdN_once hA0 (by omega)
    generalize rdN ⟨r, 0⟩ = q at *
    obtain ⟨o, R, E⟩ := q
    dsimp only at hA0 hA he h2 h3 h4 h5 ⊢
    subst hA0
    have hB : R = pieceN (x.toNat : Int) (rdC x.toNat ⟨R, 0⟩).1 ++ (rdC x.toNat ⟨R, 0⟩).2.rest := by
      unfold rdC at he h4 h5 ⊢
      unfold pieceN
      by_cases e : 3 < x.toNat
      · rw [if_pos e] at he h4 h5 ⊢
        rw [if_pos (by omega)]
        exact rdN_once he (by omega)
      · rw [if_neg e] at he ⊢
        rw [if_neg (by omega)]
        rfl
    refine ⟨?_, he⟩
    unfold encN
    dsimp only
    rw [Int.toNat_natCast, List.cons_append, List.append_assoc, ← hB, ← hA]
    congr 1
    exact UInt8.ofNat_toNat.symm
theorem rdNeeds_err {s : St} {j : Nat} (h : (rdNeeds s j).2.2 ≠ 0) : ∀ k, j ≤ k → rdNeeds s k = rdNeeds s j := by
  intro k hk
  induction k with
  | zero =>
    obtain rfl : j = 0 := by omega
    rfl
  | succ k ih =>
    rcases Nat.eq_or_lt_of_le hk with e | e
    · subst e; rfl
    · have := ih (by omega)
      simp only [rdNeeds]
      rw [this, if_pos h]
theorem rdWays_err {s : St} {j : Nat} (h : (rdWays s j).2.2 ≠ 0) : ∀ k, j ≤ k → rdWays s k = rdWays s j := by
  intro k hk
  induction k with
  | zero =>
    obtain rfl : j = 0 := by omega
    rfl
  | succ k ih =>
    rcases Nat.eq_or_lt_of_le hk with e | e
    · subst e; rfl
    · have := ih (by omega)
      simp only [rdWays]
      rw [this, if_pos h]
theorem rdNeeds_length {s : St} : ∀ j, (rdNeeds s j).2.2 = 0 → (rdNeeds s j).1.length = j := by
  intro j
  induction j with
  | zero => intro _; rfl
  | succ j ih =>
    intro h
    simp only [rdNeeds] at h ⊢
    split at h
    · exact absurd h ‹_›
    · rename_i h1
      have := ih (by omega)
      rw [if_neg h1]
      split at h
      · exact absurd h ‹_›
      · rename_i h2
        rw [if_neg h2, List.length_append, this]
        rfl
theorem rdWays_length {s : St} : ∀ j, (rdWays s j).2.2 = 0 → (rdWays s j).1.length = j := by
  intro j
  induction j with
  | zero => intro _; rfl
  | succ j ih =>
    intro h
    simp only [rdWays] at h ⊢
    split at h
    · exact absurd h ‹_›
    · rename_i h1
      have := ih (by omega)
      rw [if_neg h1]
      split at h
      · exact absurd h ‹_›
      · rename_i h2
        rw [if_neg h2, List.length_append, this]
        rfl
theorem encNs_left {l r : List De} : ∀ j, j ≤ l.length → encNs (l ++ r) j = encNs l j := by
  intro j
  induction j with
  | zero => intro _; rfl
  | succ j ih =>
    intro h
    simp only [encNs]
    rw [ih (by omega), getD_left (by omega)]
theorem getW_left {l r : List (List De)} {i : Nat} (h : i < l.length) : (l ++ r).getD i [] = l.getD i [] := by
  rw [List.getD_eq_getElem?_getD, List.getD_eq_getElem?_getD, List.getElem?_append_left h]
theorem getW_last {l : List (List De)} {x : List De} {i : Nat} (h : l.length = i) : (l ++ [x]).getD i [] = x := by
  subst h
  rw [List.getD_eq_getElem?_getD, List.getElem?_append_right (Nat.le_refl _), Nat.sub_self]
  rfl
theorem encWs_left {l r : List (List De)} : ∀ j, j ≤ l.length → encWs (l ++ r) j = encWs l j := by
  intro j
  induction j with
  | zero => intro _; rfl
  | succ j ih =>
    intro h
    simp only [encWs]
    rw [ih (by omega), getW_left (by omega)]
theorem rdNeeds_once {d : List De} (hd : (chk d).2 = 0) : ∀ j (L : List UInt8), (rdNeeds ⟨L, 0⟩ j).2.2 = 0 → (∀ n ∈ (rdNeeds ⟨L, 0⟩ j).1, oneN d n = 0) → L = encNs (rdNeeds ⟨L, 0⟩ j).1 j ++ (rdNeeds ⟨L, 0⟩ j).2.1.rest ∧ (rdNeeds ⟨L, 0⟩ j).2.1.err = 0 := by
  intro j
  induction j with
  | zero => intro L _ _; exact ⟨rfl, rfl⟩
  | succ j ih =>
    intro L he hall
    have h0 : (rdNeeds ⟨L, 0⟩ j).2.2 = 0 := by
      rcases Nat.eq_zero_or_pos (rdNeeds ⟨L, 0⟩ j).2.2 with h | h
      · exact h
      · rw [rdNeeds_err (j := j) (by omega) (j + 1) (by omega)] at he
        omega
    have hlen := rdNeeds_length j h0
    simp only [rdNeeds] at he hall ⊢
    rw [if_neg (by omega)] at he hall ⊢
    split at he
    · exact absurd he ‹_›
    · rename_i h2
      rw [if_neg h2] at hall ⊢
      dsimp only at he hall ⊢
      have h1 := ih L h0 (fun n hn => hall n (List.mem_append_left _ hn))
      have hj := hall (rdNeed (rdNeeds ⟨L, 0⟩ j).2.1).1 (List.mem_append_right _ (List.mem_singleton.2 rfl))
      simp only [encNs]
      rw [encNs_left j (by omega), getD_last hlen]
      generalize rdNeeds ⟨L, 0⟩ j = p at *
      obtain ⟨ls, ⟨R, E⟩, e⟩ := p
      dsimp only at h0 hlen h1 hj h2 ⊢
      obtain ⟨h1, h1e⟩ := h1
      subst h1e
      have h3 := rdNeed_once (d := d) (L := R) hd (by omega) hj
      refine ⟨?_, h3.2⟩
      rw [List.append_assoc, ← h3.1]
      exact h1
theorem rdWay_once {d : List De} {L : List UInt8} (hd : (chk d).2 = 0) (he : (rdWay ⟨L, 0⟩).2.2 = 0) (h : ∀ n ∈ (rdWay ⟨L, 0⟩).1, oneN d n = 0) : L = encWay (rdWay ⟨L, 0⟩).1 ++ (rdWay ⟨L, 0⟩).2.1.rest ∧ (rdWay ⟨L, 0⟩).2.1.err = 0 := by
  unfold rdWay at he h ⊢
  split at he
  · cases he
  · rename_i h1
    rw [if_neg h1] at h ⊢
    split at he
    · exact absurd he ‹_›
    · rename_i h2
      rw [if_neg h2] at h ⊢
      have hn := rdNum_once (l := L) (by omega)
      generalize rdNum ⟨L, 0⟩ = q at *
      obtain ⟨n, ⟨R, E⟩⟩ := q
      dsimp only at he h h1 h2 hn ⊢
      obtain rfl : E = 0 := by omega
      have h3 := rdNeeds_once hd n R he h
      have hlen := rdNeeds_length n he
      refine ⟨?_, h3.2⟩
      unfold encWay
      rw [hlen, List.append_assoc, ← h3.1]
      exact hn
theorem rdWays_once {d : List De} (hd : (chk d).2 = 0) : ∀ j (L : List UInt8), (rdWays ⟨L, 0⟩ j).2.2 = 0 → (∀ l ∈ (rdWays ⟨L, 0⟩ j).1, ∀ n ∈ l, oneN d n = 0) → L = encWs (rdWays ⟨L, 0⟩ j).1 j ++ (rdWays ⟨L, 0⟩ j).2.1.rest ∧ (rdWays ⟨L, 0⟩ j).2.1.err = 0 := by
  intro j
  induction j with
  | zero => intro L _ _; exact ⟨rfl, rfl⟩
  | succ j ih =>
    intro L he hall
    have h0 : (rdWays ⟨L, 0⟩ j).2.2 = 0 := by
      rcases Nat.eq_zero_or_pos (rdWays ⟨L, 0⟩ j).2.2 with h | h
      · exact h
      · rw [rdWays_err (j := j) (by omega) (j + 1) (by omega)] at he
        omega
    have hlen := rdWays_length j h0
    simp only [rdWays] at he hall ⊢
    rw [if_neg (by omega)] at he hall ⊢
    split at he
    · exact absurd he ‹_›
    · rename_i h2
      rw [if_neg h2] at hall ⊢
      dsimp only at he hall ⊢
      have h1 := ih L h0 (fun n hn => hall n (List.mem_append_left _ hn))
      have hj := hall (rdWay (rdWays ⟨L, 0⟩ j).2.1).1 (List.mem_append_right _ (List.mem_singleton.2 rfl))
      simp only [encWs]
      rw [encWs_left j (by omega), getW_last hlen]
      generalize rdWays ⟨L, 0⟩ j = p at *
      obtain ⟨ls, ⟨R, E⟩, e⟩ := p
      dsimp only at h0 hlen h1 hj h2 ⊢
      obtain ⟨h1, h1e⟩ := h1
      subst h1e
      have h3 := rdWay_once (d := d) (L := R) hd (by omega) hj
      refine ⟨?_, h3.2⟩
      rw [List.append_assoc, ← h3.1]
      exact h1
theorem got_bad {d : List De} {l : List UInt8} (h : (getW d l).2.2 ≠ 0) : getW d l = ([], 0, (getW d l).2.2) := by
  unfold getW at h ⊢
  dsimp only at h ⊢
  split
  · rfl
  · rename_i h1
    rw [if_neg h1] at h
    exact absurd rfl h
theorem once {d : List De} {t : List UInt8} (hd : (chk d).2 = 0) (h : (getW d t).2.2 = 0) : chkW d (getW d t).1 = 0 ∧ 0 < (getW d t).2.1 ∧ (getW d t).2.1 ≤ t.length ∧ encW (getW d t).1 = t.take (getW d t).2.1 := by
  unfold getW readW at h ⊢
  dsimp only at h ⊢
  by_cases h2 : 4 < (rdNum ⟨t, 0⟩).1
  · simp only [if_pos h2] at h; cases h
  · simp only [if_neg h2] at h ⊢
    by_cases h1 : (rdNum ⟨t, 0⟩).2.err ≠ 0
    · simp only [if_pos h1] at h; exact absurd h h1
    · simp only [if_neg h1] at h ⊢
      have hn := rdNum_once (l := t) (by omega)
      generalize rdNum ⟨t, 0⟩ = q at *
      obtain ⟨n, ⟨R, E⟩⟩ := q
      dsimp only at h h1 h2 hn ⊢
      obtain rfl : E = 0 := by omega
      by_cases h3 : (rdWays ⟨R, 0⟩ n).2.2 ≠ 0
      · simp only [if_pos h3] at h; exact absurd h h3
      · simp only [if_neg h3] at h ⊢
        by_cases h4 : chkW d (rdWays ⟨R, 0⟩ n).1 ≠ 0
        · simp only [if_pos h4] at h; exact absurd h h4
        · simp only [if_neg h4] at h ⊢
          have hlen := rdWays_length n (by omega : (rdWays ⟨R, 0⟩ n).2.2 = 0)
          obtain ⟨_, _, hall⟩ := chkW_zero (by omega : chkW d (rdWays ⟨R, 0⟩ n).1 = 0)
          have ho := (rdWays_once hd n R (by omega) (fun l hl => (hall l hl).2.2)).1
          generalize rdWays ⟨R, 0⟩ n = p at *
          obtain ⟨ls, S, e⟩ := p
          dsimp only at h3 h4 hlen hall ho ⊢
          have hE : t = encW ls ++ S.rest := by
            unfold encW
            rw [hlen, List.append_assoc, ← ho]
            exact hn
          have hpos : 0 < (encW ls).length := by
            have := enc_length_pos 9 ls.length
            simp only [encW, List.length_append]
            have e : (num ls.length).length = (Go.Proofs.YtbekfjjajggffaaDoor.octet.enc 9 ls.length).length := rfl
            omega
          have hlt : t.length = (encW ls).length + S.rest.length := by rw [hE, List.length_append]
          simp only [ne_eq, not_true_eq_false, if_false]
          refine ⟨by omega, by omega, by omega, ?_⟩
          rw [show t.length - S.rest.length = (encW ls).length from by omega, hE, List.take_left']
          rfl
end Go.Proofs.YtbekfjjajggffaaDoor.need

/-
  What is wrong with a program, its bytes, and the program whose bytes some are: plain mathematics of lists and numbers, by one pair of laws for each list that is put behind another. No condition.
-/
namespace Go.Proofs.YtbekfjjajggffaaDoor.pgm
open Go.Proofs.YtbekfjjajggffaaDoor.octet (St rdByte rdNum num num_length_le enc_length_pos)
open Go.Proofs.YtbekfjjajggffaaDoor.objs (De zero rdNum_back rdNum_once rdNum_err)
set_option linter.unusedVariables false

/-- A function: its arguments, its locals, its instructions (an operation and two operands each). -/
structure Fn where
  ar : Int
  lo : Int
  co : List De
def Fn.zero : Fn := ⟨0, 0, []⟩
/-- A program: its objects, its waits, its functions. -/
structure Pg where
  ds : List De
  ws : List (List (List De))
  fs : List Fn
def Pg.none : Pg := ⟨[], [], []⟩

section
variable {α : Type}
/-- The first thing that is wrong with one of a list. -/
def firstE (f : α → Nat) : List α → Nat
  | [] => 0
  | x :: l => if f x ≠ 0 then f x else firstE f l
theorem getD_at {l : List α} {k : Nat} {d : α} (h : k < l.length) : l.getD k d = l[k] := by rw [List.getD_eq_getElem?_getD, List.getElem?_eq_getElem h]; rfl
theorem getD_in {l : List α} {k : Nat} {d : α} (h : k < l.length) : l.getD k d ∈ l := by rw [getD_at h]; exact List.getElem_mem _
theorem firstE_drop {f : α → Nat} {l : List α} {k : Nat} (d : α) (h : k < l.length) : firstE f (l.drop k) = if f (l.getD k d) ≠ 0 then f (l.getD k d) else firstE f (l.drop (k + 1)) := by
  rw [List.drop_eq_getElem_cons h, getD_at h]
  rfl
theorem firstE_zero {f : α → Nat} {l : List α} (h : firstE f l = 0) : ∀ x ∈ l, f x = 0 := by
  induction l with
  | nil => intro n hn; cases hn
  | cons m l ih =>
    unfold firstE at h
    by_cases hm : f m ≠ 0
    · rw [if_pos hm] at h
      exact absurd h hm
    · rw [if_neg hm] at h
      intro n hn
      rcases List.mem_cons.1 hn with rfl | hn
      · omega
      · exact ih h n hn
theorem firstE_le {f : α → Nat} {b : Nat} (hf : ∀ x, f x ≤ b) (l : List α) : firstE f l ≤ b := by
  induction l with
  | nil => exact Nat.zero_le _
  | cons m l ih =>
    unfold firstE
    split
    · exact hf m
    · exact ih
/-- The bytes of the first j of a list. -/
def encAll (e : α → List UInt8) (d : α) (l : List α) : Nat → List UInt8
  | 0 => []
  | j + 1 => encAll e d l j ++ e (l.getD j d)
theorem encAll_le {e : α → List UInt8} {d : α} {l : List α} {c : Nat} (h : ∀ x ∈ l, (e x).length ≤ c) : ∀ j, j ≤ l.length → (encAll e d l j).length ≤ c * j := by
  intro j
  induction j with
  | zero => intro _; exact Nat.zero_le _
  | succ j ih =>
    intro hj
    have h1 := ih (by omega)
    have h2 := h _ (getD_in (d := d) (l := l) (k := j) (by omega))
    simp only [encAll, List.length_append]
    rw [Nat.mul_succ]
    omega
theorem at_left {l r : List α} {i : Nat} {d : α} (h : i < l.length) : (l ++ r).getD i d = l.getD i d := by
  rw [List.getD_eq_getElem?_getD, List.getD_eq_getElem?_getD, List.getElem?_append_left h]
theorem at_last {l : List α} {x d : α} {i : Nat} (h : l.length = i) : (l ++ [x]).getD i d = x := by
  subst h
  rw [List.getD_eq_getElem?_getD, List.getElem?_append_right (Nat.le_refl _), Nat.sub_self]
  rfl
theorem encAll_left {e : α → List UInt8} {d : α} {l r : List α} : ∀ j, j ≤ l.length → encAll e d (l ++ r) j = encAll e d l j := by
  intro j
  induction j with
  | zero => intro _; rfl
  | succ j ih =>
    intro h
    simp only [encAll]
    rw [ih (by omega), at_left (by omega)]
/-- The first j of what is read one behind the other. -/
def rdAll (rd : St → α × St × Nat) (s : St) : Nat → List α × St × Nat
  | 0 => ([], s, 0)
  | j + 1 =>
    let p := rdAll rd s j
    if p.2.2 ≠ 0 then p
    else if (rd p.2.1).2.2 ≠ 0 then ([], (rd p.2.1).2.1, (rd p.2.1).2.2)
    else (p.1 ++ [(rd p.2.1).1], (rd p.2.1).2.1, 0)
theorem rdAll_err {rd : St → α × St × Nat} {s : St} {j : Nat} (h : (rdAll rd s j).2.2 ≠ 0) : ∀ k, j ≤ k → rdAll rd s k = rdAll rd s j := by
  intro k hk
  induction k with
  | zero =>
    obtain rfl : j = 0 := by omega
    rfl
  | succ k ih =>
    rcases Nat.eq_or_lt_of_le hk with e | e
    · subst e; rfl
    · have := ih (by omega)
      simp only [rdAll]
      rw [this, if_pos h]
theorem rdAll_length {rd : St → α × St × Nat} {s : St} : ∀ j, (rdAll rd s j).2.2 = 0 → (rdAll rd s j).1.length = j := by
  intro j
  induction j with
  | zero => intro _; rfl
  | succ j ih =>
    intro h
    simp only [rdAll] at h ⊢
    split at h
    · exact absurd h ‹_›
    · rename_i h1
      have := ih (by omega)
      rw [if_neg h1]
      split at h
      · exact absurd h ‹_›
      · rename_i h2
        rw [if_neg h2, List.length_append, this]
        rfl
theorem rdAll_stop {rd : St → α × St × Nat} {s S T : St} {n j e : Nat} {ls : List α} {x : α} (hj : j < n) (hl : rdAll rd s j = (ls, S, 0)) (hw : rd S = (x, T, e)) (he : e ≠ 0) : rdAll rd s n = ([], T, e) := by
  have h1 : rdAll rd s (j + 1) = ([], T, e) := by simp [rdAll, hl, hw, he]
  rw [rdAll_err (j := j + 1) (by rw [h1]; exact he) n hj, h1]
theorem rdAll_next {rd : St → α × St × Nat} {s S T : St} {j : Nat} {ls : List α} {x : α} (hl : rdAll rd s j = (ls, S, 0)) (hw : rd S = (x, T, 0)) : rdAll rd s (j + 1) = (ls ++ [x], T, 0) := by simp [rdAll, hl, hw]
theorem rdAll_back {rd : St → α × St × Nat} {e : α → List UInt8} {d : α} {l : List α} (h : ∀ x ∈ l, ∀ more, rd ⟨e x ++ more, 0⟩ = (x, ⟨more, 0⟩, 0)) : ∀ j, j ≤ l.length → ∀ more, rdAll rd ⟨encAll e d l j ++ more, 0⟩ j = (l.take j, ⟨more, 0⟩, 0) := by
  intro j
  induction j with
  | zero => intro _ more; rfl
  | succ j ih =>
    intro hj more
    have h1 := ih (by omega) (e (l.getD j d) ++ more)
    have h2 := h _ (getD_in (d := d) (l := l) (k := j) (by omega)) more
    simp only [encAll, List.append_assoc, rdAll]
    rw [h1]
    simp only [h2]
    rw [if_neg (by decide), if_neg (by decide), List.take_add_one, getD_at (by omega), List.getElem?_eq_getElem (by omega)]
    rfl
theorem rdAll_once {rd : St → α × St × Nat} {e : α → List UInt8} {d : α} {ok : α → Prop} (hrd : ∀ L, (rd ⟨L, 0⟩).2.2 = 0 → ok (rd ⟨L, 0⟩).1 → L = e (rd ⟨L, 0⟩).1 ++ (rd ⟨L, 0⟩).2.1.rest ∧ (rd ⟨L, 0⟩).2.1.err = 0) :
    ∀ j (L : List UInt8), (rdAll rd ⟨L, 0⟩ j).2.2 = 0 → (∀ x ∈ (rdAll rd ⟨L, 0⟩ j).1, ok x) → L = encAll e d (rdAll rd ⟨L, 0⟩ j).1 j ++ (rdAll rd ⟨L, 0⟩ j).2.1.rest ∧ (rdAll rd ⟨L, 0⟩ j).2.1.err = 0 := by
  intro j
  induction j with
  | zero => intro L _ _; exact ⟨rfl, rfl⟩
  | succ j ih =>
    intro L he hall
    have h0 : (rdAll rd ⟨L, 0⟩ j).2.2 = 0 := by
      rcases Nat.eq_zero_or_pos (rdAll rd ⟨L, 0⟩ j).2.2 with h | h
      · exact h
      · rw [rdAll_err (j := j) (by omega) (j + 1) (by omega)] at he
        omega
    have hlen := rdAll_length j h0
    simp only [rdAll] at he hall ⊢
    rw [if_neg (by omega)] at he hall ⊢
    split at he
    · exact absurd he ‹_›
    · rename_i h2
      rw [if_neg h2] at hall ⊢
      dsimp only at he hall ⊢
      have h1 := ih L h0 (fun n hn => hall n (List.mem_append_left _ hn))
      have hj := hall (rd (rdAll rd ⟨L, 0⟩ j).2.1).1 (List.mem_append_right _ (List.mem_singleton.2 rfl))
      simp only [encAll]
      rw [encAll_left j (by omega), at_last hlen]
      generalize rdAll rd ⟨L, 0⟩ j = p at *
      obtain ⟨ls, ⟨R, E⟩, e'⟩ := p
      dsimp only at h0 hlen h1 hj h2 ⊢
      obtain ⟨h1, h1e⟩ := h1
      subst h1e
      have h3 := hrd R (by omega) hj
      refine ⟨?_, h3.2⟩
      rw [List.append_assoc, ← h3.1]
      exact h1
end

/-- What is wrong with an instruction. -/
def chkI (x : De) : Nat := Go.Proofs.YtbekfjjajggffaaDoor.inst.chk x.1 x.2.1 x.2.2
def chkFn (f : Fn) : Nat := if f.ar < 0 ∨ f.lo < f.ar ∨ 8 < f.lo then 1 else if f.co.length = 0 then 2 else if 200 < f.co.length then 4 else firstE chkI f.co
/-- What is wrong with a program. -/
def chkP (p : Pg) : Nat :=
  if (Go.Proofs.YtbekfjjajggffaaDoor.objs.chk p.ds).2 ≠ 0 then (Go.Proofs.YtbekfjjajggffaaDoor.objs.chk p.ds).2
  else if 32 < p.ws.length then 4
  else if firstE (Go.Proofs.YtbekfjjajggffaaDoor.need.chkW p.ds) p.ws ≠ 0 then firstE (Go.Proofs.YtbekfjjajggffaaDoor.need.chkW p.ds) p.ws
  else if p.fs.length = 0 then 2
  else if 16 < p.fs.length then 4
  else firstE chkFn p.fs
theorem chkFn_zero {f : Fn} (h : chkFn f = 0) : (0 ≤ f.ar ∧ f.ar ≤ f.lo ∧ f.lo ≤ 8) ∧ 0 < f.co.length ∧ f.co.length ≤ 200 ∧ ∀ x ∈ f.co, chkI x = 0 := by
  unfold chkFn at h
  split at h
  · cases h
  · split at h
    · cases h
    · split at h
      · cases h
      · exact ⟨by omega, by omega, by omega, firstE_zero h⟩
theorem chkP_zero {p : Pg} (h : chkP p = 0) : (Go.Proofs.YtbekfjjajggffaaDoor.objs.chk p.ds).2 = 0 ∧ p.ws.length ≤ 32 ∧ (∀ w ∈ p.ws, Go.Proofs.YtbekfjjajggffaaDoor.need.chkW p.ds w = 0) ∧ 0 < p.fs.length ∧ p.fs.length ≤ 16 ∧ ∀ f ∈ p.fs, chkFn f = 0 := by
  unfold chkP at h
  split at h
  · exact absurd h ‹_›
  · split at h
    · cases h
    · split at h
      · exact absurd h ‹_›
      · split at h
        · cases h
        · split at h
          · cases h
          · exact ⟨by omega, by omega, firstE_zero (by omega), by omega, by omega, firstE_zero h⟩

def encIn (x : De) : List UInt8 := Go.Proofs.YtbekfjjajggffaaDoor.inst.encI x.1 x.2.1 x.2.2
def encFn (f : Fn) : List UInt8 := num f.ar.toNat ++ (num f.lo.toNat ++ (num f.co.length ++ encAll encIn zero f.co f.co.length))
/-- The bytes of a program. -/
def encP (p : Pg) : List UInt8 :=
  [76, 74, 1] ++ (Go.Proofs.YtbekfjjajggffaaDoor.objs.encL p.ds ++ (num p.ws.length ++ (encAll Go.Proofs.YtbekfjjajggffaaDoor.need.encW [] p.ws p.ws.length ++ (num p.fs.length ++ encAll encFn Fn.zero p.fs p.fs.length))))

/-- A count that is read. -/
def rdMany (s : St) (most : Nat) : Nat × St × Nat := if most < (rdNum s).1 then (0, (rdNum s).2, 4) else ((rdNum s).1, (rdNum s).2, (rdNum s).2.err)
/-- A function that is read: by what reads an instruction. -/
def rdFn (rdI : St → De × St × Nat) (s : St) : Fn × St × Nat :=
  let a := rdNum s
  let b := rdNum a.2
  let n := rdMany b.2 200
  if b.2.err ≠ 0 then (Fn.zero, b.2, b.2.err)
  else if n.2.2 ≠ 0 then (Fn.zero, n.2.1, n.2.2)
  else
    let q := rdAll rdI n.2.1 n.1
    if q.2.2 ≠ 0 then (Fn.zero, q.2.1, q.2.2)
    else (⟨((min a.1 2147483648 : Nat) : Int), ((min b.1 2147483648 : Nat) : Int), q.1⟩, q.2.1, 0)
/-- The program whose bytes some are, or the first error. -/
def readP (rdI : St → De × St × Nat) (t : List UInt8) : Pg × Nat :=
  if t.take 3 ≠ [76, 74, 1] then (Pg.none, 2)
  else
    let l := Go.Proofs.YtbekfjjajggffaaDoor.objs.readL ⟨t.drop 3, 0⟩
    if l.2.2 ≠ 0 then (Pg.none, l.2.2)
    else
      let n := rdMany l.2.1 32
      if n.2.2 ≠ 0 then (Pg.none, n.2.2)
      else
        let ws := rdAll (Go.Proofs.YtbekfjjajggffaaDoor.need.readW l.1) n.2.1 n.1
        if ws.2.2 ≠ 0 then (Pg.none, ws.2.2)
        else
          let m := rdMany ws.2.1 16
          if m.2.2 ≠ 0 then (Pg.none, m.2.2)
          else
            let fs := rdAll (rdFn rdI) m.2.1 m.1
            if fs.2.2 ≠ 0 then (Pg.none, fs.2.2)
            else if fs.2.1.rest ≠ [] then (Pg.none, 2)
            else if chkP ⟨l.1, ws.1, fs.1⟩ ≠ 0 then (Pg.none, chkP ⟨l.1, ws.1, fs.1⟩)
            else (⟨l.1, ws.1, fs.1⟩, 0)

/-! What was put is got. -/
theorem rdMany_back {n most : Nat} (h : n ≤ most) (hm : most ≤ 1000) (more : List UInt8) : rdMany ⟨num n ++ more, 0⟩ most = (n, ⟨more, 0⟩, 0) := by
  unfold rdMany
  rw [rdNum_back (by omega)]
  dsimp only
  rw [if_neg (by omega)]
theorem readL_back {l : List De} (h : (Go.Proofs.YtbekfjjajggffaaDoor.objs.chk l).2 = 0) (more : List UInt8) : Go.Proofs.YtbekfjjajggffaaDoor.objs.readL ⟨Go.Proofs.YtbekfjjajggffaaDoor.objs.encL l ++ more, 0⟩ = (l, ⟨more, 0⟩, 0) := by
  obtain ⟨hl, _, hall⟩ := Go.Proofs.YtbekfjjajggffaaDoor.objs.chk_zero h
  have hn : Go.Proofs.YtbekfjjajggffaaDoor.objs.rdN ⟨Go.Proofs.YtbekfjjajggffaaDoor.objs.encL l ++ more, 0⟩ = ((l.length : Int), ⟨Go.Proofs.YtbekfjjajggffaaDoor.objs.encs l l.length ++ more, 0⟩) := by
    unfold Go.Proofs.YtbekfjjajggffaaDoor.objs.encL
    rw [List.append_assoc, Go.Proofs.YtbekfjjajggffaaDoor.objs.rdN_back (by omega)]
  have hL := Go.Proofs.YtbekfjjajggffaaDoor.objs.rdL_back hl hall l.length (Nat.le_refl _) more
  unfold Go.Proofs.YtbekfjjajggffaaDoor.objs.readL
  have h32 : ¬ (32 : Int) < (l.length : Int) := by omega
  simp only [hn, Int.toNat_natCast, hL, List.take_length, h, ne_eq, not_true_eq_false, if_false, if_neg h32]
theorem readW_back {d : List De} {w : List (List De)} (hd : (Go.Proofs.YtbekfjjajggffaaDoor.objs.chk d).2 = 0) (h : Go.Proofs.YtbekfjjajggffaaDoor.need.chkW d w = 0) (more : List UInt8) : Go.Proofs.YtbekfjjajggffaaDoor.need.readW d ⟨Go.Proofs.YtbekfjjajggffaaDoor.need.encW w ++ more, 0⟩ = (w, ⟨more, 0⟩, 0) := by
  obtain ⟨h0, h4, hall⟩ := Go.Proofs.YtbekfjjajggffaaDoor.need.chkW_zero h
  have hn : rdNum ⟨Go.Proofs.YtbekfjjajggffaaDoor.need.encW w ++ more, 0⟩ = (w.length, ⟨Go.Proofs.YtbekfjjajggffaaDoor.need.encWs w w.length ++ more, 0⟩) := by
    unfold Go.Proofs.YtbekfjjajggffaaDoor.need.encW
    rw [List.append_assoc, rdNum_back (by omega)]
  have hL := Go.Proofs.YtbekfjjajggffaaDoor.need.rdWays_back hd (fun l hl => (hall l hl).2) w.length (Nat.le_refl _) more
  unfold Go.Proofs.YtbekfjjajggffaaDoor.need.readW
  have h44 : ¬ 4 < w.length := by omega
  simp only [hn, hL, List.take_length, h, ne_eq, not_true_eq_false, if_false, if_neg h44]
theorem rdFn_back {rdI : St → De × St × Nat} (hI : ∀ x, chkI x = 0 → ∀ more, rdI ⟨encIn x ++ more, 0⟩ = (x, ⟨more, 0⟩, 0)) {f : Fn} (h : chkFn f = 0) (more : List UInt8) : rdFn rdI ⟨encFn f ++ more, 0⟩ = (f, ⟨more, 0⟩, 0) := by
  obtain ⟨⟨h1, h2, h3⟩, h4, h5, h6⟩ := chkFn_zero h
  obtain ⟨ar, lo, co⟩ := f
  dsimp only at h1 h2 h3 h4 h5 h6
  have ha : rdNum ⟨encFn ⟨ar, lo, co⟩ ++ more, 0⟩ = (ar.toNat, ⟨num lo.toNat ++ (num co.length ++ (encAll encIn zero co co.length ++ more)), 0⟩) := by
    unfold encFn
    simp only [List.append_assoc]
    rw [rdNum_back (by omega)]
  have hb : rdNum ⟨num lo.toNat ++ (num co.length ++ (encAll encIn zero co co.length ++ more)), 0⟩ = (lo.toNat, ⟨num co.length ++ (encAll encIn zero co co.length ++ more), 0⟩) := rdNum_back (by omega) _
  have hn := rdMany_back h5 (by omega) (encAll encIn zero co co.length ++ more)
  have hq := rdAll_back (rd := rdI) (e := encIn) (d := zero) (l := co) (fun x hx => hI x (h6 x hx)) co.length (Nat.le_refl _) more
  unfold rdFn
  simp only [ha, hb, hn, hq, List.take_length, ne_eq, not_true_eq_false, if_false]
  have e1 : ((min ar.toNat 2147483648 : Nat) : Int) = ar := by omega
  have e2 : ((min lo.toNat 2147483648 : Nat) : Int) = lo := by omega
  rw [e1, e2]
theorem back {rdI : St → De × St × Nat} (hI : ∀ x, chkI x = 0 → ∀ more, rdI ⟨encIn x ++ more, 0⟩ = (x, ⟨more, 0⟩, 0)) {p : Pg} (h : chkP p = 0) (more : List UInt8) : readP rdI (encP p ++ more) = if more ≠ [] then (Pg.none, 2) else (p, 0) := by
  obtain ⟨h1, h2, h3, h4, h5, h6⟩ := chkP_zero h
  obtain ⟨ds, ws, fs⟩ := p
  dsimp only at h1 h2 h3 h4 h5 h6
  have ht : (encP ⟨ds, ws, fs⟩ ++ more).take 3 = [76, 74, 1] := rfl
  have hd : (encP ⟨ds, ws, fs⟩ ++ more).drop 3 = Go.Proofs.YtbekfjjajggffaaDoor.objs.encL ds ++ (num ws.length ++ (encAll Go.Proofs.YtbekfjjajggffaaDoor.need.encW [] ws ws.length ++ (num fs.length ++ (encAll encFn Fn.zero fs fs.length ++ more)))) := by
    unfold encP
    simp only [List.append_assoc]
    rfl
  have hl := readL_back h1 (num ws.length ++ (encAll Go.Proofs.YtbekfjjajggffaaDoor.need.encW [] ws ws.length ++ (num fs.length ++ (encAll encFn Fn.zero fs fs.length ++ more))))
  have hn := rdMany_back h2 (by omega) (encAll Go.Proofs.YtbekfjjajggffaaDoor.need.encW [] ws ws.length ++ (num fs.length ++ (encAll encFn Fn.zero fs fs.length ++ more)))
  have hw := rdAll_back (rd := Go.Proofs.YtbekfjjajggffaaDoor.need.readW ds) (e := Go.Proofs.YtbekfjjajggffaaDoor.need.encW) (d := []) (l := ws) (fun x hx => readW_back h1 (h3 x hx)) ws.length (Nat.le_refl _) (num fs.length ++ (encAll encFn Fn.zero fs fs.length ++ more))
  have hm := rdMany_back h5 (by omega) (encAll encFn Fn.zero fs fs.length ++ more)
  have hf := rdAll_back (rd := rdFn rdI) (e := encFn) (d := Fn.zero) (l := fs) (fun x hx => rdFn_back hI (h6 x hx)) fs.length (Nat.le_refl _) more
  unfold readP
  simp only [ht, hd, hl, hn, hw, hm, hf, List.take_length, h, ne_eq, not_true_eq_false, if_false]
end Go.Proofs.YtbekfjjajggffaaDoor.pgm

/-
  How many values an instruction takes: the program's own call, wherever the second operand is not the greatest number. 
-/
namespace Go.Proofs.YtbekfjjajggffaaDoor.oper
open Go.RowKit Go.ChangeShapes

def tkL : List Int := [20, 42, 41, 3, 4, 5, 6, 7, 9, 10, 11, 12, 13, 14, 15, 40, 43, 2, 8, 16, 17, 19, 21, 24, 27, 28, 30, 31, 33, 39, 44, 46, 49]
theorem tk_rest : ∀ k : Nat, k < 52 → (tkL.all fun j => !((k : Int) == j)) = true → tk.getD k 0 = 0 := by decide +kernel
theorem tk_other (n : Int) (h : (tkL.all fun j => !(n == j)) = true) : numb tk n = 0 := by
  by_cases hk : 0 ≤ n ∧ n ≤ 51
  · obtain ⟨k, hk', rfl⟩ := nat_of hk
    rw [numb_at hk']
    exact tk_rest k hk' h
  · exact numb_no (by omega)
/-- How many values are taken, by operation, second operand, and arguments. -/
def pops (o b args : Int) : Int := if o = 20 then args else if o = 41 then b else if o = 42 then 1 + b else numb tk o
/-- The memory that an instruction handed in by value takes. -/
def insBox (o a b : Int) : Obj := .cells #[.int .i64 o, .int .i64 a, .int .i64 b] 46
theorem pops_other (n b args : Int) (h : (tkL.all fun j => !(n == j)) = true) : pops n b args = 0 := by
  have hne : ∀ j ∈ tkL, n ≠ j := fun j hj => by simpa using List.all_eq_true.1 h j hj
  unfold pops
  rw [if_neg (hne 20 (by decide)), if_neg (hne 41 (by decide)), if_neg (hne 42 (by decide)), tk_other n h]

set_option maxHeartbeats 2000000 in
theorem pops_any (o a b args : Int) (hb0 : -9223372036854775808 ≤ b) (hb1 : b < 9223372036854775807) (w : World) :
    Calls Tryd.prog 87 #[.agg #[.int .i64 o, .int .i64 a, .int .i64 b], .int .i64 args] w fun e w' => e = .returned (.int .i64 (pops o b args)) ∧ w' = w.alloc (insBox o a b) := by
  go_enter Tryd.func87, Tryd.ntmps87
  go_wp2
  all_goals go_ret
  all_goals refine ⟨ret_int ?_, rfl⟩
  all_goals first
    | (have hq := eq_of_beq ‹(o == _) = true›; subst hq; first | rfl | (unfold pops; simp only [Int.zero_add]; rfl))
    | (rw [pops_other o b args (by simp only [tkL, List.all_cons, List.all_nil, Bool.not_false, Bool.and_self, *])])
end Go.Proofs.YtbekfjjajggffaaDoor.oper
