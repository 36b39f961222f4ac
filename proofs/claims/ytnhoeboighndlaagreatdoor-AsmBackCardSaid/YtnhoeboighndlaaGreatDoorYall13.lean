/-
  Texts of one claim in one file: ETab, GOk, QRead, ENeed, ERefCheck. Each has its own sentence, with its conditions.
-/
import Derived.Test.YtnhoeboighndlaaGreatDoorYall12
import Derived.Test.YtnhoeboighndlaaGreatDoorYall9
import Derived.Lib.LaidTab
import Derived.Lib.ItoaNum
import Derived.WalkSmall
import Derived.Test.YtnhoeboighndlaaGreatDoorYall11
import Derived.Test.YtnhoeboighndlaaGreatDoorShelf
import Derived.Test.YtnhoeboighndlaaGreatDoorYall5
import Derived.Below
import Derived.WalkKit
import Derived.Deep.QuietTactic
import Derived.BigQuiet
import Derived.Lib.Hide
import Derived.Lib.AppendIntMem
/-
  The program's tables of needs lie where their initialisers lay them; with that: whether there is such a kind, whether a kind counts, and how many there may be (typed over the code of 4b95722). The card ties the tables to the program's text.
-/
namespace Go.Proofs.YtnhoeboighndlaaGreatDoor.need
open Go.RowKit Go.ChangeShapes
open Go.Proofs.YtnhoeboighndlaaGreatDoor.objs (De zero CellsAt DAt)
set_option linter.unusedVariables false

theorem ret_bool {a b : Bool} (h : a = b) : Ending.returned (.bool a) = .returned (.bool b) := by rw [h]
/-- The words of the kinds, and the kinds of objects that they ask, as the program's tables have them. -/
def namesE : List ByteArray := [⟨#[]⟩, ⟨#[108, 111, 99, 107]⟩, ⟨#[114, 101, 97, 100]⟩, ⟨#[119, 114, 105, 116, 101]⟩, ⟨#[100, 111, 119, 110]⟩, ⟨#[116, 97, 107, 101]⟩]
def askedE : List Int := [0, 1, 2, 2, 3, 6]
/-- The table of what is asked lies where its initialiser lays it, below all that is made. -/
structure Oka (w : World) : Prop where
  ak : ∀ j, j < 6 → w.cell? ⟨4, j, none⟩ = some (.int .i64 (askedE.getD j 0))
  lak : 4 < w.heap.size
theorem Oka.below {B : Nat} {w w' : World} (h : Oka w) (hb : Below B w w') (h2 : 4 < B) : Oka w' :=
  ⟨fun j hj => (hb.cell (p := ⟨4, j, none⟩) h2).trans (h.ak j hj), Nat.lt_of_lt_of_le h.lak hb.size⟩
theorem Oka.next {w w' : World} (h : Oka w) (hb : Below w.heap.size w w') : Oka w' := h.below hb h.lak
/-- The tables lie where their initialisers lay them. -/
structure Tabe (w : World) : Prop where
  nm : ∀ j, j < 6 → w.cell? ⟨2, j, none⟩ = some (.string (namesE.getD j ⟨#[]⟩))
  pw : Lib.TabIs Tryz.prog w "internal/strconv.uint64pow10" .u64 Lib.pow10Tab
theorem gPow : Tryz.prog.globalNamed "internal/strconv.uint64pow10" = some 5 := by kernel_rfl
/-- What the program's calls ask of the world: the tables lie where they should, below all that is made. -/
structure Oke (w : World) : Prop where
  tab : Tabe w
  oka : Oka w
  lnm : 2 < w.heap.size
  lpw : 5 < w.heap.size
theorem Oke.below {B : Nat} {w w' : World} (h : Oke w) (hb : Below B w w') (h1 : 2 < B) (h2 : 4 < B) (h3 : 5 < B) : Oke w' :=
  ⟨⟨fun j hj => (hb.cell (p := ⟨2, j, none⟩) h1).trans (h.tab.nm j hj), var?_below hb gPow h3 h.tab.pw⟩, h.oka.below hb h2,
    Nat.lt_of_lt_of_le h.lnm hb.size, Nat.lt_of_lt_of_le h.lpw hb.size⟩
theorem Oke.next {w w' : World} (h : Oke w) (hb : Below w.heap.size w w') : Oke w' := h.below hb h.lnm h.oka.lak h.lpw
theorem asked_kn {k : Nat} (h1 : 1 ≤ k) (h5 : k ≤ 5) : askedE.getD k 0 = kn (k : Int) := by
  have h : k = 1 ∨ k = 2 ∨ k = 3 ∨ k = 4 ∨ k = 5 := by omega
  rcases h with rfl | rfl | rfl | rfl | rfl <;> rfl
theorem names_word {k : Nat} (h1 : 1 ≤ k) (h5 : k ≤ 5) : namesE.getD k ⟨#[]⟩ = ⟨(word (k : Int)).toArray⟩ := by
  have h : k = 1 ∨ k = 2 ∨ k = 3 ∨ k = 4 ∨ k = 5 := by omega
  rcases h with rfl | rfl | rfl | rfl | rfl <;> rfl

theorem known_any (k : Int) (w : World) : Calls Tryz.prog 71 #[.int .i64 k] w fun e w' => e = .returned (.bool (decide (1 ≤ k ∧ k ≤ 5))) ∧ w = w' := by
  by_cases h1 : 1 ≤ k
  · by_cases h2 : k ≤ 5
    · rw [decide_eq_true ⟨h1, h2⟩]
      go_enter Tryz.func71, Tryz.ntmps71
      go_wp2
      go_ret
      exact ⟨rfl, rfl⟩
    · rw [decide_eq_false (fun h => h2 h.2)]
      have hd : decide (k ≤ 5) = false := by simpa using h2
      go_enter Tryz.func71, Tryz.ntmps71
      go_wp2
      go_ret
      exact ⟨rfl, rfl⟩
  · rw [decide_eq_false (fun h => h1 h.1)]
    have hd : decide (1 ≤ k) = false := by simpa using h1
    go_enter Tryz.func71, Tryz.ntmps71
    go_wp2
    go_ret
    exact ⟨rfl, rfl⟩
theorem counts_any (k : Int) (w : World) : Calls Tryz.prog 72 #[.int .i64 k] w fun e w' => e = .returned (.bool (decide (k = 4 ∨ k = 5))) ∧ w = w' := by
  by_cases h4 : k = 4
  · subst h4
    go_enter Tryz.func72, Tryz.ntmps72
    go_wp2
    go_ret
    exact ⟨rfl, rfl⟩
  · have e4 : (k == 4) = false := by simpa using h4
    by_cases h5 : k = 5
    · subst h5
      go_enter Tryz.func72, Tryz.ntmps72
      go_wp2
      go_ret
      exact ⟨rfl, rfl⟩
    · have e5 : (k == 5) = false := by simpa using h5
      rw [decide_eq_false (by omega)]
      go_enter Tryz.func72, Tryz.ntmps72
      go_wp2
      go_ret
      exact ⟨rfl, rfl⟩
/-- What is wrong with how many there are. -/
def manyC (n : Nat) : Nat := if n = 0 then 2 else if 4 < n then 4 else 0
theorem many_any (n : Nat) (w : World) : Calls Tryz.prog 67 #[.int .i64 (n : Int), .int .i64 4] w fun e w' => e = .returned (.int .i64 ((manyC n : Nat) : Int)) ∧ w = w' :=
  Go.Proofs.YtnhoeboighndlaaGreatDoor.span.count_any n 4 w
end Go.Proofs.YtnhoeboighndlaaGreatDoor.need

/-
  What the program's calls on programs ask of the world: three tables lie where their initialisers lay them. No condition.
-/
namespace Go.Proofs.YtnhoeboighndlaaGreatDoor.pgm
open Go.RowKit Go.ChangeShapes
open Go.Proofs.YtnhoeboighndlaaGreatDoor.objs (Okd)
open Go.Proofs.YtnhoeboighndlaaGreatDoor.inst (Okw)
open Go.Proofs.YtnhoeboighndlaaGreatDoor.need (Oka)
set_option linter.unusedVariables false

/-- What the program's calls ask of the world: the three tables lie where they should, below all that is made. -/
structure Okp (w : World) : Prop where
  ins : Okw w
  decl : Okd w
  need : Oka w
/-- A block above the tables. -/
def Past (b : Nat) : Prop := 1 < b ∧ 0 < b ∧ 4 < b
theorem Okp.below {B : Nat} {w w' : World} (h : Okp w) (hb : Below B w w') (hp : Past B) : Okp w' := ⟨h.ins.below hb hp.1, h.decl.below hb hp.2.1, h.need.below hb hp.2.2⟩
theorem Okp.past {w : World} (h : Okp w) : Past w.heap.size := ⟨h.ins.2, h.decl.2, h.need.lak⟩
theorem Okp.next {w w' : World} (h : Okp w) (hb : Below w.heap.size w w') : Okp w' := h.below hb h.past
end Go.Proofs.YtnhoeboighndlaaGreatDoor.pgm

/-
  The program's reading of a number in writing: strconv.Atoi, strconv.Itoa and strings.TrimPrefix by the library's contracts (typed over the code of 0aab59b). The library's two errors and its table of powers of ten must be there.
-/
namespace Go.Proofs.YtnhoeboighndlaaGreatDoor.digi
open Go.RowKit Go.ChangeShapes
set_option linter.unusedVariables false

/-- The library's two errors are there. -/
def Errs (w : World) : Prop := ∃ t1 p1 t2 p2, w.cell? ⟨10, 0, none⟩ = some (.iface t1 p1) ∧ w.cell? ⟨11, 0, none⟩ = some (.iface t2 p2)
theorem Errs.below {B : Nat} {w w' : World} (h : Errs w) (hb : Below B w w') (hB : 10 < B ∧ 11 < B) : Errs w' := by
  obtain ⟨t1, p1, t2, p2, h1, h2⟩ := h
  exact ⟨t1, p1, t2, p2, (hb.cell (p := ⟨10, 0, none⟩) hB.1).trans h1, (hb.cell (p := ⟨11, 0, none⟩) hB.2).trans h2⟩
/-- The library's table of powers of ten lies where its initialiser lays it. -/
def Pows (w : World) : Prop := Lib.TabIs Tryz.prog w "internal/strconv.uint64pow10" .u64 Lib.pow10Tab
theorem gPows : Tryz.prog.globalNamed "internal/strconv.uint64pow10" = some 5 := by kernel_rfl

theorem atoi_ok (t : ByteArray) (ht : t.size ≤ 1048576) (v : Int) (h : Lib.atoiAll t.data.toList = .ok v) (w : World) :
    Calls Tryz.prog 126 #[.string t] w fun e w' => e = .returned (.tuple #[.int .i64 v, .nilIface]) ∧ Below w.heap.size w w' :=
  (Tryz.strconv_Atoi_ok t (by omega) v h w).mono fun e w' ⟨he, hw⟩ => ⟨he, by
    rcases hw with rfl | ⟨x, rfl⟩
    · exact Below.refl _ _
    · exact Lib.bytesWorld_below _ _ _⟩
theorem atoi_bad (t : ByteArray) (ht : t.size ≤ 1048576) (h : ∀ v, Lib.atoiAll t.data.toList ≠ .ok v) (w : World) (hE : Errs w) :
    Calls Tryz.prog 126 #[.string t] w fun e w' => ∃ v N, e = .returned (.tuple #[.int .i64 v, .iface 168 (.pointer (some ⟨N, 0, none⟩))]) ∧ Below w.heap.size w w' := by
  obtain ⟨t1, p1, t2, p2, h1, h2⟩ := hE
  rcases hA : Lib.atoiAll t.data.toList with v | _ | _
  · exact absurd hA (h v)
  · exact (Any.strconv_Atoi_syntax Tryz.laysC172 t (by omega) hA _ w h1 (.inr ⟨_, _, rfl⟩)).mono fun e w' ⟨N, he, _, _, hb⟩ => ⟨_, N, he, hb⟩
  · exact (Tryz.strconv_Atoi_range t (by omega) hA _ w h2 (.inr ⟨_, _, rfl⟩)).mono fun e w' ⟨N, he, _, _, hb⟩ => ⟨_, N, he, hb⟩
theorem itoa_all (n : Int) (hn : I64 n) (w : World) (hw : Pows w) : Calls Tryz.prog 43 #[.int .i64 n] w fun e w' => e = .returned (.string ⟨(Lib.itoa n).toArray⟩) ∧ Below w.heap.size w w' := by
  refine (Tryz.strconv_Itoa n hn.1 hn.2 w hw).mono ?_
  rintro e w' ⟨rfl, k, os, rfl⟩
  exact ⟨rfl, Lib.below_grow _ w (Nat.le_refl _) k os⟩

/-- What is asked of the world, below all that is made. -/
structure Okn (w : World) : Prop where
  errs : Errs w
  pows : Pows w
  ls : 10 < w.heap.size
  lr : 11 < w.heap.size
  lp : 5 < w.heap.size
theorem Okn.below {B : Nat} {w w' : World} (h : Okn w) (hb : Below B w w') (h1 : 10 < B) (h2 : 11 < B) (h3 : 5 < B) : Okn w' :=
  ⟨h.errs.below hb ⟨h1, h2⟩, var?_below hb gPows h3 h.pows, Nat.lt_of_lt_of_le h.ls hb.size, Nat.lt_of_lt_of_le h.lr hb.size, Nat.lt_of_lt_of_le h.lp hb.size⟩
theorem Okn.next {w w' : World} (h : Okn w) (hb : Below w.heap.size w w') : Okn w' := h.below hb h.ls h.lr h.lp

def ReadPost (t : List UInt8) (k : Nat) (w : World) (e : Ending) (w' : World) : Prop := e = .returned (.tuple #[.int .i64 ((readD t k).getD 0), .bool (readD t k).isSome]) ∧ Below w.heap.size w w'
set_option maxHeartbeats 1000000 in
theorem read_any (t : ByteArray) (ht : t.size ≤ 1048576) (k : Nat) (hk : k ≤ 1000) (w : World) (hw : Okn w) :
    Calls Tryz.prog 114 #[.string t, .int .i64 (k : Int)] w (ReadPost t.data.toList k w) := by
  unfold ReadPost
  by_cases hok : ∃ v, Lib.atoiAll t.data.toList = .ok v
  · obtain ⟨v, hv⟩ := hok
    have HA := Lib.hid (atoi_ok t ht v hv w)
    have HI := fun u hu => Lib.hid (itoa_all v (atoi_small hv) u hu)
    have HR : Hid (readD t.data.toList k = if Lib.itoa v = t.data.toList ∧ (Lib.trimPrefix t.data.toList [45]).length ≤ k then some v else none) := Lib.hid (by unfold readD; rw [hv])
    have HW := Lib.hid hw
    clear hv hw
    by_cases he : Lib.itoa v = t.data.toList
    · have hq : (Lib.itoa v == t.toList) = true := by rw [ByteArray.toList_eq, beq_iff_eq, he]
      have HT := fun u => Lib.hid (Tryz.strings_TrimPrefix t ⟨#[45]⟩ u)
      have hsz : ((ByteArray.mk (Lib.trimPrefix t.data.toList (ByteArray.mk #[45]).data.toList).toArray).size : Int) = ((Lib.trimPrefix t.data.toList [45]).length : Nat) := rfl
      have HZ := Lib.hid hsz
      have HQ := Lib.hid hq
      clear hq hsz
      by_cases hl : (Lib.trimPrefix t.data.toList [45]).length ≤ k
      · rw [HR.out, if_pos ⟨he, hl⟩]
        have hd : decide (k < (Lib.trimPrefix t.data.toList [45]).length) = false := decide_eq_false (by omega)
        have HD := Lib.hid hd
        clear HR he hl hd
        go_enter Tryz.func114, Tryz.ntmps114
        go_wp2_with fail
        refine HA.out.mono ?_
        rintro e w1 ⟨rfl, hb⟩
        have HB := Lib.hid hb
        clear hb
        go_wp2_with fail
        refine (HI _ (HW.out.next HB.out).pows).out.mono ?_
        rintro e w2 ⟨rfl, hb2⟩
        have HB2 := Lib.hid (HB.out.trans (hb2.mono HB.out.size))
        have hq := HQ.out
        clear hb2
        go_wp2_with fail
        refine (HT _).out.mono ?_
        rintro e w3 ⟨rfl, rfl⟩
        have hz := HZ.out
        have hd := HD.out
        go_wp2
        go_ret2
        exact ⟨rfl, HB2.out⟩
      · rw [HR.out, if_neg (fun h => hl h.2)]
        have hd : decide (k < (Lib.trimPrefix t.data.toList [45]).length) = true := decide_eq_true (by omega)
        have HD := Lib.hid hd
        clear HR he hl hd
        go_enter Tryz.func114, Tryz.ntmps114
        go_wp2_with fail
        refine HA.out.mono ?_
        rintro e w1 ⟨rfl, hb⟩
        have HB := Lib.hid hb
        clear hb
        go_wp2_with fail
        refine (HI _ (HW.out.next HB.out).pows).out.mono ?_
        rintro e w2 ⟨rfl, hb2⟩
        have HB2 := Lib.hid (HB.out.trans (hb2.mono HB.out.size))
        have hq := HQ.out
        clear hb2
        go_wp2_with fail
        refine (HT _).out.mono ?_
        rintro e w3 ⟨rfl, rfl⟩
        have hz := HZ.out
        have hd := HD.out
        go_wp2
        go_ret2
        exact ⟨rfl, HB2.out⟩
    · rw [HR.out, if_neg (fun h => he h.1)]
      have hq : (Lib.itoa v == t.toList) = false := by rw [ByteArray.toList_eq, beq_eq_false_iff_ne]; exact he
      have HQ := Lib.hid hq
      clear HR he hq
      go_enter Tryz.func114, Tryz.ntmps114
      go_wp2_with fail
      refine HA.out.mono ?_
      rintro e w1 ⟨rfl, hb⟩
      have HB := Lib.hid hb
      clear hb
      go_wp2_with fail
      refine (HI _ (HW.out.next HB.out).pows).out.mono ?_
      rintro e w2 ⟨rfl, hb2⟩
      have HB2 := Lib.hid (HB.out.trans (hb2.mono HB.out.size))
      have hq := HQ.out
      clear hb2
      go_wp2
      go_ret2
      exact ⟨rfl, HB2.out⟩
  · have hbad : ∀ v, Lib.atoiAll t.data.toList ≠ .ok v := fun v h => hok ⟨v, h⟩
    have HR : readD t.data.toList k = none := by
      unfold readD
      split
      · rename_i v hv
        exact absurd hv (hbad v)
      · rfl
    rw [HR]
    have HA := Lib.hid (atoi_bad t ht hbad w hw.errs)
    clear hbad hok hw HR
    go_enter Tryz.func114, Tryz.ntmps114
    go_wp2_with fail
    refine HA.out.mono ?_
    rintro e w1 ⟨v, N, rfl, hb⟩
    go_wp2
    go_ret2
    exact ⟨rfl, hb⟩
end Go.Proofs.YtnhoeboighndlaaGreatDoor.digi

/-
  The program's own answer whether a need of a kind that there is asks what may be (typed over the code of 5ef5b61): for every need. The tables must lie where their initialisers lay them.
-/
namespace Go.Proofs.YtnhoeboighndlaaGreatDoor.need
open Go.RowKit Go.ChangeShapes
open Go.Proofs.YtnhoeboighndlaaGreatDoor.objs (De zero CellsAt DAt)
open Go.Proofs.YtnhoeboighndlaaGreatDoor.span (within_any)
set_option linter.unusedVariables false

/-- May the number be that a need has, of an object with numbers y, z? -/
def amount (k : Nat) (b y z : Int) : Bool := if k = 4 then decide (1 ≤ b ∧ b ≤ z) else if k = 5 then decide (1 ≤ b ∧ b ≤ y) else b == 0
theorem oneN_out {d : List De} {kk : Nat} {a b : Int} (h1 : 1 ≤ kk) (h5 : kk ≤ 5) (ho : a < 0 ∨ (d.length : Int) ≤ a) : oneN d ((kk : Int), a, b) = 1 := by
  unfold oneN
  dsimp only
  rw [if_neg (by omega), if_pos (by rcases ho with h | h; exact .inl h; exact .inr (.inl h))]
theorem oneN_in {d : List De} {kk m : Nat} {b x y z : Int} (h1 : 1 ≤ kk) (h5 : kk ≤ 5) (hm : m < d.length) (hd : d.getD m zero = (x, y, z)) : decide (oneN d ((kk : Int), (m : Int), b) = 0) = (!(x != kn kk) && amount kk b y z) := by
  unfold oneN hi lo amount
  dsimp only
  rw [if_neg (by omega), Int.toNat_natCast, hd]
  dsimp only
  by_cases hx : x = kn kk
  · rw [if_neg (by rintro (h | h | h); omega; omega; exact h hx)]
    have e : (x != kn kk) = false := by simp [hx]
    rw [e, Bool.not_false, Bool.true_and]
    by_cases e4 : kk = 4
    · have q1 : (if (kk : Int) = 4 ∨ (kk : Int) = 5 then (1 : Int) else 0) = 1 := if_pos (by omega)
      have q2 : (if (kk : Int) = 4 then z else if (kk : Int) = 5 then y else 0) = z := if_pos (by omega)
      rw [q1, q2, if_pos e4]
      by_cases hc : 1 ≤ b ∧ b ≤ z
      · rw [if_neg (by omega), decide_eq_true hc]; rfl
      · rw [if_pos (by omega), decide_eq_false hc]; rfl
    · by_cases e5 : kk = 5
      · have q1 : (if (kk : Int) = 4 ∨ (kk : Int) = 5 then (1 : Int) else 0) = 1 := if_pos (by omega)
        have q2 : (if (kk : Int) = 4 then z else if (kk : Int) = 5 then y else 0) = y := by rw [if_neg (by omega), if_pos (by omega)]
        rw [q1, q2, if_neg e4, if_pos e5]
        by_cases hc : 1 ≤ b ∧ b ≤ y
        · rw [if_neg (by omega), decide_eq_true hc]; rfl
        · rw [if_pos (by omega), decide_eq_false hc]; rfl
      · have q1 : (if (kk : Int) = 4 ∨ (kk : Int) = 5 then (1 : Int) else 0) = 0 := if_neg (by omega)
        have q2 : (if (kk : Int) = 4 then z else if (kk : Int) = 5 then y else 0) = 0 := by rw [if_neg (by omega), if_neg (by omega)]
        rw [q1, q2, if_neg e4, if_neg e5]
        by_cases hc : b = 0
        · subst hc; rfl
        · rw [if_pos (by omega)]
          simp [hc]
  · rw [if_pos (.inr (.inr hx))]
    have e : (x != kn kk) = true := by simpa using hx
    rw [e]
    rfl

/-- Behind the need's box. -/
structure Nb (w : World) (A : Option Addr) (d : List De) (k a b : Int) (W : World) : Prop where
  below : Below w.heap.size w W
  box : W.cell? ⟨w.heap.size, 0, none⟩ = some (.int .i64 k) ∧ W.cell? ⟨w.heap.size, 1, none⟩ = some (.int .i64 a) ∧ W.cell? ⟨w.heap.size, 2, none⟩ = some (.int .i64 b)
  list : DAt W A d
  ok : Oka W
theorem nb_new {w : World} {A : Option Addr} {d : List De} (k a b : Int) (hA : DAt w A d) (hw : Oka w) : Nb w A d k a b (w.alloc (needBox k a b)) := by
  have hb := nbox_below w k a b
  refine ⟨hb, ?_, hA.next hb, hw.next hb⟩
  unfold World.cell?
  rw [heap_alloc_new w _]
  exact ⟨rfl, rfl, rfl⟩
/-- Behind the object's box. -/
structure Ob (w : World) (g2 : Nat) (k a b x y z : Int) (W : World) : Prop where
  below : Below w.heap.size w W
  box : W.cell? ⟨w.heap.size, 0, none⟩ = some (.int .i64 k) ∧ W.cell? ⟨w.heap.size, 1, none⟩ = some (.int .i64 a) ∧ W.cell? ⟨w.heap.size, 2, none⟩ = some (.int .i64 b)
  obj : W.cell? ⟨g2, 0, none⟩ = some (.int .i64 x) ∧ W.cell? ⟨g2, 1, none⟩ = some (.int .i64 y) ∧ W.cell? ⟨g2, 2, none⟩ = some (.int .i64 z)
  ok : Oka W
def objBox (x y z : Int) : Obj := .cells #[.int .i64 x, .int .i64 y, .int .i64 z] 44
theorem Nb.obj {w W : World} {A : Option Addr} {d : List De} {k a b : Int} (h : Nb w A d k a b W) (x y z : Int) : Ob w W.heap.size k a b x y z (W.alloc (objBox x y z)) := by
  have hb : Below W.heap.size W (W.alloc (objBox x y z)) := (Below.refl _ W).alloc (Nat.le_refl _) _
  have hg : w.heap.size < W.heap.size := by
    rcases Nat.lt_or_ge w.heap.size W.heap.size with h1 | h1
    · exact h1
    · have := h.box.1
      simp [World.cell?, Array.getElem?_eq_none h1] at this
  refine ⟨h.below.trans (hb.mono h.below.size), ?_, ?_, h.ok.next hb⟩
  · rw [hb.cell (p := ⟨w.heap.size, 0, none⟩) hg, hb.cell (p := ⟨w.heap.size, 1, none⟩) hg, hb.cell (p := ⟨w.heap.size, 2, none⟩) hg]
    exact h.box
  · unfold World.cell?
    rw [heap_alloc_new W _]
    exact ⟨rfl, rfl, rfl⟩

set_option maxRecDepth 100000 in
set_option maxHeartbeats 2000000 in
theorem range_out (A : Option Addr) (cap : Nat) (d : List De) (kk : Nat) (a b : Int) (h1 : 1 ≤ kk) (h5 : kk ≤ 5) (ho : a < 0 ∨ (d.length : Int) ≤ a) (w : World) :
    Calls Tryz.prog 102 #[.slice A d.length cap, .agg #[.int .i64 (kk : Int), .int .i64 a, .int .i64 b]] w fun e w' => e = .returned (.bool (decide (oneN d ((kk : Int), a, b) = 0))) ∧ Below w.heap.size w w' := by
  rw [oneN_out h1 h5 ho, decide_eq_false (by decide)]
  have HB := Lib.hid (nbox_below w (kk : Int) a b)
  unfold needBox at HB
  by_cases h0 : a < 0
  · have d0 : decide (a < 0) = true := by simpa using h0
    clear ho h0
    go_enter Tryz.func102, Tryz.ntmps102
    go_wp2
    go_ret
    exact ⟨rfl, HB.out⟩
  · have d0 : decide (a < 0) = false := by simpa using h0
    have dl : decide ((d.length : Int) ≤ a) = true := by simp; omega
    clear ho h0
    go_enter Tryz.func102, Tryz.ntmps102
    go_wp2
    go_ret
    exact ⟨rfl, HB.out⟩

set_option maxRecDepth 100000 in
set_option maxHeartbeats 4000000 in
theorem range_in (A : Option Addr) (cap : Nat) (d : List De) (kk m : Nat) (b : Int) (h1 : 1 ≤ kk) (h5 : kk ≤ 5) (hm : m < d.length) (hl : d.length ≤ 9223372036854775807) (w : World) (hA : DAt w A d) (hw : Oka w) :
    Calls Tryz.prog 102 #[.slice A d.length cap, .agg #[.int .i64 (kk : Int), .int .i64 (m : Int), .int .i64 b]] w fun e w' => e = .returned (.bool (decide (oneN d ((kk : Int), (m : Int), b) = 0))) ∧ Below w.heap.size w w' := by
  obtain ⟨⟨x, y, z⟩, hdm⟩ : ∃ t : De, d.getD m zero = t := ⟨_, rfl⟩
  obtain ⟨r, hr⟩ : ∃ r, r = decide (oneN d ((kk : Int), (m : Int), b) = 0) := ⟨_, rfl⟩
  rw [← hr]
  have HR := Lib.hid (hr.trans (oneN_in h1 h5 hm hdm))
  have HN := Lib.hid (nb_new (kk : Int) (m : Int) b hA hw)
  have HO := Lib.hid (HN.out.obj x y z)
  have H1 := fun W => Lib.hid (within_any b 1 z W)
  have H2 := fun W => Lib.hid (within_any b 1 y W)
  have d0 : decide ((m : Int) < 0) = false := by simp
  have dl : decide (d.length ≤ m) = false := by simp; omega
  have dm : (m : Int) < (d.length : Int) := by omega
  have dm0 : (0 : Int) ≤ (m : Int) := by omega
  have dk : (kk : Int) < 6 := by omega
  have dk0 : (0 : Int) ≤ (kk : Int) := by omega
  have hb0 := hA.next (nbox_below w (kk : Int) (m : Int) b)
  obtain ⟨b0, off, rfl, hbl, x0, x1, x2⟩ := hb0 m hm
  rw [hdm] at x0 x1 x2
  dsimp only at x0 x1 x2
  obtain ⟨c0, c1, c2⟩ := HN.out.box
  have hk := asked_kn h1 h5
  have HK := Lib.hid (And.intro h1 h5)
  unfold needBox at HO c0 c1 c2 x0 x1 x2
  rw [World.size_alloc] at HO
  unfold objBox at HO
  clear hA hw hm h1 h5 hb0 hbl HN hdm hr
  go_enter Tryz.func102, Tryz.ntmps102
  go_upto_region 4 with fail
  clear c0 c1 c2 x0 x1 x2
  generalize (w.alloc (.cells #[.int .i64 (kk : Int), .int .i64 (m : Int), .int .i64 b] 79)).alloc (.cells #[.int .i64 x, .int .i64 y, .int .i64 z] 44) = W at *
  obtain ⟨c0, c1, c2⟩ := HO.out.box
  obtain ⟨x0, x1, x2⟩ := HO.out.obj
  have ck := HO.out.ok.ak kk (by omega)
  rw [hk] at ck
  cases hx : (x != kn (kk : Int)) with
  | true =>
    have HE : Hid (r = false) := Lib.hid (by rw [HR.out, hx]; rfl)
    go_quiet (fail)
    go_wp2
    go_ret
    exact ⟨ret_bool (by rw [HE.out]), below_drewN HO.out.below _⟩
  | false =>
    have HE : Hid (r = amount kk b y z) := Lib.hid (by rw [HR.out, hx, Bool.not_false, Bool.true_and])
    clear HR
    unfold amount at HE
    by_cases e4 : kk = 4
    · rw [if_pos e4] at HE
      have f4 : ((kk : Int) == 4) = true := by simp; omega
      clear e4
      go_quiet (fail)
      go_wp2_with fail
      refine (H1 _).out.mono ?_
      rintro e w1 ⟨rfl, rfl⟩
      go_wp2
      go_ret
      exact ⟨ret_bool (by rw [HE.out, Bool.decide_and]), below_drewN HO.out.below _⟩
    · rw [if_neg e4] at HE
      have f4 : ((kk : Int) == 4) = false := by simp; omega
      by_cases e5 : kk = 5
      · rw [if_pos e5] at HE
        have f5 : ((kk : Int) == 5) = true := by simp; omega
        clear e4 e5
        go_quiet (fail)
        go_wp2_with fail
        refine (H2 _).out.mono ?_
        rintro e w1 ⟨rfl, rfl⟩
        go_wp2
        go_ret
        exact ⟨ret_bool (by rw [HE.out, Bool.decide_and]), below_drewN HO.out.below _⟩
      · rw [if_neg e5] at HE
        have f5 : ((kk : Int) == 5) = false := by simp; omega
        clear e4 e5
        go_quiet (fail)
        go_wp2
        go_ret
        exact ⟨ret_bool HE.out.symm, below_drewN HO.out.below _⟩

theorem range_any (A : Option Addr) (cap : Nat) (d : List De) (n : De) (hk : 1 ≤ n.1 ∧ n.1 ≤ 5) (hl : d.length ≤ 9223372036854775807) (w : World) (hA : DAt w A d) (hw : Oka w) :
    Calls Tryz.prog 102 #[.slice A d.length cap, .agg #[.int .i64 n.1, .int .i64 n.2.1, .int .i64 n.2.2]] w fun e w' => e = .returned (.bool (decide (oneN d n = 0))) ∧ Below w.heap.size w w' := by
  obtain ⟨k, a, b⟩ := n
  dsimp only at hk ⊢
  obtain ⟨kk, rfl⟩ : ∃ kk : Nat, k = (kk : Int) := ⟨k.toNat, by omega⟩
  by_cases ho : a < 0 ∨ (d.length : Int) ≤ a
  · exact range_out A cap d kk a b (by omega) (by omega) ho w
  · obtain ⟨m, rfl⟩ : ∃ m : Nat, a = (m : Int) := ⟨a.toNat, by omega⟩
    exact range_in A cap d kk m b (by omega) (by omega) (by omega) hl w hA hw
end Go.Proofs.YtnhoeboighndlaaGreatDoor.need

/-
  The document's own answer what is wrong with a wait: also of one that is longer than may be. No condition but that its lengths are ints.
-/
namespace Go.Proofs.YtnhoeboighndlaaGreatDoor.need
open Go.RowKit Go.ChangeShapes
open Go.Proofs.YtnhoeboighndlaaGreatDoor.objs (De zero CellsAt DAt below_drewN)
set_option linter.unusedVariables false

theorem clashTo_yes {l : List De} {k j : Nat} (hj : j < k) (h : clash (l.getD j zero) (l.getD k zero) = true) : ∀ m, j < m → clashTo l k m = true := by
  intro m
  induction m with
  | zero => intro h; omega
  | succ m ih =>
    intro hm
    unfold clashTo
    rcases Nat.lt_or_ge j m with h1 | h1
    · rw [ih h1, Bool.true_or]
    · obtain rfl : m = j := by omega
      rw [h, Bool.or_true]
theorem twiceTo_yes {l : List De} {k : Nat} (h : clashTo l k k = true) : ∀ m, k < m → twiceTo l m = true := by
  intro m
  induction m with
  | zero => intro h; omega
  | succ m ih =>
    intro hm
    unfold twiceTo
    rcases Nat.lt_or_ge k m with h1 | h1
    · rw [ih h1, Bool.true_or]
    · obtain rfl : m = k := by omega
      rw [h, Bool.or_true]
theorem chkWay_2 {d l : List De} (h : l.length = 0) : chkWay d l = 2 := by unfold chkWay; rw [if_pos h]
theorem chkWay_4 {d l : List De} (h : 4 < l.length) : chkWay d l = 4 := by unfold chkWay; rw [if_neg (by omega), if_pos h]
theorem chkWay_bad {d l : List De} (h0 : l.length ≠ 0) (h4 : ¬ 4 < l.length) (h : ones d l ≠ 0) : chkWay d l = ones d l := by unfold chkWay; rw [if_neg h0, if_neg h4, if_pos h]
theorem chkWay_twice {d l : List De} (h0 : l.length ≠ 0) (h4 : ¬ 4 < l.length) (h1 : ones d l = 0) (h : twiceTo l l.length = true) : chkWay d l = 2 := by unfold chkWay; rw [if_neg h0, if_neg h4, if_neg (by omega), if_pos h]
theorem chkWay_fine {d l : List De} (h0 : l.length ≠ 0) (h4 : ¬ 4 < l.length) (h1 : ones d l = 0) (h : twiceTo l l.length = false) : chkWay d l = 0 := by unfold chkWay; rw [if_neg h0, if_neg h4, if_neg (by omega), if_neg (by rw [h]; decide)]

def ChkPost9 (c : Nat) (w : World) (e : Ending) (w' : World) : Prop := e = .returned (.int .i64 (c : Nat)) ∧ Below w.heap.size w w'
set_option maxHeartbeats 1000000 in
theorem refCheck9_2 (A B : Option Addr) (nd capd capw : Nat) (w : World) : Calls Tryz.prog 17 #[.slice A nd capd, .slice B 0 capw] w (ChkPost9 2 w) := by
  unfold ChkPost9
  go_enter Tryz.func17, Tryz.ntmps17
  go_wp2_with fail
  go_ret
  exact ⟨rfl, Below.refl _ _⟩
set_option maxHeartbeats 1000000 in
theorem refCheck9_4 (A B : Option Addr) (nd capd n capw : Nat) (hn : 4 < n) (w : World) : Calls Tryz.prog 17 #[.slice A nd capd, .slice B n capw] w (ChkPost9 4 w) := by
  unfold ChkPost9
  have h0 : ((n : Int) == 0) = false := by simp; omega
  have h4 : decide ((4 : Int) < (n : Int)) = true := by simp; omega
  clear hn
  go_enter Tryz.func17, Tryz.ntmps17
  go_wp2_with fail
  go_ret
  exact ⟨rfl, Below.refl _ _⟩

set_option maxRecDepth 100000 in
set_option maxHeartbeats 16000000 in
theorem refCheck9_any (A B : Option Addr) (capd n capw : Nat) (d : List De) (l : List (List De)) (hdl : d.length ≤ 9223372036854775807) (w : World) (hA : DAt w A d) (hB : WG w B n l) :
    Calls Tryz.prog 17 #[.slice A d.length capd, .slice B n capw] w (ChkPost9 (chkW d l) w) := by
  have hmin := hB.1
  by_cases h0 : n = 0
  · subst h0
    have e : chkW d l = 2 := by unfold chkW; rw [if_pos (by omega)]
    rw [e]
    exact refCheck9_2 A B d.length capd capw w
  · by_cases h4 : 4 < n
    · have e : chkW d l = 4 := by unfold chkW; rw [if_neg (by omega), if_pos (by omega)]
      rw [e]
      exact refCheck9_4 A B d.length capd n capw h4 w
    · obtain rfl : n = l.length := by omega
      obtain ⟨v, hv⟩ : ∃ v, v = chkW d l := ⟨_, rfl⟩
      have HV : Hid (v = ways d l) := Lib.hid (by rw [hv]; unfold chkW; rw [if_neg h0, if_neg h4])
      rw [← hv]
      unfold ChkPost9
      have hb0 : ((l.length : Int) == 0) = false := by simp; intro h; exact h0 (by rw [h]; rfl)
      have hb4 : decide ((4 : Int) < (l.length : Int)) = false := by simp; omega
      have HA := Lib.hid hA
      have HB := Lib.hid hB
      have HL4 := Lib.hid h4
      clear hA hB hv hmin h0 h4
      go_enter Tryz.func17, Tryz.ntmps17
      go_wp2_with fail
      go_loopw [5] (fun i wr => ∃ j : Nat, j ≤ l.length ∧ i = .int .i64 (j : Int) ∧ Hid (v = ways d (l.drop j)) ∧ Hid (Below w.heap.size w wr)) (fun i _ => l.length - (intOf i).toNat)
      case atStart => exact ⟨0, Nat.zero_le _, rfl, by simpa using HV, Lib.hid (Below.refl _ _)⟩
      case round =>
        obtain ⟨j, hj, rfl, HJ, HW⟩ := hrel
        by_cases hlt : j < l.length
        · have HNx := Lib.hid (ways_drop (d := d) hlt)
          obtain ⟨b, off, Aj, nj, cj, rfl, hbl, hc, hdj, hmj, _, _, _⟩ := (HB.out.next HW.out).2 j hlt
          have HD0 := Lib.hid ((HB.out).2 j hlt)
          have hlt' : (j : Int) < (l.length : Int) := by omega
          have hj0 : (0 : Int) ≤ (j : Int) := by omega
          generalize l.getD j [] = lj at *
          by_cases n0 : nj = 0
          · subst n0
            have HR : Hid (v = 2) := Lib.hid (by rw [HJ.out, HNx.out, chkWay_2 (by omega)]; rfl)
            clear hdj hmj
            go_wp2_with fail
            go_ret
            exact ⟨by rw [HR.out]; rfl, HW.out⟩
          · by_cases n4 : 4 < nj
            · have HR : Hid (v = 4) := Lib.hid (by rw [HJ.out, HNx.out, chkWay_4 (by omega)]; rfl)
              have q0 : ((nj : Int) == 0) = false := by simp; omega
              have q4 : decide ((4 : Int) < (nj : Int)) = true := by simp; omega
              clear hdj hmj n0 n4
              go_wp2_with fail
              go_ret
              exact ⟨by rw [HR.out]; rfl, HW.out⟩
            · obtain rfl : nj = lj.length := by omega
              have q0 : ((lj.length : Int) == 0) = false := by simp; intro h; exact n0 (by rw [h]; rfl)
              have q4 : decide ((4 : Int) < (lj.length : Int)) = false := by simp; omega
              have HDj := Lib.hid hdj
              have HN := Lib.hid (And.intro n0 n4)
              clear hdj hmj n0 n4
              go_wp2_with fail
              go_loopw [7] (fun i wr => ∃ k : Nat, k ≤ lj.length ∧ i = .int .i64 (k : Int) ∧ Hid (ones d lj = ones d (lj.drop k)) ∧ Hid (Below w.heap.size w wr) ∧ Hid (DAt wr Aj lj)) (fun i _ => lj.length - (intOf i).toNat)
              case atStart => exact ⟨0, Nat.zero_le _, rfl, Lib.hid (by simp), HW, HDj⟩
              case round =>
                obtain ⟨k, hk, rfl, HK, HW2, HD2⟩ := hrel
                by_cases hlk : k < lj.length
                · have HNk := Lib.hid (ones_drop (d := d) hlk)
                  obtain ⟨bj, offj, rfl, hblj, c0, c1, c2⟩ := HD2.out k hlk
                  have hlk' : (k : Int) < (lj.length : Int) := by omega
                  have hk0 : (0 : Int) ≤ (k : Int) := by omega
                  have HO := Lib.hid (refOne9_any A capd d (lj.getD k zero) hdl wr (HA.out.next HW2.out))
                  unfold OnePost9 at HO
                  generalize lj.getD k zero = t at *
                  generalize oneN d t = q at *
                  obtain ⟨tk, tob, tn⟩ := t
                  dsimp only at HO c0 c1 c2
                  go_wp2_with fail
                  refine HO.out.mono ?_
                  rintro e w3 ⟨rfl, hb3⟩
                  have HW3 := Lib.hid (HW2.out.trans (hb3.mono HW2.out.size))
                  have HD3 := Lib.hid (HD2.out.next hb3)
                  clear hb3 c0 c1 c2 HO
                  by_cases hq : q = 0
                  · have HE : Hid (ones d lj = ones d (lj.drop (k + 1))) := Lib.hid (by rw [HK.out, HNk.out, if_neg (by simp [hq])])
                    have hq' : ((q : Int) != 0) = false := by simp [hq]
                    clear hq
                    go_wp2
                    go_roundw
                    case rel => exact ⟨k + 1, by omega, by go_num, HE, HW3, HD3⟩
                    case measure => simp [intOf]; omega
                  · have HE : Hid (ones d lj = q) := Lib.hid (by rw [HK.out, HNk.out, if_pos hq])
                    have HR : Hid (v = q) := Lib.hid (by
                      have h1 : chkWay d lj = q := by rw [chkWay_bad HN.out.1 HN.out.2 (by rw [HE.out]; exact hq), HE.out]
                      rw [HJ.out, HNx.out, h1, if_pos hq])
                    have hq' : ((q : Int) != 0) = true := by simpa using hq
                    clear hq
                    go_wp2
                    go_ret
                    exact ⟨by rw [HR.out]; rfl, HW3.out⟩
                · obtain rfl : k = lj.length := by omega
                  have H1 : Hid (ones d lj = 0) := Lib.hid (by rw [HK.out, List.drop_length]; rfl)
                  go_wp2_with fail
                  go_loopw [9] (fun i wr => ∃ k : Nat, k ≤ lj.length ∧ i = .int .i64 (k : Int) ∧ Hid (twiceTo lj k = false) ∧ Hid (Below w.heap.size w wr) ∧ Hid (DAt wr Aj lj)) (fun i _ => lj.length - (intOf i).toNat)
                  case atStart => exact ⟨0, Nat.zero_le _, rfl, Lib.hid rfl, HW2, HD2⟩
                  case round =>
                    obtain ⟨k, hk3, rfl, HT, HW3, HD3⟩ := hrel
                    by_cases hlk : k < lj.length
                    · have hlk' : (k : Int) < (lj.length : Int) := by omega
                      have hk0 : (0 : Int) ≤ (k : Int) := by omega
                      go_wp2_with fail
                      go_loopw [10] (fun i wr => ∃ jj : Nat, jj ≤ k ∧ i = .int .i64 (jj : Int) ∧ Hid (clashTo lj k jj = false) ∧ Hid (Below w.heap.size w wr) ∧ Hid (DAt wr Aj lj)) (fun i _ => k - (intOf i).toNat)
                      case atStart => exact ⟨0, Nat.zero_le _, rfl, Lib.hid rfl, HW3, HD3⟩
                      case round =>
                        obtain ⟨jj, hjj, rfl, HCl, HWc, HDc⟩ := hrel
                        by_cases hlj : jj < k
                        · have hlj' : (jj : Int) < (k : Int) := by omega
                          have hjj0 : (0 : Int) ≤ (jj : Int) := by omega
                          have hjl' : (jj : Int) < (lj.length : Int) := by omega
                          obtain ⟨bj, offj, rfl, hblj, x0, x1, x2⟩ := HDc.out jj (by omega)
                          obtain ⟨b2, off2, hAe, hbl2, y0, y1, y2⟩ := HDc.out k hlk
                          injection hAe with hAe
                          injection hAe with hAe1 hAe2
                          subst hAe1 hAe2
                          generalize hta : lj.getD jj zero = ta at *
                          generalize htb : lj.getD k zero = tb at *
                          obtain ⟨ak, ao, an⟩ := ta
                          obtain ⟨bk, bo, bn⟩ := tb
                          dsimp only at x0 x1 x2 y0 y1 y2
                          cases e1 : (ao == bo) with
                          | true =>
                            have HC : Hid (clash (ak, ao, an) (bk, bo, bn) = true) := Lib.hid (by unfold clash; dsimp only; rw [e1, Bool.true_or])
                            have HR : Hid (v = 2) := Lib.hid (by
                              have h1 : twiceTo lj lj.length = true := twiceTo_yes (clashTo_yes hlj (by rw [hta, htb]; exact HC.out) k hlj) lj.length hlk
                              rw [HJ.out, HNx.out, chkWay_twice HN.out.1 HN.out.2 H1.out h1]
                              rfl)
                            clear hta htb HC
                            go_wp2_with fail
                            go_quiet (fail)
                            go_wp2
                            go_ret
                            exact ⟨by rw [HR.out]; rfl, below_drewN HWc.out _⟩
                          | false =>
                            cases e2 : (ak == 4) with
                            | true =>
                              have HC : Hid (clash (ak, ao, an) (bk, bo, bn) = true) := Lib.hid (by unfold clash; dsimp only; rw [e1, e2, Bool.true_or, Bool.or_true])
                              have HR : Hid (v = 2) := Lib.hid (by
                                have h1 : twiceTo lj lj.length = true := twiceTo_yes (clashTo_yes hlj (by rw [hta, htb]; exact HC.out) k hlj) lj.length hlk
                                rw [HJ.out, HNx.out, chkWay_twice HN.out.1 HN.out.2 H1.out h1]
                                rfl)
                              clear hta htb HC
                              go_wp2_with fail
                              go_quiet (fail)
                              go_wp2
                              go_ret
                              exact ⟨by rw [HR.out]; rfl, below_drewN HWc.out _⟩
                            | false =>
                              cases e3 : (bk == 4) with
                              | true =>
                                have HC : Hid (clash (ak, ao, an) (bk, bo, bn) = true) := Lib.hid (by unfold clash; dsimp only; rw [e1, e2, e3, Bool.false_or, Bool.false_or])
                                have HR : Hid (v = 2) := Lib.hid (by
                                  have h1 : twiceTo lj lj.length = true := twiceTo_yes (clashTo_yes hlj (by rw [hta, htb]; exact HC.out) k hlj) lj.length hlk
                                  rw [HJ.out, HNx.out, chkWay_twice HN.out.1 HN.out.2 H1.out h1]
                                  rfl)
                                clear hta htb HC
                                go_wp2_with fail
                                go_quiet (fail)
                                go_wp2
                                go_ret
                                exact ⟨by rw [HR.out]; rfl, below_drewN HWc.out _⟩
                              | false =>
                                have HC : Hid (clashTo lj k (jj + 1) = false) := Lib.hid (by
                                  unfold clashTo
                                  rw [HCl.out, hta, htb]
                                  unfold clash
                                  dsimp only
                                  rw [e1, e2, e3]
                                  rfl)
                                clear hta htb
                                go_wp2_with fail
                                go_quiet (fail)
                                go_wp2
                                go_roundw
                                case rel => exact ⟨jj + 1, by omega, by go_num, HC, Lib.hid (below_drewN HWc.out _), Lib.hid (HDc.out.drewN _)⟩
                                case measure => simp [intOf]; omega
                        · obtain rfl : jj = k := by omega
                          have HT2 : Hid (twiceTo lj (jj + 1) = false) := Lib.hid (by unfold twiceTo; rw [HT.out, HCl.out]; rfl)
                          go_wp2_with fail
                          go_roundw
                          case rel => exact ⟨jj + 1, by omega, by go_num, HT2, HWc, HDc⟩
                          case measure => simp [intOf]; omega
                    · obtain rfl : k = lj.length := by omega
                      have HE : Hid (v = ways d (l.drop (j + 1))) := Lib.hid (by rw [HJ.out, HNx.out, chkWay_fine HN.out.1 HN.out.2 H1.out HT.out]; rfl)
                      have hl4 := HL4.out
                      go_wp2_with fail
                      go_roundw
                      case rel => exact ⟨j + 1, by omega, by go_num, HE, HW3⟩
                      case measure => simp [intOf]; omega
        · obtain rfl : j = l.length := by omega
          have HR : Hid (v = 0) := Lib.hid (by rw [HJ.out, List.drop_length]; rfl)
          go_wp2_with fail
          go_ret
          exact ⟨by rw [HR.out]; rfl, HW.out⟩
end Go.Proofs.YtnhoeboighndlaaGreatDoor.need
