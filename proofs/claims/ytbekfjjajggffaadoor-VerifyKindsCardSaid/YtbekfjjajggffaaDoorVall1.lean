/-
  Texts of one claim in one file: PPlain, PProg, PTab, PClose, Shut, Plain. Each has its own sentence, with its conditions.
-/
import Derived.Lib.Strings
import Derived.Test.YtbekfjjajggffaaDoorProg
import Derived.WalkKit
import Derived.ProofKit
import Derived.IntWalk
import Derived.LoopTactic
import Derived.Lib.Hide
import Derived.Below
import Derived.Outline
import Derived.Deep.Cut
import Derived.Deep.CutBlock
import Derived.Deep.DeepCutAuto
import Derived.Test.YtbekfjjajggffaaDoorRows
import Derived.ChangeSame
import Derived.Carry
import Derived.LaidMore
import Derived.OpenShut
import Derived.Stop.Joined
import Derived.Lib.LaidTab
import Derived.WideShapes
import Derived.ChangeArms
import Derived.WideKeyArgs
/-
  The document's table of operations: names, forms, what is taken and laid, by number; and the first number that has a name. No condition.
-/
namespace Go.Proofs.YtbekfjjajggffaaDoor.oper

def nm : List ByteArray := [⟨#[112, 117, 115, 104]⟩, ⟨#[108, 111, 97, 100]⟩, ⟨#[115, 116, 111, 114, 101]⟩, ⟨#[97, 100, 100]⟩, ⟨#[115, 117, 98]⟩, ⟨#[109, 117, 108]⟩, ⟨#[100, 105, 118]⟩, ⟨#[109, 111, 100]⟩, ⟨#[110, 101, 103]⟩, ⟨#[108, 116]⟩, ⟨#[101, 113]⟩, ⟨#[97, 110, 100]⟩, ⟨#[111, 114]⟩, ⟨#[120, 111, 114]⟩, ⟨#[115, 104, 108]⟩, ⟨#[115, 104, 114]⟩, ⟨#[100, 117, 112]⟩, ⟨#[100, 114, 111, 112]⟩, ⟨#[106, 117, 109, 112]⟩, ⟨#[122, 101, 114, 111]⟩, ⟨#[99, 97, 108, 108]⟩, ⟨#[114, 101, 116]⟩, ⟨#[115, 101, 108, 102]⟩, ⟨#[110, 111, 119]⟩, ⟨#[111, 117, 116]⟩, ⟨#[121, 105, 101, 108, 100]⟩, ⟨#[119, 97, 105, 116]⟩, ⟨#[119, 97, 105, 116, 102, 111, 114]⟩, ⟨#[115, 108, 101, 101, 112]⟩, ⟨#[117, 110, 108, 111, 99, 107]⟩, ⟨#[112, 111, 115, 116]⟩, ⟨#[103, 105, 118, 101]⟩, ⟨#[99, 119, 97, 105, 116]⟩, ⟨#[99, 119, 97, 105, 116, 102, 111, 114]⟩, ⟨#[115, 105, 103, 110, 97, 108]⟩, ⟨#[98, 114, 111, 97, 100, 99, 97, 115, 116]⟩, ⟨#[101, 110, 114, 111, 108]⟩, ⟨#[108, 101, 97, 118, 101]⟩, ⟨#[97, 114, 114, 105, 118, 101]⟩, ⟨#[97, 114, 114, 105, 118, 101, 102, 111, 114]⟩, ⟨#[115, 112, 97, 119, 110]⟩, ⟨#[106, 111, 105, 110]⟩, ⟨#[106, 111, 105, 110, 102, 111, 114]⟩, ⟨#[103, 114, 97, 110, 116]⟩, ⟨#[119, 97, 105, 118, 101]⟩, ⟨#[114, 101, 97, 100]⟩, ⟨#[119, 114, 105, 116, 101]⟩, ⟨#[98, 101, 103, 105, 110]⟩, ⟨#[99, 111, 109, 109, 105, 116]⟩, ⟨#[99, 108, 97, 105, 109]⟩, ⟨#[100, 101, 97, 100]⟩, ⟨#[109, 101, 110, 100]⟩]
def fm : List ByteArray := [⟨#[110]⟩, ⟨#[107]⟩, ⟨#[107]⟩, ⟨#[]⟩, ⟨#[]⟩, ⟨#[]⟩, ⟨#[]⟩, ⟨#[]⟩, ⟨#[]⟩, ⟨#[]⟩, ⟨#[]⟩, ⟨#[]⟩, ⟨#[]⟩, ⟨#[]⟩, ⟨#[]⟩, ⟨#[]⟩, ⟨#[]⟩, ⟨#[]⟩, ⟨#[116]⟩, ⟨#[116]⟩, ⟨#[102]⟩, ⟨#[]⟩, ⟨#[]⟩, ⟨#[]⟩, ⟨#[]⟩, ⟨#[]⟩, ⟨#[119]⟩, ⟨#[119]⟩, ⟨#[]⟩, ⟨#[117]⟩, ⟨#[115]⟩, ⟨#[112]⟩, ⟨#[99, 109]⟩, ⟨#[99, 109]⟩, ⟨#[99]⟩, ⟨#[99]⟩, ⟨#[98]⟩, ⟨#[98]⟩, ⟨#[98]⟩, ⟨#[98]⟩, ⟨#[102]⟩, ⟨#[106, 106]⟩, ⟨#[106, 106]⟩, ⟨#[]⟩, ⟨#[]⟩, ⟨#[118]⟩, ⟨#[118]⟩, ⟨#[]⟩, ⟨#[]⟩, ⟨#[113]⟩, ⟨#[109]⟩, ⟨#[109]⟩]
def tk : List Int := [0, 0, 1, 2, 2, 2, 2, 2, 1, 2, 2, 2, 2, 2, 2, 2, 1, 1, 0, 1, 0, 1, 0, 0, 1, 0, 0, 1, 1, 0, 1, 1, 0, 1, 0, 0, 0, 0, 0, 1, 2, 0, 1, 2, 1, 0, 1, 0, 0, 1, 0, 0]
def ly : List Int := [1, 1, 0, 1, 1, 1, 1, 1, 1, 1, 1, 1, 1, 1, 1, 1, 2, 0, 0, 0, 1, 0, 1, 1, 1, 0, 1, 1, 1, 1, 1, 1, 1, 1, 1, 1, 1, 1, 1, 1, 1, 1, 1, 1, 1, 2, 1, 1, 1, 1, 1, 1]
/-- What stands in a list of texts at a number; the empty text where nothing does. -/
def txt (l : List ByteArray) (n : Int) : ByteArray := if 0 ≤ n ∧ n ≤ 51 then l.getD n.toNat ⟨#[]⟩ else ⟨#[]⟩
def numb (l : List Int) (n : Int) : Int := if 0 ≤ n ∧ n ≤ 51 then l.getD n.toNat 0 else 0
def same (a b : ByteArray) : Bool := a.toList == b.toList
theorem same_iff {a b : ByteArray} : same a b = true ↔ a = b := by
  unfold same
  rw [beq_iff_eq, ByteArray.toList_eq, ByteArray.toList_eq]
  constructor
  · intro h
    cases a; cases b
    simp only [Array.toList_inj] at h
    rw [h]
  · rintro rfl; rfl
/-- The first number that has this name; 52: none. -/
def idx (s : ByteArray) : Nat := nm.findIdx fun x => same x s
theorem nm_length : nm.length = 52 := rfl
theorem fm_length : fm.length = 52 := rfl
theorem tk_length : tk.length = 52 := rfl
theorem ly_length : ly.length = 52 := rfl
theorem idx_le (s : ByteArray) : idx s ≤ 52 := List.findIdx_le_length
theorem idx_of {s : ByteArray} {k : Nat} (h : k ≤ idx s) (hk : k < 52) (he : same (nm.getD k ⟨#[]⟩) s = true) : idx s = k := by
  have hk' : k < nm.length := hk
  rcases Nat.lt_or_ge k (idx s) with h1 | h1
  · have := List.not_of_lt_findIdx (p := fun x => same x s) (xs := nm) h1
    rw [List.getD_eq_getElem?_getD, List.getElem?_eq_getElem hk', Option.getD_some] at he
    simp [he] at this
  · omega
theorem idx_next {s : ByteArray} {k : Nat} (h : k ≤ idx s) (hk : k < 52) (he : same (nm.getD k ⟨#[]⟩) s = false) : k + 1 ≤ idx s := by
  rcases Nat.eq_or_lt_of_le h with h1 | h1
  · exfalso
    have hl : nm.findIdx (fun x => same x s) < nm.length := by show idx s < 52; omega
    have := List.findIdx_getElem (p := fun x => same x s) (xs := nm) (w := hl)
    have e : nm[nm.findIdx (fun x => same x s)]'hl = nm.getD k ⟨#[]⟩ := by
      rw [List.getD_eq_getElem?_getD, List.getElem?_eq_getElem (show k < nm.length from hk), Option.getD_some]
      congr 1
      exact h1.symm
    rw [e, he] at this
    cases this
  · omega
theorem idx_name : ∀ k, k < 52 → idx (nm.getD k ⟨#[]⟩) = k := by decide +kernel
theorem small : ∀ k, k < 52 → ∀ i, i < (nm.getD k ⟨#[]⟩).data.toList.length → 97 ≤ ((nm.getD k ⟨#[]⟩).data.toList.getD i 0).toNat ∧ ((nm.getD k ⟨#[]⟩).data.toList.getD i 0).toNat ≤ 122 := by decide +kernel
theorem name_size : ∀ k, k < 52 → 0 < (nm.getD k ⟨#[]⟩).size ∧ (nm.getD k ⟨#[]⟩).size ≤ 9 := by decide +kernel
theorem form_size : ∀ k, k < 52 → (fm.getD k ⟨#[]⟩).size ≤ 2 := by decide +kernel
end Go.Proofs.YtbekfjjajggffaaDoor.oper

/-
  The program's own calls on operations: which numbers are one, its form, what is laid, and whether the next one follows. No condition.
-/
namespace Go.Proofs.YtbekfjjajggffaaDoor.oper
open Go.RowKit Go.ChangeShapes

theorem ret_int {k : IntKind} {a b : Int} (h : a = b) : Ending.returned (.int k a) = .returned (.int k b) := by rw [h]
theorem ret_bool {a b : Bool} (h : a = b) : Ending.returned (.bool a) = .returned (.bool b) := by rw [h]
theorem ret_string {a b : ByteArray} (h : a = b) : Ending.returned (.string a) = .returned (.string b) := by rw [h]

theorem known_yes (n : Int) (h0 : 0 ≤ n) (h1 : n ≤ 51) (w : World) : Calls Tryd.prog 90 #[.int .i64 n] w fun e w' => e = .returned (.bool true) ∧ w = w' := by
  have h2 : n < 52 := by omega
  go_enter Tryd.func90, Tryd.ntmps90
  go_wp2
  go_ret
  exact ⟨rfl, rfl⟩
theorem known_no (n : Int) (h : n < 0 ∨ 51 < n) (w : World) : Calls Tryd.prog 90 #[.int .i64 n] w fun e w' => e = .returned (.bool false) ∧ w = w' := by
  by_cases h0 : 0 ≤ n
  · have h1 : ¬ n < 52 := by omega
    have hd : decide (n < 52) = false := by simpa using h1
    go_enter Tryd.func90, Tryd.ntmps90
    go_wp2
    go_ret
    exact ⟨rfl, rfl⟩
  · have hd : decide (0 ≤ n) = false := by simpa using h0
    go_enter Tryd.func90, Tryd.ntmps90
    go_wp2
    go_ret
    exact ⟨rfl, rfl⟩

def fmL : List Int := [0, 1, 2, 18, 19, 20, 40, 26, 27, 29, 30, 31, 32, 33, 34, 35, 36, 37, 38, 39, 41, 42, 45, 46, 49, 50, 51]
def lyL : List Int := [2, 17, 18, 19, 21, 25, 16, 45]
theorem nat_of {n : Int} (h : 0 ≤ n ∧ n ≤ 51) : ∃ k : Nat, k < 52 ∧ n = (k : Int) := ⟨n.toNat, by omega, by omega⟩
theorem txt_at {l : List ByteArray} {k : Nat} (h : k < 52) : txt l (k : Int) = l.getD k ⟨#[]⟩ := by
  unfold txt
  rw [if_pos (by omega), Int.toNat_natCast]
theorem numb_at {l : List Int} {k : Nat} (h : k < 52) : numb l (k : Int) = l.getD k 0 := by
  unfold numb
  rw [if_pos (by omega), Int.toNat_natCast]
theorem txt_no {l : List ByteArray} {n : Int} (h : n < 0 ∨ 51 < n) : txt l n = ⟨#[]⟩ := by
  unfold txt
  rw [if_neg (by omega)]
theorem numb_no {l : List Int} {n : Int} (h : n < 0 ∨ 51 < n) : numb l n = 0 := by
  unfold numb
  rw [if_neg (by omega)]
theorem fm_rest : ∀ k : Nat, k < 52 → (fmL.all fun j => !((k : Int) == j)) = true → fm.getD k ⟨#[]⟩ = ⟨#[]⟩ := by decide +kernel
theorem fm_other (n : Int) (h : (fmL.all fun j => !(n == j)) = true) : txt fm n = ⟨#[]⟩ := by
  by_cases hk : 0 ≤ n ∧ n ≤ 51
  · obtain ⟨k, hk', rfl⟩ := nat_of hk
    rw [txt_at hk']
    exact fm_rest k hk' h
  · exact txt_no (by omega)
theorem ly_rest : ∀ k : Nat, k < 52 → (lyL.all fun j => !((k : Int) == j)) = true → ly.getD k 0 = 1 := by decide +kernel
theorem ly_other (n : Int) (h0 : 0 ≤ n) (h1 : n ≤ 51) (h : (lyL.all fun j => !(n == j)) = true) : numb ly n = 1 := by
  obtain ⟨k, hk, rfl⟩ := nat_of ⟨h0, h1⟩
  rw [numb_at hk]
  exact ly_rest k hk h

set_option maxHeartbeats 1000000 in
theorem form_any (n : Int) (w : World) : Calls Tryd.prog 38 #[.int .i64 n] w fun e w' => e = .returned (.string (txt fm n)) ∧ w = w' := by
  go_enter Tryd.func38, Tryd.ntmps38
  go_wp2
  all_goals go_ret
  all_goals refine ⟨ret_string ?_, rfl⟩
  all_goals first
    | (have hq := eq_of_beq ‹(n == _) = true›; subst hq; rfl)
    | (rw [fm_other n (by simp only [fmL, List.all_cons, List.all_nil, Bool.not_false, Bool.and_self, *])])

set_option maxHeartbeats 1000000 in
theorem pushes_yes (n : Int) (h0 : 0 ≤ n) (h1 : n ≤ 51) (w : World) : Calls Tryd.prog 89 #[.int .i64 n] w fun e w' => e = .returned (.int .i64 (numb ly n)) ∧ w = w' := by
  go_enter Tryd.func89, Tryd.ntmps89
  go_wp2_with (go_at_call 90; refine (known_yes n h0 h1 _).mono ?_; rintro e w' ⟨rfl, rfl⟩)
  all_goals go_ret
  all_goals refine ⟨ret_int ?_, rfl⟩
  all_goals first
    | (have hq := eq_of_beq ‹(n == _) = true›; subst hq; rfl)
    | (rw [ly_other n h0 h1 (by simp only [lyL, List.all_cons, List.all_nil, Bool.not_false, Bool.and_self, *])])
theorem pushes_no (n : Int) (h : n < 0 ∨ 51 < n) (w : World) : Calls Tryd.prog 89 #[.int .i64 n] w fun e w' => e = .returned (.int .i64 (numb ly n)) ∧ w = w' := by
  have HN := Lib.hid (numb_no (l := ly) h)
  go_enter Tryd.func89, Tryd.ntmps89
  go_wp2_with (go_at_call 90; refine (known_no n h _).mono ?_; rintro e w' ⟨rfl, rfl⟩)
  all_goals go_ret
  all_goals refine ⟨ret_int ?_, rfl⟩
  all_goals first
    | (exfalso; have hq := eq_of_beq ‹(n == _) = true›; omega)
    | (rw [HN.out])

/-- Whether the next instruction follows. -/
def goesB (n : Int) : Bool := decide (0 ≤ n ∧ n ≤ 51 ∧ n ≠ 18 ∧ n ≠ 21)
theorem goes_yes (n : Int) (h0 : 0 ≤ n) (h1 : n ≤ 51) (h2 : (n != 18) = true) (h3 : (n != 21) = true) (w : World) : Calls Tryd.prog 77 #[.int .i64 n] w fun e w' => e = .returned (.bool true) ∧ w = w' := by
  have H := Lib.hid (known_yes n h0 h1 w)
  go_enter Tryd.func77, Tryd.ntmps77
  go_wp2_with fail
  refine H.out.mono ?_
  rintro e w' ⟨rfl, rfl⟩
  go_wp2
  go_ret
  exact ⟨rfl, rfl⟩
theorem goes_not (n : Int) (h : n < 0 ∨ 51 < n) (w : World) : Calls Tryd.prog 77 #[.int .i64 n] w fun e w' => e = .returned (.bool false) ∧ w = w' := by
  have H := Lib.hid (known_no n h w)
  clear h
  go_enter Tryd.func77, Tryd.ntmps77
  go_wp2_with fail
  refine H.out.mono ?_
  rintro e w' ⟨rfl, rfl⟩
  go_wp2
  go_ret
  exact ⟨rfl, rfl⟩
theorem goes_18 (w : World) : Calls Tryd.prog 77 #[.int .i64 18] w fun e w' => e = .returned (.bool false) ∧ w = w' := by
  have H := Lib.hid (known_yes 18 (by omega) (by omega) w)
  go_enter Tryd.func77, Tryd.ntmps77
  go_wp2_with fail
  refine H.out.mono ?_
  rintro e w' ⟨rfl, rfl⟩
  go_wp2
  go_ret
  exact ⟨rfl, rfl⟩
theorem goes_21 (w : World) : Calls Tryd.prog 77 #[.int .i64 21] w fun e w' => e = .returned (.bool false) ∧ w = w' := by
  have H := Lib.hid (known_yes 21 (by omega) (by omega) w)
  go_enter Tryd.func77, Tryd.ntmps77
  go_wp2_with fail
  refine H.out.mono ?_
  rintro e w' ⟨rfl, rfl⟩
  go_wp2
  go_ret
  exact ⟨rfl, rfl⟩
theorem goes_any (n : Int) (w : World) : Calls Tryd.prog 77 #[.int .i64 n] w fun e w' => e = .returned (.bool (goesB n)) ∧ w = w' := by
  unfold goesB
  by_cases h : 0 ≤ n ∧ n ≤ 51
  · by_cases h2 : n = 18
    · subst h2; exact goes_18 w
    · by_cases h3 : n = 21
      · subst h3; exact goes_21 w
      · rw [decide_eq_true (by omega)]
        exact goes_yes n h.1 h.2 (by simpa using h2) (by simpa using h3) w
  · rw [decide_eq_false (by omega)]
    exact goes_not n (by omega) w
end Go.Proofs.YtbekfjjajggffaaDoor.oper

/-
  The program's table of names lies where its initialiser lays it; with that: an operation's name, and the operation of a name. The card ties the table to the program's text.
-/
namespace Go.Proofs.YtbekfjjajggffaaDoor.oper
open Go.RowKit Go.ChangeShapes

/-- The table of names lies where its initialiser lays it. -/
def Tab (w : World) : Prop := ∀ j, j < 52 → w.cell? ⟨3, j, none⟩ = some (.string (nm.getD j ⟨#[]⟩))
theorem Tab.below {B : Nat} {w w' : World} (h : Tab w) (hb : Below B w w') (hB : 3 < B) : Tab w' := fun j hj => (hb.cell (p := ⟨3, j, none⟩) hB).trans (h j hj)
theorem Tab.cell {w w' : World} (h : Tab w) (hc : ∀ p, w'.cell? p = w.cell? p) : Tab w' := fun j hj => (hc _).trans (h j hj)

theorem name_yes (k : Nat) (hk : k < 52) (w : World) (hT : Tab w) : Calls Tryd.prog 95 #[.int .i64 (k : Int)] w fun e w' => e = .returned (.string (nm.getD k ⟨#[]⟩)) ∧ w = w' := by
  have hc := hT k hk
  have H := Lib.hid (known_yes k (by omega) (by omega) w)
  have h1 : (k : Int) < 52 := by omega
  clear hT
  generalize nm.getD k ⟨#[]⟩ = x at *
  go_enter Tryd.func95, Tryd.ntmps95
  go_wp2_with fail
  refine H.out.mono ?_
  rintro e w' ⟨rfl, rfl⟩
  go_wp2
  go_ret
  exact ⟨rfl, rfl⟩
theorem name_no (n : Int) (h : n < 0 ∨ 51 < n) (w : World) : Calls Tryd.prog 95 #[.int .i64 n] w fun e w' => e = .returned (.string ⟨#[]⟩) ∧ w = w' := by
  have H := Lib.hid (known_no n h w)
  clear h
  go_enter Tryd.func95, Tryd.ntmps95
  go_wp2_with fail
  refine H.out.mono ?_
  rintro e w' ⟨rfl, rfl⟩
  go_wp2
  go_ret
  exact ⟨rfl, rfl⟩
theorem name_any (n : Int) (w : World) (hT : Tab w) : Calls Tryd.prog 95 #[.int .i64 n] w fun e w' => e = .returned (.string (txt nm n)) ∧ w = w' := by
  by_cases h : 0 ≤ n ∧ n ≤ 51
  · obtain ⟨k, hk, rfl⟩ := nat_of h
    rw [txt_at hk]
    exact name_yes k hk w hT
  · rw [txt_no (by omega)]
    exact name_no n (by omega) w

/-- What Of answers of a name: the operation, and whether there is one. -/
def ofK (s : ByteArray) : Int := if idx s < 52 then idx s else 0
def ofB (s : ByteArray) : Bool := decide (idx s < 52)
def OfPost (s : ByteArray) (w : World) (e : Ending) (w' : World) : Prop := e = .returned (.tuple #[.int .i64 (ofK s), .bool (ofB s)]) ∧ w = w'

end Go.Proofs.YtbekfjjajggffaaDoor.oper

/-
  The last step of each statement: below the blocks that were there nothing has turned, so the arguments read as they did; and what the row's condition on the table of names gives. No condition.
-/
namespace Go.Proofs.YtbekfjjajggffaaDoor.oper
open Go.RowKit Go.WideShapes Go.ChangeShapes

section
variable {H : Type} {enc : TypeId × Value → H} {P : Program}
/-- What 'post' asks, where of the call's world only this is known: below the old size no block has turned. -/
theorem post_below {f : Func} {s : ChangeSpec} {apart fresh handsOn again : Bool} {W W' : World} {args : Array Value} {v : Value} {ds gs : List (DataW H)} {before pa pv : List MemPlace}
    (hW : DataW.Whole enc P f.params.toList s.vars apart W args.toList ds gs before)
    (hres : ∀ (b : Nat) (sp : Nat → Bool) (hd : Bool), DataW.TrodAll enc P W' b sp hd f.resultTypes.toList (v.resultList f.resultTypes.size) (s.fn H (ds ++ gs)).results [])
    (hargs : ∀ sp : Nat → Bool, (∀ p ∈ before, sp p.block = true) → DataW.TrodAll enc P W' 0 sp true f.params.toList args.toList (s.fn H (ds ++ gs)).args pa)
    (hvars : ∀ sp : Nat → Bool, (∀ p ∈ before, sp p.block = true) → DataW.TrodVars enc P W' sp s.vars (s.fn H (ds ++ gs)).vars pv)
    (hps : before = pa ++ pv) (hb : Below W.heap.size W W')
    (hok : ∀ (j : Nat) (t : TypeId) (r : Value), f.resultTypes[j]? = some t → (v.resultList f.resultTypes.size)[j]? = some r → Value.okWide P W' .any 0 t r) :
    s.post enc P f apart fresh handsOn again W args v W' := by
  have hlt : ∀ p ∈ before, p.block < W.heap.size := fun p hp => hW.lt p hp
  have hold : ∀ p ∈ before, (fun b => decide (b < W.heap.size)) p.block = true := fun p hp => by simpa using hlt p hp
  refine ⟨ds, gs, before, [], pa, pv, hW, hres _ _ _, hargs _ hold, hvars _ hold, World.keptBut_mono (fun p hp => ⟨hp, ?_⟩) (hb.frame (· ∈ before)), fun _ => ?_⟩
  · rw [hps, List.mem_append] at hp
    exact Or.inr hp
  · obtain ⟨_, _, _, _, _, hz, hn⟩ := hW
    refine ⟨hok, _, _, ([] ++ pa) ++ pv, ⟨[] ++ pa, pv, trodAll_append (hargs _ (fun _ _ => rfl)) (hres _ _ _), hvars _ (fun _ _ => rfl), rfl, ?_, ?_⟩, ?_⟩
    · intro b off hp
      have hin : MemPlace.cell b off ∈ before := by rw [hps]; simpa using hp
      rw [hb.frozen (hlt _ hin)]
      exact hz b off hin
    · intro ha
      have := hn ha
      rw [hps] at this
      simpa using this
    · intro p hp _
      rw [hps]
      simpa using hp
end

theorem own : ownKnob Tryd.prog.godebug = none := by kernel_rfl

/-- AN ARRAY OF TEXTS THAT READS AS A LIST HOLDS THESE TEXTS, CELL FOR CELL. -/
theorem cells_of_texts {H : Type} {enc : TypeId × Value → H} {P : Program} {w : World} {base : Nat} {sp : Nat → Bool} {held : Bool} {fuel : Nat} {t e : TypeId} {n : Nat} {cs : List Value} {zs : List ByteArray} {p : List MemPlace}
    (ht : P.underlying t = some (.array n e)) (he : P.underlying e = some .string) (hce : P.cellsOf e = 1) (hct : P.cellsOf t = n)
    (h : DataW.trod enc P w base sp held fuel t cs = some (.agg (zs.map fun z => .lit (.string z.data.toList)), p)) : cs = zs.map fun z => Value.string z := by
  cases fuel with
  | zero => simp [DataW.trod] at h
  | succ fuel =>
    simp only [DataW.trod, ht, hce, hct, Nat.mul_one] at h
    split at h
    · rename_i hl
      obtain ⟨xs, hm, hx⟩ := Option.map_eq_some_iff.1 h
      have hxs : xs.map (·.1) = zs.map fun z => (DataW.lit (.string z.data.toList) : DataW H) := by
        have := congrArg Prod.fst hx
        simpa using this
      have hxl : xs.length = n := by simpa using Lib.mapM_length hm
      have hzl : zs.length = n := by
        have := congrArg List.length hxs
        simp at this
        omega
      apply List.ext_getElem?
      intro i
      by_cases hi : i < n
      · obtain ⟨b, hb, hf⟩ := Lib.mapM_at hm i i (by simp [hi])
        obtain ⟨z, hc, rfl, _⟩ := DataW.trod_string he hf
        have h1 : cs[i]? = some (.string z) := by
          have := congrArg (·[0]?) hc
          simpa [List.getElem?_take, List.getElem?_drop] using this
        have h2 : (xs.map (·.1))[i]? = some (DataW.lit (.string z.data.toList) : DataW H) := by simp [hb]
        rw [hxs] at h2
        simp only [List.getElem?_map, Option.map_eq_some_iff, DataW.lit.injEq, Lit.string.injEq] at h2
        obtain ⟨z', hz', he'⟩ := h2
        rw [h1, List.getElem?_map, hz', Option.map_some, bytes_inj he']
      · rw [List.getElem?_eq_none (by omega), List.getElem?_eq_none (by simp; omega)]
    · cases h

/-- The table that each of these rows lists. -/
def laid1 : List (String × DataW Unit) := [("logjam/op.names", Rows.laid_logjam_op_names)]
theorem laid_nm : (Rows.laid_logjam_op_names : DataW Unit) = .agg (nm.map fun z => .lit (.string z.data.toList)) := rfl
theorem gTab : Tryd.prog.globalNamed "logjam/op.names" = some 3 := by kernel_rfl
theorem gTabType : (Tryd.prog.globals[3]?).map (·.type) = some 129 := by kernel_rfl
theorem tabCells : Tryd.prog.cellsOf 129 = 52 := by kernel_rfl
theorem textCells1 : Tryd.prog.cellsOf 9 = 1 := by kernel_rfl
theorem tab_of_head {W : World} {rest : List (String × DataW Unit)} (h : laidMet Tryd.prog (("logjam/op.names", Rows.laid_logjam_op_names) :: rest) W) : Tab W ∧ 3 < W.heap.size := by
  obtain ⟨ps, ⟨g', t', cs, fuel, p, q, hg', ht', hvar, hd, _, _⟩, _⟩ := h
  obtain rfl := Option.some.inj (gTab.symm.trans hg')
  obtain rfl := Option.some.inj (gTabType.symm.trans ht')
  rw [laid_nm] at hd
  have hcs := cells_of_texts Tryd.underlying129 Tryd.underlying9 textCells1 tabCells hd
  have hc : Tab W := by
    intro j hj
    have h1 := World.var?_cell gTab hvar j
    have hj' : j < nm.length := hj
    rw [h1, ← Array.getElem?_toList, hcs, List.getElem?_map, List.getElem?_eq_getElem hj', Option.map_some, List.getD_eq_getElem?_getD, List.getElem?_eq_getElem hj', Option.getD_some]
  refine ⟨hc, ?_⟩
  have h0 := hc 0 (by omega)
  rcases Nat.lt_or_ge 3 W.heap.size with h1 | h1
  · exact h1
  · simp [World.cell?, Array.getElem?_eq_none h1] at h0
theorem of_laid {W : World} (h : laidMetH Tryd.prog laid1 W) : Tab W ∧ 3 < W.heap.size := by
  rw [MakeChecks.laidMetH_plain _ _ _ (by kernel_rfl)] at h
  exact tab_of_head h

/-- The door's own heap meets the condition: three closed facts. -/
theorem door_met (os : Os) (args : Array Value) : laidMetH Tryd.prog laid1 ((World.doorLaid Tryd.prog 29 os).forCall (fun _ _ => 0) ⟨#[], args, []⟩).memory :=
  laidMetH_of_parts3 (fuel := 8) (laidMet_of_run' 8 (by kernel_rfl) (by kernel_rfl)) (by kernel_rfl) (by kernel_rfl)
end Go.Proofs.YtbekfjjajggffaaDoor.oper

/-
  The last step of each statement: below the blocks that were there nothing has turned, so the arguments read as they did. No condition.
-/
namespace Go.Proofs.YtbekfjjajggffaaDoor.shut
open Go.ChangeShapes Go.WideShapes Go.RowKit
set_option linter.unusedVariables false

theorem laidOut : laidOutB Tryd.prog = true := by kernel_rfl
theorem own : ownKnob Tryd.prog.godebug = none := by kernel_rfl

section
variable {H : Type} {enc : TypeId × Value → H} {P : Program}
/-- What 'post' asks, where of the call's world only this is known: below the old size no block has turned. -/
theorem post_below {f : Func} {s : ChangeSpec} {apart fresh handsOn again : Bool} {W W' : World} {args : Array Value} {v : Value} {ds gs : List (DataW H)} {before pa pv : List MemPlace}
    (hW : DataW.Whole enc P f.params.toList s.vars apart W args.toList ds gs before)
    (hres : ∀ (b : Nat) (sp : Nat → Bool) (hd : Bool), DataW.TrodAll enc P W' b sp hd f.resultTypes.toList (v.resultList f.resultTypes.size) (s.fn H (ds ++ gs)).results [])
    (hargs : ∀ sp : Nat → Bool, (∀ p ∈ before, sp p.block = true) → DataW.TrodAll enc P W' 0 sp true f.params.toList args.toList (s.fn H (ds ++ gs)).args pa)
    (hvars : ∀ sp : Nat → Bool, (∀ p ∈ before, sp p.block = true) → DataW.TrodVars enc P W' sp s.vars (s.fn H (ds ++ gs)).vars pv)
    (hps : before = pa ++ pv) (hb : Below W.heap.size W W')
    (hok : ∀ (j : Nat) (t : TypeId) (r : Value), f.resultTypes[j]? = some t → (v.resultList f.resultTypes.size)[j]? = some r → Value.okWide P W' .any 0 t r) :
    s.post enc P f apart fresh handsOn again W args v W' := by
  have hlt : ∀ p ∈ before, p.block < W.heap.size := fun p hp => hW.lt p hp
  have hold : ∀ p ∈ before, (fun b => decide (b < W.heap.size)) p.block = true := fun p hp => by simpa using hlt p hp
  refine ⟨ds, gs, before, [], pa, pv, hW, hres _ _ _, hargs _ hold, hvars _ hold, World.keptBut_mono (fun p hp => ⟨hp, ?_⟩) (hb.frame (· ∈ before)), fun _ => ?_⟩
  · rw [hps, List.mem_append] at hp
    exact Or.inr hp
  · obtain ⟨_, _, _, _, _, hz, hn⟩ := hW
    refine ⟨hok, _, _, ([] ++ pa) ++ pv, ⟨[] ++ pa, pv, trodAll_append (hargs _ (fun _ _ => rfl)) (hres _ _ _), hvars _ (fun _ _ => rfl), rfl, ?_, ?_⟩, ?_⟩
    · intro b off hp
      have hin : MemPlace.cell b off ∈ before := by rw [hps]; simpa using hp
      rw [hb.frozen (hlt _ hin)]
      exact hz b off hin
    · intro ha
      have := hn ha
      rw [hps] at this
      simpa using this
    · intro p hp _
      rw [hps]
      simpa using hp
end
/-- AN ARRAY OF TEXTS THAT READS AS A LIST HOLDS THESE TEXTS, CELL FOR CELL. -/
theorem cells_of_texts {H : Type} {enc : TypeId × Value → H} {P : Program} {w : World} {base : Nat} {sp : Nat → Bool} {held : Bool} {fuel : Nat} {t e : TypeId} {n : Nat} {cs : List Value} {zs : List ByteArray} {p : List MemPlace}
    (ht : P.underlying t = some (.array n e)) (he : P.underlying e = some .string) (hce : P.cellsOf e = 1) (hct : P.cellsOf t = n)
    (h : DataW.trod enc P w base sp held fuel t cs = some (.agg (zs.map fun z => .lit (.string z.data.toList)), p)) : cs = zs.map fun z => Value.string z := by
  cases fuel with
  | zero => simp [DataW.trod] at h
  | succ fuel =>
    simp only [DataW.trod, ht, hce, hct, Nat.mul_one] at h
    split at h
    · rename_i hl
      obtain ⟨xs, hm, hx⟩ := Option.map_eq_some_iff.1 h
      have hxs : xs.map (·.1) = zs.map fun z => (DataW.lit (.string z.data.toList) : DataW H) := by
        have := congrArg Prod.fst hx
        simpa using this
      have hxl : xs.length = n := by simpa using Lib.mapM_length hm
      have hzl : zs.length = n := by
        have := congrArg List.length hxs
        simp at this
        omega
      apply List.ext_getElem?
      intro i
      by_cases hi : i < n
      · obtain ⟨b, hb, hf⟩ := Lib.mapM_at hm i i (by simp [hi])
        obtain ⟨z, hc, rfl, _⟩ := DataW.trod_string he hf
        have h1 : cs[i]? = some (.string z) := by
          have := congrArg (·[0]?) hc
          simpa [List.getElem?_take, List.getElem?_drop] using this
        have h2 : (xs.map (·.1))[i]? = some (DataW.lit (.string z.data.toList) : DataW H) := by simp [hb]
        rw [hxs] at h2
        simp only [List.getElem?_map, Option.map_eq_some_iff, DataW.lit.injEq, Lit.string.injEq] at h2
        obtain ⟨z', hz', he'⟩ := h2
        rw [h1, List.getElem?_map, hz', Option.map_some, bytes_inj he']
      · rw [List.getElem?_eq_none (by omega), List.getElem?_eq_none (by simp; omega)]
    · cases h

end Go.Proofs.YtbekfjjajggffaaDoor.shut

/-
  The plain mathematics of numbers and texts as bytes: what a number's bytes are, what bytes are read as, and that reading and writing undo each other. It speaks of lists and numbers alone, under no condition but a number below two to the sixty-fourth.
-/
namespace Go.Proofs.YtbekfjjajggffaaDoor.octet

/-- A number's bytes, of at most f + 1. -/
def enc : Nat → Nat → List UInt8
  | 0, n => [UInt8.ofNat n]
  | f + 1, n => if n < 128 then [UInt8.ofNat n] else UInt8.ofNat (n % 128 + 128) :: enc f (n / 128)
def num (n : Nat) : List UInt8 := enc 9 n

theorem enc_small (f n : Nat) (h : n < 128) : enc f n = [UInt8.ofNat n] := by
  cases f with
  | zero => rfl
  | succ f => simp [enc, h]
theorem enc_more (f : Nat) : ∀ n, n < 128 ^ (f + 1) → enc (f + 1) n = enc f n := by
  induction f with
  | zero => intro n h; rw [enc_small _ _ (by omega), enc_small _ _ (by omega)]
  | succ f ih =>
    intro n h
    by_cases hn : n < 128
    · rw [enc_small _ _ hn, enc_small _ _ hn]
    · have hd : n / 128 < 128 ^ (f + 1) := by
        rw [Nat.div_lt_iff_lt_mul (by omega), ← Nat.pow_succ]; exact h
      have e1 : enc (f + 1 + 1) n = UInt8.ofNat (n % 128 + 128) :: enc (f + 1) (n / 128) := by rw [enc, if_neg hn]
      have e2 : enc (f + 1) n = UInt8.ofNat (n % 128 + 128) :: enc f (n / 128) := by rw [enc, if_neg hn]
      rw [e1, e2, ih _ hd]
theorem num_small {n : Nat} (h : n < 128) : num n = [UInt8.ofNat n] := enc_small 9 n h
theorem num_big {n : Nat} (h : 128 ≤ n) (h64 : n < 18446744073709551616) : num n = UInt8.ofNat (n % 128 + 128) :: num (n / 128) := by
  have e1 : num n = UInt8.ofNat (n % 128 + 128) :: enc 8 (n / 128) := by
    unfold num
    rw [enc, if_neg (by omega)]
  rw [e1]
  unfold num
  rw [enc_more 8 (n / 128) (by have : (128 : Nat) ^ (8 + 1) = 9223372036854775808 := rfl; omega)]

theorem enc_length_pos (f n : Nat) : 0 < (enc f n).length := by
  cases f with
  | zero => simp [enc]
  | succ f => simp only [enc]; split <;> simp
theorem enc_length_le (f : Nat) : ∀ n, (enc f n).length ≤ f + 1 := by
  induction f with
  | zero => intro n; simp [enc]
  | succ f ih =>
    intro n
    simp only [enc]
    split
    · simp
    · have := ih (n / 128); simp; omega
theorem num_length_le (n : Nat) : (num n).length ≤ 10 := enc_length_le 9 n
theorem enc_length_mono (f : Nat) : ∀ m n, m ≤ n → (enc f m).length ≤ (enc f n).length := by
  induction f with
  | zero => intro m n _; simp [enc]
  | succ f ih =>
    intro m n h
    by_cases hm : m < 128
    · rw [enc_small _ _ hm]
      exact enc_length_pos _ _
    · have hn : ¬ n < 128 := by omega
      rw [enc, if_neg hm, enc, if_neg hn]
      have := ih (m / 128) (n / 128) (Nat.div_le_div_right h)
      simpa using this
theorem num_length_mono {m n : Nat} (h : m ≤ n) : (num m).length ≤ (num n).length := enc_length_mono 9 m n h

/-- What bytes are read as, behind k bytes that made acc: the number, what is left, the error. -/
def dec : List UInt8 → Nat → Nat → Nat × List UInt8 × Nat
  | [], _, _ => (0, [], 3)
  | b :: r, k, acc =>
    if (k = 9 ∧ 1 < b.toNat) ∨ (0 < k ∧ b.toNat = 0) then (0, [], 2)
    else if b.toNat < 128 then (acc + b.toNat % 128 * 128 ^ k, r, 0)
    else dec r (k + 1) (acc + b.toNat % 128 * 128 ^ k)

theorem dec_err {b : UInt8} {r : List UInt8} {k acc : Nat} (h : (k = 9 ∧ 1 < b.toNat) ∨ (0 < k ∧ b.toNat = 0)) : dec (b :: r) k acc = (0, [], 2) := by rw [dec, if_pos h]
theorem dec_last {b : UInt8} {r : List UInt8} {k acc : Nat} (h : ¬ ((k = 9 ∧ 1 < b.toNat) ∨ (0 < k ∧ b.toNat = 0))) (hb : b.toNat < 128) : dec (b :: r) k acc = (acc + b.toNat % 128 * 128 ^ k, r, 0) := by rw [dec, if_neg h, if_pos hb]
theorem dec_next {b : UInt8} {r : List UInt8} {k acc : Nat} (h : ¬ ((k = 9 ∧ 1 < b.toNat) ∨ (0 < k ∧ b.toNat = 0))) (hb : ¬ b.toNat < 128) : dec (b :: r) k acc = dec r (k + 1) (acc + b.toNat % 128 * 128 ^ k) := by rw [dec, if_neg h, if_neg hb]

/-- Behind an error nothing is read: zero, and nothing is left. -/
theorem dec_fails (l : List UInt8) : ∀ k acc, (dec l k acc).2.2 ≠ 0 → (dec l k acc).1 = 0 ∧ (dec l k acc).2.1 = [] := by
  induction l with
  | nil => intro k acc _; simp [dec]
  | cons b r ih =>
    intro k acc
    by_cases h : (k = 9 ∧ 1 < b.toNat) ∨ (0 < k ∧ b.toNat = 0)
    · rw [dec_err h]; simp
    · by_cases hb : b.toNat < 128
      · rw [dec_last h hb]; simp
      · rw [dec_next h hb]; exact ih _ _
theorem dec_code (l : List UInt8) : ∀ k acc, (dec l k acc).2.2 ≤ 3 := by
  induction l with
  | nil => intro k acc; simp [dec]
  | cons b r ih =>
    intro k acc
    by_cases h : (k = 9 ∧ 1 < b.toNat) ∨ (0 < k ∧ b.toNat = 0)
    · rw [dec_err h]; simp
    · by_cases hb : b.toNat < 128
      · rw [dec_last h hb]; simp
      · rw [dec_next h hb]; exact ih _ _
theorem dec_left (l : List UInt8) : ∀ k acc, (dec l k acc).2.1.length ≤ l.length := by
  induction l with
  | nil => intro k acc; simp [dec]
  | cons b r ih =>
    intro k acc
    by_cases h : (k = 9 ∧ 1 < b.toNat) ∨ (0 < k ∧ b.toNat = 0)
    · rw [dec_err h]; simp
    · by_cases hb : b.toNat < 128
      · rw [dec_last h hb]; simp
      · rw [dec_next h hb]; have := ih (k + 1) (acc + b.toNat % 128 * 128 ^ k); simp; omega

theorem pow_step {k : Nat} (x : Nat) : x * 128 ^ (k + 1) = 128 * x * 128 ^ k := by
  rw [Nat.pow_succ, Nat.mul_comm (128 ^ k) 128, ← Nat.mul_assoc, Nat.mul_comm x 128]

/-- What is read without an error, put again, is just the bytes that were read. -/
theorem dec_once (l : List UInt8) : ∀ k acc v rest, k ≤ 9 → dec l k acc = (v, rest, 0) →
    ∃ m, v = acc + m * 128 ^ k ∧ l = enc (9 - k) m ++ rest ∧ (0 < k → 0 < m) ∧ m < 2 * 128 ^ (9 - k) := by
  induction l with
  | nil => intro k acc v rest _ h; simp [dec] at h
  | cons b r ih =>
    intro k acc v rest hk h
    by_cases he : (k = 9 ∧ 1 < b.toNat) ∨ (0 < k ∧ b.toNat = 0)
    · rw [dec_err he] at h; simp at h
    · have h9 : k = 9 → b.toNat ≤ 1 := fun e => by
        rcases Nat.lt_or_ge 1 b.toNat with hh | hh
        · exact absurd (Or.inl ⟨e, hh⟩) he
        · exact hh
      have h0 : 0 < k → 0 < b.toNat := fun e => by
        rcases Nat.eq_zero_or_pos b.toNat with hh | hh
        · exact absurd (Or.inr ⟨e, hh⟩) he
        · exact hh
      have hp : 0 < 128 ^ (9 - k) := Nat.pow_pos (by omega)
      have h256 : b.toNat < 256 := b.toNat_lt
      by_cases hb : b.toNat < 128
      · rw [dec_last he hb] at h
        simp only [Prod.mk.injEq] at h
        obtain ⟨hv, hr, _⟩ := h
        refine ⟨b.toNat, by rw [← hv, Nat.mod_eq_of_lt hb], ?_, h0, ?_⟩
        · rw [enc_small _ _ hb, hr]; simp
        · by_cases e : k = 9
          · have := h9 e; omega
          · have : (128 : Nat) ^ 1 ≤ 128 ^ (9 - k) := Nat.pow_le_pow_right (by omega) (by omega)
            omega
      · have hk9 : k < 9 := by
          rcases Nat.lt_or_ge k 9 with hh | hh
          · exact hh
          · have := h9 (by omega); omega
        rw [dec_next he hb] at h
        obtain ⟨m, hv, hr, hm, hlt⟩ := ih (k + 1) _ v rest (by omega) h
        have hm0 := hm (by omega)
        have hf : 9 - k = (9 - (k + 1)) + 1 := by omega
        refine ⟨b.toNat % 128 + 128 * m, ?_, ?_, fun _ => by omega, ?_⟩
        · rw [hv, pow_step, Nat.add_mul, Nat.add_assoc]
        · have e1 : (b.toNat % 128 + 128 * m) % 128 + 128 = b.toNat := by omega
          have e2 : (b.toNat % 128 + 128 * m) / 128 = m := by omega
          rw [hf, enc, if_neg (by omega), e1, e2, hr]
          simp
        · rw [hf, Nat.pow_succ]; omega

/-- What was put is read again, whatever stands behind. -/
theorem dec_back (f : Nat) : ∀ m acc more, f ≤ 9 → m < 2 * 128 ^ f → (f < 9 → 0 < m) → dec (enc f m ++ more) (9 - f) acc = (acc + m * 128 ^ (9 - f), more, 0) := by
  induction f with
  | zero =>
    intro m acc more _ h h0
    have hm : m < 2 := by simpa using h
    have hm0 := h0 (by omega)
    obtain rfl : m = 1 := by omega
    rfl
  | succ f ih =>
    intro m acc more hf h h0
    by_cases hm : m < 128
    · have ht : (UInt8.ofNat m).toNat = m := by rw [UInt8.toNat_ofNat']; omega
      rw [enc_small _ _ hm]
      show dec (UInt8.ofNat m :: more) _ acc = _
      rw [dec_last (by rw [ht]; omega) (by rw [ht]; exact hm), ht, Nat.mod_eq_of_lt hm]
    · have ht : (UInt8.ofNat (m % 128 + 128)).toNat = m % 128 + 128 := by rw [UInt8.toNat_ofNat']; omega
      rw [enc, if_neg hm]
      show dec (UInt8.ofNat (m % 128 + 128) :: (enc f (m / 128) ++ more)) _ acc = _
      rw [dec_next (by rw [ht]; omega) (by rw [ht]; omega), ht]
      have hlt : m / 128 < 2 * 128 ^ f := by rw [Nat.div_lt_iff_lt_mul (by omega), Nat.mul_assoc, ← Nat.pow_succ]; exact h
      have e : 9 - (f + 1) + 1 = 9 - f := by omega
      rw [e, ih (m / 128) _ more (by omega) hlt (fun _ => by omega)]
      have e' : 9 - f = (9 - (f + 1)) + 1 := by omega
      rw [e', pow_step, Nat.add_assoc, ← Nat.add_mul]
      congr 3
      omega

theorem num_back {n : Nat} (h : n < 18446744073709551616) (more : List UInt8) : dec (num n ++ more) 0 0 = (n, more, 0) := by
  have := dec_back 9 n 0 more (Nat.le_refl _) (by have : (2 : Nat) * 128 ^ 9 = 18446744073709551616 := rfl; omega) (by omega)
  show dec (enc 9 n ++ more) 0 0 = _
  simpa using this
theorem num_once {l : List UInt8} {v : Nat} {rest : List UInt8} (h : dec l 0 0 = (v, rest, 0)) : l = num v ++ rest ∧ v < 18446744073709551616 := by
  obtain ⟨m, hv, hl, _, hm⟩ := dec_once l 0 0 v rest (by omega) h
  obtain rfl : v = m := by omega
  have e : (2 : Nat) * 128 ^ (9 - 0) = 18446744073709551616 := rfl
  exact ⟨hl, by omega⟩
theorem dec_lt (l : List UInt8) : (dec l 0 0).1 < 18446744073709551616 := by
  by_cases h : (dec l 0 0).2.2 = 0
  · exact (num_once (l := l) (v := (dec l 0 0).1) (rest := (dec l 0 0).2.1) (Prod.ext rfl (Prod.ext rfl h))).2
  · rw [(dec_fails l 0 0 h).1]; omega

/-- A number with a sign as one without. -/
def zig (n : Int) : Nat := if 0 ≤ n then (2 * n).toNat else (-2 * n - 1).toNat
def zag (v : Nat) : Int := if v % 2 = 1 then -((v / 2 : Nat) : Int) - 1 else ((v / 2 : Nat) : Int)
theorem zag_zig (n : Int) : zag (zig n) = n := by unfold zag zig; split <;> split <;> omega
theorem zig_zag (v : Nat) : zig (zag v) = v := by unfold zag zig; split <;> split <;> omega
theorem zig_lt {n : Int} (h1 : -9223372036854775808 ≤ n) (h2 : n ≤ 9223372036854775807) : zig n < 18446744073709551616 := by unfold zig; split <;> omega
theorem zag_ge {v : Nat} (h : v < 18446744073709551616) : -9223372036854775808 ≤ zag v ∧ zag v ≤ 9223372036854775807 := by unfold zag; split <;> omega

/-- What the reader holds: the bytes that are left, and the first error. -/
structure St where
  rest : List UInt8
  err : Nat
def St.ok (s : St) : Prop := s.err ≠ 0 → s.rest = []

def rdByte (s : St) : Nat × St :=
  if s.err ≠ 0 then (0, s) else match s.rest with
    | [] => (0, ⟨[], 3⟩)
    | b :: r => (b.toNat, ⟨r, 0⟩)
def rdNum (s : St) : Nat × St :=
  if s.err ≠ 0 then (0, s) else ((dec s.rest 0 0).1, ⟨(dec s.rest 0 0).2.1, (dec s.rest 0 0).2.2⟩)
def rdInt (s : St) : Int × St := (zag (rdNum s).1, (rdNum s).2)
def St.fail (s : St) (e : Nat) : St := if s.err ≠ 0 then s else ⟨[], e⟩
def rdText (s : St) : List UInt8 × St :=
  if (rdNum s).2.rest.length < (rdNum s).1 then ([], (rdNum s).2.fail 3)
  else ((rdNum s).2.rest.take (rdNum s).1, ⟨(rdNum s).2.rest.drop (rdNum s).1, (rdNum s).2.err⟩)

theorem rdByte_ok {s : St} (h : s.ok) : (rdByte s).2.ok := by
  unfold rdByte
  split
  · exact h
  · split
    · intro _; rfl
    · intro he; exact absurd rfl he
theorem rdNum_ok {s : St} (h : s.ok) : (rdNum s).2.ok := by
  unfold rdNum
  split
  · exact h
  · intro he; exact (dec_fails _ _ _ he).2
theorem fail_ok {s : St} (h : s.ok) (e : Nat) : (s.fail e).ok := by
  unfold St.fail
  split
  · exact h
  · intro _; rfl
theorem rdText_ok {s : St} (h : s.ok) : (rdText s).2.ok := by
  unfold rdText
  split
  · exact fail_ok (rdNum_ok h) 3
  · intro he
    show List.drop _ _ = []
    rw [(rdNum_ok h) he]; simp
theorem rdNum_lt (s : St) : (rdNum s).1 < 18446744073709551616 := by
  unfold rdNum
  split
  · omega
  · exact dec_lt _
theorem rdNum_left (s : St) : (rdNum s).2.rest.length ≤ s.rest.length := by
  unfold rdNum
  split
  · exact Nat.le_refl _
  · exact dec_left _ _ _

end Go.Proofs.YtbekfjjajggffaaDoor.octet
