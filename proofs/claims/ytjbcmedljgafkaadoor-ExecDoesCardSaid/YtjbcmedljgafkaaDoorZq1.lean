/-
  Texts of one claim in one file: Shut, PPlain, PProg, PTab, PClose, Plain, WPlain, DPlain, DBack, DMem, DArg. Each has its own sentence, with its conditions.
-/
import Derived.Test.YtjbcmedljgafkaaDoorRows
import Derived.OpenShut
import Derived.Below
import Derived.ChangeSame
import Derived.ChangeArms
import Derived.Carry
import Derived.ProofKit
import Derived.WideKeyArgs
import Derived.WideShapes
import Derived.LaidMore
import Derived.Lib.LaidTab
import Derived.Lib.Strings
import Derived.Test.YtjbcmedljgafkaaDoorProg
import Derived.WalkKit
import Derived.IntWalk
import Derived.LoopTactic
import Derived.Lib.Hide
import Derived.Outline
import Derived.Deep.Cut
import Derived.Deep.CutBlock
import Derived.Deep.DeepCutAuto
import Derived.Stop.Joined
import Derived.OwnWalk
import Derived.Deep.RegionLaw
import Derived.Deep.AppendLies
import Derived.Laws.AppendOwnNone
import Derived.Maps.AppendAt
import Derived.Deep.QuietTactic
import Derived.BigQuiet
import Derived.Deep.RegionHeld3
/-
  The last step of each statement: below the blocks that were there nothing has turned, so the arguments read as they did. No condition.
-/

namespace Go.Proofs.YtjbcmedljgafkaaDoor.shut
open Go.ChangeShapes Go.WideShapes Go.RowKit
set_option linter.unusedVariables false

theorem laidOut : laidOutB Tryd.prog = true := by kernel_rfl
theorem own : ownKnob Tryd.prog.godebug = none := by kernel_rfl

section
variable {H : Type} {enc : TypeId × Value → H} {P : Program}
/-- What 'post' asks, where of the call's world only this is known: below the old size no block has turned. -/
theorem post_below {f : Func} {s : ChangeSpec} {apart fresh handsOn again : Bool} {W W' : World} {args : Array Value} {v : Value} {ds gs : List (DataW H)} {before pa pv : List MemPlace}
    (hW : DataW.Whole enc P f.params.toList s.vars apart W args.toList ds gs before)
    (hres : ∀ (b : Nat) (sp : Nat → Bool) (hd : Bool), DataW.TrodAll enc P W' b sp hd f.resultTypes.toList (v.resultList f.resultTypes.size) (s.fn H (ds ++ gs)).results [])
    (hargs : ∀ sp : Nat → Bool, (∀ p ∈ before, sp p.block = true) → DataW.TrodAll enc P W' 0 sp true f.params.toList args.toList (s.fn H (ds ++ gs)).args pa)
    (hvars : ∀ sp : Nat → Bool, (∀ p ∈ before, sp p.block = true) → DataW.TrodVars enc P W' sp s.vars (s.fn H (ds ++ gs)).vars pv)
    (hps : before = pa ++ pv) (hb : Below W.heap.size W W')
    (hok : ∀ (j : Nat) (t : TypeId) (r : Value), f.resultTypes[j]? = some t → (v.resultList f.resultTypes.size)[j]? = some r → Value.okWide P W' .any 0 t r) :
    s.post enc P f apart fresh handsOn again W args v W' := by
  have hlt : ∀ p ∈ before, p.block < W.heap.size := fun p hp => hW.lt p hp
  have hold : ∀ p ∈ before, (fun b => decide (b < W.heap.size)) p.block = true := fun p hp => by simpa using hlt p hp
  refine ⟨ds, gs, before, [], pa, pv, hW, hres _ _ _, hargs _ hold, hvars _ hold, World.keptBut_mono (fun p hp => ⟨hp, ?_⟩) (hb.frame (· ∈ before)), fun _ => ?_⟩
  · rw [hps, List.mem_append] at hp
    exact Or.inr hp
  · obtain ⟨_, _, _, _, _, hz, hn⟩ := hW
    refine ⟨hok, _, _, ([] ++ pa) ++ pv, ⟨[] ++ pa, pv, trodAll_append (hargs _ (fun _ _ => rfl)) (hres _ _ _), hvars _ (fun _ _ => rfl), rfl, ?_, ?_⟩, ?_⟩
    · intro b off hp
      have hin : MemPlace.cell b off ∈ before := by rw [hps]; simpa using hp
      rw [hb.frozen (hlt _ hin)]
      exact hz b off hin
    · intro ha
      have := hn ha
      rw [hps] at this
      simpa using this
    · intro p hp _
      rw [hps]
      simpa using hp
end
/-- AN ARRAY OF TEXTS THAT READS AS A LIST HOLDS THESE TEXTS, CELL FOR CELL. -/
theorem cells_of_texts {H : Type} {enc : TypeId × Value → H} {P : Program} {w : World} {base : Nat} {sp : Nat → Bool} {held : Bool} {fuel : Nat} {t e : TypeId} {n : Nat} {cs : List Value} {zs : List ByteArray} {p : List MemPlace}
    (ht : P.underlying t = some (.array n e)) (he : P.underlying e = some .string) (hce : P.cellsOf e = 1) (hct : P.cellsOf t = n)
    (h : DataW.trod enc P w base sp held fuel t cs = some (.agg (zs.map fun z => .lit (.string z.data.toList)), p)) : cs = zs.map fun z => Value.string z := by
  cases fuel with
  | zero => simp [DataW.trod] at h
  | succ fuel =>
    simp only [DataW.trod, ht, hce, hct, Nat.mul_one] at h
    split at h
    · rename_i hl
      obtain ⟨xs, hm, hx⟩ := Option.map_eq_some_iff.1 h
      have hxs : xs.map (·.1) = zs.map fun z => (DataW.lit (.string z.data.toList) : DataW H) := by
        have := congrArg Prod.fst hx
        simpa using this
      have hxl : xs.length = n := by simpa using Lib.mapM_length hm
      have hzl : zs.length = n := by
        have := congrArg List.length hxs
        simp at this
        omega
      apply List.ext_getElem?
      intro i
      by_cases hi : i < n
      · obtain ⟨b, hb, hf⟩ := Lib.mapM_at hm i i (by simp [hi])
        obtain ⟨z, hc, rfl, _⟩ := DataW.trod_string he hf
        have h1 : cs[i]? = some (.string z) := by
          have := congrArg (·[0]?) hc
          simpa [List.getElem?_take, List.getElem?_drop] using this
        have h2 : (xs.map (·.1))[i]? = some (DataW.lit (.string z.data.toList) : DataW H) := by simp [hb]
        rw [hxs] at h2
        simp only [List.getElem?_map, Option.map_eq_some_iff, DataW.lit.injEq, Lit.string.injEq] at h2
        obtain ⟨z', hz', he'⟩ := h2
        rw [h1, List.getElem?_map, hz', Option.map_some, bytes_inj he']
      · rw [List.getElem?_eq_none (by omega), List.getElem?_eq_none (by simp; omega)]
    · cases h

end Go.Proofs.YtjbcmedljgafkaaDoor.shut

/-
  The document's table of operations: names, forms, what is taken and laid, by number; and the first number that has a name. No condition.
-/

namespace Go.Proofs.YtjbcmedljgafkaaDoor.oper

def nm : List ByteArray := [⟨#[112, 117, 115, 104]⟩, ⟨#[108, 111, 97, 100]⟩, ⟨#[115, 116, 111, 114, 101]⟩, ⟨#[97, 100, 100]⟩, ⟨#[115, 117, 98]⟩, ⟨#[109, 117, 108]⟩, ⟨#[100, 105, 118]⟩, ⟨#[109, 111, 100]⟩, ⟨#[110, 101, 103]⟩, ⟨#[108, 116]⟩, ⟨#[101, 113]⟩, ⟨#[97, 110, 100]⟩, ⟨#[111, 114]⟩, ⟨#[120, 111, 114]⟩, ⟨#[115, 104, 108]⟩, ⟨#[115, 104, 114]⟩, ⟨#[100, 117, 112]⟩, ⟨#[100, 114, 111, 112]⟩, ⟨#[106, 117, 109, 112]⟩, ⟨#[122, 101, 114, 111]⟩, ⟨#[99, 97, 108, 108]⟩, ⟨#[114, 101, 116]⟩, ⟨#[115, 101, 108, 102]⟩, ⟨#[110, 111, 119]⟩, ⟨#[111, 117, 116]⟩, ⟨#[121, 105, 101, 108, 100]⟩, ⟨#[119, 97, 105, 116]⟩, ⟨#[119, 97, 105, 116, 102, 111, 114]⟩, ⟨#[115, 108, 101, 101, 112]⟩, ⟨#[117, 110, 108, 111, 99, 107]⟩, ⟨#[112, 111, 115, 116]⟩, ⟨#[103, 105, 118, 101]⟩, ⟨#[99, 119, 97, 105, 116]⟩, ⟨#[99, 119, 97, 105, 116, 102, 111, 114]⟩, ⟨#[115, 105, 103, 110, 97, 108]⟩, ⟨#[98, 114, 111, 97, 100, 99, 97, 115, 116]⟩, ⟨#[101, 110, 114, 111, 108]⟩, ⟨#[108, 101, 97, 118, 101]⟩, ⟨#[97, 114, 114, 105, 118, 101]⟩, ⟨#[97, 114, 114, 105, 118, 101, 102, 111, 114]⟩, ⟨#[115, 112, 97, 119, 110]⟩, ⟨#[106, 111, 105, 110]⟩, ⟨#[106, 111, 105, 110, 102, 111, 114]⟩, ⟨#[103, 114, 97, 110, 116]⟩, ⟨#[119, 97, 105, 118, 101]⟩, ⟨#[114, 101, 97, 100]⟩, ⟨#[119, 114, 105, 116, 101]⟩, ⟨#[98, 101, 103, 105, 110]⟩, ⟨#[99, 111, 109, 109, 105, 116]⟩, ⟨#[99, 108, 97, 105, 109]⟩, ⟨#[100, 101, 97, 100]⟩, ⟨#[109, 101, 110, 100]⟩]
def fm : List ByteArray := [⟨#[110]⟩, ⟨#[107]⟩, ⟨#[107]⟩, ⟨#[]⟩, ⟨#[]⟩, ⟨#[]⟩, ⟨#[]⟩, ⟨#[]⟩, ⟨#[]⟩, ⟨#[]⟩, ⟨#[]⟩, ⟨#[]⟩, ⟨#[]⟩, ⟨#[]⟩, ⟨#[]⟩, ⟨#[]⟩, ⟨#[]⟩, ⟨#[]⟩, ⟨#[116]⟩, ⟨#[116]⟩, ⟨#[102]⟩, ⟨#[]⟩, ⟨#[]⟩, ⟨#[]⟩, ⟨#[]⟩, ⟨#[]⟩, ⟨#[119]⟩, ⟨#[119]⟩, ⟨#[]⟩, ⟨#[117]⟩, ⟨#[115]⟩, ⟨#[112]⟩, ⟨#[99, 109]⟩, ⟨#[99, 109]⟩, ⟨#[99]⟩, ⟨#[99]⟩, ⟨#[98]⟩, ⟨#[98]⟩, ⟨#[98]⟩, ⟨#[98]⟩, ⟨#[102]⟩, ⟨#[106, 106]⟩, ⟨#[106, 106]⟩, ⟨#[]⟩, ⟨#[]⟩, ⟨#[118]⟩, ⟨#[118]⟩, ⟨#[]⟩, ⟨#[]⟩, ⟨#[113]⟩, ⟨#[109]⟩, ⟨#[109]⟩]
def tk : List Int := [0, 0, 1, 2, 2, 2, 2, 2, 1, 2, 2, 2, 2, 2, 2, 2, 1, 1, 0, 1, 0, 1, 0, 0, 1, 0, 0, 1, 1, 0, 1, 1, 0, 1, 0, 0, 0, 0, 0, 1, 2, 0, 1, 2, 1, 0, 1, 0, 0, 1, 0, 0]
def ly : List Int := [1, 1, 0, 1, 1, 1, 1, 1, 1, 1, 1, 1, 1, 1, 1, 1, 2, 0, 0, 0, 1, 0, 1, 1, 1, 0, 1, 1, 1, 1, 1, 1, 1, 1, 1, 1, 1, 1, 1, 1, 1, 1, 1, 1, 1, 2, 1, 1, 1, 1, 1, 1]
/-- What stands in a list of texts at a number; the empty text where nothing does. -/
def txt (l : List ByteArray) (n : Int) : ByteArray := if 0 ≤ n ∧ n ≤ 51 then l.getD n.toNat ⟨#[]⟩ else ⟨#[]⟩
def numb (l : List Int) (n : Int) : Int := if 0 ≤ n ∧ n ≤ 51 then l.getD n.toNat 0 else 0
def same (a b : ByteArray) : Bool := a.toList == b.toList
/-- The first number that has this name; 52: none. -/
def idx (s : ByteArray) : Nat := nm.findIdx fun x => same x s
end Go.Proofs.YtjbcmedljgafkaaDoor.oper

/-
  The program's own calls on operations: which numbers are one, its form, what is laid, and whether the next one follows. No condition.
-/

namespace Go.Proofs.YtjbcmedljgafkaaDoor.oper
open Go.RowKit Go.ChangeShapes

theorem ret_int {k : IntKind} {a b : Int} (h : a = b) : Ending.returned (.int k a) = .returned (.int k b) := by rw [h]
theorem ret_bool {a b : Bool} (h : a = b) : Ending.returned (.bool a) = .returned (.bool b) := by rw [h]
theorem known_yes (n : Int) (h0 : 0 ≤ n) (h1 : n ≤ 51) (w : World) : Calls Tryd.prog 57 #[.int .i64 n] w fun e w' => e = .returned (.bool true) ∧ w = w' := by
  have h2 : n < 52 := by omega
  go_enter Tryd.func57, Tryd.ntmps57
  go_wp2
  go_ret
  exact ⟨rfl, rfl⟩
theorem known_no (n : Int) (h : n < 0 ∨ 51 < n) (w : World) : Calls Tryd.prog 57 #[.int .i64 n] w fun e w' => e = .returned (.bool false) ∧ w = w' := by
  by_cases h0 : 0 ≤ n
  · have h1 : ¬ n < 52 := by omega
    have hd : decide (n < 52) = false := by simpa using h1
    go_enter Tryd.func57, Tryd.ntmps57
    go_wp2
    go_ret
    exact ⟨rfl, rfl⟩
  · have hd : decide (0 ≤ n) = false := by simpa using h0
    go_enter Tryd.func57, Tryd.ntmps57
    go_wp2
    go_ret
    exact ⟨rfl, rfl⟩

theorem nat_of {n : Int} (h : 0 ≤ n ∧ n ≤ 51) : ∃ k : Nat, k < 52 ∧ n = (k : Int) := ⟨n.toNat, by omega, by omega⟩
theorem txt_at {l : List ByteArray} {k : Nat} (h : k < 52) : txt l (k : Int) = l.getD k ⟨#[]⟩ := by
  unfold txt
  rw [if_pos (by omega), Int.toNat_natCast]
theorem numb_at {l : List Int} {k : Nat} (h : k < 52) : numb l (k : Int) = l.getD k 0 := by
  unfold numb
  rw [if_pos (by omega), Int.toNat_natCast]
theorem txt_no {l : List ByteArray} {n : Int} (h : n < 0 ∨ 51 < n) : txt l n = ⟨#[]⟩ := by
  unfold txt
  rw [if_neg (by omega)]
theorem numb_no {l : List Int} {n : Int} (h : n < 0 ∨ 51 < n) : numb l n = 0 := by
  unfold numb
  rw [if_neg (by omega)]
/-- Whether the next instruction follows. -/
def goesB (n : Int) : Bool := decide (0 ≤ n ∧ n ≤ 51 ∧ n ≠ 18 ∧ n ≠ 21)
end Go.Proofs.YtjbcmedljgafkaaDoor.oper

/-
  The program's table of names lies where its initialiser lays it; with that: an operation's name, and the operation of a name. The card ties the table to the program's text.
-/

namespace Go.Proofs.YtjbcmedljgafkaaDoor.oper
open Go.RowKit Go.ChangeShapes

/-- The table of names lies where its initialiser lays it. -/
def Tab (w : World) : Prop := ∀ j, j < 52 → w.cell? ⟨0, j, none⟩ = some (.string (nm.getD j ⟨#[]⟩))
theorem Tab.below {B : Nat} {w w' : World} (h : Tab w) (hb : Below B w w') (hB : 0 < B) : Tab w' := fun j hj => (hb.cell (p := ⟨0, j, none⟩) hB).trans (h j hj)
theorem Tab.cell {w w' : World} (h : Tab w) (hc : ∀ p, w'.cell? p = w.cell? p) : Tab w' := fun j hj => (hc _).trans (h j hj)

theorem name_yes (k : Nat) (hk : k < 52) (w : World) (hT : Tab w) : Calls Tryd.prog 38 #[.int .i64 (k : Int)] w fun e w' => e = .returned (.string (nm.getD k ⟨#[]⟩)) ∧ w = w' := by
  have hc := hT k hk
  have H := Lib.hid (known_yes k (by omega) (by omega) w)
  have h1 : (k : Int) < 52 := by omega
  clear hT
  generalize nm.getD k ⟨#[]⟩ = x at *
  go_enter Tryd.func38, Tryd.ntmps38
  go_wp2_with fail
  refine H.out.mono ?_
  rintro e w' ⟨rfl, rfl⟩
  go_wp2
  go_ret
  exact ⟨rfl, rfl⟩
theorem name_no (n : Int) (h : n < 0 ∨ 51 < n) (w : World) : Calls Tryd.prog 38 #[.int .i64 n] w fun e w' => e = .returned (.string ⟨#[]⟩) ∧ w = w' := by
  have H := Lib.hid (known_no n h w)
  clear h
  go_enter Tryd.func38, Tryd.ntmps38
  go_wp2_with fail
  refine H.out.mono ?_
  rintro e w' ⟨rfl, rfl⟩
  go_wp2
  go_ret
  exact ⟨rfl, rfl⟩
/-- What Of answers of a name: the operation, and whether there is one. -/
def ofK (s : ByteArray) : Int := if idx s < 52 then idx s else 0
def ofB (s : ByteArray) : Bool := decide (idx s < 52)
def OfPost (s : ByteArray) (w : World) (e : Ending) (w' : World) : Prop := e = .returned (.tuple #[.int .i64 (ofK s), .bool (ofB s)]) ∧ w = w'

end Go.Proofs.YtjbcmedljgafkaaDoor.oper

/-
  The last step of each statement: below the blocks that were there nothing has turned, so the arguments read as they did; and what the row's condition on the table of names gives. No condition.
-/

namespace Go.Proofs.YtjbcmedljgafkaaDoor.oper
open Go.RowKit Go.WideShapes Go.ChangeShapes

section
variable {H : Type} {enc : TypeId × Value → H} {P : Program}
/-- What 'post' asks, where of the call's world only this is known: below the old size no block has turned. -/
theorem post_below {f : Func} {s : ChangeSpec} {apart fresh handsOn again : Bool} {W W' : World} {args : Array Value} {v : Value} {ds gs : List (DataW H)} {before pa pv : List MemPlace}
    (hW : DataW.Whole enc P f.params.toList s.vars apart W args.toList ds gs before)
    (hres : ∀ (b : Nat) (sp : Nat → Bool) (hd : Bool), DataW.TrodAll enc P W' b sp hd f.resultTypes.toList (v.resultList f.resultTypes.size) (s.fn H (ds ++ gs)).results [])
    (hargs : ∀ sp : Nat → Bool, (∀ p ∈ before, sp p.block = true) → DataW.TrodAll enc P W' 0 sp true f.params.toList args.toList (s.fn H (ds ++ gs)).args pa)
    (hvars : ∀ sp : Nat → Bool, (∀ p ∈ before, sp p.block = true) → DataW.TrodVars enc P W' sp s.vars (s.fn H (ds ++ gs)).vars pv)
    (hps : before = pa ++ pv) (hb : Below W.heap.size W W')
    (hok : ∀ (j : Nat) (t : TypeId) (r : Value), f.resultTypes[j]? = some t → (v.resultList f.resultTypes.size)[j]? = some r → Value.okWide P W' .any 0 t r) :
    s.post enc P f apart fresh handsOn again W args v W' := by
  have hlt : ∀ p ∈ before, p.block < W.heap.size := fun p hp => hW.lt p hp
  have hold : ∀ p ∈ before, (fun b => decide (b < W.heap.size)) p.block = true := fun p hp => by simpa using hlt p hp
  refine ⟨ds, gs, before, [], pa, pv, hW, hres _ _ _, hargs _ hold, hvars _ hold, World.keptBut_mono (fun p hp => ⟨hp, ?_⟩) (hb.frame (· ∈ before)), fun _ => ?_⟩
  · rw [hps, List.mem_append] at hp
    exact Or.inr hp
  · obtain ⟨_, _, _, _, _, hz, hn⟩ := hW
    refine ⟨hok, _, _, ([] ++ pa) ++ pv, ⟨[] ++ pa, pv, trodAll_append (hargs _ (fun _ _ => rfl)) (hres _ _ _), hvars _ (fun _ _ => rfl), rfl, ?_, ?_⟩, ?_⟩
    · intro b off hp
      have hin : MemPlace.cell b off ∈ before := by rw [hps]; simpa using hp
      rw [hb.frozen (hlt _ hin)]
      exact hz b off hin
    · intro ha
      have := hn ha
      rw [hps] at this
      simpa using this
    · intro p hp _
      rw [hps]
      simpa using hp
end

theorem own : ownKnob Tryd.prog.godebug = none := by kernel_rfl

/-- AN ARRAY OF TEXTS THAT READS AS A LIST HOLDS THESE TEXTS, CELL FOR CELL. -/
theorem cells_of_texts {H : Type} {enc : TypeId × Value → H} {P : Program} {w : World} {base : Nat} {sp : Nat → Bool} {held : Bool} {fuel : Nat} {t e : TypeId} {n : Nat} {cs : List Value} {zs : List ByteArray} {p : List MemPlace}
    (ht : P.underlying t = some (.array n e)) (he : P.underlying e = some .string) (hce : P.cellsOf e = 1) (hct : P.cellsOf t = n)
    (h : DataW.trod enc P w base sp held fuel t cs = some (.agg (zs.map fun z => .lit (.string z.data.toList)), p)) : cs = zs.map fun z => Value.string z := by
  cases fuel with
  | zero => simp [DataW.trod] at h
  | succ fuel =>
    simp only [DataW.trod, ht, hce, hct, Nat.mul_one] at h
    split at h
    · rename_i hl
      obtain ⟨xs, hm, hx⟩ := Option.map_eq_some_iff.1 h
      have hxs : xs.map (·.1) = zs.map fun z => (DataW.lit (.string z.data.toList) : DataW H) := by
        have := congrArg Prod.fst hx
        simpa using this
      have hxl : xs.length = n := by simpa using Lib.mapM_length hm
      have hzl : zs.length = n := by
        have := congrArg List.length hxs
        simp at this
        omega
      apply List.ext_getElem?
      intro i
      by_cases hi : i < n
      · obtain ⟨b, hb, hf⟩ := Lib.mapM_at hm i i (by simp [hi])
        obtain ⟨z, hc, rfl, _⟩ := DataW.trod_string he hf
        have h1 : cs[i]? = some (.string z) := by
          have := congrArg (·[0]?) hc
          simpa [List.getElem?_take, List.getElem?_drop] using this
        have h2 : (xs.map (·.1))[i]? = some (DataW.lit (.string z.data.toList) : DataW H) := by simp [hb]
        rw [hxs] at h2
        simp only [List.getElem?_map, Option.map_eq_some_iff, DataW.lit.injEq, Lit.string.injEq] at h2
        obtain ⟨z', hz', he'⟩ := h2
        rw [h1, List.getElem?_map, hz', Option.map_some, bytes_inj he']
      · rw [List.getElem?_eq_none (by omega), List.getElem?_eq_none (by simp; omega)]
    · cases h

/-- The table that each of these rows lists. -/
def laid1 : List (String × DataW Unit) := [("logjam/op.names", Rows.laid_logjam_op_names)]
theorem laid_nm : (Rows.laid_logjam_op_names : DataW Unit) = .agg (nm.map fun z => .lit (.string z.data.toList)) := rfl
theorem gTab : Tryd.prog.globalNamed "logjam/op.names" = some 0 := by kernel_rfl
theorem gTabType : (Tryd.prog.globals[0]?).map (·.type) = some 103 := by kernel_rfl
theorem tabCells : Tryd.prog.cellsOf 103 = 52 := by kernel_rfl
theorem textCells1 : Tryd.prog.cellsOf 9 = 1 := by kernel_rfl
theorem tab_of_head {W : World} {rest : List (String × DataW Unit)} (h : laidMet Tryd.prog (("logjam/op.names", Rows.laid_logjam_op_names) :: rest) W) : Tab W ∧ 0 < W.heap.size := by
  obtain ⟨ps, ⟨g', t', cs, fuel, p, q, hg', ht', hvar, hd, _, _⟩, _⟩ := h
  obtain rfl := Option.some.inj (gTab.symm.trans hg')
  obtain rfl := Option.some.inj (gTabType.symm.trans ht')
  rw [laid_nm] at hd
  have hcs := cells_of_texts Tryd.underlying103 Tryd.underlying9 textCells1 tabCells hd
  have hc : Tab W := by
    intro j hj
    have h1 := World.var?_cell gTab hvar j
    have hj' : j < nm.length := hj
    rw [h1, ← Array.getElem?_toList, hcs, List.getElem?_map, List.getElem?_eq_getElem hj', Option.map_some, List.getD_eq_getElem?_getD, List.getElem?_eq_getElem hj', Option.getD_some]
  refine ⟨hc, ?_⟩
  have h0 := hc 0 (by omega)
  rcases Nat.lt_or_ge 0 W.heap.size with h1 | h1
  · exact h1
  · simp [World.cell?, Array.getElem?_eq_none h1] at h0
theorem of_laid {W : World} (h : laidMetH Tryd.prog laid1 W) : Tab W ∧ 0 < W.heap.size := by
  rw [MakeChecks.laidMetH_plain _ _ _ (by kernel_rfl)] at h
  exact tab_of_head h

/-- The door's own heap meets the condition: three closed facts. -/
theorem door_met (os : Os) (args : Array Value) : laidMetH Tryd.prog laid1 ((World.doorLaid Tryd.prog 14 os).forCall (fun _ _ => 0) ⟨#[], args, []⟩).memory :=
  laidMetH_of_parts3 (fuel := 8) (laidMet_of_run' 8 (by kernel_rfl) (by kernel_rfl)) (by kernel_rfl) (by kernel_rfl)
end Go.Proofs.YtjbcmedljgafkaaDoor.oper

/-
  The plain mathematics of numbers and texts as bytes: what a number's bytes are, what bytes are read as, and that reading and writing undo each other. It speaks of lists and numbers alone, under no condition but a number below two to the sixty-fourth.
-/

namespace Go.Proofs.YtjbcmedljgafkaaDoor.octet

/-- A number's bytes, of at most f + 1. -/
def enc : Nat → Nat → List UInt8
  | 0, n => [UInt8.ofNat n]
  | f + 1, n => if n < 128 then [UInt8.ofNat n] else UInt8.ofNat (n % 128 + 128) :: enc f (n / 128)
def num (n : Nat) : List UInt8 := enc 9 n

/-- A number with a sign as one without. -/
def zig (n : Int) : Nat := if 0 ≤ n then (2 * n).toNat else (-2 * n - 1).toNat
/-- What the reader holds: the bytes that are left, and the first error. -/
structure St where
  rest : List UInt8
  err : Nat
def St.ok (s : St) : Prop := s.err ≠ 0 → s.rest = []

def St.fail (s : St) (e : Nat) : St := if s.err ≠ 0 then s else ⟨[], e⟩
end Go.Proofs.YtjbcmedljgafkaaDoor.octet

/-
  The plain mathematics of words: the word of a number's lowest bits, bit by bit, moved up and down, and what each operation comes to. It speaks of numbers alone.
-/
namespace Go.Proofs.YtjbcmedljgafkaaDoor.word

/-- The word of the lowest 32 bits. -/
def low (n : Int) : Int := (n + 2147483648) % 4294967296 - 2147483648
def Word (n : Int) : Prop := -2147483648 ≤ n ∧ n ≤ 2147483647
instance (n : Int) : Decidable (Word n) := inferInstanceAs (Decidable (-2147483648 ≤ n ∧ n ≤ 2147483647))
theorem low_word (n : Int) : Word (low n) := by unfold Word low; omega
theorem low_id {n : Int} (h : Word n) : low n = n := by unfold Word at h; unfold low; omega
/-- What is left in a division that is rounded towards 0, by a number above 0. -/
theorem tmod_pos {n : Int} (h : 0 ≤ n) (d : Int) : n.tmod d = n % d := Int.tmod_eq_emod_of_nonneg h
theorem tmod_neg {n : Int} (h : n < 0) (d : Int) : n.tmod d = -((-n) % d) := by
  have h1 : (-n).tmod d = -(n.tmod d) := Int.neg_tmod _ _
  rw [Int.tmod_eq_emod_of_nonneg (by omega)] at h1
  omega
theorem low_tmod (n : Int) : low n = if 2147483648 ≤ n.tmod 4294967296 then n.tmod 4294967296 - 4294967296 else if n.tmod 4294967296 < -2147483648 then n.tmod 4294967296 + 4294967296 else n.tmod 4294967296 := by
  unfold low
  by_cases h : 0 ≤ n
  · rw [tmod_pos h]
    split
    · omega
    · split <;> omega
  · rw [tmod_neg (by omega)]
    split
    · omega
    · split <;> omega
theorem tmod_range (n : Int) : -4294967296 < n.tmod 4294967296 ∧ n.tmod 4294967296 < 4294967296 := by
  by_cases h : 0 ≤ n
  · rw [tmod_pos h]; omega
  · rw [tmod_neg (by omega)]; omega

/-- The bits of a word, as a number from 0 on. -/
def un (n : Int) : Nat := (n % 4294967296).toNat
theorem un_lt (n : Int) : un n < 4294967296 := by unfold un; omega
theorem un_word {n : Int} (h : Word n) : (un n : Int) = if n < 0 then n + 4294967296 else n := by
  unfold Word at h
  unfold un
  split <;> omega
/-- Two words of ones, bit by bit. -/
def bitop (op : Int) (x y : Nat) : Nat := if op = 11 then x &&& y else if op = 12 then x ||| y else x ^^^ y
theorem bitop_lt (op : Int) {x y : Nat} (hx : x < 4294967296) (hy : y < 4294967296) : bitop op x y < 4294967296 := by
  have e : (2 : Nat) ^ 32 = 4294967296 := rfl
  unfold bitop
  split
  · exact Nat.lt_of_le_of_lt Nat.and_le_left hx
  · split
    · rw [← e] at *; exact Nat.or_lt_two_pow hx hy
    · rw [← e] at *; exact Nat.xor_lt_two_pow hx hy
def bitAt (x k : Nat) : Nat := x / 2 ^ k % 2
theorem bitAt_lt (x k : Nat) : bitAt x k < 2 := Nat.mod_lt _ (by omega)
theorem bitAt_test (x k : Nat) : bitAt x k = if x.testBit k then 1 else 0 := by
  unfold bitAt
  rw [Nat.testBit_eq_decide_div_mod_eq]
  by_cases h : x / 2 ^ k % 2 = 1
  · simp [h]
  · have h0 : x / 2 ^ k % 2 = 0 := by omega
    simp [h0]
/-- Whether a bit of the two stands in what comes. -/
def joins (op : Int) (x y : Nat) : Prop := (op = 11 ∧ x + y = 2) ∨ (op = 12 ∧ 0 < x + y) ∨ (op = 13 ∧ x + y = 1)
instance (op : Int) (x y : Nat) : Decidable (joins op x y) := inferInstanceAs (Decidable ((op = 11 ∧ x + y = 2) ∨ (op = 12 ∧ 0 < x + y) ∨ (op = 13 ∧ x + y = 1)))
theorem bitop_at {op : Int} (hop : op = 11 ∨ op = 12 ∨ op = 13) (x y k : Nat) : bitAt (bitop op x y) k = if joins op (bitAt x k) (bitAt y k) then 1 else 0 := by
  rw [bitAt_test, bitAt_test x, bitAt_test y]
  unfold bitop joins
  rcases hop with rfl | rfl | rfl
  · simp only [if_true, Nat.testBit_and]
    cases x.testBit k <;> cases y.testBit k <;> simp
  · simp only [show ¬ ((12 : Int) = 11) from by decide, if_false, if_true, Nat.testBit_or]
    cases x.testBit k <;> cases y.testBit k <;> simp
  · simp only [show ¬ ((13 : Int) = 11) from by decide, show ¬ ((13 : Int) = 12) from by decide, if_false, Nat.testBit_xor]
    cases x.testBit k <;> cases y.testBit k <;> simp
theorem mod_succ (x k : Nat) : x % 2 ^ (k + 1) = x % 2 ^ k + 2 ^ k * bitAt x k := Nat.mod_pow_succ
theorem bitAt_succ (x k : Nat) : x / 2 ^ k / 2 = x / 2 ^ (k + 1) := by rw [Nat.div_div_eq_div_mul, Nat.pow_succ]

/-- A step up, and a step down. -/
theorem low_double (a : Int) (k : Nat) : low (2 * low (a * 2 ^ k)) = low (a * 2 ^ (k + 1)) := by
  rw [show a * 2 ^ (k + 1) = 2 * (a * 2 ^ k) from by rw [Int.pow_succ, ← Int.mul_assoc, Int.mul_comm]]
  generalize a * 2 ^ k = x
  unfold low
  omega
theorem half_step (a : Int) (k : Nat) : a / 2 ^ k / 2 = a / 2 ^ (k + 1) := by
  rw [Int.pow_succ, Int.ediv_ediv_of_nonneg]
  exact Int.le_of_lt (Int.pow_pos (by omega))
/-- Half, rounded down, by a division that is rounded towards 0. -/
theorem half_neg {a : Int} (h : a < 0) : (a - 1).tdiv 2 = a / 2 := by
  have h1 : (-(a - 1)).tdiv 2 = -((a - 1).tdiv 2) := Int.neg_tdiv _ _
  rw [Int.tdiv_eq_ediv_of_nonneg (by omega)] at h1
  omega
theorem half_pos {a : Int} (h : ¬ a < 0) : a.tdiv 2 = a / 2 := Int.tdiv_eq_ediv_of_nonneg (by omega)

theorem mul_bound {a b : Int} (ha : Word a) (hb : Word b) : -4611686018427387904 ≤ a * b ∧ a * b ≤ 4611686018427387904 := by
  unfold Word at ha hb
  have hm : (a * b).natAbs ≤ 2147483648 * 2147483648 := by
    rw [Int.natAbs_mul]
    exact Nat.mul_le_mul (by omega) (by omega)
  omega

/-- A number, or the fault that it is no word. -/
def ex (n : Int) : Int × Int := if Word n then (n, 0) else (0, 1)
/-- How far a word is moved. -/
def far (b : Int) : Nat := (b % 32).toNat
theorem far_lt (b : Int) : far b < 32 := by unfold far; omega
/-- What an operation makes of two words, and its fault. -/
def doW (op a b : Int) : Int × Int :=
  if op = 3 then ex (a + b) else if op = 4 then ex (a - b) else if op = 5 then ex (a * b)
  else if op = 6 then (if b = 0 then (0, 2) else ex (a.tdiv b)) else if op = 7 then (if b = 0 then (0, 2) else (a.tmod b, 0))
  else if op = 8 then ex (-a) else if op = 9 then (if a < b then (1, 0) else (0, 0)) else if op = 10 then (if a = b then (1, 0) else (0, 0))
  else if op = 11 ∨ op = 12 ∨ op = 13 then (low (bitop op (un a) (un b) : Nat), 0)
  else if op = 14 then (low (a * 2 ^ far b), 0) else if op = 15 then (a / 2 ^ far b, 0) else (0, 0)
theorem tmod_word {a b : Int} (ha : Word a) : Word (a.tmod b) := by
  have h1 : (a.tmod b).natAbs ≤ a.natAbs := by
    rw [Int.natAbs_tmod]
    exact Nat.mod_le _ _
  have h2 : 0 ≤ a → 0 ≤ a.tmod b := fun h => Int.tmod_nonneg b h
  have h3 : a ≤ 0 → a.tmod b ≤ 0 := fun h => by
    have e : (-a).tmod b = -(a.tmod b) := Int.neg_tmod _ _
    have := Int.tmod_nonneg b (show 0 ≤ -a by omega)
    omega
  unfold Word at *
  omega
/-- The highest bits of a product. -/
def hi (a b : Int) : Int := a * b / 4294967296
end Go.Proofs.YtjbcmedljgafkaaDoor.word

/-
  What is wrong with declared objects, and where, their bytes, and the objects with which bytes begin: plain mathematics of lists and numbers, and that putting and getting undo each other. No condition.
-/

namespace Go.Proofs.YtjbcmedljgafkaaDoor.objs
open Go.Proofs.YtjbcmedljgafkaaDoor.octet (St num zig)
open Go.Proofs.YtjbcmedljgafkaaDoor.word (Word)

/-- An object: its kind, and two numbers. -/
abbrev De := Int × Int × Int
def zero : De := (0, 0, 0)
def names : List ByteArray := [⟨#[]⟩, ⟨#[109, 117, 116, 101, 120]⟩, ⟨#[114, 119]⟩, ⟨#[115, 101, 109]⟩, ⟨#[99, 111, 110, 100]⟩, ⟨#[98, 97, 114]⟩, ⟨#[112, 111, 111, 108]⟩, ⟨#[99, 101, 108, 108]⟩]
/-- The kinds that a letter stands for. -/
def kindsOf (c : UInt8) : List Int :=
  if c = 117 then [1, 2] else if c = 115 then [3] else if c = 112 then [6] else if c = 99 then [4] else if c = 109 then [1] else if c = 98 then [5] else if c = 118 then [7] else if c = 113 then [1, 6] else []
/-- Is an object there, and of a kind that a letter stands for? -/
def fits (l : List De) (c : UInt8) (o : Int) : Bool := decide (0 ≤ o ∧ o < (l.length : Int)) && (kindsOf c).contains (l.getD o.toNat zero).1
/-- What is wrong with an object. -/
def one (l : List De) (d : De) : Nat :=
  if d.1 < 1 ∨ 7 < d.1 then 6
  else if d.1 = 3 ∧ (d.2.2 < 1 ∨ 1000 < d.2.2 ∨ d.2.1 < 0 ∨ d.2.2 < d.2.1) then 1
  else if d.1 = 6 ∧ (d.2.1 < 1 ∨ 1000 < d.2.1) then 1
  else if d.1 = 7 ∧ (¬ Word d.2.1 ∨ fits l 117 d.2.2 = false) then 1
  else if (d.1 ≠ 3 ∧ d.1 ≠ 7 ∧ d.2.2 ≠ 0) ∨ (d.1 ≠ 3 ∧ d.1 ≠ 6 ∧ d.1 ≠ 7 ∧ d.2.1 ≠ 0) then 2 else 0
/-- Where the first one stands that may not be, and why. -/
def bad (l : List De) : Nat := l.findIdx fun d => one l d != 0
def chk (l : List De) : Int × Nat := if 32 < l.length then (0, 4) else if bad l < l.length then ((bad l : Int), one l (l.getD (bad l) zero)) else (0, 0)

theorem bad_of {l : List De} {j : Nat} (h : j ≤ bad l) (hj : j < l.length) (he : one l (l.getD j zero) ≠ 0) : bad l = j := by
  rcases Nat.lt_or_ge j (bad l) with h1 | h1
  · have := List.not_of_lt_findIdx (p := fun d => one l d != 0) (xs := l) h1
    rw [List.getD_eq_getElem?_getD, List.getElem?_eq_getElem hj, Option.getD_some] at he
    simp [he] at this
  · omega
theorem bad_next {l : List De} {j : Nat} (h : j ≤ bad l) (hj : j < l.length) (he : one l (l.getD j zero) = 0) : j + 1 ≤ bad l := by
  rcases Nat.eq_or_lt_of_le h with h1 | h1
  · exfalso
    have hl : l.findIdx (fun d => one l d != 0) < l.length := by show bad l < l.length; omega
    have := List.findIdx_getElem (p := fun d => one l d != 0) (xs := l) (w := hl)
    have e : l[l.findIdx (fun d => one l d != 0)]'hl = l.getD j zero := by
      rw [List.getD_eq_getElem?_getD, List.getElem?_eq_getElem hj, Option.getD_some]
      congr 1
      exact h1.symm
    rw [e, he] at this
    cases this
  · omega
theorem chk_long {l : List De} (h : 32 < l.length) : chk l = (0, 4) := by unfold chk; rw [if_pos h]
theorem chk_bad {l : List De} {j : Nat} (hl : ¬ 32 < l.length) (h : j ≤ bad l) (hj : j < l.length) (he : one l (l.getD j zero) ≠ 0) : chk l = ((j : Int), one l (l.getD j zero)) := by
  unfold chk
  rw [if_neg hl, bad_of h hj he, if_pos hj]
theorem chk_fine {l : List De} (hl : ¬ 32 < l.length) (h : l.length ≤ bad l) : chk l = (0, 0) := by
  unfold chk
  rw [if_neg hl, if_neg (by omega)]
theorem chk_zero {l : List De} (h : (chk l).2 = 0) : l.length ≤ 32 ∧ chk l = (0, 0) ∧ ∀ j, j < l.length → one l (l.getD j zero) = 0 := by
  unfold chk at h ⊢
  by_cases h1 : 32 < l.length
  · rw [if_pos h1] at h; cases h
  · rw [if_neg h1] at h ⊢
    by_cases h2 : bad l < l.length
    · rw [if_pos h2] at h
      exfalso
      have hl : l.findIdx (fun d => one l d != 0) < l.length := h2
      have := List.findIdx_getElem (p := fun d => one l d != 0) (xs := l) (w := hl)
      have e : l.getD (bad l) zero = l[l.findIdx (fun d => one l d != 0)]'hl := by
        rw [List.getD_eq_getElem?_getD, List.getElem?_eq_getElem h2, Option.getD_some]
        rfl
      dsimp only at h
      rw [e] at h
      simp [h] at this
    · rw [if_neg h2]
      refine ⟨by omega, rfl, fun j hj => ?_⟩
      have hj2 : j < bad l := by omega
      have := List.not_of_lt_findIdx (p := fun d => one l d != 0) (xs := l) hj2
      rw [List.getD_eq_getElem?_getD, List.getElem?_eq_getElem hj, Option.getD_some]
      simpa using this

end Go.Proofs.YtjbcmedljgafkaaDoor.objs

/-
  What was put of objects is got again, whatever stands behind; what was got, put, is just the bytes that it had. Plain mathematics; no condition.
-/

namespace Go.Proofs.YtjbcmedljgafkaaDoor.objs
open Go.Proofs.YtjbcmedljgafkaaDoor.octet (St num zig)
open Go.Proofs.YtjbcmedljgafkaaDoor.word (Word)

end Go.Proofs.YtjbcmedljgafkaaDoor.objs

/-
  A list of objects as it lies in memory, wherever it came from; and a row of them that a call owns. No condition.
-/

namespace Go.Proofs.YtjbcmedljgafkaaDoor.objs
open Go.RowKit Go.ChangeShapes
set_option linter.unusedVariables false

/-- The three cells of an object. -/
def CellsAt (w : World) (b i : Nat) (d : De) : Prop := w.cell? ⟨b, i, none⟩ = some (.int .i64 d.1) ∧ w.cell? ⟨b, i + 1, none⟩ = some (.int .i64 d.2.1) ∧ w.cell? ⟨b, i + 2, none⟩ = some (.int .i64 d.2.2)
/-- A list of objects, one behind the other, from where a slice begins. -/
def DAt (w : World) (A : Option Addr) (l : List De) : Prop := ∀ j, j < l.length → ∃ b off, A = some ⟨b, off, none⟩ ∧ b < w.heap.size ∧ CellsAt w b (off + j * 3) (l.getD j zero)
theorem CellsAt.keep {w w' : World} {b i : Nat} {d : De} (h : CellsAt w b i d) (hb : w'.heap[b]? = w.heap[b]?) : CellsAt w' b i d :=
  ⟨(World.cell?_of_block (a := ⟨b, i, none⟩) hb).trans h.1, (World.cell?_of_block (a := ⟨b, i + 1, none⟩) hb).trans h.2.1, (World.cell?_of_block (a := ⟨b, i + 2, none⟩) hb).trans h.2.2⟩
theorem DAt.next {w w' : World} {A : Option Addr} {l : List De} (h : DAt w A l) (hb : Below w.heap.size w w') : DAt w' A l := fun j hj => by
  obtain ⟨b, off, h1, h2, h3⟩ := h j hj
  exact ⟨b, off, h1, Nat.lt_of_lt_of_le h2 hb.size, h3.keep (hb.block b h2)⟩
theorem DAt.drew {w : World} {A : Option Addr} {l : List De} (h : DAt w A l) : DAt w.drew A l := h
theorem DAt.drewN {w : World} {A : Option Addr} {l : List De} (h : DAt w A l) : ∀ n, DAt (w.drewN n) A l
  | 0 => h
  | n + 1 => (DAt.drewN h n).drew
theorem DAt.nil (w : World) (A : Option Addr) : DAt w A [] := fun j hj => absurd hj (Nat.not_lt_zero j)
theorem DAt.take {w : World} {A : Option Addr} {l : List De} (h : DAt w A l) (n : Nat) : DAt w A (l.take n) := fun j hj => by
  rw [List.length_take] at hj
  obtain ⟨b, off, h1, h2, h3⟩ := h j (by omega)
  refine ⟨b, off, h1, h2, ?_⟩
  rwa [List.getD_eq_getElem?_getD, List.getElem?_take_of_lt (by omega), ← List.getD_eq_getElem?_getD]

/-- Objects, cell by cell. -/
def flat (l : List De) : List Value := l.flatMap fun d => [.int .i64 d.1, .int .i64 d.2.1, .int .i64 d.2.2]
theorem flat_append (l r : List De) : flat (l ++ r) = flat l ++ flat r := by simp [flat]
theorem flat_cons (d : De) (l : List De) : flat (d :: l) = .int .i64 d.1 :: .int .i64 d.2.1 :: .int .i64 d.2.2 :: flat l := by simp [flat]
theorem flat_length (l : List De) : (flat l).length = l.length * 3 := by
  induction l with
  | nil => rfl
  | cons d l ih => rw [flat_cons]; simp only [List.length_cons, ih]; omega
theorem flat_oneCell (l : List De) : ∀ u ∈ flat l, u.oneCell' = true := by
  intro u hu
  simp only [flat, List.mem_flatMap] at hu
  obtain ⟨d, _, hd⟩ := hu
  simp only [List.mem_cons, List.not_mem_nil, or_false] at hd
  rcases hd with rfl | rfl | rfl <;> rfl
theorem flat_at (l : List De) : ∀ j, j < l.length → (flat l)[j * 3]? = some (.int .i64 (l.getD j zero).1) ∧ (flat l)[j * 3 + 1]? = some (.int .i64 (l.getD j zero).2.1) ∧ (flat l)[j * 3 + 2]? = some (.int .i64 (l.getD j zero).2.2) := by
  induction l with
  | nil => intro j hj; exact absurd hj (Nat.not_lt_zero j)
  | cons d l ih =>
    intro j hj
    rw [flat_cons]
    cases j with
    | zero => exact ⟨rfl, rfl, rfl⟩
    | succ j =>
      obtain ⟨h1, h2, h3⟩ := ih j (by simpa using hj)
      rw [show (j + 1) * 3 = j * 3 + 1 + 1 + 1 from by omega]
      exact ⟨h1, h2, h3⟩

/-- A slice's value of objects, nil or a row of the call's own. -/
def Own (w : World) (base : Nat) (v : Value) (l : List De) : Prop := w.ownsRow base 66 3 v l.length (flat l)
theorem Own.nil (w : World) (base : Nat) : Own w base (.slice none 0 0) [] := World.ownsRow_nil ..
theorem Own.empty {w : World} {g : Nat} (h : w.heap[g]? = some (.cells #[] 66 (0, 0))) : Own w g (.slice (some ⟨g, 0, none⟩) 0 0) [] :=
  ⟨rfl, .inr ⟨g, 0, #[], rfl, Nat.le_refl _, h, Nat.le_refl _, Nat.zero_le _, rfl, rfl⟩⟩
theorem Own.slice {w : World} {base : Nat} {v : Value} {l : List De} (h : Own w base v l) : ∃ A cap, v = .slice A l.length cap := by
  rcases h.2 with ⟨rfl, h0⟩ | ⟨g, cap, cur, rfl, _⟩
  · exact ⟨none, 0, by rw [h0]⟩
  · exact ⟨_, _, rfl⟩
theorem Own.at {w : World} {base cap : Nat} {A : Option Addr} {l : List De} {n : Nat} (h : Own w base (.slice A n cap) l) : DAt w A l := by
  intro j hj
  rcases h.2 with ⟨e, h0⟩ | ⟨g, cap', cur, e, hb, hh, _⟩
  · omega
  · injection e with e1 e2 e3
    subst e1
    obtain ⟨h1, h2, h3⟩ := flat_at l j hj
    refine ⟨g, 0, rfl, lt_of_block hh, ?_, ?_, ?_⟩
    · have := World.ownsRow.cells h (g := g) rfl _ _ h1
      rw [Addr.add_lit] at this
      simpa using this
    · have := World.ownsRow.cells h (g := g) rfl _ _ h2
      rw [Addr.add_lit] at this
      simpa using this
    · have := World.ownsRow.cells h (g := g) rfl _ _ h3
      rw [Addr.add_lit] at this
      simpa using this
theorem Own.keep {w w' : World} {base : Nat} {v : Value} {l : List De} (h : Own w base v l) (hk : ∀ g, v.ownBlock = some g → w'.heap[g]? = w.heap[g]?) : Own w' base v l := by
  refine ⟨h.1, h.2.imp id ?_⟩
  rintro ⟨g, c, cur, rfl, hb, hh, r⟩
  exact ⟨g, c, cur, rfl, hb, (hk g rfl).trans hh, r⟩
theorem Own.lt {w : World} {base g : Nat} {v : Value} {l : List De} (h : Own w base v l) (hg : v.ownBlock = some g) : base ≤ g ∧ g < w.heap.size := World.ownsRow.lt h g hg
theorem Own.next {w w' : World} {base : Nat} {v : Value} {l : List De} (h : Own w base v l) (hb : Below w.heap.size w w') : Own w' base v l := h.keep fun g hg => hb.block g (h.lt hg).2
theorem Own.base {w : World} {base base' : Nat} {v : Value} {l : List De} (h : Own w base v l) (hb : base' ≤ base) : Own w base' v l := by
  refine ⟨h.1, h.2.imp id ?_⟩
  rintro ⟨g, c, cur, e, hb1, r⟩
  exact ⟨g, c, cur, e, Nat.le_trans hb hb1, r⟩

theorem infoD : (Tryd.prog.info? 66).map (fun i => (i.zero, i.size, i.bytes)) = some (some (.agg #[.int .i64 0, .int .i64 0, .int .i64 0]), 3, 24) := by kernel_rfl

theorem src_cells {w : World} {ad : Addr} {r : List De} (h : DAt w (some ad) r) : ∀ (j : Nat) (u : Value), (flat r)[j]? = some u → w.cell? (ad.add j) = some u := by
  intro j u hu
  have hj : j < r.length * 3 := by
    have := (List.getElem?_eq_some_iff.1 hu).1
    rwa [flat_length] at this
  obtain ⟨b, off, e, _, h1, h2, h3⟩ := h (j / 3) (by omega)
  obtain rfl := Option.some.inj e
  obtain ⟨f1, f2, f3⟩ := flat_at r (j / 3) (by omega)
  rw [Addr.add_lit]
  rcases (by omega : j % 3 = 0 ∨ j % 3 = 1 ∨ j % 3 = 2) with hm | hm | hm
  · rw [show j / 3 * 3 = j from by omega] at h1 f1
    rw [h1, ← hu, f1]
  · rw [show off + j / 3 * 3 + 1 = off + j from by omega] at h2
    rw [show j / 3 * 3 + 1 = j from by omega] at f2
    rw [h2, ← hu, f2]
  · rw [show off + j / 3 * 3 + 2 = off + j from by omega] at h3
    rw [show j / 3 * 3 + 2 = j from by omega] at f3
    rw [h3, ← hu, f3]
/-- A list that lies anywhere, put behind a row of a call's own. -/
theorem run_appD (w : World) (ty : TypeId) (base m c : Nat) (v : Value) (A : Option Addr) (l r : List De) (hrow : Own w base v l) (hm : m = r.length) (hA : A = none → r = [] ∧ c = 0) (hsrc : DAt w A r) (hlen : l.length + r.length ≤ 100000) (hbase : base ≤ w.heap.size) :
    ∃ v' w', (Builtin.append_ #[22, 22] ty #[v, .slice A m c]).run Tryd.prog w = .ok v' w' ∧ Own w' base v' (l ++ r) ∧ w.grownBy w' v.ownBlock := by
  subst hm
  obtain ⟨i, hi, hz0, hz1, hz2⟩ := info_parts infoD
  cases A with
  | none =>
    obtain ⟨rfl, rfl⟩ := hA rfl
    refine ⟨v, w, run_append_owned_none (P := Tryd.prog) (w := w) base 22 ty 66 i 3 Tryd.underlying22 hi v l.length (flat l) hrow, ?_, ⟨rfl, rfl, rfl, Nat.le_refl _, fun _ _ _ => rfl⟩⟩
    rw [List.append_nil]
    exact hrow
  | some ad =>
    obtain ⟨v', w', h1, h2, h3, _⟩ := run_append_own (P := Tryd.prog) w base 22 ty 66 i _ 3 24 Tryd.underlying22 hi hz0 hz1 hz2 rfl (by omega) v l.length (flat l) hrow ad r.length c (flat r) (flat_length r) (src_cells hsrc) (flat_oneCell r) (by unfold maxLen; omega) (by omega) hbase
    refine ⟨v', w', h1, ?_, h3⟩
    unfold Own
    rw [List.length_append, flat_append]
    exact h2
theorem wp_appD {o : Oper} {a : Act} {w : World} {K : Act → World → Prop} {Q : Exit → Act → World → Prop} (s x : Operand)
    (ho : o.op = .call { callee := .builtin .append, args := #[s, x], argTypes := #[22, 22] }) (base m c : Nat) (v : Value) (A : Option Addr) (l r : List De)
    (hs : a.eval s = v) (hrow : Own w base v l) (hx : a.eval x = .slice A m c) (hm : m = r.length) (hA : A = none → r = [] ∧ c = 0) (hsrc : DAt w A r) (hlen : l.length + r.length ≤ 100000) (hbase : base ≤ w.heap.size)
    (h : ∀ v' w', Own w' base v' (l ++ r) → w.grownBy w' v.ownBlock → K (a.put o.dst v') w') : o.wp Tryd.prog a w K Q := by
  obtain ⟨v', w', hr, h2, h3⟩ := run_appD w o.type base m c v A l r hrow hm hA hsrc hlen hbase
  unfold Oper.wp execOp
  simp only [ho, resolve, invoke, builtin, Sem.run_bind, Sem.run_pure, Result.andThen_ok, List.map_toArray, List.map_cons, List.map_nil, hs, hx, hr]
  exact h v' w' h2 h3
theorem step_appD {ops : Array Oper} {o : Oper} {a : Act} {w : World} {K : Act → World → Prop} {Q : Exit → Act → World → Prop} {E : Prop} (hgd : o.guard = none) (s x : Operand)
    (ho : o.op = .call { callee := .builtin .append, args := #[s, x], argTypes := #[22, 22] }) (base m c : Nat) (v : Value) (A : Option Addr) (l r : List De)
    (hs : a.eval s = v) (hrow : Own w base v l) (hx : a.eval x = .slice A m c) (hm : m = r.length) (hA : A = none → r = [] ∧ c = 0) (hsrc : DAt w A r) (hlen : l.length + r.length ≤ 100000) (hbase : base ≤ w.heap.size)
    (h : ∀ v' w', Own w' base v' (l ++ r) → w.grownBy w' v.ownBlock → K (a.put o.dst v') w') :
    if Region.wanted o (yielded ops a.tmps) = true then Oper.wp Tryd.prog o a w K Q else E := by
  have hw : Region.wanted o (yielded ops a.tmps) = true := by simp [Region.wanted, hgd]
  rw [if_pos hw]
  exact wp_appD s x ho base m c v A l r hs hrow hx hm hA hsrc hlen hbase h
/-- An object in a block of its own, as a list of one. -/
theorem DAt.one {w : World} {g : Nat} {d : De} (h : w.heap[g]? = some (.cells #[.int .i64 d.1, .int .i64 d.2.1, .int .i64 d.2.2] 66 (0, 0))) : DAt w (some ⟨g, 0, none⟩) [d] := fun j hj => by
  obtain rfl : j = 0 := by simpa using hj
  refine ⟨g, 0, rfl, lt_of_block h, ?_, ?_, ?_⟩
  all_goals
    unfold World.cell?
    rw [h]
    rfl
end Go.Proofs.YtjbcmedljgafkaaDoor.objs

/-
  A list of objects that came in, and what a copy of it leaves. No condition.
-/

namespace Go.Proofs.YtjbcmedljgafkaaDoor.objs
open Go.RowKit Go.ChangeShapes
set_option linter.unusedVariables false

/-- An int. -/
def I64 (n : Int) : Prop := -9223372036854775808 ≤ n ∧ n ≤ 9223372036854775807
def Ints (l : List De) : Prop := ∀ j, j < l.length → I64 (l.getD j zero).1 ∧ I64 (l.getD j zero).2.1 ∧ I64 (l.getD j zero).2.2
/-- A list that came in: of at most a hundred, or the first hundred of it. -/
def LIn (w : World) (A : Option Addr) (n cap : Nat) (l : List De) : Prop := (A = none → n = 0 ∧ cap = 0) ∧ n ≤ cap ∧ cap ≤ 9223372036854775807 ∧ DAt w A l ∧ Ints l ∧ l.length = min n 100
theorem DAt.two {w : World} {g : Nat} {d e : De} (h : w.heap[g]? = some (.cells #[.int .i64 d.1, .int .i64 d.2.1, .int .i64 d.2.2, .int .i64 e.1, .int .i64 e.2.1, .int .i64 e.2.2] 66 (0, 0))) : DAt w (some ⟨g, 0, none⟩) [d, e] := fun j hj => by
  have hj2 : j < 2 := hj
  refine ⟨g, 0, rfl, lt_of_block h, ?_⟩
  unfold CellsAt World.cell?
  rw [h]
  match j, hj2 with
  | 0, _ => exact ⟨rfl, rfl, rfl⟩
  | 1, _ => exact ⟨rfl, rfl, rfl⟩
end Go.Proofs.YtjbcmedljgafkaaDoor.objs
