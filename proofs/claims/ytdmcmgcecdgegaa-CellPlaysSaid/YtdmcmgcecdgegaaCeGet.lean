/-
  The program's calls that look: find, Get, Guard, All, Clone; and Set; of nil, too (typed over the code of 644c691). No condition.
-/
import Derived.Test.YtdmcmgcecdgegaaCeMem
import Derived.Test.YtdmcmgcecdgegaaPoMem
import Derived.Test.YtdmcmgcecdgegaaWProg
import Derived.Lib.SliceRun
namespace Go.Proofs.Ytdmcmgcecdgegaa.cel
open Go.RowKit Go.ChangeShapes
open Go.Proofs.Ytdmcmgcecdgegaa.objs (De zero)
open Go.Proofs.Ytdmcmgcecdgegaa.gd (Own GAt flat flat_length flat_oneCell infoG)
open Go.Proofs.Ytdmcmgcecdgegaa.word (low low_any)
open Go.Proofs.Ytdmcmgcecdgegaa.pol (SAt below_grown)
set_option linter.unusedVariables false
set_option linter.unusedSimpArgs false

def ceO (v : Value) : Obj := .cells #[v] 45 (0, 0)
/-- Cells as the program keeps them: a struct in block g, of one row. -/
structure AtC (w : World) (g : Nat) (v : Value) (l : List De) : Prop where
  box : w.heap[g]? = some (ceO v)
  row : Own w 0 v l
  rise : Rising l
  len : l.length ≤ 4096
/-- Of the blocks that were there only the row's has turned. -/
structure Mv (v : Value) (w w' : World) : Prop where
  os : w'.os = w.os
  tape : w'.tape = w.tape
  output : w'.output = w.output
  size : w.heap.size ≤ w'.heap.size
  block : ∀ k, k < w.heap.size → v.ownBlock ≠ some k → w'.heap[k]? = w.heap[k]?
theorem Mv.of_below {v : Value} {w w' : World} (h : Below w.heap.size w w') : Mv v w w' := ⟨h.os, h.tape, h.output, h.size, fun k hk _ => h.block k hk⟩
theorem Mv.trans {v : Value} {w w' w'' : World} (h : Mv v w w') (h2 : Mv v w' w'') : Mv v w w'' :=
  ⟨h2.os.trans h.os, h2.tape.trans h.tape, h2.output.trans h.output, Nat.le_trans h.size h2.size, fun k hk hg => (h2.block k (Nat.lt_of_lt_of_le hk h.size) hg).trans (h.block k hk hg)⟩
theorem Mv.below {B : Nat} {v : Value} {a w w' : World} (h : Below B a w) (ho : Mv v w w') (hv : ∀ b, v.ownBlock = some b → B ≤ b) (hB : B ≤ w.heap.size) : Below B a w' :=
  ⟨ho.os.trans h.os, ho.tape.trans h.tape, ho.output.trans h.output, Nat.le_trans h.size ho.size, fun k hk => (ho.block k (by omega) (fun e => by have := hv k e; omega)).trans (h.block k hk)⟩
theorem ce_cell {w : World} {g : Nat} {v : Value} (h : w.heap[g]? = some (ceO v)) : w.cell? ⟨g, 0, none⟩ = some v ∧ w.frozen? ⟨g, 0, none⟩ = false := by
  constructor
  · simp [World.cell?, h, ceO]
  · simp [World.frozen?, h, ceO]
theorem AtC.lt {w : World} {g : Nat} {v : Value} {l : List De} (h : AtC w g v l) : g < w.heap.size ∧ ∀ b, v.ownBlock = some b → b < w.heap.size :=
  ⟨lt_of_block h.box, fun b hb => (h.row.lt hb).2⟩
theorem AtC.ne {w : World} {g b : Nat} {v : Value} {l : List De} (h : AtC w g v l) (hb : v.ownBlock = some b) : b ≠ g := by
  rintro rfl
  obtain ⟨cur, e⟩ := h.row.block hb
  rw [h.box] at e
  simp [ceO] at e
theorem AtC.keep {w w' : World} {g : Nat} {v : Value} {l : List De} (h : AtC w g v l) (hg : w'.heap[g]? = w.heap[g]?) (hb : ∀ b, v.ownBlock = some b → w'.heap[b]? = w.heap[b]?) : AtC w' g v l :=
  ⟨hg.trans h.box, h.row.keep hb, h.rise, h.len⟩
theorem AtC.next {w w' : World} {g : Nat} {v : Value} {l : List De} (h : AtC w g v l) (hb : Below w.heap.size w w') : AtC w' g v l :=
  h.keep (hb.block _ h.lt.1) (fun b e => hb.block _ (h.lt.2 b e))
theorem AtC.gat {w : World} {g n cap : Nat} {A : Option Addr} {l : List De} (h : AtC w g (.slice A n cap) l) : GAt w A l := Own.at h.row

set_option maxHeartbeats 1000000 in
theorem find_nil (obj : Int) (w : World) : Calls Try.prog 20 #[.pointer none, .int .i64 obj] w fun e w' => e = .returned (.pointer none) ∧ w = w' := by
  go_enter Try.func20, Try.ntmps20
  go_wp2
  go_ret
  exact ⟨rfl, rfl⟩
set_option maxHeartbeats 2000000 in
/-- Where the cell lies that an object is. -/
theorem find_stands_any (w : World) (g b n cap : Nat) (l : List De) (obj : Int) (k : Nat) (ha : AtC w g (.slice (some ⟨b, 0, none⟩) n cap) l) (hk : Stands l obj k) :
    Calls Try.prog 20 #[.pointer (some ⟨g, 0, none⟩), .int .i64 obj] w fun e w' => e = .returned (.pointer (some ⟨b, k * 3, none⟩)) ∧ Below w.heap.size w w' := by
  have hn : n = l.length := by
    obtain ⟨A, c, e⟩ := ha.row.slice
    injection e
  subst hn
  have h0 := (ce_cell ha.box).1
  have HS : Hid (Calls Try.prog 22 #[.slice (some ⟨b, 0, none⟩) l.length cap, .int .i64 obj, .func (.func 23) #[] #[]] w fun e w' => e = .returned (.tuple #[.int .i64 (k : Int), .bool true]) ∧ w'.cell? ⟨g, 0, none⟩ = some (.slice (some ⟨b, 0, none⟩) l.length cap) ∧ Hid (Below w.heap.size w w')) := Lib.hid ((search_any _ cap l obj w ha.rise ha.len ha.gat).mono fun e w' h => by
    obtain ⟨h1, i, r, h2, h3, _⟩ := h
    obtain ⟨rfl, rfl⟩ := h3 k hk
    exact ⟨h2, (h1.cell (p := ⟨g, 0, none⟩) ha.lt.1).trans h0, Lib.hid h1⟩)
  have hlk : (k : Int) < (l.length : Int) := by have := hk.1; omega
  have hk0 : (0 : Int) ≤ (k : Int) := by omega
  clear ha hk
  go_enter Try.func20, Try.ntmps20
  go_wp2_with (refine HS.out.mono ?_; rintro e w' ⟨rfl, h1, HB⟩)
  all_goals
    go_ret
    exact ⟨by simp, HB.out⟩
set_option maxHeartbeats 2000000 in
theorem find_lacks_any (w : World) (g : Nat) (v : Value) (l : List De) (obj : Int) (ha : AtC w g v l) (hk : Lacks l obj) :
    Calls Try.prog 20 #[.pointer (some ⟨g, 0, none⟩), .int .i64 obj] w fun e w' => e = .returned (.pointer none) ∧ Below w.heap.size w w' := by
  obtain ⟨A, cap, rfl⟩ := ha.row.slice
  have h0 := (ce_cell ha.box).1
  have HS : Hid (Calls Try.prog 22 #[.slice A l.length cap, .int .i64 obj, .func (.func 23) #[] #[]] w fun e w' => (∃ i : Nat, e = .returned (.tuple #[.int .i64 (i : Int), .bool false])) ∧ Hid (Below w.heap.size w w')) := Lib.hid ((search_any _ cap l obj w ha.rise ha.len ha.gat).mono fun e w' h => by
    obtain ⟨h1, i, r, h2, _, h3⟩ := h
    obtain rfl := h3 hk
    exact ⟨⟨i, h2⟩, Lib.hid h1⟩)
  clear ha hk
  go_enter Try.func20, Try.ntmps20
  go_wp2_with (refine HS.out.mono ?_; rintro e w' ⟨⟨i, rfl⟩, HB⟩)
  all_goals
    go_ret
    exact ⟨rfl, HB.out⟩

theorem get_nil (obj : Int) (w : World) : Calls Try.prog 14 #[.pointer none, .int .i64 obj] w fun e w' => e = .returned (.tuple #[.int .i64 0, .bool false]) ∧ w = w' := by
  have HF := Lib.hid (find_nil obj w)
  go_enter Try.func14, Try.ntmps14
  go_wp2_with (refine HF.out.mono ?_; rintro _ _ ⟨rfl, rfl⟩)
  all_goals
    go_ret2
    exact ⟨rfl, rfl⟩
set_option maxHeartbeats 1000000 in
theorem get_any (w : World) (g : Nat) (v : Value) (l : List De) (obj : Int) (ha : AtC w g v l) :
    Calls Try.prog 14 #[.pointer (some ⟨g, 0, none⟩), .int .i64 obj] w fun e w' => e = .returned (.tuple #[.int .i64 (getV l obj).1, .bool (getV l obj).2]) ∧ Below w.heap.size w w' := by
  rcases stands_or obj l with ⟨k, hk⟩ | hk
  · rw [getV_stands ha.rise hk]
    obtain ⟨b, cap, rfl, _⟩ := ha.row.where_ (fun e => by have := hk.1; rw [e] at this; exact absurd this (Nat.not_lt_zero _))
    have HF := Lib.hid (find_stands_any w g b _ cap l obj k ha hk)
    have HC : Hid (∀ W, Below w.heap.size w W → W.cell? ⟨b, k * 3 + 1, none⟩ = some (.int .i64 (l.getD k zero).2.1)) := Lib.hid fun W hb => ((ha.next hb).row.cell hk.1).2.1
    generalize (l.getD k zero).2.1 = x at *
    clear ha hk
    go_enter Try.func14, Try.ntmps14
    go_wp2_with (refine HF.out.mono ?_; rintro _ w1 ⟨rfl, hb⟩; have hc := HC.out _ hb; have HB := Lib.hid hb; clear hb)
    all_goals
      go_ret2
      exact ⟨rfl, HB.out⟩
  · rw [getV_lacks hk]
    have HF := Lib.hid (find_lacks_any w g v l obj ha hk)
    clear ha hk
    go_enter Try.func14, Try.ntmps14
    go_wp2_with (refine HF.out.mono ?_; rintro _ w1 ⟨rfl, hb⟩; have HB := Lib.hid hb; clear hb)
    all_goals
      go_ret2
      exact ⟨rfl, HB.out⟩
theorem guard_nil (obj : Int) (w : World) : Calls Try.prog 15 #[.pointer none, .int .i64 obj] w fun e w' => e = .returned (.int .i64 (-1)) ∧ w = w' := by
  have HF := Lib.hid (find_nil obj w)
  go_enter Try.func15, Try.ntmps15
  go_wp2_with (refine HF.out.mono ?_; rintro _ _ ⟨rfl, rfl⟩)
  all_goals
    go_ret
    exact ⟨rfl, rfl⟩
set_option maxHeartbeats 1000000 in
theorem guard_any (w : World) (g : Nat) (v : Value) (l : List De) (obj : Int) (ha : AtC w g v l) :
    Calls Try.prog 15 #[.pointer (some ⟨g, 0, none⟩), .int .i64 obj] w fun e w' => e = .returned (.int .i64 (guardV l obj)) ∧ Below w.heap.size w w' := by
  rcases stands_or obj l with ⟨k, hk⟩ | hk
  · rw [guardV_stands ha.rise hk]
    obtain ⟨b, cap, rfl, _⟩ := ha.row.where_ (fun e => by have := hk.1; rw [e] at this; exact absurd this (Nat.not_lt_zero _))
    have HF := Lib.hid (find_stands_any w g b _ cap l obj k ha hk)
    have HC : Hid (∀ W, Below w.heap.size w W → W.cell? ⟨b, k * 3 + 2, none⟩ = some (.int .i64 (l.getD k zero).2.2)) := Lib.hid fun W hb => ((ha.next hb).row.cell hk.1).2.2.1
    generalize (l.getD k zero).2.2 = x at *
    clear ha hk
    go_enter Try.func15, Try.ntmps15
    go_wp2_with (refine HF.out.mono ?_; rintro _ w1 ⟨rfl, hb⟩; have hc := HC.out _ hb; have HB := Lib.hid hb; clear hb)
    all_goals
      go_ret
      exact ⟨rfl, HB.out⟩
  · rw [guardV_lacks hk]
    have HF := Lib.hid (find_lacks_any w g v l obj ha hk)
    clear ha hk
    go_enter Try.func15, Try.ntmps15
    go_wp2_with (refine HF.out.mono ?_; rintro _ w1 ⟨rfl, hb⟩; have HB := Lib.hid hb; clear hb)
    all_goals
      go_ret
      exact ⟨rfl, HB.out⟩

theorem set_nil (obj x : Int) (w : World) : Calls Try.prog 11 #[.pointer none, .int .i64 obj, .int .i64 x] w fun e w' => e = .returned (.bool false) ∧ w = w' := by
  have HF := Lib.hid (find_nil obj w)
  go_enter Try.func11, Try.ntmps11
  go_wp2_with (refine HF.out.mono ?_; rintro _ _ ⟨rfl, rfl⟩)
  all_goals
    go_ret
    exact ⟨rfl, rfl⟩
theorem AtC.put {w : World} {g b n cap k : Nat} {l : List De} (h : AtC w g (.slice (some ⟨b, 0, none⟩) n cap) l) (hk : k < l.length) (x : Int) :
    AtC (w.setCell ⟨b, k * 3 + 1, none⟩ (.int .i64 (low x))) g (.slice (some ⟨b, 0, none⟩) n cap) (setK l k x) ∧ Mv (.slice (some ⟨b, 0, none⟩) n cap) w (w.setCell ⟨b, k * 3 + 1, none⟩ (.int .i64 (low x))) := by
  have hne : b ≠ g := h.ne rfl
  refine ⟨⟨?_, h.row.put hk (low x), setK_rising h.rise _ _, by rw [setK_length]; exact h.len⟩, ⟨rfl, rfl, rfl, by simp [World.setCell], fun i _ hi => ?_⟩⟩
  · rw [Below.heap_setCell w ⟨b, k * 3 + 1, none⟩ _ g (fun e => hne e.symm)]
    exact h.box
  · exact Below.heap_setCell w ⟨b, k * 3 + 1, none⟩ _ i (fun e => hi (by rw [e]; rfl))
set_option maxHeartbeats 1000000 in
theorem set_any (w : World) (g : Nat) (v : Value) (l : List De) (obj x : Int) (ha : AtC w g v l) :
    Calls Try.prog 11 #[.pointer (some ⟨g, 0, none⟩), .int .i64 obj, .int .i64 x] w fun e w' => e = .returned (.bool (getV l obj).2) ∧ AtC w' g v (setC l obj x) ∧ Mv v w w' := by
  rcases stands_or obj l with ⟨k, hk⟩ | hk
  · rw [getV_stands ha.rise hk, setC_stands ha.rise hk]
    obtain ⟨b, cap, rfl, _⟩ := ha.row.where_ (fun e => by have := hk.1; rw [e] at this; exact absurd this (Nat.not_lt_zero _))
    have HF := Lib.hid (find_stands_any w g b _ cap l obj k ha hk)
    have HL := Lib.hid (fun W => low_any x W)
    have HC : Hid (∀ W, Below w.heap.size w W → (W.cell? ⟨b, k * 3 + 1, none⟩ = some (.int .i64 (l.getD k zero).2.1) ∧ W.frozen? ⟨b, k * 3 + 1, none⟩ = false) ∧ Hid (AtC (W.setCell ⟨b, k * 3 + 1, none⟩ (.int .i64 (low x))) g (.slice (some ⟨b, 0, none⟩) l.length cap) (setK l k x) ∧ Mv (.slice (some ⟨b, 0, none⟩) l.length cap) w (W.setCell ⟨b, k * 3 + 1, none⟩ (.int .i64 (low x))))) := Lib.hid fun W hb => by
      have h := ha.next hb
      have hc := h.row.cell hk.1
      have hp := h.put hk.1 x
      exact ⟨⟨hc.2.1, hc.2.2.2⟩, Lib.hid ⟨hp.1, (Mv.of_below hb).trans hp.2⟩⟩
    generalize (l.getD k zero).2.1 = y at *
    generalize low x = z at *
    clear ha hk
    go_enter Try.func11, Try.ntmps11
    go_wp2_with (first
      | (go_at_call 20; refine HF.out.mono ?_; rintro _ w1 ⟨rfl, hb⟩; obtain ⟨⟨hc, hf⟩, HP⟩ := HC.out _ hb; clear hb)
      | (go_at_call 19; refine (HL.out _).mono ?_; rintro _ _ ⟨rfl, rfl⟩))
    all_goals
      go_ret
      exact ⟨rfl, HP.out⟩
  · rw [getV_lacks hk, setC_lacks hk]
    have HF := Lib.hid (find_lacks_any w g v l obj ha hk)
    have HA := Lib.hid ha
    clear ha hk
    go_enter Try.func11, Try.ntmps11
    go_wp2_with (refine HF.out.mono ?_; rintro _ w1 ⟨rfl, hb⟩; have HB := Lib.hid hb; clear hb)
    all_goals
      go_ret
      exact ⟨rfl, HA.out.next HB.out, Mv.of_below HB.out⟩
end Go.Proofs.Ytdmcmgcecdgegaa.cel
