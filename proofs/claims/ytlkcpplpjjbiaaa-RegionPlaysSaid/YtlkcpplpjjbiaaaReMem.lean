/-
  A region as the program keeps it: a struct of five cells; what its calls may turn, and where it lies. No condition.
-/
import Derived.Test.YtlkcpplpjjbiaaaReRow
import Derived.Test.YtlkcpplpjjbiaaaReTurn
namespace Go.Proofs.Ytlkcpplpjjbiaaa.reg
open Go.RowKit Go.ChangeShapes
open Go.Proofs.Ytlkcpplpjjbiaaa.frames (Fr In GoodN)
open Go.Proofs.Ytlkcpplpjjbiaaa.pr (SAt)
set_option linter.unusedVariables false
set_option linter.unusedSimpArgs false

/-- What a region holds: its checkpoint, its number, its aborts; what was written, the first at first; what is held, in the program's order. -/
structure St where
  fr : List Fr
  num : Int
  ab : Int
  was : List E
  held : List E
def lgO (vc : Value) (n a : Int) (vw vh : Value) : Obj := .cells #[vc, .int .i64 n, .int .i64 a, vw, vh] 59 (0, 0)
section
variable {w : World} {g : Nat} {vc vw vh : Value} {n a : Int}
theorem lg_cells (h : w.heap[g]? = some (lgO vc n a vw vh)) : w.cell? ⟨g, 0, none⟩ = some vc ∧ w.cell? ⟨g, 1, none⟩ = some (.int .i64 n) ∧ w.cell? ⟨g, 2, none⟩ = some (.int .i64 a) ∧ w.cell? ⟨g, 3, none⟩ = some vw ∧ w.cell? ⟨g, 4, none⟩ = some vh := by
  refine ⟨?_, ?_, ?_, ?_, ?_⟩
  all_goals
    unfold World.cell?
    rw [h]
    rfl
theorem lg_free (h : w.heap[g]? = some (lgO vc n a vw vh)) (j : Nat) : w.frozen? ⟨g, j, none⟩ = false := frozen_of_row w g j _ _ h
theorem lg_ab (h : w.heap[g]? = some (lgO vc n a vw vh)) (m : Int) : (w.setCell ⟨g, 2, none⟩ (.int .i64 m)).heap[g]? = some (lgO vc n m vw vh) := heap_setCell_same w g 2 _ _ _ h
theorem lg_was (h : w.heap[g]? = some (lgO vc n a vw vh)) (v : Value) : (w.setCell ⟨g, 3, none⟩ v).heap[g]? = some (lgO vc n a v vh) := heap_setCell_same w g 3 _ _ _ h
theorem lg_held (h : w.heap[g]? = some (lgO vc n a vw vh)) (v : Value) : (w.setCell ⟨g, 4, none⟩ v).heap[g]? = some (lgO vc n a vw v) := heap_setCell_same w g 4 _ _ _ h
end

/-- A region as the program keeps it. -/
structure AtG (w : World) (g : Nat) (A : Option Addr) (c : Nat) (vw vh : Value) (s : St) : Prop where
  box : w.heap[g]? = some (lgO (.slice A s.fr.length c) s.num s.ab vw vh)
  fr : frames.Own w 0 (.slice A s.fr.length c) s.fr
  good : GoodN s.fr
  was : pr.Own w 0 vw s.was
  held : pr.Own w 0 vh s.held
  ne : ∀ b, vw.ownBlock = some b → vh.ownBlock ≠ some b
  wlen : s.was.length ≤ 4000
  hlen : s.held.length ≤ 4000
/-- Of the blocks that were there only the region's own may have turned. -/
structure Mv (g : Nat) (vw vh : Value) (w w' : World) : Prop where
  os : w'.os = w.os
  tape : w'.tape = w.tape
  output : w'.output = w.output
  size : w.heap.size ≤ w'.heap.size
  block : ∀ k, k < w.heap.size → k ≠ g → vw.ownBlock ≠ some k → vh.ownBlock ≠ some k → w'.heap[k]? = w.heap[k]?
theorem Mv.of_below {g : Nat} {vw vh : Value} {w w' : World} (h : Below w.heap.size w w') : Mv g vw vh w w' := ⟨h.os, h.tape, h.output, h.size, fun k hk _ _ _ => h.block k hk⟩
theorem Mv.trans {g : Nat} {vw vh : Value} {w w' w'' : World} (h : Mv g vw vh w w') (h2 : Mv g vw vh w' w'') : Mv g vw vh w w'' :=
  ⟨h2.os.trans h.os, h2.tape.trans h.tape, h2.output.trans h.output, Nat.le_trans h.size h2.size, fun k hk a b c => (h2.block k (Nat.lt_of_lt_of_le hk h.size) a b c).trans (h.block k hk a b c)⟩
theorem Mv.below {B g : Nat} {vw vh : Value} {a w w' : World} (h : Below B a w) (ho : Mv g vw vh w w') (hg : B ≤ g) (hv : ∀ b, vw.ownBlock = some b → B ≤ b) (hh : ∀ b, vh.ownBlock = some b → B ≤ b) (hB : B ≤ w.heap.size) : Below B a w' :=
  ⟨ho.os.trans h.os, ho.tape.trans h.tape, ho.output.trans h.output, Nat.le_trans h.size ho.size, fun k hk => (ho.block k (by omega) (by omega) (fun e => by have := hv k e; omega) (fun e => by have := hh k e; omega)).trans (h.block k hk)⟩
/-- A row's block is the one that it was, or a new one. -/
def Kept (w : World) (v v' : Value) : Prop := v'.ownBlock = v.ownBlock ∨ ∃ b, v'.ownBlock = some b ∧ w.heap.size ≤ b
theorem Kept.refl (w : World) (v : Value) : Kept w v v := .inl rfl
theorem Kept.ge {w : World} {v v' : Value} {B : Nat} (h : Kept w v v') (hv : ∀ b, v.ownBlock = some b → B ≤ b) (hB : B ≤ w.heap.size) : ∀ b, v'.ownBlock = some b → B ≤ b := fun b e => by
  rcases h with h | ⟨b', h, hb⟩
  · exact hv b (by rw [← h]; exact e)
  · rw [h] at e
    injection e with e
    omega
theorem Kept.ne {w : World} {v v' : Value} {k : Nat} (h : Kept w v v') (hk : k < w.heap.size) (hv : v.ownBlock ≠ some k) : v'.ownBlock ≠ some k := fun e => by
  rcases h with h | ⟨b', h, hb⟩
  · exact hv (by rw [← h]; exact e)
  · rw [h] at e
    injection e with e
    omega
theorem Kept.later {w w' : World} {v v' : Value} (h : Kept w' v v') (hs : w.heap.size ≤ w'.heap.size) : Kept w v v' := h.imp id fun ⟨b, h1, h2⟩ => ⟨b, h1, by omega⟩
/-- What a call on a region leaves. -/
def Went (w : World) (g : Nat) (A : Option Addr) (c : Nat) (vw vh : Value) (s : St) (w' : World) : Prop :=
  ∃ vw' vh', AtG w' g A c vw' vh' s ∧ Mv g vw vh w w' ∧ Kept w vw vw' ∧ Kept w vh vh'
/-- A region that a call has made: all of it in blocks that are new. -/
def Made (w : World) (s : St) (e : Ending) (w' : World) : Prop :=
  ∃ g A c vw vh, e = .returned (.pointer (some ⟨g, 0, none⟩)) ∧ AtG w' g A c vw vh s ∧ Below w.heap.size w w' ∧ w.heap.size ≤ g ∧ (∀ b, vw.ownBlock = some b → w.heap.size ≤ b) ∧ ∀ b, vh.ownBlock = some b → w.heap.size ≤ b
section
variable {w w' : World} {g c : Nat} {A : Option Addr} {vw vh : Value} {s : St}
theorem fr_block {w : World} {base b : Nat} {v : Value} {l : List Fr} (h : frames.Own w base v l) (hb : v.ownBlock = some b) : ∃ cur, w.heap[b]? = some (.cells cur 56 (0, 0)) := by
  rcases h.2 with ⟨rfl, _⟩ | ⟨g, cap, cur, rfl, _, hh, _⟩
  · cases hb
  · injection hb with hb
    subst hb
    exact ⟨cur, hh⟩
theorem AtG.lt (h : AtG w g A c vw vh s) : g < w.heap.size ∧ (∀ b, vw.ownBlock = some b → b < w.heap.size) ∧ ∀ b, vh.ownBlock = some b → b < w.heap.size :=
  ⟨lt_of_block h.box, fun b hb => (h.was.lt hb).2, fun b hb => (h.held.lt hb).2⟩
theorem AtG.neW (h : AtG w g A c vw vh s) {b : Nat} (hb : vw.ownBlock = some b) : b ≠ g := by
  rintro rfl
  obtain ⟨cur, e⟩ := h.was.block hb
  rw [h.box] at e
  simp [lgO] at e
theorem AtG.neH (h : AtG w g A c vw vh s) {b : Nat} (hb : vh.ownBlock = some b) : b ≠ g := by
  rintro rfl
  obtain ⟨cur, e⟩ := h.held.block hb
  rw [h.box] at e
  simp [lgO] at e
theorem AtG.neF (h : AtG w g A c vw vh s) {b : Nat} (hb : (Value.slice A s.fr.length c).ownBlock = some b) : b ≠ g ∧ vw.ownBlock ≠ some b ∧ vh.ownBlock ≠ some b := by
  obtain ⟨cur, e⟩ := fr_block h.fr hb
  refine ⟨?_, fun e2 => ?_, fun e2 => ?_⟩
  · rintro rfl
    rw [h.box] at e
    simp [lgO] at e
  · obtain ⟨cur2, e3⟩ := h.was.block e2
    rw [e] at e3
    simp at e3
  · obtain ⟨cur2, e3⟩ := h.held.block e2
    rw [e] at e3
    simp at e3
theorem AtG.keep (h : AtG w g A c vw vh s) (hg : w'.heap[g]? = w.heap[g]?) (hf : ∀ b, (Value.slice A s.fr.length c).ownBlock = some b → w'.heap[b]? = w.heap[b]?) (hw : ∀ b, vw.ownBlock = some b → w'.heap[b]? = w.heap[b]?) (hh : ∀ b, vh.ownBlock = some b → w'.heap[b]? = w.heap[b]?) : AtG w' g A c vw vh s :=
  ⟨hg.trans h.box, h.fr.keep hf, h.good, h.was.keep hw, h.held.keep hh, h.ne, h.wlen, h.hlen⟩
theorem AtG.next (h : AtG w g A c vw vh s) (hb : Below w.heap.size w w') : AtG w' g A c vw vh s :=
  h.keep (hb.block _ h.lt.1) (fun b e => hb.block _ (h.fr.lt e).2) (fun b e => hb.block _ (h.lt.2.1 b e)) (fun b e => hb.block _ (h.lt.2.2 b e))
theorem AtG.ins (h : AtG w g A c vw vh s) : In w A c s.fr := h.fr.ins (by have := h.good.1; omega) fun f hf => (h.good.2 f hf).1
/-- More was written. -/
theorem AtG.wrote (h : AtG w g A c vw vh s) {v2 : Value} {l2 : List E} (hl : l2.length ≤ 4000) (ho : pr.Own w' 0 v2 l2) (hg : w.grownBy w' vw.ownBlock) (hm : v2.ownBlock = vw.ownBlock ∨ v2.ownBlock = some w.heap.size) :
    Went w g A c vw vh { s with was := l2 } (w'.setCell ⟨g, 3, none⟩ v2) := by
  have hbox : w'.heap[g]? = w.heap[g]? := hg.block g h.lt.1 fun e => h.neW e.symm rfl
  have hkp : Kept w vw v2 := hm.imp id fun e => ⟨_, e, Nat.le_refl _⟩
  have hb2 : w'.heap[g]? = some (lgO (.slice A s.fr.length c) s.num s.ab vw vh) := hbox.trans h.box
  have hoth : ∀ b, b ≠ g → (w'.setCell ⟨g, 3, none⟩ v2).heap[b]? = w'.heap[b]? := fun b hb => heap_setCell_other w' ⟨g, 3, none⟩ b v2 hb
  have hwg : ∀ b, v2.ownBlock = some b → b ≠ g := fun b e he => by
    subst he
    rcases hm with e2 | e2
    · exact h.neW (by rw [← e2]; exact e) rfl
    · rw [e2] at e
      injection e with e
      have := h.lt.1
      omega
  refine ⟨v2, vh, ⟨lg_was hb2 v2, ?_, h.good, ?_, ?_, ?_, hl, h.hlen⟩, ⟨hg.os, hg.tape, hg.output, Nat.le_trans hg.size (by simp [World.setCell]), fun k hk k1 k2 _ => ?_⟩, hkp, Kept.refl _ _⟩
  · exact h.fr.keep fun b e => (hoth b (h.neF e).1).trans (hg.block b (h.fr.lt e).2 fun e2 => (h.neF e).2.1 e2.symm)
  · exact ho.keep fun b e => hoth b (hwg b e)
  · exact h.held.keep fun b e => (hoth b (h.neH e)).trans (hg.block b (h.lt.2.2 b e) fun e2 => h.ne b e2.symm e)
  · intro b e e2
    rcases hm with e3 | e3
    · exact h.ne b (by rw [← e3]; exact e) e2
    · rw [e3] at e
      injection e with e
      have := h.lt.2.2 b e2
      omega
  · exact (hoth k k1).trans (hg.block k hk fun e => k2 e.symm)
/-- More is held. -/
theorem AtG.more (h : AtG w g A c vw vh s) {v2 : Value} {l2 : List E} (hl : l2.length ≤ 4000) (ho : pr.Own w' 0 v2 l2) (hg : w.grownBy w' vh.ownBlock) (hm : v2.ownBlock = vh.ownBlock ∨ v2.ownBlock = some w.heap.size) :
    Went w g A c vw vh { s with held := l2 } (w'.setCell ⟨g, 4, none⟩ v2) := by
  have hbox : w'.heap[g]? = w.heap[g]? := hg.block g h.lt.1 fun e => h.neH e.symm rfl
  have hkp : Kept w vh v2 := hm.imp id fun e => ⟨_, e, Nat.le_refl _⟩
  have hb2 : w'.heap[g]? = some (lgO (.slice A s.fr.length c) s.num s.ab vw vh) := hbox.trans h.box
  have hoth : ∀ b, b ≠ g → (w'.setCell ⟨g, 4, none⟩ v2).heap[b]? = w'.heap[b]? := fun b hb => heap_setCell_other w' ⟨g, 4, none⟩ b v2 hb
  have hwg : ∀ b, v2.ownBlock = some b → b ≠ g := fun b e he => by
    subst he
    rcases hm with e2 | e2
    · exact h.neH (by rw [← e2]; exact e) rfl
    · rw [e2] at e
      injection e with e
      have := h.lt.1
      omega
  refine ⟨vw, v2, ⟨lg_held hb2 v2, ?_, h.good, ?_, ?_, ?_, h.wlen, hl⟩, ⟨hg.os, hg.tape, hg.output, Nat.le_trans hg.size (by simp [World.setCell]), fun k hk k1 _ k2 => ?_⟩, Kept.refl _ _, hkp⟩
  · exact h.fr.keep fun b e => (hoth b (h.neF e).1).trans (hg.block b (h.fr.lt e).2 fun e2 => (h.neF e).2.2 e2.symm)
  · exact h.was.keep fun b e => (hoth b (h.neW e)).trans (hg.block b (h.lt.2.1 b e) fun e2 => h.ne b e e2.symm)
  · exact ho.keep fun b e => hoth b (hwg b e)
  · intro b e e2
    rcases hm with e3 | e3
    · exact h.ne b e (by rw [← e3]; exact e2)
    · rw [e3] at e2
      injection e2 with e2
      have := h.lt.2.1 b e
      omega
  · exact (hoth k k1).trans (hg.block k hk fun e => k2 e.symm)
/-- Of one object another number is held. -/
theorem AtG.put {b n cap k : Nat} (h : AtG w g A c vw (.slice (some ⟨b, 0, none⟩) n cap) s) (hk : k < s.held.length) (x : Int) :
    AtG (w.setCell ⟨b, k * 2 + 1, none⟩ (.int .i64 x)) g A c vw (.slice (some ⟨b, 0, none⟩) n cap) { s with held := s.held.set k ((s.held.getD k (0, 0)).1, x) } ∧ Mv g vw (.slice (some ⟨b, 0, none⟩) n cap) w (w.setCell ⟨b, k * 2 + 1, none⟩ (.int .i64 x)) := by
  have hoth : ∀ j, j ≠ b → (w.setCell ⟨b, k * 2 + 1, none⟩ (.int .i64 x)).heap[j]? = w.heap[j]? := fun j hj => heap_setCell_other w ⟨b, k * 2 + 1, none⟩ j _ hj
  have hbg : b ≠ g := h.neH rfl
  refine ⟨⟨(hoth g (fun e => hbg e.symm)).trans h.box, ?_, h.good, ?_, h.held.put hk x, h.ne, h.wlen, by rw [List.length_set]; exact h.hlen⟩, ⟨rfl, rfl, rfl, by simp [World.setCell], fun j hj _ _ j3 => hoth j fun e => j3 (by rw [e]; rfl)⟩⟩
  · exact h.fr.keep fun j e => hoth j fun e2 => by subst e2; exact (h.neF e).2.2 rfl
  · exact h.was.keep fun j e => hoth j fun e2 => by subst e2; exact h.ne j e rfl
end
end Go.Proofs.Ytlkcpplpjjbiaaa.reg
