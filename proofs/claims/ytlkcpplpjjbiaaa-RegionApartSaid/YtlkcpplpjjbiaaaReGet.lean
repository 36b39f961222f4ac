/-
  The program's calls that look at a region or make one: Begin, Undo, Held, Frames, Number, Aborts, Again; of nil, too (typed over the code of cce19aa). No condition.
-/
import Derived.Test.YtlkcpplpjjbiaaaReMem
import Derived.Test.YtlkcpplpjjbiaaaReLib
namespace Go.Proofs.Ytlkcpplpjjbiaaa.reg
open Go.RowKit Go.ChangeShapes
open Go.Proofs.Ytlkcpplpjjbiaaa.frames (Fr In GoodN FrsPost turnF turnN_any)
open Go.Proofs.Ytlkcpplpjjbiaaa.pr (SAt)
set_option linter.unusedVariables false
set_option linter.unusedSimpArgs false

theorem made_of {w w1 : World} {A : Option Addr} {c : Nat} {vw vh : Value} {s : St} (hf : frames.Own w1 w.heap.size (.slice A s.fr.length c) s.fr) (hg : GoodN s.fr) (hw : pr.Own w1 w.heap.size vw s.was) (hh : pr.Own w1 w.heap.size vh s.held) (hn : ∀ b, vw.ownBlock = some b → vh.ownBlock ≠ some b) (h1 : s.was.length ≤ 4000) (h2 : s.held.length ≤ 4000) (hb : Below w.heap.size w w1) :
    Made w s (.returned (.pointer (some ⟨w1.heap.size, 0, none⟩))) (w1.alloc (lgO (.slice A s.fr.length c) s.num s.ab vw vh)) :=
  have hb2 := (Below.refl _ w1).alloc (Nat.le_refl _) (lgO (.slice A s.fr.length c) s.num s.ab vw vh)
  ⟨w1.heap.size, A, c, vw, vh, rfl, ⟨heap_alloc_new w1 _, (hf.next hb2).base (Nat.zero_le _), hg, (hw.next hb2).base (Nat.zero_le _), (hh.next hb2).base (Nat.zero_le _), hn, h1, h2⟩, hb.alloc hb.size _, hb.size, fun b e => (hw.lt e).1, fun b e => (hh.lt e).1⟩
theorem begin_any (A : Option Addr) (c : Nat) (l : List Fr) (num : Int) (w : World) (hI : In w A c l) (hg : GoodN l) :
    Calls Try.prog 9 #[.slice A l.length c, .int .i64 num] w (Made w ⟨l, num, 0, [], []⟩) := by
  have HC := Lib.hid (frames.clone_any A c l w hI)
  have HM : Hid (∀ w1 A' c', frames.Own w1 w.heap.size (.slice A' l.length c') l → Below w.heap.size w w1 → Made w ⟨l, num, 0, [], []⟩ (.returned (.pointer (some ⟨w1.heap.size, 0, none⟩))) (w1.alloc (lgO (.slice A' l.length c') num 0 (.slice none 0 0) (.slice none 0 0)))) := Lib.hid fun w1 A' c' h hb =>
    made_of (s := ⟨l, num, 0, [], []⟩) h hg (pr.Own.nil _ _) (pr.Own.nil _ _) (fun b e => by cases e) (by simp) (by simp) hb
  unfold lgO at HM
  clear hI hg
  generalize l.length = n at *
  go_enter Try.func9, Try.ntmps9
  go_wp2_with (refine HC.out.mono ?_; rintro _ w1 ⟨A1, c1, rfl, h1, h2⟩; have HD := Lib.hid (HM.out w1 A1 c1 h1 h2); clear h1 h2)
  go_ret
  exact HD.out

section
variable {w : World} {g c : Nat} {A : Option Addr} {vw vh : Value} {s : St}
theorem number_nil (w : World) : Calls Try.prog 21 #[.pointer none] w fun e w' => e = .returned (.int .i64 0) ∧ w = w' := by
  go_enter Try.func21, Try.ntmps21
  go_wp2
  go_ret
  exact ⟨rfl, rfl⟩
theorem number_any (h : AtG w g A c vw vh s) : Calls Try.prog 21 #[.pointer (some ⟨g, 0, none⟩)] w fun e w' => e = .returned (.int .i64 s.num) ∧ w = w' := by
  have h1 := (lg_cells h.box).2.1
  clear h
  go_enter Try.func21, Try.ntmps21
  go_wp2
  go_ret
  exact ⟨rfl, rfl⟩
theorem aborts_nil (w : World) : Calls Try.prog 22 #[.pointer none] w fun e w' => e = .returned (.int .i64 0) ∧ w = w' := by
  go_enter Try.func22, Try.ntmps22
  go_wp2
  go_ret
  exact ⟨rfl, rfl⟩
theorem aborts_any (h : AtG w g A c vw vh s) : Calls Try.prog 22 #[.pointer (some ⟨g, 0, none⟩)] w fun e w' => e = .returned (.int .i64 s.ab) ∧ w = w' := by
  have h1 := (lg_cells h.box).2.2.1
  clear h
  go_enter Try.func22, Try.ntmps22
  go_wp2
  go_ret
  exact ⟨rfl, rfl⟩

theorem undo_nil (w : World) : Calls Try.prog 15 #[.pointer none] w fun e w' => e = .returned (.slice none 0 0) ∧ w = w' := by
  go_enter Try.func15, Try.ntmps15
  go_wp2
  go_ret
  exact ⟨rfl, rfl⟩
/-- A list in memory of a call's own. -/
def NewL (w : World) (l : List E) (e : Ending) (w' : World) : Prop := ∃ A c, e = .returned (.slice A l.length c) ∧ SAt w' (fun b => w.heap.size ≤ b) A l ∧ Below w.heap.size w w'
theorem undo_any (h : AtG w g A c vw vh s) : Calls Try.prog 15 #[.pointer (some ⟨g, 0, none⟩)] w (NewL w s.was.reverse) := by
  have h3 := (lg_cells h.box).2.2.2.1
  have HC := Lib.hid (sliceClone_any w vw s.was h.was (by have := h.wlen; omega))
  have HR : Hid (∀ w1 v1, pr.Own w1 w.heap.size v1 s.was → Below w.heap.size w w1 → ∃ A' c', v1 = .slice A' s.was.length c' ∧ Calls Try.prog 34 #[.slice A' s.was.length c'] w1 fun e w' => e = .returned (.tuple #[]) ∧ Hid (SAt w' (fun b => w.heap.size ≤ b) A' s.was.reverse ∧ Below w.heap.size w w')) := Lib.hid fun w1 v1 ho hb => by
    obtain ⟨A', c', rfl⟩ := ho.slice
    refine ⟨A', c', rfl, (reverse_any w1 w.heap.size _ s.was ho hb.size (by have := h.wlen; omega)).mono fun e w' hh => ?_⟩
    obtain ⟨h1, A2, c2, e2, h2, h3⟩ := hh
    injection e2 with e3 e4 e5
    subst e3
    exact ⟨h1, Lib.hid ⟨h2, hb.trans h3⟩⟩
  have e0 : s.was.reverse.length = s.was.length := List.length_reverse
  unfold NewL
  rw [e0]
  generalize s.was.length = n at *
  clear h e0
  obtain ⟨num0, hnum⟩ : ∃ x, x = s.num := ⟨_, rfl⟩
  clear hnum
  go_enter Try.func15, Try.ntmps15
  go_wp2_with fail
  refine HC.out.mono ?_
  rintro _ w1 ⟨v1, rfl, h1, h2⟩
  obtain ⟨A1, c1, rfl, D⟩ := HR.out w1 v1 h1 h2
  have HD := Lib.hid D
  clear h1 h2 D HC HR
  go_wp2_with fail
  refine HD.out.mono ?_
  rintro _ w2 ⟨rfl, HE⟩
  clear HD
  go_wp2_with fail
  go_ret
  exact ⟨_, _, rfl, HE.out.1, HE.out.2⟩
theorem held_nil (w : World) : Calls Try.prog 19 #[.pointer none] w fun e w' => e = .returned (.slice none 0 0) ∧ w = w' := by
  go_enter Try.func19, Try.ntmps19
  go_wp2
  go_ret
  exact ⟨rfl, rfl⟩
theorem held_any {m : Int} {got : List E} (h : AtG w g A c vw vh s) (hm : Match m s.held got) : Calls Try.prog 19 #[.pointer (some ⟨g, 0, none⟩)] w (NewL w got) := by
  have h4 := (lg_cells h.box).2.2.2.2
  have HC := Lib.hid (sliceClone_any w vh s.held h.held (by have := h.hlen; omega))
  have HR : Hid (∀ w1 v1, pr.Own w1 w.heap.size v1 s.held → Below w.heap.size w w1 → Calls Try.prog 36 #[v1, .func (.func 37) #[] #[]] w1 fun e w' => e = .returned (.tuple #[]) ∧ Hid (∃ A' c', v1 = .slice A' got.length c' ∧ SAt w' (fun b => w.heap.size ≤ b) A' got ∧ Below w.heap.size w w')) := Lib.hid fun w1 v1 ho hb =>
    (sort_any w1 w.heap.size v1 s.held got ho hb.size (by have := h.hlen; omega) hm.others hm.rises hm.same).mono fun e w' hh => by
      obtain ⟨h1, A2, c2, e2, h2, h3⟩ := hh
      exact ⟨h1, Lib.hid ⟨A2, c2, e2, h2, hb.trans h3⟩⟩
  unfold NewL
  clear h hm
  go_enter Try.func19, Try.ntmps19
  go_wp2_with fail
  refine HC.out.mono ?_
  rintro _ w1 ⟨v1, rfl, h1, h2⟩
  have HD := Lib.hid (HR.out w1 v1 h1 h2)
  clear h1 h2 HC HR
  go_wp2_with fail
  refine HD.out.mono ?_
  rintro _ w2 ⟨rfl, HE⟩
  obtain ⟨A', c', rfl, h1, h2⟩ := HE.out
  have HF := Lib.hid (And.intro h1 h2)
  clear HD HE h1 h2
  go_wp2_with fail
  go_ret
  exact ⟨_, _, rfl, HF.out.1, HF.out.2⟩

theorem frames_nil (w : World) : Calls Try.prog 20 #[.pointer none] w fun e w' => e = .returned (.slice none 0 0) ∧ w = w' := by
  go_enter Try.func20, Try.ntmps20
  go_wp2
  go_ret
  exact ⟨rfl, rfl⟩
/-- The frames of a region: its checkpoint, with how many aborts there were. -/
def frOf (s : St) : List Fr := if s.ab = 0 then s.fr else turnF s.fr s.ab
theorem frames_any (h : AtG w g A c vw vh s) : Calls Try.prog 20 #[.pointer (some ⟨g, 0, none⟩)] w (FrsPost (frOf s) w) := by
  obtain ⟨h0, _, h2, _, _⟩ := lg_cells h.box
  unfold FrsPost frOf
  by_cases hz : s.ab = 0
  · rw [if_pos hz]
    rw [hz] at h2
    have HC : Hid (Calls Try.prog 24 #[.slice A s.fr.length c] w fun e w' => ∃ A' c', e = .returned (.slice A' s.fr.length c') ∧ In w' A' c' s.fr ∧ Below w.heap.size w w') := Lib.hid ((frames.clone_any A c s.fr w h.ins).mono fun e w' hh => by
      obtain ⟨A', c', rfl, h1, h2⟩ := hh
      exact ⟨A', c', rfl, h1.ins (by have := h.good.1; omega) fun f hf => (h.good.2 f hf).1, h2⟩)
    clear h hz
    generalize s.fr.length = n at *
    go_enter Try.func20, Try.ntmps20
    go_wp2_with (refine HC.out.mono ?_; rintro _ w1 ⟨A1, c1, rfl, h1, h2⟩; have HD := Lib.hid (And.intro h1 h2); clear h1 h2)
    go_ret
    exact ⟨_, _, rfl, HD.out.1, HD.out.2⟩
  · rw [if_neg hz]
    have HT : Hid (∀ W, Below w.heap.size w W → Calls Try.prog 39 #[.slice A s.fr.length c, .int .i64 s.ab] W fun e w' => ∃ A' c', e = .returned (.slice A' (turnF s.fr s.ab).length c') ∧ w'.cell? ⟨g, 0, none⟩ = some (.slice A s.fr.length c) ∧ w'.cell? ⟨g, 2, none⟩ = some (.int .i64 s.ab) ∧ Hid (In w' A' c' (turnF s.fr s.ab) ∧ Below w.heap.size w w')) := Lib.hid fun W hb => (turnN_any A c s.fr s.ab W (h.ins.next hb) h.good).mono fun e w' hh => by
      unfold FrsPost at hh
      obtain ⟨A', c', rfl, h1, h3⟩ := hh
      have hb2 := hb.trans (h3.mono hb.size)
      exact ⟨A', c', rfl, (hb2.cell (p := ⟨g, 0, none⟩) h.lt.1).trans h0, (hb2.cell (p := ⟨g, 2, none⟩) h.lt.1).trans h2, Lib.hid ⟨h1, hb2⟩⟩
    have HM := Lib.hid ((Below.refl w.heap.size w).drew)
    generalize turnF s.fr s.ab = r at *
    generalize hn : s.fr.length = n at *
    generalize s.ab = ab at *
    have hz2 : (ab == 0) = false := by simpa using hz
    clear h hz hn
    go_enter Try.func20, Try.ntmps20
    go_wp2_with fail
    go_region_held3 (fun w' => w'.cell? ⟨g, 0, none⟩ = some (.slice A n c) ∧ w'.cell? ⟨g, 2, none⟩ = some (.int .i64 ab)) (go_keep)
      (first
        | (go_at_call 39; refine (HT.out _ ?_).mono ?_; (exact HM.out); rintro _ w' ⟨A', c', rfl, e0, e1, HM2⟩))
    go_wp2_with fail
    go_ret
    exact ⟨_, _, rfl, HM2.out.1, HM2.out.2⟩

theorem again_nil (k : Int) (w : World) : Calls Try.prog 23 #[.pointer none, .int .i64 k] w fun e w' => e = .returned (.pointer none) ∧ w = w' := by
  go_enter Try.func23, Try.ntmps23
  go_wp2
  go_ret
  exact ⟨rfl, rfl⟩
theorem AtG.setAb {w : World} (h : AtG w g A c vw vh s) (m : Int) : AtG (w.setCell ⟨g, 2, none⟩ (.int .i64 m)) g A c vw vh { s with ab := m } := by
  have hoth : ∀ j, j ≠ g → (w.setCell ⟨g, 2, none⟩ (.int .i64 m)).heap[j]? = w.heap[j]? := fun j hj => heap_setCell_other w ⟨g, 2, none⟩ j _ hj
  exact ⟨lg_ab h.box m, h.fr.keep fun b e => hoth b (h.neF e).1, h.good, h.was.keep fun b e => hoth b (h.neW e), h.held.keep fun b e => hoth b (h.neH e), h.ne, h.wlen, h.hlen⟩
theorem again_any (h : AtG w g A c vw vh s) (hab : 0 ≤ s.ab ∧ s.ab ≤ 4000) (k : Int) : Calls Try.prog 23 #[.pointer (some ⟨g, 0, none⟩), .int .i64 k] w (Made w ⟨s.fr, k, s.ab + 1, [], []⟩) := by
  obtain ⟨h0, _, h2, _, _⟩ := lg_cells h.box
  have HB : Hid (Calls Try.prog 9 #[.slice A s.fr.length c, .int .i64 k] w fun e w' => ∃ g2, e = .returned (.pointer (some ⟨g2, 0, none⟩)) ∧ w'.cell? ⟨g, 2, none⟩ = some (.int .i64 s.ab) ∧ w'.cell? ⟨g2, 2, none⟩ = some (.int .i64 0) ∧ w'.frozen? ⟨g2, 2, none⟩ = false ∧ Hid (∀ m, Made w ⟨s.fr, k, m, [], []⟩ (.returned (.pointer (some ⟨g2, 0, none⟩))) (w'.setCell ⟨g2, 2, none⟩ (.int .i64 m)))) := Lib.hid ((begin_any A c s.fr k w h.ins h.good).mono fun e w' hh => by
    obtain ⟨g2, A2, c2, v1, v2, rfl, h3, h4, h5, h6, h7⟩ := hh
    refine ⟨g2, rfl, (h4.cell (p := ⟨g, 2, none⟩) h.lt.1).trans h2, (lg_cells h3.box).2.2.1, lg_free h3.box 2, Lib.hid fun m => ⟨g2, A2, c2, v1, v2, rfl, h3.setAb m, h4.setCell (p := ⟨g2, 2, none⟩) h5 _, h5, h6, h7⟩⟩)
  generalize s.fr.length = n at *
  generalize s.ab = ab at *
  have hw : IntKind.i64.wrap (ab + 1) = ab + 1 := by rw [IntKind.wrap_i64]; omega
  have hw2 : wrap64 (ab + 1) = ab + 1 := by rw [← hw, IntKind.wrap_i64]; unfold wrap64; omega
  clear h hab
  go_enter Try.func23, Try.ntmps23
  go_wp2_with (refine HB.out.mono ?_; rintro _ w1 ⟨g2, rfl, e0, e1, e2, HM⟩; clear HB)
  go_ret
  exact HM.out _
end
end Go.Proofs.Ytlkcpplpjjbiaaa.reg
