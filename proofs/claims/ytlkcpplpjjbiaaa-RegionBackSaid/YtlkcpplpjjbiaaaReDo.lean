/-
  The law's own do: a call on the program's region. No condition.
-/
import Derived.Test.YtlkcpplpjjbiaaaRePut
import Derived.Test.YtlkcpplpjjbiaaaReClone
namespace Go.Proofs.Ytlkcpplpjjbiaaa.reg
open Go.RowKit Go.ChangeShapes
open Go.Proofs.Ytlkcpplpjjbiaaa.frames (Fr In GoodN)
set_option linter.unusedVariables false
set_option linter.unusedSimpArgs false

/-- What a call makes of a region. -/
def St.op (s : St) (k o n : Int) : St :=
  if k = 0 then { s with was := wrote s.was o n } else
  if k = 1 then (if 0 < n then { s with held := gotH s.held o n } else s) else
  if k = 2 then (if 0 < n then { s with held := lostH s.held o n } else s) else
  ⟨s.fr, n, s.ab + 1, [], []⟩
/-- How much it may be. -/
structure FitS (s : St) : Prop where
  was : s.was.length ≤ 1000
  held : s.held.length ≤ 1000
  ab0 : 0 ≤ s.ab
  ab1 : s.ab ≤ 3000
  pos : ∀ p ∈ s.held, 0 ≤ p.2 ∧ p.2 ≤ 2305843009213693952
/-- A row's block is none, the one that it was, or a new one. -/
def KeptN (w : World) (v v' : Value) : Prop := ∀ b, v'.ownBlock = some b → v.ownBlock = some b ∨ w.heap.size ≤ b
theorem Kept.n {w : World} {v v' : Value} (h : Kept w v v') : KeptN w v v' := fun b e => by
  rcases h with h | ⟨b', h, hb⟩
  · exact .inl (by rw [← h]; exact e)
  · rw [h] at e
    injection e with e
    exact .inr (by omega)
/-- What a call leaves: the same region, or a new one. -/
def Does (w : World) (g : Nat) (vw vh : Value) (s2 : St) (e : Ending) (w' : World) : Prop :=
  ∃ g2 A2 c2 vw2 vh2, e = .returned (.pointer (some ⟨g2, 0, none⟩)) ∧ AtG w' g2 A2 c2 vw2 vh2 s2 ∧ Mv g vw vh w w' ∧ (g2 = g ∨ w.heap.size ≤ g2) ∧ KeptN w vw vw2 ∧ KeptN w vh vh2
theorem does_went {w w1 w' : World} {g c : Nat} {A : Option Addr} {vw vh : Value} {s2 : St} (hb : Below w.heap.size w w1) (h : Went w1 g A c vw vh s2 w') : Does w g vw vh s2 (.returned (.pointer (some ⟨g, 0, none⟩))) w' := by
  obtain ⟨v1, v2, h1, h2, h3, h4⟩ := Went.back hb h
  exact ⟨g, A, c, v1, v2, rfl, h1, h2, .inl rfl, h3.n, h4.n⟩
theorem does_same {w w' : World} {g c : Nat} {A : Option Addr} {vw vh : Value} {s : St} (h : AtG w g A c vw vh s) (hb : Below w.heap.size w w') : Does w g vw vh s (.returned (.pointer (some ⟨g, 0, none⟩))) w' :=
  ⟨g, A, c, vw, vh, rfl, h.next hb, Mv.of_below hb, .inl rfl, fun b e => .inl e, fun b e => .inl e⟩
theorem does_made {w w1 w' : World} {g : Nat} {vw vh : Value} {s2 : St} {e : Ending} (hb : Below w.heap.size w w1) (h : Made w1 s2 e w') : Does w g vw vh s2 e w' := by
  obtain ⟨g2, A2, c2, v1, v2, h1, h2, h3, h4, h5, h6⟩ := h
  have hs := hb.size
  exact ⟨g2, A2, c2, v1, v2, h1, h2, Mv.of_below (hb.trans (h3.mono hb.size)), .inr (by omega), fun b e => .inr (by have := h5 b e; omega), fun b e => .inr (by have := h6 b e; omega)⟩
def opO (k o n : Int) : Obj := .cells #[.int .i64 k, .int .i64 o, .int .i64 n] 36
theorem op_cells (w : World) (k o n : Int) : (w.alloc (opO k o n)).cell? ⟨w.heap.size, 0, none⟩ = some (.int .i64 k) ∧ (w.alloc (opO k o n)).cell? ⟨w.heap.size, 1, none⟩ = some (.int .i64 o) ∧ (w.alloc (opO k o n)).cell? ⟨w.heap.size, 2, none⟩ = some (.int .i64 n) := by
  refine ⟨?_, ?_, ?_⟩
  all_goals
    unfold World.cell?
    rw [heap_alloc_new]
    rfl
set_option maxHeartbeats 4000000 in
theorem do_any {w : World} {g c : Nat} {A : Option Addr} {vw vh : Value} {s : St} (h : AtG w g A c vw vh s) (hf : FitS s) (k o n : Int) (hn : -1152921504606846976 ≤ n ∧ n ≤ 1152921504606846976) :
    Calls Try.prog 12 #[.pointer (some ⟨g, 0, none⟩), .agg #[.int .i64 k, .int .i64 o, .int .i64 n]] w (Does w g vw vh (s.op k o n)) := by
  have hb0 : Below w.heap.size w (w.alloc (opO k o n)) := (Below.refl _ w).alloc (Nat.le_refl _) _
  have h1 := h.next hb0
  have HX := Lib.hid (op_cells w k o n)
  have HA := Lib.hid h
  have HB := Lib.hid hb0
  by_cases k0 : k = 0
  · subst k0
    have e : s.op 0 o n = { s with was := wrote s.was o n } := by unfold St.op; rw [if_pos rfl]
    rw [e]
    have HW : Hid (Calls Try.prog 14 #[.pointer (some ⟨g, 0, none⟩), .int .i64 o, .int .i64 n] (w.alloc (opO 0 o n)) fun e w' => e = .returned (.tuple #[]) ∧ Hid (Does w g vw vh { s with was := wrote s.was o n } (.returned (.pointer (some ⟨g, 0, none⟩))) w')) := Lib.hid ((wrote_any h1 hf.was o n).mono fun e w' hh => ⟨hh.1, Lib.hid (does_went hb0 hh.2)⟩)
    unfold opO at HX HW
    clear e h1 hb0 h hf hn
    go_enter Try.func12, Try.ntmps12
    go_upto_region 1 with fail
    generalize w.alloc (.cells #[.int .i64 0, .int .i64 o, .int .i64 n] 36) = W1 at *
    obtain ⟨x0, x1, x2⟩ := HX.out
    go_wp2_with (refine HW.out.mono ?_; rintro _ w2 ⟨rfl, HD⟩; clear x0 x1 x2)
    go_ret
    exact HD.out
  by_cases k1 : k = 1
  · subst k1
    by_cases hp : 0 < n
    · have e : s.op 1 o n = { s with held := gotH s.held o n } := by unfold St.op; rw [if_neg (by decide), if_pos rfl, if_pos hp]
      rw [e]
      have HW : Hid (Calls Try.prog 17 #[.pointer (some ⟨g, 0, none⟩), .int .i64 o, .int .i64 n] (w.alloc (opO 1 o n)) fun e w' => e = .returned (.tuple #[]) ∧ Hid (Does w g vw vh { s with held := gotH s.held o n } (.returned (.pointer (some ⟨g, 0, none⟩))) w')) := Lib.hid ((got_any h1 hf.held o n (by omega) hf.pos).mono fun e w' hh => ⟨hh.1, Lib.hid (does_went hb0 hh.2)⟩)
      unfold opO at HX HW
      clear e h1 hb0 h hf hn hp
      go_enter Try.func12, Try.ntmps12
      go_upto_region 1 with fail
      generalize w.alloc (.cells #[.int .i64 1, .int .i64 o, .int .i64 n] 36) = W1 at *
      obtain ⟨x0, x1, x2⟩ := HX.out
      go_wp2_with (refine HW.out.mono ?_; rintro _ w2 ⟨rfl, HD⟩; clear x0 x1 x2)
      go_ret
      exact HD.out
    · have e : s.op 1 o n = s := by unfold St.op; rw [if_neg (by decide), if_pos rfl, if_neg hp]
      rw [e]
      have HW : Hid (Calls Try.prog 17 #[.pointer (some ⟨g, 0, none⟩), .int .i64 o, .int .i64 n] (w.alloc (opO 1 o n)) fun e w' => e = .returned (.tuple #[]) ∧ Hid (Does w g vw vh s (.returned (.pointer (some ⟨g, 0, none⟩))) w')) := Lib.hid ((got_few o n (by omega) _ g).mono fun e w' hh => ⟨hh.1, Lib.hid (by rw [← hh.2]; exact does_same h hb0)⟩)
      unfold opO at HX HW
      clear e h1 hb0 h hf hn hp
      go_enter Try.func12, Try.ntmps12
      go_upto_region 1 with fail
      generalize w.alloc (.cells #[.int .i64 1, .int .i64 o, .int .i64 n] 36) = W1 at *
      obtain ⟨x0, x1, x2⟩ := HX.out
      go_wp2_with (refine HW.out.mono ?_; rintro _ w2 ⟨rfl, HD⟩; clear x0 x1 x2)
      go_ret
      exact HD.out
  by_cases k2 : k = 2
  · subst k2
    by_cases hp : 0 < n
    · have e : s.op 2 o n = { s with held := lostH s.held o n } := by unfold St.op; rw [if_neg (by decide), if_neg (by decide), if_pos rfl, if_pos hp]
      rw [e]
      have HW : Hid (Calls Try.prog 18 #[.pointer (some ⟨g, 0, none⟩), .int .i64 o, .int .i64 n] (w.alloc (opO 2 o n)) fun e w' => e = .returned (.tuple #[]) ∧ Hid (Does w g vw vh { s with held := lostH s.held o n } (.returned (.pointer (some ⟨g, 0, none⟩))) w')) := Lib.hid ((lost_any h1 hf.held o n (by omega) hf.pos).mono fun e w' hh => ⟨hh.1, Lib.hid (does_went hb0 hh.2)⟩)
      unfold opO at HX HW
      clear e h1 hb0 h hf hn hp
      go_enter Try.func12, Try.ntmps12
      go_upto_region 1 with fail
      generalize w.alloc (.cells #[.int .i64 2, .int .i64 o, .int .i64 n] 36) = W1 at *
      obtain ⟨x0, x1, x2⟩ := HX.out
      go_wp2_with (refine HW.out.mono ?_; rintro _ w2 ⟨rfl, HD⟩; clear x0 x1 x2)
      go_ret
      exact HD.out
    · have e : s.op 2 o n = s := by unfold St.op; rw [if_neg (by decide), if_neg (by decide), if_pos rfl, if_neg hp]
      rw [e]
      have HW : Hid (Calls Try.prog 18 #[.pointer (some ⟨g, 0, none⟩), .int .i64 o, .int .i64 n] (w.alloc (opO 2 o n)) fun e w' => e = .returned (.tuple #[]) ∧ Hid (Does w g vw vh s (.returned (.pointer (some ⟨g, 0, none⟩))) w')) := Lib.hid ((lost_few o n (by omega) _ g).mono fun e w' hh => ⟨hh.1, Lib.hid (by rw [← hh.2]; exact does_same h hb0)⟩)
      unfold opO at HX HW
      clear e h1 hb0 h hf hn hp
      go_enter Try.func12, Try.ntmps12
      go_upto_region 1 with fail
      generalize w.alloc (.cells #[.int .i64 2, .int .i64 o, .int .i64 n] 36) = W1 at *
      obtain ⟨x0, x1, x2⟩ := HX.out
      go_wp2_with (refine HW.out.mono ?_; rintro _ w2 ⟨rfl, HD⟩; clear x0 x1 x2)
      go_ret
      exact HD.out
  have e : s.op k o n = ⟨s.fr, n, s.ab + 1, [], []⟩ := by unfold St.op; rw [if_neg k0, if_neg k1, if_neg k2]
  rw [e]
  have m0 : (k == 0) = false := by rw [beq_eq_false_iff_ne]; exact k0
  have m1 : (k == 1) = false := by rw [beq_eq_false_iff_ne]; exact k1
  have m2 : (k == 2) = false := by rw [beq_eq_false_iff_ne]; exact k2
  have HW : Hid (Calls Try.prog 23 #[.pointer (some ⟨g, 0, none⟩), .int .i64 n] (w.alloc (opO k o n)) fun e w' => ∃ g2, e = .returned (.pointer (some ⟨g2, 0, none⟩)) ∧ Hid (Does w g vw vh ⟨s.fr, n, s.ab + 1, [], []⟩ (.returned (.pointer (some ⟨g2, 0, none⟩))) w')) := Lib.hid ((again_any h1 (by have := hf.ab0; have := hf.ab1; omega) n).mono fun e w' hh => by
    have hd := does_made (g := g) (vw := vw) (vh := vh) hb0 hh
    obtain ⟨g2, _, _, _, _, rfl, _⟩ := hh
    exact ⟨g2, rfl, Lib.hid hd⟩)
  unfold opO at HX HW
  clear e h1 hb0 h hf hn k0 k1 k2
  go_enter Try.func12, Try.ntmps12
  go_upto_region 1 with fail
  generalize w.alloc (.cells #[.int .i64 k, .int .i64 o, .int .i64 n] 36) = W1 at *
  obtain ⟨x0, x1, x2⟩ := HX.out
  go_wp2_with (refine HW.out.mono ?_; rintro _ w2 ⟨g2, rfl, HD⟩; clear x0 x1 x2)
  go_ret
  exact HD.out
end Go.Proofs.Ytlkcpplpjjbiaaa.reg
