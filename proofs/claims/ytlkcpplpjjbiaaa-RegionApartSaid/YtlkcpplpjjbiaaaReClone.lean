/-
  The program's Clone of a region (typed over the code of cce19aa). No condition.
-/
import Derived.Test.YtlkcpplpjjbiaaaReGet
import Derived.Deep.RegionHeld3
import Derived.BigQuiet
namespace Go.Proofs.Ytlkcpplpjjbiaaa.reg
open Go.RowKit Go.ChangeShapes
open Go.Proofs.Ytlkcpplpjjbiaaa.frames (Fr In GoodN)
open Go.Proofs.Ytlkcpplpjjbiaaa.pr (SAt)
set_option linter.unusedVariables false
set_option linter.unusedSimpArgs false

theorem clone_nil (w : World) : Calls Try.prog 16 #[.pointer none] w fun e w' => e = .returned (.pointer none) ∧ w = w' := by
  go_enter Try.func16, Try.ntmps16
  go_wp2
  go_ret
  exact ⟨rfl, rfl⟩
/-- The five cells. -/
def Five (w : World) (g : Nat) (vc : Value) (n a : Int) (vw vh : Value) : Prop := w.cell? ⟨g, 0, none⟩ = some vc ∧ w.cell? ⟨g, 1, none⟩ = some (.int .i64 n) ∧ w.cell? ⟨g, 2, none⟩ = some (.int .i64 a) ∧ w.cell? ⟨g, 3, none⟩ = some vw ∧ w.cell? ⟨g, 4, none⟩ = some vh
theorem own_apart {w : World} {B : Nat} {v v2 : Value} {l l2 : List E} (h : pr.Own w 0 v l) (h2 : pr.Own w B v2 l2) (hB : ∀ b, v.ownBlock = some b → b < B) : ∀ b, v.ownBlock = some b → v2.ownBlock ≠ some b := fun b e e2 => by
  have := (h2.lt e2).1
  have := hB b e
  omega
set_option maxHeartbeats 4000000 in
theorem clone_any {w : World} {g c : Nat} {A : Option Addr} {vw vh : Value} {s : St} (h : AtG w g A c vw vh s) : Calls Try.prog 16 #[.pointer (some ⟨g, 0, none⟩)] w (Made w s) := by
  obtain ⟨z0, z1, z2, z3, z4⟩ := lg_cells h.box
  have HC : Hid (∀ W, Below w.heap.size w W → W.cell? ⟨g, 0, none⟩ = some (.slice A s.fr.length c) ∧ W.cell? ⟨g, 1, none⟩ = some (.int .i64 s.num) ∧ W.cell? ⟨g, 2, none⟩ = some (.int .i64 s.ab) ∧ W.cell? ⟨g, 3, none⟩ = some vw ∧ W.cell? ⟨g, 4, none⟩ = some vh) := Lib.hid fun W hb => lg_cells (h.next hb).box
  have H1 : Hid (∀ W, Below w.heap.size w W → Calls Try.prog 24 #[.slice A s.fr.length c] W fun e w' => ∃ A1 c1, e = .returned (.slice A1 s.fr.length c1) ∧ w'.cell? ⟨g, 0, none⟩ = some (.slice A s.fr.length c) ∧ w'.cell? ⟨g, 1, none⟩ = some (.int .i64 s.num) ∧ w'.cell? ⟨g, 2, none⟩ = some (.int .i64 s.ab) ∧ w'.cell? ⟨g, 3, none⟩ = some vw ∧ w'.cell? ⟨g, 4, none⟩ = some vh ∧ Hid (frames.Own w' w.heap.size (.slice A1 s.fr.length c1) s.fr ∧ Below w.heap.size w w')) := Lib.hid fun W hb =>
    (frames.clone_any A c s.fr W (h.next hb).ins).mono fun e w' hh => by
      obtain ⟨A1, c1, rfl, h1, h2⟩ := hh
      have hb2 := hb.trans (h2.mono hb.size)
      obtain ⟨q0, q1, q2, q3, q4⟩ := HC.out w' hb2
      exact ⟨A1, c1, rfl, q0, q1, q2, q3, q4, Lib.hid ⟨h1.base hb.size, hb2⟩⟩
  have H2 : Hid (∀ W A1 c1, frames.Own W w.heap.size (.slice A1 s.fr.length c1) s.fr ∧ Below w.heap.size w W → Calls Try.prog 33 #[vw] W fun e w' => ∃ A2 c2, e = .returned (.slice A2 s.was.length c2) ∧ w'.cell? ⟨g, 0, none⟩ = some (.slice A s.fr.length c) ∧ w'.cell? ⟨g, 1, none⟩ = some (.int .i64 s.num) ∧ w'.cell? ⟨g, 2, none⟩ = some (.int .i64 s.ab) ∧ w'.cell? ⟨g, 3, none⟩ = some vw ∧ w'.cell? ⟨g, 4, none⟩ = some vh ∧ Hid (pr.Own w' w.heap.size (.slice A2 s.was.length c2) s.was ∧ (∀ b, (Value.slice A2 s.was.length c2).ownBlock = some b → b < w'.heap.size) ∧ frames.Own w' w.heap.size (.slice A1 s.fr.length c1) s.fr ∧ Below w.heap.size w w')) := Lib.hid fun W A1 c1 hf =>
    (sliceClone_any W vw s.was (h.next hf.2).was (by have := h.wlen; omega)).mono fun e w' hh => by
      obtain ⟨v1, rfl, h1, h2⟩ := hh
      obtain ⟨A2, c2, rfl⟩ := h1.slice
      have hb2 := hf.2.trans (h2.mono hf.2.size)
      obtain ⟨q0, q1, q2, q3, q4⟩ := HC.out w' hb2
      exact ⟨A2, c2, rfl, q0, q1, q2, q3, q4, Lib.hid ⟨h1.base hf.2.size, fun b e => (h1.lt e).2, hf.1.next h2, hb2⟩⟩
  have H3 : Hid (∀ W A1 c1 A2 c2, pr.Own W w.heap.size (.slice A2 s.was.length c2) s.was ∧ (∀ b, (Value.slice A2 s.was.length c2).ownBlock = some b → b < W.heap.size) ∧ frames.Own W w.heap.size (.slice A1 s.fr.length c1) s.fr ∧ Below w.heap.size w W → Calls Try.prog 33 #[vh] W fun e w' => ∃ A3 c3, e = .returned (.slice A3 s.held.length c3) ∧ w'.cell? ⟨g, 0, none⟩ = some (.slice A s.fr.length c) ∧ w'.cell? ⟨g, 1, none⟩ = some (.int .i64 s.num) ∧ w'.cell? ⟨g, 2, none⟩ = some (.int .i64 s.ab) ∧ w'.cell? ⟨g, 3, none⟩ = some vw ∧ w'.cell? ⟨g, 4, none⟩ = some vh ∧ Hid (Made w s (.returned (.pointer (some ⟨w'.heap.size, 0, none⟩))) (w'.alloc (lgO (.slice A1 s.fr.length c1) s.num s.ab (.slice A2 s.was.length c2) (.slice A3 s.held.length c3))))) := Lib.hid fun W A1 c1 A2 c2 hf =>
    (sliceClone_any W vh s.held (h.next hf.2.2.2).held (by have := h.hlen; omega)).mono fun e w' hh => by
      obtain ⟨v2, rfl, h1, h2⟩ := hh
      obtain ⟨A3, c3, rfl⟩ := h1.slice
      have hb2 := hf.2.2.2.trans (h2.mono hf.2.2.2.size)
      obtain ⟨q0, q1, q2, q3, q4⟩ := HC.out w' hb2
      exact ⟨A3, c3, rfl, q0, q1, q2, q3, q4, Lib.hid (made_of (hf.2.2.1.next h2) h.good (hf.1.next h2) (h1.base hf.2.2.2.size) (own_apart ((hf.1.next h2).base (Nat.zero_le _)) h1 hf.2.1) h.wlen h.hlen hb2)⟩
  unfold lgO at H3
  have HM := Lib.hid ((Below.refl w.heap.size w).drew)
  generalize s.fr.length = n at *
  generalize s.num = num at *
  generalize s.was.length = nw at *
  generalize s.held.length = nh at *
  generalize s.ab = ab at *
  clear h HC
  go_enter Try.func16, Try.ntmps16
  go_wp2_with fail
  go_region_held3 (fun w' => w'.cell? ⟨g, 0, none⟩ = some (.slice A n c) ∧ w'.cell? ⟨g, 1, none⟩ = some (.int .i64 num) ∧ w'.cell? ⟨g, 2, none⟩ = some (.int .i64 ab) ∧ w'.cell? ⟨g, 3, none⟩ = some vw ∧ w'.cell? ⟨g, 4, none⟩ = some vh) (go_keep)
    (first
      | (go_at_call 24; refine (H1.out _ ?_).mono ?_; (exact HM.out); rintro _ w1 ⟨A1, c1, rfl, x0, x1, x2, x3, x4, HM1⟩)
      | (go_at_call_of 33 (vw); refine (H2.out _ A1 c1 ?_).mono ?_; (exact HM1.out); rintro _ w2 ⟨A2, c2, rfl, y0, y1, y2, y3, y4, HM2⟩)
      | (go_at_call_of 33 (vh); refine (H3.out _ A1 c1 A2 c2 ?_).mono ?_; (exact HM2.out); rintro _ w3 ⟨A3, c3, rfl, u0, u1, u2, u3, u4, HM3⟩))
  go_wp2_with fail
  go_ret
  exact HM3.out
end Go.Proofs.Ytlkcpplpjjbiaaa.reg
