/-
  A region, its clone apart, and the document's region in its box. No condition.
-/
import Derived.Test.YtlkcpplpjjbiaaaRePlays
namespace Go.Proofs.Ytlkcpplpjjbiaaa.reg
open Go.RowKit Go.ChangeShapes
open Go.Proofs.Ytlkcpplpjjbiaaa.frames (Fr In GoodN FrsPost)
open Go.Proofs.Ytlkcpplpjjbiaaa.ro (De GAt zero)
set_option linter.unusedVariables false
set_option linter.unusedSimpArgs false

/-- The clone k, the document's region x, and the region g that goes on by itself. -/
structure Ap2 (w0 : World) (gx k : Nat) (Ak : Option Addr) (ck : Nat) (vwk vhk : Value) (s : St) (A0 : Option Addr) (i c0 : Nat) (m : Rg) (d : Ds) (g : Nat) (A : Option Addr) (c : Nat) (vw vh : Value) (s2 : St) (W : World) : Prop where
  lk : Lz w0 k Ak ck vwk vhk s W
  x : RgAt W A0 i c0 m d
  box : W.heap[gx]? = some (rgO m)
  lg : Lz w0 g A c vw vh s2 W
  n0 : k ≠ g
  n1 : ∀ b, vw.ownBlock = some b → vwk.ownBlock ≠ some b ∧ vhk.ownBlock ≠ some b
  n2 : ∀ b, vh.ownBlock = some b → vwk.ownBlock ≠ some b ∧ vhk.ownBlock ≠ some b
def ApX (w0 : World) (gx k : Nat) (s : St) (A0 : Option Addr) (i c0 : Nat) (m : Rg) (d : Ds) (g : Nat) (s2 : St) (W : World) : Prop :=
  ∃ Ak ck vwk vhk A c vw vh, Ap2 w0 gx k Ak ck vwk vhk s A0 i c0 m d g A c vw vh s2 W
section
variable {w0 W W' : World} {gx k g : Nat} {s s2 s3 : St} {A0 : Option Addr} {i c0 : Nat} {m : Rg} {d : Ds} {l : List Fr} {j : Nat}
theorem Lz.next {A : Option Addr} {c : Nat} {vw vh : Value} (h : Lz w0 g A c vw vh s W) (hb : Below W.heap.size W W') : Lz w0 g A c vw vh s W' :=
  ⟨h.at_.next hb, h.below.trans (hb.mono h.below.size), h.far, h.farw, h.farh⟩
theorem ApX.next (h : ApX w0 gx k s A0 i c0 m d g s2 W) (hb : Below W.heap.size W W') : ApX w0 gx k s A0 i c0 m d g s2 W' := by
  obtain ⟨Ak, ck, vwk, vhk, A, c, vw, vh, h⟩ := h
  exact ⟨Ak, ck, vwk, vhk, A, c, vw, vh, h.lk.next hb, h.x.next hb, (hb.block gx (lt_of_block h.box)).trans h.box, h.lg.next hb, h.n0, h.n1, h.n2⟩
theorem ApX.below (h : ApX w0 gx k s A0 i c0 m d g s2 W) : Below w0.heap.size w0 W := by
  obtain ⟨Ak, ck, vwk, vhk, A, c, vw, vh, h⟩ := h
  exact h.lk.below
theorem apx_clone (h : Bz w0 gx g s A0 i c0 m d m W) : Calls Try.prog 16 #[.pointer (some ⟨g, 0, none⟩)] W fun e w' => ∃ k, e = .returned (.pointer (some ⟨k, 0, none⟩)) ∧ ApX w0 gx k s A0 i c0 m d g s w' := by
  obtain ⟨A, c, vw, vh, hz⟩ := h.two.ls
  refine (clone_any hz.at_).mono fun e w' hh => ?_
  obtain ⟨k, Ak, ck, vwk, vhk, h1, h2, h3, h4, h5, h6⟩ := hh
  have hs := hz.below.size
  obtain ⟨q1, q2, q3⟩ := hz.at_.lt
  refine ⟨k, h1, Ak, ck, vwk, vhk, A, c, vw, vh, ⟨h2, hz.below.trans (h3.mono hs), by omega, fun b e => by have := h5 b e; omega, fun b e => by have := h6 b e; omega⟩, h.two.x.next h3, (h3.block gx (lt_of_block h.box)).trans h.box, hz.next h3, by omega, fun b e => ⟨fun e2 => ?_, fun e2 => ?_⟩, fun b e => ⟨fun e2 => ?_, fun e2 => ?_⟩⟩
  · have := h5 b e2; have := q2 b e; omega
  · have := h6 b e2; have := q2 b e; omega
  · have := h5 b e2; have := q3 b e; omega
  · have := h6 b e2; have := q3 b e; omega
theorem ApX.c_do (h : ApX w0 gx k s A0 i c0 m d g s2 W) {d2 : Ds} (hi : Inv2 j l s2 d2) (hj : j ≤ 100) (kd o n : Int) (hn : -1099511627776 ≤ n ∧ n ≤ 1099511627776) :
    Calls Try.prog 12 #[.pointer (some ⟨g, 0, none⟩), .agg #[.int .i64 kd, .int .i64 o, .int .i64 n]] W fun e w' => ∃ g2, e = .returned (.pointer (some ⟨g2, 0, none⟩)) ∧ ApX w0 gx k s A0 i c0 m d g2 (s2.op kd o n) w' := by
  obtain ⟨Ak, ck, vwk, vhk, A, c, vw, vh, h⟩ := h
  refine (do_any h.lg.at_ (hi.fitS hj) kd o n (by omega)).mono fun e w' hh => ?_
  have hLx := h.lg.does hh
  obtain ⟨g2, A2, c2, v1, v2, h1, h2, h3, h4, h5, h6⟩ := hh
  obtain ⟨m1, m2, m3, _⟩ := h.lg.at_.neX h.box
  obtain ⟨q1, q2, q3⟩ := h.lk.at_.lt
  have hs := h.lg.below.size
  have nw : vw.ownBlock ≠ some k := fun e => by
    obtain ⟨cur, e2⟩ := h.lg.at_.was.block e
    rw [h.lk.at_.box] at e2
    simp [lgO] at e2
  have nh : vh.ownBlock ≠ some k := fun e => by
    obtain ⟨cur, e2⟩ := h.lg.at_.held.block e
    rw [h.lk.at_.box] at e2
    simp [lgO] at e2
  have hk : w'.heap[k]? = W.heap[k]? := h3.block k q1 h.n0 nw nh
  have hf : ∀ b, (Value.slice Ak s.fr.length ck).ownBlock = some b → w'.heap[b]? = W.heap[b]? := fun b e => by
    obtain ⟨cur, e2⟩ := fr_block h.lk.at_.fr e
    refine h3.block b (h.lk.at_.fr.lt e).2 (fun e3 => ?_) (fun e3 => ?_) (fun e3 => ?_)
    · rw [e3, h.lg.at_.box] at e2
      simp [lgO] at e2
    · obtain ⟨cur2, e4⟩ := h.lg.at_.was.block e3
      rw [e2] at e4
      simp at e4
    · obtain ⟨cur2, e4⟩ := h.lg.at_.held.block e3
      rw [e2] at e4
      simp at e4
  have hw : ∀ b, vwk.ownBlock = some b → w'.heap[b]? = W.heap[b]? := fun b e => by
    obtain ⟨cur, e2⟩ := h.lk.at_.was.block e
    refine h3.block b (q2 b e) (fun e3 => ?_) (fun e3 => (h.n1 b e3).1 e) (fun e3 => (h.n2 b e3).1 e)
    rw [e3, h.lg.at_.box] at e2
    simp [lgO] at e2
  have hh2 : ∀ b, vhk.ownBlock = some b → w'.heap[b]? = W.heap[b]? := fun b e => by
    obtain ⟨cur, e2⟩ := h.lk.at_.held.block e
    refine h3.block b (q3 b e) (fun e3 => ?_) (fun e3 => (h.n1 b e3).2 e) (fun e3 => (h.n2 b e3).2 e)
    rw [e3, h.lg.at_.box] at e2
    simp [lgO] at e2
  have hb2 := Mv.below h.lg.below h3 h.lg.far h.lg.farw h.lg.farh hs
  refine ⟨g2, h1, Ak, ck, vwk, vhk, A2, c2, v1, v2, ⟨h.lk.at_.keep hk hf hw hh2, hb2, h.lk.far, h.lk.farw, h.lk.farh⟩, h.x.moved h.lg.at_ h3, (h3.block gx (lt_of_block h.box) m1 m2 m3).trans h.box, ⟨h2, hb2, ?_, fun b e => ?_, fun b e => ?_⟩, ?_, fun b e => ?_, fun b e => ?_⟩
  · rcases h4 with rfl | h4
    · exact h.lg.far
    · omega
  · rcases h5 b e with e2 | e2
    · exact h.lg.farw b e2
    · omega
  · rcases h6 b e with e2 | e2
    · exact h.lg.farh b e2
    · omega
  · rcases h4 with rfl | h4
    · exact h.n0
    · omega
  · rcases h5 b e with e2 | e2
    · exact h.n1 b e2
    · exact ⟨fun e3 => by have := q2 b e3; omega, fun e3 => by have := q3 b e3; omega⟩
  · rcases h6 b e with e2 | e2
    · exact h.n2 b e2
    · exact ⟨fun e3 => by have := q2 b e3; omega, fun e3 => by have := q3 b e3; omega⟩
theorem ApX.c_same (h : ApX w0 gx k s A0 i c0 m d g s2 W) (hi : Inv2 j l s d) (hj : j ≤ 100) (hI : In w0 A0 c0 l) (hl : i = l.length) :
    Calls Try.prog 11 #[.pointer (some ⟨k, 0, none⟩), rgV m] W fun e w' => e = .returned (.bool true) ∧ Below w0.heap.size w0 w' := by
  obtain ⟨Ak, ck, vwk, vhk, A, c, vw, vh, h⟩ := h
  exact (same_any h.lk.at_ h.x (hI.next h.lk.below) hl hi.one (hi.fitS hj) (hi.fits hj)).mono fun e w' hh => ⟨hh.1, h.lk.below.trans (hh.2.mono h.lk.below.size)⟩
theorem ApX.box (h : ApX w0 gx k s A0 i c0 m d g s2 W) : W.heap[gx]? = some (rgO m) := by
  obtain ⟨Ak, ck, vwk, vhk, A, c, vw, vh, h⟩ := h
  exact h.box
end
end Go.Proofs.Ytlkcpplpjjbiaaa.reg
