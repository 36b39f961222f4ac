/-
  The statements' own variable beside the program's region: the document's region in a box of its own. No condition.
-/
import Derived.Test.YtlkcpplpjjbiaaaReLives
import Derived.Test.YtlkcpplpjjbiaaaReFr
import Derived.LoopTactic
import Derived.Deep.DeepCutAuto
import Derived.Deep.RegionHeld3
import Derived.BigQuiet
namespace Go.Proofs.Ytlkcpplpjjbiaaa.reg
open Go.RowKit Go.ChangeShapes
open Go.Proofs.Ytlkcpplpjjbiaaa.frames (Fr In GoodN FrsPost)
open Go.Proofs.Ytlkcpplpjjbiaaa.ro (De GAt zero)
open Go.Proofs.Ytlkcpplpjjbiaaa.obj
open Go.Proofs.Ytlkcpplpjjbiaaa.reg.fri (FrIn GoodP good_any)
set_option linter.unusedVariables false
set_option linter.unusedSimpArgs false

/-- Both sides, and the box in which the document's region lies. -/
structure Bz (w0 : World) (gx g : Nat) (s : St) (A0 : Option Addr) (i c0 : Nat) (m : Rg) (d : Ds) (mx : Rg) (W : World) : Prop where
  two : Two w0 g s A0 i c0 m d W
  box : W.heap[gx]? = some (rgO mx)
  ge : w0.heap.size ≤ gx
section
variable {w0 W W' : World} {gx g : Nat} {s : St} {A0 : Option Addr} {i c0 : Nat} {m mx : Rg} {d : Ds} {j : Nat} {l : List Fr}
theorem Bz.next (h : Bz w0 gx g s A0 i c0 m d mx W) (hb : Below W.heap.size W W') : Bz w0 gx g s A0 i c0 m d mx W' := ⟨h.two.next hb, (hb.block gx (lt_of_block h.box)).trans h.box, h.ge⟩
theorem AtG.neX {g c : Nat} {A : Option Addr} {vw vh : Value} {s : St} (h : AtG W g A c vw vh s) {gx : Nat} (hx : W.heap[gx]? = some (rgO mx)) : gx ≠ g ∧ vw.ownBlock ≠ some gx ∧ vh.ownBlock ≠ some gx ∧ (Value.slice A s.fr.length c).ownBlock ≠ some gx := by
  refine ⟨?_, fun e => ?_, fun e => ?_, fun e => ?_⟩
  · rintro rfl
    rw [h.box] at hx
    simp [lgO, rgO] at hx
  · obtain ⟨cur, e2⟩ := h.was.block e
    rw [hx] at e2
    simp [rgO] at e2
  · obtain ⟨cur, e2⟩ := h.held.block e
    rw [hx] at e2
    simp [rgO] at e2
  · obtain ⟨cur, e2⟩ := fr_block h.fr e
    rw [hx] at e2
    simp [rgO] at e2
theorem Bz.c_do (h : Bz w0 gx g s A0 i c0 m d mx W) (hi : Inv2 j l s d) (hj : j ≤ 100) (k o n : Int) (hn : -1099511627776 ≤ n ∧ n ≤ 1099511627776) :
    Calls Try.prog 12 #[.pointer (some ⟨g, 0, none⟩), .agg #[.int .i64 k, .int .i64 o, .int .i64 n]] W fun e w' => ∃ g2, e = .returned (.pointer (some ⟨g2, 0, none⟩)) ∧ Bz w0 gx g2 (s.op k o n) A0 i c0 m d mx w' := by
  obtain ⟨A, c, vw, vh, hl⟩ := h.two.ls
  refine (do_any hl.at_ (hi.fitS hj) k o n (by omega)).mono fun e w' hh => ?_
  obtain ⟨g2, h1, h2⟩ := hl.does hh
  obtain ⟨_, _, _, _, _, _, _, h3, _⟩ := hh
  obtain ⟨n1, n2, n3, _⟩ := hl.at_.neX h.box
  exact ⟨g2, h1, ⟨h2, h.two.x.moved hl.at_ h3⟩, (h3.block gx (lt_of_block h.box) n1 n2 n3).trans h.box, h.ge⟩
theorem Bz.c_rdo (h : Bz w0 gx g s A0 i c0 m d mx W) (hi : Fits d) (k o n : Int) (hn : -1099511627776 ≤ n ∧ n ≤ 1099511627776) :
    Calls Try.prog 13 #[rgV m, .agg #[.int .i64 k, .int .i64 o, .int .i64 n]] W fun e w' => ∃ m2, e = .returned (rgV m2) ∧ Bz w0 gx g s A0 i c0 m2 (d.op k o n) mx w' :=
  (refDo_any A0 i c0 m d k o n W h.two.x hi (by omega)).mono fun e w' hh => by
    obtain ⟨m2, h1, h2, h3⟩ := hh
    exact ⟨m2, h1, ⟨h.two.ls.next h3, h2⟩, (h3.block gx (lt_of_block h.box)).trans h.box, h.ge⟩
theorem Bz.c_same (h : Bz w0 gx g s A0 i c0 m d mx W) (hi : Inv2 j l s d) (hj : j ≤ 100) (hI : In w0 A0 c0 l) (hl : i = l.length) :
    Calls Try.prog 11 #[.pointer (some ⟨g, 0, none⟩), rgV m] W fun e w' => e = .returned (.bool true) ∧ Bz w0 gx g s A0 i c0 m d mx w' := by
  obtain ⟨A, c, vw, vh, hz⟩ := h.two.ls
  exact (same_any hz.at_ h.two.x (hI.next hz.below) hl hi.one (hi.fitS hj) (hi.fits hj)).mono fun e w' hh => ⟨hh.1, h.next hh.2⟩
theorem Bz.store (h : Bz w0 gx g s A0 i c0 m d mx W) : Bz w0 gx g s A0 i c0 m d m (W.setRow gx (rgC m).toArray) := by
  obtain ⟨A, c, vw, vh, hz⟩ := h.two.ls
  obtain ⟨n1, n2, n3, n4⟩ := hz.at_.neX h.box
  have hoth : ∀ b, b ≠ gx → (W.setRow gx (rgC m).toArray).heap[b]? = W.heap[b]? := fun b hb => setRow_other W gx b _ hb
  refine ⟨⟨⟨A, c, vw, vh, hz.at_.keep (hoth g (fun e => n1 e.symm)) (fun b e => hoth b fun e2 => by subst e2; exact n4 e) (fun b e => hoth b fun e2 => by subst e2; exact n2 e) (fun b e => hoth b fun e2 => by subst e2; exact n3 e), row_below hz.below h.ge _, hz.far, hz.farw, hz.farh⟩, h.two.x.setR h.box _⟩, rg_turned h.box m, h.ge⟩
end
section
variable {ops : Array Oper} {S : World → Prop} {o : Oper} {a : Act} {w : World} {K : Act → World → Prop} {Q : Exit → Act → World → Prop} {E : Prop}
theorem srg_load (hgd : o.guard = none) (x : Operand) (ho : o.op = .load 31 x) (g : Nat) (hx : a.eval x = .pointer (some ⟨g, 0, none⟩)) (m : Rg) (hf : w.heap[g]? = some (rgO m))
    (h : K (a.put o.dst (rgV m)) w) : if Region.wanted o (yielded ops a.tmps) = true then Oper.wp Try.prog o a w K Q else E := by
  have hw : Region.wanted o (yielded ops a.tmps) = true := by simp [Region.wanted, hgd]
  rw [if_pos hw]
  exact wp_load_mid _ x ho g 0 hx (rgC m) _ (rg_range hf) Try.underlying31 rfl (rg_size rfl) h
theorem yields_idx (hg : o.guard = none) (y z : Operand) (ho : o.op = .indexAddr 23 y z) (b i n c j : Nat) (hx : a.eval y = .slice (some ⟨b, i, none⟩) n c) (hz : a.eval z = .int .i64 (j : Int)) (k0 : (0 : Int) ≤ (j : Int)) (k1 : (j : Int) < (n : Int)) : YieldsIf Try.prog ops S o (.pointer (some ⟨b, i + j * 3, none⟩)) a :=
  .inl ⟨by simp [Region.wanted, hg], fun w' _ => by
    unfold execOp
    simp only [ho, hx, hz]
    go_simp⟩
theorem sizeOp {n : Nat} (h : n = 3) : (Try.prog.info? 36).map (·.size) = some n := by
  subst h
  kernel_rfl
theorem yields_op (hw : o.guard = none) (x : Operand) (ho : o.op = .load 36 x) (b i : Nat) (hx : a.eval x = .pointer (some ⟨b, i, none⟩)) (k t n : Int) (hS : ∀ w, S w → w.cell? ⟨b, i, none⟩ = some (.int .i64 k) ∧ w.cell? ⟨b, i + 1, none⟩ = some (.int .i64 t) ∧ w.cell? ⟨b, i + 2, none⟩ = some (.int .i64 n)) : YieldsIf Try.prog ops S o (.agg #[.int .i64 k, .int .i64 t, .int .i64 n]) a :=
  yieldsIf_load_mid (by simp [Region.wanted, hw]) _ x ho b i hx [.int .i64 k, .int .i64 t, .int .i64 n] _ (fun w h j v hv => by
    obtain ⟨h0, h1, h2⟩ := hS w h
    match j, hv with
    | 0, hv => obtain rfl := Option.some.inj hv; exact h0
    | 1, hv => obtain rfl := Option.some.inj hv; exact h1
    | 2, hv => obtain rfl := Option.some.inj hv; exact h2) Try.underlying36 rfl (sizeOp rfl)
end
end Go.Proofs.Ytlkcpplpjjbiaaa.reg
