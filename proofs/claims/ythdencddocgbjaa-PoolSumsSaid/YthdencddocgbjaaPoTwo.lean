/-
  The program's pool, and the document's units in their box, while calls are made. No condition. Printed by tools/mkpoplays.py.
-/
import Derived.Test.YthdencddocgbjaaPoSpec
import Derived.LoopTactic
import Derived.Deep.DeepCutAuto
namespace Go.Proofs.Ythdencddocgbjaa.pol
open Go.RowKit Go.ChangeShapes
open Go.Proofs.Ythdencddocgbjaa.obj
set_option linter.unusedVariables false
set_option linter.unusedSimpArgs false

/-- The document's units as a value are m. -/
def Rof (r : Rx) (m : Px) : Prop := r = ⟨m.total, r.A, (shares m.h).length, r.c⟩
theorem Rof.n {r : Rx} {m : Px} (h : Rof r m) : r.n = (shares m.h).length := by rw [h]
theorem Rof.t {r : Rx} {m : Px} (h : Rof r m) : r.t = m.total := by rw [h]
/-- What holds while calls are made: the program's pool, the document's units in their box. -/
structure Bz (At : World → Nat → Px → Prop) (w : World) (g gx : Nat) (m : Px) (r : Rx) (W : World) : Prop where
  hs : Hs At w g m W
  x : W.heap[gx]? = some (rxO r)
  far : w.heap.size ≤ gx
  lt : g < gx
section
variable {At : World → Nat → Px → Prop} {w W W' : World} {g gx : Nat} {m m2 : Px} {r : Rx}
theorem Bz.next (K : Keeps At) (h : Bz At w g gx m r W) (hb : Below W.heap.size W W') : Bz At w g gx m r W' :=
  ⟨hs_next K h.hs hb, (hb.block _ (lt_of_block h.x)).trans h.x, h.far, h.lt⟩
theorem Bz.row (K : Keeps At) (h : Bz At w g gx m r W) {k : Nat} (hk : w.heap.size ≤ k) (hg : k ≠ g) (hx : k ≠ gx) (rs : Array Value) : Bz At w g gx m r (W.setRow k rs) :=
  ⟨⟨row_below h.hs.1 hk rs, h.hs.2.1, K.loc _ _ _ _ h.hs.2.2 (row_far rs (fun e => hg e.symm)) (row_size _ _ _)⟩, (row_far rs (Ne.symm hx)).trans h.x, h.far, h.lt⟩
theorem Bz.box (K : Keeps At) (h : Bz At w g gx m r W) (r2 : Rx) : Bz At w g gx m r2 (W.setRow gx (rxC r2).toArray) :=
  ⟨⟨row_below h.hs.1 h.far _, h.hs.2.1, K.loc _ _ _ _ h.hs.2.2 (row_far _ (by have := h.lt; omega)) (row_size _ _ _)⟩, rx_turned h.x r2, h.far, h.lt⟩
theorem Bz.only {m' : Px} (h : Bz At w g gx m r W) (ho : Only g W W') (ha : At W' g m') : Bz At w g gx m' r W' :=
  ⟨hs_only h.hs ho ha, (ho.block gx (lt_of_block h.x) (by have := h.lt; omega)).trans h.x, h.far, h.lt⟩
theorem bz_new (K : Keeps At) (h : Hs At w g m W) (r : Rx) : Bz At w g W.heap.size m r ((W.alloc (rxO rxZ)).setRow W.heap.size (rxC r).toArray) := by
  have hl := K.lt _ _ _ h.2.2
  have h2 := hs_next K h ((Below.refl _ W).alloc (Nat.le_refl _) (rxO rxZ))
  exact ⟨⟨row_below h2.1 h.1.size _, h2.2.1, K.loc _ _ _ _ h2.2.2 (row_far _ (by omega)) (row_size _ _ _)⟩, rx_turned (heap_alloc_new W (rxO rxZ)) r, h.1.size, hl⟩
/-- The same, and where the document's shares lie. -/
def Cz (At : World → Nat → Px → Prop) (w : World) (g gx : Nat) (m m2 : Px) (r : Rx) (W : World) : Prop := Bz At w g gx m r W ∧ SAt W (fun b => gx < b) r.A (shares m2.h)
theorem Cz.next (K : Keeps At) (h : Cz At w g gx m m2 r W) (hb : Below W.heap.size W W') : Cz At w g gx m m2 r W' := ⟨h.1.next K hb, h.2.next hb⟩
theorem Cz.only {m' : Px} (h : Cz At w g gx m m2 r W) (ho : Only g W W') (ha : At W' g m') : Cz At w g gx m' m2 r W' :=
  ⟨h.1.only ho ha, h.2.only ho (fun b hb => by have := h.1.lt; omega)⟩
end
/-- The document's Do, whatever its units lie in. -/
theorem rd_any {m : Px} {r : Rx} (hf : Fine m) (hr : Rof r m) (k t n : Int) (W : World) (B : Nat → Prop) (hs : SAt W B r.A (shares m.h)) (hB : ∀ b, W.heap.size ≤ b → B b) :
    Calls Try.prog 10 #[rxV r, .agg #[.int .i64 k, .int .i64 t, .int .i64 n]] W fun e w' => ∃ r2, e = .returned (.tuple #[rxV r2, .int .i64 (doP m k t n).2]) ∧ Rof r2 (doP m k t n).1 ∧ SAt w' B r2.A (shares (doP m k t n).1.h) ∧ Below W.heap.size W w' := by
  have h := refDo20_any m r.A r.c k t n W B hf hs hB
  have e : rxV ⟨m.total, r.A, (shares m.h).length, r.c⟩ = rxV r := congrArg rxV hr.symm
  rw [e] at h
  exact h.mono fun _ _ h => by
    obtain ⟨A, c, h1, h2, h3⟩ := h
    exact ⟨⟨(doP m k t n).1.total, A, (shares (doP m k t n).1.h).length, c⟩, h1, rfl, h2, h3⟩
theorem rfree_any {m : Px} {r : Rx} (hf : Fine m) (hr : Rof r m) (W : World) (B : Nat → Prop) (hs : SAt W B r.A (shares m.h)) :
    Calls Try.prog 15 #[rxV r] W fun e w' => e = .returned (.int .i64 (freeP m)) ∧ Below W.heap.size W w' := by
  have h := refFree20_any m.total r.A r.c (shares m.h) W B hs (Nat.le_trans (shares_small _) (by omega)) (fun k hk => free_in hf k hk)
  have e : rxV ⟨m.total, r.A, (shares m.h).length, r.c⟩ = rxV r := congrArg rxV hr.symm
  rw [e, shares_all hf] at h
  exact h
theorem rheld_any {m : Px} {r : Rx} (hf : Fine m) (hr : Rof r m) (t : Int) (W : World) (B : Nat → Prop) (hs : SAt W B r.A (shares m.h)) :
    Calls Try.prog 17 #[rxV r, .int .i64 t] W fun e w' => e = .returned (.int .i64 (hv m.h t)) ∧ Below W.heap.size W w' := by
  have h := refHeld20_any m.total r.A r.c (shares m.h) t W B hs (Nat.le_trans (shares_small _) (by omega))
  have e : rxV ⟨m.total, r.A, (shares m.h).length, r.c⟩ = rxV r := congrArg rxV hr.symm
  rw [e, heldL_shares hf] at h
  exact h
theorem rsame_any {m : Px} {r : Rx} (hr : Rof r m) (A3 : Option Addr) (c3 : Nat) (W : World) (B B2 : Nat → Prop) (h3 : SAt W B2 A3 (shares m.h)) (hs : SAt W B r.A (shares m.h)) :
    Calls Try.prog 12 #[.slice A3 (shares m.h).length c3, .slice r.A r.n r.c] W fun e w' => e = .returned (.bool true) ∧ Below W.heap.size W w' := by
  rw [hr.n]
  exact same_any A3 r.A c3 r.c (shares m.h) (Nat.le_trans (shares_small _) (by omega)) W B2 B h3 hs
section
variable {ops : Array Oper} {S : World → Prop} {o : Oper} {a : Act}
theorem yields_idx (hg : o.guard = none) (y z : Operand) (ho : o.op = .indexAddr 22 y z) (b i n c j : Nat) (hx : a.eval y = .slice (some ⟨b, i, none⟩) n c) (hz : a.eval z = .int .i64 (j : Int)) (k0 : (0 : Int) ≤ (j : Int)) (k1 : (j : Int) < (n : Int)) : YieldsIf Try.prog ops S o (.pointer (some ⟨b, i + j * 3, none⟩)) a :=
  .inl ⟨by simp [Region.wanted, hg], fun w' _ => by
    unfold execOp
    simp only [ho, hx, hz]
    go_simp⟩
theorem sizeOp {n : Nat} (h : n = 3) : (Try.prog.info? 33).map (·.size) = some n := by
  subst h
  kernel_rfl
theorem yields_op (hw : o.guard = none) (x : Operand) (ho : o.op = .load 33 x) (b i : Nat) (hx : a.eval x = .pointer (some ⟨b, i, none⟩)) (k t n : Int) (hS : ∀ w, S w → w.cell? ⟨b, i, none⟩ = some (.int .i64 k) ∧ w.cell? ⟨b, i + 1, none⟩ = some (.int .i64 t) ∧ w.cell? ⟨b, i + 2, none⟩ = some (.int .i64 n)) : YieldsIf Try.prog ops S o (.agg #[.int .i64 k, .int .i64 t, .int .i64 n]) a :=
  yieldsIf_load_mid (by simp [Region.wanted, hw]) _ x ho b i hx [.int .i64 k, .int .i64 t, .int .i64 n] _ (fun w h j v hv => by
    obtain ⟨h0, h1, h2⟩ := hS w h
    match j, hv with
    | 0, hv => obtain rfl := Option.some.inj hv; exact h0
    | 1, hv => obtain rfl := Option.some.inj hv; exact h1
    | 2, hv => obtain rfl := Option.some.inj hv; exact h2) Try.underlying33 rfl (sizeOp rfl)
end
end Go.Proofs.Ythdencddocgbjaa.pol
