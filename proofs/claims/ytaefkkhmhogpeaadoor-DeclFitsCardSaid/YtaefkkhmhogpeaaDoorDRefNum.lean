/-
  The document's own answer of a number that is read, great ones alike. A text of at most two to the forty-seventh bytes.
-/
import Derived.Test.YtaefkkhmhogpeaaDoorDMem
import Derived.Test.YtaefkkhmhogpeaaDoorRefPlain
import Derived.RegionTactic
import Derived.BigRegion
namespace Go.Proofs.YtaefkkhmhogpeaaDoor.objs
open Go.RowKit Go.ChangeShapes
open Go.Proofs.YtaefkkhmhogpeaaDoor.octet (St rdByte rdNum rdInt Stands RefAt refByte_plain refInt_plain refNum_plain rdNum_lt)
set_option linter.unusedVariables false

/-- Three cells of a block, set one behind the other. -/
abbrev put3 (W : World) (b : Nat) (x y z : Value) : World := ((W.setCell ⟨b, 0, none⟩ x).setCell ⟨b, 1, none⟩ y).setCell ⟨b, 2, none⟩ z
theorem put3_same {W : World} {b : Nat} {u v m : Value} {T : TypeId} (h : W.heap[b]? = some (.cells #[u, v, m] T (0, 0))) (x y z : Value) : (put3 W b x y z).heap[b]? = some (.cells #[x, y, z] T (0, 0)) := by
  simp [World.setCell, Array.getElem?_modify, h]
theorem cells3 {W : World} {b : Nat} {x y z : Value} {T : TypeId} (h : W.heap[b]? = some (.cells #[x, y, z] T (0, 0))) :
    W.cell? ⟨b, 0, none⟩ = some x ∧ W.cell? ⟨b, 1, none⟩ = some y ∧ W.cell? ⟨b, 2, none⟩ = some z ∧ W.frozen? ⟨b, 0, none⟩ = false ∧ W.frozen? ⟨b, 1, none⟩ = false ∧ W.frozen? ⟨b, 2, none⟩ = false := by
  simp [World.cell?, World.frozen?, h]
theorem put3_far {W : World} {b c : Nat} (h : c ≠ b) (x y z : Value) : (put3 W b x y z).heap[c]? = W.heap[c]? :=
  (Below.heap_setCell _ ⟨b, 2, none⟩ _ c h).trans ((Below.heap_setCell _ ⟨b, 1, none⟩ _ c h).trans (Below.heap_setCell _ ⟨b, 0, none⟩ _ c h))
theorem put3_below {B b : Nat} {a W : World} (h : Below B a W) (hb : B ≤ b) (x y z : Value) : Below B a (put3 W b x y z) :=
  ((h.setCell (p := ⟨b, 0, none⟩) hb _).setCell (p := ⟨b, 1, none⟩) hb _).setCell (p := ⟨b, 2, none⟩) hb _

/-- A reader of the document's, in a block. -/
def RBox (t : ByteArray) (k err : Nat) : Obj := .cells #[.string t, .int .i64 (k : Int), .int .i64 (err : Int)] 76
def RNil : Obj := .cells #[.string ⟨#[]⟩, .int .i64 0, .int .i64 0] 76
def NumPost (t : ByteArray) (s : St) (w : World) (e : Ending) (w' : World) : Prop :=
  ∃ k1 : Nat, e = .returned (.tuple #[.int .i64 (rdN s).1, .agg #[.string t, .int .i64 (k1 : Int), .int .i64 ((rdN s).2.err : Int)]]) ∧ Stands t k1 (rdN s).2.err (rdN s).2 ∧ Below w.heap.size w w'
theorem num_ret {w Z : World} {t : ByteArray} {s : St} {k1 : Nat} {act : Act} (h2 : act.tmps[2]?.getD undef = .int .i64 (rdN s).1) (h3 : act.tmps[3]?.getD undef = .pointer (some ⟨w.heap.size + 1, 0, none⟩)) (hd : act.defers = [])
    (hE : Z.heap[w.heap.size + 1]? = some (.cells #[.string t, .int .i64 (k1 : Int), .int .i64 ((rdN s).2.err : Int)] 76 (0, 0))) (hS : Stands t k1 (rdN s).2.err (rdN s).2) (hb : Below w.heap.size w Z) : bodyPost Tryd.prog Tryd.f71 (NumPost t s w) .ret act Z := by
  obtain ⟨x0, x1, x2, _, _, _⟩ := cells3 hE
  refine bodyPost_ret (v := .tuple #[.int .i64 (rdN s).1, .agg #[.string t, .int .i64 (k1 : Int), .int .i64 ((rdN s).2.err : Int)]]) ?_ hd ⟨k1, rfl, hS, hb⟩
  simp [results, Tryd.results71, go_sem, h2, h3, x0, x1, x2]

set_option maxRecDepth 100000 in
set_option maxHeartbeats 2000000 in
theorem refNum8_any (w : World) (t : ByteArray) (k err : Nat) (s : St) (ht : t.size ≤ 140737488355328) (hst : Stands t k err s) :
    Calls Tryd.prog 71 #[.agg #[.string t, .int .i64 (k : Int), .int .i64 (err : Int)]] w (NumPost t s w) := by
  have HN := fun W => Lib.hid (refNum_plain W t k err s ht hst)
  have hlt := rdNum_lt s
  have HR1 : Hid ((rdN s).1 = ((min (rdNum s).1 2147483648 : Nat) : Int)) := Lib.hid rfl
  have HR2 : Hid ((rdN s).2 = (rdNum s).2) := Lib.hid rfl
  clear hst
  generalize rdNum s = p at *
  obtain ⟨v, S⟩ := p
  dsimp only at HN hlt HR1 HR2
  go_enter Tryd.func71, Tryd.ntmps71
  have hz : ((w.alloc (RBox t k err)).alloc RNil).heap.size = w.heap.size + 1 + 1 := by rw [World.size_alloc, World.size_alloc]
  have hb0 : Below w.heap.size w ((w.alloc (RBox t k err)).alloc RNil) := ((Below.refl _ w).alloc (Nat.le_refl _) _).alloc (by simp) _
  have hi0 : ((w.alloc (RBox t k err)).alloc RNil).heap[w.heap.size + 1]? = some RNil := by rw [← World.size_alloc w (RBox t k err)]; exact heap_alloc_new _ _
  unfold RBox RNil at hz hb0 hi0
  go_wp2_with fail
  refine (HN _).out.mono ?_
  rintro e w1 ⟨k1, rfl, hS, hb⟩
  have hs1 := hb.size
  have HS := Lib.hid hS
  have hb1 := hb0.trans (hb.mono (by omega))
  have hi1 := (hb.block (w.heap.size + 1) (by omega)).trans hi0
  have hb2 : Below w1.heap.size w1 (w1.alloc (.cells #[.string t, .int .i64 (k1 : Int), .int .i64 (S.err : Int)] 76)) := (Below.refl _ _).alloc (Nat.le_refl _) _
  have hR4 : (w1.alloc (.cells #[.string t, .int .i64 (k1 : Int), .int .i64 (S.err : Int)] 76)).heap[w1.heap.size]? = some (.cells #[.string t, .int .i64 (k1 : Int), .int .i64 (S.err : Int)] 76 (0, 0)) := heap_alloc_new w1 _
  have HB2 := Lib.hid (hb1.trans (hb2.mono (by omega)))
  have HI2 := Lib.hid ((hb2.block (w.heap.size + 1) (by omega)).trans hi1)
  have n1 : w1.heap.size ≠ w.heap.size + 1 := by omega
  have n2 : w.heap.size + 1 ≠ w1.heap.size := by omega
  obtain ⟨z0, z1, z2, _, _, _⟩ := cells3 hR4
  obtain ⟨x0, x1, x2, xf0, xf1, xf2⟩ := cells3 HI2.out
  clear hS hb hb0 hb1 hb2 hi0 hi1 hR4 hz hs1 HN
  go_upto_region 2 with fail
  generalize w1.alloc (.cells #[.string t, .int .i64 (k1 : Int), .int .i64 (S.err : Int)] 76) = W2 at *
  generalize w1.heap.size = b1 at *
  go_region
  go_wp2_with fail
  refine num_ret ?_ (by rfl) rfl (by rw [HR2.out]; exact put3_same HI2.out _ _ _) (by rw [HR2.out]; exact HS.out) (Below.drew (put3_below HB2.out (by omega) _ _ _))
  rw [HR1.out]
  show Value.int .i64 (min (v : Int) 2147483648) = _
  congr 1
  omega
end Go.Proofs.YtaefkkhmhogpeaaDoor.objs
