/-
  What holds while calls are made, and the common end of the statements on rights: they are handed on. The table by which the least of a set is found must lie where its initialiser lays it.
-/
import Derived.Test.YtjedinodopcdaaaDoorRiSpec
namespace Go.Proofs.YtjedinodopcdaaaDoor.rig
open Go.RowKit Go.ChangeShapes
open Go.Proofs.YtjedinodopcdaaaDoor.obj
open Go.Proofs.YtjedinodopcdaaaDoor.bits (Is64 hasB minus)
open Go.Proofs.YtjedinodopcdaaaDoor.bits.one (Okt okt_mono)
set_option linter.unusedVariables false
set_option linter.unusedSimpArgs false

/-- Below w nothing has turned, and the rights lie there. -/
def Ls (w : World) (g : Nat) (l : List Nat) (W : World) : Prop := Below w.heap.size w W ∧ w.heap.size ≤ g ∧ ∃ B : Option Nat, (∀ b, B = some b → w.heap.size ≤ b) ∧ AtM W g B l
section
variable {w W W' : World} {g : Nat} {l l' : List Nat}
theorem Ls.next (h : Ls w g l W) (hb : Below W.heap.size W W') : Ls w g l W' := by
  obtain ⟨h1, h2, B, h3, h4⟩ := h
  exact ⟨h1.trans (hb.mono h1.size), h2, B, h3, h4.next hb⟩
theorem Ls.ok (h : Ls w g l W) (hO : Okt w) : Okt W := okt_mono _ _ hO h.1
theorem Ls.fine (h : Ls w g l W) : Fine l := by
  obtain ⟨h1, h2, B, h3, h4⟩ := h
  exact h4.2.1
/-- What a move leaves of blocks that are no rights'. -/
def Kept (g : Nat) (W W' : World) : Prop := W.heap.size ≤ W'.heap.size ∧ ∀ k o, k ≠ g → W.heap[k]? = some o → (∀ es c, o ≠ .map es c) → W'.heap[k]? = some o
theorem Ls.moved (h : Ls w g l W) {F : Nat} {args : Array Value} (hc : ∀ B, AtM W g B l → Calls Tryd.prog F args W (Moved g B l' W)) :
    Calls Tryd.prog F args W fun e W' => e = .returned (.tuple #[]) ∧ Ls w g l' W' ∧ Kept g W W' := by
  obtain ⟨h1, h2, B, h3, h4⟩ := h
  refine (hc B h4).mono ?_
  rintro e W' ⟨rfl, B', h5, h6, h7⟩
  refine ⟨rfl, ⟨h6.below h1 h2 h3 h1.size, h2, B', fun b hb => ?_, h5⟩, h6.size, fun k o hk ho hm => ?_⟩
  · rcases h7 b hb with h | h
    · exact h3 b h
    · exact Nat.le_trans h1.size h
  · rw [h6.block k (lt_of_block ho) hk (fun e => ?_)]
    · exact ho
    · obtain ⟨es, c, hh⟩ := (h4.2.2.2 k e).isMap
      rw [ho] at hh
      exact hm es c (Option.some.inj hh)
theorem Ls.c_do (h : Ls w g l W) (k f t : Int) (m : Nat) (hf : I64 f) (ht : I64 t) (hm : Is64 m) (hO : Okt w) :
    Calls Tryd.prog 8 #[.pointer (some ⟨g, 0, none⟩), opV k f t m] W fun e W' => e = .returned (.tuple #[]) ∧ Ls w g (doR l k f t m) W' ∧ Kept g W W' :=
  h.moved fun B ha => do_any W g B l k f t m ha hf ht hm (h.ok hO)
theorem Ls.c_of (h : Ls w g l W) (t : Int) (ht : I64 t) : Calls Tryd.prog 11 #[.pointer (some ⟨g, 0, none⟩), .int .i64 t] W fun e w' => e = .returned (.int .u64 ((rv l t : Nat) : Int)) ∧ Below W.heap.size W w' := by
  obtain ⟨h1, h2, B, h3, h4⟩ := h
  exact of_any W g B l t h4 ht
theorem Ls.c_who (h : Ls w g l W) (o : Int) (ho : I64 o) : Calls Tryd.prog 13 #[.pointer (some ⟨g, 0, none⟩), .int .i64 o] W fun e w' => e = .returned (.int .u64 ((whoR l o : Nat) : Int)) ∧ Below W.heap.size W w' := by
  obtain ⟨h1, h2, B, h3, h4⟩ := h
  exact who_any W g B l o h4 ho
theorem Ls.c_has (h : Ls w g l W) (t o : Int) (ht : I64 t) (ho : I64 o) : Calls Tryd.prog 15 #[.pointer (some ⟨g, 0, none⟩), .int .i64 t, .int .i64 o] W fun e w' => e = .returned (.bool (hasB (rv l t) o)) ∧ Below W.heap.size W w' := by
  obtain ⟨h1, h2, B, h3, h4⟩ := h
  exact has_any W g B l t o h4 ht ho
theorem Ls.c_same (h : Ls w g l W) (k f t o : Int) (m : Nat) (hf : I64 f) (ht : I64 t) (ho : I64 o) :
    Calls Tryd.prog 10 #[.pointer (some ⟨g, 0, none⟩), rV l, opV k f t m, .int .i64 o] W fun e w' => e = .returned (.bool true) ∧ Below W.heap.size W w' := by
  obtain ⟨h1, h2, B, h3, h4⟩ := h
  exact same_any W g B l k f t o m h4 hf ht ho
end
theorem ls_new {w W : World} (hb : Below w.heap.size w W) : Ls w W.heap.size zerosR (W.alloc (riO none)) :=
  ⟨hb.alloc hb.size _, hb.size, none, (fun b e => by cases e), at_zero W⟩
def l1 : List Nat := setR zerosR 0 allR
def l2 : List Nat := setR l1 1 (rv l1 0 &&& 6)
set_option maxRecDepth 100000 in
set_option maxHeartbeats 4000000 in
theorem lives_any (w : World) (hO : Okt w) : Calls Tryd.prog 12 #[] w fun e w' => e = .returned (.bool true) ∧ Below w.heap.size w w' := by
  have i0 : I64 0 := by unfold I64; omega
  have i1 : I64 1 := by unfold I64; omega
  have i2 : I64 2 := by unfold I64; omega
  have i3 : I64 3 := by unfold I64; omega
  have H0 : Hid (Ls w w.heap.size zerosR (w.alloc (riO none))) := Lib.hid (ls_new (Below.refl _ w))
  have C1 : ∀ W, Ls w w.heap.size zerosR W → Hid (Calls Tryd.prog 17 #[.pointer (some ⟨w.heap.size, 0, none⟩), .int .i64 0] W fun e W' => e = .returned (.tuple #[]) ∧ Ls w w.heap.size l1 W' ∧ Kept w.heap.size W W') := fun W h => Lib.hid (h.moved fun B ha => root_any W _ B _ 0 ha i0 (h.ok hO))
  have C2 : ∀ W, Ls w w.heap.size l1 W → Hid (Calls Tryd.prog 18 #[.pointer (some ⟨w.heap.size, 0, none⟩), .int .i64 0, .int .i64 1, .int .u64 6] W fun e W' => e = .returned (.tuple #[]) ∧ Ls w w.heap.size l2 W' ∧ Kept w.heap.size W W') := fun W h => Lib.hid (h.moved fun B ha => child_any W _ B _ 0 1 6 ha i0 i1 (by unfold Is64; omega) (h.ok hO))
  have C3 : ∀ W, Ls w w.heap.size l2 W → Hid (Calls Tryd.prog 11 #[.pointer (some ⟨w.heap.size, 0, none⟩), .int .i64 1] W fun e w' => e = .returned (.int .u64 6) ∧ Below W.heap.size W w') := fun W h => Lib.hid (by
    have := h.c_of 1 i1
    rwa [show rv l2 1 = 6 by decide +kernel] at this)
  have C4 : ∀ W, Ls w w.heap.size l2 W → Hid (Calls Tryd.prog 13 #[.pointer (some ⟨w.heap.size, 0, none⟩), .int .i64 1] W fun e w' => e = .returned (.int .u64 3) ∧ Below W.heap.size W w') := fun W h => Lib.hid (by
    have := h.c_who 1 i1
    rwa [show whoR l2 1 = 3 by decide +kernel] at this)
  have C5 : ∀ W, Ls w w.heap.size l2 W → Hid (Calls Tryd.prog 15 #[.pointer (some ⟨w.heap.size, 0, none⟩), .int .i64 1, .int .i64 2] W fun e w' => e = .returned (.bool true) ∧ Below W.heap.size W w') := fun W h => Lib.hid (by
    have := h.c_has 1 2 i1 i2
    rwa [show hasB (rv l2 1) 2 = true by decide +kernel] at this)
  have C6 : ∀ W, Ls w w.heap.size l2 W → Hid (Calls Tryd.prog 15 #[.pointer (some ⟨w.heap.size, 0, none⟩), .int .i64 1, .int .i64 3] W fun e w' => e = .returned (.bool false) ∧ Below W.heap.size W w') := fun W h => Lib.hid (by
    have := h.c_has 1 3 i1 i3
    rwa [show hasB (rv l2 1) 3 = false by decide +kernel] at this)
  have CN := Lib.hid (new_any w)
  clear hO i0 i1 i2 i3
  generalize zerosR = l0 at *
  generalize l1 = r1 at *
  generalize l2 = r2 at *
  go_enter Tryd.func12, Tryd.ntmps12
  go_wp2_with fail
  refine CN.out.mono ?_
  rintro _ w0 ⟨rfl, rfl⟩
  clear CN
  have D := C1 _ H0.out
  generalize w.alloc (riO none) = w0 at *
  go_wp2_with fail
  refine D.out.mono ?_
  rintro _ w1 ⟨rfl, h, _⟩
  have H1 := Lib.hid h
  clear h D C1 H0
  have D := C2 _ H1.out
  go_wp2_with fail
  refine D.out.mono ?_
  rintro _ w2 ⟨rfl, h, _⟩
  have H2 := Lib.hid h
  clear h D C2 H1
  have D := C3 _ H2.out
  go_wp2_with fail
  refine D.out.mono ?_
  rintro _ w3 ⟨rfl, hb⟩
  have H3 := Lib.hid (H2.out.next hb)
  clear hb D C3 H2
  have D := C4 _ H3.out
  go_wp2_with fail
  refine D.out.mono ?_
  rintro _ w4 ⟨rfl, hb⟩
  have H4 := Lib.hid (H3.out.next hb)
  clear hb D C4 H3
  have D := C5 _ H4.out
  go_wp2_with fail
  refine D.out.mono ?_
  rintro _ w5 ⟨rfl, hb⟩
  have H5 := Lib.hid (H4.out.next hb)
  clear hb D C5 H4
  have D := C6 _ H5.out
  go_wp2_with fail
  refine D.out.mono ?_
  rintro _ w6 ⟨rfl, hb⟩
  have H6 := Lib.hid (H5.out.next hb)
  clear hb D C6 H5
  go_wp2
  go_ret
  exact ⟨rfl, H6.out.1⟩
end Go.Proofs.YtjedinodopcdaaaDoor.rig
