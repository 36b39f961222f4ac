/-
  The document's own frames with another top value, with a call, behind a return, and behind any call. At most a thousand frames, each of twenty-seven numbers.
-/
import Derived.Test.YtlkcpplpjjbiaaaFRefPop
import Derived.Test.YtlkcpplpjjbiaaaFRefNew
import Derived.Deep.RegionWith
namespace Go.Proofs.Ytlkcpplpjjbiaaa.frames
open Go.RowKit Go.ChangeShapes
open Go.Proofs.Ytlkcpplpjjbiaaa.nums (NAt)
set_option linter.unusedVariables false
set_option linter.unusedSimpArgs false

theorem in_nil (w : World) : In w none 0 [] := ⟨FsAt.nil _ _, Nat.zero_le _, Nat.zero_le _, (by intro f hf; cases hf), fun _ => ⟨rfl, rfl⟩⟩
theorem pushed_len {f : Fr} (h : f.length = 27) (v : Int) : (pushed f v).length = 27 := by unfold pushed; rw [List.length_set, List.length_set]; exact h
theorem In.take {w : World} {A : Option Addr} {c : Nat} {l : List Fr} (h : In w A c l) (n : Nat) (hn : n ≤ l.length) : In w A c (l.take n) :=
  ⟨h.at'.take n, by rw [List.length_take]; have := h.cap; omega, by rw [List.length_take]; have := h.len; omega, fun f hf => h.all f (mem_take_any hf), fun e => by
    obtain ⟨h1, h2⟩ := h.nil e
    subst h1
    exact ⟨List.take_nil, h2⟩⟩

set_option maxRecDepth 100000 in
set_option maxHeartbeats 4000000 in
theorem refTurn_any (A : Option Addr) (c : Nat) (l : List Fr) (v : Int) (w : World) (hI : In w A c l) :
    Calls Try.prog 40 #[.slice A l.length c, .int .i64 v] w (FrsPost (turnF l v) w) := by
  have HP := Lib.hid (refPop_any A c l 1 w hI)
  have HI := Lib.hid hI
  unfold PopPost at HP
  obtain ⟨r, hr⟩ : ∃ r, r = turnF l v := ⟨_, rfl⟩
  rw [← hr]
  unfold turnF at hr
  unfold FrsPost
  cases hp : popF l 1 with
  | none =>
    rw [hp] at hr HP
    dsimp only at hr HP
    rw [hr]
    clear hr hp hI
    go_enter Try.func40, Try.ntmps40
    go_wp2_with fail
    refine HP.out.mono ?_
    rintro _ w1 ⟨hb1, rfl⟩
    have HB1 := Lib.hid hb1
    have HI1 := Lib.hid (HI.out.next hb1)
    clear hb1
    go_wp2
    go_ret
    exact ⟨A, c, rfl, HI1.out, HB1.out⟩
  | some xa =>
    obtain ⟨x, a⟩ := xa
    rw [hp] at hr HP
    dsimp only at hr HP
    clear hp hI
    go_enter Try.func40, Try.ntmps40
    go_wp2_with fail
    refine HP.out.mono ?_
    rintro _ w1 ⟨hb1, A1, c1, B1, d1, rfl, hI1, hN1, hO1⟩
    have HB1 := Lib.hid hb1
    have HQ := Lib.hid (refPush_any A1 c1 x v w1 hI1)
    unfold ListPost at HQ
    clear hb1 hI1 hN1 hO1
    cases hq : pushF x v with
    | none =>
      rw [hq] at hr HQ
      dsimp only at hr HQ
      obtain rfl : r = [] := hr
      clear hq
      go_wp2_with fail
      refine HQ.out.mono ?_
      rintro _ w2 ⟨hb2, rfl⟩
      have HB2 := Lib.hid (HB1.out.trans (hb2.mono HB1.out.size))
      clear hb2
      go_wp2
      go_ret
      exact ⟨none, 0, rfl, in_nil _, HB2.out⟩
    | some y =>
      rw [hq] at hr HQ
      dsimp only at hr HQ
      obtain rfl : r = y := hr
      clear hq
      go_wp2_with fail
      refine HQ.out.mono ?_
      rintro _ w2 ⟨hb2, A2, c2, rfl, hI2⟩
      have HB2 := Lib.hid (HB1.out.trans (hb2.mono HB1.out.size))
      have HI2 := Lib.hid hI2
      clear hb2 hI2
      go_wp2
      go_ret
      exact ⟨A2, c2, rfl, HI2.out, HB2.out⟩

end Go.Proofs.Ytlkcpplpjjbiaaa.frames
