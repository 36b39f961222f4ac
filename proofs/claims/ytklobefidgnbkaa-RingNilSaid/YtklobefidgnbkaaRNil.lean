/-
  What is not there: the walk of RingNil. No condition.
-/
import Derived.Test.YtklobefidgnbkaaRLives
namespace Go.Proofs.Ytklobefidgnbkaa.ring
open Go.RowKit

set_option maxHeartbeats 2000000 in
set_option maxRecDepth 100000 in
theorem nil_walk (x : Int) (w : World) :
    Calls Try.prog 6 #[.int .i64 x] w fun e w' => e = .returned (.bool true) ∧ Below w.heap.size w w' := by
  have hz := new_at w 0 (by omega)
  have HB0 := Lib.hid ((Below.refl w.heap.size w).alloc (Nat.le_refl _) (.cells #[.slice none 0 0, .int .i64 0, .int .i64 0, .int .i64 ((0 : Nat) : Int)] 46))
  go_enter Try.func6, Try.ntmps6
  go_wp2_with (first
    | (go_at_call 18; refine (popBack_nil _).mono ?_; rintro e w' ⟨rfl, rfl⟩)
    | (go_at_call_of 16 (Value.pointer none); refine (popFront_nil _).mono ?_; rintro e w' ⟨rfl, rfl⟩)
    | (go_at_call 16; refine (popFront_none _ _ _ _ hz).mono ?_; rintro e w' ⟨rfl, rfl⟩)
    | (go_at_call 20; refine (at_nil _ _).mono ?_; rintro e w' ⟨rfl, rfl⟩))
  refine (back_nil _ _).mono ?_
  rintro e w' ⟨rfl, m1, rfl⟩
  go_wp2_with fail
  refine (front_nil _ _).mono ?_
  rintro e w' ⟨rfl, m2, rfl⟩
  go_wp2_with fail
  refine (back_full _ w.heap.size w.heap.size 0 [] _ ?_ (by decide)).mono ?_
  · exact hz.keep rfl rfl
  rintro e w' ⟨rfl, m3, rfl⟩
  go_wp2_with fail
  refine (front_full _ w.heap.size w.heap.size 0 [] _ ?_ (by decide)).mono ?_
  · exact hz.keep rfl rfl
  rintro e w' ⟨rfl, m4, rfl⟩
  go_wp2_with fail
  refine (len_nil _).mono ?_
  rintro e w' ⟨rfl, rfl⟩
  go_wp2_with fail
  refine (len_lies _ w.heap.size w.heap.size 0 [] ?_).mono ?_
  · exact hz.keep rfl rfl
  rintro e w' ⟨rfl, rfl⟩
  go_wp2_with fail
  refine (all_nil _).mono ?_
  rintro e w1 ⟨rfl, b1⟩
  have hz1 : Lies w1 w.heap.size w.heap.size 0 [] := Lies.below (by exact hz.keep rfl rfl) b1
  have hb1 : Below w.heap.size w w1 := HB0.out.trans (Below.mono ⟨b1.os, b1.tape, b1.output, b1.size, b1.block⟩ HB0.out.size)
  have HB1 := Lib.hid hb1
  clear b1 hb1 HB0 hz
  go_wp2_with fail
  refine (all_any _ w.heap.size w.heap.size 0 [] hz1).mono ?_
  rintro e w2 ⟨rfl, _, b2⟩
  have HB2 := Lib.hid (HB1.out.trans (b2.mono HB1.out.size))
  clear b2 HB1 hz1
  go_wp2_with fail
  refine (clone_nil _).mono ?_
  rintro e w' ⟨rfl, rfl⟩
  go_wp2_with fail
  refine (lives_any _).mono ?_
  rintro e w3 ⟨rfl, b3⟩
  have HB3 := Lib.hid (HB2.out.trans (b3.mono HB2.out.size))
  clear b3 HB2
  go_wp2_with fail
  go_ret
  exact ⟨rfl, HB3.out⟩
end Go.Proofs.Ytklobefidgnbkaa.ring
