/-
  What the program's calls on objects must come to, as one bundle, so that the statements can be walked whatever the program's own text is; whether two lists are one; and the common end of all statements. No condition but that bundle.
-/
import Derived.Test.YtaefkkhmhogpeaaDoorDRefGet
import Derived.Test.YtaefkkhmhogpeaaDoorDRefPut
import Derived.Test.YtaefkkhmhogpeaaDoorDSame
import Derived.WalkLawsBesides
namespace Go.Proofs.YtaefkkhmhogpeaaDoor.objs
open Go.RowKit Go.ChangeShapes
open Go.Proofs.YtaefkkhmhogpeaaDoor.word (Word)
set_option linter.unusedVariables false

/-- An int. -/
def I64 (n : Int) : Prop := -9223372036854775808 ≤ n ∧ n ≤ 9223372036854775807
def Ints (l : List De) : Prop := ∀ j, j < l.length → I64 (l.getD j zero).1 ∧ I64 (l.getD j zero).2.1 ∧ I64 (l.getD j zero).2.2
/-- The bytes that Put answers. -/
def putL (l : List De) : List UInt8 := if (chk l).2 = 0 then encL l else []
theorem putL_le (l : List De) : (putL l).length ≤ 682 := by
  unfold putL
  split
  · rename_i h
    have h1 := encL_le l
    have h2 := (chk_zero h).1
    omega
  · simp
def PutPost (l : List De) (w : World) (e : Ending) (w' : World) : Prop := e = .returned (.tuple #[.string ⟨(putL l).toArray⟩, .int .i64 ((chk l).2 : Nat)]) ∧ Below w.heap.size w w'
/-- The program's calls come to what the document says, while Ok holds of the world, which nothing that makes memory breaks. -/
structure Keeps (Ok : World → Prop) : Prop where
  mono : ∀ W W' : World, Ok W → Below W.heap.size W W' → Ok W'
  name : ∀ (k : Int) (W : World), I64 k → Ok W → Calls Tryd.prog 30 #[.int .i64 k] W fun e w' => e = .returned (.string (nameK k)) ∧ Below W.heap.size W w'
  check : ∀ (A : Option Addr) (cap : Nat) (l : List De) (W : World), l.length ≤ 100 → Ints l → DAt W A l → Ok W → Calls Tryd.prog 19 #[.slice A l.length cap] W (ChkPost (chk l) W)
  put : ∀ (A : Option Addr) (cap : Nat) (l : List De) (W : World), l.length ≤ 100 → Ints l → DAt W A l → Ok W → Calls Tryd.prog 21 #[.slice A l.length cap] W (PutPost l W)
  get : ∀ (t : ByteArray) (W : World), t.size ≤ 140737488355328 → Ok W → Calls Tryd.prog 24 #[.string t] W (GotPost (getL t.data.toList) W)
  fits : ∀ (A : Option Addr) (cap : Nat) (l : List De) (c : UInt8) (o : Int) (W : World), l.length ≤ 100 → Ints l → I64 o → DAt W A l → Ok W → Calls Tryd.prog 28 #[.slice A l.length cap, .int .u8 (c.toNat : Int), .int .i64 o] W fun e w' => e = .returned (.bool (fits l c o)) ∧ Below W.heap.size W w'


theorem DAt.two {w : World} {g : Nat} {d e : De} (h : w.heap[g]? = some (.cells #[.int .i64 d.1, .int .i64 d.2.1, .int .i64 d.2.2, .int .i64 e.1, .int .i64 e.2.1, .int .i64 e.2.2] 80 (0, 0))) : DAt w (some ⟨g, 0, none⟩) [d, e] := fun j hj => by
  have hj2 : j < 2 := hj
  refine ⟨g, 0, rfl, lt_of_block h, ?_⟩
  unfold CellsAt World.cell?
  rw [h]
  match j, hj2 with
  | 0, _ => exact ⟨rfl, rfl, rfl⟩
  | 1, _ => exact ⟨rfl, rfl, rfl⟩
theorem putL_two : putL [(1, 0, 0), (7, 5, 0)] = [2, 1, 7, 10, 0] := by decide +kernel
theorem chk_two : (chk [(1, 0, 0), (7, 5, 0)]).2 = 0 := by decide +kernel
theorem chk_nine : chk [(9, 0, 0)] = (0, 6) := by decide +kernel
theorem get_two : getL [2, 1, 7, 10, 0, 120] = ([(1, 0, 0), (7, 5, 0)], 5, 0) := by decide +kernel
theorem ints_two : Ints [(1, 0, 0), (7, 5, 0)] := fun j hj => by
  have hj2 : j < 2 := hj
  unfold I64
  match j, hj2 with
  | 0, _ => decide
  | 1, _ => decide
theorem ints_nine : Ints [(9, 0, 0)] := fun j hj => by
  obtain rfl : j = 0 := by simpa using hj
  unfold I64
  decide
def twoBox : Obj := .cells #[.int .i64 1, .int .i64 0, .int .i64 0, .int .i64 7, .int .i64 5, .int .i64 0] 80
set_option maxHeartbeats 2000000 in
theorem lives_any {Ok : World → Prop} (K : Keeps Ok) (w : World) (hw : Ok w) : Calls Tryd.prog 23 #[] w fun e w' => e = .returned (.bool true) ∧ Below w.heap.size w w' := by
  have hb0 : Below w.heap.size w (w.alloc twoBox) := (Below.refl _ w).alloc (Nat.le_refl _) _
  have h2 : DAt (w.alloc twoBox) (some ⟨w.heap.size, 0, none⟩) [(1, 0, 0), (7, 5, 0)] := DAt.two (heap_alloc_new w _)
  have HP := Lib.hid (K.put (some ⟨w.heap.size, 0, none⟩) 2 [(1, 0, 0), (7, 5, 0)] (w.alloc twoBox) (by decide) ints_two h2 (K.mono _ _ hw hb0))
  unfold PutPost twoBox at HP
  rw [putL_two, chk_two] at HP
  have HG := fun W hW => Lib.hid (K.get ⟨#[2, 1, 7, 10, 0, 120]⟩ W (by decide) hW)
  rw [show (⟨#[2, 1, 7, 10, 0, 120]⟩ : ByteArray).data.toList = [2, 1, 7, 10, 0, 120] from rfl, get_two] at HG
  unfold GotPost at HG
  have HC := fun W hW => Lib.hid (K.check (some ⟨W.heap.size, 0, none⟩) 1 [(9, 0, 0)] (W.alloc (declBox 9 0 0)) (by decide) ints_nine (DAt.one (heap_alloc_new W _)) hW)
  rw [chk_nine] at HC
  unfold ChkPost declBox at HC
  have HNm := fun W hW => Lib.hid (K.name 5 W (by unfold I64; omega) hW)
  rw [show nameK 5 = ⟨#[98, 97, 114]⟩ from rfl] at HNm
  have hcat : (⟨#[2, 1, 7, 10, 0]⟩ : ByteArray) ++ ⟨#[120]⟩ = ⟨#[2, 1, 7, 10, 0, 120]⟩ := Go.Proofs.YtaefkkhmhogpeaaDoor.octet.mk_append [2, 1, 7, 10, 0] [120]
  have HM := Lib.hid K.mono
  have HW := Lib.hid hw
  have HB0 := Lib.hid hb0
  unfold twoBox at HB0
  clear K hw hb0 h2
  go_enter Tryd.func23, Tryd.ntmps23
  go_wp2_with fail
  refine HP.out.mono ?_
  rintro e w1 ⟨rfl, hb1⟩
  have HB1 := Lib.hid (HB0.out.trans (hb1.mono HB0.out.size))
  clear hb1
  go_wp2_with fail
  refine (HG _ (HM.out _ _ HW.out HB1.out)).out.mono ?_
  rintro e w2 ⟨v, rfl, ⟨A, cap, rfl, _⟩, hb2⟩
  have HB2 := Lib.hid (HB1.out.trans (hb2.mono HB1.out.size))
  have HB3 : Hid (Below w.heap.size w (w2.alloc (.cells #[.int .i64 9, .int .i64 0, .int .i64 0] 80))) := Lib.hid (HB2.out.alloc HB2.out.size _)
  clear hb2
  go_wp2_with fail
  refine (HC _ (HM.out _ _ HW.out HB3.out)).out.mono ?_
  rintro e w3 ⟨rfl, hb3⟩
  have HB4 := Lib.hid (HB3.out.trans (hb3.mono HB3.out.size))
  clear hb3
  go_wp2_with fail
  refine (HNm _ (HM.out _ _ HW.out HB4.out)).out.mono ?_
  rintro e w4 ⟨rfl, hb4⟩
  have HB5 := Lib.hid (HB4.out.trans (hb4.mono HB4.out.size))
  clear hb4
  go_wp2
  go_ret
  exact ⟨rfl, HB5.out⟩
end Go.Proofs.YtaefkkhmhogpeaaDoor.objs
