/-
  Texts of one claim in one file: DRefGet, DSame, DSpec, DGetIn, GPut, GRd, GNum, GOwn, GIns, JGetPlain, JGet, JGetIn. Each has its own sentence, with its conditions.
-/
import Derived.Test.YtahejekcfgkiaaaGreatDoorGall18
import Derived.Test.YtahejekcfgkiaaaGreatDoorGall7
import Derived.Test.YtahejekcfgkiaaaGreatDoorGall13
import Derived.Test.YtahejekcfgkiaaaGreatDoorGall9
import Derived.WalkLawsBesides
import Derived.Test.YtahejekcfgkiaaaGreatDoorGall17
import Derived.Deep.RegionLaw
import Derived.Test.YtahejekcfgkiaaaGreatDoorGall15
import Derived.Test.YtahejekcfgkiaaaGreatDoorGall16
import Derived.Test.YtahejekcfgkiaaaGreatDoorGall11
import Derived.RegionTactic
import Derived.BigRegion
import Derived.Outline
import Derived.StillTailTactics
import Derived.Test.YtahejekcfgkiaaaGreatDoorGall6
import Derived.Test.YtahejekcfgkiaaaGreatDoorGall5
/-
  The document's own answer of the objects with which bytes begin, and the names of kinds. A text of at most two to the forty-seventh bytes.
-/
namespace Go.Proofs.YtahejekcfgkiaaaGreatDoor.objs
open Go.RowKit Go.ChangeShapes
open Go.Proofs.YtahejekcfgkiaaaGreatDoor.octet (St rdByte rdNum rdInt Stands)
set_option linter.unusedVariables false

theorem size_list (y : ByteArray) : y.size = y.data.toList.length := by rw [Array.length_toList]; rfl
/-- What a reading of bytes tells. -/
def GotPost (g : List De × Nat × Nat) (w : World) (e : Ending) (w' : World) : Prop :=
  ∃ v, e = .returned (.tuple #[v, .int .i64 (g.2.1 : Int), .int .i64 (g.2.2 : Int)]) ∧ (∃ A cap, v = .slice A g.1.length cap ∧ DAt w' A g.1) ∧ Below w.heap.size w w'
theorem got_read (l : List UInt8) : getL l = if (readL ⟨l, 0⟩).2.2 ≠ 0 then ([], 0, (readL ⟨l, 0⟩).2.2) else ((readL ⟨l, 0⟩).1, l.length - (readL ⟨l, 0⟩).2.1.rest.length, 0) := rfl

/-- The names, as a list that a call has made. -/
def NamesPost (w : World) (e : Ending) (w' : World) : Prop := ∃ g, e = .returned (.slice (some ⟨g, 0, none⟩) 8 8) ∧ (∀ j, j < 8 → w'.cell? ⟨g, j, none⟩ = some (.string (names.getD j ⟨#[]⟩))) ∧ Below w.heap.size w w'
end Go.Proofs.YtahejekcfgkiaaaGreatDoor.objs

/-
  Whether two lists of objects are one, as the statements ask it. No condition but that both are of at most a hundred.
-/
namespace Go.Proofs.YtahejekcfgkiaaaGreatDoor.objs
open Go.RowKit Go.ChangeShapes
set_option linter.unusedVariables false

theorem De.ext' {a b : De} : a = b ↔ a.1 = b.1 ∧ a.2.1 = b.2.1 ∧ a.2.2 = b.2.2 := by
  obtain ⟨a1, a2, a3⟩ := a
  obtain ⟨b1, b2, b3⟩ := b
  simp
theorem list_ext {l m : List De} (hl : l.length = m.length) (h : ∀ j, j < l.length → l.getD j zero = m.getD j zero) : l = m := by
  apply List.ext_getElem hl
  intro j h1 h2
  have := h j h1
  rwa [List.getD_eq_getElem?_getD, List.getD_eq_getElem?_getD, List.getElem?_eq_getElem h1, List.getElem?_eq_getElem h2] at this

end Go.Proofs.YtahejekcfgkiaaaGreatDoor.objs

/-
  What the program's calls on objects must come to, as one bundle, so that the statements can be walked whatever the program's own text is; whether two lists are one; and the common end of all statements. No condition but that bundle.
-/
namespace Go.Proofs.YtahejekcfgkiaaaGreatDoor.objs
open Go.RowKit Go.ChangeShapes
open Go.Proofs.YtahejekcfgkiaaaGreatDoor.word (Word)
set_option linter.unusedVariables false

/-- The bytes that Put answers. -/
def putL (l : List De) : List UInt8 := if (chk l).2 = 0 then encL l else []
theorem putL_le (l : List De) : (putL l).length ≤ 682 := by
  unfold putL
  split
  · rename_i h
    have h1 := encL_le l
    have h2 := (chk_zero h).1
    omega
  · simp
def PutPost (l : List De) (w : World) (e : Ending) (w' : World) : Prop := e = .returned (.tuple #[.string ⟨(putL l).toArray⟩, .int .i64 ((chk l).2 : Nat)]) ∧ Below w.heap.size w w'
/-- The program's calls come to what the document says, while Ok holds of the world, which nothing that makes memory breaks. -/
structure Keeps (Ok : World → Prop) : Prop where
  mono : ∀ W W' : World, Ok W → Below W.heap.size W W' → Ok W'
  name : ∀ (k : Int) (W : World), I64 k → Ok W → Calls Tryz.prog 93 #[.int .i64 k] W fun e w' => e = .returned (.string (nameK k)) ∧ Below W.heap.size W w'
  check : ∀ (A : Option Addr) (cap : Nat) (l : List De) (W : World), l.length ≤ 100 → Ints l → DAt W A l → Ok W → Calls Tryz.prog 25 #[.slice A l.length cap] W (ChkPost (chk l) W)
  put : ∀ (A : Option Addr) (cap : Nat) (l : List De) (W : World), l.length ≤ 100 → Ints l → DAt W A l → Ok W → Calls Tryz.prog 20 #[.slice A l.length cap] W (PutPost l W)
  get : ∀ (t : ByteArray) (W : World), t.size ≤ 140737489403904 → Ok W → Calls Tryz.prog 80 #[.string t] W (GotPost (getL t.data.toList) W)
  fits : ∀ (A : Option Addr) (cap : Nat) (l : List De) (c : UInt8) (o : Int) (W : World), l.length ≤ 100 → Ints l → I64 o → DAt W A l → Ok W → Calls Tryz.prog 95 #[.slice A l.length cap, .int .u8 (c.toNat : Int), .int .i64 o] W fun e w' => e = .returned (.bool (fits l c o)) ∧ Below W.heap.size W w'


theorem putL_two : putL [(1, 0, 0), (7, 5, 0)] = [2, 1, 7, 10, 0] := by decide +kernel
theorem chk_two : (chk [(1, 0, 0), (7, 5, 0)]).2 = 0 := by decide +kernel
theorem chk_nine : chk [(9, 0, 0)] = (0, 6) := by decide +kernel
theorem get_two : getL [2, 1, 7, 10, 0, 120] = ([(1, 0, 0), (7, 5, 0)], 5, 0) := by decide +kernel
theorem ints_two : Ints [(1, 0, 0), (7, 5, 0)] := fun j hj => by
  have hj2 : j < 2 := hj
  unfold I64
  match j, hj2 with
  | 0, _ => decide
  | 1, _ => decide
theorem ints_nine : Ints [(9, 0, 0)] := fun j hj => by
  obtain rfl : j = 0 := by simpa using hj
  unfold I64
  decide
def twoBox : Obj := .cells #[.int .i64 1, .int .i64 0, .int .i64 0, .int .i64 7, .int .i64 5, .int .i64 0] 44
end Go.Proofs.YtahejekcfgkiaaaGreatDoor.objs

/-
  The objects with which bytes begin, as the program tells them (typed over the code of 392f5a9), and with it the bundle over which the five laws are walked. The table of names must lie where its initialiser lays it; texts of at most two to the forty-seventh bytes.
-/
namespace Go.Proofs.YtahejekcfgkiaaaGreatDoor.objs
open Go.RowKit Go.ChangeShapes
open Go.Proofs.YtahejekcfgkiaaaGreatDoor.octet (St InAt Frm rdByte rdNum rdInt err_any left_any open_any rdNum_left)
open Go.Proofs.YtahejekcfgkiaaaGreatDoor.span (pN num_any)
set_option linter.unusedVariables false

theorem rdN_left (s : St) : (rdN s).2.rest.length ≤ s.rest.length := rdNum_left s
theorem rdA_left (k : Nat) (s : St) : (rdA k s).2.rest.length ≤ s.rest.length := by
  rw [← (pA_rdA k s).1]
  exact pA_left k s
theorem rdB_left (k : Nat) (s : St) : (rdB k s).2.rest.length ≤ s.rest.length := by
  rw [← (pB_rdB k s).1]
  exact pB_left k s
theorem rdD_left (s : St) : (rdD s).2.1.rest.length ≤ s.rest.length := by
  unfold rdD
  dsimp only
  split
  · exact rdByte_left s
  · exact Nat.le_trans (rdB_left _ _) (Nat.le_trans (rdA_left _ _) (rdByte_left s))
theorem rdL_left (s : St) : ∀ j, (rdL s j).2.1.rest.length ≤ s.rest.length := by
  intro j
  induction j with
  | zero => exact Nat.le_refl _
  | succ j ih =>
    simp only [rdL]
    split
    · exact ih
    · split
      · exact Nat.le_trans (rdD_left _) ih
      · exact Nat.le_trans (rdD_left _) ih
theorem pAll_left (s : St) : (pAll s).2.1.rest.length ≤ s.rest.length := by
  rw [pAll_eq]
  split
  · exact pN_left s
  · split
    · exact pN_left s
    · exact Nat.le_trans (rdL_left _ _) (pN_left s)
theorem pAll_short (s : St) : (pAll s).1.length ≤ 32 := by
  rw [pAll_eq]
  split
  · simp
  · split
    · simp
    · have := rdL_short (s := (pN s).2) (pN s).1.toNat
      rw [List.length_map]
      omega

theorem get_ret {w W : World} {n cap : Nat} {A : Option Addr} {act : Act} {g : List De × Nat × Nat} (hn : n = g.1.length) (h2 : act.tmps[2]?.getD undef = .slice A n cap) (h3 : act.tmps[3]?.getD undef = .int .i64 (g.2.1 : Int)) (h4 : act.tmps[4]?.getD undef = .int .i64 (g.2.2 : Int)) (hd : act.defers = [])
    (hA : DAt W A g.1) (hb : Below w.heap.size w W) : bodyPost Tryz.prog Tryz.f80 (GotPost g w) .ret act W := by
  subst hn
  refine bodyPost_ret (v := .tuple #[.slice A g.1.length cap, .int .i64 (g.2.1 : Int), .int .i64 (g.2.2 : Int)]) ?_ hd ⟨_, rfl, ⟨A, cap, rfl, hA⟩, hb⟩
  simp [results, Tryz.results80, go_sem, h2, h3, h4]

set_option maxRecDepth 100000 in
set_option maxHeartbeats 4000000 in
theorem get_any (t : ByteArray) (w : World) (ht : t.size ≤ 140737489403904) (hw : Okd w) : Calls Tryz.prog 80 #[.string t] w (GotPost (getL t.data.toList) w) := by
  have HG := Lib.hid (getL_prog t.data.toList)
  have HOp := Lib.hid (open_any w t)
  have HAll := fun W hi hok => Lib.hid (getAll_any W w.heap.size ⟨t.data.toList, 0⟩ hi (fun h => absurd rfl h) (by rw [← size_list]; exact ht) hok hw.2)
  have HLe : Hid ((pAll ⟨t.data.toList, 0⟩).2.1.rest.length ≤ t.size) := Lib.hid (by rw [size_list]; exact pAll_left ⟨t.data.toList, 0⟩)
  have h32 := pAll_short ⟨t.data.toList, 0⟩
  unfold AllPost at HAll
  obtain ⟨g, hg⟩ : ∃ g, g = getL t.data.toList := ⟨_, rfl⟩
  rw [← hg] at HG ⊢
  clear hg
  generalize pAll ⟨t.data.toList, 0⟩ = r at *
  obtain ⟨ls, S, e⟩ := r
  dsimp only at HG HAll HLe h32
  have HW := Lib.hid hw
  have HT := Lib.hid ht
  clear hw ht
  go_enter Tryz.func80, Tryz.ntmps80
  go_wp2_with fail
  refine HOp.out.mono ?_
  rintro e1 w1 ⟨rfl, hi1, hb1, hs1⟩
  have HA1 := HAll w1 hi1 (HW.out.next hb1)
  have HB1 := Lib.hid hb1
  have HS1 := Lib.hid hs1
  clear hi1 hb1 hs1 HAll HOp
  go_wp2_with fail
  refine HA1.out.mono ?_
  rintro e2 w2 ⟨v, rfl, ⟨A, cap, rfl, hA2⟩, hi2, hf2⟩
  have hB2 : Below w.heap.size w w2 := HB1.out.trans (hf2.below (Nat.le_refl _) (by have := HS1.out; omega))
  have HK2 := Lib.hid (HW.out.next hB2)
  have HB2 := Lib.hid hB2
  have HA2 := Lib.hid hA2
  have HI2 := Lib.hid hi2
  clear hA2 hi2 hf2 hB2 HB1 HS1 HA1
  by_cases he : e = 0
  · have he' : ((e : Int) == 0) = true := by simp [he]
    have HE0 := Lib.hid he
    have HC := Lib.hid (check_any A cap ls (by omega) w2 HA2.out HK2.out)
    unfold ChkPost at HC
    clear he
    generalize chk ls = p at *
    obtain ⟨i, c⟩ := p
    dsimp only at HC HG
    go_wp2_with fail
    refine HC.out.mono ?_
    rintro e3 w3 ⟨rfl, hb3⟩
    have HA3 := Lib.hid (HA2.out.next hb3)
    have HI3 := Lib.hid (HI2.out.kept (hb3.block _ HI2.out.lt))
    have HB3 := Lib.hid (HB2.out.trans (hb3.mono HB2.out.size))
    clear hb3 HA2 HI2 HB2 HC HK2
    by_cases hc : c = 0
    · have HR : Hid (g = (ls, t.data.toList.length - S.rest.length, 0)) := Lib.hid (by rw [HG.out, if_neg (by simp [HE0.out]), if_neg (by simp [hc])])
      have hc' : ((c : Int) != 0) = false := by simp [hc]
      have HLq := Lib.hid (left_any w3 w.heap.size S HI3.out)
      have HWr : Hid ((t.data.toList.length - S.rest.length : Nat) = wrap64 ((t.size : Int) - (S.rest.length : Int))) := Lib.hid (by
        have h1 := HLe.out
        have h2 := HT.out
        rw [← size_list, IntWalk.wrap64_in _ (by omega)]
        omega)
      clear hc HG
      go_wp2_with fail
      refine HLq.out.mono ?_
      rintro e4 w4 ⟨rfl, rfl⟩
      go_wp2_with fail
      exact get_ret (by rw [HR.out]) (by rfl) (by rw [HR.out, HWr.out]; rfl) (by rw [HR.out]; rfl) rfl (by rw [HR.out]; exact HA3.out) HB3.out
    · have HR : Hid (g = ([], 0, c)) := Lib.hid (by rw [HG.out, if_neg (by simp [HE0.out]), if_pos hc])
      have hc' : ((c : Int) != 0) = true := by simpa using hc
      clear hc HG
      go_wp2_with fail
      exact get_ret (by rw [HR.out]) (by rfl) (by rw [HR.out]; rfl) (by rw [HR.out]; rfl) rfl (by rw [HR.out]; exact DAt.nil _ _) HB3.out
  · have HR : Hid (g = ([], 0, e)) := Lib.hid (by rw [HG.out, if_pos he])
    have he' : ((e : Int) != 0) = true := by simpa using he
    have he2 : ((e : Int) == 0) = false := by simpa using he
    clear he HG
    go_wp2_with fail
    exact get_ret (by rw [HR.out]) (by rfl) (by rw [HR.out]; rfl) (by rw [HR.out]; rfl) rfl (by rw [HR.out]; exact DAt.nil _ _) HB2.out

theorem put_any (A : Option Addr) (cap : Nat) (l : List De) (hl : l.length ≤ 100) (w : World) (hA : DAt w A l) (hw : Okd w) : Calls Tryz.prog 20 #[.slice A l.length cap] w (PutPost l w) := by
  unfold PutPost putL
  by_cases hz : (chk l).2 = 0
  · rw [if_pos hz, hz]
    exact put_good A cap l hz w hA hw
  · rw [if_neg hz]
    exact put_bad A cap l (by omega) hz w hA hw
theorem keeps : Keeps Okd where
  mono := fun W W' h hb => h.next hb
  name := fun k W _ h => (name_any k W h).mono fun e w' ⟨h1, h2⟩ => ⟨h1, h2 ▸ Below.refl _ _⟩
  check := fun A cap l W hl _ hA h => check_any A cap l (by omega) W hA h
  put := fun A cap l W hl _ hA h => put_any A cap l hl W hA h
  get := fun t W ht h => get_any t W ht h
  fits := fun A cap l c o W hl _ _ hA h => (fit_any A cap l c o (by omega) W hA).mono fun e w' ⟨h1, h2⟩ => ⟨h1, h2 ▸ Below.refl _ _⟩
end Go.Proofs.YtahejekcfgkiaaaGreatDoor.objs

/-
  The bytes of a program that may be, as the program puts them (typed over the code of 4b95722). The tables must lie where their initialisers lay them.
-/
namespace Go.Proofs.YtahejekcfgkiaaaGreatDoor.pgm
open Go.RowKit Go.ChangeShapes
open Go.Proofs.YtahejekcfgkiaaaGreatDoor.octet (OutAt Frm Spare NoBytes byte_keep num_keep num Fits size_mk num_length_le done_any out_new)
open Go.Proofs.YtahejekcfgkiaaaGreatDoor.objs (De zero DAt cells3 encL encL_le)
open Go.Proofs.YtahejekcfgkiaaaGreatDoor.need (WAt encW chkW chkW_zero)
set_option linter.unusedVariables false

theorem noBytes_fn (x y z : Value) : NoBytes (.cells #[x, y, z] 49) := fun _ _ h => by
  injection h with _ h _
  exact absurd h (by decide)
/-- Within a function that is put. -/
structure Pf (w : World) (bo g : Nat) (x y z : Value) (L : List UInt8) (W : World) : Prop where
  out : OutAt W (bo + 1) bo L
  box : W.heap[g]? = some (.cells #[x, y, z] 49 (0, 0))
  frm : Frm (bo + 1) bo w W
  ne : g ≠ bo
theorem Pf.next {w W W' : World} {bo g : Nat} {x y z : Value} {L L' : List UInt8} (h : Pf w bo g x y z L W) (ho : OutAt W' (bo + 1) bo L') (hf : Frm (bo + 1) bo W W') (hs : Spare bo W W') : Pf w bo g x y z L' W' :=
  ⟨ho, hs g _ h.box h.ne (noBytes_fn x y z), h.frm.trans hf, h.ne⟩

set_option maxRecDepth 100000 in
set_option maxHeartbeats 8000000 in
theorem func_any (w0 w : World) (bo : Nat) (L : List UInt8) (A : Option Addr) (c : Nat) (f : Fn) (hz : chkFn f = 0) (hA : DAt w0 A f.co) (hb : Below w0.heap.size w0 w) (hw0 : w0.heap.size ≤ bo) (hok : Okp w0) (ho : OutAt w (bo + 1) bo L) (hl : L.length ≤ 1000000) :
    Calls Tryz.prog 23 #[.pointer (some ⟨bo, 0, none⟩), .agg #[.int .i64 f.ar, .int .i64 f.lo, .slice A f.co.length c]] w fun e w' => e = .returned (.tuple #[]) ∧ OutAt w' (bo + 1) bo (L ++ encFn f) ∧ Frm (bo + 1) bo w w' := by
  obtain ⟨⟨h1, h2, h3⟩, h4, h5, h6⟩ := chkFn_zero hz
  obtain ⟨ar, lo, co⟩ := f
  dsimp only at h1 h2 h3 h4 h5 h6 hA
  obtain ⟨a, rfl⟩ : ∃ a : Nat, ar = (a : Int) := ⟨ar.toNat, by omega⟩
  obtain ⟨b, rfl⟩ : ∃ b : Nat, lo = (b : Int) := ⟨lo.toNat, by omega⟩
  have HE : Hid (L ++ encFn ⟨(a : Int), (b : Int), co⟩ = (((L ++ num a) ++ num b) ++ num co.length) ++ encAll encIn zero co co.length) := Lib.hid (by
    unfold encFn
    dsimp only
    rw [Int.toNat_natCast, Int.toNat_natCast]
    simp only [List.append_assoc])
  rw [HE.out]
  have hbo : bo < w.heap.size := by have := ho.base_le; omega
  have HP0 : Hid (Pf w bo w.heap.size (.int .i64 (a : Int)) (.int .i64 (b : Int)) (.slice A co.length c) L (w.alloc (.cells #[.int .i64 (a : Int), .int .i64 (b : Int), .slice A co.length c] 49))) := Lib.hid (by
    have hb1 : Below w.heap.size w (w.alloc (.cells #[.int .i64 (a : Int), .int .i64 (b : Int), .slice A co.length c] 49)) := (Below.refl _ _).alloc (Nat.le_refl _) _
    exact ⟨ho.kept hb1 (Nat.le_refl _), heap_alloc_new w _, (Frm.of_below hb1).mono ho.base_le, by omega⟩)
  have HA := Lib.hid hA
  have HB := Lib.hid hb
  have HW0 := Lib.hid hw0
  have HK := Lib.hid hok
  have HIs := Lib.hid h6
  have HL := Lib.hid hl
  have n1 := num_length_le a
  have n2 := num_length_le b
  have n3 := num_length_le co.length
  have HN := Lib.hid (And.intro n1 (And.intro n2 n3))
  clear hz hA hb hw0 hok ho h6 hl HE hbo n1 n2 n3
  go_enter Tryz.func23, Tryz.ntmps23
  go_upto_region 1 with fail
  generalize w.alloc (.cells #[.int .i64 (a : Int), .int .i64 (b : Int), .slice A co.length c] 49) = W0 at *
  generalize w.heap.size = g at *
  obtain ⟨c0, c1, c2, _, _, _⟩ := cells3 HP0.out.box
  have HC := Lib.hid (cnt_any W0 (bo + 1) bo L a (by omega) HP0.out.out (by have := HL.out; omega))
  unfold RawPost at HC
  go_wp2_with fail
  refine HC.out.mono ?_
  rintro e w1 ⟨rfl, x1, x2, x3⟩
  have HP1 := Lib.hid (HP0.out.next x1 x2 x3)
  clear x1 x2 x3 HC HP0 c0 c1 c2
  obtain ⟨c0, c1, c2, _, _, _⟩ := cells3 HP1.out.box
  have HC := Lib.hid (cnt_any w1 (bo + 1) bo (L ++ num a) b (by omega) HP1.out.out (by have := HL.out; have := HN.out; rw [List.length_append]; omega))
  unfold RawPost at HC
  go_wp2_with fail
  refine HC.out.mono ?_
  rintro e w2 ⟨rfl, x1, x2, x3⟩
  have HP2 := Lib.hid (HP1.out.next x1 x2 x3)
  clear x1 x2 x3 HC HP1 c0 c1 c2
  obtain ⟨c0, c1, c2, _, _, _⟩ := cells3 HP2.out.box
  have HC := Lib.hid (cnt_any w2 (bo + 1) bo ((L ++ num a) ++ num b) co.length (by omega) HP2.out.out (by have := HL.out; have := HN.out; rw [List.length_append, List.length_append]; omega))
  unfold RawPost at HC
  have hco64 : co.length ≤ 9223372036854775807 := by omega
  go_wp2_with fail
  refine HC.out.mono ?_
  rintro e w3 ⟨rfl, x1, x2, x3⟩
  have HP3 := Lib.hid (HP2.out.next x1 x2 x3)
  clear x1 x2 x3 HC HP2 c0 c1 c2
  obtain ⟨c0, c1, c2, _, _, _⟩ := cells3 HP3.out.box
  have HLp : Hid ((((L ++ num a) ++ num b) ++ num co.length).length ≤ 1000030) := Lib.hid (by
    have := HL.out
    have := HN.out
    simp only [List.length_append]
    omega)
  obtain ⟨pre, hpre⟩ : ∃ pre, ((L ++ num a) ++ num b) ++ num co.length = pre := ⟨_, rfl⟩
  have HPe := Lib.hid hpre
  have HO3 := Lib.hid HP3.out.out
  rw [hpre] at HO3 HLp
  clear hpre
  have HF3 := Lib.hid HP3.out.frm
  go_wp2_with fail
  clear c0 c1 c2 HP3
  go_loopw [24] (fun i wr => ∃ j : Nat, j ≤ co.length ∧ i = .int .i64 (j : Int) ∧ Hid (OutAt wr (bo + 1) bo (pre ++ encAll encIn zero co j)) ∧ Hid (Frm (bo + 1) bo w wr)) (fun i _ => co.length - (intOf i).toNat)
  case atStart => exact ⟨0, Nat.zero_le _, rfl, by simpa [encAll] using HO3, HF3⟩
  case round =>
    obtain ⟨j, hj, rfl, HO, HF⟩ := hrel
    by_cases hlt : j < co.length
    · have hbw : Below w0.heap.size w0 wr := HB.out.trans (HF.out.below HW0.out (Nat.le_succ_of_le HW0.out))
      obtain ⟨b2, off2, rfl, hbl2, d0, d1, d2⟩ := HA.out.next hbw j hlt
      have hlt' : (j : Int) < (co.length : Int) := by omega
      have hj0 : (0 : Int) ≤ (j : Int) := by omega
      have hzI := HIs.out _ (getD_in (d := zero) hlt)
      have HEk : Hid (pre ++ encAll encIn zero co (j + 1) = (pre ++ encAll encIn zero co j) ++ encIn (co.getD j zero)) := Lib.hid (by simp only [encAll, List.append_assoc])
      have hlen : (pre ++ encAll encIn zero co j).length ≤ 1010000 := by
        have h2 := encAll_le (e := encIn) (d := zero) (l := co) (c := 21) (fun x _ => encIn_le x) j (by omega)
        have h3 := HLp.out
        rw [List.length_append]
        omega
      have hxl := encIn_le (co.getD j zero)
      have hbx : Below wr.heap.size wr (wr.alloc (.cells #[.int .i64 (co.getD j zero).1, .int .i64 (co.getD j zero).2.1, .int .i64 (co.getD j zero).2.2] 51)) := (Below.refl _ _).alloc (Nat.le_refl _) _
      have hkx : Okp (wr.alloc (.cells #[.int .i64 (co.getD j zero).1, .int .i64 (co.getD j zero).2.1, .int .i64 (co.getD j zero).2.2] 51)) := (HK.out.next hbw).next hbx
      have HI := Lib.hid (Go.Proofs.YtahejekcfgkiaaaGreatDoor.inst.put_any (co.getD j zero).1 (co.getD j zero).2.1 (co.getD j zero).2.2 _ hkx.ins)
      unfold Go.Proofs.YtahejekcfgkiaaaGreatDoor.inst.PutPost Go.Proofs.YtahejekcfgkiaaaGreatDoor.inst.putL at HI
      rw [if_pos (show Go.Proofs.YtahejekcfgkiaaaGreatDoor.inst.chk (co.getD j zero).1 (co.getD j zero).2.1 (co.getD j zero).2.2 = 0 from hzI)] at HI
      rw [show Go.Proofs.YtahejekcfgkiaaaGreatDoor.inst.encI (co.getD j zero).1 (co.getD j zero).2.1 (co.getD j zero).2.2 = encIn (co.getD j zero) from rfl] at HI
      have HOx := Lib.hid (HO.out.kept hbx (Nat.le_refl _))
      have HFx : Hid (Frm (bo + 1) bo w (wr.alloc (.cells #[.int .i64 (co.getD j zero).1, .int .i64 (co.getD j zero).2.1, .int .i64 (co.getD j zero).2.2] 51))) := Lib.hid (HF.out.trans ((Frm.of_below hbx).mono HO.out.base_le))
      clear hbx hkx hzI hbw HO HF
      generalize pre ++ encAll encIn zero co j = pk at *
      generalize Go.Proofs.YtahejekcfgkiaaaGreatDoor.inst.chk (co.getD j zero).1 (co.getD j zero).2.1 (co.getD j zero).2.2 = ci at *
      generalize encIn (co.getD j zero) = ey at *
      generalize co.getD j zero = y at *
      obtain ⟨yo, ya, yb⟩ := y
      dsimp only at HI HOx HFx d0 d1 d2
      go_wp2_with fail
      refine HI.out.mono ?_
      rintro e w5 ⟨rfl, hb5⟩
      have HO5 := Lib.hid (HOx.out.kept hb5 (Nat.le_refl _))
      have HF5 := Lib.hid (HFx.out.trans ((Frm.of_below hb5).mono HOx.out.base_le))
      clear hb5 HI HOx HFx d0 d1 d2
      have HR := Lib.hid (raw_any w5 (bo + 1) bo pk ey HO5.out (by omega))
      unfold RawPost at HR
      go_wp2_with fail
      refine HR.out.mono ?_
      rintro e w6 ⟨rfl, x1, x2, x3⟩
      have HO6 := Lib.hid x1
      have HF6 := Lib.hid (HF5.out.trans x2)
      clear x1 x2 x3 HR HO5 HF5
      go_wp2
      go_roundw
      case rel => exact ⟨j + 1, by omega, by go_num, by rw [HEk.out]; exact HO6, HF6⟩
      case measure => simp [intOf]; omega
    · obtain rfl : j = co.length := by omega
      have hge : decide ((co.length : Int) < (co.length : Int)) = false := by simp
      go_wp2
      go_end0
      exact ⟨rfl, by rw [HPe.out]; exact HO.out, HF.out⟩

/-- Between two parts that are put: the writer, and all from before it. -/
structure Pp (wb : World) (B bo : Nat) (L : List UInt8) (W : World) : Prop where
  out : OutAt W (bo + 1) bo L
  below : Below B wb W
  le : B ≤ bo
theorem Pp.next {wb W W' : World} {B bo : Nat} {L L' : List UInt8} (h : Pp wb B bo L W) (ho : OutAt W' (bo + 1) bo L') (hf : Frm (bo + 1) bo W W') : Pp wb B bo L' W' := ⟨ho, h.below.trans (hf.below h.le (Nat.le_succ_of_le h.le)), h.le⟩
theorem Pp.skip {wb W W' : World} {B bo : Nat} {L : List UInt8} (h : Pp wb B bo L W) (hb : Below W.heap.size W W') : Pp wb B bo L W' := ⟨h.out.kept hb (Nat.le_refl _), h.below.trans (hb.mono (Nat.le_trans (Nat.le_succ_of_le h.le) h.out.base_le)), h.le⟩

set_option maxRecDepth 100000 in
set_option maxHeartbeats 16000000 in
theorem put_good (v : Value) (p : Pg) (hz : chkP p = 0) (w : World) (hv : PAt w v p) (hw : Okp w) :
    Calls Tryz.prog 8 #[v] w fun e w' => e = .returned (.tuple #[.string ⟨(encP p).toArray⟩, .int .i64 0]) ∧ Below w.heap.size w w' := by
  obtain ⟨g1, g2, g3, g4, g5, g6⟩ := chkP_zero hz
  have g0 := (Go.Proofs.YtahejekcfgkiaaaGreatDoor.objs.chk_zero g1).1
  have HCk := fun W (h1 : PAt W v p) (h2 : Okp W) => Lib.hid (check_any v p (by omega) W h1 h2)
  unfold NumPost at HCk
  rw [hz] at HCk
  have HPv := fun W (hb : Below w.heap.size w W) => hv.next hb
  obtain ⟨A, B, C, ca, cb, cc, rfl, hA, hB, hC⟩ := hv
  obtain ⟨ds, ws, fs⟩ := p
  dsimp only at hA hB hC g0 g1 g2 g3 g4 g5 g6 HCk HPv
  have HB0 : Hid (Below w.heap.size w (w.alloc (.cells #[.slice A ds.length ca, .slice B ws.length cb, .slice C fs.length cc] 26))) := Lib.hid ((Below.refl _ w).alloc (Nat.le_refl _) _)
  have HBx : ∀ W, Below (w.heap.size + 1) (w.alloc (.cells #[.slice A ds.length ca, .slice B ws.length cb, .slice C fs.length cc] 26)) W → Hid (Below w.heap.size w W ∧ W.cell? ⟨w.heap.size, 0, none⟩ = some (.slice A ds.length ca) ∧ W.cell? ⟨w.heap.size, 1, none⟩ = some (.slice B ws.length cb) ∧ W.cell? ⟨w.heap.size, 2, none⟩ = some (.slice C fs.length cc)) := fun W h => by
    have hblk := (h.block _ (Nat.lt_succ_self _)).trans (heap_alloc_new w _)
    refine Lib.hid ⟨HB0.out.trans (h.mono (Nat.le_succ _)), ?_, ?_, ?_⟩
    all_goals (unfold World.cell?; rw [hblk]; rfl)
  have hz1 : (w.alloc (.cells #[.slice A ds.length ca, .slice B ws.length cb, .slice C fs.length cc] 26)).heap.size = w.heap.size + 1 := World.size_alloc _ _
  have HZ1 := Lib.hid hz1
  have HC0 := HCk _ (HPv _ HB0.out) (hw.next HB0.out)
  have HPd := fun W (hb : Below w.heap.size w W) => Lib.hid (Go.Proofs.YtahejekcfgkiaaaGreatDoor.objs.put_any A ca ds (by omega) W (hA.next hb) (hw.next hb).decl)
  unfold Go.Proofs.YtahejekcfgkiaaaGreatDoor.objs.PutPost Go.Proofs.YtahejekcfgkiaaaGreatDoor.objs.putL at HPd
  rw [if_pos g1, g1] at HPd
  have HK := Lib.hid hw
  have HA := Lib.hid hA
  have HWs := Lib.hid hB
  have HFs := Lib.hid hC
  have HG := Lib.hid (And.intro g1 (And.intro g3 g6))
  have hl1 := encL_le ds
  have hl2 := num_length_le ws.length
  have hl3 := num_length_le fs.length
  have HEw : Hid (∀ j, j ≤ ws.length → (encAll encW [] ws j).length ≤ 554 * j) := Lib.hid (encAll_le fun x hx => by
    obtain ⟨_, q1, q2⟩ := chkW_zero (g3 x hx)
    exact encW_le q1 (fun y hy => (q2 y hy).2.1))
  have HEf : Hid (∀ j, j ≤ fs.length → (encAll encFn Fn.zero fs j).length ≤ 4230 * j) := Lib.hid (encAll_le fun f hf => encFn_le (chkFn_zero (g6 f hf)).2.2.1)
  have HPf : Hid (encP ⟨ds, ws, fs⟩ = (((([] ++ [76, 74, 1]) ++ encL ds) ++ num ws.length) ++ encAll encW [] ws ws.length) ++ num fs.length ++ encAll encFn Fn.zero fs fs.length) := Lib.hid (by unfold encP; simp only [List.append_assoc, List.nil_append])
  obtain ⟨q, hq⟩ : ∃ q, q = encP ⟨ds, ws, fs⟩ := ⟨_, rfl⟩
  have HQ := Lib.hid (hq.trans HPf.out)
  rw [← hq]
  clear hq HPf
  have hw64 : ws.length ≤ 9223372036854775807 := by omega
  have hf64 : fs.length ≤ 9223372036854775807 := by omega
  obtain ⟨c0, c1, c2, _, _, _⟩ := cells3 (heap_alloc_new w (.cells #[.slice A ds.length ca, .slice B ws.length cb, .slice C fs.length cc] 26))
  clear hA hB hC hw hz g1 g3 g6 HCk HPv hz1
  go_enter Tryz.func8, Tryz.ntmps8
  go_wp2_with fail
  refine HC0.out.mono ?_
  rintro e w1 ⟨rfl, hb1⟩
  have HB1 := Lib.hid (show Below (w.heap.size + 1) (w.alloc (.cells #[.slice A ds.length ca, .slice B ws.length cb, .slice C fs.length cc] 26)) w1 from hb1.mono (by rw [HZ1.out]; exact Nat.le_refl _))
  clear hb1 HC0 c0 c1 c2
  generalize w.alloc (.cells #[.slice A ds.length ca, .slice B ws.length cb, .slice C fs.length cc] 26) = wb at *
  have hPp0 : Pp wb (w.heap.size + 1) w1.heap.size [] (w1.alloc (.cells #[.slice none 0 0] 59)) := by
    have hbx : Below w1.heap.size w1 (w1.alloc (.cells #[.slice none 0 0] 59)) := (Below.refl _ _).alloc (Nat.le_refl _) _
    have hs : w.heap.size + 1 ≤ w1.heap.size := by have := HB1.out.size; rw [HZ1.out] at this; exact this
    exact ⟨out_new w1, HB1.out.trans (hbx.mono hs), hs⟩
  have HP0 := Lib.hid hPp0
  clear hPp0
  go_upto_region 5 with fail
  generalize w1.alloc (.cells #[.slice none 0 0] 59) = W1 at *
  generalize w1.heap.size = bo at *
  have HR := Lib.hid (raw_any W1 (bo + 1) bo [] [76, 74, 1] HP0.out.out (by simp))
  unfold RawPost at HR
  go_wp2_with fail
  refine HR.out.mono ?_
  rintro e w2 ⟨rfl, x1, x2, x3⟩
  have HP1 := Lib.hid (HP0.out.next x1 x2)
  clear x1 x2 x3 HR HP0 HB1
  obtain ⟨hb2, c0, c1, c2⟩ := (HBx w2 HP1.out.below).out
  have HO := HPd w2 hb2
  clear hb2 HPd
  go_wp2_with fail
  refine HO.out.mono ?_
  rintro e w3 ⟨rfl, hb3⟩
  have HP2 := Lib.hid (HP1.out.skip hb3)
  clear hb3 HO HP1 c0 c1 c2
  have HR := Lib.hid (raw_any w3 (bo + 1) bo ([] ++ [76, 74, 1]) (encL ds) HP2.out.out (by simp only [List.length_append, List.length_cons, List.length_nil]; omega))
  unfold RawPost at HR
  go_wp2_with fail
  refine HR.out.mono ?_
  rintro e w4 ⟨rfl, x1, x2, x3⟩
  have HP3 := Lib.hid (HP2.out.next x1 x2)
  clear x1 x2 x3 HR HP2
  obtain ⟨hb4, c0, c1, c2⟩ := (HBx w4 HP3.out.below).out
  clear hb4
  have HR := Lib.hid (cnt_any w4 (bo + 1) bo (([] ++ [76, 74, 1]) ++ encL ds) ws.length (by omega) HP3.out.out (by simp only [List.length_append, List.length_cons, List.length_nil]; omega))
  unfold RawPost at HR
  go_wp2_with fail
  refine HR.out.mono ?_
  rintro e w5 ⟨rfl, x1, x2, x3⟩
  have HP4 := Lib.hid (HP3.out.next x1 x2)
  clear x1 x2 x3 HR HP3 c0 c1 c2
  obtain ⟨hb5, c0, c1, c2⟩ := (HBx w5 HP4.out.below).out
  clear hb5
  have hpre : ((([] ++ [76, 74, 1]) ++ encL ds) ++ num ws.length).length ≤ 1000 := by simp only [List.length_append, List.length_cons, List.length_nil]; omega
  obtain ⟨pre, hpe⟩ : ∃ pre, (([] ++ [76, 74, 1]) ++ encL ds) ++ num ws.length = pre := ⟨_, rfl⟩
  have HPe := Lib.hid hpe
  rw [hpe] at HP4 hpre
  have HLp := Lib.hid hpre
  clear hpe hpre hl1 hl2
  go_wp2_with fail
  clear c0 c1 c2
  go_loopw [40] (fun i wr => ∃ j : Nat, j ≤ ws.length ∧ i = .int .i64 (j : Int) ∧ Hid (Pp wb (w.heap.size + 1) bo (pre ++ encAll encW [] ws j) wr)) (fun i _ => ws.length - (intOf i).toNat)
  case atStart => exact ⟨0, Nat.zero_le _, rfl, by simpa [encAll] using HP4⟩
  case round =>
    obtain ⟨j, hj, rfl, HP⟩ := hrel
    obtain ⟨hbr, c0, c1, c2⟩ := (HBx wr HP.out.below).out
    by_cases hlt : j < ws.length
    · obtain ⟨b, off, Aj, cj, rfl, hbl, d0, hwt⟩ := (HWs.out.next hbr) j hlt
      have hlt' : (j : Int) < (ws.length : Int) := by omega
      have hj0 : (0 : Int) ≤ (j : Int) := by omega
      have hzw := HG.out.2.1 _ (getD_in (d := []) hlt)
      have HEj : Hid (pre ++ encAll encW [] ws (j + 1) = (pre ++ encAll encW [] ws j) ++ encW (ws.getD j [])) := Lib.hid (by simp only [encAll, List.append_assoc])
      have hlen : (pre ++ encAll encW [] ws j).length ≤ 100000 := by
        have h2 := HEw.out j (by omega)
        have h3 := HLp.out
        rw [List.length_append]
        omega
      have hxl : (encW (ws.getD j [])).length ≤ 554 := by
        obtain ⟨_, q1, q2⟩ := chkW_zero hzw
        exact encW_le q1 (fun y hy => (q2 y hy).2.1)
      have HO := Lib.hid (Go.Proofs.YtahejekcfgkiaaaGreatDoor.need.put_any A Aj ca cj ds (ws.getD j []) HG.out.1 wr (HA.out.next hbr) hwt (HK.out.next hbr).need)
      unfold Go.Proofs.YtahejekcfgkiaaaGreatDoor.need.PutPost9 Go.Proofs.YtahejekcfgkiaaaGreatDoor.need.putW at HO
      rw [if_pos hzw, hzw] at HO
      clear hwt hbr hzw
      generalize pre ++ encAll encW [] ws j = pj at *
      generalize encW (ws.getD j []) = ew at *
      generalize (ws.getD j []).length = m at *
      go_wp2_with fail
      refine HO.out.mono ?_
      rintro e w6 ⟨rfl, hb6⟩
      have HPs := Lib.hid (HP.out.skip hb6)
      clear hb6 HO HP c0 c1 c2 d0
      have HR := Lib.hid (raw_any w6 (bo + 1) bo pj ew HPs.out.out (by omega))
      unfold RawPost at HR
      go_wp2_with fail
      refine HR.out.mono ?_
      rintro e w7 ⟨rfl, x1, x2, x3⟩
      have HPn := Lib.hid (HPs.out.next x1 x2)
      clear x1 x2 x3 HR HPs
      go_wp2
      go_roundw
      case rel => exact ⟨j + 1, by omega, by go_num, by rw [HEj.out]; exact HPn⟩
      case measure => simp [intOf]; omega
    · obtain rfl : j = ws.length := by omega
      have hge : decide ((ws.length : Int) < (ws.length : Int)) = false := by simp
      have hle := HEw.out ws.length (Nat.le_refl _)
      have HR := Lib.hid (cnt_any wr (bo + 1) bo (pre ++ encAll encW [] ws ws.length) fs.length (by omega) HP.out.out (by have := HLp.out; rw [List.length_append]; omega))
      unfold RawPost at HR
      clear hbr
      go_wp2_with fail
      refine HR.out.mono ?_
      rintro e w8 ⟨rfl, x1, x2, x3⟩
      have HP5 := Lib.hid (HP.out.next x1 x2)
      clear x1 x2 x3 HR HP c0 c1 c2
      obtain ⟨hb8, c0, c1, c2⟩ := (HBx w8 HP5.out.below).out
      clear hb8
      have hpre2 : ((pre ++ encAll encW [] ws ws.length) ++ num fs.length).length ≤ 100000 := by have := HLp.out; simp only [List.length_append]; omega
      obtain ⟨pre2, hpe2⟩ : ∃ pre2, (pre ++ encAll encW [] ws ws.length) ++ num fs.length = pre2 := ⟨_, rfl⟩
      have HPe2 := Lib.hid hpe2
      rw [hpe2] at HP5 hpre2
      have HLp2 := Lib.hid hpre2
      clear hpe2 hpre2 hle
      go_wp2_with fail
      clear c0 c1 c2
      go_loopw [63] (fun i wr => ∃ j : Nat, j ≤ fs.length ∧ i = .int .i64 (j : Int) ∧ Hid (Pp wb (w.heap.size + 1) bo (pre2 ++ encAll encFn Fn.zero fs j) wr)) (fun i _ => fs.length - (intOf i).toNat)
      case atStart => exact ⟨0, Nat.zero_le _, rfl, by simpa [encAll] using HP5⟩
      case round =>
        obtain ⟨j, hj, rfl, HP⟩ := hrel
        obtain ⟨hbr, c0, c1, c2⟩ := (HBx wr HP.out.below).out
        by_cases hlt : j < fs.length
        · obtain ⟨b, off, Aj, cj, rfl, hbl, hfc, hco⟩ := HFs.out j hlt
          obtain ⟨d0, d1, d2⟩ := hfc.keep (hbr.block b hbl)
          have hlt' : (j : Int) < (fs.length : Int) := by omega
          have hj0 : (0 : Int) ≤ (j : Int) := by omega
          have hzf := HG.out.2.2 _ (getD_in (d := Fn.zero) hlt)
          have HEj : Hid (pre2 ++ encAll encFn Fn.zero fs (j + 1) = (pre2 ++ encAll encFn Fn.zero fs j) ++ encFn (fs.getD j Fn.zero)) := Lib.hid (by simp only [encAll, List.append_assoc])
          have hlen : (pre2 ++ encAll encFn Fn.zero fs j).length ≤ 1000000 := by
            have h2 := HEf.out j (by omega)
            have h3 := HLp2.out
            rw [List.length_append]
            omega
          have hbx : Below wr.heap.size wr (wr.alloc (.cells #[.int .i64 (fs.getD j Fn.zero).ar, .int .i64 (fs.getD j Fn.zero).lo, .slice Aj (fs.getD j Fn.zero).co.length cj] 49)) := (Below.refl _ _).alloc (Nat.le_refl _) _
          have HPs := Lib.hid (HP.out.skip hbx)
          have hnewf := heap_alloc_new wr (.cells #[.int .i64 (fs.getD j Fn.zero).ar, .int .i64 (fs.getD j Fn.zero).lo, .slice Aj (fs.getD j Fn.zero).co.length cj] 49)
          have HO := Lib.hid (func_any w _ bo _ Aj cj (fs.getD j Fn.zero) hzf hco (hbr.trans (hbx.mono hbr.size)) (by have := HPs.out.le; omega) HK.out HPs.out.out hlen)
          clear hbx hbr hzf hlen hfc hco
          generalize pre2 ++ encAll encFn Fn.zero fs j = pj at *
          generalize encFn (fs.getD j Fn.zero) = ef at *
          generalize fs.getD j Fn.zero = f at *
          obtain ⟨far, flo, fco⟩ := f
          dsimp only at HO HPs d0 d1 d2 hnewf
          generalize fco.length = m at *
          go_upto_region 19 with fail
          generalize wr.alloc (.cells #[.int .i64 far, .int .i64 flo, .slice Aj m cj] 49) = W9 at *
          generalize wr.heap.size = gf at *
          obtain ⟨f0, f1, f2, _, _, _⟩ := cells3 hnewf
          go_wp2_with fail
          refine HO.out.mono ?_
          rintro e w9 ⟨rfl, x1, x2⟩
          have HPn := Lib.hid (HPs.out.next x1 x2)
          clear x1 x2 HO HPs c0 c1 c2 d0 d1 d2 f0 f1 f2 hnewf
          go_wp2
          go_roundw
          case rel => exact ⟨j + 1, by omega, by go_num, by rw [HEj.out]; exact HPn⟩
          case measure => simp [intOf]; omega
        · obtain rfl : j = fs.length := by omega
          have hge : decide ((fs.length : Int) < (fs.length : Int)) = false := by simp
          have HD := Lib.hid (done_any wr (bo + 1) bo _ HP.out.out)
          have HBz := Lib.hid hbr
          clear hbr
          go_wp2_with fail
          refine HD.out.mono ?_
          rintro e w9 ⟨rfl, rfl⟩
          go_wp2
          go_ret2
          exact ⟨by rw [HQ.out, HPe.out, HPe2.out]; rfl, HBz.out⟩

set_option maxHeartbeats 1000000 in
theorem put_bad (v : Value) (p : Pg) (hl : p.ds.length ≤ 9223372036854775807) (hz : chkP p ≠ 0) (w : World) (hv : PAt w v p) (hw : Okp w) :
    Calls Tryz.prog 8 #[v] w fun e w' => e = .returned (.tuple #[.string ⟨#[]⟩, .int .i64 ((chkP p : Nat) : Int)]) ∧ Below w.heap.size w w' := by
  have HCk := fun W (h1 : PAt W v p) (h2 : Okp W) => Lib.hid (check_any v p hl W h1 h2)
  unfold NumPost at HCk
  have HPv := fun W (hb : Below w.heap.size w W) => hv.next hb
  obtain ⟨A, B, C, ca, cb, cc, rfl, hA, hB, hC⟩ := hv
  have HB0 : Hid (Below w.heap.size w (w.alloc (.cells #[.slice A p.ds.length ca, .slice B p.ws.length cb, .slice C p.fs.length cc] 26))) := Lib.hid ((Below.refl _ w).alloc (Nat.le_refl _) _)
  have HC0 := HCk _ (HPv _ HB0.out) (hw.next HB0.out)
  obtain ⟨c0, c1, c2, _, _, _⟩ := cells3 (heap_alloc_new w (.cells #[.slice A p.ds.length ca, .slice B p.ws.length cb, .slice C p.fs.length cc] 26))
  have hn : (((chkP p : Nat) : Int) != 0) = true := by simpa using hz
  clear HCk HPv hA hB hC hw hz
  generalize chkP p = q at *
  generalize p.ds.length = n1 at *
  generalize p.ws.length = n2 at *
  generalize p.fs.length = n3 at *
  go_enter Tryz.func8, Tryz.ntmps8
  go_wp2_with fail
  refine HC0.out.mono ?_
  rintro e w1 ⟨rfl, hb1⟩
  have HB1 := Lib.hid (HB0.out.trans (hb1.mono HB0.out.size))
  clear hb1
  go_wp2_with fail
  go_ret2
  exact ⟨rfl, HB1.out⟩

/-- The bytes that Put answers. -/
def putP (p : Pg) : List UInt8 := if chkP p = 0 then encP p else []
def PutPost10 (p : Pg) (w : World) (e : Ending) (w' : World) : Prop := e = .returned (.tuple #[.string ⟨(putP p).toArray⟩, .int .i64 (chkP p : Nat)]) ∧ Below w.heap.size w w'
theorem put_any (v : Value) (p : Pg) (hl : p.ds.length ≤ 9223372036854775807) (w : World) (hv : PAt w v p) (hw : Okp w) : Calls Tryz.prog 8 #[v] w (PutPost10 p w) := by
  unfold PutPost10 putP
  by_cases hz : chkP p = 0
  · rw [if_pos hz, hz]
    exact put_good v p hz w hv hw
  · rw [if_neg hz]
    exact put_bad v p hl hz w hv hw
end Go.Proofs.YtahejekcfgkiaaaGreatDoor.pgm

/-
  The reader of a program's bytes (typed over the code of 4b95722): what stops it, what goes on behind bytes, numbers and counts. Texts of at most two to the forty-seventh bytes.
-/
namespace Go.Proofs.YtahejekcfgkiaaaGreatDoor.pgm
open Go.RowKit Go.ChangeShapes
open Go.Proofs.YtahejekcfgkiaaaGreatDoor.octet (St InAt Frm rdNum num extract_mk size_mk open_any left_any err_any)
open Go.Proofs.YtahejekcfgkiaaaGreatDoor.span (pN num_any)
set_option linter.unusedVariables false

/-- What a fault in the bytes panics with. -/
def flt (c : Nat) : List PanicEntry := [{ v := .iface 75 (.agg #[.int .i64 (c : Int)]), recovered := false }]
theorem stop_ok (w : World) : Calls Tryz.prog 34 #[.int .i64 0] w fun e w' => e = .returned (.tuple #[]) ∧ w = w' := by
  go_enter Tryz.func34, Tryz.ntmps34
  go_wp2
  go_end0
  exact ⟨rfl, rfl⟩
theorem stop_bad (c : Nat) (hc : c ≠ 0) (w : World) : Calls Tryz.prog 34 #[.int .i64 (c : Int)] w fun e w' => e = .panicked (flt c) ∧ w = w' := by
  have h0 : ((c : Int) != 0) = true := by simpa using hc
  clear hc
  go_enter Tryz.func34, Tryz.ntmps34
  go_wp2
  exact ⟨rfl, rfl, rfl⟩

/-- The reader at block br: the bytes that are left. -/
def RdAt (w : World) (br : Nat) (t : List UInt8) : Prop := w.heap[br]? = some (.cells #[.string ⟨t.toArray⟩] 110 (0, 0))
theorem RdAt.lt {w : World} {br : Nat} {t : List UInt8} (h : RdAt w br t) : br < w.heap.size := lt_of_block h
theorem RdAt.cell {w : World} {br : Nat} {t : List UInt8} (h : RdAt w br t) : w.cell? ⟨br, 0, none⟩ = some (.string ⟨t.toArray⟩) := by unfold RdAt at h; simp [World.cell?, h]
theorem RdAt.free {w : World} {br : Nat} {t : List UInt8} (h : RdAt w br t) : w.frozen? ⟨br, 0, none⟩ = false := by unfold RdAt at h; simp [World.frozen?, h]
theorem RdAt.kept {w w' : World} {br : Nat} {t : List UInt8} (h : RdAt w br t) (hb : w'.heap[br]? = w.heap[br]?) : RdAt w' br t := hb.trans h
theorem RdAt.set {w : World} {br : Nat} {t : List UInt8} (h : RdAt w br t) (r : List UInt8) : RdAt (w.setCell ⟨br, 0, none⟩ (.string ⟨r.toArray⟩)) br r := by
  have h' : w.heap[br]? = some (.cells #[.string ⟨t.toArray⟩] 110 (0, 0)) := h
  unfold RdAt
  simp [World.setCell, Array.getElem?_modify, h']
/-- What a call of the reader comes to: a panic where there is an error; else what it tells, behind the bytes that it read. -/
def RdPost (br : Nat) (c : Nat) (r : List UInt8) (G : World → Value → World → Prop) (w : World) (e : Ending) (w' : World) : Prop :=
  Frm w.heap.size br w w' ∧ (c ≠ 0 → e = .panicked (flt c)) ∧ (c = 0 → ∃ v, e = .returned v ∧ RdAt w' br r ∧ G w v w')
theorem RdPost.bad {br c : Nat} {r : List UInt8} {G : World → Value → World → Prop} {w w' : World} {e : Ending} (hc : c ≠ 0) (he : e = .panicked (flt c)) (hf : Frm w.heap.size br w w') : RdPost br c r G w e w' := ⟨hf, fun _ => he, fun h => absurd h hc⟩
theorem RdPost.good {br c : Nat} {r : List UInt8} {G : World → Value → World → Prop} {w w' : World} {v : Value} (hc : c = 0) (hf : Frm w.heap.size br w w') (hr : RdAt w' br r) (hg : G w v w') : RdPost br c r G w (.returned v) w' := ⟨hf, fun h => absurd hc h, fun _ => ⟨v, rfl, hr, hg⟩⟩

def NoVal : World → Value → World → Prop := fun _ v _ => v = .tuple #[]
set_option maxHeartbeats 1000000 in
theorem pass_any (w : World) (br : Nat) (t : List UInt8) (n e : Nat) (hr : RdAt w br t) (hn : n ≤ t.length) (hl : t.length ≤ 140737489403904) :
    Calls Tryz.prog 81 #[.pointer (some ⟨br, 0, none⟩), .int .i64 (n : Int), .int .i64 (e : Int)] w (RdPost br e (t.drop n) NoVal w) := by
  have hc := hr.cell
  have hz := hr.free
  have hsz := size_mk t
  by_cases he : e = 0
  · subst he
    have HR := Lib.hid (hr.set (t.drop n))
    have hsl : ∀ W : World, (Instr.slice 9 (.string ⟨t.toArray⟩) (some (.int .i64 (n : Int))) none none).run Tryz.prog W = .ok (.string ⟨(t.drop n).toArray⟩) W := fun W => by
      rw [run_slice_string_from_if W 9 ⟨t.toArray⟩ .i64 (n : Int) Tryz.underlying9, if_pos ⟨by omega, by rw [hsz]; omega⟩, Int.toNat_natCast, hsz, extract_mk, List.take_length]
    clear hr
    go_enter Tryz.func81, Tryz.ntmps81
    go_wp2_with fail
    refine (stop_ok _).mono ?_
    rintro e w1 ⟨rfl, rfl⟩
    go_wp2
    go_end0
    exact RdPost.good rfl ((Frm.refl _ _ _).setCell (p := ⟨br, 0, none⟩) (.inl rfl) _) HR.out rfl
  · have HE := Lib.hid he
    clear he hr
    go_enter Tryz.func81, Tryz.ntmps81
    go_wp2_with fail
    refine (stop_bad e HE.out _).mono ?_
    rintro e1 w1 ⟨rfl, rfl⟩
    go_wp2
    exact ⟨rfl, RdPost.bad HE.out rfl (Frm.refl _ _ _)⟩
end Go.Proofs.YtahejekcfgkiaaaGreatDoor.pgm

/-
  Numbers and counts of a program's bytes (typed over the code of 4b95722). Texts of at most two to the forty-seventh bytes.
-/
namespace Go.Proofs.YtahejekcfgkiaaaGreatDoor.pgm
open Go.RowKit Go.ChangeShapes
open Go.Proofs.YtahejekcfgkiaaaGreatDoor.octet (St InAt Frm rdNum num extract_mk size_mk open_any left_any err_any rdNum_left)
open Go.Proofs.YtahejekcfgkiaaaGreatDoor.objs (rdNum_once rdNum_err)
open Go.Proofs.YtahejekcfgkiaaaGreatDoor.span (pN num_any)
set_option linter.unusedVariables false

theorem drop_of_app {l a r : List UInt8} (h : l = a ++ r) : l.drop (l.length - r.length) = r := by
  subst h
  rw [List.length_append, Nat.add_sub_cancel]
  exact List.drop_left
theorem rdNum_zero {l : List UInt8} (h : (rdNum ⟨l, 0⟩).2.err ≠ 0) : (rdNum ⟨l, 0⟩).1 = 0 := by
  unfold rdNum at h ⊢
  dsimp only at h ⊢
  rw [if_neg (by decide)] at h ⊢
  exact (Go.Proofs.YtahejekcfgkiaaaGreatDoor.octet.dec_fails _ _ _ h).1
/-- The value that a number has. -/
def NumVal (v : Nat) : World → Value → World → Prop := fun _ x _ => x = .int .i64 ((min v 2147483647 : Nat) : Int)
set_option maxRecDepth 100000 in
set_option maxHeartbeats 4000000 in
theorem num_rd (w : World) (br : Nat) (t : List UInt8) (hr : RdAt w br t) (hl : t.length ≤ 140737489403904) :
    Calls Tryz.prog 84 #[.pointer (some ⟨br, 0, none⟩)] w (RdPost br (rdNum ⟨t, 0⟩).2.err (rdNum ⟨t, 0⟩).2.rest (NumVal (rdNum ⟨t, 0⟩).1) w) := by
  have hc := hr.cell
  have hz := hr.free
  have hsz := size_mk t
  have HOp := Lib.hid (open_any w ⟨t.toArray⟩)
  rw [show (⟨t.toArray⟩ : ByteArray).data.toList = t from by simp] at HOp
  have HNm := fun W hi => Lib.hid (num_any W w.heap.size ⟨t, 0⟩ hi (fun h => absurd rfl h) hl)
  have hle := rdNum_left ⟨t, 0⟩
  have HDr : Hid ((rdNum ⟨t, 0⟩).2.err = 0 → t.drop (t.length - (rdNum ⟨t, 0⟩).2.rest.length) = (rdNum ⟨t, 0⟩).2.rest) := Lib.hid (fun h => drop_of_app (rdNum_once h))
  unfold pN at HNm
  generalize rdNum ⟨t, 0⟩ = N at *
  obtain ⟨n, S, er⟩ := N
  dsimp only at HNm hle HDr ⊢
  have HR := Lib.hid hr
  have HL := Lib.hid (And.intro hle hl)
  clear hr hle hl
  go_enter Tryz.func84, Tryz.ntmps84
  go_wp2_with fail
  refine HOp.out.mono ?_
  rintro e w1 ⟨rfl, hi1, hb1, hs1⟩
  have HN1 := HNm w1 hi1
  have HB1 := Lib.hid hb1
  have HS1 := Lib.hid hs1
  clear hi1 hb1 hs1 HNm HOp hc hz
  go_wp2_with fail
  refine HN1.out.mono ?_
  rintro e w2 ⟨rfl, hi2, hf2⟩
  have hb2 : Below w.heap.size w w2 := HB1.out.trans (hf2.below (Nat.le_refl _) (by have := HS1.out; omega))
  have hr2 := HR.out.kept (hb2.block _ HR.out.lt)
  have hc2 := hr2.cell
  have hz2 := hr2.free
  have HF2 : Hid (Frm w.heap.size br w w2) := Lib.hid (Frm.of_below hb2)
  have HLf := Lib.hid (left_any w2.drew w.heap.size ⟨S, er⟩ hi2)
  have HEr := Lib.hid (err_any w2.drew w.heap.size ⟨S, er⟩ hi2)
  have HPs := Lib.hid (pass_any w2.drew br t (t.length - S.length) er hr2 (Nat.sub_le _ _) HL.out.2)
  have HWr : Hid (wrap64 ((t.length : Int) - (S.length : Int)) = ((t.length - S.length : Nat) : Int)) := Lib.hid (by
    have := HL.out
    rw [IntWalk.wrap64_in _ (by omega)]
    omega)
  go_wp2_with fail
  go_still_tail 11, (by kernel_rfl)
  still_call (HLf.out.mono fun e w' h => ⟨h.1, h.2.symm⟩)
  repeat still_step
  still_call (HEr.out.mono fun e w' h => ⟨h.1, h.2.symm⟩)
  repeat still_step
  refine wpStill_nil ?_
  have HF3 : Hid (Frm w.heap.size br w w2.drew ∧ w.heap.size ≤ w2.drew.heap.size) := Lib.hid ⟨HF2.out.drew, HF2.out.size⟩
  clear hi2 hf2 hb2 hr2 hc2 hz2 HLf HEr HF2
  change wpList _ _ _ _ _ w2.drew
  generalize w2.drew = W6 at *
  go_wp2_with fail
  rw [HWr.out]
  refine HPs.out.mono ?_
  rintro e w3 ⟨hf3, hbad, hgood⟩
  have HF4 := Lib.hid (HF3.out.1.trans (hf3.mono HF3.out.2))
  by_cases h0 : er = 0
  · obtain ⟨v, rfl, hr3, hv⟩ := hgood h0
    have hv2 : v = .tuple #[] := hv
    subst hv2
    have HR3 := Lib.hid hr3
    have HE0 := Lib.hid h0
    clear hbad hgood hr3 hf3 hv h0 HPs
    go_wp2
    go_ret
    exact RdPost.good HE0.out HF4.out (by have := HR3.out; rwa [HDr.out HE0.out] at this) rfl
  · obtain rfl := hbad h0
    have HE0 := Lib.hid h0
    clear hbad hgood hf3 h0 HPs
    go_wp2
    exact ⟨rfl, RdPost.bad HE0.out rfl HF4.out⟩

/-- The value that a count has. -/
def CntVal (v : Nat) : World → Value → World → Prop := fun _ x _ => x = .int .i64 (v : Int)
set_option maxRecDepth 100000 in
set_option maxHeartbeats 4000000 in
theorem count_rd (w : World) (br : Nat) (t : List UInt8) (most : Nat) (hm : most ≤ 1000) (hr : RdAt w br t) (hl : t.length ≤ 140737489403904) :
    Calls Tryz.prog 82 #[.pointer (some ⟨br, 0, none⟩), .int .i64 (most : Int)] w (RdPost br (rdMany ⟨t, 0⟩ most).2.2 (rdMany ⟨t, 0⟩ most).2.1.rest (CntVal (rdMany ⟨t, 0⟩ most).1) w) := by
  have HN := Lib.hid (num_rd w br t hr hl)
  have HX : Hid ((rdNum ⟨t, 0⟩).2.err ≠ 0 → (rdNum ⟨t, 0⟩).1 = 0) := Lib.hid (fun h => rdNum_zero h)
  obtain ⟨q, hq⟩ : ∃ q, q = rdMany ⟨t, 0⟩ most := ⟨_, rfl⟩
  rw [← hq]
  unfold rdMany at hq
  generalize rdNum ⟨t, 0⟩ = N at *
  obtain ⟨n, S, er⟩ := N
  dsimp only at HN HX hq
  clear hr hl
  by_cases he : er = 0
  · subst he
    by_cases h4 : most < n
    · rw [if_pos h4] at hq
      have hd : decide ((most : Int) < ((min n 2147483647 : Nat) : Int)) = true := by simp; omega
      clear h4
      subst hq
      go_enter Tryz.func82, Tryz.ntmps82
      go_wp2_with fail
      refine HN.out.mono ?_
      rintro e w1 ⟨hf1, hbad, hgood⟩
      obtain ⟨v, rfl, hr1, hv⟩ := hgood rfl
      have hv2 : v = .int .i64 ((min n 2147483647 : Nat) : Int) := hv
      subst hv2
      have HF1 := Lib.hid hf1
      clear hbad hgood hr1 hf1 hv HN
      generalize ((min n 2147483647 : Nat) : Int) = x at *
      go_wp2_with fail
      refine (stop_bad 4 (by decide) _).mono ?_
      rintro e w2 ⟨rfl, rfl⟩
      go_wp2
      exact ⟨rfl, RdPost.bad (by decide) rfl HF1.out⟩
    · rw [if_neg h4] at hq
      have hx : ((min n 2147483647 : Nat) : Int) = (n : Int) := by omega
      have hd : decide ((most : Int) < (n : Int)) = false := by simp; omega
      have hd2 : decide (most < n) = false := by simp; omega
      unfold NumVal at HN
      rw [hx] at HN
      clear h4 hx
      subst hq
      go_enter Tryz.func82, Tryz.ntmps82
      go_wp2_with fail
      refine HN.out.mono ?_
      rintro e w1 ⟨hf1, hbad, hgood⟩
      obtain ⟨v, rfl, hr1, hv⟩ := hgood rfl
      have hv2 : v = .int .i64 (n : Int) := hv
      subst hv2
      have HF1 := Lib.hid hf1
      have HR1 := Lib.hid hr1
      clear hbad hgood hr1 hf1 hv HN
      go_wp2
      go_ret
      exact RdPost.good rfl HF1.out HR1.out rfl
  · have hn0 := HX.out he
    subst hn0
    rw [if_neg (by omega)] at hq
    have HE0 := Lib.hid he
    clear he
    subst hq
    go_enter Tryz.func82, Tryz.ntmps82
    go_wp2_with fail
    refine HN.out.mono ?_
    rintro e w1 ⟨hf1, hbad, hgood⟩
    obtain rfl := hbad HE0.out
    have HF1 := Lib.hid hf1
    clear hbad hgood hf1 HN
    go_wp2
    exact ⟨rfl, RdPost.bad HE0.out rfl HF1.out⟩
end Go.Proofs.YtahejekcfgkiaaaGreatDoor.pgm

/-
  Rows that a call owns: of instructions, of waits, of functions; and append behind them. No condition.
-/
namespace Go.Proofs.YtahejekcfgkiaaaGreatDoor.pgm
open Go.RowKit Go.ChangeShapes
open Go.Proofs.YtahejekcfgkiaaaGreatDoor.objs (De zero CellsAt DAt flat flat_append flat_length flat_at flat_oneCell src_cells I64 Ints)
open Go.Proofs.YtahejekcfgkiaaaGreatDoor.need (WAt OwnN OwnW)
set_option linter.unusedVariables false

/-- A slice's value of instructions, nil or a row of the call's own. -/
def OwnJ (w : World) (base : Nat) (v : Value) (l : List De) : Prop := w.ownsRow base 51 3 v l.length (flat l)
theorem OwnJ.nil (w : World) (base : Nat) : OwnJ w base (.slice none 0 0) [] := World.ownsRow_nil ..
theorem OwnJ.empty {w : World} {g : Nat} (h : w.heap[g]? = some (.cells #[] 51 (0, 0))) : OwnJ w g (.slice (some ⟨g, 0, none⟩) 0 0) [] :=
  ⟨rfl, .inr ⟨g, 0, #[], rfl, Nat.le_refl _, h, Nat.le_refl _, Nat.zero_le _, rfl, rfl⟩⟩
theorem OwnJ.slice {w : World} {base : Nat} {v : Value} {l : List De} (h : OwnJ w base v l) : ∃ A cap, v = .slice A l.length cap := by
  rcases h.2 with ⟨rfl, h0⟩ | ⟨g, cap, cur, rfl, _⟩
  · exact ⟨none, 0, by rw [h0]⟩
  · exact ⟨_, _, rfl⟩
theorem OwnJ.at {w : World} {base cap : Nat} {A : Option Addr} {l : List De} {n : Nat} (h : OwnJ w base (.slice A n cap) l) : DAt w A l := by
  intro j hj
  rcases h.2 with ⟨e, h0⟩ | ⟨g, cap', cur, e, hb, hh, _⟩
  · omega
  · injection e with e1 e2 e3
    subst e1
    obtain ⟨h1, h2, h3⟩ := flat_at l j hj
    refine ⟨g, 0, rfl, lt_of_block hh, ?_, ?_, ?_⟩
    · have := World.ownsRow.cells h (g := g) rfl _ _ h1
      rw [Addr.add_lit] at this
      simpa using this
    · have := World.ownsRow.cells h (g := g) rfl _ _ h2
      rw [Addr.add_lit] at this
      simpa using this
    · have := World.ownsRow.cells h (g := g) rfl _ _ h3
      rw [Addr.add_lit] at this
      simpa using this
theorem OwnJ.keep {w w' : World} {base : Nat} {v : Value} {l : List De} (h : OwnJ w base v l) (hk : ∀ g, v.ownBlock = some g → w'.heap[g]? = w.heap[g]?) : OwnJ w' base v l := by
  refine ⟨h.1, h.2.imp id ?_⟩
  rintro ⟨g, c, cur, rfl, hb, hh, r⟩
  exact ⟨g, c, cur, rfl, hb, (hk g rfl).trans hh, r⟩
theorem OwnJ.lt {w : World} {base g : Nat} {v : Value} {l : List De} (h : OwnJ w base v l) (hg : v.ownBlock = some g) : base ≤ g ∧ g < w.heap.size := World.ownsRow.lt h g hg
theorem OwnJ.next {w w' : World} {base : Nat} {v : Value} {l : List De} (h : OwnJ w base v l) (hb : Below w.heap.size w w') : OwnJ w' base v l := h.keep fun g hg => hb.block g (h.lt hg).2
theorem OwnJ.base {w : World} {base base' : Nat} {v : Value} {l : List De} (h : OwnJ w base v l) (hb : base' ≤ base) : OwnJ w base' v l := by
  refine ⟨h.1, h.2.imp id ?_⟩
  rintro ⟨g, c, cur, e, hb1, r⟩
  exact ⟨g, c, cur, e, Nat.le_trans hb hb1, r⟩

theorem infoJ : (Tryz.prog.info? 51).map (fun i => (i.zero, i.size, i.bytes)) = some (some (.agg #[.int .i64 0, .int .i64 0, .int .i64 0]), 3, 24) := by kernel_rfl

/-- A list that lies anywhere, put behind a row of a call's own. -/
theorem run_appJ (w : World) (ty : TypeId) (base m c : Nat) (v : Value) (A : Option Addr) (l r : List De) (hrow : OwnJ w base v l) (hm : m = r.length) (hA : A = none → r = [] ∧ c = 0) (hsrc : DAt w A r) (hlen : l.length + r.length ≤ 100000) (hbase : base ≤ w.heap.size) :
    ∃ v' w', (Builtin.append_ #[47, 47] ty #[v, .slice A m c]).run Tryz.prog w = .ok v' w' ∧ OwnJ w' base v' (l ++ r) ∧ w.grownBy w' v.ownBlock := by
  subst hm
  obtain ⟨i, hi, hz0, hz1, hz2⟩ := info_parts infoJ
  cases A with
  | none =>
    obtain ⟨rfl, rfl⟩ := hA rfl
    refine ⟨v, w, run_append_owned_none (P := Tryz.prog) (w := w) base 47 ty 51 i 3 Tryz.underlying47 hi v l.length (flat l) hrow, ?_, ⟨rfl, rfl, rfl, Nat.le_refl _, fun _ _ _ => rfl⟩⟩
    rw [List.append_nil]
    exact hrow
  | some ad =>
    obtain ⟨v', w', h1, h2, h3, _⟩ := run_append_own (P := Tryz.prog) w base 47 ty 51 i _ 3 24 Tryz.underlying47 hi hz0 hz1 hz2 rfl (by omega) v l.length (flat l) hrow ad r.length c (flat r) (flat_length r) (src_cells hsrc) (flat_oneCell r) (by unfold maxLen; omega) (by omega) hbase
    refine ⟨v', w', h1, ?_, h3⟩
    unfold OwnJ
    rw [List.length_append, flat_append]
    exact h2
theorem wp_appJ {o : Oper} {a : Act} {w : World} {K : Act → World → Prop} {Q : Exit → Act → World → Prop} (s x : Operand)
    (ho : o.op = .call { callee := .builtin .append, args := #[s, x], argTypes := #[47, 47] }) (base m c : Nat) (v : Value) (A : Option Addr) (l r : List De)
    (hs : a.eval s = v) (hrow : OwnJ w base v l) (hx : a.eval x = .slice A m c) (hm : m = r.length) (hA : A = none → r = [] ∧ c = 0) (hsrc : DAt w A r) (hlen : l.length + r.length ≤ 100000) (hbase : base ≤ w.heap.size)
    (h : ∀ v' w', OwnJ w' base v' (l ++ r) → w.grownBy w' v.ownBlock → K (a.put o.dst v') w') : o.wp Tryz.prog a w K Q := by
  obtain ⟨v', w', hr, h2, h3⟩ := run_appJ w o.type base m c v A l r hrow hm hA hsrc hlen hbase
  unfold Oper.wp execOp
  simp only [ho, resolve, invoke, builtin, Sem.run_bind, Sem.run_pure, Result.andThen_ok, List.map_toArray, List.map_cons, List.map_nil, hs, hx, hr]
  exact h v' w' h2 h3
theorem wpList_appJ {ops : Array Oper} {rest : List Oper} {o : Oper} {a : Act} {w : World} {Q : Exit → Act → World → Prop} (hgd : o.guard = none) (s x : Operand)
    (ho : o.op = .call { callee := .builtin .append, args := #[s, x], argTypes := #[47, 47] }) (base m c : Nat) (v : Value) (A : Option Addr) (l r : List De)
    (hs : a.eval s = v) (hrow : OwnJ w base v l) (hx : a.eval x = .slice A m c) (hm : m = r.length) (hA : A = none → r = [] ∧ c = 0) (hsrc : DAt w A r) (hlen : l.length + r.length ≤ 100000) (hbase : base ≤ w.heap.size)
    (h : ∀ v' w', OwnJ w' base v' (l ++ r) → w.grownBy w' v.ownBlock → wpList Tryz.prog ops Q rest (a.put o.dst v') w') : wpList Tryz.prog ops Q (o :: rest) a w :=
  wpList_plain hgd fun _ hK => wp_appJ s x ho base m c v A l r hs hrow hx hm hA hsrc hlen hbase fun v' w' h2 h3 => hK _ _ (h v' w' h2 h3)
theorem step_appJ {ops : Array Oper} {o : Oper} {a : Act} {w : World} {K : Act → World → Prop} {Q : Exit → Act → World → Prop} {E : Prop} (hgd : o.guard = none) (s x : Operand)
    (ho : o.op = .call { callee := .builtin .append, args := #[s, x], argTypes := #[47, 47] }) (base m c : Nat) (v : Value) (A : Option Addr) (l r : List De)
    (hs : a.eval s = v) (hrow : OwnJ w base v l) (hx : a.eval x = .slice A m c) (hm : m = r.length) (hA : A = none → r = [] ∧ c = 0) (hsrc : DAt w A r) (hlen : l.length + r.length ≤ 100000) (hbase : base ≤ w.heap.size)
    (h : ∀ v' w', OwnJ w' base v' (l ++ r) → w.grownBy w' v.ownBlock → K (a.put o.dst v') w') :
    if Region.wanted o (yielded ops a.tmps) = true then Oper.wp Tryz.prog o a w K Q else E := by
  have hw : Region.wanted o (yielded ops a.tmps) = true := by simp [Region.wanted, hgd]
  rw [if_pos hw]
  exact wp_appJ s x ho base m c v A l r hs hrow hx hm hA hsrc hlen hbase h
theorem DAt.oneJ {w : World} {g : Nat} {d : De} (h : w.heap[g]? = some (.cells #[.int .i64 d.1, .int .i64 d.2.1, .int .i64 d.2.2] 51 (0, 0))) : DAt w (some ⟨g, 0, none⟩) [d] := fun j hj => by
  obtain rfl : j = 0 := by simpa using hj
  refine ⟨g, 0, rfl, lt_of_block h, ?_, ?_, ?_⟩
  all_goals
    unfold World.cell?
    rw [h]
    rfl
/-- What a row of instructions holds: its block is one of instructions. -/
theorem OwnJ.kind {w : World} {base g : Nat} {v : Value} {l : List De} (h : OwnJ w base v l) (hg : v.ownBlock = some g) : ∃ cur, w.heap[g]? = some (.cells cur 51 (0, 0)) := by
  rcases h.2 with ⟨rfl, _⟩ | ⟨g', cap, cur, rfl, _, hh, _⟩
  · cases hg
  · simp [Value.ownBlock] at hg
    subst hg
    exact ⟨cur, hh⟩

/-- A row of ways stays where blocks of ways and of needs stay. -/
theorem _root_.Go.Proofs.YtahejekcfgkiaaaGreatDoor.need.OwnW.kinds {w w' : World} {base : Nat} {v : Value} {l : List (List De)} (h : OwnW w base v l) (hk : ∀ g, g < w.heap.size → (∃ cur, w.heap[g]? = some (.cells cur 89 (0, 0)) ∨ w.heap[g]? = some (.cells cur 93 (0, 0))) → w'.heap[g]? = w.heap[g]?) : OwnW w' base v l := by
  obtain ⟨xs, h1, h2⟩ := h
  refine ⟨xs, ⟨h1.1, h1.2.imp id ?_⟩, fun j hj => ?_⟩
  · rintro ⟨g, c, cur, rfl, hg, hh, r⟩
    exact ⟨g, c, cur, rfl, hg, (hk g (lt_of_block hh) ⟨cur, .inl hh⟩).trans hh, r⟩
  · obtain ⟨x, h3, h4⟩ := h2 j hj
    exact ⟨x, h3, h4.keep fun g hg => hk g (h4.lt hg).2 (by obtain ⟨cur, h5⟩ := h4.kind hg; exact ⟨cur, .inr h5⟩)⟩

/-- A row of waits that a call owns, each of them a row of ways of the call's own. -/
def OwnV (W : World) (base : Nat) (v : Value) (l : List (List (List De))) : Prop :=
  ∃ xs : List Value, W.ownsRow base 45 1 v l.length xs ∧ ∀ j, j < l.length → ∃ x, xs[j]? = some x ∧ OwnW W base x (l.getD j [])
theorem OwnV.slice {w : World} {base : Nat} {v : Value} {l : List (List (List De))} (h : OwnV w base v l) : ∃ A cap, v = .slice A l.length cap := by
  obtain ⟨xs, h1, _⟩ := h
  rcases h1.2 with ⟨rfl, h0⟩ | ⟨g, cap, cur, rfl, _⟩
  · exact ⟨none, 0, by rw [h0]⟩
  · exact ⟨_, _, rfl⟩
theorem OwnV.next {w w' : World} {base : Nat} {v : Value} {l : List (List (List De))} (h : OwnV w base v l) (hb : Below w.heap.size w w') : OwnV w' base v l := by
  obtain ⟨xs, h1, h2⟩ := h
  refine ⟨xs, ?_, fun j hj => ?_⟩
  · refine ⟨h1.1, h1.2.imp id ?_⟩
    rintro ⟨g, c, cur, rfl, hg, hh, r⟩
    exact ⟨g, c, cur, rfl, hg, (hb.block g (lt_of_block hh)).trans hh, r⟩
  · obtain ⟨x, h3, h4⟩ := h2 j hj
    exact ⟨x, h3, h4.next hb⟩
theorem OwnV.nil (w : World) (base : Nat) : OwnV w base (.slice none 0 0) [] := ⟨[], World.ownsRow_nil .., fun j hj => absurd hj (Nat.not_lt_zero j)⟩
theorem OwnV.empty {w : World} {g : Nat} (h : w.heap[g]? = some (.cells #[] 45 (0, 0))) : OwnV w g (.slice (some ⟨g, 0, none⟩) 0 0) [] :=
  ⟨[], ⟨rfl, .inr ⟨g, 0, #[], rfl, Nat.le_refl _, h, Nat.le_refl _, Nat.zero_le _, rfl, rfl⟩⟩, fun j hj => absurd hj (Nat.not_lt_zero j)⟩
theorem OwnV.base {w : World} {base base' : Nat} {v : Value} {l : List (List (List De))} (h : OwnV w base v l) (hb : base' ≤ base) : OwnV w base' v l := by
  obtain ⟨xs, h1, h2⟩ := h
  refine ⟨xs, ⟨h1.1, h1.2.imp id ?_⟩, fun j hj => ?_⟩
  · rintro ⟨g, c, cur, e, hg, r⟩
    exact ⟨g, c, cur, e, Nat.le_trans hb hg, r⟩
  · obtain ⟨x, h3, h4⟩ := h2 j hj
    exact ⟨x, h3, h4.base hb⟩
theorem OwnV.at {w : World} {base cap : Nat} {A : Option Addr} {l : List (List (List De))} {n : Nat} (h : OwnV w base (.slice A n cap) l) : WsAt w A l := by
  intro j hj
  obtain ⟨xs, h1, h2⟩ := h
  obtain ⟨x, h3, h4⟩ := h2 j hj
  rcases h1.2 with ⟨e, h0⟩ | ⟨g, cap', cur, e, hb, hh, _⟩
  · omega
  · injection e with e1 e2 e3
    subst e1
    obtain ⟨Aj, cj, rfl⟩ := h4.slice
    refine ⟨g, 0, Aj, cj, rfl, lt_of_block hh, ?_, h4.at⟩
    have := World.ownsRow.cells h1 (g := g) rfl _ _ h3
    rw [Addr.add_lit] at this
    simpa using this
theorem OwnV.hold {w w' : World} {base : Nat} {v : Value} {l : List (List (List De))} (h : OwnV w base v l) (hk : ∀ g, base ≤ g → g < w.heap.size → w'.heap[g]? = w.heap[g]?) : OwnV w' base v l := by
  obtain ⟨xs, h1, h2⟩ := h
  refine ⟨xs, ⟨h1.1, h1.2.imp id ?_⟩, fun j hj => ?_⟩
  · rintro ⟨g, c, cur, rfl, hg, hh, r⟩
    exact ⟨g, c, cur, rfl, hg, (hk g hg (lt_of_block hh)).trans hh, r⟩
  · obtain ⟨x, h3, ys, h4, h5⟩ := h2 j hj
    refine ⟨x, h3, ys, ⟨h4.1, h4.2.imp id ?_⟩, fun i hi => ?_⟩
    · rintro ⟨g, c, cur, rfl, hg, hh, r⟩
      exact ⟨g, c, cur, rfl, hg, (hk g hg (lt_of_block hh)).trans hh, r⟩
    · obtain ⟨y, h6, h7⟩ := h5 i hi
      exact ⟨y, h6, h7.keep fun g hg => hk g (h7.lt hg).1 (h7.lt hg).2⟩
theorem infoV : (Tryz.prog.info? 45).map (fun i => (i.zero, i.size, i.bytes)) = some (some (.slice none 0 0), 1, 24) := by kernel_rfl

/-- One wait, in a block of its own, put behind a row of waits. -/
theorem run_appV (w w1 : World) (ty : TypeId) (base c : Nat) (v x : Value) (l : List (List (List De))) (r : List (List De)) (hrow : OwnV w base v l) (hx : OwnW w base x r) (hw1 : w1 = w.alloc (.cells #[x] 45)) (hlen : l.length ≤ 1000) (hbase : base ≤ w.heap.size) :
    ∃ v' w', (Builtin.append_ #[23, 23] ty #[v, .slice (some ⟨w.heap.size, 0, none⟩) 1 c]).run Tryz.prog w1 = .ok v' w' ∧ OwnV w' base v' (l ++ [r]) ∧ w1.grownBy w' v.ownBlock := by
  subst hw1
  obtain ⟨i, hi, hz0, hz1, hz2⟩ := info_parts infoV
  obtain ⟨xs, h1, h2⟩ := hrow
  have hb0 : Below w.heap.size w (w.alloc (.cells #[x] 45)) := (Below.refl _ w).alloc (Nat.le_refl _) _
  have hc : (w.alloc (.cells #[x] 45)).cell? ⟨w.heap.size, 0, none⟩ = some x := by
    unfold World.cell?
    rw [heap_alloc_new w _]
    rfl
  have hrow1 : (w.alloc (.cells #[x] 45)).ownsRow base 45 1 v l.length xs := by
    refine ⟨h1.1, h1.2.imp id ?_⟩
    rintro ⟨g, c, cur, rfl, hg, hh, r⟩
    exact ⟨g, c, cur, rfl, hg, (hb0.block g (lt_of_block hh)).trans hh, r⟩
  obtain ⟨Ax, cx, hxs⟩ := hx.slice
  obtain ⟨v', w', r1, r2, r3, _⟩ := run_append_own (P := Tryz.prog) (w.alloc (.cells #[x] 45)) base 23 ty 45 i _ 1 24 Tryz.underlying23 hi hz0 hz1 hz2 rfl (by omega) v l.length xs hrow1 ⟨w.heap.size, 0, none⟩ 1 c [x] rfl (by
      intro j u hu
      rcases j with _ | j
      · simp only [List.getElem?_cons_zero, Option.some.injEq] at hu
        subst hu
        rw [Addr.add_lit]
        exact hc
      · simp at hu) (by
      intro u hu
      simp only [List.mem_singleton] at hu
      subst hu
      rw [hxs]
      rfl) (by unfold maxLen; omega) (by omega) (by simp; omega)
  refine ⟨v', w', r1, ⟨xs ++ [x], ?_, fun j hj => ?_⟩, r3⟩
  · rw [List.length_append]
    exact r2
  · have hlx : xs.length = l.length := by have := h1.1; omega
    have keep : ∀ (y : Value) (r' : List (List De)), OwnW w base y r' → OwnW w' base y r' := fun y r' hy => hy.kinds fun g hlt hk => by
      rw [r3.block g (by have := hb0.size; omega) (fun e => ?_), hb0.block g hlt]
      rcases h1.2 with ⟨rfl, _⟩ | ⟨g', cap', cur', rfl, _, hh, _⟩
      · cases e
      · simp [Value.ownBlock] at e
        subst e
        obtain ⟨cur, hk | hk⟩ := hk
        · rw [hk] at hh
          injection hh with hh
          injection hh with _ hh _
          exact absurd hh (by decide)
        · rw [hk] at hh
          injection hh with hh
          injection hh with _ hh _
          exact absurd hh (by decide)
    rcases Nat.lt_or_ge j l.length with hj2 | hj2
    · obtain ⟨y, h3, h4⟩ := h2 j hj2
      refine ⟨y, by rw [List.getElem?_append_left (by omega)]; exact h3, ?_⟩
      rw [show (l ++ [r]).getD j [] = l.getD j [] from by rw [List.getD_eq_getElem?_getD, List.getD_eq_getElem?_getD, List.getElem?_append_left hj2]]
      exact keep _ _ h4
    · rw [List.length_append] at hj
      obtain rfl : j = l.length := by simp at hj; omega
      refine ⟨x, by rw [List.getElem?_append_right (by omega), hlx, Nat.sub_self]; rfl, ?_⟩
      rw [show (l ++ [r]).getD l.length [] = r from by rw [List.getD_eq_getElem?_getD, List.getElem?_append_right (Nat.le_refl _), Nat.sub_self]; rfl]
      exact keep _ _ hx
theorem wp_appV {o : Oper} {a : Act} {w w1 : World} {K : Act → World → Prop} {Q : Exit → Act → World → Prop} (s y : Operand)
    (ho : o.op = .call { callee := .builtin .append, args := #[s, y], argTypes := #[23, 23] }) (base c : Nat) (v x : Value) (l : List (List (List De))) (r : List (List De))
    (hs : a.eval s = v) (hrow : OwnV w base v l) (hy : a.eval y = .slice (some ⟨w.heap.size, 0, none⟩) 1 c) (hx : OwnW w base x r) (hw1 : w1 = w.alloc (.cells #[x] 45)) (hlen : l.length ≤ 1000) (hbase : base ≤ w.heap.size)
    (h : ∀ v' w', OwnV w' base v' (l ++ [r]) → w1.grownBy w' v.ownBlock → K (a.put o.dst v') w') : o.wp Tryz.prog a w1 K Q := by
  obtain ⟨v', w', hr, h2, h3⟩ := run_appV w w1 o.type base c v x l r hrow hx hw1 hlen hbase
  unfold Oper.wp execOp
  simp only [ho, resolve, invoke, builtin, Sem.run_bind, Sem.run_pure, Result.andThen_ok, List.map_toArray, List.map_cons, List.map_nil, hs, hy, hr]
  exact h v' w' h2 h3
theorem wpList_appV {ops : Array Oper} {rest : List Oper} {o : Oper} {a : Act} {w w1 : World} {Q : Exit → Act → World → Prop} (hgd : o.guard = none) (s y : Operand)
    (ho : o.op = .call { callee := .builtin .append, args := #[s, y], argTypes := #[23, 23] }) (base c : Nat) (v x : Value) (l : List (List (List De))) (r : List (List De))
    (hs : a.eval s = v) (hrow : OwnV w base v l) (hy : a.eval y = .slice (some ⟨w.heap.size, 0, none⟩) 1 c) (hx : OwnW w base x r) (hw1 : w1 = w.alloc (.cells #[x] 45)) (hlen : l.length ≤ 1000) (hbase : base ≤ w.heap.size)
    (h : ∀ v' w', OwnV w' base v' (l ++ [r]) → w1.grownBy w' v.ownBlock → wpList Tryz.prog ops Q rest (a.put o.dst v') w') : wpList Tryz.prog ops Q (o :: rest) a w1 :=
  wpList_plain hgd fun _ hK => wp_appV s y ho base c v x l r hs hrow hy hx hw1 hlen hbase fun v' w' h2 h3 => hK _ _ (h v' w' h2 h3)
theorem step_appV {ops : Array Oper} {o : Oper} {a : Act} {w w1 : World} {K : Act → World → Prop} {Q : Exit → Act → World → Prop} {E : Prop} (hgd : o.guard = none) (s y : Operand)
    (ho : o.op = .call { callee := .builtin .append, args := #[s, y], argTypes := #[23, 23] }) (base c : Nat) (v x : Value) (l : List (List (List De))) (r : List (List De))
    (hs : a.eval s = v) (hrow : OwnV w base v l) (hy : a.eval y = .slice (some ⟨w.heap.size, 0, none⟩) 1 c) (hx : OwnW w base x r) (hw1 : w1 = w.alloc (.cells #[x] 45)) (hlen : l.length ≤ 1000) (hbase : base ≤ w.heap.size)
    (h : ∀ v' w', OwnV w' base v' (l ++ [r]) → w1.grownBy w' v.ownBlock → K (a.put o.dst v') w') :
    if Region.wanted o (yielded ops a.tmps) = true then Oper.wp Tryz.prog o a w1 K Q else E := by
  have hw : Region.wanted o (yielded ops a.tmps) = true := by simp [Region.wanted, hgd]
  rw [if_pos hw]
  exact wp_appV s y ho base c v x l r hs hrow hy hx hw1 hlen hbase h

/-- A row of functions that a call owns, each one's code a row of instructions of the call's own. -/
def OwnF (W : World) (base : Nat) (v : Value) (l : List Fn) : Prop :=
  ∃ xs : List Value, W.ownsRow base 49 3 v l.length xs ∧ ∀ j, j < l.length → xs[j * 3]? = some (.int .i64 (l.getD j Fn.zero).ar) ∧ xs[j * 3 + 1]? = some (.int .i64 (l.getD j Fn.zero).lo) ∧ ∃ x, xs[j * 3 + 2]? = some x ∧ OwnJ W base x (l.getD j Fn.zero).co
theorem OwnF.slice {w : World} {base : Nat} {v : Value} {l : List Fn} (h : OwnF w base v l) : ∃ A cap, v = .slice A l.length cap := by
  obtain ⟨xs, h1, _⟩ := h
  rcases h1.2 with ⟨rfl, h0⟩ | ⟨g, cap, cur, rfl, _⟩
  · exact ⟨none, 0, by rw [h0]⟩
  · exact ⟨_, _, rfl⟩
theorem OwnF.hold {w w' : World} {base : Nat} {v : Value} {l : List Fn} (h : OwnF w base v l) (hk : ∀ g, base ≤ g → g < w.heap.size → w'.heap[g]? = w.heap[g]?) : OwnF w' base v l := by
  obtain ⟨xs, h1, h2⟩ := h
  refine ⟨xs, ⟨h1.1, h1.2.imp id ?_⟩, fun j hj => ?_⟩
  · rintro ⟨g, c, cur, rfl, hg, hh, r⟩
    exact ⟨g, c, cur, rfl, hg, (hk g hg (lt_of_block hh)).trans hh, r⟩
  · obtain ⟨e1, e2, x, h3, h4⟩ := h2 j hj
    exact ⟨e1, e2, x, h3, h4.keep fun g hg => hk g (h4.lt hg).1 (h4.lt hg).2⟩
theorem OwnF.next {w w' : World} {base : Nat} {v : Value} {l : List Fn} (h : OwnF w base v l) (hb : Below w.heap.size w w') : OwnF w' base v l := h.hold fun g _ hg => hb.block g hg
theorem OwnF.nil (w : World) (base : Nat) : OwnF w base (.slice none 0 0) [] := ⟨[], World.ownsRow_nil .., fun j hj => absurd hj (Nat.not_lt_zero j)⟩
theorem OwnF.base {w : World} {base base' : Nat} {v : Value} {l : List Fn} (h : OwnF w base v l) (hb : base' ≤ base) : OwnF w base' v l := by
  obtain ⟨xs, h1, h2⟩ := h
  refine ⟨xs, ⟨h1.1, h1.2.imp id ?_⟩, fun j hj => ?_⟩
  · rintro ⟨g, c, cur, e, hg, r⟩
    exact ⟨g, c, cur, e, Nat.le_trans hb hg, r⟩
  · obtain ⟨e1, e2, x, h3, h4⟩ := h2 j hj
    exact ⟨e1, e2, x, h3, h4.base hb⟩
theorem OwnF.at {w : World} {base cap : Nat} {A : Option Addr} {l : List Fn} {n : Nat} (h : OwnF w base (.slice A n cap) l) : FsAt w A l := by
  intro j hj
  obtain ⟨xs, h1, h2⟩ := h
  obtain ⟨e1, e2, x, h3, h4⟩ := h2 j hj
  rcases h1.2 with ⟨e, h0⟩ | ⟨g, cap', cur, e, hb, hh, _⟩
  · omega
  · injection e with q1 q2 q3
    subst q1
    obtain ⟨Aj, cj, rfl⟩ := h4.slice
    have at_ : ∀ i u, xs[i]? = some u → w.cell? ⟨g, 0 + i, none⟩ = some u := fun i u hu => by
      have := World.ownsRow.cells h1 (g := g) rfl _ _ hu
      rwa [Addr.add_lit] at this
    exact ⟨g, 0, Aj, cj, rfl, lt_of_block hh, ⟨at_ _ _ e1, at_ _ _ e2, at_ _ _ h3⟩, h4.at⟩
theorem infoF : (Tryz.prog.info? 49).map (fun i => (i.zero, i.size, i.bytes)) = some (some (.agg #[.int .i64 0, .int .i64 0, .slice none 0 0]), 3, 40) := by kernel_rfl
/-- One function, in a block of its own, put behind a row of functions. -/
theorem run_appF (w w1 : World) (ty : TypeId) (base c : Nat) (v x : Value) (l : List Fn) (f : Fn) (hrow : OwnF w base v l) (hx : OwnJ w base x f.co) (hw1 : w1 = w.alloc (.cells #[.int .i64 f.ar, .int .i64 f.lo, x] 49)) (hlen : l.length ≤ 1000) (hbase : base ≤ w.heap.size) :
    ∃ v' w', (Builtin.append_ #[24, 24] ty #[v, .slice (some ⟨w.heap.size, 0, none⟩) 1 c]).run Tryz.prog w1 = .ok v' w' ∧ OwnF w' base v' (l ++ [f]) ∧ w1.grownBy w' v.ownBlock := by
  subst hw1
  obtain ⟨i, hi, hz0, hz1, hz2⟩ := info_parts infoF
  obtain ⟨xs, h1, h2⟩ := hrow
  obtain ⟨F, hF⟩ : ∃ F : Obj, F = .cells #[.int .i64 f.ar, .int .i64 f.lo, x] 49 := ⟨_, rfl⟩
  rw [← hF]
  have hb0 : Below w.heap.size w (w.alloc F) := (Below.refl _ w).alloc (Nat.le_refl _) _
  have hnew : (w.alloc F).heap[w.heap.size]? = some F := heap_alloc_new w F
  have hc : ∀ (j : Nat) (u : Value), [Value.int .i64 f.ar, .int .i64 f.lo, x][j]? = some u → (w.alloc F).cell? ((⟨w.heap.size, 0, none⟩ : Addr).add j) = some u := by
    intro j u hu
    rw [Addr.add_lit, Nat.zero_add]
    unfold World.cell?
    rw [hnew, hF]
    rcases j with _ | _ | _ | j
    · simpa using hu
    · simpa using hu
    · simpa using hu
    · simp at hu
  have hrow1 : (w.alloc F).ownsRow base 49 3 v l.length xs := by
    refine ⟨h1.1, h1.2.imp id ?_⟩
    rintro ⟨g, c, cur, rfl, hg, hh, r⟩
    exact ⟨g, c, cur, rfl, hg, (hb0.block g (lt_of_block hh)).trans hh, r⟩
  obtain ⟨Ax, cx, hxs⟩ := hx.slice
  obtain ⟨v', w', r1, r2, r3, _⟩ := run_append_own (P := Tryz.prog) (w.alloc F) base 24 ty 49 i _ 3 40 Tryz.underlying24 hi hz0 hz1 hz2 rfl (by omega) v l.length xs hrow1 ⟨w.heap.size, 0, none⟩ 1 c [.int .i64 f.ar, .int .i64 f.lo, x] rfl hc (by
      intro u hu
      simp only [List.mem_cons, List.not_mem_nil, or_false] at hu
      rcases hu with rfl | rfl | rfl
      · rfl
      · rfl
      · rw [hxs]; rfl) (by unfold maxLen; omega) (by omega) (by simp; omega)
  refine ⟨v', w', r1, ⟨xs ++ [.int .i64 f.ar, .int .i64 f.lo, x], ?_, fun j hj => ?_⟩, r3⟩
  · rw [List.length_append]
    exact r2
  · have hlx : xs.length = l.length * 3 := by have := h1.1; omega
    have keep : ∀ (y : Value) (r' : List De), OwnJ w base y r' → OwnJ w' base y r' := fun y r' hy => hy.keep fun g hg => by
      have hlt := (hy.lt hg).2
      obtain ⟨cur, hk⟩ := hy.kind hg
      rw [r3.block g (by have := hb0.size; omega) (fun e => ?_), hb0.block g hlt]
      rcases h1.2 with ⟨rfl, _⟩ | ⟨g', cap', cur', rfl, _, hh, _⟩
      · cases e
      · simp [Value.ownBlock] at e
        subst e
        rw [hk] at hh
        injection hh with hh
        injection hh with _ hh _
        exact absurd hh (by decide)
    rcases Nat.lt_or_ge j l.length with hj2 | hj2
    · obtain ⟨e1, e2, y, h3, h4⟩ := h2 j hj2
      have hl1 : j * 3 + 2 < xs.length := by omega
      rw [show (l ++ [f]).getD j Fn.zero = l.getD j Fn.zero from at_left hj2]
      exact ⟨by rw [List.getElem?_append_left (by omega)]; exact e1, by rw [List.getElem?_append_left (by omega)]; exact e2, y, by rw [List.getElem?_append_left (by omega)]; exact h3, keep _ _ h4⟩
    · rw [List.length_append] at hj
      obtain rfl : j = l.length := by simp at hj; omega
      rw [show (l ++ [f]).getD l.length Fn.zero = f from at_last rfl, ← hlx]
      refine ⟨?_, ?_, x, ?_, keep _ _ hx⟩
      · rw [List.getElem?_append_right (Nat.le_refl _), Nat.sub_self]; rfl
      · rw [List.getElem?_append_right (by omega), Nat.add_sub_cancel_left]; rfl
      · rw [List.getElem?_append_right (by omega), Nat.add_sub_cancel_left]; rfl
theorem wp_appF {o : Oper} {a : Act} {w w1 : World} {K : Act → World → Prop} {Q : Exit → Act → World → Prop} (s y : Operand)
    (ho : o.op = .call { callee := .builtin .append, args := #[s, y], argTypes := #[24, 24] }) (base c : Nat) (v x : Value) (l : List Fn) (f : Fn)
    (hs : a.eval s = v) (hrow : OwnF w base v l) (hy : a.eval y = .slice (some ⟨w.heap.size, 0, none⟩) 1 c) (hx : OwnJ w base x f.co) (hw1 : w1 = w.alloc (.cells #[.int .i64 f.ar, .int .i64 f.lo, x] 49)) (hlen : l.length ≤ 1000) (hbase : base ≤ w.heap.size)
    (h : ∀ v' w', OwnF w' base v' (l ++ [f]) → w1.grownBy w' v.ownBlock → K (a.put o.dst v') w') : o.wp Tryz.prog a w1 K Q := by
  obtain ⟨v', w', hr, h2, h3⟩ := run_appF w w1 o.type base c v x l f hrow hx hw1 hlen hbase
  unfold Oper.wp execOp
  simp only [ho, resolve, invoke, builtin, Sem.run_bind, Sem.run_pure, Result.andThen_ok, List.map_toArray, List.map_cons, List.map_nil, hs, hy, hr]
  exact h v' w' h2 h3
theorem wpList_appF {ops : Array Oper} {rest : List Oper} {o : Oper} {a : Act} {w w1 : World} {Q : Exit → Act → World → Prop} (hgd : o.guard = none) (s y : Operand)
    (ho : o.op = .call { callee := .builtin .append, args := #[s, y], argTypes := #[24, 24] }) (base c : Nat) (v x : Value) (l : List Fn) (f : Fn)
    (hs : a.eval s = v) (hrow : OwnF w base v l) (hy : a.eval y = .slice (some ⟨w.heap.size, 0, none⟩) 1 c) (hx : OwnJ w base x f.co) (hw1 : w1 = w.alloc (.cells #[.int .i64 f.ar, .int .i64 f.lo, x] 49)) (hlen : l.length ≤ 1000) (hbase : base ≤ w.heap.size)
    (h : ∀ v' w', OwnF w' base v' (l ++ [f]) → w1.grownBy w' v.ownBlock → wpList Tryz.prog ops Q rest (a.put o.dst v') w') : wpList Tryz.prog ops Q (o :: rest) a w1 :=
  wpList_plain hgd fun _ hK => wp_appF s y ho base c v x l f hs hrow hy hx hw1 hlen hbase fun v' w' h2 h3 => hK _ _ (h v' w' h2 h3)
theorem step_appF {ops : Array Oper} {o : Oper} {a : Act} {w w1 : World} {K : Act → World → Prop} {Q : Exit → Act → World → Prop} {E : Prop} (hgd : o.guard = none) (s y : Operand)
    (ho : o.op = .call { callee := .builtin .append, args := #[s, y], argTypes := #[24, 24] }) (base c : Nat) (v x : Value) (l : List Fn) (f : Fn)
    (hs : a.eval s = v) (hrow : OwnF w base v l) (hy : a.eval y = .slice (some ⟨w.heap.size, 0, none⟩) 1 c) (hx : OwnJ w base x f.co) (hw1 : w1 = w.alloc (.cells #[.int .i64 f.ar, .int .i64 f.lo, x] 49)) (hlen : l.length ≤ 1000) (hbase : base ≤ w.heap.size)
    (h : ∀ v' w', OwnF w' base v' (l ++ [f]) → w1.grownBy w' v.ownBlock → K (a.put o.dst v') w') :
    if Region.wanted o (yielded ops a.tmps) = true then Oper.wp Tryz.prog o a w1 K Q else E := by
  have hw : Region.wanted o (yielded ops a.tmps) = true := by simp [Region.wanted, hgd]
  rw [if_pos hw]
  exact wp_appF s y ho base c v x l f hs hrow hy hx hw1 hlen hbase h
end Go.Proofs.YtahejekcfgkiaaaGreatDoor.pgm

/-
  The document's reader of an instruction reads just what was put, and of what it read the bytes are just those. Plain mathematics; no condition.
-/
namespace Go.Proofs.YtahejekcfgkiaaaGreatDoor.pgm
open Go.Proofs.YtahejekcfgkiaaaGreatDoor.octet (St rdByte rdNum num)
open Go.Proofs.YtahejekcfgkiaaaGreatDoor.objs (De zero)
open Go.Proofs.YtahejekcfgkiaaaGreatDoor.inst (readI chk chk_zero chkF_zero encI pieces form form_le opd opds_back opds_once rdOpds Known)
set_option linter.unusedVariables false

/-- An instruction that is read, what is left, the error. -/
def rdIns (s : St) : De × St × Nat := (((readI s).o, (readI s).a, (readI s).b), (readI s).s, (readI s).e)
theorem readI_back {o a b : Int} (h : chk o a b = 0) (more : List UInt8) : readI ⟨encI o a b ++ more, 0⟩ = ⟨o, a, b, ⟨more, 0⟩, 0⟩ := by
  obtain ⟨hk, hf⟩ := chk_zero h
  obtain ⟨h1, h2, h3⟩ := chkF_zero hf
  unfold Known at hk
  have hb : rdByte ⟨encI o a b ++ more, 0⟩ = (o.toNat, ⟨pieces (form o) a b (form o).length ++ more, 0⟩) := by
    unfold rdByte encI
    simp only [ne_eq, not_true_eq_false, if_false, List.cons_append]
    congr 1
    rw [UInt8.toNat_ofNat']
    omega
  have ho : ((o.toNat : Nat) : Int) = o := by omega
  have hr := opds_back (f := form o) (a := a) (b := b) (form o).length h1 more
  have hl := form_le o
  have ha : ((List.range (form o).length).map (opd a b)).getD 0 0 = a := by
    rcases Nat.lt_or_ge 0 (form o).length with hh | hh
    · rw [List.getD_eq_getElem?_getD, List.getElem?_map, List.getElem?_range hh]; rfl
    · have := h3 0 hh (by omega)
      rw [List.getD_eq_getElem?_getD, List.getElem?_eq_none (by simpa using hh)]
      exact this.symm
  have hb' : ((List.range (form o).length).map (opd a b)).getD 1 0 = b := by
    rcases Nat.lt_or_ge 1 (form o).length with hh | hh
    · rw [List.getD_eq_getElem?_getD, List.getElem?_map, List.getElem?_range hh]; rfl
    · have := h3 1 hh (by omega)
      rw [List.getD_eq_getElem?_getD, List.getElem?_eq_none (by simpa using hh)]
      exact this.symm
  unfold readI
  simp only [hb, ho, hr, ha, hb', h, ne_eq, not_true_eq_false, if_false]
  rw [if_neg (by omega)]
theorem readI_once {l : List UInt8} (h : (readI ⟨l, 0⟩).e = 0) : l = encI (readI ⟨l, 0⟩).o (readI ⟨l, 0⟩).a (readI ⟨l, 0⟩).b ++ (readI ⟨l, 0⟩).s.rest ∧ (readI ⟨l, 0⟩).s.err = 0 := by
  unfold readI at h ⊢
  dsimp only at h ⊢
  by_cases h1 : (rdByte ⟨l, 0⟩).2.err ≠ 0
  · rw [if_pos h1] at h; exact absurd h h1
  · rw [if_neg h1] at h ⊢
    by_cases h2 : 51 < (rdByte ⟨l, 0⟩).1
    · rw [if_pos h2] at h; cases h
    · rw [if_neg h2] at h ⊢
      obtain ⟨x, r, rfl⟩ : ∃ x r, l = x :: r := by
        cases l with
        | nil => exact absurd (show (rdByte ⟨[], 0⟩).2.err ≠ 0 by decide) h1
        | cons x r => exact ⟨x, r, rfl⟩
      have hb : rdByte ⟨x :: r, 0⟩ = (x.toNat, ⟨r, 0⟩) := rfl
      rw [hb] at h h2 ⊢
      dsimp only at h h2 ⊢
      by_cases h3 : (rdOpds (form (x.toNat : Int)) ⟨r, 0⟩ (form (x.toNat : Int)).length).2.err ≠ 0
      · rw [if_pos h3] at h; exact absurd h h3
      · rw [if_neg h3] at h ⊢
        by_cases h4 : chk (x.toNat : Int) ((rdOpds (form (x.toNat : Int)) ⟨r, 0⟩ (form (x.toNat : Int)).length).1.getD 0 0) ((rdOpds (form (x.toNat : Int)) ⟨r, 0⟩ (form (x.toNat : Int)).length).1.getD 1 0) ≠ 0
        · rw [if_pos h4] at h; exact absurd h h4
        · rw [if_neg h4]
          dsimp only
          have h4' : chk (x.toNat : Int) ((rdOpds (form (x.toNat : Int)) ⟨r, 0⟩ (form (x.toNat : Int)).length).1.getD 0 0) ((rdOpds (form (x.toNat : Int)) ⟨r, 0⟩ (form (x.toNat : Int)).length).1.getD 1 0) = 0 := by omega
          have hok := (chkF_zero (chk_zero h4').2).1
          have hl := form_le (x.toNat : Int)
          have hr := opds_once (f := form (x.toNat : Int)) (form (x.toNat : Int)).length r (by omega) _ _ (fun i hi => by
            unfold opd
            split
            · subst_vars; rfl
            · obtain rfl : i = 1 := by omega
              rfl) hok
          refine ⟨?_, by omega⟩
          unfold encI
          rw [List.cons_append, ← hr]
          congr 1
          rw [Int.toNat_natCast, UInt8.ofNat_toNat]
/-- The document's reader of an instruction is one. -/
theorem reads : Reads rdIns := ⟨fun x h more => by
  unfold rdIns encIn
  rw [readI_back h more], fun L h => readI_once h⟩
end Go.Proofs.YtahejekcfgkiaaaGreatDoor.pgm

/-
  The program reads a number that is above all ranges as another such number than the document does: what is told of the instruction is the same. Plain mathematics; no condition.
-/
namespace Go.Proofs.YtahejekcfgkiaaaGreatDoor.inst
open Go.Proofs.YtahejekcfgkiaaaGreatDoor.octet (St rdByte rdNum rdInt)
open Go.Proofs.YtahejekcfgkiaaaGreatDoor.word (Word)
set_option linter.unusedVariables false

/-- An operand as the program reads it. -/
def pOpd (c : UInt8) (s : St) : Int × St := if c = 110 then rdInt s else (((min (rdNum s).1 2147483647 : Nat) : Int), (rdNum s).2)
def pOpds (f : List UInt8) (s : St) : Nat → List Int × St
  | 0 => ([], s)
  | j + 1 => ((pOpds f s j).1 ++ [(pOpd (f.getD j 0) (pOpds f s j).2).1], (pOpd (f.getD j 0) (pOpds f s j).2).2)
/-- An instruction as the program reads it, whether it may be or not. -/
def pRead (s : St) : Rd :=
  let b := rdByte s
  let r := pOpds (form b.1) b.2 (form b.1).length
  ⟨b.1, r.1.getD 0 0, r.1.getD 1 0, r.2, r.2.err⟩

theorem pOpd_state (c : UInt8) (s : St) : (pOpd c s).2 = (rdOpd c s).2 := by unfold pOpd rdOpd; split <;> rfl
theorem pOpds_state (f : List UInt8) (s : St) : ∀ j, (pOpds f s j).2 = (rdOpds f s j).2 := by
  intro j
  induction j with
  | zero => rfl
  | succ j ih => simp only [pOpds, rdOpds]; rw [pOpd_state, ih]
theorem pOpds_length (f : List UInt8) (s : St) (j : Nat) : (pOpds f s j).1.length = j := by
  induction j with
  | zero => rfl
  | succ j ih => simp [pOpds, ih]
theorem opd_same (c : UInt8) (s : St) : (pOpd c s).1 = (rdOpd c s).1 ∨ (fitsB c (pOpd c s).1 = false ∧ fitsB c (rdOpd c s).1 = false) := by
  by_cases hc : c = 110
  · left; unfold pOpd rdOpd; rw [if_pos hc, if_pos hc]
  · unfold pOpd rdOpd
    rw [if_neg hc, if_neg hc]
    by_cases hn : (rdNum s).1 ≤ 2147483647
    · left
      show ((min (rdNum s).1 2147483647 : Nat) : Int) = ((min (rdNum s).1 2147483648 : Nat) : Int)
      congr 1
      omega
    · right
      have hm : most c ≤ 199 := by unfold most; split; omega; split; omega; split; omega; split <;> omega
      have h : ∀ v : Int, 199 < v → fitsB c v = false := fun v hv => by
        unfold fitsB
        rw [if_neg hc, decide_eq_false_iff_not]
        omega
      exact ⟨h _ (by show (199 : Int) < ((min (rdNum s).1 2147483647 : Nat) : Int); omega), h _ (by show (199 : Int) < ((min (rdNum s).1 2147483648 : Nat) : Int); omega)⟩
theorem opds_same (f : List UInt8) (s : St) : ∀ j i, i < j → (pOpds f s j).1.getD i 0 = (rdOpds f s j).1.getD i 0 ∨ (fitsB (f.getD i 0) ((pOpds f s j).1.getD i 0) = false ∧ fitsB (f.getD i 0) ((rdOpds f s j).1.getD i 0) = false) := by
  intro j
  induction j with
  | zero => intro i hi; omega
  | succ j ih =>
    intro i hi
    have h1 := pOpds_length f s j
    have h2 := rdOpds_length f s j
    simp only [pOpds, rdOpds]
    rcases Nat.lt_or_ge i j with h | h
    · rw [getD_left (by omega), getD_left (by omega)]
      exact ih i h
    · obtain rfl : i = j := by omega
      rw [getD_last h1, getD_last h2, pOpds_state]
      exact opd_same _ _
theorem opd_getD (V : List Int) {i : Nat} (h : i < 2) : opd (V.getD 0 0) (V.getD 1 0) i = V.getD i 0 := by
  match i, h with
  | 0, _ => rfl
  | 1, _ => rfl
theorem chk_same {f : List UInt8} {U V : List Int} (hf : f.length ≤ 2) (hu : U.length = f.length) (hv : V.length = f.length)
    (h : ∀ i, i < f.length → U.getD i 0 = V.getD i 0 ∨ (fitsB (f.getD i 0) (U.getD i 0) = false ∧ fitsB (f.getD i 0) (V.getD i 0) = false)) :
    (U.getD 0 0 = V.getD 0 0 ∧ U.getD 1 0 = V.getD 1 0) ∨ (chkF f (U.getD 0 0) (U.getD 1 0) = 1 ∧ chkF f (V.getD 0 0) (V.getD 1 0) = 1) := by
  by_cases hh : ∀ i, i < f.length → U.getD i 0 = V.getD i 0
  · left
    have hd : ∀ (L : List Int) i, L.length ≤ i → L.getD i 0 = 0 := fun L i hi => by rw [List.getD_eq_getElem?_getD, List.getElem?_eq_none hi]; rfl
    have h1 : ∀ i, U.getD i 0 = V.getD i 0 := fun i => by
      rcases Nat.lt_or_ge i f.length with h2 | h2
      · exact hh i h2
      · rw [hd U i (by omega), hd V i (by omega)]
    exact ⟨h1 0, h1 1⟩
  · right
    obtain ⟨i, hi⟩ := Classical.not_forall.1 hh
    obtain ⟨hi1, hi2⟩ := Classical.not_imp.1 hi
    rcases h i hi1 with h3 | ⟨h3, h4⟩
    · exact absurd h3 hi2
    · exact ⟨chkF_arg hi1 (by unfold okAt; rw [opd_getD U (by omega)]; exact h3), chkF_arg hi1 (by unfold okAt; rw [opd_getD V (by omega)]; exact h4)⟩

theorem form_none {o : Int} (h : ¬ Known o) : form o = [] := by
  unfold form
  unfold Known at h
  rw [Go.Proofs.YtahejekcfgkiaaaGreatDoor.oper.txt_no (by omega)]
theorem got_prog (l : List UInt8) : getI l = if (pRead ⟨l, 0⟩).e ≠ 0 then .bad (pRead ⟨l, 0⟩).e else if chk (pRead ⟨l, 0⟩).o (pRead ⟨l, 0⟩).a (pRead ⟨l, 0⟩).b ≠ 0 then .bad (chk (pRead ⟨l, 0⟩).o (pRead ⟨l, 0⟩).a (pRead ⟨l, 0⟩).b)
    else ⟨(pRead ⟨l, 0⟩).o, (pRead ⟨l, 0⟩).a, (pRead ⟨l, 0⟩).b, l.length - (pRead ⟨l, 0⟩).s.rest.length, 0⟩ := by
  unfold getI pRead
  dsimp only
  generalize hb : rdByte ⟨l, 0⟩ = B
  obtain ⟨o, S⟩ := B
  dsimp only
  have hst := pOpds_state (form o) S (form o).length
  by_cases h1 : S.err ≠ 0
  · have e1 : (pOpds (form o) S (form o).length).2.err = S.err := by
      rw [hst, rdOpds_err (f := form o) (s := S) (j := 0) h1 _ (Nat.zero_le _)]
      rfl
    rw [if_pos h1]
    simp only [e1, if_pos h1]
  · rw [if_neg h1]
    by_cases h2 : 51 < o
    · have hk : ¬ Known (o : Int) := by unfold Known; omega
      have hc : ∀ a b : Int, chk o a b = 6 := fun a b => by unfold chk; rw [if_neg hk]
      have e1 : (pOpds (form o) S (form o).length).2.err = S.err := by
        rw [form_none hk]
        rfl
      rw [if_pos h2]
      simp only [e1, if_neg h1, hc]
      rfl
    · have hk : Known (o : Int) := by unfold Known; omega
      rw [if_neg h2]
      simp only [hst]
      by_cases h3 : (rdOpds (form o) S (form o).length).2.err ≠ 0
      · simp only [if_pos h3]
      · simp only [if_neg h3]
        have hc : ∀ a b : Int, chk o a b = chkF (form o) a b := fun a b => by unfold chk; rw [if_pos hk]
        rcases chk_same (form_le o) (pOpds_length (form o) S _) (rdOpds_length (form o) S _) (opds_same (form o) S _) with ⟨e1, e2⟩ | ⟨e1, e2⟩
        · rw [e1, e2]
        · simp only [hc, e1, e2]
          rfl
end Go.Proofs.YtahejekcfgkiaaaGreatDoor.inst

/-
  The program's own reading of an instruction (typed over the code of 392f5a9): for every text of at most two to the forty-seventh bytes. The table of names must lie where its initialiser lays it.
-/
namespace Go.Proofs.YtahejekcfgkiaaaGreatDoor.inst
open Go.RowKit Go.ChangeShapes
open Go.Proofs.YtahejekcfgkiaaaGreatDoor.oper (ret_int ret_bool ret_string Tab nm txt)
open Go.Proofs.YtahejekcfgkiaaaGreatDoor.word (Word)
open Go.Proofs.YtahejekcfgkiaaaGreatDoor.octet (St InAt Frm rdByte rdNum rdInt byteIn_any numIn_any intIn_any err_any left_any open_any rdNum_ok rdNum_left rdByte_ok)
set_option linter.unusedVariables false

theorem pOpd_ok {c : UInt8} {s : St} (h : s.ok) : (pOpd c s).2.ok := by
  unfold pOpd rdInt
  split <;> exact rdNum_ok h
theorem pOpd_left (c : UInt8) (s : St) : (pOpd c s).2.rest.length ≤ s.rest.length := by
  unfold pOpd rdInt
  split <;> exact rdNum_left s
theorem rdByte_left (s : St) : (rdByte s).2.rest.length ≤ s.rest.length := by
  unfold rdByte
  split
  · exact Nat.le_refl _
  · split
    · exact Nat.zero_le _
    · rename_i h; rw [h]; simp

set_option maxHeartbeats 400000 in
theorem getOperand_any (w : World) (bi : Nat) (s : St) (c : UInt8) (hi : InAt w bi s) (hok : s.ok) (hl : s.rest.length ≤ 140737489403904) :
    Calls Tryz.prog 121 #[.pointer (some ⟨bi, 0, none⟩), .int .u8 (c.toNat : Int)] w fun e w' => e = .returned (.int .i64 (pOpd c s).1) ∧ InAt w' bi (pOpd c s).2 ∧ Frm w.heap.size bi w w' := by
  by_cases hc : c = 110
  · subst hc
    have HE : Hid (pOpd 110 s = rdInt s) := Lib.hid rfl
    rw [HE.out]
    have HI := Lib.hid (intIn_any w bi s hi hok hl)
    go_enter Tryz.func121, Tryz.ntmps121
    go_wp2_with fail
    refine HI.out.mono ?_
    rintro e w1 ⟨rfl, h1, h2⟩
    go_wp2
    go_ret
    exact ⟨rfl, h1, h2⟩
  · have HE : Hid (pOpd c s = Go.Proofs.YtahejekcfgkiaaaGreatDoor.span.pN s) := Lib.hid (by unfold pOpd; rw [if_neg hc]; rfl)
    have hc1 : ((c.toNat : Int) == 110) = false := (u8_ne hc).1
    rw [HE.out]
    clear hc HE
    have HI := Lib.hid (Go.Proofs.YtahejekcfgkiaaaGreatDoor.span.num_any w bi s hi hok hl)
    generalize Go.Proofs.YtahejekcfgkiaaaGreatDoor.span.pN s = p at *
    obtain ⟨v, S⟩ := p
    dsimp only at HI ⊢
    go_enter Tryz.func121, Tryz.ntmps121
    go_wp2_with fail
    refine HI.out.mono ?_
    rintro e w1 ⟨rfl, h1, h2⟩
    go_wp2
    go_ret
    exact ⟨rfl, h1, h2⟩

/-- In the midst of reading: where the reader stands, and what was read. -/
structure Rds (w : World) (bi b1 gl : Nat) (o : Int) (V : List Int) (S : St) (W : World) : Prop where
  inn : InAt W bi S
  row : RowIs W gl V
  b0 : W.heap[w.heap.size]? = some (.cells #[.int .i64 0, .int .i64 0, .int .i64 0] 51 (0, 0))
  bb : W.heap[b1]? = some (.cells #[.int .i64 o, .int .i64 0, .int .i64 0] 51 (0, 0))
  frm : Frm w.heap.size bi w W
  lt : bi < w.heap.size
  h1 : w.heap.size < b1
  h2 : b1 < gl
theorem Rds.next {w W W' : World} {bi b1 gl : Nat} {o : Int} {V : List Int} {S S' : St} (h : Rds w bi b1 gl o V S W) (hi : InAt W' bi S') (hf : Frm W.heap.size bi W W') : Rds w bi b1 gl o V S' W' := by
  have hg := h.row.lt
  have e1 := h.lt
  have e2 := h.h1
  have e3 := h.h2
  have hrow : W'.heap[gl]? = W.heap[gl]? := hf.block _ hg (by omega)
  refine ⟨hi, fun i hi => ?_, (hf.block _ (by omega) (by omega)).trans h.b0, (hf.block _ (by omega) (by omega)).trans h.bb, h.frm.trans (hf.mono h.frm.size), e1, e2, e3⟩
  have := h.row i hi
  unfold World.cell? World.frozen? at this ⊢
  rw [hrow]
  exact this
theorem Rds.set {w W : World} {bi b1 gl : Nat} {o : Int} {V : List Int} {S : St} (h : Rds w bi b1 gl o V S W) {j : Nat} (hj : j < 2) (hlen : V.length = j) (n : Int) : Rds w bi b1 gl o (V ++ [n]) S (W.setCell ⟨gl, j, none⟩ (.int .i64 n)) := by
  have e1 := h.lt
  have e2 := h.h1
  have e3 := h.h2
  have hx : ∀ k, k ≠ gl → (W.setCell ⟨gl, j, none⟩ (.int .i64 n)).heap[k]? = W.heap[k]? := fun k hk => Below.heap_setCell _ ⟨gl, j, none⟩ _ k hk
  exact ⟨(hx bi (by omega)).trans h.inn, row_set h.row hj hlen n, (hx _ (by omega)).trans h.b0, (hx _ (by omega)).trans h.bb, h.frm.setCell (p := ⟨gl, j, none⟩) (.inr (by show w.heap.size ≤ gl; omega)) _, e1, e2, e3⟩

theorem rds_new {w w1 : World} {bi : Nat} {o : Int} {S : St} (hi : InAt w1 bi S) (hf : Frm w.heap.size bi w w1) (hz : w1.heap[w.heap.size]? = some (.cells #[.int .i64 0, .int .i64 0, .int .i64 0] 51 (0, 0))) (hlt : bi < w.heap.size) :
    Rds w bi w1.heap.size (w1.heap.size + 1) o [] S ((w1.alloc (.cells #[.int .i64 o, .int .i64 0, .int .i64 0] 51)).alloc (.cells #[.int .i64 0, .int .i64 0] 126)) := by
  have hz1 := lt_of_block hz
  have hb : Below w1.heap.size w1 ((w1.alloc (.cells #[.int .i64 o, .int .i64 0, .int .i64 0] 51)).alloc (.cells #[.int .i64 0, .int .i64 0] 126)) := ((Below.refl _ w1).alloc (Nat.le_refl _) _).alloc (by simp) _
  have hn : ((w1.alloc (.cells #[.int .i64 o, .int .i64 0, .int .i64 0] 51)).alloc (.cells #[.int .i64 0, .int .i64 0] 126)).heap[w1.heap.size + 1]? = some (.cells #[.int .i64 0, .int .i64 0] 126) := by
    rw [← World.size_alloc w1 (.cells #[.int .i64 o, .int .i64 0, .int .i64 0] 51)]; exact heap_alloc_new _ _
  refine ⟨hi.kept (hb.block _ hi.lt), fun i hi => ?_, (hb.block _ hz1).trans hz, (Below.heap_alloc _ _ _ (by simp)).trans (heap_alloc_new w1 _), hf.trans (Frm.of_below (hb.mono hf.size)), hlt, hz1, by omega⟩
  unfold World.cell? World.frozen?
  rw [hn]
  match i, hi with
  | 0, _ => exact ⟨rfl, rfl⟩
  | 1, _ => exact ⟨rfl, rfl⟩

/-- What read tells, and leaves. -/
def PReadPost (bi : Nat) (r : Rd) (w : World) (e : Ending) (w' : World) : Prop :=
  e = .returned (.agg #[.int .i64 r.o, .int .i64 r.a, .int .i64 r.b]) ∧ InAt w' bi r.s ∧ Frm w.heap.size bi w w'

theorem read_ret {w Z : World} {bi : Nat} {o a b : Int} {S : St} {act : Act} {P : List Int × St} (ha : a = P.1.getD 0 0) (hb : b = P.1.getD 1 0) (hS : S = P.2) (h2 : act.tmps[2]?.getD undef = .pointer (some ⟨w.heap.size, 0, none⟩)) (hd : act.defers = [])
    (hE : Z.heap[w.heap.size]? = some (.cells #[.int .i64 o, .int .i64 a, .int .i64 b] 51 (0, 0))) (hi : InAt Z bi S) (hf : Frm w.heap.size bi w Z) :
    bodyPost Tryz.prog Tryz.f113 (fun e w' => e = .returned (.agg #[.int .i64 o, .int .i64 (P.1.getD 0 0), .int .i64 (P.1.getD 1 0)]) ∧ InAt w' bi P.2 ∧ Frm w.heap.size bi w w') .ret act Z := by
  subst ha hb hS
  obtain ⟨x0, x1, x2, _, _, _⟩ := cells3 hE
  refine bodyPost_ret (v := .agg #[.int .i64 o, .int .i64 (P.1.getD 0 0), .int .i64 (P.1.getD 1 0)]) ?_ hd ⟨rfl, hi, hf⟩
  simp [results, Tryz.results113, go_sem, h2, x0, x1, x2]
/-- Behind the stores of both operands. -/
theorem rds_end {w W : World} {bi b1 gl : Nat} {o : Int} {V : List Int} {S : St} (h : Rds w bi b1 gl o V S W) (a b : Int) :
    ((W.setCell ⟨b1, 1, none⟩ (.int .i64 a)).setCell ⟨b1, 2, none⟩ (.int .i64 b)).drew.heap[b1]? = some (.cells #[.int .i64 o, .int .i64 a, .int .i64 b] 51 (0, 0)) ∧
    ((W.setCell ⟨b1, 1, none⟩ (.int .i64 a)).setCell ⟨b1, 2, none⟩ (.int .i64 b)).drew.heap[w.heap.size]? = some (.cells #[.int .i64 0, .int .i64 0, .int .i64 0] 51 (0, 0)) ∧
    InAt ((W.setCell ⟨b1, 1, none⟩ (.int .i64 a)).setCell ⟨b1, 2, none⟩ (.int .i64 b)).drew bi S ∧
    Frm w.heap.size bi w ((W.setCell ⟨b1, 1, none⟩ (.int .i64 a)).setCell ⟨b1, 2, none⟩ (.int .i64 b)).drew := by
  have e1 := h.lt
  have e2 := h.h1
  have hx : ∀ k, k ≠ b1 → ((W.setCell ⟨b1, 1, none⟩ (.int .i64 a)).setCell ⟨b1, 2, none⟩ (.int .i64 b)).heap[k]? = W.heap[k]? := fun k hk => (Below.heap_setCell _ ⟨b1, 2, none⟩ _ k hk).trans (Below.heap_setCell _ ⟨b1, 1, none⟩ _ k hk)
  refine ⟨?_, (hx _ (by omega)).trans h.b0, (hx _ (by omega)).trans h.inn, ((h.frm.setCell (p := ⟨b1, 1, none⟩) (.inr (by show w.heap.size ≤ b1; omega)) _).setCell (p := ⟨b1, 2, none⟩) (.inr (by show w.heap.size ≤ b1; omega)) _).drew⟩
  have := h.bb
  show ((W.setCell ⟨b1, 1, none⟩ (.int .i64 a)).setCell ⟨b1, 2, none⟩ (.int .i64 b)).heap[b1]? = _
  simp [World.setCell, Array.getElem?_modify, this]

set_option maxRecDepth 100000 in
set_option maxHeartbeats 2000000 in
theorem read_any (w : World) (bi : Nat) (s : St) (hi : InAt w bi s) (hok : s.ok) (hl : s.rest.length ≤ 140737489403904) :
    Calls Tryz.prog 113 #[.pointer (some ⟨bi, 0, none⟩)] w (PReadPost bi (pRead s) w) := by
  have hok1 := rdByte_ok hok
  have hl1 : (rdByte s).2.rest.length ≤ 140737489403904 := Nat.le_trans (rdByte_left s) hl
  have hlt := hi.lt
  have hb1 : Below w.heap.size w (w.alloc (.cells #[.int .i64 0, .int .i64 0, .int .i64 0] 51)) := (Below.refl _ w).alloc (Nat.le_refl _) _
  have HB := Lib.hid (byteIn_any _ bi s (hi.kept (hb1.block bi hlt)) hok hl)
  have HP : Hid (pRead s = ⟨(rdByte s).1, (pOpds (form (rdByte s).1) (rdByte s).2 (form (rdByte s).1).length).1.getD 0 0, (pOpds (form (rdByte s).1) (rdByte s).2 (form (rdByte s).1).length).1.getD 1 0, (pOpds (form (rdByte s).1) (rdByte s).2 (form (rdByte s).1).length).2, (pOpds (form (rdByte s).1) (rdByte s).2 (form (rdByte s).1).length).2.err⟩) := Lib.hid rfl
  rw [HP.out]
  clear HP
  unfold PReadPost
  have H1 := Lib.hid hb1
  clear hb1 hi
  generalize rdByte s = p at *
  obtain ⟨n, S⟩ := p
  dsimp only at HB hok1 hl1 ⊢
  have hy2 : (txt Go.Proofs.YtahejekcfgkiaaaGreatDoor.oper.fm (n : Int)).size ≤ 2 := by have := form_le (n : Int); unfold form at this; rwa [← size_list] at this
  have HF := fun W => Lib.hid (Go.Proofs.YtahejekcfgkiaaaGreatDoor.oper.form_any (n : Int) W)
  unfold form
  generalize txt Go.Proofs.YtahejekcfgkiaaaGreatDoor.oper.fm (n : Int) = y at *
  rw [← size_list y]
  go_enter Tryz.func113, Tryz.ntmps113
  go_wp2_with fail
  refine HB.out.mono ?_
  rintro e w1 ⟨rfl, hi1, hf1⟩
  have hz : (w.alloc (.cells #[.int .i64 0, .int .i64 0, .int .i64 0] 51)).heap.size = w.heap.size + 1 := World.size_alloc w _
  have hs1 := hf1.size
  have HI1 := Lib.hid hi1
  have HF1 : Hid (Frm w.heap.size bi w w1) := Lib.hid ((Frm.of_below H1.out).trans (hf1.mono (by omega)))
  have HZ1 : Hid (w1.heap[w.heap.size]? = some (.cells #[.int .i64 0, .int .i64 0, .int .i64 0] 51 (0, 0))) := Lib.hid ((hf1.block _ (by omega) (by omega)).trans (heap_alloc_new w _))
  clear hi1 hf1 HB H1
  go_wp2_with fail
  refine (HF _).out.mono ?_
  rintro e w2 ⟨rfl, rfl⟩
  go_upto_region 4 with fail
  have HR0 := Lib.hid (rds_new (o := (n : Int)) HI1.out HF1.out HZ1.out hlt)
  have hg1 : w1.heap.size < w1.heap.size + 1 := by omega
  clear HI1 HF1 HZ1 hz hs1
  generalize (w1.alloc (.cells #[.int .i64 (n : Int), .int .i64 0, .int .i64 0] 51)).alloc (.cells #[.int .i64 0, .int .i64 0] 126) = W3 at *
  generalize w1.heap.size + 1 = gl at *
  generalize w1.heap.size = b1 at *
  have HN := Lib.hid hy2
  go_wp2_with fail
  go_loopw [15] (fun i wr => ∃ j : Nat, j ≤ y.size ∧ i = .int .i64 (j : Int) ∧ Hid ((pOpds y.data.toList S j).2.ok ∧ (pOpds y.data.toList S j).2.rest.length ≤ 140737489403904) ∧ Hid (Rds w bi b1 gl n (pOpds y.data.toList S j).1 (pOpds y.data.toList S j).2 wr)) (fun i _ => y.size - (intOf i).toNat)
  case atStart => exact ⟨0, Nat.zero_le _, rfl, Lib.hid ⟨hok1, hl1⟩, HR0⟩
  case round =>
    obtain ⟨j, hj, rfl, HO, HR⟩ := hrel
    by_cases hlt : j < y.size
    · have hj2 : j < 2 := by omega
      have hj2' : (j : Int) < 2 := by omega
      have hj0 : (0 : Int) ≤ (j : Int) := by omega
      have hlt' : (j : Int) < (y.size : Int) := by omega
      have hyj : y[j] = y.data.toList.getD j 0 := letter_at hlt
      have hlen := pOpds_length y.data.toList S j
      have HE1 : Hid (pOpds y.data.toList S (j + 1) = ((pOpds y.data.toList S j).1 ++ [(pOpd (y.data.toList.getD j 0) (pOpds y.data.toList S j).2).1], (pOpd (y.data.toList.getD j 0) (pOpds y.data.toList S j).2).2)) := Lib.hid rfl
      have HG := Lib.hid (getOperand_any wr bi _ (y.data.toList.getD j 0) HR.out.inn HO.out.1 HO.out.2)
      have HO2 : Hid ((pOpds y.data.toList S (j + 1)).2.ok ∧ (pOpds y.data.toList S (j + 1)).2.rest.length ≤ 140737489403904) := Lib.hid ⟨by rw [HE1.out]; exact pOpd_ok HO.out.1, by rw [HE1.out]; exact Nat.le_trans (pOpd_left _ _) HO.out.2⟩
      rw [HE1.out] at HO2
      generalize y.data.toList.getD j 0 = c at *
      generalize pOpds y.data.toList S j = P at *
      obtain ⟨V, S1⟩ := P
      dsimp only at HG HE1 HO HR HO2 hlen
      generalize pOpd c S1 = q at *
      obtain ⟨v, S2⟩ := q
      dsimp only at HG HE1 HO2
      go_wp2_with fail
      refine HG.out.mono ?_
      rintro e w5 ⟨rfl, hi5, hf5⟩
      have HR5 := Lib.hid (HR.out.next hi5 hf5)
      have HR6 := Lib.hid (HR5.out.set hj2 hlen v)
      obtain ⟨x5, xf5⟩ := HR5.out.row j hj2
      clear hi5 hf5 HG HR HO
      go_wp2
      go_roundw
      case rel => exact ⟨j + 1, by omega, by go_num, by rw [HE1.out]; exact HO2, by rw [HE1.out]; exact HR6⟩
      case measure => simp [intOf]; omega
    · obtain rfl : j = y.size := by omega
      obtain ⟨a, ha⟩ : ∃ a, a = (pOpds y.data.toList S y.size).1.getD 0 0 := ⟨_, rfl⟩
      obtain ⟨b, hb⟩ : ∃ b, b = (pOpds y.data.toList S y.size).1.getD 1 0 := ⟨_, rfl⟩
      obtain ⟨x0, xf0⟩ := HR.out.row 0 (by omega)
      obtain ⟨x1, xf1⟩ := HR.out.row 1 (by omega)
      rw [← ha] at x0
      rw [← hb] at x1
      have HA := Lib.hid ha
      have HBv := Lib.hid hb
      clear ha hb
      obtain ⟨y0, y1, y2, yf0, yf1, yf2⟩ := cells3 HR.out.bb
      have n1 : gl ≠ b1 := by have := HR.out.h2; omega
      have n2 : b1 ≠ gl := by have := HR.out.h2; omega
      obtain ⟨S9, hS9⟩ : ∃ S9, S9 = (pOpds y.data.toList S y.size).2 := ⟨_, rfl⟩
      have HS9 := Lib.hid hS9
      have hend := rds_end HR.out a b
      rw [← hS9] at hend
      have HE := Lib.hid hend
      clear hend hS9
      go_wp2_with fail
      go_region
      clear x0 x1 y0 y1 y2 xf0 xf1 yf0 yf1 yf2 n1 n2
      generalize ((wr.setCell ⟨b1, 1, none⟩ (.int .i64 a)).setCell ⟨b1, 2, none⟩ (.int .i64 b)).drew = W9 at *
      obtain ⟨y0, y1, y2, _, _, _⟩ := cells3 HE.out.1
      obtain ⟨z0, z1, z2, zf0, zf1, zf2⟩ := cells3 HE.out.2.1
      go_wp2_with fail
      refine read_ret HA.out HBv.out HS9.out (by rfl) rfl (put3_same HE.out.2.1 _ _ _) ?_ ?_
      · exact (put3_far (by have := hlt; omega) _ _ _).trans HE.out.2.2.1
      · exact ((HE.out.2.2.2.setCell (p := ⟨w.heap.size, 0, none⟩) (.inr (Nat.le_refl _)) _).setCell (p := ⟨w.heap.size, 1, none⟩) (.inr (Nat.le_refl _)) _).setCell (p := ⟨w.heap.size, 2, none⟩) (.inr (Nat.le_refl _)) _
end Go.Proofs.YtahejekcfgkiaaaGreatDoor.inst

/-
  The instruction with which bytes begin, as the program tells it (typed over the code of 392f5a9), and with it the bundle over which the four laws are walked. The table of names must lie where its initialiser lays it; texts of at most two to the forty-seventh bytes.
-/
namespace Go.Proofs.YtahejekcfgkiaaaGreatDoor.inst
open Go.RowKit Go.ChangeShapes
open Go.Proofs.YtahejekcfgkiaaaGreatDoor.oper (ret_int ret_bool ret_string Tab nm txt)
open Go.Proofs.YtahejekcfgkiaaaGreatDoor.word (Word)
open Go.Proofs.YtahejekcfgkiaaaGreatDoor.octet (St InAt Frm rdByte rdNum rdInt err_any left_any open_any)
set_option linter.unusedVariables false

theorem pget_ret {w Z : World} {g : Got} {act : Act} (h2 : act.tmps[2]?.getD undef = .pointer (some ⟨w.heap.size, 0, none⟩)) (h3 : act.tmps[3]?.getD undef = .int .i64 (g.n : Int)) (h4 : act.tmps[4]?.getD undef = .int .i64 (g.e : Int)) (hd : act.defers = [])
    (hE : Z.heap[w.heap.size]? = some (.cells #[.int .i64 g.o, .int .i64 g.a, .int .i64 g.b] 51 (0, 0))) (hb : Below w.heap.size w Z) : bodyPost Tryz.prog Tryz.f103 (GotPost g w) .ret act Z := by
  obtain ⟨x0, x1, x2, _, _, _⟩ := cells3 hE
  refine bodyPost_ret (v := .tuple #[.agg #[.int .i64 g.o, .int .i64 g.a, .int .i64 g.b], .int .i64 (g.n : Int), .int .i64 (g.e : Int)]) ?_ hd ⟨rfl, hb⟩
  simp [results, Tryz.results103, go_sem, h2, h3, h4, x0, x1, x2]

/-- Behind the reading: the empty answer, the reader, and what was read. -/
structure Gets (w : World) (bi bx : Nat) (o a b : Int) (S : St) (W : World) : Prop where
  below : Below w.heap.size w W
  b0 : W.heap[w.heap.size]? = some (.cells #[.int .i64 0, .int .i64 0, .int .i64 0] 51 (0, 0))
  inn : InAt W bi S
  bb : W.heap[bx]? = some (.cells #[.int .i64 o, .int .i64 a, .int .i64 b] 51 (0, 0))
  h1 : w.heap.size < bx
  h2 : bi < bx
  h3 : w.heap.size < bi
theorem Gets.next {w W W' : World} {bi bx : Nat} {o a b : Int} {S : St} (h : Gets w bi bx o a b S W) (hb : Below W.heap.size W W') : Gets w bi bx o a b S W' := by
  have h1 := lt_of_block h.b0
  have h2 := h.inn.lt
  have h3 := lt_of_block h.bb
  exact ⟨h.below.trans (hb.mono h.below.size), (hb.block _ h1).trans h.b0, (hb.block _ h2).trans h.inn, (hb.block _ h3).trans h.bb, h.h1, h.h2, h.h3⟩
theorem Gets.h3' {w W : World} {bi bx : Nat} {o a b : Int} {S : St} (h : Gets w bi bx o a b S W) : bi ≠ w.heap.size := by have := h.h3; omega
theorem Gets.drew {w W : World} {bi bx : Nat} {o a b : Int} {S : St} (h : Gets w bi bx o a b S W) : Gets w bi bx o a b S W.drew := ⟨h.below.drew, h.b0, h.inn, h.bb, h.h1, h.h2, h.h3⟩

theorem gets_new {w w1 w2 : World} {o a b : Int} {S : St}
    (h1 : Below (w.alloc (insBox 0 0 0)).heap.size (w.alloc (insBox 0 0 0)) w1) (hs : w1.heap.size = (w.alloc (insBox 0 0 0)).heap.size + 1)
    (hi : InAt w2 (w.heap.size + 1) S) (hf : Frm w1.heap.size (w.heap.size + 1) w1 w2) :
    Gets w (w.heap.size + 1) w2.heap.size o a b S (w2.alloc (insBox o a b)) := by
  have hz : (w.alloc (insBox 0 0 0)).heap.size = w.heap.size + 1 := World.size_alloc w _
  have hs2 := hf.size
  have hb : Below w2.heap.size w2 (w2.alloc (insBox o a b)) := (Below.refl _ w2).alloc (Nat.le_refl _) _
  have hb0 : Below w.heap.size w w1 := ((Below.refl _ w).alloc (Nat.le_refl _) _).trans (h1.mono (by omega))
  have hb1 : Below w.heap.size w w2 := hb0.trans (hf.below (by omega) (by omega))
  refine ⟨hb1.trans (hb.mono (by omega)), ?_, (hb.block _ hi.lt).trans hi, heap_alloc_new w2 _, by omega, by have := hi.lt; omega, by omega⟩
  refine (hb.block _ (by omega)).trans ((hf.block _ (by omega) (by omega)).trans ((h1.block _ (by omega)).trans (heap_alloc_new w _)))

theorem pOpds_left (f : List UInt8) (s : St) : ∀ j, (pOpds f s j).2.rest.length ≤ s.rest.length := by
  intro j
  induction j with
  | zero => exact Nat.le_refl _
  | succ j ih => exact Nat.le_trans (pOpd_left _ _) ih
theorem pRead_left (s : St) : (pRead s).s.rest.length ≤ s.rest.length := Nat.le_trans (pOpds_left _ _ _) (rdByte_left s)
theorem below_drew' {B : Nat} {a W : World} (h : Below B a W) : Below B a W.drew := h.drew

set_option maxRecDepth 100000 in
set_option maxHeartbeats 2000000 in
theorem get_any (t : ByteArray) (w : World) (ht : t.size ≤ 140737489403904) (hw : Okw w) : Calls Tryz.prog 103 #[.string t] w (GotPost (getI t.data.toList) w) := by
  have HG := Lib.hid (got_prog t.data.toList)
  have HRd := fun W hi => Lib.hid (read_any W (w.heap.size + 1) ⟨t.data.toList, 0⟩ hi (fun h => absurd rfl h) (by rw [← size_list]; exact ht))
  have HE0 : Hid ((pRead ⟨t.data.toList, 0⟩).e = (pRead ⟨t.data.toList, 0⟩).s.err) := Lib.hid rfl
  have HLe : Hid ((pRead ⟨t.data.toList, 0⟩).s.rest.length ≤ t.size) := Lib.hid (by rw [size_list]; exact pRead_left ⟨t.data.toList, 0⟩)
  unfold PReadPost at HRd
  have HOp := Lib.hid (open_any (w.alloc (insBox 0 0 0)) t)
  have hz : (w.alloc (insBox 0 0 0)).heap.size = w.heap.size + 1 := World.size_alloc w _
  rw [hz] at HOp
  generalize pRead ⟨t.data.toList, 0⟩ = r at *
  obtain ⟨o, a, b, S, e⟩ := r
  dsimp only at HG HRd HE0 HLe
  have he0 := HE0.out
  subst he0
  have HW := Lib.hid hw
  have HT := Lib.hid ht
  clear hw HE0 ht
  go_enter Tryz.func103, Tryz.ntmps103
  unfold insBox at HOp hz
  go_wp2_with fail
  refine HOp.out.mono ?_
  rintro e w1 ⟨rfl, hi1, hb1, hs1⟩
  go_wp2_with fail
  refine (HRd _ hi1).out.mono ?_
  rintro e w2 ⟨rfl, hi2, hf2⟩
  have HGt := Lib.hid (gets_new (o := o) (a := a) (b := b) (by unfold insBox; rw [hz]; exact hb1) (by unfold insBox; rw [hz]; exact hs1) hi2 hf2)
  unfold insBox at HGt
  clear hi1 hb1 hs1 hi2 hf2 HRd HOp hz
  go_upto_region 3 with fail
  generalize w2.alloc (.cells #[.int .i64 o, .int .i64 a, .int .i64 b] 51) = W3 at *
  generalize w2.heap.size = bx at *
  have HEr := Lib.hid (err_any W3 (w.heap.size + 1) S HGt.out.inn)
  go_wp2_with fail
  refine HEr.out.mono ?_
  rintro e w4 ⟨rfl, rfl⟩
  by_cases he : S.err = 0
  · have HC := Lib.hid (check_any o a b W3 (HW.out.below HGt.out.below HW.out.2))
    obtain ⟨x0, x1, x2, _, _, _⟩ := cells3 HGt.out.bb
    have he' : ((S.err : Int) == 0) = true := by simp [he]
    have HEq := Lib.hid he
    clear he
    go_wp2_with fail
    refine HC.out.mono ?_
    rintro e w5 ⟨rfl, hb5⟩
    have HGt5 := Lib.hid (HGt.out.next hb5)
    clear hb5 HC x0 x1 x2 HEr HGt
    obtain ⟨x0, x1, x2, _, _, _⟩ := cells3 HGt5.out.bb
    obtain ⟨z0, z1, z2, zf0, zf1, zf2⟩ := cells3 HGt5.out.b0
    by_cases hc : chk o a b = 0
    · have HR : Hid (getI t.data.toList = ⟨o, a, b, t.data.toList.length - S.rest.length, 0⟩) := Lib.hid (by rw [HG.out, if_neg (by simp [HEq.out]), if_neg (by simp [hc])])
      have hc' : (((chk o a b : Nat) : Int) != 0) = false := by simp [hc]
      clear hc HG
      have HLq := fun W (hW : W.heap[w.heap.size + 1]? = w5.heap[w.heap.size + 1]?) => Lib.hid (left_any W (w.heap.size + 1) S (HGt5.out.inn.kept hW))
      have HWr : Hid ((t.data.toList.length - S.rest.length : Nat) = IntKind.i64.wrap ((t.size : Int) - (S.rest.length : Int))) := Lib.hid (by
        have h1 := HLe.out
        have h2 := HT.out
        rw [← size_list, IntKind.wrap_i64]
        omega)
      go_wp2_with fail
      have x9 := HGt5.out.h3'
      go_region_law (go_simp; go_at_call 99; refine (HLq _ ?_).out.mono ?_; (first | rfl | exact put3_far x9 _ _ _); rintro e w7 ⟨rfl, rfl⟩)
      all_goals
        go_wp2_with fail
        exact pget_ret (by rfl) (by rw [HR.out, HWr.out]; rfl) (by rw [HR.out]; rfl) rfl (by rw [HR.out]; exact put3_same HGt5.out.b0 _ _ _) (below_drew' (put3_below HGt5.out.below (Nat.le_refl _) _ _ _))
    · have HR : Hid (getI t.data.toList = .bad (chk o a b)) := Lib.hid (by rw [HG.out, if_neg (by simp [HEq.out]), if_pos hc])
      have hc' : (((chk o a b : Nat) : Int) != 0) = true := by simpa using hc
      clear hc HG
      generalize chk o a b = q at *
      go_wp2_with fail
      exact pget_ret (by rfl) (by rw [HR.out]; rfl) (by rw [HR.out]; rfl) rfl (by rw [HR.out]; exact put3_same HGt5.out.b0 _ _ _) (put3_below HGt5.out.below (Nat.le_refl _) _ _ _)
  · have HR : Hid (getI t.data.toList = .bad S.err) := Lib.hid (by rw [HG.out, if_pos he])
    have he' : ((S.err : Int) != 0) = true := by simpa using he
    have he2 : ((S.err : Int) == 0) = false := by simpa using he
    obtain ⟨z0, z1, z2, zf0, zf1, zf2⟩ := cells3 HGt.out.b0
    clear he HG
    go_wp2_with fail
    exact pget_ret (by rfl) (by rw [HR.out]; rfl) (by rw [HR.out]; rfl) rfl (by rw [HR.out]; exact put3_same HGt.out.b0 _ _ _) (put3_below HGt.out.below (Nat.le_refl _) _ _ _)

theorem keeps : Keeps Okw where
  mono := fun W W' h hb => h.next hb
  check := fun o a b W _ _ _ h => check_any o a b W h
  put := fun o a b W _ _ _ h => put_any o a b W h
  get := fun t W ht h => get_any t W ht h
end Go.Proofs.YtahejekcfgkiaaaGreatDoor.inst
