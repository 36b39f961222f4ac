/-
  Texts of one claim in one file: DRefCheck, DTab, DClose, JPlain, PRef. Each has its own sentence, with its conditions.
-/
import Derived.Test.YtbekfjjajggffaaDoorVall4
import Derived.Test.YtbekfjjajggffaaDoorVall1
import Derived.LaidMore
import Derived.Stop.Joined
import Derived.Lib.LaidTab
import Derived.Test.YtbekfjjajggffaaDoorVall2
import Derived.PlainAid
import Derived.BigQuiet
import Derived.Deep.QuietTactic
import Derived.Deep.RegionHeld3
/-
  The document's own answer where the first object stands that may not be, and why. No condition but that a list is no longer than an int can say.
-/
namespace Go.Proofs.YtbekfjjajggffaaDoor.objs
open Go.RowKit Go.ChangeShapes
open Go.Proofs.YtbekfjjajggffaaDoor.word (Word)
set_option linter.unusedVariables false

/-- What Check answers. -/
def ChkPost (p : Int × Nat) (w : World) (e : Ending) (w' : World) : Prop := e = .returned (.tuple #[.int .i64 p.1, .int .i64 (p.2 : Nat)]) ∧ Below w.heap.size w w'
set_option maxHeartbeats 1000000 in
theorem refCheck_long (A : Option Addr) (cap n : Nat) (hn : 32 < n) (w : World) :
    Calls Tryd.prog 14 #[.slice A n cap] w (ChkPost (0, 4) w) := by
  unfold ChkPost
  have hd : decide ((32 : Int) < (n : Int)) = true := by simp; omega
  clear hn
  go_enter Tryd.func14, Tryd.ntmps14
  go_wp2_with fail
  go_ret2
  exact ⟨rfl, Below.refl _ _⟩
set_option maxRecDepth 100000 in
set_option maxHeartbeats 4000000 in
theorem refCheck_any (A : Option Addr) (cap : Nat) (l : List De) (hl : l.length ≤ 9223372036854775807) (w : World) (hA : DAt w A l) :
    Calls Tryd.prog 14 #[.slice A l.length cap] w (ChkPost (chk l) w) := by
  by_cases h32 : 32 < l.length
  · rw [chk_long h32]
    exact refCheck_long A cap l.length h32 w
  · obtain ⟨p, hp⟩ : ∃ p, p = chk l := ⟨_, rfl⟩
    have HP := Lib.hid hp
    rw [← hp]
    unfold ChkPost
    have hd : decide ((32 : Int) < (l.length : Int)) = false := by simp; omega
    have HA := Lib.hid hA
    have H32 := Lib.hid h32
    clear hA h32 hp
    go_enter Tryd.func14, Tryd.ntmps14
    go_wp2_with fail
    go_loopw [4] (fun i wr => ∃ j : Nat, j ≤ l.length ∧ i = .int .i64 (j : Int) ∧ Hid (j ≤ bad l ∧ DAt wr A l ∧ Below w.heap.size w wr)) (fun i _ => l.length - (intOf i).toNat)
    case atStart => exact ⟨0, Nat.zero_le _, rfl, Lib.hid ⟨Nat.zero_le _, HA.out, Below.refl _ _⟩⟩
    case round =>
      obtain ⟨j, hj, rfl, HS⟩ := hrel
      by_cases hlt : j < l.length
      · have HO := Lib.hid (refOne_any A cap l (l.getD j zero) hl wr HS.out.2.1)
        obtain ⟨b, off, rfl, hb, c0, c1, c2⟩ := HS.out.2.1 j hlt
        have hlt' : (j : Int) < (l.length : Int) := by omega
        unfold OnePost at HO
        have HBad := fun h => Lib.hid (chk_bad H32.out HS.out.1 hlt h)
        have HNx := fun h => Lib.hid (bad_next HS.out.1 hlt h)
        generalize l.getD j zero = d at *
        generalize one l d = q at *
        by_cases hq : q = 0
        · subst hq
          have HE := HNx rfl
          clear HBad HNx
          go_wp2_with fail
          refine HO.out.mono ?_
          rintro e w1 ⟨rfl, hb1⟩
          have HS1 := Lib.hid (HS.out.2.1.next hb1)
          have HB1 := Lib.hid (HS.out.2.2.trans (hb1.mono HS.out.2.2.size))
          clear hb1 c0 c1 c2
          go_wp2
          go_roundw
          case rel => exact ⟨j + 1, by omega, by go_num, Lib.hid ⟨HE.out, HS1.out, HB1.out⟩⟩
          case measure => simp [intOf]; omega
        · have HE := HBad hq
          have hq' : ((q : Int) != 0) = true := by simpa using hq
          clear HBad HNx hq
          go_wp2_with fail
          refine HO.out.mono ?_
          rintro e w1 ⟨rfl, hb1⟩
          have HB1 := Lib.hid (HS.out.2.2.trans (hb1.mono HS.out.2.2.size))
          clear hb1 c0 c1 c2
          go_wp2
          go_ret2
          exact ⟨by rw [HP.out, HE.out]; rfl, HB1.out⟩
      · obtain rfl : j = l.length := by omega
        have HE := Lib.hid (chk_fine H32.out HS.out.1)
        go_wp2_with fail
        go_ret2
        exact ⟨by rw [HP.out, HE.out]; rfl, HS.out.2.2⟩
end Go.Proofs.YtbekfjjajggffaaDoor.objs

/-
  The program's table of kinds' names lies where its initialiser lays it; with that: a kind's name, and whether there is such a kind (typed over the code of 392f5a9). The card ties the table to the program's text.
-/
namespace Go.Proofs.YtbekfjjajggffaaDoor.objs
open Go.RowKit Go.ChangeShapes
set_option linter.unusedVariables false

/-- The table of names lies where its initialiser lays it. -/
def Tabd (w : World) : Prop := ∀ j, j < 8 → w.cell? ⟨1, j, none⟩ = some (.string (names.getD j ⟨#[]⟩))
theorem Tabd.below {B : Nat} {w w' : World} (h : Tabd w) (hb : Below B w w') (hB : 1 < B) : Tabd w' := fun j hj => (hb.cell (p := ⟨1, j, none⟩) hB).trans (h j hj)
/-- What the program's calls ask of the world: the table lies where it should, below all that is made. -/
def Okd (w : World) : Prop := Tabd w ∧ 1 < w.heap.size
theorem Okd.below {B : Nat} {w w' : World} (h : Okd w) (hb : Below B w w') (hB : 1 < B) : Okd w' := ⟨h.1.below hb hB, Nat.lt_of_lt_of_le h.2 hb.size⟩
theorem Okd.next {w w' : World} (h : Okd w) (hb : Below w.heap.size w w') : Okd w' := h.below hb h.2

theorem name_any (k : Int) (w : World) (hw : Okd w) : Calls Tryd.prog 80 #[.int .i64 k] w fun e w' => e = .returned (.string (nameK k)) ∧ w = w' := by
  by_cases h0 : k < 0
  · have HE : Hid (nameK k = ⟨#[]⟩) := Lib.hid (by unfold nameK; rw [if_neg (by omega)])
    rw [HE.out]
    have hd : decide (k < 0) = true := by simpa using h0
    go_enter Tryd.func80, Tryd.ntmps80
    go_wp2_with fail
    go_ret
    exact ⟨rfl, rfl⟩
  · have hd : decide (k < 0) = false := by simpa using h0
    by_cases h8 : 8 ≤ k
    · have HE : Hid (nameK k = ⟨#[]⟩) := Lib.hid (by unfold nameK; rw [if_neg (by omega)])
      rw [HE.out]
      have hd2 : decide (8 ≤ k) = true := by simpa using h8
      go_enter Tryd.func80, Tryd.ntmps80
      go_wp2_with fail
      go_ret
      exact ⟨rfl, rfl⟩
    · obtain ⟨m, rfl⟩ : ∃ m : Nat, k = (m : Int) := ⟨k.toNat, by omega⟩
      have hm : m < 8 := by omega
      have hc := hw.1 m hm
      have HE : Hid (nameK (m : Int) = names.getD m ⟨#[]⟩) := Lib.hid (by
        unfold nameK
        by_cases hz : m = 0
        · subst hz; rfl
        · rw [if_pos (by omega), Int.toNat_natCast])
      rw [HE.out]
      have hd2 : decide (8 ≤ (m : Int)) = false := by simpa using h8
      have hm8 : (m : Int) < 8 := by omega
      generalize names.getD m ⟨#[]⟩ = x at *
      clear hw h0 h8
      go_enter Tryd.func80, Tryd.ntmps80
      go_wp2_with fail
      go_ret
      exact ⟨rfl, rfl⟩

theorem named : ∀ k, k < 8 → (!(names.getD k ⟨#[]⟩).toList.isEmpty) = decide (1 ≤ k) := by decide +kernel
theorem name_there (k : Int) : (!(nameK k).toList.isEmpty) = decide (1 ≤ k ∧ k ≤ 7) := by
  unfold nameK
  by_cases h : 0 < k ∧ k < 8
  · rw [if_pos h, named _ (by omega)]
    congr 1
    apply propext
    omega
  · rw [if_neg h, decide_eq_false (by omega), ByteArray.toList_eq]
    rfl
theorem known_any (k : Int) (w : World) (hw : Okd w) : Calls Tryd.prog 70 #[.int .i64 k] w fun e w' => e = .returned (.bool (decide (1 ≤ k ∧ k ≤ 7))) ∧ w = w' := by
  have HN := Lib.hid (name_any k w hw)
  have HE := Lib.hid (name_there k)
  clear hw
  generalize nameK k = x at *
  go_enter Tryd.func70, Tryd.ntmps70
  go_wp2_with fail
  refine HN.out.mono ?_
  rintro e w' ⟨rfl, rfl⟩
  go_wp2
  go_ret
  exact ⟨ret_bool HE.out, rfl⟩
end Go.Proofs.YtbekfjjajggffaaDoor.objs

/-
  What a row's condition on the table of kinds' names gives, and that the door's own heap meets it. No condition.
-/
namespace Go.Proofs.YtbekfjjajggffaaDoor.objs
open Go.RowKit Go.WideShapes Go.ChangeShapes
open Go.Proofs.YtbekfjjajggffaaDoor.shut (cells_of_texts)

/-- The table that each of these rows lists. -/
def laidD : List (String × DataW Unit) := [("logjam/decl.names", Rows.laid_logjam_decl_names)]
theorem laid_names : (Rows.laid_logjam_decl_names : DataW Unit) = .agg (names.map fun z => .lit (.string z.data.toList)) := rfl
theorem gTabd : Tryd.prog.globalNamed "logjam/decl.names" = some 1 := by kernel_rfl
theorem gTabdType : (Tryd.prog.globals[1]?).map (·.type) = some 127 := by kernel_rfl
theorem tabdCells : Tryd.prog.cellsOf 127 = 8 := by kernel_rfl
theorem textCellsD : Tryd.prog.cellsOf 9 = 1 := by kernel_rfl
theorem tabd_of_head {W : World} {rest : List (String × DataW Unit)} (h : laidMet Tryd.prog (("logjam/decl.names", Rows.laid_logjam_decl_names) :: rest) W) : Tabd W ∧ 1 < W.heap.size := by
  obtain ⟨ps, ⟨g', t', cs, fuel, p, q, hg', ht', hvar, hd, _, _⟩, _⟩ := h
  obtain rfl := Option.some.inj (gTabd.symm.trans hg')
  obtain rfl := Option.some.inj (gTabdType.symm.trans ht')
  rw [laid_names] at hd
  have hcs := cells_of_texts Tryd.underlying127 Tryd.underlying9 textCellsD tabdCells hd
  have hc : Tabd W := by
    intro j hj
    have h1 := World.var?_cell gTabd hvar j
    have hj' : j < names.length := hj
    rw [h1, ← Array.getElem?_toList, hcs, List.getElem?_map, List.getElem?_eq_getElem hj', Option.map_some, List.getD_eq_getElem?_getD, List.getElem?_eq_getElem hj', Option.getD_some]
  refine ⟨hc, ?_⟩
  have h0 := hc 0 (by omega)
  rcases Nat.lt_or_ge 1 W.heap.size with h1 | h1
  · exact h1
  · simp [World.cell?, Array.getElem?_eq_none h1] at h0
theorem of_laidD {W : World} (h : laidMetH Tryd.prog laidD W) : Tabd W ∧ 1 < W.heap.size := by
  rw [MakeChecks.laidMetH_plain _ _ _ (by kernel_rfl)] at h
  exact tabd_of_head h

/-- The door's own heap meets the condition: three closed facts. -/
theorem door_metD (os : Os) (args : Array Value) : laidMetH Tryd.prog laidD ((World.doorLaid Tryd.prog 29 os).forCall (fun _ _ => 0) ⟨#[], args, []⟩).memory :=
  laidMetH_of_parts3 (fuel := 8) (laidMet_of_run' 8 (by kernel_rfl) (by kernel_rfl)) (by kernel_rfl) (by kernel_rfl)
end Go.Proofs.YtbekfjjajggffaaDoor.objs

/-
  What is wrong with an instruction, its bytes, and the instruction with which bytes begin: plain mathematics of lists and numbers, and that putting and getting undo each other. No condition but that operands are ints.
-/
namespace Go.Proofs.YtbekfjjajggffaaDoor.inst
open Go.Proofs.YtbekfjjajggffaaDoor.octet (St rdByte rdNum rdInt num zig zag num_back num_once zig_zag zag_zig zig_lt num_length_le dec enc_length_pos rdNum_ok rdByte_ok)
open Go.Proofs.YtbekfjjajggffaaDoor.oper (fm txt)
open Go.Proofs.YtbekfjjajggffaaDoor.word (Word)

/-- The letters of an operation's operands. -/
def form (o : Int) : List UInt8 := (txt fm o).data.toList
def most (c : UInt8) : Int := if c = 107 then 7 else if c = 116 then 199 else if c = 102 then 15 else if c = 106 then 4 else 31
def least (c : UInt8) : Int := if c = 106 then 1 else 0
/-- Is a number in the range of a letter? -/
def fitsB (c : UInt8) (v : Int) : Bool := if c = 110 then decide (Word v) else decide (least c ≤ v ∧ v ≤ most c)
def opd (a b : Int) (j : Nat) : Int := if j = 0 then a else b
def okAt (f : List UInt8) (a b : Int) (j : Nat) : Bool := fitsB (f.getD j 0) (opd a b j)
/-- What is wrong with the operands of an operation of this form. -/
def chkF (f : List UInt8) (a b : Int) : Nat :=
  if (List.range f.length).all (okAt f a b) = false then 1
  else if f = [106, 106] ∧ b < a then 1
  else if (List.range 2).all (fun j => decide (j < f.length) || (opd a b j == 0)) = false then 2 else 0
def Known (o : Int) : Prop := 0 ≤ o ∧ o ≤ 51
instance (o : Int) : Decidable (Known o) := by unfold Known; infer_instance
/-- What is wrong with an instruction. -/
def chk (o a b : Int) : Nat := if Known o then chkF (form o) a b else 6

theorem chkF_arg {f : List UInt8} {a b : Int} {j : Nat} (hj : j < f.length) (h : okAt f a b j = false) : chkF f a b = 1 := by
  unfold chkF
  rw [if_pos]
  cases hh : (List.range f.length).all (okAt f a b) with
  | false => rfl
  | true => rw [List.all_eq_true] at hh; rw [hh j (List.mem_range.2 hj)] at h; cases h
theorem all_ok {f : List UInt8} {a b : Int} (h : ∀ j, j < f.length → okAt f a b j = true) : (List.range f.length).all (okAt f a b) = true := by
  rw [List.all_eq_true]
  exact fun j hj => h j (List.mem_range.1 hj)
theorem chkF_two {f : List UInt8} {a b : Int} (h : ∀ j, j < f.length → okAt f a b j = true) (hf : f = [106, 106]) (hab : b < a) : chkF f a b = 1 := by
  unfold chkF
  rw [all_ok h, if_neg (by decide), if_pos ⟨hf, hab⟩]
theorem chkF_form {f : List UInt8} {a b : Int} (h : ∀ j, j < f.length → okAt f a b j = true) (h2 : ¬ (f = [106, 106] ∧ b < a)) {j : Nat} (hj : f.length ≤ j) (hj2 : j < 2) (hv : opd a b j ≠ 0) : chkF f a b = 2 := by
  unfold chkF
  rw [all_ok h, if_neg (by decide), if_neg h2, if_pos]
  cases hh : (List.range 2).all (fun j => decide (j < f.length) || (opd a b j == 0)) with
  | false => rfl
  | true =>
    rw [List.all_eq_true] at hh
    have := hh j (List.mem_range.2 hj2)
    simp only [Bool.or_eq_true, decide_eq_true_iff, beq_iff_eq] at this
    rcases this with h | h
    · omega
    · exact absurd h hv
theorem chkF_fine {f : List UInt8} {a b : Int} (h : ∀ j, j < f.length → okAt f a b j = true) (h2 : ¬ (f = [106, 106] ∧ b < a)) (h3 : ∀ j, f.length ≤ j → j < 2 → opd a b j = 0) : chkF f a b = 0 := by
  unfold chkF
  rw [all_ok h, if_neg (by decide), if_neg h2, if_neg]
  rw [Bool.not_eq_false, List.all_eq_true]
  intro j hj
  rcases Nat.lt_or_ge j f.length with hl | hl
  · simp [hl]
  · simp [h3 j hl (List.mem_range.1 hj)]
theorem chkF_zero {f : List UInt8} {a b : Int} (h : chkF f a b = 0) : (∀ j, j < f.length → okAt f a b j = true) ∧ ¬ (f = [106, 106] ∧ b < a) ∧ ∀ j, f.length ≤ j → j < 2 → opd a b j = 0 := by
  have h1 : ∀ j, j < f.length → okAt f a b j = true := fun j hj => by
    cases hh : okAt f a b j with
    | true => rfl
    | false => rw [chkF_arg hj hh] at h; cases h
  have h2 : ¬ (f = [106, 106] ∧ b < a) := fun ⟨hf, hab⟩ => by rw [chkF_two h1 hf hab] at h; cases h
  refine ⟨h1, h2, fun j hj hj2 => ?_⟩
  by_cases hv : opd a b j = 0
  · exact hv
  · rw [chkF_form h1 h2 hj hj2 hv] at h; cases h
theorem chkF_le (f : List UInt8) (a b : Int) : chkF f a b ≤ 2 := by unfold chkF; split; omega; split; omega; split <;> omega
theorem chk_le (o a b : Int) : chk o a b ≤ 6 := by
  unfold chk
  split
  · have := chkF_le (form o) a b; omega
  · omega

theorem forms2 : ∀ k, k < 52 → (fm.getD k ⟨#[]⟩).data.toList.length ≤ 2 := by decide +kernel
theorem form_at {k : Nat} (h : k < 52) : form (k : Int) = (fm.getD k ⟨#[]⟩).data.toList := by
  unfold form txt
  rw [if_pos (by omega), Int.toNat_natCast]
theorem form_le (o : Int) : (form o).length ≤ 2 := by
  by_cases h : 0 ≤ o ∧ o ≤ 51
  · have := forms2 o.toNat (by omega)
    have e := form_at (k := o.toNat) (by omega)
    rw [show ((o.toNat : Nat) : Int) = o from by omega] at e
    rw [e]; exact this
  · unfold form txt
    rw [if_neg h]
    exact Nat.zero_le _

/-- The bytes of an operand. -/
def piece (c : UInt8) (v : Int) : List UInt8 := if c = 110 then num (zig v) else num v.toNat
/-- The bytes of the first j operands. -/
def pieces (f : List UInt8) (a b : Int) : Nat → List UInt8
  | 0 => []
  | j + 1 => pieces f a b j ++ piece (f.getD j 0) (opd a b j)
def encI (o a b : Int) : List UInt8 := UInt8.ofNat o.toNat :: pieces (form o) a b (form o).length
theorem piece_le (c : UInt8) (v : Int) : (piece c v).length ≤ 10 := by unfold piece; split <;> exact num_length_le _
theorem pieces_le (f : List UInt8) (a b : Int) : ∀ j, (pieces f a b j).length ≤ 10 * j := by
  intro j
  induction j with
  | zero => simp [pieces]
  | succ j ih =>
    have := piece_le (f.getD j 0) (opd a b j)
    simp only [pieces, List.length_append]
    omega
theorem encI_le (o a b : Int) : (encI o a b).length ≤ 21 := by
  have h1 := pieces_le (form o) a b (form o).length
  have h2 := form_le o
  simp only [encI, List.length_cons]
  omega

/-- An operand that is read: its number, and what is left. -/
def rdOpd (c : UInt8) (s : St) : Int × St := if c = 110 then rdInt s else (((min (rdNum s).1 2147483648 : Nat) : Int), (rdNum s).2)
/-- What the first j operands are read as, and what is left. -/
def rdOpds (f : List UInt8) (s : St) : Nat → List Int × St
  | 0 => ([], s)
  | j + 1 => ((rdOpds f s j).1 ++ [(rdOpd (f.getD j 0) (rdOpds f s j).2).1], (rdOpd (f.getD j 0) (rdOpds f s j).2).2)
structure Got where
  o : Int
  a : Int
  b : Int
  n : Nat
  e : Nat
def Got.bad (e : Nat) : Got := ⟨0, 0, 0, 0, e⟩
/-- What bytes begin with. -/
def getI (l : List UInt8) : Got :=
  let b := rdByte ⟨l, 0⟩
  if b.2.err ≠ 0 then .bad b.2.err
  else if 51 < b.1 then .bad 6
  else
    let r := rdOpds (form b.1) b.2 (form b.1).length
    if r.2.err ≠ 0 then .bad r.2.err
    else if chk b.1 (r.1.getD 0 0) (r.1.getD 1 0) ≠ 0 then .bad (chk b.1 (r.1.getD 0 0) (r.1.getD 1 0))
    else ⟨b.1, r.1.getD 0 0, r.1.getD 1 0, l.length - r.2.rest.length, 0⟩

theorem rdOpd_err {c : UInt8} {s : St} (h : s.err ≠ 0) : (rdOpd c s).2 = s := by
  unfold rdOpd rdInt rdNum
  rw [if_pos h]
  split <;> rfl
theorem rdOpds_length (f : List UInt8) (s : St) (j : Nat) : (rdOpds f s j).1.length = j := by
  induction j with
  | zero => rfl
  | succ j ih => simp [rdOpds, ih]
theorem rdOpds_err {f : List UInt8} {s : St} {j : Nat} (h : (rdOpds f s j).2.err ≠ 0) : ∀ k, j ≤ k → (rdOpds f s k).2 = (rdOpds f s j).2 := by
  intro k hk
  induction k with
  | zero =>
    obtain rfl : j = 0 := by omega
    rfl
  | succ k ih =>
    rcases Nat.eq_or_lt_of_le hk with e | e
    · subst e; rfl
    · have := ih (by omega)
      simp only [rdOpds]
      rw [this, rdOpd_err h]

/-- What was put of an operand is read again. -/
theorem rdOpd_back {c : UInt8} {v : Int} (h : fitsB c v = true) (more : List UInt8) : rdOpd c ⟨piece c v ++ more, 0⟩ = (v, ⟨more, 0⟩) := by
  unfold rdOpd piece
  unfold fitsB at h
  by_cases hc : c = 110
  · rw [if_pos hc] at h
    rw [if_pos hc, if_pos hc]
    have hw : Word v := by simpa using h
    unfold Word at hw
    have hz := num_back (zig_lt (n := v) (by omega) (by omega)) more
    unfold rdInt rdNum
    simp only [ne_eq, not_true_eq_false, if_false, hz, zag_zig]
  · rw [if_neg hc] at h
    rw [if_neg hc, if_neg hc]
    have hw : least c ≤ v ∧ v ≤ most c := by simpa using h
    have h0 : 0 ≤ least c := by unfold least; split <;> omega
    have h1 : most c ≤ 199 := by unfold most; split; omega; split; omega; split; omega; split <;> omega
    have hz := num_back (n := v.toNat) (by omega) more
    unfold rdNum
    simp only [ne_eq, not_true_eq_false, if_false, hz]
    congr 1
    omega
/-- What is read of an operand, put again, is just what was read. -/
theorem rdOpd_once {c : UInt8} {l : List UInt8} {v : Int} {s : St} (h : rdOpd c ⟨l, 0⟩ = (v, s)) (he : s.err = 0) (hf : fitsB c v = true) : l = piece c v ++ s.rest := by
  unfold rdOpd at h
  unfold fitsB at hf
  unfold piece
  by_cases hc : c = 110
  · rw [if_pos hc] at h ⊢
    unfold rdInt rdNum at h
    simp only [ne_eq, not_true_eq_false, if_false, Prod.mk.injEq] at h
    obtain ⟨h1, h2⟩ := h
    have := num_once (l := l) (v := (dec l 0 0).1) (rest := (dec l 0 0).2.1) (Prod.ext rfl (Prod.ext rfl (by rw [← h2] at he; exact he)))
    rw [← h1, zig_zag, ← h2]
    exact this.1
  · rw [if_neg hc] at h hf ⊢
    unfold rdNum at h
    simp only [ne_eq, not_true_eq_false, if_false, Prod.mk.injEq] at h
    obtain ⟨h1, h2⟩ := h
    have hw : least c ≤ v ∧ v ≤ most c := by simpa using hf
    have hm : most c ≤ 199 := by unfold most; split; omega; split; omega; split; omega; split <;> omega
    have := num_once (l := l) (v := (dec l 0 0).1) (rest := (dec l 0 0).2.1) (Prod.ext rfl (Prod.ext rfl (by rw [← h2] at he; exact he)))
    have e : v.toNat = (dec l 0 0).1 := by omega
    rw [e, ← h2]
    exact this.1

theorem getD_left {α : Type} {l r : List α} {d : α} {i : Nat} (h : i < l.length) : (l ++ r).getD i d = l.getD i d := by
  rw [List.getD_eq_getElem?_getD, List.getD_eq_getElem?_getD, List.getElem?_append_left h]
theorem getD_last {α : Type} {l : List α} {x d : α} {i : Nat} (h : l.length = i) : (l ++ [x]).getD i d = x := by
  subst h
  rw [List.getD_eq_getElem?_getD, List.getElem?_append_right (Nat.le_refl _), Nat.sub_self]
  rfl
theorem opds_back {f : List UInt8} {a b : Int} : ∀ j, (∀ i, i < j → okAt f a b i = true) → ∀ more, rdOpds f ⟨pieces f a b j ++ more, 0⟩ j = ((List.range j).map (opd a b), ⟨more, 0⟩) := by
  intro j
  induction j with
  | zero => intro _ more; rfl
  | succ j ih =>
    intro h more
    have h1 := ih (fun i hi => h i (by omega)) (piece (f.getD j 0) (opd a b j) ++ more)
    simp only [pieces, List.append_assoc, rdOpds]
    rw [h1]
    have h2 := rdOpd_back (h j (by omega)) more
    rw [h2, List.range_succ, List.map_append]
    rfl
theorem opds_once {f : List UInt8} : ∀ j (l : List UInt8), (rdOpds f ⟨l, 0⟩ j).2.err = 0 → ∀ a b : Int, (∀ i, i < j → (rdOpds f ⟨l, 0⟩ j).1.getD i 0 = opd a b i) → (∀ i, i < j → okAt f a b i = true) → l = pieces f a b j ++ (rdOpds f ⟨l, 0⟩ j).2.rest := by
  intro j
  induction j with
  | zero => intro l _ a b _ _; simp [pieces, rdOpds]
  | succ j ih =>
    intro l he a b hv hok
    have he' : (rdOpds f ⟨l, 0⟩ j).2.err = 0 := by
      rcases Nat.eq_zero_or_pos (rdOpds f ⟨l, 0⟩ j).2.err with h | h
      · exact h
      · have := rdOpds_err (f := f) (s := ⟨l, 0⟩) (j := j) (by omega) (j + 1) (by omega)
        rw [this] at he; omega
    have hlen := rdOpds_length f ⟨l, 0⟩ j
    have h1 := ih l he' a b (fun i hi => by
      have := hv i (by omega)
      simp only [rdOpds] at this
      rwa [getD_left (by omega)] at this) (fun i hi => hok i (by omega))
    have hj := hv j (by omega)
    simp only [rdOpds] at hj he ⊢
    rw [getD_last hlen] at hj
    generalize (rdOpds f ⟨l, 0⟩ j).2 = S at *
    obtain ⟨R, E⟩ := S
    dsimp only at he'
    subst he'
    have h2 := rdOpd_once (c := f.getD j 0) (l := R) (v := opd a b j) (s := (rdOpd (f.getD j 0) ⟨R, 0⟩).2) (Prod.ext hj rfl) he (hok j (by omega))
    dsimp only at h1
    simp only [pieces, List.append_assoc]
    rw [← h2]
    exact h1

theorem chk_zero {o a b : Int} (h : chk o a b = 0) : Known o ∧ chkF (form o) a b = 0 := by
  unfold chk at h
  split at h
  · exact ⟨‹_›, h⟩
  · cases h
theorem back {o a b : Int} (h : chk o a b = 0) (more : List UInt8) : getI (encI o a b ++ more) = ⟨o, a, b, (encI o a b).length, 0⟩ := by
  obtain ⟨hk, hf⟩ := chk_zero h
  obtain ⟨h1, h2, h3⟩ := chkF_zero hf
  unfold Known at hk
  have hb : rdByte ⟨encI o a b ++ more, 0⟩ = (o.toNat, ⟨pieces (form o) a b (form o).length ++ more, 0⟩) := by
    unfold rdByte encI
    simp only [ne_eq, not_true_eq_false, if_false, List.cons_append]
    congr 1
    rw [UInt8.toNat_ofNat']
    omega
  have ho : ((o.toNat : Nat) : Int) = o := by omega
  have hr := opds_back (f := form o) (a := a) (b := b) (form o).length h1 more
  have hl := form_le o
  have ha : ((List.range (form o).length).map (opd a b)).getD 0 0 = a := by
    rcases Nat.lt_or_ge 0 (form o).length with hh | hh
    · rw [List.getD_eq_getElem?_getD, List.getElem?_map, List.getElem?_range hh]; rfl
    · have := h3 0 hh (by omega)
      rw [List.getD_eq_getElem?_getD, List.getElem?_eq_none (by simpa using hh)]
      exact this.symm
  have hb' : ((List.range (form o).length).map (opd a b)).getD 1 0 = b := by
    rcases Nat.lt_or_ge 1 (form o).length with hh | hh
    · rw [List.getD_eq_getElem?_getD, List.getElem?_map, List.getElem?_range hh]; rfl
    · have := h3 1 hh (by omega)
      rw [List.getD_eq_getElem?_getD, List.getElem?_eq_none (by simpa using hh)]
      exact this.symm
  unfold getI
  simp only [hb, ho, hr, ha, hb', h, ne_eq, not_true_eq_false, if_false]
  rw [if_neg (by omega)]
  congr 1
  simp
theorem got_bad {l : List UInt8} (h : (getI l).e ≠ 0) : getI l = .bad (getI l).e := by
  unfold getI at h ⊢
  dsimp only at h ⊢
  split
  · rfl
  · split
    · rfl
    · split
      · rfl
      · split
        · rfl
        · rename_i h1 h2 h3 h4
          rw [if_neg h1, if_neg h2, if_neg h3, if_neg h4] at h
          exact absurd rfl h
theorem once {l : List UInt8} (h : (getI l).e = 0) : chk (getI l).o (getI l).a (getI l).b = 0 ∧ 0 < (getI l).n ∧ (getI l).n ≤ l.length ∧ encI (getI l).o (getI l).a (getI l).b = l.take (getI l).n := by
  unfold getI at h ⊢
  dsimp only at h ⊢
  by_cases h1 : (rdByte ⟨l, 0⟩).2.err ≠ 0
  · rw [if_pos h1] at h; exact absurd h h1
  · rw [if_neg h1] at h ⊢
    by_cases h2 : 51 < (rdByte ⟨l, 0⟩).1
    · rw [if_pos h2] at h; cases h
    · rw [if_neg h2] at h ⊢
      obtain ⟨x, r, rfl⟩ : ∃ x r, l = x :: r := by
        cases l with
        | nil => exact absurd (show (rdByte ⟨[], 0⟩).2.err ≠ 0 by decide) h1
        | cons x r => exact ⟨x, r, rfl⟩
      have hb : rdByte ⟨x :: r, 0⟩ = (x.toNat, ⟨r, 0⟩) := rfl
      rw [hb] at h h2 ⊢
      dsimp only at h h2 ⊢
      have hk : Known (x.toNat : Int) := by unfold Known; omega
      by_cases h3 : (rdOpds (form (x.toNat : Int)) ⟨r, 0⟩ (form (x.toNat : Int)).length).2.err ≠ 0
      · rw [if_pos h3] at h; exact absurd h h3
      · rw [if_neg h3] at h ⊢
        by_cases h4 : chk (x.toNat : Int) ((rdOpds (form (x.toNat : Int)) ⟨r, 0⟩ (form (x.toNat : Int)).length).1.getD 0 0) ((rdOpds (form (x.toNat : Int)) ⟨r, 0⟩ (form (x.toNat : Int)).length).1.getD 1 0) ≠ 0
        · rw [if_pos h4] at h; exact absurd h h4
        · rw [if_neg h4]
          dsimp only
          have h4' : chk (x.toNat : Int) ((rdOpds (form (x.toNat : Int)) ⟨r, 0⟩ (form (x.toNat : Int)).length).1.getD 0 0) ((rdOpds (form (x.toNat : Int)) ⟨r, 0⟩ (form (x.toNat : Int)).length).1.getD 1 0) = 0 := by omega
          have hok := (chkF_zero (chk_zero h4').2).1
          have hl := form_le (x.toNat : Int)
          have hr := opds_once (f := form (x.toNat : Int)) (form (x.toNat : Int)).length r (by omega) _ _ (fun i hi => by
            unfold opd
            split
            · subst_vars; rfl
            · obtain rfl : i = 1 := by omega
              rfl) hok
          have henc : x :: r = encI (x.toNat : Int) ((rdOpds (form (x.toNat : Int)) ⟨r, 0⟩ (form (x.toNat : Int)).length).1.getD 0 0) ((rdOpds (form (x.toNat : Int)) ⟨r, 0⟩ (form (x.toNat : Int)).length).1.getD 1 0) ++ (rdOpds (form (x.toNat : Int)) ⟨r, 0⟩ (form (x.toNat : Int)).length).2.rest := by
            unfold encI
            rw [List.cons_append, ← hr]
            congr 1
            rw [Int.toNat_natCast, UInt8.ofNat_toNat]
          have hlen := congrArg List.length henc
          rw [List.length_append] at hlen
          have hpos : 0 < (encI (x.toNat : Int) ((rdOpds (form (x.toNat : Int)) ⟨r, 0⟩ (form (x.toNat : Int)).length).1.getD 0 0) ((rdOpds (form (x.toNat : Int)) ⟨r, 0⟩ (form (x.toNat : Int)).length).1.getD 1 0)).length := by unfold encI; simp
          refine ⟨h4', by omega, by omega, ?_⟩
          generalize encI (x.toNat : Int) _ _ = E at *
          generalize (rdOpds (form (x.toNat : Int)) ⟨r, 0⟩ (form (x.toNat : Int)).length).2.rest = R at *
          rw [henc, show (E ++ R).length - R.length = E.length from by simp, List.take_left']
          rfl
end Go.Proofs.YtbekfjjajggffaaDoor.inst

/-
  The document's own answers of operations, each by itself: its tables, which numbers are operations, the operation of a name, form, what is taken and laid. No condition but that an operand is not the greatest number.
-/
namespace Go.Proofs.YtbekfjjajggffaaDoor.oper
open Go.RowKit Go.ChangeShapes
set_option linter.unusedVariables false

theorem row_cell {α : Type} (f : α → Value) (l : List α) (d : α) (T : TypeId) (w : World) {j : Nat} (hj : j < l.length) : (w.alloc (.cells (l.map f).toArray T)).cell? ⟨w.heap.size, j, none⟩ = some (f (l.getD j d)) := by
  have hb : (w.alloc (.cells (l.map f).toArray T)).heap[w.heap.size]? = some (.cells (l.map f).toArray T) := heap_alloc_new w _
  unfold World.cell?
  rw [hb]
  simp [List.getElem?_eq_getElem hj]

def nmBlock : Obj := .cells (nm.map fun x => .string x).toArray 9
theorem nmBlock_cell (w : World) {j : Nat} (hj : j < 52) : (w.alloc nmBlock).cell? ⟨w.heap.size, j, none⟩ = some (.string (nm.getD j ⟨#[]⟩)) :=
  row_cell (fun x => .string x) nm ⟨#[]⟩ 9 w hj

def fmBlock : Obj := .cells (fm.map fun x => .string x).toArray 9
theorem fmBlock_cell (w : World) {j : Nat} (hj : j < 52) : (w.alloc fmBlock).cell? ⟨w.heap.size, j, none⟩ = some (.string (fm.getD j ⟨#[]⟩)) :=
  row_cell (fun x => .string x) fm ⟨#[]⟩ 9 w hj

def tkBlock : Obj := .cells (tk.map fun x => .int .i64 x).toArray 3
theorem tkBlock_cell (w : World) {j : Nat} (hj : j < 52) : (w.alloc tkBlock).cell? ⟨w.heap.size, j, none⟩ = some (.int .i64 (tk.getD j 0)) :=
  row_cell (fun x => .int .i64 x) tk 0 3 w hj

def lyBlock : Obj := .cells (ly.map fun x => .int .i64 x).toArray 3
theorem lyBlock_cell (w : World) {j : Nat} (hj : j < 52) : (w.alloc lyBlock).cell? ⟨w.heap.size, j, none⟩ = some (.int .i64 (ly.getD j 0)) :=
  row_cell (fun x => .int .i64 x) ly 0 3 w hj

theorem refForms_any (w : World) : Calls Tryd.prog 66 #[] w fun e w' => e = .returned (.slice (some ⟨w.heap.size, 0, none⟩) 52 52) ∧ w' = w.alloc fmBlock := by
  go_enter Tryd.func66, Tryd.ntmps66
  go_wp2
  go_ret
  exact ⟨rfl, rfl⟩

theorem refTakes_any (w : World) : Calls Tryd.prog 96 #[] w fun e w' => e = .returned (.slice (some ⟨w.heap.size, 0, none⟩) 52 52) ∧ w' = w.alloc tkBlock := by
  go_enter Tryd.func96, Tryd.ntmps96
  go_wp2
  go_ret
  exact ⟨rfl, rfl⟩

theorem refLays_any (w : World) : Calls Tryd.prog 97 #[] w fun e w' => e = .returned (.slice (some ⟨w.heap.size, 0, none⟩) 52 52) ∧ w' = w.alloc lyBlock := by
  go_enter Tryd.func97, Tryd.ntmps97
  go_wp2
  go_ret
  exact ⟨rfl, rfl⟩

theorem refKnown_yes (n : Int) (h0 : 0 ≤ n) (h1 : n ≤ 51) (w : World) : Calls Tryd.prog 49 #[.int .i64 n] w fun e w' => e = .returned (.bool true) ∧ w = w' := by
  go_enter Tryd.func49, Tryd.ntmps49
  go_wp2
  go_ret
  exact ⟨rfl, rfl⟩
theorem refKnown_no (n : Int) (h : n < 0 ∨ 51 < n) (w : World) : Calls Tryd.prog 49 #[.int .i64 n] w fun e w' => e = .returned (.bool false) ∧ w = w' := by
  by_cases h0 : 0 ≤ n
  · have hd : decide (n ≤ 51) = false := by rw [decide_eq_false_iff_not]; omega
    go_enter Tryd.func49, Tryd.ntmps49
    go_wp2
    go_ret
    exact ⟨rfl, rfl⟩
  · have hd : decide (0 ≤ n) = false := by simpa using h0
    go_enter Tryd.func49, Tryd.ntmps49
    go_wp2
    go_ret
    exact ⟨rfl, rfl⟩

/-- The operation of a name, or -1. -/
def refI (s : ByteArray) : Int := if idx s < 52 then idx s else -1
theorem refForm_yes (k : Nat) (hk : k < 52) (w : World) : Calls Tryd.prog 44 #[.int .i64 (k : Int)] w fun e w' => e = .returned (.string (txt fm (k : Int))) ∧ Below w.heap.size w w' := by
  rw [txt_at hk]
  have HK := Lib.hid (refKnown_yes k (by omega) (by omega) w)
  have HT := Lib.hid (refForms_any w)
  have hc := fmBlock_cell w hk
  have h1 : (k : Int) < 52 := by omega
  have HB := Lib.hid ((Below.refl w.heap.size w).alloc (Nat.le_refl _) fmBlock)
  generalize fm.getD k ⟨#[]⟩ = x at *
  generalize fmBlock = B at *
  go_enter Tryd.func44, Tryd.ntmps44
  go_wp2_with fail
  refine HK.out.mono ?_
  rintro e w1 ⟨rfl, rfl⟩
  go_wp2_with fail
  refine HT.out.mono ?_
  rintro e w1 ⟨rfl, rfl⟩
  go_wp2
  go_ret
  exact ⟨rfl, HB.out⟩
theorem refForm_no (n : Int) (h : n < 0 ∨ 51 < n) (w : World) : Calls Tryd.prog 44 #[.int .i64 n] w fun e w' => e = .returned (.string (txt fm n)) ∧ Below w.heap.size w w' := by
  rw [txt_no h]
  have HK := Lib.hid (refKnown_no n h w)
  clear h
  go_enter Tryd.func44, Tryd.ntmps44
  go_wp2_with fail
  refine HK.out.mono ?_
  rintro e w1 ⟨rfl, rfl⟩
  go_wp2
  go_ret
  exact ⟨rfl, Below.refl _ _⟩
theorem refForm_any (n : Int) (w : World) : Calls Tryd.prog 44 #[.int .i64 n] w fun e w' => e = .returned (.string (txt fm n)) ∧ Below w.heap.size w w' := by
  by_cases h : 0 ≤ n ∧ n ≤ 51
  · obtain ⟨k, hk, rfl⟩ := nat_of h
    exact refForm_yes k hk w
  · exact refForm_no n (by omega) w

theorem refPushes_yes (k : Nat) (hk : k < 52) (w : World) : Calls Tryd.prog 92 #[.int .i64 (k : Int)] w fun e w' => e = .returned (.int .i64 (numb ly (k : Int))) ∧ Below w.heap.size w w' := by
  rw [numb_at hk]
  have HK := Lib.hid (refKnown_yes k (by omega) (by omega) w)
  have HT := Lib.hid (refLays_any w)
  have hc := lyBlock_cell w hk
  have h1 : (k : Int) < 52 := by omega
  have HB := Lib.hid ((Below.refl w.heap.size w).alloc (Nat.le_refl _) lyBlock)
  generalize ly.getD k 0 = x at *
  generalize lyBlock = B at *
  go_enter Tryd.func92, Tryd.ntmps92
  go_wp2_with fail
  refine HK.out.mono ?_
  rintro e w1 ⟨rfl, rfl⟩
  go_wp2_with fail
  refine HT.out.mono ?_
  rintro e w1 ⟨rfl, rfl⟩
  go_wp2
  go_ret
  exact ⟨rfl, HB.out⟩
theorem refPushes_no (n : Int) (h : n < 0 ∨ 51 < n) (w : World) : Calls Tryd.prog 92 #[.int .i64 n] w fun e w' => e = .returned (.int .i64 (numb ly n)) ∧ Below w.heap.size w w' := by
  rw [numb_no h]
  have HK := Lib.hid (refKnown_no n h w)
  clear h
  go_enter Tryd.func92, Tryd.ntmps92
  go_wp2_with fail
  refine HK.out.mono ?_
  rintro e w1 ⟨rfl, rfl⟩
  go_wp2
  go_ret
  exact ⟨rfl, Below.refl _ _⟩
theorem refPushes_any (n : Int) (w : World) : Calls Tryd.prog 92 #[.int .i64 n] w fun e w' => e = .returned (.int .i64 (numb ly n)) ∧ Below w.heap.size w w' := by
  by_cases h : 0 ≤ n ∧ n ≤ 51
  · obtain ⟨k, hk, rfl⟩ := nat_of h
    exact refPushes_yes k hk w
  · exact refPushes_no n (by omega) w

end Go.Proofs.YtbekfjjajggffaaDoor.oper
