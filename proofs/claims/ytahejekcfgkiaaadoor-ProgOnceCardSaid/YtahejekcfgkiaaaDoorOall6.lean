/-
  Texts of one claim in one file: GRd, GNum, GOwn, GIns, JGetPlain, JGet, JGetIn, GRows, GWaits, GFuncs, GCut. Each has its own sentence, with its conditions.
-/
import Derived.Test.YtahejekcfgkiaaaDoorOall1
import Derived.Test.YtahejekcfgkiaaaDoorOall3
import Derived.Test.YtahejekcfgkiaaaDoorOall2
import Derived.RegionTactic
import Derived.BigRegion
import Derived.WalkLawsBesides
import Derived.Outline
import Derived.StillTailTactics
import Derived.Deep.RegionLaw
import Derived.Test.YtahejekcfgkiaaaDoorOall5
import Derived.Laws.MakeOwn
/-
  The reader of a program's bytes (typed over the code of 4b95722): what stops it, what goes on behind bytes, numbers and counts. Texts of at most two to the forty-seventh bytes.
-/
namespace Go.Proofs.YtahejekcfgkiaaaDoor.pgm
open Go.RowKit Go.ChangeShapes
open Go.Proofs.YtahejekcfgkiaaaDoor.octet (St InAt Frm rdNum num extract_mk size_mk open_any left_any err_any)
open Go.Proofs.YtahejekcfgkiaaaDoor.span (pN num_any)
set_option linter.unusedVariables false

/-- What a fault in the bytes panics with. -/
def flt (c : Nat) : List PanicEntry := [{ v := .iface 36 (.agg #[.int .i64 (c : Int)]), recovered := false }]
theorem stop_ok (w : World) : Calls Tryd.prog 10 #[.int .i64 0] w fun e w' => e = .returned (.tuple #[]) ∧ w = w' := by
  go_enter Tryd.func10, Tryd.ntmps10
  go_wp2
  go_end0
  exact ⟨rfl, rfl⟩
theorem stop_bad (c : Nat) (hc : c ≠ 0) (w : World) : Calls Tryd.prog 10 #[.int .i64 (c : Int)] w fun e w' => e = .panicked (flt c) ∧ w = w' := by
  have h0 : ((c : Int) != 0) = true := by simpa using hc
  clear hc
  go_enter Tryd.func10, Tryd.ntmps10
  go_wp2
  exact ⟨rfl, rfl, rfl⟩

/-- The reader at block br: the bytes that are left. -/
def RdAt (w : World) (br : Nat) (t : List UInt8) : Prop := w.heap[br]? = some (.cells #[.string ⟨t.toArray⟩] 63 (0, 0))
theorem RdAt.lt {w : World} {br : Nat} {t : List UInt8} (h : RdAt w br t) : br < w.heap.size := lt_of_block h
theorem RdAt.cell {w : World} {br : Nat} {t : List UInt8} (h : RdAt w br t) : w.cell? ⟨br, 0, none⟩ = some (.string ⟨t.toArray⟩) := by unfold RdAt at h; simp [World.cell?, h]
theorem RdAt.free {w : World} {br : Nat} {t : List UInt8} (h : RdAt w br t) : w.frozen? ⟨br, 0, none⟩ = false := by unfold RdAt at h; simp [World.frozen?, h]
theorem RdAt.kept {w w' : World} {br : Nat} {t : List UInt8} (h : RdAt w br t) (hb : w'.heap[br]? = w.heap[br]?) : RdAt w' br t := hb.trans h
theorem RdAt.set {w : World} {br : Nat} {t : List UInt8} (h : RdAt w br t) (r : List UInt8) : RdAt (w.setCell ⟨br, 0, none⟩ (.string ⟨r.toArray⟩)) br r := by
  have h' : w.heap[br]? = some (.cells #[.string ⟨t.toArray⟩] 63 (0, 0)) := h
  unfold RdAt
  simp [World.setCell, Array.getElem?_modify, h']
/-- What a call of the reader comes to: a panic where there is an error; else what it tells, behind the bytes that it read. -/
def RdPost (br : Nat) (c : Nat) (r : List UInt8) (G : World → Value → World → Prop) (w : World) (e : Ending) (w' : World) : Prop :=
  Frm w.heap.size br w w' ∧ (c ≠ 0 → e = .panicked (flt c)) ∧ (c = 0 → ∃ v, e = .returned v ∧ RdAt w' br r ∧ G w v w')
theorem RdPost.bad {br c : Nat} {r : List UInt8} {G : World → Value → World → Prop} {w w' : World} {e : Ending} (hc : c ≠ 0) (he : e = .panicked (flt c)) (hf : Frm w.heap.size br w w') : RdPost br c r G w e w' := ⟨hf, fun _ => he, fun h => absurd h hc⟩
theorem RdPost.good {br c : Nat} {r : List UInt8} {G : World → Value → World → Prop} {w w' : World} {v : Value} (hc : c = 0) (hf : Frm w.heap.size br w w') (hr : RdAt w' br r) (hg : G w v w') : RdPost br c r G w (.returned v) w' := ⟨hf, fun h => absurd hc h, fun _ => ⟨v, rfl, hr, hg⟩⟩

def NoVal : World → Value → World → Prop := fun _ v _ => v = .tuple #[]
set_option maxHeartbeats 1000000 in
theorem pass_any (w : World) (br : Nat) (t : List UInt8) (n e : Nat) (hr : RdAt w br t) (hn : n ≤ t.length) (hl : t.length ≤ 140737489403904) :
    Calls Tryd.prog 34 #[.pointer (some ⟨br, 0, none⟩), .int .i64 (n : Int), .int .i64 (e : Int)] w (RdPost br e (t.drop n) NoVal w) := by
  have hc := hr.cell
  have hz := hr.free
  have hsz := size_mk t
  by_cases he : e = 0
  · subst he
    have HR := Lib.hid (hr.set (t.drop n))
    have hsl : ∀ W : World, (Instr.slice 9 (.string ⟨t.toArray⟩) (some (.int .i64 (n : Int))) none none).run Tryd.prog W = .ok (.string ⟨(t.drop n).toArray⟩) W := fun W => by
      rw [run_slice_string_from_if W 9 ⟨t.toArray⟩ .i64 (n : Int) Tryd.underlying9, if_pos ⟨by omega, by rw [hsz]; omega⟩, Int.toNat_natCast, hsz, extract_mk, List.take_length]
    clear hr
    go_enter Tryd.func34, Tryd.ntmps34
    go_wp2_with fail
    refine (stop_ok _).mono ?_
    rintro e w1 ⟨rfl, rfl⟩
    go_wp2
    go_end0
    exact RdPost.good rfl ((Frm.refl _ _ _).setCell (p := ⟨br, 0, none⟩) (.inl rfl) _) HR.out rfl
  · have HE := Lib.hid he
    clear he hr
    go_enter Tryd.func34, Tryd.ntmps34
    go_wp2_with fail
    refine (stop_bad e HE.out _).mono ?_
    rintro e1 w1 ⟨rfl, rfl⟩
    go_wp2
    exact ⟨rfl, RdPost.bad HE.out rfl (Frm.refl _ _ _)⟩
end Go.Proofs.YtahejekcfgkiaaaDoor.pgm

/-
  Numbers and counts of a program's bytes (typed over the code of 4b95722). Texts of at most two to the forty-seventh bytes.
-/
namespace Go.Proofs.YtahejekcfgkiaaaDoor.pgm
open Go.RowKit Go.ChangeShapes
open Go.Proofs.YtahejekcfgkiaaaDoor.octet (St InAt Frm rdNum num extract_mk size_mk open_any left_any err_any rdNum_left)
open Go.Proofs.YtahejekcfgkiaaaDoor.objs (rdNum_once rdNum_err)
open Go.Proofs.YtahejekcfgkiaaaDoor.span (pN num_any)
set_option linter.unusedVariables false

theorem drop_of_app {l a r : List UInt8} (h : l = a ++ r) : l.drop (l.length - r.length) = r := by
  subst h
  rw [List.length_append, Nat.add_sub_cancel]
  exact List.drop_left
theorem rdNum_zero {l : List UInt8} (h : (rdNum ⟨l, 0⟩).2.err ≠ 0) : (rdNum ⟨l, 0⟩).1 = 0 := by
  unfold rdNum at h ⊢
  dsimp only at h ⊢
  rw [if_neg (by decide)] at h ⊢
  exact (Go.Proofs.YtahejekcfgkiaaaDoor.octet.dec_fails _ _ _ h).1
/-- The value that a number has. -/
def NumVal (v : Nat) : World → Value → World → Prop := fun _ x _ => x = .int .i64 ((min v 2147483647 : Nat) : Int)
set_option maxRecDepth 100000 in
set_option maxHeartbeats 4000000 in
theorem num_rd (w : World) (br : Nat) (t : List UInt8) (hr : RdAt w br t) (hl : t.length ≤ 140737489403904) :
    Calls Tryd.prog 37 #[.pointer (some ⟨br, 0, none⟩)] w (RdPost br (rdNum ⟨t, 0⟩).2.err (rdNum ⟨t, 0⟩).2.rest (NumVal (rdNum ⟨t, 0⟩).1) w) := by
  have hc := hr.cell
  have hz := hr.free
  have hsz := size_mk t
  have HOp := Lib.hid (open_any w ⟨t.toArray⟩)
  rw [show (⟨t.toArray⟩ : ByteArray).data.toList = t from by simp] at HOp
  have HNm := fun W hi => Lib.hid (num_any W w.heap.size ⟨t, 0⟩ hi (fun h => absurd rfl h) hl)
  have hle := rdNum_left ⟨t, 0⟩
  have HDr : Hid ((rdNum ⟨t, 0⟩).2.err = 0 → t.drop (t.length - (rdNum ⟨t, 0⟩).2.rest.length) = (rdNum ⟨t, 0⟩).2.rest) := Lib.hid (fun h => drop_of_app (rdNum_once h))
  unfold pN at HNm
  generalize rdNum ⟨t, 0⟩ = N at *
  obtain ⟨n, S, er⟩ := N
  dsimp only at HNm hle HDr ⊢
  have HR := Lib.hid hr
  have HL := Lib.hid (And.intro hle hl)
  clear hr hle hl
  go_enter Tryd.func37, Tryd.ntmps37
  go_wp2_with fail
  refine HOp.out.mono ?_
  rintro e w1 ⟨rfl, hi1, hb1, hs1⟩
  have HN1 := HNm w1 hi1
  have HB1 := Lib.hid hb1
  have HS1 := Lib.hid hs1
  clear hi1 hb1 hs1 HNm HOp hc hz
  go_wp2_with fail
  refine HN1.out.mono ?_
  rintro e w2 ⟨rfl, hi2, hf2⟩
  have hb2 : Below w.heap.size w w2 := HB1.out.trans (hf2.below (Nat.le_refl _) (by have := HS1.out; omega))
  have hr2 := HR.out.kept (hb2.block _ HR.out.lt)
  have hc2 := hr2.cell
  have hz2 := hr2.free
  have HF2 : Hid (Frm w.heap.size br w w2) := Lib.hid (Frm.of_below hb2)
  have HLf := Lib.hid (left_any w2.drew w.heap.size ⟨S, er⟩ hi2)
  have HEr := Lib.hid (err_any w2.drew w.heap.size ⟨S, er⟩ hi2)
  have HPs := Lib.hid (pass_any w2.drew br t (t.length - S.length) er hr2 (Nat.sub_le _ _) HL.out.2)
  have HWr : Hid (wrap64 ((t.length : Int) - (S.length : Int)) = ((t.length - S.length : Nat) : Int)) := Lib.hid (by
    have := HL.out
    rw [IntWalk.wrap64_in _ (by omega)]
    omega)
  go_wp2_with fail
  go_still_tail 11, (by kernel_rfl)
  still_call (HLf.out.mono fun e w' h => ⟨h.1, h.2.symm⟩)
  repeat still_step
  still_call (HEr.out.mono fun e w' h => ⟨h.1, h.2.symm⟩)
  repeat still_step
  refine wpStill_nil ?_
  have HF3 : Hid (Frm w.heap.size br w w2.drew ∧ w.heap.size ≤ w2.drew.heap.size) := Lib.hid ⟨HF2.out.drew, HF2.out.size⟩
  clear hi2 hf2 hb2 hr2 hc2 hz2 HLf HEr HF2
  change wpList _ _ _ _ _ w2.drew
  generalize w2.drew = W6 at *
  go_wp2_with fail
  rw [HWr.out]
  refine HPs.out.mono ?_
  rintro e w3 ⟨hf3, hbad, hgood⟩
  have HF4 := Lib.hid (HF3.out.1.trans (hf3.mono HF3.out.2))
  by_cases h0 : er = 0
  · obtain ⟨v, rfl, hr3, hv⟩ := hgood h0
    have hv2 : v = .tuple #[] := hv
    subst hv2
    have HR3 := Lib.hid hr3
    have HE0 := Lib.hid h0
    clear hbad hgood hr3 hf3 hv h0 HPs
    go_wp2
    go_ret
    exact RdPost.good HE0.out HF4.out (by have := HR3.out; rwa [HDr.out HE0.out] at this) rfl
  · obtain rfl := hbad h0
    have HE0 := Lib.hid h0
    clear hbad hgood hf3 h0 HPs
    go_wp2
    exact ⟨rfl, RdPost.bad HE0.out rfl HF4.out⟩

/-- The value that a count has. -/
def CntVal (v : Nat) : World → Value → World → Prop := fun _ x _ => x = .int .i64 (v : Int)
set_option maxRecDepth 100000 in
set_option maxHeartbeats 4000000 in
theorem count_rd (w : World) (br : Nat) (t : List UInt8) (most : Nat) (hm : most ≤ 1000) (hr : RdAt w br t) (hl : t.length ≤ 140737489403904) :
    Calls Tryd.prog 35 #[.pointer (some ⟨br, 0, none⟩), .int .i64 (most : Int)] w (RdPost br (rdMany ⟨t, 0⟩ most).2.2 (rdMany ⟨t, 0⟩ most).2.1.rest (CntVal (rdMany ⟨t, 0⟩ most).1) w) := by
  have HN := Lib.hid (num_rd w br t hr hl)
  have HX : Hid ((rdNum ⟨t, 0⟩).2.err ≠ 0 → (rdNum ⟨t, 0⟩).1 = 0) := Lib.hid (fun h => rdNum_zero h)
  obtain ⟨q, hq⟩ : ∃ q, q = rdMany ⟨t, 0⟩ most := ⟨_, rfl⟩
  rw [← hq]
  unfold rdMany at hq
  generalize rdNum ⟨t, 0⟩ = N at *
  obtain ⟨n, S, er⟩ := N
  dsimp only at HN HX hq
  clear hr hl
  by_cases he : er = 0
  · subst he
    by_cases h4 : most < n
    · rw [if_pos h4] at hq
      have hd : decide ((most : Int) < ((min n 2147483647 : Nat) : Int)) = true := by simp; omega
      clear h4
      subst hq
      go_enter Tryd.func35, Tryd.ntmps35
      go_wp2_with fail
      refine HN.out.mono ?_
      rintro e w1 ⟨hf1, hbad, hgood⟩
      obtain ⟨v, rfl, hr1, hv⟩ := hgood rfl
      have hv2 : v = .int .i64 ((min n 2147483647 : Nat) : Int) := hv
      subst hv2
      have HF1 := Lib.hid hf1
      clear hbad hgood hr1 hf1 hv HN
      generalize ((min n 2147483647 : Nat) : Int) = x at *
      go_wp2_with fail
      refine (stop_bad 4 (by decide) _).mono ?_
      rintro e w2 ⟨rfl, rfl⟩
      go_wp2
      exact ⟨rfl, RdPost.bad (by decide) rfl HF1.out⟩
    · rw [if_neg h4] at hq
      have hx : ((min n 2147483647 : Nat) : Int) = (n : Int) := by omega
      have hd : decide ((most : Int) < (n : Int)) = false := by simp; omega
      have hd2 : decide (most < n) = false := by simp; omega
      unfold NumVal at HN
      rw [hx] at HN
      clear h4 hx
      subst hq
      go_enter Tryd.func35, Tryd.ntmps35
      go_wp2_with fail
      refine HN.out.mono ?_
      rintro e w1 ⟨hf1, hbad, hgood⟩
      obtain ⟨v, rfl, hr1, hv⟩ := hgood rfl
      have hv2 : v = .int .i64 (n : Int) := hv
      subst hv2
      have HF1 := Lib.hid hf1
      have HR1 := Lib.hid hr1
      clear hbad hgood hr1 hf1 hv HN
      go_wp2
      go_ret
      exact RdPost.good rfl HF1.out HR1.out rfl
  · have hn0 := HX.out he
    subst hn0
    rw [if_neg (by omega)] at hq
    have HE0 := Lib.hid he
    clear he
    subst hq
    go_enter Tryd.func35, Tryd.ntmps35
    go_wp2_with fail
    refine HN.out.mono ?_
    rintro e w1 ⟨hf1, hbad, hgood⟩
    obtain rfl := hbad HE0.out
    have HF1 := Lib.hid hf1
    clear hbad hgood hf1 HN
    go_wp2
    exact ⟨rfl, RdPost.bad HE0.out rfl HF1.out⟩
end Go.Proofs.YtahejekcfgkiaaaDoor.pgm

/-
  Rows that a call owns: of instructions, of waits, of functions; and append behind them. No condition.
-/
namespace Go.Proofs.YtahejekcfgkiaaaDoor.pgm
open Go.RowKit Go.ChangeShapes
open Go.Proofs.YtahejekcfgkiaaaDoor.objs (De zero CellsAt DAt flat flat_append flat_length flat_at flat_oneCell src_cells I64 Ints)
open Go.Proofs.YtahejekcfgkiaaaDoor.need (WAt OwnN OwnW)
set_option linter.unusedVariables false

/-- A slice's value of instructions, nil or a row of the call's own. -/
def OwnJ (w : World) (base : Nat) (v : Value) (l : List De) : Prop := w.ownsRow base 48 3 v l.length (flat l)
theorem OwnJ.nil (w : World) (base : Nat) : OwnJ w base (.slice none 0 0) [] := World.ownsRow_nil ..
theorem OwnJ.empty {w : World} {g : Nat} (h : w.heap[g]? = some (.cells #[] 48 (0, 0))) : OwnJ w g (.slice (some ⟨g, 0, none⟩) 0 0) [] :=
  ⟨rfl, .inr ⟨g, 0, #[], rfl, Nat.le_refl _, h, Nat.le_refl _, Nat.zero_le _, rfl, rfl⟩⟩
theorem OwnJ.slice {w : World} {base : Nat} {v : Value} {l : List De} (h : OwnJ w base v l) : ∃ A cap, v = .slice A l.length cap := by
  rcases h.2 with ⟨rfl, h0⟩ | ⟨g, cap, cur, rfl, _⟩
  · exact ⟨none, 0, by rw [h0]⟩
  · exact ⟨_, _, rfl⟩
theorem OwnJ.at {w : World} {base cap : Nat} {A : Option Addr} {l : List De} {n : Nat} (h : OwnJ w base (.slice A n cap) l) : DAt w A l := by
  intro j hj
  rcases h.2 with ⟨e, h0⟩ | ⟨g, cap', cur, e, hb, hh, _⟩
  · omega
  · injection e with e1 e2 e3
    subst e1
    obtain ⟨h1, h2, h3⟩ := flat_at l j hj
    refine ⟨g, 0, rfl, lt_of_block hh, ?_, ?_, ?_⟩
    · have := World.ownsRow.cells h (g := g) rfl _ _ h1
      rw [Addr.add_lit] at this
      simpa using this
    · have := World.ownsRow.cells h (g := g) rfl _ _ h2
      rw [Addr.add_lit] at this
      simpa using this
    · have := World.ownsRow.cells h (g := g) rfl _ _ h3
      rw [Addr.add_lit] at this
      simpa using this
theorem OwnJ.keep {w w' : World} {base : Nat} {v : Value} {l : List De} (h : OwnJ w base v l) (hk : ∀ g, v.ownBlock = some g → w'.heap[g]? = w.heap[g]?) : OwnJ w' base v l := by
  refine ⟨h.1, h.2.imp id ?_⟩
  rintro ⟨g, c, cur, rfl, hb, hh, r⟩
  exact ⟨g, c, cur, rfl, hb, (hk g rfl).trans hh, r⟩
theorem OwnJ.lt {w : World} {base g : Nat} {v : Value} {l : List De} (h : OwnJ w base v l) (hg : v.ownBlock = some g) : base ≤ g ∧ g < w.heap.size := World.ownsRow.lt h g hg
theorem OwnJ.next {w w' : World} {base : Nat} {v : Value} {l : List De} (h : OwnJ w base v l) (hb : Below w.heap.size w w') : OwnJ w' base v l := h.keep fun g hg => hb.block g (h.lt hg).2
theorem OwnJ.base {w : World} {base base' : Nat} {v : Value} {l : List De} (h : OwnJ w base v l) (hb : base' ≤ base) : OwnJ w base' v l := by
  refine ⟨h.1, h.2.imp id ?_⟩
  rintro ⟨g, c, cur, e, hb1, r⟩
  exact ⟨g, c, cur, e, Nat.le_trans hb hb1, r⟩

theorem infoJ : (Tryd.prog.info? 48).map (fun i => (i.zero, i.size, i.bytes)) = some (some (.agg #[.int .i64 0, .int .i64 0, .int .i64 0]), 3, 24) := by kernel_rfl

/-- A list that lies anywhere, put behind a row of a call's own. -/
theorem run_appJ (w : World) (ty : TypeId) (base m c : Nat) (v : Value) (A : Option Addr) (l r : List De) (hrow : OwnJ w base v l) (hm : m = r.length) (hA : A = none → r = [] ∧ c = 0) (hsrc : DAt w A r) (hlen : l.length + r.length ≤ 100000) (hbase : base ≤ w.heap.size) :
    ∃ v' w', (Builtin.append_ #[44, 44] ty #[v, .slice A m c]).run Tryd.prog w = .ok v' w' ∧ OwnJ w' base v' (l ++ r) ∧ w.grownBy w' v.ownBlock := by
  subst hm
  obtain ⟨i, hi, hz0, hz1, hz2⟩ := info_parts infoJ
  cases A with
  | none =>
    obtain ⟨rfl, rfl⟩ := hA rfl
    refine ⟨v, w, run_append_owned_none (P := Tryd.prog) (w := w) base 44 ty 48 i 3 Tryd.underlying44 hi v l.length (flat l) hrow, ?_, ⟨rfl, rfl, rfl, Nat.le_refl _, fun _ _ _ => rfl⟩⟩
    rw [List.append_nil]
    exact hrow
  | some ad =>
    obtain ⟨v', w', h1, h2, h3, _⟩ := run_append_own (P := Tryd.prog) w base 44 ty 48 i _ 3 24 Tryd.underlying44 hi hz0 hz1 hz2 rfl (by omega) v l.length (flat l) hrow ad r.length c (flat r) (flat_length r) (src_cells hsrc) (flat_oneCell r) (by unfold maxLen; omega) (by omega) hbase
    refine ⟨v', w', h1, ?_, h3⟩
    unfold OwnJ
    rw [List.length_append, flat_append]
    exact h2
theorem wp_appJ {o : Oper} {a : Act} {w : World} {K : Act → World → Prop} {Q : Exit → Act → World → Prop} (s x : Operand)
    (ho : o.op = .call { callee := .builtin .append, args := #[s, x], argTypes := #[44, 44] }) (base m c : Nat) (v : Value) (A : Option Addr) (l r : List De)
    (hs : a.eval s = v) (hrow : OwnJ w base v l) (hx : a.eval x = .slice A m c) (hm : m = r.length) (hA : A = none → r = [] ∧ c = 0) (hsrc : DAt w A r) (hlen : l.length + r.length ≤ 100000) (hbase : base ≤ w.heap.size)
    (h : ∀ v' w', OwnJ w' base v' (l ++ r) → w.grownBy w' v.ownBlock → K (a.put o.dst v') w') : o.wp Tryd.prog a w K Q := by
  obtain ⟨v', w', hr, h2, h3⟩ := run_appJ w o.type base m c v A l r hrow hm hA hsrc hlen hbase
  unfold Oper.wp execOp
  simp only [ho, resolve, invoke, builtin, Sem.run_bind, Sem.run_pure, Result.andThen_ok, List.map_toArray, List.map_cons, List.map_nil, hs, hx, hr]
  exact h v' w' h2 h3
theorem wpList_appJ {ops : Array Oper} {rest : List Oper} {o : Oper} {a : Act} {w : World} {Q : Exit → Act → World → Prop} (hgd : o.guard = none) (s x : Operand)
    (ho : o.op = .call { callee := .builtin .append, args := #[s, x], argTypes := #[44, 44] }) (base m c : Nat) (v : Value) (A : Option Addr) (l r : List De)
    (hs : a.eval s = v) (hrow : OwnJ w base v l) (hx : a.eval x = .slice A m c) (hm : m = r.length) (hA : A = none → r = [] ∧ c = 0) (hsrc : DAt w A r) (hlen : l.length + r.length ≤ 100000) (hbase : base ≤ w.heap.size)
    (h : ∀ v' w', OwnJ w' base v' (l ++ r) → w.grownBy w' v.ownBlock → wpList Tryd.prog ops Q rest (a.put o.dst v') w') : wpList Tryd.prog ops Q (o :: rest) a w :=
  wpList_plain hgd fun _ hK => wp_appJ s x ho base m c v A l r hs hrow hx hm hA hsrc hlen hbase fun v' w' h2 h3 => hK _ _ (h v' w' h2 h3)
theorem step_appJ {ops : Array Oper} {o : Oper} {a : Act} {w : World} {K : Act → World → Prop} {Q : Exit → Act → World → Prop} {E : Prop} (hgd : o.guard = none) (s x : Operand)
    (ho : o.op = .call { callee := .builtin .append, args := #[s, x], argTypes := #[44, 44] }) (base m c : Nat) (v : Value) (A : Option Addr) (l r : List De)
    (hs : a.eval s = v) (hrow : OwnJ w base v l) (hx : a.eval x = .slice A m c) (hm : m = r.length) (hA : A = none → r = [] ∧ c = 0) (hsrc : DAt w A r) (hlen : l.length + r.length ≤ 100000) (hbase : base ≤ w.heap.size)
    (h : ∀ v' w', OwnJ w' base v' (l ++ r) → w.grownBy w' v.ownBlock → K (a.put o.dst v') w') :
    if Region.wanted o (yielded ops a.tmps) = true then Oper.wp Tryd.prog o a w K Q else E := by
  have hw : Region.wanted o (yielded ops a.tmps) = true := by simp [Region.wanted, hgd]
  rw [if_pos hw]
  exact wp_appJ s x ho base m c v A l r hs hrow hx hm hA hsrc hlen hbase h
theorem DAt.oneJ {w : World} {g : Nat} {d : De} (h : w.heap[g]? = some (.cells #[.int .i64 d.1, .int .i64 d.2.1, .int .i64 d.2.2] 48 (0, 0))) : DAt w (some ⟨g, 0, none⟩) [d] := fun j hj => by
  obtain rfl : j = 0 := by simpa using hj
  refine ⟨g, 0, rfl, lt_of_block h, ?_, ?_, ?_⟩
  all_goals
    unfold World.cell?
    rw [h]
    rfl
/-- What a row of instructions holds: its block is one of instructions. -/
theorem OwnJ.kind {w : World} {base g : Nat} {v : Value} {l : List De} (h : OwnJ w base v l) (hg : v.ownBlock = some g) : ∃ cur, w.heap[g]? = some (.cells cur 48 (0, 0)) := by
  rcases h.2 with ⟨rfl, _⟩ | ⟨g', cap, cur, rfl, _, hh, _⟩
  · cases hg
  · simp [Value.ownBlock] at hg
    subst hg
    exact ⟨cur, hh⟩

/-- A row of ways stays where blocks of ways and of needs stay. -/
theorem _root_.Go.Proofs.YtahejekcfgkiaaaDoor.need.OwnW.kinds {w w' : World} {base : Nat} {v : Value} {l : List (List De)} (h : OwnW w base v l) (hk : ∀ g, g < w.heap.size → (∃ cur, w.heap[g]? = some (.cells cur 70 (0, 0)) ∨ w.heap[g]? = some (.cells cur 72 (0, 0))) → w'.heap[g]? = w.heap[g]?) : OwnW w' base v l := by
  obtain ⟨xs, h1, h2⟩ := h
  refine ⟨xs, ⟨h1.1, h1.2.imp id ?_⟩, fun j hj => ?_⟩
  · rintro ⟨g, c, cur, rfl, hg, hh, r⟩
    exact ⟨g, c, cur, rfl, hg, (hk g (lt_of_block hh) ⟨cur, .inl hh⟩).trans hh, r⟩
  · obtain ⟨x, h3, h4⟩ := h2 j hj
    exact ⟨x, h3, h4.keep fun g hg => hk g (h4.lt hg).2 (by obtain ⟨cur, h5⟩ := h4.kind hg; exact ⟨cur, .inr h5⟩)⟩

/-- A row of waits that a call owns, each of them a row of ways of the call's own. -/
def OwnV (W : World) (base : Nat) (v : Value) (l : List (List (List De))) : Prop :=
  ∃ xs : List Value, W.ownsRow base 43 1 v l.length xs ∧ ∀ j, j < l.length → ∃ x, xs[j]? = some x ∧ OwnW W base x (l.getD j [])
theorem OwnV.slice {w : World} {base : Nat} {v : Value} {l : List (List (List De))} (h : OwnV w base v l) : ∃ A cap, v = .slice A l.length cap := by
  obtain ⟨xs, h1, _⟩ := h
  rcases h1.2 with ⟨rfl, h0⟩ | ⟨g, cap, cur, rfl, _⟩
  · exact ⟨none, 0, by rw [h0]⟩
  · exact ⟨_, _, rfl⟩
theorem OwnV.next {w w' : World} {base : Nat} {v : Value} {l : List (List (List De))} (h : OwnV w base v l) (hb : Below w.heap.size w w') : OwnV w' base v l := by
  obtain ⟨xs, h1, h2⟩ := h
  refine ⟨xs, ?_, fun j hj => ?_⟩
  · refine ⟨h1.1, h1.2.imp id ?_⟩
    rintro ⟨g, c, cur, rfl, hg, hh, r⟩
    exact ⟨g, c, cur, rfl, hg, (hb.block g (lt_of_block hh)).trans hh, r⟩
  · obtain ⟨x, h3, h4⟩ := h2 j hj
    exact ⟨x, h3, h4.next hb⟩
theorem OwnV.nil (w : World) (base : Nat) : OwnV w base (.slice none 0 0) [] := ⟨[], World.ownsRow_nil .., fun j hj => absurd hj (Nat.not_lt_zero j)⟩
theorem OwnV.empty {w : World} {g : Nat} (h : w.heap[g]? = some (.cells #[] 43 (0, 0))) : OwnV w g (.slice (some ⟨g, 0, none⟩) 0 0) [] :=
  ⟨[], ⟨rfl, .inr ⟨g, 0, #[], rfl, Nat.le_refl _, h, Nat.le_refl _, Nat.zero_le _, rfl, rfl⟩⟩, fun j hj => absurd hj (Nat.not_lt_zero j)⟩
theorem OwnV.base {w : World} {base base' : Nat} {v : Value} {l : List (List (List De))} (h : OwnV w base v l) (hb : base' ≤ base) : OwnV w base' v l := by
  obtain ⟨xs, h1, h2⟩ := h
  refine ⟨xs, ⟨h1.1, h1.2.imp id ?_⟩, fun j hj => ?_⟩
  · rintro ⟨g, c, cur, e, hg, r⟩
    exact ⟨g, c, cur, e, Nat.le_trans hb hg, r⟩
  · obtain ⟨x, h3, h4⟩ := h2 j hj
    exact ⟨x, h3, h4.base hb⟩
theorem OwnV.at {w : World} {base cap : Nat} {A : Option Addr} {l : List (List (List De))} {n : Nat} (h : OwnV w base (.slice A n cap) l) : WsAt w A l := by
  intro j hj
  obtain ⟨xs, h1, h2⟩ := h
  obtain ⟨x, h3, h4⟩ := h2 j hj
  rcases h1.2 with ⟨e, h0⟩ | ⟨g, cap', cur, e, hb, hh, _⟩
  · omega
  · injection e with e1 e2 e3
    subst e1
    obtain ⟨Aj, cj, rfl⟩ := h4.slice
    refine ⟨g, 0, Aj, cj, rfl, lt_of_block hh, ?_, h4.at⟩
    have := World.ownsRow.cells h1 (g := g) rfl _ _ h3
    rw [Addr.add_lit] at this
    simpa using this
theorem OwnV.hold {w w' : World} {base : Nat} {v : Value} {l : List (List (List De))} (h : OwnV w base v l) (hk : ∀ g, base ≤ g → g < w.heap.size → w'.heap[g]? = w.heap[g]?) : OwnV w' base v l := by
  obtain ⟨xs, h1, h2⟩ := h
  refine ⟨xs, ⟨h1.1, h1.2.imp id ?_⟩, fun j hj => ?_⟩
  · rintro ⟨g, c, cur, rfl, hg, hh, r⟩
    exact ⟨g, c, cur, rfl, hg, (hk g hg (lt_of_block hh)).trans hh, r⟩
  · obtain ⟨x, h3, ys, h4, h5⟩ := h2 j hj
    refine ⟨x, h3, ys, ⟨h4.1, h4.2.imp id ?_⟩, fun i hi => ?_⟩
    · rintro ⟨g, c, cur, rfl, hg, hh, r⟩
      exact ⟨g, c, cur, rfl, hg, (hk g hg (lt_of_block hh)).trans hh, r⟩
    · obtain ⟨y, h6, h7⟩ := h5 i hi
      exact ⟨y, h6, h7.keep fun g hg => hk g (h7.lt hg).1 (h7.lt hg).2⟩
theorem infoV : (Tryd.prog.info? 43).map (fun i => (i.zero, i.size, i.bytes)) = some (some (.slice none 0 0), 1, 24) := by kernel_rfl

/-- One wait, in a block of its own, put behind a row of waits. -/
theorem run_appV (w w1 : World) (ty : TypeId) (base c : Nat) (v x : Value) (l : List (List (List De))) (r : List (List De)) (hrow : OwnV w base v l) (hx : OwnW w base x r) (hw1 : w1 = w.alloc (.cells #[x] 43)) (hlen : l.length ≤ 1000) (hbase : base ≤ w.heap.size) :
    ∃ v' w', (Builtin.append_ #[23, 23] ty #[v, .slice (some ⟨w.heap.size, 0, none⟩) 1 c]).run Tryd.prog w1 = .ok v' w' ∧ OwnV w' base v' (l ++ [r]) ∧ w1.grownBy w' v.ownBlock := by
  subst hw1
  obtain ⟨i, hi, hz0, hz1, hz2⟩ := info_parts infoV
  obtain ⟨xs, h1, h2⟩ := hrow
  have hb0 : Below w.heap.size w (w.alloc (.cells #[x] 43)) := (Below.refl _ w).alloc (Nat.le_refl _) _
  have hc : (w.alloc (.cells #[x] 43)).cell? ⟨w.heap.size, 0, none⟩ = some x := by
    unfold World.cell?
    rw [heap_alloc_new w _]
    rfl
  have hrow1 : (w.alloc (.cells #[x] 43)).ownsRow base 43 1 v l.length xs := by
    refine ⟨h1.1, h1.2.imp id ?_⟩
    rintro ⟨g, c, cur, rfl, hg, hh, r⟩
    exact ⟨g, c, cur, rfl, hg, (hb0.block g (lt_of_block hh)).trans hh, r⟩
  obtain ⟨Ax, cx, hxs⟩ := hx.slice
  obtain ⟨v', w', r1, r2, r3, _⟩ := run_append_own (P := Tryd.prog) (w.alloc (.cells #[x] 43)) base 23 ty 43 i _ 1 24 Tryd.underlying23 hi hz0 hz1 hz2 rfl (by omega) v l.length xs hrow1 ⟨w.heap.size, 0, none⟩ 1 c [x] rfl (by
      intro j u hu
      rcases j with _ | j
      · simp only [List.getElem?_cons_zero, Option.some.injEq] at hu
        subst hu
        rw [Addr.add_lit]
        exact hc
      · simp at hu) (by
      intro u hu
      simp only [List.mem_singleton] at hu
      subst hu
      rw [hxs]
      rfl) (by unfold maxLen; omega) (by omega) (by simp; omega)
  refine ⟨v', w', r1, ⟨xs ++ [x], ?_, fun j hj => ?_⟩, r3⟩
  · rw [List.length_append]
    exact r2
  · have hlx : xs.length = l.length := by have := h1.1; omega
    have keep : ∀ (y : Value) (r' : List (List De)), OwnW w base y r' → OwnW w' base y r' := fun y r' hy => hy.kinds fun g hlt hk => by
      rw [r3.block g (by have := hb0.size; omega) (fun e => ?_), hb0.block g hlt]
      rcases h1.2 with ⟨rfl, _⟩ | ⟨g', cap', cur', rfl, _, hh, _⟩
      · cases e
      · simp [Value.ownBlock] at e
        subst e
        obtain ⟨cur, hk | hk⟩ := hk
        · rw [hk] at hh
          injection hh with hh
          injection hh with _ hh _
          exact absurd hh (by decide)
        · rw [hk] at hh
          injection hh with hh
          injection hh with _ hh _
          exact absurd hh (by decide)
    rcases Nat.lt_or_ge j l.length with hj2 | hj2
    · obtain ⟨y, h3, h4⟩ := h2 j hj2
      refine ⟨y, by rw [List.getElem?_append_left (by omega)]; exact h3, ?_⟩
      rw [show (l ++ [r]).getD j [] = l.getD j [] from by rw [List.getD_eq_getElem?_getD, List.getD_eq_getElem?_getD, List.getElem?_append_left hj2]]
      exact keep _ _ h4
    · rw [List.length_append] at hj
      obtain rfl : j = l.length := by simp at hj; omega
      refine ⟨x, by rw [List.getElem?_append_right (by omega), hlx, Nat.sub_self]; rfl, ?_⟩
      rw [show (l ++ [r]).getD l.length [] = r from by rw [List.getD_eq_getElem?_getD, List.getElem?_append_right (Nat.le_refl _), Nat.sub_self]; rfl]
      exact keep _ _ hx
theorem wp_appV {o : Oper} {a : Act} {w w1 : World} {K : Act → World → Prop} {Q : Exit → Act → World → Prop} (s y : Operand)
    (ho : o.op = .call { callee := .builtin .append, args := #[s, y], argTypes := #[23, 23] }) (base c : Nat) (v x : Value) (l : List (List (List De))) (r : List (List De))
    (hs : a.eval s = v) (hrow : OwnV w base v l) (hy : a.eval y = .slice (some ⟨w.heap.size, 0, none⟩) 1 c) (hx : OwnW w base x r) (hw1 : w1 = w.alloc (.cells #[x] 43)) (hlen : l.length ≤ 1000) (hbase : base ≤ w.heap.size)
    (h : ∀ v' w', OwnV w' base v' (l ++ [r]) → w1.grownBy w' v.ownBlock → K (a.put o.dst v') w') : o.wp Tryd.prog a w1 K Q := by
  obtain ⟨v', w', hr, h2, h3⟩ := run_appV w w1 o.type base c v x l r hrow hx hw1 hlen hbase
  unfold Oper.wp execOp
  simp only [ho, resolve, invoke, builtin, Sem.run_bind, Sem.run_pure, Result.andThen_ok, List.map_toArray, List.map_cons, List.map_nil, hs, hy, hr]
  exact h v' w' h2 h3
theorem wpList_appV {ops : Array Oper} {rest : List Oper} {o : Oper} {a : Act} {w w1 : World} {Q : Exit → Act → World → Prop} (hgd : o.guard = none) (s y : Operand)
    (ho : o.op = .call { callee := .builtin .append, args := #[s, y], argTypes := #[23, 23] }) (base c : Nat) (v x : Value) (l : List (List (List De))) (r : List (List De))
    (hs : a.eval s = v) (hrow : OwnV w base v l) (hy : a.eval y = .slice (some ⟨w.heap.size, 0, none⟩) 1 c) (hx : OwnW w base x r) (hw1 : w1 = w.alloc (.cells #[x] 43)) (hlen : l.length ≤ 1000) (hbase : base ≤ w.heap.size)
    (h : ∀ v' w', OwnV w' base v' (l ++ [r]) → w1.grownBy w' v.ownBlock → wpList Tryd.prog ops Q rest (a.put o.dst v') w') : wpList Tryd.prog ops Q (o :: rest) a w1 :=
  wpList_plain hgd fun _ hK => wp_appV s y ho base c v x l r hs hrow hy hx hw1 hlen hbase fun v' w' h2 h3 => hK _ _ (h v' w' h2 h3)
theorem step_appV {ops : Array Oper} {o : Oper} {a : Act} {w w1 : World} {K : Act → World → Prop} {Q : Exit → Act → World → Prop} {E : Prop} (hgd : o.guard = none) (s y : Operand)
    (ho : o.op = .call { callee := .builtin .append, args := #[s, y], argTypes := #[23, 23] }) (base c : Nat) (v x : Value) (l : List (List (List De))) (r : List (List De))
    (hs : a.eval s = v) (hrow : OwnV w base v l) (hy : a.eval y = .slice (some ⟨w.heap.size, 0, none⟩) 1 c) (hx : OwnW w base x r) (hw1 : w1 = w.alloc (.cells #[x] 43)) (hlen : l.length ≤ 1000) (hbase : base ≤ w.heap.size)
    (h : ∀ v' w', OwnV w' base v' (l ++ [r]) → w1.grownBy w' v.ownBlock → K (a.put o.dst v') w') :
    if Region.wanted o (yielded ops a.tmps) = true then Oper.wp Tryd.prog o a w1 K Q else E := by
  have hw : Region.wanted o (yielded ops a.tmps) = true := by simp [Region.wanted, hgd]
  rw [if_pos hw]
  exact wp_appV s y ho base c v x l r hs hrow hy hx hw1 hlen hbase h

/-- A row of functions that a call owns, each one's code a row of instructions of the call's own. -/
def OwnF (W : World) (base : Nat) (v : Value) (l : List Fn) : Prop :=
  ∃ xs : List Value, W.ownsRow base 46 3 v l.length xs ∧ ∀ j, j < l.length → xs[j * 3]? = some (.int .i64 (l.getD j Fn.zero).ar) ∧ xs[j * 3 + 1]? = some (.int .i64 (l.getD j Fn.zero).lo) ∧ ∃ x, xs[j * 3 + 2]? = some x ∧ OwnJ W base x (l.getD j Fn.zero).co
theorem OwnF.slice {w : World} {base : Nat} {v : Value} {l : List Fn} (h : OwnF w base v l) : ∃ A cap, v = .slice A l.length cap := by
  obtain ⟨xs, h1, _⟩ := h
  rcases h1.2 with ⟨rfl, h0⟩ | ⟨g, cap, cur, rfl, _⟩
  · exact ⟨none, 0, by rw [h0]⟩
  · exact ⟨_, _, rfl⟩
theorem OwnF.hold {w w' : World} {base : Nat} {v : Value} {l : List Fn} (h : OwnF w base v l) (hk : ∀ g, base ≤ g → g < w.heap.size → w'.heap[g]? = w.heap[g]?) : OwnF w' base v l := by
  obtain ⟨xs, h1, h2⟩ := h
  refine ⟨xs, ⟨h1.1, h1.2.imp id ?_⟩, fun j hj => ?_⟩
  · rintro ⟨g, c, cur, rfl, hg, hh, r⟩
    exact ⟨g, c, cur, rfl, hg, (hk g hg (lt_of_block hh)).trans hh, r⟩
  · obtain ⟨e1, e2, x, h3, h4⟩ := h2 j hj
    exact ⟨e1, e2, x, h3, h4.keep fun g hg => hk g (h4.lt hg).1 (h4.lt hg).2⟩
theorem OwnF.next {w w' : World} {base : Nat} {v : Value} {l : List Fn} (h : OwnF w base v l) (hb : Below w.heap.size w w') : OwnF w' base v l := h.hold fun g _ hg => hb.block g hg
theorem OwnF.nil (w : World) (base : Nat) : OwnF w base (.slice none 0 0) [] := ⟨[], World.ownsRow_nil .., fun j hj => absurd hj (Nat.not_lt_zero j)⟩
theorem OwnF.base {w : World} {base base' : Nat} {v : Value} {l : List Fn} (h : OwnF w base v l) (hb : base' ≤ base) : OwnF w base' v l := by
  obtain ⟨xs, h1, h2⟩ := h
  refine ⟨xs, ⟨h1.1, h1.2.imp id ?_⟩, fun j hj => ?_⟩
  · rintro ⟨g, c, cur, e, hg, r⟩
    exact ⟨g, c, cur, e, Nat.le_trans hb hg, r⟩
  · obtain ⟨e1, e2, x, h3, h4⟩ := h2 j hj
    exact ⟨e1, e2, x, h3, h4.base hb⟩
theorem OwnF.at {w : World} {base cap : Nat} {A : Option Addr} {l : List Fn} {n : Nat} (h : OwnF w base (.slice A n cap) l) : FsAt w A l := by
  intro j hj
  obtain ⟨xs, h1, h2⟩ := h
  obtain ⟨e1, e2, x, h3, h4⟩ := h2 j hj
  rcases h1.2 with ⟨e, h0⟩ | ⟨g, cap', cur, e, hb, hh, _⟩
  · omega
  · injection e with q1 q2 q3
    subst q1
    obtain ⟨Aj, cj, rfl⟩ := h4.slice
    have at_ : ∀ i u, xs[i]? = some u → w.cell? ⟨g, 0 + i, none⟩ = some u := fun i u hu => by
      have := World.ownsRow.cells h1 (g := g) rfl _ _ hu
      rwa [Addr.add_lit] at this
    exact ⟨g, 0, Aj, cj, rfl, lt_of_block hh, ⟨at_ _ _ e1, at_ _ _ e2, at_ _ _ h3⟩, h4.at⟩
theorem infoF : (Tryd.prog.info? 46).map (fun i => (i.zero, i.size, i.bytes)) = some (some (.agg #[.int .i64 0, .int .i64 0, .slice none 0 0]), 3, 40) := by kernel_rfl
/-- One function, in a block of its own, put behind a row of functions. -/
theorem run_appF (w w1 : World) (ty : TypeId) (base c : Nat) (v x : Value) (l : List Fn) (f : Fn) (hrow : OwnF w base v l) (hx : OwnJ w base x f.co) (hw1 : w1 = w.alloc (.cells #[.int .i64 f.ar, .int .i64 f.lo, x] 46)) (hlen : l.length ≤ 1000) (hbase : base ≤ w.heap.size) :
    ∃ v' w', (Builtin.append_ #[24, 24] ty #[v, .slice (some ⟨w.heap.size, 0, none⟩) 1 c]).run Tryd.prog w1 = .ok v' w' ∧ OwnF w' base v' (l ++ [f]) ∧ w1.grownBy w' v.ownBlock := by
  subst hw1
  obtain ⟨i, hi, hz0, hz1, hz2⟩ := info_parts infoF
  obtain ⟨xs, h1, h2⟩ := hrow
  obtain ⟨F, hF⟩ : ∃ F : Obj, F = .cells #[.int .i64 f.ar, .int .i64 f.lo, x] 46 := ⟨_, rfl⟩
  rw [← hF]
  have hb0 : Below w.heap.size w (w.alloc F) := (Below.refl _ w).alloc (Nat.le_refl _) _
  have hnew : (w.alloc F).heap[w.heap.size]? = some F := heap_alloc_new w F
  have hc : ∀ (j : Nat) (u : Value), [Value.int .i64 f.ar, .int .i64 f.lo, x][j]? = some u → (w.alloc F).cell? ((⟨w.heap.size, 0, none⟩ : Addr).add j) = some u := by
    intro j u hu
    rw [Addr.add_lit, Nat.zero_add]
    unfold World.cell?
    rw [hnew, hF]
    rcases j with _ | _ | _ | j
    · simpa using hu
    · simpa using hu
    · simpa using hu
    · simp at hu
  have hrow1 : (w.alloc F).ownsRow base 46 3 v l.length xs := by
    refine ⟨h1.1, h1.2.imp id ?_⟩
    rintro ⟨g, c, cur, rfl, hg, hh, r⟩
    exact ⟨g, c, cur, rfl, hg, (hb0.block g (lt_of_block hh)).trans hh, r⟩
  obtain ⟨Ax, cx, hxs⟩ := hx.slice
  obtain ⟨v', w', r1, r2, r3, _⟩ := run_append_own (P := Tryd.prog) (w.alloc F) base 24 ty 46 i _ 3 40 Tryd.underlying24 hi hz0 hz1 hz2 rfl (by omega) v l.length xs hrow1 ⟨w.heap.size, 0, none⟩ 1 c [.int .i64 f.ar, .int .i64 f.lo, x] rfl hc (by
      intro u hu
      simp only [List.mem_cons, List.not_mem_nil, or_false] at hu
      rcases hu with rfl | rfl | rfl
      · rfl
      · rfl
      · rw [hxs]; rfl) (by unfold maxLen; omega) (by omega) (by simp; omega)
  refine ⟨v', w', r1, ⟨xs ++ [.int .i64 f.ar, .int .i64 f.lo, x], ?_, fun j hj => ?_⟩, r3⟩
  · rw [List.length_append]
    exact r2
  · have hlx : xs.length = l.length * 3 := by have := h1.1; omega
    have keep : ∀ (y : Value) (r' : List De), OwnJ w base y r' → OwnJ w' base y r' := fun y r' hy => hy.keep fun g hg => by
      have hlt := (hy.lt hg).2
      obtain ⟨cur, hk⟩ := hy.kind hg
      rw [r3.block g (by have := hb0.size; omega) (fun e => ?_), hb0.block g hlt]
      rcases h1.2 with ⟨rfl, _⟩ | ⟨g', cap', cur', rfl, _, hh, _⟩
      · cases e
      · simp [Value.ownBlock] at e
        subst e
        rw [hk] at hh
        injection hh with hh
        injection hh with _ hh _
        exact absurd hh (by decide)
    rcases Nat.lt_or_ge j l.length with hj2 | hj2
    · obtain ⟨e1, e2, y, h3, h4⟩ := h2 j hj2
      have hl1 : j * 3 + 2 < xs.length := by omega
      rw [show (l ++ [f]).getD j Fn.zero = l.getD j Fn.zero from at_left hj2]
      exact ⟨by rw [List.getElem?_append_left (by omega)]; exact e1, by rw [List.getElem?_append_left (by omega)]; exact e2, y, by rw [List.getElem?_append_left (by omega)]; exact h3, keep _ _ h4⟩
    · rw [List.length_append] at hj
      obtain rfl : j = l.length := by simp at hj; omega
      rw [show (l ++ [f]).getD l.length Fn.zero = f from at_last rfl, ← hlx]
      refine ⟨?_, ?_, x, ?_, keep _ _ hx⟩
      · rw [List.getElem?_append_right (Nat.le_refl _), Nat.sub_self]; rfl
      · rw [List.getElem?_append_right (by omega), Nat.add_sub_cancel_left]; rfl
      · rw [List.getElem?_append_right (by omega), Nat.add_sub_cancel_left]; rfl
theorem wp_appF {o : Oper} {a : Act} {w w1 : World} {K : Act → World → Prop} {Q : Exit → Act → World → Prop} (s y : Operand)
    (ho : o.op = .call { callee := .builtin .append, args := #[s, y], argTypes := #[24, 24] }) (base c : Nat) (v x : Value) (l : List Fn) (f : Fn)
    (hs : a.eval s = v) (hrow : OwnF w base v l) (hy : a.eval y = .slice (some ⟨w.heap.size, 0, none⟩) 1 c) (hx : OwnJ w base x f.co) (hw1 : w1 = w.alloc (.cells #[.int .i64 f.ar, .int .i64 f.lo, x] 46)) (hlen : l.length ≤ 1000) (hbase : base ≤ w.heap.size)
    (h : ∀ v' w', OwnF w' base v' (l ++ [f]) → w1.grownBy w' v.ownBlock → K (a.put o.dst v') w') : o.wp Tryd.prog a w1 K Q := by
  obtain ⟨v', w', hr, h2, h3⟩ := run_appF w w1 o.type base c v x l f hrow hx hw1 hlen hbase
  unfold Oper.wp execOp
  simp only [ho, resolve, invoke, builtin, Sem.run_bind, Sem.run_pure, Result.andThen_ok, List.map_toArray, List.map_cons, List.map_nil, hs, hy, hr]
  exact h v' w' h2 h3
theorem wpList_appF {ops : Array Oper} {rest : List Oper} {o : Oper} {a : Act} {w w1 : World} {Q : Exit → Act → World → Prop} (hgd : o.guard = none) (s y : Operand)
    (ho : o.op = .call { callee := .builtin .append, args := #[s, y], argTypes := #[24, 24] }) (base c : Nat) (v x : Value) (l : List Fn) (f : Fn)
    (hs : a.eval s = v) (hrow : OwnF w base v l) (hy : a.eval y = .slice (some ⟨w.heap.size, 0, none⟩) 1 c) (hx : OwnJ w base x f.co) (hw1 : w1 = w.alloc (.cells #[.int .i64 f.ar, .int .i64 f.lo, x] 46)) (hlen : l.length ≤ 1000) (hbase : base ≤ w.heap.size)
    (h : ∀ v' w', OwnF w' base v' (l ++ [f]) → w1.grownBy w' v.ownBlock → wpList Tryd.prog ops Q rest (a.put o.dst v') w') : wpList Tryd.prog ops Q (o :: rest) a w1 :=
  wpList_plain hgd fun _ hK => wp_appF s y ho base c v x l f hs hrow hy hx hw1 hlen hbase fun v' w' h2 h3 => hK _ _ (h v' w' h2 h3)
theorem step_appF {ops : Array Oper} {o : Oper} {a : Act} {w w1 : World} {K : Act → World → Prop} {Q : Exit → Act → World → Prop} {E : Prop} (hgd : o.guard = none) (s y : Operand)
    (ho : o.op = .call { callee := .builtin .append, args := #[s, y], argTypes := #[24, 24] }) (base c : Nat) (v x : Value) (l : List Fn) (f : Fn)
    (hs : a.eval s = v) (hrow : OwnF w base v l) (hy : a.eval y = .slice (some ⟨w.heap.size, 0, none⟩) 1 c) (hx : OwnJ w base x f.co) (hw1 : w1 = w.alloc (.cells #[.int .i64 f.ar, .int .i64 f.lo, x] 46)) (hlen : l.length ≤ 1000) (hbase : base ≤ w.heap.size)
    (h : ∀ v' w', OwnF w' base v' (l ++ [f]) → w1.grownBy w' v.ownBlock → K (a.put o.dst v') w') :
    if Region.wanted o (yielded ops a.tmps) = true then Oper.wp Tryd.prog o a w1 K Q else E := by
  have hw : Region.wanted o (yielded ops a.tmps) = true := by simp [Region.wanted, hgd]
  rw [if_pos hw]
  exact wp_appF s y ho base c v x l f hs hrow hy hx hw1 hlen hbase h
end Go.Proofs.YtahejekcfgkiaaaDoor.pgm

/-
  The document's reader of an instruction reads just what was put, and of what it read the bytes are just those. Plain mathematics; no condition.
-/
namespace Go.Proofs.YtahejekcfgkiaaaDoor.pgm
open Go.Proofs.YtahejekcfgkiaaaDoor.octet (St rdByte rdNum num)
open Go.Proofs.YtahejekcfgkiaaaDoor.objs (De zero)
open Go.Proofs.YtahejekcfgkiaaaDoor.inst (readI chk chk_zero chkF_zero encI pieces form form_le opd opds_back opds_once rdOpds Known)
set_option linter.unusedVariables false

/-- An instruction that is read, what is left, the error. -/
def rdIns (s : St) : De × St × Nat := (((readI s).o, (readI s).a, (readI s).b), (readI s).s, (readI s).e)
theorem readI_back {o a b : Int} (h : chk o a b = 0) (more : List UInt8) : readI ⟨encI o a b ++ more, 0⟩ = ⟨o, a, b, ⟨more, 0⟩, 0⟩ := by
  obtain ⟨hk, hf⟩ := chk_zero h
  obtain ⟨h1, h2, h3⟩ := chkF_zero hf
  unfold Known at hk
  have hb : rdByte ⟨encI o a b ++ more, 0⟩ = (o.toNat, ⟨pieces (form o) a b (form o).length ++ more, 0⟩) := by
    unfold rdByte encI
    simp only [ne_eq, not_true_eq_false, if_false, List.cons_append]
    congr 1
    rw [UInt8.toNat_ofNat']
    omega
  have ho : ((o.toNat : Nat) : Int) = o := by omega
  have hr := opds_back (f := form o) (a := a) (b := b) (form o).length h1 more
  have hl := form_le o
  have ha : ((List.range (form o).length).map (opd a b)).getD 0 0 = a := by
    rcases Nat.lt_or_ge 0 (form o).length with hh | hh
    · rw [List.getD_eq_getElem?_getD, List.getElem?_map, List.getElem?_range hh]; rfl
    · have := h3 0 hh (by omega)
      rw [List.getD_eq_getElem?_getD, List.getElem?_eq_none (by simpa using hh)]
      exact this.symm
  have hb' : ((List.range (form o).length).map (opd a b)).getD 1 0 = b := by
    rcases Nat.lt_or_ge 1 (form o).length with hh | hh
    · rw [List.getD_eq_getElem?_getD, List.getElem?_map, List.getElem?_range hh]; rfl
    · have := h3 1 hh (by omega)
      rw [List.getD_eq_getElem?_getD, List.getElem?_eq_none (by simpa using hh)]
      exact this.symm
  unfold readI
  simp only [hb, ho, hr, ha, hb', h, ne_eq, not_true_eq_false, if_false]
  rw [if_neg (by omega)]
theorem readI_once {l : List UInt8} (h : (readI ⟨l, 0⟩).e = 0) : l = encI (readI ⟨l, 0⟩).o (readI ⟨l, 0⟩).a (readI ⟨l, 0⟩).b ++ (readI ⟨l, 0⟩).s.rest ∧ (readI ⟨l, 0⟩).s.err = 0 := by
  unfold readI at h ⊢
  dsimp only at h ⊢
  by_cases h1 : (rdByte ⟨l, 0⟩).2.err ≠ 0
  · rw [if_pos h1] at h; exact absurd h h1
  · rw [if_neg h1] at h ⊢
    by_cases h2 : 51 < (rdByte ⟨l, 0⟩).1
    · rw [if_pos h2] at h; cases h
    · rw [if_neg h2] at h ⊢
      obtain ⟨x, r, rfl⟩ : ∃ x r, l = x :: r := by
        cases l with
        | nil => exact absurd (show (rdByte ⟨[], 0⟩).2.err ≠ 0 by decide) h1
        | cons x r => exact ⟨x, r, rfl⟩
      have hb : rdByte ⟨x :: r, 0⟩ = (x.toNat, ⟨r, 0⟩) := rfl
      rw [hb] at h h2 ⊢
      dsimp only at h h2 ⊢
      by_cases h3 : (rdOpds (form (x.toNat : Int)) ⟨r, 0⟩ (form (x.toNat : Int)).length).2.err ≠ 0
      · rw [if_pos h3] at h; exact absurd h h3
      · rw [if_neg h3] at h ⊢
        by_cases h4 : chk (x.toNat : Int) ((rdOpds (form (x.toNat : Int)) ⟨r, 0⟩ (form (x.toNat : Int)).length).1.getD 0 0) ((rdOpds (form (x.toNat : Int)) ⟨r, 0⟩ (form (x.toNat : Int)).length).1.getD 1 0) ≠ 0
        · rw [if_pos h4] at h; exact absurd h h4
        · rw [if_neg h4]
          dsimp only
          have h4' : chk (x.toNat : Int) ((rdOpds (form (x.toNat : Int)) ⟨r, 0⟩ (form (x.toNat : Int)).length).1.getD 0 0) ((rdOpds (form (x.toNat : Int)) ⟨r, 0⟩ (form (x.toNat : Int)).length).1.getD 1 0) = 0 := by omega
          have hok := (chkF_zero (chk_zero h4').2).1
          have hl := form_le (x.toNat : Int)
          have hr := opds_once (f := form (x.toNat : Int)) (form (x.toNat : Int)).length r (by omega) _ _ (fun i hi => by
            unfold opd
            split
            · subst_vars; rfl
            · obtain rfl : i = 1 := by omega
              rfl) hok
          refine ⟨?_, by omega⟩
          unfold encI
          rw [List.cons_append, ← hr]
          congr 1
          rw [Int.toNat_natCast, UInt8.ofNat_toNat]
/-- The document's reader of an instruction is one. -/
theorem reads : Reads rdIns := ⟨fun x h more => by
  unfold rdIns encIn
  rw [readI_back h more], fun L h => readI_once h⟩
end Go.Proofs.YtahejekcfgkiaaaDoor.pgm

/-
  The program reads a number that is above all ranges as another such number than the document does: what is told of the instruction is the same. Plain mathematics; no condition.
-/
namespace Go.Proofs.YtahejekcfgkiaaaDoor.inst
open Go.Proofs.YtahejekcfgkiaaaDoor.octet (St rdByte rdNum rdInt)
open Go.Proofs.YtahejekcfgkiaaaDoor.word (Word)
set_option linter.unusedVariables false

/-- An operand as the program reads it. -/
def pOpd (c : UInt8) (s : St) : Int × St := if c = 110 then rdInt s else (((min (rdNum s).1 2147483647 : Nat) : Int), (rdNum s).2)
def pOpds (f : List UInt8) (s : St) : Nat → List Int × St
  | 0 => ([], s)
  | j + 1 => ((pOpds f s j).1 ++ [(pOpd (f.getD j 0) (pOpds f s j).2).1], (pOpd (f.getD j 0) (pOpds f s j).2).2)
/-- An instruction as the program reads it, whether it may be or not. -/
def pRead (s : St) : Rd :=
  let b := rdByte s
  let r := pOpds (form b.1) b.2 (form b.1).length
  ⟨b.1, r.1.getD 0 0, r.1.getD 1 0, r.2, r.2.err⟩

theorem pOpd_state (c : UInt8) (s : St) : (pOpd c s).2 = (rdOpd c s).2 := by unfold pOpd rdOpd; split <;> rfl
theorem pOpds_state (f : List UInt8) (s : St) : ∀ j, (pOpds f s j).2 = (rdOpds f s j).2 := by
  intro j
  induction j with
  | zero => rfl
  | succ j ih => simp only [pOpds, rdOpds]; rw [pOpd_state, ih]
theorem pOpds_length (f : List UInt8) (s : St) (j : Nat) : (pOpds f s j).1.length = j := by
  induction j with
  | zero => rfl
  | succ j ih => simp [pOpds, ih]
theorem opd_same (c : UInt8) (s : St) : (pOpd c s).1 = (rdOpd c s).1 ∨ (fitsB c (pOpd c s).1 = false ∧ fitsB c (rdOpd c s).1 = false) := by
  by_cases hc : c = 110
  · left; unfold pOpd rdOpd; rw [if_pos hc, if_pos hc]
  · unfold pOpd rdOpd
    rw [if_neg hc, if_neg hc]
    by_cases hn : (rdNum s).1 ≤ 2147483647
    · left
      show ((min (rdNum s).1 2147483647 : Nat) : Int) = ((min (rdNum s).1 2147483648 : Nat) : Int)
      congr 1
      omega
    · right
      have hm : most c ≤ 199 := by unfold most; split; omega; split; omega; split; omega; split <;> omega
      have h : ∀ v : Int, 199 < v → fitsB c v = false := fun v hv => by
        unfold fitsB
        rw [if_neg hc, decide_eq_false_iff_not]
        omega
      exact ⟨h _ (by show (199 : Int) < ((min (rdNum s).1 2147483647 : Nat) : Int); omega), h _ (by show (199 : Int) < ((min (rdNum s).1 2147483648 : Nat) : Int); omega)⟩
theorem opds_same (f : List UInt8) (s : St) : ∀ j i, i < j → (pOpds f s j).1.getD i 0 = (rdOpds f s j).1.getD i 0 ∨ (fitsB (f.getD i 0) ((pOpds f s j).1.getD i 0) = false ∧ fitsB (f.getD i 0) ((rdOpds f s j).1.getD i 0) = false) := by
  intro j
  induction j with
  | zero => intro i hi; omega
  | succ j ih =>
    intro i hi
    have h1 := pOpds_length f s j
    have h2 := rdOpds_length f s j
    simp only [pOpds, rdOpds]
    rcases Nat.lt_or_ge i j with h | h
    · rw [getD_left (by omega), getD_left (by omega)]
      exact ih i h
    · obtain rfl : i = j := by omega
      rw [getD_last h1, getD_last h2, pOpds_state]
      exact opd_same _ _
theorem opd_getD (V : List Int) {i : Nat} (h : i < 2) : opd (V.getD 0 0) (V.getD 1 0) i = V.getD i 0 := by
  match i, h with
  | 0, _ => rfl
  | 1, _ => rfl
theorem chk_same {f : List UInt8} {U V : List Int} (hf : f.length ≤ 2) (hu : U.length = f.length) (hv : V.length = f.length)
    (h : ∀ i, i < f.length → U.getD i 0 = V.getD i 0 ∨ (fitsB (f.getD i 0) (U.getD i 0) = false ∧ fitsB (f.getD i 0) (V.getD i 0) = false)) :
    (U.getD 0 0 = V.getD 0 0 ∧ U.getD 1 0 = V.getD 1 0) ∨ (chkF f (U.getD 0 0) (U.getD 1 0) = 1 ∧ chkF f (V.getD 0 0) (V.getD 1 0) = 1) := by
  by_cases hh : ∀ i, i < f.length → U.getD i 0 = V.getD i 0
  · left
    have hd : ∀ (L : List Int) i, L.length ≤ i → L.getD i 0 = 0 := fun L i hi => by rw [List.getD_eq_getElem?_getD, List.getElem?_eq_none hi]; rfl
    have h1 : ∀ i, U.getD i 0 = V.getD i 0 := fun i => by
      rcases Nat.lt_or_ge i f.length with h2 | h2
      · exact hh i h2
      · rw [hd U i (by omega), hd V i (by omega)]
    exact ⟨h1 0, h1 1⟩
  · right
    obtain ⟨i, hi⟩ := Classical.not_forall.1 hh
    obtain ⟨hi1, hi2⟩ := Classical.not_imp.1 hi
    rcases h i hi1 with h3 | ⟨h3, h4⟩
    · exact absurd h3 hi2
    · exact ⟨chkF_arg hi1 (by unfold okAt; rw [opd_getD U (by omega)]; exact h3), chkF_arg hi1 (by unfold okAt; rw [opd_getD V (by omega)]; exact h4)⟩

theorem form_none {o : Int} (h : ¬ Known o) : form o = [] := by
  unfold form
  unfold Known at h
  rw [Go.Proofs.YtahejekcfgkiaaaDoor.oper.txt_no (by omega)]
theorem got_prog (l : List UInt8) : getI l = if (pRead ⟨l, 0⟩).e ≠ 0 then .bad (pRead ⟨l, 0⟩).e else if chk (pRead ⟨l, 0⟩).o (pRead ⟨l, 0⟩).a (pRead ⟨l, 0⟩).b ≠ 0 then .bad (chk (pRead ⟨l, 0⟩).o (pRead ⟨l, 0⟩).a (pRead ⟨l, 0⟩).b)
    else ⟨(pRead ⟨l, 0⟩).o, (pRead ⟨l, 0⟩).a, (pRead ⟨l, 0⟩).b, l.length - (pRead ⟨l, 0⟩).s.rest.length, 0⟩ := by
  unfold getI pRead
  dsimp only
  generalize hb : rdByte ⟨l, 0⟩ = B
  obtain ⟨o, S⟩ := B
  dsimp only
  have hst := pOpds_state (form o) S (form o).length
  by_cases h1 : S.err ≠ 0
  · have e1 : (pOpds (form o) S (form o).length).2.err = S.err := by
      rw [hst, rdOpds_err (f := form o) (s := S) (j := 0) h1 _ (Nat.zero_le _)]
      rfl
    rw [if_pos h1]
    simp only [e1, if_pos h1]
  · rw [if_neg h1]
    by_cases h2 : 51 < o
    · have hk : ¬ Known (o : Int) := by unfold Known; omega
      have hc : ∀ a b : Int, chk o a b = 6 := fun a b => by unfold chk; rw [if_neg hk]
      have e1 : (pOpds (form o) S (form o).length).2.err = S.err := by
        rw [form_none hk]
        rfl
      rw [if_pos h2]
      simp only [e1, if_neg h1, hc]
      rfl
    · have hk : Known (o : Int) := by unfold Known; omega
      rw [if_neg h2]
      simp only [hst]
      by_cases h3 : (rdOpds (form o) S (form o).length).2.err ≠ 0
      · simp only [if_pos h3]
      · simp only [if_neg h3]
        have hc : ∀ a b : Int, chk o a b = chkF (form o) a b := fun a b => by unfold chk; rw [if_pos hk]
        rcases chk_same (form_le o) (pOpds_length (form o) S _) (rdOpds_length (form o) S _) (opds_same (form o) S _) with ⟨e1, e2⟩ | ⟨e1, e2⟩
        · rw [e1, e2]
        · simp only [hc, e1, e2]
          rfl
end Go.Proofs.YtahejekcfgkiaaaDoor.inst

/-
  The program's own reading of an instruction (typed over the code of 392f5a9): for every text of at most two to the forty-seventh bytes. The table of names must lie where its initialiser lays it.
-/
namespace Go.Proofs.YtahejekcfgkiaaaDoor.inst
open Go.RowKit Go.ChangeShapes
open Go.Proofs.YtahejekcfgkiaaaDoor.oper (ret_int ret_bool ret_string Tab nm txt)
open Go.Proofs.YtahejekcfgkiaaaDoor.word (Word)
open Go.Proofs.YtahejekcfgkiaaaDoor.octet (St InAt Frm rdByte rdNum rdInt byteIn_any numIn_any intIn_any err_any left_any open_any rdNum_ok rdNum_left rdByte_ok)
set_option linter.unusedVariables false

theorem pOpd_ok {c : UInt8} {s : St} (h : s.ok) : (pOpd c s).2.ok := by
  unfold pOpd rdInt
  split <;> exact rdNum_ok h
theorem pOpd_left (c : UInt8) (s : St) : (pOpd c s).2.rest.length ≤ s.rest.length := by
  unfold pOpd rdInt
  split <;> exact rdNum_left s
theorem rdByte_left (s : St) : (rdByte s).2.rest.length ≤ s.rest.length := by
  unfold rdByte
  split
  · exact Nat.le_refl _
  · split
    · exact Nat.zero_le _
    · rename_i h; rw [h]; simp

set_option maxHeartbeats 400000 in
theorem getOperand_any (w : World) (bi : Nat) (s : St) (c : UInt8) (hi : InAt w bi s) (hok : s.ok) (hl : s.rest.length ≤ 140737489403904) :
    Calls Tryd.prog 82 #[.pointer (some ⟨bi, 0, none⟩), .int .u8 (c.toNat : Int)] w fun e w' => e = .returned (.int .i64 (pOpd c s).1) ∧ InAt w' bi (pOpd c s).2 ∧ Frm w.heap.size bi w w' := by
  by_cases hc : c = 110
  · subst hc
    have HE : Hid (pOpd 110 s = rdInt s) := Lib.hid rfl
    rw [HE.out]
    have HI := Lib.hid (intIn_any w bi s hi hok hl)
    go_enter Tryd.func82, Tryd.ntmps82
    go_wp2_with fail
    refine HI.out.mono ?_
    rintro e w1 ⟨rfl, h1, h2⟩
    go_wp2
    go_ret
    exact ⟨rfl, h1, h2⟩
  · have HE : Hid (pOpd c s = Go.Proofs.YtahejekcfgkiaaaDoor.span.pN s) := Lib.hid (by unfold pOpd; rw [if_neg hc]; rfl)
    have hc1 : ((c.toNat : Int) == 110) = false := (u8_ne hc).1
    rw [HE.out]
    clear hc HE
    have HI := Lib.hid (Go.Proofs.YtahejekcfgkiaaaDoor.span.num_any w bi s hi hok hl)
    generalize Go.Proofs.YtahejekcfgkiaaaDoor.span.pN s = p at *
    obtain ⟨v, S⟩ := p
    dsimp only at HI ⊢
    go_enter Tryd.func82, Tryd.ntmps82
    go_wp2_with fail
    refine HI.out.mono ?_
    rintro e w1 ⟨rfl, h1, h2⟩
    go_wp2
    go_ret
    exact ⟨rfl, h1, h2⟩

/-- In the midst of reading: where the reader stands, and what was read. -/
structure Rds (w : World) (bi b1 gl : Nat) (o : Int) (V : List Int) (S : St) (W : World) : Prop where
  inn : InAt W bi S
  row : RowIs W gl V
  b0 : W.heap[w.heap.size]? = some (.cells #[.int .i64 0, .int .i64 0, .int .i64 0] 48 (0, 0))
  bb : W.heap[b1]? = some (.cells #[.int .i64 o, .int .i64 0, .int .i64 0] 48 (0, 0))
  frm : Frm w.heap.size bi w W
  lt : bi < w.heap.size
  h1 : w.heap.size < b1
  h2 : b1 < gl
theorem Rds.next {w W W' : World} {bi b1 gl : Nat} {o : Int} {V : List Int} {S S' : St} (h : Rds w bi b1 gl o V S W) (hi : InAt W' bi S') (hf : Frm W.heap.size bi W W') : Rds w bi b1 gl o V S' W' := by
  have hg := h.row.lt
  have e1 := h.lt
  have e2 := h.h1
  have e3 := h.h2
  have hrow : W'.heap[gl]? = W.heap[gl]? := hf.block _ hg (by omega)
  refine ⟨hi, fun i hi => ?_, (hf.block _ (by omega) (by omega)).trans h.b0, (hf.block _ (by omega) (by omega)).trans h.bb, h.frm.trans (hf.mono h.frm.size), e1, e2, e3⟩
  have := h.row i hi
  unfold World.cell? World.frozen? at this ⊢
  rw [hrow]
  exact this
theorem Rds.set {w W : World} {bi b1 gl : Nat} {o : Int} {V : List Int} {S : St} (h : Rds w bi b1 gl o V S W) {j : Nat} (hj : j < 2) (hlen : V.length = j) (n : Int) : Rds w bi b1 gl o (V ++ [n]) S (W.setCell ⟨gl, j, none⟩ (.int .i64 n)) := by
  have e1 := h.lt
  have e2 := h.h1
  have e3 := h.h2
  have hx : ∀ k, k ≠ gl → (W.setCell ⟨gl, j, none⟩ (.int .i64 n)).heap[k]? = W.heap[k]? := fun k hk => Below.heap_setCell _ ⟨gl, j, none⟩ _ k hk
  exact ⟨(hx bi (by omega)).trans h.inn, row_set h.row hj hlen n, (hx _ (by omega)).trans h.b0, (hx _ (by omega)).trans h.bb, h.frm.setCell (p := ⟨gl, j, none⟩) (.inr (by show w.heap.size ≤ gl; omega)) _, e1, e2, e3⟩

theorem rds_new {w w1 : World} {bi : Nat} {o : Int} {S : St} (hi : InAt w1 bi S) (hf : Frm w.heap.size bi w w1) (hz : w1.heap[w.heap.size]? = some (.cells #[.int .i64 0, .int .i64 0, .int .i64 0] 48 (0, 0))) (hlt : bi < w.heap.size) :
    Rds w bi w1.heap.size (w1.heap.size + 1) o [] S ((w1.alloc (.cells #[.int .i64 o, .int .i64 0, .int .i64 0] 48)).alloc (.cells #[.int .i64 0, .int .i64 0] 96)) := by
  have hz1 := lt_of_block hz
  have hb : Below w1.heap.size w1 ((w1.alloc (.cells #[.int .i64 o, .int .i64 0, .int .i64 0] 48)).alloc (.cells #[.int .i64 0, .int .i64 0] 96)) := ((Below.refl _ w1).alloc (Nat.le_refl _) _).alloc (by simp) _
  have hn : ((w1.alloc (.cells #[.int .i64 o, .int .i64 0, .int .i64 0] 48)).alloc (.cells #[.int .i64 0, .int .i64 0] 96)).heap[w1.heap.size + 1]? = some (.cells #[.int .i64 0, .int .i64 0] 96) := by
    rw [← World.size_alloc w1 (.cells #[.int .i64 o, .int .i64 0, .int .i64 0] 48)]; exact heap_alloc_new _ _
  refine ⟨hi.kept (hb.block _ hi.lt), fun i hi => ?_, (hb.block _ hz1).trans hz, (Below.heap_alloc _ _ _ (by simp)).trans (heap_alloc_new w1 _), hf.trans (Frm.of_below (hb.mono hf.size)), hlt, hz1, by omega⟩
  unfold World.cell? World.frozen?
  rw [hn]
  match i, hi with
  | 0, _ => exact ⟨rfl, rfl⟩
  | 1, _ => exact ⟨rfl, rfl⟩

/-- What read tells, and leaves. -/
def PReadPost (bi : Nat) (r : Rd) (w : World) (e : Ending) (w' : World) : Prop :=
  e = .returned (.agg #[.int .i64 r.o, .int .i64 r.a, .int .i64 r.b]) ∧ InAt w' bi r.s ∧ Frm w.heap.size bi w w'

theorem read_ret {w Z : World} {bi : Nat} {o a b : Int} {S : St} {act : Act} {P : List Int × St} (ha : a = P.1.getD 0 0) (hb : b = P.1.getD 1 0) (hS : S = P.2) (h2 : act.tmps[2]?.getD undef = .pointer (some ⟨w.heap.size, 0, none⟩)) (hd : act.defers = [])
    (hE : Z.heap[w.heap.size]? = some (.cells #[.int .i64 o, .int .i64 a, .int .i64 b] 48 (0, 0))) (hi : InAt Z bi S) (hf : Frm w.heap.size bi w Z) :
    bodyPost Tryd.prog Tryd.f69 (fun e w' => e = .returned (.agg #[.int .i64 o, .int .i64 (P.1.getD 0 0), .int .i64 (P.1.getD 1 0)]) ∧ InAt w' bi P.2 ∧ Frm w.heap.size bi w w') .ret act Z := by
  subst ha hb hS
  obtain ⟨x0, x1, x2, _, _, _⟩ := cells3 hE
  refine bodyPost_ret (v := .agg #[.int .i64 o, .int .i64 (P.1.getD 0 0), .int .i64 (P.1.getD 1 0)]) ?_ hd ⟨rfl, hi, hf⟩
  simp [results, Tryd.results69, go_sem, h2, x0, x1, x2]
/-- Behind the stores of both operands. -/
theorem rds_end {w W : World} {bi b1 gl : Nat} {o : Int} {V : List Int} {S : St} (h : Rds w bi b1 gl o V S W) (a b : Int) :
    ((W.setCell ⟨b1, 1, none⟩ (.int .i64 a)).setCell ⟨b1, 2, none⟩ (.int .i64 b)).drew.heap[b1]? = some (.cells #[.int .i64 o, .int .i64 a, .int .i64 b] 48 (0, 0)) ∧
    ((W.setCell ⟨b1, 1, none⟩ (.int .i64 a)).setCell ⟨b1, 2, none⟩ (.int .i64 b)).drew.heap[w.heap.size]? = some (.cells #[.int .i64 0, .int .i64 0, .int .i64 0] 48 (0, 0)) ∧
    InAt ((W.setCell ⟨b1, 1, none⟩ (.int .i64 a)).setCell ⟨b1, 2, none⟩ (.int .i64 b)).drew bi S ∧
    Frm w.heap.size bi w ((W.setCell ⟨b1, 1, none⟩ (.int .i64 a)).setCell ⟨b1, 2, none⟩ (.int .i64 b)).drew := by
  have e1 := h.lt
  have e2 := h.h1
  have hx : ∀ k, k ≠ b1 → ((W.setCell ⟨b1, 1, none⟩ (.int .i64 a)).setCell ⟨b1, 2, none⟩ (.int .i64 b)).heap[k]? = W.heap[k]? := fun k hk => (Below.heap_setCell _ ⟨b1, 2, none⟩ _ k hk).trans (Below.heap_setCell _ ⟨b1, 1, none⟩ _ k hk)
  refine ⟨?_, (hx _ (by omega)).trans h.b0, (hx _ (by omega)).trans h.inn, ((h.frm.setCell (p := ⟨b1, 1, none⟩) (.inr (by show w.heap.size ≤ b1; omega)) _).setCell (p := ⟨b1, 2, none⟩) (.inr (by show w.heap.size ≤ b1; omega)) _).drew⟩
  have := h.bb
  show ((W.setCell ⟨b1, 1, none⟩ (.int .i64 a)).setCell ⟨b1, 2, none⟩ (.int .i64 b)).heap[b1]? = _
  simp [World.setCell, Array.getElem?_modify, this]

set_option maxRecDepth 100000 in
set_option maxHeartbeats 2000000 in
theorem read_any (w : World) (bi : Nat) (s : St) (hi : InAt w bi s) (hok : s.ok) (hl : s.rest.length ≤ 140737489403904) :
    Calls Tryd.prog 69 #[.pointer (some ⟨bi, 0, none⟩)] w (PReadPost bi (pRead s) w) := by
  have hok1 := rdByte_ok hok
  have hl1 : (rdByte s).2.rest.length ≤ 140737489403904 := Nat.le_trans (rdByte_left s) hl
  have hlt := hi.lt
  have hb1 : Below w.heap.size w (w.alloc (.cells #[.int .i64 0, .int .i64 0, .int .i64 0] 48)) := (Below.refl _ w).alloc (Nat.le_refl _) _
  have HB := Lib.hid (byteIn_any _ bi s (hi.kept (hb1.block bi hlt)) hok hl)
  have HP : Hid (pRead s = ⟨(rdByte s).1, (pOpds (form (rdByte s).1) (rdByte s).2 (form (rdByte s).1).length).1.getD 0 0, (pOpds (form (rdByte s).1) (rdByte s).2 (form (rdByte s).1).length).1.getD 1 0, (pOpds (form (rdByte s).1) (rdByte s).2 (form (rdByte s).1).length).2, (pOpds (form (rdByte s).1) (rdByte s).2 (form (rdByte s).1).length).2.err⟩) := Lib.hid rfl
  rw [HP.out]
  clear HP
  unfold PReadPost
  have H1 := Lib.hid hb1
  clear hb1 hi
  generalize rdByte s = p at *
  obtain ⟨n, S⟩ := p
  dsimp only at HB hok1 hl1 ⊢
  have hy2 : (txt Go.Proofs.YtahejekcfgkiaaaDoor.oper.fm (n : Int)).size ≤ 2 := by have := form_le (n : Int); unfold form at this; rwa [← size_list] at this
  have HF := fun W => Lib.hid (Go.Proofs.YtahejekcfgkiaaaDoor.oper.form_any (n : Int) W)
  unfold form
  generalize txt Go.Proofs.YtahejekcfgkiaaaDoor.oper.fm (n : Int) = y at *
  rw [← size_list y]
  go_enter Tryd.func69, Tryd.ntmps69
  go_wp2_with fail
  refine HB.out.mono ?_
  rintro e w1 ⟨rfl, hi1, hf1⟩
  have hz : (w.alloc (.cells #[.int .i64 0, .int .i64 0, .int .i64 0] 48)).heap.size = w.heap.size + 1 := World.size_alloc w _
  have hs1 := hf1.size
  have HI1 := Lib.hid hi1
  have HF1 : Hid (Frm w.heap.size bi w w1) := Lib.hid ((Frm.of_below H1.out).trans (hf1.mono (by omega)))
  have HZ1 : Hid (w1.heap[w.heap.size]? = some (.cells #[.int .i64 0, .int .i64 0, .int .i64 0] 48 (0, 0))) := Lib.hid ((hf1.block _ (by omega) (by omega)).trans (heap_alloc_new w _))
  clear hi1 hf1 HB H1
  go_wp2_with fail
  refine (HF _).out.mono ?_
  rintro e w2 ⟨rfl, rfl⟩
  go_upto_region 4 with fail
  have HR0 := Lib.hid (rds_new (o := (n : Int)) HI1.out HF1.out HZ1.out hlt)
  have hg1 : w1.heap.size < w1.heap.size + 1 := by omega
  clear HI1 HF1 HZ1 hz hs1
  generalize (w1.alloc (.cells #[.int .i64 (n : Int), .int .i64 0, .int .i64 0] 48)).alloc (.cells #[.int .i64 0, .int .i64 0] 96) = W3 at *
  generalize w1.heap.size + 1 = gl at *
  generalize w1.heap.size = b1 at *
  have HN := Lib.hid hy2
  go_wp2_with fail
  go_loopw [15] (fun i wr => ∃ j : Nat, j ≤ y.size ∧ i = .int .i64 (j : Int) ∧ Hid ((pOpds y.data.toList S j).2.ok ∧ (pOpds y.data.toList S j).2.rest.length ≤ 140737489403904) ∧ Hid (Rds w bi b1 gl n (pOpds y.data.toList S j).1 (pOpds y.data.toList S j).2 wr)) (fun i _ => y.size - (intOf i).toNat)
  case atStart => exact ⟨0, Nat.zero_le _, rfl, Lib.hid ⟨hok1, hl1⟩, HR0⟩
  case round =>
    obtain ⟨j, hj, rfl, HO, HR⟩ := hrel
    by_cases hlt : j < y.size
    · have hj2 : j < 2 := by omega
      have hj2' : (j : Int) < 2 := by omega
      have hj0 : (0 : Int) ≤ (j : Int) := by omega
      have hlt' : (j : Int) < (y.size : Int) := by omega
      have hyj : y[j] = y.data.toList.getD j 0 := letter_at hlt
      have hlen := pOpds_length y.data.toList S j
      have HE1 : Hid (pOpds y.data.toList S (j + 1) = ((pOpds y.data.toList S j).1 ++ [(pOpd (y.data.toList.getD j 0) (pOpds y.data.toList S j).2).1], (pOpd (y.data.toList.getD j 0) (pOpds y.data.toList S j).2).2)) := Lib.hid rfl
      have HG := Lib.hid (getOperand_any wr bi _ (y.data.toList.getD j 0) HR.out.inn HO.out.1 HO.out.2)
      have HO2 : Hid ((pOpds y.data.toList S (j + 1)).2.ok ∧ (pOpds y.data.toList S (j + 1)).2.rest.length ≤ 140737489403904) := Lib.hid ⟨by rw [HE1.out]; exact pOpd_ok HO.out.1, by rw [HE1.out]; exact Nat.le_trans (pOpd_left _ _) HO.out.2⟩
      rw [HE1.out] at HO2
      generalize y.data.toList.getD j 0 = c at *
      generalize pOpds y.data.toList S j = P at *
      obtain ⟨V, S1⟩ := P
      dsimp only at HG HE1 HO HR HO2 hlen
      generalize pOpd c S1 = q at *
      obtain ⟨v, S2⟩ := q
      dsimp only at HG HE1 HO2
      go_wp2_with fail
      refine HG.out.mono ?_
      rintro e w5 ⟨rfl, hi5, hf5⟩
      have HR5 := Lib.hid (HR.out.next hi5 hf5)
      have HR6 := Lib.hid (HR5.out.set hj2 hlen v)
      obtain ⟨x5, xf5⟩ := HR5.out.row j hj2
      clear hi5 hf5 HG HR HO
      go_wp2
      go_roundw
      case rel => exact ⟨j + 1, by omega, by go_num, by rw [HE1.out]; exact HO2, by rw [HE1.out]; exact HR6⟩
      case measure => simp [intOf]; omega
    · obtain rfl : j = y.size := by omega
      obtain ⟨a, ha⟩ : ∃ a, a = (pOpds y.data.toList S y.size).1.getD 0 0 := ⟨_, rfl⟩
      obtain ⟨b, hb⟩ : ∃ b, b = (pOpds y.data.toList S y.size).1.getD 1 0 := ⟨_, rfl⟩
      obtain ⟨x0, xf0⟩ := HR.out.row 0 (by omega)
      obtain ⟨x1, xf1⟩ := HR.out.row 1 (by omega)
      rw [← ha] at x0
      rw [← hb] at x1
      have HA := Lib.hid ha
      have HBv := Lib.hid hb
      clear ha hb
      obtain ⟨y0, y1, y2, yf0, yf1, yf2⟩ := cells3 HR.out.bb
      have n1 : gl ≠ b1 := by have := HR.out.h2; omega
      have n2 : b1 ≠ gl := by have := HR.out.h2; omega
      obtain ⟨S9, hS9⟩ : ∃ S9, S9 = (pOpds y.data.toList S y.size).2 := ⟨_, rfl⟩
      have HS9 := Lib.hid hS9
      have hend := rds_end HR.out a b
      rw [← hS9] at hend
      have HE := Lib.hid hend
      clear hend hS9
      go_wp2_with fail
      go_region
      clear x0 x1 y0 y1 y2 xf0 xf1 yf0 yf1 yf2 n1 n2
      generalize ((wr.setCell ⟨b1, 1, none⟩ (.int .i64 a)).setCell ⟨b1, 2, none⟩ (.int .i64 b)).drew = W9 at *
      obtain ⟨y0, y1, y2, _, _, _⟩ := cells3 HE.out.1
      obtain ⟨z0, z1, z2, zf0, zf1, zf2⟩ := cells3 HE.out.2.1
      go_wp2_with fail
      refine read_ret HA.out HBv.out HS9.out (by rfl) rfl (put3_same HE.out.2.1 _ _ _) ?_ ?_
      · exact (put3_far (by have := hlt; omega) _ _ _).trans HE.out.2.2.1
      · exact ((HE.out.2.2.2.setCell (p := ⟨w.heap.size, 0, none⟩) (.inr (Nat.le_refl _)) _).setCell (p := ⟨w.heap.size, 1, none⟩) (.inr (Nat.le_refl _)) _).setCell (p := ⟨w.heap.size, 2, none⟩) (.inr (Nat.le_refl _)) _
end Go.Proofs.YtahejekcfgkiaaaDoor.inst

/-
  The instruction with which bytes begin, as the program tells it (typed over the code of 392f5a9), and with it the bundle over which the four laws are walked. The table of names must lie where its initialiser lays it; texts of at most two to the forty-seventh bytes.
-/
namespace Go.Proofs.YtahejekcfgkiaaaDoor.inst
open Go.RowKit Go.ChangeShapes
open Go.Proofs.YtahejekcfgkiaaaDoor.oper (ret_int ret_bool ret_string Tab nm txt)
open Go.Proofs.YtahejekcfgkiaaaDoor.word (Word)
open Go.Proofs.YtahejekcfgkiaaaDoor.octet (St InAt Frm rdByte rdNum rdInt err_any left_any open_any)
set_option linter.unusedVariables false

theorem pget_ret {w Z : World} {g : Got} {act : Act} (h2 : act.tmps[2]?.getD undef = .pointer (some ⟨w.heap.size, 0, none⟩)) (h3 : act.tmps[3]?.getD undef = .int .i64 (g.n : Int)) (h4 : act.tmps[4]?.getD undef = .int .i64 (g.e : Int)) (hd : act.defers = [])
    (hE : Z.heap[w.heap.size]? = some (.cells #[.int .i64 g.o, .int .i64 g.a, .int .i64 g.b] 48 (0, 0))) (hb : Below w.heap.size w Z) : bodyPost Tryd.prog Tryd.f55 (GotPost g w) .ret act Z := by
  obtain ⟨x0, x1, x2, _, _, _⟩ := cells3 hE
  refine bodyPost_ret (v := .tuple #[.agg #[.int .i64 g.o, .int .i64 g.a, .int .i64 g.b], .int .i64 (g.n : Int), .int .i64 (g.e : Int)]) ?_ hd ⟨rfl, hb⟩
  simp [results, Tryd.results55, go_sem, h2, h3, h4, x0, x1, x2]

/-- Behind the reading: the empty answer, the reader, and what was read. -/
structure Gets (w : World) (bi bx : Nat) (o a b : Int) (S : St) (W : World) : Prop where
  below : Below w.heap.size w W
  b0 : W.heap[w.heap.size]? = some (.cells #[.int .i64 0, .int .i64 0, .int .i64 0] 48 (0, 0))
  inn : InAt W bi S
  bb : W.heap[bx]? = some (.cells #[.int .i64 o, .int .i64 a, .int .i64 b] 48 (0, 0))
  h1 : w.heap.size < bx
  h2 : bi < bx
  h3 : w.heap.size < bi
theorem Gets.next {w W W' : World} {bi bx : Nat} {o a b : Int} {S : St} (h : Gets w bi bx o a b S W) (hb : Below W.heap.size W W') : Gets w bi bx o a b S W' := by
  have h1 := lt_of_block h.b0
  have h2 := h.inn.lt
  have h3 := lt_of_block h.bb
  exact ⟨h.below.trans (hb.mono h.below.size), (hb.block _ h1).trans h.b0, (hb.block _ h2).trans h.inn, (hb.block _ h3).trans h.bb, h.h1, h.h2, h.h3⟩
theorem Gets.h3' {w W : World} {bi bx : Nat} {o a b : Int} {S : St} (h : Gets w bi bx o a b S W) : bi ≠ w.heap.size := by have := h.h3; omega
theorem Gets.drew {w W : World} {bi bx : Nat} {o a b : Int} {S : St} (h : Gets w bi bx o a b S W) : Gets w bi bx o a b S W.drew := ⟨h.below.drew, h.b0, h.inn, h.bb, h.h1, h.h2, h.h3⟩

theorem gets_new {w w1 w2 : World} {o a b : Int} {S : St}
    (h1 : Below (w.alloc (insBox 0 0 0)).heap.size (w.alloc (insBox 0 0 0)) w1) (hs : w1.heap.size = (w.alloc (insBox 0 0 0)).heap.size + 1)
    (hi : InAt w2 (w.heap.size + 1) S) (hf : Frm w1.heap.size (w.heap.size + 1) w1 w2) :
    Gets w (w.heap.size + 1) w2.heap.size o a b S (w2.alloc (insBox o a b)) := by
  have hz : (w.alloc (insBox 0 0 0)).heap.size = w.heap.size + 1 := World.size_alloc w _
  have hs2 := hf.size
  have hb : Below w2.heap.size w2 (w2.alloc (insBox o a b)) := (Below.refl _ w2).alloc (Nat.le_refl _) _
  have hb0 : Below w.heap.size w w1 := ((Below.refl _ w).alloc (Nat.le_refl _) _).trans (h1.mono (by omega))
  have hb1 : Below w.heap.size w w2 := hb0.trans (hf.below (by omega) (by omega))
  refine ⟨hb1.trans (hb.mono (by omega)), ?_, (hb.block _ hi.lt).trans hi, heap_alloc_new w2 _, by omega, by have := hi.lt; omega, by omega⟩
  refine (hb.block _ (by omega)).trans ((hf.block _ (by omega) (by omega)).trans ((h1.block _ (by omega)).trans (heap_alloc_new w _)))

theorem pOpds_left (f : List UInt8) (s : St) : ∀ j, (pOpds f s j).2.rest.length ≤ s.rest.length := by
  intro j
  induction j with
  | zero => exact Nat.le_refl _
  | succ j ih => exact Nat.le_trans (pOpd_left _ _) ih
theorem pRead_left (s : St) : (pRead s).s.rest.length ≤ s.rest.length := Nat.le_trans (pOpds_left _ _ _) (rdByte_left s)
theorem below_drew' {B : Nat} {a W : World} (h : Below B a W) : Below B a W.drew := h.drew

set_option maxRecDepth 100000 in
set_option maxHeartbeats 2000000 in
theorem get_any (t : ByteArray) (w : World) (ht : t.size ≤ 140737489403904) (hw : Okw w) : Calls Tryd.prog 55 #[.string t] w (GotPost (getI t.data.toList) w) := by
  have HG := Lib.hid (got_prog t.data.toList)
  have HRd := fun W hi => Lib.hid (read_any W (w.heap.size + 1) ⟨t.data.toList, 0⟩ hi (fun h => absurd rfl h) (by rw [← size_list]; exact ht))
  have HE0 : Hid ((pRead ⟨t.data.toList, 0⟩).e = (pRead ⟨t.data.toList, 0⟩).s.err) := Lib.hid rfl
  have HLe : Hid ((pRead ⟨t.data.toList, 0⟩).s.rest.length ≤ t.size) := Lib.hid (by rw [size_list]; exact pRead_left ⟨t.data.toList, 0⟩)
  unfold PReadPost at HRd
  have HOp := Lib.hid (open_any (w.alloc (insBox 0 0 0)) t)
  have hz : (w.alloc (insBox 0 0 0)).heap.size = w.heap.size + 1 := World.size_alloc w _
  rw [hz] at HOp
  generalize pRead ⟨t.data.toList, 0⟩ = r at *
  obtain ⟨o, a, b, S, e⟩ := r
  dsimp only at HG HRd HE0 HLe
  have he0 := HE0.out
  subst he0
  have HW := Lib.hid hw
  have HT := Lib.hid ht
  clear hw HE0 ht
  go_enter Tryd.func55, Tryd.ntmps55
  unfold insBox at HOp hz
  go_wp2_with fail
  refine HOp.out.mono ?_
  rintro e w1 ⟨rfl, hi1, hb1, hs1⟩
  go_wp2_with fail
  refine (HRd _ hi1).out.mono ?_
  rintro e w2 ⟨rfl, hi2, hf2⟩
  have HGt := Lib.hid (gets_new (o := o) (a := a) (b := b) (by unfold insBox; rw [hz]; exact hb1) (by unfold insBox; rw [hz]; exact hs1) hi2 hf2)
  unfold insBox at HGt
  clear hi1 hb1 hs1 hi2 hf2 HRd HOp hz
  go_upto_region 3 with fail
  generalize w2.alloc (.cells #[.int .i64 o, .int .i64 a, .int .i64 b] 48) = W3 at *
  generalize w2.heap.size = bx at *
  have HEr := Lib.hid (err_any W3 (w.heap.size + 1) S HGt.out.inn)
  go_wp2_with fail
  refine HEr.out.mono ?_
  rintro e w4 ⟨rfl, rfl⟩
  by_cases he : S.err = 0
  · have HC := Lib.hid (check_any o a b W3 (HW.out.below HGt.out.below HW.out.2))
    obtain ⟨x0, x1, x2, _, _, _⟩ := cells3 HGt.out.bb
    have he' : ((S.err : Int) == 0) = true := by simp [he]
    have HEq := Lib.hid he
    clear he
    go_wp2_with fail
    refine HC.out.mono ?_
    rintro e w5 ⟨rfl, hb5⟩
    have HGt5 := Lib.hid (HGt.out.next hb5)
    clear hb5 HC x0 x1 x2 HEr HGt
    obtain ⟨x0, x1, x2, _, _, _⟩ := cells3 HGt5.out.bb
    obtain ⟨z0, z1, z2, zf0, zf1, zf2⟩ := cells3 HGt5.out.b0
    by_cases hc : chk o a b = 0
    · have HR : Hid (getI t.data.toList = ⟨o, a, b, t.data.toList.length - S.rest.length, 0⟩) := Lib.hid (by rw [HG.out, if_neg (by simp [HEq.out]), if_neg (by simp [hc])])
      have hc' : (((chk o a b : Nat) : Int) != 0) = false := by simp [hc]
      clear hc HG
      have HLq := fun W (hW : W.heap[w.heap.size + 1]? = w5.heap[w.heap.size + 1]?) => Lib.hid (left_any W (w.heap.size + 1) S (HGt5.out.inn.kept hW))
      have HWr : Hid ((t.data.toList.length - S.rest.length : Nat) = IntKind.i64.wrap ((t.size : Int) - (S.rest.length : Int))) := Lib.hid (by
        have h1 := HLe.out
        have h2 := HT.out
        rw [← size_list, IntKind.wrap_i64]
        omega)
      go_wp2_with fail
      have x9 := HGt5.out.h3'
      go_region_law (go_simp; go_at_call 51; refine (HLq _ ?_).out.mono ?_; (first | rfl | exact put3_far x9 _ _ _); rintro e w7 ⟨rfl, rfl⟩)
      all_goals
        go_wp2_with fail
        exact pget_ret (by rfl) (by rw [HR.out, HWr.out]; rfl) (by rw [HR.out]; rfl) rfl (by rw [HR.out]; exact put3_same HGt5.out.b0 _ _ _) (below_drew' (put3_below HGt5.out.below (Nat.le_refl _) _ _ _))
    · have HR : Hid (getI t.data.toList = .bad (chk o a b)) := Lib.hid (by rw [HG.out, if_neg (by simp [HEq.out]), if_pos hc])
      have hc' : (((chk o a b : Nat) : Int) != 0) = true := by simpa using hc
      clear hc HG
      generalize chk o a b = q at *
      go_wp2_with fail
      exact pget_ret (by rfl) (by rw [HR.out]; rfl) (by rw [HR.out]; rfl) rfl (by rw [HR.out]; exact put3_same HGt5.out.b0 _ _ _) (put3_below HGt5.out.below (Nat.le_refl _) _ _ _)
  · have HR : Hid (getI t.data.toList = .bad S.err) := Lib.hid (by rw [HG.out, if_pos he])
    have he' : ((S.err : Int) != 0) = true := by simpa using he
    have he2 : ((S.err : Int) == 0) = false := by simpa using he
    obtain ⟨z0, z1, z2, zf0, zf1, zf2⟩ := cells3 HGt.out.b0
    clear he HG
    go_wp2_with fail
    exact pget_ret (by rfl) (by rw [HR.out]; rfl) (by rw [HR.out]; rfl) rfl (by rw [HR.out]; exact put3_same HGt.out.b0 _ _ _) (put3_below HGt.out.below (Nat.le_refl _) _ _ _)

theorem keeps : Keeps Okw where
  mono := fun W W' h hb => h.next hb
  check := fun o a b W _ _ _ h => check_any o a b W h
  put := fun o a b W _ _ _ h => put_any o a b W h
  get := fun t W ht h => get_any t W ht h
end Go.Proofs.YtahejekcfgkiaaaDoor.inst

/-
  The objects, the instructions and the waits of a program's bytes, read one behind the other (typed over the code of 4b95722). The tables must lie where their initialisers lay them; texts of at most two to the forty-seventh bytes.
-/
namespace Go.Proofs.YtahejekcfgkiaaaDoor.pgm
open Go.RowKit Go.ChangeShapes
open Go.Proofs.YtahejekcfgkiaaaDoor.octet (St InAt Frm rdNum num size_mk)
open Go.Proofs.YtahejekcfgkiaaaDoor.objs (De zero DAt CellsAt Okd)
open Go.Proofs.YtahejekcfgkiaaaDoor.inst (Okw)
open Go.Proofs.YtahejekcfgkiaaaDoor.need (WAt OwnW Oka)
set_option linter.unusedVariables false

theorem Okp.frm {br : Nat} {w w' : World} (h : Okp w) (hp : Past br) (hf : Frm w.heap.size br w w') (hlt : br < w.heap.size) : Okp w' := h.below (hf.below (Nat.le_refl br) (Nat.le_of_lt hlt)) hp

/-- Behind a call that asks only that the text is there, the reader goes on. -/
theorem rd_text (t : List UInt8) : (⟨t.toArray⟩ : ByteArray).data.toList = t := by simp
theorem Frm.box {B br : Nat} {w W : World} (h : Frm B br w W) (hB : B ≤ W.heap.size) (o : Obj) : Frm B br w (W.alloc o) := h.alloc hB o

/-- Three numbers in a row lie in no reader's block. -/
theorem cells_off {w : World} {b i br : Nat} {d : De} {t : List UInt8} (h : CellsAt w b i d) (hr : RdAt w br t) : b ≠ br := by
  rintro rfl
  have h1 := h.2.1
  unfold RdAt at hr
  simp [World.cell?, hr] at h1
theorem dat_off {w w' : World} {br : Nat} {t : List UInt8} {A : Option Addr} {l : List De} (h : DAt w A l) (hr : RdAt w br t) (hf : Frm w.heap.size br w w') : DAt w' A l := fun j hj => by
  obtain ⟨b, off, h1, h2, h3⟩ := h j hj
  exact ⟨b, off, h1, Nat.lt_of_lt_of_le h2 hf.size, h3.keep (hf.block b h2 (cells_off h3 hr))⟩
/-- A slice of objects, as a call tells it. -/
def ObjVal (l : List De) : World → Value → World → Prop := fun _ v w' => ∃ A cap, v = .slice A l.length cap ∧ DAt w' A l
set_option maxRecDepth 100000 in
set_option maxHeartbeats 4000000 in
theorem objects_rd (w : World) (br : Nat) (t : List UInt8) (hr : RdAt w br t) (hl : t.length ≤ 140737489403904) (hok : Okp w) :
    Calls Tryd.prog 20 #[.pointer (some ⟨br, 0, none⟩)] w (RdPost br (Go.Proofs.YtahejekcfgkiaaaDoor.objs.readL ⟨t, 0⟩).2.2 (Go.Proofs.YtahejekcfgkiaaaDoor.objs.readL ⟨t, 0⟩).2.1.rest (ObjVal (Go.Proofs.YtahejekcfgkiaaaDoor.objs.readL ⟨t, 0⟩).1) w) := by
  have hc := hr.cell
  have HG := Lib.hid (Go.Proofs.YtahejekcfgkiaaaDoor.objs.get_any ⟨t.toArray⟩ w (by rw [size_mk]; exact hl) hok.decl)
  rw [rd_text] at HG
  have HDr : Hid ((Go.Proofs.YtahejekcfgkiaaaDoor.objs.readL ⟨t, 0⟩).2.2 = 0 → t.drop (t.length - (Go.Proofs.YtahejekcfgkiaaaDoor.objs.readL ⟨t, 0⟩).2.1.rest.length) = (Go.Proofs.YtahejekcfgkiaaaDoor.objs.readL ⟨t, 0⟩).2.1.rest) := Lib.hid (fun h => drop_of_app (readL_once h).2.1)
  unfold Go.Proofs.YtahejekcfgkiaaaDoor.objs.GotPost Go.Proofs.YtahejekcfgkiaaaDoor.objs.getL at HG
  have HR := Lib.hid hr
  have HL := Lib.hid hl
  clear hr hl hok
  generalize Go.Proofs.YtahejekcfgkiaaaDoor.objs.readL ⟨t, 0⟩ = q at *
  obtain ⟨l, ⟨S, er⟩, e⟩ := q
  dsimp only at HG HDr ⊢
  by_cases he : e = 0
  · subst he
    rw [if_neg (by decide)] at HG
    dsimp only at HG
    have HD0 := Lib.hid (HDr.out rfl)
    clear HDr
    go_enter Tryd.func20, Tryd.ntmps20
    go_wp2_with fail
    refine HG.out.mono ?_
    rintro e1 w1 ⟨v, rfl, ⟨A, cap, rfl, hA⟩, hb1⟩
    have hr1 := HR.out.kept (hb1.block _ HR.out.lt)
    have HF1 : Hid (Frm w.heap.size br w w1) := Lib.hid (Frm.of_below hb1)
    have HP := Lib.hid (pass_any w1 br t (t.length - S.length) 0 hr1 (Nat.sub_le _ _) HL.out)
    have HA1 := Lib.hid (And.intro hA hr1)
    clear hb1 hr1 hA HG hc
    go_wp2_with fail
    refine HP.out.mono ?_
    rintro e2 w2 ⟨hf2, hbad, hgood⟩
    obtain ⟨v, rfl, hr2, hv⟩ := hgood rfl
    have hv2 : v = .tuple #[] := hv
    subst hv2
    have HF2 := Lib.hid (HF1.out.trans (hf2.mono HF1.out.size))
    have HR2 := Lib.hid hr2
    have HA2 : Hid (DAt w2 A l) := Lib.hid (dat_off HA1.out.1 HA1.out.2 hf2)
    clear hbad hgood hr2 hf2 hv HP HA1 HF1
    go_wp2
    go_ret
    exact RdPost.good rfl HF2.out (by have := HR2.out; rwa [HD0.out] at this) ⟨A, cap, rfl, HA2.out⟩
  · rw [if_pos he] at HG
    dsimp only at HG
    have HE0 := Lib.hid he
    clear he
    go_enter Tryd.func20, Tryd.ntmps20
    go_wp2_with fail
    refine HG.out.mono ?_
    rintro e1 w1 ⟨v, rfl, ⟨A, cap, rfl, hA⟩, hb1⟩
    have hr1 := HR.out.kept (hb1.block _ HR.out.lt)
    have HF1 : Hid (Frm w.heap.size br w w1) := Lib.hid (Frm.of_below hb1)
    have HP := Lib.hid (pass_any w1 br t 0 e hr1 (Nat.zero_le _) HL.out)
    clear hb1 hr1 hA HG hc
    go_wp2_with fail
    refine HP.out.mono ?_
    rintro e2 w2 ⟨hf2, hbad, hgood⟩
    obtain rfl := hbad HE0.out
    have HF2 := Lib.hid (HF1.out.trans (hf2.mono HF1.out.size))
    clear hbad hgood hf2 HP HF1
    go_wp2
    exact ⟨rfl, RdPost.bad HE0.out rfl HF2.out⟩

/-- Between two things that are read: the reader, and the row that grows. -/
structure Gg (O : World → Prop) (w : World) (br : Nat) (r : List UInt8) (W : World) : Prop where
  rd : RdAt W br r
  own : O W
  frm : Frm w.heap.size br w W
  lt : br < w.heap.size
/-- What holds while no block since the beginning turns. -/
def Holds (O : World → Prop) (B : Nat) : Prop := ∀ W W' : World, (∀ g, B ≤ g → g < W.heap.size → W'.heap[g]? = W.heap[g]?) → O W → O W'
theorem Gg.next {O : World → Prop} {w W W' : World} {br : Nat} {r r' : List UInt8} (h : Gg O w br r W) (hO : Holds O w.heap.size) (hr : RdAt W' br r') (hf : Frm W.heap.size br W W') : Gg O w br r' W' := by
  have e1 := h.lt
  exact ⟨hr, hO _ _ (fun g hg hl => hf.block g hl (by omega)) h.own, h.frm.trans (hf.mono h.frm.size), e1⟩
theorem Gg.below {O : World → Prop} {w W W' : World} {br : Nat} {r : List UInt8} (h : Gg O w br r W) (hO : Holds O w.heap.size) (hb : Below W.heap.size W W') : Gg O w br r W' :=
  h.next hO (h.rd.kept (hb.block _ h.rd.lt)) (Frm.of_below hb)
theorem Gg.box {O : World → Prop} {w W : World} {br : Nat} {r : List UInt8} (h : Gg O w br r W) (hO : Holds O w.heap.size) (o : Obj) : Gg O w br r (W.alloc o) := h.below hO ((Below.refl _ _).alloc (Nat.le_refl _) _)
theorem Gg.app {O O2 : World → Prop} {w W W2 : World} {br : Nat} {r : List UInt8} {row : Option Nat} (h : Gg O w br r W) (h2 : O2 W2) (hg : W.grownBy W2 row) (hr : ∀ k, row = some k → w.heap.size ≤ k) : Gg O2 w br r W2 := by
  have e1 := h.lt
  refine ⟨h.rd.kept (hg.block br h.rd.lt (fun e => ?_)), h2, h.frm.grown hg h.frm.size (fun k e => .inl (hr k e)), e1⟩
  have := hr _ e.symm
  omega
theorem holdsJ (B : Nat) (v : Value) (l : List De) : Holds (fun W => OwnJ W B v l) B := fun W W' hk h => h.keep fun g hg => hk g (h.lt hg).1 (h.lt hg).2
theorem holdsV (B : Nat) (v : Value) (l : List (List (List De))) : Holds (fun W => OwnV W B v l) B := fun W W' hk h => h.hold hk
theorem holdsF (B : Nat) (v : Value) (l : List Fn) : Holds (fun W => OwnF W B v l) B := fun W W' hk h => h.hold hk
theorem okp_in {O : World → Prop} {w W : World} {br : Nat} {r : List UInt8} (h : Gg O w br r W) (hw : Okp w) (hp : Past br) : Okp W := hw.frm hp h.frm h.lt

/-- The row of instructions that is made. -/
def mkJ (m : Nat) : Obj := .cells (madeCells (Value.agg #[.int .i64 0, .int .i64 0, .int .i64 0]).cells (m * 3)) 48
theorem run_mkJ (m : Nat) (hm : m ≤ 200) (W : World) : (Instr.makeSlice 44 (.int .i64 0) (.int .i64 (m : Int))).run Tryd.prog W = .ok (.slice (some ⟨W.heap.size, 0, none⟩) 0 m) (W.alloc (mkJ m)) := by
  obtain ⟨i, hi, hz0, hz1, hz2⟩ := info_parts infoJ
  have h := run_make (P := Tryd.prog) W 44 48 i _ Tryd.underlying44 hi hz0 .i64 .i64 0 (m : Int) (by omega) (by omega) (by rw [hz2]; omega) (by omega)
  rw [hz1, Int.toNat_natCast, Int.toNat_zero] at h
  exact h
theorem gj_new {w W : World} {br : Nat} {r : List UInt8} (m : Nat) (hm : m ≤ 200) (hr : RdAt W br r) (hf : Frm w.heap.size br w W) (hlt : br < w.heap.size) : Gg (fun Z => OwnJ Z w.heap.size (.slice (some ⟨W.heap.size, 0, none⟩) 0 m) []) w br r (W.alloc (mkJ m)) := by
  have hb : Below W.heap.size W (W.alloc (mkJ m)) := (Below.refl _ _).alloc (Nat.le_refl _) _
  exact ⟨hr.kept (hb.block _ hr.lt), World.ownsRow_made W _ m hf.size (by unfold maxLen; omega) (size_madeCells _ _), hf.trans (Frm.of_below (hb.mono hf.size)), hlt⟩

/-- The instructions of a function that are read. -/
def rdCode (s : St) : List De × St × Nat := if (rdMany s 200).2.2 ≠ 0 then ([], (rdMany s 200).2.1, (rdMany s 200).2.2) else rdAll rdIns (rdMany s 200).2.1 (rdMany s 200).1
def CodeVal (l : List De) : World → Value → World → Prop := fun w v w' => OwnJ w' w.heap.size v l
theorem rdIns_drop {r : List UInt8} (h : (rdIns ⟨r, 0⟩).2.2 = 0) : r.drop (r.length - (rdIns ⟨r, 0⟩).2.1.rest.length) = (rdIns ⟨r, 0⟩).2.1.rest ∧ (rdIns ⟨r, 0⟩).2.1.err = 0 ∧ (rdIns ⟨r, 0⟩).2.1.rest.length ≤ r.length := by
  obtain ⟨h1, h2⟩ := readI_once h
  have h3 : r = _ ++ (rdIns ⟨r, 0⟩).2.1.rest := h1
  refine ⟨drop_of_app h3, h2, ?_⟩
  have h4 := congrArg List.length h3
  rw [List.length_append] at h4
  omega
def insBox (o a b : Int) : Obj := .cells #[.int .i64 o, .int .i64 a, .int .i64 b] 48
theorem insBox_at (w : World) (o a b : Int) : (w.alloc (insBox o a b)).cell? ⟨w.heap.size, 0, none⟩ = some (.int .i64 o) ∧ (w.alloc (insBox o a b)).cell? ⟨w.heap.size, 1, none⟩ = some (.int .i64 a) ∧ (w.alloc (insBox o a b)).cell? ⟨w.heap.size, 2, none⟩ = some (.int .i64 b) := by
  unfold World.cell?
  rw [heap_alloc_new w (insBox o a b)]
  exact ⟨rfl, rfl, rfl⟩

set_option maxRecDepth 100000 in
set_option maxHeartbeats 8000000 in
theorem code_rd (w : World) (br : Nat) (t : List UInt8) (hr : RdAt w br t) (hl : t.length ≤ 140737489403904) (hok : Okp w) (hp : Past br) :
    Calls Tryd.prog 38 #[.pointer (some ⟨br, 0, none⟩)] w (RdPost br (rdCode ⟨t, 0⟩).2.2 (rdCode ⟨t, 0⟩).2.1.rest (CodeVal (rdCode ⟨t, 0⟩).1) w) := by
  have hlt := hr.lt
  have HN := Lib.hid (count_rd w br t 200 (by decide) hr hl)
  have hX : (rdMany ⟨t, 0⟩ 200).2.2 = 0 → (rdMany ⟨t, 0⟩ 200).2.1.err = 0 ∧ (rdMany ⟨t, 0⟩ 200).1 ≤ 200 ∧ (rdMany ⟨t, 0⟩ 200).2.1.rest.length ≤ 140737489403904 := fun h => by
    obtain ⟨h1, h2, h3⟩ := rdMany_once h
    have h4 := congrArg List.length h1
    rw [List.length_append] at h4
    exact ⟨h2, h3, by omega⟩
  obtain ⟨q, hq⟩ : ∃ q, q = rdCode ⟨t, 0⟩ := ⟨_, rfl⟩
  rw [← hq]
  unfold rdCode at hq
  have HW := Lib.hid (And.intro hok hp)
  clear hr hl hok hp
  generalize rdMany ⟨t, 0⟩ 200 = N at *
  obtain ⟨n, ⟨r0, er⟩, e⟩ := N
  dsimp only at HN hX hq
  by_cases he : e = 0
  · subst he
    obtain ⟨h1, hn, hl1⟩ := hX rfl
    subst h1
    rw [if_neg (by decide)] at hq
    have HQ := Lib.hid hq
    clear hX hq
    have hmk := run_mkJ n hn
    have HStop : Hid (∀ j, j < n → ∀ (ls : List De) (S T : St) (x : De) (e : Nat), rdAll rdIns ⟨r0, 0⟩ j = (ls, S, 0) → rdIns S = (x, T, e) → e ≠ 0 → rdAll rdIns ⟨r0, 0⟩ n = ([], T, e)) := Lib.hid (fun j hj ls S T x e h1 h2 h3 => rdAll_stop hj h1 h2 h3)
    go_enter Tryd.func38, Tryd.ntmps38
    go_wp2_with fail
    refine HN.out.mono ?_
    rintro e w1 ⟨hf1, hbad, hgood⟩
    obtain ⟨v, rfl, hr1, hv⟩ := hgood rfl
    have hv2 : v = .int .i64 (n : Int) := hv
    subst hv2
    have HG0 := Lib.hid (gj_new n hn hr1 hf1 hlt)
    clear hbad hgood hr1 hf1 hv HN
    go_wp2_with fail
    generalize w1.alloc (mkJ n) = W2 at *
    generalize w1.heap.size = g0 at *
    go_loopw [4, 13] (fun v i wr => ∃ (j : Nat) (ls : List De) (r : List UInt8), j ≤ n ∧ i = .int .i64 (j : Int) ∧ Hid (rdAll rdIns ⟨r0, 0⟩ j = (ls, ⟨r, 0⟩, 0)) ∧ Hid (Gg (fun Z => OwnJ Z w.heap.size v ls) w br r wr) ∧ Hid (r.length ≤ 140737489403904)) (fun _ i _ => n - (intOf i).toNat)
    case atStart => exact ⟨0, [], r0, Nat.zero_le _, rfl, Lib.hid rfl, HG0, Lib.hid hl1⟩
    case round =>
      obtain ⟨j, ls, r, hj, rfl, HL, HG, HO⟩ := hrel
      have hlen : ls.length = j := by have := rdAll_length j (by rw [HL.out] : (rdAll rdIns ⟨r0, 0⟩ j).2.2 = 0); rwa [HL.out] at this
      obtain ⟨A, cap, hv⟩ := HG.out.own.slice
      rw [hlen] at hv
      subst hv
      by_cases hlt2 : j < n
      · have hlt' : (j : Int) < (n : Int) := by omega
        have hc := HG.out.rd.cell
        have HI := Lib.hid (Go.Proofs.YtahejekcfgkiaaaDoor.inst.get_any ⟨r.toArray⟩ wr (by rw [size_mk]; exact HO.out) (okp_in HG.out HW.out.1 HW.out.2).ins)
        rw [rd_text] at HI
        unfold Go.Proofs.YtahejekcfgkiaaaDoor.inst.GotPost at HI
        rw [Go.Proofs.YtahejekcfgkiaaaDoor.inst.got_read] at HI
        have hdr := rdIns_drop (r := r)
        obtain ⟨y, hy⟩ : ∃ y, y = rdIns ⟨r, 0⟩ := ⟨_, rfl⟩
        have HY := Lib.hid hy
        have hy1 : (Go.Proofs.YtahejekcfgkiaaaDoor.inst.readI ⟨r, 0⟩) = ⟨y.1.1, y.1.2.1, y.1.2.2, y.2.1, y.2.2⟩ := by rw [hy]; rfl
        rw [hy1] at HI
        rw [← hy] at hdr
        clear hy hy1
        obtain ⟨⟨o, a, b⟩, ⟨r1, er1⟩, e⟩ := y
        dsimp only at HI hdr
        by_cases he : e = 0
        · subst he
          obtain ⟨hd1, hz1, hl2⟩ := hdr rfl
          subst hz1
          rw [if_neg (by decide)] at HI
          dsimp only at HI
          have HQ1 := Lib.hid (rdAll_next HL.out HY.out.symm)
          have HD1 := Lib.hid hd1
          have HO2 : Hid (r1.length ≤ 140737489403904) := Lib.hid (by have := HO.out; omega)
          clear hdr hd1 hl2 HL HY HStop HQ
          go_wp2_with fail
          refine HI.out.mono ?_
          rintro e1 w3 ⟨rfl, hb3⟩
          have HG3 := Lib.hid (HG.out.below (holdsJ _ _ _) hb3)
          have HG4 := Lib.hid (HG3.out.box (holdsJ _ _ _) (insBox o a b))
          have HDd : Hid (br < w3.heap.size ∧ w3.heap.size < (w3.alloc (insBox o a b)).heap.size) := Lib.hid ⟨HG3.out.rd.lt, by rw [World.size_alloc]; omega⟩
          have hbx := insBox_at w3 o a b
          clear hb3 HG HI hc HG3
          unfold insBox at HG4 hbx HDd
          go_upto_region 6 with fail
          generalize w3.alloc (.cells #[.int .i64 o, .int .i64 a, .int .i64 b] 48) = W4 at *
          generalize w3.heap.size = d at *
          obtain ⟨c0, c1, c2⟩ := hbx
          have HPs := Lib.hid (pass_any W4 br r (r.length - r1.length) 0 HG4.out.rd (Nat.sub_le _ _) HO.out)
          go_wp2_with fail
          refine HPs.out.mono ?_
          rintro e2 w5 ⟨hf5, hbad, hgood⟩
          obtain ⟨v, rfl, hr5, hv⟩ := hgood rfl
          have hv2 : v = .tuple #[] := hv
          subst hv2
          rw [HD1.out] at hr5
          have hk5 := hf5.block d HDd.out.2 (by have := HDd.out.1; omega)
          have d0 := (World.cell?_of_block (a := ⟨d, 0, none⟩) hk5).trans c0
          have d1 := (World.cell?_of_block (a := ⟨d, 1, none⟩) hk5).trans c1
          have d2 := (World.cell?_of_block (a := ⟨d, 2, none⟩) hk5).trans c2
          have HG5 := Lib.hid (HG4.out.next (holdsJ _ _ _) hr5 hf5)
          have hown1 : OwnJ (w5.alloc (insBox o a b)) w.heap.size (.slice A j cap) ls := (HG5.out.box (holdsJ _ _ _) (insBox o a b)).own
          have hone : DAt (w5.alloc (insBox o a b)) (some ⟨w5.heap.size, 0, none⟩) [(o, a, b)] := DAt.oneJ (d := (o, a, b)) (heap_alloc_new w5 _)
          have hbase : w.heap.size ≤ w5.heap.size := HG5.out.frm.size
          have Hap := fun (v2 : Value) (W2 : World) (h1 : OwnJ W2 w.heap.size v2 (ls ++ [(o, a, b)])) (h2 : (w5.alloc (insBox o a b)).grownBy W2 (Value.slice A j cap).ownBlock) => (HG5.out.box (holdsJ _ _ _) (insBox o a b)).app (O2 := fun Z => OwnJ Z w.heap.size v2 (ls ++ [(o, a, b)])) h1 h2 (fun k e => (HG5.out.own.lt e).1)
          unfold insBox at hown1 hone Hap
          clear hbad hgood hr5 hf5 hv hk5 c0 c1 c2 HPs HG4 HDd HD1
          go_wp2_with (
            at_builtin
            refine wpList_appJ (by rfl) (.tmp 28) (.tmp 30) (by rfl) w.heap.size 1 1 (.slice A j cap) (some ⟨w5.heap.size, 0, none⟩) ls [(o, a, b)] (by rfl) hown1 (by rfl) rfl (fun h => by cases h) hone (by simp; omega) (by simp; omega) ?_)
          intro v2 W5 hv2 hg2
          have HG6 := Lib.hid (Hap v2 W5 hv2 ⟨hg2.os, hg2.tape, hg2.output, hg2.size, hg2.block⟩)
          clear hown1 hone hv2 hg2 Hap d0 d1 d2
          go_wp2
          go_roundw
          case rel => exact ⟨j + 1, ls ++ [(o, a, b)], r1, by omega, by go_num, HQ1, HG6, HO2⟩
          case measure => simp [intOf]; omega
        · rw [if_pos he] at HI
          unfold Go.Proofs.YtahejekcfgkiaaaDoor.inst.Got.bad at HI
          dsimp only at HI
          have HV : Hid (q = ([], ⟨r1, er1⟩, e)) := Lib.hid (by rw [HQ.out]; exact HStop.out j hlt2 _ _ _ _ _ HL.out HY.out.symm he)
          have HE0 := Lib.hid he
          clear hdr HL HY HStop HQ he
          go_wp2_with fail
          refine HI.out.mono ?_
          rintro e1 w3 ⟨rfl, hb3⟩
          have HG3 := Lib.hid (HG.out.below (holdsJ _ _ _) hb3)
          have HG4 := Lib.hid (HG3.out.box (holdsJ _ _ _) (insBox 0 0 0))
          clear hb3 HG HI hc HG3
          unfold insBox at HG4
          go_upto_region 6 with fail
          generalize w3.alloc (.cells #[.int .i64 0, .int .i64 0, .int .i64 0] 48) = W4 at *
          generalize w3.heap.size = d at *
          have HPs := Lib.hid (pass_any W4 br r 0 e HG4.out.rd (Nat.zero_le _) HO.out)
          go_wp2_with fail
          refine HPs.out.mono ?_
          rintro e2 w5 ⟨hf5, hbad, hgood⟩
          obtain rfl := hbad HE0.out
          have HF5 := Lib.hid (HG4.out.frm.trans (hf5.mono HG4.out.frm.size))
          clear hbad hgood hf5 HPs HG4
          go_wp2
          exact ⟨rfl, RdPost.bad (by rw [HV.out]; exact HE0.out) (by rw [HV.out]) HF5.out⟩
      · obtain rfl : j = n := by omega
        have HV : Hid (q = (ls, ⟨r, 0⟩, 0)) := Lib.hid (by rw [HQ.out, HL.out])
        clear HL HQ HStop
        go_wp2_with fail
        go_ret
        exact RdPost.good (by rw [HV.out]) HG.out.frm (by rw [HV.out]; exact HG.out.rd) (by rw [HV.out]; exact HG.out.own)
  · rw [if_pos he] at hq
    have HE0 := Lib.hid he
    clear he hX
    subst hq
    go_enter Tryd.func38, Tryd.ntmps38
    go_wp2_with fail
    refine HN.out.mono ?_
    rintro e1 w1 ⟨hf1, hbad, hgood⟩
    obtain rfl := hbad HE0.out
    have HF1 := Lib.hid hf1
    clear hbad hgood hf1 HN
    go_wp2
    exact ⟨rfl, RdPost.bad HE0.out rfl HF1.out⟩
end Go.Proofs.YtahejekcfgkiaaaDoor.pgm

/-
  The waits of a program's bytes, read one behind the other (typed over the code of 4b95722). The tables must lie where their initialisers lay them; texts of at most two to the forty-seventh bytes.
-/
namespace Go.Proofs.YtahejekcfgkiaaaDoor.pgm
open Go.RowKit Go.ChangeShapes
open Go.Proofs.YtahejekcfgkiaaaDoor.octet (St InAt Frm rdNum num size_mk)
open Go.Proofs.YtahejekcfgkiaaaDoor.objs (De zero DAt CellsAt Okd)
open Go.Proofs.YtahejekcfgkiaaaDoor.need (WAt OwnW Oka readW)
set_option linter.unusedVariables false

/-- The row of waits that is made. -/
def mkV (m : Nat) : Obj := .cells (madeCells (Value.slice none 0 0).cells (m * 1)) 43
theorem run_mkV (m : Nat) (hm : m ≤ 200) (W : World) : (Instr.makeSlice 23 (.int .i64 0) (.int .i64 (m : Int))).run Tryd.prog W = .ok (.slice (some ⟨W.heap.size, 0, none⟩) 0 m) (W.alloc (mkV m)) := by
  obtain ⟨i, hi, hz0, hz1, hz2⟩ := info_parts infoV
  have h := run_make (P := Tryd.prog) W 23 43 i _ Tryd.underlying23 hi hz0 .i64 .i64 0 (m : Int) (by omega) (by omega) (by rw [hz2]; omega) (by omega)
  rw [hz1, Int.toNat_natCast, Int.toNat_zero] at h
  exact h
theorem gv_new {w W : World} {br : Nat} {r : List UInt8} (m : Nat) (hm : m ≤ 200) (hr : RdAt W br r) (hf : Frm w.heap.size br w W) (hlt : br < w.heap.size) : Gg (fun Z => OwnV Z w.heap.size (.slice (some ⟨W.heap.size, 0, none⟩) 0 m) []) w br r (W.alloc (mkV m)) := by
  have hb : Below W.heap.size W (W.alloc (mkV m)) := (Below.refl _ _).alloc (Nat.le_refl _) _
  exact ⟨hr.kept (hb.block _ hr.lt), ⟨[], World.ownsRow_made W _ m hf.size (by unfold maxLen; omega) (size_madeCells _ _), fun j hj => absurd hj (Nat.not_lt_zero j)⟩, hf.trans (Frm.of_below (hb.mono hf.size)), hlt⟩
theorem OwnV.lt {w : World} {base g : Nat} {v : Value} {l : List (List (List De))} (h : OwnV w base v l) (hg : v.ownBlock = some g) : base ≤ g := by
  obtain ⟨xs, h1, _⟩ := h
  exact (World.ownsRow.lt h1 g hg).1
theorem OwnF.lt {w : World} {base g : Nat} {v : Value} {l : List Fn} (h : OwnF w base v l) (hg : v.ownBlock = some g) : base ≤ g := by
  obtain ⟨xs, h1, _⟩ := h
  exact (World.ownsRow.lt h1 g hg).1
theorem OwnV.length {w : World} {base n cap : Nat} {A : Option Addr} {l : List (List (List De))} (h : OwnV w base (.slice A n cap) l) : n = l.length := by
  obtain ⟨A2, c2, e⟩ := h.slice
  injection e

/-- The waits of a program that are read, behind its objects. -/
def rdWaits (d : List De) (s : St) : List (List (List De)) × St × Nat := if (rdMany s 32).2.2 ≠ 0 then ([], (rdMany s 32).2.1, (rdMany s 32).2.2) else rdAll (readW d) (rdMany s 32).2.1 (rdMany s 32).1
def WaitsVal (l : List (List (List De))) : World → Value → World → Prop := fun w v w' => OwnV w' w.heap.size v l
theorem readW_drop {d : List De} {r : List UInt8} (hd : (Go.Proofs.YtahejekcfgkiaaaDoor.objs.chk d).2 = 0) (h : (readW d ⟨r, 0⟩).2.2 = 0) : r.drop (r.length - (readW d ⟨r, 0⟩).2.1.rest.length) = (readW d ⟨r, 0⟩).2.1.rest ∧ (readW d ⟨r, 0⟩).2.1.err = 0 ∧ (readW d ⟨r, 0⟩).2.1.rest.length ≤ r.length := by
  obtain ⟨h3, h2⟩ := readW_once hd h
  refine ⟨drop_of_app h3, h2, ?_⟩
  have h4 := congrArg List.length h3
  rw [List.length_append] at h4
  omega

set_option maxRecDepth 100000 in
set_option maxHeartbeats 8000000 in
theorem waits_rd (w : World) (br : Nat) (t : List UInt8) (A0 : Option Addr) (cd : Nat) (d : List De) (hd : (Go.Proofs.YtahejekcfgkiaaaDoor.objs.chk d).2 = 0) (hA : DAt w A0 d) (hr : RdAt w br t) (hl : t.length ≤ 140737489403904) (hok : Okp w) (hp : Past br) :
    Calls Tryd.prog 21 #[.pointer (some ⟨br, 0, none⟩), .slice A0 d.length cd] w (RdPost br (rdWaits d ⟨t, 0⟩).2.2 (rdWaits d ⟨t, 0⟩).2.1.rest (WaitsVal (rdWaits d ⟨t, 0⟩).1) w) := by
  have hlt := hr.lt
  have HN := Lib.hid (count_rd w br t 32 (by decide) hr hl)
  have hX : (rdMany ⟨t, 0⟩ 32).2.2 = 0 → (rdMany ⟨t, 0⟩ 32).2.1.err = 0 ∧ (rdMany ⟨t, 0⟩ 32).1 ≤ 32 ∧ (rdMany ⟨t, 0⟩ 32).2.1.rest.length ≤ 140737489403904 := fun h => by
    obtain ⟨h1, h2, h3⟩ := rdMany_once h
    have h4 := congrArg List.length h1
    rw [List.length_append] at h4
    exact ⟨h2, h3, by omega⟩
  obtain ⟨q, hq⟩ : ∃ q, q = rdWaits d ⟨t, 0⟩ := ⟨_, rfl⟩
  rw [← hq]
  unfold rdWaits at hq
  have HW := Lib.hid (And.intro hok hp)
  have HA := Lib.hid (And.intro hA hr)
  have HD := Lib.hid hd
  clear hr hl hok hp hA hd
  generalize rdMany ⟨t, 0⟩ 32 = N at *
  obtain ⟨n, ⟨r0, er⟩, e⟩ := N
  dsimp only at HN hX hq
  by_cases he : e = 0
  · subst he
    obtain ⟨h1, hn, hl1⟩ := hX rfl
    subst h1
    rw [if_neg (by decide)] at hq
    have HQ := Lib.hid hq
    clear hX hq
    have hmk := run_mkV n (by omega)
    have HStop : Hid (∀ j, j < n → ∀ (ls : List (List (List De))) (S T : St) (x : List (List De)) (e : Nat), rdAll (readW d) ⟨r0, 0⟩ j = (ls, S, 0) → readW d S = (x, T, e) → e ≠ 0 → rdAll (readW d) ⟨r0, 0⟩ n = ([], T, e)) := Lib.hid (fun j hj ls S T x e h1 h2 h3 => rdAll_stop hj h1 h2 h3)
    go_enter Tryd.func21, Tryd.ntmps21
    go_wp2_with fail
    refine HN.out.mono ?_
    rintro e w1 ⟨hf1, hbad, hgood⟩
    obtain ⟨v, rfl, hr1, hv⟩ := hgood rfl
    have hv2 : v = .int .i64 (n : Int) := hv
    subst hv2
    have HG0 := Lib.hid (gv_new n (by omega) hr1 hf1 hlt)
    clear hbad hgood hr1 hf1 hv HN
    go_wp2_with fail
    generalize w1.alloc (mkV n) = W2 at *
    generalize w1.heap.size = g0 at *
    go_loopw [6, 15] (fun v i wr => ∃ (j : Nat) (ls : List (List (List De))) (r : List UInt8), j ≤ n ∧ i = .int .i64 (j : Int) ∧ Hid (rdAll (readW d) ⟨r0, 0⟩ j = (ls, ⟨r, 0⟩, 0)) ∧ Hid (Gg (fun Z => OwnV Z w.heap.size v ls) w br r wr) ∧ Hid (r.length ≤ 140737489403904)) (fun _ i _ => n - (intOf i).toNat)
    case atStart => exact ⟨0, [], r0, Nat.zero_le _, rfl, Lib.hid rfl, HG0, Lib.hid hl1⟩
    case round =>
      obtain ⟨j, ls, r, hj, rfl, HL, HG, HO⟩ := hrel
      have hlen : ls.length = j := by have := rdAll_length j (by rw [HL.out] : (rdAll (readW d) ⟨r0, 0⟩ j).2.2 = 0); rwa [HL.out] at this
      obtain ⟨A, cap, hv⟩ := HG.out.own.slice
      rw [hlen] at hv
      subst hv
      by_cases hlt2 : j < n
      · have hlt' : (j : Int) < (n : Int) := by omega
        have hc := HG.out.rd.cell
        have HI := Lib.hid (Go.Proofs.YtahejekcfgkiaaaDoor.need.get_own A0 cd d HD.out ⟨r.toArray⟩ wr (by rw [size_mk]; exact HO.out) (dat_off HA.out.1 HA.out.2 HG.out.frm) (okp_in HG.out HW.out.1 HW.out.2).need)
        rw [rd_text] at HI
        unfold Go.Proofs.YtahejekcfgkiaaaDoor.need.GotOwn9 Go.Proofs.YtahejekcfgkiaaaDoor.need.getW at HI
        have hdr := readW_drop (r := r) HD.out
        obtain ⟨y, hy⟩ : ∃ y, y = readW d ⟨r, 0⟩ := ⟨_, rfl⟩
        have HY := Lib.hid hy
        rw [← hy] at hdr HI
        clear hy
        obtain ⟨x, ⟨r1, er1⟩, e⟩ := y
        dsimp only at HI hdr
        by_cases he : e = 0
        · subst he
          obtain ⟨hd1, hz1, hl2⟩ := hdr rfl
          subst hz1
          rw [if_neg (by decide)] at HI
          dsimp only at HI
          have HQ1 := Lib.hid (rdAll_next HL.out HY.out.symm)
          have HD1 := Lib.hid hd1
          have HO2 : Hid (r1.length ≤ 140737489403904) := Lib.hid (by have := HO.out; omega)
          clear hdr hd1 hl2 HL HY HStop HQ
          go_wp2_with fail
          refine HI.out.mono ?_
          rintro e1 w3 ⟨vx, rfl, hx3, hb3⟩
          have HG3 := Lib.hid (HG.out.below (holdsV _ _ _) hb3)
          have HX3 := Lib.hid (hx3.base HG.out.frm.size)
          obtain ⟨Ax, cx, hvx⟩ := hx3.slice
          subst hvx
          clear hb3 HG HI hc hx3
          have HPs := Lib.hid (pass_any w3 br r (r.length - r1.length) 0 HG3.out.rd (Nat.sub_le _ _) HO.out)
          go_wp2_with fail
          refine HPs.out.mono ?_
          rintro e2 w5 ⟨hf5, hbad, hgood⟩
          obtain ⟨v, rfl, hr5, hv⟩ := hgood rfl
          have hv2 : v = .tuple #[] := hv
          subst hv2
          rw [HD1.out] at hr5
          have HG5 := Lib.hid (HG3.out.next (holdsV _ _ _) hr5 hf5)
          have hone : OwnW w5 w.heap.size (.slice Ax x.length cx) x := HX3.out.hold fun g hg hl => hf5.block g hl (by have := hlt; omega)
          have hown1 := HG5.out.own
          have hbase : w.heap.size ≤ w5.heap.size := HG5.out.frm.size
          have Hap := fun (v2 : Value) (W2 : World) (h1 : OwnV W2 w.heap.size v2 (ls ++ [x])) (h2 : (w5.alloc (.cells #[.slice Ax x.length cx] 43)).grownBy W2 (Value.slice A j cap).ownBlock) => (HG5.out.box (holdsV _ _ _) (.cells #[.slice Ax x.length cx] 43)).app (O2 := fun Z => OwnV Z w.heap.size v2 (ls ++ [x])) h1 h2 (fun k e => HG5.out.own.lt e)
          clear hbad hgood hr5 hf5 hv HPs HG3 HD1 HX3
          go_wp2_with (
            at_builtin
            refine wpList_appV (w := w5) (by rfl) (.tmp 31) (.tmp 33) (by rfl) w.heap.size 1 (.slice A j cap) _ ls x (by rfl) hown1 (by rfl) hone rfl (by omega) hbase ?_)
          intro v2 W5 hv2 hg2
          have HG6 := Lib.hid (Hap v2 W5 hv2 ⟨hg2.os, hg2.tape, hg2.output, hg2.size, hg2.block⟩)
          clear hown1 hone hv2 hg2 Hap
          go_wp2
          go_roundw
          case rel => exact ⟨j + 1, ls ++ [x], r1, by omega, by go_num, HQ1, HG6, HO2⟩
          case measure => simp [intOf]; omega
        · rw [if_pos he] at HI
          dsimp only at HI
          have HV : Hid (q = ([], ⟨r1, er1⟩, e)) := Lib.hid (by rw [HQ.out]; exact HStop.out j hlt2 _ _ _ _ _ HL.out HY.out.symm he)
          have HE0 := Lib.hid he
          clear hdr HL HY HStop HQ he
          go_wp2_with fail
          refine HI.out.mono ?_
          rintro e1 w3 ⟨vx, rfl, hx3, hb3⟩
          have HG3 := Lib.hid (HG.out.below (holdsV _ _ _) hb3)
          have HPs := Lib.hid (pass_any w3 br r 0 e HG3.out.rd (Nat.zero_le _) HO.out)
          clear hb3 HG HI hc hx3
          go_wp2_with fail
          refine HPs.out.mono ?_
          rintro e2 w5 ⟨hf5, hbad, hgood⟩
          obtain rfl := hbad HE0.out
          have HF5 := Lib.hid (HG3.out.frm.trans (hf5.mono HG3.out.frm.size))
          clear hbad hgood hf5 HPs HG3
          go_wp2
          exact ⟨rfl, RdPost.bad (by rw [HV.out]; exact HE0.out) (by rw [HV.out]) HF5.out⟩
      · obtain rfl : j = n := by omega
        have HV : Hid (q = (ls, ⟨r, 0⟩, 0)) := Lib.hid (by rw [HQ.out, HL.out])
        clear HL HQ HStop
        go_wp2_with fail
        go_ret
        exact RdPost.good (by rw [HV.out]) HG.out.frm (by rw [HV.out]; exact HG.out.rd) (by rw [HV.out]; exact HG.out.own)
  · rw [if_pos he] at hq
    have HE0 := Lib.hid he
    clear he hX
    subst hq
    go_enter Tryd.func21, Tryd.ntmps21
    go_wp2_with fail
    refine HN.out.mono ?_
    rintro e1 w1 ⟨hf1, hbad, hgood⟩
    obtain rfl := hbad HE0.out
    have HF1 := Lib.hid hf1
    clear hbad hgood hf1 HN
    go_wp2
    exact ⟨rfl, RdPost.bad HE0.out rfl HF1.out⟩
end Go.Proofs.YtahejekcfgkiaaaDoor.pgm

/-
  The functions of a program's bytes, read one behind the other (typed over the code of 4b95722). The tables must lie where their initialisers lay them; texts of at most two to the forty-seventh bytes.
-/
namespace Go.Proofs.YtahejekcfgkiaaaDoor.pgm
open Go.RowKit Go.ChangeShapes
open Go.Proofs.YtahejekcfgkiaaaDoor.octet (St InAt Frm rdNum num size_mk rdNum_left)
open Go.Proofs.YtahejekcfgkiaaaDoor.objs (De zero DAt CellsAt Okd cells3 rdNum_err)
open Go.Proofs.YtahejekcfgkiaaaDoor.need (WAt OwnW Oka readW)
set_option linter.unusedVariables false

/-- A function as the program reads it: a great number is two to the thirty-first less one. -/
def rdFnP (s : St) : Fn × St × Nat :=
  if (rdNum (rdNum s).2).2.err ≠ 0 then (Fn.zero, (rdNum (rdNum s).2).2, (rdNum (rdNum s).2).2.err)
  else if (rdCode (rdNum (rdNum s).2).2).2.2 ≠ 0 then (Fn.zero, (rdCode (rdNum (rdNum s).2).2).2.1, (rdCode (rdNum (rdNum s).2).2).2.2)
  else (⟨((min (rdNum s).1 2147483647 : Nat) : Int), ((min (rdNum (rdNum s).2).1 2147483647 : Nat) : Int), (rdCode (rdNum (rdNum s).2).2).1⟩, (rdCode (rdNum (rdNum s).2).2).2.1, 0)
theorem rdFnP_a {s S : St} {a : Nat} (h : rdNum s = (a, S)) (he : S.err ≠ 0) : rdFnP s = (Fn.zero, S, S.err) := by
  unfold rdFnP
  rw [h]
  dsimp only
  rw [rdNum_err he, if_pos he]
theorem rdFnP_b {s S T : St} {a b : Nat} (h : rdNum s = (a, S)) (h2 : rdNum S = (b, T)) (he : T.err ≠ 0) : rdFnP s = (Fn.zero, T, T.err) := by
  unfold rdFnP
  rw [h]
  dsimp only
  rw [h2]
  dsimp only
  rw [if_pos he]
theorem rdFnP_c {s S T U : St} {a b e : Nat} {c : List De} (h : rdNum s = (a, S)) (h2 : rdNum S = (b, T)) (h0 : T.err = 0) (h3 : rdCode T = (c, U, e)) (he : e ≠ 0) : rdFnP s = (Fn.zero, U, e) := by
  unfold rdFnP
  rw [h]
  dsimp only
  rw [h2]
  dsimp only
  rw [h3]
  dsimp only
  rw [if_neg (by omega), if_pos he]
theorem rdFnP_d {s S T U : St} {a b : Nat} {c : List De} (h : rdNum s = (a, S)) (h2 : rdNum S = (b, T)) (h0 : T.err = 0) (h3 : rdCode T = (c, U, 0)) : rdFnP s = (⟨((min a 2147483647 : Nat) : Int), ((min b 2147483647 : Nat) : Int), c⟩, U, 0) := by
  unfold rdFnP
  rw [h]
  dsimp only
  rw [h2]
  dsimp only
  rw [h3]
  dsimp only
  rw [if_neg (by omega), if_neg (by decide)]
theorem rdCode_once {t : List UInt8} (h : (rdCode ⟨t, 0⟩).2.2 = 0) : (rdCode ⟨t, 0⟩).2.1.err = 0 ∧ (rdCode ⟨t, 0⟩).2.1.rest.length ≤ t.length := by
  unfold rdCode at h ⊢
  split at h
  · exact absurd h ‹_›
  · rename_i h1
    rw [if_neg h1]
    obtain ⟨h2, h3, _⟩ := rdMany_once (L := t) (most := 200) (by omega)
    have h4 := congrArg List.length h2
    generalize rdMany ⟨t, 0⟩ 200 = p at *
    obtain ⟨n, ⟨R, E⟩, e⟩ := p
    dsimp only at h h1 h2 h3 h4 ⊢
    subst h3
    obtain ⟨h5, h6⟩ := rdAll_once (rd := rdIns) (e := encIn) (d := zero) (ok := fun _ => True) (fun L2 q2 _ => readI_once q2) n R h (fun _ _ => trivial)
    have h7 := congrArg List.length h5
    rw [List.length_append] at h4 h7
    exact ⟨h6, by omega⟩

/-- The row of functions that is made. -/
def mkF (m : Nat) : Obj := .cells (madeCells (Value.agg #[.int .i64 0, .int .i64 0, .slice none 0 0]).cells (m * 3)) 46
theorem run_mkF (m : Nat) (hm : m ≤ 200) (W : World) : (Instr.makeSlice 24 (.int .i64 0) (.int .i64 (m : Int))).run Tryd.prog W = .ok (.slice (some ⟨W.heap.size, 0, none⟩) 0 m) (W.alloc (mkF m)) := by
  obtain ⟨i, hi, hz0, hz1, hz2⟩ := info_parts infoF
  have h := run_make (P := Tryd.prog) W 24 46 i _ Tryd.underlying24 hi hz0 .i64 .i64 0 (m : Int) (by omega) (by omega) (by rw [hz2]; omega) (by omega)
  rw [hz1, Int.toNat_natCast, Int.toNat_zero] at h
  exact h
theorem gf_new {w W : World} {br : Nat} {r : List UInt8} (m : Nat) (hm : m ≤ 200) (hr : RdAt W br r) (hf : Frm w.heap.size br w W) (hlt : br < w.heap.size) : Gg (fun Z => OwnF Z w.heap.size (.slice (some ⟨W.heap.size, 0, none⟩) 0 m) []) w br r (W.alloc (mkF m)) := by
  have hb : Below W.heap.size W (W.alloc (mkF m)) := (Below.refl _ _).alloc (Nat.le_refl _) _
  exact ⟨hr.kept (hb.block _ hr.lt), ⟨[], World.ownsRow_made W _ m hf.size (by unfold maxLen; omega) (size_madeCells _ _), fun j hj => absurd hj (Nat.not_lt_zero j)⟩, hf.trans (Frm.of_below (hb.mono hf.size)), hlt⟩
def fnObj (x y z : Value) : Obj := .cells #[x, y, z] 46

/-- The functions of a program that are read. -/
def rdFuncs (s : St) : List Fn × St × Nat := if (rdMany s 16).2.2 ≠ 0 then ([], (rdMany s 16).2.1, (rdMany s 16).2.2) else rdAll rdFnP (rdMany s 16).2.1 (rdMany s 16).1
def FuncsVal (l : List Fn) : World → Value → World → Prop := fun w v w' => OwnF w' w.heap.size v l

/-- Within a function that is read: the reader, the function's own box, and what stood before. -/
structure Gb (w3 : World) (br d : Nat) (x y z : Value) (r : List UInt8) (W : World) : Prop where
  rd : RdAt W br r
  box : W.heap[d]? = some (.cells #[x, y, z] 46 (0, 0))
  frm : Frm w3.heap.size br w3 W
  le : w3.heap.size ≤ d
  ne : br < d
theorem Gb.next {w3 W W' : World} {br d : Nat} {x y z : Value} {r r' : List UInt8} (h : Gb w3 br d x y z r W) (hr : RdAt W' br r') (hf : Frm W.heap.size br W W') : Gb w3 br d x y z r' W' := by
  have e1 := h.ne
  exact ⟨hr, (hf.block d (lt_of_block h.box) (by omega)).trans h.box, h.frm.trans (hf.mono h.frm.size), h.le, e1⟩
theorem Gb.set {w3 W : World} {br d : Nat} {x y z x' y' z' : Value} {r : List UInt8} (h : Gb w3 br d x y z r W) (i : Nat) (v : Value) (he : (W.setCell ⟨d, i, none⟩ v).heap[d]? = some (.cells #[x', y', z'] 46 (0, 0))) : Gb w3 br d x' y' z' r (W.setCell ⟨d, i, none⟩ v) := by
  have e1 := h.ne
  exact ⟨h.rd.kept (Below.heap_setCell _ ⟨d, i, none⟩ _ br (by show br ≠ d; omega)), he, h.frm.setCell (p := ⟨d, i, none⟩) (.inr h.le) v, h.le, e1⟩
theorem Gb.set1 {w3 W : World} {br d : Nat} {x y z : Value} {r : List UInt8} (h : Gb w3 br d x y z r W) (v : Value) : Gb w3 br d x v z r (W.setCell ⟨d, 1, none⟩ v) := h.set 1 v (by have := h.box; simp [World.setCell, Array.getElem?_modify, this])
theorem Gb.set2 {w3 W : World} {br d : Nat} {x y z : Value} {r : List UInt8} (h : Gb w3 br d x y z r W) (v : Value) : Gb w3 br d x y v r (W.setCell ⟨d, 2, none⟩ v) := h.set 2 v (by have := h.box; simp [World.setCell, Array.getElem?_modify, this])

set_option maxRecDepth 100000 in
set_option maxHeartbeats 8000000 in
theorem funcs_rd (w : World) (br : Nat) (t : List UInt8) (hr : RdAt w br t) (hl : t.length ≤ 140737489403904) (hok : Okp w) (hp : Past br) :
    Calls Tryd.prog 22 #[.pointer (some ⟨br, 0, none⟩)] w (RdPost br (rdFuncs ⟨t, 0⟩).2.2 (rdFuncs ⟨t, 0⟩).2.1.rest (FuncsVal (rdFuncs ⟨t, 0⟩).1) w) := by
  have hlt := hr.lt
  have HN := Lib.hid (count_rd w br t 16 (by decide) hr hl)
  have hX : (rdMany ⟨t, 0⟩ 16).2.2 = 0 → (rdMany ⟨t, 0⟩ 16).2.1.err = 0 ∧ (rdMany ⟨t, 0⟩ 16).1 ≤ 16 ∧ (rdMany ⟨t, 0⟩ 16).2.1.rest.length ≤ 140737489403904 := fun h => by
    obtain ⟨h1, h2, h3⟩ := rdMany_once h
    have h4 := congrArg List.length h1
    rw [List.length_append] at h4
    exact ⟨h2, h3, by omega⟩
  obtain ⟨q, hq⟩ : ∃ q, q = rdFuncs ⟨t, 0⟩ := ⟨_, rfl⟩
  rw [← hq]
  unfold rdFuncs at hq
  have HW := Lib.hid (And.intro hok hp)
  clear hr hl hok hp
  generalize rdMany ⟨t, 0⟩ 16 = N at *
  obtain ⟨n, ⟨r0, er⟩, e⟩ := N
  dsimp only at HN hX hq
  by_cases he : e = 0
  · subst he
    obtain ⟨h1, hn, hl1⟩ := hX rfl
    subst h1
    rw [if_neg (by decide)] at hq
    have HQ := Lib.hid hq
    clear hX hq
    have hmk := run_mkF n (by omega)
    have HStop : Hid (∀ j, j < n → ∀ (ls : List Fn) (S T : St) (x : Fn) (e : Nat), rdAll rdFnP ⟨r0, 0⟩ j = (ls, S, 0) → rdFnP S = (x, T, e) → e ≠ 0 → rdAll rdFnP ⟨r0, 0⟩ n = ([], T, e)) := Lib.hid (fun j hj ls S T x e h1 h2 h3 => rdAll_stop hj h1 h2 h3)
    go_enter Tryd.func22, Tryd.ntmps22
    go_wp2_with fail
    refine HN.out.mono ?_
    rintro e w1 ⟨hf1, hbad, hgood⟩
    obtain ⟨v, rfl, hr1, hv⟩ := hgood rfl
    have hv2 : v = .int .i64 (n : Int) := hv
    subst hv2
    have HG0 := Lib.hid (gf_new n (by omega) hr1 hf1 hlt)
    clear hbad hgood hr1 hf1 hv HN
    go_wp2_with fail
    generalize w1.alloc (mkF n) = W2 at *
    generalize w1.heap.size = g0 at *
    go_loopw [4, 11] (fun v i wr => ∃ (j : Nat) (ls : List Fn) (r : List UInt8), j ≤ n ∧ i = .int .i64 (j : Int) ∧ Hid (rdAll rdFnP ⟨r0, 0⟩ j = (ls, ⟨r, 0⟩, 0)) ∧ Hid (Gg (fun Z => OwnF Z w.heap.size v ls) w br r wr) ∧ Hid (r.length ≤ 140737489403904)) (fun _ i _ => n - (intOf i).toNat)
    case atStart => exact ⟨0, [], r0, Nat.zero_le _, rfl, Lib.hid rfl, HG0, Lib.hid hl1⟩
    case round =>
      obtain ⟨j, ls, r, hj, rfl, HL, HG, HO⟩ := hrel
      have hlen : ls.length = j := by have := rdAll_length j (by rw [HL.out] : (rdAll rdFnP ⟨r0, 0⟩ j).2.2 = 0); rwa [HL.out] at this
      obtain ⟨A, cap, hv⟩ := HG.out.own.slice
      rw [hlen] at hv
      subst hv
      by_cases hlt2 : j < n
      · have hlt' : (j : Int) < (n : Int) := by omega
        have HNa := Lib.hid (num_rd wr br r HG.out.rd HO.out)
        have hra := rdNum_left ⟨r, 0⟩
        obtain ⟨a, ⟨r1, e1⟩, hNa⟩ : ∃ a S, rdNum ⟨r, 0⟩ = (a, S) := ⟨_, _, rfl⟩
        rw [hNa] at HNa hra
        dsimp only at HNa hra
        have HHa := Lib.hid hNa
        clear hNa
        go_wp2_with fail
        refine HNa.out.mono ?_
        rintro e w3 ⟨hf3, hbad, hgood⟩
        by_cases h1 : e1 = 0
        · subst h1
          obtain ⟨v, rfl, hr3, hv⟩ := hgood rfl
          have hv2 : v = .int .i64 ((min a 2147483647 : Nat) : Int) := hv
          subst hv2
          have HG3 := Lib.hid (HG.out.next (holdsF _ _ _) hr3 hf3)
          have hl3 : r1.length ≤ 140737489403904 := by have := HO.out; omega
          have HRa := Lib.hid hra
          clear hbad hgood hr3 hf3 hv HNa HG hra
          obtain ⟨a', ha'⟩ : ∃ a' : Int, ((min a 2147483647 : Nat) : Int) = a' := ⟨_, rfl⟩
          have HA' := Lib.hid ha'
          rw [ha']
          clear ha'
          have HB4 : Hid (Gb w3 br w3.heap.size (.int .i64 a') (.int .i64 0) (.slice none 0 0) r1 (w3.alloc (fnObj (.int .i64 a') (.int .i64 0) (.slice none 0 0)))) := Lib.hid ⟨HG3.out.rd.kept (Below.heap_alloc _ _ _ HG3.out.rd.lt), heap_alloc_new w3 _, (Frm.refl _ _ _).alloc (Nat.le_refl _) _, Nat.le_refl _, HG3.out.rd.lt⟩
          unfold fnObj at HB4
          go_upto_region 6 with fail
          generalize w3.alloc (.cells #[.int .i64 a', .int .i64 0, .slice none 0 0] 46) = W4 at *
          generalize w3.heap.size = d at *
          have HNb := Lib.hid (num_rd W4 br r1 HB4.out.rd hl3)
          have hrb := rdNum_left ⟨r1, 0⟩
          obtain ⟨b, ⟨r2, e2⟩, hNb⟩ : ∃ b S, rdNum ⟨r1, 0⟩ = (b, S) := ⟨_, _, rfl⟩
          rw [hNb] at HNb hrb
          dsimp only at HNb hrb
          have HHb := Lib.hid hNb
          have HRb := Lib.hid (Nat.le_trans hrb hl3)
          clear hNb hrb hl3
          go_wp2_with fail
          refine HNb.out.mono ?_
          rintro e w5 ⟨hf5, hbad, hgood⟩
          by_cases h2 : e2 = 0
          · subst h2
            obtain ⟨v, rfl, hr5, hv⟩ := hgood rfl
            have hv2 : v = .int .i64 ((min b 2147483647 : Nat) : Int) := hv
            subst hv2
            have HB5 := Lib.hid (HB4.out.next hr5 hf5)
            clear hbad hgood hr5 hf5 hv HNb HB4
            obtain ⟨b', hb'⟩ : ∃ b' : Int, ((min b 2147483647 : Nat) : Int) = b' := ⟨_, rfl⟩
            have HB' := Lib.hid hb'
            rw [hb']
            clear hb'
            obtain ⟨c0, c1, c2, z0, z1, z2⟩ := cells3 HB5.out.box
            have HB6 := Lib.hid (HB5.out.set1 (.int .i64 b'))
            have hk6 : Okp (w5.setCell ⟨d, 1, none⟩ (.int .i64 b')) := HW.out.1.frm HW.out.2 (HG3.out.frm.trans (HB6.out.frm.mono HG3.out.frm.size)) HG3.out.lt
            have HC := Lib.hid (code_rd (w5.setCell ⟨d, 1, none⟩ (.int .i64 b')) br r2 HB6.out.rd HRb.out hk6 HW.out.2)
            have hrc := rdCode_once (t := r2)
            obtain ⟨c, ⟨r3, e3'⟩, e3, hNc⟩ : ∃ c S e, rdCode ⟨r2, 0⟩ = (c, S, e) := ⟨_, _, _, rfl⟩
            rw [hNc] at HC hrc
            dsimp only at HC hrc
            have HHc := Lib.hid hNc
            clear hNc hk6 HB5
            go_upto_region 7 with fail
            generalize w5.setCell ⟨d, 1, none⟩ (.int .i64 b') = W6 at *
            clear c0 c1 c2 z0 z1 z2
            go_wp2_with fail
            refine HC.out.mono ?_
            rintro e w7 ⟨hf7, hbad, hgood⟩
            by_cases h3 : e3 = 0
            · subst h3
              obtain ⟨v, rfl, hr7, hv⟩ := hgood rfl
              have hv7 : OwnJ w7 W6.heap.size v c := hv
              have HB7 := Lib.hid (HB6.out.next hr7 hf7)
              obtain ⟨hz3, hl3⟩ := hrc rfl
              subst hz3
              have HX : Hid (rdFnP ⟨r, 0⟩ = (⟨a', b', c⟩, ⟨r3, 0⟩, 0)) := Lib.hid (by rw [rdFnP_d HHa.out HHb.out rfl HHc.out, HA'.out, HB'.out])
              have HO3 : Hid (r3.length ≤ 140737489403904) := Lib.hid (Nat.le_trans hl3 HRb.out)
              obtain ⟨Av, cv, hve⟩ := hv7.slice
              subst hve
              obtain ⟨c0, c1, c2, z0, z1, z2⟩ := cells3 HB7.out.box
              have HB8 := Lib.hid (HB7.out.set2 (.slice Av c.length cv))
              have HJ8 : Hid (OwnJ (w7.setCell ⟨d, 2, none⟩ (.slice Av c.length cv)) w.heap.size (.slice Av c.length cv) c) := Lib.hid ((hv7.base (by have h1 := HG3.out.frm.size; have h2 := HB6.out.frm.size; omega)).keep fun g hg => Below.heap_setCell _ ⟨d, 2, none⟩ _ g (by have h1 := (hv7.lt hg).1; have h2 := lt_of_block HB6.out.box; show g ≠ d; omega))
              clear hbad hgood hr7 hf7 hv hv7 HC HB6 HB7 hrc hl3
              go_upto_region 8 with fail
              generalize w7.setCell ⟨d, 2, none⟩ (.slice Av c.length cv) = W8 at *
              clear c0 c1 c2 z0 z1 z2
              obtain ⟨c0, c1, c2, z0, z1, z2⟩ := cells3 HB8.out.box
              have HG8 := Lib.hid (HG3.out.next (holdsF _ _ _) HB8.out.rd HB8.out.frm)
              have hown1 := HG8.out.own
              have hone := HJ8.out
              have hbase : w.heap.size ≤ W8.heap.size := HG8.out.frm.size
              have HQ1 := Lib.hid (rdAll_next HL.out HX.out)
              have Hap := fun (v2 : Value) (W2 : World) (h1 : OwnF W2 w.heap.size v2 (ls ++ [⟨a', b', c⟩])) (h2 : (W8.alloc (fnObj (.int .i64 a') (.int .i64 b') (.slice Av c.length cv))).grownBy W2 (Value.slice A j cap).ownBlock) => (HG8.out.box (holdsF _ _ _) (fnObj (.int .i64 a') (.int .i64 b') (.slice Av c.length cv))).app (O2 := fun Z => OwnF Z w.heap.size v2 (ls ++ [⟨a', b', c⟩])) h1 h2 (fun k e => HG8.out.own.lt e)
              unfold fnObj at Hap
              clear HB8 HJ8 HG3 HX HL HQ HStop
              go_wp2_with (
                at_builtin
                refine wpList_appF (w := W8) (by rfl) (.tmp 22) (.tmp 24) (by rfl) w.heap.size 1 (.slice A j cap) (.slice Av c.length cv) ls ⟨a', b', c⟩ (by rfl) hown1 (by rfl) hone rfl (by omega) hbase ?_)
              intro v2 W5 hv2 hg2
              have HG9 := Lib.hid (Hap v2 W5 hv2 ⟨hg2.os, hg2.tape, hg2.output, hg2.size, hg2.block⟩)
              clear hown1 hone hv2 hg2 Hap c0 c1 c2 z0 z1 z2
              go_wp2
              go_roundw
              case rel => exact ⟨j + 1, ls ++ [⟨a', b', c⟩], r3, by omega, by go_num, HQ1, HG9, HO3⟩
              case measure => simp [intOf]; omega
            · obtain rfl := hbad h3
              have HX : Hid (rdFnP ⟨r, 0⟩ = (Fn.zero, ⟨r3, e3'⟩, e3)) := Lib.hid (rdFnP_c HHa.out HHb.out rfl HHc.out h3)
              have HV : Hid (q = ([], ⟨r3, e3'⟩, e3)) := Lib.hid (by rw [HQ.out]; exact HStop.out j hlt2 _ _ _ _ _ HL.out HX.out h3)
              have HE0 := Lib.hid h3
              have HF7 : Hid (Frm w.heap.size br w w7) := Lib.hid ((HG3.out.frm.trans (HB6.out.frm.mono HG3.out.frm.size)).trans (hf7.mono (by have h1 := HG3.out.frm.size; have h2 := HB6.out.frm.size; omega)))
              clear hbad hgood hf7 HC HB6 hrc HX HL HQ HStop h3
              go_wp2
              exact ⟨rfl, RdPost.bad (by rw [HV.out]; exact HE0.out) (by rw [HV.out]) HF7.out⟩
          · obtain rfl := hbad h2
            have HX : Hid (rdFnP ⟨r, 0⟩ = (Fn.zero, ⟨r2, e2⟩, e2)) := Lib.hid (rdFnP_b HHa.out HHb.out h2)
            have HV : Hid (q = ([], ⟨r2, e2⟩, e2)) := Lib.hid (by rw [HQ.out]; exact HStop.out j hlt2 _ _ _ _ _ HL.out HX.out h2)
            have HE0 := Lib.hid h2
            have HF5 : Hid (Frm w.heap.size br w w5) := Lib.hid ((HG3.out.frm.trans (HB4.out.frm.mono HG3.out.frm.size)).trans (hf5.mono (by have h1 := HG3.out.frm.size; have h2 := HB4.out.frm.size; omega)))
            clear hbad hgood hf5 HNb HB4 HX HL HQ HStop h2
            go_wp2
            exact ⟨rfl, RdPost.bad (by rw [HV.out]; exact HE0.out) (by rw [HV.out]) HF5.out⟩
        · obtain rfl := hbad h1
          have HX : Hid (rdFnP ⟨r, 0⟩ = (Fn.zero, ⟨r1, e1⟩, e1)) := Lib.hid (rdFnP_a HHa.out h1)
          have HV : Hid (q = ([], ⟨r1, e1⟩, e1)) := Lib.hid (by rw [HQ.out]; exact HStop.out j hlt2 _ _ _ _ _ HL.out HX.out h1)
          have HE0 := Lib.hid h1
          have HF3 : Hid (Frm w.heap.size br w w3) := Lib.hid (HG.out.frm.trans (hf3.mono HG.out.frm.size))
          clear hbad hgood hf3 HNa HX HL HQ HStop h1
          go_wp2
          exact ⟨rfl, RdPost.bad (by rw [HV.out]; exact HE0.out) (by rw [HV.out]) HF3.out⟩
      · obtain rfl : j = n := by omega
        have HV : Hid (q = (ls, ⟨r, 0⟩, 0)) := Lib.hid (by rw [HQ.out, HL.out])
        clear HL HQ HStop
        go_wp2_with fail
        go_ret
        exact RdPost.good (by rw [HV.out]) HG.out.frm (by rw [HV.out]; exact HG.out.rd) (by rw [HV.out]; exact HG.out.own)
  · rw [if_pos he] at hq
    have HE0 := Lib.hid he
    clear he hX
    subst hq
    go_enter Tryd.func22, Tryd.ntmps22
    go_wp2_with fail
    refine HN.out.mono ?_
    rintro e1 w1 ⟨hf1, hbad, hgood⟩
    obtain rfl := hbad HE0.out
    have HF1 := Lib.hid hf1
    clear hbad hgood hf1 HN
    go_wp2
    exact ⟨rfl, RdPost.bad HE0.out rfl HF1.out⟩
end Go.Proofs.YtahejekcfgkiaaaDoor.pgm

/-
  How the bytes of a program begin, as strings.CutPrefix tells it. No condition.
-/
namespace Go.Proofs.YtahejekcfgkiaaaDoor.pgm
open Go.RowKit Go.ChangeShapes
open Go.Proofs.YtahejekcfgkiaaaDoor.octet (St InAt Frm size_mk extract_mk)
set_option linter.unusedVariables false

theorem has_any (t : List UInt8) (w : World) : Calls Tryd.prog 48 #[.string ⟨t.toArray⟩, .string ⟨#[76, 74, 1]⟩] w fun e w' => e = .returned (.bool (decide (t.take 3 = [76, 74, 1]))) ∧ w = w' := by
  have hsz := size_mk t
  have hsz3 : (⟨#[76, 74, 1]⟩ : ByteArray).size = 3 := rfl
  by_cases h3 : 3 ≤ t.length
  · have q1 : decide ((t.length : Int) ≥ 3) = true := by simp; omega
    have hsl : ∀ W : World, (Instr.slice 9 (.string ⟨t.toArray⟩) none (some (.int .i64 3)) none).run Tryd.prog W = .ok (.string ⟨(t.take 3).toArray⟩) W := fun W => by
      rw [run_slice_string_to_if W 9 ⟨t.toArray⟩ .i64 3 Tryd.underlying9, if_pos ⟨by omega, by rw [hsz]; omega⟩, show (3 : Int).toNat = 3 from rfl, extract_mk, List.drop_zero]
    have hb : decide (t.take 3 = [76, 74, 1]) = (t.take 3 == [76, 74, 1]) := by rw [Bool.eq_iff_iff]; simp
    rw [hb]
    clear hb
    go_enter Tryd.func48, Tryd.ntmps48
    go_wp2
    go_ret
    exact ⟨rfl, rfl⟩
  · have q1 : decide ((t.length : Int) ≥ 3) = false := by simp; omega
    have hne : decide (t.take 3 = [76, 74, 1]) = false := decide_eq_false fun e => by
      have := congrArg List.length e
      simp at this
      omega
    rw [hne]
    go_enter Tryd.func48, Tryd.ntmps48
    go_wp2
    go_ret
    exact ⟨rfl, rfl⟩
def CutPost (t : List UInt8) (w : World) (e : Ending) (w' : World) : Prop :=
  e = .returned (.tuple #[.string ⟨(if t.take 3 = [76, 74, 1] then t.drop 3 else t).toArray⟩, .bool (decide (t.take 3 = [76, 74, 1]))]) ∧ w = w'
theorem cutl_any (t : List UInt8) (w : World) : Calls Tryd.prog 32 #[.string ⟨t.toArray⟩, .string ⟨#[76, 74, 1]⟩] w (CutPost t w) := by
  have hsz := size_mk t
  have hsz3 : (⟨#[76, 74, 1]⟩ : ByteArray).size = 3 := rfl
  have HH := fun W => Lib.hid (has_any t W)
  unfold CutPost
  by_cases h : t.take 3 = [76, 74, 1]
  · have h3 : 3 ≤ t.length := by
      have := congrArg List.length h
      simp at this
      omega
    rw [if_pos h, decide_eq_true h]
    rw [decide_eq_true h] at HH
    have hsl : ∀ W : World, (Instr.slice 9 (.string ⟨t.toArray⟩) (some (.int .i64 3)) none none).run Tryd.prog W = .ok (.string ⟨(t.drop 3).toArray⟩) W := fun W => by
      rw [run_slice_string_from_if W 9 ⟨t.toArray⟩ .i64 3 Tryd.underlying9, if_pos ⟨by omega, by rw [hsz]; omega⟩, show (3 : Int).toNat = 3 from rfl, hsz, extract_mk, List.take_length]
    clear h h3
    go_enter Tryd.func32, Tryd.ntmps32
    go_wp2_with fail
    refine (HH _).out.mono ?_
    rintro e w1 ⟨rfl, rfl⟩
    go_wp2
    go_ret2
    exact ⟨rfl, rfl⟩
  · rw [if_neg h, decide_eq_false h]
    rw [decide_eq_false h] at HH
    clear h
    go_enter Tryd.func32, Tryd.ntmps32
    go_wp2_with fail
    refine (HH _).out.mono ?_
    rintro e w1 ⟨rfl, rfl⟩
    go_wp2
    go_ret2
    exact ⟨rfl, rfl⟩
theorem cut_any (t : List UInt8) (w : World) : Calls Tryd.prog 19 #[.string ⟨t.toArray⟩, .string ⟨#[76, 74, 1]⟩] w (CutPost t w) := by
  have HH := fun W => Lib.hid (cutl_any t W)
  unfold CutPost at *
  generalize (if t.take 3 = [76, 74, 1] then t.drop 3 else t) = y at *
  generalize decide (t.take 3 = [76, 74, 1]) = b at *
  go_enter Tryd.func19, Tryd.ntmps19
  go_wp2_with fail
  refine (HH _).out.mono ?_
  rintro e w1 ⟨rfl, rfl⟩
  go_wp2
  go_ret2
  exact ⟨rfl, rfl⟩
end Go.Proofs.YtahejekcfgkiaaaDoor.pgm
