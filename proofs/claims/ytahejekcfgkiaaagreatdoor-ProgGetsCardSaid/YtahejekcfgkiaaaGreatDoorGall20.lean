/-
  Texts of one claim in one file: GRows, GWaits, GFuncs, GCut, GAll, GClip, GGet, ESame. Each has its own sentence, with its conditions.
-/
import Derived.Test.YtahejekcfgkiaaaGreatDoorGall19
import Derived.Test.YtahejekcfgkiaaaGreatDoorGall11
import Derived.Test.YtahejekcfgkiaaaGreatDoorGall17
import Derived.Laws.MakeOwn
import Derived.Test.YtahejekcfgkiaaaGreatDoorGall15
import Derived.Test.YtahejekcfgkiaaaGreatDoorGall16
import Derived.Defers
import Derived.Recover
import Derived.Tactics2
import Derived.Laws.Pointers
import Derived.Test.YtahejekcfgkiaaaGreatDoorGall9
/-
  The objects, the instructions and the waits of a program's bytes, read one behind the other (typed over the code of 4b95722). The tables must lie where their initialisers lay them; texts of at most two to the forty-seventh bytes.
-/
namespace Go.Proofs.YtahejekcfgkiaaaGreatDoor.pgm
open Go.RowKit Go.ChangeShapes
open Go.Proofs.YtahejekcfgkiaaaGreatDoor.octet (St InAt Frm rdNum num size_mk)
open Go.Proofs.YtahejekcfgkiaaaGreatDoor.objs (De zero DAt CellsAt Okd)
open Go.Proofs.YtahejekcfgkiaaaGreatDoor.inst (Okw)
open Go.Proofs.YtahejekcfgkiaaaGreatDoor.need (WAt OwnW Oka)
set_option linter.unusedVariables false

theorem Okp.frm {br : Nat} {w w' : World} (h : Okp w) (hp : Past br) (hf : Frm w.heap.size br w w') (hlt : br < w.heap.size) : Okp w' := h.below (hf.below (Nat.le_refl br) (Nat.le_of_lt hlt)) hp

/-- Behind a call that asks only that the text is there, the reader goes on. -/
theorem rd_text (t : List UInt8) : (⟨t.toArray⟩ : ByteArray).data.toList = t := by simp
theorem Frm.box {B br : Nat} {w W : World} (h : Frm B br w W) (hB : B ≤ W.heap.size) (o : Obj) : Frm B br w (W.alloc o) := h.alloc hB o

/-- Three numbers in a row lie in no reader's block. -/
theorem cells_off {w : World} {b i br : Nat} {d : De} {t : List UInt8} (h : CellsAt w b i d) (hr : RdAt w br t) : b ≠ br := by
  rintro rfl
  have h1 := h.2.1
  unfold RdAt at hr
  simp [World.cell?, hr] at h1
theorem dat_off {w w' : World} {br : Nat} {t : List UInt8} {A : Option Addr} {l : List De} (h : DAt w A l) (hr : RdAt w br t) (hf : Frm w.heap.size br w w') : DAt w' A l := fun j hj => by
  obtain ⟨b, off, h1, h2, h3⟩ := h j hj
  exact ⟨b, off, h1, Nat.lt_of_lt_of_le h2 hf.size, h3.keep (hf.block b h2 (cells_off h3 hr))⟩
/-- A slice of objects, as a call tells it. -/
def ObjVal (l : List De) : World → Value → World → Prop := fun _ v w' => ∃ A cap, v = .slice A l.length cap ∧ DAt w' A l
set_option maxRecDepth 100000 in
set_option maxHeartbeats 4000000 in
theorem objects_rd (w : World) (br : Nat) (t : List UInt8) (hr : RdAt w br t) (hl : t.length ≤ 140737489403904) (hok : Okp w) :
    Calls Tryz.prog 55 #[.pointer (some ⟨br, 0, none⟩)] w (RdPost br (Go.Proofs.YtahejekcfgkiaaaGreatDoor.objs.readL ⟨t, 0⟩).2.2 (Go.Proofs.YtahejekcfgkiaaaGreatDoor.objs.readL ⟨t, 0⟩).2.1.rest (ObjVal (Go.Proofs.YtahejekcfgkiaaaGreatDoor.objs.readL ⟨t, 0⟩).1) w) := by
  have hc := hr.cell
  have HG := Lib.hid (Go.Proofs.YtahejekcfgkiaaaGreatDoor.objs.get_any ⟨t.toArray⟩ w (by rw [size_mk]; exact hl) hok.decl)
  rw [rd_text] at HG
  have HDr : Hid ((Go.Proofs.YtahejekcfgkiaaaGreatDoor.objs.readL ⟨t, 0⟩).2.2 = 0 → t.drop (t.length - (Go.Proofs.YtahejekcfgkiaaaGreatDoor.objs.readL ⟨t, 0⟩).2.1.rest.length) = (Go.Proofs.YtahejekcfgkiaaaGreatDoor.objs.readL ⟨t, 0⟩).2.1.rest) := Lib.hid (fun h => drop_of_app (readL_once h).2.1)
  unfold Go.Proofs.YtahejekcfgkiaaaGreatDoor.objs.GotPost Go.Proofs.YtahejekcfgkiaaaGreatDoor.objs.getL at HG
  have HR := Lib.hid hr
  have HL := Lib.hid hl
  clear hr hl hok
  generalize Go.Proofs.YtahejekcfgkiaaaGreatDoor.objs.readL ⟨t, 0⟩ = q at *
  obtain ⟨l, ⟨S, er⟩, e⟩ := q
  dsimp only at HG HDr ⊢
  by_cases he : e = 0
  · subst he
    rw [if_neg (by decide)] at HG
    dsimp only at HG
    have HD0 := Lib.hid (HDr.out rfl)
    clear HDr
    go_enter Tryz.func55, Tryz.ntmps55
    go_wp2_with fail
    refine HG.out.mono ?_
    rintro e1 w1 ⟨v, rfl, ⟨A, cap, rfl, hA⟩, hb1⟩
    have hr1 := HR.out.kept (hb1.block _ HR.out.lt)
    have HF1 : Hid (Frm w.heap.size br w w1) := Lib.hid (Frm.of_below hb1)
    have HP := Lib.hid (pass_any w1 br t (t.length - S.length) 0 hr1 (Nat.sub_le _ _) HL.out)
    have HA1 := Lib.hid (And.intro hA hr1)
    clear hb1 hr1 hA HG hc
    go_wp2_with fail
    refine HP.out.mono ?_
    rintro e2 w2 ⟨hf2, hbad, hgood⟩
    obtain ⟨v, rfl, hr2, hv⟩ := hgood rfl
    have hv2 : v = .tuple #[] := hv
    subst hv2
    have HF2 := Lib.hid (HF1.out.trans (hf2.mono HF1.out.size))
    have HR2 := Lib.hid hr2
    have HA2 : Hid (DAt w2 A l) := Lib.hid (dat_off HA1.out.1 HA1.out.2 hf2)
    clear hbad hgood hr2 hf2 hv HP HA1 HF1
    go_wp2
    go_ret
    exact RdPost.good rfl HF2.out (by have := HR2.out; rwa [HD0.out] at this) ⟨A, cap, rfl, HA2.out⟩
  · rw [if_pos he] at HG
    dsimp only at HG
    have HE0 := Lib.hid he
    clear he
    go_enter Tryz.func55, Tryz.ntmps55
    go_wp2_with fail
    refine HG.out.mono ?_
    rintro e1 w1 ⟨v, rfl, ⟨A, cap, rfl, hA⟩, hb1⟩
    have hr1 := HR.out.kept (hb1.block _ HR.out.lt)
    have HF1 : Hid (Frm w.heap.size br w w1) := Lib.hid (Frm.of_below hb1)
    have HP := Lib.hid (pass_any w1 br t 0 e hr1 (Nat.zero_le _) HL.out)
    clear hb1 hr1 hA HG hc
    go_wp2_with fail
    refine HP.out.mono ?_
    rintro e2 w2 ⟨hf2, hbad, hgood⟩
    obtain rfl := hbad HE0.out
    have HF2 := Lib.hid (HF1.out.trans (hf2.mono HF1.out.size))
    clear hbad hgood hf2 HP HF1
    go_wp2
    exact ⟨rfl, RdPost.bad HE0.out rfl HF2.out⟩

/-- Between two things that are read: the reader, and the row that grows. -/
structure Gg (O : World → Prop) (w : World) (br : Nat) (r : List UInt8) (W : World) : Prop where
  rd : RdAt W br r
  own : O W
  frm : Frm w.heap.size br w W
  lt : br < w.heap.size
/-- What holds while no block since the beginning turns. -/
def Holds (O : World → Prop) (B : Nat) : Prop := ∀ W W' : World, (∀ g, B ≤ g → g < W.heap.size → W'.heap[g]? = W.heap[g]?) → O W → O W'
theorem Gg.next {O : World → Prop} {w W W' : World} {br : Nat} {r r' : List UInt8} (h : Gg O w br r W) (hO : Holds O w.heap.size) (hr : RdAt W' br r') (hf : Frm W.heap.size br W W') : Gg O w br r' W' := by
  have e1 := h.lt
  exact ⟨hr, hO _ _ (fun g hg hl => hf.block g hl (by omega)) h.own, h.frm.trans (hf.mono h.frm.size), e1⟩
theorem Gg.below {O : World → Prop} {w W W' : World} {br : Nat} {r : List UInt8} (h : Gg O w br r W) (hO : Holds O w.heap.size) (hb : Below W.heap.size W W') : Gg O w br r W' :=
  h.next hO (h.rd.kept (hb.block _ h.rd.lt)) (Frm.of_below hb)
theorem Gg.box {O : World → Prop} {w W : World} {br : Nat} {r : List UInt8} (h : Gg O w br r W) (hO : Holds O w.heap.size) (o : Obj) : Gg O w br r (W.alloc o) := h.below hO ((Below.refl _ _).alloc (Nat.le_refl _) _)
theorem Gg.app {O O2 : World → Prop} {w W W2 : World} {br : Nat} {r : List UInt8} {row : Option Nat} (h : Gg O w br r W) (h2 : O2 W2) (hg : W.grownBy W2 row) (hr : ∀ k, row = some k → w.heap.size ≤ k) : Gg O2 w br r W2 := by
  have e1 := h.lt
  refine ⟨h.rd.kept (hg.block br h.rd.lt (fun e => ?_)), h2, h.frm.grown hg h.frm.size (fun k e => .inl (hr k e)), e1⟩
  have := hr _ e.symm
  omega
theorem holdsJ (B : Nat) (v : Value) (l : List De) : Holds (fun W => OwnJ W B v l) B := fun W W' hk h => h.keep fun g hg => hk g (h.lt hg).1 (h.lt hg).2
theorem holdsV (B : Nat) (v : Value) (l : List (List (List De))) : Holds (fun W => OwnV W B v l) B := fun W W' hk h => h.hold hk
theorem holdsF (B : Nat) (v : Value) (l : List Fn) : Holds (fun W => OwnF W B v l) B := fun W W' hk h => h.hold hk
theorem okp_in {O : World → Prop} {w W : World} {br : Nat} {r : List UInt8} (h : Gg O w br r W) (hw : Okp w) (hp : Past br) : Okp W := hw.frm hp h.frm h.lt

/-- The row of instructions that is made. -/
def mkJ (m : Nat) : Obj := .cells (madeCells (Value.agg #[.int .i64 0, .int .i64 0, .int .i64 0]).cells (m * 3)) 51
theorem run_mkJ (m : Nat) (hm : m ≤ 200) (W : World) : (Instr.makeSlice 47 (.int .i64 0) (.int .i64 (m : Int))).run Tryz.prog W = .ok (.slice (some ⟨W.heap.size, 0, none⟩) 0 m) (W.alloc (mkJ m)) := by
  obtain ⟨i, hi, hz0, hz1, hz2⟩ := info_parts infoJ
  have h := run_make (P := Tryz.prog) W 47 51 i _ Tryz.underlying47 hi hz0 .i64 .i64 0 (m : Int) (by omega) (by omega) (by rw [hz2]; omega) (by omega)
  rw [hz1, Int.toNat_natCast, Int.toNat_zero] at h
  exact h
theorem gj_new {w W : World} {br : Nat} {r : List UInt8} (m : Nat) (hm : m ≤ 200) (hr : RdAt W br r) (hf : Frm w.heap.size br w W) (hlt : br < w.heap.size) : Gg (fun Z => OwnJ Z w.heap.size (.slice (some ⟨W.heap.size, 0, none⟩) 0 m) []) w br r (W.alloc (mkJ m)) := by
  have hb : Below W.heap.size W (W.alloc (mkJ m)) := (Below.refl _ _).alloc (Nat.le_refl _) _
  exact ⟨hr.kept (hb.block _ hr.lt), World.ownsRow_made W _ m hf.size (by unfold maxLen; omega) (size_madeCells _ _), hf.trans (Frm.of_below (hb.mono hf.size)), hlt⟩

/-- The instructions of a function that are read. -/
def rdCode (s : St) : List De × St × Nat := if (rdMany s 200).2.2 ≠ 0 then ([], (rdMany s 200).2.1, (rdMany s 200).2.2) else rdAll rdIns (rdMany s 200).2.1 (rdMany s 200).1
def CodeVal (l : List De) : World → Value → World → Prop := fun w v w' => OwnJ w' w.heap.size v l
theorem rdIns_drop {r : List UInt8} (h : (rdIns ⟨r, 0⟩).2.2 = 0) : r.drop (r.length - (rdIns ⟨r, 0⟩).2.1.rest.length) = (rdIns ⟨r, 0⟩).2.1.rest ∧ (rdIns ⟨r, 0⟩).2.1.err = 0 ∧ (rdIns ⟨r, 0⟩).2.1.rest.length ≤ r.length := by
  obtain ⟨h1, h2⟩ := readI_once h
  have h3 : r = _ ++ (rdIns ⟨r, 0⟩).2.1.rest := h1
  refine ⟨drop_of_app h3, h2, ?_⟩
  have h4 := congrArg List.length h3
  rw [List.length_append] at h4
  omega
def insBox (o a b : Int) : Obj := .cells #[.int .i64 o, .int .i64 a, .int .i64 b] 51
theorem insBox_at (w : World) (o a b : Int) : (w.alloc (insBox o a b)).cell? ⟨w.heap.size, 0, none⟩ = some (.int .i64 o) ∧ (w.alloc (insBox o a b)).cell? ⟨w.heap.size, 1, none⟩ = some (.int .i64 a) ∧ (w.alloc (insBox o a b)).cell? ⟨w.heap.size, 2, none⟩ = some (.int .i64 b) := by
  unfold World.cell?
  rw [heap_alloc_new w (insBox o a b)]
  exact ⟨rfl, rfl, rfl⟩

set_option maxRecDepth 100000 in
set_option maxHeartbeats 8000000 in
theorem code_rd (w : World) (br : Nat) (t : List UInt8) (hr : RdAt w br t) (hl : t.length ≤ 140737489403904) (hok : Okp w) (hp : Past br) :
    Calls Tryz.prog 85 #[.pointer (some ⟨br, 0, none⟩)] w (RdPost br (rdCode ⟨t, 0⟩).2.2 (rdCode ⟨t, 0⟩).2.1.rest (CodeVal (rdCode ⟨t, 0⟩).1) w) := by
  have hlt := hr.lt
  have HN := Lib.hid (count_rd w br t 200 (by decide) hr hl)
  have hX : (rdMany ⟨t, 0⟩ 200).2.2 = 0 → (rdMany ⟨t, 0⟩ 200).2.1.err = 0 ∧ (rdMany ⟨t, 0⟩ 200).1 ≤ 200 ∧ (rdMany ⟨t, 0⟩ 200).2.1.rest.length ≤ 140737489403904 := fun h => by
    obtain ⟨h1, h2, h3⟩ := rdMany_once h
    have h4 := congrArg List.length h1
    rw [List.length_append] at h4
    exact ⟨h2, h3, by omega⟩
  obtain ⟨q, hq⟩ : ∃ q, q = rdCode ⟨t, 0⟩ := ⟨_, rfl⟩
  rw [← hq]
  unfold rdCode at hq
  have HW := Lib.hid (And.intro hok hp)
  clear hr hl hok hp
  generalize rdMany ⟨t, 0⟩ 200 = N at *
  obtain ⟨n, ⟨r0, er⟩, e⟩ := N
  dsimp only at HN hX hq
  by_cases he : e = 0
  · subst he
    obtain ⟨h1, hn, hl1⟩ := hX rfl
    subst h1
    rw [if_neg (by decide)] at hq
    have HQ := Lib.hid hq
    clear hX hq
    have hmk := run_mkJ n hn
    have HStop : Hid (∀ j, j < n → ∀ (ls : List De) (S T : St) (x : De) (e : Nat), rdAll rdIns ⟨r0, 0⟩ j = (ls, S, 0) → rdIns S = (x, T, e) → e ≠ 0 → rdAll rdIns ⟨r0, 0⟩ n = ([], T, e)) := Lib.hid (fun j hj ls S T x e h1 h2 h3 => rdAll_stop hj h1 h2 h3)
    go_enter Tryz.func85, Tryz.ntmps85
    go_wp2_with fail
    refine HN.out.mono ?_
    rintro e w1 ⟨hf1, hbad, hgood⟩
    obtain ⟨v, rfl, hr1, hv⟩ := hgood rfl
    have hv2 : v = .int .i64 (n : Int) := hv
    subst hv2
    have HG0 := Lib.hid (gj_new n hn hr1 hf1 hlt)
    clear hbad hgood hr1 hf1 hv HN
    go_wp2_with fail
    generalize w1.alloc (mkJ n) = W2 at *
    generalize w1.heap.size = g0 at *
    go_loopw [4, 13] (fun v i wr => ∃ (j : Nat) (ls : List De) (r : List UInt8), j ≤ n ∧ i = .int .i64 (j : Int) ∧ Hid (rdAll rdIns ⟨r0, 0⟩ j = (ls, ⟨r, 0⟩, 0)) ∧ Hid (Gg (fun Z => OwnJ Z w.heap.size v ls) w br r wr) ∧ Hid (r.length ≤ 140737489403904)) (fun _ i _ => n - (intOf i).toNat)
    case atStart => exact ⟨0, [], r0, Nat.zero_le _, rfl, Lib.hid rfl, HG0, Lib.hid hl1⟩
    case round =>
      obtain ⟨j, ls, r, hj, rfl, HL, HG, HO⟩ := hrel
      have hlen : ls.length = j := by have := rdAll_length j (by rw [HL.out] : (rdAll rdIns ⟨r0, 0⟩ j).2.2 = 0); rwa [HL.out] at this
      obtain ⟨A, cap, hv⟩ := HG.out.own.slice
      rw [hlen] at hv
      subst hv
      by_cases hlt2 : j < n
      · have hlt' : (j : Int) < (n : Int) := by omega
        have hc := HG.out.rd.cell
        have HI := Lib.hid (Go.Proofs.YtahejekcfgkiaaaGreatDoor.inst.get_any ⟨r.toArray⟩ wr (by rw [size_mk]; exact HO.out) (okp_in HG.out HW.out.1 HW.out.2).ins)
        rw [rd_text] at HI
        unfold Go.Proofs.YtahejekcfgkiaaaGreatDoor.inst.GotPost at HI
        rw [Go.Proofs.YtahejekcfgkiaaaGreatDoor.inst.got_read] at HI
        have hdr := rdIns_drop (r := r)
        obtain ⟨y, hy⟩ : ∃ y, y = rdIns ⟨r, 0⟩ := ⟨_, rfl⟩
        have HY := Lib.hid hy
        have hy1 : (Go.Proofs.YtahejekcfgkiaaaGreatDoor.inst.readI ⟨r, 0⟩) = ⟨y.1.1, y.1.2.1, y.1.2.2, y.2.1, y.2.2⟩ := by rw [hy]; rfl
        rw [hy1] at HI
        rw [← hy] at hdr
        clear hy hy1
        obtain ⟨⟨o, a, b⟩, ⟨r1, er1⟩, e⟩ := y
        dsimp only at HI hdr
        by_cases he : e = 0
        · subst he
          obtain ⟨hd1, hz1, hl2⟩ := hdr rfl
          subst hz1
          rw [if_neg (by decide)] at HI
          dsimp only at HI
          have HQ1 := Lib.hid (rdAll_next HL.out HY.out.symm)
          have HD1 := Lib.hid hd1
          have HO2 : Hid (r1.length ≤ 140737489403904) := Lib.hid (by have := HO.out; omega)
          clear hdr hd1 hl2 HL HY HStop HQ
          go_wp2_with fail
          refine HI.out.mono ?_
          rintro e1 w3 ⟨rfl, hb3⟩
          have HG3 := Lib.hid (HG.out.below (holdsJ _ _ _) hb3)
          have HG4 := Lib.hid (HG3.out.box (holdsJ _ _ _) (insBox o a b))
          have HDd : Hid (br < w3.heap.size ∧ w3.heap.size < (w3.alloc (insBox o a b)).heap.size) := Lib.hid ⟨HG3.out.rd.lt, by rw [World.size_alloc]; omega⟩
          have hbx := insBox_at w3 o a b
          clear hb3 HG HI hc HG3
          unfold insBox at HG4 hbx HDd
          go_upto_region 6 with fail
          generalize w3.alloc (.cells #[.int .i64 o, .int .i64 a, .int .i64 b] 51) = W4 at *
          generalize w3.heap.size = d at *
          obtain ⟨c0, c1, c2⟩ := hbx
          have HPs := Lib.hid (pass_any W4 br r (r.length - r1.length) 0 HG4.out.rd (Nat.sub_le _ _) HO.out)
          go_wp2_with fail
          refine HPs.out.mono ?_
          rintro e2 w5 ⟨hf5, hbad, hgood⟩
          obtain ⟨v, rfl, hr5, hv⟩ := hgood rfl
          have hv2 : v = .tuple #[] := hv
          subst hv2
          rw [HD1.out] at hr5
          have hk5 := hf5.block d HDd.out.2 (by have := HDd.out.1; omega)
          have d0 := (World.cell?_of_block (a := ⟨d, 0, none⟩) hk5).trans c0
          have d1 := (World.cell?_of_block (a := ⟨d, 1, none⟩) hk5).trans c1
          have d2 := (World.cell?_of_block (a := ⟨d, 2, none⟩) hk5).trans c2
          have HG5 := Lib.hid (HG4.out.next (holdsJ _ _ _) hr5 hf5)
          have hown1 : OwnJ (w5.alloc (insBox o a b)) w.heap.size (.slice A j cap) ls := (HG5.out.box (holdsJ _ _ _) (insBox o a b)).own
          have hone : DAt (w5.alloc (insBox o a b)) (some ⟨w5.heap.size, 0, none⟩) [(o, a, b)] := DAt.oneJ (d := (o, a, b)) (heap_alloc_new w5 _)
          have hbase : w.heap.size ≤ w5.heap.size := HG5.out.frm.size
          have Hap := fun (v2 : Value) (W2 : World) (h1 : OwnJ W2 w.heap.size v2 (ls ++ [(o, a, b)])) (h2 : (w5.alloc (insBox o a b)).grownBy W2 (Value.slice A j cap).ownBlock) => (HG5.out.box (holdsJ _ _ _) (insBox o a b)).app (O2 := fun Z => OwnJ Z w.heap.size v2 (ls ++ [(o, a, b)])) h1 h2 (fun k e => (HG5.out.own.lt e).1)
          unfold insBox at hown1 hone Hap
          clear hbad hgood hr5 hf5 hv hk5 c0 c1 c2 HPs HG4 HDd HD1
          go_wp2_with (
            at_builtin
            refine wpList_appJ (by rfl) (.tmp 28) (.tmp 30) (by rfl) w.heap.size 1 1 (.slice A j cap) (some ⟨w5.heap.size, 0, none⟩) ls [(o, a, b)] (by rfl) hown1 (by rfl) rfl (fun h => by cases h) hone (by simp; omega) (by simp; omega) ?_)
          intro v2 W5 hv2 hg2
          have HG6 := Lib.hid (Hap v2 W5 hv2 ⟨hg2.os, hg2.tape, hg2.output, hg2.size, hg2.block⟩)
          clear hown1 hone hv2 hg2 Hap d0 d1 d2
          go_wp2
          go_roundw
          case rel => exact ⟨j + 1, ls ++ [(o, a, b)], r1, by omega, by go_num, HQ1, HG6, HO2⟩
          case measure => simp [intOf]; omega
        · rw [if_pos he] at HI
          unfold Go.Proofs.YtahejekcfgkiaaaGreatDoor.inst.Got.bad at HI
          dsimp only at HI
          have HV : Hid (q = ([], ⟨r1, er1⟩, e)) := Lib.hid (by rw [HQ.out]; exact HStop.out j hlt2 _ _ _ _ _ HL.out HY.out.symm he)
          have HE0 := Lib.hid he
          clear hdr HL HY HStop HQ he
          go_wp2_with fail
          refine HI.out.mono ?_
          rintro e1 w3 ⟨rfl, hb3⟩
          have HG3 := Lib.hid (HG.out.below (holdsJ _ _ _) hb3)
          have HG4 := Lib.hid (HG3.out.box (holdsJ _ _ _) (insBox 0 0 0))
          clear hb3 HG HI hc HG3
          unfold insBox at HG4
          go_upto_region 6 with fail
          generalize w3.alloc (.cells #[.int .i64 0, .int .i64 0, .int .i64 0] 51) = W4 at *
          generalize w3.heap.size = d at *
          have HPs := Lib.hid (pass_any W4 br r 0 e HG4.out.rd (Nat.zero_le _) HO.out)
          go_wp2_with fail
          refine HPs.out.mono ?_
          rintro e2 w5 ⟨hf5, hbad, hgood⟩
          obtain rfl := hbad HE0.out
          have HF5 := Lib.hid (HG4.out.frm.trans (hf5.mono HG4.out.frm.size))
          clear hbad hgood hf5 HPs HG4
          go_wp2
          exact ⟨rfl, RdPost.bad (by rw [HV.out]; exact HE0.out) (by rw [HV.out]) HF5.out⟩
      · obtain rfl : j = n := by omega
        have HV : Hid (q = (ls, ⟨r, 0⟩, 0)) := Lib.hid (by rw [HQ.out, HL.out])
        clear HL HQ HStop
        go_wp2_with fail
        go_ret
        exact RdPost.good (by rw [HV.out]) HG.out.frm (by rw [HV.out]; exact HG.out.rd) (by rw [HV.out]; exact HG.out.own)
  · rw [if_pos he] at hq
    have HE0 := Lib.hid he
    clear he hX
    subst hq
    go_enter Tryz.func85, Tryz.ntmps85
    go_wp2_with fail
    refine HN.out.mono ?_
    rintro e1 w1 ⟨hf1, hbad, hgood⟩
    obtain rfl := hbad HE0.out
    have HF1 := Lib.hid hf1
    clear hbad hgood hf1 HN
    go_wp2
    exact ⟨rfl, RdPost.bad HE0.out rfl HF1.out⟩
end Go.Proofs.YtahejekcfgkiaaaGreatDoor.pgm

/-
  The waits of a program's bytes, read one behind the other (typed over the code of 4b95722). The tables must lie where their initialisers lay them; texts of at most two to the forty-seventh bytes.
-/
namespace Go.Proofs.YtahejekcfgkiaaaGreatDoor.pgm
open Go.RowKit Go.ChangeShapes
open Go.Proofs.YtahejekcfgkiaaaGreatDoor.octet (St InAt Frm rdNum num size_mk)
open Go.Proofs.YtahejekcfgkiaaaGreatDoor.objs (De zero DAt CellsAt Okd)
open Go.Proofs.YtahejekcfgkiaaaGreatDoor.need (WAt OwnW Oka readW)
set_option linter.unusedVariables false

/-- The row of waits that is made. -/
def mkV (m : Nat) : Obj := .cells (madeCells (Value.slice none 0 0).cells (m * 1)) 45
theorem run_mkV (m : Nat) (hm : m ≤ 200) (W : World) : (Instr.makeSlice 23 (.int .i64 0) (.int .i64 (m : Int))).run Tryz.prog W = .ok (.slice (some ⟨W.heap.size, 0, none⟩) 0 m) (W.alloc (mkV m)) := by
  obtain ⟨i, hi, hz0, hz1, hz2⟩ := info_parts infoV
  have h := run_make (P := Tryz.prog) W 23 45 i _ Tryz.underlying23 hi hz0 .i64 .i64 0 (m : Int) (by omega) (by omega) (by rw [hz2]; omega) (by omega)
  rw [hz1, Int.toNat_natCast, Int.toNat_zero] at h
  exact h
theorem gv_new {w W : World} {br : Nat} {r : List UInt8} (m : Nat) (hm : m ≤ 200) (hr : RdAt W br r) (hf : Frm w.heap.size br w W) (hlt : br < w.heap.size) : Gg (fun Z => OwnV Z w.heap.size (.slice (some ⟨W.heap.size, 0, none⟩) 0 m) []) w br r (W.alloc (mkV m)) := by
  have hb : Below W.heap.size W (W.alloc (mkV m)) := (Below.refl _ _).alloc (Nat.le_refl _) _
  exact ⟨hr.kept (hb.block _ hr.lt), ⟨[], World.ownsRow_made W _ m hf.size (by unfold maxLen; omega) (size_madeCells _ _), fun j hj => absurd hj (Nat.not_lt_zero j)⟩, hf.trans (Frm.of_below (hb.mono hf.size)), hlt⟩
theorem OwnV.lt {w : World} {base g : Nat} {v : Value} {l : List (List (List De))} (h : OwnV w base v l) (hg : v.ownBlock = some g) : base ≤ g := by
  obtain ⟨xs, h1, _⟩ := h
  exact (World.ownsRow.lt h1 g hg).1
theorem OwnF.lt {w : World} {base g : Nat} {v : Value} {l : List Fn} (h : OwnF w base v l) (hg : v.ownBlock = some g) : base ≤ g := by
  obtain ⟨xs, h1, _⟩ := h
  exact (World.ownsRow.lt h1 g hg).1
theorem OwnV.length {w : World} {base n cap : Nat} {A : Option Addr} {l : List (List (List De))} (h : OwnV w base (.slice A n cap) l) : n = l.length := by
  obtain ⟨A2, c2, e⟩ := h.slice
  injection e

/-- The waits of a program that are read, behind its objects. -/
def rdWaits (d : List De) (s : St) : List (List (List De)) × St × Nat := if (rdMany s 32).2.2 ≠ 0 then ([], (rdMany s 32).2.1, (rdMany s 32).2.2) else rdAll (readW d) (rdMany s 32).2.1 (rdMany s 32).1
def WaitsVal (l : List (List (List De))) : World → Value → World → Prop := fun w v w' => OwnV w' w.heap.size v l
theorem readW_drop {d : List De} {r : List UInt8} (hd : (Go.Proofs.YtahejekcfgkiaaaGreatDoor.objs.chk d).2 = 0) (h : (readW d ⟨r, 0⟩).2.2 = 0) : r.drop (r.length - (readW d ⟨r, 0⟩).2.1.rest.length) = (readW d ⟨r, 0⟩).2.1.rest ∧ (readW d ⟨r, 0⟩).2.1.err = 0 ∧ (readW d ⟨r, 0⟩).2.1.rest.length ≤ r.length := by
  obtain ⟨h3, h2⟩ := readW_once hd h
  refine ⟨drop_of_app h3, h2, ?_⟩
  have h4 := congrArg List.length h3
  rw [List.length_append] at h4
  omega

set_option maxRecDepth 100000 in
set_option maxHeartbeats 8000000 in
theorem waits_rd (w : World) (br : Nat) (t : List UInt8) (A0 : Option Addr) (cd : Nat) (d : List De) (hd : (Go.Proofs.YtahejekcfgkiaaaGreatDoor.objs.chk d).2 = 0) (hA : DAt w A0 d) (hr : RdAt w br t) (hl : t.length ≤ 140737489403904) (hok : Okp w) (hp : Past br) :
    Calls Tryz.prog 56 #[.pointer (some ⟨br, 0, none⟩), .slice A0 d.length cd] w (RdPost br (rdWaits d ⟨t, 0⟩).2.2 (rdWaits d ⟨t, 0⟩).2.1.rest (WaitsVal (rdWaits d ⟨t, 0⟩).1) w) := by
  have hlt := hr.lt
  have HN := Lib.hid (count_rd w br t 32 (by decide) hr hl)
  have hX : (rdMany ⟨t, 0⟩ 32).2.2 = 0 → (rdMany ⟨t, 0⟩ 32).2.1.err = 0 ∧ (rdMany ⟨t, 0⟩ 32).1 ≤ 32 ∧ (rdMany ⟨t, 0⟩ 32).2.1.rest.length ≤ 140737489403904 := fun h => by
    obtain ⟨h1, h2, h3⟩ := rdMany_once h
    have h4 := congrArg List.length h1
    rw [List.length_append] at h4
    exact ⟨h2, h3, by omega⟩
  obtain ⟨q, hq⟩ : ∃ q, q = rdWaits d ⟨t, 0⟩ := ⟨_, rfl⟩
  rw [← hq]
  unfold rdWaits at hq
  have HW := Lib.hid (And.intro hok hp)
  have HA := Lib.hid (And.intro hA hr)
  have HD := Lib.hid hd
  clear hr hl hok hp hA hd
  generalize rdMany ⟨t, 0⟩ 32 = N at *
  obtain ⟨n, ⟨r0, er⟩, e⟩ := N
  dsimp only at HN hX hq
  by_cases he : e = 0
  · subst he
    obtain ⟨h1, hn, hl1⟩ := hX rfl
    subst h1
    rw [if_neg (by decide)] at hq
    have HQ := Lib.hid hq
    clear hX hq
    have hmk := run_mkV n (by omega)
    have HStop : Hid (∀ j, j < n → ∀ (ls : List (List (List De))) (S T : St) (x : List (List De)) (e : Nat), rdAll (readW d) ⟨r0, 0⟩ j = (ls, S, 0) → readW d S = (x, T, e) → e ≠ 0 → rdAll (readW d) ⟨r0, 0⟩ n = ([], T, e)) := Lib.hid (fun j hj ls S T x e h1 h2 h3 => rdAll_stop hj h1 h2 h3)
    go_enter Tryz.func56, Tryz.ntmps56
    go_wp2_with fail
    refine HN.out.mono ?_
    rintro e w1 ⟨hf1, hbad, hgood⟩
    obtain ⟨v, rfl, hr1, hv⟩ := hgood rfl
    have hv2 : v = .int .i64 (n : Int) := hv
    subst hv2
    have HG0 := Lib.hid (gv_new n (by omega) hr1 hf1 hlt)
    clear hbad hgood hr1 hf1 hv HN
    go_wp2_with fail
    generalize w1.alloc (mkV n) = W2 at *
    generalize w1.heap.size = g0 at *
    go_loopw [6, 15] (fun v i wr => ∃ (j : Nat) (ls : List (List (List De))) (r : List UInt8), j ≤ n ∧ i = .int .i64 (j : Int) ∧ Hid (rdAll (readW d) ⟨r0, 0⟩ j = (ls, ⟨r, 0⟩, 0)) ∧ Hid (Gg (fun Z => OwnV Z w.heap.size v ls) w br r wr) ∧ Hid (r.length ≤ 140737489403904)) (fun _ i _ => n - (intOf i).toNat)
    case atStart => exact ⟨0, [], r0, Nat.zero_le _, rfl, Lib.hid rfl, HG0, Lib.hid hl1⟩
    case round =>
      obtain ⟨j, ls, r, hj, rfl, HL, HG, HO⟩ := hrel
      have hlen : ls.length = j := by have := rdAll_length j (by rw [HL.out] : (rdAll (readW d) ⟨r0, 0⟩ j).2.2 = 0); rwa [HL.out] at this
      obtain ⟨A, cap, hv⟩ := HG.out.own.slice
      rw [hlen] at hv
      subst hv
      by_cases hlt2 : j < n
      · have hlt' : (j : Int) < (n : Int) := by omega
        have hc := HG.out.rd.cell
        have HI := Lib.hid (Go.Proofs.YtahejekcfgkiaaaGreatDoor.need.get_own A0 cd d HD.out ⟨r.toArray⟩ wr (by rw [size_mk]; exact HO.out) (dat_off HA.out.1 HA.out.2 HG.out.frm) (okp_in HG.out HW.out.1 HW.out.2).need)
        rw [rd_text] at HI
        unfold Go.Proofs.YtahejekcfgkiaaaGreatDoor.need.GotOwn9 Go.Proofs.YtahejekcfgkiaaaGreatDoor.need.getW at HI
        have hdr := readW_drop (r := r) HD.out
        obtain ⟨y, hy⟩ : ∃ y, y = readW d ⟨r, 0⟩ := ⟨_, rfl⟩
        have HY := Lib.hid hy
        rw [← hy] at hdr HI
        clear hy
        obtain ⟨x, ⟨r1, er1⟩, e⟩ := y
        dsimp only at HI hdr
        by_cases he : e = 0
        · subst he
          obtain ⟨hd1, hz1, hl2⟩ := hdr rfl
          subst hz1
          rw [if_neg (by decide)] at HI
          dsimp only at HI
          have HQ1 := Lib.hid (rdAll_next HL.out HY.out.symm)
          have HD1 := Lib.hid hd1
          have HO2 : Hid (r1.length ≤ 140737489403904) := Lib.hid (by have := HO.out; omega)
          clear hdr hd1 hl2 HL HY HStop HQ
          go_wp2_with fail
          refine HI.out.mono ?_
          rintro e1 w3 ⟨vx, rfl, hx3, hb3⟩
          have HG3 := Lib.hid (HG.out.below (holdsV _ _ _) hb3)
          have HX3 := Lib.hid (hx3.base HG.out.frm.size)
          obtain ⟨Ax, cx, hvx⟩ := hx3.slice
          subst hvx
          clear hb3 HG HI hc hx3
          have HPs := Lib.hid (pass_any w3 br r (r.length - r1.length) 0 HG3.out.rd (Nat.sub_le _ _) HO.out)
          go_wp2_with fail
          refine HPs.out.mono ?_
          rintro e2 w5 ⟨hf5, hbad, hgood⟩
          obtain ⟨v, rfl, hr5, hv⟩ := hgood rfl
          have hv2 : v = .tuple #[] := hv
          subst hv2
          rw [HD1.out] at hr5
          have HG5 := Lib.hid (HG3.out.next (holdsV _ _ _) hr5 hf5)
          have hone : OwnW w5 w.heap.size (.slice Ax x.length cx) x := HX3.out.hold fun g hg hl => hf5.block g hl (by have := hlt; omega)
          have hown1 := HG5.out.own
          have hbase : w.heap.size ≤ w5.heap.size := HG5.out.frm.size
          have Hap := fun (v2 : Value) (W2 : World) (h1 : OwnV W2 w.heap.size v2 (ls ++ [x])) (h2 : (w5.alloc (.cells #[.slice Ax x.length cx] 45)).grownBy W2 (Value.slice A j cap).ownBlock) => (HG5.out.box (holdsV _ _ _) (.cells #[.slice Ax x.length cx] 45)).app (O2 := fun Z => OwnV Z w.heap.size v2 (ls ++ [x])) h1 h2 (fun k e => HG5.out.own.lt e)
          clear hbad hgood hr5 hf5 hv HPs HG3 HD1 HX3
          go_wp2_with (
            at_builtin
            refine wpList_appV (w := w5) (by rfl) (.tmp 31) (.tmp 33) (by rfl) w.heap.size 1 (.slice A j cap) _ ls x (by rfl) hown1 (by rfl) hone rfl (by omega) hbase ?_)
          intro v2 W5 hv2 hg2
          have HG6 := Lib.hid (Hap v2 W5 hv2 ⟨hg2.os, hg2.tape, hg2.output, hg2.size, hg2.block⟩)
          clear hown1 hone hv2 hg2 Hap
          go_wp2
          go_roundw
          case rel => exact ⟨j + 1, ls ++ [x], r1, by omega, by go_num, HQ1, HG6, HO2⟩
          case measure => simp [intOf]; omega
        · rw [if_pos he] at HI
          dsimp only at HI
          have HV : Hid (q = ([], ⟨r1, er1⟩, e)) := Lib.hid (by rw [HQ.out]; exact HStop.out j hlt2 _ _ _ _ _ HL.out HY.out.symm he)
          have HE0 := Lib.hid he
          clear hdr HL HY HStop HQ he
          go_wp2_with fail
          refine HI.out.mono ?_
          rintro e1 w3 ⟨vx, rfl, hx3, hb3⟩
          have HG3 := Lib.hid (HG.out.below (holdsV _ _ _) hb3)
          have HPs := Lib.hid (pass_any w3 br r 0 e HG3.out.rd (Nat.zero_le _) HO.out)
          clear hb3 HG HI hc hx3
          go_wp2_with fail
          refine HPs.out.mono ?_
          rintro e2 w5 ⟨hf5, hbad, hgood⟩
          obtain rfl := hbad HE0.out
          have HF5 := Lib.hid (HG3.out.frm.trans (hf5.mono HG3.out.frm.size))
          clear hbad hgood hf5 HPs HG3
          go_wp2
          exact ⟨rfl, RdPost.bad (by rw [HV.out]; exact HE0.out) (by rw [HV.out]) HF5.out⟩
      · obtain rfl : j = n := by omega
        have HV : Hid (q = (ls, ⟨r, 0⟩, 0)) := Lib.hid (by rw [HQ.out, HL.out])
        clear HL HQ HStop
        go_wp2_with fail
        go_ret
        exact RdPost.good (by rw [HV.out]) HG.out.frm (by rw [HV.out]; exact HG.out.rd) (by rw [HV.out]; exact HG.out.own)
  · rw [if_pos he] at hq
    have HE0 := Lib.hid he
    clear he hX
    subst hq
    go_enter Tryz.func56, Tryz.ntmps56
    go_wp2_with fail
    refine HN.out.mono ?_
    rintro e1 w1 ⟨hf1, hbad, hgood⟩
    obtain rfl := hbad HE0.out
    have HF1 := Lib.hid hf1
    clear hbad hgood hf1 HN
    go_wp2
    exact ⟨rfl, RdPost.bad HE0.out rfl HF1.out⟩
end Go.Proofs.YtahejekcfgkiaaaGreatDoor.pgm

/-
  The functions of a program's bytes, read one behind the other (typed over the code of 4b95722). The tables must lie where their initialisers lay them; texts of at most two to the forty-seventh bytes.
-/
namespace Go.Proofs.YtahejekcfgkiaaaGreatDoor.pgm
open Go.RowKit Go.ChangeShapes
open Go.Proofs.YtahejekcfgkiaaaGreatDoor.octet (St InAt Frm rdNum num size_mk rdNum_left)
open Go.Proofs.YtahejekcfgkiaaaGreatDoor.objs (De zero DAt CellsAt Okd cells3 rdNum_err)
open Go.Proofs.YtahejekcfgkiaaaGreatDoor.need (WAt OwnW Oka readW)
set_option linter.unusedVariables false

/-- A function as the program reads it: a great number is two to the thirty-first less one. -/
def rdFnP (s : St) : Fn × St × Nat :=
  if (rdNum (rdNum s).2).2.err ≠ 0 then (Fn.zero, (rdNum (rdNum s).2).2, (rdNum (rdNum s).2).2.err)
  else if (rdCode (rdNum (rdNum s).2).2).2.2 ≠ 0 then (Fn.zero, (rdCode (rdNum (rdNum s).2).2).2.1, (rdCode (rdNum (rdNum s).2).2).2.2)
  else (⟨((min (rdNum s).1 2147483647 : Nat) : Int), ((min (rdNum (rdNum s).2).1 2147483647 : Nat) : Int), (rdCode (rdNum (rdNum s).2).2).1⟩, (rdCode (rdNum (rdNum s).2).2).2.1, 0)
theorem rdFnP_a {s S : St} {a : Nat} (h : rdNum s = (a, S)) (he : S.err ≠ 0) : rdFnP s = (Fn.zero, S, S.err) := by
  unfold rdFnP
  rw [h]
  dsimp only
  rw [rdNum_err he, if_pos he]
theorem rdFnP_b {s S T : St} {a b : Nat} (h : rdNum s = (a, S)) (h2 : rdNum S = (b, T)) (he : T.err ≠ 0) : rdFnP s = (Fn.zero, T, T.err) := by
  unfold rdFnP
  rw [h]
  dsimp only
  rw [h2]
  dsimp only
  rw [if_pos he]
theorem rdFnP_c {s S T U : St} {a b e : Nat} {c : List De} (h : rdNum s = (a, S)) (h2 : rdNum S = (b, T)) (h0 : T.err = 0) (h3 : rdCode T = (c, U, e)) (he : e ≠ 0) : rdFnP s = (Fn.zero, U, e) := by
  unfold rdFnP
  rw [h]
  dsimp only
  rw [h2]
  dsimp only
  rw [h3]
  dsimp only
  rw [if_neg (by omega), if_pos he]
theorem rdFnP_d {s S T U : St} {a b : Nat} {c : List De} (h : rdNum s = (a, S)) (h2 : rdNum S = (b, T)) (h0 : T.err = 0) (h3 : rdCode T = (c, U, 0)) : rdFnP s = (⟨((min a 2147483647 : Nat) : Int), ((min b 2147483647 : Nat) : Int), c⟩, U, 0) := by
  unfold rdFnP
  rw [h]
  dsimp only
  rw [h2]
  dsimp only
  rw [h3]
  dsimp only
  rw [if_neg (by omega), if_neg (by decide)]
theorem rdCode_once {t : List UInt8} (h : (rdCode ⟨t, 0⟩).2.2 = 0) : (rdCode ⟨t, 0⟩).2.1.err = 0 ∧ (rdCode ⟨t, 0⟩).2.1.rest.length ≤ t.length := by
  unfold rdCode at h ⊢
  split at h
  · exact absurd h ‹_›
  · rename_i h1
    rw [if_neg h1]
    obtain ⟨h2, h3, _⟩ := rdMany_once (L := t) (most := 200) (by omega)
    have h4 := congrArg List.length h2
    generalize rdMany ⟨t, 0⟩ 200 = p at *
    obtain ⟨n, ⟨R, E⟩, e⟩ := p
    dsimp only at h h1 h2 h3 h4 ⊢
    subst h3
    obtain ⟨h5, h6⟩ := rdAll_once (rd := rdIns) (e := encIn) (d := zero) (ok := fun _ => True) (fun L2 q2 _ => readI_once q2) n R h (fun _ _ => trivial)
    have h7 := congrArg List.length h5
    rw [List.length_append] at h4 h7
    exact ⟨h6, by omega⟩

/-- The row of functions that is made. -/
def mkF (m : Nat) : Obj := .cells (madeCells (Value.agg #[.int .i64 0, .int .i64 0, .slice none 0 0]).cells (m * 3)) 49
theorem run_mkF (m : Nat) (hm : m ≤ 200) (W : World) : (Instr.makeSlice 24 (.int .i64 0) (.int .i64 (m : Int))).run Tryz.prog W = .ok (.slice (some ⟨W.heap.size, 0, none⟩) 0 m) (W.alloc (mkF m)) := by
  obtain ⟨i, hi, hz0, hz1, hz2⟩ := info_parts infoF
  have h := run_make (P := Tryz.prog) W 24 49 i _ Tryz.underlying24 hi hz0 .i64 .i64 0 (m : Int) (by omega) (by omega) (by rw [hz2]; omega) (by omega)
  rw [hz1, Int.toNat_natCast, Int.toNat_zero] at h
  exact h
theorem gf_new {w W : World} {br : Nat} {r : List UInt8} (m : Nat) (hm : m ≤ 200) (hr : RdAt W br r) (hf : Frm w.heap.size br w W) (hlt : br < w.heap.size) : Gg (fun Z => OwnF Z w.heap.size (.slice (some ⟨W.heap.size, 0, none⟩) 0 m) []) w br r (W.alloc (mkF m)) := by
  have hb : Below W.heap.size W (W.alloc (mkF m)) := (Below.refl _ _).alloc (Nat.le_refl _) _
  exact ⟨hr.kept (hb.block _ hr.lt), ⟨[], World.ownsRow_made W _ m hf.size (by unfold maxLen; omega) (size_madeCells _ _), fun j hj => absurd hj (Nat.not_lt_zero j)⟩, hf.trans (Frm.of_below (hb.mono hf.size)), hlt⟩
def fnObj (x y z : Value) : Obj := .cells #[x, y, z] 49

/-- The functions of a program that are read. -/
def rdFuncs (s : St) : List Fn × St × Nat := if (rdMany s 16).2.2 ≠ 0 then ([], (rdMany s 16).2.1, (rdMany s 16).2.2) else rdAll rdFnP (rdMany s 16).2.1 (rdMany s 16).1
def FuncsVal (l : List Fn) : World → Value → World → Prop := fun w v w' => OwnF w' w.heap.size v l

/-- Within a function that is read: the reader, the function's own box, and what stood before. -/
structure Gb (w3 : World) (br d : Nat) (x y z : Value) (r : List UInt8) (W : World) : Prop where
  rd : RdAt W br r
  box : W.heap[d]? = some (.cells #[x, y, z] 49 (0, 0))
  frm : Frm w3.heap.size br w3 W
  le : w3.heap.size ≤ d
  ne : br < d
theorem Gb.next {w3 W W' : World} {br d : Nat} {x y z : Value} {r r' : List UInt8} (h : Gb w3 br d x y z r W) (hr : RdAt W' br r') (hf : Frm W.heap.size br W W') : Gb w3 br d x y z r' W' := by
  have e1 := h.ne
  exact ⟨hr, (hf.block d (lt_of_block h.box) (by omega)).trans h.box, h.frm.trans (hf.mono h.frm.size), h.le, e1⟩
theorem Gb.set {w3 W : World} {br d : Nat} {x y z x' y' z' : Value} {r : List UInt8} (h : Gb w3 br d x y z r W) (i : Nat) (v : Value) (he : (W.setCell ⟨d, i, none⟩ v).heap[d]? = some (.cells #[x', y', z'] 49 (0, 0))) : Gb w3 br d x' y' z' r (W.setCell ⟨d, i, none⟩ v) := by
  have e1 := h.ne
  exact ⟨h.rd.kept (Below.heap_setCell _ ⟨d, i, none⟩ _ br (by show br ≠ d; omega)), he, h.frm.setCell (p := ⟨d, i, none⟩) (.inr h.le) v, h.le, e1⟩
theorem Gb.set1 {w3 W : World} {br d : Nat} {x y z : Value} {r : List UInt8} (h : Gb w3 br d x y z r W) (v : Value) : Gb w3 br d x v z r (W.setCell ⟨d, 1, none⟩ v) := h.set 1 v (by have := h.box; simp [World.setCell, Array.getElem?_modify, this])
theorem Gb.set2 {w3 W : World} {br d : Nat} {x y z : Value} {r : List UInt8} (h : Gb w3 br d x y z r W) (v : Value) : Gb w3 br d x y v r (W.setCell ⟨d, 2, none⟩ v) := h.set 2 v (by have := h.box; simp [World.setCell, Array.getElem?_modify, this])

set_option maxRecDepth 100000 in
set_option maxHeartbeats 8000000 in
theorem funcs_rd (w : World) (br : Nat) (t : List UInt8) (hr : RdAt w br t) (hl : t.length ≤ 140737489403904) (hok : Okp w) (hp : Past br) :
    Calls Tryz.prog 57 #[.pointer (some ⟨br, 0, none⟩)] w (RdPost br (rdFuncs ⟨t, 0⟩).2.2 (rdFuncs ⟨t, 0⟩).2.1.rest (FuncsVal (rdFuncs ⟨t, 0⟩).1) w) := by
  have hlt := hr.lt
  have HN := Lib.hid (count_rd w br t 16 (by decide) hr hl)
  have hX : (rdMany ⟨t, 0⟩ 16).2.2 = 0 → (rdMany ⟨t, 0⟩ 16).2.1.err = 0 ∧ (rdMany ⟨t, 0⟩ 16).1 ≤ 16 ∧ (rdMany ⟨t, 0⟩ 16).2.1.rest.length ≤ 140737489403904 := fun h => by
    obtain ⟨h1, h2, h3⟩ := rdMany_once h
    have h4 := congrArg List.length h1
    rw [List.length_append] at h4
    exact ⟨h2, h3, by omega⟩
  obtain ⟨q, hq⟩ : ∃ q, q = rdFuncs ⟨t, 0⟩ := ⟨_, rfl⟩
  rw [← hq]
  unfold rdFuncs at hq
  have HW := Lib.hid (And.intro hok hp)
  clear hr hl hok hp
  generalize rdMany ⟨t, 0⟩ 16 = N at *
  obtain ⟨n, ⟨r0, er⟩, e⟩ := N
  dsimp only at HN hX hq
  by_cases he : e = 0
  · subst he
    obtain ⟨h1, hn, hl1⟩ := hX rfl
    subst h1
    rw [if_neg (by decide)] at hq
    have HQ := Lib.hid hq
    clear hX hq
    have hmk := run_mkF n (by omega)
    have HStop : Hid (∀ j, j < n → ∀ (ls : List Fn) (S T : St) (x : Fn) (e : Nat), rdAll rdFnP ⟨r0, 0⟩ j = (ls, S, 0) → rdFnP S = (x, T, e) → e ≠ 0 → rdAll rdFnP ⟨r0, 0⟩ n = ([], T, e)) := Lib.hid (fun j hj ls S T x e h1 h2 h3 => rdAll_stop hj h1 h2 h3)
    go_enter Tryz.func57, Tryz.ntmps57
    go_wp2_with fail
    refine HN.out.mono ?_
    rintro e w1 ⟨hf1, hbad, hgood⟩
    obtain ⟨v, rfl, hr1, hv⟩ := hgood rfl
    have hv2 : v = .int .i64 (n : Int) := hv
    subst hv2
    have HG0 := Lib.hid (gf_new n (by omega) hr1 hf1 hlt)
    clear hbad hgood hr1 hf1 hv HN
    go_wp2_with fail
    generalize w1.alloc (mkF n) = W2 at *
    generalize w1.heap.size = g0 at *
    go_loopw [4, 11] (fun v i wr => ∃ (j : Nat) (ls : List Fn) (r : List UInt8), j ≤ n ∧ i = .int .i64 (j : Int) ∧ Hid (rdAll rdFnP ⟨r0, 0⟩ j = (ls, ⟨r, 0⟩, 0)) ∧ Hid (Gg (fun Z => OwnF Z w.heap.size v ls) w br r wr) ∧ Hid (r.length ≤ 140737489403904)) (fun _ i _ => n - (intOf i).toNat)
    case atStart => exact ⟨0, [], r0, Nat.zero_le _, rfl, Lib.hid rfl, HG0, Lib.hid hl1⟩
    case round =>
      obtain ⟨j, ls, r, hj, rfl, HL, HG, HO⟩ := hrel
      have hlen : ls.length = j := by have := rdAll_length j (by rw [HL.out] : (rdAll rdFnP ⟨r0, 0⟩ j).2.2 = 0); rwa [HL.out] at this
      obtain ⟨A, cap, hv⟩ := HG.out.own.slice
      rw [hlen] at hv
      subst hv
      by_cases hlt2 : j < n
      · have hlt' : (j : Int) < (n : Int) := by omega
        have HNa := Lib.hid (num_rd wr br r HG.out.rd HO.out)
        have hra := rdNum_left ⟨r, 0⟩
        obtain ⟨a, ⟨r1, e1⟩, hNa⟩ : ∃ a S, rdNum ⟨r, 0⟩ = (a, S) := ⟨_, _, rfl⟩
        rw [hNa] at HNa hra
        dsimp only at HNa hra
        have HHa := Lib.hid hNa
        clear hNa
        go_wp2_with fail
        refine HNa.out.mono ?_
        rintro e w3 ⟨hf3, hbad, hgood⟩
        by_cases h1 : e1 = 0
        · subst h1
          obtain ⟨v, rfl, hr3, hv⟩ := hgood rfl
          have hv2 : v = .int .i64 ((min a 2147483647 : Nat) : Int) := hv
          subst hv2
          have HG3 := Lib.hid (HG.out.next (holdsF _ _ _) hr3 hf3)
          have hl3 : r1.length ≤ 140737489403904 := by have := HO.out; omega
          have HRa := Lib.hid hra
          clear hbad hgood hr3 hf3 hv HNa HG hra
          obtain ⟨a', ha'⟩ : ∃ a' : Int, ((min a 2147483647 : Nat) : Int) = a' := ⟨_, rfl⟩
          have HA' := Lib.hid ha'
          rw [ha']
          clear ha'
          have HB4 : Hid (Gb w3 br w3.heap.size (.int .i64 a') (.int .i64 0) (.slice none 0 0) r1 (w3.alloc (fnObj (.int .i64 a') (.int .i64 0) (.slice none 0 0)))) := Lib.hid ⟨HG3.out.rd.kept (Below.heap_alloc _ _ _ HG3.out.rd.lt), heap_alloc_new w3 _, (Frm.refl _ _ _).alloc (Nat.le_refl _) _, Nat.le_refl _, HG3.out.rd.lt⟩
          unfold fnObj at HB4
          go_upto_region 6 with fail
          generalize w3.alloc (.cells #[.int .i64 a', .int .i64 0, .slice none 0 0] 49) = W4 at *
          generalize w3.heap.size = d at *
          have HNb := Lib.hid (num_rd W4 br r1 HB4.out.rd hl3)
          have hrb := rdNum_left ⟨r1, 0⟩
          obtain ⟨b, ⟨r2, e2⟩, hNb⟩ : ∃ b S, rdNum ⟨r1, 0⟩ = (b, S) := ⟨_, _, rfl⟩
          rw [hNb] at HNb hrb
          dsimp only at HNb hrb
          have HHb := Lib.hid hNb
          have HRb := Lib.hid (Nat.le_trans hrb hl3)
          clear hNb hrb hl3
          go_wp2_with fail
          refine HNb.out.mono ?_
          rintro e w5 ⟨hf5, hbad, hgood⟩
          by_cases h2 : e2 = 0
          · subst h2
            obtain ⟨v, rfl, hr5, hv⟩ := hgood rfl
            have hv2 : v = .int .i64 ((min b 2147483647 : Nat) : Int) := hv
            subst hv2
            have HB5 := Lib.hid (HB4.out.next hr5 hf5)
            clear hbad hgood hr5 hf5 hv HNb HB4
            obtain ⟨b', hb'⟩ : ∃ b' : Int, ((min b 2147483647 : Nat) : Int) = b' := ⟨_, rfl⟩
            have HB' := Lib.hid hb'
            rw [hb']
            clear hb'
            obtain ⟨c0, c1, c2, z0, z1, z2⟩ := cells3 HB5.out.box
            have HB6 := Lib.hid (HB5.out.set1 (.int .i64 b'))
            have hk6 : Okp (w5.setCell ⟨d, 1, none⟩ (.int .i64 b')) := HW.out.1.frm HW.out.2 (HG3.out.frm.trans (HB6.out.frm.mono HG3.out.frm.size)) HG3.out.lt
            have HC := Lib.hid (code_rd (w5.setCell ⟨d, 1, none⟩ (.int .i64 b')) br r2 HB6.out.rd HRb.out hk6 HW.out.2)
            have hrc := rdCode_once (t := r2)
            obtain ⟨c, ⟨r3, e3'⟩, e3, hNc⟩ : ∃ c S e, rdCode ⟨r2, 0⟩ = (c, S, e) := ⟨_, _, _, rfl⟩
            rw [hNc] at HC hrc
            dsimp only at HC hrc
            have HHc := Lib.hid hNc
            clear hNc hk6 HB5
            go_upto_region 7 with fail
            generalize w5.setCell ⟨d, 1, none⟩ (.int .i64 b') = W6 at *
            clear c0 c1 c2 z0 z1 z2
            go_wp2_with fail
            refine HC.out.mono ?_
            rintro e w7 ⟨hf7, hbad, hgood⟩
            by_cases h3 : e3 = 0
            · subst h3
              obtain ⟨v, rfl, hr7, hv⟩ := hgood rfl
              have hv7 : OwnJ w7 W6.heap.size v c := hv
              have HB7 := Lib.hid (HB6.out.next hr7 hf7)
              obtain ⟨hz3, hl3⟩ := hrc rfl
              subst hz3
              have HX : Hid (rdFnP ⟨r, 0⟩ = (⟨a', b', c⟩, ⟨r3, 0⟩, 0)) := Lib.hid (by rw [rdFnP_d HHa.out HHb.out rfl HHc.out, HA'.out, HB'.out])
              have HO3 : Hid (r3.length ≤ 140737489403904) := Lib.hid (Nat.le_trans hl3 HRb.out)
              obtain ⟨Av, cv, hve⟩ := hv7.slice
              subst hve
              obtain ⟨c0, c1, c2, z0, z1, z2⟩ := cells3 HB7.out.box
              have HB8 := Lib.hid (HB7.out.set2 (.slice Av c.length cv))
              have HJ8 : Hid (OwnJ (w7.setCell ⟨d, 2, none⟩ (.slice Av c.length cv)) w.heap.size (.slice Av c.length cv) c) := Lib.hid ((hv7.base (by have h1 := HG3.out.frm.size; have h2 := HB6.out.frm.size; omega)).keep fun g hg => Below.heap_setCell _ ⟨d, 2, none⟩ _ g (by have h1 := (hv7.lt hg).1; have h2 := lt_of_block HB6.out.box; show g ≠ d; omega))
              clear hbad hgood hr7 hf7 hv hv7 HC HB6 HB7 hrc hl3
              go_upto_region 8 with fail
              generalize w7.setCell ⟨d, 2, none⟩ (.slice Av c.length cv) = W8 at *
              clear c0 c1 c2 z0 z1 z2
              obtain ⟨c0, c1, c2, z0, z1, z2⟩ := cells3 HB8.out.box
              have HG8 := Lib.hid (HG3.out.next (holdsF _ _ _) HB8.out.rd HB8.out.frm)
              have hown1 := HG8.out.own
              have hone := HJ8.out
              have hbase : w.heap.size ≤ W8.heap.size := HG8.out.frm.size
              have HQ1 := Lib.hid (rdAll_next HL.out HX.out)
              have Hap := fun (v2 : Value) (W2 : World) (h1 : OwnF W2 w.heap.size v2 (ls ++ [⟨a', b', c⟩])) (h2 : (W8.alloc (fnObj (.int .i64 a') (.int .i64 b') (.slice Av c.length cv))).grownBy W2 (Value.slice A j cap).ownBlock) => (HG8.out.box (holdsF _ _ _) (fnObj (.int .i64 a') (.int .i64 b') (.slice Av c.length cv))).app (O2 := fun Z => OwnF Z w.heap.size v2 (ls ++ [⟨a', b', c⟩])) h1 h2 (fun k e => HG8.out.own.lt e)
              unfold fnObj at Hap
              clear HB8 HJ8 HG3 HX HL HQ HStop
              go_wp2_with (
                at_builtin
                refine wpList_appF (w := W8) (by rfl) (.tmp 22) (.tmp 24) (by rfl) w.heap.size 1 (.slice A j cap) (.slice Av c.length cv) ls ⟨a', b', c⟩ (by rfl) hown1 (by rfl) hone rfl (by omega) hbase ?_)
              intro v2 W5 hv2 hg2
              have HG9 := Lib.hid (Hap v2 W5 hv2 ⟨hg2.os, hg2.tape, hg2.output, hg2.size, hg2.block⟩)
              clear hown1 hone hv2 hg2 Hap c0 c1 c2 z0 z1 z2
              go_wp2
              go_roundw
              case rel => exact ⟨j + 1, ls ++ [⟨a', b', c⟩], r3, by omega, by go_num, HQ1, HG9, HO3⟩
              case measure => simp [intOf]; omega
            · obtain rfl := hbad h3
              have HX : Hid (rdFnP ⟨r, 0⟩ = (Fn.zero, ⟨r3, e3'⟩, e3)) := Lib.hid (rdFnP_c HHa.out HHb.out rfl HHc.out h3)
              have HV : Hid (q = ([], ⟨r3, e3'⟩, e3)) := Lib.hid (by rw [HQ.out]; exact HStop.out j hlt2 _ _ _ _ _ HL.out HX.out h3)
              have HE0 := Lib.hid h3
              have HF7 : Hid (Frm w.heap.size br w w7) := Lib.hid ((HG3.out.frm.trans (HB6.out.frm.mono HG3.out.frm.size)).trans (hf7.mono (by have h1 := HG3.out.frm.size; have h2 := HB6.out.frm.size; omega)))
              clear hbad hgood hf7 HC HB6 hrc HX HL HQ HStop h3
              go_wp2
              exact ⟨rfl, RdPost.bad (by rw [HV.out]; exact HE0.out) (by rw [HV.out]) HF7.out⟩
          · obtain rfl := hbad h2
            have HX : Hid (rdFnP ⟨r, 0⟩ = (Fn.zero, ⟨r2, e2⟩, e2)) := Lib.hid (rdFnP_b HHa.out HHb.out h2)
            have HV : Hid (q = ([], ⟨r2, e2⟩, e2)) := Lib.hid (by rw [HQ.out]; exact HStop.out j hlt2 _ _ _ _ _ HL.out HX.out h2)
            have HE0 := Lib.hid h2
            have HF5 : Hid (Frm w.heap.size br w w5) := Lib.hid ((HG3.out.frm.trans (HB4.out.frm.mono HG3.out.frm.size)).trans (hf5.mono (by have h1 := HG3.out.frm.size; have h2 := HB4.out.frm.size; omega)))
            clear hbad hgood hf5 HNb HB4 HX HL HQ HStop h2
            go_wp2
            exact ⟨rfl, RdPost.bad (by rw [HV.out]; exact HE0.out) (by rw [HV.out]) HF5.out⟩
        · obtain rfl := hbad h1
          have HX : Hid (rdFnP ⟨r, 0⟩ = (Fn.zero, ⟨r1, e1⟩, e1)) := Lib.hid (rdFnP_a HHa.out h1)
          have HV : Hid (q = ([], ⟨r1, e1⟩, e1)) := Lib.hid (by rw [HQ.out]; exact HStop.out j hlt2 _ _ _ _ _ HL.out HX.out h1)
          have HE0 := Lib.hid h1
          have HF3 : Hid (Frm w.heap.size br w w3) := Lib.hid (HG.out.frm.trans (hf3.mono HG.out.frm.size))
          clear hbad hgood hf3 HNa HX HL HQ HStop h1
          go_wp2
          exact ⟨rfl, RdPost.bad (by rw [HV.out]; exact HE0.out) (by rw [HV.out]) HF3.out⟩
      · obtain rfl : j = n := by omega
        have HV : Hid (q = (ls, ⟨r, 0⟩, 0)) := Lib.hid (by rw [HQ.out, HL.out])
        clear HL HQ HStop
        go_wp2_with fail
        go_ret
        exact RdPost.good (by rw [HV.out]) HG.out.frm (by rw [HV.out]; exact HG.out.rd) (by rw [HV.out]; exact HG.out.own)
  · rw [if_pos he] at hq
    have HE0 := Lib.hid he
    clear he hX
    subst hq
    go_enter Tryz.func57, Tryz.ntmps57
    go_wp2_with fail
    refine HN.out.mono ?_
    rintro e1 w1 ⟨hf1, hbad, hgood⟩
    obtain rfl := hbad HE0.out
    have HF1 := Lib.hid hf1
    clear hbad hgood hf1 HN
    go_wp2
    exact ⟨rfl, RdPost.bad HE0.out rfl HF1.out⟩
end Go.Proofs.YtahejekcfgkiaaaGreatDoor.pgm

/-
  How the bytes of a program begin, as strings.CutPrefix tells it. No condition.
-/
namespace Go.Proofs.YtahejekcfgkiaaaGreatDoor.pgm
open Go.RowKit Go.ChangeShapes
open Go.Proofs.YtahejekcfgkiaaaGreatDoor.octet (St InAt Frm size_mk extract_mk)
set_option linter.unusedVariables false

theorem has_any (t : List UInt8) (w : World) : Calls Tryz.prog 96 #[.string ⟨t.toArray⟩, .string ⟨#[76, 74, 1]⟩] w fun e w' => e = .returned (.bool (decide (t.take 3 = [76, 74, 1]))) ∧ w = w' := by
  have hsz := size_mk t
  have hsz3 : (⟨#[76, 74, 1]⟩ : ByteArray).size = 3 := rfl
  by_cases h3 : 3 ≤ t.length
  · have q1 : decide ((t.length : Int) ≥ 3) = true := by simp; omega
    have hsl : ∀ W : World, (Instr.slice 9 (.string ⟨t.toArray⟩) none (some (.int .i64 3)) none).run Tryz.prog W = .ok (.string ⟨(t.take 3).toArray⟩) W := fun W => by
      rw [run_slice_string_to_if W 9 ⟨t.toArray⟩ .i64 3 Tryz.underlying9, if_pos ⟨by omega, by rw [hsz]; omega⟩, show (3 : Int).toNat = 3 from rfl, extract_mk, List.drop_zero]
    have hb : decide (t.take 3 = [76, 74, 1]) = (t.take 3 == [76, 74, 1]) := by rw [Bool.eq_iff_iff]; simp
    rw [hb]
    clear hb
    go_enter Tryz.func96, Tryz.ntmps96
    go_wp2
    go_ret
    exact ⟨rfl, rfl⟩
  · have q1 : decide ((t.length : Int) ≥ 3) = false := by simp; omega
    have hne : decide (t.take 3 = [76, 74, 1]) = false := decide_eq_false fun e => by
      have := congrArg List.length e
      simp at this
      omega
    rw [hne]
    go_enter Tryz.func96, Tryz.ntmps96
    go_wp2
    go_ret
    exact ⟨rfl, rfl⟩
def CutPost (t : List UInt8) (w : World) (e : Ending) (w' : World) : Prop :=
  e = .returned (.tuple #[.string ⟨(if t.take 3 = [76, 74, 1] then t.drop 3 else t).toArray⟩, .bool (decide (t.take 3 = [76, 74, 1]))]) ∧ w = w'
theorem cutl_any (t : List UInt8) (w : World) : Calls Tryz.prog 79 #[.string ⟨t.toArray⟩, .string ⟨#[76, 74, 1]⟩] w (CutPost t w) := by
  have hsz := size_mk t
  have hsz3 : (⟨#[76, 74, 1]⟩ : ByteArray).size = 3 := rfl
  have HH := fun W => Lib.hid (has_any t W)
  unfold CutPost
  by_cases h : t.take 3 = [76, 74, 1]
  · have h3 : 3 ≤ t.length := by
      have := congrArg List.length h
      simp at this
      omega
    rw [if_pos h, decide_eq_true h]
    rw [decide_eq_true h] at HH
    have hsl : ∀ W : World, (Instr.slice 9 (.string ⟨t.toArray⟩) (some (.int .i64 3)) none none).run Tryz.prog W = .ok (.string ⟨(t.drop 3).toArray⟩) W := fun W => by
      rw [run_slice_string_from_if W 9 ⟨t.toArray⟩ .i64 3 Tryz.underlying9, if_pos ⟨by omega, by rw [hsz]; omega⟩, show (3 : Int).toNat = 3 from rfl, hsz, extract_mk, List.take_length]
    clear h h3
    go_enter Tryz.func79, Tryz.ntmps79
    go_wp2_with fail
    refine (HH _).out.mono ?_
    rintro e w1 ⟨rfl, rfl⟩
    go_wp2
    go_ret2
    exact ⟨rfl, rfl⟩
  · rw [if_neg h, decide_eq_false h]
    rw [decide_eq_false h] at HH
    clear h
    go_enter Tryz.func79, Tryz.ntmps79
    go_wp2_with fail
    refine (HH _).out.mono ?_
    rintro e w1 ⟨rfl, rfl⟩
    go_wp2
    go_ret2
    exact ⟨rfl, rfl⟩
theorem cut_any (t : List UInt8) (w : World) : Calls Tryz.prog 54 #[.string ⟨t.toArray⟩, .string ⟨#[76, 74, 1]⟩] w (CutPost t w) := by
  have HH := fun W => Lib.hid (cutl_any t W)
  unfold CutPost at *
  generalize (if t.take 3 = [76, 74, 1] then t.drop 3 else t) = y at *
  generalize decide (t.take 3 = [76, 74, 1]) = b at *
  go_enter Tryz.func54, Tryz.ntmps54
  go_wp2_with fail
  refine (HH _).out.mono ?_
  rintro e w1 ⟨rfl, rfl⟩
  go_wp2
  go_ret2
  exact ⟨rfl, rfl⟩
end Go.Proofs.YtahejekcfgkiaaaGreatDoor.pgm

/-
  The program whose bytes some are, before it is checked (typed over the code of 4b95722). The tables must lie where their initialisers lay them; texts of at most two to the forty-seventh bytes.
-/
namespace Go.Proofs.YtahejekcfgkiaaaGreatDoor.pgm
open Go.RowKit Go.ChangeShapes
open Go.Proofs.YtahejekcfgkiaaaGreatDoor.octet (St InAt Frm rdNum num size_mk)
open Go.Proofs.YtahejekcfgkiaaaGreatDoor.objs (De zero DAt CellsAt Okd cells3 put3 put3_same put3_far put3_below readL)
open Go.Proofs.YtahejekcfgkiaaaGreatDoor.need (WAt OwnW Oka readW)
set_option linter.unusedVariables false

/-- What getAll reads. -/
def rdProg (t : List UInt8) : Pg × Nat :=
  if t.take 3 ≠ [76, 74, 1] then (Pg.none, 2)
  else if (readL ⟨t.drop 3, 0⟩).2.2 ≠ 0 then (Pg.none, (readL ⟨t.drop 3, 0⟩).2.2)
  else if (rdWaits (readL ⟨t.drop 3, 0⟩).1 (readL ⟨t.drop 3, 0⟩).2.1).2.2 ≠ 0 then (Pg.none, (rdWaits (readL ⟨t.drop 3, 0⟩).1 (readL ⟨t.drop 3, 0⟩).2.1).2.2)
  else if (rdFuncs (rdWaits (readL ⟨t.drop 3, 0⟩).1 (readL ⟨t.drop 3, 0⟩).2.1).2.1).2.2 ≠ 0 then (Pg.none, (rdFuncs (rdWaits (readL ⟨t.drop 3, 0⟩).1 (readL ⟨t.drop 3, 0⟩).2.1).2.1).2.2)
  else if (rdFuncs (rdWaits (readL ⟨t.drop 3, 0⟩).1 (readL ⟨t.drop 3, 0⟩).2.1).2.1).2.1.rest ≠ [] then (Pg.none, 2)
  else (⟨(readL ⟨t.drop 3, 0⟩).1, (rdWaits (readL ⟨t.drop 3, 0⟩).1 (readL ⟨t.drop 3, 0⟩).2.1).1, (rdFuncs (rdWaits (readL ⟨t.drop 3, 0⟩).1 (readL ⟨t.drop 3, 0⟩).2.1).2.1).1⟩, 0)
theorem rdProg_a {t : List UInt8} (h : ¬ t.take 3 = [76, 74, 1]) : rdProg t = (Pg.none, 2) := by unfold rdProg; rw [if_pos h]
theorem rdProg_b {t : List UInt8} {l : List De} {S : St} {e : Nat} (h : t.take 3 = [76, 74, 1]) (h1 : readL ⟨t.drop 3, 0⟩ = (l, S, e)) (he : e ≠ 0) : rdProg t = (Pg.none, e) := by
  unfold rdProg
  rw [h1]
  dsimp only
  rw [if_neg (by simpa using h), if_pos he]
theorem rdProg_c {t : List UInt8} {l : List De} {S T : St} {ws : List (List (List De))} {e : Nat} (h : t.take 3 = [76, 74, 1]) (h1 : readL ⟨t.drop 3, 0⟩ = (l, S, 0)) (h2 : rdWaits l S = (ws, T, e)) (he : e ≠ 0) : rdProg t = (Pg.none, e) := by
  unfold rdProg
  rw [h1]
  dsimp only
  rw [h2]
  dsimp only
  rw [if_neg (by simpa using h), if_neg (by decide), if_pos he]
theorem rdProg_d {t : List UInt8} {l : List De} {S T U : St} {ws : List (List (List De))} {fs : List Fn} {e : Nat} (h : t.take 3 = [76, 74, 1]) (h1 : readL ⟨t.drop 3, 0⟩ = (l, S, 0)) (h2 : rdWaits l S = (ws, T, 0)) (h3 : rdFuncs T = (fs, U, e)) (he : e ≠ 0) : rdProg t = (Pg.none, e) := by
  unfold rdProg
  rw [h1]
  dsimp only
  rw [h2]
  dsimp only
  rw [h3]
  dsimp only
  rw [if_neg (by simpa using h), if_neg (by decide), if_neg (by decide), if_pos he]
theorem rdProg_e {t : List UInt8} {l : List De} {S T U : St} {ws : List (List (List De))} {fs : List Fn} (h : t.take 3 = [76, 74, 1]) (h1 : readL ⟨t.drop 3, 0⟩ = (l, S, 0)) (h2 : rdWaits l S = (ws, T, 0)) (h3 : rdFuncs T = (fs, U, 0)) : rdProg t = if U.rest ≠ [] then (Pg.none, 2) else (⟨l, ws, fs⟩, 0) := by
  unfold rdProg
  rw [h1]
  dsimp only
  rw [h2]
  dsimp only
  rw [h3]
  dsimp only
  rw [if_neg (by simpa using h), if_neg (by decide), if_neg (by decide), if_neg (by decide)]

/-- A program that no block of slices below B bears: such a one may turn, and the program stays. -/
def PFar (B : Nat) (w : World) (v : Value) (p : Pg) : Prop := ∀ (R : Nat) (X Y Z : Option Addr) (n m k c1 c2 c3 : Nat), R < B → w.heap[R]? = some (.cells #[.slice X n c1, .slice Y m c2, .slice Z k c3] 26 (0, 0)) → ∀ W' : World, w.heap.size ≤ W'.heap.size → (∀ g, g ≠ R → W'.heap[g]? = w.heap[g]?) → PAt W' v p
/-- What a call tells that reads a program whole, or panics. -/
def AllP (q : Pg × Nat) (w : World) (e : Ending) (w' : World) : Prop := Below w.heap.size w w' ∧ (q.2 ≠ 0 → e = .panicked (flt q.2)) ∧ (q.2 = 0 → ∃ v, e = .returned v ∧ PAt w' v q.1 ∧ PFar w.heap.size w' v q.1)
theorem AllP.bad {q : Pg × Nat} {w w' : World} {e : Ending} (hq : q.2 ≠ 0) (he : e = .panicked (flt q.2)) (hb : Below w.heap.size w w') : AllP q w e w' := ⟨hb, fun _ => he, fun h => absurd h hq⟩
theorem AllP.good {q : Pg × Nat} {w w' : World} {v : Value} (hq : q.2 = 0) (hv : PAt w' v q.1) (hf : PFar w.heap.size w' v q.1) (hb : Below w.heap.size w w') : AllP q w (.returned v) w' := ⟨hb, fun h => absurd hq h, fun _ => ⟨v, rfl, hv, hf⟩⟩

theorem all_ret {w Z : World} {R : Nat} {q : Pg × Nat} {x y z : Value} {act : Act} (hr : Z.heap[R]? = some (.cells #[x, y, z] 26 (0, 0))) (h2 : act.tmps[2]?.getD undef = .pointer (some ⟨R, 0, none⟩)) (hd : act.defers = [])
    (hq : q.2 = 0) (hv : PAt Z (.agg #[x, y, z]) q.1) (hf : PFar w.heap.size Z (.agg #[x, y, z]) q.1) (hb : Below w.heap.size w Z) : bodyPost Tryz.prog Tryz.f33 (AllP q w) .ret act Z := by
  obtain ⟨x0, x1, x2, _, _, _⟩ := cells3 hr
  refine bodyPost_ret (v := .agg #[x, y, z]) ?_ hd (AllP.good hq hv hf hb)
  simp [results, Tryz.results33, go_sem, h2, x0, x1, x2]
/-- Three numbers in a row lie in no program's block. -/
theorem cells_offP {w : World} {b i P : Nat} {d : De} {A B C : Option Addr} {n m k c1 c2 c3 : Nat} (h : CellsAt w b i d) (hP : w.heap[P]? = some (.cells #[.slice A n c1, .slice B m c2, .slice C k c3] 26 (0, 0))) : b ≠ P := by
  rintro rfl
  have h1 := h.2.2
  unfold World.cell? at h1
  rw [hP] at h1
  have : i + 2 < 3 := by
    rcases Nat.lt_or_ge (i + 2) 3 with h2 | h2
    · exact h2
    · simp [Array.getElem?_eq_none (show (#[Value.slice A n c1, .slice B m c2, .slice C k c3] : Array Value).size ≤ i + 2 from h2)] at h1
  obtain rfl : i = 0 := by omega
  simp at h1
theorem dat_set {w : World} {P i : Nat} {A0 A B C : Option Addr} {n m k c1 c2 c3 : Nat} {l : List De} (h : DAt w A0 l) (hP : w.heap[P]? = some (.cells #[.slice A n c1, .slice B m c2, .slice C k c3] 26 (0, 0))) (v : Value) : DAt (w.setCell ⟨P, i, none⟩ v) A0 l := fun j hj => by
  obtain ⟨b, off, h1, h2, h3⟩ := h j hj
  exact ⟨b, off, h1, by simpa [World.setCell] using h2, h3.keep (Below.heap_setCell _ ⟨P, i, none⟩ _ b (cells_offP h3 hP))⟩

/-- Between the parts of a program that are read: the reader, the program's box, the result's box. -/
structure Ga (w : World) (R br P : Nat) (x y z : Value) (r : List UInt8) (W : World) : Prop where
  rd : RdAt W br r
  box : W.heap[P]? = some (.cells #[x, y, z] 26 (0, 0))
  res : W.heap[R]? = some (.cells #[.slice none 0 0, .slice none 0 0, .slice none 0 0] 26 (0, 0))
  below : Below w.heap.size w W
  lR : w.heap.size ≤ R
  lb : R < br
  lP : br < P
theorem Ga.next {w W W' : World} {R br P : Nat} {x y z : Value} {r r' : List UInt8} (h : Ga w R br P x y z r W) (hr : RdAt W' br r') (hf : Frm W.heap.size br W W') : Ga w R br P x y z r' W' := by
  have h1 := h.lR
  have h2 := h.lb
  have h3 := h.lP
  exact ⟨hr, (hf.block P (lt_of_block h.box) (by omega)).trans h.box, (hf.block R (lt_of_block h.res) (by omega)).trans h.res, h.below.trans ((hf.mono h.below.size).below (by omega) (Nat.le_refl _)), h1, h2, h3⟩
theorem Ga.set {w W : World} {R br P : Nat} {x y z x' y' z' : Value} {r : List UInt8} (h : Ga w R br P x y z r W) (i : Nat) (v : Value) (he : (W.setCell ⟨P, i, none⟩ v).heap[P]? = some (.cells #[x', y', z'] 26 (0, 0))) : Ga w R br P x' y' z' r (W.setCell ⟨P, i, none⟩ v) := by
  have h1 := h.lR
  have h2 := h.lb
  have h3 := h.lP
  exact ⟨h.rd.kept (Below.heap_setCell _ ⟨P, i, none⟩ _ br (by show br ≠ P; omega)), he, (Below.heap_setCell _ ⟨P, i, none⟩ _ R (by show R ≠ P; omega)).trans h.res, h.below.setCell (p := ⟨P, i, none⟩) (by show w.heap.size ≤ P; omega) v, h1, h2, h3⟩
theorem Ga.set1 {w W : World} {R br P : Nat} {x y z : Value} {r : List UInt8} (h : Ga w R br P x y z r W) (v : Value) : Ga w R br P x v z r (W.setCell ⟨P, 1, none⟩ v) := h.set 1 v (by have := h.box; simp [World.setCell, Array.getElem?_modify, this])
theorem Ga.set2 {w W : World} {R br P : Nat} {x y z : Value} {r : List UInt8} (h : Ga w R br P x y z r W) (v : Value) : Ga w R br P x y v r (W.setCell ⟨P, 2, none⟩ v) := h.set 2 v (by have := h.box; simp [World.setCell, Array.getElem?_modify, this])
theorem rdWaits_once {d : List De} {t : List UInt8} (hd : (Go.Proofs.YtahejekcfgkiaaaGreatDoor.objs.chk d).2 = 0) (h : (rdWaits d ⟨t, 0⟩).2.2 = 0) : (rdWaits d ⟨t, 0⟩).2.1.err = 0 ∧ (rdWaits d ⟨t, 0⟩).2.1.rest.length ≤ t.length := by
  unfold rdWaits at h ⊢
  split at h
  · exact absurd h ‹_›
  · rename_i h1
    rw [if_neg h1]
    obtain ⟨h2, h3, _⟩ := rdMany_once (L := t) (most := 32) (by omega)
    have h4 := congrArg List.length h2
    generalize rdMany ⟨t, 0⟩ 32 = p at *
    obtain ⟨n, ⟨R, E⟩, e⟩ := p
    dsimp only at h h1 h2 h3 h4 ⊢
    subst h3
    obtain ⟨h5, h6⟩ := rdAll_once (rd := readW d) (e := Go.Proofs.YtahejekcfgkiaaaGreatDoor.need.encW) (d := []) (ok := fun _ => True) (fun L2 q2 _ => readW_once hd q2) n R h (fun _ _ => trivial)
    have h7 := congrArg List.length h5
    rw [List.length_append] at h4 h7
    exact ⟨h6, by omega⟩

set_option maxRecDepth 100000 in
set_option maxHeartbeats 8000000 in
theorem all_any (t : List UInt8) (w : World) (hl : t.length ≤ 140737489403904) (hok : Okp w) : Calls Tryz.prog 33 #[.string ⟨t.toArray⟩] w (AllP (rdProg t) w) := by
  have HC := fun W => Lib.hid (cut_any t W)
  unfold CutPost at HC
  obtain ⟨q, hq⟩ : ∃ q, q = rdProg t := ⟨_, rfl⟩
  rw [← hq]
  have HQ := Lib.hid hq
  have HK := Lib.hid hok
  have HB0 : Hid (Below w.heap.size w (w.alloc (.cells #[.slice none 0 0, .slice none 0 0, .slice none 0 0] 26))) := Lib.hid ((Below.refl _ w).alloc (Nat.le_refl _) _)
  have HN0 := Lib.hid (heap_alloc_new w (.cells #[.slice none 0 0, .slice none 0 0, .slice none 0 0] 26))
  have HZ0 := Lib.hid (World.size_alloc w (.cells #[.slice none 0 0, .slice none 0 0, .slice none 0 0] 26))
  clear hq hok
  by_cases h : t.take 3 = [76, 74, 1]
  · rw [if_pos h, decide_eq_true h] at HC
    have HT := Lib.hid h
    have hl3 : (t.drop 3).length ≤ 140737489403904 := by rw [List.length_drop]; omega
    have hO1 := readL_once (L := t.drop 3)
    obtain ⟨l, ⟨S, es⟩, e, hL⟩ : ∃ l S e, readL ⟨t.drop 3, 0⟩ = (l, S, e) := ⟨_, _, _, rfl⟩
    have HL := Lib.hid hL
    have hOb := fun W br h1 h2 => objects_rd W br (t.drop 3) h1 hl3 h2
    rw [hL] at hOb hO1
    dsimp only at hOb hO1
    clear hL h
    obtain ⟨u, hu0⟩ : ∃ u, t.drop 3 = u := ⟨_, rfl⟩
    have HU := Lib.hid hu0
    rw [hu0] at HL HC hl3 hO1 hOb
    clear hu0
    go_enter Tryz.func33, Tryz.ntmps33
    go_wp2_with fail
    refine (HC _).out.mono ?_
    rintro e0 w1 ⟨rfl, rfl⟩
    generalize w.alloc (.cells #[.slice none 0 0, .slice none 0 0, .slice none 0 0] 26) = W0 at *
    have HBr : Hid (Below W0.heap.size W0 (W0.alloc (.cells #[.string ⟨u.toArray⟩] 110))) := Lib.hid ((Below.refl _ _).alloc (Nat.le_refl _) _)
    have hrd : RdAt (W0.alloc (.cells #[.string ⟨u.toArray⟩] 110)) W0.heap.size u := heap_alloc_new W0 _
    have hK1 : Okp (W0.alloc (.cells #[.string ⟨u.toArray⟩] 110)) := (HK.out.next HB0.out).next HBr.out
    have HP1 : Hid (Past W0.heap.size) := Lib.hid (HK.out.next HB0.out).past
    have HOb := Lib.hid (hOb _ _ hrd hK1)
    have HR1 := Lib.hid hrd
    have HK1 := Lib.hid hK1
    clear hOb hrd hK1 HC
    go_upto_region 5 with fail
    generalize W0.alloc (.cells #[.string ⟨u.toArray⟩] 110) = W1 at *
    go_wp2_with fail
    refine HOb.out.mono ?_
    rintro e1 w2 ⟨hf2, hbad, hgood⟩
    by_cases he : e = 0
    · subst he
      obtain ⟨v, rfl, hr2, A, cl, rfl, hA2⟩ := hgood rfl
      obtain ⟨hchk, hu, hes⟩ := hO1 rfl
      subst hes
      have hlS : S.length ≤ 140737489403904 := by
        have h4 := congrArg List.length hu
        rw [List.length_append] at h4
        omega
      have HD := Lib.hid hchk
      have HG2 : Hid (Ga w w.heap.size W0.heap.size w2.heap.size (.slice A l.length cl) (.slice none 0 0) (.slice none 0 0) S (w2.alloc (.cells #[.slice A l.length cl, .slice none 0 0, .slice none 0 0] 26))) := Lib.hid (by
        have hR1 : W1.heap[w.heap.size]? = some (.cells #[.slice none 0 0, .slice none 0 0, .slice none 0 0] 26) := (HBr.out.block _ (by rw [HZ0.out]; omega)).trans HN0.out
        have hR2 := (hf2.block w.heap.size (lt_of_block hR1) (by rw [HZ0.out]; omega)).trans hR1
        refine ⟨hr2.kept (Below.heap_alloc _ _ _ hr2.lt), heap_alloc_new w2 _, (Below.heap_alloc _ _ _ (lt_of_block hR2)).trans hR2, ?_, Nat.le_refl _, by rw [HZ0.out]; omega, hr2.lt⟩
        have hb1 : Below w.heap.size w W1 := HB0.out.trans (HBr.out.mono HB0.out.size)
        have hb2 : Below w.heap.size w w2 := hb1.trans ((hf2.mono hb1.size).below HB0.out.size (Nat.le_refl _))
        exact hb2.alloc hb2.size _)
      have HA3 : Hid (DAt (w2.alloc (.cells #[.slice A l.length cl, .slice none 0 0, .slice none 0 0] 26)) A l) := Lib.hid (hA2.next ((Below.refl _ _).alloc (Nat.le_refl _) _))
      clear hbad hgood hr2 hf2 hA2 hO1 hu hchk HOb HBr HR1 HK1 HB0 HN0 HZ0
      go_upto_region 6 with fail
      generalize w2.alloc (.cells #[.slice A l.length cl, .slice none 0 0, .slice none 0 0] 26) = W3 at *
      generalize w2.heap.size = P at *
      generalize W0.heap.size = br at *
      obtain ⟨c0, c1, c2, z0, z1, z2⟩ := cells3 HG2.out.box
      have HWt := Lib.hid (waits_rd W3 br S A cl l HD.out HA3.out HG2.out.rd hlS (HK.out.next HG2.out.below) HP1.out)
      have hO2 := rdWaits_once (t := S) HD.out
      obtain ⟨ws, ⟨T, et⟩, e, hWs⟩ : ∃ ws T e, rdWaits l ⟨S, 0⟩ = (ws, T, e) := ⟨_, _, _, rfl⟩
      have HWs := Lib.hid hWs
      rw [hWs] at HWt hO2
      dsimp only at HWt hO2
      have HlS := Lib.hid hlS
      clear hWs hlS
      go_wp2_with fail
      refine HWt.out.mono ?_
      rintro e2 w4 ⟨hf4, hbad, hgood⟩
      clear c0 c1 c2 z0 z1 z2
      by_cases he : e = 0
      · subst he
        obtain ⟨v, rfl, hr4, hv4⟩ := hgood rfl
        have hv4' : OwnV w4 W3.heap.size v ws := hv4
        obtain ⟨het, hlT⟩ := hO2 rfl
        subst het
        have HlT : Hid (T.length ≤ 140737489403904) := Lib.hid (by
          have h5 := hlT
          have h6 := HlS.out
          omega)
        have HP3 : Hid (P < W3.heap.size) := Lib.hid (lt_of_block HG2.out.box)
        have HG4 := Lib.hid (HG2.out.next hr4 hf4)
        have HA4 := Lib.hid (dat_off HA3.out HG2.out.rd hf4)
        obtain ⟨B, cb, hvv⟩ := hv4'.slice
        subst hvv
        obtain ⟨c0, c1, c2, z0, z1, z2⟩ := cells3 HG4.out.box
        have HG5 := Lib.hid (HG4.out.set1 (.slice B ws.length cb))
        have HA5 := Lib.hid (dat_set (i := 1) HA4.out HG4.out.box (.slice B ws.length cb))
        have HV5 : Hid (OwnV (w4.setCell ⟨P, 1, none⟩ (.slice B ws.length cb)) W3.heap.size (.slice B ws.length cb) ws) := Lib.hid (hv4'.hold fun g hg _ => Below.heap_setCell _ ⟨P, 1, none⟩ _ g (by have := HP3.out; show g ≠ P; omega))
        have HS5 : Hid (W3.heap.size ≤ (w4.setCell ⟨P, 1, none⟩ (.slice B ws.length cb)).heap.size) := Lib.hid (by have := hf4.size; simpa [World.setCell] using this)
        clear hbad hgood hr4 hf4 hv4 hv4' hO2 hlT HWt HG2 HA3 HG4 HA4
        go_upto_region 7 with fail
        generalize w4.setCell ⟨P, 1, none⟩ (.slice B ws.length cb) = W5 at *
        clear c0 c1 c2 z0 z1 z2
        have HFn := Lib.hid (funcs_rd W5 br T HG5.out.rd HlT.out (HK.out.next HG5.out.below) HP1.out)
        obtain ⟨fs, ⟨U, eu⟩, e, hFs⟩ : ∃ fs U e, rdFuncs ⟨T, 0⟩ = (fs, U, e) := ⟨_, _, _, rfl⟩
        have HFs := Lib.hid hFs
        rw [hFs] at HFn
        dsimp only at HFn
        clear hFs
        go_wp2_with fail
        refine HFn.out.mono ?_
        rintro e3 w6 ⟨hf6, hbad, hgood⟩
        by_cases he : e = 0
        · subst he
          obtain ⟨v, rfl, hr6, hv6⟩ := hgood rfl
          have hv6' : OwnF w6 W5.heap.size v fs := hv6
          have HP5 : Hid (P < W5.heap.size) := Lib.hid (lt_of_block HG5.out.box)
          have HG6 := Lib.hid (HG5.out.next hr6 hf6)
          have HA6 := Lib.hid (dat_off HA5.out HG5.out.rd hf6)
          have HV6 : Hid (OwnV w6 W3.heap.size (.slice B ws.length cb) ws) := Lib.hid (HV5.out.hold fun g hg hg2 => hf6.block g hg2 (by have h1 := HP3.out; have h2 := HG5.out.lP; omega))
          obtain ⟨C, cc, hvv⟩ := hv6'.slice
          subst hvv
          obtain ⟨c0, c1, c2, z0, z1, z2⟩ := cells3 HG6.out.box
          have HG7 := Lib.hid (HG6.out.set2 (.slice C fs.length cc))
          have HA7 := Lib.hid (dat_set (i := 2) HA6.out HG6.out.box (.slice C fs.length cc))
          have HV7 : Hid (OwnV (w6.setCell ⟨P, 2, none⟩ (.slice C fs.length cc)) W3.heap.size (.slice B ws.length cb) ws) := Lib.hid (HV6.out.hold fun g hg _ => Below.heap_setCell _ ⟨P, 2, none⟩ _ g (by have := HP3.out; show g ≠ P; omega))
          have HF7 : Hid (OwnF (w6.setCell ⟨P, 2, none⟩ (.slice C fs.length cc)) W5.heap.size (.slice C fs.length cc) fs) := Lib.hid (hv6'.hold fun g hg _ => Below.heap_setCell _ ⟨P, 2, none⟩ _ g (by have := HP5.out; show g ≠ P; omega))
          have HE := Lib.hid (rdProg_e HT.out (by rw [HU.out]; exact HL.out) HWs.out HFs.out)
          clear hbad hgood hr6 hf6 hv6 hv6' HFn HG5 HA5 HV5 HG6 HA6 HV6
          go_upto_region 8 with fail
          generalize w6.setCell ⟨P, 2, none⟩ (.slice C fs.length cc) = W7 at *
          clear c0 c1 c2 z0 z1 z2
          have hc := HG7.out.rd.cell
          by_cases hU : U = []
          · subst hU
            have HV : Hid (q = (⟨l, ws, fs⟩, 0)) := Lib.hid (by rw [HQ.out]; have := HE.out; simpa using this)
            obtain ⟨c0, c1, c2, z0, z1, z2⟩ := cells3 HG7.out.box
            obtain ⟨r0, r1, r2, y0, y1, y2⟩ := cells3 HG7.out.res
            have HDz : Hid (DAt (put3 W7 w.heap.size (.slice A l.length cl) (.slice B ws.length cb) (.slice C fs.length cc)) A l) := Lib.hid (fun j hj => by
              obtain ⟨b, off, q1, q2, q3⟩ := HA7.out j hj
              exact ⟨b, off, q1, by simpa [World.setCell] using q2, q3.keep (put3_far (cells_offP q3 HG7.out.res) _ _ _)⟩)
            have HVz : Hid (OwnV (put3 W7 w.heap.size (.slice A l.length cl) (.slice B ws.length cb) (.slice C fs.length cc)) W3.heap.size (.slice B ws.length cb) ws) := Lib.hid (HV7.out.hold fun g hg _ => put3_far (by have h1 := HG7.out.lb; have h2 := HG7.out.lP; have h3 := HP3.out; omega) _ _ _)
            have HFz : Hid (OwnF (put3 W7 w.heap.size (.slice A l.length cl) (.slice B ws.length cb) (.slice C fs.length cc)) W5.heap.size (.slice C fs.length cc) fs) := Lib.hid (HF7.out.hold fun g hg _ => put3_far (by have h1 := HG7.out.lb; have h2 := HG7.out.lP; have h4 := HP5.out; omega) _ _ _)
            have HPA : Hid (PAt (put3 W7 w.heap.size (.slice A l.length cl) (.slice B ws.length cb) (.slice C fs.length cc)) (.agg #[.slice A l.length cl, .slice B ws.length cb, .slice C fs.length cc]) ⟨l, ws, fs⟩) := Lib.hid ⟨A, B, C, cl, cb, cc, rfl, HDz.out, HVz.out.at, HFz.out.at⟩
            have HPF : Hid (PFar w.heap.size (put3 W7 w.heap.size (.slice A l.length cl) (.slice B ws.length cb) (.slice C fs.length cc)) (.agg #[.slice A l.length cl, .slice B ws.length cb, .slice C fs.length cc]) ⟨l, ws, fs⟩) := Lib.hid (by
              intro R0 X Y Z n m k c1 c2 c3 hR0 hh W' hsz hk
              have h1 := HG7.out.lb
              have h2 := HG7.out.lP
              have h3 := HP3.out
              have h4 := HP5.out
              refine ⟨A, B, C, cl, cb, cc, rfl, fun j hj => ?_, (HVz.out.hold fun g hg _ => hk g (by omega)).at, (HFz.out.hold fun g hg _ => hk g (by omega)).at⟩
              obtain ⟨b, off, q1, q2, q3⟩ := HDz.out j hj
              exact ⟨b, off, q1, Nat.lt_of_lt_of_le q2 hsz, q3.keep (hk b (cells_offP q3 hh))⟩)
            have HRz := Lib.hid (put3_same HG7.out.res (.slice A l.length cl) (.slice B ws.length cb) (.slice C fs.length cc))
            have HBz := Lib.hid (put3_below HG7.out.below (Nat.le_refl _) (.slice A l.length cl) (.slice B ws.length cb) (.slice C fs.length cc))
            go_wp2_with fail
            exact all_ret HRz.out (by rfl) rfl (by rw [HV.out]) (by rw [HV.out]; exact HPA.out) (by rw [HV.out]; exact HPF.out) HBz.out
          · have HV : Hid (q = (Pg.none, 2)) := Lib.hid (by rw [HQ.out, HE.out, if_pos hU])
            have HBe := Lib.hid HG7.out.below
            have hUe : U.isEmpty = false := by simpa using hU
            clear hU
            go_wp2_with fail
            refine (stop_bad 2 (by decide) _).mono ?_
            rintro e2 w8 ⟨rfl, rfl⟩
            go_wp2
            exact ⟨rfl, AllP.bad (by rw [HV.out]; decide) (by rw [HV.out]) HBe.out⟩
        · obtain rfl := hbad he
          have HV : Hid (q = (Pg.none, e)) := Lib.hid (by rw [HQ.out, rdProg_d HT.out (by rw [HU.out]; exact HL.out) HWs.out HFs.out he])
          have HE0 := Lib.hid he
          have HB6 : Hid (Below w.heap.size w w6) := Lib.hid (HG5.out.below.trans ((hf6.mono HG5.out.below.size).below (by have h1 := HG5.out.lR; have h2 := HG5.out.lb; omega) (Nat.le_refl _)))
          clear hbad hgood hf6 he HFn
          go_wp2
          exact ⟨rfl, AllP.bad (by rw [HV.out]; exact HE0.out) (by rw [HV.out]) HB6.out⟩
      · obtain rfl := hbad he
        have HV : Hid (q = (Pg.none, e)) := Lib.hid (by rw [HQ.out, rdProg_c HT.out (by rw [HU.out]; exact HL.out) HWs.out he])
        have HE0 := Lib.hid he
        have HB4 : Hid (Below w.heap.size w w4) := Lib.hid (HG2.out.below.trans ((hf4.mono HG2.out.below.size).below (by have h1 := HG2.out.lR; have h2 := HG2.out.lb; omega) (Nat.le_refl _)))
        clear hbad hgood hf4 he HWt hO2
        go_wp2
        exact ⟨rfl, AllP.bad (by rw [HV.out]; exact HE0.out) (by rw [HV.out]) HB4.out⟩
    · obtain rfl := hbad he
      have HV : Hid (q = (Pg.none, e)) := Lib.hid (by rw [HQ.out, rdProg_b HT.out (by rw [HU.out]; exact HL.out) he])
      have HE0 := Lib.hid he
      have HB2 : Hid (Below w.heap.size w w2) := Lib.hid (by
        have hb1 : Below w.heap.size w W1 := HB0.out.trans (HBr.out.mono HB0.out.size)
        exact hb1.trans ((hf2.mono hb1.size).below HB0.out.size (Nat.le_refl _)))
      clear hbad hgood hf2 he HOb
      go_wp2
      exact ⟨rfl, AllP.bad (by rw [HV.out]; exact HE0.out) (by rw [HV.out]) HB2.out⟩
  · rw [if_neg h, decide_eq_false h] at HC
    have HV : Hid (q = (Pg.none, 2)) := Lib.hid (by rw [HQ.out, rdProg_a h])
    clear h
    go_enter Tryz.func33, Tryz.ntmps33
    go_wp2_with fail
    refine (HC _).out.mono ?_
    rintro e0 w1 ⟨rfl, rfl⟩
    go_wp2_with fail
    refine (stop_bad 2 (by decide) _).mono ?_
    rintro e2 w2 ⟨rfl, rfl⟩
    go_wp2
    exact ⟨rfl, AllP.bad (by rw [HV.out]; decide) (by rw [HV.out]) HB0.out⟩
end Go.Proofs.YtahejekcfgkiaaaGreatDoor.pgm

/-
  What the program reads is what the document reads: numbers that are too great for it are out of range either way. Plain mathematics; no condition.
-/
namespace Go.Proofs.YtahejekcfgkiaaaGreatDoor.pgm
open Go.Proofs.YtahejekcfgkiaaaGreatDoor.octet (St rdNum)
open Go.Proofs.YtahejekcfgkiaaaGreatDoor.objs (De zero readL rdNum_err)
open Go.Proofs.YtahejekcfgkiaaaGreatDoor.need (readW)
set_option linter.unusedVariables false

/-- A function with its numbers held below two to the thirty-first. -/
def clip (f : Fn) : Fn := ⟨min f.ar 2147483647, min f.lo 2147483647, f.co⟩
theorem rdFnP_clip (s : St) : rdFnP s = (clip (rdFn rdIns s).1, (rdFn rdIns s).2) := by
  unfold rdFnP rdFn rdCode
  dsimp only
  by_cases h1 : (rdNum (rdNum s).2).2.err ≠ 0
  · rw [if_pos h1, if_pos h1]; rfl
  · rw [if_neg h1, if_neg h1]
    by_cases h2 : (rdMany (rdNum (rdNum s).2).2 200).2.2 ≠ 0
    · simp only [if_pos h2]; rfl
    · simp only [if_neg h2]
      by_cases h3 : (rdAll rdIns (rdMany (rdNum (rdNum s).2).2 200).2.1 (rdMany (rdNum (rdNum s).2).2 200).1).2.2 ≠ 0
      · simp only [if_pos h3]; rfl
      · simp only [if_neg h3]
        unfold clip
        dsimp only
        congr 2 <;> omega
theorem rdAll_clip (s : St) : ∀ j, rdAll rdFnP s j = ((rdAll (rdFn rdIns) s j).1.map clip, (rdAll (rdFn rdIns) s j).2) := by
  intro j
  induction j with
  | zero => rfl
  | succ j ih =>
    simp only [rdAll]
    rw [ih]
    dsimp only
    by_cases h1 : (rdAll (rdFn rdIns) s j).2.2 ≠ 0
    · rw [if_pos h1, if_pos h1]
    · rw [if_neg h1, if_neg h1, rdFnP_clip]
      dsimp only
      by_cases h2 : (rdFn rdIns (rdAll (rdFn rdIns) s j).2.1).2.2 ≠ 0
      · rw [if_pos h2, if_pos h2]; rfl
      · rw [if_neg h2, if_neg h2, List.map_append]; rfl
theorem chkFn_clip (f : Fn) : chkFn (clip f) = chkFn f := by
  unfold chkFn clip
  dsimp only
  by_cases h : f.ar < 0 ∨ f.lo < f.ar ∨ 8 < f.lo
  · rw [if_pos h, if_pos (by omega)]
  · rw [if_neg h, if_neg (by omega)]
theorem firstE_clip (l : List Fn) : firstE chkFn (l.map clip) = firstE chkFn l := by
  induction l with
  | nil => rfl
  | cons f l ih => simp only [List.map_cons, firstE, chkFn_clip, ih]
theorem chkP_clip (ds : List De) (ws : List (List (List De))) (fs : List Fn) : chkP ⟨ds, ws, fs.map clip⟩ = chkP ⟨ds, ws, fs⟩ := by
  unfold chkP
  simp only [List.length_map, firstE_clip]
theorem clip_fine {f : Fn} (h : chkFn f = 0) : clip f = f := by
  obtain ⟨⟨h1, h2, h3⟩, _⟩ := chkFn_zero h
  obtain ⟨ar, lo, co⟩ := f
  dsimp only at h1 h2 h3
  unfold clip
  dsimp only
  congr 1 <;> omega
theorem map_clip {ds : List De} {ws : List (List (List De))} {fs : List Fn} (h : chkP ⟨ds, ws, fs⟩ = 0) : fs.map clip = fs := by
  have h6 := (chkP_zero h).2.2.2.2.2
  conv => rhs; rw [← List.map_id fs]
  exact List.map_congr_left fun f hf => clip_fine (h6 f hf)

/-- What the program makes of what it reads is what the document reads. -/
theorem readP_prog (t : List UInt8) : readP rdIns t = if (rdProg t).2 ≠ 0 then (Pg.none, (rdProg t).2) else if chkP (rdProg t).1 ≠ 0 then (Pg.none, chkP (rdProg t).1) else ((rdProg t).1, 0) := by
  unfold readP
  dsimp only
  by_cases h : t.take 3 = [76, 74, 1]
  · rw [if_neg (by simpa using h)]
    obtain ⟨l, S, e, hL⟩ : ∃ l S e, readL ⟨t.drop 3, 0⟩ = (l, S, e) := ⟨_, _, _, rfl⟩
    rw [hL]
    dsimp only
    by_cases he : e ≠ 0
    · rw [if_pos he, rdProg_b h hL he, if_pos he]
    · rw [if_neg he]
      obtain rfl : e = 0 := by omega
      by_cases h1 : (rdMany S 32).2.2 ≠ 0
      · have hW : rdWaits l S = ([], (rdMany S 32).2.1, (rdMany S 32).2.2) := by unfold rdWaits; rw [if_pos h1]
        rw [if_pos h1, rdProg_c h hL hW h1, if_pos h1]
      · rw [if_neg h1]
        have hW : rdWaits l S = rdAll (readW l) (rdMany S 32).2.1 (rdMany S 32).1 := by unfold rdWaits; rw [if_neg h1]
        obtain ⟨ws, T, e2, hA⟩ : ∃ ws T e2, rdAll (readW l) (rdMany S 32).2.1 (rdMany S 32).1 = (ws, T, e2) := ⟨_, _, _, rfl⟩
        rw [hA] at hW ⊢
        dsimp only
        by_cases h2 : e2 ≠ 0
        · rw [if_pos h2, rdProg_c h hL hW h2, if_pos h2]
        · rw [if_neg h2]
          obtain rfl : e2 = 0 := by omega
          by_cases h3 : (rdMany T 16).2.2 ≠ 0
          · have hF : rdFuncs T = ([], (rdMany T 16).2.1, (rdMany T 16).2.2) := by unfold rdFuncs; rw [if_pos h3]
            rw [if_pos h3, rdProg_d h hL hW hF h3, if_pos h3]
          · rw [if_neg h3]
            have hF : rdFuncs T = rdAll rdFnP (rdMany T 16).2.1 (rdMany T 16).1 := by unfold rdFuncs; rw [if_neg h3]
            rw [rdAll_clip] at hF
            obtain ⟨fs, U, e3, hB⟩ : ∃ fs U e3, rdAll (rdFn rdIns) (rdMany T 16).2.1 (rdMany T 16).1 = (fs, U, e3) := ⟨_, _, _, rfl⟩
            rw [hB] at hF ⊢
            dsimp only at hF ⊢
            by_cases h4 : e3 ≠ 0
            · rw [if_pos h4, rdProg_d h hL hW hF h4, if_pos h4]
            · rw [if_neg h4]
              obtain rfl : e3 = 0 := by omega
              rw [rdProg_e h hL hW hF]
              by_cases h5 : U.rest ≠ []
              · rw [if_pos h5, if_pos h5, if_pos (by decide)]
              · rw [if_neg h5, if_neg h5]
                dsimp only
                rw [chkP_clip]
                by_cases h6 : chkP ⟨l, ws, fs⟩ ≠ 0
                · rw [if_pos h6, if_neg (show ¬ (0 : Nat) ≠ 0 by decide), if_pos h6]
                · rw [if_neg h6, if_neg (show ¬ (0 : Nat) ≠ 0 by decide), if_neg h6, map_clip (by omega : chkP ⟨l, ws, fs⟩ = 0)]
  · rw [if_pos (by simpa using h), rdProg_a h, if_pos (by decide)]
end Go.Proofs.YtahejekcfgkiaaaGreatDoor.pgm

/-
  The program whose bytes some are (typed over the code of 4b95722): a fault panics, and is recovered. The tables must lie where their initialisers lay them; texts of at most two to the forty-seventh bytes.
-/
namespace Go.Proofs.YtahejekcfgkiaaaGreatDoor.pgm
open Go.RowKit Go.ChangeShapes
open Go.Proofs.YtahejekcfgkiaaaGreatDoor.octet (St InAt Frm rdNum num size_mk)
open Go.Proofs.YtahejekcfgkiaaaGreatDoor.objs (De zero DAt CellsAt Okd cells3 put3 put3_same put3_far put3_below readL)
set_option linter.unusedVariables false

set_option maxRecDepth 100000 in
set_option maxHeartbeats 1000000 in
theorem catch_panicking (R E c : Nat) (x0 x1 x2 y : Value) (older : List PanicEntry) (w : World) (hR : w.heap[R]? = some (.cells #[x0, x1, x2] 26 (0, 0))) (hE : w.heap[E]? = some (.cells #[y] 29 (0, 0))) (hne : R ≠ E) :
    CallsD Tryz.prog 32 #[.pointer (some ⟨R, 0, none⟩), .pointer (some ⟨E, 0, none⟩)] (.panicking ({ v := .iface 75 (.agg #[.int .i64 (c : Int)]), recovered := false } :: older)) w fun e u' w' =>
      e = .returned (.tuple #[]) ∧ u' = .panicking ({ v := .iface 75 (.agg #[.int .i64 (c : Int)]), recovered := true } :: older) ∧
        w'.heap[R]? = some (.cells #[.slice none 0 0, .slice none 0 0, .slice none 0 0] 26 (0, 0)) ∧ w'.heap[E]? = some (.cells #[.int .i64 (c : Int)] 29 (0, 0)) ∧ (∀ B, B ≤ R → B ≤ E → Below B w w') := by
  have hta : ∀ (v : Value) (W : World), (Instr.typeAssert (.iface 75 v) 20 75 false).run Tryz.prog W = .ok v W := fun v W => by
    simp [Instr.typeAssert, run_underlying Tryz.underlying75]
  have hfd : ∀ W : World, (Instr.field 75 (.agg #[.int .i64 (c : Int)]) 0).run Tryz.prog W = .ok (.int .i64 (c : Int)) W := fun W => by
    simp [Instr.field, run_underlying Tryz.underlying75, go_sem, asAgg, part, Result.andThen]
  obtain ⟨c0, c1, c2, z0, z1, z2⟩ := cells3 hR
  have e0 : w.cell? ⟨E, 0, none⟩ = some y := by simp [World.cell?, hE]
  have y0 : w.frozen? ⟨E, 0, none⟩ = false := by simp [World.frozen?, hE]
  refine callsD_of_wpS Tryz.func32 rfl fun c₀ cs hu => ?_
  apply wpS_seq
  apply wpS_region
  simp [wpOpsS, go_sem, recoverD, hu, Tryz.ntmps32, Exit.thenS]
  refine wpS_of_wp ?_
  go_wp2
  change Code.wp _ _ _ { tmps := #[.pointer (some ⟨R, 0, none⟩), .pointer (some ⟨E, 0, none⟩), .iface 75 (.agg #[.int .i64 (c : Int)]), .iface 75 (.agg #[.int .i64 (c : Int)]), .iface 75 (.agg #[.int .i64 (c : Int)]), .bool true, undef, undef, undef, undef], defers := [] } w
  go_region
  have h1 := put3_same hR (.slice none 0 0) (.slice none 0 0) (.slice none 0 0)
  have h2 : (put3 w R (.slice none 0 0) (.slice none 0 0) (.slice none 0 0)).heap[E]? = some (.cells #[y] 29 (0, 0)) := (put3_far hne.symm _ _ _).trans hE
  refine ⟨rfl, _, rfl, _, by simp [results, Tryz.results32], rfl, rfl, ?_, ?_, ?_⟩
  · exact (Below.heap_setCell _ ⟨E, 0, none⟩ _ R hne).trans h1
  · show ((put3 w R (.slice none 0 0) (.slice none 0 0) (.slice none 0 0)).setCell ⟨E, 0, none⟩ (.int .i64 (c : Int))).heap[E]? = _
    generalize put3 w R (.slice none 0 0) (.slice none 0 0) (.slice none 0 0) = W at *
    simp [World.setCell, Array.getElem?_modify, h2]
  · intro B hBR hBE
    exact ((put3_below (Below.refl B w) hBR _ _ _).setCell (p := ⟨E, 0, none⟩) hBE _).drew

set_option maxRecDepth 100000 in
theorem catch_idle (R E : Nat) (w : World) :
    CallsD Tryz.prog 32 #[.pointer (some ⟨R, 0, none⟩), .pointer (some ⟨E, 0, none⟩)] .returning w fun e u' w' => e = .returned (.tuple #[]) ∧ u' = .returning ∧ w' = w := by
  refine callsD_of_wpS Tryz.func32 rfl fun c₀ cs hu => ?_
  apply wpS_seq
  apply wpS_region
  simp [wpOpsS, go_sem, recoverD, hu, Tryz.ntmps32, Exit.thenS]
  refine wpS_of_wp ?_
  go_wp2
  cases c₀
  simp_all [bodyPostS, results, Tryz.results32]

theorem rdProg_short (t : List UInt8) : (rdProg t).2 = 0 → (rdProg t).1.ds.length ≤ 32 := by
  intro h
  by_cases h0 : t.take 3 = [76, 74, 1]
  · have hO := readL_once (L := t.drop 3)
    obtain ⟨l, S, e, hL⟩ : ∃ l S e, readL ⟨t.drop 3, 0⟩ = (l, S, e) := ⟨_, _, _, rfl⟩
    rw [hL] at hO
    by_cases he : e ≠ 0
    · rw [rdProg_b h0 hL he] at h
      exact absurd h he
    · obtain rfl : e = 0 := by omega
      have h32 := (Go.Proofs.YtahejekcfgkiaaaGreatDoor.objs.chk_zero (hO rfl).1).1
      obtain ⟨ws, T, e2, hW⟩ : ∃ ws T e2, rdWaits l S = (ws, T, e2) := ⟨_, _, _, rfl⟩
      by_cases h2 : e2 ≠ 0
      · rw [rdProg_c h0 hL hW h2] at h
        exact absurd h h2
      · obtain rfl : e2 = 0 := by omega
        obtain ⟨fs, U, e3, hF⟩ : ∃ fs U e3, rdFuncs T = (fs, U, e3) := ⟨_, _, _, rfl⟩
        by_cases h3 : e3 ≠ 0
        · rw [rdProg_d h0 hL hW hF h3] at h
          exact absurd h h3
        · obtain rfl : e3 = 0 := by omega
          rw [rdProg_e h0 hL hW hF] at h ⊢
          split at h
          · cases h
          · rw [if_neg ‹_›]
            exact h32
  · rw [rdProg_a h0] at h
    cases h
/-- What a reading of a whole program tells. -/
def GotP (q : Pg × Nat) (w : World) (e : Ending) (w' : World) : Prop := ∃ v, e = .returned (.tuple #[v, .int .i64 (q.2 : Nat)]) ∧ PAt w' v q.1 ∧ Below w.heap.size w w'
theorem pat_none (w : World) : PAt w (.agg #[.slice none 0 0, .slice none 0 0, .slice none 0 0]) Pg.none := ⟨none, none, none, 0, 0, 0, rfl, DAt.nil _ _, WsAt.nil _ _, FsAt.nil _ _⟩

/-- A program stays where one error's block turns. -/
theorem pat_err {W : World} {E : Nat} {y : Value} {n : Int} {v : Value} {p : Pg} (h : PAt W v p) (hE : W.heap[E]? = some (.cells #[.int .i64 n] 29 (0, 0))) : PAt (W.setCell ⟨E, 0, none⟩ y) v p := by
  have far : ∀ b, b ≠ E → (W.setCell ⟨E, 0, none⟩ y).heap[b]? = W.heap[b]? := fun b hb => Below.heap_setCell _ ⟨E, 0, none⟩ _ b hb
  have hsz : (W.setCell ⟨E, 0, none⟩ y).heap.size = W.heap.size := by simp [World.setCell]
  have past : ∀ i (u : Value), W.cell? ⟨E, i, none⟩ = some u → i = 0 ∧ u = .int .i64 n := fun i u hu => by
    unfold World.cell? at hu
    rw [hE] at hu
    rcases i with _ | i
    · exact ⟨rfl, by simpa using hu.symm⟩
    · simp at hu
  have dat : ∀ (A : Option Addr) (l : List De), DAt W A l → DAt (W.setCell ⟨E, 0, none⟩ y) A l := fun A l hA j hj => by
    obtain ⟨b, off, h1, h2, h3⟩ := hA j hj
    refine ⟨b, off, h1, by rw [hsz]; exact h2, h3.keep (far b ?_)⟩
    rintro rfl
    have := (past _ _ h3.2.1).1
    omega
  obtain ⟨A, B, C, ca, cb, cc, rfl, hA, hB, hC⟩ := h
  refine ⟨A, B, C, ca, cb, cc, rfl, dat _ _ hA, fun j hj => ?_, fun j hj => ?_⟩
  · obtain ⟨b, off, Aj, cj, h1, h2, h3, h4⟩ := hB j hj
    have hb : b ≠ E := by
      rintro rfl
      exact absurd (past _ _ h3).2 (by intro e; cases e)
    refine ⟨b, off, Aj, cj, h1, by rw [hsz]; exact h2, (World.cell?_of_block (a := ⟨b, off + j, none⟩) (far b hb)).trans h3, fun i hi => ?_⟩
    obtain ⟨b2, off2, Ai, ci, k1, k2, k3, k4⟩ := h4 i hi
    have hb2 : b2 ≠ E := by
      rintro rfl
      exact absurd (past _ _ k3).2 (by intro e; cases e)
    exact ⟨b2, off2, Ai, ci, k1, by rw [hsz]; exact k2, (World.cell?_of_block (a := ⟨b2, off2 + i, none⟩) (far b2 hb2)).trans k3, dat _ _ k4⟩
  · obtain ⟨b, off, Aj, cj, h1, h2, h3, h4⟩ := hC j hj
    have hb : b ≠ E := by
      rintro rfl
      have := (past _ _ h3.2.1).1
      omega
    exact ⟨b, off, Aj, cj, h1, by rw [hsz]; exact h2, h3.keep (far b hb), dat _ _ h4⟩
theorem pat_same {W W' : World} {v : Value} {p : Pg} (h : PAt W v p) (hs : W.heap.size ≤ W'.heap.size) (hh : ∀ g : Nat, W'.heap[g]? = W.heap[g]?) : PAt W' v p := by
  obtain ⟨A, B, C, ca, cb, cc, h1, h2, h3, h4⟩ := h
  have dat : ∀ (A : Option Addr) (l : List De), DAt W A l → DAt W' A l := fun A l hA j hj => by
    obtain ⟨b, off, h1, h2, h3⟩ := hA j hj
    exact ⟨b, off, h1, Nat.lt_of_lt_of_le h2 hs, h3.keep (hh b)⟩
  refine ⟨A, B, C, ca, cb, cc, h1, dat _ _ h2, fun j hj => ?_, fun j hj => ?_⟩
  · obtain ⟨b, off, Aj, cj, h1, h2, h3, h4⟩ := h3 j hj
    refine ⟨b, off, Aj, cj, h1, Nat.lt_of_lt_of_le h2 hs, (World.cell?_of_block (a := ⟨b, off + j, none⟩) (hh b)).trans h3, fun i hi => ?_⟩
    obtain ⟨b2, off2, Ai, ci, k1, k2, k3, k4⟩ := h4 i hi
    exact ⟨b2, off2, Ai, ci, k1, Nat.lt_of_lt_of_le k2 hs, (World.cell?_of_block (a := ⟨b2, off2 + i, none⟩) (hh b2)).trans k3, dat _ _ k4⟩
  · obtain ⟨b, off, Aj, cj, h1, h2, h3, h4⟩ := h4 j hj
    exact ⟨b, off, Aj, cj, h1, Nat.lt_of_lt_of_le h2 hs, h3.keep (hh b), dat _ _ h4⟩
/-- A panic goes through the door: nothing, and the error. -/
theorem door_panic {w W : World} {tm : Array Value} {R E c : Nat} {x0 x1 x2 y : Value} {q : Pg × Nat} (h2 : tm[2]?.getD undef = .pointer (some ⟨R, 0, none⟩)) (h3 : tm[3]?.getD undef = .pointer (some ⟨E, 0, none⟩))
    (hR : W.heap[R]? = some (.cells #[x0, x1, x2] 26 (0, 0))) (hE : W.heap[E]? = some (.cells #[y] 29 (0, 0))) (hne : R ≠ E) (hwR : w.heap.size ≤ R) (hwE : w.heap.size ≤ E) (hb : Below w.heap.size w W) (hq : q = (Pg.none, c)) :
    bodyPostD Tryz.prog Tryz.f12 (GotP q w) (.panic (flt c)) { tmps := tm, defers := [{ target := .fn (.func 32) #[.pointer (some ⟨R, 0, none⟩), .pointer (some ⟨E, 0, none⟩)], args := #[] }] } W := by
  subst hq
  refine leaves_cons (f := 32) (args := #[.pointer (some ⟨R, 0, none⟩), .pointer (some ⟨E, 0, none⟩)]) (by simp) (by simp [go_sem]) ?_
  refine (catch_panicking R E c x0 x1 x2 y [] W hR hE hne).mono ?_
  rintro e u' w2 ⟨rfl, rfl, h4, h5, h6⟩
  obtain ⟨c0, c1, c2, _, _, _⟩ := cells3 h4
  have e0 : w2.cell? ⟨E, 0, none⟩ = some (.int .i64 (c : Int)) := by simp [World.cell?, h5]
  refine ⟨.tuple #[.agg #[.slice none 0 0, .slice none 0 0, .slice none 0 0], .int .i64 (c : Int)], ?_, _, rfl, ?_, ?_⟩
  · simp [results, Tryz.results12, go_sem, h2, h3, c0, c1, c2, e0]
  · exact pat_none _
  · exact hb.trans (h6 _ hwR hwE)
/-- A return goes through the door as it is. -/
theorem door_ret {w W : World} {tm : Array Value} {R E : Nat} {x y z : Value} {q : Pg × Nat} (h2 : tm[2]?.getD undef = .pointer (some ⟨R, 0, none⟩)) (h3 : tm[3]?.getD undef = .pointer (some ⟨E, 0, none⟩))
    (hR : W.heap[R]? = some (.cells #[x, y, z] 26 (0, 0))) (hE : W.heap[E]? = some (.cells #[.int .i64 (q.2 : Nat)] 29 (0, 0))) (hP : PAt W (.agg #[x, y, z]) q.1) (hb : Below w.heap.size w W) :
    bodyPostD Tryz.prog Tryz.f12 (GotP q w) .ret { tmps := tm, defers := [{ target := .fn (.func 32) #[.pointer (some ⟨R, 0, none⟩), .pointer (some ⟨E, 0, none⟩)], args := #[] }] } W := by
  refine leaves_cons (f := 32) (args := #[.pointer (some ⟨R, 0, none⟩), .pointer (some ⟨E, 0, none⟩)]) (by simp) (by simp [go_sem]) ?_
  refine (catch_idle R E W).mono ?_
  rintro e u' w2 ⟨rfl, rfl, rfl⟩
  obtain ⟨c0, c1, c2, _, _, _⟩ := cells3 hR
  have e0 : w2.cell? ⟨E, 0, none⟩ = some (.int .i64 (q.2 : Nat)) := by simp [World.cell?, hE]
  refine ⟨.tuple #[.agg #[x, y, z], .int .i64 (q.2 : Nat)], ?_, _, rfl, hP, hb⟩
  simp [results, Tryz.results12, go_sem, h2, h3, c0, c1, c2, e0]
theorem put3_idem {W : World} {R : Nat} {x y z : Value} {T : TypeId} (h : W.heap[R]? = some (.cells #[x, y, z] T (0, 0))) (g : Nat) : (put3 W R x y z).heap[g]? = W.heap[g]? := by
  by_cases hg : g = R
  · subst hg
    rw [put3_same h, h]
  · exact put3_far hg _ _ _

set_option maxRecDepth 100000 in
set_option maxHeartbeats 8000000 in
theorem get_any (t : List UInt8) (w : World) (hl : t.length ≤ 140737489403904) (hok : Okp w) : Calls Tryz.prog 12 #[.string ⟨t.toArray⟩] w (GotP (readP rdIns t) w) := by
  have hmf : ∀ (fn : Go.Fn) (first cap : Array Value) (w : World), (Instr.makeFunc fn first cap).run Tryz.prog w = .ok (.func fn first cap) w := fun _ _ _ _ => rfl
  have hb1 : Below w.heap.size w (w.alloc (.cells #[.slice none 0 0, .slice none 0 0, .slice none 0 0] 26)) := (Below.refl _ w).alloc (Nat.le_refl _) _
  have hb2 := hb1.alloc hb1.size (.cells #[.int .i64 0] 29)
  have hz1 : (w.alloc (.cells #[.slice none 0 0, .slice none 0 0, .slice none 0 0] 26)).heap.size = w.heap.size + 1 := World.size_alloc _ _
  have hR0 := (Below.heap_alloc (w.alloc (.cells #[.slice none 0 0, .slice none 0 0, .slice none 0 0] 26)) (.cells #[.int .i64 0] 29) w.heap.size (by omega)).trans (heap_alloc_new w (.cells #[.slice none 0 0, .slice none 0 0, .slice none 0 0] 26))
  have hE0 := heap_alloc_new (w.alloc (.cells #[.slice none 0 0, .slice none 0 0, .slice none 0 0] 26)) (.cells #[.int .i64 0] 29)
  rw [hz1] at hE0
  have HA := Lib.hid (all_any t _ hl (hok.next hb2))
  have HB2 := Lib.hid hb2
  have HR0 := Lib.hid hR0
  have HE0 := Lib.hid hE0
  obtain ⟨q, hq⟩ : ∃ q, q = readP rdIns t := ⟨_, rfl⟩
  have HQ := Lib.hid (hq.trans (readP_prog t))
  have HSh := Lib.hid (rdProg_short t)
  rw [← hq]
  have HK := Lib.hid hok
  clear hb1 hb2 hR0 hE0 hz1 hq hok
  generalize rdProg t = q0 at *
  go_enter_defers Tryz.func12, Tryz.ntmps12
  go_wp2_with fail
  generalize (w.alloc (.cells #[.slice none 0 0, .slice none 0 0, .slice none 0 0] 26)).alloc (.cells #[.int .i64 0] 29) = W0 at *
  refine HA.out.mono ?_
  rintro e1 w1 ⟨hb1, hbad, hgood⟩
  have hR1 := (hb1.block _ (lt_of_block HR0.out)).trans HR0.out
  have hE1 := (hb1.block _ (lt_of_block HE0.out)).trans HE0.out
  have HB1 := Lib.hid (HB2.out.trans (hb1.mono HB2.out.size))
  by_cases he : q0.2 = 0
  · obtain ⟨v, rfl, hv, hfar⟩ := hgood he
    obtain ⟨A, B, C, ca, cb, cc, rfl, _⟩ := hv
    have HP2 := Lib.hid (hfar w.heap.size _ _ _ _ _ _ _ _ _ (lt_of_block HR0.out) hR1 (put3 w1 w.heap.size (.slice A q0.1.ds.length ca) (.slice B q0.1.ws.length cb) (.slice C q0.1.fs.length cc)) (by simp [World.setCell]) (fun g hg => put3_far hg _ _ _))
    obtain ⟨c0, c1, c2, z0, z1, z2⟩ := cells3 hR1
    have HR2 := Lib.hid (put3_same hR1 (.slice A q0.1.ds.length ca) (.slice B q0.1.ws.length cb) (.slice C q0.1.fs.length cc))
    have HE2 := Lib.hid ((put3_far (show w.heap.size + 1 ≠ w.heap.size by omega) (.slice A q0.1.ds.length ca) (.slice B q0.1.ws.length cb) (.slice C q0.1.fs.length cc)).trans hE1)
    have HBp := Lib.hid (put3_below HB1.out (Nat.le_refl _) (.slice A q0.1.ds.length ca) (.slice B q0.1.ws.length cb) (.slice C q0.1.fs.length cc))
    have HQ1 : Hid (q = if chkP q0.1 ≠ 0 then (Pg.none, chkP q0.1) else (q0.1, 0)) := Lib.hid (by rw [HQ.out, if_neg (by omega)])
    clear hb1 hbad hgood hR1 hE1 hfar HA HQ
    have hsh := HSh.out he
    clear he HSh
    obtain ⟨p, pe⟩ := q0
    dsimp only at HP2 HR2 HE2 HBp HQ1 hsh ⊢
    have HC := Lib.hid (check_any _ p (by omega) _ HP2.out (HK.out.next HBp.out))
    unfold NumPost at HC
    generalize p.ds.length = n1 at *
    generalize p.ws.length = n2 at *
    generalize p.fs.length = n3 at *
    unfold put3 at HP2 HR2 HE2 HBp HC
    go_upto_region 3 with fail
    generalize ((w1.setCell ⟨w.heap.size, 0, none⟩ (Value.slice A n1 ca)).setCell ⟨w.heap.size, 1, none⟩ (Value.slice B n2 cb)).setCell ⟨w.heap.size, 2, none⟩ (Value.slice C n3 cc) = W2 at *
    clear c0 c1 c2 z0 z1 z2
    obtain ⟨c0, c1, c2, z0, z1, z2⟩ := cells3 HR2.out
    go_wp2_with fail
    refine HC.out.mono ?_
    rintro e2 w3 ⟨rfl, hb3⟩
    have HP3 := Lib.hid (HP2.out.next hb3)
    have hR3 := (hb3.block _ (lt_of_block HR2.out)).trans HR2.out
    have hE3 := (hb3.block _ (lt_of_block HE2.out)).trans HE2.out
    have HB3 := Lib.hid (HBp.out.trans (hb3.mono HBp.out.size))
    clear hb3 HC HP2 HR2 HE2 HBp c0 c1 c2 z0 z1 z2
    generalize chkP p = c at *
    by_cases hc : c = 0
    · subst hc
      have HQ2 : Hid (q = (p, 0)) := Lib.hid (by rw [HQ1.out, if_neg (by decide)])
      obtain ⟨c0, c1, c2, z0, z1, z2⟩ := cells3 hR3
      have hR4 := put3_same hR3 (Value.slice A n1 ca) (Value.slice B n2 cb) (Value.slice C n3 cc)
      have hE4 : (put3 w3 w.heap.size (Value.slice A n1 ca) (Value.slice B n2 cb) (Value.slice C n3 cc)).heap[w.heap.size + 1]? = some (.cells #[.int .i64 0] 29 (0, 0)) := (put3_idem hR3 _).trans hE3
      have HP4 : Hid (PAt (put3 w3 w.heap.size (Value.slice A n1 ca) (Value.slice B n2 cb) (Value.slice C n3 cc)) (.agg #[(Value.slice A n1 ca), (Value.slice B n2 cb), (Value.slice C n3 cc)]) p) := Lib.hid (pat_same HP3.out (by simp [World.setCell]) (put3_idem hR3))
      have HB4 := Lib.hid (put3_below HB3.out (Nat.le_refl _) (Value.slice A n1 ca) (Value.slice B n2 cb) (Value.slice C n3 cc))
      have e0 : (put3 w3 w.heap.size (Value.slice A n1 ca) (Value.slice B n2 cb) (Value.slice C n3 cc)).cell? ⟨w.heap.size + 1, 0, none⟩ = some (.int .i64 0) := by simp only [World.cell?, hE4]; rfl
      have y0 : (put3 w3 w.heap.size (Value.slice A n1 ca) (Value.slice B n2 cb) (Value.slice C n3 cc)).frozen? ⟨w.heap.size + 1, 0, none⟩ = false := by simp only [World.frozen?, hE4]; rfl
      have HP5 := Lib.hid (pat_err (y := .int .i64 0) HP4.out hE4)
      have HR5 := Lib.hid ((Below.heap_setCell (put3 w3 w.heap.size (Value.slice A n1 ca) (Value.slice B n2 cb) (Value.slice C n3 cc)) ⟨w.heap.size + 1, 0, none⟩ (.int .i64 0) w.heap.size (by show w.heap.size ≠ w.heap.size + 1; omega)).trans hR4)
      have HE5 : Hid (((put3 w3 w.heap.size (Value.slice A n1 ca) (Value.slice B n2 cb) (Value.slice C n3 cc)).setCell ⟨w.heap.size + 1, 0, none⟩ (.int .i64 0)).heap[w.heap.size + 1]? = some (.cells #[.int .i64 0] 29 (0, 0))) := Lib.hid (by
        generalize put3 w3 w.heap.size (Value.slice A n1 ca) (Value.slice B n2 cb) (Value.slice C n3 cc) = W at *
        simp [World.setCell, Array.getElem?_modify, hE4])
      have HB5 := Lib.hid (HB4.out.setCell (p := ⟨w.heap.size + 1, 0, none⟩) (by show w.heap.size ≤ w.heap.size + 1; omega) (.int .i64 0))
      clear HQ1 hR3 hE3 hR4 hE4
      go_wp2_with fail
      refine (stop_ok _).mono ?_
      rintro e3 w4 ⟨rfl, rfl⟩
      go_wp2
      exact door_ret (by rfl) (by rfl) HR5.out (by rw [HQ2.out]; exact HE5.out) (by rw [HQ2.out]; exact HP5.out) HB5.out
    · have HQ2 : Hid (q = (Pg.none, c)) := Lib.hid (by rw [HQ1.out, if_pos hc])
      have HC0 := Lib.hid hc
      clear hc HQ1
      go_wp2_with fail
      refine (stop_bad c HC0.out _).mono ?_
      rintro e3 w4 ⟨rfl, rfl⟩
      go_wp2
      exact door_panic (by rfl) (by rfl) hR3 hE3 (by omega) (Nat.le_refl _) (by omega) HB3.out HQ2.out
  · obtain rfl := hbad he
    have HQ1 : Hid (q = (Pg.none, q0.2)) := Lib.hid (by rw [HQ.out, if_pos he])
    clear hbad hgood he HA
    go_wp2
    exact door_panic (by rfl) (by rfl) hR1 hE1 (by omega) (Nat.le_refl _) (by omega) HB1.out HQ1.out
end Go.Proofs.YtahejekcfgkiaaaGreatDoor.pgm

/-
  Whether two waits are one, as the statements ask it. No condition but that both have at most six ways, each of at most six needs.
-/
namespace Go.Proofs.YtahejekcfgkiaaaGreatDoor.need
open Go.RowKit Go.ChangeShapes
open Go.Proofs.YtahejekcfgkiaaaGreatDoor.objs (De zero CellsAt DAt below_drewN list_ext De.ext')
set_option linter.unusedVariables false

theorem wlist_ext {l m : List (List De)} (hl : l.length = m.length) (h : ∀ j, j < l.length → l.getD j [] = m.getD j []) : l = m := by
  apply List.ext_getElem hl
  intro j h1 h2
  have := h j h1
  rwa [List.getD_eq_getElem?_getD, List.getD_eq_getElem?_getD, List.getElem?_eq_getElem h1, List.getElem?_eq_getElem h2] at this
def SamePost (r : Bool) (w : World) (e : Ending) (w' : World) : Prop := e = .returned (.bool r) ∧ Below w.heap.size w w'
set_option maxRecDepth 100000 in
set_option maxHeartbeats 16000000 in
theorem refSame9_any (A B : Option Addr) (ca cb : Nat) (l m : List (List De)) (hl : l.length ≤ 6) (hm : m.length ≤ 6) (hll : ∀ x ∈ l, x.length ≤ 6) (hmm : ∀ x ∈ m, x.length ≤ 6) (w : World) (hA : WAt w A l) (hB : WAt w B m) :
    Calls Tryz.prog 39 #[.slice A l.length ca, .slice B m.length cb] w (SamePost (decide (l = m)) w) := by
  by_cases hlm : l.length = m.length
  · obtain ⟨r, hr⟩ : ∃ r, r = decide (l = m) := ⟨_, rfl⟩
    have HR := Lib.hid hr
    rw [← hr]
    unfold SamePost
    have HLM := Lib.hid hlm
    have HA := Lib.hid hA
    have HB := Lib.hid hB
    have HLl := Lib.hid hll
    have HLm := Lib.hid hmm
    rw [← hlm]
    clear hr hA hB hlm hm hll hmm
    go_enter Tryz.func39, Tryz.ntmps39
    go_wp2_with fail
    go_loopw [5] (fun i wr => ∃ j : Nat, j ≤ l.length ∧ i = .int .i64 (j : Int) ∧ Hid (∀ k, k < j → l.getD k [] = m.getD k []) ∧ Hid (Below w.heap.size w wr)) (fun i _ => l.length - (intOf i).toNat)
    case atStart => exact ⟨0, Nat.zero_le _, rfl, Lib.hid (fun k hk => absurd hk (Nat.not_lt_zero k)), Lib.hid (Below.refl _ _)⟩
    case round =>
      obtain ⟨j, hj, rfl, HO, HW⟩ := hrel
      by_cases hlt : j < l.length
      · have hltm : j < m.length := by have := HLM.out; omega
        obtain ⟨a, oa, Aj, cj, rfl, hbl, hca, hda⟩ := (HA.out.next HW.out) j hlt
        obtain ⟨b, ob, Bj, dj, rfl, hbm, hcb, hdb⟩ := (HB.out.next HW.out) j hltm
        have hlt' : (j : Int) < (l.length : Int) := by omega
        have hj0 : (0 : Int) ≤ (j : Int) := by omega
        have h6a := HLl.out _ (getW_mem hlt)
        have h6b := HLm.out _ (getW_mem hltm)
        generalize hgl : l.getD j [] = lj at *
        generalize hgm : m.getD j [] = mj at *
        by_cases hne : lj.length = mj.length
        · have HNE := Lib.hid hne
          have HDA := Lib.hid hda
          have HDB := Lib.hid hdb
          rw [← hne] at hcb
          clear hne hda hdb
          go_wp2_with fail
          go_quiet (fail)
          go_wp2_with fail
          go_loopw [6] (fun i wr => ∃ k : Nat, k ≤ lj.length ∧ i = .int .i64 (k : Int) ∧ Hid (∀ x, x < k → lj.getD x zero = mj.getD x zero) ∧ Hid (Below w.heap.size w wr)) (fun i _ => lj.length - (intOf i).toNat)
          case atStart => exact ⟨0, Nat.zero_le _, rfl, Lib.hid (fun k hk => absurd hk (Nat.not_lt_zero k)), Lib.hid (below_drewN HW.out _)⟩
          case round =>
            obtain ⟨k, hk, rfl, HP, HW2⟩ := hrel
            obtain ⟨aA, oA, AjA, cjA, hAe, _, hcA, hdA⟩ := (HA.out.next HW2.out) j hlt
            obtain ⟨bB, oB, BjB, djB, hBe, _, hcB, hdB⟩ := (HB.out.next HW2.out) j hltm
            injection hAe with hAe
            injection hAe with hAe1 hAe2
            injection hBe with hBe
            injection hBe with hBe1 hBe2
            subst hAe1 hAe2 hBe1 hBe2
            rw [hgl] at hcA hdA
            rw [hgm] at hcB hdB
            rw [← HNE.out] at hcB
            by_cases hlk : k < lj.length
            · obtain ⟨a2, oa2, rfl, _, a0, a1, a3⟩ := hdA k hlk
              obtain ⟨b2, ob2, rfl, _, b0, b1, b3⟩ := hdB k (by rw [← HNE.out]; exact hlk)
              have hlk' : (k : Int) < (lj.length : Int) := by omega
              have hk0 : (0 : Int) ≤ (k : Int) := by omega
              have hpar : lj.getD k zero ≠ mj.getD k zero → ¬ l = m := fun h e => h (by rw [← hgl, ← hgm, e])
              clear hca hcb
              by_cases hx : lj.getD k zero = mj.getD k zero
              · have HE : Hid (∀ x, x < k + 1 → lj.getD x zero = mj.getD x zero) := Lib.hid (fun x hx2 => by
                  rcases Nat.lt_or_ge x k with h1 | h1
                  · exact HP.out x h1
                  · obtain rfl : x = k := by omega
                    exact hx)
                rw [← hx] at b0 b1 b3
                clear hx hpar
                generalize lj.getD k zero = d at *
                go_wp2_with fail
                go_quiet (fail)
                go_wp2
                go_roundw
                case rel => exact ⟨k + 1, by omega, by go_num, HE, Lib.hid (below_drewN HW2.out _)⟩
                case measure => simp [intOf]; omega
              · have HE := Lib.hid (hpar hx)
                have hne : ¬ ((lj.getD k zero).1 = (mj.getD k zero).1 ∧ (lj.getD k zero).2.1 = (mj.getD k zero).2.1 ∧ (lj.getD k zero).2.2 = (mj.getD k zero).2.2) := fun h => hx (De.ext'.2 h)
                clear hx hpar
                generalize lj.getD k zero = d at *
                generalize mj.getD k zero = f at *
                obtain ⟨d1, d2, d3⟩ := d
                obtain ⟨f1, f2, f3⟩ := f
                dsimp only at a0 a1 a3 b0 b1 b3 hne
                by_cases e1 : d1 = f1
                · subst e1
                  by_cases e2 : d2 = f2
                  · subst e2
                    have hc : (d3 == f3) = false := by rw [beq_eq_false_iff_ne]; exact fun e => hne ⟨rfl, rfl, e⟩
                    clear hne
                    go_wp2_with fail
                    go_quiet (fail)
                    go_wp2
                    go_ret
                    exact ⟨by rw [HR.out, decide_eq_false HE.out]; rfl, below_drewN HW2.out _⟩
                  · have hc : (d2 == f2) = false := by rw [beq_eq_false_iff_ne]; exact e2
                    clear hne e2
                    go_wp2_with fail
                    go_quiet (fail)
                    go_wp2
                    go_ret
                    exact ⟨by rw [HR.out, decide_eq_false HE.out]; rfl, below_drewN HW2.out _⟩
                · have hc : (d1 == f1) = false := by rw [beq_eq_false_iff_ne]; exact e1
                  clear hne e1
                  go_wp2_with fail
                  go_quiet (fail)
                  go_wp2
                  go_ret
                  exact ⟨by rw [HR.out, decide_eq_false HE.out]; rfl, below_drewN HW2.out _⟩
            · obtain rfl : k = lj.length := by omega
              have HE : Hid (∀ x, x < j + 1 → l.getD x [] = m.getD x []) := Lib.hid (fun x hx2 => by
                rcases Nat.lt_or_ge x j with h1 | h1
                · exact HO.out x h1
                · obtain rfl : x = j := by omega
                  rw [hgl, hgm]
                  exact list_ext HNE.out HP.out)
              clear hca hcb hcB hdB hdA
              go_wp2_with fail
              go_roundw
              case rel => exact ⟨j + 1, by omega, by go_num, HE, HW2⟩
              case measure => simp [intOf]; omega
        · have HE : Hid (¬ l = m) := Lib.hid (fun h => hne (by rw [← hgl, ← hgm, h]))
          have hnb : ((lj.length : Int) != (mj.length : Int)) = true := by simp; omega
          clear hne hda hdb
          go_wp2_with fail
          go_quiet (fail)
          go_wp2
          go_ret
          exact ⟨by rw [HR.out, decide_eq_false HE.out]; rfl, below_drewN HW.out _⟩
      · obtain rfl : j = l.length := by omega
        have HE : Hid (l = m) := Lib.hid (wlist_ext HLM.out HO.out)
        go_wp2_with fail
        go_ret
        exact ⟨by rw [HR.out, decide_eq_true HE.out]; rfl, HW.out⟩
  · have hd : decide (l = m) = false := decide_eq_false (fun h => hlm (by rw [h]))
    rw [hd]
    unfold SamePost
    have hne : ((l.length : Int) != (m.length : Int)) = true := by simp; omega
    clear hlm hd hA hB
    go_enter Tryz.func39, Tryz.ntmps39
    go_wp2_with fail
    go_ret
    exact ⟨rfl, Below.refl _ _⟩
end Go.Proofs.YtahejekcfgkiaaaGreatDoor.need
