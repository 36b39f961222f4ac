/-
  The program's own reading of an instruction (typed over the code of 392f5a9): for every text of at most two to the forty-seventh bytes. The table of names must lie where its initialiser lays it.
-/
import Derived.Test.YtaefkkhmhogpeaaDoorJGetPlain
import Derived.Test.YtaefkkhmhogpeaaDoorJPut
import Derived.Test.YtaefkkhmhogpeaaDoorInText
namespace Go.Proofs.YtaefkkhmhogpeaaDoor.inst
open Go.RowKit Go.ChangeShapes
open Go.Proofs.YtaefkkhmhogpeaaDoor.oper (ret_int ret_bool ret_string Tab nm txt)
open Go.Proofs.YtaefkkhmhogpeaaDoor.word (Word)
open Go.Proofs.YtaefkkhmhogpeaaDoor.octet (St InAt Frm rdByte rdNum rdInt byteIn_any numIn_any intIn_any err_any left_any open_any rdNum_ok rdNum_left rdByte_ok)
set_option linter.unusedVariables false

theorem pOpd_ok {c : UInt8} {s : St} (h : s.ok) : (pOpd c s).2.ok := by
  unfold pOpd rdInt
  split <;> exact rdNum_ok h
theorem pOpd_left (c : UInt8) (s : St) : (pOpd c s).2.rest.length ≤ s.rest.length := by
  unfold pOpd rdInt
  split <;> exact rdNum_left s
theorem rdByte_left (s : St) : (rdByte s).2.rest.length ≤ s.rest.length := by
  unfold rdByte
  split
  · exact Nat.le_refl _
  · split
    · exact Nat.zero_le _
    · rename_i h; rw [h]; simp

set_option maxHeartbeats 400000 in
theorem getOperand_any (w : World) (bi : Nat) (s : St) (c : UInt8) (hi : InAt w bi s) (hok : s.ok) (hl : s.rest.length ≤ 140737488355328) :
    Calls Tryd.prog 62 #[.pointer (some ⟨bi, 0, none⟩), .int .u8 (c.toNat : Int)] w fun e w' => e = .returned (.int .i64 (pOpd c s).1) ∧ InAt w' bi (pOpd c s).2 ∧ Frm w.heap.size bi w w' := by
  by_cases hc : c = 110
  · subst hc
    have HE : Hid (pOpd 110 s = rdInt s) := Lib.hid rfl
    rw [HE.out]
    have HI := Lib.hid (intIn_any w bi s hi hok hl)
    go_enter Tryd.func62, Tryd.ntmps62
    go_wp2_with fail
    refine HI.out.mono ?_
    rintro e w1 ⟨rfl, h1, h2⟩
    go_wp2
    go_ret
    exact ⟨rfl, h1, h2⟩
  · have HE : Hid (pOpd c s = Go.Proofs.YtaefkkhmhogpeaaDoor.span.pN s) := Lib.hid (by unfold pOpd; rw [if_neg hc]; rfl)
    have hc1 : ((c.toNat : Int) == 110) = false := (u8_ne hc).1
    rw [HE.out]
    clear hc HE
    have HI := Lib.hid (Go.Proofs.YtaefkkhmhogpeaaDoor.span.num_any w bi s hi hok hl)
    generalize Go.Proofs.YtaefkkhmhogpeaaDoor.span.pN s = p at *
    obtain ⟨v, S⟩ := p
    dsimp only at HI ⊢
    go_enter Tryd.func62, Tryd.ntmps62
    go_wp2_with fail
    refine HI.out.mono ?_
    rintro e w1 ⟨rfl, h1, h2⟩
    go_wp2
    go_ret
    exact ⟨rfl, h1, h2⟩

/-- In the midst of reading: where the reader stands, and what was read. -/
structure Rds (w : World) (bi b1 gl : Nat) (o : Int) (V : List Int) (S : St) (W : World) : Prop where
  inn : InAt W bi S
  row : RowIs W gl V
  b0 : W.heap[w.heap.size]? = some (.cells #[.int .i64 0, .int .i64 0, .int .i64 0] 23 (0, 0))
  bb : W.heap[b1]? = some (.cells #[.int .i64 o, .int .i64 0, .int .i64 0] 23 (0, 0))
  frm : Frm w.heap.size bi w W
  lt : bi < w.heap.size
  h1 : w.heap.size < b1
  h2 : b1 < gl
theorem Rds.next {w W W' : World} {bi b1 gl : Nat} {o : Int} {V : List Int} {S S' : St} (h : Rds w bi b1 gl o V S W) (hi : InAt W' bi S') (hf : Frm W.heap.size bi W W') : Rds w bi b1 gl o V S' W' := by
  have hg := h.row.lt
  have e1 := h.lt
  have e2 := h.h1
  have e3 := h.h2
  have hrow : W'.heap[gl]? = W.heap[gl]? := hf.block _ hg (by omega)
  refine ⟨hi, fun i hi => ?_, (hf.block _ (by omega) (by omega)).trans h.b0, (hf.block _ (by omega) (by omega)).trans h.bb, h.frm.trans (hf.mono h.frm.size), e1, e2, e3⟩
  have := h.row i hi
  unfold World.cell? World.frozen? at this ⊢
  rw [hrow]
  exact this
theorem Rds.set {w W : World} {bi b1 gl : Nat} {o : Int} {V : List Int} {S : St} (h : Rds w bi b1 gl o V S W) {j : Nat} (hj : j < 2) (hlen : V.length = j) (n : Int) : Rds w bi b1 gl o (V ++ [n]) S (W.setCell ⟨gl, j, none⟩ (.int .i64 n)) := by
  have e1 := h.lt
  have e2 := h.h1
  have e3 := h.h2
  have hx : ∀ k, k ≠ gl → (W.setCell ⟨gl, j, none⟩ (.int .i64 n)).heap[k]? = W.heap[k]? := fun k hk => Below.heap_setCell _ ⟨gl, j, none⟩ _ k hk
  exact ⟨(hx bi (by omega)).trans h.inn, row_set h.row hj hlen n, (hx _ (by omega)).trans h.b0, (hx _ (by omega)).trans h.bb, h.frm.setCell (p := ⟨gl, j, none⟩) (.inr (by show w.heap.size ≤ gl; omega)) _, e1, e2, e3⟩

theorem rds_new {w w1 : World} {bi : Nat} {o : Int} {S : St} (hi : InAt w1 bi S) (hf : Frm w.heap.size bi w w1) (hz : w1.heap[w.heap.size]? = some (.cells #[.int .i64 0, .int .i64 0, .int .i64 0] 23 (0, 0))) (hlt : bi < w.heap.size) :
    Rds w bi w1.heap.size (w1.heap.size + 1) o [] S ((w1.alloc (.cells #[.int .i64 o, .int .i64 0, .int .i64 0] 23)).alloc (.cells #[.int .i64 0, .int .i64 0] 64)) := by
  have hz1 := lt_of_block hz
  have hb : Below w1.heap.size w1 ((w1.alloc (.cells #[.int .i64 o, .int .i64 0, .int .i64 0] 23)).alloc (.cells #[.int .i64 0, .int .i64 0] 64)) := ((Below.refl _ w1).alloc (Nat.le_refl _) _).alloc (by simp) _
  have hn : ((w1.alloc (.cells #[.int .i64 o, .int .i64 0, .int .i64 0] 23)).alloc (.cells #[.int .i64 0, .int .i64 0] 64)).heap[w1.heap.size + 1]? = some (.cells #[.int .i64 0, .int .i64 0] 64) := by
    rw [← World.size_alloc w1 (.cells #[.int .i64 o, .int .i64 0, .int .i64 0] 23)]; exact heap_alloc_new _ _
  refine ⟨hi.kept (hb.block _ hi.lt), fun i hi => ?_, (hb.block _ hz1).trans hz, (Below.heap_alloc _ _ _ (by simp)).trans (heap_alloc_new w1 _), hf.trans (Frm.of_below (hb.mono hf.size)), hlt, hz1, by omega⟩
  unfold World.cell? World.frozen?
  rw [hn]
  match i, hi with
  | 0, _ => exact ⟨rfl, rfl⟩
  | 1, _ => exact ⟨rfl, rfl⟩

/-- What read tells, and leaves. -/
def PReadPost (bi : Nat) (r : Rd) (w : World) (e : Ending) (w' : World) : Prop :=
  e = .returned (.agg #[.int .i64 r.o, .int .i64 r.a, .int .i64 r.b]) ∧ InAt w' bi r.s ∧ Frm w.heap.size bi w w'

theorem read_ret {w Z : World} {bi : Nat} {o a b : Int} {S : St} {act : Act} {P : List Int × St} (ha : a = P.1.getD 0 0) (hb : b = P.1.getD 1 0) (hS : S = P.2) (h2 : act.tmps[2]?.getD undef = .pointer (some ⟨w.heap.size, 0, none⟩)) (hd : act.defers = [])
    (hE : Z.heap[w.heap.size]? = some (.cells #[.int .i64 o, .int .i64 a, .int .i64 b] 23 (0, 0))) (hi : InAt Z bi S) (hf : Frm w.heap.size bi w Z) :
    bodyPost Tryd.prog Tryd.f45 (fun e w' => e = .returned (.agg #[.int .i64 o, .int .i64 (P.1.getD 0 0), .int .i64 (P.1.getD 1 0)]) ∧ InAt w' bi P.2 ∧ Frm w.heap.size bi w w') .ret act Z := by
  subst ha hb hS
  obtain ⟨x0, x1, x2, _, _, _⟩ := cells3 hE
  refine bodyPost_ret (v := .agg #[.int .i64 o, .int .i64 (P.1.getD 0 0), .int .i64 (P.1.getD 1 0)]) ?_ hd ⟨rfl, hi, hf⟩
  simp [results, Tryd.results45, go_sem, h2, x0, x1, x2]
/-- Behind the stores of both operands. -/
theorem rds_end {w W : World} {bi b1 gl : Nat} {o : Int} {V : List Int} {S : St} (h : Rds w bi b1 gl o V S W) (a b : Int) :
    ((W.setCell ⟨b1, 1, none⟩ (.int .i64 a)).setCell ⟨b1, 2, none⟩ (.int .i64 b)).drew.heap[b1]? = some (.cells #[.int .i64 o, .int .i64 a, .int .i64 b] 23 (0, 0)) ∧
    ((W.setCell ⟨b1, 1, none⟩ (.int .i64 a)).setCell ⟨b1, 2, none⟩ (.int .i64 b)).drew.heap[w.heap.size]? = some (.cells #[.int .i64 0, .int .i64 0, .int .i64 0] 23 (0, 0)) ∧
    InAt ((W.setCell ⟨b1, 1, none⟩ (.int .i64 a)).setCell ⟨b1, 2, none⟩ (.int .i64 b)).drew bi S ∧
    Frm w.heap.size bi w ((W.setCell ⟨b1, 1, none⟩ (.int .i64 a)).setCell ⟨b1, 2, none⟩ (.int .i64 b)).drew := by
  have e1 := h.lt
  have e2 := h.h1
  have hx : ∀ k, k ≠ b1 → ((W.setCell ⟨b1, 1, none⟩ (.int .i64 a)).setCell ⟨b1, 2, none⟩ (.int .i64 b)).heap[k]? = W.heap[k]? := fun k hk => (Below.heap_setCell _ ⟨b1, 2, none⟩ _ k hk).trans (Below.heap_setCell _ ⟨b1, 1, none⟩ _ k hk)
  refine ⟨?_, (hx _ (by omega)).trans h.b0, (hx _ (by omega)).trans h.inn, ((h.frm.setCell (p := ⟨b1, 1, none⟩) (.inr (by show w.heap.size ≤ b1; omega)) _).setCell (p := ⟨b1, 2, none⟩) (.inr (by show w.heap.size ≤ b1; omega)) _).drew⟩
  have := h.bb
  show ((W.setCell ⟨b1, 1, none⟩ (.int .i64 a)).setCell ⟨b1, 2, none⟩ (.int .i64 b)).heap[b1]? = _
  simp [World.setCell, Array.getElem?_modify, this]

set_option maxRecDepth 100000 in
set_option maxHeartbeats 2000000 in
theorem read_any (w : World) (bi : Nat) (s : St) (hi : InAt w bi s) (hok : s.ok) (hl : s.rest.length ≤ 140737488355328) :
    Calls Tryd.prog 45 #[.pointer (some ⟨bi, 0, none⟩)] w (PReadPost bi (pRead s) w) := by
  have hok1 := rdByte_ok hok
  have hl1 : (rdByte s).2.rest.length ≤ 140737488355328 := Nat.le_trans (rdByte_left s) hl
  have hlt := hi.lt
  have hb1 : Below w.heap.size w (w.alloc (.cells #[.int .i64 0, .int .i64 0, .int .i64 0] 23)) := (Below.refl _ w).alloc (Nat.le_refl _) _
  have HB := Lib.hid (byteIn_any _ bi s (hi.kept (hb1.block bi hlt)) hok hl)
  have HP : Hid (pRead s = ⟨(rdByte s).1, (pOpds (form (rdByte s).1) (rdByte s).2 (form (rdByte s).1).length).1.getD 0 0, (pOpds (form (rdByte s).1) (rdByte s).2 (form (rdByte s).1).length).1.getD 1 0, (pOpds (form (rdByte s).1) (rdByte s).2 (form (rdByte s).1).length).2, (pOpds (form (rdByte s).1) (rdByte s).2 (form (rdByte s).1).length).2.err⟩) := Lib.hid rfl
  rw [HP.out]
  clear HP
  unfold PReadPost
  have H1 := Lib.hid hb1
  clear hb1 hi
  generalize rdByte s = p at *
  obtain ⟨n, S⟩ := p
  dsimp only at HB hok1 hl1 ⊢
  have hy2 : (txt Go.Proofs.YtaefkkhmhogpeaaDoor.oper.fm (n : Int)).size ≤ 2 := by have := form_le (n : Int); unfold form at this; rwa [← size_list] at this
  have HF := fun W => Lib.hid (Go.Proofs.YtaefkkhmhogpeaaDoor.oper.form_any (n : Int) W)
  unfold form
  generalize txt Go.Proofs.YtaefkkhmhogpeaaDoor.oper.fm (n : Int) = y at *
  rw [← size_list y]
  go_enter Tryd.func45, Tryd.ntmps45
  go_wp2_with fail
  refine HB.out.mono ?_
  rintro e w1 ⟨rfl, hi1, hf1⟩
  have hz : (w.alloc (.cells #[.int .i64 0, .int .i64 0, .int .i64 0] 23)).heap.size = w.heap.size + 1 := World.size_alloc w _
  have hs1 := hf1.size
  have HI1 := Lib.hid hi1
  have HF1 : Hid (Frm w.heap.size bi w w1) := Lib.hid ((Frm.of_below H1.out).trans (hf1.mono (by omega)))
  have HZ1 : Hid (w1.heap[w.heap.size]? = some (.cells #[.int .i64 0, .int .i64 0, .int .i64 0] 23 (0, 0))) := Lib.hid ((hf1.block _ (by omega) (by omega)).trans (heap_alloc_new w _))
  clear hi1 hf1 HB H1
  go_wp2_with fail
  refine (HF _).out.mono ?_
  rintro e w2 ⟨rfl, rfl⟩
  go_upto_region 4 with fail
  have HR0 := Lib.hid (rds_new (o := (n : Int)) HI1.out HF1.out HZ1.out hlt)
  have hg1 : w1.heap.size < w1.heap.size + 1 := by omega
  clear HI1 HF1 HZ1 hz hs1
  generalize (w1.alloc (.cells #[.int .i64 (n : Int), .int .i64 0, .int .i64 0] 23)).alloc (.cells #[.int .i64 0, .int .i64 0] 64) = W3 at *
  generalize w1.heap.size + 1 = gl at *
  generalize w1.heap.size = b1 at *
  have HN := Lib.hid hy2
  go_wp2_with fail
  go_loopw [15] (fun i wr => ∃ j : Nat, j ≤ y.size ∧ i = .int .i64 (j : Int) ∧ Hid ((pOpds y.data.toList S j).2.ok ∧ (pOpds y.data.toList S j).2.rest.length ≤ 140737488355328) ∧ Hid (Rds w bi b1 gl n (pOpds y.data.toList S j).1 (pOpds y.data.toList S j).2 wr)) (fun i _ => y.size - (intOf i).toNat)
  case atStart => exact ⟨0, Nat.zero_le _, rfl, Lib.hid ⟨hok1, hl1⟩, HR0⟩
  case round =>
    obtain ⟨j, hj, rfl, HO, HR⟩ := hrel
    by_cases hlt : j < y.size
    · have hj2 : j < 2 := by omega
      have hj2' : (j : Int) < 2 := by omega
      have hj0 : (0 : Int) ≤ (j : Int) := by omega
      have hlt' : (j : Int) < (y.size : Int) := by omega
      have hyj : y[j] = y.data.toList.getD j 0 := letter_at hlt
      have hlen := pOpds_length y.data.toList S j
      have HE1 : Hid (pOpds y.data.toList S (j + 1) = ((pOpds y.data.toList S j).1 ++ [(pOpd (y.data.toList.getD j 0) (pOpds y.data.toList S j).2).1], (pOpd (y.data.toList.getD j 0) (pOpds y.data.toList S j).2).2)) := Lib.hid rfl
      have HG := Lib.hid (getOperand_any wr bi _ (y.data.toList.getD j 0) HR.out.inn HO.out.1 HO.out.2)
      have HO2 : Hid ((pOpds y.data.toList S (j + 1)).2.ok ∧ (pOpds y.data.toList S (j + 1)).2.rest.length ≤ 140737488355328) := Lib.hid ⟨by rw [HE1.out]; exact pOpd_ok HO.out.1, by rw [HE1.out]; exact Nat.le_trans (pOpd_left _ _) HO.out.2⟩
      rw [HE1.out] at HO2
      generalize y.data.toList.getD j 0 = c at *
      generalize pOpds y.data.toList S j = P at *
      obtain ⟨V, S1⟩ := P
      dsimp only at HG HE1 HO HR HO2 hlen
      generalize pOpd c S1 = q at *
      obtain ⟨v, S2⟩ := q
      dsimp only at HG HE1 HO2
      go_wp2_with fail
      refine HG.out.mono ?_
      rintro e w5 ⟨rfl, hi5, hf5⟩
      have HR5 := Lib.hid (HR.out.next hi5 hf5)
      have HR6 := Lib.hid (HR5.out.set hj2 hlen v)
      obtain ⟨x5, xf5⟩ := HR5.out.row j hj2
      clear hi5 hf5 HG HR HO
      go_wp2
      go_roundw
      case rel => exact ⟨j + 1, by omega, by go_num, by rw [HE1.out]; exact HO2, by rw [HE1.out]; exact HR6⟩
      case measure => simp [intOf]; omega
    · obtain rfl : j = y.size := by omega
      obtain ⟨a, ha⟩ : ∃ a, a = (pOpds y.data.toList S y.size).1.getD 0 0 := ⟨_, rfl⟩
      obtain ⟨b, hb⟩ : ∃ b, b = (pOpds y.data.toList S y.size).1.getD 1 0 := ⟨_, rfl⟩
      obtain ⟨x0, xf0⟩ := HR.out.row 0 (by omega)
      obtain ⟨x1, xf1⟩ := HR.out.row 1 (by omega)
      rw [← ha] at x0
      rw [← hb] at x1
      have HA := Lib.hid ha
      have HBv := Lib.hid hb
      clear ha hb
      obtain ⟨y0, y1, y2, yf0, yf1, yf2⟩ := cells3 HR.out.bb
      have n1 : gl ≠ b1 := by have := HR.out.h2; omega
      have n2 : b1 ≠ gl := by have := HR.out.h2; omega
      obtain ⟨S9, hS9⟩ : ∃ S9, S9 = (pOpds y.data.toList S y.size).2 := ⟨_, rfl⟩
      have HS9 := Lib.hid hS9
      have hend := rds_end HR.out a b
      rw [← hS9] at hend
      have HE := Lib.hid hend
      clear hend hS9
      go_wp2_with fail
      go_region
      clear x0 x1 y0 y1 y2 xf0 xf1 yf0 yf1 yf2 n1 n2
      generalize ((wr.setCell ⟨b1, 1, none⟩ (.int .i64 a)).setCell ⟨b1, 2, none⟩ (.int .i64 b)).drew = W9 at *
      obtain ⟨y0, y1, y2, _, _, _⟩ := cells3 HE.out.1
      obtain ⟨z0, z1, z2, zf0, zf1, zf2⟩ := cells3 HE.out.2.1
      go_wp2_with fail
      refine read_ret HA.out HBv.out HS9.out (by rfl) rfl (put3_same HE.out.2.1 _ _ _) ?_ ?_
      · exact (put3_far (by have := hlt; omega) _ _ _).trans HE.out.2.2.1
      · exact ((HE.out.2.2.2.setCell (p := ⟨w.heap.size, 0, none⟩) (.inr (Nat.le_refl _)) _).setCell (p := ⟨w.heap.size, 1, none⟩) (.inr (Nat.le_refl _)) _).setCell (p := ⟨w.heap.size, 2, none⟩) (.inr (Nat.le_refl _)) _
end Go.Proofs.YtaefkkhmhogpeaaDoor.inst
