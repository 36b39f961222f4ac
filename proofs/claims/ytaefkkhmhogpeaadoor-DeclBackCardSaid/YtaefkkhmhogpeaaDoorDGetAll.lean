/-
  The program's own reading of all objects, before they are checked (typed over the code of 392f5a9): for every text of at most two to the forty-seventh bytes. The table of names must lie where its initialiser lays it.
-/
import Derived.Test.YtaefkkhmhogpeaaDoorDGetOne
import Derived.Test.YtaefkkhmhogpeaaDoorDCheck
import Derived.Test.YtaefkkhmhogpeaaDoorDBack
import Derived.Laws.MakeOwn
namespace Go.Proofs.YtaefkkhmhogpeaaDoor.objs
open Go.RowKit Go.ChangeShapes
open Go.Proofs.YtaefkkhmhogpeaaDoor.octet (St InAt Frm rdNum err_any)
open Go.Proofs.YtaefkkhmhogpeaaDoor.span (pN num_any)
set_option linter.unusedVariables false

/-- What getAll tells, and leaves. -/
def AllPost (bi : Nat) (r : List De × St × Nat) (w : World) (e : Ending) (w' : World) : Prop :=
  ∃ v, e = .returned (.tuple #[v, .int .i64 (r.2.2 : Int)]) ∧ (∃ A cap, v = .slice A r.1.length cap ∧ DAt w' A r.1) ∧ InAt w' bi r.2.1 ∧ Frm w.heap.size bi w w'

/-- Between two objects that are read: the reader, and the row that grows. -/
structure Gs (w : World) (bi : Nat) (v : Value) (ls : List De) (S : St) (W : World) : Prop where
  inn : InAt W bi S
  own : Own W w.heap.size v ls
  frm : Frm w.heap.size bi w W
  lt : bi < w.heap.size
theorem Gs.next {w W W' : World} {bi : Nat} {v : Value} {ls : List De} {S S' : St} (h : Gs w bi v ls S W) (hi : InAt W' bi S') (hf : Frm W.heap.size bi W W') : Gs w bi v ls S' W' := by
  have e1 := h.lt
  exact ⟨hi, h.own.keep fun g hg => hf.block g (h.own.lt hg).2 (by have := (h.own.lt hg).1; omega), h.frm.trans (hf.mono h.frm.size), e1⟩
theorem Gs.box {w W : World} {bi : Nat} {v : Value} {ls : List De} {S : St} (h : Gs w bi v ls S W) (o : Obj) : Gs w bi v ls S (W.alloc o) := by
  have hb : Below W.heap.size W (W.alloc o) := (Below.refl _ _).alloc (Nat.le_refl _) _
  exact h.next (h.inn.kept (hb.block _ h.inn.lt)) (Frm.of_below hb)
theorem Gs.ok {w W : World} {bi : Nat} {v : Value} {ls : List De} {S : St} (h : Gs w bi v ls S W) (hw : Okd w) (hb : 0 < bi) : Okd W :=
  hw.below (h.frm.below (Nat.le_refl bi) (Nat.le_of_lt h.lt)) hb
theorem Gs.app {w W W2 : World} {bi : Nat} {v v2 : Value} {ls ls2 : List De} {S : St} (h : Gs w bi v ls S W) (o : Obj) (h2 : Own W2 w.heap.size v2 ls2) (hg : (W.alloc o).grownBy W2 v.ownBlock) : Gs w bi v2 ls2 S W2 := by
  have h1 := h.box o
  have e1 := h.lt
  refine ⟨h1.inn.kept (hg.block bi h1.inn.lt (fun e => ?_)), h2, h1.frm.grown hg h1.frm.size (fun k e => .inl (h1.own.lt e).1), e1⟩
  have := (h1.own.lt e.symm).1
  omega
/-- The row that is made. -/
def mkD (m : Nat) : Obj := .cells (madeCells (Value.agg #[.int .i64 0, .int .i64 0, .int .i64 0]).cells (m * 3)) 80
theorem run_mkD (m : Nat) (hm : m ≤ 32) (W : World) : (Instr.makeSlice 38 (.int .i64 0) (.int .i64 (m : Int))).run Tryd.prog W = .ok (.slice (some ⟨W.heap.size, 0, none⟩) 0 m) (W.alloc (mkD m)) := by
  obtain ⟨i, hi, hz0, hz1, hz2⟩ := info_parts infoD
  have h := run_make (P := Tryd.prog) W 38 80 i _ Tryd.underlying38 hi hz0 .i64 .i64 0 (m : Int) (by omega) (by omega) (by rw [hz2]; omega) (by omega)
  rw [hz1, Int.toNat_natCast, Int.toNat_zero] at h
  exact h
theorem gs_made {w W : World} {bi : Nat} {S : St} (m : Nat) (hm : m ≤ 32) (hi : InAt W bi S) (hf : Frm w.heap.size bi w W) (hlt : bi < w.heap.size) : Gs w bi (.slice (some ⟨W.heap.size, 0, none⟩) 0 m) [] S (W.alloc (mkD m)) := by
  have hb : Below W.heap.size W (W.alloc (mkD m)) := (Below.refl _ _).alloc (Nat.le_refl _) _
  exact ⟨hi.kept (hb.block _ hi.lt), World.ownsRow_made W _ m hf.size (by unfold maxLen; omega) (size_madeCells _ _), hf.trans (Frm.of_below (hb.mono hf.size)), hlt⟩
theorem rdL_stuck {s : St} {j : Nat} {q : List De × St × Nat} (h : rdL s j = q) (hq : q.2.2 ≠ 0) : ∀ k, j ≤ k → rdL s k = q := by
  intro k hk
  induction k with
  | zero =>
    obtain rfl : j = 0 := by omega
    exact h
  | succ k ih =>
    rcases Nat.eq_or_lt_of_le hk with e | e
    · subst e; exact h
    · have := ih (by omega)
      simp only [rdL, this]
      rw [if_pos hq]
theorem pAll_eq (s : St) : pAll s = if (pN s).2.err ≠ 0 then ([], (pN s).2, (pN s).2.err) else if 32 < (pN s).1 then ([], (pN s).2, 4) else ((rdL (pN s).2 (pN s).1.toNat).1.map cutD, (rdL (pN s).2 (pN s).1.toNat).2.1, (rdL (pN s).2 (pN s).1.toNat).2.2) := rfl

theorem all_ret {w W : World} {bi n cap : Nat} {A : Option Addr} {ls : List De} {S : St} {e : Nat} {act : Act} {r : List De × St × Nat} (hr : r = (ls, S, e)) (hn : n = ls.length) (h2 : act.tmps[2]?.getD undef = .slice A n cap) (h3 : act.tmps[3]?.getD undef = .int .i64 (e : Int)) (hd : act.defers = [])
    (hA : DAt W A ls) (hi : InAt W bi S) (hf : Frm w.heap.size bi w W) : bodyPost Tryd.prog Tryd.f53 (AllPost bi r w) .ret act W := by
  subst hr hn
  refine bodyPost_ret (v := .tuple #[.slice A ls.length cap, .int .i64 (e : Int)]) ?_ hd ⟨_, rfl, ⟨A, cap, rfl, hA⟩, hi, hf⟩
  simp [results, Tryd.results53, go_sem, h2, h3]

set_option maxRecDepth 100000 in
set_option maxHeartbeats 8000000 in
theorem getAll_any (w : World) (bi : Nat) (s : St) (hi : InAt w bi s) (hok : s.ok) (hl : s.rest.length ≤ 140737488355328) (hw : Okd w) (hbi : 0 < bi) :
    Calls Tryd.prog 53 #[.pointer (some ⟨bi, 0, none⟩)] w (AllPost bi (pAll s) w) := by
  have hlt := hi.lt
  have HN := Lib.hid (num_any w bi s hi hok hl)
  obtain ⟨r, hr⟩ : ∃ r, r = pAll s := ⟨_, rfl⟩
  have HR := Lib.hid (hr.trans (pAll_eq s))
  rw [← hr]
  have hok1 := pN_ok hok
  have hl1 := Nat.le_trans (pN_left s) hl
  have hn0 : 0 ≤ (pN s).1 := by unfold pN; dsimp only; omega
  have HW := Lib.hid (And.intro hw hbi)
  clear hr hi hok hl hw hbi
  generalize pN s = N at *
  obtain ⟨n, S⟩ := N
  dsimp only at HN HR hok1 hl1 hn0
  go_enter Tryd.func53, Tryd.ntmps53
  go_wp2_with fail
  refine HN.out.mono ?_
  rintro e w1 ⟨rfl, hi1, hf1⟩
  have HI1 := Lib.hid hi1
  have HF1 := Lib.hid hf1
  have HEr := Lib.hid (err_any w1 bi S hi1)
  clear hi1 hf1 HN
  go_wp2_with fail
  refine HEr.out.mono ?_
  rintro e w2 ⟨rfl, rfl⟩
  by_cases he : S.err = 0
  · have he' : ((S.err : Int) != 0) = false := by simp [he]
    have HE0 := Lib.hid he
    clear he
    by_cases h32 : 32 < n
    · have HRR : Hid (r = ([], S, 4)) := Lib.hid (by rw [HR.out, if_neg (by simp [HE0.out]), if_pos h32])
      have hd : decide (32 < n) = true := by simpa using h32
      clear HR h32
      go_wp2_with fail
      exact all_ret HRR.out rfl (by rfl) (by rfl) rfl (DAt.nil _ _) HI1.out HF1.out
    · have HR0 : Hid (r = ((rdL S n.toNat).1.map cutD, (rdL S n.toNat).2.1, (rdL S n.toNat).2.2)) := Lib.hid (by rw [HR.out, if_neg (by simp [HE0.out]), if_neg h32])
      obtain ⟨m, rfl⟩ : ∃ m : Nat, n = (m : Int) := ⟨n.toNat, by omega⟩
      have HRR : Hid (r = ((rdL S m).1.map cutD, (rdL S m).2.1, (rdL S m).2.2)) := Lib.hid HR0.out
      have hd : decide (32 < (m : Int)) = false := by simp; omega
      have hm32 : m ≤ 32 := by omega
      have hmk := run_mkD m hm32
      have HG0 := Lib.hid (gs_made m hm32 HI1.out HF1.out hlt)
      clear HR HR0 h32 hn0 HI1 HF1 HEr HE0
      have HStop : Hid (∀ j, j ≤ m → ∀ q : List De × St × Nat, rdL S j = q → q.2.2 ≠ 0 → rdL S m = q) := Lib.hid (fun j hj q h hq => rdL_stuck h hq m hj)
      go_wp2_with fail
      generalize w1.alloc (mkD m) = W2 at *
      generalize w1.heap.size = g0 at *
      go_loopw [6, 21] (fun v i wr => ∃ (j : Nat) (ls : List De) (S' : St), j ≤ m ∧ i = .int .i64 (j : Int) ∧ Hid (rdL S j = (ls, S', 0)) ∧ Hid (Gs w bi v (ls.map cutD) S' wr) ∧ Hid (S'.ok ∧ S'.rest.length ≤ 140737488355328)) (fun _ i _ => m - (intOf i).toNat)
      case atStart => exact ⟨0, [], S, Nat.zero_le _, rfl, Lib.hid rfl, HG0, Lib.hid ⟨hok1, hl1⟩⟩
      case round =>
        obtain ⟨j, ls, S', hj, rfl, HL, HG, HO⟩ := hrel
        have hlen : ls.length = j := by have := rdL_length j (by rw [HL.out] : (rdL S j).2.2 = 0); rwa [HL.out] at this
        obtain ⟨A, cap, hv⟩ := HG.out.own.slice
        rw [List.length_map, hlen] at hv
        subst hv
        by_cases hlt2 : j < m
        · have hlt' : (j : Int) < (m : Int) := by omega
          have HD := Lib.hid (getD_any wr bi S' HG.out.inn HO.out.1 HO.out.2)
          unfold OnePost8 at HD
          have HNx : Hid (rdL S (j + 1) = if (rdD S').2.2 ≠ 0 then ([], (rdD S').2.1, (rdD S').2.2) else (ls ++ [(rdD S').1], (rdD S').2.1, 0)) := Lib.hid (by simp only [rdL, HL.out]; rfl)
          have HO2 := Lib.hid (And.intro (pD_ok HO.out.1) (Nat.le_trans (pD_left S') HO.out.2))
          have HX1 := Lib.hid (fun h => pD_err (s := S') h)
          have HX2 := Lib.hid (fun h1 h2 => pD_kind (s := S') h1 h2)
          have HX3 := Lib.hid (fun h1 h2 => pD_fine (s := S') h1 h2)
          clear HO HL
          generalize pD S' = q at *
          generalize rdD S' = rr at *
          obtain ⟨⟨k, x, y⟩, T⟩ := q
          obtain ⟨dd, T', e'⟩ := rr
          dsimp only at HD HNx HO2 HX1 HX2 HX3
          go_wp2_with fail
          refine HD.out.mono ?_
          rintro e w3 ⟨rfl, hi3, hf3⟩
          have HG3 := Lib.hid (HG.out.next hi3 hf3)
          have HG4 := Lib.hid (HG3.out.box (declBox k x y))
          have hbx := box_at w3 (k, x, y)
          dsimp only at hbx
          unfold declBox at HG4 hbx
          clear hi3 hf3 HG HD HG3
          go_upto_region 11 with fail
          generalize w3.alloc (.cells #[.int .i64 k, .int .i64 x, .int .i64 y] 80) = W4 at *
          generalize w3.heap.size = d at *
          obtain ⟨c0, c1, c2⟩ := hbx
          have HEr := Lib.hid (err_any W4 bi T HG4.out.inn)
          go_wp2_with fail
          refine HEr.out.mono ?_
          rintro e w5 ⟨rfl, rfl⟩
          by_cases hT : T.err = 0
          · have hT' : ((T.err : Int) != 0) = false := by simp [hT]
            have HK := Lib.hid (known_any k W4 (HG4.out.ok HW.out.1 HW.out.2))
            by_cases hk : 1 ≤ k ∧ k ≤ 7
            · rw [decide_eq_true hk] at HK
              obtain ⟨hx1, hx2⟩ := HX3.out hT hk
              injection hx1 with hx3 hx4
              have HQ : Hid (rdL S (j + 1) = (ls ++ [dd], T, 0)) := Lib.hid (by rw [HNx.out, hx3, hx4]; rfl)
              have HM : Hid ((ls ++ [dd]).map cutD = ls.map cutD ++ [(k, x, y)]) := Lib.hid (by rw [List.map_append, hx2]; rfl)
              have hown1 : Own (W4.alloc (declBox k x y)) w.heap.size (.slice A j cap) (ls.map cutD) := (HG4.out.box (declBox k x y)).own
              have hone : DAt (W4.alloc (declBox k x y)) (some ⟨W4.heap.size, 0, none⟩) [(k, x, y)] := DAt.one (heap_alloc_new W4 _)
              have hbase : w.heap.size ≤ W4.heap.size := HG4.out.frm.size
              have hll : (ls.map cutD).length = j := by rw [List.length_map, hlen]
              have Hap := fun (v2 : Value) (W2 : World) (h1 : Own W2 w.heap.size v2 (ls.map cutD ++ [(k, x, y)])) (h2 : (W4.alloc (declBox k x y)).grownBy W2 (Value.slice A j cap).ownBlock) => HG4.out.app (declBox k x y) h1 h2
              unfold declBox at hown1 hone Hap
              clear hx2 hx3 hx4 HX1 HX2 HX3 HNx hT hk
              generalize ls.map cutD = lc at *
              go_wp2_with fail
              refine HK.out.mono ?_
              rintro e w6 ⟨rfl, rfl⟩
              go_wp2_with (
                at_builtin
                refine wpList_appD (by rfl) (.tmp 34) (.tmp 36) (by rfl) w.heap.size 1 1 (.slice A j cap) (some ⟨W4.heap.size, 0, none⟩) lc [(k, x, y)] (by rfl) hown1 (by rfl) rfl (fun h => by cases h) hone (by simp; omega) (by simp; omega) ?_)
              intro v2 W5 hv2 hg2
              have HG5 := Lib.hid (Hap v2 W5 hv2 ⟨hg2.os, hg2.tape, hg2.output, hg2.size, hg2.block⟩)
              clear hown1 hone hv2 hg2 Hap c0 c1 c2
              go_wp2
              go_roundw
              case rel => exact ⟨j + 1, ls ++ [dd], T, by omega, by go_num, HQ, by rw [HM.out]; exact HG5, HO2⟩
              case measure => simp [intOf]; omega
            · rw [decide_eq_false hk] at HK
              have hx1 := HX2.out hT hk
              injection hx1 with hx3 hx4
              have HQ : Hid (rdL S m = ([], T, 6)) := Lib.hid (HStop.out (j + 1) (by omega) ([], T, 6) (by rw [HNx.out, hx3, hx4]; rfl) (by show 6 ≠ 0; decide))
              have HV : Hid (r = ([], T, 6)) := Lib.hid (by rw [HRR.out, HQ.out]; rfl)
              clear hx3 hx4 HX1 HX2 HX3 HNx hT hk HQ HRR
              go_wp2_with fail
              refine HK.out.mono ?_
              rintro e w6 ⟨rfl, rfl⟩
              go_wp2_with fail
              exact all_ret HV.out rfl (by rfl) (by rfl) rfl (DAt.nil _ _) HG4.out.inn HG4.out.frm
          · have hT' : ((T.err : Int) != 0) = true := by simpa using hT
            have hx1 := HX1.out hT
            injection hx1 with hx3 hx4
            have HQ : Hid (rdL S m = ([], T, T.err)) := Lib.hid (HStop.out (j + 1) (by omega) ([], T, T.err) (by rw [HNx.out, hx3, hx4, if_pos hT]) hT)
            have HV : Hid (r = ([], T, T.err)) := Lib.hid (by rw [HRR.out, HQ.out]; rfl)
            clear hx3 hx4 HX1 HX2 HX3 HNx hT HQ HRR
            go_wp2_with fail
            exact all_ret HV.out rfl (by rfl) (by rfl) rfl (DAt.nil _ _) HG4.out.inn HG4.out.frm
        · obtain rfl : j = m := by omega
          have HV : Hid (r = (ls.map cutD, S', 0)) := Lib.hid (by rw [HRR.out, HL.out])
          go_wp2_with fail
          exact all_ret HV.out (by rw [List.length_map, hlen]) (by rfl) (by rfl) rfl HG.out.own.at HG.out.inn HG.out.frm
  · have HRR : Hid (r = ([], S, S.err)) := Lib.hid (by rw [HR.out, if_pos he])
    have he' : ((S.err : Int) != 0) = true := by simpa using he
    clear HR he
    go_wp2_with fail
    exact all_ret HRR.out rfl (by rfl) (by rfl) rfl (DAt.nil _ _) HI1.out HF1.out
end Go.Proofs.YtaefkkhmhogpeaaDoor.objs
