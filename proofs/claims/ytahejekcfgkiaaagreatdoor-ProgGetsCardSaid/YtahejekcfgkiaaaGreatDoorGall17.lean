/-
  Texts of one claim in one file: EGetRow, EPut, EGot, EPost, EGetIn, DRefNum, DGetOne, DGetAll, DPut, DRefRead. Each has its own sentence, with its conditions.
-/
import Derived.Test.YtahejekcfgkiaaaGreatDoorGall16
import Derived.Laws.MakeOwn
import Derived.Test.YtahejekcfgkiaaaGreatDoorGall12
import Derived.Test.YtahejekcfgkiaaaGreatDoorGall11
import Derived.Test.YtahejekcfgkiaaaGreatDoorGall15
import Derived.StillTailTactics
import Derived.Test.YtahejekcfgkiaaaGreatDoorGall9
import Derived.Test.YtahejekcfgkiaaaGreatDoorGall7
import Derived.Test.YtahejekcfgkiaaaGreatDoorGall5
import Derived.RegionTactic
import Derived.BigRegion
import Derived.Test.YtahejekcfgkiaaaGreatDoorGall8
/-
  The program's own reading of a way's needs, and of all ways, before they are checked (typed over the code of 5ef5b61): for every text of at most two to the forty-seventh bytes. No other condition.
-/
namespace Go.Proofs.YtahejekcfgkiaaaGreatDoor.need
open Go.RowKit Go.ChangeShapes
open Go.Proofs.YtahejekcfgkiaaaGreatDoor.octet (St InAt Frm rdNum rdNum_ok rdNum_left err_any)
open Go.Proofs.YtahejekcfgkiaaaGreatDoor.span (pN num_any)
open Go.Proofs.YtahejekcfgkiaaaGreatDoor.objs (De zero DAt)
set_option linter.unusedVariables false

/-- How many there are, and what is wrong with that. -/
def mny (s : St) : Nat × Nat := if (rdNum s).2.err ≠ 0 then (0, (rdNum s).2.err) else if 4 < (rdNum s).1 then (0, 4) else ((rdNum s).1, 0)
set_option maxHeartbeats 1000000 in
theorem mny_any (w : World) (bi : Nat) (s : St) (hi : InAt w bi s) (hok : s.ok) (hl : s.rest.length ≤ 140737489403904) :
    Calls Tryz.prog 110 #[.pointer (some ⟨bi, 0, none⟩), .int .i64 4] w fun e w' => e = .returned (.tuple #[.int .i64 ((mny s).1 : Int), .int .i64 ((mny s).2 : Int)]) ∧ InAt w' bi (rdNum s).2 ∧ Frm w.heap.size bi w w' := by
  have HN := Lib.hid (num_any w bi s hi hok hl)
  obtain ⟨r, hr⟩ : ∃ r, r = mny s := ⟨_, rfl⟩
  have HR := Lib.hid hr
  rw [← hr]
  unfold mny at HR
  unfold pN at HN
  generalize rdNum s = N at *
  obtain ⟨n, S⟩ := N
  dsimp only at HN HR ⊢
  clear hr hi hok hl
  go_enter Tryz.func110, Tryz.ntmps110
  go_wp2_with fail
  refine HN.out.mono ?_
  rintro e w1 ⟨rfl, hi1, hf1⟩
  have HI1 := Lib.hid hi1
  have HF1 := Lib.hid hf1
  have HEr := Lib.hid (err_any w1 bi S hi1)
  clear hi1 hf1 HN
  go_wp2_with fail
  refine HEr.out.mono ?_
  rintro e w2 ⟨rfl, rfl⟩
  by_cases he : S.err = 0
  · have he' : ((S.err : Int) != 0) = false := by simp [he]
    by_cases h4 : 4 < n
    · have HV : Hid (r = (0, 4)) := Lib.hid (by rw [HR.out, if_neg (by simp [he]), if_pos h4])
      have hd : decide ((4 : Int) < ((min n 2147483647 : Nat) : Int)) = true := by simp; omega
      clear he h4
      generalize ((min n 2147483647 : Nat) : Int) = x at *
      go_wp2_with fail
      go_ret2
      exact ⟨by rw [HV.out]; rfl, HI1.out, HF1.out⟩
    · have HV : Hid (r = (n, 0)) := Lib.hid (by rw [HR.out, if_neg (by simp [he]), if_neg h4])
      have hx : ((min n 2147483647 : Nat) : Int) = (n : Int) := by omega
      have hd : decide ((4 : Int) < (n : Int)) = false := by simp; omega
      rw [hx]
      clear he h4 hx
      go_wp2_with fail
      go_ret2
      exact ⟨by rw [HV.out]; rfl, HI1.out, HF1.out⟩
  · have he' : ((S.err : Int) != 0) = true := by simpa using he
    have HV : Hid (r = (0, S.err)) := Lib.hid (by rw [HR.out, if_pos he])
    clear he
    go_wp2_with fail
    go_ret2
    exact ⟨by rw [HV.out]; rfl, HI1.out, HF1.out⟩

/-- What getNeeds tells, and leaves. -/
def NeedsPost (bi : Nat) (r : List De × St × Nat) (w : World) (e : Ending) (w' : World) : Prop :=
  ∃ v, e = .returned (.tuple #[v, .int .i64 (r.2.2 : Int)]) ∧ OwnN w' w.heap.size v (r.1.map cutN) ∧ InAt w' bi r.2.1 ∧ Frm w.heap.size bi w w'

/-- Between two needs that are read: the reader, and the row that grows. -/
structure Gn (w : World) (bi : Nat) (v : Value) (ls : List De) (S : St) (W : World) : Prop where
  inn : InAt W bi S
  own : OwnN W w.heap.size v ls
  frm : Frm w.heap.size bi w W
  lt : bi < w.heap.size
theorem Gn.next {w W W' : World} {bi : Nat} {v : Value} {ls : List De} {S S' : St} (h : Gn w bi v ls S W) (hi : InAt W' bi S') (hf : Frm W.heap.size bi W W') : Gn w bi v ls S' W' := by
  have e1 := h.lt
  exact ⟨hi, h.own.keep fun g hg => hf.block g (h.own.lt hg).2 (by have := (h.own.lt hg).1; omega), h.frm.trans (hf.mono h.frm.size), e1⟩
theorem Gn.box {w W : World} {bi : Nat} {v : Value} {ls : List De} {S : St} (h : Gn w bi v ls S W) (o : Obj) : Gn w bi v ls S (W.alloc o) := by
  have hb : Below W.heap.size W (W.alloc o) := (Below.refl _ _).alloc (Nat.le_refl _) _
  exact h.next (h.inn.kept (hb.block _ h.inn.lt)) (Frm.of_below hb)
theorem Gn.app {w W W2 : World} {bi : Nat} {v v2 : Value} {ls ls2 : List De} {S : St} (h : Gn w bi v ls S W) (o : Obj) (h2 : OwnN W2 w.heap.size v2 ls2) (hg : (W.alloc o).grownBy W2 v.ownBlock) : Gn w bi v2 ls2 S W2 := by
  have h1 := h.box o
  have e1 := h.lt
  refine ⟨h1.inn.kept (hg.block bi h1.inn.lt (fun e => ?_)), h2, h1.frm.grown hg h1.frm.size (fun k e => .inl (h1.own.lt e).1), e1⟩
  have := (h1.own.lt e.symm).1
  omega
/-- The row of needs that is made. -/
def mkN (m : Nat) : Obj := .cells (madeCells (Value.agg #[.int .i64 0, .int .i64 0, .int .i64 0]).cells (m * 3)) 93
theorem run_mkN (m : Nat) (hm : m ≤ 4) (W : World) : (Instr.makeSlice 89 (.int .i64 0) (.int .i64 (m : Int))).run Tryz.prog W = .ok (.slice (some ⟨W.heap.size, 0, none⟩) 0 m) (W.alloc (mkN m)) := by
  obtain ⟨i, hi, hz0, hz1, hz2⟩ := info_parts infoN
  have h := run_make (P := Tryz.prog) W 89 93 i _ Tryz.underlying89 hi hz0 .i64 .i64 0 (m : Int) (by omega) (by omega) (by rw [hz2]; omega) (by omega)
  rw [hz1, Int.toNat_natCast, Int.toNat_zero] at h
  exact h
theorem gn_made {w W : World} {bi : Nat} {S : St} (m : Nat) (hm : m ≤ 4) (hi : InAt W bi S) (hf : Frm w.heap.size bi w W) (hlt : bi < w.heap.size) : Gn w bi (.slice (some ⟨W.heap.size, 0, none⟩) 0 m) [] S (W.alloc (mkN m)) := by
  have hb : Below W.heap.size W (W.alloc (mkN m)) := (Below.refl _ _).alloc (Nat.le_refl _) _
  exact ⟨hi.kept (hb.block _ hi.lt), World.ownsRow_made W _ m hf.size (by unfold maxLen; omega) (size_madeCells _ _), hf.trans (Frm.of_below (hb.mono hf.size)), hlt⟩

theorem needs_ret {w W : World} {bi n cap : Nat} {A : Option Addr} {ls : List De} {S : St} {e : Nat} {act : Act} {r : List De × St × Nat} (hr : r = (ls, S, e)) (h2 : act.tmps[2]?.getD undef = .slice A n cap) (h3 : act.tmps[3]?.getD undef = .int .i64 (e : Int)) (hd : act.defers = [])
    (hA : OwnN W w.heap.size (.slice A n cap) (ls.map cutN)) (hi : InAt W bi S) (hf : Frm w.heap.size bi w W) : bodyPost Tryz.prog Tryz.f111 (NeedsPost bi r w) .ret act W := by
  subst hr
  refine bodyPost_ret (v := .tuple #[.slice A n cap, .int .i64 (e : Int)]) ?_ hd ⟨_, rfl, hA, hi, hf⟩
  simp [results, Tryz.results111, go_sem, h2, h3]

set_option maxRecDepth 100000 in
set_option maxHeartbeats 8000000 in
theorem getNeeds_any (w : World) (bi : Nat) (s : St) (hi : InAt w bi s) (hok : s.ok) (hl : s.rest.length ≤ 140737489403904) :
    Calls Tryz.prog 111 #[.pointer (some ⟨bi, 0, none⟩)] w (NeedsPost bi (rdWay s) w) := by
  have hlt := hi.lt
  have HN := Lib.hid (mny_any w bi s hi hok hl)
  obtain ⟨r, hr⟩ : ∃ r, r = rdWay s := ⟨_, rfl⟩
  have HR := Lib.hid (hr.trans (rdWay_eq s))
  rw [← hr]
  have hok1 := rdNum_ok hok
  have hl1 := Nat.le_trans (rdNum_left s) hl
  clear hr hi hok hl
  unfold mny at HN
  generalize rdNum s = N at *
  obtain ⟨n, S⟩ := N
  dsimp only at HN HR hok1 hl1
  by_cases he : S.err ≠ 0
  · rw [if_pos he] at HN HR
    have he' : ((S.err : Int) != 0) = true := by simpa using he
    clear he
    go_enter Tryz.func111, Tryz.ntmps111
    go_wp2_with fail
    refine HN.out.mono ?_
    rintro e w1 ⟨rfl, hi1, hf1⟩
    have HI1 := Lib.hid hi1
    have HF1 := Lib.hid hf1
    clear hi1 hf1 HN
    go_wp2_with fail
    exact needs_ret HR.out (by rfl) (by rfl) rfl (OwnN.nil _ _) HI1.out HF1.out
  · rw [if_neg he] at HN HR
    clear he
    by_cases h4 : 4 < n
    · rw [if_pos h4] at HN HR
      clear h4
      go_enter Tryz.func111, Tryz.ntmps111
      go_wp2_with fail
      refine HN.out.mono ?_
      rintro e w1 ⟨rfl, hi1, hf1⟩
      have HI1 := Lib.hid hi1
      have HF1 := Lib.hid hf1
      clear hi1 hf1 HN
      go_wp2_with fail
      exact needs_ret HR.out (by rfl) (by rfl) rfl (OwnN.nil _ _) HI1.out HF1.out
    · rw [if_neg h4] at HN HR
      have hm4 : n ≤ 4 := by omega
      have hmk := run_mkN n hm4
      clear h4
      have HStop : Hid (∀ j, j ≤ n → ∀ q : List De × St × Nat, rdNeeds S j = q → q.2.2 ≠ 0 → rdNeeds S n = q) := Lib.hid (fun j hj q h hq => rdNeeds_stuck h hq n hj)
      go_enter Tryz.func111, Tryz.ntmps111
      go_wp2_with fail
      refine HN.out.mono ?_
      rintro e w1 ⟨rfl, hi1, hf1⟩
      have HG0 := Lib.hid (gn_made n hm4 hi1 hf1 hlt)
      clear hi1 hf1 HN
      go_wp2_with fail
      generalize w1.alloc (mkN n) = W2 at *
      generalize w1.heap.size = g0 at *
      go_loopw [6, 20] (fun v i wr => ∃ (j : Nat) (ls : List De) (S' : St), j ≤ n ∧ i = .int .i64 (j : Int) ∧ Hid (rdNeeds S j = (ls, S', 0)) ∧ Hid (Gn w bi v (ls.map cutN) S' wr) ∧ Hid (S'.ok ∧ S'.rest.length ≤ 140737489403904)) (fun _ i _ => n - (intOf i).toNat)
      case atStart => exact ⟨0, [], S, Nat.zero_le _, rfl, Lib.hid rfl, HG0, Lib.hid ⟨hok1, hl1⟩⟩
      case round =>
        obtain ⟨j, ls, S', hj, rfl, HL, HG, HO⟩ := hrel
        have hlen : ls.length = j := by have := rdNeeds_length j (by rw [HL.out] : (rdNeeds S j).2.2 = 0); rwa [HL.out] at this
        obtain ⟨A, cap, hv⟩ := HG.out.own.slice
        rw [List.length_map, hlen] at hv
        subst hv
        by_cases hlt2 : j < n
        · have hlt' : (j : Int) < (n : Int) := by omega
          have HD := Lib.hid (getN_any wr bi S' HG.out.inn HO.out.1 HO.out.2)
          unfold OnePostN at HD
          have HNx : Hid (rdNeeds S (j + 1) = if (rdNeed S').2.2 ≠ 0 then ([], (rdNeed S').2.1, (rdNeed S').2.2) else (ls ++ [(rdNeed S').1], (rdNeed S').2.1, 0)) := Lib.hid (by simp only [rdNeeds, HL.out]; rfl)
          have HO2 := Lib.hid (And.intro (pNeed_ok HO.out.1) (Nat.le_trans (pNeed_left S') HO.out.2))
          have HX1 := Lib.hid (fun h => pNeed_err (s := S') h)
          have HX2 := Lib.hid (fun h1 h2 => pNeed_kind (s := S') h1 h2)
          have HX3 := Lib.hid (fun h1 h2 => pNeed_fine (s := S') h1 h2)
          clear HO HL
          generalize pNeed S' = q at *
          generalize rdNeed S' = rr at *
          obtain ⟨⟨k, x, y⟩, T⟩ := q
          obtain ⟨dd, T', e'⟩ := rr
          dsimp only at HD HNx HO2 HX1 HX2 HX3
          go_wp2_with fail
          refine HD.out.mono ?_
          rintro e w3 ⟨rfl, hi3, hf3⟩
          have HG3 := Lib.hid (HG.out.next hi3 hf3)
          have HG4 := Lib.hid (HG3.out.box (needBox k x y))
          have hbx := nbox_at w3 k x y
          unfold needBox at HG4 hbx
          clear hi3 hf3 HG HD HG3
          go_upto_region 8 with fail
          generalize w3.alloc (.cells #[.int .i64 k, .int .i64 x, .int .i64 y] 93) = W4 at *
          generalize w3.heap.size = d at *
          obtain ⟨c0, c1, c2⟩ := hbx
          have HEr := Lib.hid (err_any W4 bi T HG4.out.inn)
          have HK := fun W => Lib.hid (known_any k W)
          go_wp2_with fail
          refine HEr.out.mono ?_
          rintro e w5 ⟨rfl, rfl⟩
          by_cases hT : T.err = 0
          · have hT' : ((T.err : Int) != 0) = false := by simp [hT]
            by_cases hk : 1 ≤ k ∧ k ≤ 5
            · rw [decide_eq_true hk] at HK
              obtain ⟨hx1, hx2⟩ := HX3.out hT hk
              injection hx1 with hx3 hx4
              have HQ : Hid (rdNeeds S (j + 1) = (ls ++ [dd], T, 0)) := Lib.hid (by rw [HNx.out, hx3, hx4]; rfl)
              have HM : Hid ((ls ++ [dd]).map cutN = ls.map cutN ++ [(k, x, y)]) := Lib.hid (by rw [List.map_append, hx2]; rfl)
              have hown1 : OwnN (W4.alloc (needBox k x y)) w.heap.size (.slice A j cap) (ls.map cutN) := (HG4.out.box (needBox k x y)).own
              have hone : DAt (W4.alloc (needBox k x y)) (some ⟨W4.heap.size, 0, none⟩) [(k, x, y)] := DAt.oneN (d := (k, x, y)) (heap_alloc_new W4 _)
              have hbase : w.heap.size ≤ W4.heap.size := HG4.out.frm.size
              have hll : (ls.map cutN).length = j := by rw [List.length_map, hlen]
              have Hap := fun (v2 : Value) (W2 : World) (h1 : OwnN W2 w.heap.size v2 (ls.map cutN ++ [(k, x, y)])) (h2 : (W4.alloc (needBox k x y)).grownBy W2 (Value.slice A j cap).ownBlock) => HG4.out.app (needBox k x y) h1 h2
              unfold needBox at hown1 hone Hap
              clear hx2 hx3 hx4 HX1 HX2 HX3 HNx hT hk
              generalize ls.map cutN = lc at *
              go_wp2_with fail
              refine (HK _).out.mono ?_
              rintro e w6 ⟨rfl, rfl⟩
              go_wp2_with (
                at_builtin
                refine wpList_appN (by rfl) (.tmp 33) (.tmp 35) (by rfl) w.heap.size 1 1 (.slice A j cap) (some ⟨W4.heap.size, 0, none⟩) lc [(k, x, y)] (by rfl) hown1 (by rfl) rfl (fun h => by cases h) hone (by simp; omega) (by simp; omega) ?_)
              intro v2 W5 hv2 hg2
              have HG5 := Lib.hid (Hap v2 W5 hv2 ⟨hg2.os, hg2.tape, hg2.output, hg2.size, hg2.block⟩)
              clear hown1 hone hv2 hg2 Hap c0 c1 c2
              go_wp2
              go_roundw
              case rel => exact ⟨j + 1, ls ++ [dd], T, by omega, by go_num, HQ, by rw [HM.out]; exact HG5, HO2⟩
              case measure => simp [intOf]; omega
            · rw [decide_eq_false hk] at HK
              have hx1 := HX2.out hT hk
              injection hx1 with hx3 hx4
              have HQ : Hid (rdNeeds S n = ([], T, 6)) := Lib.hid (HStop.out (j + 1) (by omega) ([], T, 6) (by rw [HNx.out, hx3, hx4]; rfl) (by show 6 ≠ 0; decide))
              have HV : Hid (r = ([], T, 6)) := Lib.hid (by rw [HR.out, HQ.out])
              clear hx3 hx4 HX1 HX2 HX3 HNx hT hk HQ HR
              go_wp2_with fail
              refine (HK _).out.mono ?_
              rintro e w6 ⟨rfl, rfl⟩
              go_wp2_with fail
              exact needs_ret HV.out (by rfl) (by rfl) rfl (OwnN.nil _ _) HG4.out.inn HG4.out.frm
          · have hT' : ((T.err : Int) != 0) = true := by simpa using hT
            have hx1 := HX1.out hT
            injection hx1 with hx3 hx4
            have HQ : Hid (rdNeeds S n = ([], T, T.err)) := Lib.hid (HStop.out (j + 1) (by omega) ([], T, T.err) (by rw [HNx.out, hx3, hx4, if_pos hT]) hT)
            have HV : Hid (r = ([], T, T.err)) := Lib.hid (by rw [HR.out, HQ.out])
            clear hx3 hx4 HX1 HX2 HX3 HNx hT HQ HR
            go_wp2_with fail
            exact needs_ret HV.out (by rfl) (by rfl) rfl (OwnN.nil _ _) HG4.out.inn HG4.out.frm
        · obtain rfl : j = n := by omega
          have HV : Hid (r = (ls, S', 0)) := Lib.hid (by rw [HR.out, HL.out])
          go_wp2_with fail
          exact needs_ret HV.out (by rfl) (by rfl) rfl HG.out.own HG.out.inn HG.out.frm

theorem OwnW.hold {w w' : World} {base : Nat} {v : Value} {l : List (List De)} (h : OwnW w base v l) (hk : ∀ g, base ≤ g → g < w.heap.size → w'.heap[g]? = w.heap[g]?) : OwnW w' base v l := by
  obtain ⟨xs, h1, h2⟩ := h
  refine ⟨xs, ⟨h1.1, h1.2.imp id ?_⟩, fun j hj => ?_⟩
  · rintro ⟨g, c, cur, rfl, hg, hh, r⟩
    exact ⟨g, c, cur, rfl, hg, (hk g hg (lt_of_block hh)).trans hh, r⟩
  · obtain ⟨x, h3, h4⟩ := h2 j hj
    exact ⟨x, h3, h4.keep fun g hg => hk g (h4.lt hg).1 (h4.lt hg).2⟩
/-- What getWays tells, and leaves. -/
def WaysPost (bi : Nat) (r : List (List De) × St × Nat) (w : World) (e : Ending) (w' : World) : Prop :=
  ∃ v, e = .returned (.tuple #[v, .int .i64 (r.2.2 : Int)]) ∧ OwnW w' w.heap.size v (r.1.map (·.map cutN)) ∧ InAt w' bi r.2.1 ∧ Frm w.heap.size bi w w'
/-- Between two ways that are read. -/
structure Gw (w : World) (bi : Nat) (v : Value) (ls : List (List De)) (S : St) (W : World) : Prop where
  inn : InAt W bi S
  own : OwnW W w.heap.size v ls
  frm : Frm w.heap.size bi w W
  lt : bi < w.heap.size
theorem Gw.next {w W W' : World} {bi : Nat} {v : Value} {ls : List (List De)} {S S' : St} (h : Gw w bi v ls S W) (hi : InAt W' bi S') (hf : Frm W.heap.size bi W W') : Gw w bi v ls S' W' := by
  have e1 := h.lt
  exact ⟨hi, h.own.hold fun g hg hl => hf.block g hl (by omega), h.frm.trans (hf.mono h.frm.size), e1⟩
theorem Gw.box {w W : World} {bi : Nat} {v : Value} {ls : List (List De)} {S : St} (h : Gw w bi v ls S W) (o : Obj) : Gw w bi v ls S (W.alloc o) := by
  have hb : Below W.heap.size W (W.alloc o) := (Below.refl _ _).alloc (Nat.le_refl _) _
  exact h.next (h.inn.kept (hb.block _ h.inn.lt)) (Frm.of_below hb)
theorem Gw.app {w W W2 : World} {bi : Nat} {v v2 : Value} {ls ls2 : List (List De)} {S : St} (h : Gw w bi v ls S W) (o : Obj) (h2 : OwnW W2 w.heap.size v2 ls2) (hg : (W.alloc o).grownBy W2 v.ownBlock) : Gw w bi v2 ls2 S W2 := by
  have h1 := h.box o
  have e1 := h.lt
  refine ⟨h1.inn.kept (hg.block bi h1.inn.lt (fun e => ?_)), h2, h1.frm.grown hg h1.frm.size (fun k e => .inl (h1.own.lt e).1), e1⟩
  have := (h1.own.lt e.symm).1
  omega
/-- The row of ways that is made. -/
def mkW (m : Nat) : Obj := .cells (madeCells (Value.slice none 0 0).cells (m * 1)) 89
theorem run_mkW (m : Nat) (hm : m ≤ 4) (W : World) : (Instr.makeSlice 45 (.int .i64 0) (.int .i64 (m : Int))).run Tryz.prog W = .ok (.slice (some ⟨W.heap.size, 0, none⟩) 0 m) (W.alloc (mkW m)) := by
  obtain ⟨i, hi, hz0, hz1, hz2⟩ := info_parts infoW
  have h := run_make (P := Tryz.prog) W 45 89 i _ Tryz.underlying45 hi hz0 .i64 .i64 0 (m : Int) (by omega) (by omega) (by rw [hz2]; omega) (by omega)
  rw [hz1, Int.toNat_natCast, Int.toNat_zero] at h
  exact h
theorem gw_made {w W : World} {bi : Nat} {S : St} (m : Nat) (hm : m ≤ 4) (hi : InAt W bi S) (hf : Frm w.heap.size bi w W) (hlt : bi < w.heap.size) : Gw w bi (.slice (some ⟨W.heap.size, 0, none⟩) 0 m) [] S (W.alloc (mkW m)) := by
  have hb : Below W.heap.size W (W.alloc (mkW m)) := (Below.refl _ _).alloc (Nat.le_refl _) _
  exact ⟨hi.kept (hb.block _ hi.lt), ⟨[], World.ownsRow_made W _ m hf.size (by unfold maxLen; omega) (size_madeCells _ _), fun j hj => absurd hj (Nat.not_lt_zero j)⟩, hf.trans (Frm.of_below (hb.mono hf.size)), hlt⟩
theorem ways_ret {w W : World} {bi n cap : Nat} {A : Option Addr} {ls : List (List De)} {S : St} {e : Nat} {act : Act} {r : List (List De) × St × Nat} (hr : r = (ls, S, e)) (h2 : act.tmps[2]?.getD undef = .slice A n cap) (h3 : act.tmps[3]?.getD undef = .int .i64 (e : Int)) (hd : act.defers = [])
    (hA : OwnW W w.heap.size (.slice A n cap) (ls.map (·.map cutN))) (hi : InAt W bi S) (hf : Frm w.heap.size bi w W) : bodyPost Tryz.prog Tryz.f100 (WaysPost bi r w) .ret act W := by
  subst hr
  refine bodyPost_ret (v := .tuple #[.slice A n cap, .int .i64 (e : Int)]) ?_ hd ⟨_, rfl, hA, hi, hf⟩
  simp [results, Tryz.results100, go_sem, h2, h3]

set_option maxRecDepth 100000 in
set_option maxHeartbeats 8000000 in
theorem getWays_any (w : World) (bi : Nat) (s : St) (hi : InAt w bi s) (hok : s.ok) (hl : s.rest.length ≤ 140737489403904) :
    Calls Tryz.prog 100 #[.pointer (some ⟨bi, 0, none⟩)] w (WaysPost bi (allW s) w) := by
  have hlt := hi.lt
  have HN := Lib.hid (mny_any w bi s hi hok hl)
  obtain ⟨r, hr⟩ : ∃ r, r = allW s := ⟨_, rfl⟩
  have HR := Lib.hid hr
  rw [← hr]
  have hok1 := rdNum_ok hok
  have hl1 := Nat.le_trans (rdNum_left s) hl
  clear hr hi hok hl
  unfold mny at HN
  unfold allW at HR
  generalize rdNum s = N at *
  obtain ⟨n, S⟩ := N
  dsimp only at HN HR hok1 hl1
  by_cases he : S.err ≠ 0
  · rw [if_pos he] at HN HR
    have he' : ((S.err : Int) != 0) = true := by simpa using he
    clear he
    go_enter Tryz.func100, Tryz.ntmps100
    go_wp2_with fail
    refine HN.out.mono ?_
    rintro e w1 ⟨rfl, hi1, hf1⟩
    have HI1 := Lib.hid hi1
    have HF1 := Lib.hid hf1
    clear hi1 hf1 HN
    go_wp2_with fail
    exact ways_ret HR.out (by rfl) (by rfl) rfl (OwnW.nil _ _) HI1.out HF1.out
  · rw [if_neg he] at HN HR
    clear he
    by_cases h4 : 4 < n
    · rw [if_pos h4] at HN HR
      clear h4
      go_enter Tryz.func100, Tryz.ntmps100
      go_wp2_with fail
      refine HN.out.mono ?_
      rintro e w1 ⟨rfl, hi1, hf1⟩
      have HI1 := Lib.hid hi1
      have HF1 := Lib.hid hf1
      clear hi1 hf1 HN
      go_wp2_with fail
      exact ways_ret HR.out (by rfl) (by rfl) rfl (OwnW.nil _ _) HI1.out HF1.out
    · rw [if_neg h4] at HN HR
      have hm4 : n ≤ 4 := by omega
      have hmk := run_mkW n hm4
      clear h4
      have HStop : Hid (∀ j, j ≤ n → ∀ q : List (List De) × St × Nat, rdWays S j = q → q.2.2 ≠ 0 → rdWays S n = q) := Lib.hid (fun j hj q h hq => rdWays_stuck h hq n hj)
      go_enter Tryz.func100, Tryz.ntmps100
      go_wp2_with fail
      refine HN.out.mono ?_
      rintro e w1 ⟨rfl, hi1, hf1⟩
      have HG0 := Lib.hid (gw_made n hm4 hi1 hf1 hlt)
      clear hi1 hf1 HN
      go_wp2_with fail
      generalize w1.alloc (mkW n) = W2 at *
      generalize w1.heap.size = g0 at *
      go_loopw [6, 20] (fun v i wr => ∃ (j : Nat) (ls : List (List De)) (S' : St), j ≤ n ∧ i = .int .i64 (j : Int) ∧ Hid (rdWays S j = (ls, S', 0)) ∧ Hid (Gw w bi v (ls.map (·.map cutN)) S' wr) ∧ Hid (S'.ok ∧ S'.rest.length ≤ 140737489403904)) (fun _ i _ => n - (intOf i).toNat)
      case atStart => exact ⟨0, [], S, Nat.zero_le _, rfl, Lib.hid rfl, HG0, Lib.hid ⟨hok1, hl1⟩⟩
      case round =>
        obtain ⟨j, ls, S', hj, rfl, HL, HG, HO⟩ := hrel
        have hlen : ls.length = j := by have := rdWays_length j (by rw [HL.out] : (rdWays S j).2.2 = 0); rwa [HL.out] at this
        obtain ⟨A, cap, hv⟩ := HG.out.own.slice
        rw [List.length_map, hlen] at hv
        subst hv
        by_cases hlt2 : j < n
        · have hlt' : (j : Int) < (n : Int) := by omega
          have HD := Lib.hid (getNeeds_any wr bi S' HG.out.inn HO.out.1 HO.out.2)
          unfold NeedsPost at HD
          have HNx : Hid (rdWays S (j + 1) = if (rdWay S').2.2 ≠ 0 then ([], (rdWay S').2.1, (rdWay S').2.2) else (ls ++ [(rdWay S').1], (rdWay S').2.1, 0)) := Lib.hid (by simp only [rdWays, HL.out]; rfl)
          have HO2 := Lib.hid (And.intro (rdWay_ok HO.out.1) (Nat.le_trans (rdWay_left S') HO.out.2))
          clear HO HL
          generalize rdWay S' = q at *
          obtain ⟨x, T, e⟩ := q
          dsimp only at HD HNx HO2
          go_wp2_with fail
          refine HD.out.mono ?_
          rintro e1 w3 ⟨vx, rfl, hx3, hi3, hf3⟩
          have HG3 := Lib.hid (HG.out.next hi3 hf3)
          have HX3 := Lib.hid (hx3.base HG.out.frm.size)
          obtain ⟨Ax, cx, hvx⟩ := hx3.slice
          have HVx := Lib.hid hvx
          clear hi3 hf3 hx3 HG HD hvx
          by_cases hT : e = 0
          · have hT' : ((e : Int) != 0) = false := by simp [hT]
            have HQ : Hid (rdWays S (j + 1) = (ls ++ [x], T, 0)) := Lib.hid (by rw [HNx.out, if_neg (by simp [hT])])
            have HM : Hid ((ls ++ [x]).map (·.map cutN) = ls.map (·.map cutN) ++ [x.map cutN]) := Lib.hid (by rw [List.map_append]; rfl)
            have hown1 := HG3.out.own
            have hone := HX3.out
            have hbase : w.heap.size ≤ w3.heap.size := HG3.out.frm.size
            have hll : (ls.map (·.map cutN)).length = j := by rw [List.length_map, hlen]
            have Hap := fun (v2 : Value) (W2 : World) (h1 : OwnW W2 w.heap.size v2 (ls.map (·.map cutN) ++ [x.map cutN])) (h2 : (w3.alloc (.cells #[vx] 89)).grownBy W2 (Value.slice A j cap).ownBlock) => HG3.out.app (.cells #[vx] 89) h1 h2
            clear HNx hT HX3 HG3
            generalize ls.map (·.map cutN) = lc at *
            generalize x.map cutN = xc at *
            have hvx := HVx.out
            subst hvx
            clear HVx
            go_wp2_with (
              at_builtin
              refine wpList_appW (by rfl) (.tmp 30) (.tmp 32) (by rfl) w.heap.size 1 (.slice A j cap) _ lc xc (by rfl) hown1 (by rfl) hone rfl (by omega) hbase ?_)
            intro v2 W5 hv2 hg2
            have HG5 := Lib.hid (Hap v2 W5 hv2 ⟨hg2.os, hg2.tape, hg2.output, hg2.size, hg2.block⟩)
            clear hown1 hone hv2 hg2 Hap
            go_wp2
            go_roundw
            case rel => exact ⟨j + 1, ls ++ [x], T, by omega, by go_num, HQ, by rw [HM.out]; exact HG5, HO2⟩
            case measure => simp [intOf]; omega
          · have hT' : ((e : Int) != 0) = true := by simpa using hT
            have HQ : Hid (rdWays S n = ([], T, e)) := Lib.hid (HStop.out (j + 1) (by omega) ([], T, e) (by rw [HNx.out, if_pos hT]) hT)
            have HV : Hid (r = ([], T, e)) := Lib.hid (by rw [HR.out, HQ.out])
            have hvx := HVx.out
            subst hvx
            clear HVx HNx hT HQ HR
            go_wp2_with fail
            exact ways_ret HV.out (by rfl) (by rfl) rfl (OwnW.nil _ _) HG3.out.inn HG3.out.frm
        · obtain rfl : j = n := by omega
          have HV : Hid (r = (ls, S', 0)) := Lib.hid (by rw [HR.out, HL.out])
          go_wp2_with fail
          exact ways_ret HV.out (by rfl) (by rfl) rfl HG.out.own HG.out.inn HG.out.frm
end Go.Proofs.YtahejekcfgkiaaaGreatDoor.need

/-
  The program's own bytes of a wait (typed over the code of 5ef5b61). The tables must lie where their initialisers lay them.
-/
namespace Go.Proofs.YtahejekcfgkiaaaGreatDoor.need
open Go.RowKit Go.ChangeShapes
open Go.Proofs.YtahejekcfgkiaaaGreatDoor.objs (De zero CellsAt DAt chk chk_zero)
open Go.Proofs.YtahejekcfgkiaaaGreatDoor.octet (OutAt Frm Spare NoBytes num num_keep byte_keep done_any Fits bof bof_nat num_length_le)
set_option linter.unusedVariables false

/-- While a need is put: the writer at bo holds L, the need stands at g. -/
structure Pn (w : World) (base bo g : Nat) (k a b : Int) (L : List UInt8) (W : World) : Prop where
  out : OutAt W base bo L
  box : W.heap[g]? = some (needBox k a b)
  ne : g ≠ bo
  frm : Frm base bo w W
theorem noBytes_need (k a b : Int) : NoBytes (needBox k a b) := fun cur q h => by
  unfold needBox at h
  injection h with _ h2 _
  exact absurd h2 (by decide)
theorem Pn.next {w W W' : World} {base bo g : Nat} {k a b : Int} {L L' : List UInt8} (h : Pn w base bo g k a b L W) (ho : OutAt W' base bo L') (hf : Frm base bo W W') (hs : Spare bo W W') : Pn w base bo g k a b L' W' :=
  ⟨ho, hs _ _ h.box h.ne (noBytes_need k a b), h.ne, h.frm.trans hf⟩
theorem Pn.cells {w W : World} {base bo g : Nat} {k a b : Int} {L : List UInt8} (h : Pn w base bo g k a b L W) : W.cell? ⟨g, 0, none⟩ = some (.int .i64 k) ∧ W.cell? ⟨g, 1, none⟩ = some (.int .i64 a) ∧ W.cell? ⟨g, 2, none⟩ = some (.int .i64 b) := by
  unfold World.cell?
  rw [h.box]
  exact ⟨rfl, rfl, rfl⟩
theorem pn_new {w : World} {base bo : Nat} {L : List UInt8} (k a b : Int) (ho : OutAt w base bo L) : Pn w base bo w.heap.size k a b L (w.alloc (needBox k a b)) := by
  have hb := nbox_below w k a b
  exact ⟨ho.kept hb (Nat.le_refl _), heap_alloc_new w _, Nat.ne_of_gt ho.lt, Frm.of_below (hb.mono ho.base_le)⟩

set_option maxRecDepth 100000 in
set_option maxHeartbeats 2000000 in
theorem putN_any (w : World) (base bo : Nat) (L : List UInt8) (n : De) (hs : Slim9 n) (ho : OutAt w base bo L) (hl : L.length + 21 ≤ 140737488355328) :
    Calls Tryz.prog 47 #[.pointer (some ⟨bo, 0, none⟩), .agg #[.int .i64 n.1, .int .i64 n.2.1, .int .i64 n.2.2]] w fun e w' => e = .returned (.tuple #[]) ∧ OutAt w' base bo (L ++ encN n) ∧ Frm base bo w w' := by
  obtain ⟨k, a, b⟩ := n
  obtain ⟨hk, ha, hb⟩ := hs
  dsimp only at hk ha hb ⊢
  obtain ⟨m, rfl⟩ : ∃ m : Nat, a = (m : Int) := ⟨a.toNat, by omega⟩
  obtain ⟨n, rfl⟩ : ∃ n : Nat, b = (n : Int) := ⟨b.toNat, by omega⟩
  have HP0 := Lib.hid (pn_new k (m : Int) (n : Int) ho)
  have HY := Lib.hid (byte_keep _ base bo L k HP0.out.out (by omega))
  have hB : bof k = UInt8.ofNat k.toNat := by
    have : ((k.toNat : Nat) : Int) = k := by omega
    rw [← bof_nat, this]
  have HEn : Hid (L ++ encN (k, (m : Int), (n : Int)) = ((L ++ [bof k]) ++ num m) ++ pieceN k (n : Int)) := Lib.hid (by rw [hB]; simp [encN])
  have hlen : (L ++ [bof k]).length + 20 ≤ 140737488355328 := by rw [List.length_append]; simp; omega
  rw [HEn.out]
  generalize L ++ [bof k] = L1 at *
  have hl1 := num_length_le m
  have hm1 : m ≤ 1000 := by omega
  have hn1 : n ≤ 1000 := by omega
  have hm0 : (0 : Int) ≤ (m : Int) := by omega
  have hn0 : (0 : Int) ≤ (n : Int) := by omega
  have HN1 := fun W (hW : OutAt W base bo L1) => Lib.hid (num_keep W base bo L1 m (by unfold Fits; omega) hW (by omega))
  have HN2 := fun W (hW : OutAt W base bo (L1 ++ num m)) => Lib.hid (num_keep W base bo (L1 ++ num m) n (by unfold Fits; omega) hW (by rw [List.length_append]; omega))
  have HC := fun W => Lib.hid (counts_any k W)
  unfold needBox at HP0 HY
  obtain ⟨c0, c1, c2⟩ := HP0.out.cells
  clear hB HEn ho hl hl1 hlen
  by_cases h3 : 3 < k
  · have HE : Hid (pieceN k (n : Int) = num n) := Lib.hid (by unfold pieceN; rw [if_pos h3]; rfl)
    rw [HE.out]
    rw [decide_eq_true (by omega)] at HC
    clear h3 hk HE
    go_enter Tryz.func47, Tryz.ntmps47
    go_wp2_with fail
    refine HY.out.mono ?_
    rintro e w1 ⟨rfl, x1, x2, x3⟩
    have HP1 := Lib.hid (HP0.out.next x1 x2 x3)
    clear x1 x2 x3 c0 c1 c2 HP0 HY
    obtain ⟨c0, c1, c2⟩ := HP1.out.cells
    go_wp2_with fail
    refine (HN1 _ HP1.out.out).out.mono ?_
    rintro e w2 ⟨rfl, x1, x2, x3⟩
    have HP2 := Lib.hid (HP1.out.next x1 x2 x3)
    clear x1 x2 x3 c0 c1 c2 HP1 HN1
    obtain ⟨c0, c1, c2⟩ := HP2.out.cells
    go_wp2_with fail
    refine (HC _).out.mono ?_
    rintro e w3 ⟨rfl, rfl⟩
    go_wp2_with fail
    refine (HN2 _ HP2.out.out).out.mono ?_
    rintro e w3 ⟨rfl, x1, x2, x3⟩
    have HP3 := Lib.hid (HP2.out.next x1 x2 x3)
    clear x1 x2 x3 c0 c1 c2 HP2 HN2
    go_wp2
    go_end0
    exact ⟨rfl, HP3.out.out, HP3.out.frm⟩
  · have HE : Hid (pieceN k (n : Int) = []) := Lib.hid (by unfold pieceN; rw [if_neg h3])
    rw [HE.out, List.append_nil]
    rw [decide_eq_false (by omega)] at HC
    clear h3 hk HE HN2
    go_enter Tryz.func47, Tryz.ntmps47
    go_wp2_with fail
    refine HY.out.mono ?_
    rintro e w1 ⟨rfl, x1, x2, x3⟩
    have HP1 := Lib.hid (HP0.out.next x1 x2 x3)
    clear x1 x2 x3 c0 c1 c2 HP0 HY
    obtain ⟨c0, c1, c2⟩ := HP1.out.cells
    go_wp2_with fail
    refine (HN1 _ HP1.out.out).out.mono ?_
    rintro e w2 ⟨rfl, x1, x2, x3⟩
    have HP2 := Lib.hid (HP1.out.next x1 x2 x3)
    clear x1 x2 x3 c0 c1 c2 HP1 HN1
    obtain ⟨c0, c1, c2⟩ := HP2.out.cells
    go_wp2_with fail
    refine (HC _).out.mono ?_
    rintro e w3 ⟨rfl, rfl⟩
    go_wp2
    go_end0
    exact ⟨rfl, HP2.out.out, HP2.out.frm⟩

/-- Between two that are put. -/
structure Pw (w : World) (A : Option Addr) (l : List (List De)) (bo : Nat) (L : List UInt8) (W : World) : Prop where
  out : OutAt W (bo + 1) bo L
  list : WAt w A l
  below : Below w.heap.size w W
  old : w.heap.size ≤ bo
theorem Pw.at {w W : World} {A : Option Addr} {l : List (List De)} {bo : Nat} {L : List UInt8} (h : Pw w A l bo L W) : WAt W A l := h.list.next h.below
theorem Pw.next {w W W' : World} {A : Option Addr} {l : List (List De)} {bo : Nat} {L L' : List UInt8} (h : Pw w A l bo L W) (ho : OutAt W' (bo + 1) bo L') (hf : Frm (bo + 1) bo W W') : Pw w A l bo L' W' :=
  ⟨ho, h.list, h.below.trans (hf.below h.old (Nat.le_succ_of_le h.old)), h.old⟩
theorem Pw.box {w W : World} {A : Option Addr} {l : List (List De)} {bo : Nat} {L : List UInt8} (h : Pw w A l bo L W) (o : Obj) : Pw w A l bo L (W.alloc o) := by
  have hb : Below W.heap.size W (W.alloc o) := (Below.refl _ _).alloc (Nat.le_refl _) _
  exact ⟨h.out.kept hb (Nat.le_refl _), h.list, h.below.trans (hb.mono h.below.size), h.old⟩
theorem slim9_of {d : List De} {l : List (List De)} (hd : (chk d).2 = 0) (h : chkW d l = 0) : ∀ x ∈ l, ∀ t ∈ x, Slim9 t := fun x hx t ht => by
  obtain ⟨h1, h2, _, h4, h5⟩ := need_small hd (((chkW_zero h).2.2 x hx).2.2 t ht)
  unfold Slim9
  omega

set_option maxRecDepth 100000 in
set_option maxHeartbeats 8000000 in
theorem put_good (A B : Option Addr) (capd cap : Nat) (d : List De) (l : List (List De)) (hd : (chk d).2 = 0) (hz : chkW d l = 0) (w : World) (hA : DAt w A d) (hB : WAt w B l) (hw : Oka w) :
    Calls Tryz.prog 22 #[.slice A d.length capd, .slice B l.length cap] w fun e w' => e = .returned (.tuple #[.string ⟨(encW l).toArray⟩, .int .i64 0]) ∧ Below w.heap.size w w' := by
  obtain ⟨_, h4, hall⟩ := chkW_zero hz
  have HC := Lib.hid (check_any A B capd cap d l (by have := (chk_zero hd).1; omega) w hA hB hw)
  rw [hz] at HC
  unfold ChkPost9 at HC
  have HL := Lib.hid (slim9_of hd hz)
  have HL4 := Lib.hid (fun x hx => (hall x hx).2.1)
  have HW : Hid (encW l = num l.length ++ encWs l l.length) := Lib.hid rfl
  rw [HW.out]
  have HB := Lib.hid hB
  clear hA hB hz hall HW hw hd
  go_enter Tryz.func22, Tryz.ntmps22
  go_wp2_with fail
  refine HC.out.mono ?_
  rintro e w1 ⟨rfl, hb1⟩
  go_upto_region 5 with fail
  have hbo := Go.Proofs.YtahejekcfgkiaaaGreatDoor.octet.out_new w1
  have hb2 : Below w1.heap.size w1 (w1.alloc (.cells #[.slice none 0 0] 59)) := (Below.refl _ w1).alloc (Nat.le_refl _) _
  have HP0 : Hid (Pw w B l w1.heap.size [] (w1.alloc (.cells #[.slice none 0 0] 59))) := Lib.hid ⟨hbo, HB.out, hb1.trans (hb2.mono hb1.size), hb1.size⟩
  clear hbo hb1 hb2 HC
  generalize w1.alloc (.cells #[.slice none 0 0] 59) = W2 at *
  generalize w1.heap.size = bo at *
  have HN := Lib.hid (num_keep W2 (bo + 1) bo [] l.length (by unfold Fits; omega) HP0.out.out (by simp))
  go_wp2_with fail
  refine HN.out.mono ?_
  rintro e w3 ⟨rfl, x1, x2, x3⟩
  have HP1 := Lib.hid (HP0.out.next x1 x2)
  rw [List.nil_append] at HP1
  clear x1 x2 x3 HN HP0
  go_wp2_with fail
  go_loopw [27] (fun i wr => ∃ j : Nat, j ≤ l.length ∧ i = .int .i64 (j : Int) ∧ Hid (Pw w B l bo (num l.length ++ encWs l j) wr)) (fun i _ => l.length - (intOf i).toNat)
  case atStart => exact ⟨0, Nat.zero_le _, rfl, by simpa [encWs] using HP1⟩
  case round =>
    obtain ⟨j, hj, rfl, HS⟩ := hrel
    by_cases hlt : j < l.length
    · obtain ⟨b0, off, Aj, cj, rfl, hb, hc0, hdj⟩ := HB.out j hlt
      have hc := (HS.out.below.cell (p := ⟨b0, off + j, none⟩) hb).trans hc0
      have hlt' : (j : Int) < (l.length : Int) := by omega
      have hj0 : (0 : Int) ≤ (j : Int) := by omega
      have HSl := Lib.hid (HL.out _ (getW_mem hlt))
      have hx4 := HL4.out _ (getW_mem hlt)
      have HE : Hid (num l.length ++ encWs l (j + 1) = (num l.length ++ encWs l j) ++ (num (l.getD j []).length ++ encNs (l.getD j []) (l.getD j []).length)) := Lib.hid (by simp only [encWs, encWay, List.append_assoc])
      have hlen : (num l.length ++ encWs l j).length ≤ 1000 := by
        have h1 := num_length_le l.length
        have h2 := encWs_le (w := l) (fun x hx => by have := HL4.out x hx; omega) j hj
        rw [List.length_append]
        omega
      generalize num l.length ++ encWs l j = pre at *
      generalize l.getD j [] = x at *
      have HN1 := Lib.hid (num_keep wr (bo + 1) bo pre x.length (by unfold Fits; omega) HS.out.out (by omega))
      have HDw := Lib.hid hdj
      have HLn := Lib.hid hlen
      clear hdj hc0 hb hlen
      go_wp2_with fail
      refine HN1.out.mono ?_
      rintro e w4 ⟨rfl, y1, y2, y3⟩
      have HS1 := Lib.hid (HS.out.next y1 y2)
      clear y1 y2 y3 HN1 hc HS
      go_wp2_with fail
      go_loopw [38] (fun i wr => ∃ k : Nat, k ≤ x.length ∧ i = .int .i64 (k : Int) ∧ Hid (Pw w (some ⟨b0, off, none⟩) l bo ((pre ++ num x.length) ++ encNs x k) wr)) (fun i _ => x.length - (intOf i).toNat)
      case atStart => exact ⟨0, Nat.zero_le _, rfl, by simpa [encNs] using HS1⟩
      case round =>
        obtain ⟨k, hk, rfl, HK⟩ := hrel
        by_cases hlk : k < x.length
        · obtain ⟨b1, off1, rfl, hb1, c0, c1, c2⟩ := HDw.out.next HK.out.below k hlk
          have hlk' : (k : Int) < (x.length : Int) := by omega
          have hk0 : (0 : Int) ≤ (k : Int) := by omega
          have HSn := Lib.hid (HSl.out _ (getD_mem hlk))
          have HE2 : Hid ((pre ++ num x.length) ++ encNs x (k + 1) = ((pre ++ num x.length) ++ encNs x k) ++ encN (x.getD k zero)) := Lib.hid (by simp only [encNs, List.append_assoc])
          have hlen2 : ((pre ++ num x.length) ++ encNs x k).length + 21 ≤ 140737488355328 := by
            have h1 := num_length_le x.length
            have h2 := encNs_le x k
            have h3 := HLn.out
            rw [List.length_append, List.length_append]
            omega
          generalize (pre ++ num x.length) ++ encNs x k = pre2 at *
          generalize x.getD k zero = n at *
          have HP := fun W (hW : Pw w (some ⟨b0, off, none⟩) l bo pre2 W) => Lib.hid (putN_any W (bo + 1) bo pre2 n HSn.out hW.out hlen2)
          have HK1 := Lib.hid (HK.out.box (needBox n.1 n.2.1 n.2.2))
          have hbx := nbox_at wr n.1 n.2.1 n.2.2
          clear HK hlen2 HSn
          generalize encN n = en at *
          obtain ⟨k0, o0, m0⟩ := n
          unfold needBox at HK1 hbx
          dsimp only at HP c0 c1 c2 HK1 hbx
          go_upto_region 13 with fail
          clear c0 c1 c2
          generalize wr.alloc (.cells #[.int .i64 k0, .int .i64 o0, .int .i64 m0] 93) = W4 at *
          generalize wr.heap.size = g at *
          obtain ⟨c0, c1, c2⟩ := hbx
          go_wp2_with fail
          refine (HP _ HK1.out).out.mono ?_
          rintro e w5 ⟨rfl, x1, x2⟩
          have HK2 := Lib.hid (HK1.out.next x1 x2)
          clear x1 x2 c0 c1 c2 HP HK1
          go_wp2
          go_roundw
          case rel => exact ⟨k + 1, by omega, by go_num, by rw [HE2.out]; exact HK2⟩
          case measure => simp [intOf]; omega
        · obtain rfl : k = x.length := by omega
          go_wp2_with fail
          go_roundw
          case rel => exact ⟨j + 1, by omega, by go_num, by rw [HE.out, ← List.append_assoc]; exact HK⟩
          case measure => simp [intOf]; omega
    · obtain rfl : j = l.length := by omega
      have HD := Lib.hid (done_any wr (bo + 1) bo _ HS.out.out)
      have HBz := Lib.hid HS.out.below
      go_wp2_with fail
      refine HD.out.mono ?_
      rintro e w8 ⟨rfl, rfl⟩
      go_wp2
      go_ret2
      exact ⟨rfl, HBz.out⟩

set_option maxHeartbeats 1000000 in
theorem put_bad (A B : Option Addr) (capd cap : Nat) (d : List De) (l : List (List De)) (hd : d.length ≤ 64) (hz : chkW d l ≠ 0) (w : World) (hA : DAt w A d) (hB : WAt w B l) (hw : Oka w) :
    Calls Tryz.prog 22 #[.slice A d.length capd, .slice B l.length cap] w fun e w' => e = .returned (.tuple #[.string ⟨#[]⟩, .int .i64 ((chkW d l : Nat) : Int)]) ∧ Below w.heap.size w w' := by
  have HC := Lib.hid (check_any A B capd cap d l hd w hA hB hw)
  unfold ChkPost9 at HC
  have hn : (((chkW d l : Nat) : Int) != 0) = true := by simpa using hz
  clear hz hA hB hw
  generalize chkW d l = q at *
  go_enter Tryz.func22, Tryz.ntmps22
  go_wp2_with fail
  refine HC.out.mono ?_
  rintro e w1 ⟨rfl, hb⟩
  have HB := Lib.hid hb
  clear hb
  go_wp2_with fail
  go_ret2
  exact ⟨rfl, HB.out⟩
end Go.Proofs.YtahejekcfgkiaaaGreatDoor.need

/-
  What a reading of a wait's bytes tells. No condition.
-/
namespace Go.Proofs.YtahejekcfgkiaaaGreatDoor.need
open Go.RowKit Go.ChangeShapes
open Go.Proofs.YtahejekcfgkiaaaGreatDoor.objs (De zero DAt)
set_option linter.unusedVariables false

theorem size_list (y : ByteArray) : y.size = y.data.toList.length := by rw [Array.length_toList]; rfl
/-- What a reading of bytes tells. -/
def GotPost9 (g : List (List De) × Nat × Nat) (w : World) (e : Ending) (w' : World) : Prop :=
  ∃ v, e = .returned (.tuple #[v, .int .i64 (g.2.1 : Int), .int .i64 (g.2.2 : Int)]) ∧ (∃ A cap, v = .slice A g.1.length cap ∧ WAt w' A g.1) ∧ Below w.heap.size w w'
end Go.Proofs.YtahejekcfgkiaaaGreatDoor.need

/-
  What the program's bytes of a wait must come to. No condition.
-/
namespace Go.Proofs.YtahejekcfgkiaaaGreatDoor.need
open Go.RowKit Go.ChangeShapes
open Go.Proofs.YtahejekcfgkiaaaGreatDoor.objs (De zero DAt chk I64)
set_option linter.unusedVariables false

/-- The bytes that Put answers. -/
def putW (d : List De) (l : List (List De)) : List UInt8 := if chkW d l = 0 then encW l else []
def PutPost9 (d : List De) (l : List (List De)) (w : World) (e : Ending) (w' : World) : Prop := e = .returned (.tuple #[.string ⟨(putW d l).toArray⟩, .int .i64 (chkW d l : Nat)]) ∧ Below w.heap.size w w'
end Go.Proofs.YtahejekcfgkiaaaGreatDoor.need

/-
  The wait with which bytes begin, as the program tells it (typed over the code of 5ef5b61). The tables must lie where their initialisers lay them; texts of at most two to the forty-seventh bytes.
-/
namespace Go.Proofs.YtahejekcfgkiaaaGreatDoor.need
open Go.RowKit Go.ChangeShapes
open Go.Proofs.YtahejekcfgkiaaaGreatDoor.octet (St InAt Frm left_any open_any)
open Go.Proofs.YtahejekcfgkiaaaGreatDoor.objs (De zero DAt chk chk_zero I64)
set_option linter.unusedVariables false

theorem put_any (A B : Option Addr) (capd cap : Nat) (d : List De) (l : List (List De)) (hd : (chk d).2 = 0) (w : World) (hA : DAt w A d) (hB : WAt w B l) (hw : Oka w) :
    Calls Tryz.prog 22 #[.slice A d.length capd, .slice B l.length cap] w (PutPost9 d l w) := by
  unfold PutPost9 putW
  by_cases hz : chkW d l = 0
  · rw [if_pos hz, hz]
    exact put_good A B capd cap d l hd hz w hA hB hw
  · rw [if_neg hz]
    exact put_bad A B capd cap d l (by have := (chk_zero hd).1; omega) hz w hA hB hw

/-- What a reading of bytes tells, in rows of the call's own. -/
def GotOwn9 (g : List (List De) × Nat × Nat) (w : World) (e : Ending) (w' : World) : Prop :=
  ∃ v, e = .returned (.tuple #[v, .int .i64 (g.2.1 : Int), .int .i64 (g.2.2 : Int)]) ∧ OwnW w' w.heap.size v g.1 ∧ Below w.heap.size w w'
theorem get_ret {w W : World} {n cap : Nat} {A : Option Addr} {act : Act} {g : List (List De) × Nat × Nat} (h2 : act.tmps[4]?.getD undef = .slice A n cap) (h3 : act.tmps[5]?.getD undef = .int .i64 (g.2.1 : Int)) (h4 : act.tmps[6]?.getD undef = .int .i64 (g.2.2 : Int)) (hd : act.defers = [])
    (hA : OwnW W w.heap.size (.slice A n cap) g.1) (hb : Below w.heap.size w W) : bodyPost Tryz.prog Tryz.f83 (GotOwn9 g w) .ret act W := by
  refine bodyPost_ret (v := .tuple #[.slice A n cap, .int .i64 (g.2.1 : Int), .int .i64 (g.2.2 : Int)]) ?_ hd ⟨_, rfl, hA, hb⟩
  simp [results, Tryz.results83, go_sem, h2, h3, h4]

set_option maxRecDepth 100000 in
set_option maxHeartbeats 4000000 in
theorem get_own (A : Option Addr) (capd : Nat) (d : List De) (hd : (chk d).2 = 0) (t : ByteArray) (w : World) (ht : t.size ≤ 140737489403904) (hA : DAt w A d) (hw : Oka w) :
    Calls Tryz.prog 83 #[.slice A d.length capd, .string t] w (GotOwn9 (getW d t.data.toList) w) := by
  have HG := Lib.hid (getW_prog hd t.data.toList)
  have HOp := Lib.hid (open_any w t)
  have HAll := fun W hi => Lib.hid (getWays_any W w.heap.size ⟨t.data.toList, 0⟩ hi (fun h => absurd rfl h) (by rw [← size_list]; exact ht))
  have HLe : Hid ((allW ⟨t.data.toList, 0⟩).2.1.rest.length ≤ t.size) := Lib.hid (by rw [size_list]; exact allW_left ⟨t.data.toList, 0⟩)
  have hd64 : d.length ≤ 64 := by have := (chk_zero hd).1; omega
  have HD := Lib.hid hd64
  unfold WaysPost at HAll
  obtain ⟨g, hg⟩ : ∃ g, g = getW d t.data.toList := ⟨_, rfl⟩
  rw [← hg] at HG ⊢
  clear hg hd hd64
  generalize allW ⟨t.data.toList, 0⟩ = r at *
  obtain ⟨ls, S, e⟩ := r
  dsimp only at HG HAll HLe
  generalize ls.map (·.map cutN) = lc at *
  have HW := Lib.hid hw
  have HT := Lib.hid ht
  have HA := Lib.hid hA
  clear hw ht hA
  go_enter Tryz.func83, Tryz.ntmps83
  go_wp2_with fail
  refine HOp.out.mono ?_
  rintro e1 w1 ⟨rfl, hi1, hb1, hs1⟩
  have HA1 := HAll w1 hi1
  have HB1 := Lib.hid hb1
  have HS1 := Lib.hid hs1
  clear hi1 hb1 hs1 HAll HOp
  go_wp2_with fail
  refine HA1.out.mono ?_
  rintro e2 w2 ⟨v, rfl, hv, hi2, hf2⟩
  have hB2 : Below w.heap.size w w2 := HB1.out.trans (hf2.below (Nat.le_refl _) (by have := HS1.out; omega))
  have HK2 := Lib.hid (HW.out.next hB2)
  have HB2 := Lib.hid hB2
  obtain ⟨B, cap, rfl⟩ := hv.slice
  have HV2 := Lib.hid (hv.base (HB1.out.size))
  have HI2 := Lib.hid hi2
  clear hv hi2 hf2 hB2 HB1 HS1 HA1
  by_cases he : e = 0
  · have he' : ((e : Int) == 0) = true := by simp [he]
    have HE0 := Lib.hid he
    have HC := Lib.hid (check_any A B capd cap d lc HD.out w2 (HA.out.next HB2.out) HV2.out.at HK2.out)
    unfold ChkPost9 at HC
    clear he
    generalize chkW d lc = c at *
    go_wp2_with fail
    refine HC.out.mono ?_
    rintro e3 w3 ⟨rfl, hb3⟩
    have HV3 := Lib.hid (HV2.out.next hb3)
    have HI3 := Lib.hid (HI2.out.kept (hb3.block _ HI2.out.lt))
    have HB3 := Lib.hid (HB2.out.trans (hb3.mono HB2.out.size))
    clear hb3 HV2 HI2 HB2 HC HK2
    by_cases hc : c = 0
    · have HR : Hid (g = (lc, t.data.toList.length - S.rest.length, 0)) := Lib.hid (by rw [HG.out, if_neg (by simp [HE0.out]), if_neg (by simp [hc])])
      have hc' : ((c : Int) != 0) = false := by simp [hc]
      have HLq := Lib.hid (left_any w3 w.heap.size S HI3.out)
      have HWr : Hid ((t.data.toList.length - S.rest.length : Nat) = wrap64 ((t.size : Int) - (S.rest.length : Int))) := Lib.hid (by
        have h1 := HLe.out
        have h2 := HT.out
        rw [← size_list, IntWalk.wrap64_in _ (by omega)]
        omega)
      clear hc HG
      go_wp2_with fail
      refine HLq.out.mono ?_
      rintro e4 w4 ⟨rfl, rfl⟩
      go_wp2_with fail
      exact get_ret (by rfl) (by rw [HR.out, HWr.out]; rfl) (by rw [HR.out]; rfl) rfl (by rw [HR.out]; exact HV3.out) HB3.out
    · have HR : Hid (g = ([], 0, c)) := Lib.hid (by rw [HG.out, if_neg (by simp [HE0.out]), if_pos hc])
      have hc' : ((c : Int) != 0) = true := by simpa using hc
      clear hc HG
      go_wp2_with fail
      exact get_ret (by rfl) (by rw [HR.out]; rfl) (by rw [HR.out]; rfl) rfl (by rw [HR.out]; exact OwnW.nil _ _) HB3.out
  · have HR : Hid (g = ([], 0, e)) := Lib.hid (by rw [HG.out, if_pos he])
    have he' : ((e : Int) != 0) = true := by simpa using he
    have he2 : ((e : Int) == 0) = false := by simpa using he
    clear he HG
    go_wp2_with fail
    exact get_ret (by rfl) (by rw [HR.out]; rfl) (by rw [HR.out]; rfl) rfl (by rw [HR.out]; exact OwnW.nil _ _) HB2.out
theorem get_any (A : Option Addr) (capd : Nat) (d : List De) (hd : (chk d).2 = 0) (t : ByteArray) (w : World) (ht : t.size ≤ 140737489403904) (hA : DAt w A d) (hw : Oka w) :
    Calls Tryz.prog 83 #[.slice A d.length capd, .string t] w (GotPost9 (getW d t.data.toList) w) :=
  (get_own A capd d hd t w ht hA hw).mono fun e w' ⟨v, h1, h2, h3⟩ => by
    obtain ⟨B, cb, rfl⟩ := h2.slice
    exact ⟨_, h1, ⟨B, cb, rfl, h2.at⟩, h3⟩
end Go.Proofs.YtahejekcfgkiaaaGreatDoor.need

/-
  The document's own answer of a number that is read, great ones alike. A text of at most two to the forty-seventh bytes.
-/
namespace Go.Proofs.YtahejekcfgkiaaaGreatDoor.objs
open Go.RowKit Go.ChangeShapes
open Go.Proofs.YtahejekcfgkiaaaGreatDoor.octet (St rdByte rdNum rdInt Stands RefAt refByte_plain refInt_plain refNum_plain rdNum_lt)
set_option linter.unusedVariables false

def NumPost (t : ByteArray) (s : St) (w : World) (e : Ending) (w' : World) : Prop :=
  ∃ k1 : Nat, e = .returned (.tuple #[.int .i64 (rdN s).1, .agg #[.string t, .int .i64 (k1 : Int), .int .i64 ((rdN s).2.err : Int)]]) ∧ Stands t k1 (rdN s).2.err (rdN s).2 ∧ Below w.heap.size w w'
theorem num_ret {w Z : World} {t : ByteArray} {s : St} {k1 : Nat} {act : Act} (h2 : act.tmps[2]?.getD undef = .int .i64 (rdN s).1) (h3 : act.tmps[3]?.getD undef = .pointer (some ⟨w.heap.size + 1, 0, none⟩)) (hd : act.defers = [])
    (hE : Z.heap[w.heap.size + 1]? = some (.cells #[.string t, .int .i64 (k1 : Int), .int .i64 ((rdN s).2.err : Int)] 79 (0, 0))) (hS : Stands t k1 (rdN s).2.err (rdN s).2) (hb : Below w.heap.size w Z) : bodyPost Tryz.prog Tryz.f58 (NumPost t s w) .ret act Z := by
  obtain ⟨x0, x1, x2, _, _, _⟩ := cells3 hE
  refine bodyPost_ret (v := .tuple #[.int .i64 (rdN s).1, .agg #[.string t, .int .i64 (k1 : Int), .int .i64 ((rdN s).2.err : Int)]]) ?_ hd ⟨k1, rfl, hS, hb⟩
  simp [results, Tryz.results58, go_sem, h2, h3, x0, x1, x2]

set_option maxRecDepth 100000 in
set_option maxHeartbeats 2000000 in
theorem refNum8_any (w : World) (t : ByteArray) (k err : Nat) (s : St) (ht : t.size ≤ 140737489403904) (hst : Stands t k err s) :
    Calls Tryz.prog 58 #[.agg #[.string t, .int .i64 (k : Int), .int .i64 (err : Int)]] w (NumPost t s w) := by
  have HN := fun W => Lib.hid (refNum_plain W t k err s ht hst)
  have hlt := rdNum_lt s
  have HR1 : Hid ((rdN s).1 = ((min (rdNum s).1 2147483648 : Nat) : Int)) := Lib.hid rfl
  have HR2 : Hid ((rdN s).2 = (rdNum s).2) := Lib.hid rfl
  clear hst
  generalize rdNum s = p at *
  obtain ⟨v, S⟩ := p
  dsimp only at HN hlt HR1 HR2
  go_enter Tryz.func58, Tryz.ntmps58
  have hz : ((w.alloc (RBox t k err)).alloc RNil).heap.size = w.heap.size + 1 + 1 := by rw [World.size_alloc, World.size_alloc]
  have hb0 : Below w.heap.size w ((w.alloc (RBox t k err)).alloc RNil) := ((Below.refl _ w).alloc (Nat.le_refl _) _).alloc (by simp) _
  have hi0 : ((w.alloc (RBox t k err)).alloc RNil).heap[w.heap.size + 1]? = some RNil := by rw [← World.size_alloc w (RBox t k err)]; exact heap_alloc_new _ _
  unfold RBox RNil at hz hb0 hi0
  go_wp2_with fail
  refine (HN _).out.mono ?_
  rintro e w1 ⟨k1, rfl, hS, hb⟩
  have hs1 := hb.size
  have HS := Lib.hid hS
  have hb1 := hb0.trans (hb.mono (by omega))
  have hi1 := (hb.block (w.heap.size + 1) (by omega)).trans hi0
  have hb2 : Below w1.heap.size w1 (w1.alloc (.cells #[.string t, .int .i64 (k1 : Int), .int .i64 (S.err : Int)] 79)) := (Below.refl _ _).alloc (Nat.le_refl _) _
  have hR4 : (w1.alloc (.cells #[.string t, .int .i64 (k1 : Int), .int .i64 (S.err : Int)] 79)).heap[w1.heap.size]? = some (.cells #[.string t, .int .i64 (k1 : Int), .int .i64 (S.err : Int)] 79 (0, 0)) := heap_alloc_new w1 _
  have HB2 := Lib.hid (hb1.trans (hb2.mono (by omega)))
  have HI2 := Lib.hid ((hb2.block (w.heap.size + 1) (by omega)).trans hi1)
  have n1 : w1.heap.size ≠ w.heap.size + 1 := by omega
  have n2 : w.heap.size + 1 ≠ w1.heap.size := by omega
  obtain ⟨z0, z1, z2, _, _, _⟩ := cells3 hR4
  obtain ⟨x0, x1, x2, xf0, xf1, xf2⟩ := cells3 HI2.out
  clear hS hb hb0 hb1 hb2 hi0 hi1 hR4 hz hs1 HN
  go_upto_region 2 with fail
  generalize w1.alloc (.cells #[.string t, .int .i64 (k1 : Int), .int .i64 (S.err : Int)] 79) = W2 at *
  generalize w1.heap.size = b1 at *
  go_region
  go_wp2_with fail
  refine num_ret ?_ (by rfl) rfl (by rw [HR2.out]; exact put3_same HI2.out _ _ _) (by rw [HR2.out]; exact HS.out) (Below.drew (put3_below HB2.out (by omega) _ _ _))
  rw [HR1.out]
  show Value.int .i64 (min (v : Int) 2147483648) = _
  congr 1
  omega
end Go.Proofs.YtahejekcfgkiaaaGreatDoor.objs

/-
  The program's own reading of one object (typed over the code of 392f5a9): for every text of at most two to the forty-seventh bytes. No other condition.
-/
namespace Go.Proofs.YtahejekcfgkiaaaGreatDoor.objs
open Go.RowKit Go.ChangeShapes
open Go.Proofs.YtahejekcfgkiaaaGreatDoor.octet (St InAt Frm rdByte rdNum rdInt byteIn_any intIn_any rdNum_ok rdNum_left rdByte_ok)
open Go.Proofs.YtahejekcfgkiaaaGreatDoor.span (pN num_any)
set_option linter.unusedVariables false

theorem pN_ok {s : St} (h : s.ok) : (pN s).2.ok := rdNum_ok h
theorem pN_left (s : St) : (pN s).2.rest.length ≤ s.rest.length := rdNum_left s
theorem rdByte_left (s : St) : (rdByte s).2.rest.length ≤ s.rest.length := by
  unfold rdByte
  split
  · exact Nat.le_refl _
  · split
    · exact Nat.zero_le _
    · rename_i h; rw [h]; simp
theorem pA_ok {k : Nat} {s : St} (h : s.ok) : (pA k s).2.ok := by
  unfold pA
  split
  · exact pN_ok h
  · split
    · exact rdNum_ok h
    · exact h
theorem pA_left (k : Nat) (s : St) : (pA k s).2.rest.length ≤ s.rest.length := by
  unfold pA
  split
  · exact pN_left s
  · split
    · exact rdNum_left s
    · exact Nat.le_refl _
theorem pB_ok {k : Nat} {s : St} (h : s.ok) : (pB k s).2.ok := by
  unfold pB
  split
  · exact pN_ok h
  · exact h
theorem pB_left (k : Nat) (s : St) : (pB k s).2.rest.length ≤ s.rest.length := by
  unfold pB
  split
  · exact pN_left s
  · exact Nat.le_refl _
theorem pD_ok {s : St} (h : s.ok) : (pD s).2.ok := pB_ok (pA_ok (rdByte_ok h))
theorem pD_left (s : St) : (pD s).2.rest.length ≤ s.rest.length := Nat.le_trans (pB_left _ _) (Nat.le_trans (pA_left _ _) (rdByte_left s))

/-- What get tells, and leaves. -/
def OnePost8 (bi : Nat) (q : De × St) (w : World) (e : Ending) (w' : World) : Prop :=
  e = .returned (.agg #[.int .i64 q.1.1, .int .i64 q.1.2.1, .int .i64 q.1.2.2]) ∧ InAt w' bi q.2 ∧ Frm w.heap.size bi w w'

/-- In the midst of reading: where the reader stands, and what was read. -/
structure Gd (w : World) (bi d : Nat) (k a b : Int) (S : St) (W : World) : Prop where
  inn : InAt W bi S
  b0 : W.heap[w.heap.size]? = some (declBox 0 0 0)
  bd : W.heap[d]? = some (declBox k a b)
  frm : Frm w.heap.size bi w W
  lt : bi < w.heap.size
  h1 : w.heap.size < d
theorem Gd.next {w W W' : World} {bi d : Nat} {k a b : Int} {S S' : St} (h : Gd w bi d k a b S W) (hi : InAt W' bi S') (hf : Frm W.heap.size bi W W') : Gd w bi d k a b S' W' := by
  have e1 := h.lt
  have e2 := h.h1
  have e3 := lt_of_block h.bd
  exact ⟨hi, (hf.block _ (by omega) (by omega)).trans h.b0, (hf.block _ e3 (by omega)).trans h.bd, h.frm.trans (hf.mono h.frm.size), e1, e2⟩
theorem Gd.setA {w W : World} {bi d : Nat} {k a b : Int} {S : St} (h : Gd w bi d k a b S W) (n : Int) : Gd w bi d k n b S (W.setCell ⟨d, 1, none⟩ (.int .i64 n)) := by
  have e1 := h.lt
  have e2 := h.h1
  have hx : ∀ i, i ≠ d → (W.setCell ⟨d, 1, none⟩ (.int .i64 n)).heap[i]? = W.heap[i]? := fun i hi => Below.heap_setCell W ⟨d, 1, none⟩ _ i hi
  refine ⟨(hx bi (by omega)).trans h.inn, (hx _ (by omega)).trans h.b0, ?_, h.frm.setCell (p := ⟨d, 1, none⟩) (.inr (by show w.heap.size ≤ d; omega)) _, e1, e2⟩
  have := h.bd
  unfold declBox at this ⊢
  simp [World.setCell, Array.getElem?_modify, this]
theorem Gd.setB {w W : World} {bi d : Nat} {k a b : Int} {S : St} (h : Gd w bi d k a b S W) (n : Int) : Gd w bi d k a n S (W.setCell ⟨d, 2, none⟩ (.int .i64 n)) := by
  have e1 := h.lt
  have e2 := h.h1
  have hx : ∀ i, i ≠ d → (W.setCell ⟨d, 2, none⟩ (.int .i64 n)).heap[i]? = W.heap[i]? := fun i hi => Below.heap_setCell W ⟨d, 2, none⟩ _ i hi
  refine ⟨(hx bi (by omega)).trans h.inn, (hx _ (by omega)).trans h.b0, ?_, h.frm.setCell (p := ⟨d, 2, none⟩) (.inr (by show w.heap.size ≤ d; omega)) _, e1, e2⟩
  have := h.bd
  unfold declBox at this ⊢
  simp [World.setCell, Array.getElem?_modify, this]
theorem Gd.cells {w W : World} {bi d : Nat} {k a b : Int} {S : St} (h : Gd w bi d k a b S W) :
    (W.cell? ⟨d, 0, none⟩ = some (.int .i64 k) ∧ W.cell? ⟨d, 1, none⟩ = some (.int .i64 a) ∧ W.cell? ⟨d, 2, none⟩ = some (.int .i64 b)) ∧ (W.frozen? ⟨d, 1, none⟩ = false ∧ W.frozen? ⟨d, 2, none⟩ = false) ∧
    (W.cell? ⟨w.heap.size, 0, none⟩ = some (.int .i64 0) ∧ W.cell? ⟨w.heap.size, 1, none⟩ = some (.int .i64 0) ∧ W.cell? ⟨w.heap.size, 2, none⟩ = some (.int .i64 0)) ∧
    (W.frozen? ⟨w.heap.size, 0, none⟩ = false ∧ W.frozen? ⟨w.heap.size, 1, none⟩ = false ∧ W.frozen? ⟨w.heap.size, 2, none⟩ = false) := by
  have h1 := h.bd
  have h2 := h.b0
  unfold declBox at h1 h2
  obtain ⟨x0, x1, x2, _, y1, y2⟩ := cells3 h1
  obtain ⟨v0, v1, v2, z0, z1, z2⟩ := cells3 h2
  exact ⟨⟨x0, x1, x2⟩, ⟨y1, y2⟩, ⟨v0, v1, v2⟩, z0, z1, z2⟩
theorem gd_new {w w2 : World} {bi : Nat} {k : Int} {S : St} (hi : InAt w2 bi S) (hf : Frm (w.alloc (declBox 0 0 0)).heap.size bi (w.alloc (declBox 0 0 0)) w2) (hlt : bi < w.heap.size) : Gd w bi w2.heap.size k 0 0 S (w2.alloc (declBox k 0 0)) := by
  have hz : (w.alloc (declBox 0 0 0)).heap.size = w.heap.size + 1 := World.size_alloc w _
  have hb0 : Below w.heap.size w (w.alloc (declBox 0 0 0)) := (Below.refl _ w).alloc (Nat.le_refl _) _
  have hb : Below w2.heap.size w2 (w2.alloc (declBox k 0 0)) := (Below.refl _ w2).alloc (Nat.le_refl _) _
  have hs := hf.size
  have h0 : w2.heap[w.heap.size]? = some (declBox 0 0 0) := (hf.block _ (by omega) (by omega)).trans (heap_alloc_new w _)
  have hfr : Frm w.heap.size bi w w2 := (Frm.of_below hb0).trans (hf.mono (by omega))
  exact ⟨hi.kept (hb.block _ hi.lt), (hb.block _ (by omega)).trans h0, heap_alloc_new w2 _, hfr.trans (Frm.of_below (hb.mono (by omega))), hlt, by omega⟩

theorem getD_ret {w W : World} {bi d : Nat} {k a b : Int} {S : St} {act : Act} {q : De × St} (hq : q = ((k, a, b), S)) (h2 : act.tmps[2]?.getD undef = .pointer (some ⟨w.heap.size, 0, none⟩)) (hd : act.defers = [])
    (h : Gd w bi d k a b S W) : bodyPost Tryz.prog Tryz.f109 (OnePost8 bi q w) .ret act (put3 W w.heap.size (.int .i64 k) (.int .i64 a) (.int .i64 b)) := by
  subst hq
  have h0 := h.b0
  unfold declBox at h0
  have e1 := h.lt
  obtain ⟨x0, x1, x2, _, _, _⟩ := cells3 (put3_same h0 (.int .i64 k) (.int .i64 a) (.int .i64 b))
  refine bodyPost_ret (v := .agg #[.int .i64 k, .int .i64 a, .int .i64 b]) ?_ hd ⟨rfl, h.inn.kept (put3_far (by omega) _ _ _), ((h.frm.setCell (p := ⟨w.heap.size, 0, none⟩) (.inr (Nat.le_refl _)) _).setCell (p := ⟨w.heap.size, 1, none⟩) (.inr (Nat.le_refl _)) _).setCell (p := ⟨w.heap.size, 2, none⟩) (.inr (Nat.le_refl _)) _⟩
  simp [results, Tryz.results109, go_sem, h2, x0, x1, x2]

set_option maxRecDepth 100000 in
set_option maxHeartbeats 4000000 in
theorem getD_any (w : World) (bi : Nat) (s : St) (hi : InAt w bi s) (hok : s.ok) (hl : s.rest.length ≤ 140737489403904) :
    Calls Tryz.prog 109 #[.pointer (some ⟨bi, 0, none⟩)] w (OnePost8 bi (pD s) w) := by
  have hlt := hi.lt
  have hb1 : Below w.heap.size w (w.alloc (declBox 0 0 0)) := (Below.refl _ w).alloc (Nat.le_refl _) _
  have HB := Lib.hid (byteIn_any _ bi s (hi.kept (hb1.block bi hlt)) hok hl)
  obtain ⟨q, hq⟩ : ∃ q, q = pD s := ⟨_, rfl⟩
  have HQ : Hid (q = ((((rdByte s).1 : Int), (pA (rdByte s).1 (rdByte s).2).1, (pB (rdByte s).1 (pA (rdByte s).1 (rdByte s).2).2).1), (pB (rdByte s).1 (pA (rdByte s).1 (rdByte s).2).2).2)) := Lib.hid hq
  rw [← hq]
  clear hq hb1 hi
  have hok1 := rdByte_ok hok
  have hl1 : (rdByte s).2.rest.length ≤ 140737489403904 := Nat.le_trans (rdByte_left s) hl
  generalize rdByte s = p at *
  obtain ⟨k, S⟩ := p
  dsimp only at HB HQ hok1 hl1
  have hok2 := pA_ok (k := k) hok1
  have hl2 : (pA k S).2.rest.length ≤ 140737489403904 := Nat.le_trans (pA_left k S) hl1
  go_enter Tryz.func109, Tryz.ntmps109
  unfold declBox at HB
  go_wp2_with fail
  refine HB.out.mono ?_
  rintro e w2 ⟨rfl, hi2, hf2⟩
  have HG := Lib.hid (gd_new (k := (k : Int)) hi2 hf2 hlt)
  clear hi2 hf2 HB
  unfold declBox at HG
  go_upto_region 2 with fail
  generalize w2.alloc (.cells #[.int .i64 (k : Int), .int .i64 0, .int .i64 0] 44) = W2 at *
  generalize w2.heap.size = d at *
  obtain ⟨⟨c0, c1, c2⟩, ⟨g1, g2⟩, ⟨e0, e1, e2⟩, f0, f1, f2⟩ := HG.out.cells
  by_cases e3 : k = 3
  · have d3 : ((k : Int) == 3) = true := by simp; omega
    have HA1 : Hid (pA k S = pN S) := Lib.hid (by unfold pA; rw [if_pos (.inl e3)])
    have HB1 : Hid (pB k (pN S).2 = pN (pN S).2) := Lib.hid (by unfold pB; rw [if_pos (.inl e3)])
    rw [HA1.out] at HQ hok2 hl2
    rw [HB1.out] at HQ
    have HN1 := fun W hW => Lib.hid (num_any W bi S hW hok1 hl1)
    have HN2 := fun W hW => Lib.hid (num_any W bi _ hW hok2 hl2)
    clear e3 HA1 HB1 hok2 hl2 hok1 hl1
    generalize pN S = n1 at *
    obtain ⟨x, S1⟩ := n1
    dsimp only at HN1 HN2 HQ
    generalize pN S1 = n2 at *
    obtain ⟨y, S2⟩ := n2
    dsimp only at HN2 HQ
    go_wp2_with fail
    refine (HN1 _ HG.out.inn).out.mono ?_
    rintro e w3 ⟨rfl, hi3, hf3⟩
    have HG3 := Lib.hid (HG.out.next hi3 hf3)
    clear c0 c1 c2 g1 g2 e0 e1 e2 f0 f1 f2 hi3 hf3 HG HN1
    obtain ⟨⟨c0, c1, c2⟩, ⟨g1, g2⟩, ⟨e0, e1, e2⟩, f0, f1, f2⟩ := HG3.out.cells
    go_upto_region 5 with fail
    have HG4 := Lib.hid (HG3.out.setA x)
    clear c0 c1 c2 g1 g2 e0 e1 e2 f0 f1 f2 HG3
    generalize w3.setCell ⟨d, 1, none⟩ (.int .i64 x) = W4 at *
    go_wp2_with fail
    refine (HN2 _ HG4.out.inn).out.mono ?_
    rintro e w5 ⟨rfl, hi5, hf5⟩
    have HG5 := Lib.hid (HG4.out.next hi5 hf5)
    clear hi5 hf5 HG4 HN2
    obtain ⟨⟨c0, c1, c2⟩, ⟨g1, g2⟩, ⟨e0, e1, e2⟩, f0, f1, f2⟩ := HG5.out.cells
    go_upto_region 11 with fail
    have HG6 := Lib.hid (HG5.out.setB y)
    clear c0 c1 c2 g1 g2 e0 e1 e2 f0 f1 f2 HG5
    generalize w5.setCell ⟨d, 2, none⟩ (.int .i64 y) = W6 at *
    obtain ⟨⟨c0, c1, c2⟩, ⟨g1, g2⟩, ⟨e0, e1, e2⟩, f0, f1, f2⟩ := HG6.out.cells
    go_wp2_with fail
    exact getD_ret HQ.out (by rfl) rfl HG6.out
  · have d3 : ((k : Int) == 3) = false := by simp; omega
    by_cases e6 : k = 6
    · have d6 : ((k : Int) == 6) = true := by simp; omega
      have HA1 : Hid (pA k S = pN S) := Lib.hid (by unfold pA; rw [if_pos (.inr e6)])
      have HB1 : Hid (pB k (pN S).2 = (0, (pN S).2)) := Lib.hid (by unfold pB; rw [if_neg (by omega)])
      rw [HA1.out] at HQ hok2 hl2
      rw [HB1.out] at HQ
      have HN1 := fun W hW => Lib.hid (num_any W bi S hW hok1 hl1)
      clear e3 e6 HA1 HB1 hok2 hl2 hok1 hl1
      generalize pN S = n1 at *
      obtain ⟨x, S1⟩ := n1
      dsimp only at HN1 HQ
      go_wp2_with fail
      refine (HN1 _ HG.out.inn).out.mono ?_
      rintro e w3 ⟨rfl, hi3, hf3⟩
      have HG3 := Lib.hid (HG.out.next hi3 hf3)
      clear c0 c1 c2 g1 g2 e0 e1 e2 f0 f1 f2 hi3 hf3 HG HN1
      obtain ⟨⟨c0, c1, c2⟩, ⟨g1, g2⟩, ⟨e0, e1, e2⟩, f0, f1, f2⟩ := HG3.out.cells
      go_upto_region 11 with fail
      have HG4 := Lib.hid (HG3.out.setA x)
      clear c0 c1 c2 g1 g2 e0 e1 e2 f0 f1 f2 HG3
      generalize w3.setCell ⟨d, 1, none⟩ (.int .i64 x) = W4 at *
      obtain ⟨⟨c0, c1, c2⟩, ⟨g1, g2⟩, ⟨e0, e1, e2⟩, f0, f1, f2⟩ := HG4.out.cells
      go_wp2_with fail
      exact getD_ret HQ.out (by rfl) rfl HG4.out
    · have d6 : ((k : Int) == 6) = false := by simp; omega
      by_cases e7 : k = 7
      · have d7 : ((k : Int) == 7) = true := by simp; omega
        have HA1 : Hid (pA k S = rdInt S) := Lib.hid (by unfold pA; rw [if_neg (by omega), if_pos e7])
        have HB1 : Hid (pB k (rdInt S).2 = pN (rdInt S).2) := Lib.hid (by unfold pB; rw [if_pos (.inr e7)])
        rw [HA1.out] at HQ hok2 hl2
        rw [HB1.out] at HQ
        have HN1 := fun W hW => Lib.hid (intIn_any W bi S hW hok1 hl1)
        have HN2 := fun W hW => Lib.hid (num_any W bi _ hW hok2 hl2)
        clear e3 e6 e7 HA1 HB1 hok2 hl2 hok1 hl1
        generalize rdInt S = n1 at *
        obtain ⟨x, S1⟩ := n1
        dsimp only at HN1 HN2 HQ
        generalize pN S1 = n2 at *
        obtain ⟨y, S2⟩ := n2
        dsimp only at HN2 HQ
        go_wp2_with fail
        refine (HN1 _ HG.out.inn).out.mono ?_
        rintro e w3 ⟨rfl, hi3, hf3⟩
        have HG3 := Lib.hid (HG.out.next hi3 hf3)
        clear c0 c1 c2 g1 g2 e0 e1 e2 f0 f1 f2 hi3 hf3 HG HN1
        obtain ⟨⟨c0, c1, c2⟩, ⟨g1, g2⟩, ⟨e0, e1, e2⟩, f0, f1, f2⟩ := HG3.out.cells
        go_upto_region 10 with fail
        have HG4 := Lib.hid (HG3.out.setA x)
        clear c0 c1 c2 g1 g2 e0 e1 e2 f0 f1 f2 HG3
        generalize w3.setCell ⟨d, 1, none⟩ (.int .i64 x) = W4 at *
        go_wp2_with fail
        refine (HN2 _ HG4.out.inn).out.mono ?_
        rintro e w5 ⟨rfl, hi5, hf5⟩
        have HG5 := Lib.hid (HG4.out.next hi5 hf5)
        clear hi5 hf5 HG4 HN2
        obtain ⟨⟨c0, c1, c2⟩, ⟨g1, g2⟩, ⟨e0, e1, e2⟩, f0, f1, f2⟩ := HG5.out.cells
        go_upto_region 11 with fail
        have HG6 := Lib.hid (HG5.out.setB y)
        clear c0 c1 c2 g1 g2 e0 e1 e2 f0 f1 f2 HG5
        generalize w5.setCell ⟨d, 2, none⟩ (.int .i64 y) = W6 at *
        obtain ⟨⟨c0, c1, c2⟩, ⟨g1, g2⟩, ⟨e0, e1, e2⟩, f0, f1, f2⟩ := HG6.out.cells
        go_wp2_with fail
        exact getD_ret HQ.out (by rfl) rfl HG6.out
      · have d7 : ((k : Int) == 7) = false := by simp; omega
        have HA1 : Hid (pA k S = (0, S)) := Lib.hid (by unfold pA; rw [if_neg (by omega), if_neg e7])
        have HB1 : Hid (pB k S = (0, S)) := Lib.hid (by unfold pB; rw [if_neg (by omega)])
        rw [HA1.out] at HQ
        dsimp only at HQ
        rw [HB1.out] at HQ
        clear e3 e6 e7 HA1 HB1 hok2 hl2 hok1 hl1
        dsimp only at HQ
        go_wp2_with fail
        exact getD_ret HQ.out (by rfl) rfl HG.out
end Go.Proofs.YtahejekcfgkiaaaGreatDoor.objs

/-
  The program's own reading of all objects, before they are checked (typed over the code of 392f5a9): for every text of at most two to the forty-seventh bytes. The table of names must lie where its initialiser lays it.
-/
namespace Go.Proofs.YtahejekcfgkiaaaGreatDoor.objs
open Go.RowKit Go.ChangeShapes
open Go.Proofs.YtahejekcfgkiaaaGreatDoor.octet (St InAt Frm rdNum err_any)
open Go.Proofs.YtahejekcfgkiaaaGreatDoor.span (pN num_any)
set_option linter.unusedVariables false

/-- What getAll tells, and leaves. -/
def AllPost (bi : Nat) (r : List De × St × Nat) (w : World) (e : Ending) (w' : World) : Prop :=
  ∃ v, e = .returned (.tuple #[v, .int .i64 (r.2.2 : Int)]) ∧ (∃ A cap, v = .slice A r.1.length cap ∧ DAt w' A r.1) ∧ InAt w' bi r.2.1 ∧ Frm w.heap.size bi w w'

/-- Between two objects that are read: the reader, and the row that grows. -/
structure Gs (w : World) (bi : Nat) (v : Value) (ls : List De) (S : St) (W : World) : Prop where
  inn : InAt W bi S
  own : Own W w.heap.size v ls
  frm : Frm w.heap.size bi w W
  lt : bi < w.heap.size
theorem Gs.next {w W W' : World} {bi : Nat} {v : Value} {ls : List De} {S S' : St} (h : Gs w bi v ls S W) (hi : InAt W' bi S') (hf : Frm W.heap.size bi W W') : Gs w bi v ls S' W' := by
  have e1 := h.lt
  exact ⟨hi, h.own.keep fun g hg => hf.block g (h.own.lt hg).2 (by have := (h.own.lt hg).1; omega), h.frm.trans (hf.mono h.frm.size), e1⟩
theorem Gs.box {w W : World} {bi : Nat} {v : Value} {ls : List De} {S : St} (h : Gs w bi v ls S W) (o : Obj) : Gs w bi v ls S (W.alloc o) := by
  have hb : Below W.heap.size W (W.alloc o) := (Below.refl _ _).alloc (Nat.le_refl _) _
  exact h.next (h.inn.kept (hb.block _ h.inn.lt)) (Frm.of_below hb)
theorem Gs.ok {w W : World} {bi : Nat} {v : Value} {ls : List De} {S : St} (h : Gs w bi v ls S W) (hw : Okd w) (hb : 1 < bi) : Okd W :=
  hw.below (h.frm.below (Nat.le_refl bi) (Nat.le_of_lt h.lt)) hb
theorem Gs.app {w W W2 : World} {bi : Nat} {v v2 : Value} {ls ls2 : List De} {S : St} (h : Gs w bi v ls S W) (o : Obj) (h2 : Own W2 w.heap.size v2 ls2) (hg : (W.alloc o).grownBy W2 v.ownBlock) : Gs w bi v2 ls2 S W2 := by
  have h1 := h.box o
  have e1 := h.lt
  refine ⟨h1.inn.kept (hg.block bi h1.inn.lt (fun e => ?_)), h2, h1.frm.grown hg h1.frm.size (fun k e => .inl (h1.own.lt e).1), e1⟩
  have := (h1.own.lt e.symm).1
  omega
/-- The row that is made. -/
def mkD (m : Nat) : Obj := .cells (madeCells (Value.agg #[.int .i64 0, .int .i64 0, .int .i64 0]).cells (m * 3)) 44
theorem run_mkD (m : Nat) (hm : m ≤ 32) (W : World) : (Instr.makeSlice 22 (.int .i64 0) (.int .i64 (m : Int))).run Tryz.prog W = .ok (.slice (some ⟨W.heap.size, 0, none⟩) 0 m) (W.alloc (mkD m)) := by
  obtain ⟨i, hi, hz0, hz1, hz2⟩ := info_parts infoD
  have h := run_make (P := Tryz.prog) W 22 44 i _ Tryz.underlying22 hi hz0 .i64 .i64 0 (m : Int) (by omega) (by omega) (by rw [hz2]; omega) (by omega)
  rw [hz1, Int.toNat_natCast, Int.toNat_zero] at h
  exact h
theorem gs_made {w W : World} {bi : Nat} {S : St} (m : Nat) (hm : m ≤ 32) (hi : InAt W bi S) (hf : Frm w.heap.size bi w W) (hlt : bi < w.heap.size) : Gs w bi (.slice (some ⟨W.heap.size, 0, none⟩) 0 m) [] S (W.alloc (mkD m)) := by
  have hb : Below W.heap.size W (W.alloc (mkD m)) := (Below.refl _ _).alloc (Nat.le_refl _) _
  exact ⟨hi.kept (hb.block _ hi.lt), World.ownsRow_made W _ m hf.size (by unfold maxLen; omega) (size_madeCells _ _), hf.trans (Frm.of_below (hb.mono hf.size)), hlt⟩
theorem rdL_stuck {s : St} {j : Nat} {q : List De × St × Nat} (h : rdL s j = q) (hq : q.2.2 ≠ 0) : ∀ k, j ≤ k → rdL s k = q := by
  intro k hk
  induction k with
  | zero =>
    obtain rfl : j = 0 := by omega
    exact h
  | succ k ih =>
    rcases Nat.eq_or_lt_of_le hk with e | e
    · subst e; exact h
    · have := ih (by omega)
      simp only [rdL, this]
      rw [if_pos hq]
theorem pAll_eq (s : St) : pAll s = if (pN s).2.err ≠ 0 then ([], (pN s).2, (pN s).2.err) else if 32 < (pN s).1 then ([], (pN s).2, 4) else ((rdL (pN s).2 (pN s).1.toNat).1.map cutD, (rdL (pN s).2 (pN s).1.toNat).2.1, (rdL (pN s).2 (pN s).1.toNat).2.2) := rfl

theorem all_ret {w W : World} {bi n cap : Nat} {A : Option Addr} {ls : List De} {S : St} {e : Nat} {act : Act} {r : List De × St × Nat} (hr : r = (ls, S, e)) (hn : n = ls.length) (h2 : act.tmps[2]?.getD undef = .slice A n cap) (h3 : act.tmps[3]?.getD undef = .int .i64 (e : Int)) (hd : act.defers = [])
    (hA : DAt W A ls) (hi : InAt W bi S) (hf : Frm w.heap.size bi w W) : bodyPost Tryz.prog Tryz.f98 (AllPost bi r w) .ret act W := by
  subst hr hn
  refine bodyPost_ret (v := .tuple #[.slice A ls.length cap, .int .i64 (e : Int)]) ?_ hd ⟨_, rfl, ⟨A, cap, rfl, hA⟩, hi, hf⟩
  simp [results, Tryz.results98, go_sem, h2, h3]

set_option maxRecDepth 100000 in
set_option maxHeartbeats 8000000 in
theorem getAll_any (w : World) (bi : Nat) (s : St) (hi : InAt w bi s) (hok : s.ok) (hl : s.rest.length ≤ 140737489403904) (hw : Okd w) (hbi : 1 < bi) :
    Calls Tryz.prog 98 #[.pointer (some ⟨bi, 0, none⟩)] w (AllPost bi (pAll s) w) := by
  have hlt := hi.lt
  have HN := Lib.hid (num_any w bi s hi hok hl)
  obtain ⟨r, hr⟩ : ∃ r, r = pAll s := ⟨_, rfl⟩
  have HR := Lib.hid (hr.trans (pAll_eq s))
  rw [← hr]
  have hok1 := pN_ok hok
  have hl1 := Nat.le_trans (pN_left s) hl
  have hn0 : 0 ≤ (pN s).1 := by unfold pN; dsimp only; omega
  have HW := Lib.hid (And.intro hw hbi)
  clear hr hi hok hl hw hbi
  generalize pN s = N at *
  obtain ⟨n, S⟩ := N
  dsimp only at HN HR hok1 hl1 hn0
  go_enter Tryz.func98, Tryz.ntmps98
  go_wp2_with fail
  refine HN.out.mono ?_
  rintro e w1 ⟨rfl, hi1, hf1⟩
  have HI1 := Lib.hid hi1
  have HF1 := Lib.hid hf1
  have HEr := Lib.hid (err_any w1 bi S hi1)
  clear hi1 hf1 HN
  go_wp2_with fail
  refine HEr.out.mono ?_
  rintro e w2 ⟨rfl, rfl⟩
  by_cases he : S.err = 0
  · have he' : ((S.err : Int) != 0) = false := by simp [he]
    have HE0 := Lib.hid he
    clear he
    by_cases h32 : 32 < n
    · have HRR : Hid (r = ([], S, 4)) := Lib.hid (by rw [HR.out, if_neg (by simp [HE0.out]), if_pos h32])
      have hd : decide (32 < n) = true := by simpa using h32
      clear HR h32
      go_wp2_with fail
      exact all_ret HRR.out rfl (by rfl) (by rfl) rfl (DAt.nil _ _) HI1.out HF1.out
    · have HR0 : Hid (r = ((rdL S n.toNat).1.map cutD, (rdL S n.toNat).2.1, (rdL S n.toNat).2.2)) := Lib.hid (by rw [HR.out, if_neg (by simp [HE0.out]), if_neg h32])
      obtain ⟨m, rfl⟩ : ∃ m : Nat, n = (m : Int) := ⟨n.toNat, by omega⟩
      have HRR : Hid (r = ((rdL S m).1.map cutD, (rdL S m).2.1, (rdL S m).2.2)) := Lib.hid HR0.out
      have hd : decide (32 < (m : Int)) = false := by simp; omega
      have hm32 : m ≤ 32 := by omega
      have hmk := run_mkD m hm32
      have HG0 := Lib.hid (gs_made m hm32 HI1.out HF1.out hlt)
      clear HR HR0 h32 hn0 HI1 HF1 HEr HE0
      have HStop : Hid (∀ j, j ≤ m → ∀ q : List De × St × Nat, rdL S j = q → q.2.2 ≠ 0 → rdL S m = q) := Lib.hid (fun j hj q h hq => rdL_stuck h hq m hj)
      go_wp2_with fail
      generalize w1.alloc (mkD m) = W2 at *
      generalize w1.heap.size = g0 at *
      go_loopw [6, 21] (fun v i wr => ∃ (j : Nat) (ls : List De) (S' : St), j ≤ m ∧ i = .int .i64 (j : Int) ∧ Hid (rdL S j = (ls, S', 0)) ∧ Hid (Gs w bi v (ls.map cutD) S' wr) ∧ Hid (S'.ok ∧ S'.rest.length ≤ 140737489403904)) (fun _ i _ => m - (intOf i).toNat)
      case atStart => exact ⟨0, [], S, Nat.zero_le _, rfl, Lib.hid rfl, HG0, Lib.hid ⟨hok1, hl1⟩⟩
      case round =>
        obtain ⟨j, ls, S', hj, rfl, HL, HG, HO⟩ := hrel
        have hlen : ls.length = j := by have := rdL_length j (by rw [HL.out] : (rdL S j).2.2 = 0); rwa [HL.out] at this
        obtain ⟨A, cap, hv⟩ := HG.out.own.slice
        rw [List.length_map, hlen] at hv
        subst hv
        by_cases hlt2 : j < m
        · have hlt' : (j : Int) < (m : Int) := by omega
          have HD := Lib.hid (getD_any wr bi S' HG.out.inn HO.out.1 HO.out.2)
          unfold OnePost8 at HD
          have HNx : Hid (rdL S (j + 1) = if (rdD S').2.2 ≠ 0 then ([], (rdD S').2.1, (rdD S').2.2) else (ls ++ [(rdD S').1], (rdD S').2.1, 0)) := Lib.hid (by simp only [rdL, HL.out]; rfl)
          have HO2 := Lib.hid (And.intro (pD_ok HO.out.1) (Nat.le_trans (pD_left S') HO.out.2))
          have HX1 := Lib.hid (fun h => pD_err (s := S') h)
          have HX2 := Lib.hid (fun h1 h2 => pD_kind (s := S') h1 h2)
          have HX3 := Lib.hid (fun h1 h2 => pD_fine (s := S') h1 h2)
          clear HO HL
          generalize pD S' = q at *
          generalize rdD S' = rr at *
          obtain ⟨⟨k, x, y⟩, T⟩ := q
          obtain ⟨dd, T', e'⟩ := rr
          dsimp only at HD HNx HO2 HX1 HX2 HX3
          go_wp2_with fail
          refine HD.out.mono ?_
          rintro e w3 ⟨rfl, hi3, hf3⟩
          have HG3 := Lib.hid (HG.out.next hi3 hf3)
          have HG4 := Lib.hid (HG3.out.box (declBox k x y))
          have hbx := box_at w3 (k, x, y)
          dsimp only at hbx
          unfold declBox at HG4 hbx
          clear hi3 hf3 HG HD HG3
          go_upto_region 11 with fail
          generalize w3.alloc (.cells #[.int .i64 k, .int .i64 x, .int .i64 y] 44) = W4 at *
          generalize w3.heap.size = d at *
          obtain ⟨c0, c1, c2⟩ := hbx
          have HEr := Lib.hid (err_any W4 bi T HG4.out.inn)
          go_wp2_with fail
          refine HEr.out.mono ?_
          rintro e w5 ⟨rfl, rfl⟩
          by_cases hT : T.err = 0
          · have hT' : ((T.err : Int) != 0) = false := by simp [hT]
            have HK := Lib.hid (known_any k W4 (HG4.out.ok HW.out.1 HW.out.2))
            by_cases hk : 1 ≤ k ∧ k ≤ 7
            · rw [decide_eq_true hk] at HK
              obtain ⟨hx1, hx2⟩ := HX3.out hT hk
              injection hx1 with hx3 hx4
              have HQ : Hid (rdL S (j + 1) = (ls ++ [dd], T, 0)) := Lib.hid (by rw [HNx.out, hx3, hx4]; rfl)
              have HM : Hid ((ls ++ [dd]).map cutD = ls.map cutD ++ [(k, x, y)]) := Lib.hid (by rw [List.map_append, hx2]; rfl)
              have hown1 : Own (W4.alloc (declBox k x y)) w.heap.size (.slice A j cap) (ls.map cutD) := (HG4.out.box (declBox k x y)).own
              have hone : DAt (W4.alloc (declBox k x y)) (some ⟨W4.heap.size, 0, none⟩) [(k, x, y)] := DAt.one (heap_alloc_new W4 _)
              have hbase : w.heap.size ≤ W4.heap.size := HG4.out.frm.size
              have hll : (ls.map cutD).length = j := by rw [List.length_map, hlen]
              have Hap := fun (v2 : Value) (W2 : World) (h1 : Own W2 w.heap.size v2 (ls.map cutD ++ [(k, x, y)])) (h2 : (W4.alloc (declBox k x y)).grownBy W2 (Value.slice A j cap).ownBlock) => HG4.out.app (declBox k x y) h1 h2
              unfold declBox at hown1 hone Hap
              clear hx2 hx3 hx4 HX1 HX2 HX3 HNx hT hk
              generalize ls.map cutD = lc at *
              go_wp2_with fail
              refine HK.out.mono ?_
              rintro e w6 ⟨rfl, rfl⟩
              go_wp2_with (
                at_builtin
                refine wpList_appD (by rfl) (.tmp 34) (.tmp 36) (by rfl) w.heap.size 1 1 (.slice A j cap) (some ⟨W4.heap.size, 0, none⟩) lc [(k, x, y)] (by rfl) hown1 (by rfl) rfl (fun h => by cases h) hone (by simp; omega) (by simp; omega) ?_)
              intro v2 W5 hv2 hg2
              have HG5 := Lib.hid (Hap v2 W5 hv2 ⟨hg2.os, hg2.tape, hg2.output, hg2.size, hg2.block⟩)
              clear hown1 hone hv2 hg2 Hap c0 c1 c2
              go_wp2
              go_roundw
              case rel => exact ⟨j + 1, ls ++ [dd], T, by omega, by go_num, HQ, by rw [HM.out]; exact HG5, HO2⟩
              case measure => simp [intOf]; omega
            · rw [decide_eq_false hk] at HK
              have hx1 := HX2.out hT hk
              injection hx1 with hx3 hx4
              have HQ : Hid (rdL S m = ([], T, 6)) := Lib.hid (HStop.out (j + 1) (by omega) ([], T, 6) (by rw [HNx.out, hx3, hx4]; rfl) (by show 6 ≠ 0; decide))
              have HV : Hid (r = ([], T, 6)) := Lib.hid (by rw [HRR.out, HQ.out]; rfl)
              clear hx3 hx4 HX1 HX2 HX3 HNx hT hk HQ HRR
              go_wp2_with fail
              refine HK.out.mono ?_
              rintro e w6 ⟨rfl, rfl⟩
              go_wp2_with fail
              exact all_ret HV.out rfl (by rfl) (by rfl) rfl (DAt.nil _ _) HG4.out.inn HG4.out.frm
          · have hT' : ((T.err : Int) != 0) = true := by simpa using hT
            have hx1 := HX1.out hT
            injection hx1 with hx3 hx4
            have HQ : Hid (rdL S m = ([], T, T.err)) := Lib.hid (HStop.out (j + 1) (by omega) ([], T, T.err) (by rw [HNx.out, hx3, hx4, if_pos hT]) hT)
            have HV : Hid (r = ([], T, T.err)) := Lib.hid (by rw [HRR.out, HQ.out]; rfl)
            clear hx3 hx4 HX1 HX2 HX3 HNx hT HQ HRR
            go_wp2_with fail
            exact all_ret HV.out rfl (by rfl) (by rfl) rfl (DAt.nil _ _) HG4.out.inn HG4.out.frm
        · obtain rfl : j = m := by omega
          have HV : Hid (r = (ls.map cutD, S', 0)) := Lib.hid (by rw [HRR.out, HL.out])
          go_wp2_with fail
          exact all_ret HV.out (by rw [List.length_map, hlen]) (by rfl) (by rfl) rfl HG.out.own.at HG.out.inn HG.out.frm
  · have HRR : Hid (r = ([], S, S.err)) := Lib.hid (by rw [HR.out, if_pos he])
    have he' : ((S.err : Int) != 0) = true := by simpa using he
    clear HR he
    go_wp2_with fail
    exact all_ret HRR.out rfl (by rfl) (by rfl) rfl (DAt.nil _ _) HI1.out HF1.out
end Go.Proofs.YtahejekcfgkiaaaGreatDoor.objs

/-
  The program's own bytes of objects (typed over the code of 392f5a9). The table of names must lie where its initialiser lays it.
-/
namespace Go.Proofs.YtahejekcfgkiaaaGreatDoor.objs
open Go.RowKit Go.ChangeShapes
open Go.Proofs.YtahejekcfgkiaaaGreatDoor.octet (OutAt Frm Spare NoBytes num zig num_keep int_keep byte_keep done_any Fits bof bof_nat num_length_le)
open Go.Proofs.YtahejekcfgkiaaaGreatDoor.word (Word)
set_option linter.unusedVariables false

/-- While an object is put: the writer at bo holds L, the object stands at g. -/
structure Pd (w : World) (base bo g : Nat) (k a b : Int) (L : List UInt8) (W : World) : Prop where
  out : OutAt W base bo L
  box : W.heap[g]? = some (declBox k a b)
  ne : g ≠ bo
  frm : Frm base bo w W
theorem noBytes_decl (k a b : Int) : NoBytes (declBox k a b) := fun cur q h => by
  unfold declBox at h
  injection h with _ h2 _
  exact absurd h2 (by decide)
theorem Pd.next {w W W' : World} {base bo g : Nat} {k a b : Int} {L L' : List UInt8} (h : Pd w base bo g k a b L W) (ho : OutAt W' base bo L') (hf : Frm base bo W W') (hs : Spare bo W W') : Pd w base bo g k a b L' W' :=
  ⟨ho, hs _ _ h.box h.ne (noBytes_decl k a b), h.ne, h.frm.trans hf⟩
theorem Pd.cells {w W : World} {base bo g : Nat} {k a b : Int} {L : List UInt8} (h : Pd w base bo g k a b L W) : W.cell? ⟨g, 0, none⟩ = some (.int .i64 k) ∧ W.cell? ⟨g, 1, none⟩ = some (.int .i64 a) ∧ W.cell? ⟨g, 2, none⟩ = some (.int .i64 b) := by
  unfold World.cell?
  rw [h.box]
  exact ⟨rfl, rfl, rfl⟩
theorem pd_new {w : World} {base bo : Nat} {L : List UInt8} (k a b : Int) (ho : OutAt w base bo L) : Pd w base bo w.heap.size k a b L (w.alloc (declBox k a b)) := by
  have hb : Below w.heap.size w (w.alloc (declBox k a b)) := (Below.refl _ _).alloc (Nat.le_refl _) _
  exact ⟨ho.kept hb (Nat.le_refl _), heap_alloc_new w _, Nat.ne_of_gt ho.lt, Frm.of_below (hb.mono ho.base_le)⟩

/-- What the bytes of an object ask of its numbers. -/
def Slim (d : De) : Prop := (1 ≤ d.1 ∧ d.1 ≤ 7) ∧ (d.1 = 3 → 0 ≤ d.2.1 ∧ d.2.1 ≤ 1000) ∧ (d.1 = 6 → 0 ≤ d.2.1 ∧ d.2.1 ≤ 1000) ∧ (d.1 = 7 → Word d.2.1) ∧ (d.1 = 3 ∨ d.1 = 7 → 0 ≤ d.2.2 ∧ d.2.2 ≤ 1000)
theorem slim_of {l : List De} {d : De} (hl : l.length ≤ 32) (h : one l d = 0) : Slim d := by
  obtain ⟨hk, h3, h6, h7, _, _⟩ := one_zero h
  refine ⟨hk, fun e => ?_, fun e => ?_, fun e => (h7 e).1, fun e => ?_⟩
  · have := h3 e; omega
  · have := h6 e; omega
  · rcases e with e | e
    · have := h3 e; omega
    · have := fits_lt (h7 e).2; omega

set_option maxHeartbeats 2000000 in
theorem putD_any (w : World) (base bo : Nat) (L : List UInt8) (d : De) (hd : Slim d) (ho : OutAt w base bo L) (hl : L.length + 21 ≤ 140737488355328) :
    Calls Tryz.prog 45 #[.pointer (some ⟨bo, 0, none⟩), .agg #[.int .i64 d.1, .int .i64 d.2.1, .int .i64 d.2.2]] w fun e w' => e = .returned (.tuple #[]) ∧ OutAt w' base bo (L ++ encD d) ∧ Frm base bo w w' := by
  obtain ⟨k, a, b⟩ := d
  obtain ⟨hk, h3, h6, h7, h37⟩ := hd
  dsimp only at hk h3 h6 h7 h37 ⊢
  have HP0 := Lib.hid (pd_new k a b ho)
  have HY := Lib.hid (byte_keep _ base bo L k HP0.out.out (by omega))
  have hB : bof k = UInt8.ofNat k.toNat := by
    have : ((k.toNat : Nat) : Int) = k := by omega
    rw [← bof_nat, this]
  have HEn : Hid (L ++ encD (k, a, b) = (L ++ [bof k]) ++ (pieceA k a ++ pieceB k b)) := Lib.hid (by rw [hB]; simp [encD])
  have hlen : (L ++ [bof k]).length + 20 ≤ 140737488355328 := by rw [List.length_append]; simp; omega
  rw [HEn.out]
  generalize L ++ [bof k] = L1 at *
  unfold declBox at HP0 HY
  obtain ⟨c0, c1, c2⟩ := HP0.out.cells
  clear hB HEn ho hl
  have hk1 := hk.1
  have hk7 := hk.2
  by_cases e3 : k = 3
  · subst e3
    have hr := h3 rfl
    have hs := h37 (.inl rfl)
    obtain ⟨m, rfl⟩ : ∃ m : Nat, a = (m : Int) := ⟨a.toNat, by omega⟩
    obtain ⟨n, rfl⟩ : ∃ n : Nat, b = (n : Int) := ⟨b.toNat, by omega⟩
    have HA' : Hid (pieceA 3 (m : Int) = num m) := Lib.hid rfl
    have HB' : Hid (pieceB 3 (n : Int) = num n) := Lib.hid rfl
    rw [HA'.out, HB'.out, ← List.append_assoc]
    have hm1 : m ≤ 1000 := by omega
    have hn1 : n ≤ 1000 := by omega
    have hl1 := num_length_le m
    have HN1 := fun W (hW : OutAt W base bo L1) => Lib.hid (num_keep W base bo L1 m (by unfold Fits; omega) hW (by omega))
    have HN2 := fun W (hW : OutAt W base bo (L1 ++ num m)) => Lib.hid (num_keep W base bo (L1 ++ num m) n (by unfold Fits; omega) hW (by rw [List.length_append]; omega))
    clear h3 h6 h7 h37 hr hs hk hk1 hk7 HA' HB' hl1 hlen
    go_enter Tryz.func45, Tryz.ntmps45
    go_wp2_with fail
    refine HY.out.mono ?_
    rintro e w1 ⟨rfl, x1, x2, x3⟩
    have HP1 := Lib.hid (HP0.out.next x1 x2 x3)
    clear x1 x2 x3 c0 c1 c2 HP0 HY
    obtain ⟨c0, c1, c2⟩ := HP1.out.cells
    go_wp2_with fail
    refine (HN1 _ HP1.out.out).out.mono ?_
    rintro e w2 ⟨rfl, x1, x2, x3⟩
    have HP2 := Lib.hid (HP1.out.next x1 x2 x3)
    clear x1 x2 x3 c0 c1 c2 HP1 HN1
    obtain ⟨c0, c1, c2⟩ := HP2.out.cells
    go_wp2_with fail
    refine (HN2 _ HP2.out.out).out.mono ?_
    rintro e w3 ⟨rfl, x1, x2, x3⟩
    have HP3 := Lib.hid (HP2.out.next x1 x2 x3)
    clear x1 x2 x3 c0 c1 c2 HP2 HN2
    go_wp2
    go_end0
    exact ⟨rfl, HP3.out.out, HP3.out.frm⟩
  · by_cases e6 : k = 6
    · subst e6
      have hr := h6 rfl
      obtain ⟨m, rfl⟩ : ∃ m : Nat, a = (m : Int) := ⟨a.toNat, by omega⟩
      have HA' : Hid (pieceA 6 (m : Int) = num m) := Lib.hid rfl
      have HB' : Hid (pieceB 6 b = []) := Lib.hid rfl
      rw [HA'.out, HB'.out, List.append_nil]
      have hm1 : m ≤ 1000 := by omega
      have HN1 := fun W (hW : OutAt W base bo L1) => Lib.hid (num_keep W base bo L1 m (by unfold Fits; omega) hW (by omega))
      clear h3 h6 h7 h37 hr hk hk1 hk7 HA' HB' hlen e3
      go_enter Tryz.func45, Tryz.ntmps45
      go_wp2_with fail
      refine HY.out.mono ?_
      rintro e w1 ⟨rfl, x1, x2, x3⟩
      have HP1 := Lib.hid (HP0.out.next x1 x2 x3)
      clear x1 x2 x3 c0 c1 c2 HP0 HY
      obtain ⟨c0, c1, c2⟩ := HP1.out.cells
      go_wp2_with fail
      refine (HN1 _ HP1.out.out).out.mono ?_
      rintro e w2 ⟨rfl, x1, x2, x3⟩
      have HP2 := Lib.hid (HP1.out.next x1 x2 x3)
      clear x1 x2 x3 c0 c1 c2 HP1 HN1
      go_wp2
      go_end0
      exact ⟨rfl, HP2.out.out, HP2.out.frm⟩
    · by_cases e7 : k = 7
      · subst e7
        have hw := h7 rfl
        have hs := h37 (.inr rfl)
        obtain ⟨n, rfl⟩ : ∃ n : Nat, b = (n : Int) := ⟨b.toNat, by omega⟩
        have HA' : Hid (pieceA 7 a = num (zig a)) := Lib.hid rfl
        have HB' : Hid (pieceB 7 (n : Int) = num n) := Lib.hid rfl
        rw [HA'.out, HB'.out, ← List.append_assoc]
        have hn1 : n ≤ 1000 := by omega
        have hl1 := num_length_le (zig a)
        unfold Word at hw
        have HN1 := fun W (hW : OutAt W base bo L1) => Lib.hid (int_keep W base bo L1 a (by omega) (by omega) hW (by omega))
        have HN2 := fun W (hW : OutAt W base bo (L1 ++ num (zig a))) => Lib.hid (num_keep W base bo (L1 ++ num (zig a)) n (by unfold Fits; omega) hW (by rw [List.length_append]; omega))
        clear h3 h6 h7 h37 hw hs hk hk1 hk7 HA' HB' hl1 hlen e3 e6
        go_enter Tryz.func45, Tryz.ntmps45
        go_wp2_with fail
        refine HY.out.mono ?_
        rintro e w1 ⟨rfl, x1, x2, x3⟩
        have HP1 := Lib.hid (HP0.out.next x1 x2 x3)
        clear x1 x2 x3 c0 c1 c2 HP0 HY
        obtain ⟨c0, c1, c2⟩ := HP1.out.cells
        go_wp2_with fail
        refine (HN1 _ HP1.out.out).out.mono ?_
        rintro e w2 ⟨rfl, x1, x2, x3⟩
        have HP2 := Lib.hid (HP1.out.next x1 x2 x3)
        clear x1 x2 x3 c0 c1 c2 HP1 HN1
        obtain ⟨c0, c1, c2⟩ := HP2.out.cells
        go_wp2_with fail
        refine (HN2 _ HP2.out.out).out.mono ?_
        rintro e w3 ⟨rfl, x1, x2, x3⟩
        have HP3 := Lib.hid (HP2.out.next x1 x2 x3)
        clear x1 x2 x3 c0 c1 c2 HP2 HN2
        go_wp2
        go_end0
        exact ⟨rfl, HP3.out.out, HP3.out.frm⟩
      · have HA' : Hid (pieceA k a = []) := Lib.hid (by unfold pieceA; rw [if_neg (by omega), if_neg e7])
        have HB' : Hid (pieceB k b = []) := Lib.hid (by unfold pieceB; rw [if_neg (by omega)])
        rw [HA'.out, HB'.out, List.append_nil, List.append_nil]
        have d3 : (k == 3) = false := by simpa using e3
        have d6 : (k == 6) = false := by simpa using e6
        have d7 : (k == 7) = false := by simpa using e7
        clear h3 h6 h7 h37 hk hk1 hk7 HA' HB' e3 e6 e7 hlen
        go_enter Tryz.func45, Tryz.ntmps45
        go_wp2_with fail
        refine HY.out.mono ?_
        rintro e w1 ⟨rfl, x1, x2, x3⟩
        have HP1 := Lib.hid (HP0.out.next x1 x2 x3)
        clear x1 x2 x3 c0 c1 c2 HP0 HY
        obtain ⟨c0, c1, c2⟩ := HP1.out.cells
        go_wp2
        go_end0
        exact ⟨rfl, HP1.out.out, HP1.out.frm⟩

/-- Between two objects that are put. -/
structure Ps (w : World) (A : Option Addr) (l : List De) (bo : Nat) (L : List UInt8) (W : World) : Prop where
  out : OutAt W (bo + 1) bo L
  list : DAt w A l
  below : Below w.heap.size w W
  old : w.heap.size ≤ bo
theorem Ps.at {w W : World} {A : Option Addr} {l : List De} {bo : Nat} {L : List UInt8} (h : Ps w A l bo L W) : DAt W A l := h.list.next h.below
theorem Ps.next {w W W' : World} {A : Option Addr} {l : List De} {bo : Nat} {L L' : List UInt8} (h : Ps w A l bo L W) (ho : OutAt W' (bo + 1) bo L') (hf : Frm (bo + 1) bo W W') : Ps w A l bo L' W' :=
  ⟨ho, h.list, h.below.trans (hf.below h.old (Nat.le_succ_of_le h.old)), h.old⟩
theorem Ps.box {w W : World} {A : Option Addr} {l : List De} {bo : Nat} {L : List UInt8} (h : Ps w A l bo L W) (o : Obj) : Ps w A l bo L (W.alloc o) := by
  have hb : Below W.heap.size W (W.alloc o) := (Below.refl _ _).alloc (Nat.le_refl _) _
  exact ⟨h.out.kept hb (Nat.le_refl _), h.list, h.below.trans (hb.mono h.below.size), h.old⟩

set_option maxRecDepth 100000 in
set_option maxHeartbeats 4000000 in
theorem put_good (A : Option Addr) (cap : Nat) (l : List De) (hz : (chk l).2 = 0) (w : World) (hA : DAt w A l) (hw : Okd w) :
    Calls Tryz.prog 20 #[.slice A l.length cap] w fun e w' => e = .returned (.tuple #[.string ⟨(encL l).toArray⟩, .int .i64 0]) ∧ Below w.heap.size w w' := by
  obtain ⟨h32, hc, hall⟩ := chk_zero hz
  have HC := Lib.hid (check_any A cap l (by omega) w hA hw)
  rw [hc] at HC
  unfold ChkPost at HC
  have HL := Lib.hid (fun j hj => slim_of h32 (hall j hj))
  have HW : Hid (encL l = num l.length ++ encs l l.length) := Lib.hid rfl
  rw [HW.out]
  have HA := Lib.hid hA
  clear hA hz hall HW hc hw
  go_enter Tryz.func20, Tryz.ntmps20
  go_wp2_with fail
  refine HC.out.mono ?_
  rintro e w1 ⟨rfl, hb1⟩
  go_upto_region 5 with fail
  have hbo := Go.Proofs.YtahejekcfgkiaaaGreatDoor.octet.out_new w1
  have hb2 : Below w1.heap.size w1 (w1.alloc (.cells #[.slice none 0 0] 59)) := (Below.refl _ w1).alloc (Nat.le_refl _) _
  have HP0 : Hid (Ps w A l w1.heap.size [] (w1.alloc (.cells #[.slice none 0 0] 59))) := Lib.hid ⟨hbo, HA.out, hb1.trans (hb2.mono hb1.size), hb1.size⟩
  clear hbo hb1 hb2 HC
  generalize w1.alloc (.cells #[.slice none 0 0] 59) = W2 at *
  generalize w1.heap.size = bo at *
  have HN := Lib.hid (num_keep W2 (bo + 1) bo [] l.length (by unfold Fits; omega) HP0.out.out (by simp))
  go_wp2_with fail
  refine HN.out.mono ?_
  rintro e w3 ⟨rfl, x1, x2, x3⟩
  have HP1 := Lib.hid (HP0.out.next x1 x2)
  rw [List.nil_append] at HP1
  clear x1 x2 x3 HN HP0
  go_wp2_with fail
  go_loopw [26] (fun i wr => ∃ j : Nat, j ≤ l.length ∧ i = .int .i64 (j : Int) ∧ Hid (Ps w A l bo (num l.length ++ encs l j) wr)) (fun i _ => l.length - (intOf i).toNat)
  case atStart => exact ⟨0, Nat.zero_le _, rfl, by simpa [encs] using HP1⟩
  case round =>
    obtain ⟨j, hj, rfl, HS⟩ := hrel
    by_cases hlt : j < l.length
    · obtain ⟨b0, off, rfl, hb, c0, c1, c2⟩ := HS.out.at j hlt
      have hlt' : (j : Int) < (l.length : Int) := by omega
      have HSl := Lib.hid (HL.out j hlt)
      have HE : Hid (num l.length ++ encs l (j + 1) = (num l.length ++ encs l j) ++ encD (l.getD j zero)) := Lib.hid (by simp only [encs, List.append_assoc])
      have hlen : (num l.length ++ encs l j).length + 21 ≤ 140737488355328 := by
        have h1 := num_length_le l.length
        have h2 := encs_le l j
        rw [List.length_append]
        omega
      generalize num l.length ++ encs l j = pre at *
      generalize l.getD j zero = d at *
      have HP := fun W (hW : Ps w (some ⟨b0, off, none⟩) l bo pre W) => Lib.hid (putD_any W (bo + 1) bo pre d HSl.out hW.out hlen)
      have HS1 := Lib.hid (HS.out.box (declBox d.1 d.2.1 d.2.2))
      have hbx := box_at wr d
      clear HS hlen HSl
      generalize encD d = en at *
      obtain ⟨k, x, y⟩ := d
      unfold declBox at HS1 hbx
      dsimp only at HP c0 c1 c2 HS1 hbx
      go_upto_region 9 with fail
      clear c0 c1 c2
      generalize wr.alloc (.cells #[.int .i64 k, .int .i64 x, .int .i64 y] 44) = W4 at *
      generalize wr.heap.size = g at *
      obtain ⟨c0, c1, c2⟩ := hbx
      go_wp2_with fail
      refine (HP _ HS1.out).out.mono ?_
      rintro e w5 ⟨rfl, x1, x2⟩
      have HS2 := Lib.hid (HS1.out.next x1 x2)
      clear x1 x2 c0 c1 c2 HP HS1
      go_wp2
      go_roundw
      case rel => exact ⟨j + 1, by omega, by go_num, by rw [HE.out]; exact HS2⟩
      case measure => simp [intOf]; omega
    · obtain rfl : j = l.length := by omega
      have HD := Lib.hid (done_any wr (bo + 1) bo _ HS.out.out)
      have HBz := Lib.hid HS.out.below
      go_wp2_with fail
      refine HD.out.mono ?_
      rintro e w8 ⟨rfl, rfl⟩
      go_wp2
      go_ret2
      exact ⟨rfl, HBz.out⟩

set_option maxHeartbeats 1000000 in
theorem put_bad (A : Option Addr) (cap : Nat) (l : List De) (hl : l.length ≤ 9223372036854775807) (hz : (chk l).2 ≠ 0) (w : World) (hA : DAt w A l) (hw : Okd w) :
    Calls Tryz.prog 20 #[.slice A l.length cap] w fun e w' => e = .returned (.tuple #[.string ⟨#[]⟩, .int .i64 ((chk l).2 : Nat)]) ∧ Below w.heap.size w w' := by
  have HC := Lib.hid (check_any A cap l hl w hA hw)
  unfold ChkPost at HC
  have hn : (((chk l).2 : Int) != 0) = true := by simpa using hz
  clear hz hA hw
  generalize chk l = q at *
  obtain ⟨i, q⟩ := q
  dsimp only at HC hn ⊢
  go_enter Tryz.func20, Tryz.ntmps20
  go_wp2_with fail
  refine HC.out.mono ?_
  rintro e w1 ⟨rfl, hb⟩
  have HB := Lib.hid hb
  clear hb
  go_wp2_with fail
  go_ret2
  exact ⟨rfl, HB.out⟩
end Go.Proofs.YtahejekcfgkiaaaGreatDoor.objs

/-
  Memory while the document's reader goes over objects: the reader, the row that grows, the object that is read. No condition.
-/
namespace Go.Proofs.YtahejekcfgkiaaaGreatDoor.objs
open Go.RowKit Go.ChangeShapes
open Go.Proofs.YtahejekcfgkiaaaGreatDoor.octet (St rdByte rdNum rdInt Stands RefAt refByte_plain refInt_plain refNum_plain rdNum_lt)
set_option linter.unusedVariables false

/-- Between two objects: the empty answer, the reader, the row. -/
structure Rs (w : World) (t : ByteArray) (bx : Nat) (v : Value) (ls : List De) (S : St) (W : World) : Prop where
  below : Below w.heap.size w W
  nil : W.heap[w.heap.size + 1]? = some RNil
  x : ∃ k : Nat, W.heap[bx]? = some (RBox t k S.err) ∧ Stands t k S.err S
  own : Own W (bx + 1) v ls
  hx : w.heap.size + 1 < bx
theorem Rs.next {w W W' : World} {t : ByteArray} {bx : Nat} {v : Value} {ls : List De} {S : St} (h : Rs w t bx v ls S W) (hb : Below W.heap.size W W') : Rs w t bx v ls S W' := by
  obtain ⟨k, h1, h2⟩ := h.x
  exact ⟨h.below.trans (hb.mono h.below.size), (hb.block _ (lt_of_block h.nil)).trans h.nil, ⟨k, (hb.block _ (lt_of_block h1)).trans h1, h2⟩, h.own.next hb, h.hx⟩
/-- In the midst of an object: what stands so far of it, and the reader of its own. -/
structure Yd (w : World) (t : ByteArray) (bx b d : Nat) (v : Value) (ls : List De) (S : St) (k x y : Int) (S' : St) (W : World) : Prop where
  rs : Rs w t bx v ls S W
  ry : ∃ kk : Nat, W.heap[b]? = some (RBox t kk S'.err) ∧ Stands t kk S'.err S'
  rd : W.heap[d]? = some (declBox k x y)
  hb : bx < b
  hd : b < d
  ho : ∀ g, v.ownBlock = some g → g < b
theorem Yd.next {w W W' : World} {t : ByteArray} {bx b d : Nat} {v : Value} {ls : List De} {S S' : St} {k x y : Int} (h : Yd w t bx b d v ls S k x y S' W) (hb : Below W.heap.size W W') : Yd w t bx b d v ls S k x y S' W' := by
  obtain ⟨kk, h1, h2⟩ := h.ry
  exact ⟨h.rs.next hb, ⟨kk, (hb.block _ (lt_of_block h1)).trans h1, h2⟩, (hb.block _ (lt_of_block h.rd)).trans h.rd, h.hb, h.hd, h.ho⟩
theorem Rs.far {w W W' : World} {t : ByteArray} {bx : Nat} {v : Value} {ls : List De} {S : St} (h : Rs w t bx v ls S W) (B : Nat) (hB : bx < B) (ho : ∀ g, v.ownBlock = some g → g < B) (hk : ∀ k, k < B → W'.heap[k]? = W.heap[k]?) (hb : Below w.heap.size W W') : Rs w t bx v ls S W' := by
  obtain ⟨k, h1, h2⟩ := h.x
  have := h.hx
  exact ⟨h.below.trans hb, (hk _ (by omega)).trans h.nil, ⟨k, (hk _ hB).trans h1, h2⟩, h.own.keep fun g hg => hk g (ho g hg), h.hx⟩
theorem Yd.setA {w W : World} {t : ByteArray} {bx b d : Nat} {v : Value} {ls : List De} {S S' S2 : St} {k x y : Int} {k2 : Nat} (h : Yd w t bx b d v ls S k x y S' W) (n : Int) (hS : Stands t k2 S2.err S2) :
    Yd w t bx b d v ls S k n y S2 (put3 (W.setCell ⟨d, 1, none⟩ (.int .i64 n)) b (.string t) (.int .i64 (k2 : Int)) (.int .i64 (S2.err : Int))).drew := by
  obtain ⟨kk, h1, h2⟩ := h.ry
  have e1 := h.hb
  have e2 := h.hd
  have e3 := h.rs.hx
  have hf : ∀ i, i ≠ d → (W.setCell ⟨d, 1, none⟩ (.int .i64 n)).heap[i]? = W.heap[i]? := fun i hi => Below.heap_setCell W ⟨d, 1, none⟩ _ i hi
  refine ⟨h.rs.far b e1 h.ho (fun i hi => (put3_far (by omega) _ _ _).trans (hf i (by omega))) (Below.drew (put3_below ((Below.refl _ W).setCell (p := ⟨d, 1, none⟩) (by show w.heap.size ≤ d; omega) _) (by omega) _ _ _)), ⟨k2, put3_same ((hf b (by omega)).trans h1) _ _ _, hS⟩, ?_, e1, e2, h.ho⟩
  refine (put3_far (by omega) _ _ _).trans ?_
  have := h.rd
  unfold declBox at this ⊢
  simp [World.setCell, Array.getElem?_modify, this]
theorem Yd.setB {w W : World} {t : ByteArray} {bx b d : Nat} {v : Value} {ls : List De} {S S' S2 : St} {k x y : Int} {k2 : Nat} (h : Yd w t bx b d v ls S k x y S' W) (n : Int) (hS : Stands t k2 S2.err S2) :
    Yd w t bx b d v ls S k x n S2 (put3 (W.setCell ⟨d, 2, none⟩ (.int .i64 n)) b (.string t) (.int .i64 (k2 : Int)) (.int .i64 (S2.err : Int))).drew := by
  obtain ⟨kk, h1, h2⟩ := h.ry
  have e1 := h.hb
  have e2 := h.hd
  have e3 := h.rs.hx
  have hf : ∀ i, i ≠ d → (W.setCell ⟨d, 2, none⟩ (.int .i64 n)).heap[i]? = W.heap[i]? := fun i hi => Below.heap_setCell W ⟨d, 2, none⟩ _ i hi
  refine ⟨h.rs.far b e1 h.ho (fun i hi => (put3_far (by omega) _ _ _).trans (hf i (by omega))) (Below.drew (put3_below ((Below.refl _ W).setCell (p := ⟨d, 2, none⟩) (by show w.heap.size ≤ d; omega) _) (by omega) _ _ _)), ⟨k2, put3_same ((hf b (by omega)).trans h1) _ _ _, hS⟩, ?_, e1, e2, h.ho⟩
  refine (put3_far (by omega) _ _ _).trans ?_
  have := h.rd
  unfold declBox at this ⊢
  simp [World.setCell, Array.getElem?_modify, this]
theorem yd_new {w w3 : World} {t : ByteArray} {bx : Nat} {v : Value} {ls : List De} {S S1 : St} {k1 : Nat} {k : Int} (h : Rs w t bx v ls S w3) (hS : Stands t k1 S1.err S1) :
    Yd w t bx w3.heap.size (w3.heap.size + 1) v ls S k 0 0 S1 ((w3.alloc (RBox t k1 S1.err)).alloc (declBox k 0 0)) := by
  have hb : Below w3.heap.size w3 ((w3.alloc (RBox t k1 S1.err)).alloc (declBox k 0 0)) := ((Below.refl _ w3).alloc (Nat.le_refl _) _).alloc (by simp) _
  obtain ⟨_, hx, _⟩ := h.x
  refine ⟨h.next hb, ⟨k1, (Below.heap_alloc _ _ _ (by simp)).trans (heap_alloc_new w3 _), hS⟩, ?_, lt_of_block hx, Nat.lt_succ_self _, fun g hg => (h.own.lt hg).2⟩
  rw [← World.size_alloc w3 (RBox t k1 S1.err)]
  exact heap_alloc_new _ _
theorem yd_at {w W : World} {t : ByteArray} {bx b : Nat} {v : Value} {ls : List De} {S S1 : St} {k1 : Nat} {k : Int} (h : Rs w t bx v ls S W) (hS : Stands t k1 S1.err S1) (hy : W.heap[b]? = some (RBox t k1 S1.err)) (hb : bx < b) (ho : ∀ g, v.ownBlock = some g → g < b) :
    Yd w t bx b W.heap.size v ls S k 0 0 S1 (W.alloc (declBox k 0 0)) := by
  have hn : Below W.heap.size W (W.alloc (declBox k 0 0)) := (Below.refl _ W).alloc (Nat.le_refl _) _
  exact ⟨h.next hn, ⟨k1, (hn.block b (lt_of_block hy)).trans hy, hS⟩, heap_alloc_new W _, hb, lt_of_block hy, ho⟩
/-- Behind the append. -/
structure Ap (w : World) (t : ByteArray) (bx b : Nat) (v : Value) (ls : List De) (kk : Nat) (S' : St) (W : World) : Prop where
  below : Below w.heap.size w W
  nil : W.heap[w.heap.size + 1]? = some RNil
  x : ∃ (k err : Nat), W.heap[bx]? = some (RBox t k err)
  y : W.heap[b]? = some (RBox t kk S'.err)
  own : Own W (bx + 1) v ls
  hx : w.heap.size + 1 < bx
theorem Yd.app {w W W1 W2 : World} {t : ByteArray} {bx b d kk : Nat} {v v2 : Value} {ls ls2 : List De} {S S' : St} {k x y : Int} (h : Yd w t bx b d v ls S k x y S' W) (hk : W.heap[b]? = some (RBox t kk S'.err)) (h1 : Below W.heap.size W W1) (h2 : Own W2 (bx + 1) v2 ls2) (hg : W1.grownBy W2 v.ownBlock) : Ap w t bx b v2 ls2 kk S' W2 := by
  have e1 := h.hb
  have e3 := h.rs.hx
  have hn : W.heap.size ≤ W1.heap.size := h1.size
  have hf : ∀ i, i < W.heap.size → v.ownBlock ≠ some i → W2.heap[i]? = W.heap[i]? := fun i hi hne => (hg.block i (by omega) (fun e => hne e.symm)).trans (h1.block i hi)
  have hlo : ∀ i, i ≤ bx → v.ownBlock ≠ some i := fun i hi e => by have := (h.rs.own.lt e).1; omega
  have hhi : v.ownBlock ≠ some b := fun e => Nat.lt_irrefl _ (h.ho b e)
  obtain ⟨kx, hx1, _⟩ := h.rs.x
  refine ⟨(h.rs.below.trans (h1.mono h.rs.below.size)).grown hg (by have := h.rs.below.size; omega) (fun i e => by have := (h.rs.own.lt e).1; omega), (hf _ (lt_of_block h.rs.nil) (hlo _ (by omega))).trans h.rs.nil, ⟨kx, _, (hf _ (lt_of_block hx1) (hlo _ (Nat.le_refl _))).trans hx1⟩, (hf _ (lt_of_block hk) hhi).trans hk, h2, e3⟩
theorem Ap.store {w W : World} {t : ByteArray} {bx b kk : Nat} {v : Value} {ls : List De} {S' : St} (h : Ap w t bx b v ls kk S' W) (hS : Stands t kk S'.err S') : Rs w t bx v ls S' (put3 W bx (.string t) (.int .i64 (kk : Int)) (.int .i64 (S'.err : Int))) := by
  obtain ⟨k, err, hx⟩ := h.x
  have e := h.hx
  refine ⟨put3_below h.below (by omega) _ _ _, (put3_far (by omega) _ _ _).trans h.nil, ⟨kk, put3_same hx _ _ _, hS⟩, h.own.keep fun g hg => put3_far (by have := (h.own.lt hg).1; omega) _ _ _, e⟩

/-- What Read tells, and leaves. -/
def ReadPost8 (t : ByteArray) (r : List De × St × Nat) (w : World) (e : Ending) (w' : World) : Prop :=
  ∃ (v : Value) (k : Nat), e = .returned (.tuple #[v, .agg #[.string t, .int .i64 (k : Int), .int .i64 (r.2.1.err : Int)], .int .i64 (r.2.2 : Int)]) ∧ Stands t k r.2.1.err r.2.1 ∧ (∃ base, Own w' base v r.1 ∧ w.heap.size ≤ base) ∧ Below w.heap.size w w'
/-- At the end: the answer, and the reader in the result's block. -/
structure Ends8 (w : World) (t : ByteArray) (v : Value) (ls : List De) (k err : Nat) (W : World) : Prop where
  below : Below w.heap.size w W
  r : W.heap[w.heap.size + 1]? = some (RBox t k err)
  own : ∃ base, Own W base v ls ∧ w.heap.size ≤ base
theorem ends8_ret {w Z : World} {t : ByteArray} {v : Value} {k err : Nat} {act : Act} {r r' : List De × St × Nat} (hr : r = r') (h2 : act.tmps[2]?.getD undef = v) (h3 : act.tmps[3]?.getD undef = .pointer (some ⟨w.heap.size + 1, 0, none⟩)) (h4 : act.tmps[4]?.getD undef = .int .i64 (r'.2.2 : Int)) (hd : act.defers = [])
    (hE : Ends8 w t v r'.1 k err Z) (hS : Stands t k err r'.2.1) (hs : r'.2.1.err = err) : bodyPost Tryz.prog Tryz.f35 (ReadPost8 t r w) .ret act Z := by
  subst hr hs
  have hb := hE.r
  unfold RBox at hb
  obtain ⟨y0, y1, y2, _, _, _⟩ := cells3 hb
  refine bodyPost_ret (v := .tuple #[v, .agg #[.string t, .int .i64 (k : Int), .int .i64 (r.2.1.err : Int)], .int .i64 (r.2.2 : Int)]) ?_ hd ⟨v, k, rfl, hS, hE.own, hE.below⟩
  simp [results, Tryz.results35, go_sem, h2, h3, h4, y0, y1, y2]
theorem Rs.ends {w W : World} {t : ByteArray} {bx kk : Nat} {v : Value} {ls : List De} {S S' : St} (h : Rs w t bx v ls S W) : Ends8 w t v ls kk S'.err (put3 W (w.heap.size + 1) (.string t) (.int .i64 (kk : Int)) (.int .i64 (S'.err : Int))).drew := by
  have e := h.hx
  have hn := h.nil
  unfold RNil at hn
  exact ⟨Below.drew (put3_below h.below (by omega) _ _ _), put3_same hn _ _ _, bx + 1, h.own.keep fun g hg => put3_far (by have := (h.own.lt hg).1; omega) _ _ _, by omega⟩
theorem Rs.ends0 {w W : World} {t : ByteArray} {bx kk : Nat} {v : Value} {ls : List De} {S S' : St} (h : Rs w t bx v ls S W) : Ends8 w t (.slice none 0 0) [] kk S'.err (put3 W (w.heap.size + 1) (.string t) (.int .i64 (kk : Int)) (.int .i64 (S'.err : Int))).drew := by
  have e := h.hx
  have hn := h.nil
  unfold RNil at hn
  exact ⟨Below.drew (put3_below h.below (by omega) _ _ _), put3_same hn _ _ _, bx + 1, Own.nil _ _, by omega⟩
/-- Behind the count. -/
theorem rs_new {w w1 : World} {t : ByteArray} {k err k1 : Nat} {S : St} (hb : Below ((w.alloc (RBox t k err)).alloc RNil).heap.size ((w.alloc (RBox t k err)).alloc RNil) w1) (hS : Stands t k1 S.err S) :
    Rs w t w1.heap.size (.slice none 0 0) [] S (w1.alloc (RBox t k1 S.err)) := by
  have hz : ((w.alloc (RBox t k err)).alloc RNil).heap.size = w.heap.size + 1 + 1 := by rw [World.size_alloc, World.size_alloc]
  have hs := hb.size
  have hb0 : Below w.heap.size w ((w.alloc (RBox t k err)).alloc RNil) := ((Below.refl _ w).alloc (Nat.le_refl _) _).alloc (by simp) _
  have hi0 : ((w.alloc (RBox t k err)).alloc RNil).heap[w.heap.size + 1]? = some RNil := by rw [← World.size_alloc w (RBox t k err)]; exact heap_alloc_new _ _
  have hb2 : Below w1.heap.size w1 (w1.alloc (RBox t k1 S.err)) := (Below.refl _ _).alloc (Nat.le_refl _) _
  exact ⟨(hb0.trans (hb.mono (by omega))).trans (hb2.mono (by omega)), (hb2.block _ (by omega)).trans ((hb.block _ (by omega)).trans hi0), ⟨k1, heap_alloc_new _ _, hS⟩, Own.nil _ _, by omega⟩
/-- The empty row is made. -/
theorem Rs.row {w W : World} {t : ByteArray} {bx : Nat} {S : St} (h : Rs w t bx (.slice none 0 0) [] S W) : Rs w t bx (.slice (some ⟨W.heap.size, 0, none⟩) 0 0) [] S (W.alloc (.cells #[] 44)) := by
  have hb : Below W.heap.size W (W.alloc (.cells #[] 44)) := (Below.refl _ W).alloc (Nat.le_refl _) _
  have h' := h.next hb
  obtain ⟨k, hx, _⟩ := h.x
  have := lt_of_block hx
  exact ⟨h'.below, h'.nil, h'.x, (Own.empty (heap_alloc_new W _)).base (by omega), h'.hx⟩
end Go.Proofs.YtahejekcfgkiaaaGreatDoor.objs
