/-
  Texts of one claim in one file: EGetRow, ECheck. Each has its own sentence, with its conditions.
-/
import Derived.Test.YtfkcmdnnmnkklaaDoorEall6
import Derived.Test.YtfkcmdnnmnkklaaDoorEall8
import Derived.Test.YtfkcmdnnmnkklaaDoorEall9
import Derived.Laws.MakeOwn
/-
  The program's own reading of a way's needs, and of all ways, before they are checked (typed over the code of 5ef5b61): for every text of at most two to the forty-seventh bytes. No other condition.
-/
namespace Go.Proofs.YtfkcmdnnmnkklaaDoor.need
open Go.RowKit Go.ChangeShapes
open Go.Proofs.YtfkcmdnnmnkklaaDoor.octet (St InAt Frm rdNum rdNum_ok rdNum_left err_any)
open Go.Proofs.YtfkcmdnnmnkklaaDoor.span (pN num_any)
open Go.Proofs.YtfkcmdnnmnkklaaDoor.objs (De zero DAt)
set_option linter.unusedVariables false

/-- How many there are, and what is wrong with that. -/
def mny (s : St) : Nat × Nat := if (rdNum s).2.err ≠ 0 then (0, (rdNum s).2.err) else if 4 < (rdNum s).1 then (0, 4) else ((rdNum s).1, 0)
set_option maxHeartbeats 1000000 in
theorem mny_any (w : World) (bi : Nat) (s : St) (hi : InAt w bi s) (hok : s.ok) (hl : s.rest.length ≤ 140737488355328) :
    Calls Tryd.prog 60 #[.pointer (some ⟨bi, 0, none⟩), .int .i64 4] w fun e w' => e = .returned (.tuple #[.int .i64 ((mny s).1 : Int), .int .i64 ((mny s).2 : Int)]) ∧ InAt w' bi (rdNum s).2 ∧ Frm w.heap.size bi w w' := by
  have HN := Lib.hid (num_any w bi s hi hok hl)
  obtain ⟨r, hr⟩ : ∃ r, r = mny s := ⟨_, rfl⟩
  have HR := Lib.hid hr
  rw [← hr]
  unfold mny at HR
  unfold pN at HN
  generalize rdNum s = N at *
  obtain ⟨n, S⟩ := N
  dsimp only at HN HR ⊢
  clear hr hi hok hl
  go_enter Tryd.func60, Tryd.ntmps60
  go_wp2_with fail
  refine HN.out.mono ?_
  rintro e w1 ⟨rfl, hi1, hf1⟩
  have HI1 := Lib.hid hi1
  have HF1 := Lib.hid hf1
  have HEr := Lib.hid (err_any w1 bi S hi1)
  clear hi1 hf1 HN
  go_wp2_with fail
  refine HEr.out.mono ?_
  rintro e w2 ⟨rfl, rfl⟩
  by_cases he : S.err = 0
  · have he' : ((S.err : Int) != 0) = false := by simp [he]
    by_cases h4 : 4 < n
    · have HV : Hid (r = (0, 4)) := Lib.hid (by rw [HR.out, if_neg (by simp [he]), if_pos h4])
      have hd : decide ((4 : Int) < ((min n 2147483647 : Nat) : Int)) = true := by simp; omega
      clear he h4
      generalize ((min n 2147483647 : Nat) : Int) = x at *
      go_wp2_with fail
      go_ret2
      exact ⟨by rw [HV.out]; rfl, HI1.out, HF1.out⟩
    · have HV : Hid (r = (n, 0)) := Lib.hid (by rw [HR.out, if_neg (by simp [he]), if_neg h4])
      have hx : ((min n 2147483647 : Nat) : Int) = (n : Int) := by omega
      have hd : decide ((4 : Int) < (n : Int)) = false := by simp; omega
      rw [hx]
      clear he h4 hx
      go_wp2_with fail
      go_ret2
      exact ⟨by rw [HV.out]; rfl, HI1.out, HF1.out⟩
  · have he' : ((S.err : Int) != 0) = true := by simpa using he
    have HV : Hid (r = (0, S.err)) := Lib.hid (by rw [HR.out, if_pos he])
    clear he
    go_wp2_with fail
    go_ret2
    exact ⟨by rw [HV.out]; rfl, HI1.out, HF1.out⟩

/-- What getNeeds tells, and leaves. -/
def NeedsPost (bi : Nat) (r : List De × St × Nat) (w : World) (e : Ending) (w' : World) : Prop :=
  ∃ v, e = .returned (.tuple #[v, .int .i64 (r.2.2 : Int)]) ∧ OwnN w' w.heap.size v (r.1.map cutN) ∧ InAt w' bi r.2.1 ∧ Frm w.heap.size bi w w'

/-- Between two needs that are read: the reader, and the row that grows. -/
structure Gn (w : World) (bi : Nat) (v : Value) (ls : List De) (S : St) (W : World) : Prop where
  inn : InAt W bi S
  own : OwnN W w.heap.size v ls
  frm : Frm w.heap.size bi w W
  lt : bi < w.heap.size
theorem Gn.next {w W W' : World} {bi : Nat} {v : Value} {ls : List De} {S S' : St} (h : Gn w bi v ls S W) (hi : InAt W' bi S') (hf : Frm W.heap.size bi W W') : Gn w bi v ls S' W' := by
  have e1 := h.lt
  exact ⟨hi, h.own.keep fun g hg => hf.block g (h.own.lt hg).2 (by have := (h.own.lt hg).1; omega), h.frm.trans (hf.mono h.frm.size), e1⟩
theorem Gn.box {w W : World} {bi : Nat} {v : Value} {ls : List De} {S : St} (h : Gn w bi v ls S W) (o : Obj) : Gn w bi v ls S (W.alloc o) := by
  have hb : Below W.heap.size W (W.alloc o) := (Below.refl _ _).alloc (Nat.le_refl _) _
  exact h.next (h.inn.kept (hb.block _ h.inn.lt)) (Frm.of_below hb)
theorem Gn.app {w W W2 : World} {bi : Nat} {v v2 : Value} {ls ls2 : List De} {S : St} (h : Gn w bi v ls S W) (o : Obj) (h2 : OwnN W2 w.heap.size v2 ls2) (hg : (W.alloc o).grownBy W2 v.ownBlock) : Gn w bi v2 ls2 S W2 := by
  have h1 := h.box o
  have e1 := h.lt
  refine ⟨h1.inn.kept (hg.block bi h1.inn.lt (fun e => ?_)), h2, h1.frm.grown hg h1.frm.size (fun k e => .inl (h1.own.lt e).1), e1⟩
  have := (h1.own.lt e.symm).1
  omega
/-- The row of needs that is made. -/
def mkN (m : Nat) : Obj := .cells (madeCells (Value.agg #[.int .i64 0, .int .i64 0, .int .i64 0]).cells (m * 3)) 59
theorem run_mkN (m : Nat) (hm : m ≤ 4) (W : World) : (Instr.makeSlice 60 (.int .i64 0) (.int .i64 (m : Int))).run Tryd.prog W = .ok (.slice (some ⟨W.heap.size, 0, none⟩) 0 m) (W.alloc (mkN m)) := by
  obtain ⟨i, hi, hz0, hz1, hz2⟩ := info_parts infoN
  have h := run_make (P := Tryd.prog) W 60 59 i _ Tryd.underlying60 hi hz0 .i64 .i64 0 (m : Int) (by omega) (by omega) (by rw [hz2]; omega) (by omega)
  rw [hz1, Int.toNat_natCast, Int.toNat_zero] at h
  exact h
theorem gn_made {w W : World} {bi : Nat} {S : St} (m : Nat) (hm : m ≤ 4) (hi : InAt W bi S) (hf : Frm w.heap.size bi w W) (hlt : bi < w.heap.size) : Gn w bi (.slice (some ⟨W.heap.size, 0, none⟩) 0 m) [] S (W.alloc (mkN m)) := by
  have hb : Below W.heap.size W (W.alloc (mkN m)) := (Below.refl _ _).alloc (Nat.le_refl _) _
  exact ⟨hi.kept (hb.block _ hi.lt), World.ownsRow_made W _ m hf.size (by unfold maxLen; omega) (size_madeCells _ _), hf.trans (Frm.of_below (hb.mono hf.size)), hlt⟩

theorem needs_ret {w W : World} {bi n cap : Nat} {A : Option Addr} {ls : List De} {S : St} {e : Nat} {act : Act} {r : List De × St × Nat} (hr : r = (ls, S, e)) (h2 : act.tmps[2]?.getD undef = .slice A n cap) (h3 : act.tmps[3]?.getD undef = .int .i64 (e : Int)) (hd : act.defers = [])
    (hA : OwnN W w.heap.size (.slice A n cap) (ls.map cutN)) (hi : InAt W bi S) (hf : Frm w.heap.size bi w W) : bodyPost Tryd.prog Tryd.f61 (NeedsPost bi r w) .ret act W := by
  subst hr
  refine bodyPost_ret (v := .tuple #[.slice A n cap, .int .i64 (e : Int)]) ?_ hd ⟨_, rfl, hA, hi, hf⟩
  simp [results, Tryd.results61, go_sem, h2, h3]

set_option maxRecDepth 100000 in
set_option maxHeartbeats 8000000 in
theorem getNeeds_any (w : World) (bi : Nat) (s : St) (hi : InAt w bi s) (hok : s.ok) (hl : s.rest.length ≤ 140737488355328) :
    Calls Tryd.prog 61 #[.pointer (some ⟨bi, 0, none⟩)] w (NeedsPost bi (rdWay s) w) := by
  have hlt := hi.lt
  have HN := Lib.hid (mny_any w bi s hi hok hl)
  obtain ⟨r, hr⟩ : ∃ r, r = rdWay s := ⟨_, rfl⟩
  have HR := Lib.hid (hr.trans (rdWay_eq s))
  rw [← hr]
  have hok1 := rdNum_ok hok
  have hl1 := Nat.le_trans (rdNum_left s) hl
  clear hr hi hok hl
  unfold mny at HN
  generalize rdNum s = N at *
  obtain ⟨n, S⟩ := N
  dsimp only at HN HR hok1 hl1
  by_cases he : S.err ≠ 0
  · rw [if_pos he] at HN HR
    have he' : ((S.err : Int) != 0) = true := by simpa using he
    clear he
    go_enter Tryd.func61, Tryd.ntmps61
    go_wp2_with fail
    refine HN.out.mono ?_
    rintro e w1 ⟨rfl, hi1, hf1⟩
    have HI1 := Lib.hid hi1
    have HF1 := Lib.hid hf1
    clear hi1 hf1 HN
    go_wp2_with fail
    exact needs_ret HR.out (by rfl) (by rfl) rfl (OwnN.nil _ _) HI1.out HF1.out
  · rw [if_neg he] at HN HR
    clear he
    by_cases h4 : 4 < n
    · rw [if_pos h4] at HN HR
      clear h4
      go_enter Tryd.func61, Tryd.ntmps61
      go_wp2_with fail
      refine HN.out.mono ?_
      rintro e w1 ⟨rfl, hi1, hf1⟩
      have HI1 := Lib.hid hi1
      have HF1 := Lib.hid hf1
      clear hi1 hf1 HN
      go_wp2_with fail
      exact needs_ret HR.out (by rfl) (by rfl) rfl (OwnN.nil _ _) HI1.out HF1.out
    · rw [if_neg h4] at HN HR
      have hm4 : n ≤ 4 := by omega
      have hmk := run_mkN n hm4
      clear h4
      have HStop : Hid (∀ j, j ≤ n → ∀ q : List De × St × Nat, rdNeeds S j = q → q.2.2 ≠ 0 → rdNeeds S n = q) := Lib.hid (fun j hj q h hq => rdNeeds_stuck h hq n hj)
      go_enter Tryd.func61, Tryd.ntmps61
      go_wp2_with fail
      refine HN.out.mono ?_
      rintro e w1 ⟨rfl, hi1, hf1⟩
      have HG0 := Lib.hid (gn_made n hm4 hi1 hf1 hlt)
      clear hi1 hf1 HN
      go_wp2_with fail
      generalize w1.alloc (mkN n) = W2 at *
      generalize w1.heap.size = g0 at *
      go_loopw [6, 20] (fun v i wr => ∃ (j : Nat) (ls : List De) (S' : St), j ≤ n ∧ i = .int .i64 (j : Int) ∧ Hid (rdNeeds S j = (ls, S', 0)) ∧ Hid (Gn w bi v (ls.map cutN) S' wr) ∧ Hid (S'.ok ∧ S'.rest.length ≤ 140737488355328)) (fun _ i _ => n - (intOf i).toNat)
      case atStart => exact ⟨0, [], S, Nat.zero_le _, rfl, Lib.hid rfl, HG0, Lib.hid ⟨hok1, hl1⟩⟩
      case round =>
        obtain ⟨j, ls, S', hj, rfl, HL, HG, HO⟩ := hrel
        have hlen : ls.length = j := by have := rdNeeds_length j (by rw [HL.out] : (rdNeeds S j).2.2 = 0); rwa [HL.out] at this
        obtain ⟨A, cap, hv⟩ := HG.out.own.slice
        rw [List.length_map, hlen] at hv
        subst hv
        by_cases hlt2 : j < n
        · have hlt' : (j : Int) < (n : Int) := by omega
          have HD := Lib.hid (getN_any wr bi S' HG.out.inn HO.out.1 HO.out.2)
          unfold OnePostN at HD
          have HNx : Hid (rdNeeds S (j + 1) = if (rdNeed S').2.2 ≠ 0 then ([], (rdNeed S').2.1, (rdNeed S').2.2) else (ls ++ [(rdNeed S').1], (rdNeed S').2.1, 0)) := Lib.hid (by simp only [rdNeeds, HL.out]; rfl)
          have HO2 := Lib.hid (And.intro (pNeed_ok HO.out.1) (Nat.le_trans (pNeed_left S') HO.out.2))
          have HX1 := Lib.hid (fun h => pNeed_err (s := S') h)
          have HX2 := Lib.hid (fun h1 h2 => pNeed_kind (s := S') h1 h2)
          have HX3 := Lib.hid (fun h1 h2 => pNeed_fine (s := S') h1 h2)
          clear HO HL
          generalize pNeed S' = q at *
          generalize rdNeed S' = rr at *
          obtain ⟨⟨k, x, y⟩, T⟩ := q
          obtain ⟨dd, T', e'⟩ := rr
          dsimp only at HD HNx HO2 HX1 HX2 HX3
          go_wp2_with fail
          refine HD.out.mono ?_
          rintro e w3 ⟨rfl, hi3, hf3⟩
          have HG3 := Lib.hid (HG.out.next hi3 hf3)
          have HG4 := Lib.hid (HG3.out.box (needBox k x y))
          have hbx := nbox_at w3 k x y
          unfold needBox at HG4 hbx
          clear hi3 hf3 HG HD HG3
          go_upto_region 8 with fail
          generalize w3.alloc (.cells #[.int .i64 k, .int .i64 x, .int .i64 y] 59) = W4 at *
          generalize w3.heap.size = d at *
          obtain ⟨c0, c1, c2⟩ := hbx
          have HEr := Lib.hid (err_any W4 bi T HG4.out.inn)
          have HK := fun W => Lib.hid (known_any k W)
          go_wp2_with fail
          refine HEr.out.mono ?_
          rintro e w5 ⟨rfl, rfl⟩
          by_cases hT : T.err = 0
          · have hT' : ((T.err : Int) != 0) = false := by simp [hT]
            by_cases hk : 1 ≤ k ∧ k ≤ 5
            · rw [decide_eq_true hk] at HK
              obtain ⟨hx1, hx2⟩ := HX3.out hT hk
              injection hx1 with hx3 hx4
              have HQ : Hid (rdNeeds S (j + 1) = (ls ++ [dd], T, 0)) := Lib.hid (by rw [HNx.out, hx3, hx4]; rfl)
              have HM : Hid ((ls ++ [dd]).map cutN = ls.map cutN ++ [(k, x, y)]) := Lib.hid (by rw [List.map_append, hx2]; rfl)
              have hown1 : OwnN (W4.alloc (needBox k x y)) w.heap.size (.slice A j cap) (ls.map cutN) := (HG4.out.box (needBox k x y)).own
              have hone : DAt (W4.alloc (needBox k x y)) (some ⟨W4.heap.size, 0, none⟩) [(k, x, y)] := DAt.oneN (d := (k, x, y)) (heap_alloc_new W4 _)
              have hbase : w.heap.size ≤ W4.heap.size := HG4.out.frm.size
              have hll : (ls.map cutN).length = j := by rw [List.length_map, hlen]
              have Hap := fun (v2 : Value) (W2 : World) (h1 : OwnN W2 w.heap.size v2 (ls.map cutN ++ [(k, x, y)])) (h2 : (W4.alloc (needBox k x y)).grownBy W2 (Value.slice A j cap).ownBlock) => HG4.out.app (needBox k x y) h1 h2
              unfold needBox at hown1 hone Hap
              clear hx2 hx3 hx4 HX1 HX2 HX3 HNx hT hk
              generalize ls.map cutN = lc at *
              go_wp2_with fail
              refine (HK _).out.mono ?_
              rintro e w6 ⟨rfl, rfl⟩
              go_wp2_with (
                at_builtin
                refine wpList_appN (by rfl) (.tmp 33) (.tmp 35) (by rfl) w.heap.size 1 1 (.slice A j cap) (some ⟨W4.heap.size, 0, none⟩) lc [(k, x, y)] (by rfl) hown1 (by rfl) rfl (fun h => by cases h) hone (by simp; omega) (by simp; omega) ?_)
              intro v2 W5 hv2 hg2
              have HG5 := Lib.hid (Hap v2 W5 hv2 ⟨hg2.os, hg2.tape, hg2.output, hg2.size, hg2.block⟩)
              clear hown1 hone hv2 hg2 Hap c0 c1 c2
              go_wp2
              go_roundw
              case rel => exact ⟨j + 1, ls ++ [dd], T, by omega, by go_num, HQ, by rw [HM.out]; exact HG5, HO2⟩
              case measure => simp [intOf]; omega
            · rw [decide_eq_false hk] at HK
              have hx1 := HX2.out hT hk
              injection hx1 with hx3 hx4
              have HQ : Hid (rdNeeds S n = ([], T, 6)) := Lib.hid (HStop.out (j + 1) (by omega) ([], T, 6) (by rw [HNx.out, hx3, hx4]; rfl) (by show 6 ≠ 0; decide))
              have HV : Hid (r = ([], T, 6)) := Lib.hid (by rw [HR.out, HQ.out])
              clear hx3 hx4 HX1 HX2 HX3 HNx hT hk HQ HR
              go_wp2_with fail
              refine (HK _).out.mono ?_
              rintro e w6 ⟨rfl, rfl⟩
              go_wp2_with fail
              exact needs_ret HV.out (by rfl) (by rfl) rfl (OwnN.nil _ _) HG4.out.inn HG4.out.frm
          · have hT' : ((T.err : Int) != 0) = true := by simpa using hT
            have hx1 := HX1.out hT
            injection hx1 with hx3 hx4
            have HQ : Hid (rdNeeds S n = ([], T, T.err)) := Lib.hid (HStop.out (j + 1) (by omega) ([], T, T.err) (by rw [HNx.out, hx3, hx4, if_pos hT]) hT)
            have HV : Hid (r = ([], T, T.err)) := Lib.hid (by rw [HR.out, HQ.out])
            clear hx3 hx4 HX1 HX2 HX3 HNx hT HQ HR
            go_wp2_with fail
            exact needs_ret HV.out (by rfl) (by rfl) rfl (OwnN.nil _ _) HG4.out.inn HG4.out.frm
        · obtain rfl : j = n := by omega
          have HV : Hid (r = (ls, S', 0)) := Lib.hid (by rw [HR.out, HL.out])
          go_wp2_with fail
          exact needs_ret HV.out (by rfl) (by rfl) rfl HG.out.own HG.out.inn HG.out.frm

theorem OwnW.hold {w w' : World} {base : Nat} {v : Value} {l : List (List De)} (h : OwnW w base v l) (hk : ∀ g, base ≤ g → g < w.heap.size → w'.heap[g]? = w.heap[g]?) : OwnW w' base v l := by
  obtain ⟨xs, h1, h2⟩ := h
  refine ⟨xs, ⟨h1.1, h1.2.imp id ?_⟩, fun j hj => ?_⟩
  · rintro ⟨g, c, cur, rfl, hg, hh, r⟩
    exact ⟨g, c, cur, rfl, hg, (hk g hg (lt_of_block hh)).trans hh, r⟩
  · obtain ⟨x, h3, h4⟩ := h2 j hj
    exact ⟨x, h3, h4.keep fun g hg => hk g (h4.lt hg).1 (h4.lt hg).2⟩
/-- What getWays tells, and leaves. -/
def WaysPost (bi : Nat) (r : List (List De) × St × Nat) (w : World) (e : Ending) (w' : World) : Prop :=
  ∃ v, e = .returned (.tuple #[v, .int .i64 (r.2.2 : Int)]) ∧ OwnW w' w.heap.size v (r.1.map (·.map cutN)) ∧ InAt w' bi r.2.1 ∧ Frm w.heap.size bi w w'
/-- Between two ways that are read. -/
structure Gw (w : World) (bi : Nat) (v : Value) (ls : List (List De)) (S : St) (W : World) : Prop where
  inn : InAt W bi S
  own : OwnW W w.heap.size v ls
  frm : Frm w.heap.size bi w W
  lt : bi < w.heap.size
theorem Gw.next {w W W' : World} {bi : Nat} {v : Value} {ls : List (List De)} {S S' : St} (h : Gw w bi v ls S W) (hi : InAt W' bi S') (hf : Frm W.heap.size bi W W') : Gw w bi v ls S' W' := by
  have e1 := h.lt
  exact ⟨hi, h.own.hold fun g hg hl => hf.block g hl (by omega), h.frm.trans (hf.mono h.frm.size), e1⟩
theorem Gw.box {w W : World} {bi : Nat} {v : Value} {ls : List (List De)} {S : St} (h : Gw w bi v ls S W) (o : Obj) : Gw w bi v ls S (W.alloc o) := by
  have hb : Below W.heap.size W (W.alloc o) := (Below.refl _ _).alloc (Nat.le_refl _) _
  exact h.next (h.inn.kept (hb.block _ h.inn.lt)) (Frm.of_below hb)
theorem Gw.app {w W W2 : World} {bi : Nat} {v v2 : Value} {ls ls2 : List (List De)} {S : St} (h : Gw w bi v ls S W) (o : Obj) (h2 : OwnW W2 w.heap.size v2 ls2) (hg : (W.alloc o).grownBy W2 v.ownBlock) : Gw w bi v2 ls2 S W2 := by
  have h1 := h.box o
  have e1 := h.lt
  refine ⟨h1.inn.kept (hg.block bi h1.inn.lt (fun e => ?_)), h2, h1.frm.grown hg h1.frm.size (fun k e => .inl (h1.own.lt e).1), e1⟩
  have := (h1.own.lt e.symm).1
  omega
/-- The row of ways that is made. -/
def mkW (m : Nat) : Obj := .cells (madeCells (Value.slice none 0 0).cells (m * 1)) 60
theorem run_mkW (m : Nat) (hm : m ≤ 4) (W : World) : (Instr.makeSlice 23 (.int .i64 0) (.int .i64 (m : Int))).run Tryd.prog W = .ok (.slice (some ⟨W.heap.size, 0, none⟩) 0 m) (W.alloc (mkW m)) := by
  obtain ⟨i, hi, hz0, hz1, hz2⟩ := info_parts infoW
  have h := run_make (P := Tryd.prog) W 23 60 i _ Tryd.underlying23 hi hz0 .i64 .i64 0 (m : Int) (by omega) (by omega) (by rw [hz2]; omega) (by omega)
  rw [hz1, Int.toNat_natCast, Int.toNat_zero] at h
  exact h
theorem gw_made {w W : World} {bi : Nat} {S : St} (m : Nat) (hm : m ≤ 4) (hi : InAt W bi S) (hf : Frm w.heap.size bi w W) (hlt : bi < w.heap.size) : Gw w bi (.slice (some ⟨W.heap.size, 0, none⟩) 0 m) [] S (W.alloc (mkW m)) := by
  have hb : Below W.heap.size W (W.alloc (mkW m)) := (Below.refl _ _).alloc (Nat.le_refl _) _
  exact ⟨hi.kept (hb.block _ hi.lt), ⟨[], World.ownsRow_made W _ m hf.size (by unfold maxLen; omega) (size_madeCells _ _), fun j hj => absurd hj (Nat.not_lt_zero j)⟩, hf.trans (Frm.of_below (hb.mono hf.size)), hlt⟩
theorem ways_ret {w W : World} {bi n cap : Nat} {A : Option Addr} {ls : List (List De)} {S : St} {e : Nat} {act : Act} {r : List (List De) × St × Nat} (hr : r = (ls, S, e)) (h2 : act.tmps[2]?.getD undef = .slice A n cap) (h3 : act.tmps[3]?.getD undef = .int .i64 (e : Int)) (hd : act.defers = [])
    (hA : OwnW W w.heap.size (.slice A n cap) (ls.map (·.map cutN))) (hi : InAt W bi S) (hf : Frm w.heap.size bi w W) : bodyPost Tryd.prog Tryd.f37 (WaysPost bi r w) .ret act W := by
  subst hr
  refine bodyPost_ret (v := .tuple #[.slice A n cap, .int .i64 (e : Int)]) ?_ hd ⟨_, rfl, hA, hi, hf⟩
  simp [results, Tryd.results37, go_sem, h2, h3]

set_option maxRecDepth 100000 in
set_option maxHeartbeats 8000000 in
theorem getWays_any (w : World) (bi : Nat) (s : St) (hi : InAt w bi s) (hok : s.ok) (hl : s.rest.length ≤ 140737488355328) :
    Calls Tryd.prog 37 #[.pointer (some ⟨bi, 0, none⟩)] w (WaysPost bi (allW s) w) := by
  have hlt := hi.lt
  have HN := Lib.hid (mny_any w bi s hi hok hl)
  obtain ⟨r, hr⟩ : ∃ r, r = allW s := ⟨_, rfl⟩
  have HR := Lib.hid hr
  rw [← hr]
  have hok1 := rdNum_ok hok
  have hl1 := Nat.le_trans (rdNum_left s) hl
  clear hr hi hok hl
  unfold mny at HN
  unfold allW at HR
  generalize rdNum s = N at *
  obtain ⟨n, S⟩ := N
  dsimp only at HN HR hok1 hl1
  by_cases he : S.err ≠ 0
  · rw [if_pos he] at HN HR
    have he' : ((S.err : Int) != 0) = true := by simpa using he
    clear he
    go_enter Tryd.func37, Tryd.ntmps37
    go_wp2_with fail
    refine HN.out.mono ?_
    rintro e w1 ⟨rfl, hi1, hf1⟩
    have HI1 := Lib.hid hi1
    have HF1 := Lib.hid hf1
    clear hi1 hf1 HN
    go_wp2_with fail
    exact ways_ret HR.out (by rfl) (by rfl) rfl (OwnW.nil _ _) HI1.out HF1.out
  · rw [if_neg he] at HN HR
    clear he
    by_cases h4 : 4 < n
    · rw [if_pos h4] at HN HR
      clear h4
      go_enter Tryd.func37, Tryd.ntmps37
      go_wp2_with fail
      refine HN.out.mono ?_
      rintro e w1 ⟨rfl, hi1, hf1⟩
      have HI1 := Lib.hid hi1
      have HF1 := Lib.hid hf1
      clear hi1 hf1 HN
      go_wp2_with fail
      exact ways_ret HR.out (by rfl) (by rfl) rfl (OwnW.nil _ _) HI1.out HF1.out
    · rw [if_neg h4] at HN HR
      have hm4 : n ≤ 4 := by omega
      have hmk := run_mkW n hm4
      clear h4
      have HStop : Hid (∀ j, j ≤ n → ∀ q : List (List De) × St × Nat, rdWays S j = q → q.2.2 ≠ 0 → rdWays S n = q) := Lib.hid (fun j hj q h hq => rdWays_stuck h hq n hj)
      go_enter Tryd.func37, Tryd.ntmps37
      go_wp2_with fail
      refine HN.out.mono ?_
      rintro e w1 ⟨rfl, hi1, hf1⟩
      have HG0 := Lib.hid (gw_made n hm4 hi1 hf1 hlt)
      clear hi1 hf1 HN
      go_wp2_with fail
      generalize w1.alloc (mkW n) = W2 at *
      generalize w1.heap.size = g0 at *
      go_loopw [6, 20] (fun v i wr => ∃ (j : Nat) (ls : List (List De)) (S' : St), j ≤ n ∧ i = .int .i64 (j : Int) ∧ Hid (rdWays S j = (ls, S', 0)) ∧ Hid (Gw w bi v (ls.map (·.map cutN)) S' wr) ∧ Hid (S'.ok ∧ S'.rest.length ≤ 140737488355328)) (fun _ i _ => n - (intOf i).toNat)
      case atStart => exact ⟨0, [], S, Nat.zero_le _, rfl, Lib.hid rfl, HG0, Lib.hid ⟨hok1, hl1⟩⟩
      case round =>
        obtain ⟨j, ls, S', hj, rfl, HL, HG, HO⟩ := hrel
        have hlen : ls.length = j := by have := rdWays_length j (by rw [HL.out] : (rdWays S j).2.2 = 0); rwa [HL.out] at this
        obtain ⟨A, cap, hv⟩ := HG.out.own.slice
        rw [List.length_map, hlen] at hv
        subst hv
        by_cases hlt2 : j < n
        · have hlt' : (j : Int) < (n : Int) := by omega
          have HD := Lib.hid (getNeeds_any wr bi S' HG.out.inn HO.out.1 HO.out.2)
          unfold NeedsPost at HD
          have HNx : Hid (rdWays S (j + 1) = if (rdWay S').2.2 ≠ 0 then ([], (rdWay S').2.1, (rdWay S').2.2) else (ls ++ [(rdWay S').1], (rdWay S').2.1, 0)) := Lib.hid (by simp only [rdWays, HL.out]; rfl)
          have HO2 := Lib.hid (And.intro (rdWay_ok HO.out.1) (Nat.le_trans (rdWay_left S') HO.out.2))
          clear HO HL
          generalize rdWay S' = q at *
          obtain ⟨x, T, e⟩ := q
          dsimp only at HD HNx HO2
          go_wp2_with fail
          refine HD.out.mono ?_
          rintro e1 w3 ⟨vx, rfl, hx3, hi3, hf3⟩
          have HG3 := Lib.hid (HG.out.next hi3 hf3)
          have HX3 := Lib.hid (hx3.base HG.out.frm.size)
          obtain ⟨Ax, cx, hvx⟩ := hx3.slice
          have HVx := Lib.hid hvx
          clear hi3 hf3 hx3 HG HD hvx
          by_cases hT : e = 0
          · have hT' : ((e : Int) != 0) = false := by simp [hT]
            have HQ : Hid (rdWays S (j + 1) = (ls ++ [x], T, 0)) := Lib.hid (by rw [HNx.out, if_neg (by simp [hT])])
            have HM : Hid ((ls ++ [x]).map (·.map cutN) = ls.map (·.map cutN) ++ [x.map cutN]) := Lib.hid (by rw [List.map_append]; rfl)
            have hown1 := HG3.out.own
            have hone := HX3.out
            have hbase : w.heap.size ≤ w3.heap.size := HG3.out.frm.size
            have hll : (ls.map (·.map cutN)).length = j := by rw [List.length_map, hlen]
            have Hap := fun (v2 : Value) (W2 : World) (h1 : OwnW W2 w.heap.size v2 (ls.map (·.map cutN) ++ [x.map cutN])) (h2 : (w3.alloc (.cells #[vx] 60)).grownBy W2 (Value.slice A j cap).ownBlock) => HG3.out.app (.cells #[vx] 60) h1 h2
            clear HNx hT HX3 HG3
            generalize ls.map (·.map cutN) = lc at *
            generalize x.map cutN = xc at *
            have hvx := HVx.out
            subst hvx
            clear HVx
            go_wp2_with (
              at_builtin
              refine wpList_appW (by rfl) (.tmp 30) (.tmp 32) (by rfl) w.heap.size 1 (.slice A j cap) _ lc xc (by rfl) hown1 (by rfl) hone rfl (by omega) hbase ?_)
            intro v2 W5 hv2 hg2
            have HG5 := Lib.hid (Hap v2 W5 hv2 ⟨hg2.os, hg2.tape, hg2.output, hg2.size, hg2.block⟩)
            clear hown1 hone hv2 hg2 Hap
            go_wp2
            go_roundw
            case rel => exact ⟨j + 1, ls ++ [x], T, by omega, by go_num, HQ, by rw [HM.out]; exact HG5, HO2⟩
            case measure => simp [intOf]; omega
          · have hT' : ((e : Int) != 0) = true := by simpa using hT
            have HQ : Hid (rdWays S n = ([], T, e)) := Lib.hid (HStop.out (j + 1) (by omega) ([], T, e) (by rw [HNx.out, if_pos hT]) hT)
            have HV : Hid (r = ([], T, e)) := Lib.hid (by rw [HR.out, HQ.out])
            have hvx := HVx.out
            subst hvx
            clear HVx HNx hT HQ HR
            go_wp2_with fail
            exact ways_ret HV.out (by rfl) (by rfl) rfl (OwnW.nil _ _) HG3.out.inn HG3.out.frm
        · obtain rfl : j = n := by omega
          have HV : Hid (r = (ls, S', 0)) := Lib.hid (by rw [HR.out, HL.out])
          go_wp2_with fail
          exact ways_ret HV.out (by rfl) (by rfl) rfl HG.out.own HG.out.inn HG.out.frm
end Go.Proofs.YtfkcmdnnmnkklaaDoor.need

/-
  The program's own answer what is wrong with a wait (typed over the code of 5ef5b61): of objects of which there are no more than a set has numbers. The tables must lie where their initialisers lay them.
-/
namespace Go.Proofs.YtfkcmdnnmnkklaaDoor.need
open Go.RowKit Go.ChangeShapes
open Go.Proofs.YtfkcmdnnmnkklaaDoor.objs (De zero CellsAt DAt)
open Go.Proofs.YtfkcmdnnmnkklaaDoor.bits (may)
set_option linter.unusedVariables false

theorem oneN_kind {d : List De} {n : De} (h : ¬ (1 ≤ n.1 ∧ n.1 ≤ 5)) : oneN d n = 6 := by unfold oneN; rw [if_pos (by omega)]
theorem oneN_known {d : List De} {n : De} (h : 1 ≤ n.1 ∧ n.1 ≤ 5) (h0 : oneN d n ≠ 0) : oneN d n = 1 := by
  unfold oneN at h0 ⊢
  rw [if_neg (by omega)] at h0 ⊢
  split
  · rfl
  · split
    · rfl
    · rename_i h1 h2
      rw [if_neg h1, if_neg h2] at h0
      exact absurd rfl h0
theorem ones_may {d l : List De} (hd : d.length ≤ 64) (h : ones d l = 0) : ∀ n ∈ l, may n.2.1 := fun n hn => by
  obtain ⟨_, h2, _⟩ := oneN_zero (ones_zero h n hn)
  unfold may
  omega

/-- Between two needs. -/
structure Ws (w : World) (A B : Option Addr) (d l : List De) (W : World) : Prop where
  below : Below w.heap.size w W
  objs : DAt W A d
  way : DAt W B l
  ok : Oka W
theorem Ws.next {w W W' : World} {A B : Option Addr} {d l : List De} (h : Ws w A B d l W) (hb : Below W.heap.size W W') : Ws w A B d l W' := ⟨h.below.trans (hb.mono h.below.size), h.objs.next hb, h.way.next hb, h.ok.next hb⟩
theorem Ws.box {w W : World} {A B : Option Addr} {d l : List De} (h : Ws w A B d l W) (k o m : Int) : Ws w A B d l (W.alloc (needBox k o m)) := h.next (nbox_below W k o m)

set_option maxRecDepth 100000 in
set_option maxHeartbeats 4000000 in
theorem way_any (A B : Option Addr) (capd cap : Nat) (d l : List De) (hd : d.length ≤ 64) (w : World) (hA : DAt w A d) (hB : DAt w B l) (hw : Oka w) :
    Calls Tryd.prog 34 #[.slice A d.length capd, .slice B l.length cap] w (ChkPost9 (chkWay d l) w) := by
  have HM := Lib.hid (many_any l.length w)
  unfold ChkPost9
  unfold manyC at HM
  by_cases h0 : l.length = 0
  · rw [if_pos h0] at HM
    have HV := Lib.hid (chkWay_2 (d := d) h0)
    clear hA hB hw h0
    go_enter Tryd.func34, Tryd.ntmps34
    go_wp2_with fail
    refine HM.out.mono ?_
    rintro e w1 ⟨rfl, rfl⟩
    go_wp2
    go_ret
    exact ⟨ret_int (by rw [HV.out]; rfl), Below.refl _ _⟩
  · rw [if_neg h0] at HM
    by_cases h4 : 4 < l.length
    · rw [if_pos h4] at HM
      have HV := Lib.hid (chkWay_4 (d := d) h4)
      clear hA hB hw h0 h4
      go_enter Tryd.func34, Tryd.ntmps34
      go_wp2_with fail
      refine HM.out.mono ?_
      rintro e w1 ⟨rfl, rfl⟩
      go_wp2
      go_ret
      exact ⟨ret_int (by rw [HV.out]; rfl), Below.refl _ _⟩
    · rw [if_neg h4] at HM
      have HV1 := fun h1 => Lib.hid (chkWay_bad (d := d) h0 h4 h1)
      have HV2 := fun h1 h2 => Lib.hid (chkWay_twice (d := d) h0 h4 h1 h2)
      have HV3 := fun h1 h2 => Lib.hid (chkWay_fine (d := d) h0 h4 h1 h2)
      obtain ⟨v, hv⟩ : ∃ v, v = chkWay d l := ⟨_, rfl⟩
      rw [← hv] at HV1 HV2 HV3 ⊢
      have hl4 : l.length ≤ 4 := by omega
      have HS0 : Hid (Ws w A B d l w) := Lib.hid ⟨Below.refl _ _, hA, hB, hw⟩
      have HD := Lib.hid hd
      clear hA hB hw h0 h4 hv hd
      go_enter Tryd.func34, Tryd.ntmps34
      go_wp2_with fail
      refine HM.out.mono ?_
      rintro e w1 ⟨rfl, rfl⟩
      go_wp2_with fail
      go_loopw [16] (fun i wr => ∃ j : Nat, j ≤ l.length ∧ i = .int .i64 (j : Int) ∧ Hid (ones d l = ones d (l.drop j)) ∧ Hid (Ws w A B d l wr)) (fun i _ => l.length - (intOf i).toNat)
      case atStart => exact ⟨0, Nat.zero_le _, rfl, Lib.hid (by simp), HS0⟩
      case round =>
        obtain ⟨j, hj, rfl, HJ, HS⟩ := hrel
        by_cases hlt : j < l.length
        · have HNx := Lib.hid (ones_drop (d := d) hlt)
          obtain ⟨b0, off, hBe, hbl, c0, c1, c2⟩ := HS.out.way j hlt
          have hlt' : (j : Int) < (l.length : Int) := by omega
          have hj0 : (0 : Int) ≤ (j : Int) := by omega
          have HR := fun (hk : 1 ≤ (l.getD j zero).1 ∧ (l.getD j zero).1 ≤ 5) W (hW : Ws w A B d l W) => Lib.hid (range_any A capd d (l.getD j zero) hk (by have := HD.out; omega) W hW.objs hW.ok)
          have HX6 := fun h => Lib.hid (oneN_kind (d := d) (n := l.getD j zero) h)
          have HX1 := fun h1 h2 => Lib.hid (oneN_known (d := d) (n := l.getD j zero) h1 h2)
          generalize l.getD j zero = n at *
          have HS1 := Lib.hid (HS.out.box n.1 n.2.1 n.2.2)
          have hbx := nbox_at wr n.1 n.2.1 n.2.2
          have HK := fun W => Lib.hid (known_any n.1 W)
          generalize oneN d n = q at *
          obtain ⟨k, o, m⟩ := n
          unfold needBox at HS1 hbx
          dsimp only at HR HX6 HX1 HS1 hbx HK c0 c1 c2
          clear HS
          subst hBe
          go_upto_region 7 with fail
          clear c0 c1 c2
          generalize wr.alloc (.cells #[.int .i64 k, .int .i64 o, .int .i64 m] 59) = W1 at *
          generalize wr.heap.size = g at *
          obtain ⟨c0, c1, c2⟩ := hbx
          by_cases hk : 1 ≤ k ∧ k ≤ 5
          · rw [decide_eq_true hk] at HK
            have HR1 := HR hk W1 HS1.out
            have HX := HX1 hk
            clear HR HX6 HX1 hk
            by_cases hq : q = 0
            · have HE : Hid (ones d l = ones d (l.drop (j + 1))) := Lib.hid (by rw [HJ.out, HNx.out, if_neg (by simp [hq])])
              rw [decide_eq_true hq] at HR1
              clear hq HX
              go_wp2_with fail
              refine (HK _).out.mono ?_
              rintro e w2 ⟨rfl, rfl⟩
              go_wp2_with fail
              refine HR1.out.mono ?_
              rintro e w2 ⟨rfl, hb2⟩
              have HS2 := Lib.hid (HS1.out.next hb2)
              clear hb2 HS1 HR1 c0 c1 c2
              go_wp2
              go_roundw
              case rel => exact ⟨j + 1, by omega, by go_num, HE, HS2⟩
              case measure => simp [intOf]; omega
            · have hq1 := (HX hq).out
              have HE : Hid (ones d l = 1) := Lib.hid (by rw [HJ.out, HNx.out, if_pos hq, hq1])
              have HV : Hid (v = 1) := Lib.hid (by rw [(HV1 (by rw [HE.out]; decide)).out, HE.out])
              rw [decide_eq_false hq] at HR1
              clear hq HX hq1
              go_wp2_with fail
              refine (HK _).out.mono ?_
              rintro e w2 ⟨rfl, rfl⟩
              go_wp2_with fail
              refine HR1.out.mono ?_
              rintro e w2 ⟨rfl, hb2⟩
              have HS2 := Lib.hid (HS1.out.next hb2)
              clear hb2 HS1 HR1 c0 c1 c2
              go_wp2
              go_ret
              exact ⟨ret_int (by rw [HV.out]; rfl), HS2.out.below⟩
          · rw [decide_eq_false hk] at HK
            have hq1 := (HX6 hk).out
            have HE : Hid (ones d l = 6) := Lib.hid (by rw [HJ.out, HNx.out, hq1, if_pos (by decide)])
            have HV : Hid (v = 6) := Lib.hid (by rw [(HV1 (by rw [HE.out]; decide)).out, HE.out])
            clear HR HX6 HX1 hk hq1
            go_wp2_with fail
            refine (HK _).out.mono ?_
            rintro e w2 ⟨rfl, rfl⟩
            go_wp2
            go_ret
            exact ⟨ret_int (by rw [HV.out]; rfl), HS1.out.below⟩
        · obtain rfl : j = l.length := by omega
          have h1 : ones d l = 0 := by rw [HJ.out, List.drop_length]; rfl
          have HC := Lib.hid (clashes_any B cap l hl4 (ones_may HD.out h1) wr HS.out.way)
          have HV2' := fun h2 => HV2 h1 h2
          have HV3' := fun h2 => HV3 h1 h2
          clear HV1 HV2 HV3 h1 HJ
          generalize twiceTo l l.length = t at *
          cases t with
          | true =>
            have HV := HV2' rfl
            go_wp2_with fail
            refine HC.out.mono ?_
            rintro e w2 ⟨rfl, hb2⟩
            have HS2 := Lib.hid (HS.out.next hb2)
            clear hb2 HS HC
            go_wp2
            go_ret
            exact ⟨ret_int (by rw [HV.out]; rfl), HS2.out.below⟩
          | false =>
            have HV := HV3' rfl
            go_wp2_with fail
            refine HC.out.mono ?_
            rintro e w2 ⟨rfl, hb2⟩
            have HS2 := Lib.hid (HS.out.next hb2)
            clear hb2 HS HC
            go_wp2
            go_ret
            exact ⟨ret_int (by rw [HV.out]; rfl), HS2.out.below⟩

/-- Between two ways. -/
structure Vs (w : World) (A B : Option Addr) (d : List De) (l : List (List De)) (W : World) : Prop where
  below : Below w.heap.size w W
  objs : DAt W A d
  ways : WAt W B l
  ok : Oka W
theorem Vs.next {w W W' : World} {A B : Option Addr} {d : List De} {l : List (List De)} (h : Vs w A B d l W) (hb : Below W.heap.size W W') : Vs w A B d l W' := ⟨h.below.trans (hb.mono h.below.size), h.objs.next hb, h.ways.next hb, h.ok.next hb⟩

set_option maxRecDepth 100000 in
set_option maxHeartbeats 4000000 in
theorem check_any (A B : Option Addr) (capd cap : Nat) (d : List De) (l : List (List De)) (hd : d.length ≤ 64) (w : World) (hA : DAt w A d) (hB : WAt w B l) (hw : Oka w) :
    Calls Tryd.prog 15 #[.slice A d.length capd, .slice B l.length cap] w (ChkPost9 (chkW d l) w) := by
  have HM := Lib.hid (many_any l.length w)
  unfold ChkPost9
  unfold manyC at HM
  obtain ⟨v, hv⟩ : ∃ v, v = chkW d l := ⟨_, rfl⟩
  rw [← hv]
  by_cases h0 : l.length = 0
  · rw [if_pos h0] at HM
    have HV : Hid (v = 2) := Lib.hid (by rw [hv]; unfold chkW; rw [if_pos h0])
    clear hA hB hw h0 hv
    go_enter Tryd.func15, Tryd.ntmps15
    go_wp2_with fail
    refine HM.out.mono ?_
    rintro e w1 ⟨rfl, rfl⟩
    go_wp2
    go_ret
    exact ⟨ret_int (by rw [HV.out]; rfl), Below.refl _ _⟩
  · rw [if_neg h0] at HM
    by_cases h4 : 4 < l.length
    · rw [if_pos h4] at HM
      have HV : Hid (v = 4) := Lib.hid (by rw [hv]; unfold chkW; rw [if_neg h0, if_pos h4])
      clear hA hB hw h0 h4 hv
      go_enter Tryd.func15, Tryd.ntmps15
      go_wp2_with fail
      refine HM.out.mono ?_
      rintro e w1 ⟨rfl, rfl⟩
      go_wp2
      go_ret
      exact ⟨ret_int (by rw [HV.out]; rfl), Below.refl _ _⟩
    · rw [if_neg h4] at HM
      have HV : Hid (v = ways d l) := Lib.hid (by rw [hv]; unfold chkW; rw [if_neg h0, if_neg h4])
      have hl4 : l.length ≤ 4 := by omega
      have HS0 : Hid (Vs w A B d l w) := Lib.hid ⟨Below.refl _ _, hA, hB, hw⟩
      have HD := Lib.hid hd
      clear hA hB hw h0 h4 hv hd
      go_enter Tryd.func15, Tryd.ntmps15
      go_wp2_with fail
      refine HM.out.mono ?_
      rintro e w1 ⟨rfl, rfl⟩
      go_wp2_with fail
      go_loopw [17] (fun i wr => ∃ j : Nat, j ≤ l.length ∧ i = .int .i64 (j : Int) ∧ Hid (v = ways d (l.drop j)) ∧ Hid (Vs w A B d l wr)) (fun i _ => l.length - (intOf i).toNat)
      case atStart => exact ⟨0, Nat.zero_le _, rfl, by simpa using HV, HS0⟩
      case round =>
        obtain ⟨j, hj, rfl, HJ, HS⟩ := hrel
        by_cases hlt : j < l.length
        · have HNx := Lib.hid (ways_drop (d := d) hlt)
          obtain ⟨b0, off, Aj, cj, hBe, hbl, hc, hdj⟩ := HS.out.ways j hlt
          have hlt' : (j : Int) < (l.length : Int) := by omega
          have hj0 : (0 : Int) ≤ (j : Int) := by omega
          have HC := Lib.hid (way_any A Aj capd cj d (l.getD j []) HD.out wr HS.out.objs hdj HS.out.ok)
          unfold ChkPost9 at HC
          generalize l.getD j [] = lj at *
          generalize chkWay d lj = q at *
          subst hBe
          clear hdj
          by_cases hq : q = 0
          · have HE : Hid (v = ways d (l.drop (j + 1))) := Lib.hid (by rw [HJ.out, HNx.out, if_neg (by simp [hq])])
            have hq' : ((q : Int) != 0) = false := by simp [hq]
            clear hq
            go_wp2_with fail
            refine HC.out.mono ?_
            rintro e w2 ⟨rfl, hb2⟩
            have HS2 := Lib.hid (HS.out.next hb2)
            clear hb2 HS HC hc
            go_wp2
            go_roundw
            case rel => exact ⟨j + 1, by omega, by go_num, HE, HS2⟩
            case measure => simp [intOf]; omega
          · have HE : Hid (v = q) := Lib.hid (by rw [HJ.out, HNx.out, if_pos hq])
            have hq' : ((q : Int) != 0) = true := by simpa using hq
            clear hq
            go_wp2_with fail
            refine HC.out.mono ?_
            rintro e w2 ⟨rfl, hb2⟩
            have HS2 := Lib.hid (HS.out.next hb2)
            clear hb2 HS HC hc
            go_wp2
            go_ret
            exact ⟨ret_int (by rw [HE.out]), HS2.out.below⟩
        · obtain rfl : j = l.length := by omega
          have HE : Hid (v = 0) := Lib.hid (by rw [HJ.out, List.drop_length]; rfl)
          go_wp2
          go_ret
          exact ⟨ret_int (by rw [HE.out]; rfl), HS.out.below⟩
end Go.Proofs.YtfkcmdnnmnkklaaDoor.need
