/-
  Texts of one claim in one file: DFit, VChkIns, ENeed, EClash, EObjs. Each has its own sentence, with its conditions.
-/
import Derived.Test.YtbekfjjajggffaaDoorVall5
import Derived.Test.YtbekfjjajggffaaDoorVall16
import Derived.Test.YtbekfjjajggffaaDoorVall23
import Derived.Test.YtbekfjjajggffaaDoorVall8
import Derived.Test.YtbekfjjajggffaaDoorVall1
import Derived.StillTailTactics
import Derived.Deep.RegionHeld3
import Derived.BigQuiet
import Derived.Deep.QuietTactic
import Derived.Test.YtbekfjjajggffaaDoorVall10
import Derived.Test.YtbekfjjajggffaaDoorVall7
import Derived.Test.YtbekfjjajggffaaDoorVall21
import Derived.Test.YtbekfjjajggffaaDoorVall12
/-
  The program's own answer whether an object is of a kind that a letter stands for (typed over the code of 392f5a9). No condition but that a list is no longer than an int can say.
-/
namespace Go.Proofs.YtbekfjjajggffaaDoor.objs
open Go.RowKit Go.ChangeShapes
set_option linter.unusedVariables false

theorem fits_out {l : List De} {c : UInt8} {o : Int} (h : ¬ (0 ≤ o ∧ o < (l.length : Int))) : fits l c o = false := by
  unfold fits
  rw [decide_eq_false h, Bool.false_and]
theorem u8_of {c k : UInt8} (h : ((c.toNat : Int) == (k.toNat : Int)) = true) : c = k := by
  have h1 := eq_of_beq h
  exact UInt8.toNat_inj.1 (by omega)
theorem u8_not {c k : UInt8} (h : ((c.toNat : Int) == (k.toNat : Int)) = false) : c ≠ k := fun e => by
  subst e
  simp at h
theorem kinds_rest {c : UInt8} {x : Int} (h0 : ((c.toNat : Int) == 117) = false) (h1 : ((c.toNat : Int) == 115) = false) (h2 : ((c.toNat : Int) == 112) = false) (h3 : ((c.toNat : Int) == 99) = false) (h4 : ((c.toNat : Int) == 109) = false) (h5 : ((c.toNat : Int) == 98) = false) (h6 : ((c.toNat : Int) == 118) = false) (h7 : ((c.toNat : Int) == 113) = false) :
    (kindsOf c).contains x = false := by
  unfold kindsOf
  rw [if_neg (u8_not (k := 117) h0), if_neg (u8_not (k := 115) h1), if_neg (u8_not (k := 112) h2), if_neg (u8_not (k := 99) h3), if_neg (u8_not (k := 109) h4), if_neg (u8_not (k := 98) h5), if_neg (u8_not (k := 118) h6), if_neg (u8_not (k := 113) h7)]
  rfl
theorem kinds_one {c : UInt8} {x m : Int} (h : kindsOf c = [m]) : (x == m) = (kindsOf c).contains x := by rw [h, List.contains_cons, List.contains_nil, Bool.or_false]
theorem kinds_two {c : UInt8} {x m n : Int} (h : kindsOf c = [m, n]) : (x == m || x == n) = (kindsOf c).contains x := by rw [h, List.contains_cons, List.contains_cons, List.contains_nil, Bool.or_false]

set_option maxRecDepth 100000 in
set_option maxHeartbeats 2000000 in
theorem fit_any (A : Option Addr) (cap : Nat) (l : List De) (c : UInt8) (o : Int) (hl : l.length ≤ 9223372036854775807) (w : World) (hA : DAt w A l) :
    Calls Tryd.prog 61 #[.slice A l.length cap, .int .u8 (c.toNat : Int), .int .i64 o] w fun e w' => e = .returned (.bool (fits l c o)) ∧ w = w' := by
  by_cases h0 : o < 0
  · have HE : Hid (fits l c o = false) := Lib.hid (fits_out (by omega))
    rw [HE.out]
    have hd : decide (o < 0) = true := by simpa using h0
    clear hA h0
    go_enter Tryd.func61, Tryd.ntmps61
    go_wp2_with fail
    go_ret
    exact ⟨rfl, rfl⟩
  · have hd : decide (o < 0) = false := by simpa using h0
    by_cases h1 : (l.length : Int) ≤ o
    · have HE : Hid (fits l c o = false) := Lib.hid (fits_out (by omega))
      rw [HE.out]
      have hd2 : decide ((l.length : Int) ≤ o) = true := by simpa using h1
      clear hA h0 h1
      go_enter Tryd.func61, Tryd.ntmps61
      go_wp2_with fail
      go_ret
      exact ⟨rfl, rfl⟩
    · obtain ⟨m, rfl⟩ : ∃ m : Nat, o = (m : Int) := ⟨o.toNat, by omega⟩
      have hm : m < l.length := by omega
      have hd2 : decide ((l.length : Int) ≤ (m : Int)) = false := by simpa using h1
      have hm2 : (m : Int) < (l.length : Int) := by omega
      have hm0 : (0 : Int) ≤ (m : Int) := by omega
      have HF : Hid (fits l c m = (kindsOf c).contains (l.getD m zero).1) := Lib.hid (by unfold fits; rw [decide_eq_true (by omega), Bool.true_and, Int.toNat_natCast])
      rw [HF.out]
      obtain ⟨b, off, rfl, hb, c0, _, _⟩ := hA m hm
      generalize (l.getD m zero).1 = x at *
      clear hA h0 h1 HF
      go_enter Tryd.func61, Tryd.ntmps61
      go_wp2
      all_goals go_ret
      all_goals refine ⟨ret_bool ?_, rfl⟩
      all_goals first
        | exact (kinds_rest ‹_› ‹_› ‹_› ‹_› ‹_› ‹_› ‹_› ‹_›).symm
        | (have hq : c = 117 := u8_of (k := 117) ‹((c.toNat : Int) == 117) = true›; subst hq; first | exact kinds_one rfl | exact kinds_two rfl | (rw [← kinds_two (x := x) (m := 1) (n := 2) rfl]; simp [*]))
        | (have hq : c = 115 := u8_of (k := 115) ‹((c.toNat : Int) == 115) = true›; subst hq; exact kinds_one rfl)
        | (have hq : c = 112 := u8_of (k := 112) ‹((c.toNat : Int) == 112) = true›; subst hq; exact kinds_one rfl)
        | (have hq : c = 99 := u8_of (k := 99) ‹((c.toNat : Int) == 99) = true›; subst hq; exact kinds_one rfl)
        | (have hq : c = 109 := u8_of (k := 109) ‹((c.toNat : Int) == 109) = true›; subst hq; exact kinds_one rfl)
        | (have hq : c = 98 := u8_of (k := 98) ‹((c.toNat : Int) == 98) = true›; subst hq; exact kinds_one rfl)
        | (have hq : c = 118 := u8_of (k := 118) ‹((c.toNat : Int) == 118) = true›; subst hq; exact kinds_one rfl)
        | (have hq : c = 113 := u8_of (k := 113) ‹((c.toNat : Int) == 113) = true›; subst hq; first | exact kinds_two rfl | (rw [← kinds_two (x := x) (m := 1) (n := 6) rfl]; simp [*]))
end Go.Proofs.YtbekfjjajggffaaDoor.objs

/-
  The program's own answer of what is wrong with an instruction's operands (typed over the code of 674cbdc): of an instruction that may be.
-/
namespace Go.Proofs.YtbekfjjajggffaaDoor.pgm.ver
open Go.RowKit Go.ChangeShapes
open Go.Proofs.YtbekfjjajggffaaDoor.pgm
open Go.Proofs.YtbekfjjajggffaaDoor.objs (De zero DAt cells3 fits fit_any)
open Go.Proofs.YtbekfjjajggffaaDoor.oper (insBox txt fm form_any)
open Go.Proofs.YtbekfjjajggffaaDoor.inst (form opd letter_at size_list form_le)
set_option linter.unusedVariables false

/-- Both operands, as an array. -/
def arrB (a b : Int) : Obj := .cells #[.int .i64 a, .int .i64 b] 79
theorem arr_at {W : World} {b : Nat} {x y : Int} (h : W.heap[b]? = some (arrB x y)) {j : Nat} (hj : j < 2) : W.cell? ⟨b, j, none⟩ = some (.int .i64 (opd x y j)) := by
  obtain ⟨h0, h1⟩ := cells2 h
  match j, hj with
  | 0, _ => exact h0
  | 1, _ => exact h1
/-- An operand of an instruction that may be is not below 0, if it is no number. -/
theorem opd_pos {x : De} (h : chkI x = 0) {k : Nat} (hk : k < (form x.1).length) : 0 ≤ opd x.2.1 x.2.2 k ∨ objV ((form x.1).getD k 0) = true ∨ (form x.1).getD k 0 = 110 ∨ (form x.1).getD k 0 = 106 := by
  by_cases hc : (form x.1).getD k 0 = 110
  · exact .inr (.inr (.inl hc))
  · have := (Go.Proofs.YtbekfjjajggffaaDoor.pgm.dep.letter h rfl rfl hk rfl hc).1
    have h2 : 0 ≤ Go.Proofs.YtbekfjjajggffaaDoor.inst.least ((form x.1).getD k 0) := by unfold Go.Proofs.YtbekfjjajggffaaDoor.inst.least; split <;> omega
    exact .inl (by omega)
theorem below_drewN {B : Nat} {a w : World} (h : Below B a w) (n : Nat) : Below B a (w.drewN n) := ⟨h.os, h.tape, h.output, h.size, h.block⟩
theorem Hold.drewN {w W : World} {l : List (Nat × Obj)} (h : Hold w l W) (n : Nat) : Hold w l (W.drewN n) := ⟨below_drewN h.below n, h.all⟩

set_option maxRecDepth 100000 in
set_option maxHeartbeats 16000000 in
theorem checkIns_any (v : Value) (p : Pg) (f : Fn) (x : De) (Af : Option Addr) (cf : Nat) (w : World) (hv : PAt w v p) (hl1 : p.ds.length ≤ 1000) (hl2 : p.ws.length ≤ 1000) (hl3 : p.fs.length ≤ 1000) (hl4 : f.co.length ≤ 1000) (hl5 : 0 ≤ f.lo ∧ f.lo ≤ 1000) (hx : chkI x = 0) :
    Calls Tryd.prog 42 #[v, .agg #[.int .i64 f.ar, .int .i64 f.lo, .slice Af f.co.length cf], .agg #[.int .i64 x.1, .int .i64 x.2.1, .int .i64 x.2.2]] w fun e w' =>
      e = .returned (.int .i64 ((insV p f x : Nat) : Int)) ∧ Below w.heap.size w w' := by
  obtain ⟨A, B, C, ca, cb, cc, rfl, hA, hB, hC⟩ := id hv
  obtain ⟨iv, hiv⟩ : ∃ iv, iv = insV p f x := ⟨_, rfl⟩
  rw [← hiv]
  have HIv2 : Hid (iv = letV p f x ((form x.1).drop 0) 0) := Lib.hid (by rw [hiv]; rfl)
  have HV := Lib.hid hv
  have HPo := fun k hk => Lib.hid (opd_pos hx (k := k) hk)
  have HTh := fun c n W h => Lib.hid (there_any (.agg #[.slice A p.ds.length ca, .slice B p.ws.length cb, .slice C p.fs.length cc]) p f x.1 c n Af cf W h hl2 hl3 hl4 hl5)
  have HFi : ∀ c n W, DAt W A p.ds → Calls Tryd.prog 61 #[.slice A p.ds.length ca, .int .u8 (c.toNat : Int), .int .i64 n] W fun e w' => e = .returned (.bool (fits p.ds c n)) ∧ w' = W := fun c n W h => (fit_any A ca p.ds c n (by omega) W h).mono fun e w' ⟨h1, h2⟩ => ⟨h1, h2.symm⟩
  have HOb : ∀ c W, Calls Tryd.prog 39 #[.int .u8 (c.toNat : Int)] W fun e w' => e = .returned (.bool (objV c)) ∧ w' = W := fun c W => (isObj_any c W).mono fun e w' ⟨h1, h2⟩ => ⟨h1, h2.symm⟩
  have HA := Lib.hid hA
  have hlf : (form x.1).length ≤ 2 := form_le x.1
  have H0 := (((Hold.alloc (show Hold w [] w from ⟨Below.refl _ w, fun z hz => by cases hz⟩) (pgB (.slice A p.ds.length ca) (.slice B p.ws.length cb) (.slice C p.fs.length cc))).alloc (fnV f.ar f.lo Af f.co.length cf)).alloc (insBox x.1 x.2.1 x.2.2))
  rw [show ((w.alloc (pgB (.slice A p.ds.length ca) (.slice B p.ws.length cb) (.slice C p.fs.length cc))).alloc (fnV f.ar f.lo Af f.co.length cf)).heap.size = w.heap.size + 1 + 1 from by rw [World.size_alloc, World.size_alloc], World.size_alloc w] at H0
  have HH3 := Lib.hid H0
  unfold pgB fnV insBox at HH3
  clear H0 hv hA hB hC hiv hx
  go_enter Tryd.func42, Tryd.ntmps42
  go_upto_region 1 with fail
  generalize ((w.alloc (.cells #[.slice A p.ds.length ca, .slice B p.ws.length cb, .slice C p.fs.length cc] 26)).alloc (.cells #[.int .i64 f.ar, .int .i64 f.lo, .slice Af f.co.length cf] 44)).alloc (.cells #[.int .i64 x.1, .int .i64 x.2.1, .int .i64 x.2.2] 46) = W0 at *
  have hx2 := HH3.out.all _ (List.mem_cons_self ..)
  have hbx3 := lt_of_block hx2
  obtain ⟨i0, i1, i2, -, -, -⟩ := cells3 hx2
  clear hx2
  have hy2 : (txt fm x.1).size ≤ 2 := by unfold form at hlf; rwa [← size_list] at hlf
  have HTx : Hid ((txt fm x.1).data.toList = form x.1) := Lib.hid rfl
  have HFo := fun W => Lib.hid (form_any x.1 W)
  generalize txt fm x.1 = y at *
  go_cut [7, 8] (fun t l wx => t = .string y ∧ ∃ g : Nat, l = .pointer (some ⟨g, 0, none⟩) ∧ Hid (Hold w [(g, arrB x.2.1 x.2.2), (w.heap.size + 1 + 1, .cells #[.int .i64 x.1, .int .i64 x.2.1, .int .i64 x.2.2] 46), (w.heap.size + 1, .cells #[.int .i64 f.ar, .int .i64 f.lo, .slice Af f.co.length cf] 44), (w.heap.size, .cells #[.slice A p.ds.length ca, .slice B p.ws.length cb, .slice C p.fs.length cc] 26)] wx))
  case first =>
    go_region_held3 (fun w' => w'.cell? ⟨w.heap.size + 1 + 1, 0, none⟩ = some (.int .i64 x.1) ∧ w'.cell? ⟨w.heap.size + 1 + 1, 1, none⟩ = some (.int .i64 x.2.1) ∧ w'.cell? ⟨w.heap.size + 1 + 1, 2, none⟩ = some (.int .i64 x.2.2)) (go_keep)
      (first | (go_at_call 38; refine (HFo _).out.mono ?_; rintro _ _ ⟨rfl, rfl⟩))
    all_goals
      go_wp2_with fail
      go_meet
      refine ⟨rfl, _, rfl, ?_⟩
    all_goals first
      | exact Lib.hid (HH3.out.drew.alloc (arrB x.2.1 x.2.2))
      | exact Lib.hid (HH3.out.alloc (arrB x.2.1 x.2.2)).drew
  case rest =>
    obtain ⟨rfl, g, rfl, HH4⟩ := hcut
    have HSz := Lib.hid hy2
    clear HH3 i0 i1 i2 HFo hbx3 hy2 hlf
    go_wp2_with fail
    go_loopw [20] (fun k wq => ∃ k' : Nat, k = .int .i64 (k' : Int) ∧ k' ≤ y.size ∧ Hid (iv = letV p f x ((form x.1).drop k') k') ∧ Hid (Hold w [(g, arrB x.2.1 x.2.2), (w.heap.size + 1 + 1, .cells #[.int .i64 x.1, .int .i64 x.2.1, .int .i64 x.2.2] 46), (w.heap.size + 1, .cells #[.int .i64 f.ar, .int .i64 f.lo, .slice Af f.co.length cf] 44), (w.heap.size, .cells #[.slice A p.ds.length ca, .slice B p.ws.length cb, .slice C p.fs.length cc] 26)] wq)) (fun k _ => y.size - (intOf k).toNat)
    case atStart => exact ⟨0, rfl, Nat.zero_le _, HIv2, HH4⟩
    case round =>
      clear HIv2 HH4
      obtain ⟨k, rfl, hk, HI, HH4⟩ := hrel
      have hsz2 := HSz.out
      by_cases hkl : k < y.size
      · have hx0 := HH4.out.all _ (List.mem_cons_of_mem _ (List.mem_cons_of_mem _ (List.mem_cons_of_mem _ (List.mem_cons_self ..))))
        have hx1 := HH4.out.all _ (List.mem_cons_of_mem _ (List.mem_cons_of_mem _ (List.mem_cons_self ..)))
        have hx2 := HH4.out.all _ (List.mem_cons_of_mem _ (List.mem_cons_self ..))
        have hx3 := HH4.out.all _ (List.mem_cons_self ..)
        obtain ⟨x0, x1, x2, -, -, -⟩ := cells3 hx0
        obtain ⟨y0, y1, y2, -, -, -⟩ := cells3 hx1
        obtain ⟨i0, i1, i2, -, -, -⟩ := cells3 hx2
        have l0 := arr_at hx3 (j := k) (by omega)
        have hyj : y[k] = y.data.toList.getD k 0 := letter_at hkl
        rw [HTx.out] at hyj
        have hkf : k < (form x.1).length := by rw [← HTx.out, ← size_list]; exact hkl
        have hpo := (HPo k hkf).out
        have hII := HI.out
        rw [List.drop_eq_getElem_cons hkf] at hII
        have eg : (form x.1)[k] = (form x.1).getD k 0 := by rw [List.getD_eq_getElem?_getD, List.getElem?_eq_getElem hkf]; rfl
        rw [eg] at hII
        unfold letV at hII
        rw [opV_there p f x.1 _ _ hpo] at hII
        have HT2 := HTh ((form x.1).getD k 0) (opd x.2.1 x.2.2 k) wr.drew (HV.out.next (HH4.out.below.drew))
        have HF2 := fun W h => HFi ((form x.1).getD k 0) (opd x.2.1 x.2.2 k) W h
        have HO2 := fun W => HOb ((form x.1).getD k 0) W
        have HL : ∀ W : World, W.heap[g]? = some (arrB x.2.1 x.2.2) → Hid (W.cell? ⟨g, k, none⟩ = some (.int .i64 (opd x.2.1 x.2.2 k))) := fun W h => Lib.hid (arr_at h (by omega))
        generalize thereV p f x.1 ((form x.1).getD k 0) (opd x.2.1 x.2.2 k) = tv at *
        generalize fits p.ds ((form x.1).getD k 0) (opd x.2.1 x.2.2 k) = fv at *
        generalize objV ((form x.1).getD k 0) = ob at *
        generalize (form x.1).getD k 0 = c at *
        generalize opd x.2.1 x.2.2 k = n at *
        have q3 : decide ((k : Int) < (y.size : Int)) = true := decide_eq_true (by omega)
        have k4 : (0 : Int) ≤ (k : Int) := by omega
        have k5 : (k : Int) < (y.size : Int) := by omega
        have k6 : (k : Int) < 2 := by omega
        have HII := Lib.hid hII
        clear hx0 hx1 hx2 hx3 hkf hpo eg hII HI HPo HTh HFi HOb
        go_wp2_with fail
        go_still_tail 10, (by kernel_rfl)
        change wpList _ _ _ _ _ wr.drew
        have HH5 := Lib.hid HH4.out.drew
        generalize wr.drew = wr4 at *
        clear HH4 x0 x1 x2 y0 y1 y2 i0 i1 i2 l0
        go_wp2_with fail
        refine HT2.out.mono ?_
        rintro _ w5 ⟨rfl, hb5⟩
        have HH6 := Lib.hid (HH5.out.next hb5)
        clear hb5 HH5 HT2
        cases tv with
        | false =>
          have hII := HII.out
          rw [if_pos (show (if false = false then 1 else if ob = true ∧ fv = false then 6 else 0) ≠ 0 by rw [if_pos rfl]; decide), if_pos rfl] at hII
          subst hII
          have HB6 := Lib.hid HH6.out.below
          clear HII HH6
          go_wp2
          go_ret
          exact ⟨rfl, HB6.out⟩
        | true =>
          have hx0 := HH6.out.all _ (List.mem_cons_of_mem _ (List.mem_cons_of_mem _ (List.mem_cons_of_mem _ (List.mem_cons_self ..))))
          have hx3 := HH6.out.all _ (List.mem_cons_self ..)
          obtain ⟨x0, x1, x2, -, -, -⟩ := cells3 hx0
          have l0 := (HL _ hx3).out
          have hII := HII.out
          rw [if_neg (show ¬ true = false by decide)] at hII
          have HII := Lib.hid hII
          have HD6 := Lib.hid (HA.out.next HH6.out.below)
          clear hx0 hx3 hII HL
          cases ob with
          | false =>
            have HI7 : Hid (iv = letV p f x (List.drop (k + 1) (form x.fst)) (k + 1)) := Lib.hid (by have h := HII.out; simpa using h)
            have hII := True.intro
            clear hII HII HF2
            go_wp2_with fail
            go_quiet ((go_at_call 39; exact Calls.quiet_of_same (HO2 _)))
            go_wp2
            go_roundw
            case rel => exact ⟨k + 1, by go_num, by omega, HI7, Lib.hid (HH6.out.drewN _)⟩
            case measure => simp [intOf]; omega
          | true =>
            cases fv with
            | false =>
              have hII : iv = 6 := HII.out
              subst hII
              have HB6 := Lib.hid HH6.out.below
              clear HII
              go_wp2_with fail
              go_quiet ((first | (go_at_call 39; exact Calls.quiet_of_same (HO2 _)) | (go_at_call 61; refine Calls.quiet_of_same (HF2 _ ?_); first | exact HD6.out | exact HD6.out.next (below_drewN (Below.refl _ _) _))))
              go_wp2
              go_ret
              exact ⟨rfl, below_drewN HB6.out _⟩
            | true =>
              have HI7 : Hid (iv = letV p f x (List.drop (k + 1) (form x.fst)) (k + 1)) := Lib.hid HII.out
              have hII := True.intro
              clear hII HII
              go_wp2_with fail
              go_quiet ((first | (go_at_call 39; exact Calls.quiet_of_same (HO2 _)) | (go_at_call 61; refine Calls.quiet_of_same (HF2 _ ?_); first | exact HD6.out | exact HD6.out.next (below_drewN (Below.refl _ _) _))))
              go_wp2
              go_roundw
              case rel => exact ⟨k + 1, by go_num, by omega, HI7, Lib.hid (HH6.out.drewN _)⟩
              case measure => simp [intOf]; omega
      · obtain rfl : k = y.size := by omega
        have q3 : decide ((y.size : Int) < (y.size : Int)) = false := decide_eq_false (by omega)
        have hII := HI.out
        rw [List.drop_of_length_le (by rw [← HTx.out, ← size_list]; exact Nat.le_refl _)] at hII
        have hz : iv = 0 := hII
        subst hz
        have HB6 := Lib.hid HH4.out.below
        clear hII HI HH4 HPo HTh HFi HOb
        go_wp2
        go_ret
        exact ⟨rfl, HB6.out⟩
end Go.Proofs.YtbekfjjajggffaaDoor.pgm.ver

/-
  The program's own answer whether a need of a kind that there is asks what may be (typed over the code of 5ef5b61): for every need. The tables must lie where their initialisers lay them.
-/
namespace Go.Proofs.YtbekfjjajggffaaDoor.need
open Go.RowKit Go.ChangeShapes
open Go.Proofs.YtbekfjjajggffaaDoor.objs (De zero CellsAt DAt)
open Go.Proofs.YtbekfjjajggffaaDoor.span (within_any)
set_option linter.unusedVariables false

/-- May the number be that a need has, of an object with numbers y, z? -/
def amount (k : Nat) (b y z : Int) : Bool := if k = 4 then decide (1 ≤ b ∧ b ≤ z) else if k = 5 then decide (1 ≤ b ∧ b ≤ y) else b == 0
theorem oneN_out {d : List De} {kk : Nat} {a b : Int} (h1 : 1 ≤ kk) (h5 : kk ≤ 5) (ho : a < 0 ∨ (d.length : Int) ≤ a) : oneN d ((kk : Int), a, b) = 1 := by
  unfold oneN
  dsimp only
  rw [if_neg (by omega), if_pos (by rcases ho with h | h; exact .inl h; exact .inr (.inl h))]
theorem oneN_in {d : List De} {kk m : Nat} {b x y z : Int} (h1 : 1 ≤ kk) (h5 : kk ≤ 5) (hm : m < d.length) (hd : d.getD m zero = (x, y, z)) : decide (oneN d ((kk : Int), (m : Int), b) = 0) = (!(x != kn kk) && amount kk b y z) := by
  unfold oneN hi lo amount
  dsimp only
  rw [if_neg (by omega), Int.toNat_natCast, hd]
  dsimp only
  by_cases hx : x = kn kk
  · rw [if_neg (by rintro (h | h | h); omega; omega; exact h hx)]
    have e : (x != kn kk) = false := by simp [hx]
    rw [e, Bool.not_false, Bool.true_and]
    by_cases e4 : kk = 4
    · have q1 : (if (kk : Int) = 4 ∨ (kk : Int) = 5 then (1 : Int) else 0) = 1 := if_pos (by omega)
      have q2 : (if (kk : Int) = 4 then z else if (kk : Int) = 5 then y else 0) = z := if_pos (by omega)
      rw [q1, q2, if_pos e4]
      by_cases hc : 1 ≤ b ∧ b ≤ z
      · rw [if_neg (by omega), decide_eq_true hc]; rfl
      · rw [if_pos (by omega), decide_eq_false hc]; rfl
    · by_cases e5 : kk = 5
      · have q1 : (if (kk : Int) = 4 ∨ (kk : Int) = 5 then (1 : Int) else 0) = 1 := if_pos (by omega)
        have q2 : (if (kk : Int) = 4 then z else if (kk : Int) = 5 then y else 0) = y := by rw [if_neg (by omega), if_pos (by omega)]
        rw [q1, q2, if_neg e4, if_pos e5]
        by_cases hc : 1 ≤ b ∧ b ≤ y
        · rw [if_neg (by omega), decide_eq_true hc]; rfl
        · rw [if_pos (by omega), decide_eq_false hc]; rfl
      · have q1 : (if (kk : Int) = 4 ∨ (kk : Int) = 5 then (1 : Int) else 0) = 0 := if_neg (by omega)
        have q2 : (if (kk : Int) = 4 then z else if (kk : Int) = 5 then y else 0) = 0 := by rw [if_neg (by omega), if_neg (by omega)]
        rw [q1, q2, if_neg e4, if_neg e5]
        by_cases hc : b = 0
        · subst hc; rfl
        · rw [if_pos (by omega)]
          simp [hc]
  · rw [if_pos (.inr (.inr hx))]
    have e : (x != kn kk) = true := by simpa using hx
    rw [e]
    rfl

/-- Behind the need's box. -/
structure Nb (w : World) (A : Option Addr) (d : List De) (k a b : Int) (W : World) : Prop where
  below : Below w.heap.size w W
  box : W.cell? ⟨w.heap.size, 0, none⟩ = some (.int .i64 k) ∧ W.cell? ⟨w.heap.size, 1, none⟩ = some (.int .i64 a) ∧ W.cell? ⟨w.heap.size, 2, none⟩ = some (.int .i64 b)
  list : DAt W A d
  ok : Oka W
theorem nb_new {w : World} {A : Option Addr} {d : List De} (k a b : Int) (hA : DAt w A d) (hw : Oka w) : Nb w A d k a b (w.alloc (needBox k a b)) := by
  have hb := nbox_below w k a b
  refine ⟨hb, ?_, hA.next hb, hw.next hb⟩
  unfold World.cell?
  rw [heap_alloc_new w _]
  exact ⟨rfl, rfl, rfl⟩
/-- Behind the object's box. -/
structure Ob (w : World) (g2 : Nat) (k a b x y z : Int) (W : World) : Prop where
  below : Below w.heap.size w W
  box : W.cell? ⟨w.heap.size, 0, none⟩ = some (.int .i64 k) ∧ W.cell? ⟨w.heap.size, 1, none⟩ = some (.int .i64 a) ∧ W.cell? ⟨w.heap.size, 2, none⟩ = some (.int .i64 b)
  obj : W.cell? ⟨g2, 0, none⟩ = some (.int .i64 x) ∧ W.cell? ⟨g2, 1, none⟩ = some (.int .i64 y) ∧ W.cell? ⟨g2, 2, none⟩ = some (.int .i64 z)
  ok : Oka W
def objBox (x y z : Int) : Obj := .cells #[.int .i64 x, .int .i64 y, .int .i64 z] 48
theorem Nb.obj {w W : World} {A : Option Addr} {d : List De} {k a b : Int} (h : Nb w A d k a b W) (x y z : Int) : Ob w W.heap.size k a b x y z (W.alloc (objBox x y z)) := by
  have hb : Below W.heap.size W (W.alloc (objBox x y z)) := (Below.refl _ W).alloc (Nat.le_refl _) _
  have hg : w.heap.size < W.heap.size := by
    rcases Nat.lt_or_ge w.heap.size W.heap.size with h1 | h1
    · exact h1
    · have := h.box.1
      simp [World.cell?, Array.getElem?_eq_none h1] at this
  refine ⟨h.below.trans (hb.mono h.below.size), ?_, ?_, h.ok.next hb⟩
  · rw [hb.cell (p := ⟨w.heap.size, 0, none⟩) hg, hb.cell (p := ⟨w.heap.size, 1, none⟩) hg, hb.cell (p := ⟨w.heap.size, 2, none⟩) hg]
    exact h.box
  · unfold World.cell?
    rw [heap_alloc_new W _]
    exact ⟨rfl, rfl, rfl⟩

set_option maxRecDepth 100000 in
set_option maxHeartbeats 2000000 in
theorem range_out (A : Option Addr) (cap : Nat) (d : List De) (kk : Nat) (a b : Int) (h1 : 1 ≤ kk) (h5 : kk ≤ 5) (ho : a < 0 ∨ (d.length : Int) ≤ a) (w : World) :
    Calls Tryd.prog 83 #[.slice A d.length cap, .agg #[.int .i64 (kk : Int), .int .i64 a, .int .i64 b]] w fun e w' => e = .returned (.bool (decide (oneN d ((kk : Int), a, b) = 0))) ∧ Below w.heap.size w w' := by
  rw [oneN_out h1 h5 ho, decide_eq_false (by decide)]
  have HB := Lib.hid (nbox_below w (kk : Int) a b)
  unfold needBox at HB
  by_cases h0 : a < 0
  · have d0 : decide (a < 0) = true := by simpa using h0
    clear ho h0
    go_enter Tryd.func83, Tryd.ntmps83
    go_wp2
    go_ret
    exact ⟨rfl, HB.out⟩
  · have d0 : decide (a < 0) = false := by simpa using h0
    have dl : decide ((d.length : Int) ≤ a) = true := by simp; omega
    clear ho h0
    go_enter Tryd.func83, Tryd.ntmps83
    go_wp2
    go_ret
    exact ⟨rfl, HB.out⟩

set_option maxRecDepth 100000 in
set_option maxHeartbeats 4000000 in
theorem range_in (A : Option Addr) (cap : Nat) (d : List De) (kk m : Nat) (b : Int) (h1 : 1 ≤ kk) (h5 : kk ≤ 5) (hm : m < d.length) (hl : d.length ≤ 9223372036854775807) (w : World) (hA : DAt w A d) (hw : Oka w) :
    Calls Tryd.prog 83 #[.slice A d.length cap, .agg #[.int .i64 (kk : Int), .int .i64 (m : Int), .int .i64 b]] w fun e w' => e = .returned (.bool (decide (oneN d ((kk : Int), (m : Int), b) = 0))) ∧ Below w.heap.size w w' := by
  obtain ⟨⟨x, y, z⟩, hdm⟩ : ∃ t : De, d.getD m zero = t := ⟨_, rfl⟩
  obtain ⟨r, hr⟩ : ∃ r, r = decide (oneN d ((kk : Int), (m : Int), b) = 0) := ⟨_, rfl⟩
  rw [← hr]
  have HR := Lib.hid (hr.trans (oneN_in h1 h5 hm hdm))
  have HN := Lib.hid (nb_new (kk : Int) (m : Int) b hA hw)
  have HO := Lib.hid (HN.out.obj x y z)
  have H1 := fun W => Lib.hid (within_any b 1 z W)
  have H2 := fun W => Lib.hid (within_any b 1 y W)
  have d0 : decide ((m : Int) < 0) = false := by simp
  have dl : decide (d.length ≤ m) = false := by simp; omega
  have dm : (m : Int) < (d.length : Int) := by omega
  have dm0 : (0 : Int) ≤ (m : Int) := by omega
  have dk : (kk : Int) < 6 := by omega
  have dk0 : (0 : Int) ≤ (kk : Int) := by omega
  have hb0 := hA.next (nbox_below w (kk : Int) (m : Int) b)
  obtain ⟨b0, off, rfl, hbl, x0, x1, x2⟩ := hb0 m hm
  rw [hdm] at x0 x1 x2
  dsimp only at x0 x1 x2
  obtain ⟨c0, c1, c2⟩ := HN.out.box
  have hk := asked_kn h1 h5
  have HK := Lib.hid (And.intro h1 h5)
  unfold needBox at HO c0 c1 c2 x0 x1 x2
  rw [World.size_alloc] at HO
  unfold objBox at HO
  clear hA hw hm h1 h5 hb0 hbl HN hdm hr
  go_enter Tryd.func83, Tryd.ntmps83
  go_upto_region 4 with fail
  clear c0 c1 c2 x0 x1 x2
  generalize (w.alloc (.cells #[.int .i64 (kk : Int), .int .i64 (m : Int), .int .i64 b] 71)).alloc (.cells #[.int .i64 x, .int .i64 y, .int .i64 z] 48) = W at *
  obtain ⟨c0, c1, c2⟩ := HO.out.box
  obtain ⟨x0, x1, x2⟩ := HO.out.obj
  have ck := HO.out.ok.ak kk (by omega)
  rw [hk] at ck
  cases hx : (x != kn (kk : Int)) with
  | true =>
    have HE : Hid (r = false) := Lib.hid (by rw [HR.out, hx]; rfl)
    go_quiet (fail)
    go_wp2
    go_ret
    exact ⟨ret_bool (by rw [HE.out]), below_drewN HO.out.below _⟩
  | false =>
    have HE : Hid (r = amount kk b y z) := Lib.hid (by rw [HR.out, hx, Bool.not_false, Bool.true_and])
    clear HR
    unfold amount at HE
    by_cases e4 : kk = 4
    · rw [if_pos e4] at HE
      have f4 : ((kk : Int) == 4) = true := by simp; omega
      clear e4
      go_quiet (fail)
      go_wp2_with fail
      refine (H1 _).out.mono ?_
      rintro e w1 ⟨rfl, rfl⟩
      go_wp2
      go_ret
      exact ⟨ret_bool (by rw [HE.out, Bool.decide_and]), below_drewN HO.out.below _⟩
    · rw [if_neg e4] at HE
      have f4 : ((kk : Int) == 4) = false := by simp; omega
      by_cases e5 : kk = 5
      · rw [if_pos e5] at HE
        have f5 : ((kk : Int) == 5) = true := by simp; omega
        clear e4 e5
        go_quiet (fail)
        go_wp2_with fail
        refine (H2 _).out.mono ?_
        rintro e w1 ⟨rfl, rfl⟩
        go_wp2
        go_ret
        exact ⟨ret_bool (by rw [HE.out, Bool.decide_and]), below_drewN HO.out.below _⟩
      · rw [if_neg e5] at HE
        have f5 : ((kk : Int) == 5) = false := by simp; omega
        clear e4 e5
        go_quiet (fail)
        go_wp2
        go_ret
        exact ⟨ret_bool HE.out.symm, below_drewN HO.out.below _⟩

theorem range_any (A : Option Addr) (cap : Nat) (d : List De) (n : De) (hk : 1 ≤ n.1 ∧ n.1 ≤ 5) (hl : d.length ≤ 9223372036854775807) (w : World) (hA : DAt w A d) (hw : Oka w) :
    Calls Tryd.prog 83 #[.slice A d.length cap, .agg #[.int .i64 n.1, .int .i64 n.2.1, .int .i64 n.2.2]] w fun e w' => e = .returned (.bool (decide (oneN d n = 0))) ∧ Below w.heap.size w w' := by
  obtain ⟨k, a, b⟩ := n
  dsimp only at hk ⊢
  obtain ⟨kk, rfl⟩ : ∃ kk : Nat, k = (kk : Int) := ⟨k.toNat, by omega⟩
  by_cases ho : a < 0 ∨ (d.length : Int) ≤ a
  · exact range_out A cap d kk a b (by omega) (by omega) ho w
  · obtain ⟨m, rfl⟩ : ∃ m : Nat, a = (m : Int) := ⟨a.toNat, by omega⟩
    exact range_in A cap d kk m b (by omega) (by omega) (by omega) hl w hA hw
end Go.Proofs.YtbekfjjajggffaaDoor.need

/-
  The program's own answer whether the needs of a way may not be together (typed over the code of 5ef5b61): of needs each of which may be, so that a set has all their objects.
-/
namespace Go.Proofs.YtbekfjjajggffaaDoor.need
open Go.RowKit Go.ChangeShapes
open Go.Proofs.YtbekfjjajggffaaDoor.objs (De zero CellsAt DAt)
open Go.Proofs.YtbekfjjajggffaaDoor.bits (wth hasB may Is64 wth_lt has_any with_any testBit_ins)
set_option linter.unusedVariables false

theorem hasB_wth {s : Nat} {n x : Int} (hn : may n) (hx : may x) : hasB (wth s n) x = (hasB s x || decide (n = x)) := by
  unfold hasB wth
  rw [if_pos hn, testBit_ins, decide_eq_true hx, Bool.true_and, Bool.true_and]
  congr 1
  unfold may at hn hx
  have : (n.toNat = x.toNat) ↔ (n = x) := by omega
  simp [this]
theorem clashTo_no {l : List De} {k : Nat} : ∀ m, (∀ j, j < m → clash (l.getD j zero) (l.getD k zero) = false) → clashTo l k m = false := by
  intro m
  induction m with
  | zero => intro _; rfl
  | succ m ih =>
    intro h
    unfold clashTo
    rw [ih (fun j hj => h j (by omega)), h m (by omega)]
    rfl
theorem twiceTo_no {l : List De} : ∀ m, (∀ k, k < m → ∀ j, j < k → clash (l.getD j zero) (l.getD k zero) = false) → twiceTo l m = false := by
  intro m
  induction m with
  | zero => intro _; rfl
  | succ m ih =>
    intro h
    unfold twiceTo
    rw [ih (fun k hk => h k (by omega)), clashTo_no m (h m (by omega))]
    rfl
/-- A need that clashes with one ahead of it, or that must stand alone and does not. -/
theorem clash_met {l : List De} {i j : Nat} (hj : j < i) (hi : i < l.length) (h : (l.getD j zero).2.1 = (l.getD i zero).2.1) : twiceTo l l.length = true :=
  twiceTo_yes (clashTo_yes hj (by unfold clash; rw [h]; simp) i hj) l.length hi
theorem clash_down {l : List De} {i : Nat} (hi : i < l.length) (h2 : 1 < l.length) (h : (l.getD i zero).1 = 4) : twiceTo l l.length = true := by
  rcases Nat.eq_zero_or_pos i with h0 | h0
  · subst h0
    exact twiceTo_yes (clashTo_yes (l := l) (k := 1) (j := 0) (by omega) (by unfold clash; rw [h]; simp) 1 (by omega)) l.length h2
  · exact twiceTo_yes (clashTo_yes (l := l) (k := i) (j := 0) h0 (by unfold clash; rw [h]; simp) i h0) l.length hi

theorem of_none (w : World) : Calls Tryd.prog 19 #[.slice none 0 0] w fun e w' => e = .returned (.int .u64 0) ∧ w = w' := by
  go_enter Tryd.func19, Tryd.ntmps19
  go_wp2_with fail
  go_loop [3, 8] (fun t i => t = .int .u64 0 ∧ i = .int .i64 0) (fun _ _ => 0)
  case atStart => exact ⟨rfl, rfl⟩
  case round =>
    obtain ⟨rfl, rfl⟩ := hrel
    go_wp2
    go_ret
    exact ⟨rfl, rfl⟩

/-- A need in a block of its own. -/
theorem nbox_at (W : World) (k o m : Int) : (W.alloc (needBox k o m)).cell? ⟨W.heap.size, 0, none⟩ = some (.int .i64 k) ∧ (W.alloc (needBox k o m)).cell? ⟨W.heap.size, 1, none⟩ = some (.int .i64 o) ∧ (W.alloc (needBox k o m)).cell? ⟨W.heap.size, 2, none⟩ = some (.int .i64 m) := by
  unfold World.cell?
  rw [heap_alloc_new W _]
  exact ⟨rfl, rfl, rfl⟩
/-- Which objects the first needs ask. -/
structure Met (l : List De) (j : Nat) (s : Nat) : Prop where
  small : Is64 s
  has : ∀ x : Int, may x → (hasB s x = true ↔ ∃ i, i < j ∧ (l.getD i zero).2.1 = x)
  apart : ∀ i, i < j → ∀ k, k < i → (l.getD k zero).2.1 ≠ (l.getD i zero).2.1
  alone : 1 < l.length → ∀ i, i < j → (l.getD i zero).1 ≠ 4
theorem Met.next {l : List De} {j s : Nat} (h : Met l j s) (hm : may (l.getD j zero).2.1) (h1 : hasB s (l.getD j zero).2.1 = false) (h2 : 1 < l.length → (l.getD j zero).1 ≠ 4) : Met l (j + 1) (wth s (l.getD j zero).2.1) := by
  refine ⟨wth_lt h.small _, fun x hx => ?_, fun i hi k hk => ?_, fun hl i hi => ?_⟩
  · rw [hasB_wth hm hx, Bool.or_eq_true, h.has x hx, decide_eq_true_iff]
    constructor
    · rintro (⟨i, hi, e⟩ | e)
      · exact ⟨i, by omega, e⟩
      · exact ⟨j, by omega, e⟩
    · rintro ⟨i, hi, e⟩
      rcases Nat.lt_or_ge i j with h3 | h3
      · exact .inl ⟨i, h3, e⟩
      · obtain rfl : i = j := by omega
        exact .inr e
  · rcases Nat.lt_or_ge i j with h3 | h3
    · exact h.apart i h3 k hk
    · obtain rfl : i = j := by omega
      intro e
      have := (h.has _ hm).2 ⟨k, hk, e⟩
      rw [h1] at this
      cases this
  · rcases Nat.lt_or_ge i j with h3 | h3
    · exact h.alone hl i h3
    · obtain rfl : i = j := by omega
      exact h2 hl
theorem Met.fine {l : List De} {s : Nat} (h : Met l l.length s) : twiceTo l l.length = false := by
  refine twiceTo_no _ fun k hk j hj => ?_
  have h1 := h.apart k hk j hj
  have h2 := h.alone (by omega) k hk
  have h3 := h.alone (by omega) j (by omega)
  unfold clash
  rw [beq_eq_false_iff_ne.2 h1, beq_eq_false_iff_ne.2 h2, beq_eq_false_iff_ne.2 h3]
  rfl
theorem met_zero (l : List De) : Met l 0 0 := by
  refine ⟨by unfold Is64; omega, fun x hx => ?_, fun i hi => by omega, fun _ i hi => by omega⟩
  unfold hasB
  simp

set_option maxRecDepth 100000 in
set_option maxHeartbeats 4000000 in
theorem clashes_any (B : Option Addr) (cap : Nat) (l : List De) (hl : l.length ≤ 4) (ho : ∀ n ∈ l, may n.2.1) (w : World) (hB : DAt w B l) :
    Calls Tryd.prog 84 #[.slice B l.length cap] w fun e w' => e = .returned (.bool (twiceTo l l.length)) ∧ Below w.heap.size w w' := by
  have HOf := Lib.hid (of_none w)
  have HB := Lib.hid hB
  have HO := Lib.hid ho
  have H0 := Lib.hid (met_zero l)
  obtain ⟨r, hr⟩ : ∃ r, r = twiceTo l l.length := ⟨_, rfl⟩
  have HR := Lib.hid hr
  rw [← hr]
  have HL4 := Lib.hid hl
  clear hB ho hr hl
  go_enter Tryd.func84, Tryd.ntmps84
  go_wp2_with fail
  refine HOf.out.mono ?_
  rintro e w1 ⟨rfl, rfl⟩
  go_wp2_with fail
  go_loopw [3, 9] (fun t i wr => ∃ (j s : Nat), j ≤ l.length ∧ i = .int .i64 (j : Int) ∧ t = .int .u64 (s : Int) ∧ Hid (Met l j s) ∧ Hid (Below w.heap.size w wr)) (fun _ i _ => l.length - (intOf i).toNat)
  case atStart => exact ⟨0, 0, Nat.zero_le _, rfl, rfl, H0, Lib.hid (Below.refl _ _)⟩
  case round =>
    obtain ⟨j, s, hj, rfl, rfl, HM, HW⟩ := hrel
    by_cases hlt : j < l.length
    · obtain ⟨b0, off, rfl, hbl, c0, c1, c2⟩ := HB.out.next HW.out j hlt
      have hlt' : (j : Int) < (l.length : Int) := by omega
      have hj0 : (0 : Int) ≤ (j : Int) := by omega
      have HY := Lib.hid (HO.out _ (getD_mem hlt))
      have HN := fun h1 h2 => Lib.hid (HM.out.next HY.out h1 h2)
      have HD := fun h1 h2 => Lib.hid (clash_down (l := l) hlt h1 h2)
      have HC : ∀ i, i < j → (l.getD i zero).2.1 = (l.getD j zero).2.1 → Hid (twiceTo l l.length = true) := fun i h1 h2 => Lib.hid (clash_met (l := l) h1 hlt h2)
      have HE := Lib.hid (HM.out.has _ HY.out)
      have HS := Lib.hid HM.out.small
      clear HM
      generalize l.getD j zero = n at *
      obtain ⟨k, o, m⟩ := n
      dsimp only at c0 c1 c2 HY HN HD HC HE
      have HW1 := Lib.hid (HW.out.trans ((nbox_below wr k o m).mono HW.out.size))
      have hbx := nbox_at wr k o m
      unfold needBox at HW1 hbx
      clear HW
      have HH := fun W => Lib.hid (has_any s HS.out o W)
      have HWi := fun W => Lib.hid (with_any s HS.out o W)
      go_upto_region 5 with fail
      clear c0 c1 c2
      generalize wr.alloc (.cells #[.int .i64 k, .int .i64 o, .int .i64 m] 71) = W1 at *
      generalize wr.heap.size = g at *
      obtain ⟨c0, c1, c2⟩ := hbx
      cases hh : hasB s o with
      | true =>
        obtain ⟨i, hi, e⟩ := HE.out.1 hh
        have HX := HC i hi e
        clear hi e HN HD HC HE HY
        rw [hh] at HH
        go_wp2_with fail
        refine (HH _).out.mono ?_
        rintro e w2 ⟨rfl, rfl⟩
        go_wp2
        go_ret
        exact ⟨ret_bool (by rw [HR.out, HX.out]), HW1.out⟩
      | false =>
        rw [hh] at HH
        have HN1 := HN hh
        clear HC HE HY HN hh
        by_cases h4 : k = 4
        · subst h4
          by_cases h2 : 1 < l.length
          · have HX := HD h2 rfl
            have d2 : decide ((1 : Int) < (l.length : Int)) = true := by simp; omega
            clear HD HN1 h2
            go_wp2_with fail
            refine (HH _).out.mono ?_
            rintro e w2 ⟨rfl, rfl⟩
            go_wp2
            go_ret
            exact ⟨ret_bool (by rw [HR.out, HX.out]), HW1.out⟩
          · have HN2 := HN1 (fun h => absurd h h2)
            have d2 : decide ((1 : Int) < (l.length : Int)) = false := by simp; omega
            clear HD HN1 h2
            go_wp2_with fail
            refine (HH _).out.mono ?_
            rintro e w2 ⟨rfl, rfl⟩
            go_wp2_with fail
            refine (HWi _).out.mono ?_
            rintro e w2 ⟨rfl, rfl⟩
            have hl4 := HL4.out
            go_wp2
            go_roundw
            case rel => exact ⟨j + 1, _, by omega, by go_num, rfl, HN2, HW1⟩
            case measure => simp [intOf]; omega
        · have HN2 := HN1 (fun _ => h4)
          have d4 : (k == 4) = false := by simpa using h4
          clear HD HN1 h4
          go_wp2_with fail
          refine (HH _).out.mono ?_
          rintro e w2 ⟨rfl, rfl⟩
          go_wp2_with fail
          refine (HWi _).out.mono ?_
          rintro e w2 ⟨rfl, rfl⟩
          have hl4 := HL4.out
          go_wp2
          go_roundw
          case rel => exact ⟨j + 1, _, by omega, by go_num, rfl, HN2, HW1⟩
          case measure => simp [intOf]; omega
    · obtain rfl : j = l.length := by omega
      have HX := Lib.hid HM.out.fine
      go_wp2
      go_ret
      exact ⟨ret_bool (by rw [HR.out, HX.out]), HW.out⟩
end Go.Proofs.YtbekfjjajggffaaDoor.need

/-
  The program's own answer of the objects of needs of a kind (typed over the code of 5ef5b61): of at most six ways, each of at most six needs.
-/
namespace Go.Proofs.YtbekfjjajggffaaDoor.need
open Go.RowKit Go.ChangeShapes
open Go.Proofs.YtbekfjjajggffaaDoor.objs (De zero CellsAt DAt)
open Go.Proofs.YtbekfjjajggffaaDoor.bits (wth Is64 with_any)
set_option linter.unusedVariables false

set_option maxRecDepth 100000 in
set_option maxHeartbeats 4000000 in
theorem objs_any (B : Option Addr) (cap : Nat) (l : List (List De)) (k : Int) (hl : l.length ≤ 6) (hll : ∀ x ∈ l, x.length ≤ 6) (w : World) (hB : WAt w B l) :
    Calls Tryd.prog 59 #[.slice B l.length cap, .int .i64 k] w fun e w' => e = .returned (.int .u64 ((objects l k : Nat) : Int)) ∧ Below w.heap.size w w' := by
  have HOf := Lib.hid (of_none w)
  have HB := Lib.hid hB
  have HLL := Lib.hid hll
  have HO : Hid (objects l k = objsW l k l.length) := Lib.hid rfl
  rw [HO.out]
  clear hB hll HO
  go_enter Tryd.func59, Tryd.ntmps59
  go_wp2_with fail
  refine HOf.out.mono ?_
  rintro e w1 ⟨rfl, rfl⟩
  go_wp2_with fail
  go_loopw [5, 13] (fun t i wr => ∃ j : Nat, j ≤ l.length ∧ i = .int .i64 (j : Int) ∧ t = .int .u64 ((objsW l k j : Nat) : Int) ∧ Hid (Below w.heap.size w wr)) (fun _ i _ => l.length - (intOf i).toNat)
  case atStart => exact ⟨0, Nat.zero_le _, rfl, rfl, Lib.hid (Below.refl _ _)⟩
  case round =>
    obtain ⟨j, hj, rfl, rfl, HW⟩ := hrel
    by_cases hlt : j < l.length
    · obtain ⟨b, off, Aj, cj, rfl, hbl, hc0, hdj⟩ := HB.out j hlt
      have hc := (HW.out.cell (p := ⟨b, off + j, none⟩) hbl).trans hc0
      have hlt' : (j : Int) < (l.length : Int) := by omega
      have hj0 : (0 : Int) ≤ (j : Int) := by omega
      have h6 := HLL.out _ (getW_mem hlt)
      have HS := Lib.hid (objsW_64 (w := l) (k := k) j)
      have HE : Hid (objsW l k (j + 1) = objsIn (l.getD j []) k (objsW l k j) (l.getD j []).length) := Lib.hid rfl
      generalize objsW l k j = s at *
      generalize l.getD j [] = x at *
      have HD := Lib.hid hdj
      clear hdj hc0 hbl
      go_wp2_with fail
      clear hc
      go_loopw [5, 19] (fun t i wr => ∃ q : Nat, q ≤ x.length ∧ i = .int .i64 (q : Int) ∧ t = .int .u64 ((objsIn x k s q : Nat) : Int) ∧ Hid (Below w.heap.size w wr)) (fun _ i _ => x.length - (intOf i).toNat)
      case atStart => exact ⟨0, Nat.zero_le _, rfl, rfl, HW⟩
      case round =>
        obtain ⟨q, hq, rfl, rfl, HV⟩ := hrel
        by_cases hlq : q < x.length
        · obtain ⟨b1, off1, rfl, hb1, c0, c1, c2⟩ := HD.out.next HV.out q hlq
          have hlq' : (q : Int) < (x.length : Int) := by omega
          have hq0 : (0 : Int) ≤ (q : Int) := by omega
          have HS2 := Lib.hid (objsIn_64 (l := x) (k := k) HS.out q)
          have HE2 : Hid (objsIn x k s (q + 1) = if (x.getD q zero).1 = k then wth (objsIn x k s q) (x.getD q zero).2.1 else objsIn x k s q) := Lib.hid rfl
          generalize objsIn x k s q = s2 at *
          generalize x.getD q zero = n at *
          have HV1 := Lib.hid (HV.out.trans ((nbox_below wr n.1 n.2.1 n.2.2).mono HV.out.size))
          have hbx := nbox_at wr n.1 n.2.1 n.2.2
          have HWi := fun W => Lib.hid (with_any s2 HS2.out n.2.1 W)
          obtain ⟨k0, o0, m0⟩ := n
          unfold needBox at HV1 hbx
          dsimp only at c0 c1 c2 HE2 HV1 hbx HWi
          clear HV
          go_upto_region 8 with fail
          clear c0 c1 c2
          generalize wr.alloc (.cells #[.int .i64 k0, .int .i64 o0, .int .i64 m0] 71) = W4 at *
          generalize wr.heap.size = g at *
          obtain ⟨c0, c1, c2⟩ := hbx
          by_cases hk : k0 = k
          · have HE3 : Hid (objsIn x k s (q + 1) = wth s2 o0) := Lib.hid (by rw [HE2.out, if_pos hk])
            have hk' : (k0 == k) = true := by simpa using hk
            clear hk
            go_wp2_with fail
            refine (HWi _).out.mono ?_
            rintro e w5 ⟨rfl, rfl⟩
            go_wp2
            go_roundw
            case rel => exact ⟨q + 1, by omega, by go_num, by rw [HE3.out], HV1⟩
            case measure => simp [intOf]; omega
          · have HE3 : Hid (objsIn x k s (q + 1) = s2) := Lib.hid (by rw [HE2.out, if_neg hk])
            have hk' : (k0 == k) = false := by simpa using hk
            clear hk
            go_wp2
            go_roundw
            case rel => exact ⟨q + 1, by omega, by go_num, by rw [HE3.out], HV1⟩
            case measure => simp [intOf]; omega
        · obtain rfl : q = x.length := by omega
          go_wp2
          go_roundw
          case rel => exact ⟨j + 1, by omega, by go_num, by rw [HE.out], HV⟩
          case measure => simp [intOf]; omega
    · obtain rfl : j = l.length := by omega
      go_wp2
      go_ret
      exact ⟨rfl, HW.out⟩
end Go.Proofs.YtbekfjjajggffaaDoor.need
