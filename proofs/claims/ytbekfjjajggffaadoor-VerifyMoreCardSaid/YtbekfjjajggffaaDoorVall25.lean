/-
  Texts of one claim in one file: VNamed, BList, BText, BAt, VSpec. Each has its own sentence, with its conditions.
-/
import Derived.Test.YtbekfjjajggffaaDoorVall13
import Derived.Test.YtbekfjjajggffaaDoorVall24
import Derived.Test.YtbekfjjajggffaaDoorVall12
import Derived.OneCell
import Derived.Laws.Rows
import Derived.Laws.AppendOwn
import Derived.OwnWalk
import Derived.Deep.LoopGhost
import Derived.Test.YtbekfjjajggffaaDoorVall11
import Derived.Test.YtbekfjjajggffaaDoorVall23
import Derived.WalkLawsBesides
/-
  The program's own answer of which objects an instruction names (typed over the code of 674cbdc): of every program that may be, and every instruction that may be.
-/
namespace Go.Proofs.YtbekfjjajggffaaDoor.pgm.ver
open Go.RowKit Go.ChangeShapes
open Go.Proofs.YtbekfjjajggffaaDoor.pgm
open Go.Proofs.YtbekfjjajggffaaDoor.objs (De zero DAt cells3)
open Go.Proofs.YtbekfjjajggffaaDoor.oper (insBox txt fm form_any)
open Go.Proofs.YtbekfjjajggffaaDoor.inst (form opd letter_at size_list form_le)
open Go.Proofs.YtbekfjjajggffaaDoor.need (of_none objs_any objects WAt)
open Go.Proofs.YtbekfjjajggffaaDoor.bits (wth Is64 wth_lt with_any or_u64)
set_option linter.unusedVariables false

set_option maxRecDepth 100000 in
set_option maxHeartbeats 4000000 in
theorem asked_any (B : Option Addr) (cap : Nat) (l : List (List De)) (hl : l.length ≤ 6) (hll : ∀ x ∈ l, x.length ≤ 6) (w : World) (hB : WAt w B l) :
    Calls Tryd.prog 41 #[.slice B l.length cap] w fun e w' => e = .returned (.int .u64 ((askedN l 5 : Nat) : Int)) ∧ Below w.heap.size w w' := by
  have HOf := Lib.hid (of_none w)
  have HObj := fun k W h => Lib.hid (objs_any B cap l k hl hll W h)
  have HB := Lib.hid hB
  clear hB hll
  go_enter Tryd.func41, Tryd.ntmps41
  go_wp2_with fail
  refine HOf.out.mono ?_
  rintro e w1 ⟨rfl, rfl⟩
  go_wp2_with fail
  go_loopw [3, 4] (fun t i wr => ∃ j : Nat, j ≤ 5 ∧ i = .int .i64 ((j : Int) + 1) ∧ t = .int .u64 ((askedN l j : Nat) : Int) ∧ Hid (Below w.heap.size w wr)) (fun _ i _ => 6 - (intOf i).toNat)
  case atStart => exact ⟨0, Nat.zero_le _, rfl, rfl, Lib.hid (Below.refl _ _)⟩
  case round =>
    obtain ⟨j, hj, rfl, rfl, HW⟩ := hrel
    by_cases hlt : j < 5
    · have q0 : decide ((j : Int) + 1 ≤ 5) = true := decide_eq_true (by omega)
      have HO2 := HObj ((j : Int) + 1) wr (HB.out.next HW.out)
      have b1 := or_u64 (askedN_64 l j) (objects_64 l ((j : Int) + 1))
      have HE : Hid (askedN l (j + 1) = askedN l j ||| objects l ((j : Int) + 1)) := Lib.hid rfl
      generalize objects l ((j : Int) + 1) = t at *
      generalize askedN l j = s at *
      generalize s ||| t = u at *
      go_wp2_with fail
      refine HO2.out.mono ?_
      rintro _ w5 ⟨rfl, hb5⟩
      have HW5 := Lib.hid (HW.out.trans (hb5.mono HW.out.size))
      clear hb5 HW HO2
      go_wp2
      go_roundw
      case rel => exact ⟨j + 1, by omega, by go_num, by rw [HE.out], HW5⟩
      case measure => simp [intOf]; omega
    · obtain rfl : j = 5 := by omega
      have q0 : decide (((5 : Nat) : Int) + 1 ≤ 5) = false := decide_eq_false (by omega)
      go_wp2
      go_ret
      exact ⟨rfl, HW.out⟩

set_option maxRecDepth 100000 in
set_option maxHeartbeats 16000000 in
theorem named_any (v : Value) (p : Pg) (x : De) (w : World) (hv : PAt w v p) (hz : chkP p = 0) (hx : chkI x = 0) :
    Calls Tryd.prog 25 #[v, .agg #[.int .i64 x.1, .int .i64 x.2.1, .int .i64 x.2.2]] w fun e w' =>
      e = .returned (.int .u64 ((namedN p x (form x.1).length : Nat) : Int)) ∧ Below w.heap.size w w' := by
  obtain ⟨A, B, C, ca, cb, cc, rfl, hA, hB, hC⟩ := id hv
  obtain ⟨r, hr⟩ : ∃ r, r = namedN p x (form x.1).length := ⟨_, rfl⟩
  rw [← hr]
  have HR := Lib.hid hr
  clear hr
  obtain ⟨g1, g2, g3, g4, g5, g6⟩ := chkP_zero hz
  have hlf : (form x.1).length ≤ 2 := form_le x.1
  have H0 := ((Hold.alloc (show Hold w [] w from ⟨Below.refl _ w, fun z hz => by cases hz⟩) (pgB (.slice A p.ds.length ca) (.slice B p.ws.length cb) (.slice C p.fs.length cc))).alloc (insBox x.1 x.2.1 x.2.2))
  rw [World.size_alloc w] at H0
  have HH3 := Lib.hid H0
  have HBW := Lib.hid hB
  have HWs := Lib.hid g3
  have HO0 := fun W => Lib.hid (of_none W)
  have HBe := fun n W => (below_any n (p.ws.length : Int) (by omega) (by omega) W)
  have HOb : ∀ c W, Calls Tryd.prog 39 #[.int .u8 (c.toNat : Int)] W fun e w' => e = .returned (.bool (objV c)) ∧ w = w ∧ W = w' := fun c W => (isObj_any c W).mono fun e w' ⟨h1, h2⟩ => ⟨h1, rfl, h2⟩
  unfold pgB insBox at HH3
  clear H0 hv hA hB hC hx hz g1 g3 g6
  go_enter Tryd.func25, Tryd.ntmps25
  go_upto_region 1 with fail
  generalize (w.alloc (.cells #[.slice A p.ds.length ca, .slice B p.ws.length cb, .slice C p.fs.length cc] 26)).alloc (.cells #[.int .i64 x.1, .int .i64 x.2.1, .int .i64 x.2.2] 46) = W0 at *
  have hx2 := HH3.out.all _ (List.mem_cons_self ..)
  have hbx3 := lt_of_block hx2
  obtain ⟨i0, i1, i2, -, -, -⟩ := cells3 hx2
  clear hx2
  have hy2 : (txt fm x.1).size ≤ 2 := by unfold form at hlf; rwa [← size_list] at hlf
  have HTx : Hid ((txt fm x.1).data.toList = form x.1) := Lib.hid rfl
  have HSf : Hid ((txt fm x.1).size = (form x.1).length) := Lib.hid (size_list _)
  have HFo := fun W => Lib.hid (form_any x.1 W)
  generalize txt fm x.1 = y at *
  go_upto_region 2 with (refine (HO0 _).out.mono ?_; rintro _ _ ⟨rfl, rfl⟩)
  go_cut [6, 7] (fun t l wx => t = .string y ∧ ∃ g : Nat, l = .pointer (some ⟨g, 0, none⟩) ∧ Hid (Hold w [(g, arrB x.2.1 x.2.2), (w.heap.size + 1, .cells #[.int .i64 x.1, .int .i64 x.2.1, .int .i64 x.2.2] 46), (w.heap.size, .cells #[.slice A p.ds.length ca, .slice B p.ws.length cb, .slice C p.fs.length cc] 26)] wx))
  case first =>
    go_region_held3 (fun w' => w'.cell? ⟨w.heap.size + 1, 0, none⟩ = some (.int .i64 x.1) ∧ w'.cell? ⟨w.heap.size + 1, 1, none⟩ = some (.int .i64 x.2.1) ∧ w'.cell? ⟨w.heap.size + 1, 2, none⟩ = some (.int .i64 x.2.2)) (go_keep)
      (first | (go_at_call 38; refine (HFo _).out.mono ?_; rintro _ _ ⟨rfl, rfl⟩))
    all_goals
      go_wp2_with fail
      go_meet
      refine ⟨rfl, _, rfl, ?_⟩
    all_goals first
      | exact Lib.hid (HH3.out.drew.alloc (arrB x.2.1 x.2.2))
      | exact Lib.hid (HH3.out.alloc (arrB x.2.1 x.2.2)).drew
  case rest =>
    obtain ⟨rfl, g, rfl, HH4⟩ := hcut
    have HSz := Lib.hid hy2
    clear HH3 i0 i1 i2 HFo hbx3 hy2 hlf HO0
    go_wp2_with fail
    go_loopw [5, 20] (fun t k wq => ∃ k' : Nat, k = .int .i64 (k' : Int) ∧ k' ≤ y.size ∧ t = .int .u64 ((namedN p x k' : Nat) : Int) ∧ Hid (Hold w [(g, arrB x.2.1 x.2.2), (w.heap.size + 1, .cells #[.int .i64 x.1, .int .i64 x.2.1, .int .i64 x.2.2] 46), (w.heap.size, .cells #[.slice A p.ds.length ca, .slice B p.ws.length cb, .slice C p.fs.length cc] 26)] wq)) (fun _ k _ => y.size - (intOf k).toNat)
    case atStart => exact ⟨0, rfl, Nat.zero_le _, rfl, HH4⟩
    case round =>
      clear HH4
      obtain ⟨k, rfl, hk, rfl, HH4⟩ := hrel
      have hsz2 := HSz.out
      by_cases hkl : k < y.size
      · have hx0 := HH4.out.all _ (List.mem_cons_of_mem _ (List.mem_cons_of_mem _ (List.mem_cons_self ..)))
        have hx3 := HH4.out.all _ (List.mem_cons_self ..)
        obtain ⟨x0, x1, x2, -, -, -⟩ := cells3 hx0
        have l0 := arr_at hx3 (j := k) (by omega)
        have hyj : y[k] = y.data.toList.getD k 0 := letter_at hkl
        rw [HTx.out] at hyj
        have HE : Hid (namedN p x (k + 1) = if objV ((form x.1).getD k 0) = true then wth (namedN p x k) (opd x.2.1 x.2.2 k)
          else if (form x.1).getD k 0 = 119 ∧ 0 ≤ opd x.2.1 x.2.2 k ∧ opd x.2.1 x.2.2 k < (p.ws.length : Int) then namedN p x k ||| askedN (p.ws.getD (opd x.2.1 x.2.2 k).toNat []) 5
          else namedN p x k) := Lib.hid rfl
        have HS := Lib.hid (namedN_64 p x k)
        have HL : ∀ W : World, W.heap[g]? = some (arrB x.2.1 x.2.2) → W.cell? ⟨g, k, none⟩ = some (.int .i64 (opd x.2.1 x.2.2 k)) := fun W h => arr_at h (by omega)
        have HO2 := fun W => HOb ((form x.1).getD k 0) W
        generalize namedN p x k = s at *
        generalize (form x.1).getD k 0 = c at *
        generalize opd x.2.1 x.2.2 k = n at *
        have q3 : decide ((k : Int) < (y.size : Int)) = true := decide_eq_true (by omega)
        have k4 : (0 : Int) ≤ (k : Int) := by omega
        have k5 : (k : Int) < (y.size : Int) := by omega
        have k6 : (k : Int) < 2 := by omega
        clear hx0 hx3 HOb
        cases hob : objV c with
        | true =>
          have HE2 : Hid (namedN p x (k + 1) = wth s n) := Lib.hid (by rw [HE.out, if_pos hob])
          rw [hob] at HO2
          have HWi := fun W => Lib.hid (with_any s HS.out n W)
          clear HE hob
          go_wp2_with fail
          refine (HO2 _).mono ?_
          rintro _ _ ⟨rfl, -, rfl⟩
          go_wp2_with fail
          refine (HWi _).out.mono ?_
          rintro _ _ ⟨rfl, rfl⟩
          go_wp2
          go_roundw
          case rel => exact ⟨k + 1, by go_num, by omega, by rw [HE2.out], HH4⟩
          case measure => simp [intOf]; omega
        | false =>
          have HE1 := Lib.hid (HE.out.trans (if_neg (by rw [hob]; exact Bool.false_ne_true)))
          rw [hob] at HO2
          clear HE hob
          go_wp2_with fail
          refine (HO2 _).mono ?_
          rintro _ _ ⟨rfl, -, rfl⟩
          by_cases hc : c = 119
          · subst hc
            by_cases hq : 0 ≤ n ∧ n < (p.ws.length : Int)
            · have HB2 : ∀ W, Calls Tryd.prog 40 #[.int .i64 n, .int .i64 (p.ws.length : Int)] W fun e w' => e = .returned (.bool true) ∧ w' = W := fun W => (HBe n W).mono fun e w' ⟨h1, h2⟩ => ⟨by rw [h1, decide_eq_true hq], h2.symm⟩
              have HE2 : Hid (namedN p x (k + 1) = s ||| askedN (p.ws.getD n.toNat []) 5) := Lib.hid (by rw [HE1.out, if_pos ⟨rfl, hq.1, hq.2⟩])
              obtain ⟨j, rfl⟩ : ∃ j : Nat, n = (j : Int) := ⟨n.toNat, by omega⟩
              have hj : j < p.ws.length := by omega
              rw [Int.toNat_natCast] at HE2
              obtain ⟨bw, ow, Aj, cj, rfl, hbw, hcw, hWj⟩ := HBW.out j hj
              have hzw := Go.Proofs.YtbekfjjajggffaaDoor.need.chkW_zero (HWs.out _ (Go.Proofs.YtbekfjjajggffaaDoor.pgm.getD_in (d := []) hj))
              have hcw2 := (HH4.out.below.cell (p := ⟨bw, ow + j, none⟩) hbw).trans hcw
              have HAs := fun W h => Lib.hid (asked_any Aj cj (p.ws.getD j []) (by have := hzw.2.1; omega) (fun z hz => by have := (hzw.2.2 z hz).2.1; omega) W h)
              have HWj := Lib.hid hWj
              have b1 := or_u64 HS.out (askedN_64 (p.ws.getD j []) 5)
              generalize askedN (p.ws.getD j []) 5 = t at *
              generalize s ||| t = u at *
              generalize p.ws.getD j [] = lw at *
              have k7 : (0 : Int) ≤ (j : Int) := by omega
              have k8 : (j : Int) < (p.ws.length : Int) := by omega
              have HCw := Lib.hid hcw
              clear HE1 hq hzw hWj hcw HBe
              go_wp2_with fail
              go_quiet ((go_at_call 40; exact Calls.quiet_of_same (HB2 _)))
              go_wp2_with fail
              have HH5 := Lib.hid (HH4.out.drewN nq)
              generalize wr.drewN nq = w6 at *
              clear x0 x1 x2 l0 hcw2 HH4
              obtain ⟨x0, x1, x2, -, -, -⟩ := cells3 (HH5.out.all _ (List.mem_cons_of_mem _ (List.mem_cons_of_mem _ (List.mem_cons_self ..))))
              have l0 := HL _ (HH5.out.all _ (List.mem_cons_self ..))
              have hcw3 := (HH5.out.below.cell (p := ⟨bw, ow + j, none⟩) hbw).trans HCw.out
              have HAs2 : Hid (Calls Tryd.prog 41 #[.slice Aj lw.length cj] w6.drew fun e w' => e = .returned (.int .u64 (t : Int)) ∧ w'.cell? ⟨w.heap.size, 1, none⟩ = some (.slice (some ⟨bw, ow, none⟩) p.ws.length cb) ∧ w'.cell? ⟨g, k, none⟩ = some (.int .i64 (j : Int)) ∧ w'.cell? ⟨bw, ow + j, none⟩ = some (.slice Aj lw.length cj) ∧ Hid (Hold w [(g, arrB x.2.1 x.2.2), (w.heap.size + 1, .cells #[.int .i64 x.1, .int .i64 x.2.1, .int .i64 x.2.2] 46), (w.heap.size, .cells #[.slice A p.ds.length ca, .slice (some ⟨bw, ow, none⟩) p.ws.length cb, .slice C p.fs.length cc] 26)] w')) := Lib.hid <| by
                refine ((HAs _ (HWj.out.next HH5.out.below.drew)).out).mono ?_
                rintro _ w5 ⟨rfl, hb5⟩
                have hh := HH5.out.drew.next hb5
                obtain ⟨z0, z1, z2, -, -, -⟩ := cells3 (hh.all _ (List.mem_cons_of_mem _ (List.mem_cons_of_mem _ (List.mem_cons_self ..))))
                exact ⟨rfl, z1, HL _ (hh.all _ (List.mem_cons_self ..)), (hh.below.cell (p := ⟨bw, ow + j, none⟩) hbw).trans HCw.out, Lib.hid hh⟩
              clear HAs HWj
              go_region_held3 (fun w' => w'.cell? ⟨w.heap.size, 1, none⟩ = some (.slice (some ⟨bw, ow, none⟩) p.ws.length cb) ∧ w'.cell? ⟨g, k, none⟩ = some (.int .i64 (j : Int)) ∧ w'.cell? ⟨bw, ow + j, none⟩ = some (.slice Aj lw.length cj)) (go_keep)
                (first | (go_at_call 41; refine HAs2.out.mono ?_; rintro e w1 ⟨rfl, d0, d1, d2, HX⟩))
              all_goals
                go_wp2
                go_roundw
              all_goals first
                | exact ⟨k + 1, by go_num, by omega, by rw [HE2.out], HX⟩
                | (simp [intOf]; omega)
            · have HB2 : ∀ W, Calls Tryd.prog 40 #[.int .i64 n, .int .i64 (p.ws.length : Int)] W fun e w' => e = .returned (.bool false) ∧ w' = W := fun W => (HBe n W).mono fun e w' ⟨h1, h2⟩ => ⟨by rw [h1, decide_eq_false hq], h2.symm⟩
              have HE2 : Hid (namedN p x (k + 1) = s) := Lib.hid (by rw [HE1.out, if_neg (fun h => hq h.2)])
              clear HE1 hq HBe
              go_wp2_with fail
              go_quiet ((go_at_call 40; exact Calls.quiet_of_same (HB2 _)))
              go_wp2
              go_roundw
              case rel => exact ⟨k + 1, by go_num, by omega, by rw [HE2.out], Lib.hid (HH4.out.drewN _)⟩
              case measure => simp [intOf]; omega
          · have HE2 : Hid (namedN p x (k + 1) = s) := Lib.hid (by rw [HE1.out, if_neg (fun h => hc h.1)])
            have m4 : ((c.toNat : Int) == 119) = false := (letter_ne hc).1
            clear HE1 hc
            go_wp2_with fail
            go_quiet ((go_at_call 40; exact Calls.quiet_of_same (HBe _ _)))
            go_wp2
            go_roundw
            case rel => exact ⟨k + 1, by go_num, by omega, by rw [HE2.out], Lib.hid (HH4.out.drewN _)⟩
            case measure => simp [intOf]; omega
      · obtain rfl : k = y.size := by omega
        have q3 : decide ((y.size : Int) < (y.size : Int)) = false := decide_eq_false (by omega)
        have HB6 := Lib.hid HH4.out.below
        have er := HR.out
        rw [← HSf.out] at er
        subst er
        clear HH4 HBe HOb HR
        go_wp2
        go_ret
        exact ⟨rfl, HB6.out⟩
end Go.Proofs.YtbekfjjajggffaaDoor.pgm.ver

/-
  The program's calls on a set that make a list of it, or a set of a list. The list of a call lies in memory of its own. A list that comes in is read where it lies.
-/
namespace Go.Proofs.YtbekfjjajggffaaDoor.bits
open Go.RowKit Go.ChangeShapes

theorem infoInt : (Tryd.prog.info? 3).map (fun i => (i.zero, i.size, i.bytes)) = some (some (.int .i64 0), 1, 8) := by kernel_rfl

def icells (l : List Nat) : List Value := l.map fun n : Nat => Value.int .i64 (n : Int)
theorem icells_length (l : List Nat) : (icells l).length = l.length := by simp [icells]
theorem icells_append (l r : List Nat) : icells (l ++ r) = icells l ++ icells r := by simp [icells]

def lenOf : Value → Nat
  | .slice _ k _ => k
  | _ => 0

set_option maxRecDepth 100000 in
set_option maxHeartbeats 1000000 in
theorem list_any (s : Nat) (hs : Is64 s) (w : World) (hT : Tab w) (hg : 0 < w.heap.size) :
    Calls Tryd.prog 24 #[.int .u64 (s : Int)] w fun e w' => e = .returned (.slice (some ⟨w.heap.size, 0, none⟩) (els s).length (els s).length) ∧
      w'.ownsRow w.heap.size 3 1 (.slice (some ⟨w.heap.size, 0, none⟩) (els s).length (els s).length) (els s).length (icells (els s)) ∧ Below w.heap.size w w' := by
  obtain ⟨i0, hi, hz0, hz1, hz2⟩ := info_parts infoInt
  have hlen := els_length_le s
  have HT := Lib.hid hT
  clear hT
  go_enter Tryd.func24, Tryd.ntmps24
  go_wp2_with fail
  refine (count_any s hs _).mono ?_
  rintro e w1 ⟨rfl, rfl⟩
  go_wp2_with (at_make; refine wpList_make_own _ rfl _ _ 32 rfl w.heap.size 3 i0 (.int .i64 0) 1 Tryd.underlying32 hi hz0 hz1 .i64 .i64 _ (els s).length rfl rfl rfl ?b2 ?b3 (Nat.le_refl _) ?_)
  case b2 => rw [hz2]; omega
  case b3 => unfold maxLen; omega
  intro w1 hown1 hg1
  have HB1 := Lib.hid (Below.refl w.heap.size w |>.grown hg1 (by simp) (by simp))
  have HO1 := Lib.hid hown1
  clear hown1 hg1
  go_wp2_with fail
  refine (first_any s hs _ (HT.out.below HB1.out hg)).mono ?_
  rintro e w2 ⟨rfl, rfl⟩
  go_wp2_with fail
  generalize hN : (els s).length = N at *
  go_loopw [3, 4] (fun l n wr => ∃ k : Nat, k ≤ N ∧ l = .slice (some ⟨w.heap.size, 0, none⟩) k N ∧ n = .int .i64 (atI (els s) k) ∧ wr.ownsRow w.heap.size 3 1 (.slice (some ⟨w.heap.size, 0, none⟩) k N) k (icells ((els s).take k)) ∧ Below w.heap.size w wr) (fun l _ _ => N - lenOf l)
  case atStart => exact ⟨0, Nat.zero_le _, rfl, rfl, HO1.out, HB1.out⟩
  case round =>
    obtain ⟨k, hk, rfl, rfl, hown, hb⟩ := hrel
    have hz := hb.size
    by_cases hlt : k < N
    · have hkl : k < (els s).length := by omega
      obtain ⟨x, hx⟩ : ∃ x : Nat, (els s)[k]? = some x := ⟨_, List.getElem?_eq_getElem hkl⟩
      have hxa := atI_some hx
      have HX := Lib.hid hx
      have HN := Lib.hid (next_at hkl)
      rw [hxa] at HN
      rw [hxa]
      have HTr := Lib.hid (HT.out.below hb hg)
      have HB := Lib.hid hb
      have HO := Lib.hid hown
      have HL := Lib.hid hN
      clear hb hown hx hxa hkl hN
      have hne : ((x : Int) == -1) = false := by simp
      go_wp2_with (
        at_builtin
        refine wpList_append_fits _ rfl (.tmp 15) (.tmp 17) 32 rfl w.heap.size 3 i0 1 Tryd.underlying32 hi hz1 w.heap.size k N _ rfl (HO.out.alloc _)
          ⟨wr.heap.size, 0, none⟩ 1 1 [.int .i64 (x : Int)] rfl rfl ?c1 ?c2 ?c3 ?_)
      case c1 =>
        intro j u hu
        rcases j with _ | j
        · simp only [List.getElem?_cons_zero, Option.some.injEq] at hu
          subst hu
          exact cell_of_one (heap_alloc_new wr _)
        · simp at hu
      case c2 => intro u hu; simp only [List.mem_singleton] at hu; subst hu; rfl
      case c3 => omega
      intro w2 hown2 hg2
      have HB2 := Lib.hid ((HB.out.alloc hz (.cells #[.int .i64 (x : Int)] 3)).grown hg2 (by simp; omega) (by intro j hj; injection hj with hj; omega))
      have HO2 := Lib.hid hown2
      clear hown2 hg2
      go_wp2_with fail
      refine (next_any s hs _ _ (HT.out.below HB2.out hg)).mono ?_
      rw [HN.out]
      rintro e w3 ⟨rfl, rfl⟩
      go_wp2
      go_roundw
      case rel =>
        refine ⟨k + 1, by omega, rfl, rfl, ?_, HB2.out⟩
        have h := HO2.out
        rw [List.take_add_one, HX.out, icells_append]
        exact h
      case measure => simp [lenOf]; omega
    · obtain rfl : k = N := by omega
      rw [atI_none (l := els s) (k := k) (by omega)]
      have HB := Lib.hid hb
      have HO := Lib.hid hown
      have HL := Lib.hid hN
      clear hb hown hN
      go_wp2
      go_ret
      rw [HL.out]
      refine ⟨rfl, ?_, HB.out⟩
      have h := HO.out
      rw [List.take_of_length_le (by rw [HL.out]; exact Nat.le_refl _)] at h
      exact h
end Go.Proofs.YtbekfjjajggffaaDoor.bits

/-
  The plain mathematics of a set's text: its numbers in decimals, rising, with a comma between each two; and that a text that is read digit by digit gives back the set that it is of. It speaks of numbers and lists alone.
-/
namespace Go.Proofs.YtbekfjjajggffaaDoor.bits

/-- A number below 100 in decimals. -/
def dig (n : Nat) : List UInt8 := if n < 10 then [UInt8.ofNat (48 + n)] else [UInt8.ofNat (48 + n / 10), UInt8.ofNat (48 + n % 10)]
def txt : List Nat → List UInt8
  | [] => []
  | [a] => dig a
  | a :: b :: l => dig a ++ 44 :: txt (b :: l)
def text (s : Nat) : List UInt8 := if els s = [] then [45] else txt (els s)

/-- A number more, if it is one of those that may be. -/
def ins64 (s n : Nat) : Nat := if n < 64 then ins s n else s
/-- What the digits of a text say: the set so far, the number so far, how many digits it has. -/
def loose : List UInt8 → Nat → Nat → Nat → Nat
  | [], s, n, many => if 0 < many then ins64 s n else s
  | c :: t, s, n, many => if (48 ≤ c.toNat ∧ c.toNat ≤ 57) ∧ many < 3 then loose t s (10 * n + (c.toNat - 48)) (many + 1) else loose t (if 0 < many then ins64 s n else s) 0 0
def strict (t : List UInt8) : Nat × Bool := if text (loose t 0 0 0) = t then (loose t 0 0 0, true) else (0, false)

theorem loose_dig {a : Nat} (ha : a < 64) (r : List UInt8) (s : Nat) : ∃ m, 0 < m ∧ m ≤ 2 ∧ loose (dig a ++ r) s 0 0 = loose r s a m := by
  unfold dig
  by_cases h : a < 10
  · rw [if_pos h]
    have e : (UInt8.ofNat (48 + a)).toNat = 48 + a := by rw [UInt8.toNat_ofNat']; omega
    refine ⟨1, by omega, by omega, ?_⟩
    show loose (UInt8.ofNat (48 + a) :: r) s 0 0 = _
    rw [loose, if_pos ⟨by rw [e]; omega, by omega⟩, e]
    congr 1
    omega
  · rw [if_neg h]
    have e : (UInt8.ofNat (48 + a / 10)).toNat = 48 + a / 10 := by rw [UInt8.toNat_ofNat']; omega
    have e' : (UInt8.ofNat (48 + a % 10)).toNat = 48 + a % 10 := by rw [UInt8.toNat_ofNat']; omega
    refine ⟨2, by omega, by omega, ?_⟩
    show loose (UInt8.ofNat (48 + a / 10) :: UInt8.ofNat (48 + a % 10) :: r) s 0 0 = _
    rw [loose, if_pos ⟨by rw [e]; omega, by omega⟩, loose, if_pos ⟨by rw [e']; omega, by omega⟩, e, e']
    congr 1
    omega
theorem loose_txt (l : List Nat) : ∀ s, (∀ n ∈ l, n < 64) → loose (txt l) s 0 0 = l.foldl ins s := by
  induction l with
  | nil => intro s _; rfl
  | cons a l ih =>
    intro s h
    have ha : a < 64 := h a (List.mem_cons_self ..)
    cases l with
    | nil =>
      obtain ⟨m, h1, _, h2⟩ := loose_dig ha [] s
      rw [txt, ← List.append_nil (dig a), h2, loose, if_pos h1]
      unfold ins64
      rw [if_pos ha]
      rfl
    | cons b l =>
      obtain ⟨m, h1, _, h2⟩ := loose_dig ha (44 :: txt (b :: l)) s
      rw [txt, h2, loose, if_neg (fun hh => absurd hh.1.1 (by decide)), if_pos h1, ih _ fun n hn => h n (List.mem_cons_of_mem _ hn)]
      unfold ins64
      rw [if_pos ha]
      rfl
theorem loose_text {s : Nat} (hs : Is64 s) : loose (text s) 0 0 0 = s := by
  unfold text
  by_cases h : els s = []
  · rw [if_pos h]
    have h0 : ofs (els s) = s := ofs_els hs
    rw [h] at h0
    rw [← h0]
    rfl
  · rw [if_neg h, loose_txt _ 0 fun n hn => (mem_els.1 hn).1]
    exact ofs_els hs
/-- Each set comes back; and no two sets have one text. -/
theorem strict_text {s : Nat} (hs : Is64 s) : strict (text s) = (s, true) := by
  unfold strict
  rw [loose_text hs, if_pos rfl]
theorem text_inj {s t : Nat} (hs : Is64 s) (ht : Is64 t) (h : text s = text t) : s = t := by
  rw [← loose_text hs, ← loose_text ht, h]
theorem ins64_lt {s n : Nat} (hs : Is64 s) : Is64 (ins64 s n) := by
  unfold ins64
  split
  · exact ins_lt hs (by assumption)
  · exact hs
theorem loose_lt (t : List UInt8) : ∀ s n many, Is64 s → Is64 (loose t s n many) := by
  induction t with
  | nil =>
    intro s n many hs
    rw [loose]
    split
    · exact ins64_lt hs
    · exact hs
  | cons c t ih =>
    intro s n many hs
    rw [loose]
    split
    · exact ih _ _ _ hs
    · refine ih _ _ _ ?_
      split
      · exact ins64_lt hs
      · exact hs
/-- The set whose text it is, if it is one's. -/
theorem strict_yes {t : List UInt8} {s : Nat} (hs : Is64 s) (h : text s = t) : strict t = (s, true) := by rw [← h, strict_text hs]
theorem strict_no {t : List UInt8} (h : ∀ s, Is64 s → text s ≠ t) : strict t = (0, false) := by
  unfold strict
  rw [if_neg (h _ (loose_lt t 0 0 0 (by unfold Is64; omega)))]

end Go.Proofs.YtbekfjjajggffaaDoor.bits

/-
  Lists of numbers that lie in a block, and the set of a list. No condition.
-/
namespace Go.Proofs.YtbekfjjajggffaaDoor.bits
open Go.RowKit Go.ChangeShapes

/-- The numbers lie in block g, one behind the other. -/
def ListAt (w : World) (g : Nat) (l : List Nat) : Prop := ∃ cur, w.heap[g]? = some (.cells cur 3 (0, 0)) ∧ ∀ (j x : Nat), l[j]? = some x → cur[j]? = some (.int .i64 (x : Int))
theorem ListAt.lt {w : World} {g : Nat} {l : List Nat} (h : ListAt w g l) : g < w.heap.size := by
  obtain ⟨_, h, _⟩ := h
  exact lt_of_block h
theorem ListAt.kept {w w' : World} {g : Nat} {l : List Nat} (h : ListAt w g l) (hk : w'.heap[g]? = w.heap[g]?) : ListAt w' g l := by
  obtain ⟨c, h1, h2⟩ := h
  exact ⟨c, hk.trans h1, h2⟩
theorem ListAt.cell {w : World} {g : Nat} {l : List Nat} (h : ListAt w g l) {j x : Nat} (hx : l[j]? = some x) : w.cell? ⟨g, j, none⟩ = some (.int .i64 (x : Int)) := by
  obtain ⟨c, h1, h2⟩ := h
  have := h2 j x hx
  simp [World.cell?, h1, this]
theorem listAt_of {w : World} {base n : Nat} {g cap : Nat} {l : List Nat} (h : w.ownsRow base 3 1 (.slice (some ⟨g, 0, none⟩) n cap) n (icells l)) : ListAt w g l ∧ base ≤ g := by
  obtain ⟨hl, h⟩ := h
  rcases h with ⟨h, _⟩ | ⟨g', cap', cur, hv, hg, hh, h1, h2, h3, h4⟩
  · cases h
  · injection hv with e1 e2 e3
    injection e1 with e1
    injection e1 with e1 _ _
    subst e1
    refine ⟨⟨cur, hh, fun j x hx => ?_⟩, hg⟩
    have hj : (icells l)[j]? = some (.int .i64 (x : Int)) := by
      unfold icells
      rw [List.getElem?_map, hx]
      rfl
    rw [← h4, List.getElem?_take] at hj
    split at hj
    · rw [← Array.getElem?_toList]
      exact hj
    · cases hj

/-- The list of a set lies in a block of its own. -/
theorem list_lies (s : Nat) (hs : Is64 s) (w : World) (hT : Tab w) (hg : 0 < w.heap.size) :
    Calls Tryd.prog 24 #[.int .u64 (s : Int)] w fun e w' => e = .returned (.slice (some ⟨w.heap.size, 0, none⟩) (els s).length (els s).length) ∧ ListAt w' w.heap.size (els s) ∧ Below w.heap.size w w' :=
  (list_any s hs w hT hg).mono fun _ _ ⟨h1, h2, h3⟩ => ⟨h1, (listAt_of h2).1, h3⟩

/-- The set of a list, whatever numbers stand there. -/
def ofI (s : Nat) (l : List Int) : Nat := l.foldl wth s
theorem ofI_lt (l : List Int) : ∀ s, Is64 s → Is64 (ofI s l) := by
  induction l with
  | nil => intro s h; exact h
  | cons n l ih => intro s h; exact ih _ (wth_lt h n)
theorem ofI_take {l : List Int} {k : Nat} (h : k < l.length) (s : Nat) : ofI s (l.take (k + 1)) = wth (ofI s (l.take k)) l[k] := by
  unfold ofI
  rw [List.take_succ_eq_append_getElem h, List.foldl_append]
  rfl

/-- The numbers lie at a place of a block, one behind the other. -/
def RowAt (w : World) (b off : Nat) (l : List Int) : Prop := ∀ (j : Nat) (h : j < l.length), w.cell? ⟨b, off + j, none⟩ = some (.int .i64 l[j])
theorem RowAt.below {B : Nat} {w w' : World} {b off : Nat} {l : List Int} (h : RowAt w b off l) (hb : Below B w w') (hB : b < B) : RowAt w' b off l := fun j hj => (hb.cell (p := ⟨b, off + j, none⟩) hB).trans (h j hj)
end Go.Proofs.YtbekfjjajggffaaDoor.bits

/-
  What the statements on programs that may run ask of the program's calls, and their common end: whether a program may run, and another one may not. No condition.
-/
namespace Go.Proofs.YtbekfjjajggffaaDoor.pgm.ver
open Go.RowKit Go.ChangeShapes
open Go.Proofs.YtbekfjjajggffaaDoor.pgm
open Go.Proofs.YtbekfjjajggffaaDoor.objs (De zero DAt CellsAt cells3)
open Go.Proofs.YtbekfjjajggffaaDoor.inst (form opd)
open Go.Proofs.YtbekfjjajggffaaDoor.bits (Is64)
set_option linter.unusedVariables false

def I64 (n : Int) : Prop := -9223372036854775808 ≤ n ∧ n ≤ 9223372036854775807
/-- A program of which no list is long. -/
def SmallP (p : Pg) : Prop := p.ds.length ≤ 40 ∧ p.ws.length ≤ 40 ∧ p.fs.length ≤ 20 ∧ ∀ f ∈ p.fs, f.co.length ≤ 250
theorem small_pg {w : World} {v : Value} {p : Pg} (h : PG w v p) : SmallP p := by
  obtain ⟨A, B, C, na, nb, nc, ca, cb, cc, _, h0, _, h3, h4, _⟩ := h
  refine ⟨by omega, by have := h3.1; omega, by have := h4.1; omega, fun f hf => ?_⟩
  obtain ⟨j, hj, rfl⟩ := List.getElem_of_mem hf
  obtain ⟨_, _, _, _, _, _, _, _, _, h5, _⟩ := h4.2 j hj
  have e : p.fs.getD j Fn.zero = p.fs[j] := by rw [List.getD_eq_getElem?_getD, List.getElem?_eq_getElem hj]; rfl
  rw [e] at h5
  omega
theorem small_chk {p : Pg} (h : chkP p = 0) : SmallP p := by
  obtain ⟨g1, g2, g3, g4, g5, g6⟩ := chkP_zero h
  have g0 := (Go.Proofs.YtbekfjjajggffaaDoor.objs.chk_zero g1).1
  refine ⟨by omega, by omega, by omega, fun f hf => ?_⟩
  have := (chkFn_zero (g6 f hf)).2.2.1
  omega

def ProgPost (p : Pg) (w : World) (e : Ending) (w' : World) : Prop :=
  e = .returned (.tuple #[.agg #[.int .i64 ((progV p).1 : Int), .int .i64 ((progV p).2.1 : Int)], .int .i64 ((progV p).2.2 : Int)]) ∧ Below w.heap.size w w'
def SetPost (Q : Nat → Prop) (w : World) (e : Ending) (w' : World) : Prop := ∃ s : Nat, e = .returned (.int .u64 (s : Int)) ∧ Is64 s ∧ (∀ o, s.testBit o = true ↔ Q o) ∧ Below w.heap.size w w'
/-- What is asked of the program's calls, and of the world. -/
structure Keeps (Ok : World → Prop) : Prop where
  mono : ∀ w w', Ok w → Below w.heap.size w w' → Ok w'
  prog : ∀ v p w, Ok w → PAt w v p → SmallP p → Calls Tryd.prog 12 #[v] w (ProgPost p w)
  calls : ∀ v p fn w, Ok w → PAt w v p → chkP p = 0 → I64 fn → Calls Tryd.prog 7 #[v, .int .i64 fn] w (SetPost (Rcd p.fs fn) w)
  uses : ∀ v p fn w, Ok w → PAt w v p → chkP p = 0 → I64 fn → Calls Tryd.prog 9 #[v, .int .i64 fn] w (SetPost (Usd p fn) w)

/-- The programs that lives makes. -/
def liF (o : Int) : Fn := ⟨0, 0, [(o, 0, 0), (21, 0, 0)]⟩
def liP (o : Int) : Pg := ⟨[(3, 0, 1)], [], [liF o]⟩
theorem chk_a : chkP (liP 22) = 0 := by decide +kernel
theorem chk_b : chkP (liP 29) = 0 := by decide +kernel
theorem prog_a : progV (liP 22) = (0, 0, 0) := by decide +kernel
theorem prog_b : progV (liP 29) = (0, 0, 6) := by decide +kernel
theorem rcd_li {o : Int} {j : Nat} (h : Rcd (liP o).fs 0 j) : j = 0 := by
  have : j < 1 := h.lt
  omega
theorem use_a (o : Nat) : ¬ Usd (liP 22) 0 o := by
  rintro ⟨_, j, hj, x, hx, k, hk, _⟩
  obtain rfl := rcd_li hj
  have hx2 : x ∈ [((22 : Int), (0 : Int), (0 : Int)), (21, 0, 0)] := hx
  simp only [List.mem_cons, List.not_mem_nil, or_false] at hx2
  rcases hx2 with rfl | rfl
  · exact absurd hk (by rw [show (form 22).length = 0 from by decide +kernel]; omega)
  · exact absurd hk (by rw [show (form 21).length = 0 from by decide +kernel]; omega)
theorem use_b (o : Nat) : Usd (liP 29) 0 o ↔ o = 0 := by
  constructor
  · rintro ⟨_, j, hj, x, hx, k, hk, hn⟩
    obtain rfl := rcd_li hj
    have hx2 : x ∈ [((29 : Int), (0 : Int), (0 : Int)), (21, 0, 0)] := hx
    simp only [List.mem_cons, List.not_mem_nil, or_false] at hx2
    rcases hx2 with rfl | rfl
    · have hk0 : k = 0 := by
        rw [show (form 29).length = 1 from by decide +kernel] at hk
        omega
      subst hk0
      rcases hn with ⟨_, h⟩ | ⟨h, _⟩
      · have h0 : (0 : Int) = (o : Int) := h
        omega
      · rw [show (form 29).getD 0 0 = 117 from by decide +kernel] at h
        cases h
    · exact absurd hk (by rw [show (form 21).length = 0 from by decide +kernel]; omega)
  · rintro rfl
    refine ⟨by decide, 0, Rcd.self (fs := (liP 29).fs) (fn := 0) (by decide) (by decide), (29, 0, 0), by decide, 0, by decide +kernel, .inl ⟨by decide +kernel, rfl⟩⟩
theorem set_zero {s : Nat} (h : ∀ o, s.testBit o = true ↔ Usd (liP 22) 0 o) : s = 0 := by
  apply Nat.eq_of_testBit_eq
  intro i
  rw [Nat.zero_testBit]
  cases hs : s.testBit i with
  | false => rfl
  | true => exact absurd ((h i).1 hs) (use_a i)
theorem set_one {s : Nat} (h : ∀ o, s.testBit o = true ↔ Usd (liP 29) 0 o) : s = 1 := by
  apply Nat.eq_of_testBit_eq
  intro i
  have h1 := (h i).trans (use_b i)
  have h2 : (1 : Nat).testBit i = true ↔ i = 0 := by
    constructor
    · intro e
      cases i with
      | zero => rfl
      | succ i =>
        rw [Nat.testBit_succ] at e
        simp at e
    · rintro rfl
      rfl
  exact Bool.eq_iff_iff.2 (h1.trans h2.symm)

def dcB : Obj := .cells #[.int .i64 3, .int .i64 0, .int .i64 1] 48
def inB (o : Int) : Obj := .cells #[.int .i64 o, .int .i64 0, .int .i64 0, .int .i64 21, .int .i64 0, .int .i64 0] 46
def fnB (g : Nat) : Obj := .cells #[.int .i64 0, .int .i64 0, .slice (some ⟨g, 0, none⟩) 2 2] 44
def prB (d f : Nat) : Obj := .cells #[.slice (some ⟨d, 0, none⟩) 1 1, .slice none 0 0, .slice (some ⟨f, 0, none⟩) 1 1] 26
def liV (d f : Nat) : Value := .agg #[.slice (some ⟨d, 0, none⟩) 1 1, .slice none 0 0, .slice (some ⟨f, 0, none⟩) 1 1]
/-- The program that lives makes lies there, in four blocks. -/
structure Li (w : World) (o : Int) (W : World) : Prop where
  below : Below w.heap.size w W
  b0 : W.heap[w.heap.size]? = some dcB
  b1 : W.heap[w.heap.size + 1]? = some (inB o)
  b2 : W.heap[w.heap.size + 1 + 1]? = some (fnB (w.heap.size + 1))
  b3 : W.heap[w.heap.size + 1 + 1 + 1]? = some (prB w.heap.size (w.heap.size + 1 + 1))
theorem Li.next {w W W' : World} {o : Int} (h : Li w o W) (hb : Below W.heap.size W W') : Li w o W' :=
  ⟨h.below.trans (hb.mono h.below.size), (hb.block _ (lt_of_block h.b0)).trans h.b0, (hb.block _ (lt_of_block h.b1)).trans h.b1, (hb.block _ (lt_of_block h.b2)).trans h.b2, (hb.block _ (lt_of_block h.b3)).trans h.b3⟩
theorem cell_in {W : World} {g i : Nat} {cs : Array Value} {T : TypeId} {x : Value} (h : W.heap[g]? = some (.cells cs T)) (hx : cs[i]? = some x) : W.cell? ⟨g, i, none⟩ = some x := by
  unfold World.cell?
  rw [h]
  simpa using hx
theorem Li.at {w W : World} {o : Int} (h : Li w o W) : PAt W (liV w.heap.size (w.heap.size + 1 + 1)) (liP o) := by
  refine ⟨some ⟨w.heap.size, 0, none⟩, none, some ⟨w.heap.size + 1 + 1, 0, none⟩, 1, 0, 1, rfl, fun j hj => ?_, WsAt.nil _ _, fun j hj => ?_⟩
  · have hj2 : j < 1 := hj
    obtain rfl : j = 0 := by omega
    exact ⟨_, 0, rfl, lt_of_block h.b0, cell_in h.b0 rfl, cell_in h.b0 rfl, cell_in h.b0 rfl⟩
  · have hj2 : j < 1 := hj
    obtain rfl : j = 0 := by omega
    refine ⟨_, 0, some ⟨w.heap.size + 1, 0, none⟩, 2, rfl, lt_of_block h.b2, ⟨cell_in h.b2 rfl, cell_in h.b2 rfl, cell_in h.b2 rfl⟩, fun i hi => ?_⟩
    have hi2 : i < 2 := hi
    refine ⟨_, 0, rfl, lt_of_block h.b1, ?_⟩
    match i, hi2 with
    | 0, _ => exact ⟨cell_in h.b1 rfl, cell_in h.b1 rfl, cell_in h.b1 rfl⟩
    | 1, _ => exact ⟨cell_in h.b1 rfl, cell_in h.b1 rfl, cell_in h.b1 rfl⟩
theorem Li.start (w : World) (o : Int) : Li w o ((((w.alloc dcB).alloc (inB o)).alloc (fnB (w.heap.size + 1))).alloc (prB w.heap.size (w.heap.size + 1 + 1))) := by
  have z1 : (w.alloc dcB).heap.size = w.heap.size + 1 := World.size_alloc w _
  have z2 : ((w.alloc dcB).alloc (inB o)).heap.size = w.heap.size + 1 + 1 := by rw [World.size_alloc, World.size_alloc]
  have z3 : (((w.alloc dcB).alloc (inB o)).alloc (fnB (w.heap.size + 1))).heap.size = w.heap.size + 1 + 1 + 1 := by rw [World.size_alloc, World.size_alloc, World.size_alloc]
  refine ⟨((((Below.refl _ w).alloc (Nat.le_refl _) _).alloc (by omega) _).alloc (by omega) _).alloc (by omega) _, ?_, ?_, ?_, ?_⟩
  · exact (Below.heap_alloc _ _ _ (by omega)).trans ((Below.heap_alloc _ _ _ (by omega)).trans ((Below.heap_alloc _ _ _ (by omega)).trans (heap_alloc_new _ _)))
  · exact (Below.heap_alloc _ _ _ (by omega)).trans ((Below.heap_alloc _ _ _ (by omega)).trans (by rw [← z1]; exact heap_alloc_new _ _))
  · exact (Below.heap_alloc _ _ _ (by omega)).trans (by rw [← z2]; exact heap_alloc_new _ _)
  · rw [← z3]; exact heap_alloc_new _ _
/-- Another operation is stored ahead. -/
theorem Li.store {w W : World} {o : Int} (h : Li w o W) (q : Int) : Li w q (((W.setCell ⟨w.heap.size + 1, 0, none⟩ (.int .i64 q)).setCell ⟨w.heap.size + 1, 1, none⟩ (.int .i64 0)).setCell ⟨w.heap.size + 1, 2, none⟩ (.int .i64 0)) := by
  refine ⟨((h.below.setCell (p := ⟨w.heap.size + 1, 0, none⟩) (by show w.heap.size ≤ w.heap.size + 1; omega) _).setCell (p := ⟨w.heap.size + 1, 1, none⟩) (by show w.heap.size ≤ w.heap.size + 1; omega) _).setCell (p := ⟨w.heap.size + 1, 2, none⟩) (by show w.heap.size ≤ w.heap.size + 1; omega) _, ?_, ?_, ?_, ?_⟩
  · exact (Below.heap_setCell _ _ _ _ (by show w.heap.size ≠ w.heap.size + 1; omega)).trans ((Below.heap_setCell _ _ _ _ (by show w.heap.size ≠ w.heap.size + 1; omega)).trans ((Below.heap_setCell _ _ _ _ (by show w.heap.size ≠ w.heap.size + 1; omega)).trans h.b0))
  · have h1 := h.b1
    unfold inB at h1 ⊢
    simp [World.setCell, Array.getElem?_modify, h1]
  · exact (Below.heap_setCell _ _ _ _ (by show w.heap.size + 1 + 1 ≠ w.heap.size + 1; omega)).trans ((Below.heap_setCell _ _ _ _ (by show w.heap.size + 1 + 1 ≠ w.heap.size + 1; omega)).trans ((Below.heap_setCell _ _ _ _ (by show w.heap.size + 1 + 1 ≠ w.heap.size + 1; omega)).trans h.b2))
  · exact (Below.heap_setCell _ _ _ _ (by show w.heap.size + 1 + 1 + 1 ≠ w.heap.size + 1; omega)).trans ((Below.heap_setCell _ _ _ _ (by show w.heap.size + 1 + 1 + 1 ≠ w.heap.size + 1; omega)).trans ((Below.heap_setCell _ _ _ _ (by show w.heap.size + 1 + 1 + 1 ≠ w.heap.size + 1; omega)).trans h.b3))

set_option maxRecDepth 100000 in
set_option maxHeartbeats 8000000 in
theorem lives_any {Ok : World → Prop} (K : Keeps Ok) (w : World) (hw : Ok w) : Calls Tryd.prog 6 #[] w fun e w' => e = .returned (.bool true) ∧ Below w.heap.size w w' := by
  have HK := Lib.hid hw
  have HPr := fun v p W h1 h2 h3 => Lib.hid (K.prog v p W h1 h2 h3)
  have HUs := fun v p W h1 h2 h3 => Lib.hid (K.uses v p 0 W h1 h2 h3 ⟨by decide, by decide⟩)
  have HMo := Lib.hid K.mono
  unfold ProgPost at HPr
  unfold SetPost at HUs
  have HL0 := Lib.hid (Li.start w 22)
  unfold dcB inB fnB prB at HL0
  clear hw K
  go_enter Tryd.func6, Tryd.ntmps6
  go_upto_region 2 with fail
  generalize (((w.alloc (.cells #[.int .i64 3, .int .i64 0, .int .i64 1] 48)).alloc (.cells #[.int .i64 22, .int .i64 0, .int .i64 0, .int .i64 21, .int .i64 0, .int .i64 0] 46)).alloc (.cells #[.int .i64 0, .int .i64 0, .slice (some ⟨w.heap.size + 1, 0, none⟩) 2 2] 44)).alloc (.cells #[.slice (some ⟨w.heap.size, 0, none⟩) 1 1, .slice none 0 0, .slice (some ⟨w.heap.size + 1 + 1, 0, none⟩) 1 1] 26) = W0 at *
  have hb3 := HL0.out.b3
  unfold prB at hb3
  obtain ⟨x0, x1, x2, -, -, -⟩ := cells3 hb3
  have h1 := HPr _ _ _ (HMo.out _ _ HK.out HL0.out.below) HL0.out.at (small_chk chk_a)
  rw [prog_a] at h1
  unfold liV at h1
  go_wp2_with fail
  refine h1.out.mono ?_
  rintro _ w1 ⟨rfl, hb1⟩
  have HL1 := Lib.hid (HL0.out.next hb1)
  clear hb1 h1 HL0 x0 x1 x2 hb3
  have hb3 := HL1.out.b3
  unfold prB at hb3
  obtain ⟨x0, x1, x2, -, -, -⟩ := cells3 hb3
  go_upto_region 3 with fail
  have HL2 := Lib.hid (HL1.out.next ((Below.refl _ _).alloc (Nat.le_refl _) (.cells #[.int .i64 0, .int .i64 0] 37)))
  generalize w1.alloc (.cells #[.int .i64 0, .int .i64 0] 37) = w2 at *
  clear HL1 x0 x1 x2 hb3
  have hb3 := HL2.out.b3
  unfold prB at hb3
  obtain ⟨x0, x1, x2, -, -, -⟩ := cells3 hb3
  have h2 := HUs _ _ _ (HMo.out _ _ HK.out HL2.out.below) HL2.out.at chk_a
  unfold liV at h2
  go_wp2_with fail
  refine h2.out.mono ?_
  rintro _ w3 ⟨s, rfl, hs6, hsb, hb⟩
  obtain rfl := set_zero hsb
  have HL3 := Lib.hid (HL2.out.next hb)
  clear hb h2 HL2 x0 x1 x2 hb3 hsb hs6
  have hb3 := HL3.out.b3
  have hb2 := HL3.out.b2
  have hb1 := HL3.out.b1
  unfold prB at hb3
  unfold fnB at hb2
  obtain ⟨x0, x1, x2, -, -, -⟩ := cells3 hb3
  obtain ⟨y0, y1, y2, -, -, -⟩ := cells3 hb2
  have c0 : w3.cell? ⟨w.heap.size + 1, 0, none⟩ = some (.int .i64 22) := cell_in hb1 rfl
  have c1 : w3.cell? ⟨w.heap.size + 1, 1, none⟩ = some (.int .i64 0) := cell_in hb1 rfl
  have c2 : w3.cell? ⟨w.heap.size + 1, 2, none⟩ = some (.int .i64 0) := cell_in hb1 rfl
  have r0 : w3.frozen? ⟨w.heap.size + 1, 0, none⟩ = false := frozen_of_row w3 _ 0 _ _ hb1
  have r1 : w3.frozen? ⟨w.heap.size + 1, 1, none⟩ = false := frozen_of_row w3 _ 1 _ _ hb1
  have r2 : w3.frozen? ⟨w.heap.size + 1, 2, none⟩ = false := frozen_of_row w3 _ 2 _ _ hb1
  have HL4 := Lib.hid (HL3.out.store 29)
  go_upto_region 5 with fail
  generalize ((w3.setCell ⟨w.heap.size + 1, 0, none⟩ (.int .i64 29)).setCell ⟨w.heap.size + 1, 1, none⟩ (.int .i64 0)).setCell ⟨w.heap.size + 1, 2, none⟩ (.int .i64 0) = w4 at *
  clear HL3 x0 x1 x2 y0 y1 y2 c0 c1 c2 r0 r1 r2 hb3 hb2 hb1
  have hb3 := HL4.out.b3
  unfold prB at hb3
  obtain ⟨x0, x1, x2, -, -, -⟩ := cells3 hb3
  have h5 := HPr _ _ _ (HMo.out _ _ HK.out HL4.out.below) HL4.out.at (small_chk chk_b)
  rw [prog_b] at h5
  unfold liV at h5
  go_wp2_with fail
  refine h5.out.mono ?_
  rintro _ w5 ⟨rfl, hb⟩
  have HL5 := Lib.hid (HL4.out.next hb)
  clear hb h5 HL4 x0 x1 x2 hb3
  go_upto_region 6 with fail
  have HL6 := Lib.hid (HL5.out.next ((Below.refl _ _).alloc (Nat.le_refl _) (.cells #[.int .i64 0, .int .i64 0] 37)))
  have hx6 := heap_alloc_new w5 (.cells #[.int .i64 0, .int .i64 0] 37)
  generalize w5.alloc (.cells #[.int .i64 0, .int .i64 0] 37) = w6 at *
  generalize w5.heap.size = bw at *
  obtain ⟨v0, v1⟩ := cells2 hx6
  have hb3 := HL6.out.b3
  unfold prB at hb3
  obtain ⟨x0, x1, x2, -, -, -⟩ := cells3 hb3
  have h7 := HUs _ _ _ (HMo.out _ _ HK.out HL6.out.below) HL6.out.at chk_b
  unfold liV at h7
  clear HL5
  go_wp2_with fail
  refine h7.out.mono ?_
  rintro _ w7 ⟨s, rfl, hs6, hsb, hb⟩
  obtain rfl := set_one hsb
  have HL7 := Lib.hid (HL6.out.next hb)
  clear hb h7 hsb hs6 HL6
  go_wp2
  go_ret
  exact ⟨rfl, HL7.out.below⟩
end Go.Proofs.YtbekfjjajggffaaDoor.pgm.ver
