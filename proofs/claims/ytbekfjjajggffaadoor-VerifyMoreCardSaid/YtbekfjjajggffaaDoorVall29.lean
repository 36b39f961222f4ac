/-
  Texts of one claim in one file: HLook. Each has its own sentence, with its conditions.
-/
import Derived.Test.YtbekfjjajggffaaDoorVall28
import Derived.Test.YtbekfjjajggffaaDoorVall19
import Derived.StillTailTactics
/-
  The walk's call that looks at an instruction (typed over the code of 5351f23). The instructions may be, and are at most 200; the functions' arguments are from 0 to 8; the depth is from 0 to 16.
-/
namespace Go.Proofs.YtbekfjjajggffaaDoor.pgm.dep
open Go.RowKit Go.ChangeShapes
open Go.Proofs.YtbekfjjajggffaaDoor.pgm
open Go.Proofs.YtbekfjjajggffaaDoor.objs (De zero DAt cells3)
open Go.Proofs.YtbekfjjajggffaaDoor.oper (pops numb ly insBox goes_any goesB)
set_option linter.unusedVariables false

theorem reachZ_le (n : Nat) (d : Int) (z : Z) (t : Nat) : (reachZ n d z t).1.le ≤ z.le := by
  unfold reachZ
  split
  · exact Nat.le_refl _
  · split
    · exact Nat.min_le_left _ _
    · split <;> exact Nat.le_refl _

set_option maxRecDepth 100000 in
set_option maxHeartbeats 8000000 in
theorem look_any (W : World) (bw bd ba n : Nat) (F : Option Addr) (cf : Nat) (fs : List Fn) (C : Option Addr) (cc : Nat) (co : List De) (z : Z) (pl er : Int) (a : Nat) (h : Wk W bw bd ba n (.slice F fs.length cf) (.slice C n cc) z pl er) (hF : FsAt W F fs) (hl : fs.length ≤ 16) (hf : ∀ f ∈ fs, 0 ≤ f.ar ∧ f.ar ≤ 8)
    (hC : DAt W C co) (hn : co.length = n) (hn2 : n ≤ 200) (ha : a < n) (hle : z.le ≤ 200) (hx : chkI (co.getD a zero) = 0) (h0 : 0 ≤ z.dp.getD a (-1)) (h1 : z.dp.getD a (-1) ≤ 16) :
    Calls Tryd.prog 65 #[.pointer (some ⟨bw, 0, none⟩), .int .i64 (a : Int)] W fun e w' => e = .returned (.int .i64 ((lookZ n fs (co.getD a zero) a z).2 : Int)) ∧ Wk w' bw bd ba n (.slice F fs.length cf) (.slice C n cc) (lookZ n fs (co.getD a zero) a z).1 pl er ∧ Trn bw bd ba W w' := by
  obtain ⟨-, c1, c2, -, -, -, -, -, -, -⟩ := h.cells
  obtain ⟨x0, -⟩ := h.depth ha
  obtain ⟨b1, o1, rfl, hb1, d0, d1, d2⟩ := hC a (by rw [hn]; exact ha)
  have hlt := h.lt
  have hpl := fun h => place_small hx h
  obtain ⟨r, hr⟩ : ∃ r, r = lookZ n fs (co.getD a zero) a z := ⟨_, rfl⟩
  rw [← hr]
  unfold lookZ at hr
  have hk := (Go.Proofs.YtbekfjjajggffaaDoor.inst.chk_zero hx).1
  have hb0 : Below W.heap.size W (W.alloc (insBox (co.getD a zero).1 (co.getD a zero).2.1 (co.getD a zero).2.2)) := (Below.refl _ W).alloc (Nat.le_refl _) _
  have HBe := Lib.hid (behind_any ((W.alloc (insBox (co.getD a zero).1 (co.getD a zero).2.1 (co.getD a zero).2.2)).drew) bw bd ba n F cf fs (.slice (some ⟨b1, o1, none⟩) n cc) z pl er (z.dp.getD a (-1)) (co.getD a zero) (h.next hb0).drew ((hF.next hb0).next ((Below.refl _ _).drew)) hl hf hx h0 h1)
  have hx0 := heap_alloc_new W (insBox (co.getD a zero).1 (co.getD a zero).2.1 (co.getD a zero).2.2)
  have HW0 := Lib.hid (h.next hb0)
  have HS0 : Hid ((W.alloc (insBox (co.getD a zero).1 (co.getD a zero).2.1 (co.getD a zero).2.2)).heap.size = W.heap.size + 1) := Lib.hid (World.size_alloc _ _)
  have HB0 := Lib.hid hb0
  have HD : Hid ((behindE fs (co.getD a zero) (z.dp.getD a (-1))).2 = 0 → -1 < (behindE fs (co.getD a zero) (z.dp.getD a (-1))).1) := Lib.hid fun e => by
    have := ((behind_zero (fs := fs) (x := co.getD a zero) (d := z.dp.getD a (-1)) (lays_small _).1).2 e).2.1
    have := ((behind_zero (fs := fs) (x := co.getD a zero) (d := z.dp.getD a (-1)) (lays_small _).1).2 e).1
    omega
  generalize hdd : z.dp.getD a (-1) = dd at *
  generalize co.getD a zero = x at *
  generalize behindE fs x dd = be at *
  obtain ⟨o, p, q⟩ := x
  obtain ⟨v, ev⟩ := be
  dsimp only at *
  have HDD := Lib.hid hdd
  clear hdd
  have HR := Lib.hid hr
  have HPl := Lib.hid hpl
  have HLt := Lib.hid hlt
  have g0 : (0 : Int) ≤ (a : Int) := by omega
  have g1 : (a : Int) < (n : Int) := by omega
  unfold insBox at HBe hx0 HW0 HS0 HB0
  clear h hF hC hx hr hpl hlt hk hb0
  go_enter Tryd.func65, Tryd.ntmps65
  go_wp2_with fail
  generalize hW0 : W.alloc (.cells #[.int .i64 o, .int .i64 p, .int .i64 q] 46) = W0 at *
  clear hW0 c1 c2 x0 d0 d1 d2
  obtain ⟨-, -, c2, -, -, -, -, -, -, -⟩ := HW0.out.cells
  obtain ⟨x0, -⟩ := HW0.out.depth ha
  rw [HDD.out] at x0
  obtain ⟨i0, i1, i2, -, -, -⟩ := cells3 hx0
  go_region_with (go_at_call 76; refine HBe.out.mono ?_; rintro e w' ⟨rfl, hb⟩)
  all_goals
    have HW2 := Lib.hid (HW0.out.drew.next hb)
    have hx2 := (hb.block _ (lt_of_block hx0)).trans hx0
    have HX2 := Lib.hid hx2
    have HT2 : Hid (Trn bw bd ba W w') := Lib.hid (Trn.of_below (HB0.out.drew.trans (hb.mono HB0.out.size)))
    clear c2 x0 i0 i1 i2 hb HBe HW0 HB0 hx0
    obtain ⟨i0, i1, i2, -, -, -⟩ := cells3 hx2
    clear hx2
    by_cases he : ev = 0
    · subst he
      have hv := HD.out rfl
      have HGo := fun W => Lib.hid (goes_any o W)
      have hrr := HR.out
      rw [if_neg (fun e => e rfl)] at hrr
      unfold goZ at hrr
      dsimp only at hrr
      have HR1 := Lib.hid hrr
      have HRe := fun W z t h hle ht => Lib.hid (reach_any W bw bd ba n (.slice F fs.length cf) (some ⟨b1, o1, none⟩) cc z pl er v t h hn2 hle ht hv)
      clear hrr HR
      rw [show ((0 : Nat) : Int) = 0 from rfl]
      cases hg : goesB o with
      | true =>
        rw [hg] at HGo
        have HR2 := HR1.out
        rw [if_pos hg] at HR2
        have HRa := HRe w' z (a + 1) HW2.out hle (by omega)
        have e1 : ((a + 1 : Nat) : Int) = (a : Int) + 1 := by omega
        rw [e1] at HRa
        have HLe := Lib.hid (reachZ_le n v z (a + 1))
        generalize reachZ n v z (a + 1) = ra at *
        obtain ⟨z1, ea⟩ := ra
        dsimp only at *
        have HR3 := Lib.hid HR2
        clear HR1 HR2 hg
        go_wp2_with fail
        refine (HGo _).out.mono ?_
        rintro _ _ ⟨rfl, rfl⟩
        go_wp2_with fail
        refine HRa.out.mono ?_
        rintro _ w3 ⟨rfl, hw3, ht3⟩
        have hlt2 := HW2.out.lt
        have HX3 := (ht3.block _ (lt_of_block HX2.out) (by have := HLt.out; omega) (by have := HLt.out; omega) (by have := HLt.out; omega)).trans HX2.out
        have HW3 := Lib.hid hw3
        have HT3 := Lib.hid (HT2.out.and ht3)
        clear hw3 ht3 HRa i0 i1 i2 HX2 HW2 HT2
        obtain ⟨i0, i1, i2, -, -, -⟩ := cells3 HX3
        clear HX3
        by_cases hea : ea = 0
        · subst hea
          rw [show ((0 : Nat) : Int) = 0 from rfl]
          have HR4 := HR3.out
          rw [if_neg (fun e => e rfl)] at HR4
          by_cases hj : o = 18 ∨ o = 19
          · rw [if_pos hj] at HR4
            obtain ⟨p0, p1⟩ := HPl.out hj
            obtain ⟨t, rfl⟩ : ∃ t : Nat, p = (t : Int) := ⟨p.toNat, by omega⟩
            rw [Int.toNat_natCast] at HR4
            have HRb := HRe w3 z1 t HW3.out (by have := HLe.out; omega) (by omega)
            subst HR4
            rcases hj with hj | hj
            · subst hj
              go_wp2_with fail
              refine HRb.out.mono ?_
              rintro _ w4 ⟨rfl, hw4, ht4⟩
              go_wp2
              go_ret
              exact ⟨rfl, hw4, HT3.out.and ht4⟩
            · subst hj
              go_wp2_with fail
              refine HRb.out.mono ?_
              rintro _ w4 ⟨rfl, hw4, ht4⟩
              go_wp2
              go_ret
              exact ⟨rfl, hw4, HT3.out.and ht4⟩
          · rw [if_neg hj] at HR4
            subst HR4
            have q1 : (o == 18) = false := by simpa using (fun e => hj (.inl e))
            have q2 : (o == 19) = false := by simpa using (fun e => hj (.inr e))
            clear hj
            go_wp2
            go_ret
            exact ⟨rfl, HW3.out, HT3.out⟩
        · have HR4 := HR3.out
          rw [if_pos hea] at HR4
          subst HR4
          have q1 : ((ea : Int) != 0) = true := by simpa using hea
          clear hea
          go_wp2
          go_ret
          exact ⟨rfl, HW3.out, HT3.out⟩
      | false =>
        rw [hg] at HGo
        have HR4 := HR1.out
        rw [if_neg (by rw [hg]; decide)] at HR4
        clear HR1 hg
        go_wp2_with fail
        refine (HGo _).out.mono ?_
        rintro _ _ ⟨rfl, rfl⟩
        by_cases hj : o = 18 ∨ o = 19
        · rw [if_pos hj] at HR4
          obtain ⟨p0, p1⟩ := HPl.out hj
          obtain ⟨t, rfl⟩ : ∃ t : Nat, p = (t : Int) := ⟨p.toNat, by omega⟩
          rw [Int.toNat_natCast] at HR4
          have HRb := HRe w' z t HW2.out hle (by omega)
          subst HR4
          rcases hj with hj | hj
          · subst hj
            go_wp2_with fail
            refine HRb.out.mono ?_
            rintro _ w4 ⟨rfl, hw4, ht4⟩
            go_wp2
            go_ret
            exact ⟨rfl, hw4, HT2.out.and ht4⟩
          · subst hj
            go_wp2_with fail
            refine HRb.out.mono ?_
            rintro _ w4 ⟨rfl, hw4, ht4⟩
            go_wp2
            go_ret
            exact ⟨rfl, hw4, HT2.out.and ht4⟩
        · rw [if_neg hj] at HR4
          subst HR4
          have q1 : (o == 18) = false := by simpa using (fun e => hj (.inl e))
          have q2 : (o == 19) = false := by simpa using (fun e => hj (.inr e))
          clear hj
          go_wp2
          go_ret
          exact ⟨rfl, HW2.out, HT2.out⟩
    · have hrr := HR.out
      rw [if_pos he] at hrr
      subst hrr
      have q1 : ((ev : Int) != 0) = true := by simpa using he
      clear he
      go_wp2
      go_ret
      exact ⟨rfl, HW2.out, HT2.out⟩
end Go.Proofs.YtbekfjjajggffaaDoor.pgm.dep
