/-
  The walk's call that goes to a place (typed over the code of 5351f23). Of at most 200 instructions.
-/
import Derived.Test.YtjlmgoaglpkhoaaHMem
import Derived.Test.YtjlmgoaglpkhoaaSpan
import Derived.RegionTactic
import Derived.ChangeAlike
namespace Go.Proofs.Ytjlmgoaglpkhoaa.pgm.dep
open Go.RowKit Go.ChangeShapes
open Go.Proofs.Ytjlmgoaglpkhoaa.pgm
open Go.Proofs.Ytjlmgoaglpkhoaa.span (within_any)
set_option linter.unusedVariables false

set_option maxRecDepth 100000 in
set_option maxHeartbeats 2000000 in
theorem reach_any (W : World) (bw bd ba n : Nat) (vF : Value) (C : Option Addr) (cc : Nat) (z : Z) (pl er d : Int) (t : Nat) (h : Wk W bw bd ba n vF (.slice C n cc) z pl er) (hn : n ≤ 200) (hle : z.le ≤ 200) (ht : t ≤ 1000) (hd : -1 < d) :
    Calls Try.prog 25 #[.pointer (some ⟨bw, 0, none⟩), .int .i64 (t : Int), .int .i64 d] W fun e w' => e = .returned (.int .i64 ((reachZ n d z t).2 : Int)) ∧ Wk w' bw bd ba n vF (.slice C n cc) (reachZ n d z t).1 pl er ∧ Trn bw bd ba W w' := by
  obtain ⟨-, c1, c2, c3, c4, -, -, d4, -, -⟩ := h.cells
  have HWi := fun W => Lib.hid (within_any (t : Int) 0 ((n : Int) - 1) W)
  have HS := Lib.hid h
  unfold reachZ
  by_cases hlt : n ≤ t
  · rw [if_pos hlt]
    rw [decide_eq_false (fun hh => by omega)] at HWi
    clear h
    go_enter Try.func25, Try.ntmps25
    go_wp2_with fail
    refine (HWi _).out.mono ?_
    rintro e w1 ⟨rfl, rfl⟩
    go_wp2
    go_ret
    exact ⟨rfl, HS.out, Trn.refl _ _ _ _⟩
  · rw [if_neg hlt]
    have htn : t < n := by omega
    rw [decide_eq_true (by omega)] at HWi
    obtain ⟨x0, y0⟩ := h.depth htn
    have h0 : (0 : Int) ≤ (t : Int) := by omega
    have h1 : (t : Int) < (n : Int) := by omega
    by_cases he : z.dp.getD t (-1) = -1
    · rw [if_pos he]
      rw [he] at x0
      obtain ⟨u0, v0⟩ := h.yes htn
      generalize z.ah.getD t false = ob at *
      have HD := Lib.hid ((((h.deep t d).mark t true).drew))
      have HT := Lib.hid ((((Trn.refl bw bd ba W).setCell (p := ⟨bd, t, none⟩) (.inr (.inl rfl)) (.int .i64 d)).setCell (p := ⟨ba, t, none⟩) (.inr (.inr rfl)) (.bool true)).drew)
      have n3 := h.n3
      have n4 := Ne.symm n3
      clear h he hlt
      go_enter Try.func25, Try.ntmps25
      go_wp2_with fail
      refine (HWi _).out.mono ?_
      rintro e w1 ⟨rfl, rfl⟩
      go_wp2
      go_region
      generalize ((W.setCell ⟨bd, t, none⟩ (.int .i64 d)).setCell ⟨ba, t, none⟩ (.bool true)).drew = W1 at *
      clear c1 c2 c3 c4 d4 x0 y0 u0 v0
      obtain ⟨-, -, c2, -, c4, -, -, d4, -, -⟩ := HD.out.cells
      obtain ⟨x0, -⟩ := HD.out.depth htn
      have ld := HD.out.ld
      rw [List.length_set] at ld
      have ex : (z.dp.set t d).getD t (-1) = d := by rw [getD_set, if_pos ⟨rfl, by omega⟩]
      have x1 : W1.cell? ⟨bd, t, none⟩ = some (.int .i64 d) := x0.trans (by rw [ex])
      have n1 := HD.out.n1
      have n2 := Ne.symm n1
      have HL : Hid (∀ m : Nat, m = min z.le t → Wk (W1.setCell ⟨bw, 4, none⟩ (.int .i64 (m : Int))) bw bd ba n vF (.slice C n cc) ⟨z.dp.set t d, z.ah.set t true, min z.le t⟩ pl er) := Lib.hid fun m hm => by
        rw [← hm]
        exact HD.out.least m
      have HU := Lib.hid (fun m : Nat => HT.out.setCell (p := ⟨bw, 4, none⟩) (.inl rfl) (.int .i64 (m : Int)))
      have q1 : (d != d) = false := by simp
      clear x0 ex HD HT ld
      go_wp2
      all_goals go_ret
      all_goals first
        | exact ⟨rfl, HL.out z.le (by omega), HU.out z.le⟩
        | exact ⟨rfl, HL.out t (by omega), HU.out t⟩
    · rw [if_neg he]
      have q0 : (z.dp.getD t (-1) == -1) = false := by simpa using he
      by_cases hq : z.dp.getD t (-1) = d
      · rw [if_neg (fun hh => hh hq)]
        rw [hq] at x0 q0
        have q1 : (d != d) = false := by simp
        clear h he hlt hq
        go_enter Try.func25, Try.ntmps25
        go_wp2_with fail
        refine (HWi _).out.mono ?_
        rintro e w1 ⟨rfl, rfl⟩
        go_wp2
        go_ret
        exact ⟨rfl, HS.out, Trn.refl _ _ _ _⟩
      · rw [if_pos hq]
        have q1 : (z.dp.getD t (-1) != d) = true := by simpa using hq
        clear h he hlt hq
        generalize z.dp.getD t (-1) = x at *
        go_enter Try.func25, Try.ntmps25
        go_wp2_with fail
        refine (HWi _).out.mono ?_
        rintro e w1 ⟨rfl, rfl⟩
        go_wp2
        go_ret
        exact ⟨rfl, HS.out, Trn.refl _ _ _ _⟩
end Go.Proofs.Ytjlmgoaglpkhoaa.pgm.dep
