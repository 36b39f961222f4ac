/-
  The walk's small calls, each by itself (typed over the code of 5351f23): how many arguments a function has, what stands there behind an instruction, where it goes, what it blames. The functions' arguments are from 0 to 8.
-/
import Derived.Test.YtjlmgoaglpkhoaaHMem
import Derived.Test.YtjlmgoaglpkhoaaSpan
import Derived.Test.YtjlmgoaglpkhoaaPProg
import Derived.Test.YtjlmgoaglpkhoaaPPops
import Derived.BigQuiet
import Derived.Deep.QuietTactic
namespace Go.Proofs.Ytjlmgoaglpkhoaa.pgm.dep
open Go.RowKit Go.ChangeShapes
open Go.Proofs.Ytjlmgoaglpkhoaa.pgm
open Go.Proofs.Ytjlmgoaglpkhoaa.objs (De zero DAt cells3)
open Go.Proofs.Ytjlmgoaglpkhoaa.oper (pops numb ly insBox pops_any pushes_yes pushes_no goes_any goesB)
open Go.Proofs.Ytjlmgoaglpkhoaa.span (within_any)
set_option linter.unusedVariables false

/-- How many arguments the function of a number has; 0: there is no such one. -/
def argsAt (fs : List Fn) (a : Int) : Int := if 0 ≤ a ∧ a ≤ (fs.length : Int) - 1 then (fs.getD a.toNat Fn.zero).ar else 0

set_option maxRecDepth 100000 in
set_option maxHeartbeats 2000000 in
theorem args_any (W : World) (bw bd ba n : Nat) (C : Option Addr) (cf : Nat) (fs : List Fn) (vC : Value) (z : Z) (pl er a : Int) (h : Wk W bw bd ba n (.slice C fs.length cf) vC z pl er) (hF : FsAt W C fs) (hl : fs.length ≤ 16) :
    Calls Try.prog 37 #[.pointer (some ⟨bw, 0, none⟩), .int .i64 a] W fun e w' => e = .returned (.int .i64 (argsAt fs a)) ∧ W = w' := by
  obtain ⟨c0, -, -, -, -, -, -, -, -, -⟩ := h.cells
  have HWi := fun W => Lib.hid (within_any a 0 ((fs.length : Int) - 1) W)
  unfold argsAt
  by_cases hc : 0 ≤ a ∧ a ≤ (fs.length : Int) - 1
  · rw [if_pos hc]
    rw [decide_eq_true hc] at HWi
    obtain ⟨j, rfl⟩ : ∃ j : Nat, a = (j : Int) := ⟨a.toNat, by omega⟩
    rw [Int.toNat_natCast]
    have hj : j < fs.length := by omega
    obtain ⟨g, off, Aj, cj, rfl, hg, ⟨f0, _, _⟩, _⟩ := hF j hj
    generalize (fs.getD j Fn.zero).ar = r at *
    have h0 : (0 : Int) ≤ (j : Int) := by omega
    have h1 : (j : Int) < (fs.length : Int) := by omega
    clear hc h hF
    go_enter Try.func37, Try.ntmps37
    go_wp2_with fail
    refine (HWi _).out.mono ?_
    rintro e w1 ⟨rfl, rfl⟩
    go_wp2
    go_ret
    exact ⟨rfl, rfl⟩
  · rw [if_neg hc]
    rw [decide_eq_false hc] at HWi
    clear hc h hF
    go_enter Try.func37, Try.ntmps37
    go_wp2_with fail
    refine (HWi _).out.mono ?_
    rintro e w1 ⟨rfl, rfl⟩
    go_wp2
    go_ret
    exact ⟨rfl, rfl⟩

set_option maxRecDepth 100000 in
set_option maxHeartbeats 2000000 in
theorem blame_any (W : World) (bw bd ba n : Nat) (vF vC : Value) (z : Z) (pl er : Int) (a e : Nat) (h : Wk W bw bd ba n vF vC z pl er) :
    Calls Try.prog 17 #[.pointer (some ⟨bw, 0, none⟩), .int .i64 (a : Int), .int .i64 (e : Int)] W fun x w' => x = .returned (.tuple #[]) ∧ Wk w' bw bd ba n vF vC z (blameZ pl er a e).1 (blameZ pl er a e).2 ∧ Trn bw bd ba W w' := by
  obtain ⟨-, -, -, -, -, c5, c6, -, d5, d6⟩ := h.cells
  have HW := Lib.hid (h.wrong (a : Int) (e : Int))
  have HT := Lib.hid (((Trn.refl bw bd ba W).setCell (p := ⟨bw, 5, none⟩) (.inl rfl) (.int .i64 (a : Int))).setCell (p := ⟨bw, 6, none⟩) (.inl rfl) (.int .i64 (e : Int)))
  have HS := Lib.hid h
  unfold blameZ
  by_cases he : e = 0
  · subst he
    rw [if_neg (fun hh => hh.1 rfl), show ((0 : Nat) : Int) = 0 from rfl]
    clear h HW HT
    go_enter Try.func17, Try.ntmps17
    go_wp2
    go_end0
    exact ⟨rfl, HS.out, Trn.refl _ _ _ _⟩
  · have q0 : ((e : Int) != 0) = true := by simpa using he
    by_cases h0 : er = 0
    · rw [if_pos ⟨he, .inl h0⟩]
      have q1 : (er == 0) = true := by simpa using h0
      clear h he h0
      go_enter Try.func17, Try.ntmps17
      go_wp2
      go_end0
      exact ⟨rfl, HW.out, HT.out⟩
    · have q1 : (er == 0) = false := by simpa using h0
      by_cases hl : (a : Int) < pl
      · rw [if_pos ⟨he, .inr hl⟩]
        have q2 : decide ((a : Int) < pl) = true := decide_eq_true hl
        clear h he h0
        go_enter Try.func17, Try.ntmps17
        go_wp2
        go_end0
        exact ⟨rfl, HW.out, HT.out⟩
      · rw [if_neg (fun hh => by rcases hh.2 with h3 | h3; exact h0 h3; exact hl h3)]
        have q2 : decide ((a : Int) < pl) = false := decide_eq_false hl
        clear h he h0 HW HT
        go_enter Try.func17, Try.ntmps17
        go_wp2
        go_end0
        exact ⟨rfl, HS.out, Trn.refl _ _ _ _⟩
end Go.Proofs.Ytjlmgoaglpkhoaa.pgm.dep
