/-
  The program's calls on a set that make a list of it, or a set of a list. The list of a call lies in memory of its own. A list that comes in is read where it lies.
-/
import Derived.Test.YtjedinodopcdaaaDoorBCount
import Derived.OneCell
import Derived.Laws.Rows
import Derived.Laws.AppendOwn
import Derived.OwnWalk
import Derived.Deep.LoopGhost
namespace Go.Proofs.YtjedinodopcdaaaDoor.bits
open Go.RowKit Go.ChangeShapes

theorem infoInt : (Tryd.prog.info? 3).map (fun i => (i.zero, i.size, i.bytes)) = some (some (.int .i64 0), 1, 8) := by kernel_rfl

def icells (l : List Nat) : List Value := l.map fun n : Nat => Value.int .i64 (n : Int)
theorem icells_length (l : List Nat) : (icells l).length = l.length := by simp [icells]
theorem icells_append (l r : List Nat) : icells (l ++ r) = icells l ++ icells r := by simp [icells]

def lenOf : Value → Nat
  | .slice _ k _ => k
  | _ => 0

set_option maxRecDepth 100000 in
set_option maxHeartbeats 1000000 in
theorem list_any (s : Nat) (hs : Is64 s) (w : World) (hT : Tab w) (hg : 0 < w.heap.size) :
    Calls Tryd.prog 33 #[.int .u64 (s : Int)] w fun e w' => e = .returned (.slice (some ⟨w.heap.size, 0, none⟩) (els s).length (els s).length) ∧
      w'.ownsRow w.heap.size 3 1 (.slice (some ⟨w.heap.size, 0, none⟩) (els s).length (els s).length) (els s).length (icells (els s)) ∧ Below w.heap.size w w' := by
  obtain ⟨i0, hi, hz0, hz1, hz2⟩ := info_parts infoInt
  have hlen := els_length_le s
  have HT := Lib.hid hT
  clear hT
  go_enter Tryd.func33, Tryd.ntmps33
  go_wp2_with fail
  refine (count_any s hs _).mono ?_
  rintro e w1 ⟨rfl, rfl⟩
  go_wp2_with (at_make; refine wpList_make_own _ rfl _ _ 60 rfl w.heap.size 3 i0 (.int .i64 0) 1 Tryd.underlying60 hi hz0 hz1 .i64 .i64 _ (els s).length rfl rfl rfl ?b2 ?b3 (Nat.le_refl _) ?_)
  case b2 => rw [hz2]; omega
  case b3 => unfold maxLen; omega
  intro w1 hown1 hg1
  have HB1 := Lib.hid (Below.refl w.heap.size w |>.grown hg1 (by simp) (by simp))
  have HO1 := Lib.hid hown1
  clear hown1 hg1
  go_wp2_with fail
  refine (first_any s hs _ (HT.out.below HB1.out hg)).mono ?_
  rintro e w2 ⟨rfl, rfl⟩
  go_wp2_with fail
  generalize hN : (els s).length = N at *
  go_loopw [3, 4] (fun l n wr => ∃ k : Nat, k ≤ N ∧ l = .slice (some ⟨w.heap.size, 0, none⟩) k N ∧ n = .int .i64 (atI (els s) k) ∧ wr.ownsRow w.heap.size 3 1 (.slice (some ⟨w.heap.size, 0, none⟩) k N) k (icells ((els s).take k)) ∧ Below w.heap.size w wr) (fun l _ _ => N - lenOf l)
  case atStart => exact ⟨0, Nat.zero_le _, rfl, rfl, HO1.out, HB1.out⟩
  case round =>
    obtain ⟨k, hk, rfl, rfl, hown, hb⟩ := hrel
    have hz := hb.size
    by_cases hlt : k < N
    · have hkl : k < (els s).length := by omega
      obtain ⟨x, hx⟩ : ∃ x : Nat, (els s)[k]? = some x := ⟨_, List.getElem?_eq_getElem hkl⟩
      have hxa := atI_some hx
      have HX := Lib.hid hx
      have HN := Lib.hid (next_at hkl)
      rw [hxa] at HN
      rw [hxa]
      have HTr := Lib.hid (HT.out.below hb hg)
      have HB := Lib.hid hb
      have HO := Lib.hid hown
      have HL := Lib.hid hN
      clear hb hown hx hxa hkl hN
      have hne : ((x : Int) == -1) = false := by simp
      go_wp2_with (
        at_builtin
        refine wpList_append_fits _ rfl (.tmp 15) (.tmp 17) 60 rfl w.heap.size 3 i0 1 Tryd.underlying60 hi hz1 w.heap.size k N _ rfl (HO.out.alloc _)
          ⟨wr.heap.size, 0, none⟩ 1 1 [.int .i64 (x : Int)] rfl rfl ?c1 ?c2 ?c3 ?_)
      case c1 =>
        intro j u hu
        rcases j with _ | j
        · simp only [List.getElem?_cons_zero, Option.some.injEq] at hu
          subst hu
          exact cell_of_one (heap_alloc_new wr _)
        · simp at hu
      case c2 => intro u hu; simp only [List.mem_singleton] at hu; subst hu; rfl
      case c3 => omega
      intro w2 hown2 hg2
      have HB2 := Lib.hid ((HB.out.alloc hz (.cells #[.int .i64 (x : Int)] 3)).grown hg2 (by simp; omega) (by intro j hj; injection hj with hj; omega))
      have HO2 := Lib.hid hown2
      clear hown2 hg2
      go_wp2_with fail
      refine (next_any s hs _ _ (HT.out.below HB2.out hg)).mono ?_
      rw [HN.out]
      rintro e w3 ⟨rfl, rfl⟩
      go_wp2
      go_roundw
      case rel =>
        refine ⟨k + 1, by omega, rfl, rfl, ?_, HB2.out⟩
        have h := HO2.out
        rw [List.take_add_one, HX.out, icells_append]
        exact h
      case measure => simp [lenOf]; omega
    · obtain rfl : k = N := by omega
      rw [atI_none (l := els s) (k := k) (by omega)]
      have HB := Lib.hid hb
      have HO := Lib.hid hown
      have HL := Lib.hid hN
      clear hb hown hN
      go_wp2
      go_ret
      rw [HL.out]
      refine ⟨rfl, ?_, HB.out⟩
      have h := HO.out
      rw [List.take_of_length_le (by rw [HL.out]; exact Nat.le_refl _)] at h
      exact h
end Go.Proofs.YtjedinodopcdaaaDoor.bits
