/-
  The document's own answers that list a set, or look through its list: its numbers, the next one, all moved, the set of a list. No condition.
-/
import Derived.Test.YtiekbbknmneikaaBRef
import Derived.Test.YtiekbbknmneikaaBAt
namespace Go.Proofs.Ytiekbbknmneikaa.bits
open Go.RowKit Go.ChangeShapes

/-- Those of the first j numbers that are in it. -/
def upto (s j : Nat) : List Nat := (List.range j).filter fun n => s.testBit n
theorem upto_succ (s j : Nat) : upto s (j + 1) = upto s j ++ (if s.testBit j then [j] else []) := by
  unfold upto
  rw [List.range_succ, List.filter_append]
  congr 1
  by_cases h : s.testBit j = true
  · rw [if_pos h, List.filter_cons_of_pos h]; rfl
  · rw [if_neg h, List.filter_cons_of_neg h]; rfl
theorem upto_length_le (s j : Nat) : (upto s j).length ≤ j := by
  unfold upto
  have := List.length_filter_le (fun n => s.testBit n) (List.range j)
  simpa using this

set_option maxRecDepth 100000 in
set_option maxHeartbeats 1000000 in
theorem refList_any (s : Nat) (hs : Is64 s) (w : World) :
    Calls Try.prog 24 #[.int .u64 (s : Int)] w fun e w' => ∃ g cap, e = .returned (.slice (some ⟨g, 0, none⟩) (els s).length cap) ∧ ListAt w' g (els s) ∧ Below w.heap.size w w' ∧ w.heap.size ≤ g := by
  obtain ⟨i0, hi, hz0, hz1, hz2⟩ := info_parts infoInt
  have HB0 := Lib.hid ((Below.refl w.heap.size w).alloc (Nat.le_refl _) (.cells #[] 3))
  have HO0 : Hid ((w.alloc (.cells #[] 3)).ownsRow w.heap.size 3 1 (.slice (some ⟨w.heap.size, 0, none⟩) 0 0) 0 []) := Lib.hid (World.ownsRow_made w #[] 0 (Nat.le_refl _) (by unfold maxLen; omega) rfl)
  go_enter Try.func24, Try.ntmps24
  go_wp2
  go_loopw [0, 3, 4] (fun t l i wr => ∃ j x g cap : Nat, j ≤ 64 ∧ i = .int .i64 (j : Int) ∧ t = .int .u64 (x : Int) ∧ Is64 x ∧ Hid (x = s / 2 ^ j) ∧ l = .slice (some ⟨g, 0, none⟩) (upto s j).length cap ∧
    wr.ownsRow w.heap.size 3 1 (.slice (some ⟨g, 0, none⟩) (upto s j).length cap) (upto s j).length (icells (upto s j)) ∧ Below w.heap.size w wr) (fun _ _ i _ => 64 - (intOf i).toNat)
  case atStart => exact ⟨0, s, w.heap.size, 0, by omega, rfl, rfl, hs, Lib.hid (by simp), rfl, HO0.out, HB0.out⟩
  case round =>
    obtain ⟨j, x, g, cap, hj, rfl, rfl, hx, HE, rfl, hown, hb⟩ := hrel
    have hz := hb.size
    have hul := upto_length_le s j
    have HU := Lib.hid (upto_succ s j)
    have HO := Lib.hid hown
    have HB := Lib.hid hb
    have HTB : Hid (s.testBit j = decide (x % 2 = 1)) := Lib.hid (by rw [HE.out, testBit_div])
    have HH := Lib.hid (half_val hx)
    have hx2 : Is64 (x / 2) := by unfold Is64 at *; omega
    have HEE : Hid (j = 64 → upto s j = els s) := Lib.hid (fun h => by subst h; rfl)
    clear hown hb
    generalize upto s j = u at *
    by_cases hlt : j < 64
    · by_cases ho : x % 2 = 1
      · have hodd : (((x : Int) % 2) == 1) = true := by rw [odd_eq]; simp [ho]
        have HU1 : Hid (upto s (j + 1) = u ++ [j]) := Lib.hid (by rw [HU.out, HTB.out, decide_eq_true ho]; rfl)
        clear HU HTB ho
        go_wp2_with (
          at_builtin
          refine wpList_append_own _ rfl (.tmp 13) (.tmp 15) 41 rfl w.heap.size 3 i0 _ 1 8 Try.underlying41 hi hz0 hz1 hz2 rfl (by omega) _ u.length _ rfl (HO.out.alloc _)
            ⟨wr.heap.size, 0, none⟩ 1 1 [.int .i64 (j : Int)] rfl rfl ?c1 ?c2 ?c3 ?c4 ?c5 ?_)
        case c1 =>
          intro i u hu
          rcases i with _ | i
          · simp only [List.getElem?_cons_zero, Option.some.injEq] at hu
            subst hu
            exact cell_of_one (heap_alloc_new wr _)
          · simp at hu
        case c2 => intro u hu; simp only [List.mem_singleton] at hu; subst hu; rfl
        case c3 => unfold maxLen; omega
        case c4 => omega
        case c5 => simp; omega
        intro v2 w2 hown2 hg2 hv2
        have hb2 := (HB.out.alloc hz (.cells #[.int .i64 (j : Int)] 3)).grown hg2 (by simp; omega) (fun k hk => (HO.out.lt k hk).1)
        obtain ⟨g2, cap2, rfl⟩ : ∃ g2 cap2, v2 = .slice (some ⟨g2, 0, none⟩) (u.length + 1) cap2 := by
          rcases hown2.2 with ⟨_, h⟩ | ⟨g2, cap2, _, h, _⟩
          · omega
          · exact ⟨g2, cap2, h⟩
        have HO2 := Lib.hid hown2
        have HB2 := Lib.hid hb2
        clear hown2 hg2 hb2 hv2
        go_wp2
        go_roundw
        case rel =>
          have hl : (upto s (j + 1)).length = u.length + 1 := by rw [HU1.out]; simp
          refine ⟨j + 1, x / 2, g2, cap2, by omega, by go_num, HH.out, hx2, Lib.hid (by rw [HE.out, half_pow]), by rw [hl], ?_, HB2.out⟩
          rw [hl, HU1.out, icells_append]
          exact HO2.out
        case measure => simp [intOf]; omega
      · have hodd : (((x : Int) % 2) == 1) = false := by rw [odd_eq]; simp [ho]
        have HU1 : Hid (upto s (j + 1) = u) := Lib.hid (by rw [HU.out, HTB.out, decide_eq_false ho]; simp)
        clear HU HTB ho
        go_wp2
        go_roundw
        case rel =>
          refine ⟨j + 1, x / 2, g, cap, by omega, by go_num, HH.out, hx2, Lib.hid (by rw [HE.out, half_pow]), by rw [HU1.out], ?_, HB.out⟩
          rw [HU1.out]
          exact HO.out
        case measure => simp [intOf]; omega
    · obtain rfl : u = els s := HEE.out (by omega)
      obtain rfl : j = 64 := by omega
      clear HU HEE HTB HH
      go_wp2
      go_ret
      obtain ⟨h1, h2⟩ := listAt_of HO.out
      exact ⟨g, cap, rfl, h1, HB.out, h2⟩

theorem next_found {s : Nat} {n : Int} {k x : Nat} (hx : (els s)[k]? = some x) (h : n < (x : Int)) (hall : ∀ j, j < k → atI (els s) j ≤ n) : nextI s n = (x : Int) := by
  unfold nextI
  obtain ⟨hkl, hxe⟩ := List.getElem?_eq_some_iff.1 hx
  have e : els s = (els s).take k ++ x :: (els s).drop (k + 1) := by
    rw [← hxe, ← List.drop_eq_getElem_cons hkl, List.take_append_drop]
  have e1 : ((els s).take k).filter (fun m : Nat => decide (n < (m : Int))) = [] := by
    rw [List.filter_eq_nil_iff]
    intro m hm
    obtain ⟨j, hj, he⟩ := List.getElem_of_mem hm
    rw [List.length_take] at hj
    have h1 := hall j (by omega)
    rw [atI_lt (by omega)] at h1
    rw [List.getElem_take] at he
    rw [he] at h1
    simp
    omega
  rw [e, List.filter_append, e1, List.nil_append, List.filter_cons_of_pos (by simpa using h)]
  rfl
theorem next_none {s : Nat} {n : Int} (hall : ∀ j, j < (els s).length → atI (els s) j ≤ n) : nextI s n = -1 := by
  unfold nextI
  have e1 : (els s).filter (fun m : Nat => decide (n < (m : Int))) = [] := by
    rw [List.filter_eq_nil_iff]
    intro m hm
    obtain ⟨j, hj, he⟩ := List.getElem_of_mem hm
    have h1 := hall j hj
    rw [atI_lt hj, he] at h1
    simp
    omega
  rw [e1]
  rfl

end Go.Proofs.Ytiekbbknmneikaa.bits
