/-
  The text of a set, as the program tells it. The table of math/bits must lie where its initialiser lays it.
-/
import Derived.Test.YtlpdilkenbjajaaDoorBList
import Derived.Test.YtlpdilkenbjajaaDoorBText
import Derived.Test.YtlpdilkenbjajaaDoorBAt
import Derived.Test.YtlpdilkenbjajaaDoorShelf
import Derived.Laws.IdiomStrings
namespace Go.Proofs.YtlpdilkenbjajaaDoor.bits
open Go.RowKit Go.ChangeShapes

theorem ListAt.others {w w' : World} {g : Nat} {l : List Nat} (h : ListAt w g l) (ho : Lib.OthersKept 5 none w w') : ListAt w' g l := by
  obtain ⟨c, h1, h2⟩ := h
  refine ⟨c, ho g _ h1 (by simp) ?_, h2⟩
  intro c' fz e
  injection e with _ e2 _
  exact absurd e2 (by decide)
theorem ListAt.grown {w w' : World} {g base n : Nat} {l : List Nat} {v : Value} {xs : List Value} (h : ListAt w g l) (o : Obj) (hown : w.ownsRow base 5 1 v n xs) (hg : (w.alloc o).grownBy w' v.ownBlock) : ListAt w' g l := by
  have hlt := h.lt
  refine h.kept ?_
  rw [hg.block g (by simp; omega) ?_, Below.heap_alloc _ _ _ hlt]
  intro e
  obtain ⟨c, h1, _⟩ := h
  rcases hown.2 with ⟨rfl, _⟩ | ⟨g', cap, cur, rfl, _, hh, _⟩
  · cases e
  · injection e with e
    subst e
    rw [h1] at hh
    injection hh with hh
    injection hh with _ hh _
    exact absurd hh (by decide)

theorem dig_dec : ∀ u, u < 100 → dig u = Lib.decDigits u := by
  intro u hu
  unfold dig
  rw [Lib.decDigits]
  split
  · rfl
  · rw [Lib.decDigits, dif_pos (by omega)]
    rfl
theorem dig_length_le (u : Nat) : (dig u).length ≤ 2 := by
  unfold dig
  split <;> simp

set_option maxHeartbeats 400000 in
theorem app_any (B n u : Nat) (hu : u < 64) (sv : Value) (xs : List Value) (w : World) (hown : w.ownsRow B 5 1 sv n xs) (hB : B ≤ w.heap.size) (hlim : n + 20 ≤ 140737488355328) :
    Calls Tryd.prog 14 #[sv, .int .i64 (u : Int), .int .i64 10] w fun e w' => ∃ v', e = .returned v' ∧ w'.ownsRow B 5 1 v' (n + (dig u).length) (xs ++ Lib.byteCells (dig u)) ∧ Below B w w' ∧ Lib.OthersKept 5 none w w' := by
  have H := Lib.hid (Tryd.internal_strconv_AppendUint_10_small B n u (by omega) sv xs w hown hB hlim)
  rw [← dig_dec u (by omega)] at H
  have HI : Hid (Calls Tryd.prog 26 #[sv, .int .i64 (u : Int), .int .i64 10] w fun e w' => ∃ v', e = .returned v' ∧ w'.ownsRow B 5 1 v' (n + (dig u).length) (xs ++ Lib.byteCells (dig u)) ∧ Below B w w' ∧ Lib.OthersKept 5 none w w') := by
    clear hown
    go_enter Tryd.func26, Tryd.ntmps26
    go_wp2_with fail
    refine H.out.mono ?_
    rintro e w1 ⟨v, rfl, h1, h2, h3⟩
    have H1 := Lib.hid h1
    clear h1
    go_wp2
    go_ret
    exact ⟨v, rfl, H1.out, h2, h3⟩
  clear hown H
  go_enter Tryd.func14, Tryd.ntmps14
  go_wp2_with fail
  refine HI.out.mono ?_
  rintro e w1 ⟨v, rfl, h1, h2, h3⟩
  have H1 := Lib.hid h1
  clear h1
  go_wp2
  go_ret
  exact ⟨v, rfl, H1.out, h2, h3⟩

/-- One number more. -/
theorem txt_snoc (l : List Nat) (a : Nat) : txt (l ++ [a]) = txt l ++ ((if l = [] then [] else [44]) ++ dig a) := by
  induction l with
  | nil => rfl
  | cons b l ih =>
    cases l with
    | nil =>
      show dig b ++ 44 :: dig a = dig b ++ ([44] ++ dig a)
      rfl
    | cons c l =>
      show dig b ++ 44 :: txt ((c :: l) ++ [a]) = (dig b ++ 44 :: txt (c :: l)) ++ _
      rw [ih]
      simp
theorem txt_take {l : List Nat} {k a : Nat} (h : l[k]? = some a) : txt (l.take (k + 1)) = txt (l.take k) ++ ((if k = 0 then [] else [44]) ++ dig a) := by
  rw [List.take_add_one, h]
  show txt (l.take k ++ [a]) = _
  rw [txt_snoc]
  have hk : k < l.length := by
    rcases Nat.lt_or_ge k l.length with h1 | h1
    · exact h1
    · rw [List.getElem?_eq_none h1] at h
      cases h
  by_cases h0 : k = 0
  · subst h0; simp
  · rw [if_neg h0, if_neg]
    intro e
    have := congrArg List.length e
    rw [List.length_take] at this
    simp only [List.length_nil] at this
    omega
theorem txt_length_le (l : List Nat) : (txt l).length ≤ 3 * l.length := by
  induction l with
  | nil => simp [txt]
  | cons a l ih =>
    have hd := dig_length_le a
    cases l with
    | nil => rw [txt]; simp; omega
    | cons b l =>
      rw [txt]
      simp only [List.length_append, List.length_cons] at ih ⊢
      omega
theorem bytes_append (l r : List UInt8) : Lib.byteCells (l ++ r) = Lib.byteCells l ++ Lib.byteCells r := by simp [Lib.byteCells]

theorem run_own_string {w : World} {base : Nat} {v : Value} {l : List UInt8} (h : w.ownsRow base 5 1 v l.length (Lib.byteCells l)) :
    (convert 37 9 v).run Tryd.prog w = .ok (.string ⟨l.toArray⟩) w := by
  rcases h.2 with ⟨rfl, h0⟩ | ⟨g, cap, cur, rfl, hg⟩
  · have : l = [] := List.eq_nil_of_length_eq_zero h0
    subst this
    rw [run_convert_bytes_string w 37 9 5 none 0 0 Tryd.underlying37 Tryd.underlying5 Tryd.underlying9]
    rfl
  · exact run_convert_bytes_back w 37 9 5 ⟨g, 0, none⟩ cap l Tryd.underlying37 Tryd.underlying5 Tryd.underlying9 (fun j hj => by
      refine World.ownsRow.cells h (g := g) rfl j _ ?_
      simp [Lib.byteCells, List.getElem?_eq_getElem hj])
theorem own_slice {w : World} {base : Nat} {e : TypeId} {size n : Nat} {v : Value} {xs : List Value} (h : w.ownsRow base e size v n xs) : ∃ A m c, v = .slice A m c := by
  rcases h.2 with ⟨rfl, _⟩ | ⟨g, cap, cur, rfl, _⟩
  · exact ⟨_, _, _, rfl⟩
  · exact ⟨_, _, _, rfl⟩
theorem infoByte : (Tryd.prog.info? 5).map (fun i => (i.zero, i.size, i.bytes)) = some (some (.int .u8 0), 1, 1) := by kernel_rfl

set_option maxHeartbeats 1000000 in
theorem text_any (s : Nat) (hs : Is64 s) (w : World) (hT : Tab w) (hg : 1 < w.heap.size) :
    Calls Tryd.prog 6 #[.int .u64 (s : Int)] w fun e w' => e = .returned (.string ⟨(text s).toArray⟩) ∧ Below w.heap.size w w' := by
  by_cases h0 : s = 0
  · subst h0
    rw [show text 0 = [45] from by unfold text; rw [if_pos els_zero], show ((0 : Nat) : Int) = 0 from rfl]
    go_enter Tryd.func6, Tryd.ntmps6
    go_wp2
    go_ret
    exact ⟨rfl, Below.refl _ _⟩
  · have hd : ((s : Int) == 0) = false := by simp [h0]
    have hne : els s ≠ [] := fun h => h0 ((els_nil hs).1 h)
    have HX : Hid (text s = txt (els s)) := Lib.hid (by unfold text; rw [if_neg hne])
    rw [HX.out]
    clear HX hne h0
    obtain ⟨i0, hi, hz0, hz1, hz2⟩ := info_parts infoByte
    have hlen := els_length_le s
    have HT := Lib.hid (hT.below ((Below.refl w.heap.size w).alloc (Nat.le_refl _) (.cells #[] 5)) hg)
    have HB := Lib.hid ((Below.refl w.heap.size w).alloc (Nat.le_refl _) (.cells #[] 5))
    have HO : Hid ((w.alloc (.cells #[] 5)).ownsRow w.heap.size 5 1 (.slice (some ⟨w.heap.size, 0, none⟩) 0 0) 0 []) := Lib.hid (World.ownsRow_made w #[] 0 (Nat.le_refl _) (by unfold maxLen; omega) rfl)
    have HS : Hid ((w.alloc (.cells #[] 5)).heap.size = w.heap.size + 1) := Lib.hid (by simp)
    clear hT
    go_enter Tryd.func6, Tryd.ntmps6
    go_wp2_with fail
    refine (list_lies s hs _ HT.out (by have := HS.out; omega)).mono ?_
    rintro e w1 ⟨rfl, hl1, hb1⟩
    rw [HS.out] at hl1 hb1 ⊢
    have HO1 : Hid (w1.ownsRow w.heap.size 5 1 (.slice (some ⟨w.heap.size, 0, none⟩) 0 0) 0 []) := Lib.hid (by
      have h := HO.out
      have hk := hb1.block w.heap.size (by omega)
      rcases h.2 with h5 | ⟨g, cap, cur, hv, hg', hh, r⟩
      · exact ⟨h.1, .inl h5⟩
      · refine ⟨h.1, .inr ⟨g, cap, cur, hv, hg', ?_, r⟩⟩
        injection hv with e1 _ _
        injection e1 with e1
        injection e1 with e1 _ _
        subst e1
        rw [hk]
        exact hh)
    have HB1 := Lib.hid (HB.out.trans (hb1.mono (by omega)))
    have HL1 := Lib.hid hl1
    clear HO HB HT hl1 hb1
    go_wp2_with fail
    generalize hN : (els s).length = N at *
    have HN := Lib.hid hN
    clear hN
    go_loopw [3, 12] (fun b i wr => ∃ k : Nat, k ≤ N ∧ i = .int .i64 (k : Int) ∧ wr.ownsRow w.heap.size 5 1 b (txt ((els s).take k)).length (Lib.byteCells (txt ((els s).take k))) ∧ ListAt wr (w.heap.size + 1) (els s) ∧ Below w.heap.size w wr) (fun _ i _ => N - (intOf i).toNat)
    case atStart => exact ⟨0, Nat.zero_le _, rfl, HO1.out, HL1.out, HB1.out⟩
    case round =>
      obtain ⟨k, hk, rfl, hown, hl, hb⟩ := hrel
      have hz := hb.size
      by_cases hlt : k < N
      · obtain ⟨x, hx⟩ : ∃ x : Nat, (els s)[k]? = some x := ⟨_, List.getElem?_eq_getElem (by rw [HN.out]; exact hlt)⟩
        have hc := hl.cell hx
        have hx64 := els_get_lt hx
        have HTX := Lib.hid (txt_take hx)
        have hll := txt_length_le ((els s).take k)
        have htk : ((els s).take k).length ≤ k := List.length_take_le _ _
        have HLN : Hid ((txt ((els s).take k)).length + 30 ≤ 140737488355328) := Lib.hid (by omega)
        have HB := Lib.hid hb
        have HO := Lib.hid hown
        have HL := Lib.hid hl
        clear hb hown hl hx hll htk
        by_cases hk0 : k = 0
        · have HTX0 : Hid (txt ((els s).take (k + 1)) = txt ((els s).take k) ++ dig x) := Lib.hid (by rw [HTX.out, if_pos hk0]; rfl)
          subst hk0
          clear HTX
          generalize txt (List.take 0 (els s)) = pre at *
          go_wp2_with fail
          refine (app_any _ _ x hx64 _ _ _ HO.out hz (by have := HLN.out; omega)).mono ?_
          rintro e w2 ⟨v2, rfl, hown2, hb2, ho2⟩
          have HO2 := Lib.hid hown2
          have HB2 := Lib.hid (HB.out.trans hb2)
          have HL2 := Lib.hid (HL.out.others ho2)
          clear hown2 hb2 ho2
          go_wp2
          go_roundw
          case rel =>
            refine ⟨0 + 1, by omega, by go_num, ?_, HL2.out, HB2.out⟩
            have h := HO2.out
            rw [HTX0.out, List.length_append, bytes_append]
            exact h
          case measure => simp [intOf]; omega
        · have HTX0 : Hid (txt ((els s).take (k + 1)) = txt ((els s).take k) ++ [44] ++ dig x) := Lib.hid (by rw [HTX.out, if_neg hk0, List.append_assoc])
          have hkp : 0 < k := by omega
          clear HTX hk0
          generalize txt (List.take k (els s)) = pre at *
          go_wp2_with (
            at_builtin
            refine wpList_append_own _ rfl (.tmp 19) (.tmp 20) _ rfl w.heap.size 5 i0 _ 1 1 Tryd.underlying37 hi hz0 hz1 hz2 rfl (by omega) _ pre.length (Lib.byteCells pre) rfl (HO.out.alloc _)
              ⟨wr.heap.size, 0, none⟩ 1 1 [.int .u8 44] rfl rfl ?c1 ?c2 ?c3 ?c4 ?c5 ?_)
          case c1 =>
            intro j u hu
            rcases j with _ | j
            · simp only [List.getElem?_cons_zero, Option.some.injEq] at hu
              subst hu
              exact cell_of_one (heap_alloc_new wr _)
            · simp at hu
          case c2 => intro u hu; simp only [List.mem_singleton] at hu; subst hu; rfl
          case c3 => have := HLN.out; simp only [maxLen]; omega
          case c4 => have := HLN.out; omega
          case c5 => simp; omega
          intro v1 w1' hown1 hg1 _
          have HB1' := Lib.hid ((HB.out.alloc hz (.cells #[.int .u8 44] 5)).grown hg1 (by simp; omega) (fun j hj => (HO.out.lt j hj).1))
          have HL1' := Lib.hid (HL.out.grown _ HO.out hg1)
          have HO1' := Lib.hid hown1
          clear hown1 hg1
          go_wp2_with fail
          refine (app_any _ _ x hx64 _ _ _ HO1'.out HB1'.out.size (by have := HLN.out; omega)).mono ?_
          rintro e w2 ⟨v2, rfl, hown2, hb2, ho2⟩
          have HO2 := Lib.hid hown2
          have HB2 := Lib.hid (HB1'.out.trans hb2)
          have HL2 := Lib.hid (HL1'.out.others ho2)
          clear hown2 hb2 ho2
          go_wp2
          go_roundw
          case rel =>
            refine ⟨k + 1, by omega, by go_num, ?_, HL2.out, HB2.out⟩
            have h := HO2.out
            rw [HTX0.out, List.length_append, List.length_append, bytes_append, bytes_append]
            exact h
          case measure => simp [intOf]; omega
      · obtain rfl : k = N := by omega
        have e : (els s).take k = els s := List.take_of_length_le (by rw [HN.out]; exact Nat.le_refl _)
        rw [e] at hown
        have hrun := run_own_string hown
        obtain ⟨A, m, c, rfl⟩ := own_slice hown
        clear e hown hl
        have HB := Lib.hid hb
        clear hb
        go_wp2
        go_ret
        exact ⟨rfl, HB.out⟩
end Go.Proofs.YtlpdilkenbjajaaDoor.bits
