/-
  Texts of one claim in one file: OutKeep, JCheck, Lives, JPut, DBox, GRaw, DFit, DOne, DCheck, ENeed, ERefCheck, BPlain, BMore. Each has its own sentence, with its conditions.
-/
import Derived.Test.YtahejekcfgkiaaaGreatDoorGall3
import Derived.Test.YtahejekcfgkiaaaGreatDoorGall7
import Derived.Test.YtahejekcfgkiaaaGreatDoorGall5
import Derived.Test.YtahejekcfgkiaaaGreatDoorGall6
import Derived.StillTailTactics
import Derived.Test.YtahejekcfgkiaaaGreatDoorGall11
import Derived.Test.YtahejekcfgkiaaaGreatDoorGall14
import Derived.Test.YtahejekcfgkiaaaGreatDoorGall9
import Derived.Test.YtahejekcfgkiaaaGreatDoorGall10
import Derived.Laws.BitsAllLaws
import Derived.Lib.TrailingZeros
/-
  The writer's calls once more, with what else stays as it was: every block that holds no bytes and is not the writer itself. No condition but that the bytes are fewer than a slice can hold.
-/
namespace Go.Proofs.YtahejekcfgkiaaaGreatDoor.octet
open Go.RowKit Go.ChangeShapes
set_option linter.unusedVariables false

/-- A block that is no row of bytes. -/
def NoBytes (o : Obj) : Prop := ∀ cur q, o ≠ .cells cur 5 q
/-- What holds no bytes, and is not at bo, has stayed. -/
def Spare (bo : Nat) (w w' : World) : Prop := ∀ k o, w.heap[k]? = some o → k ≠ bo → NoBytes o → w'.heap[k]? = some o
theorem Spare.refl (bo : Nat) (w : World) : Spare bo w w := fun _ _ h _ _ => h
theorem Spare.trans {bo : Nat} {a b c : World} (h : Spare bo a b) (k : Spare bo b c) : Spare bo a c := fun i o h1 h2 h3 => k i o (h i o h1 h2 h3) h2 h3
theorem Spare.store {base bo : Nat} {l xs : List Value} {n : Nat} {w W w1 : World} {v v' : Value} (hown : w.ownsRow base 5 1 v n xs) (hW : ∀ k, k < w.heap.size → W.heap[k]? = w.heap[k]?) (hs : w.heap.size ≤ W.heap.size) (hg : W.grownBy w1 v.ownBlock) : Spare bo w (w1.setCell ⟨bo, 0, none⟩ v') := by
  intro k o h1 h2 h3
  have hlt := lt_of_block h1
  have hne : some k ≠ v.ownBlock := by
    intro e
    rcases hown.2 with ⟨rfl, _⟩ | ⟨g, cap, cur, rfl, _, hh, _⟩
    · cases e
    · simp [Value.ownBlock] at e
      subst e
      rw [h1] at hh
      exact h3 _ _ (Option.some.inj hh)
  rw [Below.heap_setCell _ _ _ _ (show k ≠ bo from h2), hg.block k (by omega) (fun e => hne e), hW k hlt]
  exact h1

set_option maxHeartbeats 400000 in
theorem byte_keep (w : World) (base bo : Nat) (l : List UInt8) (n : Int) (h : OutAt w base bo l) (hl : l.length + 1 ≤ 140737488355328) :
    Calls Tryz.prog 43 #[.pointer (some ⟨bo, 0, none⟩), .int .i64 n] w fun e w' => e = .returned (.tuple #[]) ∧ OutAt w' base bo (l ++ [bof n]) ∧ Frm base bo w w' ∧ Spare bo w w' := by
  obtain ⟨v, h1, h2, h3, h4⟩ := h
  obtain ⟨i0, hi, hz0, hz1, hz2⟩ := info_parts info5
  have hc := cell_of_one h1
  have hf := free_of_one h1
  go_enter Tryz.func43, Tryz.ntmps43
  go_wp2_with (
    at_builtin
    refine wpList_append_own _ rfl (.tmp 10) (.tmp 13) _ rfl base 5 i0 _ 1 1 Tryz.underlying57 hi hz0 hz1 hz2 rfl (by omega) v l.length (cells l) rfl (h2.alloc _)
      ⟨w.heap.size, 0, none⟩ 1 1 [.int .u8 (n % 256)] rfl rfl ?c1 ?c2 ?c3 ?c4 ?c5 ?_)
  case c1 =>
    intro j u hu
    rcases j with _ | j
    · simp only [List.getElem?_cons_zero, Option.some.injEq] at hu
      subst hu
      exact cell_of_one (heap_alloc_new w _)
    · simp at hu
  case c2 => intro u hu; simp only [List.mem_singleton] at hu; subst hu; rfl
  case c3 => simp only [maxLen]; omega
  case c4 => omega
  case c5 => simp; omega
  intro v' w1 hown hg _
  have hs := out_store (r := [bof n]) h1 h2 h3 h4 ⟨_, .inl rfl⟩ (by simpa [cells, bof_cell] using hown) hg
  have HP : Hid (Spare bo w (w1.setCell ⟨bo, 0, none⟩ v')) := Lib.hid (Spare.store (base := base) (l := []) (xs := cells l) (n := l.length) h2 (fun k hk => Below.heap_alloc _ _ _ hk) (by simp) hg)
  have hc1 := cell_of_one hs.1
  have hf1 := free_of_one hs.1
  obtain ⟨_, hs2, hs3⟩ := hs
  obtain ⟨A', m', c', rfl⟩ := own_slice hown
  go_wp2
  go_end0
  exact ⟨rfl, hs2, hs3, HP.out⟩

set_option maxHeartbeats 400000 in
theorem num_keep (w : World) (base bo : Nat) (l : List UInt8) (n : Nat) (hn : Fits n) (h : OutAt w base bo l) (hl : l.length + 10 ≤ 140737488355328) :
    Calls Tryz.prog 44 #[.pointer (some ⟨bo, 0, none⟩), .int .u64 (n : Int)] w fun e w' => e = .returned (.tuple #[]) ∧ OutAt w' base bo (l ++ num n) ∧ Frm base bo w w' ∧ Spare bo w w' := by
  go_enter Tryz.func44, Tryz.ntmps44
  go_wp2
  go_loopw [1] (fun t wr => ∃ (m : Nat) (pre : List UInt8), t = .int .u64 (m : Int) ∧ Fits m ∧ pre ++ num m = num n ∧ OutAt wr base bo (l ++ pre) ∧ Frm base bo w wr ∧ Hid (Spare bo w wr)) (fun t _ => (intOf t).toNat)
  case atStart => exact ⟨n, [], rfl, hn, rfl, by simpa using h, Frm.refl _ _ _, Lib.hid (Spare.refl _ _)⟩
  case round =>
    obtain ⟨m, pre, rfl, hm, he, ho, hfr, HQ⟩ := hrel
    have hpl : (l ++ pre).length + 1 ≤ 140737488355328 := by
      have e1 := congrArg List.length he
      have e2 := num_length_le n
      have e3 := enc_length_pos 9 m
      have e4 : (num m).length = (enc 9 m).length := rfl
      simp only [List.length_append] at e1 ⊢
      omega
    have HE := Lib.hid he
    clear he
    by_cases hlt : m < 128
    · go_wp2_with fail
      refine (byte_keep _ base bo (l ++ pre) _ ho hpl).mono ?_
      rintro e w1 ⟨rfl, ho1, hf1, hp1⟩
      have HP := Lib.hid (HQ.out.trans hp1)
      clear hp1
      go_wp2
      go_end0
      refine ⟨rfl, ?_, hfr.trans hf1, HP.out⟩
      rw [← HE.out, num_small hlt, ← List.append_assoc]
      rw [bof_nat] at ho1
      exact ho1
    · go_wp2_with fail
      rw [or_and_u64 m hm]
      refine (byte_keep _ base bo (l ++ pre) _ ho hpl).mono ?_
      rintro e w1 ⟨rfl, ho1, hf1, hp1⟩
      have HP := Lib.hid (HQ.out.trans hp1)
      clear hp1
      go_wp2
      refine ⟨⟨m / 128, pre ++ [UInt8.ofNat (m % 128 + 128)], ?_, ?_, ?_, ?_, hfr.trans hf1, HP⟩, ?_⟩
      · congr 1
      · unfold Fits at hm ⊢; omega
      · rw [← HE.out, num_big (by omega) hm, List.append_assoc]
        rfl
      · rw [← List.append_assoc, ← bof_nat]; exact ho1
      · simp [intOf]; omega

set_option maxHeartbeats 400000 in
theorem int_keep (w : World) (base bo : Nat) (l : List UInt8) (n : Int) (h1 : -9223372036854775808 ≤ n) (h2 : n ≤ 9223372036854775807) (ho : OutAt w base bo l) (hl : l.length + 10 ≤ 140737488355328) :
    Calls Tryz.prog 68 #[.pointer (some ⟨bo, 0, none⟩), .int .i64 n] w fun e w' => e = .returned (.tuple #[]) ∧ OutAt w' base bo (l ++ num (zig n)) ∧ Frm base bo w w' ∧ Spare bo w w' := by
  by_cases hlt : n < 0
  · go_enter Tryz.func68, Tryz.ntmps68
    go_wp2_with fail
    rw [zig_neg n h1 hlt]
    refine (num_keep _ base bo l (zig n) (zig_lt h1 h2) ho hl).mono ?_
    rintro e w1 ⟨rfl, ho1, hf1, hp1⟩
    have HP := Lib.hid hp1
    clear hp1
    go_wp2
    refine bodyPost_ret (results_none rfl _ _ _) rfl ?_
    exact ⟨rfl, ho1, hf1, HP.out⟩
  · go_enter Tryz.func68, Tryz.ntmps68
    go_wp2_with fail
    rw [zig_pos n (by omega)]
    refine (num_keep _ base bo l (zig n) (zig_lt h1 h2) ho hl).mono ?_
    rintro e w1 ⟨rfl, ho1, hf1, hp1⟩
    have HP := Lib.hid hp1
    clear hp1
    go_wp2
    go_end0
    exact ⟨rfl, ho1, hf1, HP.out⟩

end Go.Proofs.YtahejekcfgkiaaaGreatDoor.octet

/-
  The program's own check of an instruction (typed over the code of 392f5a9): for every instruction. The table of names must lie where its initialiser lays it.
-/
namespace Go.Proofs.YtahejekcfgkiaaaGreatDoor.inst
open Go.RowKit Go.ChangeShapes
open Go.Proofs.YtahejekcfgkiaaaGreatDoor.oper (ret_int ret_bool ret_string Tab nm txt)
open Go.Proofs.YtahejekcfgkiaaaGreatDoor.word (Word)
set_option linter.unusedVariables false

/-- Both operands, as an array. -/
def arrBox (a b : Int) : Obj := .cells #[.int .i64 a, .int .i64 b] 126
theorem stand_arr (w : World) (o a b : Int) : Stand w o a b (w.heap.size + 1) ((w.alloc (insBox o a b)).alloc (arrBox a b)) := by
  have hz : (w.alloc (insBox o a b)).heap.size = w.heap.size + 1 := World.size_alloc w _
  have h0 : ((w.alloc (insBox o a b)).alloc (arrBox a b)).heap[w.heap.size]? = some (insBox o a b) := (Below.heap_alloc _ _ _ (by omega)).trans (heap_alloc_new w _)
  have h1 : ((w.alloc (insBox o a b)).alloc (arrBox a b)).heap[w.heap.size + 1]? = some (arrBox a b) := by rw [← hz]; exact heap_alloc_new _ _
  refine ⟨((Below.refl _ w).alloc (Nat.le_refl _) _).alloc (by omega) _, by rw [World.size_alloc]; omega, ?_, ?_, ?_, ?_, ?_⟩
  all_goals
    unfold World.cell?
    first | rw [h0] | rw [h1]
    rfl

set_option maxRecDepth 100000 in
/-- What is left of both operands behind the first d: the place, and how many. -/
theorem slice_left (g d m : Nat) (hm : d + m = 2) : ∃ A : Addr, (0 < m → A = ⟨g, d, none⟩) ∧ ∀ W : World, (Instr.sliceAt 126 (.pointer (some ⟨g, 0, none⟩)) (some (.int .i64 (d : Int))) none none).run Tryz.prog W = .ok (.slice (some A) m m) W := by
  have hal : Tryz.prog.arrayLen 126 = 2 := by kernel_rfl
  have hw : ∀ W, (Instr.sliceAt 126 (.pointer (some ⟨g, 0, none⟩)) (some (.int .i64 (d : Int))) none none).run Tryz.prog W = .ok (slicedAt ⟨g, 0, none⟩ d 2 2 1) W := fun W => by
    rw [run_sliceAt_array_l W 126 ⟨g, 0, none⟩ (by kernel_rfl) .i64 (d : Int) (by omega) (by rw [hal]; omega), hal]
    rfl
  refine ⟨if 2 = d then ⟨g, 0, none⟩ else (⟨g, 0, none⟩ : Addr).add (d * 1), fun h => ?_, fun W => ?_⟩
  · rw [if_neg (by omega)]
    simp [Addr.add]
    omega
  · rw [hw W]
    unfold slicedAt
    rw [show 2 - d = m from by omega]

set_option maxRecDepth 100000 in
set_option maxHeartbeats 4000000 in
theorem check_yes (o a b : Int) (hk : Known o) (w : World) (hw : Okw w) : Calls Tryz.prog 71 #[.agg #[.int .i64 o, .int .i64 a, .int .i64 b]] w fun e w' => e = .returned (.int .i64 (chk o a b : Nat)) ∧ Below w.heap.size w w' := by
  have HK : Hid (Calls Tryz.prog 91 #[.int .i64 o] (w.alloc (insBox o a b)) fun e w' => e = .returned (.bool true) ∧ w.alloc (insBox o a b) = w') :=
    Lib.hid ((knows_any o _ (hw.next ((Below.refl _ _).alloc (Nat.le_refl _) _)).1).mono fun e w' ⟨h1, h2⟩ => ⟨by rw [h1, decide_eq_true hk], h2⟩)
  have HF : Hid (Calls Tryz.prog 72 #[.int .i64 o] (w.alloc (insBox o a b)) fun e w' => e = .returned (.string (txt Go.Proofs.YtahejekcfgkiaaaGreatDoor.oper.fm o)) ∧ w.alloc (insBox o a b) = w') := Lib.hid (Go.Proofs.YtahejekcfgkiaaaGreatDoor.oper.form_any o _)
  have HZ : Hid (chk o a b = chkF (form o) a b) := Lib.hid (by unfold chk; rw [if_pos hk])
  have hy2 : (txt Go.Proofs.YtahejekcfgkiaaaGreatDoor.oper.fm o).size ≤ 2 := by have := form_le o; unfold form at this; rwa [← size_list] at this
  have HS : Hid (Stand w o a b (w.heap.size + 1) ((w.alloc (insBox o a b)).alloc (arrBox a b))) := Lib.hid (stand_arr w o a b)
  have hz1 : (w.alloc (insBox o a b)).heap.size = w.heap.size + 1 := World.size_alloc w _
  unfold form at HZ
  rw [HZ.out]
  clear hk HZ hw
  generalize txt Go.Proofs.YtahejekcfgkiaaaGreatDoor.oper.fm o = y at *
  go_enter Tryz.func71, Tryz.ntmps71
  unfold insBox at HK HF
  go_wp2_with fail
  refine HK.out.mono ?_
  rintro e w1 ⟨rfl, rfl⟩
  go_wp2_with fail
  refine HF.out.mono ?_
  rintro e w1 ⟨rfl, rfl⟩
  have HN := Lib.hid hy2
  unfold insBox arrBox at HS
  go_wp2_with fail
  go_loopw [22] (fun i wr => ∃ j : Nat, j ≤ y.size ∧ i = .int .i64 (j : Int) ∧ Hid (∀ k, k < j → okAt y.data.toList a b k = true) ∧ Hid (Stand w o a b (w.heap.size + 1) wr)) (fun i _ => y.size - (intOf i).toNat)
  case atStart => exact ⟨0, Nat.zero_le _, rfl, Lib.hid (fun k hk => absurd hk (Nat.not_lt_zero k)), HS⟩
  case round =>
    obtain ⟨j, hj, rfl, HO, HS⟩ := hrel
    by_cases hlt : j < y.size
    · have hcell := HS.out.at (j := j) (by omega)
      have hlt' : (j : Int) < (y.size : Int) := by omega
      have hj2 : j < 2 := by omega
      have hyj : y[j] = y.data.toList.getD j 0 := letter_at hlt
      have HK1 := fun h => Lib.hid (chkF_arg (f := y.data.toList) (a := a) (b := b) (j := j) (by rw [← size_list]; exact hlt) h)
      have HNx : ∀ h : okAt y.data.toList a b j = true, Hid (∀ k, k < j + 1 → okAt y.data.toList a b k = true) := fun h => Lib.hid (fun k hk => by
        rcases Nat.lt_or_ge k j with h1 | h1
        · exact HO.out k h1
        · obtain rfl : k = j := by omega
          exact h)
      have HR := fun W => inRange_any (y.data.toList.getD j 0) (opd a b j) W
      unfold okAt at HK1 HNx
      generalize fitsB (y.data.toList.getD j 0) (opd a b j) = q at *
      generalize y.data.toList.getD j 0 = c at *
      generalize opd a b j = v at *
      have hj0 : (0 : Int) ≤ (j : Int) := by omega
      have hj2' : (j : Int) < 2 := by omega
      have HB := Lib.hid HS.out.below
      have HR' : ∀ W : World, Calls Tryz.prog 92 #[.int .u8 (c.toNat : Int), .int .i64 v] W fun e w' => e = .returned (.bool q) ∧ w' = W := fun W => (HR W).mono fun e w' ⟨h1, h2⟩ => ⟨h1, h2.symm⟩
      clear HR
      cases q with
      | true =>
        have HE := HNx rfl
        clear HK1 HNx
        go_wp2_with fail
        go_quiet ((go_at_call 92; exact Calls.quiet_of_same (HR' _)))
        go_wp2
        go_roundw
        case rel => exact ⟨j + 1, by omega, by go_num, HE, Lib.hid (HS.out.drewN _)⟩
        case measure => simp [intOf]; omega
      | false =>
        have HE := HK1 rfl
        clear HK1 HNx
        go_wp2_with fail
        go_quiet ((go_at_call 92; exact Calls.quiet_of_same (HR' _)))
        go_wp2
        go_ret
        exact ⟨ret_int (by rw [HE.out]; rfl), below_drewN HB.out _⟩
    · obtain rfl : j = y.size := by omega
      obtain ⟨m, hm⟩ : ∃ m, y.size + m = 2 := ⟨2 - y.size, by omega⟩
      obtain ⟨A, hA, hsl⟩ := slice_left (w.heap.size + 1) y.size m hm
      have HA := Lib.hid hA
      have HM := Lib.hid hm
      clear hA hm
      have hcell := fun k (hk : k < 2) => Lib.hid (HS.out.at hk)
      have hc1 := HS.out.c1
      have hc2 := HS.out.c2
      have HB := Lib.hid HS.out.below
      have HF1 : Hid (∀ k, k < y.data.toList.length → okAt y.data.toList a b k = true) := Lib.hid (by rw [← size_list]; exact HO.out)
      go_wp2_with fail
      any_goals
        have h1 : y.toList = [106, 106] := by assumption
        have h2 : b < a := by assumption
        have HE := Lib.hid (chkF_two HF1.out (by rw [← ByteArray.toList_eq]; exact h1) h2)
        clear h1
        go_ret
        exact ⟨ret_int (by rw [HE.out]; rfl), HB.out⟩
      all_goals
        have HX : Hid (¬ (y.data.toList = [106, 106] ∧ b < a)) := Lib.hid (by
          rw [← ByteArray.toList_eq]
          rintro ⟨h1, h2⟩
          first
            | omega
            | exact absurd h1 (by assumption))
        clear hcell hc1 hc2
        try (rename y.toList = [106, 106] => h1; replace h1 := Lib.hid h1)
        try (rename ¬ y.toList = [106, 106] => h1; replace h1 := Lib.hid h1)
        go_loopw [47] (fun i wr => ∃ j : Nat, j ≤ m ∧ i = .int .i64 (j : Int) ∧ Hid (∀ k, y.size ≤ k → k < y.size + j → opd a b k = 0) ∧ Hid (Stand w o a b (w.heap.size + 1) wr)) (fun i _ => m - (intOf i).toNat)
        case atStart => exact ⟨0, Nat.zero_le _, rfl, Lib.hid (fun k h1 h2 => absurd h1 (Nat.not_le_of_lt h2)), HS⟩
        case round =>
          obtain ⟨j, hj1, rfl, HP, HS2⟩ := hrel
          have HB2 := Lib.hid HS2.out.below
          by_cases hlt : j < m
          · have hm := HM.out
            have hc := HS2.out.at (j := y.size + j) (by omega)
            obtain rfl := HA.out (by omega)
            have hj3 : (j : Int) < (m : Int) := by omega
            by_cases hv : opd a b (y.size + j) = 0
            · have HE : Hid (∀ k, y.size ≤ k → k < y.size + (j + 1) → opd a b k = 0) := Lib.hid (fun k h1 h2 => by
                rcases Nat.lt_or_ge k (y.size + j) with h3 | h3
                · exact HP.out k h1 h3
                · obtain rfl : k = y.size + j := by omega
                  exact hv)
              rw [hv] at hc
              clear hv
              go_wp2
              go_roundw
              case rel => exact ⟨j + 1, by omega, by go_num, HE, HS2⟩
              case measure => simp [intOf]; omega
            · have HE := Lib.hid (chkF_form HF1.out HX.out (j := y.size + j) (by rw [← size_list]; omega) (by omega) hv)
              have hv' : (opd a b (y.size + j) != 0) = true := by simpa using hv
              clear hv hm
              generalize opd a b (y.size + j) = v at *
              go_wp2
              go_ret
              exact ⟨ret_int (by rw [HE.out]; rfl), HB2.out⟩
          · obtain rfl : j = m := by omega
            have hm := HM.out
            have HE := Lib.hid (chkF_fine HF1.out HX.out (by rw [← size_list]; exact fun k h1 h2 => HP.out k h1 (by omega)))
            go_wp2_with fail
            go_ret
            exact ⟨ret_int (by rw [HE.out]; rfl), HB2.out⟩

theorem check_no (o a b : Int) (hk : ¬ Known o) (w : World) (hw : Okw w) : Calls Tryz.prog 71 #[.agg #[.int .i64 o, .int .i64 a, .int .i64 b]] w fun e w' => e = .returned (.int .i64 (chk o a b : Nat)) ∧ Below w.heap.size w w' := by
  have HK : Hid (Calls Tryz.prog 91 #[.int .i64 o] (w.alloc (insBox o a b)) fun e w' => e = .returned (.bool false) ∧ w.alloc (insBox o a b) = w') :=
    Lib.hid ((knows_any o _ (hw.next ((Below.refl _ _).alloc (Nat.le_refl _) _)).1).mono fun e w' ⟨h1, h2⟩ => ⟨by rw [h1, decide_eq_false hk], h2⟩)
  have HZ : Hid (chk o a b = 6) := Lib.hid (by unfold chk; rw [if_neg hk])
  have HB := Lib.hid ((Below.refl w.heap.size w).alloc (Nat.le_refl _) (insBox o a b))
  rw [HZ.out]
  clear hk HZ hw
  go_enter Tryz.func71, Tryz.ntmps71
  unfold insBox at HK
  go_wp2_with fail
  refine HK.out.mono ?_
  rintro e w1 ⟨rfl, rfl⟩
  go_wp2_with fail
  go_ret
  exact ⟨rfl, HB.out⟩
theorem check_any (o a b : Int) (w : World) (hw : Okw w) : Calls Tryz.prog 71 #[.agg #[.int .i64 o, .int .i64 a, .int .i64 b]] w fun e w' => e = .returned (.int .i64 (chk o a b : Nat)) ∧ Below w.heap.size w w' := by
  by_cases hk : Known o
  · exact check_yes o a b hk w hw
  · exact check_no o a b hk w hw
end Go.Proofs.YtahejekcfgkiaaaGreatDoor.inst

/-
  Opening a reader; the calls on what is not there; and that numbers are put and read: the common end of all these statements. No condition.
-/
namespace Go.Proofs.YtahejekcfgkiaaaGreatDoor.octet
open Go.RowKit Go.ChangeShapes
set_option linter.unusedVariables false

set_option maxHeartbeats 400000 in
theorem open_any (w : World) (s : ByteArray) :
    Calls Tryz.prog 97 #[.string s] w fun e w' => e = .returned (.pointer (some ⟨w.heap.size, 0, none⟩)) ∧ InAt w' w.heap.size ⟨s.data.toList, 0⟩ ∧ Below w.heap.size w w' ∧ w'.heap.size = w.heap.size + 1 := by
  go_enter Tryz.func97, Tryz.ntmps97
  go_wp2
  go_ret
  refine ⟨rfl, ?_, (Below.refl _ _).alloc (Nat.le_refl _) _, by simp⟩
  exact heap_alloc_new w _

theorem out_new (w : World) : OutAt (w.alloc (.cells #[.slice none 0 0] 59)) (w.heap.size + 1) w.heap.size [] :=
  ⟨.slice none 0 0, heap_alloc_new w _, World.ownsRow_nil _ _ _ _, by omega, by simp⟩

theorem r1 : rdNum ⟨[172, 2, 1], 0⟩ = (300, ⟨[1], 0⟩) := rfl
theorem r2 : rdInt ⟨[1], 0⟩ = (-1, ⟨[], 0⟩) := rfl
theorem r3 : rdByte ⟨[], 0⟩ = (0, ⟨[], 3⟩) := rfl

set_option maxHeartbeats 400000 in
theorem byte_nil (w : World) (n : Int) : Calls Tryz.prog 43 #[.pointer none, .int .i64 n] w fun e w' => e = .returned (.tuple #[]) ∧ w = w' := by
  go_enter Tryz.func43, Tryz.ntmps43
  go_wp2
  go_end0
  exact ⟨rfl, rfl⟩
set_option maxHeartbeats 400000 in
theorem num_nil (w : World) (n : Nat) (hn : Fits n) : Calls Tryz.prog 44 #[.pointer none, .int .u64 (n : Int)] w fun e w' => e = .returned (.tuple #[]) ∧ w = w' := by
  go_enter Tryz.func44, Tryz.ntmps44
  go_wp2
  go_loopw [1] (fun t wr => ∃ (m : Nat), t = .int .u64 (m : Int) ∧ Fits m ∧ w = wr) (fun t _ => (intOf t).toNat)
  case atStart => exact ⟨n, rfl, hn, rfl⟩
  case round =>
    obtain ⟨m, rfl, hm, rfl⟩ := hrel
    by_cases hlt : m < 128
    · go_wp2_with fail
      refine (byte_nil _ _).mono ?_
      rintro e w1 ⟨rfl, rfl⟩
      go_wp2
      go_end0
      exact ⟨rfl, rfl⟩
    · go_wp2_with fail
      rw [or_and_u64 m hm]
      refine (byte_nil _ _).mono ?_
      rintro e w1 ⟨rfl, rfl⟩
      go_wp2
      refine ⟨⟨m / 128, ?_, ?_, by first | rfl | trivial⟩, ?_⟩
      · congr 1
      · unfold Fits at hm ⊢; omega
      · simp [intOf]; omega
set_option maxHeartbeats 400000 in
theorem int_nil (w : World) (n : Int) (h1 : -9223372036854775808 ≤ n) (h2 : n ≤ 9223372036854775807) : Calls Tryz.prog 68 #[.pointer none, .int .i64 n] w fun e w' => e = .returned (.tuple #[]) ∧ w = w' := by
  by_cases hlt : n < 0
  · go_enter Tryz.func68, Tryz.ntmps68
    go_wp2_with fail
    rw [zig_neg n h1 hlt]
    refine (num_nil _ (zig n) (zig_lt h1 h2)).mono ?_
    rintro e w1 ⟨rfl, rfl⟩
    go_wp2
    refine bodyPost_ret (results_none rfl _ _ _) rfl ?_
    exact ⟨rfl, rfl⟩
  · go_enter Tryz.func68, Tryz.ntmps68
    go_wp2_with fail
    rw [zig_pos n (by omega)]
    refine (num_nil _ (zig n) (zig_lt h1 h2)).mono ?_
    rintro e w1 ⟨rfl, rfl⟩
    go_wp2
    go_end0
    exact ⟨rfl, rfl⟩
set_option maxHeartbeats 400000 in
theorem done_nil (w : World) : Calls Tryz.prog 24 #[.pointer none] w fun e w' => e = .returned (.string ⟨#[]⟩) ∧ w = w' := by
  go_enter Tryz.func24, Tryz.ntmps24
  go_wp2
  go_ret
  exact ⟨rfl, rfl⟩
set_option maxHeartbeats 400000 in
theorem left_nil (w : World) : Calls Tryz.prog 99 #[.pointer none] w fun e w' => e = .returned (.int .i64 0) ∧ w = w' := by
  go_enter Tryz.func99, Tryz.ntmps99
  go_wp2
  go_ret
  exact ⟨rfl, rfl⟩
set_option maxHeartbeats 400000 in
theorem err_nil (w : World) : Calls Tryz.prog 102 #[.pointer none] w fun e w' => e = .returned (.int .i64 7) ∧ w = w' := by
  go_enter Tryz.func102, Tryz.ntmps102
  go_wp2
  go_ret
  exact ⟨rfl, rfl⟩
set_option maxHeartbeats 400000 in
theorem fail_nil (w : World) (e : Int) : Calls Tryz.prog 120 #[.pointer none, .int .i64 e] w fun r w' => r = .returned (.tuple #[]) ∧ w = w' := by
  go_enter Tryz.func120, Tryz.ntmps120
  go_wp2
  refine bodyPost_ret (results_none rfl _ _ _) rfl ?_
  exact ⟨rfl, rfl⟩
set_option maxHeartbeats 400000 in
theorem next_nil (w : World) : Calls Tryz.prog 119 #[.pointer none] w fun r w' => r = .returned (.int .u8 0) ∧ w = w' := by
  go_enter Tryz.func119, Tryz.ntmps119
  go_wp2_with fail
  refine (left_nil _).mono ?_
  rintro e w1 ⟨rfl, rfl⟩
  go_wp2_with fail
  refine (fail_nil _ _).mono ?_
  rintro e w1 ⟨rfl, rfl⟩
  go_wp2
  go_ret
  exact ⟨rfl, rfl⟩
set_option maxHeartbeats 400000 in
theorem byteIn_nil (w : World) : Calls Tryz.prog 116 #[.pointer none] w fun r w' => r = .returned (.int .i64 0) ∧ w = w' := by
  go_enter Tryz.func116, Tryz.ntmps116
  go_wp2_with fail
  refine (next_nil _).mono ?_
  rintro e w1 ⟨rfl, rfl⟩
  go_wp2
  go_ret
  exact ⟨rfl, rfl⟩
set_option maxHeartbeats 400000 in
set_option maxRecDepth 100000 in
theorem numIn_nil (w : World) : Calls Tryz.prog 112 #[.pointer none] w fun r w' => r = .returned (.int .u64 0) ∧ w = w' := by
  go_enter Tryz.func112, Tryz.ntmps112
  go_wp2
  go_loopw [3, 6] (fun n k wr => k = .int .i64 0 ∧ n = .int .u64 0 ∧ w = wr) (fun _ k _ => 9 - (intOf k).toNat)
  case atStart => exact ⟨rfl, rfl, rfl⟩
  case round =>
    obtain ⟨rfl, rfl, rfl⟩ := hrel
    go_wp2_with fail
    refine (next_nil _).mono ?_
    rintro e w1 ⟨rfl, rfl⟩
    go_wp2_with fail
    refine (err_nil _).mono ?_
    rintro e w1 ⟨rfl, rfl⟩
    go_wp2
    go_ret
    exact ⟨rfl, rfl⟩
set_option maxHeartbeats 400000 in
theorem intIn_nil (w : World) : Calls Tryz.prog 117 #[.pointer none] w fun r w' => r = .returned (.int .i64 0) ∧ w = w' := by
  have hand := and1_u64 0 (by omega)
  go_enter Tryz.func117, Tryz.ntmps117
  go_wp2_with fail
  refine (numIn_nil _).mono ?_
  rintro e w1 ⟨rfl, rfl⟩
  go_wp2
  go_ret
  exact ⟨rfl, rfl⟩
end Go.Proofs.YtahejekcfgkiaaaGreatDoor.octet

/-
  The program's own bytes of an instruction (typed over the code of 392f5a9): for every instruction of sixty-four-bit numbers. The table of names must lie where its initialiser lays it.
-/
namespace Go.Proofs.YtahejekcfgkiaaaGreatDoor.inst
open Go.RowKit Go.ChangeShapes
open Go.Proofs.YtahejekcfgkiaaaGreatDoor.oper (ret_int ret_bool ret_string Tab nm txt)
open Go.Proofs.YtahejekcfgkiaaaGreatDoor.word (Word)
open Go.Proofs.YtahejekcfgkiaaaGreatDoor.octet (OutAt Frm Spare NoBytes num zig num_keep int_keep byte_keep done_any Fits bof bof_nat num_length_le)
set_option linter.unusedVariables false

theorem fit_small {c : UInt8} {v : Int} (hc : c ≠ 110) (h : fitsB c v = true) : 0 ≤ v ∧ v ≤ 199 := by
  have hw : least c ≤ v ∧ v ≤ most c := by unfold fitsB at h; rw [if_neg hc] at h; simpa using h
  have h0 : 0 ≤ least c := by unfold least; split <;> omega
  have hm : most c ≤ 199 := by unfold most; split; omega; split; omega; split; omega; split <;> omega
  omega

set_option maxHeartbeats 400000 in
theorem putOperand_any (w : World) (base bo : Nat) (l : List UInt8) (c : UInt8) (v : Int) (hf : fitsB c v = true) (ho : OutAt w base bo l) (hl : l.length + 10 ≤ 140737488355328) :
    Calls Tryz.prog 73 #[.pointer (some ⟨bo, 0, none⟩), .int .u8 (c.toNat : Int), .int .i64 v] w fun e w' => e = .returned (.tuple #[]) ∧ OutAt w' base bo (l ++ piece c v) ∧ Frm base bo w w' ∧ Spare bo w w' := by
  by_cases hc : c = 110
  · subst hc
    have hv : Word v := by unfold fitsB at hf; rw [if_pos rfl] at hf; simpa using hf
    unfold Word at hv
    have HE : Hid (piece 110 v = num (zig v)) := Lib.hid rfl
    rw [HE.out]
    clear hf
    have HI := Lib.hid (int_keep w base bo l v (by omega) (by omega) ho hl)
    go_enter Tryz.func73, Tryz.ntmps73
    go_wp2_with fail
    refine HI.out.mono ?_
    rintro e w1 ⟨rfl, h1, h2, h3⟩
    go_wp2
    refine bodyPost_ret (results_none rfl _ _ _) rfl ?_
    exact ⟨rfl, h1, h2, h3⟩
  · obtain ⟨h0, h1⟩ := fit_small hc hf
    obtain ⟨m, rfl⟩ : ∃ m : Nat, v = (m : Int) := ⟨v.toNat, by omega⟩
    have HE : Hid (piece c (m : Int) = num m) := Lib.hid (by unfold piece; rw [if_neg hc, Int.toNat_natCast])
    have hc1 : ((c.toNat : Int) == 110) = false := (u8_ne hc).1
    rw [HE.out]
    clear hf hc
    have HI := Lib.hid (num_keep w base bo l m (by unfold Fits; omega) ho hl)
    go_enter Tryz.func73, Tryz.ntmps73
    go_wp2_with fail
    refine HI.out.mono ?_
    rintro e w1 ⟨rfl, h1, h2, h3⟩
    go_wp2
    go_end0
    exact ⟨rfl, h1, h2, h3⟩

/-- While an instruction is put: the writer at bo holds L, both operands stand at g. -/
structure Puts (w : World) (a b : Int) (bo g : Nat) (L : List UInt8) (W : World) : Prop where
  out : OutAt W (bo + 1) bo L
  arr : W.heap[g]? = some (arrBox a b)
  ne : g ≠ bo
  below : Below w.heap.size w W
theorem noBytes_arr (a b : Int) : NoBytes (arrBox a b) := fun cur q h => by
  unfold arrBox at h
  injection h with _ h2 _
  exact absurd h2 (by decide)
theorem noBytes_ins (o a b : Int) : NoBytes (insBox o a b) := fun cur q h => by
  unfold insBox at h
  injection h with _ h2 _
  exact absurd h2 (by decide)
theorem Puts.next {w W W' : World} {a b : Int} {bo g : Nat} {L L' : List UInt8} (h : Puts w a b bo g L W) (hw : w.heap.size ≤ bo) (ho : OutAt W' (bo + 1) bo L') (hf : Frm (bo + 1) bo W W') (hs : Spare bo W W') : Puts w a b bo g L' W' :=
  ⟨ho, hs _ _ h.arr h.ne (noBytes_arr a b), h.ne, h.below.trans (hf.below hw (by omega))⟩
theorem Puts.drew {w W : World} {a b : Int} {bo g : Nat} {L : List UInt8} (h : Puts w a b bo g L W) : Puts w a b bo g L W.drew :=
  ⟨h.out.keep (Nat.le_refl _) rfl (fun _ _ _ => rfl), h.arr, h.ne, h.below.drew⟩
theorem Puts.at {w W : World} {a b : Int} {bo g : Nat} {L : List UInt8} (h : Puts w a b bo g L W) {j : Nat} (hj : j < 2) : W.cell? ⟨g, j, none⟩ = some (.int .i64 (opd a b j)) := by
  unfold World.cell?
  rw [h.arr]
  match j, hj with
  | 0, _ => rfl
  | 1, _ => rfl

/-- What Put answers. -/
def PutPost (o a b : Int) (w : World) (e : Ending) (w' : World) : Prop := e = .returned (.tuple #[.string ⟨(putL o a b).toArray⟩, .int .i64 (chk o a b : Nat)]) ∧ Below w.heap.size w w'

set_option maxRecDepth 100000 in
set_option maxHeartbeats 4000000 in
theorem put_good (o a b : Int) (hz : chk o a b = 0) (w : World) (hw : Okw w) : Calls Tryz.prog 48 #[.agg #[.int .i64 o, .int .i64 a, .int .i64 b]] w (PutPost o a b w) := by
  obtain ⟨hk, hf⟩ := chk_zero hz
  have hok := (chkF_zero hf).1
  have HC := Lib.hid (check_any o a b (w.alloc (insBox o a b)) (hw.next ((Below.refl _ _).alloc (Nat.le_refl _) _)))
  rw [hz] at HC
  have hy2 : (txt Go.Proofs.YtahejekcfgkiaaaGreatDoor.oper.fm o).size ≤ 2 := by have := form_le o; unfold form at this; rwa [← size_list] at this
  have HW : Hid (putL o a b = UInt8.ofNat o.toNat :: pieces (form o) a b (form o).length) := Lib.hid (by unfold putL; rw [if_pos hz]; rfl)
  have hz1 : (w.alloc (insBox o a b)).heap.size = w.heap.size + 1 := World.size_alloc w _
  have HF := fun W => Lib.hid (Go.Proofs.YtahejekcfgkiaaaGreatDoor.oper.form_any o W)
  unfold PutPost
  rw [HW.out, hz, show (((0 : Nat) : Int)) = 0 from rfl]
  have ho := hk.1
  have hB : bof o = UInt8.ofNat o.toNat := by
    have : ((o.toNat : Nat) : Int) = o := by omega
    rw [← bof_nat, this]
  unfold form at hok ⊢
  have HO := Lib.hid hok
  clear hk hf hz HW hok hw ho
  generalize txt Go.Proofs.YtahejekcfgkiaaaGreatDoor.oper.fm o = y at *
  rw [← hB, ← size_list y]
  clear hB
  go_enter Tryz.func48, Tryz.ntmps48
  have HI : Hid ((w.alloc (insBox o a b)).heap[w.heap.size]? = some (insBox o a b)) := Lib.hid (heap_alloc_new w _)
  have HB0 : Hid (Below w.heap.size w (w.alloc (insBox o a b))) := Lib.hid ((Below.refl _ w).alloc (Nat.le_refl _) _)
  unfold insBox at HC hz1 HI HB0
  go_wp2_with fail
  refine HC.out.mono ?_
  rintro e w1 ⟨rfl, hb⟩
  have hs1 := hb.size
  have HB1 := Lib.hid (HB0.out.trans (hb.mono (by omega)))
  have HI1 := Lib.hid ((hb.block w.heap.size (by omega)).trans HI.out)
  clear hb HC HI HB0
  go_upto_region 5 with fail
  have hb2 : Below w1.heap.size w1 (w1.alloc (.cells #[.slice none 0 0] 59)) := (Below.refl _ w1).alloc (Nat.le_refl _) _
  have HO2 := Lib.hid (Go.Proofs.YtahejekcfgkiaaaGreatDoor.octet.out_new w1)
  have HB2 := Lib.hid (HB1.out.trans (hb2.mono (by omega)))
  have HI2 := Lib.hid ((hb2.block w.heap.size (by omega)).trans HI1.out)
  obtain ⟨c0, c1, c2, _, _, _⟩ := cells3 HI2.out
  have hbo : w.heap.size < w1.heap.size := by omega
  clear hb2 HB1 HI1
  generalize w1.alloc (.cells #[.slice none 0 0] 59) = W2 at *
  generalize w1.heap.size = bo at *
  have HY := Lib.hid (byte_keep W2 (bo + 1) bo [] o HO2.out (by simp))
  go_wp2_with fail
  refine HY.out.mono ?_
  rintro e W3 ⟨rfl, ho3, hf3, hs3⟩
  have HO3 := Lib.hid ho3
  have HB3 := Lib.hid (HB2.out.trans (hf3.below (B' := w.heap.size) (by omega) (by omega)))
  have HI3 := Lib.hid (hs3 _ _ HI2.out (by omega) (noBytes_ins o a b))
  have hn2 : w.heap.size < W3.heap.size := by have := HB2.out.size; have := lt_of_block HI3.out; omega
  have hn3 : bo < W3.heap.size := HO3.out.lt
  clear ho3 hf3 hs3 HY HO2 HB2 HI2 c0 c1 c2
  obtain ⟨c0, c1, c2, _, _, _⟩ := cells3 HI3.out
  go_wp2_with fail
  refine (HF _).out.mono ?_
  rintro e w4 ⟨rfl, rfl⟩
  go_upto_region 8 with fail
  have HP0 : Hid (Puts w a b bo W3.heap.size [bof o] (W3.alloc (.cells #[.int .i64 a, .int .i64 b] 126))) := Lib.hid
    ⟨HO3.out.kept ((Below.refl W3.heap.size W3).alloc (Nat.le_refl _) _) (Nat.le_refl _), heap_alloc_new _ _, by omega, HB3.out.alloc (by omega) _⟩
  clear HO3 HB3 HI3 c0 c1 c2
  generalize W3.alloc (.cells #[.int .i64 a, .int .i64 b] 126) = W5 at *
  generalize W3.heap.size = g at *
  obtain ⟨h0, hh0⟩ : ∃ h, h = bof o := ⟨_, rfl⟩
  rw [← hh0] at HP0
  have HH0 := Lib.hid hh0
  clear hh0
  have HN := Lib.hid hy2
  go_wp2_with fail
  go_loopw [30] (fun i wr => ∃ j : Nat, j ≤ y.size ∧ i = .int .i64 (j : Int) ∧ Hid (Puts w a b bo g (h0 :: pieces y.data.toList a b j) wr)) (fun i _ => y.size - (intOf i).toNat)
  case atStart => exact ⟨0, Nat.zero_le _, rfl, HP0⟩
  case round =>
    obtain ⟨j, hj, rfl, HS⟩ := hrel
    by_cases hlt : j < y.size
    · have hcell := HS.out.at (j := j) (by omega)
      have hlt' : (j : Int) < (y.size : Int) := by omega
      have hj2 : j < 2 := by omega
      have hj0 : (0 : Int) ≤ (j : Int) := by omega
      have hj2' : (j : Int) < 2 := by omega
      have hyj : y[j] = y.data.toList.getD j 0 := letter_at hlt
      have hk := HO.out j (by rw [← size_list]; exact hlt)
      have HPc : Hid (pieces y.data.toList a b (j + 1) = pieces y.data.toList a b j ++ piece (y.data.toList.getD j 0) (opd a b j)) := Lib.hid rfl
      have hpl := pieces_le y.data.toList a b j
      unfold okAt at hk
      generalize y.data.toList.getD j 0 = c at *
      generalize opd a b j = v at *
      generalize hpre : pieces y.data.toList a b j = pre at *
      have HC := fun W (hW : Puts w a b bo g (h0 :: pre) W) => Lib.hid ((putOperand_any W (bo + 1) bo (h0 :: pre) c v hk hW.out (by simp; omega)).mono (R' := fun e w' => e = .returned (.tuple #[]) ∧ Puts w a b bo g (h0 :: (pre ++ piece c v)) w') fun e w' ⟨h1, h2, h3, h4⟩ => ⟨h1, hW.next (by omega) h2 h3 h4⟩)
      clear hpre hpl hk
      go_wp2_with fail
      go_still_tail 7, (by kernel_rfl)
      change wpList _ _ _ _ _ wr.drew
      have HS1 := Lib.hid HS.out.drew
      generalize wr.drew = W6 at *
      go_wp2_with fail
      refine (HC _ HS1.out).out.mono ?_
      rintro e W7 ⟨rfl, hp⟩
      have HS2 := Lib.hid hp
      clear hp HC
      go_wp2
      go_roundw
      case rel => exact ⟨j + 1, by omega, by go_num, by rw [HPc.out]; exact HS2⟩
      case measure => simp [intOf]; omega
    · obtain rfl : j = y.size := by omega
      have HD := Lib.hid (done_any wr (bo + 1) bo _ HS.out.out)
      have HBz := Lib.hid HS.out.below
      go_wp2_with fail
      refine HD.out.mono ?_
      rintro e w8 ⟨rfl, rfl⟩
      go_wp2
      go_ret2
      rw [HH0.out]
      exact ⟨rfl, HBz.out⟩

set_option maxHeartbeats 1000000 in
theorem put_bad (o a b : Int) (hz : chk o a b ≠ 0) (w : World) (hw : Okw w) : Calls Tryz.prog 48 #[.agg #[.int .i64 o, .int .i64 a, .int .i64 b]] w (PutPost o a b w) := by
  have HC := Lib.hid (check_any o a b (w.alloc (insBox o a b)) (hw.next ((Below.refl _ _).alloc (Nat.le_refl _) _)))
  have HW : Hid (putL o a b = []) := Lib.hid (by unfold putL; rw [if_neg hz])
  have hz1 : (w.alloc (insBox o a b)).heap.size = w.heap.size + 1 := World.size_alloc w _
  unfold PutPost
  rw [HW.out]
  have hn : (((chk o a b : Nat) : Int) != 0) = true := by simpa using hz
  have HB0 : Hid (Below w.heap.size w (w.alloc (insBox o a b))) := Lib.hid ((Below.refl _ w).alloc (Nat.le_refl _) _)
  clear hz HW hw
  generalize chk o a b = q at *
  go_enter Tryz.func48, Tryz.ntmps48
  unfold insBox at HC hz1 HB0
  go_wp2_with fail
  refine HC.out.mono ?_
  rintro e w1 ⟨rfl, hb⟩
  have HB1 := Lib.hid (HB0.out.trans (hb.mono (by omega)))
  clear hb HC HB0
  go_wp2_with fail
  go_ret2
  exact ⟨rfl, HB1.out⟩
theorem put_any (o a b : Int) (w : World) (hw : Okw w) : Calls Tryz.prog 48 #[.agg #[.int .i64 o, .int .i64 a, .int .i64 b]] w (PutPost o a b w) := by
  by_cases h : chk o a b = 0
  · exact put_good o a b h w hw
  · exact put_bad o a b h w hw
end Go.Proofs.YtahejekcfgkiaaaGreatDoor.inst

/-
  Three cells at once, and a reader of the document's in a block. No condition.
-/
namespace Go.Proofs.YtahejekcfgkiaaaGreatDoor.objs
open Go.RowKit Go.ChangeShapes
set_option linter.unusedVariables false

/-- Three cells of a block, set one behind the other. -/
abbrev put3 (W : World) (b : Nat) (x y z : Value) : World := ((W.setCell ⟨b, 0, none⟩ x).setCell ⟨b, 1, none⟩ y).setCell ⟨b, 2, none⟩ z
theorem put3_same {W : World} {b : Nat} {u v m : Value} {T : TypeId} (h : W.heap[b]? = some (.cells #[u, v, m] T (0, 0))) (x y z : Value) : (put3 W b x y z).heap[b]? = some (.cells #[x, y, z] T (0, 0)) := by
  simp [World.setCell, Array.getElem?_modify, h]
theorem cells3 {W : World} {b : Nat} {x y z : Value} {T : TypeId} (h : W.heap[b]? = some (.cells #[x, y, z] T (0, 0))) :
    W.cell? ⟨b, 0, none⟩ = some x ∧ W.cell? ⟨b, 1, none⟩ = some y ∧ W.cell? ⟨b, 2, none⟩ = some z ∧ W.frozen? ⟨b, 0, none⟩ = false ∧ W.frozen? ⟨b, 1, none⟩ = false ∧ W.frozen? ⟨b, 2, none⟩ = false := by
  simp [World.cell?, World.frozen?, h]
theorem put3_far {W : World} {b c : Nat} (h : c ≠ b) (x y z : Value) : (put3 W b x y z).heap[c]? = W.heap[c]? :=
  (Below.heap_setCell _ ⟨b, 2, none⟩ _ c h).trans ((Below.heap_setCell _ ⟨b, 1, none⟩ _ c h).trans (Below.heap_setCell _ ⟨b, 0, none⟩ _ c h))
theorem put3_below {B b : Nat} {a W : World} (h : Below B a W) (hb : B ≤ b) (x y z : Value) : Below B a (put3 W b x y z) :=
  ((h.setCell (p := ⟨b, 0, none⟩) hb _).setCell (p := ⟨b, 1, none⟩) hb _).setCell (p := ⟨b, 2, none⟩) hb _

/-- A reader of the document's, in a block. -/
def RBox (t : ByteArray) (k err : Nat) : Obj := .cells #[.string t, .int .i64 (k : Int), .int .i64 (err : Int)] 79
def RNil : Obj := .cells #[.string ⟨#[]⟩, .int .i64 0, .int .i64 0] 79
end Go.Proofs.YtahejekcfgkiaaaGreatDoor.objs

/-
  What the program puts of a program piece by piece (typed over the code of 4b95722): bytes as they are, counts, and a function that may be. The writer lies in a block of its own; the tables must lie where their initialisers lay them.
-/
namespace Go.Proofs.YtahejekcfgkiaaaGreatDoor.pgm
open Go.RowKit Go.ChangeShapes
open Go.Proofs.YtahejekcfgkiaaaGreatDoor.octet (OutAt Frm Spare NoBytes byte_keep num_keep num Fits bof bof_nat size_mk num_length_le)
open Go.Proofs.YtahejekcfgkiaaaGreatDoor.objs (De zero DAt cells3)
set_option linter.unusedVariables false

/-- What a writer's call leaves: the bytes behind, and what else stayed. -/
def RawPost (base bo : Nat) (L : List UInt8) (w : World) (e : Ending) (w' : World) : Prop := e = .returned (.tuple #[]) ∧ OutAt w' base bo L ∧ Frm base bo w w' ∧ Spare bo w w'
theorem take_byte {l : List UInt8} {k : Nat} (h : k < l.length) : l.take (k + 1) = l.take k ++ [l.getD k 0] := by
  rw [List.take_add_one, List.getD_eq_getElem?_getD, List.getElem?_eq_getElem h]
  rfl
theorem index_at (y : List UInt8) (k : Nat) (h : k < y.length) (W : World) : (Instr.index 9 (.string ⟨y.toArray⟩) (.int .i64 (k : Int))).run Tryz.prog W = .ok (.int .u8 ((y.getD k 0).toNat : Int)) W := by
  have hsz := size_mk y
  have hg : y.getD k 0 = y[k] := by rw [List.getD_eq_getElem?_getD, List.getElem?_eq_getElem h]; rfl
  rw [run_index_string W 9 ⟨y.toArray⟩ .i64 (k : Int) Tryz.underlying9, dif_pos ⟨by omega, by rw [hsz]; omega⟩, hg]
  rfl

set_option maxHeartbeats 1000000 in
theorem raw_any (w : World) (base bo : Nat) (L y : List UInt8) (ho : OutAt w base bo L) (hl : L.length + y.length ≤ 140737488355000) :
    Calls Tryz.prog 19 #[.pointer (some ⟨bo, 0, none⟩), .string ⟨y.toArray⟩] w (RawPost base bo (L ++ y) w) := by
  have hsz := size_mk y
  have HO := Lib.hid ho
  unfold RawPost
  clear ho
  go_enter Tryz.func19, Tryz.ntmps19
  go_wp2_with fail
  go_loopw [7] (fun i wr => ∃ k : Nat, k ≤ y.length ∧ i = .int .i64 (k : Int) ∧ Hid (OutAt wr base bo (L ++ y.take k)) ∧ Hid (Frm base bo w wr ∧ Spare bo w wr)) (fun i _ => y.length - (intOf i).toNat)
  case atStart => exact ⟨0, Nat.zero_le _, rfl, by simpa using HO, Lib.hid ⟨Frm.refl _ _ _, Spare.refl _ _⟩⟩
  case round =>
    obtain ⟨k, hk, rfl, HW, HF⟩ := hrel
    by_cases hlt : k < y.length
    · have hlt' : (k : Int) < (y.length : Int) := by omega
      have hix := index_at y k hlt
      have HT := Lib.hid (take_byte hlt)
      have hlen : (L ++ y.take k).length + 1 ≤ 140737488355328 := by rw [List.length_append, List.length_take]; omega
      have hc : (y.getD k 0).toNat < 256 := UInt8.toNat_lt _
      have HC : Hid (UInt8.ofNat (y.getD k 0).toNat = y.getD k 0) := Lib.hid UInt8.ofNat_toNat
      generalize y.getD k 0 = c at *
      generalize c.toNat = m at *
      have HB := Lib.hid (byte_keep wr base bo (L ++ y.take k) (m : Int) HW.out hlen)
      rw [bof_nat, HC.out] at HB
      go_wp2_with fail
      refine HB.out.mono ?_
      rintro e w1 ⟨rfl, h1, h2, h3⟩
      have HW1 := Lib.hid h1
      have HF1 := Lib.hid (And.intro (HF.out.1.trans h2) (HF.out.2.trans h3))
      clear h1 h2 h3 HB
      go_wp2
      go_roundw
      case rel => exact ⟨k + 1, by omega, by go_num, by rw [HT.out, ← List.append_assoc]; exact HW1, HF1⟩
      case measure => simp [intOf]; omega
    · obtain rfl : k = y.length := by omega
      rw [List.take_length] at HW
      go_wp2
      go_end0
      exact ⟨rfl, HW.out, HF.out.1, HF.out.2⟩

theorem cnt_any (w : World) (base bo : Nat) (L : List UInt8) (n : Nat) (hn : n ≤ 1000000) (ho : OutAt w base bo L) (hl : L.length ≤ 140737488355000) :
    Calls Tryz.prog 21 #[.pointer (some ⟨bo, 0, none⟩), .int .i64 (n : Int)] w (RawPost base bo (L ++ num n) w) := by
  have HN := Lib.hid (num_keep w base bo L n (by unfold Fits; omega) ho (by omega))
  have hw : IntKind.u64.wrap (n : Int) = (n : Int) := by rw [IntKind.wrap_u64]; omega
  unfold RawPost
  clear ho
  go_enter Tryz.func21, Tryz.ntmps21
  go_wp2_with fail
  refine HN.out.mono ?_
  rintro e w1 ⟨rfl, h1, h2, h3⟩
  go_wp2
  go_end0
  exact ⟨rfl, h1, h2, h3⟩
end Go.Proofs.YtahejekcfgkiaaaGreatDoor.pgm

/-
  The program's own answer whether an object is of a kind that a letter stands for (typed over the code of 392f5a9). No condition but that a list is no longer than an int can say.
-/
namespace Go.Proofs.YtahejekcfgkiaaaGreatDoor.objs
open Go.RowKit Go.ChangeShapes
set_option linter.unusedVariables false

theorem fits_out {l : List De} {c : UInt8} {o : Int} (h : ¬ (0 ≤ o ∧ o < (l.length : Int))) : fits l c o = false := by
  unfold fits
  rw [decide_eq_false h, Bool.false_and]
theorem u8_of {c k : UInt8} (h : ((c.toNat : Int) == (k.toNat : Int)) = true) : c = k := by
  have h1 := eq_of_beq h
  exact UInt8.toNat_inj.1 (by omega)
theorem u8_not {c k : UInt8} (h : ((c.toNat : Int) == (k.toNat : Int)) = false) : c ≠ k := fun e => by
  subst e
  simp at h
theorem kinds_rest {c : UInt8} {x : Int} (h0 : ((c.toNat : Int) == 117) = false) (h1 : ((c.toNat : Int) == 115) = false) (h2 : ((c.toNat : Int) == 112) = false) (h3 : ((c.toNat : Int) == 99) = false) (h4 : ((c.toNat : Int) == 109) = false) (h5 : ((c.toNat : Int) == 98) = false) (h6 : ((c.toNat : Int) == 118) = false) (h7 : ((c.toNat : Int) == 113) = false) :
    (kindsOf c).contains x = false := by
  unfold kindsOf
  rw [if_neg (u8_not (k := 117) h0), if_neg (u8_not (k := 115) h1), if_neg (u8_not (k := 112) h2), if_neg (u8_not (k := 99) h3), if_neg (u8_not (k := 109) h4), if_neg (u8_not (k := 98) h5), if_neg (u8_not (k := 118) h6), if_neg (u8_not (k := 113) h7)]
  rfl
theorem kinds_one {c : UInt8} {x m : Int} (h : kindsOf c = [m]) : (x == m) = (kindsOf c).contains x := by rw [h, List.contains_cons, List.contains_nil, Bool.or_false]
theorem kinds_two {c : UInt8} {x m n : Int} (h : kindsOf c = [m, n]) : (x == m || x == n) = (kindsOf c).contains x := by rw [h, List.contains_cons, List.contains_cons, List.contains_nil, Bool.or_false]

set_option maxRecDepth 100000 in
set_option maxHeartbeats 2000000 in
theorem fit_any (A : Option Addr) (cap : Nat) (l : List De) (c : UInt8) (o : Int) (hl : l.length ≤ 9223372036854775807) (w : World) (hA : DAt w A l) :
    Calls Tryz.prog 95 #[.slice A l.length cap, .int .u8 (c.toNat : Int), .int .i64 o] w fun e w' => e = .returned (.bool (fits l c o)) ∧ w = w' := by
  by_cases h0 : o < 0
  · have HE : Hid (fits l c o = false) := Lib.hid (fits_out (by omega))
    rw [HE.out]
    have hd : decide (o < 0) = true := by simpa using h0
    clear hA h0
    go_enter Tryz.func95, Tryz.ntmps95
    go_wp2_with fail
    go_ret
    exact ⟨rfl, rfl⟩
  · have hd : decide (o < 0) = false := by simpa using h0
    by_cases h1 : (l.length : Int) ≤ o
    · have HE : Hid (fits l c o = false) := Lib.hid (fits_out (by omega))
      rw [HE.out]
      have hd2 : decide ((l.length : Int) ≤ o) = true := by simpa using h1
      clear hA h0 h1
      go_enter Tryz.func95, Tryz.ntmps95
      go_wp2_with fail
      go_ret
      exact ⟨rfl, rfl⟩
    · obtain ⟨m, rfl⟩ : ∃ m : Nat, o = (m : Int) := ⟨o.toNat, by omega⟩
      have hm : m < l.length := by omega
      have hd2 : decide ((l.length : Int) ≤ (m : Int)) = false := by simpa using h1
      have hm2 : (m : Int) < (l.length : Int) := by omega
      have hm0 : (0 : Int) ≤ (m : Int) := by omega
      have HF : Hid (fits l c m = (kindsOf c).contains (l.getD m zero).1) := Lib.hid (by unfold fits; rw [decide_eq_true (by omega), Bool.true_and, Int.toNat_natCast])
      rw [HF.out]
      obtain ⟨b, off, rfl, hb, c0, _, _⟩ := hA m hm
      generalize (l.getD m zero).1 = x at *
      clear hA h0 h1 HF
      go_enter Tryz.func95, Tryz.ntmps95
      go_wp2
      all_goals go_ret
      all_goals refine ⟨ret_bool ?_, rfl⟩
      all_goals first
        | exact (kinds_rest ‹_› ‹_› ‹_› ‹_› ‹_› ‹_› ‹_› ‹_›).symm
        | (have hq : c = 117 := u8_of (k := 117) ‹((c.toNat : Int) == 117) = true›; subst hq; first | exact kinds_one rfl | exact kinds_two rfl | (rw [← kinds_two (x := x) (m := 1) (n := 2) rfl]; simp [*]))
        | (have hq : c = 115 := u8_of (k := 115) ‹((c.toNat : Int) == 115) = true›; subst hq; exact kinds_one rfl)
        | (have hq : c = 112 := u8_of (k := 112) ‹((c.toNat : Int) == 112) = true›; subst hq; exact kinds_one rfl)
        | (have hq : c = 99 := u8_of (k := 99) ‹((c.toNat : Int) == 99) = true›; subst hq; exact kinds_one rfl)
        | (have hq : c = 109 := u8_of (k := 109) ‹((c.toNat : Int) == 109) = true›; subst hq; exact kinds_one rfl)
        | (have hq : c = 98 := u8_of (k := 98) ‹((c.toNat : Int) == 98) = true›; subst hq; exact kinds_one rfl)
        | (have hq : c = 118 := u8_of (k := 118) ‹((c.toNat : Int) == 118) = true›; subst hq; exact kinds_one rfl)
        | (have hq : c = 113 := u8_of (k := 113) ‹((c.toNat : Int) == 113) = true›; subst hq; first | exact kinds_two rfl | (rw [← kinds_two (x := x) (m := 1) (n := 6) rfl]; simp [*]))
end Go.Proofs.YtahejekcfgkiaaaGreatDoor.objs

/-
  The program's own answer what is wrong with an object (typed over the code of 392f5a9): for every object. The table of names must lie where its initialiser lays it.
-/
namespace Go.Proofs.YtahejekcfgkiaaaGreatDoor.objs
open Go.RowKit Go.ChangeShapes
open Go.Proofs.YtahejekcfgkiaaaGreatDoor.word (Word)
open Go.Proofs.YtahejekcfgkiaaaGreatDoor.span (within_any)
set_option linter.unusedVariables false

/-- May the numbers be that an object's kind has? -/
def rng (l : List De) (d : De) : Bool :=
  if d.1 = 3 then decide (1 ≤ d.2.2 ∧ d.2.2 ≤ 1000) && decide (0 ≤ d.2.1 ∧ d.2.1 ≤ d.2.2) else if d.1 = 6 then decide (1 ≤ d.2.1 ∧ d.2.1 ≤ 1000) else if d.1 = 7 then decide (Word d.2.1) && fits l 117 d.2.2 else true
/-- Has it a number that its kind has not? -/
def more (d : De) : Bool := if d.1 = 3 ∨ d.1 = 7 then false else if d.1 = 6 then d.2.2 != 0 else (d.2.1 != 0 || d.2.2 != 0)
theorem one_6 {l : List De} {d : De} (h : ¬ (1 ≤ d.1 ∧ d.1 ≤ 7)) : one l d = 6 := by unfold one; rw [if_pos (by omega)]
theorem one_parts {l : List De} {d : De} (h : 1 ≤ d.1 ∧ d.1 ≤ 7) : one l d = if rng l d = false then 1 else if more d = true then 2 else 0 := by
  obtain ⟨k, a, b⟩ := d
  dsimp only at h
  unfold one rng more
  dsimp only
  rw [if_neg (by omega)]
  by_cases h3 : k = 3
  · subst h3
    simp only [true_and, if_true, true_or, Bool.false_eq_true, if_false]
    by_cases hr : b < 1 ∨ 1000 < b ∨ a < 0 ∨ b < a
    · rw [if_pos hr, if_pos]
      rw [← Bool.decide_and, decide_eq_false_iff_not]
      omega
    · rw [if_neg hr, if_neg (by omega), if_neg (by omega), if_neg (by omega), if_neg]
      rw [← Bool.decide_and, decide_eq_false_iff_not]
      omega
  · by_cases h6 : k = 6
    · subst h6
      rw [if_neg (by omega), if_neg (by omega : ¬ ((6 : Int) = 3)), if_pos rfl, if_neg (by omega : ¬ ((6 : Int) = 3 ∨ (6 : Int) = 7)), if_pos rfl]
      by_cases hr : a < 1 ∨ 1000 < a
      · rw [if_pos ⟨rfl, hr⟩, if_pos (by rw [decide_eq_false_iff_not]; omega)]
      · have hd : decide (1 ≤ a ∧ a ≤ 1000) = true := by rw [decide_eq_true_iff]; omega
        rw [if_neg (fun h => hr h.2), if_neg (fun h => by omega), hd]
        by_cases hb : b = 0
        · subst hb
          rw [if_neg (by omega)]
          rfl
        · rw [if_pos (by omega), if_neg (by decide : ¬ true = false), if_pos (by simpa using hb)]
    · by_cases h7 : k = 7
      · subst h7
        rw [if_neg (by omega), if_neg (by omega), if_neg (by omega : ¬ ((7 : Int) = 3)), if_neg (by omega : ¬ ((7 : Int) = 6)), if_pos rfl, if_pos (by omega : (7 : Int) = 3 ∨ (7 : Int) = 7)]
        by_cases hw : Word a
        · rw [decide_eq_true hw, Bool.true_and]
          cases hf : fits l 117 b with
          | true =>
            rw [if_neg (by rintro ⟨_, h | h⟩; exact h hw; cases h), if_neg (by omega), if_neg (by decide), if_neg (by decide)]
          | false => rw [if_pos ⟨rfl, .inr rfl⟩, if_pos rfl]
        · rw [decide_eq_false hw, Bool.false_and, if_pos ⟨rfl, .inl hw⟩, if_pos rfl]
      · rw [if_neg (h3 : ¬ k = 3), if_neg (h6 : ¬ k = 6), if_neg (h7 : ¬ k = 7), if_neg (by omega : ¬ (k = 3 ∨ k = 7)), if_neg (fun h => h3 h.1), if_neg (fun h => h6 h.1), if_neg (fun h => h7 h.1), if_neg (by decide : ¬ true = false), if_neg h6]
        by_cases ha : a = 0
        · by_cases hb : b = 0
          · subst ha hb
            rw [if_neg (by omega)]
            rfl
          · rw [if_pos (by omega), if_pos]
            rw [Bool.or_eq_true]
            exact .inr (by simpa using hb)
        · rw [if_pos (by omega), if_pos]
          rw [Bool.or_eq_true]
          exact .inl (by simpa using ha)

set_option maxHeartbeats 1000000 in
theorem range_sem (A : Option Addr) (cap : Nat) (l : List De) (a b : Int) (w : World) :
    Calls Tryz.prog 75 #[.slice A l.length cap, .agg #[.int .i64 3, .int .i64 a, .int .i64 b]] w fun e w' => e = .returned (.bool (rng l (3, a, b))) ∧ Below w.heap.size w w' := by
  have HB := Lib.hid (box_below w 3 a b)
  have H1 := fun W => Lib.hid (within_any b 1 1000 W)
  have H2 := fun W => Lib.hid (within_any a 0 b W)
  have HE : Hid (rng l (3, a, b) = (decide (1 ≤ b ∧ b ≤ 1000) && decide (0 ≤ a ∧ a ≤ b))) := Lib.hid rfl
  rw [HE.out]
  unfold declBox at HB
  generalize decide (1 ≤ b ∧ b ≤ 1000) = p at *
  generalize decide (0 ≤ a ∧ a ≤ b) = q at *
  clear HE
  cases p with
  | true =>
    go_enter Tryz.func75, Tryz.ntmps75
    go_wp2_with fail
    refine (H1 _).out.mono ?_
    rintro e w1 ⟨rfl, rfl⟩
    go_wp2_with fail
    refine (H2 _).out.mono ?_
    rintro e w1 ⟨rfl, rfl⟩
    go_wp2
    go_ret
    exact ⟨rfl, HB.out⟩
  | false =>
    go_enter Tryz.func75, Tryz.ntmps75
    go_wp2_with fail
    refine (H1 _).out.mono ?_
    rintro e w1 ⟨rfl, rfl⟩
    go_wp2
    go_ret
    exact ⟨rfl, HB.out⟩
set_option maxHeartbeats 1000000 in
theorem range_pool (A : Option Addr) (cap : Nat) (l : List De) (a b : Int) (w : World) :
    Calls Tryz.prog 75 #[.slice A l.length cap, .agg #[.int .i64 6, .int .i64 a, .int .i64 b]] w fun e w' => e = .returned (.bool (rng l (6, a, b))) ∧ Below w.heap.size w w' := by
  have HB := Lib.hid (box_below w 6 a b)
  have H1 := fun W => Lib.hid (within_any a 1 1000 W)
  have HE : Hid (rng l (6, a, b) = decide (1 ≤ a ∧ a ≤ 1000)) := Lib.hid rfl
  rw [HE.out]
  unfold declBox at HB
  generalize decide (1 ≤ a ∧ a ≤ 1000) = p at *
  clear HE
  go_enter Tryz.func75, Tryz.ntmps75
  go_wp2_with fail
  refine (H1 _).out.mono ?_
  rintro e w1 ⟨rfl, rfl⟩
  go_wp2
  go_ret
  exact ⟨rfl, HB.out⟩
set_option maxHeartbeats 1000000 in
theorem range_cell (A : Option Addr) (cap : Nat) (l : List De) (a b : Int) (hl : l.length ≤ 9223372036854775807) (w : World) (hA : DAt w A l) :
    Calls Tryz.prog 75 #[.slice A l.length cap, .agg #[.int .i64 7, .int .i64 a, .int .i64 b]] w fun e w' => e = .returned (.bool (rng l (7, a, b))) ∧ Below w.heap.size w w' := by
  have hb0 := box_below w 7 a b
  have HB := Lib.hid hb0
  have H1 := fun W => Lib.hid (Go.Proofs.YtahejekcfgkiaaaGreatDoor.word.fits_any a W)
  have H2 := Lib.hid (fit_any A cap l 117 b hl _ (hA.next hb0))
  rw [show (((117 : UInt8).toNat : Nat) : Int) = 117 from rfl] at H2
  have HE : Hid (rng l (7, a, b) = (decide (Word a) && fits l 117 b)) := Lib.hid rfl
  rw [HE.out]
  unfold declBox at HB H2
  generalize decide (Word a) = p at *
  generalize fits l 117 b = q at *
  clear HE hA hb0
  cases p with
  | true =>
    go_enter Tryz.func75, Tryz.ntmps75
    go_wp2_with fail
    refine (H1 _).out.mono ?_
    rintro e w1 ⟨rfl, rfl⟩
    go_wp2_with fail
    refine H2.out.mono ?_
    rintro e w1 ⟨rfl, rfl⟩
    go_wp2
    go_ret
    exact ⟨rfl, HB.out⟩
  | false =>
    go_enter Tryz.func75, Tryz.ntmps75
    go_wp2_with fail
    refine (H1 _).out.mono ?_
    rintro e w1 ⟨rfl, rfl⟩
    go_wp2
    go_ret
    exact ⟨rfl, HB.out⟩
set_option maxHeartbeats 1000000 in
theorem range_bare (A : Option Addr) (cap : Nat) (l : List De) (k a b : Int) (h3 : k ≠ 3) (h6 : k ≠ 6) (h7 : k ≠ 7) (w : World) :
    Calls Tryz.prog 75 #[.slice A l.length cap, .agg #[.int .i64 k, .int .i64 a, .int .i64 b]] w fun e w' => e = .returned (.bool (rng l (k, a, b))) ∧ Below w.heap.size w w' := by
  have HB := Lib.hid (box_below w k a b)
  have HE : Hid (rng l (k, a, b) = true) := Lib.hid (by unfold rng; rw [if_neg h3, if_neg h6, if_neg h7])
  rw [HE.out]
  have e3 : (k == 3) = false := by simpa using h3
  have e6 : (k == 6) = false := by simpa using h6
  have e7 : (k == 7) = false := by simpa using h7
  clear HE h3 h6 h7
  go_enter Tryz.func75, Tryz.ntmps75
  go_wp2
  go_ret
  exact ⟨rfl, HB.out⟩
theorem range_any (A : Option Addr) (cap : Nat) (l : List De) (d : De) (hl : l.length ≤ 9223372036854775807) (w : World) (hA : DAt w A l) :
    Calls Tryz.prog 75 #[.slice A l.length cap, .agg #[.int .i64 d.1, .int .i64 d.2.1, .int .i64 d.2.2]] w fun e w' => e = .returned (.bool (rng l d)) ∧ Below w.heap.size w w' := by
  obtain ⟨k, a, b⟩ := d
  dsimp only
  by_cases h3 : k = 3
  · subst h3; exact range_sem A cap l a b w
  · by_cases h6 : k = 6
    · subst h6; exact range_pool A cap l a b w
    · by_cases h7 : k = 7
      · subst h7; exact range_cell A cap l a b hl w hA
      · exact range_bare A cap l k a b h3 h6 h7 w

set_option maxHeartbeats 1000000 in
theorem more_any (d : De) (w : World) :
    Calls Tryz.prog 76 #[.agg #[.int .i64 d.1, .int .i64 d.2.1, .int .i64 d.2.2]] w fun e w' => e = .returned (.bool (more d)) ∧ Below w.heap.size w w' := by
  obtain ⟨k, a, b⟩ := d
  dsimp only
  have HB := Lib.hid (box_below w k a b)
  unfold declBox at HB
  by_cases h : k = 3 ∨ k = 7
  · have HE : Hid (more (k, a, b) = false) := Lib.hid (by unfold more; rw [if_pos h])
    rw [HE.out]
    rcases h with rfl | rfl
    all_goals
      go_enter Tryz.func76, Tryz.ntmps76
      go_wp2
      go_ret
      exact ⟨rfl, HB.out⟩
  · have e3 : (k == 3) = false := by simp; omega
    have e7 : (k == 7) = false := by simp; omega
    by_cases h6 : k = 6
    · subst h6
      have HE : Hid (more (6, a, b) = (b != 0)) := Lib.hid (by unfold more; rw [if_neg h, if_pos rfl])
      rw [HE.out]
      clear h
      go_enter Tryz.func76, Tryz.ntmps76
      go_wp2
      go_ret
      exact ⟨rfl, HB.out⟩
    · have HE : Hid (more (k, a, b) = (a != 0 || b != 0)) := Lib.hid (by unfold more; rw [if_neg h, if_neg h6])
      rw [HE.out]
      have e6 : (k == 6) = false := by simpa using h6
      clear h h6 HE
      cases ha : (a != 0) with
      | true =>
        rw [Bool.true_or]
        go_enter Tryz.func76, Tryz.ntmps76
        go_wp2
        go_ret
        exact ⟨rfl, HB.out⟩
      | false =>
        rw [Bool.false_or]
        go_enter Tryz.func76, Tryz.ntmps76
        go_wp2
        go_ret
        exact ⟨rfl, HB.out⟩

/-- An object that came in, in a block of its own. -/
structure Bx (w : World) (A : Option Addr) (l : List De) (d : De) (W : World) : Prop where
  below : Below w.heap.size w W
  blk : W.heap[w.heap.size]? = some (.cells #[.int .i64 d.1, .int .i64 d.2.1, .int .i64 d.2.2] 44 (0, 0))
  list : DAt W A l
  ok : Okd W
theorem bx_new {w : World} {A : Option Addr} {l : List De} (d : De) (hA : DAt w A l) (hw : Okd w) : Bx w A l d (w.alloc (.cells #[.int .i64 d.1, .int .i64 d.2.1, .int .i64 d.2.2] 44)) :=
  have hb : Below w.heap.size w (w.alloc (.cells #[.int .i64 d.1, .int .i64 d.2.1, .int .i64 d.2.2] 44)) := (Below.refl _ _).alloc (Nat.le_refl _) _
  ⟨hb, heap_alloc_new w _, hA.next hb, hw.next hb⟩
theorem Bx.next {w W W' : World} {A : Option Addr} {l : List De} {d : De} (h : Bx w A l d W) (hb : Below W.heap.size W W') : Bx w A l d W' := by
  have h1 := lt_of_block h.blk
  exact ⟨h.below.trans (hb.mono (Nat.le_of_lt h1)), (hb.block _ h1).trans h.blk, h.list.next hb, h.ok.next hb⟩
theorem Bx.cells {w W : World} {A : Option Addr} {l : List De} {d : De} (h : Bx w A l d W) : W.cell? ⟨w.heap.size, 0, none⟩ = some (.int .i64 d.1) ∧ W.cell? ⟨w.heap.size, 1, none⟩ = some (.int .i64 d.2.1) ∧ W.cell? ⟨w.heap.size, 2, none⟩ = some (.int .i64 d.2.2) := by
  unfold World.cell?
  rw [h.blk]
  exact ⟨rfl, rfl, rfl⟩

set_option maxHeartbeats 2000000 in
theorem one_any (A : Option Addr) (cap : Nat) (l : List De) (d : De) (hl : l.length ≤ 9223372036854775807) (w : World) (hA : DAt w A l) (hw : Okd w) :
    Calls Tryz.prog 49 #[.slice A l.length cap, .agg #[.int .i64 d.1, .int .i64 d.2.1, .int .i64 d.2.2]] w (OnePost l d w) := by
  have HX := Lib.hid (bx_new d hA hw)
  have HK := fun W hW => Lib.hid (known_any d.1 W hW)
  have HR := fun W hW => Lib.hid (range_any A cap l d hl W hW)
  have HM := fun W => Lib.hid (more_any d W)
  have H6 := fun h => Lib.hid (one_6 (l := l) (d := d) h)
  have HP := fun h => Lib.hid (one_parts (l := l) (d := d) h)
  clear hA hw
  unfold OnePost
  generalize one l d = v at *
  generalize rng l d = r at *
  generalize more d = m at *
  obtain ⟨k, a, b⟩ := d
  dsimp only at HX HK HR HM H6 HP ⊢
  obtain ⟨c0, c1, c2⟩ := HX.out.cells
  by_cases hk : 1 ≤ k ∧ k ≤ 7
  · rw [decide_eq_true hk] at HK
    have HV := HP hk
    clear H6 HP hk
    go_enter Tryz.func49, Tryz.ntmps49
    go_wp2_with fail
    refine (HK _ HX.out.ok).out.mono ?_
    rintro e w1 ⟨rfl, rfl⟩
    go_wp2_with fail
    refine (HR _ HX.out.list).out.mono ?_
    rintro e w1 ⟨rfl, hb1⟩
    have HX1 := Lib.hid (HX.out.next hb1)
    clear c0 c1 c2 hb1 HX HR HK
    obtain ⟨c0, c1, c2⟩ := HX1.out.cells
    cases r with
    | false =>
      go_wp2
      go_ret
      exact ⟨ret_int (by rw [HV.out]; rfl), HX1.out.below⟩
    | true =>
      go_wp2_with fail
      refine (HM _).out.mono ?_
      rintro e w1 ⟨rfl, hb1⟩
      have HX2 := Lib.hid (HX1.out.next hb1)
      clear c0 c1 c2 hb1 HX1 HM
      cases m with
      | true =>
        go_wp2
        go_ret
        exact ⟨ret_int (by rw [HV.out]; rfl), HX2.out.below⟩
      | false =>
        go_wp2
        go_ret
        exact ⟨ret_int (by rw [HV.out]; rfl), HX2.out.below⟩
  · rw [decide_eq_false hk] at HK
    have HV := H6 hk
    clear H6 HP hk HR HM
    go_enter Tryz.func49, Tryz.ntmps49
    go_wp2_with fail
    refine (HK _ HX.out.ok).out.mono ?_
    rintro e w1 ⟨rfl, rfl⟩
    go_wp2
    go_ret
    exact ⟨ret_int (by rw [HV.out]; rfl), HX.out.below⟩
end Go.Proofs.YtahejekcfgkiaaaGreatDoor.objs

/-
  The program's own answer where the first object stands that may not be, and why (typed over the code of 392f5a9): for every list that an int can count. The table of names must lie where its initialiser lays it.
-/
namespace Go.Proofs.YtahejekcfgkiaaaGreatDoor.objs
open Go.RowKit Go.ChangeShapes
set_option linter.unusedVariables false

/-- Between two objects. -/
structure Cs (w : World) (A : Option Addr) (l : List De) (W : World) : Prop where
  below : Below w.heap.size w W
  list : DAt W A l
  ok : Okd W
theorem Cs.next {w W W' : World} {A : Option Addr} {l : List De} (h : Cs w A l W) (hb : Below W.heap.size W W') : Cs w A l W' := ⟨h.below.trans (hb.mono h.below.size), h.list.next hb, h.ok.next hb⟩
theorem Cs.box {w W : World} {A : Option Addr} {l : List De} (h : Cs w A l W) (d : De) : Cs w A l (W.alloc (declBox d.1 d.2.1 d.2.2)) := h.next ((Below.refl _ _).alloc (Nat.le_refl _) _)
theorem box_at (W : World) (d : De) : (W.alloc (declBox d.1 d.2.1 d.2.2)).cell? ⟨W.heap.size, 0, none⟩ = some (.int .i64 d.1) ∧ (W.alloc (declBox d.1 d.2.1 d.2.2)).cell? ⟨W.heap.size, 1, none⟩ = some (.int .i64 d.2.1) ∧ (W.alloc (declBox d.1 d.2.1 d.2.2)).cell? ⟨W.heap.size, 2, none⟩ = some (.int .i64 d.2.2) := by
  unfold World.cell?
  rw [heap_alloc_new W _]
  exact ⟨rfl, rfl, rfl⟩

set_option maxHeartbeats 1000000 in
theorem check_long (A : Option Addr) (cap n : Nat) (hn : 32 < n) (w : World) :
    Calls Tryz.prog 25 #[.slice A n cap] w (ChkPost (0, 4) w) := by
  unfold ChkPost
  have hd : decide ((32 : Int) < (n : Int)) = true := by simp; omega
  clear hn
  go_enter Tryz.func25, Tryz.ntmps25
  go_wp2_with fail
  go_ret2
  exact ⟨rfl, Below.refl _ _⟩
set_option maxRecDepth 100000 in
set_option maxHeartbeats 4000000 in
theorem check_any (A : Option Addr) (cap : Nat) (l : List De) (hl : l.length ≤ 9223372036854775807) (w : World) (hA : DAt w A l) (hw : Okd w) :
    Calls Tryz.prog 25 #[.slice A l.length cap] w (ChkPost (chk l) w) := by
  by_cases h32 : 32 < l.length
  · rw [chk_long h32]
    exact check_long A cap l.length h32 w
  · obtain ⟨p, hp⟩ : ∃ p, p = chk l := ⟨_, rfl⟩
    have HP := Lib.hid hp
    rw [← hp]
    unfold ChkPost
    have hd : decide ((32 : Int) < (l.length : Int)) = false := by simp; omega
    have HC0 : Hid (Cs w A l w) := Lib.hid ⟨Below.refl _ _, hA, hw⟩
    have H32 := Lib.hid h32
    clear hA hw h32 hp
    go_enter Tryz.func25, Tryz.ntmps25
    go_wp2_with fail
    go_loopw [12] (fun i wr => ∃ j : Nat, j ≤ l.length ∧ i = .int .i64 (j : Int) ∧ Hid (j ≤ bad l) ∧ Hid (Cs w A l wr)) (fun i _ => l.length - (intOf i).toNat)
    case atStart => exact ⟨0, Nat.zero_le _, rfl, Lib.hid (Nat.zero_le _), HC0⟩
    case round =>
      obtain ⟨j, hj, rfl, HJ, HS⟩ := hrel
      by_cases hlt : j < l.length
      · have HO := fun W (hW : Cs w A l W) => Lib.hid (one_any A cap l (l.getD j zero) hl W hW.list hW.ok)
        obtain ⟨b, off, rfl, hb, c0, c1, c2⟩ := HS.out.list j hlt
        have hlt' : (j : Int) < (l.length : Int) := by omega
        unfold OnePost at HO
        have HBad := fun h => Lib.hid (chk_bad H32.out HJ.out hlt h)
        have HNx := fun h => Lib.hid (bad_next HJ.out hlt h)
        generalize l.getD j zero = d at *
        generalize one l d = q at *
        have HS1 := Lib.hid (HS.out.box d)
        have hbx := box_at wr d
        obtain ⟨k, x, y⟩ := d
        unfold declBox at HS1 hbx
        dsimp only at HO c0 c1 c2 HS1 hbx
        clear HS
        go_upto_region 6 with fail
        clear c0 c1 c2
        generalize wr.alloc (.cells #[.int .i64 k, .int .i64 x, .int .i64 y] 44) = W1 at *
        generalize wr.heap.size = g at *
        obtain ⟨c0, c1, c2⟩ := hbx
        by_cases hq : q = 0
        · subst hq
          have HE := HNx rfl
          clear HBad HNx
          go_wp2_with fail
          refine (HO _ HS1.out).out.mono ?_
          rintro e w1 ⟨rfl, hb1⟩
          have HS2 := Lib.hid (HS1.out.next hb1)
          clear hb1 c0 c1 c2
          go_wp2
          go_roundw
          case rel => exact ⟨j + 1, by omega, by go_num, HE, HS2⟩
          case measure => simp [intOf]; omega
        · have HE := HBad hq
          have hq' : ((q : Int) != 0) = true := by simpa using hq
          clear HBad HNx hq
          go_wp2_with fail
          refine (HO _ HS1.out).out.mono ?_
          rintro e w1 ⟨rfl, hb1⟩
          have HS2 := Lib.hid (HS1.out.next hb1)
          clear hb1 c0 c1 c2
          go_wp2
          go_ret2
          exact ⟨by rw [HP.out, HE.out]; rfl, HS2.out.below⟩
      · obtain rfl : j = l.length := by omega
        have HE := Lib.hid (chk_fine H32.out HJ.out)
        go_wp2_with fail
        go_ret2
        exact ⟨by rw [HP.out, HE.out]; rfl, HS.out.below⟩
end Go.Proofs.YtahejekcfgkiaaaGreatDoor.objs

/-
  The program's own answer whether a need of a kind that there is asks what may be (typed over the code of 5ef5b61): for every need. The tables must lie where their initialisers lay them.
-/
namespace Go.Proofs.YtahejekcfgkiaaaGreatDoor.need
open Go.RowKit Go.ChangeShapes
open Go.Proofs.YtahejekcfgkiaaaGreatDoor.objs (De zero CellsAt DAt)
open Go.Proofs.YtahejekcfgkiaaaGreatDoor.span (within_any)
set_option linter.unusedVariables false

/-- May the number be that a need has, of an object with numbers y, z? -/
def amount (k : Nat) (b y z : Int) : Bool := if k = 4 then decide (1 ≤ b ∧ b ≤ z) else if k = 5 then decide (1 ≤ b ∧ b ≤ y) else b == 0
theorem oneN_out {d : List De} {kk : Nat} {a b : Int} (h1 : 1 ≤ kk) (h5 : kk ≤ 5) (ho : a < 0 ∨ (d.length : Int) ≤ a) : oneN d ((kk : Int), a, b) = 1 := by
  unfold oneN
  dsimp only
  rw [if_neg (by omega), if_pos (by rcases ho with h | h; exact .inl h; exact .inr (.inl h))]
theorem oneN_in {d : List De} {kk m : Nat} {b x y z : Int} (h1 : 1 ≤ kk) (h5 : kk ≤ 5) (hm : m < d.length) (hd : d.getD m zero = (x, y, z)) : decide (oneN d ((kk : Int), (m : Int), b) = 0) = (!(x != kn kk) && amount kk b y z) := by
  unfold oneN hi lo amount
  dsimp only
  rw [if_neg (by omega), Int.toNat_natCast, hd]
  dsimp only
  by_cases hx : x = kn kk
  · rw [if_neg (by rintro (h | h | h); omega; omega; exact h hx)]
    have e : (x != kn kk) = false := by simp [hx]
    rw [e, Bool.not_false, Bool.true_and]
    by_cases e4 : kk = 4
    · have q1 : (if (kk : Int) = 4 ∨ (kk : Int) = 5 then (1 : Int) else 0) = 1 := if_pos (by omega)
      have q2 : (if (kk : Int) = 4 then z else if (kk : Int) = 5 then y else 0) = z := if_pos (by omega)
      rw [q1, q2, if_pos e4]
      by_cases hc : 1 ≤ b ∧ b ≤ z
      · rw [if_neg (by omega), decide_eq_true hc]; rfl
      · rw [if_pos (by omega), decide_eq_false hc]; rfl
    · by_cases e5 : kk = 5
      · have q1 : (if (kk : Int) = 4 ∨ (kk : Int) = 5 then (1 : Int) else 0) = 1 := if_pos (by omega)
        have q2 : (if (kk : Int) = 4 then z else if (kk : Int) = 5 then y else 0) = y := by rw [if_neg (by omega), if_pos (by omega)]
        rw [q1, q2, if_neg e4, if_pos e5]
        by_cases hc : 1 ≤ b ∧ b ≤ y
        · rw [if_neg (by omega), decide_eq_true hc]; rfl
        · rw [if_pos (by omega), decide_eq_false hc]; rfl
      · have q1 : (if (kk : Int) = 4 ∨ (kk : Int) = 5 then (1 : Int) else 0) = 0 := if_neg (by omega)
        have q2 : (if (kk : Int) = 4 then z else if (kk : Int) = 5 then y else 0) = 0 := by rw [if_neg (by omega), if_neg (by omega)]
        rw [q1, q2, if_neg e4, if_neg e5]
        by_cases hc : b = 0
        · subst hc; rfl
        · rw [if_pos (by omega)]
          simp [hc]
  · rw [if_pos (.inr (.inr hx))]
    have e : (x != kn kk) = true := by simpa using hx
    rw [e]
    rfl

/-- Behind the need's box. -/
structure Nb (w : World) (A : Option Addr) (d : List De) (k a b : Int) (W : World) : Prop where
  below : Below w.heap.size w W
  box : W.cell? ⟨w.heap.size, 0, none⟩ = some (.int .i64 k) ∧ W.cell? ⟨w.heap.size, 1, none⟩ = some (.int .i64 a) ∧ W.cell? ⟨w.heap.size, 2, none⟩ = some (.int .i64 b)
  list : DAt W A d
  ok : Oka W
theorem nb_new {w : World} {A : Option Addr} {d : List De} (k a b : Int) (hA : DAt w A d) (hw : Oka w) : Nb w A d k a b (w.alloc (needBox k a b)) := by
  have hb := nbox_below w k a b
  refine ⟨hb, ?_, hA.next hb, hw.next hb⟩
  unfold World.cell?
  rw [heap_alloc_new w _]
  exact ⟨rfl, rfl, rfl⟩
/-- Behind the object's box. -/
structure Ob (w : World) (g2 : Nat) (k a b x y z : Int) (W : World) : Prop where
  below : Below w.heap.size w W
  box : W.cell? ⟨w.heap.size, 0, none⟩ = some (.int .i64 k) ∧ W.cell? ⟨w.heap.size, 1, none⟩ = some (.int .i64 a) ∧ W.cell? ⟨w.heap.size, 2, none⟩ = some (.int .i64 b)
  obj : W.cell? ⟨g2, 0, none⟩ = some (.int .i64 x) ∧ W.cell? ⟨g2, 1, none⟩ = some (.int .i64 y) ∧ W.cell? ⟨g2, 2, none⟩ = some (.int .i64 z)
  ok : Oka W
def objBox (x y z : Int) : Obj := .cells #[.int .i64 x, .int .i64 y, .int .i64 z] 44
theorem Nb.obj {w W : World} {A : Option Addr} {d : List De} {k a b : Int} (h : Nb w A d k a b W) (x y z : Int) : Ob w W.heap.size k a b x y z (W.alloc (objBox x y z)) := by
  have hb : Below W.heap.size W (W.alloc (objBox x y z)) := (Below.refl _ W).alloc (Nat.le_refl _) _
  have hg : w.heap.size < W.heap.size := by
    rcases Nat.lt_or_ge w.heap.size W.heap.size with h1 | h1
    · exact h1
    · have := h.box.1
      simp [World.cell?, Array.getElem?_eq_none h1] at this
  refine ⟨h.below.trans (hb.mono h.below.size), ?_, ?_, h.ok.next hb⟩
  · rw [hb.cell (p := ⟨w.heap.size, 0, none⟩) hg, hb.cell (p := ⟨w.heap.size, 1, none⟩) hg, hb.cell (p := ⟨w.heap.size, 2, none⟩) hg]
    exact h.box
  · unfold World.cell?
    rw [heap_alloc_new W _]
    exact ⟨rfl, rfl, rfl⟩

set_option maxRecDepth 100000 in
set_option maxHeartbeats 2000000 in
theorem range_out (A : Option Addr) (cap : Nat) (d : List De) (kk : Nat) (a b : Int) (h1 : 1 ≤ kk) (h5 : kk ≤ 5) (ho : a < 0 ∨ (d.length : Int) ≤ a) (w : World) :
    Calls Tryz.prog 89 #[.slice A d.length cap, .agg #[.int .i64 (kk : Int), .int .i64 a, .int .i64 b]] w fun e w' => e = .returned (.bool (decide (oneN d ((kk : Int), a, b) = 0))) ∧ Below w.heap.size w w' := by
  rw [oneN_out h1 h5 ho, decide_eq_false (by decide)]
  have HB := Lib.hid (nbox_below w (kk : Int) a b)
  unfold needBox at HB
  by_cases h0 : a < 0
  · have d0 : decide (a < 0) = true := by simpa using h0
    clear ho h0
    go_enter Tryz.func89, Tryz.ntmps89
    go_wp2
    go_ret
    exact ⟨rfl, HB.out⟩
  · have d0 : decide (a < 0) = false := by simpa using h0
    have dl : decide ((d.length : Int) ≤ a) = true := by simp; omega
    clear ho h0
    go_enter Tryz.func89, Tryz.ntmps89
    go_wp2
    go_ret
    exact ⟨rfl, HB.out⟩

set_option maxRecDepth 100000 in
set_option maxHeartbeats 4000000 in
theorem range_in (A : Option Addr) (cap : Nat) (d : List De) (kk m : Nat) (b : Int) (h1 : 1 ≤ kk) (h5 : kk ≤ 5) (hm : m < d.length) (hl : d.length ≤ 9223372036854775807) (w : World) (hA : DAt w A d) (hw : Oka w) :
    Calls Tryz.prog 89 #[.slice A d.length cap, .agg #[.int .i64 (kk : Int), .int .i64 (m : Int), .int .i64 b]] w fun e w' => e = .returned (.bool (decide (oneN d ((kk : Int), (m : Int), b) = 0))) ∧ Below w.heap.size w w' := by
  obtain ⟨⟨x, y, z⟩, hdm⟩ : ∃ t : De, d.getD m zero = t := ⟨_, rfl⟩
  obtain ⟨r, hr⟩ : ∃ r, r = decide (oneN d ((kk : Int), (m : Int), b) = 0) := ⟨_, rfl⟩
  rw [← hr]
  have HR := Lib.hid (hr.trans (oneN_in h1 h5 hm hdm))
  have HN := Lib.hid (nb_new (kk : Int) (m : Int) b hA hw)
  have HO := Lib.hid (HN.out.obj x y z)
  have H1 := fun W => Lib.hid (within_any b 1 z W)
  have H2 := fun W => Lib.hid (within_any b 1 y W)
  have d0 : decide ((m : Int) < 0) = false := by simp
  have dl : decide (d.length ≤ m) = false := by simp; omega
  have dm : (m : Int) < (d.length : Int) := by omega
  have dm0 : (0 : Int) ≤ (m : Int) := by omega
  have dk : (kk : Int) < 6 := by omega
  have dk0 : (0 : Int) ≤ (kk : Int) := by omega
  have hb0 := hA.next (nbox_below w (kk : Int) (m : Int) b)
  obtain ⟨b0, off, rfl, hbl, x0, x1, x2⟩ := hb0 m hm
  rw [hdm] at x0 x1 x2
  dsimp only at x0 x1 x2
  obtain ⟨c0, c1, c2⟩ := HN.out.box
  have hk := asked_kn h1 h5
  have HK := Lib.hid (And.intro h1 h5)
  unfold needBox at HO c0 c1 c2 x0 x1 x2
  rw [World.size_alloc] at HO
  unfold objBox at HO
  clear hA hw hm h1 h5 hb0 hbl HN hdm hr
  go_enter Tryz.func89, Tryz.ntmps89
  go_upto_region 4 with fail
  clear c0 c1 c2 x0 x1 x2
  generalize (w.alloc (.cells #[.int .i64 (kk : Int), .int .i64 (m : Int), .int .i64 b] 93)).alloc (.cells #[.int .i64 x, .int .i64 y, .int .i64 z] 44) = W at *
  obtain ⟨c0, c1, c2⟩ := HO.out.box
  obtain ⟨x0, x1, x2⟩ := HO.out.obj
  have ck := HO.out.ok.ak kk (by omega)
  rw [hk] at ck
  cases hx : (x != kn (kk : Int)) with
  | true =>
    have HE : Hid (r = false) := Lib.hid (by rw [HR.out, hx]; rfl)
    go_quiet (fail)
    go_wp2
    go_ret
    exact ⟨ret_bool (by rw [HE.out]), below_drewN HO.out.below _⟩
  | false =>
    have HE : Hid (r = amount kk b y z) := Lib.hid (by rw [HR.out, hx, Bool.not_false, Bool.true_and])
    clear HR
    unfold amount at HE
    by_cases e4 : kk = 4
    · rw [if_pos e4] at HE
      have f4 : ((kk : Int) == 4) = true := by simp; omega
      clear e4
      go_quiet (fail)
      go_wp2_with fail
      refine (H1 _).out.mono ?_
      rintro e w1 ⟨rfl, rfl⟩
      go_wp2
      go_ret
      exact ⟨ret_bool (by rw [HE.out, Bool.decide_and]), below_drewN HO.out.below _⟩
    · rw [if_neg e4] at HE
      have f4 : ((kk : Int) == 4) = false := by simp; omega
      by_cases e5 : kk = 5
      · rw [if_pos e5] at HE
        have f5 : ((kk : Int) == 5) = true := by simp; omega
        clear e4 e5
        go_quiet (fail)
        go_wp2_with fail
        refine (H2 _).out.mono ?_
        rintro e w1 ⟨rfl, rfl⟩
        go_wp2
        go_ret
        exact ⟨ret_bool (by rw [HE.out, Bool.decide_and]), below_drewN HO.out.below _⟩
      · rw [if_neg e5] at HE
        have f5 : ((kk : Int) == 5) = false := by simp; omega
        clear e4 e5
        go_quiet (fail)
        go_wp2
        go_ret
        exact ⟨ret_bool HE.out.symm, below_drewN HO.out.below _⟩

theorem range_any (A : Option Addr) (cap : Nat) (d : List De) (n : De) (hk : 1 ≤ n.1 ∧ n.1 ≤ 5) (hl : d.length ≤ 9223372036854775807) (w : World) (hA : DAt w A d) (hw : Oka w) :
    Calls Tryz.prog 89 #[.slice A d.length cap, .agg #[.int .i64 n.1, .int .i64 n.2.1, .int .i64 n.2.2]] w fun e w' => e = .returned (.bool (decide (oneN d n = 0))) ∧ Below w.heap.size w w' := by
  obtain ⟨k, a, b⟩ := n
  dsimp only at hk ⊢
  obtain ⟨kk, rfl⟩ : ∃ kk : Nat, k = (kk : Int) := ⟨k.toNat, by omega⟩
  by_cases ho : a < 0 ∨ (d.length : Int) ≤ a
  · exact range_out A cap d kk a b (by omega) (by omega) ho w
  · obtain ⟨m, rfl⟩ : ∃ m : Nat, a = (m : Int) := ⟨a.toNat, by omega⟩
    exact range_in A cap d kk m b (by omega) (by omega) (by omega) hl w hA hw
end Go.Proofs.YtahejekcfgkiaaaGreatDoor.need

/-
  The document's own answer what is wrong with a wait: also of one that is longer than may be. No condition but that its lengths are ints.
-/
namespace Go.Proofs.YtahejekcfgkiaaaGreatDoor.need
open Go.RowKit Go.ChangeShapes
open Go.Proofs.YtahejekcfgkiaaaGreatDoor.objs (De zero CellsAt DAt below_drewN)
set_option linter.unusedVariables false

theorem clashTo_yes {l : List De} {k j : Nat} (hj : j < k) (h : clash (l.getD j zero) (l.getD k zero) = true) : ∀ m, j < m → clashTo l k m = true := by
  intro m
  induction m with
  | zero => intro h; omega
  | succ m ih =>
    intro hm
    unfold clashTo
    rcases Nat.lt_or_ge j m with h1 | h1
    · rw [ih h1, Bool.true_or]
    · obtain rfl : m = j := by omega
      rw [h, Bool.or_true]
theorem twiceTo_yes {l : List De} {k : Nat} (h : clashTo l k k = true) : ∀ m, k < m → twiceTo l m = true := by
  intro m
  induction m with
  | zero => intro h; omega
  | succ m ih =>
    intro hm
    unfold twiceTo
    rcases Nat.lt_or_ge k m with h1 | h1
    · rw [ih h1, Bool.true_or]
    · obtain rfl : m = k := by omega
      rw [h, Bool.or_true]
theorem chkWay_2 {d l : List De} (h : l.length = 0) : chkWay d l = 2 := by unfold chkWay; rw [if_pos h]
theorem chkWay_4 {d l : List De} (h : 4 < l.length) : chkWay d l = 4 := by unfold chkWay; rw [if_neg (by omega), if_pos h]
theorem chkWay_bad {d l : List De} (h0 : l.length ≠ 0) (h4 : ¬ 4 < l.length) (h : ones d l ≠ 0) : chkWay d l = ones d l := by unfold chkWay; rw [if_neg h0, if_neg h4, if_pos h]
theorem chkWay_twice {d l : List De} (h0 : l.length ≠ 0) (h4 : ¬ 4 < l.length) (h1 : ones d l = 0) (h : twiceTo l l.length = true) : chkWay d l = 2 := by unfold chkWay; rw [if_neg h0, if_neg h4, if_neg (by omega), if_pos h]
theorem chkWay_fine {d l : List De} (h0 : l.length ≠ 0) (h4 : ¬ 4 < l.length) (h1 : ones d l = 0) (h : twiceTo l l.length = false) : chkWay d l = 0 := by unfold chkWay; rw [if_neg h0, if_neg h4, if_neg (by omega), if_neg (by rw [h]; decide)]

def ChkPost9 (c : Nat) (w : World) (e : Ending) (w' : World) : Prop := e = .returned (.int .i64 (c : Nat)) ∧ Below w.heap.size w w'
set_option maxHeartbeats 1000000 in
theorem refCheck9_2 (A B : Option Addr) (nd capd capw : Nat) (w : World) : Calls Tryz.prog 17 #[.slice A nd capd, .slice B 0 capw] w (ChkPost9 2 w) := by
  unfold ChkPost9
  go_enter Tryz.func17, Tryz.ntmps17
  go_wp2_with fail
  go_ret
  exact ⟨rfl, Below.refl _ _⟩
set_option maxHeartbeats 1000000 in
theorem refCheck9_4 (A B : Option Addr) (nd capd n capw : Nat) (hn : 4 < n) (w : World) : Calls Tryz.prog 17 #[.slice A nd capd, .slice B n capw] w (ChkPost9 4 w) := by
  unfold ChkPost9
  have h0 : ((n : Int) == 0) = false := by simp; omega
  have h4 : decide ((4 : Int) < (n : Int)) = true := by simp; omega
  clear hn
  go_enter Tryz.func17, Tryz.ntmps17
  go_wp2_with fail
  go_ret
  exact ⟨rfl, Below.refl _ _⟩

set_option maxRecDepth 100000 in
set_option maxHeartbeats 16000000 in
theorem refCheck9_any (A B : Option Addr) (capd n capw : Nat) (d : List De) (l : List (List De)) (hdl : d.length ≤ 9223372036854775807) (w : World) (hA : DAt w A d) (hB : WG w B n l) :
    Calls Tryz.prog 17 #[.slice A d.length capd, .slice B n capw] w (ChkPost9 (chkW d l) w) := by
  have hmin := hB.1
  by_cases h0 : n = 0
  · subst h0
    have e : chkW d l = 2 := by unfold chkW; rw [if_pos (by omega)]
    rw [e]
    exact refCheck9_2 A B d.length capd capw w
  · by_cases h4 : 4 < n
    · have e : chkW d l = 4 := by unfold chkW; rw [if_neg (by omega), if_pos (by omega)]
      rw [e]
      exact refCheck9_4 A B d.length capd n capw h4 w
    · obtain rfl : n = l.length := by omega
      obtain ⟨v, hv⟩ : ∃ v, v = chkW d l := ⟨_, rfl⟩
      have HV : Hid (v = ways d l) := Lib.hid (by rw [hv]; unfold chkW; rw [if_neg h0, if_neg h4])
      rw [← hv]
      unfold ChkPost9
      have hb0 : ((l.length : Int) == 0) = false := by simp; intro h; exact h0 (by rw [h]; rfl)
      have hb4 : decide ((4 : Int) < (l.length : Int)) = false := by simp; omega
      have HA := Lib.hid hA
      have HB := Lib.hid hB
      have HL4 := Lib.hid h4
      clear hA hB hv hmin h0 h4
      go_enter Tryz.func17, Tryz.ntmps17
      go_wp2_with fail
      go_loopw [5] (fun i wr => ∃ j : Nat, j ≤ l.length ∧ i = .int .i64 (j : Int) ∧ Hid (v = ways d (l.drop j)) ∧ Hid (Below w.heap.size w wr)) (fun i _ => l.length - (intOf i).toNat)
      case atStart => exact ⟨0, Nat.zero_le _, rfl, by simpa using HV, Lib.hid (Below.refl _ _)⟩
      case round =>
        obtain ⟨j, hj, rfl, HJ, HW⟩ := hrel
        by_cases hlt : j < l.length
        · have HNx := Lib.hid (ways_drop (d := d) hlt)
          obtain ⟨b, off, Aj, nj, cj, rfl, hbl, hc, hdj, hmj, _, _, _⟩ := (HB.out.next HW.out).2 j hlt
          have HD0 := Lib.hid ((HB.out).2 j hlt)
          have hlt' : (j : Int) < (l.length : Int) := by omega
          have hj0 : (0 : Int) ≤ (j : Int) := by omega
          generalize l.getD j [] = lj at *
          by_cases n0 : nj = 0
          · subst n0
            have HR : Hid (v = 2) := Lib.hid (by rw [HJ.out, HNx.out, chkWay_2 (by omega)]; rfl)
            clear hdj hmj
            go_wp2_with fail
            go_ret
            exact ⟨by rw [HR.out]; rfl, HW.out⟩
          · by_cases n4 : 4 < nj
            · have HR : Hid (v = 4) := Lib.hid (by rw [HJ.out, HNx.out, chkWay_4 (by omega)]; rfl)
              have q0 : ((nj : Int) == 0) = false := by simp; omega
              have q4 : decide ((4 : Int) < (nj : Int)) = true := by simp; omega
              clear hdj hmj n0 n4
              go_wp2_with fail
              go_ret
              exact ⟨by rw [HR.out]; rfl, HW.out⟩
            · obtain rfl : nj = lj.length := by omega
              have q0 : ((lj.length : Int) == 0) = false := by simp; intro h; exact n0 (by rw [h]; rfl)
              have q4 : decide ((4 : Int) < (lj.length : Int)) = false := by simp; omega
              have HDj := Lib.hid hdj
              have HN := Lib.hid (And.intro n0 n4)
              clear hdj hmj n0 n4
              go_wp2_with fail
              go_loopw [7] (fun i wr => ∃ k : Nat, k ≤ lj.length ∧ i = .int .i64 (k : Int) ∧ Hid (ones d lj = ones d (lj.drop k)) ∧ Hid (Below w.heap.size w wr) ∧ Hid (DAt wr Aj lj)) (fun i _ => lj.length - (intOf i).toNat)
              case atStart => exact ⟨0, Nat.zero_le _, rfl, Lib.hid (by simp), HW, HDj⟩
              case round =>
                obtain ⟨k, hk, rfl, HK, HW2, HD2⟩ := hrel
                by_cases hlk : k < lj.length
                · have HNk := Lib.hid (ones_drop (d := d) hlk)
                  obtain ⟨bj, offj, rfl, hblj, c0, c1, c2⟩ := HD2.out k hlk
                  have hlk' : (k : Int) < (lj.length : Int) := by omega
                  have hk0 : (0 : Int) ≤ (k : Int) := by omega
                  have HO := Lib.hid (refOne9_any A capd d (lj.getD k zero) hdl wr (HA.out.next HW2.out))
                  unfold OnePost9 at HO
                  generalize lj.getD k zero = t at *
                  generalize oneN d t = q at *
                  obtain ⟨tk, tob, tn⟩ := t
                  dsimp only at HO c0 c1 c2
                  go_wp2_with fail
                  refine HO.out.mono ?_
                  rintro e w3 ⟨rfl, hb3⟩
                  have HW3 := Lib.hid (HW2.out.trans (hb3.mono HW2.out.size))
                  have HD3 := Lib.hid (HD2.out.next hb3)
                  clear hb3 c0 c1 c2 HO
                  by_cases hq : q = 0
                  · have HE : Hid (ones d lj = ones d (lj.drop (k + 1))) := Lib.hid (by rw [HK.out, HNk.out, if_neg (by simp [hq])])
                    have hq' : ((q : Int) != 0) = false := by simp [hq]
                    clear hq
                    go_wp2
                    go_roundw
                    case rel => exact ⟨k + 1, by omega, by go_num, HE, HW3, HD3⟩
                    case measure => simp [intOf]; omega
                  · have HE : Hid (ones d lj = q) := Lib.hid (by rw [HK.out, HNk.out, if_pos hq])
                    have HR : Hid (v = q) := Lib.hid (by
                      have h1 : chkWay d lj = q := by rw [chkWay_bad HN.out.1 HN.out.2 (by rw [HE.out]; exact hq), HE.out]
                      rw [HJ.out, HNx.out, h1, if_pos hq])
                    have hq' : ((q : Int) != 0) = true := by simpa using hq
                    clear hq
                    go_wp2
                    go_ret
                    exact ⟨by rw [HR.out]; rfl, HW3.out⟩
                · obtain rfl : k = lj.length := by omega
                  have H1 : Hid (ones d lj = 0) := Lib.hid (by rw [HK.out, List.drop_length]; rfl)
                  go_wp2_with fail
                  go_loopw [9] (fun i wr => ∃ k : Nat, k ≤ lj.length ∧ i = .int .i64 (k : Int) ∧ Hid (twiceTo lj k = false) ∧ Hid (Below w.heap.size w wr) ∧ Hid (DAt wr Aj lj)) (fun i _ => lj.length - (intOf i).toNat)
                  case atStart => exact ⟨0, Nat.zero_le _, rfl, Lib.hid rfl, HW2, HD2⟩
                  case round =>
                    obtain ⟨k, hk3, rfl, HT, HW3, HD3⟩ := hrel
                    by_cases hlk : k < lj.length
                    · have hlk' : (k : Int) < (lj.length : Int) := by omega
                      have hk0 : (0 : Int) ≤ (k : Int) := by omega
                      go_wp2_with fail
                      go_loopw [10] (fun i wr => ∃ jj : Nat, jj ≤ k ∧ i = .int .i64 (jj : Int) ∧ Hid (clashTo lj k jj = false) ∧ Hid (Below w.heap.size w wr) ∧ Hid (DAt wr Aj lj)) (fun i _ => k - (intOf i).toNat)
                      case atStart => exact ⟨0, Nat.zero_le _, rfl, Lib.hid rfl, HW3, HD3⟩
                      case round =>
                        obtain ⟨jj, hjj, rfl, HCl, HWc, HDc⟩ := hrel
                        by_cases hlj : jj < k
                        · have hlj' : (jj : Int) < (k : Int) := by omega
                          have hjj0 : (0 : Int) ≤ (jj : Int) := by omega
                          have hjl' : (jj : Int) < (lj.length : Int) := by omega
                          obtain ⟨bj, offj, rfl, hblj, x0, x1, x2⟩ := HDc.out jj (by omega)
                          obtain ⟨b2, off2, hAe, hbl2, y0, y1, y2⟩ := HDc.out k hlk
                          injection hAe with hAe
                          injection hAe with hAe1 hAe2
                          subst hAe1 hAe2
                          generalize hta : lj.getD jj zero = ta at *
                          generalize htb : lj.getD k zero = tb at *
                          obtain ⟨ak, ao, an⟩ := ta
                          obtain ⟨bk, bo, bn⟩ := tb
                          dsimp only at x0 x1 x2 y0 y1 y2
                          cases e1 : (ao == bo) with
                          | true =>
                            have HC : Hid (clash (ak, ao, an) (bk, bo, bn) = true) := Lib.hid (by unfold clash; dsimp only; rw [e1, Bool.true_or])
                            have HR : Hid (v = 2) := Lib.hid (by
                              have h1 : twiceTo lj lj.length = true := twiceTo_yes (clashTo_yes hlj (by rw [hta, htb]; exact HC.out) k hlj) lj.length hlk
                              rw [HJ.out, HNx.out, chkWay_twice HN.out.1 HN.out.2 H1.out h1]
                              rfl)
                            clear hta htb HC
                            go_wp2_with fail
                            go_quiet (fail)
                            go_wp2
                            go_ret
                            exact ⟨by rw [HR.out]; rfl, below_drewN HWc.out _⟩
                          | false =>
                            cases e2 : (ak == 4) with
                            | true =>
                              have HC : Hid (clash (ak, ao, an) (bk, bo, bn) = true) := Lib.hid (by unfold clash; dsimp only; rw [e1, e2, Bool.true_or, Bool.or_true])
                              have HR : Hid (v = 2) := Lib.hid (by
                                have h1 : twiceTo lj lj.length = true := twiceTo_yes (clashTo_yes hlj (by rw [hta, htb]; exact HC.out) k hlj) lj.length hlk
                                rw [HJ.out, HNx.out, chkWay_twice HN.out.1 HN.out.2 H1.out h1]
                                rfl)
                              clear hta htb HC
                              go_wp2_with fail
                              go_quiet (fail)
                              go_wp2
                              go_ret
                              exact ⟨by rw [HR.out]; rfl, below_drewN HWc.out _⟩
                            | false =>
                              cases e3 : (bk == 4) with
                              | true =>
                                have HC : Hid (clash (ak, ao, an) (bk, bo, bn) = true) := Lib.hid (by unfold clash; dsimp only; rw [e1, e2, e3, Bool.false_or, Bool.false_or])
                                have HR : Hid (v = 2) := Lib.hid (by
                                  have h1 : twiceTo lj lj.length = true := twiceTo_yes (clashTo_yes hlj (by rw [hta, htb]; exact HC.out) k hlj) lj.length hlk
                                  rw [HJ.out, HNx.out, chkWay_twice HN.out.1 HN.out.2 H1.out h1]
                                  rfl)
                                clear hta htb HC
                                go_wp2_with fail
                                go_quiet (fail)
                                go_wp2
                                go_ret
                                exact ⟨by rw [HR.out]; rfl, below_drewN HWc.out _⟩
                              | false =>
                                have HC : Hid (clashTo lj k (jj + 1) = false) := Lib.hid (by
                                  unfold clashTo
                                  rw [HCl.out, hta, htb]
                                  unfold clash
                                  dsimp only
                                  rw [e1, e2, e3]
                                  rfl)
                                clear hta htb
                                go_wp2_with fail
                                go_quiet (fail)
                                go_wp2
                                go_roundw
                                case rel => exact ⟨jj + 1, by omega, by go_num, HC, Lib.hid (below_drewN HWc.out _), Lib.hid (HDc.out.drewN _)⟩
                                case measure => simp [intOf]; omega
                        · obtain rfl : jj = k := by omega
                          have HT2 : Hid (twiceTo lj (jj + 1) = false) := Lib.hid (by unfold twiceTo; rw [HT.out, HCl.out]; rfl)
                          go_wp2_with fail
                          go_roundw
                          case rel => exact ⟨jj + 1, by omega, by go_num, HT2, HWc, HDc⟩
                          case measure => simp [intOf]; omega
                    · obtain rfl : k = lj.length := by omega
                      have HE : Hid (v = ways d (l.drop (j + 1))) := Lib.hid (by rw [HJ.out, HNx.out, chkWay_fine HN.out.1 HN.out.2 H1.out HT.out]; rfl)
                      have hl4 := HL4.out
                      go_wp2_with fail
                      go_roundw
                      case rel => exact ⟨j + 1, by omega, by go_num, HE, HW3⟩
                      case measure => simp [intOf]; omega
        · obtain rfl : j = l.length := by omega
          have HR : Hid (v = 0) := Lib.hid (by rw [HJ.out, List.drop_length]; rfl)
          go_wp2_with fail
          go_ret
          exact ⟨by rw [HR.out]; rfl, HW.out⟩
end Go.Proofs.YtahejekcfgkiaaaGreatDoor.need

/-
  The plain mathematics of sets of numbers from 0 to 63, as numbers below two to the sixty-fourth: what is in one, with a number and without it, all moved. It speaks of numbers and lists alone.
-/
namespace Go.Proofs.YtahejekcfgkiaaaGreatDoor.bits

/-- One with all its numbers below 64. -/
def Is64 (s : Nat) : Prop := s < 18446744073709551616
theorem two64 : (2 : Nat) ^ 64 = 18446744073709551616 := rfl
theorem ext64 {s t : Nat} (hs : Is64 s) (ht : Is64 t) (h : ∀ n, n < 64 → s.testBit n = t.testBit n) : s = t := by
  apply Nat.eq_of_testBit_eq
  intro n
  by_cases hn : n < 64
  · exact h n hn
  · have hp : (2 : Nat) ^ 64 ≤ 2 ^ n := Nat.pow_le_pow_right (by omega) (by omega)
    unfold Is64 at hs ht
    rw [Nat.testBit_lt_two_pow (by omega), Nat.testBit_lt_two_pow (by omega)]

theorem testBit_div (s n : Nat) : s.testBit n = decide (s / 2 ^ n % 2 = 1) := by
  rw [Nat.testBit_eq_decide_div_mod_eq]

/-- A number more: the weight of one that is not there. -/
theorem add_pow {s n : Nat} (h : s.testBit n = false) : s + 2 ^ n = s ||| 2 ^ n := by
  have h1 : s / 2 ^ n % 2 = 0 := by
    rw [testBit_div] at h
    have h2 : ¬ s / 2 ^ n % 2 = 1 := by simpa using h
    omega
  have hp : 0 < 2 ^ n := Nat.two_pow_pos n
  have hlo : s % 2 ^ n < 2 ^ n := Nat.mod_lt _ hp
  have hs : s = s / 2 ^ n * 2 ^ n + s % 2 ^ n := by rw [Nat.mul_comm]; exact (Nat.div_add_mod s (2 ^ n)).symm
  obtain ⟨q, hq⟩ : ∃ q, s / 2 ^ n = 2 * q := ⟨s / 2 ^ n / 2, by omega⟩
  have hhi : s / 2 ^ n * 2 ^ n = q * 2 ^ (n + 1) := by rw [hq, Nat.pow_succ, Nat.mul_comm 2 q, Nat.mul_assoc, Nat.mul_comm 2 (2 ^ n)]
  generalize s % 2 ^ n = lo at *
  rw [hhi] at hs
  have e1 : q * 2 ^ (n + 1) ||| lo = q * 2 ^ (n + 1) + lo := nat_join (n + 1) _ lo (Nat.mul_mod_left _ _) (by rw [Nat.pow_succ]; omega)
  have e2 : 2 ^ n ||| lo = 2 ^ n + lo := nat_join n _ lo (Nat.mod_self _) hlo
  have e3 : q * 2 ^ (n + 1) ||| (2 ^ n + lo) = q * 2 ^ (n + 1) + (2 ^ n + lo) := nat_join (n + 1) _ _ (Nat.mul_mod_left _ _) (by rw [Nat.pow_succ]; omega)
  rw [hs, ← e1, Nat.or_assoc, Nat.or_comm lo, e2, e3, e1]
  omega

def ins (s n : Nat) : Nat := if s.testBit n then s else s + 2 ^ n
def del (s n : Nat) : Nat := if s.testBit n then s - 2 ^ n else s
theorem ins_or (s n : Nat) : ins s n = s ||| 2 ^ n := by
  unfold ins
  by_cases h : s.testBit n = true
  · rw [if_pos h]
    apply Nat.eq_of_testBit_eq
    intro m
    rw [Nat.testBit_or, Nat.testBit_two_pow]
    by_cases hm : n = m
    · subst hm; simp [h]
    · simp [hm]
  · have h' : s.testBit n = false := by simpa using h
    rw [if_neg h, add_pow h']
theorem testBit_ins (s n m : Nat) : (ins s n).testBit m = (s.testBit m || decide (n = m)) := by
  rw [ins_or, Nat.testBit_or, Nat.testBit_two_pow]
theorem ins_lt {s n : Nat} (hs : Is64 s) (hn : n < 64) : Is64 (ins s n) := by
  unfold Is64 at *
  rw [ins_or, ← two64]
  exact Nat.or_lt_two_pow (by rw [two64]; exact hs) (Nat.pow_lt_pow_right (by omega) hn)
/-- Without a number that is there, and with it again. -/
theorem del_spec {s n : Nat} (h : s.testBit n = true) : ∃ t, s = t + 2 ^ n ∧ t.testBit n = false ∧ del s n = t := by
  have h1 : s / 2 ^ n % 2 = 1 := by
    rw [testBit_div] at h
    simpa using h
  have hp : 0 < 2 ^ n := Nat.two_pow_pos n
  have hge : 2 ^ n ≤ s := by
    rcases Nat.lt_or_ge s (2 ^ n) with hl | hl
    · rw [Nat.div_eq_of_lt hl] at h1
      omega
    · exact hl
  refine ⟨s - 2 ^ n, by omega, ?_, by unfold del; rw [if_pos h]⟩
  rw [testBit_div]
  have e : (s - 2 ^ n) / 2 ^ n = s / 2 ^ n - 1 := by
    have := Nat.sub_mul_div s (2 ^ n) 1
    simpa using this
  rw [e, decide_eq_false_iff_not]
  omega
theorem testBit_del (s n m : Nat) : (del s n).testBit m = (s.testBit m && !decide (n = m)) := by
  by_cases h : s.testBit n = true
  · obtain ⟨t, hs, ht, hd⟩ := del_spec h
    rw [hd, hs, add_pow ht, Nat.testBit_or, Nat.testBit_two_pow]
    by_cases hm : n = m
    · subst hm; simp [ht]
    · simp [hm]
  · have h' : s.testBit n = false := by simpa using h
    unfold del
    rw [if_neg h]
    by_cases hm : n = m
    · subst hm; simp [h']
    · simp [hm]
theorem del_le (s n : Nat) : del s n ≤ s := by
  unfold del
  split
  · exact Nat.sub_le _ _
  · exact Nat.le_refl _

/-- All that is in a set, rising. -/
def els (s : Nat) : List Nat := (List.range 64).filter fun n => s.testBit n
theorem mem_els {s n : Nat} : n ∈ els s ↔ n < 64 ∧ s.testBit n = true := by simp [els]
theorem els_rising (s : Nat) : (els s).Pairwise (· < ·) := List.Pairwise.filter _ List.pairwise_lt_range

/-- The set of a list. -/
def ofs (l : List Nat) : Nat := l.foldl ins 0
theorem foldl_ins (l : List Nat) : ∀ s m, (l.foldl ins s).testBit m = (s.testBit m || decide (m ∈ l)) := by
  induction l with
  | nil => intro s m; simp
  | cons n l ih =>
    intro s m
    rw [List.foldl_cons, ih, testBit_ins]
    by_cases hm : n = m
    · subst hm; simp
    · have hm' : ¬ m = n := fun e => hm e.symm
      simp [hm, hm']
theorem testBit_ofs (l : List Nat) (m : Nat) : (ofs l).testBit m = decide (m ∈ l) := by
  unfold ofs
  rw [foldl_ins]
  simp
theorem foldl_lt (l : List Nat) : ∀ s, Is64 s → (∀ n ∈ l, n < 64) → Is64 (l.foldl ins s) := by
  induction l with
  | nil => intro s hs _; exact hs
  | cons n l ih =>
    intro s hs h
    rw [List.foldl_cons]
    exact ih _ (ins_lt hs (h n (List.mem_cons_self ..))) fun m hm => h m (List.mem_cons_of_mem _ hm)
theorem ofs_lt {l : List Nat} (h : ∀ n ∈ l, n < 64) : Is64 (ofs l) := foldl_lt l 0 (by unfold Is64; omega) h
theorem ofs_els {s : Nat} (hs : Is64 s) : ofs (els s) = s := by
  refine ext64 (ofs_lt fun n hn => (mem_els.1 hn).1) hs fun n hn => ?_
  rw [testBit_ofs]
  by_cases h : s.testBit n = true
  · rw [h, decide_eq_true_iff]; exact mem_els.2 ⟨hn, h⟩
  · have h' : s.testBit n = false := by simpa using h
    rw [h', decide_eq_false_iff_not]
    intro hm
    exact h (mem_els.1 hm).2

/-- All moved by k, from 0 to 63. -/
def up (s k : Nat) : Nat := ofs ((els s).map fun n => (n + k) % 64)
theorem up_lt (s k : Nat) : Is64 (up s k) := ofs_lt fun n hn => by
  obtain ⟨m, _, rfl⟩ := List.mem_map.1 hn
  omega
theorem testBit_up {s k m : Nat} (hk : k < 64) (hm : m < 64) : (up s k).testBit m = s.testBit ((m + (64 - k)) % 64) := by
  unfold up
  rw [testBit_ofs]
  by_cases h : s.testBit ((m + (64 - k)) % 64) = true
  · rw [h, decide_eq_true_iff]
    exact List.mem_map.2 ⟨(m + (64 - k)) % 64, mem_els.2 ⟨by omega, h⟩, by omega⟩
  · have h' : s.testBit ((m + (64 - k)) % 64) = false := by simpa using h
    rw [h', decide_eq_false_iff_not]
    intro hmem
    obtain ⟨n, hn, hnm⟩ := List.mem_map.1 hmem
    obtain ⟨hn64, hb⟩ := mem_els.1 hn
    have e : (m + (64 - k)) % 64 = n := by omega
    rw [e] at h
    exact h hb
theorem up_up {s a b : Nat} (ha : a < 64) (hb : b < 64) : up (up s a) b = up s ((a + b) % 64) := by
  refine ext64 (up_lt _ _) (up_lt _ _) fun m hm => ?_
  rw [testBit_up hb hm, testBit_up ha (by omega), testBit_up (by omega) hm]
  congr 1
  omega
theorem up_zero {s : Nat} (hs : Is64 s) : up s 0 = s := by
  refine ext64 (up_lt _ _) hs fun m hm => ?_
  rw [testBit_up (by omega) hm]
  congr 1
  omega
theorem up_back {s a : Nat} (hs : Is64 s) (ha : a < 64) : up (up s a) ((64 - a) % 64) = s := by
  rw [up_up ha (by omega)]
  have e : (a + (64 - a) % 64) % 64 = 0 := by omega
  rw [e, up_zero hs]
/-- As a computer turns it. -/
theorem up_turn {s k : Nat} (hs : Is64 s) (hk : k < 64) : up s k = s * 2 ^ k % 18446744073709551616 ||| s / 2 ^ (64 - k) := by
  refine ext64 (up_lt _ _) ?_ fun m hm => ?_
  · unfold Is64 at *
    rw [← two64]
    refine Nat.or_lt_two_pow (Nat.mod_lt _ (Nat.two_pow_pos _)) ?_
    exact Nat.lt_of_le_of_lt (Nat.div_le_self _ _) (by rw [two64]; exact hs)
  · rw [testBit_up hk hm, Nat.testBit_or, ← two64, Nat.testBit_mod_two_pow, Nat.testBit_mul_two_pow, Nat.testBit_div_two_pow]
    by_cases hmk : k ≤ m
    · have e : (m + (64 - k)) % 64 = m - k := by omega
      have hbig : s.testBit (64 - k + m) = false := by
        refine Nat.testBit_lt_two_pow (Nat.lt_of_lt_of_le hs ?_)
        rw [← two64]
        exact Nat.pow_le_pow_right (by omega) (by omega)
      have hbig' : s.testBit (m + (64 - k)) = false := by rw [Nat.add_comm]; exact hbig
      rw [e]
      simp [hm, hmk, hbig']
    · have e : (m + (64 - k)) % 64 = m + (64 - k) := by omega
      rw [e]
      simp [hm, hmk]

/-- As many as before. -/
theorem turn_perm : ∀ k, k < 64 → ((List.range 64).map fun m => (m + (64 - k)) % 64).isPerm (List.range 64) = true := by decide +kernel
theorem count_up (s : Nat) {k : Nat} (hk : k < 64) : (els (up s k)).length = (els s).length := by
  have hp : ((List.range 64).map fun m => (m + (64 - k)) % 64).Perm (List.range 64) := List.isPerm_iff.1 (turn_perm k hk)
  have h1 := (hp.filter fun n => s.testBit n).length_eq
  rw [List.filter_map, List.length_map] at h1
  unfold els
  rw [← h1]
  congr 1
  refine List.filter_congr fun m hm => ?_
  exact testBit_up hk (by simpa using hm)

end Go.Proofs.YtahejekcfgkiaaaGreatDoor.bits

/-
  More of the plain mathematics of sets: what is at a place of a list, which numbers are below one, the least, the next and the one with so many below it; and how many there are, as a computer counts them, byte by byte. It speaks of numbers and lists alone.
-/
namespace Go.Proofs.YtahejekcfgkiaaaGreatDoor.bits

/-- The number at a place of a list; -1, where there is none. -/
def atI (l : List Nat) (k : Nat) : Int := match l[k]? with
  | some n => (n : Int)
  | none => -1
theorem atI_some {l : List Nat} {k n : Nat} (h : l[k]? = some n) : atI l k = (n : Int) := by unfold atI; rw [h]
theorem atI_none {l : List Nat} {k : Nat} (h : l.length ≤ k) : atI l k = -1 := by unfold atI; rw [List.getElem?_eq_none h]
theorem atI_lt {l : List Nat} {k : Nat} (h : k < l.length) : atI l k = ((l[k] : Nat) : Int) := atI_some (List.getElem?_eq_getElem h)
theorem atI_drop (l : List Nat) (a k : Nat) : atI (l.drop a) k = atI l (a + k) := by unfold atI; rw [List.getElem?_drop]

/-- Whether a set may have the number. -/
def may (n : Int) : Prop := 0 ≤ n ∧ n < 64
instance (n : Int) : Decidable (may n) := inferInstanceAs (Decidable (0 ≤ n ∧ n < 64))
def hasB (s : Nat) (n : Int) : Bool := decide (may n) && s.testBit n.toNat
def bitN (n : Int) : Nat := if may n then 2 ^ n.toNat else 0
def wth (s : Nat) (n : Int) : Nat := if may n then ins s n.toNat else s
def wout (s : Nat) (n : Int) : Nat := if may n then del s n.toNat else s
def allN (n : Int) : Nat := if 63 < n then 18446744073709551615 else if n < 0 then 0 else 2 ^ n.toNat - 1

theorem pow_lt64 {n : Nat} (h : n < 64) : Is64 (2 ^ n) := by
  unfold Is64
  rw [← two64]
  exact Nat.pow_lt_pow_right (by omega) h
theorem bitN_lt (n : Int) : Is64 (bitN n) := by
  unfold bitN
  split
  · rename_i h
    unfold may at h
    exact pow_lt64 (by omega)
  · unfold Is64; omega
theorem testBit_bitN (n : Int) (m : Nat) : (bitN n).testBit m = (decide (may n) && decide (n.toNat = m)) := by
  unfold bitN
  split
  · rename_i h
    rw [Nat.testBit_two_pow]
    simp [h]
  · rename_i h
    simp [h]
theorem wth_or (s : Nat) (n : Int) : wth s n = s ||| bitN n := by
  unfold wth bitN
  split
  · exact ins_or _ _
  · simp
theorem wth_lt {s : Nat} (hs : Is64 s) (n : Int) : Is64 (wth s n) := by
  unfold wth
  split
  · rename_i h
    unfold may at h
    exact ins_lt hs (by omega)
  · exact hs
theorem wout_lt {s : Nat} (hs : Is64 s) (n : Int) : Is64 (wout s n) := by
  unfold wout
  split
  · exact Nat.lt_of_le_of_lt (del_le _ _) hs
  · exact hs
theorem testBit_wth (s : Nat) (n : Int) (m : Nat) : (wth s n).testBit m = (s.testBit m || (decide (may n) && decide (n.toNat = m))) := by
  rw [wth_or, Nat.testBit_or, testBit_bitN]
theorem testBit_wout (s : Nat) (n : Int) (m : Nat) : (wout s n).testBit m = (s.testBit m && !(decide (may n) && decide (n.toNat = m))) := by
  unfold wout
  split
  · rename_i h
    rw [testBit_del]
    simp [h]
  · rename_i h
    simp [h]
/-- What a computer takes out of a set. -/
def minus (s t : Nat) : Nat := s &&& (18446744073709551615 - t)
theorem minus_lt {s t : Nat} (hs : Is64 s) : Is64 (minus s t) := Nat.lt_of_le_of_lt Nat.and_le_left hs
theorem testBit_minus {s t m : Nat} (ht : Is64 t) (hm : m < 64) : (minus s t).testBit m = (s.testBit m && !t.testBit m) := by
  unfold minus
  have e : 18446744073709551615 - t = 2 ^ 64 - (t + 1) := by rw [two64]; omega
  rw [Nat.testBit_and, e, Nat.testBit_two_pow_sub_succ (by rw [two64]; exact ht)]
  simp [hm]
theorem wout_minus {s : Nat} (hs : Is64 s) (n : Int) : wout s n = minus s (bitN n) :=
  ext64 (wout_lt hs n) (minus_lt hs) fun m hm => by rw [testBit_wout, testBit_minus (bitN_lt n) hm, testBit_bitN]
theorem hasB_and (s : Nat) (n : Int) : hasB s n = ((s &&& bitN n : Nat) != 0) := by
  unfold hasB bitN
  split
  · rename_i h
    simp only [h, decide_true, Bool.true_and]
    by_cases hb : s.testBit n.toNat = true
    · rw [hb]
      symm
      rw [bne_iff_ne]
      intro h0
      have h1 := congrArg (fun x => x.testBit n.toNat) h0
      simp [hb] at h1
    · have hb' : s.testBit n.toNat = false := by simpa using hb
      rw [hb']
      symm
      rw [bne_eq_false_iff_eq]
      apply Nat.eq_of_testBit_eq
      intro m
      rw [Nat.testBit_and, Nat.testBit_two_pow]
      by_cases hm : n.toNat = m
      · subst hm; simp [hb']
      · simp [hm]
  · rename_i h
    simp [h]
theorem allN_lt (n : Int) : Is64 (allN n) := by
  unfold allN
  split
  · unfold Is64; omega
  · split
    · unfold Is64; omega
    · have := pow_lt64 (show n.toNat < 64 by omega)
      unfold Is64 at *
      omega
theorem testBit_allN (n : Int) {m : Nat} (hm : m < 64) : (allN n).testBit m = decide ((m : Int) < n) := by
  unfold allN
  split
  · rename_i h
    have e : (18446744073709551615 : Nat) = 2 ^ 64 - 1 := by rw [two64]
    rw [e, Nat.testBit_two_pow_sub_one]
    have h1 : (m : Int) < n := by omega
    simp [hm, h1]
  · split
    · rename_i h
      have h1 : ¬ (m : Int) < n := by omega
      simp [h1]
    · rw [Nat.testBit_two_pow_sub_one]
      by_cases h1 : (m : Int) < n
      · have h2 : m < n.toNat := by omega
        simp [h1, h2]
      · have h2 : ¬ m < n.toNat := by omega
        simp [h1, h2]

/-- Those of a set for which something holds. -/
theorem els_filter {s t : Nat} {p : Nat → Bool} (h : ∀ m, m < 64 → t.testBit m = (s.testBit m && p m)) : els t = (els s).filter p := by
  unfold els
  rw [List.filter_filter]
  refine List.filter_congr fun m hm => ?_
  rw [h m (by simpa using hm), Bool.and_comm]
theorem els_length_le (s : Nat) : (els s).length ≤ 64 := by
  unfold els
  have := List.length_filter_le (fun n => s.testBit n) (List.range 64)
  simpa using this
theorem els_get_lt {s k n : Nat} (h : (els s)[k]? = some n) : n < 64 := (mem_els.1 (List.mem_of_getElem? h)).1
theorem els_zero : els 0 = [] := by unfold els; simp
theorem els_nil {s : Nat} (hs : Is64 s) : els s = [] ↔ s = 0 := by
  constructor
  · intro h
    have := ofs_els hs
    rw [h] at this
    exact this.symm
  · intro h
    rw [h, els_zero]
theorem atI_els (s k : Nat) : -1 ≤ atI (els s) k ∧ atI (els s) k < 64 := by
  by_cases h : k < (els s).length
  · have h1 := els_get_lt (List.getElem?_eq_getElem h)
    rw [atI_lt h]
    omega
  · rw [atI_none (by omega)]
    omega
theorem atI_els_neg (s k : Nat) : atI (els s) k = -1 ↔ (els s).length ≤ k := by
  unfold atI
  cases h : (els s)[k]? with
  | none => exact ⟨fun _ => List.getElem?_eq_none_iff.1 h, fun _ => rfl⟩
  | some n =>
    refine ⟨fun h1 => ?_, fun h1 => ?_⟩
    · have h2 : (n : Int) = -1 := h1
      omega
    · have := List.getElem?_eq_none h1
      rw [h] at this
      cases this

/-- The least of a rising list. -/
theorem least_first {l : List Nat} {c : Nat} (hl : l.Pairwise (· < ·)) (hc : c ∈ l) (h : ∀ n ∈ l, c ≤ n) : l[0]? = some c := by
  cases l with
  | nil => cases hc
  | cons a l =>
    rw [List.pairwise_cons] at hl
    rcases List.mem_cons.1 hc with rfl | hm
    · rfl
    · have h1 := hl.1 c hm
      have h2 := h a (List.mem_cons_self ..)
      omega
theorem els_first {s : Nat} (hs : Is64 s) (h0 : s ≠ 0) : (els s)[0]? = some (Lib.ctz 64 s) := by
  unfold Lib.ctz
  rw [if_neg h0]
  obtain ⟨m, hm, hc⟩ := Lib.ctzFrom_spec 64 s (by omega) (by rw [two64]; exact hs)
  generalize Lib.ctzFrom 64 s = c at *
  have hb : ∀ i, s.testBit i = (decide (c ≤ i) && (2 * m + 1).testBit (i - c)) := by
    intro i
    rw [hm, Nat.mul_comm, Nat.testBit_mul_two_pow]
  refine least_first (els_rising s) (mem_els.2 ⟨hc, ?_⟩) fun n hn => ?_
  · rw [hb]
    simp [Nat.testBit_zero]
  · have h1 := (mem_els.1 hn).2
    rw [hb] at h1
    simp only [Bool.and_eq_true, decide_eq_true_eq] at h1
    exact h1.1
/-- The first one, as the program tells it. -/
theorem first_eq {s : Nat} (hs : Is64 s) (h0 : s ≠ 0) : ((Lib.ctz 64 s : Nat) : Int) = atI (els s) 0 := (atI_some (els_first hs h0)).symm

theorem rising_drop {l : List Nat} {k a : Nat} (hl : l.Pairwise (· < ·)) (h : l[k]? = some a) : l.filter (fun n : Nat => decide ((a : Int) < (n : Int))) = l.drop (k + 1) := by
  induction l generalizing k with
  | nil => simp at h
  | cons b l ih =>
    rw [List.pairwise_cons] at hl
    cases k with
    | zero =>
      simp only [List.getElem?_cons_zero, Option.some.injEq] at h
      subst h
      rw [List.filter_cons_of_neg (by simp), List.drop_succ_cons, List.drop_zero, List.filter_eq_self]
      intro n hn
      have := hl.1 n hn
      simp
      omega
    | succ k =>
      simp only [List.getElem?_cons_succ] at h
      have hb : b < a := hl.1 a (List.mem_of_getElem? h)
      rw [List.filter_cons_of_neg (by simp; omega), List.drop_succ_cons]
      exact ih hl.2 h
/-- All above n. -/
theorem els_above (s : Nat) (n : Int) : els (wout (minus s (allN n)) n) = (els s).filter fun m : Nat => decide (n < (m : Int)) := by
  refine els_filter fun m hm => ?_
  rw [testBit_wout, testBit_minus (allN_lt n) hm, testBit_allN n hm]
  cases s.testBit m
  · simp
  · unfold may
    by_cases h1 : n < (m : Int)
    · have h2 : ¬ (m : Int) < n := by omega
      have h3 : ¬ n.toNat = m ∨ ¬ (0 ≤ n ∧ n < 64) := by omega
      rcases h3 with h3 | h3 <;> simp [h1, h2, h3]
    · by_cases h2 : (m : Int) < n
      · simp [h1, h2]
      · have h3 : n.toNat = m := by omega
        have h4 : 0 ≤ n ∧ n < 64 := by omega
        simp [h1, h2, h3, h4]
def nextI (s : Nat) (n : Int) : Int := atI ((els s).filter fun m : Nat => decide (n < (m : Int))) 0
theorem next_at {s k : Nat} (h : k < (els s).length) : nextI s (atI (els s) k) = atI (els s) (k + 1) := by
  have h1 := List.getElem?_eq_getElem h
  unfold nextI
  rw [atI_some h1, rising_drop (els_rising s) h1, atI_drop]
theorem next_start (s : Nat) {n : Int} (h : n < 0) : nextI s n = atI (els s) 0 := by
  unfold nextI
  congr 1
  rw [List.filter_eq_self]
  intro m _
  simp
  omega
/-- Without the first one. -/
theorem els_less {s : Nat} (hs : Is64 s) (h0 : s ≠ 0) : els (wout s (atI (els s) 0)) = (els s).drop 1 := by
  obtain ⟨a, l, hl⟩ : ∃ a l, els s = a :: l := by
    cases h : els s with
    | nil => exact absurd ((els_nil hs).1 h) h0
    | cons a l => exact ⟨a, l, rfl⟩
  have ha : a < 64 := els_get_lt (s := s) (k := 0) (by rw [hl]; rfl)
  have e : els (wout s (atI (els s) 0)) = (els s).filter fun n => !decide (a = n) := by
    refine els_filter fun m _ => ?_
    rw [testBit_wout, hl]
    have h1 : atI (a :: l) 0 = (a : Int) := rfl
    have h2 : may (a : Int) := by unfold may; omega
    rw [h1]
    simp [h2]
  rw [e, hl]
  have hr := els_rising s
  rw [hl, List.pairwise_cons] at hr
  rw [List.filter_cons_of_neg (by simp), List.drop_succ_cons, List.drop_zero, List.filter_eq_self]
  intro n hn
  have := hr.1 n hn
  simp
  omega

/-- How many of the lowest k bits are set. -/
def pc : Nat → Nat → Nat
  | 0, _ => 0
  | k + 1, s => s % 2 + pc k (s / 2)
theorem pc_range (k : Nat) : ∀ s, ((List.range k).filter fun n => s.testBit n).length = pc k s := by
  induction k with
  | zero => intro s; rfl
  | succ k ih =>
    intro s
    rw [List.range_succ_eq_map, List.filter_cons, pc]
    have e : (List.filter (fun n => s.testBit n) (List.map Nat.succ (List.range k))).length = pc k (s / 2) := by
      rw [List.filter_map, List.length_map, ← ih (s / 2)]
      congr 1
      refine List.filter_congr fun n _ => ?_
      show s.testBit (n + 1) = _
      rw [Nat.testBit_succ]
    split
    · rename_i h
      rw [Nat.testBit_zero, decide_eq_true_eq] at h
      rw [List.length_cons, e]
      omega
    · rename_i h
      rw [Nat.testBit_zero, decide_eq_true_eq] at h
      rw [e]
      omega
theorem pc_els (s : Nat) : (els s).length = pc 64 s := pc_range 64 s
theorem pc_add (a b : Nat) : ∀ s, pc (a + b) s = pc a s + pc b (s / 2 ^ a) := by
  induction a with
  | zero => intro s; simp [pc]
  | succ a ih =>
    intro s
    rw [Nat.succ_add, pc, pc, ih, Nat.div_div_eq_div_mul, Nat.pow_succ, Nat.mul_comm 2]
    omega
theorem pc8_mod (s : Nat) : pc 8 s = pc 8 (s % 256) := by
  simp only [pc]
  omega
theorem pc8_le (b : Nat) : pc 8 b ≤ 8 := by
  simp only [pc]
  omega

/-- A byte at a time. -/
def mk (m : Nat) : Nat → Nat
  | 0 => 0
  | k + 1 => 256 * mk m k + m
def bm (f : Nat → Nat) : Nat → Nat → Nat
  | 0, _ => 0
  | k + 1, s => f (s % 256) + 256 * bm f k (s / 256)
theorem and_join (q r M m : Nat) (hr : r < 256) (hm : m < 256) : (256 * q + r) &&& (256 * M + m) = 256 * (q &&& M) + (r &&& m) := by
  have h1 : ((256 * q + r) &&& (256 * M + m)) / 256 = q &&& M := by
    have h : ((256 * q + r) &&& (256 * M + m)) / 2 ^ 8 = (256 * q + r) / 2 ^ 8 &&& (256 * M + m) / 2 ^ 8 := Nat.and_div_two_pow
    have e1 : (256 * q + r) / 2 ^ 8 = q := by omega
    have e2 : (256 * M + m) / 2 ^ 8 = M := by omega
    rw [e1, e2] at h
    exact h
  have h2 : ((256 * q + r) &&& (256 * M + m)) % 256 = r &&& m := by
    have h : ((256 * q + r) &&& (256 * M + m)) % 2 ^ 8 = (256 * q + r) % 2 ^ 8 &&& (256 * M + m) % 2 ^ 8 := Nat.and_mod_two_pow
    have e1 : (256 * q + r) % 2 ^ 8 = r := by omega
    have e2 : (256 * M + m) % 2 ^ 8 = m := by omega
    rw [e1, e2] at h
    exact h
  omega
theorem out85 : ∀ c, c < 2 → ∀ t, t < 128 → (c * 128 + t) &&& 85 = t &&& 85 := by decide +kernel
theorem out51 : ∀ c, c < 4 → ∀ t, t < 64 → (c * 64 + t) &&& 51 = t &&& 51 := by decide +kernel
theorem out15 : ∀ c, c < 5 → ∀ r, r < 69 → (c * 16 + r / 16 + r) &&& 15 = (r / 16 + r) &&& 15 := by decide +kernel
def f1 (b : Nat) : Nat := (b / 2 &&& 85) + (b &&& 85)
def f2 (b : Nat) : Nat := (b / 4 &&& 51) + (b &&& 51)
def f3 (b : Nat) : Nat := (b / 16 + b) &&& 15
theorem f1_lt : ∀ b, b < 256 → f1 b < 256 := by decide +kernel
theorem f2_lt : ∀ b, b < 256 → f2 b < 256 := by decide +kernel
theorem f2f1 : ∀ b, b < 256 → f2 (f1 b) % 16 < 5 ∧ f2 (f1 b) < 69 := by decide +kernel
theorem f321 : ∀ b, b < 256 → f3 (f2 (f1 b)) = pc 8 b := by decide +kernel
theorem step1 (k : Nat) : ∀ s, (s / 2 &&& mk 85 k) + (s &&& mk 85 k) = bm f1 k s := by
  induction k with
  | zero => intro s; simp [mk, bm]
  | succ k ih =>
    intro s
    have e1 : s / 2 = 256 * (s / 256 / 2) + (s / 256 % 2 * 128 + s % 256 / 2) := by omega
    have e2 : s = 256 * (s / 256) + s % 256 := by omega
    have a1 : s / 2 &&& mk 85 (k + 1) = 256 * (s / 256 / 2 &&& mk 85 k) + (s % 256 / 2 &&& 85) := by
      rw [e1, mk, and_join _ _ _ _ (by omega) (by omega), out85 _ (by omega) _ (by omega)]
    have a2 : s &&& mk 85 (k + 1) = 256 * (s / 256 &&& mk 85 k) + (s % 256 &&& 85) := by
      conv => lhs; rw [e2]
      rw [mk, and_join _ _ _ _ (by omega) (by omega)]
    have := ih (s / 256)
    have hf : f1 (s % 256) = (s % 256 / 2 &&& 85) + (s % 256 &&& 85) := rfl
    rw [a1, a2, bm, hf]
    omega
theorem step2 (k : Nat) : ∀ s, (s / 4 &&& mk 51 k) + (s &&& mk 51 k) = bm f2 k s := by
  induction k with
  | zero => intro s; simp [mk, bm]
  | succ k ih =>
    intro s
    have e1 : s / 4 = 256 * (s / 256 / 4) + (s / 256 % 4 * 64 + s % 256 / 4) := by omega
    have e2 : s = 256 * (s / 256) + s % 256 := by omega
    have a1 : s / 4 &&& mk 51 (k + 1) = 256 * (s / 256 / 4 &&& mk 51 k) + (s % 256 / 4 &&& 51) := by
      rw [e1, mk, and_join _ _ _ _ (by omega) (by omega), out51 _ (by omega) _ (by omega)]
    have a2 : s &&& mk 51 (k + 1) = 256 * (s / 256 &&& mk 51 k) + (s % 256 &&& 51) := by
      conv => lhs; rw [e2]
      rw [mk, and_join _ _ _ _ (by omega) (by omega)]
    have := ih (s / 256)
    have hf : f2 (s % 256) = (s % 256 / 4 &&& 51) + (s % 256 &&& 51) := rfl
    rw [a1, a2, bm, hf]
    omega
theorem bm_bm {f g : Nat → Nat} (hg : ∀ b, b < 256 → g b < 256) (k : Nat) : ∀ s, bm f k (bm g k s) = bm (fun b => f (g b)) k s := by
  induction k with
  | zero => intro s; rfl
  | succ k ih =>
    intro s
    have h := hg (s % 256) (by omega)
    rw [bm, bm, bm]
    have e1 : (g (s % 256) + 256 * bm g k (s / 256)) % 256 = g (s % 256) := by omega
    have e2 : (g (s % 256) + 256 * bm g k (s / 256)) / 256 = bm g k (s / 256) := by omega
    rw [e1, e2, ih]
theorem bm_mod16 {g : Nat → Nat} (hg : ∀ b, b < 256 → g b % 16 < 5 ∧ g b < 69) (k s : Nat) : bm g k s % 16 < 5 := by
  cases k with
  | zero => rw [bm]; omega
  | succ k =>
    have h := hg (s % 256) (by omega)
    rw [bm]
    omega
theorem step3 {g : Nat → Nat} (hg : ∀ b, b < 256 → g b % 16 < 5 ∧ g b < 69) (k : Nat) : ∀ s, (bm g k s / 16 + bm g k s) &&& mk 15 k = bm (fun b => f3 (g b)) k s := by
  induction k with
  | zero => intro s; simp [mk]; rfl
  | succ k ih =>
    intro s
    have h := hg (s % 256) (by omega)
    have h16 := bm_mod16 hg k (s / 256)
    have := ih (s / 256)
    have hf : f3 (g (s % 256)) = (g (s % 256) / 16 + g (s % 256)) &&& 15 := rfl
    rw [bm, bm, hf]
    generalize g (s % 256) = r at *
    generalize bm g k (s / 256) = q at *
    have e : (r + 256 * q) / 16 + (r + 256 * q) = 256 * (q / 16 + q) + (q % 16 * 16 + r / 16 + r) := by omega
    rw [e, mk, and_join _ _ _ _ (by omega) (by omega), out15 _ h16 _ h.2, this]
    omega
theorem bm_congr {f g : Nat → Nat} (h : ∀ b, b < 256 → f b = g b) (k : Nat) : ∀ s, bm f k s = bm g k s := by
  induction k with
  | zero => intro s; rfl
  | succ k ih => intro s; rw [bm, bm, h _ (by omega), ih]
/-- The first three steps come to how many of each byte are set. -/
theorem steps (s : Nat) :
    bm f3 8 (bm f2 8 (bm f1 8 s)) = bm (pc 8) 8 s := by
  rw [bm_bm f1_lt, bm_bm (fun b hb => by have := (f2f1 b hb).2; omega)]
  exact bm_congr (fun b hb => f321 b hb) 8 s
theorem sum8 (s : Nat) : ∃ a b c d e f g h : Nat, (a ≤ 8 ∧ b ≤ 8 ∧ c ≤ 8 ∧ d ≤ 8 ∧ e ≤ 8 ∧ f ≤ 8 ∧ g ≤ 8 ∧ h ≤ 8) ∧
    bm (pc 8) 8 s = a + 256 * (b + 256 * (c + 256 * (d + 256 * (e + 256 * (f + 256 * (g + 256 * h)))))) ∧ pc 64 s = a + b + c + d + e + f + g + h := by
  refine ⟨pc 8 (s % 256), pc 8 (s / 256 % 256), pc 8 (s / 256 / 256 % 256), pc 8 (s / 256 / 256 / 256 % 256), pc 8 (s / 256 / 256 / 256 / 256 % 256), pc 8 (s / 256 / 256 / 256 / 256 / 256 % 256),
    pc 8 (s / 256 / 256 / 256 / 256 / 256 / 256 % 256), pc 8 (s / 256 / 256 / 256 / 256 / 256 / 256 / 256 % 256), ⟨pc8_le _, pc8_le _, pc8_le _, pc8_le _, pc8_le _, pc8_le _, pc8_le _, pc8_le _⟩, ?_, ?_⟩
  · simp only [bm, Nat.mul_zero, Nat.add_zero]
  · have e : (64 : Nat) = 8 + (8 + (8 + (8 + (8 + (8 + (8 + 8)))))) := rfl
    rw [e]
    simp only [pc_add]
    have p : (2 : Nat) ^ 8 = 256 := rfl
    rw [p]
    simp only [← pc8_mod]
    omega

end Go.Proofs.YtahejekcfgkiaaaGreatDoor.bits
