/-
  Texts of one claim in one file: JCheck, YPhrase. Each has its own sentence, with its conditions.
-/
import Derived.Test.YtnhoeboighndlaaGreatDoorYall9
import Derived.Test.YtnhoeboighndlaaGreatDoorYall16
import Derived.Test.YtnhoeboighndlaaGreatDoorYall26
import Derived.Test.YtnhoeboighndlaaGreatDoorYall6
import Derived.StillTailTactics
/-
  The program's own check of an instruction (typed over the code of 392f5a9): for every instruction. The table of names must lie where its initialiser lays it.
-/
namespace Go.Proofs.YtnhoeboighndlaaGreatDoor.inst
open Go.RowKit Go.ChangeShapes
open Go.Proofs.YtnhoeboighndlaaGreatDoor.oper (ret_int ret_bool ret_string Tab nm txt)
open Go.Proofs.YtnhoeboighndlaaGreatDoor.word (Word)
set_option linter.unusedVariables false

/-- Both operands, as an array. -/
def arrBox (a b : Int) : Obj := .cells #[.int .i64 a, .int .i64 b] 62
theorem stand_arr (w : World) (o a b : Int) : Stand w o a b (w.heap.size + 1) ((w.alloc (insBox o a b)).alloc (arrBox a b)) := by
  have hz : (w.alloc (insBox o a b)).heap.size = w.heap.size + 1 := World.size_alloc w _
  have h0 : ((w.alloc (insBox o a b)).alloc (arrBox a b)).heap[w.heap.size]? = some (insBox o a b) := (Below.heap_alloc _ _ _ (by omega)).trans (heap_alloc_new w _)
  have h1 : ((w.alloc (insBox o a b)).alloc (arrBox a b)).heap[w.heap.size + 1]? = some (arrBox a b) := by rw [← hz]; exact heap_alloc_new _ _
  refine ⟨((Below.refl _ w).alloc (Nat.le_refl _) _).alloc (by omega) _, by rw [World.size_alloc]; omega, ?_, ?_, ?_, ?_, ?_⟩
  all_goals
    unfold World.cell?
    first | rw [h0] | rw [h1]
    rfl

set_option maxRecDepth 100000 in
/-- What is left of both operands behind the first d: the place, and how many. -/
theorem slice_left (g d m : Nat) (hm : d + m = 2) : ∃ A : Addr, (0 < m → A = ⟨g, d, none⟩) ∧ ∀ W : World, (Instr.sliceAt 62 (.pointer (some ⟨g, 0, none⟩)) (some (.int .i64 (d : Int))) none none).run Tryz.prog W = .ok (.slice (some A) m m) W := by
  have hal : Tryz.prog.arrayLen 62 = 2 := by kernel_rfl
  have hw : ∀ W, (Instr.sliceAt 62 (.pointer (some ⟨g, 0, none⟩)) (some (.int .i64 (d : Int))) none none).run Tryz.prog W = .ok (slicedAt ⟨g, 0, none⟩ d 2 2 1) W := fun W => by
    rw [run_sliceAt_array_l W 62 ⟨g, 0, none⟩ (by kernel_rfl) .i64 (d : Int) (by omega) (by rw [hal]; omega), hal]
    rfl
  refine ⟨if 2 = d then ⟨g, 0, none⟩ else (⟨g, 0, none⟩ : Addr).add (d * 1), fun h => ?_, fun W => ?_⟩
  · rw [if_neg (by omega)]
    simp [Addr.add]
    omega
  · rw [hw W]
    unfold slicedAt
    rw [show 2 - d = m from by omega]

set_option maxRecDepth 100000 in
set_option maxHeartbeats 4000000 in
theorem check_yes (o a b : Int) (hk : Known o) (w : World) (hw : Okw w) : Calls Tryz.prog 26 #[.agg #[.int .i64 o, .int .i64 a, .int .i64 b]] w fun e w' => e = .returned (.int .i64 (chk o a b : Nat)) ∧ Below w.heap.size w w' := by
  have HK : Hid (Calls Tryz.prog 46 #[.int .i64 o] (w.alloc (insBox o a b)) fun e w' => e = .returned (.bool true) ∧ w.alloc (insBox o a b) = w') :=
    Lib.hid ((knows_any o _ (hw.next ((Below.refl _ _).alloc (Nat.le_refl _) _)).1).mono fun e w' ⟨h1, h2⟩ => ⟨by rw [h1, decide_eq_true hk], h2⟩)
  have HF : Hid (Calls Tryz.prog 47 #[.int .i64 o] (w.alloc (insBox o a b)) fun e w' => e = .returned (.string (txt Go.Proofs.YtnhoeboighndlaaGreatDoor.oper.fm o)) ∧ w.alloc (insBox o a b) = w') := Lib.hid (Go.Proofs.YtnhoeboighndlaaGreatDoor.oper.form_any o _)
  have HZ : Hid (chk o a b = chkF (form o) a b) := Lib.hid (by unfold chk; rw [if_pos hk])
  have hy2 : (txt Go.Proofs.YtnhoeboighndlaaGreatDoor.oper.fm o).size ≤ 2 := by have := form_le o; unfold form at this; rwa [← size_list] at this
  have HS : Hid (Stand w o a b (w.heap.size + 1) ((w.alloc (insBox o a b)).alloc (arrBox a b))) := Lib.hid (stand_arr w o a b)
  have hz1 : (w.alloc (insBox o a b)).heap.size = w.heap.size + 1 := World.size_alloc w _
  unfold form at HZ
  rw [HZ.out]
  clear hk HZ hw
  generalize txt Go.Proofs.YtnhoeboighndlaaGreatDoor.oper.fm o = y at *
  go_enter Tryz.func26, Tryz.ntmps26
  unfold insBox at HK HF
  go_wp2_with fail
  refine HK.out.mono ?_
  rintro e w1 ⟨rfl, rfl⟩
  go_wp2_with fail
  refine HF.out.mono ?_
  rintro e w1 ⟨rfl, rfl⟩
  have HN := Lib.hid hy2
  unfold insBox arrBox at HS
  go_wp2_with fail
  go_loopw [22] (fun i wr => ∃ j : Nat, j ≤ y.size ∧ i = .int .i64 (j : Int) ∧ Hid (∀ k, k < j → okAt y.data.toList a b k = true) ∧ Hid (Stand w o a b (w.heap.size + 1) wr)) (fun i _ => y.size - (intOf i).toNat)
  case atStart => exact ⟨0, Nat.zero_le _, rfl, Lib.hid (fun k hk => absurd hk (Nat.not_lt_zero k)), HS⟩
  case round =>
    obtain ⟨j, hj, rfl, HO, HS⟩ := hrel
    by_cases hlt : j < y.size
    · have hcell := HS.out.at (j := j) (by omega)
      have hlt' : (j : Int) < (y.size : Int) := by omega
      have hj2 : j < 2 := by omega
      have hyj : y[j] = y.data.toList.getD j 0 := letter_at hlt
      have HK1 := fun h => Lib.hid (chkF_arg (f := y.data.toList) (a := a) (b := b) (j := j) (by rw [← size_list]; exact hlt) h)
      have HNx : ∀ h : okAt y.data.toList a b j = true, Hid (∀ k, k < j + 1 → okAt y.data.toList a b k = true) := fun h => Lib.hid (fun k hk => by
        rcases Nat.lt_or_ge k j with h1 | h1
        · exact HO.out k h1
        · obtain rfl : k = j := by omega
          exact h)
      have HR := fun W => inRange_any (y.data.toList.getD j 0) (opd a b j) W
      unfold okAt at HK1 HNx
      generalize fitsB (y.data.toList.getD j 0) (opd a b j) = q at *
      generalize y.data.toList.getD j 0 = c at *
      generalize opd a b j = v at *
      have hj0 : (0 : Int) ≤ (j : Int) := by omega
      have hj2' : (j : Int) < 2 := by omega
      have HB := Lib.hid HS.out.below
      have HR' : ∀ W : World, Calls Tryz.prog 48 #[.int .u8 (c.toNat : Int), .int .i64 v] W fun e w' => e = .returned (.bool q) ∧ w' = W := fun W => (HR W).mono fun e w' ⟨h1, h2⟩ => ⟨h1, h2.symm⟩
      clear HR
      cases q with
      | true =>
        have HE := HNx rfl
        clear HK1 HNx
        go_wp2_with fail
        go_quiet ((go_at_call 48; exact Calls.quiet_of_same (HR' _)))
        go_wp2
        go_roundw
        case rel => exact ⟨j + 1, by omega, by go_num, HE, Lib.hid (HS.out.drewN _)⟩
        case measure => simp [intOf]; omega
      | false =>
        have HE := HK1 rfl
        clear HK1 HNx
        go_wp2_with fail
        go_quiet ((go_at_call 48; exact Calls.quiet_of_same (HR' _)))
        go_wp2
        go_ret
        exact ⟨ret_int (by rw [HE.out]; rfl), below_drewN HB.out _⟩
    · obtain rfl : j = y.size := by omega
      obtain ⟨m, hm⟩ : ∃ m, y.size + m = 2 := ⟨2 - y.size, by omega⟩
      obtain ⟨A, hA, hsl⟩ := slice_left (w.heap.size + 1) y.size m hm
      have HA := Lib.hid hA
      have HM := Lib.hid hm
      clear hA hm
      have hcell := fun k (hk : k < 2) => Lib.hid (HS.out.at hk)
      have hc1 := HS.out.c1
      have hc2 := HS.out.c2
      have HB := Lib.hid HS.out.below
      have HF1 : Hid (∀ k, k < y.data.toList.length → okAt y.data.toList a b k = true) := Lib.hid (by rw [← size_list]; exact HO.out)
      go_wp2_with fail
      any_goals
        have h1 : y.toList = [106, 106] := by assumption
        have h2 : b < a := by assumption
        have HE := Lib.hid (chkF_two HF1.out (by rw [← ByteArray.toList_eq]; exact h1) h2)
        clear h1
        go_ret
        exact ⟨ret_int (by rw [HE.out]; rfl), HB.out⟩
      all_goals
        have HX : Hid (¬ (y.data.toList = [106, 106] ∧ b < a)) := Lib.hid (by
          rw [← ByteArray.toList_eq]
          rintro ⟨h1, h2⟩
          first
            | omega
            | exact absurd h1 (by assumption))
        clear hcell hc1 hc2
        try (rename y.toList = [106, 106] => h1; replace h1 := Lib.hid h1)
        try (rename ¬ y.toList = [106, 106] => h1; replace h1 := Lib.hid h1)
        go_loopw [47] (fun i wr => ∃ j : Nat, j ≤ m ∧ i = .int .i64 (j : Int) ∧ Hid (∀ k, y.size ≤ k → k < y.size + j → opd a b k = 0) ∧ Hid (Stand w o a b (w.heap.size + 1) wr)) (fun i _ => m - (intOf i).toNat)
        case atStart => exact ⟨0, Nat.zero_le _, rfl, Lib.hid (fun k h1 h2 => absurd h1 (Nat.not_le_of_lt h2)), HS⟩
        case round =>
          obtain ⟨j, hj1, rfl, HP, HS2⟩ := hrel
          have HB2 := Lib.hid HS2.out.below
          by_cases hlt : j < m
          · have hm := HM.out
            have hc := HS2.out.at (j := y.size + j) (by omega)
            obtain rfl := HA.out (by omega)
            have hj3 : (j : Int) < (m : Int) := by omega
            by_cases hv : opd a b (y.size + j) = 0
            · have HE : Hid (∀ k, y.size ≤ k → k < y.size + (j + 1) → opd a b k = 0) := Lib.hid (fun k h1 h2 => by
                rcases Nat.lt_or_ge k (y.size + j) with h3 | h3
                · exact HP.out k h1 h3
                · obtain rfl : k = y.size + j := by omega
                  exact hv)
              rw [hv] at hc
              clear hv
              go_wp2
              go_roundw
              case rel => exact ⟨j + 1, by omega, by go_num, HE, HS2⟩
              case measure => simp [intOf]; omega
            · have HE := Lib.hid (chkF_form HF1.out HX.out (j := y.size + j) (by rw [← size_list]; omega) (by omega) hv)
              have hv' : (opd a b (y.size + j) != 0) = true := by simpa using hv
              clear hv hm
              generalize opd a b (y.size + j) = v at *
              go_wp2
              go_ret
              exact ⟨ret_int (by rw [HE.out]; rfl), HB2.out⟩
          · obtain rfl : j = m := by omega
            have hm := HM.out
            have HE := Lib.hid (chkF_fine HF1.out HX.out (by rw [← size_list]; exact fun k h1 h2 => HP.out k h1 (by omega)))
            go_wp2_with fail
            go_ret
            exact ⟨ret_int (by rw [HE.out]; rfl), HB2.out⟩

theorem check_no (o a b : Int) (hk : ¬ Known o) (w : World) (hw : Okw w) : Calls Tryz.prog 26 #[.agg #[.int .i64 o, .int .i64 a, .int .i64 b]] w fun e w' => e = .returned (.int .i64 (chk o a b : Nat)) ∧ Below w.heap.size w w' := by
  have HK : Hid (Calls Tryz.prog 46 #[.int .i64 o] (w.alloc (insBox o a b)) fun e w' => e = .returned (.bool false) ∧ w.alloc (insBox o a b) = w') :=
    Lib.hid ((knows_any o _ (hw.next ((Below.refl _ _).alloc (Nat.le_refl _) _)).1).mono fun e w' ⟨h1, h2⟩ => ⟨by rw [h1, decide_eq_false hk], h2⟩)
  have HZ : Hid (chk o a b = 6) := Lib.hid (by unfold chk; rw [if_neg hk])
  have HB := Lib.hid ((Below.refl w.heap.size w).alloc (Nat.le_refl _) (insBox o a b))
  rw [HZ.out]
  clear hk HZ hw
  go_enter Tryz.func26, Tryz.ntmps26
  unfold insBox at HK
  go_wp2_with fail
  refine HK.out.mono ?_
  rintro e w1 ⟨rfl, rfl⟩
  go_wp2_with fail
  go_ret
  exact ⟨rfl, HB.out⟩
theorem check_any (o a b : Int) (w : World) (hw : Okw w) : Calls Tryz.prog 26 #[.agg #[.int .i64 o, .int .i64 a, .int .i64 b]] w fun e w' => e = .returned (.int .i64 (chk o a b : Nat)) ∧ Below w.heap.size w w' := by
  by_cases hk : Known o
  · exact check_yes o a b hk w hw
  · exact check_no o a b hk w hw
end Go.Proofs.YtnhoeboighndlaaGreatDoor.inst

/-
  The program's writing of a name with numbers behind it, and its Line (typed over the code of 0aab59b).
-/
namespace Go.Proofs.YtnhoeboighndlaaGreatDoor.pgm.asm
open Go.RowKit Go.ChangeShapes
open Go.Proofs.YtnhoeboighndlaaGreatDoor.pgm
open Go.Proofs.YtnhoeboighndlaaGreatDoor.octet (size_mk mk_append)
open Go.Proofs.YtnhoeboighndlaaGreatDoor.need (digs intT intT_le itoa_any)
open Go.Proofs.YtnhoeboighndlaaGreatDoor.objs (De)
open Go.Proofs.YtnhoeboighndlaaGreatDoor.oper (nm txt)
open Go.Proofs.YtnhoeboighndlaaGreatDoor.inst (form chk)
set_option linter.unusedVariables false

/-- While a phrase is written. -/
structure Ph (w : World) (a b : Int) (W : World) : Prop where
  below : Below w.heap.size w W
  box : W.heap[w.heap.size]? = some (.cells #[.int .i64 a, .int .i64 b] 63 (0, 0))
theorem Ph.next {w W W' : World} {a b : Int} (h : Ph w a b W) (hb : Below W.heap.size W W') : Ph w a b W' :=
  ⟨h.below.trans (hb.mono h.below.size), (hb.block _ (lt_of_block h.box)).trans h.box⟩
theorem ph_new (w : World) (a b : Int) : Ph w a b (w.alloc (pairBox a b)) := ⟨(Below.refl _ _).alloc (Nat.le_refl _) _, heap_alloc_new w _⟩
/-- A phrase, up to so many numbers. -/
def phr (s : List UInt8) (many : Nat) (a b : Int) (j : Nat) : List UInt8 := s ++ numsT ((opsL many a b).take j)
theorem phr_next {s : List UInt8} {many : Nat} {a b : Int} {j : Nat} (hm : many ≤ 2) (hj : j < many) : phr s many a b (j + 1) = phr s many a b j ++ ([32] ++ intT (if j = 0 then a else b)) := by
  have h : (many = 1 ∧ j = 0) ∨ (many = 2 ∧ j = 0) ∨ (many = 2 ∧ j = 1) := by omega
  rcases h with ⟨rfl, rfl⟩ | ⟨rfl, rfl⟩ | ⟨rfl, rfl⟩ <;> simp [phr, opsL, numsT]
theorem phr_le (s : List UInt8) {many : Nat} {a b : Int} (hm : many ≤ 2) (ha : I64 a) (hb : I64 b) : ∀ j, j ≤ many → (phr s many a b j).length ≤ s.length + 22 * j := by
  intro j
  induction j with
  | zero => intro _; simp [phr, numsT]
  | succ j ih =>
    intro hj
    have h1 := ih (by omega)
    have h2 := intT_le (n := if j = 0 then a else b) (by split; exact ha; exact hb)
    rw [phr_next hm (by omega)]
    simp only [List.length_append, List.length_cons, List.length_nil]
    omega

set_option maxRecDepth 100000 in
set_option maxHeartbeats 4000000 in
theorem phrase_any (s : List UInt8) (a b : Int) (many : Nat) (hm : many ≤ 2) (hs : s.length ≤ 100000) (ha : I64 a) (hb : I64 b) (w : World) (hw : Okz w) :
    Calls Tryz.prog 21 #[.string ⟨s.toArray⟩, .agg #[.int .i64 a, .int .i64 b], .int .i64 (many : Int)] w fun e w' => e = .returned (.string ⟨(s ++ numsT (opsL many a b)).toArray⟩) ∧ Below w.heap.size w w' := by
  have HX0 := Lib.hid (ph_new w a b)
  have HW := Lib.hid hw
  have HLe := fun j hj => phr_le s (a := a) (b := b) hm ha hb j hj
  have HA := Lib.hid ha
  have HB := Lib.hid hb
  have hEnd : s ++ numsT (opsL many a b) = phr s many a b many := by
    unfold phr
    rw [List.take_of_length_le (by rw [opsL_length hm]; exact Nat.le_refl _)]
  rw [hEnd]
  have h0 : s = phr s many a b 0 := by simp [phr, numsT]
  have hsz := HLe 0 (Nat.zero_le _)
  obtain ⟨s0, hs0⟩ : ∃ s0, s0 = phr s many a b 0 := ⟨_, rfl⟩
  have HLe := Lib.hid HLe
  have HS := Lib.hid hs0
  have e0 : ByteArray.mk s.toArray = ⟨s0.toArray⟩ := by rw [hs0, ← h0]
  rw [e0]
  have hm1 : (many : Int) ≤ 2 := by omega
  have hm0 : (0 : Int) ≤ (many : Int) := by omega
  unfold pairBox at HX0
  clear hw ha hb hEnd h0 hsz hs0 e0
  go_enter Tryz.func21, Tryz.ntmps21
  go_wp2_with fail
  generalize w.alloc (Obj.cells #[Value.int IntKind.i64 a, Value.int IntKind.i64 b] 63) = W0 at *
  go_loopw [0, 12] (fun v i wr => ∃ (j : Nat) (t : List UInt8), j ≤ many ∧ i = .int .i64 (j : Int) ∧ v = .string ⟨t.toArray⟩ ∧ Hid (t = phr s many a b j) ∧ Hid (Ph w a b wr)) (fun _ i _ => many - (intOf i).toNat)
  case atStart => exact ⟨0, s0, Nat.zero_le _, rfl, rfl, HS, HX0⟩
  case round =>
    obtain ⟨j, t, hj, rfl, rfl, HT, HX⟩ := hrel
    obtain ⟨W1, rfl⟩ : ∃ W1, W1 = wr := ⟨_, rfl⟩
    by_cases hlt : j < many
    · have hlt' : (j : Int) < (many : Int) := by omega
      have hj0 : (0 : Int) ≤ (j : Int) := by omega
      have HTn := Lib.hid (phr_next (s := s) (a := a) (b := b) hm hlt)
      have hx : ∃ x, x = (if j = 0 then a else b) := ⟨_, rfl⟩
      obtain ⟨x, hx⟩ := hx
      have hxI : I64 x := by rw [hx]; split; exact HA.out; exact HB.out
      have hI := fun W hW => Lib.hid (itoa_any x hxI W hW)
      have hc : W1.cell? ⟨w.heap.size, j, none⟩ = some (.int .i64 x) := by
        obtain ⟨c0, c1, _, _⟩ := cells2 HX.out.box
        have : j = 0 ∨ j = 1 := by omega
        rcases this with rfl | rfl
        · rw [hx]; exact c0
        · rw [hx]; exact c1
      have y1 := size_mk t
      have y2 := size_mk (intT x)
      have y3 : (ByteArray.mk #[32]).size = 1 := rfl
      have y4 := intT_le hxI
      have y5 := HLe.out j (by omega)
      rw [← HT.out] at y5
      have y6 : (ByteArray.mk #[32] ++ ByteArray.mk (intT x).toArray).size = 1 + (intT x).length := by rw [show (ByteArray.mk #[32]) = ByteArray.mk [32].toArray from rfl, mk_append, size_mk, List.length_append]; rfl
      obtain ⟨t2, ht2⟩ : ∃ t2, t2 = t ++ ([32] ++ intT x) := ⟨_, rfl⟩
      have hE : ByteArray.mk t.toArray ++ (ByteArray.mk #[32] ++ ByteArray.mk (intT x).toArray) = ⟨t2.toArray⟩ := by rw [show (ByteArray.mk #[32]) = ByteArray.mk [32].toArray from rfl, mk_append, mk_append, ht2]
      have HT2 : Hid (t2 = phr s many a b (j + 1)) := Lib.hid (by rw [HTn.out, ← HT.out, ht2, hx])
      have HEq := Lib.hid hE
      clear hE ht2 HT HTn hx HS HLe
      go_wp2_with fail
      refine (hI _ (HW.out.next HX.out.below).need).out.mono ?_
      rintro e w1 ⟨rfl, hb⟩
      have HX1 := Lib.hid (HX.out.next hb)
      have hE := HEq.out
      clear hc hb HX hI
      go_wp2_with fail
      go_roundw
      case rel => exact ⟨j + 1, t2, by omega, by go_num, rfl, HT2, HX1⟩
      case measure => simp [intOf]; omega
    · have e : j = many := by omega
      subst e
      have hge : ¬ (j : Int) < (j : Int) := by omega
      go_wp2_with fail
      go_ret
      exact ⟨by rw [← HT.out]; rfl, HX.out.below⟩

/-- What the program's Line answers. -/
theorem form_le (o : Int) : (form o).length ≤ 2 := by
  by_cases h : 0 ≤ o ∧ o ≤ 51
  · obtain ⟨k, hk, rfl⟩ := Go.Proofs.YtnhoeboighndlaaGreatDoor.oper.nat_of h
    exact form_two k hk
  · have e : form o = [] := by
      unfold form Go.Proofs.YtnhoeboighndlaaGreatDoor.oper.txt
      rw [if_neg (by omega)]
    rw [e]
    exact Nat.zero_le _

set_option maxRecDepth 100000 in
set_option maxHeartbeats 4000000 in
theorem line_any (o a b : Int) (w : World) (hw : Okz w) (ho : I64 o) (ha : I64 a) (hb : I64 b) : Calls Tryz.prog 9 #[.agg #[.int .i64 o, .int .i64 a, .int .i64 b]] w (LinePost o a b w) := by
  unfold LinePost lineA
  obtain ⟨s, hs⟩ : ∃ s, s = (txt nm o).data.toList := ⟨_, rfl⟩
  have hn : txt nm o = ⟨s.toArray⟩ := by rw [hs]
  have hsl : s.length ≤ 10 := by
    rw [hs]
    by_cases h : 0 ≤ o ∧ o ≤ 51
    · obtain ⟨k, hk, rfl⟩ := Go.Proofs.YtnhoeboighndlaaGreatDoor.oper.nat_of h
      rw [Go.Proofs.YtnhoeboighndlaaGreatDoor.oper.txt_at hk]
      exact name_short k hk
    · unfold txt
      rw [if_neg h]
      exact Nat.zero_le _
  have HB0 : Hid (Below w.heap.size w (w.alloc (iBox o a b))) := Lib.hid ((Below.refl _ w).alloc (Nat.le_refl _) _)
  have HI0 := Lib.hid (heap_alloc_new w (iBox o a b))
  have HC := fun W (hW : Okz W) => Lib.hid (Go.Proofs.YtnhoeboighndlaaGreatDoor.inst.check_any o a b W hW.prog.ins)
  have HN := fun W (hW : Okz W) => Lib.hid (Go.Proofs.YtnhoeboighndlaaGreatDoor.oper.name_any o W hW.prog.ins.1)
  rw [hn] at HN
  have HO := fun W => Lib.hid (operands_any o W)
  have HP := fun W (hW : Okz W) => Lib.hid (phrase_any s a b (form o).length (form_le o) (by omega) ha hb W hW)
  have HT : Hid (lineT (o, a, b) = s ++ numsT (opsL (form o).length a b)) := Lib.hid (by unfold lineT; rw [← hs])
  rw [HT.out]
  obtain ⟨r, hr⟩ : ∃ r, r = (if chk o a b = 0 then s ++ numsT (opsL (form o).length a b) else []) := ⟨_, rfl⟩
  rw [← hr]
  have HR := Lib.hid hr
  generalize (form o).length = many at *
  have HW := Lib.hid hw
  unfold iBox at HB0 HI0
  clear hn hs hsl hw ha hb HT hr
  go_enter Tryz.func9, Tryz.ntmps9
  go_upto_region 1 with fail
  generalize w.alloc (Obj.cells #[Value.int IntKind.i64 o, Value.int IntKind.i64 a, Value.int IntKind.i64 b] 28) = W0 at *
  obtain ⟨x0, x1, x2, -, -, -⟩ := Go.Proofs.YtnhoeboighndlaaGreatDoor.objs.cells3 HI0.out
  have HO0 := Lib.hid (HW.out.next HB0.out)
  go_wp2_with fail
  refine (HC _ HO0.out).out.mono ?_
  rintro e w1 ⟨rfl, hb1⟩
  have HB1 := Lib.hid (HB0.out.trans (hb1.mono HB0.out.size))
  have HI1 := Lib.hid ((hb1.block _ (lt_of_block HI0.out)).trans HI0.out)
  have HO1 := Lib.hid (HW.out.next HB1.out)
  clear hb1 x0 x1 x2 HB0 HI0 HO0 HC
  obtain ⟨x0, x1, x2, -, -, -⟩ := Go.Proofs.YtnhoeboighndlaaGreatDoor.objs.cells3 HI1.out
  by_cases hz : chk o a b = 0
  · have HR2 : Hid (r = s ++ numsT (opsL many a b)) := Lib.hid (by rw [HR.out, if_pos hz])
    rw [hz]
    clear hz HR
    go_wp2_with fail
    go_still_tail 11, (by kernel_rfl)
    have HOd : Hid (Okz w1.drew) := Lib.hid (HO1.out.next (Below.refl _ _).drew)
    have HBd : Hid (Below w.heap.size w w1.drew) := Lib.hid HB1.out.drew
    still_call ((HN w1.drew HOd.out).out.mono fun e w' h => ⟨h.1, h.2.symm⟩)
    repeat still_step
    still_call ((HO w1.drew).out.mono fun e w' h => ⟨h.1, h.2.symm⟩)
    repeat still_step
    refine wpStill_nil ?_
    change wpList _ _ _ _ _ w1.drew
    generalize w1.drew = W2 at *
    clear x0 x1 x2 HB1 HI1 HO1 HN HO
    go_wp2_with fail
    refine (HP _ HOd.out).out.mono ?_
    rintro e w3 ⟨rfl, hb3⟩
    have HB3 := Lib.hid (HBd.out.trans (hb3.mono HBd.out.size))
    clear hb3
    go_wp2_with fail
    go_ret
    exact ⟨by rw [HR2.out]; rfl, HB3.out⟩
  · have HR2 : Hid (r = []) := Lib.hid (by rw [HR.out, if_neg hz])
    have hz' : ((chk o a b : Int) != 0) = true := by simpa using hz
    generalize chk o a b = c at *
    clear hz HR
    go_wp2_with fail
    go_ret
    exact ⟨by rw [HR2.out]; rfl, HB1.out⟩
end Go.Proofs.YtnhoeboighndlaaGreatDoor.pgm.asm
