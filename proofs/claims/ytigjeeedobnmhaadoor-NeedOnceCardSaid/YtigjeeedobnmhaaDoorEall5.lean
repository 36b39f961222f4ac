/-
  Texts of one claim in one file: OutKeep, Lives, EPut, BFirst, BOnes, BCount, BRef, ERefObjs, EObjs, ERefText, EText, ETextAll. Each has its own sentence, with its conditions.
-/
import Derived.Test.YtigjeeedobnmhaaDoorEall4
import Derived.Test.YtigjeeedobnmhaaDoorEall3
import Derived.Test.YtigjeeedobnmhaaDoorEall1
import Derived.StillTailTactics
import Derived.Below
import Derived.Deep.DeepCutAuto
import Derived.Deep.CutBlock
import Derived.LoopTactic
import Derived.IntWalk
import Derived.Test.YtigjeeedobnmhaaDoorEall2
import Derived.Test.YtigjeeedobnmhaaDoorShelf
import Derived.Lib.AppendIntMem
import Derived.Laws.MakeOwn
/-
  The writer's calls once more, with what else stays as it was: every block that holds no bytes and is not the writer itself. No condition but that the bytes are fewer than a slice can hold.
-/
namespace Go.Proofs.YtigjeeedobnmhaaDoor.octet
open Go.RowKit Go.ChangeShapes
set_option linter.unusedVariables false

/-- A block that is no row of bytes. -/
def NoBytes (o : Obj) : Prop := ∀ cur q, o ≠ .cells cur 5 q
/-- What holds no bytes, and is not at bo, has stayed. -/
def Spare (bo : Nat) (w w' : World) : Prop := ∀ k o, w.heap[k]? = some o → k ≠ bo → NoBytes o → w'.heap[k]? = some o
theorem Spare.refl (bo : Nat) (w : World) : Spare bo w w := fun _ _ h _ _ => h
theorem Spare.trans {bo : Nat} {a b c : World} (h : Spare bo a b) (k : Spare bo b c) : Spare bo a c := fun i o h1 h2 h3 => k i o (h i o h1 h2 h3) h2 h3
theorem Spare.store {base bo : Nat} {l xs : List Value} {n : Nat} {w W w1 : World} {v v' : Value} (hown : w.ownsRow base 5 1 v n xs) (hW : ∀ k, k < w.heap.size → W.heap[k]? = w.heap[k]?) (hs : w.heap.size ≤ W.heap.size) (hg : W.grownBy w1 v.ownBlock) : Spare bo w (w1.setCell ⟨bo, 0, none⟩ v') := by
  intro k o h1 h2 h3
  have hlt := lt_of_block h1
  have hne : some k ≠ v.ownBlock := by
    intro e
    rcases hown.2 with ⟨rfl, _⟩ | ⟨g, cap, cur, rfl, _, hh, _⟩
    · cases e
    · simp [Value.ownBlock] at e
      subst e
      rw [h1] at hh
      exact h3 _ _ (Option.some.inj hh)
  rw [Below.heap_setCell _ _ _ _ (show k ≠ bo from h2), hg.block k (by omega) (fun e => hne e), hW k hlt]
  exact h1

set_option maxHeartbeats 400000 in
theorem byte_keep (w : World) (base bo : Nat) (l : List UInt8) (n : Int) (h : OutAt w base bo l) (hl : l.length + 1 ≤ 140737488355328) :
    Calls Tryd.prog 42 #[.pointer (some ⟨bo, 0, none⟩), .int .i64 n] w fun e w' => e = .returned (.tuple #[]) ∧ OutAt w' base bo (l ++ [bof n]) ∧ Frm base bo w w' ∧ Spare bo w w' := by
  obtain ⟨v, h1, h2, h3, h4⟩ := h
  obtain ⟨i0, hi, hz0, hz1, hz2⟩ := info_parts info5
  have hc := cell_of_one h1
  have hf := free_of_one h1
  go_enter Tryd.func42, Tryd.ntmps42
  go_wp2_with (
    at_builtin
    refine wpList_append_own _ rfl (.tmp 10) (.tmp 13) _ rfl base 5 i0 _ 1 1 Tryd.underlying54 hi hz0 hz1 hz2 rfl (by omega) v l.length (cells l) rfl (h2.alloc _)
      ⟨w.heap.size, 0, none⟩ 1 1 [.int .u8 (n % 256)] rfl rfl ?c1 ?c2 ?c3 ?c4 ?c5 ?_)
  case c1 =>
    intro j u hu
    rcases j with _ | j
    · simp only [List.getElem?_cons_zero, Option.some.injEq] at hu
      subst hu
      exact cell_of_one (heap_alloc_new w _)
    · simp at hu
  case c2 => intro u hu; simp only [List.mem_singleton] at hu; subst hu; rfl
  case c3 => simp only [maxLen]; omega
  case c4 => omega
  case c5 => simp; omega
  intro v' w1 hown hg _
  have hs := out_store (r := [bof n]) h1 h2 h3 h4 ⟨_, .inl rfl⟩ (by simpa [cells, bof_cell] using hown) hg
  have HP : Hid (Spare bo w (w1.setCell ⟨bo, 0, none⟩ v')) := Lib.hid (Spare.store (base := base) (l := []) (xs := cells l) (n := l.length) h2 (fun k hk => Below.heap_alloc _ _ _ hk) (by simp) hg)
  have hc1 := cell_of_one hs.1
  have hf1 := free_of_one hs.1
  obtain ⟨_, hs2, hs3⟩ := hs
  obtain ⟨A', m', c', rfl⟩ := own_slice hown
  go_wp2
  go_end0
  exact ⟨rfl, hs2, hs3, HP.out⟩

set_option maxHeartbeats 400000 in
theorem num_keep (w : World) (base bo : Nat) (l : List UInt8) (n : Nat) (hn : Fits n) (h : OutAt w base bo l) (hl : l.length + 10 ≤ 140737488355328) :
    Calls Tryd.prog 25 #[.pointer (some ⟨bo, 0, none⟩), .int .u64 (n : Int)] w fun e w' => e = .returned (.tuple #[]) ∧ OutAt w' base bo (l ++ num n) ∧ Frm base bo w w' ∧ Spare bo w w' := by
  go_enter Tryd.func25, Tryd.ntmps25
  go_wp2
  go_loopw [1] (fun t wr => ∃ (m : Nat) (pre : List UInt8), t = .int .u64 (m : Int) ∧ Fits m ∧ pre ++ num m = num n ∧ OutAt wr base bo (l ++ pre) ∧ Frm base bo w wr ∧ Hid (Spare bo w wr)) (fun t _ => (intOf t).toNat)
  case atStart => exact ⟨n, [], rfl, hn, rfl, by simpa using h, Frm.refl _ _ _, Lib.hid (Spare.refl _ _)⟩
  case round =>
    obtain ⟨m, pre, rfl, hm, he, ho, hfr, HQ⟩ := hrel
    have hpl : (l ++ pre).length + 1 ≤ 140737488355328 := by
      have e1 := congrArg List.length he
      have e2 := num_length_le n
      have e3 := enc_length_pos 9 m
      have e4 : (num m).length = (enc 9 m).length := rfl
      simp only [List.length_append] at e1 ⊢
      omega
    have HE := Lib.hid he
    clear he
    by_cases hlt : m < 128
    · go_wp2_with fail
      refine (byte_keep _ base bo (l ++ pre) _ ho hpl).mono ?_
      rintro e w1 ⟨rfl, ho1, hf1, hp1⟩
      have HP := Lib.hid (HQ.out.trans hp1)
      clear hp1
      go_wp2
      go_end0
      refine ⟨rfl, ?_, hfr.trans hf1, HP.out⟩
      rw [← HE.out, num_small hlt, ← List.append_assoc]
      rw [bof_nat] at ho1
      exact ho1
    · go_wp2_with fail
      rw [or_and_u64 m hm]
      refine (byte_keep _ base bo (l ++ pre) _ ho hpl).mono ?_
      rintro e w1 ⟨rfl, ho1, hf1, hp1⟩
      have HP := Lib.hid (HQ.out.trans hp1)
      clear hp1
      go_wp2
      refine ⟨⟨m / 128, pre ++ [UInt8.ofNat (m % 128 + 128)], ?_, ?_, ?_, ?_, hfr.trans hf1, HP⟩, ?_⟩
      · congr 1
      · unfold Fits at hm ⊢; omega
      · rw [← HE.out, num_big (by omega) hm, List.append_assoc]
        rfl
      · rw [← List.append_assoc, ← bof_nat]; exact ho1
      · simp [intOf]; omega

end Go.Proofs.YtigjeeedobnmhaaDoor.octet

/-
  Opening a reader; the calls on what is not there; and that numbers are put and read: the common end of all these statements. No condition.
-/
namespace Go.Proofs.YtigjeeedobnmhaaDoor.octet
open Go.RowKit Go.ChangeShapes
set_option linter.unusedVariables false

set_option maxHeartbeats 400000 in
theorem open_any (w : World) (s : ByteArray) :
    Calls Tryd.prog 31 #[.string s] w fun e w' => e = .returned (.pointer (some ⟨w.heap.size, 0, none⟩)) ∧ InAt w' w.heap.size ⟨s.data.toList, 0⟩ ∧ Below w.heap.size w w' ∧ w'.heap.size = w.heap.size + 1 := by
  go_enter Tryd.func31, Tryd.ntmps31
  go_wp2
  go_ret
  refine ⟨rfl, ?_, (Below.refl _ _).alloc (Nat.le_refl _) _, by simp⟩
  exact heap_alloc_new w _

theorem out_new (w : World) : OutAt (w.alloc (.cells #[.slice none 0 0] 56)) (w.heap.size + 1) w.heap.size [] :=
  ⟨.slice none 0 0, heap_alloc_new w _, World.ownsRow_nil _ _ _ _, by omega, by simp⟩

theorem r1 : rdNum ⟨[172, 2, 1], 0⟩ = (300, ⟨[1], 0⟩) := rfl
theorem r2 : rdInt ⟨[1], 0⟩ = (-1, ⟨[], 0⟩) := rfl
theorem r3 : rdByte ⟨[], 0⟩ = (0, ⟨[], 3⟩) := rfl

set_option maxHeartbeats 400000 in
theorem byte_nil (w : World) (n : Int) : Calls Tryd.prog 42 #[.pointer none, .int .i64 n] w fun e w' => e = .returned (.tuple #[]) ∧ w = w' := by
  go_enter Tryd.func42, Tryd.ntmps42
  go_wp2
  go_end0
  exact ⟨rfl, rfl⟩
set_option maxHeartbeats 400000 in
theorem num_nil (w : World) (n : Nat) (hn : Fits n) : Calls Tryd.prog 25 #[.pointer none, .int .u64 (n : Int)] w fun e w' => e = .returned (.tuple #[]) ∧ w = w' := by
  go_enter Tryd.func25, Tryd.ntmps25
  go_wp2
  go_loopw [1] (fun t wr => ∃ (m : Nat), t = .int .u64 (m : Int) ∧ Fits m ∧ w = wr) (fun t _ => (intOf t).toNat)
  case atStart => exact ⟨n, rfl, hn, rfl⟩
  case round =>
    obtain ⟨m, rfl, hm, rfl⟩ := hrel
    by_cases hlt : m < 128
    · go_wp2_with fail
      refine (byte_nil _ _).mono ?_
      rintro e w1 ⟨rfl, rfl⟩
      go_wp2
      go_end0
      exact ⟨rfl, rfl⟩
    · go_wp2_with fail
      rw [or_and_u64 m hm]
      refine (byte_nil _ _).mono ?_
      rintro e w1 ⟨rfl, rfl⟩
      go_wp2
      refine ⟨⟨m / 128, ?_, ?_, by first | rfl | trivial⟩, ?_⟩
      · congr 1
      · unfold Fits at hm ⊢; omega
      · simp [intOf]; omega
set_option maxHeartbeats 400000 in
theorem done_nil (w : World) : Calls Tryd.prog 27 #[.pointer none] w fun e w' => e = .returned (.string ⟨#[]⟩) ∧ w = w' := by
  go_enter Tryd.func27, Tryd.ntmps27
  go_wp2
  go_ret
  exact ⟨rfl, rfl⟩
set_option maxHeartbeats 400000 in
theorem left_nil (w : World) : Calls Tryd.prog 33 #[.pointer none] w fun e w' => e = .returned (.int .i64 0) ∧ w = w' := by
  go_enter Tryd.func33, Tryd.ntmps33
  go_wp2
  go_ret
  exact ⟨rfl, rfl⟩
set_option maxHeartbeats 400000 in
theorem err_nil (w : World) : Calls Tryd.prog 64 #[.pointer none] w fun e w' => e = .returned (.int .i64 7) ∧ w = w' := by
  go_enter Tryd.func64, Tryd.ntmps64
  go_wp2
  go_ret
  exact ⟨rfl, rfl⟩
set_option maxHeartbeats 400000 in
theorem fail_nil (w : World) (e : Int) : Calls Tryd.prog 77 #[.pointer none, .int .i64 e] w fun r w' => r = .returned (.tuple #[]) ∧ w = w' := by
  go_enter Tryd.func77, Tryd.ntmps77
  go_wp2
  refine bodyPost_ret (results_none rfl _ _ _) rfl ?_
  exact ⟨rfl, rfl⟩
set_option maxHeartbeats 400000 in
theorem next_nil (w : World) : Calls Tryd.prog 76 #[.pointer none] w fun r w' => r = .returned (.int .u8 0) ∧ w = w' := by
  go_enter Tryd.func76, Tryd.ntmps76
  go_wp2_with fail
  refine (left_nil _).mono ?_
  rintro e w1 ⟨rfl, rfl⟩
  go_wp2_with fail
  refine (fail_nil _ _).mono ?_
  rintro e w1 ⟨rfl, rfl⟩
  go_wp2
  go_ret
  exact ⟨rfl, rfl⟩
set_option maxHeartbeats 400000 in
theorem byteIn_nil (w : World) : Calls Tryd.prog 72 #[.pointer none] w fun r w' => r = .returned (.int .i64 0) ∧ w = w' := by
  go_enter Tryd.func72, Tryd.ntmps72
  go_wp2_with fail
  refine (next_nil _).mono ?_
  rintro e w1 ⟨rfl, rfl⟩
  go_wp2
  go_ret
  exact ⟨rfl, rfl⟩
set_option maxHeartbeats 400000 in
set_option maxRecDepth 100000 in
theorem numIn_nil (w : World) : Calls Tryd.prog 71 #[.pointer none] w fun r w' => r = .returned (.int .u64 0) ∧ w = w' := by
  go_enter Tryd.func71, Tryd.ntmps71
  go_wp2
  go_loopw [3, 6] (fun n k wr => k = .int .i64 0 ∧ n = .int .u64 0 ∧ w = wr) (fun _ k _ => 9 - (intOf k).toNat)
  case atStart => exact ⟨rfl, rfl, rfl⟩
  case round =>
    obtain ⟨rfl, rfl, rfl⟩ := hrel
    go_wp2_with fail
    refine (next_nil _).mono ?_
    rintro e w1 ⟨rfl, rfl⟩
    go_wp2_with fail
    refine (err_nil _).mono ?_
    rintro e w1 ⟨rfl, rfl⟩
    go_wp2
    go_ret
    exact ⟨rfl, rfl⟩
end Go.Proofs.YtigjeeedobnmhaaDoor.octet

/-
  The program's own bytes of a wait (typed over the code of 5ef5b61). The tables must lie where their initialisers lay them.
-/
namespace Go.Proofs.YtigjeeedobnmhaaDoor.need
open Go.RowKit Go.ChangeShapes
open Go.Proofs.YtigjeeedobnmhaaDoor.objs (De zero CellsAt DAt chk chk_zero)
open Go.Proofs.YtigjeeedobnmhaaDoor.octet (OutAt Frm Spare NoBytes num num_keep byte_keep done_any Fits bof bof_nat num_length_le)
set_option linter.unusedVariables false

/-- While a need is put: the writer at bo holds L, the need stands at g. -/
structure Pn (w : World) (base bo g : Nat) (k a b : Int) (L : List UInt8) (W : World) : Prop where
  out : OutAt W base bo L
  box : W.heap[g]? = some (needBox k a b)
  ne : g ≠ bo
  frm : Frm base bo w W
theorem noBytes_need (k a b : Int) : NoBytes (needBox k a b) := fun cur q h => by
  unfold needBox at h
  injection h with _ h2 _
  exact absurd h2 (by decide)
theorem Pn.next {w W W' : World} {base bo g : Nat} {k a b : Int} {L L' : List UInt8} (h : Pn w base bo g k a b L W) (ho : OutAt W' base bo L') (hf : Frm base bo W W') (hs : Spare bo W W') : Pn w base bo g k a b L' W' :=
  ⟨ho, hs _ _ h.box h.ne (noBytes_need k a b), h.ne, h.frm.trans hf⟩
theorem Pn.cells {w W : World} {base bo g : Nat} {k a b : Int} {L : List UInt8} (h : Pn w base bo g k a b L W) : W.cell? ⟨g, 0, none⟩ = some (.int .i64 k) ∧ W.cell? ⟨g, 1, none⟩ = some (.int .i64 a) ∧ W.cell? ⟨g, 2, none⟩ = some (.int .i64 b) := by
  unfold World.cell?
  rw [h.box]
  exact ⟨rfl, rfl, rfl⟩
theorem pn_new {w : World} {base bo : Nat} {L : List UInt8} (k a b : Int) (ho : OutAt w base bo L) : Pn w base bo w.heap.size k a b L (w.alloc (needBox k a b)) := by
  have hb := nbox_below w k a b
  exact ⟨ho.kept hb (Nat.le_refl _), heap_alloc_new w _, Nat.ne_of_gt ho.lt, Frm.of_below (hb.mono ho.base_le)⟩

set_option maxRecDepth 100000 in
set_option maxHeartbeats 2000000 in
theorem putN_any (w : World) (base bo : Nat) (L : List UInt8) (n : De) (hs : Slim9 n) (ho : OutAt w base bo L) (hl : L.length + 21 ≤ 140737488355328) :
    Calls Tryd.prog 26 #[.pointer (some ⟨bo, 0, none⟩), .agg #[.int .i64 n.1, .int .i64 n.2.1, .int .i64 n.2.2]] w fun e w' => e = .returned (.tuple #[]) ∧ OutAt w' base bo (L ++ encN n) ∧ Frm base bo w w' := by
  obtain ⟨k, a, b⟩ := n
  obtain ⟨hk, ha, hb⟩ := hs
  dsimp only at hk ha hb ⊢
  obtain ⟨m, rfl⟩ : ∃ m : Nat, a = (m : Int) := ⟨a.toNat, by omega⟩
  obtain ⟨n, rfl⟩ : ∃ n : Nat, b = (n : Int) := ⟨b.toNat, by omega⟩
  have HP0 := Lib.hid (pn_new k (m : Int) (n : Int) ho)
  have HY := Lib.hid (byte_keep _ base bo L k HP0.out.out (by omega))
  have hB : bof k = UInt8.ofNat k.toNat := by
    have : ((k.toNat : Nat) : Int) = k := by omega
    rw [← bof_nat, this]
  have HEn : Hid (L ++ encN (k, (m : Int), (n : Int)) = ((L ++ [bof k]) ++ num m) ++ pieceN k (n : Int)) := Lib.hid (by rw [hB]; simp [encN])
  have hlen : (L ++ [bof k]).length + 20 ≤ 140737488355328 := by rw [List.length_append]; simp; omega
  rw [HEn.out]
  generalize L ++ [bof k] = L1 at *
  have hl1 := num_length_le m
  have hm1 : m ≤ 1000 := by omega
  have hn1 : n ≤ 1000 := by omega
  have hm0 : (0 : Int) ≤ (m : Int) := by omega
  have hn0 : (0 : Int) ≤ (n : Int) := by omega
  have HN1 := fun W (hW : OutAt W base bo L1) => Lib.hid (num_keep W base bo L1 m (by unfold Fits; omega) hW (by omega))
  have HN2 := fun W (hW : OutAt W base bo (L1 ++ num m)) => Lib.hid (num_keep W base bo (L1 ++ num m) n (by unfold Fits; omega) hW (by rw [List.length_append]; omega))
  have HC := fun W => Lib.hid (counts_any k W)
  unfold needBox at HP0 HY
  obtain ⟨c0, c1, c2⟩ := HP0.out.cells
  clear hB HEn ho hl hl1 hlen
  by_cases h3 : 3 < k
  · have HE : Hid (pieceN k (n : Int) = num n) := Lib.hid (by unfold pieceN; rw [if_pos h3]; rfl)
    rw [HE.out]
    rw [decide_eq_true (by omega)] at HC
    clear h3 hk HE
    go_enter Tryd.func26, Tryd.ntmps26
    go_wp2_with fail
    refine HY.out.mono ?_
    rintro e w1 ⟨rfl, x1, x2, x3⟩
    have HP1 := Lib.hid (HP0.out.next x1 x2 x3)
    clear x1 x2 x3 c0 c1 c2 HP0 HY
    obtain ⟨c0, c1, c2⟩ := HP1.out.cells
    go_wp2_with fail
    refine (HN1 _ HP1.out.out).out.mono ?_
    rintro e w2 ⟨rfl, x1, x2, x3⟩
    have HP2 := Lib.hid (HP1.out.next x1 x2 x3)
    clear x1 x2 x3 c0 c1 c2 HP1 HN1
    obtain ⟨c0, c1, c2⟩ := HP2.out.cells
    go_wp2_with fail
    refine (HC _).out.mono ?_
    rintro e w3 ⟨rfl, rfl⟩
    go_wp2_with fail
    refine (HN2 _ HP2.out.out).out.mono ?_
    rintro e w3 ⟨rfl, x1, x2, x3⟩
    have HP3 := Lib.hid (HP2.out.next x1 x2 x3)
    clear x1 x2 x3 c0 c1 c2 HP2 HN2
    go_wp2
    go_end0
    exact ⟨rfl, HP3.out.out, HP3.out.frm⟩
  · have HE : Hid (pieceN k (n : Int) = []) := Lib.hid (by unfold pieceN; rw [if_neg h3])
    rw [HE.out, List.append_nil]
    rw [decide_eq_false (by omega)] at HC
    clear h3 hk HE HN2
    go_enter Tryd.func26, Tryd.ntmps26
    go_wp2_with fail
    refine HY.out.mono ?_
    rintro e w1 ⟨rfl, x1, x2, x3⟩
    have HP1 := Lib.hid (HP0.out.next x1 x2 x3)
    clear x1 x2 x3 c0 c1 c2 HP0 HY
    obtain ⟨c0, c1, c2⟩ := HP1.out.cells
    go_wp2_with fail
    refine (HN1 _ HP1.out.out).out.mono ?_
    rintro e w2 ⟨rfl, x1, x2, x3⟩
    have HP2 := Lib.hid (HP1.out.next x1 x2 x3)
    clear x1 x2 x3 c0 c1 c2 HP1 HN1
    obtain ⟨c0, c1, c2⟩ := HP2.out.cells
    go_wp2_with fail
    refine (HC _).out.mono ?_
    rintro e w3 ⟨rfl, rfl⟩
    go_wp2
    go_end0
    exact ⟨rfl, HP2.out.out, HP2.out.frm⟩

/-- Between two that are put. -/
structure Pw (w : World) (A : Option Addr) (l : List (List De)) (bo : Nat) (L : List UInt8) (W : World) : Prop where
  out : OutAt W (bo + 1) bo L
  list : WAt w A l
  below : Below w.heap.size w W
  old : w.heap.size ≤ bo
theorem Pw.at {w W : World} {A : Option Addr} {l : List (List De)} {bo : Nat} {L : List UInt8} (h : Pw w A l bo L W) : WAt W A l := h.list.next h.below
theorem Pw.next {w W W' : World} {A : Option Addr} {l : List (List De)} {bo : Nat} {L L' : List UInt8} (h : Pw w A l bo L W) (ho : OutAt W' (bo + 1) bo L') (hf : Frm (bo + 1) bo W W') : Pw w A l bo L' W' :=
  ⟨ho, h.list, h.below.trans (hf.below h.old (Nat.le_succ_of_le h.old)), h.old⟩
theorem Pw.box {w W : World} {A : Option Addr} {l : List (List De)} {bo : Nat} {L : List UInt8} (h : Pw w A l bo L W) (o : Obj) : Pw w A l bo L (W.alloc o) := by
  have hb : Below W.heap.size W (W.alloc o) := (Below.refl _ _).alloc (Nat.le_refl _) _
  exact ⟨h.out.kept hb (Nat.le_refl _), h.list, h.below.trans (hb.mono h.below.size), h.old⟩
theorem slim9_of {d : List De} {l : List (List De)} (hd : (chk d).2 = 0) (h : chkW d l = 0) : ∀ x ∈ l, ∀ t ∈ x, Slim9 t := fun x hx t ht => by
  obtain ⟨h1, h2, _, h4, h5⟩ := need_small hd (((chkW_zero h).2.2 x hx).2.2 t ht)
  unfold Slim9
  omega

set_option maxRecDepth 100000 in
set_option maxHeartbeats 8000000 in
theorem put_good (A B : Option Addr) (capd cap : Nat) (d : List De) (l : List (List De)) (hd : (chk d).2 = 0) (hz : chkW d l = 0) (w : World) (hA : DAt w A d) (hB : WAt w B l) (hw : Oke w) :
    Calls Tryd.prog 12 #[.slice A d.length capd, .slice B l.length cap] w fun e w' => e = .returned (.tuple #[.string ⟨(encW l).toArray⟩, .int .i64 0]) ∧ Below w.heap.size w w' := by
  obtain ⟨_, h4, hall⟩ := chkW_zero hz
  have HC := Lib.hid (check_any A B capd cap d l (by have := (chk_zero hd).1; omega) w hA hB hw)
  rw [hz] at HC
  unfold ChkPost9 at HC
  have HL := Lib.hid (slim9_of hd hz)
  have HL4 := Lib.hid (fun x hx => (hall x hx).2.1)
  have HW : Hid (encW l = num l.length ++ encWs l l.length) := Lib.hid rfl
  rw [HW.out]
  have HB := Lib.hid hB
  clear hA hB hz hall HW hw hd
  go_enter Tryd.func12, Tryd.ntmps12
  go_wp2_with fail
  refine HC.out.mono ?_
  rintro e w1 ⟨rfl, hb1⟩
  go_upto_region 5 with fail
  have hbo := Go.Proofs.YtigjeeedobnmhaaDoor.octet.out_new w1
  have hb2 : Below w1.heap.size w1 (w1.alloc (.cells #[.slice none 0 0] 56)) := (Below.refl _ w1).alloc (Nat.le_refl _) _
  have HP0 : Hid (Pw w B l w1.heap.size [] (w1.alloc (.cells #[.slice none 0 0] 56))) := Lib.hid ⟨hbo, HB.out, hb1.trans (hb2.mono hb1.size), hb1.size⟩
  clear hbo hb1 hb2 HC
  generalize w1.alloc (.cells #[.slice none 0 0] 56) = W2 at *
  generalize w1.heap.size = bo at *
  have HN := Lib.hid (num_keep W2 (bo + 1) bo [] l.length (by unfold Fits; omega) HP0.out.out (by simp))
  go_wp2_with fail
  refine HN.out.mono ?_
  rintro e w3 ⟨rfl, x1, x2, x3⟩
  have HP1 := Lib.hid (HP0.out.next x1 x2)
  rw [List.nil_append] at HP1
  clear x1 x2 x3 HN HP0
  go_wp2_with fail
  go_loopw [27] (fun i wr => ∃ j : Nat, j ≤ l.length ∧ i = .int .i64 (j : Int) ∧ Hid (Pw w B l bo (num l.length ++ encWs l j) wr)) (fun i _ => l.length - (intOf i).toNat)
  case atStart => exact ⟨0, Nat.zero_le _, rfl, by simpa [encWs] using HP1⟩
  case round =>
    obtain ⟨j, hj, rfl, HS⟩ := hrel
    by_cases hlt : j < l.length
    · obtain ⟨b0, off, Aj, cj, rfl, hb, hc0, hdj⟩ := HB.out j hlt
      have hc := (HS.out.below.cell (p := ⟨b0, off + j, none⟩) hb).trans hc0
      have hlt' : (j : Int) < (l.length : Int) := by omega
      have hj0 : (0 : Int) ≤ (j : Int) := by omega
      have HSl := Lib.hid (HL.out _ (getW_mem hlt))
      have hx4 := HL4.out _ (getW_mem hlt)
      have HE : Hid (num l.length ++ encWs l (j + 1) = (num l.length ++ encWs l j) ++ (num (l.getD j []).length ++ encNs (l.getD j []) (l.getD j []).length)) := Lib.hid (by simp only [encWs, encWay, List.append_assoc])
      have hlen : (num l.length ++ encWs l j).length ≤ 1000 := by
        have h1 := num_length_le l.length
        have h2 := encWs_le (w := l) (fun x hx => by have := HL4.out x hx; omega) j hj
        rw [List.length_append]
        omega
      generalize num l.length ++ encWs l j = pre at *
      generalize l.getD j [] = x at *
      have HN1 := Lib.hid (num_keep wr (bo + 1) bo pre x.length (by unfold Fits; omega) HS.out.out (by omega))
      have HDw := Lib.hid hdj
      have HLn := Lib.hid hlen
      clear hdj hc0 hb hlen
      go_wp2_with fail
      refine HN1.out.mono ?_
      rintro e w4 ⟨rfl, y1, y2, y3⟩
      have HS1 := Lib.hid (HS.out.next y1 y2)
      clear y1 y2 y3 HN1 hc HS
      go_wp2_with fail
      go_loopw [38] (fun i wr => ∃ k : Nat, k ≤ x.length ∧ i = .int .i64 (k : Int) ∧ Hid (Pw w (some ⟨b0, off, none⟩) l bo ((pre ++ num x.length) ++ encNs x k) wr)) (fun i _ => x.length - (intOf i).toNat)
      case atStart => exact ⟨0, Nat.zero_le _, rfl, by simpa [encNs] using HS1⟩
      case round =>
        obtain ⟨k, hk, rfl, HK⟩ := hrel
        by_cases hlk : k < x.length
        · obtain ⟨b1, off1, rfl, hb1, c0, c1, c2⟩ := HDw.out.next HK.out.below k hlk
          have hlk' : (k : Int) < (x.length : Int) := by omega
          have hk0 : (0 : Int) ≤ (k : Int) := by omega
          have HSn := Lib.hid (HSl.out _ (getD_mem hlk))
          have HE2 : Hid ((pre ++ num x.length) ++ encNs x (k + 1) = ((pre ++ num x.length) ++ encNs x k) ++ encN (x.getD k zero)) := Lib.hid (by simp only [encNs, List.append_assoc])
          have hlen2 : ((pre ++ num x.length) ++ encNs x k).length + 21 ≤ 140737488355328 := by
            have h1 := num_length_le x.length
            have h2 := encNs_le x k
            have h3 := HLn.out
            rw [List.length_append, List.length_append]
            omega
          generalize (pre ++ num x.length) ++ encNs x k = pre2 at *
          generalize x.getD k zero = n at *
          have HP := fun W (hW : Pw w (some ⟨b0, off, none⟩) l bo pre2 W) => Lib.hid (putN_any W (bo + 1) bo pre2 n HSn.out hW.out hlen2)
          have HK1 := Lib.hid (HK.out.box (needBox n.1 n.2.1 n.2.2))
          have hbx := nbox_at wr n.1 n.2.1 n.2.2
          clear HK hlen2 HSn
          generalize encN n = en at *
          obtain ⟨k0, o0, m0⟩ := n
          unfold needBox at HK1 hbx
          dsimp only at HP c0 c1 c2 HK1 hbx
          go_upto_region 13 with fail
          clear c0 c1 c2
          generalize wr.alloc (.cells #[.int .i64 k0, .int .i64 o0, .int .i64 m0] 50) = W4 at *
          generalize wr.heap.size = g at *
          obtain ⟨c0, c1, c2⟩ := hbx
          go_wp2_with fail
          refine (HP _ HK1.out).out.mono ?_
          rintro e w5 ⟨rfl, x1, x2⟩
          have HK2 := Lib.hid (HK1.out.next x1 x2)
          clear x1 x2 c0 c1 c2 HP HK1
          go_wp2
          go_roundw
          case rel => exact ⟨k + 1, by omega, by go_num, by rw [HE2.out]; exact HK2⟩
          case measure => simp [intOf]; omega
        · obtain rfl : k = x.length := by omega
          go_wp2_with fail
          go_roundw
          case rel => exact ⟨j + 1, by omega, by go_num, by rw [HE.out, ← List.append_assoc]; exact HK⟩
          case measure => simp [intOf]; omega
    · obtain rfl : j = l.length := by omega
      have HD := Lib.hid (done_any wr (bo + 1) bo _ HS.out.out)
      have HBz := Lib.hid HS.out.below
      go_wp2_with fail
      refine HD.out.mono ?_
      rintro e w8 ⟨rfl, rfl⟩
      go_wp2
      go_ret2
      exact ⟨rfl, HBz.out⟩

set_option maxHeartbeats 1000000 in
theorem put_bad (A B : Option Addr) (capd cap : Nat) (d : List De) (l : List (List De)) (hd : d.length ≤ 64) (hz : chkW d l ≠ 0) (w : World) (hA : DAt w A d) (hB : WAt w B l) (hw : Oke w) :
    Calls Tryd.prog 12 #[.slice A d.length capd, .slice B l.length cap] w fun e w' => e = .returned (.tuple #[.string ⟨#[]⟩, .int .i64 ((chkW d l : Nat) : Int)]) ∧ Below w.heap.size w w' := by
  have HC := Lib.hid (check_any A B capd cap d l hd w hA hB hw)
  unfold ChkPost9 at HC
  have hn : (((chkW d l : Nat) : Int) != 0) = true := by simpa using hz
  clear hz hA hB hw
  generalize chkW d l = q at *
  go_enter Tryd.func12, Tryd.ntmps12
  go_wp2_with fail
  refine HC.out.mono ?_
  rintro e w1 ⟨rfl, hb⟩
  have HB := Lib.hid hb
  clear hb
  go_wp2_with fail
  go_ret2
  exact ⟨rfl, HB.out⟩
end Go.Proofs.YtigjeeedobnmhaaDoor.need

/-
  The program's calls on a set that look for its numbers: the least, the next above one, the one with so many below it; each reads the table of math/bits, which must lie where its initialiser lays it. And how many there are, and all moved.
-/
namespace Go.Proofs.YtigjeeedobnmhaaDoor.bits
open Go.RowKit Go.ChangeShapes

/-- The table of math/bits lies where its initialiser lays it. -/
def Tab (w : World) : Prop := ∀ j, j < 64 → w.cell? ⟨5, j, none⟩ = some (.int .u8 ((Lib.deBruijn64tab.getD j 0 : Nat) : Int))
theorem Tab.below {B : Nat} {w w' : World} (h : Tab w) (hb : Below B w w') (hB : 5 < B) : Tab w' := fun j hj => (hb.cell (p := ⟨5, j, none⟩) hB).trans (h j hj)
theorem Tab.cell {w w' : World} (h : Tab w) (hc : ∀ p, w'.cell? p = w.cell? p) : Tab w' := fun j hj => (hc _).trans (h j hj)

theorem tz_key (x a : Nat) (hx : x < 18446744073709551616) (hx0 : x ≠ 0) (hlow : x &&& (18446744073709551616 - x) = a) :
    IntKind.u64.wrap (bits BinOp.and IntKind.u64 (x : Int) (IntKind.u64.wrap (-(x : Int))) * 285870213051353865) / 288230376151711744 = ((a * 285870213051353865 % 18446744073709551616 / 288230376151711744 : Nat) : Int) := by
  have e1 : IntKind.u64.wrap (-(x : Int)) = ((18446744073709551616 - x : Nat) : Int) := by rw [IntKind.wrap_u64]; omega
  rw [e1, bits_and_u64_nat x _ hx (by omega), hlow, IntKind.wrap_u64]
  omega

set_option maxHeartbeats 1000000 in
theorem tz_core (x k idx : Nat) (w : World) (hx0 : ((x : Int) == 0) = false)
    (key : IntKind.u64.wrap (bits BinOp.and IntKind.u64 (x : Int) (IntKind.u64.wrap (-(x : Int))) * 285870213051353865) / 288230376151711744 = (idx : Int))
    (hi : idx < 64) (hk : k < 64) (hcell : w.cell? ⟨5, idx, none⟩ = some (.int .u8 (k : Int))) :
    Calls Tryd.prog 88 #[.int .u64 (x : Int)] w fun e w' => e = .returned (.int .i64 (k : Int)) ∧ w = w' := by
  go_enter Tryd.func88, Tryd.ntmps88
  go_wp2_with (simp only [key])
  go_ret
  exact ⟨rfl, rfl⟩

/-- The least of a set that has some. -/
theorem tz_any (s : Nat) (hs : Is64 s) (h0 : s ≠ 0) (w : World) (hT : Tab w) :
    Calls Tryd.prog 88 #[.int .u64 (s : Int)] w fun e w' => e = .returned (.int .i64 (atI (els s) 0)) ∧ w = w' := by
  rw [← first_eq hs h0]
  obtain ⟨hlow, hk⟩ := Lib.lowest_bit 64 s h0 hs
  obtain ⟨hi, htab⟩ := Lib.deBruijn64_at _ hk
  have hcell := hT _ hi
  rw [htab] at hcell
  exact tz_core s _ _ w (by simp; omega) (tz_key s _ hs h0 hlow) hi hk hcell

end Go.Proofs.YtigjeeedobnmhaaDoor.bits

/-
  How many numbers a set has, as math/bits counts them. The first part speaks of numbers alone; then the program's call. No condition.
-/
namespace Go.Proofs.YtigjeeedobnmhaaDoor.bits
open Go.RowKit Go.ChangeShapes

theorem two_sum {a b : Nat} (h : a + b < 18446744073709551616) : IntKind.u64.wrap ((a : Int) + (b : Int)) = ((a + b : Nat) : Int) := by
  rw [IntKind.wrap_u64]
  omega
theorem cast_div (a b : Nat) : ((a : Int) / (b : Int)) = ((a / b : Nat) : Int) := rfl
theorem mk85 : mk 85 8 = 6148914691236517205 := by decide +kernel
theorem mk51 : mk 51 8 = 3689348814741910323 := by decide +kernel
theorem mk15 : mk 15 8 = 1085102592571150095 := by decide +kernel

theorem and_cast {a : Nat} (ha : Is64 a) (m : Nat) (hm : Is64 m) (v : Int) (hv : v = (m : Int)) : bits .and .u64 (a : Int) v = ((a &&& m : Nat) : Int) := by
  rw [hv]
  exact and_u64 ha hm
theorem ones1 {s : Nat} (hs : Is64 s) : IntKind.u64.wrap (bits .and .u64 ((s : Int) / 2) 6148914691236517205 + bits .and .u64 (s : Int) 6148914691236517205) = ((bm f1 8 s : Nat) : Int) ∧ bm f1 8 s ≤ 12297829382473034410 := by
  have h := step1 8 s
  rw [mk85] at h
  have b1 : s / 2 &&& 6148914691236517205 ≤ 6148914691236517205 := Nat.and_le_right
  have b2 : s &&& 6148914691236517205 ≤ 6148914691236517205 := Nat.and_le_right
  have e0 : ((s : Int) / 2) = ((s / 2 : Nat) : Int) := rfl
  have e1 := and_cast (a := s / 2) (by unfold Is64 at *; omega) 6148914691236517205 (by unfold Is64; omega) 6148914691236517205 rfl
  have e2 := and_cast (a := s) (by unfold Is64 at *; omega) 6148914691236517205 (by unfold Is64; omega) 6148914691236517205 rfl
  generalize (s / 2 &&& 6148914691236517205) = p at *
  generalize (s &&& 6148914691236517205) = q at *
  rw [e0, e1, e2, two_sum (by omega), h]
  exact ⟨rfl, by rw [← h]; omega⟩
theorem ones2 {s : Nat} (hs : s ≤ 12297829382473034410) : IntKind.u64.wrap (bits .and .u64 ((s : Int) / 4) 3689348814741910323 + bits .and .u64 (s : Int) 3689348814741910323) = ((bm f2 8 s : Nat) : Int) ∧ bm f2 8 s ≤ 7378697629483820646 := by
  have h := step2 8 s
  rw [mk51] at h
  have b1 : s / 4 &&& 3689348814741910323 ≤ 3689348814741910323 := Nat.and_le_right
  have b2 : s &&& 3689348814741910323 ≤ 3689348814741910323 := Nat.and_le_right
  have e0 : ((s : Int) / 4) = ((s / 4 : Nat) : Int) := rfl
  have e1 := and_cast (a := s / 4) (by unfold Is64 at *; omega) 3689348814741910323 (by unfold Is64; omega) 3689348814741910323 rfl
  have e2 := and_cast (a := s) (by unfold Is64 at *; omega) 3689348814741910323 (by unfold Is64; omega) 3689348814741910323 rfl
  generalize (s / 4 &&& 3689348814741910323) = p at *
  generalize (s &&& 3689348814741910323) = q at *
  rw [e0, e1, e2, two_sum (by omega), h]
  exact ⟨rfl, by rw [← h]; omega⟩
theorem ones3 (s : Nat) (hs : bm f2 8 (bm f1 8 s) ≤ 7378697629483820646) : bits .and .u64 (IntKind.u64.wrap (((bm f2 8 (bm f1 8 s) : Nat) : Int) / 16 + ((bm f2 8 (bm f1 8 s) : Nat) : Int))) 1085102592571150095 = ((bm (pc 8) 8 s : Nat) : Int) := by
  have h : (bm f2 8 (bm f1 8 s) / 16 + bm f2 8 (bm f1 8 s)) &&& mk 15 8 = bm (pc 8) 8 s := by
    rw [bm_bm f1_lt]
    have h3 := step3 (g := fun b => f2 (f1 b)) (fun b hb => f2f1 b hb) 8 s
    rw [h3]
    exact bm_congr (fun b hb => f321 b hb) 8 s
  rw [mk15] at h
  generalize bm f2 8 (bm f1 8 s) = x at *
  generalize bm (pc 8) 8 s = y at *
  have e0 : ((x : Int) / 16) = ((x / 16 : Nat) : Int) := rfl
  have hx : Is64 (x / 16 + x) := by clear h; unfold Is64; omega
  have e1 := and_cast hx 1085102592571150095 (by clear h; unfold Is64; omega) 1085102592571150095 rfl
  rw [h] at e1
  clear h
  rw [e0, two_sum (by omega), e1]
theorem div_256 {v L C : Nat} (h : v = L + 256 * C) (hl : L < 256) : v / 256 = C := by omega
theorem div_16 {v L C : Nat} (h : v = L + 65536 * C) (hl : L < 65536) : v / 65536 = C := by omega
theorem div_32 {v L C : Nat} (h : v = L + 4294967296 * C) (hl : L < 4294967296) : v / 4294967296 = C := by omega
theorem low_7 {z L K : Nat} (h : z = L + 256 * K) (hl : L < 128) : z % 128 = L := by omega
theorem wrap_div {v d q : Nat} (h : v / d = q) (hb : v + q < 18446744073709551616) : IntKind.u64.wrap ((v : Int) + (v : Int) / (d : Int)) = ((v + q : Nat) : Int) := by
  rw [cast_div, h, two_sum hb]
theorem sum_x {x v B C D a b c : Nat} (hx : x = v + B) (hy : v = a + 256 * B) (hB : B = b + 256 * C) (hC : C = c + 256 * D) : x = (a + b + 256 * (b + c)) + 65536 * (C + D) := by omega
theorem sum_y {x y C D E F G a b c d e f g h : Nat} (hy2 : y = x + (C + D)) (x1 : x = (a + b + 256 * (b + c)) + 65536 * (C + D)) (hC : C = c + 256 * D) (hD : D = d + 256 * E) (hE : E = e + 256 * F) (hF : F = f + 256 * G) (hG : G = g + 256 * h) :
    y = (a + b + c + d + 256 * (b + c + d + e) + 65536 * (c + d + e + f + 256 * (d + e + f + g))) + 4294967296 * (E + F + G + h) := by omega
theorem sum_z {y z E F G a b c d e f g h : Nat} (hz : z = y + (E + F + G + h)) (y1 : y = (a + b + c + d + 256 * (b + c + d + e) + 65536 * (c + d + e + f + 256 * (d + e + f + g))) + 4294967296 * (E + F + G + h)) (hE : E = e + 256 * F) (hF : F = f + 256 * G) (hG : G = g + 256 * h) :
    z = (a + b + c + d + e + f + g + h) + 256 * ((b + c + d + e) + 256 * (c + d + e + f + 256 * (d + e + f + g)) + 16777216 * (E + F + G + h) + (F + G + h)) := by omega
theorem ones4 (s : Nat) : ∃ x y z : Nat, IntKind.u64.wrap (((bm (pc 8) 8 s : Nat) : Int) + ((bm (pc 8) 8 s : Nat) : Int) / 256) = (x : Int) ∧ IntKind.u64.wrap ((x : Int) + (x : Int) / 65536) = (y : Int) ∧ IntKind.u64.wrap ((y : Int) + (y : Int) / 4294967296) = (z : Int) ∧
    z < 9223372036854775808 ∧ z % 128 = (els s).length := by
  obtain ⟨a, b, c, d, e, f, g, h, ⟨ha, hb, hc, hd, he, hf, hg, hh⟩, hy, hp⟩ := sum8 s
  rw [pc_els, hp]
  clear hp
  generalize bm (pc 8) 8 s = v at *
  obtain ⟨G, hG⟩ : ∃ G, G = g + 256 * h := ⟨_, rfl⟩
  obtain ⟨F, hF⟩ : ∃ F, F = f + 256 * G := ⟨_, rfl⟩
  obtain ⟨E, hE⟩ : ∃ E, E = e + 256 * F := ⟨_, rfl⟩
  obtain ⟨D, hD⟩ : ∃ D, D = d + 256 * E := ⟨_, rfl⟩
  obtain ⟨C, hC⟩ : ∃ C, C = c + 256 * D := ⟨_, rfl⟩
  obtain ⟨B, hB⟩ : ∃ B, B = b + 256 * C := ⟨_, rfl⟩
  rw [← hG, ← hF, ← hE, ← hD, ← hC, ← hB] at hy
  have bG : G ≤ 2056 := by omega
  have bF : F ≤ 526344 := by omega
  have bE : E ≤ 134744072 := by omega
  have bD : D ≤ 34494482440 := by omega
  have bC : C ≤ 8830587504648 := by omega
  have bB : B ≤ 2260630401189896 := by omega
  have d1 : v / 256 = B := div_256 hy (by omega)
  obtain ⟨x, hx⟩ : ∃ x, x = v + B := ⟨_, rfl⟩
  have x1 := sum_x hx hy hB hC
  have bx : x ≤ 600000000000000000 := by clear x1 hB hC hD hE hF hG d1; omega
  have d2 : x / 65536 = C + D := div_16 x1 (by clear x1 hB hC hD hE hF hG d1 hx hy; omega)
  obtain ⟨y, hy2⟩ : ∃ y, y = x + (C + D) := ⟨_, rfl⟩
  have y1 := sum_y hy2 x1 hC hD hE hF hG
  have by2 : y ≤ 600010000000000000 := by clear x1 y1 hB hC hD hE hF hG d1 d2 hx hy; omega
  have d3 : y / 4294967296 = E + F + G + h := div_32 y1 (by clear x1 y1 hB hC hD hE hF hG d1 d2 hx hy hy2; omega)
  obtain ⟨z, hz⟩ : ∃ z, z = y + (E + F + G + h) := ⟨_, rfl⟩
  have z1 := sum_z hz y1 hE hF hG
  clear x1 y1 hB hC hD hE hF hG
  refine ⟨x, y, z, ?_, ?_, ?_, ?_, low_7 z1 ?_⟩
  · rw [hx]
    exact wrap_div d1 (by clear d1 d2 d3 z1 hz hy2; omega)
  · rw [hy2]
    exact wrap_div d2 (by clear d1 d2 d3 z1 hz hx hy; omega)
  · rw [hz]
    exact wrap_div d3 (by clear d1 d2 d3 z1 hx hy hy2; omega)
  · clear d1 d2 d3 z1 hx hy hy2
    omega
  · clear d1 d2 d3 z1 hx hy hy2 hz
    omega

end Go.Proofs.YtigjeeedobnmhaaDoor.bits

/-
  How many numbers a set has, as math/bits counts them. The program's call. No condition.
-/
namespace Go.Proofs.YtigjeeedobnmhaaDoor.bits
open Go.RowKit Go.ChangeShapes

theorem i64_mask (n : Int) (k : Nat) (hk : k < 62) (m : Int) (hm : m = ((2 ^ k - 1 : Nat) : Int)) : bits .and .i64 n m = n % ((2 ^ k : Nat) : Int) := by
  have hp : 2 ^ k ≤ 2 ^ 61 := Nat.pow_le_pow_right (by omega) (by omega)
  have h0 : 0 < 2 ^ k := Nat.two_pow_pos k
  have p61 : (2 : Nat) ^ 61 = 2305843009213693952 := rfl
  have hd : (2 ^ k : Nat) ∣ 2 ^ 64 := Nat.pow_dvd_pow 2 (by omega)
  rw [hm]
  show IntKind.i64.wrap ((BitVec.ofInt 64 n &&& BitVec.ofInt 64 ((2 ^ k - 1 : Nat) : Int)).toNat : Int) = _
  have e2 : (BitVec.ofInt 64 ((2 ^ k - 1 : Nat) : Int)).toNat = 2 ^ k - 1 := by
    rw [BitVec.ofInt_natCast, BitVec.toNat_ofNat]
    exact Nat.mod_eq_of_lt (by omega)
  have hl : (n % 18446744073709551616).toNat % 2 ^ k < 2 ^ k := Nat.mod_lt _ h0
  rw [BitVec.toNat_and, e2, BitVec.toNat_ofInt, Nat.and_two_pow_sub_one_eq_mod]
  have e3 : (((n % ((2 ^ 64 : Nat) : Int)).toNat % 2 ^ k : Nat) : Int) = n % ((2 ^ k : Nat) : Int) := by
    rw [Int.natCast_emod, Int.toNat_of_nonneg (Int.emod_nonneg _ (by decide)), Int.emod_emod_of_dvd n (Int.natCast_dvd_natCast.2 hd)]
  rw [e3, IntKind.wrap_i64]
  have h1 : 0 ≤ n % ((2 ^ k : Nat) : Int) := Int.emod_nonneg _ (by omega)
  have h2 : n % ((2 ^ k : Nat) : Int) < ((2 ^ k : Nat) : Int) := Int.emod_lt_of_pos _ (by omega)
  omega
theorem i64_low7 (n : Int) : bits .and .i64 n 127 = n % 128 := i64_mask n 7 (by omega) 127 rfl
theorem i64_low6 (n : Int) : bits .and .i64 n 63 = n % 64 := i64_mask n 6 (by omega) 63 rfl

end Go.Proofs.YtigjeeedobnmhaaDoor.bits

/-
  The document's own answers that only compute: whether a number is in a set, its weight, a set with it and without it. No condition.
-/
namespace Go.Proofs.YtigjeeedobnmhaaDoor.bits
open Go.RowKit Go.ChangeShapes

theorem half_pow (s j : Nat) : s / 2 ^ j / 2 = s / 2 ^ (j + 1) := by rw [Nat.div_div_eq_div_mul, Nat.pow_succ]
theorem half_val {x : Nat} (hx : Is64 x) : Value.int .u64 (IntKind.u64.wrap ((x : Int) / 2)) = .int .u64 ((x / 2 : Nat) : Int) := by
  unfold Is64 at hx
  rw [IntKind.wrap_u64]
  congr 1
  omega
theorem odd_eq (x : Nat) : (((x : Int) % 2) == 1) = decide (x % 2 = 1) := by
  rw [Bool.eq_iff_iff]
  simp
  omega

set_option maxHeartbeats 1000000 in
theorem refHas_any (s : Nat) (hs : Is64 s) (n : Int) (w : World) :
    Calls Tryd.prog 57 #[.int .u64 (s : Int), .int .i64 n] w fun e w' => e = .returned (.bool (hasB s n)) ∧ w = w' := by
  by_cases h0 : n < 0
  · have hb : hasB s n = false := by unfold hasB; rw [decide_eq_false (by unfold may; omega)]; rfl
    rw [hb]
    clear hb
    go_enter Tryd.func57, Tryd.ntmps57
    go_wp2
    go_ret
    exact ⟨rfl, rfl⟩
  · by_cases h1 : 63 < n
    · have hb : hasB s n = false := by unfold hasB; rw [decide_eq_false (by unfold may; omega)]; rfl
      rw [hb]
      clear hb
      go_enter Tryd.func57, Tryd.ntmps57
      go_wp2
      go_ret
      exact ⟨rfl, rfl⟩
    · obtain ⟨k, rfl⟩ : ∃ k : Nat, n = (k : Int) := ⟨n.toNat, by omega⟩
      have hk : k < 64 := by omega
      have hb : hasB s (k : Int) = decide (s / 2 ^ k % 2 = 1) := by
        unfold hasB
        rw [decide_eq_true (by unfold may; omega), Bool.true_and, testBit_div]
        rfl
      rw [hb]
      clear hb h0 h1
      have hd : decide ((63 : Int) < (k : Int)) = false := by simp; omega
      go_enter Tryd.func57, Tryd.ntmps57
      go_wp2
      go_loop [0, 5] (fun t i => ∃ j x : Nat, j ≤ k ∧ i = .int .i64 (j : Int) ∧ t = .int .u64 (x : Int) ∧ Is64 x ∧ Hid (x = s / 2 ^ j)) (fun _ i => k - (intOf i).toNat)
      case atStart => exact ⟨0, s, Nat.zero_le _, rfl, rfl, hs, Lib.hid (by simp)⟩
      case round =>
        obtain ⟨j, x, hj, rfl, rfl, hx, HE⟩ := hrel
        by_cases hlt : j < k
        · go_wp2
          go_round
          case rel => exact ⟨j + 1, x / 2, by omega, by go_num, half_val hx, by unfold Is64 at *; omega, Lib.hid (by rw [HE.out, half_pow])⟩
          case measure => simp [intOf]; omega
        · obtain rfl : j = k := by omega
          go_wp2
          go_ret
          exact ⟨ret_bool (by rw [← HE.out]; exact odd_eq x), rfl⟩

set_option maxHeartbeats 1000000 in
theorem power_any (k : Nat) (hk : k < 64) (w : World) :
    Calls Tryd.prog 58 #[.int .i64 (k : Int)] w fun e w' => e = .returned (.int .u64 ((2 ^ k : Nat) : Int)) ∧ w = w' := by
  go_enter Tryd.func58, Tryd.ntmps58
  go_wp2
  go_loop [3, 4] (fun t i => ∃ j x : Nat, j ≤ k ∧ i = .int .i64 (j : Int) ∧ t = .int .u64 (x : Int) ∧ Hid (x = 2 ^ j)) (fun _ i => k - (intOf i).toNat)
  case atStart => exact ⟨0, 1, Nat.zero_le _, rfl, rfl, Lib.hid rfl⟩
  case round =>
    obtain ⟨j, x, hj, rfl, rfl, HE⟩ := hrel
    by_cases hlt : j < k
    · have hb : x < 9223372036854775808 := by
        have h1 := HE.out
        have h2 : 2 ^ j < 2 ^ 63 := Nat.pow_lt_pow_right (by omega) (by omega)
        have h3 : (2 : Nat) ^ 63 = 9223372036854775808 := rfl
        omega
      go_wp2
      go_round
      case rel => exact ⟨j + 1, x * 2, by omega, by go_num, by go_num, Lib.hid (by rw [HE.out, Nat.pow_succ])⟩
      case measure => simp [intOf]; omega
    · obtain rfl : j = k := by omega
      go_wp2
      go_ret
      exact ⟨ret_int (congrArg (fun y : Nat => (y : Int)) HE.out), rfl⟩

theorem wth_yes {s : Nat} {n : Int} (h : hasB s n = true) : wth s n = s := by
  unfold hasB at h
  rw [Bool.and_eq_true, decide_eq_true_iff] at h
  unfold wth ins
  rw [if_pos h.1, if_pos h.2]
theorem wth_no {s : Nat} {n : Int} (hm : may n) (h : hasB s n = false) : wth s n = s + 2 ^ n.toNat := by
  unfold hasB at h
  rw [decide_eq_true hm, Bool.true_and] at h
  unfold wth ins
  rw [if_pos hm, if_neg (by rw [h]; exact Bool.false_ne_true)]
theorem wout_no {s : Nat} {n : Int} (h : hasB s n = false) : wout s n = s := by
  unfold hasB at h
  unfold wout del
  split
  · rename_i hm
    rw [decide_eq_true hm, Bool.true_and] at h
    rw [if_neg (by rw [h]; exact Bool.false_ne_true)]
  · rfl
theorem wout_yes {s : Nat} {n : Int} (h : hasB s n = true) : wout s n = s - 2 ^ n.toNat ∧ may n ∧ 2 ^ n.toNat ≤ s := by
  unfold hasB at h
  rw [Bool.and_eq_true, decide_eq_true_iff] at h
  obtain ⟨t, h1, _, _⟩ := del_spec h.2
  refine ⟨?_, h.1, by omega⟩
  unfold wout del
  rw [if_pos h.1, if_pos h.2]

set_option maxHeartbeats 1000000 in
theorem refWith_any (s : Nat) (hs : Is64 s) (n : Int) (w : World) :
    Calls Tryd.prog 40 #[.int .u64 (s : Int), .int .i64 n] w fun e w' => e = .returned (.int .u64 ((wth s n : Nat) : Int)) ∧ w = w' := by
  by_cases h0 : n < 0
  · have hb : wth s n = s := by unfold wth; rw [if_neg (by unfold may; omega)]
    rw [hb]
    clear hb
    go_enter Tryd.func40, Tryd.ntmps40
    go_wp2
    go_ret
    exact ⟨rfl, rfl⟩
  · by_cases h1 : 63 < n
    · have hb : wth s n = s := by unfold wth; rw [if_neg (by unfold may; omega)]
      rw [hb]
      clear hb
      go_enter Tryd.func40, Tryd.ntmps40
      go_wp2
      go_ret
      exact ⟨rfl, rfl⟩
    · have hm : may n := by unfold may; omega
      obtain ⟨k, rfl⟩ : ∃ k : Nat, n = (k : Int) := ⟨n.toNat, by omega⟩
      have hk : k < 64 := by omega
      have hd : decide ((63 : Int) < (k : Int)) = false := by simp; omega
      have HH := Lib.hid (refHas_any s hs (k : Int) w)
      by_cases hb : hasB s (k : Int) = true
      · rw [wth_yes hb]
        rw [hb] at HH
        clear hb h0 h1 hm
        go_enter Tryd.func40, Tryd.ntmps40
        go_wp2_with fail
        refine HH.out.mono ?_
        rintro e w1 ⟨rfl, rfl⟩
        go_wp2
        go_ret
        exact ⟨rfl, rfl⟩
      · have hb' : hasB s (k : Int) = false := by simpa using hb
        have hl := wth_lt hs (k : Int)
        have HW : Hid (wth s (k : Int) = s + 2 ^ k) := Lib.hid (wth_no hm hb')
        have HS : Hid (IntKind.u64.wrap ((s : Int) + ((2 ^ k : Nat) : Int)) = ((wth s (k : Int) : Nat) : Int)) := Lib.hid (by
          have h := HW.out
          rw [h] at hl ⊢
          exact two_sum hl)
        rw [hb'] at HH
        clear hb hb' h0 h1 hm hl
        go_enter Tryd.func40, Tryd.ntmps40
        go_wp2_with fail
        refine HH.out.mono ?_
        rintro e w1 ⟨rfl, rfl⟩
        go_wp2_with fail
        refine (power_any k hk _).mono ?_
        rintro e w1 ⟨rfl, rfl⟩
        go_wp2
        go_ret
        exact ⟨ret_int HS.out, rfl⟩

end Go.Proofs.YtigjeeedobnmhaaDoor.bits

/-
  The document's own answer of the objects of needs of a kind. No condition but that lengths are ints.
-/
namespace Go.Proofs.YtigjeeedobnmhaaDoor.need
open Go.RowKit Go.ChangeShapes
open Go.Proofs.YtigjeeedobnmhaaDoor.objs (De zero CellsAt DAt)
open Go.Proofs.YtigjeeedobnmhaaDoor.bits (wth Is64 refWith_any)
set_option linter.unusedVariables false

/-- The objects of the first j needs that are of a kind, with those of a set. -/
def objsIn (l : List De) (k : Int) (s : Nat) : Nat → Nat
  | 0 => s
  | j + 1 => if (l.getD j zero).1 = k then wth (objsIn l k s j) (l.getD j zero).2.1 else objsIn l k s j
def objsW (w : List (List De)) (k : Int) : Nat → Nat
  | 0 => 0
  | j + 1 => objsIn (w.getD j []) k (objsW w k j) (w.getD j []).length
def objects (w : List (List De)) (k : Int) : Nat := objsW w k w.length
theorem wth_64 {s : Nat} {n : Int} (h : Is64 s) : Is64 (wth s n) := by
  unfold wth
  split
  · rename_i h1
    exact Go.Proofs.YtigjeeedobnmhaaDoor.bits.ins_lt h (by unfold Go.Proofs.YtigjeeedobnmhaaDoor.bits.may at h1; omega)
  · exact h
theorem objsIn_64 {l : List De} {k : Int} {s : Nat} (h : Is64 s) : ∀ j, Is64 (objsIn l k s j) := by
  intro j
  induction j with
  | zero => exact h
  | succ j ih =>
    unfold objsIn
    split
    · exact wth_64 ih
    · exact ih
theorem objsW_64 {w : List (List De)} {k : Int} : ∀ j, Is64 (objsW w k j) := by
  intro j
  induction j with
  | zero => unfold objsW Is64; omega
  | succ j ih => exact objsIn_64 ih _

set_option maxRecDepth 100000 in
set_option maxHeartbeats 4000000 in
theorem refObjects9_any (A : Option Addr) (cap : Nat) (l : List (List De)) (k : Int) (hl : l.length ≤ 6) (hll : ∀ x ∈ l, x.length ≤ 6) (w : World) (hA : WAt w A l) :
    Calls Tryd.prog 22 #[.slice A l.length cap, .int .i64 k] w fun e w' => e = .returned (.int .u64 ((objects l k : Nat) : Int)) ∧ w = w' := by
  have HA := Lib.hid hA
  have HL := Lib.hid hll
  clear hA hll
  go_enter Tryd.func22, Tryd.ntmps22
  go_wp2_with fail
  go_loop [5, 6] (fun t i => ∃ j s : Nat, j ≤ l.length ∧ i = .int .i64 (j : Int) ∧ t = .int .u64 (s : Int) ∧ Is64 s ∧ Hid (s = objsW l k j)) (fun _ i => l.length - (intOf i).toNat)
  case atStart => exact ⟨0, 0, Nat.zero_le _, rfl, rfl, by unfold Is64; omega, Lib.hid rfl⟩
  case round =>
    obtain ⟨j, s, hj, rfl, rfl, hs, HE⟩ := hrel
    by_cases hlt : j < l.length
    · obtain ⟨b, off, Aj, cj, rfl, hbl, hc, hdj⟩ := HA.out j hlt
      have HN : Hid (objsW l k (j + 1) = objsIn (l.getD j []) k s (l.getD j []).length) := Lib.hid (by rw [HE.out]; rfl)
      have hlj := HL.out _ (getW_mem hlt)
      have hlt' : (j : Int) < (l.length : Int) := by omega
      have hj0 : (0 : Int) ≤ (j : Int) := by omega
      have HD := Lib.hid hdj
      generalize l.getD j [] = lj at *
      clear hdj
      go_wp2_with fail
      go_loop [5, 7] (fun t i => ∃ m q : Nat, m ≤ lj.length ∧ i = .int .i64 (m : Int) ∧ t = .int .u64 (q : Int) ∧ Is64 q ∧ Hid (q = objsIn lj k s m)) (fun _ i => lj.length - (intOf i).toNat)
      case atStart => exact ⟨0, s, Nat.zero_le _, rfl, rfl, hs, Lib.hid rfl⟩
      case round =>
        obtain ⟨m, q, hm, rfl, rfl, hq, HQ⟩ := hrel
        by_cases hlm : m < lj.length
        · obtain ⟨b2, off2, rfl, hbl2, c0, c1, c2⟩ := HD.out m hlm
          have hlm' : (m : Int) < (lj.length : Int) := by omega
          have hm0 : (0 : Int) ≤ (m : Int) := by omega
          have HQ2 : Hid (objsIn lj k s (m + 1) = if (lj.getD m zero).1 = k then wth q (lj.getD m zero).2.1 else q) := Lib.hid (by rw [HQ.out]; rfl)
          generalize lj.getD m zero = t at *
          obtain ⟨tk, tob, tn⟩ := t
          dsimp only at c0 c1 c2 HQ2
          have HC := Lib.hid (refWith_any q hq tob w)
          have h64 := wth_64 (n := tob) hq
          generalize wth q tob = q2 at *
          by_cases hk : tk = k
          · have hkb : (tk == k) = true := by simpa using hk
            have HQ3 : Hid (objsIn lj k s (m + 1) = q2) := Lib.hid (by rw [HQ2.out, if_pos hk])
            clear hk
            go_wp2_with fail
            refine HC.out.mono ?_
            rintro e w1 ⟨rfl, rfl⟩
            go_wp2
            go_round
            case rel => exact ⟨m + 1, q2, by omega, by go_num, rfl, h64, Lib.hid HQ3.out.symm⟩
            case measure => simp [intOf]; omega
          · have hkb : (tk == k) = false := by simpa using hk
            have HQ3 : Hid (objsIn lj k s (m + 1) = q) := Lib.hid (by rw [HQ2.out, if_neg hk])
            clear hk
            go_wp2
            go_round
            case rel => exact ⟨m + 1, q, by omega, by go_num, rfl, hq, Lib.hid HQ3.out.symm⟩
            case measure => simp [intOf]; omega
        · obtain rfl : m = lj.length := by omega
          go_wp2
          go_round
          case rel => exact ⟨j + 1, q, by omega, by go_num, rfl, hq, Lib.hid (by rw [HN.out, HQ.out])⟩
          case measure => simp [intOf]; omega
    · obtain rfl : j = l.length := by omega
      go_wp2
      go_ret
      exact ⟨by rw [HE.out]; rfl, rfl⟩
end Go.Proofs.YtigjeeedobnmhaaDoor.need

/-
  The program's own answer of the objects of needs of a kind (typed over the code of 5ef5b61): of at most six ways, each of at most six needs.
-/
namespace Go.Proofs.YtigjeeedobnmhaaDoor.need
open Go.RowKit Go.ChangeShapes
open Go.Proofs.YtigjeeedobnmhaaDoor.objs (De zero CellsAt DAt)
open Go.Proofs.YtigjeeedobnmhaaDoor.bits (wth Is64 with_any)
set_option linter.unusedVariables false

set_option maxRecDepth 100000 in
set_option maxHeartbeats 4000000 in
theorem objs_any (B : Option Addr) (cap : Nat) (l : List (List De)) (k : Int) (hl : l.length ≤ 6) (hll : ∀ x ∈ l, x.length ≤ 6) (w : World) (hB : WAt w B l) :
    Calls Tryd.prog 21 #[.slice B l.length cap, .int .i64 k] w fun e w' => e = .returned (.int .u64 ((objects l k : Nat) : Int)) ∧ Below w.heap.size w w' := by
  have HOf := Lib.hid (of_none w)
  have HB := Lib.hid hB
  have HLL := Lib.hid hll
  have HO : Hid (objects l k = objsW l k l.length) := Lib.hid rfl
  rw [HO.out]
  clear hB hll HO
  go_enter Tryd.func21, Tryd.ntmps21
  go_wp2_with fail
  refine HOf.out.mono ?_
  rintro e w1 ⟨rfl, rfl⟩
  go_wp2_with fail
  go_loopw [5, 13] (fun t i wr => ∃ j : Nat, j ≤ l.length ∧ i = .int .i64 (j : Int) ∧ t = .int .u64 ((objsW l k j : Nat) : Int) ∧ Hid (Below w.heap.size w wr)) (fun _ i _ => l.length - (intOf i).toNat)
  case atStart => exact ⟨0, Nat.zero_le _, rfl, rfl, Lib.hid (Below.refl _ _)⟩
  case round =>
    obtain ⟨j, hj, rfl, rfl, HW⟩ := hrel
    by_cases hlt : j < l.length
    · obtain ⟨b, off, Aj, cj, rfl, hbl, hc0, hdj⟩ := HB.out j hlt
      have hc := (HW.out.cell (p := ⟨b, off + j, none⟩) hbl).trans hc0
      have hlt' : (j : Int) < (l.length : Int) := by omega
      have hj0 : (0 : Int) ≤ (j : Int) := by omega
      have h6 := HLL.out _ (getW_mem hlt)
      have HS := Lib.hid (objsW_64 (w := l) (k := k) j)
      have HE : Hid (objsW l k (j + 1) = objsIn (l.getD j []) k (objsW l k j) (l.getD j []).length) := Lib.hid rfl
      generalize objsW l k j = s at *
      generalize l.getD j [] = x at *
      have HD := Lib.hid hdj
      clear hdj hc0 hbl
      go_wp2_with fail
      clear hc
      go_loopw [5, 19] (fun t i wr => ∃ q : Nat, q ≤ x.length ∧ i = .int .i64 (q : Int) ∧ t = .int .u64 ((objsIn x k s q : Nat) : Int) ∧ Hid (Below w.heap.size w wr)) (fun _ i _ => x.length - (intOf i).toNat)
      case atStart => exact ⟨0, Nat.zero_le _, rfl, rfl, HW⟩
      case round =>
        obtain ⟨q, hq, rfl, rfl, HV⟩ := hrel
        by_cases hlq : q < x.length
        · obtain ⟨b1, off1, rfl, hb1, c0, c1, c2⟩ := HD.out.next HV.out q hlq
          have hlq' : (q : Int) < (x.length : Int) := by omega
          have hq0 : (0 : Int) ≤ (q : Int) := by omega
          have HS2 := Lib.hid (objsIn_64 (l := x) (k := k) HS.out q)
          have HE2 : Hid (objsIn x k s (q + 1) = if (x.getD q zero).1 = k then wth (objsIn x k s q) (x.getD q zero).2.1 else objsIn x k s q) := Lib.hid rfl
          generalize objsIn x k s q = s2 at *
          generalize x.getD q zero = n at *
          have HV1 := Lib.hid (HV.out.trans ((nbox_below wr n.1 n.2.1 n.2.2).mono HV.out.size))
          have hbx := nbox_at wr n.1 n.2.1 n.2.2
          have HWi := fun W => Lib.hid (with_any s2 HS2.out n.2.1 W)
          obtain ⟨k0, o0, m0⟩ := n
          unfold needBox at HV1 hbx
          dsimp only at c0 c1 c2 HE2 HV1 hbx HWi
          clear HV
          go_upto_region 8 with fail
          clear c0 c1 c2
          generalize wr.alloc (.cells #[.int .i64 k0, .int .i64 o0, .int .i64 m0] 50) = W4 at *
          generalize wr.heap.size = g at *
          obtain ⟨c0, c1, c2⟩ := hbx
          by_cases hk : k0 = k
          · have HE3 : Hid (objsIn x k s (q + 1) = wth s2 o0) := Lib.hid (by rw [HE2.out, if_pos hk])
            have hk' : (k0 == k) = true := by simpa using hk
            clear hk
            go_wp2_with fail
            refine (HWi _).out.mono ?_
            rintro e w5 ⟨rfl, rfl⟩
            go_wp2
            go_roundw
            case rel => exact ⟨q + 1, by omega, by go_num, by rw [HE3.out], HV1⟩
            case measure => simp [intOf]; omega
          · have HE3 : Hid (objsIn x k s (q + 1) = s2) := Lib.hid (by rw [HE2.out, if_neg hk])
            have hk' : (k0 == k) = false := by simpa using hk
            clear hk
            go_wp2
            go_roundw
            case rel => exact ⟨q + 1, by omega, by go_num, by rw [HE3.out], HV1⟩
            case measure => simp [intOf]; omega
        · obtain rfl : q = x.length := by omega
          go_wp2
          go_roundw
          case rel => exact ⟨j + 1, by omega, by go_num, by rw [HE.out], HV⟩
          case measure => simp [intOf]; omega
    · obtain rfl : j = l.length := by omega
      go_wp2
      go_ret
      exact ⟨rfl, HW.out⟩
end Go.Proofs.YtigjeeedobnmhaaDoor.need

/-
  The document's own text of a wait. No condition but that it has at most six ways, each of at most six needs, of ints.
-/
namespace Go.Proofs.YtigjeeedobnmhaaDoor.need
open Go.RowKit Go.ChangeShapes
open Go.Proofs.YtigjeeedobnmhaaDoor.octet (mk_append size_mk)
open Go.Proofs.YtigjeeedobnmhaaDoor.objs (De zero CellsAt DAt below_drewN)
set_option linter.unusedVariables false

def wordsBox : Obj := .cells #[.string ⟨#[110, 111, 110, 101]⟩, .string ⟨#[108, 111, 99, 107]⟩, .string ⟨#[114, 101, 97, 100]⟩, .string ⟨#[119, 114, 105, 116, 101]⟩, .string ⟨#[100, 111, 119, 110]⟩, .string ⟨#[116, 97, 107, 101]⟩] 9
/-- Which word: of no kind the first one. -/
def kidx (k : Int) : Nat := if 1 ≤ k ∧ k ≤ 5 then k.toNat else 0
theorem kidx_lt (k : Int) : kidx k < 6 := by unfold kidx; split <;> omega
theorem kidx_tail (k n : Int) : tailT k n = if 3 < kidx k then 58 :: intT n else [] := by
  unfold tailT kidx
  by_cases h : 1 ≤ k ∧ k ≤ 5
  · rw [if_pos h]
    by_cases h4 : k = 4 ∨ k = 5
    · rw [if_pos h4, if_pos (by omega)]
    · rw [if_neg h4, if_neg (by omega)]
  · rw [if_neg h, if_neg (by omega), if_neg (by omega)]
/-- While a text is written: the wait, and the words. -/
structure T9 (w : World) (A : Option Addr) (l : List (List De)) (gw : Nat) (W : World) : Prop where
  list : WAt W A l
  below : Below w.heap.size w W
  words : W.heap[gw]? = some wordsBox
theorem T9.next {w W W' : World} {A : Option Addr} {l : List (List De)} {gw : Nat} (h : T9 w A l gw W) (hb : Below W.heap.size W W') : T9 w A l gw W' :=
  ⟨h.list.next hb, h.below.trans (hb.mono h.below.size), (hb.block gw (lt_of_block h.words)).trans h.words⟩
theorem T9.word_at {w W : World} {A : Option Addr} {l : List (List De)} {gw : Nat} (h : T9 w A l gw W) (k : Int) : W.cell? ⟨gw, kidx k, none⟩ = some (.string ⟨(word k).toArray⟩) := by
  unfold World.cell?
  rw [h.words]
  unfold kidx
  by_cases h1 : 1 ≤ k ∧ k ≤ 5
  · rw [if_pos h1]
    rcases (by omega : k = 1 ∨ k = 2 ∨ k = 3 ∨ k = 4 ∨ k = 5) with rfl | rfl | rfl | rfl | rfl <;> rfl
  · rw [if_neg h1]
    have : word k = [110, 111, 110, 101] := by
      unfold word
      rw [if_neg (by omega), if_neg (by omega), if_neg (by omega), if_neg (by omega), if_neg (by omega)]
    rw [this]
    rfl
/-- .. and a need, in a block of its own. -/
structure N9 (w : World) (A : Option Addr) (l : List (List De)) (gw g : Nat) (k a b : Int) (W : World) : Prop where
  t : T9 w A l gw W
  box : W.heap[g]? = some (needBox k a b)
theorem N9.next {w W W' : World} {A : Option Addr} {l : List (List De)} {gw g : Nat} {k a b : Int} (h : N9 w A l gw g k a b W) (hb : Below W.heap.size W W') : N9 w A l gw g k a b W' :=
  ⟨h.t.next hb, (hb.block g (lt_of_block h.box)).trans h.box⟩
theorem N9.drew {w W : World} {A : Option Addr} {l : List (List De)} {gw g : Nat} {k a b : Int} (h : N9 w A l gw g k a b W) : N9 w A l gw g k a b W.drew :=
  ⟨⟨h.t.list, h.t.below.drew, h.t.words⟩, h.box⟩
theorem N9.cells {w W : World} {A : Option Addr} {l : List (List De)} {gw g : Nat} {k a b : Int} (h : N9 w A l gw g k a b W) :
    W.cell? ⟨g, 0, none⟩ = some (.int .i64 k) ∧ W.cell? ⟨g, 1, none⟩ = some (.int .i64 a) ∧ W.cell? ⟨g, 2, none⟩ = some (.int .i64 b) := by
  unfold World.cell?
  rw [h.box]
  exact ⟨rfl, rfl, rfl⟩
theorem n9_new {w wr : World} {A : Option Addr} {l : List (List De)} {gw : Nat} (k a b : Int) (h : T9 w A l gw wr) : N9 w A l gw wr.heap.size k a b (wr.alloc (needBox k a b)) :=
  ⟨h.next ((Below.refl _ _).alloc (Nat.le_refl _) _), heap_alloc_new wr _⟩

def sepT (k : Nat) (s : List UInt8) : List UInt8 := if 0 < k then s else []
theorem needsT_next (l : List De) (k : Nat) : needsT l (k + 1) = needsT l k ++ sepT k [32, 43, 32] ++ needT (l.getD k zero) := rfl
theorem waysT_next (w : List (List De)) (k : Nat) : waysT w (k + 1) = waysT w k ++ sepT k [32, 124, 32] ++ needsT (w.getD k []) (w.getD k []).length := rfl

set_option maxRecDepth 100000 in
set_option maxHeartbeats 16000000 in
theorem refText9_any (A : Option Addr) (cap : Nat) (l : List (List De)) (hl : l.length ≤ 6) (hs : ∀ x ∈ l, x.length ≤ 6 ∧ ∀ t ∈ x, Small t) (w : World) (hA : WAt w A l) :
    Calls Tryd.prog 20 #[.slice A l.length cap] w fun e w' => e = .returned (.string ⟨(textW l).toArray⟩) ∧ Below w.heap.size w w' := by
  have HS := Lib.hid hs
  have HW : Hid (textW l = waysT l l.length) := Lib.hid rfl
  rw [HW.out]
  have HT0 : Hid (T9 w A l w.heap.size (w.alloc wordsBox)) := Lib.hid (by
    have hb : Below w.heap.size w (w.alloc wordsBox) := (Below.refl _ _).alloc (Nat.le_refl _) _
    exact ⟨hA.next hb, hb, heap_alloc_new w _⟩)
  clear hA hs HW
  go_enter Tryd.func20, Tryd.ntmps20
  unfold wordsBox at HT0
  go_wp2_with fail
  generalize w.alloc (.cells #[.string ⟨#[110, 111, 110, 101]⟩, .string ⟨#[108, 111, 99, 107]⟩, .string ⟨#[114, 101, 97, 100]⟩, .string ⟨#[119, 114, 105, 116, 101]⟩, .string ⟨#[100, 111, 119, 110]⟩, .string ⟨#[116, 97, 107, 101]⟩] 9) = W0 at *
  generalize hgw : w.heap.size = gw at HT0 ⊢
  go_loopw [4, 5] (fun t i wr => ∃ j : Nat, j ≤ l.length ∧ i = .int .i64 (j : Int) ∧ t = .string ⟨(waysT l j).toArray⟩ ∧ Hid (T9 w A l gw wr)) (fun _ i _ => l.length - (intOf i).toNat)
  case atStart => exact ⟨0, Nat.zero_le _, rfl, rfl, HT0⟩
  case round =>
    obtain ⟨j, hj, rfl, rfl, HT⟩ := hrel
    by_cases hlt : j < l.length
    · obtain ⟨b, off, Aj, cj, rfl, hbl, hc, hdj⟩ := HT.out.list j hlt
      have hlt' : (j : Int) < (l.length : Int) := by omega
      have hj0 : (0 : Int) ≤ (j : Int) := by omega
      have hm := HS.out _ (getW_mem hlt)
      have HSj := Lib.hid hm.2
      have h6 := hm.1
      have HE := Lib.hid (waysT_next l j)
      have hpre := waysT_le HS.out j (by omega)
      have hsep : (sepT j [32, 124, 32]).length ≤ 3 := by unfold sepT; split <;> simp
      have HSep : Hid ((0 < j → waysT l j ++ sepT j [32, 124, 32] = waysT l j ++ [32, 124, 32]) ∧ (¬ 0 < j → waysT l j ++ sepT j [32, 124, 32] = waysT l j)) := Lib.hid ⟨fun h => by unfold sepT; rw [if_pos h], fun h => by unfold sepT; rw [if_neg h, List.append_nil]⟩
      have hpn : (waysT l j ++ sepT j [32, 124, 32]).length ≤ 2000 := by rw [List.length_append]; omega
      generalize waysT l j ++ sepT j [32, 124, 32] = pn at *
      generalize waysT l j = pre at *
      generalize hgj : l.getD j [] = lj at *
      have hs1 := size_mk pre
      have hs3 : (ByteArray.mk #[32, 124, 32]).size = 3 := rfl
      clear hm hsep
      go_upto_if 17 with fail
      go_cut [4] (fun s wx => s = .string ⟨pn.toArray⟩ ∧ wx = wr)
      case first =>
        by_cases h0 : 0 < j
        · have q0 : decide (0 < j) = true := by simpa using h0
          have HS1 := Lib.hid (HSep.out.1 h0)
          simp only [q0]
          go_wp2_with fail
          go_meet
          exact ⟨by rw [HS1.out, ← mk_append], rfl⟩
        · have q0 : decide (0 < j) = false := by simpa using h0
          have HS1 := Lib.hid (HSep.out.2 h0)
          clear h0
          simp only [q0]
          go_wp2_with fail
          go_meet
          exact ⟨by rw [HS1.out], rfl⟩
      case rest =>
        obtain ⟨rfl, rfl⟩ := hcut
        clear HSep hc hdj
        (rename (∀ (a : Act) (w : World), Code.wp _ _ _ a w → _) => hK; refine hK _ _ ?_; clear hK; apply wp_seq_k; intro _ _)
        go_wp2_with fail
        go_loopw [4, 6] (fun t i wr => ∃ k : Nat, k ≤ lj.length ∧ i = .int .i64 (k : Int) ∧ t = .string ⟨(pn ++ needsT lj k).toArray⟩ ∧ Hid (T9 w (some ⟨b, off, none⟩) l gw wr)) (fun _ i _ => lj.length - (intOf i).toNat)
        case atStart => exact ⟨0, Nat.zero_le _, rfl, by simp [needsT], HT⟩
        case round =>
          obtain ⟨k, hk, rfl, rfl, HTk⟩ := hrel
          obtain ⟨bA, offA, AjA, cjA, hAe, hblA, hcA, hdA⟩ := HTk.out.list j hlt
          injection hAe with hAe
          injection hAe with hAe1 hAe2
          subst hAe1 hAe2
          rw [hgj] at hcA hdA
          by_cases hlk : k < lj.length
          · obtain ⟨b2, off2, rfl, hbl2, c0, c1, c2⟩ := hdA k hlk
            have hlk' : (k : Int) < (lj.length : Int) := by omega
            have hk0 : (0 : Int) ≤ (k : Int) := by omega
            have HEk := Lib.hid (needsT_next lj k)
            have hsm := HSj.out _ (getD_mem hlk)
            have hpk := needsT_le HSj.out k (by omega)
            generalize lj.getD k zero = t at *
            obtain ⟨tk, tob, tn⟩ := t
            obtain ⟨⟨g1, g2⟩, ⟨g3, g4⟩, g5, g6⟩ := hsm
            dsimp only at g1 g2 g3 g4 g5 g6 c0 c1 c2 HEk
            have HN := Lib.hid (n9_new (k := tk) (a := tob) (b := tn) HTk.out)
            unfold needBox at HN
            go_upto_region 10 with fail
            go_cut [7, 8] (fun p v wx => ∃ g : Nat, p = .pointer (some ⟨g, 0, none⟩) ∧ v = .int .i64 tk ∧ Hid (N9 w (some ⟨b, off, none⟩) l gw g tk tob tn wx))
            case first =>
              go_region
              go_wp2_with fail
              go_meet
              exact ⟨_, rfl, rfl, Lib.hid HN.out.drew⟩
            case rest =>
              obtain ⟨g, rfl, rfl, HN1⟩ := hcut
              clear c0 c1 c2 hcA hdA HN
              (rename (∀ (a : Act) (w : World), Code.wp _ _ _ a w → _) => hK; refine hK _ _ ?_; clear hK; apply wp_seq_k; intro _ _)
              go_upto_region 11 with fail
              go_cut [8, 49] (fun v q wx => v = .int .i64 tk ∧ q = .bool (decide (¬ (1 ≤ tk ∧ tk ≤ 5))) ∧ wx = wc)
              case first =>
                by_cases k1 : tk < 1
                · have r1 : decide (tk < 1) = true := by simpa using k1
                  have HQ : Hid (decide (¬ (1 ≤ tk ∧ tk ≤ 5)) = true) := Lib.hid (decide_eq_true (by omega))
                  clear k1
                  go_wp2_with fail
                  go_meet
                  exact ⟨rfl, by rw [HQ.out], rfl⟩
                · have r1 : decide (tk < 1) = false := by simpa using k1
                  by_cases k5 : 5 < tk
                  · have r5 : decide (5 < tk) = true := by simpa using k5
                    have HQ : Hid (decide (¬ (1 ≤ tk ∧ tk ≤ 5)) = true) := Lib.hid (decide_eq_true (by omega))
                    clear k1 k5
                    go_wp2_with fail
                    go_meet
                    exact ⟨rfl, by rw [HQ.out], rfl⟩
                  · have r5 : decide (5 < tk) = false := by simpa using k5
                    have HQ : Hid (decide (¬ (1 ≤ tk ∧ tk ≤ 5)) = false) := Lib.hid (decide_eq_false (by omega))
                    clear k1 k5
                    go_wp2_with fail
                    go_meet
                    exact ⟨rfl, by rw [HQ.out], rfl⟩
              case rest =>
              obtain ⟨rfl, rfl, rfl⟩ := hcut
              (rename (∀ (a : Act) (w : World), Code.wp _ _ _ a w → _) => hK; refine hK _ _ ?_; clear hK)
              go_cut [8] (fun v wx => v = .int .i64 (kidx tk : Int) ∧ wx = wc)
              case first =>
                by_cases kb : 1 ≤ tk ∧ tk ≤ 5
                · have HQ : Hid (decide (¬ (1 ≤ tk ∧ tk ≤ 5)) = false) := Lib.hid (decide_eq_false (fun h => h kb))
                  have HK : Hid ((kidx tk : Int) = tk) := Lib.hid (by unfold kidx; rw [if_pos kb]; omega)
                  simp only [HQ.out]
                  clear kb
                  go_wp2_with fail
                  go_meet
                  exact ⟨by rw [HK.out], rfl⟩
                · have HQ : Hid (decide (¬ (1 ≤ tk ∧ tk ≤ 5)) = true) := Lib.hid (decide_eq_true kb)
                  have HK : Hid ((kidx tk : Int) = 0) := Lib.hid (by unfold kidx; rw [if_neg kb]; rfl)
                  simp only [HQ.out]
                  clear kb
                  go_wp2_with fail
                  go_meet
                  exact ⟨by rw [HK.out], rfl⟩
              case rest =>
              obtain ⟨rfl, rfl⟩ := hcut
              (rename (∀ (a : Act) (w : World), Code.wp _ _ _ a w → _) => hK; refine hK _ _ ?_; clear hK; apply wp_seq_k; intro _ _)
              have HSep2 : Hid ((0 < k → pn ++ needsT lj k ++ sepT k [32, 43, 32] = pn ++ needsT lj k ++ [32, 43, 32]) ∧ (¬ 0 < k → pn ++ needsT lj k ++ sepT k [32, 43, 32] = pn ++ needsT lj k)) := Lib.hid ⟨fun h => by unfold sepT; rw [if_pos h], fun h => by unfold sepT; rw [if_neg h, List.append_nil]⟩
              have hsep2 : (sepT k [32, 43, 32]).length ≤ 3 := by unfold sepT; split <;> simp
              have hps : (pn ++ needsT lj k ++ sepT k [32, 43, 32]).length ≤ 3000 := by rw [List.length_append, List.length_append]; omega
              have HEq : Hid (pn ++ needsT lj (k + 1) = pn ++ needsT lj k ++ sepT k [32, 43, 32] ++ needT (tk, tob, tn)) := Lib.hid (by rw [HEk.out]; simp only [List.append_assoc])
              have hpq : (pn ++ needsT lj k).length ≤ 2400 := by rw [List.length_append]; omega
              generalize pn ++ needsT lj k ++ sepT k [32, 43, 32] = ps at *
              generalize pn ++ needsT lj k = pq at *
              clear hsep2
              have y1 := size_mk pq
              have y2 : (ByteArray.mk #[32, 43, 32]).size = 3 := rfl
              go_upto_if 51 with fail
              go_cut [4] (fun s wx => s = .string ⟨ps.toArray⟩ ∧ wx = wc)
              case first =>
                by_cases h0 : 0 < k
                · have q0 : decide (0 < k) = true := by simpa using h0
                  have HS1 := Lib.hid (HSep2.out.1 h0)
                  simp only [q0]
                  go_wp2_with fail
                  go_meet
                  exact ⟨by rw [HS1.out, ← mk_append], rfl⟩
                · have q0 : decide (0 < k) = false := by simpa using h0
                  have HS1 := Lib.hid (HSep2.out.2 h0)
                  clear h0
                  simp only [q0]
                  go_wp2_with fail
                  go_meet
                  exact ⟨by rw [HS1.out], rfl⟩
              case rest =>
              obtain ⟨rfl, rfl⟩ := hcut
              clear HSep2 y1 y2
              (rename (∀ (a : Act) (w : World), Code.wp _ _ _ a w → _) => hK; refine hK _ _ ?_; clear hK; apply wp_seq_k; intro _ _)
              have y1 := size_mk ps
              have y2 := size_mk (word tk)
              have y3 : (ByteArray.mk #[32]).size = 1 := rfl
              have y4 := word_le tk
              have y5 := intT_le ⟨g3, g4⟩
              have y6 := size_mk (intT tob)
              have HI := fun W => Lib.hid (refInt9_any tob ⟨g3, g4⟩ W)
              have hki := kidx_lt tk
              have hki2 : (kidx tk : Int) < 6 := by omega
              have hki0 : (0 : Int) ≤ (kidx tk : Int) := by omega
              have HPs : Hid (ByteArray.mk ps.toArray ++ ByteArray.mk (word tk).toArray ++ ByteArray.mk #[32] ++ ByteArray.mk (intT tob).toArray = ByteArray.mk (ps ++ word tk ++ [32] ++ intT tob).toArray) := Lib.hid (by rw [show (ByteArray.mk #[32]) = ByteArray.mk [32].toArray from rfl, mk_append, mk_append, mk_append])
              have hpt : (ps ++ word tk ++ [32] ++ intT tob).length ≤ 3100 := by simp only [List.length_append, List.length_cons, List.length_nil]; omega
              have HEt : Hid (pn ++ needsT lj (k + 1) = (ps ++ word tk ++ [32] ++ intT tob) ++ (if 3 < kidx tk then 58 :: intT tn else [])) := Lib.hid (by rw [HEq.out, ← kidx_tail]; simp only [needT, List.append_assoc])
              have z1 : (ByteArray.mk ps.toArray ++ ByteArray.mk (word tk).toArray).size = ps.length + (word tk).length := by rw [mk_append, size_mk, List.length_append]
              have z2 : (ByteArray.mk ps.toArray ++ ByteArray.mk (word tk).toArray ++ ByteArray.mk #[32]).size = ps.length + (word tk).length + 1 := by rw [show (ByteArray.mk #[32]) = ByteArray.mk [32].toArray from rfl, mk_append, mk_append, size_mk, List.length_append, List.length_append]; rfl
              generalize hpg : ps ++ word tk ++ [32] ++ intT tob = pt at *
              clear hpg HEq
              have hwd := HN1.out.t.word_at tk
              have HWd := fun W (hW : Below wc.heap.size wc W) => Lib.hid ((HN1.out.next hW).t.word_at tk)
              generalize word tk = wd at *
              generalize intT tob = it at *
              generalize kidx tk = ki at *
              obtain ⟨d0, d1, d2⟩ := HN1.out.cells
              go_upto_region 15 with fail
              go_cut [4] (fun s wx => s = .string ⟨pt.toArray⟩ ∧ Hid (N9 w (some ⟨b, off, none⟩) l gw g tk tob tn wx))
              case first =>
                go_region_with ((go_at_call 37; refine (HI _).out.mono ?_; rintro e w5 ⟨rfl, hb5⟩; have hwd5 := (HWd _ ((Below.refl wc.heap.size wc).drew.trans hb5)).out))
                all_goals
                  have HN5 := Lib.hid (HN1.out.drew.next hb5)
                  clear hb5 hwd5
                  go_wp2_with fail
                  go_meet
                  first
                    | exact ⟨by rw [HPs.out], HN5⟩
                    | exact ⟨by rw [HPs.out], Lib.hid HN5.out.drew⟩
              case rest =>
                obtain ⟨rfl, HN2⟩ := hcut
                clear HPs y1 y2 y3 y4 y5 y6 z1 z2 hwd d0 d1 d2
                (rename (∀ (a : Act) (w : World), Code.wp _ _ _ a w → _) => hK; refine hK _ _ ?_; clear hK; apply wp_seq_k; intro _ _)
                obtain ⟨d0, d1, d2⟩ := HN2.out.cells
                have y1 := size_mk pt
                by_cases h3 : 3 < ki
                · have q3 : decide (3 < ki) = true := by simpa using h3
                  have HF : Hid (pn ++ needsT lj (k + 1) = pt ++ [58] ++ intT tn) := Lib.hid (by rw [HEt.out, if_pos h3]; simp)
                  have HI2 := fun W => Lib.hid (refInt9_any tn ⟨g5, g6⟩ W)
                  have y2 := intT_le ⟨g5, g6⟩
                  have y3 := size_mk (intT tn)
                  have y4 : (ByteArray.mk #[58]).size = 1 := rfl
                  have y5 : (ByteArray.mk pt.toArray ++ ByteArray.mk #[58]).size = pt.length + 1 := by rw [show (ByteArray.mk #[58]) = ByteArray.mk [58].toArray from rfl, mk_append, size_mk, List.length_append]; rfl
                  have HPf : Hid (ByteArray.mk pt.toArray ++ ByteArray.mk #[58] ++ ByteArray.mk (intT tn).toArray = ByteArray.mk (pt ++ [58] ++ intT tn).toArray) := Lib.hid (by rw [show (ByteArray.mk #[58]) = ByteArray.mk [58].toArray from rfl, mk_append, mk_append])
                  generalize intT tn = nt at *
                  go_wp2_with fail
                  refine (HI2 _).out.mono ?_
                  rintro e w6 ⟨rfl, hb6⟩
                  have HT6 := Lib.hid (HN2.out.next hb6).t
                  clear hb6
                  go_wp2
                  go_roundw
                  case rel => exact ⟨k + 1, by omega, by go_num, by rw [HF.out, HPf.out], HT6⟩
                  case measure => simp [intOf]; omega
                · have q3 : decide (3 < ki) = false := by simpa using h3
                  have HF : Hid (pn ++ needsT lj (k + 1) = pt) := Lib.hid (by rw [HEt.out, if_neg h3, List.append_nil])
                  have HT6 := Lib.hid HN2.out.t
                  go_wp2
                  go_roundw
                  case rel => exact ⟨k + 1, by omega, by go_num, by rw [HF.out], HT6⟩
                  case measure => simp [intOf]; omega
          · obtain rfl : k = lj.length := by omega
            clear hdA
            go_wp2_with fail
            go_roundw
            case rel => exact ⟨j + 1, by omega, by go_num, by rw [HE.out], HTk⟩
            case measure => simp [intOf]; omega
    · obtain rfl : j = l.length := by omega
      go_wp2_with fail
      go_ret
      exact ⟨rfl, HT.out.below⟩
end Go.Proofs.YtigjeeedobnmhaaDoor.need

/-
  The program's own text of a wait (typed over the code of 5ef5b61): of at most six ways, each of at most six needs, of ints. The tables must lie where their initialisers lay them.
-/
namespace Go.Proofs.YtigjeeedobnmhaaDoor.need
open Go.RowKit Go.ChangeShapes
open Go.Proofs.YtigjeeedobnmhaaDoor.octet (mk_append size_mk)
open Go.Proofs.YtigjeeedobnmhaaDoor.objs (De zero CellsAt DAt below_drewN)
set_option linter.unusedVariables false

theorem digs_dec : ∀ n, digs n = Lib.decDigits n := by
  intro n
  induction n using Nat.strongRecOn with
  | _ n ih =>
    by_cases h : n < 10
    · rw [digs_small h, Lib.decDigits, dif_pos h]
    · rw [digs_big h, Lib.decDigits, dif_neg h, ih (n / 10) (by omega)]
theorem intT_itoa (n : Int) : intT n = Lib.itoa n := by
  unfold intT Lib.itoa
  by_cases h : n < 0
  · rw [if_pos h, if_pos h, digs_dec]
    congr 2
    omega
  · rw [if_neg h, if_neg h, digs_dec]
theorem itoa_any (n : Int) (hn : -9223372036854775808 ≤ n ∧ n ≤ 9223372036854775807) (w : World) (hw : Oke w) : Calls Tryd.prog 51 #[.int .i64 n] w fun e w' => e = .returned (.string ⟨(intT n).toArray⟩) ∧ Below w.heap.size w w' := by
  refine (Tryd.strconv_Itoa n hn.1 hn.2 w hw.tab.pw).mono ?_
  rintro e w' ⟨rfl, k, os, rfl⟩
  exact ⟨by rw [intT_itoa], Lib.below_grow _ w (Nat.le_refl _) k os⟩

theorem word_none {k : Int} (h : ¬ (1 ≤ k ∧ k ≤ 5)) : word k = [110, 111, 110, 101] := by
  unfold word
  rw [if_neg (by omega), if_neg (by omega), if_neg (by omega), if_neg (by omega), if_neg (by omega)]

/-- While a need is written. -/
structure Tn (w : World) (k o m : Int) (W : World) : Prop where
  below : Below w.heap.size w W
  box : W.heap[w.heap.size]? = some (needBox k o m)
  ok : Oke W
theorem Tn.next {w W W' : World} {k o m : Int} (h : Tn w k o m W) (hb : Below W.heap.size W W') : Tn w k o m W' :=
  ⟨h.below.trans (hb.mono h.below.size), (hb.block _ (lt_of_block h.box)).trans h.box, h.ok.next hb⟩
theorem Tn.cells {w W : World} {k o m : Int} (h : Tn w k o m W) : W.cell? ⟨w.heap.size, 0, none⟩ = some (.int .i64 k) ∧ W.cell? ⟨w.heap.size, 1, none⟩ = some (.int .i64 o) ∧ W.cell? ⟨w.heap.size, 2, none⟩ = some (.int .i64 m) := by
  unfold World.cell?
  rw [h.box]
  exact ⟨rfl, rfl, rfl⟩
theorem tn_new {w : World} (k o m : Int) (hw : Oke w) : Tn w k o m (w.alloc (needBox k o m)) := ⟨nbox_below w k o m, heap_alloc_new w _, hw.next (nbox_below w k o m)⟩
theorem Tn.word_at {w W : World} {k o m : Int} (h : Tn w k o m W) (hk : 1 ≤ k ∧ k ≤ 5) : W.cell? ⟨0, k.toNat, none⟩ = some (.string ⟨(word k).toArray⟩) := by
  have hc := h.ok.tab.nm k.toNat (by omega)
  rw [names_word (by omega) (by omega), show ((k.toNat : Nat) : Int) = k from by omega] at hc
  exact hc

set_option maxRecDepth 100000 in
set_option maxHeartbeats 4000000 in
theorem textN_any (n : De) (hs : Small n) (w : World) (hw : Oke w) :
    Calls Tryd.prog 35 #[.agg #[.int .i64 n.1, .int .i64 n.2.1, .int .i64 n.2.2]] w fun e w' => e = .returned (.string ⟨(needT n).toArray⟩) ∧ Below w.heap.size w w' := by
  obtain ⟨k, o, m⟩ := n
  obtain ⟨hk, ho, hm⟩ := hs
  dsimp only at hk ho hm ⊢
  have HT := Lib.hid (tn_new k o m hw)
  have HK := fun W => Lib.hid (known_any k W)
  have HC := fun W => Lib.hid (counts_any k W)
  have HI1 := fun W hW => Lib.hid (itoa_any o ho W hW)
  have HI2 := fun W hW => Lib.hid (itoa_any m hm W hW)
  have HE : Hid (needT (k, o, m) = (word k ++ ([32] ++ intT o)) ++ tailT k m) := Lib.hid (by unfold needT; simp only [List.append_assoc])
  have y4 := word_le k
  have y5 := intT_le ho
  have y6 := intT_le hm
  have y1 := size_mk (word k)
  have y2 := size_mk (intT o)
  have y3 := size_mk (intT m)
  have y7 : (ByteArray.mk #[32]).size = 1 := rfl
  have y8 : (ByteArray.mk #[58]).size = 1 := rfl
  have y9 : (ByteArray.mk #[32] ++ ByteArray.mk (intT o).toArray).size = 1 + (intT o).length := by rw [show (ByteArray.mk #[32]) = ByteArray.mk [32].toArray from rfl, mk_append, size_mk, List.length_append]; rfl
  have y10 : (ByteArray.mk #[58] ++ ByteArray.mk (intT m).toArray).size = 1 + (intT m).length := by rw [show (ByteArray.mk #[58]) = ByteArray.mk [58].toArray from rfl, mk_append, size_mk, List.length_append]; rfl
  have HP : Hid (ByteArray.mk (word k).toArray ++ (ByteArray.mk #[32] ++ ByteArray.mk (intT o).toArray) = ByteArray.mk (word k ++ ([32] ++ intT o)).toArray) := Lib.hid (by rw [show (ByteArray.mk #[32]) = ByteArray.mk [32].toArray from rfl, mk_append, mk_append])
  have y11 : (ByteArray.mk (word k).toArray ++ (ByteArray.mk #[32] ++ ByteArray.mk (intT o).toArray)).size = (word k).length + 1 + (intT o).length := by rw [HP.out, size_mk, List.length_append, List.length_append]; simp; omega
  have HP2 : Hid ((ByteArray.mk (word k).toArray ++ (ByteArray.mk #[32] ++ ByteArray.mk (intT o).toArray)) ++ (ByteArray.mk #[58] ++ ByteArray.mk (intT m).toArray) = ByteArray.mk ((word k ++ ([32] ++ intT o)) ++ (58 :: intT m)).toArray) := Lib.hid (by rw [HP.out, show (ByteArray.mk #[58]) = ByteArray.mk [58].toArray from rfl, mk_append, mk_append]; rfl)
  obtain ⟨r, hr⟩ : ∃ r, r = needT (k, o, m) := ⟨_, rfl⟩
  rw [← hr] at HE ⊢
  clear hr hw
  have hW : w.alloc (needBox k o m) = w.alloc (.cells #[.int .i64 k, .int .i64 o, .int .i64 m] 50) := rfl
  rw [hW] at HT
  clear hW
  by_cases h : 1 ≤ k ∧ k ≤ 5
  · rw [decide_eq_true h] at HK
    have HWd := fun W (hW : Tn w k o m W) => Lib.hid (hW.word_at h)
    obtain ⟨kk, rfl⟩ : ∃ kk : Nat, k = (kk : Int) := ⟨k.toNat, by omega⟩
    rw [Int.toNat_natCast] at HWd
    have hk6 : (kk : Int) < 6 := by omega
    have hk0 : (0 : Int) ≤ (kk : Int) := by omega
    by_cases h4 : (kk : Int) = 4 ∨ (kk : Int) = 5
    · rw [decide_eq_true h4] at HC
      have HR : Hid (r = (word kk ++ ([32] ++ intT o)) ++ (58 :: intT m)) := Lib.hid (by rw [HE.out]; unfold tailT; rw [if_pos h4])
      rw [HR.out]
      clear HE h4 h HP HR
      generalize word (kk : Int) = wd at *
      generalize intT o = it at *
      generalize intT m = mt at *
      go_enter Tryd.func35, Tryd.ntmps35
      go_upto_region 2 with fail
      generalize w.alloc (.cells #[.int .i64 (kk : Int), .int .i64 o, .int .i64 m] 50) = W1 at *
      obtain ⟨c0, c1, c2⟩ := HT.out.cells
      have cw := (HWd _ HT.out).out
      go_wp2_with fail
      refine (HK _).out.mono ?_
      rintro e w2 ⟨rfl, rfl⟩
      go_wp2_with fail
      refine (HI1 _ HT.out.ok).out.mono ?_
      rintro e w3 ⟨rfl, hb3⟩
      have HT3 := Lib.hid (HT.out.next hb3)
      clear hb3 HT c0 c1 c2 cw HI1
      obtain ⟨c0, c1, c2⟩ := HT3.out.cells
      go_wp2_with fail
      refine (HC _).out.mono ?_
      rintro e w4 ⟨rfl, rfl⟩
      go_wp2_with fail
      refine (HI2 _ HT3.out.ok).out.mono ?_
      rintro e w5 ⟨rfl, hb5⟩
      have HT5 := Lib.hid (HT3.out.next hb5)
      clear hb5 HT3 c0 c1 c2 HI2
      go_wp2_with fail
      go_ret
      exact ⟨ret_str HP2.out, HT5.out.below⟩
    · rw [decide_eq_false h4] at HC
      have HR : Hid (r = word kk ++ ([32] ++ intT o)) := Lib.hid (by rw [HE.out]; unfold tailT; rw [if_neg h4, List.append_nil])
      rw [HR.out]
      clear HE h4 h HP2 HR HI2 y3 y6 y8 y10
      generalize word (kk : Int) = wd at *
      generalize intT o = it at *
      go_enter Tryd.func35, Tryd.ntmps35
      go_upto_region 2 with fail
      generalize w.alloc (.cells #[.int .i64 (kk : Int), .int .i64 o, .int .i64 m] 50) = W1 at *
      obtain ⟨c0, c1, c2⟩ := HT.out.cells
      have cw := (HWd _ HT.out).out
      go_wp2_with fail
      refine (HK _).out.mono ?_
      rintro e w2 ⟨rfl, rfl⟩
      go_wp2_with fail
      refine (HI1 _ HT.out.ok).out.mono ?_
      rintro e w3 ⟨rfl, hb3⟩
      have HT3 := Lib.hid (HT.out.next hb3)
      clear hb3 HT c0 c1 c2 cw HI1
      obtain ⟨c0, c1, c2⟩ := HT3.out.cells
      go_wp2_with fail
      refine (HC _).out.mono ?_
      rintro e w4 ⟨rfl, rfl⟩
      go_wp2_with fail
      go_ret
      exact ⟨ret_str HP.out, HT3.out.below⟩
  · rw [decide_eq_false h] at HK
    have h4 : ¬ (k = 4 ∨ k = 5) := by omega
    rw [decide_eq_false h4] at HC
    have HR : Hid (r = [110, 111, 110, 101] ++ ([32] ++ intT o)) := Lib.hid (by rw [HE.out, word_none h]; unfold tailT; rw [if_neg h4, List.append_nil])
    rw [HR.out]
    rw [word_none h] at y1 HP y11
    have y12 : (ByteArray.mk #[110, 111, 110, 101]).size = 4 := rfl
    rw [show (ByteArray.mk [110, 111, 110, 101].toArray) = ByteArray.mk #[110, 111, 110, 101] from rfl] at y11 HP
    clear HE h4 h HP2 HR HI2 y1 y3 y4 y6 y8 y10
    generalize intT o = it at *
    go_enter Tryd.func35, Tryd.ntmps35
    go_upto_region 2 with fail
    generalize w.alloc (.cells #[.int .i64 k, .int .i64 o, .int .i64 m] 50) = W1 at *
    obtain ⟨c0, c1, c2⟩ := HT.out.cells
    go_wp2_with fail
    refine (HK _).out.mono ?_
    rintro e w2 ⟨rfl, rfl⟩
    go_wp2_with fail
    refine (HI1 _ HT.out.ok).out.mono ?_
    rintro e w3 ⟨rfl, hb3⟩
    have HT3 := Lib.hid (HT.out.next hb3)
    clear hb3 HT c0 c1 c2 HI1
    obtain ⟨c0, c1, c2⟩ := HT3.out.cells
    go_wp2_with fail
    refine (HC _).out.mono ?_
    rintro e w4 ⟨rfl, rfl⟩
    go_wp2_with fail
    go_ret
    exact ⟨ret_str HP.out, HT3.out.below⟩
end Go.Proofs.YtigjeeedobnmhaaDoor.need

/-
  The program's own text of a wait, whole: rows of texts, and what stands between (typed over the code of 5ef5b61): of at most six ways, each of at most six needs, of ints. The tables must lie where their initialisers lay them.
-/
namespace Go.Proofs.YtigjeeedobnmhaaDoor.need
open Go.RowKit Go.ChangeShapes
open Go.Proofs.YtigjeeedobnmhaaDoor.octet (mk_append size_mk)
open Go.Proofs.YtigjeeedobnmhaaDoor.objs (De zero CellsAt DAt below_drewN)
set_option linter.unusedVariables false

/-- A row of texts of a call's own. -/
def OwnS (w : World) (base : Nat) (v : Value) (l : List ByteArray) : Prop := w.ownsRow base 9 1 v l.length (l.map Value.string)
theorem OwnS.keep {w w' : World} {base : Nat} {v : Value} {l : List ByteArray} (h : OwnS w base v l) (hk : ∀ g, v.ownBlock = some g → w'.heap[g]? = w.heap[g]?) : OwnS w' base v l := by
  refine ⟨h.1, h.2.imp id ?_⟩
  rintro ⟨g, c, cur, rfl, hg, hh, r⟩
  exact ⟨g, c, cur, rfl, hg, (hk g rfl).trans hh, r⟩
theorem OwnS.lt {w : World} {base g : Nat} {v : Value} {l : List ByteArray} (h : OwnS w base v l) (hg : v.ownBlock = some g) : base ≤ g ∧ g < w.heap.size := World.ownsRow.lt h g hg
theorem OwnS.slice {w : World} {base : Nat} {v : Value} {l : List ByteArray} (h : OwnS w base v l) : ∃ A cap, v = .slice A l.length cap := by
  rcases h.2 with ⟨rfl, h0⟩ | ⟨g, cap, cur, rfl, _⟩
  · exact ⟨none, 0, by rw [h0]⟩
  · exact ⟨_, _, rfl⟩
theorem infoS : (Tryd.prog.info? 9).map (fun i => (i.zero, i.size, i.bytes)) = some (some (.string ⟨#[]⟩), 1, 16) := by kernel_rfl
def mkS (m : Nat) : Obj := .cells (madeCells (Value.string ⟨#[]⟩).cells (m * 1)) 9
theorem run_mkS (m : Nat) (hm : m ≤ 6) (W : World) : (Instr.makeSlice 72 (.int .i64 0) (.int .i64 (m : Int))).run Tryd.prog W = .ok (.slice (some ⟨W.heap.size, 0, none⟩) 0 m) (W.alloc (mkS m)) := by
  obtain ⟨i, hi, hz0, hz1, hz2⟩ := info_parts infoS
  have h := run_make (P := Tryd.prog) W 72 9 i _ Tryd.underlying72 hi hz0 .i64 .i64 0 (m : Int) (by omega) (by omega) (by rw [hz2]; omega) (by omega)
  rw [hz1, Int.toNat_natCast, Int.toNat_zero] at h
  exact h
theorem run_appS (W : World) (ty : TypeId) (base c : Nat) (v : Value) (l : List ByteArray) (s : ByteArray) (hrow : OwnS W base v l) (hlen : l.length ≤ 1000) (hbase : base ≤ W.heap.size) :
    ∃ v' w', (Builtin.append_ #[72, 72] ty #[v, .slice (some ⟨W.heap.size, 0, none⟩) 1 c]).run Tryd.prog (W.alloc (.cells #[.string s] 9)) = .ok v' w' ∧ OwnS w' base v' (l ++ [s]) ∧ (W.alloc (.cells #[.string s] 9)).grownBy w' v.ownBlock := by
  obtain ⟨i, hi, hz0, hz1, hz2⟩ := info_parts infoS
  have hb0 : Below W.heap.size W (W.alloc (.cells #[.string s] 9)) := (Below.refl _ W).alloc (Nat.le_refl _) _
  have hc : (W.alloc (.cells #[.string s] 9)).cell? ⟨W.heap.size, 0, none⟩ = some (.string s) := by
    unfold World.cell?
    rw [heap_alloc_new W _]
    rfl
  have hrow1 : OwnS (W.alloc (.cells #[.string s] 9)) base v l := hrow.keep fun g hg => hb0.block g (hrow.lt hg).2
  obtain ⟨v', w', r1, r2, r3, _⟩ := run_append_own (P := Tryd.prog) (W.alloc (.cells #[.string s] 9)) base 72 ty 9 i _ 1 16 Tryd.underlying72 hi hz0 hz1 hz2 rfl (by omega) v l.length (l.map Value.string) hrow1 ⟨W.heap.size, 0, none⟩ 1 c [.string s] rfl (by
      intro j u hu
      rcases j with _ | j
      · simp only [List.getElem?_cons_zero, Option.some.injEq] at hu
        subst hu
        rw [Addr.add_lit]
        exact hc
      · simp at hu) (by
      intro u hu
      simp only [List.mem_singleton] at hu
      subst hu
      rfl) (by unfold maxLen; omega) (by omega) (by simp; omega)
  refine ⟨v', w', r1, ?_, r3⟩
  unfold OwnS
  rw [List.length_append, List.map_append]
  exact r2
theorem wp_appS {o : Oper} {a : Act} {W : World} {K : Act → World → Prop} {Q : Exit → Act → World → Prop} (s y : Operand)
    (ho : o.op = .call { callee := .builtin .append, args := #[s, y], argTypes := #[72, 72] }) (base c : Nat) (v : Value) (l : List ByteArray) (x : ByteArray)
    (hs : a.eval s = v) (hrow : OwnS W base v l) (hy : a.eval y = .slice (some ⟨W.heap.size, 0, none⟩) 1 c) (hlen : l.length ≤ 1000) (hbase : base ≤ W.heap.size)
    (h : ∀ v' w', OwnS w' base v' (l ++ [x]) → (W.alloc (.cells #[.string x] 9)).grownBy w' v.ownBlock → K (a.put o.dst v') w') : o.wp Tryd.prog a (W.alloc (.cells #[.string x] 9)) K Q := by
  obtain ⟨v', w', hr, h2, h3⟩ := run_appS W o.type base c v l x hrow hlen hbase
  unfold Oper.wp execOp
  simp only [ho, resolve, invoke, builtin, Sem.run_bind, Sem.run_pure, Result.andThen_ok, List.map_toArray, List.map_cons, List.map_nil, hs, hy, hr]
  exact h v' w' h2 h3
theorem wpList_appS {ops : Array Oper} {rest : List Oper} {o : Oper} {a : Act} {W : World} {Q : Exit → Act → World → Prop} (hgd : o.guard = none) (s y : Operand)
    (ho : o.op = .call { callee := .builtin .append, args := #[s, y], argTypes := #[72, 72] }) (base c : Nat) (v : Value) (l : List ByteArray) (x : ByteArray)
    (hs : a.eval s = v) (hrow : OwnS W base v l) (hy : a.eval y = .slice (some ⟨W.heap.size, 0, none⟩) 1 c) (hlen : l.length ≤ 1000) (hbase : base ≤ W.heap.size)
    (h : ∀ v' w', OwnS w' base v' (l ++ [x]) → (W.alloc (.cells #[.string x] 9)).grownBy w' v.ownBlock → wpList Tryd.prog ops Q rest (a.put o.dst v') w') : wpList Tryd.prog ops Q (o :: rest) a (W.alloc (.cells #[.string x] 9)) :=
  wpList_plain hgd fun _ hK => wp_appS s y ho base c v l x hs hrow hy hlen hbase fun v' w' h2 h3 => hK _ _ (h v' w' h2 h3)

/-- What stands in a row of texts, with a text between each two. -/
theorem join_any (v : Value) (base : Nat) (l : List ByteArray) (sep : ByteArray) (w : World) (h : OwnS w base v l) (hl : l.length ≤ 1000) (hs : (Lib.join (l.map (·.data.toList)) sep.data.toList).length ≤ 140737488355328) :
    Calls Tryd.prog 36 #[v, .string sep] w fun e w' => e = .returned (.string ⟨(Lib.join (l.map (·.data.toList)) sep.data.toList).toArray⟩) ∧ Below w.heap.size w w' := by
  have hcell := fun (g : Nat) (e : v.ownBlock = some g) (j : Nat) (u : Value) hu => World.ownsRow.cells h (g := g) e j u hu
  obtain ⟨h0, h1⟩ := h
  rcases h1 with ⟨rfl, hz⟩ | ⟨g, cap, cur, rfl, hb, hh, hcap, hr⟩
  · obtain rfl : l = [] := List.eq_nil_of_length_eq_zero hz
    exact (Tryd.strings_Join_none none 0 sep w).mono fun e w' ⟨h1, h2⟩ => ⟨h1, h2 ▸ Below.refl _ _⟩
  · refine Tryd.strings_Join g 0 cap l sep w (fun j x hx => ?_) (lt_of_block hh) (by omega) hcap hs
    have h2 := hcell g rfl j (.string x) (by rw [List.getElem?_map, hx]; rfl)
    rw [Addr.add_lit] at h2
    simpa using h2

theorem join_snoc (xs : List (List UInt8)) (y sep : List UInt8) : Lib.join (xs ++ [y]) sep = Lib.join xs sep ++ (if 0 < xs.length then sep else []) ++ y := by
  cases xs with
  | nil => simp [Lib.join, List.intercalate]
  | cons x r =>
    rw [List.cons_append, Lib.join_cons, Lib.join_cons, if_pos (by simp)]
    unfold Lib.joinTail
    simp [List.append_assoc]
/-- The texts of the first needs. -/
def needTs (l : List De) (k : Nat) : List ByteArray := (l.take k).map fun n => ⟨(needT n).toArray⟩
theorem needTs_next {l : List De} {k : Nat} (h : k < l.length) : needTs l (k + 1) = needTs l k ++ [⟨(needT (l.getD k zero)).toArray⟩] := by
  unfold needTs
  rw [List.take_succ_eq_append_getElem h, List.map_append]
  congr 1
  rw [List.getD_eq_getElem?_getD, List.getElem?_eq_getElem h]
  rfl
theorem needTs_len {l : List De} {k : Nat} (h : k ≤ l.length) : (needTs l k).length = k := by
  unfold needTs
  rw [List.length_map, List.length_take]
  omega
theorem needTs_join (l : List De) : ∀ k, k ≤ l.length → Lib.join ((needTs l k).map (·.data.toList)) [32, 43, 32] = needsT l k := by
  intro k
  induction k with
  | zero => intro _; simp [needTs, needsT, Lib.join_nil]
  | succ k ih =>
    intro hk
    rw [needTs_next (by omega), List.map_append, List.map_cons, List.map_nil, join_snoc, ih (by omega), needsT_next, List.length_map, needTs_len (by omega)]
    rfl
/-- The texts of the first ways. -/
def wayTs (w : List (List De)) (k : Nat) : List ByteArray := (w.take k).map fun l => ⟨(needsT l l.length).toArray⟩
theorem wayTs_next {w : List (List De)} {k : Nat} (h : k < w.length) : wayTs w (k + 1) = wayTs w k ++ [⟨(needsT (w.getD k []) (w.getD k []).length).toArray⟩] := by
  unfold wayTs
  rw [List.take_succ_eq_append_getElem h, List.map_append]
  congr 1
  rw [List.getD_eq_getElem?_getD, List.getElem?_eq_getElem h]
  rfl
theorem wayTs_len {w : List (List De)} {k : Nat} (h : k ≤ w.length) : (wayTs w k).length = k := by
  unfold wayTs
  rw [List.length_map, List.length_take]
  omega
theorem wayTs_join (w : List (List De)) : ∀ k, k ≤ w.length → Lib.join ((wayTs w k).map (·.data.toList)) [32, 124, 32] = waysT w k := by
  intro k
  induction k with
  | zero => intro _; simp [wayTs, waysT, Lib.join_nil]
  | succ k ih =>
    intro hk
    rw [wayTs_next (by omega), List.map_append, List.map_cons, List.map_nil, join_snoc, ih (by omega), waysT_next, List.length_map, wayTs_len (by omega)]
    rfl

theorem joinN_any (v : Value) (base : Nat) (x : List De) (hx : x.length ≤ 6) (w : World) (h : OwnS w base v (needTs x x.length)) (hs : (needsT x x.length).length ≤ 52 * x.length) :
    Calls Tryd.prog 36 #[v, .string ⟨#[32, 43, 32]⟩] w fun e w' => e = .returned (.string ⟨(needsT x x.length).toArray⟩) ∧ Below w.heap.size w w' := by
  have e1 : (⟨#[32, 43, 32]⟩ : ByteArray).data.toList = [32, 43, 32] := rfl
  have hn := needTs_len (l := x) (Nat.le_refl _)
  have hj := needTs_join x x.length (Nat.le_refl _)
  have h1 := join_any v base (needTs x x.length) ⟨#[32, 43, 32]⟩ w h (by omega) (by rw [e1, hj]; omega)
  rw [e1, hj] at h1
  exact h1
theorem joinW_any (v : Value) (base : Nat) (l : List (List De)) (hl : l.length ≤ 6) (w : World) (h : OwnS w base v (wayTs l l.length)) (hs : (waysT l l.length).length ≤ 315 * l.length) :
    Calls Tryd.prog 36 #[v, .string ⟨#[32, 124, 32]⟩] w fun e w' => e = .returned (.string ⟨(waysT l l.length).toArray⟩) ∧ Below w.heap.size w w' := by
  have e1 : (⟨#[32, 124, 32]⟩ : ByteArray).data.toList = [32, 124, 32] := rfl
  have hn := wayTs_len (w := l) (Nat.le_refl _)
  have hj := wayTs_join l l.length (Nat.le_refl _)
  have h1 := join_any v base (wayTs l l.length) ⟨#[32, 124, 32]⟩ w h (by omega) (by rw [e1, hj]; omega)
  rw [e1, hj] at h1
  exact h1
/-- While rows of texts grow: what was made since the world w, and the row. -/
structure Sx (w : World) (v : Value) (ls : List ByteArray) (W : World) : Prop where
  below : Below w.heap.size w W
  own : OwnS W w.heap.size v ls
theorem Sx.next {w W W' : World} {v : Value} {ls : List ByteArray} (h : Sx w v ls W) (hb : Below W.heap.size W W') : Sx w v ls W' :=
  ⟨h.below.trans (hb.mono h.below.size), h.own.keep fun g hg => hb.block g (h.own.lt hg).2⟩
theorem Sx.app {w W W2 : World} {v v2 : Value} {ls ls2 : List ByteArray} (h : Sx w v ls W) (o : Obj) (h2 : OwnS W2 w.heap.size v2 ls2) (hg : (W.alloc o).grownBy W2 v.ownBlock) : Sx w v2 ls2 W2 := by
  have hb : Below W.heap.size W (W.alloc o) := (Below.refl _ _).alloc (Nat.le_refl _) _
  exact ⟨(h.below.trans (hb.mono h.below.size)).grown hg (Nat.le_trans h.below.size hb.size) (fun k e => (h.own.lt e).1), h2⟩
theorem sx_made (W : World) (m : Nat) (hm : m ≤ 6) : Sx W (.slice (some ⟨W.heap.size, 0, none⟩) 0 m) [] (W.alloc (mkS m)) :=
  ⟨(Below.refl _ _).alloc (Nat.le_refl _) _, World.ownsRow_made W _ m (Nat.le_refl _) (by unfold maxLen; omega) (size_madeCells _ _)⟩

set_option maxRecDepth 100000 in
set_option maxHeartbeats 4000000 in
theorem text_any (B : Option Addr) (cap : Nat) (l : List (List De)) (hl : l.length ≤ 6) (hs : ∀ x ∈ l, x.length ≤ 6 ∧ ∀ t ∈ x, Small t) (w : World) (hB : WAt w B l) (hw : Oke w) :
    Calls Tryd.prog 19 #[.slice B l.length cap] w fun e w' => e = .returned (.string ⟨(textW l).toArray⟩) ∧ Below w.heap.size w w' := by
  have HS := Lib.hid hs
  have HW : Hid (textW l = waysT l l.length) := Lib.hid rfl
  rw [HW.out]
  have HB := Lib.hid hB
  have HO := Lib.hid hw
  have HX0 := Lib.hid (sx_made w l.length hl)
  have hmk := run_mkS l.length hl w
  have HL6 := Lib.hid hl
  clear hB hw hs HW hl
  go_enter Tryd.func19, Tryd.ntmps19
  go_wp2_with fail
  generalize w.alloc (mkS l.length) = W0 at *
  generalize hv0 : Value.slice (some ⟨w.heap.size, 0, none⟩) 0 l.length = v0 at *
  go_loopw [3, 14] (fun v i wr => ∃ j : Nat, j ≤ l.length ∧ i = .int .i64 (j : Int) ∧ Hid (Sx w v (wayTs l j) wr)) (fun _ i _ => l.length - (intOf i).toNat)
  case atStart => exact ⟨0, Nat.zero_le _, rfl, HX0⟩
  case round =>
    obtain ⟨j, hj, rfl, HX⟩ := hrel
    obtain ⟨W1, rfl⟩ : ∃ W1, W1 = wr := ⟨_, rfl⟩
    by_cases hlt : j < l.length
    · obtain ⟨b, off, Aj, cj, rfl, hbl, hc0, hdj⟩ := HB.out j hlt
      have hc := (HX.out.below.cell (p := ⟨b, off + j, none⟩) hbl).trans hc0
      have hlt' : (j : Int) < (l.length : Int) := by omega
      have hj0 : (0 : Int) ≤ (j : Int) := by omega
      have hm := HS.out _ (getW_mem hlt)
      have HSj := Lib.hid hm.2
      have h6 := hm.1
      have HE := Lib.hid (wayTs_next hlt)
      have hwl := wayTs_len (w := l) hj
      generalize wayTs l j = ts at *
      generalize l.getD j [] = x at *
      have HD := Lib.hid hdj
      have HSb := Lib.hid (needsT_le HSj.out x.length (Nat.le_refl _))
      have HY0 := Lib.hid (sx_made W1 x.length h6)
      have hmk2 := run_mkS x.length h6 W1
      have hl6 := HL6.out
      clear hm hdj hc0 hbl
      go_wp2_with fail
      clear hc
      generalize W1.alloc (mkS x.length) = W3 at *
      generalize hv1 : Value.slice (some ⟨W1.heap.size, 0, none⟩) 0 x.length = v1 at *
      go_loopw [6, 23] (fun v i wr => ∃ k : Nat, k ≤ x.length ∧ i = .int .i64 (k : Int) ∧ Hid (Sx W1 v (needTs x k) wr)) (fun _ i _ => x.length - (intOf i).toNat)
      case atStart => exact ⟨0, Nat.zero_le _, rfl, HY0⟩
      case round =>
        obtain ⟨k, hk, rfl, HY⟩ := hrel
        obtain ⟨Ar, cr, hvr⟩ := HY.out.own.slice
        rw [needTs_len hk] at hvr
        have HB3 := Lib.hid (HX.out.below.trans (HY.out.below.mono HX.out.below.size))
        by_cases hlk : k < x.length
        · obtain ⟨b1, off1, rfl, hb1, c0, c1, c2⟩ := HD.out.next HB3.out k hlk
          have hlk' : (k : Int) < (x.length : Int) := by omega
          have hk0 : (0 : Int) ≤ (k : Int) := by omega
          have HEk := Lib.hid (needTs_next hlk)
          have hsm := HSj.out _ (getD_mem hlk)
          have hnl := needTs_len (l := x) hk
          generalize needTs x k = tk at *
          generalize x.getD k zero = n at *
          have HT := fun W hW => Lib.hid (textN_any n hsm W hW)
          have HO3 := Lib.hid (HO.out.next HB3.out)
          have hb4 := nbox_below wr n.1 n.2.1 n.2.2
          have HO4 := Lib.hid (HO3.out.next hb4)
          have HY4 := Lib.hid (HY.out.next hb4)
          have hbx := nbox_at wr n.1 n.2.1 n.2.2
          clear hb4 HO3 HY hsm HB3
          generalize needT n = tn at *
          obtain ⟨k0, o0, m0⟩ := n
          unfold needBox at HO4 HY4 hbx
          dsimp only at HT c0 c1 c2 HO4 HY4 hbx
          subst hvr
          go_upto_region 9 with fail
          clear c0 c1 c2
          generalize wr.alloc (.cells #[.int .i64 k0, .int .i64 o0, .int .i64 m0] 50) = W4 at *
          generalize wr.heap.size = g at *
          obtain ⟨c0, c1, c2⟩ := hbx
          go_wp2_with fail
          refine (HT _ HO4.out).out.mono ?_
          rintro e w5 ⟨rfl, hb5⟩
          have HY5 := Lib.hid (HY4.out.next hb5)
          have hown := HY5.out.own
          have hbase := HY5.out.below.size
          have Hap := fun (v2 : Value) (W2 : World) (h1 : OwnS W2 W1.heap.size v2 (tk ++ [⟨tn.toArray⟩])) (h2 : (w5.alloc (.cells #[.string ⟨tn.toArray⟩] 9)).grownBy W2 (Value.slice Ar k cr).ownBlock) => HY5.out.app (.cells #[.string ⟨tn.toArray⟩] 9) h1 h2
          clear hb5 HY4 HO4 HT c0 c1 c2
          go_wp2_with (
            at_builtin
            refine wpList_appS (by rfl) (.tmp 27) (.tmp 30) (by rfl) W1.heap.size 1 (.slice Ar k cr) tk ⟨tn.toArray⟩ (by rfl) hown (by rfl) (by omega) hbase ?_)
          intro v2 W6 hv2 hg2
          have HY6 := Lib.hid (Hap v2 W6 hv2 ⟨hg2.os, hg2.tape, hg2.output, hg2.size, hg2.block⟩)
          clear hown hv2 hg2 Hap HY5
          go_wp2
          go_roundw
          case rel => exact ⟨k + 1, by omega, by go_num, by rw [HEk.out]; exact HY6⟩
          case measure => simp [intOf]; omega
        · obtain rfl : k = x.length := by omega
          subst hvr
          have HX3 := Lib.hid (HX.out.next HY.out.below)
          obtain ⟨Aw, cw, hvw⟩ := HX3.out.own.slice
          rw [hwl] at hvw
          have HJn := Lib.hid (joinN_any _ _ x h6 wr HY.out.own HSb.out)
          generalize needsT x x.length = nt at *
          clear HY HB3 HSb
          subst hvw
          go_wp2_with fail
          refine HJn.out.mono ?_
          rintro e w5 ⟨rfl, hb5⟩
          have HX5 := Lib.hid (HX3.out.next hb5)
          have hown := HX5.out.own
          have hbase := HX5.out.below.size
          have Hap := fun (v2 : Value) (W2 : World) (h1 : OwnS W2 w.heap.size v2 (ts ++ [⟨nt.toArray⟩])) (h2 : (w5.alloc (.cells #[.string ⟨nt.toArray⟩] 9)).grownBy W2 (Value.slice Aw j cw).ownBlock) => HX5.out.app (.cells #[.string ⟨nt.toArray⟩] 9) h1 h2
          clear hb5 HX3 HJn HX
          go_wp2_with (
            at_builtin
            refine wpList_appS (by rfl) (.tmp 33) (.tmp 36) (by rfl) w.heap.size 1 (.slice Aw j cw) ts ⟨nt.toArray⟩ (by rfl) hown (by rfl) (by omega) hbase ?_)
          intro v2 W6 hv2 hg2
          have HX6 := Lib.hid (Hap v2 W6 hv2 ⟨hg2.os, hg2.tape, hg2.output, hg2.size, hg2.block⟩)
          clear hown hv2 hg2 Hap HX5
          go_wp2
          go_roundw
          case rel => exact ⟨j + 1, by omega, by go_num, by rw [HE.out]; exact HX6⟩
          case measure => simp [intOf]; omega
    · obtain rfl : j = l.length := by omega
      have HJn := Lib.hid (joinW_any _ _ l HL6.out W1 HX.out.own (waysT_le HS.out l.length (Nat.le_refl _)))
      go_wp2_with fail
      refine HJn.out.mono ?_
      rintro e w5 ⟨rfl, hb5⟩
      have HX5 := Lib.hid (HX.out.next hb5)
      clear hb5 HX HJn
      go_wp2
      go_ret
      exact ⟨rfl, HX5.out.below⟩
end Go.Proofs.YtigjeeedobnmhaaDoor.need
