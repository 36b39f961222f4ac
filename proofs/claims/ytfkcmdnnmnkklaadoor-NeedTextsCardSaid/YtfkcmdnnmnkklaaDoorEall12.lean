/-
  Texts of one claim in one file: Lives, EPut. Each has its own sentence, with its conditions.
-/
import Derived.Test.YtfkcmdnnmnkklaaDoorEall11
import Derived.Test.YtfkcmdnnmnkklaaDoorEall6
import Derived.Test.YtfkcmdnnmnkklaaDoorEall10
import Derived.Test.YtfkcmdnnmnkklaaDoorEall2
import Derived.StillTailTactics
/-
  Opening a reader; the calls on what is not there; and that numbers are put and read: the common end of all these statements. No condition.
-/
namespace Go.Proofs.YtfkcmdnnmnkklaaDoor.octet
open Go.RowKit Go.ChangeShapes
set_option linter.unusedVariables false

set_option maxHeartbeats 400000 in
theorem open_any (w : World) (s : ByteArray) :
    Calls Tryd.prog 36 #[.string s] w fun e w' => e = .returned (.pointer (some ⟨w.heap.size, 0, none⟩)) ∧ InAt w' w.heap.size ⟨s.data.toList, 0⟩ ∧ Below w.heap.size w w' ∧ w'.heap.size = w.heap.size + 1 := by
  go_enter Tryd.func36, Tryd.ntmps36
  go_wp2
  go_ret
  refine ⟨rfl, ?_, (Below.refl _ _).alloc (Nat.le_refl _) _, by simp⟩
  exact heap_alloc_new w _

theorem out_new (w : World) : OutAt (w.alloc (.cells #[.slice none 0 0] 65)) (w.heap.size + 1) w.heap.size [] :=
  ⟨.slice none 0 0, heap_alloc_new w _, World.ownsRow_nil _ _ _ _, by omega, by simp⟩

theorem r1 : rdNum ⟨[172, 2, 1], 0⟩ = (300, ⟨[1], 0⟩) := rfl
theorem r2 : rdInt ⟨[1], 0⟩ = (-1, ⟨[], 0⟩) := rfl
theorem r3 : rdByte ⟨[], 0⟩ = (0, ⟨[], 3⟩) := rfl

set_option maxHeartbeats 400000 in
theorem byte_nil (w : World) (n : Int) : Calls Tryd.prog 55 #[.pointer none, .int .i64 n] w fun e w' => e = .returned (.tuple #[]) ∧ w = w' := by
  go_enter Tryd.func55, Tryd.ntmps55
  go_wp2
  go_end0
  exact ⟨rfl, rfl⟩
set_option maxHeartbeats 400000 in
theorem num_nil (w : World) (n : Nat) (hn : Fits n) : Calls Tryd.prog 30 #[.pointer none, .int .u64 (n : Int)] w fun e w' => e = .returned (.tuple #[]) ∧ w = w' := by
  go_enter Tryd.func30, Tryd.ntmps30
  go_wp2
  go_loopw [1] (fun t wr => ∃ (m : Nat), t = .int .u64 (m : Int) ∧ Fits m ∧ w = wr) (fun t _ => (intOf t).toNat)
  case atStart => exact ⟨n, rfl, hn, rfl⟩
  case round =>
    obtain ⟨m, rfl, hm, rfl⟩ := hrel
    by_cases hlt : m < 128
    · go_wp2_with fail
      refine (byte_nil _ _).mono ?_
      rintro e w1 ⟨rfl, rfl⟩
      go_wp2
      go_end0
      exact ⟨rfl, rfl⟩
    · go_wp2_with fail
      rw [or_and_u64 m hm]
      refine (byte_nil _ _).mono ?_
      rintro e w1 ⟨rfl, rfl⟩
      go_wp2
      refine ⟨⟨m / 128, ?_, ?_, by first | rfl | trivial⟩, ?_⟩
      · congr 1
      · unfold Fits at hm ⊢; omega
      · simp [intOf]; omega
set_option maxHeartbeats 400000 in
theorem int_nil (w : World) (n : Int) (h1 : -9223372036854775808 ≤ n) (h2 : n ≤ 9223372036854775807) : Calls Tryd.prog 100 #[.pointer none, .int .i64 n] w fun e w' => e = .returned (.tuple #[]) ∧ w = w' := by
  by_cases hlt : n < 0
  · go_enter Tryd.func100, Tryd.ntmps100
    go_wp2_with fail
    rw [zig_neg n h1 hlt]
    refine (num_nil _ (zig n) (zig_lt h1 h2)).mono ?_
    rintro e w1 ⟨rfl, rfl⟩
    go_wp2
    refine bodyPost_ret (results_none rfl _ _ _) rfl ?_
    exact ⟨rfl, rfl⟩
  · go_enter Tryd.func100, Tryd.ntmps100
    go_wp2_with fail
    rw [zig_pos n (by omega)]
    refine (num_nil _ (zig n) (zig_lt h1 h2)).mono ?_
    rintro e w1 ⟨rfl, rfl⟩
    go_wp2
    go_end0
    exact ⟨rfl, rfl⟩
set_option maxHeartbeats 400000 in
theorem done_nil (w : World) : Calls Tryd.prog 32 #[.pointer none] w fun e w' => e = .returned (.string ⟨#[]⟩) ∧ w = w' := by
  go_enter Tryd.func32, Tryd.ntmps32
  go_wp2
  go_ret
  exact ⟨rfl, rfl⟩
set_option maxHeartbeats 400000 in
theorem left_nil (w : World) : Calls Tryd.prog 38 #[.pointer none] w fun e w' => e = .returned (.int .i64 0) ∧ w = w' := by
  go_enter Tryd.func38, Tryd.ntmps38
  go_wp2
  go_ret
  exact ⟨rfl, rfl⟩
set_option maxHeartbeats 400000 in
theorem err_nil (w : World) : Calls Tryd.prog 86 #[.pointer none] w fun e w' => e = .returned (.int .i64 7) ∧ w = w' := by
  go_enter Tryd.func86, Tryd.ntmps86
  go_wp2
  go_ret
  exact ⟨rfl, rfl⟩
set_option maxHeartbeats 400000 in
theorem fail_nil (w : World) (e : Int) : Calls Tryd.prog 119 #[.pointer none, .int .i64 e] w fun r w' => r = .returned (.tuple #[]) ∧ w = w' := by
  go_enter Tryd.func119, Tryd.ntmps119
  go_wp2
  refine bodyPost_ret (results_none rfl _ _ _) rfl ?_
  exact ⟨rfl, rfl⟩
set_option maxHeartbeats 400000 in
theorem next_nil (w : World) : Calls Tryd.prog 118 #[.pointer none] w fun r w' => r = .returned (.int .u8 0) ∧ w = w' := by
  go_enter Tryd.func118, Tryd.ntmps118
  go_wp2_with fail
  refine (left_nil _).mono ?_
  rintro e w1 ⟨rfl, rfl⟩
  go_wp2_with fail
  refine (fail_nil _ _).mono ?_
  rintro e w1 ⟨rfl, rfl⟩
  go_wp2
  go_ret
  exact ⟨rfl, rfl⟩
set_option maxHeartbeats 400000 in
theorem byteIn_nil (w : World) : Calls Tryd.prog 106 #[.pointer none] w fun r w' => r = .returned (.int .i64 0) ∧ w = w' := by
  go_enter Tryd.func106, Tryd.ntmps106
  go_wp2_with fail
  refine (next_nil _).mono ?_
  rintro e w1 ⟨rfl, rfl⟩
  go_wp2
  go_ret
  exact ⟨rfl, rfl⟩
set_option maxHeartbeats 400000 in
set_option maxRecDepth 100000 in
theorem numIn_nil (w : World) : Calls Tryd.prog 105 #[.pointer none] w fun r w' => r = .returned (.int .u64 0) ∧ w = w' := by
  go_enter Tryd.func105, Tryd.ntmps105
  go_wp2
  go_loopw [3, 6] (fun n k wr => k = .int .i64 0 ∧ n = .int .u64 0 ∧ w = wr) (fun _ k _ => 9 - (intOf k).toNat)
  case atStart => exact ⟨rfl, rfl, rfl⟩
  case round =>
    obtain ⟨rfl, rfl, rfl⟩ := hrel
    go_wp2_with fail
    refine (next_nil _).mono ?_
    rintro e w1 ⟨rfl, rfl⟩
    go_wp2_with fail
    refine (err_nil _).mono ?_
    rintro e w1 ⟨rfl, rfl⟩
    go_wp2
    go_ret
    exact ⟨rfl, rfl⟩
set_option maxHeartbeats 400000 in
theorem intIn_nil (w : World) : Calls Tryd.prog 135 #[.pointer none] w fun r w' => r = .returned (.int .i64 0) ∧ w = w' := by
  have hand := and1_u64 0 (by omega)
  go_enter Tryd.func135, Tryd.ntmps135
  go_wp2_with fail
  refine (numIn_nil _).mono ?_
  rintro e w1 ⟨rfl, rfl⟩
  go_wp2
  go_ret
  exact ⟨rfl, rfl⟩
end Go.Proofs.YtfkcmdnnmnkklaaDoor.octet

/-
  The program's own bytes of a wait (typed over the code of 5ef5b61). The tables must lie where their initialisers lay them.
-/
namespace Go.Proofs.YtfkcmdnnmnkklaaDoor.need
open Go.RowKit Go.ChangeShapes
open Go.Proofs.YtfkcmdnnmnkklaaDoor.objs (De zero CellsAt DAt chk chk_zero)
open Go.Proofs.YtfkcmdnnmnkklaaDoor.octet (OutAt Frm Spare NoBytes num num_keep byte_keep done_any Fits bof bof_nat num_length_le)
set_option linter.unusedVariables false

/-- While a need is put: the writer at bo holds L, the need stands at g. -/
structure Pn (w : World) (base bo g : Nat) (k a b : Int) (L : List UInt8) (W : World) : Prop where
  out : OutAt W base bo L
  box : W.heap[g]? = some (needBox k a b)
  ne : g ≠ bo
  frm : Frm base bo w W
theorem noBytes_need (k a b : Int) : NoBytes (needBox k a b) := fun cur q h => by
  unfold needBox at h
  injection h with _ h2 _
  exact absurd h2 (by decide)
theorem Pn.next {w W W' : World} {base bo g : Nat} {k a b : Int} {L L' : List UInt8} (h : Pn w base bo g k a b L W) (ho : OutAt W' base bo L') (hf : Frm base bo W W') (hs : Spare bo W W') : Pn w base bo g k a b L' W' :=
  ⟨ho, hs _ _ h.box h.ne (noBytes_need k a b), h.ne, h.frm.trans hf⟩
theorem Pn.cells {w W : World} {base bo g : Nat} {k a b : Int} {L : List UInt8} (h : Pn w base bo g k a b L W) : W.cell? ⟨g, 0, none⟩ = some (.int .i64 k) ∧ W.cell? ⟨g, 1, none⟩ = some (.int .i64 a) ∧ W.cell? ⟨g, 2, none⟩ = some (.int .i64 b) := by
  unfold World.cell?
  rw [h.box]
  exact ⟨rfl, rfl, rfl⟩
theorem pn_new {w : World} {base bo : Nat} {L : List UInt8} (k a b : Int) (ho : OutAt w base bo L) : Pn w base bo w.heap.size k a b L (w.alloc (needBox k a b)) := by
  have hb := nbox_below w k a b
  exact ⟨ho.kept hb (Nat.le_refl _), heap_alloc_new w _, Nat.ne_of_gt ho.lt, Frm.of_below (hb.mono ho.base_le)⟩

set_option maxRecDepth 100000 in
set_option maxHeartbeats 2000000 in
theorem putN_any (w : World) (base bo : Nat) (L : List UInt8) (n : De) (hs : Slim9 n) (ho : OutAt w base bo L) (hl : L.length + 21 ≤ 140737488355328) :
    Calls Tryd.prog 31 #[.pointer (some ⟨bo, 0, none⟩), .agg #[.int .i64 n.1, .int .i64 n.2.1, .int .i64 n.2.2]] w fun e w' => e = .returned (.tuple #[]) ∧ OutAt w' base bo (L ++ encN n) ∧ Frm base bo w w' := by
  obtain ⟨k, a, b⟩ := n
  obtain ⟨hk, ha, hb⟩ := hs
  dsimp only at hk ha hb ⊢
  obtain ⟨m, rfl⟩ : ∃ m : Nat, a = (m : Int) := ⟨a.toNat, by omega⟩
  obtain ⟨n, rfl⟩ : ∃ n : Nat, b = (n : Int) := ⟨b.toNat, by omega⟩
  have HP0 := Lib.hid (pn_new k (m : Int) (n : Int) ho)
  have HY := Lib.hid (byte_keep _ base bo L k HP0.out.out (by omega))
  have hB : bof k = UInt8.ofNat k.toNat := by
    have : ((k.toNat : Nat) : Int) = k := by omega
    rw [← bof_nat, this]
  have HEn : Hid (L ++ encN (k, (m : Int), (n : Int)) = ((L ++ [bof k]) ++ num m) ++ pieceN k (n : Int)) := Lib.hid (by rw [hB]; simp [encN])
  have hlen : (L ++ [bof k]).length + 20 ≤ 140737488355328 := by rw [List.length_append]; simp; omega
  rw [HEn.out]
  generalize L ++ [bof k] = L1 at *
  have hl1 := num_length_le m
  have hm1 : m ≤ 1000 := by omega
  have hn1 : n ≤ 1000 := by omega
  have hm0 : (0 : Int) ≤ (m : Int) := by omega
  have hn0 : (0 : Int) ≤ (n : Int) := by omega
  have HN1 := fun W (hW : OutAt W base bo L1) => Lib.hid (num_keep W base bo L1 m (by unfold Fits; omega) hW (by omega))
  have HN2 := fun W (hW : OutAt W base bo (L1 ++ num m)) => Lib.hid (num_keep W base bo (L1 ++ num m) n (by unfold Fits; omega) hW (by rw [List.length_append]; omega))
  have HC := fun W => Lib.hid (counts_any k W)
  unfold needBox at HP0 HY
  obtain ⟨c0, c1, c2⟩ := HP0.out.cells
  clear hB HEn ho hl hl1 hlen
  by_cases h3 : 3 < k
  · have HE : Hid (pieceN k (n : Int) = num n) := Lib.hid (by unfold pieceN; rw [if_pos h3]; rfl)
    rw [HE.out]
    rw [decide_eq_true (by omega)] at HC
    clear h3 hk HE
    go_enter Tryd.func31, Tryd.ntmps31
    go_wp2_with fail
    refine HY.out.mono ?_
    rintro e w1 ⟨rfl, x1, x2, x3⟩
    have HP1 := Lib.hid (HP0.out.next x1 x2 x3)
    clear x1 x2 x3 c0 c1 c2 HP0 HY
    obtain ⟨c0, c1, c2⟩ := HP1.out.cells
    go_wp2_with fail
    refine (HN1 _ HP1.out.out).out.mono ?_
    rintro e w2 ⟨rfl, x1, x2, x3⟩
    have HP2 := Lib.hid (HP1.out.next x1 x2 x3)
    clear x1 x2 x3 c0 c1 c2 HP1 HN1
    obtain ⟨c0, c1, c2⟩ := HP2.out.cells
    go_wp2_with fail
    refine (HC _).out.mono ?_
    rintro e w3 ⟨rfl, rfl⟩
    go_wp2_with fail
    refine (HN2 _ HP2.out.out).out.mono ?_
    rintro e w3 ⟨rfl, x1, x2, x3⟩
    have HP3 := Lib.hid (HP2.out.next x1 x2 x3)
    clear x1 x2 x3 c0 c1 c2 HP2 HN2
    go_wp2
    go_end0
    exact ⟨rfl, HP3.out.out, HP3.out.frm⟩
  · have HE : Hid (pieceN k (n : Int) = []) := Lib.hid (by unfold pieceN; rw [if_neg h3])
    rw [HE.out, List.append_nil]
    rw [decide_eq_false (by omega)] at HC
    clear h3 hk HE HN2
    go_enter Tryd.func31, Tryd.ntmps31
    go_wp2_with fail
    refine HY.out.mono ?_
    rintro e w1 ⟨rfl, x1, x2, x3⟩
    have HP1 := Lib.hid (HP0.out.next x1 x2 x3)
    clear x1 x2 x3 c0 c1 c2 HP0 HY
    obtain ⟨c0, c1, c2⟩ := HP1.out.cells
    go_wp2_with fail
    refine (HN1 _ HP1.out.out).out.mono ?_
    rintro e w2 ⟨rfl, x1, x2, x3⟩
    have HP2 := Lib.hid (HP1.out.next x1 x2 x3)
    clear x1 x2 x3 c0 c1 c2 HP1 HN1
    obtain ⟨c0, c1, c2⟩ := HP2.out.cells
    go_wp2_with fail
    refine (HC _).out.mono ?_
    rintro e w3 ⟨rfl, rfl⟩
    go_wp2
    go_end0
    exact ⟨rfl, HP2.out.out, HP2.out.frm⟩

/-- Between two that are put. -/
structure Pw (w : World) (A : Option Addr) (l : List (List De)) (bo : Nat) (L : List UInt8) (W : World) : Prop where
  out : OutAt W (bo + 1) bo L
  list : WAt w A l
  below : Below w.heap.size w W
  old : w.heap.size ≤ bo
theorem Pw.at {w W : World} {A : Option Addr} {l : List (List De)} {bo : Nat} {L : List UInt8} (h : Pw w A l bo L W) : WAt W A l := h.list.next h.below
theorem Pw.next {w W W' : World} {A : Option Addr} {l : List (List De)} {bo : Nat} {L L' : List UInt8} (h : Pw w A l bo L W) (ho : OutAt W' (bo + 1) bo L') (hf : Frm (bo + 1) bo W W') : Pw w A l bo L' W' :=
  ⟨ho, h.list, h.below.trans (hf.below h.old (Nat.le_succ_of_le h.old)), h.old⟩
theorem Pw.box {w W : World} {A : Option Addr} {l : List (List De)} {bo : Nat} {L : List UInt8} (h : Pw w A l bo L W) (o : Obj) : Pw w A l bo L (W.alloc o) := by
  have hb : Below W.heap.size W (W.alloc o) := (Below.refl _ _).alloc (Nat.le_refl _) _
  exact ⟨h.out.kept hb (Nat.le_refl _), h.list, h.below.trans (hb.mono h.below.size), h.old⟩
theorem slim9_of {d : List De} {l : List (List De)} (hd : (chk d).2 = 0) (h : chkW d l = 0) : ∀ x ∈ l, ∀ t ∈ x, Slim9 t := fun x hx t ht => by
  obtain ⟨h1, h2, _, h4, h5⟩ := need_small hd (((chkW_zero h).2.2 x hx).2.2 t ht)
  unfold Slim9
  omega

set_option maxRecDepth 100000 in
set_option maxHeartbeats 8000000 in
theorem put_good (A B : Option Addr) (capd cap : Nat) (d : List De) (l : List (List De)) (hd : (chk d).2 = 0) (hz : chkW d l = 0) (w : World) (hA : DAt w A d) (hB : WAt w B l) (hw : Oka w) :
    Calls Tryd.prog 13 #[.slice A d.length capd, .slice B l.length cap] w fun e w' => e = .returned (.tuple #[.string ⟨(encW l).toArray⟩, .int .i64 0]) ∧ Below w.heap.size w w' := by
  obtain ⟨_, h4, hall⟩ := chkW_zero hz
  have HC := Lib.hid (check_any A B capd cap d l (by have := (chk_zero hd).1; omega) w hA hB hw)
  rw [hz] at HC
  unfold ChkPost9 at HC
  have HL := Lib.hid (slim9_of hd hz)
  have HL4 := Lib.hid (fun x hx => (hall x hx).2.1)
  have HW : Hid (encW l = num l.length ++ encWs l l.length) := Lib.hid rfl
  rw [HW.out]
  have HB := Lib.hid hB
  clear hA hB hz hall HW hw hd
  go_enter Tryd.func13, Tryd.ntmps13
  go_wp2_with fail
  refine HC.out.mono ?_
  rintro e w1 ⟨rfl, hb1⟩
  go_upto_region 5 with fail
  have hbo := Go.Proofs.YtfkcmdnnmnkklaaDoor.octet.out_new w1
  have hb2 : Below w1.heap.size w1 (w1.alloc (.cells #[.slice none 0 0] 65)) := (Below.refl _ w1).alloc (Nat.le_refl _) _
  have HP0 : Hid (Pw w B l w1.heap.size [] (w1.alloc (.cells #[.slice none 0 0] 65))) := Lib.hid ⟨hbo, HB.out, hb1.trans (hb2.mono hb1.size), hb1.size⟩
  clear hbo hb1 hb2 HC
  generalize w1.alloc (.cells #[.slice none 0 0] 65) = W2 at *
  generalize w1.heap.size = bo at *
  have HN := Lib.hid (num_keep W2 (bo + 1) bo [] l.length (by unfold Fits; omega) HP0.out.out (by simp))
  go_wp2_with fail
  refine HN.out.mono ?_
  rintro e w3 ⟨rfl, x1, x2, x3⟩
  have HP1 := Lib.hid (HP0.out.next x1 x2)
  rw [List.nil_append] at HP1
  clear x1 x2 x3 HN HP0
  go_wp2_with fail
  go_loopw [27] (fun i wr => ∃ j : Nat, j ≤ l.length ∧ i = .int .i64 (j : Int) ∧ Hid (Pw w B l bo (num l.length ++ encWs l j) wr)) (fun i _ => l.length - (intOf i).toNat)
  case atStart => exact ⟨0, Nat.zero_le _, rfl, by simpa [encWs] using HP1⟩
  case round =>
    obtain ⟨j, hj, rfl, HS⟩ := hrel
    by_cases hlt : j < l.length
    · obtain ⟨b0, off, Aj, cj, rfl, hb, hc0, hdj⟩ := HB.out j hlt
      have hc := (HS.out.below.cell (p := ⟨b0, off + j, none⟩) hb).trans hc0
      have hlt' : (j : Int) < (l.length : Int) := by omega
      have hj0 : (0 : Int) ≤ (j : Int) := by omega
      have HSl := Lib.hid (HL.out _ (getW_mem hlt))
      have hx4 := HL4.out _ (getW_mem hlt)
      have HE : Hid (num l.length ++ encWs l (j + 1) = (num l.length ++ encWs l j) ++ (num (l.getD j []).length ++ encNs (l.getD j []) (l.getD j []).length)) := Lib.hid (by simp only [encWs, encWay, List.append_assoc])
      have hlen : (num l.length ++ encWs l j).length ≤ 1000 := by
        have h1 := num_length_le l.length
        have h2 := encWs_le (w := l) (fun x hx => by have := HL4.out x hx; omega) j hj
        rw [List.length_append]
        omega
      generalize num l.length ++ encWs l j = pre at *
      generalize l.getD j [] = x at *
      have HN1 := Lib.hid (num_keep wr (bo + 1) bo pre x.length (by unfold Fits; omega) HS.out.out (by omega))
      have HDw := Lib.hid hdj
      have HLn := Lib.hid hlen
      clear hdj hc0 hb hlen
      go_wp2_with fail
      refine HN1.out.mono ?_
      rintro e w4 ⟨rfl, y1, y2, y3⟩
      have HS1 := Lib.hid (HS.out.next y1 y2)
      clear y1 y2 y3 HN1 hc HS
      go_wp2_with fail
      go_loopw [38] (fun i wr => ∃ k : Nat, k ≤ x.length ∧ i = .int .i64 (k : Int) ∧ Hid (Pw w (some ⟨b0, off, none⟩) l bo ((pre ++ num x.length) ++ encNs x k) wr)) (fun i _ => x.length - (intOf i).toNat)
      case atStart => exact ⟨0, Nat.zero_le _, rfl, by simpa [encNs] using HS1⟩
      case round =>
        obtain ⟨k, hk, rfl, HK⟩ := hrel
        by_cases hlk : k < x.length
        · obtain ⟨b1, off1, rfl, hb1, c0, c1, c2⟩ := HDw.out.next HK.out.below k hlk
          have hlk' : (k : Int) < (x.length : Int) := by omega
          have hk0 : (0 : Int) ≤ (k : Int) := by omega
          have HSn := Lib.hid (HSl.out _ (getD_mem hlk))
          have HE2 : Hid ((pre ++ num x.length) ++ encNs x (k + 1) = ((pre ++ num x.length) ++ encNs x k) ++ encN (x.getD k zero)) := Lib.hid (by simp only [encNs, List.append_assoc])
          have hlen2 : ((pre ++ num x.length) ++ encNs x k).length + 21 ≤ 140737488355328 := by
            have h1 := num_length_le x.length
            have h2 := encNs_le x k
            have h3 := HLn.out
            rw [List.length_append, List.length_append]
            omega
          generalize (pre ++ num x.length) ++ encNs x k = pre2 at *
          generalize x.getD k zero = n at *
          have HP := fun W (hW : Pw w (some ⟨b0, off, none⟩) l bo pre2 W) => Lib.hid (putN_any W (bo + 1) bo pre2 n HSn.out hW.out hlen2)
          have HK1 := Lib.hid (HK.out.box (needBox n.1 n.2.1 n.2.2))
          have hbx := nbox_at wr n.1 n.2.1 n.2.2
          clear HK hlen2 HSn
          generalize encN n = en at *
          obtain ⟨k0, o0, m0⟩ := n
          unfold needBox at HK1 hbx
          dsimp only at HP c0 c1 c2 HK1 hbx
          go_upto_region 13 with fail
          clear c0 c1 c2
          generalize wr.alloc (.cells #[.int .i64 k0, .int .i64 o0, .int .i64 m0] 59) = W4 at *
          generalize wr.heap.size = g at *
          obtain ⟨c0, c1, c2⟩ := hbx
          go_wp2_with fail
          refine (HP _ HK1.out).out.mono ?_
          rintro e w5 ⟨rfl, x1, x2⟩
          have HK2 := Lib.hid (HK1.out.next x1 x2)
          clear x1 x2 c0 c1 c2 HP HK1
          go_wp2
          go_roundw
          case rel => exact ⟨k + 1, by omega, by go_num, by rw [HE2.out]; exact HK2⟩
          case measure => simp [intOf]; omega
        · obtain rfl : k = x.length := by omega
          go_wp2_with fail
          go_roundw
          case rel => exact ⟨j + 1, by omega, by go_num, by rw [HE.out, ← List.append_assoc]; exact HK⟩
          case measure => simp [intOf]; omega
    · obtain rfl : j = l.length := by omega
      have HD := Lib.hid (done_any wr (bo + 1) bo _ HS.out.out)
      have HBz := Lib.hid HS.out.below
      go_wp2_with fail
      refine HD.out.mono ?_
      rintro e w8 ⟨rfl, rfl⟩
      go_wp2
      go_ret2
      exact ⟨rfl, HBz.out⟩

set_option maxHeartbeats 1000000 in
theorem put_bad (A B : Option Addr) (capd cap : Nat) (d : List De) (l : List (List De)) (hd : d.length ≤ 64) (hz : chkW d l ≠ 0) (w : World) (hA : DAt w A d) (hB : WAt w B l) (hw : Oka w) :
    Calls Tryd.prog 13 #[.slice A d.length capd, .slice B l.length cap] w fun e w' => e = .returned (.tuple #[.string ⟨#[]⟩, .int .i64 ((chkW d l : Nat) : Int)]) ∧ Below w.heap.size w w' := by
  have HC := Lib.hid (check_any A B capd cap d l hd w hA hB hw)
  unfold ChkPost9 at HC
  have hn : (((chkW d l : Nat) : Int) != 0) = true := by simpa using hz
  clear hz hA hB hw
  generalize chkW d l = q at *
  go_enter Tryd.func13, Tryd.ntmps13
  go_wp2_with fail
  refine HC.out.mono ?_
  rintro e w1 ⟨rfl, hb⟩
  have HB := Lib.hid hb
  clear hb
  go_wp2_with fail
  go_ret2
  exact ⟨rfl, HB.out⟩
end Go.Proofs.YtfkcmdnnmnkklaaDoor.need
