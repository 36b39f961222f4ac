/-
  The program's own bytes of objects (typed over the code of 392f5a9). The table of names must lie where its initialiser lays it.
-/
import Derived.Test.YtaefkkhmhogpeaaDoorDCheck
import Derived.Test.YtaefkkhmhogpeaaDoorOutKeep
import Derived.Test.YtaefkkhmhogpeaaDoorLives
import Derived.StillTailTactics
namespace Go.Proofs.YtaefkkhmhogpeaaDoor.objs
open Go.RowKit Go.ChangeShapes
open Go.Proofs.YtaefkkhmhogpeaaDoor.octet (OutAt Frm Spare NoBytes num zig num_keep int_keep byte_keep done_any Fits bof bof_nat num_length_le)
open Go.Proofs.YtaefkkhmhogpeaaDoor.word (Word)
set_option linter.unusedVariables false

/-- While an object is put: the writer at bo holds L, the object stands at g. -/
structure Pd (w : World) (base bo g : Nat) (k a b : Int) (L : List UInt8) (W : World) : Prop where
  out : OutAt W base bo L
  box : W.heap[g]? = some (declBox k a b)
  ne : g ≠ bo
  frm : Frm base bo w W
theorem noBytes_decl (k a b : Int) : NoBytes (declBox k a b) := fun cur q h => by
  unfold declBox at h
  injection h with _ h2 _
  exact absurd h2 (by decide)
theorem Pd.next {w W W' : World} {base bo g : Nat} {k a b : Int} {L L' : List UInt8} (h : Pd w base bo g k a b L W) (ho : OutAt W' base bo L') (hf : Frm base bo W W') (hs : Spare bo W W') : Pd w base bo g k a b L' W' :=
  ⟨ho, hs _ _ h.box h.ne (noBytes_decl k a b), h.ne, h.frm.trans hf⟩
theorem Pd.cells {w W : World} {base bo g : Nat} {k a b : Int} {L : List UInt8} (h : Pd w base bo g k a b L W) : W.cell? ⟨g, 0, none⟩ = some (.int .i64 k) ∧ W.cell? ⟨g, 1, none⟩ = some (.int .i64 a) ∧ W.cell? ⟨g, 2, none⟩ = some (.int .i64 b) := by
  unfold World.cell?
  rw [h.box]
  exact ⟨rfl, rfl, rfl⟩
theorem pd_new {w : World} {base bo : Nat} {L : List UInt8} (k a b : Int) (ho : OutAt w base bo L) : Pd w base bo w.heap.size k a b L (w.alloc (declBox k a b)) := by
  have hb : Below w.heap.size w (w.alloc (declBox k a b)) := (Below.refl _ _).alloc (Nat.le_refl _) _
  exact ⟨ho.kept hb (Nat.le_refl _), heap_alloc_new w _, Nat.ne_of_gt ho.lt, Frm.of_below (hb.mono ho.base_le)⟩

/-- What the bytes of an object ask of its numbers. -/
def Slim (d : De) : Prop := (1 ≤ d.1 ∧ d.1 ≤ 7) ∧ (d.1 = 3 → 0 ≤ d.2.1 ∧ d.2.1 ≤ 1000) ∧ (d.1 = 6 → 0 ≤ d.2.1 ∧ d.2.1 ≤ 1000) ∧ (d.1 = 7 → Word d.2.1) ∧ (d.1 = 3 ∨ d.1 = 7 → 0 ≤ d.2.2 ∧ d.2.2 ≤ 1000)
theorem slim_of {l : List De} {d : De} (hl : l.length ≤ 32) (h : one l d = 0) : Slim d := by
  obtain ⟨hk, h3, h6, h7, _, _⟩ := one_zero h
  refine ⟨hk, fun e => ?_, fun e => ?_, fun e => (h7 e).1, fun e => ?_⟩
  · have := h3 e; omega
  · have := h6 e; omega
  · rcases e with e | e
    · have := h3 e; omega
    · have := fits_lt (h7 e).2; omega

set_option maxHeartbeats 2000000 in
theorem putD_any (w : World) (base bo : Nat) (L : List UInt8) (d : De) (hd : Slim d) (ho : OutAt w base bo L) (hl : L.length + 21 ≤ 140737488355328) :
    Calls Tryd.prog 52 #[.pointer (some ⟨bo, 0, none⟩), .agg #[.int .i64 d.1, .int .i64 d.2.1, .int .i64 d.2.2]] w fun e w' => e = .returned (.tuple #[]) ∧ OutAt w' base bo (L ++ encD d) ∧ Frm base bo w w' := by
  obtain ⟨k, a, b⟩ := d
  obtain ⟨hk, h3, h6, h7, h37⟩ := hd
  dsimp only at hk h3 h6 h7 h37 ⊢
  have HP0 := Lib.hid (pd_new k a b ho)
  have HY := Lib.hid (byte_keep _ base bo L k HP0.out.out (by omega))
  have hB : bof k = UInt8.ofNat k.toNat := by
    have : ((k.toNat : Nat) : Int) = k := by omega
    rw [← bof_nat, this]
  have HEn : Hid (L ++ encD (k, a, b) = (L ++ [bof k]) ++ (pieceA k a ++ pieceB k b)) := Lib.hid (by rw [hB]; simp [encD])
  have hlen : (L ++ [bof k]).length + 20 ≤ 140737488355328 := by rw [List.length_append]; simp; omega
  rw [HEn.out]
  generalize L ++ [bof k] = L1 at *
  unfold declBox at HP0 HY
  obtain ⟨c0, c1, c2⟩ := HP0.out.cells
  clear hB HEn ho hl
  have hk1 := hk.1
  have hk7 := hk.2
  by_cases e3 : k = 3
  · subst e3
    have hr := h3 rfl
    have hs := h37 (.inl rfl)
    obtain ⟨m, rfl⟩ : ∃ m : Nat, a = (m : Int) := ⟨a.toNat, by omega⟩
    obtain ⟨n, rfl⟩ : ∃ n : Nat, b = (n : Int) := ⟨b.toNat, by omega⟩
    have HA' : Hid (pieceA 3 (m : Int) = num m) := Lib.hid rfl
    have HB' : Hid (pieceB 3 (n : Int) = num n) := Lib.hid rfl
    rw [HA'.out, HB'.out, ← List.append_assoc]
    have hm1 : m ≤ 1000 := by omega
    have hn1 : n ≤ 1000 := by omega
    have hl1 := num_length_le m
    have HN1 := fun W (hW : OutAt W base bo L1) => Lib.hid (num_keep W base bo L1 m (by unfold Fits; omega) hW (by omega))
    have HN2 := fun W (hW : OutAt W base bo (L1 ++ num m)) => Lib.hid (num_keep W base bo (L1 ++ num m) n (by unfold Fits; omega) hW (by rw [List.length_append]; omega))
    clear h3 h6 h7 h37 hr hs hk hk1 hk7 HA' HB' hl1 hlen
    go_enter Tryd.func52, Tryd.ntmps52
    go_wp2_with fail
    refine HY.out.mono ?_
    rintro e w1 ⟨rfl, x1, x2, x3⟩
    have HP1 := Lib.hid (HP0.out.next x1 x2 x3)
    clear x1 x2 x3 c0 c1 c2 HP0 HY
    obtain ⟨c0, c1, c2⟩ := HP1.out.cells
    go_wp2_with fail
    refine (HN1 _ HP1.out.out).out.mono ?_
    rintro e w2 ⟨rfl, x1, x2, x3⟩
    have HP2 := Lib.hid (HP1.out.next x1 x2 x3)
    clear x1 x2 x3 c0 c1 c2 HP1 HN1
    obtain ⟨c0, c1, c2⟩ := HP2.out.cells
    go_wp2_with fail
    refine (HN2 _ HP2.out.out).out.mono ?_
    rintro e w3 ⟨rfl, x1, x2, x3⟩
    have HP3 := Lib.hid (HP2.out.next x1 x2 x3)
    clear x1 x2 x3 c0 c1 c2 HP2 HN2
    go_wp2
    go_end0
    exact ⟨rfl, HP3.out.out, HP3.out.frm⟩
  · by_cases e6 : k = 6
    · subst e6
      have hr := h6 rfl
      obtain ⟨m, rfl⟩ : ∃ m : Nat, a = (m : Int) := ⟨a.toNat, by omega⟩
      have HA' : Hid (pieceA 6 (m : Int) = num m) := Lib.hid rfl
      have HB' : Hid (pieceB 6 b = []) := Lib.hid rfl
      rw [HA'.out, HB'.out, List.append_nil]
      have hm1 : m ≤ 1000 := by omega
      have HN1 := fun W (hW : OutAt W base bo L1) => Lib.hid (num_keep W base bo L1 m (by unfold Fits; omega) hW (by omega))
      clear h3 h6 h7 h37 hr hk hk1 hk7 HA' HB' hlen e3
      go_enter Tryd.func52, Tryd.ntmps52
      go_wp2_with fail
      refine HY.out.mono ?_
      rintro e w1 ⟨rfl, x1, x2, x3⟩
      have HP1 := Lib.hid (HP0.out.next x1 x2 x3)
      clear x1 x2 x3 c0 c1 c2 HP0 HY
      obtain ⟨c0, c1, c2⟩ := HP1.out.cells
      go_wp2_with fail
      refine (HN1 _ HP1.out.out).out.mono ?_
      rintro e w2 ⟨rfl, x1, x2, x3⟩
      have HP2 := Lib.hid (HP1.out.next x1 x2 x3)
      clear x1 x2 x3 c0 c1 c2 HP1 HN1
      go_wp2
      go_end0
      exact ⟨rfl, HP2.out.out, HP2.out.frm⟩
    · by_cases e7 : k = 7
      · subst e7
        have hw := h7 rfl
        have hs := h37 (.inr rfl)
        obtain ⟨n, rfl⟩ : ∃ n : Nat, b = (n : Int) := ⟨b.toNat, by omega⟩
        have HA' : Hid (pieceA 7 a = num (zig a)) := Lib.hid rfl
        have HB' : Hid (pieceB 7 (n : Int) = num n) := Lib.hid rfl
        rw [HA'.out, HB'.out, ← List.append_assoc]
        have hn1 : n ≤ 1000 := by omega
        have hl1 := num_length_le (zig a)
        unfold Word at hw
        have HN1 := fun W (hW : OutAt W base bo L1) => Lib.hid (int_keep W base bo L1 a (by omega) (by omega) hW (by omega))
        have HN2 := fun W (hW : OutAt W base bo (L1 ++ num (zig a))) => Lib.hid (num_keep W base bo (L1 ++ num (zig a)) n (by unfold Fits; omega) hW (by rw [List.length_append]; omega))
        clear h3 h6 h7 h37 hw hs hk hk1 hk7 HA' HB' hl1 hlen e3 e6
        go_enter Tryd.func52, Tryd.ntmps52
        go_wp2_with fail
        refine HY.out.mono ?_
        rintro e w1 ⟨rfl, x1, x2, x3⟩
        have HP1 := Lib.hid (HP0.out.next x1 x2 x3)
        clear x1 x2 x3 c0 c1 c2 HP0 HY
        obtain ⟨c0, c1, c2⟩ := HP1.out.cells
        go_wp2_with fail
        refine (HN1 _ HP1.out.out).out.mono ?_
        rintro e w2 ⟨rfl, x1, x2, x3⟩
        have HP2 := Lib.hid (HP1.out.next x1 x2 x3)
        clear x1 x2 x3 c0 c1 c2 HP1 HN1
        obtain ⟨c0, c1, c2⟩ := HP2.out.cells
        go_wp2_with fail
        refine (HN2 _ HP2.out.out).out.mono ?_
        rintro e w3 ⟨rfl, x1, x2, x3⟩
        have HP3 := Lib.hid (HP2.out.next x1 x2 x3)
        clear x1 x2 x3 c0 c1 c2 HP2 HN2
        go_wp2
        go_end0
        exact ⟨rfl, HP3.out.out, HP3.out.frm⟩
      · have HA' : Hid (pieceA k a = []) := Lib.hid (by unfold pieceA; rw [if_neg (by omega), if_neg e7])
        have HB' : Hid (pieceB k b = []) := Lib.hid (by unfold pieceB; rw [if_neg (by omega)])
        rw [HA'.out, HB'.out, List.append_nil, List.append_nil]
        have d3 : (k == 3) = false := by simpa using e3
        have d6 : (k == 6) = false := by simpa using e6
        have d7 : (k == 7) = false := by simpa using e7
        clear h3 h6 h7 h37 hk hk1 hk7 HA' HB' e3 e6 e7 hlen
        go_enter Tryd.func52, Tryd.ntmps52
        go_wp2_with fail
        refine HY.out.mono ?_
        rintro e w1 ⟨rfl, x1, x2, x3⟩
        have HP1 := Lib.hid (HP0.out.next x1 x2 x3)
        clear x1 x2 x3 c0 c1 c2 HP0 HY
        obtain ⟨c0, c1, c2⟩ := HP1.out.cells
        go_wp2
        go_end0
        exact ⟨rfl, HP1.out.out, HP1.out.frm⟩

/-- Between two objects that are put. -/
structure Ps (w : World) (A : Option Addr) (l : List De) (bo : Nat) (L : List UInt8) (W : World) : Prop where
  out : OutAt W (bo + 1) bo L
  list : DAt w A l
  below : Below w.heap.size w W
  old : w.heap.size ≤ bo
theorem Ps.at {w W : World} {A : Option Addr} {l : List De} {bo : Nat} {L : List UInt8} (h : Ps w A l bo L W) : DAt W A l := h.list.next h.below
theorem Ps.next {w W W' : World} {A : Option Addr} {l : List De} {bo : Nat} {L L' : List UInt8} (h : Ps w A l bo L W) (ho : OutAt W' (bo + 1) bo L') (hf : Frm (bo + 1) bo W W') : Ps w A l bo L' W' :=
  ⟨ho, h.list, h.below.trans (hf.below h.old (Nat.le_succ_of_le h.old)), h.old⟩
theorem Ps.box {w W : World} {A : Option Addr} {l : List De} {bo : Nat} {L : List UInt8} (h : Ps w A l bo L W) (o : Obj) : Ps w A l bo L (W.alloc o) := by
  have hb : Below W.heap.size W (W.alloc o) := (Below.refl _ _).alloc (Nat.le_refl _) _
  exact ⟨h.out.kept hb (Nat.le_refl _), h.list, h.below.trans (hb.mono h.below.size), h.old⟩

set_option maxRecDepth 100000 in
set_option maxHeartbeats 4000000 in
theorem put_good (A : Option Addr) (cap : Nat) (l : List De) (hz : (chk l).2 = 0) (w : World) (hA : DAt w A l) (hw : Okd w) :
    Calls Tryd.prog 21 #[.slice A l.length cap] w fun e w' => e = .returned (.tuple #[.string ⟨(encL l).toArray⟩, .int .i64 0]) ∧ Below w.heap.size w w' := by
  obtain ⟨h32, hc, hall⟩ := chk_zero hz
  have HC := Lib.hid (check_any A cap l (by omega) w hA hw)
  rw [hc] at HC
  unfold ChkPost at HC
  have HL := Lib.hid (fun j hj => slim_of h32 (hall j hj))
  have HW : Hid (encL l = num l.length ++ encs l l.length) := Lib.hid rfl
  rw [HW.out]
  have HA := Lib.hid hA
  clear hA hz hall HW hc hw
  go_enter Tryd.func21, Tryd.ntmps21
  go_wp2_with fail
  refine HC.out.mono ?_
  rintro e w1 ⟨rfl, hb1⟩
  go_upto_region 5 with fail
  have hbo := Go.Proofs.YtaefkkhmhogpeaaDoor.octet.out_new w1
  have hb2 : Below w1.heap.size w1 (w1.alloc (.cells #[.slice none 0 0] 62)) := (Below.refl _ w1).alloc (Nat.le_refl _) _
  have HP0 : Hid (Ps w A l w1.heap.size [] (w1.alloc (.cells #[.slice none 0 0] 62))) := Lib.hid ⟨hbo, HA.out, hb1.trans (hb2.mono hb1.size), hb1.size⟩
  clear hbo hb1 hb2 HC
  generalize w1.alloc (.cells #[.slice none 0 0] 62) = W2 at *
  generalize w1.heap.size = bo at *
  have HN := Lib.hid (num_keep W2 (bo + 1) bo [] l.length (by unfold Fits; omega) HP0.out.out (by simp))
  go_wp2_with fail
  refine HN.out.mono ?_
  rintro e w3 ⟨rfl, x1, x2, x3⟩
  have HP1 := Lib.hid (HP0.out.next x1 x2)
  rw [List.nil_append] at HP1
  clear x1 x2 x3 HN HP0
  go_wp2_with fail
  go_loopw [26] (fun i wr => ∃ j : Nat, j ≤ l.length ∧ i = .int .i64 (j : Int) ∧ Hid (Ps w A l bo (num l.length ++ encs l j) wr)) (fun i _ => l.length - (intOf i).toNat)
  case atStart => exact ⟨0, Nat.zero_le _, rfl, by simpa [encs] using HP1⟩
  case round =>
    obtain ⟨j, hj, rfl, HS⟩ := hrel
    by_cases hlt : j < l.length
    · obtain ⟨b0, off, rfl, hb, c0, c1, c2⟩ := HS.out.at j hlt
      have hlt' : (j : Int) < (l.length : Int) := by omega
      have HSl := Lib.hid (HL.out j hlt)
      have HE : Hid (num l.length ++ encs l (j + 1) = (num l.length ++ encs l j) ++ encD (l.getD j zero)) := Lib.hid (by simp only [encs, List.append_assoc])
      have hlen : (num l.length ++ encs l j).length + 21 ≤ 140737488355328 := by
        have h1 := num_length_le l.length
        have h2 := encs_le l j
        rw [List.length_append]
        omega
      generalize num l.length ++ encs l j = pre at *
      generalize l.getD j zero = d at *
      have HP := fun W (hW : Ps w (some ⟨b0, off, none⟩) l bo pre W) => Lib.hid (putD_any W (bo + 1) bo pre d HSl.out hW.out hlen)
      have HS1 := Lib.hid (HS.out.box (declBox d.1 d.2.1 d.2.2))
      have hbx := box_at wr d
      clear HS hlen HSl
      generalize encD d = en at *
      obtain ⟨k, x, y⟩ := d
      unfold declBox at HS1 hbx
      dsimp only at HP c0 c1 c2 HS1 hbx
      go_upto_region 9 with fail
      clear c0 c1 c2
      generalize wr.alloc (.cells #[.int .i64 k, .int .i64 x, .int .i64 y] 80) = W4 at *
      generalize wr.heap.size = g at *
      obtain ⟨c0, c1, c2⟩ := hbx
      go_wp2_with fail
      refine (HP _ HS1.out).out.mono ?_
      rintro e w5 ⟨rfl, x1, x2⟩
      have HS2 := Lib.hid (HS1.out.next x1 x2)
      clear x1 x2 c0 c1 c2 HP HS1
      go_wp2
      go_roundw
      case rel => exact ⟨j + 1, by omega, by go_num, by rw [HE.out]; exact HS2⟩
      case measure => simp [intOf]; omega
    · obtain rfl : j = l.length := by omega
      have HD := Lib.hid (done_any wr (bo + 1) bo _ HS.out.out)
      have HBz := Lib.hid HS.out.below
      go_wp2_with fail
      refine HD.out.mono ?_
      rintro e w8 ⟨rfl, rfl⟩
      go_wp2
      go_ret2
      exact ⟨rfl, HBz.out⟩

set_option maxHeartbeats 1000000 in
theorem put_bad (A : Option Addr) (cap : Nat) (l : List De) (hl : l.length ≤ 9223372036854775807) (hz : (chk l).2 ≠ 0) (w : World) (hA : DAt w A l) (hw : Okd w) :
    Calls Tryd.prog 21 #[.slice A l.length cap] w fun e w' => e = .returned (.tuple #[.string ⟨#[]⟩, .int .i64 ((chk l).2 : Nat)]) ∧ Below w.heap.size w w' := by
  have HC := Lib.hid (check_any A cap l hl w hA hw)
  unfold ChkPost at HC
  have hn : (((chk l).2 : Int) != 0) = true := by simpa using hz
  clear hz hA hw
  generalize chk l = q at *
  obtain ⟨i, q⟩ := q
  dsimp only at HC hn ⊢
  go_enter Tryd.func21, Tryd.ntmps21
  go_wp2_with fail
  refine HC.out.mono ?_
  rintro e w1 ⟨rfl, hb⟩
  have HB := Lib.hid hb
  clear hb
  go_wp2_with fail
  go_ret2
  exact ⟨rfl, HB.out⟩
end Go.Proofs.YtaefkkhmhogpeaaDoor.objs
