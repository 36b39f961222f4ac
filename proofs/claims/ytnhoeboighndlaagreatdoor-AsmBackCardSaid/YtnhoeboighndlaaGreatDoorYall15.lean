/-
  Texts of one claim in one file: EInt, ERefText, EText, YDo. Each has its own sentence, with its conditions.
-/
import Derived.Test.YtnhoeboighndlaaGreatDoorYall11
import Derived.Test.YtnhoeboighndlaaGreatDoorYall8
import Derived.Test.YtnhoeboighndlaaGreatDoorYall12
import Derived.Test.YtnhoeboighndlaaGreatDoorYall13
import Derived.Test.YtnhoeboighndlaaGreatDoorYall14
import Derived.Test.YtnhoeboighndlaaGreatDoorShelf
import Derived.Lib.AppendIntMem
import Derived.Laws.MakeOwn
import Derived.Test.YtnhoeboighndlaaGreatDoorYall6
import Derived.Test.YtnhoeboighndlaaGreatDoorYall3
import Derived.Shelf.Vars
/-
  The document's decimals of any number. No condition but that it is an int.
-/
namespace Go.Proofs.YtnhoeboighndlaaGreatDoor.need
open Go.RowKit Go.ChangeShapes
open Go.Proofs.YtnhoeboighndlaaGreatDoor.octet (mk_append size_mk)
set_option linter.unusedVariables false

/-- A slice of one byte as a text. -/
theorem run_byte_at (v : World) (b : Nat) (x : Int) (c : UInt8) (hc : (c.toNat : Int) = x) (h : v.cell? ⟨b, 0, none⟩ = some (.int .u8 x)) :
    (convert 56 9 (.slice (some ⟨b, 0, none⟩) 1 1)).run Tryz.prog v = .ok (.string ⟨[c].toArray⟩) v := by
  refine run_convert_bytes_back _ 56 9 5 ⟨b, 0, none⟩ 1 [c] Tryz.underlying56 Tryz.underlying5 Tryz.underlying9 (fun j hj => ?_)
  have hj0 : j = 0 := by simpa using hj
  subst hj0
  rw [← hc] at h
  exact h
theorem ret_str {a b : ByteArray} (h : a = b) : Ending.returned (.string a) = .returned (.string b) := by rw [h]
theorem ret_text {a b : List UInt8} (h : a = b) : Ending.returned (.string ⟨a.toArray⟩) = .returned (.string ⟨b.toArray⟩) := by rw [h]

set_option maxRecDepth 100000 in
set_option maxHeartbeats 400000 in
theorem digs_one (n : Nat) (hn : n < 10) (w : World) :
    Calls Tryz.prog 57 #[.int .i64 (n : Int)] w fun e w' => e = .returned (.string ⟨(digs n).toArray⟩) ∧ Below w.heap.size w w' := by
  obtain ⟨c, hc⟩ : ∃ c, c = UInt8.ofNat (48 + n) := ⟨_, rfl⟩
  have HD : Hid (digs n = [c]) := Lib.hid (by rw [digs_small hn, hc])
  rw [HD.out]
  have hrun := run_byte_at (w.alloc (.cells #[.int .u8 (48 + (n : Int))] 5)) w.heap.size (48 + (n : Int)) c (by rw [hc, UInt8.toNat_ofNat']; omega) (cell_of_one (heap_alloc_new w _))
  have HB := Lib.hid ((Below.refl w.heap.size w).alloc (Nat.le_refl _) (.cells #[.int .u8 (48 + (n : Int))] 5))
  clear hc HD
  go_enter Tryz.func57, Tryz.ntmps57
  go_wp2
  go_ret
  exact ⟨rfl, HB.out⟩

set_option maxRecDepth 100000 in
set_option maxHeartbeats 2000000 in
theorem digs_more (n : Nat) (h10 : ¬ n < 10) (hn : n ≤ 9223372036854775807)
    (hS : ∀ W : World, Calls Tryz.prog 57 #[.int .i64 ((n / 10 : Nat) : Int)] W fun e w' => e = .returned (.string ⟨(digs (n / 10)).toArray⟩) ∧ Below W.heap.size W w') (w : World) :
    Calls Tryz.prog 57 #[.int .i64 (n : Int)] w fun e w' => e = .returned (.string ⟨(digs n).toArray⟩) ∧ Below w.heap.size w w' := by
  obtain ⟨q, hq⟩ : ∃ q : Nat, q = n / 10 := ⟨_, rfl⟩
  obtain ⟨y, hy⟩ : ∃ y : Nat, y = n % 10 := ⟨_, rfl⟩
  rw [← hq] at hS
  have hl := digs_64 (n := q) (by omega)
  have HS := fun W => Lib.hid (hS W)
  have e1 : IntKind.i64.wrap ((n : Int) / 10) = (q : Int) := by rw [IntKind.wrap_i64]; omega
  have e2 : (n : Int).tmod 10 = (y : Int) := by rw [Int.tmod_eq_emod_of_nonneg (by omega)]; omega
  obtain ⟨x, hx⟩ : ∃ x : Int, x = 48 + (y : Int) := ⟨_, rfl⟩
  have e3 : IntKind.i64.wrap (48 + (y : Int)) = x := by rw [hx, IntKind.wrap_i64]; omega
  have e4 : IntKind.u8.wrap x = x := by rw [hx]; simp [IntKind.wrap, IntKind.signed, IntKind.bits]; omega
  obtain ⟨c, hc⟩ : ∃ c, c = UInt8.ofNat (48 + y) := ⟨_, rfl⟩
  have HX : Hid ((c.toNat : Int) = x) := Lib.hid (by rw [hc, UInt8.toNat_ofNat', hx]; omega)
  have HD : Hid (digs n = digs q ++ [c]) := Lib.hid (by rw [digs_big h10, ← hq, ← hy, hc])
  rw [HD.out]
  generalize digs q = dq at *
  have s1 := size_mk dq
  have s2 : (ByteArray.mk #[c]).size = 1 := rfl
  have hr1 : ∀ W : World, (convert 56 9 (.slice (some ⟨W.heap.size, 0, none⟩) 1 1)).run Tryz.prog (W.alloc (.cells #[.int .u8 x] 5)) = .ok (.string ⟨[c].toArray⟩) (W.alloc (.cells #[.int .u8 x] 5)) := fun W => run_byte_at _ _ x c HX.out (cell_of_one (heap_alloc_new W _))
  have hr2 := fun v b => run_byte_at v b x c HX.out
  have hd : decide ((n : Int) < 10) = false := by simp; omega
  clear hS hq hy hx hc h10 hn HD
  go_enter Tryz.func57, Tryz.ntmps57
  go_wp2_with fail
  go_region_with ((go_at_call 57; refine (HS _).out.mono ?_; rintro e w2 ⟨rfl, hb2⟩; (try (have hcc : w2.cell? ⟨w.heap.size, 0, none⟩ = some (.int .u8 x) := (hb2.cell (p := ⟨w.heap.size, 0, none⟩) (by simp)).trans (cell_of_one (heap_alloc_new w _))))))
  all_goals go_wp2
  all_goals
    go_ret
    refine ⟨ret_str (mk_append dq [c]), ?_⟩
    first
      | exact (((Below.refl w.heap.size w).drew.trans hb2).alloc hb2.size _)
      | exact (((Below.refl w.heap.size w).alloc (Nat.le_refl _) _).drew.trans (hb2.mono (by simp)))
/-- The document's decimals. -/
theorem refDigs_any : ∀ k (n : Nat), n < k → n ≤ 9223372036854775807 → ∀ w : World,
    Calls Tryz.prog 57 #[.int .i64 (n : Int)] w fun e w' => e = .returned (.string ⟨(digs n).toArray⟩) ∧ Below w.heap.size w w' := by
  intro k
  induction k with
  | zero => intro n hn; omega
  | succ k ih =>
    intro n hn h w
    by_cases h10 : n < 10
    · exact digs_one n h10 w
    · exact digs_more n h10 h (fun W => ih (n / 10) (by omega) (by omega) W) w
theorem intT_least : intT (-9223372036854775808) = [45, 57, 50, 50, 51, 51, 55, 50, 48, 51, 54, 56, 53, 52, 55, 55, 53, 56, 48, 56] := by
  unfold intT
  rw [if_pos (by omega)]
  have e : (-(-9223372036854775808 : Int)).toNat = 9223372036854775808 := rfl
  rw [e]
  rw [digs_big (by decide), digs_big (by decide), digs_big (by decide), digs_big (by decide), digs_big (by decide), digs_big (by decide), digs_big (by decide), digs_big (by decide), digs_big (by decide), digs_big (by decide), digs_big (by decide), digs_big (by decide), digs_big (by decide), digs_big (by decide), digs_big (by decide), digs_big (by decide), digs_big (by decide), digs_big (by decide), digs_small (by decide)]
  rfl
set_option maxRecDepth 100000 in
set_option maxHeartbeats 400000 in
theorem refInt9_any (n : Int) (hn : -9223372036854775808 ≤ n ∧ n ≤ 9223372036854775807) (w : World) :
    Calls Tryz.prog 33 #[.int .i64 n] w fun e w' => e = .returned (.string ⟨(intT n).toArray⟩) ∧ Below w.heap.size w w' := by
  by_cases h0 : n = -9223372036854775808
  · subst h0
    have HE := Lib.hid intT_least
    rw [HE.out]
    go_enter Tryz.func33, Tryz.ntmps33
    go_wp2_with fail
    go_ret
    exact ⟨rfl, Below.refl _ _⟩
  · have hb : (n == -9223372036854775808) = false := by simpa using h0
    by_cases h1 : n < 0
    · obtain ⟨m, hm⟩ : ∃ m : Nat, (m : Int) = -n := ⟨(-n).toNat, by omega⟩
      have HE : Hid (intT n = [45] ++ digs m) := Lib.hid (by unfold intT; rw [if_pos h1, ← hm, Int.toNat_natCast]; rfl)
      have HD := fun W => Lib.hid (refDigs_any (m + 1) m (by omega) (by omega) W)
      rw [HE.out]
      have hd : decide (n < 0) = true := by simpa using h1
      have hw : IntKind.i64.wrap (-n) = (m : Int) := by rw [IntKind.wrap_i64]; omega
      have hl := digs_64 (n := m) (by omega)
      generalize digs m = dq at *
      have s1 := size_mk dq
      have s2 : (ByteArray.mk #[45]).size = 1 := rfl
      clear hn h0 HE h1 hm
      go_enter Tryz.func33, Tryz.ntmps33
      go_wp2_with fail
      refine (HD _).out.mono ?_
      rintro e w1 ⟨rfl, hb1⟩
      go_wp2
      go_ret
      exact ⟨ret_str (mk_append [45] dq), hb1⟩
    · have HE : Hid (intT n = digs n.toNat) := Lib.hid (by unfold intT; rw [if_neg h1])
      obtain ⟨m, rfl⟩ : ∃ m : Nat, n = (m : Int) := ⟨n.toNat, by omega⟩
      have HD := fun W => Lib.hid (refDigs_any (m + 1) m (by omega) (by omega) W)
      rw [HE.out, Int.toNat_natCast]
      have hd : decide ((m : Int) < 0) = false := by simp
      clear hn h0 HE h1
      generalize digs m = dq at *
      go_enter Tryz.func33, Tryz.ntmps33
      go_wp2_with fail
      refine (HD _).out.mono ?_
      rintro e w1 ⟨rfl, hb1⟩
      go_wp2
      go_ret
      exact ⟨rfl, hb1⟩
end Go.Proofs.YtnhoeboighndlaaGreatDoor.need

/-
  The document's own text of a wait. No condition but that it has at most six ways, each of at most six needs, of ints.
-/
namespace Go.Proofs.YtnhoeboighndlaaGreatDoor.need
open Go.RowKit Go.ChangeShapes
open Go.Proofs.YtnhoeboighndlaaGreatDoor.octet (mk_append size_mk)
open Go.Proofs.YtnhoeboighndlaaGreatDoor.objs (De zero CellsAt DAt below_drewN)
set_option linter.unusedVariables false

def wordsBox : Obj := .cells #[.string ⟨#[110, 111, 110, 101]⟩, .string ⟨#[108, 111, 99, 107]⟩, .string ⟨#[114, 101, 97, 100]⟩, .string ⟨#[119, 114, 105, 116, 101]⟩, .string ⟨#[100, 111, 119, 110]⟩, .string ⟨#[116, 97, 107, 101]⟩] 9
/-- Which word: of no kind the first one. -/
def kidx (k : Int) : Nat := if 1 ≤ k ∧ k ≤ 5 then k.toNat else 0
theorem kidx_lt (k : Int) : kidx k < 6 := by unfold kidx; split <;> omega
theorem kidx_tail (k n : Int) : tailT k n = if 3 < kidx k then 58 :: intT n else [] := by
  unfold tailT kidx
  by_cases h : 1 ≤ k ∧ k ≤ 5
  · rw [if_pos h]
    by_cases h4 : k = 4 ∨ k = 5
    · rw [if_pos h4, if_pos (by omega)]
    · rw [if_neg h4, if_neg (by omega)]
  · rw [if_neg h, if_neg (by omega), if_neg (by omega)]
/-- While a text is written: the wait, and the words. -/
structure T9 (w : World) (A : Option Addr) (l : List (List De)) (gw : Nat) (W : World) : Prop where
  list : WAt W A l
  below : Below w.heap.size w W
  words : W.heap[gw]? = some wordsBox
theorem T9.next {w W W' : World} {A : Option Addr} {l : List (List De)} {gw : Nat} (h : T9 w A l gw W) (hb : Below W.heap.size W W') : T9 w A l gw W' :=
  ⟨h.list.next hb, h.below.trans (hb.mono h.below.size), (hb.block gw (lt_of_block h.words)).trans h.words⟩
theorem T9.word_at {w W : World} {A : Option Addr} {l : List (List De)} {gw : Nat} (h : T9 w A l gw W) (k : Int) : W.cell? ⟨gw, kidx k, none⟩ = some (.string ⟨(word k).toArray⟩) := by
  unfold World.cell?
  rw [h.words]
  unfold kidx
  by_cases h1 : 1 ≤ k ∧ k ≤ 5
  · rw [if_pos h1]
    rcases (by omega : k = 1 ∨ k = 2 ∨ k = 3 ∨ k = 4 ∨ k = 5) with rfl | rfl | rfl | rfl | rfl <;> rfl
  · rw [if_neg h1]
    have : word k = [110, 111, 110, 101] := by
      unfold word
      rw [if_neg (by omega), if_neg (by omega), if_neg (by omega), if_neg (by omega), if_neg (by omega)]
    rw [this]
    rfl
/-- .. and a need, in a block of its own. -/
structure N9 (w : World) (A : Option Addr) (l : List (List De)) (gw g : Nat) (k a b : Int) (W : World) : Prop where
  t : T9 w A l gw W
  box : W.heap[g]? = some (needBox k a b)
theorem N9.next {w W W' : World} {A : Option Addr} {l : List (List De)} {gw g : Nat} {k a b : Int} (h : N9 w A l gw g k a b W) (hb : Below W.heap.size W W') : N9 w A l gw g k a b W' :=
  ⟨h.t.next hb, (hb.block g (lt_of_block h.box)).trans h.box⟩
theorem N9.drew {w W : World} {A : Option Addr} {l : List (List De)} {gw g : Nat} {k a b : Int} (h : N9 w A l gw g k a b W) : N9 w A l gw g k a b W.drew :=
  ⟨⟨h.t.list, h.t.below.drew, h.t.words⟩, h.box⟩
theorem N9.cells {w W : World} {A : Option Addr} {l : List (List De)} {gw g : Nat} {k a b : Int} (h : N9 w A l gw g k a b W) :
    W.cell? ⟨g, 0, none⟩ = some (.int .i64 k) ∧ W.cell? ⟨g, 1, none⟩ = some (.int .i64 a) ∧ W.cell? ⟨g, 2, none⟩ = some (.int .i64 b) := by
  unfold World.cell?
  rw [h.box]
  exact ⟨rfl, rfl, rfl⟩
theorem n9_new {w wr : World} {A : Option Addr} {l : List (List De)} {gw : Nat} (k a b : Int) (h : T9 w A l gw wr) : N9 w A l gw wr.heap.size k a b (wr.alloc (needBox k a b)) :=
  ⟨h.next ((Below.refl _ _).alloc (Nat.le_refl _) _), heap_alloc_new wr _⟩

def sepT (k : Nat) (s : List UInt8) : List UInt8 := if 0 < k then s else []
theorem needsT_next (l : List De) (k : Nat) : needsT l (k + 1) = needsT l k ++ sepT k [32, 43, 32] ++ needT (l.getD k zero) := rfl
theorem waysT_next (w : List (List De)) (k : Nat) : waysT w (k + 1) = waysT w k ++ sepT k [32, 124, 32] ++ needsT (w.getD k []) (w.getD k []).length := rfl

set_option maxRecDepth 100000 in
set_option maxHeartbeats 16000000 in
theorem refText9_any (A : Option Addr) (cap : Nat) (l : List (List De)) (hl : l.length ≤ 6) (hs : ∀ x ∈ l, x.length ≤ 6 ∧ ∀ t ∈ x, Small t) (w : World) (hA : WAt w A l) :
    Calls Tryz.prog 32 #[.slice A l.length cap] w fun e w' => e = .returned (.string ⟨(textW l).toArray⟩) ∧ Below w.heap.size w w' := by
  have HS := Lib.hid hs
  have HW : Hid (textW l = waysT l l.length) := Lib.hid rfl
  rw [HW.out]
  have HT0 : Hid (T9 w A l w.heap.size (w.alloc wordsBox)) := Lib.hid (by
    have hb : Below w.heap.size w (w.alloc wordsBox) := (Below.refl _ _).alloc (Nat.le_refl _) _
    exact ⟨hA.next hb, hb, heap_alloc_new w _⟩)
  clear hA hs HW
  go_enter Tryz.func32, Tryz.ntmps32
  unfold wordsBox at HT0
  go_wp2_with fail
  generalize w.alloc (.cells #[.string ⟨#[110, 111, 110, 101]⟩, .string ⟨#[108, 111, 99, 107]⟩, .string ⟨#[114, 101, 97, 100]⟩, .string ⟨#[119, 114, 105, 116, 101]⟩, .string ⟨#[100, 111, 119, 110]⟩, .string ⟨#[116, 97, 107, 101]⟩] 9) = W0 at *
  generalize hgw : w.heap.size = gw at HT0 ⊢
  go_loopw [4, 5] (fun t i wr => ∃ j : Nat, j ≤ l.length ∧ i = .int .i64 (j : Int) ∧ t = .string ⟨(waysT l j).toArray⟩ ∧ Hid (T9 w A l gw wr)) (fun _ i _ => l.length - (intOf i).toNat)
  case atStart => exact ⟨0, Nat.zero_le _, rfl, rfl, HT0⟩
  case round =>
    obtain ⟨j, hj, rfl, rfl, HT⟩ := hrel
    by_cases hlt : j < l.length
    · obtain ⟨b, off, Aj, cj, rfl, hbl, hc, hdj⟩ := HT.out.list j hlt
      have hlt' : (j : Int) < (l.length : Int) := by omega
      have hj0 : (0 : Int) ≤ (j : Int) := by omega
      have hm := HS.out _ (getW_mem hlt)
      have HSj := Lib.hid hm.2
      have h6 := hm.1
      have HE := Lib.hid (waysT_next l j)
      have hpre := waysT_le HS.out j (by omega)
      have hsep : (sepT j [32, 124, 32]).length ≤ 3 := by unfold sepT; split <;> simp
      have HSep : Hid ((0 < j → waysT l j ++ sepT j [32, 124, 32] = waysT l j ++ [32, 124, 32]) ∧ (¬ 0 < j → waysT l j ++ sepT j [32, 124, 32] = waysT l j)) := Lib.hid ⟨fun h => by unfold sepT; rw [if_pos h], fun h => by unfold sepT; rw [if_neg h, List.append_nil]⟩
      have hpn : (waysT l j ++ sepT j [32, 124, 32]).length ≤ 2000 := by rw [List.length_append]; omega
      generalize waysT l j ++ sepT j [32, 124, 32] = pn at *
      generalize waysT l j = pre at *
      generalize hgj : l.getD j [] = lj at *
      have hs1 := size_mk pre
      have hs3 : (ByteArray.mk #[32, 124, 32]).size = 3 := rfl
      clear hm hsep
      go_upto_if 17 with fail
      go_cut [4] (fun s wx => s = .string ⟨pn.toArray⟩ ∧ wx = wr)
      case first =>
        by_cases h0 : 0 < j
        · have q0 : decide (0 < j) = true := by simpa using h0
          have HS1 := Lib.hid (HSep.out.1 h0)
          simp only [q0]
          go_wp2_with fail
          go_meet
          exact ⟨by rw [HS1.out, ← mk_append], rfl⟩
        · have q0 : decide (0 < j) = false := by simpa using h0
          have HS1 := Lib.hid (HSep.out.2 h0)
          clear h0
          simp only [q0]
          go_wp2_with fail
          go_meet
          exact ⟨by rw [HS1.out], rfl⟩
      case rest =>
        obtain ⟨rfl, rfl⟩ := hcut
        clear HSep hc hdj
        (rename (∀ (a : Act) (w : World), Code.wp _ _ _ a w → _) => hK; refine hK _ _ ?_; clear hK; apply wp_seq_k; intro _ _)
        go_wp2_with fail
        go_loopw [4, 6] (fun t i wr => ∃ k : Nat, k ≤ lj.length ∧ i = .int .i64 (k : Int) ∧ t = .string ⟨(pn ++ needsT lj k).toArray⟩ ∧ Hid (T9 w (some ⟨b, off, none⟩) l gw wr)) (fun _ i _ => lj.length - (intOf i).toNat)
        case atStart => exact ⟨0, Nat.zero_le _, rfl, by simp [needsT], HT⟩
        case round =>
          obtain ⟨k, hk, rfl, rfl, HTk⟩ := hrel
          obtain ⟨bA, offA, AjA, cjA, hAe, hblA, hcA, hdA⟩ := HTk.out.list j hlt
          injection hAe with hAe
          injection hAe with hAe1 hAe2
          subst hAe1 hAe2
          rw [hgj] at hcA hdA
          by_cases hlk : k < lj.length
          · obtain ⟨b2, off2, rfl, hbl2, c0, c1, c2⟩ := hdA k hlk
            have hlk' : (k : Int) < (lj.length : Int) := by omega
            have hk0 : (0 : Int) ≤ (k : Int) := by omega
            have HEk := Lib.hid (needsT_next lj k)
            have hsm := HSj.out _ (getD_mem hlk)
            have hpk := needsT_le HSj.out k (by omega)
            generalize lj.getD k zero = t at *
            obtain ⟨tk, tob, tn⟩ := t
            obtain ⟨⟨g1, g2⟩, ⟨g3, g4⟩, g5, g6⟩ := hsm
            dsimp only at g1 g2 g3 g4 g5 g6 c0 c1 c2 HEk
            have HN := Lib.hid (n9_new (k := tk) (a := tob) (b := tn) HTk.out)
            unfold needBox at HN
            go_upto_region 10 with fail
            go_cut [7, 8] (fun p v wx => ∃ g : Nat, p = .pointer (some ⟨g, 0, none⟩) ∧ v = .int .i64 tk ∧ Hid (N9 w (some ⟨b, off, none⟩) l gw g tk tob tn wx))
            case first =>
              go_region
              go_wp2_with fail
              go_meet
              exact ⟨_, rfl, rfl, Lib.hid HN.out.drew⟩
            case rest =>
              obtain ⟨g, rfl, rfl, HN1⟩ := hcut
              clear c0 c1 c2 hcA hdA HN
              (rename (∀ (a : Act) (w : World), Code.wp _ _ _ a w → _) => hK; refine hK _ _ ?_; clear hK; apply wp_seq_k; intro _ _)
              go_upto_region 11 with fail
              go_cut [8, 49] (fun v q wx => v = .int .i64 tk ∧ q = .bool (decide (¬ (1 ≤ tk ∧ tk ≤ 5))) ∧ wx = wc)
              case first =>
                by_cases k1 : tk < 1
                · have r1 : decide (tk < 1) = true := by simpa using k1
                  have HQ : Hid (decide (¬ (1 ≤ tk ∧ tk ≤ 5)) = true) := Lib.hid (decide_eq_true (by omega))
                  clear k1
                  go_wp2_with fail
                  go_meet
                  exact ⟨rfl, by rw [HQ.out], rfl⟩
                · have r1 : decide (tk < 1) = false := by simpa using k1
                  by_cases k5 : 5 < tk
                  · have r5 : decide (5 < tk) = true := by simpa using k5
                    have HQ : Hid (decide (¬ (1 ≤ tk ∧ tk ≤ 5)) = true) := Lib.hid (decide_eq_true (by omega))
                    clear k1 k5
                    go_wp2_with fail
                    go_meet
                    exact ⟨rfl, by rw [HQ.out], rfl⟩
                  · have r5 : decide (5 < tk) = false := by simpa using k5
                    have HQ : Hid (decide (¬ (1 ≤ tk ∧ tk ≤ 5)) = false) := Lib.hid (decide_eq_false (by omega))
                    clear k1 k5
                    go_wp2_with fail
                    go_meet
                    exact ⟨rfl, by rw [HQ.out], rfl⟩
              case rest =>
              obtain ⟨rfl, rfl, rfl⟩ := hcut
              (rename (∀ (a : Act) (w : World), Code.wp _ _ _ a w → _) => hK; refine hK _ _ ?_; clear hK)
              go_cut [8] (fun v wx => v = .int .i64 (kidx tk : Int) ∧ wx = wc)
              case first =>
                by_cases kb : 1 ≤ tk ∧ tk ≤ 5
                · have HQ : Hid (decide (¬ (1 ≤ tk ∧ tk ≤ 5)) = false) := Lib.hid (decide_eq_false (fun h => h kb))
                  have HK : Hid ((kidx tk : Int) = tk) := Lib.hid (by unfold kidx; rw [if_pos kb]; omega)
                  simp only [HQ.out]
                  clear kb
                  go_wp2_with fail
                  go_meet
                  exact ⟨by rw [HK.out], rfl⟩
                · have HQ : Hid (decide (¬ (1 ≤ tk ∧ tk ≤ 5)) = true) := Lib.hid (decide_eq_true kb)
                  have HK : Hid ((kidx tk : Int) = 0) := Lib.hid (by unfold kidx; rw [if_neg kb]; rfl)
                  simp only [HQ.out]
                  clear kb
                  go_wp2_with fail
                  go_meet
                  exact ⟨by rw [HK.out], rfl⟩
              case rest =>
              obtain ⟨rfl, rfl⟩ := hcut
              (rename (∀ (a : Act) (w : World), Code.wp _ _ _ a w → _) => hK; refine hK _ _ ?_; clear hK; apply wp_seq_k; intro _ _)
              have HSep2 : Hid ((0 < k → pn ++ needsT lj k ++ sepT k [32, 43, 32] = pn ++ needsT lj k ++ [32, 43, 32]) ∧ (¬ 0 < k → pn ++ needsT lj k ++ sepT k [32, 43, 32] = pn ++ needsT lj k)) := Lib.hid ⟨fun h => by unfold sepT; rw [if_pos h], fun h => by unfold sepT; rw [if_neg h, List.append_nil]⟩
              have hsep2 : (sepT k [32, 43, 32]).length ≤ 3 := by unfold sepT; split <;> simp
              have hps : (pn ++ needsT lj k ++ sepT k [32, 43, 32]).length ≤ 3000 := by rw [List.length_append, List.length_append]; omega
              have HEq : Hid (pn ++ needsT lj (k + 1) = pn ++ needsT lj k ++ sepT k [32, 43, 32] ++ needT (tk, tob, tn)) := Lib.hid (by rw [HEk.out]; simp only [List.append_assoc])
              have hpq : (pn ++ needsT lj k).length ≤ 2400 := by rw [List.length_append]; omega
              generalize pn ++ needsT lj k ++ sepT k [32, 43, 32] = ps at *
              generalize pn ++ needsT lj k = pq at *
              clear hsep2
              have y1 := size_mk pq
              have y2 : (ByteArray.mk #[32, 43, 32]).size = 3 := rfl
              go_upto_if 51 with fail
              go_cut [4] (fun s wx => s = .string ⟨ps.toArray⟩ ∧ wx = wc)
              case first =>
                by_cases h0 : 0 < k
                · have q0 : decide (0 < k) = true := by simpa using h0
                  have HS1 := Lib.hid (HSep2.out.1 h0)
                  simp only [q0]
                  go_wp2_with fail
                  go_meet
                  exact ⟨by rw [HS1.out, ← mk_append], rfl⟩
                · have q0 : decide (0 < k) = false := by simpa using h0
                  have HS1 := Lib.hid (HSep2.out.2 h0)
                  clear h0
                  simp only [q0]
                  go_wp2_with fail
                  go_meet
                  exact ⟨by rw [HS1.out], rfl⟩
              case rest =>
              obtain ⟨rfl, rfl⟩ := hcut
              clear HSep2 y1 y2
              (rename (∀ (a : Act) (w : World), Code.wp _ _ _ a w → _) => hK; refine hK _ _ ?_; clear hK; apply wp_seq_k; intro _ _)
              have y1 := size_mk ps
              have y2 := size_mk (word tk)
              have y3 : (ByteArray.mk #[32]).size = 1 := rfl
              have y4 := word_le tk
              have y5 := intT_le ⟨g3, g4⟩
              have y6 := size_mk (intT tob)
              have HI := fun W => Lib.hid (refInt9_any tob ⟨g3, g4⟩ W)
              have hki := kidx_lt tk
              have hki2 : (kidx tk : Int) < 6 := by omega
              have hki0 : (0 : Int) ≤ (kidx tk : Int) := by omega
              have HPs : Hid (ByteArray.mk ps.toArray ++ ByteArray.mk (word tk).toArray ++ ByteArray.mk #[32] ++ ByteArray.mk (intT tob).toArray = ByteArray.mk (ps ++ word tk ++ [32] ++ intT tob).toArray) := Lib.hid (by rw [show (ByteArray.mk #[32]) = ByteArray.mk [32].toArray from rfl, mk_append, mk_append, mk_append])
              have hpt : (ps ++ word tk ++ [32] ++ intT tob).length ≤ 3100 := by simp only [List.length_append, List.length_cons, List.length_nil]; omega
              have HEt : Hid (pn ++ needsT lj (k + 1) = (ps ++ word tk ++ [32] ++ intT tob) ++ (if 3 < kidx tk then 58 :: intT tn else [])) := Lib.hid (by rw [HEq.out, ← kidx_tail]; simp only [needT, List.append_assoc])
              have z1 : (ByteArray.mk ps.toArray ++ ByteArray.mk (word tk).toArray).size = ps.length + (word tk).length := by rw [mk_append, size_mk, List.length_append]
              have z2 : (ByteArray.mk ps.toArray ++ ByteArray.mk (word tk).toArray ++ ByteArray.mk #[32]).size = ps.length + (word tk).length + 1 := by rw [show (ByteArray.mk #[32]) = ByteArray.mk [32].toArray from rfl, mk_append, mk_append, size_mk, List.length_append, List.length_append]; rfl
              generalize hpg : ps ++ word tk ++ [32] ++ intT tob = pt at *
              clear hpg HEq
              have hwd := HN1.out.t.word_at tk
              have HWd := fun W (hW : Below wc.heap.size wc W) => Lib.hid ((HN1.out.next hW).t.word_at tk)
              generalize word tk = wd at *
              generalize intT tob = it at *
              generalize kidx tk = ki at *
              obtain ⟨d0, d1, d2⟩ := HN1.out.cells
              go_upto_region 15 with fail
              go_cut [4] (fun s wx => s = .string ⟨pt.toArray⟩ ∧ Hid (N9 w (some ⟨b, off, none⟩) l gw g tk tob tn wx))
              case first =>
                go_region_with ((go_at_call 33; refine (HI _).out.mono ?_; rintro e w5 ⟨rfl, hb5⟩; have hwd5 := (HWd _ ((Below.refl wc.heap.size wc).drew.trans hb5)).out))
                all_goals
                  have HN5 := Lib.hid (HN1.out.drew.next hb5)
                  clear hb5 hwd5
                  go_wp2_with fail
                  go_meet
                  first
                    | exact ⟨by rw [HPs.out], HN5⟩
                    | exact ⟨by rw [HPs.out], Lib.hid HN5.out.drew⟩
              case rest =>
                obtain ⟨rfl, HN2⟩ := hcut
                clear HPs y1 y2 y3 y4 y5 y6 z1 z2 hwd d0 d1 d2
                (rename (∀ (a : Act) (w : World), Code.wp _ _ _ a w → _) => hK; refine hK _ _ ?_; clear hK; apply wp_seq_k; intro _ _)
                obtain ⟨d0, d1, d2⟩ := HN2.out.cells
                have y1 := size_mk pt
                by_cases h3 : 3 < ki
                · have q3 : decide (3 < ki) = true := by simpa using h3
                  have HF : Hid (pn ++ needsT lj (k + 1) = pt ++ [58] ++ intT tn) := Lib.hid (by rw [HEt.out, if_pos h3]; simp)
                  have HI2 := fun W => Lib.hid (refInt9_any tn ⟨g5, g6⟩ W)
                  have y2 := intT_le ⟨g5, g6⟩
                  have y3 := size_mk (intT tn)
                  have y4 : (ByteArray.mk #[58]).size = 1 := rfl
                  have y5 : (ByteArray.mk pt.toArray ++ ByteArray.mk #[58]).size = pt.length + 1 := by rw [show (ByteArray.mk #[58]) = ByteArray.mk [58].toArray from rfl, mk_append, size_mk, List.length_append]; rfl
                  have HPf : Hid (ByteArray.mk pt.toArray ++ ByteArray.mk #[58] ++ ByteArray.mk (intT tn).toArray = ByteArray.mk (pt ++ [58] ++ intT tn).toArray) := Lib.hid (by rw [show (ByteArray.mk #[58]) = ByteArray.mk [58].toArray from rfl, mk_append, mk_append])
                  generalize intT tn = nt at *
                  go_wp2_with fail
                  refine (HI2 _).out.mono ?_
                  rintro e w6 ⟨rfl, hb6⟩
                  have HT6 := Lib.hid (HN2.out.next hb6).t
                  clear hb6
                  go_wp2
                  go_roundw
                  case rel => exact ⟨k + 1, by omega, by go_num, by rw [HF.out, HPf.out], HT6⟩
                  case measure => simp [intOf]; omega
                · have q3 : decide (3 < ki) = false := by simpa using h3
                  have HF : Hid (pn ++ needsT lj (k + 1) = pt) := Lib.hid (by rw [HEt.out, if_neg h3, List.append_nil])
                  have HT6 := Lib.hid HN2.out.t
                  go_wp2
                  go_roundw
                  case rel => exact ⟨k + 1, by omega, by go_num, by rw [HF.out], HT6⟩
                  case measure => simp [intOf]; omega
          · obtain rfl : k = lj.length := by omega
            clear hdA
            go_wp2_with fail
            go_roundw
            case rel => exact ⟨j + 1, by omega, by go_num, by rw [HE.out], HTk⟩
            case measure => simp [intOf]; omega
    · obtain rfl : j = l.length := by omega
      go_wp2_with fail
      go_ret
      exact ⟨rfl, HT.out.below⟩
end Go.Proofs.YtnhoeboighndlaaGreatDoor.need

/-
  The program's own text of a wait (typed over the code of 5ef5b61): of at most six ways, each of at most six needs, of ints. The tables must lie where their initialisers lay them.
-/
namespace Go.Proofs.YtnhoeboighndlaaGreatDoor.need
open Go.RowKit Go.ChangeShapes
open Go.Proofs.YtnhoeboighndlaaGreatDoor.octet (mk_append size_mk)
open Go.Proofs.YtnhoeboighndlaaGreatDoor.objs (De zero CellsAt DAt below_drewN)
set_option linter.unusedVariables false

theorem digs_dec : ∀ n, digs n = Lib.decDigits n := by
  intro n
  induction n using Nat.strongRecOn with
  | _ n ih =>
    by_cases h : n < 10
    · rw [digs_small h, Lib.decDigits, dif_pos h]
    · rw [digs_big h, Lib.decDigits, dif_neg h, ih (n / 10) (by omega)]
theorem intT_itoa (n : Int) : intT n = Lib.itoa n := by
  unfold intT Lib.itoa
  by_cases h : n < 0
  · rw [if_pos h, if_pos h, digs_dec]
    congr 2
    omega
  · rw [if_neg h, if_neg h, digs_dec]
theorem itoa_any (n : Int) (hn : -9223372036854775808 ≤ n ∧ n ≤ 9223372036854775807) (w : World) (hw : Oke w) : Calls Tryz.prog 43 #[.int .i64 n] w fun e w' => e = .returned (.string ⟨(intT n).toArray⟩) ∧ Below w.heap.size w w' := by
  refine (Tryz.strconv_Itoa n hn.1 hn.2 w hw.tab.pw).mono ?_
  rintro e w' ⟨rfl, k, os, rfl⟩
  exact ⟨by rw [intT_itoa], Lib.below_grow _ w (Nat.le_refl _) k os⟩

theorem word_none {k : Int} (h : ¬ (1 ≤ k ∧ k ≤ 5)) : word k = [110, 111, 110, 101] := by
  unfold word
  rw [if_neg (by omega), if_neg (by omega), if_neg (by omega), if_neg (by omega), if_neg (by omega)]

/-- While a need is written. -/
structure Tn (w : World) (k o m : Int) (W : World) : Prop where
  below : Below w.heap.size w W
  box : W.heap[w.heap.size]? = some (needBox k o m)
  ok : Oke W
theorem Tn.next {w W W' : World} {k o m : Int} (h : Tn w k o m W) (hb : Below W.heap.size W W') : Tn w k o m W' :=
  ⟨h.below.trans (hb.mono h.below.size), (hb.block _ (lt_of_block h.box)).trans h.box, h.ok.next hb⟩
theorem Tn.cells {w W : World} {k o m : Int} (h : Tn w k o m W) : W.cell? ⟨w.heap.size, 0, none⟩ = some (.int .i64 k) ∧ W.cell? ⟨w.heap.size, 1, none⟩ = some (.int .i64 o) ∧ W.cell? ⟨w.heap.size, 2, none⟩ = some (.int .i64 m) := by
  unfold World.cell?
  rw [h.box]
  exact ⟨rfl, rfl, rfl⟩
theorem tn_new {w : World} (k o m : Int) (hw : Oke w) : Tn w k o m (w.alloc (needBox k o m)) := ⟨nbox_below w k o m, heap_alloc_new w _, hw.next (nbox_below w k o m)⟩
theorem Tn.word_at {w W : World} {k o m : Int} (h : Tn w k o m W) (hk : 1 ≤ k ∧ k ≤ 5) : W.cell? ⟨2, k.toNat, none⟩ = some (.string ⟨(word k).toArray⟩) := by
  have hc := h.ok.tab.nm k.toNat (by omega)
  rw [names_word (by omega) (by omega), show ((k.toNat : Nat) : Int) = k from by omega] at hc
  exact hc

set_option maxRecDepth 100000 in
set_option maxHeartbeats 4000000 in
theorem textN_any (n : De) (hs : Small n) (w : World) (hw : Oke w) :
    Calls Tryz.prog 44 #[.agg #[.int .i64 n.1, .int .i64 n.2.1, .int .i64 n.2.2]] w fun e w' => e = .returned (.string ⟨(needT n).toArray⟩) ∧ Below w.heap.size w w' := by
  obtain ⟨k, o, m⟩ := n
  obtain ⟨hk, ho, hm⟩ := hs
  dsimp only at hk ho hm ⊢
  have HT := Lib.hid (tn_new k o m hw)
  have HK := fun W => Lib.hid (known_any k W)
  have HC := fun W => Lib.hid (counts_any k W)
  have HI1 := fun W hW => Lib.hid (itoa_any o ho W hW)
  have HI2 := fun W hW => Lib.hid (itoa_any m hm W hW)
  have HE : Hid (needT (k, o, m) = (word k ++ ([32] ++ intT o)) ++ tailT k m) := Lib.hid (by unfold needT; simp only [List.append_assoc])
  have y4 := word_le k
  have y5 := intT_le ho
  have y6 := intT_le hm
  have y1 := size_mk (word k)
  have y2 := size_mk (intT o)
  have y3 := size_mk (intT m)
  have y7 : (ByteArray.mk #[32]).size = 1 := rfl
  have y8 : (ByteArray.mk #[58]).size = 1 := rfl
  have y9 : (ByteArray.mk #[32] ++ ByteArray.mk (intT o).toArray).size = 1 + (intT o).length := by rw [show (ByteArray.mk #[32]) = ByteArray.mk [32].toArray from rfl, mk_append, size_mk, List.length_append]; rfl
  have y10 : (ByteArray.mk #[58] ++ ByteArray.mk (intT m).toArray).size = 1 + (intT m).length := by rw [show (ByteArray.mk #[58]) = ByteArray.mk [58].toArray from rfl, mk_append, size_mk, List.length_append]; rfl
  have HP : Hid (ByteArray.mk (word k).toArray ++ (ByteArray.mk #[32] ++ ByteArray.mk (intT o).toArray) = ByteArray.mk (word k ++ ([32] ++ intT o)).toArray) := Lib.hid (by rw [show (ByteArray.mk #[32]) = ByteArray.mk [32].toArray from rfl, mk_append, mk_append])
  have y11 : (ByteArray.mk (word k).toArray ++ (ByteArray.mk #[32] ++ ByteArray.mk (intT o).toArray)).size = (word k).length + 1 + (intT o).length := by rw [HP.out, size_mk, List.length_append, List.length_append]; simp; omega
  have HP2 : Hid ((ByteArray.mk (word k).toArray ++ (ByteArray.mk #[32] ++ ByteArray.mk (intT o).toArray)) ++ (ByteArray.mk #[58] ++ ByteArray.mk (intT m).toArray) = ByteArray.mk ((word k ++ ([32] ++ intT o)) ++ (58 :: intT m)).toArray) := Lib.hid (by rw [HP.out, show (ByteArray.mk #[58]) = ByteArray.mk [58].toArray from rfl, mk_append, mk_append]; rfl)
  obtain ⟨r, hr⟩ : ∃ r, r = needT (k, o, m) := ⟨_, rfl⟩
  rw [← hr] at HE ⊢
  clear hr hw
  have hW : w.alloc (needBox k o m) = w.alloc (.cells #[.int .i64 k, .int .i64 o, .int .i64 m] 79) := rfl
  rw [hW] at HT
  clear hW
  by_cases h : 1 ≤ k ∧ k ≤ 5
  · rw [decide_eq_true h] at HK
    have HWd := fun W (hW : Tn w k o m W) => Lib.hid (hW.word_at h)
    obtain ⟨kk, rfl⟩ : ∃ kk : Nat, k = (kk : Int) := ⟨k.toNat, by omega⟩
    rw [Int.toNat_natCast] at HWd
    have hk6 : (kk : Int) < 6 := by omega
    have hk0 : (0 : Int) ≤ (kk : Int) := by omega
    by_cases h4 : (kk : Int) = 4 ∨ (kk : Int) = 5
    · rw [decide_eq_true h4] at HC
      have HR : Hid (r = (word kk ++ ([32] ++ intT o)) ++ (58 :: intT m)) := Lib.hid (by rw [HE.out]; unfold tailT; rw [if_pos h4])
      rw [HR.out]
      clear HE h4 h HP HR
      generalize word (kk : Int) = wd at *
      generalize intT o = it at *
      generalize intT m = mt at *
      go_enter Tryz.func44, Tryz.ntmps44
      go_upto_region 2 with fail
      generalize w.alloc (.cells #[.int .i64 (kk : Int), .int .i64 o, .int .i64 m] 79) = W1 at *
      obtain ⟨c0, c1, c2⟩ := HT.out.cells
      have cw := (HWd _ HT.out).out
      go_wp2_with fail
      refine (HK _).out.mono ?_
      rintro e w2 ⟨rfl, rfl⟩
      go_wp2_with fail
      refine (HI1 _ HT.out.ok).out.mono ?_
      rintro e w3 ⟨rfl, hb3⟩
      have HT3 := Lib.hid (HT.out.next hb3)
      clear hb3 HT c0 c1 c2 cw HI1
      obtain ⟨c0, c1, c2⟩ := HT3.out.cells
      go_wp2_with fail
      refine (HC _).out.mono ?_
      rintro e w4 ⟨rfl, rfl⟩
      go_wp2_with fail
      refine (HI2 _ HT3.out.ok).out.mono ?_
      rintro e w5 ⟨rfl, hb5⟩
      have HT5 := Lib.hid (HT3.out.next hb5)
      clear hb5 HT3 c0 c1 c2 HI2
      go_wp2_with fail
      go_ret
      exact ⟨ret_str HP2.out, HT5.out.below⟩
    · rw [decide_eq_false h4] at HC
      have HR : Hid (r = word kk ++ ([32] ++ intT o)) := Lib.hid (by rw [HE.out]; unfold tailT; rw [if_neg h4, List.append_nil])
      rw [HR.out]
      clear HE h4 h HP2 HR HI2 y3 y6 y8 y10
      generalize word (kk : Int) = wd at *
      generalize intT o = it at *
      go_enter Tryz.func44, Tryz.ntmps44
      go_upto_region 2 with fail
      generalize w.alloc (.cells #[.int .i64 (kk : Int), .int .i64 o, .int .i64 m] 79) = W1 at *
      obtain ⟨c0, c1, c2⟩ := HT.out.cells
      have cw := (HWd _ HT.out).out
      go_wp2_with fail
      refine (HK _).out.mono ?_
      rintro e w2 ⟨rfl, rfl⟩
      go_wp2_with fail
      refine (HI1 _ HT.out.ok).out.mono ?_
      rintro e w3 ⟨rfl, hb3⟩
      have HT3 := Lib.hid (HT.out.next hb3)
      clear hb3 HT c0 c1 c2 cw HI1
      obtain ⟨c0, c1, c2⟩ := HT3.out.cells
      go_wp2_with fail
      refine (HC _).out.mono ?_
      rintro e w4 ⟨rfl, rfl⟩
      go_wp2_with fail
      go_ret
      exact ⟨ret_str HP.out, HT3.out.below⟩
  · rw [decide_eq_false h] at HK
    have h4 : ¬ (k = 4 ∨ k = 5) := by omega
    rw [decide_eq_false h4] at HC
    have HR : Hid (r = [110, 111, 110, 101] ++ ([32] ++ intT o)) := Lib.hid (by rw [HE.out, word_none h]; unfold tailT; rw [if_neg h4, List.append_nil])
    rw [HR.out]
    rw [word_none h] at y1 HP y11
    have y12 : (ByteArray.mk #[110, 111, 110, 101]).size = 4 := rfl
    rw [show (ByteArray.mk [110, 111, 110, 101].toArray) = ByteArray.mk #[110, 111, 110, 101] from rfl] at y11 HP
    clear HE h4 h HP2 HR HI2 y1 y3 y4 y6 y8 y10
    generalize intT o = it at *
    go_enter Tryz.func44, Tryz.ntmps44
    go_upto_region 2 with fail
    generalize w.alloc (.cells #[.int .i64 k, .int .i64 o, .int .i64 m] 79) = W1 at *
    obtain ⟨c0, c1, c2⟩ := HT.out.cells
    go_wp2_with fail
    refine (HK _).out.mono ?_
    rintro e w2 ⟨rfl, rfl⟩
    go_wp2_with fail
    refine (HI1 _ HT.out.ok).out.mono ?_
    rintro e w3 ⟨rfl, hb3⟩
    have HT3 := Lib.hid (HT.out.next hb3)
    clear hb3 HT c0 c1 c2 HI1
    obtain ⟨c0, c1, c2⟩ := HT3.out.cells
    go_wp2_with fail
    refine (HC _).out.mono ?_
    rintro e w4 ⟨rfl, rfl⟩
    go_wp2_with fail
    go_ret
    exact ⟨ret_str HP.out, HT3.out.below⟩
end Go.Proofs.YtnhoeboighndlaaGreatDoor.need

/-
  The program's reading of numbers, of kinds, and of so many words (typed over the code of 0aab59b). The tables must lie where their initialisers lay them, the library's errors must be there.
-/
namespace Go.Proofs.YtnhoeboighndlaaGreatDoor.pgm.asm
open Go.RowKit Go.ChangeShapes
open Go.Proofs.YtnhoeboighndlaaGreatDoor.pgm
open Go.Proofs.YtnhoeboighndlaaGreatDoor.octet (size_mk mk_append)
open Go.Proofs.YtnhoeboighndlaaGreatDoor.need (digs intT Oke)
open Go.Proofs.YtnhoeboighndlaaGreatDoor.objs (De names nameK)
open Go.Proofs.YtnhoeboighndlaaGreatDoor.oper (nm fm txt)
open Go.Proofs.YtnhoeboighndlaaGreatDoor.inst (form)
open Go.Proofs.YtnhoeboighndlaaGreatDoor.digi (readD Okn ReadPost read_any)
set_option linter.unusedVariables false

/-- What the program's calls on texts ask of the world, below all that is made. -/
structure Okz (w : World) : Prop where
  prog : Okp w
  need : Oke w
  nums : Okn w
  most : ∃ m, w.cell? ⟨3, 0, none⟩ = some (.int .i64 m)
theorem Okz.lm {w : World} (h : Okz w) : 3 < w.heap.size := by
  obtain ⟨m, hm⟩ := h.most
  exact World.block_lt_of_cell? _ _ hm
theorem Okz.next {w w' : World} (h : Okz w) (hb : Below w.heap.size w w') : Okz w' := by
  refine ⟨h.prog.next hb, h.need.next hb, h.nums.next hb, ?_⟩
  obtain ⟨m, hm⟩ := h.most
  exact ⟨m, (hb.cell (p := ⟨3, 0, none⟩) h.lm).trans hm⟩

def NumPostZ (t : List UInt8) (w : World) (e : Ending) (w' : World) : Prop := e = .returned (.tuple #[.int .i64 ((readD t 10).getD 0), .bool (readD t 10).isSome]) ∧ Below w.heap.size w w'
theorem number_any (t : List UInt8) (ht : t.length ≤ 1048576) (w : World) (hw : Okz w) : Calls Tryz.prog 99 #[.string ⟨t.toArray⟩] w (NumPostZ t w) := by
  have HR := Lib.hid (read_any ⟨t.toArray⟩ (by rw [size_mk]; exact ht) 10 (by omega) w hw.nums)
  unfold ReadPost at HR
  unfold NumPostZ
  rw [show (ByteArray.mk t.toArray).data.toList = t by simp] at HR
  clear hw
  go_enter Tryz.func99, Tryz.ntmps99
  go_wp2_with fail
  refine HR.out.mono ?_
  rintro e w1 ⟨rfl, hb⟩
  go_wp2
  go_ret2
  exact ⟨rfl, hb⟩

/-- The kind that a word names. -/
def kindP (w : List UInt8) : Int := if kindIdx w < 8 then (kindIdx w : Nat) else 0
theorem kind_of {w : List UInt8} {k : Nat} (hi : k ≤ kindIdx w) (h0 : 0 < k) (hk : k < 8) (h : (nameK (k : Int)).data.toList = w) : kindIdx w = k := by
  subst h
  have e : nameK (k : Int) = names.getD k ⟨#[]⟩ := by
    unfold nameK
    rw [if_pos (by omega), Int.toNat_natCast]
  rw [e]
  exact kind_idx k hk h0
theorem kind_next {w : List UInt8} {k : Nat} (hi : k ≤ kindIdx w) (h0 : 0 < k) (hk : k < 8) (h : (nameK (k : Int)).data.toList ≠ w) : k + 1 ≤ kindIdx w := by
  rcases Nat.lt_or_ge k (kindIdx w) with h1 | h1
  · omega
  · exfalso
    have e : kindIdx w = k := by omega
    have h2 := (kind_same (w := w) (by omega)).1
    rw [e] at h2
    refine h ?_
    rw [← h2]
    unfold nameK
    rw [if_pos (by omega), Int.toNat_natCast]
theorem kind_one (w : List UInt8) : 1 ≤ kindIdx w := by
  rcases Nat.eq_zero_or_pos (kindIdx w) with h | h
  · have := (kind_same (w := w) (by omega)).2
    omega
  · exact h
def KindPost (t : List UInt8) (w : World) (e : Ending) (w' : World) : Prop := e = .returned (.tuple #[.int .i64 (kindP t), .bool (decide (kindIdx t < 8))]) ∧ w = w'
set_option maxHeartbeats 1000000 in
theorem kindOf_any (t : List UInt8) (w : World) (hw : Okz w) : Calls Tryz.prog 80 #[.string ⟨t.toArray⟩] w (KindPost t w) := by
  unfold KindPost
  have HN := fun k => Lib.hid (Go.Proofs.YtnhoeboighndlaaGreatDoor.objs.name_any k w hw.prog.decl)
  clear hw
  go_enter Tryz.func80, Tryz.ntmps80
  go_wp2_with fail
  go_loop [4] (fun i => ∃ k : Nat, 0 < k ∧ k ≤ 8 ∧ k ≤ kindIdx t ∧ i = .int .i64 (k : Int)) (fun i => 8 - (intOf i).toNat)
  case atStart => exact ⟨1, by omega, by omega, kind_one t, rfl⟩
  case round =>
    obtain ⟨k, hk0, hk, hi, rfl⟩ := hrel
    by_cases hlt : k < 8
    · have hlt' : (k : Int) ≤ 7 := by omega
      have HN1 := HN (k : Int)
      by_cases he : (nameK (k : Int)).data.toList = t
      · have HE := Lib.hid (kind_of hi hk0 hlt he)
        have hq : ((nameK (k : Int)).toList == t) = true := by rw [ByteArray.toList_eq, beq_iff_eq]; exact he
        generalize nameK (k : Int) = x at *
        go_wp2_with fail
        refine HN1.out.mono ?_
        rintro e w1 ⟨rfl, rfl⟩
        go_wp2
        go_ret2
        exact ⟨by unfold kindP; rw [HE.out, if_pos hlt, decide_eq_true hlt]; rfl, rfl⟩
      · have HE := Lib.hid (kind_next hi hk0 hlt he)
        have hq : ((nameK (k : Int)).toList == t) = false := by rw [ByteArray.toList_eq, beq_eq_false_iff_ne]; exact he
        generalize nameK (k : Int) = x at *
        go_wp2_with fail
        refine HN1.out.mono ?_
        rintro e w1 ⟨rfl, rfl⟩
        go_wp2
        go_round
        case rel => exact ⟨k + 1, by omega, by omega, HE.out, by go_num⟩
        case measure => simp [intOf]; omega
    · have HE : Hid (¬ kindIdx t < 8) := Lib.hid (by omega)
      have hge : ¬ (k : Int) ≤ 7 := by omega
      go_wp2
      go_ret2
      exact ⟨by unfold kindP; rw [if_neg HE.out, decide_eq_false HE.out]; rfl, rfl⟩

theorem operands_any (o : Int) (w : World) : Calls Tryz.prog 28 #[.int .i64 o] w fun e w' => e = .returned (.int .i64 ((form o).length : Nat)) ∧ w = w' := by
  have HF := Lib.hid (Go.Proofs.YtnhoeboighndlaaGreatDoor.oper.form_any o w)
  have hs : ((txt fm o).size : Int) = ((form o).length : Nat) := by rw [Go.Lib.size_eq]; rfl
  go_enter Tryz.func28, Tryz.ntmps28
  go_wp2_with fail
  refine HF.out.mono ?_
  rintro e w1 ⟨rfl, rfl⟩
  go_wp2
  go_ret
  exact ⟨rfl, rfl⟩
theorem numbers_any (k : Int) (w : World) : Calls Tryz.prog 23 #[.int .i64 k] w fun e w' => e = .returned (.int .i64 (cntO k : Nat)) ∧ w = w' := by
  unfold cntO
  by_cases h3 : k = 3
  · subst h3
    go_enter Tryz.func23, Tryz.ntmps23
    go_wp2
    go_ret
    exact ⟨rfl, rfl⟩
  · by_cases h7 : k = 7
    · subst h7
      go_enter Tryz.func23, Tryz.ntmps23
      go_wp2
      go_ret
      exact ⟨rfl, rfl⟩
    · by_cases h6 : k = 6
      · subst h6
        go_enter Tryz.func23, Tryz.ntmps23
        go_wp2
        go_ret
        exact ⟨rfl, rfl⟩
      · rw [if_neg (by omega), if_neg h6]
        have e3 : (k == 3) = false := beq_eq_false_iff_ne.2 h3
        have e7 : (k == 7) = false := beq_eq_false_iff_ne.2 h7
        have e6 : (k == 6) = false := beq_eq_false_iff_ne.2 h6
        go_enter Tryz.func23, Tryz.ntmps23
        go_wp2
        go_ret
        exact ⟨rfl, rfl⟩
end Go.Proofs.YtnhoeboighndlaaGreatDoor.pgm.asm
