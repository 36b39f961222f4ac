/-
  Texts of one claim in one file: DRefPut. Each has its own sentence, with its conditions.
-/
import Derived.Test.YtahejekcfgkiaaaGreatDoorGall9
import Derived.Test.YtahejekcfgkiaaaGreatDoorGall3
/-
  The document's own bytes of objects that may be. No condition but that they may be.
-/
namespace Go.Proofs.YtahejekcfgkiaaaGreatDoor.objs
open Go.RowKit Go.ChangeShapes
open Go.Proofs.YtahejekcfgkiaaaGreatDoor.octet (run_one mk_append size_mk refNumW_any refIntW_any num zig num_length_le Fits)
open Go.Proofs.YtahejekcfgkiaaaGreatDoor.word (Word)
set_option linter.unusedVariables false

/-- While objects are put: the list, and the one that is put, in a block of its own. -/
structure PS (w : World) (A : Option Addr) (l : List De) (g : Nat) (k a b : Int) (W : World) : Prop where
  list : DAt W A l
  below : Below w.heap.size w W
  box : W.heap[g]? = some (declBox k a b)
  old : w.heap.size ≤ g
theorem PS.next {w W W' : World} {A : Option Addr} {l : List De} {g : Nat} {k a b : Int} (h : PS w A l g k a b W) (hb : Below W.heap.size W W') : PS w A l g k a b W' :=
  ⟨h.list.next hb, h.below.trans (hb.mono h.below.size), (hb.block g (lt_of_block h.box)).trans h.box, h.old⟩
theorem PS.cells {w W : World} {A : Option Addr} {l : List De} {g : Nat} {k a b : Int} (h : PS w A l g k a b W) :
    W.cell? ⟨g, 0, none⟩ = some (.int .i64 k) ∧ W.cell? ⟨g, 1, none⟩ = some (.int .i64 a) ∧ W.cell? ⟨g, 2, none⟩ = some (.int .i64 b) := by
  have := h.box
  unfold World.cell?
  rw [this]
  exact ⟨rfl, rfl, rfl⟩
theorem ps_new {w wr : World} {A : Option Addr} {l : List De} {k a b : Int} (hA : DAt wr A l) (hb : Below w.heap.size w wr) : PS w A l wr.heap.size k a b (wr.alloc (declBox k a b)) :=
  ⟨hA.next ((Below.refl _ _).alloc (Nat.le_refl _) _), hb.alloc hb.size _, heap_alloc_new wr _, hb.size⟩

/-- The first part of the bytes, the kind's one, and a number's. -/
def PutInv (w : World) (A : Option Addr) (l : List De) (t i : Value) (wr : World) : Prop :=
  ∃ j : Nat, j ≤ l.length ∧ i = .int .i64 (j : Int) ∧ t = .string ⟨(num l.length ++ encs l j).toArray⟩ ∧ Hid (DAt wr A l ∧ Below w.heap.size w wr)

set_option maxRecDepth 100000 in
set_option maxHeartbeats 8000000 in
theorem refPut_any (A : Option Addr) (cap : Nat) (l : List De) (hz : (chk l).2 = 0) (w : World) (hA : DAt w A l) :
    Calls Tryz.prog 28 #[.slice A l.length cap] w fun e w' => e = .returned (.string ⟨(encL l).toArray⟩) ∧ Below w.heap.size w w' := by
  obtain ⟨h32, _, hall⟩ := chk_zero hz
  have HL := Lib.hid hall
  have HW : Hid (encL l = num l.length ++ encs l l.length) := Lib.hid rfl
  rw [HW.out]
  have HN := fun W => Lib.hid (refNumW_any W l.length (by unfold Fits; omega))
  have HA := Lib.hid hA
  clear hA hz hall HW
  go_enter Tryz.func28, Tryz.ntmps28
  go_wp2_with fail
  refine (HN _).out.mono ?_
  rintro e w1 ⟨rfl, hb1⟩
  have HA1 := Lib.hid (And.intro (HA.out.next hb1) hb1)
  clear hb1 HA HN
  go_wp2_with fail
  go_loopw [3, 4] (PutInv w A l) (fun _ i _ => l.length - (intOf i).toNat)
  case atStart => exact ⟨0, Nat.zero_le _, rfl, by simp [encs], HA1⟩
  case round =>
    obtain ⟨j, hj, rfl, rfl, HS⟩ := hrel
    by_cases hlt : j < l.length
    · obtain ⟨b0, off, rfl, hb, c0, c1, c2⟩ := HS.out.1 j hlt
      have hlt' : (j : Int) < (l.length : Int) := by omega
      have hone0 := HL.out j hlt
      have HE : Hid (num l.length ++ encs l (j + 1) = (num l.length ++ encs l j) ++ encD (l.getD j zero)) := Lib.hid (by simp only [encs, List.append_assoc])
      have hlen : (num l.length ++ encs l j).length ≤ 700 := by
        have h1 := num_length_le l.length
        have h2 := encs_le l j
        rw [List.length_append]
        omega
      generalize num l.length ++ encs l j = pre at *
      generalize hd : l.getD j zero = d at *
      obtain ⟨k, a, b⟩ := d
      clear hd
      obtain ⟨hk, h3, h6, h7, hbz, haz⟩ := one_zero hone0
      dsimp only at hk h3 h6 h7 hbz haz c0 c1 c2
      have hk1 := hk.1
      have hk7 := hk.2
      clear hone0 hk
      have HP := Lib.hid (ps_new (k := k) (a := a) (b := b) HS.out.1 HS.out.2)
      unfold declBox at HP
      clear HS
      go_upto_region 6 with fail
      clear c0 c1 c2
      generalize wr.heap.size = g at *
      generalize wr.alloc (.cells #[.int .i64 k, .int .i64 a, .int .i64 b] 44) = W2 at *
      have hone := run_one W2 k (UInt8.ofNat k.toNat) (by rw [UInt8.toNat_ofNat']; omega)
      obtain ⟨c0, c1, c2⟩ := HP.out.cells
      have hs1 := size_mk pre
      have hs2 := size_mk [UInt8.ofNat k.toNat]
      have HP3 := Lib.hid (HP.out.next ((Below.refl W2.heap.size W2).alloc (Nat.le_refl _) (.cells #[.int .u8 k] 5)))
      go_upto_region 7 with fail
      clear hone c0 c1 c2 HP
      generalize W2.alloc (.cells #[.int .u8 k] 5) = W3 at *
      obtain ⟨c0, c1, c2⟩ := HP3.out.cells
      generalize hh : UInt8.ofNat k.toNat = h0 at *
      have HEn : Hid (encD (k, a, b) = [h0] ++ (pieceA k a ++ pieceB k b)) := Lib.hid (by rw [← hh]; rfl)
      clear hh
      by_cases e3 : k = 3
      · subst e3
        have hr := h3 rfl
        obtain ⟨m, rfl⟩ : ∃ m : Nat, a = (m : Int) := ⟨a.toNat, by omega⟩
        obtain ⟨n, rfl⟩ : ∃ n : Nat, b = (n : Int) := ⟨b.toNat, by omega⟩
        have HA' : Hid (pieceA 3 (m : Int) = num m) := Lib.hid rfl
        have HB' : Hid (pieceB 3 (n : Int) = num n) := Lib.hid rfl
        rw [HA'.out, HB'.out] at HEn
        have hs3 := size_mk (num m)
        have hs4 := size_mk (num n)
        have hn3 := num_length_le m
        have hn4 := num_length_le n
        have hm1 : m ≤ 1000 := by omega
        have hm2 : n ≤ 1000 := by omega
        have HNa := fun W => Lib.hid (refNumW_any W m (by unfold Fits; omega))
        have HNb := fun W => Lib.hid (refNumW_any W n (by unfold Fits; omega))
        clear h3 h6 h7 hbz haz hr hk1 hk7 HA' HB'
        generalize num m = p at *
        generalize num n = q at *
        go_wp2_with fail
        refine (HNa _).out.mono ?_
        rintro e w4 ⟨rfl, hb4⟩
        have HP4 := Lib.hid (HP3.out.next hb4)
        clear hb4 c0 c1 c2
        obtain ⟨c0, c1, c2⟩ := HP4.out.cells
        go_wp2_with fail
        refine (HNb _).out.mono ?_
        rintro e w5 ⟨rfl, hb5⟩
        have HP5 := Lib.hid (HP4.out.next hb5)
        clear hb5 c0 c1 c2
        go_wp2
        go_roundw
        case rel => exact ⟨j + 1, by omega, by go_num, by rw [HE.out, HEn.out]; simp only [← mk_append, ByteArray.append_assoc], Lib.hid ⟨HP5.out.list, HP5.out.below⟩⟩
        case measure => simp [intOf]; omega
      · by_cases e6 : k = 6
        · subst e6
          have hr := h6 rfl
          obtain ⟨m, rfl⟩ : ∃ m : Nat, a = (m : Int) := ⟨a.toNat, by omega⟩
          have HA' : Hid (pieceA 6 (m : Int) = num m) := Lib.hid rfl
          have HB' : Hid (pieceB 6 b = []) := Lib.hid rfl
          rw [HA'.out, HB'.out, List.append_nil] at HEn
          have hs3 := size_mk (num m)
          have hn3 := num_length_le m
          have hm1 : m ≤ 1000 := by omega
          have HNa := fun W => Lib.hid (refNumW_any W m (by unfold Fits; omega))
          clear h3 h6 h7 hbz haz hr hk1 hk7 HA' HB' e3
          generalize num m = p at *
          go_wp2_with fail
          refine (HNa _).out.mono ?_
          rintro e w4 ⟨rfl, hb4⟩
          have HP4 := Lib.hid (HP3.out.next hb4)
          clear hb4 c0 c1 c2
          obtain ⟨c0, c1, c2⟩ := HP4.out.cells
          go_wp2
          go_roundw
          case rel => exact ⟨j + 1, by omega, by go_num, by rw [HE.out, HEn.out]; simp only [← mk_append, ByteArray.append_assoc], Lib.hid ⟨HP4.out.list, HP4.out.below⟩⟩
          case measure => simp [intOf]; omega
        · by_cases e7 : k = 7
          · subst e7
            obtain ⟨hw, hf⟩ := h7 rfl
            have hb' := fits_lt hf
            obtain ⟨n, rfl⟩ : ∃ n : Nat, b = (n : Int) := ⟨b.toNat, by omega⟩
            have HA' : Hid (pieceA 7 a = num (zig a)) := Lib.hid rfl
            have HB' : Hid (pieceB 7 (n : Int) = num n) := Lib.hid rfl
            rw [HA'.out, HB'.out] at HEn
            have hs3 := size_mk (num (zig a))
            have hs4 := size_mk (num n)
            have hn3 := num_length_le (zig a)
            have hn4 := num_length_le n
            have hm2 : n ≤ 32 := by omega
            unfold Word at hw
            have HNa := fun W => Lib.hid (refIntW_any W a (by omega) (by omega))
            have HNb := fun W => Lib.hid (refNumW_any W n (by unfold Fits; omega))
            clear h3 h6 h7 hbz haz hw hf hb' hk1 hk7 HA' HB' e3 e6
            generalize num (zig a) = p at *
            generalize num n = q at *
            go_wp2_with fail
            refine (HNa _).out.mono ?_
            rintro e w4 ⟨rfl, hb4⟩
            have HP4 := Lib.hid (HP3.out.next hb4)
            clear hb4 c0 c1 c2
            obtain ⟨c0, c1, c2⟩ := HP4.out.cells
            go_wp2_with fail
            refine (HNb _).out.mono ?_
            rintro e w5 ⟨rfl, hb5⟩
            have HP5 := Lib.hid (HP4.out.next hb5)
            clear hb5 c0 c1 c2
            go_wp2
            go_roundw
            case rel => exact ⟨j + 1, by omega, by go_num, by rw [HE.out, HEn.out]; simp only [← mk_append, ByteArray.append_assoc], Lib.hid ⟨HP5.out.list, HP5.out.below⟩⟩
            case measure => simp [intOf]; omega
          · have HA' : Hid (pieceA k a = []) := Lib.hid (by unfold pieceA; rw [if_neg (by omega), if_neg e7])
            have HB' : Hid (pieceB k b = []) := Lib.hid (by unfold pieceB; rw [if_neg (by omega)])
            rw [HA'.out, HB'.out, List.append_nil, List.append_nil] at HEn
            have d3 : (k == 3) = false := by simpa using e3
            have d6 : (k == 6) = false := by simpa using e6
            have d7 : (k == 7) = false := by simpa using e7
            clear h3 h6 h7 hbz haz hk1 hk7 HA' HB' e3 e6 e7
            go_wp2
            go_roundw
            case rel => exact ⟨j + 1, by omega, by go_num, by rw [HE.out, HEn.out]; simp only [← mk_append], Lib.hid ⟨HP3.out.list, HP3.out.below⟩⟩
            case measure => simp [intOf]; omega
    · obtain rfl : j = l.length := by omega
      go_wp2_with fail
      go_ret
      exact ⟨rfl, HS.out.2⟩
end Go.Proofs.YtahejekcfgkiaaaGreatDoor.objs
