/-
  Texts of one claim in one file: ERefPut. Each has its own sentence, with its conditions.
-/
import Derived.Test.YtahejekcfgkiaaaGreatDoorGall11
import Derived.Test.YtahejekcfgkiaaaGreatDoorGall10
/-
  The document's own bytes of a wait. No condition but that its numbers are small.
-/
namespace Go.Proofs.YtahejekcfgkiaaaGreatDoor.need
open Go.RowKit Go.ChangeShapes
open Go.Proofs.YtahejekcfgkiaaaGreatDoor.octet (mk_append size_mk refNumW_any num num_length_le Fits)
open Go.Proofs.YtahejekcfgkiaaaGreatDoor.objs (De zero CellsAt DAt)
set_option linter.unusedVariables false

/-- What the bytes of a need ask of its numbers. -/
def Slim9 (n : De) : Prop := (1 ≤ n.1 ∧ n.1 ≤ 5) ∧ (0 ≤ n.2.1 ∧ n.2.1 ≤ 1000) ∧ (0 ≤ n.2.2 ∧ n.2.2 ≤ 1000)
/-- While a need is put: the wait, and the need that is put, in a block of its own. -/
structure P9 (w : World) (A : Option Addr) (l : List (List De)) (g : Nat) (k a b : Int) (W : World) : Prop where
  list : WAt W A l
  below : Below w.heap.size w W
  box : W.heap[g]? = some (needBox k a b)
theorem P9.next {w W W' : World} {A : Option Addr} {l : List (List De)} {g : Nat} {k a b : Int} (h : P9 w A l g k a b W) (hb : Below W.heap.size W W') : P9 w A l g k a b W' :=
  ⟨h.list.next hb, h.below.trans (hb.mono h.below.size), (hb.block g (lt_of_block h.box)).trans h.box⟩
theorem P9.cells {w W : World} {A : Option Addr} {l : List (List De)} {g : Nat} {k a b : Int} (h : P9 w A l g k a b W) :
    W.cell? ⟨g, 0, none⟩ = some (.int .i64 k) ∧ W.cell? ⟨g, 1, none⟩ = some (.int .i64 a) ∧ W.cell? ⟨g, 2, none⟩ = some (.int .i64 b) := by
  unfold World.cell?
  rw [h.box]
  exact ⟨rfl, rfl, rfl⟩
theorem p9_new {w wr : World} {A : Option Addr} {l : List (List De)} (k a b : Int) (hA : WAt wr A l) (hb : Below w.heap.size w wr) : P9 w A l wr.heap.size k a b (wr.alloc (needBox k a b)) :=
  ⟨hA.next ((Below.refl _ _).alloc (Nat.le_refl _) _), hb.alloc hb.size _, heap_alloc_new wr _⟩

set_option maxRecDepth 100000 in
set_option maxHeartbeats 16000000 in
theorem refPut9_any (A : Option Addr) (cap : Nat) (l : List (List De)) (hl : l.length ≤ 6) (hll : ∀ x ∈ l, x.length ≤ 6) (hs : ∀ x ∈ l, ∀ t ∈ x, Slim9 t) (w : World) (hA : WAt w A l) :
    Calls Tryz.prog 30 #[.slice A l.length cap] w fun e w' => e = .returned (.string ⟨(encW l).toArray⟩) ∧ Below w.heap.size w w' := by
  have HL := Lib.hid hll
  have HS := Lib.hid hs
  have HW : Hid (encW l = num l.length ++ encWs l l.length) := Lib.hid rfl
  rw [HW.out]
  have HN := fun W (m : Nat) (hm : m ≤ 1000) => Lib.hid (refNumW_any W m (by unfold Fits; omega))
  have HA := Lib.hid hA
  clear hA hs hll HW
  have HN0 := HN w l.length (by omega)
  have hwl := num_length_le l.length
  go_enter Tryz.func30, Tryz.ntmps30
  go_wp2_with fail
  refine HN0.out.mono ?_
  rintro e w1 ⟨rfl, hb1⟩
  have HB1 := Lib.hid hb1
  clear hb1 HN0
  go_wp2_with fail
  go_loopw [3, 4] (fun t i wr => ∃ j : Nat, j ≤ l.length ∧ i = .int .i64 (j : Int) ∧ t = .string ⟨(num l.length ++ encWs l j).toArray⟩ ∧ Hid (Below w.heap.size w wr)) (fun _ i _ => l.length - (intOf i).toNat)
  case atStart => exact ⟨0, Nat.zero_le _, rfl, by simp [encWs], HB1⟩
  case round =>
    obtain ⟨j, hj, rfl, rfl, HB⟩ := hrel
    by_cases hlt : j < l.length
    · obtain ⟨b, off, Aj, cj, rfl, hbl, hc, hdj⟩ := (HA.out.next HB.out) j hlt
      have HD0 := Lib.hid (HA.out j hlt)
      have hlt' : (j : Int) < (l.length : Int) := by omega
      have hj0 : (0 : Int) ≤ (j : Int) := by omega
      have hlj := HL.out _ (getW_mem hlt)
      have HSj := Lib.hid (HS.out _ (getW_mem hlt))
      have HE : Hid (num l.length ++ encWs l (j + 1) = (num l.length ++ encWs l j) ++ num (l.getD j []).length ++ encNs (l.getD j []) (l.getD j []).length) := Lib.hid (by simp only [encWs, encWay, List.append_assoc])
      have hpre : (num l.length ++ encWs l j).length ≤ 1000 := by
        have h2 := encWs_le HL.out j (by omega)
        rw [List.length_append]
        omega
      generalize num l.length ++ encWs l j = pre at *
      generalize hgj : l.getD j [] = lj at *
      have HNj := HN wr lj.length (by omega)
      have hwj := num_length_le lj.length
      have hs1 := size_mk pre
      have hs2 := size_mk (num lj.length)
      have hpn : (pre ++ num lj.length).length ≤ 1010 := by rw [List.length_append]; omega
      have HPN : Hid (ByteArray.mk pre.toArray ++ ByteArray.mk (num lj.length).toArray = ByteArray.mk (pre ++ num lj.length).toArray) := Lib.hid (mk_append _ _)
      go_wp2_with fail
      refine HNj.out.mono ?_
      rintro e w2 ⟨rfl, hb2⟩
      have HB2 := Lib.hid (HB.out.trans (hb2.mono HB.out.size))
      clear hb2 HNj hc hdj
      go_wp2_with fail
      simp only [HPN.out]
      generalize pre ++ num lj.length = pn at *
      go_loopw [3, 5] (fun t i wr => ∃ k : Nat, k ≤ lj.length ∧ i = .int .i64 (k : Int) ∧ t = .string ⟨(pn ++ encNs lj k).toArray⟩ ∧ Hid (Below w.heap.size w wr)) (fun _ i _ => lj.length - (intOf i).toNat)
      case atStart => exact ⟨0, Nat.zero_le _, rfl, by simp [encNs], HB2⟩
      case round =>
        obtain ⟨k, hk, rfl, rfl, HBk⟩ := hrel
        obtain ⟨bA, offA, AjA, cjA, hAe, hblA, hcA, hdA⟩ := (HA.out.next HBk.out) j hlt
        injection hAe with hAe
        injection hAe with hAe1 hAe2
        subst hAe1 hAe2
        rw [hgj] at hcA hdA
        by_cases hlk : k < lj.length
        · obtain ⟨b2, off2, rfl, hbl2, c0, c1, c2⟩ := hdA k hlk
          have hlk' : (k : Int) < (lj.length : Int) := by omega
          have hk0 : (0 : Int) ≤ (k : Int) := by omega
          have hsl := HSj.out _ (getD_mem hlk)
          have HEk : Hid (pn ++ encNs lj (k + 1) = (pn ++ encNs lj k) ++ encN (lj.getD k zero)) := Lib.hid (by simp only [encNs, List.append_assoc])
          have hpk : (pn ++ encNs lj k).length ≤ 1200 := by
            have h2 := encNs_le lj k
            rw [List.length_append]
            omega
          generalize pn ++ encNs lj k = pk at *
          generalize lj.getD k zero = t at *
          obtain ⟨tk, tob, tn⟩ := t
          obtain ⟨⟨g1, g2⟩, ⟨g3, g4⟩, g5, g6⟩ := hsl
          dsimp only at g1 g2 g3 g4 g5 g6 c0 c1 c2 HEk
          obtain ⟨mo, rfl⟩ : ∃ m : Nat, tob = (m : Int) := ⟨tob.toNat, by omega⟩
          obtain ⟨mn, rfl⟩ : ∃ m : Nat, tn = (m : Int) := ⟨tn.toNat, by omega⟩
          have HP := Lib.hid (p9_new (k := tk) (a := (mo : Int)) (b := (mn : Int)) (HA.out.next HBk.out) HBk.out)
          have hmo : mo ≤ 1000 := by omega
          have hmn : mn ≤ 1000 := by omega
          unfold needBox at HP
          obtain ⟨bk, hbk⟩ : ∃ bk, bk = UInt8.ofNat tk.toNat := ⟨_, rfl⟩
          have hx : (bk.toNat : Int) = tk := by rw [hbk, UInt8.toNat_ofNat']; omega
          have HEn : Hid (pk ++ encN (tk, (mo : Int), (mn : Int)) = ((pk ++ [bk]) ++ num mo) ++ pieceN tk (mn : Int)) := Lib.hid (by rw [hbk]; simp [encN])
          have hu8 : IntKind.u8.wrap tk = tk := by simp [IntKind.wrap, IntKind.signed, IntKind.bits]; omega
          have hwm : IntKind.u64.wrap (mo : Int) = (mo : Int) := by rw [IntKind.wrap_u64]; omega
          have hr1 : ∀ W : World, (convert 57 9 (.slice (some ⟨W.heap.size, 0, none⟩) 1 1)).run Tryz.prog (W.alloc (.cells #[.int .u8 tk] 5)) = .ok (.string ⟨[bk].toArray⟩) (W.alloc (.cells #[.int .u8 tk] 5)) := fun W => run_byte_at _ _ tk bk hx (cell_of_one (heap_alloc_new W _))
          have hr2 := fun v b => run_byte_at v b tk bk hx
          have HNo := fun W => HN W mo hmo
          have HNn := fun W => HN W mn hmn
          have hwo := num_length_le mo
          have hwn := num_length_le mn
          have z1 := size_mk pk
          have z2 : (ByteArray.mk #[bk]).size = 1 := rfl
          have z3 := size_mk (num mo)
          have z4 : (ByteArray.mk pk.toArray ++ ByteArray.mk #[bk]).size = pk.length + 1 := by rw [show (ByteArray.mk #[bk]) = ByteArray.mk [bk].toArray from rfl, mk_append, size_mk, List.length_append]; rfl
          have HM1 : Hid (ByteArray.mk pk.toArray ++ ByteArray.mk #[bk] ++ ByteArray.mk (num mo).toArray = ByteArray.mk ((pk ++ [bk]) ++ num mo).toArray) := Lib.hid (by rw [show (ByteArray.mk #[bk]) = ByteArray.mk [bk].toArray from rfl, mk_append, mk_append])
          have hpq : (((pk ++ [bk]) ++ num mo)).length ≤ 1211 := by rw [List.length_append, List.length_append]; simp; omega
          have HPN : Hid (pieceN tk (mn : Int) = if 3 < tk then num mn else []) := Lib.hid (by unfold pieceN; rw [Int.toNat_natCast])
          generalize num mo = no at *
          clear hbk hx HN
          go_upto_region 10 with fail
          clear c0 c1 c2 hcA hdA
          generalize wr.alloc (.cells #[.int .i64 tk, .int .i64 (mo : Int), .int .i64 (mn : Int)] 93) = W4 at *
          generalize wr.heap.size = g at *
          go_cut [3, 6] (fun s p wx => s = .string ⟨((pk ++ [bk]) ++ no).toArray⟩ ∧ p = .pointer (some ⟨g, 0, none⟩) ∧ Hid (P9 w (some ⟨b, off, none⟩) l g tk (mo : Int) (mn : Int) wx))
          case first =>
            obtain ⟨d0, d1, d2⟩ := HP.out.cells
            have hgl : g < W4.heap.size := lt_of_block HP.out.box
            go_region_with ((go_at_call 29; refine (HNo _).out.mono ?_; rintro e w5 ⟨rfl, hb5⟩; (try (have hcc : w5.cell? ⟨W4.heap.size, 0, none⟩ = some (.int .u8 tk) := (hb5.cell (p := ⟨W4.heap.size, 0, none⟩) (by simp)).trans (cell_of_one (heap_alloc_new W4 _)))); (try (have q0 : w5.cell? ⟨g, 0, none⟩ = some (.int .i64 tk) := (hb5.cell (p := ⟨g, 0, none⟩) hgl).trans d0))))
            all_goals
              first
                | (have HP5 := Lib.hid (HP.out.next (((Below.refl W4.heap.size W4).drew.trans hb5).alloc hb5.size (.cells #[.int .u8 tk] 5))); clear hb5; go_wp2_with fail; go_meet; exact ⟨by rw [HM1.out], rfl, HP5⟩)
                | (have HP5 := Lib.hid (HP.out.next (((Below.refl W4.heap.size W4).alloc (Nat.le_refl _) (.cells #[.int .u8 tk] 5)).drew.trans (hb5.mono (by simp)))); clear hb5; go_wp2_with fail; go_meet; exact ⟨by rw [HM1.out], rfl, HP5⟩)
          case rest =>
            obtain ⟨rfl, rfl, HP5⟩ := hcut
            generalize (pk ++ [bk]) ++ no = pq at *
            have zq := size_mk pq
            have zn := size_mk (num mn)
            have hwm2 : IntKind.u64.wrap (mn : Int) = (mn : Int) := by rw [IntKind.wrap_u64]; omega
            clear HM1 HP hr1 hr2 z1 z2 z3 z4 hu8 hwm HNo
            (rename (∀ (a : Act) (w : World), Code.wp _ _ _ a w → _) => hK; refine hK _ _ ?_; clear hK; apply wp_seq_k; intro _ _)
            obtain ⟨d0, d1, d2⟩ := HP5.out.cells
            by_cases h3 : 3 < tk
            · have q3 : decide (3 < tk) = true := by simpa using h3
              have HF : Hid (pk ++ encN (tk, (mo : Int), (mn : Int)) = pq ++ num mn) := Lib.hid (by rw [HEn.out, HPN.out, if_pos h3])
              clear h3 HEn HPN
              generalize num mn = nn at *
              go_wp2_with fail
              refine (HNn _).out.mono ?_
              rintro e w6 ⟨rfl, hb6⟩
              have HB6 := Lib.hid (HP5.out.next hb6).below
              clear hb6
              go_wp2
              go_roundw
              case rel => exact ⟨k + 1, by omega, by go_num, by rw [HEk.out, HF.out, ← mk_append], HB6⟩
              case measure => simp [intOf]; omega
            · have q3 : decide (3 < tk) = false := by simpa using h3
              have HF : Hid (pk ++ encN (tk, (mo : Int), (mn : Int)) = pq) := Lib.hid (by rw [HEn.out, HPN.out, if_neg h3, List.append_nil])
              clear h3 HEn HPN
              have HB6 := Lib.hid HP5.out.below
              go_wp2
              go_roundw
              case rel => exact ⟨k + 1, by omega, by go_num, by rw [HEk.out, HF.out], HB6⟩
              case measure => simp [intOf]; omega
        · obtain rfl : k = lj.length := by omega
          go_wp2_with fail
          go_roundw
          case rel => exact ⟨j + 1, by omega, by go_num, by rw [HE.out], HBk⟩
          case measure => simp [intOf]; omega
    · obtain rfl : j = l.length := by omega
      go_wp2_with fail
      go_ret
      exact ⟨rfl, HB.out⟩
end Go.Proofs.YtahejekcfgkiaaaGreatDoor.need
