/-
  The statements on instructions' bytes, walked over the bundle: which instruction bytes begin with, that an instruction comes back, and that no bytes are another's. No condition but the bundle.
-/
import Derived.Test.YtaefkkhmhogpeaaDoorJSpec
import Derived.WalkSpells
namespace Go.Proofs.YtaefkkhmhogpeaaDoor.inst
open Go.RowKit Go.ChangeShapes
open Go.Proofs.YtaefkkhmhogpeaaDoor.oper (ret_int ret_bool ret_string)
open Go.Proofs.YtaefkkhmhogpeaaDoor.octet (size_mk mk_append)
set_option linter.unusedVariables false

theorem ins_cells {w1 w2 : World} {o a b : Int} (hb : Below (w1.alloc (.cells #[.int .i64 o, .int .i64 a, .int .i64 b] 23)).heap.size (w1.alloc (.cells #[.int .i64 o, .int .i64 a, .int .i64 b] 23)) w2) :
    w2.heap[w1.heap.size]? = some (.cells #[.int .i64 o, .int .i64 a, .int .i64 b] 23 (0, 0)) := (hb.block _ (by simp)).trans (heap_alloc_new w1 _)

set_option maxHeartbeats 2000000 in
theorem gets_walk {Ok : World → Prop} (K : Keeps Ok) (t : ByteArray) (ht : t.size ≤ 140737488355328) (w : World) (hw : Ok w) :
    Calls Tryd.prog 4 #[.string t] w fun e w' => e = .returned (.bool true) ∧ Below w.heap.size w w' := by
  have HI := fun W hW => Lib.hid (K.get t W ht hW)
  have HR := fun W => Lib.hid (refGet_any W t ht)
  have HL := fun W hW => Lib.hid (lives_any K W hW)
  have HM := Lib.hid K.mono
  have HW := Lib.hid hw
  unfold GotPost at HI HR
  clear K hw
  generalize getI t.data.toList = g at *
  obtain ⟨o, a, b, n, e⟩ := g
  dsimp only at HI HR
  go_enter Tryd.func4, Tryd.ntmps4
  go_wp2_with fail
  refine (HI _ HW.out).out.mono ?_
  rintro _ w1 ⟨rfl, hb1⟩
  have HB1 := Lib.hid hb1
  clear hb1
  go_wp2_with fail
  refine (HR _).out.mono ?_
  rintro _ w2 ⟨rfl, hb2⟩
  obtain ⟨p0, p1, p2, _, _, _⟩ := cells3 (ins_cells hb2)
  have hlt : w1.heap.size < w2.heap.size := by have := hb2.size; simp at this; omega
  have HB2 := Lib.hid (((HB1.out.alloc HB1.out.size (.cells #[.int .i64 o, .int .i64 a, .int .i64 b] 23)).trans (hb2.mono (by have := HB1.out.size; simp; omega))).alloc (by have := HB1.out.size; omega) (.cells #[.int .i64 o, .int .i64 a, .int .i64 b] 23))
  clear hb2
  go_wp2_with fail
  refine (HL _ (HM.out _ _ HW.out HB2.out)).out.mono ?_
  rintro _ w3 ⟨rfl, hb3⟩
  go_wp2
  go_ret
  exact ⟨rfl, HB2.out.trans (hb3.mono HB2.out.size)⟩

set_option maxHeartbeats 2000000 in
theorem once_walk {Ok : World → Prop} (K : Keeps Ok) (t : ByteArray) (ht : t.size ≤ 140737488355328) (w : World) (hw : Ok w) :
    Calls Tryd.prog 6 #[.string t] w fun e w' => e = .returned (.bool true) ∧ Below w.heap.size w w' := by
  have HI := fun W hW => Lib.hid (K.get t W ht hW)
  have HL := fun W hW => Lib.hid (lives_any K W hW)
  have HM := Lib.hid K.mono
  have HW := Lib.hid hw
  unfold GotPost at HI
  clear hw
  by_cases he : (getI t.data.toList).e = 0
  · obtain ⟨h1, h2, h3, h4⟩ := once he
    have hi := chk_i64 _ _ _ h1
    have HP := fun W hW => Lib.hid (K.put _ _ _ W hi.1 hi.2.1 hi.2.2 hW)
    unfold putL at HP
    rw [if_pos h1, h1, h4] at HP
    rw [← size_list] at h3
    rw [he] at HI
    clear h1 h4 he K hi
    generalize getI t.data.toList = g at *
    obtain ⟨o, a, b, n, e⟩ := g
    dsimp only at HI HP h2 h3
    have hx : (t.data.toList.take n == (t.extract 0 n).toList) = true := by rw [Lib.extract_toList, List.drop_zero, Nat.sub_zero, beq_self_eq_true]
    have hq := size_mk (t.data.toList.take n)
    have hn0 : (0 : Int) < (n : Int) := by omega
    have hn1 : (n : Int) ≤ (t.size : Int) := by omega
    generalize t.data.toList.take n = q at *
    go_enter Tryd.func6, Tryd.ntmps6
    go_wp2_with fail
    refine (HI _ HW.out).out.mono ?_
    rintro _ w1 ⟨rfl, hb1⟩
    have HB1 := Lib.hid (hb1.alloc hb1.size (.cells #[.int .i64 o, .int .i64 a, .int .i64 b] 23))
    clear hb1
    go_wp2_with fail
    refine (HP _ (HM.out _ _ HW.out HB1.out)).out.mono ?_
    rintro _ w2 ⟨rfl, hb2⟩
    have HB2 := Lib.hid (HB1.out.trans (hb2.mono HB1.out.size))
    clear hb2
    go_wp2_with fail
    refine (HL _ (HM.out _ _ HW.out HB2.out)).out.mono ?_
    rintro _ w3 ⟨rfl, hb3⟩
    go_wp2
    go_ret
    exact ⟨rfl, HB2.out.trans (hb3.mono HB2.out.size)⟩
  · have hbad := got_bad he
    generalize (getI t.data.toList).e = ce at *
    rw [hbad] at HI
    unfold Got.bad at HI
    dsimp only at HI
    have he' : ((ce : Int) != 0) = true := by simpa using he
    clear he hbad K
    go_enter Tryd.func6, Tryd.ntmps6
    go_wp2_with fail
    refine (HI _ HW.out).out.mono ?_
    rintro _ w1 ⟨rfl, hb1⟩
    have HB1 := Lib.hid (hb1.alloc hb1.size (.cells #[.int .i64 0, .int .i64 0, .int .i64 0] 23))
    clear hb1
    go_wp2_with fail
    refine (HL _ (HM.out _ _ HW.out HB1.out)).out.mono ?_
    rintro _ w3 ⟨rfl, hb3⟩
    go_wp2
    go_ret
    exact ⟨rfl, HB1.out.trans (hb3.mono HB1.out.size)⟩

set_option maxHeartbeats 2000000 in
theorem back_walk {Ok : World → Prop} (K : Keeps Ok) (o a b : Int) (ho : I64 o) (ha : I64 a) (hb : I64 b) (t : ByteArray) (ht : t.size ≤ 140737488351232) (w : World) (hw : Ok w) :
    Calls Tryd.prog 5 #[.agg #[.int .i64 o, .int .i64 a, .int .i64 b], .string t] w fun e w' => e = .returned (.bool true) ∧ Below w.heap.size w w' := by
  have HR := fun W => Lib.hid (refCheck_any o a b W)
  have HL := fun W hW => Lib.hid (lives_any K W hW)
  have HM := Lib.hid K.mono
  have HW := Lib.hid hw
  have BX0 := Lib.hid (box_new w o a b)
  clear hw
  by_cases hz : chk o a b = 0
  · have HP := fun W hW => Lib.hid (K.put o a b W ho ha hb hW)
    unfold putL at HP
    rw [if_pos hz, hz] at HP
    have hql := encI_le o a b
    have hqs := size_mk (encI o a b)
    have hdl : (ByteArray.mk (encI o a b).toArray ++ t).data.toList = encI o a b ++ t.data.toList := by rw [ByteArray.data_append, Array.toList_append]
    have hds : (ByteArray.mk (encI o a b).toArray ++ t).size = (encI o a b).length + t.size := by rw [size_list, hdl, List.length_append, ← size_list]
    have HG := fun W hW => Lib.hid (K.get (ByteArray.mk (encI o a b).toArray ++ t) W (by omega) hW)
    rw [hdl, back hz] at HG
    unfold GotPost at HG
    dsimp only at HG
    rw [hz] at HR
    have HDS := Lib.hid hds
    clear hz hdl hds K ho ha hb
    generalize encI o a b = q at *
    go_enter Tryd.func5, Tryd.ntmps5
    go_wp2_with fail
    refine (HR _).out.mono ?_
    rintro _ w1 ⟨rfl, hb⟩
    have BX1 := Lib.hid (BX0.out.next hb)
    obtain ⟨p0, p1, p2, _, _, _⟩ := cells3 BX1.out.blk
    clear hb
    go_wp2_with fail
    refine (HP _ (HM.out _ _ HW.out BX1.out.below)).out.mono ?_
    rintro _ w2 ⟨rfl, hb⟩
    have BX2 := Lib.hid (BX1.out.next hb)
    obtain ⟨p0, p1, p2, _, _, _⟩ := cells3 BX2.out.blk
    clear hb
    go_wp2_with fail
    refine (HG _ (HM.out _ _ HW.out BX2.out.below)).out.mono ?_
    rintro _ w3 ⟨rfl, hb⟩
    have BX3 := Lib.hid ((BX2.out.next hb).next ((Below.refl _ _).alloc (Nat.le_refl _) (.cells #[.int .i64 o, .int .i64 a, .int .i64 b] 23)))
    obtain ⟨p0, p1, p2, _, _, _⟩ := cells3 BX3.out.blk
    clear hb
    go_wp2_with fail
    refine (HL _ (HM.out _ _ HW.out BX3.out.below)).out.mono ?_
    rintro _ w4 ⟨rfl, hb⟩
    go_wp2
    go_ret
    exact ⟨rfl, (BX3.out.next hb).below⟩
  · have hz1 : ((chk o a b : Int) != 0) = true := by simpa using hz
    clear hz K ho ha hb
    generalize chk o a b = ce at *
    go_enter Tryd.func5, Tryd.ntmps5
    go_wp2_with fail
    refine (HR _).out.mono ?_
    rintro _ w1 ⟨rfl, hb⟩
    have BX1 := Lib.hid (BX0.out.next hb)
    clear hb
    go_wp2_with fail
    refine (HL _ (HM.out _ _ HW.out BX1.out.below)).out.mono ?_
    rintro _ w2 ⟨rfl, hb⟩
    go_wp2
    go_ret
    exact ⟨rfl, (BX1.out.next hb).below⟩
end Go.Proofs.YtaefkkhmhogpeaaDoor.inst
