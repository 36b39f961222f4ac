/-
  The walk of ProgBack. The tables must lie where their initialisers lay them; a text of at most two to the forty-seventh bytes.
-/
import Derived.Test.YtahejekcfgkiaaaGreatDoorGall26
namespace Go.Proofs.YtahejekcfgkiaaaGreatDoor.pgm
open Go.RowKit Go.ChangeShapes
open Go.Proofs.YtahejekcfgkiaaaGreatDoor.objs (De zero DAt cells3 put3 put3_same put3_far put3_below)
open Go.Proofs.YtahejekcfgkiaaaGreatDoor.octet (size_mk)
open Go.Proofs.YtahejekcfgkiaaaGreatDoor.objs (encL_le)
set_option linter.unusedVariables false

theorem ext_list (t : ByteArray) (n : Nat) : (t.extract 0 n).data.toList = t.data.toList.take n := by simp [ByteArray.data_extract]
theorem encP_bytes {p : Pg} (h : chkP p = 0) : (encP p).length ≤ 1000000 ∧ 3 ≤ (encP p).length := by
  obtain ⟨h1, h2, h3, h4, h5, h6⟩ := chkP_zero h
  have a1 := encL_le p.ds
  have a2 := Go.Proofs.YtahejekcfgkiaaaGreatDoor.octet.num_length_le p.ws.length
  have a3 := Go.Proofs.YtahejekcfgkiaaaGreatDoor.octet.num_length_le p.fs.length
  have a4 := encAll_le (e := Go.Proofs.YtahejekcfgkiaaaGreatDoor.need.encW) (d := []) (l := p.ws) (c := 554) (fun x hx => by
    obtain ⟨_, q1, q2⟩ := Go.Proofs.YtahejekcfgkiaaaGreatDoor.need.chkW_zero (h3 x hx)
    exact encW_le q1 (fun y hy => (q2 y hy).2.1)) p.ws.length (Nat.le_refl _)
  have a5 := encAll_le (e := encFn) (d := Fn.zero) (l := p.fs) (c := 4230) (fun f hf => encFn_le (chkFn_zero (h6 f hf)).2.2.1) p.fs.length (Nat.le_refl _)
  have a6 := (Go.Proofs.YtahejekcfgkiaaaGreatDoor.objs.chk_zero h1).1
  unfold encP
  simp only [List.length_append, List.length_cons, List.length_nil]
  omega

set_option maxRecDepth 100000 in
set_option maxHeartbeats 8000000 in
theorem back_walk (v : Value) (p : Pg) (t : ByteArray) (ht : t.size ≤ 140737488351232) (w : World) (hv : PG w v p) (hw : Okp w) :
    Calls Tryz.prog 5 #[v, .string t] w fun e w' => e = .returned (.bool true) ∧ Below w.heap.size w w' := by
  have hlen : p.ds.length ≤ 9223372036854775807 := by have := pg_len hv; omega
  have HRc := fun W h => Lib.hid (refCheck10_any v p W h)
  unfold NumPost at HRc
  have HL := fun W h => Lib.hid (lives_any W h)
  have HK := Lib.hid hw
  have HV := Lib.hid hv
  obtain ⟨A, B, C, na, nb, nc, ca, cb, cc, hve, -⟩ := id hv
  have hb0 : Below w.heap.size w (w.alloc (pgB (.slice A na ca) (.slice B nb cb) (.slice C nc cc))) := (Below.refl _ _).alloc (Nat.le_refl _) _
  have hx0 := heap_alloc_new w (pgB (.slice A na ca) (.slice B nb cb) (.slice C nc cc))
  by_cases hz : chkP p = 0
  · have HP0 := Lib.hid ((hv.whole hz).next hb0)
    have HOw := fun W h => Lib.hid (own10_any v p W h)
    unfold OwnPost10 at HOw
    have HPt := fun v W h1 h2 => Lib.hid (put_good v p hz W h1 h2)
    obtain ⟨hl1, hl2⟩ := encP_bytes hz
    have hqs := size_mk (encP p)
    have HG1 := fun W h => Lib.hid (get_any (encP p) W (by omega) h)
    have hr1 := back (rdI := rdIns) reads.back hz []
    rw [List.append_nil, if_neg (by simp)] at hr1
    rw [hr1] at HG1
    have hdl : (ByteArray.mk (encP p).toArray ++ t).data.toList = encP p ++ t.data.toList := by rw [ByteArray.data_append, Array.toList_append]
    have hds : (ByteArray.mk (encP p).toArray ++ t).size = (encP p).length + t.size := by rw [Go.Proofs.YtahejekcfgkiaaaGreatDoor.need.size_list, hdl, List.length_append, ← Go.Proofs.YtahejekcfgkiaaaGreatDoor.need.size_list]
    have HG2 := fun W h => Lib.hid (get_text (ByteArray.mk (encP p).toArray ++ t) W (by omega) h)
    rw [hdl, back (rdI := rdIns) reads.back hz] at HG2
    have hel : ((ByteArray.mk (encP p).toArray).extract 0 ((encP p).length - 1)).data.toList = (encP p).take ((encP p).length - 1) := by rw [ext_list]
    have hes : ((ByteArray.mk (encP p).toArray).extract 0 ((encP p).length - 1)).size = (encP p).length - 1 := by rw [Go.Proofs.YtahejekcfgkiaaaGreatDoor.need.size_list, hel, List.length_take]; omega
    have HG3 := fun W h => Lib.hid (get_text ((ByteArray.mk (encP p).toArray).extract 0 ((encP p).length - 1)) W (by omega) h)
    have hne := sooner (rdI := rdIns) reads hz (s := (encP p).take ((encP p).length - 1)) (more := (encP p).drop ((encP p).length - 1)) (List.take_append_drop _ _).symm (by
      intro h
      have := congrArg List.length h
      rw [List.length_drop] at this
      simp at this
      omega)
    rw [hel] at HG3
    unfold GotP at HG1 HG2 HG3
    dsimp only at HG1 HG2 HG3
    have HSm := fun v2 W h1 h2 => Lib.hid (same10_any v v2 p p (small_zero hz) (small_zero hz) W h1 h2)
    unfold SamePost10 at HSm
    rw [eqP_self] at HSm
    rw [hz] at HRc
    subst hve
    have HB0 := Lib.hid hb0
    have HX0 := Lib.hid hx0
    unfold pgB at HP0 HB0 HX0
    clear hv hw hlen hb0 hx0 hz hdl hds hel hes hr1
    generalize readP rdIns ((encP p).take ((encP p).length - 1)) = q3 at *
    obtain ⟨p3, e3⟩ := q3
    dsimp only at HG3 hne
    generalize hen : encP p = eb at *
    have hne' : ((e3 : Int) == 0) = false := by simpa using hne
    have hne2 : ((e3 : Int) != 0) = true := by simpa using hne
    have hm1 : ((eb.length : Int) - 1).toNat = eb.length - 1 := by omega
    have hm2 : (0 : Int) ≤ (eb.length : Int) - 1 := by omega
    have hm3 : (eb.length : Int) - 1 ≤ (eb.length : Int) := by omega
    go_enter Tryz.func5, Tryz.ntmps5
    go_upto_region 1 with fail
    generalize w.alloc (.cells #[.slice A na ca, .slice B nb cb, .slice C nc cc] 26) = W0 at *
    obtain ⟨x0, x1, x2, -, -, -⟩ := cells3 HX0.out
    have H1 := HRc _ ((HV.out.next HB0.out).head)
    go_wp2_with fail
    refine H1.out.mono ?_
    rintro _ w1 ⟨rfl, hb1⟩
    have HB1 := Lib.hid (HB0.out.trans (hb1.mono HB0.out.size))
    have HP1 := Lib.hid (HP0.out.next hb1)
    have HX1 := Lib.hid ((hb1.block _ (lt_of_block HX0.out)).trans HX0.out)
    clear hb1 H1 HRc HB0 HP0 HX0 x0 x1 x2
    obtain ⟨x0, x1, x2, -, -, -⟩ := cells3 HX1.out
    have H2 := HOw _ (HV.out.next HB1.out)
    go_wp2_with fail
    refine H2.out.mono ?_
    rintro _ w2 ⟨v2, rfl, hS2, hb2⟩
    have HB2 := Lib.hid (HB1.out.trans (hb2.mono HB1.out.size))
    have HP2 := Lib.hid (HP1.out.next hb2)
    have HX2 := Lib.hid ((hb2.block _ (lt_of_block HX1.out)).trans HX1.out)
    have H3 := HPt _ _ hS2.now.1 (HK.out.next HB2.out)
    clear hb2 H2 HOw HB1 HP1 HX1 x0 x1 x2 hS2 HPt
    go_wp2_with fail
    refine H3.out.mono ?_
    rintro _ w3 ⟨rfl, hb3⟩
    have HB3 := Lib.hid (HB2.out.trans (hb3.mono HB2.out.size))
    have HP3 := Lib.hid (HP2.out.next hb3)
    have HX3 := Lib.hid ((hb3.block _ (lt_of_block HX2.out)).trans HX2.out)
    have H4 := HG1 _ (HK.out.next HB3.out)
    clear hb3 H3 HB2 HP2 HX2 HG1
    go_wp2_with fail
    refine H4.out.mono ?_
    rintro _ w4 ⟨v4, rfl, hv4, hb4⟩
    obtain ⟨D, E, F, cd, ce, cf, hve, -⟩ := id hv4
    subst hve
    have hbx : Below w4.heap.size w4 (w4.alloc (.cells #[.slice D p.ds.length cd, .slice E p.ws.length ce, .slice F p.fs.length cf] 26)) := (Below.refl _ _).alloc (Nat.le_refl _) _
    have hb5 := hb4.trans (hbx.mono hb4.size)
    have HB4 := Lib.hid (HB3.out.trans (hb5.mono HB3.out.size))
    have HP4 := Lib.hid (HP3.out.next hb5)
    have HQ4 := Lib.hid (hv4.next hbx)
    obtain ⟨x0, x1, x2, -, -, -⟩ := cells3 ((hb5.block _ (lt_of_block HX3.out)).trans HX3.out)
    obtain ⟨y0, y1, y2, -, -, -⟩ := cells3 (heap_alloc_new w4 (.cells #[.slice D p.ds.length cd, .slice E p.ws.length ce, .slice F p.fs.length cf] 26))
    clear hb4 hbx hb5 hv4 H4 HB3 HP3 HX3
    go_upto_region 5 with fail
    generalize w4.alloc (.cells #[.slice D p.ds.length cd, .slice E p.ws.length ce, .slice F p.fs.length cf] 26) = W4 at *
    have H5 := HSm _ _ HP4.out HQ4.out
    go_wp2_with fail
    refine H5.out.mono ?_
    rintro _ w5 ⟨rfl, hb5⟩
    have HB5 := Lib.hid (HB4.out.trans (hb5.mono HB4.out.size))
    clear hb5 H5 HSm HB4 HP4 HQ4 x0 x1 x2 y0 y1 y2
    have H6 := HG2 _ (HK.out.next HB5.out)
    clear HG2
    obtain ⟨q2, hq2⟩ : ∃ q2, q2 = if t.data.toList ≠ [] then (Pg.none, 2) else (p, 0) := ⟨_, rfl⟩
    rw [← hq2] at H6
    obtain ⟨b, hb1, hb2⟩ : ∃ b : Bool, ((q2.2 : Int) == 0) = b ∧ (t.toList == ([] : List UInt8)) = b := by
      rw [hq2, Lib.toList_data]
      by_cases hmo : t.data.toList = []
      · rw [if_neg (by simp [hmo]), hmo]
        exact ⟨true, rfl, rfl⟩
      · rw [if_pos hmo]
        exact ⟨false, rfl, by simpa using hmo⟩
    clear hq2
    obtain ⟨p2, e2⟩ := q2
    dsimp only at H6 hb1 hb2
    go_wp2_with fail
    refine H6.out.mono ?_
    rintro _ w6 ⟨v6, rfl, hv6, hb6⟩
    obtain ⟨D2, E2, F2, cd2, ce2, cf2, hve, -⟩ := hv6
    subst hve
    have HB6 := Lib.hid (HB5.out.trans ((hb6.trans (((Below.refl _ w6).alloc (Nat.le_refl _) (.cells #[.slice D2 p2.ds.length cd2, .slice E2 p2.ws.length ce2, .slice F2 p2.fs.length cf2] 26)).mono hb6.size)).mono HB5.out.size))
    clear hb6 H6 HB5
    go_upto_region 8 with fail
    generalize w6.alloc (.cells #[.slice D2 p2.ds.length cd2, .slice E2 p2.ws.length ce2, .slice F2 p2.fs.length cf2] 26) = W6 at *
    have H7 := HG3 _ (HK.out.next HB6.out)
    clear HG3
    go_wp2_with fail
    refine H7.out.mono ?_
    rintro _ w7 ⟨v7, rfl, hv7, hb7⟩
    obtain ⟨D3, E3, F3, cd3, ce3, cf3, hve, -⟩ := hv7
    subst hve
    have HB7 := Lib.hid (HB6.out.trans ((hb7.trans (((Below.refl _ w7).alloc (Nat.le_refl _) (.cells #[.slice D3 p3.ds.length cd3, .slice E3 p3.ws.length ce3, .slice F3 p3.fs.length cf3] 26)).mono hb7.size)).mono HB6.out.size))
    clear hb7 H7 HB6
    go_upto_region 9 with fail
    generalize w7.alloc (.cells #[.slice D3 p3.ds.length cd3, .slice E3 p3.ws.length ce3, .slice F3 p3.fs.length cf3] 26) = W7 at *
    go_wp2_with fail
    refine (HL _ (HK.out.next HB7.out)).out.mono ?_
    rintro _ w8 ⟨rfl, hb8⟩
    have HB8 := Lib.hid (HB7.out.trans (hb8.mono HB7.out.size))
    clear hb8
    go_wp2
    go_ret
    exact ⟨rfl, HB8.out⟩
  · have hz' : ((chkP p : Int) != 0) = true := by simpa using hz
    subst hve
    have HB0 := Lib.hid hb0
    have HX0 := Lib.hid hx0
    unfold pgB at HB0 HX0
    clear hv hw hlen hb0 hx0 hz
    generalize chkP p = cp at *
    go_enter Tryz.func5, Tryz.ntmps5
    go_upto_region 1 with fail
    generalize w.alloc (.cells #[.slice A na ca, .slice B nb cb, .slice C nc cc] 26) = W0 at *
    obtain ⟨x0, x1, x2, -, -, -⟩ := cells3 HX0.out
    have H1 := HRc _ ((HV.out.next HB0.out).head)
    go_wp2_with fail
    refine H1.out.mono ?_
    rintro _ w1 ⟨rfl, hb1⟩
    have HB1 := Lib.hid (HB0.out.trans (hb1.mono HB0.out.size))
    clear hb1 H1 HRc HB0 HX0 x0 x1 x2
    go_wp2_with fail
    refine (HL _ (HK.out.next HB1.out)).out.mono ?_
    rintro _ w2 ⟨rfl, hb2⟩
    have HB2 := Lib.hid (HB1.out.trans (hb2.mono HB1.out.size))
    clear hb2
    go_wp2
    go_ret
    exact ⟨rfl, HB2.out⟩
end Go.Proofs.YtahejekcfgkiaaaGreatDoor.pgm
