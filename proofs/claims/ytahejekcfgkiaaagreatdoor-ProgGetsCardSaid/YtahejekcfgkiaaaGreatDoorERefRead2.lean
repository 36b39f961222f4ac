/-
  The document's own answer of the wait that is read behind what was read ahead. A text of at most two to the forty-seventh bytes.
-/
import Derived.Test.YtahejekcfgkiaaaGreatDoorGall16
namespace Go.Proofs.YtahejekcfgkiaaaGreatDoor.need
open Go.RowKit Go.ChangeShapes
open Go.Proofs.YtahejekcfgkiaaaGreatDoor.octet (St rdByte rdNum Stands refByte_plain refNum_plain rdNum_lt)
open Go.Proofs.YtahejekcfgkiaaaGreatDoor.objs (De zero CellsAt DAt RBox RNil cells3 put3 put3_same put3_far put3_below rdN)
set_option linter.unusedVariables false

def readR9 (d : List De) (n : Nat) (S : St) : List (List De) × St × Nat :=
  let p := rdWays S n
  if p.2.2 ≠ 0 then ([], p.2.1, p.2.2)
  else if chkW d p.1 ≠ 0 then ([], p.2.1, chkW d p.1)
  else (p.1, p.2.1, 0)
theorem readW_eq (d : List De) (s : St) : readW d s = if 4 < (rdNum s).1 then ([], (rdNum s).2, 4) else if (rdNum s).2.err ≠ 0 then ([], (rdNum s).2, (rdNum s).2.err) else readR9 d (rdNum s).1 (rdNum s).2 := rfl
theorem readR9_bad {d : List De} {n : Nat} {S : St} {q : List (List De) × St × Nat} (h : rdWays S n = q) (hq : q.2.2 ≠ 0) : readR9 d n S = ([], q.2.1, q.2.2) := by
  unfold readR9
  simp only [h, if_pos hq]
theorem readR9_fine {d : List De} {n : Nat} {S : St} {ls : List (List De)} {T : St} (h : rdWays S n = (ls, T, 0)) : readR9 d n S = if chkW d ls ≠ 0 then ([], T, chkW d ls) else (ls, T, 0) := by
  unfold readR9
  simp only [h]
  rfl
/-- A way that is wrong ends all. -/
theorem ways_stop {d : List De} {S S1 T : St} {n j e : Nat} {ls : List (List De)} (hj : j < n) (hl : rdWays S j = (ls, S1, 0)) (hw : (rdWay S1).2 = (T, e)) (he : e ≠ 0) : readR9 d n S = ([], T, e) := by
  have h1 : rdWays S (j + 1) = ([], T, e) := by
    simp only [rdWays, hl, hw]
    rw [if_neg (by decide), if_pos he]
  have h2 : rdWays S n = ([], T, e) := by
    rw [← h1]
    exact rdWays_err (by rw [h1]; exact he) n hj
  exact readR9_bad h2 he
theorem ways_next {S S1 T : St} {j : Nat} {ls : List (List De)} {ns : List De} (hl : rdWays S j = (ls, S1, 0)) (hw : rdWay S1 = (ns, T, 0)) : rdWays S (j + 1) = (ls ++ [ns], T, 0) := by
  simp only [rdWays, hl, hw]
  rw [if_neg (by decide), if_neg (by decide)]
theorem needs_stop {T0 T T1 : St} {n k e : Nat} {ns : List De} (hk : k < n) (hl : rdNeeds T0 k = (ns, T, 0)) (hw : (rdNeed T).2 = (T1, e)) (he : e ≠ 0) : (rdNeeds T0 n).2 = (T1, e) := by
  have h1 : rdNeeds T0 (k + 1) = ([], T1, e) := by
    simp only [rdNeeds, hl, hw]
    rw [if_neg (by decide), if_pos he]
  rw [rdNeeds_err (by rw [h1]; exact he) n hk, h1]
theorem needs_next {T0 T T1 : St} {k : Nat} {ns : List De} {x : De} (hl : rdNeeds T0 k = (ns, T, 0)) (hw : rdNeed T = (x, T1, 0)) : rdNeeds T0 (k + 1) = (ns ++ [x], T1, 0) := by
  simp only [rdNeeds, hl, hw]
  rw [if_neg (by decide), if_neg (by decide)]
theorem rdWay_4 {s : St} (h : 4 < (rdNum s).1) : rdWay s = ([], (rdNum s).2, 4) := by unfold rdWay; rw [if_pos h]
theorem rdWay_err {s : St} (h : ¬ 4 < (rdNum s).1) (he : (rdNum s).2.err ≠ 0) : rdWay s = ([], (rdNum s).2, (rdNum s).2.err) := by unfold rdWay; rw [if_neg h, if_pos he]
theorem rdWay_fine {s : St} (h : ¬ 4 < (rdNum s).1) (he : (rdNum s).2.err = 0) : rdWay s = rdNeeds (rdNum s).2 (rdNum s).1 := by unfold rdWay; rw [if_neg h, if_neg (by simp [he])]
theorem rdByte_lt (s : St) : (rdByte s).1 < 256 := by
  unfold rdByte
  split
  · omega
  · split
    · omega
    · exact UInt8.toNat_lt _
theorem rdNeed_bad {s : St} (h : (rdByte s).2.err = 0 ∧ ((rdByte s).1 < 1 ∨ 5 < (rdByte s).1)) : (rdNeed s).2 = ((rdByte s).2, 6) := by unfold rdNeed; dsimp only; rw [if_pos h]
theorem rdNeed_good {s : St} (h : ¬ ((rdByte s).2.err = 0 ∧ ((rdByte s).1 < 1 ∨ 5 < (rdByte s).1))) : rdNeed s = ((((rdByte s).1 : Int), (rdN (rdByte s).2).1, (rdC (rdByte s).1 (rdN (rdByte s).2).2).1), (rdC (rdByte s).1 (rdN (rdByte s).2).2).2, (rdC (rdByte s).1 (rdN (rdByte s).2).2).2.err) := by unfold rdNeed; dsimp only; rw [if_neg h]
theorem rdN_eq (s : St) : rdN s = (((min (rdNum s).1 2147483648 : Nat) : Int), (rdNum s).2) := rfl

theorem rdWay_len {s : St} (h : (rdWay s).2.2 = 0) : (rdWay s).1.length ≤ 4 := by
  unfold rdWay at h ⊢
  split at h
  · cases h
  · rename_i h1
    rw [if_neg h1]
    split at h
    · exact absurd h ‹_›
    · rename_i h2
      rw [if_neg h2, rdNeeds_length _ h]
      omega
theorem rdWays_small {s : St} : ∀ j, (rdWays s j).2.2 = 0 → ∀ x ∈ (rdWays s j).1, x.length ≤ 4 := by
  intro j
  induction j with
  | zero => intro _ x hx; cases hx
  | succ j ih =>
    intro h
    simp only [rdWays] at h ⊢
    split at h
    · exact absurd h ‹_›
    · rename_i h1
      rw [if_neg h1]
      split at h
      · exact absurd h ‹_›
      · rename_i h2
        rw [if_neg h2]
        intro x hx
        rcases List.mem_append.1 hx with hx | hx
        · exact ih (by omega) x hx
        · rw [List.mem_singleton.1 hx]
          exact rdWay_len (by omega)
theorem OwnW.drew {w : World} {base : Nat} {v : Value} {l : List (List De)} (h : OwnW w base v l) : OwnW w.drew base v l := h
theorem OwnN.drew {w : World} {base : Nat} {v : Value} {l : List De} (h : OwnN w base v l) : OwnN w.drew base v l := h
theorem OwnW.wg {W : World} {base n cap : Nat} {A : Option Addr} {l : List (List De)} (h : OwnW W base (.slice A n cap) l) (hl : l.length ≤ 6) (hll : ∀ x ∈ l, x.length ≤ 6) : WG W A l.length l := by
  refine ⟨by omega, fun j hj => ?_⟩
  obtain ⟨xs, h1, h2⟩ := h
  obtain ⟨x, h3, h4⟩ := h2 j hj
  have h6 := hll _ (getW_mem hj)
  rcases h1.2 with ⟨e, h0⟩ | ⟨g, cap', cur, e, hb, hh, _⟩
  · omega
  · injection e with e1 e2 e3
    subst e1
    have hcell : W.cell? ⟨g, 0 + j, none⟩ = some x := by
      have := World.ownsRow.cells h1 (g := g) rfl _ _ h3
      rwa [Addr.add_lit] at this
    rcases h4.2 with ⟨rfl, h0⟩ | ⟨g', c', cur', rfl, hb', hh', hn, hm, _⟩
    · refine ⟨g, 0, none, 0, 0, rfl, lt_of_block hh, hcell, ?_, by omega, Nat.le_refl _, by omega, fun _ => ⟨rfl, rfl⟩⟩
      have := List.length_eq_zero_iff.1 h0
      rw [this]
      exact Go.Proofs.YtahejekcfgkiaaaGreatDoor.objs.DAt.nil _ _
    · refine ⟨g, 0, some ⟨g', 0, none⟩, (l.getD j []).length, c', rfl, lt_of_block hh, hcell, h4.at, by omega, hn, by simpa [maxLen] using hm, fun h => by cases h⟩

set_option maxRecDepth 100000 in
set_option maxHeartbeats 32000000 in
theorem refRead9_any (w : World) (A : Option Addr) (capd : Nat) (d : List De) (hdl : d.length ≤ 9223372036854775807) (hA : DAt w A d) (t : ByteArray) (k err : Nat) (s : St) (ht : t.size ≤ 140737489403904) (hst : Stands t k err s) :
    Calls Tryz.prog 37 #[.slice A d.length capd, .agg #[.string t, .int .i64 (k : Int), .int .i64 (err : Int)]] w (ReadPost9 t (readW d s) w) := by
  have HN := fun W => Lib.hid (refNum_plain W t k err s ht hst)
  obtain ⟨r, hr⟩ : ∃ r, r = readW d s := ⟨_, rfl⟩
  have HZ := Lib.hid (hr.trans (readW_eq d s))
  rw [← hr]
  have hnlt := rdNum_lt s
  have HA := Lib.hid hA
  clear hst hr hA
  generalize rdNum s = N at *
  obtain ⟨n, S⟩ := N
  dsimp only at HN HZ hnlt
  go_enter Tryz.func37, Tryz.ntmps37
  go_wp2_with fail
  refine (HN _).out.mono ?_
  rintro e w1 ⟨k1, rfl, hS, hb⟩
  have hRs := r9_new (w := w) (k := k) (err := err) (by unfold RBox RNil; exact hb) hS
  have HS := Lib.hid hS
  unfold RBox at hRs
  clear hb hS HN
  go_upto_region 2 with fail
  generalize w1.alloc (.cells #[.string t, .int .i64 (k1 : Int), .int .i64 (S.err : Int)] 79) = W2 at *
  generalize w1.heap.size = bx at *
  have HRs := Lib.hid hRs
  clear hRs
  by_cases h4 : 4 < n
  · have HR : Hid (r = ([], S, 4)) := Lib.hid (by rw [HZ.out, if_pos h4])
    have hd : decide ((4 : Int) < (n : Int)) = true := by simp; omega
    have hd' : decide (4 < n) = true := by simpa using h4
    obtain ⟨kx, hxx, hSx⟩ := HRs.out.x
    have hnil := HRs.out.nil
    unfold RNil at hnil
    unfold RBox at hxx
    obtain ⟨x0, x1, x2, xf0, xf1, xf2⟩ := cells3 hnil
    obtain ⟨y0, y1, y2, _, _, _⟩ := cells3 hxx
    have n1 : bx ≠ w.heap.size + 1 := by have := HRs.out.hx; omega
    have HE9 := Lib.hid (HRs.out.ends0 (kk := kx) (S' := S))
    have HSx := Lib.hid hSx
    clear HZ h4 hnil hxx hSx
    go_wp2_with fail
    go_region
    go_wp2_with fail
    exact ends9_ret HR.out (by rfl) (by rfl) (by rfl) rfl HE9.out HSx.out rfl
  · have HR0 : Hid (S.err ≠ 0 → r = ([], S, S.err)) := Lib.hid (fun h => by rw [HZ.out, if_neg h4, if_pos h])
    have HR1 : Hid (S.err = 0 → r = readR9 d n S) := Lib.hid (fun h => by rw [HZ.out, if_neg h4, if_neg (by simp [h])])
    have hd : decide ((4 : Int) < (n : Int)) = false := by simp; omega
    have hd' : decide (4 < n) = false := by simpa using h4
    have hn4 : n ≤ 4 := by omega
    have hwn : IntKind.i64.wrap (n : Int) = (n : Int) := by rw [IntKind.wrap_i64]; omega
    have HRow := Lib.hid HRs.out.row
    clear HZ h4 hnlt
    go_wp2_with fail
    generalize W2.alloc (.cells #[] 89) = W3 at *
    generalize W2.heap.size = g0 at *
    go_loopw [9, 10] (fun v i wr => ∃ (j : Nat) (ls : List (List De)) (S1 : St), j ≤ n ∧ i = .int .i64 (j : Int) ∧ Hid (ls.length = j) ∧ Hid (S1.err = 0 → S.err = 0 ∧ rdWays S j = (ls, S1, 0)) ∧ Hid (S1.err ≠ 0 → r = ([], S1, S1.err)) ∧ Hid (R9 w t bx v ls S1 wr)) (fun _ i _ => n - (intOf i).toNat)
    case atStart => exact ⟨0, [], S, Nat.zero_le _, rfl, Lib.hid rfl, Lib.hid (fun h => ⟨h, rfl⟩), HR0, HRow⟩
    case round =>
      obtain ⟨j, ls, S1, hj, rfl, HLen, HOk, HBad, HRr⟩ := hrel
      obtain ⟨Ao, co, hv⟩ := HRr.out.own.slice
      rw [HLen.out] at hv
      subst hv
      obtain ⟨kx, hxx, hSx⟩ := HRr.out.x
      have HSx := Lib.hid hSx
      have HXX := Lib.hid hxx
      unfold RBox at hxx
      obtain ⟨y0, y1, y2, _, _, _⟩ := cells3 hxx
      clear hSx hxx
      by_cases hgo : j < n ∧ S1.err = 0
      · obtain ⟨hlt, he1⟩ := hgo
        have hlt' : (j : Int) < (n : Int) := by omega
        have he1' : ((S1.err : Int) == 0) = true := by simp [he1]
        have HE1 := Lib.hid (HOk.out he1)
        have HR2 := Lib.hid (HR1.out HE1.out.1)
        have HStop : Hid (∀ (T : St) (e : Nat), (rdWay S1).2 = (T, e) → e ≠ 0 → r = ([], T, e)) := Lib.hid (fun T e h1 h2 => by rw [HR2.out]; exact ways_stop hlt HE1.out.2 h1 h2)
        have HNext : Hid (∀ (ns : List De) (T : St), rdWay S1 = (ns, T, 0) → rdWays S (j + 1) = (ls ++ [ns], T, 0)) := Lib.hid (fun ns T h => ways_next HE1.out.2 h)
        have HNu := fun U => Lib.hid (refNum_plain U t kx S1.err S1 ht HSx.out)
        have HW4 := Lib.hid (fun h => rdWay_4 (s := S1) h)
        have HWe := Lib.hid (fun h h2 => rdWay_err (s := S1) h h2)
        have HWf := Lib.hid (fun h h2 => rdWay_fine (s := S1) h h2)
        have hn2lt := rdNum_lt S1
        clear he1
        generalize rdNum S1 = N2 at *
        obtain ⟨n2, T0⟩ := N2
        dsimp only at HNu HW4 HWe HWf hn2lt
        go_wp2_with fail
        refine (HNu _).out.mono ?_
        rintro e w3 ⟨k3, rfl, hS3, hb3⟩
        have HR3 := Lib.hid (HRr.out.next hb3)
        have HI3 := Lib.hid (i9_new (W1 := w3) hS3)
        have hR4 : (w3.alloc (RBox t k3 T0.err)).heap[w3.heap.size]? = some (RBox t k3 T0.err) := heap_alloc_new w3 _
        have HS3 := Lib.hid hS3
        unfold RBox at HI3
        clear hb3 hS3 y0 y1 y2 HNu HXX
        go_upto_region 9 with fail
        generalize hW4 : w3.alloc (.cells #[.string t, .int .i64 (k3 : Int), .int .i64 (T0.err : Int)] 79) = W4 at *
        have hgs : bx < w3.heap.size := HR3.out.lt
        generalize hgg : w3.heap.size = g at *
        by_cases h42 : 4 < n2
        · have HR : Hid (r = ([], T0, 4)) := Lib.hid (HStop.out T0 4 (by rw [HW4.out h42]) (by decide))
          have q4 : decide ((4 : Int) < (n2 : Int)) = true := by simp; omega
          have q4' : decide (4 < n2) = true := by simpa using h42
          have hRW := I9.outer HR3.out HI3.out
          obtain ⟨ky, hyy, hSy⟩ := HI3.out.y
          have hnil := hRW.nil
          unfold RNil at hnil
          unfold RBox at hyy
          obtain ⟨x0, x1, x2, xf0, xf1, xf2⟩ := cells3 hnil
          obtain ⟨y0, y1, y2, _, _, _⟩ := cells3 hyy
          have n1 : g ≠ w.heap.size + 1 := by have := HRr.out.hx; omega
          have HE9 := Lib.hid (hRW.ends0 (kk := ky) (S' := T0))
          have HSy := Lib.hid hSy
          clear h42 hRW hyy hSy hnil hR4
          go_wp2_with fail
          go_region
          go_wp2_with fail
          exact ends9_ret HR.out (by rfl) (by rfl) (by rfl) rfl HE9.out HSy.out rfl
        · have q4 : decide ((4 : Int) < (n2 : Int)) = false := by simp; omega
          have q4' : decide (4 < n2) = false := by simpa using h42
          have hn24 : n2 ≤ 4 := by omega
          have hwn2 : IntKind.i64.wrap (n2 : Int) = (n2 : Int) := by rw [IntKind.wrap_i64]; omega
          have HT0 : Hid (T0.err ≠ 0 → r = ([], T0, T0.err)) := Lib.hid (fun h => HStop.out T0 T0.err (by rw [HWe.out h42 h]) h)
          have HTf : Hid (T0.err = 0 → rdWay S1 = rdNeeds T0 n2) := Lib.hid (fun h => HWf.out h42 h)
          have HI5 := Lib.hid HI3.out.row
          clear h42 HW4 HWe HWf hR4 hn2lt
          go_upto_block 2 with fail
          generalize W4.alloc (.cells #[] 93) = W5 at *
          generalize W4.heap.size = g5 at *
          go_cut [13] (fun lv wx => ∃ (ns : List De) (T : St) (Al : Option Addr) (cl : Nat), lv = .slice Al ns.length cl ∧ Hid (ns.length ≤ 4) ∧ Hid (T.err = 0 → S.err = 0 ∧ rdWays S (j + 1) = (ls ++ [ns], T, 0)) ∧ Hid (T.err ≠ 0 → r = ([], T, T.err)) ∧ Hid (I9 w3 g t lv ns T wx))
          case first =>
            go_wp2_with fail
            go_loopw [13, 14] (fun lv i wr => ∃ (k : Nat) (ns : List De) (T : St), k ≤ n2 ∧ i = .int .i64 (k : Int) ∧ Hid (ns.length = k) ∧ Hid (T.err = 0 → T0.err = 0 ∧ rdNeeds T0 k = (ns, T, 0)) ∧ Hid (T.err ≠ 0 → r = ([], T, T.err)) ∧ Hid (I9 w3 g t lv ns T wr)) (fun _ i _ => n2 - (intOf i).toNat)
            case atStart => exact ⟨0, [], T0, Nat.zero_le _, rfl, Lib.hid rfl, Lib.hid (fun h => ⟨h, rfl⟩), HT0, HI5⟩
            case round =>
              obtain ⟨kq, ns, T, hkq, rfl, HnLen, HnOk, HnBad, HI⟩ := hrel
              obtain ⟨Al, cl, hlv⟩ := HI.out.own.slice
              rw [HnLen.out] at hlv
              subst hlv
              obtain ⟨ky, hyy, hSy⟩ := HI.out.y
              have HSy := Lib.hid hSy
              have HYY := Lib.hid hyy
              unfold RBox at hyy
              obtain ⟨y0, y1, y2, yf0, yf1, yf2⟩ := cells3 hyy
              clear hSy hyy
              by_cases hgo : kq < n2 ∧ T.err = 0
              · obtain ⟨hlk, heT⟩ := hgo
                have hlk' : (kq : Int) < (n2 : Int) := by omega
                have heT' : ((T.err : Int) == 0) = true := by simp [heT]
                have HTE := Lib.hid (HnOk.out heT)
                have HNs : Hid (∀ (U : St) (e : Nat), (rdNeed T).2 = (U, e) → e ≠ 0 → r = ([], U, e)) := Lib.hid (fun U e h1 h2 => HStop.out U e (by rw [HTf.out HTE.out.1]; exact needs_stop hlk HTE.out.2 h1 h2) h2)
                have HNn : Hid (∀ (x : De) (U : St), rdNeed T = (x, U, 0) → rdNeeds T0 (kq + 1) = (ns ++ [x], U, 0)) := Lib.hid (fun x U h => needs_next HTE.out.2 h)
                have HBy := fun U => Lib.hid (refByte_plain U t ky T.err T ht HSy.out)
                have HDb := Lib.hid (fun h => rdNeed_bad (s := T) h)
                have HDg := Lib.hid (fun h => rdNeed_good (s := T) h)
                have hc256 := rdByte_lt T
                have HTE0 := Lib.hid HTE.out.1
                clear heT HTE
                generalize rdByte T = Bq at *
                obtain ⟨c, T1⟩ := Bq
                dsimp only at HBy HDb HDg hc256
                have HC256 := Lib.hid hc256
                clear hc256
                go_upto_region 15 with fail
                go_cut [15, 16] (fun u z wx => ∃ (k5 bz : Nat), u = .int .i64 (c : Int) ∧ z = .pointer (some ⟨bz, 0, none⟩) ∧ Hid (Stands t k5 T1.err T1) ∧ Hid (wx.heap[bz]? = some (RBox t k5 T1.err)) ∧ Hid (I9 w3 g t (.slice Al kq cl) ns T wx) ∧ Hid (g < bz))
                case first =>
                  go_wp2_with fail
                  refine (HBy _).out.mono ?_
                  rintro e w6 ⟨k5, rfl, hs5, hb5⟩
                  have HI6 := Lib.hid (HI.out.next hb5)
                  have HS5 := Lib.hid hs5
                  clear hb5 hs5 y0 y1 y2 yf0 yf1 yf2 HBy
                  go_wp2_with fail
                  go_meet
                  exact ⟨k5, w6.heap.size, rfl, rfl, HS5, Lib.hid (heap_alloc_new w6 _), Lib.hid (HI6.out.next ((Below.refl _ _).alloc (Nat.le_refl _) _)), Lib.hid HI6.out.lt⟩
                case rest =>
                  obtain ⟨k5, bz, rfl, rfl, HS5, HZ5, HI5b, HBz⟩ := hcut
                  clear y0 y1 y2 yf0 yf1 yf2 HBy HI
                  have hR5 := HZ5.out
                  unfold RBox at hR5
                  obtain ⟨y0, y1, y2, _, _, _⟩ := cells3 hR5
                  clear hR5
                  by_cases hbad : T1.err = 0 ∧ (c < 1 ∨ 5 < c)
                  · have HRR := Lib.hid (HNs.out T1 6 (HDb.out hbad) (by decide))
                    obtain ⟨he5, hbad⟩ := hbad
                    have hs1 : ((T1.err : Int) == 0) = true := by simp [he5]
                    have hRW := I9.outer HR3.out HI5b.out
                    have hnil := hRW.nil
                    unfold RNil at hnil
                    obtain ⟨x0, x1, x2, xf0, xf1, xf2⟩ := cells3 hnil
                    have n1 : bz ≠ w.heap.size + 1 := by have := HBz.out; have := hRW.hx; omega
                    have HE9 := Lib.hid (hRW.ends0 (kk := k5) (S' := T1))
                    clear he5 hnil hRW HDb HDg
                    by_cases hc1 : c < 1
                    · have hd1 : decide ((c : Int) < 1) = true := by simp; omega
                      clear hbad hc1
                      go_wp2_with fail
                      go_region
                      go_wp2_with fail
                      exact ends9_ret HRR.out (by rfl) (by rfl) (by rfl) rfl HE9.out HS5.out rfl
                    · have hd1 : decide ((c : Int) < 1) = false := by simp; omega
                      have hd2 : decide (5 < (c : Int)) = true := by simp; omega
                      clear hbad hc1
                      go_wp2_with fail
                      go_region
                      go_wp2_with fail
                      exact ends9_ret HRR.out (by rfl) (by rfl) (by rfl) rfl HE9.out HS5.out rfl
                  · have HD := Lib.hid (HDg.out hbad)
                    have HBd := Lib.hid hbad
                    clear hbad HDg HDb
                    (rename (∀ (a : Act) (w : World), Code.wp _ _ _ a w → _) => hK; refine hK _ _ ?_; clear hK; apply wp_seq_k; intro _ _)
                    go_cut [15] (fun u wx => u = .int .i64 (c : Int) ∧ wx = wc)
                    case first =>
                      by_cases he5 : T1.err = 0
                      · have hs1 : ((T1.err : Int) == 0) = true := by simp [he5]
                        have hr : 1 ≤ c ∧ c ≤ 5 := by have := HBd.out; omega
                        have hd1 : decide ((c : Int) < 1) = false := by simp; omega
                        have hd2 : decide (5 < (c : Int)) = false := by simp; omega
                        clear he5 hr
                        go_wp2_with fail
                        go_meet
                        exact ⟨rfl, rfl⟩
                      · have hs1 : ((T1.err : Int) == 0) = false := by simpa using he5
                        clear he5
                        go_wp2_with fail
                        go_meet
                        exact ⟨rfl, rfl⟩
                    case rest =>
                      obtain ⟨rfl, rfl⟩ := hcut
                      (rename (∀ (a : Act) (w : World), Code.wp _ _ _ a w → _) => hK; refine hK _ _ ?_; clear hK; apply wp_seq_k; intro _ _)
                      have HNu := fun U => Lib.hid (refNum_plain U t k5 T1.err T1 ht HS5.out)
                      have HRN : Hid (rdN T1 = (((min (rdNum T1).1 2147483648 : Nat) : Int), (rdNum T1).2)) := Lib.hid rfl
                      have hn3 := rdNum_lt T1
                      generalize rdNum T1 = N3 at *
                      obtain ⟨n3, T2⟩ := N3
                      dsimp only at HNu HRN hn3
                      obtain ⟨xo, hxo⟩ : ∃ xo : Int, xo = ((min n3 2147483648 : Nat) : Int) := ⟨_, rfl⟩
                      rw [HRN.out, ← hxo] at HD
                      have HXo := Lib.hid hxo
                      clear hxo
                      dsimp only at HD
                      go_wp2_with fail
                      refine (HNu _).out.mono ?_
                      rintro e w7 ⟨k7, rfl, hs7, hb7⟩
                      have HI7 := Lib.hid (HI5b.out.next hb7)
                      have HM7 := fun (x : Int) (hx : x = xo) => Lib.hid (hx ▸ m9_new (k := (c : Int)) (o := xo) (Below.refl w7.heap.size w7) hs7 : M9 w7 t w7.heap.size (w7.heap.size + 1) (c : Int) xo 0 T2 ((w7.alloc (RBox t k7 T2.err)).alloc (needBox (c : Int) x 0)))
                      unfold RBox needBox at HM7
                      clear hs7 hb7 HNu y0 y1 y2 HI5b HZ5 HRN
                      go_upto_region 19 with fail
                      have hz8 : (w7.alloc (.cells #[.string t, .int .i64 (k7 : Int), .int .i64 (T2.err : Int)] 79)).heap.size = w7.heap.size + 1 := World.size_alloc w7 _
                      generalize w7.alloc (.cells #[.string t, .int .i64 (k7 : Int), .int .i64 (T2.err : Int)] 79) = W8 at *
                      go_cut [19] (fun pn wx => ∃ bn : Nat, pn = .pointer (some ⟨bn, 0, none⟩) ∧ Hid (M9 w7 t w7.heap.size bn (c : Int) xo 0 T2 wx))
                      case first =>
                        go_wp2_with fail
                        all_goals
                          go_meet
                          exact ⟨w7.heap.size + 1, rfl, HM7 _ (by have := HXo.out; omega)⟩
                      case rest =>
                        obtain ⟨bn, rfl, HM⟩ := hcut
                        clear HM7 hz8
                        generalize hbu : w7.heap.size = bu at HM ⊢
                        (rename (∀ (a : Act) (w : World), Code.wp _ _ _ a w → _) => hK; refine hK _ _ ?_; clear hK; apply wp_seq_k; intro _ _)
                        go_cut [15, 18] (fun u pu wx => u = .int .i64 (c : Int) ∧ pu = .pointer (some ⟨bu, 0, none⟩) ∧ ∃ (y : Int) (T3 : St), Hid ((y, T3) = rdC c T2) ∧ Hid (M9 w7 t bu bn (c : Int) xo y T3 wx))
                        case first =>
                          by_cases h3 : 3 < c
                          · have q3 : decide ((3 : Int) < (c : Int)) = true := by simp; omega
                            have q3' : decide (3 < c) = true := by simpa using h3
                            have HQ1 : Hid (rdC c T2 = (((min (rdNum T2).1 2147483648 : Nat) : Int), (rdNum T2).2)) := Lib.hid (by unfold rdC; rw [if_pos h3]; rfl)
                            obtain ⟨ku, huu, hSu⟩ := HM.out.u
                            have HNv := fun U => Lib.hid (refNum_plain U t ku T2.err T2 ht hSu)
                            unfold RBox at huu
                            obtain ⟨y0, y1, y2, _, _, _⟩ := cells3 huu
                            clear huu hSu h3
                            have hn4' := rdNum_lt T2
                            generalize rdNum T2 = N4 at *
                            obtain ⟨n4q, T3⟩ := N4
                            dsimp only at HNv HQ1 hn4'
                            obtain ⟨xn, hxn⟩ : ∃ xn : Int, xn = ((min n4q 2147483648 : Nat) : Int) := ⟨_, rfl⟩
                            rw [← hxn] at HQ1
                            have HXn := Lib.hid hxn
                            clear hxn
                            go_wp2_with fail
                            refine (HNv _).out.mono ?_
                            rintro e u1 ⟨k1q, rfl, hs1, hb1⟩
                            have HS1 := Lib.hid hs1
                            have hM1 := HM.out.next hb1
                            clear hs1 hb1 HNv y0 y1 y2 HM
                            go_upto_region 22 with fail
                            have hbL : Below u1.heap.size u1 (u1.alloc (.cells #[.string t, .int .i64 (k1q : Int), .int .i64 (T3.err : Int)] 79)) := (Below.refl _ _).alloc (Nat.le_refl _) _
                            have hR : (u1.alloc (.cells #[.string t, .int .i64 (k1q : Int), .int .i64 (T3.err : Int)] 79)).heap[u1.heap.size]? = some (.cells #[.string t, .int .i64 (k1q : Int), .int .i64 (T3.err : Int)] 79 (0, 0)) := heap_alloc_new u1 _
                            have hZ1 := hM1.next hbL
                            obtain ⟨kd1, hyd, _⟩ := hM1.u
                            have m1 := lt_of_block hyd
                            have m2 := lt_of_block hM1.n
                            obtain ⟨ke1, hye, _⟩ := hZ1.u
                            have hde := hZ1.n
                            unfold RBox at hye
                            unfold needBox at hde
                            obtain ⟨z0, z1, z2, _, _, _⟩ := cells3 hR
                            obtain ⟨y0, y1, y2, yf0, yf1, yf2⟩ := cells3 hye
                            obtain ⟨d0, d1, d2, df0, df1, df2⟩ := cells3 hde
                            have n1 : u1.heap.size ≠ bu := by omega
                            have n2' : u1.heap.size ≠ bn := by omega
                            have n3' : bu ≠ bn := by have := hZ1.hn; omega
                            have n4' : bn ≠ bu := fun e => n3' e.symm
                            have HX9 := fun (x : Int) (hx : x = xn) => Lib.hid (hx ▸ hZ1.setN xn HS1.out : M9 w7 t bu bn (c : Int) xo xn T3 (put3 ((u1.alloc (.cells #[.string t, .int .i64 (k1q : Int), .int .i64 (T3.err : Int)] 79)).setCell ⟨bn, 2, none⟩ (.int .i64 x)) bu (.string t) (.int .i64 (k1q : Int)) (.int .i64 (T3.err : Int))).drew)
                            clear hbL hR hM1 hZ1 hyd hye hde m1 m2
                            generalize u1.alloc (.cells #[.string t, .int .i64 (k1q : Int), .int .i64 (T3.err : Int)] 79) = V1 at *
                            generalize u1.heap.size = bz1 at *
                            go_region
                            all_goals
                              go_wp2_with fail
                              go_meet
                              exact ⟨rfl, rfl, xn, T3, Lib.hid HQ1.out.symm, HX9 _ (by have := HXn.out; omega)⟩
                          · have q3 : decide ((3 : Int) < (c : Int)) = false := by simp; omega
                            have q3' : decide (3 < c) = false := by simpa using h3
                            have HQ1 : Hid (rdC c T2 = (0, T2)) := Lib.hid (by unfold rdC; rw [if_neg h3])
                            clear h3
                            go_wp2_with fail
                            go_meet
                            exact ⟨rfl, rfl, 0, T2, Lib.hid HQ1.out.symm, HM⟩
                        case rest =>
                          clear HM
                          obtain ⟨rfl, rfl, y, T3, HQ3, HM⟩ := hcut
                          have HDf : Hid (rdNeed T = (((c : Int), xo, y), T3, T3.err)) := Lib.hid (by rw [HD.out, ← HQ3.out])
                          have HNk1 : Hid (T3.err = 0 → T0.err = 0 ∧ rdNeeds T0 (kq + 1) = (ns ++ [((c : Int), xo, y)], T3, 0)) := Lib.hid (fun h => ⟨HTE0.out, HNn.out _ T3 (by rw [HDf.out, h])⟩)
                          have HNk2 : Hid (T3.err ≠ 0 → r = ([], T3, T3.err)) := Lib.hid (fun h => HNs.out T3 T3.err (by rw [HDf.out]) h)
                          clear HD HQ3 HDf HNn HNs
                          obtain ⟨kf, hyf, hSf⟩ := HM.out.u
                          have HSf := Lib.hid hSf
                          have hrd := HM.out.n
                          have hbA : Below wc.heap.size wc (wc.alloc (needBox (c : Int) xo y)) := (Below.refl _ _).alloc (Nat.le_refl _) _
                          have hown1 : OwnN (wc.alloc (needBox (c : Int) xo y)) (g + 1) (.slice Al kq cl) ns := ((HI7.out.own).next (hbu ▸ HM.out.below)).next hbA
                          have hone : DAt (wc.alloc (needBox (c : Int) xo y)) (some ⟨wc.heap.size, 0, none⟩) [((c : Int), xo, y)] := DAt.oneN (heap_alloc_new wc _)
                          have hbase : g + 1 ≤ (wc.alloc (needBox (c : Int) xo y)).heap.size := by have h1 := HI7.out.lt; have h2 := HM.out.below.size; rw [World.size_alloc]; omega
                          have hll : ns.length ≤ 4 := by have := HnLen.out; omega
                          have Hap := fun (v2 : Value) (W2 : World) (h1 : OwnN W2 (g + 1) v2 (ns ++ [((c : Int), xo, y)])) (h2 : (wc.alloc (needBox (c : Int) xo y)).grownBy W2 (Value.slice Al kq cl).ownBlock) => M9.app HI7.out HM.out hyf hbA h1 h2
                          have hyA : (wc.alloc (needBox (c : Int) xo y)).heap[bu]? = some (RBox t kf T3.err) := (hbA.block bu (lt_of_block hyf)).trans hyf
                          unfold needBox at hrd hown1 hone Hap hyA hbase
                          unfold RBox at hyA hyf
                          obtain ⟨b0, b1, b2, _, _, _⟩ := cells3 hyA
                          obtain ⟨y0, y1, y2, _, _, _⟩ := cells3 hyf
                          obtain ⟨d0, d1, d2, df0, df1, df2⟩ := cells3 hrd
                          clear hyf hSf hbA hrd hyA
                          go_wp2_with fail
                          go_region_law (first
                            | (refine step_appN (w := (wc.alloc (.cells #[.int .i64 (c : Int), .int .i64 xo, .int .i64 y] 93)).drew) (by rfl) (.tmp 102) (.tmp 104) (by rfl) (g + 1) 1 1 (.slice Al kq cl) (some ⟨wc.heap.size, 0, none⟩) ns [((c : Int), xo, y)] (by rfl) hown1 (by rfl) rfl (fun h => by cases h) hone (by simp; omega) hbase ?_; intro v2 W9 hv2 hg2; have hAp := Hap v2 W9 hv2 ⟨hg2.os, hg2.tape, hg2.output, hg2.size, hg2.block⟩; have HAp := Lib.hid hAp; have hyW := hAp.u; unfold RBox at hyW; obtain ⟨a0, a1, a2, _, _, _⟩ := cells3 hyW; obtain ⟨ka, ea, hxa⟩ := hAp.y; unfold RBox at hxa; obtain ⟨x0, x1, x2, xf0, xf1, xf2⟩ := cells3 hxa; clear hAp hyW hxa)
                            | (refine step_appN (w := wc.drew.alloc (.cells #[.int .i64 (c : Int), .int .i64 xo, .int .i64 y] 93)) (by rfl) (.tmp 102) (.tmp 104) (by rfl) (g + 1) 1 1 (.slice Al kq cl) (some ⟨wc.heap.size, 0, none⟩) ns [((c : Int), xo, y)] (by rfl) hown1 (by rfl) rfl (fun h => by cases h) hone (by simp; omega) hbase ?_; intro v2 W9 hv2 hg2; have hAp := Hap v2 W9 hv2 ⟨hg2.os, hg2.tape, hg2.output, hg2.size, hg2.block⟩; have HAp := Lib.hid hAp; have hyW := hAp.u; unfold RBox at hyW; obtain ⟨a0, a1, a2, _, _, _⟩ := cells3 hyW; obtain ⟨ka, ea, hxa⟩ := hAp.y; unfold RBox at hxa; obtain ⟨x0, x1, x2, xf0, xf1, xf2⟩ := cells3 hxa; clear hAp hyW hxa))
                          all_goals
                            go_wp2_with fail
                            exact ⟨⟨kq + 1, ns ++ [((c : Int), xo, y)], T3, by omega, by go_num, Lib.hid (by rw [List.length_append, HnLen.out]; rfl), HNk1, HNk2, Lib.hid (HAp.out.store HSf.out)⟩, by simp [intOf]; omega⟩
              · by_cases heT : T.err = 0
                · obtain rfl : kq = n2 := by omega
                  have HTE := Lib.hid (HnOk.out heT)
                  have HX1 : Hid (T.err = 0 → S.err = 0 ∧ rdWays S (j + 1) = (ls ++ [ns], T, 0)) := Lib.hid (fun _ => ⟨HE1.out.1, HNext.out ns T (by rw [HTf.out HTE.out.1]; exact HTE.out.2)⟩)
                  clear heT hgo
                  go_wp2_with fail
                  go_meet
                  exact ⟨ns, T, Al, cl, by rw [HnLen.out], Lib.hid (by rw [HnLen.out]; exact hn24), HX1, HnBad, HI⟩
                · have heT' : ((T.err : Int) == 0) = false := by simpa using heT
                  have HX1 : Hid (T.err = 0 → S.err = 0 ∧ rdWays S (j + 1) = (ls ++ [ns], T, 0)) := Lib.hid (fun h => absurd h heT)
                  clear heT hgo
                  by_cases hkn : kq < n2
                  · have hkn' : (kq : Int) < (n2 : Int) := by omega
                    go_wp2_with fail
                    go_meet
                    exact ⟨ns, T, Al, cl, by rw [HnLen.out], Lib.hid (by rw [HnLen.out]; omega), HX1, HnBad, HI⟩
                  · obtain rfl : kq = n2 := by omega
                    go_wp2_with fail
                    go_meet
                    exact ⟨ns, T, Al, cl, by rw [HnLen.out], Lib.hid (by rw [HnLen.out]; exact hn24), HX1, HnBad, HI⟩
          case rest =>
            obtain ⟨ns, T, Al, cl, rfl, HLn, HX1, HX2, HI⟩ := hcut
            clear HI5 HI3 HStop HNext HT0 HTf
            obtain ⟨ky, hyy, hSy⟩ := HI.out.y
            have HSy := Lib.hid hSy
            have hR9 := I9.outer HR3.out HI.out
            have hbA : Below wc.heap.size wc (wc.alloc (.cells #[.slice Al ns.length cl] 89)) := (Below.refl _ _).alloc (Nat.le_refl _) _
            have hown1 : OwnW wc (bx + 1) (.slice Ao j co) ls := hR9.own
            have hnsO : OwnN wc (bx + 1) (.slice Al ns.length cl) ns := HI.out.own.base (by omega)
            have hbase : bx + 1 ≤ wc.heap.size := by have := HI.out.lt; omega
            have hll : ls.length ≤ 1000 := by have := HLen.out; omega
            have Hap := fun (v2 : Value) (W2 : World) (h1 : OwnW W2 (bx + 1) v2 (ls ++ [ns])) (h2 : (wc.alloc (.cells #[.slice Al ns.length cl] 89)).grownBy W2 (Value.slice Ao j co).ownBlock) => I9.app HR3.out HI.out hyy hbA h1 h2
            have hyA : (wc.alloc (.cells #[.slice Al ns.length cl] 89)).heap[g]? = some (RBox t ky T.err) := (hbA.block g HI.out.lt).trans hyy
            unfold RBox at hyy hyA
            obtain ⟨b0, b1, b2, _, _, _⟩ := cells3 hyA
            obtain ⟨y0, y1, y2, _, _, _⟩ := cells3 hyy
            clear hyy hSy hbA hyA hR9
            go_wp2_with fail
            go_region_law (refine step_appW (w := wc.drew) (by rfl) (.tmp 107) (.tmp 109) (by rfl) (bx + 1) 1 (.slice Ao j co) (.slice Al ns.length cl) ls ns (by rfl) hown1.drew (by rfl) hnsO.drew (by rfl) hll hbase ?_; intro v2 W9 hv2 hg2; have hAp := Hap v2 W9 hv2 ⟨hg2.os, hg2.tape, hg2.output, hg2.size, hg2.block⟩; have HAp := Lib.hid hAp; have hyW := hAp.y; unfold RBox at hyW; obtain ⟨a0, a1, a2, _, _, _⟩ := cells3 hyW; obtain ⟨ka, ea, hxa⟩ := hAp.x; unfold RBox at hxa; obtain ⟨x0, x1, x2, xf0, xf1, xf2⟩ := cells3 hxa; clear hAp hyW hxa)
            all_goals
              go_wp2_with fail
              exact ⟨⟨j + 1, ls ++ [ns], T, by omega, by go_num, Lib.hid (by rw [List.length_append, HLen.out]; rfl), HX1, HX2, Lib.hid (HAp.out.store HSy.out)⟩, by simp [intOf]; omega⟩
      · by_cases he1 : S1.err = 0
        · obtain rfl : j = n := by omega
          have HE1 := Lib.hid (HOk.out he1)
          have HR2 : Hid (r = if chkW d ls ≠ 0 then ([], S1, chkW d ls) else (ls, S1, 0)) := Lib.hid (by rw [HR1.out HE1.out.1]; exact readR9_fine HE1.out.2)
          have hsm := rdWays_small j (by rw [HE1.out.2] : (rdWays S j).2.2 = 0)
          rw [HE1.out.2] at hsm
          have HC := Lib.hid (refCheck9_any A Ao capd ls.length co d ls hdl wr (HA.out.next HRr.out.below) (HRr.out.own.wg (by have := HLen.out; omega) (fun x hx => by have := hsm x hx; omega)))
          rw [HLen.out] at HC
          unfold ChkPost9 at HC
          have he1' : ((S1.err : Int) != 0) = false := by simp [he1]
          generalize chkW d ls = pe at *
          clear hsm he1 hgo HE1
          go_wp2_with fail
          refine HC.out.mono ?_
          rintro e w9 ⟨rfl, hb9⟩
          have hR9 := HRr.out.next hb9
          have hnil := hR9.nil
          obtain ⟨kz, hxx, hSz⟩ := hR9.x
          unfold RNil at hnil
          unfold RBox at hxx
          clear y0 y1 y2
          obtain ⟨x0, x1, x2, xf0, xf1, xf2⟩ := cells3 hnil
          obtain ⟨y0, y1, y2, _, _, _⟩ := cells3 hxx
          have n1 : bx ≠ w.heap.size + 1 := by have := hR9.hx; omega
          have HR9 := Lib.hid hR9
          have HS9 := Lib.hid hSz
          clear hnil hxx hR9 hSz hb9 HC
          by_cases hq : pe = 0
          · have HRR : Hid (r = (ls, S1, 0)) := Lib.hid (by rw [HR2.out, if_neg (by simp [hq])])
            have hq' : ((pe : Int) != 0) = false := by simp [hq]
            have HE9 := Lib.hid (HR9.out.ends (kk := kz) (S' := S1))
            clear hq HR2
            go_wp2_with fail
            go_region
            go_wp2_with fail
            exact ends9_ret HRR.out (by rfl) (by rfl) (by rfl) rfl HE9.out HS9.out rfl
          · have HRR : Hid (r = ([], S1, pe)) := Lib.hid (by rw [HR2.out, if_pos hq])
            have hq' : ((pe : Int) != 0) = true := by simpa using hq
            have HE9 := Lib.hid (HR9.out.ends0 (kk := kz) (S' := S1))
            clear hq HR2
            go_wp2_with fail
            go_region
            go_wp2_with fail
            exact ends9_ret HRR.out (by rfl) (by rfl) (by rfl) rfl HE9.out HS9.out rfl
        · have HRR := Lib.hid (HBad.out he1)
          have he1' : ((S1.err : Int) != 0) = true := by simpa using he1
          have he2' : ((S1.err : Int) == 0) = false := by simpa using he1
          have hnil := HRr.out.nil
          unfold RNil at hnil
          obtain ⟨x0, x1, x2, xf0, xf1, xf2⟩ := cells3 hnil
          have n1 : bx ≠ w.heap.size + 1 := by have := HRr.out.hx; omega
          have HE9 := Lib.hid (HRr.out.ends0 (kk := kx) (S' := S1))
          clear he1 hgo hnil
          by_cases hjn : j < n
          · have hjn' : (j : Int) < (n : Int) := by omega
            go_wp2_with fail
            go_region
            go_wp2_with fail
            exact ends9_ret HRR.out (by rfl) (by rfl) (by rfl) rfl HE9.out HSx.out rfl
          · obtain rfl : j = n := by omega
            go_wp2_with fail
            go_region
            go_wp2_with fail
            exact ends9_ret HRR.out (by rfl) (by rfl) (by rfl) rfl HE9.out HSx.out rfl
end Go.Proofs.YtahejekcfgkiaaaGreatDoor.need
