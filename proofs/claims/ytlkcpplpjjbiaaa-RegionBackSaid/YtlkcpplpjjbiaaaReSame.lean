/-
  The law's own like and same: what the program tells is what the document says. No condition.
-/
import Derived.Test.YtlkcpplpjjbiaaaReDo
import Derived.Test.YtlkcpplpjjbiaaaReRefDo
import Derived.Test.YtlkcpplpjjbiaaaFRefSame
namespace Go.Proofs.Ytlkcpplpjjbiaaa.reg
open Go.RowKit Go.ChangeShapes
open Go.Proofs.Ytlkcpplpjjbiaaa.frames (Fr In GoodN FrsPost turnF)
set_option linter.unusedVariables false
set_option linter.unusedSimpArgs false

theorem below_drewN {B : Nat} {a w : World} (h : Below B a w) (n : Nat) : Below B a (w.drewN n) := ⟨h.os, h.tape, h.output, h.size, h.block⟩
set_option maxRecDepth 100000 in
set_option maxHeartbeats 4000000 in
theorem like_any (A A2 : Option Addr) (c c2 : Nat) (l : List E) (hl : l.length ≤ 4096) (w : World) (B B2 : Nat → Prop) (hA : pr.SAt w B A l) (hB : pol.SAt w B2 A2 l) :
    Calls Try.prog 25 #[.slice A l.length c, .slice A2 l.length c2] w fun e w' => e = .returned (.bool true) ∧ Below w.heap.size w w' := by
  have HA := Lib.hid hA
  have HB := Lib.hid hB
  clear hA hB
  go_enter Try.func25, Try.ntmps25
  go_wp2_with fail
  go_loopw [5] (fun i wr => ∃ j : Nat, j ≤ l.length ∧ i = .int .i64 (j : Int) ∧ Hid (pr.SAt wr B A l ∧ pol.SAt wr B2 A2 l ∧ Below w.heap.size w wr)) (fun i _ => l.length - (intOf i).toNat)
  case atStart => exact ⟨0, Nat.zero_le _, rfl, Lib.hid ⟨HA.out, HB.out, Below.refl _ _⟩⟩
  case round =>
    obtain ⟨j, hj, rfl, HS⟩ := hrel
    by_cases hlt : j < l.length
    · obtain ⟨a, oa, rfl, _, _, a0, a1⟩ := HS.out.1 j hlt
      obtain ⟨b, ob, rfl, _, _, b0, b1⟩ := HS.out.2.1 j hlt
      have hlt' : (j : Int) < (l.length : Int) := by omega
      have hlt0 : (0 : Int) ≤ (j : Int) := by omega
      generalize l.getD j (0, 0) = d at *
      go_wp2_with fail
      go_quiet (fail)
      go_wp2
      go_roundw
      case rel => exact ⟨j + 1, by omega, by go_num, Lib.hid ⟨HS.out.1.keep (fun _ _ _ => rfl) (Nat.le_refl _), HS.out.2.1.keep (fun _ _ _ => rfl) (Nat.le_refl _), below_drewN HS.out.2.2 _⟩⟩
      case measure => simp [intOf]; omega
    · have HE := Lib.hid HS.out.2.2
      clear HS
      go_wp2_with fail
      go_ret
      exact ⟨rfl, HE.out⟩
/-- The program's region and the document's are one. -/
structure One (m : Int) (l : List Fr) (s : St) (d : Ds) : Prop where
  fr : s.fr = l
  num : s.num = d.num
  ab : s.ab = d.ab
  was : s.was = d.was
  held : Match m s.held d.got
set_option maxRecDepth 100000 in
set_option maxHeartbeats 8000000 in
theorem same_any {w : World} {g c i c0 : Nat} {A A0 : Option Addr} {vw vh : Value} {s : St} {m : Rg} {d : Ds} {l : List Fr} {q : Int} (h : AtG w g A c vw vh s) (hx : RgAt w A0 i c0 m d) (hI : In w A0 c0 l) (hi : i = l.length) (ho : One q l s d) (hf : FitS s) (hd : Fits d) :
    Calls Try.prog 11 #[.pointer (some ⟨g, 0, none⟩), rgV m] w fun e w' => e = .returned (.bool true) ∧ Below w.heap.size w w' := by
  have hb0 := (Below.refl w.heap.size w).alloc (Nat.le_refl _) (rgO m)
  have hlw : d.was.reverse.length = d.was.length := List.length_reverse
  have HZ : Hid (∀ w', Below (w.alloc (rgO m)).heap.size (w.alloc (rgO m)) w' → w'.cell? ⟨w.heap.size, 0, none⟩ = some (.slice m.A m.n m.c) ∧ w'.cell? ⟨w.heap.size, 1, none⟩ = some (.int .i64 m.num) ∧ w'.cell? ⟨w.heap.size, 2, none⟩ = some (.int .i64 m.ab) ∧ w'.cell? ⟨w.heap.size, 3, none⟩ = some (.slice m.U m.nu m.cu) ∧ w'.cell? ⟨w.heap.size, 4, none⟩ = some (.slice m.G m.ng m.cg)) := Lib.hid fun W hb => by
    exact rg_cells ((hb.block w.heap.size (by rw [World.size_alloc]; omega)).trans (heap_alloc_new w (rgO m)))
  have HB := Lib.hid hb0
  have HX : Hid (Below (w.alloc (rgO m)).heap.size (w.alloc (rgO m)) (w.alloc (rgO m))) := Lib.hid (Below.refl _ _)
  have K : ∀ W, Below (w.alloc (rgO m)).heap.size (w.alloc (rgO m)) W → Below w.heap.size w W := fun W hb => hb0.trans (hb.mono hb0.size)
  have T : ∀ W W', Below (w.alloc (rgO m)).heap.size (w.alloc (rgO m)) W → Below W.heap.size W W' → Below (w.alloc (rgO m)).heap.size (w.alloc (rgO m)) W' := fun W W' hb h => hb.trans (h.mono hb.size)
  have hfr : frOf s = if 0 < m.ab then turnF l m.ab else l := by
    unfold frOf
    rw [ho.fr, ho.ab, ← hx.ab]
    have h1 : 0 ≤ m.ab := by rw [hx.ab]; exact hd.ab0
    by_cases hz : m.ab = 0
    · rw [if_pos hz, if_neg (by omega)]
    · rw [if_neg hz, if_pos (by omega)]
  have hfl : (frOf s).length ≤ 100 := by
    unfold frOf
    split
    · exact h.good.1
    · rw [frames.turnN_len h.good]; exact h.good.1
  obtain ⟨fl, hfl2⟩ : ∃ fl, fl = frOf s := ⟨_, rfl⟩
  have C1 : Hid (∀ W, Below (w.alloc (rgO m)).heap.size (w.alloc (rgO m)) W → Calls Try.prog 15 #[.pointer (some ⟨g, 0, none⟩)] W fun e w' => ∃ A1 c1, e = .returned (.slice A1 d.was.length c1) ∧ (w'.cell? ⟨w.heap.size, 0, none⟩ = some (.slice m.A m.n m.c) ∧ w'.cell? ⟨w.heap.size, 1, none⟩ = some (.int .i64 m.num) ∧ w'.cell? ⟨w.heap.size, 2, none⟩ = some (.int .i64 m.ab) ∧ w'.cell? ⟨w.heap.size, 3, none⟩ = some (.slice m.U m.nu m.cu) ∧ w'.cell? ⟨w.heap.size, 4, none⟩ = some (.slice m.G m.ng m.cg)) ∧ Hid (pr.SAt w' (fun _ => True) A1 d.was.reverse ∧ Below (w.alloc (rgO m)).heap.size (w.alloc (rgO m)) w')) := Lib.hid fun W hb =>
    (undo_any (h.next (K W hb))).mono fun e w' hh => by
      obtain ⟨A1, c1, rfl, h1, h2⟩ := hh
      rw [ho.was] at h1 ⊢
      rw [hlw]
      exact ⟨A1, c1, rfl, HZ.out _ (T _ _ hb h2), Lib.hid ⟨h1.base fun _ _ _ => trivial, T _ _ hb h2⟩⟩
  have C2 : Hid (∀ W A1, pr.SAt W (fun _ => True) A1 d.was.reverse ∧ Below (w.alloc (rgO m)).heap.size (w.alloc (rgO m)) W → Calls Try.prog 26 #[rgV m] W fun e w' => ∃ A2 c2, e = .returned (.slice A2 d.was.length c2) ∧ (w'.cell? ⟨w.heap.size, 0, none⟩ = some (.slice m.A m.n m.c) ∧ w'.cell? ⟨w.heap.size, 1, none⟩ = some (.int .i64 m.num) ∧ w'.cell? ⟨w.heap.size, 2, none⟩ = some (.int .i64 m.ab) ∧ w'.cell? ⟨w.heap.size, 3, none⟩ = some (.slice m.U m.nu m.cu) ∧ w'.cell? ⟨w.heap.size, 4, none⟩ = some (.slice m.G m.ng m.cg)) ∧ Hid (pr.SAt w' (fun _ => True) A1 d.was.reverse ∧ pol.SAt w' (fun _ => True) A2 d.was.reverse ∧ Below (w.alloc (rgO m)).heap.size (w.alloc (rgO m)) w')) := Lib.hid fun W A1 hs =>
    (refUndo_any m d.was W _ (hx.next (K W hs.2)).oU.at hx.nu (by have := hd.was; omega)).mono fun e w' hh => by
      obtain ⟨A2, c2, rfl, h1, h2⟩ := hh
      have h3 := h1.at
      rw [hlw]
      exact ⟨A2, c2, rfl, HZ.out _ (T _ _ hs.2 h2), Lib.hid ⟨hs.1.next h2, h3.base fun _ _ _ => trivial, T _ _ hs.2 h2⟩⟩
  have C3 : Hid (∀ W A1 c1 A2 c2, pr.SAt W (fun _ => True) A1 d.was.reverse ∧ pol.SAt W (fun _ => True) A2 d.was.reverse ∧ Below (w.alloc (rgO m)).heap.size (w.alloc (rgO m)) W → Calls Try.prog 25 #[.slice A1 d.was.length c1, .slice A2 d.was.length c2] W fun e w' => e = .returned (.bool true) ∧ (w'.cell? ⟨w.heap.size, 0, none⟩ = some (.slice m.A m.n m.c) ∧ w'.cell? ⟨w.heap.size, 1, none⟩ = some (.int .i64 m.num) ∧ w'.cell? ⟨w.heap.size, 2, none⟩ = some (.int .i64 m.ab) ∧ w'.cell? ⟨w.heap.size, 3, none⟩ = some (.slice m.U m.nu m.cu) ∧ w'.cell? ⟨w.heap.size, 4, none⟩ = some (.slice m.G m.ng m.cg)) ∧ Hid (Below (w.alloc (rgO m)).heap.size (w.alloc (rgO m)) w')) := Lib.hid fun W A1 c1 A2 c2 hs => by
    have h1 := like_any A1 A2 c1 c2 d.was.reverse (by rw [hlw]; have := hd.was; omega) W _ _ hs.1 hs.2.1
    rw [hlw] at h1
    exact h1.mono fun e w' hh => ⟨hh.1, HZ.out _ (T _ _ hs.2.2 hh.2), Lib.hid (T _ _ hs.2.2 hh.2)⟩
  have C4 : Hid (∀ W, Below (w.alloc (rgO m)).heap.size (w.alloc (rgO m)) W → Calls Try.prog 19 #[.pointer (some ⟨g, 0, none⟩)] W fun e w' => ∃ A1 c1, e = .returned (.slice A1 m.ng c1) ∧ (w'.cell? ⟨w.heap.size, 0, none⟩ = some (.slice m.A m.n m.c) ∧ w'.cell? ⟨w.heap.size, 1, none⟩ = some (.int .i64 m.num) ∧ w'.cell? ⟨w.heap.size, 2, none⟩ = some (.int .i64 m.ab) ∧ w'.cell? ⟨w.heap.size, 3, none⟩ = some (.slice m.U m.nu m.cu) ∧ w'.cell? ⟨w.heap.size, 4, none⟩ = some (.slice m.G m.ng m.cg)) ∧ Hid (pr.SAt w' (fun _ => True) A1 d.got ∧ Below (w.alloc (rgO m)).heap.size (w.alloc (rgO m)) w')) := Lib.hid fun W hb =>
    (held_any (h.next (K W hb)) ho.held).mono fun e w' hh => by
      obtain ⟨A1, c1, rfl, h1, h2⟩ := hh
      exact ⟨A1, c1, by rw [hx.ng], HZ.out _ (T _ _ hb h2), Lib.hid ⟨h1.base fun _ _ _ => trivial, T _ _ hb h2⟩⟩
  have C5 : Hid (∀ W A1 c1, pr.SAt W (fun _ => True) A1 d.got ∧ Below (w.alloc (rgO m)).heap.size (w.alloc (rgO m)) W → Calls Try.prog 25 #[.slice A1 m.ng c1, .slice m.G m.ng m.cg] W fun e w' => e = .returned (.bool true) ∧ (w'.cell? ⟨w.heap.size, 0, none⟩ = some (.slice m.A m.n m.c) ∧ w'.cell? ⟨w.heap.size, 1, none⟩ = some (.int .i64 m.num) ∧ w'.cell? ⟨w.heap.size, 2, none⟩ = some (.int .i64 m.ab) ∧ w'.cell? ⟨w.heap.size, 3, none⟩ = some (.slice m.U m.nu m.cu) ∧ w'.cell? ⟨w.heap.size, 4, none⟩ = some (.slice m.G m.ng m.cg)) ∧ Hid (Below (w.alloc (rgO m)).heap.size (w.alloc (rgO m)) w')) := Lib.hid fun W A1 c1 hs => by
    have h1 := like_any A1 m.G c1 m.cg d.got (by have := hd.got; omega) W _ _ hs.1 (hx.next (K W hs.2)).oG.at
    rw [← hx.ng] at h1
    exact h1.mono fun e w' hh => ⟨hh.1, HZ.out _ (T _ _ hs.2 hh.2), Lib.hid (T _ _ hs.2 hh.2)⟩
  have C6 : Hid (∀ W, Below (w.alloc (rgO m)).heap.size (w.alloc (rgO m)) W → Calls Try.prog 20 #[.pointer (some ⟨g, 0, none⟩)] W fun e w' => ∃ A1 c1, e = .returned (.slice A1 fl.length c1) ∧ (w'.cell? ⟨w.heap.size, 0, none⟩ = some (.slice m.A m.n m.c) ∧ w'.cell? ⟨w.heap.size, 1, none⟩ = some (.int .i64 m.num) ∧ w'.cell? ⟨w.heap.size, 2, none⟩ = some (.int .i64 m.ab) ∧ w'.cell? ⟨w.heap.size, 3, none⟩ = some (.slice m.U m.nu m.cu) ∧ w'.cell? ⟨w.heap.size, 4, none⟩ = some (.slice m.G m.ng m.cg)) ∧ Hid (In w' A1 c1 fl ∧ Below (w.alloc (rgO m)).heap.size (w.alloc (rgO m)) w')) := Lib.hid fun W hb =>
    (frames_any (h.next (K W hb))).mono fun e w' hh => by
      unfold FrsPost at hh
      rw [← hfl2] at hh
      obtain ⟨A1, c1, rfl, h1, h2⟩ := hh
      exact ⟨A1, c1, rfl, HZ.out _ (T _ _ hb h2), Lib.hid ⟨h1, T _ _ hb h2⟩⟩
  have C7 : Hid (∀ W A1 c1, In W A1 c1 fl ∧ Below (w.alloc (rgO m)).heap.size (w.alloc (rgO m)) W → Calls Try.prog 28 #[rgV m] W fun e w' => ∃ A2 c2, e = .returned (.slice A2 fl.length c2) ∧ (w'.cell? ⟨w.heap.size, 0, none⟩ = some (.slice m.A m.n m.c) ∧ w'.cell? ⟨w.heap.size, 1, none⟩ = some (.int .i64 m.num) ∧ w'.cell? ⟨w.heap.size, 2, none⟩ = some (.int .i64 m.ab) ∧ w'.cell? ⟨w.heap.size, 3, none⟩ = some (.slice m.U m.nu m.cu) ∧ w'.cell? ⟨w.heap.size, 4, none⟩ = some (.slice m.G m.ng m.cg)) ∧ Hid (In w' A1 c1 fl ∧ In w' A2 c2 fl ∧ Below (w.alloc (rgO m)).heap.size (w.alloc (rgO m)) w')) := Lib.hid fun W A1 c1 hs =>
    (refFrames_any m l W (by rw [hx.eA, hx.ec]; exact hI.next (K W hs.2)) (hx.en.trans hi)).mono fun e w' hh => by
      rw [← hfr, ← hfl2] at hh
      unfold FrsPost at hh
      obtain ⟨A2, c2, rfl, h1, h2⟩ := hh
      exact ⟨A2, c2, rfl, HZ.out _ (T _ _ hs.2 h2), Lib.hid ⟨hs.1.next h2, h1, T _ _ hs.2 h2⟩⟩
  have C8 : Hid (∀ W A1 c1 A2 c2, In W A1 c1 fl ∧ In W A2 c2 fl ∧ Below (w.alloc (rgO m)).heap.size (w.alloc (rgO m)) W → Calls Try.prog 27 #[.slice A1 fl.length c1, .slice A2 fl.length c2] W fun e w' => e = .returned (.bool true) ∧ (w'.cell? ⟨w.heap.size, 0, none⟩ = some (.slice m.A m.n m.c) ∧ w'.cell? ⟨w.heap.size, 1, none⟩ = some (.int .i64 m.num) ∧ w'.cell? ⟨w.heap.size, 2, none⟩ = some (.int .i64 m.ab) ∧ w'.cell? ⟨w.heap.size, 3, none⟩ = some (.slice m.U m.nu m.cu) ∧ w'.cell? ⟨w.heap.size, 4, none⟩ = some (.slice m.G m.ng m.cg)) ∧ Hid (Below (w.alloc (rgO m)).heap.size (w.alloc (rgO m)) w')) := Lib.hid fun W A1 c1 A2 c2 hs =>
    (frames.refSame_yes A1 A2 c1 c2 fl W hs.1.at' hs.2.1.at' (by rw [hfl2]; omega)).mono fun e w' hh => ⟨hh.1, HZ.out _ (T _ _ hs.2.2 hh.2), Lib.hid (T _ _ hs.2.2 hh.2)⟩
  have C9 : Hid (∀ W, Below (w.alloc (rgO m)).heap.size (w.alloc (rgO m)) W → Calls Try.prog 21 #[.pointer (some ⟨g, 0, none⟩)] W fun e w' => e = .returned (.int .i64 m.num) ∧ W = w') := Lib.hid fun W hb => by
    have h1 := number_any (h.next (K W hb))
    rwa [ho.num, ← hx.num] at h1
  have C10 : Hid (∀ W, Below (w.alloc (rgO m)).heap.size (w.alloc (rgO m)) W → Calls Try.prog 22 #[.pointer (some ⟨g, 0, none⟩)] W fun e w' => e = .returned (.int .i64 m.ab) ∧ W = w') := Lib.hid fun W hb => by
    have h1 := aborts_any (h.next (K W hb))
    rwa [ho.ab, ← hx.ab] at h1
  obtain ⟨z0, z1, z2, z3, z4⟩ := HZ.out _ HX.out
  unfold rgV at C2 C7 ⊢
  unfold rgO at C1 C2 C3 C4 C5 C6 C7 C8 C9 C10 HX HB z0 z1 z2 z3 z4
  unfold rgC at C1 C2 C3 C4 C5 C6 C7 C8 C9 C10 HX HB z0 z1 z2 z3 z4 ⊢
  clear K T hfl hfl2 hfr hlw hb0 h hx hI hi ho hf hd HZ
  generalize d.was.length = nw at *
  generalize fl.length = nf at *
  obtain ⟨mA, mn, mc, mnum, mab, mU, mnu, mcu, mG, mng, mcg⟩ := m
  dsimp only at *
  go_enter Try.func11, Try.ntmps11
  go_upto_region 1 with fail
  generalize w.alloc (.cells #[.slice mA mn mc, .int .i64 mnum, .int .i64 mab, .slice mU mnu mcu, .slice mG mng mcg] 31) = W1 at *
  have HM := Lib.hid ((Below.refl W1.heap.size W1).drew)
  go_region_held3 (fun w' => w'.cell? ⟨w.heap.size, 0, none⟩ = some (.slice mA mn mc) ∧ w'.cell? ⟨w.heap.size, 1, none⟩ = some (.int .i64 mnum) ∧ w'.cell? ⟨w.heap.size, 2, none⟩ = some (.int .i64 mab) ∧ w'.cell? ⟨w.heap.size, 3, none⟩ = some (.slice mU mnu mcu) ∧ w'.cell? ⟨w.heap.size, 4, none⟩ = some (.slice mG mng mcg)) (go_keep)
    (first
      | (go_at_call 15; refine (C1.out _ ?_).mono ?_; (exact HM.out); rintro _ w1 ⟨A1, c1, rfl, ⟨p0, p1, p2, p3, p4⟩, H1⟩)
      | (go_at_call 26; refine (C2.out _ A1 ?_).mono ?_; (exact H1.out); rintro _ w2 ⟨A2, c2, rfl, ⟨q0, q1, q2, q3, q4⟩, H2⟩)
      | (go_at_call_of 25 (A2); refine (C3.out _ A1 c1 A2 c2 ?_).mono ?_; (exact H2.out); rintro _ w3 ⟨rfl, ⟨r0, r1, r2, r3, r4⟩, H3⟩)
      | (go_at_call 19; refine (C4.out _ ?_).mono ?_; (exact H3.out); rintro _ w4 ⟨A4, c4, rfl, ⟨s0, s1, s2, s3, s4⟩, H4⟩)
      | (go_at_call_of 25 (A4); refine (C5.out _ A4 c4 ?_).mono ?_; (exact H4.out); rintro _ w5 ⟨rfl, ⟨t0, t1, t2, t3, t4⟩, H5⟩)
      | (go_at_call 20; refine (C6.out _ ?_).mono ?_; (exact H5.out); rintro _ w6 ⟨A6, c6, rfl, ⟨u0, u1, u2, u3, u4⟩, H6⟩)
      | (go_at_call 28; refine (C7.out _ A6 c6 ?_).mono ?_; (exact H6.out); rintro _ w7 ⟨A7, c7, rfl, ⟨v0, v1, v2, v3, v4⟩, H7⟩)
      | (go_at_call 27; refine (C8.out _ A6 c6 A7 c7 ?_).mono ?_; (exact H7.out); rintro _ w8 ⟨rfl, ⟨x0, x1, x2, x3, x4⟩, H8⟩)
      | (go_at_call 21; refine (C9.out _ ?_).mono ?_; (exact H8.out); rintro _ _ ⟨rfl, rfl⟩)
      | (go_at_call 22; refine (C10.out _ ?_).mono ?_; (exact H8.out); rintro _ _ ⟨rfl, rfl⟩))
  go_wp2_with fail
  go_ret
  exact ⟨by simp, HB.out.trans (H8.out.mono HB.out.size)⟩
end Go.Proofs.Ytlkcpplpjjbiaaa.reg
