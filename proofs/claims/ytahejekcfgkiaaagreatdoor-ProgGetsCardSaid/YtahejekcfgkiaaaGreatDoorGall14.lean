/-
  Texts of one claim in one file: GRefPut. Each has its own sentence, with its conditions.
-/
import Derived.Test.YtahejekcfgkiaaaGreatDoorGall11
import Derived.Test.YtahejekcfgkiaaaGreatDoorGall12
import Derived.Test.YtahejekcfgkiaaaGreatDoorGall13
import Derived.Test.YtahejekcfgkiaaaGreatDoorGall3
/-
  The document's own bytes of a program that may be. No condition but that it may be.
-/
namespace Go.Proofs.YtahejekcfgkiaaaGreatDoor.pgm
open Go.RowKit Go.ChangeShapes
open Go.Proofs.YtahejekcfgkiaaaGreatDoor.octet (mk_append size_mk refNumW_any num num_length_le Fits)
open Go.Proofs.YtahejekcfgkiaaaGreatDoor.objs (De zero DAt encL encL_le)
open Go.Proofs.YtahejekcfgkiaaaGreatDoor.need (WAt encW encWs_le chkW chkW_zero refPut9_any)
set_option linter.unusedVariables false

theorem slim_of9 {d : List De} {l : List (List De)} (hd : (Go.Proofs.YtahejekcfgkiaaaGreatDoor.objs.chk d).2 = 0) (h : chkW d l = 0) : ∀ x ∈ l, ∀ t ∈ x, Go.Proofs.YtahejekcfgkiaaaGreatDoor.need.Slim9 t := fun x hx t ht => by
  obtain ⟨h1, h2, _, h4, h5⟩ := Go.Proofs.YtahejekcfgkiaaaGreatDoor.need.need_small hd ((chkW_zero h).2.2 x hx |>.2.2 t ht)
  exact ⟨h1, by omega, by omega⟩
theorem encW_le {w : List (List De)} (h : w.length ≤ 4) (h2 : ∀ x ∈ w, x.length ≤ 4) : (encW w).length ≤ 554 := by
  have h1 := num_length_le w.length
  have h3 := encWs_le (w := w) (fun x hx => by have := h2 x hx; omega) w.length (Nat.le_refl _)
  simp only [encW, List.length_append]
  omega
theorem encIn_le (x : De) : (encIn x).length ≤ 21 := Go.Proofs.YtahejekcfgkiaaaGreatDoor.inst.encI_le x.1 x.2.1 x.2.2
theorem encFn_le {f : Fn} (h : f.co.length ≤ 200) : (encFn f).length ≤ 4230 := by
  have h1 := num_length_le f.ar.toNat
  have h2 := num_length_le f.lo.toNat
  have h3 := num_length_le f.co.length
  have h4 := encAll_le (e := encIn) (d := zero) (l := f.co) (c := 21) (fun x _ => encIn_le x) f.co.length (Nat.le_refl _)
  simp only [encFn, List.length_append]
  omega

/-- A region that draws its order, whose operations only read and whose callees leave the world in a class of our own. -/
theorem wp_region_cls {P : Program} {C : World → Prop} {id : Nat} {Q : Exit → Act → World → Prop} {a : Act} {w : World} {l : List Oper} (hm : P.follows .mixedOrders = true) (hB : Region.lexB .any l.toArray = true) (hC : C { w with drawn := w.drawn + 1 })
    (h : wpQuiet P l.toArray C (fun a' => ∀ w', C w' → Q .normal a' w') l a) : (Code.region id l.toArray true).wp P Q a w :=
  wp_region_quiet (C := C) hm hB hC (by simpa using h)
/-- While a function is put: it stands in a block of its own. -/
structure PF (w W0 : World) (g : Nat) (a l : Int) (A : Option Addr) (n c : Nat) (co : List De) (W : World) : Prop where
  below : Below (w.heap.size + 1) W0 W
  size : w.heap.size + 1 ≤ W.heap.size
  box : W.heap[g]? = some (fnBox a l (.slice A n c))
  code : DAt W A co
theorem PF.next {w W0 W W' : World} {g : Nat} {a l : Int} {A : Option Addr} {n c : Nat} {co : List De} (h : PF w W0 g a l A n c co W) (hb : Below W.heap.size W W') : PF w W0 g a l A n c co W' :=
  ⟨h.below.trans (hb.mono h.size), Nat.le_trans h.size hb.size, (hb.block g (lt_of_block h.box)).trans h.box, h.code.next hb⟩
theorem PF.drew {w W0 W : World} {g : Nat} {a l : Int} {A : Option Addr} {n c : Nat} {co : List De} (h : PF w W0 g a l A n c co W) : PF w W0 g a l A n c co W.drew := ⟨h.below.drew, h.size, h.box, h.code.drew⟩
theorem PF.cells {w W0 W : World} {g : Nat} {a l : Int} {A : Option Addr} {n c : Nat} {co : List De} (h : PF w W0 g a l A n c co W) :
    W.cell? ⟨g, 0, none⟩ = some (.int .i64 a) ∧ W.cell? ⟨g, 1, none⟩ = some (.int .i64 l) ∧ W.cell? ⟨g, 2, none⟩ = some (.slice A n c) := by
  unfold World.cell?
  rw [h.box]
  exact ⟨rfl, rfl, rfl⟩

set_option maxRecDepth 100000 in
set_option maxHeartbeats 16000000 in
theorem refPut10_any (v : Value) (p : Pg) (hz : chkP p = 0) (w : World) (hv : PAt w v p) :
    Calls Tryz.prog 10 #[v] w fun e w' => e = .returned (.string ⟨(encP p).toArray⟩) ∧ Below w.heap.size w w' := by
  obtain ⟨A, B, C, ca, cb, cc, rfl, hA, hB, hC⟩ := hv
  obtain ⟨g1, g2, g3, g4, g5, g6⟩ := chkP_zero hz
  have g0 := (Go.Proofs.YtahejekcfgkiaaaGreatDoor.objs.chk_zero g1).1
  obtain ⟨ds, ws, fs⟩ := p
  dsimp only at hA hB hC g0 g1 g2 g3 g4 g5 g6
  have HB0 : Hid (Below w.heap.size w (w.alloc (.cells #[.slice A ds.length ca, .slice B ws.length cb, .slice C fs.length cc] 26))) := Lib.hid ((Below.refl _ w).alloc (Nat.le_refl _) _)
  have HBx : ∀ W, Below (w.heap.size + 1) (w.alloc (.cells #[.slice A ds.length ca, .slice B ws.length cb, .slice C fs.length cc] 26)) W → Hid (Below w.heap.size w W ∧ W.cell? ⟨w.heap.size, 0, none⟩ = some (.slice A ds.length ca) ∧ W.cell? ⟨w.heap.size, 1, none⟩ = some (.slice B ws.length cb) ∧ W.cell? ⟨w.heap.size, 2, none⟩ = some (.slice C fs.length cc)) := fun W h => by
    have hblk := (h.block _ (Nat.lt_succ_self _)).trans (heap_alloc_new w _)
    refine Lib.hid ⟨HB0.out.trans (h.mono (Nat.le_succ _)), ?_, ?_, ?_⟩
    all_goals (unfold World.cell?; rw [hblk]; rfl)
  have HP8 := fun W (hW : Below w.heap.size w W) => Lib.hid (Go.Proofs.YtahejekcfgkiaaaGreatDoor.objs.refPut_any A ca ds g1 W (hA.next hW))
  have HN := fun W (m : Nat) (hm : m ≤ 1000) => Lib.hid (refNumW_any W m (by unfold Fits; omega))
  have hl1 := encL_le ds
  have hl2 := num_length_le ws.length
  have hl3 := num_length_le fs.length
  have HPs : Hid (ByteArray.mk #[76, 74, 1] ++ ByteArray.mk (encL ds).toArray ++ ByteArray.mk (num ws.length).toArray = ByteArray.mk ([76, 74, 1] ++ encL ds ++ num ws.length).toArray) := Lib.hid (by rw [show (ByteArray.mk #[76, 74, 1]) = ByteArray.mk [76, 74, 1].toArray from rfl, mk_append, mk_append])
  have hpre : ([76, 74, 1] ++ encL ds ++ num ws.length).length ≤ 1000 := by simp only [List.length_append, List.length_cons, List.length_nil]; omega
  have HPf : Hid (encP ⟨ds, ws, fs⟩ = ([76, 74, 1] ++ encL ds ++ num ws.length) ++ encAll encW [] ws ws.length ++ num fs.length ++ encAll encFn Fn.zero fs fs.length) := Lib.hid (by unfold encP; simp only [List.append_assoc])
  have y1 := size_mk (encL ds)
  have y2 := size_mk (num ws.length)
  have y3 : (ByteArray.mk #[76, 74, 1]).size = 3 := rfl
  have y4 : (ByteArray.mk #[76, 74, 1] ++ ByteArray.mk (encL ds).toArray).size = 3 + (encL ds).length := by rw [show (ByteArray.mk #[76, 74, 1]) = ByteArray.mk [76, 74, 1].toArray from rfl, mk_append, size_mk, List.length_append]; rfl
  generalize [76, 74, 1] ++ encL ds ++ num ws.length = p1 at *
  obtain ⟨enc, henc⟩ : ∃ enc, enc = encP ⟨ds, ws, fs⟩ := ⟨_, rfl⟩
  rw [← henc] at HPf ⊢
  have HWs := Lib.hid hB
  have HFs := Lib.hid hC
  have HG := Lib.hid (And.intro g3 g6)
  have HSl : Hid (∀ x ∈ ws, x.length ≤ 4 ∧ (∀ y ∈ x, y.length ≤ 4) ∧ ∀ y ∈ x, ∀ t ∈ y, Go.Proofs.YtahejekcfgkiaaaGreatDoor.need.Slim9 t) := Lib.hid fun x hx => ⟨(chkW_zero (g3 x hx)).2.1, fun y hy => ((chkW_zero (g3 x hx)).2.2 y hy).2.1, slim_of9 g1 (g3 x hx)⟩
  have HEw : Hid (∀ j, j ≤ ws.length → (encAll encW [] ws j).length ≤ 554 * j) := Lib.hid (encAll_le fun x hx => encW_le (HSl.out x hx).1 (HSl.out x hx).2.1)
  have HEf : Hid (∀ j, j ≤ fs.length → (encAll encFn Fn.zero fs j).length ≤ 4230 * j) := Lib.hid (encAll_le fun f hf => encFn_le (chkFn_zero (g6 f hf)).2.2.1)
  have HN0 := fun W => HN W ws.length (by omega)
  have hwn : IntKind.u64.wrap (ws.length : Int) = (ws.length : Int) := by rw [IntKind.wrap_u64]; omega
  clear hA hB hC hz g1 g3 g6 henc
  go_enter Tryz.func10, Tryz.ntmps10
  go_upto_region 1 with fail
  obtain ⟨hbw, x0, x1, x2⟩ := (HBx _ (Below.refl _ _)).out
  have HK0 : ∀ W, Below (w.heap.size + 1) (w.alloc (.cells #[.slice A ds.length ca, .slice B ws.length cb, .slice C fs.length cc] 26)) W → Hid (W.cell? ⟨w.heap.size, 0, none⟩ = some (.slice A ds.length ca) ∧ W.cell? ⟨w.heap.size, 1, none⟩ = some (.slice B ws.length cb)) := fun W h => Lib.hid ⟨(HBx W h).out.2.1, (HBx W h).out.2.2.1⟩
  have HKb : ∀ W, Below (w.heap.size + 1) (w.alloc (.cells #[.slice A ds.length ca, .slice B ws.length cb, .slice C fs.length cc] 26)) W → Below w.heap.size w W := fun W h => (HBx W h).out.1
  go_cut [3] (fun s wx => s = .string ⟨p1.toArray⟩ ∧ Hid (Below (w.heap.size + 1) (w.alloc (.cells #[.slice A ds.length ca, .slice B ws.length cb, .slice C fs.length cc] 26)) wx))
  case first =>
    have hz0 : (w.alloc (.cells #[.slice A ds.length ca, .slice B ws.length cb, .slice C fs.length cc] 26)).heap.size = w.heap.size + 1 := World.size_alloc w _
    have hr0 := Below.refl (w.heap.size + 1) (w.alloc (.cells #[.slice A ds.length ca, .slice B ws.length cb, .slice C fs.length cc] 26))
    generalize w.alloc (.cells #[.slice A ds.length ca, .slice B ws.length cb, .slice C fs.length cc] 26) = W0 at *
    have hB := hr0
    have hsz0 : w.heap.size + 1 ≤ W0.heap.size := by omega
    have hsz := hsz0
    go_region_with (first
      | (go_at_call 28; refine (HP8 _ ?_).out.mono ?_; (first | exact HKb _ hB.drew | exact HKb _ hB); rintro e w5 ⟨rfl, hb5⟩; (first | have hB := hB.drew.trans (hb5.mono hsz) | have hB := hB.trans (hb5.mono hsz)); obtain ⟨q0, q1⟩ := (HK0 _ hB).out; have hsz := Nat.le_trans hsz0 hB.size)
      | (go_at_call 29; refine (HN0 _).out.mono ?_; rintro e w5 ⟨rfl, hb5⟩; (first | have hB := hB.drew.trans (hb5.mono hsz) | have hB := hB.trans (hb5.mono hsz)); obtain ⟨q0, q1⟩ := (HK0 _ hB).out; have hsz := Nat.le_trans hsz0 hB.size))
    all_goals
      have hBe := Lib.hid hB
      clear hb5 hB hsz q0 q1
      go_wp2_with fail
      go_meet
      first
        | exact ⟨by rw [HPs.out], hBe⟩
        | exact ⟨by rw [HPs.out], Lib.hid hBe.out.drew⟩
  case rest =>
    obtain ⟨rfl, HB1⟩ := hcut
    clear HPs y1 y2 y3 y4 hwn HN0 HP8 hl1 hl2 hbw x0 x1 x2 HK0 HB0
    (rename (∀ (a : Act) (w : World), Code.wp _ _ _ a w → _) => hK; refine hK _ _ ?_; clear hK; apply wp_seq_k; intro _ _)
    go_wp2_with fail
    go_loopw [3, 4] (fun t i wr => ∃ j : Nat, j ≤ ws.length ∧ i = .int .i64 (j : Int) ∧ t = .string ⟨(p1 ++ encAll encW [] ws j).toArray⟩ ∧ Hid (Below (w.heap.size + 1) (w.alloc (.cells #[.slice A ds.length ca, .slice B ws.length cb, .slice C fs.length cc] 26)) wr)) (fun _ i _ => ws.length - (intOf i).toNat)
    case atStart => exact ⟨0, Nat.zero_le _, rfl, by simp [encAll], HB1⟩
    case round =>
      obtain ⟨j, hj, rfl, rfl, HB⟩ := hrel
      obtain ⟨hbw, x0, x1, x2⟩ := (HBx _ HB.out).out
      have HBw := Lib.hid hbw
      clear hbw x0
      by_cases hlt : j < ws.length
      · obtain ⟨b, off, Aj, cj, rfl, hbl, hc, hWt⟩ := (HWs.out.next HBw.out) j hlt
        have hlt' : (j : Int) < (ws.length : Int) := by omega
        have hj0 : (0 : Int) ≤ (j : Int) := by omega
        obtain ⟨s1, s2, s3⟩ := HSl.out _ (getD_in (d := []) hlt)
        have HE : Hid (p1 ++ encAll encW [] ws (j + 1) = (p1 ++ encAll encW [] ws j) ++ encW (ws.getD j [])) := Lib.hid (by simp only [encAll, List.append_assoc])
        have hpre2 : (p1 ++ encAll encW [] ws j).length ≤ 19000 := by
          have h2 := HEw.out j (by omega)
          rw [List.length_append]
          omega
        have hx := encW_le s1 s2
        have HO := Lib.hid (refPut9_any Aj cj (ws.getD j []) (by omega) (fun x hx => by have := s2 x hx; omega) s3 _ hWt)
        clear s1 s2 s3 hWt
        generalize p1 ++ encAll encW [] ws j = pre at *
        generalize ws.getD j [] = wj at *
        generalize encW wj = ej at *
        have z1 := size_mk pre
        have z2 := size_mk ej
        go_wp2_with fail
        refine HO.out.mono ?_
        rintro e w3 ⟨rfl, hb3⟩
        have HB3 := Lib.hid (HB.out.trans (hb3.mono (by have := HB.out.size; rw [World.size_alloc] at this; exact this)))
        clear hb3 HO hc x1 x2
        go_wp2
        go_roundw
        case rel => exact ⟨j + 1, by omega, by go_num, by rw [HE.out, ← mk_append], HB3⟩
        case measure => simp [intOf]; omega
      · obtain rfl : j = ws.length := by omega
        have hpre2 : (p1 ++ encAll encW [] ws ws.length).length ≤ 19000 := by
          have h2 := HEw.out ws.length (Nat.le_refl _)
          rw [List.length_append]
          omega
        have HN1 := HN wr fs.length (by omega)
        have hge : decide ((ws.length : Int) < (ws.length : Int)) = false := by simp
        have hwn : IntKind.u64.wrap (fs.length : Int) = (fs.length : Int) := by rw [IntKind.wrap_u64]; omega
        generalize p1 ++ encAll encW [] ws ws.length = pre at *
        have z1 := size_mk pre
        have z2 := size_mk (num fs.length)
        go_wp2_with fail
        refine HN1.out.mono ?_
        rintro e w3 ⟨rfl, hb3⟩
        have HB3 := Lib.hid (HB.out.trans (hb3.mono (by have := HB.out.size; rw [World.size_alloc] at this; exact this)))
        clear hb3 HN1 x1 x2 hwn
        have HPN : Hid (ByteArray.mk pre.toArray ++ ByteArray.mk (num fs.length).toArray = ByteArray.mk (pre ++ num fs.length).toArray) := Lib.hid (mk_append _ _)
        have hp2 : (pre ++ num fs.length).length ≤ 19010 := by rw [List.length_append]; omega
        go_wp2_with fail
        simp only [HPN.out]
        generalize pre ++ num fs.length = p2 at *
        go_loopw [3, 5] (fun t i wr => ∃ j : Nat, j ≤ fs.length ∧ i = .int .i64 (j : Int) ∧ t = .string ⟨(p2 ++ encAll encFn Fn.zero fs j).toArray⟩ ∧ Hid (Below (w.heap.size + 1) (w.alloc (.cells #[.slice A ds.length ca, .slice B ws.length cb, .slice C fs.length cc] 26)) wr)) (fun _ i _ => fs.length - (intOf i).toNat)
        case atStart => exact ⟨0, Nat.zero_le _, rfl, by simp [encAll], HB3⟩
        case round =>
          obtain ⟨j, hj, rfl, rfl, HB⟩ := hrel
          obtain ⟨hbw, x0, x1, x2⟩ := (HBx _ HB.out).out
          have HBw := Lib.hid hbw
          clear hbw x0 x1
          by_cases hlt : j < fs.length
          · obtain ⟨b, off, Aj, cj, rfl, hbl, ⟨c0, c1, c2⟩, hD⟩ := (HFs.out.next HBw.out) j hlt
            have hlt' : (j : Int) < (fs.length : Int) := by omega
            have hj0 : (0 : Int) ≤ (j : Int) := by omega
            obtain ⟨⟨s1, s2, s3⟩, s4, s5, s6⟩ := chkFn_zero (HG.out.2 _ (getD_in (d := Fn.zero) hlt))
            have HE : Hid (p2 ++ encAll encFn Fn.zero fs (j + 1) = (p2 ++ encAll encFn Fn.zero fs j) ++ encFn (fs.getD j Fn.zero)) := Lib.hid (by simp only [encAll, List.append_assoc])
            have hpre2 : (p2 ++ encAll encFn Fn.zero fs j).length ≤ 87000 := by
              have h2 := HEf.out j (by omega)
              rw [List.length_append]
              omega
            generalize p2 ++ encAll encFn Fn.zero fs j = pre3 at *
            generalize fs.getD j Fn.zero = f at *
            obtain ⟨far, flo, fco⟩ := f
            dsimp only at c0 c1 c2 hD s1 s2 s3 s4 s5 s6
            obtain ⟨ma, rfl⟩ : ∃ m : Nat, far = (m : Int) := ⟨far.toNat, by omega⟩
            obtain ⟨ml, rfl⟩ : ∃ m : Nat, flo = (m : Int) := ⟨flo.toNat, by omega⟩
            have HEn : Hid (pre3 ++ encFn ⟨(ma : Int), (ml : Int), fco⟩ = ((pre3 ++ num ma ++ num ml ++ num fco.length) ++ encAll encIn zero fco fco.length)) := Lib.hid (by simp only [encFn, Int.toNat_natCast, List.append_assoc])
            have hb4 : Below wr.heap.size wr (wr.alloc (fnBox (ma : Int) (ml : Int) (.slice Aj fco.length cj))) := (Below.refl _ _).alloc (Nat.le_refl _) _
            have hszr : w.heap.size + 1 ≤ wr.heap.size := by have := HB.out.size; rw [World.size_alloc] at this; exact this
            have HP : Hid (PF w (w.alloc (.cells #[.slice A ds.length ca, .slice B ws.length cb, .slice (some ⟨b, off, none⟩) fs.length cc] 26)) wr.heap.size (ma : Int) (ml : Int) Aj fco.length cj fco (wr.alloc (fnBox (ma : Int) (ml : Int) (.slice Aj fco.length cj)))) := Lib.hid ⟨HB.out.trans (hb4.mono hszr), Nat.le_trans hszr hb4.size, heap_alloc_new wr _, hD.next hb4⟩
            unfold fnBox at HP
            have HIs := Lib.hid s6
            have hma : ma ≤ 8 := by omega
            have hml : ml ≤ 8 := by omega
            have w1 : IntKind.u64.wrap (ma : Int) = (ma : Int) := by rw [IntKind.wrap_u64]; omega
            have w2 : IntKind.u64.wrap (ml : Int) = (ml : Int) := by rw [IntKind.wrap_u64]; omega
            have w3 : IntKind.u64.wrap (fco.length : Int) = (fco.length : Int) := by rw [IntKind.wrap_u64]; omega
            have HNa := fun W => HN W ma (by omega)
            have HNl := fun W => HN W ml (by omega)
            have HNc := fun W => HN W fco.length (by omega)
            have n1 := num_length_le ma
            have n2 := num_length_le ml
            have n3 := num_length_le fco.length
            have z1 := size_mk pre3
            have z2 := size_mk (num ma)
            have z3 := size_mk (num ml)
            have z4 := size_mk (num fco.length)
            have z5 : (ByteArray.mk pre3.toArray ++ ByteArray.mk (num ma).toArray).size = pre3.length + (num ma).length := by rw [mk_append, size_mk, List.length_append]
            have z6 : (ByteArray.mk pre3.toArray ++ ByteArray.mk (num ma).toArray ++ ByteArray.mk (num ml).toArray).size = pre3.length + (num ma).length + (num ml).length := by rw [mk_append, mk_append, size_mk, List.length_append, List.length_append]
            have HPN : Hid (ByteArray.mk pre3.toArray ++ ByteArray.mk (num ma).toArray ++ ByteArray.mk (num ml).toArray ++ ByteArray.mk (num fco.length).toArray = ByteArray.mk (pre3 ++ num ma ++ num ml ++ num fco.length).toArray) := Lib.hid (by rw [mk_append, mk_append, mk_append])
            have hp4 : (pre3 ++ num ma ++ num ml ++ num fco.length).length ≤ 87030 := by simp only [List.length_append]; omega
            generalize pre3 ++ num ma ++ num ml ++ num fco.length = p4 at *
            clear s1 s2 s3 s4 s6 hD
            go_upto_region 11 with fail
            clear c0 c1 c2 x2
            generalize wr.alloc (.cells #[.int .i64 (ma : Int), .int .i64 (ml : Int), .slice Aj fco.length cj] 49) = W4 at *
            generalize wr.heap.size = g at *
            go_cut [3, 6] (fun s p wx => s = .string ⟨p4.toArray⟩ ∧ p = .pointer (some ⟨g, 0, none⟩) ∧ Hid (PF w (w.alloc (.cells #[.slice A ds.length ca, .slice B ws.length cb, .slice (some ⟨b, off, none⟩) fs.length cc] 26)) g (ma : Int) (ml : Int) Aj fco.length cj fco wx))
            case first =>
              clear HPf HE HEn HIs HWs HG HSl HEw HEf HBw HB HFs HBx
              obtain ⟨Cl, hCl⟩ : ∃ Cl : World → Prop, Cl = PF w (w.alloc (.cells #[.slice A ds.length ca, .slice B ws.length cb, .slice (some ⟨b, off, none⟩) fs.length cc] 26)) g (ma : Int) (ml : Int) Aj fco.length cj fco := ⟨_, rfl⟩
              have K0 : Hid (∀ W, Cl W → W.cell? ⟨g, 0, none⟩ = some (.int .i64 (ma : Int))) := Lib.hid fun W h => by rw [hCl] at h; exact h.cells.1
              have K1 : Hid (∀ W, Cl W → W.cell? ⟨g, 1, none⟩ = some (.int .i64 (ml : Int))) := Lib.hid fun W h => by rw [hCl] at h; exact h.cells.2.1
              have K2 : Hid (∀ W, Cl W → W.cell? ⟨g, 2, none⟩ = some (.slice Aj fco.length cj)) := Lib.hid fun W h => by rw [hCl] at h; exact h.cells.2.2
              have hC0 : Cl { W4 with drawn := W4.drawn + 1 } := by rw [hCl]; exact HP.out.drew
              have HCn : ∀ W W', Cl W → Below W.heap.size W W' → Cl W' := fun W W' h hb => by rw [hCl] at h ⊢; exact h.next hb
              have HCl := Lib.hid hCl
              clear hCl HP HNa HNl HNc
              have KN : Hid (∀ m W, m ≤ 1000 → Cl W → Calls Tryz.prog 29 #[.int .u64 ((m : Nat) : Int)] W fun e w' => e = .returned (.string ⟨(num m).toArray⟩) ∧ Cl w') := Lib.hid (by
                intro m W hm hW
                refine (HN W m hm).out.mono ?_
                intro e w' h
                exact ⟨h.1, HCn W w' hW h.2⟩)
              clear HN
              refine wp_region_cls (C := Cl) (by kernel_rfl) (by kernel_rfl) hC0 ?_
              clear hC0
              have hm3 : fco.length ≤ 1000 := by omega
              have hm1 : ma ≤ 1000 := by omega
              have hm2 : ml ≤ 1000 := by omega
              have u1 : (9223372036854775807 < pre3.length + (num ma).length) = False := by simp; omega
              have u2 : (9223372036854775807 < pre3.length + (num ma).length + (num ml).length) = False := by simp; omega
              have u3 : (9223372036854775807 < pre3.length + (num ma).length + (num ml).length + (num fco.length).length) = False := by simp; omega
              (refine wpQuiet_step (fun K hK => ?_); go_simp; (first | refine hK _ ?_ | refine ⟨_, fun W hW => rfl, hK _ ?_⟩); clear hK K)
              (refine wpQuiet_step (fun K hK => ?_); go_simp; (first | refine hK _ ?_ | refine ⟨_, fun W hW => rfl, hK _ ?_⟩); clear hK K)
              (refine wpQuiet_step (fun K hK => ?_); go_simp; refine ⟨.int .i64 (ma : Int), fun W hW => (by have k := K0.out W hW; simp [go_sem, k]), hK _ ?_⟩; clear hK K)
              (refine wpQuiet_step (fun K hK => ?_); go_simp; (first | refine hK _ ?_ | refine ⟨_, fun W hW => rfl, hK _ ?_⟩); clear hK K)
              (refine wpQuiet_step (fun K hK => ?_); go_simp; refine ⟨_, fun W hW => KN.out ma W hm1 hW, hK _ ?_⟩; clear hK K)
              (refine wpQuiet_step (fun K hK => ?_); go_simp; (first | refine hK _ ?_ | refine ⟨_, fun W hW => rfl, hK _ ?_⟩); clear hK K)
              (refine wpQuiet_step (fun K hK => ?_); go_simp; (first | refine hK _ ?_ | refine ⟨_, fun W hW => rfl, hK _ ?_⟩); clear hK K)
              (refine wpQuiet_step (fun K hK => ?_); go_simp; refine ⟨.int .i64 (ml : Int), fun W hW => (by have k := K1.out W hW; simp [go_sem, k]), hK _ ?_⟩; clear hK K)
              (refine wpQuiet_step (fun K hK => ?_); go_simp; (first | refine hK _ ?_ | refine ⟨_, fun W hW => rfl, hK _ ?_⟩); clear hK K)
              (refine wpQuiet_step (fun K hK => ?_); go_simp; refine ⟨_, fun W hW => KN.out ml W hm2 hW, hK _ ?_⟩; clear hK K)
              (refine wpQuiet_step (fun K hK => ?_); go_simp; (first | refine hK _ ?_ | refine ⟨_, fun W hW => rfl, hK _ ?_⟩); clear hK K)
              (refine wpQuiet_step (fun K hK => ?_); go_simp; (first | refine hK _ ?_ | refine ⟨_, fun W hW => rfl, hK _ ?_⟩); clear hK K)
              (refine wpQuiet_step (fun K hK => ?_); go_simp; refine ⟨.slice Aj fco.length cj, fun W hW => (by have k := K2.out W hW; simp [go_sem, k]), hK _ ?_⟩; clear hK K)
              (refine wpQuiet_step (fun K hK => ?_); go_simp; (first | refine hK _ ?_ | refine ⟨_, fun W hW => rfl, hK _ ?_⟩); clear hK K)
              (refine wpQuiet_step (fun K hK => ?_); go_simp; (first | refine hK _ ?_ | refine ⟨_, fun W hW => rfl, hK _ ?_⟩); clear hK K)
              (refine wpQuiet_step (fun K hK => ?_); go_simp; refine ⟨_, fun W hW => KN.out fco.length W hm3 hW, hK _ ?_⟩; clear hK K)
              (refine wpQuiet_step (fun K hK => ?_); go_simp; (first | refine hK _ ?_ | refine ⟨_, fun W hW => rfl, hK _ ?_⟩); clear hK K)
              (refine wpQuiet_step (fun K hK => ?_); go_simp; (first | refine hK _ ?_ | refine ⟨_, fun W hW => rfl, hK _ ?_⟩); clear hK K)
              refine wpQuiet_nil ?_
              intro w9 h9
              have hPe := Lib.hid (show PF w (w.alloc (.cells #[.slice A ds.length ca, .slice B ws.length cb, .slice (some ⟨b, off, none⟩) fs.length cc] 26)) g (ma : Int) (ml : Int) Aj fco.length cj fco w9 by rw [← HCl.out]; exact h9)
              clear h9 K0 K1 K2 KN HCn
              go_wp2_with fail
              go_meet
              exact ⟨by rw [HPN.out], rfl, hPe⟩
            case rest =>
              obtain ⟨rfl, rfl, HP5⟩ := hcut
              clear HPN z1 z2 z3 z4 z5 z6 w1 w2 w3 n1 n2 n3 HNa HNl HNc HP
              (rename (∀ (a : Act) (w : World), Code.wp _ _ _ a w → _) => hK; refine hK _ _ ?_; clear hK; apply wp_seq_k; intro _ _)
              go_wp2_with fail
              go_loopw [3, 7] (fun t i wr => ∃ k : Nat, k ≤ fco.length ∧ i = .int .i64 (k : Int) ∧ t = .string ⟨(p4 ++ encAll encIn zero fco k).toArray⟩ ∧ Hid (PF w (w.alloc (.cells #[.slice A ds.length ca, .slice B ws.length cb, .slice (some ⟨b, off, none⟩) fs.length cc] 26)) g (ma : Int) (ml : Int) Aj fco.length cj fco wr)) (fun _ i _ => fco.length - (intOf i).toNat)
              case atStart => exact ⟨0, Nat.zero_le _, rfl, by simp [encAll], HP5⟩
              case round =>
                obtain ⟨k, hk, rfl, rfl, HPk⟩ := hrel
                obtain ⟨_, _, d2⟩ := HPk.out.cells
                by_cases hlk : k < fco.length
                · obtain ⟨b2, off2, rfl, hbl2, c0, c1, c2⟩ := HPk.out.code k hlk
                  have hlk' : (k : Int) < (fco.length : Int) := by omega
                  have hk0 : (0 : Int) ≤ (k : Int) := by omega
                  have HEk : Hid (p4 ++ encAll encIn zero fco (k + 1) = (p4 ++ encAll encIn zero fco k) ++ encIn (fco.getD k zero)) := Lib.hid (by simp only [encAll, List.append_assoc])
                  have hpk : (p4 ++ encAll encIn zero fco k).length ≤ 92000 := by
                    have h2 := encAll_le (e := encIn) (d := zero) (l := fco) (c := 21) (fun x _ => encIn_le x) k (by omega)
                    rw [List.length_append]
                    omega
                  have hx := encIn_le (fco.getD k zero)
                  have hz := HIs.out _ (getD_in (d := zero) hlk)
                  have hw0 : encIn (fco.getD k zero) = Go.Proofs.YtahejekcfgkiaaaGreatDoor.inst.encI (fco.getD k zero).1 (fco.getD k zero).2.1 (fco.getD k zero).2.2 := rfl
                  have HO := Lib.hid (Go.Proofs.YtahejekcfgkiaaaGreatDoor.inst.refPut_any (fco.getD k zero).1 (fco.getD k zero).2.1 (fco.getD k zero).2.2 hz wr)
                  rw [← hw0] at HO
                  clear hw0 hz
                  generalize p4 ++ encAll encIn zero fco k = pk at *
                  generalize fco.getD k zero = y at *
                  generalize encIn y = ey at *
                  obtain ⟨yo, ya, yb⟩ := y
                  dsimp only at HO c0 c1 c2
                  have z1 := size_mk pk
                  have z2 := size_mk ey
                  go_wp2_with fail
                  refine HO.out.mono ?_
                  rintro e w6 ⟨rfl, hb6⟩
                  have HP6 := Lib.hid (HPk.out.next hb6)
                  clear hb6 HO c0 c1 c2 d2
                  go_wp2
                  go_roundw
                  case rel => exact ⟨k + 1, by omega, by go_num, by rw [HEk.out, ← mk_append], HP6⟩
                  case measure => simp [intOf]; omega
                · obtain rfl : k = fco.length := by omega
                  have hge : decide ((fco.length : Int) < (fco.length : Int)) = false := by simp
                  have HBe := Lib.hid HPk.out.below
                  go_wp2_with fail
                  go_roundw
                  case rel => exact ⟨j + 1, by omega, by go_num, by rw [HE.out, HEn.out], HBe⟩
                  case measure => simp [intOf]; omega
          · obtain rfl : j = fs.length := by omega
            have hge : decide ((fs.length : Int) < (fs.length : Int)) = false := by simp
            go_wp2
            go_ret
            exact ⟨by rw [HPf.out]; rfl, HBw.out⟩
end Go.Proofs.YtahejekcfgkiaaaGreatDoor.pgm
