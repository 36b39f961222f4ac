/-
  Texts of one claim in one file: YTextP. Each has its own sentence, with its conditions.
-/
import Derived.Test.YtnhoeboighndlaaGreatDoorYall32
import Derived.Test.YtnhoeboighndlaaGreatDoorYall34
import Derived.Test.YtnhoeboighndlaaGreatDoorYall16
/-
  The program's own text of a program (typed over the code of 0aab59b). The tables must lie where their initialisers lay them.
-/
namespace Go.Proofs.YtnhoeboighndlaaGreatDoor.pgm.asm
open Go.RowKit Go.ChangeShapes
open Go.Proofs.YtnhoeboighndlaaGreatDoor.pgm
open Go.Proofs.YtnhoeboighndlaaGreatDoor.octet (mk_append size_mk)
open Go.Proofs.YtnhoeboighndlaaGreatDoor.objs (De zero DAt cells3 nameK names)
open Go.Proofs.YtnhoeboighndlaaGreatDoor.need (WAt intT textW chkW_zero)
set_option linter.unusedVariables false

/-- While a text is written: the program's box, and the builder. -/
structure Tx (w : World) (bb : Nat) (A B C : Option Addr) (a b c ca cb cc : Nat) (l : List UInt8) (W : World) : Prop where
  below : Below w.heap.size w W
  box : W.heap[w.heap.size]? = some (pgB A B C a b c ca cb cc)
  lt : w.heap.size < bb
  bld : BldAt W bb bb l
theorem Tx.next {w W W' : World} {bb : Nat} {A B C : Option Addr} {a b c ca cb cc : Nat} {l : List UInt8} (h : Tx w bb A B C a b c ca cb cc l W) (hb : Below W.heap.size W W') : Tx w bb A B C a b c ca cb cc l W' :=
  ⟨h.below.trans (hb.mono h.below.size), (hb.block _ (lt_of_block h.box)).trans h.box, h.lt, h.bld.next hb⟩
theorem Tx.wrote {w W W' : World} {bb : Nat} {A B C : Option Addr} {a b c ca cb cc : Nat} {l l' : List UInt8} (h : Tx w bb A B C a b c ca cb cc l W) (hw : Wr bb bb W W') (hb : BldAt W' bb bb l') : Tx w bb A B C a b c ca cb cc l' W' := by
  refine ⟨h.below.trans (hw.below.mono (Nat.le_of_lt h.lt)), ?_, h.lt, hb⟩
  rw [hw.below.block _ h.lt]
  exact h.box
theorem Tx.size {w W : World} {bb : Nat} {A B C : Option Addr} {a b c ca cb cc : Nat} {l : List UInt8} (h : Tx w bb A B C a b c ca cb cc l W) : bb < W.heap.size := (bld_lt h.bld).2
theorem Tx.cells {w W : World} {bb : Nat} {A B C : Option Addr} {a b c ca cb cc : Nat} {l : List UInt8} (h : Tx w bb A B C a b c ca cb cc l W) : W.cell? ⟨w.heap.size, 0, none⟩ = some (.slice A a ca) ∧ W.cell? ⟨w.heap.size, 1, none⟩ = some (.slice B b cb) ∧ W.cell? ⟨w.heap.size, 2, none⟩ = some (.slice C c cc) := pg_cells h.box
theorem tx_new {w W : World} {A B C : Option Addr} {a b c ca cb cc : Nat} (hb : Below w.heap.size w W) (hx : W.heap[w.heap.size]? = some (pgB A B C a b c ca cb cc)) : Tx w W.heap.size A B C a b c ca cb cc [] (W.alloc (.cells #[.pointer none, .slice none 0 0] 58)) :=
  ⟨hb.alloc hb.size _, (Below.heap_alloc W _ _ (lt_of_block hx)).trans hx, lt_of_block hx, bld_new W⟩

/-- With a block of three cells behind the builder. -/
structure Ti (w : World) (bb : Nat) (A B C : Option Addr) (a b c ca cb cc : Nat) (l : List UInt8) (g : Nat) (o : Obj) (W : World) : Prop where
  tx : Tx w bb A B C a b c ca cb cc l W
  it : W.heap[g]? = some o
  ne : g ≠ bb
  ty : ∀ cs fr, o ≠ .cells cs 5 fr
theorem Ti.next {w W W' : World} {bb g : Nat} {A B C : Option Addr} {a b c ca cb cc : Nat} {l : List UInt8} {o : Obj} (h : Ti w bb A B C a b c ca cb cc l g o W) (hb : Below W.heap.size W W') : Ti w bb A B C a b c ca cb cc l g o W' :=
  ⟨h.tx.next hb, (hb.block _ (lt_of_block h.it)).trans h.it, h.ne, h.ty⟩
theorem Ti.wrote {w W W' : World} {bb g : Nat} {A B C : Option Addr} {a b c ca cb cc : Nat} {l l' : List UInt8} {o : Obj} (h : Ti w bb A B C a b c ca cb cc l g o W) (hw : Wr bb bb W W') (hb : BldAt W' bb bb l') : Ti w bb A B C a b c ca cb cc l' g o W' :=
  ⟨h.tx.wrote hw hb, (hw.keep g (lt_of_block h.it) h.ne (by rw [h.it]; exact fun cs fr e => h.ty cs fr (Option.some.inj e))).trans h.it, h.ne, h.ty⟩
theorem Ti.drew {w W : World} {bb g : Nat} {A B C : Option Addr} {a b c ca cb cc : Nat} {l : List UInt8} {o : Obj} (h : Ti w bb A B C a b c ca cb cc l g o W) : Ti w bb A B C a b c ca cb cc l g o W.drew := h.next (Below.refl _ _).drew
def dBox (k a b : Int) : Obj := .cells #[.int .i64 k, .int .i64 a, .int .i64 b] 44
theorem ti_new {w W : World} {bb : Nat} {A B C : Option Addr} {a b c ca cb cc : Nat} {l : List UInt8} (h : Tx w bb A B C a b c ca cb cc l W) (o : Obj) (ty : ∀ cs fr, o ≠ .cells cs 5 fr) : Ti w bb A B C a b c ca cb cc l W.heap.size o (W.alloc o) :=
  ⟨h.next ((Below.refl _ _).alloc (Nat.le_refl _) _), heap_alloc_new W o, by have := h.size; omega, ty⟩
theorem dBox_ty (k a b : Int) : ∀ cs fr, dBox k a b ≠ .cells cs 5 fr := fun cs fr e => by
  unfold dBox at e
  injection e with _ e _
  exact absurd e (by decide)
theorem fBox_ty (k a : Int) (v : Value) : ∀ cs fr, fnBox k a v ≠ .cells cs 5 fr := fun cs fr e => by
  unfold fnBox at e
  injection e with _ e _
  exact absurd e (by decide)
theorem iBox_ty (k a b : Int) : ∀ cs fr, iBox k a b ≠ .cells cs 5 fr := fun cs fr e => by
  unfold iBox at e
  injection e with _ e _
  exact absurd e (by decide)
theorem sm_i64 {v : Int} (h : Sm v) : I64 v := by unfold Sm at h; unfold I64; omega

set_option maxRecDepth 100000 in
set_option maxHeartbeats 16000000 in
theorem textYes_any (v : Value) (p : Pg) (hz : chkP p = 0) (w : World) (hw : Okz w) (hv : PAt w v p) :
    Calls Tryz.prog 8 #[v] w fun e w' => e = .returned (.tuple #[.string ⟨(textP p).toArray⟩, .int .i64 0]) ∧ Below w.heap.size w w' := by
  have HPA0 := hv
  obtain ⟨A, B, C, ca, cb, cc, rfl, hA, hB, hC⟩ := hv
  have HS := says_all hz
  obtain ⟨g1, g2, g3, g4, g5, g6⟩ := chkP_zero hz
  have g0 := (Go.Proofs.YtnhoeboighndlaaGreatDoor.objs.chk_zero g1).1
  have HTp := Lib.hid (textP_pieces p)
  have HSo : Hid (∀ d ∈ p.ds, SaysO d) := Lib.hid fun d hd => HS (.o d) (by unfold itemsP; exact List.mem_append.2 (Or.inl (List.mem_map.2 ⟨d, hd, rfl⟩)))
  have HSw : Hid (∀ x ∈ p.ws, x.length ≤ 4 ∧ (∀ y ∈ x, y.length ≤ 4 ∧ ∀ t ∈ y, Go.Proofs.YtnhoeboighndlaaGreatDoor.need.Small t) ∧ SaysW x) := Lib.hid fun x hx => by
    obtain ⟨h1, h2, h3⟩ := chkW_zero (g3 x hx)
    exact ⟨h2, fun y hy => ⟨(h3 y hy).2.1, fun t ht => Go.Proofs.YtnhoeboighndlaaGreatDoor.need.small_of g1 ((h3 y hy).2.2 t ht)⟩, HS (.w x) (by unfold itemsP; exact List.mem_append.2 (Or.inr (List.mem_append.2 (Or.inl (List.mem_map.2 ⟨x, hx, rfl⟩)))))⟩
  have HSf : Hid (∀ f ∈ p.fs, f.co.length ≤ 200 ∧ Sm f.ar ∧ Sm f.lo ∧ ∀ x ∈ f.co, Says x ∧ chkI x = 0) := Lib.hid fun f hf => by
    obtain ⟨h1, h2, h3, h4⟩ := chkFn_zero (g6 f hf)
    exact ⟨h3, by unfold Sm; omega, by unfold Sm; omega, fun x hx => ⟨says_ins (h4 x hx), h4 x hx⟩⟩
  have HLo : Hid (∀ j, j ≤ p.ds.length → (firsts Item.o p.ds j).length ≤ 60 * j) := Lib.hid (firsts_le fun d hd => by
    have := obj_le (HSo.out d hd)
    have e : wO.length = 7 := rfl
    simp only [itemL, List.length_append]
    omega)
  have HLw : Hid (∀ j, j ≤ p.ws.length → (firsts Item.w p.ws j).length ≤ 860 * j) := Lib.hid (firsts_le fun x hx => by
    obtain ⟨h1, h2, h3⟩ := HSw.out x hx
    have := waysL_le x (fun y hy => ⟨(h2 y hy).1, (h3.2 y hy).2⟩)
    have e : wW.length = 5 := rfl
    simp only [itemL, List.length_append]
    omega)
  have HLf : Hid (∀ j, j ≤ p.fs.length → (funcsT p.fs j).length ≤ 11500 * j) := Lib.hid (funcsT_le fun f hf => by
    obtain ⟨h1, h2, h3, h4⟩ := HSf.out f hf
    exact ⟨h1, h2, h3, fun x hx => (h4 x hx).1⟩)
  have hb0 : Below w.heap.size w (w.alloc (pgB A B C p.ds.length p.ws.length p.fs.length ca cb cc)) := (Below.refl _ w).alloc (Nat.le_refl _) _
  have hx0 := heap_alloc_new w (pgB A B C p.ds.length p.ws.length p.fs.length ca cb cc)
  have HCk := Lib.hid (check_any _ p (by omega) _ (HPA0.next hb0) (hw.next hb0).prog)
  unfold NumPost at HCk
  rw [hz] at HCk
  have HB0 := Lib.hid hb0
  have HX0 := Lib.hid hx0
  unfold pgB at HCk HB0 hx0
  obtain ⟨x0, x1, x2, -, -, -⟩ := cells3 hx0
  have HW := Lib.hid hw
  obtain ⟨ds, ws, fs⟩ := p
  dsimp only at hA hB hC g0 g1 g2 g3 g4 g5 g6 HTp HSo HSw HSf HLo HLw HLf HB0 HX0 HCk x0 x1 x2 ⊢
  obtain ⟨enc, henc⟩ : ∃ enc, enc = textP ⟨ds, ws, fs⟩ := ⟨_, rfl⟩
  rw [← henc] at HTp ⊢
  have HDs := Lib.hid hA
  have HWs := Lib.hid hB
  have HFs := Lib.hid hC
  have h32 : ds.length ≤ 32 := by omega
  clear hA hB hC hz g1 g3 g6 henc HS hb0 hx0 HPA0 hw g4
  go_enter Tryz.func8, Tryz.ntmps8
  go_wp2_with fail
  refine HCk.out.mono ?_
  rintro e w1 ⟨rfl, hb1⟩
  have HX1 : Hid (Tx w w1.heap.size A B C ds.length ws.length fs.length ca cb cc [] (w1.alloc (.cells #[.pointer none, .slice none 0 0] 58))) := Lib.hid (tx_new (HB0.out.trans (hb1.mono HB0.out.size)) ((hb1.block _ (lt_of_block HX0.out)).trans HX0.out))
  clear hb1 HCk x0 x1 x2 HB0 HX0
  obtain ⟨x0, x1, x2⟩ := HX1.out.cells
  go_wp2_with fail
  generalize w1.alloc (Obj.cells #[Value.pointer none, Value.slice none 0 0] 58) = W0 at *
  generalize w1.heap.size = bb at *
  clear x0 x1 x2
  go_loopw [24] (fun i wr => ∃ j : Nat, j ≤ ds.length ∧ i = .int .i64 (j : Int) ∧ Hid (Tx w bb A B C ds.length ws.length fs.length ca cb cc (firsts Item.o ds j) wr)) (fun i _ => ds.length - (intOf i).toNat)
  case atStart => exact ⟨0, Nat.zero_le _, rfl, by rw [firsts_zero]; exact HX1⟩
  case round =>
    obtain ⟨j, hj, rfl, HX⟩ := hrel
    obtain ⟨x0, x1, x2⟩ := HX.out.cells
    by_cases hlt : j < ds.length
    · have hDj := (HDs.out.next HX.out.below) j hlt
      have hlt' : (j : Int) < (ds.length : Int) := by omega
      have hj0 : (0 : Int) ≤ (j : Int) := by omega
      obtain ⟨s1, s2, s3, _⟩ := HSo.out _ (getD_in (d := zero) hlt)
      have HE : Hid (firsts Item.o ds (j + 1) = firsts Item.o ds j ++ (wO ++ objT (ds.getD j zero)) ++ [10]) := Lib.hid (firsts_next (d := zero) hlt)
      have hpre := HLo.out j hj
      have hx : (objT (ds.getD j zero)).length ≤ 49 := obj_le (HSo.out _ (getD_in (d := zero) hlt))
      generalize firsts Item.o ds j = pre at *
      generalize ds.getD j zero = d at *
      obtain ⟨dk, da, db⟩ := d
      dsimp only at HE hx s1 s2 s3 hDj
      have hY := ti_new HX.out (dBox dk da db) (dBox_ty dk da db)
      obtain ⟨ob, hob⟩ : ∃ ob, ob = wO ++ objT (dk, da, db) := ⟨_, rfl⟩
      rw [← hob] at HE
      have hol : ob.length ≤ 60 := by
        have e : wO.length = 7 := rfl
        rw [hob, List.length_append]
        omega
      obtain ⟨y, hy⟩ : ∃ y, y = (nameK dk).data.toList := ⟨_, rfl⟩
      have hn : nameK dk = ⟨y.toArray⟩ := by rw [hy]
      have hyl : y.length ≤ 5 := by
        rw [hy]
        unfold nameK
        rw [if_pos ⟨by omega, by omega⟩]
        exact kind_short dk.toNat (by omega)
      obtain ⟨ph, hph⟩ : ∃ ph, ph = y ++ numsT (opsL (cntO dk) da db) := ⟨_, rfl⟩
      have hobj : objT (dk, da, db) = ph := by unfold objT; rw [hph, hy]
      rw [hobj] at hob hx
      unfold dBox at hY
      obtain ⟨g, hg⟩ : ∃ g, g = wr.heap.size := ⟨_, rfl⟩
      rw [← hg] at hY
      obtain ⟨T, hT⟩ : ∃ T : List UInt8 → World → Prop, ∀ l W, T l W ↔ Ti w bb A B C ds.length ws.length fs.length ca cb cc l g (.cells #[.int .i64 dk, .int .i64 da, .int .i64 db] 44) W := ⟨_, fun _ _ => Iff.rfl⟩
      have HY := Lib.hid ((hT _ _).2 hY)
      have HTT := Lib.hid hT
      -- the four calls
      have HN : Hid (∀ W, Hid (T pre W) → Calls Tryz.prog 22 #[.int .i64 dk] W fun e w' => e = .returned (.string ⟨y.toArray⟩) ∧ w'.cell? ⟨g, 0, none⟩ = some (.int .i64 dk) ∧ w'.cell? ⟨g, 1, none⟩ = some (.int .i64 da) ∧ w'.cell? ⟨g, 2, none⟩ = some (.int .i64 db) ∧ Hid (T pre w')) := Lib.hid fun W hW => (Go.Proofs.YtnhoeboighndlaaGreatDoor.objs.name_any dk W (HW.out.next ((hT _ _).1 hW.out).tx.below).prog.decl).mono fun e w' h => by
        obtain ⟨h1, rfl⟩ := h
        obtain ⟨q0, q1, q2, _⟩ := cells3 ((hT _ _).1 hW.out).it
        exact ⟨by rw [h1, hn], q0, q1, q2, hW⟩
      have HM : Hid (∀ W, Hid (T pre W) → Calls Tryz.prog 23 #[.int .i64 dk] W fun e w' => e = .returned (.int .i64 (cntO dk : Nat)) ∧ w'.cell? ⟨g, 0, none⟩ = some (.int .i64 dk) ∧ w'.cell? ⟨g, 1, none⟩ = some (.int .i64 da) ∧ w'.cell? ⟨g, 2, none⟩ = some (.int .i64 db) ∧ Hid (T pre w')) := Lib.hid fun W hW => (numbers_any dk W).mono fun e w' h => by
        obtain ⟨h1, rfl⟩ := h
        obtain ⟨q0, q1, q2, _⟩ := cells3 ((hT _ _).1 hW.out).it
        exact ⟨h1, q0, q1, q2, hW⟩
      have HP : Hid (∀ W, Hid (T pre W) → Calls Tryz.prog 21 #[.string ⟨y.toArray⟩, .agg #[.int .i64 da, .int .i64 db], .int .i64 (cntO dk : Nat)] W fun e w' => e = .returned (.string ⟨ph.toArray⟩) ∧ w'.cell? ⟨g, 0, none⟩ = some (.int .i64 dk) ∧ w'.cell? ⟨g, 1, none⟩ = some (.int .i64 da) ∧ w'.cell? ⟨g, 2, none⟩ = some (.int .i64 db) ∧ Hid (T pre w')) := Lib.hid fun W hW => (phrase_any y da db (cntO dk) (cnt_two dk) (by omega) (sm_i64 s2) (sm_i64 s3) W (HW.out.next ((hT _ _).1 hW.out).tx.below)).mono fun e w' h => by
        have h2 := ((hT _ _).1 hW.out).next h.2
        obtain ⟨q0, q1, q2, _⟩ := cells3 h2.it
        exact ⟨by rw [h.1, hph], q0, q1, q2, Lib.hid ((hT _ _).2 h2)⟩
      have HWr : Hid (∀ W, Hid (T pre W) → Calls Tryz.prog 20 #[.pointer (some ⟨bb, 0, none⟩), .string ⟨ob.toArray⟩] W fun e w' => e = .returned (.tuple #[]) ∧ w'.cell? ⟨g, 0, none⟩ = some (.int .i64 dk) ∧ w'.cell? ⟨g, 1, none⟩ = some (.int .i64 da) ∧ w'.cell? ⟨g, 2, none⟩ = some (.int .i64 db) ∧ Hid (T (pre ++ ob ++ [10]) w')) := Lib.hid fun W hW => (write_any bb bb pre ob W ((hT _ _).1 hW.out).tx.bld (by omega) (by have := ((hT _ _).1 hW.out).tx.size; omega)).mono fun e w' h => by
        have h2 := ((hT _ _).1 hW.out).wrote h.2.2 h.2.1
        obtain ⟨q0, q1, q2, _⟩ := cells3 h2.it
        exact ⟨h.1, q0, q1, q2, Lib.hid ((hT _ _).2 h2)⟩
      have HDr : Hid (∀ l W, Hid (T l W) → Hid (T l W.drew)) := Lib.hid fun l W hW => Lib.hid ((hT _ _).2 ((hT _ _).1 hW.out).drew)
      have hE : ByteArray.mk #[111, 98, 106, 101, 99, 116, 32] ++ ByteArray.mk ph.toArray = ByteArray.mk ob.toArray := by rw [hob]; exact mk_append wO ph
      have z1 := size_mk ph
      have z2 : (ByteArray.mk #[111, 98, 106, 101, 99, 116, 32]).size = 7 := rfl
      have z3 : ph.length ≤ 49 := hx
      have u1 : (9223372036854775807 < 7 + ph.length) = False := by simp; omega
      have v1 : (9223372036854775800 < ph.length) = False := by simp; omega
      generalize cntO dk = many at *
      obtain ⟨e0, e1, e2, -, -, -⟩ := cells3 ((hT _ _).1 HY.out).it
      have HG := Lib.hid hg
      obtain ⟨b, off, rfl, hbl, c0, c1, c2⟩ := hDj
      clear s1 s2 s3 hob hph hobj hn hy hyl hY hpre hol hT hx
      go_upto_region 8 with fail
      rw [← HG.out]
      clear hg
      generalize wr.alloc (Obj.cells #[.int .i64 dk, .int .i64 da, .int .i64 db] 44) = W4 at *
      have HM0 := HDr.out _ _ HY
      clear HDr c0 c1 c2
      go_region_held3 (fun w' => w'.cell? ⟨g, 0, none⟩ = some (.int .i64 dk) ∧ w'.cell? ⟨g, 1, none⟩ = some (.int .i64 da) ∧ w'.cell? ⟨g, 2, none⟩ = some (.int .i64 db)) (go_keep)
        (first
          | (go_at_call 22; refine (HN.out _ ?_).mono ?_; (exact HM0); rintro e w' ⟨rfl, d0, d1, d2, HM0⟩)
          | (go_at_call 23; refine (HM.out _ ?_).mono ?_; (exact HM0); rintro e w' ⟨rfl, d0, d1, d2, HM0⟩)
          | (go_at_call 21; refine (HP.out _ ?_).mono ?_; (exact HM0); rintro e w' ⟨rfl, d0, d1, d2, HM0⟩)
          | (go_at_call 20; refine (HWr.out _ ?_).mono ?_; (exact HM0); rintro e w' ⟨rfl, d0, d1, d2, HM0⟩))
      have HT2 : Hid (Tx w bb (some ⟨b, off, none⟩) B C ds.length ws.length fs.length ca cb cc (firsts Item.o ds (j + 1)) _) := Lib.hid (by rw [HE.out]; exact ((HTT.out _ _).1 HM0.out).tx)
      clear HN HM HP HWr HM0 HTT d0 d1 d2
      go_wp2_with fail
      go_roundw
      case rel => exact ⟨j + 1, by omega, by go_num, HT2⟩
      case measure => simp [intOf]; omega
    · obtain rfl : j = ds.length := by omega
      have hge : ¬ (ds.length : Int) < (ds.length : Int) := by omega
      have hp1 := HLo.out ds.length (Nat.le_refl _)
      have hp1 : (firsts Item.o ds ds.length).length ≤ 2000 := by omega
      generalize firsts Item.o ds ds.length = p1 at *
      clear HLo HSo HDs HX1
      go_wp2_with fail
      clear x0 x1 x2 hge hlt hj
      go_loopw [47] (fun i wr => ∃ j : Nat, j ≤ ws.length ∧ i = .int .i64 (j : Int) ∧ Hid (Tx w bb A B C ds.length ws.length fs.length ca cb cc (p1 ++ firsts Item.w ws j) wr)) (fun i _ => ws.length - (intOf i).toNat)
      case atStart => exact ⟨0, Nat.zero_le _, rfl, by rw [firsts_zero, List.append_nil]; exact HX⟩
      case round =>
        clear HX
        obtain ⟨j, hj, rfl, HX⟩ := hrel
        obtain ⟨x0, x1, x2⟩ := HX.out.cells
        by_cases hlt : j < ws.length
        · obtain ⟨b, off, Aj, cj, rfl, hbl, hc, hWt⟩ := (HWs.out.next HX.out.below) j hlt
          have hlt' : (j : Int) < (ws.length : Int) := by omega
          have hj0 : (0 : Int) ≤ (j : Int) := by omega
          obtain ⟨s1, s2, s3⟩ := HSw.out _ (getD_in (d := []) hlt)
          have HO := Lib.hid (Go.Proofs.YtnhoeboighndlaaGreatDoor.need.text_any Aj cj (ws.getD j []) (by omega) (fun x hx => ⟨by have := (s2 x hx).1; omega, (s2 x hx).2⟩) wr hWt (HW.out.next HX.out.below).need)
          have HE : Hid (p1 ++ firsts Item.w ws (j + 1) = (p1 ++ firsts Item.w ws j) ++ (wW ++ textW (ws.getD j [])) ++ [10]) := Lib.hid (by
            rw [firsts_next (d := []) hlt, textW_ways]
            simp only [itemL, List.append_assoc])
          have hpre : (p1 ++ firsts Item.w ws j).length ≤ 30000 := by
            have h2 := HLw.out j hj
            rw [List.length_append]
            omega
          have hx : (textW (ws.getD j [])).length ≤ 900 := by
            rw [textW_ways]
            have := waysL_le (ws.getD j []) (fun y hy => ⟨(s2 y hy).1, (s3.2 y hy).2⟩)
            omega
          clear s1 s2 s3 hWt
          generalize p1 ++ firsts Item.w ws j = pre at *
          generalize ws.getD j [] = wj at *
          generalize textW wj = ej at *
          obtain ⟨ob, hob⟩ : ∃ ob, ob = wW ++ ej := ⟨_, rfl⟩
          rw [← hob] at HE
          have hol : ob.length ≤ 1000 := by
            have e : wW.length = 5 := rfl
            rw [hob, List.length_append]
            omega
          have z2 := size_mk ej
          have z6 : (ByteArray.mk #[119, 97, 105, 116, 32]).size = 5 := rfl
          have hEq : ByteArray.mk #[119, 97, 105, 116, 32] ++ ByteArray.mk ej.toArray = ByteArray.mk ob.toArray := by rw [hob]; exact mk_append wW ej
          have u1 : (9223372036854775807 < 5 + ej.length) = False := by simp; omega
          have v1 : (9223372036854775802 < ej.length) = False := by simp; omega
          have HWr := fun W hW hB => Lib.hid (write_any bb bb pre ob W hW (by omega) hB)
          clear hob hol hpre x0 x2
          go_wp2_with fail
          refine HO.out.mono ?_
          rintro e w3 ⟨rfl, hb3⟩
          have HX3 := Lib.hid (HX.out.next hb3)
          clear hb3 HO hc x1
          go_wp2_with fail
          refine (HWr _ HX3.out.bld (by have := HX3.out.size; omega)).out.mono ?_
          rintro e w4 ⟨rfl, hbd, hwr⟩
          have HX4 := Lib.hid (HX3.out.wrote hwr hbd)
          rw [← HE.out] at HX4
          clear hwr hbd HWr HX3
          go_wp2_with fail
          go_roundw
          case rel => exact ⟨j + 1, by omega, by go_num, HX4⟩
          case measure => simp [intOf]; omega
        · obtain rfl : j = ws.length := by omega
          have hge : ¬ (ws.length : Int) < (ws.length : Int) := by omega
          have hp2 : (p1 ++ firsts Item.w ws ws.length).length ≤ 30000 := by
            have h2 := HLw.out ws.length (Nat.le_refl _)
            rw [List.length_append]
            omega
          generalize p1 ++ firsts Item.w ws ws.length = p2 at *
          clear HLw HSw HWs
          go_wp2_with fail
          clear x0 x1 x2 hge hlt hj
          go_loopw [60] (fun i wr => ∃ j : Nat, j ≤ fs.length ∧ i = .int .i64 (j : Int) ∧ Hid (Tx w bb A B C ds.length ws.length fs.length ca cb cc (p2 ++ funcsT fs j) wr)) (fun i _ => fs.length - (intOf i).toNat)
          case atStart => exact ⟨0, Nat.zero_le _, rfl, by rw [funcsT_zero, List.append_nil]; exact HX⟩
          case round =>
          clear HX
          obtain ⟨j, hj, rfl, HX⟩ := hrel
          obtain ⟨x0, x1, x2⟩ := HX.out.cells
          by_cases hlt : j < fs.length
          · obtain ⟨b, off, Aj, cj, hCe, hbl, hcs, hD⟩ := HFs.out j hlt
            obtain ⟨c0, c1, c2⟩ := hcs.keep (HX.out.below.block b hbl)
            clear hcs
            have hlt' : (j : Int) < (fs.length : Int) := by omega
            have hj0 : (0 : Int) ≤ (j : Int) := by omega
            obtain ⟨s1, s2, s3, s4⟩ := HSf.out _ (getD_in (d := Fn.zero) hlt)
            have HE : Hid (p2 ++ funcsT fs (j + 1) = ((p2 ++ funcsT fs j) ++ ([102, 117, 110, 99] ++ numsT (opsL 2 (fs.getD j Fn.zero).ar (fs.getD j Fn.zero).lo)) ++ [10]) ++ firsts Item.i (fs.getD j Fn.zero).co (fs.getD j Fn.zero).co.length) := Lib.hid (by
              rw [funcsT_next hlt]
              simp only [itemL, wF, opsL, List.append_assoc]
              rfl)
            have hpre : (p2 ++ funcsT fs j).length ≤ 230000 := by
              have h2 := HLf.out j hj
              rw [List.length_append]
              omega
            generalize p2 ++ funcsT fs j = pre at *
            generalize fs.getD j Fn.zero = f at *
            obtain ⟨far, flo, fco⟩ := f
            dsimp only at c0 c1 c2 hD s1 s2 s3 s4 HE
            have HY0 := Lib.hid (ti_new HX.out (fnBox far flo (.slice Aj fco.length cj)) (fBox_ty _ _ _))
            have HDc := Lib.hid hD
            subst hCe
            have hnl : (numsT (opsL 2 far flo)).length ≤ 44 := opsL_le 2 far flo s2 s3
            have HPh := fun W hW => Lib.hid (phrase_any [102, 117, 110, 99] far flo 2 (by omega) (by decide) (sm_i64 s2) (sm_i64 s3) W hW)
            obtain ⟨ob, hob⟩ : ∃ ob : List UInt8, ob = [102, 117, 110, 99] ++ numsT (opsL 2 far flo) := ⟨_, rfl⟩
            rw [← hob] at HE HPh
            have hol : ob.length ≤ 60 := by
              rw [hob, List.length_append]
              simp only [List.length_cons, List.length_nil]
              omega
            have HWr := fun W hW hB => Lib.hid (write_any bb bb pre ob W hW (by omega) hB)
            have hq : (pre ++ ob ++ [10]).length ≤ 230100 := by simp only [List.length_append, List.length_cons, List.length_nil]; omega
            obtain ⟨q5, hq5⟩ : ∃ q5, q5 = pre ++ ob ++ [10] := ⟨_, rfl⟩
            rw [← hq5] at HE HWr hq
            have HIs := Lib.hid s4
            have hfc := s1
            unfold fnBox at HY0
            obtain ⟨e0, e1, e2, -, -, -⟩ := cells3 HY0.out.it
            clear s1 s2 s3 s4 hD hob hol hnl hpre hq5 x0 x1
            go_wp2_with fail
            refine (HPh _ (HW.out.next HY0.out.tx.below)).out.mono ?_
            rintro e w3 ⟨rfl, hb3⟩
            have HY3 := Lib.hid (HY0.out.next hb3)
            clear hb3 HPh e0 e1 e2 HY0 c0 c1 c2 x2
            go_wp2_with fail
            refine (HWr _ HY3.out.tx.bld (by have := HY3.out.tx.size; omega)).out.mono ?_
            rintro e w4 ⟨rfl, hbd, hwr⟩
            have HY4 := Lib.hid (HY3.out.wrote hwr hbd)
            obtain ⟨e0, e1, e2, -, -, -⟩ := cells3 HY4.out.it
            have HX4 := Lib.hid HY4.out.tx
            clear hwr hbd HWr HY3 HY4
            go_wp2_with fail
            clear e0 e1 e2
            go_loopw [75] (fun i wr => ∃ k : Nat, k ≤ fco.length ∧ i = .int .i64 (k : Int) ∧ Hid (Tx w bb A B (some ⟨b, off, none⟩) ds.length ws.length fs.length ca cb cc (q5 ++ firsts Item.i fco k) wr)) (fun i _ => fco.length - (intOf i).toNat)
            case atStart => exact ⟨0, Nat.zero_le _, rfl, by rw [firsts_zero, List.append_nil]; exact HX4⟩
            case round =>
              obtain ⟨k, hk, rfl, HXk⟩ := hrel
              by_cases hlk : k < fco.length
              · obtain ⟨b2, off2, rfl, hbl2, c0, c1, c2⟩ := (HDc.out.next HXk.out.below) k hlk
                have hlk' : (k : Int) < (fco.length : Int) := by omega
                have hk0 : (0 : Int) ≤ (k : Int) := by omega
                obtain ⟨hsy, hck⟩ := HIs.out _ (getD_in (d := zero) hlk)
                have HEk : Hid (q5 ++ firsts Item.i fco (k + 1) = (q5 ++ firsts Item.i fco k) ++ ([32, 32] ++ lineT (fco.getD k zero)) ++ [10]) := Lib.hid (by
                  rw [firsts_next (d := zero) hlk]
                  simp only [itemL, List.append_assoc])
                have hpk : (q5 ++ firsts Item.i fco k).length ≤ 290000 := by
                  have h2 := firsts_le (f := Item.i) (l := fco) (c := 57) (fun x hx => by
                    have := ins_le (HIs.out x hx).1
                    simp only [itemL, List.length_append, List.length_cons, List.length_nil]
                    omega) k hk
                  rw [List.length_append]
                  omega
                have hx := ins_le hsy
                generalize q5 ++ firsts Item.i fco k = pk at *
                generalize fco.getD k zero = y at *
                obtain ⟨yo, ya, yb⟩ := y
                dsimp only at c0 c1 c2 hx
                have HO := fun W hW => Lib.hid (line_any yo ya yb W hW (by have := hsy.1; unfold I64; dsimp only at this; omega) (sm_i64 hsy.2.1) (sm_i64 hsy.2.2.1))
                unfold LinePost at HO
                have hla : lineA yo ya yb = lineT (yo, ya, yb) := by
                  unfold lineA
                  rw [if_pos (show Go.Proofs.YtnhoeboighndlaaGreatDoor.inst.chk yo ya yb = 0 from hck)]
                rw [hla] at HO
                have HYk := Lib.hid (ti_new HXk.out (iBox yo ya yb) (iBox_ty _ _ _))
                unfold iBox at HYk
                obtain ⟨f0, f1, f2, -, -, -⟩ := cells3 HYk.out.it
                generalize lineT (yo, ya, yb) = ey at *
                obtain ⟨ob2, hob2⟩ : ∃ ob2 : List UInt8, ob2 = [32, 32] ++ ey := ⟨_, rfl⟩
                rw [← hob2] at HEk
                have hol2 : ob2.length ≤ 60 := by
                  rw [hob2, List.length_append]
                  simp only [List.length_cons, List.length_nil]
                  omega
                have HWk := fun W hW hB => Lib.hid (write_any bb bb pk ob2 W hW (by omega) hB)
                have z2 := size_mk ey
                have z6 : (ByteArray.mk #[32, 32]).size = 2 := rfl
                have hEq : ByteArray.mk #[32, 32] ++ ByteArray.mk ey.toArray = ByteArray.mk ob2.toArray := by rw [hob2]; exact mk_append [32, 32] ey
                have u1 : (9223372036854775807 < 2 + ey.length) = False := by simp; omega
                have v1 : (9223372036854775805 < ey.length) = False := by simp; omega
                clear hsy hck hla hob2 hol2 hpk
                go_wp2_with fail
                refine (HO _ (HW.out.next HYk.out.tx.below)).out.mono ?_
                rintro e w6 ⟨rfl, hb6⟩
                have HX6 := Lib.hid (HYk.out.tx.next hb6)
                clear hb6 HO c0 c1 c2 f0 f1 f2 HYk
                go_wp2_with fail
                refine (HWk _ HX6.out.bld (by have := HX6.out.size; omega)).out.mono ?_
                rintro e w7 ⟨rfl, hbd7, hwr7⟩
                have HX7 := Lib.hid (HX6.out.wrote hwr7 hbd7)
                rw [← HEk.out] at HX7
                clear hbd7 hwr7 HWk HX6
                go_wp2_with fail
                go_roundw
                case rel => exact ⟨k + 1, by omega, by go_num, HX7⟩
                case measure => simp [intOf]; omega
              · obtain rfl : k = fco.length := by omega
                have hge : ¬ (fco.length : Int) < (fco.length : Int) := by omega
                rw [← HE.out] at HXk
                go_wp2_with fail
                go_roundw
                case rel => exact ⟨j + 1, by omega, by go_num, HXk⟩
                case measure => simp [intOf]; omega
          · obtain rfl : j = fs.length := by omega
            have hge : ¬ (fs.length : Int) < (fs.length : Int) := by omega
            have HSt := Lib.hid (Tryz.Builder_String_any bb bb (p2 ++ funcsT fs fs.length) wr HX.out.bld (by have := HX.out.size; omega))
            rw [← HTp.out] at HSt
            clear x0 x1 x2
            go_wp2_with fail
            refine HSt.out.mono ?_
            rintro e w5 ⟨rfl, hb5⟩
            have HB5 := Lib.hid (HX.out.below.trans (hb5.mono (Nat.le_of_lt HX.out.lt)))
            clear hb5
            go_wp2_with fail
            go_ret2
            exact ⟨rfl, HB5.out⟩

set_option maxRecDepth 100000 in
set_option maxHeartbeats 4000000 in
theorem text_any (v : Value) (p : Pg) (w : World) (hw : Okz w) (hv : PAt w v p) (hs : SmallP p) : Calls Tryz.prog 8 #[v] w (TextPost p w) := by
  unfold TextPost textA
  by_cases hz : chkP p = 0
  · rw [if_pos hz, hz]
    exact textYes_any v p hz w hw hv
  · rw [if_neg hz]
    have HPA0 := hv
    obtain ⟨A, B, C, ca, cb, cc, rfl, -, -, -⟩ := hv
    have hb0 : Below w.heap.size w (w.alloc (pgB A B C p.ds.length p.ws.length p.fs.length ca cb cc)) := (Below.refl _ w).alloc (Nat.le_refl _) _
    have hx0 := heap_alloc_new w (pgB A B C p.ds.length p.ws.length p.fs.length ca cb cc)
    have HCk := Lib.hid (check_any _ p (by have := hs.1; omega) _ (HPA0.next hb0) (hw.next hb0).prog)
    unfold NumPost at HCk
    have hne : ((chkP p : Int) != 0) = true := by simpa using hz
    have HB0 := Lib.hid hb0
    unfold pgB at HCk HB0 hx0
    obtain ⟨x0, x1, x2, -, -, -⟩ := cells3 hx0
    generalize chkP p = q at *
    clear hb0 hx0 HPA0 hw hz hs
    go_enter Tryz.func8, Tryz.ntmps8
    go_wp2_with fail
    refine HCk.out.mono ?_
    rintro e w1 ⟨rfl, hb1⟩
    have HB1 := Lib.hid (HB0.out.trans (hb1.mono HB0.out.size))
    clear hb1 HCk x0 x1 x2 HB0
    go_wp2_with fail
    go_ret2
    exact ⟨rfl, HB1.out⟩
end Go.Proofs.YtnhoeboighndlaaGreatDoor.pgm.asm
