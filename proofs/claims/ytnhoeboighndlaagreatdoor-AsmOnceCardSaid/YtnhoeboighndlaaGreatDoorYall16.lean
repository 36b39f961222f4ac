/-
  Texts of one claim in one file: DBox, YPair, ETextAll. Each has its own sentence, with its conditions.
-/
import Derived.Test.YtnhoeboighndlaaGreatDoorYall9
import Derived.Test.YtnhoeboighndlaaGreatDoorYall15
/-
  Three cells at once, and a reader of the document's in a block. No condition.
-/
namespace Go.Proofs.YtnhoeboighndlaaGreatDoor.objs
open Go.RowKit Go.ChangeShapes
set_option linter.unusedVariables false

/-- Three cells of a block, set one behind the other. -/
abbrev put3 (W : World) (b : Nat) (x y z : Value) : World := ((W.setCell ⟨b, 0, none⟩ x).setCell ⟨b, 1, none⟩ y).setCell ⟨b, 2, none⟩ z
theorem put3_same {W : World} {b : Nat} {u v m : Value} {T : TypeId} (h : W.heap[b]? = some (.cells #[u, v, m] T (0, 0))) (x y z : Value) : (put3 W b x y z).heap[b]? = some (.cells #[x, y, z] T (0, 0)) := by
  simp [World.setCell, Array.getElem?_modify, h]
theorem cells3 {W : World} {b : Nat} {x y z : Value} {T : TypeId} (h : W.heap[b]? = some (.cells #[x, y, z] T (0, 0))) :
    W.cell? ⟨b, 0, none⟩ = some x ∧ W.cell? ⟨b, 1, none⟩ = some y ∧ W.cell? ⟨b, 2, none⟩ = some z ∧ W.frozen? ⟨b, 0, none⟩ = false ∧ W.frozen? ⟨b, 1, none⟩ = false ∧ W.frozen? ⟨b, 2, none⟩ = false := by
  simp [World.cell?, World.frozen?, h]
theorem put3_far {W : World} {b c : Nat} (h : c ≠ b) (x y z : Value) : (put3 W b x y z).heap[c]? = W.heap[c]? :=
  (Below.heap_setCell _ ⟨b, 2, none⟩ _ c h).trans ((Below.heap_setCell _ ⟨b, 1, none⟩ _ c h).trans (Below.heap_setCell _ ⟨b, 0, none⟩ _ c h))
theorem put3_below {B b : Nat} {a W : World} (h : Below B a W) (hb : B ≤ b) (x y z : Value) : Below B a (put3 W b x y z) :=
  ((h.setCell (p := ⟨b, 0, none⟩) hb _).setCell (p := ⟨b, 1, none⟩) hb _).setCell (p := ⟨b, 2, none⟩) hb _

end Go.Proofs.YtnhoeboighndlaaGreatDoor.objs

/-
  The program's reading of so many numbers (typed over the code of 0aab59b): of two at most.
-/
namespace Go.Proofs.YtnhoeboighndlaaGreatDoor.pgm.asm
open Go.RowKit Go.ChangeShapes
open Go.Proofs.YtnhoeboighndlaaGreatDoor.pgm
open Go.Proofs.YtnhoeboighndlaaGreatDoor.octet (size_mk mk_append)
open Go.Proofs.YtnhoeboighndlaaGreatDoor.need (digs intT)
open Go.Proofs.YtnhoeboighndlaaGreatDoor.objs (De)
open Go.Proofs.YtnhoeboighndlaaGreatDoor.digi (readD)
set_option linter.unusedVariables false

/-- Texts, one behind the other, from where a slice begins. -/
def StrAt (w : World) (A : Option Addr) (ts : List (List UInt8)) : Prop := ∀ j, j < ts.length → ∃ b off, A = some ⟨b, off, none⟩ ∧ b < w.heap.size ∧ w.cell? ⟨b, off + j, none⟩ = some (.string ⟨(ts.getD j []).toArray⟩)
theorem StrAt.next {w w' : World} {A : Option Addr} {ts : List (List UInt8)} (h : StrAt w A ts) (hb : Below w.heap.size w w') : StrAt w' A ts := fun j hj => by
  obtain ⟨b, off, h1, h2, h3⟩ := h j hj
  exact ⟨b, off, h1, Nat.lt_of_lt_of_le h2 hb.size, (hb.cell (p := ⟨b, off + j, none⟩) h2).trans h3⟩

def put2 (W : World) (b : Nat) (x y : Value) : World := (W.setCell ⟨b, 0, none⟩ x).setCell ⟨b, 1, none⟩ y
theorem put2_same {W : World} {b : Nat} {u v : Value} {T : TypeId} (h : W.heap[b]? = some (.cells #[u, v] T (0, 0))) (x y : Value) : (put2 W b x y).heap[b]? = some (.cells #[x, y] T (0, 0)) := by
  simp [put2, World.setCell, Array.getElem?_modify, h]
theorem cells2 {W : World} {b : Nat} {x y : Value} {T : TypeId} (h : W.heap[b]? = some (.cells #[x, y] T (0, 0))) :
    W.cell? ⟨b, 0, none⟩ = some x ∧ W.cell? ⟨b, 1, none⟩ = some y ∧ W.frozen? ⟨b, 0, none⟩ = false ∧ W.frozen? ⟨b, 1, none⟩ = false := by
  simp [World.cell?, World.frozen?, h]
theorem put2_far {W : World} {b c : Nat} (h : c ≠ b) (x y : Value) : (put2 W b x y).heap[c]? = W.heap[c]? :=
  (Below.heap_setCell _ ⟨b, 1, none⟩ _ c h).trans (Below.heap_setCell _ ⟨b, 0, none⟩ _ c h)
theorem put2_below {B b : Nat} {a W : World} (h : Below B a W) (hb : B ≤ b) (x y : Value) : Below B a (put2 W b x y) :=
  (h.setCell (p := ⟨b, 0, none⟩) hb _).setCell (p := ⟨b, 1, none⟩) hb _

def pairBox (a b : Int) : Obj := .cells #[.int .i64 a, .int .i64 b] 63
/-- The numbers that words are; 0 where there are none. -/
def pairA (ws : List (List UInt8)) (many : Nat) : Int × Int := match pairW ws many with | some vs => (vs.getD 0 0, vs.getD 1 0) | none => (0, 0)
def PairPost (ws : List (List UInt8)) (many : Nat) (w : World) (e : Ending) (w' : World) : Prop := e = .returned (.tuple #[.agg #[.int .i64 (pairA ws many).1, .int .i64 (pairA ws many).2], .bool (pairW ws many).isSome]) ∧ Below w.heap.size w w'
theorem pair_ret {w Z : World} {ws : List (List UInt8)} {many : Nat} {a b : Int} {ok : Bool} {act : Act} (h4 : act.tmps[4]?.getD undef = .pointer (some ⟨w.heap.size, 0, none⟩)) (h5 : act.tmps[5]?.getD undef = .bool ok) (hd : act.defers = [])
    (hp : pairA ws many = (a, b)) (hs : (pairW ws many).isSome = ok) (hz : Z.heap[w.heap.size]? = some (.cells #[.int .i64 a, .int .i64 b] 63 (0, 0))) (hb : Below w.heap.size w Z) : bodyPost Tryz.prog Tryz.f81 (PairPost ws many w) .ret act Z := by
  obtain ⟨x0, x1, _, _⟩ := cells2 hz
  refine bodyPost_ret (v := .tuple #[.agg #[.int .i64 a, .int .i64 b], .bool ok]) ?_ hd ⟨by rw [hp, hs], hb⟩
  simp [results, Tryz.results81, go_sem, h4, h5, x0, x1]

/-- While the numbers are read. -/
structure Pr (w : World) (a b : Int) (W : World) : Prop where
  below : Below w.heap.size w W
  res : W.heap[w.heap.size]? = some (.cells #[.int .i64 0, .int .i64 0] 63 (0, 0))
  box : W.heap[w.heap.size + 1]? = some (.cells #[.int .i64 a, .int .i64 b] 63 (0, 0))
theorem Pr.next {w W W' : World} {a b : Int} (h : Pr w a b W) (hb : Below W.heap.size W W') : Pr w a b W' :=
  ⟨h.below.trans (hb.mono h.below.size), (hb.block _ (lt_of_block h.res)).trans h.res, (hb.block _ (lt_of_block h.box)).trans h.box⟩
theorem pr_new (w : World) : Pr w 0 0 ((w.alloc (pairBox 0 0)).alloc (pairBox 0 0)) := by
  have e : (w.alloc (pairBox 0 0)).heap.size = w.heap.size + 1 := by simp
  have h1 : Below w.heap.size w (w.alloc (pairBox 0 0)) := (Below.refl _ _).alloc (Nat.le_refl _) _
  refine ⟨h1.alloc h1.size _, ?_, ?_⟩
  · rw [Below.heap_alloc _ _ _ (by omega)]
    exact heap_alloc_new w _
  · have := heap_alloc_new (w.alloc (pairBox 0 0)) (pairBox 0 0)
    rwa [e] at this
theorem get_next {vs : List Int} {v : Int} {j : Nat} (hj : vs.length = j) (h2 : j < 2) : (vs ++ [v]).getD 0 0 = (if j = 0 then v else vs.getD 0 0) ∧ (vs ++ [v]).getD 1 0 = (if j = 0 then vs.getD 1 0 else v) := by
  match vs, hj with
  | [], hj => subst hj; exact ⟨rfl, rfl⟩
  | [a], hj => subst hj; exact ⟨rfl, rfl⟩
  | a :: b :: r, hj => simp at hj; omega
theorem Pr.set0 {w W : World} {a b : Int} (h : Pr w a b W) (v : Int) : Pr w v b (W.setCell ⟨w.heap.size + 1, 0, none⟩ (.int .i64 v)) := by
  refine ⟨h.below.setCell (p := ⟨w.heap.size + 1, 0, none⟩) (Nat.le_succ _) _, (Below.heap_setCell _ ⟨w.heap.size + 1, 0, none⟩ _ _ (by simp)).trans h.res, ?_⟩
  have := h.box
  simp [World.setCell, Array.getElem?_modify, this]
theorem Pr.set1 {w W : World} {a b : Int} (h : Pr w a b W) (v : Int) : Pr w a v (W.setCell ⟨w.heap.size + 1, 1, none⟩ (.int .i64 v)) := by
  refine ⟨h.below.setCell (p := ⟨w.heap.size + 1, 1, none⟩) (Nat.le_succ _) _, (Below.heap_setCell _ ⟨w.heap.size + 1, 1, none⟩ _ _ (by simp)).trans h.res, ?_⟩
  have := h.box
  simp [World.setCell, Array.getElem?_modify, this]

set_option maxRecDepth 100000 in
set_option maxHeartbeats 4000000 in
theorem pairOf_any (A : Option Addr) (cap : Nat) (ws : List (List UInt8)) (many : Nat) (hm : many ≤ 2) (hn : ws.length ≤ 1048576) (hl : ∀ t ∈ ws, t.length ≤ 1048576) (w : World) (hA : StrAt w A ws) (hw : Okz w) :
    Calls Tryz.prog 81 #[.slice A ws.length cap, .int .i64 (many : Int)] w (PairPost ws many w) := by
  have HA := Lib.hid hA
  have HW := Lib.hid hw
  have HL := Lib.hid hl
  clear hA hw hl
  by_cases hlen : ws.length = many
  · have HP : Hid (pairW ws many = numsW ws) := Lib.hid (by unfold pairW; rw [if_pos hlen])
    have HX0 := Lib.hid (pr_new w)
    have hne : ((ws.length : Int) != (many : Int)) = false := by rw [bne_eq_false_iff_eq]; omega
    have hr0 := heap_alloc_new w (pairBox 0 0)
    unfold pairBox at HX0
    have HM := Lib.hid hm
    have HE := Lib.hid hlen
    clear hr0 hlen hm
    go_enter Tryz.func81, Tryz.ntmps81
    go_wp2_with fail
    generalize (w.alloc (Obj.cells #[Value.int IntKind.i64 0, Value.int IntKind.i64 0] 63)).alloc (Obj.cells #[Value.int IntKind.i64 0, Value.int IntKind.i64 0] 63) = W0 at *
    go_loopw [19] (fun i wr => ∃ (j : Nat) (vs : List Int), j ≤ ws.length ∧ i = .int .i64 (j : Int) ∧ Hid (numsW (ws.take j) = some vs) ∧ Hid (Pr w (vs.getD 0 0) (vs.getD 1 0) wr)) (fun i _ => ws.length - (intOf i).toNat)
    case atStart => exact ⟨0, [], Nat.zero_le _, rfl, Lib.hid rfl, HX0⟩
    case round =>
      obtain ⟨j, vs, hj, rfl, HV, HX⟩ := hrel
      obtain ⟨W1, rfl⟩ : ∃ W1, W1 = wr := ⟨_, rfl⟩
      by_cases hlt : j < ws.length
      · obtain ⟨b, off, rfl, hbl, hc0⟩ := HA.out j hlt
        have hc := (HX.out.below.cell (p := ⟨b, off + j, none⟩) hbl).trans hc0
        have hlt' : (j : Int) < (ws.length : Int) := by omega
        have hj0 : (0 : Int) ≤ (j : Int) := by omega
        have hN := number_any (ws.getD j []) (HL.out _ (by rw [List.getD_eq_getElem?_getD, List.getElem?_eq_getElem hlt]; exact List.getElem_mem hlt)) W1 (HW.out.next HX.out.below)
        unfold NumPostZ at hN
        have HF := Lib.hid (fun (h : readD (ws.getD j []) 10 = none) => (allW_fail (f := fun t => readD t 10) hlt h : numsW ws = none))
        have HT := Lib.hid (allW_take (f := fun t => readD t 10) hlt HV.out)
        have HVl := Lib.hid ((allW_len _ _ HV.out).trans (by rw [List.length_take]; omega : (ws.take j).length = j))
        cases hr : readD (ws.getD j []) 10 with
        | none =>
          rw [hr] at hN
          have HN := Lib.hid hN
          have HP2 : Hid (pairW ws many = none) := Lib.hid (HP.out.trans (HF.out hr))
          clear hN HF HT hr hc0 HVl HL
          generalize ws.getD j [] = t at *
          go_wp2_with fail
          refine HN.out.mono ?_
          rintro e w1 ⟨rfl, hb⟩
          have HX1 := Lib.hid (HX.out.next hb)
          obtain ⟨x0, x1, x2, x3⟩ := cells2 HX1.out.res
          clear hc hb HX HN
          go_wp2_with fail
          refine pair_ret (ok := false) rfl rfl rfl ?_ (by rw [HP2.out]; rfl) (put2_same HX1.out.res (.int .i64 0) (.int .i64 0)) (put2_below HX1.out.below (Nat.le_refl _) _ _)
          unfold pairA
          rw [HP2.out]
        | some v =>
          rw [hr] at hN
          have HN := Lib.hid hN
          have HT2 : Hid (numsW (ws.take (j + 1)) = some (vs ++ [v])) := Lib.hid (HT.out.trans (by rw [hr]; rfl))
          have hj2 : j < 2 := by have := HM.out; have := HE.out; omega
          have HG := Lib.hid (get_next (v := v) HVl.out hj2)
          clear hN HF HT hr hc0 HVl HL HV
          generalize ws.getD j [] = t at *
          generalize vs ++ [v] = us at *
          go_wp2_with fail
          refine HN.out.mono ?_
          rintro e w1 ⟨rfl, hb⟩
          have HX1 := Lib.hid (HX.out.next hb)
          obtain ⟨x0, x1, x2, x3⟩ := cells2 HX1.out.box
          clear hc hb HX HN
          have hjj : j = 0 ∨ j = 1 := by omega
          rcases hjj with rfl | rfl
          · have HY : Hid (Pr w (us.getD 0 0) (us.getD 1 0) (w1.setCell ⟨w.heap.size + 1, 0, none⟩ (.int .i64 v))) := Lib.hid (by rw [HG.out.1, HG.out.2]; exact HX1.out.set0 v)
            clear HG
            go_wp2_with fail
            go_roundw
            case rel => exact ⟨1, us, by omega, rfl, HT2, HY⟩
            case measure => simp [intOf]; omega
          · have HY : Hid (Pr w (us.getD 0 0) (us.getD 1 0) (w1.setCell ⟨w.heap.size + 1, 1, none⟩ (.int .i64 v))) := Lib.hid (by rw [HG.out.1, HG.out.2]; exact HX1.out.set1 v)
            clear HG
            go_wp2_with fail
            go_roundw
            case rel => exact ⟨2, us, by omega, rfl, HT2, HY⟩
            case measure => simp [intOf]; omega
      · have hge : ¬ (j : Int) < (ws.length : Int) := by omega
        have HP2 : Hid (pairW ws many = some vs) := Lib.hid (HP.out.trans (by have := HV.out; rwa [List.take_of_length_le (by omega)] at this))
        have hb0 := HX.out.box
        have hr0 := HX.out.res
        obtain ⟨x0, x1, x2, x3⟩ := cells2 hb0
        obtain ⟨y0, y1, y2, y3⟩ := cells2 hr0
        have HPA : Hid (pairA ws many = (vs.getD 0 0, vs.getD 1 0)) := Lib.hid (by unfold pairA; rw [HP2.out])
        clear hb0 hr0 HA HL HV hlt
        generalize vs.getD 0 0 = a at *
        generalize vs.getD 1 0 = c at *
        go_wp2_with fail
        exact pair_ret (ok := true) rfl rfl rfl HPA.out (by rw [HP2.out]; rfl) (put2_same HX.out.res (.int .i64 a) (.int .i64 c)) (put2_below HX.out.below (Nat.le_refl _) _ _)
  · have HP : Hid (pairW ws many = none) := Lib.hid (by unfold pairW; rw [if_neg hlen])
    have hne : ((ws.length : Int) != (many : Int)) = true := by rw [bne_iff_ne]; omega
    have hr0 := heap_alloc_new w (pairBox 0 0)
    have hb0 : Below w.heap.size w (w.alloc (pairBox 0 0)) := (Below.refl _ _).alloc (Nat.le_refl _) _
    have HR := Lib.hid hr0
    have HB := Lib.hid hb0
    unfold pairBox at hr0 HR HB
    obtain ⟨x0, x1, x2, x3⟩ := cells2 hr0
    clear hr0 hlen HA HL hb0
    go_enter Tryz.func81, Tryz.ntmps81
    go_wp2
    refine pair_ret (ok := false) rfl rfl rfl ?_ (by rw [HP.out]; rfl) HR.out HB.out
    unfold pairA
    rw [HP.out]
end Go.Proofs.YtnhoeboighndlaaGreatDoor.pgm.asm

/-
  The program's own text of a wait, whole: rows of texts, and what stands between (typed over the code of 5ef5b61): of at most six ways, each of at most six needs, of ints. The tables must lie where their initialisers lay them.
-/
namespace Go.Proofs.YtnhoeboighndlaaGreatDoor.need
open Go.RowKit Go.ChangeShapes
open Go.Proofs.YtnhoeboighndlaaGreatDoor.octet (mk_append size_mk)
open Go.Proofs.YtnhoeboighndlaaGreatDoor.objs (De zero CellsAt DAt below_drewN)
set_option linter.unusedVariables false

/-- A row of texts of a call's own. -/
def OwnS (w : World) (base : Nat) (v : Value) (l : List ByteArray) : Prop := w.ownsRow base 9 1 v l.length (l.map Value.string)
theorem OwnS.keep {w w' : World} {base : Nat} {v : Value} {l : List ByteArray} (h : OwnS w base v l) (hk : ∀ g, v.ownBlock = some g → w'.heap[g]? = w.heap[g]?) : OwnS w' base v l := by
  refine ⟨h.1, h.2.imp id ?_⟩
  rintro ⟨g, c, cur, rfl, hg, hh, r⟩
  exact ⟨g, c, cur, rfl, hg, (hk g rfl).trans hh, r⟩
theorem OwnS.lt {w : World} {base g : Nat} {v : Value} {l : List ByteArray} (h : OwnS w base v l) (hg : v.ownBlock = some g) : base ≤ g ∧ g < w.heap.size := World.ownsRow.lt h g hg
theorem OwnS.slice {w : World} {base : Nat} {v : Value} {l : List ByteArray} (h : OwnS w base v l) : ∃ A cap, v = .slice A l.length cap := by
  rcases h.2 with ⟨rfl, h0⟩ | ⟨g, cap, cur, rfl, _⟩
  · exact ⟨none, 0, by rw [h0]⟩
  · exact ⟨_, _, rfl⟩
theorem infoS : (Tryz.prog.info? 9).map (fun i => (i.zero, i.size, i.bytes)) = some (some (.string ⟨#[]⟩), 1, 16) := by kernel_rfl
def mkS (m : Nat) : Obj := .cells (madeCells (Value.string ⟨#[]⟩).cells (m * 1)) 9
theorem run_mkS (m : Nat) (hm : m ≤ 6) (W : World) : (Instr.makeSlice 89 (.int .i64 0) (.int .i64 (m : Int))).run Tryz.prog W = .ok (.slice (some ⟨W.heap.size, 0, none⟩) 0 m) (W.alloc (mkS m)) := by
  obtain ⟨i, hi, hz0, hz1, hz2⟩ := info_parts infoS
  have h := run_make (P := Tryz.prog) W 89 9 i _ Tryz.underlying89 hi hz0 .i64 .i64 0 (m : Int) (by omega) (by omega) (by rw [hz2]; omega) (by omega)
  rw [hz1, Int.toNat_natCast, Int.toNat_zero] at h
  exact h
theorem run_appS (W : World) (ty : TypeId) (base c : Nat) (v : Value) (l : List ByteArray) (s : ByteArray) (hrow : OwnS W base v l) (hlen : l.length ≤ 1000) (hbase : base ≤ W.heap.size) :
    ∃ v' w', (Builtin.append_ #[89, 89] ty #[v, .slice (some ⟨W.heap.size, 0, none⟩) 1 c]).run Tryz.prog (W.alloc (.cells #[.string s] 9)) = .ok v' w' ∧ OwnS w' base v' (l ++ [s]) ∧ (W.alloc (.cells #[.string s] 9)).grownBy w' v.ownBlock := by
  obtain ⟨i, hi, hz0, hz1, hz2⟩ := info_parts infoS
  have hb0 : Below W.heap.size W (W.alloc (.cells #[.string s] 9)) := (Below.refl _ W).alloc (Nat.le_refl _) _
  have hc : (W.alloc (.cells #[.string s] 9)).cell? ⟨W.heap.size, 0, none⟩ = some (.string s) := by
    unfold World.cell?
    rw [heap_alloc_new W _]
    rfl
  have hrow1 : OwnS (W.alloc (.cells #[.string s] 9)) base v l := hrow.keep fun g hg => hb0.block g (hrow.lt hg).2
  obtain ⟨v', w', r1, r2, r3, _⟩ := run_append_own (P := Tryz.prog) (W.alloc (.cells #[.string s] 9)) base 89 ty 9 i _ 1 16 Tryz.underlying89 hi hz0 hz1 hz2 rfl (by omega) v l.length (l.map Value.string) hrow1 ⟨W.heap.size, 0, none⟩ 1 c [.string s] rfl (by
      intro j u hu
      rcases j with _ | j
      · simp only [List.getElem?_cons_zero, Option.some.injEq] at hu
        subst hu
        rw [Addr.add_lit]
        exact hc
      · simp at hu) (by
      intro u hu
      simp only [List.mem_singleton] at hu
      subst hu
      rfl) (by unfold maxLen; omega) (by omega) (by simp; omega)
  refine ⟨v', w', r1, ?_, r3⟩
  unfold OwnS
  rw [List.length_append, List.map_append]
  exact r2
theorem wp_appS {o : Oper} {a : Act} {W : World} {K : Act → World → Prop} {Q : Exit → Act → World → Prop} (s y : Operand)
    (ho : o.op = .call { callee := .builtin .append, args := #[s, y], argTypes := #[89, 89] }) (base c : Nat) (v : Value) (l : List ByteArray) (x : ByteArray)
    (hs : a.eval s = v) (hrow : OwnS W base v l) (hy : a.eval y = .slice (some ⟨W.heap.size, 0, none⟩) 1 c) (hlen : l.length ≤ 1000) (hbase : base ≤ W.heap.size)
    (h : ∀ v' w', OwnS w' base v' (l ++ [x]) → (W.alloc (.cells #[.string x] 9)).grownBy w' v.ownBlock → K (a.put o.dst v') w') : o.wp Tryz.prog a (W.alloc (.cells #[.string x] 9)) K Q := by
  obtain ⟨v', w', hr, h2, h3⟩ := run_appS W o.type base c v l x hrow hlen hbase
  unfold Oper.wp execOp
  simp only [ho, resolve, invoke, builtin, Sem.run_bind, Sem.run_pure, Result.andThen_ok, List.map_toArray, List.map_cons, List.map_nil, hs, hy, hr]
  exact h v' w' h2 h3
theorem wpList_appS {ops : Array Oper} {rest : List Oper} {o : Oper} {a : Act} {W : World} {Q : Exit → Act → World → Prop} (hgd : o.guard = none) (s y : Operand)
    (ho : o.op = .call { callee := .builtin .append, args := #[s, y], argTypes := #[89, 89] }) (base c : Nat) (v : Value) (l : List ByteArray) (x : ByteArray)
    (hs : a.eval s = v) (hrow : OwnS W base v l) (hy : a.eval y = .slice (some ⟨W.heap.size, 0, none⟩) 1 c) (hlen : l.length ≤ 1000) (hbase : base ≤ W.heap.size)
    (h : ∀ v' w', OwnS w' base v' (l ++ [x]) → (W.alloc (.cells #[.string x] 9)).grownBy w' v.ownBlock → wpList Tryz.prog ops Q rest (a.put o.dst v') w') : wpList Tryz.prog ops Q (o :: rest) a (W.alloc (.cells #[.string x] 9)) :=
  wpList_plain hgd fun _ hK => wp_appS s y ho base c v l x hs hrow hy hlen hbase fun v' w' h2 h3 => hK _ _ (h v' w' h2 h3)

/-- What stands in a row of texts, with a text between each two. -/
theorem join_any (v : Value) (base : Nat) (l : List ByteArray) (sep : ByteArray) (w : World) (h : OwnS w base v l) (hl : l.length ≤ 1000) (hs : (Lib.join (l.map (·.data.toList)) sep.data.toList).length ≤ 140737488355328) :
    Calls Tryz.prog 45 #[v, .string sep] w fun e w' => e = .returned (.string ⟨(Lib.join (l.map (·.data.toList)) sep.data.toList).toArray⟩) ∧ Below w.heap.size w w' := by
  have hcell := fun (g : Nat) (e : v.ownBlock = some g) (j : Nat) (u : Value) hu => World.ownsRow.cells h (g := g) e j u hu
  obtain ⟨h0, h1⟩ := h
  rcases h1 with ⟨rfl, hz⟩ | ⟨g, cap, cur, rfl, hb, hh, hcap, hr⟩
  · obtain rfl : l = [] := List.eq_nil_of_length_eq_zero hz
    exact (Tryz.strings_Join_none none 0 sep w).mono fun e w' ⟨h1, h2⟩ => ⟨h1, h2 ▸ Below.refl _ _⟩
  · refine Tryz.strings_Join g 0 cap l sep w (fun j x hx => ?_) (lt_of_block hh) (by omega) hcap hs
    have h2 := hcell g rfl j (.string x) (by rw [List.getElem?_map, hx]; rfl)
    rw [Addr.add_lit] at h2
    simpa using h2

theorem join_snoc (xs : List (List UInt8)) (y sep : List UInt8) : Lib.join (xs ++ [y]) sep = Lib.join xs sep ++ (if 0 < xs.length then sep else []) ++ y := by
  cases xs with
  | nil => simp [Lib.join, List.intercalate]
  | cons x r =>
    rw [List.cons_append, Lib.join_cons, Lib.join_cons, if_pos (by simp)]
    unfold Lib.joinTail
    simp [List.append_assoc]
/-- The texts of the first needs. -/
def needTs (l : List De) (k : Nat) : List ByteArray := (l.take k).map fun n => ⟨(needT n).toArray⟩
theorem needTs_next {l : List De} {k : Nat} (h : k < l.length) : needTs l (k + 1) = needTs l k ++ [⟨(needT (l.getD k zero)).toArray⟩] := by
  unfold needTs
  rw [List.take_succ_eq_append_getElem h, List.map_append]
  congr 1
  rw [List.getD_eq_getElem?_getD, List.getElem?_eq_getElem h]
  rfl
theorem needTs_len {l : List De} {k : Nat} (h : k ≤ l.length) : (needTs l k).length = k := by
  unfold needTs
  rw [List.length_map, List.length_take]
  omega
theorem needTs_join (l : List De) : ∀ k, k ≤ l.length → Lib.join ((needTs l k).map (·.data.toList)) [32, 43, 32] = needsT l k := by
  intro k
  induction k with
  | zero => intro _; simp [needTs, needsT, Lib.join_nil]
  | succ k ih =>
    intro hk
    rw [needTs_next (by omega), List.map_append, List.map_cons, List.map_nil, join_snoc, ih (by omega), needsT_next, List.length_map, needTs_len (by omega)]
    rfl
/-- The texts of the first ways. -/
def wayTs (w : List (List De)) (k : Nat) : List ByteArray := (w.take k).map fun l => ⟨(needsT l l.length).toArray⟩
theorem wayTs_next {w : List (List De)} {k : Nat} (h : k < w.length) : wayTs w (k + 1) = wayTs w k ++ [⟨(needsT (w.getD k []) (w.getD k []).length).toArray⟩] := by
  unfold wayTs
  rw [List.take_succ_eq_append_getElem h, List.map_append]
  congr 1
  rw [List.getD_eq_getElem?_getD, List.getElem?_eq_getElem h]
  rfl
theorem wayTs_len {w : List (List De)} {k : Nat} (h : k ≤ w.length) : (wayTs w k).length = k := by
  unfold wayTs
  rw [List.length_map, List.length_take]
  omega
theorem wayTs_join (w : List (List De)) : ∀ k, k ≤ w.length → Lib.join ((wayTs w k).map (·.data.toList)) [32, 124, 32] = waysT w k := by
  intro k
  induction k with
  | zero => intro _; simp [wayTs, waysT, Lib.join_nil]
  | succ k ih =>
    intro hk
    rw [wayTs_next (by omega), List.map_append, List.map_cons, List.map_nil, join_snoc, ih (by omega), waysT_next, List.length_map, wayTs_len (by omega)]
    rfl

theorem joinN_any (v : Value) (base : Nat) (x : List De) (hx : x.length ≤ 6) (w : World) (h : OwnS w base v (needTs x x.length)) (hs : (needsT x x.length).length ≤ 52 * x.length) :
    Calls Tryz.prog 45 #[v, .string ⟨#[32, 43, 32]⟩] w fun e w' => e = .returned (.string ⟨(needsT x x.length).toArray⟩) ∧ Below w.heap.size w w' := by
  have e1 : (⟨#[32, 43, 32]⟩ : ByteArray).data.toList = [32, 43, 32] := rfl
  have hn := needTs_len (l := x) (Nat.le_refl _)
  have hj := needTs_join x x.length (Nat.le_refl _)
  have h1 := join_any v base (needTs x x.length) ⟨#[32, 43, 32]⟩ w h (by omega) (by rw [e1, hj]; omega)
  rw [e1, hj] at h1
  exact h1
theorem joinW_any (v : Value) (base : Nat) (l : List (List De)) (hl : l.length ≤ 6) (w : World) (h : OwnS w base v (wayTs l l.length)) (hs : (waysT l l.length).length ≤ 315 * l.length) :
    Calls Tryz.prog 45 #[v, .string ⟨#[32, 124, 32]⟩] w fun e w' => e = .returned (.string ⟨(waysT l l.length).toArray⟩) ∧ Below w.heap.size w w' := by
  have e1 : (⟨#[32, 124, 32]⟩ : ByteArray).data.toList = [32, 124, 32] := rfl
  have hn := wayTs_len (w := l) (Nat.le_refl _)
  have hj := wayTs_join l l.length (Nat.le_refl _)
  have h1 := join_any v base (wayTs l l.length) ⟨#[32, 124, 32]⟩ w h (by omega) (by rw [e1, hj]; omega)
  rw [e1, hj] at h1
  exact h1
/-- While rows of texts grow: what was made since the world w, and the row. -/
structure Sx (w : World) (v : Value) (ls : List ByteArray) (W : World) : Prop where
  below : Below w.heap.size w W
  own : OwnS W w.heap.size v ls
theorem Sx.next {w W W' : World} {v : Value} {ls : List ByteArray} (h : Sx w v ls W) (hb : Below W.heap.size W W') : Sx w v ls W' :=
  ⟨h.below.trans (hb.mono h.below.size), h.own.keep fun g hg => hb.block g (h.own.lt hg).2⟩
theorem Sx.app {w W W2 : World} {v v2 : Value} {ls ls2 : List ByteArray} (h : Sx w v ls W) (o : Obj) (h2 : OwnS W2 w.heap.size v2 ls2) (hg : (W.alloc o).grownBy W2 v.ownBlock) : Sx w v2 ls2 W2 := by
  have hb : Below W.heap.size W (W.alloc o) := (Below.refl _ _).alloc (Nat.le_refl _) _
  exact ⟨(h.below.trans (hb.mono h.below.size)).grown hg (Nat.le_trans h.below.size hb.size) (fun k e => (h.own.lt e).1), h2⟩
theorem sx_made (W : World) (m : Nat) (hm : m ≤ 6) : Sx W (.slice (some ⟨W.heap.size, 0, none⟩) 0 m) [] (W.alloc (mkS m)) :=
  ⟨(Below.refl _ _).alloc (Nat.le_refl _) _, World.ownsRow_made W _ m (Nat.le_refl _) (by unfold maxLen; omega) (size_madeCells _ _)⟩

set_option maxRecDepth 100000 in
set_option maxHeartbeats 4000000 in
theorem text_any (B : Option Addr) (cap : Nat) (l : List (List De)) (hl : l.length ≤ 6) (hs : ∀ x ∈ l, x.length ≤ 6 ∧ ∀ t ∈ x, Small t) (w : World) (hB : WAt w B l) (hw : Oke w) :
    Calls Tryz.prog 24 #[.slice B l.length cap] w fun e w' => e = .returned (.string ⟨(textW l).toArray⟩) ∧ Below w.heap.size w w' := by
  have HS := Lib.hid hs
  have HW : Hid (textW l = waysT l l.length) := Lib.hid rfl
  rw [HW.out]
  have HB := Lib.hid hB
  have HO := Lib.hid hw
  have HX0 := Lib.hid (sx_made w l.length hl)
  have hmk := run_mkS l.length hl w
  have HL6 := Lib.hid hl
  clear hB hw hs HW hl
  go_enter Tryz.func24, Tryz.ntmps24
  go_wp2_with fail
  generalize w.alloc (mkS l.length) = W0 at *
  generalize hv0 : Value.slice (some ⟨w.heap.size, 0, none⟩) 0 l.length = v0 at *
  go_loopw [3, 14] (fun v i wr => ∃ j : Nat, j ≤ l.length ∧ i = .int .i64 (j : Int) ∧ Hid (Sx w v (wayTs l j) wr)) (fun _ i _ => l.length - (intOf i).toNat)
  case atStart => exact ⟨0, Nat.zero_le _, rfl, HX0⟩
  case round =>
    obtain ⟨j, hj, rfl, HX⟩ := hrel
    obtain ⟨W1, rfl⟩ : ∃ W1, W1 = wr := ⟨_, rfl⟩
    by_cases hlt : j < l.length
    · obtain ⟨b, off, Aj, cj, rfl, hbl, hc0, hdj⟩ := HB.out j hlt
      have hc := (HX.out.below.cell (p := ⟨b, off + j, none⟩) hbl).trans hc0
      have hlt' : (j : Int) < (l.length : Int) := by omega
      have hj0 : (0 : Int) ≤ (j : Int) := by omega
      have hm := HS.out _ (getW_mem hlt)
      have HSj := Lib.hid hm.2
      have h6 := hm.1
      have HE := Lib.hid (wayTs_next hlt)
      have hwl := wayTs_len (w := l) hj
      generalize wayTs l j = ts at *
      generalize l.getD j [] = x at *
      have HD := Lib.hid hdj
      have HSb := Lib.hid (needsT_le HSj.out x.length (Nat.le_refl _))
      have HY0 := Lib.hid (sx_made W1 x.length h6)
      have hmk2 := run_mkS x.length h6 W1
      have hl6 := HL6.out
      clear hm hdj hc0 hbl
      go_wp2_with fail
      clear hc
      generalize W1.alloc (mkS x.length) = W3 at *
      generalize hv1 : Value.slice (some ⟨W1.heap.size, 0, none⟩) 0 x.length = v1 at *
      go_loopw [6, 23] (fun v i wr => ∃ k : Nat, k ≤ x.length ∧ i = .int .i64 (k : Int) ∧ Hid (Sx W1 v (needTs x k) wr)) (fun _ i _ => x.length - (intOf i).toNat)
      case atStart => exact ⟨0, Nat.zero_le _, rfl, HY0⟩
      case round =>
        obtain ⟨k, hk, rfl, HY⟩ := hrel
        obtain ⟨Ar, cr, hvr⟩ := HY.out.own.slice
        rw [needTs_len hk] at hvr
        have HB3 := Lib.hid (HX.out.below.trans (HY.out.below.mono HX.out.below.size))
        by_cases hlk : k < x.length
        · obtain ⟨b1, off1, rfl, hb1, c0, c1, c2⟩ := HD.out.next HB3.out k hlk
          have hlk' : (k : Int) < (x.length : Int) := by omega
          have hk0 : (0 : Int) ≤ (k : Int) := by omega
          have HEk := Lib.hid (needTs_next hlk)
          have hsm := HSj.out _ (getD_mem hlk)
          have hnl := needTs_len (l := x) hk
          generalize needTs x k = tk at *
          generalize x.getD k zero = n at *
          have HT := fun W hW => Lib.hid (textN_any n hsm W hW)
          have HO3 := Lib.hid (HO.out.next HB3.out)
          have hb4 := nbox_below wr n.1 n.2.1 n.2.2
          have HO4 := Lib.hid (HO3.out.next hb4)
          have HY4 := Lib.hid (HY.out.next hb4)
          have hbx := nbox_at wr n.1 n.2.1 n.2.2
          clear hb4 HO3 HY hsm HB3
          generalize needT n = tn at *
          obtain ⟨k0, o0, m0⟩ := n
          unfold needBox at HO4 HY4 hbx
          dsimp only at HT c0 c1 c2 HO4 HY4 hbx
          subst hvr
          go_upto_region 9 with fail
          clear c0 c1 c2
          generalize wr.alloc (.cells #[.int .i64 k0, .int .i64 o0, .int .i64 m0] 79) = W4 at *
          generalize wr.heap.size = g at *
          obtain ⟨c0, c1, c2⟩ := hbx
          go_wp2_with fail
          refine (HT _ HO4.out).out.mono ?_
          rintro e w5 ⟨rfl, hb5⟩
          have HY5 := Lib.hid (HY4.out.next hb5)
          have hown := HY5.out.own
          have hbase := HY5.out.below.size
          have Hap := fun (v2 : Value) (W2 : World) (h1 : OwnS W2 W1.heap.size v2 (tk ++ [⟨tn.toArray⟩])) (h2 : (w5.alloc (.cells #[.string ⟨tn.toArray⟩] 9)).grownBy W2 (Value.slice Ar k cr).ownBlock) => HY5.out.app (.cells #[.string ⟨tn.toArray⟩] 9) h1 h2
          clear hb5 HY4 HO4 HT c0 c1 c2
          go_wp2_with (
            at_builtin
            refine wpList_appS (by rfl) (.tmp 27) (.tmp 30) (by rfl) W1.heap.size 1 (.slice Ar k cr) tk ⟨tn.toArray⟩ (by rfl) hown (by rfl) (by omega) hbase ?_)
          intro v2 W6 hv2 hg2
          have HY6 := Lib.hid (Hap v2 W6 hv2 ⟨hg2.os, hg2.tape, hg2.output, hg2.size, hg2.block⟩)
          clear hown hv2 hg2 Hap HY5
          go_wp2
          go_roundw
          case rel => exact ⟨k + 1, by omega, by go_num, by rw [HEk.out]; exact HY6⟩
          case measure => simp [intOf]; omega
        · obtain rfl : k = x.length := by omega
          subst hvr
          have HX3 := Lib.hid (HX.out.next HY.out.below)
          obtain ⟨Aw, cw, hvw⟩ := HX3.out.own.slice
          rw [hwl] at hvw
          have HJn := Lib.hid (joinN_any _ _ x h6 wr HY.out.own HSb.out)
          generalize needsT x x.length = nt at *
          clear HY HB3 HSb
          subst hvw
          go_wp2_with fail
          refine HJn.out.mono ?_
          rintro e w5 ⟨rfl, hb5⟩
          have HX5 := Lib.hid (HX3.out.next hb5)
          have hown := HX5.out.own
          have hbase := HX5.out.below.size
          have Hap := fun (v2 : Value) (W2 : World) (h1 : OwnS W2 w.heap.size v2 (ts ++ [⟨nt.toArray⟩])) (h2 : (w5.alloc (.cells #[.string ⟨nt.toArray⟩] 9)).grownBy W2 (Value.slice Aw j cw).ownBlock) => HX5.out.app (.cells #[.string ⟨nt.toArray⟩] 9) h1 h2
          clear hb5 HX3 HJn HX
          go_wp2_with (
            at_builtin
            refine wpList_appS (by rfl) (.tmp 33) (.tmp 36) (by rfl) w.heap.size 1 (.slice Aw j cw) ts ⟨nt.toArray⟩ (by rfl) hown (by rfl) (by omega) hbase ?_)
          intro v2 W6 hv2 hg2
          have HX6 := Lib.hid (Hap v2 W6 hv2 ⟨hg2.os, hg2.tape, hg2.output, hg2.size, hg2.block⟩)
          clear hown hv2 hg2 Hap HX5
          go_wp2
          go_roundw
          case rel => exact ⟨j + 1, by omega, by go_num, by rw [HE.out]; exact HX6⟩
          case measure => simp [intOf]; omega
    · obtain rfl : j = l.length := by omega
      have HJn := Lib.hid (joinW_any _ _ l HL6.out W1 HX.out.own (waysT_le HS.out l.length (Nat.le_refl _)))
      go_wp2_with fail
      refine HJn.out.mono ?_
      rintro e w5 ⟨rfl, hb5⟩
      have HX5 := Lib.hid (HX.out.next hb5)
      clear hb5 HX HJn
      go_wp2
      go_ret
      exact ⟨rfl, HX5.out.below⟩
end Go.Proofs.YtnhoeboighndlaaGreatDoor.need
