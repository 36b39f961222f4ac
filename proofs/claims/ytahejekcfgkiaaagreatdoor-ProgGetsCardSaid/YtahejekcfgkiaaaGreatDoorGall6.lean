/-
  Texts of one claim in one file: JRefRead. Each has its own sentence, with its conditions.
-/
import Derived.Test.YtahejekcfgkiaaaGreatDoorGall3
import Derived.Test.YtahejekcfgkiaaaGreatDoorGall5
import Derived.RegionTactic
import Derived.BigRegion
/-
  The document's own answer of the instruction that is read behind what was read ahead. A text of at most two to the forty-seventh bytes.
-/
namespace Go.Proofs.YtahejekcfgkiaaaGreatDoor.inst
open Go.RowKit Go.ChangeShapes
open Go.Proofs.YtahejekcfgkiaaaGreatDoor.oper (ret_int ret_bool ret_string)
open Go.Proofs.YtahejekcfgkiaaaGreatDoor.octet (St rdByte rdNum rdInt Stands RefAt refByte_plain refInt_plain refNum_plain)
open Go.Proofs.YtahejekcfgkiaaaGreatDoor.word (Word)
set_option linter.unusedVariables false

/-- What is read of an instruction: its numbers, where the reader stands then, and the error. -/
structure Rd where
  o : Int
  a : Int
  b : Int
  s : St
  e : Nat
def readI (s : St) : Rd :=
  let b := rdByte s
  if b.2.err ≠ 0 then ⟨0, 0, 0, b.2, b.2.err⟩
  else if 51 < b.1 then ⟨0, 0, 0, b.2, 6⟩
  else
    let r := rdOpds (form b.1) b.2 (form b.1).length
    if r.2.err ≠ 0 then ⟨0, 0, 0, r.2, r.2.err⟩
    else if chk b.1 (r.1.getD 0 0) (r.1.getD 1 0) ≠ 0 then ⟨0, 0, 0, r.2, chk b.1 (r.1.getD 0 0) (r.1.getD 1 0)⟩
    else ⟨b.1, r.1.getD 0 0, r.1.getD 1 0, r.2, 0⟩

/-- What is read behind an operation's byte. -/
def readF (c : Nat) (s : St) : Rd :=
  let r := rdOpds (form c) s (form c).length
  if r.2.err ≠ 0 then ⟨0, 0, 0, r.2, r.2.err⟩
  else if chk c (r.1.getD 0 0) (r.1.getD 1 0) ≠ 0 then ⟨0, 0, 0, r.2, chk c (r.1.getD 0 0) (r.1.getD 1 0)⟩
  else ⟨c, r.1.getD 0 0, r.1.getD 1 0, r.2, 0⟩
theorem byte_lt (s : St) : (rdByte s).1 < 256 := by
  unfold rdByte
  split
  · omega
  · split
    · omega
    · exact UInt8.toNat_lt _
/-- What Read tells, and leaves. -/
def ReadPost (t : ByteArray) (r : Rd) (w : World) (e : Ending) (w' : World) : Prop :=
  ∃ k : Nat, e = .returned (.tuple #[.agg #[.int .i64 r.o, .int .i64 r.a, .int .i64 r.b], .agg #[.string t, .int .i64 (k : Int), .int .i64 (r.s.err : Int)], .int .i64 (r.e : Int)]) ∧ Stands t k r.s.err r.s ∧ Below w.heap.size w w'

/-- Three cells of a block, set one behind the other. -/
abbrev put3 (W : World) (b : Nat) (x y z : Value) : World := ((W.setCell ⟨b, 0, none⟩ x).setCell ⟨b, 1, none⟩ y).setCell ⟨b, 2, none⟩ z
theorem put3_same {W : World} {b : Nat} {u v m : Value} {T : TypeId} (h : W.heap[b]? = some (.cells #[u, v, m] T (0, 0))) (x y z : Value) : (put3 W b x y z).heap[b]? = some (.cells #[x, y, z] T (0, 0)) := by
  simp [World.setCell, Array.getElem?_modify, h]
theorem cells3 {W : World} {b : Nat} {x y z : Value} {T : TypeId} (h : W.heap[b]? = some (.cells #[x, y, z] T (0, 0))) :
    W.cell? ⟨b, 0, none⟩ = some x ∧ W.cell? ⟨b, 1, none⟩ = some y ∧ W.cell? ⟨b, 2, none⟩ = some z ∧ W.frozen? ⟨b, 0, none⟩ = false ∧ W.frozen? ⟨b, 1, none⟩ = false ∧ W.frozen? ⟨b, 2, none⟩ = false := by
  simp [World.cell?, World.frozen?, h]
theorem put3_far {W : World} {b c : Nat} (h : c ≠ b) (x y z : Value) : (put3 W b x y z).heap[c]? = W.heap[c]? :=
  (Below.heap_setCell _ ⟨b, 2, none⟩ _ c h).trans ((Below.heap_setCell _ ⟨b, 1, none⟩ _ c h).trans (Below.heap_setCell _ ⟨b, 0, none⟩ _ c h))
theorem put3_below {B b : Nat} {a W : World} (h : Below B a W) (hb : B ≤ b) (x y z : Value) : Below B a (put3 W b x y z) :=
  ((h.setCell (p := ⟨b, 0, none⟩) hb _).setCell (p := ⟨b, 1, none⟩) hb _).setCell (p := ⟨b, 2, none⟩) hb _

/-- In the midst of Read: both results are empty, the reader's block is told. -/
structure Mid (w : World) (t : ByteArray) (k err bx : Nat) (W : World) : Prop where
  below : Below w.heap.size w W
  b1 : W.heap[w.heap.size + 1]? = some (.cells #[.int .i64 0, .int .i64 0, .int .i64 0] 51 (0, 0))
  b2 : W.heap[w.heap.size + 1 + 1]? = some (.cells #[.string ⟨#[]⟩, .int .i64 0, .int .i64 0] 79 (0, 0))
  at' : RefAt W bx t k err
  hx : w.heap.size + 1 + 1 < bx
theorem Mid.drewN {w W : World} {t : ByteArray} {k err bx : Nat} (h : Mid w t k err bx W) (n : Nat) : Mid w t k err bx (W.drewN n) := ⟨below_drewN h.below n, h.b1, h.b2, h.at', h.hx⟩
theorem mid_new {w w1 : World} {t : ByteArray} {k k1 e1 err : Nat} (hb : Below (((w.alloc (.cells #[.string t, .int .i64 (k : Int), .int .i64 (err : Int)] 79)).alloc (.cells #[.int .i64 0, .int .i64 0, .int .i64 0] 51)).alloc (.cells #[.string ⟨#[]⟩, .int .i64 0, .int .i64 0] 79)).heap.size (((w.alloc (.cells #[.string t, .int .i64 (k : Int), .int .i64 (err : Int)] 79)).alloc (.cells #[.int .i64 0, .int .i64 0, .int .i64 0] 51)).alloc (.cells #[.string ⟨#[]⟩, .int .i64 0, .int .i64 0] 79)) w1) :
    Mid w t k1 e1 w1.heap.size (w1.alloc (.cells #[.string t, .int .i64 (k1 : Int), .int .i64 (e1 : Int)] 79)) := by
  have hs := hb.size
  simp only [World.size_alloc] at hs
  have e0 : ((w.alloc (.cells #[.string t, .int .i64 (k : Int), .int .i64 (err : Int)] 79)).alloc (.cells #[.int .i64 0, .int .i64 0, .int .i64 0] 51)).heap.size = w.heap.size + 1 + 1 := by simp only [World.size_alloc]
  refine ⟨((((Below.refl _ w).alloc (Nat.le_refl _) _).alloc (by simp) _).alloc (by simp; omega) _).trans ((hb.mono (by simp; omega)).alloc (by omega) _), ?_, ?_, heap_alloc_new w1 _, by omega⟩
  · refine (Below.heap_alloc _ _ _ (by omega)).trans ((hb.block _ (by simp)).trans ((Below.heap_alloc _ _ _ (by simp)).trans ?_))
    rw [← World.size_alloc w (.cells #[.string t, .int .i64 (k : Int), .int .i64 (err : Int)] 79)]
    exact heap_alloc_new _ _
  · refine (Below.heap_alloc _ _ _ (by omega)).trans ((hb.block _ (by simp)).trans ?_)
    rw [← e0]
    exact heap_alloc_new _ _
theorem Mid.lt {w W : World} {t : ByteArray} {k err bx : Nat} (h : Mid w t k err bx W) : bx < W.heap.size := lt_of_block h.at'
theorem Mid.next {w W W' : World} {t : ByteArray} {k err bx : Nat} (h : Mid w t k err bx W) (hb : Below W.heap.size W W') : Mid w t k err bx W' := by
  have h1 := h.lt
  have h2 := h.hx
  exact ⟨h.below.trans (hb.mono h.below.size), (hb.block _ (by omega)).trans h.b1, (hb.block _ (by omega)).trans h.b2, (hb.block _ h1).trans h.at', h2⟩
/-- A list of two numbers that nobody else sees. -/
def RowIs (W : World) (gl : Nat) (V : List Int) : Prop := ∀ i, i < 2 → W.cell? ⟨gl, i, none⟩ = some (.int .i64 (V.getD i 0)) ∧ W.frozen? ⟨gl, i, none⟩ = false
theorem RowIs.lt {W : World} {gl : Nat} {V : List Int} (h : RowIs W gl V) : gl < W.heap.size := by
  rcases Nat.lt_or_ge gl W.heap.size with h1 | h1
  · exact h1
  · have := (h 0 (by omega)).1
    simp [World.cell?, Array.getElem?_eq_none h1] at this
/-- In the midst of the operands: what was read of them, and where the reader stands. -/
structure Lp (w : World) (t : ByteArray) (bx gl : Nat) (V : List Int) (S : St) (W : World) : Prop where
  row : RowIs W gl V
  mid : ∃ k, Mid w t k S.err bx W ∧ Stands t k S.err S
  ne : gl ≠ bx
  hg : w.heap.size + 1 + 1 < gl
theorem Lp.next {w W W' : World} {t : ByteArray} {bx gl : Nat} {V : List Int} {S : St} (h : Lp w t bx gl V S W) (hb : Below W.heap.size W W') : Lp w t bx gl V S W' := by
  have hl := h.row.lt
  obtain ⟨k, hM, hS⟩ := h.mid
  exact ⟨fun i hi => ⟨(hb.cell (p := ⟨gl, i, none⟩) hl).trans (h.row i hi).1, (hb.frozen (p := ⟨gl, i, none⟩) hl).trans (h.row i hi).2⟩, ⟨k, hM.next hb, hS⟩, h.ne, h.hg⟩
theorem lp_new {w w2 : World} {t : ByteArray} {k bx : Nat} {s : St} {f : List UInt8} (h : Mid w t k s.err bx w2) (hS : Stands t k s.err s) : Lp w t bx w2.heap.size (rdOpds f s 0).1 (rdOpds f s 0).2 (w2.alloc (.cells #[.int .i64 0, .int .i64 0] 3)) := by
  have hb : Below w2.heap.size w2 (w2.alloc (.cells #[.int .i64 0, .int .i64 0] 3)) := (Below.refl _ _).alloc (Nat.le_refl _) _
  have hn : (w2.alloc (.cells #[.int .i64 0, .int .i64 0] 3)).heap[w2.heap.size]? = some (.cells #[.int .i64 0, .int .i64 0] 3) := heap_alloc_new w2 _
  have h1 := h.lt
  have h2 := h.hx
  refine ⟨fun i hi => ?_, ⟨k, h.next hb, hS⟩, by omega, by omega⟩
  unfold World.cell? World.frozen?
  rw [hn]
  match i, hi with
  | 0, _ => exact ⟨rfl, rfl⟩
  | 1, _ => exact ⟨rfl, rfl⟩
theorem getD_snoc {V : List Int} {n : Int} {j i : Nat} (h : V.length = j) : (V ++ [n]).getD i 0 = if i = j then n else V.getD i 0 := by
  by_cases hi : i = j
  · rw [if_pos hi]; exact getD_last (h.trans hi.symm)
  · rw [if_neg hi]
    rcases Nat.lt_or_ge i V.length with h1 | h1
    · exact getD_left h1
    · rw [List.getD_eq_getElem?_getD, List.getD_eq_getElem?_getD, List.getElem?_eq_none (by simp; omega), List.getElem?_eq_none h1]
theorem row_set {W : World} {gl : Nat} {V : List Int} (h : RowIs W gl V) {j : Nat} (hj : j < 2) (hlen : V.length = j) (n : Int) : RowIs (W.setCell ⟨gl, j, none⟩ (.int .i64 n)) gl (V ++ [n]) := by
  intro i hi
  rw [getD_snoc hlen, World.frozen?_setCell]
  refine ⟨?_, (h i hi).2⟩
  by_cases hij : i = j
  · subst hij
    rw [if_pos rfl]
    exact World.cell?_setCell_same _ _ _ (h i hi).1
  · rw [if_neg hij]
    refine (World.cell?_setCell_other _ _ _ _ (fun e => hij ?_)).trans (h i hi).1
    exact (congrArg Addr.off e).symm
theorem row_far {W W' : World} {gl : Nat} {V : List Int} (h : RowIs W gl V) (hb : W'.heap[gl]? = W.heap[gl]?) : RowIs W' gl V := fun i hi =>
  ⟨(World.cell?_of_block (a := ⟨gl, i, none⟩) hb).trans (h i hi).1, (World.frozen?_of_block (a := ⟨gl, i, none⟩) hb).trans (h i hi).2⟩
theorem lp_put {w W : World} {t : ByteArray} {bx gl : Nat} {V : List Int} {S S2 : St} (h : Lp w t bx gl V S W) {j k2 : Nat} (hj : j < 2) (hlen : V.length = j) (n : Int) (hS : Stands t k2 S2.err S2) :
    Lp w t bx gl (V ++ [n]) S2 (put3 (W.setCell ⟨gl, j, none⟩ (.int .i64 n)) bx (.string t) (.int .i64 (k2 : Int)) (.int .i64 (S2.err : Int))) ∧ Lp w t bx gl (V ++ [n]) S2 ((put3 W bx (.string t) (.int .i64 (k2 : Int)) (.int .i64 (S2.err : Int))).setCell ⟨gl, j, none⟩ (.int .i64 n)) := by
  obtain ⟨k, hM, _⟩ := h.mid
  have hne := h.ne
  have hg := h.hg
  have hx := hM.hx
  have f0 : ∀ (U : World) (b : Nat), b ≠ gl → (U.setCell ⟨gl, j, none⟩ (.int .i64 n)).heap[b]? = U.heap[b]? := fun U b hb => Below.heap_setCell U ⟨gl, j, none⟩ _ b hb
  have hb0 := hM.below
  constructor
  · refine ⟨row_far (row_set h.row hj hlen n) (put3_far hne _ _ _), ⟨k2, ⟨put3_below (hb0.setCell (p := ⟨gl, j, none⟩) (by simp; omega) _) (by omega) _ _ _, ?_, ?_, ?_, hx⟩, hS⟩, hne, hg⟩
    · exact (put3_far (by omega) _ _ _).trans ((f0 _ _ (by omega)).trans hM.b1)
    · exact (put3_far (by omega) _ _ _).trans ((f0 _ _ (by omega)).trans hM.b2)
    · exact put3_same ((f0 _ _ (fun e => hne e.symm)).trans hM.at') _ _ _
  · refine ⟨row_set (row_far h.row (put3_far hne _ _ _)) hj hlen n, ⟨k2, ⟨(put3_below hb0 (by omega) _ _ _).setCell (p := ⟨gl, j, none⟩) (by simp; omega) _, ?_, ?_, ?_, hx⟩, hS⟩, hne, hg⟩
    · exact (f0 _ _ (by omega)).trans ((put3_far (by omega) _ _ _).trans hM.b1)
    · exact (f0 _ _ (by omega)).trans ((put3_far (by omega) _ _ _).trans hM.b2)
    · exact (f0 _ _ (fun e => hne e.symm)).trans (put3_same hM.at' _ _ _)
theorem Lp.drewN {w W : World} {t : ByteArray} {bx gl : Nat} {V : List Int} {S : St} (h : Lp w t bx gl V S W) (n : Nat) : Lp w t bx gl V S (W.drewN n) := by
  obtain ⟨k, hM, hS⟩ := h.mid
  exact ⟨h.row, ⟨k, hM.drewN n, hS⟩, h.ne, h.hg⟩
/-- At the end of Read: both results stand. -/
structure Ends (w : World) (t : ByteArray) (o a b : Int) (k err : Nat) (W : World) : Prop where
  below : Below w.heap.size w W
  b1 : W.heap[w.heap.size + 1]? = some (.cells #[.int .i64 o, .int .i64 a, .int .i64 b] 51 (0, 0))
  b2 : W.heap[w.heap.size + 1 + 1]? = some (.cells #[.string t, .int .i64 (k : Int), .int .i64 (err : Int)] 79 (0, 0))
theorem Ends.drewN {w W : World} {t : ByteArray} {o a b : Int} {k err : Nat} (h : Ends w t o a b k err W) (n : Nat) : Ends w t o a b k err (W.drewN n) := ⟨below_drewN h.below n, h.b1, h.b2⟩
theorem ends_ret {w Z : World} {t : ByteArray} {o a b : Int} {k err e : Nat} {act : Act} {r : Rd} (h2 : act.tmps[2]?.getD undef = .pointer (some ⟨w.heap.size + 1, 0, none⟩)) (h3 : act.tmps[3]?.getD undef = .pointer (some ⟨w.heap.size + 1 + 1, 0, none⟩)) (h4 : act.tmps[4]?.getD undef = .int .i64 (e : Int)) (hd : act.defers = [])
    (hE : Ends w t o a b k err Z) (hS : Stands t k err r.s) (ho : r.o = o) (ha : r.a = a) (hb : r.b = b) (hs : r.s.err = err) (he : r.e = e) : bodyPost Tryz.prog Tryz.f62 (ReadPost t r w) .ret act Z := by
  obtain ⟨x0, x1, x2, _, _, _⟩ := cells3 hE.b1
  obtain ⟨y0, y1, y2, _, _, _⟩ := cells3 hE.b2
  subst ho ha hb hs he
  refine bodyPost_ret (v := .tuple #[.agg #[.int .i64 r.o, .int .i64 r.a, .int .i64 r.b], .agg #[.string t, .int .i64 (k : Int), .int .i64 (r.s.err : Int)], .int .i64 (r.e : Int)]) ?_ hd ⟨k, rfl, hS, hE.below⟩
  simp [results, Tryz.results62, go_sem, h2, h3, h4, x0, x1, x2, y0, y1, y2]
theorem ends_ret' {w Z : World} {t : ByteArray} {k err : Nat} {act : Act} {r : Rd} (r' : Rd) (hr : r = r') (h2 : act.tmps[2]?.getD undef = .pointer (some ⟨w.heap.size + 1, 0, none⟩)) (h3 : act.tmps[3]?.getD undef = .pointer (some ⟨w.heap.size + 1 + 1, 0, none⟩)) (h4 : act.tmps[4]?.getD undef = .int .i64 (r'.e : Int)) (hd : act.defers = [])
    (hE : Ends w t r'.o r'.a r'.b k err Z) (hS : Stands t k err r'.s) (hs : r'.s.err = err) : bodyPost Tryz.prog Tryz.f62 (ReadPost t r w) .ret act Z := by
  subst hr
  exact ends_ret h2 h3 h4 hd hE hS rfl rfl rfl hs rfl
theorem Mid.endsA {w W : World} {t : ByteArray} {k err bx : Nat} (h : Mid w t k err bx W) (o a b : Int) : Ends w t o a b k err (put3 (put3 W (w.heap.size + 1) (.int .i64 o) (.int .i64 a) (.int .i64 b)) (w.heap.size + 1 + 1) (.string t) (.int .i64 (k : Int)) (.int .i64 (err : Int))) :=
  ⟨put3_below (put3_below h.below (by omega) _ _ _) (by omega) _ _ _, (put3_far (by omega) _ _ _).trans (put3_same h.b1 _ _ _), put3_same ((put3_far (by omega) _ _ _).trans h.b2) _ _ _⟩
theorem Mid.endsB {w W : World} {t : ByteArray} {k err bx : Nat} (h : Mid w t k err bx W) (o a b : Int) : Ends w t o a b k err (put3 (put3 W (w.heap.size + 1 + 1) (.string t) (.int .i64 (k : Int)) (.int .i64 (err : Int))) (w.heap.size + 1) (.int .i64 o) (.int .i64 a) (.int .i64 b)) :=
  ⟨put3_below (put3_below h.below (by omega) _ _ _) (by omega) _ _ _, put3_same ((put3_far (by omega) _ _ _).trans h.b1) _ _ _, (put3_far (by omega) _ _ _).trans (put3_same h.b2 _ _ _)⟩

set_option maxRecDepth 100000 in
set_option maxHeartbeats 4000000 in
theorem refRead_any (w : World) (t : ByteArray) (k err : Nat) (s : St) (ht : t.size ≤ 140737489403904) (hst : Stands t k err s) :
    Calls Tryz.prog 62 #[.agg #[.string t, .int .i64 (k : Int), .int .i64 (err : Int)]] w (ReadPost t (readI s) w) := by
  have HB := fun W => Lib.hid (refByte_plain W t k err s ht hst)
  clear hst
  go_enter Tryz.func62, Tryz.ntmps62
  go_wp2_with fail
  refine (HB _).out.mono ?_
  rintro e w1 ⟨k1, rfl, hs1, hb1⟩
  have HS1 := Lib.hid hs1
  have HB1 := Lib.hid hb1
  clear hs1 hb1 HB
  by_cases he : (rdByte s).2.err = 0
  · have hc256 := byte_lt s
    have he' : (((rdByte s).2.err : Int) != 0) = false := by simp [he]
    have HZ : Hid (readI s = if 51 < (rdByte s).1 then ⟨0, 0, 0, (rdByte s).2, 6⟩ else readF (rdByte s).1 (rdByte s).2) := Lib.hid (by unfold readI readF; dsimp only; rw [if_neg (by simp [he])])
    have HE0 := Lib.hid he
    clear he
    generalize (rdByte s).2 = s1 at *
    generalize (rdByte s).1 = c at *
    go_upto_region 4 with fail
    have HM : Mid w t k1 s1.err w1.heap.size (w1.alloc (.cells #[.string t, .int .i64 (k1 : Int), .int .i64 (s1.err : Int)] 79)) := mid_new HB1.out
    generalize w1.alloc (.cells #[.string t, .int .i64 (k1 : Int), .int .i64 (s1.err : Int)] 79) = W at *
    by_cases h51 : 51 < c
    · have HK := fun V => Lib.hid (Go.Proofs.YtahejekcfgkiaaaGreatDoor.oper.refKnown_no (c : Int) (by omega) V)
      obtain ⟨x0, x1, x2, xf0, xf1, xf2⟩ := cells3 HM.b1
      obtain ⟨y0, y1, y2, yf0, yf1, yf2⟩ := cells3 HM.b2
      obtain ⟨z0, z1, z2, _, _, _⟩ := cells3 HM.at'
      have n1 : w1.heap.size ≠ w.heap.size + 1 := by have := HM.hx; omega
      have n2 : w1.heap.size ≠ w.heap.size + 1 + 1 := by have := HM.hx; omega
      have n3 : w.heap.size + 1 ≠ w.heap.size + 1 + 1 := by omega
      have n4 : w.heap.size + 1 + 1 ≠ w.heap.size + 1 := by omega
      replace HM := Lib.hid HM
      have HR : Hid (readI s = ⟨0, 0, 0, s1, 6⟩) := Lib.hid (by rw [HZ.out, if_pos h51])
      clear HZ
      go_wp2_with fail
      refine (HK _).out.mono ?_
      rintro e w2 ⟨rfl, rfl⟩
      go_upto_region 5 with fail
      go_region
      go_wp2_with fail
      exact ends_ret' ⟨0, 0, 0, s1, 6⟩ HR.out rfl rfl rfl rfl ((HM.out.endsA 0 0 0).drewN 1) HS1.out rfl
    · have HK := fun V => Lib.hid (Go.Proofs.YtahejekcfgkiaaaGreatDoor.oper.refKnown_yes (c : Int) (by omega) (by omega) V)
      have HR : Hid (readI s = readF c s1) := Lib.hid (by rw [HZ.out, if_neg h51])
      clear HZ
      go_wp2_with fail
      refine (HK _).out.mono ?_
      rintro e w2 ⟨rfl, rfl⟩
      go_wp2_with fail
      refine (Go.Proofs.YtahejekcfgkiaaaGreatDoor.oper.refForm_any (c : Int) _).mono ?_
      rintro e w2 ⟨rfl, hb2⟩
      have HM2 := Lib.hid (HM.next hb2)
      clear HM hb2
      go_wp2_with fail
      have hy2 : (Go.Proofs.YtahejekcfgkiaaaGreatDoor.oper.txt Go.Proofs.YtahejekcfgkiaaaGreatDoor.oper.fm (c : Int)).size ≤ 2 := by have := form_le (c : Int); unfold form at this; rwa [← size_list] at this
      have HL0 : Hid (Lp w t w1.heap.size w2.heap.size (rdOpds (form (c : Int)) s1 0).1 (rdOpds (form (c : Int)) s1 0).2 (w2.alloc (.cells #[.int .i64 0, .int .i64 0] 3))) := Lib.hid (lp_new HM2.out HS1.out)
      unfold form at HL0
      have HRF : Hid (readF c s1 = _) := Lib.hid (readF.eq_1 c s1)
      unfold form at HRF
      clear HM2 HS1 HB1
      generalize Go.Proofs.YtahejekcfgkiaaaGreatDoor.oper.txt Go.Proofs.YtahejekcfgkiaaaGreatDoor.oper.fm (c : Int) = y at *
      generalize w2.alloc (.cells #[.int .i64 0, .int .i64 0] 3) = W2 at *
      generalize w1.heap.size = bx at *
      generalize w2.heap.size = gl at *
      clear HK
      go_loopw [9] (fun i wr => ∃ j : Nat, j ≤ y.size ∧ i = .int .i64 (j : Int) ∧ Hid ((rdOpds y.data.toList s1 j).2.err = 0) ∧ Hid (Lp w t bx gl (rdOpds y.data.toList s1 j).1 (rdOpds y.data.toList s1 j).2 wr)) (fun i _ => y.size - (intOf i).toNat)
      case atStart => exact ⟨0, Nat.zero_le _, rfl, HE0, HL0⟩
      case round =>
        obtain ⟨j, hj, rfl, HE, HL⟩ := hrel
        by_cases hlt : j < y.size
        · have hj2 : (j : Int) < 2 := by omega
          have hyj : y[j] = y.data.toList.getD j 0 := letter_at hlt
          have hlen := rdOpds_length y.data.toList s1 j
          have HN1 : Hid (rdOpds y.data.toList s1 (j + 1) = ((rdOpds y.data.toList s1 j).1 ++ [(rdOpd (y.data.toList.getD j 0) (rdOpds y.data.toList s1 j).2).1], (rdOpd (y.data.toList.getD j 0) (rdOpds y.data.toList s1 j).2).2)) := Lib.hid rfl
          generalize y.data.toList.getD j 0 = q at *
          generalize hP : rdOpds y.data.toList s1 j = P at *
          obtain ⟨V, S⟩ := P
          have HP := Lib.hid hP
          clear hP
          dsimp only at HE HL HN1 hlen
          obtain ⟨kk, hM, hS⟩ := HL.out.mid
          by_cases hc : q = 110
          · subst hc
            have hI := fun U => Lib.hid (refInt_plain U t kk S.err S ht hS)
            obtain ⟨z0, z1, z2, zf0, zf1, zf2⟩ := cells3 hM.at'
            have HQ : Hid (rdOpd 110 S = rdInt S) := Lib.hid rfl
            have hSe : S.err = 0 := HE.out
            rw [hSe] at z2 hI
            clear hM hS hSe
            go_wp2_with fail
            refine (hI _).out.mono ?_
            rintro e w3 ⟨k2, rfl, hs3, hb3⟩
            have HS3 := Lib.hid hs3
            have HL3 := Lib.hid (HL.out.next hb3)
            clear hs3 hb3 hI
            go_wp2_with fail
            have hbL : Below w3.heap.size w3 (w3.alloc (.cells #[.string t, .int .i64 (k2 : Int), .int .i64 ((rdInt S).2.err : Int)] 79)) := (Below.refl _ _).alloc (Nat.le_refl _) _
            have hL4 := HL3.out.next hbL
            have hR4 : (w3.alloc (.cells #[.string t, .int .i64 (k2 : Int), .int .i64 ((rdInt S).2.err : Int)] 79)).heap[w3.heap.size]? = some (.cells #[.string t, .int .i64 (k2 : Int), .int .i64 ((rdInt S).2.err : Int)] 79 (0, 0)) := heap_alloc_new w3 _
            obtain ⟨z0, z1, z2, _, _, _⟩ := cells3 hR4
            obtain ⟨r0, rf⟩ := hL4.row j (by omega)
            obtain ⟨k4, hM4, _⟩ := hL4.mid
            obtain ⟨x0, x1, x2, xf0, xf1, xf2⟩ := cells3 hM4.at'
            have m1 : gl < w3.heap.size := HL3.out.row.lt
            have m2 : bx < w3.heap.size := by obtain ⟨_, h, _⟩ := HL3.out.mid; exact h.lt
            have m3 := hL4.ne
            have n1 : w3.heap.size ≠ gl := by omega
            have n2 : w3.heap.size ≠ bx := by omega
            have n3 : bx ≠ gl := fun e => m3 e.symm
            have HL4 := Lib.hid hL4
            clear hL4 hM4 hR4 hbL
            generalize w3.alloc (.cells #[.string t, .int .i64 (k2 : Int), .int .i64 ((rdInt S).2.err : Int)] 79) = W4 at *
            generalize w3.heap.size = by' at *
            generalize rdInt S = N at *
            obtain ⟨n, S2⟩ := N
            dsimp only at HS3 HQ z2 ⊢
            have HZ : Hid (Lp w t bx gl (V ++ [n]) S2 ((((W4.setCell ⟨gl, j, none⟩ (.int .i64 n)).setCell ⟨bx, 0, none⟩ (.string t)).setCell ⟨bx, 1, none⟩ (.int .i64 (k2 : Int))).setCell ⟨bx, 2, none⟩ (.int .i64 (S2.err : Int))).drew) := Lib.hid ((lp_put HL4.out (by omega) hlen n HS3.out).1.drewN 1)
            have HN2 : Hid (rdOpds y.data.toList s1 (j + 1) = (V ++ [n], S2)) := Lib.hid (by rw [HN1.out, HQ.out])
            by_cases hse : S2.err = 0
            · have hse' : ((S2.err : Int) != 0) = false := by simp [hse]
              have HSE := Lib.hid hse
              clear hse
              go_region
              go_wp2_with fail
              go_roundw
              case rel => exact ⟨j + 1, by omega, by go_num, by rw [HN2.out]; exact HSE, by rw [HN2.out]; exact HZ⟩
              case measure => simp [intOf]; omega
            · have hse' : ((S2.err : Int) != 0) = true := by simpa using hse
              have hfin : (rdOpds y.data.toList s1 y.data.toList.length).2 = S2 := by
                have := rdOpds_err (f := y.data.toList) (s := s1) (j := j + 1) (by rw [HN2.out]; exact hse) y.data.toList.length (by rw [← size_list]; omega)
                rw [this, HN2.out]
              have HRR : Hid (readI s = ⟨0, 0, 0, S2, S2.err⟩) := Lib.hid (by rw [HR.out, HRF.out, hfin, if_pos hse])
              clear hse hfin
              go_region
              go_wp2_with fail
              generalize ((((W4.setCell ⟨gl, j, none⟩ (.int .i64 n)).setCell ⟨bx, 0, none⟩ (.string t)).setCell ⟨bx, 1, none⟩ (.int .i64 (k2 : Int))).setCell ⟨bx, 2, none⟩ (.int .i64 (S2.err : Int))).drew = Z at *
              clear z0 z1 z2 x0 x1 x2 xf0 xf1 xf2 r0 rf
              obtain ⟨k5, hM5, hS5⟩ := HZ.out.mid
              obtain ⟨x0, x1, x2, xf0, xf1, xf2⟩ := cells3 hM5.b1
              obtain ⟨y0, y1, y2, yf0, yf1, yf2⟩ := cells3 hM5.b2
              obtain ⟨z0, z1, z2, _, _, _⟩ := cells3 hM5.at'
              have p1 : bx ≠ w.heap.size + 1 := by have := hM5.hx; omega
              have p2 : bx ≠ w.heap.size + 1 + 1 := by have := hM5.hx; omega
              have p3 : w.heap.size + 1 ≠ w.heap.size + 1 + 1 := by omega
              have p4 : w.heap.size + 1 + 1 ≠ w.heap.size + 1 := by omega
              have HM5 := Lib.hid hM5
              have HS5 := Lib.hid hS5
              clear hM5 hS5
              go_region
              go_wp2_with fail
              exact ends_ret' ⟨0, 0, 0, S2, S2.err⟩ HRR.out rfl rfl rfl rfl ((HM5.out.endsA 0 0 0).drewN 1) HS5.out rfl
          · have hI := fun U => Lib.hid (refNum_plain U t kk S.err S ht hS)
            obtain ⟨z0, z1, z2, zf0, zf1, zf2⟩ := cells3 hM.at'
            have hnl := Go.Proofs.YtahejekcfgkiaaaGreatDoor.octet.rdNum_lt S
            have hc1 : ((q.toNat : Int) == 110) = false := (u8_ne hc).1
            have HQ : Hid (rdOpd q S = (min ((rdNum S).1 : Int) 2147483648, (rdNum S).2)) := Lib.hid (by unfold rdOpd; rw [if_neg hc]; congr 1; omega)
            have hSe : S.err = 0 := HE.out
            rw [hSe] at z2 hI
            clear hM hS hSe
            go_wp2_with fail
            refine (hI _).out.mono ?_
            rintro e w3 ⟨k2, rfl, hs3, hb3⟩
            have HS3 := Lib.hid hs3
            have HL3 := Lib.hid (HL.out.next hb3)
            clear hs3 hb3 hI
            go_wp2_with fail
            have hbL : Below w3.heap.size w3 (w3.alloc (.cells #[.string t, .int .i64 (k2 : Int), .int .i64 ((rdNum S).2.err : Int)] 79)) := (Below.refl _ _).alloc (Nat.le_refl _) _
            have hL4 := HL3.out.next hbL
            have hR4 : (w3.alloc (.cells #[.string t, .int .i64 (k2 : Int), .int .i64 ((rdNum S).2.err : Int)] 79)).heap[w3.heap.size]? = some (.cells #[.string t, .int .i64 (k2 : Int), .int .i64 ((rdNum S).2.err : Int)] 79 (0, 0)) := heap_alloc_new w3 _
            obtain ⟨z0, z1, z2, _, _, _⟩ := cells3 hR4
            obtain ⟨r0, rf⟩ := hL4.row j (by omega)
            obtain ⟨k4, hM4, _⟩ := hL4.mid
            obtain ⟨x0, x1, x2, xf0, xf1, xf2⟩ := cells3 hM4.at'
            have m1 : gl < w3.heap.size := HL3.out.row.lt
            have m2 : bx < w3.heap.size := by obtain ⟨_, h, _⟩ := HL3.out.mid; exact h.lt
            have m3 := hL4.ne
            have n1 : w3.heap.size ≠ gl := by omega
            have n2 : w3.heap.size ≠ bx := by omega
            have n3 : bx ≠ gl := fun e => m3 e.symm
            have HL4 := Lib.hid hL4
            clear hL4 hM4 hR4 hbL
            generalize w3.alloc (.cells #[.string t, .int .i64 (k2 : Int), .int .i64 ((rdNum S).2.err : Int)] 79) = W4 at *
            generalize w3.heap.size = by' at *
            generalize rdNum S = N at *
            obtain ⟨n, S2⟩ := N
            dsimp only at HS3 HQ z2 hnl ⊢
            have HZ : Hid (Lp w t bx gl (V ++ [(min (n : Int) 2147483648)]) S2 ((((W4.setCell ⟨gl, j, none⟩ (.int .i64 (min (n : Int) 2147483648))).setCell ⟨bx, 0, none⟩ (.string t)).setCell ⟨bx, 1, none⟩ (.int .i64 (k2 : Int))).setCell ⟨bx, 2, none⟩ (.int .i64 (S2.err : Int))).drew) := Lib.hid ((lp_put HL4.out (by omega) hlen (min (n : Int) 2147483648) HS3.out).1.drewN 1)
            have HN2 : Hid (rdOpds y.data.toList s1 (j + 1) = (V ++ [(min (n : Int) 2147483648)], S2)) := Lib.hid (by rw [HN1.out, HQ.out])
            by_cases hse : S2.err = 0
            · have hse' : ((S2.err : Int) != 0) = false := by simp [hse]
              have HSE := Lib.hid hse
              clear hse
              go_region
              go_wp2_with fail
              go_roundw
              case rel => exact ⟨j + 1, by omega, by go_num, by rw [HN2.out]; exact HSE, by rw [HN2.out]; exact HZ⟩
              case measure => simp [intOf]; omega
            · have hse' : ((S2.err : Int) != 0) = true := by simpa using hse
              have hfin : (rdOpds y.data.toList s1 y.data.toList.length).2 = S2 := by
                have := rdOpds_err (f := y.data.toList) (s := s1) (j := j + 1) (by rw [HN2.out]; exact hse) y.data.toList.length (by rw [← size_list]; omega)
                rw [this, HN2.out]
              have HRR : Hid (readI s = ⟨0, 0, 0, S2, S2.err⟩) := Lib.hid (by rw [HR.out, HRF.out, hfin, if_pos hse])
              clear hse hfin
              go_region
              go_wp2_with fail
              generalize ((((W4.setCell ⟨gl, j, none⟩ (.int .i64 (min (n : Int) 2147483648))).setCell ⟨bx, 0, none⟩ (.string t)).setCell ⟨bx, 1, none⟩ (.int .i64 (k2 : Int))).setCell ⟨bx, 2, none⟩ (.int .i64 (S2.err : Int))).drew = Z at *
              clear z0 z1 z2 x0 x1 x2 xf0 xf1 xf2 r0 rf
              obtain ⟨k5, hM5, hS5⟩ := HZ.out.mid
              obtain ⟨x0, x1, x2, xf0, xf1, xf2⟩ := cells3 hM5.b1
              obtain ⟨y0, y1, y2, yf0, yf1, yf2⟩ := cells3 hM5.b2
              obtain ⟨z0, z1, z2, _, _, _⟩ := cells3 hM5.at'
              have p1 : bx ≠ w.heap.size + 1 := by have := hM5.hx; omega
              have p2 : bx ≠ w.heap.size + 1 + 1 := by have := hM5.hx; omega
              have p3 : w.heap.size + 1 ≠ w.heap.size + 1 + 1 := by omega
              have p4 : w.heap.size + 1 + 1 ≠ w.heap.size + 1 := by omega
              have HM5 := Lib.hid hM5
              have HS5 := Lib.hid hS5
              clear hM5 hS5
              go_region
              go_wp2_with fail
              exact ends_ret' ⟨0, 0, 0, S2, S2.err⟩ HRR.out rfl rfl rfl rfl ((HM5.out.endsA 0 0 0).drewN 1) HS5.out rfl
        · obtain rfl : j = y.size := by omega
          have HRF2 : Hid (readI s = if chk c ((rdOpds y.data.toList s1 y.size).1.getD 0 0) ((rdOpds y.data.toList s1 y.size).1.getD 1 0) ≠ 0 then ⟨0, 0, 0, (rdOpds y.data.toList s1 y.size).2, chk c ((rdOpds y.data.toList s1 y.size).1.getD 0 0) ((rdOpds y.data.toList s1 y.size).1.getD 1 0)⟩ else ⟨c, (rdOpds y.data.toList s1 y.size).1.getD 0 0, (rdOpds y.data.toList s1 y.size).1.getD 1 0, (rdOpds y.data.toList s1 y.size).2, 0⟩) := Lib.hid (by
            rw [HR.out, HRF.out, ← size_list, if_neg (by simp [HE.out])])
          clear HRF
          generalize (rdOpds y.data.toList s1 y.size).1 = V at *
          generalize (rdOpds y.data.toList s1 y.size).2 = S at *
          obtain ⟨r0, rf0⟩ := HL.out.row 0 (by omega)
          obtain ⟨r1, rf1⟩ := HL.out.row 1 (by omega)
          generalize V.getD 0 0 = a at *
          generalize V.getD 1 0 = b at *
          have hlt2 : gl < wr.heap.size := HL.out.row.lt
          have hgn : wr.heap.size ≠ gl := by omega
          have HC := fun U => Lib.hid (refCheck_any (c : Int) a b U)
          go_wp2_with fail
          go_region
          go_wp2_with fail
          refine (HC _).out.mono ?_
          rintro e w5 ⟨rfl, hb5⟩
          have hbA : Below wr.heap.size wr (wr.alloc (.cells #[.int .i64 (c : Int), .int .i64 a, .int .i64 b] 51)) := (Below.refl _ _).alloc (Nat.le_refl _) _
          have hL5 := ((HL.out.next hbA).drewN 1).next hb5
          have hO : w5.heap[wr.heap.size]? = some (.cells #[.int .i64 (c : Int), .int .i64 a, .int .i64 b] 51 (0, 0)) := (hb5.block _ (by simp)).trans (heap_alloc_new wr _)
          clear hbA r0 rf0 r1 rf1 HC
          by_cases hz : chk c a b = 0
          · have HRR : Hid (readI s = ⟨c, a, b, S, 0⟩) := Lib.hid (by rw [HRF2.out, if_neg (by simp [hz])])
            have hz' : ((chk c a b : Int) != 0) = false := by simp [hz]
            clear HRF2 hz
            obtain ⟨k5, hM5, hS5⟩ := hL5.mid
            obtain ⟨x0, x1, x2, xf0, xf1, xf2⟩ := cells3 hM5.b1
            obtain ⟨y0, y1, y2, yf0, yf1, yf2⟩ := cells3 hM5.b2
            obtain ⟨z0, z1, z2, _, _, _⟩ := cells3 hM5.at'
            obtain ⟨o0, o1, o2, _, _, _⟩ := cells3 hO
            have p1 : bx ≠ w.heap.size + 1 := by have := hM5.hx; omega
            have p2 : bx ≠ w.heap.size + 1 + 1 := by have := hM5.hx; omega
            have p3 : w.heap.size + 1 ≠ w.heap.size + 1 + 1 := by omega
            have p4 : w.heap.size + 1 + 1 ≠ w.heap.size + 1 := by omega
            have p5 : wr.heap.size ≠ w.heap.size + 1 := by have := hM5.hx; have := HL.out.hg; omega
            have p6 : wr.heap.size ≠ w.heap.size + 1 + 1 := by have := hM5.hx; have := HL.out.hg; omega
            have HM5 := Lib.hid hM5
            have HS5 := Lib.hid hS5
            clear hM5 hS5 hL5 hO hb5
            generalize wr.heap.size = bo at *
            go_wp2_with fail
            go_region
            go_wp2_with fail
            exact ends_ret' ⟨c, a, b, S, 0⟩ HRR.out rfl rfl rfl rfl ((HM5.out.endsA c a b).drewN 1) HS5.out rfl
          · have HRR : Hid (readI s = ⟨0, 0, 0, S, chk c a b⟩) := Lib.hid (by rw [HRF2.out, if_pos hz])
            have hz' : ((chk c a b : Int) != 0) = true := by simpa using hz
            clear HRF2 hz
            generalize chk c a b = ce at *
            obtain ⟨k5, hM5, hS5⟩ := hL5.mid
            obtain ⟨x0, x1, x2, xf0, xf1, xf2⟩ := cells3 hM5.b1
            obtain ⟨y0, y1, y2, yf0, yf1, yf2⟩ := cells3 hM5.b2
            obtain ⟨z0, z1, z2, _, _, _⟩ := cells3 hM5.at'
            obtain ⟨o0, o1, o2, _, _, _⟩ := cells3 hO
            have p1 : bx ≠ w.heap.size + 1 := by have := hM5.hx; omega
            have p2 : bx ≠ w.heap.size + 1 + 1 := by have := hM5.hx; omega
            have p3 : w.heap.size + 1 ≠ w.heap.size + 1 + 1 := by omega
            have p4 : w.heap.size + 1 + 1 ≠ w.heap.size + 1 := by omega
            have p5 : wr.heap.size ≠ w.heap.size + 1 := by have := hM5.hx; have := HL.out.hg; omega
            have p6 : wr.heap.size ≠ w.heap.size + 1 + 1 := by have := hM5.hx; have := HL.out.hg; omega
            have HM5 := Lib.hid hM5
            have HS5 := Lib.hid hS5
            clear hM5 hS5 hL5 hO hb5
            generalize wr.heap.size = bo at *
            go_wp2_with fail
            go_region
            go_wp2_with fail
            exact ends_ret' ⟨0, 0, 0, S, ce⟩ HRR.out rfl rfl rfl rfl ((HM5.out.endsA 0 0 0).drewN 1) HS5.out rfl
  · have HR : Hid (readI s = ⟨0, 0, 0, (rdByte s).2, (rdByte s).2.err⟩) := Lib.hid (by unfold readI; dsimp only; rw [if_pos he])
    generalize (rdByte s).2 = s1 at *
    generalize (rdByte s).1 = c at *
    have he' : ((s1.err : Int) != 0) = true := by simpa using he
    clear he
    go_upto_region 3 with fail
    have HM : Mid w t k1 s1.err w1.heap.size (w1.alloc (.cells #[.string t, .int .i64 (k1 : Int), .int .i64 (s1.err : Int)] 79)) := mid_new HB1.out
    generalize w1.alloc (.cells #[.string t, .int .i64 (k1 : Int), .int .i64 (s1.err : Int)] 79) = W at *
    obtain ⟨x0, x1, x2, xf0, xf1, xf2⟩ := cells3 HM.b1
    obtain ⟨y0, y1, y2, yf0, yf1, yf2⟩ := cells3 HM.b2
    obtain ⟨z0, z1, z2, _, _, _⟩ := cells3 HM.at'
    have n1 : w1.heap.size ≠ w.heap.size + 1 := by have := HM.hx; omega
    have n2 : w1.heap.size ≠ w.heap.size + 1 + 1 := by have := HM.hx; omega
    have n3 : w.heap.size + 1 ≠ w.heap.size + 1 + 1 := by omega
    have n4 : w.heap.size + 1 + 1 ≠ w.heap.size + 1 := by omega
    replace HM := Lib.hid HM
    go_region
    go_wp2_with fail
    exact ends_ret' ⟨0, 0, 0, s1, s1.err⟩ HR.out rfl rfl rfl rfl ((HM.out.endsA 0 0 0).drewN 1) HS1.out rfl
end Go.Proofs.YtahejekcfgkiaaaGreatDoor.inst
