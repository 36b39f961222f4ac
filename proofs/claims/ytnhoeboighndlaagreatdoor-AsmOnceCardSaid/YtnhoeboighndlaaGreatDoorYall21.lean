/-
  Texts of one claim in one file: DRefGet, YRefObj, YPieces, YRefAny, YLive, GOnce. Each has its own sentence, with its conditions.
-/
import Derived.Test.YtnhoeboighndlaaGreatDoorYall20
import Derived.Test.YtnhoeboighndlaaGreatDoorYall4
import Derived.Test.YtnhoeboighndlaaGreatDoorYall15
import Derived.Deep.RegionLaw
import Derived.Test.YtnhoeboighndlaaGreatDoorYall5
import Derived.Test.YtnhoeboighndlaaGreatDoorYall18
import Derived.Test.YtnhoeboighndlaaGreatDoorYall3
/-
  The document's own answer of the objects with which bytes begin, and the names of kinds. A text of at most two to the forty-seventh bytes.
-/
namespace Go.Proofs.YtnhoeboighndlaaGreatDoor.objs
open Go.RowKit Go.ChangeShapes
open Go.Proofs.YtnhoeboighndlaaGreatDoor.octet (St rdByte rdNum rdInt Stands)
set_option linter.unusedVariables false

theorem size_list (y : ByteArray) : y.size = y.data.toList.length := by rw [Array.length_toList]; rfl
/-- What a reading of bytes tells. -/
def GotPost (g : List De × Nat × Nat) (w : World) (e : Ending) (w' : World) : Prop :=
  ∃ v, e = .returned (.tuple #[v, .int .i64 (g.2.1 : Int), .int .i64 (g.2.2 : Int)]) ∧ (∃ A cap, v = .slice A g.1.length cap ∧ DAt w' A g.1) ∧ Below w.heap.size w w'
theorem got_read (l : List UInt8) : getL l = if (readL ⟨l, 0⟩).2.2 ≠ 0 then ([], 0, (readL ⟨l, 0⟩).2.2) else ((readL ⟨l, 0⟩).1, l.length - (readL ⟨l, 0⟩).2.1.rest.length, 0) := rfl

/-- The names, as a list that a call has made. -/
def NamesPost (w : World) (e : Ending) (w' : World) : Prop := ∃ g, e = .returned (.slice (some ⟨g, 0, none⟩) 8 8) ∧ (∀ j, j < 8 → w'.cell? ⟨g, j, none⟩ = some (.string (names.getD j ⟨#[]⟩))) ∧ Below w.heap.size w w'
theorem refNames8_any (w : World) : Calls Tryz.prog 56 #[] w (NamesPost w) := by
  have HB : Hid (Below w.heap.size w (w.alloc (.cells (names.map Value.string).toArray 9))) := Lib.hid ((Below.refl _ w).alloc (Nat.le_refl _) _)
  have HC : Hid (∀ j, j < 8 → (w.alloc (.cells (names.map Value.string).toArray 9)).cell? ⟨w.heap.size, j, none⟩ = some (.string (names.getD j ⟨#[]⟩))) := Lib.hid (by
    intro j hj
    unfold World.cell?
    rw [heap_alloc_new w _]
    rcases (by omega : j = 0 ∨ j = 1 ∨ j = 2 ∨ j = 3 ∨ j = 4 ∨ j = 5 ∨ j = 6 ∨ j = 7) with rfl | rfl | rfl | rfl | rfl | rfl | rfl | rfl <;> rfl)
  unfold NamesPost
  go_enter Tryz.func56, Tryz.ntmps56
  go_wp2
  exact bodyPost_ret (v := .slice (some ⟨w.heap.size, 0, none⟩) 8 8) (by simp [results, Tryz.results56, go_sem]) rfl ⟨_, rfl, HC.out, HB.out⟩
end Go.Proofs.YtnhoeboighndlaaGreatDoor.objs

/-
  The document's own line of an object. Conditions: a kind that there is, and numbers of at most ten digits.
-/
namespace Go.Proofs.YtnhoeboighndlaaGreatDoor.pgm.asm
open Go.RowKit Go.ChangeShapes
open Go.Proofs.YtnhoeboighndlaaGreatDoor.pgm
open Go.Proofs.YtnhoeboighndlaaGreatDoor.octet (mk_append size_mk)
open Go.Proofs.YtnhoeboighndlaaGreatDoor.need (digs intT intT_le refInt9_any)
open Go.Proofs.YtnhoeboighndlaaGreatDoor.oper (ret_string)
open Go.Proofs.YtnhoeboighndlaaGreatDoor.objs (De names nameK refNames8_any below_drewN)
set_option linter.unusedVariables false

def decBox (k a b : Int) : Obj := .cells #[.int .i64 k, .int .i64 a, .int .i64 b] 44
theorem kind_short : ∀ k : Nat, k < 8 → (names.getD k ⟨#[]⟩).data.toList.length ≤ 5 := by decide +kernel
/-- An object's line. -/
def objL (k a b : Int) : List UInt8 := wO ++ objT (k, a, b)
theorem objL_none {k a b : Int} {y : List UInt8} (hy : (nameK k).data.toList = y) (h : cntO k = 0) : objL k a b = wO ++ y := by
  unfold objL objT
  rw [show ((k, a, b) : De).1 = k from rfl, hy, h]
  simp [opsL, numsT]
theorem objL_one {k a b : Int} {y : List UInt8} (hy : (nameK k).data.toList = y) (h : cntO k = 1) : objL k a b = wO ++ y ++ [32] ++ intT a := by
  unfold objL objT
  rw [show ((k, a, b) : De).1 = k from rfl, hy, h]
  simp [opsL, numsT]
theorem objL_two {k a b : Int} {y : List UInt8} (hy : (nameK k).data.toList = y) (h : cntO k = 2) : objL k a b = wO ++ y ++ [32] ++ intT a ++ [32] ++ intT b := by
  unfold objL objT
  rw [show ((k, a, b) : De).1 = k from rfl, hy, h]
  simp [opsL, numsT]
/-- The object stands at a place of its own. -/
structure Box3 (w : World) (k a b : Int) (W : World) : Prop where
  below : Below w.heap.size w W
  size : w.heap.size < W.heap.size
  c0 : W.cell? ⟨w.heap.size, 0, none⟩ = some (.int .i64 k)
  c1 : W.cell? ⟨w.heap.size, 1, none⟩ = some (.int .i64 a)
  c2 : W.cell? ⟨w.heap.size, 2, none⟩ = some (.int .i64 b)
theorem Box3.next {w W W' : World} {k a b : Int} (h : Box3 w k a b W) (hb : Below W.heap.size W W') : Box3 w k a b W' :=
  ⟨h.below.trans (hb.mono h.below.size), Nat.lt_of_lt_of_le h.size hb.size, (hb.cell (p := ⟨w.heap.size, 0, none⟩) h.size).trans h.c0, (hb.cell (p := ⟨w.heap.size, 1, none⟩) h.size).trans h.c1, (hb.cell (p := ⟨w.heap.size, 2, none⟩) h.size).trans h.c2⟩
theorem Box3.drewN {w W : World} {k a b : Int} (h : Box3 w k a b W) (n : Nat) : Box3 w k a b (W.drewN n) := ⟨below_drewN h.below n, by simpa using h.size, by simpa using h.c0, by simpa using h.c1, by simpa using h.c2⟩
theorem box3_new (w : World) (k a b : Int) : Box3 w k a b (w.alloc (decBox k a b)) := by
  have h0 : (w.alloc (decBox k a b)).heap[w.heap.size]? = some (decBox k a b) := heap_alloc_new w _
  refine ⟨(Below.refl _ w).alloc (Nat.le_refl _) _, by rw [World.size_alloc]; omega, ?_, ?_, ?_⟩
  all_goals
    unfold World.cell?
    rw [h0]
    rfl

set_option maxRecDepth 100000 in
set_option maxHeartbeats 8000000 in
theorem refObject13_any (k a b : Int) (hk : 1 ≤ k ∧ k ≤ 7) (ha : Sm a) (hb : Sm b) (w : World) : Calls Tryz.prog 31 #[.agg #[.int .i64 k, .int .i64 a, .int .i64 b]] w fun e w' => e = .returned (.string ⟨(objL k a b).toArray⟩) ∧ Below w.heap.size w w' := by
  obtain ⟨y, hy⟩ : ∃ y, y = (nameK k).data.toList := ⟨_, rfl⟩
  have hn : names.getD k.toNat ⟨#[]⟩ = ⟨y.toArray⟩ := by
    rw [hy]
    unfold nameK
    rw [if_pos ⟨by omega, by omega⟩]
  have hyl : y.length ≤ 5 := by
    have := kind_short k.toNat (by omega)
    rw [hn] at this
    simpa using this
  have H0 := Lib.hid (fun h => objL_none (k := k) (a := a) (b := b) hy.symm h)
  have H1 := Lib.hid (fun h => objL_one (k := k) (a := a) (b := b) hy.symm h)
  have H2 := Lib.hid (fun h => objL_two (k := k) (a := a) (b := b) hy.symm h)
  have HA := fun W => Lib.hid (refInt9_any a (by unfold Sm at ha; omega) W)
  have HB := fun W => Lib.hid (refInt9_any b (by unfold Sm at hb; omega) W)
  have hal := intT_le (n := a) (by unfold Sm at ha; omega)
  have hbl := intT_le (n := b) (by unfold Sm at hb; omega)
  have HX0 := Lib.hid (box3_new w k a b)
  have hs1 := size_mk y
  have hs2 := size_mk (intT a)
  have hs3 := size_mk (intT b)
  have hs4 : (ByteArray.mk #[32]).size = 1 := rfl
  have hs5 : (ByteArray.mk #[111, 98, 106, 101, 99, 116, 32]).size = 7 := rfl
  have e5 : (ByteArray.mk #[111, 98, 106, 101, 99, 116, 32]) ++ (ByteArray.mk y.toArray) = ⟨(wO ++ y).toArray⟩ := mk_append wO y
  have hs6 := size_mk (wO ++ y)
  have hs7 := size_mk (wO ++ y ++ [32] ++ intT a)
  have hw7 : wO.length = 7 := rfl
  have hs8 : (wO ++ y).length = 7 + y.length := by rw [List.length_append]; omega
  have hq : ¬ 9223372036854775807 < 7 + y.length := by omega
  have HF : ∀ W : World, Box3 w k a b W →
      Calls Tryz.prog 56 #[] W fun e w' => ∃ g, e = .returned (.slice (some ⟨g, 0, none⟩) 8 8) ∧ w'.cell? ⟨g, k.toNat, none⟩ = some (.string ⟨y.toArray⟩) ∧ w'.cell? ⟨w.heap.size, 0, none⟩ = some (.int .i64 k) ∧ Hid (Box3 w k a b w') := by
    intro W hW
    refine (refNames8_any W).mono ?_
    rintro e w' ⟨g, rfl, hc, hb⟩
    have hx := hW.next hb
    exact ⟨g, rfl, by rw [hc k.toNat (by omega), hn], hx.c0, Lib.hid hx⟩
  have hcell := HX0.out.c0
  unfold decBox at HX0 hcell
  clear hn hy ha hb
  rcases (by omega : k = 1 ∨ k = 2 ∨ k = 3 ∨ k = 4 ∨ k = 5 ∨ k = 6 ∨ k = 7) with rfl | rfl | rfl | rfl | rfl | rfl | rfl
  all_goals
    simp only [Int.reduceToNat] at HF
    go_enter Tryz.func31, Tryz.ntmps31
    go_upto_region 1 with fail
    generalize w.alloc (.cells #[.int .i64 _, .int .i64 a, .int .i64 b] 44) = W0 at *
    go_cut [3] (fun t wx => t = .string ⟨(wO ++ y).toArray⟩ ∧ Hid (Box3 w _ a b wx))
    case first =>
      go_region_law (go_simp; go_at_call 56; refine (HF _ (HX0.out.drewN 1)).mono ?_; rintro e w1 ⟨g, rfl, dn, d0, HX⟩)
      all_goals
        go_wp2_with fail
        go_meet
        exact ⟨rfl, HX⟩
    case rest =>
      obtain ⟨rfl, HX1⟩ := hcut
      have d0 := HX1.out.c0
      have d1 := HX1.out.c1
      have d2 := HX1.out.c2
      clear hcell HF HX0
      first
        | (have HE := Lib.hid (H2.out (by decide))
           clear H0 H1 H2
           go_wp2_with fail
           refine (HA _).out.mono ?_
           rintro e w2 ⟨rfl, hb2⟩
           have HX2 := Lib.hid (HX1.out.next hb2)
           have f0 := HX2.out.c0
           have f1 := HX2.out.c1
           have f2 := HX2.out.c2
           clear hb2
           go_wp2_with fail
           refine (HB _).out.mono ?_
           rintro e w3 ⟨rfl, hb3⟩
           have HX3 := Lib.hid (HX2.out.next hb3).below
           clear hb3
           go_wp2_with fail
           go_ret
           exact ⟨ret_string (by rw [HE.out, ← mk_append, ← mk_append, ← mk_append, ← mk_append]; rfl), HX3.out⟩)
        | (have HE := Lib.hid (H1.out (by decide))
           clear H0 H1 H2
           go_wp2_with fail
           refine (HA _).out.mono ?_
           rintro e w2 ⟨rfl, hb2⟩
           have HX2 := Lib.hid (HX1.out.next hb2)
           have f0 := HX2.out.c0
           clear hb2
           go_wp2_with fail
           go_ret
           exact ⟨ret_string (by rw [HE.out, ← mk_append, ← mk_append]; rfl), HX2.out.below⟩)
        | (have HE := Lib.hid (H0.out (by decide))
           clear H0 H1 H2
           have HX2 := Lib.hid HX1.out.below
           go_wp2_with fail
           go_ret
           exact ⟨ret_string (by rw [HE.out]), HX2.out⟩)
end Go.Proofs.YtnhoeboighndlaaGreatDoor.pgm.asm

/-
  A program's text, piece by piece: an object, a wait, a function, an instruction more; and how long it is at most. Plain mathematics. No condition.
-/
namespace Go.Proofs.YtnhoeboighndlaaGreatDoor.pgm.asm
open Go.Proofs.YtnhoeboighndlaaGreatDoor.pgm
open Go.Proofs.YtnhoeboighndlaaGreatDoor.need (digs intT intT_le word word_le tailT needT)
open Go.Proofs.YtnhoeboighndlaaGreatDoor.objs (De zero names nameK)
open Go.Proofs.YtnhoeboighndlaaGreatDoor.oper (nm txt txt_at nat_of)
open Go.Proofs.YtnhoeboighndlaaGreatDoor.inst (form)
set_option linter.unusedVariables false

theorem take_next {α : Type} {l : List α} {j : Nat} {d : α} (h : j < l.length) : l.take (j + 1) = l.take j ++ [l.getD j d] := by
  rw [List.take_add_one, List.getElem?_eq_getElem h, List.getD_eq_getElem?_getD, List.getElem?_eq_getElem h]
  rfl
/-- The text of the first of a list, each one line. -/
def firsts {α : Type} (f : α → Item) (l : List α) (j : Nat) : List UInt8 := joinI ((l.take j).map f)
theorem firsts_zero {α : Type} (f : α → Item) (l : List α) : firsts f l 0 = [] := by simp [firsts, joinI]
theorem firsts_next {α : Type} {f : α → Item} {l : List α} {j : Nat} {d : α} (h : j < l.length) : firsts f l (j + 1) = firsts f l j ++ itemL (f (l.getD j d)) ++ [10] := by
  unfold firsts
  rw [take_next (d := d) h, List.map_append, joinI_app]
  simp [joinI]
theorem firsts_all {α : Type} (f : α → Item) (l : List α) : firsts f l l.length = joinI (l.map f) := by
  unfold firsts
  rw [List.take_of_length_le (Nat.le_refl _)]
/-- The text of the first functions. -/
def funcsT (l : List Fn) (j : Nat) : List UInt8 := joinI ((l.take j).map fnI).flatten
theorem funcsT_zero (l : List Fn) : funcsT l 0 = [] := by simp [funcsT, joinI]
theorem funcsT_next {l : List Fn} {j : Nat} (h : j < l.length) : funcsT l (j + 1) = funcsT l j ++ itemL (.f (l.getD j Fn.zero).ar (l.getD j Fn.zero).lo) ++ [10] ++ firsts .i (l.getD j Fn.zero).co (l.getD j Fn.zero).co.length := by
  unfold funcsT
  rw [take_next (d := Fn.zero) h, List.map_append, List.flatten_append, joinI_app, firsts_all]
  simp [joinI, fnI]
theorem textP_pieces (p : Pg) : textP p = firsts .o p.ds p.ds.length ++ firsts .w p.ws p.ws.length ++ funcsT p.fs p.fs.length := by
  unfold textP itemsP funcsT
  rw [joinI_app, joinI_app, firsts_all, firsts_all, List.take_of_length_le (Nat.le_refl p.fs.length), List.append_assoc]
theorem head_line (a l : Int) : itemL (.f a l) = [102, 117, 110, 99, 32] ++ intT a ++ [32] ++ intT l := by
  simp [itemL, wF, numsT]

/-- Ten digits and a sign at most. -/
theorem sm_le {v : Int} (h : Sm v) : (intT v).length ≤ 21 := intT_le (by unfold Sm at h; omega)
theorem opsL_le (n : Nat) (a b : Int) (ha : Sm a) (hb : Sm b) : (numsT (opsL n a b)).length ≤ 44 := by
  have h1 := sm_le ha
  have h2 := sm_le hb
  unfold opsL
  split
  · simp [numsT]
  · split
    · simp [numsT]; omega
    · simp [numsT]; omega
theorem need_le {n : De} (h : SaysN n) : (needT n).length ≤ 49 := by
  have h1 := sm_le h.2.1
  have h2 := sm_le h.2.2.1
  have h3 := word_le n.1
  unfold needT tailT
  split
  · simp only [List.length_append, List.length_cons, List.length_nil]; omega
  · simp only [List.length_append, List.length_cons, List.length_nil]; omega
theorem needsL_le : ∀ l : List De, (∀ n ∈ l, SaysN n) → (needsL l).length ≤ 52 * l.length := by
  intro l
  induction l with
  | nil => intro _; simp [needsL]
  | cons n l ih =>
    intro h
    have h1 := need_le (h n (List.mem_cons_self ..))
    have h2 := ih fun x hx => h x (List.mem_cons_of_mem _ hx)
    cases l with
    | nil => simp [needsL]; omega
    | cons m l =>
      have e : needsL (n :: m :: l) = needT n ++ ([32, 43, 32] ++ needsL (m :: l)) := rfl
      rw [e]
      simp only [List.length_append, List.length_cons, List.length_nil] at h2 ⊢
      omega
theorem waysL_le : ∀ l : List (List De), (∀ y ∈ l, y.length ≤ 4 ∧ ∀ n ∈ y, SaysN n) → (waysL l).length ≤ 211 * l.length := by
  intro l
  induction l with
  | nil => intro _; simp [waysL]
  | cons y l ih =>
    intro h
    obtain ⟨h0, h1⟩ := h y (List.mem_cons_self ..)
    have h1 := needsL_le y h1
    have h2 := ih fun x hx => h x (List.mem_cons_of_mem _ hx)
    cases l with
    | nil => simp [waysL]; omega
    | cons m l =>
      have e : waysL (y :: m :: l) = needsL y ++ ([32, 124, 32] ++ waysL (m :: l)) := rfl
      rw [e]
      simp only [List.length_append, List.length_cons, List.length_nil] at h2 ⊢
      omega
theorem ins_le {x : De} (h : Says x) : (lineT x).length ≤ 54 := by
  obtain ⟨h0, h1, h2, _⟩ := h
  obtain ⟨k, hk, e⟩ := nat_of h0
  have h3 := opsL_le (form x.1).length x.2.1 x.2.2 h1 h2
  have h4 := name_short k hk
  rw [← txt_at hk, ← e] at h4
  unfold lineT
  rw [List.length_append]
  omega
theorem obj_le {d : De} (h : SaysO d) : (objT d).length ≤ 49 := by
  obtain ⟨⟨h0, h7⟩, h1, h2, _⟩ := h
  have h3 := opsL_le (cntO d.1) d.2.1 d.2.2 h1 h2
  have h4 := kind_short d.1.toNat (by omega)
  unfold objT nameK
  rw [if_pos ⟨by omega, by omega⟩, List.length_append]
  omega
/-- How long the first lines are at most. -/
theorem firsts_le {α : Type} {f : α → Item} {l : List α} {c : Nat} (h : ∀ x ∈ l, (itemL (f x)).length + 1 ≤ c) : ∀ j, j ≤ l.length → (firsts f l j).length ≤ c * j := by
  intro j
  induction j with
  | zero => intro _; rw [firsts_zero]; simp
  | succ j ih =>
    intro hj
    have hlt : j < l.length := by omega
    have h1 := ih (by omega)
    have h2 := h _ (List.getElem_mem hlt)
    rw [firsts_next (d := l[j]) hlt, getD_at hlt, Nat.mul_succ]
    simp only [List.length_append, List.length_cons, List.length_nil]
    omega
theorem funcsT_le {l : List Fn} (h : ∀ f ∈ l, f.co.length ≤ 200 ∧ Sm f.ar ∧ Sm f.lo ∧ ∀ x ∈ f.co, Says x) : ∀ j, j ≤ l.length → (funcsT l j).length ≤ 11500 * j := by
  intro j
  induction j with
  | zero => intro _; rw [funcsT_zero]; simp
  | succ j ih =>
    intro hj
    have hlt : j < l.length := by omega
    have h1 := ih (by omega)
    obtain ⟨h2, h3, h4, h5⟩ := h _ (List.getElem_mem hlt)
    have h6 := firsts_le (f := Item.i) (l := l[j].co) (c := 57) (fun x hx => by
      have := ins_le (h5 x hx)
      simp only [itemL, List.length_append, List.length_cons, List.length_nil]
      omega) l[j].co.length (Nat.le_refl _)
    have h7 := sm_le h3
    have h8 := sm_le h4
    rw [funcsT_next hlt, getD_at hlt, head_line, Nat.mul_succ]
    simp only [List.length_append, List.length_cons, List.length_nil]
    omega
end Go.Proofs.YtnhoeboighndlaaGreatDoor.pgm.asm

/-
  The document's own line of any instruction. No condition.
-/
namespace Go.Proofs.YtnhoeboighndlaaGreatDoor.pgm.asm
open Go.RowKit Go.ChangeShapes
open Go.Proofs.YtnhoeboighndlaaGreatDoor.pgm
open Go.Proofs.YtnhoeboighndlaaGreatDoor.inst (chk refCheck_any)
open Go.Proofs.YtnhoeboighndlaaGreatDoor.oper (ret_string)
set_option linter.unusedVariables false

/-- The line of any instruction: an empty text, if it may not be. -/
def lineA (o a b : Int) : List UInt8 := if chk o a b = 0 then lineT (o, a, b) else []
/-- An instruction in a block of its own. -/
def iBox (o a b : Int) : Obj := .cells #[.int .i64 o, .int .i64 a, .int .i64 b] 28

set_option maxRecDepth 100000 in
set_option maxHeartbeats 4000000 in
theorem refLine_any (o a b : Int) (w : World) : Calls Tryz.prog 10 #[.agg #[.int .i64 o, .int .i64 a, .int .i64 b]] w fun e w' => e = .returned (.string ⟨(lineA o a b).toArray⟩) ∧ Below w.heap.size w w' := by
  have HC := fun W => Lib.hid (refCheck_any o a b W)
  have HB0 : Hid (Below w.heap.size w (w.alloc (iBox o a b))) := Lib.hid ((Below.refl _ w).alloc (Nat.le_refl _) _)
  have hsz : (w.alloc (iBox o a b)).heap.size = w.heap.size + 1 := World.size_alloc w _
  have hblk : (w.alloc (iBox o a b)).heap[w.heap.size]? = some (iBox o a b) := heap_alloc_new w _
  have HD : Hid (∀ W', Below (w.alloc (iBox o a b)).heap.size (w.alloc (iBox o a b)) W' → W'.cell? ⟨w.heap.size, 0, none⟩ = some (.int .i64 o) ∧ W'.cell? ⟨w.heap.size, 1, none⟩ = some (.int .i64 a) ∧ W'.cell? ⟨w.heap.size, 2, none⟩ = some (.int .i64 b) ∧ Below w.heap.size w W') := Lib.hid fun W' h => by
    have hb := (h.block w.heap.size (by omega)).trans hblk
    refine ⟨?_, ?_, ?_, HB0.out.trans (h.mono (by omega))⟩
    all_goals
      unfold World.cell?
      rw [hb]
      rfl
  have HR := fun (hc : chk o a b = 0) W => Lib.hid (refLine13_any o a b (says_ins (x := (o, a, b)) hc).1 (says_ins (x := (o, a, b)) hc).2.1 (says_ins (x := (o, a, b)) hc).2.2.1 W)
  obtain ⟨k0, k1, k2, _⟩ := HD.out _ (Below.refl _ _)
  unfold iBox at HD hsz k0 k1 k2
  clear hblk HB0
  go_enter Tryz.func10, Tryz.ntmps10
  by_cases hc : chk o a b = 0
  · have HE : Hid (lineA o a b = lineT (o, a, b)) := Lib.hid (by unfold lineA; rw [if_pos hc])
    have HRl := HR hc
    clear HR
    rw [HE.out]
    go_wp2_with fail
    refine (HC _).out.mono ?_
    rintro e w1 ⟨rfl, hb1⟩
    obtain ⟨d0, d1, d2, hb⟩ := HD.out _ hb1
    have HB := Lib.hid hb
    have HS := Lib.hid hb.size
    have e0 : (((chk o a b : Nat) : Int) != 0) = false := by simp [hc]
    clear hb hb1 hc
    go_wp2_with fail
    refine (HRl _).out.mono ?_
    rintro e w2 ⟨rfl, hb2⟩
    have HB2 := Lib.hid (HB.out.trans (hb2.mono HS.out))
    clear hb2
    go_wp2_with fail
    go_ret
    exact ⟨rfl, HB2.out⟩
  · have HE : Hid (lineA o a b = []) := Lib.hid (by unfold lineA; rw [if_neg hc])
    clear HR
    rw [HE.out]
    go_wp2_with fail
    refine (HC _).out.mono ?_
    rintro e w1 ⟨rfl, hb1⟩
    obtain ⟨_, _, _, hb⟩ := HD.out _ hb1
    have HB := Lib.hid hb
    have e0 : (((chk o a b : Nat) : Int) != 0) = true := by simpa using hc
    clear hb hb1 hc
    go_wp2_with fail
    go_ret
    exact ⟨rfl, HB.out⟩
end Go.Proofs.YtnhoeboighndlaaGreatDoor.pgm.asm

/-
  Two texts and a line that the statements look at: what is read of them. Plain mathematics. No condition.
-/
namespace Go.Proofs.YtnhoeboighndlaaGreatDoor.pgm.asm
open Go.Proofs.YtnhoeboighndlaaGreatDoor.pgm
open Go.Proofs.YtnhoeboighndlaaGreatDoor.need (digs digs_small intT word tailT needT)
open Go.Proofs.YtnhoeboighndlaaGreatDoor.objs (De zero names nameK)
open Go.Proofs.YtnhoeboighndlaaGreatDoor.oper (nm txt)
open Go.Proofs.YtnhoeboighndlaaGreatDoor.inst (form)
set_option linter.unusedVariables false

theorem int_0 : intT 0 = [48] := by
  unfold intT
  rw [if_neg (by decide), show (0 : Int).toNat = 0 from rfl, digs_small (by decide)]
  rfl
theorem int_1 : intT 1 = [49] := by
  unfold intT
  rw [if_neg (by decide), show (1 : Int).toNat = 1 from rfl, digs_small (by decide)]
  rfl
def liveP : Pg := ⟨[(1, 0, 0)], [[[(1, 0, 0)]]], [⟨0, 0, [(26, 0, 0), (21, 0, 0)]⟩]⟩
def liveT : List UInt8 := [111, 98, 106, 101, 99, 116, 32, 109, 117, 116, 101, 120, 10, 119, 97, 105, 116, 32, 108, 111, 99, 107, 32, 48, 10, 102, 117, 110, 99, 32, 48, 32, 48, 10, 32, 32, 119, 97, 105, 116, 32, 48, 10, 32, 32, 114, 101, 116, 10]
theorem live_obj : itemL (.o (1, 0, 0)) = wO ++ [109, 117, 116, 101, 120] := by
  have e : (nameK 1).data.toList = [109, 117, 116, 101, 120] := by decide +kernel
  have e2 : cntO 1 = 0 := by decide
  simp [itemL, objT, e, e2, opsL, numsT]
theorem live_wait : itemL (.w [[(1, 0, 0)]]) = wW ++ [108, 111, 99, 107, 32, 48] := by
  have e : word 1 = [108, 111, 99, 107] := by decide
  have e2 : tailT 1 0 = [] := by decide +kernel
  simp [itemL, waysL, needsL, needT, e, e2, int_0]
theorem live_ins : itemL (.i (26, 0, 0)) = [32, 32, 119, 97, 105, 116, 32, 48] := by
  have e : (txt nm 26).data.toList = [119, 97, 105, 116] := by decide +kernel
  have e2 : (form 26).length = 1 := by decide +kernel
  simp [itemL, lineT, e, e2, opsL, numsT, int_0]
theorem live_ret : itemL (.i (21, 0, 0)) = [32, 32, 114, 101, 116] := by
  have e : (txt nm 21).data.toList = [114, 101, 116] := by decide +kernel
  have e2 : (form 21).length = 0 := by decide +kernel
  simp [itemL, lineT, e, e2, opsL, numsT]
theorem live_head : itemL (.f 0 0) = wF ++ [32, 48, 32, 48] := by
  simp [itemL, numsT, int_0]
theorem live_text : textP liveP = liveT := by
  show joinI [.o (1, 0, 0), .w [[(1, 0, 0)]], .f 0 0, .i (26, 0, 0), .i (21, 0, 0)] = _
  simp only [joinI, live_obj, live_wait, live_ins, live_ret, live_head]
  rfl
theorem live_chk : chkP liveP = 0 := by decide +kernel
theorem live_parse : parse liveT = (liveP, 0, 0) := by
  rw [← live_text]
  refine parse_text live_chk ?_
  rw [live_text]
  decide
def badT : List UInt8 := [111, 98, 106, 101, 99, 116, 32, 109, 117, 116, 101, 120, 10, 102, 117, 110, 99, 32, 48, 10]
theorem bad_item : readItem [102, 117, 110, 99, 32, 48] = none := by
  unfold readItem
  rw [if_neg (by decide), if_neg (by decide), if_pos (by decide)]
  have e : ([102, 117, 110, 99, 32, 48] : List UInt8).drop 4 = 32 :: (intT 0 ++ []) := by rw [int_0]; rfl
  rw [e]
  show (if (32 :: (intT 0 ++ [])).head? = some 32 then (match number (intT 0 ++ []) with | some (v, r) => (nums 1 r).map (v :: ·) | none => none) else none).map _ = none
  rw [if_pos (show (32 :: (intT 0 ++ [])).head? = some 32 from rfl), number_text (by unfold Sm; omega) (fun c r e => by cases e)]
  rfl
theorem bad_read (k : Nat) : readT (k + 2) 0 Pg.none badT = (Pg.none, 2) := by
  have h0 : SaysI (.o (1, 0, 0)) := show SaysO (1, 0, 0) by unfold SaysO Sm; decide +kernel
  have h1 := flat_item h0
  have e1 : badT = itemL (.o (1, 0, 0)) ++ 10 :: ([102, 117, 110, 99, 32, 48] ++ 10 :: []) := by rw [live_obj]; rfl
  have h2 : Flat [102, 117, 110, 99, 32, 48] := by unfold Flat; decide
  obtain ⟨a1, a2⟩ := line_join h1 ([102, 117, 110, 99, 32, 48] ++ 10 :: [])
  obtain ⟨b1, b2⟩ := line_join h2 []
  rw [e1]
  unfold readT
  rw [a1, a2, item_text h0, if_neg (by simp), if_neg (by simp)]
  show readT (k + 1) 1 ⟨[(1, 0, 0)], [], []⟩ ([102, 117, 110, 99, 32, 48] ++ 10 :: []) = _
  unfold readT
  rw [b1, b2, bad_item, if_neg (by simp), if_neg (by simp)]
theorem bad_parse : parse badT = (Pg.none, 2, 2) := by
  unfold parse
  have e : readT (badT.length + 1) 0 Pg.none badT = (Pg.none, 2) := bad_read 19
  rw [e, if_neg (by decide), if_pos (by decide)]
theorem live_line : lineA 32 1 0 = [99, 119, 97, 105, 116, 32, 49, 32, 48] := by
  have e : (txt nm 32).data.toList = [99, 119, 97, 105, 116] := by decide +kernel
  have e2 : (form 32).length = 2 := by decide +kernel
  unfold lineA
  rw [if_pos (by decide +kernel)]
  simp [lineT, e, e2, opsL, numsT, int_0, int_1]
end Go.Proofs.YtnhoeboighndlaaGreatDoor.pgm.asm

/-
  What was got of bytes, put, is just the bytes that it had, and no bytes that end sooner are a program's. Plain mathematics; no condition.
-/
namespace Go.Proofs.YtnhoeboighndlaaGreatDoor.pgm
open Go.Proofs.YtnhoeboighndlaaGreatDoor.octet (St rdByte rdNum num num_length_le enc_length_pos)
open Go.Proofs.YtnhoeboighndlaaGreatDoor.objs (De zero rdNum_back rdNum_once rdNum_err)
set_option linter.unusedVariables false

theorem rdMany_once {L : List UInt8} {most : Nat} (h : (rdMany ⟨L, 0⟩ most).2.2 = 0) : L = num (rdMany ⟨L, 0⟩ most).1 ++ (rdMany ⟨L, 0⟩ most).2.1.rest ∧ (rdMany ⟨L, 0⟩ most).2.1.err = 0 ∧ (rdMany ⟨L, 0⟩ most).1 ≤ most := by
  unfold rdMany at h ⊢
  split at h
  · cases h
  · rename_i h1
    rw [if_neg h1]
    exact ⟨rdNum_once h, h, by dsimp only; omega⟩
theorem readL_once {L : List UInt8} (h : (Go.Proofs.YtnhoeboighndlaaGreatDoor.objs.readL ⟨L, 0⟩).2.2 = 0) : (Go.Proofs.YtnhoeboighndlaaGreatDoor.objs.chk (Go.Proofs.YtnhoeboighndlaaGreatDoor.objs.readL ⟨L, 0⟩).1).2 = 0 ∧ L = Go.Proofs.YtnhoeboighndlaaGreatDoor.objs.encL (Go.Proofs.YtnhoeboighndlaaGreatDoor.objs.readL ⟨L, 0⟩).1 ++ (Go.Proofs.YtnhoeboighndlaaGreatDoor.objs.readL ⟨L, 0⟩).2.1.rest ∧ (Go.Proofs.YtnhoeboighndlaaGreatDoor.objs.readL ⟨L, 0⟩).2.1.err = 0 := by
  unfold Go.Proofs.YtnhoeboighndlaaGreatDoor.objs.readL at h ⊢
  dsimp only at h ⊢
  by_cases h1 : (Go.Proofs.YtnhoeboighndlaaGreatDoor.objs.rdN ⟨L, 0⟩).2.err ≠ 0
  · simp only [if_pos h1] at h; exact absurd h h1
  · simp only [if_neg h1] at h ⊢
    by_cases h2 : 32 < (Go.Proofs.YtnhoeboighndlaaGreatDoor.objs.rdN ⟨L, 0⟩).1
    · simp only [if_pos h2] at h; cases h
    · simp only [if_neg h2] at h ⊢
      have hn := Go.Proofs.YtnhoeboighndlaaGreatDoor.objs.rdN_once (l := L) (by omega) (by omega)
      generalize Go.Proofs.YtnhoeboighndlaaGreatDoor.objs.rdN ⟨L, 0⟩ = q at *
      obtain ⟨n, ⟨R, E⟩⟩ := q
      dsimp only at h h1 h2 hn ⊢
      obtain rfl : E = 0 := by omega
      by_cases h3 : (Go.Proofs.YtnhoeboighndlaaGreatDoor.objs.rdL ⟨R, 0⟩ n.toNat).2.2 ≠ 0
      · simp only [if_pos h3] at h; exact absurd h h3
      · simp only [if_neg h3] at h ⊢
        by_cases h4 : (Go.Proofs.YtnhoeboighndlaaGreatDoor.objs.chk (Go.Proofs.YtnhoeboighndlaaGreatDoor.objs.rdL ⟨R, 0⟩ n.toNat).1).2 ≠ 0
        · simp only [if_pos h4] at h; exact absurd h h4
        · simp only [if_neg h4] at h ⊢
          have hlen := Go.Proofs.YtnhoeboighndlaaGreatDoor.objs.rdL_length n.toNat (by omega : (Go.Proofs.YtnhoeboighndlaaGreatDoor.objs.rdL ⟨R, 0⟩ n.toNat).2.2 = 0)
          obtain ⟨hl, _, hall⟩ := Go.Proofs.YtnhoeboighndlaaGreatDoor.objs.chk_zero (by omega : (Go.Proofs.YtnhoeboighndlaaGreatDoor.objs.chk (Go.Proofs.YtnhoeboighndlaaGreatDoor.objs.rdL ⟨R, 0⟩ n.toNat).1).2 = 0)
          have ho := Go.Proofs.YtnhoeboighndlaaGreatDoor.objs.rdL_once hl n.toNat R (by omega) (fun i hi => hall i (by omega))
          refine ⟨by omega, ?_, ho.2⟩
          unfold Go.Proofs.YtnhoeboighndlaaGreatDoor.objs.encL
          rw [hlen, List.append_assoc, ← ho.1]
          exact hn
theorem readW_once {d : List De} {L : List UInt8} (hd : (Go.Proofs.YtnhoeboighndlaaGreatDoor.objs.chk d).2 = 0) (h : (Go.Proofs.YtnhoeboighndlaaGreatDoor.need.readW d ⟨L, 0⟩).2.2 = 0) : L = Go.Proofs.YtnhoeboighndlaaGreatDoor.need.encW (Go.Proofs.YtnhoeboighndlaaGreatDoor.need.readW d ⟨L, 0⟩).1 ++ (Go.Proofs.YtnhoeboighndlaaGreatDoor.need.readW d ⟨L, 0⟩).2.1.rest ∧ (Go.Proofs.YtnhoeboighndlaaGreatDoor.need.readW d ⟨L, 0⟩).2.1.err = 0 := by
  unfold Go.Proofs.YtnhoeboighndlaaGreatDoor.need.readW at h ⊢
  dsimp only at h ⊢
  by_cases h2 : 4 < (rdNum ⟨L, 0⟩).1
  · simp only [if_pos h2] at h; cases h
  · simp only [if_neg h2] at h ⊢
    by_cases h1 : (rdNum ⟨L, 0⟩).2.err ≠ 0
    · simp only [if_pos h1] at h; exact absurd h h1
    · simp only [if_neg h1] at h ⊢
      have hn := rdNum_once (l := L) (by omega)
      generalize rdNum ⟨L, 0⟩ = q at *
      obtain ⟨n, ⟨R, E⟩⟩ := q
      dsimp only at h h1 h2 hn ⊢
      obtain rfl : E = 0 := by omega
      by_cases h3 : (Go.Proofs.YtnhoeboighndlaaGreatDoor.need.rdWays ⟨R, 0⟩ n).2.2 ≠ 0
      · simp only [if_pos h3] at h; exact absurd h h3
      · simp only [if_neg h3] at h ⊢
        by_cases h4 : Go.Proofs.YtnhoeboighndlaaGreatDoor.need.chkW d (Go.Proofs.YtnhoeboighndlaaGreatDoor.need.rdWays ⟨R, 0⟩ n).1 ≠ 0
        · simp only [if_pos h4] at h; exact absurd h h4
        · simp only [if_neg h4] at h ⊢
          have hlen := Go.Proofs.YtnhoeboighndlaaGreatDoor.need.rdWays_length n (by omega : (Go.Proofs.YtnhoeboighndlaaGreatDoor.need.rdWays ⟨R, 0⟩ n).2.2 = 0)
          obtain ⟨_, _, hall⟩ := Go.Proofs.YtnhoeboighndlaaGreatDoor.need.chkW_zero (by omega : Go.Proofs.YtnhoeboighndlaaGreatDoor.need.chkW d (Go.Proofs.YtnhoeboighndlaaGreatDoor.need.rdWays ⟨R, 0⟩ n).1 = 0)
          have ho := Go.Proofs.YtnhoeboighndlaaGreatDoor.need.rdWays_once hd n R (by omega) (fun l hl => (hall l hl).2.2)
          refine ⟨?_, ho.2⟩
          unfold Go.Proofs.YtnhoeboighndlaaGreatDoor.need.encW
          rw [hlen, List.append_assoc, ← ho.1]
          exact hn
/-- What reads an instruction reads just what was put, and of what it read the bytes are just those. -/
structure Reads (rdI : St → De × St × Nat) : Prop where
  back : ∀ x, chkI x = 0 → ∀ more, rdI ⟨encIn x ++ more, 0⟩ = (x, ⟨more, 0⟩, 0)
  once : ∀ L, (rdI ⟨L, 0⟩).2.2 = 0 → L = encIn (rdI ⟨L, 0⟩).1 ++ (rdI ⟨L, 0⟩).2.1.rest ∧ (rdI ⟨L, 0⟩).2.1.err = 0
theorem rdFn_once {rdI : St → De × St × Nat} (hI : Reads rdI) {L : List UInt8} (he : (rdFn rdI ⟨L, 0⟩).2.2 = 0) (h : chkFn (rdFn rdI ⟨L, 0⟩).1 = 0) : L = encFn (rdFn rdI ⟨L, 0⟩).1 ++ (rdFn rdI ⟨L, 0⟩).2.1.rest ∧ (rdFn rdI ⟨L, 0⟩).2.1.err = 0 := by
  unfold rdFn at he h ⊢
  dsimp only at he h ⊢
  by_cases h1 : (rdNum (rdNum ⟨L, 0⟩).2).2.err ≠ 0
  · rw [if_pos h1] at he; exact absurd he h1
  · rw [if_neg h1] at he h ⊢
    by_cases h2 : (rdMany (rdNum (rdNum ⟨L, 0⟩).2).2 200).2.2 ≠ 0
    · rw [if_pos h2] at he; exact absurd he h2
    · rw [if_neg h2] at he h ⊢
      by_cases h3 : (rdAll rdI (rdMany (rdNum (rdNum ⟨L, 0⟩).2).2 200).2.1 (rdMany (rdNum (rdNum ⟨L, 0⟩).2).2 200).1).2.2 ≠ 0
      · rw [if_pos h3] at he; exact absurd he h3
      · rw [if_neg h3] at h ⊢
        dsimp only at h ⊢
        obtain ⟨⟨g1, g2, g3⟩, _, _, _⟩ := chkFn_zero h
        dsimp only at g1 g2 g3
        clear h he
        have hA : (rdNum ⟨L, 0⟩).2.err = 0 := by
          rcases Nat.eq_zero_or_pos (rdNum ⟨L, 0⟩).2.err with e | e
          · exact e
          · rw [rdNum_err (by omega)] at h1; omega
        have ha := rdNum_once hA
        generalize rdNum ⟨L, 0⟩ = q at *
        obtain ⟨a, ⟨R, E⟩⟩ := q
        dsimp only at hA ha h1 h2 h3 g1 g2 g3 ⊢
        subst hA
        have hb := rdNum_once (l := R) (by omega)
        generalize rdNum ⟨R, 0⟩ = q at *
        obtain ⟨b, ⟨R2, E⟩⟩ := q
        dsimp only at hb h1 h2 h3 g1 g2 g3 ⊢
        obtain rfl : E = 0 := by omega
        obtain ⟨hn, hn0, _⟩ := rdMany_once (L := R2) (most := 200) (by omega)
        generalize rdMany ⟨R2, 0⟩ 200 = q at *
        obtain ⟨n, ⟨R3, E⟩, e3⟩ := q
        dsimp only at hn hn0 h2 h3 ⊢
        subst hn0
        have hq := rdAll_once (rd := rdI) (e := encIn) (d := zero) (ok := fun _ => True) (fun L2 h2 _ => hI.once L2 h2) n R3 (by omega) (fun _ _ => trivial)
        have hlen := rdAll_length n (by omega : (rdAll rdI ⟨R3, 0⟩ n).2.2 = 0)
        refine ⟨?_, hq.2⟩
        unfold encFn
        dsimp only
        rw [hlen]
        simp only [List.append_assoc]
        rw [← hq.1, ← hn]
        have e1 : ((min a 2147483648 : Nat) : Int).toNat = a := by omega
        have e2 : ((min b 2147483648 : Nat) : Int).toNat = b := by omega
        rw [e1, e2, ← hb, ← ha]
theorem once {rdI : St → De × St × Nat} (hI : Reads rdI) {t : List UInt8} (h : (readP rdI t).2 = 0) : chkP (readP rdI t).1 = 0 ∧ encP (readP rdI t).1 = t := by
  unfold readP at h ⊢
  dsimp only at h ⊢
  by_cases h0 : t.take 3 ≠ [76, 74, 1]
  · rw [if_pos h0] at h; cases h
  · rw [if_neg h0] at h ⊢
    have h0' : t.take 3 = [76, 74, 1] := Classical.byContradiction h0
    have ht : t = [76, 74, 1] ++ t.drop 3 := by rw [← h0', List.take_append_drop]
    clear h0 h0'
    generalize t.drop 3 = r at *
    by_cases h1 : (Go.Proofs.YtnhoeboighndlaaGreatDoor.objs.readL ⟨r, 0⟩).2.2 ≠ 0
    · rw [if_pos h1] at h; exact absurd h h1
    · rw [if_neg h1] at h ⊢
      obtain ⟨hl0, hl, hle⟩ := readL_once (L := r) (by omega)
      generalize Go.Proofs.YtnhoeboighndlaaGreatDoor.objs.readL ⟨r, 0⟩ = q at *
      obtain ⟨ds, ⟨R, E⟩, e1⟩ := q
      dsimp only at h h1 hl0 hl hle ⊢
      subst hle
      by_cases h2 : (rdMany ⟨R, 0⟩ 32).2.2 ≠ 0
      · rw [if_pos h2] at h; exact absurd h h2
      · rw [if_neg h2] at h ⊢
        obtain ⟨hn, hn0, _⟩ := rdMany_once (L := R) (most := 32) (by omega)
        generalize rdMany ⟨R, 0⟩ 32 = q at *
        obtain ⟨n, ⟨R2, E⟩, e2⟩ := q
        dsimp only at h hn hn0 h2 ⊢
        subst hn0
        by_cases h3 : (rdAll (Go.Proofs.YtnhoeboighndlaaGreatDoor.need.readW ds) ⟨R2, 0⟩ n).2.2 ≠ 0
        · rw [if_pos h3] at h; exact absurd h h3
        · rw [if_neg h3] at h ⊢
          have hw := rdAll_once (rd := Go.Proofs.YtnhoeboighndlaaGreatDoor.need.readW ds) (e := Go.Proofs.YtnhoeboighndlaaGreatDoor.need.encW) (d := []) (ok := fun _ => True) (fun L2 h2 _ => readW_once hl0 h2) n R2 (by omega) (fun _ _ => trivial)
          have hwl := rdAll_length n (by omega : (rdAll (Go.Proofs.YtnhoeboighndlaaGreatDoor.need.readW ds) ⟨R2, 0⟩ n).2.2 = 0)
          generalize rdAll (Go.Proofs.YtnhoeboighndlaaGreatDoor.need.readW ds) ⟨R2, 0⟩ n = q at *
          obtain ⟨ws, ⟨R3, E⟩, e3⟩ := q
          dsimp only at h hw hwl h3 ⊢
          obtain ⟨hw, hw0⟩ := hw
          subst hw0
          by_cases h4 : (rdMany ⟨R3, 0⟩ 16).2.2 ≠ 0
          · rw [if_pos h4] at h; exact absurd h h4
          · rw [if_neg h4] at h ⊢
            obtain ⟨hm, hm0, _⟩ := rdMany_once (L := R3) (most := 16) (by omega)
            generalize rdMany ⟨R3, 0⟩ 16 = q at *
            obtain ⟨m, ⟨R4, E⟩, e4⟩ := q
            dsimp only at h hm hm0 h4 ⊢
            subst hm0
            by_cases h5 : (rdAll (rdFn rdI) ⟨R4, 0⟩ m).2.2 ≠ 0
            · rw [if_pos h5] at h; exact absurd h h5
            · rw [if_neg h5] at h ⊢
              by_cases h6 : (rdAll (rdFn rdI) ⟨R4, 0⟩ m).2.1.rest ≠ []
              · rw [if_pos h6] at h; cases h
              · rw [if_neg h6] at h ⊢
                by_cases h7 : chkP ⟨ds, ws, (rdAll (rdFn rdI) ⟨R4, 0⟩ m).1⟩ ≠ 0
                · rw [if_pos h7] at h; exact absurd h h7
                · rw [if_neg h7]
                  dsimp only
                  have h7' : chkP ⟨ds, ws, (rdAll (rdFn rdI) ⟨R4, 0⟩ m).1⟩ = 0 := by omega
                  have h6' : (rdAll (rdFn rdI) ⟨R4, 0⟩ m).2.1.rest = [] := Classical.byContradiction h6
                  obtain ⟨_, _, _, _, _, hall⟩ := chkP_zero h7'
                  have hf := (rdAll_once (rd := rdFn rdI) (e := encFn) (d := Fn.zero) (ok := fun f => chkFn f = 0) (fun L2 h2 h3 => rdFn_once hI h2 h3) m R4 (by omega) hall).1
                  have hfl := rdAll_length m (by omega : (rdAll (rdFn rdI) ⟨R4, 0⟩ m).2.2 = 0)
                  refine ⟨h7', ?_⟩
                  rw [h6', List.append_nil] at hf
                  unfold encP
                  dsimp only
                  rw [hwl, hfl, ← hf, ← hm, ← hw, ← hn, ← hl, ← ht]
/-- No bytes that end sooner are a program's. -/
theorem sooner {rdI : St → De × St × Nat} (hI : Reads rdI) {p : Pg} (h : chkP p = 0) {s more : List UInt8} (hs : encP p = s ++ more) (hm : more ≠ []) : (readP rdI s).2 ≠ 0 := by
  intro hz
  obtain ⟨h1, h2⟩ := once hI hz
  have h3 := back hI.back h1 more
  rw [h2, ← hs, if_pos hm] at h3
  have h4 := back hI.back h []
  rw [List.append_nil, h3, if_neg (by simp)] at h4
  cases h4
theorem got_bad {rdI : St → De × St × Nat} {t : List UInt8} (h : (readP rdI t).2 ≠ 0) : (readP rdI t).1 = Pg.none := by
  unfold readP at h ⊢
  dsimp only at h ⊢
  split
  · rfl
  · split
    · rfl
    · split
      · rfl
      · split
        · rfl
        · split
          · rfl
          · split
            · rfl
            · split
              · rfl
              · split
                · rfl
                · rename_i a1 a2 a3 a4 a5 a6 a7 a8
                  rw [if_neg a1, if_neg a2, if_neg a3, if_neg a4, if_neg a5, if_neg a6, if_neg a7, if_neg a8] at h
                  exact absurd rfl h
end Go.Proofs.YtnhoeboighndlaaGreatDoor.pgm
