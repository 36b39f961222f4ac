/-
  Texts of one claim in one file: ETextAll, DSame, ESame, EOwn. Each has its own sentence, with its conditions.
-/
import Derived.Test.YtfkcmdnnmnkklaaDoorEall15
import Derived.Test.YtfkcmdnnmnkklaaDoorEall5
import Derived.Test.YtfkcmdnnmnkklaaDoorEall4
/-
  The program's own text of a wait, whole: rows of texts, and what stands between (typed over the code of 5ef5b61): of at most six ways, each of at most six needs, of ints. The tables must lie where their initialisers lay them.
-/
namespace Go.Proofs.YtfkcmdnnmnkklaaDoor.need
open Go.RowKit Go.ChangeShapes
open Go.Proofs.YtfkcmdnnmnkklaaDoor.octet (mk_append size_mk)
open Go.Proofs.YtfkcmdnnmnkklaaDoor.objs (De zero CellsAt DAt below_drewN)
set_option linter.unusedVariables false

/-- A row of texts of a call's own. -/
def OwnS (w : World) (base : Nat) (v : Value) (l : List ByteArray) : Prop := w.ownsRow base 9 1 v l.length (l.map Value.string)
theorem OwnS.keep {w w' : World} {base : Nat} {v : Value} {l : List ByteArray} (h : OwnS w base v l) (hk : ∀ g, v.ownBlock = some g → w'.heap[g]? = w.heap[g]?) : OwnS w' base v l := by
  refine ⟨h.1, h.2.imp id ?_⟩
  rintro ⟨g, c, cur, rfl, hg, hh, r⟩
  exact ⟨g, c, cur, rfl, hg, (hk g rfl).trans hh, r⟩
theorem OwnS.lt {w : World} {base g : Nat} {v : Value} {l : List ByteArray} (h : OwnS w base v l) (hg : v.ownBlock = some g) : base ≤ g ∧ g < w.heap.size := World.ownsRow.lt h g hg
theorem OwnS.slice {w : World} {base : Nat} {v : Value} {l : List ByteArray} (h : OwnS w base v l) : ∃ A cap, v = .slice A l.length cap := by
  rcases h.2 with ⟨rfl, h0⟩ | ⟨g, cap, cur, rfl, _⟩
  · exact ⟨none, 0, by rw [h0]⟩
  · exact ⟨_, _, rfl⟩
theorem infoS : (Tryd.prog.info? 9).map (fun i => (i.zero, i.size, i.bytes)) = some (some (.string ⟨#[]⟩), 1, 16) := by kernel_rfl
def mkS (m : Nat) : Obj := .cells (madeCells (Value.string ⟨#[]⟩).cells (m * 1)) 9
theorem run_mkS (m : Nat) (hm : m ≤ 6) (W : World) : (Instr.makeSlice 81 (.int .i64 0) (.int .i64 (m : Int))).run Tryd.prog W = .ok (.slice (some ⟨W.heap.size, 0, none⟩) 0 m) (W.alloc (mkS m)) := by
  obtain ⟨i, hi, hz0, hz1, hz2⟩ := info_parts infoS
  have h := run_make (P := Tryd.prog) W 81 9 i _ Tryd.underlying81 hi hz0 .i64 .i64 0 (m : Int) (by omega) (by omega) (by rw [hz2]; omega) (by omega)
  rw [hz1, Int.toNat_natCast, Int.toNat_zero] at h
  exact h
theorem run_appS (W : World) (ty : TypeId) (base c : Nat) (v : Value) (l : List ByteArray) (s : ByteArray) (hrow : OwnS W base v l) (hlen : l.length ≤ 1000) (hbase : base ≤ W.heap.size) :
    ∃ v' w', (Builtin.append_ #[81, 81] ty #[v, .slice (some ⟨W.heap.size, 0, none⟩) 1 c]).run Tryd.prog (W.alloc (.cells #[.string s] 9)) = .ok v' w' ∧ OwnS w' base v' (l ++ [s]) ∧ (W.alloc (.cells #[.string s] 9)).grownBy w' v.ownBlock := by
  obtain ⟨i, hi, hz0, hz1, hz2⟩ := info_parts infoS
  have hb0 : Below W.heap.size W (W.alloc (.cells #[.string s] 9)) := (Below.refl _ W).alloc (Nat.le_refl _) _
  have hc : (W.alloc (.cells #[.string s] 9)).cell? ⟨W.heap.size, 0, none⟩ = some (.string s) := by
    unfold World.cell?
    rw [heap_alloc_new W _]
    rfl
  have hrow1 : OwnS (W.alloc (.cells #[.string s] 9)) base v l := hrow.keep fun g hg => hb0.block g (hrow.lt hg).2
  obtain ⟨v', w', r1, r2, r3, _⟩ := run_append_own (P := Tryd.prog) (W.alloc (.cells #[.string s] 9)) base 81 ty 9 i _ 1 16 Tryd.underlying81 hi hz0 hz1 hz2 rfl (by omega) v l.length (l.map Value.string) hrow1 ⟨W.heap.size, 0, none⟩ 1 c [.string s] rfl (by
      intro j u hu
      rcases j with _ | j
      · simp only [List.getElem?_cons_zero, Option.some.injEq] at hu
        subst hu
        rw [Addr.add_lit]
        exact hc
      · simp at hu) (by
      intro u hu
      simp only [List.mem_singleton] at hu
      subst hu
      rfl) (by unfold maxLen; omega) (by omega) (by simp; omega)
  refine ⟨v', w', r1, ?_, r3⟩
  unfold OwnS
  rw [List.length_append, List.map_append]
  exact r2
theorem wp_appS {o : Oper} {a : Act} {W : World} {K : Act → World → Prop} {Q : Exit → Act → World → Prop} (s y : Operand)
    (ho : o.op = .call { callee := .builtin .append, args := #[s, y], argTypes := #[81, 81] }) (base c : Nat) (v : Value) (l : List ByteArray) (x : ByteArray)
    (hs : a.eval s = v) (hrow : OwnS W base v l) (hy : a.eval y = .slice (some ⟨W.heap.size, 0, none⟩) 1 c) (hlen : l.length ≤ 1000) (hbase : base ≤ W.heap.size)
    (h : ∀ v' w', OwnS w' base v' (l ++ [x]) → (W.alloc (.cells #[.string x] 9)).grownBy w' v.ownBlock → K (a.put o.dst v') w') : o.wp Tryd.prog a (W.alloc (.cells #[.string x] 9)) K Q := by
  obtain ⟨v', w', hr, h2, h3⟩ := run_appS W o.type base c v l x hrow hlen hbase
  unfold Oper.wp execOp
  simp only [ho, resolve, invoke, builtin, Sem.run_bind, Sem.run_pure, Result.andThen_ok, List.map_toArray, List.map_cons, List.map_nil, hs, hy, hr]
  exact h v' w' h2 h3
theorem wpList_appS {ops : Array Oper} {rest : List Oper} {o : Oper} {a : Act} {W : World} {Q : Exit → Act → World → Prop} (hgd : o.guard = none) (s y : Operand)
    (ho : o.op = .call { callee := .builtin .append, args := #[s, y], argTypes := #[81, 81] }) (base c : Nat) (v : Value) (l : List ByteArray) (x : ByteArray)
    (hs : a.eval s = v) (hrow : OwnS W base v l) (hy : a.eval y = .slice (some ⟨W.heap.size, 0, none⟩) 1 c) (hlen : l.length ≤ 1000) (hbase : base ≤ W.heap.size)
    (h : ∀ v' w', OwnS w' base v' (l ++ [x]) → (W.alloc (.cells #[.string x] 9)).grownBy w' v.ownBlock → wpList Tryd.prog ops Q rest (a.put o.dst v') w') : wpList Tryd.prog ops Q (o :: rest) a (W.alloc (.cells #[.string x] 9)) :=
  wpList_plain hgd fun _ hK => wp_appS s y ho base c v l x hs hrow hy hlen hbase fun v' w' h2 h3 => hK _ _ (h v' w' h2 h3)

/-- What stands in a row of texts, with a text between each two. -/
theorem join_any (v : Value) (base : Nat) (l : List ByteArray) (sep : ByteArray) (w : World) (h : OwnS w base v l) (hl : l.length ≤ 1000) (hs : (Lib.join (l.map (·.data.toList)) sep.data.toList).length ≤ 140737488355328) :
    Calls Tryd.prog 41 #[v, .string sep] w fun e w' => e = .returned (.string ⟨(Lib.join (l.map (·.data.toList)) sep.data.toList).toArray⟩) ∧ Below w.heap.size w w' := by
  have hcell := fun (g : Nat) (e : v.ownBlock = some g) (j : Nat) (u : Value) hu => World.ownsRow.cells h (g := g) e j u hu
  obtain ⟨h0, h1⟩ := h
  rcases h1 with ⟨rfl, hz⟩ | ⟨g, cap, cur, rfl, hb, hh, hcap, hr⟩
  · obtain rfl : l = [] := List.eq_nil_of_length_eq_zero hz
    exact (Tryd.strings_Join_none none 0 sep w).mono fun e w' ⟨h1, h2⟩ => ⟨h1, h2 ▸ Below.refl _ _⟩
  · refine Tryd.strings_Join g 0 cap l sep w (fun j x hx => ?_) (lt_of_block hh) (by omega) hcap hs
    have h2 := hcell g rfl j (.string x) (by rw [List.getElem?_map, hx]; rfl)
    rw [Addr.add_lit] at h2
    simpa using h2

theorem join_snoc (xs : List (List UInt8)) (y sep : List UInt8) : Lib.join (xs ++ [y]) sep = Lib.join xs sep ++ (if 0 < xs.length then sep else []) ++ y := by
  cases xs with
  | nil => simp [Lib.join, List.intercalate]
  | cons x r =>
    rw [List.cons_append, Lib.join_cons, Lib.join_cons, if_pos (by simp)]
    unfold Lib.joinTail
    simp [List.append_assoc]
/-- The texts of the first needs. -/
def needTs (l : List De) (k : Nat) : List ByteArray := (l.take k).map fun n => ⟨(needT n).toArray⟩
theorem needTs_next {l : List De} {k : Nat} (h : k < l.length) : needTs l (k + 1) = needTs l k ++ [⟨(needT (l.getD k zero)).toArray⟩] := by
  unfold needTs
  rw [List.take_succ_eq_append_getElem h, List.map_append]
  congr 1
  rw [List.getD_eq_getElem?_getD, List.getElem?_eq_getElem h]
  rfl
theorem needTs_len {l : List De} {k : Nat} (h : k ≤ l.length) : (needTs l k).length = k := by
  unfold needTs
  rw [List.length_map, List.length_take]
  omega
theorem needTs_join (l : List De) : ∀ k, k ≤ l.length → Lib.join ((needTs l k).map (·.data.toList)) [32, 43, 32] = needsT l k := by
  intro k
  induction k with
  | zero => intro _; simp [needTs, needsT, Lib.join_nil]
  | succ k ih =>
    intro hk
    rw [needTs_next (by omega), List.map_append, List.map_cons, List.map_nil, join_snoc, ih (by omega), needsT_next, List.length_map, needTs_len (by omega)]
    rfl
/-- The texts of the first ways. -/
def wayTs (w : List (List De)) (k : Nat) : List ByteArray := (w.take k).map fun l => ⟨(needsT l l.length).toArray⟩
theorem wayTs_next {w : List (List De)} {k : Nat} (h : k < w.length) : wayTs w (k + 1) = wayTs w k ++ [⟨(needsT (w.getD k []) (w.getD k []).length).toArray⟩] := by
  unfold wayTs
  rw [List.take_succ_eq_append_getElem h, List.map_append]
  congr 1
  rw [List.getD_eq_getElem?_getD, List.getElem?_eq_getElem h]
  rfl
theorem wayTs_len {w : List (List De)} {k : Nat} (h : k ≤ w.length) : (wayTs w k).length = k := by
  unfold wayTs
  rw [List.length_map, List.length_take]
  omega
theorem wayTs_join (w : List (List De)) : ∀ k, k ≤ w.length → Lib.join ((wayTs w k).map (·.data.toList)) [32, 124, 32] = waysT w k := by
  intro k
  induction k with
  | zero => intro _; simp [wayTs, waysT, Lib.join_nil]
  | succ k ih =>
    intro hk
    rw [wayTs_next (by omega), List.map_append, List.map_cons, List.map_nil, join_snoc, ih (by omega), waysT_next, List.length_map, wayTs_len (by omega)]
    rfl

theorem joinN_any (v : Value) (base : Nat) (x : List De) (hx : x.length ≤ 6) (w : World) (h : OwnS w base v (needTs x x.length)) (hs : (needsT x x.length).length ≤ 52 * x.length) :
    Calls Tryd.prog 41 #[v, .string ⟨#[32, 43, 32]⟩] w fun e w' => e = .returned (.string ⟨(needsT x x.length).toArray⟩) ∧ Below w.heap.size w w' := by
  have e1 : (⟨#[32, 43, 32]⟩ : ByteArray).data.toList = [32, 43, 32] := rfl
  have hn := needTs_len (l := x) (Nat.le_refl _)
  have hj := needTs_join x x.length (Nat.le_refl _)
  have h1 := join_any v base (needTs x x.length) ⟨#[32, 43, 32]⟩ w h (by omega) (by rw [e1, hj]; omega)
  rw [e1, hj] at h1
  exact h1
theorem joinW_any (v : Value) (base : Nat) (l : List (List De)) (hl : l.length ≤ 6) (w : World) (h : OwnS w base v (wayTs l l.length)) (hs : (waysT l l.length).length ≤ 315 * l.length) :
    Calls Tryd.prog 41 #[v, .string ⟨#[32, 124, 32]⟩] w fun e w' => e = .returned (.string ⟨(waysT l l.length).toArray⟩) ∧ Below w.heap.size w w' := by
  have e1 : (⟨#[32, 124, 32]⟩ : ByteArray).data.toList = [32, 124, 32] := rfl
  have hn := wayTs_len (w := l) (Nat.le_refl _)
  have hj := wayTs_join l l.length (Nat.le_refl _)
  have h1 := join_any v base (wayTs l l.length) ⟨#[32, 124, 32]⟩ w h (by omega) (by rw [e1, hj]; omega)
  rw [e1, hj] at h1
  exact h1
/-- While rows of texts grow: what was made since the world w, and the row. -/
structure Sx (w : World) (v : Value) (ls : List ByteArray) (W : World) : Prop where
  below : Below w.heap.size w W
  own : OwnS W w.heap.size v ls
theorem Sx.next {w W W' : World} {v : Value} {ls : List ByteArray} (h : Sx w v ls W) (hb : Below W.heap.size W W') : Sx w v ls W' :=
  ⟨h.below.trans (hb.mono h.below.size), h.own.keep fun g hg => hb.block g (h.own.lt hg).2⟩
theorem Sx.app {w W W2 : World} {v v2 : Value} {ls ls2 : List ByteArray} (h : Sx w v ls W) (o : Obj) (h2 : OwnS W2 w.heap.size v2 ls2) (hg : (W.alloc o).grownBy W2 v.ownBlock) : Sx w v2 ls2 W2 := by
  have hb : Below W.heap.size W (W.alloc o) := (Below.refl _ _).alloc (Nat.le_refl _) _
  exact ⟨(h.below.trans (hb.mono h.below.size)).grown hg (Nat.le_trans h.below.size hb.size) (fun k e => (h.own.lt e).1), h2⟩
theorem sx_made (W : World) (m : Nat) (hm : m ≤ 6) : Sx W (.slice (some ⟨W.heap.size, 0, none⟩) 0 m) [] (W.alloc (mkS m)) :=
  ⟨(Below.refl _ _).alloc (Nat.le_refl _) _, World.ownsRow_made W _ m (Nat.le_refl _) (by unfold maxLen; omega) (size_madeCells _ _)⟩

set_option maxRecDepth 100000 in
set_option maxHeartbeats 4000000 in
theorem text_any (B : Option Addr) (cap : Nat) (l : List (List De)) (hl : l.length ≤ 6) (hs : ∀ x ∈ l, x.length ≤ 6 ∧ ∀ t ∈ x, Small t) (w : World) (hB : WAt w B l) (hw : Oke w) :
    Calls Tryd.prog 20 #[.slice B l.length cap] w fun e w' => e = .returned (.string ⟨(textW l).toArray⟩) ∧ Below w.heap.size w w' := by
  have HS := Lib.hid hs
  have HW : Hid (textW l = waysT l l.length) := Lib.hid rfl
  rw [HW.out]
  have HB := Lib.hid hB
  have HO := Lib.hid hw
  have HX0 := Lib.hid (sx_made w l.length hl)
  have hmk := run_mkS l.length hl w
  have HL6 := Lib.hid hl
  clear hB hw hs HW hl
  go_enter Tryd.func20, Tryd.ntmps20
  go_wp2_with fail
  generalize w.alloc (mkS l.length) = W0 at *
  generalize hv0 : Value.slice (some ⟨w.heap.size, 0, none⟩) 0 l.length = v0 at *
  go_loopw [3, 14] (fun v i wr => ∃ j : Nat, j ≤ l.length ∧ i = .int .i64 (j : Int) ∧ Hid (Sx w v (wayTs l j) wr)) (fun _ i _ => l.length - (intOf i).toNat)
  case atStart => exact ⟨0, Nat.zero_le _, rfl, HX0⟩
  case round =>
    obtain ⟨j, hj, rfl, HX⟩ := hrel
    obtain ⟨W1, rfl⟩ : ∃ W1, W1 = wr := ⟨_, rfl⟩
    by_cases hlt : j < l.length
    · obtain ⟨b, off, Aj, cj, rfl, hbl, hc0, hdj⟩ := HB.out j hlt
      have hc := (HX.out.below.cell (p := ⟨b, off + j, none⟩) hbl).trans hc0
      have hlt' : (j : Int) < (l.length : Int) := by omega
      have hj0 : (0 : Int) ≤ (j : Int) := by omega
      have hm := HS.out _ (getW_mem hlt)
      have HSj := Lib.hid hm.2
      have h6 := hm.1
      have HE := Lib.hid (wayTs_next hlt)
      have hwl := wayTs_len (w := l) hj
      generalize wayTs l j = ts at *
      generalize l.getD j [] = x at *
      have HD := Lib.hid hdj
      have HSb := Lib.hid (needsT_le HSj.out x.length (Nat.le_refl _))
      have HY0 := Lib.hid (sx_made W1 x.length h6)
      have hmk2 := run_mkS x.length h6 W1
      have hl6 := HL6.out
      clear hm hdj hc0 hbl
      go_wp2_with fail
      clear hc
      generalize W1.alloc (mkS x.length) = W3 at *
      generalize hv1 : Value.slice (some ⟨W1.heap.size, 0, none⟩) 0 x.length = v1 at *
      go_loopw [6, 23] (fun v i wr => ∃ k : Nat, k ≤ x.length ∧ i = .int .i64 (k : Int) ∧ Hid (Sx W1 v (needTs x k) wr)) (fun _ i _ => x.length - (intOf i).toNat)
      case atStart => exact ⟨0, Nat.zero_le _, rfl, HY0⟩
      case round =>
        obtain ⟨k, hk, rfl, HY⟩ := hrel
        obtain ⟨Ar, cr, hvr⟩ := HY.out.own.slice
        rw [needTs_len hk] at hvr
        have HB3 := Lib.hid (HX.out.below.trans (HY.out.below.mono HX.out.below.size))
        by_cases hlk : k < x.length
        · obtain ⟨b1, off1, rfl, hb1, c0, c1, c2⟩ := HD.out.next HB3.out k hlk
          have hlk' : (k : Int) < (x.length : Int) := by omega
          have hk0 : (0 : Int) ≤ (k : Int) := by omega
          have HEk := Lib.hid (needTs_next hlk)
          have hsm := HSj.out _ (getD_mem hlk)
          have hnl := needTs_len (l := x) hk
          generalize needTs x k = tk at *
          generalize x.getD k zero = n at *
          have HT := fun W hW => Lib.hid (textN_any n hsm W hW)
          have HO3 := Lib.hid (HO.out.next HB3.out)
          have hb4 := nbox_below wr n.1 n.2.1 n.2.2
          have HO4 := Lib.hid (HO3.out.next hb4)
          have HY4 := Lib.hid (HY.out.next hb4)
          have hbx := nbox_at wr n.1 n.2.1 n.2.2
          clear hb4 HO3 HY hsm HB3
          generalize needT n = tn at *
          obtain ⟨k0, o0, m0⟩ := n
          unfold needBox at HO4 HY4 hbx
          dsimp only at HT c0 c1 c2 HO4 HY4 hbx
          subst hvr
          go_upto_region 9 with fail
          clear c0 c1 c2
          generalize wr.alloc (.cells #[.int .i64 k0, .int .i64 o0, .int .i64 m0] 59) = W4 at *
          generalize wr.heap.size = g at *
          obtain ⟨c0, c1, c2⟩ := hbx
          go_wp2_with fail
          refine (HT _ HO4.out).out.mono ?_
          rintro e w5 ⟨rfl, hb5⟩
          have HY5 := Lib.hid (HY4.out.next hb5)
          have hown := HY5.out.own
          have hbase := HY5.out.below.size
          have Hap := fun (v2 : Value) (W2 : World) (h1 : OwnS W2 W1.heap.size v2 (tk ++ [⟨tn.toArray⟩])) (h2 : (w5.alloc (.cells #[.string ⟨tn.toArray⟩] 9)).grownBy W2 (Value.slice Ar k cr).ownBlock) => HY5.out.app (.cells #[.string ⟨tn.toArray⟩] 9) h1 h2
          clear hb5 HY4 HO4 HT c0 c1 c2
          go_wp2_with (
            at_builtin
            refine wpList_appS (by rfl) (.tmp 27) (.tmp 30) (by rfl) W1.heap.size 1 (.slice Ar k cr) tk ⟨tn.toArray⟩ (by rfl) hown (by rfl) (by omega) hbase ?_)
          intro v2 W6 hv2 hg2
          have HY6 := Lib.hid (Hap v2 W6 hv2 ⟨hg2.os, hg2.tape, hg2.output, hg2.size, hg2.block⟩)
          clear hown hv2 hg2 Hap HY5
          go_wp2
          go_roundw
          case rel => exact ⟨k + 1, by omega, by go_num, by rw [HEk.out]; exact HY6⟩
          case measure => simp [intOf]; omega
        · obtain rfl : k = x.length := by omega
          subst hvr
          have HX3 := Lib.hid (HX.out.next HY.out.below)
          obtain ⟨Aw, cw, hvw⟩ := HX3.out.own.slice
          rw [hwl] at hvw
          have HJn := Lib.hid (joinN_any _ _ x h6 wr HY.out.own HSb.out)
          generalize needsT x x.length = nt at *
          clear HY HB3 HSb
          subst hvw
          go_wp2_with fail
          refine HJn.out.mono ?_
          rintro e w5 ⟨rfl, hb5⟩
          have HX5 := Lib.hid (HX3.out.next hb5)
          have hown := HX5.out.own
          have hbase := HX5.out.below.size
          have Hap := fun (v2 : Value) (W2 : World) (h1 : OwnS W2 w.heap.size v2 (ts ++ [⟨nt.toArray⟩])) (h2 : (w5.alloc (.cells #[.string ⟨nt.toArray⟩] 9)).grownBy W2 (Value.slice Aw j cw).ownBlock) => HX5.out.app (.cells #[.string ⟨nt.toArray⟩] 9) h1 h2
          clear hb5 HX3 HJn HX
          go_wp2_with (
            at_builtin
            refine wpList_appS (by rfl) (.tmp 33) (.tmp 36) (by rfl) w.heap.size 1 (.slice Aw j cw) ts ⟨nt.toArray⟩ (by rfl) hown (by rfl) (by omega) hbase ?_)
          intro v2 W6 hv2 hg2
          have HX6 := Lib.hid (Hap v2 W6 hv2 ⟨hg2.os, hg2.tape, hg2.output, hg2.size, hg2.block⟩)
          clear hown hv2 hg2 Hap HX5
          go_wp2
          go_roundw
          case rel => exact ⟨j + 1, by omega, by go_num, by rw [HE.out]; exact HX6⟩
          case measure => simp [intOf]; omega
    · obtain rfl : j = l.length := by omega
      have HJn := Lib.hid (joinW_any _ _ l HL6.out W1 HX.out.own (waysT_le HS.out l.length (Nat.le_refl _)))
      go_wp2_with fail
      refine HJn.out.mono ?_
      rintro e w5 ⟨rfl, hb5⟩
      have HX5 := Lib.hid (HX.out.next hb5)
      clear hb5 HX HJn
      go_wp2
      go_ret
      exact ⟨rfl, HX5.out.below⟩
end Go.Proofs.YtfkcmdnnmnkklaaDoor.need

/-
  Whether two lists of objects are one, as the statements ask it. No condition but that both are of at most a hundred.
-/
namespace Go.Proofs.YtfkcmdnnmnkklaaDoor.objs
open Go.RowKit Go.ChangeShapes
set_option linter.unusedVariables false

theorem De.ext' {a b : De} : a = b ↔ a.1 = b.1 ∧ a.2.1 = b.2.1 ∧ a.2.2 = b.2.2 := by
  obtain ⟨a1, a2, a3⟩ := a
  obtain ⟨b1, b2, b3⟩ := b
  simp
theorem list_ext {l m : List De} (hl : l.length = m.length) (h : ∀ j, j < l.length → l.getD j zero = m.getD j zero) : l = m := by
  apply List.ext_getElem hl
  intro j h1 h2
  have := h j h1
  rwa [List.getD_eq_getElem?_getD, List.getD_eq_getElem?_getD, List.getElem?_eq_getElem h1, List.getElem?_eq_getElem h2] at this

end Go.Proofs.YtfkcmdnnmnkklaaDoor.objs

/-
  Whether two waits are one, as the statements ask it. No condition but that both have at most six ways, each of at most six needs.
-/
namespace Go.Proofs.YtfkcmdnnmnkklaaDoor.need
open Go.RowKit Go.ChangeShapes
open Go.Proofs.YtfkcmdnnmnkklaaDoor.objs (De zero CellsAt DAt below_drewN list_ext De.ext')
set_option linter.unusedVariables false

theorem wlist_ext {l m : List (List De)} (hl : l.length = m.length) (h : ∀ j, j < l.length → l.getD j [] = m.getD j []) : l = m := by
  apply List.ext_getElem hl
  intro j h1 h2
  have := h j h1
  rwa [List.getD_eq_getElem?_getD, List.getD_eq_getElem?_getD, List.getElem?_eq_getElem h1, List.getElem?_eq_getElem h2] at this
def SamePost (r : Bool) (w : World) (e : Ending) (w' : World) : Prop := e = .returned (.bool r) ∧ Below w.heap.size w w'
set_option maxRecDepth 100000 in
set_option maxHeartbeats 16000000 in
theorem refSame9_any (A B : Option Addr) (ca cb : Nat) (l m : List (List De)) (hl : l.length ≤ 6) (hm : m.length ≤ 6) (hll : ∀ x ∈ l, x.length ≤ 6) (hmm : ∀ x ∈ m, x.length ≤ 6) (w : World) (hA : WAt w A l) (hB : WAt w B m) :
    Calls Tryd.prog 19 #[.slice A l.length ca, .slice B m.length cb] w (SamePost (decide (l = m)) w) := by
  by_cases hlm : l.length = m.length
  · obtain ⟨r, hr⟩ : ∃ r, r = decide (l = m) := ⟨_, rfl⟩
    have HR := Lib.hid hr
    rw [← hr]
    unfold SamePost
    have HLM := Lib.hid hlm
    have HA := Lib.hid hA
    have HB := Lib.hid hB
    have HLl := Lib.hid hll
    have HLm := Lib.hid hmm
    rw [← hlm]
    clear hr hA hB hlm hm hll hmm
    go_enter Tryd.func19, Tryd.ntmps19
    go_wp2_with fail
    go_loopw [5] (fun i wr => ∃ j : Nat, j ≤ l.length ∧ i = .int .i64 (j : Int) ∧ Hid (∀ k, k < j → l.getD k [] = m.getD k []) ∧ Hid (Below w.heap.size w wr)) (fun i _ => l.length - (intOf i).toNat)
    case atStart => exact ⟨0, Nat.zero_le _, rfl, Lib.hid (fun k hk => absurd hk (Nat.not_lt_zero k)), Lib.hid (Below.refl _ _)⟩
    case round =>
      obtain ⟨j, hj, rfl, HO, HW⟩ := hrel
      by_cases hlt : j < l.length
      · have hltm : j < m.length := by have := HLM.out; omega
        obtain ⟨a, oa, Aj, cj, rfl, hbl, hca, hda⟩ := (HA.out.next HW.out) j hlt
        obtain ⟨b, ob, Bj, dj, rfl, hbm, hcb, hdb⟩ := (HB.out.next HW.out) j hltm
        have hlt' : (j : Int) < (l.length : Int) := by omega
        have hj0 : (0 : Int) ≤ (j : Int) := by omega
        have h6a := HLl.out _ (getW_mem hlt)
        have h6b := HLm.out _ (getW_mem hltm)
        generalize hgl : l.getD j [] = lj at *
        generalize hgm : m.getD j [] = mj at *
        by_cases hne : lj.length = mj.length
        · have HNE := Lib.hid hne
          have HDA := Lib.hid hda
          have HDB := Lib.hid hdb
          rw [← hne] at hcb
          clear hne hda hdb
          go_wp2_with fail
          go_quiet (fail)
          go_wp2_with fail
          go_loopw [6] (fun i wr => ∃ k : Nat, k ≤ lj.length ∧ i = .int .i64 (k : Int) ∧ Hid (∀ x, x < k → lj.getD x zero = mj.getD x zero) ∧ Hid (Below w.heap.size w wr)) (fun i _ => lj.length - (intOf i).toNat)
          case atStart => exact ⟨0, Nat.zero_le _, rfl, Lib.hid (fun k hk => absurd hk (Nat.not_lt_zero k)), Lib.hid (below_drewN HW.out _)⟩
          case round =>
            obtain ⟨k, hk, rfl, HP, HW2⟩ := hrel
            obtain ⟨aA, oA, AjA, cjA, hAe, _, hcA, hdA⟩ := (HA.out.next HW2.out) j hlt
            obtain ⟨bB, oB, BjB, djB, hBe, _, hcB, hdB⟩ := (HB.out.next HW2.out) j hltm
            injection hAe with hAe
            injection hAe with hAe1 hAe2
            injection hBe with hBe
            injection hBe with hBe1 hBe2
            subst hAe1 hAe2 hBe1 hBe2
            rw [hgl] at hcA hdA
            rw [hgm] at hcB hdB
            rw [← HNE.out] at hcB
            by_cases hlk : k < lj.length
            · obtain ⟨a2, oa2, rfl, _, a0, a1, a3⟩ := hdA k hlk
              obtain ⟨b2, ob2, rfl, _, b0, b1, b3⟩ := hdB k (by rw [← HNE.out]; exact hlk)
              have hlk' : (k : Int) < (lj.length : Int) := by omega
              have hk0 : (0 : Int) ≤ (k : Int) := by omega
              have hpar : lj.getD k zero ≠ mj.getD k zero → ¬ l = m := fun h e => h (by rw [← hgl, ← hgm, e])
              clear hca hcb
              by_cases hx : lj.getD k zero = mj.getD k zero
              · have HE : Hid (∀ x, x < k + 1 → lj.getD x zero = mj.getD x zero) := Lib.hid (fun x hx2 => by
                  rcases Nat.lt_or_ge x k with h1 | h1
                  · exact HP.out x h1
                  · obtain rfl : x = k := by omega
                    exact hx)
                rw [← hx] at b0 b1 b3
                clear hx hpar
                generalize lj.getD k zero = d at *
                go_wp2_with fail
                go_quiet (fail)
                go_wp2
                go_roundw
                case rel => exact ⟨k + 1, by omega, by go_num, HE, Lib.hid (below_drewN HW2.out _)⟩
                case measure => simp [intOf]; omega
              · have HE := Lib.hid (hpar hx)
                have hne : ¬ ((lj.getD k zero).1 = (mj.getD k zero).1 ∧ (lj.getD k zero).2.1 = (mj.getD k zero).2.1 ∧ (lj.getD k zero).2.2 = (mj.getD k zero).2.2) := fun h => hx (De.ext'.2 h)
                clear hx hpar
                generalize lj.getD k zero = d at *
                generalize mj.getD k zero = f at *
                obtain ⟨d1, d2, d3⟩ := d
                obtain ⟨f1, f2, f3⟩ := f
                dsimp only at a0 a1 a3 b0 b1 b3 hne
                by_cases e1 : d1 = f1
                · subst e1
                  by_cases e2 : d2 = f2
                  · subst e2
                    have hc : (d3 == f3) = false := by rw [beq_eq_false_iff_ne]; exact fun e => hne ⟨rfl, rfl, e⟩
                    clear hne
                    go_wp2_with fail
                    go_quiet (fail)
                    go_wp2
                    go_ret
                    exact ⟨by rw [HR.out, decide_eq_false HE.out]; rfl, below_drewN HW2.out _⟩
                  · have hc : (d2 == f2) = false := by rw [beq_eq_false_iff_ne]; exact e2
                    clear hne e2
                    go_wp2_with fail
                    go_quiet (fail)
                    go_wp2
                    go_ret
                    exact ⟨by rw [HR.out, decide_eq_false HE.out]; rfl, below_drewN HW2.out _⟩
                · have hc : (d1 == f1) = false := by rw [beq_eq_false_iff_ne]; exact e1
                  clear hne e1
                  go_wp2_with fail
                  go_quiet (fail)
                  go_wp2
                  go_ret
                  exact ⟨by rw [HR.out, decide_eq_false HE.out]; rfl, below_drewN HW2.out _⟩
            · obtain rfl : k = lj.length := by omega
              have HE : Hid (∀ x, x < j + 1 → l.getD x [] = m.getD x []) := Lib.hid (fun x hx2 => by
                rcases Nat.lt_or_ge x j with h1 | h1
                · exact HO.out x h1
                · obtain rfl : x = j := by omega
                  rw [hgl, hgm]
                  exact list_ext HNE.out HP.out)
              clear hca hcb hcB hdB hdA
              go_wp2_with fail
              go_roundw
              case rel => exact ⟨j + 1, by omega, by go_num, HE, HW2⟩
              case measure => simp [intOf]; omega
        · have HE : Hid (¬ l = m) := Lib.hid (fun h => hne (by rw [← hgl, ← hgm, h]))
          have hnb : ((lj.length : Int) != (mj.length : Int)) = true := by simp; omega
          clear hne hda hdb
          go_wp2_with fail
          go_quiet (fail)
          go_wp2
          go_ret
          exact ⟨by rw [HR.out, decide_eq_false HE.out]; rfl, below_drewN HW.out _⟩
      · obtain rfl : j = l.length := by omega
        have HE : Hid (l = m) := Lib.hid (wlist_ext HLM.out HO.out)
        go_wp2_with fail
        go_ret
        exact ⟨by rw [HR.out, decide_eq_true HE.out]; rfl, HW.out⟩
  · have hd : decide (l = m) = false := decide_eq_false (fun h => hlm (by rw [h]))
    rw [hd]
    unfold SamePost
    have hne : ((l.length : Int) != (m.length : Int)) = true := by simp; omega
    clear hlm hd hA hB
    go_enter Tryd.func19, Tryd.ntmps19
    go_wp2_with fail
    go_ret
    exact ⟨rfl, Below.refl _ _⟩
end Go.Proofs.YtfkcmdnnmnkklaaDoor.need

/-
  What the statements make of their own arguments: objects and waits in memory of their own, and whether objects may be. No condition but that lengths are ints.
-/
namespace Go.Proofs.YtfkcmdnnmnkklaaDoor.need
open Go.RowKit Go.ChangeShapes
open Go.Proofs.YtfkcmdnnmnkklaaDoor.objs (De zero CellsAt DAt chk chk_long chk_zero Own own_new own_copy wpList_appD LIn Ints I64 ChkPost refCheck_any refCheck_long)
set_option linter.unusedVariables false

def DeclPost (l : List De) (w : World) (e : Ending) (w' : World) : Prop := ∃ A2 c2, e = .returned (.slice A2 l.length c2) ∧ DAt w' A2 l ∧ Below w.heap.size w w'
set_option maxHeartbeats 1000000 in
theorem decl_any (A : Option Addr) (cap : Nat) (l : List De) (hno : A = none → l = [] ∧ cap = 0) (hl : l.length ≤ 100) (w : World) (hA : DAt w A l) :
    Calls Tryd.prog 14 #[.slice A l.length cap] w (DeclPost l w) := by
  have hA1 := hA.next ((Below.refl _ _).alloc (Nat.le_refl _) (.cells #[] 57))
  have HB1 : Hid (Below w.heap.size w w) := Lib.hid (Below.refl _ _)
  have HNo := Lib.hid hno
  have HA := Lib.hid hA
  unfold DeclPost
  clear hno hA
  go_enter Tryd.func14, Tryd.ntmps14
  go_wp2_with (
    at_builtin
    refine wpList_appD (by rfl) (.tmp 3) (.tmp 4) (by rfl) w.heap.size l.length cap (.slice (some ⟨w.heap.size, 0, none⟩) 0 0) A [] l (by rfl) (own_new w) (by rfl) rfl HNo.out hA1 (by simp; omega) (by simp) ?_)
  intro v2 w2 hv2 hg2
  obtain ⟨hB2, hA2, A2, c2, rfl, hC2⟩ := own_copy HA.out HB1.out hv2 hg2 (fun k e => by simpa [Value.ownBlock] using e.symm)
  have HB2 := Lib.hid hB2
  have HC2 := Lib.hid hC2
  clear hv2 hg2 hB2 hA2 hC2 hA1
  go_wp2
  go_ret
  exact ⟨A2, c2, rfl, HC2.out, HB2.out⟩

def BadPost (l : List De) (w : World) (e : Ending) (w' : World) : Prop := e = .returned (.bool (decide ((chk l).2 ≠ 0))) ∧ Below w.heap.size w w'
set_option maxHeartbeats 1000000 in
theorem bad_any (A : Option Addr) (n cap : Nat) (l : List De) (w : World) (hI : LIn w A n cap l) : Calls Tryd.prog 9 #[.slice A n cap] w (BadPost l w) := by
  obtain ⟨_, hnc, hcm, hA, _, hlen⟩ := hI
  have HC : Hid (Calls Tryd.prog 28 #[.slice A n cap] w (ChkPost (chk l) w)) := Lib.hid (by
    by_cases h : n ≤ 100
    · obtain rfl : n = l.length := by omega
      exact refCheck_any A cap l (by omega) w hA
    · rw [chk_long (by omega)]
      exact refCheck_long A cap n (by omega) w)
  unfold ChkPost at HC
  unfold BadPost
  clear hA hlen hnc hcm
  generalize chk l = p at *
  obtain ⟨i, c⟩ := p
  dsimp only at HC ⊢
  by_cases hc : c = 0
  · have hb : ((c : Int) != 0) = false := by simp [hc]
    have HE : Hid (decide (c ≠ 0) = false) := Lib.hid (by simp [hc])
    rw [HE.out]
    clear hc
    go_enter Tryd.func9, Tryd.ntmps9
    go_wp2_with fail
    refine HC.out.mono ?_
    rintro e w1 ⟨rfl, hb1⟩
    go_wp2
    go_ret
    exact ⟨rfl, hb1⟩
  · have hb : ((c : Int) != 0) = true := by simpa using hc
    have HE : Hid (decide (c ≠ 0) = true) := Lib.hid (by simpa using hc)
    rw [HE.out]
    clear hc
    go_enter Tryd.func9, Tryd.ntmps9
    go_wp2_with fail
    refine HC.out.mono ?_
    rintro e w1 ⟨rfl, hb1⟩
    go_wp2
    go_ret
    exact ⟨rfl, hb1⟩

/-- A wait that came in: the first six of its ways, of each the first six needs, all of ints. -/
def WIn (w : World) (A : Option Addr) (n cap : Nat) (l : List (List De)) : Prop := (A = none → n = 0 ∧ cap = 0) ∧ n ≤ cap ∧ cap ≤ 9223372036854775807 ∧ WG w A n l ∧ ∀ x ∈ l, ∀ t ∈ x, Small t
theorem OwnW.whole {W : World} {base n cap : Nat} {A : Option Addr} {l : List (List De)} (h : OwnW W base (.slice A n cap) l) (hl : l.length ≤ 6) (hll : ∀ x ∈ l, x.length ≤ 6) : WG W A l.length l := by
  refine ⟨by omega, fun j hj => ?_⟩
  obtain ⟨xs, h1, h2⟩ := h
  obtain ⟨x, h3, h4⟩ := h2 j hj
  have h6 := hll _ (getW_mem hj)
  rcases h1.2 with ⟨e, h0⟩ | ⟨g, cap', cur, e, hb, hh, _⟩
  · omega
  · injection e with e1 e2 e3
    subst e1
    have hcell : W.cell? ⟨g, 0 + j, none⟩ = some x := by
      have := World.ownsRow.cells h1 (g := g) rfl _ _ h3
      rwa [Addr.add_lit] at this
    rcases h4.2 with ⟨rfl, h0⟩ | ⟨g', c', cur', rfl, hb', hh', hn, hm, _⟩
    · refine ⟨g, 0, none, 0, 0, rfl, lt_of_block hh, hcell, ?_, by omega, Nat.le_refl _, by omega, fun _ => ⟨rfl, rfl⟩⟩
      have := List.length_eq_zero_iff.1 h0
      rw [this]
      exact Go.Proofs.YtfkcmdnnmnkklaaDoor.objs.DAt.nil _ _
    · refine ⟨g, 0, some ⟨g', 0, none⟩, (l.getD j []).length, c', rfl, lt_of_block hh, hcell, h4.at, by omega, hn, by simpa [maxLen] using hm, fun h => by cases h⟩
theorem WG.short {w : World} {A : Option Addr} {n : Nat} {l : List (List De)} (h : WG w A n l) : l.length ≤ 6 ∧ ∀ x ∈ l, x.length ≤ 6 := by
  refine ⟨by have := h.1; omega, fun x hx => ?_⟩
  obtain ⟨j, hj, rfl⟩ := List.getElem_of_mem hx
  obtain ⟨_, _, _, nj, _, _, _, _, _, h5, _⟩ := h.2 j hj
  rw [List.getD_eq_getElem?_getD, List.getElem?_eq_getElem hj, Option.getD_some] at h5
  omega
def OwnPost (l : List (List De)) (w : World) (e : Ending) (w' : World) : Prop := ∃ A2 c2, e = .returned (.slice A2 l.length c2) ∧ WAt w' A2 l ∧ WG w' A2 l.length l ∧ Below w.heap.size w w'
/-- The same, and that its rows are the call's own. -/
def OwnMore (l : List (List De)) (w : World) (e : Ending) (w' : World) : Prop := ∃ A2 c2, e = .returned (.slice A2 l.length c2) ∧ OwnW w' w.heap.size (.slice A2 l.length c2) l ∧ Below w.heap.size w w'
theorem ownN_new (W : World) : OwnN (W.alloc (.cells #[] 59)) W.heap.size (.slice (some ⟨W.heap.size, 0, none⟩) 0 0) [] := OwnN.empty (heap_alloc_new W _)
/-- Behind the copy of a way. -/
theorem ownN_copy {W W2 : World} {v2 : Value} {l : List De} {r : Option Nat} (h1 : OwnN W2 W.heap.size v2 l) (hg : (W.alloc (.cells #[] 59)).grownBy W2 r) (hr : ∀ k, r = some k → k = W.heap.size) : Below W.heap.size W W2 :=
  ((Below.refl _ W).alloc (Nat.le_refl _) _).grown hg (by simp) (fun k e => by rw [hr k e]; exact Nat.le_refl _)
theorem take_more {l : List (List De)} {j : Nat} (h : j < l.length) : l.take (j + 1) = l.take j ++ [l.getD j []] := by
  rw [List.take_add_one, List.getD_eq_getElem?_getD, List.getElem?_eq_getElem h]
  rfl

set_option maxRecDepth 100000 in
set_option maxHeartbeats 8000000 in
theorem own_more (A : Option Addr) (n cap : Nat) (l : List (List De)) (hn : n ≤ 9223372036854775807) (w : World) (hA : WG w A n l) :
    Calls Tryd.prog 11 #[.slice A n cap] w (OwnMore l w) := by
  have HMin := Lib.hid hA.1
  have HSh := Lib.hid hA.short
  have HA := Lib.hid hA
  unfold OwnMore
  clear hA
  go_enter Tryd.func11, Tryd.ntmps11
  have hb0 : Below w.heap.size w (w.alloc (.cells #[] 60)) := (Below.refl _ w).alloc (Nat.le_refl _) _
  have HO0 : Hid (OwnW (w.alloc (.cells #[] 60)) w.heap.size (.slice (some ⟨w.heap.size, 0, none⟩) 0 0) []) := Lib.hid (OwnW.empty (heap_alloc_new w _))
  have HB0 := Lib.hid hb0
  clear hb0
  go_wp2_with fail
  generalize w.alloc (.cells #[] 60) = W0 at *
  go_loopw [3, 4] (fun o i wr => ∃ j : Nat, j ≤ l.length ∧ i = .int .i64 (j : Int) ∧ Hid (OwnW wr w.heap.size o (l.take j)) ∧ Hid (Below w.heap.size w wr)) (fun _ i _ => l.length - (intOf i).toNat)
  case atStart => exact ⟨0, Nat.zero_le _, rfl, HO0, HB0⟩
  case round =>
    obtain ⟨j, hj, rfl, HO, HB⟩ := hrel
    obtain ⟨Ao, co, ho⟩ := HO.out.slice
    have htl : (l.take j).length = j := by rw [List.length_take]; omega
    rw [htl] at ho
    subst ho
    by_cases hlt : j < l.length
    · obtain ⟨b, off, Aj, nj, cj, rfl, hbl, hc, hdj, hmj, hnc, hcm, hno⟩ := (HA.out.next HB.out).2 j hlt
      have HT := Lib.hid (take_more hlt)
      have hlt' : (j : Int) < (n : Int) := by have := HMin.out; omega
      have hlt6 : (j : Int) < 6 := by have := HMin.out; omega
      have hj0 : (0 : Int) ≤ (j : Int) := by omega
      have hj6 : j ≤ 5 := by have := HMin.out; omega
      have hl1 : (l.take j).length ≤ 6 := by omega
      generalize l.getD j [] = lj at *
      generalize l.take j = lt at *
      have hA1 := hdj.next ((Below.refl _ _).alloc (Nat.le_refl _) (.cells #[] 59))
      by_cases h6 : 6 < nj
      · have q6 : decide ((6 : Int) < (nj : Int)) = true := by simp; omega
        obtain ⟨a2, o2, rfl, hbl2, _⟩ := hdj 0 (by omega)
        have hl6 : lj.length = 6 := by omega
        have hc6 : (6 : Int) ≤ (cj : Int) := by omega
        have HBx := Lib.hid (show w.heap.size ≤ wr.heap.size from HB.out.size)
        clear hno hmj
        go_wp2_with (
          at_builtin
          refine wpList_appN (by rfl) (.tmp 27) (.tmp 28) (by rfl) wr.heap.size 6 cj (.slice (some ⟨wr.heap.size, 0, none⟩) 0 0) (some ⟨a2, o2, none⟩) [] lj (by rfl) (ownN_new wr) (by rfl) hl6.symm (fun h => by cases h) hA1 (by simp; omega) (by simp) ?_)
        intro v2 W2 hv2 hg2
        have hb2 := ownN_copy hv2 hg2 (fun k e => by simpa [Value.ownBlock] using e.symm)
        have hO2 := HO.out.next hb2
        have hx2 := hv2.base HBx.out
        obtain ⟨Av, cv, hve⟩ := hv2.slice
        rw [hl6] at hve
        subst hve
        have HB2 := Lib.hid (HB.out.trans (hb2.mono HB.out.size))
        clear hv2 hg2 hA1 hc
        go_wp2_with (
          at_builtin
          refine wpList_appW (w := W2) (by rfl) (.tmp 26) (.tmp 30) (by rfl) w.heap.size 1 (.slice Ao j co) _ lt lj (by rfl) hO2 (by rfl) hx2 (by rfl) (by omega) (HB2.out.size) ?_)
        intro v3 W3 hv3 hg3
        have HO3 := Lib.hid hv3
        have HB3 : Hid (Below w.heap.size w W3) := Lib.hid ((HB2.out.alloc HB2.out.size _).grown hg3 (by simp; have := HB2.out.size; omega) (fun k e => by
          obtain ⟨xs, h1, _⟩ := hO2
          exact (World.ownsRow.lt h1 k e).1))
        clear hv3 hg3 hO2 hx2
        go_wp2
        go_roundw
        case rel => exact ⟨j + 1, by omega, by go_num, by rw [HT.out]; exact HO3, HB3⟩
        case measure => simp [intOf]; omega
      · have q6 : decide ((6 : Int) < (nj : Int)) = false := by simp; omega
        obtain rfl : nj = lj.length := by omega
        have hno2 : Aj = none → lj = [] ∧ cj = 0 := fun h => ⟨List.length_eq_zero_iff.1 (hno h).1, (hno h).2⟩
        have HBx := Lib.hid (show w.heap.size ≤ wr.heap.size from HB.out.size)
        clear hno hmj
        go_wp2_with (
          at_builtin
          refine wpList_appN (by rfl) (.tmp 27) (.tmp 28) (by rfl) wr.heap.size lj.length cj (.slice (some ⟨wr.heap.size, 0, none⟩) 0 0) Aj [] lj (by rfl) (ownN_new wr) (by rfl) rfl hno2 hA1 (by simp; omega) (by simp) ?_)
        intro v2 W2 hv2 hg2
        have hb2 := ownN_copy hv2 hg2 (fun k e => by simpa [Value.ownBlock] using e.symm)
        have hO2 := HO.out.next hb2
        have hx2 := hv2.base HBx.out
        obtain ⟨Av, cv, rfl⟩ := hv2.slice
        have HB2 := Lib.hid (HB.out.trans (hb2.mono HB.out.size))
        clear hv2 hg2 hA1 hc
        go_wp2_with (
          at_builtin
          refine wpList_appW (w := W2) (by rfl) (.tmp 26) (.tmp 30) (by rfl) w.heap.size 1 (.slice Ao j co) _ lt lj (by rfl) hO2 (by rfl) hx2 (by rfl) (by omega) (HB2.out.size) ?_)
        intro v3 W3 hv3 hg3
        have HO3 := Lib.hid hv3
        have HB3 : Hid (Below w.heap.size w W3) := Lib.hid ((HB2.out.alloc HB2.out.size _).grown hg3 (by simp; have := HB2.out.size; omega) (fun k e => by
          obtain ⟨xs, h1, _⟩ := hO2
          exact (World.ownsRow.lt h1 k e).1))
        clear hv3 hg3 hO2 hx2
        go_wp2
        go_roundw
        case rel => exact ⟨j + 1, by omega, by go_num, by rw [HT.out]; exact HO3, HB3⟩
        case measure => simp [intOf]; omega
    · obtain rfl : j = l.length := by omega
      have hall : l.take l.length = l := List.take_length
      rw [hall] at HO
      have hmin := HMin.out
      by_cases hn6 : l.length < n
      · have q1 : (l.length : Int) < (n : Int) := by omega
        have q2 : ¬ (l.length : Int) < 6 := by omega
        have q3 : decide ((l.length : Int) < 6) = false := by simpa using q2
        clear hmin
        go_wp2_with fail
        go_ret
        exact ⟨Ao, co, rfl, HO.out, HB.out⟩
      · have q1 : decide ((l.length : Int) < (n : Int)) = false := by simp; omega
        clear hmin
        go_wp2_with fail
        go_ret
        exact ⟨Ao, co, rfl, HO.out, HB.out⟩
theorem own_any (A : Option Addr) (n cap : Nat) (l : List (List De)) (hn : n ≤ 9223372036854775807) (w : World) (hA : WG w A n l) :
    Calls Tryd.prog 11 #[.slice A n cap] w (OwnPost l w) :=
  (own_more A n cap l hn w hA).mono fun e w' ⟨A2, c2, h1, h2, h3⟩ => ⟨A2, c2, h1, h2.at, h2.whole hA.short.1 hA.short.2, h3⟩
end Go.Proofs.YtfkcmdnnmnkklaaDoor.need
