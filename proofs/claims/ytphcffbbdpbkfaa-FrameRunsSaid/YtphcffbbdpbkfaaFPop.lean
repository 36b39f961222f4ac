/-
  The program's own frames without the top values, and these. At most a thousand frames, each of twenty-seven numbers.
-/
import Derived.Test.YtphcffbbdpbkfaaFMove
namespace Go.Proofs.Ytphcffbbdpbkfaa.frames
open Go.RowKit Go.ChangeShapes
open Go.Proofs.Ytphcffbbdpbkfaa.nums (NAt OwnI wpList_appI)
open Go.Proofs.Ytphcffbbdpbkfaa.within (within_any)
set_option linter.unusedVariables false
set_option linter.unusedSimpArgs false

theorem eqlI (a : Option Addr) (n c : Nat) (w : World) : (binOp .eql 30 (.slice a n c) (.slice none 0 0)).run Try.prog w = .ok (.bool a.isNone) w := Lib.run_eql_slice_nil w 30 _ a n c 0 0 Try.underlying30
set_option maxRecDepth 100000 in
set_option maxHeartbeats 4000000 in
theorem cloneI_any (ad : Addr) (c n : Nat) (l : List Int) (hn : n = l.length) (w : World) (hA : NAt w (some ad) l) (hl : l.length ≤ 1000) :
    Calls Try.prog 21 #[.slice (some ad) n c] w fun e w' => ∃ A' c', e = .returned (.slice A' n c') ∧ OwnI w' w.heap.size (.slice A' n c') l ∧ Below w.heap.size w w' := by
  subst hn
  have hq := eqlI (some ad) l.length c
  have HA := Lib.hid hA
  have HL := Lib.hid hl
  have HE := Lib.hid (heap_alloc_new w (.cells #[] 3))
  have HB := Lib.hid ((Below.refl w.heap.size w).alloc (Nat.le_refl _) (.cells #[] 3))
  clear hA hl
  go_enter Try.func21, Try.ntmps21
  go_wp2_with (at_builtin; refine wpList_appI (by rfl) (.tmp 5) (.tmp 6) (by rfl) w.heap.size l.length c (.slice (some ⟨w.heap.size, 0, none⟩) 0 0) (some ad) [] l (by rfl) (OwnI.empty HE.out) (by rfl) rfl (fun h => by cases h) (HA.out.next HB.out) (by have := HL.out; simp; omega) (by simp) ?_)
  intro v' w' h1 h2
  have HB2 := Lib.hid (HB.out.grown h2 (by simp) (fun k e => by simp [Value.ownBlock] at e; omega))
  try rw [List.nil_append] at h1
  have HR := Lib.hid h1
  obtain ⟨A', c', rfl⟩ := h1.slice
  clear h1 h2
  go_wp2
  go_ret
  exact ⟨A', c', rfl, HR.out, HB2.out⟩

theorem setCells_append (b : Nat) : ∀ (x y : List Value) (o : Nat) (w : World), w.setCells b o (x ++ y) = (w.setCells b o x).setCells b (o + x.length) y := by
  intro x
  induction x with
  | nil => intro y o w; rfl
  | cons v x ih =>
    intro y o w
    show (w.setCell ⟨b, o, none⟩ v).setCells b (o + 1) (x ++ y) = _
    rw [ih, List.length_cons, show o + (x.length + 1) = o + 1 + x.length by omega]
    rfl
theorem Lf.clear {w W : World} {g : Nat} {f : Fr} (h : Lf w W g f) (hl : f.length = 27) {p : Nat} : ∀ n, p + n ≤ 16 → Lf w (W.setCells g (11 + p) (List.replicate n (.int .i64 0))) g (clearF f p n) := by
  intro n
  induction n with
  | zero => intro _; exact h
  | succ n ih =>
    intro hp
    have h1 := ih (by omega)
    rw [List.replicate_succ', setCells_append, List.length_replicate]
    have h2 := h1.set (by rw [(clear_keep f p n).1]; exact hl) (k := 11 + p + n) (by omega) 0
    have e : clearF f p (n + 1) = (clearF f p n).set (11 + p + n) 0 := by
      show (clearF f p n).set (11 + (p + n)) 0 = _
      rw [Nat.add_assoc]
    rw [e]
    exact h2
/-- Places of a frame are cleared; of none of them nothing is asked. -/
theorem clear_run {w W : World} {g : Nat} {f : Fr} (h : Lf w W g f) {p n : Nat} (hp : p + n ≤ 16) (ty : TypeId) (A : Addr) (hA : 0 < n → A = ⟨g, 11 + p, none⟩) (c : Nat) :
    (Builtin.clear_ #[30] ty #[.slice (some A) n c]).run Try.prog W = .ok (.tuple #[]) (W.setCells g (11 + p) (List.replicate n (.int .i64 0))) := by
  cases n with
  | zero => simp [Builtin.clear_, run_underlying Try.underlying30, World.setCells, Sem.run_bind, Sem.run_pure]
  | succ n =>
    obtain rfl := hA (Nat.succ_pos n)
    have hz : ∀ w, (zeroValue 3).run Try.prog w = .ok (.int .i64 0) w := (zero_of_info (P := Try.prog) (t := 3) (v := .int .i64 0) (n := 1) (by kernel_rfl)).1
    exact Lib.run_clear_slice W 30 3 ty (.int .i64 0) Try.underlying30 hz rfl rfl g (11 + p) (n + 1) c (Nat.succ_pos n) (fun j hj => by rw [cell_block h.block (by omega)]; rfl) (fun j hj => free_block h.block _)
section
variable {ops : Array Oper} {rest : List Oper} {o : Oper} {a : Act} {w : World} {Q : Exit → Act → World → Prop}
theorem wl_clear (hgd : o.guard = none) (x : Operand) (ho : o.op = .call { callee := .builtin .clear, args := #[x], argTypes := #[30] }) (v : Value) (W' : World) (hx : a.eval x = v)
    (hr : ∀ ty, (Builtin.clear_ #[30] ty #[v]).run Try.prog w = .ok (.tuple #[]) W')
    (h : wpList Try.prog ops Q rest (a.put o.dst (.tuple #[])) W') : wpList Try.prog ops Q (o :: rest) a w :=
  wpList_plain hgd fun K hK => by
    unfold Oper.wp execOp
    simp only [ho, resolve, invoke, builtin, Sem.run_bind, Sem.run_pure, Result.andThen_ok, List.map_toArray, List.map_cons, List.map_nil, hx, hr]
    exact hK _ _ h
end
set_option maxRecDepth 100000 in
/-- The top values of a frame, as a slice of its places: the place is told only where there are some. -/
theorem slice_top (g p q : Nat) (h : p ≤ q) (h16 : q ≤ 16) : ∃ A : Addr, (0 < q - p → A = ⟨g, 11 + p, none⟩) ∧ ∀ W : World, (Instr.sliceAt 43 (.pointer (some ⟨g, 11, none⟩)) (some (.int .i64 (p : Int))) (some (.int .i64 (q : Int))) none).run Try.prog W = .ok (.slice (some A) (q - p) (16 - p)) W := by
  have hal : Try.prog.arrayLen 43 = 16 := by kernel_rfl
  have hw : ∀ W, (Instr.sliceAt 43 (.pointer (some ⟨g, 11, none⟩)) (some (.int .i64 (p : Int))) (some (.int .i64 (q : Int))) none).run Try.prog W = .ok (slicedAt ⟨g, 11, none⟩ p q 16 1) W := fun W => by
    rw [run_sliceAt_array_lh W 43 ⟨g, 11, none⟩ (by kernel_rfl) .i64 .i64 (p : Int) (q : Int) (by omega) (by omega) (by rw [hal]; omega), hal]
    rfl
  refine ⟨if 16 = p then ⟨g, 11, none⟩ else (⟨g, 11, none⟩ : Addr).add (p * 1), fun h => ?_, fun W => ?_⟩
  · rw [if_neg (by omega)]
    rw [Addr.add_lit, Nat.mul_one]
  · rw [hw W]
    rfl
theorem top_nums {W : World} {g : Nat} {f : Fr} (h : W.heap[g]? = some (frB f)) {p n : Nat} (hp : p + n ≤ 16) {A : Addr} (hA : 0 < n → A = ⟨g, 11 + p, none⟩) : NAt W (some A) (valsF f p n) := fun j hj => by
  have hj' : j < n := by unfold valsF at hj; simpa using hj
  obtain rfl := hA (by omega)
  refine ⟨g, 11 + p, rfl, lt_of_block h, (cell_block h (by omega)).trans ?_⟩
  unfold valsF
  rw [List.getD_eq_getElem?_getD, List.getElem?_map, List.getElem?_range hj']
  simp [Nat.add_assoc]
theorem heap_cells (g : Nat) : ∀ (vs : List Value) (o : Nat) (w : World) (i : Nat), i ≠ g → (w.setCells g o vs).heap[i]? = w.heap[i]? := by
  intro vs
  induction vs with
  | nil => intro o w i h; rfl
  | cons v vs ih => intro o w i h; exact (ih _ _ i h).trans (Below.heap_setCell _ _ _ _ h)
theorem owni_cells {w : World} {base : Nat} {v : Value} {l : List Int} (h : OwnI w base v l) {g : Nat} (hg : g < base) (o : Nat) (vs : List Value) : OwnI (w.setCells g o vs) base v l :=
  h.keep fun k hk => heap_cells g vs o w k (by have := (h.lt hk).1; omega)

set_option maxRecDepth 100000 in
set_option maxHeartbeats 8000000 in
theorem pop_any (A : Option Addr) (c : Nat) (l : List Fr) (k : Int) (w : World) (hI : In w A c l) (hg : Good l) :
    Calls Try.prog 7 #[.slice A l.length c, .int .i64 k] w (PopPost (popF l k) w) := by
  obtain ⟨r, hr⟩ : ∃ r, r = popF l k := ⟨_, rfl⟩
  rw [← hr]
  unfold popF at hr
  unfold PopPost
  have HI := Lib.hid hI
  by_cases h0 : l.length = 0
  · rw [if_pos (.inl h0)] at hr
    subst hr
    have HLa := Lib.hid (last_none A c w)
    rw [h0]
    clear h0 hI hg
    go_enter Try.func7, Try.ntmps7
    go_wp2_with fail
    refine HLa.out.mono ?_
    rintro _ w1 ⟨rfl, hb1⟩
    have HL := Lib.hid (lf_new hb1 zeroF)
    clear hb1 HLa
    go_upto_region 2 with (first | refine wl_alloc rfl rfl ?_ | refine wl_store rfl _ _ rfl w1 zeroF _ rfl rfl rfl ?_)
    try simp only [Act.put, List.setIfInBounds_toArray, List.set_cons_zero, List.set_cons_succ]
    generalize hg0 : w1.heap.size = g at *
    generalize w1.alloc (frB zeroF) = W2 at *
    go_wp2
    go_ret3
    exact ⟨HL.out.below, rfl⟩
  have HLa := Lib.hid (last_any A c l w hI h0 (hg.2 _ (top_mem h0)))
  obtain ⟨g1, g2, g3⟩ := hg.2 _ (top_mem h0)
  have hcn : num (topF l) 2 = cnt (topF l) := rfl
  have H0 := Lib.hid h0
  by_cases hk : 0 ≤ k ∧ k ≤ cnt (topF l)
  · rw [if_neg (by rintro (e | e | e | e) <;> omega)] at hr
    obtain ⟨n, rfl⟩ : ∃ n : Nat, k = (n : Int) := ⟨k.toNat, by omega⟩
    obtain ⟨q, hq⟩ : ∃ q : Nat, cnt (topF l) = (q : Int) := ⟨(cnt (topF l)).toNat, by omega⟩
    obtain ⟨p, hp⟩ : ∃ p : Nat, q = p + n := ⟨q - n, by omega⟩
    have hpn : p + n ≤ 16 := by omega
    have HPn := Lib.hid hpn
    have e1 : (cnt (topF l) - (n : Int)).toNat = p := by omega
    have hpop : popped (topF l) (n : Int) = (clearF (topF l) p n).set 2 (p : Int) := by
      unfold popped
      rw [e1, Int.toNat_natCast, show cnt (topF l) - (n : Int) = (p : Int) by omega]
    rw [hpop, e1, Int.toNat_natCast] at hr
    rw [hq] at hcn
    have HWi := Lib.hid (within_any (n : Int) 0 (q : Int))
    rw [show decide (0 ≤ (n : Int) ∧ (n : Int) ≤ (q : Int)) = true from decide_eq_true (by omega)] at HWi
    have hws : IntKind.i64.wrap ((q : Int) - (n : Int)) = (p : Int) := by rw [IntKind.wrap_i64]; omega
    have hl27 : ((clearF (topF l) p n).set 2 (p : Int)).length = 27 := by rw [List.length_set, (clear_keep _ p n).1]; exact g1
    have HWc := fun W (h : Below w.heap.size w W) => Lib.hid (changed_any A c l ((clearF (topF l) p n).set 2 (p : Int)) W (hI.next h) h0)
    have HWa := Lib.hid (with_all hI.all hl27)
    have HWl := Lib.hid (with_length (f := (clearF (topF l) p n).set 2 (p : Int)) h0)
    have HVl : Hid ((valsF (topF l) p n).length = n) := Lib.hid (by unfold valsF; rw [List.length_map, List.length_range])
    have HLn := Lib.hid hI.len
    have HG1 := Lib.hid g1
    obtain ⟨ft, hft⟩ : ∃ ft, ft = (clearF (topF l) p n).set 2 (p : Int) := ⟨_, rfl⟩
    have HFt := Lib.hid hft
    rw [← hft] at hr HWc HWa HWl
    subst hr
    clear hI h0 g2 g3 hk hq e1 hpop hl27 hft hg
    generalize topF l = f at *
    generalize hL0 : l.length = L at *
    have HQ := Lib.hid hp
    have HCn := Lib.hid hcn
    clear hp
    go_enter Try.func7, Try.ntmps7
    go_wp2_with fail
    refine HLa.out.mono ?_
    rintro _ w1 ⟨rfl, hb1⟩
    have hL := lf_new hb1 f
    have HL := Lib.hid hL
    have x2 := cell_block hL.block (k := 2) (by omega)
    rw [hcn] at x2
    clear hb1 HLa hL hcn
    go_upto_region 2 with (first | refine wl_alloc rfl rfl ?_ | refine wl_store rfl _ _ rfl w1 zeroF _ rfl rfl rfl ?_)
    try simp only [Act.put, List.setIfInBounds_toArray, List.set_cons_zero, List.set_cons_succ]
    generalize hg0 : w1.heap.size = g at *
    generalize w1.alloc (frB f) = W2 at *
    obtain ⟨Ad, hAd, hsl⟩ := slice_top g p q (by have := HQ.out; omega) (by have := HQ.out; omega)
    rw [show q - p = n by have := HQ.out; omega] at hAd hsl
    have HAd := Lib.hid hAd
    clear hAd hpn
    have HCl := Lib.hid (cloneI_any Ad (16 - p) n (valsF f p n) HVl.out.symm W2 (top_nums HL.out.block HPn.out HAd.out) (by rw [HVl.out]; have := HPn.out; omega))
    go_wp2_with (first | (refine (HWi.out _).mono ?_; rintro _ _ ⟨rfl, rfl⟩))
    refine HCl.out.mono ?_
    rintro _ w3 ⟨B, d, rfl, hO3, hb3⟩
    have hgW : g < W2.heap.size := lt_of_block HL.out.block
    have HL3 : Hid (Lf w w3 g f) := Lib.hid ⟨(hb3.block g hgW).trans HL.out.block, HL.out.far, HL.out.below.trans (hb3.mono HL.out.below.size)⟩
    have HO4 := Lib.hid (owni_cells hO3 hgW (11 + p) (List.replicate n (.int .i64 0)))
    have HL4 := Lib.hid (HL3.out.clear HG1.out n HPn.out)
    have HgW := Lib.hid hgW
    clear x2 hsl HCl hO3 hb3 hgW
    go_upto_region 7 with (first | refine wl_clear rfl _ rfl (.slice (some Ad) n (16 - p)) _ rfl (fun ty => clear_run HL3.out HPn.out ty Ad HAd.out (16 - p)) ?_)
    generalize w3.setCells g (11 + p) (List.replicate n (.int .i64 0)) = W4 at *
    have x2 : W4.cell? ⟨g, 2, none⟩ = some (.int .i64 (q : Int)) := (cell_block HL4.out.block (k := 2) (by omega)).trans (by rw [show num (clearF f p n) 2 = cnt (clearF f p n) from rfl, (clear_keep f p n).2, show cnt f = num f 2 from rfl, HCn.out])
    have f2 := free_block HL4.out.block 2
    have HL5 : Hid (Lf w (W4.setCell ⟨g, 2, none⟩ (.int .i64 (p : Int))) g ft) := Lib.hid (by rw [HFt.out]; exact HL4.out.set (by rw [(clear_keep f p n).1]; exact HG1.out) (by omega) _)
    have HO5 : Hid (OwnI (W4.setCell ⟨g, 2, none⟩ (.int .i64 (p : Int))) W2.heap.size (.slice B n d) (valsF f p n)) := Lib.hid (HO4.out.keep fun k hk => Below.heap_setCell _ _ _ _ (by have := (HO4.out.lt hk).1; have := HgW.out; show k ≠ g; omega))
    go_upto_region 8 with fail
    try simp only [Act.put, List.setIfInBounds_toArray, List.set_cons_zero, List.set_cons_succ]
    generalize W4.setCell ⟨g, 2, none⟩ (.int .i64 (p : Int)) = W5 at *
    have HN5 := Lib.hid HO5.out.at
    clear x2 f2
    have HFp : Hid (FCells W5 g 0 ft) := Lib.hid (FCells.of_block HL5.out.block)
    have HC5 := HWc W5 HL5.out.below
    go_wp2_with (first | refine wl_load rfl _ rfl g 0 rfl ft HFp.out ?_)
    refine HC5.out.mono ?_
    rintro _ w5 ⟨A5, c5, rfl, hO6, hb6⟩
    have HB6 := Lib.hid (HL5.out.below.trans (hb6.mono HL5.out.below.size))
    have HO6 := Lib.hid (hO6.base HL5.out.below.size)
    have HI6 := Lib.hid (hO6.ins (by rw [HWl.out]; exact HLn.out) HWa.out)
    have HN6 := Lib.hid (HN5.out.next hb6)
    clear hO6 hb6 HC5
    go_wp2_with fail
    go_ret3
    exact ⟨HB6.out, A5, c5, B, d, by rw [HVl.out]; rfl, HI6.out, HN6.out, HO6.out⟩
  · rw [if_pos (by
      by_cases e : k < 0
      · exact .inr (.inl e)
      · exact .inr (.inr (.inl (by omega))))] at hr
    subst hr
    have HWi := Lib.hid (within_any k 0 (cnt (topF l)))
    rw [decide_eq_false hk] at HWi
    clear hI h0 g1 g2 g3 hk hg
    generalize topF l = f at *
    generalize hL0 : l.length = L at *
    generalize cnt f = N at *
    go_enter Try.func7, Try.ntmps7
    go_wp2_with fail
    refine HLa.out.mono ?_
    rintro _ w1 ⟨rfl, hb1⟩
    have hL := lf_new hb1 f
    have HL := Lib.hid hL
    have x2 := cell_block hL.block (k := 2) (by omega)
    rw [hcn] at x2
    clear hb1 HLa hL hcn
    go_upto_region 2 with (first | refine wl_alloc rfl rfl ?_ | refine wl_store rfl _ _ rfl w1 zeroF _ rfl rfl rfl ?_)
    try simp only [Act.put, List.setIfInBounds_toArray, List.set_cons_zero, List.set_cons_succ]
    generalize hg0 : w1.heap.size = g at *
    generalize w1.alloc (frB f) = W2 at *
    go_wp2_with (first | (refine (HWi.out _).mono ?_; rintro _ _ ⟨rfl, rfl⟩))
    go_ret3
    exact ⟨HL.out.below, rfl⟩
end Go.Proofs.Ytphcffbbdpbkfaa.frames
