/-
  The library's calls at pairs: IndexFunc with the program's closure, Clone, Reverse, SortFunc with the program's order, Delete of one (typed over the code of cce19aa; the library's own contracts, laid by tools/shelfg.sh). No condition.
-/
import Derived.Test.YtlkcpplpjjbiaaaReRow
import Derived.Test.YtlkcpplpjjbiaaaShelf
import Derived.Lib.Small
import Derived.Lib.SliceRun
import Derived.Deep.LoopGhost
namespace Go.Proofs.Ytlkcpplpjjbiaaa.reg
open Go.RowKit Go.ChangeShapes
open Go.Proofs.Ytlkcpplpjjbiaaa.pr (SAt Own encP encP_len encP_one flat flat_length flat_oneCell infoS)
set_option linter.unusedVariables false
set_option linter.unusedSimpArgs false

/-- The closure by which an object is found. -/
theorem pred_any (o : Int) (B : Nat) (w : World) (hB : B < w.heap.size) (hcell : w.cell? ⟨B, 0, none⟩ = some (.int .i64 o)) :
    PredBelow Try.prog 43 #[.pointer (some ⟨B, 0, none⟩)] (fun x : E => .agg (encP x).toArray) (fun x => x.1 == o) w := fun W x hb => by
  have hc : W.cell? ⟨B, 0, none⟩ = some (.int .i64 o) := (hb.cell (p := ⟨B, 0, none⟩) hB).trans hcell
  have hBW : B < W.heap.size := Nat.lt_of_lt_of_le hB hb.size
  have hne : B ≠ W.heap.size := by omega
  show Calls Try.prog 43 #[.agg #[.int .i64 x.1, .int .i64 x.2], .pointer (some ⟨B, 0, none⟩)] W _
  go_enter Try.func43, Try.ntmps43
  go_wp2
  go_ret
  exact ⟨by simp, hb.alloc hb.size _⟩
theorem index_nil (f : Value) (w : World) : Calls Try.prog 42 #[.slice none 0 0, f] w fun e w' => e = .returned (.int .i64 (-1)) ∧ w = w' := by
  go_enter Try.func42, Try.ntmps42
  go_wp2
  go_loopg [5, 8] 0 (fun gg _ s8 wr => s8 = .int .i64 0 ∧ wr = w)
  case atStart => exact ⟨rfl, rfl⟩
  case round =>
    obtain ⟨rfl, rfl⟩ := hrel
    go_wp2
    go_ret
    exact ⟨rfl, rfl⟩
theorem find_nil (o : Int) (w : World) : Calls Try.prog 32 #[.slice none 0 0, .int .i64 o] w fun e w' => e = .returned (.int .i64 (-1)) ∧ Below w.heap.size w w' := by
  go_enter Try.func32, Try.ntmps32
  go_wp2_with (refine (index_nil _ _).mono ?_; rintro e w' ⟨rfl, rfl⟩)
  go_ret
  exact ⟨rfl, (Below.refl _ w).alloc (Nat.le_refl _) _⟩
set_option maxHeartbeats 1000000 in
theorem find_some (w : World) (b n cap : Nat) (l : List E) (o r : Int) (hr : Own w 0 (.slice (some ⟨b, 0, none⟩) n cap) l) (hx : Lib.idxBy (fun _ y => y.1 == o) (l.take n) (0, 0) = r) :
    Calls Try.prog 32 #[.slice (some ⟨b, 0, none⟩) n cap, .int .i64 o] w fun e w' => e = .returned (.int .i64 r) ∧ Below w.heap.size w w' := by
  have eg : ∀ args w, (callFunc 43 args).run Try.prog w = .ok (.enter 43 args) w := enters_of Try.func43 (by kernel_rfl) rfl
  have hn := hr.len
  have hcap := hr.cap
  have hb := (hr.lt (g := b) rfl).2
  have hcon := AnyQ.slices_IndexFunc Try.layIdx 2 Try.isAgg47 Try.sizeOf47 encP encP_len (fun x => x.1 == o) 43 #[.pointer (some ⟨w.heap.size, 0, none⟩)] eg b 0 n cap l (w.alloc (.cells #[.int .i64 o] 3))
    (pred_any o w.heap.size _ (by simp) (by simp)) (by omega) (by omega) (by simp; omega) (fun j hj i v hi => by
      refine Lib.cell?_alloc_some _ ?_
      have h1 := hr.cell hj
      rw [← pr.getD_arr l j hj] at h1
      have e : l[j]! = l.toArray[j]! := by simp
      rw [e] at hi
      generalize l.toArray[j]! = y at hi h1
      rw [Nat.zero_add]
      match i, hi with
      | 0, hi => simp [encP] at hi; rw [← hi]; exact h1.1
      | 1, hi => simp [encP] at hi; rw [← hi]; exact h1.2.1
      | i + 2, hi => simp [encP] at hi)
  change Calls Try.prog 42 _ _ _ at hcon
  rw [show (default : E) = (0, 0) from rfl, hx] at hcon
  have HC := Lib.hid hcon
  have HB := Lib.hid ((Below.refl _ w).alloc (Nat.le_refl _) (.cells #[.int .i64 o] 3))
  clear hcon hr hx hn hcap hb
  go_enter Try.func32, Try.ntmps32
  go_wp2_with (refine HC.out.mono ?_; rintro e w' ⟨rfl, hb'⟩)
  go_ret
  exact ⟨rfl, HB.out.trans (hb'.mono HB.out.size)⟩
theorem getD_get (l : List E) (k : Nat) (hk : k < l.length) : l[k]! = l.getD k (0, 0) := by
  rw [List.getD_eq_getElem?_getD, List.getElem?_eq_getElem hk]
  simp [hk]
theorem find_stands (w : World) (v : Value) (l : List E) (o : Int) (k : Nat) (hr : Own w 0 v l) (hk : Stands l o k) :
    Calls Try.prog 32 #[v, .int .i64 o] w fun e w' => e = .returned (.int .i64 (k : Int)) ∧ Below w.heap.size w w' := by
  obtain ⟨b, cap, rfl, _⟩ := hr.where_ (fun e => by have := hk.1; rw [e] at this; exact absurd this (Nat.not_lt_zero _))
  refine find_some w b _ cap l o _ hr (Lib.idxBy_hit (fun _ y => y.1 == o) l l.length k (0, 0) hk.1 (Nat.le_refl _) ?_ fun j hj => ?_)
  · rw [getD_get l k hk.1]
    simpa using hk.2.1
  · have h1 := hk.1
    rw [getD_get l j (by omega)]
    simpa using hk.2.2 j hj
theorem find_lacks (w : World) (v : Value) (l : List E) (o : Int) (hr : Own w 0 v l) (hk : Lacks l o) :
    Calls Try.prog 32 #[v, .int .i64 o] w fun e w' => e = .returned (.int .i64 (-1)) ∧ Below w.heap.size w w' := by
  rcases hr.2 with ⟨rfl, h0⟩ | ⟨b, cap, cur, rfl, _⟩
  · exact find_nil o w
  · refine find_some w b _ cap l o _ hr (Lib.idxBy_miss (fun _ y => y.1 == o) l l.length (0, 0) fun j hj => ?_)
    rw [getD_get l j hj]
    simpa using hk j hj

theorem eql_slice (a : Option Addr) (n c : Nat) (w : World) : (binOp .eql 44 (.slice a n c) (.slice none 0 0)).run Try.prog w = .ok (.bool a.isNone) w := Lib.run_eql_slice_nil w 44 _ a n c 0 0 Try.underlying44
theorem sliceClone_nil (w : World) :
    Calls Try.prog 33 #[.slice none 0 0] w fun e w' => e = .returned (.slice none 0 0) ∧ w = w' := by
  have hq := eql_slice none 0 0
  go_enter Try.func33, Try.ntmps33
  go_wp2
  go_ret
  exact ⟨rfl, rfl⟩
theorem sliceClone_some (w : World) (b cap : Nat) (l : List E) (hr : Own w 0 (.slice (some ⟨b, 0, none⟩) l.length cap) l) (hl : l.length ≤ 4096) :
    Calls Try.prog 33 #[.slice (some ⟨b, 0, none⟩) l.length cap] w fun e w' => ∃ v', e = .returned v' ∧ Own w' w.heap.size v' l ∧ Below w.heap.size w w' := by
  have hq := eql_slice (some ⟨b, 0, none⟩) l.length cap
  obtain ⟨i, hi, hz0, hz1, hz2⟩ := info_parts infoS
  have hW : Own (w.alloc (.cells #[] 47)) 0 (.slice (some ⟨b, 0, none⟩) l.length cap) l := hr.next ((Below.refl _ w).alloc (Nat.le_refl _) _)
  have hN : Own (w.alloc (.cells #[] 47)) w.heap.size (.slice (some ⟨w.heap.size, 0, none⟩) 0 0) [] := Own.empty (heap_alloc_new w _)
  have hc : ∀ (j : Nat) (u : Value), (flat l)[j]? = some u → (w.alloc (.cells #[] 47)).cell? ((⟨b, 0, none⟩ : Addr).add j) = some u := fun j u hu => World.ownsRow.cells hW (g := b) rfl j u hu
  have hB := (Below.refl w.heap.size w).alloc (Nat.le_refl _) (.cells #[] 47)
  have HB := Lib.hid hB
  have HL := Lib.hid hl
  clear hr hB hW
  go_enter Try.func33, Try.ntmps33
  go_wp2_with (at_builtin; refine wpList_append_own_at _ (by rfl) (.tmp 5) (.tmp 6) 44 (by rfl) w.heap.size 47 i _ 2 16 Try.underlying44 hi hz0 hz1 hz2 rfl (by omega) (.slice (some ⟨w.heap.size, 0, none⟩) 0 0) 0 [] (by rfl) hN ⟨b, 0, none⟩ l.length cap (flat l) (by rfl) (flat_length l) hc (flat_oneCell l) (by unfold maxLen; omega) (by omega) (by simp) ?_)
  intro v' w' h1 h2 h3 _
  have HB2 : Hid (Below w.heap.size w w') := HB.out.grown h2 (by simp) (fun k e => by simp [Value.ownBlock] at e; omega)
  have HR : Hid (Own w' w.heap.size v' l) := Lib.hid (by
    unfold Own
    exact h1)
  clear h1 h2 h3 hN hc
  go_wp2
  go_ret
  exact ⟨v', rfl, HR.out, HB2.out⟩
theorem sliceClone_any (w : World) (v : Value) (l : List E) (hr : Own w 0 v l) (hl : l.length ≤ 4096) :
    Calls Try.prog 33 #[v] w fun e w' => ∃ v', e = .returned v' ∧ Own w' w.heap.size v' l ∧ Below w.heap.size w w' := by
  rcases hr.2 with ⟨rfl, h0⟩ | ⟨b, cap, cur, rfl, _⟩
  · have hn : l = [] := List.eq_nil_of_length_eq_zero h0
    subst hn
    refine (sliceClone_nil w).mono ?_
    rintro e w' ⟨rfl, rfl⟩
    exact ⟨_, rfl, Own.nil _ _, Below.refl _ _⟩
  · exact sliceClone_some w b cap l hr hl

/-- What a sort or a reversal leaves as it was. -/
theorem below_putRow (B b n : Nat) (d : Array E) (w : World) (hb : B ≤ b) : Below B w (Go.Sort.putRowK encP 2 (Go.Sort.ahead w n) b 0 d) :=
  ⟨rfl, rfl, rfl, by simp [Go.Sort.putRowK, Go.Sort.ahead], fun k hk => by
    unfold Go.Sort.putRowK Go.Sort.putRow Go.Sort.mapBlock
    simp only [Array.getElem?_modify]
    rw [if_neg (by omega)]
    rfl⟩
theorem below_sorted (B b n : Nat) (d : Array E) (os : Array Obj) (w : World) (hb : B ≤ b) (hw : B ≤ w.heap.size) : Below B w (sortWorldK encP 2 w b 0 n d os) := by
  have h := below_putRow B b n d w hb
  refine ⟨h.os, h.tape, h.output, Nat.le_trans h.size (by simp [sortWorldK, Go.Sort.grow]), fun k hk => ?_⟩
  rw [← h.block k hk]
  unfold sortWorldK Go.Sort.grow
  show ((Go.Sort.putRowK encP 2 (Go.Sort.ahead w n) b 0 d).heap ++ os)[k]? = _
  rw [Array.getElem?_append_left (by have := h.size; omega)]
/-- The row of a call's own, turned round. -/
theorem reverse_any (w : World) (base : Nat) (v : Value) (l : List E) (hr : Own w base v l) (hbase : base ≤ w.heap.size) (hl : l.length ≤ 4096) :
    Calls Try.prog 34 #[v] w fun e w' => e = .returned (.tuple #[]) ∧ ∃ A cap, v = .slice A l.length cap ∧ SAt w' (fun b => base ≤ b) A l.reverse ∧ Below base w w' := by
  rcases hr.2 with ⟨rfl, h0⟩ | ⟨b, cap, cur, rfl, hb, _⟩
  · have hn : l = [] := List.eq_nil_of_length_eq_zero h0
    subst hn
    refine (AnyQ.slices_Reverse_empty Try.layRev none 0 w).mono ?_
    rintro e w' ⟨rfl, rfl⟩
    exact ⟨rfl, none, 0, rfl, SAt.nil _ _ _, Below.refl _ _⟩
  · have hbs := (hr.lt (g := b) rfl).2
    have hcon := AnyQ.slices_Reverse Try.layRev 2 Try.isAgg47 Try.sizeOf47 encP encP_len encP_one b 0 cap l.toArray w hr.holds (by simp; omega)
    refine Calls.mono (P := Try.prog) (f := 34) hcon ?_
    rintro e w' ⟨rfl, n, rfl⟩
    have hB := below_putRow base b n l.toArray.reverse w hb
    have hH := Go.Sort.holdsK_putRowK encP 2 (Go.Sort.ahead w n) b 0 l.toArray l.toArray.reverse (Go.Sort.holdsK_ahead encP 2 w n b 0 l.toArray hr.holds) (by simp)
    have hS := SAt.of_holds hH (Nat.lt_of_lt_of_le hbs (below_putRow 0 b n l.toArray.reverse w (Nat.zero_le _)).size)
    refine ⟨rfl, _, _, rfl, ?_, hB⟩
    have e : (l.toArray.reverse).toList = l.reverse := by simp
    rw [e] at hS
    exact hS.base fun j hj _ => by rw [hj]; exact hb

theorem nan_any (n : Int) (w : World) : Calls Try.prog 46 #[.int .i64 n] w fun e w' => e = .returned (.bool false) ∧ w = w' := by
  go_enter Try.func46, Try.ntmps46
  go_wp2
  go_ret
  exact ⟨by simp, rfl⟩
set_option maxHeartbeats 1000000 in
theorem compare_any (a b : Int) (w : World) : Calls Try.prog 38 #[.int .i64 a, .int .i64 b] w fun e w' => e = .returned (.int .i64 (Lib.compareInt a b)) ∧ w = w' := by
  unfold Lib.compareInt
  by_cases h1 : a < b
  · rw [if_pos h1]
    have d1 : decide (a < b) = true := decide_eq_true h1
    go_enter Try.func38, Try.ntmps38
    go_wp2_with (refine (nan_any _ _).mono ?_; rintro _ _ ⟨rfl, rfl⟩)
    go_ret
    exact ⟨rfl, rfl⟩
  · rw [if_neg h1]
    have d1 : decide (a < b) = false := decide_eq_false h1
    by_cases h2 : b < a
    · rw [if_pos h2]
      have d2 : decide (b < a) = true := decide_eq_true h2
      have d3 : decide (a > b) = true := decide_eq_true h2
      go_enter Try.func38, Try.ntmps38
      go_wp2_with (refine (nan_any _ _).mono ?_; rintro _ _ ⟨rfl, rfl⟩)
      go_ret
      exact ⟨rfl, rfl⟩
    · rw [if_neg h2]
      have d2 : decide (b < a) = false := decide_eq_false h2
      have d3 : decide (a > b) = false := decide_eq_false h2
      go_enter Try.func38, Try.ntmps38
      go_wp2_with (refine (nan_any _ _).mono ?_; rintro _ _ ⟨rfl, rfl⟩)
      go_ret
      exact ⟨rfl, rfl⟩
/-- The program's order. -/
def cf (x y : E) : Int := Lib.compareInt x.1 y.1
set_option maxHeartbeats 1000000 in
theorem order_any (x y : E) (W : World) : Calls Try.prog 37 #[.agg #[.int .i64 x.1, .int .i64 x.2], .agg #[.int .i64 y.1, .int .i64 y.2]] W fun e w' => e = .returned (.int .i64 (cf x y)) ∧ ∃ q os', w' = Go.Sort.grow (W.drewN q) os' := by
  have hcon := Lib.hid (fun W' => compare_any x.1 y.1 W')
  unfold cf
  generalize Lib.compareInt x.1 y.1 = r at hcon ⊢
  go_enter Try.func37, Try.ntmps37
  go_wp2_with (refine (hcon.out _).mono ?_; rintro e w' ⟨rfl, rfl⟩)
  go_ret
  exact ⟨rfl, 0, _, by rw [Go.Sort.alloc_eq_grow, Go.Sort.alloc_eq_grow, Go.Sort.grow_grow]; rfl⟩
theorem lt_cf (x y : E) : ltOf cf x y = decide (x.1 < y.1) := by
  unfold ltOf cf Lib.compareInt
  by_cases h1 : x.1 < y.1
  · simp [h1]
  · by_cases h2 : y.1 < x.1 <;> simp [h1, h2]
theorem swo_cf : Go.Sort.SWO (ltOf cf) where
  irrefl x := by rw [lt_cf]; simp
  trans x y z h1 h2 := by rw [lt_cf] at *; simp at *; omega
  ntrans x y z h1 h2 := by rw [lt_cf] at *; simp at *; omega
theorem len0_any (w : World) : Calls Try.prog 45 #[.int .u64 0] w fun e w' => e = .returned (.int .i64 ((Lib.bitLen 0 : Nat) : Int)) ∧ w' = w :=
  Any.bits_Len (SlLaysF0.n15.bits (P := Try.prog) (ρ := Try.laySort_ren) { Try.laySort with }) 0 w (by omega) (by omega)
set_option maxRecDepth 1000000 in
set_option maxHeartbeats 4000000 in
theorem insert_nil (f : Value) (w : World) : Calls Try.prog 52 #[.slice none 0 0, .int .i64 0, .int .i64 0, f] w fun e w' => e = .returned (.tuple #[]) ∧ w = w' := by
  go_enter Try.func52, Try.ntmps52
  go_wp2
  go_loopg [8] 0 (fun gg s8 wr => s8 = .int .i64 1 ∧ wr = w)
  case atStart => exact ⟨rfl, rfl⟩
  case round =>
    obtain ⟨rfl, rfl⟩ := hrel
    go_wp2
    go_end0
    exact ⟨rfl, rfl⟩
set_option maxRecDepth 1000000 in
set_option maxHeartbeats 4000000 in
theorem pdq_nil (k : Int) (f : Value) (w : World) : Calls Try.prog 44 #[.slice none 0 0, .int .i64 0, .int .i64 0, .int .i64 k, f] w fun e w' => e = .returned (.tuple #[]) ∧ w = w' := by
  go_enter Try.func44, Try.ntmps44
  go_wp2
  go_loopg [1, 2] 0 (fun gg s1 s2 wr => s1 = .int .i64 0 ∧ s2 = .int .i64 0 ∧ wr = w)
  case atStart => exact ⟨rfl, rfl, rfl⟩
  case round =>
    obtain ⟨rfl, rfl, rfl⟩ := hrel
    go_wp2_with (refine (insert_nil _ _).mono ?_; rintro e w' ⟨rfl, rfl⟩)
    (try simp only [Exit.inBlock, Exit.then]); refine bodyPost_ret (results_none rfl _ _ _) rfl ?_
    exact ⟨rfl, rfl⟩
theorem sort_nil (f : Value) (w : World) : Calls Try.prog 36 #[.slice none 0 0, f] w fun e w' => e = .returned (.tuple #[]) ∧ w = w' := by
  have HL := Lib.hid (fun W => len0_any W)
  have HP := Lib.hid (fun k W => pdq_nil k f W)
  generalize ((Lib.bitLen 0 : Nat) : Int) = q at *
  go_enter Try.func36, Try.ntmps36
  go_wp2_with (first
    | (go_at_call 45; refine (HL.out _).mono ?_; rintro e w' ⟨rfl, rfl⟩)
    | (go_at_call 44; refine (HP.out _ _).mono ?_; rintro e w' ⟨rfl, rfl⟩))
  go_end0
  exact ⟨rfl, rfl⟩
theorem sorted_is {l g : List E} {d : Array E} (ho : Others l) (hg : Rises g) (hs : ∀ p, p ∈ l ↔ p ∈ g) (hp : Go.Sort.PermIn 0 l.toArray.size l.toArray d) (hd : Go.Sort.SortedIn (ltOf cf) 0 l.toArray.size d) : d.toList = g := by
  obtain ⟨h1, _, h3⟩ := hp
  have hsz : d.size = l.length := by simpa using h1
  have hperm : d.toList.Perm l := by
    have e1 : (d.extract 0 l.toArray.size).toList = d.toList := by
      rw [show l.toArray.size = d.size by rw [hsz]; simp]
      simp
    have e2 : (l.toArray.extract 0 l.toArray.size).toList = l := by simp
    rwa [e1, e2] at h3
  have hoth : Others d.toList := hperm.symm.pairwise ho (fun h => fun e => h e.symm)
  have hrise : Rises d.toList := by
    refine List.pairwise_iff_getElem.2 fun i j hi hj hij => ?_
    have hn := List.pairwise_iff_getElem.1 hoth i j hi hj hij
    have hi2 : i < d.size := by simpa using hi
    have hj2 : j < d.size := by simpa using hj
    have hq := hd i j (Nat.zero_le _) hij (by simp; omega)
    rw [lt_cf, getElem!_pos d i hi2, getElem!_pos d j hj2] at hq
    simp only [Array.getElem_toList] at hn ⊢
    have := of_decide_eq_false hq
    omega
  exact rises_ext hrise hg fun p => (hperm.mem_iff).trans (hs p)
/-- The row of a call's own, sorted. -/
theorem sort_any (w : World) (base : Nat) (v : Value) (l g : List E) (hr : Own w base v l) (hbase : base ≤ w.heap.size) (hl : l.length ≤ 4096) (ho : Others l) (hg : Rises g) (hs : ∀ p, p ∈ l ↔ p ∈ g) :
    Calls Try.prog 36 #[v, .func (.func 37) #[] #[]] w fun e w' => e = .returned (.tuple #[]) ∧ ∃ A cap, v = .slice A g.length cap ∧ SAt w' (fun b => base ≤ b) A g ∧ Below base w w' := by
  rcases hr.2 with ⟨rfl, h0⟩ | ⟨b, cap, cur, rfl, hb, _⟩
  · have hn : l = [] := List.eq_nil_of_length_eq_zero h0
    subst hn
    obtain rfl : g = [] := List.eq_nil_iff_forall_not_mem.2 fun p hp => by have := (hs p).2 hp; cases this
    refine (sort_nil _ w).mono ?_
    rintro e w' ⟨rfl, rfl⟩
    exact ⟨rfl, none, 0, rfl, SAt.nil _ _ _, Below.refl _ _⟩
  · have hbs := (hr.lt (g := b) rfl).2
    have eg : ∀ args w, (callFunc 37 args).run Try.prog w = .ok (.enter 37 args) w := enters_of Try.func37 (by kernel_rfl) rfl
    have hcon := AnyQ.slices_SortFunc Try.laySort 2 Try.isAgg47 Try.sizeOf47 encP encP_len encP_one cf swo_cf 37 #[] b 0 cap l.toArray w eg (fun m os dk _ x y => order_any x y _) hr.holds hbs (by simp; omega)
    refine Calls.mono (P := Try.prog) (f := 36) hcon ?_
    rintro e w' ⟨rfl, d, n, os, hp, hd, rfl⟩
    have e := sorted_is ho hg hs hp hd
    have hB := below_sorted base b n d os w hb hbase
    have hH := holdsK_sortWorldK encP 2 w b 0 n l.toArray d os hbs hr.holds hp.1
    have hS := SAt.of_holds hH (lt_sortWorldK encP 2 w b 0 n d os hbs)
    rw [e] at hS
    have hlen : l.length = g.length := by
      rw [← e]
      have := hp.1
      simp at this
      simp [this]
    rw [hlen]
    exact ⟨rfl, _, _, rfl, hS.base fun j hj _ => by rw [hj]; exact hb, hB⟩
end Go.Proofs.Ytlkcpplpjjbiaaa.reg
