/-
  The document's own frames without the top values, and these. At most a thousand frames, each of twenty-seven numbers.
-/
import Derived.Test.YtlkcpplpjjbiaaaFRefStore
import Derived.Test.YtlkcpplpjjbiaaaNums
namespace Go.Proofs.Ytlkcpplpjjbiaaa.frames
open Go.RowKit Go.ChangeShapes
open Go.Proofs.Ytlkcpplpjjbiaaa.nums (NAt OwnI wpList_appI)
set_option linter.unusedVariables false
set_option linter.unusedSimpArgs false

/-- Frames, what was taken, and true; nil, nil and false: there are none. -/
def PopPost (x : Option (List Fr × List Int)) (w : World) (e : Ending) (w' : World) : Prop :=
  Below w.heap.size w w' ∧ match x with
  | none => e = .returned (.tuple #[.slice none 0 0, .slice none 0 0, .bool false])
  | some (l, a) => ∃ A c B d, e = .returned (.tuple #[.slice A l.length c, .slice B a.length d, .bool true]) ∧ In w' A c l ∧ NAt w' B a ∧ Own w' w.heap.size (.slice A l.length c) l
/-- The same, and that what was taken lies in memory of its own. -/
def PopPostB (x : Option (List Fr × List Int)) (w : World) (e : Ending) (w' : World) : Prop :=
  Below w.heap.size w w' ∧ match x with
  | none => e = .returned (.tuple #[.slice none 0 0, .slice none 0 0, .bool false])
  | some (l, a) => ∃ A c B d, e = .returned (.tuple #[.slice A l.length c, .slice B a.length d, .bool true]) ∧ In w' A c l ∧ NAt w' B a ∧ Own w' w.heap.size (.slice A l.length c) l ∧ ∀ b off, B = some ⟨b, off, none⟩ → w.heap.size ≤ b
theorem own_ne {w : World} {base x g : Nat} {v : Value} {l : List Int} {f : Fr} (h : OwnI w base v l) (hv : v.ownBlock = some x) (hf : w.heap[g]? = some (frB f)) : x ≠ g := by
  rintro rfl
  rcases h.2 with ⟨rfl, _⟩ | ⟨g', c, cur, rfl, _, hh, _⟩
  · cases hv
  · have e : g' = x := Option.some.inj hv
    subst e
    rw [hh] at hf
    unfold frB at hf
    have := (Obj.cells.inj (Option.some.inj hf)).2.1
    exact absurd this (by decide)
theorem clear_num (f : Fr) (i : Nat) : ∀ k j, i + k ≤ j → num (clearF f i k) (11 + j) = num f (11 + j) := by
  intro k
  induction k with
  | zero => intro j _; rfl
  | succ k ih =>
    intro j hj
    unfold clearF
    rw [num_ne (by omega), ih j (by omega)]
theorem vals_next (f : Fr) (i k : Nat) : valsF f i (k + 1) = valsF f i k ++ [num f (11 + (i + k))] := by
  unfold valsF
  rw [List.range_succ, List.map_append]
  rfl

theorem int_one {W : World} {g : Nat} {x : Int} (h : W.heap[g]? = some (.cells #[.int .i64 x] 3)) : NAt W (some ⟨g, 0, none⟩) [x] := fun j hj => by
  obtain rfl : j = 0 := by simpa using hj
  refine ⟨g, 0, rfl, lt_of_block h, ?_⟩
  unfold World.cell?
  rw [h]
  rfl

set_option maxRecDepth 100000 in
set_option maxHeartbeats 8000000 in
theorem refPopB_any (A : Option Addr) (c : Nat) (l : List Fr) (k : Int) (w : World) (hI : In w A c l) :
    Calls Try.prog 50 #[.slice A l.length c, .int .i64 k] w (PopPostB (popF l k) w) := by
  obtain ⟨r, hr⟩ : ∃ r, r = popF l k := ⟨_, rfl⟩
  rw [← hr]
  unfold popF at hr
  unfold PopPostB
  have HI := Lib.hid hI
  by_cases h0 : l.length = 0
  · rw [if_pos (.inl h0)] at hr
    subst hr
    obtain rfl := List.eq_nil_of_length_eq_zero h0
    clear h0 hI
    go_enter Try.func50, Try.ntmps50
    go_wp2
    go_ret3
    exact ⟨Below.refl _ _, rfl⟩
  · obtain ⟨b, off, m, rfl, hm, hb, hF, hl27⟩ := hI.top h0
    have hlen := hI.len
    have hcap := hI.cap
    have e0 : (((m + 1 : Nat) : Int) == 0) = false := by simp; omega
    have H0 := Lib.hid h0
    rw [hm] at hlen hcap
    have k0 : (0 : Int) ≤ (m : Int) := by omega
    have k1 : (m : Int) < ((m + 1 : Nat) : Int) := by omega
    have k2 : (m : Int) < (m : Int) + 1 := by omega
    have hw0 : IntKind.i64.wrap ((m : Int) + 1 - 1) = (m : Int) := by rw [IntKind.wrap_i64]; omega
    have hw1 : IntKind.i64.wrap (m : Int) = (m : Int) := by rw [IntKind.wrap_i64]; omega
    have HFc := Lib.hid hF
    have xN := hF 2 (by omega)
    have hcN : num (topF l) 2 = cnt (topF l) := rfl
    rw [hcN] at xN
    have HW := fun f W h1 h2 => Lib.hid (refWith_any (some ⟨b, off, none⟩) c l f hI.len h0 W h1 h2)
    have HWi := fun (f : Fr) (W : World) (A' : Option Addr) (c' : Nat) hf h1 h2 => Lib.hid (with_in (w := W) (A' := A') (c' := c') (f := f) hI h0 hf h1 h2)
    have HLen := fun f => Lib.hid (show (withF l f).length = m + 1 by rw [with_length h0, hm])
    rw [hm] at HW
    rw [hm]
    clear hI h0 hF hcN
    generalize hf : topF l = f at *
    generalize hcn : cnt f = N at *
    go_enter Try.func50, Try.ntmps50
    by_cases h1 : k < 0
    · rw [if_pos (.inr (.inl h1))] at hr
      subst hr
      have q1 : decide (k < 0) = true := decide_eq_true h1
      go_wp2
      go_ret3
      exact ⟨Below.refl _ _, rfl⟩
    have q1 : decide (k < 0) = false := decide_eq_false h1
    by_cases h2 : N < k
    · rw [if_pos (.inr (.inr (.inl h2)))] at hr
      subst hr
      have q2 : decide (k > N) = true := decide_eq_true h2
      go_wp2
      go_ret3
      exact ⟨Below.refl _ _, rfl⟩
    have q2 : decide (k > N) = false := decide_eq_false h2
    by_cases h3 : 16 < N
    · rw [if_pos (.inr (.inr (.inr h3)))] at hr
      subst hr
      have q3 : decide (N > 16) = true := decide_eq_true h3
      go_wp2
      go_ret3
      exact ⟨Below.refl _ _, rfl⟩
    have q3 : decide (N > 16) = false := decide_eq_false h3
    rw [if_neg (fun h => by rcases h with h | h | h | h; exact H0.out h; exact h1 h; exact h2 h; exact h3 h)] at hr
    subst hr
    go_upto_region 4 with (first | refine wl_load rfl _ rfl b (off + m * 27) rfl f HFc.out ?_ | refine wl_alloc rfl rfl ?_ | refine wl_store rfl _ _ rfl (w.alloc (.cells #[] 3)) zeroF _ rfl rfl rfl ?_)
    try simp only [Act.put, List.setIfInBounds_toArray, List.set_cons_zero, List.set_cons_succ]
    clear q1 q2 q3 xN
    obtain ⟨n, rfl⟩ : ∃ n : Nat, k = (n : Int) := ⟨k.toNat, by omega⟩
    obtain ⟨p, rfl⟩ : ∃ p : Nat, N = (p : Int) + (n : Int) := ⟨(N - n).toNat, by omega⟩
    have e1 : ((p : Int) + (n : Int) - (n : Int)).toNat = p := by omega
    have HPo : Hid (popped f (n : Int) = (clearF f p n).set 2 (p : Int)) := Lib.hid (by
      unfold popped
      rw [hcn, e1, Int.toNat_natCast, show (p : Int) + (n : Int) - (n : Int) = (p : Int) by omega])
    have HE1 := Lib.hid e1
    clear e1
    try simp only [World.size_alloc]
    have hB1 := heap_alloc_new (w.alloc (.cells #[] 3)) (frB f)
    rw [World.size_alloc] at hB1
    have hV1 : OwnI ((w.alloc (.cells #[] 3)).alloc (frB f)) w.heap.size (.slice (some ⟨w.heap.size, 0, none⟩) 0 0) [] := OwnI.empty (keepA (heap_alloc_new w _) _)
    have hb1 : Below w.heap.size w ((w.alloc (.cells #[] 3)).alloc (frB f)) := ((Below.refl _ w).alloc (Nat.le_refl _) _).alloc (by rw [World.size_alloc]; omega) _
    generalize (w.alloc (.cells #[] 3)).alloc (frB f) = W1 at *
    have hp16 : p + n ≤ 16 := by omega
    have x2 : W1.cell? ⟨w.heap.size + 1, 2, none⟩ = some (.int .i64 ((p : Int) + (n : Int))) := (cell_block hB1 (k := 2) (by omega)).trans (by rw [show num f 2 = cnt f from rfl, hcn])
    have HP0 : Hid (W1.heap[w.heap.size + 1]? = some (frB (clearF f p 0)) ∧ OwnI W1 w.heap.size (.slice (some ⟨w.heap.size, 0, none⟩) 0 0) (valsF f p 0) ∧ Below w.heap.size w W1) := Lib.hid ⟨hB1, hV1, hb1⟩
    have hws : IntKind.i64.wrap ((p : Int) + (n : Int) - (n : Int)) = (p : Int) := by rw [IntKind.wrap_i64]; omega
    have hws2 : IntKind.i64.wrap (p : Int) = (p : Int) := by rw [IntKind.wrap_i64]; omega
    clear hB1 hV1 hb1 h1 h2 h3 HFc
    go_upto_region 5 with fail
    clear x2 hws
    go_loopw [8, 9] (fun v i wr => ∃ q : Nat, p ≤ q ∧ q ≤ p + n ∧ i = .int .i64 (q : Int) ∧ Hid (wr.heap[w.heap.size + 1]? = some (frB (clearF f p (q - p))) ∧ OwnI wr w.heap.size v (valsF f p (q - p)) ∧ Below w.heap.size w wr)) (fun _ i _ => p + n - (intOf i).toNat)
    case atStart => exact ⟨p, Nat.le_refl _, by omega, rfl, by rw [Nat.sub_self]; exact HP0⟩
    case round =>
      clear HP0
      obtain ⟨q, hq1, hq2, rfl, HP⟩ := hrel
      have x2 : wr.cell? ⟨w.heap.size + 1, 2, none⟩ = some (.int .i64 ((p : Int) + (n : Int))) := (cell_block HP.out.1 (k := 2) (by omega)).trans (by rw [show num (clearF f p (q - p)) 2 = cnt (clearF f p (q - p)) from rfl, (clear_keep f p (q - p)).2, hcn])
      by_cases hlt : q < p + n
      · have t0 : decide ((q : Int) < (p : Int) + (n : Int)) = true := decide_eq_true (by omega)
        have xq : wr.cell? ⟨w.heap.size + 1, 11 + q, none⟩ = some (.int .i64 (num f (11 + q))) := (cell_block HP.out.1 (k := 11 + q) (by omega)).trans (by rw [clear_num f p (q - p) q (by omega)])
        have HVn : Hid (valsF f p (q + 1 - p) = valsF f p (q - p) ++ [num f (11 + q)]) := Lib.hid (by rw [show q + 1 - p = (q - p) + 1 by omega, vals_next, show p + (q - p) = q by omega])
        have HCn : Hid (clearF f p (q + 1 - p) = (clearF f p (q - p)).set (11 + q) 0) := Lib.hid (by rw [show q + 1 - p = (q - p) + 1 by omega, show clearF f p ((q - p) + 1) = (clearF f p (q - p)).set (11 + (p + (q - p))) 0 from rfl, show p + (q - p) = q by omega])
        have HLv : Hid ((valsF f p (q - p)).length = q - p ∧ (clearF f p (q - p)).length = 27) := Lib.hid ⟨by unfold valsF; rw [List.length_map, List.length_range], by rw [(clear_keep f p (q - p)).1]; exact hl27⟩
        generalize num f (11 + q) = x at *
        generalize valsF f p (q - p) = vs at *
        generalize clearF f p (q - p) = cf at *
        have q0 : (0 : Int) ≤ (q : Int) := by omega
        have q1 : (q : Int) < 16 := by omega
        have HA1 := Lib.hid (HP.out.2.1.next ((Below.refl wr.heap.size wr).alloc (Nat.le_refl _) (.cells #[.int .i64 x] 3)))
        have HO1 := Lib.hid (heap_alloc_new wr (.cells #[.int .i64 x] 3))
        have HZ1 := Lib.hid HP.out.2.2.size
        go_wp2_with (first | (at_builtin; refine wpList_appI rfl _ _ rfl w.heap.size 1 1 u8 (some ⟨wr.heap.size, 0, none⟩) vs [x] rfl HA1.out rfl rfl (fun h => by cases h) (int_one HO1.out) (by have := HLv.out.1; simp; omega) (by have := HZ1.out; simp; omega) ?_; intro v2 w2 hv2 hg2; have hb2 := keepG (keepA HP.out.1 _) hg2 (fun e => own_ne HA1.out e.symm (keepA HP.out.1 _) rfl); have x3 := cell_block hb2 (k := 11 + q) (by omega); have f3 := free_block hb2 (11 + q)))
        go_roundw
        case rel =>
          have hw2 : Below w.heap.size w w2 := (HP.out.2.2.alloc HZ1.out _).grown hg2 (by have := HZ1.out; simp; omega) (fun k e => (HA1.out.lt e).1)
          have hk : (w2.setCell ⟨w.heap.size + 1, 11 + q, none⟩ (.int .i64 0)).heap[w.heap.size + 1]? = some (frB (cf.set (11 + q) 0)) := set_block hb2 HLv.out.2 (by omega) 0
          refine ⟨q + 1, by omega, by omega, by go_num, Lib.hid ⟨by rw [HCn.out]; exact hk, ?_, hw2.setCell (p := ⟨w.heap.size + 1, 11 + q, none⟩) (Nat.le_succ _) _⟩⟩
          rw [HVn.out]
          exact hv2.keep fun g hg => Below.heap_setCell _ _ _ _ (own_ne hv2 hg hb2)
        case measure => simp [intOf]; omega
      · obtain rfl : q = p + n := by omega
        have t0 : decide (((p + n : Nat) : Int) < (p : Int) + (n : Int)) = false := decide_eq_false (by omega)
        have hpn : p + n - p = n := by omega
        have hP := HP.out
        rw [hpn] at hP
        have f2 := free_block hP.1 2
        have hl : (clearF f p n).length = 27 := by rw [(clear_keep f p n).1]; exact hl27
        have HPf : Hid ((wr.setCell ⟨w.heap.size + 1, 2, none⟩ (.int .i64 (p : Int))).heap[w.heap.size + 1]? = some (frB (popped f (n : Int))) ∧ Below w.heap.size w (wr.setCell ⟨w.heap.size + 1, 2, none⟩ (.int .i64 (p : Int)))) := Lib.hid ⟨by rw [HPo.out]; exact set_block hP.1 hl (by omega) _, hP.2.2.setCell (p := ⟨w.heap.size + 1, 2, none⟩) (Nat.le_succ _) _⟩
        have hO : OwnI (wr.setCell ⟨w.heap.size + 1, 2, none⟩ (.int .i64 (p : Int))) w.heap.size u8 (valsF f p n) := hP.2.1.keep fun g hg => Below.heap_setCell _ _ _ _ (own_ne hP.2.1 hg hP.1)
        obtain ⟨B, d, rfl⟩ := hO.slice
        have HNt := Lib.hid hO.at
        have HBf := Lib.hid (fun b off (e : B = some ⟨b, off, none⟩) => (hO.lt (g := b) (by rw [e]; rfl)).1)
        have HW2 := HW (popped f (n : Int)) _ (HI.out.next HPf.out.2).at' hcap
        have HFp : Hid (FCells (wr.setCell ⟨w.heap.size + 1, 2, none⟩ (.int .i64 (p : Int))) (w.heap.size + 1) 0 (popped f (n : Int))) := Lib.hid (FCells.of_block HPf.out.1)
        have hw3 : IntKind.i64.wrap ((p : Int) + (n : Int) - (n : Int)) = (p : Int) := by rw [IntKind.wrap_i64]; omega
        have HPl : Hid ((popped f (n : Int)).length = 27) := Lib.hid (by rw [HPo.out, List.length_set]; exact hl)
        clear hP hO hl HP HW hpn
        go_upto_region 9 with fail
        try simp only [Act.put, List.setIfInBounds_toArray, List.set_cons_zero, List.set_cons_succ]
        generalize wr.setCell ⟨w.heap.size + 1, 2, none⟩ (.int .i64 (p : Int)) = W3 at *
        clear x2 f2
        go_wp2_with (first | refine wl_load rfl _ rfl (w.heap.size + 1) 0 rfl (popped f (n : Int)) HFp.out ?_)
        refine HW2.out.mono ?_
        rintro _ w5 ⟨A5, c5, rfl, hA5, hc5, hb5, hO5⟩
        have HB5 := Lib.hid (HPf.out.2.trans (hb5.mono HPf.out.2.size))
        have HI5 := Lib.hid (HWi (popped f (n : Int)) w5 A5 c5 HPl.out hA5 (by rw [hm]; exact hc5)).out
        have HN5 := Lib.hid (HNt.out.next hb5)
        have HOw := Lib.hid (hO5.base HPf.out.2.size)
        clear hA5 hc5 hb5 hO5 HW2 HWi
        go_wp2_with fail
        go_ret3
        refine ⟨HB5.out, A5, c5, B, ⟨d, ?_⟩, HI5.out, HN5.out, ?_, HBf.out⟩
        · rw [(HLen _).out]
          rfl
        · rw [(HLen _).out]
          exact HOw.out
theorem refPop_any (A : Option Addr) (c : Nat) (l : List Fr) (k : Int) (w : World) (hI : In w A c l) :
    Calls Try.prog 50 #[.slice A l.length c, .int .i64 k] w (PopPost (popF l k) w) :=
  (refPopB_any A c l k w hI).mono fun e w' ⟨hb, h⟩ => ⟨hb, by
    cases hp : popF l k with
    | none => rw [hp] at h; exact h
    | some x =>
      rw [hp] at h
      obtain ⟨A', c', B, d, h1, h2, h3, h4, _⟩ := h
      exact ⟨A', c', B, d, h1, h2, h3, h4⟩⟩
end Go.Proofs.Ytlkcpplpjjbiaaa.frames
