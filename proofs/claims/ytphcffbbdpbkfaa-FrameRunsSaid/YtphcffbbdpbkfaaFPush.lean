/-
  The program's own first frame, the top value, and a value that is laid. At most a thousand frames, each of twenty-seven numbers.
-/
import Derived.Test.YtphcffbbdpbkfaaFChange
import Derived.Test.YtphcffbbdpbkfaaFSpec
import Derived.Test.YtphcffbbdpbkfaaWProg
namespace Go.Proofs.Ytphcffbbdpbkfaa.frames
open Go.RowKit Go.ChangeShapes
open Go.Proofs.Ytphcffbbdpbkfaa.nums (NAt)
open Go.Proofs.Ytphcffbbdpbkfaa.word (low low_any)
set_option linter.unusedVariables false
set_option linter.unusedSimpArgs false

set_option maxRecDepth 100000 in
set_option maxHeartbeats 4000000 in
theorem new_any (fn : Int) (B : Option Addr) (c : Nat) (args : List Int) (hl : args.length ≤ 1000) (w : World) (hB : NAt w B args) :
    Calls Try.prog 4 #[.int .i64 fn, .slice B args.length c] w fun e w' => ∃ A' c', e = .returned (.slice A' 1 c') ∧ FsAt w' A' [newF fn args] ∧ Below w.heap.size w w' ∧ 1 ≤ c' ∧ A' ≠ none := by
  have HB := Lib.hid hB
  obtain ⟨N, hN⟩ : ∃ N, N = min args.length 8 := ⟨_, rfl⟩
  have hmn : min (args.length : Int) 8 = (N : Int) := by omega
  have HN : Hid (newF fn args = argsF args (zeroF.set 0 fn) N) := Lib.hid (by rw [hN]; rfl)
  have hN8 : N ≤ 8 := by omega
  have hNa : N ≤ args.length := by omega
  have hb0 : Below w.heap.size w (w.alloc (frB (zeroF.set 0 fn))) := (Below.refl _ w).alloc (Nat.le_refl _) _
  have hx0 := heap_alloc_new w (frB (zeroF.set 0 fn))
  have H0 := Lib.hid (And.intro hx0 hb0)
  have HN8 := Lib.hid hN8
  have HNa := Lib.hid hNa
  clear hB hb0 hx0 hN hN8 hNa
  go_enter Try.func4, Try.ntmps4
  go_upto_region 2 with (first | refine wl_build rfl _ rfl fn rfl ?_ | refine wl_alloc rfl rfl ?_ | refine wl_store rfl _ _ rfl w zeroF _ rfl rfl rfl ?_)
  generalize w.alloc (frB (zeroF.set 0 fn)) = W1 at *
  go_wp2_with fail
  go_loopw [12] (fun i wr => ∃ k : Nat, k ≤ N ∧ i = .int .i64 (k : Int) ∧ Hid (wr.heap[w.heap.size]? = some (frB (argsF args (zeroF.set 0 fn) k)) ∧ Below w.heap.size w wr)) (fun i _ => 8 - (intOf i).toNat)
  case atStart => exact ⟨0, Nat.zero_le _, rfl, H0⟩
  case round =>
    clear H0
    obtain ⟨k, hk, rfl, HH⟩ := hrel
    have hN8 := HN8.out
    have hNa := HNa.out
    by_cases h1 : k < N
    · have q1 : decide ((k : Int) < (N : Int)) = true := decide_eq_true (by omega)
      obtain ⟨b, off, rfl, hb, c0'⟩ := HB.out k (by omega)
      have c0 := (HH.out.2.cell (p := ⟨b, off + k, none⟩) hb).trans c0'
      have HLo := fun W => Lib.hid (low_any (args.getD k 0) W)
      have hx := cell_block HH.out.1 (k := 3 + k) (by omega)
      have hf := free_block HH.out.1 (3 + k)
      have HK : Hid (argsF args (zeroF.set 0 fn) (k + 1) = (argsF args (zeroF.set 0 fn) k).set (3 + k) (low (args.getD k 0))) := Lib.hid rfl
      have HS := Lib.hid (set_block HH.out.1 (by rw [(args_keep args (zeroF.set 0 fn) k).1, List.length_set]; rfl) (k := 3 + k) (by omega) (low (args.getD k 0)))
      have HB2 : Hid (∀ v : Value, Below w.heap.size w (wr.setCell ⟨w.heap.size, 3 + k, none⟩ v)) := Lib.hid fun v => HH.out.2.setCell (p := ⟨w.heap.size, 3 + k, none⟩) (Nat.le_refl _) v
      generalize args.getD k 0 = x at *
      have k0 : (0 : Int) ≤ (k : Int) := by omega
      have k1 : (k : Int) < (args.length : Int) := by omega
      have k2 : (k : Int) < 8 := by omega
      clear HH c0' hk
      go_wp2_with fail
      refine (HLo _).out.mono ?_
      rintro _ _ ⟨rfl, rfl⟩
      go_wp2_with fail
      go_roundw
      case rel => exact ⟨k + 1, by omega, by go_num, Lib.hid ⟨by rw [HK.out]; exact HS.out, HB2.out _⟩⟩
      case measure => simp [intOf]; omega
    · obtain rfl : k = N := by omega
      have q1 : decide ((k : Int) < (k : Int)) = false := decide_eq_false (by omega)
      have HF : Hid (FCells wr w.heap.size 0 (newF fn args)) := Lib.hid (FCells.of_block (by rw [HN.out]; exact HH.out.1))
      go_wp2_with (first | refine wl_load rfl _ rfl w.heap.size 0 rfl (newF fn args) HF.out ?_ | refine wl_row rfl _ rfl (newF fn args) rfl ?_)
      go_ret
      exact ⟨_, _, rfl, FsAt.one (heap_alloc_new wr _), HH.out.2.alloc HH.out.2.size _, Nat.le_refl 1, fun e => by cases e⟩

/-- The last frame in a block of the call's own, and what is known of the old. -/
structure Lf (w W : World) (g : Nat) (f : Fr) : Prop where
  block : W.heap[g]? = some (frB f)
  far : w.heap.size ≤ g
  below : Below w.heap.size w W
theorem lf_new {w W : World} (h : Below w.heap.size w W) (f : Fr) : Lf w (W.alloc (frB f)) W.heap.size f := ⟨heap_alloc_new W _, h.size, h.alloc h.size _⟩
theorem Lf.set {w W : World} {g : Nat} {f : Fr} (h : Lf w W g f) (hl : f.length = 27) {k : Nat} (hk : k < 27) (v : Int) : Lf w (W.setCell ⟨g, k, none⟩ (.int .i64 v)) g (f.set k v) := ⟨set_block h.block hl hk v, h.far, h.below.setCell (p := ⟨g, k, none⟩) h.far _⟩
theorem Lf.drew {w W : World} {g : Nat} {f : Fr} (h : Lf w W g f) : Lf w W.drew g f := ⟨h.block, h.far, h.below.drew⟩
theorem frs_of_ch {x : List Fr} {w W : World} {e : Ending} {w' : World} (h : ChPost x W e w') (hl : x.length ≤ 1000) (ha : ∀ f ∈ x, f.length = 27) (hb : Below w.heap.size w W) : FrsPost x w e w' := by
  obtain ⟨A, c, h1, h2, h3⟩ := h
  exact ⟨A, c, h1, h2.ins hl ha, hb.trans (h3.mono hb.size)⟩
theorem with_all {l : List Fr} {f : Fr} (h : ∀ f ∈ l, f.length = 27) (hf : f.length = 27) : ∀ g ∈ withF l f, g.length = 27 := fun g hg => by
  unfold withF at hg
  rcases List.mem_append.1 hg with hg | hg
  · exact h g (mem_take_any hg)
  · rw [List.mem_singleton.1 hg]; exact hf

set_option maxRecDepth 100000 in
set_option maxHeartbeats 4000000 in
theorem top_any (A : Option Addr) (c : Nat) (l : List Fr) (f : Fr) (v : Int) (w : World) (hI : In w A c (l ++ [f])) (hg : GoodF f) (hn : 0 < cnt f) (hv : v = num f (11 + (cnt f - 1).toNat)) :
    Calls Try.prog 23 #[.slice A (l ++ [f]).length c] w fun e w' => e = .returned (.tuple #[.int .i64 v, .bool true]) ∧ Below w.heap.size w w' := by
  have ht : topF (l ++ [f]) = f := by simp [topF]
  have HLa := Lib.hid (last_any A c (l ++ [f]) w hI (by simp) (by rw [ht]; exact hg))
  rw [ht] at HLa
  obtain ⟨g1, g2, g3⟩ := hg
  obtain ⟨n, hn'⟩ : ∃ n : Nat, cnt f = (n : Int) + 1 := ⟨(cnt f - 1).toNat, by omega⟩
  have e1 : (cnt f - 1).toNat = n := by omega
  rw [e1] at hv
  have hcn : num f 2 = cnt f := rfl
  rw [hn'] at hcn
  have n0 : (0 : Int) ≤ (n : Int) := by omega
  have n1 : (n : Int) < 16 := by omega
  have e0 : (((n : Int) + 1) == 0) = false := by simp; omega
  have hw0 : IntKind.i64.wrap ((n : Int) + 1 - 1) = (n : Int) := by rw [IntKind.wrap_i64]; omega
  have hw1 : IntKind.i64.wrap (n : Int) = (n : Int) := by rw [IntKind.wrap_i64]; omega
  clear hI ht
  generalize (l ++ [f]).length = L at *
  go_enter Try.func23, Try.ntmps23
  go_wp2_with fail
  refine HLa.out.mono ?_
  rintro _ w1 ⟨rfl, hb1⟩
  have hL := lf_new hb1 f
  have HL := Lib.hid hL
  have x2 := cell_block hL.block (k := 2) (by omega)
  rw [hcn] at x2
  have x11 := cell_block hL.block (k := 11 + n) (by omega)
  rw [← hv] at x11
  clear hL hb1 HLa g1 g2 g3 hn hn' e1 hv hcn
  go_upto_region 2 with (first | refine wl_alloc rfl rfl ?_ | refine wl_store rfl _ _ rfl w1 zeroF _ rfl rfl rfl ?_)
  try simp only [Act.put, List.setIfInBounds_toArray, List.set_cons_zero, List.set_cons_succ]
  generalize w1.alloc (frB f) = W2 at *
  go_wp2
  go_ret2
  exact ⟨rfl, HL.out.below⟩

set_option maxRecDepth 100000 in
set_option maxHeartbeats 4000000 in
theorem push_any (A : Option Addr) (c : Nat) (l : List Fr) (v : Int) (w : World) (hI : In w A c l) (hg : Good l) :
    Calls Try.prog 6 #[.slice A l.length c, .int .i64 v] w fun e w' => Below w.heap.size w w' ∧ match pushF l v with
      | none => e = .returned (.tuple #[.slice none 0 0, .bool false])
      | some x => ∃ A c, e = .returned (.tuple #[.slice A x.length c, .bool true]) ∧ In w' A c x := by
  obtain ⟨r, hr⟩ : ∃ r, r = pushF l v := ⟨_, rfl⟩
  rw [← hr]
  unfold pushF at hr
  have HI := Lib.hid hI
  by_cases h0 : l.length = 0
  · rw [if_pos (.inl h0)] at hr
    subst hr
    have HLa := Lib.hid (last_none A c w)
    rw [h0]
    clear h0 hI
    go_enter Try.func6, Try.ntmps6
    go_wp2_with fail
    refine HLa.out.mono ?_
    rintro _ w1 ⟨rfl, hb1⟩
    have HL := Lib.hid (lf_new hb1 zeroF)
    clear hb1 HLa
    go_upto_region 2 with (first | refine wl_alloc rfl rfl ?_ | refine wl_store rfl _ _ rfl w1 zeroF _ rfl rfl rfl ?_)
    try simp only [Act.put, List.setIfInBounds_toArray, List.set_cons_zero, List.set_cons_succ]
    generalize w1.alloc (frB zeroF) = W2 at *
    go_wp2
    go_ret2
    exact ⟨HL.out.below, rfl⟩
  · have HLa := Lib.hid (last_any A c l w hI h0 (hg.2 _ (top_mem h0)))
    obtain ⟨g1, g2, g3⟩ := hg.2 _ (top_mem h0)
    have hcn : num (topF l) 2 = cnt (topF l) := rfl
    have H0 := Lib.hid h0
    have HWc := fun W (h : Below w.heap.size w W) => Lib.hid (changed_any A c l (pushed (topF l) v) W (hI.next h) h0)
    have HWa := Lib.hid (with_all hI.all (f := pushed (topF l) v) (by unfold pushed; rw [List.length_set, List.length_set]; exact g1))
    have HWl := Lib.hid (with_length (f := pushed (topF l) v) h0)
    have HLn := Lib.hid hI.len
    clear hI h0
    generalize hf : topF l = f at *
    by_cases h1 : 15 < cnt f
    · rw [if_pos (.inr (.inl h1))] at hr
      subst hr
      have q1 : cnt f = 16 := by omega
      rw [q1] at hcn
      clear q1 h1 g2 g3
      generalize l.length = L at *
      go_enter Try.func6, Try.ntmps6
      go_wp2_with fail
      refine HLa.out.mono ?_
      rintro _ w1 ⟨rfl, hb1⟩
      have hL := lf_new hb1 f
      have HL := Lib.hid hL
      have x2 := cell_block hL.block (k := 2) (by omega)
      rw [hcn] at x2
      clear hb1 HLa hL
      go_upto_region 2 with (first | refine wl_alloc rfl rfl ?_ | refine wl_store rfl _ _ rfl w1 zeroF _ rfl rfl rfl ?_)
      try simp only [Act.put, List.setIfInBounds_toArray, List.set_cons_zero, List.set_cons_succ]
      generalize w1.alloc (frB f) = W2 at *
      go_wp2
      go_ret2
      exact ⟨HL.out.below, rfl⟩
    · rw [if_neg (fun h => by rcases h with h | h | h; exact H0.out h; exact h1 h; omega)] at hr
      subst hr
      obtain ⟨n, hn⟩ : ∃ n : Nat, cnt f = (n : Int) := ⟨(cnt f).toNat, by omega⟩
      rw [hn] at hcn
      have hp : pushed f v = (f.set (11 + n) (low v)).set 2 ((n : Int) + 1) := by unfold pushed; rw [hn, Int.toNat_natCast]
      have HP := Lib.hid hp
      have n0 : (0 : Int) ≤ (n : Int) := by omega
      have n1 : (n : Int) < 16 := by omega
      have e0 : ((n : Int) == 16) = false := by simp; omega
      have hne : 11 + n ≠ 2 := by omega
      have hne2 : 2 ≠ 11 + n := by omega
      have hwn : IntKind.i64.wrap ((n : Int) + 1) = (n : Int) + 1 := by rw [IntKind.wrap_i64]; omega
      have HG1 := Lib.hid g1
      clear hp h1 g2 g3 hn
      have HLo := fun W => Lib.hid (low_any v W)
      generalize hL0 : l.length = L at *
      go_enter Try.func6, Try.ntmps6
      go_wp2_with fail
      refine HLa.out.mono ?_
      rintro _ w1 ⟨rfl, hb1⟩
      have hL := lf_new hb1 f
      have HL := Lib.hid hL
      have x2 := cell_block hL.block (k := 2) (by omega)
      rw [hcn] at x2
      have x11 := cell_block hL.block (k := 11 + n) (by omega)
      have f11 := free_block hL.block (11 + n)
      have HCn := Lib.hid hcn
      clear hb1 HLa hL hcn
      go_upto_region 2 with (first | refine wl_alloc rfl rfl ?_ | refine wl_store rfl _ _ rfl w1 zeroF _ rfl rfl rfl ?_)
      try simp only [Act.put, List.setIfInBounds_toArray, List.set_cons_zero, List.set_cons_succ]
      generalize hg0 : w1.heap.size = g at *
      generalize w1.alloc (frB f) = W2 at *
      go_upto_region 4 with fail
      go_cut [6] (fun t wx => t = .pointer (some ⟨g, 0, none⟩) ∧ Hid (Lf w wx g (f.set (11 + n) (low v))))
      case first =>
        go_region_with (go_at_call 16; refine (HLo _).out.mono ?_; rintro _ _ ⟨rfl, rfl⟩)
        all_goals
          go_wp2_with fail
          go_meet
          exact ⟨rfl, Lib.hid (HL.out.drew.set g1 (by omega) _)⟩
      case rest =>
        obtain ⟨rfl, HP4⟩ := hcut
        clear x2 x11 f11
        have hl4 : (f.set (11 + n) (low v)).length = 27 := by rw [List.length_set]; exact HG1.out
        have x2 := cell_block HP4.out.block (k := 2) (by omega)
        rw [num_ne (by omega), HCn.out] at x2
        have f2 := free_block HP4.out.block 2
        have HP5 : Hid (Lf w (wc.setCell ⟨g, 2, none⟩ (.int .i64 ((n : Int) + 1))) g (pushed f v)) := Lib.hid (by rw [HP.out]; exact HP4.out.set hl4 (by omega) _)
        clear hl4
        go_upto_region 6 with fail
        try simp only [Act.put, List.setIfInBounds_toArray, List.set_cons_zero, List.set_cons_succ]
        generalize wc.setCell ⟨g, 2, none⟩ (.int .i64 ((n : Int) + 1)) = W5 at *
        clear x2 f2
        have HFp : Hid (FCells W5 g 0 (pushed f v)) := Lib.hid (FCells.of_block HP5.out.block)
        have HC5 := HWc W5 HP5.out.below
        go_wp2_with (first | refine wl_load rfl _ rfl g 0 rfl (pushed f v) HFp.out ?_)
        refine HC5.out.mono ?_
        rintro _ w5 ⟨A5, c5, rfl, hO5, hb5⟩
        have HB5 := Lib.hid (HP5.out.below.trans (hb5.mono HP5.out.below.size))
        have HI5 := Lib.hid (hO5.ins (by rw [HWl.out]; exact HLn.out) HWa.out)
        clear hO5 hb5 HC5
        go_wp2_with fail
        go_ret2
        exact ⟨HB5.out, A5, c5, rfl, HI5.out⟩
end Go.Proofs.Ytphcffbbdpbkfaa.frames
