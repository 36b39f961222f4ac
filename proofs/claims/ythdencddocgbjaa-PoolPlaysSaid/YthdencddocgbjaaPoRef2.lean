/-
  The document's units of which a thread has so many. No condition. Printed by tools/mkporef2.py.
-/
import Derived.Test.YthdencddocgbjaaPoRef
namespace Go.Proofs.Ythdencddocgbjaa.pol
open Go.RowKit Go.ChangeShapes
open Go.Proofs.Ythdencddocgbjaa.obj
set_option linter.unusedVariables false
set_option linter.unusedSimpArgs false

theorem rx_built2 (x : Int) (A : Option Addr) (n c : Nat) : Try.prog.built 27 [(0, .int .i64 x), (1, .slice A n c)] = some (rxC ⟨x, A, n, c⟩).toArray := by kernel_rfl
theorem wrx_build2 {ops : Array Oper} {rest : List Oper} {o : Oper} {a : Act} {w : World} {Q : Exit → Act → World → Prop} (hgd : o.guard = none) (x y : Operand) (ho : o.op = .build 27 #[(0, x), (1, y)]) (t : Int) (A : Option Addr) (n c : Nat) (hx : a.eval x = .int .i64 t) (hy : a.eval y = .slice A n c)
    (h : wpList Try.prog ops Q rest (a.put o.dst (rxV ⟨t, A, n, c⟩)) w) : wpList Try.prog ops Q (o :: rest) a w := by
  have e : (#[(0, x), (1, y)].map fun (i, x) => (i, a.eval x)).toList = [((0 : Nat), Value.int .i64 t), (1, .slice A n c)] := by simp [hx, hy]
  refine wpList_build hgd _ _ ho (by rw [e, rx_built2]; rfl) ?_
  rw [e, rx_built2]
  exact h
/-- While With goes: the box of the units, what is answered, and the row that it makes. -/
structure Wz (w : World) (m : Rx) (v : Value) (out : List E) (W : World) : Prop where
  below : Below w.heap.size w W
  b0 : W.heap[w.heap.size]? = some (rxO m)
  b1 : W.heap[w.heap.size + 1]? = some (rxO rxZ)
  own : Own W (w.heap.size + 2) v out
theorem Wz.next {w W W' : World} {m : Rx} {v : Value} {out : List E} (h : Wz w m v out W) (hb : Below W.heap.size W W') : Wz w m v out W' :=
  ⟨h.below.trans (hb.mono h.below.size), (hb.block _ (lt_of_block h.b0)).trans h.b0, (hb.block _ (lt_of_block h.b1)).trans h.b1, h.own.next hb⟩
theorem Wz.grown {w W W' : World} {m : Rx} {v v' : Value} {out out' : List E} (h : Wz w m v out W) (hg : W.grownBy W' v.ownBlock) (ho : Own W' (w.heap.size + 2) v' out') : Wz w m v' out' W' := by
  have hn : ∀ j, v.ownBlock = some j → w.heap.size + 2 ≤ j := fun j e => (h.own.lt e).1
  have l1 := lt_of_block h.b1
  have ne0 : some w.heap.size ≠ v.ownBlock := fun e => by have := hn _ e.symm; omega
  have ne1 : some (w.heap.size + 1) ≠ v.ownBlock := fun e => by have := hn _ e.symm; omega
  exact ⟨below_grown h.below hg (fun j e => by have := hn j e; omega) h.below.size, (hg.block _ (lt_of_block h.b0) ne0).trans h.b0, (hg.block _ l1 ne1).trans h.b1, ho⟩
theorem wz_new (w : World) (m : Rx) : Wz w m (.slice (some ⟨w.heap.size + 2, 0, none⟩) 0 0) [] (((w.alloc (rxO m)).alloc (rxO rxZ)).alloc (.cells #[] 43 (0, 0))) := by
  have z1 : (w.alloc (rxO m)).heap.size = w.heap.size + 1 := World.size_alloc _ _
  have z2 : ((w.alloc (rxO m)).alloc (rxO rxZ)).heap.size = w.heap.size + 2 := by rw [World.size_alloc, z1]
  refine ⟨(((Below.refl _ w).alloc (Nat.le_refl _) _).alloc (by omega) _).alloc (by omega) _, ?_, ?_, ?_⟩
  · exact (Below.heap_alloc _ _ _ (by omega)).trans ((Below.heap_alloc _ _ _ (by omega)).trans (heap_alloc_new w _))
  · refine (Below.heap_alloc _ _ _ (by omega)).trans ?_
    rw [← z1]
    exact heap_alloc_new _ _
  · rw [← z2]
    exact Own.empty (heap_alloc_new _ _)
/-- What With answers, and Do beside it: units whose shares lie where B holds. -/
def WithPost (p : Px) (B : Nat → Prop) (w : World) (e : Ending) (w' : World) : Prop :=
  ∃ A c, e = .returned (rxV ⟨p.total, A, (shares p.h).length, c⟩) ∧ SAt w' B A (shares p.h) ∧ Below w.heap.size w w'
theorem ret_with {W w : World} {act : Act} {p : Px} {A : Option Addr} {c : Nat} {out : List E} (h6 : act.tmps[6]?.getD undef = .pointer (some ⟨w.heap.size + 1, 0, none⟩)) (hd : act.defers = []) (hE : W.heap[w.heap.size + 1]? = some (rxO ⟨p.total, A, out.length, c⟩)) (hb : Below w.heap.size w W) (hs : SAt W (fun b => w.heap.size ≤ b) A out) (hq : out = shares p.h) :
    bodyPost Try.prog Try.f23 (WithPost p (fun b => w.heap.size ≤ b) w) .ret act W := by
  unfold WithPost
  rw [← hq]
  clear hq
  have hL := run_loadVar_mid (P := Try.prog) W (w.heap.size + 1) 0 27 (rxC ⟨p.total, A, out.length, c⟩) _ (rx_range hE) Try.underlying27 rfl (rx_size rfl)
  refine bodyPost_ret (v := rxV ⟨p.total, A, out.length, c⟩) ?_ hd ⟨A, c, rfl, hs, hb⟩
  simp [results, Try.results23, asAddr, h6, hL, Sem.run_bind, Sem.run_pure, Result.andThen, rxV]
theorem shares_small (h : List Int) : (shares h).length ≤ 64 := shares_len h 64
set_option maxRecDepth 100000 in
set_option maxHeartbeats 4000000 in
theorem refWith20_any (p : Px) (A : Option Addr) (c : Nat) (t n : Int) (w : World) (B : Nat → Prop) (hf : Fine p) (hs : SAt w B A (shares p.h)) :
    Calls Try.prog 23 #[rxV ⟨p.total, A, (shares p.h).length, c⟩, .int .i64 t, .int .i64 n] w (WithPost (setP p t n) (fun b => w.heap.size ≤ b) w) := by
  have HZ := Lib.hid (wz_new w ⟨p.total, A, (shares p.h).length, c⟩)
  have HC : ∀ (k : Nat) W, k < 64 → Below w.heap.size w W → Hid (Calls Try.prog 17 #[rxV ⟨p.total, A, (shares p.h).length, c⟩, .int .i64 (k : Int)] W fun e w' => e = .returned (.int .i64 (p.h.getD k 0)) ∧ Below W.heap.size W w') := fun k W hk hb => Lib.hid (by
    have h := refHeld20_any p.total A c (shares p.h) (k : Int) W B (hs.next hb) (Nat.le_trans (shares_small _) (by omega))
    rwa [heldL_shares hf, hv_in (by omega) (by omega), Int.toNat_natCast] at h)
  have HG : Hid (∀ k, k < 64 → (setP p t n).h.getD k 0 = withN p.h t n k) := Lib.hid (fun k hk => set_get hf t n hk)
  have HT : Hid ((setP p t n).total = p.total) := Lib.hid (set_total p t n)
  obtain ⟨q, hq⟩ : ∃ q, q = setP p t n := ⟨_, rfl⟩
  rw [← hq] at HG HT ⊢
  obtain ⟨hp, hhp⟩ : ∃ hp, hp = p.h := ⟨_, rfl⟩
  rw [← hhp] at HG HC HZ ⊢
  obtain ⟨tot, htot⟩ : ∃ tot, tot = p.total := ⟨_, rfl⟩
  rw [← htot] at HC HZ HT ⊢
  obtain ⟨L, hL⟩ : ∃ L, L = (shares hp).length := ⟨_, rfl⟩
  rw [← hL] at HC HZ ⊢
  clear hf hs hq hhp htot hL
  go_enter Try.func23, Try.ntmps23
  go_upto_region 2 with (first | refine wrx_box rfl _ rfl ⟨tot, A, L, c⟩ rfl ?_ | refine wrx_alloc rfl rfl ?_)
  try simp only [Act.put, List.setIfInBounds_toArray, List.set_cons_zero, List.set_cons_succ, World.size_alloc, Nat.add_assoc, Nat.reduceAdd]
  generalize ((w.alloc (rxO ⟨tot, A, L, c⟩)).alloc (rxO rxZ)).alloc (.cells #[] 43 (0, 0)) = W1 at *
  go_wp2_with fail
  go_loopw [7, 8] (fun v i wr => ∃ k : Nat, i = .int .i64 (k : Int) ∧ k ≤ 64 ∧ Hid (Wz w ⟨tot, A, L, c⟩ v (sharesTo q.h k) wr)) (fun _ i _ => 64 - (intOf i).toNat)
  case atStart => exact ⟨0, rfl, Nat.zero_le _, HZ⟩
  case round =>
    obtain ⟨k, rfl, hk64, HW⟩ := hrel
    clear HZ
    by_cases hlk : k < 64
    · have d1 : decide ((k : Int) < 64) = true := by simp; omega
      have C := HC k wr hlk HW.out.below
      have hg := HG.out k hlk
      unfold withN at hg
      generalize hp.getD k 0 = y at *
      have HK := Lib.hid hlk
      have hw1 : IntKind.i64.wrap ((k : Int) + 1) = (k : Int) + 1 := by rw [IntKind.wrap_i64]; omega
      have hw2 : wrap64 ((k : Int) + 1) = (k : Int) + 1 := by unfold wrap64; omega
      have HL : Hid ((sharesTo q.h k).length ≤ 64) := Lib.hid (Nat.le_trans (shares_len q.h k) hk64)
      clear HC HG hk64 hlk
      go_upto_region 5 with fail
      go_wp2_with (first | refine wrx_load rfl _ rfl w.heap.size rfl ⟨tot, A, L, c⟩ HW.out.b0 ?_)
      refine C.out.mono ?_
      rintro _ w1 ⟨rfl, hb⟩
      have H1 := Lib.hid (HW.out.next hb)
      clear hb C HW
      by_cases hkt : (k : Int) = t
      · have e0 : ((k : Int) == t) = true := by rw [beq_iff_eq]; exact hkt
        rw [if_pos hkt] at hg
        by_cases hy : 0 < n
        · have d2 : decide (n > 0) = true := decide_eq_true hy
          have d3 : decide (0 < n) = true := decide_eq_true hy
          have hS : sharesTo q.h (k + 1) = sharesTo q.h k ++ [((k : Int), n)] := by rw [shares_yes (by rw [hg]; exact hy), hg]
          have HS := Lib.hid hS
          have HX := Lib.hid (SAt.one (e := ((k : Int), n)) (heap_alloc_new w1 (.cells #[.int .i64 (k : Int), .int .i64 n] 43)))
          have H2 := Lib.hid (H1.out.next ((Below.refl _ w1).alloc (Nat.le_refl _) (.cells #[.int .i64 (k : Int), .int .i64 n] 43)))
          have HB : Hid (w.heap.size + 2 ≤ (w1.alloc (.cells #[.int .i64 (k : Int), .int .i64 n] 43)).heap.size) := Lib.hid (by have := lt_of_block H2.out.b1; omega)
          clear hS hg hy hkt H1
          go_upto_region 9 with fail
          go_wp2_with (at_builtin; refine wpList_appS (by rfl) (.tmp 24) (.tmp 28) (by rfl) (w.heap.size + 2) 1 1 _ u7 ⟨w1.heap.size, 0, none⟩ (sharesTo q.h k) [((k : Int), n)] (by rfl) H2.out.own (by rfl) (by rfl) HX.out (by have := HL.out; simp; omega) HB.out ?_)
          intro v2 w2 ho2 hg2
          have H3 : Hid (Wz w ⟨tot, A, L, c⟩ v2 (sharesTo q.h (k + 1)) w2) := Lib.hid (by rw [HS.out]; exact H2.out.grown hg2 ho2)
          clear ho2 hg2 H2 HS HX HB
          go_wp2_with fail
          exact ⟨⟨k + 1, by go_num, by have := HK.out; omega, H3⟩, by have := HK.out; simp [intOf]; omega⟩
        · have d2 : decide (n > 0) = false := decide_eq_false hy
          have d3 : decide (0 < n) = false := decide_eq_false hy
          have hS : sharesTo q.h (k + 1) = sharesTo q.h k := shares_no (by rw [hg]; exact hy)
          have H3 : Hid (Wz w ⟨tot, A, L, c⟩ u7 (sharesTo q.h (k + 1)) w1) := Lib.hid (by rw [hS]; exact H1.out)
          clear hS hg hy hkt H1 HL
          go_wp2_with fail
          exact ⟨⟨k + 1, by go_num, by have := HK.out; omega, H3⟩, by have := HK.out; simp [intOf]; omega⟩
      · have e0 : ((k : Int) == t) = false := by rw [beq_eq_false_iff_ne]; exact hkt
        rw [if_neg hkt] at hg
        by_cases hy : 0 < y
        · have d2 : decide (y > 0) = true := decide_eq_true hy
          have d3 : decide (0 < y) = true := decide_eq_true hy
          have hS : sharesTo q.h (k + 1) = sharesTo q.h k ++ [((k : Int), y)] := by rw [shares_yes (by rw [hg]; exact hy), hg]
          have HS := Lib.hid hS
          have HX := Lib.hid (SAt.one (e := ((k : Int), y)) (heap_alloc_new w1 (.cells #[.int .i64 (k : Int), .int .i64 y] 43)))
          have H2 := Lib.hid (H1.out.next ((Below.refl _ w1).alloc (Nat.le_refl _) (.cells #[.int .i64 (k : Int), .int .i64 y] 43)))
          have HB : Hid (w.heap.size + 2 ≤ (w1.alloc (.cells #[.int .i64 (k : Int), .int .i64 y] 43)).heap.size) := Lib.hid (by have := lt_of_block H2.out.b1; omega)
          clear hS hg hy hkt H1
          go_upto_region 9 with fail
          go_wp2_with (at_builtin; refine wpList_appS (by rfl) (.tmp 24) (.tmp 28) (by rfl) (w.heap.size + 2) 1 1 _ u7 ⟨w1.heap.size, 0, none⟩ (sharesTo q.h k) [((k : Int), y)] (by rfl) H2.out.own (by rfl) (by rfl) HX.out (by have := HL.out; simp; omega) HB.out ?_)
          intro v2 w2 ho2 hg2
          have H3 : Hid (Wz w ⟨tot, A, L, c⟩ v2 (sharesTo q.h (k + 1)) w2) := Lib.hid (by rw [HS.out]; exact H2.out.grown hg2 ho2)
          clear ho2 hg2 H2 HS HX HB
          go_wp2_with fail
          exact ⟨⟨k + 1, by go_num, by have := HK.out; omega, H3⟩, by have := HK.out; simp [intOf]; omega⟩
        · have d2 : decide (y > 0) = false := decide_eq_false hy
          have d3 : decide (0 < y) = false := decide_eq_false hy
          have hS : sharesTo q.h (k + 1) = sharesTo q.h k := shares_no (by rw [hg]; exact hy)
          have H3 : Hid (Wz w ⟨tot, A, L, c⟩ u7 (sharesTo q.h (k + 1)) w1) := Lib.hid (by rw [hS]; exact H1.out)
          clear hS hg hy hkt H1 HL
          go_wp2_with fail
          exact ⟨⟨k + 1, by go_num, by have := HK.out; omega, H3⟩, by have := HK.out; simp [intOf]; omega⟩
    · have d1 : decide ((k : Int) < 64) = false := by simp; omega
      obtain rfl : k = 64 := by omega
      obtain ⟨A', c', rfl⟩ := HW.out.own.slice
      clear HC HG hk64 hlk
      have HR : Hid (SAt wr (fun b => w.heap.size + 2 ≤ b) A' (sharesTo q.h 64)) := Lib.hid HW.out.own.at
      obtain ⟨x0, x1⟩ := rx_cells HW.out.b0
      dsimp only at x0 x1
      go_upto_region 10 with fail
      go_wp2_with (first | refine wrx_build2 rfl _ _ rfl tot A' (sharesTo q.h 64).length c' rfl rfl ?_ | refine wrx_store rfl _ _ rfl (w.heap.size + 1) rxZ _ rfl rfl HW.out.b1 ?_)
      have hX := row_below HW.out.below (by omega : w.heap.size ≤ w.heap.size + 1) (rxC ⟨tot, A', (sharesTo q.h 64).length, c'⟩).toArray
      refine ret_with (A := A') (c := c') rfl rfl (by rw [HT.out]; exact rx_turned HW.out.b1 _) hX ?_ rfl
      exact (HR.out.keep (fun b h1 h2 => row_far _ (by (try dsimp only at h1); omega)) (row_size _ _ _)).base (fun b h _ => by (try dsimp only at h); (try dsimp only); omega)
end Go.Proofs.Ythdencddocgbjaa.pol
