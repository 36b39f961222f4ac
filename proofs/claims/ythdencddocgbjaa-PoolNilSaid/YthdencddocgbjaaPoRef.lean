/-
  The document's own units: new ones, how many a thread has, how many are free. No condition.
-/
import Derived.Test.YthdencddocgbjaaPoMem
namespace Go.Proofs.Ythdencddocgbjaa.pol
open Go.RowKit Go.ChangeShapes
open Go.Proofs.Ythdencddocgbjaa.obj
set_option linter.unusedVariables false
set_option linter.unusedSimpArgs false

theorem drop_get {l : List E} {k : Nat} (h : k < l.length) : l.drop k = l.getD k (0, 0) :: l.drop (k + 1) := by
  rw [List.drop_eq_getElem_cons h, List.getD_eq_getElem?_getD, List.getElem?_eq_getElem h]
  rfl
theorem take_get {l : List E} {k : Nat} (h : k < l.length) : l.take (k + 1) = l.take k ++ [l.getD k (0, 0)] := by
  rw [List.take_succ_eq_append_getElem h, List.getD_eq_getElem?_getD, List.getElem?_eq_getElem h]
  rfl
theorem rx_built1 (x : Int) : Try.prog.built 27 [(0, .int .i64 x)] = some (rxC ⟨x, none, 0, 0⟩).toArray := by kernel_rfl
theorem wrx_build1 {ops : Array Oper} {rest : List Oper} {o : Oper} {a : Act} {w : World} {Q : Exit → Act → World → Prop} (hgd : o.guard = none) (x : Operand) (ho : o.op = .build 27 #[(0, x)]) (n : Int) (hx : a.eval x = .int .i64 n)
    (h : wpList Try.prog ops Q rest (a.put o.dst (rxV ⟨n, none, 0, 0⟩)) w) : wpList Try.prog ops Q (o :: rest) a w := by
  have e : (#[(0, x)].map fun (i, x) => (i, a.eval x)).toList = [((0 : Nat), Value.int .i64 n)] := by simp [hx]
  refine wpList_build hgd _ _ ho (by rw [e, rx_built1]; rfl) ?_
  rw [e, rx_built1]
  exact h
/-- What the document's New answers: no shares, no slice. -/
def NewPost (p : Px) (w : World) (e : Ending) (w' : World) : Prop := e = .returned (rxV ⟨p.total, none, 0, 0⟩) ∧ Below w.heap.size w w'
theorem ret_new20 {W w : World} {act : Act} {p : Px} {m : Rx} (h2 : act.tmps[2]?.getD undef = .pointer (some ⟨w.heap.size, 0, none⟩)) (hd : act.defers = []) (hE : W.heap[w.heap.size]? = some (rxO m)) (hb : Below w.heap.size w W) (hq : m = ⟨p.total, none, 0, 0⟩) :
    bodyPost Try.prog Try.f8 (NewPost p w) .ret act W := by
  subst hq
  have hL := run_loadVar_mid (P := Try.prog) W w.heap.size 0 27 (rxC ⟨p.total, none, 0, 0⟩) _ (rx_range hE) Try.underlying27 rfl (rx_size rfl)
  refine bodyPost_ret (v := rxV ⟨p.total, none, 0, 0⟩) ?_ hd ⟨rfl, hb⟩
  simp [results, Try.results8, asAddr, h2, hL, Sem.run_bind, Sem.run_pure, Result.andThen, rxV]
set_option maxRecDepth 100000 in
set_option maxHeartbeats 2000000 in
theorem refNew20_any (total : Int) (w : World) : Calls Try.prog 8 #[.int .i64 total] w (NewPost (newP total) w) := by
  have HB := Lib.hid ((Below.refl w.heap.size w).alloc (Nat.le_refl _) (rxO rxZ))
  have HX := Lib.hid (heap_alloc_new w (rxO rxZ))
  obtain ⟨q, hq⟩ : ∃ q, q = newP total := ⟨_, rfl⟩
  rw [← hq]
  have HQ := Lib.hid hq
  clear hq
  go_enter Try.func8, Try.ntmps8
  go_upto_region 1 with (first | refine wrx_alloc rfl rfl ?_)
  try simp only [Act.put, List.setIfInBounds_toArray, List.set_cons_zero, List.set_cons_succ]
  generalize w.alloc (rxO rxZ) = W1 at *
  go_wp2_with (first | refine wrx_build1 rfl _ rfl _ rfl ?_ | refine wrx_store rfl _ _ rfl w.heap.size rxZ _ rfl rfl HX.out ?_)
  all_goals
    refine ret_new20 rfl rfl (rx_turned HX.out _) (row_below HB.out (Nat.le_refl _) _) ?_
    rw [HQ.out]
    unfold newP
    congr 1 <;> omega

set_option maxRecDepth 100000 in
set_option maxHeartbeats 2000000 in
theorem refHeld20_any (total : Int) (A : Option Addr) (c : Nat) (l : List E) (t : Int) (w : World) (B : Nat → Prop) (hs : SAt w B A l) (hl : l.length ≤ 4096) :
    Calls Try.prog 17 #[rxV ⟨total, A, l.length, c⟩, .int .i64 t] w fun e w' => e = .returned (.int .i64 (heldL l t)) ∧ Below w.heap.size w w' := by
  have hb0 := (Below.refl w.heap.size w).alloc (Nat.le_refl _) (rxO ⟨total, A, l.length, c⟩)
  have HS := Lib.hid (hs.next hb0)
  have HB := Lib.hid hb0
  have HX := Lib.hid (heap_alloc_new w (rxO ⟨total, A, l.length, c⟩))
  obtain ⟨q, hq⟩ : ∃ q, q = heldL l t := ⟨_, rfl⟩
  rw [← hq]
  have HQ : Hid (q = heldL (l.drop 0) t) := Lib.hid hq
  clear hq hs hb0
  go_enter Try.func17, Try.ntmps17
  go_upto_region 1 with (first | refine wrx_box rfl _ rfl ⟨total, A, l.length, c⟩ rfl ?_)
  try simp only [Act.put, List.setIfInBounds_toArray, List.set_cons_zero, List.set_cons_succ]
  generalize w.alloc (rxO ⟨total, A, l.length, c⟩) = W1 at *
  obtain ⟨x0, x1⟩ := rx_cells HX.out
  clear HX
  go_wp2_with fail
  go_loop [5] (fun i => ∃ k : Nat, k ≤ l.length ∧ i = .int .i64 (k : Int) ∧ Hid (q = heldL (l.drop k) t)) (fun i => l.length - (intOf i).toNat)
  case atStart => exact ⟨0, Nat.zero_le _, rfl, HQ⟩
  case round =>
    clear HQ
    obtain ⟨k, hk, rfl, HN⟩ := hrel
    by_cases hlk : k < l.length
    · obtain ⟨b, off, rfl, hBb, hb, c0, c1⟩ := HS.out k hlk
      have k1 : (0 : Int) ≤ (k : Int) := by omega
      have k2 : (k : Int) < (l.length : Int) := by omega
      have hd := HN.out
      rw [drop_get hlk, heldL] at hd
      by_cases hx : (l.getD k (0, 0)).1 = t
      · rw [if_pos hx] at hd
        have HD := Lib.hid hd
        generalize l.getD k (0, 0) = e0 at *
        subst hx
        clear HN hd
        go_wp2_with fail
        go_ret
        exact ⟨by rw [HD.out]; rfl, HB.out⟩
      · rw [if_neg hx] at hd
        have HD := Lib.hid hd
        generalize l.getD k (0, 0) = e0 at *
        have ne2 : (e0.1 == t) = false := by simpa using hx
        clear HN hd
        go_wp2_with fail
        go_round
        case rel => exact ⟨k + 1, by omega, by go_num, HD⟩
        case measure => simp [intOf]; omega
    · have HD : Hid (q = 0) := Lib.hid (by
        rw [HN.out, List.drop_eq_nil_of_le (by omega)]
        rfl)
      clear HN
      go_wp2_with fail
      go_ret
      exact ⟨by rw [HD.out]; rfl, HB.out⟩

set_option maxRecDepth 100000 in
set_option maxHeartbeats 2000000 in
theorem refFree20_any (total : Int) (A : Option Addr) (c : Nat) (l : List E) (w : World) (B : Nat → Prop) (hs : SAt w B A l) (hl : l.length ≤ 4096) (hw : ∀ k, k ≤ l.length → I64 (total - sumH ((l.take k).map Prod.snd))) :
    Calls Try.prog 15 #[rxV ⟨total, A, l.length, c⟩] w fun e w' => e = .returned (.int .i64 (total - sumH (l.map Prod.snd))) ∧ Below w.heap.size w w' := by
  have hb0 := (Below.refl w.heap.size w).alloc (Nat.le_refl _) (rxO ⟨total, A, l.length, c⟩)
  have HS := Lib.hid (hs.next hb0)
  have HB := Lib.hid hb0
  have HX := Lib.hid (heap_alloc_new w (rxO ⟨total, A, l.length, c⟩))
  have HW := Lib.hid hw
  obtain ⟨q, hq⟩ : ∃ q, q = total - sumH (l.map Prod.snd) := ⟨_, rfl⟩
  rw [← hq]
  have HQ := Lib.hid hq
  have H0 : Hid (total = total - sumH ((l.take 0).map Prod.snd)) := Lib.hid (by simp [sumH])
  clear hq hs hb0 hw
  go_enter Try.func15, Try.ntmps15
  go_upto_region 1 with (first | refine wrx_box rfl _ rfl ⟨total, A, l.length, c⟩ rfl ?_)
  try simp only [Act.put, List.setIfInBounds_toArray, List.set_cons_zero, List.set_cons_succ]
  generalize w.alloc (rxO ⟨total, A, l.length, c⟩) = W1 at *
  obtain ⟨x0, x1⟩ := rx_cells HX.out
  dsimp only at x0 x1
  clear HX
  go_wp2_with fail
  go_loop [3, 4] (fun n i => ∃ (k : Nat) (y : Int), k ≤ l.length ∧ n = .int .i64 y ∧ i = .int .i64 (k : Int) ∧ Hid (y = total - sumH ((l.take k).map Prod.snd))) (fun _ i => l.length - (intOf i).toNat)
  case atStart => exact ⟨0, total, Nat.zero_le _, rfl, rfl, H0⟩
  case round =>
    clear H0
    obtain ⟨k, y, hk, rfl, rfl, HN⟩ := hrel
    by_cases hlk : k < l.length
    · obtain ⟨b, off, rfl, hBb, hb, c0, c1⟩ := HS.out k hlk
      have k1 : (0 : Int) ≤ (k : Int) := by omega
      have k2 : (k : Int) < (l.length : Int) := by omega
      have hd : y - (l.getD k (0, 0)).2 = total - sumH ((l.take (k + 1)).map Prod.snd) := by
        rw [HN.out, take_get hlk, List.map_append, sumH_append]
        simp only [List.map_cons, List.map_nil, sumH]
        omega
      have hi := HW.out (k + 1) (by omega)
      rw [← hd] at hi
      have HD := Lib.hid hd
      generalize l.getD k (0, 0) = e0 at *
      have hw1 : IntKind.i64.wrap (y - e0.2) = y - e0.2 := by unfold I64 at hi; rw [IntKind.wrap_i64]; omega
      have hw2 : wrap64 (y - e0.2) = y - e0.2 := by unfold I64 at hi; unfold wrap64; omega
      clear HN hd hi
      go_wp2_with fail
      go_round
      case rel => exact ⟨k + 1, y - e0.2, by omega, rfl, by go_num, HD⟩
      case measure => simp [intOf]; omega
    · have HD : Hid (q = y) := Lib.hid (by
        rw [HQ.out, HN.out, List.take_of_length_le (by omega)])
      clear HN
      go_wp2_with fail
      go_ret
      exact ⟨by rw [HD.out]; rfl, HB.out⟩
end Go.Proofs.Ythdencddocgbjaa.pol
