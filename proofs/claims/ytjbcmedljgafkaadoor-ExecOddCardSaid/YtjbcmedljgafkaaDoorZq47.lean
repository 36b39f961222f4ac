/-
  Texts of one claim in one file: PPopsOdd, ZInner. Each has its own sentence, with its conditions.
-/
import Derived.Test.YtjbcmedljgafkaaDoorZq6
import Derived.Test.YtjbcmedljgafkaaDoorZq44
import Derived.Test.YtjbcmedljgafkaaDoorZq46
/-
  How many values an instruction takes: the program's own call, whatever the numbers. No condition.
-/

namespace Go.Proofs.YtjbcmedljgafkaaDoor.oper
open Go.RowKit Go.ChangeShapes

set_option maxHeartbeats 2000000 in
theorem pops_odd (o a b args : Int) (w : World) :
    Calls Tryd.prog 43 #[.agg #[.int .i64 o, .int .i64 a, .int .i64 b], .int .i64 args] w fun e w' => (∃ n, e = .returned (.int .i64 n)) ∧ w' = w.alloc (insBox o a b) := by
  go_enter Tryd.func43, Tryd.ntmps43
  go_wp2
  all_goals go_ret
  all_goals exact ⟨⟨_, rfl⟩, rfl⟩
set_option maxHeartbeats 2000000 in
/-- The same, exact but for an operation that takes as many as a B says that the machine can't hold. -/
theorem pops_fits (o a b args : Int) (w : World) :
    Calls Tryd.prog 43 #[.agg #[.int .i64 o, .int .i64 a, .int .i64 b], .int .i64 args] w fun e w' => (∃ n, e = .returned (.int .i64 n) ∧ (o ≠ 41 ∧ o ≠ 42 ∨ (-9223372036854775808 ≤ b ∧ b < 9223372036854775807) → n = pops o b args)) ∧ w' = w.alloc (insBox o a b) := by
  by_cases hb : -9223372036854775808 ≤ b ∧ b < 9223372036854775807
  · exact (pops_any o a b args hb.1 hb.2 w).mono fun e w' ⟨h1, h2⟩ => ⟨⟨_, h1, fun _ => rfl⟩, h2⟩
  by_cases h42 : o = 41 ∨ o = 42
  · exact (pops_odd o a b args w).mono fun e w' ⟨⟨n, h1⟩, h2⟩ => ⟨⟨n, h1, fun h => by
      rcases h with h | h
      · exact absurd h42 (by omega)
      · exact absurd h hb⟩, h2⟩
  have e41 : (o == 41) = false := by rw [beq_eq_false_iff_ne]; omega
  have e42 : (o == 42) = false := by rw [beq_eq_false_iff_ne]; omega
  refine Calls.mono (R := fun e w' => e = .returned (.int .i64 (pops o b args)) ∧ w' = w.alloc (insBox o a b)) ?_ fun e w' ⟨h1, h2⟩ => ⟨⟨_, h1, fun _ => rfl⟩, h2⟩
  clear hb h42
  go_enter Tryd.func43, Tryd.ntmps43
  go_wp2
  all_goals go_ret
  all_goals refine ⟨ret_int ?_, rfl⟩
  all_goals first
    | (have hq := eq_of_beq ‹(o == _) = true›; subst hq; rfl)
    | (rw [pops_other o b args (by simp only [tkL, List.all_cons, List.all_nil, Bool.not_false, Bool.and_self, *])])
end Go.Proofs.YtjbcmedljgafkaaDoor.oper

/-
  The program's own do: what the instruction at which the last frame is comes to (typed over the code of 8d70ec2). At most a thousand frames, each of twenty-seven numbers; a program of at most twenty functions.
-/

namespace Go.Proofs.YtjbcmedljgafkaaDoor.pgm.exe
open Go.RowKit Go.ChangeShapes
open Go.Proofs.YtjbcmedljgafkaaDoor.pgm (Fn FsAt getD_in)
open Go.Proofs.YtjbcmedljgafkaaDoor.objs (De zero cells3)
open Go.Proofs.YtjbcmedljgafkaaDoor.nums (NAt)
open Go.Proofs.YtjbcmedljgafkaaDoor.oper (pops insBox pops_fits)
open Go.Proofs.YtjbcmedljgafkaaDoor.frames (Fr In popO pop_odd PopPost callO retO FrsPost)
set_option linter.unusedVariables false
set_option linter.unusedSimpArgs false

/-- What stands in what an instruction came to. -/
def OutQ (r : Res) (q : Oc) (w : World) : Prop := match r with
  | (some (l, f), _) => ∃ A c, q = ⟨true, A, l.length, c, f, 0⟩ ∧ In w A c l
  | (none, k) => q.done = false ∧ q.k = k
theorem out_open {r : Res} {w w' : World} {e : Ending} (h : OutPost r w e w') : ∃ q, e = .returned (ocV q) ∧ Below w.heap.size w w' ∧ OutQ r q w' := by
  obtain ⟨hb, h⟩ := h
  match r, h with
  | (some (l, f), _), ⟨A, c, he, hI⟩ => exact ⟨_, he, hb, A, c, rfl, hI⟩
  | (none, k), ⟨q, h1, h2, he⟩ => exact ⟨q, he, hb, h1, h2⟩
theorem OutQ.shut {r : Res} {q : Oc} {w W : World} (h : OutQ r q W) (hb : Below w.heap.size w W) : OutPost r w (.returned (ocV q)) W := by
  match r, h with
  | (some (l, f), _), ⟨A, c, he, hI⟩ => exact ⟨hb, A, c, by rw [he], hI⟩
  | (none, k), ⟨h1, h2⟩ => exact ⟨hb, q, h1, h2, rfl⟩
theorem OutQ.store {r : Res} {q : Oc} {w : World} (h : OutQ r q w) {g : Nat} {q0 : Oc} (hg : w.heap[g]? = some (ocB q0)) (rs : Array Value) : OutQ r q (w.setRow g rs) := by
  match r, h with
  | (some (l, f), _), ⟨A, c, he, hI⟩ => exact ⟨A, c, he, in_row hI hg (by rw [ocC_size]; omega) rs⟩
  | (none, k), h => exact h
/-- The end of a function that hands on an outcome. -/
theorem oc_hand {f : Func} {s : Nat} (hr : f.results = #[.cell s 60]) {w W : World} {act : Act} {g : Nat} {q0 q : Oc} {r : Res} (h : act.tmps[s]?.getD undef = .pointer (some ⟨g, 0, none⟩)) (hd : act.defers = [])
    (hZ : Zo w g q0 W) (hq : OutQ r q W) : bodyPost Tryd.prog f (OutPost r w) .ret act (W.setRow g (ocC q).toArray) :=
  oc_ret hr h hd (hZ.store _).block ((hq.store hZ.block _).shut (hZ.store _).below)

/-- What stands in an answer of frames, numbers and a yes or no. -/
def PI (w : World) (x : Option (List Fr × List Int)) (A : Option Addr) (n c : Nat) (B : Option Addr) (m d : Nat) (b : Bool) : Prop := match x with
  | none => b = false
  | some (y, v) => b = true ∧ n = y.length ∧ m = v.length ∧ In w A c y ∧ NAt w B v
theorem pop_q (A : Option Addr) (c : Nat) (l : List Fr) (n : Int) (w : World) (hI : In w A c l) :
    Calls Tryd.prog 41 #[.slice A l.length c, .int .i64 n] w fun e w' => ∃ A' n' c' B m d b, e = .returned (.tuple #[.slice A' n' c', .slice B m d, .bool b]) ∧ Below w.heap.size w w' ∧ PI w' (popO l n) A' n' c' B m d b := by
  refine (pop_odd A c l n w hI).mono fun e w' h => ?_
  obtain ⟨hb, h⟩ := h
  cases hp : popO l n with
  | none =>
    rw [hp] at h
    exact ⟨none, 0, 0, none, 0, 0, false, h, hb, rfl⟩
  | some y =>
    obtain ⟨y, v⟩ := y
    rw [hp] at h
    obtain ⟨A', c', B, d, h1, h2, h3, -⟩ := h
    exact ⟨A', y.length, c', B, v.length, d, true, h1, hb, rfl, rfl, rfl, h2, h3⟩

/-- Memory while do goes: the program's box, the instruction's, and what is answered. -/
structure Zx (w : World) (pb ib : Obj) (q : Oc) (W : World) : Prop where
  zo : Zo w (w.heap.size + 2) q W
  b0 : W.heap[w.heap.size]? = some pb
  b1 : W.heap[w.heap.size + 1]? = some ib
theorem Zx.next {w W W' : World} {pb ib : Obj} {q : Oc} (h : Zx w pb ib q W) (hb : Below W.heap.size W W') : Zx w pb ib q W' := ⟨h.zo.next hb, (hb.block _ (lt_of_block h.b0)).trans h.b0, (hb.block _ (lt_of_block h.b1)).trans h.b1⟩
theorem zx_new (w : World) (pb ib : Obj) : Zx w pb ib zO (((w.alloc pb).alloc ib).alloc (ocB zO)) := by
  have e1 : (w.alloc pb).heap.size = w.heap.size + 1 := World.size_alloc _ _
  have e2 : ((w.alloc pb).alloc ib).heap.size = w.heap.size + 2 := by rw [World.size_alloc, e1]
  have hz := zo_new (((Below.refl _ w).alloc (Nat.le_refl _) pb).alloc (by rw [e1]; omega) ib)
  rw [e2] at hz
  refine ⟨hz, (Below.heap_alloc _ _ _ (by rw [e2]; omega)).trans ((Below.heap_alloc _ _ _ (by rw [e1]; omega)).trans (heap_alloc_new w pb)), (Below.heap_alloc _ _ _ (by rw [e2]; omega)).trans ?_⟩
  rw [← e1]
  exact heap_alloc_new _ ib

def Exact (z : De) (n : Int) : Prop := z.1 ≠ 41 ∧ z.1 ≠ 42 ∨ (-9223372036854775808 ≤ z.2.2 ∧ z.2.2 < 9223372036854775807) → n = pops z.1 z.2.2 0
/-- The instruction takes so many values, and goes on. -/
def restR (lo : List Fr) (x : De) (self now n : Int) : Res := match popO lo n with
  | none => (none, 0)
  | some (rest, v) => if 0 ≤ x.1 ∧ x.1 ≤ 23 then aloneR rest x v self now else (some (rest, ⟨x.1, x.2.1, x.2.2, v⟩), 0)
/-- What the instruction comes to: how many it takes is just what its operation says, but where its B is none that the machine can hold. -/
def InnerPost (fs : List Fn) (l : List Fr) (z : De) (self now : Int) (w : World) (e : Ending) (w' : World) : Prop := ∃ n, Exact z n ∧ OutPost (doR fs l z self now n) w e w'

set_option maxRecDepth 100000 in
set_option maxHeartbeats 4000000 in
theorem in_call (x y : Value) (C : Option Addr) (cc : Nat) (fs : List Fn) (A : Option Addr) (c : Nat) (l : List Fr) (z2 z3 self now : Int) (w : World) (hF : FsAt w C fs) (hsm : fs.length ≤ 20) (hI : In w A c l) (h0 : l.length ≠ 0) :
    Calls Tryd.prog 19 #[.agg #[x, y, .slice C fs.length cc], .slice A l.length c, .agg #[.int .i64 20, .int .i64 z2, .int .i64 z3], .int .i64 self, .int .i64 now] w (OutPost (callR fs l z2) w) := by
  have HZ := Lib.hid (zx_new w (.cells #[x, y, .slice C fs.length cc] 26) (insBox 20 z2 z3))
  have HC := fun (W : World) (h : Below w.heap.size w W) => Lib.hid (xcall_any x y C cc fs z2 A c l W (hF.next h) hsm (hI.next h) h0)
  unfold insBox at HZ
  clear hF hsm hI h0
  generalize callR fs l z2 = r at *
  go_enter Tryd.func19, Tryd.ntmps19
  go_upto_region 1 with (first | refine wo_alloc rfl rfl ?_)
  try simp only [Act.put, List.setIfInBounds_toArray, List.set_cons_zero, List.set_cons_succ, World.size_alloc]
  generalize ((w.alloc (.cells #[x, y, .slice C fs.length cc] 26)).alloc (.cells #[.int .i64 20, .int .i64 z2, .int .i64 z3] 55)).alloc (ocB zO) = W1 at *
  obtain ⟨p0, p1, p2, -, -, -⟩ := cells3 HZ.out.b0
  obtain ⟨y0, y1, y2, -, -, -⟩ := cells3 HZ.out.b1
  have HC1 := HC W1 HZ.out.zo.below
  clear HC
  go_wp2_with fail
  refine HC1.out.mono ?_
  intro e w2 h2
  obtain ⟨q, rfl, hb2, hq2⟩ := out_open h2
  have HZ2 := Lib.hid (HZ.out.next hb2)
  have HQ2 := Lib.hid hq2
  clear h2 hb2 hq2 HC1 HZ p0 p1 p2 y0 y1 y2
  go_wp2_with (first | refine wo_store rfl _ _ rfl (w.heap.size + 2) zO q rfl rfl HZ2.out.zo.block ?_)
  exact oc_hand Tryd.results19 rfl rfl HZ2.out.zo HQ2.out

set_option maxRecDepth 100000 in
set_option maxHeartbeats 4000000 in
theorem in_ret (x y u : Value) (A : Option Addr) (c : Nat) (l : List Fr) (z2 z3 self now : Int) (w : World) (hI : In w A c l) :
    Calls Tryd.prog 19 #[.agg #[x, y, u], .slice A l.length c, .agg #[.int .i64 21, .int .i64 z2, .int .i64 z3], .int .i64 self, .int .i64 now] w (OutPost (retR l) w) := by
  have HZ := Lib.hid (zx_new w (.cells #[x, y, u] 26) (insBox 21 z2 z3))
  have HC := fun (W : World) (h : Below w.heap.size w W) => Lib.hid (xret_any A c l W (hI.next h))
  unfold insBox at HZ
  clear hI
  generalize retR l = r at *
  go_enter Tryd.func19, Tryd.ntmps19
  go_upto_region 1 with (first | refine wo_alloc rfl rfl ?_)
  try simp only [Act.put, List.setIfInBounds_toArray, List.set_cons_zero, List.set_cons_succ, World.size_alloc]
  generalize ((w.alloc (.cells #[x, y, u] 26)).alloc (.cells #[.int .i64 21, .int .i64 z2, .int .i64 z3] 55)).alloc (ocB zO) = W1 at *
  obtain ⟨y0, y1, y2, -, -, -⟩ := cells3 HZ.out.b1
  have HC1 := HC W1 HZ.out.zo.below
  clear HC
  go_wp2_with fail
  refine HC1.out.mono ?_
  intro e w2 h2
  obtain ⟨q, rfl, hb2, hq2⟩ := out_open h2
  have HZ2 := Lib.hid (HZ.out.next hb2)
  have HQ2 := Lib.hid hq2
  clear h2 hb2 hq2 HC1 HZ y0 y1 y2
  go_wp2_with (first | refine wo_store rfl _ _ rfl (w.heap.size + 2) zO q rfl rfl HZ2.out.zo.block ?_)
  exact oc_hand Tryd.results19 rfl rfl HZ2.out.zo HQ2.out

theorem pops_fix {o b n : Int} (h : Exact (o, 0, b) n) (ho : o = 2 ∨ o = 16 ∨ o = 19) : n = 1 := by
  rw [h (.inl ⟨by show o ≠ 41; omega, by show o ≠ 42; omega⟩)]
  rcases ho with rfl | rfl | rfl <;> rfl
set_option maxRecDepth 100000 in
set_option maxHeartbeats 4000000 in
theorem in_rest (x y u : Value) (fs : List Fn) (A : Option Addr) (c : Nat) (l : List Fr) (z1 z2 z3 self now : Int) (w : World) (hI : In w A c l) (h0 : l.length ≠ 0) (h20 : z1 ≠ 20) (h21 : z1 ≠ 21) :
    Calls Tryd.prog 19 #[.agg #[x, y, u], .slice A l.length c, .agg #[.int .i64 z1, .int .i64 z2, .int .i64 z3], .int .i64 self, .int .i64 now] w (fun e w' => ∃ n, Exact (z1, z2, z3) n ∧ OutPost (restR (onwO l) (z1, z2, z3) self now n) w e w') := by
  have HZ := Lib.hid (zx_new w (.cells #[x, y, u] 26) (insBox z1 z2 z3))
  have e20 : (z1 == 20) = false := by rw [beq_eq_false_iff_ne]; exact h20
  have e21 : (z1 == 21) = false := by rw [beq_eq_false_iff_ne]; exact h21
  unfold insBox at HZ
  have HOn : ∀ W, Zx w (.cells #[x, y, u] 26 (0, 0)) (.cells #[.int .i64 z1, .int .i64 z2, .int .i64 z3] 55 (0, 0)) zO W → Hid (Calls Tryd.prog 42 #[.slice A l.length c] W fun e w' => ∃ A1 c1, e = .returned (.slice A1 (onwO l).length c1) ∧ w'.cell? ⟨w.heap.size + 1, 0, none⟩ = some (.int .i64 z1) ∧ w'.cell? ⟨w.heap.size + 1, 1, none⟩ = some (.int .i64 z2) ∧ w'.cell? ⟨w.heap.size + 1, 2, none⟩ = some (.int .i64 z3) ∧ Hid (Zx w (.cells #[x, y, u] 26 (0, 0)) (.cells #[.int .i64 z1, .int .i64 z2, .int .i64 z3] 55 (0, 0)) zO w') ∧ Hid (In w' A1 c1 (onwO l))) := fun W hW => Lib.hid (by
    refine (onward_any A c l W (hI.next hW.zo.below) h0).mono fun e w' h => ?_
    obtain ⟨A1, c1, h1, h2, h3⟩ := h
    have hW' := hW.next h3
    obtain ⟨a0, a1, a2, -⟩ := cells3 hW'.b1
    exact ⟨A1, c1, h1, a0, a1, a2, Lib.hid hW', Lib.hid h2⟩)
  have HPs : ∀ W, Zx w (.cells #[x, y, u] 26 (0, 0)) (.cells #[.int .i64 z1, .int .i64 z2, .int .i64 z3] 55 (0, 0)) zO W → Hid (Calls Tryd.prog 43 #[.agg #[.int .i64 z1, .int .i64 z2, .int .i64 z3], .int .i64 0] W fun e w' => ∃ n, e = .returned (.int .i64 n) ∧ w'.cell? ⟨w.heap.size + 1, 0, none⟩ = some (.int .i64 z1) ∧ w'.cell? ⟨w.heap.size + 1, 1, none⟩ = some (.int .i64 z2) ∧ w'.cell? ⟨w.heap.size + 1, 2, none⟩ = some (.int .i64 z3) ∧ Hid (Zx w (.cells #[x, y, u] 26 (0, 0)) (.cells #[.int .i64 z1, .int .i64 z2, .int .i64 z3] 55 (0, 0)) zO w') ∧ Hid (Exact (z1, z2, z3) n) ∧ Hid (Below W.heap.size W w')) := fun W hW => Lib.hid (by
    refine (pops_fits z1 z2 z3 0 W).mono fun e w' h => ?_
    obtain ⟨⟨n, h1, hx⟩, rfl⟩ := h
    have hb : Below W.heap.size W (W.alloc (insBox z1 z2 z3)) := (Below.refl _ _).alloc (Nat.le_refl _) _
    have hW' := hW.next hb
    obtain ⟨a0, a1, a2, -⟩ := cells3 hW'.b1
    exact ⟨n, h1, a0, a1, a2, Lib.hid hW', Lib.hid hx, Lib.hid hb⟩)
  obtain ⟨lo, hlo⟩ : ∃ lo, lo = onwO l := ⟨_, rfl⟩
  rw [← hlo] at HOn ⊢
  have HPo : ∀ W A1 c1 n, Zx w (.cells #[x, y, u] 26 (0, 0)) (.cells #[.int .i64 z1, .int .i64 z2, .int .i64 z3] 55 (0, 0)) zO W → In W A1 c1 lo → Hid (Calls Tryd.prog 41 #[.slice A1 lo.length c1, .int .i64 n] W fun e w' => ∃ A' n' c' B m d b, e = .returned (.tuple #[.slice A' n' c', .slice B m d, .bool b]) ∧ w'.cell? ⟨w.heap.size + 1, 0, none⟩ = some (.int .i64 z1) ∧ w'.cell? ⟨w.heap.size + 1, 1, none⟩ = some (.int .i64 z2) ∧ w'.cell? ⟨w.heap.size + 1, 2, none⟩ = some (.int .i64 z3) ∧ Hid (Zx w (.cells #[x, y, u] 26 (0, 0)) (.cells #[.int .i64 z1, .int .i64 z2, .int .i64 z3] 55 (0, 0)) zO w') ∧ Hid (PI w' (popO lo n) A' n' c' B m d b)) := fun W A1 c1 n hW h => Lib.hid (by
    refine (pop_q A1 c1 lo n W h).mono fun e w' h => ?_
    obtain ⟨A', n', c', B, m, d, b, h1, h2, h3⟩ := h
    have hW' := hW.next h2
    obtain ⟨a0, a1, a2, -⟩ := cells3 hW'.b1
    exact ⟨A', n', c', B, m, d, b, h1, a0, a1, a2, Lib.hid hW', Lib.hid h3⟩)
  have HH := Lib.hid (And.intro h20 h21)
  clear hI h0 hlo h20 h21
  go_enter Tryd.func19, Tryd.ntmps19
  go_upto_region 1 with (first | refine wo_alloc rfl rfl ?_)
  try simp only [Act.put, List.setIfInBounds_toArray, List.set_cons_zero, List.set_cons_succ, World.size_alloc]
  generalize ((w.alloc (.cells #[x, y, u] 26)).alloc (.cells #[.int .i64 z1, .int .i64 z2, .int .i64 z3] 55)).alloc (ocB zO) = W1 at *
  obtain ⟨y0, y1, y2, -, -, -⟩ := cells3 HZ.out.b1
  go_upto_region 6 with fail
  have HM := Lib.hid (HZ.out.next (Below.refl _ _).drew)
  go_region_held3 (fun w' => w'.cell? ⟨w.heap.size + 1, 0, none⟩ = some (.int .i64 z1) ∧ w'.cell? ⟨w.heap.size + 1, 1, none⟩ = some (.int .i64 z2) ∧ w'.cell? ⟨w.heap.size + 1, 2, none⟩ = some (.int .i64 z3)) (go_keep)
    (first
      | (go_at_call 42; refine (HOn _ ?_).out.mono ?_; (exact HM.out); rintro e w' ⟨A1, c1, rfl, d0, d1, d2, HM, HI1⟩)
      | (go_at_call 43; refine (HPs _ ?_).out.mono ?_; (exact HM.out); rintro e w' ⟨n, rfl, d0, d1, d2, HM, HEx, HKp⟩)
      | (go_at_call 41; refine (HPo _ _ _ _ ?_ ?_).out.mono ?_; (exact HM.out); (exact HI1.out.next HKp.out); rintro e w' ⟨A2, n2, c2, B2, m2, dd2, b2, rfl, d0, d1, d2, HM, HP2⟩))
  clear d0 d1 d2 HOn HPs HPo HI1 HKp HZ
  have hP := HP2.out
  clear HP2
  cases hp : popO lo n with
  | none =>
    rw [hp] at hP
    obtain rfl : b2 = false := hP
    have HR : Hid (restR lo (z1, z2, z3) self now n = (none, 0)) := Lib.hid (by unfold restR; rw [hp])
    clear hp
    go_wp2_with (first | refine wo_build0 rfl rfl ?_ | refine wo_store rfl _ _ rfl (w.heap.size + 2) zO zO rfl rfl HM.out.zo.block ?_)
    exact oc_ret Tryd.results19 rfl rfl (HM.out.zo.store zO).block ⟨n, HEx.out, by rw [HR.out]; exact ⟨(HM.out.zo.store zO).below, _, rfl, rfl, rfl⟩⟩
  | some yv =>
    obtain ⟨rest, v⟩ := yv
    rw [hp] at hP
    obtain ⟨rfl, rfl, rfl, hI2, hN2⟩ := hP
    have HI2 := Lib.hid hI2
    have HN2 := Lib.hid hN2
    have hvl : v.length = n.toNat := (Go.Proofs.YtjbcmedljgafkaaDoor.frames.pop_sizes hp).2.1
    have hv1 : z1 = 2 ∨ z1 = 16 ∨ z1 = 19 → 0 < v.length := fun h => by
      have := pops_fix (o := z1) (b := z3) (n := n) HEx.out h
      omega
    by_cases hpu : 0 ≤ z1 ∧ z1 ≤ 23
    · have HR : Hid (restR lo (z1, z2, z3) self now n = aloneR rest (z1, z2, z3) v self now) := Lib.hid (by unfold restR; rw [hp]; exact if_pos hpu)
      have HPu := fun (W : World) => Lib.hid (pure_any z1 W)
      rw [decide_eq_true hpu] at HPu
      have HAl := fun (W : World) (h : Below w'.heap.size w' W) => Lib.hid (alone_any A2 c2 rest z1 z2 z3 B2 dd2 v self now W (HI2.out.next h) (HN2.out.next h) hpu.1 hpu.2 HH.out.1 HH.out.2 hv1)
      obtain ⟨r, hr⟩ : ∃ r, r = aloneR rest (z1, z2, z3) v self now := ⟨_, rfl⟩
      rw [← hr] at HAl HR
      have HAl2 := HAl w' (Below.refl _ _)
      obtain ⟨y0, y1, y2, -, -, -⟩ := cells3 HM.out.b1
      clear hp hI2 hN2 hvl hv1 hpu hr HAl
      go_wp2_with fail
      refine (HPu _).out.mono ?_
      rintro _ _ ⟨rfl, rfl⟩
      go_wp2_with fail
      refine HAl2.out.mono ?_
      intro e w2 h2
      obtain ⟨q, rfl, hb2, hq2⟩ := out_open h2
      have HZ2 := Lib.hid (HM.out.next hb2)
      have HQ2 := Lib.hid hq2
      clear h2 hb2 hq2 HAl2 HM y0 y1 y2 HPu
      go_wp2_with (first | refine wo_store rfl _ _ rfl (w.heap.size + 2) zO q rfl rfl HZ2.out.zo.block ?_)
      exact oc_ret Tryd.results19 rfl rfl (HZ2.out.zo.store _).block ⟨n, HEx.out, by rw [HR.out]; exact (HQ2.out.store HZ2.out.zo.block _).shut (HZ2.out.zo.store _).below⟩
    · have HR : Hid (restR lo (z1, z2, z3) self now n = (some (rest, ⟨z1, z2, z3, v⟩), 0)) := Lib.hid (by unfold restR; rw [hp]; exact if_neg hpu)
      have HPu := fun (W : World) => Lib.hid (pure_any z1 W)
      rw [decide_eq_false hpu] at HPu
      have HAs := Lib.hid (asking_any A2 rest.length c2 z1 z2 z3 B2 dd2 v w' HN2.out)
      obtain ⟨y0, y1, y2, -, -, -⟩ := cells3 HM.out.b1
      clear hp hI2 hN2 hvl hv1 hpu
      go_wp2_with fail
      refine (HPu _).out.mono ?_
      rintro _ _ ⟨rfl, rfl⟩
      go_wp2_with fail
      refine HAs.out.mono ?_
      rintro _ w2 ⟨rfl, hb2⟩
      have HZ2 := Lib.hid (HM.out.next hb2)
      have HQ2 : Hid (OutQ (some (rest, ⟨z1, z2, z3, v⟩), 0) ⟨true, A2, rest.length, c2, ⟨z1, z2, z3, v⟩, 0⟩ w2) := Lib.hid ⟨A2, c2, rfl, HI2.out.next hb2⟩
      clear hb2 HAs HM y0 y1 y2 HPu
      go_wp2_with (first | refine wo_store rfl _ _ rfl (w.heap.size + 2) zO ⟨true, A2, rest.length, c2, ⟨z1, z2, z3, v⟩, 0⟩ rfl rfl HZ2.out.zo.block ?_)
      exact oc_ret Tryd.results19 rfl rfl (HZ2.out.zo.store _).block ⟨n, HEx.out, by rw [HR.out]; exact (HQ2.out.store HZ2.out.zo.block _).shut (HZ2.out.zo.store _).below⟩

theorem inner_any (x y : Value) (C : Option Addr) (cc : Nat) (fs : List Fn) (A : Option Addr) (c : Nat) (l : List Fr) (z : De) (self now : Int) (w : World) (hF : FsAt w C fs) (hsm : fs.length ≤ 20) (hI : In w A c l) (h0 : l.length ≠ 0) :
    Calls Tryd.prog 19 #[.agg #[x, y, .slice C fs.length cc], .slice A l.length c, insV z, .int .i64 self, .int .i64 now] w (InnerPost fs l z self now w) := by
  obtain ⟨z1, z2, z3⟩ := z
  show Calls Tryd.prog 19 #[.agg #[x, y, .slice C fs.length cc], .slice A l.length c, .agg #[.int .i64 z1, .int .i64 z2, .int .i64 z3], .int .i64 self, .int .i64 now] w (InnerPost fs l (z1, z2, z3) self now w)
  by_cases h20 : z1 = 20
  · subst h20
    exact (in_call x y C cc fs A c l z2 z3 self now w hF hsm hI h0).mono fun e w' h => ⟨_, fun _ => rfl, h⟩
  by_cases h21 : z1 = 21
  · subst h21
    exact (in_ret x y (.slice C fs.length cc) A c l z2 z3 self now w hI).mono fun e w' h => ⟨_, fun _ => rfl, h⟩
  refine (in_rest x y (.slice C fs.length cc) fs A c l z1 z2 z3 self now w hI h0 h20 h21).mono fun e w' h => ?_
  obtain ⟨n, hx, h⟩ := h
  refine ⟨n, hx, ?_⟩
  have e1 : doR fs l (z1, z2, z3) self now n = restR (onwO l) (z1, z2, z3) self now n := by
    unfold doR restR
    dsimp only
    rw [if_neg h20, if_neg h21]
    cases popO (onwO l) n <;> rfl
  rw [e1]
  exact h
end Go.Proofs.YtjbcmedljgafkaaDoor.pgm.exe
