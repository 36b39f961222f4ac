/-
  Texts of one claim in one file: ZRefAt. Each has its own sentence, with its conditions.
-/
import Derived.Test.YtjbcmedljgafkaaDoorZq8
import Derived.Test.YtjbcmedljgafkaaDoorZq9
import Derived.Test.YtjbcmedljgafkaaDoorZq12
import Derived.RegionTactic
import Derived.BigRegion
/-
  The document's own instruction at which the last frame is, and a local of it. At most a thousand frames; the frame stands at a place of a function of the program.
-/

namespace Go.Proofs.YtjbcmedljgafkaaDoor.pgm.exe
open Go.RowKit Go.ChangeShapes
open Go.Proofs.YtjbcmedljgafkaaDoor.pgm
open Go.Proofs.YtjbcmedljgafkaaDoor.objs (De zero DAt cells3 put3 put3_same put3_below)
open Go.Proofs.YtjbcmedljgafkaaDoor.frames (Fr num cnt topF zeroF In wl_load wl_alloc wl_store frB cell_block free_block)
set_option linter.unusedVariables false
set_option linter.unusedSimpArgs false

def insV (x : De) : Value := .agg #[.int .i64 x.1, .int .i64 x.2.1, .int .i64 x.2.2]
theorem at_ret {w W : World} {x : De} {act : Act} {g : Nat} (h4 : act.tmps[4]?.getD undef = .pointer (some ⟨g, 0, none⟩)) (hd : act.defers = [])
    (hx : W.heap[g]? = some (.cells #[.int .i64 x.1, .int .i64 x.2.1, .int .i64 x.2.2] 55 (0, 0))) (hb : Below w.heap.size w W) :
    bodyPost Tryd.prog Tryd.f22 (fun e w' => e = .returned (insV x) ∧ Below w.heap.size w w') .ret act W := by
  obtain ⟨x0, x1, x2, _, _, _⟩ := cells3 hx
  refine bodyPost_ret (v := insV x) ?_ hd ⟨rfl, hb⟩
  unfold insV
  simp [results, Tryd.results22, go_sem, h4, x0, x1, x2]

set_option maxRecDepth 100000 in
set_option maxHeartbeats 4000000 in
theorem refAt_any (v : Value) (p : Pg) (A : Option Addr) (c : Nat) (l : List Fr) (w : World) (hv : PAt w v p) (hI : In w A c l) (h0 : l.length ≠ 0) {i a : Nat} (hi : i < p.fs.length) (ha : a < (p.fs.getD i Fn.zero).co.length) (hf : num (topF l) 0 = (i : Int)) (hp : num (topF l) 1 = (a : Int)) :
    Calls Tryd.prog 22 #[v, .slice A l.length c] w fun e w' => e = .returned (insV ((p.fs.getD i Fn.zero).co.getD a zero)) ∧ Below w.heap.size w w' := by
  obtain ⟨A0, B0, C0, ca, cb, cc, rfl, -, -, hF⟩ := hv
  obtain ⟨gb, off, Aj, cj, rfl, hgb, ⟨-, -, f2⟩, hD⟩ := hF i hi
  obtain ⟨gi, offi, rfl, hgi, i0, i1, i2⟩ := hD a ha
  generalize hx : (p.fs.getD i Fn.zero).co.getD a zero = x at *
  obtain ⟨b, offl, m, rfl, hm, hb, hFc, hl27⟩ := hI.top h0
  have hlen := hI.len
  have hcap := hI.cap
  rw [hm] at hlen hcap ⊢
  have k0 : (0 : Int) ≤ (m : Int) := by omega
  have k1 : (m : Int) < ((m + 1 : Nat) : Int) := by omega
  have k2 : (m : Int) < (m : Int) + 1 := by omega
  have hw0 : IntKind.i64.wrap ((m : Int) + 1 - 1) = (m : Int) := by rw [IntKind.wrap_i64]; omega
  have hw1 : IntKind.i64.wrap (m : Int) = (m : Int) := by rw [IntKind.wrap_i64]; omega
  have n0 : (0 : Int) ≤ (i : Int) := by omega
  have n1 : (i : Int) < (p.fs.length : Int) := by omega
  have n2 : (0 : Int) ≤ (a : Int) := by omega
  have n3 : (a : Int) < ((p.fs.getD i Fn.zero).co.length : Int) := by omega
  generalize topF l = f at *
  generalize (p.fs.getD i Fn.zero).co.length = cl at *
  -- two blocks: the program's, the answer's
  have hB1 : Below w.heap.size w (w.alloc (pgB (.slice A0 p.ds.length ca) (.slice B0 p.ws.length cb) (.slice (some ⟨gb, off, none⟩) p.fs.length cc))) := (Below.refl _ w).alloc (Nat.le_refl _) _
  have hx1 := heap_alloc_new w (pgB (.slice A0 p.ds.length ca) (.slice B0 p.ws.length cb) (.slice (some ⟨gb, off, none⟩) p.fs.length cc))
  have hs1 := World.size_alloc w (pgB (.slice A0 p.ds.length ca) (.slice B0 p.ws.length cb) (.slice (some ⟨gb, off, none⟩) p.fs.length cc))
  have H1 := Lib.hid (And.intro hB1 (And.intro hx1 hs1))
  have HF0 := Lib.hid hFc
  have HC := Lib.hid (And.intro hgb (And.intro hgi hb))
  have HD := Lib.hid (And.intro f2 (And.intro i0 (And.intro i1 i2)))
  unfold pgB at H1
  clear hF hD hB1 hx1 hs1 hI h0 hFc f2 i0 i1 i2 hgb hgi hb
  go_enter Tryd.func22, Tryd.ntmps22
  go_upto_region 1 with fail
  generalize hW1 : w.alloc (.cells #[.slice A0 p.ds.length ca, .slice B0 p.ws.length cb, .slice (some ⟨gb, off, none⟩) p.fs.length cc] 26) = W1 at *
  clear hW1
  have hB2 := H1.out.1.alloc H1.out.1.size (.cells #[.int .i64 0, .int .i64 0, .int .i64 0] 55)
  have hx2 := heap_alloc_new W1 (.cells #[.int .i64 0, .int .i64 0, .int .i64 0] 55)
  have hy2 := (Below.heap_alloc W1 (.cells #[.int .i64 0, .int .i64 0, .int .i64 0] 55) _ (lt_of_block H1.out.2.1)).trans H1.out.2.1
  have hs2 := World.size_alloc W1 (.cells #[.int .i64 0, .int .i64 0, .int .i64 0] 55)
  rw [H1.out.2.2] at hx2 hs2
  try rw [H1.out.2.2]
  have H2 := Lib.hid (And.intro hB2 (And.intro hx2 (And.intro hy2 hs2)))
  generalize W1.alloc (.cells #[.int .i64 0, .int .i64 0, .int .i64 0] 55) = W2 at *
  have HFc : Hid (Go.Proofs.YtjbcmedljgafkaaDoor.frames.FCells W2 b (offl + m * 27) f) := Lib.hid (HF0.out.keep (H2.out.1.block b HC.out.2.2))
  clear hB2 hx2 hy2 hs2 H1 HF0
  go_upto_region 2 with (first | refine wl_load rfl _ rfl b (offl + m * 27) rfl f HFc.out ?_ | refine wl_alloc rfl rfl ?_ | refine wl_store rfl _ _ rfl W2 zeroF _ rfl rfl rfl ?_)
  try simp only [Go.Act.put, List.setIfInBounds_toArray, List.set_cons_zero, List.set_cons_succ]
  have hB3 := H2.out.1.alloc H2.out.1.size (frB f)
  have hx3 := (Below.heap_alloc W2 (frB f) _ (lt_of_block H2.out.2.1)).trans H2.out.2.1
  have hy3 := (Below.heap_alloc W2 (frB f) _ (lt_of_block H2.out.2.2.1)).trans H2.out.2.2.1
  have hz3 := heap_alloc_new W2 (frB f)
  rw [H2.out.2.2.2] at hz3
  try rw [H2.out.2.2.2]
  generalize W2.alloc (frB f) = W3 at *
  obtain ⟨y0, y1, y2, yf0, yf1, yf2⟩ := cells3 hx3
  obtain ⟨p0, p1, p2, -, -, -⟩ := cells3 hy3
  have z0 := cell_block hz3 (k := 0) (by omega)
  have z1 := cell_block hz3 (k := 1) (by omega)
  rw [hf] at z0
  rw [hp] at z1
  have c2 := (hB3.cell (p := ⟨gb, off + i * 3 + 2, none⟩) HC.out.1).trans HD.out.1
  have c3 := (hB3.cell (p := ⟨gi, offi + a * 3, none⟩) HC.out.2.1).trans HD.out.2.1
  have c4 := (hB3.cell (p := ⟨gi, offi + a * 3 + 1, none⟩) HC.out.2.1).trans HD.out.2.2.1
  have c5 := (hB3.cell (p := ⟨gi, offi + a * 3 + 2, none⟩) HC.out.2.1).trans HD.out.2.2.2
  have HB3 := Lib.hid hB3
  have HX3 := Lib.hid hx3
  clear hB3 hy3 hz3 HD HC H2 HFc
  go_region
  all_goals
    go_wp2_with fail
    exact at_ret rfl rfl (put3_same HX3.out _ _ _) (put3_below HB3.out.drew (Nat.le_succ _) _ _ _)

set_option maxRecDepth 100000 in
set_option maxHeartbeats 4000000 in
theorem refLocal_any (A : Option Addr) (c : Nat) (l : List Fr) (k : Int) (w : World) (hI : In w A c l) :
    Calls Tryd.prog 29 #[.slice A l.length c, .int .i64 k] w fun e w' => e = .returned (.int .i64 (locF l k)) ∧ w = w' := by
  obtain ⟨r, hr⟩ : ∃ r, r = locF l k := ⟨_, rfl⟩
  rw [← hr]
  unfold locF at hr
  by_cases h0 : l.length = 0
  · rw [if_pos (.inl h0)] at hr
    subst hr
    have e0 : ((l.length : Int) == 0) = true := by simp [h0]
    clear h0 hI
    go_enter Tryd.func29, Tryd.ntmps29
    go_wp2
    go_ret
    exact ⟨rfl, rfl⟩
  obtain ⟨b, offl, m, rfl, hm, hb, hFc, hl27⟩ := hI.top h0
  have hlen := hI.len
  have hcap := hI.cap
  rw [hm] at hlen hcap ⊢
  have e0 : (((m + 1 : Nat) : Int) == 0) = false := by simp; omega
  have k0 : (0 : Int) ≤ (m : Int) := by omega
  have k1 : (m : Int) < ((m + 1 : Nat) : Int) := by omega
  have k2 : (m : Int) < (m : Int) + 1 := by omega
  have hw0 : IntKind.i64.wrap ((m : Int) + 1 - 1) = (m : Int) := by rw [IntKind.wrap_i64]; omega
  have hw1 : IntKind.i64.wrap (m : Int) = (m : Int) := by rw [IntKind.wrap_i64]; omega
  by_cases h1 : k < 0
  · rw [if_pos (.inr (.inl h1))] at hr
    subst hr
    have q1 : decide (k < 0) = true := decide_eq_true h1
    clear hI hFc h0
    go_enter Tryd.func29, Tryd.ntmps29
    go_wp2
    go_ret
    exact ⟨rfl, rfl⟩
  have q1 : decide (k < 0) = false := decide_eq_false h1
  by_cases h2 : 7 < k
  · rw [if_pos (.inr (.inr h2))] at hr
    subst hr
    have q2 : decide (k > 7) = true := decide_eq_true h2
    clear hI hFc h0
    go_enter Tryd.func29, Tryd.ntmps29
    go_wp2
    go_ret
    exact ⟨rfl, rfl⟩
  have q2 : decide (k > 7) = false := decide_eq_false h2
  rw [if_neg (fun h => by rcases h with h | h | h; exact h0 h; exact h1 h; exact h2 h)] at hr
  obtain ⟨n, rfl⟩ : ∃ n : Nat, k = (n : Int) := ⟨k.toNat, by omega⟩
  rw [Int.toNat_natCast] at hr
  have n0 : (0 : Int) ≤ (n : Int) := by omega
  have n1 : (n : Int) < 8 := by omega
  have c3 := hFc (3 + n) (by omega)
  rw [← hr, ← Nat.add_assoc] at c3
  have c4 : w.cell? ⟨b, offl + m * 27 + 3 + n, none⟩ = some (.int .i64 r) := c3
  clear hI hFc h0 h1 h2 hr
  go_enter Tryd.func29, Tryd.ntmps29
  go_wp2
  go_ret
  exact ⟨rfl, rfl⟩
end Go.Proofs.YtjbcmedljgafkaaDoor.pgm.exe
