/-
  What Undo tells, set one behind the other, lets each cell be what it was: the walk of RegionBack. No condition. Printed by tools/mkreback.py.
-/
import Derived.Test.YtlkcpplpjjbiaaaReArr
import Derived.Test.YtlkcpplpjjbiaaaReSh
import Derived.StillTailTactics
namespace Go.Proofs.Ytlkcpplpjjbiaaa.reg
open Go.RowKit Go.ChangeShapes
open Go.Proofs.Ytlkcpplpjjbiaaa.frames (Fr In GoodN FrsPost)
open Go.Proofs.Ytlkcpplpjjbiaaa.obj
set_option linter.unusedVariables false
set_option linter.unusedSimpArgs false

/-- A region, what the cells were, and what they are. -/
structure Kz (w0 : World) (gf gn g : Nat) (first now : List Int) (s : St) (W : World) : Prop where
  lx : Lx w0 g s W
  f : W.heap[gf]? = some (arO first)
  n : W.heap[gn]? = some (arO now)
  ne : gf ≠ gn
  gef : w0.heap.size ≤ gf
  gen : w0.heap.size ≤ gn
theorem AtG.neA {W : World} {g c : Nat} {A : Option Addr} {vw vh : Value} {s : St} (h : AtG W g A c vw vh s) {gx : Nat} {l : List Int} (hx : W.heap[gx]? = some (arO l)) : gx ≠ g ∧ vw.ownBlock ≠ some gx ∧ vh.ownBlock ≠ some gx ∧ (Value.slice A s.fr.length c).ownBlock ≠ some gx := by
  refine ⟨?_, fun e => ?_, fun e => ?_, fun e => ?_⟩
  · rintro rfl
    rw [h.box] at hx
    simp [lgO, arO] at hx
  · obtain ⟨cur, e2⟩ := h.was.block e
    rw [hx] at e2
    simp [arO] at e2
  · obtain ⟨cur, e2⟩ := h.held.block e
    rw [hx] at e2
    simp [arO] at e2
  · obtain ⟨cur, e2⟩ := fr_block h.fr e
    rw [hx] at e2
    simp [arO] at e2
section
variable {w0 W W' : World} {gf gn g : Nat} {first now : List Int} {s : St}
theorem Kz.next (h : Kz w0 gf gn g first now s W) (hb : Below W.heap.size W W') : Kz w0 gf gn g first now s W' :=
  ⟨h.lx.next hb, (hb.block gf (lt_of_block h.f)).trans h.f, (hb.block gn (lt_of_block h.n)).trans h.n, h.ne, h.gef, h.gen⟩
theorem Kz.c_wrote (h : Kz w0 gf gn g first now s W) (hl : s.was.length ≤ 1000) (o v : Int) : Calls Try.prog 14 #[.pointer (some ⟨g, 0, none⟩), .int .i64 o, .int .i64 v] W fun e w' => e = .returned (.tuple #[]) ∧ Kz w0 gf gn g first now { s with was := wrote s.was o v } w' := by
  obtain ⟨A, c, vw, vh, hz⟩ := h.lx
  refine (wrote_any hz.at_ hl o v).mono fun e w' hh => ⟨hh.1, hz.went hh.2, ?_, ?_, h.ne, h.gef, h.gen⟩
  · obtain ⟨_, _, _, hm, _⟩ := hh.2
    obtain ⟨n1, n2, n3, _⟩ := hz.at_.neA h.f
    exact (hm.block gf (lt_of_block h.f) n1 n2 n3).trans h.f
  · obtain ⟨_, _, _, hm, _⟩ := hh.2
    obtain ⟨n1, n2, n3, _⟩ := hz.at_.neA h.n
    exact (hm.block gn (lt_of_block h.n) n1 n2 n3).trans h.n
theorem Kz.put (h : Kz w0 gf gn g first now s W) (c : Nat) (v : Int) : Kz w0 gf gn g first (now.set c v) s (W.setCell ⟨gn, c, none⟩ (.int .i64 v)) := by
  obtain ⟨A, c2, vw, vh, hz⟩ := h.lx
  obtain ⟨n1, n2, n3, n4⟩ := hz.at_.neA h.n
  have hoth : ∀ b, b ≠ gn → (W.setCell ⟨gn, c, none⟩ (.int .i64 v)).heap[b]? = W.heap[b]? := fun b hb => heap_setCell_other W ⟨gn, c, none⟩ b _ hb
  exact ⟨⟨A, c2, vw, vh, hz.at_.keep (hoth g (fun e => n1 e.symm)) (fun b e => hoth b fun e2 => by subst e2; exact n4 e) (fun b e => hoth b fun e2 => by subst e2; exact n2 e) (fun b e => hoth b fun e2 => by subst e2; exact n3 e), hz.below.setCell (p := ⟨gn, c, none⟩) h.gen _, hz.far, hz.farw, hz.farh⟩, (hoth gf h.ne).trans h.f, ar_set h.n c v, h.ne, h.gef, h.gen⟩
theorem Kz.c_undo (h : Kz w0 gf gn g first now s W) : Calls Try.prog 15 #[.pointer (some ⟨g, 0, none⟩)] W fun e w' => ∃ A c, e = .returned (.slice A s.was.reverse.length c) ∧ pr.SAt w' (fun b => b ≠ gn) A s.was.reverse ∧ Kz w0 gf gn g first now s w' := by
  obtain ⟨A, c, vw, vh, hz⟩ := h.lx
  refine (undo_any hz.at_).mono fun e w' hh => ?_
  obtain ⟨A', c', h1, h2, h3⟩ := hh
  exact ⟨A', c', h1, h2.base fun b hb _ => by have := lt_of_block h.n; omega, h.next h3⟩
end
theorem kz_new {w W0 W : World} {g gn : Nat} {first now : List Int} {s : St} (hS : Below W0.heap.size W0 W) (hX : W0.heap[w.heap.size]? = some (arO first)) (hZ : W0.heap.size = w.heap.size + 1) (hB : Below w.heap.size w W0) (hL : Lx w g s W) (hg : W.heap[gn]? = some (arO now)) (hn : w.heap.size < gn) (l : List Int) : Kz w w.heap.size gn g first l s (W.setRow gn (arC l).toArray) := by
  obtain ⟨A, c2, vw, vh, hz⟩ := hL
  obtain ⟨n1, n2, n3, n4⟩ := hz.at_.neA hg
  have hoth : ∀ b, b ≠ gn → (W.setRow gn (arC l).toArray).heap[b]? = W.heap[b]? := fun b hb => setRow_other W gn b _ hb
  exact ⟨⟨A, c2, vw, vh, hz.at_.keep (hoth g (fun e => n1 e.symm)) (fun b e => hoth b fun e2 => by subst e2; exact n4 e) (fun b e => hoth b fun e2 => by subst e2; exact n2 e) (fun b e => hoth b fun e2 => by subst e2; exact n3 e), row_below hz.below (by omega) _, hz.far, hz.farw, hz.farh⟩, (hoth _ (by omega)).trans ((hS.block _ (by omega)).trans hX), ar_turned hg l, by omega, Nat.le_refl _, by omega⟩
def emptyS : St := ⟨[], 1, 0, [], []⟩
theorem nil_in (W : World) : In W none 0 [] := ⟨frames.FsAt.nil _ _, Nat.zero_le _, Nat.zero_le _, (fun f hf => by cases hf), fun _ => ⟨rfl, rfl⟩⟩
theorem begin_nil {w0 W : World} (hb : Below w0.heap.size w0 W) : Calls Try.prog 9 #[.slice none 0 0, .int .i64 1] W fun e w' => ∃ g, e = .returned (.pointer (some ⟨g, 0, none⟩)) ∧ Hid (Lx w0 g emptyS w' ∧ Below W.heap.size W w') :=
  (begin_any none 0 [] 1 W (nil_in W) ⟨Nat.zero_le _, (fun f hf => by cases hf)⟩).mono fun e w' hh => by
    obtain ⟨g, h1, h2⟩ := lx_made hb hh
    obtain ⟨_, _, _, _, _, _, _, h3, _⟩ := hh
    exact ⟨g, h1, Lib.hid ⟨h2, h3⟩⟩
/-- Which cell a number is of. -/
theorem cell_of (x : Int) : ∃ q : Nat, q < 8 ∧ (IntKind.u64.wrap x) % 8 = (q : Int) := by
  have h : 0 ≤ (IntKind.u64.wrap x) % 8 ∧ (IntKind.u64.wrap x) % 8 < 8 := by omega
  exact ⟨((IntKind.u64.wrap x) % 8).toNat, by omega, by omega⟩
theorem wrap_pos (x : Int) : 0 ≤ IntKind.u64.wrap x := by rw [IntKind.wrap_u64]; omega
theorem wrap_small (q : Nat) (h : q < 8) : IntKind.i64.wrap (q : Int) = (q : Int) ∧ IntKind.u64.wrap (q : Int) = (q : Int) := ⟨by rw [IntKind.wrap_i64]; omega, by rw [IntKind.wrap_u64]; omega⟩
theorem cell_facts (x : Int) : ∃ q : Nat, q < 8 ∧ (IntKind.u64.wrap x) % 8 = (q : Int) ∧ (IntKind.u64.wrap x).tmod 8 = (q : Int) ∧ IntKind.i64.wrap (q : Int) = (q : Int) ∧ wrap64 (q : Int) = (q : Int) ∧ IntKind.u64.wrap (q : Int) = (q : Int) ∧ (0 : Int) ≤ (q : Int) ∧ (q : Int) < 8 := by
  obtain ⟨q, h1, h2⟩ := cell_of x
  obtain ⟨h3, h4⟩ := wrap_small q h1
  exact ⟨q, h1, h2, by rw [Int.tmod_eq_emod_of_nonneg (wrap_pos x)]; exact h2, h3, by rw [← IntWalk.i64_left]; exact h3, h4, by omega, by omega⟩
set_option maxRecDepth 100000 in
set_option maxHeartbeats 16000000 in
theorem back_walk (first : List Int) (hf8 : first.length = 8) (A : Option Addr) (c : Nat) (ws : List E) (w : World) (ho : sh.OpsAt w A ws) (hl : ws.length ≤ 9223372036854775807) :
    Calls Try.prog 4 #[arV first, .slice A ws.length c] w fun e w' => e = .returned (.bool true) ∧ Below w.heap.size w w' := by
  have hb0 := (Below.refl w.heap.size w).alloc (Nat.le_refl _) (arO first)
  have HL := fun W => Lib.hid (lives_any W)
  have HO := Lib.hid ho
  have HX := Lib.hid (heap_alloc_new w (arO first))
  have HB0 := Lib.hid hb0
  have HZ : Hid ((w.alloc (arO first)).heap.size = w.heap.size + 1) := Lib.hid (World.size_alloc _ _)
  clear ho hb0
  go_enter Try.func4, Try.ntmps4
  go_upto_region 1 with (first | refine war_box rfl _ rfl first rfl ?_)
  try simp only [Act.put, List.setIfInBounds_toArray, List.set_cons_zero, List.set_cons_succ]
  generalize w.alloc (arO first) = W0 at *
  go_cut [5, 6] (fun t5 t6 wx => ∃ (g gn : Nat), t5 = .pointer (some ⟨g, 0, none⟩) ∧ t6 = .pointer (some ⟨gn, 0, none⟩) ∧ Hid (Kz w w.heap.size gn g first first emptyS wx))
  case first =>
    refine Go.Proofs.Ytlkcpplpjjbiaaa.frames.wp_hold_act (fun a0 HA0 => ?_)
    have z0 : a0.tmps.size = 88 := by rw [HA0.out]; rfl
    have dd0 : a0.defers = [] := by rw [HA0.out]
    have f0_2 : a0.eval (.tmp 2) = .pointer (some ⟨w.heap.size, 0, none⟩) := by rw [HA0.out]; rfl
    refine wp_region_held_drew (S := fun w' => Below W0.heap.size W0 w') (by kernel_rfl) ((Below.refl _ _).drew) (fun hS => ?_)
    refine wpAnyH_take (i := 1) (v := arV first) rfl (by kernel_rfl) (by kernel_rfl) (by kernel_rfl) (fun _ _ _ h => h) (yields_ar rfl (.tmp 2) rfl w.heap.size f0_2 first hf8 (fun W h => (h.block _ (by rw [HZ.out]; omega)).trans HX.out)) hS ?_
    obtain ⟨a1, hA1⟩ : ∃ a', a' = a0.put (some 12) (arV first) := ⟨_, rfl⟩
    change wpAnyH _ _ _ _ _ _ _ (a0.put (some 12) (arV first)) _
    rw [← hA1]
    have f1_12 : a1.eval (.tmp 12) = arV first := by rw [hA1]; exact Act.eval_put_same _ _ _ (by omega)
    have z1 : a1.tmps.size = 88 := by rw [hA1, Act.size_put]; exact z0
    have dd1 : a1.defers = [] := by rw [hA1, Act.defers_put']; exact dd0
    have HA1 := Lib.hid hA1
    clear hA1 z0 dd0 f0_2
    refine wpAnyH_ready (rs := [0, 2]) (by kernel_rfl) (by simp) (AllReadyH.cons (by simp only [List.getElem?_toArray, List.getElem?_cons_succ, List.getElem?_cons_zero]; rfl) (fun K hK => ?_) (AllReadyH.cons (by simp only [List.getElem?_toArray, List.getElem?_cons_succ, List.getElem?_cons_zero]; rfl) (fun K hK => ?_) AllReadyH.nil))
    · skip
      refine step_call (by rfl) 9 #[.const (.slice none 0 0), .const (.int .i64 1)] #[22, 3] (by rfl) #[.slice none 0 0, .int .i64 1] (by simp [Act.eval]) Try.func9 (by kernel_rfl) rfl (begin_nil (w0 := w) (W := W0.drew) (HB0.out.trans (hS.mono HB0.out.size))) (fun e' W2 hR => ?_)
      obtain ⟨g, rfl, HG⟩ := hR
      refine ⟨_, rfl, hK.out _ _ (hS.trans (HG.out.2.mono hS.size)) (fun hS => ?_)⟩
      obtain ⟨a2, hA2⟩ : ∃ a', a' = a1.put (some 11) (.pointer (some ⟨g, 0, none⟩)) := ⟨_, rfl⟩
      change wpAnyH _ _ _ _ _ _ _ (a1.put (some 11) (.pointer (some ⟨g, 0, none⟩))) _
      rw [← hA2]
      have f2_11 : a2.eval (.tmp 11) = .pointer (some ⟨g, 0, none⟩) := by rw [hA2]; exact Act.eval_put_same _ _ _ (by omega)
      have f2_12 : a2.eval (.tmp 12) = arV first := by rw [hA2]; exact (Act.eval_put_ne _ _ _ _ (by decide)).trans f1_12
      have z2 : a2.tmps.size = 88 := by rw [hA2, Act.size_put]; exact z1
      have dd2 : a2.defers = [] := by rw [hA2, Act.defers_put']; exact dd1
      have HA2 := Lib.hid hA2
      clear hA2 z1 dd1 f1_12
      refine wpAnyH_ready (rs := [2]) (by kernel_rfl) (by simp) (AllReadyH.cons (by simp only [List.getElem?_toArray, List.getElem?_cons_succ, List.getElem?_cons_zero]; rfl) (fun K hK => ?_) AllReadyH.nil)
      refine sar_alloc (by rfl) (by rfl) ?_
      have hg := heap_alloc_new W2 (arO arZ)
      have hlt := hS.size
      have hba := (Below.refl W2.heap.size W2).alloc (Nat.le_refl _) (arO arZ)
      refine hK.out _ _ (hS.alloc hS.size _) (fun hS => ?_)
      obtain ⟨a3, hA3⟩ : ∃ a', a' = a2.put (some 6) (.pointer (some ⟨W2.heap.size, 0, none⟩)) := ⟨_, rfl⟩
      change wpAnyH _ _ _ _ _ _ _ (a2.put (some 6) (.pointer (some ⟨W2.heap.size, 0, none⟩))) _
      rw [← hA3]
      have f3_6 : a3.eval (.tmp 6) = .pointer (some ⟨W2.heap.size, 0, none⟩) := by rw [hA3]; exact Act.eval_put_same _ _ _ (by omega)
      have f3_11 : a3.eval (.tmp 11) = .pointer (some ⟨g, 0, none⟩) := by rw [hA3]; exact (Act.eval_put_ne _ _ _ _ (by decide)).trans f2_11
      have f3_12 : a3.eval (.tmp 12) = arV first := by rw [hA3]; exact (Act.eval_put_ne _ _ _ _ (by decide)).trans f2_12
      have z3 : a3.tmps.size = 88 := by rw [hA3, Act.size_put]; exact z2
      have dd3 : a3.defers = [] := by rw [hA3, Act.defers_put']; exact dd2
      have HA3 := Lib.hid hA3
      clear hA3 z2 dd2 f2_11 f2_12
      have hLx : Lx w g emptyS (W2.alloc (arO arZ)) := HG.out.1.next hba
      have hgn : w.heap.size < W2.heap.size := by have := HZ.out; omega
      refine wpAnyH_take (i := 3) (v := .pointer (some ⟨g, 0, none⟩)) rfl (by kernel_rfl) (by kernel_rfl) (by kernel_rfl) (fun _ _ _ h => h) (yields_assign rfl (.tmp 11) rfl f3_11) hS ?_
      obtain ⟨a4, hA4⟩ : ∃ a', a' = a3.put (some 5) (.pointer (some ⟨g, 0, none⟩)) := ⟨_, rfl⟩
      change wpAnyH _ _ _ _ _ _ _ (a3.put (some 5) (.pointer (some ⟨g, 0, none⟩))) _
      rw [← hA4]
      have f4_5 : a4.eval (.tmp 5) = .pointer (some ⟨g, 0, none⟩) := by rw [hA4]; exact Act.eval_put_same _ _ _ (by omega)
      have f4_6 : a4.eval (.tmp 6) = .pointer (some ⟨W2.heap.size, 0, none⟩) := by rw [hA4]; exact (Act.eval_put_ne _ _ _ _ (by decide)).trans f3_6
      have f4_12 : a4.eval (.tmp 12) = arV first := by rw [hA4]; exact (Act.eval_put_ne _ _ _ _ (by decide)).trans f3_12
      have z4 : a4.tmps.size = 88 := by rw [hA4, Act.size_put]; exact z3
      have dd4 : a4.defers = [] := by rw [hA4, Act.defers_put']; exact dd3
      have HA4 := Lib.hid hA4
      clear hA4 z3 dd3 f3_6 f3_11 f3_12
      refine wpAnyH_ready (rs := [4]) (by kernel_rfl) (by simp) (AllReadyH.cons (by simp only [List.getElem?_toArray, List.getElem?_cons_succ, List.getElem?_cons_zero]; rfl) (fun K hK => ?_) AllReadyH.nil)
      refine sar_store (by rfl) (.tmp 6) (.tmp 12) (by rfl) W2.heap.size arZ first rfl hf8 f4_6 f4_12 hg ?_
      have hK2 := kz_new hS HX.out HZ.out HB0.out hLx hg hgn first
      refine hK.out _ _ (row_below hS (by omega) _) (fun hS => ?_)
      change wpAnyH _ _ _ _ _ _ _ a4 _
      refine wpAnyH_done (by kernel_rfl) ?_ _
      have HE := Lib.hid hK2
      clear hS hK hK2 hg hgn hLx hlt hba HG
      rw [HA4.out]
      rw [HA3.out]
      rw [HA2.out]
      rw [HA1.out]
      rw [HA0.out]
      simp only [Act.put, List.setIfInBounds_toArray, List.set_cons_zero, List.set_cons_succ]
      go_wp2_with fail
      go_meet
      exact ⟨_, _, rfl, rfl, HE⟩
    · skip
      refine sar_alloc (by rfl) (by rfl) ?_
      have hg := heap_alloc_new W0.drew (arO arZ)
      have hlt := hS.size
      have hba := (Below.refl W0.drew.heap.size W0.drew).alloc (Nat.le_refl _) (arO arZ)
      refine hK.out _ _ (hS.alloc hS.size _) (fun hS => ?_)
      obtain ⟨a2, hA2⟩ : ∃ a', a' = a1.put (some 6) (.pointer (some ⟨W0.drew.heap.size, 0, none⟩)) := ⟨_, rfl⟩
      change wpAnyH _ _ _ _ _ _ _ (a1.put (some 6) (.pointer (some ⟨W0.drew.heap.size, 0, none⟩))) _
      rw [← hA2]
      have f2_6 : a2.eval (.tmp 6) = .pointer (some ⟨W0.drew.heap.size, 0, none⟩) := by rw [hA2]; exact Act.eval_put_same _ _ _ (by omega)
      have f2_12 : a2.eval (.tmp 12) = arV first := by rw [hA2]; exact (Act.eval_put_ne _ _ _ _ (by decide)).trans f1_12
      have z2 : a2.tmps.size = 88 := by rw [hA2, Act.size_put]; exact z1
      have dd2 : a2.defers = [] := by rw [hA2, Act.defers_put']; exact dd1
      have HA2 := Lib.hid hA2
      clear hA2 z1 dd1 f1_12
      refine wpAnyH_ready (rs := [0]) (by kernel_rfl) (by simp) (AllReadyH.cons (by simp only [List.getElem?_toArray, List.getElem?_cons_succ, List.getElem?_cons_zero]; rfl) (fun K hK => ?_) AllReadyH.nil)
      refine step_call (by rfl) 9 #[.const (.slice none 0 0), .const (.int .i64 1)] #[22, 3] (by rfl) #[.slice none 0 0, .int .i64 1] (by simp [Act.eval]) Try.func9 (by kernel_rfl) rfl (begin_nil (w0 := w) (W := (W0.drew.alloc (arO arZ))) (HB0.out.trans (hS.mono HB0.out.size))) (fun e' W2 hR => ?_)
      obtain ⟨g, rfl, HG⟩ := hR
      refine ⟨_, rfl, hK.out _ _ (hS.trans (HG.out.2.mono hS.size)) (fun hS => ?_)⟩
      obtain ⟨a3, hA3⟩ : ∃ a', a' = a2.put (some 11) (.pointer (some ⟨g, 0, none⟩)) := ⟨_, rfl⟩
      change wpAnyH _ _ _ _ _ _ _ (a2.put (some 11) (.pointer (some ⟨g, 0, none⟩))) _
      rw [← hA3]
      have f3_11 : a3.eval (.tmp 11) = .pointer (some ⟨g, 0, none⟩) := by rw [hA3]; exact Act.eval_put_same _ _ _ (by omega)
      have f3_6 : a3.eval (.tmp 6) = .pointer (some ⟨W0.drew.heap.size, 0, none⟩) := by rw [hA3]; exact (Act.eval_put_ne _ _ _ _ (by decide)).trans f2_6
      have f3_12 : a3.eval (.tmp 12) = arV first := by rw [hA3]; exact (Act.eval_put_ne _ _ _ _ (by decide)).trans f2_12
      have z3 : a3.tmps.size = 88 := by rw [hA3, Act.size_put]; exact z2
      have dd3 : a3.defers = [] := by rw [hA3, Act.defers_put']; exact dd2
      have HA3 := Lib.hid hA3
      clear hA3 z2 dd2 f2_6 f2_12
      have hLx : Lx w g emptyS W2 := HG.out.1
      have hgn : w.heap.size < W0.drew.heap.size := by have := HZ.out; show w.heap.size < W0.heap.size; omega
      replace hg := (HG.out.2.block _ (lt_of_block hg)).trans hg
      refine wpAnyH_take (i := 3) (v := .pointer (some ⟨g, 0, none⟩)) rfl (by kernel_rfl) (by kernel_rfl) (by kernel_rfl) (fun _ _ _ h => h) (yields_assign rfl (.tmp 11) rfl f3_11) hS ?_
      obtain ⟨a4, hA4⟩ : ∃ a', a' = a3.put (some 5) (.pointer (some ⟨g, 0, none⟩)) := ⟨_, rfl⟩
      change wpAnyH _ _ _ _ _ _ _ (a3.put (some 5) (.pointer (some ⟨g, 0, none⟩))) _
      rw [← hA4]
      have f4_5 : a4.eval (.tmp 5) = .pointer (some ⟨g, 0, none⟩) := by rw [hA4]; exact Act.eval_put_same _ _ _ (by omega)
      have f4_6 : a4.eval (.tmp 6) = .pointer (some ⟨W0.drew.heap.size, 0, none⟩) := by rw [hA4]; exact (Act.eval_put_ne _ _ _ _ (by decide)).trans f3_6
      have f4_12 : a4.eval (.tmp 12) = arV first := by rw [hA4]; exact (Act.eval_put_ne _ _ _ _ (by decide)).trans f3_12
      have z4 : a4.tmps.size = 88 := by rw [hA4, Act.size_put]; exact z3
      have dd4 : a4.defers = [] := by rw [hA4, Act.defers_put']; exact dd3
      have HA4 := Lib.hid hA4
      clear hA4 z3 dd3 f3_11 f3_6 f3_12
      refine wpAnyH_ready (rs := [4]) (by kernel_rfl) (by simp) (AllReadyH.cons (by simp only [List.getElem?_toArray, List.getElem?_cons_succ, List.getElem?_cons_zero]; rfl) (fun K hK => ?_) AllReadyH.nil)
      refine sar_store (by rfl) (.tmp 6) (.tmp 12) (by rfl) W0.drew.heap.size arZ first rfl hf8 f4_6 f4_12 hg ?_
      have hK2 := kz_new hS HX.out HZ.out HB0.out hLx hg hgn first
      refine hK.out _ _ (row_below hS (by omega) _) (fun hS => ?_)
      change wpAnyH _ _ _ _ _ _ _ a4 _
      refine wpAnyH_done (by kernel_rfl) ?_ _
      have HE := Lib.hid hK2
      clear hS hK hK2 hg hgn hLx hlt hba HG
      rw [HA4.out]
      rw [HA3.out]
      rw [HA2.out]
      rw [HA1.out]
      rw [HA0.out]
      simp only [Act.put, List.setIfInBounds_toArray, List.set_cons_zero, List.set_cons_succ]
      go_wp2_with fail
      go_meet
      exact ⟨_, _, rfl, rfl, HE⟩
  case rest =>
    obtain ⟨g, gn, rfl, rfl, HK⟩ := hcut
    have H0 : Hid (Back first first emptyS.was ∧ emptyS.was.length ≤ 0 ∧ Kz w w.heap.size gn g first first emptyS wc) := Lib.hid ⟨back_new hf8, Nat.le_refl _, HK.out⟩
    clear HK HB0 HX HZ
    go_wp2_with fail
    go_loopw [7] (fun s7 wr => ∃ (j : Nat) (now : List Int) (s : St), s7 = .int .i64 (j : Int) ∧ j ≤ ws.length ∧ j ≤ 60 ∧ Hid (Back first now s.was ∧ s.was.length ≤ j ∧ Kz w w.heap.size gn g first now s wr)) (fun s7 _ => ws.length - (intOf s7).toNat)
    case atStart => exact ⟨0, first, emptyS, rfl, Nat.zero_le _, Nat.zero_le _, H0⟩
    case round =>
      obtain ⟨j, now, s, rfl, hj, hj60, HW⟩ := hrel
      clear H0
      by_cases hlt : j < ws.length ∧ j < 60
      · obtain ⟨hlt, h60⟩ := hlt
        have d1 : decide (j < ws.length) = true := decide_eq_true hlt
        have d2 : decide ((j : Int) < 60) = true := by simp; omega
        obtain ⟨b, off, rfl, hb, _, _⟩ := HO.out j hlt
        have HCe : Hid (∀ W, Below w.heap.size w W → W.cell? ⟨b, off + j * 2, none⟩ = some (.int .i64 (ws.getD j (0, 0)).1) ∧ W.cell? ⟨b, off + j * 2 + 1, none⟩ = some (.int .i64 (ws.getD j (0, 0)).2)) := Lib.hid fun W h => by
          obtain ⟨b', off', e, hb', x0, x1⟩ := (HO.out.next h) j hlt
          injection e with e
          injection e with e1 e2
          subst e1 e2
          exact ⟨x0, x1⟩
        generalize ws.getD j (0, 0) = op at *
        obtain ⟨x, y⟩ := op
        dsimp only at HCe
        obtain ⟨y0, y1⟩ := HCe.out _ HW.out.2.2.lx.below
        have n0 : (0 : Int) ≤ (j : Int) := by omega
        have n1 : (j : Int) < (ws.length : Int) := by omega
        have hw1 : wrap64 ((j : Int) + 1) = (j : Int) + 1 := IntWalk.wrap64_in _ (by omega)
        have hw2 : IntKind.i64.wrap ((j : Int) + 1) = (j : Int) + 1 := by rw [IntWalk.i64_left, hw1]
        have HJ : Hid (j + 1 ≤ ws.length ∧ j + 1 ≤ 60) := Lib.hid ⟨hlt, h60⟩
        have hl1000 : s.was.length ≤ 1000 := by have := HW.out.2.1; omega
        have HMe : Hid (ws.length - (j + 1) < ws.length - j) := Lib.hid (by omega)
        clear hj hj60 hlt h60
        obtain ⟨q, hq8, hq, hqt, hqw, hqw2, hqu, k0, k1⟩ := cell_facts x
        have hqn : q < now.length := by rw [HW.out.1.len]; exact hq8
        have xq := ar_cell HW.out.2.2.n hqn
        have HP := Lib.hid (HW.out.1.put hq8 y)
        have HD := Lib.hid (HW.out.2.2.c_wrote hl1000 (q : Int) (now.getD q 0))
        have HQn := Lib.hid hqn
        have HLn : Hid ((wrote s.was (q : Int) (now.getD q 0)).length ≤ j + 1) := Lib.hid (Nat.le_trans (wrote_length s.was (q : Int) (now.getD q 0)) (Nat.succ_le_succ HW.out.2.1))
        generalize now.getD q 0 = v0 at *
        clear hb HW hq8 hqn hl1000
        go_wp2_with fail
        refine HD.out.mono ?_
        rintro _ w2 ⟨rfl, h2⟩
        have H2 := Lib.hid h2
        have xq2 := ar_cell H2.out.n (k := q) HQn.out
        have fq2 := ar_free H2.out.n q
        obtain ⟨y0, y1⟩ := HCe.out _ H2.out.lx.below
        have H3 : Hid (Back first (now.set q y) (wrote s.was (q : Int) v0) ∧ (wrote s.was (q : Int) v0).length ≤ j + 1 ∧ Kz w w.heap.size gn g first (now.set q y) { s with was := wrote s.was (q : Int) v0 } (w2.setCell ⟨gn, q, none⟩ (.int .i64 y))) := Lib.hid ⟨HP.out, HLn.out, H2.out.put q y⟩
        generalize now.getD q 0 = v1 at *
        clear h2 HD HP HLn xq HCe H2
        go_wp2_with fail
        go_roundw
        case rel => exact ⟨j + 1, now.set q y, { s with was := wrote s.was (q : Int) v0 }, by go_num, HJ.out.1, HJ.out.2, H3⟩
        case measure => have h9 := HMe.out; clear hq hqt hqw hqw2 hqu k0 k1; simp only [intOf, hw1]; simpa using h9
      · have HT := Lib.hid HW.out
        obtain ⟨a, a2, ha, ha2, haa⟩ : ∃ a a2 : Bool, decide (j < ws.length) = a ∧ decide ((j : Int) < 60) = a2 ∧ (a && a2) = false := ⟨_, _, rfl, rfl, by
          rw [Bool.eq_false_iff]
          intro h
          rw [Bool.and_eq_true, decide_eq_true_iff, decide_eq_true_iff] at h
          exact hlt ⟨h.1, by omega⟩⟩
        have HU := Lib.hid HT.out.2.2.c_undo
        have HV : Hid (Undone first now s.was.reverse 0 ∧ s.was.reverse.length ≤ 8) := Lib.hid ⟨HT.out.1.undone, by rw [List.length_reverse]; exact HT.out.1.few⟩
        clear HW hlt hj hj60 HO HT
        generalize s.was.reverse = u at *
        cases a
        case' true => obtain rfl : a2 = false := by simpa using haa
        all_goals
          clear haa
          go_wp2_with (refine HU.out.mono ?_; rintro _ w3 ⟨A3, c3, rfl, h3, h4⟩; have H3 := Lib.hid (And.intro HV.out (And.intro h3 h4)); clear h3 h4)
          clear HU HV
          go_loopw [10] (fun s10 wr => ∃ (k : Nat) (now : List Int), s10 = .int .i64 (k : Int) ∧ k ≤ u.length ∧ Hid (Undone first now u k ∧ u.length ≤ 8 ∧ pr.SAt wr (fun b => b ≠ gn) A3 u ∧ Kz w w.heap.size gn g first now s wr)) (fun s10 _ => u.length - (intOf s10).toNat)
          case atStart => exact ⟨0, now, rfl, Nat.zero_le _, Lib.hid ⟨H3.out.1.1, H3.out.1.2, H3.out.2⟩⟩
          case round =>
            obtain ⟨k, now2, rfl, hk, HW⟩ := hrel
            clear H3
            by_cases hlt : k < u.length
            · have d1 : decide (k < u.length) = true := decide_eq_true hlt
              obtain ⟨b, off, rfl, hne, hb, y0, y1⟩ := HW.out.2.2.1 k hlt
              have hx := HW.out.1.keys _ (getD_mem hlt)
              obtain ⟨q, hq8, hqe⟩ : ∃ q : Nat, q < 8 ∧ (u.getD k (0, 0)).1 = (q : Int) := ⟨(u.getD k (0, 0)).1.toNat, by omega, by omega⟩
              have hn := HW.out.1.next hlt
              rw [hqe, Int.toNat_natCast] at hn
              rw [hqe] at y0
              clear hx hqe
              generalize (u.getD k (0, 0)).2 = v at *
              have hsc : ∀ W, W = wr.setCell ⟨gn, q, none⟩ (.int .i64 v) → pr.SAt W (fun b => b ≠ gn) (some ⟨b, off, none⟩) u ∧ Kz w w.heap.size gn g first (now2.set q v) s W := fun W e => by
                subst e
                exact ⟨HW.out.2.2.1.keep (fun b2 h _ => heap_setCell_other wr ⟨gn, q, none⟩ b2 _ h) (by rw [World.size_setCell]; exact Nat.le_refl _), HW.out.2.2.2.put q v⟩
              have hqn : q < now2.length := by rw [HW.out.1.len]; exact hq8
              have xq := ar_cell HW.out.2.2.2.n hqn
              have fq := ar_free HW.out.2.2.2.n q
              have HN := Lib.hid (And.intro hn (And.intro HW.out.2.1 hsc))
              have HMe : Hid (k + 1 ≤ u.length ∧ u.length - (k + 1) < u.length - k) := Lib.hid ⟨hlt, by omega⟩
              have k8 : decide ((q : Int) < 0) = false := by simp
              have k9 : decide ((7 : Int) < (q : Int)) = false := by simp; omega
              have k0 : (0 : Int) ≤ (q : Int) := by omega
              have k1 : (q : Int) < 8 := by omega
              have n0 : (0 : Int) ≤ (k : Int) := by omega
              have n1 : (k : Int) < (u.length : Int) := by omega
              have hw1 : wrap64 ((k : Int) + 1) = (k : Int) + 1 := IntWalk.wrap64_in _ (by have := HW.out.2.1; omega)
              have hw2 : IntKind.i64.wrap ((k : Int) + 1) = (k : Int) + 1 := by rw [IntWalk.i64_left, hw1]
              generalize now2.getD q 0 = v1 at *
              clear hn hsc hqn HW hk hlt hb hq8
              go_wp2_with fail
              go_still_tail 11, (by kernel_rfl)
              change wpList _ _ _ _ _ wr.drew
              go_wp2_with fail
              go_roundw
              case rel =>
                obtain ⟨e1, e2⟩ := HN.out.2.2 _ rfl
                exact ⟨k + 1, now2.set q v, by go_num, HMe.out.1, Lib.hid ⟨HN.out.1, HN.out.2.1, e1.next (Below.refl _ _).drew, e2.next (Below.refl _ _).drew⟩⟩
              case measure => have h9 := HMe.out.2; simp only [intOf, hw1]; simpa using h9
            · obtain rfl : k = u.length := by omega
              have he := HW.out.1.all hf8
              subst he
              have HB := Lib.hid HW.out.2.2.2.lx.below
              have HGF := Lib.hid HW.out.2.2.2.f
              have HGN := Lib.hid HW.out.2.2.2.n
              have d1 : decide (u.length < u.length) = false := decide_eq_false (by omega)
              have d8 : decide ((u.length : Int) ≤ 8) = true := by have := HW.out.2.1; simp; omega
              have D := HL wr
              clear HW hk hlt HL
              go_wp2_with (first
                | (refine war_load rfl _ rfl gn rfl now2 hf8 HGN.out ?_)
                | (refine war_load rfl _ rfl w.heap.size rfl now2 hf8 HGF.out ?_)
                | (refine war_eql rfl _ _ rfl now2 hf8 rfl rfl ?_)
                | (refine D.out.mono ?_; rintro _ w7 ⟨rfl, hb7⟩; have H7 := Lib.hid hb7; clear hb7))
              go_ret
              exact ⟨rfl, HB.out.trans (H7.out.mono HB.out.size)⟩
end Go.Proofs.Ytlkcpplpjjbiaaa.reg
