/-
  The common end of the statements on regions: what was written first is told last. No condition.
-/
import Derived.Test.YtlkcpplpjjbiaaaReTwo
import Derived.BigQuiet
namespace Go.Proofs.Ytlkcpplpjjbiaaa.reg
open Go.RowKit Go.ChangeShapes
open Go.Proofs.Ytlkcpplpjjbiaaa.frames (Fr In GoodN GoodF FrsPost turnF zeroF cellsF frB num cnt wl_row FsAt)
set_option linter.unusedVariables false
set_option linter.unusedSimpArgs false

def liveF : Fr := zeroF.set 2 1
def liveT : Fr := (zeroF.set 2 1).set 11 1
theorem live_turn : turnF [liveF] 1 = [liveT] := by decide +kernel
theorem live_good : GoodN [liveF] := ⟨by simp, fun f hf => by rw [List.mem_singleton.1 hf]; exact ⟨by decide, by decide, by decide⟩⟩
theorem builtN : Try.prog.built 56 [(2, .int .i64 1)] = some (cellsF liveF).toArray := by kernel_rfl
theorem wl_buildN {ops : Array Oper} {rest : List Oper} {o : Oper} {a : Act} {w : World} {Q : Exit → Act → World → Prop} (hgd : o.guard = none) (ho : o.op = .build 56 #[(2, .const (.int .i64 1))])
    (h : wpList Try.prog ops Q rest (a.put o.dst (.agg (cellsF liveF).toArray)) w) : wpList Try.prog ops Q (o :: rest) a w := by
  have e : (#[((2 : Nat), Operand.const (.int .i64 1))].map fun (i, x) => (i, a.eval x)).toList = [((2 : Nat), Value.int .i64 1)] := by simp [Act.eval]
  refine wpList_build hgd _ _ ho (by rw [e, builtN]; rfl) ?_
  rw [e, builtN]
  exact h
def s0 : St := ⟨[liveF], 4, 0, [], []⟩
def s1 : St := ⟨[liveF], 4, 0, [(7, 1)], []⟩
def s2 : St := ⟨[liveF], 4, 0, [(7, 1), (8, 2)], []⟩
def s3 : St := ⟨[liveF], 4, 0, [(7, 1), (8, 2)], [(3, 2)]⟩
def s4 : St := ⟨[liveF], 5, 1, [], []⟩
theorem s01 : { s0 with was := wrote s0.was 7 1 } = s1 := rfl
theorem s12 : { s1 with was := wrote s1.was 8 2 } = s2 := rfl
theorem s22 : { s2 with was := wrote s2.was 7 3 } = s2 := rfl
theorem s23 : { s2 with held := gotH s2.held 3 2 } = s3 := rfl
theorem live_match : Match 2 [(3, 2)] [(3, 2)] := ⟨List.pairwise_singleton _ _, List.pairwise_singleton _ _, fun _ => Iff.rfl, fun p h => by rw [List.mem_singleton.1 h]; decide⟩
section
variable {w0 W : World} {g : Nat} {s : St}
theorem Lx.c_wrote (h : Lx w0 g s W) (hl : s.was.length ≤ 1000) (o v : Int) (s' : St) (e : { s with was := wrote s.was o v } = s') : Calls Try.prog 14 #[.pointer (some ⟨g, 0, none⟩), .int .i64 o, .int .i64 v] W fun e w' => e = .returned (.tuple #[]) ∧ Hid (Lx w0 g s' w') := by
  obtain ⟨A, c, vw, vh, hz⟩ := h
  exact (wrote_any hz.at_ hl o v).mono fun _ _ hh => ⟨hh.1, Lib.hid (by rw [← e]; exact hz.went hh.2)⟩
theorem Lx.c_got (h : Lx w0 g s2 W) : Calls Try.prog 17 #[.pointer (some ⟨g, 0, none⟩), .int .i64 3, .int .i64 2] W fun e w' => e = .returned (.tuple #[]) ∧ Hid (Lx w0 g s3 w') := by
  obtain ⟨A, c, vw, vh, hz⟩ := h
  exact (got_any hz.at_ (by decide) 3 2 (by omega) (fun p hp => by cases hp)).mono fun _ _ hh => ⟨hh.1, Lib.hid (by rw [← s23]; exact hz.went hh.2)⟩
theorem Lx.c_undo (h : Lx w0 g s3 W) : Calls Try.prog 15 #[.pointer (some ⟨g, 0, none⟩)] W fun e w' => ∃ b off c, e = .returned (.slice (some ⟨b, off, none⟩) 2 c) ∧ Hid (Lx w0 g s3 w' ∧ ∀ W', Below w'.heap.size w' W' → W'.cell? ⟨b, off, none⟩ = some (.int .i64 8) ∧ W'.cell? ⟨b, off + 1, none⟩ = some (.int .i64 2) ∧ W'.cell? ⟨b, off + 2, none⟩ = some (.int .i64 7) ∧ W'.cell? ⟨b, off + 2 + 1, none⟩ = some (.int .i64 1)) := by
  obtain ⟨A, c, vw, vh, hz⟩ := h
  refine (undo_any hz.at_).mono fun e w' hh => ?_
  rw [show s3.was.reverse = [(8, 2), (7, 1)] from rfl] at hh
  obtain ⟨A', c', rfl, h1, h2⟩ := hh
  obtain ⟨b, off, rfl, _⟩ := h1 0 (by decide)
  refine ⟨b, off, c', rfl, Lib.hid ⟨⟨A, c, vw, vh, hz.at_.next h2, hz.below.trans (h2.mono hz.below.size), hz.far, hz.farw, hz.farh⟩, fun W' hb => ?_⟩⟩
  have h3 := h1.next hb
  obtain ⟨b0, off0, e0, _, _, x0, x1⟩ := h3 0 (by decide)
  obtain ⟨b1, off1, e1, _, _, x2, x3⟩ := h3 1 (by decide)
  injection e0 with e0
  injection e0 with e0 e00
  injection e1 with e1
  injection e1 with e1 e11
  subst e0 e00 e1 e11
  exact ⟨by simpa using x0, by simpa using x1, by simpa using x2, by simpa using x3⟩
theorem Lx.c_held (h : Lx w0 g s3 W) : Calls Try.prog 19 #[.pointer (some ⟨g, 0, none⟩)] W fun e w' => ∃ b off c, e = .returned (.slice (some ⟨b, off, none⟩) 1 c) ∧ Hid (Below W.heap.size W w' ∧ ∀ W', Below w'.heap.size w' W' → W'.cell? ⟨b, off, none⟩ = some (.int .i64 3) ∧ W'.cell? ⟨b, off + 1, none⟩ = some (.int .i64 2)) := by
  obtain ⟨A, c, vw, vh, hz⟩ := h
  refine (held_any hz.at_ live_match).mono fun e w' hh => ?_
  obtain ⟨A', c', rfl, h1, h2⟩ := hh
  obtain ⟨b, off, rfl, _⟩ := h1 0 (by decide)
  refine ⟨b, off, c', rfl, Lib.hid ⟨h2, fun W' hb => ?_⟩⟩
  have h3 := h1.next hb
  obtain ⟨b0, off0, e0, _, _, x0, x1⟩ := h3 0 (by decide)
  injection e0 with e0
  injection e0 with e0 e00
  subst e0 e00
  exact ⟨by simpa using x0, by simpa using x1⟩
theorem Lx.c_number (h : Lx w0 g s W) : Calls Try.prog 21 #[.pointer (some ⟨g, 0, none⟩)] W fun e w' => e = .returned (.int .i64 s.num) ∧ W = w' := by
  obtain ⟨A, c, vw, vh, hz⟩ := h
  exact number_any hz.at_
theorem Lx.c_again (h : Lx w0 g s3 W) : Calls Try.prog 23 #[.pointer (some ⟨g, 0, none⟩), .int .i64 5] W fun e w' => ∃ g2, e = .returned (.pointer (some ⟨g2, 0, none⟩)) ∧ Hid (Lx w0 g2 s4 w') := by
  obtain ⟨A, c, vw, vh, hz⟩ := h
  exact (again_any hz.at_ (by decide) 5).mono fun e w' hh => by
    obtain ⟨g2, h1, h2⟩ := lx_made hz.below hh
    exact ⟨g2, h1, Lib.hid h2⟩
theorem Lx.c_frames (h : Lx w0 g s4 W) : Calls Try.prog 20 #[.pointer (some ⟨g, 0, none⟩)] W fun e w' => ∃ b off c, e = .returned (.slice (some ⟨b, off, none⟩) 1 c) ∧ w'.cell? ⟨b, off + 11, none⟩ = some (.int .i64 1) ∧ Hid (Below w0.heap.size w0 w') := by
  obtain ⟨A, c, vw, vh, hz⟩ := h
  refine (frames_any hz.at_).mono fun e w' hh => ?_
  have e1 : frOf s4 = [liveT] := live_turn
  rw [e1] at hh
  unfold FrsPost at hh
  obtain ⟨A', c', rfl, h1, h2⟩ := hh
  obtain ⟨b, off, rfl, _, h3⟩ := h1.at' 0 (by decide)
  refine ⟨b, off, c', rfl, ?_, Lib.hid (hz.below.trans (h2.mono hz.below.size))⟩
  have := h3 11 (by decide)
  simpa [num, liveT, zeroF] using this
end
set_option maxRecDepth 100000 in
set_option maxHeartbeats 8000000 in
theorem lives_any (w : World) : Calls Try.prog 7 #[] w fun e w' => e = .returned (.bool true) ∧ Below w.heap.size w w' := by
  have hb0 := (Below.refl w.heap.size w).alloc (Nat.le_refl _) (frB liveF)
  have hI : In (w.alloc (frB liveF)) (some ⟨w.heap.size, 0, none⟩) 1 [liveF] := ⟨FsAt.one (heap_alloc_new w _), by simp, by simp, fun f hf => by rw [List.mem_singleton.1 hf]; decide, fun e => by cases e⟩
  have HN : Hid (Calls Try.prog 9 #[.slice (some ⟨w.heap.size, 0, none⟩) 1 1, .int .i64 4] (w.alloc (frB liveF)) fun e w' => ∃ g, e = .returned (.pointer (some ⟨g, 0, none⟩)) ∧ Hid (Lx w g s0 w')) := Lib.hid ((begin_any _ 1 [liveF] 4 _ hI live_good).mono fun e w' hh => by
    obtain ⟨g, h1, h2⟩ := lx_made hb0 hh
    exact ⟨g, h1, Lib.hid h2⟩)
  have C1 := fun g W (h : Lx w g s0 W) => Lib.hid (h.c_wrote (by decide) 7 1 s1 s01)
  have C2 := fun g W (h : Lx w g s1 W) => Lib.hid (h.c_wrote (by decide) 8 2 s2 s12)
  have C3 := fun g W (h : Lx w g s2 W) => Lib.hid (h.c_wrote (by decide) 7 3 s2 s22)
  have C4 := fun g W (h : Lx w g s2 W) => Lib.hid h.c_got
  have C5 := fun g W (h : Lx w g s3 W) => Lib.hid h.c_undo
  have C6 := fun g W (h : Lx w g s3 W) => Lib.hid h.c_held
  have C7 := fun g W (h : Lx w g s3 W) => Lib.hid (h.c_number)
  have C8 := fun g W (h : Lx w g s3 W) => Lib.hid h.c_again
  have C9 := fun g W (h : Lx w g s4 W) => Lib.hid h.c_frames
  rw [show s3.num = 4 from rfl] at C7
  clear hb0 hI
  generalize s0 = r0 at *
  generalize s1 = r1 at *
  generalize s2 = r2 at *
  generalize s3 = r3 at *
  generalize s4 = r4 at *
  go_enter Try.func7, Try.ntmps7
  go_wp2_with (first | refine wl_buildN rfl rfl ?_ | refine wl_row rfl _ rfl liveF rfl ?_)
  refine HN.out.mono ?_
  rintro _ w1 ⟨g, rfl, H1⟩
  have D1 := C1 g _ H1.out
  clear HN C1
  go_wp2_with fail
  refine D1.out.mono ?_
  rintro _ w2 ⟨rfl, H2⟩
  have D2 := C2 g _ H2.out
  clear D1 C2 H1
  go_wp2_with fail
  refine D2.out.mono ?_
  rintro _ w3 ⟨rfl, H3⟩
  have D3 := C3 g _ H3.out
  clear D2 C3 H2
  go_wp2_with fail
  refine D3.out.mono ?_
  rintro _ w4 ⟨rfl, H4⟩
  have D4 := C4 g _ H4.out
  clear D3 C4 H3
  go_wp2_with fail
  refine D4.out.mono ?_
  rintro _ w5 ⟨rfl, H5⟩
  have D5 := C5 g _ H5.out
  clear D4 C5 H4
  go_wp2_with fail
  refine D5.out.mono ?_
  rintro _ w6 ⟨b, off, c, rfl, H6⟩
  have D6 := C6 g _ H6.out.1
  clear D5 H5
  go_wp2_with fail
  refine D6.out.mono ?_
  rintro _ w7 ⟨b2, off2, c2, rfl, H7⟩
  obtain ⟨x0, x1, x2, x3⟩ := H6.out.2 w7 H7.out.1
  obtain ⟨y0, y1⟩ := H7.out.2 w7 (Below.refl _ _)
  have H8 := Lib.hid (H6.out.1.next H7.out.1)
  have D7 := C7 g _ H8.out
  have D8 := C8 g _ H8.out
  clear D6 C6 H6 H7 C7 C8
  go_wp2_with (first
    | (go_at_call 21; refine D7.out.mono ?_; rintro _ _ ⟨rfl, rfl⟩)
    | (go_at_call 23; refine D8.out.mono ?_; rintro _ w8 ⟨g2, rfl, H9⟩; have D9 := C9 g2 _ H9.out)
    | (go_at_call 20; refine D9.out.mono ?_; rintro _ w9 ⟨b3, off3, c3, rfl, z0, H10⟩))
  trace_state
  go_ret
  exact ⟨by simp, H10.out⟩
end Go.Proofs.Ytlkcpplpjjbiaaa.reg
