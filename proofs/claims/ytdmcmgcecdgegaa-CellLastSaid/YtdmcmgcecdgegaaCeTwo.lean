/-
  The program's cells, and the document's beside them, while calls are made; and the common end of the statements on cells: they keep their values. No condition.
-/
import Derived.Test.YtdmcmgcecdgegaaCeNew
import Derived.Test.YtdmcmgcecdgegaaCeRef
import Derived.Test.YtdmcmgcecdgegaaCeOps
import Derived.Test.YtdmcmgcecdgegaaPoSame
import Derived.Lib.Hide
namespace Go.Proofs.Ytdmcmgcecdgegaa.cel
open Go.RowKit Go.ChangeShapes
open Go.Proofs.Ytdmcmgcecdgegaa.objs (De zero DAt)
open Go.Proofs.Ytdmcmgcecdgegaa.word (low)
open Go.Proofs.Ytdmcmgcecdgegaa.pol (SAt same_any)
set_option linter.unusedVariables false
set_option linter.unusedSimpArgs false

/-- What was there in w lies as it did, and cells lie apart from it. -/
structure Ls (w : World) (g : Nat) (v : Value) (l : List De) (W : World) : Prop where
  below : Below w.heap.size w W
  at_ : AtC W g v l
  far : w.heap.size ≤ g
  farv : ∀ b, v.ownBlock = some b → w.heap.size ≤ b
section
variable {w W W' : World} {g : Nat} {v : Value} {l l' : List De}
theorem Ls.next (h : Ls w g v l W) (hb : Below W.heap.size W W') : Ls w g v l W' := ⟨h.below.trans (hb.mono h.below.size), h.at_.next hb, h.far, h.farv⟩
theorem Ls.set (h : Ls w g v l W) (ha : AtC W' g v l') (hm : Mv v W W') : Ls w g v l' W' := ⟨hm.below h.below h.farv h.below.size, ha, h.far, h.farv⟩
theorem ls_made {e : Ending} (h : Made w l e W) : ∃ g v, e = .returned (.pointer (some ⟨g, 0, none⟩)) ∧ Ls w g v l W := by
  obtain ⟨g, v, h1, h2, h3, h4, h5⟩ := h
  exact ⟨g, v, h1, h3, h2, h4, h5⟩
theorem Ls.c_get (h : Ls w g v l W) (obj : Int) : Calls Try.prog 14 #[.pointer (some ⟨g, 0, none⟩), .int .i64 obj] W fun e w' => e = .returned (.tuple #[.int .i64 (getV l obj).1, .bool (getV l obj).2]) ∧ Ls w g v l w' ∧ Below W.heap.size W w' :=
  (get_any W g v l obj h.at_).mono fun _ _ hh => ⟨hh.1, h.next hh.2, hh.2⟩
theorem Ls.c_guard (h : Ls w g v l W) (obj : Int) : Calls Try.prog 15 #[.pointer (some ⟨g, 0, none⟩), .int .i64 obj] W fun e w' => e = .returned (.int .i64 (guardV l obj)) ∧ Ls w g v l w' ∧ Below W.heap.size W w' :=
  (guard_any W g v l obj h.at_).mono fun _ _ hh => ⟨hh.1, h.next hh.2, hh.2⟩
theorem Ls.c_set (h : Ls w g v l W) (obj x : Int) : Calls Try.prog 11 #[.pointer (some ⟨g, 0, none⟩), .int .i64 obj, .int .i64 x] W fun e w' => e = .returned (.bool (getV l obj).2) ∧ Ls w g v (setC l obj x) w' ∧ Mv v W w' :=
  (set_any W g v l obj x h.at_).mono fun _ _ hh => ⟨hh.1, h.set hh.2.1 hh.2.2, hh.2.2⟩
end
/-- And the document's cells. -/
structure Cz (w : World) (g : Nat) (v : Value) (l : List De) (vx : Value) (m : List De) (W : World) : Prop where
  ls : Ls w g v l W
  x : pol.Own W 0 vx (vals m)
theorem pown_block {w : World} {base b : Nat} {v : Value} {l : List (Int × Int)} (h : pol.Own w base v l) (hb : v.ownBlock = some b) : ∃ cur, w.heap[b]? = some (.cells cur 32 (0, 0)) := by
  rcases h.2 with ⟨rfl, _⟩ | ⟨g, cap, cur, rfl, _, hh, _⟩
  · cases hb
  · injection hb with hb
    subst hb
    exact ⟨cur, hh⟩
section
variable {w W W' : World} {g : Nat} {v vx vx' : Value} {l l' m m' : List De}
theorem Cz.next (h : Cz w g v l vx m W) (hb : Below W.heap.size W W') : Cz w g v l vx m W' := ⟨h.ls.next hb, h.x.next hb⟩
theorem Cz.set (h : Cz w g v l vx m W) (hl : Ls w g v l' W') (hm : Mv v W W') : Cz w g v l' vx m W' :=
  ⟨hl, h.x.keep fun b hb => hm.block b (h.x.lt hb).2 (fun e => by
    obtain ⟨c1, e1⟩ := pown_block h.x hb
    obtain ⟨c2, e2⟩ := h.ls.at_.row.block e
    rw [e1] at e2
    simp at e2)⟩
theorem Cz.c_set (h : Cz w g v l vx m W) (obj x : Int) : Calls Try.prog 11 #[.pointer (some ⟨g, 0, none⟩), .int .i64 obj, .int .i64 x] W fun e w' => e = .returned (.bool (getV l obj).2) ∧ Cz w g v (setC l obj x) vx m w' :=
  (h.ls.c_set obj x).mono fun _ _ hh => ⟨hh.1, h.set hh.2.1 hh.2.2⟩
theorem Cz.c_rset (h : Cz w g v l vx m W) (hr : Rising m) (hl : m.length ≤ 4096) (obj x : Int) : Calls Try.prog 13 #[vx, .int .i64 obj, .int .i64 x] W fun e w' => ∃ A c, e = .returned (.slice A (setC m obj x).length c) ∧ Cz w g v l (.slice A (setC m obj x).length c) (setC m obj x) w' :=
  (refSet22_any W 0 vx m obj x hr hl h.x).mono fun e w' hh => by
    obtain ⟨v', rfl, h1, h2⟩ := hh
    obtain ⟨A, c, rfl⟩ := h1.slice
    rw [vals_length] at h1 ⊢
    exact ⟨A, c, rfl, h.ls.next h2, ⟨h1.1, h1.2.imp id fun ⟨g, cap, cur, e, hb, r⟩ => ⟨g, cap, cur, e, Nat.zero_le _, r⟩⟩⟩
/-- Both lists are one. -/
theorem Cz.c_same {A : Option Addr} {c : Nat} (h : Cz w g v l (.slice A l.length c) l W) (B : Nat → Prop) (A2 : Option Addr) (c2 : Nat) (hs : SAt W B A2 (vals l)) :
    Calls Try.prog 9 #[.slice A2 l.length c2, .slice A l.length c] W fun e w' => e = .returned (.bool true) ∧ Cz w g v l (.slice A l.length c) l w' := by
  have h1 := same_any A2 A c2 c (vals l) (by rw [vals_length]; exact h.ls.at_.len) W B _ hs h.x.at
  rw [vals_length] at h1
  exact h1.mono fun _ _ hh => ⟨hh.1, h.next hh.2⟩
theorem Cz.c_all (h : Cz w g v l vx m W) : Calls Try.prog 10 #[.pointer (some ⟨g, 0, none⟩)] W fun e w' => ∃ A c, e = .returned (.slice A l.length c) ∧ Cz w g v l vx m w' ∧ SAt w' (fun _ => True) A (vals l) :=
  (all_any W g v l h.ls.at_).mono fun e w' hh => by
    obtain ⟨A, c, rfl, h1, h2⟩ := hh
    rw [vals_length]
    exact ⟨A, c, rfl, h.next h2, h1.base fun _ _ _ => trivial⟩
theorem Cz.c_find {A : Option Addr} {c : Nat} (h : Cz w g v l (.slice A m.length c) m W) (hr : Rising m) (hl : m.length ≤ 4096) (obj : Int) :
    Calls Try.prog 12 #[.slice A m.length c, .int .i64 obj] W fun e w' => e = .returned (.int .i64 (posV m obj)) ∧ W = w' :=
  refFind22_any W _ A c m obj hr hl h.x.at
end
/-- Whether a cell stands somewhere, and where. -/
theorem pos_yes {g : List De} (hr : Rising g) (obj : Int) : decide (posV g obj ≥ 0) = (getV g obj).2 := by
  rcases stands_or obj g with ⟨k, hk⟩ | hk
  · rw [posV_stands hr hk, getV_stands hr hk]
    exact decide_eq_true (by omega)
  · rw [posV_lacks hk, getV_lacks hk]
    rfl

def d0 : List De := [(1, 0, 0), (7, 5, 0)]
def l0 : List De := [(1, 5, 0)]
def l1 : List De := [(1, -2147483648, 0)]
theorem l0_of : cellsOf 0 d0 = l0 := by decide
theorem l1_of : setC l0 1 2147483648 = l1 := by decide
set_option maxRecDepth 100000 in
set_option maxHeartbeats 4000000 in
theorem lives_any (w : World) : Calls Try.prog 16 #[] w fun e w' => e = .returned (.bool true) ∧ Below w.heap.size w w' := by
  have hX := heap_alloc_new w (.cells #[.int .i64 1, .int .i64 0, .int .i64 0, .int .i64 7, .int .i64 5, .int .i64 0] 38)
  have hD : DAt (w.alloc (.cells #[.int .i64 1, .int .i64 0, .int .i64 0, .int .i64 7, .int .i64 5, .int .i64 0] 38)) (some ⟨w.heap.size, 0, none⟩) d0 := DAt.two (d := (1, 0, 0)) (e := (7, 5, 0)) hX
  have HB := Lib.hid ((Below.refl _ w).alloc (Nat.le_refl _) (.cells #[.int .i64 1, .int .i64 0, .int .i64 0, .int .i64 7, .int .i64 5, .int .i64 0] 38))
  have HN := Lib.hid (new_any _ _ 2 d0 hD (by decide))
  rw [l0_of] at HN
  have C1 := fun (w0 : World) g v W (h : Ls w0 g v l0 W) => Lib.hid (h.c_get 1)
  have C2 := fun (w0 : World) g v W (h : Ls w0 g v l0 W) => Lib.hid (h.c_set 1 2147483648)
  have C3 := fun (w0 : World) g v W (h : Ls w0 g v l1 W) => Lib.hid (h.c_get 1)
  have C4 := fun (w0 : World) g v W (h : Ls w0 g v l1 W) => Lib.hid (h.c_guard 1)
  have C5 := fun (w0 : World) g v W (h : Ls w0 g v l1 W) => Lib.hid (h.c_set 0 1)
  rw [show getV l0 1 = (5, true) by decide] at C1 C2
  rw [l1_of] at C2
  rw [show getV l1 1 = (-2147483648, true) by decide] at C3
  rw [show guardV l1 1 = 0 by decide] at C4
  rw [show getV l1 0 = (0, false) by decide] at C5
  dsimp only at C1 C2 C3 C4 C5
  have e2 : d0.length = 2 := rfl
  rw [e2] at HN
  clear hX hD e2
  generalize d0 = dd at *
  generalize l0 = r0 at *
  generalize l1 = r1 at *
  go_enter Try.func16, Try.ntmps16
  go_wp2_with fail
  refine HN.out.mono ?_
  intro e w1 hh
  obtain ⟨g, v, rfl, h⟩ := ls_made hh
  have HB1 := Lib.hid (fun W (h : Below (w.alloc (.cells #[.int .i64 1, .int .i64 0, .int .i64 0, .int .i64 7, .int .i64 5, .int .i64 0] 38)).heap.size (w.alloc (.cells #[.int .i64 1, .int .i64 0, .int .i64 0, .int .i64 7, .int .i64 5, .int .i64 0] 38)) W) => HB.out.trans (h.mono HB.out.size))
  generalize (w.alloc (.cells #[.int .i64 1, .int .i64 0, .int .i64 0, .int .i64 7, .int .i64 5, .int .i64 0] 38)) = w0 at *
  have H1 := Lib.hid h
  have D := C1 _ _ _ _ H1.out
  clear hh h HN HB C1
  go_wp2_with (refine D.out.mono ?_; rintro _ w2 ⟨rfl, h, _⟩; have H2 := Lib.hid h; clear h)
  all_goals
    have D := C2 _ _ _ _ H2.out
    clear C2 H1
    go_wp2_with fail
    refine D.out.mono ?_
    rintro _ w3 ⟨rfl, h, _⟩
    have H3 := Lib.hid h
    have D := C3 _ _ _ _ H3.out
    clear h C3 H2
    go_wp2_with (refine D.out.mono ?_; rintro _ w4 ⟨rfl, h, _⟩; have H4 := Lib.hid h; clear h)
  all_goals
    have D := C4 _ _ _ _ H4.out
    clear C4 H3
    go_wp2_with fail
    refine D.out.mono ?_
    rintro _ w5 ⟨rfl, h, _⟩
    have H5 := Lib.hid h
    have D := C5 _ _ _ _ H5.out
    clear h C5 H4
    go_wp2_with (refine D.out.mono ?_; rintro _ w6 ⟨rfl, h, _⟩; have H6 := Lib.hid h; clear h)
  all_goals
    go_ret
    exact ⟨rfl, HB1.out _ H6.out.below⟩
end Go.Proofs.Ytdmcmgcecdgegaa.cel
