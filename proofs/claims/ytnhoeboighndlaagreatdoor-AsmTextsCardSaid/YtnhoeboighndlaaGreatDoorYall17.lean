/-
  Texts of one claim in one file: YNeed. Each has its own sentence, with its conditions.
-/
import Derived.Test.YtnhoeboighndlaaGreatDoorYall16
/-
  The program's reading of a need (typed over the code of 0aab59b): the first kind with which the numbers are written so. The tables must lie where their initialisers lay them.
-/
namespace Go.Proofs.YtnhoeboighndlaaGreatDoor.pgm.asm
open Go.RowKit Go.ChangeShapes
open Go.Proofs.YtnhoeboighndlaaGreatDoor.pgm
open Go.Proofs.YtnhoeboighndlaaGreatDoor.octet (mk_append size_mk)
open Go.Proofs.YtnhoeboighndlaaGreatDoor.objs (De zero DAt cells3 put3 put3_same put3_far put3_below below_drewN)
open Go.Proofs.YtnhoeboighndlaaGreatDoor.need (WAt intT needT textW)
open Go.Proofs.YtnhoeboighndlaaGreatDoor.digi (readD)
set_option linter.unusedVariables false

theorem cut_le (s sep : List UInt8) : (Lib.cut s sep).1.length ≤ s.length ∧ (Lib.cut s sep).2.1.length ≤ s.length := by
  unfold Lib.cut
  split
  · exact ⟨by rw [List.length_take]; omega, by rw [List.length_drop]; omega⟩
  · exact ⟨Nat.le_refl _, Nat.zero_le _⟩
theorem cut_any (s : List UInt8) (c : UInt8) (hs : s.length ≤ 1048576) (w : World) (hw : Okz w) : Calls Tryz.prog 34 #[.string ⟨s.toArray⟩, .string ⟨#[c]⟩] w fun e w' =>
    e = .returned (.tuple #[.string ⟨(Lib.cut s [c]).1.toArray⟩, .string ⟨(Lib.cut s [c]).2.1.toArray⟩, .bool (Lib.cut s [c]).2.2]) ∧ Below w.heap.size w w' := by
  obtain ⟨m, hm⟩ := hw.most
  refine (Tryz.strings_Cut ⟨s.toArray⟩ ⟨#[c]⟩ m w (by rw [size_mk]; omega) hm).mono ?_
  rintro e w' ⟨rfl, n, rfl⟩
  exact ⟨rfl, below_drewN (Below.refl _ _) n⟩
/-- Texts in a block of their own. -/
def strBox (ts : List (List UInt8)) : Obj := .cells (ts.map fun t => Value.string ⟨t.toArray⟩).toArray 9
theorem str_at {W : World} {g : Nat} {ts : List (List UInt8)} (h : W.heap[g]? = some (strBox ts)) : StrAt W (some ⟨g, 0, none⟩) ts := fun j hj => ⟨g, 0, rfl, lt_of_block h, by
  unfold World.cell?
  rw [h]
  simp [strBox, List.getElem?_eq_getElem hj, List.getD_eq_getElem?_getD]⟩
theorem split_any (s sep : List UInt8) (h1 : 1 ≤ sep.length) (hs : s.length ≤ 1048576) (w : World) (hw : Okz w) : Calls Tryz.prog 79 #[.string ⟨s.toArray⟩, .string ⟨sep.toArray⟩] w fun e w' =>
    e = .returned (.slice (some ⟨w.heap.size, 0, none⟩) (Lib.split s sep).length (Lib.split s sep).length) ∧ w' = w.alloc (strBox (Lib.split s sep)) := by
  obtain ⟨m, hm⟩ := hw.most
  refine (Tryz.strings_Split ⟨s.toArray⟩ ⟨sep.toArray⟩ m w (by rw [size_mk]; omega) hm (by rw [size_mk]; exact h1)).mono ?_
  rintro e w' ⟨rfl, rfl⟩
  have hd := Lib.splitB_data ⟨sep.toArray⟩ 0 (Lib.countB ⟨s.toArray⟩ ⟨sep.toArray⟩) ⟨s.toArray⟩
  have hd2 : (Lib.splitB ⟨sep.toArray⟩ 0 (Lib.countB ⟨s.toArray⟩ ⟨sep.toArray⟩) ⟨s.toArray⟩).map (·.data.toList) = Lib.split s sep := hd
  have hl := Lib.splitB_all ⟨sep.toArray⟩ (by rw [size_mk]; exact h1) 0 _ ⟨s.toArray⟩ rfl
  have hl2 : (Lib.split s sep).length = Lib.countB ⟨s.toArray⟩ ⟨sep.toArray⟩ + 1 := by rw [← hd2, List.length_map, hl]
  refine ⟨by rw [hl2], ?_⟩
  unfold strBox
  rw [← hd2, List.map_map]
  rfl
theorem split_le {s sep : List UInt8} (h1 : sep ≠ []) : ∀ p ∈ Lib.split s sep, p.length ≤ s.length := by
  have gen : ∀ (ps : List (List UInt8)), ∀ p ∈ ps, p.length ≤ (joinS sep ps).length := by
    intro ps
    induction ps with
    | nil => intro p hp; cases hp
    | cons q ps ih =>
      intro p hp
      cases ps with
      | nil =>
        rcases List.mem_cons.1 hp with rfl | hp
        · exact Nat.le_refl _
        · cases hp
      | cons r ps =>
        show p.length ≤ (q ++ sep ++ joinS sep (r :: ps)).length
        rcases List.mem_cons.1 hp with rfl | hp
        · simp only [List.length_append]; omega
        · have := ih p hp
          simp only [List.length_append]; omega
  intro p hp
  have := gen _ p hp
  rwa [join_split h1 (s.length + 1) s (Nat.lt_succ_self _)] at this
theorem split_many {s sep : List UInt8} (h1 : sep ≠ []) : (Lib.split s sep).length ≤ s.length + 1 := by
  have gen : ∀ (ps : List (List UInt8)), ps.length ≤ (joinS sep ps).length + 1 := by
    intro ps
    have hp : 0 < sep.length := List.length_pos_iff.2 h1
    induction ps with
    | nil => exact Nat.zero_le _
    | cons q ps ih =>
      cases ps with
      | nil => simp
      | cons r ps =>
        show _ ≤ (q ++ sep ++ joinS sep (r :: ps)).length + 1
        simp only [List.length_append, List.length_cons] at ih ⊢
        omega
  have := gen (Lib.split s sep)
  rwa [join_split h1 (s.length + 1) s (Nat.lt_succ_self _)] at this

def nBox (k o m : Int) : Obj := .cells #[.int .i64 k, .int .i64 o, .int .i64 m] 79
def NeedPostZ (t : List UInt8) (w : World) (e : Ending) (w' : World) : Prop := e = .returned (.tuple #[.agg #[.int .i64 ((needW t).getD zero).1, .int .i64 ((needW t).getD zero).2.1, .int .i64 ((needW t).getD zero).2.2], .bool (needW t).isSome]) ∧ Below w.heap.size w w'
theorem need_ret {w Z : World} {t : List UInt8} {k o m : Int} {ok : Bool} {act : Act} (h2 : act.tmps[2]?.getD undef = .pointer (some ⟨w.heap.size, 0, none⟩)) (h3 : act.tmps[3]?.getD undef = .bool ok) (hd : act.defers = [])
    (hp : (needW t).getD zero = (k, o, m)) (hs : (needW t).isSome = ok) (hz : Z.heap[w.heap.size]? = some (.cells #[.int .i64 k, .int .i64 o, .int .i64 m] 79 (0, 0))) (hb : Below w.heap.size w Z) : bodyPost Tryz.prog Tryz.f100 (NeedPostZ t w) .ret act Z := by
  obtain ⟨x0, x1, x2, _⟩ := cells3 hz
  refine bodyPost_ret (v := .tuple #[.agg #[.int .i64 k, .int .i64 o, .int .i64 m], .bool ok]) ?_ hd ⟨by rw [hp, hs], hb⟩
  simp [results, Tryz.results100, go_sem, h2, h3, x0, x1, x2]
/-- While a need is read: the result's block, and that of the need. -/
structure Nf (w : World) (nb : Nat) (k o m : Int) (W : World) : Prop where
  below : Below w.heap.size w W
  res : W.heap[w.heap.size]? = some (.cells #[.int .i64 0, .int .i64 0, .int .i64 0] 79 (0, 0))
  box : W.heap[nb]? = some (.cells #[.int .i64 k, .int .i64 o, .int .i64 m] 79 (0, 0))
  lt : w.heap.size < nb
theorem Nf.next {w W W' : World} {nb : Nat} {k o m : Int} (h : Nf w nb k o m W) (hb : Below W.heap.size W W') : Nf w nb k o m W' :=
  ⟨h.below.trans (hb.mono h.below.size), (hb.block _ (lt_of_block h.res)).trans h.res, (hb.block _ (lt_of_block h.box)).trans h.box, h.lt⟩
theorem Nf.set {w W : World} {nb : Nat} {k o m k' o' m' : Int} (h : Nf w nb k o m W) (j : Nat) (v : Int) (hj : (j = 0 ∧ k' = v ∧ o' = o ∧ m' = m) ∨ (j = 1 ∧ k' = k ∧ o' = v ∧ m' = m) ∨ (j = 2 ∧ k' = k ∧ o' = o ∧ m' = v)) : Nf w nb k' o' m' (W.setCell ⟨nb, j, none⟩ (.int .i64 v)) := by
  refine ⟨h.below.setCell (p := ⟨nb, j, none⟩) (Nat.le_of_lt h.lt) _, (Below.heap_setCell _ ⟨nb, j, none⟩ _ _ (by have := h.lt; simp; omega)).trans h.res, ?_, h.lt⟩
  have := h.box
  rcases hj with ⟨rfl, rfl, rfl, rfl⟩ | ⟨rfl, rfl, rfl, rfl⟩ | ⟨rfl, rfl, rfl, rfl⟩ <;> simp [World.setCell, Array.getElem?_modify, this]
theorem needK_succ (t : List UInt8) (o m : Int) (n : Nat) : needK t o m (n + 1) = if needT (6 - ((n + 1 : Nat) : Int), o, m) = t then some (6 - ((n + 1 : Nat) : Int), o, m) else needK t o m n := rfl
theorem one_text (n : De) : textW [[n]] = needT n := by
  rw [textW_ways]
  rfl
theorem one_at (w : World) (n : De) : WAt ((w.alloc (nBox n.1 n.2.1 n.2.2)).alloc (.cells #[.slice (some ⟨w.heap.size, 0, none⟩) 1 1] 75)) (some ⟨(w.alloc (nBox n.1 n.2.1 n.2.2)).heap.size, 0, none⟩) [[n]] := by
  intro j hj
  obtain rfl : j = 0 := by simpa using hj
  have hb := heap_alloc_new (w.alloc (nBox n.1 n.2.1 n.2.2)) (.cells #[.slice (some ⟨w.heap.size, 0, none⟩) 1 1] 75)
  refine ⟨_, 0, some ⟨w.heap.size, 0, none⟩, 1, rfl, lt_of_block hb, ?_, ?_⟩
  · unfold World.cell?
    rw [hb]
    rfl
  · exact (Go.Proofs.YtnhoeboighndlaaGreatDoor.need.DAt.oneN (heap_alloc_new w _)).next ((Below.refl _ _).alloc (Nat.le_refl _) _)

set_option maxRecDepth 100000 in
set_option maxHeartbeats 8000000 in
theorem needOf_any (t : List UInt8) (ht : t.length ≤ 1048576) (w : World) (hw : Okz w) : Calls Tryz.prog 100 #[.string ⟨t.toArray⟩] w (NeedPostZ t w) := by
  have HC := fun s c hs W hW => Lib.hid (cut_any s c hs W hW)
  obtain ⟨l1, l2⟩ := cut_le t [32]
  obtain ⟨l3, l4⟩ := cut_le (Lib.cut t [32]).2.1 [58]
  have HN1 := fun W hW => Lib.hid (number_any (Lib.cut (Lib.cut t [32]).2.1 [58]).1 (by omega) W hW)
  have HN2 := fun W hW => Lib.hid (number_any (Lib.cut (Lib.cut t [32]).2.1 [58]).2.1 (by omega) W hW)
  have HC1 := fun W hW => HC t 32 ht W hW
  have HC2 := fun W hW => HC (Lib.cut t [32]).2.1 58 (by omega) W hW
  unfold NumPostZ at HN1 HN2
  have HK : Hid (needW t = needK t (objN t) (manyN t) 5) := Lib.hid rfl
  have ho : objN t = (readD (Lib.cut (Lib.cut t [32]).2.1 [58]).1 10).getD 0 := rfl
  have hm : manyN t = (readD (Lib.cut (Lib.cut t [32]).2.1 [58]).2.1 10).getD 0 := rfl
  rw [← ho] at HN1
  rw [← hm] at HN2
  have hs1 : Sm (objN t) := sm_read _
  have hs2 : Sm (manyN t) := sm_read _
  generalize objN t = o at *
  generalize manyN t = m at *
  generalize (readD (Lib.cut (Lib.cut t [32]).2.1 [58]).1 10).isSome = b1 at *
  generalize (readD (Lib.cut (Lib.cut t [32]).2.1 [58]).2.1 10).isSome = b2 at *
  generalize Lib.cut (Lib.cut t [32]).2.1 [58] = c2 at *
  generalize Lib.cut t [32] = c1 at *
  have HW := Lib.hid hw
  have HR0 := Lib.hid (heap_alloc_new w (nBox 0 0 0))
  have HB0 : Hid (Below w.heap.size w (w.alloc (nBox 0 0 0))) := Lib.hid ((Below.refl _ _).alloc (Nat.le_refl _) _)
  unfold nBox at HR0 HB0
  clear hw ho hm l1 l2 l3 l4 HC
  go_enter Tryz.func100, Tryz.ntmps100
  go_wp2_with fail
  refine (HC1 _ (HW.out.next HB0.out)).out.mono ?_
  rintro e w1 ⟨rfl, hb1⟩
  have HB1 := Lib.hid (HB0.out.trans (hb1.mono HB0.out.size))
  have HR1 := Lib.hid ((hb1.block _ (lt_of_block HR0.out)).trans HR0.out)
  clear hb1 HC1 HB0 HR0
  go_wp2_with fail
  refine (HC2 _ (HW.out.next HB1.out)).out.mono ?_
  rintro e w2 ⟨rfl, hb2⟩
  have HB2 := Lib.hid (HB1.out.trans (hb2.mono HB1.out.size))
  have HR2 := Lib.hid ((hb2.block _ (lt_of_block HR1.out)).trans HR1.out)
  have HF : Hid (Nf w w2.heap.size 0 0 0 (w2.alloc (nBox 0 0 0))) := Lib.hid ⟨HB2.out.alloc HB2.out.size _, (Below.heap_alloc _ _ _ (lt_of_block HR2.out)).trans HR2.out, heap_alloc_new w2 _, lt_of_block HR2.out⟩
  unfold nBox at HF
  clear hb2 HC2 HB1 HR1 HB2 HR2
  go_wp2_with fail
  generalize w2.alloc (Obj.cells #[Value.int IntKind.i64 0, Value.int IntKind.i64 0, Value.int IntKind.i64 0] 79) = W0 at *
  generalize w2.heap.size = nb at *
  refine (HN1 _ (HW.out.next HF.out.below)).out.mono ?_
  rintro e w3 ⟨rfl, hb3⟩
  have HF3 := Lib.hid (HF.out.next hb3)
  obtain ⟨x0, x1, x2, y0, y1, y2⟩ := cells3 HF3.out.box
  have HF4 : Hid (Nf w nb 0 o 0 (w3.setCell ⟨nb, 1, none⟩ (.int .i64 o))) := Lib.hid (HF3.out.set 1 o (by simp))
  clear hb3 HF HF3 HN1
  go_wp2_with fail
  generalize w3.setCell ⟨nb, 1, none⟩ (.int .i64 o) = w4 at *
  refine (HN2 _ (HW.out.next HF4.out.below)).out.mono ?_
  rintro e w5 ⟨rfl, hb5⟩
  have HF5 := Lib.hid (HF4.out.next hb5)
  clear x0 x1 x2 y0 y1 y2
  obtain ⟨x0, x1, x2, y0, y1, y2⟩ := cells3 HF5.out.box
  have HF6 : Hid (Nf w nb 1 o m ((w5.setCell ⟨nb, 2, none⟩ (.int .i64 m)).setCell ⟨nb, 0, none⟩ (.int .i64 1))) := Lib.hid ((HF5.out.set 2 m (k' := 0) (o' := o) (m' := m) (by simp)).set 0 1 (by simp))
  clear hb5 HF4 HF5 HN2
  go_wp2_with fail
  generalize (w5.setCell ⟨nb, 2, none⟩ (.int .i64 m)).setCell ⟨nb, 0, none⟩ (.int .i64 1) = w6 at *
  clear x0 x1 x2 y0 y1 y2
  go_loopg [] 5 (fun g wr => ∃ k : Nat, g = 6 - k ∧ 1 ≤ k ∧ k ≤ 6 ∧ Hid (needW t = needK t o m (6 - k)) ∧ Hid (Nf w nb (k : Int) o m wr))
  case atStart => exact ⟨1, rfl, by omega, by omega, HK, HF6⟩
  case round =>
    clear HK HF6
    obtain ⟨k, hg, hk1, hk6, HK, HF⟩ := hrel
    obtain ⟨x0, x1, x2, y0, y1, y2⟩ := cells3 HF.out.box
    by_cases hlt : k < 6
    · have hlt' : (k : Int) ≤ 5 := by omega
      obtain ⟨n, hn⟩ : ∃ n, 6 - k = n + 1 := ⟨5 - k, by omega⟩
      have hkn : (6 : Int) - ((n + 1 : Nat) : Int) = (k : Int) := by omega
      have HKs : Hid (needK t o m (6 - k) = if needT ((k : Int), o, m) = t then some ((k : Int), o, m) else needK t o m n) := Lib.hid (by
        rw [hn, needK_succ, hkn])
      have hwa := one_at wr ((k : Int), o, m)
      have hb8 : Below wr.heap.size wr ((wr.alloc (nBox (k : Int) o m)).alloc (.cells #[.slice (some ⟨wr.heap.size, 0, none⟩) 1 1] 75)) := by
        have h1 : Below wr.heap.size wr (wr.alloc (nBox (k : Int) o m)) := (Below.refl _ _).alloc (Nat.le_refl _) _
        exact h1.alloc h1.size _
      have HF8 := Lib.hid (HF.out.next hb8)
      have HT := Lib.hid (Go.Proofs.YtnhoeboighndlaaGreatDoor.need.text_any _ 1 [[((k : Int), o, m)]] (by simp) (fun x hx => by
        obtain rfl := List.mem_singleton.1 hx
        refine ⟨by simp, fun y hy => ?_⟩
        obtain rfl := List.mem_singleton.1 hy
        unfold Sm at hs1 hs2
        exact ⟨⟨by dsimp only; omega, by dsimp only; omega⟩, ⟨by dsimp only; omega, by dsimp only; omega⟩, ⟨by dsimp only; omega, by dsimp only; omega⟩⟩) _ hwa (HW.out.next HF8.out.below).need)
      rw [one_text] at HT
      have hsz : (wr.alloc (nBox (k : Int) o m)).heap.size = wr.heap.size + 1 := by simp
      rw [hsz] at HT
      unfold nBox at HT HF8
      clear hwa hb8 hsz hkn
      by_cases he : needT ((k : Int), o, m) = t
      · have HR : Hid (needW t = some ((k : Int), o, m)) := Lib.hid (by rw [HK.out, HKs.out, if_pos he])
        rw [he] at HT
        clear HK HKs he
        go_wp2_with fail
        refine HT.out.mono ?_
        rintro e w9 ⟨rfl, hb9⟩
        have HF9 := Lib.hid (HF8.out.next hb9)
        clear hb9 HT HF8 x0 x1 x2 y0 y1 y2
        obtain ⟨x0, x1, x2, y0, y1, y2⟩ := cells3 HF9.out.box
        obtain ⟨z0, z1, z2, v0, v1, v2⟩ := cells3 HF9.out.res
        go_wp2_with fail
        exact need_ret (ok := true) rfl rfl rfl (by rw [HR.out]; rfl) (by rw [HR.out]; rfl) (put3_same HF9.out.res (.int .i64 (k : Int)) (.int .i64 o) (.int .i64 m)) (put3_below HF9.out.below (Nat.le_refl _) _ _ _)
      · have HR : Hid (needW t = needK t o m (6 - (k + 1))) := Lib.hid (by rw [HK.out, HKs.out, if_neg he]; congr 1; omega)
        have hq : (needT ((k : Int), o, m) == t) = false := beq_eq_false_iff_ne.2 he
        generalize needT ((k : Int), o, m) = tx at *
        clear HK HKs he
        go_wp2_with fail
        refine HT.out.mono ?_
        rintro e w9 ⟨rfl, hb9⟩
        have HF9 := Lib.hid (HF8.out.next hb9)
        clear hb9 HT HF8 x0 x1 x2 y0 y1 y2
        obtain ⟨x0, x1, x2, y0, y1, y2⟩ := cells3 HF9.out.box
        have HF10 : Hid (Nf w nb ((k + 1 : Nat) : Int) o m (w9.setCell ⟨nb, 0, none⟩ (.int .i64 ((k : Int) + 1)))) := Lib.hid (HF9.out.set 0 ((k : Int) + 1) (by simp))
        go_wp2_with fail
        go_roundg (6 - (k + 1))
        case measure => omega
        case rel => exact ⟨k + 1, rfl, by omega, by omega, HR, HF10⟩
    · obtain rfl : k = 6 := by omega
      have hge : ¬ ((6 : Nat) : Int) ≤ 5 := by omega
      have HR : Hid (needW t = none) := Lib.hid HK.out
      obtain ⟨z0, z1, z2, v0, v1, v2⟩ := cells3 HF.out.res
      go_wp2_with fail
      exact need_ret (ok := false) rfl rfl rfl (by rw [HR.out]; rfl) (by rw [HR.out]; rfl) (put3_same HF.out.res (.int .i64 0) (.int .i64 0) (.int .i64 0)) (put3_below HF.out.below (Nat.le_refl _) _ _ _)
end Go.Proofs.YtnhoeboighndlaaGreatDoor.pgm.asm
