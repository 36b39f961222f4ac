/-
  The walk of TimerOnce: each is told once, by its time. No condition.
-/
import Derived.Test.YtfhkaedpbandiaaTInv
import Derived.Deep.CutBlock
import Derived.Deep.DeepCutAuto
import Derived.Laws.AppendOwnNone
import Derived.Maps.AppendAt
namespace Go.Proofs.Ytfhkaedpbandiaa.timer
open Go.RowKit
attribute [local go_sem ↓] Go.wp_at_zero Go.wp_at_succ

theorem ownI_tag {w : World} {base b : Nat} {v : Value} {l : List Int} (h : OwnI w base v l) (hb : v.ownBlock = some b) : ∃ cur, w.heap[b]? = some (.cells cur 3 (0, 0)) := by
  rcases h.2 with ⟨rfl, _⟩ | ⟨g1, _, cur, rfl, _, hh, _⟩
  · simp [Value.ownBlock] at hb
  · simp [Value.ownBlock] at hb
    subst hb
    exact ⟨cur, hh⟩
theorem ownI_ne {w : World} {bt bh bm base b : Nat} {m : List E} {v : Value} {l : List Int} (o : Lies w bt bh bm m) (h : OwnI w base v l) (hb : v.ownBlock = some b) : b ≠ bt ∧ b ≠ bh ∧ b ≠ bm := by
  obtain ⟨cur, hk⟩ := ownI_tag h hb
  rcases o with ⟨h, _, rfl, rfl⟩ | ⟨_, _, _, _, o, _⟩
  · have h0 : b ≠ bm := by
      rintro rfl
      rw [hk] at h
      simp at h
    exact ⟨h0, h0, h0⟩
  · refine ⟨?_, ?_, ?_⟩
    · rintro rfl
      have := o.tim
      rw [hk] at this
      simp at this
    · rintro rfl
      obtain ⟨c2, h2⟩ := o.row.tag
      rw [hk] at h2
      simp at h2
    · rintro rfl
      obtain ⟨_, ⟨_, _, h2, _⟩, _⟩ := o.map
      rw [hk] at h2
      simp at h2

/-- A whole list put behind a row of a call's own. -/
theorem wpList_appL {ops : Array Oper} {rest : List Oper} {o : Oper} {a : Act} {w : World} {Q : Exit → Act → World → Prop} (hgd : o.guard = none) (s x : Operand)
    (ho : o.op = .call { callee := .builtin .append, args := #[s, x], argTypes := #[36, 36] }) (base b2 : Nat) (v u : Value) (l r : List Int)
    (hs : a.eval s = v) (hrow : OwnI w base v l) (hx : a.eval x = u) (hsrc : OwnI w b2 u r) (hlen : l.length + r.length ≤ 100000) (hbase : base ≤ w.heap.size)
    (h : ∀ v' w', OwnI w' base v' (l ++ r) → w.grownBy w' v.ownBlock → wpList Try.prog ops Q rest (a.put o.dst v') w') : wpList Try.prog ops Q (o :: rest) a w := by
  obtain ⟨i, hi, hz0, hz1, hz2⟩ := info_parts infoI
  rcases hsrc.2 with ⟨rfl, h0⟩ | ⟨g1, c1, cur, rfl, _⟩
  · obtain rfl : r = [] := List.eq_nil_of_length_eq_zero h0
    refine wpList_append_own_none hgd s x 36 ho base 3 i 1 Try.underlying36 hi v l.length (ints l) hs hrow hx ?_
    refine h v w ?_ ⟨rfl, rfl, rfl, Nat.le_refl _, fun _ _ _ => rfl⟩
    rw [List.append_nil]
    exact hrow
  · refine wpList_append_own_at w hgd s x 36 ho base 3 i _ 1 8 Try.underlying36 hi hz0 hz1 hz2 rfl (by omega) v l.length (ints l) hs hrow ⟨g1, 0, none⟩ r.length c1 (ints r) hx (by simp [ints]) (fun j y hy => World.ownsRow.cells hsrc (g := g1) rfl j y hy) (ints_oneCell r) (by unfold maxLen; omega) (by omega) hbase ?_
    intro v' w' h1 h2 _ _
    refine h v' w' ?_ h2
    unfold OwnI
    rw [List.length_append, show ints (l ++ r) = ints l ++ ints r by simp [ints]]
    exact h1

def OHead1 (w : World) (len : Nat) (s i : Value) (wr : World) : Prop :=
  ∃ (j gg cap bh bm : Nat) (m : List E), i = .int .i64 (j : Int) ∧ j ≤ len ∧ j ≤ 60 ∧ m.length ≤ j ∧ s = .slice (some ⟨gg, 0, none⟩) m.length cap ∧ Inv w w.heap.size wr bh bm gg cap m
def OTail1 (w : World) (s : Value) (wr : World) : Prop :=
  ∃ (gg cap bh bm : Nat) (m : List E), m.length ≤ 60 ∧ s = .slice (some ⟨gg, 0, none⟩) m.length cap ∧ Inv w w.heap.size wr bh bm gg cap m

/-- The program's Set within a round. -/
theorem once_set {w wr : World} {bt bh bm gg cap : Nat} {m : List E} {b o1 o2 : Nat} {x y : Int} (hI : Inv w bt wr bh bm gg cap m) (hm : m.length ≤ 100) (hx : Wf x) (hb : b < w.heap.size) (c1 : wr.cell? ⟨b, o1, none⟩ = some (.int .i64 x)) (c2 : wr.cell? ⟨b, o2, none⟩ = some (.int .i64 y)) :
    ∀ V : World, Below wr.heap.size wr V → Calls Try.prog 10 #[.pointer (some ⟨bt, 0, none⟩), .int .i64 x, .int .i64 y] V fun e w' =>
      e = .returned (.tuple #[]) ∧ w'.cell? ⟨b, o1, none⟩ = some (.int .i64 x) ∧ w'.cell? ⟨b, o2, none⟩ = some (.int .i64 y) ∧ Hid (∃ bh' bm', Lies w' bt bh' bm' (setl m x y) ∧ Row 57 w' 0 gg cap m ∧ Below w.heap.size w w' ∧ w.heap.size ≤ bh' ∧ w.heap.size ≤ bm') := by
  intro V hV
  have hI' := hI.on hV
  refine (set_any V bt bh bm m hI'.lies (by omega) x y hx).mono ?_
  rintro e w' ⟨rfl, bh', bm', h1, h2, h3, h4⟩
  have l1 := hI'.l1
  have l2 := hI'.l2
  have l3 := hI'.l3
  have hs := hI'.below.size
  have hb' := below_frm hI'.below hs h2 l1 l2 l3
  have hne := row_ne hI'.lies hI'.row
  have e1 : w'.heap[b]? = wr.heap[b]? := (hb'.block b hb).trans (hI.below.block b hb).symm
  exact ⟨rfl, (World.cell?_of_block (a := ⟨b, o1, none⟩) e1).trans c1, (World.cell?_of_block (a := ⟨b, o2, none⟩) e1).trans c2, bh', bm', h1, hI'.row.keep (h2.block gg hI'.row.lt.2 hne.1 hne.2.1 hne.2.2), hb', by omega, by omega⟩

def OHead2 (w : World) (m : List E) (gg cap lenT : Nat) (a now i : Value) (wr : World) : Prop :=
  ∃ (j : Nat) (nw : Int) (out : List Int) (mc : List E) (bh bm : Nat), i = .int .i64 (j : Int) ∧ j ≤ lenT ∧ j ≤ 20 ∧ now = .int .i64 nw ∧ OwnI wr w.heap.size a out ∧ Lies wr w.heap.size bh bm mc ∧ Row 57 wr 0 gg cap m ∧ Below w.heap.size w wr ∧ w.heap.size ≤ bh ∧ w.heap.size ≤ bm ∧
    ((j = 0 ∧ out = [] ∧ mc = m) ∨ (0 < j ∧ due m nw = (out, mc)))
def OTail2 (w : World) (m : List E) (gg cap lenT : Nat) (a now : Value) (wr : World) : Prop :=
  ∃ (nw : Int) (out : List Int) (mc : List E) (bh bm : Nat), now = .int .i64 nw ∧ OwnI wr w.heap.size a out ∧ Lies wr w.heap.size bh bm mc ∧ Row 57 wr 0 gg cap m ∧ Below w.heap.size w wr ∧ w.heap.size ≤ bh ∧ w.heap.size ≤ bm ∧
    ((lenT = 0 ∧ out = [] ∧ mc = m) ∨ (0 < lenT ∧ due m nw = (out, mc)))

set_option maxHeartbeats 4000000 in
set_option maxRecDepth 100000 in
theorem once_walk (aA aT : Option Addr) (lenA capA lenT capT : Nat) (opsA : Nat → O) (ts : Nat → Int) (hlA : lenA ≤ maxLen) (hlT : lenT ≤ maxLen)
    (w : World) (hA : OpsIn w aA lenA opsA) (hT : ∀ j, j < lenT → ∃ b off, aT = some ⟨b, off, none⟩ ∧ b < w.heap.size ∧ w.cell? ⟨b, off + j, none⟩ = some (.int .i64 (ts j))) :
    Calls Try.prog 4 #[.slice aA lenA capA, .slice aT lenT capT] w fun e w' => e = .returned (.bool true) ∧ Below w.heap.size w w' := by
  have hlA : lenA ≤ 9223372036854775807 := hlA
  have hlT : lenT ≤ 9223372036854775807 := hlT
  have HA := Lib.hid hA
  have HT := Lib.hid hT
  clear hA hT
  have HI0 := Lib.hid (inv_new w)
  go_enter Try.func4, Try.ntmps4
  go_upto_block 0 with fail
  generalize (w.alloc (.cells #[.slice none 0 0, .map none] 27)).alloc (.cells #[] 57) = w0 at *
  have H0 : Hid (OHead1 w lenA (.slice (some ⟨w.heap.size + 1, 0, none⟩) 0 0) (.int .i64 0) w0) := ⟨0, _, 0, _, _, [], rfl, Nat.zero_le _, Nat.zero_le _, Nat.le_refl _, rfl, HI0.out⟩
  clear HI0
  go_cut [6] (fun s wx => OTail1 w s wx)
  case first =>
    go_wp2_with fail
    go_loopw [6, 7] (OHead1 w lenA) (fun _ i _ => lenA - (intOf i).toNat)
    case atStart => exact H0.out
    case round =>
      obtain ⟨j, gg, cap, bh, bm, m, rfl, hj, hj60, hml, rfl, hI⟩ := hrel
      by_cases hlt : j < lenA ∧ j < 60
      · obtain ⟨hlt, h60⟩ := hlt
        have d1 : decide (j < lenA) = true := by simp; omega
        have d2 : decide ((j : Int) < 60) = true := by simp; omega
        have j1 : (0 : Int) ≤ (j : Int) := by omega
        have j2 : (j : Int) < (lenA : Int) := by omega
        obtain ⟨b, off, rfl, hbw, hops⟩ : ∃ b off, aA = some ⟨b, off, none⟩ ∧ b < w.heap.size ∧ OpsAt w b off lenA opsA := HA.out.resolve_left (by omega)
        obtain ⟨_, c1, c2, hwf⟩ := (hops.keep (hI.below.block b hbw)) j hlt
        generalize opsA j = o at *
        obtain ⟨ok, x, y⟩ := o
        simp only at c1 c2 hwf
        clear hops
        have hset := once_set hI (by omega) hwf hbw c1 c2
        have hsl := setl_length m x y
        clear hI
        go_wp2_with fail
        go_region_held3 (fun w' => w'.cell? ⟨b, off + j * 3 + 1, none⟩ = some (.int .i64 x) ∧ w'.cell? ⟨b, off + j * 3 + 2, none⟩ = some (.int .i64 y)) (go_keep)
          (first | (go_at_call 10; refine (hset _ ?_).mono ?_; (exact (Below.refl _ _).drew); rintro e w1 ⟨rfl, e1, e2, HX⟩))
        have hrs : ∀ V : World, Below w1.heap.size w1 V → Calls Try.prog 11 #[.slice (some ⟨gg, 0, none⟩) m.length cap, .int .i64 x, .int .i64 y] V fun e w' =>
            ∃ g2 cap2, e = .returned (.slice (some ⟨g2, 0, none⟩) (setl m x y).length cap2) ∧ w'.cell? ⟨b, off + j * 3 + 1, none⟩ = some (.int .i64 x) ∧ w'.cell? ⟨b, off + j * 3 + 2, none⟩ = some (.int .i64 y) ∧ Hid (OHead1 w lenA (.slice (some ⟨g2, 0, none⟩) (setl m x y).length cap2) (.int .i64 ((j + 1 : Nat) : Int)) w') := by
          intro V hV
          obtain ⟨bh', bm', h1, h2, h3, h4, h5⟩ := HX.out
          refine (refSet_any V gg cap m x y (h2.keep (hV.block _ h2.lt.2)) (by omega)).mono ?_
          rintro e w' ⟨g2, cap2, rfl, r2, b2⟩
          have hb1 : Below w1.heap.size w1 w' := hV.trans (b2.mono hV.size)
          have hl := World.block_lt_of_cell? w1 _ e1
          exact ⟨g2, cap2, rfl, (World.cell?_of_block (a := ⟨b, off + j * 3 + 1, none⟩) (hb1.block b hl)).trans e1, (World.cell?_of_block (a := ⟨b, off + j * 3 + 2, none⟩) (hb1.block b hl)).trans e2,
            j + 1, g2, cap2, bh', bm', _, rfl, hlt, h60, by omega, rfl, h1.below hb1, r2.base (Nat.zero_le _), h3.trans (hb1.mono h3.size), Nat.le_refl _, h4, h5⟩
        clear hset c1 c2
        go_wp2_with fail
        go_region_held3 (fun w' => w'.cell? ⟨b, off + j * 3 + 1, none⟩ = some (.int .i64 x) ∧ w'.cell? ⟨b, off + j * 3 + 2, none⟩ = some (.int .i64 y)) (go_keep)
          (first | (go_at_call 11; refine (hrs _ ?_).mono ?_; (exact (Below.refl _ _).drew); rintro e w2 ⟨g2, cap2, rfl, f1, f2, HY⟩))
        clear hrs e1 e2 f1 f2 HX
        go_wp2_with fail
        exact ⟨HY.out, by simp [intOf]; omega⟩
      · have HTT : Hid (OTail1 w (.slice (some ⟨gg, 0, none⟩) m.length cap) wr) := ⟨gg, cap, bh, bm, m, by omega, rfl, hI⟩
        clear hI
        go_wp2_with fail
        all_goals
          go_meet
          exact HTT.out
  case rest =>
    clear H0
    obtain ⟨gg, cap, bh, bm, m, hm, rfl, hI⟩ := hcut
    have H2 : Hid (OHead2 w m gg cap lenT (.slice (some ⟨wc.heap.size, 0, none⟩) 0 0) (.int .i64 (-9223372036854775808)) (.int .i64 0) (wc.alloc (.cells #[] 3))) :=
      ⟨0, _, [], m, bh, bm, rfl, Nat.zero_le _, Nat.zero_le _, rfl, OwnI.made wc _ hI.below.size, hI.lies.below ((Below.refl _ _).alloc (Nat.le_refl _) _), hI.row.keep (Below.heap_alloc _ _ _ hI.row.lt.2), hI.below.alloc hI.below.size _, hI.l2, hI.l3, .inl ⟨rfl, rfl, rfl⟩⟩
    clear hI
    go_upto_block 2 with fail
    generalize wc.alloc (.cells #[] 3) = wd at *
    go_cut [8, 9] (fun a now wx => OTail2 w m gg cap lenT a now wx)
    case first =>
      go_wp2_with fail
      go_loopw [8, 9, 10] (OHead2 w m gg cap lenT) (fun _ _ i _ => lenT - (intOf i).toNat)
      case atStart => exact H2.out
      case round =>
        obtain ⟨j, nw, out, mc, bh, bm, rfl, hj, hj20, rfl, hv, hl, hr, hb, l2, l3, hor⟩ := hrel
        by_cases hlt : j < lenT ∧ j < 20
        · obtain ⟨hlt, h20⟩ := hlt
          have d1 : decide (j < lenT) = true := by simp; omega
          have d2 : decide ((j : Int) < 20) = true := by simp; omega
          have j1 : (0 : Int) ≤ (j : Int) := by omega
          have j2 : (j : Int) < (lenT : Int) := by omega
          obtain ⟨b, off, rfl, hbw, ct⟩ := HT.out j hlt
          have c0 : wr.cell? ⟨b, off + j, none⟩ = some (.int .i64 (ts j)) := (World.cell?_of_block (a := ⟨b, off + j, none⟩) (hb.block b hbw)).trans ct
          generalize ts j = t at *
          clear ct
          have HV := Lib.hid hv
          have HLI := Lib.hid hl
          have HR := Lib.hid hr
          have HB := Lib.hid hb
          have HOR := Lib.hid hor
          clear hv hl hr hb hor
          have hml : mc.length ≤ 60 ∧ out.length ≤ 60 := by
            rcases HOR.out with ⟨_, rfl, rfl⟩ | ⟨_, h⟩
            · exact ⟨hm, by simp⟩
            · have := due_length m.length m nw (Nat.le_refl _)
              rw [h] at this
              simp only at this
              omega
          obtain ⟨nx, hmx, hle⟩ : ∃ nx, (if nw < t then t else nw) = nx ∧ nw ≤ nx := ⟨_, rfl, by split <;> omega⟩
          have HD : Hid (due m nx = (out ++ (due mc nx).1, (due mc nx).2)) := by
            rcases HOR.out with ⟨_, rfl, rfl⟩ | ⟨_, h⟩
            · rfl
            · have := due_two m.length m nw nx (Nat.le_refl _) hle
              rw [h] at this
              exact this
          have hdl := due_length mc.length mc nx (Nat.le_refl _)
          have hd := due_any wr w.heap.size bh bm mc nx HLI.out (by omega)
          have hlt2 := HLI.out.lt
          have HNE := Lib.hid fun b e => ownI_ne (b := b) HLI.out HV.out e
          have HNR := Lib.hid (row_ne HLI.out HR.out)
          have hbs := HB.out.size
          clear hle HOR
          generalize due mc nx = q at *
          obtain ⟨l', mc'⟩ := q
          simp only at hdl
          go_wp2_with fail
          refine hd.mono ?_
          rintro e w2 ⟨v', rfl, hv', hl2, hf2⟩
          have hv2 : OwnI w2 w.heap.size u8 out := HV.out.keep fun b _ h2 h3 => by
            obtain ⟨k1, k2, k3⟩ := HNE.out b h3
            exact hf2.block b h2 k1 k2 k3
          have hr2 := HR.out.keep (hf2.block gg HR.out.lt.2 HNR.out.1 HNR.out.2.1 HNR.out.2.2)
          have hb2 := below_frm HB.out hbs hf2 (Nat.le_refl _) l2 l3
          have hs2 := hb2.size
          have HNE2 := Lib.hid fun b e => ownI_ne (b := b) hl2 hv2 e
          have HNV2 := Lib.hid (OwnI.ne hv2 hr2)
          have HOW := Lib.hid fun k hk => (World.ownsRow.lt hv2 k hk).1
          have HL2 := Lib.hid hl2
          have HR2 := Lib.hid hr2
          have HB2 := Lib.hid hb2
          clear hd hl2 hf2 hr2 hb2 HV HR HB HLI HNE HNR hlt2 hbs
          go_wp2_with (at_builtin; refine wpList_appL (by rfl) (.tmp 67) (.tmp 70) (by rfl) w.heap.size wr.heap.size u8 v' out l' (by rfl) hv2 (by rfl) hv' (by omega) hs2 ?_)
          intro a3 w3 hv3 hg
          have hk : ∀ b, b < w2.heap.size → u8.ownBlock ≠ some b → w3.heap[b]? = w2.heap[b]? := fun b h1 h2 => hg.block b h1 (fun e => h2 e.symm)
          have ll := HL2.out.lt
          have hl3 : Lies w3 w.heap.size bh bm mc' := HL2.out.keep (hk _ ll.1 (fun e => (HNE2.out _ e).1 rfl)) (hk _ ll.2.1 (fun e => (HNE2.out _ e).2.1 rfl)) (hk _ ll.2.2 (fun e => (HNE2.out _ e).2.2 rfl))
          have hr3 := HR2.out.keep (hk gg HR2.out.lt.2 HNV2.out)
          have hb3 := HB2.out.grown hg hs2 (fun k e => HOW.out k e)
          have HTT : Hid (OHead2 w m gg cap lenT a3 (.int .i64 nx) (.int .i64 ((j + 1 : Nat) : Int)) w3) :=
            ⟨j + 1, nx, out ++ l', mc', bh, bm, rfl, hlt, h20, rfl, hv3, hl3, hr3, hb3, l2, l3, .inr ⟨by omega, HD.out⟩⟩
          clear hv2 hv' hv3 hg hk hl3 hr3 hb3 HNE2 HNV2 HOW HL2 HR2 HB2 c0 hmx
          go_wp2_with fail
          exact ⟨HTT.out, by simp [intOf]; omega⟩
        · have HTT : Hid (OTail2 w m gg cap lenT u8 (.int .i64 nw) wr) := by
            refine ⟨nw, out, mc, bh, bm, rfl, hv, hl, hr, hb, l2, l3, ?_⟩
            rcases hor with ⟨h1, h2⟩ | ⟨h1, h2⟩
            · exact .inl ⟨by omega, h2⟩
            · exact .inr ⟨by omega, h2⟩
          clear hv hl hr hb hor
          go_wp2_with fail
          all_goals
            go_meet
            exact HTT.out
    case rest =>
      clear H2
      obtain ⟨nw, out, mc, bh2, bm2, rfl, hv, hl, hr, hb, l2, l3, hor⟩ := hcut
      have hrd := refDue_any wc gg cap m nw hr (by omega)
      have hml : mc.length ≤ 60 ∧ out.length ≤ 60 := by
        rcases hor with ⟨_, rfl, rfl⟩ | ⟨_, h⟩
        · exact ⟨hm, by simp⟩
        · have := due_length m.length m nw (Nat.le_refl _)
          rw [h] at this
          simp only at this
          omega
      have HV := Lib.hid hv
      have HL := Lib.hid hl
      have HB := Lib.hid hb
      clear hv hl hr hb HA HT
      by_cases h0 : lenT = 0
      · subst h0
        obtain ⟨rfl, rfl⟩ : out = [] ∧ mc = m := by
          rcases hor with ⟨_, h1, h2⟩ | ⟨h1, _⟩
          · exact ⟨h1, h2⟩
          · omega
        clear hor
        go_wp2_with fail
        refine hrd.mono ?_
        rintro e w1 ⟨v, g1, cap1, rfl, v1, r1, b1⟩
        have bA := b1.alloc b1.size (.cells #[] 3)
        have hvA : OwnI (w1.alloc (.cells #[] 3)) w.heap.size u8 [] := HV.out.keep fun b _ h2 _ => bA.block b h2
        have hlA2 := HL.out.below bA
        have hmk := OwnI.made w1 0 (Nat.zero_le _)
        have hsm := fun V : World => fun (h : V.heap = (w1.alloc (.cells #[] 3)).heap) => same_any V _ _ u8 (.slice (some ⟨w1.heap.size, 0, none⟩) 0 0) [] (by simp) (hvA.keep fun _ _ _ _ => by rw [h]) (hmk.keep fun _ _ _ _ => by rw [h])
        have hln := fun n => len_any ((w1.alloc (.cells #[] 3)).drewN n) _ _ _ _ (hlA2.drewN n)
        have HB2 := Lib.hid (HB.out.trans (bA.mono HB.out.size))
        clear hrd v1 r1 b1 bA hvA hlA2 hmk HV HL HB
        go_wp2_with fail
        refine (hsm _ rfl).mono ?_
        rintro e w3 ⟨rfl, n, rfl⟩
        clear hsm
        go_wp2_with fail
        refine (hln n).mono ?_
        rintro e w4 ⟨rfl, rfl⟩
        clear hln
        go_wp2_with fail
        refine (lives_any _).mono ?_
        rintro e w8 ⟨rfl, hb8⟩
        have HB8 : Hid (Below w.heap.size w w8) := (below_drewN HB2.out _).trans (hb8.mono HB2.out.size)
        clear hb8
        go_wp2_with fail
        go_ret
        exact ⟨rfl, HB8.out⟩
      · have hdm : due m nw = (out, mc) := by
          rcases hor with ⟨h1, _⟩ | ⟨_, h⟩
          · exact absurd h1 h0
          · exact h
        unfold RDue at hrd
        rw [hdm] at hrd
        simp only at hrd
        have e0 : ((lenT : Int) == 0) = false := by simp; omega
        clear hor hdm
        go_wp2_with fail
        refine hrd.mono ?_
        rintro e w1 ⟨v, g1, cap1, rfl, v1, r1, b1⟩
        have hvA : OwnI w1 w.heap.size u8 out := HV.out.keep fun b _ h2 _ => b1.block b h2
        have hlA2 := HL.out.below b1
        have hsm := same_any w1 _ _ u8 v out (by omega) hvA v1
        have hln := fun n => len_any (w1.drewN n) _ _ _ _ (hlA2.drewN n)
        have HB2 := Lib.hid (HB.out.trans (b1.mono HB.out.size))
        clear hrd v1 r1 b1 hvA hlA2 HV HL HB
        go_wp2_with fail
        refine hsm.mono ?_
        rintro e w3 ⟨rfl, n, rfl⟩
        clear hsm
        go_wp2_with fail
        refine (hln n).mono ?_
        rintro e w4 ⟨rfl, rfl⟩
        clear hln
        go_wp2_with fail
        refine (lives_any _).mono ?_
        rintro e w8 ⟨rfl, hb8⟩
        have HB8 : Hid (Below w.heap.size w w8) := (below_drewN HB2.out _).trans (hb8.mono HB2.out.size)
        clear hb8
        go_wp2_with fail
        go_ret
        exact ⟨rfl, HB8.out⟩
end Go.Proofs.Ytfhkaedpbandiaa.timer
