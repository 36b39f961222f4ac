/-
  Texts of one claim in one file: ESpec, EKeeps, Shut, EClose, DOps, EOps. Each has its own sentence, with its conditions.
-/
import Derived.Test.YtfkcmdnnmnkklaaDoorEall14
import Derived.Test.YtfkcmdnnmnkklaaDoorEall15
import Derived.Test.YtfkcmdnnmnkklaaDoorEall16
import Derived.WalkLawsBesides
import Derived.Test.YtfkcmdnnmnkklaaDoorRows
import Derived.OpenShut
import Derived.Below
import Derived.ChangeSame
import Derived.ChangeArms
import Derived.Carry
import Derived.ProofKit
import Derived.WideKeyArgs
import Derived.WideShapes
import Derived.LaidMore
import Derived.Lib.LaidTab
import Derived.Test.YtfkcmdnnmnkklaaDoorEall6
import Derived.Stop.Joined
import Derived.Stop.LaidErr
import Derived.Test.YtfkcmdnnmnkklaaDoorEall4
import Derived.Deep.Slices
/-
  What the program's calls on waits must come to, as one bundle, so that the statements can be walked whatever the program's own text is; and the common end of all statements. No condition but that bundle.
-/
namespace Go.Proofs.YtfkcmdnnmnkklaaDoor.need
open Go.RowKit Go.ChangeShapes
open Go.Proofs.YtfkcmdnnmnkklaaDoor.objs (De zero DAt chk I64)
set_option linter.unusedVariables false

/-- A wait of at most six ways, each of at most six needs, of ints. -/
def Fine (l : List (List De)) : Prop := l.length ≤ 6 ∧ ∀ x ∈ l, x.length ≤ 6 ∧ ∀ t ∈ x, Small t
def TextPost9 (l : List (List De)) (w : World) (e : Ending) (w' : World) : Prop := e = .returned (.string ⟨(textW l).toArray⟩) ∧ Below w.heap.size w w'
def ObjsPost9 (l : List (List De)) (k : Int) (w : World) (e : Ending) (w' : World) : Prop := e = .returned (.int .u64 ((objects l k : Nat) : Int)) ∧ Below w.heap.size w w'
/-- The program's calls come to what the document says, while Ok holds of the world, which nothing that makes memory breaks. -/
structure Keeps (Ok : World → Prop) : Prop where
  mono : ∀ W W' : World, Ok W → Below W.heap.size W W' → Ok W'
  check : ∀ (A B : Option Addr) (cd cw : Nat) (d : List De) (l : List (List De)) (W : World), (chk d).2 = 0 → Fine l → DAt W A d → WAt W B l → Ok W → Calls Tryd.prog 15 #[.slice A d.length cd, .slice B l.length cw] W (ChkPost9 (chkW d l) W)
  put : ∀ (A B : Option Addr) (cd cw : Nat) (d : List De) (l : List (List De)) (W : World), (chk d).2 = 0 → Fine l → DAt W A d → WAt W B l → Ok W → Calls Tryd.prog 13 #[.slice A d.length cd, .slice B l.length cw] W (PutPost9 d l W)
  get : ∀ (A : Option Addr) (cd : Nat) (d : List De) (t : ByteArray) (W : World), (chk d).2 = 0 → t.size ≤ 140737488355328 → DAt W A d → Ok W → Calls Tryd.prog 17 #[.slice A d.length cd, .string t] W (GotPost9 (getW d t.data.toList) W)
  text : ∀ (B : Option Addr) (cw : Nat) (l : List (List De)) (W : World), Fine l → WAt W B l → Ok W → Calls Tryd.prog 20 #[.slice B l.length cw] W (TextPost9 l W)
  objs : ∀ (B : Option Addr) (cw : Nat) (l : List (List De)) (k : Int) (W : World), Fine l → I64 k → WAt W B l → Ok W → Calls Tryd.prog 22 #[.slice B l.length cw, .int .i64 k] W (ObjsPost9 l k W)

def dL : List De := [(1, 0, 0), (3, 0, 2)]
def wL : List (List De) := [[(1, 0, 0)], [(4, 1, 2)]]
theorem chk_dL : (chk dL).2 = 0 := by decide +kernel
theorem chkW_wL : chkW dL wL = 0 := by decide +kernel
theorem chkW_nil : chkW dL [] = 2 := by decide +kernel
theorem putW_wL : putW dL wL = [2, 1, 1, 0, 1, 4, 1, 2] := by unfold putW; rw [if_pos chkW_wL]; decide +kernel
theorem getW_wL : getW dL [2, 1, 1, 0, 1, 4, 1, 2] = (wL, 8, 0) := by decide +kernel
theorem textW_wL : textW wL = [108, 111, 99, 107, 32, 48, 32, 124, 32, 100, 111, 119, 110, 32, 49, 58, 50] := by
  have h0 : intT 0 = [48] := by unfold intT; rw [if_neg (by decide), show (0 : Int).toNat = 0 from rfl, digs_small (by decide)]; rfl
  have h1 : intT 1 = [49] := by unfold intT; rw [if_neg (by decide), show (1 : Int).toNat = 1 from rfl, digs_small (by decide)]; rfl
  have h2 : intT 2 = [50] := by unfold intT; rw [if_neg (by decide), show (2 : Int).toNat = 2 from rfl, digs_small (by decide)]; rfl
  have e1 : needT (1, 0, 0) = [108, 111, 99, 107, 32, 48] := by unfold needT tailT; dsimp only; rw [h0]; rfl
  have e2 : needT (4, 1, 2) = [100, 111, 119, 110, 32, 49, 58, 50] := by unfold needT tailT; dsimp only; rw [h1, h2]; rfl
  have e3 : needsT [(1, 0, 0)] 1 = [108, 111, 99, 107, 32, 48] := by show needsT [(1, 0, 0)] 0 ++ _ ++ needT (1, 0, 0) = _; rw [e1]; rfl
  have e4 : needsT [(4, 1, 2)] 1 = [100, 111, 119, 110, 32, 49, 58, 50] := by show needsT [(4, 1, 2)] 0 ++ _ ++ needT (4, 1, 2) = _; rw [e2]; rfl
  show (([] ++ [] ++ needsT [(1, 0, 0)] 1) ++ [32, 124, 32] ++ needsT [(4, 1, 2)] 1) = _
  rw [e3, e4]
  rfl
theorem fine_wL : Fine wL := by
  refine ⟨by decide, fun x hx => ?_⟩
  have hx2 : x = [(1, 0, 0)] ∨ x = [(4, 1, 2)] := by simpa [wL] using hx
  rcases hx2 with rfl | rfl
  · refine ⟨by decide, fun t ht => ?_⟩
    rw [List.mem_singleton.1 ht]
    unfold Small
    decide
  · refine ⟨by decide, fun t ht => ?_⟩
    rw [List.mem_singleton.1 ht]
    unfold Small
    decide
theorem fine_nil : Fine [] := ⟨by decide, fun x hx => by cases hx⟩
def twoBox9 : Obj := .cells #[.int .i64 1, .int .i64 0, .int .i64 0, .int .i64 3, .int .i64 0, .int .i64 2] 57
theorem two9 {w : World} {g : Nat} (h : w.heap[g]? = some twoBox9) : DAt w (some ⟨g, 0, none⟩) dL := fun j hj => by
  have hj2 : j < 2 := hj
  refine ⟨g, 0, rfl, lt_of_block h, ?_⟩
  unfold Go.Proofs.YtfkcmdnnmnkklaaDoor.objs.CellsAt World.cell?
  rw [h]
  match j, hj2 with
  | 0, _ => exact ⟨rfl, rfl, rfl⟩
  | 1, _ => exact ⟨rfl, rfl, rfl⟩
def outBox (a b : Nat) : Obj := .cells #[.slice (some ⟨a, 0, none⟩) 1 1, .slice (some ⟨b, 0, none⟩) 1 1] 60
/-- The wait that lives makes. -/
def wOf (W : World) : World := ((W.alloc (needBox 1 0 0)).alloc (needBox 4 1 2)).alloc (outBox W.heap.size (W.heap.size + 1))
theorem wOf_below (W : World) : Below W.heap.size W (wOf W) := ((((Below.refl _ W).alloc (Nat.le_refl _) _).alloc (by rw [World.size_alloc]; omega) _).alloc (by rw [World.size_alloc, World.size_alloc]; omega) _)
theorem wOf_at (W : World) : WAt (wOf W) (some ⟨W.heap.size + 1 + 1, 0, none⟩) wL := by
  have z1 : (W.alloc (needBox 1 0 0)).heap.size = W.heap.size + 1 := World.size_alloc W _
  have z2 : ((W.alloc (needBox 1 0 0)).alloc (needBox 4 1 2)).heap.size = W.heap.size + 1 + 1 := by rw [World.size_alloc, z1]
  have b0 : (wOf W).heap[W.heap.size]? = some (needBox 1 0 0) := (Below.heap_alloc _ _ _ (by omega)).trans ((Below.heap_alloc _ _ _ (by omega)).trans (heap_alloc_new W _))
  have b1 : (wOf W).heap[W.heap.size + 1]? = some (needBox 4 1 2) := (Below.heap_alloc _ _ _ (by omega)).trans (by rw [← z1]; exact heap_alloc_new _ _)
  have b2 : (wOf W).heap[W.heap.size + 1 + 1]? = some (outBox W.heap.size (W.heap.size + 1)) := by rw [← z2]; exact heap_alloc_new _ _
  intro j hj
  have hj2 : j < 2 := hj
  match j, hj2 with
  | 0, _ => exact ⟨_, 0, _, 1, rfl, lt_of_block b2, by unfold World.cell?; rw [b2]; rfl, DAt.oneN (d := (1, 0, 0)) b0⟩
  | 1, _ => exact ⟨_, 0, _, 1, rfl, lt_of_block b2, by unfold World.cell?; rw [b2]; rfl, DAt.oneN (d := (4, 1, 2)) b1⟩

set_option maxRecDepth 100000 in
set_option maxHeartbeats 4000000 in
theorem lives_any {Ok : World → Prop} (K : Keeps Ok) (w : World) (hw : Ok w) : Calls Tryd.prog 10 #[] w fun e w' => e = .returned (.bool true) ∧ Below w.heap.size w w' := by
  have hb0 : Below w.heap.size w (w.alloc twoBox9) := (Below.refl _ w).alloc (Nat.le_refl _) _
  have hd0 : DAt (w.alloc twoBox9) (some ⟨w.heap.size, 0, none⟩) dL := two9 (heap_alloc_new w _)
  have hb1 := wOf_below (w.alloc twoBox9)
  have hd1 := hd0.next hb1
  have hw1 := wOf_at (w.alloc twoBox9)
  have hz : (w.alloc twoBox9).heap.size = w.heap.size + 1 := World.size_alloc w _
  unfold wOf at hb1 hd1 hw1
  rw [hz] at hb1 hd1 hw1
  have HB1 := Lib.hid (hb0.trans (hb1.mono (Nat.le_succ w.heap.size)))
  have HD1 := Lib.hid hd1
  have HW1 := Lib.hid hw1
  have HP := fun W h1 h2 h3 => Lib.hid (K.put (some ⟨w.heap.size, 0, none⟩) (some ⟨w.heap.size + 1 + 1 + 1, 0, none⟩) 2 2 dL wL W chk_dL fine_wL h1 h2 h3)
  unfold PutPost9 at HP
  rw [putW_wL, chkW_wL] at HP
  have HG := fun W h1 h2 => Lib.hid (K.get (some ⟨w.heap.size, 0, none⟩) 2 dL ⟨#[2, 1, 1, 0, 1, 4, 1, 2]⟩ W chk_dL (by decide) h1 h2)
  rw [show (⟨#[2, 1, 1, 0, 1, 4, 1, 2]⟩ : ByteArray).data.toList = [2, 1, 1, 0, 1, 4, 1, 2] from rfl, getW_wL] at HG
  unfold GotPost9 at HG
  have HSm := fun A ca W h1 h2 => Lib.hid (refSame9_any A (some ⟨w.heap.size + 1 + 1 + 1, 0, none⟩) ca 2 wL wL (by decide) (by decide) (fun x hx => (fine_wL.2 x hx).1) (fun x hx => (fine_wL.2 x hx).1) W h1 h2)
  unfold SamePost at HSm
  rw [decide_eq_true rfl] at HSm
  have HT := fun W h1 h2 => Lib.hid (K.text (some ⟨w.heap.size + 1 + 1 + 1, 0, none⟩) 2 wL W fine_wL h1 h2)
  unfold TextPost9 at HT
  rw [textW_wL] at HT
  have HC := fun W h1 h2 => Lib.hid (K.check (some ⟨w.heap.size, 0, none⟩) none 2 0 dL [] W chk_dL fine_nil h1 (WAt.nil _ _) h2)
  unfold ChkPost9 at HC
  rw [chkW_nil] at HC
  have HM := Lib.hid K.mono
  have HK := Lib.hid hw
  clear K hw hb0 hd0 hb1 hd1 hw1 hz
  go_enter Tryd.func10, Tryd.ntmps10
  unfold twoBox9 needBox outBox at HB1 HD1 HW1
  go_wp2_with fail
  refine (HP _ HD1.out HW1.out (HM.out _ _ HK.out HB1.out)).out.mono ?_
  rintro e w1 ⟨rfl, hb1⟩
  have HB2 := Lib.hid (HB1.out.trans (hb1.mono HB1.out.size))
  have HD2 := Lib.hid (HD1.out.next hb1)
  have HW2 := Lib.hid (HW1.out.next hb1)
  clear hb1 HB1 HD1 HW1 HP
  go_wp2_with fail
  refine (HG _ HD2.out (HM.out _ _ HK.out HB2.out)).out.mono ?_
  rintro e w2 ⟨v, rfl, ⟨B, cb, rfl, hB⟩, hb2⟩
  have HB3 := Lib.hid (HB2.out.trans (hb2.mono HB2.out.size))
  have HD3 := Lib.hid (HD2.out.next hb2)
  have HW3 := Lib.hid (HW2.out.next hb2)
  have HS3 := HSm B cb w2 hB HW3.out
  clear hb2 hB HB2 HD2 HW2 HG HSm
  go_wp2_with fail
  refine HS3.out.mono ?_
  rintro e w3 ⟨rfl, hb3⟩
  have HB4 := Lib.hid (HB3.out.trans (hb3.mono HB3.out.size))
  have HD4 := Lib.hid (HD3.out.next hb3)
  have HW4 := Lib.hid (HW3.out.next hb3)
  clear hb3 HB3 HD3 HW3 HS3
  go_wp2_with fail
  refine (HT _ HW4.out (HM.out _ _ HK.out HB4.out)).out.mono ?_
  rintro e w4 ⟨rfl, hb4⟩
  have HB5 := Lib.hid (HB4.out.trans (hb4.mono HB4.out.size))
  have HD5 := Lib.hid (HD4.out.next hb4)
  clear hb4 HB4 HD4 HW4 HT
  go_wp2_with fail
  refine (HC _ HD5.out (HM.out _ _ HK.out HB5.out)).out.mono ?_
  rintro e w5 ⟨rfl, hb5⟩
  have HB6 := Lib.hid (HB5.out.trans (hb5.mono HB5.out.size))
  clear hb5 HB5 HD5 HC
  go_wp2
  go_ret
  exact ⟨rfl, HB6.out⟩
end Go.Proofs.YtfkcmdnnmnkklaaDoor.need

/-
  The bundle over which need's five laws are walked (typed over the code of 4b95722). The tables must lie where their initialisers lay them; texts of at most two to the forty-seventh bytes.
-/
namespace Go.Proofs.YtfkcmdnnmnkklaaDoor.need
open Go.RowKit Go.ChangeShapes
open Go.Proofs.YtfkcmdnnmnkklaaDoor.objs (De zero DAt chk chk_zero I64)
set_option linter.unusedVariables false

theorem keeps : Keeps Oke where
  mono := fun W W' h hb => h.next hb
  check := fun A B cd cw d l W hd _ hA hB h => check_any A B cd cw d l (by have := (chk_zero hd).1; omega) W hA hB h.oka
  put := fun A B cd cw d l W hd _ hA hB h => put_any A B cd cw d l hd W hA hB h.oka
  get := fun A cd d t W hd ht hA h => get_any A cd d hd t W ht hA h.oka
  text := fun B cw l W hf hB h => text_any B cw l hf.1 hf.2 W hB h
  objs := fun B cw l k W hf _ hB _ => objs_any B cw l k hf.1 (fun x hx => (hf.2 x hx).1) W hB
end Go.Proofs.YtfkcmdnnmnkklaaDoor.need

/-
  The last step of each statement: below the blocks that were there nothing has turned, so the arguments read as they did. No condition.
-/
namespace Go.Proofs.YtfkcmdnnmnkklaaDoor.shut
open Go.ChangeShapes Go.WideShapes Go.RowKit
set_option linter.unusedVariables false

theorem laidOut : laidOutB Tryd.prog = true := by kernel_rfl
theorem own : ownKnob Tryd.prog.godebug = none := by kernel_rfl

section
variable {H : Type} {enc : TypeId × Value → H} {P : Program}
/-- What 'post' asks, where of the call's world only this is known: below the old size no block has turned. -/
theorem post_below {f : Func} {s : ChangeSpec} {apart fresh handsOn again : Bool} {W W' : World} {args : Array Value} {v : Value} {ds gs : List (DataW H)} {before pa pv : List MemPlace}
    (hW : DataW.Whole enc P f.params.toList s.vars apart W args.toList ds gs before)
    (hres : ∀ (b : Nat) (sp : Nat → Bool) (hd : Bool), DataW.TrodAll enc P W' b sp hd f.resultTypes.toList (v.resultList f.resultTypes.size) (s.fn H (ds ++ gs)).results [])
    (hargs : ∀ sp : Nat → Bool, (∀ p ∈ before, sp p.block = true) → DataW.TrodAll enc P W' 0 sp true f.params.toList args.toList (s.fn H (ds ++ gs)).args pa)
    (hvars : ∀ sp : Nat → Bool, (∀ p ∈ before, sp p.block = true) → DataW.TrodVars enc P W' sp s.vars (s.fn H (ds ++ gs)).vars pv)
    (hps : before = pa ++ pv) (hb : Below W.heap.size W W')
    (hok : ∀ (j : Nat) (t : TypeId) (r : Value), f.resultTypes[j]? = some t → (v.resultList f.resultTypes.size)[j]? = some r → Value.okWide P W' .any 0 t r) :
    s.post enc P f apart fresh handsOn again W args v W' := by
  have hlt : ∀ p ∈ before, p.block < W.heap.size := fun p hp => hW.lt p hp
  have hold : ∀ p ∈ before, (fun b => decide (b < W.heap.size)) p.block = true := fun p hp => by simpa using hlt p hp
  refine ⟨ds, gs, before, [], pa, pv, hW, hres _ _ _, hargs _ hold, hvars _ hold, World.keptBut_mono (fun p hp => ⟨hp, ?_⟩) (hb.frame (· ∈ before)), fun _ => ?_⟩
  · rw [hps, List.mem_append] at hp
    exact Or.inr hp
  · obtain ⟨_, _, _, _, _, hz, hn⟩ := hW
    refine ⟨hok, _, _, ([] ++ pa) ++ pv, ⟨[] ++ pa, pv, trodAll_append (hargs _ (fun _ _ => rfl)) (hres _ _ _), hvars _ (fun _ _ => rfl), rfl, ?_, ?_⟩, ?_⟩
    · intro b off hp
      have hin : MemPlace.cell b off ∈ before := by rw [hps]; simpa using hp
      rw [hb.frozen (hlt _ hin)]
      exact hz b off hin
    · intro ha
      have := hn ha
      rw [hps] at this
      simpa using this
    · intro p hp _
      rw [hps]
      simpa using hp
end
/-- AN ARRAY OF TEXTS THAT READS AS A LIST HOLDS THESE TEXTS, CELL FOR CELL. -/
theorem cells_of_texts {H : Type} {enc : TypeId × Value → H} {P : Program} {w : World} {base : Nat} {sp : Nat → Bool} {held : Bool} {fuel : Nat} {t e : TypeId} {n : Nat} {cs : List Value} {zs : List ByteArray} {p : List MemPlace}
    (ht : P.underlying t = some (.array n e)) (he : P.underlying e = some .string) (hce : P.cellsOf e = 1) (hct : P.cellsOf t = n)
    (h : DataW.trod enc P w base sp held fuel t cs = some (.agg (zs.map fun z => .lit (.string z.data.toList)), p)) : cs = zs.map fun z => Value.string z := by
  cases fuel with
  | zero => simp [DataW.trod] at h
  | succ fuel =>
    simp only [DataW.trod, ht, hce, hct, Nat.mul_one] at h
    split at h
    · rename_i hl
      obtain ⟨xs, hm, hx⟩ := Option.map_eq_some_iff.1 h
      have hxs : xs.map (·.1) = zs.map fun z => (DataW.lit (.string z.data.toList) : DataW H) := by
        have := congrArg Prod.fst hx
        simpa using this
      have hxl : xs.length = n := by simpa using Lib.mapM_length hm
      have hzl : zs.length = n := by
        have := congrArg List.length hxs
        simp at this
        omega
      apply List.ext_getElem?
      intro i
      by_cases hi : i < n
      · obtain ⟨b, hb, hf⟩ := Lib.mapM_at hm i i (by simp [hi])
        obtain ⟨z, hc, rfl, _⟩ := DataW.trod_string he hf
        have h1 : cs[i]? = some (.string z) := by
          have := congrArg (·[0]?) hc
          simpa [List.getElem?_take, List.getElem?_drop] using this
        have h2 : (xs.map (·.1))[i]? = some (DataW.lit (.string z.data.toList) : DataW H) := by simp [hb]
        rw [hxs] at h2
        simp only [List.getElem?_map, Option.map_eq_some_iff, DataW.lit.injEq, Lit.string.injEq] at h2
        obtain ⟨z', hz', he'⟩ := h2
        rw [h1, List.getElem?_map, hz', Option.map_some, bytes_inj he']
      · rw [List.getElem?_eq_none (by omega), List.getElem?_eq_none (by simp; omega)]
    · cases h

end Go.Proofs.YtfkcmdnnmnkklaaDoor.shut

/-
  What a row's condition on the tables of needs gives, and that the door's own heap meets it. No condition.
-/
namespace Go.Proofs.YtfkcmdnnmnkklaaDoor.need
open Go.RowKit Go.WideShapes Go.ChangeShapes
open Go.Proofs.YtfkcmdnnmnkklaaDoor.shut (cells_of_texts)
set_option linter.unusedVariables false

/-- The tables that each of these rows lists. -/
def laidE : List (String × DataW Unit) := [("math/bits.deBruijn32tab", Rows.laid_math_bits_deBruijn32tab), ("math/bits.deBruijn64tab", Rows.laid_math_bits_deBruijn64tab), ("internal/strconv.uint64pow10", Rows.laid_internal_strconv_uint64pow10), ("logjam/need.names", Rows.laid_logjam_need_names), ("logjam/need.asked", Rows.laid_logjam_need_asked)]
theorem laid_namesE : (Rows.laid_logjam_need_names : DataW Unit) = .agg (namesE.map fun z => .lit (.string z.data.toList)) := rfl
theorem gNamesE : Tryd.prog.globalNamed "logjam/need.names" = some 0 := by kernel_rfl
theorem gNamesEType : (Tryd.prog.globals[0]?).map (·.type) = some 120 := by kernel_rfl
theorem namesECells : Tryd.prog.cellsOf 120 = 6 := by kernel_rfl
theorem textCellsE : Tryd.prog.cellsOf 9 = 1 := by kernel_rfl
theorem gAskedE : Tryd.prog.globalNamed "logjam/need.asked" = some 1 := by kernel_rfl
theorem gAskedEType : (Tryd.prog.globals[1]?).map (·.type) = some 143 := by kernel_rfl
theorem askedECells : Tryd.prog.cellsOf 143 = 6 := by kernel_rfl
theorem intCellsE : Tryd.prog.cellsOf 3 = 1 := by kernel_rfl
theorem gPowType : (Tryd.prog.globals[3]?).map (·.type) = some 184 := by kernel_rfl
theorem powCells : Tryd.prog.cellsOf 184 = 20 := by kernel_rfl
theorem u64Cells : Tryd.prog.cellsOf 42 = 1 := by kernel_rfl
theorem lt_of_cell {W : World} {g : Nat} {v : Value} (h : W.cell? ⟨g, 0, none⟩ = some v) : g < W.heap.size := by
  rcases Nat.lt_or_ge g W.heap.size with h1 | h1
  · exact h1
  · simp [World.cell?, Array.getElem?_eq_none h1] at h
theorem names_of_head {W : World} {rest : List (String × DataW Unit)} (h : laidMet Tryd.prog (("logjam/need.names", Rows.laid_logjam_need_names) :: rest) W) : ∀ j, j < 6 → W.cell? ⟨0, j, none⟩ = some (.string (namesE.getD j ⟨#[]⟩)) := by
  obtain ⟨ps, ⟨g', t', cs, fuel, p, q, hg', ht', hvar, hd, _, _⟩, _⟩ := h
  obtain rfl := Option.some.inj (gNamesE.symm.trans hg')
  obtain rfl := Option.some.inj (gNamesEType.symm.trans ht')
  rw [laid_namesE] at hd
  have hcs := cells_of_texts Tryd.underlying120 Tryd.underlying9 textCellsE namesECells hd
  intro j hj
  have h1 := World.var?_cell gNamesE hvar j
  have hj' : j < namesE.length := hj
  rw [h1, ← Array.getElem?_toList, hcs, List.getElem?_map, List.getElem?_eq_getElem hj', Option.map_some, List.getD_eq_getElem?_getD, List.getElem?_eq_getElem hj', Option.getD_some]
theorem asked_of_head {W : World} {rest : List (String × DataW Unit)} (h : laidMet Tryd.prog (("logjam/need.asked", Rows.laid_logjam_need_asked) :: rest) W) : ∀ j, j < 6 → W.cell? ⟨1, j, none⟩ = some (.int .i64 (askedE.getD j 0)) := by
  have hT : Lib.TabIs Tryd.prog W "logjam/need.asked" .i64 askedE :=
    Lib.tabIs_of_head gAskedE gAskedEType Tryd.underlying143 Tryd.underlying3 intCellsE askedECells (zs := askedE) h
  intro j hj
  exact hT.cell gAskedE j hj
theorem pow_of_head {W : World} {rest : List (String × DataW Unit)} (h : laidMet Tryd.prog (("internal/strconv.uint64pow10", Rows.laid_internal_strconv_uint64pow10) :: rest) W) : Lib.TabIs Tryd.prog W "internal/strconv.uint64pow10" .u64 Lib.pow10Tab :=
  Lib.tabIs_of_head gPow gPowType Tryd.underlying184 Tryd.underlying42 u64Cells powCells (zs := Lib.pow10Tab) h
theorem of_laidE {W : World} (h : laidMetH Tryd.prog laidE W) : Oke W := by
  rw [MakeChecks.laidMetH_plain _ _ _ (by kernel_rfl)] at h
  have h3 := laidMet.tail (laidMet.tail h)
  have h4 := laidMet.tail h3
  have h5 := laidMet.tail h4
  have hp := pow_of_head h3
  have hn := names_of_head h4
  have ha := asked_of_head h5
  exact ⟨⟨hn, hp⟩, ⟨ha, lt_of_cell (ha 0 (by omega))⟩, lt_of_cell (hn 0 (by omega)), lt_of_cell (hp.cell gPow 0 (by decide))⟩

/-- The door's own heap meets the condition: three closed facts. -/
theorem door_metE (os : Go.Os) (args : Array Value) : laidMetH Tryd.prog laidE ((World.doorLaid Tryd.prog 44 os).forCall (fun _ _ => 0) ⟨#[], args, []⟩).memory :=
  laidMetH_of_parts3 (fuel := 8) (laidMet_of_run' 8 (by kernel_rfl) (by kernel_rfl)) (by kernel_rfl) (by kernel_rfl)
end Go.Proofs.YtfkcmdnnmnkklaaDoor.need

/-
  A list of objects that came in, as it lies in memory. No condition.
-/
namespace Go.Proofs.YtfkcmdnnmnkklaaDoor.objs
open Go.ChangeShapes Go.WideShapes Go.RowKit
set_option linter.unusedVariables false

theorem cells3i : Tryd.prog.cellsOf 3 = 1 := by kernel_rfl
theorem cellsDecl : Tryd.prog.cellsOf 57 = 3 := by kernel_rfl
theorem add_plain (b off i : Nat) : (⟨b, off, none⟩ : Addr).add i = ⟨b, off + i, none⟩ := Addr.add_lit ..
theorem i64_of {a : Int} (h : (Lit.int .i64 a).wf = true) : I64 a := by
  have hx : -9223372036854775808 ≤ a ∧ a ≤ 9223372036854775807 := by simpa [Lit.wf, IntKind.min, IntKind.max, IntKind.signed, IntKind.bits] using h
  exact hx

section
variable {H : Type} {enc : TypeId × Value → H} {w : World} {base : Nat} {spare : Nat → Bool} {held : Bool}

set_option maxRecDepth 100000 in
/-- One object, out of its three cells. -/
theorem one_decl {n : Nat} {cs : List Value} {y : DataW H × List MemPlace} (h : DataW.trod enc Tryd.prog w base spare held n 57 cs = some y) :
    ∃ o : De, cs = [.int .i64 o.1, .int .i64 o.2.1, .int .i64 o.2.2] ∧ I64 o.1 ∧ I64 o.2.1 ∧ I64 o.2.2 := by
  obtain ⟨xs, m, _, hy, hlen, hxl, hf⟩ := DataW.trod_struct Tryd.underlying57 h
  rw [cellsDecl] at hlen
  match cs, hlen with
  | [v0, v1, v2], _ =>
    match xs, hxl with
    | [y0, y1, y2], _ =>
      have f0 : DataW.trod enc Tryd.prog w base spare held m 3 [v0] = some y0 := by simpa [cells3i] using hf 0 _ rfl
      have f1 : DataW.trod enc Tryd.prog w base spare held m 3 [v1] = some y1 := by simpa [cells3i] using hf 1 _ rfl
      have f2 : DataW.trod enc Tryd.prog w base spare held m 3 [v2] = some y2 := by simpa [cells3i] using hf 2 _ rfl
      obtain ⟨k, e0, _, w0⟩ := DataW.trod_int Tryd.underlying3 f0
      obtain ⟨i, e1, _, w1⟩ := DataW.trod_int Tryd.underlying3 f1
      obtain ⟨j, e2, _, w2⟩ := DataW.trod_int Tryd.underlying3 f2
      refine ⟨(k, i, j), ?_, i64_of w0, i64_of w1, i64_of w2⟩
      simp only [List.cons.injEq, and_true] at e0 e1 e2
      rw [e0, e1, e2]

/-- A list of objects: nil, or its objects in their order, each where it lies; of a long one the first hundred. -/
theorem open_decls {fuel : Nat} {cs : List Value} {x : DataW H × List MemPlace} (hlt : ∀ p ∈ x.2, p.block < w.heap.size) (h : DataW.trod enc Tryd.prog w base spare held fuel 22 cs = some x) :
    ∃ (A : Option Addr) (n cap : Nat) (l : List De), cs = [.slice A n cap] ∧ LIn w A n cap l := by
  rcases Go.Deep.open_slice Tryd.underlying22 h with h0 | ⟨a, len, cap, m, n, D, Pl, hcs, hb, hl, hm, hmm, hx, hi⟩
  · exact ⟨none, 0, 0, [], h0.1, fun _ => ⟨rfl, rfl⟩, Nat.le_refl _, by omega, DAt.nil _ _, fun j hj => absurd hj (Nat.not_lt_zero j), rfl⟩
  · have hm' : cap ≤ 9223372036854775807 := by simpa [maxLen] using hm
    have hlm : len ≤ m := by rw [hmm]; split <;> omega
    have each : ∀ i, ∃ o : De, i < len → w.cell? (a.add (i * 3)) = some (.int .i64 o.1) ∧ w.cell? (a.add (i * 3 + 1)) = some (.int .i64 o.2.1) ∧ w.cell? (a.add (i * 3 + 2)) = some (.int .i64 o.2.2) ∧ I64 o.1 ∧ I64 o.2.1 ∧ I64 o.2.2 := by
      intro i
      by_cases hil : i < len
      · obtain ⟨cs', hc, ht⟩ := hi i (by omega)
        obtain ⟨o, he, hwf⟩ := one_decl ht
        obtain ⟨_, _, hat⟩ := World.cells?_some hc
        rw [cellsDecl] at hat
        subst he
        have a0 := hat 0 (by omega)
        have a1 := hat 1 (by omega)
        have a2 := hat 2 (by omega)
        rw [Go.Deep.add_add] at a0 a1 a2
        exact ⟨o, fun _ => ⟨a0, a1, a2, hwf⟩⟩
      · exact ⟨zero, fun hh => absurd hh hil⟩
    obtain ⟨ops, hall⟩ : ∃ ops : Nat → De, ∀ i, i < len → w.cell? (a.add (i * 3)) = some (.int .i64 (ops i).1) ∧ w.cell? (a.add (i * 3 + 1)) = some (.int .i64 (ops i).2.1) ∧ w.cell? (a.add (i * 3 + 2)) = some (.int .i64 (ops i).2.2) ∧ I64 (ops i).1 ∧ I64 (ops i).2.1 ∧ I64 (ops i).2.2 :=
      ⟨fun i => Classical.choose (each i), fun i hil => Classical.choose_spec (each i) hil⟩
    have hget : ∀ j, j < min len 100 → ((List.range (min len 100)).map ops).getD j zero = ops j := fun j hj => by
      rw [List.getD_eq_getElem?_getD, List.getElem?_map, List.getElem?_range hj]
      rfl
    have hlen : ((List.range (min len 100)).map ops).length = min len 100 := by simp
    refine ⟨some a, len, cap, (List.range (min len 100)).map ops, hcs, fun h => (by cases h), hl, hm', fun j hj => ?_, fun j hj => ?_, hlen⟩
    · rw [hlen] at hj
      have hbl : a.block < w.heap.size := by
        refine hlt (.cell a.block a.off) ?_
        rw [hx]
        exact List.mem_append_left _ (MemPlace.mem_row.2 ⟨0, by rw [cellsDecl]; omega, by simp⟩)
      obtain ⟨b, off, spot⟩ := a
      have hspot : spot = none := by simpa [Addr.add] using World.cell?_spot (hall 0 (by omega)).1
      subst hspot
      obtain ⟨h0, h1, h2, _⟩ := hall j (by omega)
      rw [add_plain] at h0 h1 h2
      rw [hget j hj]
      refine ⟨b, off, rfl, hbl, h0, ?_, ?_⟩
      · rw [Nat.add_assoc]; exact h1
      · rw [Nat.add_assoc]; exact h2
    · rw [hlen] at hj
      rw [hget j hj]
      exact (hall j (by omega)).2.2.2
end
end Go.Proofs.YtfkcmdnnmnkklaaDoor.objs

/-
  A wait that came in, as it lies in memory: of its ways the first six, of each of them the first six needs. No condition.
-/
namespace Go.Proofs.YtfkcmdnnmnkklaaDoor.need
open Go.ChangeShapes Go.WideShapes Go.RowKit
open Go.Proofs.YtfkcmdnnmnkklaaDoor.objs (De zero DAt I64 cells3i i64_of)
set_option linter.unusedVariables false

theorem cellsNeed : Tryd.prog.cellsOf 59 = 3 := by kernel_rfl
theorem cellsRow : Tryd.prog.cellsOf 60 = 1 := by kernel_rfl

section
variable {H : Type} {enc : TypeId × Value → H} {w : World} {base : Nat} {spare : Nat → Bool} {held : Bool}

set_option maxRecDepth 100000 in
/-- One need, out of its three cells. -/
theorem one_need {n : Nat} {cs : List Value} {y : DataW H × List MemPlace} (h : DataW.trod enc Tryd.prog w base spare held n 59 cs = some y) :
    ∃ o : De, cs = [.int .i64 o.1, .int .i64 o.2.1, .int .i64 o.2.2] ∧ I64 o.1 ∧ I64 o.2.1 ∧ I64 o.2.2 := by
  obtain ⟨xs, m, _, hy, hlen, hxl, hf⟩ := DataW.trod_struct Tryd.underlying59 h
  rw [cellsNeed] at hlen
  match cs, hlen with
  | [v0, v1, v2], _ =>
    match xs, hxl with
    | [y0, y1, y2], _ =>
      have f0 : DataW.trod enc Tryd.prog w base spare held m 3 [v0] = some y0 := by simpa [cells3i] using hf 0 _ rfl
      have f1 : DataW.trod enc Tryd.prog w base spare held m 3 [v1] = some y1 := by simpa [cells3i] using hf 1 _ rfl
      have f2 : DataW.trod enc Tryd.prog w base spare held m 3 [v2] = some y2 := by simpa [cells3i] using hf 2 _ rfl
      obtain ⟨k, e0, _, w0⟩ := DataW.trod_int Tryd.underlying3 f0
      obtain ⟨i, e1, _, w1⟩ := DataW.trod_int Tryd.underlying3 f1
      obtain ⟨j, e2, _, w2⟩ := DataW.trod_int Tryd.underlying3 f2
      refine ⟨(k, i, j), ?_, i64_of w0, i64_of w1, i64_of w2⟩
      simp only [List.cons.injEq, and_true] at e0 e1 e2
      rw [e0, e1, e2]

/-- A list of needs: nil, or its needs in their order, each where it lies; of a long one the first six. -/
theorem open_needs {fuel : Nat} {cs : List Value} {x : DataW H × List MemPlace} (hlt : ∀ p ∈ x.2, p.block < w.heap.size) (h : DataW.trod enc Tryd.prog w base spare held fuel 60 cs = some x) :
    ∃ (A : Option Addr) (n cap : Nat) (l : List De), cs = [.slice A n cap] ∧ (A = none → n = 0 ∧ cap = 0) ∧ n ≤ cap ∧ cap ≤ 9223372036854775807 ∧ DAt w A l ∧ (∀ t ∈ l, Small t) ∧ l.length = min n 6 := by
  rcases Go.Deep.open_slice Tryd.underlying60 h with h0 | ⟨a, len, cap, m, n, D, Pl, hcs, hb, hl, hm, hmm, hx, hi⟩
  · exact ⟨none, 0, 0, [], h0.1, fun _ => ⟨rfl, rfl⟩, Nat.le_refl _, by omega, DAt.nil _ _, fun t ht => (by cases ht), rfl⟩
  · have hm' : cap ≤ 9223372036854775807 := by simpa [maxLen] using hm
    have hlm : len ≤ m := by rw [hmm]; split <;> omega
    have each : ∀ i, ∃ o : De, i < len → w.cell? (a.add (i * 3)) = some (.int .i64 o.1) ∧ w.cell? (a.add (i * 3 + 1)) = some (.int .i64 o.2.1) ∧ w.cell? (a.add (i * 3 + 2)) = some (.int .i64 o.2.2) ∧ I64 o.1 ∧ I64 o.2.1 ∧ I64 o.2.2 := by
      intro i
      by_cases hil : i < len
      · obtain ⟨cs', hc, ht⟩ := hi i (by omega)
        obtain ⟨o, he, hwf⟩ := one_need ht
        obtain ⟨_, _, hat⟩ := World.cells?_some hc
        rw [cellsNeed] at hat
        subst he
        have a0 := hat 0 (by omega)
        have a1 := hat 1 (by omega)
        have a2 := hat 2 (by omega)
        rw [Go.Deep.add_add] at a0 a1 a2
        exact ⟨o, fun _ => ⟨a0, a1, a2, hwf⟩⟩
      · exact ⟨zero, fun hh => absurd hh hil⟩
    obtain ⟨ops, hall⟩ : ∃ ops : Nat → De, ∀ i, i < len → w.cell? (a.add (i * 3)) = some (.int .i64 (ops i).1) ∧ w.cell? (a.add (i * 3 + 1)) = some (.int .i64 (ops i).2.1) ∧ w.cell? (a.add (i * 3 + 2)) = some (.int .i64 (ops i).2.2) ∧ I64 (ops i).1 ∧ I64 (ops i).2.1 ∧ I64 (ops i).2.2 :=
      ⟨fun i => Classical.choose (each i), fun i hil => Classical.choose_spec (each i) hil⟩
    have hget : ∀ j, j < min len 6 → ((List.range (min len 6)).map ops).getD j zero = ops j := fun j hj => by
      rw [List.getD_eq_getElem?_getD, List.getElem?_map, List.getElem?_range hj]
      rfl
    have hlen : ((List.range (min len 6)).map ops).length = min len 6 := by simp
    refine ⟨some a, len, cap, (List.range (min len 6)).map ops, hcs, fun h => (by cases h), hl, hm', fun j hj => ?_, fun t ht => ?_, hlen⟩
    · rw [hlen] at hj
      have hbl : a.block < w.heap.size := by
        refine hlt (.cell a.block a.off) ?_
        rw [hx]
        exact List.mem_append_left _ (MemPlace.mem_row.2 ⟨0, by rw [cellsNeed]; omega, by simp⟩)
      obtain ⟨b, off, spot⟩ := a
      have hspot : spot = none := by simpa [Addr.add] using World.cell?_spot (hall 0 (by omega)).1
      subst hspot
      obtain ⟨h0, h1, h2, _⟩ := hall j (by omega)
      rw [add_plain] at h0 h1 h2
      rw [hget j hj]
      refine ⟨b, off, rfl, hbl, h0, ?_, ?_⟩
      · rw [Nat.add_assoc]; exact h1
      · rw [Nat.add_assoc]; exact h2
    · obtain ⟨j, hj, rfl⟩ := List.mem_map.1 ht
      have hj2 := List.mem_range.1 hj
      exact (hall j (by omega)).2.2.2

/-- A list of ways: nil, or its ways in their order, each where it lies; of a long one the first six. -/
theorem open_wait {fuel : Nat} {cs : List Value} {x : DataW H × List MemPlace} (hlt : ∀ p ∈ x.2, p.block < w.heap.size) (h : DataW.trod enc Tryd.prog w base spare held fuel 23 cs = some x) :
    ∃ (A : Option Addr) (n cap : Nat) (l : List (List De)), cs = [.slice A n cap] ∧ WIn w A n cap l := by
  rcases Go.Deep.open_slice1 Tryd.underlying23 cellsRow h with h0 | ⟨a, len, cap, m, n, V, D, Pl, hcs, hb, hl, hm, hmm, hx, hi⟩
  · exact ⟨none, 0, 0, [], h0.1, fun _ => ⟨rfl, rfl⟩, Nat.le_refl _, by omega, ⟨rfl, fun j hj => absurd hj (Nat.not_lt_zero j)⟩, fun x hx => (by cases hx)⟩
  · have hm' : cap ≤ 9223372036854775807 := by simpa [maxLen] using hm
    have hlm : len ≤ m := by rw [hmm]; split <;> omega
    have each : ∀ i, ∃ y : Option Addr × Nat × Nat × List De, i < len → w.cell? (a.add i) = some (.slice y.1 y.2.1 y.2.2.1) ∧ (y.1 = none → y.2.1 = 0 ∧ y.2.2.1 = 0) ∧ y.2.1 ≤ y.2.2.1 ∧ y.2.2.1 ≤ 9223372036854775807 ∧ DAt w y.1 y.2.2.2 ∧ (∀ t ∈ y.2.2.2, Small t) ∧ y.2.2.2.length = min y.2.1 6 := by
      intro i
      by_cases hil : i < len
      · obtain ⟨hc, ht⟩ := hi i (by omega)
        have hlt2 : ∀ p ∈ (D i, Pl i).2, p.block < w.heap.size := fun p hp => by
          refine hlt p ?_
          rw [hx]
          exact List.mem_append_right _ (List.mem_flatMap.2 ⟨i, List.mem_range.2 (by omega), hp⟩)
        obtain ⟨A, n1, c1, l1, hv, h1, h2, h3, h4, h5, h6⟩ := open_needs hlt2 ht
        have hv2 : V i = .slice A n1 c1 := by simpa using hv
        exact ⟨(A, n1, c1, l1), fun _ => ⟨by rw [hc, hv2], h1, h2, h3, h4, h5, h6⟩⟩
      · exact ⟨(none, 0, 0, []), fun hh => absurd hh hil⟩
    obtain ⟨ys, hall⟩ : ∃ ys : Nat → Option Addr × Nat × Nat × List De, ∀ i, i < len → w.cell? (a.add i) = some (.slice (ys i).1 (ys i).2.1 (ys i).2.2.1) ∧ ((ys i).1 = none → (ys i).2.1 = 0 ∧ (ys i).2.2.1 = 0) ∧ (ys i).2.1 ≤ (ys i).2.2.1 ∧ (ys i).2.2.1 ≤ 9223372036854775807 ∧ DAt w (ys i).1 (ys i).2.2.2 ∧ (∀ t ∈ (ys i).2.2.2, Small t) ∧ (ys i).2.2.2.length = min (ys i).2.1 6 :=
      ⟨fun i => Classical.choose (each i), fun i hil => Classical.choose_spec (each i) hil⟩
    have hget : ∀ j, j < min len 6 → ((List.range (min len 6)).map fun i => (ys i).2.2.2).getD j [] = (ys j).2.2.2 := fun j hj => by
      rw [List.getD_eq_getElem?_getD, List.getElem?_map, List.getElem?_range hj]
      rfl
    have hlen : ((List.range (min len 6)).map fun i => (ys i).2.2.2).length = min len 6 := by simp
    refine ⟨some a, len, cap, (List.range (min len 6)).map fun i => (ys i).2.2.2, hcs, fun h => (by cases h), hl, hm', ⟨hlen, fun j hj => ?_⟩, fun t ht => ?_⟩
    · rw [hlen] at hj
      have hbl : a.block < w.heap.size := by
        refine hlt (.cell a.block a.off) ?_
        rw [hx]
        exact List.mem_append_left _ (MemPlace.mem_row.2 ⟨0, by omega, by simp⟩)
      obtain ⟨b, off, spot⟩ := a
      have hspot : spot = none := by simpa [Addr.add] using World.cell?_spot (hall 0 (by omega)).1
      subst hspot
      obtain ⟨h0, h1, h2, h3, h4, _, h6⟩ := hall j (by omega)
      rw [add_plain] at h0
      rw [hget j hj]
      exact ⟨b, off, (ys j).1, (ys j).2.1, (ys j).2.2.1, rfl, hbl, h0, h4, h6, h2, h3, h1⟩
    · obtain ⟨j, hj, rfl⟩ := List.mem_map.1 ht
      have hj2 := List.mem_range.1 hj
      exact (hall j (by omega)).2.2.2.2.2.1
end
end Go.Proofs.YtfkcmdnnmnkklaaDoor.need
