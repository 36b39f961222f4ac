/-
  The text of any set, and the set of any text, and that each set comes back: for every set and text, under no condition. The table of math/bits and the library's two errors lie where their initialisers lay them: the card ties that to the program's text.
-/
import Derived.Test.YtlpdilkenbjajaaDoorBRefParse
import Derived.Test.YtlpdilkenbjajaaDoorBParse
import Derived.Test.YtlpdilkenbjajaaDoorBClose
import Derived.Test.YtlpdilkenbjajaaDoorCards
import Derived.Test.YtlpdilkenbjajaaDoorTie
import Derived.SevenTiedAt
namespace Go.Proofs.YtlpdilkenbjajaaDoor.bitsTexts
open Go.ChangeShapes Go.WideShapes Go.ChangeAt Go.RowKit Go.Proofs.YtlpdilkenbjajaaDoor.bits
open Go.ChangeMaps (open_string shut_string)
set_option linter.unusedVariables false

theorem text_size {s : Nat} (hs : Is64 s) : (ByteArray.mk (text s).toArray).size ≤ 1048576 := by
  rw [size_mk]
  unfold text
  split
  · simp
  · have h1 := txt_length_le (els s)
    have h2 := els_length_le s
    omega
theorem text_back {s : Nat} (hs : Is64 s) : prog (ByteArray.mk (text s).toArray).data.toList = (s, true) := by
  rw [prog_strict]
  exact strict_text hs

set_option maxHeartbeats 1000000 in
theorem walk_le (s : Nat) (hs : Is64 s) (t : ByteArray) (ht : t.size ≤ 300) (w : World) (hT : Tab w) (hE : Errs w) (hg : 1 < w.heap.size ∧ 3 < w.heap.size ∧ 4 < w.heap.size ∧ 2 < w.heap.size) :
    Calls Tryd.prog 3 #[.int .u64 (s : Int), .string t] w fun e w' => e = .returned (.bool true) ∧ Below w.heap.size w w' := by
  obtain ⟨hg0, hg1⟩ := hg
  have HT := Lib.hid hT
  have HE := Lib.hid hE
  have HP := fun u hu hg => Lib.hid (parse_any t (by omega) u hu hg)
  rw [prog_strict] at HP
  have HR := fun u => Lib.hid (refParse_any t (by omega) u)
  obtain ⟨⟨a, ok⟩, hst⟩ : ∃ r, strict t.data.toList = r := ⟨_, rfl⟩
  rw [hst] at HP HR
  have HTB := Lib.hid (text_back hs)
  have HTS := Lib.hid (text_size hs)
  have HTX := fun u hu hg => Lib.hid (text_any s hs u hu hg)
  have HRX := fun u => Lib.hid (refText_any s hs u)
  have HPB := fun u hu hg => Lib.hid (parse_any ⟨(text s).toArray⟩ HTS.out u hu hg)
  rw [HTB.out] at HPB
  clear hT hE hst
  generalize text s = tx at *
  go_enter Tryd.func3, Tryd.ntmps3
  go_wp2_with fail
  refine (HP _ HE.out hg1).out.mono ?_
  rintro e w1 ⟨rfl, hb1⟩
  have HB1 := Lib.hid hb1
  clear hb1
  go_wp2_with fail
  refine (HR _).out.mono ?_
  rintro e w2 ⟨rfl, hb2⟩
  have HB2 := Lib.hid (HB1.out.trans (hb2.mono HB1.out.size))
  clear hb2
  go_wp2_with fail
  refine (HTX _ (HT.out.below HB2.out hg0) (by have := HB2.out.size; omega)).out.mono ?_
  rintro e w3 ⟨rfl, hb3⟩
  have HB3 := Lib.hid (HB2.out.trans (hb3.mono HB2.out.size))
  clear hb3
  go_wp2_with fail
  refine (HPB _ (HE.out.below HB3.out hg1) (by have := HB3.out.size; omega)).out.mono ?_
  rintro e w4 ⟨rfl, hb4⟩
  have HB4 := Lib.hid (HB3.out.trans (hb4.mono HB3.out.size))
  clear hb4
  go_wp2_with fail
  refine (HTX _ (HT.out.below HB4.out hg0) (by have := HB4.out.size; omega)).out.mono ?_
  rintro e w5 ⟨rfl, hb5⟩
  have HB5 := Lib.hid (HB4.out.trans (hb5.mono HB4.out.size))
  clear hb5
  go_wp2_with fail
  refine (HRX _).out.mono ?_
  rintro e w6 ⟨rfl, hb6⟩
  have HB6 := Lib.hid (HB5.out.trans (hb6.mono HB5.out.size))
  clear hb6
  go_wp2_with fail
  refine (lives_any _ (HT.out.below HB6.out hg0) (by have := HB6.out.size; omega)).mono ?_
  rintro e w7 ⟨rfl, hb7⟩
  go_wp2
  go_ret
  exact ⟨rfl, HB6.out.trans (hb7.mono HB6.out.size)⟩
set_option maxHeartbeats 1000000 in
theorem walk_gt (s : Nat) (hs : Is64 s) (t : ByteArray) (ht : 300 < t.size) (hmax : t.size ≤ 9223372036854775807) (w : World) (hT : Tab w) (hE : Errs w) (hg : 1 < w.heap.size ∧ 3 < w.heap.size ∧ 4 < w.heap.size ∧ 2 < w.heap.size) :
    Calls Tryd.prog 3 #[.int .u64 (s : Int), .string t] w fun e w' => e = .returned (.bool true) ∧ Below w.heap.size w w' := by
  obtain ⟨hg0, hg1⟩ := hg
  have hx : (t.extract 0 300).size ≤ 1048576 := by
    have e1 : (t.extract 0 300).data.toList = t.data.toList.take 300 := by rw [Lib.extract_data, List.drop_zero, Nat.sub_zero]
    have h : (t.extract 0 300).data.toList.length = (t.extract 0 300).size := by rw [Array.length_toList]; rfl
    rw [e1, List.length_take] at h
    omega
  have HT := Lib.hid hT
  have HE := Lib.hid hE
  have HP := fun u hu hg => Lib.hid (parse_any (t.extract 0 300) hx u hu hg)
  rw [prog_strict] at HP
  have HR := fun u => Lib.hid (refParse_any (t.extract 0 300) hx u)
  obtain ⟨⟨a, ok⟩, hst⟩ : ∃ r, strict (t.extract 0 300).data.toList = r := ⟨_, rfl⟩
  rw [hst] at HP HR
  have HTB := Lib.hid (text_back hs)
  have HTS := Lib.hid (text_size hs)
  have HTX := fun u hu hg => Lib.hid (text_any s hs u hu hg)
  have HRX := fun u => Lib.hid (refText_any s hs u)
  have HPB := fun u hu hg => Lib.hid (parse_any ⟨(text s).toArray⟩ HTS.out u hu hg)
  rw [HTB.out] at HPB
  clear hT hE hst hx
  generalize text s = tx at *
  go_enter Tryd.func3, Tryd.ntmps3
  go_wp2_with fail
  refine (HP _ HE.out hg1).out.mono ?_
  rintro e w1 ⟨rfl, hb1⟩
  have HB1 := Lib.hid hb1
  clear hb1
  go_wp2_with fail
  refine (HR _).out.mono ?_
  rintro e w2 ⟨rfl, hb2⟩
  have HB2 := Lib.hid (HB1.out.trans (hb2.mono HB1.out.size))
  clear hb2
  go_wp2_with fail
  refine (HTX _ (HT.out.below HB2.out hg0) (by have := HB2.out.size; omega)).out.mono ?_
  rintro e w3 ⟨rfl, hb3⟩
  have HB3 := Lib.hid (HB2.out.trans (hb3.mono HB2.out.size))
  clear hb3
  go_wp2_with fail
  refine (HPB _ (HE.out.below HB3.out hg1) (by have := HB3.out.size; omega)).out.mono ?_
  rintro e w4 ⟨rfl, hb4⟩
  have HB4 := Lib.hid (HB3.out.trans (hb4.mono HB3.out.size))
  clear hb4
  go_wp2_with fail
  refine (HTX _ (HT.out.below HB4.out hg0) (by have := HB4.out.size; omega)).out.mono ?_
  rintro e w5 ⟨rfl, hb5⟩
  have HB5 := Lib.hid (HB4.out.trans (hb5.mono HB4.out.size))
  clear hb5
  go_wp2_with fail
  refine (HRX _).out.mono ?_
  rintro e w6 ⟨rfl, hb6⟩
  have HB6 := Lib.hid (HB5.out.trans (hb6.mono HB5.out.size))
  clear hb6
  go_wp2_with fail
  refine (lives_any _ (HT.out.below HB6.out hg0) (by have := HB6.out.size; omega)).mono ?_
  rintro e w7 ⟨rfl, hb7⟩
  go_wp2
  go_ret
  exact ⟨rfl, HB6.out.trans (hb7.mono HB6.out.size)⟩

/-- The tables and errors that this row lists. -/
def laid5 : List (String × DataW Unit) := [("math/bits.deBruijn32tab", Rows.laid_math_bits_deBruijn32tab), ("math/bits.deBruijn64tab", Rows.laid_math_bits_deBruijn64tab), ("internal/strconv.uint64pow10", Rows.laid_internal_strconv_uint64pow10), ("strconv.ErrRange", Rows.laid_strconv_ErrRange), ("strconv.ErrSyntax", Rows.laid_strconv_ErrSyntax)]
theorem gRange : Tryd.prog.globalNamed "strconv.ErrRange" = some 4 := by kernel_rfl
theorem gSyntax : Tryd.prog.globalNamed "strconv.ErrSyntax" = some 3 := by kernel_rfl
theorem gRangeType : (Tryd.prog.globals[4]?).map (·.type) = some 53 := by kernel_rfl
theorem gSyntaxType : (Tryd.prog.globals[3]?).map (·.type) = some 53 := by kernel_rfl
theorem cellsErr : Tryd.prog.cellsOf 94 = 1 := by kernel_rfl
theorem cellsStr : Tryd.prog.cellsOf 9 = 1 := by kernel_rfl
theorem star : "*" ++ "errors.errorString" = "*errors.errorString" := by decide
theorem rowErr (u : TypeId) (h : Tryd.prog.typeName? 3 u = some "*errors.errorString") : u = 92 :=
  typeName_ptr_named (nm := "errors.errorString") (by rw [star]; kernel_rfl) (by kernel_rfl) (by decide) u (by rw [star]; exact h)
theorem cell_lt {W : World} {g : Nat} {v : Value} (h : W.cell? ⟨g, 0, none⟩ = some v) : g < W.heap.size := by
  rcases Nat.lt_or_ge g W.heap.size with h1 | h1
  · exact h1
  · simp [World.cell?, Array.getElem?_eq_none h1] at h
theorem gPow5Type : (Tryd.prog.globals[2]?).map (·.type) = some 78 := by kernel_rfl
theorem pow5Cells : Tryd.prog.cellsOf 78 = 20 := by kernel_rfl
theorem u64Cells5 : Tryd.prog.cellsOf 22 = 1 := by kernel_rfl
theorem pow_of_head5 {W : World} {rest : List (String × DataW Unit)} (h : laidMet Tryd.prog (("internal/strconv.uint64pow10", Rows.laid_internal_strconv_uint64pow10) :: rest) W) : Lib.TabIs Tryd.prog W "internal/strconv.uint64pow10" .u64 Lib.pow10Tab :=
  Lib.tabIs_of_head Go.Proofs.YtlpdilkenbjajaaDoor.digi.gPows gPow5Type Tryd.underlying78 Tryd.underlying22 u64Cells5 pow5Cells (zs := Lib.pow10Tab) h
theorem of_laid5 {W : World} (h : laidMetH Tryd.prog laid5 W) : Tab W ∧ Errs W ∧ (1 < W.heap.size ∧ 3 < W.heap.size ∧ 4 < W.heap.size ∧ 2 < W.heap.size) := by
  rw [MakeChecks.laidMetH_plain _ _ _ (by kernel_rfl)] at h
  have h1 := laidMet.tail h
  have h2 := laidMet.tail (laidMet.tail h1)
  obtain ⟨hT, hg⟩ := tab_of_tail h1
  obtain ⟨a, s, hv, _, _, _⟩ := laid_sentinel h2 gRange gRangeType Tryd.underlying53 rowErr Tryd.underlying92 Tryd.underlying94 rfl rfl Tryd.underlying9 cellsErr cellsStr
  obtain ⟨a', s', hv', _, _, _⟩ := laid_sentinel (laidMet.tail h2) gSyntax gSyntaxType Tryd.underlying53 rowErr Tryd.underlying92 Tryd.underlying94 rfl rfl Tryd.underlying9 cellsErr cellsStr
  have c1 : W.cell? ⟨4, 0, none⟩ = some (.iface 92 (.pointer (some a))) := by simpa using World.var?_cell gRange hv 0
  have c2 : W.cell? ⟨3, 0, none⟩ = some (.iface 92 (.pointer (some a'))) := by simpa using World.var?_cell gSyntax hv' 0
  have hp := pow_of_head5 (laidMet.tail h1)
  have lp := cell_lt (hp.cell Go.Proofs.YtlpdilkenbjajaaDoor.digi.gPows 0 (by decide))
  exact ⟨hT, ⟨⟨_, _, _, _, c2, c1⟩, hp, cell_lt c2, cell_lt c1, lp⟩, hg, cell_lt c2, cell_lt c1, lp⟩
theorem door_met5 (os : Os) (args : Array Value) : laidMetH Tryd.prog laid5 ((World.doorLaid Tryd.prog 62 os).forCall (fun _ _ => 0) ⟨#[], args, []⟩).memory :=
  laidMetH_of_parts3 (fuel := 8) (laidMet_of_run' 8 (by kernel_rfl) (by kernel_rfl)) (by kernel_rfl) (by kernel_rfl)

set_option maxRecDepth 100000 in
theorem lifted (os : Os) (started : os.Started) (H : Type) (enc : TypeId × Value → H) :
    ReturnsInHanded {} Tryd.checked os 3 .any (fun w args => (Rows.bitsTextsSpec.pre enc Tryd.prog Tryd.f3 [] false w args ∧ laidMetH Tryd.prog laid5 w) ∧ sizedMet enc Tryd.prog Tryd.f3 (OpenSpec.ofChange Rows.bitsTextsSpec) false w args)
      (Rows.bitsTextsSpec.post enc Tryd.prog Tryd.f3 false true false false) := by
  refine returnsInHanded_of_change_and (C := Tryd.checked) (X := fun w _ => laidMetH Tryd.prog laid5 w) (fun _ _ _ hh h => h.of_heap hh) own started (by kernel_rfl) Tryd.func3
    (ChangeSpec.witness_shaped (enc := enc) (C := Tryd.checked) (os := os) (X := fun w _ => laidMetH Tryd.prog laid5 w) false (World.doorLaid Tryd.prog 62 os) #[.int .u64 0, .string .empty] 8 rfl (World.shaped_of_RefB (by kernel_rfl) (by kernel_rfl)) (by kernel_rfl) (by kernel_rfl) (by kernel_rfl) (door_met5 os _)) ?_
  intro W base args ds gs before hval0 hW _ _ hL _
  have hval : ∀ (j : Nat) t v, Tryd.f3.params[j]? = some t → args[j]? = some v → Value.okWide Tryd.prog W .any base t v := hval0

  have hW' := hW
  obtain ⟨p, q, hA0, hV, rfl, hfz, hnd⟩ := hW
  have hA : DataW.TrodAll enc Tryd.prog W 0 (fun _ => true) true Tryd.f3.params.toList args.toList ds p := hA0
  rw [Tryd.params3] at hA hval
  obtain ⟨v0, v1, d0, d1, p0, p1, rfl, rfl, rfl, h0, h1⟩ := trodAll_two hA
  obtain ⟨rfl, rfl⟩ := trodVars_none hV
  obtain ⟨a0, rfl, rfl, rfl, w0⟩ := open_int Tryd.underlying22 (hval 0 22 v0 rfl rfl) h0
  obtain ⟨t, rfl, rfl, rfl, hmax⟩ := open_string Tryd.underlying9 (hval 1 9 v1 rfl rfl) h1
  obtain ⟨n0, rfl, hn0⟩ := fits_of a0 w0
  clear hA0 hval0
  obtain ⟨hT, hE, hg⟩ := of_laid5 hL
  simp only [List.append_nil] at hW'
  have hwalk : Calls Tryd.prog 3 #[.int .u64 (n0 : Int), .string t] W fun e w' => e = .returned (.bool true) ∧ Below W.heap.size W w' := by
    by_cases h300 : t.size ≤ 300
    · exact walk_le n0 hn0 t h300 W hT hE hg
    · exact walk_gt n0 hn0 t (by omega) (by simpa [maxLen] using hmax) W hT hE hg
  refine (hwalk).mono fun e W' ⟨he, hb⟩ => ?_
  subst he
  exact ⟨_, rfl, post_below (pa := []) (pv := []) hW' (fun _ _ _ => (trodAll_cons_mk (shut_bool Tryd.underlying4 _) trodAll_mk0)) (fun sp _ => trodAll_mk2 (shut_int Tryd.underlying22 w0) (shut_string Tryd.underlying9 hmax)) (fun _ _ => rfl) rfl
    hb (ok_one (by kernel_rfl) rfl (okWide_bool_mk Tryd.underlying4 _))⟩

theorem said : Rows.BitsTextsSaid :=
  OpenClaim.holds_of_wide 3 Tryd.f3 rfl rfl rfl rfl rfl rfl rfl ⟨rfl, rfl, rfl, rfl, rfl⟩ rfl rfl rfl rfl rfl (by kernel_rfl) Tryd.func3 (by kernel_rfl)
    (of_decide_eq_true (by kernel_rfl)) (by unfold Func.isWrapper; first | (rw [if_pos (by decide +kernel)]; kernel_rfl) | (rw [if_neg (by decide +kernel)]; exact ⟨rfl, rfl⟩))
    (fun os started H enc _ => lifted os started H enc)

theorem proved : Rows.BitsTextsCardSaid :=
  Claim7.holds_tied_plain_at .later [] [.data, .data, .data, .sentinel, .sentinel] true Rows.bitsTextsCard.stood.harness true
    said (fun _ h => by cases h) (by kernel_rfl) (fun _ h => by cases h) bitsTexts_row_tie rfl ⟨rfl, rfl⟩ (by kernel_rfl) rfl
    (fun f fn hf hfn => by
      obtain rfl : f = 3 := Option.some.inj ((show Tryd.prog.funcNamed "logjam/logjamlaw02.BitsTexts" = some 3 by kernel_rfl).symm.trans hf) |>.symm
      obtain rfl : fn = Tryd.f3 := (Option.some.inj (Tryd.func3.symm.trans hfn)).symm
      exact ⟨by kernel_rfl, fun j t ht => by
        rw [Tryd.params3] at ht
        have hm : t ∈ [22, 9] := by simpa using Array.mem_of_getElem? ht
        have hall : ([22, 9].all fun u => !Tryd.prog.wantsStandIn u) = true := by kernel_rfl
        exact (show Tryd.prog.wantsStandIn t = false by simpa using List.all_eq_true.1 hall t hm)⟩)
    (by kernel_rfl)
end Go.Proofs.YtlpdilkenbjajaaDoor.bitsTexts
