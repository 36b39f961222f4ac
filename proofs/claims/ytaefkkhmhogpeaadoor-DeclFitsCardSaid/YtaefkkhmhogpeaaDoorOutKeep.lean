/-
  The writer's calls once more, with what else stays as it was: every block that holds no bytes and is not the writer itself. No condition but that the bytes are fewer than a slice can hold.
-/
import Derived.Test.YtaefkkhmhogpeaaDoorOut
namespace Go.Proofs.YtaefkkhmhogpeaaDoor.octet
open Go.RowKit Go.ChangeShapes
set_option linter.unusedVariables false

/-- A block that is no row of bytes. -/
def NoBytes (o : Obj) : Prop := ∀ cur q, o ≠ .cells cur 5 q
/-- What holds no bytes, and is not at bo, has stayed. -/
def Spare (bo : Nat) (w w' : World) : Prop := ∀ k o, w.heap[k]? = some o → k ≠ bo → NoBytes o → w'.heap[k]? = some o
theorem Spare.refl (bo : Nat) (w : World) : Spare bo w w := fun _ _ h _ _ => h
theorem Spare.trans {bo : Nat} {a b c : World} (h : Spare bo a b) (k : Spare bo b c) : Spare bo a c := fun i o h1 h2 h3 => k i o (h i o h1 h2 h3) h2 h3
theorem Spare.store {base bo : Nat} {l xs : List Value} {n : Nat} {w W w1 : World} {v v' : Value} (hown : w.ownsRow base 5 1 v n xs) (hW : ∀ k, k < w.heap.size → W.heap[k]? = w.heap[k]?) (hs : w.heap.size ≤ W.heap.size) (hg : W.grownBy w1 v.ownBlock) : Spare bo w (w1.setCell ⟨bo, 0, none⟩ v') := by
  intro k o h1 h2 h3
  have hlt := lt_of_block h1
  have hne : some k ≠ v.ownBlock := by
    intro e
    rcases hown.2 with ⟨rfl, _⟩ | ⟨g, cap, cur, rfl, _, hh, _⟩
    · cases e
    · simp [Value.ownBlock] at e
      subst e
      rw [h1] at hh
      exact h3 _ _ (Option.some.inj hh)
  rw [Below.heap_setCell _ _ _ _ (show k ≠ bo from h2), hg.block k (by omega) (fun e => hne e), hW k hlt]
  exact h1

set_option maxHeartbeats 400000 in
theorem byte_keep (w : World) (base bo : Nat) (l : List UInt8) (n : Int) (h : OutAt w base bo l) (hl : l.length + 1 ≤ 140737488355328) :
    Calls Tryd.prog 36 #[.pointer (some ⟨bo, 0, none⟩), .int .i64 n] w fun e w' => e = .returned (.tuple #[]) ∧ OutAt w' base bo (l ++ [bof n]) ∧ Frm base bo w w' ∧ Spare bo w w' := by
  obtain ⟨v, h1, h2, h3, h4⟩ := h
  obtain ⟨i0, hi, hz0, hz1, hz2⟩ := info_parts info5
  have hc := cell_of_one h1
  have hf := free_of_one h1
  go_enter Tryd.func36, Tryd.ntmps36
  go_wp2_with (
    at_builtin
    refine wpList_append_own _ rfl (.tmp 10) (.tmp 13) _ rfl base 5 i0 _ 1 1 Tryd.underlying60 hi hz0 hz1 hz2 rfl (by omega) v l.length (cells l) rfl (h2.alloc _)
      ⟨w.heap.size, 0, none⟩ 1 1 [.int .u8 (n % 256)] rfl rfl ?c1 ?c2 ?c3 ?c4 ?c5 ?_)
  case c1 =>
    intro j u hu
    rcases j with _ | j
    · simp only [List.getElem?_cons_zero, Option.some.injEq] at hu
      subst hu
      exact cell_of_one (heap_alloc_new w _)
    · simp at hu
  case c2 => intro u hu; simp only [List.mem_singleton] at hu; subst hu; rfl
  case c3 => simp only [maxLen]; omega
  case c4 => omega
  case c5 => simp; omega
  intro v' w1 hown hg _
  have hs := out_store (r := [bof n]) h1 h2 h3 h4 ⟨_, .inl rfl⟩ (by simpa [cells, bof_cell] using hown) hg
  have HP : Hid (Spare bo w (w1.setCell ⟨bo, 0, none⟩ v')) := Lib.hid (Spare.store (base := base) (l := []) (xs := cells l) (n := l.length) h2 (fun k hk => Below.heap_alloc _ _ _ hk) (by simp) hg)
  have hc1 := cell_of_one hs.1
  have hf1 := free_of_one hs.1
  obtain ⟨_, hs2, hs3⟩ := hs
  obtain ⟨A', m', c', rfl⟩ := own_slice hown
  go_wp2
  go_end0
  exact ⟨rfl, hs2, hs3, HP.out⟩

set_option maxHeartbeats 400000 in
theorem num_keep (w : World) (base bo : Nat) (l : List UInt8) (n : Nat) (hn : Fits n) (h : OutAt w base bo l) (hl : l.length + 10 ≤ 140737488355328) :
    Calls Tryd.prog 51 #[.pointer (some ⟨bo, 0, none⟩), .int .u64 (n : Int)] w fun e w' => e = .returned (.tuple #[]) ∧ OutAt w' base bo (l ++ num n) ∧ Frm base bo w w' ∧ Spare bo w w' := by
  go_enter Tryd.func51, Tryd.ntmps51
  go_wp2
  go_loopw [1] (fun t wr => ∃ (m : Nat) (pre : List UInt8), t = .int .u64 (m : Int) ∧ Fits m ∧ pre ++ num m = num n ∧ OutAt wr base bo (l ++ pre) ∧ Frm base bo w wr ∧ Hid (Spare bo w wr)) (fun t _ => (intOf t).toNat)
  case atStart => exact ⟨n, [], rfl, hn, rfl, by simpa using h, Frm.refl _ _ _, Lib.hid (Spare.refl _ _)⟩
  case round =>
    obtain ⟨m, pre, rfl, hm, he, ho, hfr, HQ⟩ := hrel
    have hpl : (l ++ pre).length + 1 ≤ 140737488355328 := by
      have e1 := congrArg List.length he
      have e2 := num_length_le n
      have e3 := enc_length_pos 9 m
      have e4 : (num m).length = (enc 9 m).length := rfl
      simp only [List.length_append] at e1 ⊢
      omega
    have HE := Lib.hid he
    clear he
    by_cases hlt : m < 128
    · go_wp2_with fail
      refine (byte_keep _ base bo (l ++ pre) _ ho hpl).mono ?_
      rintro e w1 ⟨rfl, ho1, hf1, hp1⟩
      have HP := Lib.hid (HQ.out.trans hp1)
      clear hp1
      go_wp2
      go_end0
      refine ⟨rfl, ?_, hfr.trans hf1, HP.out⟩
      rw [← HE.out, num_small hlt, ← List.append_assoc]
      rw [bof_nat] at ho1
      exact ho1
    · go_wp2_with fail
      rw [or_and_u64 m hm]
      refine (byte_keep _ base bo (l ++ pre) _ ho hpl).mono ?_
      rintro e w1 ⟨rfl, ho1, hf1, hp1⟩
      have HP := Lib.hid (HQ.out.trans hp1)
      clear hp1
      go_wp2
      refine ⟨⟨m / 128, pre ++ [UInt8.ofNat (m % 128 + 128)], ?_, ?_, ?_, ?_, hfr.trans hf1, HP⟩, ?_⟩
      · congr 1
      · unfold Fits at hm ⊢; omega
      · rw [← HE.out, num_big (by omega) hm, List.append_assoc]
        rfl
      · rw [← List.append_assoc, ← bof_nat]; exact ho1
      · simp [intOf]; omega

set_option maxHeartbeats 400000 in
theorem int_keep (w : World) (base bo : Nat) (l : List UInt8) (n : Int) (h1 : -9223372036854775808 ≤ n) (h2 : n ≤ 9223372036854775807) (ho : OutAt w base bo l) (hl : l.length + 10 ≤ 140737488355328) :
    Calls Tryd.prog 57 #[.pointer (some ⟨bo, 0, none⟩), .int .i64 n] w fun e w' => e = .returned (.tuple #[]) ∧ OutAt w' base bo (l ++ num (zig n)) ∧ Frm base bo w w' ∧ Spare bo w w' := by
  by_cases hlt : n < 0
  · go_enter Tryd.func57, Tryd.ntmps57
    go_wp2_with fail
    rw [zig_neg n h1 hlt]
    refine (num_keep _ base bo l (zig n) (zig_lt h1 h2) ho hl).mono ?_
    rintro e w1 ⟨rfl, ho1, hf1, hp1⟩
    have HP := Lib.hid hp1
    clear hp1
    go_wp2
    refine bodyPost_ret (results_none rfl _ _ _) rfl ?_
    exact ⟨rfl, ho1, hf1, HP.out⟩
  · go_enter Tryd.func57, Tryd.ntmps57
    go_wp2_with fail
    rw [zig_pos n (by omega)]
    refine (num_keep _ base bo l (zig n) (zig_lt h1 h2) ho hl).mono ?_
    rintro e w1 ⟨rfl, ho1, hf1, hp1⟩
    have HP := Lib.hid hp1
    clear hp1
    go_wp2
    go_end0
    exact ⟨rfl, ho1, hf1, HP.out⟩

end Go.Proofs.YtaefkkhmhogpeaaDoor.octet
