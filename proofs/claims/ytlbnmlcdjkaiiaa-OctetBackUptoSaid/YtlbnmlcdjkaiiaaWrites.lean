/-
  The bytes of any calls, one behind the other, are just those that the document gives: for every list of calls whose texts and places are together at most 1048576.
-/
import Derived.Test.YtlbnmlcdjkaiiaaClose
import Derived.Test.YtlbnmlcdjkaiiaaLives
import Derived.Test.YtlbnmlcdjkaiiaaPut
import Derived.Outline
import Derived.OpenShut
namespace Go.Proofs.Ytlbnmlcdjkaiiaa.octetWrites
open Go.ChangeShapes Go.WideShapes Go.ChangeAt Go.RowKit Go.Proofs.Ytlbnmlcdjkaiiaa.octet
set_option linter.unusedVariables false

/-- The bytes of n calls from the j-th on. -/
def tl (ops : Nat → OpD) : Nat → Nat → List UInt8
  | _, 0 => []
  | j, n + 1 => (ops j).bytes ++ tl ops (j + 1) n
theorem tl_snoc (ops : Nat → OpD) (n : Nat) : ∀ j, tl ops j (n + 1) = tl ops j n ++ (ops (j + n)).bytes := by
  induction n with
  | zero => intro j; simp [tl]
  | succ n ih =>
    intro j
    rw [tl, ih (j + 1), tl, List.append_assoc, Nat.add_assoc, Nat.add_comm 1 n]
/-- How long the texts of the first k are. -/
def tot (ops : Nat → OpD) : Nat → Nat
  | 0 => 0
  | k + 1 => tot ops k + (ops k).s.size
theorem tot_mono (ops : Nat → OpD) {j k : Nat} (h : j ≤ k) : tot ops j ≤ tot ops k := by
  induction k with
  | zero => obtain rfl : j = 0 := by omega
            exact Nat.le_refl _
  | succ k ih =>
    by_cases e : j = k + 1
    · subst e; exact Nat.le_refl _
    · have := ih (by omega)
      rw [tot]
      omega
theorem tl_length (ops : Nat → OpD) (k : Nat) : (tl ops 0 k).length ≤ tot ops k + 10 * k := by
  induction k with
  | zero => simp [tl]
  | succ k ih =>
    have h := (ops (0 + k)).length_le
    rw [tl_snoc, List.length_append, tot]
    rw [Nat.zero_add] at h ⊢
    omega

/-- The calls as they lie in memory. -/
def Lies (w : World) (b off len : Nat) (ops : Nat → OpD) : Prop := ∀ i, i < len →
  w.cell? ⟨b, off + i * 4, none⟩ = some (.int .i64 (ops i).kind) ∧ w.cell? ⟨b, off + i * 4 + 1, none⟩ = some (.int .u64 ((ops i).n : Int)) ∧ w.cell? ⟨b, off + i * 4 + 2, none⟩ = some (.int .i64 (ops i).i) ∧ w.cell? ⟨b, off + i * 4 + 3, none⟩ = some (.string (ops i).s)
theorem Lies.below {w w' : World} {b off len : Nat} {ops : Nat → OpD} (h : Lies w b off len ops) (hb : Below w.heap.size w w') (hlt : b < w.heap.size) : Lies w' b off len ops := fun i hi => by
  obtain ⟨h0, h1, h2, h3⟩ := h i hi
  exact ⟨(hb.cell (p := ⟨b, off + i * 4, none⟩) hlt).trans h0, (hb.cell (p := ⟨b, off + i * 4 + 1, none⟩) hlt).trans h1, (hb.cell (p := ⟨b, off + i * 4 + 2, none⟩) hlt).trans h2, (hb.cell (p := ⟨b, off + i * 4 + 3, none⟩) hlt).trans h3⟩

set_option maxHeartbeats 2000000 in
set_option maxRecDepth 100000 in
theorem walk_some (b off len cap : Nat) (ops : Nat → OpD) (hlen : len ≤ 1048576) (htot : tot ops len ≤ 1048576) (hfit : ∀ i, i < len → (ops i).fits) (w : World) (hbw : b < w.heap.size) (hl : Lies w b off len ops) :
    Calls Try.prog 3 #[.slice (some ⟨b, off, none⟩) len cap] w fun e w' => e = .returned (.bool true) ∧ Below w.heap.size w w' := by
  have HL := Lib.hid hl
  have HF := Lib.hid hfit
  have HO := Lib.hid (out_new w)
  have HB := Lib.hid ((Below.refl _ w).alloc (Nat.le_refl w.heap.size) (.cells #[.slice none 0 0] 26))
  clear hl hfit
  go_enter Try.func3, Try.ntmps3
  go_wp2
  go_loopw [4, 5] (fun v i wr => ∃ k : Nat, i = .int .i64 (k : Int) ∧ k ≤ len ∧ k ≤ 100 ∧ v = .string ⟨(tl ops 0 k).toArray⟩ ∧ OutAt wr (w.heap.size + 1) w.heap.size (tl ops 0 k) ∧ Below w.heap.size w wr) (fun _ i _ => len - (intOf i).toNat)
  case atStart => exact ⟨0, rfl, Nat.zero_le _, Nat.zero_le _, rfl, HO.out, HB.out⟩
  case round =>
    obtain ⟨k, rfl, hk, hk100, rfl, ho, hb⟩ := hrel
    have hlk := tl_length ops k
    have htk := tot_mono ops hk
    have hsz := size_mk (tl ops 0 k)
    by_cases hlt : k < len ∧ k < 100
    · obtain ⟨hlt, h100⟩ := hlt
      have d1 : decide (k < len) = true := by simp; omega
      have d2 : decide ((k : Int) < 100) = true := by simp; omega
      have hsk : (ops k).s.size ≤ 1048576 := by
        have h1 := tot_mono ops (show k + 1 ≤ len from hlt)
        rw [tot] at h1
        omega
      have hbl := (ops k).length_le
      have hbsz := size_mk (ops k).bytes
      have HS : Hid (tl ops 0 (k + 1) = tl ops 0 k ++ (ops k).bytes) := by
        have h1 := tl_snoc ops k 0
        rw [Nat.zero_add] at h1
        exact h1
      have HFk := Lib.hid (HF.out k hlt)
      obtain ⟨c0, c1, c2, c3⟩ := HL.out.below hb hbw k hlt
      have HC : Hid (∀ w' : World, Below w.heap.size w w' → w'.cell? ⟨b, off + k * 4, none⟩ = some (.int .i64 (ops k).kind) ∧ w'.cell? ⟨b, off + k * 4 + 1, none⟩ = some (.int .u64 ((ops k).n : Int)) ∧ w'.cell? ⟨b, off + k * 4 + 2, none⟩ = some (.int .i64 (ops k).i) ∧ w'.cell? ⟨b, off + k * 4 + 3, none⟩ = some (.string (ops k).s)) :=
        fun w' h => HL.out.below h hbw k hlt
      generalize ops k = o at *
      go_wp2_with fail
      refine (put_any _ (w.heap.size + 1) w.heap.size _ o HFk.out ho (by omega)).mono ?_
      rintro e w1 ⟨rfl, ho1, hf1⟩
      have hb1 : Below w.heap.size w w1 := hb.trans (hf1.below (Nat.le_refl _) (by omega))
      have HB1 := Lib.hid hb1
      obtain ⟨e0, e1, e2, e3⟩ := HC.out w1 hb1
      clear c0 c1 c2 c3 hb1
      go_wp2_with fail
      refine (refPut_any _ o HFk.out (by omega)).mono ?_
      rintro e w2 ⟨rfl, hb2⟩
      have ho2 := ho1.kept hb2 (Nat.le_refl _)
      have HO2 := Lib.hid ho2
      clear ho2
      clear e0 e1 e2 e3
      go_wp2
      refine ⟨⟨k + 1, by go_num, by omega, by omega, ?_, ?_, HB1.out.trans (hb2.mono HB1.out.size)⟩, ?_⟩
      · rw [HS.out, ← mk_append]
      · rw [HS.out]
        exact HO2.out
      · simp [intOf]
        omega
    · go_wp2_with fail
      all_goals
        refine (done_any _ _ _ _ ho).mono ?_
        rintro e w1 ⟨rfl, rfl⟩
        go_wp2_with fail
        refine (lives_any _).mono ?_
        rintro e w1 ⟨rfl, hb1⟩
        go_wp2
        go_ret
        exact ⟨rfl, hb.trans (hb1.mono hb.size)⟩

set_option maxHeartbeats 1000000 in
theorem walk_none (A : Option Addr) (cap : Nat) (w : World) :
    Calls Try.prog 3 #[.slice A 0 cap] w fun e w' => e = .returned (.bool true) ∧ Below w.heap.size w w' := by
  have HO := Lib.hid (out_new w)
  have HB := Lib.hid ((Below.refl _ w).alloc (Nat.le_refl w.heap.size) (.cells #[.slice none 0 0] 26))
  go_enter Try.func3, Try.ntmps3
  go_wp2
  go_loopw [4, 5] (fun v i wr => i = .int .i64 0 ∧ v = .string ⟨#[]⟩ ∧ OutAt wr (w.heap.size + 1) w.heap.size [] ∧ Below w.heap.size w wr) (fun _ _ _ => 0)
  case atStart => exact ⟨rfl, rfl, HO.out, HB.out⟩
  case round =>
    obtain ⟨rfl, rfl, ho, hb⟩ := hrel
    go_wp2_with fail
    refine (done_any _ _ _ _ ho).mono ?_
    rintro e w1 ⟨rfl, rfl⟩
    go_wp2_with fail
    refine (lives_any _).mono ?_
    rintro e w1 ⟨rfl, hb1⟩
    go_wp2
    go_ret
    exact ⟨rfl, hb.trans (hb1.mono hb.size)⟩
end Go.Proofs.Ytlbnmlcdjkaiiaa.octetWrites
