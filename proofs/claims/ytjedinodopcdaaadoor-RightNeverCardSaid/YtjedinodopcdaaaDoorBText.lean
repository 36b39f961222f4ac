/-
  The plain mathematics of a set's text: its numbers in decimals, rising, with a comma between each two; and that a text that is read digit by digit gives back the set that it is of. It speaks of numbers and lists alone.
-/
import Derived.Test.YtjedinodopcdaaaDoorBPlain
namespace Go.Proofs.YtjedinodopcdaaaDoor.bits

/-- A number below 100 in decimals. -/
def dig (n : Nat) : List UInt8 := if n < 10 then [UInt8.ofNat (48 + n)] else [UInt8.ofNat (48 + n / 10), UInt8.ofNat (48 + n % 10)]
def txt : List Nat → List UInt8
  | [] => []
  | [a] => dig a
  | a :: b :: l => dig a ++ 44 :: txt (b :: l)
def text (s : Nat) : List UInt8 := if els s = [] then [45] else txt (els s)

/-- A number more, if it is one of those that may be. -/
def ins64 (s n : Nat) : Nat := if n < 64 then ins s n else s
/-- What the digits of a text say: the set so far, the number so far, how many digits it has. -/
def loose : List UInt8 → Nat → Nat → Nat → Nat
  | [], s, n, many => if 0 < many then ins64 s n else s
  | c :: t, s, n, many => if (48 ≤ c.toNat ∧ c.toNat ≤ 57) ∧ many < 3 then loose t s (10 * n + (c.toNat - 48)) (many + 1) else loose t (if 0 < many then ins64 s n else s) 0 0
def strict (t : List UInt8) : Nat × Bool := if text (loose t 0 0 0) = t then (loose t 0 0 0, true) else (0, false)

theorem loose_dig {a : Nat} (ha : a < 64) (r : List UInt8) (s : Nat) : ∃ m, 0 < m ∧ m ≤ 2 ∧ loose (dig a ++ r) s 0 0 = loose r s a m := by
  unfold dig
  by_cases h : a < 10
  · rw [if_pos h]
    have e : (UInt8.ofNat (48 + a)).toNat = 48 + a := by rw [UInt8.toNat_ofNat']; omega
    refine ⟨1, by omega, by omega, ?_⟩
    show loose (UInt8.ofNat (48 + a) :: r) s 0 0 = _
    rw [loose, if_pos ⟨by rw [e]; omega, by omega⟩, e]
    congr 1
    omega
  · rw [if_neg h]
    have e : (UInt8.ofNat (48 + a / 10)).toNat = 48 + a / 10 := by rw [UInt8.toNat_ofNat']; omega
    have e' : (UInt8.ofNat (48 + a % 10)).toNat = 48 + a % 10 := by rw [UInt8.toNat_ofNat']; omega
    refine ⟨2, by omega, by omega, ?_⟩
    show loose (UInt8.ofNat (48 + a / 10) :: UInt8.ofNat (48 + a % 10) :: r) s 0 0 = _
    rw [loose, if_pos ⟨by rw [e]; omega, by omega⟩, loose, if_pos ⟨by rw [e']; omega, by omega⟩, e, e']
    congr 1
    omega
theorem loose_txt (l : List Nat) : ∀ s, (∀ n ∈ l, n < 64) → loose (txt l) s 0 0 = l.foldl ins s := by
  induction l with
  | nil => intro s _; rfl
  | cons a l ih =>
    intro s h
    have ha : a < 64 := h a (List.mem_cons_self ..)
    cases l with
    | nil =>
      obtain ⟨m, h1, _, h2⟩ := loose_dig ha [] s
      rw [txt, ← List.append_nil (dig a), h2, loose, if_pos h1]
      unfold ins64
      rw [if_pos ha]
      rfl
    | cons b l =>
      obtain ⟨m, h1, _, h2⟩ := loose_dig ha (44 :: txt (b :: l)) s
      rw [txt, h2, loose, if_neg (fun hh => absurd hh.1.1 (by decide)), if_pos h1, ih _ fun n hn => h n (List.mem_cons_of_mem _ hn)]
      unfold ins64
      rw [if_pos ha]
      rfl
theorem loose_text {s : Nat} (hs : Is64 s) : loose (text s) 0 0 0 = s := by
  unfold text
  by_cases h : els s = []
  · rw [if_pos h]
    have h0 : ofs (els s) = s := ofs_els hs
    rw [h] at h0
    rw [← h0]
    rfl
  · rw [if_neg h, loose_txt _ 0 fun n hn => (mem_els.1 hn).1]
    exact ofs_els hs
/-- Each set comes back; and no two sets have one text. -/
theorem strict_text {s : Nat} (hs : Is64 s) : strict (text s) = (s, true) := by
  unfold strict
  rw [loose_text hs, if_pos rfl]
theorem text_inj {s t : Nat} (hs : Is64 s) (ht : Is64 t) (h : text s = text t) : s = t := by
  rw [← loose_text hs, ← loose_text ht, h]
theorem ins64_lt {s n : Nat} (hs : Is64 s) : Is64 (ins64 s n) := by
  unfold ins64
  split
  · exact ins_lt hs (by assumption)
  · exact hs
theorem loose_lt (t : List UInt8) : ∀ s n many, Is64 s → Is64 (loose t s n many) := by
  induction t with
  | nil =>
    intro s n many hs
    rw [loose]
    split
    · exact ins64_lt hs
    · exact hs
  | cons c t ih =>
    intro s n many hs
    rw [loose]
    split
    · exact ih _ _ _ hs
    · refine ih _ _ _ ?_
      split
      · exact ins64_lt hs
      · exact hs
/-- The set whose text it is, if it is one's. -/
theorem strict_yes {t : List UInt8} {s : Nat} (hs : Is64 s) (h : text s = t) : strict t = (s, true) := by rw [← h, strict_text hs]
theorem strict_no {t : List UInt8} (h : ∀ s, Is64 s → text s ≠ t) : strict t = (0, false) := by
  unfold strict
  rw [if_neg (h _ (loose_lt t 0 0 0 (by unfold Is64; omega)))]

end Go.Proofs.YtjedinodopcdaaaDoor.bits
