/-
  The document's table of operations: names, forms, what is taken and laid, by number; and the first number that has a name. No condition.
-/
import Derived.Lib.Strings
namespace Go.Proofs.Ytjlmgoaglpkhoaa.oper

def nm : List ByteArray := [⟨#[112, 117, 115, 104]⟩, ⟨#[108, 111, 97, 100]⟩, ⟨#[115, 116, 111, 114, 101]⟩, ⟨#[97, 100, 100]⟩, ⟨#[115, 117, 98]⟩, ⟨#[109, 117, 108]⟩, ⟨#[100, 105, 118]⟩, ⟨#[109, 111, 100]⟩, ⟨#[110, 101, 103]⟩, ⟨#[108, 116]⟩, ⟨#[101, 113]⟩, ⟨#[97, 110, 100]⟩, ⟨#[111, 114]⟩, ⟨#[120, 111, 114]⟩, ⟨#[115, 104, 108]⟩, ⟨#[115, 104, 114]⟩, ⟨#[100, 117, 112]⟩, ⟨#[100, 114, 111, 112]⟩, ⟨#[106, 117, 109, 112]⟩, ⟨#[122, 101, 114, 111]⟩, ⟨#[99, 97, 108, 108]⟩, ⟨#[114, 101, 116]⟩, ⟨#[115, 101, 108, 102]⟩, ⟨#[110, 111, 119]⟩, ⟨#[111, 117, 116]⟩, ⟨#[121, 105, 101, 108, 100]⟩, ⟨#[119, 97, 105, 116]⟩, ⟨#[119, 97, 105, 116, 102, 111, 114]⟩, ⟨#[115, 108, 101, 101, 112]⟩, ⟨#[117, 110, 108, 111, 99, 107]⟩, ⟨#[112, 111, 115, 116]⟩, ⟨#[103, 105, 118, 101]⟩, ⟨#[99, 119, 97, 105, 116]⟩, ⟨#[99, 119, 97, 105, 116, 102, 111, 114]⟩, ⟨#[115, 105, 103, 110, 97, 108]⟩, ⟨#[98, 114, 111, 97, 100, 99, 97, 115, 116]⟩, ⟨#[101, 110, 114, 111, 108]⟩, ⟨#[108, 101, 97, 118, 101]⟩, ⟨#[97, 114, 114, 105, 118, 101]⟩, ⟨#[97, 114, 114, 105, 118, 101, 102, 111, 114]⟩, ⟨#[115, 112, 97, 119, 110]⟩, ⟨#[106, 111, 105, 110]⟩, ⟨#[106, 111, 105, 110, 102, 111, 114]⟩, ⟨#[103, 114, 97, 110, 116]⟩, ⟨#[119, 97, 105, 118, 101]⟩, ⟨#[114, 101, 97, 100]⟩, ⟨#[119, 114, 105, 116, 101]⟩, ⟨#[98, 101, 103, 105, 110]⟩, ⟨#[99, 111, 109, 109, 105, 116]⟩, ⟨#[99, 108, 97, 105, 109]⟩, ⟨#[100, 101, 97, 100]⟩, ⟨#[109, 101, 110, 100]⟩]
def fm : List ByteArray := [⟨#[110]⟩, ⟨#[107]⟩, ⟨#[107]⟩, ⟨#[]⟩, ⟨#[]⟩, ⟨#[]⟩, ⟨#[]⟩, ⟨#[]⟩, ⟨#[]⟩, ⟨#[]⟩, ⟨#[]⟩, ⟨#[]⟩, ⟨#[]⟩, ⟨#[]⟩, ⟨#[]⟩, ⟨#[]⟩, ⟨#[]⟩, ⟨#[]⟩, ⟨#[116]⟩, ⟨#[116]⟩, ⟨#[102]⟩, ⟨#[]⟩, ⟨#[]⟩, ⟨#[]⟩, ⟨#[]⟩, ⟨#[]⟩, ⟨#[119]⟩, ⟨#[119]⟩, ⟨#[]⟩, ⟨#[117]⟩, ⟨#[115]⟩, ⟨#[112]⟩, ⟨#[99, 109]⟩, ⟨#[99, 109]⟩, ⟨#[99]⟩, ⟨#[99]⟩, ⟨#[98]⟩, ⟨#[98]⟩, ⟨#[98]⟩, ⟨#[98]⟩, ⟨#[102]⟩, ⟨#[106, 106]⟩, ⟨#[106, 106]⟩, ⟨#[]⟩, ⟨#[]⟩, ⟨#[118]⟩, ⟨#[118]⟩, ⟨#[]⟩, ⟨#[]⟩, ⟨#[113]⟩, ⟨#[109]⟩, ⟨#[109]⟩]
def tk : List Int := [0, 0, 1, 2, 2, 2, 2, 2, 1, 2, 2, 2, 2, 2, 2, 2, 1, 1, 0, 1, 0, 1, 0, 0, 1, 0, 0, 1, 1, 0, 1, 1, 0, 1, 0, 0, 0, 0, 0, 1, 2, 0, 1, 2, 1, 0, 1, 0, 0, 1, 0, 0]
def ly : List Int := [1, 1, 0, 1, 1, 1, 1, 1, 1, 1, 1, 1, 1, 1, 1, 1, 2, 0, 0, 0, 1, 0, 1, 1, 1, 0, 1, 1, 1, 1, 1, 1, 1, 1, 1, 1, 1, 1, 1, 1, 1, 1, 1, 1, 1, 2, 1, 1, 1, 1, 1, 1]
/-- What stands in a list of texts at a number; the empty text where nothing does. -/
def txt (l : List ByteArray) (n : Int) : ByteArray := if 0 ≤ n ∧ n ≤ 51 then l.getD n.toNat ⟨#[]⟩ else ⟨#[]⟩
def numb (l : List Int) (n : Int) : Int := if 0 ≤ n ∧ n ≤ 51 then l.getD n.toNat 0 else 0
def same (a b : ByteArray) : Bool := a.toList == b.toList
theorem same_iff {a b : ByteArray} : same a b = true ↔ a = b := by
  unfold same
  rw [beq_iff_eq, ByteArray.toList_eq, ByteArray.toList_eq]
  constructor
  · intro h
    cases a; cases b
    simp only [Array.toList_inj] at h
    rw [h]
  · rintro rfl; rfl
/-- The first number that has this name; 52: none. -/
def idx (s : ByteArray) : Nat := nm.findIdx fun x => same x s
theorem nm_length : nm.length = 52 := rfl
theorem fm_length : fm.length = 52 := rfl
theorem tk_length : tk.length = 52 := rfl
theorem ly_length : ly.length = 52 := rfl
theorem idx_le (s : ByteArray) : idx s ≤ 52 := List.findIdx_le_length
theorem idx_of {s : ByteArray} {k : Nat} (h : k ≤ idx s) (hk : k < 52) (he : same (nm.getD k ⟨#[]⟩) s = true) : idx s = k := by
  have hk' : k < nm.length := hk
  rcases Nat.lt_or_ge k (idx s) with h1 | h1
  · have := List.not_of_lt_findIdx (p := fun x => same x s) (xs := nm) h1
    rw [List.getD_eq_getElem?_getD, List.getElem?_eq_getElem hk', Option.getD_some] at he
    simp [he] at this
  · omega
theorem idx_next {s : ByteArray} {k : Nat} (h : k ≤ idx s) (hk : k < 52) (he : same (nm.getD k ⟨#[]⟩) s = false) : k + 1 ≤ idx s := by
  rcases Nat.eq_or_lt_of_le h with h1 | h1
  · exfalso
    have hl : nm.findIdx (fun x => same x s) < nm.length := by show idx s < 52; omega
    have := List.findIdx_getElem (p := fun x => same x s) (xs := nm) (w := hl)
    have e : nm[nm.findIdx (fun x => same x s)]'hl = nm.getD k ⟨#[]⟩ := by
      rw [List.getD_eq_getElem?_getD, List.getElem?_eq_getElem (show k < nm.length from hk), Option.getD_some]
      congr 1
      exact h1.symm
    rw [e, he] at this
    cases this
  · omega
theorem idx_name : ∀ k, k < 52 → idx (nm.getD k ⟨#[]⟩) = k := by decide +kernel
theorem small : ∀ k, k < 52 → ∀ i, i < (nm.getD k ⟨#[]⟩).data.toList.length → 97 ≤ ((nm.getD k ⟨#[]⟩).data.toList.getD i 0).toNat ∧ ((nm.getD k ⟨#[]⟩).data.toList.getD i 0).toNat ≤ 122 := by decide +kernel
theorem name_size : ∀ k, k < 52 → 0 < (nm.getD k ⟨#[]⟩).size ∧ (nm.getD k ⟨#[]⟩).size ≤ 9 := by decide +kernel
theorem form_size : ∀ k, k < 52 → (fm.getD k ⟨#[]⟩).size ≤ 2 := by decide +kernel
end Go.Proofs.Ytjlmgoaglpkhoaa.oper
