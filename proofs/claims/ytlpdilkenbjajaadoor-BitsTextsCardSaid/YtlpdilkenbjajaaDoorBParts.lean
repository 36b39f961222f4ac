/-
  The plain mathematics of a set's text that is read part by part, from comma to comma: it comes to just what the document's reading says. It speaks of numbers and lists alone.
-/
import Derived.Test.YtlpdilkenbjajaaDoorBText
import Derived.Test.YtlpdilkenbjajaaDoorBMore
import Derived.Lib.IndexLaws
import Derived.Lib.AtoiAll
namespace Go.Proofs.YtlpdilkenbjajaaDoor.bits

/-- The parts of a text, from comma to comma. -/
def parts : List UInt8 → List (List UInt8)
  | [] => [[]]
  | c :: t => if c = 44 then [] :: parts t else match parts t with
    | [] => [[c]]
    | p :: ps => (c :: p) :: ps
def join : List (List UInt8) → List UInt8
  | [] => []
  | [p] => p
  | p :: q :: ps => p ++ 44 :: join (q :: ps)
theorem parts_ne (t : List UInt8) : ∃ p ps, parts t = p :: ps := by
  cases t with
  | nil => exact ⟨_, _, rfl⟩
  | cons c t =>
    rw [parts]
    split
    · exact ⟨_, _, rfl⟩
    · split
      · exact ⟨_, _, rfl⟩
      · exact ⟨_, _, rfl⟩
theorem join_parts (t : List UInt8) : join (parts t) = t := by
  induction t with
  | nil => rfl
  | cons c t ih =>
    obtain ⟨p, ps, hp⟩ := parts_ne t
    rw [hp] at ih
    rw [parts, hp]
    by_cases hc : c = 44
    · rw [if_pos hc, join, ih, hc]
      rfl
    · rw [if_neg hc]
      cases ps with
      | nil =>
        rw [join] at ih ⊢
        rw [ih]
      | cons q ps =>
        rw [join] at ih ⊢
        rw [List.cons_append, ih]
theorem parts_plain {p : List UInt8} (h : ∀ k : Nat, p[k]? ≠ some 44) : parts p = [p] := by
  induction p with
  | nil => rfl
  | cons c p ih =>
    have hc : c ≠ 44 := fun e => h 0 (by rw [e]; rfl)
    rw [parts, if_neg hc, ih (fun k => by have := h (k + 1); simpa using this)]
theorem parts_cut {p r : List UInt8} (h : ∀ k : Nat, p[k]? ≠ some 44) : parts (p ++ 44 :: r) = p :: parts r := by
  induction p with
  | nil => rw [List.nil_append, parts, if_pos rfl]
  | cons c p ih =>
    have hc : c ≠ 44 := fun e => h 0 (by rw [e]; rfl)
    rw [List.cons_append, parts, if_neg hc, ih (fun k => by have := h (k + 1); simpa using this)]
theorem dig_plain : ∀ a, a < 64 → ∀ c ∈ dig a, c ≠ 44 := by decide +kernel
theorem dig_plain' {a : Nat} (ha : a < 64) (k : Nat) : (dig a)[k]? ≠ some 44 := fun h => dig_plain a ha 44 (List.mem_of_getElem? h) rfl
theorem parts_txt (l : List Nat) (h : ∀ n ∈ l, n < 64) (hne : l ≠ []) : parts (txt l) = l.map dig := by
  induction l with
  | nil => exact absurd rfl hne
  | cons a l ih =>
    have ha := h a (List.mem_cons_self ..)
    cases l with
    | nil => exact parts_plain (dig_plain' ha)
    | cons b l =>
      rw [txt, parts_cut (dig_plain' ha), ih (fun n hn => h n (List.mem_cons_of_mem _ hn)) (by simp)]
      rfl
theorem join_dig (l : List Nat) : join (l.map dig) = txt l := by
  induction l with
  | nil => rfl
  | cons a l ih =>
    cases l with
    | nil => rfl
    | cons b l =>
      show dig a ++ 44 :: join ((b :: l).map dig) = _
      rw [ih]
      rfl

/-- The number of a set that a word is; -1, if it is none's. -/
def pnum (p : List UInt8) : Int := match (List.range 64).find? fun n => dig n == p with
  | some n => (n : Int)
  | none => -1
theorem pnum_find : ∀ n, n < 64 → ((List.range 64).find? fun m => dig m == dig n) = some n := by decide +kernel
theorem pnum_dig {n : Nat} (h : n < 64) : pnum (dig n) = (n : Int) := by unfold pnum; rw [pnum_find n h]
theorem pnum_some {p : List UInt8} (h : pnum p ≠ -1) : ∃ n : Nat, n < 64 ∧ p = dig n ∧ pnum p = (n : Int) := by
  unfold pnum at h ⊢
  cases hf : (List.range 64).find? fun n => dig n == p with
  | none => rw [hf] at h; exact absurd rfl h
  | some n =>
    have h1 := List.find?_some hf
    have h2 := List.mem_of_find?_eq_some hf
    exact ⟨n, by simpa using h2, (by simpa using h1 : dig n = p).symm, rfl⟩
theorem pnum_ge (p : List UInt8) : -1 ≤ pnum p ∧ pnum p < 64 := by
  by_cases h : pnum p = -1
  · omega
  · obtain ⟨n, h1, _, h2⟩ := pnum_some h
    omega
theorem atoi_dig : ∀ n, n < 64 → Lib.atoiAll (dig n) = .ok (n : Int) := by decide +kernel

/-- The parts read one by one, each above the one ahead of it. -/
def run : List (List UInt8) → Nat → Int → Nat × Bool
  | [], s, _ => (s, true)
  | p :: ps, s, last => if pnum p ≤ last then (0, false) else run ps (wth s (pnum p)) (pnum p)
def prog (t : List UInt8) : Nat × Bool := if t = [45] then (0, true) else run (parts t) 0 (-1)

theorem run_some (ps : List (List UInt8)) : ∀ (s : Nat) (last : Int) (s' : Nat), -1 ≤ last → run ps s last = (s', true) →
    ∃ l : List Nat, ps = l.map dig ∧ (∀ n ∈ l, n < 64 ∧ last < (n : Int)) ∧ l.Pairwise (· < ·) ∧ s' = l.foldl ins s := by
  induction ps with
  | nil =>
    intro s last s' _ h
    injection h with h1 _
    exact ⟨[], rfl, by simp, List.Pairwise.nil, h1.symm⟩
  | cons p ps ih =>
    intro s last s' hl h
    rw [run] at h
    split at h
    · injection h with _ h2
      cases h2
    · rename_i hlt
      obtain ⟨n, hn, hp, hpn⟩ := pnum_some (p := p) (by omega)
      rw [hpn] at h hlt
      obtain ⟨l, h1, h2, h3, h4⟩ := ih _ _ _ (by omega) h
      refine ⟨n :: l, by rw [h1, hp]; rfl, ?_, ?_, ?_⟩
      · intro m hm
        rcases List.mem_cons.1 hm with rfl | hm
        · exact ⟨hn, by omega⟩
        · have := h2 m hm
          exact ⟨this.1, by omega⟩
      · rw [List.pairwise_cons]
        refine ⟨fun m hm => ?_, h3⟩
        have := (h2 m hm).2
        omega
      · rw [h4, List.foldl_cons]
        unfold wth
        rw [if_pos (by unfold may; omega)]
        rfl
theorem run_dig (l : List Nat) : ∀ (s : Nat) (last : Int), (∀ n ∈ l, n < 64 ∧ last < (n : Int)) → l.Pairwise (· < ·) → run (l.map dig) s last = (l.foldl ins s, true) := by
  induction l with
  | nil => intro s last _ _; rfl
  | cons n l ih =>
    intro s last h hp
    have hn := h n (List.mem_cons_self ..)
    rw [List.pairwise_cons] at hp
    rw [List.map_cons, run, pnum_dig hn.1, if_neg (by omega), ih _ _ (fun m hm => ⟨(h m (List.mem_cons_of_mem _ hm)).1, by have := hp.1 m hm; omega⟩) hp.2, List.foldl_cons]
    unfold wth
    rw [if_pos (by unfold may; omega)]
    rfl
theorem run_false (ps : List (List UInt8)) : ∀ (s : Nat) (last : Int), (run ps s last).2 = false → run ps s last = (0, false) := by
  induction ps with
  | nil => intro s last h; cases h
  | cons p ps ih =>
    intro s last h
    rw [run] at h ⊢
    split
    · rfl
    · rename_i hlt
      rw [if_neg hlt] at h
      exact ih _ _ h
theorem els_ofs {l : List Nat} (h : ∀ n ∈ l, n < 64) (hp : l.Pairwise (· < ·)) : els (ofs l) = l := by
  have e : ∀ a b : List Nat, a.Pairwise (· < ·) → b.Pairwise (· < ·) → (∀ x, x ∈ a ↔ x ∈ b) → a = b := by
    intro a
    induction a with
    | nil =>
      intro b _ _ hm
      cases b with
      | nil => rfl
      | cons y b => exact absurd ((hm y).2 (List.mem_cons_self ..)) (by simp)
    | cons x a ih =>
      intro b ha hb hm
      cases b with
      | nil => exact absurd ((hm x).1 (List.mem_cons_self ..)) (by simp)
      | cons y b =>
        rw [List.pairwise_cons] at ha hb
        have hxy : x = y := by
          rcases List.mem_cons.1 ((hm x).1 (List.mem_cons_self ..)) with h1 | h1
          · exact h1
          · rcases List.mem_cons.1 ((hm y).2 (List.mem_cons_self ..)) with h2 | h2
            · exact h2.symm
            · have := hb.1 x h1
              have := ha.1 y h2
              omega
        subst hxy
        rw [ih b ha.2 hb.2 fun z => ?_]
        constructor
        · intro hz
          rcases List.mem_cons.1 ((hm z).1 (List.mem_cons_of_mem _ hz)) with h1 | h1
          · have := ha.1 z hz
            omega
          · exact h1
        · intro hz
          rcases List.mem_cons.1 ((hm z).2 (List.mem_cons_of_mem _ hz)) with h1 | h1
          · have := hb.1 z hz
            omega
          · exact h1
  refine e _ _ (els_rising _) hp fun x => ?_
  rw [mem_els, testBit_ofs, decide_eq_true_iff]
  exact ⟨fun hx => hx.2, fun hx => ⟨h x hx, hx⟩⟩

/-- Part by part it comes to what the document says. -/
theorem prog_strict (t : List UInt8) : prog t = strict t := by
  unfold prog
  by_cases h45 : t = [45]
  · rw [if_pos h45, h45]
    exact (strict_yes (s := 0) (by unfold Is64; omega) (by unfold text; rw [if_pos els_zero])).symm
  · rw [if_neg h45]
    by_cases hr : (run (parts t) 0 (-1)).2 = true
    · obtain ⟨s', hs'⟩ : ∃ s', run (parts t) 0 (-1) = (s', true) := ⟨_, Prod.ext rfl hr⟩
      obtain ⟨l, h1, h2, h3, h4⟩ := run_some _ _ _ _ (by omega) hs'
      have h64 : ∀ n ∈ l, n < 64 := fun n hn => (h2 n hn).1
      have hne : l ≠ [] := by
        intro e
        obtain ⟨p, ps, hp⟩ := parts_ne t
        rw [e, hp] at h1
        cases h1
      have he : els s' = l := by rw [h4]; exact els_ofs h64 h3
      rw [hs']
      refine (strict_yes (s := s') (by rw [h4]; exact ofs_lt h64) ?_).symm
      unfold text
      rw [he, if_neg hne, ← join_dig, ← h1, join_parts]
    · have hf := run_false (parts t) 0 (-1) (by simpa using hr)
      rw [hf]
      refine (strict_no fun s hs ht => ?_).symm
      unfold text at ht
      split at ht
      · exact h45 ht.symm
      · rename_i hne
        rw [← ht, parts_txt _ (fun n hn => (mem_els.1 hn).1) hne, run_dig _ _ _ (fun n hn => ⟨(mem_els.1 hn).1, by omega⟩) (els_rising s)] at hf
        injection hf with _ hf
        cases hf

/-- One part is cut off. -/
theorem cut_none {t : List UInt8} (h : Lib.indexByte t 44 = -1) : parts t = [t] := parts_plain (Lib.indexByte_none h)
theorem cut_some {t : List UInt8} {o : Nat} (h : Lib.indexByte t 44 = (o : Int)) : o < t.length ∧ parts t = t.take o :: parts (t.drop (o + 1)) := by
  obtain ⟨h1, h2⟩ := Lib.indexByte_some h
  obtain ⟨ho, he⟩ := List.getElem?_eq_some_iff.1 h1
  refine ⟨ho, ?_⟩
  have e : t = t.take o ++ 44 :: t.drop (o + 1) := by
    rw [← he, ← List.drop_eq_getElem_cons ho, List.take_append_drop]
  have hp : ∀ k : Nat, (t.take o)[k]? ≠ some 44 := by
    intro k hk
    rw [List.getElem?_take] at hk
    split at hk
    · exact h2 k (by assumption) hk
    · cases hk
  conv => lhs; rw [e]
  exact parts_cut hp
end Go.Proofs.YtlpdilkenbjajaaDoor.bits
