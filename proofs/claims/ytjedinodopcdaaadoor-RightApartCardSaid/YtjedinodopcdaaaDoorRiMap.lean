/-
  Rights as they lie in a map whose keys are structs of a thread and an object: what a key reads as; that there are few; what a put and a deletion make of it. No condition.
-/
import Derived.Test.YtjedinodopcdaaaDoorRiPlain
import Derived.Test.YtjedinodopcdaaaDoorObjKit
import Derived.Maps.RangeWalk
import Derived.Maps.OwnSet
import Derived.DeepKeys4
import Derived.KernelRfl
namespace Go.Proofs.YtjedinodopcdaaaDoor.rig
open Go.RowKit Go.ChangeShapes Go.WideShapes
open Go.Proofs.YtjedinodopcdaaaDoor.obj (I64 U64)
open Go.Proofs.YtjedinodopcdaaaDoor.bits (hasB)
set_option linter.unusedVariables false
set_option linter.unusedSimpArgs false

theorem laid_out : laidOutB Tryd.prog = true := by kernel_rfl
theorem key_wide : (match Tryd.prog.underlying 54 with | some (.array _ _) | some (.struct _) => true | _ => false) = true := by kernel_rfl
theorem kLaw : Maps.Keyed Tryd.prog 54 := Maps.Keyed.of_law (deep_law_laid laid_out (m := 2) (by omega) (of_decide_eq_true (by kernel_rfl)) (by kernel_rfl) key_wide)
theorem unitZ (w : World) : (zeroValue 55).run Tryd.prog w = .ok (.agg #[]) w := by kernel_rfl

def keyV (t o : Int) : Value := .agg #[.int .i64 t, .int .i64 o]
def keyL (t o : Int) : Lit := .string (keyBytes [.int .i64 t, .int .i64 o])
theorem wf_of {t : Int} (h : I64 t) : (Lit.int .i64 t).wf = true := by
  unfold I64 at h
  simp [Lit.wf, IntKind.min, IntKind.max, IntKind.signed, IntKind.bits]
  omega
theorem key_lits (d : Nat) {t o : Int} (ht : I64 t) (ho : I64 o) : Tryd.prog.keyLits (d + 2) 54 [.int .i64 t, .int .i64 o] = some [.int .i64 t, .int .i64 o] := by
  have c0 : Tryd.prog.cellsOf 54 = 2 := by kernel_rfl
  have c1 : Tryd.prog.cellsOf 3 = 1 := by kernel_rfl
  simp [Program.keyLits, Tryd.underlying54, Tryd.underlying3, c0, c1, wf_of ht, wf_of ho]
theorem key_is {t o : Int} (ht : I64 t) (ho : I64 o) : keyOf Tryd.prog 54 (keyV t o) = some (keyL t o) := by
  have hk : Tryd.prog.keyType 54 = true := by kernel_rfl
  have c0 : Tryd.prog.cellsOf 54 = 2 := by kernel_rfl
  have hf : (keyV t o).formed Tryd.prog 54 = true := by
    simp [Value.formed, keyV, Tryd.underlying54, c0]
  obtain ⟨d, hd⟩ : ∃ d, Tryd.prog.types.size + 1 = d + 2 := ⟨Tryd.prog.types.size - 1, by
    have : (2 : Nat) ≤ Tryd.prog.types.size := of_decide_eq_true (by kernel_rfl)
    omega⟩
  have hl := key_lits d ht ho
  unfold keyOf
  simp only [Tryd.underlying54, hk, hf, hd]
  show Option.map _ (Tryd.prog.keyLits (d + 2) 54 [.int .i64 t, .int .i64 o]) = _
  rw [hl]
  rfl
theorem int_inv (d : Nat) {a : Value} {L : List Lit} (h : Tryd.prog.keyLits (d + 1) 3 [a] = some L) : ∃ t, a = .int .i64 t ∧ I64 t ∧ L = [.int .i64 t] := by
  obtain ⟨n, h1, h2⟩ := keyLits_int' Tryd.underlying3 h
  injection h1 with h1
  subst h1 h2
  refine ⟨n, rfl, ?_, rfl⟩
  unfold Program.keyLits at h
  simp only [Tryd.underlying3] at h
  split at h
  · rename_i hh
    exact obj.i64_of hh.2
  · cases h
theorem key_lits_inv (d : Nat) {cs : List Value} {L : List Lit} (h : Tryd.prog.keyLits (d + 2) 54 cs = some L) : ∃ t o, cs = [.int .i64 t, .int .i64 o] ∧ I64 t ∧ I64 o := by
  have c0 : Tryd.prog.cellsOf 54 = 2 := by kernel_rfl
  have c1 : Tryd.prog.cellsOf 3 = 1 := by kernel_rfl
  have hlen : cs.length = 2 := by
    simp only [Program.keyLits, Tryd.underlying54, c0] at h
    split at h
    · rename_i hh; exact hh.1
    · cases h
  match cs, hlen with
  | [a, b], _ =>
    unfold Program.keyLits at h
    simp only [Tryd.underlying54, c0, c1] at h
    simp only [List.length_cons, List.length_nil, if_true] at h
    cases e1 : Tryd.prog.keyLits (d + 1) 3 [a] with
    | none => simp [c1, e1] at h
    | some L1 =>
      cases e2 : Tryd.prog.keyLits (d + 1) 3 [b] with
      | none => simp [c1, e1, e2] at h
      | some L2 =>
        obtain ⟨t, rfl, ht, _⟩ := int_inv d e1
        obtain ⟨o, rfl, ho, _⟩ := int_inv d e2
        exact ⟨t, o, rfl, ht, ho⟩
/-- What reads as a key is a thread and an object. -/
theorem key_inv {v : Value} {l : Lit} (h : keyOf Tryd.prog 54 v = some l) : ∃ t o, v = keyV t o ∧ I64 t ∧ I64 o ∧ l = keyL t o := by
  have h0 := h
  obtain ⟨d, hd⟩ : ∃ d, Tryd.prog.types.size + 1 = d + 2 := ⟨Tryd.prog.types.size - 1, by
    have : (2 : Nat) ≤ Tryd.prog.types.size := of_decide_eq_true (by kernel_rfl)
    omega⟩
  unfold keyOf at h
  simp only [Tryd.underlying54, hd] at h
  split at h
  · rename_i hf
    simp only [Bool.and_eq_true] at hf
    have hf1 := hf.2
    cases e : Tryd.prog.keyLits (d + 2) 54 v.cells.toList with
    | none => rw [e] at h; cases h
    | some L =>
      obtain ⟨t, o, hc, ht, ho⟩ := key_lits_inv d e
      cases v <;> simp [Value.formed, Tryd.underlying54] at hf1
      rename_i cs
      have hc' : cs = #[.int .i64 t, .int .i64 o] := Array.toList_inj.1 hc
      subst hc'
      refine ⟨t, o, rfl, ht, ho, ?_⟩
      exact (Option.some.inj ((key_is ht ho).symm.trans h0)).symm
  · cases h
theorem keyL_inj {t o u p : Int} (ht : I64 t) (ho : I64 o) (hu : I64 u) (hp : I64 p) (h : keyL t o = keyL u p) : t = u ∧ o = p := by
  have := kLaw.inj (key_is ht ho) (h ▸ key_is hu hp)
  unfold keyV at this
  injection this with h1
  have h2 := congrArg Array.toList h1
  simp at h2
  exact h2
theorem keyL_key {t o : Int} (ht : I64 t) (ho : I64 o) : WideAt.IsKeyLit (keyL t o) := kLaw.key (key_is ht ho)
theorem has_put {D : DataW Unit} (hD : Maps.IsMap D) {t o u p : Int} (ht : I64 t) (ho : I64 o) (hu : I64 u) (hp : I64 p) (d : DataW Unit) :
    Maps.has (D.put (keyL t o) d) (keyL u p) = (Maps.has D (keyL u p) || decide (u = t ∧ p = o)) := by
  by_cases e : u = t ∧ p = o
  · obtain ⟨rfl, rfl⟩ := e
    rw [Maps.has_put_same hD (keyL_key hu hp)]
    simp
  · rw [Maps.has_put_other (fun h => e (keyL_inj hu hp ht ho h))]
    simp [e]
theorem has_del {D : DataW Unit} {t o u p : Int} (ht : I64 t) (ho : I64 o) (hu : I64 u) (hp : I64 p) :
    Maps.has (D.del (keyL t o)) (keyL u p) = (Maps.has D (keyL u p) && !decide (u = t ∧ p = o)) := by
  by_cases e : u = t ∧ p = o
  · obtain ⟨rfl, rfl⟩ := e
    rw [Maps.has_del_same]
    simp
  · rw [Maps.has_del_other (fun h => e (keyL_inj hu hp ht ho h))]
    simp [e]

/-- So many different numbers, each below N. -/
theorem pigeon : ∀ (N : Nat) (l : List Nat), l.Nodup → (∀ x ∈ l, x < N) → l.length ≤ N
  | 0, l, _, h => by
    cases l with
    | nil => exact Nat.le_refl _
    | cons a r => exact absurd (h a (by simp)) (by omega)
  | N + 1, l, hn, h => by
    have ih := pigeon N (l.erase N) (hn.erase N) (fun x hx => by
      have h1 := (hn.mem_erase_iff).1 hx
      have h2 := h x h1.2
      omega)
    rw [List.length_erase] at ih
    split at ih <;> omega
def codeV : Value → Nat
  | .agg #[.int _ t, .int _ o] => (t * 32 + o).toNat
  | _ => 0
/-- What is kept is rights of threads alone, on objects alone: so there are few. -/
theorem few {w : World} {b n : Nat} {D : DataW Unit} (h : w.ownsMap Tryd.prog 54 unitElem b n D)
    (hD : ∀ t o, I64 t → I64 o → Maps.has D (keyL t o) = true → 0 ≤ t ∧ t < 64 ∧ 0 ≤ o ∧ o < 32) : w.ownsMap Tryd.prog 54 unitElem b 2048 D := by
  obtain ⟨es, clock, hb, F, hs, rfl⟩ := h
  refine ⟨es, clock, hb, F, ?_, rfl⟩
  have hkey : ∀ x ∈ es.toList, ∃ t o, x.key = keyV t o ∧ 0 ≤ t ∧ t < 64 ∧ 0 ≤ o ∧ o < 32 := by
    intro x hx
    obtain ⟨y, hy⟩ := F.reads x hx
    obtain ⟨t, o, e1, ht, ho, e2⟩ := key_inv (WideElems.rd_key hy)
    refine ⟨t, o, e1, hD t o ht ho ?_⟩
    refine List.any_eq_true.2 ⟨WideElems.rg Tryd.prog 54 unitElem x, mem_sorted.2 (List.mem_map.2 ⟨x, hx, rfl⟩), ?_⟩
    rw [WideElems.rg_of hy, e2]
    exact WideAt.sameKey_self (keyL_key ht ho)
  have hne := ((MapKept.stamped_iff es clock).1 F.stamped).2.2
  have hnd : (es.toList.map fun x => codeV x.key).Nodup := by
    rw [List.Nodup, List.pairwise_map]
    refine List.Pairwise.imp_of_mem (fun {x y} hx hy hxy e => hxy ?_) hne
    obtain ⟨t, o, e1, h1, h2, h3, h4⟩ := hkey x hx
    obtain ⟨u, p, e2, h5, h6, h7, h8⟩ := hkey y hy
    rw [e1, e2] at e ⊢
    have e' : (t * 32 + o).toNat = (u * 32 + p).toNat := e
    obtain rfl : t = u := by omega
    obtain rfl : o = p := by omega
    rfl
  have := pigeon 2048 _ hnd (fun c hc => by
    obtain ⟨x, hx, rfl⟩ := List.mem_map.1 hc
    obtain ⟨t, o, e1, h1, h2, h3, h4⟩ := hkey x hx
    rw [e1]
    show (t * 32 + o).toNat < 2048
    omega)
  simpa using this

/-- The map in block b holds just these rights. -/
def MapS (w : World) (b : Nat) (l : List Nat) : Prop :=
  ∃ D : DataW Unit, w.ownsMap Tryd.prog 54 unitElem b 2048 D ∧ ∀ t o, I64 t → I64 o → Maps.has D (keyL t o) = hasB (rv l t) o
theorem owns_same {w w' : World} {b n : Nat} {D : DataW Unit} (h : w.ownsMap Tryd.prog 54 unitElem b n D) (hb : w'.heap[b]? = w.heap[b]?) : w'.ownsMap Tryd.prog 54 unitElem b n D := by
  obtain ⟨es, clock, h1, r⟩ := h
  exact ⟨es, clock, hb.trans h1, r⟩
theorem MapS.same {w w' : World} {b : Nat} {l : List Nat} (h : MapS w b l) (hb : w'.heap[b]? = w.heap[b]?) : MapS w' b l := by
  obtain ⟨D, h1, h2⟩ := h
  exact ⟨D, owns_same h1 hb, h2⟩
theorem MapS.lt {w : World} {b : Nat} {l : List Nat} (h : MapS w b l) : b < w.heap.size := by
  obtain ⟨D, h1, h2⟩ := h
  exact h1.lt
theorem MapS.isMap {w : World} {b : Nat} {l : List Nat} (h : MapS w b l) : ∃ es c, w.heap[b]? = some (.map es c) := by
  obtain ⟨D, ⟨es, c, h1, _⟩, _⟩ := h
  exact ⟨es, c, h1⟩
theorem MapS.made (w : World) : MapS (w.alloc (.map #[] 0)) w.heap.size zerosR :=
  ⟨.map [], (World.ownsMap_made _ _ _ _).mono (by omega), fun t o _ _ => by
    rw [rv_zeros, hasB_zero]
    rfl⟩
/-- Only threads have rights, and only on objects. -/
theorem in_range {l : List Nat} (h : Fine l) {t o : Int} (hh : hasB (rv l t) o = true) : 0 ≤ t ∧ t < 64 ∧ 0 ≤ o ∧ o < 32 := by
  have h1 : 0 ≤ t ∧ t < 64 := by
    refine Decidable.byContradiction fun hn => ?_
    rw [rv_out (by omega), hasB_zero] at hh
    cases hh
  have h2 : 0 ≤ o ∧ o < 64 := by
    refine Decidable.byContradiction fun hn => ?_
    rw [hasB_none _ hn] at hh
    cases hh
  have h3 : o < 32 := by
    refine Decidable.byContradiction fun hn => ?_
    rw [hasB_high (rv_lt h t) (by omega)] at hh
    cases hh
  exact ⟨h1.1, h1.2, h2.1, h3⟩
/-- A map that holds just these, whatever is known of how many there are. -/
theorem MapS.of {w : World} {b n : Nat} {D : DataW Unit} {l : List Nat} (h : w.ownsMap Tryd.prog 54 unitElem b n D) (hl : Fine l)
    (hD : ∀ t o, I64 t → I64 o → Maps.has D (keyL t o) = hasB (rv l t) o) : MapS w b l :=
  ⟨D, few h (fun t o ht ho hh => in_range hl (by rw [← hD t o ht ho]; exact hh)), hD⟩
end Go.Proofs.YtjedinodopcdaaaDoor.rig
