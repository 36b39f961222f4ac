/-
  The program's region, and the document's beside it, while calls are made. No condition.
-/
import Derived.Test.YtlkcpplpjjbiaaaReSame
import Derived.Test.YtlkcpplpjjbiaaaReFew
namespace Go.Proofs.Ytlkcpplpjjbiaaa.reg
open Go.RowKit Go.ChangeShapes
open Go.Proofs.Ytlkcpplpjjbiaaa.frames (Fr In GoodN FrsPost turnF)
open Go.Proofs.Ytlkcpplpjjbiaaa.ro (De)
set_option linter.unusedVariables false
set_option linter.unusedSimpArgs false

/-- What was there in w0 lies as it did, and a region lies apart from it. -/
structure Lz (w0 : World) (g : Nat) (A : Option Addr) (c : Nat) (vw vh : Value) (s : St) (W : World) : Prop where
  at_ : AtG W g A c vw vh s
  below : Below w0.heap.size w0 W
  far : w0.heap.size ≤ g
  farw : ∀ b, vw.ownBlock = some b → w0.heap.size ≤ b
  farh : ∀ b, vh.ownBlock = some b → w0.heap.size ≤ b
def Lx (w0 : World) (g : Nat) (s : St) (W : World) : Prop := ∃ A c vw vh, Lz w0 g A c vw vh s W
section
variable {w0 W W' : World} {g : Nat} {s s2 : St} {e : Ending}
theorem Lx.next (h : Lx w0 g s W) (hb : Below W.heap.size W W') : Lx w0 g s W' := by
  obtain ⟨A, c, vw, vh, h⟩ := h
  exact ⟨A, c, vw, vh, h.at_.next hb, h.below.trans (hb.mono h.below.size), h.far, h.farw, h.farh⟩
theorem Lx.below (h : Lx w0 g s W) : Below w0.heap.size w0 W := by
  obtain ⟨A, c, vw, vh, h⟩ := h
  exact h.below
theorem lx_made (hb : Below w0.heap.size w0 W) (h : Made W s e W') : ∃ g, e = .returned (.pointer (some ⟨g, 0, none⟩)) ∧ Lx w0 g s W' := by
  obtain ⟨g, A, c, vw, vh, h1, h2, h3, h4, h5, h6⟩ := h
  have hs := hb.size
  exact ⟨g, h1, A, c, vw, vh, h2, hb.trans (h3.mono hs), by omega, fun b e => by have := h5 b e; omega, fun b e => by have := h6 b e; omega⟩
theorem Lz.does {A : Option Addr} {c : Nat} {vw vh : Value} (h : Lz w0 g A c vw vh s W) (hd : Does W g vw vh s2 e W') : ∃ g2, e = .returned (.pointer (some ⟨g2, 0, none⟩)) ∧ Lx w0 g2 s2 W' := by
  obtain ⟨g2, A2, c2, v1, v2, h1, h2, h3, h4, h5, h6⟩ := hd
  have hs := h.below.size
  refine ⟨g2, h1, A2, c2, v1, v2, h2, Mv.below h.below h3 h.far h.farw h.farh hs, ?_, fun b e => ?_, fun b e => ?_⟩
  · rcases h4 with rfl | h4
    · exact h.far
    · omega
  · rcases h5 b e with e2 | e2
    · exact h.farw b e2
    · omega
  · rcases h6 b e with e2 | e2
    · exact h.farh b e2
    · omega
theorem Lz.went {A : Option Addr} {c : Nat} {vw vh : Value} (h : Lz w0 g A c vw vh s W) (hd : Went W g A c vw vh s2 W') : Lx w0 g s2 W' := by
  obtain ⟨g2, e, hx⟩ := h.does (does_went (Below.refl _ _) hd)
  injection e with e
  injection e with e
  injection e with e
  injection e with e
  rw [e]
  exact hx
end
/-- What the document's region says stays, while the program's changes. -/
theorem RgAt.moved {W W' : World} {g c i c0 : Nat} {A A0 : Option Addr} {vw vh : Value} {s : St} {m : Rg} {d : Ds} (h : RgAt W A0 i c0 m d) (ha : AtG W g A c vw vh s) (hm : Mv g vw vh W W') : RgAt W' A0 i c0 m d := by
  have K : ∀ {v : Value} {l : List E}, pol.Own W 0 v l → pol.Own W' 0 v l := fun {v l} ho => ho.keep fun b hb => by
    rcases ho.2 with ⟨rfl, _⟩ | ⟨g', cap, cur, rfl, _, hh, _⟩
    · cases hb
    · injection hb with hb
      simp only at hb
      subst hb
      refine hm.block _ (lt_of_block hh) ?_ (fun e2 => ?_) (fun e2 => ?_)
      · rintro rfl
        rw [ha.box] at hh
        simp [lgO] at hh
      · obtain ⟨cur2, e3⟩ := ha.was.block e2
        rw [hh] at e3
        simp at e3
      · obtain ⟨cur2, e3⟩ := ha.held.block e2
        rw [hh] at e3
        simp at e3
  exact ⟨h.eA, h.en, h.ec, h.num, h.ab, h.nu, h.ng, K h.oU, K h.oG⟩
/-- Both. -/
structure Two (w0 : World) (g : Nat) (s : St) (A0 : Option Addr) (i c0 : Nat) (m : Rg) (d : Ds) (W : World) : Prop where
  ls : Lx w0 g s W
  x : RgAt W A0 i c0 m d
/-- Behind j calls: both are one, and how much they may be. -/
structure Inv2 (j : Nat) (l : List Fr) (s : St) (d : Ds) : Prop where
  one : One ((j : Int) * 1099511627776) l s d
  was : s.was.length ≤ j
  held : s.held.length ≤ j
  got : d.got.length ≤ j
  ab0 : 0 ≤ s.ab
  ab1 : s.ab ≤ j
theorem inv2_new (l : List Fr) (num : Int) : Inv2 0 l ⟨l, num, 0, [], []⟩ ⟨num, 0, [], []⟩ := ⟨⟨rfl, rfl, rfl, rfl, by simpa using Match.nil⟩, Nat.le_refl _, Nat.le_refl _, Nat.le_refl _, by simp, by simp⟩
section
variable {j : Nat} {l : List Fr} {s : St} {d : Ds}
theorem Inv2.fitS (h : Inv2 j l s d) (hj : j ≤ 100) : FitS s :=
  ⟨by have := h.was; omega, by have := h.held; omega, h.ab0, by have := h.ab1; omega, fun p hp => by
    have := h.one.held.pos p ((h.one.held.same p).1 hp)
    omega⟩
theorem Inv2.fits (h : Inv2 j l s d) (hj : j ≤ 100) : Fits d :=
  ⟨by rw [← h.one.was]; have := h.was; omega, by have := h.got; omega, by rw [← h.one.ab]; exact h.ab0, by rw [← h.one.ab]; have := h.ab1; omega, fun p hp => by
    have := h.one.held.pos p hp
    omega⟩
theorem match_nil (m : Int) : Match m [] [] := ⟨List.Pairwise.nil, List.Pairwise.nil, fun _ => Iff.rfl, fun p h => by cases h⟩
theorem Inv2.op (h : Inv2 j l s d) (k o n : Int) (hn : -1099511627776 ≤ n ∧ n ≤ 1099511627776) : Inv2 (j + 1) l (s.op k o n) (d.op k o n) := by
  have ej : ((j + 1 : Nat) : Int) * 1099511627776 = (j : Int) * 1099511627776 + 1099511627776 := by omega
  have hw := wrote_length s.was o n
  have hg := gotH_length s.held o n
  have hl := lostH_length s.held o n
  have ha := addL_length d.got o n
  have ha2 := addL_length d.got o (-n)
  have h1 := h.was
  have h2 := h.held
  have h3 := h.got
  have h4 := h.ab1
  unfold St.op Ds.op
  by_cases k0 : k = 0
  · rw [if_pos k0, if_pos k0]
    exact ⟨⟨h.one.fr, h.one.num, h.one.ab, by show wrote s.was o n = wrote d.was o n; rw [h.one.was], by rw [ej]; exact h.one.held.more (by omega)⟩, by show (wrote s.was o n).length ≤ _; omega, by show s.held.length ≤ _; omega, by show d.got.length ≤ _; omega, h.ab0, by show s.ab ≤ _; omega⟩
  rw [if_neg k0, if_neg k0]
  by_cases k1 : k = 1
  · rw [if_pos k1, if_pos k1]
    by_cases hp : 0 < n
    · rw [if_pos hp, if_pos hp]
      exact ⟨⟨h.one.fr, h.one.num, h.one.ab, h.one.was, by rw [ej]; exact h.one.held.got o (by omega) hn.2 (by omega)⟩, by show s.was.length ≤ _; omega, by show (gotH s.held o n).length ≤ _; omega, by show (addL d.got o n).length ≤ _; omega, h.ab0, by show s.ab ≤ _; omega⟩
    · rw [if_neg hp, if_neg hp]
      exact ⟨⟨h.one.fr, h.one.num, h.one.ab, h.one.was, by rw [ej]; exact h.one.held.more (by omega)⟩, by omega, by omega, by omega, h.ab0, by omega⟩
  rw [if_neg k1, if_neg k1]
  by_cases k2 : k = 2
  · rw [if_pos k2, if_pos k2]
    by_cases hp : 0 < n
    · rw [if_pos hp, if_pos hp]
      exact ⟨⟨h.one.fr, h.one.num, h.one.ab, h.one.was, by rw [ej]; exact (h.one.held.lost o (by omega)).more (by omega)⟩, by show s.was.length ≤ _; omega, by show (lostH s.held o n).length ≤ _; omega, by show (addL d.got o (-n)).length ≤ _; omega, h.ab0, by show s.ab ≤ _; omega⟩
    · rw [if_neg hp, if_neg hp]
      exact ⟨⟨h.one.fr, h.one.num, h.one.ab, h.one.was, by rw [ej]; exact h.one.held.more (by omega)⟩, by omega, by omega, by omega, h.ab0, by omega⟩
  rw [if_neg k2, if_neg k2]
  have h5 := h.ab0
  exact ⟨⟨h.one.fr, rfl, by show s.ab + 1 = d.ab + 1; rw [h.one.ab], rfl, match_nil _⟩, Nat.zero_le _, Nat.zero_le _, Nat.zero_le _, by show 0 ≤ s.ab + 1; omega, by show s.ab + 1 ≤ _; omega⟩
end
section
variable {w0 W W' : World} {g : Nat} {s : St} {A0 : Option Addr} {i c0 : Nat} {m : Rg} {d : Ds} {j : Nat} {l : List Fr}
theorem Two.next (h : Two w0 g s A0 i c0 m d W) (hb : Below W.heap.size W W') : Two w0 g s A0 i c0 m d W' := ⟨h.ls.next hb, h.x.next hb⟩
theorem Two.c_do (h : Two w0 g s A0 i c0 m d W) (hi : Inv2 j l s d) (hj : j ≤ 100) (k o n : Int) (hn : -1099511627776 ≤ n ∧ n ≤ 1099511627776) :
    Calls Try.prog 12 #[.pointer (some ⟨g, 0, none⟩), .agg #[.int .i64 k, .int .i64 o, .int .i64 n]] W fun e w' => ∃ g2, e = .returned (.pointer (some ⟨g2, 0, none⟩)) ∧ Two w0 g2 (s.op k o n) A0 i c0 m d w' := by
  obtain ⟨A, c, vw, vh, hl⟩ := h.ls
  refine (do_any hl.at_ (hi.fitS hj) k o n (by omega)).mono fun e w' hh => ?_
  obtain ⟨g2, h1, h2⟩ := hl.does hh
  obtain ⟨_, _, _, _, _, _, _, h3, _⟩ := hh
  exact ⟨g2, h1, h2, h.x.moved hl.at_ h3⟩
theorem Two.c_rdo (h : Two w0 g s A0 i c0 m d W) (hi : Fits d) (k o n : Int) (hn : -1099511627776 ≤ n ∧ n ≤ 1099511627776) :
    Calls Try.prog 13 #[rgV m, .agg #[.int .i64 k, .int .i64 o, .int .i64 n]] W fun e w' => ∃ m2, e = .returned (rgV m2) ∧ Two w0 g s A0 i c0 m2 (d.op k o n) w' :=
  (refDo_any A0 i c0 m d k o n W h.x hi (by omega)).mono fun e w' hh => by
    obtain ⟨m2, h1, h2, h3⟩ := hh
    exact ⟨m2, h1, h.ls.next h3, h2⟩
theorem Two.c_same (h : Two w0 g s A0 i c0 m d W) (hi : Inv2 j l s d) (hj : j ≤ 100) (hI : In w0 A0 c0 l) (hl : i = l.length) :
    Calls Try.prog 11 #[.pointer (some ⟨g, 0, none⟩), rgV m] W fun e w' => e = .returned (.bool true) ∧ Two w0 g s A0 i c0 m d w' := by
  obtain ⟨A, c, vw, vh, hz⟩ := h.ls
  exact (same_any hz.at_ h.x (hI.next hz.below) hl hi.one (hi.fitS hj) (hi.fits hj)).mono fun e w' hh => ⟨hh.1, h.next hh.2⟩
end
end Go.Proofs.Ytlkcpplpjjbiaaa.reg
