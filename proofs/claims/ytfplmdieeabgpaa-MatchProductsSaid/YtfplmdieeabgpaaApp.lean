/- Two lists of atoms behind one another; results and a change of another block. -/
import Derived.Test.YtfplmdieeabgpaaRvf
import Derived.Test.YtfplmdieeabgpaaSrc
import Derived.Test.YtfplmdieeabgpaaLbx
namespace Go.Proofs.Ytfplmdieeabgpaa
open Go.RowKit
theorem atC_append : ∀ {A : List HAt} {u : List Value} (_ : u.length = A.length) (B : List HAt) (v : List Value), atC (A ++ B) (u ++ v) = atC A u ++ atC B v
  | [], [], _, B, v => rfl
  | a :: A, x :: u, h, B, v => by
    have := atC_append (A := A) (u := u) (by simpa using h) B v
    simp only [List.cons_append, atC]
    rw [this]
theorem atC_one {l : List HAt} {vs : List Value} {base : Nat} {w : World} (h : vs.length = l.length) (hi : ∀ i, i < l.length → OwnInts base w (vs.getD i (.bool false)) (aA l i)) : ∀ u, u ∈ atC l vs → u.oneCell' = true := by
  obtain ⟨L, _, h2, _⟩ := av_of l vs base w h hi
  rw [h2]
  intro u hu
  obtain ⟨x, _, hx⟩ := List.mem_flatMap.1 hu
  simp only [encA, List.mem_cons, List.not_mem_nil, or_false] at hx
  rcases hx with rfl | rfl <;> rfl
theorem OwnAtoms.appended {e : TypeId} (he : e ≠ 3) {base : Nat} {w w' : World} {v v' : Value} {A B : List HAt} {u x : List Value} {n : Nat} (h1 : u.length = A.length) (h2 : w.ownsRow base e 2 v A.length (atC A u)) (h3 : ∀ i, i < A.length → OwnInts base w (u.getD i (.bool false)) (aA A i))
    (k1 : x.length = B.length) (k3 : ∀ i, i < B.length → OwnInts base w (x.getD i (.bool false)) (aA B i)) (hn : n = A.length + B.length) (h' : w'.ownsRow base e 2 v' n (atC A u ++ atC B x)) (hg : w.grownBy w' v.ownBlock) : OwnAtoms e base w' v' (A ++ B) := by
  refine ⟨u ++ x, by simp [h1, k1], by rw [atC_append h1, List.length_append, ← hn]; exact h', fun i hi => ?_⟩
  have key : ∀ z l, OwnInts base w z l → OwnInts base w' z l := fun z l hz => ints_grown he hz h2 hg
  rw [List.length_append] at hi
  by_cases c : i < A.length
  · have e1 : (u ++ x).getD i (.bool false) = u.getD i (.bool false) := by simp [List.getD_eq_getElem?_getD, List.getElem?_append_left (show i < u.length by omega)]
    have e2 : aA (A ++ B) i = aA A i := by simp [aA, List.getD_eq_getElem?_getD, List.getElem?_append_left c]
    rw [e1, e2]; exact key _ _ (h3 i c)
  · have e1 : (u ++ x).getD i (.bool false) = x.getD (i - A.length) (.bool false) := by simp [List.getD_eq_getElem?_getD, List.getElem?_append_right (show u.length ≤ i by omega), h1]
    have e2 : aA (A ++ B) i = aA B (i - A.length) := by simp [aA, List.getD_eq_getElem?_getD, List.getElem?_append_right (show A.length ≤ i by omega)]
    rw [e1, e2]; exact key _ _ (k3 _ (by omega))
theorem ResC.rev {q : HQ} {l : List HAt} {base : Nat} {w w' : World} {u v : Value} {c : Int} (h : ResC q l base w u c) (hg : w.grownBy w' v.ownBlock) (hlt : ∀ g, v.ownBlock = some g → g < base) : ResC q l base w' u c := by
  rcases h with h | h | ⟨h1, h2, h3, h4, R, ⟨vs, r1, r2, r3⟩, h6⟩
  · exact .inl h
  · exact .inr (.inl h)
  · have key : ∀ {e : TypeId} {size n : Nat} {v : Value} {xs : List Value}, w.ownsRow base e size v n xs → w'.ownsRow base e size v n xs := fun h => own_block h fun g hgb => by
      have hl := own_lt h hgb
      exact hg.block g hl.2 (fun e => by have := hlt g e.symm; omega)
    exact .inr (.inr ⟨h1, h2, h3, h4, R, ⟨vs, r1, key r2, fun i a b => key (r3 i a b)⟩, h6⟩)
theorem fsV_iff {l : List HAt} : FsV l ↔ l.length ≤ 24 ∧ ∀ a, a ∈ l → FcV a.1 a.2 := by
  refine and_congr_right fun _ => ⟨fun h a ha => ?_, fun h i hi => ?_⟩
  · obtain ⟨i, hi, rfl⟩ := List.getElem_of_mem ha
    have := h i hi
    rw [at_get hi]; exact this
  · have := h l[i] (List.getElem_mem hi)
    rw [at_get hi] at this; exact this
theorem fsV_rev {l : List HAt} : FsV l.reverse ↔ FsV l := by
  rw [fsV_iff, fsV_iff]; simp
theorem maP_more {l m body : List HAt} (h : ∀ f, f ∈ l → f ∈ m) {w : List Int} (hw : MaP l body w) : MaP m body w :=
  ⟨hw.len, fun a ha => by obtain ⟨f, hf, hg⟩ := hw.fit a ha; exact ⟨f, h f hf, hg⟩, hw.sup⟩
/-- the order of the facts does not matter -/
theorem res_turn {q : HQ} {l : List HAt} {b b' : Nat} {w : World} {u u' : Value} {c c' : Int} (h : ResC q l b w u c) (k : ResC q l.reverse b' w u' c') : c = c' ∧ (c = 0 ∨ c = 2 ∨ c = 3) ∧ ∃ R, Rows w u R ∧ Rows w u' R ∧ (c = 0 → IsRes q l R) := by
  have hn : Rows w (.slice none 0 0) [] := (ownRows_nil 0 w).rows
  have hB : Big l.reverse q.2 ↔ Big l q.2 := big_same fun f => List.mem_reverse
  rcases h with ⟨h1, rfl, rfl⟩ | ⟨h1, h2, h3, rfl, rfl⟩ | ⟨h1, h2, h3, rfl, R, h5, h6⟩
  · rcases k with ⟨_, rfl, rfl⟩ | ⟨k1, k2, _⟩ | ⟨k1, k2, _⟩
    · exact ⟨rfl, .inr (.inl rfl), [], hn, hn, fun h => by omega⟩
    · exact absurd ⟨k1, fsV_rev.1 k2⟩ h1
    · exact absurd ⟨k1, fsV_rev.1 k2⟩ h1
  · rcases k with ⟨k1, _⟩ | ⟨_, _, _, rfl, rfl⟩ | ⟨k1, k2, k3, _⟩
    · exact absurd ⟨h1, fsV_rev.2 h2⟩ k1
    · exact ⟨rfl, .inr (.inr rfl), [], hn, hn, fun h => by omega⟩
    · exact absurd (hB.2 h3) k3
  · rcases k with ⟨k1, _⟩ | ⟨_, _, k3, _⟩ | ⟨k1, k2, k3, rfl, R', k5, k6⟩
    · exact absurd ⟨h1, fsV_rev.2 h2⟩ k1
    · exact absurd (hB.1 k3) h3
    · have e : R' = R := strict_eq k6.1 h6.1 fun x => by
        rw [k6.2, h6.2]
        exact exists_congr fun v => and_congr_left fun _ => maP_same (fun f => List.mem_reverse) v
      subst e
      exact ⟨rfl, .inl rfl, R', h5.rows, k5.rows, fun _ => h6⟩
section
open Go.ChangeShapes Go.WideShapes Go.ChangeAt Go.Deep Go.Joins
variable {H : Type} {enc : TypeId × Value → H} {P : Program} {W : World}
/-- a fact by value -/
theorem fct_arg {r : Reach} {b0 : Nat} {e i0 s0 : TypeId} {f0 f1 : Field} {v : Value} {d : DataW H} {ps : List MemPlace} {sp : Nat → Bool} (he : P.underlying e = some (.struct #[f0, f1])) (h0 : f0.type = i0 ∧ f0.offset = 0) (h1 : f1.type = s0 ∧ f1.offset = 1)
    (hi0 : P.underlying i0 = some (.int .i64)) (hs0 : P.underlying s0 = some (.slice i0)) (c0 : P.cellsOf i0 = 1) (c1 : P.cellsOf s0 = 1) (hc : P.cellsOf e = 2)
    (hv : Value.okWide P W r b0 e v) (h : DataW.Trod enc P W 0 sp true e v d ps) : ∃ a : HAt, ∃ u, v = .agg #[.int .i64 a.1, u] ∧ Ints W u a.2 := by
  obtain ⟨cs, rfl, hsz⟩ := okWide_struct he hv
  obtain ⟨fuel, hf⟩ := h
  obtain ⟨y, hy, hi⟩ := atom_of_trod he h0 h1 hi0 hs0 c0 c1 hc hf
  simp only [Value.cells] at hy
  exact ⟨(y.1, y.2.2), y.2.1, by rw [← Array.toArray_toList (xs := cs), hy], hi⟩
end
#print axioms res_turn
end Go.Proofs.Ytfplmdieeabgpaa
