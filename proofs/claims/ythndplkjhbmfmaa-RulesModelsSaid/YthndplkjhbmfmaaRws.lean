/- Slices of slices of ints, all of them the call's own. -/
import Derived.Test.YthndplkjhbmfmaaOwn
import Derived.Maps.AppendAt
namespace Go.Proofs.Ythndplkjhbmfmaa
open Go.RowKit
theorem infoInts : (Try.prog.info? 23).map (fun i => (i.zero, i.size, i.bytes)) = some (some (.slice none 0 0), 1, 24) := by kernel_rfl
theorem elemRows : Elem Try.prog 140 23 1 24 := elem_of Try.underlying140 infoInts rfl (by omega) (by omega)
theorem rows_apart {w : World} {b1 b2 : Nat} {e1 e2 : TypeId} {s1 s2 : Nat} {u v : Value} {n1 n2 : Nat} {xs ys : List Value} (h : w.ownsRow b1 e1 s1 u n1 xs) (k : w.ownsRow b2 e2 s2 v n2 ys) (he : e1 ≠ e2) : u.ownBlock = none ∨ u.ownBlock ≠ v.ownBlock := by
  rcases h.2 with ⟨rfl, _⟩ | ⟨g, cap, cur, rfl, _, hg, _⟩
  · exact .inl rfl
  · right
    rcases k.2 with ⟨rfl, _⟩ | ⟨g', cap', cur', rfl, _, hg', _⟩
    · simp [Value.ownBlock]
    · simp only [Value.ownBlock, ne_eq, Option.some.injEq]
      intro e
      subst e
      rw [hg] at hg'
      injection hg' with h1
      injection h1 with _ h2
      exact he h2
/-- a slice of slices of ints, all of it the call's own -/
def OwnRows (base : Nat) (w : World) (o : Value) (L : List (List Int)) : Prop :=
  ∃ vs : List Value, vs.length = L.length ∧ w.ownsRow base 23 1 o L.length vs ∧ ∀ i (h : i < vs.length) (h' : i < L.length), OwnInts base w vs[i] L[i]
theorem OwnRows.keep {base : Nat} {L : List (List Int)} {w w' : World} {o : Value} (h : OwnRows base w o L) (hb : Below w.heap.size w w') : OwnRows base w' o L := by
  obtain ⟨vs, h1, h2, h3⟩ := h
  exact ⟨vs, h1, owns_keep h2 hb, fun i a b => (h3 i a b).keep hb⟩
theorem OwnRows.base {base base' : Nat} {L : List (List Int)} {w : World} {o : Value} (h : OwnRows base w o L) (hb : base' ≤ base) : OwnRows base' w o L := by
  obtain ⟨vs, h1, h2, h3⟩ := h
  exact ⟨vs, h1, owns_base h2 hb, fun i a b => (h3 i a b).base hb⟩
theorem OwnRows.rows {base : Nat} {L : List (List Int)} {w : World} {o : Value} (h : OwnRows base w o L) : Rows w o L := by
  obtain ⟨vs, h1, h2, h3⟩ := h
  exact ⟨vs, h1, owns_rd h2, fun i a b => (h3 i b a).ints⟩
theorem OwnRows.slice {base : Nat} {L : List (List Int)} {w : World} {o : Value} (h : OwnRows base w o L) : ∃ a c, o = .slice a L.length c := by
  obtain ⟨vs, h1, h2, h3⟩ := h
  rcases h2.2 with ⟨rfl, h0⟩ | ⟨g, cap, cur, rfl, _⟩
  · exact ⟨none, 0, by rw [h0]⟩
  · exact ⟨_, _, rfl⟩
theorem OwnRows.step {base n : Nat} {L : List (List Int)} {w1 w2 : World} {o v' u : Value} {vs : List Value} {x : List Int} (h1 : vs.length = L.length) (h2 : w1.ownsRow base 23 1 o L.length vs) (h3 : ∀ i (h : i < vs.length) (h' : i < L.length), OwnInts base w1 vs[i] L[i])
    (hu : OwnInts base w1 u x) (hn : n = L.length + 1) (h4 : w2.ownsRow base 23 1 v' n (vs ++ [u])) (hg : w1.grownBy w2 o.ownBlock) : OwnRows base w2 v' (L ++ [x]) := by
  subst hn
  have key : ∀ z l, OwnInts base w1 z l → OwnInts base w2 z l := fun z l hz => World.ownsRow.kept hz hg (rows_apart hz h2 (by decide))
  refine ⟨vs ++ [u], by simp [h1], by simpa using h4, fun i a b => ?_⟩
  by_cases e : i < vs.length
  · rw [List.getElem_append_left e, List.getElem_append_left (by omega)]; exact key _ _ (h3 i e (by omega))
  · have e2 : i = L.length := by simp at b; omega
    subst e2
    rw [List.getElem_append_right (by omega), List.getElem_append_right (by omega)]
    simp only [h1, Nat.sub_self, List.getElem_cons_zero]
    exact key _ _ hu
theorem ownRows_nil (base : Nat) (w : World) : OwnRows base w (.slice none 0 0) [] := ⟨[], rfl, World.ownsRow_nil _ _ _ _, fun _ h _ => absurd h (Nat.not_lt_zero _)⟩
theorem own_block {w w' : World} {base : Nat} {e : TypeId} {size n : Nat} {v : Value} {xs : List Value} (h : w.ownsRow base e size v n xs) (hk : ∀ g, v.ownBlock = some g → w'.heap[g]? = w.heap[g]?) : w'.ownsRow base e size v n xs := by
  obtain ⟨h1, h2⟩ := h
  refine ⟨h1, ?_⟩
  rcases h2 with h2 | ⟨g, cap, cur, rfl, hg, hb, r⟩
  · exact .inl h2
  · exact .inr ⟨g, cap, cur, rfl, hg, (hk g rfl).trans hb, r⟩
theorem own_lt {w : World} {base : Nat} {e : TypeId} {size n : Nat} {v : Value} {xs : List Value} (h : w.ownsRow base e size v n xs) {g : Nat} (hg : v.ownBlock = some g) : base ≤ g ∧ g < w.heap.size := by
  rcases h.2 with ⟨rfl, _⟩ | ⟨g', cap, cur, rfl, hb, hh, _⟩
  · cases hg
  · cases hg
    exact ⟨hb, (Array.getElem?_eq_some_iff.1 hh).1⟩
end Go.Proofs.Ythndplkjhbmfmaa
