/- A table of the call's own, row by row in blocks of their own; renaming a number in a column. -/
import Derived.Test.YtnidalbfmicoiaaMathChase
import Derived.Test.YtnidalbfmicoiaaWalkY
import Derived.Deep.AppendLies
namespace Go.Proofs.Ytnidalbfmicoiaa
open Go.RowKit

def rowV (m g : Nat) : Value := .slice (some ⟨g, 0, none⟩) m m
/-- row i of T lies in block gs[i], o has the rows -/
def Tab (base m : Nat) (w : World) (o : Value) (gs : List Nat) (T : List (List Int)) : Prop :=
  gs.length = T.length ∧ gs.Nodup ∧ w.ownsRow base 56 1 o T.length (gs.map (rowV m)) ∧
    ∀ i (h : i < T.length) (h' : i < gs.length), T[i].length = m ∧ w.ownsRow base 3 1 (rowV m gs[i]) m (T[i].map (Value.int .i64))
theorem Tab.keep {base m : Nat} {w w' : World} {o : Value} {gs : List Nat} {T : List (List Int)} (h : Tab base m w o gs T) (hb : Below w.heap.size w w') : Tab base m w' o gs T :=
  ⟨h.1, h.2.1, owns_keep h.2.2.1 hb, fun i a b => ⟨(h.2.2.2 i a b).1, owns_keep (h.2.2.2 i a b).2 hb⟩⟩
theorem Tab.nil (base m : Nat) (w : World) : Tab base m w (.slice none 0 0) [] [] := ⟨rfl, List.nodup_nil, World.ownsRow_nil _ _ _ _, fun i h => by simp at h⟩
theorem Tab.ints {base m : Nat} {w : World} {o : Value} {gs : List Nat} {T : List (List Int)} (h : Tab base m w o gs T) (i : Nat) (a : i < T.length) (b : i < gs.length) : Ints w (rowV m gs[i]) T[i] := by
  obtain ⟨h1, h2⟩ := h.2.2.2 i a b
  have := owns_rd h2
  unfold Ints
  rwa [h1]
theorem Tab.rows {base m : Nat} {w : World} {o : Value} {gs : List Nat} {T : List (List Int)} (h : Tab base m w o gs T) : Rows w o T :=
  ⟨gs.map (rowV m), by simp [h.1], owns_rd h.2.2.1, fun i a b => by
    rw [List.getElem_map]
    exact h.ints i a (by rw [h.1]; exact a)⟩
theorem Tab.append {base m n : Nat} {w w' : World} {o v' : Value} {gs : List Nat} {T : List (List Int)} {g : Nat} {x : List Int} (h : Tab base m w o gs T) (hg : ∀ k ∈ gs, k ≠ g) (hx : x.length = m) (hu : w.ownsRow base 3 1 (rowV m g) m (x.map (Value.int .i64)))
    (hn : n = T.length + 1) (h4 : w'.ownsRow base 56 1 v' n (gs.map (rowV m) ++ [rowV m g])) (hgr : w.grownBy w' o.ownBlock) : Tab base m w' v' (gs ++ [g]) (T ++ [x]) := by
  subst hn
  have key : ∀ g' l, w.ownsRow base 3 1 (rowV m g') m l → w'.ownsRow base 3 1 (rowV m g') m l := fun g' l hz => World.ownsRow.kept hz hgr (rows_apart hz h.2.2.1 (by decide))
  refine ⟨by simp [h.1], ?_, by simpa using h4, fun i a b => ?_⟩
  · rw [List.nodup_append]
    refine ⟨h.2.1, by simp, fun k hk q hq => ?_⟩
    simp at hq
    subst hq
    exact hg k hk
  · have h1 := h.1
    by_cases e : i < gs.length
    · rw [List.getElem_append_left (by omega), List.getElem_append_left e]
      exact ⟨(h.2.2.2 i (by omega) e).1, key _ _ (h.2.2.2 i (by omega) e).2⟩
    · have e2 : i = T.length := by simp at b; omega
      subst e2
      rw [List.getElem_append_right (by omega), List.getElem_append_right (by omega)]
      simp only [h1, Nat.sub_self, List.getElem_cons_zero]
      exact ⟨hx, key _ _ hu⟩
/-- a store into row i -/
theorem Tab.store {base m : Nat} {w : World} {o : Value} {gs : List Nat} {T : List (List Int)} (h : Tab base m w o gs T) {i : Nat} (a : i < T.length) (b : i < gs.length) (j : Nat) (x : Int) :
    Tab base m (w.setCell ⟨gs[i], j, none⟩ (.int .i64 x)) o gs (T.set i (T[i].set j x)) := by
  obtain ⟨q1, q2⟩ := h.2.2.2 i a b
  obtain ⟨s1, s2⟩ := World.ownsRow.stored q2 j (.int .i64 x)
  refine ⟨by simp [h.1], h.2.1, ?_, fun k ha hb => ?_⟩
  · rw [List.length_set]
    refine World.ownsRow.kept h.2.2.1 s2 ?_
    have := rows_apart h.2.2.1 q2 (by decide)
    exact this
  · rw [List.length_set] at ha
    by_cases e : k = i
    · subst e
      rw [List.getElem_set_self]
      refine ⟨by simp [q1], ?_⟩
      rw [List.map_set]
      exact s1
    · rw [List.getElem_set_ne (Ne.symm e)]
      refine ⟨(h.2.2.2 k ha hb).1, World.ownsRow.kept (h.2.2.2 k ha hb).2 s2 (.inr ?_)⟩
      intro q
      have q : gs[k] = gs[i] := by injection q
      exact e ((List.getElem_inj h.2.1).1 q)
theorem Tab.lt {base m : Nat} {w : World} {o : Value} {gs : List Nat} {T : List (List Int)} (h : Tab base m w o gs T) : ∀ g ∈ gs, base ≤ g ∧ g < w.heap.size := by
  intro g hg
  obtain ⟨i, hi, rfl⟩ := List.mem_iff_getElem.1 hg
  exact (h.2.2.2 i (by rw [← h.1]; exact hi) hi).2.lt _ rfl
/-- renamed in the first j rows -/
def renTo (a : Nat) (x y : Int) (T : List (List Int)) (j : Nat) : List (List Int) := (T.take j).map (ren a x y) ++ T.drop j
theorem renTo_length (a : Nat) (x y : Int) (T : List (List Int)) (j : Nat) : (renTo a x y T j).length = T.length := by simp [renTo]; omega
theorem renTo_zero (a : Nat) (x y : Int) (T : List (List Int)) : renTo a x y T 0 = T := by simp [renTo]
theorem renTo_all (a : Nat) (x y : Int) (T : List (List Int)) : renTo a x y T T.length = T.map (ren a x y) := by simp [renTo]
theorem renTo_get (a : Nat) (x y : Int) (T : List (List Int)) (j i : Nat) (hj : j ≤ T.length) : (renTo a x y T j)[i]? = if i < j then (T[i]?).map (ren a x y) else T[i]? := by
  unfold renTo
  by_cases h : i < j
  · rw [if_pos h, List.getElem?_append_left (by simp; omega), List.getElem?_map, List.getElem?_take_of_lt h]
  · rw [if_neg h, List.getElem?_append_right (by simp; omega), List.getElem?_drop]
    simp only [List.length_map, List.length_take, Nat.min_eq_left hj]
    rw [show j + (i - j) = i by omega]
theorem renTo_at (a : Nat) (x y : Int) (T : List (List Int)) (j : Nat) (h : j < T.length) (h' : j < (renTo a x y T j).length) : (renTo a x y T j)[j] = T[j] := by
  have := renTo_get a x y T j j (by omega)
  rw [if_neg (by omega), List.getElem?_eq_getElem h', List.getElem?_eq_getElem h] at this
  exact Option.some.inj this
theorem renTo_succ (a : Nat) (x y : Int) (T : List (List Int)) (j : Nat) (h : j < T.length) : renTo a x y T (j + 1) = (renTo a x y T j).set j (ren a x y T[j]) := by
  apply List.ext_getElem?
  intro i
  rw [renTo_get _ _ _ _ _ _ (by omega), List.getElem?_set, renTo_length]
  by_cases e : j = i
  · subst e
    rw [if_pos (by omega), if_pos rfl, if_pos h, List.getElem?_eq_getElem h]; rfl
  · rw [if_neg e, renTo_get _ _ _ _ _ _ (by omega)]
    by_cases q : i < j
    · rw [if_pos (by omega), if_pos q]
    · rw [if_neg (by omega), if_neg q]
/-- of the blocks that were there only those in gs may have changed -/
def Only (gs : List Nat) (w w' : World) : Prop := Below 0 w w' ∧ ∀ k, k < w.heap.size → k ∉ gs → w'.heap[k]? = w.heap[k]?
theorem Only.refl (gs : List Nat) (w : World) : Only gs w w := ⟨Below.refl _ _, fun _ _ _ => rfl⟩
theorem Only.trans {gs : List Nat} {a b c : World} (h : Only gs a b) (k : Only gs b c) : Only gs a c :=
  ⟨h.1.trans k.1, fun i hi hg => (k.2 i (Nat.lt_of_lt_of_le hi h.1.size) hg).trans (h.2 i hi hg)⟩
theorem Only.of_below {gs : List Nat} {w w' : World} (h : Below w.heap.size w w') : Only gs w w' := ⟨h.mono (Nat.zero_le _), fun k hk _ => h.block k hk⟩
theorem Only.below {gs : List Nat} {w w' : World} {base : Nat} (h : Only gs w w') (hb : base ≤ w.heap.size) (hg : ∀ g ∈ gs, base ≤ g) : Below base w w' :=
  ⟨h.1.os, h.1.tape, h.1.output, h.1.size, fun k hk => h.2 k (by omega) (fun q => by have := hg k q; omega)⟩
theorem Only.store {gs : List Nat} {w w' : World} (h : Only gs w w') {g : Nat} (hg : g ∈ gs) (j : Nat) (v : Value) : Only gs w (w'.setCell ⟨g, j, none⟩ v) :=
  ⟨h.1.setCell (Nat.zero_le _) v, fun k hk hn => (heap_setCell_other w' ⟨g, j, none⟩ k v (fun e => hn (by subst e; exact hg))).trans (h.2 k hk hn)⟩
theorem Only.cell {gs : List Nat} {w w' : World} (h : Only gs w w') {a : Addr} {v : Value} (ha : a.block ∉ gs) (hc : w.cell? a = some v) : w'.cell? a = some v :=
  (World.cell?_of_block (h.2 a.block (cell_lt hc) ha)).trans hc
#print axioms Tab.store
#print axioms Only.cell
#print axioms renTo_succ
end Go.Proofs.Ytnidalbfmicoiaa
