/- Rows of atoms that are filled one by one. -/
import Derived.Test.YtfplmdieeabgpaaQry
import Derived.OwnWalk
import Derived.WalkSpells
namespace Go.Proofs.Ytfplmdieeabgpaa
open Go.RowKit
theorem atC_rep (n : Nat) : atC (List.replicate n (0, [])) (List.replicate n (.slice none 0 0)) = (madeCells #[.int .i64 0, .slice none 0 0] (n * 2)).toList := by
  refine List.ext_getElem? fun j => ?_
  have hl : (atC (List.replicate n ((0 : Int), ([] : List Int))) (List.replicate n (.slice none 0 0))).length = n * 2 := by rw [atC_len (by simp)]; simp
  by_cases hj : j < n * 2
  · have hi : j / 2 < n := by omega
    obtain ⟨e1, e2⟩ := atC_at (l := List.replicate n ((0 : Int), ([] : List Int))) (vs := List.replicate n (.slice none 0 0)) (by simp) (i := j / 2) (by simpa using hi)
    have e3 : (madeCells #[Value.int .i64 0, Value.slice none 0 0] (n * 2)).toList[j]? = (madeCells #[Value.int .i64 0, Value.slice none 0 0] (n * 2))[j]? := Array.getElem?_toList ..
    rw [e3]
    rcases Nat.mod_two_eq_zero_or_one j with m | m
    · rw [show j / 2 * 2 = j by omega] at e1
      rw [e1]
      simp [madeCells, hj, m, aR, hi]
    · rw [show j / 2 * 2 + 1 = j by omega] at e2
      rw [e2]
      simp [madeCells, hj, m, hi]
  · rw [List.getElem?_eq_none (by omega), Array.getElem?_toList, Array.getElem?_eq_none (by rw [size_madeCells]; omega)]
theorem atC_set : ∀ {l : List HAt} {vs : List Value} (_ : vs.length = l.length) {k : Nat} (_ : k < l.length) (r : Int) (args : List Int) (u : Value), atC (l.set k (r, args)) (vs.set k u) = ((atC l vs).set (k * 2) (.int .i64 r)).set (k * 2 + 1) u
  | a :: l, v :: vs, _, 0, _, r, args, u => rfl
  | a :: l, v :: vs, h, k + 1, hk, r, args, u => by
    have := atC_set (l := l) (vs := vs) (by simpa using h) (k := k) (by simpa using hk) r args u
    show Value.int .i64 a.1 :: v :: atC (l.set k (r, args)) (vs.set k u) = _
    rw [this, show (k + 1) * 2 = k * 2 + 1 + 1 by omega]; rfl
/-- an atom stored -/
theorem OwnAtoms.put {e : TypeId} (he : e ≠ 3) {base g n cap : Nat} {w : World} {l : List HAt} (h : OwnAtoms e base w (.slice (some ⟨g, 0, none⟩) n cap) l) (hn : n = l.length) {k : Nat} (hk : k < l.length) {r : Int} {args : List Int} {u : Value} (hu : OwnInts base w u args) :
    OwnAtoms e base ((w.setCell ⟨g, k * 2, none⟩ (.int .i64 r)).setCell ⟨g, k * 2 + 1, none⟩ u) (.slice (some ⟨g, 0, none⟩) n cap) (l.set k (r, args)) := by
  subst hn
  obtain ⟨vs, h1, h2, h3⟩ := h
  have s1 := World.ownsRow.stored h2 (k * 2) (.int .i64 r)
  have s2 := World.ownsRow.stored s1.1 (k * 2 + 1) u
  have kp : ∀ {x : Value} {a : List Int}, OwnInts base w x a → OwnInts base ((w.setCell ⟨g, k * 2, none⟩ (.int .i64 r)).setCell ⟨g, k * 2 + 1, none⟩ u) x a := fun q => ints_grown he (ints_grown he q h2 s1.2) s1.1 s2.2
  refine ⟨vs.set k u, by simp [h1], ?_, fun i hi => ?_⟩
  · rw [atC_set h1 hk, List.length_set]; exact s2.1
  · rw [List.length_set] at hi
    by_cases c : i = k
    · subst c
      rw [show aA (l.set i (r, args)) i = args by simp [aA, hk], show (vs.set i u).getD i (.bool false) = u by simp [h1, hk]]
      exact kp hu
    · rw [show aA (l.set k (r, args)) i = aA l i by unfold aA; rw [List.getD_eq_getElem?_getD, List.getD_eq_getElem?_getD, List.getElem?_set, if_neg (fun q => c q.symm)], show (vs.set k u).getD i (.bool false) = vs.getD i (.bool false) by rw [List.getD_eq_getElem?_getD, List.getD_eq_getElem?_getD, List.getElem?_set, if_neg (fun q => c q.symm)]]
      exact kp (h3 i hi)
/-- what stands in a row of its own, and that it may be written -/
theorem OwnAtoms.cells {e : TypeId} {base g n cap : Nat} {w : World} {l : List HAt} (h : OwnAtoms e base w (.slice (some ⟨g, 0, none⟩) n cap) l) (hn : n = l.length) {k : Nat} (hk : k < l.length) :
    ∃ c, w.cell? ⟨g, k * 2, none⟩ = some (.int .i64 (aR l k)) ∧ w.cell? ⟨g, k * 2 + 1, none⟩ = some c ∧ w.frozen? ⟨g, k * 2, none⟩ = false ∧ w.frozen? ⟨g, k * 2 + 1, none⟩ = false ∧ base ≤ g := by
  subst hn
  obtain ⟨vs, h1, h2, h3⟩ := h
  obtain ⟨e1, e2⟩ := atC_at h1 hk
  have c1 := World.ownsRow.cellAt h2 (k * 2) (by omega)
  have c2 := World.ownsRow.cellAt h2 (k * 2 + 1) (by omega)
  refine ⟨_, c1.trans e1, c2.trans e2, World.ownsRow.frozenAt h2 _, World.ownsRow.frozenAt h2 _, ?_⟩
  rcases h2.2 with ⟨q, _⟩ | ⟨g', cap', cur, q, hb, _⟩
  · cases q
  · injection q with q _ _
    injection q with q
    injection q with q
    omega
theorem ownAtoms_made {e : TypeId} {base g n : Nat} {w : World} (h : w.ownsRow base e 2 (.slice (some ⟨g, 0, none⟩) n n) n (madeCells #[.int .i64 0, .slice none 0 0] (n * 2)).toList) : OwnAtoms e base w (.slice (some ⟨g, 0, none⟩) n n) (List.replicate n (0, [])) := by
  refine ⟨List.replicate n (.slice none 0 0), by simp, ?_, fun i hi => ?_⟩
  · rw [atC_rep]; simpa using h
  · rw [List.length_replicate] at hi
    rw [show aA (List.replicate n (0, [])) i = [] by simp [aA, hi], show (List.replicate n (Value.slice none 0 0)).getD i (.bool false) = .slice none 0 0 by simp [hi]]
    exact ownInts_nil _ _
#print axioms OwnAtoms.put
#print axioms ownAtoms_made
end Go.Proofs.Ytfplmdieeabgpaa
