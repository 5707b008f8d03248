/- One row of a join: mixing a row with a row of a projection. -/
import Derived.Test.YtnidalbfmicoiaaMathJoin
import Derived.Test.YtnidalbfmicoiaaWalkJa
namespace Go.Proofs.Ytnidalbfmicoiaa
open Go.RowKit

def mixTo (x y : List Int) (s m a : Nat) : List Int := (List.range m).map fun b => if b < a ∧ s.testBit b = true then y.getD b 0 else x.getD b 0
theorem mixTo_length (x y : List Int) (s m a : Nat) : (mixTo x y s m a).length = m := by simp [mixTo]
theorem mixTo_get {x y : List Int} {s m a b : Nat} (hb : b < m) : (mixTo x y s m a).getD b 0 = if b < a ∧ s.testBit b = true then y.getD b 0 else x.getD b 0 := by
  unfold mixTo; simp [List.getD, hb]
theorem mixTo_zero {x : List Int} (y : List Int) (s : Nat) {m : Nat} (hx : x.length = m) : mixTo x y s m 0 = x := by
  apply List.ext_getElem (by simp [mixTo, hx])
  intro i h1 h2
  simp [mixTo, List.getD, h2]
theorem mixTo_skip {s : Nat} (x y : List Int) (m : Nat) {a : Nat} (h : s.testBit a = false) : mixTo x y s m (a + 1) = mixTo x y s m a := by
  unfold mixTo
  apply List.map_congr_left
  intro b _
  by_cases e : b = a
  · subst e; simp [h]
  · have : (b < a + 1) ↔ b < a := by omega
    simp [this]
theorem mixTo_set {s : Nat} (x y : List Int) (m : Nat) {a : Nat} (h : s.testBit a = true) : mixTo x y s m (a + 1) = (mixTo x y s m a).set a (y.getD a 0) := by
  apply List.ext_getElem (by simp [mixTo])
  intro i h1 h2
  simp only [mixTo, List.getElem_map, List.getElem_range, List.getElem_set]
  by_cases e : a = i
  · subst e; simp [h]
  · have : (i < a + 1) ↔ i < a := by omega
    simp [e, this]
def fitTo (x y : List Int) (s D : Nat) : Nat → Bool
  | 0 => true
  | a + 1 => if s.testBit a = true then fitTo x y s D a && (!D.testBit a || decide (x.getD a 0 = y.getD a 0)) else fitTo x y s D a
theorem fitTo_iff (x y : List Int) (s D : Nat) : ∀ a, fitTo x y s D a = true ↔ ∀ b, b < a → s.testBit b = true → D.testBit b = true → x.getD b 0 = y.getD b 0
  | 0 => by simp [fitTo]
  | a + 1 => by
    have ih := fitTo_iff x y s D a
    rw [fitTo]
    by_cases hs : s.testBit a = true
    · rw [if_pos hs, Bool.and_eq_true, ih]
      constructor
      · rintro ⟨h1, h2⟩ b hb hsb hD
        rcases Nat.lt_succ_iff_lt_or_eq.1 hb with hb | rfl
        · exact h1 b hb hsb hD
        · rw [hD] at h2; simp only [Bool.not_true, Bool.false_or] at h2; exact of_decide_eq_true h2
      · intro h
        refine ⟨fun b hb => h b (by omega), ?_⟩
        cases hD : D.testBit a with
        | false => rfl
        | true => have := h a (by omega) hs hD; simp only [Bool.not_true, Bool.false_or]; exact decide_eq_true this
    · rw [if_neg hs, ih]
      constructor
      · intro h b hb hsb hD
        rcases Nat.lt_succ_iff_lt_or_eq.1 hb with hb | rfl
        · exact h b hb hsb hD
        · exact absurd hsb hs
      · intro h b hb; exact h b (by omega)
/-- z agrees on each of the first p sets with a row of R -/
def JoinOk (R : List (List Int)) (q : List Nat) (m p : Nat) (z : List Int) : Prop := z.length = m ∧ ∀ i, i < p → ∃ y, y < R.length ∧ ∀ a, a < m → (q.getD i 0).testBit a = true → z.getD a 0 = cell R y a
theorem orTo_of {q : List Nat} {a : Nat} : ∀ k i, i < k → (q.getD i 0).testBit a = true → (orTo q k).testBit a = true
  | 0, i, hi, _ => by omega
  | k + 1, i, hi, hb => by
    rw [orTo, Nat.testBit_or]
    rcases Nat.lt_succ_iff_lt_or_eq.1 hi with hi | rfl
    · rw [orTo_of k i hi hb]; rfl
    · rw [hb]; simp
theorem join_step {R : List (List Int)} {q : List Nat} {m p yi s : Nat} {x : List Int} (hx : JoinOk R q m p x) (hy : yi < R.length) (hs : q.getD p 0 = s) (hf : fitTo x (prTo (row R yi) s m m) s (orTo q p) m = true) :
    JoinOk R q m (p + 1) (mixTo x (prTo (row R yi) s m m) s m m) := by
  have hfit := (fitTo_iff _ _ _ _ m).1 hf
  have hpr : ∀ a, a < m → s.testBit a = true → (prTo (row R yi) s m m).getD a 0 = cell R yi a := fun a ha hb => by
    unfold prTo cell; simp [List.getD, ha, hb]
  refine ⟨mixTo_length _ _ _ _ _, fun i hi => ?_⟩
  rcases Nat.lt_succ_iff_lt_or_eq.1 hi with hi | rfl
  · obtain ⟨y, hy1, hy2⟩ := hx.2 i hi
    refine ⟨y, hy1, fun a ha hb => ?_⟩
    rw [mixTo_get ha]
    by_cases hsa : s.testBit a = true
    · rw [if_pos ⟨ha, hsa⟩, ← hfit a ha hsa (orTo_of p i hi hb)]
      exact hy2 a ha hb
    · rw [if_neg (fun h => hsa h.2)]
      exact hy2 a ha hb
  · refine ⟨yi, hy, fun a ha hb => ?_⟩
    rw [hs] at hb
    rw [mixTo_get ha, if_pos ⟨ha, hb⟩]
    exact hpr a ha hb
theorem join_mem {l : List DepN} {q : List Nat} {m : Nat} {T R : List (List Int)} {z : List Int} (hT : ChaseEnd l (initTo q m q.length) q.length m T) (h0 : ZeroRow T q.length m) (hR : HoldAll l R m) (hm : ∀ r ∈ R, r.length = m) (hz : JoinOk R q m q.length z) : z ∈ R := by
  obtain ⟨y, hy, he⟩ := join_in hT h0 hR hz.2
  have hyl : R[y].length = m := hm _ (List.getElem_mem hy)
  have : z = R[y] := by
    apply List.ext_getElem (by rw [hz.1, hyl])
    intro a h1 h2
    have := he a (by rw [← hz.1]; exact h1)
    have e : row R y = R[y] := by unfold row; simp [List.getD, hy]
    unfold cell at this
    rw [e] at this
    simpa [List.getD, h1, h2] using this
  rw [this]
  exact List.getElem_mem hy
#print axioms join_mem
#print axioms join_step
end Go.Proofs.Ytnidalbfmicoiaa
