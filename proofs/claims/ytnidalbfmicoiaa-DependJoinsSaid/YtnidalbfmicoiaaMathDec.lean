/- Decomposing, as a relation; what it measures. -/
import Derived.Test.YtnidalbfmicoiaaMathBase
namespace Go.Proofs.Ytnidalbfmicoiaa
open Go.RowKit

/-- x shows that S is not in normal form -/
def IsVio (c : Nat → Nat) (S x : Nat) : Prop := Sub x S ∧ c x &&& S ≠ S ∧ c x &&& S ≠ x
instance (c : Nat → Nat) (S x : Nat) : Decidable (IsVio c S x) := inferInstanceAs (Decidable (_ ∧ _ ∧ _))
def vioTo (c : Nat → Nat) (S : Nat) : Option DepN := ((List.range S).find? fun x => decide (IsVio c S x)).map fun x => (x, ndiff (c x &&& S) x)
theorem vio_found {c : Nat → Nat} {S x : Nat} (hx : x < S) (h : IsVio c S x) (hb : ∀ y, y < x → ¬ IsVio c S y) : vioTo c S = some (x, ndiff (c x &&& S) x) := by
  unfold vioTo
  rw [show (List.range S).find? (fun x => decide (IsVio c S x)) = some x from List.find?_range_eq_some.2 ⟨by simpa using h, by simpa using hx, fun j hj => by simpa using hb j hj⟩]
  rfl
theorem vio_none {c : Nat → Nat} {S : Nat} (hb : ∀ y, y < S → ¬ IsVio c S y) : vioTo c S = none := by
  unfold vioTo
  rw [show (List.range S).find? (fun x => decide (IsVio c S x)) = none from List.find?_range_eq_none.2 fun j hj => by simpa using hb j hj]
  rfl
theorem vio_some {c : Nat → Nat} {S : Nat} {d : DepN} (h : vioTo c S = some d) : d.1 < S ∧ IsVio c S d.1 ∧ d.2 = ndiff (c d.1 &&& S) d.1 := by
  unfold vioTo at h
  obtain ⟨x, hx, rfl⟩ := Option.map_eq_some_iff.1 h
  obtain ⟨h1, h2, -⟩ := List.find?_range_eq_some.1 hx
  exact ⟨by simpa using h2, by simpa using h1, rfl⟩
theorem vio_top {c : Nat → Nat} {S : Nat} (hc : Sub S (c S)) : ¬ IsVio c S S := fun h => h.2.1 (by rw [Nat.and_comm]; exact hc.and_eq)

/-- a is done, t stands to be looked at, r comes in the end -/
inductive Run (c : Nat → Nat) : List Nat → List Nat → List Nat → Prop
  | done (a : List Nat) : Run c a [] a
  | keep {a t r : List Nat} {S : Nat} : vioTo c S = none → Run c (a ++ [S]) t r → Run c a (S :: t) r
  | split {a t r : List Nat} {S : Nat} {d : DepN} : vioTo c S = some d → Run c a ((d.1 ||| d.2) :: ndiff S d.2 :: t) r → Run c a (S :: t) r
theorem Run.at_nil {c : Nat → Nat} {a r : List Nat} (h : Run c a [] r) : r = a := by cases h; rfl
theorem Run.at_none {c : Nat → Nat} {a t r : List Nat} {S : Nat} (h : Run c a (S :: t) r) (hv : vioTo c S = none) : Run c (a ++ [S]) t r := by
  cases h with
  | keep _ h => exact h
  | split h1 _ => rw [hv] at h1; cases h1
theorem Run.at_some {c : Nat → Nat} {a t r : List Nat} {S : Nat} {d : DepN} (h : Run c a (S :: t) r) (hv : vioTo c S = some d) : Run c a ((d.1 ||| d.2) :: ndiff S d.2 :: t) r := by
  cases h with
  | keep h1 _ => rw [hv] at h1; cases h1
  | split h1 h2 => rw [hv] at h1; cases h1; exact h2
theorem Run.back {c : Nat → Nat} {r t : List Nat} : ∀ (a b : List Nat), (∀ x ∈ a, vioTo c x = none) → Run c (b ++ a) t r → Run c b (a ++ t) r
  | [], b, _, h => by simpa using h
  | x :: a, b, ha, h => .keep (ha x (by simp)) (Run.back a (b ++ [x]) (fun y hy => ha y (by simp [hy])) (by simpa using h))
theorem Run.normal {c : Nat → Nat} {a t r : List Nat} (h : Run c a t r) (ha : ∀ x ∈ a, vioTo c x = none) : ∀ x ∈ r, vioTo c x = none := by
  induction h with
  | done a => exact ha
  | keep h1 _ ih =>
    refine ih fun x hx => ?_
    · rcases List.mem_append.1 hx with hx | hx
      · exact ha x hx
      · simp at hx; subst hx; exact h1
  | split _ _ ih => exact ih ha

/-! the measure -/
def pc (S : Nat) : Nat := (List.range 8).countP fun i => S.testBit i
theorem pc_lt {A S : Nat} (h : Sub A S) (hne : A ≠ S) (hS : S < 256) : pc A < pc S := by
  have : ¬ Sub S A := fun k => hne (h.antisymm k)
  rw [sub_iff] at this
  have ⟨i, hi⟩ := Classical.not_forall.1 this
  have ⟨h1, h2⟩ := Classical.not_imp.1 hi
  have h3 : A.testBit i = false := by simpa using h2
  have hi8 : i < 8 := by
    apply Nat.lt_of_not_le
    intro h8
    have := Nat.testBit_lt_two_pow (x := S) (i := i) (Nat.lt_of_lt_of_le hS (show 2 ^ 8 ≤ 2 ^ i from Nat.pow_le_pow_right (by decide) h8))
    rw [h1] at this; cases this
  have hs := sub_iff.1 h
  have key : ∀ j, A.testBit j = true → S.testBit j = true := hs
  unfold pc
  have e : List.range 8 = [0, 1, 2, 3, 4, 5, 6, 7] := rfl
  rw [e]
  simp only [List.countP_cons, List.countP_nil]
  have k0 := key 0
  have k1 := key 1
  have k2 := key 2
  have k3 := key 3
  have k4 := key 4
  have k5 := key 5
  have k6 := key 6
  have k7 := key 7
  have q : ∀ j, (if A.testBit j = true then 1 else 0) ≤ (if S.testBit j = true then 1 else 0) := by
    intro j
    by_cases h : A.testBit j = true
    · rw [if_pos h, if_pos (key j h)]; exact Nat.le_refl _
    · rw [if_neg h]; exact Nat.zero_le _
  have q0 := q 0
  have q1 := q 1
  have q2 := q 2
  have q3 := q 3
  have q4 := q 4
  have q5 := q 5
  have q6 := q 6
  have q7 := q 7
  have qi : (if A.testBit i = true then 1 else 0) < (if S.testBit i = true then 1 else 0) := by
    rw [h3, h1]; decide
  have : i = 0 ∨ i = 1 ∨ i = 2 ∨ i = 3 ∨ i = 4 ∨ i = 5 ∨ i = 6 ∨ i = 7 := by omega
  rcases this with rfl | rfl | rfl | rfl | rfl | rfl | rfl | rfl <;> omega
def wt (S : Nat) : Nat := 2 * 2 ^ pc S - 1
theorem wt_pos (S : Nat) : 1 ≤ wt S := by unfold wt; have := Nat.one_le_two_pow (n := pc S); omega
theorem wt_split {A B S : Nat} (hA : Sub A S) (hA' : A ≠ S) (hB : Sub B S) (hB' : B ≠ S) (hS : S < 256) : wt A + wt B < wt S := by
  unfold wt
  have h1 := pc_lt hA hA' hS
  have h2 := pc_lt hB hB' hS
  have e1 : 2 ^ pc A ≤ 2 ^ (pc S - 1) := Nat.pow_le_pow_right (by decide) (by omega)
  have e2 : 2 ^ pc B ≤ 2 ^ (pc S - 1) := Nat.pow_le_pow_right (by decide) (by omega)
  have e3 : 2 ^ pc S = 2 * 2 ^ (pc S - 1) := by rw [show pc S = (pc S - 1) + 1 from by omega, Nat.pow_succ]; simp; omega
  have := Nat.one_le_two_pow (n := pc A)
  have := Nat.one_le_two_pow (n := pc B)
  omega
def wts (t : List Nat) : Nat := (t.map wt).sum
theorem wts_cons (S : Nat) (t : List Nat) : wts (S :: t) = wt S + wts t := by simp [wts]
theorem wts_append (s t : List Nat) : wts (s ++ t) = wts s + wts t := by simp [wts]
theorem length_wts : ∀ t : List Nat, t.length ≤ wts t
  | [] => by simp
  | S :: t => by have := length_wts t; have := wt_pos S; rw [wts_cons, List.length_cons]; omega
theorem wt_le {S : Nat} : wt S ≤ 511 := by
  unfold wt
  have : pc S ≤ 8 := by unfold pc; exact Nat.le_trans List.countP_le_length (by simp)
  have := Nat.pow_le_pow_right (show 0 < 2 by decide) this
  omega
theorem ndiff_sub (a b : Nat) : Sub (ndiff a b) a := sub_iff.2 fun i hi => by rw [testBit_ndiff, Bool.and_eq_true] at hi; exact hi.1
/-- the parts of a split -/
theorem split_parts {c : Nat → Nat} {S : Nat} {d : DepN} (hS : S < 256) (hc : ∀ x, x < 256 → Sub x (c x)) (h : vioTo c S = some d) :
    d.1 ||| d.2 = c d.1 &&& S ∧ Sub d.1 S ∧ Sub d.2 S ∧ Sub (d.1 ||| d.2) S ∧ Sub (ndiff S d.2) S ∧ wt (d.1 ||| d.2) + wt (ndiff S d.2) < wt S ∧ Sub d.1 (ndiff S d.2) := by
  obtain ⟨h1, ⟨h2, h3, h4⟩, h5⟩ := vio_some h
  have hx : Sub d.1 (c d.1 &&& S) := sub_and (hc _ (by omega)) h2
  have e : d.1 ||| d.2 = c d.1 &&& S := by
    apply Nat.eq_of_testBit_eq
    intro i
    have := sub_iff.1 hx i
    rw [h5, Nat.testBit_or, testBit_ndiff]
    cases e1 : d.1.testBit i <;> cases e2 : (c d.1 &&& S).testBit i <;> simp_all
  have s1 : Sub (c d.1 &&& S) S := and_sub_right _ _
  have s2 : Sub d.2 S := by rw [h5]; exact (ndiff_sub _ _).trans s1
  have hne : ndiff S d.2 ≠ S := by
    intro he
    apply h4
    apply Sub.antisymm _ hx
    apply sub_iff.2
    intro i hi
    have hSi := sub_iff.1 s1 i hi
    have h6 := testBit_ndiff S d.2 i
    rw [he, hSi, h5, testBit_ndiff, hi] at h6
    simpa using h6
  refine ⟨e, h2, s2, by rw [e]; exact s1, ndiff_sub _ _, ?_, ?_⟩
  · rw [e]; exact wt_split s1 h3 (ndiff_sub _ _) hne hS
  · apply sub_iff.2
    intro i hi
    have hSi := sub_iff.1 h2 i hi
    rw [testBit_ndiff, h5, testBit_ndiff, hSi, hi]; simp
theorem run_ex {c : Nat → Nat} (hc : ∀ x, x < 256 → Sub x (c x)) : ∀ (k : Nat) (a t : List Nat), wts t ≤ k → (∀ S ∈ t, S < 256) → ∃ r, Run c a t r
  | _, a, [], _, _ => ⟨a, .done a⟩
  | 0, a, S :: t, h, _ => by have := wt_pos S; rw [wts_cons] at h; omega
  | k + 1, a, S :: t, h, hl => by
    rw [wts_cons] at h
    have hS := hl S (by simp)
    have hp := wt_pos S
    cases hv : vioTo c S with
    | none =>
      obtain ⟨r, hr⟩ := run_ex hc k (a ++ [S]) t (by omega) (fun x hx => hl x (by simp [hx]))
      exact ⟨r, .keep hv hr⟩
    | some d =>
      obtain ⟨-, q1, q2, q3, q4, q5, -⟩ := split_parts hS hc hv
      obtain ⟨r, hr⟩ := run_ex hc k a ((d.1 ||| d.2) :: ndiff S d.2 :: t) (by rw [wts_cons, wts_cons]; omega) (fun x hx => by
        simp at hx
        rcases hx with rfl | rfl | hx
        · exact Nat.lt_of_le_of_lt q3.le hS
        · exact Nat.lt_of_le_of_lt q4.le hS
        · exact hl x (by simp [hx]))
      exact ⟨r, .split hv hr⟩
/-- what the decomposition is -/
theorem dec_ex {c : Nat → Nat} (hc : ∀ x, x < 256 → Sub x (c x)) (S : Nat) (hS : S < 256) : ∃ r, Run c [] [S] r :=
  run_ex hc (wts [S]) [] [S] (Nat.le_refl _) (by simp; exact hS)
theorem Run.size {c : Nat → Nat} (hc : ∀ x, x < 256 → Sub x (c x)) {F : Nat} (hF : F ≤ 256) {a t r : List Nat} (h : Run c a t r) (ht : ∀ S ∈ t, S < F) (ha : ∀ S ∈ a, S < F) : wts r ≤ wts (a ++ t) ∧ ∀ S ∈ r, S < F := by
  induction h with
  | done a => exact ⟨by simp, ha⟩
  | keep h1 _ ih =>
    have := ih (fun x hx => ht x (by simp [hx])) (fun x hx => by
      rcases List.mem_append.1 hx with hx | hx
      · exact ha x hx
      · simp at hx; subst hx; exact ht _ (by simp))
    simpa using this
  | @split a t r S d h1 _ ih =>
    have hS := ht S (by simp)
    obtain ⟨-, q1, q2, q3, q4, q5, -⟩ := split_parts (by omega) hc h1
    have := ih (fun x hx => by
        simp at hx
        rcases hx with rfl | rfl | hx
        · exact Nat.lt_of_le_of_lt q3.le hS
        · exact Nat.lt_of_le_of_lt q4.le hS
        · exact ht x (by simp [hx])) ha
    refine ⟨?_, this.2⟩
    have h3 := this.1
    simp only [wts_append, wts_cons] at *
    omega
#print axioms Run.size
end Go.Proofs.Ytnidalbfmicoiaa
