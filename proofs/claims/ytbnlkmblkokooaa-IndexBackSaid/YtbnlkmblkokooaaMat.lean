/- The lengths of matches: of no program. -/
import Derived.Test.YtbnlkmblkokooaaStr
import Derived.Lib.IndexMore
namespace Go.Proofs.Ytbnlkmblkokooaa
open Go

/-- the greatest of f j, j < n -/
def maxTo (f : Nat → Nat) : Nat → Nat
  | 0 => 0
  | n + 1 => max (maxTo f n) (f n)
theorem le_maxTo (f : Nat → Nat) : ∀ {n j}, j < n → f j ≤ maxTo f n
  | n + 1, j, h => by
    unfold maxTo
    by_cases e : j = n
    · subst e; exact Nat.le_max_right _ _
    · exact Nat.le_trans (le_maxTo f (by omega)) (Nat.le_max_left _ _)
theorem maxTo_at (f : Nat → Nat) : ∀ n, maxTo f n = 0 ∨ ∃ j, j < n ∧ f j = maxTo f n
  | 0 => .inl rfl
  | n + 1 => by
    unfold maxTo
    rcases Nat.le_total (maxTo f n) (f n) with h | h
    · right; exact ⟨n, by omega, by rw [Nat.max_eq_right h]⟩
    · rw [Nat.max_eq_left h]
      rcases maxTo_at f n with h' | ⟨j, h1, h2⟩
      · exact .inl h'
      · exact .inr ⟨j, by omega, h2⟩
theorem maxTo_le (f : Nat → Nat) (b : Nat) : ∀ n : Nat, (∀ j : Nat, j < n → f j ≤ b) → maxTo f n ≤ b
  | 0, _ => Nat.zero_le _
  | n + 1, h => by
    unfold maxTo
    exact Nat.max_le.2 ⟨maxTo_le f b n fun j hj => h j (by omega), h n (by omega)⟩
/-- of q, the length of the longest beginning that stands in t -/
def mat (t q : Bs) : Nat := maxTo (fun j => lcp q (t.drop j)) t.length
theorem mat_le (t q : Bs) : mat t q ≤ q.length := maxTo_le _ _ _ fun _ _ => (lcp_le _ _).1
theorem occ_lcp {t q : Bs} {m j : Nat} (hm : m ≤ q.length) : Lib.occAt t (q.take m) j = decide (m ≤ lcp q (t.drop j)) := by
  rw [Bool.eq_iff_iff, decide_eq_true_iff, lcp_ge]
  unfold Lib.occAt
  rw [List.isPrefixOf_iff_prefix, List.prefix_iff_eq_take, List.length_take, Nat.min_eq_left hm]
  constructor
  · intro h
    refine ⟨h, hm, ?_⟩
    have := congrArg List.length h
    rw [List.length_take, List.length_take] at this
    omega
  · exact fun h => h.1
theorem contains_iff (t s : Bs) : Lib.contains t s = true ↔ ∃ j, j ≤ t.length ∧ Lib.occAt t s j = true := by
  unfold Lib.contains
  rw [decide_eq_true_iff]
  rcases Lib.index_spec t s with ⟨h1, h2⟩ | ⟨i, h1, h2, h3, _⟩
  · rw [h1]
    constructor
    · intro h; omega
    · rintro ⟨j, hj, h⟩; rw [h2 j hj] at h; cases h
  · rw [h1]
    exact ⟨fun _ => ⟨i, h2, h3⟩, fun _ => by omega⟩
theorem contains_mat {t q : Bs} {m : Nat} (hm : m ≤ q.length) : Lib.contains t (q.take m) = decide (m ≤ mat t q) := by
  rw [Bool.eq_iff_iff, decide_eq_true_iff, contains_iff]
  constructor
  · rintro ⟨j, hj, h⟩
    rw [occ_lcp hm, decide_eq_true_iff] at h
    by_cases e : j = t.length
    · subst e
      rw [List.drop_length, lcp_nil] at h
      omega
    · exact Nat.le_trans h (le_maxTo (fun j => lcp q (t.drop j)) (by omega))
  · intro h
    rcases maxTo_at (fun j => lcp q (t.drop j)) t.length with h' | ⟨j, h1, h2⟩
    · have : m = 0 := by unfold mat at h; omega
      subst this
      exact ⟨0, Nat.zero_le _, by simp [Lib.occAt]⟩
    · refine ⟨j, by omega, ?_⟩
      rw [occ_lcp hm, decide_eq_true_iff]
      unfold mat at h
      omega
theorem lcp_tail (a b : Bs) : lcp a b - 1 ≤ lcp (a.drop 1) (b.drop 1) := by
  cases a with
  | nil => rw [nil_lcp]; omega
  | cons x a =>
    cases b with
    | nil => rw [lcp_nil]; omega
    | cons y b =>
      rw [lcp_cons]
      split
      · simp
      · omega
/-- what is left of a match is a match -/
theorem mat_step (t p : Bs) (i : Nat) : mat t (p.drop i) - 1 ≤ mat t (p.drop (i + 1)) := by
  rcases maxTo_at (fun j => lcp (p.drop i) (t.drop j)) t.length with h' | ⟨j, h1, h2⟩
  · unfold mat; omega
  · have h3 := lcp_tail (p.drop i) (t.drop j)
    rw [List.drop_drop, List.drop_drop] at h3
    have e : mat t (p.drop i) = lcp (p.drop i) (t.drop j) := h2.symm
    rw [e]
    by_cases hj : j + 1 < t.length
    · exact Nat.le_trans h3 (le_maxTo (fun j => lcp (p.drop (i + 1)) (t.drop j)) hj)
    · rw [show t.drop (j + 1) = [] from List.drop_eq_nil_of_le (by omega), lcp_nil] at h3
      omega
/-- whether m + 1 bytes of p from i on stand in t -/
theorem contains_at {t p : Bs} {i m : Nat} (h : i + m ≤ p.length) : Lib.contains t ((p.drop i).take m) = decide (m ≤ mat t (p.drop i)) :=
  contains_mat (by rw [List.length_drop]; omega)
#print axioms contains_at
#print axioms mat_step
end Go.Proofs.Ytbnlkmblkokooaa
