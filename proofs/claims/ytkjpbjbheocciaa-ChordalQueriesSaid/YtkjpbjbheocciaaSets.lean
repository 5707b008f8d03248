/- Plain facts on sets of nodes as numbers, graphs as lists of such sets, cliques and independent sets. -/
import Derived.Test.YtkjpbjbheocciaaBase
namespace Go.Proofs.Ytkjpbjbheocciaa

def Sub (p s : Nat) : Prop := ndiff p s = 0
instance (p s : Nat) : Decidable (Sub p s) := inferInstanceAs (Decidable (ndiff p s = 0))
theorem sub_iff {p s : Nat} : Sub p s ↔ ∀ i, p.testBit i = true → s.testBit i = true := ndiff_eq_zero
theorem Sub.refl (p : Nat) : Sub p p := sub_iff.2 fun _ h => h
theorem Sub.trans {a b c : Nat} (h : Sub a b) (k : Sub b c) : Sub a c := sub_iff.2 fun i hi => sub_iff.1 k i (sub_iff.1 h i hi)
theorem Sub.antisymm {a b : Nat} (h : Sub a b) (k : Sub b a) : a = b := by
  apply Nat.eq_of_testBit_eq
  intro i
  have h1 := sub_iff.1 h i
  have h2 := sub_iff.1 k i
  cases ha : a.testBit i <;> cases hb : b.testBit i <;> simp_all
theorem Sub.and_eq {a b : Nat} (h : Sub a b) : a &&& b = a := by
  apply Nat.eq_of_testBit_eq; intro i; rw [Nat.testBit_and]
  have := sub_iff.1 h i
  cases ha : a.testBit i <;> simp_all
theorem Sub.le {a b : Nat} (h : Sub a b) : a ≤ b := by rw [← h.and_eq]; exact Nat.and_le_right
theorem lt_pow_of_bits {n a : Nat} (h : ∀ i, a.testBit i = true → i < n) : a < 2 ^ n := by
  have : Sub a (2 ^ n - 1) := sub_iff.2 fun i hi => by rw [Nat.testBit_two_pow_sub_one]; simpa using h i hi
  have := this.le
  have := Nat.two_pow_pos n
  omega
theorem bit_lt {n a i : Nat} (h : a < 2 ^ n) (hi : a.testBit i = true) : i < n := by
  refine Decidable.byContradiction fun hn => ?_
  have := Nat.testBit_lt_two_pow (x := a) (i := i) (Nat.lt_of_lt_of_le h (Nat.pow_le_pow_right (by decide) (by omega)))
  simp [this] at hi
theorem testBit_pow (i j : Nat) : (2 ^ i).testBit j = decide (i = j) := Nat.testBit_two_pow
theorem eq_zero_of_bits {a : Nat} (h : ∀ i, a.testBit i = false) : a = 0 := by
  apply Nat.eq_of_testBit_eq; intro i; rw [h, Nat.zero_testBit]
theorem ex_bit {a : Nat} (h : a ≠ 0) : ∃ i, a.testBit i = true := by
  refine Classical.byContradiction fun hn => h (eq_zero_of_bits fun i => ?_)
  cases hb : a.testBit i
  · rfl
  · exact absurd ⟨i, hb⟩ hn

/-! ### graphs -/
/-- the neighbours of a node -/
def nb (g : List Nat) (i : Nat) : Nat := g.getD i 0
theorem nb_get {g : List Nat} {i : Nat} (h : i < g.length) : nb g i = g[i] := by simp [nb, h]
structure Gr (g : List Nat) : Prop where
  pos : 1 ≤ g.length
  le : g.length ≤ 12
  lt : ∀ i, i < g.length → nb g i < 2 ^ g.length
  irr : ∀ i, i < g.length → (nb g i).testBit i = false
  sym : ∀ i j, i < g.length → j < g.length → (nb g i).testBit j = true → (nb g j).testBit i = true
/-- all of the nodes of s are neighbours -/
def Cliq (g : List Nat) (s : Nat) : Prop := ∀ i, i < g.length → s.testBit i = true → Sub s (nb g i ||| 2 ^ i)
instance (g : List Nat) (s : Nat) : Decidable (Cliq g s) := inferInstanceAs (Decidable (∀ i, i < g.length → _))
/-- none are -/
def Indep (g : List Nat) (s : Nat) : Prop := ∀ i, i < g.length → s.testBit i = true → nb g i &&& s = 0
instance (g : List Nat) (s : Nat) : Decidable (Indep g s) := inferInstanceAs (Decidable (∀ i, i < g.length → _))

theorem cliq_iff {g : List Nat} {s : Nat} (hs : s < 2 ^ g.length) : Cliq g s ↔ ∀ i j, s.testBit i = true → s.testBit j = true → i ≠ j → (nb g i).testBit j = true := by
  constructor
  · intro h i j hi hj hij
    have := sub_iff.1 (h i (bit_lt hs hi) hi) j hj
    rw [Nat.testBit_or, testBit_pow] at this
    simpa [hij] using this
  · intro h i hi hb
    refine sub_iff.2 fun j hj => ?_
    rw [Nat.testBit_or, testBit_pow]
    by_cases e : i = j
    · simp [e]
    · simp [h i j hb hj e]
theorem indep_iff {g : List Nat} {s : Nat} (hs : s < 2 ^ g.length) : Indep g s ↔ ∀ i j, s.testBit i = true → s.testBit j = true → (nb g i).testBit j = false := by
  constructor
  · intro h i j hi hj
    have e := h i (bit_lt hs hi) hi
    have : (nb g i &&& s).testBit j = false := by rw [e, Nat.zero_testBit]
    rw [Nat.testBit_and, hj] at this
    simpa using this
  · intro h i hi hb
    refine eq_zero_of_bits fun j => ?_
    rw [Nat.testBit_and]
    cases hj : s.testBit j
    · simp
    · simp [h i j hb hj]

/-- the other graph -/
def co (g : List Nat) : List Nat := (List.range g.length).map fun i => ndiff (ndiff (2 ^ g.length - 1) (nb g i)) (2 ^ i)
theorem co_length (g : List Nat) : (co g).length = g.length := by simp [co]
theorem nb_co {g : List Nat} {i : Nat} (h : i < g.length) : nb (co g) i = ndiff (ndiff (2 ^ g.length - 1) (nb g i)) (2 ^ i) := by
  rw [nb_get (by rw [co_length]; exact h)]; simp [co]
theorem co_bit {g : List Nat} {i j : Nat} (h : i < g.length) (hj : j < g.length) : (nb (co g) i).testBit j = (!(nb g i).testBit j && !decide (i = j)) := by
  rw [nb_co h, testBit_ndiff, testBit_ndiff, testBit_pow, Nat.testBit_two_pow_sub_one]; simp [hj]
theorem co_gr {g : List Nat} (h : Gr g) : Gr (co g) := by
  refine ⟨by rw [co_length]; exact h.pos, by rw [co_length]; exact h.le, ?_, ?_, ?_⟩
  · intro i hi
    rw [co_length] at hi ⊢
    rw [nb_co hi]
    have e1 := ndiff_le (ndiff (2 ^ g.length - 1) (nb g i)) (2 ^ i)
    have e2 := ndiff_le (2 ^ g.length - 1) (nb g i)
    have := Nat.two_pow_pos g.length
    omega
  · intro i hi
    rw [co_length] at hi
    rw [co_bit hi hi]; simp
  · intro i j hi hj
    rw [co_length] at hi hj
    rw [co_bit hi hj, co_bit hj hi]
    simp only [Bool.and_eq_true, Bool.not_eq_true', decide_eq_false_iff_not]
    intro ⟨a, b⟩
    refine ⟨?_, fun e => b e.symm⟩
    cases hb : (nb g j).testBit i
    · rfl
    · rw [h.sym j i hj hi hb] at a; simp at a
theorem indep_co {g : List Nat} {s : Nat} (hs : s < 2 ^ g.length) : Indep (co g) s ↔ Cliq g s := by
  rw [indep_iff (by rw [co_length]; exact hs), cliq_iff hs]
  constructor
  · intro k i j hi hj hij
    have := k i j hi hj
    rw [co_bit (bit_lt hs hi) (bit_lt hs hj)] at this
    simpa [hij] using this
  · intro k i j hi hj
    rw [co_bit (bit_lt hs hi) (bit_lt hs hj)]
    by_cases e : i = j
    · simp [e]
    · simp [k i j hi hj e]
theorem cliq_co {g : List Nat} (h : Gr g) {s : Nat} (hs : s < 2 ^ g.length) : Cliq (co g) s ↔ Indep g s := by
  rw [indep_iff hs, cliq_iff (by rw [co_length]; exact hs)]
  constructor
  · intro k i j hi hj
    by_cases e : i = j
    · subst e; exact h.irr i (bit_lt hs hi)
    · have := k i j hi hj e
      rw [co_bit (bit_lt hs hi) (bit_lt hs hj)] at this
      simpa [e] using this
  · intro k i j hi hj e
    rw [co_bit (bit_lt hs hi) (bit_lt hs hj), k i j hi hj]
    simp [e]

/-! ### the best set -/
/-- how many elements a set below 2^64 has -/
def pop (s : Nat) : Nat := ((List.range 64).filter fun i => s.testBit i).length
/-- of the sets below k, the least one of those with p that have the most elements -/
def bestTo (p : Nat → Bool) : Nat → Nat
  | 0 => 0
  | k + 1 => if pop (bestTo p k) < pop k ∧ p k = true then k else bestTo p k
theorem bestTo_le (p : Nat → Bool) : ∀ k, bestTo p k ≤ k
  | 0 => Nat.le_refl _
  | k + 1 => by
    have := bestTo_le p k
    rw [bestTo]; split <;> omega
theorem bestTo_lt (p : Nat → Bool) (k : Nat) (h : 0 < k) : bestTo p k < k := by
  cases k with
  | zero => omega
  | succ k => have := bestTo_le p k; rw [bestTo]; split <;> omega
theorem bestTo_congr {p q : Nat → Bool} : ∀ k, (∀ s, s < k → p s = q s) → bestTo p k = bestTo q k
  | 0, _ => rfl
  | k + 1, h => by
    rw [bestTo, bestTo, bestTo_congr k (fun s hs => h s (by omega)), h k (by omega)]
#print axioms bestTo_congr
end Go.Proofs.Ytkjpbjbheocciaa
