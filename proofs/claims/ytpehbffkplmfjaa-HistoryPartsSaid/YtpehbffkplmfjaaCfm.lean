/- The reference's edges and the program's are the same. -/
import Derived.Test.YtpehbffkplmfjaaPrt
namespace Go.Proofs.Ytpehbffkplmfjaa
def CfR (H : List NOp) (i j : Nat) : Prop := Cf (tT H j) (tK H j) (tI H j) (tT H i) (tK H i) (tI H i)
instance (H : List NOp) (i j : Nat) : Decidable (CfR H i j) := inferInstanceAs (Decidable (Cf _ _ _ _ _ _))
def edRIn (H : List NOp) (i : Nat) (E : Nat → Nat → Bool) : Nat → Nat → Nat → Bool
  | 0 => E
  | j + 1 => fun a b => if CfR H i j ∧ a = tT H j ∧ b = tT H i then true else edRIn H i E j a b
/-- the edges that the reference finds among the first operations -/
def edR (H : List NOp) : Nat → Nat → Nat → Bool
  | 0 => fun _ _ => false
  | i + 1 => edRIn H i (edR H i) i
theorem edRIn_no {H : List NOp} {i j : Nat} {E : Nat → Nat → Bool} (e : ¬ CfR H i j) : edRIn H i E (j + 1) = edRIn H i E j := by
  funext a b
  simp only [edRIn]
  rw [if_neg fun q => e q.1]
theorem edRIn_yes {H : List NOp} {i j : Nat} {E : Nat → Nat → Bool} (e : CfR H i j) : edRIn H i E (j + 1) = fun a b => if a = tT H j ∧ b = tT H i then true else edRIn H i E j a b := by
  funext a b
  simp only [edRIn]
  by_cases e2 : a = tT H j ∧ b = tT H i
  · rw [if_pos ⟨e, e2⟩, if_pos e2]
  · rw [if_neg fun q => e2 q.2, if_neg e2]
theorem edRIn_true {H : List NOp} {i : Nat} {E : Nat → Nat → Bool} {a b : Nat} : ∀ j, edRIn H i E j a b = true ↔ E a b = true ∨ ∃ k, k < j ∧ CfR H i k ∧ a = tT H k ∧ b = tT H i
  | 0 => by simp [edRIn]
  | j + 1 => by
    simp only [edRIn]
    by_cases e : CfR H i j ∧ a = tT H j ∧ b = tT H i
    · rw [if_pos e]
      exact ⟨fun _ => .inr ⟨j, by omega, e⟩, fun _ => rfl⟩
    · rw [if_neg e, edRIn_true j]
      constructor
      · rintro (h | ⟨k, hk, h⟩)
        · exact .inl h
        · exact .inr ⟨k, by omega, h⟩
      · rintro (h | ⟨k, hk, h⟩)
        · exact .inl h
        · by_cases e2 : k = j
          · subst e2; exact absurd h e
          · exact .inr ⟨k, by omega, h⟩
theorem edR_true {H : List NOp} {a b : Nat} : ∀ n, edR H n a b = true ↔ ∃ i, i < n ∧ ∃ j, j < i ∧ CfR H i j ∧ a = tT H j ∧ b = tT H i
  | 0 => by simp [edR]
  | n + 1 => by
    rw [edR, edRIn_true, edR_true n]
    constructor
    · rintro (⟨i, hi, h⟩ | ⟨k, hk, h⟩)
      · exact ⟨i, by omega, h⟩
      · exact ⟨n, by omega, k, hk, h⟩
    · rintro ⟨i, hi, h⟩
      by_cases e : i = n
      · subst e; exact .inr h
      · exact .inl ⟨i, by omega, h⟩
theorem edIn_bit {h : List NOp} {i : Nat} {f : Nat → Nat} {a b : Nat} : ∀ j, (edIn h i f j a).testBit b = true ↔ (f a).testBit b = true ∨ ∃ k, k < j ∧ EdOn h i k ∧ a = tT h k ∧ b = tT h i
  | 0 => by simp [edIn]
  | j + 1 => by
    simp only [edIn]
    by_cases e : EdOn h i j ∧ a = tT h j
    · rw [if_pos e, Nat.testBit_or, Bool.or_eq_true, edIn_bit j, Nat.testBit_two_pow]
      constructor
      · rintro ((h | ⟨k, hk, h⟩) | h)
        · exact .inl h
        · exact .inr ⟨k, by omega, h⟩
        · exact .inr ⟨j, by omega, e.1, e.2, by simpa using (of_decide_eq_true h).symm⟩
      · rintro (h | ⟨k, hk, h⟩)
        · exact .inl (.inl h)
        · by_cases e2 : k = j
          · exact .inr (decide_eq_true h.2.2.symm)
          · exact .inl (.inr ⟨k, by omega, h⟩)
    · rw [if_neg e, edIn_bit j]
      constructor
      · rintro (h | ⟨k, hk, h⟩)
        · exact .inl h
        · exact .inr ⟨k, by omega, h⟩
      · rintro (h | ⟨k, hk, h⟩)
        · exact .inl h
        · by_cases e2 : k = j
          · subst e2; exact absurd ⟨h.1, h.2.1⟩ e
          · exact .inr ⟨k, by omega, h⟩
theorem ed_bit {h : List NOp} {a b : Nat} : ∀ n, (ed h n a).testBit b = true ↔ ∃ i, i < n ∧ ∃ j, j < i ∧ EdOn h i j ∧ a = tT h j ∧ b = tT h i
  | 0 => by simp [ed]
  | n + 1 => by
    rw [ed, edIn_bit, ed_bit n]
    constructor
    · rintro (⟨i, hi, h⟩ | ⟨k, hk, h⟩)
      · exact ⟨i, by omega, h⟩
      · exact ⟨n, by omega, k, hk, h⟩
    · rintro ⟨i, hi, h⟩
      by_cases e : i = n
      · subst e; exact .inr h
      · exact .inl ⟨i, by omega, h⟩
theorem ed_irr {h : List NOp} (x : Nat) : (ed h h.length x).testBit x = false := by
  cases e : (ed h h.length x).testBit x with
  | false => rfl
  | true =>
    obtain ⟨i, hi, j, hj, he, h1, h2⟩ := (ed_bit _).1 e
    exact absurd (h1.symm.trans h2) he.2.2.1
theorem edR_ed {h : List NOp} (hh : VH h) (a b : Nat) : edR (partN h) (partN h).length a b = (ed h h.length a).testBit b := by
  have h1 : edR (partN h) (partN h).length a b = false ↔ (partN h).Pairwise fun p o => ¬ (Cf p.1 p.2.1 p.2.2 o.1 o.2.1 o.2.2 ∧ a = p.1 ∧ b = o.1) := by
    rw [← Bool.not_eq_true, edR_true, List.pairwise_iff_getElem]
    constructor
    · intro hn i j hi hj hij he
      rw [nop_get hi, nop_get hj] at he
      exact hn ⟨j, hj, i, hij, he.1, he.2.1, he.2.2⟩
    · rintro hn ⟨i, hi, j, hj, he⟩
      refine hn j i (by omega) hi hj ?_
      rw [nop_get hi, nop_get (Nat.lt_trans hj hi)]
      exact he
  have h2 : (ed h h.length a).testBit b = false ↔ h.Pairwise fun p o => decide (endI h 2 p.1 ≥ 0) = true → decide (endI h 2 o.1 ≥ 0) = true → ¬ (Cf p.1 p.2.1 p.2.2 o.1 o.2.1 o.2.2 ∧ a = p.1 ∧ b = o.1) := by
    have key : ∀ i j, i < h.length → j < i → (EdOn h i j ↔ (endI h 2 (tT h j) ≥ 0 ∧ endI h 2 (tT h i) ≥ 0) ∧ Cf (tT h j) (tK h j) (tI h j) (tT h i) (tK h i) (tI h i)) := fun i j hi hj => by
      have t1 := hh.t6 i hi
      have t2 := hh.t6 j (by omega)
      unfold EdOn
      rw [endI_com (by omega), endI_com (by omega)]
      exact ⟨fun q => ⟨⟨q.1.2, q.1.1⟩, q.2⟩, fun q => ⟨⟨q.1.2, q.1.1⟩, q.2⟩⟩
    rw [← Bool.not_eq_true, ed_bit, List.pairwise_iff_getElem]
    constructor
    · intro hn i j hi hj hij c1 c2 he
      rw [nop_get hi] at c1 he
      rw [nop_get hj] at c2 he
      exact hn ⟨j, hj, i, hij, (key j i hj hij).2 ⟨⟨of_decide_eq_true c1, of_decide_eq_true c2⟩, he.1⟩, he.2.1, he.2.2⟩
    · rintro hn ⟨i, hi, j, hj, he, e1, e2⟩
      have hjl : j < h.length := Nat.lt_trans hj hi
      have hk := (key i j hi hj).1 he
      have := hn j i hjl hi hj
      rw [nop_get hi, nop_get hjl] at this
      exact this (decide_eq_true hk.1.1) (decide_eq_true hk.1.2) ⟨hk.2, e1, e2⟩
  have h3 : edR (partN h) (partN h).length a b = false ↔ (ed h h.length a).testBit b = false := by
    rw [h1, h2]
    unfold partN
    rw [List.pairwise_filter]
  cases e1 : edR (partN h) (partN h).length a b
  · exact (h3.1 e1).symm
  · cases e2 : (ed h h.length a).testBit b
    · rw [h3.2 e2] at e1; cases e1
    · rfl
#print axioms edR_ed
#print axioms ed_irr
end Go.Proofs.Ytpehbffkplmfjaa
