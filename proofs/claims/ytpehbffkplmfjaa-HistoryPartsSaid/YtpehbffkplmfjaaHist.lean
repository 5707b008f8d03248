/- Histories: plain facts. -/
import Derived.Test.YtpehbffkplmfjaaOps
namespace Go.Proofs.Ytpehbffkplmfjaa

def OpOk (t k x : Int) : Prop := ((1 ≤ t ∧ t ≤ 6) ∧ (0 ≤ k ∧ k ≤ 3)) ∧ (0 ≤ x ∧ x ≤ 5) ∧ (k > 1 → x = 0)
instance (t k x : Int) : Decidable (OpOk t k x) := inferInstanceAs (Decidable (_ ∧ _ ∧ _))
/-- operation i is one, and its transaction has not ended before it -/
def OpRow (l : List HOp) (i : Nat) : Prop := OpOk (oT l i) (oK l i) (oI l i) ∧ ∀ j, j < i → ¬ (oT l j = oT l i ∧ oK l j > 1)
instance (l : List HOp) (i : Nat) : Decidable (OpRow l i) := inferInstanceAs (Decidable (_ ∧ ∀ j, j < i → _))
def ValidH (l : List HOp) : Prop := l.length ≤ 40 ∧ ∀ i, i < l.length → OpRow l i
instance (l : List HOp) : Decidable (ValidH l) := inferInstanceAs (Decidable (_ ∧ ∀ i, i < l.length → _))
theorem validH_no {l : List HOp} {i : Nat} (hi : i < l.length) (h : ¬ OpRow l i) : ¬ ValidH l := fun hh => h (hh.2 i hi)
/-- transaction t has ended among the first k operations -/
def Ended (l : List HOp) (k : Nat) (t : Int) : Prop := ∃ j, j < k ∧ oT l j = t ∧ oK l j > 1
instance (l : List HOp) (k : Nat) (t : Int) : Decidable (Ended l k t) :=
  decidable_of_iff (∃ j : Fin k, oT l j = t ∧ oK l j > 1) ⟨fun ⟨j, h⟩ => ⟨j, j.2, h⟩, fun ⟨j, hj, h⟩ => ⟨⟨j, hj⟩, h⟩⟩
theorem opRow_ended {l : List HOp} {i : Nat} : OpRow l i ↔ OpOk (oT l i) (oK l i) (oI l i) ∧ ¬ Ended l i (oT l i) :=
  ⟨fun h => ⟨h.1, fun ⟨j, hj, h1, h2⟩ => h.2 j hj ⟨h1, h2⟩⟩, fun h => ⟨h.1, fun j hj hh => h.2 ⟨j, hj, hh.1, hh.2⟩⟩⟩
theorem ended_step {l : List HOp} {k : Nat} {t : Int} (hn : ¬ Ended l k (oT l k)) : Ended l (k + 1) t ↔ (if t = oT l k then oK l k > 1 else Ended l k t) := by
  constructor
  · rintro ⟨j, hj, h1, h2⟩
    by_cases e : j = k
    · subst e; rw [if_pos h1.symm]; exact h2
    · by_cases e2 : t = oT l k
      · rw [e2] at h1; exact absurd ⟨j, by omega, h1, h2⟩ hn
      · rw [if_neg e2]; exact ⟨j, by omega, h1, h2⟩
  · intro h
    by_cases e2 : t = oT l k
    · rw [if_pos e2] at h; exact ⟨k, by omega, e2.symm, h⟩
    · rw [if_neg e2] at h
      obtain ⟨j, hj, h1, h2⟩ := h
      exact ⟨j, by omega, h1, h2⟩

/-! ### histories of naturals -/
abbrev NOp := Nat × Nat × Nat
def castO (h : List NOp) : List HOp := h.map fun d => ((d.1 : Int), (d.2.1 : Int), (d.2.2 : Int))
def tT (h : List NOp) (i : Nat) : Nat := (h.getD i (0, 0, 0)).1
def tK (h : List NOp) (i : Nat) : Nat := (h.getD i (0, 0, 0)).2.1
def tI (h : List NOp) (i : Nat) : Nat := (h.getD i (0, 0, 0)).2.2
theorem castO_length (h : List NOp) : (castO h).length = h.length := by simp [castO]
theorem castO_at (h : List NOp) (i : Nat) : oT (castO h) i = tT h i ∧ oK (castO h) i = tK h i ∧ oI (castO h) i = tI h i := by
  unfold oT oK oI tT tK tI castO
  rw [List.getD_eq_getElem?_getD, List.getD_eq_getElem?_getD, List.getElem?_map]
  cases h[i]? <;> simp
structure VH (h : List NOp) : Prop where
  le : h.length ≤ 40
  t6 : ∀ i, i < h.length → 1 ≤ tT h i ∧ tT h i ≤ 6
  k3 : ∀ i, i < h.length → tK h i ≤ 3
  x5 : ∀ i, i < h.length → tI h i ≤ 5 ∧ (1 < tK h i → tI h i = 0)
  once : ∀ i, i < h.length → ∀ j, j < i → ¬ (tT h j = tT h i ∧ 1 < tK h j)
theorem validH_nat {l : List HOp} (hv : ValidH l) : ∃ h, VH h ∧ l = castO h := by
  have hl : castO (l.map fun d => (d.1.toNat, d.2.1.toNat, d.2.2.toNat)) = l := by
    unfold castO
    rw [List.map_map]
    conv => rhs; rw [← List.map_id l]
    apply List.map_congr_left
    intro d hd
    obtain ⟨i, hi, rfl⟩ := List.getElem_of_mem hd
    have := (hv.2 i hi).1
    rw [op_get hi]
    unfold OpOk at this
    simp only [Function.comp, id]
    rw [Int.toNat_of_nonneg (by omega), Int.toNat_of_nonneg (by omega), Int.toNat_of_nonneg (by omega)]
  refine ⟨_, ?_, hl.symm⟩
  generalize (l.map fun d => (d.1.toNat, d.2.1.toNat, d.2.2.toNat)) = h at hl
  subst hl
  rw [ValidH, castO_length] at hv
  have key : ∀ i, i < h.length → _ := fun i hi => by
    have := hv.2 i hi
    unfold OpRow OpOk at this
    rw [(castO_at h i).1, (castO_at h i).2.1, (castO_at h i).2.2] at this
    exact this
  refine ⟨hv.1, fun i hi => by have := key i hi; omega, fun i hi => by have := key i hi; omega, fun i hi => by have := (key i hi).1; omega, fun i hi j hj hh => ?_⟩
  refine (key i hi).2 j hj ⟨by rw [(castO_at h j).1]; omega, by rw [(castO_at h j).2.1]; omega⟩
theorem valid_of {h : List NOp} (hv : VH h) : ValidH (castO h) := by
  refine ⟨by rw [castO_length]; exact hv.le, fun i hi => ?_⟩
  rw [castO_length] at hi
  unfold OpRow OpOk
  rw [(castO_at h i).1, (castO_at h i).2.1, (castO_at h i).2.2]
  have h1 := hv.t6 i hi
  have h2 := hv.k3 i hi
  have h3 := hv.x5 i hi
  refine ⟨by omega, fun j hj hh => ?_⟩
  rw [(castO_at h j).1, (castO_at h j).2.1] at hh
  exact hv.once i hi j hj ⟨by omega, by omega⟩
/-- among the first n operations: the index of the first one of a transaction, and of the last one of a kind; 40: there is none -/
def beg (h : List NOp) : Nat → Nat → Nat
  | 0, _ => 40
  | n + 1, t => if tT h n = t then min (beg h n t) n else beg h n t
def en (h : List NOp) (q : Nat) : Nat → Nat → Nat
  | 0, _ => 40
  | n + 1, t => if tT h n = t ∧ tK h n = q then n else en h q n t
theorem beg_le (h : List NOp) (t : Nat) : ∀ n, beg h n t ≤ 40
  | 0 => Nat.le_refl _
  | n + 1 => by have := beg_le h t n; rw [beg]; split <;> omega
theorem en_le (h : List NOp) (q t : Nat) : ∀ n, n ≤ 40 → en h q n t ≤ 40
  | 0, _ => Nat.le_refl _
  | n + 1, hn => by have := en_le h q t n (by omega); rw [en]; split <;> omega
theorem en_spec (h : List NOp) (q t : Nat) : ∀ n, n ≤ 40 → (en h q n t = 40 ∧ ∀ i, i < n → ¬ (tT h i = t ∧ tK h i = q)) ∨ (en h q n t < n ∧ tT h (en h q n t) = t ∧ tK h (en h q n t) = q)
  | 0, _ => .inl ⟨rfl, fun i hi => by omega⟩
  | n + 1, hn => by
    rw [en]
    by_cases e : tT h n = t ∧ tK h n = q
    · rw [if_pos e]; exact .inr ⟨by omega, e⟩
    · rw [if_neg e]
      rcases en_spec h q t n (by omega) with h1 | h1
      · refine .inl ⟨h1.1, fun i hi hh => ?_⟩
        by_cases e2 : i = n
        · subst e2; exact e hh
        · exact h1.2 i (by omega) hh
      · exact .inr ⟨by omega, h1.2⟩
/-- a transaction ends but once -/
theorem VH.uniq {h : List NOp} (hv : VH h) {i j : Nat} (hi : i < h.length) (hj : j < h.length) (ht : tT h i = tT h j) (ki : 1 < tK h i) (kj : 1 < tK h j) : i = j := by
  rcases Nat.lt_trichotomy i j with h1 | h1 | h1
  · exact absurd ⟨ht, ki⟩ (hv.once j hj i h1)
  · exact h1
  · exact absurd ⟨ht.symm, kj⟩ (hv.once i hi j h1)
theorem en_is {h : List NOp} (hv : VH h) {q i : Nat} (hq : 1 < q) (hi : i < h.length) (hk : tK h i = q) : en h q h.length (tT h i) = i := by
  rcases en_spec h q (tT h i) h.length hv.le with h1 | h1
  · exact absurd ⟨rfl, hk⟩ (h1.2 i hi)
  · exact hv.uniq h1.1 hi h1.2.1 (by omega) (by omega)
#print axioms validH_nat
#print axioms valid_of
#print axioms en_is
end Go.Proofs.Ytpehbffkplmfjaa
