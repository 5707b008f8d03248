/- The math of snapshots: the program's sets of items are what the reference asks. -/
import Derived.Test.YtpehbffkplmfjaaSnt
import Derived.Test.YtpehbffkplmfjaaSnh
namespace Go.Proofs.Ytpehbffkplmfjaa
open Go.RowKit
theorem snW_bit {h : List NOp} {t x : Nat} : ∀ n, (snW h n t).testBit x = true ↔ ∃ i, i < n ∧ tT h i = t ∧ tK h i = 1 ∧ tI h i = x
  | 0 => ⟨fun e => (by simp [snW] at e), fun ⟨i, hi, _⟩ => by omega⟩
  | n + 1 => by
    have ih := snW_bit (h := h) (t := t) (x := x) n
    rw [snW]
    by_cases hk : tK h n = 1
    · rw [if_pos hk]
      by_cases ht : t = tT h n
      · simp only [ht, if_true] at ih ⊢
        rw [Nat.testBit_or, Bool.or_eq_true, ih, Nat.testBit_two_pow, decide_eq_true_eq]
        constructor
        · rintro (⟨i, hi, q⟩ | e)
          · exact ⟨i, by omega, q⟩
          · exact ⟨n, by omega, rfl, hk, e⟩
        · rintro ⟨i, hi, q⟩
          by_cases e : i = n
          · subst e; exact .inr q.2.2
          · exact .inl ⟨i, by omega, q⟩
      · simp only [ht, if_false]
        rw [ih]
        exact ⟨fun ⟨i, hi, q⟩ => ⟨i, by omega, q⟩, fun ⟨i, hi, q⟩ => ⟨i, by
          by_cases e : i = n
          · subst e; exact absurd q.1.symm ht
          · omega, q⟩⟩
    · rw [if_neg hk, ih]
      exact ⟨fun ⟨i, hi, q⟩ => ⟨i, by omega, q⟩, fun ⟨i, hi, q⟩ => ⟨i, by
        by_cases e : i = n
        · subst e; exact absurd q.2.1 hk
        · omega, q⟩⟩
theorem snR_bit {h : List NOp} {t x : Nat} : ∀ n, (snR h n t).testBit x = true ↔ ∃ i, i < n ∧ tT h i = t ∧ tK h i = 0 ∧ tI h i = x ∧ ∀ j, j < i → ¬ (tT h j = t ∧ tK h j = 1 ∧ tI h j = x)
  | 0 => ⟨fun e => (by simp [snR] at e), fun ⟨i, hi, _⟩ => by omega⟩
  | n + 1 => by
    have ih := snR_bit (h := h) (t := t) (x := x) n
    rw [snR]
    by_cases hk : tK h n = 0
    · rw [if_pos hk]
      by_cases ht : t = tT h n
      · have hw := snW_bit (h := h) (t := t) (x := x) n
        simp only [ht, if_true] at ih hw ⊢
        rw [Nat.testBit_or, Bool.or_eq_true, ih, testBit_ndiff, Nat.testBit_two_pow, Bool.and_eq_true, decide_eq_true_eq]
        constructor
        · rintro (⟨i, hi, q⟩ | ⟨e, e2⟩)
          · exact ⟨i, by omega, q⟩
          · refine ⟨n, by omega, rfl, hk, e, fun j hj q => ?_⟩
            rw [hw.2 ⟨j, hj, q⟩] at e2
            exact absurd e2 (by decide)
        · rintro ⟨i, hi, q⟩
          by_cases e : i = n
          · subst e
            refine .inr ⟨q.2.2.1, ?_⟩
            cases hc : (snW h i (tT h i)).testBit x with
            | false => rfl
            | true =>
              obtain ⟨j, hj, r⟩ := hw.1 hc
              exact absurd r (q.2.2.2 j hj)
          · exact .inl ⟨i, by omega, q⟩
      · simp only [ht, if_false]
        rw [ih]
        exact ⟨fun ⟨i, hi, q⟩ => ⟨i, by omega, q⟩, fun ⟨i, hi, q⟩ => ⟨i, by
          by_cases e : i = n
          · subst e; exact absurd q.1.symm ht
          · omega, q⟩⟩
    · rw [if_neg hk, ih]
      exact ⟨fun ⟨i, hi, q⟩ => ⟨i, by omega, q⟩, fun ⟨i, hi, q⟩ => ⟨i, by
        by_cases e : i = n
        · subst e; exact absurd q.2.1 hk
        · omega, q⟩⟩
theorem first_at {p : Nat → Prop} : ∀ n, p n → ∃ i, i ≤ n ∧ p i ∧ ∀ j, j < i → ¬ p j := by
  intro n
  induction n using Nat.strongRecOn with
  | _ n ih =>
    intro hn
    by_cases h : ∃ j, j < n ∧ p j
    · obtain ⟨j, hj, hp⟩ := h
      obtain ⟨i, hi, r⟩ := ih j hj hp
      exact ⟨i, by omega, r⟩
    · exact ⟨n, Nat.le_refl _, hn, fun j hj hp => h ⟨j, hj, hp⟩⟩
/-- the sets of the program hold what the reference asks -/
theorem snW_wr {h : List NOp} {t x : Nat} : (snW h h.length t).testBit x = true ↔ WrP h t x := snW_bit _
theorem snR_rd {h : List NOp} {t x : Nat} : (snR h h.length t).testBit x = true ↔ RdP h t x := by
  rw [snR_bit]
  constructor
  · rintro ⟨i, hi, h1, h2, h3, h4⟩
    obtain ⟨k, hk, ⟨q1, q2, q3⟩, q4⟩ := first_at (p := fun i => OnP h t x i) i ⟨h1, h3, by omega⟩
    refine ⟨k, by omega, ⟨q1, q2, q3⟩, ?_, q4⟩
    by_cases e : k = i
    · rw [e]; exact h2
    · have := h4 k (by omega)
      have : tK h k ≠ 1 := fun c => this ⟨q1, c, q2⟩
      omega
  · rintro ⟨i, hi, ⟨q1, q2, q3⟩, q4, q5⟩
    exact ⟨i, hi, q1, q4, q2, fun j hj r => q5 j hj ⟨r.1, r.2.2, by omega⟩⟩
theorem VH.row {h : List NOp} (hh : VH h) {i : Nat} (hi : i < h.length) : tT h i < 7 ∧ 1 ≤ tT h i ∧ tI h i < 6 := by
  have h1 := hh.t6 i hi
  have h2 := hh.x5 i hi
  omega
theorem wrP_lt {h : List NOp} (hh : VH h) {t x : Nat} (hw : WrP h t x) : x < 6 := by
  obtain ⟨i, hi, _, _, rfl⟩ := hw
  exact (hh.row hi).2.2
theorem rdP_lt {h : List NOp} (hh : VH h) {t x : Nat} (hw : RdP h t x) : x < 6 := by
  obtain ⟨i, hi, ⟨_, rfl, _⟩, _⟩ := hw
  exact (hh.row hi).2.2
theorem and_bit {a b : Nat} : a &&& b ≠ 0 ↔ ∃ x, a.testBit x = true ∧ b.testBit x = true := by
  constructor
  · intro h
    apply Classical.byContradiction
    intro hn
    apply h
    apply Nat.eq_of_testBit_eq
    intro i
    rw [Nat.testBit_and, Nat.zero_testBit]
    cases ha : a.testBit i with
    | false => rfl
    | true =>
      cases hb : b.testBit i with
      | false => rfl
      | true => exact absurd ⟨i, ha, hb⟩ hn
  · rintro ⟨x, ha, hb⟩ e
    have := Nat.testBit_and a b x
    rw [e, Nat.zero_testBit, ha, hb] at this
    exact absurd this (by decide)
theorem bad_iff {h : List NOp} (hh : VH h) {a c : Nat} : Bad h (snW h h.length) a c ↔ Ovl h a c ∧ ∃ x, x < 6 ∧ WrP h a x ∧ WrP h c x := by
  unfold Bad
  rw [and_bit]
  constructor
  · rintro ⟨h1, x, h2, h3⟩
    exact ⟨h1, x, wrP_lt hh (snW_wr.1 h2), snW_wr.1 h2, snW_wr.1 h3⟩
  · rintro ⟨h1, x, _, h2, h3⟩
    exact ⟨h1, x, snW_wr.2 h2, snW_wr.2 h3⟩
theorem mis_iff {h : List NOp} (hh : VH h) {a c : Nat} : Mis h (snW h h.length) (snR h h.length) a c ↔ ∃ x, x < 6 ∧ RdP h a x ∧ WrP h c x ∧ lv h h.length a < lv h h.length (7 + c) := by
  unfold Mis
  rw [and_bit]
  constructor
  · rintro ⟨⟨x, h2, h3⟩, h1⟩
    exact ⟨x, wrP_lt hh (snW_wr.1 h3), snR_rd.1 h2, snW_wr.1 h3, h1⟩
  · rintro ⟨x, _, h2, h3, h1⟩
    exact ⟨⟨x, snR_rd.2 h2, snW_wr.2 h3⟩, h1⟩
/-- the a-edges -/
def An (h : List NOp) (a c : Nat) : Prop := a ≠ c ∧ Mis h (snW h h.length) (snR h h.length) a c
instance (h : List NOp) (a c : Nat) : Decidable (An h a c) := inferInstanceAs (Decidable (_ ∧ _))
/-- a dangerous step -/
def Dg (h : List NOp) (a c : Nat) : Prop := An h a c ∧ Ovl h a c
instance (h : List NOp) (a c : Nat) : Decidable (Dg h a c) := inferInstanceAs (Decidable (_ ∧ _))
/-- the dangerous pairs: of x and y with the first k transactions -/
def tri (x y z : Nat) : NOp := (x, y, z)
def dgZ (h : List NOp) (l : List Nat) (x y k : Nat) : List NOp := if Dg h x y then ((l.take k).filter fun z => decide (Dg h y z)).map (tri x y) else []
def dgY (h : List NOp) (l : List Nat) (x j : Nat) : List NOp := (l.take j).flatMap fun y => dgZ h l x y l.length
def dgX (h : List NOp) (l : List Nat) (i : Nat) : List NOp := (l.take i).flatMap fun x => dgY h l x l.length
theorem take_getD {l : List Nat} {k : Nat} (hk : k < l.length) : l.take (k + 1) = l.take k ++ [l.getD k 0] := by
  rw [List.take_succ_eq_append_getElem hk, List.getD_eq_getElem?_getD, List.getElem?_eq_getElem hk]; rfl
theorem dgZ_step {h : List NOp} {l : List Nat} {x y k : Nat} (hk : k < l.length) : dgZ h l x y (k + 1) = if Dg h x y ∧ Dg h y (l.getD k 0) then dgZ h l x y k ++ [(x, y, l.getD k 0)] else dgZ h l x y k := by
  unfold dgZ
  rw [take_getD hk]
  generalize l.getD k 0 = z
  by_cases h1 : Dg h x y
  · by_cases h2 : Dg h y z
    · rw [if_pos h1, if_pos ⟨h1, h2⟩, if_pos h1, List.filter_append, List.map_append]
      simp [h2, tri]
    · rw [if_pos h1, if_neg (fun q => h2 q.2), if_pos h1, List.filter_append, List.map_append]
      simp [h2]
  · rw [if_neg h1, if_neg (fun q => h1 q.1), if_neg h1]
theorem dgZ_no {h : List NOp} {l : List Nat} {x y k : Nat} (hn : ¬ Dg h x y) : dgZ h l x y k = [] := if_neg hn
theorem dgY_step {h : List NOp} {l : List Nat} {x j : Nat} (hj : j < l.length) : dgY h l x (j + 1) = dgY h l x j ++ dgZ h l x (l.getD j 0) l.length := by
  unfold dgY
  rw [take_getD hj, List.flatMap_append]; simp
theorem dgX_step {h : List NOp} {l : List Nat} {i : Nat} (hi : i < l.length) : dgX h l (i + 1) = dgX h l i ++ dgY h l (l.getD i 0) l.length := by
  unfold dgX
  rw [take_getD hi, List.flatMap_append]; simp
theorem flat_le {α β : Type} {f : α → List β} {n : Nat} : ∀ {l : List α}, (∀ x, x ∈ l → (f x).length ≤ n) → (l.flatMap f).length ≤ l.length * n
  | [], _ => by simp
  | a :: l, h => by
    have h1 := h a (by simp)
    have h2 := flat_le (l := l) (fun x hx => h x (by simp [hx]))
    simp only [List.flatMap_cons, List.length_append, List.length_cons]
    rw [Nat.add_mul]; omega
theorem dgZ_le {h : List NOp} {l : List Nat} {x y k : Nat} (hl : l.length ≤ 7) : (dgZ h l x y k).length ≤ 7 := by
  unfold dgZ
  split
  · rw [List.length_map]
    have h1 := List.length_filter_le (fun z => decide (Dg h y z)) (l.take k)
    have h2 : (l.take k).length ≤ l.length := List.length_take_le' _ _
    omega
  · simp
theorem dgY_le {h : List NOp} {l : List Nat} {x j : Nat} (hl : l.length ≤ 7) : (dgY h l x j).length ≤ 49 := by
  unfold dgY
  have h1 := flat_le (f := fun y => dgZ h l x y l.length) (n := 7) (l := l.take j) (fun y _ => dgZ_le hl)
  have h2 : (l.take j).length ≤ l.length := List.length_take_le' _ _
  omega
theorem dgX_le {h : List NOp} {l : List Nat} {i : Nat} (hl : l.length ≤ 7) : (dgX h l i).length ≤ 343 := by
  unfold dgX
  have h1 := flat_le (f := fun x => dgY h l x l.length) (n := 49) (l := l.take i) (fun y _ => dgY_le hl)
  have h2 : (l.take i).length ≤ l.length := List.length_take_le' _ _
  omega
/-- all dangerous pairs -/
def dgN (h : List NOp) : List NOp := dgX h (comN h 7) (comN h 7).length
#print axioms dgX_le
end Go.Proofs.Ytpehbffkplmfjaa
