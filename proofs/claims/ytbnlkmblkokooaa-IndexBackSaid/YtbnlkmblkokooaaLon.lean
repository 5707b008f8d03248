/- The longest string that repeats: of no program. -/
import Derived.Test.YtbnlkmblkokooaaAdj
namespace Go.Proofs.Ytbnlkmblkokooaa
open Go

theorem lss_take : ∀ {a b : Bs} {m : Nat}, lss (b.take m) (a.take m) = true → lss b a = true
  | _, _, 0, h => by simp only [List.take_zero] at h; rw [lss_irr] at h; cases h
  | [], b, m + 1, h => by rw [List.take_nil, lss_nil] at h; cases h
  | _ :: _, [], _ + 1, _ => rfl
  | a :: x, b :: y, m + 1, h => by
    rw [List.take_succ_cons, List.take_succ_cons, lss_cons] at h
    rw [lss_cons]
    simp only [Bool.or_eq_true, decide_eq_true_eq, Bool.and_eq_true, beq_iff_eq] at h ⊢
    rcases h with h | ⟨e, h⟩
    · exact .inl h
    · exact .inr ⟨e, lss_take h⟩
/-- u is better than s -/
def Better (u s : Bs) : Prop := s.length < u.length ∨ u.length = s.length ∧ lss u s = true
instance (u s : Bs) : Decidable (Better u s) := inferInstanceAs (Decidable (_ ∨ _))
theorem better_irr (s : Bs) : ¬ Better s s := by
  rintro (h | ⟨_, h⟩)
  · omega
  · rw [lss_irr] at h; cases h
theorem better_tr {a b c : Bs} (h : Better a b) (k : Better b c) : Better a c := by
  rcases h with h | ⟨h, h'⟩
  · rcases k with k | ⟨k, _⟩
    · exact .inl (by omega)
    · exact .inl (by omega)
  · rcases k with k | ⟨k, k'⟩
    · exact .inl (by omega)
    · exact .inr ⟨by omega, lss_tr h' k'⟩
theorem better_tri (a b : Bs) : Better a b ∨ a = b ∨ Better b a := by
  rcases Nat.lt_trichotomy a.length b.length with h | h | h
  · exact .inr (.inr (.inl h))
  · rcases lss_tri a b with k | k | k
    · exact .inl (.inr ⟨h, k⟩)
    · exact .inr (.inl k)
    · exact .inr (.inr (.inr ⟨h.symm, k⟩))
  · exact .inl (.inl h)
/-- what i and j have in common -/
def cmn (l : Bs) (i j : Nat) : Bs := (l.drop i).take (lcp (l.drop i) (l.drop j))
theorem cmn_length (l : Bs) (i j : Nat) : (cmn l i j).length = lcp (l.drop i) (l.drop j) := by
  unfold cmn
  rw [List.length_take]
  exact Nat.min_eq_left (lcp_le _ _).1
theorem cmn_comm (l : Bs) (i j : Nat) : cmn l i j = cmn l j i := by
  unfold cmn
  rw [lcp_comm (l.drop j)]
  exact ((lcp_ge (l.drop i) (l.drop j) _).1 (Nat.le_refl _)).1
/-- s is the best of all that repeats -/
def IsLon (l : Bs) (s : Bs) : Prop := (s = [] ∨ ∃ i j, j < i ∧ i < l.length ∧ s = cmn l i j) ∧ ∀ i j, j < i → i < l.length → ¬ Better (cmn l i j) s
theorem isLon_unique {l a b : Bs} (h : IsLon l a) (k : IsLon l b) : a = b := by
  have nb : ∀ {x y : Bs}, IsLon l x → IsLon l y → ¬ Better x y := by
    intro x y hx hy hb
    rcases hx.1 with rfl | ⟨i, j, h1, h2, rfl⟩
    · rcases hb with hb | ⟨_, hb⟩
      · simp at hb
      · have : y = [] := List.eq_nil_of_length_eq_zero (by simp_all)
        subst this
        rw [lss_irr] at hb; cases hb
    · exact hy.2 i j h1 h2 hb
  rcases better_tri a b with e | e | e
  · exact absurd e (nb h k)
  · exact e
  · exact absurd e (nb k h)
/-- the reference's way -/
def upd (b s : Bs) : Bs := if Better s b then s else b
def lonJ (l : Bs) (i : Nat) : Nat → Bs → Bs
  | 0, b => b
  | j + 1, b => upd (lonJ l i j b) (cmn l i j)
def lonR (l : Bs) : Nat → Bs
  | 0 => []
  | i + 1 => lonJ l i i (lonR l i)
theorem upd_cases (b s : Bs) : (upd b s = s ∧ Better s b) ∨ (upd b s = b ∧ ¬ Better s b) := by
  unfold upd
  by_cases h : Better s b
  · rw [if_pos h]; exact .inl ⟨rfl, h⟩
  · rw [if_neg h]; exact .inr ⟨rfl, h⟩
theorem not_better_up {a b c : Bs} (h : ¬ Better a b) (k : Better c b) : ¬ Better a c := fun g => h (better_tr g k)
theorem lonJ_is {l : Bs} {i : Nat} (hi : i < l.length) (b : Bs) (hb : b = [] ∨ ∃ i' j, j < i' ∧ i' < l.length ∧ b = cmn l i' j) : ∀ j : Nat, j ≤ i → (lonJ l i j b = [] ∨ ∃ i' j', j' < i' ∧ i' < l.length ∧ lonJ l i j b = cmn l i' j') ∧ (∀ q, q < j → ¬ Better (cmn l i q) (lonJ l i j b)) ∧ ¬ Better b (lonJ l i j b)
  | 0, _ => ⟨hb, fun q hq => by omega, better_irr b⟩
  | j + 1, hj => by
    obtain ⟨h1, h2, h3⟩ := lonJ_is hi b hb j (by omega)
    show (upd _ _ = [] ∨ ∃ i' j', j' < i' ∧ i' < l.length ∧ upd _ _ = cmn l i' j') ∧ (∀ q, q < j + 1 → ¬ Better (cmn l i q) (upd _ _)) ∧ ¬ Better b (upd _ _)
    rcases upd_cases (lonJ l i j b) (cmn l i j) with ⟨e, k⟩ | ⟨e, k⟩
    · rw [e]
      refine ⟨.inr ⟨i, j, by omega, hi, rfl⟩, fun q hq => ?_, not_better_up h3 k⟩
      by_cases eq : q = j
      · subst eq; exact better_irr _
      · exact not_better_up (h2 q (by omega)) k
    · rw [e]
      refine ⟨h1, fun q hq => ?_, h3⟩
      by_cases eq : q = j
      · subst eq; exact k
      · exact h2 q (by omega)
theorem lonR_is {l : Bs} : ∀ n : Nat, n ≤ l.length → (lonR l n = [] ∨ ∃ i' j, j < i' ∧ i' < l.length ∧ lonR l n = cmn l i' j) ∧ ∀ i j, j < i → i < n → ¬ Better (cmn l i j) (lonR l n)
  | 0, _ => ⟨.inl rfl, fun i j _ h => by omega⟩
  | n + 1, h => by
    obtain ⟨h1, h2⟩ := lonR_is (l := l) n (by omega)
    obtain ⟨h3, h4, h5⟩ := lonJ_is (l := l) (i := n) (by omega) (lonR l n) h1 n (Nat.le_refl n)
    refine ⟨h3, fun i j hj hi => ?_⟩
    by_cases e : i = n
    · subst e; exact h4 j hj
    · have := h2 i j hj (by omega)
      intro g
      rcases better_tri (lonR l n) (lonJ l n n (lonR l n)) with k | k | k
      · exact h5 k
      · rw [k] at this; exact this g
      · exact this (better_tr g k)
theorem lonR_isLon (l : Bs) : IsLon l (lonR l l.length) := lonR_is _ (Nat.le_refl _)
/-- the program's way -/
def lonTo (l : Bs) : Nat → Bs
  | 0 => []
  | k + 1 => if (lonTo l k).length < comAt l k then (l.drop (saAt l k)).take (comAt l k) else lonTo l k
theorem comAt_cmn (l : Bs) (k : Nat) : (l.drop (saAt l k)).take (comAt l k) = cmn l (saAt l k) (saAt l (k + 1)) := rfl
theorem lonTo_is (l : Bs) : ∀ n : Nat, (lonTo l n = [] ∨ ∃ k, k < n ∧ lonTo l n = cmn l (saAt l k) (saAt l (k + 1)) ∧ 0 < comAt l k ∧ ∀ q, q < k → comAt l q < comAt l k) ∧ ∀ q, q < n → comAt l q ≤ (lonTo l n).length
  | 0 => ⟨.inl rfl, fun q h => by omega⟩
  | n + 1 => by
    obtain ⟨h1, h2⟩ := lonTo_is l n
    unfold lonTo
    by_cases h : (lonTo l n).length < comAt l n
    · rw [if_pos h, comAt_cmn]
      refine ⟨.inr ⟨n, by omega, rfl, by omega, fun q hq => by have := h2 q hq; omega⟩, fun q hq => ?_⟩
      rw [cmn_length]
      show _ ≤ comAt l n
      by_cases e : q = n
      · subst e; exact Nat.le_refl _
      · have := h2 q (by omega); omega
    · rw [if_neg h]
      refine ⟨?_, fun q hq => ?_⟩
      · rcases h1 with e | ⟨k, hk, e, g⟩
        · exact .inl e
        · exact .inr ⟨k, by omega, e, g⟩
      · by_cases e : q = n
        · subst e; omega
        · exact h2 q (by omega)
theorem saAt_inj {l : Bs} {i j : Nat} (hi : i ≤ l.length) (hj : j ≤ l.length) (h : saAt l i = saAt l j) : i = j := by
  rcases Nat.lt_trichotomy i j with g | g | g
  · have := saAt_lt g hj; rw [h] at this; exact absurd this (sl_irr _ _)
  · exact g
  · have := saAt_lt g hi; rw [h] at this; exact absurd this (sl_irr _ _)
theorem sa_place {l : Bs} {x : Nat} (hx : x ≤ l.length) : ∃ k, k ≤ l.length ∧ saAt l k = x := by
  obtain ⟨k, hk, e⟩ := List.getElem_of_mem (sa_mem.2 hx)
  rw [saAt_get] at e
  rw [sa_length] at hk
  exact ⟨k, by omega, e⟩
theorem lcp_com {l : Bs} {p q : Nat} (h : p < q) (hq : q ≤ l.length) : lcp (l.drop (saAt l p)) (l.drop (saAt l q)) ≤ comAt l p := by
  unfold comAt
  by_cases e : q = p + 1
  · subst e; exact Nat.le_refl _
  · exact lcp_far (saAt_lt (by omega) (by omega)) (saAt_lt (by omega) hq)
theorem lonTo_isLon (l : Bs) : IsLon l (lonTo l l.length) := by
  obtain ⟨h1, h2⟩ := lonTo_is l l.length
  constructor
  · rcases h1 with e | ⟨k, hk, e, h0, _⟩
    · exact .inl e
    · right
      have hne : saAt l k ≠ saAt l (k + 1) := fun e => by have := saAt_inj (by omega) (by omega) e; omega
      have a1 := saAt_le l k
      have a2 := saAt_le l (k + 1)
      have hlt : ∀ x y, 0 < lcp (l.drop x) (l.drop y) → x < l.length ∧ y < l.length := fun x y h => by
        have := lcp_le (l.drop x) (l.drop y)
        rw [List.length_drop, List.length_drop] at this
        omega
      have a3 := hlt _ _ h0
      rcases Nat.lt_or_ge (saAt l (k + 1)) (saAt l k) with g | g
      · exact ⟨_, _, g, a3.1, e⟩
      · exact ⟨saAt l (k + 1), saAt l k, by omega, a3.2, by rw [e, cmn_comm]⟩
  · intro i j hj hi
    obtain ⟨p, hp, ep⟩ := sa_place (l := l) (x := i) (by omega)
    obtain ⟨q, hq, eq⟩ := sa_place (l := l) (x := j) (by omega)
    have hpq : p ≠ q := fun e => by subst e; omega
    have key : ∀ p q, p < q → q ≤ l.length → ¬ Better (cmn l (saAt l p) (saAt l q)) (lonTo l l.length) := by
      intro p q hpq hq hb
      have hc := lcp_com hpq hq
      have hc2 := h2 p (by omega)
      have hlen := cmn_length l (saAt l p) (saAt l q)
      rcases hb with hb | ⟨hb, hb'⟩
      · omega
      · rcases h1 with e | ⟨k, hk, e, h0, hf⟩
        · rw [e, lss_nil] at hb'; cases hb'
        · have hk2 := cmn_length l (saAt l k) (saAt l (k + 1))
          have hk3 : lcp (l.drop (saAt l k)) (l.drop (saAt l (k + 1))) = comAt l k := rfl
          have hkp : k ≤ p := by
            rcases Nat.lt_or_ge p k with g | g
            · have := hf p g; rw [e] at hb; omega
            · exact g
          rw [e] at hb hb'
          have e1 : lcp (l.drop (saAt l p)) (l.drop (saAt l q)) = comAt l k := by omega
          unfold cmn at hb'
          rw [e1, hk3] at hb'
          have := lss_take hb'
          rcases Nat.lt_or_ge k p with g | g
          · exact sl_as (saAt_lt g (by omega)) this
          · have : k = p := by omega
            subst this
            rw [lss_irr] at this; cases this
    rcases Nat.lt_or_ge p q with g | g
    · have := key p q g hq
      rwa [ep, eq] at this
    · have := key q p (by omega) hp
      rw [ep, eq] at this
      rwa [cmn_comm]
theorem lon_eq (l : Bs) : lonTo l l.length = lonR l l.length := isLon_unique (lonTo_isLon l) (lonR_isLon l)
#print axioms lon_eq
end Go.Proofs.Ytbnlkmblkokooaa
