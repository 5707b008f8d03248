/- Holes: plain facts on ways that may become holes. -/
import Derived.Test.YtkjpbjbheocciaaCount
import Derived.Test.YtkjpbjbheocciaaGc
namespace Go.Proofs.Ytkjpbjbheocciaa

/-- the i-th node of a way -/
def at' (l : List Nat) (i : Nat) : Nat := l.getD i 0
theorem at_get {l : List Nat} {i : Nat} (h : i < l.length) : l[i] = at' l i := by simp [at', h]
theorem at_app {l r : List Nat} {i : Nat} (h : i < l.length) : at' (l ++ r) i = at' l i := by simp [at', List.getD, List.getElem?_append_left h]
theorem at_app2 {l : List Nat} {x : Nat} : at' (l ++ [x]) l.length = x := by simp [at', List.getD]
theorem at_take {l : List Nat} {i k : Nat} (h : i < k) : at' (l.take k) i = at' l i := by simp [at', List.getD, h]
theorem mem_at {l : List Nat} {x : Nat} : x ∈ l ↔ ∃ i, i < l.length ∧ at' l i = x := by
  constructor
  · intro h
    obtain ⟨i, hi, rfl⟩ := List.getElem_of_mem h
    exact ⟨i, hi, (at_get hi).symm⟩
  · rintro ⟨i, hi, rfl⟩
    rw [← at_get hi]; exact List.getElem_mem hi
/-- row i of a way of a hole with k nodes is right -/
def RowH (g : List Nat) (k : Nat) (l : List Nat) (i : Nat) : Prop :=
  (at' l i < g.length ∧ at' l 0 ≤ at' l i) ∧ ∀ j, j < i → at' l i ≠ at' l j ∧ (nb g (at' l i)).testBit (at' l j) = decide (i = j + 1 ∨ i = j + (k - 1))
instance (g : List Nat) (k : Nat) (l : List Nat) (i : Nat) : Decidable (RowH g k l i) := inferInstanceAs (Decidable (_ ∧ ∀ j, j < i → _))
/-- l is a hole with k nodes, or the beginning of one -/
def Hw (g : List Nat) (k : Nat) (l : List Nat) : Prop := (∀ i, i < l.length → RowH g k l i) ∧ (l.length = k → at' l 1 < at' l (k - 1))
instance (g : List Nat) (k : Nat) (l : List Nat) : Decidable (Hw g k l) := inferInstanceAs (Decidable ((∀ i, i < l.length → _) ∧ (_ → _)))
theorem rowH_app {g : List Nat} {k : Nat} {l r : List Nat} {i : Nat} (h : i < l.length) : RowH g k (l ++ r) i ↔ RowH g k l i := by
  unfold RowH
  rw [at_app h, at_app (l := l) (i := 0) (by omega)]
  constructor
  · rintro ⟨a, b⟩; exact ⟨a, fun j hj => by have := b j hj; rwa [at_app (by omega)] at this⟩
  · rintro ⟨a, b⟩; exact ⟨a, fun j hj => by have := b j hj; rwa [at_app (by omega)]⟩
theorem rowH_take {g : List Nat} {k : Nat} {l : List Nat} {i j : Nat} (h : i < j) (hj : j ≤ l.length) : RowH g k (l.take j) i ↔ RowH g k l i := by
  have := rowH_app (g := g) (k := k) (l := l.take j) (r := l.drop j) (i := i) (by simp; omega)
  rw [List.take_append_drop] at this
  exact this.symm
/-- what the next node must be -/
theorem hw_step {g : List Nat} {k : Nat} {l : List Nat} {x : Nat} (h4 : 4 ≤ k) (h1 : 1 ≤ l.length) (_ : l.length < k) (h : Hw g k l) :
    Hw g k (l ++ [x]) ↔ (x < g.length ∧ at' l 0 ≤ x) ∧ (∀ j, j < l.length → x ≠ at' l j ∧ (nb g x).testBit (at' l j) = decide (l.length = j + 1 ∨ l.length = j + (k - 1))) ∧ (l.length + 1 = k → at' l 1 < x) := by
  have e : (l ++ [x]).length = l.length + 1 := by simp
  have hx : at' (l ++ [x]) l.length = x := at_app2
  have h0 : at' (l ++ [x]) 0 = at' l 0 := at_app (by omega)
  constructor
  · rintro ⟨a, b⟩
    have hr := a l.length (by omega)
    unfold RowH at hr
    rw [hx, h0] at hr
    refine ⟨hr.1, fun j hj => ?_, fun hk2 => ?_⟩
    · have := hr.2 j hj
      rwa [at_app hj] at this
    · have := b (by omega)
      rw [at_app (by omega), show k - 1 = l.length by omega, hx] at this
      exact this
  · rintro ⟨a, b, c⟩
    refine ⟨fun i hi => ?_, fun hk2 => ?_⟩
    · by_cases hil : i < l.length
      · exact (rowH_app hil).2 (h.1 i hil)
      · obtain rfl : i = l.length := by omega
        unfold RowH
        rw [hx, h0]
        refine ⟨a, fun j hj => ?_⟩
        rw [at_app hj]
        exact b j hj
    · have := c (by omega)
      rw [at_app (by omega), show k - 1 = l.length by omega, hx]
      exact this
theorem hw_take {g : List Nat} {k : Nat} {l : List Nat} {j : Nat} (hj : j ≤ l.length) (hk : l.length = k) (h4 : 4 ≤ k) (h : Hw g k l) : Hw g k (l.take j) := by
  have e : (l.take j).length = j := by simp; omega
  refine ⟨fun i hi => ?_, fun hk2 => ?_⟩
  · rw [e] at hi
    exact (rowH_take hi hj).2 (h.1 i (by omega))
  · rw [e] at hk2
    rw [at_take (by omega), at_take (by omega)]
    exact h.2 hk
theorem hw_one {g : List Nat} {k s : Nat} (h4 : 4 ≤ k) (hs : s < g.length) : Hw g k [s] := by
  refine ⟨fun i hi => ?_, fun hk2 => by simp at hk2; omega⟩
  have : i = 0 := by simp at hi; omega
  subst this
  exact ⟨⟨hs, Nat.le_refl _⟩, fun j hj => by omega⟩

/-- the nodes of a way as a set -/
def setN (l : List Nat) : Nat := l.foldl (fun s x => s ||| 2 ^ x) 0
theorem setN_snoc (l : List Nat) (x : Nat) : setN (l ++ [x]) = setN l ||| 2 ^ x := by simp [setN]
theorem foldl_bit (l : List Nat) : ∀ (s b : Nat), (l.foldl (fun s x => s ||| 2 ^ x) s).testBit b = (s.testBit b || decide (b ∈ l)) := by
  induction l with
  | nil => intro s b; simp
  | cons x l ih =>
    intro s b
    rw [List.foldl_cons, ih, Nat.testBit_or, testBit_pow, Bool.or_assoc]
    congr 1
    by_cases e : x = b
    · simp [e]
    · have : ¬ b = x := fun h => e h.symm
      simp [e, this]
theorem setN_bit (l : List Nat) (b : Nat) : (setN l).testBit b = decide (b ∈ l) := by
  unfold setN; rw [foldl_bit]; simp
theorem setN_lt {l : List Nat} {n : Nat} (h : ∀ x ∈ l, x < n) : setN l < 2 ^ n := lt_pow_of_bits fun i hi => by
  rw [setN_bit] at hi; exact h i (of_decide_eq_true hi)

/-- node x may come next: as the program asks -/
def nearM (k : Nat) (l : List Nat) : Nat := if l.length = k - 1 then 2 ^ at' l (l.length - 1) ||| 2 ^ at' l 0 else 2 ^ at' l (l.length - 1)
def May (g : List Nat) (k : Nat) (l : List Nat) (x : Nat) : Prop := at' l 0 < x ∧ x ∉ l ∧ (l.length = k - 1 → at' l 1 ≤ x) ∧ nb g x &&& setN l = nearM k l
instance (g : List Nat) (k : Nat) (l : List Nat) (x : Nat) : Decidable (May g k l x) := inferInstanceAs (Decidable (_ ∧ _))
theorem nearM_bit (k : Nat) (l : List Nat) (b : Nat) : (nearM k l).testBit b = decide (b = at' l (l.length - 1) ∨ (l.length = k - 1 ∧ b = at' l 0)) := by
  unfold nearM
  by_cases e : l.length = k - 1
  · rw [if_pos e, Nat.testBit_or, testBit_pow, testBit_pow, ← Bool.decide_or]
    apply decide_eq_decide.2
    constructor
    · rintro (h | h)
      · exact .inl h.symm
      · exact .inr ⟨e, h.symm⟩
    · rintro (h | ⟨_, h⟩)
      · exact .inl h.symm
      · exact .inr h.symm
  · rw [if_neg e, testBit_pow]
    apply decide_eq_decide.2
    constructor
    · intro h; exact .inl h.symm
    · rintro (h | ⟨h, _⟩)
      · exact h.symm
      · exact absurd h e
theorem hw_distinct {g : List Nat} {k : Nat} {l : List Nat} (h : Hw g k l) {i j : Nat} (hi : i < l.length) (hj : j < l.length) (e : at' l i = at' l j) : i = j := by
  by_cases h1 : j < i
  · exact absurd e ((h.1 i hi).2 j h1).1
  · by_cases h2 : i < j
    · exact absurd e.symm ((h.1 j hj).2 i h2).1
    · omega
theorem may_iff {g : List Nat} {k : Nat} {l : List Nat} {x : Nat} (h4 : 4 ≤ k) (h1 : 1 ≤ l.length) (hk : l.length < k) (h : Hw g k l) (hx : x < g.length) :
    May g k l x ↔ Hw g k (l ++ [x]) := by
  rw [hw_step h4 h1 hk h]
  constructor
  · rintro ⟨m1, m2, m3, m4⟩
    have hne : ∀ j, j < l.length → x ≠ at' l j := fun j hj e => m2 (mem_at.2 ⟨j, hj, e.symm⟩)
    refine ⟨⟨hx, by omega⟩, fun j hj => ⟨hne j hj, ?_⟩, fun hk2 => ?_⟩
    · have hb := congrArg (fun s => Nat.testBit s (at' l j)) m4
      simp only [Nat.testBit_and, setN_bit, nearM_bit] at hb
      rw [decide_eq_true (mem_at.2 ⟨j, hj, rfl⟩), Bool.and_true] at hb
      rw [hb]
      apply decide_eq_decide.2
      constructor
      · rintro (e | ⟨e1, e2⟩)
        · have := hw_distinct h hj (by omega) e; omega
        · have := hw_distinct h hj (by omega) e2; omega
      · rintro (e | e)
        · left; rw [show j = l.length - 1 by omega]
        · right; exact ⟨by omega, by rw [show j = 0 by omega]⟩
    · have := m3 (by omega)
      have := hne 1 (by omega)
      omega
  · rintro ⟨⟨_, a2⟩, b, c⟩
    have hne : ∀ j, j < l.length → x ≠ at' l j := fun j hj => (b j hj).1
    refine ⟨by have := hne 0 (by omega); omega, fun hm => ?_, fun e => by have := c (by omega); omega, ?_⟩
    · obtain ⟨j, hj, e⟩ := mem_at.1 hm
      exact hne j hj e.symm
    · apply Nat.eq_of_testBit_eq
      intro y
      rw [Nat.testBit_and, setN_bit, nearM_bit]
      by_cases hm : y ∈ l
      · obtain ⟨j, hj, rfl⟩ := mem_at.1 hm
        rw [decide_eq_true hm, Bool.and_true, (b j hj).2]
        apply decide_eq_decide.2
        constructor
        · rintro (e | e)
          · left; rw [show j = l.length - 1 by omega]
          · right; exact ⟨by omega, by rw [show j = 0 by omega]⟩
        · rintro (e | ⟨e1, e2⟩)
          · have := hw_distinct h hj (by omega) e; omega
          · have := hw_distinct h hj (by omega) e2; omega
      · rw [decide_eq_false hm, Bool.and_false]
        symm
        apply decide_eq_false
        rintro (e | ⟨_, e⟩)
        · exact hm (mem_at.2 ⟨l.length - 1, by omega, e.symm⟩)
        · exact hm (mem_at.2 ⟨0, by omega, e.symm⟩)
/-- .. as the reference asks -/
def MayR (g : List Nat) (k : Nat) (l : List Nat) (x : Nat) : Prop := ((nb g x).testBit (at' l (l.length - 1)) = true ∧ at' l 0 < x) ∧ ∀ i, i < l.length - 1 → x ≠ at' l i ∧ ¬ ((nb g x).testBit (at' l i) = true ∧ (0 < i ∨ l.length < k - 1))
instance (g : List Nat) (k : Nat) (l : List Nat) (x : Nat) : Decidable (MayR g k l x) := inferInstanceAs (Decidable (_ ∧ ∀ i, i < l.length - 1 → _))
theorem mayR_of {g : List Nat} {k : Nat} {l : List Nat} {x : Nat} (h4 : 4 ≤ k) (h1 : 1 ≤ l.length) (hk : l.length < k) (h : Hw g k l) (hx : Hw g k (l ++ [x])) : MayR g k l x := by
  rw [hw_step h4 h1 hk h] at hx
  obtain ⟨⟨_, a2⟩, b, _⟩ := hx
  refine ⟨⟨?_, by have := (b 0 (by omega)).1; omega⟩, fun i hi => ⟨(b i (by omega)).1, ?_⟩⟩
  · rw [(b _ (by omega)).2]; exact decide_eq_true (.inl (by omega))
  · rintro ⟨e1, e2⟩
    rw [(b i (by omega)).2] at e1
    have := of_decide_eq_true e1
    omega
theorem of_mayR {g : List Nat} (hg : Gr g) {k : Nat} {l : List Nat} {x : Nat} (h4 : 4 ≤ k) (h1 : 1 ≤ l.length) (hk : l.length < k - 1) (h : Hw g k l) (hx : x < g.length) (hm : MayR g k l x) : Hw g k (l ++ [x]) := by
  rw [hw_step h4 h1 (by omega) h]
  obtain ⟨⟨m1, m2⟩, m3⟩ := hm
  refine ⟨⟨hx, by omega⟩, fun j hj => ?_, fun e => by omega⟩
  by_cases hj2 : j < l.length - 1
  · have := m3 j hj2
    refine ⟨this.1, ?_⟩
    rw [decide_eq_false (by omega)]
    cases hb : (nb g x).testBit (at' l j)
    · rfl
    · exact absurd ⟨hb, .inr hk⟩ this.2
  · obtain rfl : j = l.length - 1 := by omega
    refine ⟨fun e => ?_, by rw [m1]; exact (decide_eq_true (.inl (by omega))).symm⟩
    have := hg.irr x hx
    rw [← e] at m1
    rw [m1] at this; cases this

/-- the first result below n -/
def ft {α : Type} (f : Nat → Option α) : Nat → Option α
  | 0 => none
  | x + 1 => match ft f x with
    | some l => some l
    | none => f x
theorem ft_none {α : Type} {f : Nat → Option α} {x : Nat} (h : ft f x = none) : ft f (x + 1) = f x := by rw [ft, h]
theorem ft_some {α : Type} {f : Nat → Option α} {x : Nat} {l : α} (h : ft f x = some l) : ∀ d, ft f (x + d) = some l
  | 0 => h
  | d + 1 => by rw [← Nat.add_assoc, ft, ft_some h d]
theorem ft_congr {α : Type} {f g : Nat → Option α} : ∀ n, (∀ x, x < n → f x = g x) → ft f n = ft g n
  | 0, _ => rfl
  | n + 1, h => by rw [ft, ft, ft_congr n (fun x hx => h x (by omega)), h n (by omega)]
/-- the first hole with k nodes that begins with l, to which m nodes are wanted -/
def hl (g : List Nat) (k : Nat) : Nat → List Nat → Option (List Nat)
  | 0, l => some l
  | m + 1, l => ft (fun x => if Hw g k (l ++ [x]) then hl g k m (l ++ [x]) else none) g.length
def hr (g : List Nat) (k : Nat) : Nat → List Nat → Option (List Nat)
  | 0, l => if Hw g k l then some l else none
  | m + 1, l => ft (fun x => if MayR g k l x then hr g k m (l ++ [x]) else none) g.length
theorem hr_eq {g : List Nat} (hg : Gr g) {k : Nat} (h4 : 4 ≤ k) : ∀ m l, l.length + m = k → 1 ≤ l.length → Hw g k l → hr g k m l = hl g k m l
  | 0, l, _, _, h => by rw [hr, hl, if_pos h]
  | m + 1, l, hk, h1, h => by
    rw [hr, hl]
    refine ft_congr _ fun x hx => ?_
    by_cases hw : Hw g k (l ++ [x])
    · rw [if_pos hw, if_pos (mayR_of h4 h1 (by omega) h hw)]
      exact hr_eq hg h4 m _ (by simp; omega) (by simp) hw
    · rw [if_neg hw]
      by_cases hm : MayR g k l x
      · rw [if_pos hm]
        by_cases e : l.length < k - 1
        · exact absurd (of_mayR hg h4 h1 e h hx hm) hw
        · obtain rfl : m = 0 := by omega
          rw [hr, if_neg hw]
      · rw [if_neg hm]
/-- what is found has the wanted nodes -/
theorem hl_len {g : List Nat} {k : Nat} : ∀ m l r, hl g k m l = some r → r.length = l.length + m
  | 0, l, r, h => by rw [hl] at h; injection h with h; subst h; rfl
  | m + 1, l, r, h => by
    rw [hl] at h
    have key : ∀ n, ft (fun x => if Hw g k (l ++ [x]) then hl g k m (l ++ [x]) else none) n = some r → r.length = l.length + (m + 1) := by
      intro n
      induction n with
      | zero => intro h; cases h
      | succ n ih =>
        intro h
        cases e : ft (fun x => if Hw g k (l ++ [x]) then hl g k m (l ++ [x]) else none) n with
        | some r' => rw [ft, e] at h; injection h with h; subst h; exact ih e
        | none =>
          rw [ft_none e] at h
          by_cases hw : Hw g k (l ++ [n])
          · rw [if_pos hw] at h
            have := hl_len m _ _ h
            simp at this; omega
          · rw [if_neg hw] at h; cases h
    exact key _ h
/-- the first hole with k nodes; the first hole -/
def hk' (g : List Nat) (k : Nat) : Option (List Nat) := ft (fun s => hl g k (k - 1) [s]) g.length
def hole (g : List Nat) : Option (List Nat) := ft (fun k => if 4 ≤ k then hk' g k else none) (g.length + 1)
#print axioms hr_eq
end Go.Proofs.Ytkjpbjbheocciaa
