/- How many elements a set has; the picks of an elimination. Plain facts. -/
import Derived.Test.YtkjpbjbheocciaaSets
namespace Go.Proofs.Ytkjpbjbheocciaa

def cnt (m s : Nat) : Nat := ((List.range m).filter fun i => s.testBit i).length
theorem pop_cnt (s : Nat) : pop s = cnt 64 s := rfl
theorem cnt_zero (s : Nat) : cnt 0 s = 0 := rfl
theorem cnt_succ (m s : Nat) : cnt (m + 1) s = cnt m s + if s.testBit m then 1 else 0 := by
  unfold cnt
  rw [List.range_succ, List.filter_append, List.length_append]
  congr 1
  cases h : s.testBit m <;> simp [h]
theorem cnt_congr {m s t : Nat} (h : ∀ i, i < m → s.testBit i = t.testBit i) : cnt m s = cnt m t := by
  induction m with
  | zero => rfl
  | succ m ih => rw [cnt_succ, cnt_succ, ih (fun i hi => h i (by omega)), h m (by omega)]
theorem cnt_le (m s : Nat) : cnt m s ≤ m := by
  induction m with
  | zero => exact Nat.le_refl _
  | succ m ih => rw [cnt_succ]; split <;> omega
theorem cnt_erase {m s x : Nat} (hx : x < m) (hb : s.testBit x = true) : cnt m (ndiff s (2 ^ x)) + 1 = cnt m s := by
  induction m with
  | zero => omega
  | succ m ih =>
    rw [cnt_succ, cnt_succ, testBit_ndiff, testBit_pow]
    by_cases e : x = m
    · subst e
      rw [cnt_congr (s := ndiff s (2 ^ x)) (t := s) (fun i hi => by rw [testBit_ndiff, testBit_pow, decide_eq_false (by omega)]; simp), hb]
      simp
    · rw [decide_eq_false e]
      have := ih (by omega)
      simp only [Bool.not_false, Bool.and_true]
      omega
theorem cnt_insert {m s x : Nat} (hx : x < m) (hb : s.testBit x = false) : cnt m (s ||| 2 ^ x) = cnt m s + 1 := by
  have h1 : (s ||| 2 ^ x).testBit x = true := by rw [Nat.testBit_or, testBit_pow]; simp
  rw [← cnt_erase hx h1]
  congr 1
  apply cnt_congr
  intro i _
  rw [testBit_ndiff, Nat.testBit_or, testBit_pow]
  by_cases e : x = i
  · subst e; simp [hb]
  · simp [e]
theorem cnt_pos {m s x : Nat} (hx : x < m) (hb : s.testBit x = true) : 0 < cnt m s := by
  have := cnt_erase hx hb; omega
theorem cnt_mono {m s t : Nat} (h : ∀ i, i < m → s.testBit i = true → t.testBit i = true) : cnt m s ≤ cnt m t := by
  induction m with
  | zero => exact Nat.le_refl _
  | succ m ih =>
    rw [cnt_succ, cnt_succ]
    have := ih (fun i hi => h i (by omega))
    have h2 := h m (by omega)
    cases hs : s.testBit m
    · simp; omega
    · rw [h2 hs]; simp; omega
theorem cnt_union {m s t : Nat} : cnt m (s ||| t) + cnt m (s &&& t) = cnt m s + cnt m t := by
  induction m with
  | zero => rfl
  | succ m ih =>
    rw [cnt_succ, cnt_succ, cnt_succ, cnt_succ, Nat.testBit_or, Nat.testBit_and]
    cases s.testBit m <;> cases t.testBit m <;> simp <;> omega
theorem cnt_full (n : Nat) : cnt n (2 ^ n - 1) = n := by
  have key : ∀ m, m ≤ n → cnt m (2 ^ n - 1) = m := by
    intro m
    induction m with
    | zero => intro _; rfl
    | succ m ih =>
      intro h
      rw [cnt_succ, ih (by omega), Nat.testBit_two_pow_sub_one, decide_eq_true (by omega)]; simp
  exact key n (Nat.le_refl _)
theorem cnt_up {n m s : Nat} (h : s < 2 ^ n) (hm : n ≤ m) : cnt m s = cnt n s := by
  induction m with
  | zero => have : n = 0 := by omega
            subst this; rfl
  | succ m ih =>
    by_cases e : n = m + 1
    · rw [e]
    · rw [cnt_succ, ih (by omega)]
      have : s.testBit m = false := by
        cases hb : s.testBit m
        · rfl
        · have := bit_lt h hb; omega
      simp [this]
theorem pop_eq {n s : Nat} (h : s < 2 ^ n) (hn : n ≤ 64) : pop s = cnt n s := by rw [pop_cnt, cnt_up h hn]
theorem cnt_zero_iff {n s : Nat} (h : s < 2 ^ n) : cnt n s = 0 ↔ s = 0 := by
  constructor
  · intro h0
    refine Classical.byContradiction fun hne => ?_
    obtain ⟨i, hi⟩ := ex_bit hne
    have := cnt_pos (bit_lt h hi) hi
    omega
  · rintro rfl
    rw [cnt_congr (t := 0) (fun _ _ => rfl)]
    induction n with
    | zero => rfl
    | succ n ih => rw [cnt_succ, ih (Nat.two_pow_pos _)]; simp
theorem ndiff_lt {s x n : Nat} (h : s < 2 ^ n) : ndiff s x < 2 ^ n := Nat.lt_of_le_of_lt (ndiff_le s x) h
theorem ndiff_bit_lt {s x : Nat} (hb : s.testBit x = true) : ndiff s (2 ^ x) < s := by
  have h1 := ndiff_le s (2 ^ x)
  refine Nat.lt_of_le_of_ne h1 fun e => ?_
  have := testBit_ndiff s (2 ^ x) x
  rw [e, hb, testBit_pow] at this
  simp at this

/-! ### the picks of an elimination -/
/-- node x can be eliminated from what is left -/
def Simp (g : List Nat) (left x : Nat) : Bool := left.testBit x && decide (Cliq g (nb g x &&& left))
/-- the least node that can be eliminated -/
def pick (g : List Nat) (left : Nat) : Option Nat := (List.range g.length).find? fun x => Simp g left x
theorem pick_none {g : List Nat} {left : Nat} (h : ∀ x, x < g.length → Simp g left x = false) : pick g left = none := by
  unfold pick
  rw [List.find?_eq_none]
  intro x hx
  rw [h x (List.mem_range.1 hx)]; simp
theorem find_first {p : Nat → Bool} : ∀ {n x : Nat}, x < n → p x = true → (∀ y, y < x → p y = false) → (List.range n).find? p = some x := by
  intro n
  induction n with
  | zero => intro x h; omega
  | succ n ih =>
    intro x hx hp hl
    rw [List.range_succ, List.find?_append]
    by_cases e : x = n
    · subst e
      have : (List.range x).find? p = none := by
        rw [List.find?_eq_none]; intro y hy; rw [hl y (List.mem_range.1 hy)]; simp
      rw [this]; simp [hp]
    · rw [ih (by omega) hp hl]; rfl
theorem pick_some {g : List Nat} {left x : Nat} (hx : x < g.length) (h : Simp g left x = true) (hl : ∀ y, y < x → Simp g left y = false) : pick g left = some x :=
  find_first hx h hl
theorem pick_spec {g : List Nat} {left x : Nat} (h : pick g left = some x) : x < g.length ∧ Simp g left x = true :=
  ⟨List.mem_range.1 (List.mem_of_find?_eq_some h), by simpa using List.find?_some h⟩
theorem pick_none' {g : List Nat} {left : Nat} (h : pick g left = none) : ∀ x, x < g.length → Simp g left x = false := fun x hx => by
  have := List.find?_eq_none.1 h x (List.mem_range.2 hx)
  simpa using this
/-- what k rounds give: the nodes that were taken, and what is left -/
def elim (g : List Nat) : Nat → List Nat × Nat
  | 0 => ([], 2 ^ g.length - 1)
  | k + 1 => match pick g (elim g k).2 with
    | none => elim g k
    | some x => ((elim g k).1 ++ [x], ndiff (elim g k).2 (2 ^ x))
theorem elim_some {g : List Nat} {k x : Nat} (h : pick g (elim g k).2 = some x) : elim g (k + 1) = ((elim g k).1 ++ [x], ndiff (elim g k).2 (2 ^ x)) := by
  rw [elim, h]
theorem elim_none {g : List Nat} {k : Nat} (h : pick g (elim g k).2 = none) : elim g (k + 1) = elim g k := by
  rw [elim, h]
theorem elim_lt (g : List Nat) : ∀ k, (elim g k).2 < 2 ^ g.length
  | 0 => by have := Nat.two_pow_pos g.length; show 2 ^ g.length - 1 < _; omega
  | k + 1 => by
    cases h : pick g (elim g k).2 with
    | none => rw [elim_none h]; exact elim_lt g k
    | some x => rw [elim_some h]; exact ndiff_lt (elim_lt g k)
theorem elim_stop {g : List Nat} {k : Nat} (h : pick g (elim g k).2 = none) : ∀ d, elim g (k + d) = elim g k
  | 0 => rfl
  | d + 1 => by
    have := elim_stop h d
    rw [← Nat.add_assoc, elim_none (by rw [this]; exact h), this]
theorem elim_cnt (g : List Nat) : ∀ k, (elim g k).1.length + cnt g.length (elim g k).2 = g.length
  | 0 => by show 0 + cnt g.length (2 ^ g.length - 1) = _; rw [cnt_full]; omega
  | k + 1 => by
    have ih := elim_cnt g k
    cases h : pick g (elim g k).2 with
    | none => rw [elim_none h]; exact ih
    | some x =>
      obtain ⟨hx, hs⟩ := pick_spec h
      rw [elim_some h]
      simp only [Simp, Bool.and_eq_true] at hs
      have := cnt_erase hx hs.1
      simp only [List.length_append, List.length_cons, List.length_nil]
      omega
theorem elim_mem (g : List Nat) : ∀ k x, x ∈ (elim g k).1 → x < g.length
  | 0, x, h => by simp [elim] at h
  | k + 1, x, h => by
    cases hp : pick g (elim g k).2 with
    | none => rw [elim_none hp] at h; exact elim_mem g k x h
    | some y =>
      rw [elim_some hp] at h
      simp only [List.mem_append, List.mem_singleton] at h
      rcases h with h | rfl
      · exact elim_mem g k x h
      · exact (pick_spec hp).1
/-- the elimination order, and whether there is one -/
def order (g : List Nat) : List Nat := (elim g g.length).1
def Chordal (g : List Nat) : Prop := (elim g g.length).2 = 0
instance (g : List Nat) : Decidable (Chordal g) := inferInstanceAs (Decidable (_ = _))
theorem pick_zero (g : List Nat) : pick g 0 = none := pick_none fun x _ => by simp [Simp]
/-- where a round ends with nothing left, or with no pick, the rest changes nothing -/
theorem elim_end {g : List Nat} {k : Nat} (hk : (elim g k).1.length = k) (h : pick g (elim g k).2 = none) : elim g g.length = elim g k := by
  have := elim_cnt g k
  have e := elim_stop h (g.length - k)
  rwa [show k + (g.length - k) = g.length by omega] at e
theorem elim_len_some {g : List Nat} {k x : Nat} (hk : (elim g k).1.length = k) (h : pick g (elim g k).2 = some x) : (elim g (k + 1)).1.length = k + 1 := by
  rw [elim_some h]; simp [hk]
theorem elim_le {g : List Nat} {k : Nat} (hk : (elim g k).1.length = k) : k ≤ g.length := by
  have := elim_cnt g k; omega
theorem chordal_len {g : List Nat} (h : Chordal g) : (order g).length = g.length := by
  have := elim_cnt g g.length
  unfold order
  have h0 : cnt g.length (elim g g.length).2 = 0 := (cnt_zero_iff (elim_lt g _)).2 h
  omega

/-! ### elimination orders that are given -/
/-- from what is left, each node of l can be taken in its turn -/
def Elims (g : List Nat) : Nat → List Int → Bool
  | _, [] => true
  | left, x :: l => decide (0 ≤ x ∧ x < g.length) && Simp g left x.toNat && Elims g (ndiff left (2 ^ x.toNat)) l
/-- what is left behind l -/
def leftOf (left : Nat) (l : List Int) : Nat := l.foldl (fun s x => ndiff s (2 ^ x.toNat)) left
theorem elims_cnt {g : List Nat} : ∀ {left : Nat} {l : List Int}, Elims g left l = true → cnt g.length (leftOf left l) + l.length = cnt g.length left
  | left, [], _ => rfl
  | left, x :: l, h => by
    simp only [Elims, Simp, Bool.and_eq_true, decide_eq_true_eq] at h
    have := elims_cnt h.2
    have e := cnt_erase (m := g.length) (s := left) (x := x.toNat) (by omega) h.1.2.1
    simp only [List.length_cons]
    show cnt g.length (leftOf (ndiff left (2 ^ x.toNat)) l) + _ = _
    omega
theorem elims_take {g : List Nat} : ∀ {left : Nat} {l : List Int} (k : Nat), Elims g left l = true → Elims g left (l.take k) = true
  | _, [], _, _ => by simp [Elims]
  | _, _ :: _, 0, _ => rfl
  | left, x :: l, k + 1, h => by
    rw [List.take_succ_cons]
    simp only [Elims, Bool.and_eq_true] at h ⊢
    exact ⟨h.1, elims_take k h.2⟩
theorem elims_step {g : List Nat} {x : Int} : ∀ {left : Nat} {l : List Int}, Elims g left (l ++ [x]) = (Elims g left l && (decide (0 ≤ x ∧ x < g.length) && Simp g (leftOf left l) x.toNat))
  | left, [] => by simp [Elims, leftOf]
  | left, y :: l => by
    have := elims_step (g := g) (x := x) (left := ndiff left (2 ^ y.toNat)) (l := l)
    simp only [List.cons_append, Elims]
    rw [this, Bool.and_assoc, Bool.and_assoc, Bool.and_assoc]
    rfl
theorem leftOf_step (left : Nat) (l : List Int) (x : Int) : leftOf left (l ++ [x]) = ndiff (leftOf left l) (2 ^ x.toNat) := by simp [leftOf]
theorem leftOf_lt {n : Nat} : ∀ {left : Nat} {l : List Int}, left < 2 ^ n → leftOf left l < 2 ^ n
  | _, [], h => h
  | left, x :: l, h => leftOf_lt (left := ndiff left (2 ^ x.toNat)) (l := l) (ndiff_lt h)
/-- l is an elimination order -/
def IsOrder (g : List Nat) (l : List Int) : Prop := l.length = g.length ∧ Elims g (2 ^ g.length - 1) l = true
instance (g : List Nat) (l : List Int) : Decidable (IsOrder g l) := inferInstanceAs (Decidable (_ ∧ _))
theorem isOrder_zero {g : List Nat} {l : List Int} (h : Elims g (2 ^ g.length - 1) l = true) : l.length = g.length ↔ leftOf (2 ^ g.length - 1) l = 0 := by
  have := elims_cnt h
  rw [cnt_full] at this
  have hl : leftOf (2 ^ g.length - 1) l < 2 ^ g.length := leftOf_lt (by have := Nat.two_pow_pos g.length; omega)
  rw [← cnt_zero_iff hl]
  omega
theorem elims_len {g : List Nat} {l : List Int} (h : Elims g (2 ^ g.length - 1) l = true) : l.length ≤ g.length := by
  have := elims_cnt h
  rw [cnt_full] at this
  omega
/-- taking x away before its neighbours are looked at changes nothing -/
theorem nb_without {g : List Nat} (hg : Gr g) {left x : Nat} (hx : x < g.length) : nb g x &&& ndiff left (2 ^ x) = nb g x &&& left := by
  apply Nat.eq_of_testBit_eq
  intro i
  rw [Nat.testBit_and, Nat.testBit_and, testBit_ndiff, testBit_pow]
  by_cases e : x = i
  · subst e; simp [hg.irr x hx]
  · simp [e]
#print axioms isOrder_zero
end Go.Proofs.Ytkjpbjbheocciaa
