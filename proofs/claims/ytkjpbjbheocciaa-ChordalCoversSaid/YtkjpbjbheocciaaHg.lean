/- A graph has an elimination order or a hole, not both; the first order, the shortest hole. Plain facts. -/
import Derived.Test.YtkjpbjbheocciaaHc
import Derived.Test.YtkjpbjbheocciaaDirac
namespace Go.Proofs.Ytkjpbjbheocciaa

theorem sym_eq {g : List Nat} (hg : Gr g) {a b : Nat} (ha : a < g.length) (hb : b < g.length) : (nb g a).testBit b = (nb g b).testBit a := by
  rw [Bool.eq_iff_iff]
  exact ⟨hg.sym a b ha hb, hg.sym b a hb ha⟩
/-- links in a hole -/
theorem hw_link {g : List Nat} (hg : Gr g) {k : Nat} {l : List Nat} (h : Hw g k l) {i j : Nat} (hi : i < l.length) (hj : j < l.length) (hij : i ≠ j) :
    (nb g (at' l i)).testBit (at' l j) = decide (i = j + 1 ∨ j = i + 1 ∨ i = j + (k - 1) ∨ j = i + (k - 1)) := by
  by_cases e : j < i
  · rw [((h.1 i hi).2 j e).2]
    apply decide_eq_decide.2
    omega
  · rw [sym_eq hg (h.1 i hi).1.1 (h.1 j hj).1.1, ((h.1 j hj).2 i (by omega)).2]
    apply decide_eq_decide.2
    omega
theorem not_simp {g : List Nat} (hg : Gr g) {k : Nat} {l : List Nat} (hk : l.length = k) (h4 : 4 ≤ k) (h : Hw g k l) {left : Nat} (hl : ∀ y ∈ l, left.testBit y = true) {i : Nat} (hi : i < k) : Simp g left (at' l i) = false := by
  have main : ∀ p q, p < k → q < k → i ≠ p → i ≠ q → p ≠ q → (i = p + 1 ∨ p = i + 1 ∨ i = p + (k - 1) ∨ p = i + (k - 1)) → (i = q + 1 ∨ q = i + 1 ∨ i = q + (k - 1) ∨ q = i + (k - 1)) → ¬ (p = q + 1 ∨ q = p + 1 ∨ p = q + (k - 1) ∨ q = p + (k - 1)) → Simp g left (at' l i) = false := by
    intro p q hp hq h1 h2 h3 h4 h5 h6
    refine Bool.eq_false_iff.2 fun hs => ?_
    simp only [Simp, Bool.and_eq_true, decide_eq_true_eq] at hs
    have hin := (h.1 i (by omega)).1.1
    have hlt : nb g (at' l i) &&& left < 2 ^ g.length := Nat.lt_of_le_of_lt Nat.and_le_left (hg.lt _ hin)
    have := (cliq_iff hlt).1 hs.2 (at' l p) (at' l q) (by rw [Nat.testBit_and, hw_link hg h (by omega) (by omega) h1, hl _ (mem_at.2 ⟨p, by omega, rfl⟩), decide_eq_true h4]; rfl)
      (by rw [Nat.testBit_and, hw_link hg h (by omega) (by omega) h2, hl _ (mem_at.2 ⟨q, by omega, rfl⟩), decide_eq_true h5]; rfl) (fun e => h3 (hw_distinct h (by omega) (by omega) e))
    rw [hw_link hg h (by omega) (by omega) h3, decide_eq_false h6] at this
    cases this
  by_cases e0 : i = 0
  · exact main 1 (k - 1) (by omega) (by omega) (by omega) (by omega) (by omega) (by omega) (by omega) (by omega)
  · by_cases e1 : i = k - 1
    · exact main 0 (k - 2) (by omega) (by omega) (by omega) (by omega) (by omega) (by omega) (by omega) (by omega)
    · exact main (i - 1) (i + 1) (by omega) (by omega) (by omega) (by omega) (by omega) (by omega) (by omega) (by omega)
theorem hole_keeps {g : List Nat} (hg : Gr g) {l : List Nat} (h4 : 4 ≤ l.length) (h : Hw g l.length l) : ∀ (o : List Int) (left : Nat), Elims g left o = true → (∀ y ∈ l, left.testBit y = true) → ∀ y ∈ l, (leftOf left o).testBit y = true
  | [], _, _, hl => hl
  | x :: o, left, he, hl => by
    simp only [Elims, Bool.and_eq_true, decide_eq_true_eq] at he
    refine hole_keeps hg h4 h o (ndiff left (2 ^ x.toNat)) he.2 fun y hy => ?_
    rw [testBit_ndiff, testBit_pow, hl y hy]
    have : ¬ x.toNat = y := fun e => by
      obtain ⟨i, hi, e2⟩ := mem_at.1 hy
      have := not_simp hg rfl h4 h hl hi
      rw [e2, ← e, he.1.2] at this
      cases this
    simp [this]
/-- a graph with a hole has no elimination order -/
theorem no_order {g : List Nat} (hg : Gr g) {l : List Nat} (h4 : 4 ≤ l.length) (h : Hw g l.length l) {o : List Int} (ho : IsOrder g o) : False := by
  have h0 := (isOrder_zero ho.2).1 ho.1
  have := hole_keeps hg h4 h o (2 ^ g.length - 1) ho.2 (fun y hy => by
    obtain ⟨i, hi, rfl⟩ := mem_at.1 hy
    rw [Nat.testBit_two_pow_sub_one]; exact decide_eq_true (h.1 i hi).1.1) (at' l 0) (mem_at.2 ⟨0, by omega, rfl⟩)
  rw [h0, Nat.zero_testBit] at this
  cases this
theorem elims_elim (g : List Nat) : ∀ k, Elims g (2 ^ g.length - 1) (castN (elim g k).1) = true ∧ leftOf (2 ^ g.length - 1) (castN (elim g k).1) = (elim g k).2
  | 0 => ⟨rfl, rfl⟩
  | k + 1 => by
    obtain ⟨h1, h2⟩ := elims_elim g k
    cases h : pick g (elim g k).2 with
    | none => rw [elim_none h]; exact ⟨h1, h2⟩
    | some x =>
      obtain ⟨hx, hs⟩ := pick_spec h
      rw [elim_some h]
      have e : castN ((elim g k).1 ++ [x]) = castN (elim g k).1 ++ [(x : Int)] := by simp [castN]
      dsimp only
      rw [e, elims_step, leftOf_step, h1, h2]
      refine ⟨?_, by simp⟩
      simp only [Int.toNat_natCast, hs, Bool.and_true, Bool.true_and]
      exact decide_eq_true ⟨by omega, by omega⟩
theorem order_isOrder {g : List Nat} (h : Chordal g) : IsOrder g (castN (order g)) := ⟨by rw [castN_length]; exact chordal_len h, (elims_elim g g.length).1⟩

/-! ### the first elimination order -/
theorem pick_least {g : List Nat} {left x : Nat} (h : pick g left = some x) {y : Nat} (hy : Simp g left y = true) : x ≤ y := by
  obtain ⟨m, hm, hl⟩ := Dirac.least (P := fun m => Simp g left m = true) ⟨y, hy⟩
  rcases Nat.lt_or_ge y x with h1 | h1
  · have hmy : m ≤ y := by
      rcases Nat.lt_or_ge y m with h2 | h2
      · exact absurd hy (hl y h2)
      · exact h2
    have := pick_some (g := g) (left := left) (x := m) (by have := (pick_spec h).1; omega) hm (fun z hz => Bool.eq_false_iff.2 (hl z hz))
    rw [h] at this
    injection this with this
    omega
  · exact h1
theorem elim_len_le (g : List Nat) : ∀ k, (elim g k).1.length ≤ k
  | 0 => Nat.le_refl _
  | k + 1 => by
    have := elim_len_le g k
    cases h : pick g (elim g k).2 with
    | none => rw [elim_none h]; omega
    | some x => rw [elim_some h]; simp; omega
theorem elim_pre (g : List Nat) (k : Nat) : ∀ d, ∃ r, (elim g (k + d)).1 = (elim g k).1 ++ r
  | 0 => ⟨[], by simp⟩
  | d + 1 => by
    obtain ⟨r, hr⟩ := elim_pre g k d
    rw [← Nat.add_assoc]
    cases h : pick g (elim g (k + d)).2 with
    | none => rw [elim_none h]; exact ⟨r, hr⟩
    | some x => rw [elim_some h]; exact ⟨r ++ [x], by simp [hr]⟩
theorem chordal_pick {g : List Nat} (h : Chordal g) {i : Nat} (hi : i < g.length) : ∃ x, pick g (elim g i).2 = some x := by
  cases hp : pick g (elim g i).2 with
  | some x => exact ⟨x, rfl⟩
  | none =>
    have e := elim_stop hp (g.length - i)
    rw [show i + (g.length - i) = g.length by omega] at e
    have h1 := chordal_len h
    unfold order at h1
    rw [e] at h1
    have := elim_len_le g i
    omega
theorem chordal_elim {g : List Nat} (h : Chordal g) : ∀ i, i ≤ g.length → (elim g i).1.length = i
  | 0, _ => rfl
  | i + 1, hi => by
    obtain ⟨x, hx⟩ := chordal_pick h (i := i) (by omega)
    rw [elim_some hx]
    have := chordal_elim h i (by omega)
    simp [this]
/-- at the first difference x has the less, and y is no beginning of x -/
def Le (x y : List Int) : Prop := ∀ i, i < x.length → (∀ j, j < i → gI x j = gI y j) → i < y.length ∧ gI x i ≤ gI y i
theorem take_eq_of {x y : List Int} : ∀ i, i ≤ x.length → i ≤ y.length → (∀ j, j < i → gI x j = gI y j) → x.take i = y.take i
  | 0, _, _, _ => rfl
  | i + 1, hx, hy, h => by
    rw [take_gI (by omega), take_gI (by omega), take_eq_of i (by omega) (by omega) (fun j hj => h j (by omega)), h i (by omega)]
theorem order_le {g : List Nat} (h : Chordal g) {o : List Int} (ho : IsOrder g o) : Le (castN (order g)) o := by
  intro i hi hp
  have hn := chordal_len h
  rw [castN_length, hn] at hi
  have hio : i < o.length := by rw [ho.1]; exact hi
  refine ⟨hio, ?_⟩
  obtain ⟨x, hx⟩ := chordal_pick h hi
  have hpre := elim_pre g (i + 1) (g.length - (i + 1))
  rw [show i + 1 + (g.length - (i + 1)) = g.length by omega, elim_some hx] at hpre
  obtain ⟨r, hr⟩ := hpre
  have hlen := chordal_elim h i (by omega)
  have hord : order g = (elim g i).1 ++ [x] ++ r := hr
  have htake : (castN (order g)).take i = castN (elim g i).1 := by
    rw [hord, List.append_assoc]
    simp only [castN, List.map_append]
    rw [List.take_append_of_le_length (by simp [hlen]), List.take_of_length_le (by simp [hlen])]
  have hgi : gI (castN (order g)) i = (x : Int) := by
    rw [hord]
    simp [gI, castN, hlen]
  have hteq := take_eq_of i (by rw [castN_length, hn]; omega) (by omega) hp
  have he := elims_take (i + 1) ho.2
  rw [take_gI hio, elims_step, ← hteq, htake, (elims_elim g i).2] at he
  simp only [Bool.and_eq_true, decide_eq_true_eq] at he
  have := pick_least hx he.2.2
  rw [hgi]
  omega

/-! ### rings -/
/-- k nodes in a ring, in any direction -/
def Rg (g : List Nat) (k : Nat) (c : Nat → Nat) : Prop := (∀ i, i < k → c i < g.length) ∧ ∀ i j, i < k → j < k → i ≠ j → c i ≠ c j ∧ ((nb g (c i)).testBit (c j) = true ↔ (i = j + 1 ∨ j = i + 1 ∨ i = j + (k - 1) ∨ j = i + (k - 1)))
theorem rg_rot {g : List Nat} {k : Nat} {c : Nat → Nat} (h : Rg g k c) {r : Nat} (hr : r < k) : Rg g k (fun i => c (if i + r < k then i + r else i + r - k)) := by
  refine ⟨fun i hi => h.1 _ (by split <;> omega), fun i j hi hj hij => ?_⟩
  have := h.2 (if i + r < k then i + r else i + r - k) (if j + r < k then j + r else j + r - k) (by split <;> omega) (by split <;> omega) (by split <;> split <;> omega)
  refine ⟨this.1, this.2.trans ?_⟩
  split <;> split <;> omega
theorem rg_flip {g : List Nat} {k : Nat} {c : Nat → Nat} (h : Rg g k c) : Rg g k (fun i => c (if i = 0 then 0 else k - i)) := by
  refine ⟨fun i hi => h.1 _ (by split <;> omega), fun i j hi hj hij => ?_⟩
  have := h.2 (if i = 0 then 0 else k - i) (if j = 0 then 0 else k - j) (by split <;> omega) (by split <;> omega) (by split <;> split <;> omega)
  refine ⟨this.1, this.2.trans ?_⟩
  split <;> split <;> omega
theorem least_at (c : Nat → Nat) : ∀ k, 1 ≤ k → ∃ r, r < k ∧ ∀ i, i < k → c r ≤ c i
  | 0, h => by omega
  | 1, _ => ⟨0, by omega, fun i hi => by rw [show i = 0 by omega]; exact Nat.le_refl _⟩
  | k + 2, _ => by
    obtain ⟨r, hr, hl⟩ := least_at c (k + 1) (by omega)
    by_cases e : c r ≤ c (k + 1)
    · refine ⟨r, by omega, fun i hi => ?_⟩
      by_cases e2 : i = k + 1
      · rw [e2]; exact e
      · exact hl i (by omega)
    · refine ⟨k + 1, by omega, fun i hi => ?_⟩
      by_cases e2 : i = k + 1
      · rw [e2]; exact Nat.le_refl _
      · have := hl i (by omega); omega
theorem hw_of {g : List Nat} {k : Nat} {c : Nat → Nat} (h4 : 4 ≤ k) (h : Rg g k c) (h0 : ∀ i, i < k → c 0 ≤ c i) (h1 : c 1 < c (k - 1)) : ∃ l, l.length = k ∧ Hw g k l := by
  have e : ∀ i, i < k → at' ((List.range k).map c) i = c i := fun i hi => by simp [at', hi]
  refine ⟨(List.range k).map c, by simp, fun i hi => ?_, fun _ => ?_⟩
  · simp only [List.length_map, List.length_range] at hi
    unfold RowH
    rw [e i hi, e 0 (by omega)]
    refine ⟨⟨h.1 i hi, h0 i hi⟩, fun j hj => ?_⟩
    rw [e j (by omega)]
    have := h.2 i j hi (by omega) (by omega)
    refine ⟨this.1, ?_⟩
    rw [Bool.eq_iff_iff, this.2, decide_eq_true_iff]
    omega
  · rw [e 1 (by omega), e (k - 1) (by omega)]; exact h1
theorem hw_ex {g : List Nat} {k : Nat} {c : Nat → Nat} (h4 : 4 ≤ k) (h : Rg g k c) : ∃ l, l.length = k ∧ Hw g k l := by
  obtain ⟨r, hr, hl⟩ := least_at c k (by omega)
  have h2 := rg_rot h hr
  obtain ⟨d, hd⟩ : ∃ d, d = fun i => c (if i + r < k then i + r else i + r - k) := ⟨_, rfl⟩
  have hd0 : ∀ i, i < k → d 0 ≤ d i := fun i hi => by
    rw [hd]; dsimp only
    rw [Nat.zero_add, if_pos hr]
    exact hl _ (by split <;> omega)
  rw [← hd] at h2
  by_cases e : d 1 < d (k - 1)
  · exact hw_of h4 h2 hd0 e
  · have hne := (h2.2 1 (k - 1) (by omega) (by omega) (by omega)).1
    refine hw_of h4 (rg_flip h2) (fun i hi => ?_) ?_
    · rw [if_pos rfl]; exact hd0 _ (by split <;> omega)
    · rw [if_neg (by omega), if_neg (by omega), show k - (k - 1) = 1 by omega]; omega

/-! ### holes that are searched -/
theorem ft_spec {α : Type} {f : Nat → Option α} {r : α} : ∀ {n}, ft f n = some r → ∃ x, x < n ∧ f x = some r ∧ ft f x = none
  | 0, h => by cases h
  | n + 1, h => by
    cases e : ft f n with
    | some r' =>
      rw [ft, e] at h
      injection h with h
      subst h
      obtain ⟨x, h1, h2, h3⟩ := ft_spec e
      exact ⟨x, by omega, h2, h3⟩
    | none => rw [ft_none e] at h; exact ⟨n, by omega, h, e⟩
theorem ft_ne {α : Type} {f : Nat → Option α} {n x : Nat} (hx : x < n) (h : f x ≠ none) : ft f n ≠ none := fun e => by
  have h1 := ft_le e (t := x + 1) (by omega)
  rw [ft_none (ft_le e (by omega))] at h1
  exact h h1
theorem hl_ne {g : List Nat} {k : Nat} (h4 : 4 ≤ k) {l : List Nat} (hk : l.length = k) (h : Hw g k l) : ∀ m j, j + m = k → hl g k m (l.take j) ≠ none
  | 0, j, _ => by rw [hl]; simp
  | m + 1, j, hj => by
    rw [hl]
    have hjl : j < l.length := by omega
    have e : l.take j ++ [at' l j] = l.take (j + 1) := by rw [List.take_succ_eq_append_getElem hjl, at_get hjl]
    refine ft_ne (x := at' l j) (h.1 j hjl).1.1 ?_
    rw [e, if_pos (hw_take (by omega) hk h4 h)]
    exact hl_ne h4 hk h m (j + 1) (by omega)
theorem hl_hw {g : List Nat} {k : Nat} : ∀ m l r, Hw g k l → hl g k m l = some r → Hw g k r
  | 0, l, r, hw, h => by rw [hl] at h; injection h with h; subst h; exact hw
  | m + 1, l, r, hw, h => by
    rw [hl] at h
    obtain ⟨x, hx, h1, _⟩ := ft_spec h
    by_cases e : Hw g k (l ++ [x])
    · rw [if_pos e] at h1; exact hl_hw m _ r e h1
    · rw [if_neg e] at h1; cases h1
theorem FO_ne {g : List Nat} {l : List Nat} (h4 : 4 ≤ l.length) (h : Hw g l.length l) : FO g l.length ≠ none := by
  rw [FO_ge h4]
  have h0 := (h.1 0 (by omega)).1.1
  refine ft_ne h0 ?_
  have := hl_ne h4 rfl h (l.length - 1) 1 (by omega)
  have e : l.take 1 = [at' l 0] := by
    cases l with
    | nil => simp at h4
    | cons a l => simp [at']
  rw [e] at this
  exact this
theorem hole_ex {g : List Nat} {l : List Nat} (h4 : 4 ≤ l.length) (h : Hw g l.length l) : ∃ r, hole g = some r := by
  have := ft_ne (n := g.length + 1) (by have := hw_len_le h; omega) (FO_ne h4 h)
  rw [← hole_FO] at this
  cases e : hole g with
  | none => exact absurd e this
  | some r => exact ⟨r, rfl⟩
theorem hole_is {g : List Nat} {r : List Nat} (h : hole g = some r) : (4 ≤ r.length ∧ Hw g r.length r) ∧ ∀ l : List Nat, 4 ≤ l.length → Hw g l.length l → r.length ≤ l.length := by
  rw [hole_FO] at h
  obtain ⟨k, hk, h1, h2⟩ := ft_spec h
  have h4 : 4 ≤ k := by
    refine Decidable.byContradiction fun hn => ?_
    unfold FO at h1
    rw [if_neg hn] at h1
    cases h1
  have h1' := h1
  rw [FO_ge h4] at h1
  obtain ⟨s, hs, h3, _⟩ := ft_spec h1
  have hlen : r.length = k := by
    have := hl_len _ _ _ h3
    simp at this; omega
  have hw : Hw g k r := hl_hw _ _ r (hw_one h4 hs) h3
  refine ⟨⟨by omega, by rw [hlen]; exact hw⟩, fun l hl4 hlw => ?_⟩
  rw [hlen]
  refine Decidable.byContradiction fun hn => ?_
  have h5 := FO_ne hl4 hlw
  have h6 := ft_le h2 (t := l.length + 1) (by omega)
  rw [ft_none (ft_le h2 (by omega))] at h6
  exact h5 h6

/-- a graph without an elimination order has a hole -/
theorem elim_stuck {g : List Nat} (h : ¬ Chordal g) : pick g (elim g g.length).2 = none := by
  have key : ∀ m, m ≤ g.length → (elim g m).1.length = m ∨ pick g (elim g m).2 = none := by
    intro m
    induction m with
    | zero => intro _; exact .inl rfl
    | succ m ih =>
      intro hm
      cases hp : pick g (elim g m).2 with
      | none => right; rw [elim_none hp]; exact hp
      | some x =>
        rcases ih (by omega) with h1 | h1
        · left; exact elim_len_some h1 hp
        · rw [hp] at h1; cases h1
  rcases key g.length (Nat.le_refl _) with h1 | h1
  · have := elim_cnt g g.length
    exact absurd ((cnt_zero_iff (elim_lt g _)).1 (by omega)) h
  · exact h1
theorem hole_of {g : List Nat} (hg : Gr g) (h : ¬ Chordal g) : ∃ r, hole g = some r := by
  have hp := pick_none' (elim_stuck h)
  have hlt := elim_lt g g.length
  obtain ⟨left, hleft⟩ : ∃ left, left = (elim g g.length).2 := ⟨_, rfl⟩
  rw [← hleft] at hp hlt
  have hne : left ≠ 0 := by rw [hleft]; exact h
  obtain ⟨x0, hx0⟩ := ex_bit hne
  obtain ⟨A, hA⟩ : ∃ A : Nat → Nat → Prop, A = fun a b => (a < g.length ∧ b < g.length) ∧ (nb g a).testBit b = true := ⟨_, rfl⟩
  have hA1 : ∀ a b, A a b → (a < g.length ∧ b < g.length) ∧ (nb g a).testBit b = true := fun a b h => by rw [hA] at h; exact h
  have hA2 : ∀ a b, a < g.length → b < g.length → (nb g a).testBit b = true → A a b := fun a b h1 h2 h3 => by rw [hA]; exact ⟨⟨h1, h2⟩, h3⟩
  have hs : ∀ a b, A a b → A b a := fun a b h => by
    obtain ⟨⟨h1, h2⟩, h3⟩ := hA1 a b h
    exact hA2 b a h2 h1 (hg.sym a b h1 h2 h3)
  have hring : ∃ k c, 4 ≤ k ∧ Dirac.Ring A (fun i => left.testBit i = true) k c := by
    refine Classical.byContradiction fun hn => ?_
    obtain ⟨z, hz, hsim⟩ := Dirac.sim_ex (n := g.length) hs (fun i => left.testBit i = true) (fun i hi => bit_lt hlt hi) (fun k c hk hr => hn ⟨k, c, hk, hr⟩) x0 hx0
    have hzn := bit_lt hlt hz
    have hf := hp z hzn
    have ht : Simp g left z = true := by
      have hlt2 : nb g z &&& left < 2 ^ g.length := Nat.lt_of_le_of_lt Nat.and_le_left (hg.lt _ hzn)
      simp only [Simp, Bool.and_eq_true, decide_eq_true_eq]
      refine ⟨hz, (cliq_iff hlt2).2 fun a b ha hb hab => ?_⟩
      rw [Nat.testBit_and, Bool.and_eq_true] at ha hb
      exact (hA1 a b (hsim a b ha.2 hb.2 (hA2 z a hzn (bit_lt hlt ha.2) ha.1) (hA2 z b hzn (bit_lt hlt hb.2) hb.1) hab)).2
    rw [hf] at ht
    cases ht
  obtain ⟨k, c, hk, h1, h2⟩ := hring
  have hc : ∀ i, i < k → c i < g.length := fun i hi => bit_lt hlt (h1 i hi)
  have hrg : Rg g k c := by
    refine ⟨hc, fun i j hi hj hij => ?_⟩
    by_cases e : j < i
    · obtain ⟨r1, r2⟩ := h2 i j e hi
      refine ⟨r1, ?_⟩
      constructor
      · intro h3; have := r2.1 (hA2 _ _ (hc i hi) (hc j hj) h3); omega
      · intro h3; exact (hA1 _ _ (r2.2 (by omega))).2
    · obtain ⟨r1, r2⟩ := h2 j i (by omega) hj
      refine ⟨fun e => r1 e.symm, ?_⟩
      constructor
      · intro h3; have := r2.1 (hs _ _ (hA2 _ _ (hc i hi) (hc j hj) h3)); omega
      · intro h3; exact (hA1 _ _ (hs _ _ (r2.2 (by omega)))).2
  obtain ⟨l, hl, hw⟩ := hw_ex hk hrg
  subst hl
  exact hole_ex hk hw
#print axioms hole_of
#print axioms order_le
end Go.Proofs.Ytkjpbjbheocciaa
