/- Places of the suffix array, the transform and its ranks: of no program. -/
import Derived.Test.YtbnlkmblkokooaaStr
namespace Go.Proofs.Ytbnlkmblkokooaa

/-- the byte before a suffix -/
def chB (l : Bs) (m : Nat) : UInt8 := if m = 0 then 10 else l.getD (m - 1) 0
/-- the byte of the transform at a place -/
def tc (l : Bs) (k : Nat) : UInt8 := chB l (saAt l k)
def tr (l : Bs) : Bs := (List.range (l.length + 1)).map (tc l)
theorem tr_length (l : Bs) : (tr l).length = l.length + 1 := by simp [tr]
theorem sa_map (l : Bs) : sa l = (List.range (l.length + 1)).map (saAt l) := by
  apply List.ext_getElem
  · simp [sa_length]
  · intro i h1 h2
    rw [saAt_get h1]; simp
theorem count_sa (l : Bs) (p : Nat → Bool) : (List.range (l.length + 1)).countP p = (List.range (l.length + 1)).countP (fun k => p (saAt l k)) := by
  have h := (sa_is l).1.countP_eq p
  rw [← h]
  conv => lhs; rw [sa_map]
  rw [List.countP_map]; rfl
/-- a test that holds of a beginning counts its length -/
theorem count_init {f : Nat → Bool} : ∀ {n : Nat}, (∀ i j, i < j → j < n → f j = true → f i = true) → ∀ k, k < n → (f k = true ↔ k < (List.range n).countP f)
  | 0, _, k, hk => by omega
  | n + 1, h, k, hk => by
    have ih := count_init (n := n) fun i j h1 h2 => h i j h1 (by omega)
    have hle : (List.range n).countP f ≤ n := by have := List.countP_le_length (p := f) (l := List.range n); simpa using this
    rw [List.range_succ, List.countP_append]
    by_cases hn : f n = true
    · have hall : (List.range n).countP f = n := by
        have : (List.range n).countP f = (List.range n).length := List.countP_eq_length.2 fun i hi => h i n (List.mem_range.1 hi) (by omega) hn
        simpa using this
      rw [hall]
      have : List.countP f [n] = 1 := by simp [hn]
      rw [this]
      refine ⟨fun _ => hk, fun _ => ?_⟩
      by_cases hkn : k = n
      · rw [hkn]; exact hn
      · exact h k n (by omega) (by omega) hn
    · have : List.countP f [n] = 0 := by simp [hn]
      rw [this, Nat.add_zero]
      by_cases hkn : k = n
      · subst hkn
        exact ⟨fun h => absurd h hn, fun h => by omega⟩
      · exact ih k (by omega)
/-- how many suffixes stand before a string, and before or under it -/
def lo (l q : Bs) : Nat := (List.range (l.length + 1)).countP fun m => lss (l.drop m) q
def hi (l q : Bs) : Nat := (List.range (l.length + 1)).countP fun m => lss (l.drop m) q || q.isPrefixOf (l.drop m)
theorem pre_between : ∀ {q x y : Bs}, lss q x = true → lss x y = true → q.isPrefixOf y = true → q.isPrefixOf x = true
  | [], _, _, _, _, _ => by simp
  | a :: q, [], y, h, _, _ => by rw [lss_nil] at h; cases h
  | a :: q, b :: x, [], _, h, _ => by rw [lss_nil] at h; cases h
  | a :: q, b :: x, c :: y, h, g, hp => by
    rw [lss_cons] at h g
    simp only [List.isPrefixOf_cons_cons, Bool.and_eq_true, beq_iff_eq, Bool.or_eq_true, decide_eq_true_eq] at h g hp ⊢
    obtain ⟨rfl, hp⟩ := hp
    rcases h with h | ⟨rfl, h⟩
    · rcases g with g | ⟨rfl, g⟩
      · exact absurd (u8_tr h g) (u8_irr _)
      · exact absurd h (u8_irr _)
    · rcases g with g | ⟨_, g⟩
      · exact absurd g (u8_irr _)
      · exact ⟨rfl, pre_between h g hp⟩
theorem lo_iff (l q : Bs) {k : Nat} (hk : k ≤ l.length) : lss (l.drop (saAt l k)) q = true ↔ k < lo l q := by
  unfold lo
  rw [count_sa]
  exact count_init (f := fun k => lss (l.drop (saAt l k)) q) (fun i j h1 h2 h3 => lss_tr (saAt_lt h1 (by omega)) h3) k (by omega)
theorem hi_iff (l q : Bs) {k : Nat} (hk : k ≤ l.length) : (lss (l.drop (saAt l k)) q || q.isPrefixOf (l.drop (saAt l k))) = true ↔ k < hi l q := by
  unfold hi
  rw [count_sa l fun m => lss (l.drop m) q || q.isPrefixOf (l.drop m)]
  refine count_init (f := fun k => lss (l.drop (saAt l k)) q || q.isPrefixOf (l.drop (saAt l k))) (fun i j h1 h2 h3 => ?_) k (by omega)
  have hs := saAt_lt (l := l) h1 (by omega)
  rw [Bool.or_eq_true] at h3 ⊢
  rcases h3 with h3 | h3
  · exact Or.inl (lss_tr hs h3)
  · rcases lss_tri (l.drop (saAt l i)) q with h | h | h
    · exact Or.inl h
    · refine Or.inr ?_; rw [h]; simp
    · exact Or.inr (pre_between h hs h3)
theorem pre_not_lss : ∀ {q y : Bs}, q.isPrefixOf y = true → lss y q = false
  | [], y, _ => lss_nil y
  | a :: q, [], h => by simp at h
  | a :: q, b :: y, h => by
    simp only [List.isPrefixOf_cons_cons, Bool.and_eq_true, beq_iff_eq] at h
    obtain ⟨rfl, h⟩ := h
    rw [lss_same]; exact pre_not_lss h
/-- the places whose suffixes begin with a string -/
theorem place_iff (l q : Bs) {k : Nat} (hk : k ≤ l.length) : q.isPrefixOf (l.drop (saAt l k)) = true ↔ lo l q ≤ k ∧ k < hi l q := by
  have h1 := lo_iff l q hk
  have h2 := hi_iff l q hk
  rw [← h2]
  constructor
  · intro h
    refine ⟨?_, by rw [h]; simp⟩
    have := pre_not_lss h
    rw [this] at h1
    simp at h1; exact h1
  · rintro ⟨h3, h4⟩
    rw [Bool.or_eq_true] at h4
    rcases h4 with h4 | h4
    · have := h1.1 h4; omega
    · exact h4
theorem count_le (l q : Bs) : lo l q ≤ hi l q := List.countP_mono_left fun m _ h => by simp only [Bool.or_eq_true]; exact Or.inl h
theorem hi_le (l q : Bs) : hi l q ≤ l.length + 1 := by
  have := List.countP_le_length (p := fun m => lss (l.drop m) q || q.isPrefixOf (l.drop m)) (l := List.range (l.length + 1))
  simpa [hi] using this
/-- where a string occurs -/
def occ' (l q : Bs) : List Nat := (List.range (l.length + 1)).filter fun m => q.isPrefixOf (l.drop m)
theorem count_or_disj {p r : Nat → Bool} : ∀ {m : List Nat}, (∀ x ∈ m, r x = true → p x = false) → m.countP (fun x => p x || r x) = m.countP p + m.countP r
  | [], _ => rfl
  | x :: m, h => by
    have ih := count_or_disj (m := m) fun y hy => h y (by simp [hy])
    have hx := h x (by simp)
    simp only [List.countP_cons, ih]
    cases hp : p x <;> cases hr : r x <;> simp_all <;> omega
theorem occ_length (l q : Bs) : (occ' l q).length + lo l q = hi l q := by
  unfold occ' hi lo
  rw [← List.countP_eq_length_filter, count_or_disj fun x _ h => pre_not_lss h]
  omega
/-- how many bytes of the transform are less than one -/
def bel (l : Bs) (c : UInt8) : Nat := (List.range (l.length + 1)).countP fun k => decide (tc l k < c)
def rk (l : Bs) (c : UInt8) (i : Nat) : Nat := (List.range i).countP fun k => tc l k == c
theorem count_step (l : Bs) (c : UInt8) (hc : 10 < c) (A B : Bs → Bool) (h0 : A [] = true) (h1 : ∀ x r, A (x :: r) = (decide (x < c) || (x == c && B r))) :
    (List.range (l.length + 1)).countP (fun m => A (l.drop m)) = (List.range (l.length + 1)).countP (fun m => decide (chB l m < c) || (chB l m == c && B (l.drop m))) := by
  rw [List.range_succ, List.countP_append]
  have e1 : List.countP (fun m => A (l.drop m)) [l.length] = 1 := by simp [h0]
  rw [e1, ← List.range_succ, List.range_succ_eq_map, List.countP_cons, List.countP_map]
  have e2 : (decide (chB l 0 < c) || (chB l 0 == c && B (l.drop 0))) = true := by
    have : chB l 0 = 10 := rfl
    rw [this]; simp [hc]
  rw [if_pos e2]
  congr 1
  refine List.countP_congr fun m hm => ?_
  have hm' := List.mem_range.1 hm
  rw [List.drop_eq_getElem_cons hm', h1]
  show _ ↔ (decide (chB l (m + 1) < c) || (chB l (m + 1) == c && B (l.drop (m + 1)))) = true
  have : chB l (m + 1) = l[m] := by simp [chB, List.getD, List.getElem?_eq_getElem hm']
  rw [this]
theorem count_split (l : Bs) (c : UInt8) (B : Bs → Bool) (i : Nat) (hi : i ≤ l.length + 1) (hB : ∀ k, k ≤ l.length → (B (l.drop (saAt l k)) = true ↔ k < i)) :
    (List.range (l.length + 1)).countP (fun m => decide (chB l m < c) || (chB l m == c && B (l.drop m))) = bel l c + rk l c i := by
  rw [count_sa l fun m => decide (chB l m < c) || (chB l m == c && B (l.drop m))]
  rw [count_or_disj (p := fun k => decide (chB l (saAt l k) < c)) (r := fun k => chB l (saAt l k) == c && B (l.drop (saAt l k))) fun x _ h => ?_]
  · unfold bel rk
    congr 1
    obtain ⟨r, hr⟩ : ∃ r, l.length + 1 = i + r := ⟨l.length + 1 - i, by omega⟩
    rw [hr, List.range_add, List.countP_append]
    have h0 : List.countP (fun k => chB l (saAt l k) == c && B (l.drop (saAt l k))) (List.map (fun x => i + x) (List.range r)) = 0 := by
      rw [List.countP_eq_zero]
      intro k hk
      obtain ⟨x, hx, rfl⟩ := List.mem_map.1 hk
      have hx' := List.mem_range.1 hx
      have := hB (i + x) (by omega)
      simp only [Bool.and_eq_true, not_and]
      intro _ h
      have := this.1 h
      omega
    rw [h0, Nat.add_zero]
    refine List.countP_congr fun k hk => ?_
    have hk' := List.mem_range.1 hk
    have := (hB k (by omega)).2 hk'
    rw [this]; simp [tc]
  · simp only [Bool.and_eq_true, beq_iff_eq] at h
    rw [h.1]
    simp
theorem lo_cons (l q : Bs) (c : UInt8) (hc : 10 < c) : lo l (c :: q) = bel l c + rk l c (lo l q) := by
  unfold lo
  rw [count_step l c hc (fun x => lss x (c :: q)) (fun x => lss x q) rfl (fun x r => lss_cons x c r q)]
  exact count_split l c (fun x => lss x q) (lo l q) (Nat.le_trans (count_le l q) (hi_le l q)) fun k hk => lo_iff l q hk
theorem hi_cons (l q : Bs) (c : UInt8) (hc : 10 < c) : hi l (c :: q) = bel l c + rk l c (hi l q) := by
  unfold hi
  rw [count_step l c hc (fun x => lss x (c :: q) || (c :: q).isPrefixOf x) (fun x => lss x q || q.isPrefixOf x) rfl (fun x r => ?_)]
  · exact count_split l c (fun x => lss x q || q.isPrefixOf x) (hi l q) (hi_le l q) fun k hk => hi_iff l q hk
  · simp only [lss_cons, List.isPrefixOf_cons_cons]
    by_cases e : x = c
    · subst e; simp
    · have e1 : (x == c) = false := by simpa using e
      have e2 : (c == x) = false := by simpa using fun h => e h.symm
      simp [e1, e2]
theorem lo_nil (l : Bs) : lo l [] = 0 := by
  unfold lo; rw [List.countP_eq_zero]; intro m _; simp [lss_nil]
theorem hi_nil (l : Bs) : hi l [] = l.length + 1 := by
  unfold hi
  have : (List.range (l.length + 1)).countP (fun m => lss (l.drop m) [] || ([] : Bs).isPrefixOf (l.drop m)) = (List.range (l.length + 1)).length := List.countP_eq_length.2 fun m _ => by simp
  rw [this, List.length_range]
/-- the place of a suffix -/
theorem lo_drop (l : Bs) {k : Nat} (hk : k ≤ l.length) : lo l (l.drop (saAt l k)) = k := by
  have h : ∀ j, j ≤ l.length → (j < lo l (l.drop (saAt l k)) ↔ j < k) := fun j hj => by
    rw [← lo_iff l _ hj]
    constructor
    · intro h
      rcases Nat.lt_trichotomy j k with h1 | h1 | h1
      · exact h1
      · subst h1; rw [lss_irr] at h; cases h
      · exact absurd (saAt_lt h1 hj) (sl_as h)
    · intro h; exact saAt_lt h hk
  have hle : lo l (l.drop (saAt l k)) ≤ l.length + 1 := Nat.le_trans (count_le _ _) (hi_le _ _)
  by_cases h1 : lo l (l.drop (saAt l k)) < k
  · have := (h (lo l (l.drop (saAt l k))) (by omega)).2 h1; omega
  · by_cases h2 : k < lo l (l.drop (saAt l k))
    · have := (h k hk).1 h2; omega
    · omega
theorem sa_surj (l : Bs) {m : Nat} (hm : m ≤ l.length) : ∃ k, k ≤ l.length ∧ saAt l k = m := by
  obtain ⟨k, hk, e⟩ := List.getElem_of_mem (sa_mem.2 hm)
  exact ⟨k, by rw [sa_length] at hk; omega, by rw [← saAt_get hk]; exact e⟩
theorem saAt_lo (l : Bs) {m : Nat} (hm : m ≤ l.length) : saAt l (lo l (l.drop m)) = m ∧ lo l (l.drop m) ≤ l.length := by
  obtain ⟨k, hk, rfl⟩ := sa_surj l hm
  rw [lo_drop l hk]; exact ⟨rfl, hk⟩
theorem saAt_zero (l : Bs) : saAt l 0 = l.length := by
  have := (saAt_lo l (Nat.le_refl l.length)).1
  rw [List.drop_length, lo_nil] at this; exact this
/-- a step back: the place of the suffix that is one byte longer -/
theorem back_step {l : Bs} (hl : ∀ c ∈ l, 10 < c) {k : Nat} (hk : k ≤ l.length) (h0 : saAt l k ≠ 0) :
    saAt l (bel l (tc l k) + rk l (tc l k) k) = saAt l k - 1 ∧ bel l (tc l k) + rk l (tc l k) k ≤ l.length := by
  have hle := saAt_le l k
  obtain ⟨m, hm⟩ : ∃ m, saAt l k = m + 1 := ⟨saAt l k - 1, by omega⟩
  have hml : m < l.length := by omega
  have hc : tc l k = l[m] := by simp [tc, chB, hm, List.getD, List.getElem?_eq_getElem hml]
  have h := lo_cons l (l.drop (saAt l k)) (tc l k) (by rw [hc]; exact hl _ (List.getElem_mem _))
  rw [lo_drop l hk, hc, hm, ← List.drop_eq_getElem_cons hml] at h
  rw [hc, ← h, hm, Nat.add_sub_cancel]
  exact saAt_lo l (by omega)
theorem tc_end {l : Bs} (hl : ∀ c ∈ l, 10 < c) {k : Nat} : tc l k = 10 ↔ saAt l k = 0 := by
  constructor
  · intro h
    by_cases h0 : saAt l k = 0
    · exact h0
    · have hle := saAt_le l k
      obtain ⟨m, hm⟩ : ∃ m, saAt l k = m + 1 := ⟨saAt l k - 1, by omega⟩
      have hml : m < l.length := by omega
      have hc : tc l k = l[m] := by simp [tc, chB, hm, List.getD, List.getElem?_eq_getElem hml]
      have := hl _ (List.getElem_mem hml)
      rw [hc] at h; rw [h] at this
      exact absurd this (u8_irr _)
  · intro h; simp [tc, chB, h]
/-- the transform has the bytes of the label and one byte 10 -/
theorem tr_perm (l : Bs) : (tr l).Perm (10 :: l) := by
  have h : tr l = (sa l).map (chB l) := by unfold tr; rw [sa_map, List.map_map]; rfl
  rw [h]
  refine ((sa_is l).1.map _).trans ?_
  rw [List.range_succ_eq_map, List.map_cons, List.map_map]
  have : (List.range l.length).map (chB l ∘ Nat.succ) = l := by
    apply List.ext_getElem
    · simp
    · intro i h1 h2
      simp [chB, List.getD, List.getElem?_eq_getElem h2]
  rw [this]
  exact List.Perm.refl _
#print axioms tr_perm
#print axioms hi_cons
#print axioms occ_length
#print axioms back_step
end Go.Proofs.Ytbnlkmblkokooaa
