/- Colourings: a chordal graph has one with as many colours as its greatest clique has nodes; a new colour that fails lets the others fail. Plain facts. -/
import Derived.Test.YtkjpbjbheocciaaCd
import Derived.Test.YtkjpbjbheocciaaHg
namespace Go.Proofs.Ytkjpbjbheocciaa

theorem bestTo_max {p : Nat → Bool} : ∀ {k s : Nat}, s < k → p s = true → pop s ≤ pop (bestTo p k)
  | 0, s, h, _ => by omega
  | k + 1, s, h, hp => by
    by_cases hc : pop (bestTo p k) < pop k ∧ p k = true
    · rw [best_hit hc.1 hc.2]
      by_cases e : s = k
      · rw [e]; exact Nat.le_refl _
      · have := bestTo_max (p := p) (k := k) (s := s) (by omega) hp; omega
    · rw [best_miss hc]
      by_cases e : s = k
      · subst e
        rcases Nat.lt_or_ge (pop (bestTo p s)) (pop s) with h1 | h1
        · exact absurd ⟨h1, hp⟩ hc
        · exact h1
      · exact bestTo_max (by omega) hp
theorem om_max {g : List Nat} (hg : Gr g) {s : Nat} (hs : s < 2 ^ g.length) (h : Cliq g s) : cnt g.length s ≤ om g := by
  have h1 := bestTo_max (p := isC g) hs (decide_eq_true h)
  have := hg.le
  rwa [pop_eq hs (by omega)] at h1
theorem pigeon : ∀ (k : Nat) (L : List Nat), L.length < k → ∃ y, y < k ∧ y ∉ L
  | 0, L, h => by omega
  | k + 1, L, h => by
    by_cases hk : k ∈ L
    · have hlen := List.length_erase_of_mem hk
      have hpos := List.length_pos_of_mem hk
      obtain ⟨y, hy, hn⟩ := pigeon k (L.erase k) (by omega)
      exact ⟨y, by omega, fun hm => hn ((List.mem_erase_of_ne (by omega)).2 hm)⟩
    · exact ⟨k, by omega, hk⟩
/-- a colouring of the nodes of a set -/
def Proper (g : List Nat) (s k : Nat) (c : Nat → Nat) : Prop := (∀ i, s.testBit i = true → c i < k) ∧ ∀ i j, s.testBit i = true → s.testBit j = true → (nb g i).testBit j = true → c i ≠ c j
theorem proper_step {g : List Nat} (hg : Gr g) {left x : Nat} (hl : left < 2 ^ g.length) (hx : x < g.length) (hs : Simp g left x = true) {c : Nat → Nat} (hc : Proper g (ndiff left (2 ^ x)) (om g) c) : ∃ c, Proper g left (om g) c := by
  simp only [Simp, Bool.and_eq_true, decide_eq_true_eq] at hs
  have hN : nb g x &&& left < 2 ^ g.length := Nat.lt_of_le_of_lt Nat.and_le_left (hg.lt x hx)
  have hcl := (cliq_iff hN).1 hs.2
  have hxx : (nb g x &&& left).testBit x = false := by rw [Nat.testBit_and, hg.irr x hx]; rfl
  have hU : (nb g x &&& left) ||| 2 ^ x < 2 ^ g.length := lt_pow_of_bits fun i hi => by
    rw [Nat.testBit_or, testBit_pow, Bool.or_eq_true, decide_eq_true_iff] at hi
    rcases hi with h | h
    · exact bit_lt hN h
    · omega
  have hUc : Cliq g ((nb g x &&& left) ||| 2 ^ x) := (cliq_iff hU).2 fun i j hi hj hij => by
    rw [Nat.testBit_or, testBit_pow, Bool.or_eq_true, decide_eq_true_iff] at hi hj
    rcases hi with hi | hi <;> rcases hj with hj | hj
    · exact hcl i j hi hj hij
    · subst hj
      have h2 := hi
      rw [Nat.testBit_and, Bool.and_eq_true] at h2
      exact hg.sym x i hx (bit_lt hN hi) h2.1
    · subst hi
      rw [Nat.testBit_and, Bool.and_eq_true] at hj
      exact hj.1
    · omega
  have hcnt := om_max hg hU hUc
  rw [cnt_insert hx hxx] at hcnt
  obtain ⟨y, hy, hn⟩ := pigeon (om g) (((List.range g.length).filter fun i => (nb g x &&& left).testBit i).map c) (by
    rw [List.length_map]; exact hcnt)
  have hfree : ∀ i, left.testBit i = true → (nb g x).testBit i = true → c i ≠ y := fun i h1 h2 e => hn (List.mem_map.2 ⟨i, List.mem_filter.2 ⟨List.mem_range.2 (bit_lt hl h1), by rw [Nat.testBit_and, h1, h2]; rfl⟩, e⟩)
  have hd : ∀ i, i ≠ x → left.testBit i = true → (ndiff left (2 ^ x)).testBit i = true := fun i h1 h2 => by
    rw [testBit_ndiff, testBit_pow, h2, decide_eq_false (fun e => h1 e.symm)]; rfl
  refine ⟨fun i => if i = x then y else c i, fun i hi => ?_, fun i j hi hj hij => ?_⟩
  · by_cases e : i = x
    · simp only [e, if_true]; exact hy
    · simp only [e, if_false]; exact hc.1 i (hd i e hi)
  · by_cases e1 : i = x
    · by_cases e2 : j = x
      · rw [e1, e2, hg.irr x hx] at hij; cases hij
      · simp only [e1, if_true, e2, if_false]
        rw [e1] at hij
        exact fun e => hfree j hj hij e.symm
    · by_cases e2 : j = x
      · simp only [e1, if_false, e2, if_true]
        rw [e2] at hij
        exact hfree i hi (hg.sym i x (bit_lt hl hi) hx hij)
      · simp only [e1, e2, if_false]
        exact hc.2 i j (hd i e1 hi) (hd j e2 hj) hij
theorem proper_ex {g : List Nat} (hg : Gr g) (h : Chordal g) : ∀ d i, i + d = g.length → ∃ c, Proper g (elim g i).2 (om g) c
  | 0, i, hi => by
    have : (elim g i).2 = 0 := by rw [show i = g.length by omega]; exact h
    rw [this]
    exact ⟨fun _ => 0, fun i hi => by simp at hi, fun i j hi => by simp at hi⟩
  | d + 1, i, hi => by
    obtain ⟨c, hc⟩ := proper_ex hg h d (i + 1) (by omega)
    obtain ⟨x, hx⟩ := chordal_pick h (i := i) (by omega)
    rw [elim_some hx] at hc
    obtain ⟨h1, h2⟩ := pick_spec hx
    exact proper_step hg (elim_lt g i) h1 h2 hc
/-- l can be made a colouring with k colours -/
def Ext (g : List Nat) (k : Nat) (l : List Nat) : Prop := ∃ c : Nat → Nat, (∀ i, i < g.length → c i < k) ∧ (∀ i j, i < g.length → j < g.length → (nb g i).testBit j = true → c i ≠ c j) ∧ ∀ i, i < l.length → at' l i = c i
theorem ext_nil {g : List Nat} (hg : Gr g) (h : Chordal g) : Ext g (om g) [] := by
  obtain ⟨c, h1, h2⟩ := proper_ex hg h g.length 0 (by omega)
  have hb : ∀ i, i < g.length → (elim g 0).2.testBit i = true := fun i hi => by
    show (2 ^ g.length - 1).testBit i = true
    rw [Nat.testBit_two_pow_sub_one]; exact decide_eq_true hi
  exact ⟨c, fun i hi => h1 i (hb i hi), fun i j hi hj => h2 i j (hb i hi) (hb j hj), fun i hi => by simp at hi⟩
theorem cf_ne {g : List Nat} {k : Nat} : ∀ m l, l.length + m = g.length → Ext g k l → cf g k m l ≠ none
  | 0, l, _, _ => by rw [cf]; simp
  | m + 1, l, hm, ⟨c, h1, h2, h3⟩ => by
    rw [cf]
    refine ft_ne (x := c l.length) (h1 _ (by omega)) ?_
    rw [if_pos (show FitTo g l (c l.length) l.length from fun i hi hh => h2 l.length i (by omega) (by omega) hh.1 (by rw [← h3 i hi]; exact hh.2))]
    refine cf_ne m _ (by simp; omega) ⟨c, h1, h2, fun i hi => ?_⟩
    simp only [List.length_append, List.length_cons, List.length_nil] at hi
    by_cases e : i < l.length
    · rw [at_app e]; exact h3 i e
    · rw [show i = l.length by omega, at_app2]
/-- the beginning of a colouring -/
def Beg (g : List Nat) (k : Nat) (l : List Nat) : Prop := (∀ i, i < l.length → at' l i < k) ∧ ∀ i j, i < l.length → j < i → (nb g i).testBit j = true → at' l i ≠ at' l j
theorem beg_nil (g : List Nat) (k : Nat) : Beg g k [] := ⟨fun i hi => by simp at hi, fun i j hi => by simp at hi⟩
theorem beg_step {g : List Nat} {k : Nat} {l : List Nat} {x : Nat} (h : Beg g k l) (hx : x < k) (hf : FitTo g l x l.length) : Beg g k (l ++ [x]) := by
  have hlen : (l ++ [x]).length = l.length + 1 := by simp
  refine ⟨fun i hi => ?_, fun i j hi hj hb => ?_⟩
  · rw [hlen] at hi
    by_cases e : i < l.length
    · rw [at_app e]; exact h.1 i e
    · rw [show i = l.length by omega, at_app2]; exact hx
  · rw [hlen] at hi
    by_cases e : i < l.length
    · rw [at_app e, at_app (by omega)]; exact h.2 i j e hj hb
    · obtain rfl : i = l.length := by omega
      rw [at_app2, at_app hj]
      exact fun e => hf j hj ⟨hb, e⟩
theorem cf_ext {g : List Nat} (hg : Gr g) {k : Nat} : ∀ m l r, l.length + m = g.length → Beg g k l → cf g k m l = some r → Ext g k l
  | 0, l, r, hm, hb, _ => by
    refine ⟨at' l, fun i hi => hb.1 i (by omega), fun i j hi hj hij => ?_, fun i _ => rfl⟩
    by_cases e : j < i
    · exact hb.2 i j (by omega) e hij
    · by_cases e2 : i < j
      · exact fun h => hb.2 j i (by omega) e2 (hg.sym i j hi hj hij) h.symm
      · have : i = j := by omega
        rw [this, hg.irr j hj] at hij; cases hij
  | m + 1, l, r, hm, hb, h => by
    rw [cf] at h
    obtain ⟨x, hx, h1, _⟩ := ft_spec h
    by_cases hf : FitTo g l x l.length
    · rw [if_pos hf] at h1
      obtain ⟨c, c1, c2, c3⟩ := cf_ext hg m (l ++ [x]) r (by simp; omega) (beg_step hb hx hf) h1
      exact ⟨c, c1, c2, fun i hi => by rw [← c3 i (by simp; omega), at_app hi]⟩
    · rw [if_neg hf] at h1; cases h1
def sw (x y i : Nat) : Nat := if i = x then y else if i = y then x else i
theorem sw_inj {x y a b : Nat} (h : sw x y a = sw x y b) : a = b := by
  unfold sw at h
  split at h <;> split at h <;> (try split at h) <;> (try split at h) <;> omega
/-- a new colour that fails lets the later ones fail -/
theorem cf_prune {g : List Nat} (hg : Gr g) {k m : Nat} {l : List Nat} {x : Nat} (hm : l.length + (m + 1) = g.length) (hb : Beg g k l) (hx : x < k) (hnew : ∀ y ∈ l, y < x) (hf : cf g k m (l ++ [x]) = none) {y : Nat} (hy : x < y) (hyk : y < k) (hfy : FitTo g l y l.length) : cf g k m (l ++ [y]) = none := by
  cases h : cf g k m (l ++ [y]) with
  | none => rfl
  | some r =>
    obtain ⟨c, c1, c2, c3⟩ := cf_ext hg m (l ++ [y]) r (by simp; omega) (beg_step hb hyk hfy) h
    refine absurd hf (cf_ne m _ (by simp; omega) ⟨fun i => sw x y (c i), fun i hi => ?_, fun i j hi hj hij e => c2 i j hi hj hij (sw_inj e), fun i hi => ?_⟩)
    · have := c1 i hi
      show sw x y (c i) < k
      unfold sw; split
      · exact hyk
      · split
        · exact hx
        · exact this
    · simp only [List.length_append, List.length_cons, List.length_nil] at hi
      have h3 := c3 i (by simp; omega)
      by_cases e : i < l.length
      · rw [at_app e] at h3 ⊢
        have := hnew _ (mem_at.2 ⟨i, e, rfl⟩)
        dsimp only
        rw [← h3]
        unfold sw
        rw [if_neg (by omega), if_neg (by omega)]
      · have e2 : i = l.length := by omega
        subst e2
        rw [at_app2] at h3 ⊢
        dsimp only
        rw [← h3]
        unfold sw
        rw [if_neg (by omega), if_pos rfl]
/-- .. so that there is none -/
theorem cf_stop {g : List Nat} (hg : Gr g) {k m : Nat} {l : List Nat} {x : Nat} (hm : l.length + (m + 1) = g.length) (hb : Beg g k l) (hx : x < k) (hnew : ∀ y ∈ l, y < x) (hf : cf g k m (l ++ [x]) = none)
    (h0 : ft (fun c => if FitTo g l c l.length then cf g k m (l ++ [c]) else none) x = none) : cf g k (m + 1) l = none := by
  rw [cf]
  have key : ∀ d, x + d ≤ k → ft (fun c => if FitTo g l c l.length then cf g k m (l ++ [c]) else none) (x + d) = none := by
    intro d
    induction d with
    | zero => intro _; exact h0
    | succ d ih =>
      intro hd
      rw [← Nat.add_assoc, ft_none (ih (by omega))]
      by_cases hfit : FitTo g l (x + d) l.length
      · rw [if_pos hfit]
        by_cases e : d = 0
        · subst e; exact hf
        · exact cf_prune hg hm hb hx hnew hf (by omega) (by omega) hfit
      · rw [if_neg hfit]
  have := key (k - x) (by omega)
  rwa [show x + (k - x) = k by omega] at this
theorem cf_chordal {g : List Nat} (hg : Gr g) (h : Chordal g) : ∃ r, cf g (om g) g.length [] = some r := by
  have := cf_ne g.length [] (by simp) (ext_nil hg h)
  cases e : cf g (om g) g.length [] with
  | none => exact absurd e this
  | some r => exact ⟨r, rfl⟩
#print axioms cf_chordal
#print axioms cf_stop
end Go.Proofs.Ytkjpbjbheocciaa
