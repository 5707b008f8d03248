/- Covers: the greedy cover along an elimination order has as many cliques as the greatest independent set has nodes; no cover has fewer. Colours: as many as the greatest clique has nodes. Plain facts. -/
import Derived.Test.YtkjpbjbheocciaaCe
import Derived.Test.YtkjpbjbheocciaaGh
namespace Go.Proofs.Ytkjpbjbheocciaa

/-- the size of the greatest independent set -/
def al (g : List Nat) : Nat := pop (bestTo (isI g) (2 ^ g.length))
theorem bestTo_spec {p : Nat → Bool} (h0 : p 0 = true) : ∀ k, p (bestTo p k) = true
  | 0 => h0
  | k + 1 => by
    by_cases hc : pop (bestTo p k) < pop k ∧ p k = true
    · rw [best_hit hc.1 hc.2]; exact hc.2
    · rw [best_miss hc]; exact bestTo_spec h0 k
theorem indep_zero (g : List Nat) : Indep g 0 := fun i _ h => by simp at h
theorem al_max {g : List Nat} (hg : Gr g) {s : Nat} (hs : s < 2 ^ g.length) (h : Indep g s) : cnt g.length s ≤ al g := by
  have h1 := bestTo_max (p := isI g) hs (decide_eq_true h)
  have := hg.le
  rwa [pop_eq hs (by omega)] at h1
theorem al_ex {g : List Nat} (hg : Gr g) : ∃ s, s < 2 ^ g.length ∧ Indep g s ∧ cnt g.length s = al g := by
  have hlt := bestTo_lt (isI g) (2 ^ g.length) (Nat.two_pow_pos _)
  have := hg.le
  exact ⟨_, hlt, of_decide_eq_true (bestTo_spec (p := isI g) (decide_eq_true (indep_zero g)) (2 ^ g.length) : isI g _ = true), by rw [al, pop_eq hlt (by omega)]⟩
theorem indep_sub {g : List Nat} {s t : Nat} (ht : t < 2 ^ g.length) (h : Indep g t) (hs : Sub s t) : Indep g s :=
  (indep_iff (Nat.lt_of_le_of_lt hs.le ht)).2 fun i j hi hj => (indep_iff ht).1 h i j (sub_iff.1 hs i hi) (sub_iff.1 hs j hj)
theorem sub_ndiff (s t : Nat) : Sub (ndiff s t) s := sub_iff.2 fun i hi => by rw [testBit_ndiff, Bool.and_eq_true] at hi; exact hi.1
/-- what an independent set loses with a clique -/
theorem cnt_cliq {g : List Nat} {s c : Nat} (hs : s < 2 ^ g.length) (hi : Indep g s) (hcl : c < 2 ^ g.length) (hc : Cliq g c) : cnt g.length s ≤ cnt g.length (ndiff s c) + 1 := by
  by_cases h : ∃ x, (s &&& c).testBit x = true
  · obtain ⟨x, hx⟩ := h
    rw [Nat.testBit_and, Bool.and_eq_true] at hx
    have hxn := bit_lt hs hx.1
    rw [← cnt_erase hxn hx.1]
    have : cnt g.length (ndiff s (2 ^ x)) ≤ cnt g.length (ndiff s c) := by
      apply cnt_mono
      intro i _ hi2
      rw [testBit_ndiff, testBit_pow, Bool.and_eq_true, Bool.not_eq_true', decide_eq_false_iff_not] at hi2
      rw [testBit_ndiff, hi2.1]
      cases hci : c.testBit i
      · rfl
      · have h1 := (cliq_iff hcl).1 hc x i hx.2 hci hi2.2
        rw [(indep_iff hs).1 hi x i hx.1 hi2.1] at h1; cases h1
    omega
  · have : cnt g.length s ≤ cnt g.length (ndiff s c) := by
      apply cnt_mono
      intro i _ hi2
      rw [testBit_ndiff, hi2]
      cases hci : c.testBit i
      · rfl
      · exact absurd ⟨i, by rw [Nat.testBit_and, hi2, hci]; rfl⟩ h
    omega
/-- cliques that have all nodes of an independent set are no fewer than these -/
theorem cover_ge {g : List Nat} : ∀ (L : List Nat) (s : Nat), s < 2 ^ g.length → Indep g s → (∀ c ∈ L, c < 2 ^ g.length ∧ Cliq g c) → (∀ i, s.testBit i = true → ∃ c ∈ L, c.testBit i = true) → cnt g.length s ≤ L.length
  | [], s, hs, _, _, h => by
    have : s = 0 := eq_zero_of_bits fun i => by
      cases hb : s.testBit i
      · rfl
      · obtain ⟨c, hc, _⟩ := h i hb; cases hc
    rw [this, (cnt_zero_iff (Nat.two_pow_pos _)).2 rfl]; exact Nat.zero_le _
  | c :: L, s, hs, hi, hc, h => by
    have h1 := cnt_cliq hs hi (hc c (by simp)).1 (hc c (by simp)).2
    have h2 := cover_ge L (ndiff s c) (ndiff_lt hs) (indep_sub hs hi (sub_ndiff s c)) (fun d hd => hc d (by simp [hd])) (fun i hi2 => by
      rw [testBit_ndiff, Bool.and_eq_true, Bool.not_eq_true'] at hi2
      obtain ⟨d, hd, hdi⟩ := h i hi2.1
      rcases List.mem_cons.1 hd with rfl | hd
      · rw [hi2.2] at hdi; cases hdi
      · exact ⟨d, hd, hdi⟩)
    simp only [List.length_cons]; omega

/-! ### the greedy cover -/
/-- what the first k nodes of an order give: the cliques, and the nodes that none has -/
def gre (g o : List Nat) : Nat → List Nat × Nat
  | 0 => ([], 2 ^ g.length - 1)
  | k + 1 => if (gre g o k).2.testBit (at' o k) = true then ((gre g o k).1 ++ [nb g (at' o k) &&& (gre g o k).2 ||| 2 ^ at' o k], ndiff (gre g o k).2 (nb g (at' o k) &&& (gre g o k).2 ||| 2 ^ at' o k)) else gre g o k
theorem gre_yes {g o : List Nat} {k : Nat} (h : (gre g o k).2.testBit (at' o k) = true) : gre g o (k + 1) = ((gre g o k).1 ++ [nb g (at' o k) &&& (gre g o k).2 ||| 2 ^ at' o k], ndiff (gre g o k).2 (nb g (at' o k) &&& (gre g o k).2 ||| 2 ^ at' o k)) := by rw [gre, if_pos h]
theorem gre_no {g o : List Nat} {k : Nat} (h : (gre g o k).2.testBit (at' o k) = false) : gre g o (k + 1) = gre g o k := by rw [gre, if_neg (by rw [h]; simp)]
theorem gre_lt (g o : List Nat) : ∀ k, (gre g o k).2 < 2 ^ g.length
  | 0 => by have := Nat.two_pow_pos g.length; show 2 ^ g.length - 1 < _; omega
  | k + 1 => by
    cases h : (gre g o k).2.testBit (at' o k) with
    | true => rw [gre_yes h]; exact ndiff_lt (gre_lt g o k)
    | false => rw [gre_no h]; exact gre_lt g o k
/-- sets that have each node of a set just once, none of them empty -/
def Parts (L : List Nat) (s : Nat) : Prop := (∀ c ∈ L, c ≠ 0) ∧ L.Pairwise (fun a b => a &&& b = 0) ∧ ∀ i, s.testBit i = true ↔ ∃ c ∈ L, c.testBit i = true
/-- what holds of the greedy cover -/
structure Greedy (g : List Nat) (k : Nat) (L : List Nat) (left : Nat) : Prop where
  sub : ∀ i, left.testBit i = true → (elim g k).2.testBit i = true
  cl : ∀ c ∈ L, c < 2 ^ g.length ∧ Cliq g c
  parts : Parts L (ndiff (2 ^ g.length - 1) left)
  ind : ∃ s, s < 2 ^ g.length ∧ Indep g s ∧ cnt g.length s = L.length ∧ ∀ i, s.testBit i = true → left.testBit i = false ∧ ∀ j, left.testBit j = true → (nb g i).testBit j = false
theorem and_zero_iff {a b : Nat} : a &&& b = 0 ↔ ∀ i, ¬ (a.testBit i = true ∧ b.testBit i = true) := by
  constructor
  · intro h i hi
    have : (a &&& b).testBit i = true := by rw [Nat.testBit_and, hi.1, hi.2]; rfl
    rw [h, Nat.zero_testBit] at this; cases this
  · intro h
    apply eq_zero_of_bits
    intro i
    rw [Nat.testBit_and]
    cases ha : a.testBit i <;> cases hb : b.testBit i <;> first | rfl | exact absurd ⟨ha, hb⟩ (h i)
theorem full_bit {n i : Nat} : (2 ^ n - 1).testBit i = true ↔ i < n := by rw [Nat.testBit_two_pow_sub_one, decide_eq_true_iff]
theorem greedy_step {g : List Nat} (hg : Gr g) {k x : Nat} {L : List Nat} {left : Nat} (hl : left < 2 ^ g.length) (hp : pick g (elim g k).2 = some x) (h : Greedy g k L left) :
    (left.testBit x = false → Greedy g (k + 1) L left) ∧ (left.testBit x = true → Greedy g (k + 1) (L ++ [nb g x &&& left ||| 2 ^ x]) (ndiff left (nb g x &&& left ||| 2 ^ x))) := by
  obtain ⟨hx, hsimp⟩ := pick_spec hp
  have hel := elim_some hp
  simp only [Simp, Bool.and_eq_true, decide_eq_true_eq] at hsimp
  constructor
  · intro hb
    refine ⟨fun i hi => ?_, h.cl, h.parts, h.ind⟩
    rw [hel]
    show (ndiff _ _).testBit i = true
    rw [testBit_ndiff, testBit_pow, h.sub i hi, decide_eq_false (fun e => by rw [e, hi] at hb; cases hb)]; rfl
  · intro hb
    obtain ⟨c, hc⟩ : ∃ c, c = nb g x &&& left ||| 2 ^ x := ⟨_, rfl⟩
    rw [← hc]
    have cb : ∀ i, c.testBit i = true ↔ ((nb g x).testBit i = true ∧ left.testBit i = true) ∨ x = i := fun i => by
      rw [hc, Nat.testBit_or, Nat.testBit_and, testBit_pow, Bool.or_eq_true, Bool.and_eq_true, decide_eq_true_iff]
    have cx : c.testBit x = true := (cb x).2 (.inr rfl)
    have csub : ∀ i, c.testBit i = true → left.testBit i = true := fun i hi => by
      rcases (cb i).1 hi with h1 | rfl
      · exact h1.2
      · exact hb
    have clt : c < 2 ^ g.length := lt_pow_of_bits fun i hi => bit_lt hl (csub i hi)
    have hN : nb g x &&& (elim g k).2 < 2 ^ g.length := Nat.lt_of_le_of_lt Nat.and_le_left (hg.lt x hx)
    have hcl := (cliq_iff hN).1 hsimp.2
    have inN : ∀ i, (nb g x).testBit i = true → left.testBit i = true → (nb g x &&& (elim g k).2).testBit i = true := fun i h1 h2 => by
      rw [Nat.testBit_and, h1, h.sub i h2]; rfl
    have ccl : Cliq g c := (cliq_iff clt).2 fun i j hi hj hij => by
      rcases (cb i).1 hi with hi | rfl <;> rcases (cb j).1 hj with hj | rfl
      · exact hcl i j (inN i hi.1 hi.2) (inN j hj.1 hj.2) hij
      · exact hg.sym _ i hx (bit_lt hl hi.2) hi.1
      · exact hj.1
      · exact absurd rfl hij
    have dl : ∀ i, (ndiff left c).testBit i = true ↔ left.testBit i = true ∧ c.testBit i = false := fun i => by
      rw [testBit_ndiff, Bool.and_eq_true, Bool.not_eq_true']
    have db : ∀ (m i : Nat), (ndiff (2 ^ g.length - 1) m).testBit i = true ↔ i < g.length ∧ m.testBit i = false := fun m i => by
      rw [testBit_ndiff, Bool.and_eq_true, Bool.not_eq_true', full_bit]
    refine ⟨fun i hi => ?_, fun d hd => ?_, ⟨fun d hd => ?_, ?_, fun i => ?_⟩, ?_⟩
    · rw [hel]
      show (ndiff _ _).testBit i = true
      have := (dl i).1 hi
      rw [testBit_ndiff, testBit_pow, h.sub i this.1, decide_eq_false (fun e => by rw [← e, cx] at this; cases this.2)]; rfl
    · rcases List.mem_append.1 hd with hd | hd
      · exact h.cl d hd
      · rw [List.mem_singleton.1 hd]; exact ⟨clt, ccl⟩
    · rcases List.mem_append.1 hd with hd | hd
      · exact h.parts.1 d hd
      · rw [List.mem_singleton.1 hd]; intro e; rw [e, Nat.zero_testBit] at cx; cases cx
    · refine List.pairwise_append.2 ⟨h.parts.2.1, List.pairwise_singleton _ _, fun a ha b hb2 => ?_⟩
      rw [List.mem_singleton.1 hb2]
      refine and_zero_iff.2 fun i hi => ?_
      have := (h.parts.2.2 i).2 ⟨a, ha, hi.1⟩
      rw [db, csub i hi.2] at this
      cases this.2
    · rw [db]
      constructor
      · rintro ⟨h1, h2⟩
        cases hli : left.testBit i with
        | false =>
          obtain ⟨d, hd, hdi⟩ := (h.parts.2.2 i).1 ((db left i).2 ⟨h1, hli⟩)
          exact ⟨d, List.mem_append_left _ hd, hdi⟩
        | true =>
          refine ⟨c, by simp, ?_⟩
          cases hci : c.testBit i with
          | true => rfl
          | false => rw [(dl i).2 ⟨hli, hci⟩] at h2; cases h2
      · rintro ⟨d, hd, hdi⟩
        rcases List.mem_append.1 hd with hd | hd
        · have := (db left i).1 ((h.parts.2.2 i).2 ⟨d, hd, hdi⟩)
          refine ⟨this.1, ?_⟩
          rw [testBit_ndiff, this.2]; rfl
        · rw [List.mem_singleton.1 hd] at hdi
          exact ⟨bit_lt clt hdi, by rw [testBit_ndiff, hdi]; simp⟩
    · obtain ⟨s, s1, s2, s3, s4⟩ := h.ind
      have sx : s.testBit x = false := by
        cases e : s.testBit x with
        | false => rfl
        | true => have := (s4 x e).1; rw [hb] at this; cases this
      have ub : ∀ i, (s ||| 2 ^ x).testBit i = true ↔ s.testBit i = true ∨ x = i := fun i => by
        rw [Nat.testBit_or, testBit_pow, Bool.or_eq_true, decide_eq_true_iff]
      have ult : s ||| 2 ^ x < 2 ^ g.length := lt_pow_of_bits fun i hi => by
        rcases (ub i).1 hi with h1 | rfl
        · exact bit_lt s1 h1
        · exact hx
      refine ⟨s ||| 2 ^ x, ult, (indep_iff ult).2 fun i j hi hj => ?_, by rw [cnt_insert hx sx, s3]; simp, fun i hi => ?_⟩
      · rcases (ub i).1 hi with hi | rfl <;> rcases (ub j).1 hj with hj | rfl
        · exact (indep_iff s1).1 s2 i j hi hj
        · exact (s4 i hi).2 _ hb
        · cases e : (nb g x).testBit j with
          | false => rfl
          | true =>
            have := hg.sym x j hx (bit_lt s1 hj) e
            rw [(s4 j hj).2 x hb] at this; cases this
        · exact hg.irr _ hx
      · rcases (ub i).1 hi with hi | rfl
        · refine ⟨?_, fun j hj => (s4 i hi).2 j ((dl j).1 hj).1⟩
          rw [testBit_ndiff, (s4 i hi).1]; rfl
        · refine ⟨by rw [testBit_ndiff, cx]; simp, fun j hj => ?_⟩
          have := (dl j).1 hj
          cases e : (nb g x).testBit j with
          | false => rfl
          | true => rw [(cb j).2 (.inl ⟨e, this.1⟩)] at this; cases this.2
theorem order_at {g : List Nat} (h : Chordal g) {k : Nat} (hk : k < g.length) : pick g (elim g k).2 = some (at' (order g) k) := by
  obtain ⟨x, hx⟩ := chordal_pick h hk
  have hlen := chordal_elim h k (by omega)
  obtain ⟨r, hr⟩ := elim_pre g (k + 1) (g.length - (k + 1))
  rw [show k + 1 + (g.length - (k + 1)) = g.length by omega] at hr
  have e : order g = (elim g k).1 ++ [x] ++ r := by rw [order, hr, elim_some hx]
  rw [hx, e, at_app (by simp [hlen])]
  congr 1
  have := at_app2 (l := (elim g k).1) (x := x)
  rw [hlen] at this
  exact this.symm
theorem greedy_any {g : List Nat} (hg : Gr g) (h : Chordal g) : ∀ k, k ≤ g.length → Greedy g k (gre g (order g) k).1 (gre g (order g) k).2
  | 0, _ => by
    refine ⟨fun i hi => hi, fun c hc => (by cases hc), ⟨fun c hc => (by cases hc), List.Pairwise.nil, fun i => ?_⟩, ⟨0, Nat.two_pow_pos _, indep_zero g, (cnt_zero_iff (Nat.two_pow_pos _)).2 rfl, fun i hi => by simp at hi⟩⟩
    show (ndiff (2 ^ g.length - 1) (2 ^ g.length - 1)).testBit i = true ↔ _
    rw [testBit_ndiff]
    constructor
    · intro h; cases hb : (2 ^ g.length - 1).testBit i <;> rw [hb] at h <;> cases h
    · rintro ⟨c, hc, _⟩; cases hc
  | k + 1, hk => by
    have ih := greedy_any hg h k (by omega)
    have st := greedy_step hg (gre_lt g (order g) k) (order_at h (by omega)) ih
    cases hb : (gre g (order g) k).2.testBit (at' (order g) k) with
    | true => rw [gre_yes hb]; exact st.2 hb
    | false => rw [gre_no hb]; exact st.1 hb
/-- the program's cover, before it is sorted -/
def cov (g : List Nat) : List Nat := (gre g (order g) g.length).1
theorem cov_left {g : List Nat} (hg : Gr g) (h : Chordal g) : (gre g (order g) g.length).2 = 0 := eq_zero_of_bits fun i => by
  cases hb : (gre g (order g) g.length).2.testBit i with
  | false => rfl
  | true =>
    have := (greedy_any hg h g.length (Nat.le_refl _)).sub i hb
    rw [show (elim g g.length).2 = 0 from h, Nat.zero_testBit] at this; cases this
theorem cov_parts {g : List Nat} (hg : Gr g) (h : Chordal g) : Parts (cov g) (2 ^ g.length - 1) := by
  have := (greedy_any hg h g.length (Nat.le_refl _)).parts
  rw [cov_left hg h] at this
  have e : ndiff (2 ^ g.length - 1) 0 = 2 ^ g.length - 1 := by apply Nat.eq_of_testBit_eq; intro i; rw [testBit_ndiff]; simp
  rwa [e] at this
theorem cov_cl {g : List Nat} (hg : Gr g) (h : Chordal g) : ∀ c ∈ cov g, c < 2 ^ g.length ∧ Cliq g c := (greedy_any hg h g.length (Nat.le_refl _)).cl
theorem cov_al {g : List Nat} (hg : Gr g) (h : Chordal g) : (cov g).length = al g := by
  obtain ⟨s, s1, s2, s3, _⟩ := (greedy_any hg h g.length (Nat.le_refl _)).ind
  have h1 := al_max hg s1 s2
  obtain ⟨t, t1, t2, t3⟩ := al_ex hg
  have h2 := cover_ge (cov g) t t1 t2 (cov_cl hg h) (fun i hi => ((cov_parts hg h).2.2 i).1 (full_bit.2 (bit_lt t1 hi)))
  have : (cov g).length = cnt g.length s := s3.symm
  omega
#print axioms cov_al
end Go.Proofs.Ytkjpbjbheocciaa
