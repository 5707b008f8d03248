/- Dirac's lemma: a graph without holes has, in every set of nodes, a node whose neighbours are all joined. Plain facts. -/
import Derived.Test.YtkjpbjbheocciaaHole
namespace Go.Proofs.Ytkjpbjbheocciaa
namespace Dirac
open Classical

noncomputable def card (n : Nat) (V : Nat → Prop) : Nat := ((List.range n).filter fun i => decide (V i)).length
theorem card_succ (n : Nat) (V : Nat → Prop) : card (n + 1) V = card n V + if V n then 1 else 0 := by
  unfold card
  rw [List.range_succ, List.filter_append, List.length_append]
  congr 1
  by_cases h : V n <;> simp [h]
theorem card_mono {V W : Nat → Prop} (h : ∀ i, W i → V i) : ∀ n, card n W ≤ card n V
  | 0 => Nat.le_refl _
  | n + 1 => by
    rw [card_succ, card_succ]
    have := card_mono h n
    have h2 := h n
    by_cases hw : W n
    · rw [if_pos hw, if_pos (h2 hw)]; omega
    · rw [if_neg hw]; split <;> omega
theorem card_lt {V W : Nat → Prop} {x : Nat} (h : ∀ i, W i → V i) (hV : V x) (hW : ¬ W x) : ∀ n, x < n → card n W < card n V
  | 0, hx => by omega
  | n + 1, hx => by
    rw [card_succ, card_succ]
    by_cases e : x = n
    · subst e
      have := card_mono h x
      rw [if_neg hW, if_pos hV]; omega
    · have := card_lt h hV hW n (by omega)
      have h2 := h n
      by_cases hw : W n
      · rw [if_pos hw, if_pos (h2 hw)]; omega
      · rw [if_neg hw]; split <;> omega

variable (A : Nat → Nat → Prop)
/-- b is reached from a within W -/
inductive Rt (W : Nat → Prop) (a : Nat) : Nat → Prop
  | refl : W a → Rt W a a
  | step {b c : Nat} : Rt W a b → A b c → W c → Rt W a c
variable {A}
theorem Rt.last {W : Nat → Prop} {a b : Nat} (h : Rt A W a b) : W b := by cases h <;> assumption
theorem Rt.first {W : Nat → Prop} {a b : Nat} (h : Rt A W a b) : W a := by
  induction h with
  | refl h => exact h
  | step _ _ _ ih => exact ih
theorem Rt.trans {W : Nat → Prop} {a b c : Nat} (h : Rt A W a b) (k : Rt A W b c) : Rt A W a c := by
  induction k with
  | refl _ => exact h
  | step _ h2 h3 ih => exact ih.step h2 h3
theorem Rt.symm (hs : ∀ a b, A a b → A b a) {W : Nat → Prop} {a b : Nat} (h : Rt A W a b) : Rt A W b a := by
  induction h with
  | refl h => exact .refl h
  | step h1 h2 h3 ih => exact (Rt.step (.refl h3) (hs _ _ h2) h1.last).trans ih
theorem Rt.mono {W X : Nat → Prop} (hw : ∀ i, W i → X i) {a b : Nat} (h : Rt A W a b) : Rt A X a b := by
  induction h with
  | refl h => exact .refl (hw _ h)
  | step _ h2 h3 ih => exact ih.step h2 (hw _ h3)
theorem Rt.inside {W : Nat → Prop} {a b : Nat} (h : Rt A W a b) : Rt A (Rt A W a) a b := by
  induction h with
  | refl h => exact .refl (.refl h)
  | step h1 h2 h3 ih => exact ih.step h2 (h1.step h2 h3)

/-- a way with m steps within W -/
def Way (A : Nat → Nat → Prop) (W : Nat → Prop) (a b m : Nat) (c : Nat → Nat) : Prop := c 0 = a ∧ c m = b ∧ (∀ i, i ≤ m → W (c i)) ∧ ∀ i, i < m → A (c i) (c (i + 1))
theorem way_of {W : Nat → Prop} {a b : Nat} (h : Rt A W a b) : ∃ m c, Way A W a b m c := by
  induction h with
  | refl h => exact ⟨0, fun _ => a, rfl, rfl, fun _ _ => h, fun i hi => by omega⟩
  | @step b d _ h2 h3 ih =>
    obtain ⟨m, c, c1, c2, c3, c4⟩ := ih
    refine ⟨m + 1, fun k => if k ≤ m then c k else d, by simp [c1], by simp only [show ¬ m + 1 ≤ m by omega, if_false], fun i hi => ?_, fun i hi => ?_⟩
    · by_cases e : i ≤ m
      · simp only [e, if_true]; exact c3 i e
      · simp only [e, if_false]; exact h3
    · by_cases e : i + 1 ≤ m
      · simp only [show i ≤ m by omega, e, if_true]; exact c4 i (by omega)
      · obtain rfl : i = m := by omega
        simp only [Nat.le_refl, if_true, e, if_false, c2]; exact h2
theorem least {P : Nat → Prop} (h : ∃ m, P m) : ∃ m, P m ∧ ∀ k, k < m → ¬ P k := by
  refine Classical.byContradiction fun hn => ?_
  have key : ∀ m, ∀ k, k < m → ¬ P k := by
    intro m
    induction m with
    | zero => intro k hk; omega
    | succ m ih =>
      intro k hk hp
      exact hn ⟨k, hp, fun j hj => ih j (by omega)⟩
  obtain ⟨m, hm⟩ := h
  exact key (m + 1) m (by omega) hm
/-- a shortest way has no other links -/
theorem way_least {W : Nat → Prop} {a b m : Nat} {c : Nat → Nat} (h : Way A W a b m c) (hl : ∀ k, k < m → ¬ ∃ c, Way A W a b k c) {i j : Nat} (hij : i < j) (hj : j ≤ m) :
    c i ≠ c j ∧ (A (c i) (c j) → j = i + 1) := by
  obtain ⟨c1, c2, c3, c4⟩ := h
  constructor
  · intro e
    refine hl (m - (j - i)) (by omega) ⟨fun k => if k ≤ i then c k else c (k + (j - i)), by simp [c1], ?_, fun k hk => ?_, fun k hk => ?_⟩
    · by_cases e2 : m - (j - i) ≤ i
      · have : m = j := by omega
        subst this
        show (if m - (m - i) ≤ i then c (m - (m - i)) else c (m - (m - i) + (m - i))) = b
        rw [show m - (m - i) = i by omega, if_pos (Nat.le_refl _), e, c2]
      · simp only [e2, if_false, show m - (j - i) + (j - i) = m by omega, c2]
    · by_cases e2 : k ≤ i
      · simp only [e2, if_true]; exact c3 k (by omega)
      · simp only [e2, if_false]; exact c3 _ (by omega)
    · by_cases e2 : k + 1 ≤ i
      · simp only [e2, show k ≤ i by omega, if_true]; exact c4 k (by omega)
      · by_cases e3 : k ≤ i
        · obtain rfl : k = i := by omega
          simp only [Nat.le_refl, if_true, e2, if_false]
          rw [e, show k + 1 + (j - k) = j + 1 by omega]
          exact c4 j (by omega)
        · simp only [e2, e3, if_false]
          rw [show k + 1 + (j - i) = k + (j - i) + 1 by omega]
          exact c4 _ (by omega)
  · intro e
    refine Classical.byContradiction fun hn => ?_
    refine hl (m - (j - i - 1)) (by omega) ⟨fun k => if k ≤ i then c k else c (k + (j - i - 1)), by simp [c1], ?_, fun k hk => ?_, fun k hk => ?_⟩
    · by_cases e2 : m - (j - i - 1) ≤ i
      · omega
      · simp only [e2, if_false, show m - (j - i - 1) + (j - i - 1) = m by omega, c2]
    · by_cases e2 : k ≤ i
      · simp only [e2, if_true]; exact c3 k (by omega)
      · simp only [e2, if_false]; exact c3 _ (by omega)
    · by_cases e2 : k + 1 ≤ i
      · simp only [e2, show k ≤ i by omega, if_true]; exact c4 k (by omega)
      · by_cases e3 : k ≤ i
        · obtain rfl : k = i := by omega
          simp only [Nat.le_refl, if_true, e2, if_false]
          rw [show k + 1 + (j - k - 1) = j by omega]
          exact e
        · simp only [e2, e3, if_false]
          rw [show k + 1 + (j - i - 1) = k + (j - i - 1) + 1 by omega]
          exact c4 _ (by omega)

/-- n nodes in a ring without other links -/
def Ring (A : Nat → Nat → Prop) (V : Nat → Prop) (n : Nat) (c : Nat → Nat) : Prop := (∀ i, i < n → V (c i)) ∧ ∀ i j, j < i → i < n → c i ≠ c j ∧ (A (c i) (c j) ↔ (i = j + 1 ∨ i = j + (n - 1)))
/-- a simplicial node -/
def Sim (A : Nat → Nat → Prop) (V : Nat → Prop) (z : Nat) : Prop := ∀ a b, V a → V b → A z a → A z b → a ≠ b → A a b
theorem ring_of {V D : Nat → Prop} {x s t : Nat} (hs : ∀ a b, A a b → A b a) (hV : ∀ d, D d → V d) (hx : V x) (hD : ∀ d, D d → d ≠ x ∧ ¬ A x d) (hVs : V s) (hVt : V t) (hxs : A x s) (hxt : A x t) (hsx : s ≠ x) (htx : t ≠ x)
    (hst : s ≠ t) (hna : ¬ A s t) (hr : Rt A (fun d => D d ∨ d = s ∨ d = t) s t) : ∃ n c, 4 ≤ n ∧ Ring A V n c := by
  obtain ⟨m, ⟨c, hc⟩, hl⟩ := least (P := fun m => ∃ c, Way A (fun d => D d ∨ d = s ∨ d = t) s t m c) (way_of hr)
  have hw := fun {i j : Nat} => way_least hc hl (i := i) (j := j)
  obtain ⟨c1, c2, c3, c4⟩ := hc
  have hm : 2 ≤ m := by
    rcases Nat.lt_or_ge m 2 with h | h
    · have : m = 0 ∨ m = 1 := by omega
      rcases this with rfl | rfl
      · exact absurd (c1.symm.trans c2) hst
      · have := c4 0 (by omega)
        rw [c1, c2] at this
        exact absurd this hna
    · exact h
  have hin : ∀ i, 0 < i → i < m → D (c i) := fun i h0 h1 => by
    rcases c3 i (by omega) with h | h | h
    · exact h
    · exact absurd (c1.trans h.symm) (hw h0 (by omega)).1
    · exact absurd (h.trans c2.symm) (hw h1 (by omega)).1
  have hne : ∀ i, i ≤ m → c i ≠ x := fun i hi => by
    rcases c3 i hi with h | h | h
    · exact (hD _ h).1
    · rw [h]; exact hsx
    · rw [h]; exact htx
  have hVi : ∀ i, i ≤ m → V (c i) := fun i hi => by
    rcases c3 i hi with h | h | h
    · exact hV _ h
    · rw [h]; exact hVs
    · rw [h]; exact hVt
  refine ⟨m + 2, fun i => if i = 0 then x else c (i - 1), by omega, fun i hi => ?_, fun i j hij hi => ?_⟩
  · by_cases e : i = 0
    · simp only [e, if_true]; exact hx
    · simp only [e, if_false]; exact hVi _ (by omega)
  · have ei : ¬ i = 0 := by omega
    simp only [ei, if_false]
    by_cases e : j = 0
    · subst e
      simp only [if_true]
      refine ⟨hne _ (by omega), ?_⟩
      constructor
      · intro h
        refine Classical.byContradiction fun hn => ?_
        exact (hD _ (hin (i - 1) (by omega) (by omega))).2 (hs _ _ h)
      · rintro (h | h)
        · rw [show i - 1 = 0 by omega, c1]; exact hs _ _ hxs
        · rw [show i - 1 = m by omega, c2]; exact hs _ _ hxt
    · simp only [e, if_false]
      have h1 := hw (i := j - 1) (j := i - 1) (by omega) (by omega)
      refine ⟨fun h => h1.1 h.symm, ?_⟩
      constructor
      · intro h; have := h1.2 (hs _ _ h); omega
      · intro h
        have := c4 (j - 1) (by omega)
        rw [show j - 1 + 1 = i - 1 by omega] at this
        exact hs _ _ this
theorem dirac {n : Nat} (hs : ∀ a b, A a b → A b a) : ∀ (m : Nat) (V : Nat → Prop), (∀ i, V i → i < n) → card n V ≤ m → (∀ k c, 4 ≤ k → ¬ Ring A V k c) →
    ∀ x y, V x → V y → y ≠ x → ¬ A x y → ∃ z, V z ∧ z ≠ x ∧ ¬ A x z ∧ Sim A V z := by
  intro m
  induction m with
  | zero =>
    intro V hV hm _ x y hx
    have := card_lt (V := V) (W := fun _ => False) (x := x) (fun _ h => h.elim) hx (fun h => h) n (hV x hx)
    omega
  | succ m ih =>
    intro V hV hm hno x y hx hy hyx hxy
    obtain ⟨U, hU⟩ : ∃ U : Nat → Prop, U = fun z => V z ∧ z ≠ x ∧ ¬ A x z := ⟨_, rfl⟩
    have hUV : ∀ z, U z → V z ∧ z ≠ x ∧ ¬ A x z := fun z h => by rw [hU] at h; exact h
    have hVU : ∀ z, V z → z ≠ x → ¬ A x z → U z := fun z h1 h2 h3 => by rw [hU]; exact ⟨h1, h2, h3⟩
    obtain ⟨D, hD⟩ : ∃ D : Nat → Prop, D = Rt A U y := ⟨_, rfl⟩
    have hDU : ∀ z, D z → U z := fun z h => by rw [hD] at h; exact h.last
    have hDy : D y := by rw [hD]; exact .refl (hVU y hy hyx hxy)
    have hDs : ∀ a b, D a → A a b → U b → D b := fun a b h1 h2 h3 => by rw [hD] at h1 ⊢; exact h1.step h2 h3
    have hDr : ∀ a b, D a → D b → Rt A D a b := fun a b h1 h2 => by
      rw [hD] at h1 h2 ⊢
      exact (h1.inside.symm hs).trans h2.inside
    obtain ⟨S, hS⟩ : ∃ S : Nat → Prop, S = fun s => V s ∧ ¬ D s ∧ ∃ d, D d ∧ A d s := ⟨_, rfl⟩
    have hS1 : ∀ s, S s → V s ∧ ¬ D s ∧ ∃ d, D d ∧ A d s := fun s h => by rw [hS] at h; exact h
    have hS2 : ∀ s, V s → ¬ D s → (∃ d, D d ∧ A d s) → S s := fun s h1 h2 h3 => by rw [hS]; exact ⟨h1, h2, h3⟩
    have hSx : ∀ s, S s → s ≠ x ∧ A x s := fun s h => by
      obtain ⟨h1, h2, d, h3, h4⟩ := hS1 s h
      have hne : s ≠ x := fun e => by rw [e] at h4; exact (hUV d (hDU d h3)).2.2 (hs _ _ h4)
      refine ⟨hne, Classical.byContradiction fun hn => h2 (hDs d s h3 h4 (hVU s h1 hne hn))⟩
    have hSc : ∀ s t, S s → S t → s ≠ t → A s t := fun s t h1 h2 hst => by
      refine Classical.byContradiction fun hna => ?_
      obtain ⟨a1, _, d, a3, a4⟩ := hS1 s h1
      obtain ⟨b1, _, e, b3, b4⟩ := hS1 t h2
      have r1 : Rt A (fun d => D d ∨ d = s ∨ d = t) d e := (hDr d e a3 b3).mono fun i h => .inl h
      have r2 : Rt A (fun d => D d ∨ d = s ∨ d = t) s t := ((Rt.step (.refl (.inr (.inl rfl))) (hs _ _ a4) (.inl a3)).trans r1).step b4 (.inr (.inr rfl))
      obtain ⟨k, c, hk, hr⟩ := ring_of (A := A) (V := V) (D := D) hs (fun d h => (hUV d (hDU d h)).1) hx (fun d h => (hUV d (hDU d h)).2) a1 b1 (hSx s h1).2 (hSx t h2).2 (hSx s h1).1 (hSx t h2).1 hst hna r2
      exact hno k c hk hr
    obtain ⟨W, hW⟩ : ∃ W : Nat → Prop, W = fun z => D z ∨ S z := ⟨_, rfl⟩
    have hW1 : ∀ z, W z → D z ∨ S z := fun z h => by rw [hW] at h; exact h
    have hWD : ∀ z, D z → W z := fun z h => by rw [hW]; exact .inl h
    have hWS : ∀ z, S z → W z := fun z h => by rw [hW]; exact .inr h
    have hWV : ∀ z, W z → V z := fun z h => (hW1 z h).elim (fun h => (hUV z (hDU z h)).1) fun h => (hS1 z h).1
    have hWx : ¬ W x := fun h => (hW1 x h).elim (fun h => (hUV x (hDU x h)).2.1 rfl) fun h => (hSx x h).1 rfl
    have hcard : card n W ≤ m := by have := card_lt hWV hx hWx n (hV x hx); omega
    have hnoW : ∀ k c, 4 ≤ k → ¬ Ring A W k c := fun k c hk hr => hno k c hk ⟨fun i hi => hWV _ (hr.1 i hi), hr.2⟩
    have IH := ih W (fun i h => hV i (hWV i h)) hcard hnoW
    have main : ∃ z, D z ∧ Sim A W z := by
      by_cases c1 : ∃ s y', S s ∧ W y' ∧ y' ≠ s ∧ ¬ A s y'
      · obtain ⟨s, y', h1, h2, h3, h4⟩ := c1
        obtain ⟨z, z1, z2, z3, z4⟩ := IH s y' (hWS s h1) h2 h3 h4
        refine ⟨z, (hW1 z z1).elim id fun h => absurd (hSc s z h1 h (fun e => z2 e.symm)) z3, z4⟩
      · have k1 : ∀ s y', S s → W y' → y' ≠ s → A s y' := fun s y' h1 h2 h3 => Classical.byContradiction fun hn => c1 ⟨s, y', h1, h2, h3, hn⟩
        by_cases c2 : ∃ d y', D d ∧ W y' ∧ y' ≠ d ∧ ¬ A d y'
        · obtain ⟨d, y', h1, h2, h3, h4⟩ := c2
          obtain ⟨z, z1, z2, z3, z4⟩ := IH d y' (hWD d h1) h2 h3 h4
          refine ⟨z, (hW1 z z1).elim id fun h => absurd (hs _ _ (k1 z d h (hWD d h1) (fun e => z2 e.symm))) z3, z4⟩
        · have k2 : ∀ d y', D d → W y' → y' ≠ d → A d y' := fun s y' h1 h2 h3 => Classical.byContradiction fun hn => c2 ⟨s, y', h1, h2, h3, hn⟩
          refine ⟨y, hDy, fun a b ha hb _ _ hab => ?_⟩
          rcases hW1 a ha with h | h
          · exact k2 a b h hb (fun e => hab e.symm)
          · exact k1 a b h hb (fun e => hab e.symm)
    obtain ⟨z, z1, z2⟩ := main
    have hz := hUV z (hDU z z1)
    refine ⟨z, hz.1, hz.2.1, hz.2.2, fun a b ha hb h1 h2 hab => z2 a b ?_ ?_ h1 h2 hab⟩
    · by_cases h : D a
      · exact hWD a h
      · exact hWS a (hS2 a ha h ⟨z, z1, h1⟩)
    · by_cases h : D b
      · exact hWD b h
      · exact hWS b (hS2 b hb h ⟨z, z1, h2⟩)
/-- a set without rings has a simplicial node -/
theorem sim_ex {n : Nat} (hs : ∀ a b, A a b → A b a) (V : Nat → Prop) (hV : ∀ i, V i → i < n) (hno : ∀ k c, 4 ≤ k → ¬ Ring A V k c) (x : Nat) (hx : V x) : ∃ z, V z ∧ Sim A V z := by
  by_cases h : ∃ a b, V a ∧ V b ∧ b ≠ a ∧ ¬ A a b
  · obtain ⟨a, b, h1, h2, h3, h4⟩ := h
    obtain ⟨z, z1, _, _, z4⟩ := dirac hs (card n V) V hV (Nat.le_refl _) hno a b h1 h2 h3 h4
    exact ⟨z, z1, z4⟩
  · refine ⟨x, hx, fun a b ha hb _ _ hab => Classical.byContradiction fun hn => h ⟨a, b, ha, hb, fun e => hab e.symm, hn⟩⟩
end Dirac
#print axioms Dirac.sim_ex
end Go.Proofs.Ytkjpbjbheocciaa
