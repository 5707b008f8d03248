/- Math: the run that takes ears away, and its tree. -/
import Derived.Test.YtfplmdieeabgpaaGyo
namespace Go.Proofs.Ytfplmdieeabgpaa
open Go.RowKit
/-- the set of a number -/
def mem' (L : Nat) (i : Nat) : Prop := L.testBit i = true
theorem mem_del {L e i : Nat} : mem' (ndiff L (2 ^ e)) i ↔ mem' L i ∧ i ≠ e := by
  unfold mem'
  rw [testBit_ndiff, Nat.testBit_two_pow]
  by_cases c : i = e
  · simp [c]
  · have c2 : ¬ e = i := fun h => c h.symm
    simp [c, c2]
/-- what holds of those that are left, and of the parents of the others -/
structure Run (V : Nat → Nat → Prop) (n L : Nat) (par : List Int) (rk : Nat → Nat) (rem : List Nat) : Prop where
  len : par.length = n
  sub : ∀ i, mem' L i → i < n
  some : ∃ i, mem' L i
  nd : rem.Nodup
  mem : ∀ i, i ∈ rem ↔ i < n ∧ ¬ mem' L i
  lft : ∀ i, i < n → mem' L i → pa par i = -1
  gon : ∀ i, i < n → ¬ mem' L i → 0 ≤ pa par i ∧ pa par i < n ∧ rk i < rem.length ∧ (mem' L (pa par i).toNat ∨ rk i < rk (pa par i).toNat)
  inj : ∀ i j, i < n → j < n → ¬ mem' L i → ¬ mem' L j → rk i = rk j → i = j
  conn : ∀ v i, i < n → ¬ mem' L i → V i v → ¬ V (pa par i).toNat v → ∀ k, k < n → (mem' L k ∨ rk i < rk k) → ¬ V k v
theorem Run.cnt {V : Nat → Nat → Prop} {n L : Nat} {par : List Int} {rk : Nat → Nat} {rem : List Nat} (h : Run V n L par rk rem) : rem.length + 1 ≤ n := by
  obtain ⟨i, hi⟩ := h.some
  have := len_le (l := i :: rem) (m := List.range n) (List.nodup_cons.2 ⟨fun k => ((h.mem i).1 k).2 hi, h.nd⟩) (fun x hx => by
    rcases List.mem_cons.1 hx with rfl | hx
    · exact List.mem_range.2 (h.sub _ hi)
    · exact List.mem_range.2 ((h.mem x).1 hx).1)
  simpa using this
theorem pa_set {par : List Int} {e h i : Nat} (he : e < par.length) : pa (par.set e h) i = if i = e then (h : Int) else pa par i := by
  unfold pa
  simp only [List.getD_eq_getElem?_getD, List.getElem?_set]
  by_cases c : i = e
  · subst c; simp [he]
  · rw [if_neg (fun k => c k.symm), if_neg c]
theorem run_start (V : Nat → Nat → Prop) {n : Nat} (hn : 0 < n) : Run V n (2 ^ n - 1) (List.replicate n (-1)) (fun _ => 0) [] := by
  have hm : ∀ i, mem' (2 ^ n - 1) i ↔ i < n := fun i => by unfold mem'; rw [Nat.testBit_two_pow_sub_one]; simp
  refine ⟨by simp, fun i hi => (hm i).1 hi, ⟨0, (hm 0).2 hn⟩, by simp, fun i => by rw [hm]; simp, fun i hi _ => ?_, fun i hi k => absurd ((hm i).2 hi) k, fun i _ hi _ k => absurd ((hm i).2 hi) k, fun v i hi k => absurd ((hm i).2 hi) k⟩
  unfold pa
  rw [List.getD_eq_getElem?_getD, List.getElem?_replicate, if_pos hi]; rfl
theorem run_step {V : Nat → Nat → Prop} {n L : Nat} {par : List Int} {rk : Nat → Nat} {rem : List Nat} (R : Run V n L par rk rem) {e h : Nat} (E : EarP V (mem' L) e h) :
    Run V n (ndiff L (2 ^ e)) (par.set e h) (fun i => if i = e then rem.length else rk i) (rem ++ [e]) := by
  obtain ⟨h1, h2, h3, h4⟩ := E
  have hen := R.sub e h1
  have hhn := R.sub h h2
  have pe : pa (par.set e h) e = h := by rw [pa_set (by rw [R.len]; exact hen), if_pos rfl]
  have po : ∀ i, i ≠ e → pa (par.set e h) i = pa par i := fun i hi => by rw [pa_set (by rw [R.len]; exact hen), if_neg hi]
  have gone : ∀ i, ¬ mem' (ndiff L (2 ^ e)) i → i = e ∨ (i ≠ e ∧ ¬ mem' L i) := fun i hi => by
    by_cases c : i = e
    · exact .inl c
    · exact .inr ⟨c, fun k => hi (mem_del.2 ⟨k, c⟩)⟩
  refine ⟨by rw [List.length_set]; exact R.len, fun i hi => R.sub i (mem_del.1 hi).1, ⟨h, mem_del.2 ⟨h2, h3.symm⟩⟩, ?_, fun i => ?_, fun i hi k => ?_, fun i hi k => ?_, fun i j hi hj k1 k2 hr => ?_, fun v i hi k hv hp m hm hmm => ?_⟩
  · refine List.nodup_append.2 ⟨R.nd, by simp, fun a ha b hb => ?_⟩
    simp at hb
    subst hb
    intro s
    rw [s] at ha
    exact ((R.mem _).1 ha).2 h1
  · rw [List.mem_append, R.mem, List.mem_singleton]
    constructor
    · rintro (⟨q1, q2⟩ | q)
      · exact ⟨q1, fun k => q2 (mem_del.1 k).1⟩
      · rw [q]; exact ⟨hen, fun k => (mem_del.1 k).2 rfl⟩
    · rintro ⟨q1, q2⟩
      rcases gone i q2 with s | s
      · exact .inr s
      · exact .inl ⟨q1, s.2⟩
  · obtain ⟨q1, q2⟩ := mem_del.1 k
    rw [po i q2]; exact R.lft i hi q1
  · rw [List.length_append, List.length_singleton]
    rcases gone i k with s | ⟨s, s2⟩
    · subst s
      rw [pe, if_pos rfl]
      refine ⟨by omega, by omega, by omega, .inl (mem_del.2 ⟨by rw [Int.toNat_natCast]; exact h2, by rw [Int.toNat_natCast]; exact h3.symm⟩)⟩
    · obtain ⟨g1, g2, g3, g4⟩ := R.gon i hi s2
      rw [po i s, if_neg s]
      refine ⟨g1, g2, by omega, ?_⟩
      by_cases c : (pa par i).toNat = e
      · rw [if_pos c]; exact .inr g3
      · rw [if_neg c]
        rcases g4 with g4 | g4
        · exact .inl (mem_del.2 ⟨g4, c⟩)
        · exact .inr g4
  · rcases gone i k1 with s | ⟨s, s2⟩
    · rcases gone j k2 with t | ⟨t, t2⟩
      · rw [s, t]
      · rw [if_pos s, if_neg t] at hr
        have := (R.gon j hj t2).2.2.1; omega
    · rcases gone j k2 with t | ⟨t, t2⟩
      · rw [if_neg s, if_pos t] at hr
        have := (R.gon i hi s2).2.2.1; omega
      · rw [if_neg s, if_neg t] at hr
        exact R.inj i j hi hj s2 t2 hr
  · rcases gone i k with s | ⟨s, s2⟩
    · subst s
      rw [pe, Int.toNat_natCast] at hp
      intro hkv
      rcases hmm with q | q
      · obtain ⟨q1, q2⟩ := mem_del.1 q
        exact hp (h4 v hv ⟨m, q1, q2, hkv⟩)
      · rw [if_pos rfl] at q
        by_cases c : m = i
        · rw [if_pos c] at q; omega
        · rw [if_neg c] at q
          by_cases ml : mem' L m
          · exact hp (h4 v hv ⟨m, ml, c, hkv⟩)
          · have := (R.gon m hm ml).2.2.1; omega
    · rw [po i s] at hp
      refine R.conn v i hi s2 hv hp m hm ?_
      rcases hmm with q | q
      · exact .inl (mem_del.1 q).1
      · rw [if_neg s] at q
        by_cases c : m = e
        · rw [c]; exact .inl h1
        · rw [if_neg c] at q; exact .inr q
theorem run_tree {V : Nat → Nat → Prop} {n L : Nat} {par : List Int} {rk : Nat → Nat} {rem : List Nat} (R : Run V n L par rk rem) (hs : ∀ i j, mem' L i → mem' L j → i = j) : IsTree V n par := by
  obtain ⟨r, hr⟩ := R.some
  have hcn := R.cnt
  have cl : ∀ m i, i < n → ¬ mem' L i → rem.length - rk i ≤ m → Climb par (m + 1) i := by
    intro m
    induction m with
    | zero => intro i hi hl hm; have := (R.gon i hi hl).2.2.1; omega
    | succ m ih =>
      intro i hi hl hm
      obtain ⟨g1, g2, g3, g4⟩ := R.gon i hi hl
      refine .inr ⟨g1, ?_⟩
      have hp : (pa par i).toNat < n := by omega
      by_cases c : mem' L (pa par i).toNat
      · exact .inl (R.lft _ hp c)
      · rcases g4 with g4 | g4
        · exact absurd g4 c
        · exact ih _ hp c (by omega)
  refine ⟨R.len, fun i hi => ?_, ⟨r, R.sub r hr, R.lft r (R.sub r hr) hr, fun i hi hp => ?_⟩, fun i hi => ?_, fun v _ i j hi hj => ?_⟩
  · by_cases c : mem' L i
    · rw [R.lft i hi c]; omega
    · have := R.gon i hi c; omega
  · by_cases c : mem' L i
    · exact hs i r c hr
    · have := R.gon i hi c; omega
  · by_cases c : mem' L i
    · exact climb_mono (k := 1) (.inl (R.lft i hi c)) (by omega)
    · exact climb_mono (cl (rem.length) i hi c (by omega)) (by omega)
  · have tp : ∀ i, Top V n par v i → ¬ mem' L i → ¬ V (pa par i).toNat v := fun i hi c k => hi.2.2 ⟨(R.gon i hi.1 c).1, k⟩
    by_cases ci : mem' L i
    · by_cases cj : mem' L j
      · exact hs i j ci cj
      · exact absurd hi.2.1 (R.conn v j hj.1 cj hj.2.1 (tp j hj cj) i hi.1 (.inl ci))
    · by_cases cj : mem' L j
      · exact absurd hj.2.1 (R.conn v i hi.1 ci hi.2.1 (tp i hi ci) j hj.1 (.inl cj))
      · rcases Nat.lt_trichotomy (rk i) (rk j) with q | q | q
        · exact absurd hj.2.1 (R.conn v i hi.1 ci hi.2.1 (tp i hi ci) j hj.1 (.inr q))
        · exact R.inj i j hi.1 hj.1 ci cj q
        · exact absurd hi.2.1 (R.conn v j hj.1 cj hj.2.1 (tp j hj cj) i hi.1 (.inr q))
/-! ### the steps, each with the last ear -/
def LastEar (V : Nat → Nat → Prop) (L e : Nat) : Prop := (∃ h, EarP V (mem' L) e h) ∧ ∀ e' h', EarP V (mem' L) e' h' → e' ≤ e
theorem lastEar_same {V : Nat → Nat → Prop} {L e f : Nat} (h : LastEar V L e) (k : LastEar V L f) : e = f := by
  obtain ⟨⟨x, hx⟩, h2⟩ := h
  obtain ⟨⟨y, hy⟩, k2⟩ := k
  have := h2 f y hy
  have := k2 e x hx
  omega
inductive Reach (V : Nat → Nat → Prop) (A : Nat) : Nat → Prop
  | refl : Reach V A A
  | step {L e : Nat} (h : Reach V A L) (k : LastEar V L e) : Reach V A (ndiff L (2 ^ e))
/-- no ear is left -/
def Done (V : Nat → Nat → Prop) (L : Nat) : Prop := ∀ e h, ¬ EarP V (mem' L) e h
theorem reach_front {V : Nat → Nat → Prop} {A e M : Nat} (k : LastEar V A e) (h : Reach V (ndiff A (2 ^ e)) M) : Reach V A M := by
  induction h with
  | refl => exact .step .refl k
  | step _ k2 ih => exact .step ih k2
theorem reach_cases {V : Nat → Nat → Prop} {A M : Nat} (h : Reach V A M) : M = A ∨ ∃ e, LastEar V A e ∧ Reach V (ndiff A (2 ^ e)) M := by
  induction h with
  | refl => exact .inl rfl
  | @step L e h k ih =>
    rcases ih with rfl | ⟨f, f1, f2⟩
    · exact .inr ⟨e, k, .refl⟩
    · exact .inr ⟨f, f1, .step f2 k⟩
theorem reach_det {V : Nat → Nat → Prop} : ∀ (m A B C : Nat), A ≤ m → Reach V A B → Done V B → Reach V A C → Done V C → B = C := by
  intro m
  induction m with
  | zero =>
    intro A B C hA hB dB hC dC
    have z : ∀ e, ¬ LastEar V A e := fun e k => by
      obtain ⟨⟨h, k1, _⟩, _⟩ := k
      have : A = 0 := by omega
      rw [this] at k1
      simp [mem'] at k1
    rcases reach_cases hB with h | ⟨e, h, _⟩
    · rcases reach_cases hC with k | ⟨e, k, _⟩
      · rw [h, k]
      · exact absurd k (z e)
    · exact absurd h (z e)
  | succ m ih =>
    intro A B C hA hB dB hC dC
    rcases reach_cases hB with h | ⟨e, h, hB2⟩
    · rcases reach_cases hC with k | ⟨f, k, _⟩
      · rw [h, k]
      · rw [h] at dB
        obtain ⟨⟨y, hy⟩, _⟩ := k
        exact absurd hy (dB f y)
    · rcases reach_cases hC with k | ⟨f, k, hC2⟩
      · rw [k] at dC
        obtain ⟨⟨y, hy⟩, _⟩ := h
        exact absurd hy (dC e y)
      · obtain rfl := lastEar_same h k
        refine ih _ B C ?_ hB2 dB hC2 dC
        have h1 := ndiff_le A (2 ^ e)
        rcases Nat.lt_or_ge (ndiff A (2 ^ e)) A with q | q
        · omega
        · exfalso
          have e2 : ndiff A (2 ^ e) = A := by omega
          obtain ⟨⟨y, hy⟩, _⟩ := h
          have := hy.1
          rw [← e2] at this
          exact (mem_del.1 this).2 rfl
theorem reach_acy {V : Nat → Nat → Prop} {A M : Nat} (h : Reach V A M) (a : Acy V (mem' A)) : Acy V (mem' M) := by
  induction h with
  | refl => exact a
  | @step L e _ k ih =>
    obtain ⟨⟨y, hy⟩, _⟩ := k
    exact acy_ext (acy_del ih e y hy) fun x => mem_del.symm
/-- one is left of what is acyclic -/
theorem done_one {V : Nat → Nat → Prop} {M : Nat} (d : Done V M) (a : Acy V (mem' M)) : ∀ i j, mem' M i → mem' M j → i = j := fun i j hi hj => by
  apply Classical.byContradiction
  intro hne
  obtain ⟨e, h, k⟩ := acy_has a hi hj hne
  exact d e h k
/-- what can be taken away to one is acyclic -/
theorem reach_back {V : Nat → Nat → Prop} {A M : Nat} (h : Reach V A M) (a : Acy V (mem' M)) : Acy V (mem' A) := by
  induction h with
  | refl => exact a
  | @step L e _ k ih =>
    obtain ⟨⟨y, y1, y2, y3, y4⟩, _⟩ := k
    exact ih (.ear y1 y2 y3 y4 (acy_ext a fun x => mem_del))
theorem one_bit' : ∀ L : Fin 32, 0 < L.val → ((L.val &&& (L.val - 1) = 0) ↔ ∀ i j : Fin 5, L.val.testBit i.val = true → L.val.testBit j.val = true → i = j) := by decide
theorem one_bit {L : Nat} (h : L < 32) (h0 : 0 < L) : (L &&& (L - 1) = 0) ↔ ∀ i j, mem' L i → mem' L j → i = j := by
  have lt : ∀ i, mem' L i → i < 5 := fun i hi => by
    rcases Nat.lt_or_ge i 5 with q | q
    · exact q
    · have : L < 2 ^ i := Nat.lt_of_lt_of_le h (Nat.pow_le_pow_right (n := 2) (by decide) q)
      have := Nat.testBit_lt_two_pow this
      unfold mem' at hi
      rw [this] at hi; cases hi
  refine (one_bit' ⟨L, h⟩ h0).trans ⟨fun k i j hi hj => ?_, fun k i j hi hj => ?_⟩
  · have := k ⟨i, lt i hi⟩ ⟨j, lt j hj⟩ hi hj
    exact congrArg Fin.val this
  · exact Fin.ext (k i.val j.val hi hj)
#print axioms run_step
#print axioms run_tree
#print axioms reach_det
#print axioms one_bit
end Go.Proofs.Ytfplmdieeabgpaa
