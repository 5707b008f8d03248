/- Math: ears, what is left when they are taken away, join trees. -/
import Derived.Test.YtfplmdieeabgpaaBase
import Derived.Test.YtfplmdieeabgpaaMq
namespace Go.Proofs.Ytfplmdieeabgpaa
open Go.RowKit
/-- all can be taken away but one, ear by ear -/
inductive Acy (V : Nat → Nat → Prop) : (Nat → Prop) → Prop
  | one {L : Nat → Prop} (h : ∀ i j, L i → L j → i = j) : Acy V L
  | ear {L : Nat → Prop} {e h : Nat} (h1 : L e) (h2 : L h) (h3 : e ≠ h) (h4 : ∀ v, V e v → (∃ k, L k ∧ k ≠ e ∧ V k v) → V h v) (h5 : Acy V (fun x => L x ∧ x ≠ e)) : Acy V L
/-- e is an ear, h its host -/
def EarP (V : Nat → Nat → Prop) (L : Nat → Prop) (e h : Nat) : Prop := L e ∧ L h ∧ e ≠ h ∧ ∀ v, V e v → (∃ k, L k ∧ k ≠ e ∧ V k v) → V h v
theorem acy_ext {V : Nat → Nat → Prop} {L M : Nat → Prop} (h : Acy V L) (e : ∀ x, L x ↔ M x) : Acy V M := by
  have : L = M := funext fun x => propext (e x)
  rw [← this]; exact h
theorem acy_swap {V : Nat → Nat → Prop} {L : Nat → Prop} (h : Acy V L) : ∀ (L' M : Nat → Prop) (e f : Nat), (∀ x, L x ↔ L' x ∨ x = e) → (∀ x, M x ↔ L' x ∨ x = f) → ¬ L' e → ¬ L' f → (∀ v, (∃ k, L' k ∧ V k v) → (V e v ↔ V f v)) → Acy V M := by
  induction h with
  | one h =>
    intro L' M e f hL hM he hf hv
    have no : ∀ x, ¬ L' x := fun x hx => he (by have := h x e ((hL x).2 (.inl hx)) ((hL e).2 (.inr rfl)); rwa [this] at hx)
    refine .one fun i j hi hj => ?_
    rcases (hM i).1 hi with h1 | h1
    · exact absurd h1 (no i)
    · rcases (hM j).1 hj with h2 | h2
      · exact absurd h2 (no j)
      · rw [h1, h2]
  | @ear L x y h1 h2 h3 h4 h5 ih =>
    intro L' M e f hL hM he hf hv
    by_cases hx : x = e
    · subst hx
      have hy : L' y := by
        rcases (hL y).1 h2 with k | k
        · exact k
        · exact absurd k.symm h3
      refine .ear (e := f) (h := y) ((hM f).2 (.inr rfl)) ((hM y).2 (.inl hy)) (fun k => hf (by rw [k]; exact hy)) (fun v hfv hk => ?_) (acy_ext h5 fun z => ?_)
      · obtain ⟨k, k1, k2, k3⟩ := hk
        have kl : L' k := by
          rcases (hM k).1 k1 with q | q
          · exact q
          · exact absurd q k2
        exact h4 v ((hv v ⟨k, kl, k3⟩).2 hfv) ⟨k, (hL k).2 (.inl kl), fun q => he (by rw [← q]; exact kl), k3⟩
      · rw [hL, hM]
        constructor
        · rintro ⟨q | q, r⟩
          · exact ⟨.inl q, fun s => hf (by rw [← s]; exact q)⟩
          · exact absurd q r
        · rintro ⟨q | q, r⟩
          · exact ⟨.inl q, fun s => he (by rw [← s]; exact q)⟩
          · exact absurd q r
    · have hx' : L' x := by
        rcases (hL x).1 h1 with k | k
        · exact k
        · exact absurd k hx
      have hxf : x ≠ f := fun k => hf (by rw [← k]; exact hx')
      have hsub : Acy V (fun z => M z ∧ z ≠ x) := by
        refine ih (fun z => L' z ∧ z ≠ x) _ e f (fun z => ?_) (fun z => ?_) (fun k => he k.1) (fun k => hf k.1) fun v hk => ?_
        · show (L z ∧ z ≠ x) ↔ _
          rw [hL]
          constructor
          · rintro ⟨q | q, r⟩
            · exact .inl ⟨q, r⟩
            · exact .inr q
          · rintro (⟨q, r⟩ | q)
            · exact ⟨.inl q, r⟩
            · exact ⟨.inr q, by rw [q]; exact fun s => hx s.symm⟩
        · show (M z ∧ z ≠ x) ↔ _
          rw [hM]
          constructor
          · rintro ⟨q | q, r⟩
            · exact .inl ⟨q, r⟩
            · exact .inr q
          · rintro (⟨q, r⟩ | q)
            · exact ⟨.inl q, r⟩
            · exact ⟨.inr q, by rw [q]; exact fun s => hxf s.symm⟩
        · obtain ⟨k, k1, k2⟩ := hk
          exact hv v ⟨k, k1.1, k2⟩
      have hce : ∀ v, V x v → (V e v ↔ V f v) := fun v h => hv v ⟨x, hx', h⟩
      have key : ∀ v, V x v → (∃ k, M k ∧ k ≠ x ∧ V k v) → V y v := fun v hxv hk => by
        obtain ⟨k, k1, k2, k3⟩ := hk
        rcases (hM k).1 k1 with q | q
        · exact h4 v hxv ⟨k, (hL k).2 (.inl q), k2, k3⟩
        · rw [q] at k3
          exact h4 v hxv ⟨e, (hL e).2 (.inr rfl), fun s => hx s.symm, (hce v hxv).2 k3⟩
      by_cases hy : y = e
      · refine .ear (e := x) (h := f) ((hM x).2 (.inl hx')) ((hM f).2 (.inr rfl)) hxf (fun v hxv hk => (hce v hxv).1 ?_) hsub
        rw [← hy]; exact key v hxv hk
      · have hy' : L' y := by
          rcases (hL y).1 h2 with k | k
          · exact k
          · exact absurd k hy
        exact .ear (e := x) (h := y) ((hM x).2 (.inl hx')) ((hM y).2 (.inl hy')) h3 key hsub
/-- any ear may be taken away -/
theorem acy_del {V : Nat → Nat → Prop} {L : Nat → Prop} (h : Acy V L) : ∀ e h, EarP V L e h → Acy V (fun x => L x ∧ x ≠ e) := by
  induction h with
  | one h => exact fun e f k => absurd (h e f k.1 k.2.1) k.2.2.1
  | @ear L f g h1 h2 h3 h4 h5 ih =>
    intro e h ⟨k1, k2, k3, k4⟩
    by_cases hef : e = f
    · subst hef; exact h5
    · by_cases tw : h = f ∧ g = e
      · obtain ⟨rfl, rfl⟩ := tw
        refine acy_swap h5 (fun x => (L x ∧ x ≠ h) ∧ x ≠ g) _ g h (fun x => ?_) (fun x => ?_) (fun k => k.2 rfl) (fun k => k.1.2 rfl) fun v hk => ?_
        · constructor
          · rintro ⟨q, r⟩
            by_cases s : x = g
            · exact .inr s
            · exact .inl ⟨⟨q, r⟩, s⟩
          · rintro (⟨q, _⟩ | q)
            · exact q
            · rw [q]; exact ⟨h2, h3.symm⟩
        · constructor
          · rintro ⟨q, r⟩
            by_cases s : x = h
            · exact .inr s
            · exact .inl ⟨⟨q, s⟩, r⟩
          · rintro (⟨q, r⟩ | q)
            · exact ⟨q.1, r⟩
            · rw [q]; exact ⟨h1, h3⟩
        · obtain ⟨k, ⟨⟨q1, q2⟩, q3⟩, q4⟩ := hk
          exact ⟨fun s => k4 v s ⟨k, q1, q3, q4⟩, fun s => h4 v s ⟨k, q1, q2, q4⟩⟩
      · have n1 : ∃ h', EarP V (fun x => L x ∧ x ≠ f) e h' := by
          by_cases hh : h = f
          · subst hh
            refine ⟨g, ⟨k1, hef⟩, ⟨h2, h3.symm⟩, fun s => tw ⟨rfl, s.symm⟩, fun v s hk => ?_⟩
            obtain ⟨k, ⟨q1, q2⟩, q3, q4⟩ := hk
            exact h4 v (k4 v s ⟨k, q1, q3, q4⟩) ⟨k, q1, q2, q4⟩
          · refine ⟨h, ⟨k1, hef⟩, ⟨k2, hh⟩, k3, fun v s hk => ?_⟩
            obtain ⟨k, ⟨q1, q2⟩, q3, q4⟩ := hk
            exact k4 v s ⟨k, q1, q3, q4⟩
        have n2 : ∃ g', EarP V (fun x => L x ∧ x ≠ e) f g' := by
          by_cases hg : g = e
          · subst hg
            have hh : h ≠ f := fun s => tw ⟨s, rfl⟩
            refine ⟨h, ⟨h1, fun s => hef s.symm⟩, ⟨k2, k3.symm⟩, fun s => hh s.symm, fun v s hk => ?_⟩
            obtain ⟨k, ⟨q1, q2⟩, q3, q4⟩ := hk
            exact k4 v (h4 v s ⟨k, q1, q3, q4⟩) ⟨k, q1, q2, q4⟩
          · refine ⟨g, ⟨h1, fun s => hef s.symm⟩, ⟨h2, hg⟩, h3, fun v s hk => ?_⟩
            obtain ⟨k, ⟨q1, q2⟩, q3, q4⟩ := hk
            exact h4 v s ⟨k, q1, q3, q4⟩
        obtain ⟨h', n1⟩ := n1
        obtain ⟨g', m1, m2, m3, m4⟩ := n2
        exact .ear m1 m2 m3 m4 (acy_ext (ih e h' n1) fun x => ⟨fun q => ⟨⟨q.1.1, q.2⟩, q.1.2⟩, fun q => ⟨⟨q.1.1, q.2⟩, q.1.2⟩⟩)
theorem acy_has {V : Nat → Nat → Prop} {L : Nat → Prop} (h : Acy V L) {a b : Nat} (ha : L a) (hb : L b) (hab : a ≠ b) : ∃ e h, EarP V L e h := by
  cases h with
  | one h => exact absurd (h a b ha hb) hab
  | ear h1 h2 h3 h4 _ => exact ⟨_, _, h1, h2, h3, h4⟩
/-- fewer variables -/
theorem acy_vars {V : Nat → Nat → Prop} (X : Nat → Prop) {L : Nat → Prop} (h : Acy V L) : Acy (fun i v => V i v ∧ X v) L := by
  induction h with
  | one h => exact .one h
  | ear h1 h2 h3 h4 _ ih =>
    refine .ear h1 h2 h3 (fun v hv hk => ?_) ih
    obtain ⟨k, k1, k2, k3⟩ := hk
    exact ⟨h4 v hv.1 ⟨k, k1, k2, k3.1⟩, hv.2⟩
/-! ### parents -/
def pa (par : List Int) (i : Nat) : Int := par.getD i 0
/-- i leads to a root within k steps -/
def Climb (par : List Int) : Nat → Nat → Prop
  | 0, _ => False
  | k + 1, i => pa par i = -1 ∨ (0 ≤ pa par i ∧ Climb par k (pa par i).toNat)
theorem climb_mono {par : List Int} : ∀ {k m i : Nat}, Climb par k i → k ≤ m → Climb par m i
  | 0, _, _, h, _ => h.elim
  | _ + 1, 0, _, _, h => by omega
  | k + 1, m + 1, i, h, hm => by
    rcases h with h | ⟨h1, h2⟩
    · exact .inl h
    · exact .inr ⟨h1, climb_mono h2 (by omega)⟩
/-- how far it is to a root -/
def dep (par : List Int) : Nat → Nat → Nat
  | 0, _ => 0
  | k + 1, i => if pa par i = -1 then 0 else 1 + dep par k (pa par i).toNat
theorem dep_mono {par : List Int} : ∀ {k m i : Nat}, Climb par k i → k ≤ m → dep par m i = dep par k i
  | 0, _, _, h, _ => h.elim
  | _ + 1, 0, _, _, h => by omega
  | k + 1, m + 1, i, h, hm => by
    unfold dep
    rcases h with h | ⟨h1, h2⟩
    · rw [if_pos h, if_pos h]
    · by_cases c : pa par i = -1
      · rw [if_pos c, if_pos c]
      · rw [if_neg c, if_neg c, dep_mono h2 (by omega)]
/-- i is a top of v: it has v, its parent hasn't -/
def Top (V : Nat → Nat → Prop) (n : Nat) (par : List Int) (v i : Nat) : Prop := i < n ∧ V i v ∧ ¬ (0 ≤ pa par i ∧ V (pa par i).toNat v)
structure IsTree (V : Nat → Nat → Prop) (n : Nat) (par : List Int) : Prop where
  len : par.length = n
  rng : ∀ i, i < n → -1 ≤ pa par i ∧ pa par i < n
  root : ∃ r, r < n ∧ pa par r = -1 ∧ ∀ i, i < n → pa par i = -1 → i = r
  up : ∀ i, i < n → Climb par n i
  conn : ∀ v, v < 8 → ∀ i j, Top V n par v i → Top V n par v j → i = j
theorem max_list {d : Nat → Nat} : ∀ {l : List Nat}, l ≠ [] → ∃ i, i ∈ l ∧ ∀ k, k ∈ l → d k ≤ d i
  | [], h => absurd rfl h
  | [x], _ => ⟨x, by simp, fun k hk => by simp at hk; rw [hk]; exact Nat.le_refl _⟩
  | x :: y :: l, _ => by
    obtain ⟨i, h1, h2⟩ := max_list (d := d) (l := y :: l) (by simp)
    by_cases c : d i ≤ d x
    · exact ⟨x, by simp, fun k hk => by
        rcases List.mem_cons.1 hk with rfl | hk
        · exact Nat.le_refl _
        · exact Nat.le_trans (h2 k hk) c⟩
    · exact ⟨i, List.mem_cons_of_mem _ h1, fun k hk => by
        rcases List.mem_cons.1 hk with rfl | hk
        · omega
        · exact h2 k hk⟩
/-- the atoms of a tree can be taken away, the deepest one first -/
theorem tree_acy {V : Nat → Nat → Prop} {n : Nat} {par : List Int} (hV : ∀ i v, V i v → v < 8) (T : IsTree V n par) : Acy V (fun i => i < n) := by
  obtain ⟨r, hr, hr1, hr2⟩ := T.root
  have hd : ∀ i, i < n → pa par i ≠ -1 → 0 ≤ pa par i ∧ (pa par i).toNat < n ∧ dep par n (pa par i).toNat < dep par n i := fun i hi hne => by
    have h1 := T.rng i hi
    have h2 := T.up i hi
    refine ⟨by omega, by omega, ?_⟩
    cases n with
    | zero => omega
    | succ m =>
      rcases h2 with h2 | ⟨h2, h3⟩
      · exact absurd h2 hne
      · have e := dep_mono (m := m + 1) h3 (by omega)
        rw [e]
        show _ < (if pa par i = -1 then 0 else 1 + dep par m (pa par i).toNat)
        rw [if_neg hne]; omega
  have top : ∀ m k v, k < n → V k v → dep par n k ≤ m → ∃ t, Top V n par v t ∧ (t = k ∨ dep par n t < dep par n k) := by
    intro m
    induction m with
    | zero =>
      intro k v hk hv hm
      refine ⟨k, ⟨hk, hv, fun c => ?_⟩, .inl rfl⟩
      have := (hd k hk (by omega)).2.2
      omega
    | succ m ih =>
      intro k v hk hv hm
      by_cases c : 0 ≤ pa par k ∧ V (pa par k).toNat v
      · obtain ⟨h1, h2, h3⟩ := hd k hk (by omega)
        obtain ⟨t, t1, t2⟩ := ih (pa par k).toNat v h2 c.2 (by omega)
        refine ⟨t, t1, .inr ?_⟩
        rcases t2 with t2 | t2
        · rw [t2]; exact h3
        · omega
      · exact ⟨k, ⟨hk, hv, c⟩, .inl rfl⟩
  have main : ∀ m (l : List Nat), l.length ≤ m → (∀ i, i ∈ l → i < n) → (∀ i, i ∈ l → 0 ≤ pa par i → (pa par i).toNat ∈ l) → Acy V (fun i => i ∈ l) := by
    intro m
    induction m with
    | zero =>
      intro l hl _ _
      have : l = [] := List.eq_nil_of_length_eq_zero (by omega)
      subst this
      exact .one fun i j hi _ => absurd hi (by simp)
    | succ m ih =>
      intro l hl hn hc
      by_cases hl0 : l = []
      · subst hl0
        exact .one fun i j hi _ => absurd hi (by simp)
      · obtain ⟨i, hi, hmax⟩ := max_list (d := dep par n) hl0
        by_cases hroot : pa par i = -1
        · have d0 : dep par n i = 0 := by
            cases n with
            | zero => rfl
            | succ n => show (if pa par i = -1 then 0 else _) = 0; rw [if_pos hroot]
          have all : ∀ k, k ∈ l → k = r := fun k hk => by
            by_cases c : pa par k = -1
            · exact hr2 k (hn k hk) c
            · have := (hd k (hn k hk) c).2.2
              have := hmax k hk
              omega
          exact .one fun a b ha hb => by rw [all a ha, all b hb]
        · obtain ⟨p1, p2, p3⟩ := hd i (hn i hi) hroot
          have hj := hc i hi p1
          refine .ear hi hj (fun s => ?_) (fun v hv hk => ?_) (acy_ext (ih (l.filter (· ≠ i)) ?_ (fun k hk => hn k (List.mem_filter.1 hk).1) fun k hk hp => ?_) fun x => by simp)
          · rw [← s] at p3; omega
          · obtain ⟨k, k1, k2, k3⟩ := hk
            apply Classical.byContradiction
            intro hno
            obtain ⟨t, t1, t2⟩ := top _ k v (hn k k1) k3 (Nat.le_refl _)
            have e : t = i := T.conn v (hV i v hv) t i t1 ⟨hn i hi, hv, fun c => hno c.2⟩
            rw [e] at t2
            rcases t2 with t2 | t2
            · exact k2 t2.symm
            · have := hmax k k1; omega
          · have : (l.filter (· ≠ i)).length < l.length := by
              rcases Nat.lt_or_ge (l.filter (· ≠ i)).length l.length with h | h
              · exact h
              · have e := List.filter_eq_self.1 ((List.filter_sublist (l := l) (p := (· ≠ i))).eq_of_length_le h) i hi
                simp at e
            omega
          · obtain ⟨k1, k2⟩ := List.mem_filter.1 hk
            refine List.mem_filter.2 ⟨hc k k1 hp, ?_⟩
            have h1 := (hd k (hn k k1) (by omega)).2.2
            have h2 := hmax k k1
            simp only [decide_not, Bool.not_eq_eq_eq_not, Bool.not_true, decide_eq_false_iff_not, ne_eq]
            intro s
            rw [s] at h1; omega
  refine acy_ext (main n (List.range n) (by simp) (fun i hi => List.mem_range.1 hi) fun i hi hp => ?_) fun x => List.mem_range
  exact List.mem_range.2 (by have := T.rng i (List.mem_range.1 hi); omega)
#print axioms tree_acy
#print axioms acy_del
end Go.Proofs.Ytfplmdieeabgpaa
