/- Math: ears, what is left when they are taken away, join trees. Math: the run that takes ears away, and its tree. -/
import Derived.Test.YtfplmdieeabgpaaBase
import Derived.Test.YtfplmdieeabgpaaMq
namespace Go.Proofs.Ytfplmdieeabgpaa
open Go.RowKit
/-- all can be taken away but one, ear by ear -/
inductive Acy (V : Nat → Nat → Prop) : (Nat → Prop) → Prop
  | one {L : Nat → Prop} (h : ∀ i j, L i → L j → i = j) : Acy V L
  | ear {L : Nat → Prop} {e h : Nat} (h1 : L e) (h2 : L h) (h3 : e ≠ h) (h4 : ∀ v, V e v → (∃ k, L k ∧ k ≠ e ∧ V k v) → V h v) (h5 : Acy V (fun x => L x ∧ x ≠ e)) : Acy V L
/-- e is an ear, h its host -/
def EarP (V : Nat → Nat → Prop) (L : Nat → Prop) (e h : Nat) : Prop := L e ∧ L h ∧ e ≠ h ∧ ∀ v, V e v → (∃ k, L k ∧ k ≠ e ∧ V k v) → V h v
theorem acy_ext {V : Nat → Nat → Prop} {L M : Nat → Prop} (h : Acy V L) (e : ∀ x, L x ↔ M x) : Acy V M := by
  have : L = M := funext fun x => propext (e x)
  rw [← this]; exact h
theorem acy_swap {V : Nat → Nat → Prop} {L : Nat → Prop} (h : Acy V L) : ∀ (L' M : Nat → Prop) (e f : Nat), (∀ x, L x ↔ L' x ∨ x = e) → (∀ x, M x ↔ L' x ∨ x = f) → ¬ L' e → ¬ L' f → (∀ v, (∃ k, L' k ∧ V k v) → (V e v ↔ V f v)) → Acy V M := by
  induction h with
  | one h =>
    intro L' M e f hL hM he hf hv
    have no : ∀ x, ¬ L' x := fun x hx => he (by have := h x e ((hL x).2 (.inl hx)) ((hL e).2 (.inr rfl)); rwa [this] at hx)
    refine .one fun i j hi hj => ?_
    rcases (hM i).1 hi with h1 | h1
    · exact absurd h1 (no i)
    · rcases (hM j).1 hj with h2 | h2
      · exact absurd h2 (no j)
      · rw [h1, h2]
  | @ear L x y h1 h2 h3 h4 h5 ih =>
    intro L' M e f hL hM he hf hv
    by_cases hx : x = e
    · subst hx
      have hy : L' y := by
        rcases (hL y).1 h2 with k | k
        · exact k
        · exact absurd k.symm h3
      refine .ear (e := f) (h := y) ((hM f).2 (.inr rfl)) ((hM y).2 (.inl hy)) (fun k => hf (by rw [k]; exact hy)) (fun v hfv hk => ?_) (acy_ext h5 fun z => ?_)
      · obtain ⟨k, k1, k2, k3⟩ := hk
        have kl : L' k := by
          rcases (hM k).1 k1 with q | q
          · exact q
          · exact absurd q k2
        exact h4 v ((hv v ⟨k, kl, k3⟩).2 hfv) ⟨k, (hL k).2 (.inl kl), fun q => he (by rw [← q]; exact kl), k3⟩
      · rw [hL, hM]
        constructor
        · rintro ⟨q | q, r⟩
          · exact ⟨.inl q, fun s => hf (by rw [← s]; exact q)⟩
          · exact absurd q r
        · rintro ⟨q | q, r⟩
          · exact ⟨.inl q, fun s => he (by rw [← s]; exact q)⟩
          · exact absurd q r
    · have hx' : L' x := by
        rcases (hL x).1 h1 with k | k
        · exact k
        · exact absurd k hx
      have hxf : x ≠ f := fun k => hf (by rw [← k]; exact hx')
      have hsub : Acy V (fun z => M z ∧ z ≠ x) := by
        refine ih (fun z => L' z ∧ z ≠ x) _ e f (fun z => ?_) (fun z => ?_) (fun k => he k.1) (fun k => hf k.1) fun v hk => ?_
        · show (L z ∧ z ≠ x) ↔ _
          rw [hL]
          constructor
          · rintro ⟨q | q, r⟩
            · exact .inl ⟨q, r⟩
            · exact .inr q
          · rintro (⟨q, r⟩ | q)
            · exact ⟨.inl q, r⟩
            · exact ⟨.inr q, by rw [q]; exact fun s => hx s.symm⟩
        · show (M z ∧ z ≠ x) ↔ _
          rw [hM]
          constructor
          · rintro ⟨q | q, r⟩
            · exact .inl ⟨q, r⟩
            · exact .inr q
          · rintro (⟨q, r⟩ | q)
            · exact ⟨.inl q, r⟩
            · exact ⟨.inr q, by rw [q]; exact fun s => hxf s.symm⟩
        · obtain ⟨k, k1, k2⟩ := hk
          exact hv v ⟨k, k1.1, k2⟩
      have hce : ∀ v, V x v → (V e v ↔ V f v) := fun v h => hv v ⟨x, hx', h⟩
      have key : ∀ v, V x v → (∃ k, M k ∧ k ≠ x ∧ V k v) → V y v := fun v hxv hk => by
        obtain ⟨k, k1, k2, k3⟩ := hk
        rcases (hM k).1 k1 with q | q
        · exact h4 v hxv ⟨k, (hL k).2 (.inl q), k2, k3⟩
        · rw [q] at k3
          exact h4 v hxv ⟨e, (hL e).2 (.inr rfl), fun s => hx s.symm, (hce v hxv).2 k3⟩
      by_cases hy : y = e
      · refine .ear (e := x) (h := f) ((hM x).2 (.inl hx')) ((hM f).2 (.inr rfl)) hxf (fun v hxv hk => (hce v hxv).1 ?_) hsub
        rw [← hy]; exact key v hxv hk
      · have hy' : L' y := by
          rcases (hL y).1 h2 with k | k
          · exact k
          · exact absurd k hy
        exact .ear (e := x) (h := y) ((hM x).2 (.inl hx')) ((hM y).2 (.inl hy')) h3 key hsub
/-- any ear may be taken away -/
theorem acy_del {V : Nat → Nat → Prop} {L : Nat → Prop} (h : Acy V L) : ∀ e h, EarP V L e h → Acy V (fun x => L x ∧ x ≠ e) := by
  induction h with
  | one h => exact fun e f k => absurd (h e f k.1 k.2.1) k.2.2.1
  | @ear L f g h1 h2 h3 h4 h5 ih =>
    intro e h ⟨k1, k2, k3, k4⟩
    by_cases hef : e = f
    · subst hef; exact h5
    · by_cases tw : h = f ∧ g = e
      · obtain ⟨rfl, rfl⟩ := tw
        refine acy_swap h5 (fun x => (L x ∧ x ≠ h) ∧ x ≠ g) _ g h (fun x => ?_) (fun x => ?_) (fun k => k.2 rfl) (fun k => k.1.2 rfl) fun v hk => ?_
        · constructor
          · rintro ⟨q, r⟩
            by_cases s : x = g
            · exact .inr s
            · exact .inl ⟨⟨q, r⟩, s⟩
          · rintro (⟨q, _⟩ | q)
            · exact q
            · rw [q]; exact ⟨h2, h3.symm⟩
        · constructor
          · rintro ⟨q, r⟩
            by_cases s : x = h
            · exact .inr s
            · exact .inl ⟨⟨q, s⟩, r⟩
          · rintro (⟨q, r⟩ | q)
            · exact ⟨q.1, r⟩
            · rw [q]; exact ⟨h1, h3⟩
        · obtain ⟨k, ⟨⟨q1, q2⟩, q3⟩, q4⟩ := hk
          exact ⟨fun s => k4 v s ⟨k, q1, q3, q4⟩, fun s => h4 v s ⟨k, q1, q2, q4⟩⟩
      · have n1 : ∃ h', EarP V (fun x => L x ∧ x ≠ f) e h' := by
          by_cases hh : h = f
          · subst hh
            refine ⟨g, ⟨k1, hef⟩, ⟨h2, h3.symm⟩, fun s => tw ⟨rfl, s.symm⟩, fun v s hk => ?_⟩
            obtain ⟨k, ⟨q1, q2⟩, q3, q4⟩ := hk
            exact h4 v (k4 v s ⟨k, q1, q3, q4⟩) ⟨k, q1, q2, q4⟩
          · refine ⟨h, ⟨k1, hef⟩, ⟨k2, hh⟩, k3, fun v s hk => ?_⟩
            obtain ⟨k, ⟨q1, q2⟩, q3, q4⟩ := hk
            exact k4 v s ⟨k, q1, q3, q4⟩
        have n2 : ∃ g', EarP V (fun x => L x ∧ x ≠ e) f g' := by
          by_cases hg : g = e
          · subst hg
            have hh : h ≠ f := fun s => tw ⟨s, rfl⟩
            refine ⟨h, ⟨h1, fun s => hef s.symm⟩, ⟨k2, k3.symm⟩, fun s => hh s.symm, fun v s hk => ?_⟩
            obtain ⟨k, ⟨q1, q2⟩, q3, q4⟩ := hk
            exact k4 v (h4 v s ⟨k, q1, q3, q4⟩) ⟨k, q1, q2, q4⟩
          · refine ⟨g, ⟨h1, fun s => hef s.symm⟩, ⟨h2, hg⟩, h3, fun v s hk => ?_⟩
            obtain ⟨k, ⟨q1, q2⟩, q3, q4⟩ := hk
            exact h4 v s ⟨k, q1, q3, q4⟩
        obtain ⟨h', n1⟩ := n1
        obtain ⟨g', m1, m2, m3, m4⟩ := n2
        exact .ear m1 m2 m3 m4 (acy_ext (ih e h' n1) fun x => ⟨fun q => ⟨⟨q.1.1, q.2⟩, q.1.2⟩, fun q => ⟨⟨q.1.1, q.2⟩, q.1.2⟩⟩)
theorem acy_has {V : Nat → Nat → Prop} {L : Nat → Prop} (h : Acy V L) {a b : Nat} (ha : L a) (hb : L b) (hab : a ≠ b) : ∃ e h, EarP V L e h := by
  cases h with
  | one h => exact absurd (h a b ha hb) hab
  | ear h1 h2 h3 h4 _ => exact ⟨_, _, h1, h2, h3, h4⟩
/-- fewer variables -/
theorem acy_vars {V : Nat → Nat → Prop} (X : Nat → Prop) {L : Nat → Prop} (h : Acy V L) : Acy (fun i v => V i v ∧ X v) L := by
  induction h with
  | one h => exact .one h
  | ear h1 h2 h3 h4 _ ih =>
    refine .ear h1 h2 h3 (fun v hv hk => ?_) ih
    obtain ⟨k, k1, k2, k3⟩ := hk
    exact ⟨h4 v hv.1 ⟨k, k1, k2, k3.1⟩, hv.2⟩
/-! ### parents -/
def pa (par : List Int) (i : Nat) : Int := par.getD i 0
/-- i leads to a root within k steps -/
def Climb (par : List Int) : Nat → Nat → Prop
  | 0, _ => False
  | k + 1, i => pa par i = -1 ∨ (0 ≤ pa par i ∧ Climb par k (pa par i).toNat)
theorem climb_mono {par : List Int} : ∀ {k m i : Nat}, Climb par k i → k ≤ m → Climb par m i
  | 0, _, _, h, _ => h.elim
  | _ + 1, 0, _, _, h => by omega
  | k + 1, m + 1, i, h, hm => by
    rcases h with h | ⟨h1, h2⟩
    · exact .inl h
    · exact .inr ⟨h1, climb_mono h2 (by omega)⟩
/-- how far it is to a root -/
def dep (par : List Int) : Nat → Nat → Nat
  | 0, _ => 0
  | k + 1, i => if pa par i = -1 then 0 else 1 + dep par k (pa par i).toNat
theorem dep_mono {par : List Int} : ∀ {k m i : Nat}, Climb par k i → k ≤ m → dep par m i = dep par k i
  | 0, _, _, h, _ => h.elim
  | _ + 1, 0, _, _, h => by omega
  | k + 1, m + 1, i, h, hm => by
    unfold dep
    rcases h with h | ⟨h1, h2⟩
    · rw [if_pos h, if_pos h]
    · by_cases c : pa par i = -1
      · rw [if_pos c, if_pos c]
      · rw [if_neg c, if_neg c, dep_mono h2 (by omega)]
/-- i is a top of v: it has v, its parent hasn't -/
def Top (V : Nat → Nat → Prop) (n : Nat) (par : List Int) (v i : Nat) : Prop := i < n ∧ V i v ∧ ¬ (0 ≤ pa par i ∧ V (pa par i).toNat v)
structure IsTree (V : Nat → Nat → Prop) (n : Nat) (par : List Int) : Prop where
  len : par.length = n
  rng : ∀ i, i < n → -1 ≤ pa par i ∧ pa par i < n
  root : ∃ r, r < n ∧ pa par r = -1 ∧ ∀ i, i < n → pa par i = -1 → i = r
  up : ∀ i, i < n → Climb par n i
  conn : ∀ v, v < 8 → ∀ i j, Top V n par v i → Top V n par v j → i = j
theorem max_list {d : Nat → Nat} : ∀ {l : List Nat}, l ≠ [] → ∃ i, i ∈ l ∧ ∀ k, k ∈ l → d k ≤ d i
  | [], h => absurd rfl h
  | [x], _ => ⟨x, by simp, fun k hk => by simp at hk; rw [hk]; exact Nat.le_refl _⟩
  | x :: y :: l, _ => by
    obtain ⟨i, h1, h2⟩ := max_list (d := d) (l := y :: l) (by simp)
    by_cases c : d i ≤ d x
    · exact ⟨x, by simp, fun k hk => by
        rcases List.mem_cons.1 hk with rfl | hk
        · exact Nat.le_refl _
        · exact Nat.le_trans (h2 k hk) c⟩
    · exact ⟨i, List.mem_cons_of_mem _ h1, fun k hk => by
        rcases List.mem_cons.1 hk with rfl | hk
        · omega
        · exact h2 k hk⟩
/-- the atoms of a tree can be taken away, the deepest one first -/
theorem tree_acy {V : Nat → Nat → Prop} {n : Nat} {par : List Int} (hV : ∀ i v, V i v → v < 8) (T : IsTree V n par) : Acy V (fun i => i < n) := by
  obtain ⟨r, hr, hr1, hr2⟩ := T.root
  have hd : ∀ i, i < n → pa par i ≠ -1 → 0 ≤ pa par i ∧ (pa par i).toNat < n ∧ dep par n (pa par i).toNat < dep par n i := fun i hi hne => by
    have h1 := T.rng i hi
    have h2 := T.up i hi
    refine ⟨by omega, by omega, ?_⟩
    cases n with
    | zero => omega
    | succ m =>
      rcases h2 with h2 | ⟨h2, h3⟩
      · exact absurd h2 hne
      · have e := dep_mono (m := m + 1) h3 (by omega)
        rw [e]
        show _ < (if pa par i = -1 then 0 else 1 + dep par m (pa par i).toNat)
        rw [if_neg hne]; omega
  have top : ∀ m k v, k < n → V k v → dep par n k ≤ m → ∃ t, Top V n par v t ∧ (t = k ∨ dep par n t < dep par n k) := by
    intro m
    induction m with
    | zero =>
      intro k v hk hv hm
      refine ⟨k, ⟨hk, hv, fun c => ?_⟩, .inl rfl⟩
      have := (hd k hk (by omega)).2.2
      omega
    | succ m ih =>
      intro k v hk hv hm
      by_cases c : 0 ≤ pa par k ∧ V (pa par k).toNat v
      · obtain ⟨h1, h2, h3⟩ := hd k hk (by omega)
        obtain ⟨t, t1, t2⟩ := ih (pa par k).toNat v h2 c.2 (by omega)
        refine ⟨t, t1, .inr ?_⟩
        rcases t2 with t2 | t2
        · rw [t2]; exact h3
        · omega
      · exact ⟨k, ⟨hk, hv, c⟩, .inl rfl⟩
  have main : ∀ m (l : List Nat), l.length ≤ m → (∀ i, i ∈ l → i < n) → (∀ i, i ∈ l → 0 ≤ pa par i → (pa par i).toNat ∈ l) → Acy V (fun i => i ∈ l) := by
    intro m
    induction m with
    | zero =>
      intro l hl _ _
      have : l = [] := List.eq_nil_of_length_eq_zero (by omega)
      subst this
      exact .one fun i j hi _ => absurd hi (by simp)
    | succ m ih =>
      intro l hl hn hc
      by_cases hl0 : l = []
      · subst hl0
        exact .one fun i j hi _ => absurd hi (by simp)
      · obtain ⟨i, hi, hmax⟩ := max_list (d := dep par n) hl0
        by_cases hroot : pa par i = -1
        · have d0 : dep par n i = 0 := by
            cases n with
            | zero => rfl
            | succ n => show (if pa par i = -1 then 0 else _) = 0; rw [if_pos hroot]
          have all : ∀ k, k ∈ l → k = r := fun k hk => by
            by_cases c : pa par k = -1
            · exact hr2 k (hn k hk) c
            · have := (hd k (hn k hk) c).2.2
              have := hmax k hk
              omega
          exact .one fun a b ha hb => by rw [all a ha, all b hb]
        · obtain ⟨p1, p2, p3⟩ := hd i (hn i hi) hroot
          have hj := hc i hi p1
          refine .ear hi hj (fun s => ?_) (fun v hv hk => ?_) (acy_ext (ih (l.filter (· ≠ i)) ?_ (fun k hk => hn k (List.mem_filter.1 hk).1) fun k hk hp => ?_) fun x => by simp)
          · rw [← s] at p3; omega
          · obtain ⟨k, k1, k2, k3⟩ := hk
            apply Classical.byContradiction
            intro hno
            obtain ⟨t, t1, t2⟩ := top _ k v (hn k k1) k3 (Nat.le_refl _)
            have e : t = i := T.conn v (hV i v hv) t i t1 ⟨hn i hi, hv, fun c => hno c.2⟩
            rw [e] at t2
            rcases t2 with t2 | t2
            · exact k2 t2.symm
            · have := hmax k k1; omega
          · have : (l.filter (· ≠ i)).length < l.length := by
              rcases Nat.lt_or_ge (l.filter (· ≠ i)).length l.length with h | h
              · exact h
              · have e := List.filter_eq_self.1 ((List.filter_sublist (l := l) (p := (· ≠ i))).eq_of_length_le h) i hi
                simp at e
            omega
          · obtain ⟨k1, k2⟩ := List.mem_filter.1 hk
            refine List.mem_filter.2 ⟨hc k k1 hp, ?_⟩
            have h1 := (hd k (hn k k1) (by omega)).2.2
            have h2 := hmax k k1
            simp only [decide_not, Bool.not_eq_eq_eq_not, Bool.not_true, decide_eq_false_iff_not, ne_eq]
            intro s
            rw [s] at h1; omega
  refine acy_ext (main n (List.range n) (by simp) (fun i hi => List.mem_range.1 hi) fun i hi hp => ?_) fun x => List.mem_range
  exact List.mem_range.2 (by have := T.rng i (List.mem_range.1 hi); omega)
#print axioms tree_acy
#print axioms acy_del
/-- the set of a number -/
def mem' (L : Nat) (i : Nat) : Prop := L.testBit i = true
theorem mem_del {L e i : Nat} : mem' (ndiff L (2 ^ e)) i ↔ mem' L i ∧ i ≠ e := by
  unfold mem'
  rw [testBit_ndiff, Nat.testBit_two_pow]
  by_cases c : i = e
  · simp [c]
  · have c2 : ¬ e = i := fun h => c h.symm
    simp [c, c2]
/-- what holds of those that are left, and of the parents of the others -/
structure Run (V : Nat → Nat → Prop) (n L : Nat) (par : List Int) (rk : Nat → Nat) (rem : List Nat) : Prop where
  len : par.length = n
  sub : ∀ i, mem' L i → i < n
  some : ∃ i, mem' L i
  nd : rem.Nodup
  mem : ∀ i, i ∈ rem ↔ i < n ∧ ¬ mem' L i
  lft : ∀ i, i < n → mem' L i → pa par i = -1
  gon : ∀ i, i < n → ¬ mem' L i → 0 ≤ pa par i ∧ pa par i < n ∧ rk i < rem.length ∧ (mem' L (pa par i).toNat ∨ rk i < rk (pa par i).toNat)
  inj : ∀ i j, i < n → j < n → ¬ mem' L i → ¬ mem' L j → rk i = rk j → i = j
  conn : ∀ v i, i < n → ¬ mem' L i → V i v → ¬ V (pa par i).toNat v → ∀ k, k < n → (mem' L k ∨ rk i < rk k) → ¬ V k v
theorem Run.cnt {V : Nat → Nat → Prop} {n L : Nat} {par : List Int} {rk : Nat → Nat} {rem : List Nat} (h : Run V n L par rk rem) : rem.length + 1 ≤ n := by
  obtain ⟨i, hi⟩ := h.some
  have := len_le (l := i :: rem) (m := List.range n) (List.nodup_cons.2 ⟨fun k => ((h.mem i).1 k).2 hi, h.nd⟩) (fun x hx => by
    rcases List.mem_cons.1 hx with rfl | hx
    · exact List.mem_range.2 (h.sub _ hi)
    · exact List.mem_range.2 ((h.mem x).1 hx).1)
  simpa using this
theorem pa_set {par : List Int} {e h i : Nat} (he : e < par.length) : pa (par.set e h) i = if i = e then (h : Int) else pa par i := by
  unfold pa
  simp only [List.getD_eq_getElem?_getD, List.getElem?_set]
  by_cases c : i = e
  · subst c; simp [he]
  · rw [if_neg (fun k => c k.symm), if_neg c]
theorem run_start (V : Nat → Nat → Prop) {n : Nat} (hn : 0 < n) : Run V n (2 ^ n - 1) (List.replicate n (-1)) (fun _ => 0) [] := by
  have hm : ∀ i, mem' (2 ^ n - 1) i ↔ i < n := fun i => by unfold mem'; rw [Nat.testBit_two_pow_sub_one]; simp
  refine ⟨by simp, fun i hi => (hm i).1 hi, ⟨0, (hm 0).2 hn⟩, by simp, fun i => by rw [hm]; simp, fun i hi _ => ?_, fun i hi k => absurd ((hm i).2 hi) k, fun i _ hi _ k => absurd ((hm i).2 hi) k, fun v i hi k => absurd ((hm i).2 hi) k⟩
  unfold pa
  rw [List.getD_eq_getElem?_getD, List.getElem?_replicate, if_pos hi]; rfl
theorem run_step {V : Nat → Nat → Prop} {n L : Nat} {par : List Int} {rk : Nat → Nat} {rem : List Nat} (R : Run V n L par rk rem) {e h : Nat} (E : EarP V (mem' L) e h) :
    Run V n (ndiff L (2 ^ e)) (par.set e h) (fun i => if i = e then rem.length else rk i) (rem ++ [e]) := by
  obtain ⟨h1, h2, h3, h4⟩ := E
  have hen := R.sub e h1
  have hhn := R.sub h h2
  have pe : pa (par.set e h) e = h := by rw [pa_set (by rw [R.len]; exact hen), if_pos rfl]
  have po : ∀ i, i ≠ e → pa (par.set e h) i = pa par i := fun i hi => by rw [pa_set (by rw [R.len]; exact hen), if_neg hi]
  have gone : ∀ i, ¬ mem' (ndiff L (2 ^ e)) i → i = e ∨ (i ≠ e ∧ ¬ mem' L i) := fun i hi => by
    by_cases c : i = e
    · exact .inl c
    · exact .inr ⟨c, fun k => hi (mem_del.2 ⟨k, c⟩)⟩
  refine ⟨by rw [List.length_set]; exact R.len, fun i hi => R.sub i (mem_del.1 hi).1, ⟨h, mem_del.2 ⟨h2, h3.symm⟩⟩, ?_, fun i => ?_, fun i hi k => ?_, fun i hi k => ?_, fun i j hi hj k1 k2 hr => ?_, fun v i hi k hv hp m hm hmm => ?_⟩
  · refine List.nodup_append.2 ⟨R.nd, by simp, fun a ha b hb => ?_⟩
    simp at hb
    subst hb
    intro s
    rw [s] at ha
    exact ((R.mem _).1 ha).2 h1
  · rw [List.mem_append, R.mem, List.mem_singleton]
    constructor
    · rintro (⟨q1, q2⟩ | q)
      · exact ⟨q1, fun k => q2 (mem_del.1 k).1⟩
      · rw [q]; exact ⟨hen, fun k => (mem_del.1 k).2 rfl⟩
    · rintro ⟨q1, q2⟩
      rcases gone i q2 with s | s
      · exact .inr s
      · exact .inl ⟨q1, s.2⟩
  · obtain ⟨q1, q2⟩ := mem_del.1 k
    rw [po i q2]; exact R.lft i hi q1
  · rw [List.length_append, List.length_singleton]
    rcases gone i k with s | ⟨s, s2⟩
    · subst s
      rw [pe, if_pos rfl]
      refine ⟨by omega, by omega, by omega, .inl (mem_del.2 ⟨by rw [Int.toNat_natCast]; exact h2, by rw [Int.toNat_natCast]; exact h3.symm⟩)⟩
    · obtain ⟨g1, g2, g3, g4⟩ := R.gon i hi s2
      rw [po i s, if_neg s]
      refine ⟨g1, g2, by omega, ?_⟩
      by_cases c : (pa par i).toNat = e
      · rw [if_pos c]; exact .inr g3
      · rw [if_neg c]
        rcases g4 with g4 | g4
        · exact .inl (mem_del.2 ⟨g4, c⟩)
        · exact .inr g4
  · rcases gone i k1 with s | ⟨s, s2⟩
    · rcases gone j k2 with t | ⟨t, t2⟩
      · rw [s, t]
      · rw [if_pos s, if_neg t] at hr
        have := (R.gon j hj t2).2.2.1; omega
    · rcases gone j k2 with t | ⟨t, t2⟩
      · rw [if_neg s, if_pos t] at hr
        have := (R.gon i hi s2).2.2.1; omega
      · rw [if_neg s, if_neg t] at hr
        exact R.inj i j hi hj s2 t2 hr
  · rcases gone i k with s | ⟨s, s2⟩
    · subst s
      rw [pe, Int.toNat_natCast] at hp
      intro hkv
      rcases hmm with q | q
      · obtain ⟨q1, q2⟩ := mem_del.1 q
        exact hp (h4 v hv ⟨m, q1, q2, hkv⟩)
      · rw [if_pos rfl] at q
        by_cases c : m = i
        · rw [if_pos c] at q; omega
        · rw [if_neg c] at q
          by_cases ml : mem' L m
          · exact hp (h4 v hv ⟨m, ml, c, hkv⟩)
          · have := (R.gon m hm ml).2.2.1; omega
    · rw [po i s] at hp
      refine R.conn v i hi s2 hv hp m hm ?_
      rcases hmm with q | q
      · exact .inl (mem_del.1 q).1
      · rw [if_neg s] at q
        by_cases c : m = e
        · rw [c]; exact .inl h1
        · rw [if_neg c] at q; exact .inr q
theorem run_tree {V : Nat → Nat → Prop} {n L : Nat} {par : List Int} {rk : Nat → Nat} {rem : List Nat} (R : Run V n L par rk rem) (hs : ∀ i j, mem' L i → mem' L j → i = j) : IsTree V n par := by
  obtain ⟨r, hr⟩ := R.some
  have hcn := R.cnt
  have cl : ∀ m i, i < n → ¬ mem' L i → rem.length - rk i ≤ m → Climb par (m + 1) i := by
    intro m
    induction m with
    | zero => intro i hi hl hm; have := (R.gon i hi hl).2.2.1; omega
    | succ m ih =>
      intro i hi hl hm
      obtain ⟨g1, g2, g3, g4⟩ := R.gon i hi hl
      refine .inr ⟨g1, ?_⟩
      have hp : (pa par i).toNat < n := by omega
      by_cases c : mem' L (pa par i).toNat
      · exact .inl (R.lft _ hp c)
      · rcases g4 with g4 | g4
        · exact absurd g4 c
        · exact ih _ hp c (by omega)
  refine ⟨R.len, fun i hi => ?_, ⟨r, R.sub r hr, R.lft r (R.sub r hr) hr, fun i hi hp => ?_⟩, fun i hi => ?_, fun v _ i j hi hj => ?_⟩
  · by_cases c : mem' L i
    · rw [R.lft i hi c]; omega
    · have := R.gon i hi c; omega
  · by_cases c : mem' L i
    · exact hs i r c hr
    · have := R.gon i hi c; omega
  · by_cases c : mem' L i
    · exact climb_mono (k := 1) (.inl (R.lft i hi c)) (by omega)
    · exact climb_mono (cl (rem.length) i hi c (by omega)) (by omega)
  · have tp : ∀ i, Top V n par v i → ¬ mem' L i → ¬ V (pa par i).toNat v := fun i hi c k => hi.2.2 ⟨(R.gon i hi.1 c).1, k⟩
    by_cases ci : mem' L i
    · by_cases cj : mem' L j
      · exact hs i j ci cj
      · exact absurd hi.2.1 (R.conn v j hj.1 cj hj.2.1 (tp j hj cj) i hi.1 (.inl ci))
    · by_cases cj : mem' L j
      · exact absurd hj.2.1 (R.conn v i hi.1 ci hi.2.1 (tp i hi ci) j hj.1 (.inl cj))
      · rcases Nat.lt_trichotomy (rk i) (rk j) with q | q | q
        · exact absurd hj.2.1 (R.conn v i hi.1 ci hi.2.1 (tp i hi ci) j hj.1 (.inr q))
        · exact R.inj i j hi.1 hj.1 ci cj q
        · exact absurd hi.2.1 (R.conn v j hj.1 cj hj.2.1 (tp j hj cj) i hi.1 (.inr q))
/-! ### the steps, each with the last ear -/
def LastEar (V : Nat → Nat → Prop) (L e : Nat) : Prop := (∃ h, EarP V (mem' L) e h) ∧ ∀ e' h', EarP V (mem' L) e' h' → e' ≤ e
theorem lastEar_same {V : Nat → Nat → Prop} {L e f : Nat} (h : LastEar V L e) (k : LastEar V L f) : e = f := by
  obtain ⟨⟨x, hx⟩, h2⟩ := h
  obtain ⟨⟨y, hy⟩, k2⟩ := k
  have := h2 f y hy
  have := k2 e x hx
  omega
inductive Reach (V : Nat → Nat → Prop) (A : Nat) : Nat → Prop
  | refl : Reach V A A
  | step {L e : Nat} (h : Reach V A L) (k : LastEar V L e) : Reach V A (ndiff L (2 ^ e))
/-- no ear is left -/
def Done (V : Nat → Nat → Prop) (L : Nat) : Prop := ∀ e h, ¬ EarP V (mem' L) e h
theorem reach_front {V : Nat → Nat → Prop} {A e M : Nat} (k : LastEar V A e) (h : Reach V (ndiff A (2 ^ e)) M) : Reach V A M := by
  induction h with
  | refl => exact .step .refl k
  | step _ k2 ih => exact .step ih k2
theorem reach_cases {V : Nat → Nat → Prop} {A M : Nat} (h : Reach V A M) : M = A ∨ ∃ e, LastEar V A e ∧ Reach V (ndiff A (2 ^ e)) M := by
  induction h with
  | refl => exact .inl rfl
  | @step L e h k ih =>
    rcases ih with rfl | ⟨f, f1, f2⟩
    · exact .inr ⟨e, k, .refl⟩
    · exact .inr ⟨f, f1, .step f2 k⟩
theorem reach_det {V : Nat → Nat → Prop} : ∀ (m A B C : Nat), A ≤ m → Reach V A B → Done V B → Reach V A C → Done V C → B = C := by
  intro m
  induction m with
  | zero =>
    intro A B C hA hB dB hC dC
    have z : ∀ e, ¬ LastEar V A e := fun e k => by
      obtain ⟨⟨h, k1, _⟩, _⟩ := k
      have : A = 0 := by omega
      rw [this] at k1
      simp [mem'] at k1
    rcases reach_cases hB with h | ⟨e, h, _⟩
    · rcases reach_cases hC with k | ⟨e, k, _⟩
      · rw [h, k]
      · exact absurd k (z e)
    · exact absurd h (z e)
  | succ m ih =>
    intro A B C hA hB dB hC dC
    rcases reach_cases hB with h | ⟨e, h, hB2⟩
    · rcases reach_cases hC with k | ⟨f, k, _⟩
      · rw [h, k]
      · rw [h] at dB
        obtain ⟨⟨y, hy⟩, _⟩ := k
        exact absurd hy (dB f y)
    · rcases reach_cases hC with k | ⟨f, k, hC2⟩
      · rw [k] at dC
        obtain ⟨⟨y, hy⟩, _⟩ := h
        exact absurd hy (dC e y)
      · obtain rfl := lastEar_same h k
        refine ih _ B C ?_ hB2 dB hC2 dC
        have h1 := ndiff_le A (2 ^ e)
        rcases Nat.lt_or_ge (ndiff A (2 ^ e)) A with q | q
        · omega
        · exfalso
          have e2 : ndiff A (2 ^ e) = A := by omega
          obtain ⟨⟨y, hy⟩, _⟩ := h
          have := hy.1
          rw [← e2] at this
          exact (mem_del.1 this).2 rfl
theorem reach_acy {V : Nat → Nat → Prop} {A M : Nat} (h : Reach V A M) (a : Acy V (mem' A)) : Acy V (mem' M) := by
  induction h with
  | refl => exact a
  | @step L e _ k ih =>
    obtain ⟨⟨y, hy⟩, _⟩ := k
    exact acy_ext (acy_del ih e y hy) fun x => mem_del.symm
/-- one is left of what is acyclic -/
theorem done_one {V : Nat → Nat → Prop} {M : Nat} (d : Done V M) (a : Acy V (mem' M)) : ∀ i j, mem' M i → mem' M j → i = j := fun i j hi hj => by
  apply Classical.byContradiction
  intro hne
  obtain ⟨e, h, k⟩ := acy_has a hi hj hne
  exact d e h k
/-- what can be taken away to one is acyclic -/
theorem reach_back {V : Nat → Nat → Prop} {A M : Nat} (h : Reach V A M) (a : Acy V (mem' M)) : Acy V (mem' A) := by
  induction h with
  | refl => exact a
  | @step L e _ k ih =>
    obtain ⟨⟨y, y1, y2, y3, y4⟩, _⟩ := k
    exact ih (.ear y1 y2 y3 y4 (acy_ext a fun x => mem_del))
theorem one_bit' : ∀ L : Fin 32, 0 < L.val → ((L.val &&& (L.val - 1) = 0) ↔ ∀ i j : Fin 5, L.val.testBit i.val = true → L.val.testBit j.val = true → i = j) := by decide
theorem one_bit {L : Nat} (h : L < 32) (h0 : 0 < L) : (L &&& (L - 1) = 0) ↔ ∀ i j, mem' L i → mem' L j → i = j := by
  have lt : ∀ i, mem' L i → i < 5 := fun i hi => by
    rcases Nat.lt_or_ge i 5 with q | q
    · exact q
    · have : L < 2 ^ i := Nat.lt_of_lt_of_le h (Nat.pow_le_pow_right (n := 2) (by decide) q)
      have := Nat.testBit_lt_two_pow this
      unfold mem' at hi
      rw [this] at hi; cases hi
  refine (one_bit' ⟨L, h⟩ h0).trans ⟨fun k i j hi hj => ?_, fun k i j hi hj => ?_⟩
  · have := k ⟨i, lt i hi⟩ ⟨j, lt j hj⟩ hi hj
    exact congrArg Fin.val this
  · exact Fin.ext (k i.val j.val hi hj)
#print axioms run_step
#print axioms run_tree
#print axioms reach_det
#print axioms one_bit
end Go.Proofs.Ytfplmdieeabgpaa
