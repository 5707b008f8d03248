/- Two neighbouring operations exchanged: orders, cycles and views are the same: of no program. -/
import Derived.Test.YtpehbffkplmfjaaCyp
import Derived.Test.YtpehbffkplmfjaaVmx
import Derived.Test.YtpehbffkplmfjaaCfm
namespace Go.Proofs.Ytpehbffkplmfjaa
open Go.RowKit
/-- at and the next one exchanged -/
def sw (at' i : Nat) : Nat := if i = at' then at' + 1 else if i = at' + 1 then at' else i
theorem sw_sw (a i : Nat) : sw a (sw a i) = i := by unfold sw; split <;> split <;> (try split) <;> omega
theorem sw_lt {a n i : Nat} (ha : a + 1 < n) : sw a i < n ↔ i < n := by unfold sw; split <;> (try split) <;> omega
theorem sw_hi {a j : Nat} (h : a + 1 < j) : sw a j = j := by unfold sw; rw [if_neg (by omega), if_neg (by omega)]
theorem sw_lo {a j : Nat} (h : j < a) : sw a j = j := by unfold sw; rw [if_neg (by omega), if_neg (by omega)]
theorem sw_0 (a : Nat) : sw a a = a + 1 := if_pos rfl
theorem sw_1 (a : Nat) : sw a (a + 1) = a := by unfold sw; rw [if_neg (by omega), if_pos rfl]
/-- g is h with two operations exchanged that may be -/
structure Ex (h g : List NOp) (a : Nat) : Prop where
  vh : VH h
  len : g.length = h.length
  lt : a + 1 < h.length
  T : ∀ i, i < h.length → tT g i = tT h (sw a i)
  K : ∀ i, i < h.length → tK g i = tK h (sw a i)
  I : ∀ i, i < h.length → tI g i = tI h (sw a i)
  ne : tT h a ≠ tT h (a + 1)
  k0 : tK h a ≤ 1
  k1 : tK h (a + 1) ≤ 1
  it : ¬ (tI h a = tI h (a + 1) ∧ 0 < tK h a + tK h (a + 1))
theorem Ex.vg {h g : List NOp} {a : Nat} (e : Ex h g a) : VH g where
  le := by rw [e.len]; exact e.vh.le
  t6 := fun i hi => by rw [e.len] at hi; rw [e.T i hi]; exact e.vh.t6 _ ((sw_lt e.lt).2 hi)
  k3 := fun i hi => by rw [e.len] at hi; rw [e.K i hi]; exact e.vh.k3 _ ((sw_lt e.lt).2 hi)
  x5 := fun i hi => by rw [e.len] at hi; rw [e.K i hi, e.I i hi]; exact e.vh.x5 _ ((sw_lt e.lt).2 hi)
  once := fun i hi j hj => by
    rw [e.len] at hi
    rw [e.T i hi, e.T j (by omega), e.K j (by omega)]
    by_cases q : sw a j < sw a i
    · exact e.vh.once _ ((sw_lt e.lt).2 hi) _ q
    · have hj0 : j = a ∧ i = a + 1 := by
        unfold sw at q
        split at q <;> split at q <;> (try split at q) <;> (try split at q) <;> omega
      rw [hj0.1, hj0.2, sw_0, sw_1]
      exact fun r => e.ne r.1.symm
theorem Ex.symm {h g : List NOp} {a : Nat} (e : Ex h g a) {i : Nat} (hi : i < h.length) : tT h i = tT g (sw a i) ∧ tK h i = tK g (sw a i) ∧ tI h i = tI g (sw a i) := by
  have h1 := (sw_lt e.lt).2 hi
  rw [e.T _ h1, e.K _ h1, e.I _ h1, sw_sw]
  exact ⟨rfl, rfl, rfl⟩
theorem en_ex {h : List NOp} (hl : h.length ≤ 40) (q t : Nat) : en h q h.length t ≠ 40 ↔ ∃ i, i < h.length ∧ tT h i = t ∧ tK h i = q := by
  rcases en_spec h q t h.length hl with h1 | h1
  · exact ⟨fun r => absurd h1.1 r, fun ⟨i, h2, h3⟩ => absurd h3 (h1.2 i h2)⟩
  · exact ⟨fun _ => ⟨_, h1.1, h1.2⟩, fun _ r => by omega⟩
theorem Ex.com {h g : List NOp} {a : Nat} (e : Ex h g a) {t : Nat} (ht : t < 7) : lv g g.length (7 + t) ≠ 40 ↔ lv h h.length (7 + t) ≠ 40 := by
  rw [lv_com g ht, lv_com h ht, en_ex e.vg.le, en_ex e.vh.le]
  constructor
  · rintro ⟨i, hi, h1, h2⟩
    rw [e.len] at hi
    exact ⟨sw a i, (sw_lt e.lt).2 hi, by rw [← e.T i hi]; exact h1, by rw [← e.K i hi]; exact h2⟩
  · rintro ⟨i, hi, h1, h2⟩
    have := e.symm hi
    exact ⟨sw a i, by rw [e.len]; exact (sw_lt e.lt).2 hi, by rw [← this.1]; exact h1, by rw [← this.2.1]; exact h2⟩
theorem Ex.comN {h g : List NOp} {a : Nat} (e : Ex h g a) : comN g 7 = comN h 7 := by
  unfold Go.Proofs.Ytpehbffkplmfjaa.comN
  refine List.filter_congr fun t ht => ?_
  exact decide_eq_decide.2 (e.com (List.mem_range.1 ht))
theorem Ex.edOn {h g : List NOp} {a : Nat} (e : Ex h g a) {i j : Nat} (hi : i < h.length) (hj : j < h.length) : EdOn g i j ↔ EdOn h (sw a i) (sw a j) := by
  unfold EdOn
  have h1 := e.T i hi
  have h2 := e.T j hj
  rw [h1, h2, e.K i hi, e.K j hj, e.I i hi, e.I j hj, e.com (by have := e.vh.t6 _ ((sw_lt e.lt).2 hi); omega), e.com (by have := e.vh.t6 _ ((sw_lt e.lt).2 hj); omega)]
theorem Ex.noCf {h g : List NOp} {a : Nat} (e : Ex h g a) : ¬ EdOn h (a + 1) a := by
  intro q
  have := q.2
  unfold Cf at this
  exact e.it ⟨this.2.2.1, by omega⟩
theorem Ex.noCf' {h g : List NOp} {a : Nat} (e : Ex h g a) : ¬ EdOn h a (a + 1) := by
  intro q
  have := q.2
  unfold Cf at this
  exact e.it ⟨this.2.2.1.symm, by omega⟩
theorem sw_order {a i j : Nat} (hj : j < i) (hn : ¬ (j = a ∧ i = a + 1)) : sw a j < sw a i := by
  unfold sw
  split <;> split <;> (try split) <;> (try split) <;> omega
theorem Ex.ed {h g : List NOp} {a : Nat} (e : Ex h g a) : ed g g.length = ed h h.length := by
  funext x
  apply Nat.eq_of_testBit_eq
  intro y
  rw [Bool.eq_iff_iff, ed_bit, ed_bit]
  constructor
  · rintro ⟨i, hi, j, hj, h1, h2, h3⟩
    rw [e.len] at hi
    have hjl : j < h.length := by omega
    have h4 := (e.edOn hi hjl).1 h1
    have hn : ¬ (j = a ∧ i = a + 1) := fun q => by
      rw [q.1, q.2, sw_0, sw_1] at h4
      exact e.noCf' h4
    exact ⟨sw a i, (sw_lt e.lt).2 hi, sw a j, sw_order hj hn, h4, by rw [← e.T j hjl]; exact h2, by rw [← e.T i hi]; exact h3⟩
  · rintro ⟨i, hi, j, hj, h1, h2, h3⟩
    have hjl : j < h.length := by omega
    have hn : ¬ (j = a ∧ i = a + 1) := fun q => by
      rw [q.1, q.2] at h1
      exact e.noCf h1
    have hi' := (sw_lt e.lt).2 hi
    have hj' := (sw_lt e.lt).2 hjl
    exact ⟨sw a i, by rw [e.len]; exact hi', sw a j, sw_order hj hn, (e.edOn hi' hj').2 (by rw [sw_sw, sw_sw]; exact h1), by rw [h2, (e.symm hjl).1], by rw [h3, (e.symm hi).1]⟩
theorem Ex.ordN {h g : List NOp} {a : Nat} (e : Ex h g a) : ordN g = ordN h := by
  unfold Go.Proofs.Ytpehbffkplmfjaa.ordN
  rw [e.ed, e.comN]
theorem Ex.cycN {h g : List NOp} {a : Nat} (e : Ex h g a) : cycN g = cycN h := by
  have : cyK g = cyK h := by
    funext k
    unfold cyK
    rw [e.ed, e.comN]
  unfold Go.Proofs.Ytpehbffkplmfjaa.cycN
  rw [this, e.comN]
/-! ### views -/
def Rl (a : Nat) (V U : Nat → Nat) : Prop := ∀ j, U (sw a j) = V j
theorem Ex.do1 {h g : List NOp} {a : Nat} (e : Ex h g a) {i : Nat} (hi : i < h.length) {V U : Nat → Nat} (r : Rl a V U) : Rl a (doV h (sw a i) V) (doV g i U) := by
  have ha : a + 1 < 40 := by have := e.vh.le; have := e.lt; omega
  have hU : ∀ x, U (40 + x) = V (40 + x) := fun x => by
    have := r (40 + x)
    rwa [sw_hi (by omega)] at this
  have hs : ∀ x, sw a (40 + x) = 40 + x := fun x => sw_hi (by omega)
  intro j
  unfold doV
  rw [e.K i hi, e.I i hi, e.T i hi]
  by_cases k0 : tK h (sw a i) = 0
  · rw [if_pos k0, if_pos k0]
    show (if sw a j = i then _ else _) = (if j = sw a i then _ else _)
    by_cases q : j = sw a i
    · rw [if_pos q, if_pos (by rw [q, sw_sw]), hU]
    · rw [if_neg q, if_neg (fun c => q (by rw [← c, sw_sw])), r j]
  · rw [if_neg k0, if_neg k0]
    by_cases k1 : tK h (sw a i) = 1
    · rw [if_pos k1, if_pos k1]
      show (if sw a j = 40 + tI h (sw a i) then _ else _) = (if j = 40 + tI h (sw a i) then _ else _)
      by_cases q : j = 40 + tI h (sw a i)
      · rw [if_pos q, if_pos (by rw [q, hs])]
      · rw [if_neg q, if_neg (fun c => q (by rw [← sw_sw a j, c, hs])), r j]
    · rw [if_neg k1, if_neg k1]; exact r j
theorem Ex.exm {h g : List NOp} {a : Nat} (e : Ex h g a) : ∀ (σ : List Nat), (∀ i, i ∈ σ → i < h.length) → ∀ {V U : Nat → Nat}, Rl a V U → Rl a (exV h (σ.map (sw a)) V) (exV g σ U)
  | [], _, _, _, r => r
  | i :: σ, hs, V, U, r => e.exm σ (fun j hj => hs j (by simp [hj])) (e.do1 (hs i (by simp)) r)
/-- operations that may be exchanged commute -/
theorem Ex.swap {h g : List NOp} {a : Nat} (e : Ex h g a) (V : Nat → Nat) : doV h a (doV h (a + 1) V) = doV h (a + 1) (doV h a V) := by
  have ha : a + 1 < 40 := by have := e.vh.le; have := e.lt; omega
  have hk0 := e.k0
  have hk1 := e.k1
  have hit := e.it
  funext j
  have p0 : tK h a = 0 ∨ tK h a = 1 := by omega
  have p1 : tK h (a + 1) = 0 ∨ tK h (a + 1) = 1 := by omega
  have n1 : ¬ ((1 : Nat) = 0) := by decide
  unfold doV
  rcases p0 with p0 | p0 <;> rcases p1 with p1 | p1 <;> rw [p0, p1] <;> simp only [if_true, n1, if_false]
  · by_cases q : j = a
    · subst q
      rw [if_pos rfl, if_neg (by omega), if_neg (by omega), if_pos rfl]
    · rw [if_neg q]
      by_cases q2 : j = a + 1
      · rw [if_pos q2, if_pos q2, if_neg (by omega)]
      · rw [if_neg q2, if_neg q2, if_neg q]
  · have hne : tI h a ≠ tI h (a + 1) := fun c => hit ⟨c, by omega⟩
    by_cases q : j = a
    · subst q
      rw [if_pos rfl, if_neg (by omega), if_neg (by omega), if_pos rfl]
    · rw [if_neg q]
      by_cases q2 : j = 40 + tI h (a + 1)
      · rw [if_pos q2, if_pos q2]
      · rw [if_neg q2, if_neg q2, if_neg q]
  · have hne : tI h a ≠ tI h (a + 1) := fun c => hit ⟨c, by omega⟩
    by_cases q : j = 40 + tI h a
    · subst q
      rw [if_pos rfl, if_neg (by omega), if_pos rfl]
    · rw [if_neg q]
      by_cases q2 : j = a + 1
      · rw [if_pos q2, if_pos q2, if_neg (by omega)]
      · rw [if_neg q2, if_neg q2, if_neg q]
  · have hne : tI h a ≠ tI h (a + 1) := fun c => hit ⟨c, by omega⟩
    by_cases q : j = 40 + tI h a
    · subst q
      rw [if_pos rfl, if_neg (by omega), if_pos rfl]
    · rw [if_neg q]
      by_cases q2 : j = 40 + tI h (a + 1)
      · rw [if_pos q2, if_pos q2]
      · rw [if_neg q2, if_neg q2, if_neg q]
/-- what is done of the operations that P tells, in h's order -/
theorem Ex.filt {h g : List NOp} {a : Nat} (e : Ex h g a) {P P' : Nat → Bool} (hP : ∀ i, i < h.length → P' i = P (sw a i)) (V : Nat → Nat) :
    ∀ m, a + 2 ≤ m → m ≤ h.length → exV h (((List.range m).filter P').map (sw a)) V = exV h ((List.range m).filter P) V := by
  have hlt := e.lt
  have low : ∀ m, m ≤ a → ((List.range m).filter P').map (sw a) = (List.range m).filter P := fun m hm => by
    have h1 : (List.range m).filter P' = (List.range m).filter P := List.filter_congr fun i hi => by
      have := List.mem_range.1 hi
      rw [hP i (by omega), sw_lo (by omega)]
    rw [h1]
    conv => rhs; rw [← List.map_id ((List.range m).filter P)]
    refine List.map_congr_left fun i hi => ?_
    have := List.mem_range.1 (List.mem_filter.1 hi).1
    exact sw_lo (by omega)
  intro m
  induction m with
  | zero => intro h1; omega
  | succ m ih =>
    intro h1 h2
    by_cases c : m = a + 1
    · subst c
      rw [List.range_succ, List.range_succ, List.filter_append, List.filter_append, List.filter_append, List.filter_append, List.map_append, List.map_append, low a (Nat.le_refl _), exV_append, exV_append, exV_append, exV_append]
      have q0 := hP a (by omega)
      have q1 := hP (a + 1) (by omega)
      rw [sw_0] at q0
      rw [sw_1] at q1
      cases p0 : P a <;> cases p1 : P (a + 1) <;> rw [p1] at q0 <;> rw [p0] at q1 <;> simp [p0, p1, q0, q1, exV, sw_0, sw_1]
      exact e.swap _
    · rw [List.range_succ, List.filter_append, List.filter_append, List.map_append, exV_append, exV_append, ih (by omega) (by omega)]
      have q := hP m (by omega)
      rw [sw_hi (by omega)] at q
      cases p : P m <;> rw [p] at q <;> simp [p, q, exV, sw_hi (show a + 1 < m by omega)]
theorem Ex.goV {h g : List NOp} {a : Nat} (e : Ex h g a) : Rl a (goV h h.length) (goV g g.length) := by
  rw [goV_ex, goV_ex, e.len]
  have h1 := e.exm (ofC g h.length) (fun i hi => List.mem_range.1 (List.mem_filter.1 hi).1) (V := fun _ => 0) (U := fun _ => 0) (fun _ => rfl)
  have h2 : exV h ((ofC g h.length).map (sw a)) (fun _ => 0) = exV h (ofC h h.length) fun _ => 0 := by
    unfold ofC
    exact e.filt (fun i hi => by
      refine decide_eq_decide.2 ?_
      rw [e.T i hi]
      exact e.com (by have := e.vh.t6 _ ((sw_lt e.lt).2 hi); omega)) _ _ (by have := e.lt; omega) (Nat.le_refl _)
  rwa [h2] at h1
theorem Ex.doT {h g : List NOp} {a : Nat} (e : Ex h g a) (t : Nat) {V U : Nat → Nat} (r : Rl a V U) : Rl a (doT h t h.length V) (doT g t g.length U) := by
  rw [doT_ex, doT_ex, e.len]
  have h1 := e.exm (ofT g t h.length) (fun i hi => List.mem_range.1 (List.mem_filter.1 hi).1) r
  have h2 : exV h ((ofT g t h.length).map (sw a)) V = exV h (ofT h t h.length) V := by
    unfold ofT
    exact e.filt (fun i hi => by rw [e.T i hi]) _ _ (by have := e.lt; omega) (Nat.le_refl _)
  rwa [h2] at h1
theorem Ex.runV {h g : List NOp} {a : Nat} (e : Ex h g a) : ∀ (p : List Nat) {V U : Nat → Nat}, Rl a V U → Rl a (runV h p V) (runV g p U)
  | [], _, _, r => r
  | t :: p, _, _, r => e.runV p (e.doT t r)
theorem eqV_sw {a : Nat} (ha : a + 1 < 40) {V U V' U' : Nat → Nat} (r : Rl a V U) (r' : Rl a V' U') : eqV U U' = eqV V V' := by
  rw [Bool.eq_iff_iff, eqV_iff, eqV_iff]
  constructor
  · intro h j hj
    rw [← r j, ← r' j]
    exact h _ ((sw_lt (by omega)).2 hj)
  · intro h j hj
    have := h _ ((sw_lt (a := a) (n := 46) (by omega)).2 hj)
    rw [← r, ← r', sw_sw] at this
    exact this
theorem Ex.vwN {h g : List NOp} {a : Nat} (e : Ex h g a) : vwN g = vwN h := by
  rw [vwN_find, vwN_find, e.comN]
  congr 1
  funext p
  exact eqV_sw (by have := e.vh.le; have := e.lt; omega) (e.runV p fun _ => rfl) e.goV
#print axioms Ex.vwN
#print axioms Ex.ordN
#print axioms Ex.cycN
end Go.Proofs.Ytpehbffkplmfjaa
