/- The chase: what every order of its steps comes to. -/
import Derived.Test.YtnidalbfmicoiaaSets
import Derived.Test.YtnidalbfmicoiaaWalkT
namespace Go.Proofs.Ytnidalbfmicoiaa
open Go.RowKit

def cell (T : List (List Int)) (i a : Nat) : Int := (row T i).getD a 0
def Shape (T : List (List Int)) (k m : Nat) : Prop := T.length = k ∧ ∀ i, i < k → (row T i).length = m
/-- the rows i and j agree on s -/
def AgreeOn (T : List (List Int)) (m s i j : Nat) : Prop := ∀ a, a < m → s.testBit a = true → cell T i a = cell T j a
/-- rename x to y in a column -/
def ren (a : Nat) (x y : Int) (r : List Int) : List Int := if r.getD a 0 = x then r.set a y else r
theorem ren_length (a : Nat) (x y : Int) (r : List Int) : (ren a x y r).length = r.length := by unfold ren; split <;> simp
theorem ren_getD {a : Nat} {x y : Int} {r : List Int} (ha : a < r.length) (b : Nat) : (ren a x y r).getD b 0 = if b = a ∧ r.getD a 0 = x then y else r.getD b 0 := by
  unfold ren
  by_cases h : r.getD a 0 = x
  · rw [if_pos h]
    by_cases hb : b = a
    · subst hb
      rw [if_pos ⟨rfl, h⟩]
      simp [List.getD, ha]
    · rw [if_neg (fun q => hb q.1)]
      simp [List.getD, Ne.symm hb]
  · rw [if_neg h, if_neg (fun q => h q.2)]
theorem row_map {T : List (List Int)} {f : List Int → List Int} {i : Nat} (hi : i < T.length) : row (T.map f) i = f (row T i) := by
  unfold row; simp [List.getD, hi]
theorem cell_ren {T : List (List Int)} {k m : Nat} (hT : Shape T k m) {a : Nat} (ha : a < m) (x y : Int) {i : Nat} (hi : i < k) (b : Nat) :
    cell (T.map (ren a x y)) i b = if b = a ∧ cell T i a = x then y else cell T i b := by
  unfold cell
  rw [row_map (by rw [hT.1]; exact hi), ren_getD (by rw [hT.2 i hi]; exact ha)]
theorem shape_ren {T : List (List Int)} {k m : Nat} (hT : Shape T k m) (a : Nat) (x y : Int) : Shape (T.map (ren a x y)) k m :=
  ⟨by simp [hT.1], fun i hi => by rw [row_map (by rw [hT.1]; exact hi), ren_length, hT.2 i hi]⟩

/-- the maps of columns whose image keeps the dependencies -/
def Good (l : List DepN) (T0 : List (List Int)) (k m : Nat) (g : Nat → Int → Int) : Prop :=
  ∀ d ∈ l, ∀ i j, i < k → j < k → (∀ a, a < m → d.1.testBit a = true → g a (cell T0 i a) = g a (cell T0 j a)) → ∀ a, a < m → d.2.testBit a = true → g a (cell T0 i a) = g a (cell T0 j a)
/-- T comes of T0 by steps of the chase -/
def Inv (l : List DepN) (T0 : List (List Int)) (k m : Nat) (T : List (List Int)) : Prop :=
  Shape T k m ∧ (∀ i a, i < k → a < m → 0 ≤ cell T i a) ∧ ∃ h : Nat → Int → Int, (∀ a v, h a v ≤ v) ∧ (∀ i a, i < k → a < m → cell T i a = h a (cell T0 i a)) ∧ ∀ g, Good l T0 k m g → ∀ a v, g a (h a v) = g a v
theorem inv_init {l : List DepN} {T0 : List (List Int)} {k m : Nat} (hT : Shape T0 k m) (h0 : ∀ i a, i < k → a < m → 0 ≤ cell T0 i a) : Inv l T0 k m T0 :=
  ⟨hT, h0, fun _ v => v, fun _ _ => Int.le_refl _, fun _ _ _ _ => rfl, fun _ _ _ _ => rfl⟩
theorem inv_step {l : List DepN} {T0 T : List (List Int)} {k m : Nat} (hT : Inv l T0 k m T) {d : DepN} (hd : d ∈ l) {i j a : Nat} (hi : i < k) (hj : j < k) (hag : AgreeOn T m d.1 i j) (ha : a < m) (hb : d.2.testBit a = true) (hle : cell T j a ≤ cell T i a) :
    Inv l T0 k m (T.map (ren a (cell T i a) (cell T j a))) := by
  obtain ⟨hs, hnn, h, h1, h2, h3⟩ := hT
  refine ⟨shape_ren hs _ _ _, fun i' b hi' hb' => ?_, fun b v => if b = a ∧ h a v = cell T i a then cell T j a else h b v, fun b v => ?_, fun i' b hi' hb' => ?_, fun g hg b v => ?_⟩
  · rw [cell_ren hs ha _ _ hi']
    split
    · exact hnn j a hj ha
    · exact hnn i' b hi' hb'
  · show (if b = a ∧ h a v = cell T i a then cell T j a else h b v) ≤ v
    split
    · rename_i q
      obtain ⟨rfl, q⟩ := q
      exact Int.le_trans hle (q ▸ h1 b v)
    · exact h1 b v
  · rw [cell_ren hs ha _ _ hi', h2 i' b hi' hb']
    by_cases e : b = a
    · subst e; rw [h2 i' b hi' hb']
    · rw [if_neg (fun q => e q.1)]; exact (if_neg (fun q => e q.1)).symm
  · show g b (if b = a ∧ h a v = cell T i a then cell T j a else h b v) = g b v
    split
    · rename_i q
      obtain ⟨rfl, q⟩ := q
      have e1 : g b (cell T0 i b) = g b (cell T0 j b) := by
        refine hg d hd i j hi hj (fun b' hb' ht => ?_) b ha hb
        have := hag b' hb' ht
        rw [h2 i b' hi hb', h2 j b' hj hb'] at this
        rw [← h3 g hg b' (cell T0 i b'), ← h3 g hg b' (cell T0 j b'), this]
      rw [h2 j b hj ha, h3 g hg, ← e1, ← h3 g hg b (cell T0 i b), ← h2 i b hi ha, ← q, h3 g hg]
    · exact h3 g hg b v
/-- all dependencies hold -/
def Kept (l : List DepN) (T : List (List Int)) (k m : Nat) : Prop := ∀ d ∈ l, ∀ i j, i < k → j < k → AgreeOn T m d.1 i j → AgreeOn T m d.2 i j
def ChaseEnd (l : List DepN) (T0 : List (List Int)) (k m : Nat) (T : List (List Int)) : Prop := Inv l T0 k m T ∧ Kept l T k m
theorem ext_cell {T T' : List (List Int)} {k m : Nat} (h : Shape T k m) (h' : Shape T' k m) (he : ∀ i a, i < k → a < m → cell T i a = cell T' i a) : T = T' := by
  apply List.ext_getElem
  · rw [h.1, h'.1]
  · intro i h1 h2
    have hi : i < k := by rw [← h.1]; exact h1
    have e1 : row T i = T[i] := by unfold row; simp [List.getD, h1]
    have e2 : row T' i = T'[i] := by unfold row; simp [List.getD, h2]
    apply List.ext_getElem
    · rw [← e1, ← e2, h.2 i hi, h'.2 i hi]
    · intro a h3 h4
      have := he i a hi (by rw [← h.2 i hi, e1]; exact h3)
      unfold cell at this
      rw [e1, e2] at this
      simpa [List.getD, h3, h4] using this
theorem end_good {l : List DepN} {T0 T : List (List Int)} {k m : Nat} {h : Nat → Int → Int} (hk : Kept l T k m) (h2 : ∀ i a, i < k → a < m → cell T i a = h a (cell T0 i a)) : Good l T0 k m h := by
  intro d hd i j hi hj hag a ha hb
  rw [← h2 i a hi ha, ← h2 j a hj ha]
  exact hk d hd i j hi hj (fun b hb' ht => by rw [h2 i b hi hb', h2 j b hj hb']; exact hag b hb' ht) a ha hb
/-- the last table is the same for every order of the steps -/
theorem end_unique {l : List DepN} {T0 T T' : List (List Int)} {k m : Nat} (h : ChaseEnd l T0 k m T) (h' : ChaseEnd l T0 k m T') : T = T' := by
  obtain ⟨⟨hs, -, f, f1, f2, f3⟩, hk⟩ := h
  obtain ⟨⟨hs', -, g, g1, g2, g3⟩, hk'⟩ := h'
  have gf := end_good hk f2
  have gg := end_good hk' g2
  refine ext_cell hs hs' fun i a hi ha => ?_
  rw [f2 i a hi ha, g2 i a hi ha]
  have e1 := f3 g gg a (cell T0 i a)
  have e2 := g3 f gf a (cell T0 i a)
  have q1 := g1 a (f a (cell T0 i a))
  have q2 := f1 a (g a (cell T0 i a))
  omega
/-- the sum of all numbers -/
def rsum (r : List Int) : Nat := (r.map Int.toNat).sum
def tsum (T : List (List Int)) : Nat := (T.map rsum).sum
theorem rsum_set : ∀ (r : List Int) (a : Nat) (y : Int), 0 ≤ y → (h : a < r.length) → y ≤ r[a] → rsum (r.set a y) + (r[a].toNat - y.toNat) = rsum r
  | x :: r, 0, y, h0, _, h => by simp [rsum] at *; omega
  | x :: r, a + 1, y, h0, hl, h => by
    have := rsum_set r a y h0 (by simpa using hl) (by simpa using h)
    simp [rsum] at *; omega
theorem rsum_ren {r : List Int} {a : Nat} {x y : Int} (ha : a < r.length) (h0 : 0 ≤ y) (h : y < x) : rsum (ren a x y r) ≤ rsum r ∧ (r.getD a 0 = x → rsum (ren a x y r) < rsum r) := by
  have e : r.getD a 0 = r[a] := by simp [List.getD, ha]
  unfold ren
  by_cases hx : r.getD a 0 = x
  · rw [if_pos hx]
    have := rsum_set r a y h0 ha (by rw [← e, hx]; omega)
    rw [e] at hx
    rw [hx] at this
    omega
  · rw [if_neg hx]
    exact ⟨Nat.le_refl _, fun q => absurd q hx⟩
theorem tsum_ren_le {a m : Nat} {x y : Int} (ha : a < m) (h0 : 0 ≤ y) (h : y < x) : ∀ T : List (List Int), (∀ r ∈ T, r.length = m) → tsum (T.map (ren a x y)) ≤ tsum T
  | [], _ => Nat.le_refl _
  | r :: T, hT => by
    have h1 := (rsum_ren (r := r) (by rw [hT r (by simp)]; exact ha) h0 h).1
    have h2 := tsum_ren_le ha h0 h T (fun r hr => hT r (by simp [hr]))
    simp [tsum] at *; omega
theorem tsum_ren_lt {a m : Nat} {x y : Int} (ha : a < m) (h0 : 0 ≤ y) (h : y < x) : ∀ (T : List (List Int)) (i : Nat), (∀ r ∈ T, r.length = m) → i < T.length → cell T i a = x → tsum (T.map (ren a x y)) < tsum T
  | r :: T, 0, hT, _, hx => by
    have h1 := (rsum_ren (r := r) (by rw [hT r (by simp)]; exact ha) h0 h).2 hx
    have h2 := tsum_ren_le ha h0 h T (fun r hr => hT r (by simp [hr]))
    simp [tsum] at *; omega
  | r :: T, i + 1, hT, hi, hx => by
    have h1 := (rsum_ren (r := r) (by rw [hT r (by simp)]; exact ha) h0 h).1
    have h2 := tsum_ren_lt ha h0 h T i (fun r hr => hT r (by simp [hr])) (by simpa using hi) hx
    simp [tsum] at *; omega
theorem shape_mem {T : List (List Int)} {k m : Nat} (h : Shape T k m) : ∀ r ∈ T, r.length = m := by
  intro r hr
  obtain ⟨i, hi, rfl⟩ := List.mem_iff_getElem.1 hr
  have := h.2 i (by rw [← h.1]; exact hi)
  unfold row at this
  simpa [List.getD, hi] using this
theorem agree_ren {T : List (List Int)} {k m : Nat} (hT : Shape T k m) {a : Nat} (ha : a < m) (x y : Int) {i j b : Nat} (hi : i < k) (hj : j < k) (h : cell T i b = cell T j b) : cell (T.map (ren a x y)) i b = cell (T.map (ren a x y)) j b := by
  rw [cell_ren hT ha _ _ hi, cell_ren hT ha _ _ hj]
  by_cases e : b = a
  · subst e; rw [h]
  · rw [if_neg (fun q => e q.1), if_neg (fun q => e q.1), h]
theorem agree_iff {T : List (List Int)} {k m s i j : Nat} (hT : Shape T k m) (hi : i < k) (hs : s < 2 ^ m) : Sub s (agr (row T i) (row T j)) ↔ AgreeOn T m s i j := by
  rw [sub_iff]
  unfold agr AgreeOn cell
  rw [hT.2 i hi]
  constructor
  · intro h a ha hb
    have := h a hb
    rw [testBit_agrTo] at this
    simp at this
    simpa [List.getD] using this.2
  · intro h a hb
    have ha : a < m := by
      apply Nat.lt_of_not_le
      intro hle
      have := Nat.testBit_lt_two_pow (x := s) (i := a) (Nat.lt_of_lt_of_le hs (Nat.pow_le_pow_right (by decide) hle))
      rw [hb] at this; cases this
    rw [testBit_agrTo]
    simp only [ha, decide_true, Bool.true_and, decide_eq_true_eq]
    exact h a ha hb
theorem agr_bit {T : List (List Int)} {k m i j a : Nat} (hT : Shape T k m) (hi : i < k) (ha : a < m) : (agr (row T i) (row T j)).testBit a = decide (cell T i a = cell T j a) := by
  unfold agr cell
  rw [hT.2 i hi, testBit_agrTo]
  simp [ha]
theorem agr_ltT {T : List (List Int)} {k m i j : Nat} (hT : Shape T k m) (hi : i < k) : agr (row T i) (row T j) < 2 ^ m := by
  apply Nat.lt_pow_two_of_testBit
  intro a ha
  unfold agr
  rw [hT.2 i hi, testBit_agrTo]
  simp; omega
/-- what a walk over a table comes to: nothing, or something less -/
def Went (l : List DepN) (T0 : List (List Int)) (k m : Nat) (T T' : List (List Int)) (b : Bool) (D : Prop) : Prop :=
  Inv l T0 k m T' ∧ ((b = false ∧ T' = T ∧ D) ∨ (b = true ∧ tsum T' < tsum T))
theorem Went.imp {l : List DepN} {T0 : List (List Int)} {k m : Nat} {T T' : List (List Int)} {b : Bool} {D E : Prop} (h : Went l T0 k m T T' b D) (hi : T' = T → D → E) : Went l T0 k m T T' b E :=
  ⟨h.1, h.2.elim (fun q => .inl ⟨q.1, q.2.1, hi q.2.1 q.2.2⟩) .inr⟩
/-- one renaming: the greater number becomes the lesser one -/
theorem step_all {l : List DepN} {T0 T : List (List Int)} {k m : Nat} (hT : Inv l T0 k m T) {d : DepN} (hd : d ∈ l) {i j a : Nat} (hi : i < k) (hj : j < k) (hag : AgreeOn T m d.1 i j) (ha : a < m) (hb : d.2.testBit a = true) (hne : cell T i a ≠ cell T j a) :
    Inv l T0 k m (T.map (ren a (max (cell T i a) (cell T j a)) (min (cell T i a) (cell T j a)))) ∧ tsum (T.map (ren a (max (cell T i a) (cell T j a)) (min (cell T i a) (cell T j a)))) < tsum T := by
  have hmem := shape_mem hT.1
  have hl := hT.1.1
  rcases Int.lt_or_gt_of_ne hne with h | h
  · rw [Int.max_eq_right (by omega), Int.min_eq_left (by omega)]
    exact ⟨inv_step hT hd hj hi (fun b h1 h2 => (hag b h1 h2).symm) ha hb (by omega), tsum_ren_lt ha (hT.2.1 i a hi ha) h T j hmem (by omega) rfl⟩
  · rw [Int.max_eq_left (by omega), Int.min_eq_right (by omega)]
    exact ⟨inv_step hT hd hi hj hag ha hb (by omega), tsum_ren_lt ha (hT.2.1 j a hj ha) (by omega) T i hmem (by omega) rfl⟩
/-- two rows are in order with a dependency -/
def PairOk (T : List (List Int)) (m : Nat) (d : DepN) (i j : Nat) : Prop := AgreeOn T m d.1 j i → AgreeOn T m d.2 j i
theorem kept_of {l : List DepN} {T : List (List Int)} {k m : Nat} (h : ∀ d ∈ l, ∀ i, i < k → ∀ j, j < i → PairOk T m d i j) : Kept l T k m := by
  intro d hd i j hi hj hag
  rcases Nat.lt_trichotomy i j with q | rfl | q
  · exact h d hd j hj i q hag
  · exact fun _ _ _ => rfl
  · intro a ha hb
    exact (h d hd i hi j q (fun b h1 h2 => (hag b h1 h2).symm) a ha hb).symm
#print axioms end_unique
#print axioms tsum_ren_lt
end Go.Proofs.Ytnidalbfmicoiaa
