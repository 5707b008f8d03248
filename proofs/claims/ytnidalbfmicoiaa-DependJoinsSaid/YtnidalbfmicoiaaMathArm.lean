/- Plain facts on Armstrong's table. -/
import Derived.Test.YtnidalbfmicoiaaWalkY
namespace Go.Proofs.Ytnidalbfmicoiaa

/-- two rows are equal in the attributes of s below k -/
def eqTo (s : Nat) (x y : List Int) : Nat → Bool
  | 0 => true
  | k + 1 => eqTo s x y k && (!s.testBit k || decide (x.getD k 0 = y.getD k 0))
theorem eqTo_iff (s : Nat) (x y : List Int) : ∀ k, eqTo s x y k = true ↔ ∀ a, a < k → s.testBit a = true → x.getD a 0 = y.getD a 0
  | 0 => by simp [eqTo]
  | k + 1 => by
    rw [eqTo, Bool.and_eq_true, eqTo_iff s x y k, Bool.or_eq_true, Bool.not_eq_true', decide_eq_true_iff]
    constructor
    · rintro ⟨h1, h2⟩ a ha hs
      by_cases e : a = k
      · subst e
        rcases h2 with h2 | h2
        · rw [hs] at h2; cases h2
        · exact h2
      · exact h1 a (by omega) hs
    · intro h
      refine ⟨fun a ha hs => h a (by omega) hs, ?_⟩
      cases hb : s.testBit k
      · exact .inl rfl
      · exact .inr (h k (by omega) hb)
theorem testBit_of_lt {s n i : Nat} (h : s < 2 ^ n) (hi : s.testBit i = true) : i < n := by
  by_cases hn : i < n
  · exact hn
  · have := Nat.testBit_lt_two_pow (x := s) (i := i) (Nat.lt_of_lt_of_le h (Nat.pow_le_pow_right (by decide) (by omega)))
    rw [this] at hi; cases hi
theorem eqTo_sub {s n : Nat} {x y : List Int} (hs : s < 2 ^ n) (hx : x.length = n) : eqTo s x y n = decide (Sub s (agr x y)) := by
  rw [Bool.eq_iff_iff, eqTo_iff, decide_eq_true_iff, sub_iff]
  constructor
  · intro h i hi
    unfold agr
    rw [testBit_agrTo, hx]
    have hin := testBit_of_lt hs hi
    simp only [decide_eq_true hin, Bool.true_and, decide_eq_true_iff]
    exact h i hin hi
  · intro h a ha hs'
    have := h a hs'
    unfold agr at this
    rw [testBit_agrTo] at this
    simp only [Bool.and_eq_true, decide_eq_true_iff] at this
    exact this.2
theorem agr_comm (x y : List Int) (h : x.length = y.length) : agr x y = agr y x := by
  apply Nat.eq_of_testBit_eq
  intro i
  unfold agr
  rw [testBit_agrTo, testBit_agrTo, h]
  congr 1
  rw [Bool.eq_iff_iff, decide_eq_true_iff, decide_eq_true_iff]
  exact eq_comm

/-- the rows of Armstrong's table: zeros, or closed sets with their numbers -/
theorem armTo_rows (l : List DepN) (n : Nat) : ∀ (k i : Nat), i < (armTo l n k).length → (i = 0 ∧ row (armTo l n k) i = List.replicate n 0) ∨ (0 < i ∧ ∃ c, c < k ∧ cl l c = c ∧ row (armTo l n k) i = outRow c (i : Nat) n)
  | 0, i, h => by
    have : i = 0 := by simp [armTo] at h; omega
    subst this
    exact .inl ⟨rfl, rfl⟩
  | k + 1, i, h => by
    by_cases hc : cl l k = k
    · have e : armTo l n (k + 1) = armTo l n k ++ [outRow k ((armTo l n k).length : Nat) n] := by rw [armTo, if_pos hc]
      rw [e] at h ⊢
      have h1 := (armTo_length l n k).1
      by_cases hi : i < (armTo l n k).length
      · have := armTo_rows l n k i hi
        have er : row (armTo l n k ++ [outRow k ((armTo l n k).length : Nat) n]) i = row (armTo l n k) i := by
          unfold row; simp [List.getD, List.getElem?_append_left hi]
        rw [er]
        rcases this with h2 | ⟨h2, c, h3, h4⟩
        · exact .inl h2
        · exact .inr ⟨h2, c, by omega, h4⟩
      · have ei : i = (armTo l n k).length := by simp at h; omega
        subst ei
        refine .inr ⟨h1, k, by omega, hc, ?_⟩
        unfold row
        simp [List.getD]
    · have e : armTo l n (k + 1) = armTo l n k := by rw [armTo, if_neg hc]
      rw [e] at h ⊢
      rcases armTo_rows l n k i h with h2 | ⟨h2, c, h3, h4⟩
      · exact .inl h2
      · exact .inr ⟨h2, c, by omega, h4⟩
theorem armTo_lengths (l : List DepN) (n k i : Nat) (h : i < (armTo l n k).length) : (row (armTo l n k) i).length = n := by
  rcases armTo_rows l n k i h with ⟨_, h⟩ | ⟨_, c, _, _, h⟩ <;> rw [h] <;> simp [outRow]
/-- every closed set below k has its row -/
theorem armTo_has (l : List DepN) (n : Nat) : ∀ (k c : Nat), c < k → cl l c = c → ∃ i, 0 < i ∧ i < (armTo l n k).length ∧ row (armTo l n k) i = outRow c (i : Nat) n
  | 0, c, h, _ => by omega
  | k + 1, c, h, hc => by
    by_cases hk : cl l k = k
    · have e : armTo l n (k + 1) = armTo l n k ++ [outRow k ((armTo l n k).length : Nat) n] := by rw [armTo, if_pos hk]
      rw [e]
      by_cases ec : c = k
      · subst ec
        exact ⟨(armTo l n c).length, (armTo_length l n c).1, by simp, by unfold row; simp [List.getD]⟩
      · obtain ⟨i, h1, h2, h3⟩ := armTo_has l n k c (by omega) hc
        refine ⟨i, h1, by simp; omega, ?_⟩
        rw [← h3]
        unfold row; simp [List.getD, List.getElem?_append_left h2]
    · have e : armTo l n (k + 1) = armTo l n k := by rw [armTo, if_neg hk]
      rw [e]
      have ec : c ≠ k := fun e => hk (e ▸ hc)
      exact armTo_has l n k c (by omega) hc
theorem outRow_getD (c n i : Nat) (x : Int) : (outRow c x n).getD i 0 = if i < n then (if c.testBit i then 0 else x) else 0 := by
  by_cases hi : i < n
  · simp [outRow, List.getD, hi]
  · simp [outRow, List.getD, hi]
theorem zeros_getD (n i : Nat) : (List.replicate n (0 : Int)).getD i 0 = 0 := by
  by_cases hi : i < n
  · simp [List.getD, hi]
  · simp [List.getD, hi]
theorem agr_zeros {c n : Nat} {x : Int} (hc : c < 2 ^ n) (hx : x ≠ 0) : agr (List.replicate n 0) (outRow c x n) = c := by
  apply Nat.eq_of_testBit_eq
  intro i
  unfold agr
  rw [testBit_agrTo, List.length_replicate, zeros_getD, outRow_getD]
  by_cases hi : i < n
  · rw [decide_eq_true hi, if_pos hi]
    cases c.testBit i <;> simp [Ne.symm hx]
  · cases hb : c.testBit i
    · simp [hi]
    · exact absurd (testBit_of_lt hc hb) hi
theorem agr_outs {c d n : Nat} {x y : Int} (hc : c < 2 ^ n) (hx : x ≠ 0) (hy : y ≠ 0) (hxy : x ≠ y) : agr (outRow c x n) (outRow d y n) = c &&& d := by
  apply Nat.eq_of_testBit_eq
  intro i
  unfold agr
  rw [testBit_agrTo, outRow_getD, outRow_getD, Nat.testBit_and, show (outRow c x n).length = n by simp [outRow]]
  by_cases hi : i < n
  · rw [decide_eq_true hi, if_pos hi, if_pos hi]
    cases c.testBit i <;> cases d.testBit i <;> simp [hx, hxy, Ne.symm hy]
  · cases hb : c.testBit i
    · simp [hi]
    · exact absurd (testBit_of_lt hc hb) hi
theorem clsd_and {l : List DepN} {c d : Nat} (hc : Clsd l c) (hd : Clsd l d) : Clsd l (c &&& d) := fun e he h => by
  have hs1 : Sub (c &&& d) c := sub_iff.2 fun i hi => by rw [Nat.testBit_and, Bool.and_eq_true] at hi; exact hi.1
  have hs2 : Sub (c &&& d) d := sub_iff.2 fun i hi => by rw [Nat.testBit_and, Bool.and_eq_true] at hi; exact hi.2
  refine sub_iff.2 fun i hi => ?_
  rw [Nat.testBit_and, sub_iff.1 (hc e he (h.trans hs1)) i hi, sub_iff.1 (hd e he (h.trans hs2)) i hi]
  rfl
/-- IN ARMSTRONG's TABLE JUST WHAT FOLLOWS HOLDS -/
theorem arm_holds {m s t F : Nat} {l : List DepN} (hok : Okl m l) (hF : F = 2 ^ m) (hs : s < F) (ht : t < F) : HoldsR (armTo l m (F - 1)) s t ↔ Sub t (cl l s) := by
  have hp := hok.pow
  rw [← hF] at hp
  have hcl : ∀ c, cl l c = c → Clsd l c := fun c h => by rw [← h]; exact cl_clsd hok.lt
  constructor
  · intro h
    by_cases hfull : cl l s = F - 1
    · rw [hfull, hF]; exact sub_full (by omega)
    · have h1 : cl l s < F := by rw [hF]; exact cl_lt_pow hok.h8 hok.hl (by omega)
      obtain ⟨i, hi0, hi, hr⟩ := armTo_has l m (F - 1) (cl l s) (by omega) (cl_idem hok.lt)
      have h0 := (armTo_rows l m (F - 1) 0 (by omega))
      rcases h0 with ⟨_, h0⟩ | ⟨h0, _⟩
      · have := h _ (agrs_mem hi hi0)
        rw [h0, hr, agr_zeros (by omega) (by omega)] at this
        exact this (sub_cl (by omega))
      · omega
  · intro h e he hse
    obtain ⟨i, j, hi, hj, rfl⟩ := mem_agrs he
    have key : agr (row (armTo l m (F - 1)) j) (row (armTo l m (F - 1)) i) < 256 ∧ Clsd l (agr (row (armTo l m (F - 1)) j) (row (armTo l m (F - 1)) i)) := by
      rcases armTo_rows l m (F - 1) i hi with ⟨h0, _⟩ | ⟨_, c, hc, hcc, hri⟩
      · omega
      · rcases armTo_rows l m (F - 1) j (by omega) with ⟨h0, hrj⟩ | ⟨hj0, d, hd, hdd, hrj⟩
        · rw [hri, hrj, agr_zeros (by omega) (by omega)]
          exact ⟨by omega, hcl c hcc⟩
        · rw [hri, hrj, agr_outs (by omega) (by omega) (by omega) (by omega)]
          exact ⟨by have := Nat.and_le_left (n := d) (m := c); omega, clsd_and (hcl d hdd) (hcl c hcc)⟩
    exact h.trans (cl_least key.1 hse key.2)
#print axioms arm_holds
end Go.Proofs.Ytnidalbfmicoiaa
