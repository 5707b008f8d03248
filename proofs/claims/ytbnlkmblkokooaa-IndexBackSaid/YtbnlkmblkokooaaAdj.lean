/- The common beginnings of neighbours, suffix by suffix: of no program. -/
import Derived.Test.YtbnlkmblkokooaaMat
namespace Go.Proofs.Ytbnlkmblkokooaa
open Go

/-- between a and b: what a and b have in common is the lesser of what each has with what lies between -/
theorem lcp_mid : ∀ {a x b : Bs}, lss a x = true → lss x b = true → lcp a b = min (lcp a x) (lcp x b)
  | [], _, _, _, _ => by rw [nil_lcp, nil_lcp]; simp
  | _ :: _, [], _, h, _ => by rw [lss_nil] at h; cases h
  | _ :: _, _ :: _, [], _, h => by rw [lss_nil] at h; cases h
  | a :: u, x :: v, b :: y, h, k => by
    rw [lss_cons] at h k
    simp only [Bool.or_eq_true, decide_eq_true_eq, Bool.and_eq_true, beq_iff_eq] at h k
    rw [lcp_cons, lcp_cons, lcp_cons]
    rcases h with h | ⟨rfl, h⟩
    · have h1 : a ≠ x := fun e => u8_irr _ (e ▸ h)
      have h2 : a ≠ b := by
        rcases k with k | ⟨rfl, _⟩
        · exact fun e => u8_irr _ (e ▸ u8_tr h k)
        · exact h1
      rw [if_neg h1, if_neg h2]; simp
    · rcases k with k | ⟨rfl, k⟩
      · have h1 : a ≠ b := fun e => u8_irr _ (e ▸ k)
        simp [h1]
      · rw [if_pos rfl, if_pos rfl, if_pos rfl, lcp_mid h k]
        omega
/-- the common beginnings of neighbours in a list of suffixes, added up -/
def adj (l : Bs) : List Nat → Nat
  | a :: b :: m => lcp (l.drop a) (l.drop b) + adj l (b :: m)
  | _ => 0
/-- the greatest common beginning with one of a list -/
def mxL (l : Bs) (x : Nat) : List Nat → Nat
  | [] => 0
  | a :: m => max (lcp (l.drop x) (l.drop a)) (mxL l x m)
theorem mxL_le {l : Bs} {x b : Nat} : ∀ {m : List Nat}, (∀ a ∈ m, lcp (l.drop x) (l.drop a) ≤ b) → mxL l x m ≤ b
  | [], _ => Nat.zero_le _
  | a :: m, h => Nat.max_le.2 ⟨h a (by simp), mxL_le fun c hc => h c (by simp [hc])⟩
theorem le_mxL {l : Bs} {x a : Nat} : ∀ {m : List Nat}, a ∈ m → lcp (l.drop x) (l.drop a) ≤ mxL l x m
  | c :: m, h => by
    rcases List.mem_cons.1 h with rfl | h
    · exact Nat.le_max_left _ _
    · exact Nat.le_trans (le_mxL h) (Nat.le_max_right _ _)
theorem mxL_at {l : Bs} {x : Nat} : ∀ (m : List Nat), mxL l x m = 0 ∨ ∃ a ∈ m, mxL l x m = lcp (l.drop x) (l.drop a)
  | [] => .inl rfl
  | c :: m => by
    unfold mxL
    rcases Nat.le_total (lcp (l.drop x) (l.drop c)) (mxL l x m) with h | h
    · rw [Nat.max_eq_right h]
      rcases mxL_at m with e | ⟨a, ha, e⟩
      · exact .inl e
      · exact .inr ⟨a, by simp [ha], e⟩
    · rw [Nat.max_eq_left h]
      exact .inr ⟨c, by simp, rfl⟩
theorem lcp_far {l : Bs} {x b c : Nat} (h : sl l x b) (k : sl l b c) : lcp (l.drop x) (l.drop c) ≤ lcp (l.drop x) (l.drop b) := by
  rw [lcp_mid h k]; exact Nat.min_le_left _ _
theorem lcp_far' {l : Bs} {x b c : Nat} (h : sl l b x) (k : sl l c b) : lcp (l.drop x) (l.drop c) ≤ lcp (l.drop x) (l.drop b) := by
  rw [lcp_comm, lcp_mid k h, lcp_comm (l.drop x)]; exact Nat.min_le_right _ _
theorem insS_lt {l : Bs} {x a : Nat} (m : List Nat) (h : sl l a x) : insS l x (a :: m) = a :: insS l x m := by
  unfold insS
  rw [List.takeWhile_cons_of_pos (by simpa using h), List.dropWhile_cons_of_pos (by simpa using h), List.cons_append]
theorem insS_ge {l : Bs} {x a : Nat} (m : List Nat) (h : ¬ sl l a x) : insS l x (a :: m) = x :: a :: m := by
  unfold insS
  rw [List.takeWhile_cons_of_neg (by simpa using h), List.dropWhile_cons_of_neg (by simpa using h), List.nil_append]
theorem adj_ins {l : Bs} {x : Nat} (hx : x ≤ l.length) : ∀ {m : List Nat}, (∀ j ∈ m, j ≤ l.length ∧ j ≠ x) → m.Pairwise (sl l) → adj l (insS l x m) = adj l m + mxL l x m
  | [], _, _ => rfl
  | a :: m, hm, h => by
    rw [List.pairwise_cons] at h
    by_cases ha : sl l a x
    · rw [insS_lt m ha]
      have ih := adj_ins hx (m := m) (fun j hj => hm j (by simp [hj])) h.2
      cases m with
      | nil =>
        show lcp _ _ + adj l [x] = adj l [a] + max (lcp _ _) 0
        rw [lcp_comm]
        show _ + 0 = 0 + _
        omega
      | cons b m =>
        have hab := h.1 b (by simp)
        by_cases hb : sl l b x
        · rw [insS_lt m hb] at ih ⊢
          have e : adj l (a :: b :: insS l x m) = lcp (l.drop a) (l.drop b) + adj l (b :: insS l x m) := rfl
          have e2 : adj l (a :: b :: m) = lcp (l.drop a) (l.drop b) + adj l (b :: m) := rfl
          have e3 : mxL l x (a :: b :: m) = mxL l x (b :: m) := by
            show max _ (mxL l x (b :: m)) = _
            exact Nat.max_eq_right (Nat.le_trans (lcp_far' hb hab) (le_mxL (by simp)))
          rw [e, e2, e3, ih]; omega
        · have hxb : sl l x b := by
            have := hm b (by simp)
            rcases sl_tri this.1 hx with h | h | h
            · exact absurd h hb
            · exact absurd h this.2
            · exact h
          rw [insS_ge m hb]
          have hbm := (List.pairwise_cons.1 h.2).1
          have e : adj l (a :: x :: b :: m) = lcp (l.drop a) (l.drop x) + (lcp (l.drop x) (l.drop b) + adj l (b :: m)) := rfl
          have e2 : adj l (a :: b :: m) = lcp (l.drop a) (l.drop b) + adj l (b :: m) := rfl
          have e3 : mxL l x (a :: b :: m) = max (lcp (l.drop x) (l.drop a)) (lcp (l.drop x) (l.drop b)) := by
            show max _ (max _ (mxL l x m)) = _
            have : mxL l x m ≤ lcp (l.drop x) (l.drop b) := mxL_le fun c hc => lcp_far hxb (hbm c hc)
            omega
          have e4 := lcp_mid ha hxb
          rw [e, e2, e3, lcp_comm (l.drop x) (l.drop a)]
          omega
    · rw [insS_ge m ha]
      have hxa : sl l x a := by
        have := hm a (by simp)
        rcases sl_tri this.1 hx with h | h | h
        · exact absurd h ha
        · exact absurd h this.2
        · exact h
      have e : adj l (x :: a :: m) = lcp (l.drop x) (l.drop a) + adj l (a :: m) := rfl
      have e3 : mxL l x (a :: m) = lcp (l.drop x) (l.drop a) := by
        show max _ (mxL l x m) = _
        have : mxL l x m ≤ lcp (l.drop x) (l.drop a) := mxL_le fun c hc => lcp_far hxa (h.1 c hc)
        omega
      rw [e, e3]; omega
/-- the greatest common beginning of suffix i with one before it -/
def old (l : Bs) (i : Nat) : Nat := maxTo (fun j => lcp (l.drop i) (l.drop j)) i
theorem mxL_old (l : Bs) (i : Nat) : mxL l i (saTo l i) = old l i := by
  apply Nat.le_antisymm
  · exact mxL_le fun a ha => le_maxTo (fun j => lcp (l.drop i) (l.drop j)) (saTo_mem.1 ha)
  · exact maxTo_le _ _ _ fun j hj => le_mxL (saTo_mem.2 hj)
def sumTo (f : Nat → Nat) : Nat → Nat
  | 0 => 0
  | n + 1 => sumTo f n + f n
theorem adj_saTo {l : Bs} : ∀ {k : Nat}, k ≤ l.length + 1 → adj l (saTo l k) = sumTo (old l) k
  | 0, _ => rfl
  | k + 1, h => by
    show adj l (insS l k (saTo l k)) = _
    rw [adj_ins (by omega) (fun j hj => by have := saTo_mem.1 hj; omega) (saTo_sorted (by omega)), adj_saTo (by omega), mxL_old]
    rfl
theorem adj_sum {l : Bs} : ∀ {m : List Nat} , adj l m = sumTo (fun i => lcp (l.drop (m.getD i 0)) (l.drop (m.getD (i + 1) 0))) (m.length - 1)
  | [] => rfl
  | [a] => rfl
  | a :: b :: m => by
    have ih := adj_sum (l := l) (m := b :: m)
    show lcp _ _ + adj l (b :: m) = _
    rw [ih]
    have : ∀ (f : Nat → Nat) n, sumTo f (n + 1) = f 0 + sumTo (fun i => f (i + 1)) n := by
      intro f n
      induction n with
      | zero => show 0 + f 0 = f 0 + 0; omega
      | succ n ih =>
        show sumTo f (n + 1) + f (n + 1) = f 0 + (sumTo (fun i => f (i + 1)) n + f (n + 1))
        rw [ih]; omega
    show _ = sumTo _ (m.length + 1)
    rw [this]
    rfl
/-- the sum of the common beginnings, both ways -/
theorem com_sum (l : Bs) : sumTo (comAt l) l.length = sumTo (old l) l.length := by
  have h := adj_saTo (l := l) (k := l.length + 1) (Nat.le_refl _)
  have h2 : old l l.length = 0 := by
    have := maxTo_le (fun j => lcp (l.drop l.length) (l.drop j)) 0 l.length (fun j _ => by rw [List.drop_length, nil_lcp]; exact Nat.le_refl _)
    unfold old; omega
  have h3 := adj_sum (l := l) (m := saTo l (l.length + 1))
  rw [h, saTo_length, Nat.add_sub_cancel] at h3
  have h4 : sumTo (old l) (l.length + 1) = sumTo (old l) l.length + old l l.length := rfl
  rw [h4, h2] at h3
  exact h3.symm
#print axioms com_sum
end Go.Proofs.Ytbnlkmblkokooaa
