/- Strings as lists of bytes: their order, their common beginnings, the suffix array. Of no program. -/
import Derived.Lib.Bytealg
import Derived.Lib.IndexLaws
namespace Go.Proofs.Ytbnlkmblkokooaa
open Go

abbrev Bs := List UInt8
def lss (a b : Bs) : Bool := Op.bytesLess a b
theorem u8_tri (a b : UInt8) : a < b ∨ a = b ∨ b < a := by
  rcases Nat.lt_trichotomy a.toNat b.toNat with h | h | h
  · exact .inl (UInt8.lt_iff_toNat_lt.2 h)
  · exact .inr (.inl (UInt8.toNat_inj.1 h))
  · exact .inr (.inr (UInt8.lt_iff_toNat_lt.2 h))
theorem u8_irr (a : UInt8) : ¬ a < a := UInt8.lt_irrefl a
theorem u8_tr {a b c : UInt8} (h : a < b) (k : b < c) : a < c := UInt8.lt_trans h k
theorem lss_nil (a : Bs) : lss a [] = false := by cases a <;> rfl
theorem nil_lss (b : UInt8) (l : Bs) : lss [] (b :: l) = true := rfl
theorem lss_cons (a b : UInt8) (x y : Bs) : lss (a :: x) (b :: y) = (decide (a < b) || (a == b && lss x y)) := rfl
theorem lss_same (a : UInt8) (x y : Bs) : lss (a :: x) (a :: y) = lss x y := by rw [lss_cons]; simp
theorem lss_irr : ∀ a : Bs, lss a a = false
  | [] => rfl
  | a :: x => by rw [lss_same]; exact lss_irr x
theorem lss_tr : ∀ {a b c : Bs}, lss a b = true → lss b c = true → lss a c = true
  | _, [], _, h, _ => by rw [lss_nil] at h; cases h
  | _, _ :: _, [], _, k => by rw [lss_nil] at k; cases k
  | [], _ :: _, _ :: _, _, _ => rfl
  | a :: x, b :: y, c :: z, h, k => by
    rw [lss_cons] at h k ⊢
    simp only [Bool.or_eq_true, decide_eq_true_eq, Bool.and_eq_true, beq_iff_eq] at h k ⊢
    rcases h with h | ⟨rfl, h⟩
    · rcases k with k | ⟨rfl, k⟩
      · exact .inl (u8_tr h k)
      · exact .inl h
    · rcases k with k | ⟨rfl, k⟩
      · exact .inl k
      · exact .inr ⟨rfl, lss_tr h k⟩
theorem lss_tri : ∀ (a b : Bs), lss a b = true ∨ a = b ∨ lss b a = true
  | [], [] => .inr (.inl rfl)
  | [], _ :: _ => .inl rfl
  | _ :: _, [] => .inr (.inr rfl)
  | a :: x, b :: y => by
    rcases u8_tri a b with h | rfl | h
    · left; rw [lss_cons]; simp [h]
    · rw [lss_same, lss_same]
      rcases lss_tri x y with h | rfl | h
      · exact .inl h
      · exact .inr (.inl rfl)
      · exact .inr (.inr h)
    · right; right; rw [lss_cons]; simp [h]
theorem lss_as {a b : Bs} (h : lss a b = true) : lss b a = false := by
  cases k : lss b a with
  | false => rfl
  | true => have := lss_tr h k; rw [lss_irr] at this; exact this.symm
theorem cmp_lss : ∀ (a b : Bs), Lib.compareBytes a b = if lss a b then -1 else if lss b a then 1 else 0
  | [], [] => rfl
  | [], _ :: _ => rfl
  | _ :: _, [] => rfl
  | a :: x, b :: y => by
    unfold Lib.compareBytes
    rw [lss_cons, lss_cons, cmp_lss x y]
    rcases u8_tri a b with h | rfl | h
    · simp [h]
    · simp
    · have h1 : ¬ a < b := fun k => u8_irr _ (u8_tr h k)
      have h2 : a ≠ b := by rintro rfl; exact u8_irr _ h
      simp [h, h1, h2]
theorem cmp_neg (a b : Bs) : decide (Lib.compareBytes a b < 0) = lss a b := by
  rw [cmp_lss]
  cases h : lss a b <;> cases k : lss b a <;> simp

/-! ### common beginnings -/
def lcp : Bs → Bs → Nat
  | a :: x, b :: y => if a = b then lcp x y + 1 else 0
  | _, _ => 0
theorem lcp_nil (a : Bs) : lcp a [] = 0 := by cases a <;> rfl
theorem nil_lcp (a : Bs) : lcp [] a = 0 := by cases a <;> rfl
theorem lcp_cons (a b : UInt8) (x y : Bs) : lcp (a :: x) (b :: y) = if a = b then lcp x y + 1 else 0 := rfl
theorem lcp_le : ∀ (a b : Bs), lcp a b ≤ a.length ∧ lcp a b ≤ b.length
  | [], b => by rw [nil_lcp]; exact ⟨Nat.zero_le _, Nat.zero_le _⟩
  | _ :: _, [] => by rw [lcp_nil]; exact ⟨Nat.zero_le _, Nat.zero_le _⟩
  | a :: x, b :: y => by
    rw [lcp_cons]
    have := lcp_le x y
    split <;> simp <;> omega
theorem lcp_comm : ∀ (a b : Bs), lcp a b = lcp b a
  | [], b => by rw [nil_lcp, lcp_nil]
  | _ :: _, [] => rfl
  | a :: x, b :: y => by
    rw [lcp_cons, lcp_cons, lcp_comm x y]
    by_cases h : a = b
    · subst h; rfl
    · rw [if_neg h, if_neg (fun e => h e.symm)]
theorem lcp_self : ∀ a : Bs, lcp a a = a.length
  | [] => rfl
  | a :: x => by rw [lcp_cons, if_pos rfl, lcp_self x]; rfl
/-- k bytes from the front are the same exactly if k is no greater than lcp -/
theorem lcp_ge : ∀ (a b : Bs) (k : Nat), k ≤ lcp a b ↔ a.take k = b.take k ∧ k ≤ a.length ∧ k ≤ b.length
  | _, _, 0 => by simp
  | [], b, k + 1 => by rw [nil_lcp]; simp
  | _ :: _, [], k + 1 => by rw [lcp_nil]; simp
  | a :: x, b :: y, k + 1 => by
    rw [lcp_cons]
    by_cases h : a = b
    · subst h
      rw [if_pos rfl]
      have := lcp_ge x y k
      simp only [Nat.succ_le_succ_iff, List.take_succ_cons, List.cons.injEq, true_and, List.length_cons]
      exact this
    · rw [if_neg h]
      simp [h]
/-- the greatest number of the first bytes that are the same -/
theorem lcp_eq {a b : Bs} {n : Nat} (h1 : a.take n = b.take n) (ha : n ≤ a.length) (hb : n ≤ b.length) (h2 : a[n]? ≠ b[n]? ∨ n = a.length ∨ n = b.length) : lcp a b = n := by
  have h3 : n ≤ lcp a b := (lcp_ge a b n).2 ⟨h1, ha, hb⟩
  rcases Nat.lt_or_ge n (lcp a b) with h | h
  · exfalso
    obtain ⟨e, k1, k2⟩ := (lcp_ge a b (n + 1)).1 h
    rcases h2 with h2 | h2 | h2
    · have e1 : (a.take (n + 1))[n]? = a[n]? := by rw [List.getElem?_take]; simp
      have e2 : (b.take (n + 1))[n]? = b[n]? := by rw [List.getElem?_take]; simp
      rw [e, e2] at e1
      exact h2 e1.symm
    · omega
    · omega
  · omega
/-- the order, by the first bytes that are not the same -/
theorem lss_lcp : ∀ (a b : Bs), lss a b = (match b.drop (lcp a b), a.drop (lcp a b) with | [], _ => false | _ :: _, [] => true | y :: _, x :: _ => decide (x < y))
  | [], [] => rfl
  | [], b :: l => rfl
  | a :: x, [] => rfl
  | a :: x, b :: y => by
    rw [lcp_cons]
    by_cases h : a = b
    · subst h
      rw [if_pos rfl, lss_same, lss_lcp x y]
      rfl
    · rw [if_neg h, lss_cons]
      simp [h]

/-! ### sorted lists -/
theorem sorted_unique {α : Type} {r : α → α → Prop} (hirr : ∀ x, ¬ r x x) (htr : ∀ x y z, r x y → r y z → r x z) : ∀ {l m : List α}, l.Perm m → l.Pairwise r → m.Pairwise r → l = m
  | [], m, hp, _, _ => (List.Perm.nil_eq hp)
  | a :: l, [], hp, _, _ => by have := hp.length_eq; simp at this
  | a :: l, b :: m, hp, h1, h2 => by
    rw [List.pairwise_cons] at h1 h2
    have e : a = b := by
      have ha : a ∈ b :: m := hp.subset (by simp)
      have hb : b ∈ a :: l := hp.symm.subset (by simp)
      rcases List.mem_cons.1 ha with e | ha
      · exact e
      · rcases List.mem_cons.1 hb with e | hb
        · exact e.symm
        · exact absurd (htr _ _ _ (h1.1 b hb) (h2.1 a ha)) (hirr _)
    subst e
    rw [sorted_unique hirr htr (List.Perm.cons_inv hp) h1.2 h2.2]

/-! ### the suffix array -/
/-- suffix i is less than suffix j -/
def sl (l : Bs) (i j : Nat) : Prop := lss (l.drop i) (l.drop j) = true
instance (l : Bs) (i j : Nat) : Decidable (sl l i j) := inferInstanceAs (Decidable (_ = true))
theorem sl_irr (l : Bs) (i : Nat) : ¬ sl l i i := by unfold sl; rw [lss_irr]; simp
theorem sl_tr {l : Bs} {i j k : Nat} (h : sl l i j) (g : sl l j k) : sl l i k := lss_tr h g
theorem sl_tri {l : Bs} {i j : Nat} (hi : i ≤ l.length) (hj : j ≤ l.length) : sl l i j ∨ i = j ∨ sl l j i := by
  rcases lss_tri (l.drop i) (l.drop j) with h | h | h
  · exact .inl h
  · have := congrArg List.length h
    rw [List.length_drop, List.length_drop] at this
    exact .inr (.inl (by omega))
  · exact .inr (.inr h)
theorem sl_as {l : Bs} {i j : Nat} (h : sl l i j) : ¬ sl l j i := fun k => sl_irr l i (sl_tr h k)
/-- a list of all suffixes, rising -/
def IsSa (l : Bs) (m : List Nat) : Prop := m.Perm (List.range (l.length + 1)) ∧ m.Pairwise (sl l)
theorem isSa_unique {l : Bs} {m k : List Nat} (h : IsSa l m) (g : IsSa l k) : m = k :=
  sorted_unique (sl_irr l) (fun _ _ _ => sl_tr) (h.1.trans g.1.symm) h.2 g.2
/-- i put at its place -/
def insS (l : Bs) (i : Nat) (m : List Nat) : List Nat := m.takeWhile (fun j => decide (sl l j i)) ++ i :: m.dropWhile (fun j => decide (sl l j i))
theorem insS_perm (l : Bs) (i : Nat) (m : List Nat) : (insS l i m).Perm (i :: m) := by
  unfold insS
  refine List.perm_middle.trans ?_
  rw [List.takeWhile_append_dropWhile]
theorem insS_sorted {l : Bs} {i : Nat} {m : List Nat} (hi : i ≤ l.length) (hm : ∀ j ∈ m, j ≤ l.length ∧ j ≠ i) (h : m.Pairwise (sl l)) : (insS l i m).Pairwise (sl l) := by
  induction m with
  | nil => simp [insS]
  | cons a m ih =>
    rw [List.pairwise_cons] at h
    unfold insS
    by_cases ha : sl l a i
    · rw [List.takeWhile_cons_of_pos (by simpa using ha), List.dropWhile_cons_of_pos (by simpa using ha), List.cons_append, List.pairwise_cons]
      refine ⟨fun x hx => ?_, ih (fun j hj => hm j (by simp [hj])) h.2⟩
      have : x ∈ i :: m := (insS_perm l i m).subset hx
      rcases List.mem_cons.1 this with rfl | hx
      · exact ha
      · exact h.1 x hx
    · rw [List.takeWhile_cons_of_neg (by simpa using ha), List.dropWhile_cons_of_neg (by simpa using ha), List.nil_append, List.pairwise_cons]
      have hia : sl l i a := by
        have := hm a (by simp)
        rcases sl_tri this.1 hi with h | h | h
        · exact absurd h ha
        · exact absurd h this.2
        · exact h
      refine ⟨fun x hx => ?_, List.pairwise_cons.2 h⟩
      rcases List.mem_cons.1 hx with rfl | hx
      · exact hia
      · exact sl_tr hia (h.1 x hx)
/-- the first k suffixes, sorted -/
def saTo (l : Bs) : Nat → List Nat
  | 0 => []
  | k + 1 => insS l k (saTo l k)
theorem saTo_perm (l : Bs) : ∀ k, (saTo l k).Perm (List.range k)
  | 0 => List.Perm.refl _
  | k + 1 => by
    rw [List.range_succ]
    exact (insS_perm l k _).trans (((saTo_perm l k).cons k).trans (List.perm_append_comm (l₁ := [k])))
theorem saTo_mem {l : Bs} {k x : Nat} : x ∈ saTo l k ↔ x < k := by rw [(saTo_perm l k).mem_iff, List.mem_range]
theorem saTo_length (l : Bs) (k : Nat) : (saTo l k).length = k := by rw [(saTo_perm l k).length_eq, List.length_range]
theorem saTo_sorted {l : Bs} : ∀ {k}, k ≤ l.length + 1 → (saTo l k).Pairwise (sl l)
  | 0, _ => List.Pairwise.nil
  | k + 1, h => insS_sorted (by omega) (fun j hj => by have := saTo_mem.1 hj; omega) (saTo_sorted (by omega))
def sa (l : Bs) : List Nat := saTo l (l.length + 1)
theorem sa_is (l : Bs) : IsSa l (sa l) := ⟨saTo_perm l _, saTo_sorted (Nat.le_refl _)⟩
theorem sa_length (l : Bs) : (sa l).length = l.length + 1 := saTo_length _ _
theorem sa_mem {l : Bs} {x : Nat} : x ∈ sa l ↔ x ≤ l.length := by unfold sa; rw [saTo_mem]; omega
/-- the suffix at place k -/
def saAt (l : Bs) (k : Nat) : Nat := (sa l).getD k 0
theorem saAt_get {l : Bs} {k : Nat} (h : k < (sa l).length) : (sa l)[k] = saAt l k := by simp [saAt, List.getD, List.getElem?_eq_getElem h]
theorem saAt_le (l : Bs) (k : Nat) : saAt l k ≤ l.length := by
  unfold saAt
  by_cases h : k < (sa l).length
  · rw [List.getD_eq_getElem?_getD, List.getElem?_eq_getElem h]; exact sa_mem.1 (List.getElem_mem h)
  · rw [List.getD_eq_getElem?_getD, List.getElem?_eq_none (by omega)]; exact Nat.zero_le _
theorem saAt_lt {l : Bs} {i j : Nat} (h : i < j) (hj : j ≤ l.length) : sl l (saAt l i) (saAt l j) := by
  have hs := (sa_is l).2
  have hl := sa_length l
  rw [List.pairwise_iff_getElem] at hs
  have := hs i j (by omega) (by omega) h
  rwa [saAt_get, saAt_get] at this
/-- the common beginnings -/
def comAt (l : Bs) (i : Nat) : Nat := lcp (l.drop (saAt l i)) (l.drop (saAt l (i + 1)))
def com (l : Bs) : List Nat := (List.range l.length).map (comAt l)
theorem com_length (l : Bs) : (com l).length = l.length := by simp [com]
theorem comAt_le (l : Bs) (i : Nat) : comAt l i ≤ l.length := by
  have := (lcp_le (l.drop (saAt l i)) (l.drop (saAt l (i + 1)))).1
  rw [List.length_drop] at this
  unfold comAt; omega

/-- a label -/
def letterB (c : UInt8) : Bool := decide (32 ≤ c.toNat ∧ c.toNat ≤ 126)
def Lab (l : Bs) : Prop := l.length ≤ 200 ∧ ∀ c ∈ l, letterB c = true
instance (l : Bs) : Decidable (Lab l) := inferInstanceAs (Decidable (_ ∧ _))
#print axioms sa_is
#print axioms lss_lcp
end Go.Proofs.Ytbnlkmblkokooaa
