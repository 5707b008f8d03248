/- A label backward: of no program. -/
import Derived.Test.YtbnlkmblkokooaaLng
import Derived.Test.YtbnlkmblkokooaaLf
namespace Go.Proofs.Ytbnlkmblkokooaa
open Go

/-- q stands in l at i -/
def At (l q : Bs) (i : Nat) : Prop := i + q.length ≤ l.length ∧ (l.drop i).take q.length = q
theorem at_iff {l q : Bs} {i : Nat} : At l q i ↔ ∃ A B, l = A ++ q ++ B ∧ A.length = i := by
  constructor
  · rintro ⟨h1, h2⟩
    refine ⟨l.take i, l.drop (i + q.length), ?_, by rw [List.length_take]; omega⟩
    conv => lhs; rw [← List.take_append_drop i l]
    rw [List.append_assoc]
    congr 1
    conv => lhs; rw [← List.take_append_drop q.length (l.drop i), h2, List.drop_drop]
  · rintro ⟨A, B, rfl, rfl⟩
    refine ⟨by simp only [List.length_append]; omega, ?_⟩
    rw [List.append_assoc, List.drop_left, List.take_left]
theorem at_rev {l q : Bs} {i : Nat} (h : At l q i) : At l.reverse q.reverse (l.length - i - q.length) := by
  obtain ⟨A, B, rfl, rfl⟩ := at_iff.1 h
  refine at_iff.2 ⟨B.reverse, A.reverse, by simp [List.append_assoc], ?_⟩
  simp only [List.length_reverse, List.length_append]
  omega
theorem at_lcp {l : Bs} {i j m : Nat} : m ≤ lcp (l.drop i) (l.drop j) ↔ (l.drop i).take m = (l.drop j).take m ∧ m ≤ l.length - i ∧ m ≤ l.length - j := by
  rw [lcp_ge, List.length_drop, List.length_drop]
theorem nodup_len : ∀ {l m : List Bs}, l.Nodup → (∀ x ∈ l, x ∈ m) → l.length ≤ m.length
  | [], _, _, _ => Nat.zero_le _
  | a :: l, m, h, hs => by
    rw [List.nodup_cons] at h
    have hm : a ∈ m := hs a (by simp)
    have h1 := nodup_len (l := l) (m := m.erase a) h.2 fun x hx => by
      refine (List.mem_erase_of_ne ?_).2 (hs x (by simp [hx]))
      intro e; subst e; exact h.1 hx
    rw [List.length_erase_of_mem hm] at h1
    have := List.length_pos_of_mem hm
    rw [List.length_cons]; omega
theorem nodup_lenN : ∀ {l m : List Nat}, l.Nodup → (∀ x ∈ l, x ∈ m) → l.length ≤ m.length
  | [], _, _, _ => Nat.zero_le _
  | a :: l, m, h, hs => by
    rw [List.nodup_cons] at h
    have hm : a ∈ m := hs a (by simp)
    have h1 := nodup_lenN (l := l) (m := m.erase a) h.2 fun x hx => by
      refine (List.mem_erase_of_ne ?_).2 (hs x (by simp [hx]))
      intro e; subst e; exact h.1 hx
    rw [List.length_erase_of_mem hm] at h1
    have := List.length_pos_of_mem hm
    rw [List.length_cons]; omega
theorem nodup_img {α β : Type} {f : α → β} : ∀ {l : List α}, (∀ a ∈ l, ∀ b ∈ l, f a = f b → a = b) → l.Nodup → (l.map f).Nodup
  | [], _, _ => List.nodup_nil
  | a :: l, hf, h => by
    rw [List.nodup_cons] at h
    rw [List.map_cons, List.nodup_cons]
    refine ⟨fun g => ?_, nodup_img (fun x hx y hy => hf x (by simp [hx]) y (by simp [hy])) h.2⟩
    obtain ⟨b, hb, e⟩ := List.mem_map.1 g
    rw [hf b (by simp [hb]) a (by simp) e] at hb
    exact h.1 hb
/-- the different strings, each at its first place -/
def facs (l : Bs) : Nat → List Bs
  | 0 => []
  | i + 1 => facs l i ++ (List.range (l.length - i - old l i)).map fun m => (l.drop i).take (old l i + 1 + m)
theorem facs_len (l : Bs) : ∀ k, (facs l k).length = disR l k
  | 0 => rfl
  | k + 1 => by
    unfold facs
    rw [List.length_append, facs_len l k, List.length_map, List.length_range]
    rfl
theorem facs_mem {l q : Bs} : ∀ {k : Nat}, q ∈ facs l k ↔ q ≠ [] ∧ ∃ i, i < k ∧ At l q i
  | 0 => by simp [facs]
  | k + 1 => by
    unfold facs
    rw [List.mem_append, facs_mem (k := k), List.mem_map]
    constructor
    · rintro (⟨h1, i, hi, h2⟩ | ⟨m, hm, rfl⟩)
      · exact ⟨h1, i, by omega, h2⟩
      · have hm := List.mem_range.1 hm
        have hl : ((l.drop k).take (old l k + 1 + m)).length = old l k + 1 + m := by rw [List.length_take, List.length_drop]; omega
        refine ⟨fun e => ?_, k, by omega, ?_, ?_⟩
        · rw [e] at hl; simp at hl; omega
        · rw [hl]; omega
        · rw [hl]
    · rintro ⟨h0, i, hi, h1, h2⟩
      have hp : 0 < q.length := List.length_pos_iff.2 h0
      by_cases hj : ∃ j, j < k ∧ At l q j
      · exact .inl ⟨h0, hj⟩
      · obtain rfl : i = k := by
          by_cases e : i < k
          · exact absurd ⟨i, e, h1, h2⟩ hj
          · omega
        right
        have hq : old l i < q.length := by
          refine Nat.lt_of_not_le fun g => ?_
          rcases maxTo_at (fun j => lcp (l.drop i) (l.drop j)) i with e | ⟨j, hji, e⟩
          · have : old l i = 0 := e
            omega
          · have e : lcp (l.drop i) (l.drop j) = old l i := e
            rw [← e] at g
            obtain ⟨g1, g2, g3⟩ := at_lcp.1 g
            exact hj ⟨j, hji, by omega, by rw [← g1, h2]⟩
        refine ⟨q.length - old l i - 1, List.mem_range.2 (by omega), ?_⟩
        rw [show old l i + 1 + (q.length - old l i - 1) = q.length by omega, h2]
theorem facs_nodup (l : Bs) : ∀ k, (facs l k).Nodup
  | 0 => List.nodup_nil
  | k + 1 => by
    unfold facs
    rw [List.nodup_append]
    refine ⟨facs_nodup l k, nodup_img (fun a ha b hb e => ?_) List.nodup_range, ?_⟩
    · have ha := List.mem_range.1 ha
      have hb := List.mem_range.1 hb
      have e := congrArg List.length e
      rw [List.length_take, List.length_take, List.length_drop] at e
      omega
    · intro x hx y hy e
      subst e
      obtain ⟨_, i, hi, h1, h2⟩ := facs_mem.1 hx
      obtain ⟨m, hm, e⟩ := List.mem_map.1 hy
      have hm := List.mem_range.1 hm
      have hl : x.length = old l k + 1 + m := by rw [← e, List.length_take, List.length_drop]; omega
      have h3 : x.length ≤ lcp (l.drop k) (l.drop i) := at_lcp.2 ⟨by rw [h2, ← e, List.length_take, List.length_drop]; congr 1; omega, by omega, by omega⟩
      have h4 : lcp (l.drop k) (l.drop i) ≤ old l k := le_maxTo (fun j => lcp (l.drop k) (l.drop j)) hi
      omega
theorem disR_rev_le (l : Bs) : disR l l.length ≤ disR l.reverse l.reverse.length := by
  rw [← facs_len, ← facs_len, show (facs l l.length).length = ((facs l l.length).map List.reverse).length by simp]
  refine nodup_len (nodup_img (fun a _ b _ e => List.reverse_inj.1 e) (facs_nodup _ _)) fun x hx => ?_
  obtain ⟨q, hq, rfl⟩ := List.mem_map.1 hx
  obtain ⟨h0, i, hi, h⟩ := facs_mem.1 hq
  have hp : 0 < q.length := List.length_pos_iff.2 h0
  refine facs_mem.2 ⟨by simpa using h0, _, ?_, at_rev h⟩
  rw [List.length_reverse]
  omega
theorem disI_rev (l : Bs) : disI l.reverse = disI l := by
  rw [← dis_eq, ← dis_eq]
  have h1 := disR_rev_le l
  have h2 := disR_rev_le l.reverse
  rw [List.reverse_reverse] at h2
  omega
theorem lon_rev_le (l : Bs) : (lonTo l l.length).length ≤ (lonTo l.reverse l.reverse.length).length := by
  rcases (lonTo_isLon l).1 with h0 | ⟨i, j, hj, hi, e⟩
  · rw [h0]; exact Nat.zero_le _
  · have hb := (lonTo_isLon l.reverse).2
    obtain ⟨s, hs⟩ : ∃ s, s = lonTo l l.length := ⟨_, rfl⟩
    rw [← hs] at e ⊢
    have hl := cmn_length l i j
    rw [← e] at hl
    by_cases hz : s.length = 0
    · omega
    · obtain ⟨g1, g2, g3⟩ := at_lcp.1 (Nat.le_of_eq hl)
      have e1 : (l.drop i).take s.length = s := by rw [hl, e]; rfl
      have a1 := at_rev (show At l s i from ⟨by omega, e1⟩)
      have a2 := at_rev (show At l s j from ⟨by omega, by rw [← g1]; exact e1⟩)
      obtain ⟨b1, b2⟩ := a1
      obtain ⟨c1, c2⟩ := a2
      have hc : s.reverse.length ≤ lcp (l.reverse.drop (l.length - j - s.length)) (l.reverse.drop (l.length - i - s.length)) := at_lcp.2 ⟨by rw [c2, b2], by omega, by omega⟩
      have hn := hb (l.length - j - s.length) (l.length - i - s.length) (by rw [List.length_reverse] at *; omega) (by rw [List.length_reverse] at *; omega)
      rw [List.length_reverse] at hc
      refine Nat.le_of_not_lt fun g => hn (.inl ?_)
      rw [cmn_length]
      omega
theorem lon_rev (l : Bs) : (lonTo l.reverse l.reverse.length).length = (lonTo l l.length).length := by
  have h1 := lon_rev_le l
  have h2 := lon_rev_le l.reverse
  rw [List.reverse_reverse] at h2
  omega
theorem lonE_rev (l : Bs) : lonE (lonTo l.reverse l.reverse.length) = lonE (lonTo l l.length) := by
  have h := lon_rev l
  unfold lonE
  by_cases e : lonTo l l.length = []
  · rw [e] at h
    rw [if_pos e, if_pos (List.eq_nil_of_length_eq_zero h)]
  · rw [if_neg e, if_neg fun g => e (by rw [g] at h; exact List.eq_nil_of_length_eq_zero h.symm)]
theorem occ_at {l q : Bs} {i : Nat} : i ∈ occ' l q ↔ At l q i := by
  unfold occ' At
  rw [List.mem_filter, List.mem_range, List.isPrefixOf_iff_prefix]
  constructor
  · rintro ⟨h1, h2⟩
    have h3 := h2.length_le
    rw [List.length_drop] at h3
    exact ⟨by omega, (List.prefix_iff_eq_take.1 h2).symm⟩
  · rintro ⟨h1, h2⟩
    exact ⟨by omega, List.prefix_iff_eq_take.2 h2.symm⟩
theorem occ_rev_le (l q : Bs) : (occ' l q).length ≤ (occ' l.reverse q.reverse).length := by
  rw [show (occ' l q).length = ((occ' l q).map fun i => l.length - i - q.length).length by simp]
  refine nodup_lenN (nodup_img (fun a ha b hb e => ?_) (List.nodup_range.sublist List.filter_sublist)) fun x hx => ?_
  · have h1 := (occ_at.1 ha).1
    have h2 := (occ_at.1 hb).1
    omega
  · obtain ⟨i, hi, rfl⟩ := List.mem_map.1 hx
    exact occ_at.2 (at_rev (occ_at.1 hi))
theorem occ_rev (l q : Bs) : (occ' l.reverse q.reverse).length = (occ' l q).length := by
  have h1 := occ_rev_le l q
  have h2 := occ_rev_le l.reverse q.reverse
  rw [List.reverse_reverse, List.reverse_reverse] at h2
  omega
theorem lab_rev (l : Bs) : Lab l.reverse ↔ Lab l := by
  unfold Lab
  rw [List.length_reverse]
  simp only [List.mem_reverse]
#print axioms disI_rev
#print axioms lonE_rev
#print axioms occ_rev
end Go.Proofs.Ytbnlkmblkokooaa
