/- What repeats, and what does not: of no program. -/
import Derived.Test.YtbnlkmblkokooaaAbw
import Derived.Test.YtbnlkmblkokooaaLf
namespace Go.Proofs.Ytbnlkmblkokooaa
open Go

theorem occ_mem {l q : Bs} {i : Nat} (h : i + q.length ≤ l.length) (e : (l.drop i).take q.length = q) : i ∈ occ' l q := by
  unfold occ'
  refine List.mem_filter.2 ⟨List.mem_range.2 (by omega), ?_⟩
  rw [List.isPrefixOf_iff_prefix, List.prefix_iff_eq_take, e]
theorem occ_get {l q : Bs} {i : Nat} (h : i ∈ occ' l q) : i ≤ l.length ∧ (l.drop i).take q.length = q ∧ i + q.length ≤ l.length := by
  unfold occ' at h
  obtain ⟨h1, h2⟩ := List.mem_filter.1 h
  have h1 := List.mem_range.1 h1
  rw [List.isPrefixOf_iff_prefix] at h2
  have h3 := h2.length_le
  rw [List.length_drop] at h3
  exact ⟨by omega, (List.prefix_iff_eq_take.1 h2).symm, by omega⟩
theorem occ_nodup (l q : Bs) : (occ' l q).Nodup := List.nodup_range.sublist List.filter_sublist
theorem len_two {m : List Nat} {i j : Nat} (hi : i ∈ m) (hj : j ∈ m) (h : i ≠ j) : 2 ≤ m.length := by
  match m, hi, hj with
  | [a], hi, hj =>
    simp only [List.mem_singleton] at hi hj
    exact absurd (hi.trans hj.symm) h
  | _ :: _ :: _, _, _ => simp
theorem len_one {m : List Nat} {i : Nat} (hd : m.Nodup) (hi : i ∈ m) (h : ∀ j ∈ m, j = i) : m.length = 1 := by
  match m, hi, hd, h with
  | [a], _, _, _ => rfl
  | a :: b :: r, _, hd, h =>
    have h1 := h a (by simp)
    have h2 := h b (by simp)
    rw [List.nodup_cons] at hd
    exact absurd (by simp [h1, h2]) hd.1
theorem lon_two {l : Bs} (h : lonTo l l.length ≠ []) : 2 ≤ (occ' l (lonTo l l.length)).length := by
  rcases (lonTo_isLon l).1 with h0 | ⟨i, j, hj, hi, e⟩
  · exact absurd h0 h
  · rw [e]
    have hl := cmn_length l i j
    have h1 := (lcp_le (l.drop i) (l.drop j))
    rw [List.length_drop, List.length_drop] at h1
    refine len_two (i := i) (j := j) (occ_mem (by omega) ?_) (occ_mem (by omega) ?_) (by omega)
    · rw [hl]; rfl
    · rw [hl, cmn_comm, lcp_comm]; rfl
theorem lon_one {l : Bs} {i : Nat} (h : i + (lonTo l l.length).length + 1 ≤ l.length) : (occ' l ((l.drop i).take ((lonTo l l.length).length + 1))).length = 1 := by
  have hb := (lonTo_isLon l).2
  obtain ⟨s, hs⟩ : ∃ s, s = lonTo l l.length := ⟨_, rfl⟩
  rw [← hs] at hb h ⊢
  have hq : ((l.drop i).take (s.length + 1)).length = s.length + 1 := by rw [List.length_take, List.length_drop]; omega
  refine len_one (i := i) (occ_nodup _ _) (occ_mem (by omega) (by rw [hq])) fun j hj => ?_
  obtain ⟨h1, h2, h3⟩ := occ_get hj
  rw [hq] at h2 h3
  have hc : s.length + 1 ≤ lcp (l.drop i) (l.drop j) := (lcp_ge _ _ _).2 ⟨h2.symm, by rw [List.length_drop]; omega, by rw [List.length_drop]; omega⟩
  rcases Nat.lt_trichotomy i j with g | g | g
  · exact absurd (.inl (by rw [cmn_length, lcp_comm]; omega)) (hb j i g (by omega))
  · exact g.symm
  · exact absurd (.inl (by rw [cmn_length]; omega)) (hb i j g (by omega))
theorem lvl_mem {L : Bs} : ∀ {k : Nat} {s : Bs}, s ∈ lvl L k → ∀ c ∈ s, c ∈ L
  | 0, s, h => by simp [lvl] at h; subst h; intro c hc; cases hc
  | k + 1, s, h => by
    simp only [lvl, List.mem_flatMap, List.mem_map] at h
    obtain ⟨u, hu, c, hc, rfl⟩ := h
    intro d hd
    rcases List.mem_append.1 hd with hd | hd
    · exact lvl_mem hu d hd
    · simp only [List.mem_singleton] at hd; subst hd; exact hc
theorem lvl_lab {L : Bs} (hL : LetOK L) {k : Nat} {s : Bs} (h : s ∈ lvl L k) (hk : k ≤ 200) : Lab s :=
  ⟨by rw [lvl_len h]; exact hk, fun c hc => hL.2.2.1 c (lvl_mem h c hc)⟩
theorem occ_some {t q : Bs} (h : Lib.contains t q = true) : (occ' t q).length ≠ 0 := by
  obtain ⟨j, hj, ho⟩ := (contains_iff t q).1 h
  have hm : j ∈ occ' t q := List.mem_filter.2 ⟨List.mem_range.2 (by omega), ho⟩
  exact Nat.ne_of_gt (List.length_pos_of_mem hm)
theorem occ_none {t q : Bs} (h : Lib.contains t q = false) : (occ' t q).length = 0 := by
  have h1 : occ' t q = [] := by
    unfold occ'
    rw [List.filter_eq_nil_iff]
    intro j hj ho
    have : Lib.contains t q = true := (contains_iff t q).2 ⟨j, by have := List.mem_range.1 hj; omega, ho⟩
    rw [h] at this; cases this
  rw [h1]; rfl
#print axioms lon_two
#print axioms lon_one
end Go.Proofs.Ytbnlkmblkokooaa
