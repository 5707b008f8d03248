/- Math: the core of a core; a core's results. -/
import Derived.Test.YtfplmdieeabgpaaCor
import Derived.Test.YtfplmdieeabgpaaRsl
namespace Go.Proofs.Ytfplmdieeabgpaa
open Go.RowKit
theorem sorted_eq : ∀ {l m : List Nat}, l.Pairwise (· < ·) → m.Pairwise (· < ·) → (∀ x, x ∈ l ↔ x ∈ m) → l = m
  | [], [], _, _, _ => rfl
  | [], y :: m, _, _, h => by have := (h y).2 (by simp); simp at this
  | x :: l, [], _, _, h => by have := (h x).1 (by simp); simp at this
  | x :: l, y :: m, hl, hm, h => by
    obtain ⟨l1, l2⟩ := List.pairwise_cons.1 hl
    obtain ⟨m1, m2⟩ := List.pairwise_cons.1 hm
    have e : x = y := by
      rcases List.mem_cons.1 ((h x).1 (by simp)) with k | k
      · exact k
      · rcases List.mem_cons.1 ((h y).2 (by simp)) with j | j
        · exact j.symm
        · have := m1 x k
          have := l1 y j
          omega
    subst e
    rw [sorted_eq l2 m2 fun z => ?_]
    constructor
    · intro hz
      rcases List.mem_cons.1 ((h z).1 (List.mem_cons_of_mem _ hz)) with k | k
      · have := l1 z hz; omega
      · exact k
    · intro hz
      rcases List.mem_cons.1 ((h z).2 (List.mem_cons_of_mem _ hz)) with k | k
      · have := m1 z hz; omega
      · exact k
theorem chL_sorted (S : Nat) : ∀ k, (chL S k).Pairwise (· < ·)
  | 0 => by simp [chL]
  | k + 1 => by
    rw [chL]
    by_cases c : S.testBit k = true
    · rw [if_pos c]
      refine List.pairwise_append.2 ⟨chL_sorted S k, by simp, fun a ha b hb => ?_⟩
      simp at hb; subst hb
      exact ((mem_chL _).1 ha).1
    · rw [if_neg c]; exact chL_sorted S k
/-- a number for each set -/
theorem num_of (P : Nat → Prop) : ∀ n, ∃ S, S < 2 ^ n ∧ ∀ i, mem' S i ↔ i < n ∧ P i
  | 0 => ⟨0, by simp, fun i => ⟨fun h => by simp [mem'] at h, fun h => by omega⟩⟩
  | n + 1 => by
    obtain ⟨S, h1, h2⟩ := num_of P n
    have hp : 2 ^ (n + 1) = 2 * 2 ^ n := by rw [Nat.pow_succ]; omega
    by_cases c : P n
    · refine ⟨S ||| 2 ^ n, Nat.or_lt_two_pow (by omega) (Nat.pow_lt_pow_right (by decide) (by omega)), fun i => ?_⟩
      have := h2 i
      unfold mem' at this ⊢
      rw [Nat.testBit_or, Bool.or_eq_true, this, Nat.testBit_two_pow, decide_eq_true_iff]
      constructor
      · rintro (⟨k1, k2⟩ | k)
        · exact ⟨by omega, k2⟩
        · rw [← k]; exact ⟨by omega, c⟩
      · rintro ⟨k1, k2⟩
        by_cases e : n = i
        · exact .inr e
        · exact .inl ⟨by omega, k2⟩
    · refine ⟨S, by omega, fun i => ?_⟩
      rw [h2 i]
      refine ⟨fun ⟨k1, k2⟩ => ⟨by omega, k2⟩, fun ⟨k1, k2⟩ => ⟨?_, k2⟩⟩
      by_cases e : i = n
      · rw [e] at k2; exact absurd k2 c
      · omega
theorem partA_get {l : List HAt} {L : List Nat} {j : Nat} (hj : j < L.length) : (aR (partA l L) j, aA (partA l L) j) = (aR l (L.getD j 0), aA l (L.getD j 0)) := by
  have : (partA l L).getD j (0, []) = (aR l (L.getD j 0), aA l (L.getD j 0)) := by
    simp [partA, List.getD_eq_getElem?_getD, hj]
  show ((partA l L).getD j (0, []) : HAt) = _
  exact this
/-- some atoms of some atoms -/
theorem part_part {q : HQ} {S T : Nat} : ∃ S', S' < 2 ^ q.2.length ∧ chL S' q.2.length = (chL T (chL S q.2.length).length).map (fun j => (chL S q.2.length).getD j 0) ∧ partQ q S' = partQ (partQ q S) T := by
  obtain ⟨c, hc⟩ : ∃ c, c = chL S q.2.length := ⟨_, rfl⟩
  have hs := chL_sorted S q.2.length
  have hm : ∀ x, x ∈ c → x < q.2.length := fun x hx => by rw [hc] at hx; exact ((mem_chL _).1 hx).1
  rw [← hc] at hs ⊢
  obtain ⟨S', s1, s2⟩ := num_of (fun i => ∃ j, j ∈ chL T c.length ∧ i = c.getD j 0) q.2.length
  have gt : ∀ j, j < c.length → c.getD j 0 = c.getD j 0 ∧ c.getD j 0 ∈ c := fun j hj => ⟨rfl, by rw [List.getD_eq_getElem?_getD, List.getElem?_eq_getElem hj]; exact List.getElem_mem hj⟩
  have e : chL S' q.2.length = (chL T c.length).map (fun j => c.getD j 0) := by
    refine sorted_eq (chL_sorted _ _) ?_ fun x => ?_
    · refine List.pairwise_map.2 ((chL_sorted T c.length).imp_of_mem fun {a b} ha hb hab => ?_)
      have h1 := ((mem_chL _).1 ha).1
      have h2 := ((mem_chL _).1 hb).1
      rw [List.getD_eq_getElem?_getD, List.getElem?_eq_getElem h1, List.getD_eq_getElem?_getD, List.getElem?_eq_getElem h2]
      exact List.pairwise_iff_getElem.1 hs a b h1 h2 hab
    · rw [mem_chL, s2, List.mem_map]
      constructor
      · rintro ⟨_, _, j, h1, h2⟩; exact ⟨j, h1, h2.symm⟩
      · rintro ⟨j, h1, rfl⟩
        have := hm _ (gt j ((mem_chL _).1 h1).1).2
        exact ⟨this, this, j, h1, rfl⟩
  refine ⟨S', s1, e, ?_⟩
  have hl : (partQ q S).2.length = c.length := by unfold partQ; rw [partA_len, hc]
  refine Prod.ext rfl ?_
  show partA q.2 (chL S' q.2.length) = partA (partQ q S).2 (chL T (partQ q S).2.length)
  rw [e, hl]
  show List.map _ (List.map _ _) = List.map _ _
  rw [List.map_map]
  refine List.map_congr_left fun j hj => ?_
  have := partA_get (l := q.2) (L := c) (j := j) ((mem_chL _).1 hj).1
  rw [show (partQ q S).2 = partA q.2 c by rw [hc]; rfl]
  exact this.symm
theorem good_hom {q : HQ} (hq : QrV q) {S : Nat} (h : Good q S) : ∃ x, HomP q (partQ q S) x := by
  obtain ⟨h1, x, hx⟩ := h
  exact ⟨x, homP_of hq h1 hx⟩
theorem comp_hom {p q r : HQ} (hp : QrV p) (hq : QrV q) (hl : p.1.length = q.1.length) {h k : List Int} (H : HomP p q h) (K : HomP q r k) : ∃ c, HomP p r c := by
  refine ⟨(List.range 8).map fun i => if 0 ≤ h.getD i 0 ∧ h.getD i 0 < 8 then k.getD (h.getD i 0).toNat 0 else h.getD i 0, hom_comp hp hq hl H K (by simp) fun i hi => ?_⟩
  rw [List.getD_eq_getElem?_getD, List.getElem?_map, List.getElem?_range hi]; rfl
/-- the core of the core is all of it -/
theorem core_core {q : HQ} (hq : QrV q) {S : Nat} (h0 : 0 < S) (hS : S < 2 ^ q.2.length) (hg : Good q S) (hm : ∀ S', 0 < S' → S' < 2 ^ q.2.length → Good q S' → LeL (chL S q.2.length) (chL S' q.2.length)) {d : List Nat} (hd : CoreL (partQ q S) d) : d.length = (chL S q.2.length).length := by
  obtain ⟨T, t1, t2, t3, rfl, t4⟩ := hd
  have hl : (partQ q S).2.length = (chL S q.2.length).length := by unfold partQ; rw [partA_len]
  have hc0 := chL_pos h0 hS
  rw [hl] at t2 t4 ⊢
  have hle : (chL T (chL S q.2.length).length).length ≤ (chL S q.2.length).length := chL_len _ _
  obtain ⟨S', s1, s2, s3⟩ := part_part (q := q) (S := S) (T := T)
  have hlen : (chL S' q.2.length).length = (chL T (chL S q.2.length).length).length := by rw [s2, List.length_map]
  have hd0 := chL_pos t1 t2
  have hs0 : 0 < S' := by
    rcases Nat.eq_zero_or_pos S' with c | c
    · have : chL S' q.2.length = [] := by
        rw [List.eq_nil_iff_forall_not_mem]
        intro x hx
        have := ((mem_chL _).1 hx).2
        rw [c] at this; simp [mem'] at this
      rw [this] at hlen
      simp only [List.length_nil] at hlen
      omega
    · exact c
  have g' : Good q S' := by
    obtain ⟨x, hx⟩ := good_hom hq hg
    obtain ⟨y, hy⟩ := good_hom hg.1 t3
    obtain ⟨z, hz⟩ := comp_hom hq hg.1 rfl hx hy
    unfold Good
    rw [s3]
    exact ⟨t3.1, z, isH_of hq t3.1 hz⟩
  have := hm S' hs0 s1 g'
  rcases this with h | ⟨h, _⟩ <;> omega
theorem core_res {q : HQ} (hq : QrV q) {S : Nat} (hg : Good q S) {l : List HAt} {R R' : List (List Int)} (hR : IsRes q l R) (hR' : IsRes (partQ q S) l R') : R = R' := by
  obtain ⟨x, hx⟩ := good_hom hq hg
  have hy := sub_hom hg.1 (q := q) rfl partQ_sub
  refine strict_eq hR.1 hR'.1 fun r => ?_
  rw [hR.2, hR'.2]
  constructor
  · rintro ⟨v, hv, rfl⟩
    obtain ⟨v', h1, h2⟩ := hom_match hq hg.1 rfl hy hv
    exact ⟨v', h1, h2.symm⟩
  · rintro ⟨v, hv, rfl⟩
    obtain ⟨v', h1, h2⟩ := hom_match hg.1 hq rfl hx hv
    exact ⟨v', h1, h2.symm⟩
#print axioms core_core
#print axioms core_res
end Go.Proofs.Ytfplmdieeabgpaa
