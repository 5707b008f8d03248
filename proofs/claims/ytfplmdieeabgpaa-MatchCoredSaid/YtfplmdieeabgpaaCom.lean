/- Math: cores. -/
import Derived.Test.YtfplmdieeabgpaaCho
import Derived.Test.YtfplmdieeabgpaaHma
namespace Go.Proofs.Ytfplmdieeabgpaa
open Go.RowKit
theorem occ_dec (body : List At') (i : Nat) : occ body i ∨ ¬ occ body i := Classical.em _
/-- a query whose atoms are atoms of another one has the identity -/
noncomputable def idH (p : HQ) : List Int := (List.range 8).map fun i => @ite _ (occ p.2 i) (Classical.propDecidable _) (i : Int) 99
theorem idH_at {p : HQ} {i : Nat} (hi : i < 8) : (idH p).getD i 0 = @ite _ (occ p.2 i) (Classical.propDecidable _) (i : Int) 99 := by
  unfold idH
  rw [List.getD_eq_getElem?_getD, List.getElem?_map, List.getElem?_range hi]; rfl
theorem sub_hom {p q : HQ} (hp : QrV p) (hh : p.1 = q.1) (hs : ∀ a, a ∈ p.2 → a ∈ q.2) : HomP p q (idH p) := by
  refine ⟨by simp [idH], fun a ha => ?_, fun i hi ho => by rw [idH_at hi, if_neg ho], fun i hi => ?_⟩
  · have e : a.2.map (app (idH p)) = a.2 := by
      conv => rhs; rw [← List.map_id a.2]
      refine List.map_congr_left fun t ht => ?_
      unfold app
      by_cases c : 0 ≤ t
      · have hr := qrV_arg hp ha t ht
        rw [if_pos c, idH_at (by omega), if_pos (occ_of ha ht c), Int.toNat_of_nonneg c]; rfl
      · rw [if_neg c]; rfl
    rw [e]; exact hs a ha
  · obtain ⟨h1, h2, h3⟩ := head_occ hp hi
    rw [idH_at (by omega), if_pos h3, Int.toNat_of_nonneg h1, hh]
/-- the query of some atoms -/
def partQ (q : HQ) (S : Nat) : HQ := (q.1, partA q.2 (chL S q.2.length))
theorem mem_chL {S i : Nat} : ∀ k, i ∈ chL S k ↔ i < k ∧ mem' S i
  | 0 => by simp [chL]
  | k + 1 => by
    rw [chL]
    have h := mem_chL (S := S) (i := i) k
    by_cases c : S.testBit k = true
    · rw [if_pos c, List.mem_append, h, List.mem_singleton]
      constructor
      · rintro (⟨h1, h2⟩ | h1)
        · exact ⟨by omega, h2⟩
        · rw [h1]; exact ⟨by omega, c⟩
      · rintro ⟨h1, h2⟩
        by_cases e : i = k
        · exact .inr e
        · exact .inl ⟨by omega, h2⟩
    · rw [if_neg c, h]
      refine ⟨fun ⟨h1, h2⟩ => ⟨by omega, h2⟩, fun ⟨h1, h2⟩ => ⟨?_, h2⟩⟩
      by_cases e : i = k
      · rw [e] at h2; exact absurd h2 c
      · omega
theorem mem_partA {l : List HAt} {S : Nat} {a : HAt} : a ∈ partA l (chL S l.length) ↔ ∃ i, ∃ h : i < l.length, mem' S i ∧ a = l[i] := by
  unfold partA
  rw [List.mem_map]
  constructor
  · rintro ⟨i, hi, rfl⟩
    obtain ⟨h1, h2⟩ := (mem_chL _).1 hi
    exact ⟨i, h1, h2, (at_get h1).symm⟩
  · rintro ⟨i, h, h2, rfl⟩
    exact ⟨i, (mem_chL _).2 ⟨h, h2⟩, (at_get h).symm⟩
theorem partQ_sub {q : HQ} {S : Nat} : ∀ a, a ∈ (partQ q S).2 → a ∈ q.2 := fun a ha => by
  obtain ⟨i, h, _, rfl⟩ := mem_partA.1 ha
  exact List.getElem_mem h
theorem chL_full (n : Nat) : ∀ k, k ≤ n → chL (2 ^ n - 1) k = List.range k
  | 0, _ => rfl
  | k + 1, h => by
    rw [chL, if_pos (by rw [Nat.testBit_two_pow_sub_one]; simp; omega), chL_full n k (by omega), List.range_succ]
theorem partQ_full (q : HQ) : partQ q (2 ^ q.2.length - 1) = q := by
  unfold partQ partA
  rw [chL_full _ _ (Nat.le_refl _)]
  refine Prod.ext rfl (List.ext_getElem (by simp) fun i h1 h2 => ?_)
  simp only [List.getElem_map, List.getElem_range]
  exact (at_get h2).symm
/-- the atoms of a set make an equal query -/
def Good (q : HQ) (S : Nat) : Prop := QrV (partQ q S) ∧ ∃ h, IsH q (partQ q S) h
theorem good_full {q : HQ} (hq : QrV q) : Good q (2 ^ q.2.length - 1) := by
  unfold Good
  rw [partQ_full]
  exact ⟨hq, idH q, isH_of hq hq (sub_hom hq rfl fun _ h => h)⟩
def LeL (a b : List Nat) : Prop := a.length < b.length ∨ (a.length = b.length ∧ cmpL (cz a) (cz b) ≤ 0)
def LtL (a b : List Nat) : Prop := a.length < b.length ∨ (a.length = b.length ∧ cmpL (cz a) (cz b) < 0)
theorem leL_of_not {a b : List Nat} (h : ¬ LtL a b) : LeL b a := by
  have hs := cmpL_swap (cz a) (cz b)
  rcases Nat.lt_trichotomy a.length b.length with c | c | c
  · exact absurd (.inl c) h
  · refine .inr ⟨c.symm, ?_⟩
    have : ¬ cmpL (cz a) (cz b) < 0 := fun k => h (.inr ⟨c, k⟩)
    omega
  · exact .inl c
theorem leL_refl (a : List Nat) : LeL a a := .inr ⟨rfl, by rw [cmpL_refl]; omega⟩
theorem leL_trans {a b c : List Nat} (h : LtL a b) (k : LeL b c) : LeL a c := by
  rcases h with h | ⟨h1, h2⟩
  · rcases k with k | ⟨k1, _⟩
    · exact .inl (by omega)
    · exact .inl (by omega)
  · rcases k with k | ⟨k1, k2⟩
    · exact .inl (by omega)
    · refine .inr ⟨by omega, ?_⟩
      by_cases z : cmpL (cz b) (cz c) = 0
      · rw [← cmpL_eq z]; omega
      · have := cmpL_trans h2 (show cmpL (cz b) (cz c) < 0 by omega); omega
theorem cz_inj : ∀ {a b : List Nat}, cz a = cz b → a = b
  | [], [], _ => rfl
  | [], _ :: _, h => by simp [cz] at h
  | _ :: _, [], h => by simp [cz] at h
  | x :: a, y :: b, h => by
    simp only [cz, List.map_cons, List.cons.injEq] at h
    rw [cz_inj (a := a) (b := b) h.2, show x = y by omega]
theorem leL_anti {a b : List Nat} (h : LeL a b) (k : LeL b a) : a = b := by
  have hs := cmpL_swap (cz a) (cz b)
  rcases h with h | ⟨h1, h2⟩
  · rcases k with k | ⟨k1, _⟩ <;> omega
  · rcases k with k | ⟨_, k2⟩
    · omega
    · exact cz_inj (cmpL_eq (by omega))
/-- the core -/
def CoreL (q : HQ) (c : List Nat) : Prop := ∃ S, 0 < S ∧ S < 2 ^ q.2.length ∧ Good q S ∧ c = chL S q.2.length ∧ ∀ S', 0 < S' → S' < 2 ^ q.2.length → Good q S' → LeL (chL S q.2.length) (chL S' q.2.length)
theorem coreL_same {q : HQ} {c d : List Nat} (h : CoreL q c) (k : CoreL q d) : c = d := by
  obtain ⟨S, s1, s2, s3, rfl, s4⟩ := h
  obtain ⟨T, t1, t2, t3, rfl, t4⟩ := k
  exact leL_anti (s4 T t1 t2 t3) (t4 S s1 s2 s3)
#print axioms good_full
#print axioms coreL_same
end Go.Proofs.Ytfplmdieeabgpaa
