/- Plain facts: the base of critical sets is the shortest. -/
import Derived.Test.YtnidalbfmicoiaaWalkJ
namespace Go.Proofs.Ytnidalbfmicoiaa

theorem pigeon : ∀ (n m : Nat) (f : Nat → Nat), (∀ i, i < m → f i < n) → (∀ i j, i < m → j < m → f i = f j → i = j) → m ≤ n
  | 0, m, f, h, _ => by
    by_cases e : m = 0
    · omega
    · exact absurd (h 0 (by omega)) (by omega)
  | n + 1, m, f, h, inj => by
    by_cases hq : ∃ i, i < m ∧ f i = n
    · obtain ⟨q, hq, e⟩ := hq
      have := pigeon n (m - 1) (fun i => if i < q then f i else f (i + 1)) (fun i hi => by
        show (if i < q then f i else f (i + 1)) < n
        split
        · have := h i (by omega)
          have : f i ≠ n := fun e' => by have := inj i q (by omega) hq (by omega); omega
          omega
        · have := h (i + 1) (by omega)
          have : f (i + 1) ≠ n := fun e' => by have := inj (i + 1) q (by omega) hq (by omega); omega
          omega) (fun i j hi hj hij => by
        have hij : (if i < q then f i else f (i + 1)) = (if j < q then f j else f (j + 1)) := hij
        split at hij <;> split at hij
        · exact inj i j (by omega) (by omega) hij
        · have := inj i (j + 1) (by omega) (by omega) hij; omega
        · have := inj (i + 1) j (by omega) (by omega) hij; omega
        · have := inj (i + 1) (j + 1) (by omega) (by omega) hij; omega)
      omega
    · have := pigeon n m f (fun i hi => by have := h i hi; have : f i ≠ n := fun e => hq ⟨i, hi, e⟩; omega) inj
      omega

/-- the left sides of the base, rising: each is there once, and critical after the earlier ones -/
theorem critTo_crit {c : Nat → Nat} : ∀ {k : Nat} {d : DepN}, d ∈ critTo c k → IsCrit c (critTo c d.1) d.1
  | 0, d, h => by simp [critTo] at h
  | k + 1, d, h => by
    rw [critTo] at h
    split at h
    · rename_i hc
      rcases List.mem_append.1 h with h | h
      · exact critTo_crit h
      · simp at h; subst h; exact hc
    · exact critTo_crit h
theorem critTo_sorted (c : Nat → Nat) : ∀ k, (critTo c k).Pairwise (fun a b => a.1 < b.1)
  | 0 => by simp [critTo]
  | k + 1 => by
    rw [critTo]
    split
    · rw [List.pairwise_append]
      exact ⟨critTo_sorted c k, by simp, fun a ha b hb => by simp at hb; subst hb; exact (critTo_form ha).1⟩
    · exact critTo_sorted c k
/-- of two critical sets the one in the other: its closure lies in the other too -/
theorem crit_sub {c : Nat → Nat} {F : Nat} {d e : DepN} (hd : d ∈ critTo c F) (he : e ∈ critTo c F) (h : Sub d.1 e.1) (hne : d.1 ≠ e.1) : Sub (c d.1) e.1 := by
  have h1 := critTo_crit he
  have h2 := h.le
  have hd' : d ∈ critTo c e.1 := by
    have hx := critTo_crit hd
    have : (d.1, c d.1) ∈ critTo c (d.1 + 1) := by rw [critTo, if_pos hx]; simp
    have e2 : d = (d.1, c d.1) := Prod.ext rfl (critTo_form hd).2
    rw [e2]
    exact critTo_mono (by omega) this
  have := h1.2 d hd' h
  rwa [(critTo_form hd).2] at this
theorem closed_of_base {c : Nat → Nat} {F u : Nat} (hc : IsCl c F) (hu : u < F) (hcu : Clsd (critTo c F) u) : c u = u := by
  by_cases e : c u = u
  · exact e
  · have hcr : IsCrit c (critTo c u) u := ⟨e, fun d hd h => hcu d (critTo_mono (by omega) hd) h⟩
    have hm : (u, c u) ∈ critTo c F := critTo_mono (j := u + 1) (by omega) (by rw [critTo, if_pos hcr]; simp)
    exact (hcu _ hm (Sub.refl u)).antisymm (hc.ext u hu)
theorem and_sub_left (a b : Nat) : Sub (a &&& b) a := sub_iff.2 fun i hi => by rw [Nat.testBit_and, Bool.and_eq_true] at hi; exact hi.1
theorem and_sub_right (a b : Nat) : Sub (a &&& b) b := sub_iff.2 fun i hi => by rw [Nat.testBit_and, Bool.and_eq_true] at hi; exact hi.2
theorem sub_and {a b x : Nat} (h : Sub x a) (k : Sub x b) : Sub x (a &&& b) := sub_iff.2 fun i hi => by rw [Nat.testBit_and, sub_iff.1 h i hi, sub_iff.1 k i hi]; rfl
/-- a part of a critical set with another closure: its closure lies in the set -/
theorem crit_part {c : Nat → Nat} {F X : Nat} {d : DepN} (hF : F ≤ 256) (hc : IsCl c F) (hd : d ∈ critTo c F) (hX : X < F) (h : Sub X d.1) (hne : c X ≠ c d.1) : Sub (c X) d.1 := by
  have hdF := (critTo_form hd).1
  have hall : AllLt ((critTo c F).filter fun e => e.1 ≠ d.1) 256 := fun e he => by
    have := critTo_lt hc.lt F (Nat.le_refl _) e (List.mem_filter.1 he).1; omega
  have z1 : Sub (cl ((critTo c F).filter fun e => e.1 ≠ d.1) X) d.1 := cl_least (by omega) h fun e he hs => by
    obtain ⟨he1, he2⟩ := List.mem_filter.1 he
    have := crit_sub he1 hd hs (by simpa using he2)
    rwa [← (critTo_form he1).2] at this
  have z2 : Sub (cl ((critTo c F).filter fun e => e.1 ≠ d.1) X) (c X) := cl_least (by have := hc.lt X hX; omega) (hc.ext X hX) fun e he hs => by
    have he1 := (List.mem_filter.1 he).1
    have := hc.mono e.1 (c X) (critTo_form he1).1 (hc.lt X hX) hs
    rw [hc.idem X hX] at this
    rwa [← (critTo_form he1).2] at this
  have z3 : Sub X (cl ((critTo c F).filter fun e => e.1 ≠ d.1) X) := sub_cl (by omega)
  have z4 : Clsd ((critTo c F).filter fun e => e.1 ≠ d.1) (cl ((critTo c F).filter fun e => e.1 ≠ d.1) X) := cl_clsd hall
  generalize cl ((critTo c F).filter fun e => e.1 ≠ d.1) X = z at *
  have hz := z1.le
  by_cases hP : Sub d.1 z
  · have e : z = d.1 := z1.antisymm hP
    subst e
    have a1 := hc.mono _ _ hdF (hc.lt X hX) z2
    rw [hc.idem X hX] at a1
    exact absurd ((hc.mono _ _ hX hdF h).antisymm a1) hne
  · have hcl : Clsd (critTo c F) z := fun e he hs => by
      by_cases e' : e.1 = d.1
      · exact absurd (e' ▸ hs) hP
      · exact z4 e (List.mem_filter.2 ⟨he, by simpa using e'⟩) hs
    have hcz := closed_of_base hc (by omega) hcl
    have := hc.mono _ _ hX (by omega) z3
    rw [hcz] at this
    exact this.trans z1
/-- two different critical sets: no dependency of another base serves both -/
theorem crit_apart {c : Nat → Nat} {F X Y : Nat} {d e : DepN} (hF : F ≤ 256) (hc : IsCl c F) (hd : d ∈ critTo c F) (he : e ∈ critTo c F) (hne : d.1 ≠ e.1) (hX : X < F)
    (hY : Sub Y (c X)) (h1 : Sub X d.1) (h2 : ¬ Sub Y d.1) (k1 : Sub X e.1) (k2 : ¬ Sub Y e.1) : False := by
  have hdF := (critTo_form hd).1
  have heF := (critTo_form he).1
  have a1 : c X = c d.1 := Decidable.byContradiction fun hq => h2 (hY.trans (crit_part hF hc hd hX h1 hq))
  have a2 : c X = c e.1 := Decidable.byContradiction fun hq => k2 (hY.trans (crit_part hF hc he hX k1 hq))
  by_cases hde : Sub d.1 e.1
  · have := crit_sub hd he hde hne
    rw [← a1] at this
    exact k2 (hY.trans this)
  · by_cases hed : Sub e.1 d.1
    · have := crit_sub he hd hed (fun h => hne h.symm)
      rw [← a2] at this
      exact h2 (hY.trans this)
    · have hu : (d.1 &&& e.1) < F := by have := (and_sub_left d.1 e.1).le; omega
      have hcl : Clsd (critTo c F) (d.1 &&& e.1) := fun q hq hs => by
        have b1 := crit_sub hq hd (hs.trans (and_sub_left _ _)) (fun h => hde (by rw [← h]; exact hs.trans (and_sub_right _ _)))
        have b2 := crit_sub hq he (hs.trans (and_sub_right _ _)) (fun h => hed (by rw [← h]; exact hs.trans (and_sub_left _ _)))
        rw [(critTo_form hq).2]
        exact sub_and b1 b2
      have hcu := closed_of_base hc hu hcl
      have := hc.mono _ _ hX hu (sub_and h1 k1)
      rw [hcu] at this
      exact h2 (hY.trans (this.trans (and_sub_left _ _)))
/-- no base from which the same follows is shorter -/
theorem base_shortest {c : Nat → Nat} {F : Nat} {B : List DepN} (hF : F ≤ 256) (hc : IsCl c F) (hB : AllLt B F) (h : ∀ k, k < F → cl B k = c k) : (critTo c F).length ≤ B.length := by
  have hex : ∀ i : Nat, ∃ j : Nat, ∀ hi : i < (critTo c F).length, ∃ hj : j < B.length, Sub B[j].1 (critTo c F)[i].1 ∧ ¬ Sub B[j].2 (critTo c F)[i].1 := by
    intro i
    by_cases hi : i < (critTo c F).length
    · have hd := List.getElem_mem hi
      have hdF := (critTo_form hd).1
      have hne := (critTo_crit hd).1
      have : ∃ b ∈ B, Sub b.1 (critTo c F)[i].1 ∧ ¬ Sub b.2 (critTo c F)[i].1 := by
        by_cases hq : ∃ b ∈ B, Sub b.1 (critTo c F)[i].1 ∧ ¬ Sub b.2 (critTo c F)[i].1
        · exact hq
        · have hcl : Clsd B (critTo c F)[i].1 := fun b hb h1 => Decidable.byContradiction fun h2 => hq ⟨b, hb, h1, h2⟩
          have h1 := cl_least (by omega) (Sub.refl _) hcl
          rw [h _ hdF] at h1
          exact absurd (h1.antisymm (hc.ext _ hdF)) hne
      obtain ⟨b, hb, h1⟩ := this
      obtain ⟨j, hj, rfl⟩ := List.getElem_of_mem hb
      exact ⟨j, fun _ => ⟨hj, h1⟩⟩
    · exact ⟨0, fun h => absurd h hi⟩
  obtain ⟨f, hf⟩ := Classical.axiomOfChoice hex
  refine pigeon B.length (critTo c F).length f (fun i hi => (hf i hi).1) (fun i j hi hj e => ?_)
  obtain ⟨bi, i1, i2⟩ := hf i hi
  obtain ⟨bj, j1, j2⟩ := hf j hj
  have hsort := List.pairwise_iff_getElem.1 (critTo_sorted c F)
  have hXF := hB _ (List.getElem_mem bi)
  have hY : Sub B[f i].2 (c B[f i].1) := by
    rw [← h _ hXF.1]
    exact cl_clsd (fun b hb => by have := hB b hb; omega) _ (List.getElem_mem bi) (sub_cl (by omega))
  have j1' : Sub B[f i].1 (critTo c F)[j].1 := by simpa only [e] using j1
  have j2' : ¬ Sub B[f i].2 (critTo c F)[j].1 := by simpa only [e] using j2
  rcases Nat.lt_trichotomy i j with q | q | q
  · have := hsort i j hi hj q
    exact (crit_apart hF hc (List.getElem_mem hi) (List.getElem_mem hj) (by omega) hXF.1 hY i1 i2 j1' j2').elim
  · exact q
  · have := hsort j i hj hi q
    exact (crit_apart hF hc (List.getElem_mem hi) (List.getElem_mem hj) (by omega) hXF.1 hY i1 i2 j1' j2').elim
/-- the closure of dependencies is one -/
theorem cl_isCl {m F : Nat} {l : List DepN} (hok : Okl m l) (hF : F = 2 ^ m) : IsCl (cl l) F := by
  have hp := hok.pow
  rw [← hF] at hp
  exact ⟨fun k hk => by rw [hF]; exact cl_lt_pow hok.h8 hok.hl (by omega), fun k hk => sub_cl (by omega), fun k j _ hj h => cl_mono hok.lt (by omega) h, fun k _ => cl_idem hok.lt⟩
#print axioms base_shortest
end Go.Proofs.Ytnidalbfmicoiaa
