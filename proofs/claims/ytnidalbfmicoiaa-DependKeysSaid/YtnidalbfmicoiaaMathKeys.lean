/- Plain facts on keys. -/
import Derived.Test.YtnidalbfmicoiaaWalkG
namespace Go.Proofs.Ytnidalbfmicoiaa

theorem mem_keysTo {l : List DepN} {F1 : Nat} : ∀ {k x : Nat}, x ∈ keysTo l F1 k → cl l x = F1 ∧ ¬ HasSub x (keysTo l F1 x)
  | 0, x, h => by simp [keysTo] at h
  | k + 1, x, h => by
    rw [keysTo] at h
    split at h
    · rename_i hc
      rcases List.mem_append.1 h with h | h
      · exact mem_keysTo h
      · simp at h; subst h; exact hc
    · exact mem_keysTo h
theorem keysTo_mono {l : List DepN} {F1 : Nat} : ∀ {k j x : Nat}, j ≤ k → x ∈ keysTo l F1 j → x ∈ keysTo l F1 k
  | 0, j, x, hj, h => by obtain rfl : j = 0 := by omega
                         exact h
  | k + 1, j, x, hj, h => by
    by_cases e : j = k + 1
    · subst e; exact h
    · have := keysTo_mono (k := k) (by omega) h
      rw [keysTo]
      split
      · exact List.mem_append_left _ this
      · exact this
theorem hasSub_of {l : List DepN} {F1 k s : Nat} (hs : s < k) (h : cl l s = F1) : HasSub s (keysTo l F1 k) := by
  by_cases hS : HasSub s (keysTo l F1 s)
  · obtain ⟨p, hp, h1⟩ := hS
    exact ⟨p, keysTo_mono (by omega) hp, h1⟩
  · refine ⟨s, keysTo_mono (j := s + 1) (by omega) ?_, Sub.refl s⟩
    rw [keysTo, if_pos ⟨h, hS⟩]
    simp
theorem keysTo_sorted (l : List DepN) (F1 : Nat) : ∀ k, (keysTo l F1 k).Pairwise (· < ·)
  | 0 => by simp [keysTo]
  | k + 1 => by
    rw [keysTo]
    split
    · rw [List.pairwise_append]
      exact ⟨keysTo_sorted l F1 k, by simp, fun a ha b hb => by simp at hb; subst hb; exact keysTo_lt l F1 b a ha⟩
    · exact keysTo_sorted l F1 k
/-- two keys, the second before the first -/
theorem keys_apart {l : List DepN} {F1 k i j : Nat} (hi : i < (keysTo l F1 k).length) (hj : j < i) : ¬ Sub (keysTo l F1 k)[i] (keysTo l F1 k)[j] ∧ ¬ Sub (keysTo l F1 k)[j] (keysTo l F1 k)[i] := by
  have hlt := List.pairwise_iff_getElem.1 (keysTo_sorted l F1 k) j i (by omega) hi hj
  have hx := mem_keysTo (List.getElem_mem hi)
  refine ⟨fun h => by have := h.le; omega, fun h => hx.2 ⟨_, ?_, h⟩⟩
  have hz := mem_keysTo (List.getElem_mem (l := keysTo l F1 k) (n := j) (by omega))
  -- the earlier key is one of those below the later one
  have : (keysTo l F1 k)[j] ∈ keysTo l F1 ((keysTo l F1 k)[j] + 1) := by
    rw [keysTo, if_pos hz]; simp
  exact keysTo_mono (by omega) this
theorem full_iff {l : List DepN} {F s m : Nat} (hok : Okl m l) (hF : F = 2 ^ m) (hs : s < F) : HasSub s (keysTo l (F - 1) F) ↔ cl l s = F - 1 := by
  constructor
  · rintro ⟨p, hp, h⟩
    have h8 := hok.pow
    have hp' := mem_keysTo hp
    have hpl := keysTo_lt _ _ _ _ hp
    have h1 := cl_mono (l := l) hok.lt (by omega) h
    rw [hp'.1] at h1
    have h2 : Sub (cl l s) (F - 1) := by rw [hF]; exact sub_full (cl_lt_pow hok.h8 hok.hl (by omega))
    exact h2.antisymm h1
  · exact hasSub_of hs


theorem keys_pos {l : List DepN} {F m : Nat} (hok : Okl m l) (hF : F = 2 ^ m) : 0 < (keysTo l (F - 1) F).length := by
  have hp := hok.pow
  have h1 : cl l (F - 1) = F - 1 := by
    have h2 : Sub (cl l (F - 1)) (F - 1) := by rw [hF]; exact sub_full (cl_lt_pow hok.h8 hok.hl (by omega))
    exact h2.antisymm (sub_cl (by omega))
  obtain ⟨p, hp, _⟩ := hasSub_of (l := l) (F1 := F - 1) (k := F) (s := F - 1) (by omega) h1
  exact List.length_pos_of_mem hp
end Go.Proofs.Ytnidalbfmicoiaa
