/- Lossless decompositions: the join has no further row; what Decompose makes is lossless. -/
import Derived.Test.YtnidalbfmicoiaaWalkCh
import Derived.Test.YtnidalbfmicoiaaMathDec
namespace Go.Proofs.Ytnidalbfmicoiaa
open Go.RowKit

/-- all dependencies hold between the rows of R -/
def HoldAll (l : List DepN) (R : List (List Int)) (m : Nat) : Prop := ∀ d ∈ l, ∀ i j, i < R.length → j < R.length → AgreeOn R m d.1 i j → AgreeOn R m d.2 i j
theorem join_in {l : List DepN} {q : List Nat} {m k : Nat} {T R : List (List Int)} {z : List Int} (hT : ChaseEnd l (initTo q m k) k m T) (h0 : ZeroRow T k m) (hR : HoldAll l R m)
    (hz : ∀ i, i < k → ∃ y, y < R.length ∧ ∀ a, a < m → (q.getD i 0).testBit a = true → z.getD a 0 = cell R y a) : ∃ y, y < R.length ∧ ∀ a, a < m → z.getD a 0 = cell R y a := by
  obtain ⟨⟨hs, -, h, h1, h2, h3⟩, -⟩ := hT
  obtain ⟨i0, hi0, hrow⟩ := h0
  have hex : ∀ i, ∃ y, i < k → y < R.length ∧ ∀ a, a < m → (q.getD i 0).testBit a = true → z.getD a 0 = cell R y a := by
    intro i
    by_cases hi : i < k
    · obtain ⟨y, hy⟩ := hz i hi
      exact ⟨y, fun _ => hy⟩
    · exact ⟨0, fun h => absurd h hi⟩
  obtain ⟨ys, hys⟩ := Classical.axiomOfChoice hex
  have hg0 : ∀ i a, i < k → a < m → (if cell (initTo q m k) i a = 0 then z.getD a 0 else cell R (ys (cell (initTo q m k) i a - 1).toNat) a) = cell R (ys i) a := by
    intro i a hi ha
    rw [init_cell q m k i a hi ha]
    by_cases hb : (q.getD i 0).testBit a = true
    · rw [if_pos hb, if_pos rfl]
      exact (hys i hi).2 a ha hb
    · rw [if_neg hb, if_neg (by omega)]
      congr 2
      omega
  have hgood : Good l (initTo q m k) k m (fun a v => if v = 0 then z.getD a 0 else cell R (ys (v - 1).toNat) a) := by
    intro d hd i j hi hj hag a ha hb
    show (if cell (initTo q m k) i a = 0 then z.getD a 0 else cell R (ys (cell (initTo q m k) i a - 1).toNat) a) = (if cell (initTo q m k) j a = 0 then z.getD a 0 else cell R (ys (cell (initTo q m k) j a - 1).toNat) a)
    rw [hg0 i a hi ha, hg0 j a hj ha]
    refine hR d hd (ys i) (ys j) (hys i hi).1 (hys j hj).1 (fun b hb' ht => ?_) a ha hb
    have := hag b hb' ht
    have e1 := hg0 i b hi hb'
    have e2 := hg0 j b hj hb'
    exact e1.symm.trans (Eq.trans this e2)
  refine ⟨ys i0, (hys i0 hi0).1, fun a ha => ?_⟩
  have := h3 _ hgood a (cell (initTo q m k) i0 a)
  rw [← h2 i0 a hi0 ha, hrow a ha] at this
  have e := hg0 i0 a hi0 ha
  rw [← e]
  exact this
theorem Run.all {c : Nat → Nat} {a t r : List Nat} (h : Run c a t r) (P : Nat → Prop) (hr : ∀ S ∈ r, P S) (hs : ∀ S d, vioTo c S = some d → P (d.1 ||| d.2) → P (ndiff S d.2) → P S) : ∀ S ∈ a ++ t, P S := by
  induction h with
  | done a => simpa using hr
  | keep _ _ ih =>
    have := ih hr
    simpa using this
  | @split a t r S d h1 _ ih =>
    have := ih hr
    intro S' hS'
    rw [List.mem_append, List.mem_cons] at hS'
    rcases hS' with hS' | rfl | hS'
    · exact this S' (by simp [hS'])
    · exact hs S' d h1 (this _ (by simp)) (this _ (by simp))
    · exact this S' (by simp [hS'])
theorem agree_cl {l : List DepN} {T : List (List Int)} {k m x i j : Nat} (hs : Shape T k m) (hm : m ≤ 8) (hl : AllLt l (2 ^ m)) (hk : Kept l T k m) (hi : i < k) (hj : j < k) (hx : x < 2 ^ m) (h : AgreeOn T m x i j) : AgreeOn T m (cl l x) i j := by
  have p := pow_small m hm
  have hag := agr_ltT (j := j) hs hi
  have h1 : Sub x (agr (row T i) (row T j)) := (agree_iff hs hi hx).2 h
  have h2 : Clsd l (agr (row T i) (row T j)) := fun d hd hd1 => by
    have hb := hl d hd
    exact (agree_iff hs hi hb.2).2 (hk d hd i j hi hj ((agree_iff hs hi hb.1).1 hd1))
  exact (agree_iff hs hi (cl_lt_pow hm hl hx)).1 (cl_least (by omega) h1 h2)
/-- Decompose is lossless -/
theorem dec_lossless {m F k : Nat} {l : List DepN} (hok : Okl m l) (hF : F = 2 ^ m) {r : List Nat} (hr : Run (cl l) [] [F - 1] r) (hk : k = r.length) {T : List (List Int)} (hT : ChaseEnd l (initTo r m k) k m T) : ZeroRow T k m := by
  have p := pow_small m hok.h8
  have hF1 : 1 ≤ F := by rw [hF]; exact Nat.two_pow_pos m
  obtain ⟨⟨hs, hnn, h, h1, h2, h3⟩, hkept⟩ := hT
  have key := hr.all (fun S => S < F → ∃ i, i < k ∧ ∀ a, a < m → S.testBit a = true → cell T i a = 0) (fun S hS _ => by
    obtain ⟨i, hi, rfl⟩ := List.mem_iff_getElem.1 hS
    refine ⟨i, by omega, fun a ha hb => ?_⟩
    have e := h2 i a (by omega) ha
    rw [init_cell r m k i a (by omega) ha, show r.getD i 0 = r[i] by simp [List.getD, hi], if_pos hb] at e
    have q1 := h1 a 0
    have q2 := hnn i a (by omega) ha
    omega) (fun S d hd hA hB hS => by
    obtain ⟨e1, s1, s2, s3, s4, -, s5⟩ := split_parts (by omega) (fun x hx => sub_cl hx) hd
    obtain ⟨i, hi, zi⟩ := hA (Nat.lt_of_le_of_lt s3.le hS)
    obtain ⟨j, hj, zj⟩ := hB (Nat.lt_of_le_of_lt s4.le hS)
    have hd1 : d.1 < 2 ^ m := by have := s1.le; omega
    have hag : AgreeOn T m d.1 i j := fun a ha hb => by
      rw [zi a ha (sub_iff.1 (sub_or_left _ _) a hb), zj a ha (sub_iff.1 s5 a hb)]
    have hcl := agree_cl hs hok.h8 hok.hl hkept hi hj hd1 hag
    refine ⟨j, hj, fun a ha hb => ?_⟩
    by_cases hb2 : d.2.testBit a = true
    · have hA2 : (d.1 ||| d.2).testBit a = true := sub_iff.1 (sub_or_right _ _) a hb2
      have hc : (cl l d.1).testBit a = true := by
        rw [e1] at hA2
        exact sub_iff.1 (and_sub_left _ _) a hA2
      rw [← hcl a ha hc]
      exact zi a ha hA2
    · exact zj a ha (by rw [testBit_ndiff, hb]; simpa using hb2))
  obtain ⟨i, hi, hz⟩ := key (F - 1) (by simp) (by omega)
  exact ⟨i, hi, fun a ha => hz a ha (by rw [hF, Nat.testBit_two_pow_sub_one]; simp [ha])⟩
/-- the sets of a decomposition together have all attributes -/
theorem orTo_bit {q : List Nat} {a : Nat} : ∀ k, (orTo q k).testBit a = true → ∃ i, i < k ∧ (q.getD i 0).testBit a = true
  | 0, h => by simp [orTo] at h
  | k + 1, h => by
    rw [orTo, Nat.testBit_or, Bool.or_eq_true] at h
    rcases h with h | h
    · obtain ⟨i, hi, hb⟩ := orTo_bit k h
      exact ⟨i, by omega, hb⟩
    · exact ⟨k, by omega, h⟩
theorem dec_parts {m F : Nat} {l : List DepN} (hok : Okl m l) (hF : F = 2 ^ m) {r : List Nat} (hr : Run (cl l) [] [F - 1] r) : (∀ S ∈ r, S < F) ∧ 1 ≤ r.length ∧ orTo r r.length = F - 1 := by
  have p := pow_small m hok.h8
  have hF1 : 1 ≤ F := by rw [hF]; exact Nat.two_pow_pos m
  have hlt := (hr.size (F := F) (fun x hx => sub_cl hx) (by omega) (by intro S hS; simp at hS; omega) (by simp)).2
  have key := hr.all (fun S => ∀ a, S.testBit a = true → ∃ i, i < r.length ∧ (r.getD i 0).testBit a = true) (fun S hS a hb => by
    obtain ⟨i, hi, rfl⟩ := List.mem_iff_getElem.1 hS
    exact ⟨i, hi, by simpa [List.getD, hi] using hb⟩) (fun S d _ hA hB a hb => by
    by_cases hb2 : d.2.testBit a = true
    · exact hA a (sub_iff.1 (sub_or_right _ _) a hb2)
    · exact hB a (by rw [testBit_ndiff, hb]; simpa using hb2))
  have hfull := key (F - 1) (by simp)
  have horlt : orTo r r.length < 2 ^ m := orTo_lt (fun p hp => by rw [← hF]; exact hlt p hp) _ (Nat.le_refl _)
  have hor : ∀ k i a, i < k → (r.getD i 0).testBit a = true → (orTo r k).testBit a = true := by
    intro k
    induction k with
    | zero => intro i a hi; omega
    | succ k ih =>
      intro i a hi hb
      rw [orTo, Nat.testBit_or]
      rcases Nat.lt_succ_iff_lt_or_eq.1 hi with hi | rfl
      · rw [ih i a hi hb]; rfl
      · rw [hb]; simp
  have hm1 := hok.h1
  refine ⟨hlt, ?_, ?_⟩
  · obtain ⟨i, hi, -⟩ := hfull 0 (by rw [hF, Nat.testBit_two_pow_sub_one]; simp; omega)
    omega
  · apply Sub.antisymm
    · rw [hF]; exact sub_full horlt
    · exact sub_iff.2 fun a hb => by
        obtain ⟨i, hi, hb⟩ := hfull a hb
        exact hor _ i a hi hb
#print axioms dec_parts
#print axioms dec_lossless
#print axioms join_in
end Go.Proofs.Ytnidalbfmicoiaa
