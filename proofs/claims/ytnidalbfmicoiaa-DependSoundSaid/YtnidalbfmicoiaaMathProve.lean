/- How a proof grows: plain facts on the steps that extend and finish add. -/
import Derived.Test.YtnidalbfmicoiaaWalkSg
namespace Go.Proofs.Ytnidalbfmicoiaa
open Go.RowKit

def bcnt (m s : Nat) : Nat := ((List.range m).filter fun i => s.testBit i).length
theorem bcnt_succ (m s : Nat) : bcnt (m + 1) s = bcnt m s + if s.testBit m then 1 else 0 := by
  unfold bcnt
  rw [List.range_succ, List.filter_append, List.length_append]
  congr 1
  cases h : s.testBit m <;> simp [h]
theorem bcnt_le (m s : Nat) : bcnt m s ≤ m := by
  induction m with
  | zero => exact Nat.le_refl _
  | succ m ih => rw [bcnt_succ]; split <;> omega
theorem bcnt_mono {m s t : Nat} (h : ∀ i, i < m → s.testBit i = true → t.testBit i = true) : bcnt m s ≤ bcnt m t := by
  induction m with
  | zero => exact Nat.le_refl _
  | succ m ih =>
    rw [bcnt_succ, bcnt_succ]
    have := ih (fun i hi => h i (by omega))
    have h2 := h m (by omega)
    cases hs : s.testBit m
    · simp; omega
    · rw [h2 hs]; simp; omega
theorem bcnt_lt {m s t x : Nat} (h : ∀ i, i < m → s.testBit i = true → t.testBit i = true) (hx : x < m) (h1 : s.testBit x = false) (h2 : t.testBit x = true) : bcnt m s < bcnt m t := by
  induction m with
  | zero => omega
  | succ m ih =>
    rw [bcnt_succ, bcnt_succ]
    by_cases e : x = m
    · subst e
      rw [h1, h2]
      have := bcnt_mono (m := x) (s := s) (t := t) (fun i hi => h i (by omega))
      simp; omega
    · have := ih (fun i hi => h i (by omega)) (by omega)
      have h3 := h m (by omega)
      cases hs : s.testBit m
      · simp; omega
      · rw [h3 hs]; simp; omega
theorem bcnt_or {a b : Nat} (hb : b < 256) (h : ¬ Sub b a) : bcnt 8 a < bcnt 8 (a ||| b) := by
  have : ∃ x, b.testBit x = true ∧ a.testBit x = false := by
    refine Classical.byContradiction fun hn => h (sub_iff.2 fun i hi => ?_)
    cases ha : a.testBit i
    · exact absurd ⟨i, hi, ha⟩ hn
    · rfl
  obtain ⟨x, h1, h2⟩ := this
  have hx : x < 8 := by
    refine Decidable.byContradiction fun hn => ?_
    have := Nat.testBit_lt_two_pow (x := b) (i := x) (Nat.lt_of_lt_of_le hb (Nat.pow_le_pow_right (n := 2) (i := 8) (by decide) (by omega)))
    simp [this] at h1
  exact bcnt_lt (fun i _ hi => by rw [Nat.testBit_or, hi]; rfl) hx h2 (by rw [Nat.testBit_or, h1]; simp)

/-- the steps are right so far, and the last one leads from s to S -/
structure Path (m : Nat) (l : List DepN) (s S : Nat) (p : List Stp) (q : Nat) : Prop where
  len : p.length = q + 1
  ok : ∀ k, k < p.length → PairOk m (stp p k) ∧ StepOk m (castD l) p k (stp p k)
  last : (stp p q).2.2.2 = ((s : Int), (S : Int))
  small : S < 2 ^ m
  from_small : s < 2 ^ m
  short : p.length ≤ 1 + 3 * bcnt 8 S

theorem stepOk_app {n : Int} {l : List (Int × Int)} {p r : List Stp} {k : Nat} (hk : k ≤ p.length) (x : Stp) : StepOk n l (p ++ r) k x ↔ StepOk n l p k x := by
  rw [← step_take (p := p ++ r) (k := k) (by simp; omega), ← step_take (p := p) hk]
  rw [List.take_append_of_le_length hk]
theorem stp_app {p r : List Stp} {k : Nat} (hk : k < p.length) : stp (p ++ r) k = stp p k := by
  simp [stp, List.getD, List.getElem?_append_left hk]
theorem stp_app2 {p r : List Stp} {k : Nat} : stp (p ++ r) (p.length + k) = stp r k := by
  simp [stp, List.getD, List.getElem?_append_right]
theorem inSet_of {m x : Nat} (h : x < 2 ^ m) : InSet m (x : Int) := (inSet_nat m x).2 ⟨by omega, by omega⟩

/-- the steps that extend adds behind p, whose last one (number q) leads from s to S -/
def more3 (q i s S : Nat) (g : DepN) : List Stp := [(0, (i : Int), 0, (g.1 : Int), (g.2 : Int)), (2, ((q + 1 : Nat) : Int), (S : Int), (S : Int), ((S ||| g.2 : Nat) : Int)), (3, (q : Int), ((q + 2 : Nat) : Int), (s : Int), ((S ||| g.2 : Nat) : Int))]
theorem nth_cast {l : List DepN} {i : Nat} (h : i < l.length) : nth (castD l) i = ((l[i].1 : Int), (l[i].2 : Int)) := by
  simp [nth, castD, List.getD, h]
theorem Path.extend {m : Nat} {l : List DepN} {s S q : Nat} {p : List Stp} (h : Path m l s S p q) (hm : m ≤ 8) {i : Nat} (hi : i < l.length) (hl : AllLt l (2 ^ m)) (h1 : Sub l[i].1 S) (h2 : ¬ Sub l[i].2 S) :
    Path m l s (S ||| l[i].2) (p ++ more3 q i s S l[i]) (q + 3) := by
  have hg := hl _ (List.getElem_mem hi)
  have h8 : 2 ^ m ≤ 256 := by have := Nat.pow_le_pow_right (n := 2) (by decide) hm; simpa using this
  have hS := h.small
  have hor : S ||| l[i].2 < 2 ^ m := Nat.or_lt_two_pow hS hg.2
  have e1 : l[i].1 ||| S = S := by rw [Nat.or_comm]; exact h1.or_eq
  have e2 : l[i].2 ||| S = S ||| l[i].2 := Nat.or_comm _ _
  have b1 := bits_or_nat l[i].1 S (by omega) (by omega)
  have b2 := bits_or_nat l[i].2 S (by omega) (by omega)
  rw [e1] at b1
  rw [e2] at b2
  have hlen := h.len
  have x0 : stp (p ++ more3 q i s S l[i]) (q + 1) = (0, (i : Int), 0, (l[i].1 : Int), (l[i].2 : Int)) := by
    have := stp_app2 (p := p) (r := more3 q i s S l[i]) (k := 0)
    rwa [hlen] at this
  have x1 : stp (p ++ more3 q i s S l[i]) (q + 2) = (2, ((q + 1 : Nat) : Int), (S : Int), (S : Int), ((S ||| l[i].2 : Nat) : Int)) := by
    have := stp_app2 (p := p) (r := more3 q i s S l[i]) (k := 1)
    rwa [hlen] at this
  have x2 : stp (p ++ more3 q i s S l[i]) (q + 3) = (3, (q : Int), ((q + 2 : Nat) : Int), (s : Int), ((S ||| l[i].2 : Nat) : Int)) := by
    have := stp_app2 (p := p) (r := more3 q i s S l[i]) (k := 2)
    rwa [hlen] at this
  have xq : stp (p ++ more3 q i s S l[i]) q = stp p q := stp_app (by omega)
  refine ⟨by simp [more3]; omega, fun k hk => ?_, by rw [x2], hor, h.from_small, ?_⟩
  · have hk' : k < q + 4 := by simp [more3] at hk; omega
    by_cases hkp : k < p.length
    · rw [stp_app hkp, stepOk_app (by omega)]
      exact h.ok k hkp
    · have : k = q + 1 ∨ k = q + 2 ∨ k = q + 3 := by omega
      rcases this with rfl | rfl | rfl
      · rw [x0]
        refine ⟨⟨inSet_of hg.1, inSet_of hg.2⟩, ok_0.2 ⟨by omega, by simp [castD]; omega, rfl, ?_, ?_⟩⟩
        · rw [Int.toNat_natCast, nth_cast hi]
        · rw [Int.toNat_natCast, nth_cast hi]
      · rw [x1]
        refine ⟨⟨inSet_of hS, inSet_of hor⟩, ok_2.2 ⟨by omega, by omega, inSet_of hS, ?_, ?_⟩⟩
        · rw [Int.toNat_natCast, x0]; exact b1.symm
        · rw [Int.toNat_natCast, x0]; exact b2.symm
      · rw [x2]
        have hl2 := h.last
        refine ⟨⟨inSet_of h.from_small, inSet_of hor⟩, ok_3.2 ⟨by omega, by omega, by omega, by omega, ?_, ?_, ?_⟩⟩
        · rw [Int.toNat_natCast, Int.toNat_natCast, x1, xq, hl2]
        · rw [Int.toNat_natCast, xq, hl2]
        · rw [Int.toNat_natCast, x1]
  · have := bcnt_or (a := S) (b := l[i].2) (by omega) h2
    have := h.short
    simp [more3]; omega
theorem Path.start {m : Nat} {l : List DepN} {s : Nat} (hm : m ≤ 8) (hs : s < 2 ^ m) : Path m l s s [(1, 0, 0, (s : Int), (s : Int))] 0 := by
  have h8 : 2 ^ m ≤ 256 := by have := Nat.pow_le_pow_right (n := 2) (by decide) hm; simpa using this
  refine ⟨rfl, fun k hk => ?_, rfl, hs, hs, by simp⟩
  have : k = 0 := by simp at hk; omega
  subst this
  refine ⟨⟨inSet_of hs, inSet_of hs⟩, ok_1.2 ⟨rfl, rfl, ?_⟩⟩
  have := bits_andNot_nat s s (by omega) (by omega)
  show bits .andNot .i64 (s : Int) (s : Int) = 0
  rw [this]
  have e : ndiff s s = 0 := Sub.refl s
  rw [e]; rfl
/-- what finish adds -/
def more2 (q s S t : Nat) : List Stp := [(1, 0, 0, (S : Int), (t : Int)), (3, (q : Int), ((q + 1 : Nat) : Int), (s : Int), (t : Int))]
def finL (p : List Stp) (q s S t : Nat) : List Stp := if S = t then p else p ++ more2 q s S t
theorem Path.done {m : Nat} {l : List DepN} {s S q : Nat} {p : List Stp} (h : Path m l s S p q) : ProofOk m (castD l) p := by
  refine ⟨h.ok, by have := h.len; omega, ?_⟩
  have := h.short
  have := bcnt_le 8 S
  omega
theorem Path.finish {m : Nat} {l : List DepN} {s S q : Nat} {p : List Stp} (h : Path m l s S p q) (hm : m ≤ 8) {t : Nat} (ht : t < 2 ^ m) (h1 : Sub t S) :
    ProofOk m (castD l) (finL p q s S t) ∧ 1 ≤ (finL p q s S t).length ∧ (stp (finL p q s S t) ((finL p q s S t).length - 1)).2.2.2 = ((s : Int), (t : Int)) := by
  have h8 : 2 ^ m ≤ 256 := by have := Nat.pow_le_pow_right (n := 2) (by decide) hm; simpa using this
  have hS := h.small
  have hlen := h.len
  unfold finL
  by_cases e : S = t
  · rw [if_pos e]
    refine ⟨h.done, by omega, ?_⟩
    rw [hlen, Nat.add_sub_cancel, h.last, e]
  · rw [if_neg e]
    have b1 := bits_andNot_nat t S (by omega) (by omega)
    have e0 : ndiff t S = 0 := h1
    rw [e0] at b1
    have x0 : stp (p ++ more2 q s S t) (q + 1) = (1, 0, 0, (S : Int), (t : Int)) := by
      have := stp_app2 (p := p) (r := more2 q s S t) (k := 0)
      rwa [hlen] at this
    have x1 : stp (p ++ more2 q s S t) (q + 2) = (3, (q : Int), ((q + 1 : Nat) : Int), (s : Int), (t : Int)) := by
      have := stp_app2 (p := p) (r := more2 q s S t) (k := 1)
      rwa [hlen] at this
    have xq : stp (p ++ more2 q s S t) q = stp p q := stp_app (by omega)
    have hl3 : (p ++ more2 q s S t).length = q + 3 := by simp [more2]; omega
    have hsh := h.short
    have hc := bcnt_le 8 S
    refine ⟨⟨fun k hk => ?_, by omega, by omega⟩, by omega, by rw [hl3]; show (stp _ (q + 2)).2.2.2 = _; rw [x1]⟩
    by_cases hkp : k < p.length
    · rw [stp_app hkp, stepOk_app (by omega)]
      exact h.ok k hkp
    · have : k = q + 1 ∨ k = q + 2 := by omega
      rcases this with rfl | rfl
      · rw [x0]
        exact ⟨⟨inSet_of hS, inSet_of ht⟩, ok_1.2 ⟨rfl, rfl, b1⟩⟩
      · rw [x1]
        have hl2 := h.last
        refine ⟨⟨inSet_of h.from_small, inSet_of ht⟩, ok_3.2 ⟨by omega, by omega, by omega, by omega, ?_, ?_, ?_⟩⟩
        · rw [Int.toNat_natCast, Int.toNat_natCast, x0, xq, hl2]
        · rw [Int.toNat_natCast, xq, hl2]
        · rw [Int.toNat_natCast, x0]
theorem finL_len {p : List Stp} {q s S t : Nat} (h : p.length ≤ 25) : (finL p q s S t).length ≤ 27 := by
  unfold finL; split
  · omega
  · simp [more2]; omega
#print axioms Path.finish
end Go.Proofs.Ytnidalbfmicoiaa
