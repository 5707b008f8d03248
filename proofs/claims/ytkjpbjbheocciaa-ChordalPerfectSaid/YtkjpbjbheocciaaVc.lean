/- No colouring has fewer colours than a clique has nodes; the first colouring with as many has just as many. Contract of count. -/
import Derived.Test.YtkjpbjbheocciaaVb
import Derived.Test.YtkjpbjbheocciaaCj
import Derived.Test.YtkjpbjbheocciaaCl
namespace Go.Proofs.Ytkjpbjbheocciaa
open Go.RowKit

theorem nodup_cnt : ∀ (L : List Nat) (m s : Nat), L.Nodup → (∀ x ∈ L, x < m ∧ s.testBit x = true) → L.length ≤ cnt m s
  | [], _, _, _, _ => Nat.zero_le _
  | x :: L, m, s, hn, h => by
    rw [List.nodup_cons] at hn
    have h1 := h x (by simp)
    have := nodup_cnt L m (ndiff s (2 ^ x)) hn.2 (fun y hy => by
      have h2 := h y (by simp [hy])
      refine ⟨h2.1, ?_⟩
      rw [testBit_ndiff, testBit_pow, h2.2, decide_eq_false (fun e => by rw [e] at hn; exact hn.1 hy)]; rfl)
    have := cnt_erase h1.1 h1.2
    simp only [List.length_cons]; omega
theorem pw_map {α β : Type} {f : α → β} {R : β → β → Prop} : ∀ (L : List α), L.Pairwise (fun a b => R (f a) (f b)) → (L.map f).Pairwise R
  | [], _ => List.Pairwise.nil
  | x :: L, h => by
    rw [List.pairwise_cons] at h
    rw [List.map_cons, List.pairwise_cons]
    refine ⟨fun y hy => ?_, pw_map L h.2⟩
    obtain ⟨z, hz, rfl⟩ := List.mem_map.1 hy
    exact h.1 z hz
theorem used_bit {l : List Int} (i : Nat) (hi : i < l.length) : (used l).testBit (gI l i).toNat = true := by
  unfold used
  rw [← at_nat hi]
  rw [setN_bit]
  exact decide_eq_true (mem_at.2 ⟨i, by rw [nat_length]; exact hi, rfl⟩)
theorem isCol_used {g : List Nat} {l : List Int} (h : IsCol g l) : used l < 4096 := by
  have := used_lt (l := l) (Nat.le_refl _) (fun i hi => (h.2 i hi).1)
  rwa [List.take_of_length_le (by rw [nat_length]; exact Nat.le_refl _)] at this
theorem col_ge {g : List Nat} (hg : Gr g) {l : List Int} (h : IsCol g l) : om g ≤ colN g l := by
  have hlt := om_lt g
  have hcl : Cliq g (bestTo (isC g) (2 ^ g.length)) := of_decide_eq_true (bestTo_spec (p := isC g) (decide_eq_true (fun i _ h => by simp at h)) (2 ^ g.length) : isC g _ = true)
  have hg12 := hg.le
  rw [colN, if_pos h, om, pop_eq hlt (by omega), pop_cnt]
  generalize bestTo (isC g) (2 ^ g.length) = K at hlt hcl
  have hinj : ∀ i j, K.testBit i = true → K.testBit j = true → i ≠ j → (gI l i).toNat ≠ (gI l j).toNat := by
    have key : ∀ i j, j < i → K.testBit i = true → K.testBit j = true → (gI l i).toNat ≠ (gI l j).toNat := fun i j hij hi hj e => by
      have hil : i < l.length := by rw [h.1]; exact bit_lt hlt hi
      have hjl : j < l.length := by rw [h.1]; exact bit_lt hlt hj
      have hr := h.2 i hil
      refine hr.2 j hij ⟨(cliq_iff hlt).1 hcl i j hi hj (by omega), ?_⟩
      have := (h.2 j hjl).1
      have := (h.2 i hil).1
      omega
    intro i j hi hj hij
    rcases Nat.lt_or_gt_of_ne hij with h1 | h1
    · exact fun e => key j i h1 hj hi e.symm
    · exact key i j h1 hi hj
  have hlen : cnt g.length K = (((List.range g.length).filter fun i => K.testBit i).map fun i => (gI l i).toNat).length := by rw [List.length_map]; rfl
  rw [hlen]
  apply nodup_cnt
  · refine pw_map _ ?_
    have hp : ((List.range g.length).filter fun i => K.testBit i).Pairwise (· ≠ ·) := List.Pairwise.filter _ List.nodup_range
    refine hp.imp_of_mem fun {a b} ha hb hab => hinj a b (List.mem_filter.1 ha).2 (List.mem_filter.1 hb).2 hab
  · intro x hx
    obtain ⟨i, hi, rfl⟩ := List.mem_map.1 hx
    have hi2 := List.mem_filter.1 hi
    have hil : i < l.length := by rw [h.1]; exact List.mem_range.1 hi2.1
    have := (h.2 i hil).1
    exact ⟨by omega, used_bit i hil⟩
theorem cf_beg {g : List Nat} {k : Nat} : ∀ m l r, Beg g k l → cf g k m l = some r → Beg g k r ∧ r.length = l.length + m
  | 0, l, r, hb, h => by
    rw [cf] at h
    injection h with h
    subst h
    exact ⟨hb, rfl⟩
  | m + 1, l, r, hb, h => by
    rw [cf] at h
    obtain ⟨x, hx, h1, _⟩ := ft_spec h
    by_cases hf : FitTo g l x l.length
    · rw [if_pos hf] at h1
      obtain ⟨r1, r2⟩ := cf_beg m (l ++ [x]) r (beg_step hb hx hf) h1
      exact ⟨r1, by rw [r2]; simp; omega⟩
    · rw [if_neg hf] at h1; cases h1
theorem gI_cast {r : List Nat} {i : Nat} (h : i < r.length) : gI (castN r) i = (at' r i : Nat) := by simp [gI, castN, at', h]
theorem cf_isCol {g : List Nat} (hg : Gr g) {r : List Nat} (hr : cf g (om g) g.length [] = some r) : IsCol g (castN r) ∧ colN g (castN r) = om g := by
  obtain ⟨hb, hl⟩ := cf_beg _ _ _ (beg_nil g _) hr
  rw [List.length_nil, Nat.zero_add] at hl
  have hom := om_le hg
  have hg12 := hg.le
  have hc : IsCol g (castN r) := by
    refine ⟨by rw [castN_length, hl], fun i hi => ?_⟩
    rw [castN_length] at hi
    refine ⟨?_, fun j hj => ?_⟩
    · rw [gI_cast hi]
      have := hb.1 i hi
      omega
    · rw [gI_cast hi, gI_cast (by omega)]
      rintro ⟨h1, h2⟩
      exact hb.2 i j hi hj h1 (by omega)
  refine ⟨hc, Nat.le_antisymm ?_ (col_ge hg hc)⟩
  rw [colN, if_pos hc]
  have h1 : pop (used (castN r)) ≤ pop (2 ^ om g - 1) := by
    rw [pop_cnt, pop_cnt]
    apply cnt_mono
    intro i _ hi
    rw [full_bit]
    have hi2 : i ∈ nat' (castN r) := by unfold used at hi; rw [setN_bit] at hi; exact of_decide_eq_true hi
    obtain ⟨j, hj, e⟩ := mem_at.1 hi2
    rw [nat_length, castN_length] at hj
    rw [nat_cast] at e
    rw [← e]
    exact hb.1 j hj
  have h2 : pop (2 ^ om g - 1) = om g := by
    rw [pop_eq (n := om g) (by have := Nat.two_pow_pos (om g); omega) (by omega), cnt_full]
  omega
theorem count_any (S : Nat) (hS : S < 4096) (w : World) :
    Calls Try.prog 60 #[.int .i64 S] w fun e w' => e = .returned (.int .i64 (pop S : Nat)) ∧ w = w' := by
  go_enter Try.func60, Try.ntmps60
  go_wp2_with fail
  go_loopw [0, 3] (fun s n wr => ∃ k m : Nat, s = .int .i64 k ∧ n = .int .i64 m ∧ k < 4096 ∧ m ≤ 64 ∧ wr = w ∧ pop k + m = pop S) (fun s _ _ => (intOf s).toNat)
  case atStart => exact ⟨S, 0, rfl, rfl, hS, by omega, rfl, rfl⟩
  case round =>
    obtain ⟨k, m, rfl, rfl, hk, hm, hwr, hp⟩ := hrel
    subst hwr
    have hple := pop_le S
    by_cases h0 : 0 < k
    · have e := pop_pred h0 hk
      have hlt : k &&& (k - 1) < k := by have := Nat.and_le_right (n := k) (m := k - 1); omega
      have hw : IntKind.i64.wrap ((k : Int) - 1) = ((k - 1 : Nat) : Int) := by rw [IntWalk.i64_in _ ⟨by omega, by omega⟩]; omega
      have hand := bits_and_nat k (k - 1) (by omega) (by omega)
      obtain ⟨y, hy⟩ : ∃ y, y = k &&& (k - 1) := ⟨_, rfl⟩
      rw [← hy] at hand e hlt
      have hm2 : m + 1 ≤ 64 := by omega
      have R := Lib.hid (show pop y + (m + 1) = pop S by omega)
      clear hy e hp
      have h0' : (k : Int) > 0 := by omega
      go_wp2_with fail
      go_roundw
      case rel => exact ⟨y, m + 1, rfl, by go_num, by omega, hm2, trivial, R.out⟩
      case measure => simp [intOf]; omega
    · obtain rfl : k = 0 := by omega
      have R := Lib.hid (show m = pop S by
        have : pop 0 = 0 := by decide
        omega)
      clear hp
      go_wp2_with fail
      go_ret
      exact ⟨by rw [← R.out]; rfl, rfl⟩
#print axioms cf_isCol
#print axioms count_any
end Go.Proofs.Ytkjpbjbheocciaa
