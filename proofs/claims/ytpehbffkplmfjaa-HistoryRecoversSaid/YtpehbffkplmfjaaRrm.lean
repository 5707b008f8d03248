/- The reference's words for what Recovery asks. -/
import Derived.Test.YtpehbffkplmfjaaRec
namespace Go.Proofs.Ytpehbffkplmfjaa
open Go.RowKit

/-- the end of a committed reader, of its source: as the reference says it -/
theorem rec_ref {h : List NOp} (hh : VH h) {i : Nat} {f : Nat} (hi : i < h.length) (hf : frm h i = (f : Int)) (h1 : frm h i > 0 ∧ frm h i ≠ (tT h i : Nat)) (f7 : f < 7) :
    RecBad h i ↔ ¬ (endI h 2 (tT h i) < 0 ∨ (endI h 2 f ≥ 0 ∧ endI h 2 f < endI h 2 (tT h i))) := by
  have ht := hh.t6 i hi
  unfold RecBad
  rw [hf] at h1 ⊢
  rw [Int.toNat_natCast, lv_com h (show tT h i < 7 by omega), lv_com h f7]
  unfold endI
  have hl := hh.le
  rcases en_spec h 2 (tT h i) h.length hh.le with e | e
  · rw [if_pos e.1, e.1]
    constructor
    · intro q; omega
    · intro q; omega
  · rcases en_spec h 2 f h.length hh.le with e2 | e2
    · rw [if_pos e2.1, if_neg (show ¬ en h 2 h.length (tT h i) = 40 by omega), e2.1]
      constructor
      · intro _; omega
      · intro _; exact ⟨h1, by omega, by omega⟩
    · rw [if_neg (show ¬ en h 2 h.length (tT h i) = 40 by omega), if_neg (show ¬ en h 2 h.length f = 40 by omega)]
      have hne : en h 2 h.length f ≠ en h 2 h.length (tT h i) := fun q => by
        rw [q, e.2.1] at e2
        omega
      constructor
      · intro q; omega
      · intro q; exact ⟨h1, by omega, by omega⟩
theorem frm_read {h : List NOp} {i : Nat} (h0 : frm h i > 0) : tK h i = 0 := by
  unfold frm at h0
  split at h0
  · assumption
  · omega
theorem car_ref {h : List NOp} (hh : VH h) {i : Nat} {f : Nat} (hi : i < h.length) (hf : frm h i = (f : Int)) (h1 : frm h i > 0 ∧ frm h i ≠ (tT h i : Nat)) (f7 : f < 7) :
    CarBad h i ↔ ¬ (endI h 2 f ≥ 0 ∧ endI h 2 f < (i : Int)) := by
  have hk := frm_read h1.1
  unfold CarBad
  rw [hf] at h1 ⊢
  rw [Int.toNat_natCast, lv_com h f7]
  unfold endI
  have hl := hh.le
  rcases en_spec h 2 f h.length hh.le with e2 | e2
  · rw [if_pos e2.1, e2.1]
    constructor
    · intro _; omega
    · intro _; exact ⟨h1, by omega⟩
  · rw [if_neg (show ¬ en h 2 h.length f = 40 by omega)]
    have hne : en h 2 h.length f ≠ i := fun q => by rw [q] at e2; omega
    constructor
    · intro q; omega
    · intro q; exact ⟨h1, by omega⟩
theorem tow_ref {h : List NOp} (hh : VH h) {i j : Nat} (hi : i < h.length) (hj : j < h.length) :
    TowAt h i j ↔ (((tK h i < 2 ∧ tK h j = 1) ∧ tI h j = tI h i) ∧ tT h j ≠ tT h i) ∧ ¬ (max (endI h 2 (tT h j)) (endI h 3 (tT h j)) ≥ 0 ∧ max (endI h 2 (tT h j)) (endI h 3 (tT h j)) < (i : Int)) := by
  have ht := hh.t6 j hj
  have hl := hh.le
  unfold TowAt Cf
  rw [lv_com h (show tT h j < 7 by omega), lv_abo h (show tT h j < 7 by omega)]
  unfold endI
  rcases en_spec h 2 (tT h j) h.length hh.le with e | e
  · rw [if_pos e.1, e.1]
    rcases en_spec h 3 (tT h j) h.length hh.le with e2 | e2
    · rw [if_pos e2.1, e2.1]
      constructor
      · intro q; exact ⟨⟨⟨⟨by omega, q.1⟩, q.2.1.2.2.1⟩, q.2.1.2.1⟩, by omega⟩
      · intro q; exact ⟨q.1.1.1.2, ⟨⟨by omega, by omega⟩, q.1.2, q.1.1.2, .inl q.1.1.1.2⟩, by omega, by omega⟩
    · rw [if_neg (show ¬ en h 3 h.length (tT h j) = 40 by omega)]
      constructor
      · intro q; exact ⟨⟨⟨⟨by omega, q.1⟩, q.2.1.2.2.1⟩, q.2.1.2.1⟩, by omega⟩
      · intro q
        have hne : en h 3 h.length (tT h j) ≠ i := fun q2 => by rw [q2] at e2; omega
        exact ⟨q.1.1.1.2, ⟨⟨by omega, by omega⟩, q.1.2, q.1.1.2, .inl q.1.1.1.2⟩, by omega, by omega⟩
  · rw [if_neg (show ¬ en h 2 h.length (tT h j) = 40 by omega)]
    rcases en_spec h 3 (tT h j) h.length hh.le with e2 | e2
    · rw [if_pos e2.1, e2.1]
      constructor
      · intro q; exact ⟨⟨⟨⟨by omega, q.1⟩, q.2.1.2.2.1⟩, q.2.1.2.1⟩, by omega⟩
      · intro q
        have hne : en h 2 h.length (tT h j) ≠ i := fun q2 => by rw [q2] at e; omega
        exact ⟨q.1.1.1.2, ⟨⟨by omega, by omega⟩, q.1.2, q.1.1.2, .inl q.1.1.1.2⟩, by omega, by omega⟩
    · have := hh.uniq e.1 e2.1 (by rw [e.2.1, e2.2.1]) (by omega) (by omega)
      rw [this] at e
      omega
#print axioms rec_ref
#print axioms car_ref
#print axioms tow_ref
end Go.Proofs.Ytpehbffkplmfjaa
