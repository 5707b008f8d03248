/- The math of the edges under snapshots: the program's and the reference's. -/
import Derived.Test.YtpehbffkplmfjaaSnm
import Derived.Test.YtpehbffkplmfjaaSni
import Derived.Test.YtpehbffkplmfjaaCfm
namespace Go.Proofs.Ytpehbffkplmfjaa
open Go.RowKit
theorem mem_comS {h : List NOp} {t : Nat} : t ∈ comN h 7 ↔ t < 7 ∧ lv h h.length (7 + t) ≠ 40 := by
  unfold comN
  rw [List.mem_filter, List.mem_range, decide_eq_true_eq]
theorem com_pos {h : List NOp} (hh : VH h) {t : Nat} (ht : t ∈ comN h 7) : 0 < t := by
  obtain ⟨h1, h2⟩ := mem_comS.1 ht
  obtain ⟨i, hi, rfl⟩ := com_has hh h1 h2
  exact (hh.row hi).2.1
theorem beg_min {h : List NOp} {i : Nat} (hi40 : i ≤ 40) : ∀ n, i < n → n ≤ 41 → beg h n (tT h i) ≤ i
  | 0, hn, _ => by omega
  | n + 1, hn, h41 => by
    rw [beg]
    by_cases e : i = n
    · subst e; rw [if_pos rfl]; exact Nat.min_le_right _ _
    · have := beg_min (h := h) hi40 n (by omega) (by omega)
      split
      · exact Nat.le_trans (Nat.min_le_left _ _) this
      · exact this
theorem beg_com {h : List NOp} (hh : VH h) {t : Nat} (ht : t < 7) (hc : lv h h.length (7 + t) ≠ 40) : lv h h.length t ≤ lv h h.length (7 + t) := by
  rw [lv_com h ht] at hc ⊢
  rw [lv_beg h ht]
  have hl := hh.le
  rcases en_spec h 2 t h.length hh.le with e | e
  · exact absurd e.1 hc
  · have := beg_min (h := h) (i := en h 2 h.length t) (by omega) h.length e.1 (by omega)
    rw [e.2.1] at this; exact this
theorem seR_bit {h : List NOp} {W F : Nat → Nat} {l : List Nat} {i a c : Nat} {f : Nat → Nat} : ∀ j, j ≤ l.length → ((seR h W F l i f j a).testBit c = true ↔ (f a).testBit c = true ∨ a = l.getD i 0 ∧ a ≠ c ∧ SnE h W F l a c ∧ ∃ k, k < j ∧ c = l.getD k 0)
  | 0, _ => by
    rw [seR]
    exact ⟨.inl, fun q => q.elim id fun ⟨_, _, _, k, hk, _⟩ => by omega⟩
  | j + 1, hj => by
    have ih := seR_bit (h := h) (W := W) (F := F) (l := l) (i := i) (a := a) (c := c) (f := f) j (by omega)
    have ex : (∃ k, k < j + 1 ∧ c = l.getD k 0) ↔ (∃ k, k < j ∧ c = l.getD k 0) ∨ c = l.getD j 0 := by
      constructor
      · rintro ⟨k, hk, e⟩
        by_cases q : k = j
        · subst q; exact .inr e
        · exact .inl ⟨k, by omega, e⟩
      · rintro (⟨k, hk, e⟩ | e)
        · exact ⟨k, by omega, e⟩
        · exact ⟨j, by omega, e⟩
    rw [seR]
    by_cases q : l.getD i 0 ≠ l.getD j 0 ∧ SnE h W F l (l.getD i 0) (l.getD j 0)
    · rw [if_pos q]
      by_cases e : a = l.getD i 0
      · simp only [e, if_true] at ih ⊢
        rw [Nat.testBit_or, Bool.or_eq_true, ih, Nat.testBit_two_pow, decide_eq_true_eq, ex]
        constructor
        · rintro ((r | ⟨_, r2, r3, r4⟩) | r)
          · exact .inl r
          · exact .inr ⟨trivial, r2, r3, .inl r4⟩
          · exact .inr ⟨trivial, by rw [← r]; exact q.1, by rw [← r]; exact q.2, .inr r.symm⟩
        · rintro (r | ⟨_, r2, r3, r4 | r4⟩)
          · exact .inl (.inl r)
          · exact .inl (.inr ⟨trivial, r2, r3, r4⟩)
          · exact .inr r4.symm
      · simp only [e, if_false] at ih ⊢
        rw [ih]
        simp
    · rw [if_neg q, ih, ex]
      constructor
      · rintro (r | ⟨r1, r2, r3, r4⟩)
        · exact .inl r
        · exact .inr ⟨r1, r2, r3, .inl r4⟩
      · rintro (r | ⟨r1, r2, r3, r4 | r4⟩)
        · exact .inl r
        · exact .inr ⟨r1, r2, r3, r4⟩
        · rw [r4, r1] at r2 r3
          exact absurd ⟨r2, r3⟩ q
theorem seT_bit {h : List NOp} {W F : Nat → Nat} {l : List Nat} {a c : Nat} : ∀ i, i ≤ l.length → ((seT h W F l i a).testBit c = true ↔ a ≠ c ∧ SnE h W F l a c ∧ c ∈ l ∧ ∃ k, k < i ∧ a = l.getD k 0)
  | 0, _ => by
    rw [seT]
    exact ⟨fun e => (by simp at e), fun ⟨_, _, _, k, hk, _⟩ => by omega⟩
  | i + 1, hi => by
    have ih := seT_bit (h := h) (W := W) (F := F) (l := l) (a := a) (c := c) i (by omega)
    have hc : (∃ k, k < l.length ∧ c = l.getD k 0) ↔ c ∈ l := by
      constructor
      · rintro ⟨k, hk, rfl⟩; exact getD_mem hk
      · intro hc
        obtain ⟨k, hk, rfl⟩ := List.getElem_of_mem hc
        exact ⟨k, hk, by rw [List.getD_eq_getElem?_getD, List.getElem?_eq_getElem hk]; rfl⟩
    rw [seT, seR_bit _ (Nat.le_refl _), ih, hc]
    constructor
    · rintro (⟨r1, r2, r3, k, hk, r4⟩ | ⟨r1, r2, r3, r4⟩)
      · exact ⟨r1, r2, r3, k, by omega, r4⟩
      · exact ⟨r2, r3, r4, i, by omega, r1⟩
    · rintro ⟨r1, r2, r3, k, hk, r4⟩
      by_cases q : k = i
      · subst q; exact .inr ⟨r4, r1, r2, r3⟩
      · exact .inl ⟨r1, r2, r3, k, by omega, r4⟩
theorem mem_getD {l : List Nat} {a : Nat} : (∃ k, k < l.length ∧ a = l.getD k 0) ↔ a ∈ l := by
  constructor
  · rintro ⟨k, hk, rfl⟩; exact getD_mem hk
  · intro hc
    obtain ⟨k, hk, rfl⟩ := List.getElem_of_mem hc
    exact ⟨k, hk, by rw [List.getD_eq_getElem?_getD, List.getElem?_eq_getElem hk]; rfl⟩
/-- the reference's last writer before b, of the first k transactions -/
def LbQ (h : List NOp) (x b last t : Nat) : Prop := t ≠ b ∧ WrP h t x ∧ lv h h.length (7 + t) < lv h h.length b ∧ (last = 0 ∨ lv h h.length (7 + last) < lv h h.length (7 + t))
noncomputable instance (h : List NOp) (x b last t : Nat) : Decidable (LbQ h x b last t) := Classical.propDecidable _
noncomputable def lbR (h : List NOp) (x b : Nat) : Nat → Nat
  | 0 => 0
  | k + 1 => if LbQ h x b (lbR h x b k) ((comN h 7).getD k 0) then (comN h 7).getD k 0 else lbR h x b k
theorem lbR_is {h : List NOp} (hh : VH h) {x b : Nat} : ∀ k, k ≤ (comN h 7).length → lbR h x b k = lbTo h (snW h h.length) x (lv h h.length b) (comN h 7) k
  | 0, _ => rfl
  | k + 1, hk => by
    have ih := lbR_is hh (x := x) (b := b) k (by omega)
    have hm : (comN h 7).getD k 0 ∈ comN h 7 := getD_mem (by omega)
    rw [lbR, lbTo, ih]
    generalize (comN h 7).getD k 0 = t at *
    have e : LbQ h x b (lbTo h (snW h h.length) x (lv h h.length b) (comN h 7) k) t ↔ LbC h (snW h h.length) x (lv h h.length b) (lbTo h (snW h h.length) x (lv h h.length b) (comN h 7) k) t := by
      unfold LbQ LbC
      rw [snW_wr]
      refine ⟨fun q => q.2, fun q => ⟨fun e => ?_, q⟩⟩
      obtain ⟨h1, h2⟩ := mem_comS.1 hm
      have h3 := beg_com hh h1 h2
      have h4 := q.2.1
      rw [← e] at h4
      omega
    by_cases q : LbC h (snW h h.length) x (lv h h.length b) (lbTo h (snW h h.length) x (lv h h.length b) (comN h 7) k) t
    · rw [if_pos q, if_pos (e.2 q)]
    · rw [if_neg q, if_neg (fun r => q (e.1 r))]
theorem lbR_mem {h : List NOp} {x b : Nat} : ∀ k, k ≤ (comN h 7).length → lbR h x b k = 0 ∨ lbR h x b k ∈ comN h 7 ∧ lbR h x b k ≠ b
  | 0, _ => .inl rfl
  | k + 1, hk => by
    rw [lbR]
    split
    · rename_i q
      exact .inr ⟨getD_mem (by omega), q.1⟩
    · exact lbR_mem k (by omega)
/-- the edges of all sorts, as the reference finds them -/
def AllE (h : List NOp) (a b : Nat) : Prop :=
  (a ∈ comN h 7 ∧ b ∈ comN h 7 ∧ An h a b) ∨ b ∈ comN h 7 ∧ ∃ x, x < 6 ∧ ((a ∈ comN h 7 ∧ a ≠ b ∧ WrP h a x ∧ WrP h b x ∧ lv h h.length (7 + a) < lv h h.length (7 + b)) ∨ (lbR h x b (comN h 7).length = a ∧ 0 < a ∧ RdP h b x))
theorem allE_snEd {h : List NOp} (hh : VH h) (a b : Nat) : AllE h a b ↔ (snEd h a).testBit b = true := by
  unfold snEd
  rw [seT_bit _ (Nat.le_refl _), mem_getD]
  have hrd : rdB h (snW h h.length) (snR h h.length) (comN h 7) a b = true ↔ ∃ x, x < 6 ∧ RdP h b x ∧ lbR h x b (comN h 7).length = a := by
    unfold rdB
    rw [List.any_eq_true]
    constructor
    · rintro ⟨x, hx, q⟩
      rw [Bool.and_eq_true, decide_eq_true_eq, snR_rd] at q
      exact ⟨x, List.mem_range.1 hx, q.1, by rw [lbR_is hh _ (Nat.le_refl _)]; exact q.2⟩
    · rintro ⟨x, hx, q1, q2⟩
      refine ⟨x, List.mem_range.2 hx, ?_⟩
      rw [Bool.and_eq_true, decide_eq_true_eq, snR_rd]
      rw [lbR_is hh _ (Nat.le_refl _)] at q2
      exact ⟨q1, q2⟩
  unfold AllE SnE An
  rw [hrd]
  constructor
  · rintro (⟨h1, h2, h3, h4⟩ | ⟨h1, x, hx, (⟨h2, h3, h4, h5, h6⟩ | ⟨h2, h3, h4⟩)⟩)
    · exact ⟨h3, .inr (.inr h4), h2, h1⟩
    · exact ⟨h3, .inl ⟨and_bit.2 ⟨x, snW_wr.2 h4, snW_wr.2 h5⟩, h6⟩, h1, h2⟩
    · rcases lbR_mem (h := h) (x := x) (b := b) _ (Nat.le_refl _) with e | e
      · omega
      · rw [h2] at e
        exact ⟨e.2, .inr (.inl ⟨x, hx, h4, h2⟩), h1, e.1⟩
  · rintro ⟨h1, (⟨h2, h3⟩ | ⟨x, hx, h2, h3⟩ | h2), h4, h5⟩
    · obtain ⟨x, q1, q2⟩ := and_bit.1 h2
      exact .inr ⟨h4, x, wrP_lt hh (snW_wr.1 q1), .inl ⟨h5, h1, snW_wr.1 q1, snW_wr.1 q2, h3⟩⟩
    · exact .inr ⟨h4, x, hx, .inr ⟨h3, com_pos hh h5, h2⟩⟩
    · exact .inl ⟨h5, h4, h1, h2⟩
theorem snEd_irr {h : List NOp} (x : Nat) : (snEd h x).testBit x = false := by
  cases e : (snEd h x).testBit x with
  | false => rfl
  | true =>
    unfold snEd at e
    exact absurd rfl ((seT_bit _ (Nat.le_refl _)).1 e).1
theorem snOrd_fst (h : List NOp) : snOrd h = fst' (fun a b => (snEd h a).testBit b) (comN h 7) := by
  unfold snOrd
  rw [fo_fst (fun x => snEd_irr x) _ _ _ rfl]
  simp
#print axioms snOrd_fst
#print axioms allE_snEd
end Go.Proofs.Ytpehbffkplmfjaa
