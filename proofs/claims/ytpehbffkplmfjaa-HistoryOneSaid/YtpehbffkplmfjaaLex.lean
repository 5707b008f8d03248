/- The first of all orders of a rising slice is the least; two transactions alone: of no program. -/
import Derived.Test.YtpehbffkplmfjaaTra
import Derived.Test.YtpehbffkplmfjaaOnm
import Derived.Test.YtpehbffkplmfjaaCmp
namespace Go.Proofs.Ytpehbffkplmfjaa
open Go.RowKit
def LexN (p q : List Nat) : Prop := ∀ i, i < p.length → (∀ j, j < i → p.getD j 0 = q.getD j 0) → i < q.length ∧ p.getD i 0 ≤ q.getD i 0
theorem perms_lex : ∀ (n : Nat) (l : List Nat), l.length = n → l.Pairwise (· < ·) → (perms l).Pairwise LexN
  | 0, l, hn, _ => by
    obtain rfl := List.eq_nil_of_length_eq_zero hn
    simp [perms, permsF]
  | n + 1, l, hn, hl => by
    rw [perms_cons (by intro q; rw [q] at hn; simp at hn), List.pairwise_flatMap]
    refine ⟨fun i hi => ?_, ?_⟩
    · have hi := List.mem_range.1 hi
      rw [List.pairwise_map]
      refine (perms_lex n (l.eraseIdx i) (by rw [List.length_eraseIdx_of_lt hi]; omega) (hl.sublist (List.eraseIdx_sublist _ _))).imp fun {p q} hpq k hk hj => ?_
      match k with
      | 0 => exact ⟨by simp, by simp⟩
      | k + 1 =>
        have := hpq k (by simpa using hk) fun j hj' => by simpa using hj (j + 1) (by omega)
        simpa using this
    · refine List.Pairwise.imp_of_mem (R := fun a b => a < b) (fun {a b} ha hb hab p hp q hq k hk hj => ?_) List.pairwise_lt_range
      have ha := List.mem_range.1 ha
      have hb := List.mem_range.1 hb
      obtain ⟨p', _, rfl⟩ := List.mem_map.1 hp
      obtain ⟨q', _, rfl⟩ := List.mem_map.1 hq
      have hlt : l.getD a 0 < l.getD b 0 := by
        have := (List.pairwise_iff_getElem.1 hl) a b ha hb hab
        rw [List.getD_eq_getElem?_getD, List.getElem?_eq_getElem ha, List.getD_eq_getElem?_getD, List.getElem?_eq_getElem hb]
        exact this
      match k with
      | 0 => exact ⟨by simp, by simpa using Nat.le_of_lt hlt⟩
      | k + 1 =>
        have := hj 0 (by omega)
        simp at this
        rw [List.getD_eq_getElem?_getD, List.getD_eq_getElem?_getD] at hlt
        omega
theorem find_lex {l : List Nat} (hl : l.Pairwise (· < ·)) {f : List Nat → Bool} {c a : List Nat} (hc : (perms l).find? f = some c) (ha : a ∈ perms l) (hf : f a = true) : LexN c a := by
  obtain ⟨_, l1, l2, e, hno⟩ := List.find?_eq_some_iff_append.1 hc
  have hp := perms_lex _ l rfl hl
  rw [e] at hp ha
  rcases List.mem_append.1 ha with h | h
  · have := hno a h
    rw [hf] at this; cases this
  · rcases List.mem_cons.1 h with h | h
    · rw [h]; exact fun i hi _ => ⟨hi, Nat.le_refl _⟩
    · exact (List.pairwise_cons.1 (List.pairwise_append.1 hp).2.1).1 a h
theorem lex_le {c a : List Nat} (h : LexN c a) : Le (castN c) (castN a) := by
  have hg : ∀ (l : List Nat) i, gI (castN l) i = ((l.getD i 0 : Nat) : Int) := fun l i => by
    unfold gI castN
    rw [List.getD_eq_getElem?_getD, List.getD_eq_getElem?_getD, List.getElem?_map]
    cases l[i]? <;> rfl
  intro i hi hj
  rw [castN_length] at hi ⊢
  have := h i hi fun j hj' => by have := hj j hj'; rw [hg, hg] at this; omega
  rw [hg, hg]
  exact ⟨this.1, by omega⟩
theorem com_rising (h : List NOp) : (comN h 7).Pairwise (· < ·) := List.pairwise_lt_range.filter _
/-- where an order is equivalent, a view equivalent one is, no later -/
theorem view_le {h : List NOp} (hh : VH h) {a : List Nat} (ha : ordN h = some a) : ∃ c, vwN h = some c ∧ Le (castN c) (castN a) := by
  rw [ordN_fst'] at ha
  have hm := List.mem_of_find?_eq_some ha
  have hg := List.find?_some ha
  have hv := ag_view hh (perms_perm rfl hm) hg
  cases hc : vwN h with
  | none =>
    rw [vwN_find, List.find?_eq_none] at hc
    exact absurd hv (by simpa using hc a hm)
  | some c =>
    rw [vwN_find] at hc
    exact ⟨c, rfl, lex_le (find_lex (com_rising h) hc hm hv)⟩
/-! ### two transactions alone -/
def nop' (h : List NOp) (i : Nat) : NOp := (tT h i, tK h i, tI h i)
def twI (h : List NOp) (x y k : Nat) : List Nat := (List.range k).filter fun i => decide (tT h i = x ∨ tT h i = y)
def twN (h : List NOp) (x y k : Nat) : List NOp := (twI h x y k).map (nop' h)
theorem twN_step (h : List NOp) (x y k : Nat) : twN h x y (k + 1) = if tT h k = x ∨ tT h k = y then twN h x y k ++ [(tT h k, tK h k, tI h k)] else twN h x y k := by
  unfold twN twI
  rw [List.range_succ, List.filter_append, List.map_append]
  by_cases e : tT h k = x ∨ tT h k = y
  · rw [if_pos e]; simp [e, nop']
  · rw [if_neg e]; simp [e]
theorem twN_le (h : List NOp) (x y k : Nat) : (twN h x y k).length ≤ k := by
  unfold twN twI
  rw [List.length_map]
  have := List.length_filter_le (fun i => decide (tT h i = x ∨ tT h i = y)) (List.range k)
  rwa [List.length_range] at this
theorem tw_at {h : List NOp} {σ : List Nat} {j : Nat} (hj : j < σ.length) : tT (σ.map (nop' h)) j = tT h (σ.getD j 0) ∧ tK (σ.map (nop' h)) j = tK h (σ.getD j 0) ∧ tI (σ.map (nop' h)) j = tI h (σ.getD j 0) := by
  have e : (σ.map (nop' h)).getD j (0, 0, 0) = nop' h (σ.getD j 0) := by
    rw [List.getD_eq_getElem?_getD, List.getD_eq_getElem?_getD, List.getElem?_map, List.getElem?_eq_getElem hj]; rfl
  unfold tT tK tI
  rw [e]
  exact ⟨rfl, rfl, rfl⟩
theorem twI_lt (h : List NOp) (x y : Nat) {a b : Nat} (ha : a < b) (hb : b < (twI h x y h.length).length) : (twI h x y h.length).getD a 0 < (twI h x y h.length).getD b 0 := by
  have hp : (twI h x y h.length).Pairwise (· < ·) := List.pairwise_lt_range.filter _
  have := (List.pairwise_iff_getElem.1 hp) a b (by omega) hb ha
  rw [List.getD_eq_getElem?_getD, List.getElem?_eq_getElem (by omega), List.getD_eq_getElem?_getD, List.getElem?_eq_getElem hb]
  exact this
theorem mem_twI {h : List NOp} {x y i : Nat} : i ∈ twI h x y h.length ↔ i < h.length ∧ (tT h i = x ∨ tT h i = y) := by
  unfold twI
  rw [List.mem_filter, List.mem_range, decide_eq_true_eq]
theorem tw_pos {h : List NOp} {x y i : Nat} (hi : i ∈ twI h x y h.length) : ∃ k, k < (twI h x y h.length).length ∧ (twI h x y h.length).getD k 0 = i := by
  obtain ⟨k, hk, e⟩ := List.getElem_of_mem hi
  exact ⟨k, hk, by rw [List.getD_eq_getElem?_getD, List.getElem?_eq_getElem hk]; exact e⟩
theorem twN_vh {h : List NOp} (hh : VH h) (x y : Nat) : VH (twN h x y h.length) where
  le := Nat.le_trans (twN_le h x y _) hh.le
  t6 := fun i hi => by unfold twN at hi ⊢; rw [List.length_map] at hi; rw [(tw_at hi).1]; exact hh.t6 _ (mem_twI.1 (getD_mem hi)).1
  k3 := fun i hi => by unfold twN at hi ⊢; rw [List.length_map] at hi; rw [(tw_at hi).2.1]; exact hh.k3 _ (mem_twI.1 (getD_mem hi)).1
  x5 := fun i hi => by unfold twN at hi ⊢; rw [List.length_map] at hi; rw [(tw_at hi).2.1, (tw_at hi).2.2]; exact hh.x5 _ (mem_twI.1 (getD_mem hi)).1
  once := fun i hi j hj => by
    unfold twN at hi ⊢
    rw [List.length_map] at hi
    have hj' : j < (twI h x y h.length).length := by omega
    rw [(tw_at hi).1, (tw_at hj').1, (tw_at hj').2.1]
    exact hh.once _ (mem_twI.1 (getD_mem hi)).1 _ (twI_lt h x y hj hi)
theorem en_ex' {h : List NOp} (hl : h.length ≤ 40) (q t : Nat) : en h q h.length t ≠ 40 ↔ ∃ i, i < h.length ∧ tT h i = t ∧ tK h i = q := by
  rcases en_spec h q t h.length hl with h1 | h1
  · exact ⟨fun r => absurd h1.1 r, fun ⟨i, h2, h3⟩ => absurd h3 (h1.2 i h2)⟩
  · exact ⟨fun _ => ⟨_, h1.1, h1.2⟩, fun _ r => by omega⟩
theorem tw_com {h : List NOp} (hh : VH h) {x y t : Nat} (ht : t < 7) : lv (twN h x y h.length) (twN h x y h.length).length (7 + t) ≠ 40 ↔ (t = x ∨ t = y) ∧ lv h h.length (7 + t) ≠ 40 := by
  rw [lv_com _ ht, lv_com h ht, en_ex' (twN_vh hh x y).le, en_ex' hh.le]
  constructor
  · rintro ⟨i, hi, h1, h2⟩
    unfold twN at hi h1 h2
    rw [List.length_map] at hi
    rw [(tw_at hi).1] at h1
    rw [(tw_at hi).2.1] at h2
    have hm := mem_twI.1 (getD_mem hi)
    exact ⟨by rw [← h1]; exact hm.2, _, hm.1, h1, h2⟩
  · rintro ⟨hxy, i, hi, h1, h2⟩
    obtain ⟨k, hk, e⟩ := tw_pos (mem_twI.2 ⟨hi, by rw [h1]; exact hxy⟩)
    refine ⟨k, by unfold twN; rw [List.length_map]; exact hk, ?_, ?_⟩
    · unfold twN; rw [(tw_at hk).1, e]; exact h1
    · unfold twN; rw [(tw_at hk).2.1, e]; exact h2
/-- of two transactions in conflict alone no other order is equivalent -/
theorem tw_order {h : List NOp} (hh : VH h) {x y : Nat} (hx : x ∈ comN h 7) (hy : y ∈ comN h 7) (he : bitE (ed h h.length) x y = true) {d : List Nat} (hd : ordN (twN h x y h.length) = some d) : d = [x, y] := by
  have mx := mem_com'.1 hx
  have my := mem_com'.1 hy
  have hne : x ≠ y := fun e => by
    rw [e] at he
    have := ed_irr (h := h) y
    unfold bitE at he
    rw [this] at he; cases he
  rw [ordN_fst'] at hd
  have hm := perms_perm rfl (List.mem_of_find?_eq_some hd)
  have hg := List.find?_some hd
  have hnd : d.Nodup := hm.nodup_iff.2 (List.nodup_range.filter _)
  have hmem : ∀ t, t ∈ d ↔ t = x ∨ t = y := fun t => by
    rw [hm.mem_iff, mem_com']
    constructor
    · rintro ⟨h1, h2⟩; exact ((tw_com hh h1).1 h2).1
    · rintro (rfl | rfl)
      · exact ⟨mx.1, (tw_com hh mx.1).2 ⟨.inl rfl, mx.2⟩⟩
      · exact ⟨my.1, (tw_com hh my.1).2 ⟨.inr rfl, my.2⟩⟩
  have hed : (ed (twN h x y h.length) (twN h x y h.length).length x).testBit y = true := by
    obtain ⟨i, hi, j, hj, h1, h2, h3⟩ := (ed_bit _).1 (show (ed h h.length x).testBit y = true from he)
    have hjl : j < h.length := by omega
    obtain ⟨ki, hki, ei⟩ := tw_pos (mem_twI.2 ⟨hi, .inr h3.symm⟩ : i ∈ twI h x y h.length)
    obtain ⟨kj, hkj, ej⟩ := tw_pos (mem_twI.2 ⟨hjl, .inl h2.symm⟩ : j ∈ twI h x y h.length)
    have hlt : kj < ki := by
      rcases Nat.lt_trichotomy kj ki with q | q | q
      · exact q
      · rw [q] at ej; omega
      · have := twI_lt h x y q hkj; omega
    refine (ed_bit _).2 ⟨ki, by unfold twN; rw [List.length_map]; exact hki, kj, hlt, ?_, by unfold twN; rw [(tw_at hkj).1, ej]; exact h2, by unfold twN; rw [(tw_at hki).1, ei]; exact h3⟩
    have ti : tT (twN h x y h.length) ki = y := by unfold twN; rw [(tw_at hki).1, ei]; exact h3.symm
    have tj : tT (twN h x y h.length) kj = x := by unfold twN; rw [(tw_at hkj).1, ej]; exact h2.symm
    refine ⟨⟨by rw [ti]; exact (tw_com hh my.1).2 ⟨.inr rfl, my.2⟩, by rw [tj]; exact (tw_com hh mx.1).2 ⟨.inl rfl, mx.2⟩⟩, ?_⟩
    have h5 := h1.2
    unfold twN
    rw [(tw_at hki).1, (tw_at hkj).1, (tw_at hki).2.1, (tw_at hkj).2.1, (tw_at hki).2.2, (tw_at hkj).2.2, ei, ej]
    exact h5
  match d, hnd, hmem, hg with
  | [], _, hmem, _ => have := (hmem x).2 (.inl rfl); simp at this
  | [a], _, hmem, _ =>
    have h1 := (hmem x).2 (.inl rfl)
    have h2 := (hmem y).2 (.inr rfl)
    simp at h1 h2
    omega
  | a :: b :: c :: r, hnd, hmem, _ =>
    have h1 := (hmem a).1 (by simp)
    have h2 := (hmem b).1 (by simp)
    have h3 := (hmem c).1 (by simp)
    simp at hnd
    omega
  | [a, b], hnd, hmem, hg =>
    have h1 := (hmem a).1 (by simp)
    have h2 := (hmem b).1 (by simp)
    have hab : a ≠ b := by simpa using hnd
    rcases h1 with rfl | rfl
    · rcases h2 with rfl | rfl
      · exact absurd rfl hab
      · rfl
    · rcases h2 with rfl | rfl
      · simp only [agB, List.all_cons, List.all_nil, Bool.and_true] at hg
        unfold bitE at hg
        rw [hed] at hg
        simp at hg
      · exact absurd rfl hab
#print axioms view_le
#print axioms tw_order
end Go.Proofs.Ytpehbffkplmfjaa
