/- Math: the search for the first homomorphism, variable by variable. -/
import Derived.Test.YtfplmdieeabgpaaLbx
namespace Go.Proofs.Ytfplmdieeabgpaa
open Go.RowKit
theorem pre_snoc {b h : List Int} (hb : b <+: h) (hl : b.length < h.length) : (b ++ [h.getD b.length 0]) <+: h := by
  obtain ⟨t, rfl⟩ := hb
  cases t with
  | nil => simp at hl
  | cons x t => exact ⟨t, by simp [List.getD_eq_getElem?_getD]⟩
theorem pre_get {b h : List Int} (hb : b <+: h) {i : Nat} (hi : i < b.length) : b.getD i 0 = h.getD i 0 := by
  obtain ⟨t, rfl⟩ := hb
  simp only [List.getD_eq_getElem?_getD]
  rw [List.getElem?_append_left hi]
theorem cmpL_pre : ∀ (b : List Int) {x y : Int} {s t : List Int}, x < y → cmpL (b ++ x :: s) (b ++ y :: t) ≤ 0
  | [], x, y, s, t, h => by simp [cmpL, h]
  | c :: b, x, y, s, t, h => by
    simp only [List.cons_append, cmpL]
    rw [if_neg (by omega), if_neg (by omega)]
    exact cmpL_pre b h
/-- all atoms whose variables have terms give atoms of q, and the head fits so far -/
structure Poss (p q : HQ) (c : List Int) : Prop where
  img : ∀ a, a ∈ p.2 → (∀ t, t ∈ a.2 → t < c.length) → (a.1, a.2.map (app c)) ∈ q.2
  hd : ∀ i, i < p.1.length → p.1.getD i 0 < c.length → c.getD (p.1.getD i 0).toNat 0 = q.1.getD i 0
theorem poss_of {p q : HQ} (hp : QrV p) {h c : List Int} (H : HomP p q h) (hc : c <+: h) : Poss p q c := by
  refine ⟨fun a ha ht => ?_, fun i hi hl => ?_⟩
  · have e : a.2.map (app c) = a.2.map (app h) := List.map_congr_left fun t h1 => by
      unfold app
      by_cases k : 0 ≤ t
      · rw [if_pos k, if_pos k]; exact pre_get hc (by have := ht t h1; omega)
      · rw [if_neg k, if_neg k]
    rw [e]; exact H.img a ha
  · have h0 := (head_occ hp hi).1
    rw [pre_get hc (by omega)]; exact H.hd i hi
/-- what the search returns: the first homomorphism that begins so, if there is one -/
def TryR (p q : HQ) (b : List Int) (w : World) (u : Value) : Prop :=
  (u = .slice none 0 0 ∧ ∀ h, HomP p q h → ¬ b <+: h) ∨ (∃ a n k h, u = .slice (some a) n k ∧ Ints w u h ∧ HomP p q h ∧ b <+: h ∧ ∀ h', HomP p q h' → b <+: h' → cmpL h h' ≤ 0)
theorem TryR.keep {p q : HQ} {b : List Int} {w w' : World} {u : Value} (h : TryR p q b w u) (hb : Below w.heap.size w w') : TryR p q b w' u := by
  rcases h with h | ⟨a, n, k, h, h1, h2, h3⟩
  · exact .inl h
  · exact .inr ⟨a, n, k, h, h1, h2.keep hb, h3⟩
theorem pre_full {b h : List Int} (hb : b <+: h) (hl : b.length = h.length) : b = h := by
  obtain ⟨t, rfl⟩ := hb
  simp at hl; subst hl; simp
theorem tryR_full {p q : HQ} {b : List Int} (h8 : b.length = 8) {w : World} {u : Value} {a : Addr} {n k : Nat} (hu : u = .slice (some a) n k) (hi : Ints w u b) (H : HomP p q b) : TryR p q b w u :=
  .inr ⟨a, n, k, b, hu, hi, H, List.prefix_refl _, fun h' H' hp => by rw [pre_full hp (by rw [h8, H'.len]), cmpL_refl]; omega⟩
theorem tryR_none {p q : HQ} {b : List Int} (h8 : b.length = 8) {w : World} (H : ¬ HomP p q b) : TryR p q b w (.slice none 0 0) :=
  .inl ⟨rfl, fun h' H' hp => H (by rw [pre_full hp (by rw [h8, H'.len])]; exact H')⟩
theorem pre_left {b h : List Int} {x : Int} (hp : (b ++ [x]) <+: h) : b <+: h := by
  obtain ⟨t, rfl⟩ := hp
  exact ⟨x :: t, by simp⟩
theorem tryR_skip {p q : HQ} {b : List Int} (hl : b.length < 8) (ho : ¬ occ p.2 b.length) {w : World} {u : Value} (h : TryR p q (b ++ [99]) w u) : TryR p q b w u := by
  have k : ∀ h, HomP p q h → b <+: h → (b ++ [99]) <+: h := fun h H hb => by
    have := pre_snoc hb (by rw [H.len]; omega)
    rwa [H.out _ hl ho] at this
  rcases h with ⟨e, h⟩ | ⟨a, n, c, h, h1, h2, h3, h4, h5⟩
  · exact .inl ⟨e, fun h' H' hb => h h' H' (k h' H' hb)⟩
  · exact .inr ⟨a, n, c, h, h1, h2, h3, pre_left h4, fun h' H' hb => h5 h' H' (k h' H' hb)⟩
/-- no homomorphism that begins so goes on with less than x -/
def NoLess (p q : HQ) (b : List Int) (x : Int) : Prop := ∀ h, HomP p q h → b <+: h → x ≤ h.getD b.length 0
theorem noLess_0 {p q : HQ} (hq : QrV q) {b : List Int} (ho : occ p.2 b.length) : NoLess p q b (-9) := fun h H _ => by
  obtain ⟨a, ha, ht⟩ := H.term ho
  exact (qrV_arg hq ha _ ht).1
theorem noLess_step {p q : HQ} {b : List Int} (hl : b.length < 8) {x : Int} (h : NoLess p q b x) (hn : ∀ h, HomP p q h → ¬ (b ++ [x]) <+: h) : NoLess p q b (x + 1) := fun h' H hb => by
  have h1 := h h' H hb
  have h2 := pre_snoc hb (by rw [H.len]; omega)
  have h3 : h'.getD b.length 0 ≠ x := fun e => hn h' H (by rwa [e] at h2)
  omega
theorem noLess_end {p q : HQ} (hq : QrV q) {b : List Int} (ho : occ p.2 b.length) {x : Int} (h : NoLess p q b x) (hx : 7 < x) (w : World) : TryR p q b w (.slice none 0 0) :=
  .inl ⟨rfl, fun h' H hb => by
    obtain ⟨a, ha, ht⟩ := H.term ho
    have := (qrV_arg hq ha _ ht).2
    have := h h' H hb
    omega⟩
theorem tryR_found {p q : HQ} {b : List Int} (hl : b.length < 8) {x : Int} (hn : NoLess p q b x) {w : World} {u : Value} {a : Addr} {n k : Nat} (hu : u = .slice (some a) n k) (h : TryR p q (b ++ [x]) w u) : TryR p q b w u := by
  rcases h with ⟨e, _⟩ | ⟨a, n, c, h, h1, h2, h3, h4, h5⟩
  · rw [hu] at e; cases e
  · refine .inr ⟨a, n, c, h, h1, h2, h3, pre_left h4, fun h' H' hb => ?_⟩
    have k1 := hn h' H' hb
    have k2 := pre_snoc hb (by rw [H'.len]; omega)
    by_cases e : h'.getD b.length 0 = x
    · rw [e] at k2; exact h5 h' H' k2
    · obtain ⟨s, hs⟩ := h4
      obtain ⟨t, ht⟩ := k2
      rw [← hs, ← ht, List.append_assoc, List.append_assoc]
      exact cmpL_pre b (by omega)
/-- the variables of an atom, none behind the first n -/
theorem vsA_shift {l : List Int} (h7 : ∀ t, t ∈ l → t ≤ 7) (n : Nat) : vsA l >>> n = 0 ↔ ∀ t, t ∈ l → t < n := by
  constructor
  · intro h t ht
    rcases Int.lt_or_le t n with k | k
    · exact k
    · exfalso
      have e : ((t.toNat : Nat) : Int) = t := Int.toNat_of_nonneg (by omega)
      have hb := (vsT_bit l t.toNat l.length (Nat.le_refl _)).2 ⟨by have := h7 t ht; omega, by rw [List.take_length, e]; exact ht⟩
      have : (vsA l >>> n).testBit (t.toNat - n) = true := by rw [Nat.testBit_shiftRight, show n + (t.toNat - n) = t.toNat by omega]; exact hb
      rw [h] at this; simp at this
  · intro h
    apply Nat.eq_of_testBit_eq
    intro i
    rw [Nat.testBit_shiftRight, Nat.zero_testBit]
    cases hb : (vsA l).testBit (n + i) with
    | false => rfl
    | true =>
      have := (vsT_bit l (n + i) l.length (Nat.le_refl _)).1 hb
      rw [List.take_length] at this
      have := h _ this.2
      omega
def HomRC (p q : HQ) (w : World) (u : Value) (c : Int) : Prop :=
  (¬ PairV p q ∧ u = .slice none 0 0 ∧ c = 2) ∨ (PairV p q ∧ (∀ h, ¬ HomP p q h) ∧ u = .slice none 0 0 ∧ c = 5) ∨ (PairV p q ∧ c = 0 ∧ ∃ h, Ints w u h ∧ HomP p q h ∧ ∀ h', HomP p q h' → cmpL h h' ≤ 0)
theorem HomRC.keep {p q : HQ} {w w' : World} {u : Value} {c : Int} (h : HomRC p q w u c) (hb : Below w.heap.size w w') : HomRC p q w' u c := by
  rcases h with h | h | ⟨h1, h2, h, h3, h4⟩
  · exact .inl h
  · exact .inr (.inl h)
  · exact .inr (.inr ⟨h1, h2, h, h3.keep hb, h4⟩)
theorem same_hom {p q : HQ} {b : Nat} {w w' : World} {u u' : Value} {c c' : Int} (h : HomC p q b w u c) (hb : Below w.heap.size w w') (k : HomRC p q w' u' c') : c = c' ∧ ∃ L, Ints w' u L ∧ Ints w' u' L := by
  have hn : Ints w' (.slice none 0 0) [] := (ownInts_nil 0 w').ints
  rcases h with ⟨h1, rfl, rfl⟩ | ⟨h1, h2, rfl, rfl⟩ | ⟨h1, rfl, x, h3, h4, h5⟩
  · rcases k with ⟨_, rfl, rfl⟩ | ⟨k1, _⟩ | ⟨k1, _⟩
    · exact ⟨rfl, [], hn, hn⟩
    · exact absurd k1 h1
    · exact absurd k1 h1
  · rcases k with ⟨k1, _⟩ | ⟨_, _, rfl, rfl⟩ | ⟨_, _, y, _, k4, _⟩
    · exact absurd h1 k1
    · exact ⟨rfl, [], hn, hn⟩
    · exact absurd (isH_of h1.1 h1.2.1 k4) (h2 y)
  · rcases k with ⟨k1, _⟩ | ⟨_, k2, _⟩ | ⟨_, rfl, y, k3, k4, k5⟩
    · exact absurd h1 k1
    · exact absurd (homP_of h1.1 h1.2.1 h4) (k2 x)
    · have e1 := h5 y (isH_of h1.1 h1.2.1 k4)
      have e2 := k5 x (homP_of h1.1 h1.2.1 h4)
      have e3 := cmpL_swap x y
      have e : x = y := cmpL_eq (by omega)
      subst e
      exact ⟨rfl, x, (h3.ints).keep hb, k3⟩
#print axioms same_hom
#print axioms vsA_shift
#print axioms noLess_end
end Go.Proofs.Ytfplmdieeabgpaa
