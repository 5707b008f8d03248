/- An order that agrees with the conflicts has the history's view: of no program. -/
import Derived.Test.YtpehbffkplmfjaaVmx
import Derived.Test.YtpehbffkplmfjaaCfm
namespace Go.Proofs.Ytpehbffkplmfjaa
open Go.RowKit
/-- the order of two operations counts for a view -/
def Cfl (h : List NOp) (x y : Nat) : Prop := tI h x = tI h y ∧ (tK h x ≤ 1 ∧ tK h y ≤ 1) ∧ (tK h x = 1 ∨ tK h y = 1)
theorem Cfl.symm {h : List NOp} {x y : Nat} (c : Cfl h x y) : Cfl h y x := ⟨c.1.symm, c.2.1.symm, c.2.2.symm⟩
theorem doV_id {h : List NOp} {x : Nat} (h2 : ¬ tK h x ≤ 1) (V : Nat → Nat) : doV h x V = V := by
  unfold doV
  rw [if_neg (by omega), if_neg (by omega)]
theorem do_comm {h : List NOp} {x y : Nat} (hx : x < 40) (hy : y < 40) (hne : x ≠ y) (hd : ¬ Cfl h x y) (V : Nat → Nat) : doV h x (doV h y V) = doV h y (doV h x V) := by
  by_cases kx : tK h x ≤ 1
  · by_cases ky : tK h y ≤ 1
    · have hit : tI h x = tI h y → tK h x = 0 ∧ tK h y = 0 := fun e => by
        by_cases c : tK h x = 1 ∨ tK h y = 1
        · exact absurd ⟨e, ⟨kx, ky⟩, c⟩ hd
        · omega
      funext j
      have p0 : tK h x = 0 ∨ tK h x = 1 := by omega
      have p1 : tK h y = 0 ∨ tK h y = 1 := by omega
      have n1 : ¬ ((1 : Nat) = 0) := by decide
      unfold doV
      rcases p0 with p0 | p0 <;> rcases p1 with p1 | p1 <;> rw [p0, p1] at hit ⊢ <;> simp only [if_true, n1, if_false]
      · by_cases q : j = x
        · subst q
          rw [if_pos rfl, if_neg (by omega), if_neg hne, if_pos rfl]
        · rw [if_neg q]
          by_cases q2 : j = y
          · rw [if_pos q2, if_pos q2, if_neg (by omega)]
          · rw [if_neg q2, if_neg q2, if_neg q]
      · have hn : tI h x ≠ tI h y := fun c => by have := hit c; omega
        by_cases q : j = x
        · subst q
          rw [if_pos rfl, if_neg (by omega), if_neg (by omega), if_pos rfl]
        · rw [if_neg q]
          by_cases q2 : j = 40 + tI h y
          · rw [if_pos q2, if_pos q2]
          · rw [if_neg q2, if_neg q2, if_neg q]
      · have hn : tI h x ≠ tI h y := fun c => by have := hit c; omega
        by_cases q : j = 40 + tI h x
        · subst q
          rw [if_pos rfl, if_neg (by omega), if_pos rfl]
        · rw [if_neg q]
          by_cases q2 : j = y
          · rw [if_pos q2, if_pos q2, if_neg (by omega)]
          · rw [if_neg q2, if_neg q2, if_neg q]
      · have hn : tI h x ≠ tI h y := fun c => by have := hit c; omega
        by_cases q : j = 40 + tI h x
        · subst q
          rw [if_pos rfl, if_neg (by omega), if_pos rfl]
        · rw [if_neg q]
          by_cases q2 : j = 40 + tI h y
          · rw [if_pos q2, if_pos q2]
          · rw [if_neg q2, if_neg q2, if_neg q]
    · rw [doV_id ky, doV_id ky]
  · rw [doV_id kx, doV_id kx]
theorem ex_front {h : List NOp} {a : Nat} (ha : a < 40) : ∀ (pre : List Nat) (V : Nat → Nat), (∀ y, y ∈ pre → y < 40 ∧ a ≠ y ∧ ¬ Cfl h a y) → exV h (pre ++ [a]) V = exV h pre (doV h a V)
  | [], V, _ => rfl
  | y :: pre, V, hp => by
    have h1 := hp y (by simp)
    show exV h (pre ++ [a]) (doV h y V) = exV h pre (doV h y (doV h a V))
    rw [ex_front ha pre _ fun z hz => hp z (by simp [hz]), do_comm ha h1.1 h1.2.1 h1.2.2]
/-- what is done in another order, that of conflicting operations apart, is the same -/
theorem ex_trace {h : List NOp} : ∀ (σ τ : List Nat), τ.Perm σ → σ.Pairwise (· < ·) → (∀ i, i ∈ σ → i < 40) → τ.Pairwise (fun x y => Cfl h x y → x < y) → ∀ V, exV h τ V = exV h σ V
  | [], τ, hp, _, _, _, V => by rw [hp.eq_nil]
  | a :: σ, τ, hp, hs, hl, ht, V => by
    have ha : a ∈ τ := hp.mem_iff.2 (by simp)
    obtain ⟨pre, post, rfl⟩ := List.append_of_mem ha
    have hp2 : (pre ++ post).Perm σ := (List.perm_cons a).1 (List.perm_middle.symm.trans hp)
    have hs2 := List.pairwise_cons.1 hs
    have ht2 := List.pairwise_append.1 ht
    have ht3 := List.pairwise_cons.1 ht2.2.1
    have hpre : ∀ y, y ∈ pre → y < 40 ∧ a ≠ y ∧ ¬ Cfl h a y := fun y hy => by
      have hm : y ∈ σ := hp2.mem_iff.1 (by simp [hy])
      have hlt := hs2.1 y hm
      exact ⟨hl y (by simp [hm]), by omega, fun c => by have := ht2.2.2 y hy a (by simp) c.symm; omega⟩
    have e1 : pre ++ a :: post = (pre ++ [a]) ++ post := by simp
    rw [e1, exV_append, ex_front (hl a (by simp)) pre V hpre, ← exV_append]
    exact ex_trace σ (pre ++ post) hp2 hs2.2 (fun i hi => hl i (by simp [hi])) (List.pairwise_append.2 ⟨ht2.1, ht3.2, fun x hx y hy => ht2.2.2 x hx y (by simp [hy])⟩) _
theorem mem_com' {h : List NOp} {t : Nat} : t ∈ comN h 7 ↔ t < 7 ∧ lv h h.length (7 + t) ≠ 40 := by
  unfold comN
  rw [List.mem_filter, List.mem_range, decide_eq_true_eq]
theorem mem_ofT' {h : List NOp} {t n i : Nat} : i ∈ ofT h t n ↔ i < n ∧ tT h i = t := by
  unfold ofT
  rw [List.mem_filter, List.mem_range, decide_eq_true_eq]
theorem mem_ofC' {h : List NOp} {n i : Nat} : i ∈ ofC h n ↔ i < n ∧ lv h h.length (7 + tT h i) ≠ 40 := by
  unfold ofC
  rw [List.mem_filter, List.mem_range, decide_eq_true_eq]
theorem ofP_nodup {h : List NOp} {p : List Nat} (hp : p.Nodup) : (ofP h p).Nodup := by
  unfold ofP
  show List.Pairwise _ _
  rw [List.pairwise_flatMap]
  refine ⟨fun t _ => List.nodup_range.filter _, hp.imp fun {a b} hab x hx y hy e => hab ?_⟩
  rw [← (mem_ofT'.1 hx).2, ← (mem_ofT'.1 hy).2, e]
theorem ofP_perm {h : List NOp} (hh : VH h) {p : List Nat} (hp : p.Perm (comN h 7)) : (ofP h p).Perm (ofC h h.length) := by
  have hn : p.Nodup := hp.nodup_iff.2 (List.nodup_range.filter _)
  refine (List.perm_ext_iff_of_nodup (ofP_nodup hn) (List.nodup_range.filter _)).2 fun i => ?_
  unfold ofP
  rw [List.mem_flatMap, show (i ∈ List.filter _ _) ↔ _ from mem_ofC']
  constructor
  · rintro ⟨t, ht, hi⟩
    have h1 := mem_ofT'.1 hi
    exact ⟨h1.1, by rw [h1.2]; exact (mem_com'.1 (hp.mem_iff.1 ht)).2⟩
  · intro hi
    have := hh.t6 i hi.1
    exact ⟨tT h i, hp.mem_iff.2 (mem_com'.2 ⟨by omega, hi.2⟩), mem_ofT'.2 ⟨hi.1, rfl⟩⟩
/-- an order that agrees with the conflicts is view equivalent -/
theorem ag_view {h : List NOp} (hh : VH h) {p : List Nat} (hp : p.Perm (comN h 7)) (hag : agB (fun a b => (ed h h.length a).testBit b) p = true) : eqV (runV h p fun _ => 0) (goV h h.length) = true := by
  have hn : p.Nodup := hp.nodup_iff.2 (List.nodup_range.filter _)
  rw [runV_ex, goV_ex, ex_trace (ofC h h.length) (ofP h p) (ofP_perm hh hp) (List.pairwise_lt_range.filter _) (fun i hi => by have := (mem_ofC'.1 hi).1; have := hh.le; omega) ?_ _, eqV_iff]
  · intro _ _; rfl
  · unfold ofP
    rw [List.pairwise_flatMap]
    refine ⟨fun t _ => by
      have : (ofT h t h.length).Pairwise (· < ·) := List.pairwise_lt_range.filter _
      refine List.Pairwise.imp ?_ this
      intro a b hab _
      exact hab, ?_⟩
    have hpw : p.Pairwise fun a b => a ≠ b ∧ (ed h h.length b).testBit a = false := by
      rw [List.pairwise_iff_getElem]
      intro i j hi hj hij
      refine ⟨fun e => absurd ((List.pairwise_iff_getElem.1 hn) i j hi hj hij) (fun q => q e), ?_⟩
      have := agB_iff.1 hag j hj i hij
      rw [List.getD_eq_getElem?_getD, List.getElem?_eq_getElem hj, List.getD_eq_getElem?_getD, List.getElem?_eq_getElem hi] at this
      exact this
    refine List.Pairwise.imp_of_mem (R := fun a b => a ≠ b ∧ (ed h h.length b).testBit a = false) (fun {a b} ha hb hab x hx y hy hc => ?_) hpw
    have h1 := mem_ofT'.1 hx
    have h2 := mem_ofT'.1 hy
    have ca := (mem_com'.1 (hp.mem_iff.1 ha)).2
    have cb := (mem_com'.1 (hp.mem_iff.1 hb)).2
    rcases Nat.lt_trichotomy x y with q | q | q
    · exact q
    · exact absurd (by rw [← h1.2, ← h2.2, q]) hab.1
    · have : (ed h h.length b).testBit a = true := (ed_bit _).2 ⟨x, h1.1, y, q, ⟨⟨by rw [h1.2]; exact ca, by rw [h2.2]; exact cb⟩, ⟨by have := hc.2.1; omega, by have := hc.2.1; omega⟩, fun e => hab.1 (by rw [← h1.2, ← h2.2, e]), hc.1.symm, hc.2.2.symm⟩, h2.2.symm, h1.2.symm⟩
      rw [hab.2] at this; cases this
#print axioms ag_view
end Go.Proofs.Ytpehbffkplmfjaa
