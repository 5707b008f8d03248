/- Snapshots without a dangerous pair are serializable: the math. -/
import Derived.Test.YtpehbffkplmfjaaSnk
import Derived.Test.YtpehbffkplmfjaaOnm
namespace Go.Proofs.Ytpehbffkplmfjaa
open Go.RowKit
theorem com_inj {h : List NOp} (hh : VH h) {s t : Nat} (hs : s ∈ comN h 7) (ht : t ∈ comN h 7) (e : lv h h.length (7 + s) = lv h h.length (7 + t)) : s = t := by
  obtain ⟨s7, hs⟩ := mem_comS.1 hs
  obtain ⟨t7, ht⟩ := mem_comS.1 ht
  rw [lv_com h s7, lv_com h t7] at e
  rw [lv_com h s7] at hs
  rw [lv_com h t7] at ht
  rcases en_spec h 2 s h.length hh.le with a | a
  · exact absurd a.1 hs
  · rcases en_spec h 2 t h.length hh.le with b | b
    · exact absurd b.1 ht
    · rw [e] at a
      exact a.2.1.symm.trans b.2.1
theorem lb_spec {h : List NOp} {W : Nat → Nat} {item i : Nat} {l : List Nat} : ∀ k, lbTo h W item i l k = 0 ∨ lv h h.length (7 + lbTo h W item i l k) < i
  | 0 => .inl rfl
  | k + 1 => by
    rw [lbTo]
    split
    · rename_i q; exact .inr q.2.1
    · exact lb_spec k
theorem edge_cases {h : List NOp} (hh : VH h) (hP : AllP h) {x y : Nat} (hx : x ∈ comN h 7) (hy : y ∈ comN h 7) (hne : x ≠ y) (hE : (snEd h x).testBit y = true) : lv h h.length (7 + x) ≤ lv h h.length y ∨ Dg h x y := by
  unfold snEd at hE
  obtain ⟨_, hS, _, _⟩ := (seT_bit _ (Nat.le_refl _)).1 hE
  have hbx := beg_com hh (mem_comS.1 hx).1 (mem_comS.1 hx).2
  rcases hS with ⟨h1, h2⟩ | h1 | h1
  · left
    have hB := hP x hx y hy hne
    have hO : ¬ Ovl h x y := fun q => hB ⟨q, h1⟩
    unfold Ovl at hO
    omega
  · left
    unfold rdB at h1
    obtain ⟨it, _, q⟩ := List.any_eq_true.1 h1
    rw [Bool.and_eq_true, decide_eq_true_eq] at q
    rcases lb_spec (h := h) (W := snW h h.length) (item := it) (i := lv h h.length y) (l := comN h 7) (comN h 7).length with e | e
    · rw [q.2] at e; have := com_pos hh hx; omega
    · rw [q.2] at e; omega
  · by_cases hO : Ovl h x y
    · exact .inr ⟨⟨hne, h1⟩, hO⟩
    · left
      have h2 := h1.2
      unfold Ovl at hO
      omega
theorem dg_mem {h : List NOp} {x y z : Nat} (hx : x ∈ comN h 7) (hy : y ∈ comN h 7) (hz : z ∈ comN h 7) (h1 : Dg h x y) (h2 : Dg h y z) : tri x y z ∈ dgN h := by
  unfold dgN dgX
  rw [List.take_length]
  refine List.mem_flatMap.2 ⟨x, hx, ?_⟩
  unfold dgY
  rw [List.take_length]
  refine List.mem_flatMap.2 ⟨y, hy, ?_⟩
  unfold dgZ
  rw [if_pos h1, List.take_length]
  exact List.mem_map.2 ⟨z, List.mem_filter.2 ⟨hz, decide_eq_true h2⟩, rfl⟩
theorem comN_nodup (h : List NOp) : (comN h 7).Nodup := List.nodup_range.filter _
theorem safe {h : List NOp} (hh : VH h) (hP : AllP h) (hn : snOrd h = none) : 0 < (dgN h).length := by
  rw [snOrd_fst] at hn
  obtain ⟨S, hS, hm, hp⟩ := no_src (E := fun a b => (snEd h a).testBit b) _ (comN h 7) rfl (comN_nodup h) hn
  obtain ⟨s0, hs0⟩ := List.exists_mem_of_ne_nil S hS
  obtain ⟨n, ⟨z, hz, hzn⟩, hmin⟩ := least' (P := fun n => ∃ z, z ∈ S ∧ lv h h.length (7 + z) = n) ⟨_, s0, hs0, rfl⟩
  have hmin' : ∀ t, t ∈ S → lv h h.length (7 + z) ≤ lv h h.length (7 + t) := fun t ht => by
    rcases Nat.lt_or_ge (lv h h.length (7 + t)) (lv h h.length (7 + z)) with q | q
    · exact absurd ⟨t, ht, rfl⟩ (hmin _ (by omega))
    · exact q
  obtain ⟨y, hy, hyz, hEy⟩ := hp z hz
  have hbz := beg_com hh (mem_comS.1 (hm z hz)).1 (mem_comS.1 (hm z hz)).2
  rcases edge_cases hh hP (hm y hy) (hm z hz) hyz hEy with c | c
  · exact absurd (com_inj hh (hm y hy) (hm z hz) (by have := hmin' y hy; omega)) hyz
  · obtain ⟨x, hx, hxy, hEx⟩ := hp y hy
    rcases edge_cases hh hP (hm x hx) (hm y hy) hxy hEx with d | d
    · have h1 := c.2.1
      have h2 := hmin' x hx
      omega
    · exact List.length_pos_of_mem (dg_mem (hm x hx) (hm y hy) (hm z hz) d c)
#print axioms safe
end Go.Proofs.Ytpehbffkplmfjaa
