/- The committed part alone: the math. -/
import Derived.Test.YtpehbffkplmfjaaSnB
import Derived.Test.YtpehbffkplmfjaaVmt
import Derived.Test.YtpehbffkplmfjaaCyp
namespace Go.Proofs.Ytpehbffkplmfjaa
open Go.RowKit
theorem ofC_mem {h : List NOp} {n i : Nat} : i ∈ ofC h n ↔ i < n ∧ lv h h.length (7 + tT h i) ≠ 40 := by
  unfold ofC
  rw [List.mem_filter, List.mem_range, decide_eq_true_eq]
theorem ofC_lt (h : List NOp) : (ofC h h.length).Pairwise (· < ·) := List.pairwise_lt_range.filter _
/-- index j of the part is index i of the history -/
def At (h : List NOp) (j i : Nat) : Prop := j < (ofC h h.length).length ∧ (ofC h h.length).getD j 0 = i
theorem at_lt {h : List NOp} {j i j' i' : Nat} (a : At h j i) (b : At h j' i') : j < j' ↔ i < i' := by
  obtain ⟨a1, rfl⟩ := a
  obtain ⟨b1, rfl⟩ := b
  have hp := List.pairwise_iff_getElem.1 (ofC_lt h)
  have g1 : (ofC h h.length).getD j 0 = (ofC h h.length)[j] := by rw [List.getD_eq_getElem?_getD, List.getElem?_eq_getElem a1]; rfl
  have g2 : (ofC h h.length).getD j' 0 = (ofC h h.length)[j'] := by rw [List.getD_eq_getElem?_getD, List.getElem?_eq_getElem b1]; rfl
  rw [g1, g2]
  rcases Nat.lt_trichotomy j j' with c | c | c
  · exact ⟨fun _ => hp j j' a1 b1 c, fun _ => c⟩
  · subst c; exact ⟨fun q => by omega, fun q => by omega⟩
  · have := hp j' j b1 a1 c
    exact ⟨fun q => by omega, fun q => by omega⟩
theorem at_of {h : List NOp} {i : Nat} (hi : i < h.length) (hc : lv h h.length (7 + tT h i) ≠ 40) : ∃ j, At h j i := by
  obtain ⟨j, hj, e⟩ := List.getElem_of_mem (ofC_mem.2 ⟨hi, hc⟩)
  exact ⟨j, hj, by rw [List.getD_eq_getElem?_getD, List.getElem?_eq_getElem hj]; exact e⟩
theorem part_len {h : List NOp} (hh : VH h) : (partN h).length = (ofC h h.length).length := by rw [part_of h hh, List.length_map]
theorem at_ops {h : List NOp} (hh : VH h) {j i : Nat} (a : At h j i) : j < (partN h).length ∧ i < h.length ∧ lv h h.length (7 + tT h i) ≠ 40 ∧ tT (partN h) j = tT h i ∧ tK (partN h) j = tK h i ∧ tI (partN h) j = tI h i := by
  obtain ⟨a1, rfl⟩ := a
  have hm : (ofC h h.length).getD j 0 ∈ ofC h h.length := getD_mem a1
  have := ofC_mem.1 hm
  obtain ⟨s1, s2, s3⟩ := sel_at (h := h) a1
  rw [part_len hh]
  rw [part_of h hh]
  exact ⟨a1, this.1, this.2, s1, s2, s3⟩
theorem at_ex {h : List NOp} (hh : VH h) {j : Nat} (hj : j < (partN h).length) : At h j ((ofC h h.length).getD j 0) := ⟨by rw [part_len hh] at hj; exact hj, rfl⟩
theorem part_vh {h : List NOp} (hh : VH h) : VH (partN h) := by rw [part_of h hh]; exact (ofC_sel h).vh hh
theorem part_le' (h : List NOp) : (partN h).length ≤ h.length := List.length_filter_le _ _
theorem cm_at {h : List NOp} (hh : VH h) {t : Nat} (ht : t < 7) (hc : lv h h.length (7 + t) ≠ 40) : At h (lv (partN h) (partN h).length (7 + t)) (lv h h.length (7 + t)) := by
  have hc' := hc
  rw [lv_com h ht] at hc'
  rcases en_spec h 2 t h.length hh.le with e | ⟨e1, e2, e3⟩
  · exact absurd e.1 hc'
  · obtain ⟨j, a⟩ := at_of e1 (by rw [e2]; exact hc)
    obtain ⟨b1, b2, b3, b4, b5, b6⟩ := at_ops hh a
    have := en_is (part_vh hh) (q := 2) (by omega) b1 (by rw [b5]; exact e3)
    rw [b4, e2] at this
    rw [lv_com _ ht, lv_com h ht, this]
    exact a
theorem bg_at {h : List NOp} (hh : VH h) {t : Nat} (ht : t < 7) (hc : lv h h.length (7 + t) ≠ 40) : At h (lv (partN h) (partN h).length t) (lv h h.length t) := by
  obtain ⟨i0, hi0, ht0⟩ := com_has hh ht hc
  obtain ⟨i, _, hi1, hi2⟩ := first_at (p := fun i => tT h i = t) i0 ht0
  have hi : i < h.length := by omega
  obtain ⟨j, a⟩ := at_of hi (by rw [hi1]; exact hc)
  obtain ⟨b1, b2, b3, b4, b5, b6⟩ := at_ops hh a
  have hl := hh.le
  have hl2 := (part_vh hh).le
  have e1 := (beg_first (h := h) (t := t) (k := i) hi1 hi2 (by omega) h.length hl).2 hi
  have e2 := (beg_first (h := partN h) (t := t) (k := j) (by rw [b4]; exact hi1) (fun j' hj' q => by
    have a' := at_ex hh (show j' < (partN h).length by omega)
    obtain ⟨c1, c2, c3, c4, _⟩ := at_ops hh a'
    rw [c4] at q
    exact hi2 _ ((at_lt a' a).1 hj') q) (by omega) (partN h).length hl2).2 b1
  rw [lv_beg _ ht, lv_beg h ht, e1, e2]
  exact a
theorem com_iff {h : List NOp} (hh : VH h) {t : Nat} (ht : t < 7) : lv (partN h) (partN h).length (7 + t) ≠ 40 ↔ lv h h.length (7 + t) ≠ 40 := by
  constructor
  · intro q
    rw [lv_com _ ht] at q
    rcases en_spec (partN h) 2 t (partN h).length (part_vh hh).le with e | ⟨e1, e2, e3⟩
    · exact absurd e.1 q
    · have a := at_ex hh e1
      obtain ⟨b1, b2, b3, b4, b5, b6⟩ := at_ops hh a
      rw [e2] at b4
      rw [← b4] at b3
      exact b3
  · intro q
    have a := cm_at hh ht q
    have := (at_ops hh a).1
    have := (part_vh hh).le
    omega
theorem part_com {h : List NOp} (hh : VH h) : comN (partN h) 7 = comN h 7 := by
  unfold comN
  refine List.filter_congr fun t ht => ?_
  exact decide_eq_decide.2 (com_iff hh (List.mem_range.1 ht))
theorem part_wr {h : List NOp} (hh : VH h) {t x : Nat} (ht : t ∈ comN h 7) : WrP (partN h) t x ↔ WrP h t x := by
  constructor
  · rintro ⟨j, hj, q1, q2, q3⟩
    have a := at_ex hh hj
    obtain ⟨b1, b2, b3, b4, b5, b6⟩ := at_ops hh a
    exact ⟨_, b2, by rw [← b4]; exact q1, by rw [← b5]; exact q2, by rw [← b6]; exact q3⟩
  · rintro ⟨i, hi, q1, q2, q3⟩
    obtain ⟨j, a⟩ := at_of hi (by rw [q1]; exact (mem_comS.1 ht).2)
    obtain ⟨b1, b2, b3, b4, b5, b6⟩ := at_ops hh a
    exact ⟨j, b1, by rw [b4]; exact q1, by rw [b5]; exact q2, by rw [b6]; exact q3⟩
theorem at_on {h : List NOp} (hh : VH h) {t x j i : Nat} (a : At h j i) : OnP (partN h) t x j ↔ OnP h t x i := by
  obtain ⟨b1, b2, b3, b4, b5, b6⟩ := at_ops hh a
  unfold OnP
  rw [b4, b5, b6]
theorem part_rd {h : List NOp} (hh : VH h) {t x : Nat} (ht : t ∈ comN h 7) : RdP (partN h) t x ↔ RdP h t x := by
  constructor
  · rintro ⟨j, hj, q1, q2, q3⟩
    have a := at_ex hh hj
    obtain ⟨b1, b2, b3, b4, b5, b6⟩ := at_ops hh a
    refine ⟨_, b2, (at_on hh a).1 q1, by rw [← b5]; exact q2, fun i' hi' r => ?_⟩
    obtain ⟨j', a'⟩ := at_of (show i' < h.length by omega) (by rw [r.1]; exact (mem_comS.1 ht).2)
    exact q3 j' ((at_lt a' a).2 hi') ((at_on hh a').2 r)
  · rintro ⟨i, hi, q1, q2, q3⟩
    obtain ⟨j, a⟩ := at_of hi (by rw [q1.1]; exact (mem_comS.1 ht).2)
    obtain ⟨b1, b2, b3, b4, b5, b6⟩ := at_ops hh a
    refine ⟨j, b1, (at_on hh a).2 q1, by rw [b5]; exact q2, fun j' hj' r => ?_⟩
    have a' := at_ex hh (show j' < (partN h).length by omega)
    exact q3 _ ((at_lt a' a).1 hj') ((at_on hh a').1 r)
theorem bc_iff {h : List NOp} (hh : VH h) {a c : Nat} (ha : a ∈ comN h 7) (hc : c ∈ comN h 7) : lv (partN h) (partN h).length a < lv (partN h) (partN h).length (7 + c) ↔ lv h h.length a < lv h h.length (7 + c) :=
  at_lt (bg_at hh (mem_comS.1 ha).1 (mem_comS.1 ha).2) (cm_at hh (mem_comS.1 hc).1 (mem_comS.1 hc).2)
theorem cb_iff {h : List NOp} (hh : VH h) {a c : Nat} (ha : a ∈ comN h 7) (hc : c ∈ comN h 7) : lv (partN h) (partN h).length (7 + a) < lv (partN h) (partN h).length c ↔ lv h h.length (7 + a) < lv h h.length c :=
  at_lt (cm_at hh (mem_comS.1 ha).1 (mem_comS.1 ha).2) (bg_at hh (mem_comS.1 hc).1 (mem_comS.1 hc).2)
theorem cc_iff {h : List NOp} (hh : VH h) {a c : Nat} (ha : a ∈ comN h 7) (hc : c ∈ comN h 7) : lv (partN h) (partN h).length (7 + a) < lv (partN h) (partN h).length (7 + c) ↔ lv h h.length (7 + a) < lv h h.length (7 + c) :=
  at_lt (cm_at hh (mem_comS.1 ha).1 (mem_comS.1 ha).2) (cm_at hh (mem_comS.1 hc).1 (mem_comS.1 hc).2)
theorem part_ovl {h : List NOp} (hh : VH h) {a c : Nat} (ha : a ∈ comN h 7) (hc : c ∈ comN h 7) : Ovl (partN h) a c ↔ Ovl h a c := and_congr (bc_iff hh ha hc) (bc_iff hh hc ha)
theorem part_bad {h : List NOp} (hh : VH h) {a c : Nat} (ha : a ∈ comN h 7) (hc : c ∈ comN h 7) : Bad (partN h) (snW (partN h) (partN h).length) a c ↔ Bad h (snW h h.length) a c := by
  rw [bad_iff (part_vh hh), bad_iff hh, part_ovl hh ha hc]
  simp only [part_wr hh ha, part_wr hh hc]
theorem part_all {h : List NOp} (hh : VH h) : AllP (partN h) ↔ AllP h := by
  unfold AllP
  rw [part_com hh]
  exact ⟨fun q a ha c hc hne r => q a ha c hc hne ((part_bad hh ha hc).2 r), fun q a ha c hc hne r => q a ha c hc hne ((part_bad hh ha hc).1 r)⟩
theorem part_an {h : List NOp} (hh : VH h) {a c : Nat} (ha : a ∈ comN h 7) (hc : c ∈ comN h 7) : An (partN h) a c ↔ An h a c := by
  unfold An
  rw [mis_iff (part_vh hh), mis_iff hh]
  simp only [part_rd hh ha, part_wr hh hc, bc_iff hh ha hc]
theorem part_dg {h : List NOp} (hh : VH h) {a c : Nat} (ha : a ∈ comN h 7) (hc : c ∈ comN h 7) : Dg (partN h) a c ↔ Dg h a c := and_congr (part_an hh ha hc) (part_ovl hh ha hc)
theorem flat_congr {α β : Type} {f g : α → List β} : ∀ {l : List α}, (∀ x, x ∈ l → f x = g x) → l.flatMap f = l.flatMap g
  | [], _ => rfl
  | a :: l, h => by rw [List.flatMap_cons, List.flatMap_cons, h a (by simp), flat_congr fun x hx => h x (by simp [hx])]
theorem part_dgN {h : List NOp} (hh : VH h) : dgN (partN h) = dgN h := by
  unfold dgN dgX
  rw [part_com hh, List.take_length]
  refine flat_congr fun x hx => ?_
  unfold dgY
  rw [List.take_length]
  refine flat_congr fun y hy => ?_
  unfold dgZ
  rw [List.take_length]
  have e : (comN h 7).filter (fun z => decide (Dg (partN h) y z)) = (comN h 7).filter fun z => decide (Dg h y z) := List.filter_congr fun z hz => decide_eq_decide.2 (part_dg hh hy hz)
  rw [e]
  by_cases q : Dg h x y
  · rw [if_pos q, if_pos ((part_dg hh hx hy).2 q)]
  · rw [if_neg q, if_neg (fun r => q ((part_dg hh hx hy).1 r))]
theorem part_lbR {h : List NOp} (hh : VH h) {x b : Nat} (hb : b ∈ comN h 7) : ∀ k, k ≤ (comN h 7).length → lbR (partN h) x b k = lbR h x b k
  | 0, _ => rfl
  | k + 1, hk => by
    have ih := part_lbR hh (x := x) hb k (by omega)
    have hm := lbR_mem (h := h) (x := x) (b := b) k (by omega)
    have ht : (comN h 7).getD k 0 ∈ comN h 7 := getD_mem (by omega)
    rw [lbR, lbR, ih, part_com hh]
    generalize (comN h 7).getD k 0 = t at *
    have e : LbQ (partN h) x b (lbR h x b k) t ↔ LbQ h x b (lbR h x b k) t := by
      unfold LbQ
      rw [part_wr hh ht, cb_iff hh ht hb]
      refine and_congr Iff.rfl (and_congr Iff.rfl (and_congr Iff.rfl ?_))
      rcases hm with hm | hm
      · rw [hm]; simp
      · rw [cc_iff hh hm.1 ht]
    by_cases q : LbQ h x b (lbR h x b k) t
    · rw [if_pos q, if_pos (e.2 q)]
    · rw [if_neg q, if_neg (fun r => q (e.1 r))]
theorem part_allE {h : List NOp} (hh : VH h) (a b : Nat) : AllE (partN h) a b ↔ AllE h a b := by
  unfold AllE
  rw [part_com hh]
  constructor
  · rintro (⟨h1, h2, h3⟩ | ⟨h1, x, hx, (⟨h2, h3, h4, h5, h6⟩ | ⟨h2, h3, h4⟩)⟩)
    · exact .inl ⟨h1, h2, (part_an hh h1 h2).1 h3⟩
    · exact .inr ⟨h1, x, hx, .inl ⟨h2, h3, (part_wr hh h2).1 h4, (part_wr hh h1).1 h5, (cc_iff hh h2 h1).1 h6⟩⟩
    · exact .inr ⟨h1, x, hx, .inr ⟨by rw [← part_lbR hh h1 _ (Nat.le_refl _)]; exact h2, h3, (part_rd hh h1).1 h4⟩⟩
  · rintro (⟨h1, h2, h3⟩ | ⟨h1, x, hx, (⟨h2, h3, h4, h5, h6⟩ | ⟨h2, h3, h4⟩)⟩)
    · exact .inl ⟨h1, h2, (part_an hh h1 h2).2 h3⟩
    · exact .inr ⟨h1, x, hx, .inl ⟨h2, h3, (part_wr hh h2).2 h4, (part_wr hh h1).2 h5, (cc_iff hh h2 h1).2 h6⟩⟩
    · exact .inr ⟨h1, x, hx, .inr ⟨by rw [part_lbR hh h1 _ (Nat.le_refl _)]; exact h2, h3, (part_rd hh h1).2 h4⟩⟩
theorem part_snOrd {h : List NOp} (hh : VH h) : snOrd (partN h) = snOrd h := by
  rw [snOrd_fst, snOrd_fst, part_com hh]
  congr 1
  funext a b
  rw [Bool.eq_iff_iff, ← allE_snEd (part_vh hh), ← allE_snEd hh, part_allE hh]
theorem part_idem {h : List NOp} (hh : VH h) : partN (partN h) = partN h := by
  conv => lhs; unfold partN
  refine List.filter_eq_self.2 fun d hd => ?_
  obtain ⟨j, hj, e⟩ := List.getElem_of_mem hd
  have e2 : d.1 = tT (partN h) j := by rw [← e, nop_get hj]; rfl
  have a := at_ex hh hj
  obtain ⟨b1, b2, b3, b4, b5, b6⟩ := at_ops hh a
  rw [decide_eq_true_eq, e2]
  have h7 : tT (partN h) j < 7 := by have := (part_vh hh).t6 j hj; omega
  refine (endI_com h7).2 ((com_iff hh h7).2 ?_)
  rw [b4]; exact b3
theorem part_bit {h : List NOp} (hh : VH h) : bitE (ed (partN h) (partN h).length) = bitE (ed h h.length) := by
  funext a b
  unfold bitE
  rw [← edR_ed (part_vh hh), ← edR_ed hh, part_idem hh]
theorem part_ordN {h : List NOp} (hh : VH h) : ordN (partN h) = ordN h := by
  rw [ordN_fst (part_vh hh), ordN_fst hh, part_idem hh, part_com hh]
theorem part_cycN {h : List NOp} (hh : VH h) : cycN (partN h) = cycN h := by
  unfold cycN
  rw [part_com hh]
  congr 1
  funext k
  unfold cyK
  rw [part_bit hh, part_com hh]
theorem part_ser {h : List NOp} {p : List Nat} (hp : ∀ x, x ∈ p → x ∈ comN h 7) : serN (partN h) p = serN h p := by
  unfold serN
  refine flat_congr fun t ht => ?_
  unfold serT
  rw [List.take_length, List.take_length]
  unfold partN
  rw [List.filter_filter]
  refine List.filter_congr fun d hd => ?_
  have hc := mem_comS.1 (hp t ht)
  by_cases q : d.1 = t
  · have : endI h 2 t ≥ 0 := (endI_com hc.1).2 hc.2
    simp [q]
    exact this
  · simp [q]
theorem part_vwN {h : List NOp} (hh : VH h) : vwN (partN h) = vwN h := by
  rw [← vwN_seen (part_vh hh), ← vwN_seen hh, part_com hh]
  have : ∀ P : List (List Nat), (∀ p, p ∈ P → ∀ x, x ∈ p → x ∈ comN h 7) → P.find? (seenB (partN h)) = P.find? (seenB h) := by
    intro P
    induction P with
    | nil => intro _; rfl
    | cons p P ih =>
      intro hP
      have e : seenB (partN h) p = seenB h p := by
        unfold seenB
        rw [part_idem hh, part_ser (hP p (by simp))]
      rw [List.find?_cons, List.find?_cons, e, ih fun q hq => hP q (by simp [hq])]
  exact this _ fun p hp x hx => (perms_perm rfl hp).mem_iff.1 hx
#print axioms part_vwN
end Go.Proofs.Ytpehbffkplmfjaa
