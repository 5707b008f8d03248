/- Math: the matches of two bodies without common variables. -/
import Derived.Test.YtfplmdieeabgpaaHmb
namespace Go.Proofs.Ytfplmdieeabgpaa
open Go.RowKit
theorem ofQ_eq {q : HQ} (h1 : q.1.length ≤ 9) (h2 : q.2.length ≤ 7) (h3 : ∀ i, i < q.2.length → (aA q.2 i).length ≤ 9) : ofQ q = q := by
  obtain ⟨hd, bd⟩ := q
  simp only at *
  unfold ofQ
  simp only
  rw [List.take_of_length_le h1, List.take_of_length_le h2]
  refine congrArg (Prod.mk hd) (List.ext_getElem (by simp) fun i a b => ?_)
  rw [List.getElem_map, at_get b]
  unfold ofA
  rw [List.take_of_length_le (h3 i b)]
theorem ofQ_of {q : HQ} (h : QrV q) : ofQ q = q :=
  ofQ_eq (by have := h.1.2.2; omega) (by have := h.1.2.1; omega) fun i hi => by have := (h.2.1 i hi).2.1.2; omega
theorem ofQ_valid {q : HQ} (h : QrV (ofQ q)) : ofQ q = q := by
  obtain ⟨hd, bd⟩ := q
  have l1 := h.1.2.2
  have l2 := h.1.2.1
  have l3 := h.2.1
  simp only [ofQ, List.length_take, List.length_map] at l1 l2 l3
  have h7 : bd.length ≤ 7 := by omega
  refine ofQ_eq (show hd.length ≤ 9 by omega) h7 fun i hi => ?_
  have hi' : i < bd.length := hi
  have := (l3 i (by omega)).2.1.2
  rw [List.take_of_length_le h7, show aA (bd.map ofA) i = (aA bd i).take 9 by simp [aA, hi', ofA], List.length_take] at this
  show (aA bd i).length ≤ 9
  omega
theorem occ_app {P Q : List At'} {i : Nat} : occ (P ++ Q) i ↔ occ P i ∨ occ Q i := by
  constructor
  · rintro ⟨a, ha, h⟩
    rcases List.mem_append.1 ha with ha | ha
    · exact .inl ⟨a, ha, h⟩
    · exact .inr ⟨a, ha, h⟩
  · rintro (⟨a, ha, h⟩ | ⟨a, ha, h⟩)
    · exact ⟨a, List.mem_append_left _ ha, h⟩
    · exact ⟨a, List.mem_append_right _ ha, h⟩
/-- a match of more atoms, seen at some of them -/
theorem maP_restrict {F P body : List At'} (hP : ∀ b, b ∈ P → AtOk b) (hs : ∀ a, a ∈ P → a ∈ body) {w : List Int} (hw : MaP F body w) : MaP F P (mkV P fun i => w.getD i 0) := by
  refine ⟨mkV_len _ _, fun a ha => ?_, fun i hi => ?_⟩
  · obtain ⟨f, hf, hg⟩ := hw.fit a (hs a ha)
    refine ⟨f, hf, (gives_same fun i hi => ?_).2 hg⟩
    have h7 := hP a ha _ hi
    exact mkV_at (by omega) ⟨a, ha, hi⟩
  · by_cases c : occ P i
    · rw [mkV_at hi c]
      obtain ⟨a, ha, h⟩ := c
      exact ⟨fun _ => ⟨a, ha, h⟩, fun _ => (hw.sup i hi).2 ⟨a, hs a ha, h⟩⟩
    · rw [mkV_no hi c]
      exact ⟨fun h => absurd rfl h, fun h => absurd h c⟩
/-- two matches in one -/
def mrg (v u : List Int) : List Int := (List.range 8).map fun i => if v.getD i 0 ≠ 0 then v.getD i 0 else u.getD i 0
theorem mrg_at {v u : List Int} {i : Nat} (hi : i < 8) : (mrg v u).getD i 0 = if v.getD i 0 ≠ 0 then v.getD i 0 else u.getD i 0 := by
  unfold mrg
  rw [List.getD_eq_getElem?_getD, List.getElem?_map, List.getElem?_range hi]; rfl
theorem maP_app {F P Q : List At'} (hP : ∀ b, b ∈ P → AtOk b) (hQ : ∀ b, b ∈ Q → AtOk b) (hd : ∀ i, i < 8 → occ P i → ¬ occ Q i) (w : List Int) : MaP F (P ++ Q) w ↔ ∃ v u, MaP F P v ∧ MaP F Q u ∧ w = mrg v u := by
  constructor
  · intro h
    refine ⟨_, _, maP_restrict hP (fun a ha => List.mem_append_left _ ha) h, maP_restrict hQ (fun a ha => List.mem_append_right _ ha) h, list8 h.len (by simp [mrg]) fun i hi => ?_⟩
    rw [mrg_at hi]
    have hs := h.sup i hi
    rw [occ_app] at hs
    by_cases c : occ P i
    · rw [mkV_at hi c, if_pos (hs.2 (.inl c))]
    · rw [mkV_no hi c, if_neg (fun h => h rfl)]
      by_cases e : occ Q i
      · rw [mkV_at hi e]
      · rw [mkV_no hi e]
        exact Classical.byContradiction fun q => (hs.1 q).elim c e
  · rintro ⟨v, u, hv, hu, rfl⟩
    have eP : ∀ i, i < 8 → occ P i → (mrg v u).getD i 0 = v.getD i 0 := fun i hi c => by rw [mrg_at hi, if_pos ((hv.sup i hi).2 c)]
    have eQ : ∀ i, i < 8 → ¬ occ P i → (mrg v u).getD i 0 = u.getD i 0 := fun i hi c => by rw [mrg_at hi, if_neg (fun h => c ((hv.sup i hi).1 h))]
    refine ⟨by simp [mrg], fun a ha => ?_, fun i hi => ?_⟩
    · rcases List.mem_append.1 ha with ha | ha
      · obtain ⟨f, hf, hg⟩ := hv.fit a ha
        refine ⟨f, hf, (gives_same fun i hi => ?_).2 hg⟩
        have h7 := hP a ha _ hi
        exact eP i (by omega) ⟨a, ha, hi⟩
      · obtain ⟨f, hf, hg⟩ := hu.fit a ha
        refine ⟨f, hf, (gives_same fun i hi => ?_).2 hg⟩
        have h7 := hQ a ha _ hi
        exact eQ i (by omega) fun c => hd i (by omega) c ⟨a, ha, hi⟩
    · rw [occ_app]
      by_cases c : occ P i
      · rw [eP i hi c]; exact ⟨fun _ => .inl c, fun _ => (hv.sup i hi).2 c⟩
      · rw [eQ i hi c, hu.sup i hi]
        exact ⟨.inr, fun h => h.resolve_left c⟩
theorem mrg_inj {F P Q : List At'} (hd : ∀ i, i < 8 → occ P i → ¬ occ Q i) {v v' u u' : List Int} (hv : MaP F P v) (hv' : MaP F P v') (hu : MaP F Q u) (hu' : MaP F Q u') (h : mrg v u = mrg v' u') : v = v' ∧ u = u' := by
  have z : ∀ {B : List At'} {x : List Int}, MaP F B x → ∀ i, i < 8 → ¬ occ B i → x.getD i 0 = 0 := fun hx i hi c => Classical.byContradiction fun q => c ((hx.sup i hi).1 q)
  have h' : ∀ i, i < 8 → (if v.getD i 0 ≠ 0 then v.getD i 0 else u.getD i 0) = if v'.getD i 0 ≠ 0 then v'.getD i 0 else u'.getD i 0 := fun i hi => by rw [← mrg_at hi, ← mrg_at hi, h]
  refine ⟨list8 hv.len hv'.len fun i hi => ?_, list8 hu.len hu'.len fun i hi => ?_⟩
  · by_cases c : occ P i
    · have := h' i hi
      rwa [if_pos ((hv.sup i hi).2 c), if_pos ((hv'.sup i hi).2 c)] at this
    · rw [z hv i hi c, z hv' i hi c]
  · by_cases c : occ P i
    · rw [z hu i hi (hd i hi c), z hu' i hi (hd i hi c)]
    · have := h' i hi
      rwa [if_neg (fun q => q (z hv i hi c)), if_neg (fun q => q (z hv' i hi c))] at this
theorem len_prod {α β : Type} (g : α → α → β) (m : List α) : ∀ l : List α, (l.flatMap fun x => m.map (g x)).length = l.length * m.length
  | [] => by simp
  | x :: l => by rw [List.flatMap_cons, List.length_append, List.length_map, len_prod g m l, List.length_cons, Nat.add_mul]; omega
theorem nodup_map' {α β : Type} {f : α → β} {l : List α} (h : l.Nodup) (hf : ∀ x y, x ∈ l → y ∈ l → f x = f y → x = y) : (l.map f).Nodup := by
  have : l.map f = l.filterMap fun x => some (f x) := by simp
  rw [this]
  refine nodup_filterMap h fun x y z hx hy e1 e2 => ?_
  injection e1 with e1
  injection e2 with e2
  exact hf x y hx hy (e1.trans e2.symm)
/-- the number of matches is the product -/
theorem len_app {F P Q : List At'} (hP : ∀ b, b ∈ P → AtOk b) (hQ : ∀ b, b ∈ Q → AtOk b) (hd : ∀ i, i < 8 → occ P i → ¬ occ Q i) {L M N : List (List Int)} (l1 : L.Nodup) (l2 : ∀ v, v ∈ L ↔ MaP F P v) (m1 : M.Nodup) (m2 : ∀ v, v ∈ M ↔ MaP F Q v) (n1 : N.Nodup) (n2 : ∀ v, v ∈ N ↔ MaP F (P ++ Q) v) : N.length = L.length * M.length := by
  rw [← len_prod mrg M L]
  refine len_same n1 (nodup_flatMap l1 (fun x hx => nodup_map' m1 fun y z hy hz e => (mrg_inj hd ((l2 x).1 hx) ((l2 x).1 hx) ((m2 y).1 hy) ((m2 z).1 hz) e).2) fun x y z hx hy hz1 hz2 => ?_) fun w => ?_
  · obtain ⟨u, hu, e1⟩ := List.mem_map.1 hz1
    obtain ⟨u', hu', e2⟩ := List.mem_map.1 hz2
    exact (mrg_inj hd ((l2 x).1 hx) ((l2 y).1 hy) ((m2 u).1 hu) ((m2 u').1 hu') (e1.trans e2.symm)).1
  · rw [n2, maP_app hP hQ hd]
    constructor
    · rintro ⟨v, u, hv, hu, rfl⟩
      exact List.mem_flatMap.2 ⟨v, (l2 v).2 hv, List.mem_map.2 ⟨u, (m2 u).2 hu, rfl⟩⟩
    · intro h
      obtain ⟨v, hv, h⟩ := List.mem_flatMap.1 h
      obtain ⟨u, hu, rfl⟩ := List.mem_map.1 h
      exact ⟨v, u, (l2 v).1 hv, (m2 u).1 hu, rfl⟩
/-- too many matches of both: the first has one -/
theorem big_some {F P Q : List At'} (hP : ∀ b, b ∈ P → AtOk b) (h : Big F (P ++ Q)) (hn : ¬ Big F P) : ∃ v, MaP F P v := by
  obtain ⟨k, k0, hk, L, l1, l2, l3⟩ := h
  by_cases c : k ≤ P.length
  · refine absurd ⟨k, k0, c, L, l1, fun v hv => ?_, l3⟩ hn
    have := l2 v hv
    rwa [List.take_append_of_le_length c] at this
  · match L, l2, l3 with
    | v :: L, l2, _ =>
      refine ⟨_, maP_restrict hP (fun a ha => ?_) (l2 v (by simp))⟩
      rw [List.take_append]
      exact List.mem_append_left _ (by rw [List.take_of_length_le (by omega)]; exact ha)
theorem count_le {F P : List At'} (h0 : 1 ≤ P.length) (hn : ¬ Big F P) {L : List (List Int)} (l1 : L.Nodup) (l2 : ∀ v, v ∈ L ↔ MaP F P v) : L.length ≤ 20000 := by
  refine Classical.byContradiction fun h => hn ⟨P.length, by omega, Nat.le_refl _, L, l1, fun v hv => ?_, by omega⟩
  rw [List.take_length]; exact (l2 v).1 hv
theorem atOk_of {q : HQ} (h : QrV q) : ∀ b, b ∈ q.2 → AtOk b := fun _ hb t ht => (qrV_arg h hb t ht).2
theorem disj_of {P Q : List HAt} (h : vsQ P &&& vsQ Q = 0) : ∀ i, i < 8 → occ P i → ¬ occ Q i := fun i hi hp hq => by
  have : (vsQ P &&& vsQ Q).testBit i = true := by
    rw [Nat.testBit_and, (vsQ_bit P i).2 ⟨hi, hp⟩, (vsQ_bit Q i).2 ⟨hi, hq⟩]; rfl
  rw [h] at this; simp at this
theorem both_valid {p q : HQ} (hp : QrV p) (hq : QrV q) (h : (p.2 ++ q.2).length ≤ 5) : QrV (p.1, p.2 ++ q.2) := by
  refine ⟨⟨?_, h, hp.1.2.2⟩, fun i hi => ?_, fun v hv => ⟨(hp.2.2 v hv).1, ?_⟩⟩
  · show 1 ≤ (p.2 ++ q.2).length
    rw [List.length_append]; have := hp.1.1; omega
  · show AtV (aR (p.2 ++ q.2) i) (aA (p.2 ++ q.2) i)
    have hi' : i < (p.2 ++ q.2).length := hi
    rw [List.length_append] at hi'
    by_cases c : i < p.2.length
    · have := hp.2.1 i c
      unfold aR aA at this ⊢
      rw [List.getD_eq_getElem?_getD, List.getElem?_append_left c, ← List.getD_eq_getElem?_getD]; exact this
    · have := hq.2.1 (i - p.2.length) (by omega)
      unfold aR aA at this ⊢
      rw [List.getD_eq_getElem?_getD, List.getElem?_append_right (by omega), ← List.getD_eq_getElem?_getD]; exact this
  · have := (vsQ_bit _ _).1 (hp.2.2 v hv).2
    exact (vsQ_bit _ _).2 ⟨this.1, occ_app.2 (.inl this.2)⟩
#print axioms both_valid
#print axioms len_app
end Go.Proofs.Ytfplmdieeabgpaa
