/- Math: the core of an acyclic query is acyclic. -/
import Derived.Test.YtfplmdieeabgpaaCoa
import Derived.Test.YtfplmdieeabgpaaCkt
namespace Go.Proofs.Ytfplmdieeabgpaa
open Go.RowKit
/-- the same atoms by other numbers -/
theorem acy_map {V U : Nat → Nat → Prop} {L : Nat → Prop} (h : Acy V L) : ∀ (M : Nat → Prop) (f : Nat → Nat), (∀ j, M j → L (f j)) → (∀ i, L i → ∃ j, M j ∧ f j = i) → (∀ i j, M i → M j → f i = f j → i = j) → (∀ j v, M j → (U j v ↔ V (f j) v)) → Acy U M := by
  induction h with
  | one h =>
    intro M f h1 _ h3 _
    exact .one fun i j hi hj => h3 i j hi hj (h _ _ (h1 i hi) (h1 j hj))
  | @ear L e g k1 k2 k3 k4 k5 ih =>
    intro M f h1 h2 h3 h4
    obtain ⟨a, a1, a2⟩ := h2 e k1
    obtain ⟨b, b1, b2⟩ := h2 g k2
    refine .ear (e := a) (h := b) a1 b1 (fun s => k3 (by rw [← a2, ← b2, s])) (fun v hv hk => ?_) (ih (fun x => M x ∧ x ≠ a) f (fun j hj => ⟨h1 j hj.1, fun s => hj.2 (h3 j a hj.1 a1 (by rw [s, a2]))⟩) (fun i hi => ?_) (fun i j hi hj => h3 i j hi.1 hj.1) (fun j v hj => h4 j v hj.1))
    · obtain ⟨k, q1, q2, q3⟩ := hk
      rw [h4 b v b1, b2]
      refine k4 v (by rw [← a2]; exact (h4 a v a1).1 hv) ⟨f k, h1 k q1, fun s => q2 (h3 k a q1 a1 (by rw [s, a2])), (h4 k v q1).1 q3⟩
    · obtain ⟨j, j1, j2⟩ := h2 i hi.1
      exact ⟨j, ⟨j1, fun s => hi.2 (by rw [← j2, s, a2])⟩, j2⟩
/-- all but some are taken away, each being contained in one that stays -/
theorem acy_cut {V : Nat → Nat → Prop} {C : Nat → Prop} : ∀ (l : List Nat) (L : Nat → Prop), Acy V L → (∀ x, C x → L x) → (∀ x, L x → ¬ C x → ∃ h, C h ∧ ∀ v, V x v → V h v) → (∀ x, x ∈ l → ¬ C x) → Acy V (fun x => L x ∧ x ∉ l)
  | [], L, h, _, _, _ => acy_ext h fun x => by simp
  | e :: l, L, h, h1, h2, h3 => by
    have hC := h3 e (by simp)
    have hsub : Acy V (fun x => L x ∧ x ≠ e) := by
      by_cases c : L e
      · obtain ⟨g, g1, g2⟩ := h2 e c hC
        exact acy_del h e g ⟨c, h1 g g1, fun s => hC (by rw [s]; exact g1), fun v hv _ => g2 v hv⟩
      · exact acy_ext h fun x => ⟨fun k => ⟨k, fun s => c (by rw [← s]; exact k)⟩, fun k => k.1⟩
    refine acy_ext (acy_cut l (fun x => L x ∧ x ≠ e) hsub (fun x hx => ⟨h1 x hx, fun s => hC (by rw [← s]; exact hx)⟩) (fun x hx => h2 x hx.1) fun x hx => h3 x (List.mem_cons_of_mem _ hx)) fun x => ?_
    rw [List.mem_cons, not_or]
    exact ⟨fun k => ⟨k.1.1, k.1.2, k.2⟩, fun k => ⟨⟨k.1, k.2.1⟩, k.2.2⟩⟩
theorem vq_iff {l : List HAt} (h7 : ∀ i, i < l.length → ∀ t, t ∈ aA l i → t ≤ 7) {i : Nat} (hi : i < l.length) (v : Nat) : Vq l i v ↔ (v : Int) ∈ aA l i := by
  unfold Vq
  have := vsT_bit (aA l i) v (aA l i).length (Nat.le_refl _)
  rw [List.take_length] at this
  refine this.trans ⟨fun h => h.2, fun h => ⟨by have := h7 i hi _ h; omega, h⟩⟩
/-- a map of a set onto itself is injective there, and stays in it -/
theorem onto_inj {X : List Nat} (hX : X.Nodup) {f : Nat → Int} (h : ∀ v, v ∈ X → ∃ t, t ∈ X ∧ f t = v) : (∀ a b, a ∈ X → b ∈ X → f a = f b → a = b) ∧ ∀ a, a ∈ X → ∃ v, v ∈ X ∧ f a = (v : Nat) := by
  have hn : (X.map fun v : Nat => (v : Int)).Nodup := List.nodup_iff_pairwise_ne.2 (List.pairwise_map.2 ((List.nodup_iff_pairwise_ne.1 hX).imp fun {a b} h e => h (by omega)))
  constructor
  · intro a b ha hb hf
    apply Classical.byContradiction
    intro hne
    have h1 := len_le (l := X.map fun v : Nat => (v : Int)) (m := (X.filter (· ≠ a)).map f) hn fun x hx => by
      obtain ⟨v, hv, rfl⟩ := List.mem_map.1 hx
      obtain ⟨t, t1, t2⟩ := h v hv
      by_cases c : t = a
      · exact List.mem_map.2 ⟨b, List.mem_filter.2 ⟨hb, by simpa using fun s : b = a => hne s.symm⟩, by rw [← hf, ← c]; exact t2⟩
      · exact List.mem_map.2 ⟨t, List.mem_filter.2 ⟨t1, by simpa using c⟩, t2⟩
    rw [List.length_map, List.length_map] at h1
    rcases Nat.lt_or_ge (X.filter (· ≠ a)).length X.length with c | c
    · omega
    · have e := List.filter_eq_self.1 ((List.filter_sublist (l := X) (p := (· ≠ a))).eq_of_length_le c) a ha
      simp at e
  · intro a ha
    apply Classical.byContradiction
    intro hne
    have h1 := len_le (l := f a :: X.map fun v : Nat => (v : Int)) (m := X.map f) (List.nodup_cons.2 ⟨fun k => by
      obtain ⟨v, hv, e⟩ := List.mem_map.1 k
      exact hne ⟨v, hv, e.symm⟩, hn⟩) fun x hx => by
      rcases List.mem_cons.1 hx with rfl | hx
      · exact List.mem_map.2 ⟨a, ha, rfl⟩
      · obtain ⟨v, hv, rfl⟩ := List.mem_map.1 hx
        obtain ⟨t, t1, t2⟩ := h v hv
        exact List.mem_map.2 ⟨t, t1, t2⟩
    simp at h1
    omega
/-- each atom of the core is the image of one -/
theorem core_onto {q : HQ} (hq : QrV q) {S : Nat} (h0 : 0 < S) (hS : S < 2 ^ q.2.length) (hg : Good q S) (hm : ∀ S', 0 < S' → S' < 2 ^ q.2.length → Good q S' → LeL (chL S q.2.length) (chL S' q.2.length)) {x : List Int} (hx : HomP q (partQ q S) x) :
    ∀ a, a ∈ (partQ q S).2 → ∃ b, b ∈ (partQ q S).2 ∧ (b.1, b.2.map (app x)) = a := by
  intro a ha
  apply Classical.byContradiction
  intro hno
  obtain ⟨p, hp⟩ : ∃ p, p = partQ q S := ⟨_, rfl⟩
  have hp1 : p.1 = q.1 := by rw [hp]; rfl
  have hpv : QrV p := by rw [hp]; exact hg.1
  have hsub : ∀ a, a ∈ p.2 → a ∈ q.2 := by rw [hp]; exact partQ_sub
  have hlen : p.2.length = (chL S q.2.length).length := by rw [hp]; unfold partQ; rw [partA_len]
  rw [← hp] at ha hno hx
  have hc0 := chL_pos h0 hS
  -- the atoms that are images
  obtain ⟨T, t1, t2⟩ := num_of (fun i => ∃ b, b ∈ p.2 ∧ (b.1, b.2.map (app x)) = p.2.getD i (0, [])) p.2.length
  have memT : ∀ a, a ∈ (partQ p T).2 ↔ a ∈ p.2 ∧ ∃ b, b ∈ p.2 ∧ (b.1, b.2.map (app x)) = a := fun a => by
    show a ∈ partA p.2 (chL T p.2.length) ↔ _
    rw [mem_partA]
    constructor
    · rintro ⟨i, hi, h2, rfl⟩
      have h3 := ((t2 i).1 h2).2
      rw [List.getD_eq_getElem?_getD, List.getElem?_eq_getElem hi] at h3
      exact ⟨List.getElem_mem hi, h3⟩
    · rintro ⟨h1, h2⟩
      obtain ⟨i, hi, rfl⟩ := List.getElem_of_mem h1
      exact ⟨i, hi, (t2 i).2 ⟨hi, by rw [List.getD_eq_getElem?_getD, List.getElem?_eq_getElem hi]; exact h2⟩, rfl⟩
  have img : ∀ b, b ∈ p.2 → (b.1, b.2.map (app x)) ∈ (partQ p T).2 := fun b hb => (memT _).2 ⟨hx.img b (hsub b hb), b, hb, rfl⟩
  have hTl : (chL T p.2.length).length < p.2.length := by
    obtain ⟨i, hi, e⟩ := List.getElem_of_mem ha
    have hnot : ¬ mem' T i := fun k => by
      have := ((t2 i).1 k).2
      rw [List.getD_eq_getElem?_getD, List.getElem?_eq_getElem hi] at this
      exact hno (by rw [← e]; exact this)
    have h1 := len_le (l := i :: chL T p.2.length) (m := List.range p.2.length) (List.nodup_cons.2 ⟨fun k => hnot ((mem_chL _).1 k).2, List.nodup_iff_pairwise_ne.2 ((chL_sorted T p.2.length).imp fun h => Nat.ne_of_lt h)⟩) fun y hy => by
      rcases List.mem_cons.1 hy with rfl | hy
      · exact List.mem_range.2 hi
      · exact List.mem_range.2 ((mem_chL _).1 hy).1
    simp at h1
    omega
  have hne : ∃ b, b ∈ p.2 := ⟨a, ha⟩
  have hT0 : 0 < (chL T p.2.length).length := by
    obtain ⟨b, hb⟩ := hne
    have := img b hb
    have h1 := List.length_pos_of_mem this
    have : (partQ p T).2.length = (chL T p.2.length).length := by unfold partQ; rw [partA_len]
    omega
  have hTlen : (partQ p T).2.length = (chL T p.2.length).length := by unfold partQ; rw [partA_len]
  -- it is valid
  have hTv : QrV (partQ p T) := by
    refine ⟨⟨by omega, by have := hpv.1.2.1; omega, hpv.1.2.2⟩, fun i hi => ?_, fun t ht => ?_⟩
    · have hmem : (partQ p T).2[i] ∈ p.2 := ((memT _).1 (List.getElem_mem hi)).1
      obtain ⟨j, hj, e⟩ := List.getElem_of_mem hmem
      have h1 := hpv.2.1 j hj
      have e2 : (aR (partQ p T).2 i, aA (partQ p T).2 i) = (aR p.2 j, aA p.2 j) := by rw [← at_get hi, ← at_get hj]; exact e.symm
      injection e2 with e3 e4
      rw [e3, e4]; exact h1
    · obtain ⟨k, hk, rfl⟩ := List.getElem_of_mem (show t ∈ p.1 from ht)
      have hd := hx.hd k (by rw [← hp1]; exact hk)
      obtain ⟨o1, o2, o3⟩ := head_occ hpv hk
      have e1 : p.1.getD k 0 = p.1[k] := by rw [List.getD_eq_getElem?_getD, List.getElem?_eq_getElem hk]; rfl
      rw [← e1]
      refine ⟨⟨o1, o2⟩, (vsQ_bit _ _).2 ⟨by omega, ?_⟩⟩
      obtain ⟨b, b1, b2⟩ := o3
      rw [Int.toNat_of_nonneg o1] at b2
      refine ⟨_, img b b1, ?_⟩
      rw [Int.toNat_of_nonneg o1]
      refine List.mem_map.2 ⟨p.1.getD k 0, b2, ?_⟩
      unfold app
      rw [if_pos o1]
      have e2 : q.1.getD k 0 = p.1.getD k 0 := by rw [hp1]
      rw [e2] at hd; exact hd
  have hxp : HomP p (partQ p T) (List.map (fun i => @ite _ (occ p.2 i) (Classical.propDecidable _) (x.getD i 0) 99) (List.range 8)) := by
    have gt : ∀ i, i < 8 → (List.map (fun i => @ite _ (occ p.2 i) (Classical.propDecidable _) (x.getD i 0) 99) (List.range 8)).getD i 0 = @ite _ (occ p.2 i) (Classical.propDecidable _) (x.getD i 0) 99 := fun i hi => by
      rw [List.getD_eq_getElem?_getD, List.getElem?_map, List.getElem?_range hi]; rfl
    refine ⟨by simp, fun b hb => ?_, fun i hi ho => by rw [gt i hi, if_neg ho], fun k hk => ?_⟩
    · have e : b.2.map (app (List.map (fun i => @ite _ (occ p.2 i) (Classical.propDecidable _) (x.getD i 0) 99) (List.range 8))) = b.2.map (app x) := List.map_congr_left fun t ht => by
        unfold app
        by_cases c : 0 ≤ t
        · have hr := qrV_arg hpv hb t ht
          rw [if_pos c, if_pos c, gt _ (by omega), if_pos (occ_of hb ht c)]
        · rw [if_neg c, if_neg c]
      rw [e]; exact img b hb
    · obtain ⟨o1, o2, o3⟩ := head_occ hpv hk
      rw [gt _ (by omega), if_pos o3]
      have := hx.hd k (by rw [← hp1]; exact hk)
      rw [← hp1] at this; exact this
  have gT : Good p T := ⟨hTv, _, isH_of hpv hTv hxp⟩
  obtain ⟨S', s1, s2, s3⟩ := part_part (q := q) (S := S) (T := T)
  rw [← hlen] at s2
  rw [← hp] at s3
  have hl' : (chL S' q.2.length).length = (chL T p.2.length).length := by rw [s2, List.length_map]
  have hs0 : 0 < S' := by
    rcases Nat.eq_zero_or_pos S' with c | c
    · have : chL S' q.2.length = [] := by
        rw [List.eq_nil_iff_forall_not_mem]
        intro y hy
        have := ((mem_chL _).1 hy).2
        rw [c] at this; simp [mem'] at this
      rw [this] at hl'
      simp only [List.length_nil] at hl'
      omega
    · exact c
  have g' : Good q S' := by
    obtain ⟨y, hy⟩ := good_hom hpv gT
    obtain ⟨z, hz⟩ := comp_hom hq hpv (by rw [hp1]) hx hy
    unfold Good
    rw [s3]
    exact ⟨gT.1, z, isH_of hq gT.1 hz⟩
  rcases hm S' hs0 s1 g' with h | ⟨h, _⟩ <;> omega
/-- the core of an acyclic query is acyclic -/
theorem core_acy {q : HQ} (hq : QrV q) {S : Nat} (h0 : 0 < S) (hS : S < 2 ^ q.2.length) (hg : Good q S) (hm : ∀ S', 0 < S' → S' < 2 ^ q.2.length → Good q S' → LeL (chL S q.2.length) (chL S' q.2.length)) (ha : Acy (Vq q.2) (fun i => i < q.2.length)) : Acy (Vq (partQ q S).2) (fun i => i < (partQ q S).2.length) := by
  obtain ⟨x, hx⟩ := good_hom hq hg
  have onto := core_onto hq h0 hS hg hm hx
  obtain ⟨p, hp⟩ : ∃ p, p = partQ q S := ⟨_, rfl⟩
  have hpv : QrV p := by rw [hp]; exact hg.1
  have hsub : ∀ a, a ∈ p.2 → a ∈ q.2 := by rw [hp]; exact partQ_sub
  obtain ⟨c, hc⟩ : ∃ c, c = chL S q.2.length := ⟨_, rfl⟩
  have hpc : p.2 = partA q.2 c := by rw [hp, hc]; rfl
  have hlen : p.2.length = c.length := by rw [hpc, partA_len]
  have hcs : c.Pairwise (· < ·) := by rw [hc]; exact chL_sorted _ _
  have hcm : ∀ y, y ∈ c → y < q.2.length := fun y hy => by rw [hc] at hy; exact ((mem_chL _).1 hy).1
  rw [← hp] at hx onto ⊢
  have q7 : ∀ i, i < q.2.length → ∀ t, t ∈ aA q.2 i → t ≤ 7 := fun i hi t ht => ((hq.2.1 i hi).2.2 t ht).2
  have p7 : ∀ i, i < p.2.length → ∀ t, t ∈ aA p.2 i → t ≤ 7 := fun i hi t ht => ((hpv.2.1 i hi).2.2 t ht).2
  -- its variables
  obtain ⟨X, hX1, hX2⟩ : ∃ X : List Nat, X.Nodup ∧ ∀ v, v ∈ X ↔ v < 8 ∧ occ p.2 v := by
    classical
    exact ⟨(List.range 8).filter fun v => decide (occ p.2 v), List.nodup_range.filter _, fun v => by simp⟩
  have hXof : ∀ b, b ∈ p.2 → ∀ t, t ∈ b.2 → 0 ≤ t → t.toNat ∈ X := fun b hb t ht h0 => (hX2 _).2 ⟨by have := qrV_arg hpv hb t ht; omega, occ_of hb ht h0⟩
  have hsurj : ∀ v, v ∈ X → ∃ t, t ∈ X ∧ app x (t : Nat) = (v : Nat) := fun v hv => by
    obtain ⟨_, a, a1, a2⟩ := (hX2 v).1 hv
    obtain ⟨b, b1, b2⟩ := onto a a1
    rw [← b2] at a2
    obtain ⟨t, t1, t2⟩ := List.mem_map.1 a2
    by_cases c0 : 0 ≤ t
    · exact ⟨t.toNat, hXof b b1 t t1 c0, by rw [Int.toNat_of_nonneg c0]; exact t2⟩
    · unfold app at t2
      rw [if_neg c0] at t2
      omega
  obtain ⟨inj, stay⟩ := onto_inj hX1 (f := fun t => app x (t : Nat)) hsurj
  -- what of an atom's variables is the core's lies in one atom of the core
  have key : ∀ i, i < q.2.length → ∃ j, j < c.length ∧ ∀ v, Vq q.2 i v → v ∈ X → Vq q.2 (c.getD j 0) v := fun i hi => by
    have h1 := hx.img q.2[i] (List.getElem_mem hi)
    obtain ⟨b, b1, b2⟩ := onto _ h1
    obtain ⟨j, hj, e⟩ := List.getElem_of_mem b1
    have hjc : j < c.length := by omega
    have hcj : c.getD j 0 < q.2.length := hcm _ (by rw [List.getD_eq_getElem?_getD, List.getElem?_eq_getElem hjc]; exact List.getElem_mem hjc)
    refine ⟨j, hjc, fun v hv hvX => ?_⟩
    rw [vq_iff q7 hi] at hv
    have hb : b.2 = aA q.2 (c.getD j 0) := by
      have e1 := partA_get (l := q.2) (L := c) hjc
      rw [← hpc, ← at_get hj, e] at e1
      rw [e1]
    have hv2 : app x (v : Nat) ∈ b.2.map (app x) := by
      injection b2 with _ b3
      rw [b3]
      have e1 : q.2[i].2 = aA q.2 i := by rw [at_get hi]
      exact List.mem_map.2 ⟨_, by rw [e1]; exact hv, rfl⟩
    obtain ⟨t, t1, t2⟩ := List.mem_map.1 hv2
    obtain ⟨u, _, u2⟩ := stay v hvX
    have u2 : app x (v : Nat) = (u : Nat) := u2
    have ht0 : 0 ≤ t := by
      apply Classical.byContradiction
      intro hn
      unfold app at t2
      rw [if_neg hn] at t2
      unfold app at u2
      rw [← t2] at u2
      omega
    have e2 := inj t.toNat v (hXof b b1 t t1 ht0) hvX (by show app x ((t.toNat : Nat) : Int) = app x (v : Nat); rw [Int.toNat_of_nonneg ht0]; exact t2)
    rw [vq_iff q7 hcj, ← hb, ← e2, Int.toNat_of_nonneg ht0]
    exact t1
  -- the others are taken away
  have hcut := acy_cut (C := fun y => y ∈ c) ((List.range q.2.length).filter fun y => decide (y ∉ c)) (fun i => i < q.2.length) (acy_vars (fun v => v ∈ X) ha) (fun y hy => hcm y hy) (fun y hy _ => by
    obtain ⟨j, j1, j2⟩ := key y hy
    exact ⟨c.getD j 0, by rw [List.getD_eq_getElem?_getD, List.getElem?_eq_getElem j1]; exact List.getElem_mem j1, fun v hv => ⟨j2 v hv.1 hv.2, hv.2⟩⟩) (fun y hy => by simpa using (List.mem_filter.1 hy).2)
  refine acy_map hcut (fun j => j < p.2.length) (fun j => c.getD j 0) (fun j hj => ?_) (fun i hi => ?_) (fun i j hi hj e => ?_) (fun j v hj => ?_)
  · have hjc : j < c.length := by omega
    have hm : c.getD j 0 ∈ c := by rw [List.getD_eq_getElem?_getD, List.getElem?_eq_getElem hjc]; exact List.getElem_mem hjc
    exact ⟨hcm _ hm, fun k => (of_decide_eq_true (List.mem_filter.1 k).2) hm⟩
  · have hic : i ∈ c := by
      apply Classical.byContradiction
      intro hn
      exact hi.2 (List.mem_filter.2 ⟨List.mem_range.2 hi.1, by simpa using hn⟩)
    obtain ⟨j, hj, e⟩ := List.getElem_of_mem hic
    exact ⟨j, by omega, by rw [List.getD_eq_getElem?_getD, List.getElem?_eq_getElem hj, ← e]; rfl⟩
  · have hic : i < c.length := by omega
    have hjc : j < c.length := by omega
    rw [List.getD_eq_getElem?_getD, List.getElem?_eq_getElem hic, List.getD_eq_getElem?_getD, List.getElem?_eq_getElem hjc] at e
    have e : c[i] = c[j] := e
    have hpw := List.pairwise_iff_getElem.1 hcs
    rcases Nat.lt_trichotomy i j with d | d | d
    · have := hpw i j hic hjc d; omega
    · exact d
    · have := hpw j i hjc hic d; omega
  · have hjc : j < c.length := by omega
    have hcj : c.getD j 0 < q.2.length := hcm _ (by rw [List.getD_eq_getElem?_getD, List.getElem?_eq_getElem hjc]; exact List.getElem_mem hjc)
    have e1 : aA p.2 j = aA q.2 (c.getD j 0) := by
      have := partA_get (l := q.2) (L := c) hjc
      rw [← hpc] at this
      injection this
    rw [vq_iff p7 hj, vq_iff q7 hcj, e1]
    refine ⟨fun h => ⟨h, ?_⟩, fun h => h.1⟩
    have hb : p.2[j] ∈ p.2 := List.getElem_mem hj
    have := hXof _ hb (v : Int) (by rw [at_get hj]; rw [e1]; exact h) (by omega)
    rwa [Int.toNat_natCast] at this
#print axioms core_acy
#print axioms core_onto
#print axioms onto_inj
#print axioms acy_cut
end Go.Proofs.Ytfplmdieeabgpaa
