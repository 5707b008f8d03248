/- Math: other names for the variables, another order of the atoms. -/
import Derived.Test.YtfplmdieeabgpaaJtr
import Derived.Test.YtfplmdieeabgpaaLbx
namespace Go.Proofs.Ytfplmdieeabgpaa
open Go.RowKit
/-- the other name of a variable -/
def tn (b : Nat) (t : Int) : Int := if t < 0 ∨ 7 < t then t else (((t.toNat + b) % 8 : Nat) : Int)
def mA (b : Nat) (a : HAt) : HAt := (a.1, a.2.map (tn b))
def nQ (b : Nat) (q : HQ) : HQ := (q.1.map (tn b), q.2.map (mA b))
def cb (b : Nat) : Nat := (8 - b) % 8
theorem tn_nat {b i : Nat} (hi : i < 8) : tn b (i : Int) = (((i + b) % 8 : Nat) : Int) := by
  unfold tn; rw [if_neg (by omega), Int.toNat_natCast]
theorem tn_back {b : Nat} (hb : b < 8) (t : Int) : tn (cb b) (tn b t) = t := by
  by_cases h : t < 0 ∨ 7 < t
  · have : tn b t = t := by unfold tn; rw [if_pos h]
    rw [this]; unfold tn; rw [if_pos h]
  · obtain ⟨i, rfl⟩ : ∃ i : Nat, t = i := ⟨t.toNat, by omega⟩
    rw [tn_nat (by omega), tn_nat (Nat.mod_lt _ (by decide))]
    unfold cb; omega
theorem cb_lt (b : Nat) : cb b < 8 := Nat.mod_lt _ (by decide)
theorem cb_cb {b : Nat} (hb : b < 8) : cb (cb b) = b := by unfold cb; omega
theorem tn_forth {b : Nat} (hb : b < 8) (t : Int) : tn b (tn (cb b) t) = t := by
  have := tn_back (cb_lt b) t
  rwa [cb_cb hb] at this
theorem tn_inj {b : Nat} (hb : b < 8) {s t : Int} (h : tn b s = tn b t) : s = t := by rw [← tn_back hb s, h, tn_back hb]
theorem tn_rng {b : Nat} {t : Int} : (0 ≤ tn b t ∧ tn b t < 8 ↔ 0 ≤ t ∧ t < 8) ∧ (-9 ≤ tn b t ∧ tn b t ≤ 7 ↔ -9 ≤ t ∧ t ≤ 7) ∧ (tn b t ≤ 7 ↔ t ≤ 7) := by
  unfold tn
  split <;> omega
theorem mA_back {b : Nat} (hb : b < 8) (a : HAt) : mA (cb b) (mA b a) = a := by
  unfold mA
  simp only [List.map_map]
  rw [show tn (cb b) ∘ tn b = id from funext fun t => tn_back hb t, List.map_id]
theorem mapA_back {b : Nat} (hb : b < 8) (l : List HAt) : (l.map (mA b)).map (mA (cb b)) = l := by
  rw [List.map_map, show mA (cb b) ∘ mA b = id from funext fun t => mA_back hb t, List.map_id]
theorem nQ_back {b : Nat} (hb : b < 8) (q : HQ) : nQ (cb b) (nQ b q) = q := by
  unfold nQ
  simp only [mapA_back hb, List.map_map]
  rw [show tn (cb b) ∘ tn b = id from funext fun t => tn_back hb t, List.map_id]
theorem aA_map (b : Nat) (l : List HAt) (i : Nat) : aA (l.map (mA b)) i = (aA l i).map (tn b) := by
  unfold aA
  rw [List.getD_eq_getElem?_getD, List.getD_eq_getElem?_getD, List.getElem?_map]
  cases l[i]? <;> rfl
theorem aR_map (b : Nat) (l : List HAt) (i : Nat) : aR (l.map (mA b)) i = aR l i := by
  unfold aR
  rw [List.getD_eq_getElem?_getD, List.getD_eq_getElem?_getD, List.getElem?_map]
  cases l[i]? <;> rfl
/-! ### matches -/
def pv (b : Nat) (w : List Int) : List Int := (List.range 8).map fun i => w.getD ((i + cb b) % 8) 0
theorem pv_len (b : Nat) (w : List Int) : (pv b w).length = 8 := by simp [pv]
theorem pv_at {b i : Nat} (w : List Int) (hi : i < 8) : (pv b w).getD i 0 = w.getD ((i + cb b) % 8) 0 := by
  unfold pv
  rw [List.getD_eq_getElem?_getD, List.getElem?_map, List.getElem?_range hi]; rfl
theorem pv_get {b i : Nat} (hb : b < 8) (w : List Int) (hi : i < 8) : (pv b w).getD ((i + b) % 8) 0 = w.getD i 0 := by
  rw [pv_at _ (Nat.mod_lt _ (by decide)), show ((i + b) % 8 + cb b) % 8 = i by unfold cb; omega]
theorem pv_back {b : Nat} (hb : b < 8) {w : List Int} (hw : w.length = 8) : pv (cb b) (pv b w) = w := by
  refine list8 (pv_len _ _) hw fun i hi => ?_
  rw [pv_at _ hi, cb_cb hb, pv_get hb w hi]
theorem num_ren {b : Nat} (hb : b < 8) (w : List Int) {t : Int} (ht : t ≤ 7) : numOf (pv b w) (tn b t) = numOf w t := by
  by_cases h : t < 0
  · have : tn b t = t := by unfold tn; rw [if_pos (.inl h)]
    rw [this]; unfold numOf; rw [if_neg (by omega), if_neg (by omega)]
  · obtain ⟨i, rfl⟩ : ∃ i : Nat, t = i := ⟨t.toNat, by omega⟩
    rw [tn_nat (by omega)]
    unfold numOf
    rw [if_pos (by omega), if_pos (by omega), Int.toNat_natCast, Int.toNat_natCast, pv_get hb w (by omega)]
theorem occ_ren {b : Nat} (hb : b < 8) (l : List HAt) {i : Nat} (hi : i < 8) : occ (l.map (mA b)) ((i + b) % 8) ↔ occ l i := by
  unfold occ
  constructor
  · rintro ⟨a, ha, h⟩
    obtain ⟨a0, h0, rfl⟩ := List.mem_map.1 ha
    obtain ⟨t, ht, e⟩ := List.mem_map.1 h
    rw [← tn_nat hi] at e
    have := tn_inj hb e
    subst this; exact ⟨a0, h0, ht⟩
  · rintro ⟨a, ha, h⟩
    exact ⟨_, List.mem_map.2 ⟨a, ha, rfl⟩, List.mem_map.2 ⟨_, h, tn_nat hi⟩⟩
theorem maP_ren {b : Nat} (hb : b < 8) {f l : List HAt} (hl : ∀ a, a ∈ l → AtOk a) {w : List Int} (h : MaP f l w) : MaP f (l.map (mA b)) (pv b w) := by
  refine ⟨pv_len _ _, fun a ha => ?_, fun i hi => ?_⟩
  · obtain ⟨a0, h0, rfl⟩ := List.mem_map.1 ha
    obtain ⟨x, hx, h1, h2⟩ := h.fit a0 h0
    refine ⟨x, hx, h1, ?_⟩
    rw [← h2]
    show (a0.2.map (tn b)).map (numOf (pv b w)) = _
    rw [List.map_map]
    exact List.map_congr_left fun t ht => num_ren hb w (hl a0 h0 t ht)
  · obtain ⟨j, hj, rfl⟩ : ∃ j, j < 8 ∧ i = (j + b) % 8 := ⟨(i + cb b) % 8, Nat.mod_lt _ (by decide), by unfold cb; omega⟩
    rw [pv_get hb w hj, occ_ren hb l hj]
    exact h.sup j hj
theorem atOk_ren (b : Nat) {l : List HAt} (hl : ∀ a, a ∈ l → AtOk a) : ∀ a, a ∈ l.map (mA b) → AtOk a := fun a ha => by
  obtain ⟨a0, h0, rfl⟩ := List.mem_map.1 ha
  intro t ht
  obtain ⟨s, hs, rfl⟩ := List.mem_map.1 ht
  exact tn_rng.2.2.2 (hl a0 h0 s hs)
theorem bigAt_ren {b : Nat} (hb : b < 8) {f l : List HAt} (hl : ∀ a, a ∈ l → AtOk a) {k : Nat} (h : BigAt f l k) : BigAt f (l.map (mA b)) k := by
  obtain ⟨L, h1, h2, h3⟩ := h
  refine ⟨L.map (pv b), ?_, fun v hv => ?_, by rw [List.length_map]; exact h3⟩
  · rw [List.nodup_iff_pairwise_ne, List.pairwise_map]
    refine List.Pairwise.imp_of_mem ?_ (List.nodup_iff_pairwise_ne.1 h1)
    intro x y hx hy hne he
    apply hne
    rw [← pv_back hb (h2 x hx).len, he, pv_back hb (h2 y hy).len]
  · obtain ⟨x, hx, rfl⟩ := List.mem_map.1 hv
    rw [← List.map_take]
    exact maP_ren hb (fun a ha => hl a (List.mem_of_mem_take ha)) (h2 x hx)
theorem big_ren1 {b : Nat} (hb : b < 8) {f l : List HAt} (hl : ∀ a, a ∈ l → AtOk a) (h : Big f l) : Big f (l.map (mA b)) := by
  obtain ⟨k, h1, h2, h3⟩ := h
  exact ⟨k, h1, by rw [List.length_map]; exact h2, bigAt_ren hb hl h3⟩
theorem big_ren {b : Nat} (hb : b < 8) {f l : List HAt} (hl : ∀ a, a ∈ l → AtOk a) : Big f (l.map (mA b)) ↔ Big f l := by
  refine ⟨fun h => ?_, big_ren1 hb hl⟩
  have := big_ren1 (cb_lt b) (atOk_ren b hl) h
  rwa [mapA_back hb] at this
theorem hd_ren {b : Nat} (hb : b < 8) {hd : List Int} (hh : ∀ t, t ∈ hd → 0 ≤ t ∧ t < 8) (v : List Int) : hdR (hd.map (tn b)) (pv b v) = hdR hd v := by
  unfold hdR
  rw [List.map_map]
  refine List.map_congr_left fun t ht => ?_
  have h := hh t ht
  show (pv b v).getD (tn b t).toNat 0 = _
  obtain ⟨i, rfl⟩ : ∃ i : Nat, t = i := ⟨t.toNat, by omega⟩
  rw [tn_nat (by omega), Int.toNat_natCast, Int.toNat_natCast, pv_get hb v (by omega)]
theorem atOk_q {q : HQ} (hq : QrV q) : ∀ a, a ∈ q.2 → AtOk a := fun a ha t ht => by
  obtain ⟨i, hi, rfl⟩ := List.getElem_of_mem ha
  rw [at_get hi] at ht
  exact ((hq.2.1 i hi).2.2 t ht).2
theorem isRes_ren {b : Nat} (hb : b < 8) {q : HQ} (hq : QrV q) {l : List HAt} {R : List (List Int)} (h : IsRes q l R) : IsRes (nQ b q) l R := by
  refine ⟨h.1, fun x => (h.2 x).trans ?_⟩
  have hh : ∀ t, t ∈ q.1 → 0 ≤ t ∧ t < 8 := fun t ht => (hq.2.2 t ht).1
  constructor
  · rintro ⟨v, hv, rfl⟩
    exact ⟨pv b v, maP_ren hb (atOk_q hq) hv, (hd_ren hb hh v).symm⟩
  · rintro ⟨v, hv, rfl⟩
    have h1 := maP_ren (cb_lt b) (atOk_ren b (atOk_q hq)) hv
    rw [mapA_back hb] at h1
    refine ⟨_, h1, ?_⟩
    have h2 := hd_ren hb hh (pv (cb b) v)
    have h3 := pv_back (cb_lt b) hv.len
    rw [cb_cb hb] at h3
    rw [h3] at h2
    exact h2
theorem vsQ_occ (l : List HAt) (i : Nat) : (vsQ l).testBit i = true ↔ i < 8 ∧ occ l i := vsQ_bit l i
theorem qrV_ren1 {b : Nat} (hb : b < 8) {q : HQ} (h : QrV q) : QrV (nQ b q) := by
  refine ⟨by simpa [nQ] using h.1, fun i hi => ?_, fun v hv => ?_⟩
  · have hi' : i < q.2.length := by simpa [nQ] using hi
    have := h.2.1 i hi'
    show AtV (aR (q.2.map (mA b)) i) (aA (q.2.map (mA b)) i)
    rw [aR_map, aA_map]
    refine ⟨this.1, by simpa using this.2.1, fun t ht => ?_⟩
    obtain ⟨s, hs, rfl⟩ := List.mem_map.1 ht
    exact tn_rng.2.1.2 (this.2.2 s hs)
  · obtain ⟨t, ht, rfl⟩ := List.mem_map.1 hv
    obtain ⟨h1, h2⟩ := h.2.2 t ht
    refine ⟨tn_rng.1.2 h1, ?_⟩
    unfold isV at h1
    obtain ⟨i, rfl⟩ : ∃ i : Nat, t = i := ⟨t.toNat, by omega⟩
    rw [Int.toNat_natCast] at h2
    rw [tn_nat (by omega), Int.toNat_natCast]
    exact (vsQ_bit _ _).2 ⟨Nat.mod_lt _ (by decide), (occ_ren hb q.2 (by omega)).2 ((vsQ_bit _ _).1 h2).2⟩
theorem qrV_ren {b : Nat} (hb : b < 8) {q : HQ} : QrV (nQ b q) ↔ QrV q := by
  refine ⟨fun h => ?_, qrV_ren1 hb⟩
  have := qrV_ren1 (cb_lt b) h
  rwa [nQ_back hb] at this
/-! ### what is left -/
theorem ear_ren {V U : Nat → Nat → Prop} {p : Nat → Nat} (hs : ∀ u, u < 8 → ∃ v, v < 8 ∧ p v = u) (hU : ∀ i u, U i u → u < 8) (hV : ∀ i v, V i v → v < 8) (h : ∀ i v, v < 8 → (U i (p v) ↔ V i v)) {L : Nat → Prop} {e f : Nat} : EarP U L e f ↔ EarP V L e f := by
  unfold EarP
  refine and_congr_right fun _ => and_congr_right fun _ => and_congr_right fun _ => ⟨fun k v hv hk => ?_, fun k u hu hk => ?_⟩
  · have v8 := hV e v hv
    obtain ⟨j, j1, j2, j3⟩ := hk
    exact (h f v v8).1 (k (p v) ((h e v v8).2 hv) ⟨j, j1, j2, (h j v v8).2 j3⟩)
  · obtain ⟨v, v8, rfl⟩ := hs u (hU e u hu)
    obtain ⟨j, j1, j2, j3⟩ := hk
    exact (h f v v8).2 (k v ((h e v v8).1 hu) ⟨j, j1, j2, (h j v v8).1 j3⟩)
theorem reach_ren {V U : Nat → Nat → Prop} (h : ∀ L e f, EarP U L e f ↔ EarP V L e f) {A M : Nat} (k : Reach V A M) : Reach U A M := by
  have : EarP U = EarP V := funext fun L => funext fun e => funext fun f => propext (h L e f)
  have hl : ∀ L e, LastEar V L e → LastEar U L e := fun L e k => by unfold LastEar at k ⊢; rw [this]; exact k
  induction k with
  | refl => exact .refl
  | step _ h2 ih => exact .step ih (hl _ _ h2)
theorem vq_mem (l : List HAt) (i v : Nat) : Vq l i v ↔ v < 8 ∧ (v : Int) ∈ aA l i := by
  unfold Vq
  have := vsT_bit (aA l i) v (aA l i).length (Nat.le_refl _)
  rw [List.take_length] at this
  exact this
theorem vq_ren {b : Nat} (hb : b < 8) (l : List HAt) (i : Nat) {v : Nat} (hv : v < 8) : Vq (l.map (mA b)) i ((v + b) % 8) ↔ Vq l i v := by
  rw [vq_mem, vq_mem, aA_map, ← tn_nat hv]
  constructor
  · rintro ⟨_, h⟩
    obtain ⟨s, hs, e⟩ := List.mem_map.1 h
    have := tn_inj hb e
    subst this; exact ⟨hv, hs⟩
  · rintro ⟨_, h⟩
    exact ⟨Nat.mod_lt _ (by decide), List.mem_map.2 ⟨_, h, rfl⟩⟩
theorem finL_ren {b : Nat} (hb : b < 8) {q : HQ} {L : Nat} (h : FinL q L) : FinL (nQ b q) L := by
  have hn : (nQ b q).2.length = q.2.length := by simp [nQ]
  have he : ∀ L e f, EarP (Vq (nQ b q).2) L e f ↔ EarP (Vq q.2) L e f := fun L e f =>
    ear_ren (p := fun v => (v + b) % 8) (fun u hu => ⟨(u + cb b) % 8, Nat.mod_lt _ (by decide), by show ((u + cb b) % 8 + b) % 8 = u; unfold cb; omega⟩) (fun i u h => vq_lt h) (fun i u h => vq_lt h) (fun i v hv => vq_ren hb q.2 i hv)
  refine ⟨by rw [hn]; exact reach_ren he h.r, fun e f k => h.d e f ((he _ _ _).1 k), by rw [hn]; exact h.s, h.e⟩
theorem restC_ren {b : Nat} (hb : b < 8) {q : HQ} {m m' c c' : Int} (h : RestC q m c) (k : RestC (nQ b q) m' c') : m = m' ∧ c = c' := by
  rcases h with ⟨h1, rfl, rfl⟩ | ⟨h1, rfl, L, h3, h4⟩
  · rcases k with ⟨_, rfl, rfl⟩ | ⟨k1, _⟩
    · exact ⟨rfl, rfl⟩
    · exact absurd ((qrV_ren hb).1 k1) h1
  · rcases k with ⟨k1, _⟩ | ⟨k1, rfl, M, k3, k4⟩
    · exact absurd ((qrV_ren hb).2 h1) k1
    · have := finL_same (finL_ren hb h3) k3
      subst this
      rcases h4 with ⟨h5, rfl⟩ | ⟨h5, rfl⟩ <;> rcases k4 with ⟨k5, rfl⟩ | ⟨k5, rfl⟩
      · exact ⟨rfl, rfl⟩
      · exact absurd h5 k5
      · exact absurd k5 h5
      · exact ⟨rfl, rfl⟩
/-! ### another order -/
def vQ (q : HQ) : HQ := (q.1, q.2.reverse)
theorem vQ_vQ (q : HQ) : vQ (vQ q) = q := by unfold vQ; simp
theorem maP_set {f l l' : List HAt} (h : ∀ a, a ∈ l ↔ a ∈ l') {w : List Int} (k : MaP f l w) : MaP f l' w := by
  refine ⟨k.len, fun a ha => k.fit a ((h a).2 ha), fun i hi => (k.sup i hi).trans ?_⟩
  unfold occ
  exact ⟨fun ⟨a, h1, h2⟩ => ⟨a, (h a).1 h1, h2⟩, fun ⟨a, h1, h2⟩ => ⟨a, (h a).2 h1, h2⟩⟩
theorem isRes_rev {q : HQ} {l : List HAt} {R : List (List Int)} (h : IsRes q l R) : IsRes (vQ q) l R := by
  refine ⟨h.1, fun x => (h.2 x).trans ?_⟩
  exact ⟨fun ⟨v, h1, h2⟩ => ⟨v, maP_set (fun a => by simp [vQ]) h1, h2⟩, fun ⟨v, h1, h2⟩ => ⟨v, maP_set (fun a => by simp [vQ]) h1, h2⟩⟩
theorem rev_at {l : List HAt} {i : Nat} (hi : i < l.length) : aR l.reverse i = aR l (l.length - 1 - i) ∧ aA l.reverse i = aA l (l.length - 1 - i) := by
  unfold aR aA
  rw [List.getD_eq_getElem?_getD, List.getD_eq_getElem?_getD, List.getElem?_reverse hi]
  exact ⟨rfl, rfl⟩
theorem qrV_rev1 {q : HQ} (h : QrV q) : QrV (vQ q) := by
  refine ⟨by simpa [vQ] using h.1, fun i hi => ?_, fun v hv => ⟨(h.2.2 v hv).1, ?_⟩⟩
  · have hi' : i < q.2.length := by simpa [vQ] using hi
    show AtV (aR q.2.reverse i) (aA q.2.reverse i)
    rw [(rev_at hi').1, (rev_at hi').2]
    exact h.2.1 _ (by omega)
  · have h2 := (vsQ_bit _ _).1 (h.2.2 v hv).2
    obtain ⟨a, ha, hi⟩ := h2.2
    exact (vsQ_bit _ _).2 ⟨h2.1, a, by simpa [vQ] using ha, hi⟩
theorem qrV_rev {q : HQ} : QrV (vQ q) ↔ QrV q := ⟨fun h => by have := qrV_rev1 h; rwa [vQ_vQ] at this, qrV_rev1⟩
theorem acy_turn {V U : Nat → Nat → Prop} {L : Nat → Prop} (h : Acy V L) : ∀ (M : Nat → Prop) (f : Nat → Nat), (∀ j, M j → L (f j)) → (∀ i, L i → ∃ j, M j ∧ f j = i) → (∀ i j, M i → M j → f i = f j → i = j) → (∀ j v, M j → (U j v ↔ V (f j) v)) → Acy U M := by
  induction h with
  | one h => exact fun M f h1 _ h3 _ => .one fun i j hi hj => h3 i j hi hj (h _ _ (h1 i hi) (h1 j hj))
  | @ear L e g l1 l2 l3 l4 l5 ih =>
    intro M f h1 h2 h3 h4
    obtain ⟨e', e1, rfl⟩ := h2 e l1
    obtain ⟨g', g1, rfl⟩ := h2 g l2
    refine .ear e1 g1 (fun q => l3 (by rw [q])) (fun v hv hk => ?_) (ih _ f (fun j hj => ⟨h1 j hj.1, fun q => hj.2 (h3 _ _ hj.1 e1 q)⟩) (fun i hi => ?_) (fun i j hi hj => h3 i j hi.1 hj.1) fun j v hj => h4 j v hj.1)
    · obtain ⟨k, k1, k2, k3⟩ := hk
      exact (h4 g' v g1).2 (l4 v ((h4 e' v e1).1 hv) ⟨f k, h1 k k1, fun q => k2 (h3 _ _ k1 e1 q), (h4 k v k1).1 k3⟩)
    · obtain ⟨j, j1, rfl⟩ := h2 i hi.1
      exact ⟨j, ⟨j1, fun q => hi.2 (by rw [q])⟩, rfl⟩
theorem mem_all {n i : Nat} : mem' (2 ^ n - 1) i ↔ i < n := by
  unfold mem'
  rw [Nat.testBit_two_pow_sub_one, decide_eq_true_iff]
theorem one_rev {q : HQ} {L M : Nat} (h : FinL q L) (k : FinL (vQ q) M) (ho : OneL L) : OneL M := by
  have hn : (vQ q).2.length = q.2.length := by simp [vQ]
  have a1 : Acy (Vq q.2) (mem' (2 ^ q.2.length - 1)) := reach_back h.r (.one ho)
  have a2 : Acy (Vq (vQ q).2) (mem' (2 ^ (vQ q).2.length - 1)) := by
    refine acy_turn a1 _ (fun i => q.2.length - 1 - i) (fun j hj => ?_) (fun i hi => ?_) (fun i j hi hj e => ?_) (fun j v hj => ?_)
    · rw [mem_all] at hj ⊢; omega
    · rw [mem_all] at hi
      exact ⟨q.2.length - 1 - i, by rw [mem_all]; omega, by show q.2.length - 1 - (q.2.length - 1 - i) = i; omega⟩
    · rw [mem_all] at hi hj
      have e : q.2.length - 1 - i = q.2.length - 1 - j := e
      omega
    · rw [mem_all, hn] at hj
      rw [vq_mem, vq_mem, show aA (vQ q).2 j = aA q.2 (q.2.length - 1 - j) from (rev_at hj).2]
  exact done_one k.d (reach_acy k.r a2)
theorem restC_rev {q : HQ} {m m' c c' : Int} (h : RestC q m c) (k : RestC (vQ q) m' c') : (m = 0 ↔ m' = 0) ∧ c = c' := by
  rcases h with ⟨h1, rfl, rfl⟩ | ⟨h1, rfl, L, h3, h4⟩
  · rcases k with ⟨_, rfl, rfl⟩ | ⟨k1, _⟩
    · exact ⟨Iff.rfl, rfl⟩
    · exact absurd (qrV_rev.1 k1) h1
  · rcases k with ⟨k1, _⟩ | ⟨k1, rfl, M, k3, k4⟩
    · exact absurd (qrV_rev.2 h1) k1
    · have p1 := (h3.lt h1).2
      have p2 := (k3.lt k1).2
      have e1 := one_rev h3 k3
      have e2 := one_rev k3 (by rw [vQ_vQ]; exact h3)
      rcases h4 with ⟨h5, rfl⟩ | ⟨h5, rfl⟩ <;> rcases k4 with ⟨k5, rfl⟩ | ⟨k5, rfl⟩
      · exact ⟨Iff.rfl, rfl⟩
      · exact absurd (e1 h5) k5
      · exact absurd (e2 k5) h5
      · exact ⟨⟨fun q => by omega, fun q => by omega⟩, rfl⟩
/-! ### in the words of the calls -/
theorem isRes_same {q : HQ} {l : List HAt} {R S : List (List Int)} (h : IsRes q l R) (k : IsRes q l S) : R = S := strict_eq h.1 k.1 fun x => (h.2 x).trans (k.2 x).symm
theorem resC_ren {b : Nat} (hb : b < 8) {q : HQ} {l : List HAt} {b1 b2 : Nat} {w : World} {u u' : Value} {c c' : Int} (h : ResC q l b1 w u c) (k : ResC (nQ b q) l b2 w u' c') : c = c' ∧ ∃ R, Rows w u R ∧ Rows w u' R := by
  have hn : Rows w (.slice none 0 0) [] := (ownRows_nil 0 w).rows
  have hv := qrV_ren hb (q := q)
  rcases h with ⟨h1, rfl, rfl⟩ | ⟨h1, h2, h3, rfl, rfl⟩ | ⟨h1, h2, h3, rfl, R, h5, h6⟩ <;> rcases k with ⟨k1, rfl, rfl⟩ | ⟨k1, k2, k3, rfl, rfl⟩ | ⟨k1, k2, k3, rfl, S, k5, k6⟩
  · exact ⟨rfl, [], hn, hn⟩
  · exact absurd ⟨hv.1 k1, k2⟩ h1
  · exact absurd ⟨hv.1 k1, k2⟩ h1
  · exact absurd ⟨hv.2 h1, h2⟩ k1
  · exact ⟨rfl, [], hn, hn⟩
  · exact absurd ((big_ren hb (atOk_q h1)).2 h3) k3
  · exact absurd ⟨hv.2 h1, h2⟩ k1
  · exact absurd ((big_ren hb (atOk_q h1)).1 k3) h3
  · refine ⟨rfl, R, h5.rows, ?_⟩
    rw [isRes_same (isRes_ren hb h1 h6) k6]; exact k5.rows
theorem resC_rev {q : HQ} {l : List HAt} {b1 b2 : Nat} {w : World} {u u' : Value} {c c' : Int} (h : ResC q l b1 w u c) (k : ResC (vQ q) l b2 w u' c') : c = 3 ∨ c' = 3 ∨ (c = c' ∧ ∃ R, Rows w u R ∧ Rows w u' R) := by
  have hn : Rows w (.slice none 0 0) [] := (ownRows_nil 0 w).rows
  have hv := qrV_rev (q := q)
  rcases h with ⟨h1, rfl, rfl⟩ | ⟨h1, h2, h3, rfl, rfl⟩ | ⟨h1, h2, h3, rfl, R, h5, h6⟩ <;> rcases k with ⟨k1, rfl, rfl⟩ | ⟨k1, k2, k3, rfl, rfl⟩ | ⟨k1, k2, k3, rfl, S, k5, k6⟩
  · exact .inr (.inr ⟨rfl, [], hn, hn⟩)
  · exact .inr (.inl rfl)
  · exact absurd ⟨hv.1 k1, k2⟩ h1
  · exact .inl rfl
  · exact .inl rfl
  · exact .inl rfl
  · exact absurd ⟨hv.2 h1, h2⟩ k1
  · exact .inr (.inl rfl)
  · refine .inr (.inr ⟨rfl, R, h5.rows, ?_⟩)
    rw [isRes_same (isRes_rev h6) k6]; exact k5.rows
theorem resC_to {b : Nat} (hb : b < 8) {q : HQ} {l : List HAt} {b1 : Nat} {w : World} {u : Value} {c : Int} (h : ResC q l b1 w u c) : ResC (nQ b q) l b1 w u c := by
  have hv := qrV_ren hb (q := q)
  rcases h with ⟨h1, h2, h3⟩ | ⟨h1, h2, h3, h4⟩ | ⟨h1, h2, h3, h4, R, h5, h6⟩
  · exact .inl ⟨fun k => h1 ⟨hv.1 k.1, k.2⟩, h2, h3⟩
  · exact .inr (.inl ⟨hv.2 h1, h2, (big_ren hb (atOk_q h1)).2 h3, h4⟩)
  · exact .inr (.inr ⟨hv.2 h1, h2, fun k => h3 ((big_ren hb (atOk_q h1)).1 k), h4, R, h5, isRes_ren hb h1 h6⟩)
theorem resC_grown {q : HQ} {l : List HAt} {base : Nat} {w w' : World} {u v : Value} {c : Int} (h : ResC q l base w u c) (hg : w.grownBy w' v.ownBlock) (hlt : ∀ g, v.ownBlock = some g → g < base) : ResC q l base w' u c := by
  rcases h with h | h | ⟨h1, h2, h3, h4, R, ⟨vs, r1, r2, r3⟩, h6⟩
  · exact .inl h
  · exact .inr (.inl h)
  · have key : ∀ {e : TypeId} {size n : Nat} {v : Value} {xs : List Value}, w.ownsRow base e size v n xs → w'.ownsRow base e size v n xs := fun h => own_block h fun g hgb => by
      have hl := own_lt h hgb
      exact hg.block g hl.2 (fun e => by have := hlt g e.symm; omega)
    exact .inr (.inr ⟨h1, h2, h3, h4, R, ⟨vs, r1, key r2, fun i a b => key (r3 i a b)⟩, h6⟩)
#print axioms resC_rev
#print axioms restC_rev
end Go.Proofs.Ytfplmdieeabgpaa
