/- Views: the program's first order is the reference's: of no program. -/
import Derived.Test.YtpehbffkplmfjaaViw
import Derived.Test.YtpehbffkplmfjaaVrv
namespace Go.Proofs.Ytpehbffkplmfjaa
open Go.RowKit
/-- the operations with these indices, one after another -/
def exV (h : List NOp) (σ : List Nat) (V : Nat → Nat) : Nat → Nat := σ.foldl (fun V i => doV h i V) V
theorem exV_append (h : List NOp) (σ τ : List Nat) (V : Nat → Nat) : exV h (σ ++ τ) V = exV h τ (exV h σ V) := List.foldl_append ..
def ofT (h : List NOp) (t n : Nat) : List Nat := (List.range n).filter fun i => decide (tT h i = t)
def ofC (h : List NOp) (n : Nat) : List Nat := (List.range n).filter fun i => decide (lv h h.length (7 + tT h i) ≠ 40)
def ofP (h : List NOp) (p : List Nat) : List Nat := p.flatMap fun t => ofT h t h.length
theorem doT_ex (h : List NOp) (t : Nat) (V : Nat → Nat) : ∀ n, doT h t n V = exV h (ofT h t n) V
  | 0 => rfl
  | n + 1 => by
    unfold ofT
    rw [doT, List.range_succ, List.filter_append, exV_append, doT_ex h t V n]
    by_cases e : tT h n = t
    · rw [if_pos e]; simp [e, exV, ofT]
    · rw [if_neg e]; simp [e, exV, ofT]
theorem goV_ex (h : List NOp) : ∀ n, goV h n = exV h (ofC h n) fun _ => 0
  | 0 => rfl
  | n + 1 => by
    unfold ofC
    rw [goV, List.range_succ, List.filter_append, exV_append, goV_ex h n]
    by_cases e : lv h h.length (7 + tT h n) ≠ 40
    · rw [if_pos e]; simp [e, exV, ofC]
    · rw [if_neg e]; simp [e, exV, ofC]
/-- the view after an order -/
def runV (h : List NOp) (p : List Nat) (V : Nat → Nat) : Nat → Nat := p.foldl (fun V t => doT h t h.length V) V
theorem runV_ex (h : List NOp) : ∀ (p : List Nat) (V : Nat → Nat), runV h p V = exV h (ofP h p) V
  | [], V => rfl
  | t :: p, V => by
    show runV h p (doT h t h.length V) = exV h (ofT h t h.length ++ ofP h p) V
    rw [exV_append, runV_ex h p, doT_ex]
theorem fvF_find {h : List NOp} {G : Nat → Nat} : ∀ (k : Nat) (left ord : List Nat) (V : Nat → Nat), left.length = k →
    fvF h G k left ord V = ((perms left).find? fun p => eqV (runV h p V) G).map (ord ++ ·)
  | 0, left, ord, V, hl => by
    obtain rfl := List.eq_nil_of_length_eq_zero hl
    rw [fvF]
    simp only [perms, permsF, List.length_nil, List.find?_cons, List.find?_nil]
    show _ = (match eqV V G with | true => some [] | false => none).map _
    cases eqV V G <;> simp
  | k + 1, left, ord, V, hl => by
    rw [fvF, perms_cons (by intro e; rw [e] at hl; simp at hl), List.find?_flatMap, findSome_map]
    refine findSome_congr fun i hi => ?_
    have hi := List.mem_range.1 hi
    rw [fvF_find k _ _ _ (by rw [List.length_eraseIdx_of_lt hi]; omega), List.find?_map, Option.map_map]
    congr 1
    funext q
    simp
theorem vwN_find (h : List NOp) : vwN h = (perms (comN h 7)).find? fun p => eqV (runV h p fun _ => 0) (goV h h.length) := by
  unfold vwN
  rw [fvF_find _ _ _ _ rfl]
  simp
/-! ### a history of some of the operations -/
def nop (h : List NOp) (i : Nat) : NOp := (tT h i, tK h i, tI h i)
theorem nop_row (h : List NOp) : h = (List.range h.length).map (nop h) := by
  apply List.ext_getElem (by simp)
  intro i h1 h2
  rw [nop_get h1]; simp [nop]
theorem part_of (h : List NOp) (hh : VH h) : partN h = (ofC h h.length).map (nop h) := by
  unfold partN ofC
  conv => lhs; rw [nop_row h]
  rw [List.filter_map]
  congr 1
  refine List.filter_congr fun i hi => ?_
  have hi := List.mem_range.1 hi
  have := hh.t6 i hi
  rw [← nop_row h]
  simp only [Function.comp, nop]
  exact decide_eq_decide.2 (endI_com (by omega))
theorem ser_of (h : List NOp) (p : List Nat) : serN h p = (ofP h p).map (nop h) := by
  unfold serN ofP
  rw [List.map_flatMap]
  congr 1
  funext t
  unfold serT ofT
  rw [List.take_length]
  conv => lhs; rw [nop_row h]
  rw [List.filter_map]
  congr 1
/-- some of the operations, each once, those of a transaction in their order, all of committed ones -/
structure Sel (h : List NOp) (σ : List Nat) : Prop where
  ord : σ.Pairwise fun a b => a ≠ b ∧ (tT h a = tT h b → a < b)
  mem : ∀ i, i ∈ σ → i < h.length ∧ lv h h.length (7 + tT h i) ≠ 40
theorem range_ord (h : List NOp) (n : Nat) : (List.range n).Pairwise fun a b => a ≠ b ∧ (tT h a = tT h b → a < b) :=
  List.pairwise_lt_range.imp fun hab => ⟨Nat.ne_of_lt hab, fun _ => hab⟩
theorem ofC_sel (h : List NOp) : Sel h (ofC h h.length) where
  ord := (range_ord h _).filter _
  mem := fun i hi => by
    have := List.mem_filter.1 hi
    exact ⟨List.mem_range.1 this.1, by simpa using this.2⟩
theorem mem_ofT {h : List NOp} {t n i : Nat} : i ∈ ofT h t n ↔ i < n ∧ tT h i = t := by
  unfold ofT
  rw [List.mem_filter, List.mem_range, decide_eq_true_eq]
theorem mem_com {h : List NOp} {t : Nat} : t ∈ comN h 7 ↔ t < 7 ∧ lv h h.length (7 + t) ≠ 40 := by
  unfold comN
  rw [List.mem_filter, List.mem_range, decide_eq_true_eq]
theorem comN_nd (h : List NOp) : (comN h 7).Nodup := List.nodup_range.filter _
theorem ofP_sel {h : List NOp} {p : List Nat} (hp : p.Perm (comN h 7)) : Sel h (ofP h p) where
  ord := by
    unfold ofP
    rw [List.pairwise_flatMap]
    refine ⟨fun t _ => (range_ord h _).filter _, ?_⟩
    have hn : p.Nodup := hp.nodup_iff.2 (comN_nd h)
    refine hn.imp fun {a b} hab x hx y hy => ?_
    have h1 := (mem_ofT.1 hx).2
    have h2 := (mem_ofT.1 hy).2
    exact ⟨fun e => hab (by rw [← h1, ← h2, e]), fun e => absurd (by rw [← h1, ← h2, e]) hab⟩
  mem := fun i hi => by
    obtain ⟨t, ht, hi⟩ := List.mem_flatMap.1 hi
    have h1 := mem_ofT.1 hi
    exact ⟨h1.1, by rw [h1.2]; exact (mem_com.1 (hp.mem_iff.1 ht)).2⟩
theorem Sel.nodup {h : List NOp} {σ : List Nat} (s : Sel h σ) : σ.Nodup := s.ord.imp fun h => h.1
theorem Sel.le {h : List NOp} {σ : List Nat} (s : Sel h σ) : σ.length ≤ h.length := by
  have := s.nodup.length_le_of_subset (l₂ := List.range h.length) fun i hi => List.mem_range.2 (s.mem i hi).1
  simpa using this
theorem sel_at {h : List NOp} {σ : List Nat} {j : Nat} (hj : j < σ.length) : tT (σ.map (nop h)) j = tT h (σ.getD j 0) ∧ tK (σ.map (nop h)) j = tK h (σ.getD j 0) ∧ tI (σ.map (nop h)) j = tI h (σ.getD j 0) := by
  have e : (σ.map (nop h)).getD j (0, 0, 0) = nop h (σ.getD j 0) := by
    rw [List.getD_eq_getElem?_getD, List.getD_eq_getElem?_getD, List.getElem?_map, List.getElem?_eq_getElem hj]; rfl
  unfold tT tK tI
  rw [e]
  exact ⟨rfl, rfl, rfl⟩
theorem Sel.vh {h : List NOp} (hh : VH h) {σ : List Nat} (s : Sel h σ) : VH (σ.map (nop h)) where
  le := by rw [List.length_map]; exact Nat.le_trans s.le hh.le
  t6 := fun i hi => by rw [List.length_map] at hi; rw [(sel_at hi).1]; exact hh.t6 _ (s.mem _ (getD_mem hi)).1
  k3 := fun i hi => by rw [List.length_map] at hi; rw [(sel_at hi).2.1]; exact hh.k3 _ (s.mem _ (getD_mem hi)).1
  x5 := fun i hi => by rw [List.length_map] at hi; rw [(sel_at hi).2.1, (sel_at hi).2.2]; exact hh.x5 _ (s.mem _ (getD_mem hi)).1
  once := fun i hi j hj => by
    rw [List.length_map] at hi
    have hj' : j < σ.length := by omega
    rw [(sel_at hi).1, (sel_at hj').1, (sel_at hj').2.1]
    intro e
    have h1 := (List.pairwise_iff_getElem.1 s.ord) j i hj' hi hj
    have e1 : σ.getD j 0 = σ[j] := by rw [List.getD_eq_getElem?_getD, List.getElem?_eq_getElem hj']; rfl
    have e2 : σ.getD i 0 = σ[i] := by rw [List.getD_eq_getElem?_getD, List.getElem?_eq_getElem hi]; rfl
    rw [e1, e2] at e
    exact hh.once _ (s.mem _ (List.getElem_mem hi)).1 _ (h1.2 e.1) e
theorem Sel.alive {h : List NOp} (hh : VH h) {σ : List Nat} (s : Sel h σ) {i : Nat} (hi : i ∈ σ) : tK h i ≠ 3 := by
  intro e
  have h1 := s.mem i hi
  have h6 := hh.t6 i h1.1
  rw [lv_com h (by omega)] at h1
  rcases en_spec h 2 (tT h i) h.length hh.le with h2 | h2
  · exact h1.2 h2.1
  · have := hh.uniq h2.1 h1.1 h2.2.1 (by omega) (by omega)
    rw [this, e] at h2
    omega
theorem en_none {g : List NOp} (hl : g.length ≤ 40) (hk : ∀ i, i < g.length → tK g i ≠ 3) (t : Nat) : en g 3 g.length t = 40 := by
  rcases en_spec g 3 t g.length hl with h | h
  · exact h.1
  · exact absurd h.2.2 (hk _ h.1)
theorem lw_ls {g : List NOp} (hl : g.length ≤ 40) (hk : ∀ i, i < g.length → tK g i ≠ 3) {j x : Nat} (hj : j ≤ 40) : ∀ m, lw g j x m = lsN g m x
  | 0 => rfl
  | m + 1 => by
    rw [lw, lsN, en_none hl hk, lw_ls hl hk hj m]
    by_cases e1 : tK g m = 1
    · rw [if_pos e1]
      by_cases e2 : tI g m = x
      · rw [if_pos ⟨e1, e2, hj⟩, if_pos e2.symm]
      · rw [if_neg (fun q => e2 q.2.1), if_neg (fun q => e2 q.symm)]
    · rw [if_neg (fun q => e1 q.1), if_neg e1]
theorem ex_take {h : List NOp} {σ : List Nat} {k : Nat} (hk : k < σ.length) (V : Nat → Nat) : exV h (σ.take (k + 1)) V = doV h (σ.getD k 0) (exV h (σ.take k) V) := by
  rw [List.take_succ_eq_append_getElem hk, exV_append, List.getD_eq_getElem?_getD, List.getElem?_eq_getElem hk]
  rfl
theorem doV_hi {h : List NOp} {i x : Nat} (hi : i < 40) (V : Nat → Nat) : doV h i V (40 + x) = if tK h i = 1 ∧ tI h i = x then tT h i else V (40 + x) := by
  unfold doV
  by_cases e0 : tK h i = 0
  · rw [if_pos e0, if_neg (show ¬ (tK h i = 1 ∧ tI h i = x) by omega)]
    exact if_neg (by omega)
  · rw [if_neg e0]
    by_cases e1 : tK h i = 1
    · rw [if_pos e1]
      by_cases e2 : tI h i = x
      · rw [if_pos (show tK h i = 1 ∧ tI h i = x from ⟨e1, e2⟩)]; exact if_pos (by omega)
      · rw [if_neg (show ¬ (tK h i = 1 ∧ tI h i = x) from fun q => e2 q.2)]; exact if_neg (by omega)
    · rw [if_neg e1, if_neg (show ¬ (tK h i = 1 ∧ tI h i = x) from fun q => e1 q.1)]
theorem doV_lo {h : List NOp} {i j : Nat} (hj : j < 40) (hne : i ≠ j) (V : Nat → Nat) : doV h i V j = V j := by
  unfold doV
  by_cases e0 : tK h i = 0
  · rw [if_pos e0]; exact if_neg (fun e => hne e.symm)
  · rw [if_neg e0]
    by_cases e1 : tK h i = 1
    · rw [if_pos e1]; exact if_neg (by omega)
    · rw [if_neg e1]
theorem doV_own {h : List NOp} {i : Nat} (e0 : tK h i = 0) (V : Nat → Nat) : doV h i V i = V (40 + tI h i) := by
  unfold doV
  rw [if_pos e0]; exact if_pos rfl
theorem doV_not {h : List NOp} {i j : Nat} (hj : j < 40) (e0 : tK h j ≠ 0) (V : Nat → Nat) : doV h i V j = V j := by
  by_cases e : i = j
  · subst e
    unfold doV
    rw [if_neg e0]
    by_cases e1 : tK h i = 1
    · rw [if_pos e1]; exact if_neg (by omega)
    · rw [if_neg e1]
  · exact doV_lo hj e V
theorem exV_out {h : List NOp} {j : Nat} (hj : j < 40) : ∀ (σ : List Nat) (V : Nat → Nat), j ∉ σ → exV h σ V j = V j
  | [], V, _ => rfl
  | i :: σ, V, hn => by
    have h1 : i ≠ j := fun e => hn (by simp [e])
    show exV h σ (doV h i V) j = V j
    rw [exV_out hj σ _ (fun q => hn (by simp [q])), doV_lo hj h1]
theorem exV_not {h : List NOp} {j : Nat} (hj : j < 40) (e0 : tK h j ≠ 0) : ∀ (σ : List Nat) (V : Nat → Nat), exV h σ V j = V j
  | [], V => rfl
  | i :: σ, V => by
    show exV h σ (doV h i V) j = V j
    rw [exV_not hj e0 σ, doV_not hj e0]
theorem ls_ex {h : List NOp} (hh : VH h) {σ : List Nat} (s : Sel h σ) (x : Nat) : ∀ k, k ≤ σ.length → lsN (σ.map (nop h)) k x = exV h (σ.take k) (fun _ => 0) (40 + x)
  | 0, _ => by simp [lsN, exV]
  | k + 1, hk => by
    have hk' : k < σ.length := by omega
    have h1 := sel_at (h := h) hk'
    have hi := (s.mem _ (getD_mem hk')).1
    rw [ex_take hk', doV_hi (by have := hh.le; omega), ← ls_ex hh s x k (by omega), lsN, h1.1, h1.2.1, h1.2.2]
    by_cases e1 : tK h (σ.getD k 0) = 1
    · rw [if_pos e1]
      by_cases e2 : tI h (σ.getD k 0) = x
      · rw [if_pos e2.symm, if_pos ⟨e1, e2⟩]
      · rw [if_neg (fun q => e2 q.symm), if_neg (fun q => e2 q.2)]
    · rw [if_neg e1, if_neg (fun q => e1 q.1)]
theorem getD_at {σ : List Nat} {j : Nat} (hj : j < σ.length) : σ.getD j 0 = σ[j] := by rw [List.getD_eq_getElem?_getD, List.getElem?_eq_getElem hj]; rfl
theorem frm_ex {h : List NOp} (hh : VH h) {σ : List Nat} (s : Sel h σ) {j : Nat} (hj : j < σ.length) (e0 : tK h (σ.getD j 0) = 0) : frm (σ.map (nop h)) j = ((exV h σ (fun _ => 0) (σ.getD j 0) : Nat) : Int) := by
  have h1 := sel_at (h := h) hj
  have hl : (σ.map (nop h)).length ≤ 40 := (s.vh hh).le
  have hl' : σ.length ≤ 40 := by rwa [List.length_map] at hl
  have hi := (s.mem _ (getD_mem hj)).1
  have hi40 : σ.getD j 0 < 40 := by have := hh.le; omega
  have h3 : σ.getD j 0 ∉ σ.drop (j + 1) := by
    rw [getD_at hj]
    intro hm
    obtain ⟨m, hm1, hm2⟩ := List.getElem_of_mem hm
    rw [List.getElem_drop] at hm2
    rw [List.length_drop] at hm1
    have h4 := List.pairwise_iff_getElem.1 s.nodup j (j + 1 + m) hj (by omega) (by omega)
    exact h4 hm2.symm
  have key : exV h σ (fun _ => 0) (σ.getD j 0) = exV h (σ.take j) (fun _ => 0) (40 + tI h (σ.getD j 0)) := by
    have h2 : exV h σ (fun _ => 0) = exV h (σ.drop (j + 1)) (exV h (σ.take (j + 1)) fun _ => 0) := by
      rw [← exV_append, List.take_append_drop]
    rw [h2, exV_out hi40 _ _ h3, ex_take hj, doV_own e0]
  rw [key]
  unfold frm
  rw [h1.2.1, if_pos e0, h1.2.2, lw_ls hl (fun i hi => by
    rw [List.length_map] at hi
    rw [(sel_at hi).2.1]
    exact s.alive hh (getD_mem hi)) (by omega) j, ls_ex hh s _ j (by omega)]
/-- the reads of transaction t in a selection -/
def rdS (h : List NOp) (σ : List Nat) (t : Nat) : List Nat := σ.filter fun i => decide (tT h i = t ∧ tK h i = 0)
theorem rdT_ex {h : List NOp} (hh : VH h) {σ : List Nat} (s : Sel h σ) (t : Nat) : rdT (σ.map (nop h)) t (σ.map (nop h)).length = (rdS h σ t).map fun i => ((exV h σ (fun _ => 0) i : Nat) : Int) := by
  unfold rdT rdS
  rw [List.length_map]
  have h1 : σ = (List.range σ.length).map fun j => σ.getD j 0 := by
    apply List.ext_getElem (by simp)
    intro i h1 h2
    rw [List.getElem_map, List.getElem_range, getD_at h1]
  conv => rhs; rw [h1]
  rw [List.filter_map, List.map_map, ← h1]
  have h2 : (List.range σ.length).filter (fun i => decide (tT (σ.map (nop h)) i = t ∧ tK (σ.map (nop h)) i = 0)) = (List.range σ.length).filter ((fun i => decide (tT h i = t ∧ tK h i = 0)) ∘ fun j => σ.getD j 0) := List.filter_congr fun i hi => by
    have hi := List.mem_range.1 hi
    rw [(sel_at hi).1, (sel_at hi).2.1]; rfl
  rw [h2]
  refine List.map_congr_left fun j hj => ?_
  have hj := List.mem_filter.1 hj
  have hjl := List.mem_range.1 hj.1
  exact frm_ex hh s hjl (of_decide_eq_true hj.2).2
/-- the cells of a view that the reference compares -/
def cells (h : List NOp) (σ : List Nat) : List Nat := ((List.range 6).flatMap fun s => rdS h σ (s + 1)) ++ (List.range 6).map (40 + ·)
theorem vr_ex {h : List NOp} (hh : VH h) {σ : List Nat} (s : Sel h σ) : vrN (σ.map (nop h)) = (cells h σ).map fun i => ((exV h σ (fun _ => 0) i : Nat) : Int) := by
  unfold vrN cells rdN
  rw [List.map_append, List.map_flatMap, List.map_map]
  congr 1
  · congr 1
    funext m
    exact rdT_ex hh s (m + 1)
  · refine List.map_congr_left fun x _ => ?_
    have := ls_ex hh s x σ.length (Nat.le_refl _)
    rw [List.take_length] at this
    rw [List.length_map, this]
    rfl
theorem rdS_C {h : List NOp} {t : Nat} : rdS h (ofC h h.length) t = if lv h h.length (7 + t) ≠ 40 then (List.range h.length).filter (fun i => decide (tT h i = t ∧ tK h i = 0)) else [] := by
  unfold rdS ofC
  rw [List.filter_filter]
  by_cases e : lv h h.length (7 + t) ≠ 40
  · rw [if_pos e]
    refine List.filter_congr fun i _ => ?_
    by_cases e2 : tT h i = t ∧ tK h i = 0
    · rw [decide_eq_true e2, e2.1, decide_eq_true e]; rfl
    · rw [decide_eq_false e2]; rfl
  · rw [if_neg e, List.filter_eq_nil_iff]
    intro i _ q
    rw [Bool.and_eq_true, decide_eq_true_eq, decide_eq_true_eq] at q
    rw [q.1.1] at q
    exact e q.2
theorem flat_one {f : Nat → List Nat} {t : Nat} : ∀ {p : List Nat}, p.Nodup → (∀ x, x ≠ t → f x = []) → p.flatMap f = if t ∈ p then f t else []
  | [], _, _ => rfl
  | x :: p, hn, h => by
    have hx := List.nodup_cons.1 hn
    rw [List.flatMap_cons, flat_one hx.2 h]
    by_cases e : x = t
    · subst e
      rw [if_neg hx.1, if_pos (by simp), List.append_nil]
    · rw [h x e, List.nil_append]
      by_cases e2 : t ∈ p
      · rw [if_pos e2, if_pos (by simp [e2])]
      · rw [if_neg e2, if_neg (by simp [e2]; exact fun q => e q.symm)]
theorem rdS_P {h : List NOp} {p : List Nat} (hp : p.Perm (comN h 7)) {t : Nat} (ht : t < 7) : rdS h (ofP h p) t = if lv h h.length (7 + t) ≠ 40 then (List.range h.length).filter (fun i => decide (tT h i = t ∧ tK h i = 0)) else [] := by
  unfold rdS ofP
  rw [List.filter_flatMap, flat_one (t := t) (hp.nodup_iff.2 (comN_nd h)) (fun x hx => by
    rw [List.filter_eq_nil_iff]
    intro i hi q
    exact hx ((mem_ofT.1 hi).2.symm.trans (of_decide_eq_true q).1))]
  have h1 : t ∈ p ↔ lv h h.length (7 + t) ≠ 40 := by
    rw [hp.mem_iff, mem_com]
    exact ⟨fun q => q.2, fun q => ⟨ht, q⟩⟩
  by_cases e : t ∈ p
  · rw [if_pos e, if_pos (h1.1 e)]
    unfold ofT
    rw [List.filter_filter]
    refine List.filter_congr fun i _ => ?_
    by_cases e2 : tT h i = t
    · simp [e2]
    · simp [e2]
  · rw [if_neg e, if_neg (fun q => e (h1.2 q))]
theorem cells_P {h : List NOp} {p : List Nat} (hp : p.Perm (comN h 7)) : cells h (ofP h p) = cells h (ofC h h.length) := by
  unfold cells
  congr 1
  rw [List.flatMap_def, List.flatMap_def, List.map_congr_left fun s hs => by
    have := List.mem_range.1 hs
    rw [rdS_P hp (by omega), ← rdS_C]]
theorem sameL_map {I : List Nat} {f g : Nat → Nat} : sameL (I.map fun i => ((f i : Nat) : Int)) (I.map fun i => ((g i : Nat) : Int)) = true ↔ ∀ i, i ∈ I → g i = f i := by
  unfold sameL
  rw [List.all_eq_true, List.length_map]
  constructor
  · intro h i hi
    obtain ⟨k, hk, e⟩ := List.getElem_of_mem hi
    have := of_decide_eq_true (h k (List.mem_range.2 hk))
    rw [List.getD_eq_getElem?_getD, List.getD_eq_getElem?_getD, List.getElem?_map, List.getElem?_map, List.getElem?_eq_getElem hk, e] at this
    simp at this
    omega
  · intro h k hk
    have hk := List.mem_range.1 hk
    refine decide_eq_true ?_
    rw [List.getD_eq_getElem?_getD, List.getD_eq_getElem?_getD, List.getElem?_map, List.getElem?_map, List.getElem?_eq_getElem hk]
    simp [h _ (List.getElem_mem hk)]
/-- an order is view equivalent in the reference's words just if it is in the program's -/
theorem seen_eq {h : List NOp} (hh : VH h) {p : List Nat} (hp : p.Perm (comN h 7)) : seenB h p = eqV (runV h p fun _ => 0) (goV h h.length) := by
  have s1 := ofC_sel h
  have s2 := ofP_sel hp
  unfold seenB
  rw [part_of h hh, ser_of, vr_ex hh s1, vr_ex hh s2, cells_P hp, goV_ex, runV_ex, Bool.eq_iff_iff, sameL_map, eqV_iff]
  constructor
  · intro q j hj
    by_cases e : j < 40
    · by_cases e0 : tK h j = 0
      · by_cases e1 : j ∈ ofC h h.length
        · refine q j ?_
          have h1 := s1.mem j e1
          have h6 := hh.t6 j h1.1
          unfold cells
          refine List.mem_append.2 (.inl (List.mem_flatMap.2 ⟨tT h j - 1, List.mem_range.2 (by omega), ?_⟩))
          unfold rdS
          exact List.mem_filter.2 ⟨e1, decide_eq_true ⟨by omega, e0⟩⟩
        · have e2 : j ∉ ofP h p := fun hm => by
            have h1 := s2.mem j hm
            refine e1 (List.mem_filter.2 ⟨List.mem_range.2 h1.1, decide_eq_true h1.2⟩)
          rw [exV_out e _ _ e1, exV_out e _ _ e2]
      · rw [exV_not e e0, exV_not e e0]
    · refine q j ?_
      unfold cells
      exact List.mem_append.2 (.inr (List.mem_map.2 ⟨j - 40, List.mem_range.2 (by omega), by omega⟩))
  · intro q i hi
    refine q i ?_
    unfold cells at hi
    rcases List.mem_append.1 hi with h1 | h1
    · obtain ⟨_, _, h2⟩ := List.mem_flatMap.1 h1
      have := (s1.mem i (List.mem_filter.1 h2).1).1
      have := hh.le
      omega
    · obtain ⟨x, hx, rfl⟩ := List.mem_map.1 h1
      have := List.mem_range.1 hx
      omega
theorem vwN_seen {h : List NOp} (hh : VH h) : (perms (comN h 7)).find? (seenB h) = vwN h := by
  rw [vwN_find]
  have : ∀ l : List (List Nat), (∀ p, p ∈ l → p ∈ perms (comN h 7)) → l.find? (seenB h) = l.find? fun p => eqV (runV h p fun _ => 0) (goV h h.length) := by
    intro l
    induction l with
    | nil => intro _; rfl
    | cons p l ih =>
      intro hl
      rw [List.find?_cons, List.find?_cons, seen_eq hh (perms_perm rfl (hl p (by simp))), ih fun q hq => hl q (by simp [hq])]
  exact this _ fun _ h => h
theorem ser_ok {h : List NOp} (hh : VH h) (p : List Nat) (hp : p ∈ perms (comN h 7)) : VH (serN h p) ∧ (vrN (partN h)).length ≤ (vrN (serN h p)).length := by
  have hp := perms_perm rfl hp
  have s1 := ofC_sel h
  have s2 := ofP_sel hp
  refine ⟨by rw [ser_of]; exact s2.vh hh, ?_⟩
  rw [part_of h hh, ser_of, vr_ex hh s1, vr_ex hh s2, cells_P hp, List.length_map, List.length_map]
  exact Nat.le_refl _
theorem viewRef_any {h : List NOp} (hh : VH h) (v : Value) (w : World) (hv : Ops w v (castO h)) :
    Calls Try.prog 29 #[v] w fun e w' => ∃ v', e = .returned (.tuple #[v', .int .i64 (if (vwN h).isSome then 0 else 5)]) ∧ Ints w' v' (castN ((vwN h).getD [])) ∧ Below w.heap.size w w' :=
  viewRR_any hh (by rw [part_of h hh]; exact (ofC_sel h).vh hh) (ser_ok hh) (vwN h) (vwN_seen hh) v w hv
#print axioms viewRef_any
end Go.Proofs.Ytpehbffkplmfjaa
