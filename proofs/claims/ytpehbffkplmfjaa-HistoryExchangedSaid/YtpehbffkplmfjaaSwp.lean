/- Two neighbouring operations exchanged in memory. -/
import Derived.Test.YtpehbffkplmfjaaExm
namespace Go.Proofs.Ytpehbffkplmfjaa
open Go.RowKit
theorem ops_mk {w : World} {a : Option Addr} {b off cap : Nat} {g : List NOp} (hl : g.length ≤ 40) (ha : 0 < g.length → a = some ⟨b, off, none⟩) (hcap : g.length ≤ cap)
    (hc : ∀ i, i < g.length → w.cell? ⟨b, off + i * 3, none⟩ = some (.int .i64 (tT g i : Nat)) ∧ w.cell? ⟨b, off + i * 3 + 1, none⟩ = some (.int .i64 (tK g i : Nat)) ∧ w.cell? ⟨b, off + i * 3 + 2, none⟩ = some (.int .i64 (tI g i : Nat))) :
    Ops w (.slice a g.length cap) (castO g) := by
  have hlo := length_opCells (castO g)
  refine ⟨hlo, by rw [castO_length]; unfold maxLen; omega, a, b, off, cap, by rw [castO_length], ⟨fun h => ha (by rwa [castO_length] at h), by rw [castO_length]; exact hcap⟩, fun j hj => ?_⟩
  rw [hlo, castO_length] at hj
  have hi : j / 3 < g.length := by omega
  have hr : j % 3 < 3 := Nat.mod_lt _ (by decide)
  have e := opCells_at (castO g) (j / 3) (by rw [castO_length]; exact hi) (j % 3) hr
  have ej : j / 3 * 3 + j % 3 = j := by omega
  rw [ej, op_get (by rw [castO_length]; exact hi), (castO_at g _).1, (castO_at g _).2.1, (castO_at g _).2.2] at e
  have h3 := hc _ hi
  have key : w.cell? ⟨b, off + j, none⟩ = (opCells (castO g))[j]? := by
    rw [e]
    have : j % 3 = 0 ∨ j % 3 = 1 ∨ j % 3 = 2 := by omega
    rcases this with h | h | h
    · rw [h, show off + j = off + j / 3 * 3 by omega, h3.1]; rfl
    · rw [h, show off + j = off + j / 3 * 3 + 1 by omega, h3.2.1]; rfl
    · rw [h, show off + j = off + j / 3 * 3 + 2 by omega, h3.2.2]; rfl
  rw [key, List.getElem?_eq_getElem]
def exN (h : List NOp) (i : Nat) : List NOp := (List.range h.length).map fun k => (tT h (sw i k), tK h (sw i k), tI h (sw i k))
theorem exN_at {h : List NOp} {i k : Nat} (hk : k < h.length) : tT (exN h i) k = tT h (sw i k) ∧ tK (exN h i) k = tK h (sw i k) ∧ tI (exN h i) k = tI h (sw i k) := by
  have e : (exN h i).getD k (0, 0, 0) = (tT h (sw i k), tK h (sw i k), tI h (sw i k)) := by
    unfold exN
    rw [List.getD_eq_getElem?_getD, List.getElem?_map, List.getElem?_range hk]; rfl
  refine ⟨?_, ?_, ?_⟩
  · show ((exN h i).getD k (0, 0, 0)).1 = _; rw [e]
  · show ((exN h i).getD k (0, 0, 0)).2.1 = _; rw [e]
  · show ((exN h i).getD k (0, 0, 0)).2.2 = _; rw [e]
theorem exN_len (h : List NOp) (i : Nat) : (exN h i).length = h.length := by simp [exN]
theorem exN_ex {h : List NOp} (hh : VH h) {i : Nat} (hi : i + 1 < h.length) (ne : tT h i ≠ tT h (i + 1)) (k0 : tK h i ≤ 1) (k1 : tK h (i + 1) ≤ 1) (it : ¬ (tI h i = tI h (i + 1) ∧ 0 < tK h i + tK h (i + 1))) : Ex h (exN h i) i :=
  ⟨hh, exN_len h i, hi, fun _ hk => (exN_at hk).1, fun _ hk => (exN_at hk).2.1, fun _ hk => (exN_at hk).2.2, ne, k0, k1, it⟩
theorem cell_put {w : World} {b i k : Nat} {u v : Value} (h : w.cell? ⟨b, i, none⟩ = some u) : (w.setCell ⟨b, i, none⟩ v).cell? ⟨b, k, none⟩ = if k = i then some v else w.cell? ⟨b, k, none⟩ := by
  by_cases e : k = i
  · subst e; rw [if_pos rfl]; exact World.cell?_setCell_same w _ v h
  · rw [if_neg e]; exact World.cell?_setCell_other w _ _ v (by intro q; injection q with _ q2; exact e q2.symm)
theorem put_if {w : World} {b i k : Nat} (v : Value) (h : ∃ u, w.cell? ⟨b, i, none⟩ = some u) : (w.setCell ⟨b, i, none⟩ v).cell? ⟨b, k, none⟩ = if k = i then some v else w.cell? ⟨b, k, none⟩ := by
  obtain ⟨u, h⟩ := h
  exact cell_put h
theorem put_has {w : World} {b i k : Nat} (v : Value) (h : ∃ u, w.cell? ⟨b, i, none⟩ = some u) (h2 : ∃ u, w.cell? ⟨b, k, none⟩ = some u) : ∃ u, (w.setCell ⟨b, i, none⟩ v).cell? ⟨b, k, none⟩ = some u := by
  rw [put_if v h]
  split
  · exact ⟨_, rfl⟩
  · exact h2
theorem swap_key {w : World} {b off i j : Nat} {t q y t2 q2 y2 : Nat} (ci : (∃ u, w.cell? ⟨b, off + i * 3, none⟩ = some u) ∧ (∃ u, w.cell? ⟨b, off + i * 3 + 1, none⟩ = some u) ∧ (∃ u, w.cell? ⟨b, off + i * 3 + 2, none⟩ = some u))
    (cj : (∃ u, w.cell? ⟨b, off + j * 3, none⟩ = some u) ∧ (∃ u, w.cell? ⟨b, off + j * 3 + 1, none⟩ = some u) ∧ (∃ u, w.cell? ⟨b, off + j * 3 + 2, none⟩ = some u)) (p : Nat) :
    ((((((w.setCell ⟨b, off + i * 3, none⟩ (.int .i64 t2)).setCell ⟨b, off + i * 3 + 1, none⟩ (.int .i64 q2)).setCell ⟨b, off + i * 3 + 2, none⟩ (.int .i64 y2)).setCell ⟨b, off + j * 3, none⟩ (.int .i64 t)).setCell ⟨b, off + j * 3 + 1, none⟩ (.int .i64 q)).setCell ⟨b, off + j * 3 + 2, none⟩ (.int .i64 y)).cell? ⟨b, p, none⟩ = if p = off + j * 3 + 2 then some (.int .i64 y) else if p = off + j * 3 + 1 then some (.int .i64 q) else if p = off + j * 3 then some (.int .i64 t) else if p = off + i * 3 + 2 then some (.int .i64 y2) else if p = off + i * 3 + 1 then some (.int .i64 q2) else if p = off + i * 3 then some (.int .i64 t2) else w.cell? ⟨b, p, none⟩ := by
  obtain ⟨i0, i1, i2⟩ := ci
  obtain ⟨j0, j1, j2⟩ := cj
  have b1 := put_has (.int .i64 (t2 : Nat)) i0 i1
  have b2 := put_has (.int .i64 (t2 : Nat)) i0 i2
  have b3 := put_has (.int .i64 (t2 : Nat)) i0 j0
  have b4 := put_has (.int .i64 (t2 : Nat)) i0 j1
  have b5 := put_has (.int .i64 (t2 : Nat)) i0 j2
  have r1 := fun p => put_if (k := p) (.int .i64 (t2 : Nat)) i0
  generalize w.setCell ⟨b, off + i * 3, none⟩ (.int .i64 t2) = w1 at *
  have c2 := put_has (.int .i64 (q2 : Nat)) b1 b2
  have c3 := put_has (.int .i64 (q2 : Nat)) b1 b3
  have c4 := put_has (.int .i64 (q2 : Nat)) b1 b4
  have c5 := put_has (.int .i64 (q2 : Nat)) b1 b5
  have r2 := fun p => put_if (k := p) (.int .i64 (q2 : Nat)) b1
  generalize w1.setCell ⟨b, off + i * 3 + 1, none⟩ (.int .i64 q2) = w2 at *
  have d3 := put_has (.int .i64 (y2 : Nat)) c2 c3
  have d4 := put_has (.int .i64 (y2 : Nat)) c2 c4
  have d5 := put_has (.int .i64 (y2 : Nat)) c2 c5
  have r3 := fun p => put_if (k := p) (.int .i64 (y2 : Nat)) c2
  generalize w2.setCell ⟨b, off + i * 3 + 2, none⟩ (.int .i64 y2) = w3 at *
  have e4 := put_has (.int .i64 (t : Nat)) d3 d4
  have e5 := put_has (.int .i64 (t : Nat)) d3 d5
  have r4 := fun p => put_if (k := p) (.int .i64 (t : Nat)) d3
  generalize w3.setCell ⟨b, off + j * 3, none⟩ (.int .i64 t) = w4 at *
  have f5 := put_has (.int .i64 (q : Nat)) e4 e5
  have r5 := fun p => put_if (k := p) (.int .i64 (q : Nat)) e4
  generalize w4.setCell ⟨b, off + j * 3 + 1, none⟩ (.int .i64 q) = w5 at *
  rw [put_if _ f5, r5, r4, r3, r2, r1]
theorem cell_drew (W : World) (a : Addr) : W.drew.cell? a = W.cell? a := rfl
theorem ops_drew {W : World} {v : Value} {l : List HOp} (h : Ops W v l) : Ops W.drew v l := h
theorem swap_cells {w S : World} {b off i j n : Nat} {f0 f1 f2 : Nat → Nat} (hj : j = i + 1)
    (hc : ∀ k, k < n → w.cell? ⟨b, off + k * 3, none⟩ = some (.int .i64 (f0 k : Nat)) ∧ w.cell? ⟨b, off + k * 3 + 1, none⟩ = some (.int .i64 (f1 k : Nat)) ∧ w.cell? ⟨b, off + k * 3 + 2, none⟩ = some (.int .i64 (f2 k : Nat)))
    {t q y t2 q2 y2 : Nat} (ht : t = f0 i) (hq : q = f1 i) (hy : y = f2 i) (ht2 : t2 = f0 j) (hq2 : q2 = f1 j) (hy2 : y2 = f2 j)
    (key : ∀ p, S.cell? ⟨b, p, none⟩ = if p = off + j * 3 + 2 then some (.int .i64 y) else if p = off + j * 3 + 1 then some (.int .i64 q) else if p = off + j * 3 then some (.int .i64 t) else if p = off + i * 3 + 2 then some (.int .i64 y2) else if p = off + i * 3 + 1 then some (.int .i64 q2) else if p = off + i * 3 then some (.int .i64 t2) else w.cell? ⟨b, p, none⟩) {k : Nat} (hk : k < n) :
    S.cell? ⟨b, off + k * 3, none⟩ = some (.int .i64 (f0 (sw i k) : Nat)) ∧ S.cell? ⟨b, off + k * 3 + 1, none⟩ = some (.int .i64 (f1 (sw i k) : Nat)) ∧ S.cell? ⟨b, off + k * 3 + 2, none⟩ = some (.int .i64 (f2 (sw i k) : Nat)) := by
  have h3 := hc k hk
  rw [key, key, key]
  by_cases k1 : k = i
  · subst k1
    rw [sw_0, ← hj, ← ht2, ← hq2, ← hy2]
    refine ⟨?_, ?_, ?_⟩
    · rw [if_neg (by omega), if_neg (by omega), if_neg (by omega), if_neg (by omega), if_neg (by omega), if_pos rfl]
    · rw [if_neg (by omega), if_neg (by omega), if_neg (by omega), if_neg (by omega), if_pos rfl]
    · rw [if_neg (by omega), if_neg (by omega), if_neg (by omega), if_pos rfl]
  · by_cases k2 : k = j
    · subst k2
      have e : sw i k = i := by rw [hj]; exact sw_1 i
      rw [e, ← ht, ← hq, ← hy]
      refine ⟨?_, ?_, ?_⟩
      · rw [if_neg (by omega), if_neg (by omega), if_pos rfl]
      · rw [if_neg (by omega), if_pos rfl]
      · rw [if_pos rfl]
    · have e : sw i k = k := by unfold sw; rw [if_neg k1, if_neg (by omega)]
      rw [e]
      refine ⟨?_, ?_, ?_⟩
      · rw [if_neg (by omega), if_neg (by omega), if_neg (by omega), if_neg (by omega), if_neg (by omega), if_neg (by omega)]; exact h3.1
      · rw [if_neg (by omega), if_neg (by omega), if_neg (by omega), if_neg (by omega), if_neg (by omega), if_neg (by omega)]; exact h3.2.1
      · rw [if_neg (by omega), if_neg (by omega), if_neg (by omega), if_neg (by omega), if_neg (by omega), if_neg (by omega)]; exact h3.2.2
theorem swap_ops {w S : World} {a : Option Addr} {b off cap : Nat} {h : List NOp} {i j : Nat} (hl : h.length ≤ 40) (hj : j = i + 1) (ha : 0 < h.length → a = some ⟨b, off, none⟩) (hcap : h.length ≤ cap)
    (hc : ∀ k, k < h.length → w.cell? ⟨b, off + k * 3, none⟩ = some (.int .i64 (tT h k : Nat)) ∧ w.cell? ⟨b, off + k * 3 + 1, none⟩ = some (.int .i64 (tK h k : Nat)) ∧ w.cell? ⟨b, off + k * 3 + 2, none⟩ = some (.int .i64 (tI h k : Nat)))
    {t q y t2 q2 y2 : Nat} (ht : t = tT h i) (hq : q = tK h i) (hy : y = tI h i) (ht2 : t2 = tT h j) (hq2 : q2 = tK h j) (hy2 : y2 = tI h j)
    (key : ∀ p, S.cell? ⟨b, p, none⟩ = if p = off + j * 3 + 2 then some (.int .i64 y) else if p = off + j * 3 + 1 then some (.int .i64 q) else if p = off + j * 3 then some (.int .i64 t) else if p = off + i * 3 + 2 then some (.int .i64 y2) else if p = off + i * 3 + 1 then some (.int .i64 q2) else if p = off + i * 3 then some (.int .i64 t2) else w.cell? ⟨b, p, none⟩) : Ops S (.slice a h.length cap) (castO (exN h i)) := by
  have hfin := ops_mk (w := S) (a := a) (b := b) (off := off) (cap := cap) (g := exN h i) (by rw [exN_len]; exact hl) (by rw [exN_len]; exact ha) (by rw [exN_len]; exact hcap) (fun k hk => by
    rw [exN_len] at hk
    rw [(exN_at hk).1, (exN_at hk).2.1, (exN_at hk).2.2]
    exact swap_cells (f0 := tT h) (f1 := tK h) (f2 := tI h) hj hc ht hq hy ht2 hq2 hy2 key hk)
  rwa [exN_len] at hfin
theorem two_new (w : World) (A B : Array Value) (t : TypeId) (k : Nat) : ((w.alloc (.cells A t)).alloc (.cells B t)).cell? ⟨w.heap.size, k, none⟩ = A[k]? ∧ ((w.alloc (.cells A t)).alloc (.cells B t)).cell? ⟨w.heap.size + 1, k, none⟩ = B[k]? := by
  constructor
  · have h1 := cell_new w A t k
    rw [← h1]
    exact World.cell?_of_block (heap_alloc_old _ _ (by simp))
  · have := cell_new (w.alloc (.cells A t)) B t k
    rwa [show (w.alloc (.cells A t)).heap.size = w.heap.size + 1 by simp] at this
#print axioms ops_mk
#print axioms exN_ex
#print axioms two_new
end Go.Proofs.Ytpehbffkplmfjaa
