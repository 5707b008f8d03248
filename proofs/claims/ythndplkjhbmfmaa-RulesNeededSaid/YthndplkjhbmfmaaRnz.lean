/- The model by the needed rules alone: math. -/
import Derived.Test.YthndplkjhbmfmaaRcl
import Derived.Test.YthndplkjhbmfmaaRnv
namespace Go.Proofs.Ythndplkjhbmfmaa
open Go.RowKit
theorem nd_mem {R : Nat} {l : List RRule} {r : RRule} : r ∈ ndR R l ↔ r ∈ l ∧ bitS R r.1.1.toNat := by
  unfold ndR bitS
  rw [List.mem_filter]
theorem lit_le {l : List RRule} {L : List Int} (hL : Str l L) {r : RRule} (hr : r ∈ l) {b : RLit} (hb : b ∈ r.2) : L.getD b.2.1.toNat 0 ≤ L.getD r.1.1.toNat 0 ∧ (b.1 = true → L.getD b.2.1.toNat 0 < L.getD r.1.1.toNat 0) := by
  have h1 : L.getD b.2.1.toNat 0 + nt b.1 ≤ L.getD r.1.1.toNat 0 := hL.sol r hr b hb
  refine ⟨?_, fun e => ?_⟩
  · have h2 : 0 ≤ nt b.1 := by unfold nt; split <;> omega
    omega
  · rw [e] at h1
    have h2 : nt true = 1 := rfl
    omega
/-- every fact of the model is a given one, or follows from the model -/
theorem mod_step {l : List RRule} {L : List Int} (hL : Str l L) {G : RAt → Prop} : ∀ s, s ≤ 6 → ∀ f, mlv l L G s f → Cons (fun r => r ∈ l) G (mlv l L G 6) f
  | 0, _, f, h => .given h
  | s + 1, hs, f, h => by
    refine Cons.least (C := Cons (fun r => r ∈ l) G (mlv l L G 6)) (fun f hf => mod_step hL s (by omega) f hf) (fun r m h1 h2 h3 h4 => .step h1.1 h2 h3 fun b hb hn hk => h4 b hb hn ?_) h
    have h5 := (lit_le hL h1.1 hb).2 hn
    exact mlv_at (s := s) (f := gnd m b.2) (by show L.getD b.2.1.toNat 0 < (s : Int); rw [h1.2] at h5; exact h5) (6 - s) (by rw [show s + (6 - s) = 6 by omega]; exact hk)
/-- both models have the same facts of needed relations -/
theorem nd_mod {l : List RRule} (hl : RuV l) {R : Nat} (hc : CloS l (bitS R)) {L L' : List Int} (hL : Str l L) (hL' : Str (ndR R l) L') {G : RAt → Prop} : ∀ s, s ≤ 6 → (∀ f, bitS R f.1.toNat → mlv (ndR R l) L' G s f → mlv l L G 6 f) ∧ ∀ f, bitS R f.1.toNat → L'.getD f.1.toNat 0 < (s : Int) → mlv l L G 6 f → mlv (ndR R l) L' G s f
  | 0, _ => ⟨fun f _ h => mlv_le (s := 0) (show mlv l L G 0 f from h) 6, fun f _ hs => by
      have hn : 0 ≤ L'.getD f.1.toNat 0 := by
        by_cases h : f.1.toNat < 6
        · exact (hL'.sv.rng _ h).1
        · rw [List.getD_eq_getElem?_getD, List.getElem?_eq_none (by rw [hL'.sv.len]; omega)]; exact Int.le_refl _
      have hs : L'.getD f.1.toNat 0 < 0 := hs
      omega⟩
  | s + 1, hs => by
    obtain ⟨i1, i2⟩ := nd_mod hl hc hL hL' (G := G) s (by omega)
    refine ⟨fun f hb h => ?_, fun f hb hs2 h => ?_⟩
    · refine Cons.least (C := fun f => bitS R f.1.toNat → mlv l L G 6 f) (fun f hf hb => i1 f hb hf) (fun r m h1 h2 h3 h4 hb => ?_) h hb
      have hr := nd_mem.1 h1.1
      refine mod_closed hl hL hr.1 h2 (fun b hb2 hn => h3 b hb2 hn (hc r hr.1 hr.2 b hb2)) fun b hb2 hn hk => h4 b hb2 hn ?_
      have h5 := (lit_le hL' h1.1 hb2).2 hn
      exact i2 _ (hc r hr.1 hr.2 b hb2) (by show L'.getD b.2.1.toNat 0 < (s : Int); rw [h1.2] at h5; exact h5) hk
    · refine Cons.least (C := fun f => bitS R f.1.toNat → L'.getD f.1.toNat 0 < ((s + 1 : Nat) : Int) → mlv (ndR R l) L' G (s + 1) f) (fun f hf _ _ => mlv_le (s := 0) (show mlv (ndR R l) L' G 0 f from hf) (s + 1) |> fun q => by rwa [Nat.zero_add] at q) (fun r m h1 h2 h3 h4 hb hh => ?_) (mod_step hL 6 (Nat.le_refl _) f h) hb hs2
      have hb : bitS R r.1.1.toNat := hb
      have hh : L'.getD r.1.1.toNat 0 < ((s + 1 : Nat) : Int) := hh
      have hr : r ∈ ndR R l := nd_mem.2 ⟨h1, hb⟩
      have hrr := (hl r h1).1.1
      have hrg := hL'.sv.rng r.1.1.toNat (by omega)
      obtain ⟨t, ht⟩ : ∃ t : Nat, L'.getD r.1.1.toNat 0 = (t : Int) := ⟨(L'.getD r.1.1.toNat 0).toNat, by omega⟩
      have hts : t ≤ s := by omega
      have key : mlv (ndR R l) L' G (t + 1) (gnd m r.1) := by
        refine Cons.step (rs := fun r => r ∈ ndR R l ∧ L'.getD r.1.1.toNat 0 = (t : Int)) (S := mlv (ndR R l) L' G t) (K := mlv (ndR R l) L' G t) ⟨hr, ht⟩ h2 (fun b hb2 hn => ?_) (fun b hb2 hn hk => h4 b hb2 hn ?_)
        · have h5 := (lit_le hL' hr hb2).1
          have h6 := h3 b hb2 hn (hc r h1 hb b hb2) (by show L'.getD b.2.1.toNat 0 < _; omega)
          have : mlv (ndR R l) L' G (t + 1) (gnd m b.2) := mlv_at (s := t + 1) (f := gnd m b.2) (by show L'.getD b.2.1.toNat 0 < _; omega) (s - t) (by rw [show t + 1 + (s - t) = s + 1 by omega]; exact h6)
          exact this
        · have := mlv_le hk (s - t)
          rw [show t + (s - t) = s by omega] at this
          exact i1 _ (hc r h1 hb b hb2) this
      have := mlv_le key (s - t)
      rwa [show t + 1 + (s - t) = s + 1 by omega] at this
theorem nd_val {l : List RRule} {fs : List RAt} {R : Nat} (h : ValR l fs) : ValR (ndR R l) fs := by
  have hm : ∀ r, r ∈ ndR R l → r ∈ l := fun r hr => (nd_mem.1 hr).1
  refine ⟨Nat.le_trans (List.length_filter_le _ _) h.l10, h.f20, fun r hr => h.ats r (hm r hr), fun r hr => h.b3 r (hm r hr), fun r hr => h.safe r (hm r hr), h.fcs, ?_⟩
  have hu : ∀ o, o ∈ UseL (ndR R l) ++ UseF fs → o ∈ UseL l ++ UseF fs := fun o ho => by
    rcases List.mem_append.1 ho with ho | ho
    · obtain ⟨r, hr, k⟩ := List.mem_flatMap.1 ho
      exact List.mem_append_left _ (List.mem_flatMap.2 ⟨r, hm r hr, k⟩)
    · exact List.mem_append_right _ ho
  exact fun o ho p hp e => h.con o (hu o ho) p (hu p hp) e
theorem nd_str {l : List RRule} {L : List Int} (hL : Str l L) {R : Nat} : ¬ NoStr (ndR R l) := fun h => by
  obtain ⟨i, hi, h5⟩ := h L ⟨fun i hi => (hL.sv.rng i hi).1, fun r hr => hL.sol r (nd_mem.1 hr).1⟩
  have := hL.sv.rng i hi
  omega
/-- the facts of a relation, in order -/
theorem nd_same {l : List RRule} {fs : List RAt} (hv : ValR l fs) {R q : Nat} (hn : NeedS l q (bitS R)) {L L' : List Int} (hL : Str l L) (hL' : Str (ndR R l) L') {cs ds : List RAt} (h1 : SrtF cs (ModP l fs L)) (h2 : SrtF ds (ModP (ndR R l) fs L')) :
    cs.filter (fun f => decide (f.1 = (q : Int))) = ds.filter (fun f => decide (f.1 = (q : Int))) := by
  have k1 : SrtF (cs.filter fun f => decide (f.1 = (q : Int))) (fun f => ModP l fs L f ∧ f.1 = (q : Int)) := ⟨fun f => by rw [List.mem_filter, h1.mem, decide_eq_true_eq], h1.asc.filter _, fun f hf => h1.fcs f (List.mem_filter.1 hf).1⟩
  have k2 : SrtF (ds.filter fun f => decide (f.1 = (q : Int))) (fun f => ModP (ndR R l) fs L' f ∧ f.1 = (q : Int)) := ⟨fun f => by rw [List.mem_filter, h2.mem, decide_eq_true_eq], h2.asc.filter _, fun f hf => h2.fcs f (List.mem_filter.1 hf).1⟩
  refine srtF_eq k1 (k2.congr fun f => ?_)
  have key := nd_mod hv.ats hn.clo hL hL' (G := fun f => f ∈ fs) 6 (Nat.le_refl _)
  constructor
  · rintro ⟨a, b⟩
    exact ⟨key.1 f (by rw [b, Int.toNat_natCast]; exact hn.has) a, b⟩
  · rintro ⟨a, b⟩
    have hb : bitS R f.1.toNat := by rw [b, Int.toNat_natCast]; exact hn.has
    refine ⟨key.2 f hb ?_ a, b⟩
    have hf := h1.fcs f ((h1.mem f).2 a)
    have := hL'.sv.rng f.1.toNat (by have := hf.1; omega)
    omega
#print axioms nd_same
end Go.Proofs.Ythndplkjhbmfmaa
