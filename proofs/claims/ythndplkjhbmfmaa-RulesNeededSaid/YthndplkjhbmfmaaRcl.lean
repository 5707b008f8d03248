/- The model is closed; the model of a model. -/
import Derived.Test.YthndplkjhbmfmaaRmd
import Derived.Test.YthndplkjhbmfmaaRsm
namespace Go.Proofs.Ythndplkjhbmfmaa
open Go.RowKit
theorem mlv_up {l : List RRule} {L : List Int} {G : RAt → Prop} {s : Nat} {f : RAt} (h : mlv l L G s f) : mlv l L G (s + 1) f := .given h
theorem mlv_le {l : List RRule} {L : List Int} {G : RAt → Prop} {s : Nat} {f : RAt} (h : mlv l L G s f) : ∀ d, mlv l L G (s + d) f
  | 0 => h
  | d + 1 => mlv_up (mlv_le h d)
/-- only facts of the stratum are new -/
theorem mlv_down {l : List RRule} {L : List Int} {G : RAt → Prop} {s : Nat} {f : RAt} (h : mlv l L G (s + 1) f) : mlv l L G s f ∨ L.getD f.1.toNat 0 = (s : Int) := by
  cases h with
  | given h => exact .inl h
  | step h1 _ _ _ => exact .inr h1.2
theorem mlv_at {l : List RRule} {L : List Int} {G : RAt → Prop} {f : RAt} {s : Nat} (hs : L.getD f.1.toNat 0 < (s : Int)) : ∀ d, mlv l L G (s + d) f → mlv l L G s f
  | 0, h => h
  | d + 1, h => by
    rcases mlv_down (s := s + d) h with q | q
    · exact mlv_at hs d q
    · omega
/-- the model is closed -/
theorem mod_closed {l : List RRule} (hl : RuV l) {L : List Int} (hL : Str l L) {G : RAt → Prop} {r : RRule} (hr : r ∈ l) {m : List Int} (hm : Num6 r m) (hp : ∀ b, b ∈ r.2 → b.1 = false → mlv l L G 6 (gnd m b.2)) (hn : ∀ b, b ∈ r.2 → b.1 = true → ¬ mlv l L G 6 (gnd m b.2)) : mlv l L G 6 (gnd m r.1) := by
  have hrr := (hl r hr).1.1
  have hrg := hL.sv.rng r.1.1.toNat (by omega)
  obtain ⟨s, hs⟩ : ∃ s : Nat, L.getD r.1.1.toNat 0 = (s : Int) := ⟨(L.getD r.1.1.toNat 0).toNat, by omega⟩
  have hs5 : s ≤ 5 := by omega
  have hsol := fun b hb => hL.sol r hr b hb
  have key : mlv l L G (s + 1) (gnd m r.1) := by
    refine Cons.step (rs := fun r => r ∈ l ∧ L.getD r.1.1.toNat 0 = (s : Int)) (S := mlv l L G s) (K := mlv l L G s) ⟨hr, hs⟩ hm (fun b hb hb0 => ?_) (fun b hb hb1 hk => ?_)
    · have h1 : L.getD b.2.1.toNat 0 + nt b.1 ≤ L.getD r.1.1.toNat 0 := hsol b hb
      rw [hb0] at h1
      have h0 : nt false = 0 := rfl
      have h2 := hp b hb hb0
      have : mlv l L G (s + 1) (gnd m b.2) := mlv_at (s := s + 1) (f := gnd m b.2) (by show L.getD b.2.1.toNat 0 < _; omega) (5 - s) (by rw [show s + 1 + (5 - s) = 6 by omega]; exact h2)
      exact this
    · have h1 : L.getD b.2.1.toNat 0 + nt b.1 ≤ L.getD r.1.1.toNat 0 := hsol b hb
      refine hn b hb hb1 ?_
      have := mlv_le hk (6 - s)
      rwa [show s + (6 - s) = 6 by omega] at this
  have := mlv_le key (5 - s)
  rwa [show s + 1 + (5 - s) = 6 by omega] at this
def PlainR (l : List RRule) : Prop := ∀ r, r ∈ l → ∀ b, b ∈ r.2 → b.1 = false
/-- the model of a model -/
theorem mod_again {l : List RRule} (hl : RuV l) (hp : PlainR l) {L : List Int} (hL : Str l L) {G M : RAt → Prop} (hM : ∀ f, M f ↔ mlv l L G 6 f) : ∀ s f, mlv l L M s f ↔ M f
  | 0, _ => Iff.rfl
  | s + 1, f => by
    constructor
    · intro h
      refine Cons.least (C := M) (fun f hf => (mod_again hl hp hL hM s f).1 hf) (fun r m h1 h2 h3 _ => (hM _).2 (mod_closed hl hL h1.1 h2 (fun b hb hb0 => (hM _).1 (h3 b hb hb0)) fun b hb hb1 => ?_)) h
      have := hp r h1.1 b hb
      rw [this] at hb1; cases hb1
    · intro h
      exact mlv_up ((mod_again hl hp hL hM s f).2 h)
theorem mlv_use {l : List RRule} {L : List Int} {fs : List RAt} : ∀ s f, mlv l L (fun f => f ∈ fs) s f → (f.1, f.2.length) ∈ UseL l ++ UseF fs
  | 0, f, h => List.mem_append_right _ (List.mem_map.2 ⟨f, h, rfl⟩)
  | s + 1, f, h => by
    cases h with
    | given h => exact mlv_use s f h
    | @step r m h1 _ _ _ =>
      refine List.mem_append_left _ (List.mem_flatMap.2 ⟨r, h1.1, ?_⟩)
      show (r.1.1, (r.1.2.map (numOf m)).length) ∈ _
      rw [List.length_map]
      exact List.mem_cons_self ..
/-- so the model is valid again -/
theorem val_again {l : List RRule} {fs cs : List RAt} (hv : ValR l fs) {L : List Int} (hs : SrtF cs (ModP l fs L)) (h20 : cs.length ≤ 20) : ValR l cs := by
  have hu : ∀ o, o ∈ UseL l ++ UseF cs → o ∈ UseL l ++ UseF fs := fun o ho => by
    rcases List.mem_append.1 ho with ho | ho
    · exact List.mem_append_left _ ho
    · obtain ⟨f, hf, rfl⟩ := List.mem_map.1 ho
      exact mlv_use 6 f ((hs.mem f).1 hf)
  exact ⟨hv.l10, h20, hv.ats, hv.b3, hv.safe, hs.fcs, fun o ho p hp e => hv.con o (hu o ho) p (hu p hp) e⟩
#print axioms mod_again
#print axioms val_again
end Go.Proofs.Ythndplkjhbmfmaa
