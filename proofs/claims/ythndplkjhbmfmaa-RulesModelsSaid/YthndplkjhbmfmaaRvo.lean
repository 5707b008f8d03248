/- What the laws' Of and Facts make is valid if and only if the arguments are, which are then copied whole. -/
import Derived.Test.YthndplkjhbmfmaaRof
import Derived.Test.YthndplkjhbmfmaaRfs
namespace Go.Proofs.Ythndplkjhbmfmaa
open Go.RowKit
theorem ofAt_id {a : RAt} (h : a.2.length ≤ 2) : ofAt a = a := by
  unfold ofAt
  rw [List.take_of_length_le (by omega)]
theorem ofAt_back {a : RAt} (h : AtR (ofAt a)) : ofAt a = a := by
  have h2 := h.2.1.2
  unfold ofAt at h2
  simp only [List.length_take] at h2
  exact ofAt_id (by omega)
theorem ofRl_copy {l : List RRule} {fs : List RAt} (h : ValR l fs) : ofRl l = l := by
  unfold ofRl
  rw [List.take_of_length_le (by have := h.l10; omega)]
  refine (List.map_congr_left fun r hr => ?_).trans (List.map_id _)
  have hr2 := h.ats r hr
  show (ofAt r.1, (r.2.take 5).map ofLt) = r
  rw [ofAt_id hr2.1.2.1.2, List.take_of_length_le (by have := h.b3 r hr; omega)]
  have : r.2.map ofLt = r.2 := (List.map_congr_left fun b hb => show ofLt b = b from by unfold ofLt; rw [ofAt_id (hr2.2 b hb).2.1.2]).trans (List.map_id _)
  rw [this]
theorem ofF_copy {l : List RRule} {fs : List RAt} (h : ValR l fs) : ofF fs = fs := by
  unfold ofF
  rw [List.take_of_length_le (by have := h.f20; omega)]
  refine (List.map_congr_left fun f hf => ?_).trans (List.map_id _)
  unfold ofA
  rw [List.take_of_length_le (by have := (h.fcs f hf).2.1.2; omega)]
  rfl
theorem ofRl_back {l : List RRule} {fs : List RAt} (h : ValR (ofRl l) fs) : ofRl l = l := by
  have h10 : l.length ≤ 10 := by
    have := h.l10
    unfold ofRl at this
    rw [List.length_map, List.length_take] at this; omega
  have hm : ∀ r, r ∈ l → ofRu r ∈ ofRl l := fun r hr => by
    unfold ofRl
    rw [List.take_of_length_le (by omega)]
    exact List.mem_map.2 ⟨r, hr, rfl⟩
  unfold ofRl
  rw [List.take_of_length_le (by omega)]
  refine (List.map_congr_left fun r hr => ?_).trans (List.map_id _)
  have h1 := h.ats _ (hm r hr)
  have h3 := h.b3 _ (hm r hr)
  have h3' : r.2.length ≤ 3 := by
    unfold ofRu at h3
    simp only [List.length_map, List.length_take] at h3; omega
  show (ofAt r.1, (r.2.take 5).map ofLt) = r
  have e1 : ofAt r.1 = r.1 := ofAt_back h1.1
  have e2 : (r.2.take 5).map ofLt = r.2 := by
    rw [List.take_of_length_le (by omega)]
    refine (List.map_congr_left fun b hb => ?_).trans (List.map_id _)
    have hb2 : AtR (ofLt b).2 := h1.2 _ (show ofLt b ∈ (ofRu r).2 from by
      show ofLt b ∈ (r.2.take 5).map ofLt
      rw [List.take_of_length_le (by omega)]
      exact List.mem_map.2 ⟨b, hb, rfl⟩)
    show (b.1, ofAt b.2) = b
    rw [ofAt_back hb2]
  rw [e1, e2]
theorem ofF_back {l : List RRule} {fs : List RAt} (h : ValR l (ofF fs)) : ofF fs = fs := by
  have h20 : fs.length ≤ 20 := by
    have := h.f20
    unfold ofF at this
    rw [List.length_map, List.length_take] at this; omega
  have e0 : ofF fs = fs.map ofA := by unfold ofF; rw [List.take_of_length_le (by omega)]
  rw [e0]
  refine (List.map_congr_left fun f hf => ?_).trans (List.map_id _)
  have h1 := (h.fcs (ofA f) (by rw [e0]; exact List.mem_map.2 ⟨f, hf, rfl⟩)).2.1.2
  unfold ofA at h1 ⊢
  simp only [List.length_take] at h1
  rw [List.take_of_length_le (by omega)]
  rfl
/-- so validity is the same on both sides -/
theorem ofs_val {l : List RRule} {fs : List RAt} : ValR (ofRl l) (ofF fs) ↔ ValR l fs :=
  ⟨fun h => by have e1 := ofRl_back h; have e2 := ofF_back h; rwa [e1, e2] at h, fun h => by rw [ofRl_copy h, ofF_copy h]; exact h⟩
theorem ofR_val {l : List RRule} : ValR (ofRl l) [] ↔ ValR l [] :=
  ⟨fun h => by have e1 := ofRl_back h; rwa [e1] at h, fun h => by rw [ofRl_copy h]; exact h⟩
#print axioms ofs_val
end Go.Proofs.Ythndplkjhbmfmaa
