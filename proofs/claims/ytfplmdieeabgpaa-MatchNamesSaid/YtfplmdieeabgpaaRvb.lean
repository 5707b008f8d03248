/- Contract of slices.Reverse over the atoms of a query. -/
import Derived.Test.YtfplmdieeabgpaaRvf
import Derived.Test.YtfplmdieeabgpaaOf
namespace Go.Proofs
open Go.Shelf
def Try.revAtom_ren : Go.Shelf.Ren := ⟨fun | 35 => 62 | n => n, fun | 22 => 31 | 23 => 88 | n => n, fun | n => n⟩
theorem Try.revAtom : Go.Proofs.SlLaysE0.n35 Try.prog Try.revAtom_ren := {
  mixed := by kernel_rfl
  f35 := ⟨Try.f62.name, by decide, Try.func62.trans (congrArg some (by kernel_rfl))⟩
  t0 := Try.underlying0
  a0 := Try.isAgg0
  z0 := Try.sizeOf0
  v0 := Try.zeroValue0
  t3 := Try.underlying3
  a3 := Try.isAgg3
  z3 := Try.sizeOf3
  v3 := Try.zeroValue3
  t4 := Try.underlying4
  a4 := Try.isAgg4
  z4 := Try.sizeOf4
  v4 := Try.zeroValue4
  t22 := Try.underlying31
  a22 := Try.isAgg31
  z22 := Try.sizeOf31
  v22 := Try.zeroValue31 }
end Go.Proofs
namespace Go.Proofs.Ytfplmdieeabgpaa
open Go.RowKit Go.Shelf Go.Lib Go.Sort
theorem revB_any (l : List HAt) (base : Nat) (v : Value) (w : World) (h : OwnAtoms 88 base w v l) (hb : base ≤ w.heap.size) :
    Calls Try.prog 62 #[v] w fun e w' => e = .returned (.tuple #[]) ∧ OwnAtoms 88 base w' v l.reverse ∧ w.grownBy w' v.ownBlock := by
  obtain ⟨vs, h1, h2, h3⟩ := h
  obtain ⟨L, rfl, hc, hi⟩ := av_of l vs base w h1 h3
  rw [hc, List.length_map] at h2
  rw [← List.map_reverse]
  rcases h2.2 with ⟨rfl, h0⟩ | ⟨g, cap, cur, rfl, hg, hh, hn, hm, hs, ht⟩
  · have : L = [] := List.eq_nil_of_length_eq_zero h0
    subst this
    refine (AnyQ.slices_Reverse_empty Try.revAtom none 0 w).mono ?_
    rintro e w' ⟨rfl, rfl⟩
    exact ⟨rfl, ownAtoms_nil _ _ _, World.grownBy.refl _ _⟩
  · have hH : HoldsK encA 2 w g 0 (L.map (·.1)).toArray := by
      unfold HoldsK
      rw [flat_av]
      exact holds_id hh (by rw [avC_len]; exact ht)
    have hR := AnyQ.slices_Reverse Try.revAtom 2 Try.isAgg88 Try.sizeOf88 encA (fun _ => rfl) (fun x u hu => by
      simp only [encA, List.mem_cons, List.not_mem_nil, or_false] at hu
      rcases hu with rfl | rfl <;> rfl) g 0 cap (L.map (·.1)).toArray w hH (by unfold maxLen at hm; simp; omega)
    have hsz : (L.map (·.1)).toArray.size = L.length := by simp
    rw [hsz] at hR
    refine hR.mono ?_
    rintro e w' ⟨rfl, n, rfl⟩
    have er : putRowK encA 2 (Sort.ahead w n) g 0 (L.map (·.1)).toArray.reverse = putRow id (Sort.ahead w n) g 0 (avC L.reverse).toArray := by
      unfold putRowK
      rw [← flat_av]; simp
    rw [er]
    have hk : ∀ k, k ≠ g → (putRow id (Sort.ahead w n) g 0 (avC L.reverse).toArray).heap[k]? = w.heap[k]? := fun k hk => by
      have : g ≠ k := fun e => hk e.symm
      simp [putRow, mapBlock, Sort.ahead, Array.getElem?_modify, this]
    have hgr : w.grownBy (putRow id (Sort.ahead w n) g 0 (avC L.reverse).toArray) (some g) :=
      ⟨rfl, rfl, rfl, by simp [putRow, mapBlock, Sort.ahead], fun k _ hne => hk k (fun e => hne (by rw [e]))⟩
    refine ⟨rfl, own_av ?_ fun x hx => ?_, hgr⟩
    · refine ⟨by rw [avC_len], .inr ⟨g, cap, putCells id 0 (avC L.reverse).toArray cur, ?_, hg, ?_, by simpa using hn, hm, by simp [putCells, hs], ?_⟩⟩
      · simp
      · simp [putRow, mapBlock, Sort.ahead, Array.getElem?_modify, hh, onCells]
      · have e : L.reverse.length * 2 = (avC L.reverse).length := (avC_len _).symm
        rw [e]
        exact put_id cur _ (by rw [avC_len, hs]; simp; omega)
    · have := hi x (List.mem_reverse.1 hx)
      refine own_block this fun g' hg' => hk g' fun e => ?_
      subst e
      rcases this.2 with ⟨hv, _⟩ | ⟨g2, c2, cur2, hv, _, hh2, _⟩
      · rw [hv] at hg'; cases hg'
      · rw [hv] at hg'; cases hg'
        rw [hh] at hh2
        injection hh2 with h4
        injection h4 with _ h4 _
        exact atomNotInt h4
#print axioms revB_any
end Go.Proofs.Ytfplmdieeabgpaa
