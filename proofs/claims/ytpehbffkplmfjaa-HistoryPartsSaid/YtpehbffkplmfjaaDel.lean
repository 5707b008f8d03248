/- Contract of slices.Delete of one element of a row of the call's own. -/
import Derived.Test.YtpehbffkplmfjaaCom
import Derived.Test.YtpehbffkplmfjaaShelf
import Derived.Sort.OwnSortedInts
namespace Go.Proofs.Ytpehbffkplmfjaa
open Go.RowKit Go.Sort

theorem own_take {w : World} {base : Nat} {e : TypeId} {a : Addr} {n c k : Nat} {xs : List Value} (h : w.ownsRow base e 1 (.slice (some a) n c) n xs) (hk : k ≤ n) : w.ownsRow base e 1 (.slice (some a) k c) k (xs.take k) := by
  obtain ⟨h1, h2⟩ := h
  refine ⟨by simp; omega, ?_⟩
  rcases h2 with ⟨h0, _⟩ | ⟨g, cap, cur, hv, hg, hb, hn, hcap, hcs, ht⟩
  · cases h0
  · injection hv with e1 e2 e3
    injection e1 with e1
    subst e1 e3
    refine .inr ⟨g, _, cur, rfl, hg, hb, by omega, hcap, hcs, ?_⟩
    rw [← ht, List.take_take]
    congr 1
    omega
/-- a row is kept where its block is -/
theorem own_block {w w' : World} {base : Nat} {e : TypeId} {size n : Nat} {v : Value} {xs : List Value} (h : w.ownsRow base e size v n xs) (hk : ∀ g, v.ownBlock = some g → w'.heap[g]? = w.heap[g]?) : w'.ownsRow base e size v n xs := by
  obtain ⟨h1, h2⟩ := h
  refine ⟨h1, ?_⟩
  rcases h2 with h2 | ⟨g, cap, cur, rfl, hg, hb, r⟩
  · exact .inl h2
  · exact .inr ⟨g, cap, cur, rfl, hg, (hk g rfl).trans hb, r⟩
theorem own_lt {w : World} {base : Nat} {e : TypeId} {size n : Nat} {v : Value} {xs : List Value} (h : w.ownsRow base e size v n xs) {g : Nat} (hg : v.ownBlock = some g) : base ≤ g ∧ g < w.heap.size := by
  rcases h.2 with ⟨rfl, _⟩ | ⟨g', cap, cur, rfl, hb, hh, _⟩
  · cases hg
  · cases hg
    exact ⟨hb, (Array.getElem?_eq_some_iff.1 hh).1⟩
theorem delete_any {B : Nat} {w : World} {v : Value} {l : List Int} (hown : OwnInts B w v l) {i : Nat} (hi : i < l.length) :
    Calls Try.prog 94 #[v, .int .i64 i, .int .i64 ((i : Int) + 1)] w fun e w' => ∃ v', e = .returned v' ∧ OwnInts B w' v' (l.eraseIdx i) ∧ w.grownBy w' v.ownBlock ∧ v'.ownBlock = v.ownBlock := by
  rcases hown.2 with ⟨_, h0⟩ | ⟨g, cap, cur, rfl, hg, hb, hn, hcap, hcs, ht⟩
  · omega
  · rw [Nat.mul_one] at ht
    have hH : Holds (Value.int .i64) w g 0 l.toArray := holds_of_blockI hb ht
    have H := Try.slices_Delete_int g 0 cap i (i + 1) l w hH hn (by unfold maxLen at hcap; omega) (by omega) (by omega)
    have e1 : (((i + 1 : Nat) : Int)) = (i : Int) + 1 := by omega
    rw [e1] at H
    refine H.mono ?_
    rintro e w' ⟨rfl, q, rfl⟩
    have hlen : l.length - (i + 1 - i) = (l.eraseIdx i).length := by rw [List.length_eraseIdx]; simp [hi]
    have hl : (l.take i ++ l.drop (i + 1) ++ List.replicate (i + 1 - i) 0).length = l.length := by simp; omega
    have ets : (l.take i ++ l.drop (i + 1) ++ List.replicate (i + 1 - i) 0).take (l.eraseIdx i).length = l.eraseIdx i := by
      rw [← List.eraseIdx_eq_take_drop_succ, List.take_left]
    have h1 := ownsRow_sortedI (n := q) (os := #[]) hl hg hb hn hcap hcs
    have h2 := grownBy_sortedI (w := w) (g := g) (n := q) (os := #[]) (l.take i ++ l.drop (i + 1) ++ List.replicate (i + 1 - i) 0).toArray
    have hz : ∀ w : World, grow w #[] = w := fun w => by simp [grow]
    rw [hz] at h1 h2
    have h3 := own_take h1 (k := l.length - (i + 1 - i)) (by omega)
    refine ⟨_, rfl, ?_, h2, rfl⟩
    unfold OwnInts
    rw [hlen] at h3 ⊢
    rw [← List.map_take, ets] at h3
    exact h3
#print axioms delete_any
end Go.Proofs.Ytpehbffkplmfjaa
