/- Contract of the laws' awake. -/
import Derived.Test.YthndplkjhbmfmaaRof
import Derived.Test.YthndplkjhbmfmaaRsa
namespace Go.Proofs.Ythndplkjhbmfmaa
open Go.RowKit
def awL : List RRule := [((1, [0]), [(false, (0, [0]))])]
def awF : List RAt := [(0, [3])]
theorem aw_var : ∀ r, r ∈ awL → r = ((1, [0]), [(false, (0, [0]))]) := fun r h => by simpa [awL] using h
theorem aw_val : ValR awL awF := by
  refine ⟨by decide, by decide, fun r hr => ?_, fun r hr => ?_, fun r hr => ?_, fun f hf => ?_, ?_⟩
  · rw [aw_var r hr]
    exact ⟨⟨by decide, by decide, by decide⟩, fun b hb => by
      have : b = (false, (0, [0])) := by simpa using hb
      subst this
      exact ⟨by decide, by decide, by decide⟩⟩
  · rw [aw_var r hr]; decide
  · rw [aw_var r hr]
    intro t h0 h8 ht
    have ht0 : t = 0 := by
      rcases ht with ht | ⟨b, hb, ht⟩
      · simpa using ht
      · have : b = (false, (0, [0])) := by simpa using hb
        subst this
        simpa using ht
    subst ht0
    exact ⟨(false, (0, [0])), by simp, rfl, by simp⟩
  · have : f = (0, [3]) := by simpa [awF] using hf
    subst this
    exact ⟨by decide, by decide, by decide⟩
  · intro o ho p hp e
    have h : ∀ o, o ∈ UseL awL ++ UseF awF → o.2 = 1 := fun o ho => by
      simp [UseL, UseR, UseF, awL, awF] at ho
      rcases ho with rfl | rfl | rfl <;> rfl
    rw [h o ho, h p hp]
theorem aw_sol : PSol awL [0, 0, 0, 0, 0, 0] := by
  refine ⟨fun i hi => ?_, fun r hr b hb => ?_⟩
  · match i, hi with
    | 0, _ | 1, _ | 2, _ | 3, _ | 4, _ | 5, _ => decide
  · rw [aw_var r hr] at hb ⊢
    have : b = (false, (0, [0])) := by simpa using hb
    subst this
    show atL [0, 0, 0, 0, 0, 0] 0 + nt false ≤ atL [0, 0, 0, 0, 0, 0] 1
    decide
theorem aw_no : ¬ NoStr awL := fun h => by
  obtain ⟨i, hi, h5⟩ := h _ aw_sol
  match i, hi with
  | 0, _ | 1, _ | 2, _ | 3, _ | 4, _ | 5, _ => exact absurd h5 (by decide)
theorem aw_str {L : List Int} (h : Str awL L) (i : Nat) (hi : i < 6) : L.getD i 0 = 0 := by
  have h1 := (h.sv.rng i hi).1
  have h2 := h.sv.low _ aw_sol i hi
  have h3 : ([0, 0, 0, 0, 0, 0] : List Int).getD i 0 = 0 := by
    match i, hi with
    | 0, _ | 1, _ | 2, _ | 3, _ | 4, _ | 5, _ => rfl
  omega
/-- its model -/
theorem aw_mod {L : List Int} (h : Str awL L) (f : RAt) : ModP awL awF L f ↔ f = (0, [3]) ∨ f = (1, [3]) := by
  have hin : ∀ s f, mlv awL L (fun f => f ∈ awF) s f → f = (0, [3]) ∨ f = (1, [3]) := by
    intro s
    induction s with
    | zero => intro f hf; exact .inl (by simpa [mlv, awF] using hf)
    | succ s ih =>
      intro f hf
      refine Cons.least (C := fun f => f = (0, [3]) ∨ f = (1, [3])) ih (fun r m h1 h2 h3 h4 => ?_) hf
      have hr := aw_var r h1.1
      subst hr
      have hb := h3 (false, (0, [0])) (by simp) rfl
      have e : gnd m ((0, [0]) : RAt) = (0, [numOf m 0]) := rfl
      rw [e] at hb
      have e2 : gnd m (((1, [0]), [(false, (0, [0]))]) : RRule).1 = (1, [numOf m 0]) := rfl
      rw [e2]
      rcases hb with hb | hb
      · injection hb with _ hb
        right; rw [hb]
      · injection hb with hb _
        exact absurd hb (by decide)
  refine ⟨hin 6 f, fun hf => ?_⟩
  have up : ∀ s f, mlv awL L (fun f => f ∈ awF) s f → mlv awL L (fun f => f ∈ awF) (s + 1) f := fun s f h => Cons.given h
  have h0 : mlv awL L (fun f => f ∈ awF) 0 (0, [3]) := by simp [mlv, awF]
  have h1 : mlv awL L (fun f => f ∈ awF) 1 (1, [3]) := by
    have := Cons.step (rs := fun r => r ∈ awL ∧ L.getD r.1.1.toNat 0 = ((0 : Nat) : Int)) (S := mlv awL L (fun f => f ∈ awF) 0) (K := mlv awL L (fun f => f ∈ awF) 0) (r := ((1, [0]), [(false, (0, [0]))])) (m := [3]) ⟨by simp [awL], by rw [aw_str h _ (by decide)]; rfl⟩ (fun t ht => by
      have ht0 : t = 0 := by
        rcases ht with ht | ⟨b, hb, ht⟩
        · simpa using ht
        · have : b = (false, (0, [0])) := by simpa using hb
          subst this
          simpa using ht
      subst ht0; decide) (fun b hb _ => by
      have : b = (false, (0, [0])) := by simpa using hb
      subst this
      exact .given h0) (fun b hb hn => by
      have : b = (false, (0, [0])) := by simpa using hb
      subst this
      cases hn)
    exact this
  rcases hf with rfl | rfl
  · exact up 5 _ (up 4 _ (up 3 _ (up 2 _ (up 1 _ (up 0 _ h0)))))
  · exact up 5 _ (up 4 _ (up 3 _ (up 2 _ (up 1 _ h1))))
theorem aw_srt {L : List Int} (h : Str awL L) : SrtF [(0, [3]), (1, [3])] (ModP awL awF L) := by
  refine ⟨fun f => by rw [aw_mod h]; simp, by simp [pcd], fun f hf => ?_⟩
  simp at hf
  rcases hf with rfl | rfl
  · exact ⟨by decide, by decide, by decide⟩
  · exact ⟨by decide, by decide, by decide⟩
theorem rd_lit {w : World} {b n s : Nat} {cs : Array Value} {t : TypeId} (h : w.heap[b]? = some (.cells cs t (0, 0))) (hn : cs.size = n * s) (hm : n ≤ 1000) : Rd w (.slice (some ⟨b, 0, none⟩) n n) s n cs.toList :=
  ⟨by rw [Array.length_toList]; exact hn, by unfold maxLen; omega, some ⟨b, 0, none⟩, b, 0, n, rfl, ⟨fun _ => rfl, Nat.le_refl _⟩, fun j hj => by
    rw [Nat.zero_add]
    refine aCell h j ?_
    rw [Array.length_toList] at hj
    rw [Array.getElem?_eq_getElem hj]; rfl⟩
/-- the memory of awake -/
theorem aw_mem (w : World) : ∃ W, W = (((((w.alloc (.cells #[.int .i64 0] 3)).alloc (.cells #[.int .i64 0] 3)).alloc (.cells #[.bool false, .int .i64 0, .slice (some ⟨w.heap.size + 1, 0, none⟩) 1 1] 100)).alloc
    (.cells #[.int .i64 1, .slice (some ⟨w.heap.size, 0, none⟩) 1 1, .slice (some ⟨w.heap.size + 1 + 1, 0, none⟩) 1 1] 98)).alloc (.cells #[.int .i64 3] 3)).alloc (.cells #[.int .i64 0, .slice (some ⟨w.heap.size + 1 + 1 + 1 + 1, 0, none⟩) 1 1] 50) ∧
    Rules W (.slice (some ⟨w.heap.size + 1 + 1 + 1, 0, none⟩) 1 1) awL ∧ Atoms W (.slice (some ⟨w.heap.size + 1 + 1 + 1 + 1 + 1, 0, none⟩) 1 1) awF ∧ Below w.heap.size w W := by
  obtain ⟨w1, hw1⟩ : ∃ x, x = w.alloc (.cells #[.int .i64 0] 3) := ⟨_, rfl⟩
  obtain ⟨w2, hw2⟩ : ∃ x, x = w1.alloc (.cells #[.int .i64 0] 3) := ⟨_, rfl⟩
  obtain ⟨w3, hw3⟩ : ∃ x, x = w2.alloc (.cells #[.bool false, .int .i64 0, .slice (some ⟨w.heap.size + 1, 0, none⟩) 1 1] 100) := ⟨_, rfl⟩
  obtain ⟨w4, hw4⟩ : ∃ x, x = w3.alloc (.cells #[.int .i64 1, .slice (some ⟨w.heap.size, 0, none⟩) 1 1, .slice (some ⟨w.heap.size + 1 + 1, 0, none⟩) 1 1] 98) := ⟨_, rfl⟩
  obtain ⟨w5, hw5⟩ : ∃ x, x = w4.alloc (.cells #[.int .i64 3] 3) := ⟨_, rfl⟩
  obtain ⟨w6, hw6⟩ : ∃ x, x = w5.alloc (.cells #[.int .i64 0, .slice (some ⟨w.heap.size + 1 + 1 + 1 + 1, 0, none⟩) 1 1] 50) := ⟨_, rfl⟩
  have s1 : w1.heap.size = w.heap.size + 1 := by rw [hw1]; exact Array.size_push _
  have s2 : w2.heap.size = w.heap.size + 1 + 1 := by rw [hw2]; exact (Array.size_push _).trans (by rw [s1])
  have s3 : w3.heap.size = w.heap.size + 1 + 1 + 1 := by rw [hw3]; exact (Array.size_push _).trans (by rw [s2])
  have s4 : w4.heap.size = w.heap.size + 1 + 1 + 1 + 1 := by rw [hw4]; exact (Array.size_push _).trans (by rw [s3])
  have s5 : w5.heap.size = w.heap.size + 1 + 1 + 1 + 1 + 1 := by rw [hw5]; exact (Array.size_push _).trans (by rw [s4])
  have b1 : Below w.heap.size w w1 := by rw [hw1]; exact below_alloc _ _
  have b2 : Below w1.heap.size w1 w2 := by rw [hw2]; exact below_alloc _ _
  have b3 : Below w2.heap.size w2 w3 := by rw [hw3]; exact below_alloc _ _
  have b4 : Below w3.heap.size w3 w4 := by rw [hw4]; exact below_alloc _ _
  have b5 : Below w4.heap.size w4 w5 := by rw [hw5]; exact below_alloc _ _
  have b6 : Below w5.heap.size w5 w6 := by rw [hw6]; exact below_alloc _ _
  have h0 := blk_keep2 (blk_keep2 (blk_keep2 (blk_keep2 (blk_keep2 (show w1.heap[w.heap.size]? = _ from by rw [hw1]; exact heap_alloc_new _ _) b2) b3) b4) b5) b6
  have h1 := blk_keep2 (blk_keep2 (blk_keep2 (blk_keep2 (show w2.heap[w.heap.size + 1]? = _ from by rw [hw2, ← s1]; exact heap_alloc_new _ _) b3) b4) b5) b6
  have h2 := blk_keep2 (blk_keep2 (blk_keep2 (show w3.heap[w.heap.size + 1 + 1]? = some (.cells #[.bool false, .int .i64 0, .slice (some ⟨w.heap.size + 1, 0, none⟩) 1 1] 100 (0, 0)) from by rw [hw3, ← s2]; exact heap_alloc_new _ _) b4) b5) b6
  have h3 := blk_keep2 (blk_keep2 (show w4.heap[w.heap.size + 1 + 1 + 1]? = some (.cells #[.int .i64 1, .slice (some ⟨w.heap.size, 0, none⟩) 1 1, .slice (some ⟨w.heap.size + 1 + 1, 0, none⟩) 1 1] 98 (0, 0)) from by rw [hw4, ← s3]; exact heap_alloc_new _ _) b5) b6
  have h4 := blk_keep2 (show w5.heap[w.heap.size + 1 + 1 + 1 + 1]? = _ from by rw [hw5, ← s4]; exact heap_alloc_new _ _) b6
  have h5 : w6.heap[w.heap.size + 1 + 1 + 1 + 1 + 1]? = some (.cells #[.int .i64 0, .slice (some ⟨w.heap.size + 1 + 1 + 1 + 1, 0, none⟩) 1 1] 50 (0, 0)) := by rw [hw6, ← s5]; exact heap_alloc_new _ _
  have i0 : Ints w6 (.slice (some ⟨w.heap.size, 0, none⟩) 1 1) [0] := rd_lit (s := 1) h0 rfl (by omega)
  have i1 : Ints w6 (.slice (some ⟨w.heap.size + 1, 0, none⟩) 1 1) [0] := rd_lit (s := 1) h1 rfl (by omega)
  have i4 : Ints w6 (.slice (some ⟨w.heap.size + 1 + 1 + 1 + 1, 0, none⟩) 1 1) [3] := rd_lit (s := 1) h4 rfl (by omega)
  refine ⟨w6, by rw [hw6, hw5, hw4, hw3, hw2, hw1], ?_, ?_, ?_⟩
  · refine ⟨[[.int .i64 1, .slice (some ⟨w.heap.size, 0, none⟩) 1 1, .slice (some ⟨w.heap.size + 1 + 1, 0, none⟩) 1 1]], rfl, fun i hi hi' => ?_, rd_lit (s := 3) h3 rfl (by omega)⟩
    obtain rfl : i = 0 := by simp [awL] at hi; exact hi
    refine ⟨⟨_, _, rfl, i0, ?_⟩, rfl⟩
    refine ⟨[[.bool false, .int .i64 0, .slice (some ⟨w.heap.size + 1, 0, none⟩) 1 1]], rfl, fun i hi hi' => ?_, rd_lit (s := 3) h2 rfl (by omega)⟩
    obtain rfl : i = 0 := by simp [awL] at hi; exact hi
    exact ⟨⟨_, rfl, i1⟩, rfl⟩
  · refine ⟨[.slice (some ⟨w.heap.size + 1 + 1 + 1 + 1, 0, none⟩) 1 1], rfl, rd_lit (s := 2) h5 rfl (by omega), fun i hi => ?_⟩
    obtain rfl : i = 0 := by simp [awF] at hi; exact hi
    exact i4
  · exact Below.tr (Below.tr (Below.tr (Below.tr (Below.tr b1 b2) b3) b4) b5) b6
/-- what it expects -/
theorem ex_mem (w : World) : ∃ W, W = ((w.alloc (.cells #[.int .i64 3] 3)).alloc (.cells #[.int .i64 3] 3)).alloc (.cells #[.int .i64 0, .slice (some ⟨w.heap.size, 0, none⟩) 1 1, .int .i64 1, .slice (some ⟨w.heap.size + 1, 0, none⟩) 1 1] 50) ∧
    Atoms W (.slice (some ⟨w.heap.size + 1 + 1, 0, none⟩) 2 2) [(0, [3]), (1, [3])] ∧ Below w.heap.size w W := by
  obtain ⟨w1, hw1⟩ : ∃ x, x = w.alloc (.cells #[.int .i64 3] 3) := ⟨_, rfl⟩
  obtain ⟨w2, hw2⟩ : ∃ x, x = w1.alloc (.cells #[.int .i64 3] 3) := ⟨_, rfl⟩
  obtain ⟨w3, hw3⟩ : ∃ x, x = w2.alloc (.cells #[.int .i64 0, .slice (some ⟨w.heap.size, 0, none⟩) 1 1, .int .i64 1, .slice (some ⟨w.heap.size + 1, 0, none⟩) 1 1] 50) := ⟨_, rfl⟩
  have s1 : w1.heap.size = w.heap.size + 1 := by rw [hw1]; exact Array.size_push _
  have s2 : w2.heap.size = w.heap.size + 1 + 1 := by rw [hw2]; exact (Array.size_push _).trans (by rw [s1])
  have b1 : Below w.heap.size w w1 := by rw [hw1]; exact below_alloc _ _
  have b2 : Below w1.heap.size w1 w2 := by rw [hw2]; exact below_alloc _ _
  have b3 : Below w2.heap.size w2 w3 := by rw [hw3]; exact below_alloc _ _
  have h0 := blk_keep2 (blk_keep2 (show w1.heap[w.heap.size]? = _ from by rw [hw1]; exact heap_alloc_new _ _) b2) b3
  have h1 := blk_keep2 (show w2.heap[w.heap.size + 1]? = _ from by rw [hw2, ← s1]; exact heap_alloc_new _ _) b3
  have h2 : w3.heap[w.heap.size + 1 + 1]? = some (.cells #[.int .i64 0, .slice (some ⟨w.heap.size, 0, none⟩) 1 1, .int .i64 1, .slice (some ⟨w.heap.size + 1, 0, none⟩) 1 1] 50 (0, 0)) := by rw [hw3, ← s2]; exact heap_alloc_new _ _
  have i0 : Ints w3 (.slice (some ⟨w.heap.size, 0, none⟩) 1 1) [3] := rd_lit (s := 1) h0 rfl (by omega)
  have i1 : Ints w3 (.slice (some ⟨w.heap.size + 1, 0, none⟩) 1 1) [3] := rd_lit (s := 1) h1 rfl (by omega)
  refine ⟨w3, by rw [hw3, hw2, hw1], ⟨[.slice (some ⟨w.heap.size, 0, none⟩) 1 1, .slice (some ⟨w.heap.size + 1, 0, none⟩) 1 1], rfl, rd_lit (s := 2) h2 rfl (by omega), fun i hi => ?_⟩, Below.tr (Below.tr b1 b2) b3⟩
  have hi : i < 2 := hi
  match i, hi with
  | 0, _ => exact i0
  | 1, _ => exact i1
set_option maxRecDepth 100000 in
set_option maxHeartbeats 8000000 in
theorem awake_any (w : World) : Calls Try.prog 22 #[] w fun e w' => e = .returned (.bool true) ∧ Below w.heap.size w w' := by
  obtain ⟨W, hW, hR, hA, hB⟩ := aw_mem w
  have HC := Lib.hid (Model_any awL awF _ _ W hR hA)
  have HW := Lib.hid hW
  have HB := Lib.hid hB
  clear hW hR hA hB
  go_enter Try.func22, Try.ntmps22
  go_wp2_with fail
  rw [← HW.out]
  refine HC.out.mono ?_
  clear HC HW
  rintro e w5 ⟨he, hb5⟩
  have HB5 := Lib.hid (Below.tr HB.out hb5)
  have he : ∃ (L : List Int) (a : Option Addr) (n c : Nat) (cs : List RAt), Str awL L ∧ e = .returned (.tuple #[.slice a n c, .int .i64 0]) ∧ OwnAtoms 50 W.heap.size w5 (.slice a n c) cs ∧ SrtF cs (ModP awL awF L) := by
    rcases he with ⟨h, _⟩ | ⟨_, h, _⟩ | ⟨_, h⟩
    · exact absurd aw_val h
    · exact absurd h aw_no
    · exact h
  obtain ⟨L, a, n, c, cs, hs, rfl, ho, hsr⟩ := he
  obtain rfl : cs = [(0, [3]), (1, [3])] := srtF_eq hsr (aw_srt hs)
  obtain ⟨W2, hW2, hE, hB2⟩ := ex_mem w5
  have HS := Lib.hid (same_any _ _ (.slice a n c) _ W2 (ho.atoms.keep hB2) hE true (by decide))
  have HW2 := Lib.hid hW2
  have HB6 := Lib.hid (Below.tr HB5.out hB2)
  clear hb5 hs ho hsr hW2 hE hB2
  go_wp2_with fail
  rw [← HW2.out]
  refine HS.out.mono ?_
  clear HS HW2
  rintro e w7 ⟨rfl, hb7⟩
  have HB7 := Lib.hid (Below.tr HB6.out hb7)
  clear hb7
  go_wp2_with fail
  go_ret
  exact ⟨rfl, HB7.out⟩
#print axioms awake_any
end Go.Proofs.Ythndplkjhbmfmaa
