/- Contracts of code, relOf, fact: facts as numbers. -/
import Derived.Test.YthndplkjhbmfmaaRva
import Derived.BigQuiet
namespace Go.Proofs.Ythndplkjhbmfmaa
open Go.RowKit
theorem w64 (x : Int) (h : -1000000 ≤ x ∧ x ≤ 1000000) : IntKind.i64.wrap x = x := IntWalk.i64_in _ ⟨by omega, by omega⟩
set_option maxRecDepth 100000 in
set_option maxHeartbeats 4000000 in
theorem code_any (f : RAt) (hf : FcR f) (v : Value) (w : World) (hv : Ints w v f.2) :
    Calls Try.prog 85 #[.agg #[.int .i64 f.1, v]] w fun e w' => e = .returned (.int .i64 (pcd f)) ∧ Below w.heap.size w w' := by
  rcases fc_cases hf with ⟨r, x, rfl, hr, hx⟩ | ⟨r, x, y, rfl, hr, hx, hy⟩
  · simp only at hv ⊢
    obtain ⟨a, b, off, cap, rfl, hle, hia, hc⟩ := Ints.get hv
    have hc0 := hc 0 (by simp)
    simp only [Nat.add_zero] at hc0
    have ha : a = some ⟨b, off, none⟩ := hia (by simp)
    subst ha
    obtain ⟨w1, hw1⟩ : ∃ x, x = w.alloc (.cells #[.int .i64 r, .slice (some ⟨b, off, none⟩) 1 cap] 50) := ⟨_, rfl⟩
    have hb1 : Below w.heap.size w w1 := by rw [hw1]; exact below_alloc _ _
    obtain ⟨bf, hbf⟩ : ∃ x, x = w.heap.size := ⟨_, rfl⟩
    have HG := Lib.hid (show w1.heap[bf]? = some (.cells #[.int .i64 r, .slice (some ⟨b, off, none⟩) 1 cap] 50 (0, 0)) from by rw [hw1, hbf]; exact heap_alloc_new _ _)
    have hc0 := Below.keep hb1 hc0
    have Hb1 := Lib.hid hb1
    have Hw1 := Lib.hid hw1
    have Hbf := Lib.hid hbf
    have g0 := aCell HG.out 0 rfl
    have g1 := aCell HG.out 1 rfl
    have e1 : IntKind.i64.wrap (r * 7) = r * 7 := w64 _ (by omega)
    have e2 : IntKind.i64.wrap (r * 7 + x) = r * 7 + x := w64 _ (by omega)
    have e3 : IntKind.i64.wrap ((r * 7 + x) * 7) = (r * 7 + x) * 7 := w64 _ (by omega)
    have R := Lib.hid (show (r * 7 + x) * 7 = pcd (r, [x]) from by simp [pcd]; omega)
    clear hv hc hia hw1 hb1 hbf hle
    go_enter Try.func85, Try.ntmps85
    go_upto_region 1 with fail
    rw [← Hw1.out, ← Hbf.out]
    clear Hw1
    go_quiet (fail)
    generalize hwd : World.drewN _ _ = w2 at *
    have Hb2 := Lib.hid (show Below w1.heap.size w1 w2 from by rw [← hwd]; exact ⟨rfl, rfl, rfl, Nat.le_refl _, fun _ _ => rfl⟩)
    have g0 := Below.keep Hb2.out g0
    have g1 := Below.keep Hb2.out g1
    clear hwd
    go_wp2_with fail
    go_ret
    exact ⟨by rw [← R.out]; rfl, Below.tr Hb1.out Hb2.out⟩
  · simp only at hv ⊢
    obtain ⟨a, b, off, cap, rfl, hle, hia, hc⟩ := Ints.get hv
    have hc0 := hc 0 (by simp)
    simp only [Nat.add_zero] at hc0
    have hc1 := hc 1 (by simp)
    have ha : a = some ⟨b, off, none⟩ := hia (by simp)
    subst ha
    obtain ⟨w1, hw1⟩ : ∃ x, x = w.alloc (.cells #[.int .i64 r, .slice (some ⟨b, off, none⟩) 2 cap] 50) := ⟨_, rfl⟩
    have hb1 : Below w.heap.size w w1 := by rw [hw1]; exact below_alloc _ _
    obtain ⟨bf, hbf⟩ : ∃ x, x = w.heap.size := ⟨_, rfl⟩
    have HG := Lib.hid (show w1.heap[bf]? = some (.cells #[.int .i64 r, .slice (some ⟨b, off, none⟩) 2 cap] 50 (0, 0)) from by rw [hw1, hbf]; exact heap_alloc_new _ _)
    have hc0 := Below.keep hb1 hc0
    have hc1 := Below.keep hb1 hc1
    have Hb1 := Lib.hid hb1
    have Hw1 := Lib.hid hw1
    have Hbf := Lib.hid hbf
    have g0 := aCell HG.out 0 rfl
    have g1 := aCell HG.out 1 rfl
    have e1 : IntKind.i64.wrap (r * 7) = r * 7 := w64 _ (by omega)
    have e2 : IntKind.i64.wrap (r * 7 + x) = r * 7 + x := w64 _ (by omega)
    have e3 : IntKind.i64.wrap ((r * 7 + x) * 7) = (r * 7 + x) * 7 := w64 _ (by omega)
    have e4 : IntKind.i64.wrap ((r * 7 + x) * 7 + y) = (r * 7 + x) * 7 + y := w64 _ (by omega)
    have R := Lib.hid (show (r * 7 + x) * 7 + y = pcd (r, [x, y]) from by simp [pcd]; omega)
    clear hv hc hia hw1 hb1 hbf hle
    go_enter Try.func85, Try.ntmps85
    go_upto_region 1 with fail
    rw [← Hw1.out, ← Hbf.out]
    clear Hw1
    go_quiet (fail)
    generalize hwd : World.drewN _ _ = w2 at *
    have Hb2 := Lib.hid (show Below w1.heap.size w1 w2 from by rw [← hwd]; exact ⟨rfl, rfl, rfl, Nat.le_refl _, fun _ _ => rfl⟩)
    have g0 := Below.keep Hb2.out g0
    have g1 := Below.keep Hb2.out g1
    have hc1 := Below.keep Hb2.out hc1
    clear hwd
    go_wp2_with fail
    go_ret
    exact ⟨by rw [← R.out]; rfl, Below.tr Hb1.out Hb2.out⟩
#print axioms code_any
theorem relOf_any (c : Int) (h : 0 ≤ c ∧ c < 294) (w : World) : Calls Try.prog 122 #[.int .i64 c] w fun e w' => e = .returned (.int .i64 (c / 49)) ∧ w' = w := by
  have e1 : c.tdiv 7 = c / 7 := Int.tdiv_eq_ediv_of_nonneg h.1
  have e2 : (c / 7).tdiv 7 = c / 49 := by rw [Int.tdiv_eq_ediv_of_nonneg (by omega)]; omega
  have w1 : IntKind.i64.wrap (c / 7) = c / 7 := w64 _ (by omega)
  have w2 : IntKind.i64.wrap (c / 49) = c / 49 := w64 _ (by omega)
  go_enter Try.func122, Try.ntmps122
  go_wp2_with fail
  go_ret
  exact ⟨rfl, rfl⟩
theorem own_setC {w : World} {base size n bo j : Nat} {e t : TypeId} {v x : Value} {xs : List Value} {cs : Array Value} {fr : Nat × Nat} (h : w.ownsRow base e size v n xs) (hb : w.heap[bo]? = some (.cells cs t fr)) (hne : t ≠ e) : (w.setCell ⟨bo, j, none⟩ x).ownsRow base e size v n xs :=
  own_block h fun g hg => heap_setCell_other w ⟨bo, j, none⟩ g x fun q => by
    rcases h.2 with ⟨rfl, _⟩ | ⟨g', cap, cur, rfl, _, hh, _⟩
    · cases hg
    · cases hg
      have q' : g' = bo := q
      subst q'
      rw [hb] at hh
      injection hh with hh
      injection hh with _ hh _
      exact hne hh
theorem ownsRow_set_below {w : World} {base size n : Nat} {e : TypeId} {v : Value} {xs : List Value} (h : w.ownsRow base e size v n xs) {b i : Nat} (hb : b < base) (x : Value) : (w.setCell ⟨b, i, none⟩ x).ownsRow base e size v n xs := ownsRow_setCell_below h hb x
set_option maxRecDepth 100000 in
set_option maxHeartbeats 8000000 in
theorem fact_any (f : RAt) (hf : FcR f) (c : Int) (hcd : c = pcd f) (w : World) :
    Calls Try.prog 127 #[.int .i64 c] w fun e w' => ∃ a n k, e = .returned (.agg #[.int .i64 f.1, .slice a n k]) ∧ OwnInts w.heap.size w' (.slice a n k) f.2 ∧ Below w.heap.size w w' := by
  have hrg := pcd_range hf
  rw [← hcd] at hrg
  obtain ⟨w1, hw1⟩ : ∃ x, x = w.alloc (.cells #[.int .i64 0, .slice none 0 0] 50) := ⟨_, rfl⟩
  have hb1 : Below w.heap.size w w1 := by rw [hw1]; exact below_alloc _ _
  obtain ⟨B, hB⟩ : ∃ x, x = w.heap.size := ⟨_, rfl⟩
  have z1 : w1.heap.size = B + 1 := by rw [hB, hw1]; simp
  have g1 : w1.heap[B]? = some (.cells #[.int .i64 0, .slice none 0 0] 50 (0, 0)) := by rw [hB, hw1]; exact heap_alloc_new _ _
  have HR := Lib.hid (relOf_any c hrg w1)
  have t7 : c.tdiv 7 = c / 7 := Int.tdiv_eq_ediv_of_nonneg hrg.1
  have m7 : (c / 7).tmod 7 = c / 7 % 7 := Int.tmod_eq_emod_of_nonneg (by omega)
  have n7 : c.tmod 7 = c % 7 := Int.tmod_eq_emod_of_nonneg hrg.1
  have w7 : IntKind.i64.wrap (c / 7) = c / 7 := w64 _ (by omega)
  have v7 : IntKind.i64.wrap (c / 7 % 7) = c / 7 % 7 := w64 _ (by omega)
  have u7 : IntKind.i64.wrap (c % 7) = c % 7 := w64 _ (by omega)
  have HB1 := Lib.hid hb1
  have Hw1 := Lib.hid hw1
  have HBe := Lib.hid hB
  have Hz1 := Lib.hid z1
  have HG1 := Lib.hid g1
  clear hb1 hw1 hB z1 g1 hrg
  rcases fc_cases hf with ⟨r, x, rfl, hr, hx⟩ | ⟨r, x, y, rfl, hr, hx, hy⟩
  · have ed : c / 49 = r := by rw [hcd]; simp [pcd]; omega
    have ex : c / 7 % 7 = x := by rw [hcd]; simp [pcd]; omega
    have ey : c % 7 = 0 := by rw [hcd]; simp [pcd]; omega
    rw [ed] at HR
    rw [ex] at m7 v7
    rw [ey] at n7 u7
    obtain ⟨w2, hw2⟩ : ∃ q, q = w1.alloc (.cells #[.int .i64 x] 3) := ⟨_, rfl⟩
    obtain ⟨w3, hw3⟩ : ∃ q, q = w2.alloc (.cells #[.int .i64 r, .slice (some ⟨B + 1, 0, none⟩) 1 1] 50) := ⟨_, rfl⟩
    have k2 : Below w1.heap.size w1 w2 := by rw [hw2]; exact below_alloc _ _
    have k3 : Below w2.heap.size w2 w3 := by rw [hw3]; exact below_alloc _ _
    have z2 : w2.heap.size = B + 2 := by rw [hw2]; have := Hz1.out; simp; omega
    have HF := Lib.hid (show w3.heap[B + 2]? = some (.cells #[.int .i64 r, .slice (some ⟨B + 1, 0, none⟩) 1 1] 50 (0, 0)) from by rw [← z2, hw3]; exact heap_alloc_new _ _)
    have HO := Lib.hid (show OwnInts (B + 1) w3 (.slice (some ⟨B + 1, 0, none⟩) 1 1) [x] from OwnInts.keep (by
      rw [hw2, ← Hz1.out]; exact World.ownsRow_lit w1 #[.int .i64 x] 1 (Nat.le_refl _) (by unfold maxLen; omega) rfl) k3)
    have HG3 := Lib.hid (blk_keep2 (blk_keep2 HG1.out k2) k3)
    have HB3 := Lib.hid (Below.tr HB1.out (Below.tr k2 k3))
    have hz3 : w3.heap.size = B + 3 := by rw [hw3]; simp; omega
    have Hw2 := Lib.hid hw2
    have Hw3 := Lib.hid hw3
    have Hz2 := Lib.hid z2
    have Hz3 := Lib.hid hz3
    clear hw2 hw3 k2 k3 z2 hz3 hcd ed ey
    go_enter Try.func127, Try.ntmps127
    go_upto_region 1 with fail
    rw [← Hw1.out, ← HBe.out]
    clear Hw1
    go_upto_region 2 with (first | (refine HR.out.mono ?_; rintro e wq ⟨rfl, rfl⟩))
    rw [← Hw2.out, Hz1.out, ← Hw3.out, show B + 1 + 1 = B + 2 from rfl]
    clear Hw2 Hw3 HR
    have c0 := aCell HF.out 0 rfl
    have c1 := aCell HF.out 1 rfl
    have r0 := aCell HG3.out 0 rfl
    have r1 := aCell HG3.out 1 rfl
    have f0 := frozen_of_row w3 _ 0 _ _ HG3.out
    have f1 := frozen_of_row w3 _ 1 _ _ HG3.out
    have HG := Lib.hid (show ((w3.setCell ⟨B, 0, none⟩ (.int .i64 r)).setCell ⟨B, 1, none⟩ (.slice (some ⟨B + 1, 0, none⟩) 1 1)).heap[B]? = some (.cells #[.int .i64 r, .slice (some ⟨B + 1, 0, none⟩) 1 1] 50 (0, 0)) from by
      rw [heap_setCell_same _ _ 1 _ _ _ (heap_setCell_same w3 _ 0 _ _ _ HG3.out)]; rfl)
    have HB := Lib.hid (show Below w.heap.size w ((w3.setCell ⟨B, 0, none⟩ (.int .i64 r)).setCell ⟨B, 1, none⟩ (.slice (some ⟨B + 1, 0, none⟩) 1 1)) from (HB3.out.setCell (by rw [← HBe.out]; exact Nat.le_refl _) _).setCell (by rw [← HBe.out]; exact Nat.le_refl _) _)
    have HO := Lib.hid (show OwnInts w.heap.size ((w3.setCell ⟨B, 0, none⟩ (.int .i64 r)).setCell ⟨B, 1, none⟩ (.slice (some ⟨B + 1, 0, none⟩) 1 1)) (.slice (some ⟨B + 1, 0, none⟩) 1 1) [x] from
      owns_base (ownsRow_set_below (ownsRow_set_below HO.out (Nat.lt_succ_self B) _) (Nat.lt_succ_self B) _) (by rw [← HBe.out]; exact Nat.le_succ B))
    go_wp2_with fail
    exact bodyPost_ret (results_cell_row Try.results127 _ _ B 50 _ (0, 0) _ rfl HG.out Try.underlying50 rfl (by kernel_rfl)) rfl ⟨_, _, _, rfl, HO.out, HB.out⟩
  · have ed : c / 49 = r := by rw [hcd]; simp [pcd]; omega
    have ex : c / 7 % 7 = x := by rw [hcd]; simp [pcd]; omega
    have ey : c % 7 = y := by rw [hcd]; simp [pcd]; omega
    rw [ed] at HR
    rw [ex] at m7 v7
    rw [ey] at n7 u7
    obtain ⟨w2, hw2⟩ : ∃ q, q = w1.alloc (.cells #[.int .i64 x] 3) := ⟨_, rfl⟩
    obtain ⟨w3, hw3⟩ : ∃ q, q = w2.alloc (.cells #[.int .i64 r, .slice (some ⟨B + 1, 0, none⟩) 1 1] 50) := ⟨_, rfl⟩
    have k2 : Below w1.heap.size w1 w2 := by rw [hw2]; exact below_alloc _ _
    have k3 : Below w2.heap.size w2 w3 := by rw [hw3]; exact below_alloc _ _
    have z2 : w2.heap.size = B + 2 := by rw [hw2]; have := Hz1.out; simp; omega
    have HF := Lib.hid (show w3.heap[B + 2]? = some (.cells #[.int .i64 r, .slice (some ⟨B + 1, 0, none⟩) 1 1] 50 (0, 0)) from by rw [← z2, hw3]; exact heap_alloc_new _ _)
    have HO := Lib.hid (show OwnInts (B + 1) w3 (.slice (some ⟨B + 1, 0, none⟩) 1 1) [x] from OwnInts.keep (by
      rw [hw2, ← Hz1.out]; exact World.ownsRow_lit w1 #[.int .i64 x] 1 (Nat.le_refl _) (by unfold maxLen; omega) rfl) k3)
    have HG3 := Lib.hid (blk_keep2 (blk_keep2 HG1.out k2) k3)
    have HB3 := Lib.hid (Below.tr HB1.out (Below.tr k2 k3))
    have hz3 : w3.heap.size = B + 3 := by rw [hw3]; simp; omega
    have Hw2 := Lib.hid hw2
    have Hw3 := Lib.hid hw3
    have Hz2 := Lib.hid z2
    have Hz3 := Lib.hid hz3
    clear hw2 hw3 k2 k3 z2 hz3 hcd ed ey
    go_enter Try.func127, Try.ntmps127
    go_upto_region 1 with fail
    rw [← Hw1.out, ← HBe.out]
    clear Hw1
    go_upto_region 2 with (first | (refine HR.out.mono ?_; rintro e wq ⟨rfl, rfl⟩))
    rw [← Hw2.out, Hz1.out, ← Hw3.out, show B + 1 + 1 = B + 2 from rfl]
    clear Hw2 Hw3 HR
    have y0 : y ≠ 0 := by omega
    generalize hsv : Value.slice (some ⟨B + 1, 0, none⟩) 1 1 = sv at *
    have hsv1 := hsv
    obtain ⟨sa, sn, sk, rfl⟩ := own_slice HO.out
    clear hsv hsv1
    obtain ⟨w4, hw4⟩ : ∃ q, q = w3.alloc (.cells #[.int .i64 y] 3) := ⟨_, rfl⟩
    have k4 : Below w3.heap.size w3 w4 := by rw [hw4]; exact below_alloc _ _
    have HL := Lib.hid (show w4.heap[B + 3]? = some (.cells #[.int .i64 y] 3 (0, 0)) from by rw [← Hz3.out, hw4]; exact heap_alloc_new _ _)
    have HO4 := Lib.hid (HO.out.keep k4)
    have HF4 := Lib.hid (blk_keep2 HF.out k4)
    have HG4 := Lib.hid (blk_keep2 HG3.out k4)
    have Hw4 := Lib.hid hw4
    have c1 := aCell HF.out 1 rfl
    have hz4 : B + 1 ≤ w4.heap.size := by have := Hz3.out; have := k4.size; omega
    clear hw4 k4
    have y1 : (y == 0) = false := beq_eq_false_iff_ne.2 y0
    go_upto_region 5 with (first | (at_builtin; rw [← Hw4.out, Hz3.out]; refine append_own rfl (.tmp 17) (.tmp 19) 23 rfl elemInts rfl HO4.out (m := 1) [.int .i64 y] rfl rfl (fun k y hk => aCell HL.out k (by simpa using hk)) (ints_oneCell [y]) (by show 1 + 1 ≤ 100000000000; omega) hz4 ?_; intro v5 w5 h51 h52 h53; obtain ⟨pa, pn, pk, rfl⟩ := row_slice h51; have HO5 := Lib.hid (show OwnInts (B + 1) w5 (.slice pa pn pk) [x, y] from h51); clear h51; have HFx := block_grown HO4.out h53 HF4.out (by decide); have k1 := cell_of_row w5 _ 1 _ _ _ HFx; have k2 := frozen_of_row w5 _ 1 _ _ HFx))
    have HF5 := Lib.hid (block_grown HO4.out h53 HF4.out (by decide))
    have HG5 := Lib.hid (block_grown HO4.out h53 HG4.out (by decide))
    have HB5 := Lib.hid (show Below w.heap.size w w5 from (HB3.out.trans ((show Below w3.heap.size w3 w4 from by rw [Hw4.out]; exact below_alloc _ _).mono HB3.out.size)).trans (h52.mono (by rw [← HBe.out]; exact Nat.le_succ B)))
    clear h52 h53 k1 k2 HFx c1
    have HF6 := Lib.hid (show (w5.setCell ⟨B + 2, 1, none⟩ (.slice pa pn pk)).heap[B + 2]? = some (.cells #[.int .i64 r, .slice pa pn pk] 50 (0, 0)) from by rw [heap_setCell_same w5 _ 1 _ _ _ HF5.out]; rfl)
    have HG6 := Lib.hid (show (w5.setCell ⟨B + 2, 1, none⟩ (.slice pa pn pk)).heap[B]? = some (.cells #[.int .i64 0, .slice none 0 0] 50 (0, 0)) from (heap_setCell_other w5 ⟨B + 2, 1, none⟩ B _ (by show B ≠ B + 2; omega)).trans HG5.out)
    have HB6 := Lib.hid (show Below w.heap.size w (w5.setCell ⟨B + 2, 1, none⟩ (.slice pa pn pk)) from HB5.out.setCell (by rw [← HBe.out]; exact Nat.le_add_right B 2) _)
    have HO6 := Lib.hid (show OwnInts (B + 1) (w5.setCell ⟨B + 2, 1, none⟩ (.slice pa pn pk)) (.slice pa pn pk) [x, y] from own_setC HO5.out HF5.out (by decide))
    generalize w5.setCell ⟨B + 2, 1, none⟩ (.slice pa pn pk) = w6 at *
    have c0 := aCell HF6.out 0 rfl
    have c1 := aCell HF6.out 1 rfl
    have r0 := aCell HG6.out 0 rfl
    have r1 := aCell HG6.out 1 rfl
    have f0 := frozen_of_row w6 _ 0 _ _ HG6.out
    have f1 := frozen_of_row w6 _ 1 _ _ HG6.out
    have HG := Lib.hid (show ((w6.setCell ⟨B, 0, none⟩ (.int .i64 r)).setCell ⟨B, 1, none⟩ (.slice pa pn pk)).heap[B]? = some (.cells #[.int .i64 r, .slice pa pn pk] 50 (0, 0)) from by
      rw [heap_setCell_same _ _ 1 _ _ _ (heap_setCell_same w6 _ 0 _ _ _ HG6.out)]; rfl)
    have HB := Lib.hid (show Below w.heap.size w ((w6.setCell ⟨B, 0, none⟩ (.int .i64 r)).setCell ⟨B, 1, none⟩ (.slice pa pn pk)) from (HB6.out.setCell (by rw [← HBe.out]; exact Nat.le_refl _) _).setCell (by rw [← HBe.out]; exact Nat.le_refl _) _)
    have HO := Lib.hid (show OwnInts w.heap.size ((w6.setCell ⟨B, 0, none⟩ (.int .i64 r)).setCell ⟨B, 1, none⟩ (.slice pa pn pk)) (.slice pa pn pk) [x, y] from
      owns_base (ownsRow_set_below (ownsRow_set_below HO6.out (Nat.lt_succ_self B) _) (Nat.lt_succ_self B) _) (by rw [← HBe.out]; exact Nat.le_succ B))
    go_wp2_with fail
    exact bodyPost_ret (results_cell_row Try.results127 _ _ B 50 _ (0, 0) _ rfl HG.out Try.underlying50 rfl (by kernel_rfl)) rfl ⟨_, _, _, rfl, HO.out, HB.out⟩
#print axioms fact_any
end Go.Proofs.Ythndplkjhbmfmaa
