/- Contracts of copyAtom and copyRule. Needed: math. The least set of relations that has one and is closed, as bits. Contract of Needed. -/
import Derived.Test.YthndplkjhbmfmaaRof
import Derived.Test.YthndplkjhbmfmaaRsm
import Derived.Test.YthndplkjhbmfmaaRvc
namespace Go.Proofs.Ythndplkjhbmfmaa
open Go.RowKit
set_option maxRecDepth 100000 in
set_option maxHeartbeats 8000000 in
theorem copyAtom_any (r : Int) (A : List Int) (u : Value) (w : World) (hu : Ints w u A) (hA : A.length ≤ 100) :
    Calls Try.prog 118 #[.agg #[.int .i64 r, u]] w fun e w' => ∃ a n c, e = .returned (.agg #[.int .i64 r, .slice a n c]) ∧ OwnInts w.heap.size w' (.slice a n c) A ∧ Below w.heap.size w w' := by
  obtain ⟨ua, uc, rfl⟩ := ints_slice hu
  have hm : A.length ≤ maxLen := hu.2.1
  unfold maxLen at hm
  obtain ⟨n, hn⟩ : ∃ x, x = A.length := ⟨_, rfl⟩
  have Hn := Lib.hid hn
  have Hv := Lib.hid hu
  obtain ⟨wa, hwa⟩ : ∃ x, x = w.alloc (.cells #[.int .i64 r, .slice ua n uc] 94) := ⟨_, rfl⟩
  obtain ⟨w1, hw1⟩ : ∃ x, x = wa.alloc (.cells #[.int .i64 0, .slice none 0 0] 94) := ⟨_, rfl⟩
  obtain ⟨b1, hb1⟩ : ∃ x, x = w.heap.size := ⟨_, rfl⟩
  obtain ⟨b2, hb2⟩ : ∃ x, x = w.heap.size + 1 := ⟨_, rfl⟩
  have hba : Below w.heap.size w wa := by rw [hwa]; exact below_alloc _ _
  have hbb : Below wa.heap.size wa w1 := by rw [hw1]; exact below_alloc _ _
  have hsa : wa.heap.size = w.heap.size + 1 := by rw [hwa]; exact Array.size_push _
  have HB1 := Lib.hid (Below.tr hba hbb)
  have HX1 := Lib.hid (show w1.heap[b1]? = some (.cells #[.int .i64 r, .slice ua n uc] 94 (0, 0)) from blk_keep2 (by rw [hwa, hb1]; exact heap_alloc_new _ _) hbb)
  have HX2 := Lib.hid (show w1.heap[b2]? = some (.cells #[.int .i64 0, .slice none 0 0] 94 (0, 0)) from by rw [hw1, hb2, ← hsa]; exact heap_alloc_new _ _)
  have Hwa := Lib.hid hwa
  have Hw1 := Lib.hid hw1
  have Hb1 := Lib.hid hb1
  have Hb2 := Lib.hid hb2
  have Hb2l := Lib.hid (show w.heap.size ≤ b2 from by omega)
  rw [← hn] at hm Hv ⊢
  have HI := Lib.hid (show Ints w1 (.slice ua n uc) A from (Hv.out.keep (Below.tr hba hbb)))
  have hlA : A.length ≤ 1000000 := by omega
  clear hu hn hwa hw1 hb1 hb2 hba hbb hsa
  go_enter Try.func118, Try.ntmps118
  go_upto_region 1 with fail
  rw [← Hwa.out, ← Hw1.out, ← Hb2.out, ← Hb1.out]
  clear Hwa Hw1
  have HB0 := Lib.hid (show Below w.heap.size w w1.drew from HB1.out.drew)
  have HI0 := Lib.hid (show Ints w1.drew (.slice ua n uc) A from HI.out)
  have HS0 := Lib.hid (show w1.drew.heap[b1]? = some (.cells #[.int .i64 r, .slice ua n uc] 94 (0, 0)) from HX1.out)
  have HX0 := Lib.hid (show w1.drew.heap[b2]? = some (.cells #[.int .i64 0, .slice none 0 0] 94 (0, 0)) from HX2.out)
  refine wp_region_held (S := fun w' => w'.heap[b1]? = some (.cells #[.int .i64 r, .slice ua n uc] 94 (0, 0))) wideK ?_
  change wpAnyH _ _ _ _ _ _ _ _ (World.drew _)
  generalize w1.drew = wd0 at *
  refine wpAnyH_take (i := 0) (v := ?_) rfl (by kernel_rfl) (by kernel_rfl) (by kernel_rfl) (fun _ _ _ h => h) (Or.inl ⟨by rfl, ?_⟩) HS0.out ?_
  rotate_left
  focus (intro w hS; clear hS; first | (go_simp; done) | (go_simp; with_reducible rfl))
  simp only [Act.put, List.getElem_toArray, List.getElem_cons_zero, List.setIfInBounds_toArray, List.set_cons_zero, List.set_cons_succ]
  refine wpAnyH_take (i := 1) (v := ?_) rfl (by kernel_rfl) (by kernel_rfl) (by kernel_rfl) (fun _ _ _ h => h) (Or.inl ⟨by rfl, ?_⟩) HS0.out ?_
  rotate_left
  focus (intro w hS; have s0 := aCell hS 0 rfl; clear hS; first | (go_simp; done) | (go_simp; with_reducible rfl))
  simp only [Act.put, List.getElem_toArray, List.getElem_cons_zero, List.getElem_cons_succ, List.setIfInBounds_toArray, List.set_cons_zero, List.set_cons_succ]
  refine wpAnyH_take (i := 2) (v := ?_) rfl (by kernel_rfl) (by kernel_rfl) (by kernel_rfl) (fun _ _ _ h => h) (Or.inl ⟨by rfl, ?_⟩) HS0.out ?_
  rotate_left
  focus (intro w hS; clear hS; first | (go_simp; done) | (go_simp; with_reducible rfl))
  simp only [Act.put, List.getElem_toArray, List.getElem_cons_zero, List.getElem_cons_succ, List.setIfInBounds_toArray, List.set_cons_zero, List.set_cons_succ]
  refine wpAnyH_take (i := 3) (v := ?_) rfl (by kernel_rfl) (by kernel_rfl) (by kernel_rfl) (fun _ _ _ h => h) (Or.inl ⟨by rfl, ?_⟩) HS0.out ?_
  rotate_left
  focus (intro w hS; have s1 := aCell hS 1 rfl; clear hS; first | (go_simp; done) | (go_simp; with_reducible rfl))
  simp only [Act.put, List.getElem_toArray, List.getElem_cons_zero, List.getElem_cons_succ, List.setIfInBounds_toArray, List.set_cons_zero, List.set_cons_succ]
  refine wpAnyH_ready (rs := [4]) (by kernel_rfl) (by simp) ?_
  refine RdyH.cons rfl (fun K2 hK => ?_) RdyH.nil
  go_simp
  go_at_call 90
  refine (cloneI_any _ _ _ hlA HI0.out).mono ?_
  rintro e w6 ⟨v1, rfl, ho, hb⟩
  obtain ⟨x, y, z, rfl⟩ := own_slice ho
  have Ho := Lib.hid ho
  have HS1 := Lib.hid (blk_keep2 HS0.out hb)
  have HX6 := Lib.hid (blk_keep2 HX0.out hb)
  have HB6 := Lib.hid (Below.tr HB0.out hb)
  have Hz0 := Lib.hid HB0.out.size
  have Hlt := Lib.hid (show b2 < wd0.heap.size from (Array.getElem?_eq_some_iff.1 HX0.out).1)
  clear ho hb
  go_simp
  refine hK _ _ HS1.out ?_
  clear hK K2
  refine wpAnyH_take (i := 5) (v := ?_) rfl (by kernel_rfl) (by kernel_rfl) (by kernel_rfl) (fun _ _ _ h => h) (Or.inl ⟨by rfl, ?_⟩) HS1.out ?_
  rotate_left
  focus (intro w hS; clear hS; first | (go_simp; done) | (go_simp; with_reducible rfl))
  simp only [Act.put, List.getElem_toArray, List.getElem_cons_zero, List.getElem_cons_succ, List.setIfInBounds_toArray, List.set_cons_zero, List.set_cons_succ]
  refine wpAnyH_ready (rs := [6]) (by kernel_rfl) (by simp) ?_
  refine RdyH.cons rfl (fun K2 hK => ?_) RdyH.nil
  refine step_store_row rfl 94 (.tmp 2) (.tmp 8) rfl b2 #[.int .i64 r, .slice x y z] rfl rfl 94 _ HX6.out sizeAt rfl (oneAt _) ?_
  have HX9 := Lib.hid (setRow_heap w6 b2 _ #[.int .i64 r, .slice x y z] _ _ HX6.out)
  have HB9 := Lib.hid (below_setRow (b := b2) HB6.out Hb2l.out #[.int .i64 r, .slice x y z])
  have HO9 := Lib.hid (show OwnInts w.heap.size (w6.setRow b2 #[.int .i64 r, .slice x y z]) (.slice x y z) A from by
    refine own_block (owns_mono Ho.out Hz0.out) fun k hk => ?_
    have := (own_lt Ho.out hk).1
    exact setRow_other w6 b2 k _ (by have := Hlt.out; omega))
  have HS9 := Lib.hid (show (w6.setRow b2 #[.int .i64 r, .slice x y z]).heap[b1]? = some (.cells #[.int .i64 r, .slice ua n uc] 94 (0, 0)) from (setRow_other w6 b2 b1 _ (by have := Hb1.out; have := Hb2.out; omega)).trans HS1.out)
  generalize w6.setRow b2 #[.int .i64 r, .slice x y z] = w9 at *
  refine hK _ _ HS9.out ?_
  clear hK K2
  refine wpAnyH_done (by kernel_rfl) ?_ _
  go_wp2_with fail
  refine bodyPost_ret (results_cell_row Try.results118 _ _ b2 94 _ (0, 0) _ rfl HX9.out Try.underlying94 rfl (by kernel_rfl)) rfl ?_
  exact ⟨x, y, z, rfl, HO9.out, HB9.out⟩
theorem sizeRu : (Try.prog.info? 98).map (·.size) = some 3 := by kernel_rfl
theorem oneRu (x : Int) {a b : Option Addr} {n c m d : Nat} : (#[Value.int .i64 x, .slice a n c, .slice b m d] : Array Value).all (·.oneCell') = true := by
  rw [Array.all_eq_true_iff_forall_mem]
  intro u hu
  simp at hu
  rcases hu with rfl | rfl | rfl <;> rfl
set_option maxRecDepth 100000 in
set_option maxHeartbeats 16000000 in
theorem copyRule_any (hr : Int) (A : List Int) (bd : List RLit) (u v : Value) (w : World) (hui : Ints w u A) (hvi : Lits w v bd) (h100 : bd.length ≤ 100) (hA : A.length ≤ 100) (hB : ∀ j, j < bd.length → (lL bd j).2.2.length ≤ 100) :
    Calls Try.prog 65 #[.agg #[.int .i64 hr, u, v]] w fun e w' => ∃ ha hn hc va vn vc, e = .returned (.agg #[.int .i64 hr, .slice ha hn hc, .slice va vn vc]) ∧ OwnInts w.heap.size w' (.slice ha hn hc) A ∧ OLit w.heap.size w' (.slice va vn vc) bd ∧ Below w.heap.size w w' := by
  obtain ⟨ua, uc, rfl⟩ := ints_slice hui
  obtain ⟨va, vc, rfl⟩ := RdS.slice hvi
  obtain ⟨un, hun⟩ : ∃ x, x = A.length := ⟨_, rfl⟩
  obtain ⟨bn, hbn⟩ : ∃ x, x = bd.length := ⟨_, rfl⟩
  have Hbn := Lib.hid hbn
  have hbn100 : bn ≤ 100 := by omega
  have HAl := Lib.hid hA
  have HBl := Lib.hid hB
  clear hA hB
  rw [← hun] at hui ⊢
  rw [← hbn] at hvi ⊢
  obtain ⟨wa, hwa⟩ : ∃ x, x = w.alloc (.cells #[.int .i64 hr, .slice ua un uc, .slice va bn vc] 98) := ⟨_, rfl⟩
  obtain ⟨w3, hw3⟩ : ∃ x, x = wa.alloc (.cells #[.int .i64 0, .slice none 0 0, .slice none 0 0] 98) := ⟨_, rfl⟩
  have hba : Below w.heap.size w wa := by rw [hwa]; exact below_alloc _ _
  have hbb : Below wa.heap.size wa w3 := by rw [hw3]; exact below_alloc _ _
  have hsa : wa.heap.size = w.heap.size + 1 := by rw [hwa]; exact Array.size_push _
  obtain ⟨b5, hb5⟩ : ∃ x, x = w.heap.size := ⟨_, rfl⟩
  obtain ⟨b4, hb4⟩ : ∃ x, x = w.heap.size + 1 := ⟨_, rfl⟩
  have HX := Lib.hid (show w3.heap[b5]? = some (.cells #[.int .i64 hr, .slice ua un uc, .slice va bn vc] 98 (0, 0)) from blk_keep2 (by rw [hwa, hb5]; exact heap_alloc_new _ _) hbb)
  have HZ := Lib.hid (show w3.heap[b4]? = some (.cells #[.int .i64 0, .slice none 0 0, .slice none 0 0] 98 (0, 0)) from by rw [hw3, hb4, ← hsa]; exact heap_alloc_new _ _)
  have Hb3 := Lib.hid (Below.tr hba hbb)
  have Hui := Lib.hid (hui.keep Hb3.out)
  have Hvi := Lib.hid (hvi.keep Hb3.out)
  have H4g := Lib.hid (show w.heap.size ≤ b4 from by omega)
  have Hwa := Lib.hid hwa
  have Hw3 := Lib.hid hw3
  have Hb5 := Lib.hid hb5
  have Hb4 := Lib.hid hb4
  clear hui hvi hwa hw3 hba hbb hsa hb5 hb4 hun hbn
  go_enter Try.func65, Try.ntmps65
  go_upto_region 1 with fail
  rw [← Hwa.out, ← Hw3.out, ← Hb4.out, ← Hb5.out]
  clear Hwa Hw3
  have g0 := aCell HX.out 0 rfl
  have g1 := aCell HX.out 1 rfl
  have HC := Lib.hid (copyAtom_any hr A (.slice ua un uc) w3 Hui.out HAl.out)
  go_upto_region 2 with (first | (refine HC.out.mono ?_; clear HC; rintro e w4 ⟨ha, hn2, hc4, rfl, hhi, hb4⟩))
  obtain ⟨w5, hw5⟩ : ∃ x, x = w4.alloc (.cells #[.int .i64 hr, .slice ha hn2 hc4, .slice none 0 0] 98) := ⟨_, rfl⟩
  have hb5 : Below w4.heap.size w4 w5 := by rw [hw5]; exact below_alloc _ _
  obtain ⟨bx, hbx⟩ : ∃ x, x = w4.heap.size := ⟨_, rfl⟩
  have HXb := Lib.hid (show w5.heap[bx]? = some (.cells #[.int .i64 hr, .slice ha hn2 hc4, .slice none 0 0] 98 (0, 0)) from by rw [hw5, hbx]; exact heap_alloc_new _ _)
  have Hbxg := Lib.hid (show w3.heap.size ≤ bx from by rw [hbx]; exact hb4.size)
  have HH5 := Lib.hid (hhi.keep hb5)
  have HB5 := Lib.hid (Below.tr hb4 hb5)
  have HXk := Lib.hid (blk_keep2 (blk_keep2 HX.out hb4) hb5)
  have Hw5 := Lib.hid hw5
  have Hbx := Lib.hid hbx
  rw [← Hw5.out, ← Hbx.out]
  clear hhi hb4 hw5 hb5 hbx g0 g1 HX
  clear Hw5
  have g2 := aCell HXk.out 2 rfl
  obtain ⟨a6, b6, off6, cap6, he6, hvl, hia6, _, hcs6⟩ := Lits.get Hvi.out
  rw [← Hbn.out] at he6 hvl hia6 hcs6
  injection he6 with e1 e2 e3
  subst e1 e3
  have Hix6 := Lib.hid (run_ix (P := Try.prog) (t := 96) (a := va) (len := bn) (cap := vc) (b := b6) (off := off6) (s := 3) Try.underlying96 (by intro w; kernel_rfl) hia6)
  have Hc6 := Lib.hid hcs6
  have Hvl := Lib.hid hvl
  clear hia6 hcs6 e2
  go_wp2_with fail
  clear g2
  go_loopw [13] (fun vi wr => ∃ (j : Nat) (pa : Option Addr) (pn pc : Nat), vi = .int .i64 j ∧ j ≤ bn ∧ wr.heap[bx]? = some (.cells #[.int .i64 hr, .slice ha hn2 hc4, .slice pa pn pc] 98 (0, 0)) ∧ OwnInts w3.heap.size wr (.slice ha hn2 hc4) A ∧ OLit w3.heap.size wr (.slice pa pn pc) (bd.take j) ∧ Below w3.heap.size w3 wr) (fun vi _ => bn - (intOf vi).toNat)
  case atStart => exact ⟨0, none, 0, 0, rfl, Nat.zero_le _, HXb.out, HH5.out, ownS_nil _ _ _ _, HB5.out⟩
  case round =>
    clear HXb HH5 HB5 HXk
    generalize wr = wy at *
    obtain ⟨j, pa, pn, pc, rfl, hj, hx, hh, hl, hb⟩ := hrel
    have HX := Lib.hid hx
    have HH := Lib.hid hh
    have HL := Lib.hid hl
    have HB := Lib.hid hb
    clear hx hh hl hb
    by_cases hjl : j < bn
    · obtain ⟨xa, xc, hd0, hd1, hd2, hxi⟩ := Hc6.out j hjl
      have hd0 := Below.keep HB.out hd0
      have hd1 := Below.keep HB.out hd1
      have hd2 := Below.keep HB.out hd2
      have hixj := Hix6.out j
      have hj2 : j < bd.length := by rw [← Hbn.out]; exact hjl
      have HT5 := Lib.hid (show bd.take (j + 1) = bd.take j ++ [lL bd j] from by
        rw [List.take_succ_eq_append_getElem hj2, lL_get hj2])
      have HXl := Lib.hid (HBl.out j hj2)
      obtain ⟨⟨N, s, X⟩, hx⟩ : ∃ x, x = lL bd j := ⟨_, rfl⟩
      rw [← hx] at hd0 hd1 hd2 hxi HT5 HXl
      simp only at hd0 hd1 hd2 hxi
      obtain ⟨xn, hxn⟩ : ∃ x, x = X.length := ⟨_, rfl⟩
      rw [← hxn] at hd2 hxi
      obtain ⟨w7, hw7⟩ : ∃ x, x = wy.alloc (.cells #[.bool N, .int .i64 s, .slice xa xn xc] 100) := ⟨_, rfl⟩
      have hb7 : Below wy.heap.size wy w7 := by rw [hw7]; exact below_alloc _ _
      obtain ⟨b8, hb8⟩ : ∃ x, x = wy.heap.size := ⟨_, rfl⟩
      have H8 := Lib.hid (show w7.heap[b8]? = some (.cells #[.bool N, .int .i64 s, .slice xa xn xc] 100 (0, 0)) from by rw [hw7, hb8]; exact heap_alloc_new _ _)
      have HX7 := Lib.hid (blk_keep2 HX.out hb7)
      have HH7 := Lib.hid (HH.out.keep hb7)
      have HL7 := Lib.hid (HL.out.keep hb7)
      have HB7 := Lib.hid (Below.tr HB.out hb7)
      have Hxi := Lib.hid ((hxi.keep HB.out).keep hb7)
      have Hn8 := Lib.hid (show bx ≠ b8 from by have := (Array.getElem?_eq_some_iff.1 HX.out).1; omega)
      have HNb := Lib.hid (show some b8 ≠ (Value.slice pa pn pc).ownBlock from fun e => by
        obtain ⟨_, _, _, h3⟩ := HL.out
        have := (own_lt h3 e.symm).2
        omega)
      have Hw7 := Lib.hid hw7
      have Hb8 := Lib.hid hb8
      clear hx hxn hxi hw7 hb7 hb8 hj2
      go_upto_region 5 with fail
      rw [← Hw7.out, ← Hb8.out]
      clear Hw7 hd0 hd1 hd2 hixj
      have HB0 := Lib.hid (show Below w3.heap.size w3 w7.drew from HB7.out.drew)
      have HX0 := Lib.hid (show w7.drew.heap[bx]? = some (.cells #[.int .i64 hr, .slice ha hn2 hc4, .slice pa pn pc] 98 (0, 0)) from HX7.out)
      have HS0 := Lib.hid (show w7.drew.heap[b8]? = some (.cells #[.bool N, .int .i64 s, .slice xa xn xc] 100 (0, 0)) from H8.out)
      have HH0 := Lib.hid (show OwnInts w3.heap.size w7.drew (.slice ha hn2 hc4) A from HH7.out)
      have HL0 := Lib.hid (show OLit w3.heap.size w7.drew (.slice pa pn pc) (bd.take j) from HL7.out)
      have HI0 := Lib.hid (show Ints w7.drew (.slice xa xn xc) X from Hxi.out)
      refine wp_region_held (S := fun w' => w'.heap[b8]? = some (.cells #[.bool N, .int .i64 s, .slice xa xn xc] 100 (0, 0))) wideK ?_
      change wpAnyH _ _ _ _ _ _ _ _ (World.drew _)
      generalize w7.drew = wd0 at *
      refine wpAnyH_take (i := 0) (v := ?_) rfl (by kernel_rfl) (by kernel_rfl) (by kernel_rfl) (fun _ _ _ h => h) (Or.inl ⟨by rfl, ?_⟩) HS0.out ?_
      rotate_left
      focus (intro w hS; clear hS; first | (go_simp; done) | (go_simp; with_reducible rfl))
      simp only [Act.put, List.getElem_toArray, List.getElem_cons_zero, List.setIfInBounds_toArray, List.set_cons_zero, List.set_cons_succ]
      refine wpAnyH_take (i := 2) (v := ?_) rfl (by kernel_rfl) (by kernel_rfl) (by kernel_rfl) (fun _ _ _ h => h) (Or.inl ⟨by rfl, ?_⟩) HS0.out ?_
      rotate_left
      focus (intro w hS; clear hS; first | (go_simp; done) | (go_simp; with_reducible rfl))
      simp only [Act.put, List.getElem_toArray, List.getElem_cons_zero, List.getElem_cons_succ, List.setIfInBounds_toArray, List.set_cons_zero, List.set_cons_succ]
      refine wpAnyH_take (i := 3) (v := ?_) rfl (by kernel_rfl) (by kernel_rfl) (by kernel_rfl) (fun _ _ _ h => h) (Or.inl ⟨by rfl, ?_⟩) HS0.out ?_
      rotate_left
      focus (intro w hS; have s0 := aCell hS 0 rfl; clear hS; first | (go_simp; done) | (go_simp; with_reducible rfl))
      simp only [Act.put, List.getElem_toArray, List.getElem_cons_zero, List.getElem_cons_succ, List.setIfInBounds_toArray, List.set_cons_zero, List.set_cons_succ]
      refine wpAnyH_take (i := 4) (v := ?_) rfl (by kernel_rfl) (by kernel_rfl) (by kernel_rfl) (fun _ _ _ h => h) (Or.inl ⟨by rfl, ?_⟩) HS0.out ?_
      rotate_left
      focus (intro w hS; clear hS; first | (go_simp; done) | (go_simp; with_reducible rfl))
      simp only [Act.put, List.getElem_toArray, List.getElem_cons_zero, List.getElem_cons_succ, List.setIfInBounds_toArray, List.set_cons_zero, List.set_cons_succ]
      refine wpAnyH_take (i := 5) (v := ?_) rfl (by kernel_rfl) (by kernel_rfl) (by kernel_rfl) (fun _ _ _ h => h) (Or.inl ⟨by rfl, ?_⟩) HS0.out ?_
      rotate_left
      focus (intro w hS; have s1 := aCell hS 1 rfl; have s2 := aCell hS 2 rfl; clear hS; first | (go_simp; done) | (go_simp; with_reducible rfl))
      simp only [Act.put, List.getElem_toArray, List.getElem_cons_zero, List.getElem_cons_succ, List.setIfInBounds_toArray, List.set_cons_zero, List.set_cons_succ]
      refine wpAnyH_ready (rs := [1, 6]) (by kernel_rfl) (by simp) ?_
      refine RdyH.cons rfl (fun K2 hK => ?_) ?_
      · have gx2 := aCell HX0.out 2 rfl
        go_simp
        refine hK _ _ HS0.out ?_
        clear hK K2 gx2
        refine wpAnyH_ready (rs := [6]) (by kernel_rfl) (by simp) ?_
        refine RdyH.cons rfl (fun K2 hK => ?_) RdyH.nil
        go_simp
        go_at_call 118
        refine (copyAtom_any s X (.slice xa xn xc) wd0 HI0.out HXl.out).mono ?_
        rintro e wd1 ⟨y1, y2, y3, rfl, hy, hb⟩
        have HB1 := Lib.hid (Below.tr HB0.out hb)
        have HX1 := Lib.hid (blk_keep2 HX0.out hb)
        have HS1 := Lib.hid (blk_keep2 HS0.out hb)
        have HH1 := Lib.hid (HH0.out.keep hb)
        have HL1 := Lib.hid (HL0.out.keep hb)
        have HI1 := Lib.hid (HI0.out.keep hb)
        have HY := Lib.hid (hy.base HB0.out.size)
        clear hy hb
        go_simp
        refine hK _ _ HS1.out ?_
        clear hK K2
        refine wpAnyH_take (i := 7) (v := ?_) rfl (by kernel_rfl) (by kernel_rfl) (by kernel_rfl) (fun _ _ _ h => h) (Or.inl ⟨by rfl, ?_⟩) HS1.out ?_
        rotate_left
        focus (intro w hS; clear hS; first | (go_simp; done) | (go_simp; with_reducible rfl))
        simp only [Act.put, List.getElem_toArray, List.getElem_cons_zero, List.getElem_cons_succ, List.setIfInBounds_toArray, List.set_cons_zero, List.set_cons_succ]
        refine wpAnyH_ready (rs := [8]) (by kernel_rfl) (by simp) ?_
        refine RdyH.cons rfl (fun K2 hK => ?_) RdyH.nil
        obtain ⟨wd2, hwd⟩ : ∃ x, x = wd1.alloc (.cells #[.bool N, .int .i64 s, .slice y1 y2 y3] 100) := ⟨_, rfl⟩
        have hb : Below wd1.heap.size wd1 wd2 := by rw [hwd]; exact below_alloc _ _
        obtain ⟨bm, hbm⟩ : ∃ x, x = wd1.heap.size := ⟨_, rfl⟩
        have HK := Lib.hid (show wd2.heap[bm]? = some (.cells #[.bool N, .int .i64 s, .slice y1 y2 y3] 100 (0, 0)) from by rw [hwd, hbm]; exact heap_alloc_new _ _)
        have HB2 := Lib.hid (Below.tr HB1.out hb)
        have HX2 := Lib.hid (blk_keep2 HX1.out hb)
        have HS2 := Lib.hid (blk_keep2 HS1.out hb)
        have HH2 := Lib.hid (HH1.out.keep hb)
        have HL2 := Lib.hid (HL1.out.keep hb)
        have HI2 := Lib.hid (HI1.out.keep hb)
        have HY2 := Lib.hid (HY.out.keep hb)
        go_simp
        rw [← hwd, ← hbm]
        clear hwd hbm hb
        refine hK _ _ HS2.out ?_
        clear hK K2
        refine wpAnyH_ready (rs := [9]) (by kernel_rfl) (by simp) ?_
        refine RdyH.cons rfl (fun K2 hK => ?_) RdyH.nil
        obtain ⟨cs, s1, s2, s3⟩ := HL2.out
        have hl2 : (bd.take j).length + 1 ≤ 100000000000 := by rw [List.length_take]; omega
        refine step_append_own_g rfl (.tmp 18) (.tmp 25) 96 rfl elemLits rfl s3 (m := 1) [.bool N, .int .i64 s, .slice y1 y2 y3] rfl rfl (fun k y hk => aCell HK.out k (by simpa using hk)) (by intro u hu; simp at hu; rcases hu with rfl | rfl | rfl <;> rfl) hl2 HB2.out.size ?_
        intro v9 wd3 h1 h2 h3
        have hapI : ∀ b n u (xs : List Value), wd2.ownsRow b 3 1 u n xs → u.ownBlock = none ∨ u.ownBlock ≠ (Value.slice pa pn pc).ownBlock := fun b n u xs h => rows_apart h s3 (by decide)
        have HL3 := Lib.hid (show OLit w3.heap.size wd3 v9 (bd.take (j + 1)) from by
          rw [HT5.out]
          refine ownS_snoc s1 (fun i h h' => ⟨?_, (s2 i h h').2⟩) ?_ rfl h1
          · obtain ⟨⟨u, e, k1⟩, _⟩ := s2 i h h'
            exact ⟨u, e, World.ownsRow.kept k1 h3 (hapI _ _ _ _ k1)⟩
          · exact ⟨_, rfl, World.ownsRow.kept HY2.out h3 (hapI _ _ _ _ HY2.out)⟩)
        have HH3 := Lib.hid (show OwnInts w3.heap.size wd3 (.slice ha hn2 hc4) A from World.ownsRow.kept HH2.out h3 (hapI _ _ _ _ HH2.out))
        have hbx' := block_grown s3 h3 HX2.out (by decide)
        have hb8' := (h3.block b8 (Array.getElem?_eq_some_iff.1 HS2.out).1 HNb.out).trans HS2.out
        have HX3 := Lib.hid hbx'
        have HS3 := Lib.hid hb8'
        have HB3 := Lib.hid (HB2.out.trans h2)
        obtain ⟨za, zn, zc, rfl⟩ := row_slice h1
        clear s1 s2 s3 h1 h2 h3 hapI hbx' hb8' hl2
        refine hK _ _ HS3.out ?_
        clear hK K2
        refine wpAnyH_take (i := 10) (v := ?_) rfl (by kernel_rfl) (by kernel_rfl) (by kernel_rfl) (fun _ _ _ h => h) (Or.inl ⟨by rfl, ?_⟩) HS3.out ?_
        rotate_left
        focus (intro w hS; clear hS; first | (go_simp; done) | (go_simp; with_reducible rfl))
        simp only [Act.put, List.getElem_toArray, List.getElem_cons_zero, List.getElem_cons_succ, List.setIfInBounds_toArray, List.set_cons_zero, List.set_cons_succ]
        refine wpAnyH_ready (rs := [11]) (by kernel_rfl) (by simp) ?_
        refine RdyH.cons rfl (fun K2 hK => ?_) RdyH.nil
        have x1 := aCell HX3.out 2 rfl
        have x2 := frozen_of_row wd3 bx 2 _ _ HX3.out
        have hb8' := (heap_setCell_other wd3 ⟨bx, 2, none⟩ b8 (.slice za zn zc) Hn8.out.symm).trans HS3.out
        have HS4 := Lib.hid hb8'
        have hgr := grown_setCell wd3 bx 2 (.slice za zn zc)
        have HX4 := Lib.hid (show (wd3.setCell ⟨bx, 2, none⟩ (.slice za zn zc)).heap[bx]? = some (.cells #[.int .i64 hr, .slice ha hn2 hc4, .slice za zn zc] 98 (0, 0)) from by rw [heap_setCell_same wd3 bx 2 _ _ (.slice za zn zc) HX3.out]; rfl)
        have HH4 := Lib.hid (show OwnInts w3.heap.size (wd3.setCell ⟨bx, 2, none⟩ (.slice za zn zc)) (.slice ha hn2 hc4) A from World.ownsRow.kept HH3.out hgr (int_apart (by decide) HX3.out _ _ _ _ HH3.out))
        have HL4 := Lib.hid (HL3.out.apart hgr (lit_apart (by decide) HX3.out HL3.out) fun b n u A h => int_apart (by decide) HX3.out _ _ _ _ h)
        have HB4 := Lib.hid (show Below w3.heap.size w3 (wd3.setCell ⟨bx, 2, none⟩ (.slice za zn zc)) from HB3.out.trans ⟨rfl, rfl, rfl, by simp, fun k hk => heap_setCell_other wd3 ⟨bx, 2, none⟩ k _ (by show k ≠ bx; have := Hbxg.out; omega)⟩)
        clear hgr
        go_simp
        refine hK _ _ hb8' ?_
        clear hK K2 x1 x2 hb8'
        generalize wd3.setCell ⟨bx, 2, none⟩ (.slice za zn zc) = wd4 at *
        refine wpAnyH_done (by kernel_rfl) ?_ _
        go_wp2_with fail
        go_roundw
        case rel => exact ⟨j + 1, za, zn, zc, by go_num, by omega, HX4.out, HH4.out, HL4.out, HB4.out⟩
        case measure => simp [intOf]; omega
      · refine RdyH.cons rfl (fun K2 hK => ?_) RdyH.nil
        go_simp
        go_at_call 118
        refine (copyAtom_any s X (.slice xa xn xc) wd0 HI0.out HXl.out).mono ?_
        rintro e wd1 ⟨y1, y2, y3, rfl, hy, hb⟩
        have HB1 := Lib.hid (Below.tr HB0.out hb)
        have HX1 := Lib.hid (blk_keep2 HX0.out hb)
        have HS1 := Lib.hid (blk_keep2 HS0.out hb)
        have HH1 := Lib.hid (HH0.out.keep hb)
        have HL1 := Lib.hid (HL0.out.keep hb)
        have HI1 := Lib.hid (HI0.out.keep hb)
        have HY := Lib.hid (hy.base HB0.out.size)
        clear hy hb
        go_simp
        refine hK _ _ HS1.out ?_
        clear hK K2
        refine wpAnyH_take (i := 7) (v := ?_) rfl (by kernel_rfl) (by kernel_rfl) (by kernel_rfl) (fun _ _ _ h => h) (Or.inl ⟨by rfl, ?_⟩) HS1.out ?_
        rotate_left
        focus (intro w hS; clear hS; first | (go_simp; done) | (go_simp; with_reducible rfl))
        simp only [Act.put, List.getElem_toArray, List.getElem_cons_zero, List.getElem_cons_succ, List.setIfInBounds_toArray, List.set_cons_zero, List.set_cons_succ]
        refine wpAnyH_ready (rs := [1, 8]) (by kernel_rfl) (by simp) ?_
        refine RdyH.cons rfl (fun K2 hK => ?_) ?_
        · have gx2 := aCell HX1.out 2 rfl
          go_simp
          refine hK _ _ HS1.out ?_
          clear hK K2 gx2
          refine wpAnyH_ready (rs := [8]) (by kernel_rfl) (by simp) ?_
          refine RdyH.cons rfl (fun K2 hK => ?_) RdyH.nil
          obtain ⟨wd2, hwd⟩ : ∃ x, x = wd1.alloc (.cells #[.bool N, .int .i64 s, .slice y1 y2 y3] 100) := ⟨_, rfl⟩
          have hb : Below wd1.heap.size wd1 wd2 := by rw [hwd]; exact below_alloc _ _
          obtain ⟨bm, hbm⟩ : ∃ x, x = wd1.heap.size := ⟨_, rfl⟩
          have HK := Lib.hid (show wd2.heap[bm]? = some (.cells #[.bool N, .int .i64 s, .slice y1 y2 y3] 100 (0, 0)) from by rw [hwd, hbm]; exact heap_alloc_new _ _)
          have HB2 := Lib.hid (Below.tr HB1.out hb)
          have HX2 := Lib.hid (blk_keep2 HX1.out hb)
          have HS2 := Lib.hid (blk_keep2 HS1.out hb)
          have HH2 := Lib.hid (HH1.out.keep hb)
          have HL2 := Lib.hid (HL1.out.keep hb)
          have HI2 := Lib.hid (HI1.out.keep hb)
          have HY2 := Lib.hid (HY.out.keep hb)
          go_simp
          rw [← hwd, ← hbm]
          clear hwd hbm hb
          refine hK _ _ HS2.out ?_
          clear hK K2
          refine wpAnyH_ready (rs := [9]) (by kernel_rfl) (by simp) ?_
          refine RdyH.cons rfl (fun K2 hK => ?_) RdyH.nil
          obtain ⟨cs, s1, s2, s3⟩ := HL2.out
          have hl2 : (bd.take j).length + 1 ≤ 100000000000 := by rw [List.length_take]; omega
          refine step_append_own_g rfl (.tmp 18) (.tmp 25) 96 rfl elemLits rfl s3 (m := 1) [.bool N, .int .i64 s, .slice y1 y2 y3] rfl rfl (fun k y hk => aCell HK.out k (by simpa using hk)) (by intro u hu; simp at hu; rcases hu with rfl | rfl | rfl <;> rfl) hl2 HB2.out.size ?_
          intro v9 wd3 h1 h2 h3
          have hapI : ∀ b n u (xs : List Value), wd2.ownsRow b 3 1 u n xs → u.ownBlock = none ∨ u.ownBlock ≠ (Value.slice pa pn pc).ownBlock := fun b n u xs h => rows_apart h s3 (by decide)
          have HL3 := Lib.hid (show OLit w3.heap.size wd3 v9 (bd.take (j + 1)) from by
            rw [HT5.out]
            refine ownS_snoc s1 (fun i h h' => ⟨?_, (s2 i h h').2⟩) ?_ rfl h1
            · obtain ⟨⟨u, e, k1⟩, _⟩ := s2 i h h'
              exact ⟨u, e, World.ownsRow.kept k1 h3 (hapI _ _ _ _ k1)⟩
            · exact ⟨_, rfl, World.ownsRow.kept HY2.out h3 (hapI _ _ _ _ HY2.out)⟩)
          have HH3 := Lib.hid (show OwnInts w3.heap.size wd3 (.slice ha hn2 hc4) A from World.ownsRow.kept HH2.out h3 (hapI _ _ _ _ HH2.out))
          have hbx' := block_grown s3 h3 HX2.out (by decide)
          have hb8' := (h3.block b8 (Array.getElem?_eq_some_iff.1 HS2.out).1 HNb.out).trans HS2.out
          have HX3 := Lib.hid hbx'
          have HS3 := Lib.hid hb8'
          have HB3 := Lib.hid (HB2.out.trans h2)
          obtain ⟨za, zn, zc, rfl⟩ := row_slice h1
          clear s1 s2 s3 h1 h2 h3 hapI hbx' hb8' hl2
          refine hK _ _ HS3.out ?_
          clear hK K2
          refine wpAnyH_take (i := 10) (v := ?_) rfl (by kernel_rfl) (by kernel_rfl) (by kernel_rfl) (fun _ _ _ h => h) (Or.inl ⟨by rfl, ?_⟩) HS3.out ?_
          rotate_left
          focus (intro w hS; clear hS; first | (go_simp; done) | (go_simp; with_reducible rfl))
          simp only [Act.put, List.getElem_toArray, List.getElem_cons_zero, List.getElem_cons_succ, List.setIfInBounds_toArray, List.set_cons_zero, List.set_cons_succ]
          refine wpAnyH_ready (rs := [11]) (by kernel_rfl) (by simp) ?_
          refine RdyH.cons rfl (fun K2 hK => ?_) RdyH.nil
          have x1 := aCell HX3.out 2 rfl
          have x2 := frozen_of_row wd3 bx 2 _ _ HX3.out
          have hb8' := (heap_setCell_other wd3 ⟨bx, 2, none⟩ b8 (.slice za zn zc) Hn8.out.symm).trans HS3.out
          have HS4 := Lib.hid hb8'
          have hgr := grown_setCell wd3 bx 2 (.slice za zn zc)
          have HX4 := Lib.hid (show (wd3.setCell ⟨bx, 2, none⟩ (.slice za zn zc)).heap[bx]? = some (.cells #[.int .i64 hr, .slice ha hn2 hc4, .slice za zn zc] 98 (0, 0)) from by rw [heap_setCell_same wd3 bx 2 _ _ (.slice za zn zc) HX3.out]; rfl)
          have HH4 := Lib.hid (show OwnInts w3.heap.size (wd3.setCell ⟨bx, 2, none⟩ (.slice za zn zc)) (.slice ha hn2 hc4) A from World.ownsRow.kept HH3.out hgr (int_apart (by decide) HX3.out _ _ _ _ HH3.out))
          have HL4 := Lib.hid (HL3.out.apart hgr (lit_apart (by decide) HX3.out HL3.out) fun b n u A h => int_apart (by decide) HX3.out _ _ _ _ h)
          have HB4 := Lib.hid (show Below w3.heap.size w3 (wd3.setCell ⟨bx, 2, none⟩ (.slice za zn zc)) from HB3.out.trans ⟨rfl, rfl, rfl, by simp, fun k hk => heap_setCell_other wd3 ⟨bx, 2, none⟩ k _ (by show k ≠ bx; have := Hbxg.out; omega)⟩)
          clear hgr
          go_simp
          refine hK _ _ hb8' ?_
          clear hK K2 x1 x2 hb8'
          generalize wd3.setCell ⟨bx, 2, none⟩ (.slice za zn zc) = wd4 at *
          refine wpAnyH_done (by kernel_rfl) ?_ _
          go_wp2_with fail
          go_roundw
          case rel => exact ⟨j + 1, za, zn, zc, by go_num, by omega, HX4.out, HH4.out, HL4.out, HB4.out⟩
          case measure => simp [intOf]; omega
        · refine RdyH.cons rfl (fun K2 hK => ?_) RdyH.nil
          obtain ⟨wd2, hwd⟩ : ∃ x, x = wd1.alloc (.cells #[.bool N, .int .i64 s, .slice y1 y2 y3] 100) := ⟨_, rfl⟩
          have hb : Below wd1.heap.size wd1 wd2 := by rw [hwd]; exact below_alloc _ _
          obtain ⟨bm, hbm⟩ : ∃ x, x = wd1.heap.size := ⟨_, rfl⟩
          have HK := Lib.hid (show wd2.heap[bm]? = some (.cells #[.bool N, .int .i64 s, .slice y1 y2 y3] 100 (0, 0)) from by rw [hwd, hbm]; exact heap_alloc_new _ _)
          have HB2 := Lib.hid (Below.tr HB1.out hb)
          have HX2 := Lib.hid (blk_keep2 HX1.out hb)
          have HS2 := Lib.hid (blk_keep2 HS1.out hb)
          have HH2 := Lib.hid (HH1.out.keep hb)
          have HL2 := Lib.hid (HL1.out.keep hb)
          have HI2 := Lib.hid (HI1.out.keep hb)
          have HY2 := Lib.hid (HY.out.keep hb)
          go_simp
          rw [← hwd, ← hbm]
          clear hwd hbm hb
          refine hK _ _ HS2.out ?_
          clear hK K2
          refine wpAnyH_ready (rs := [1]) (by kernel_rfl) (by simp) ?_
          refine RdyH.cons rfl (fun K2 hK => ?_) RdyH.nil
          have gx2 := aCell HX2.out 2 rfl
          go_simp
          refine hK _ _ HS2.out ?_
          clear hK K2 gx2
          refine wpAnyH_ready (rs := [9]) (by kernel_rfl) (by simp) ?_
          refine RdyH.cons rfl (fun K2 hK => ?_) RdyH.nil
          obtain ⟨cs, s1, s2, s3⟩ := HL2.out
          have hl2 : (bd.take j).length + 1 ≤ 100000000000 := by rw [List.length_take]; omega
          refine step_append_own_g rfl (.tmp 18) (.tmp 25) 96 rfl elemLits rfl s3 (m := 1) [.bool N, .int .i64 s, .slice y1 y2 y3] rfl rfl (fun k y hk => aCell HK.out k (by simpa using hk)) (by intro u hu; simp at hu; rcases hu with rfl | rfl | rfl <;> rfl) hl2 HB2.out.size ?_
          intro v9 wd3 h1 h2 h3
          have hapI : ∀ b n u (xs : List Value), wd2.ownsRow b 3 1 u n xs → u.ownBlock = none ∨ u.ownBlock ≠ (Value.slice pa pn pc).ownBlock := fun b n u xs h => rows_apart h s3 (by decide)
          have HL3 := Lib.hid (show OLit w3.heap.size wd3 v9 (bd.take (j + 1)) from by
            rw [HT5.out]
            refine ownS_snoc s1 (fun i h h' => ⟨?_, (s2 i h h').2⟩) ?_ rfl h1
            · obtain ⟨⟨u, e, k1⟩, _⟩ := s2 i h h'
              exact ⟨u, e, World.ownsRow.kept k1 h3 (hapI _ _ _ _ k1)⟩
            · exact ⟨_, rfl, World.ownsRow.kept HY2.out h3 (hapI _ _ _ _ HY2.out)⟩)
          have HH3 := Lib.hid (show OwnInts w3.heap.size wd3 (.slice ha hn2 hc4) A from World.ownsRow.kept HH2.out h3 (hapI _ _ _ _ HH2.out))
          have hbx' := block_grown s3 h3 HX2.out (by decide)
          have hb8' := (h3.block b8 (Array.getElem?_eq_some_iff.1 HS2.out).1 HNb.out).trans HS2.out
          have HX3 := Lib.hid hbx'
          have HS3 := Lib.hid hb8'
          have HB3 := Lib.hid (HB2.out.trans h2)
          obtain ⟨za, zn, zc, rfl⟩ := row_slice h1
          clear s1 s2 s3 h1 h2 h3 hapI hbx' hb8' hl2
          refine hK _ _ HS3.out ?_
          clear hK K2
          refine wpAnyH_take (i := 10) (v := ?_) rfl (by kernel_rfl) (by kernel_rfl) (by kernel_rfl) (fun _ _ _ h => h) (Or.inl ⟨by rfl, ?_⟩) HS3.out ?_
          rotate_left
          focus (intro w hS; clear hS; first | (go_simp; done) | (go_simp; with_reducible rfl))
          simp only [Act.put, List.getElem_toArray, List.getElem_cons_zero, List.getElem_cons_succ, List.setIfInBounds_toArray, List.set_cons_zero, List.set_cons_succ]
          refine wpAnyH_ready (rs := [11]) (by kernel_rfl) (by simp) ?_
          refine RdyH.cons rfl (fun K2 hK => ?_) RdyH.nil
          have x1 := aCell HX3.out 2 rfl
          have x2 := frozen_of_row wd3 bx 2 _ _ HX3.out
          have hb8' := (heap_setCell_other wd3 ⟨bx, 2, none⟩ b8 (.slice za zn zc) Hn8.out.symm).trans HS3.out
          have HS4 := Lib.hid hb8'
          have hgr := grown_setCell wd3 bx 2 (.slice za zn zc)
          have HX4 := Lib.hid (show (wd3.setCell ⟨bx, 2, none⟩ (.slice za zn zc)).heap[bx]? = some (.cells #[.int .i64 hr, .slice ha hn2 hc4, .slice za zn zc] 98 (0, 0)) from by rw [heap_setCell_same wd3 bx 2 _ _ (.slice za zn zc) HX3.out]; rfl)
          have HH4 := Lib.hid (show OwnInts w3.heap.size (wd3.setCell ⟨bx, 2, none⟩ (.slice za zn zc)) (.slice ha hn2 hc4) A from World.ownsRow.kept HH3.out hgr (int_apart (by decide) HX3.out _ _ _ _ HH3.out))
          have HL4 := Lib.hid (HL3.out.apart hgr (lit_apart (by decide) HX3.out HL3.out) fun b n u A h => int_apart (by decide) HX3.out _ _ _ _ h)
          have HB4 := Lib.hid (show Below w3.heap.size w3 (wd3.setCell ⟨bx, 2, none⟩ (.slice za zn zc)) from HB3.out.trans ⟨rfl, rfl, rfl, by simp, fun k hk => heap_setCell_other wd3 ⟨bx, 2, none⟩ k _ (by show k ≠ bx; have := Hbxg.out; omega)⟩)
          clear hgr
          go_simp
          refine hK _ _ hb8' ?_
          clear hK K2 x1 x2 hb8'
          generalize wd3.setCell ⟨bx, 2, none⟩ (.slice za zn zc) = wd4 at *
          refine wpAnyH_done (by kernel_rfl) ?_ _
          go_wp2_with fail
          go_roundw
          case rel => exact ⟨j + 1, za, zn, zc, by go_num, by omega, HX4.out, HH4.out, HL4.out, HB4.out⟩
          case measure => simp [intOf]; omega
    · obtain rfl : bn = j := by omega
      have HLe := Lib.hid (show OLit w.heap.size wy (.slice pa pn pc) bd from by
        have := HL.out
        rw [Hbn.out, List.take_length] at this; exact this.mono Hb3.out.size)
      have HHe := Lib.hid (show OwnInts w.heap.size wy (.slice ha hn2 hc4) A from HH.out.base Hb3.out.size)
      have HBw := Lib.hid (show Below w.heap.size w wy from Below.tr Hb3.out HB.out)
      have HZ8 := Lib.hid (show wy.heap[b4]? = some (.cells #[.int .i64 0, .slice none 0 0, .slice none 0 0] 98 (0, 0)) from blk_keep2 HZ.out HB.out)
      have Hlt := Lib.hid (show b4 < w3.heap.size from (Array.getElem?_eq_some_iff.1 HZ.out).1)
      have gx0 := aCell HX.out 0 rfl
      have gx1 := aCell HX.out 1 rfl
      have gx2 := aCell HX.out 2 rfl
      have HX9 := Lib.hid (setRow_heap wy b4 _ #[.int .i64 hr, .slice ha hn2 hc4, .slice pa pn pc] _ _ HZ8.out)
      have HB9 := Lib.hid (below_setRow (b := b4) HBw.out H4g.out #[.int .i64 hr, .slice ha hn2 hc4, .slice pa pn pc])
      have hap : ∀ k, w3.heap.size ≤ k → k < wy.heap.size → (wy.setRow b4 #[.int .i64 hr, .slice ha hn2 hc4, .slice pa pn pc]).heap[k]? = wy.heap[k]? := fun k hk _ => setRow_other wy b4 k _ (by have := Hlt.out; omega)
      have HH9 := Lib.hid (show OwnInts w.heap.size (wy.setRow b4 #[.int .i64 hr, .slice ha hn2 hc4, .slice pa pn pc]) (.slice ha hn2 hc4) A from by
        refine own_block HHe.out fun k hk => ?_
        have := own_lt HH.out hk
        exact hap k this.1 this.2)
      have HL9 := Lib.hid (show OLit w.heap.size (wy.setRow b4 #[.int .i64 hr, .slice ha hn2 hc4, .slice pa pn pc]) (.slice pa pn pc) bd from by
        have hh := HL.out
        rw [Hbn.out, List.take_length] at hh
        obtain ⟨cs, h1, h2, h3⟩ := hh
        refine ⟨cs, h1, fun i a b => ⟨?_, (h2 i a b).2⟩, ?_⟩
        · obtain ⟨⟨u, e, k⟩, _⟩ := h2 i a b
          refine ⟨u, e, own_block (k.base Hb3.out.size) fun k2 hk => ?_⟩
          have := own_lt k hk
          exact hap k2 this.1 this.2
        · refine own_block (owns_mono h3 Hb3.out.size) fun k hk => ?_
          have := own_lt h3 hk
          exact hap k this.1 this.2)
      clear hap
      go_wp2_with (first | (refine wpList_store_row rfl 98 (.tmp 2) (.tmp 29) rfl b4 #[.int .i64 hr, .slice ha hn2 hc4, .slice pa pn pc] rfl rfl 98 _ HZ8.out sizeRu rfl (oneRu _) ?_))
      generalize wy.setRow b4 #[.int .i64 hr, .slice ha hn2 hc4, .slice pa pn pc] = w9 at *
      refine bodyPost_ret (results_cell_row Try.results65 _ _ b4 98 _ (0, 0) _ rfl HX9.out Try.underlying98 rfl (by kernel_rfl)) rfl ?_
      exact ⟨ha, hn2, hc4, pa, pn, pc, rfl, HH9.out, HL9.out, HB9.out⟩
#print axioms copyRule_any
/-- a set of relations is closed under the rules -/
def CloS (l : List RRule) (D : Nat → Prop) : Prop := ∀ r, r ∈ l → D r.1.1.toNat → ∀ b, b ∈ r.2 → D b.2.1.toNat
def bitS (R : Nat) (i : Nat) : Prop := R.testBit i = true
/-- the needed relations: the least closed set that has q -/
structure NeedS (l : List RRule) (q : Nat) (D : Nat → Prop) : Prop where
  has : D q
  clo : CloS l D
  low : ∀ E : Nat → Prop, E q → CloS l E → ∀ i, D i → E i
theorem NeedS.unique {l : List RRule} {q : Nat} {D E : Nat → Prop} (h : NeedS l q D) (k : NeedS l q E) (i : Nat) : D i ↔ E i := ⟨h.low E k.has k.clo i, k.low D h.has h.clo i⟩
theorem NeedS.congr {l : List RRule} {q : Nat} {D E : Nat → Prop} (h : NeedS l q D) (e : ∀ i, D i ↔ E i) : NeedS l q E := by
  have : D = E := funext fun i => propext (e i)
  exact this ▸ h
def c1 (R i : Nat) : Nat := if R.testBit i = true then 1 else 0
def cnt6 (R : Nat) : Nat := c1 R 0 + c1 R 1 + c1 R 2 + c1 R 3 + c1 R 4 + c1 R 5
theorem c1_le (R i : Nat) : c1 R i ≤ 1 := by unfold c1; split <;> omega
theorem cnt6_le (R : Nat) : cnt6 R ≤ 6 := by
  have := c1_le R 0; have := c1_le R 1; have := c1_le R 2; have := c1_le R 3; have := c1_le R 4; have := c1_le R 5
  unfold cnt6; omega
theorem bit_or (R t i : Nat) : (R ||| 2 ^ t).testBit i = true ↔ R.testBit i = true ∨ t = i := by
  rw [Nat.testBit_or, Bool.or_eq_true, Nat.testBit_two_pow, decide_eq_true_eq]
theorem or_same {R t : Nat} (h : R.testBit t = true) : R ||| 2 ^ t = R := by
  refine Nat.eq_of_testBit_eq fun i => ?_
  have := bit_or R t i
  by_cases e : R.testBit i = true
  · rw [e]; exact this.2 (.inl e)
  · have e2 : ¬ (R ||| 2 ^ t).testBit i = true := fun k => by
      rcases this.1 k with k | k
      · exact e k
      · exact e (k ▸ h)
    rw [Bool.not_eq_true] at e e2
    rw [e, e2]
theorem c1_or (R t i : Nat) : c1 R i ≤ c1 (R ||| 2 ^ t) i := by
  unfold c1
  by_cases e : R.testBit i = true
  · rw [if_pos e, if_pos ((bit_or R t i).2 (.inl e))]; exact Nat.le_refl _
  · rw [if_neg e]; exact Nat.zero_le _
theorem c1_new {R t : Nat} (h : ¬ R.testBit t = true) : c1 R t < c1 (R ||| 2 ^ t) t := by
  unfold c1
  rw [if_neg h, if_pos ((bit_or R t t).2 (.inr rfl))]; omega
theorem cnt6_or (R t : Nat) : cnt6 R ≤ cnt6 (R ||| 2 ^ t) := by
  have := c1_or R t 0; have := c1_or R t 1; have := c1_or R t 2; have := c1_or R t 3; have := c1_or R t 4; have := c1_or R t 5
  unfold cnt6; omega
theorem cnt6_new {R t : Nat} (ht : t < 6) (h : ¬ R.testBit t = true) : cnt6 R < cnt6 (R ||| 2 ^ t) := by
  have := c1_or R t 0; have := c1_or R t 1; have := c1_or R t 2; have := c1_or R t 3; have := c1_or R t 4; have := c1_or R t 5
  have hn := c1_new h
  unfold cnt6
  match t, ht with
  | 0, _ => omega
  | 1, _ => omega
  | 2, _ => omega
  | 3, _ => omega
  | 4, _ => omega
  | 5, _ => omega
/-- all rules before the k-th, and of it the first j literals, have been met -/
def UpN (R : Nat) (l : List RRule) (k j : Nat) : Prop := (∀ r, r ∈ l.take k → bitS R r.1.1.toNat → ∀ b, b ∈ r.2 → bitS R b.2.1.toNat) ∧ (bitS R (rR l k).1.1.toNat → ∀ b, b ∈ (rR l k).2.take j → bitS R b.2.1.toNat)
/-- one round under way -/
structure NR (l : List RRule) (q : Nat) (R0 R k j : Nat) : Prop where
  lt : R < 64
  has : bitS R q
  low : ∀ E : Nat → Prop, E q → CloS l E → ∀ i, bitS R i → E i
  cl : CloS l (bitS R0) → R = R0
  up : (R = R0 ∧ UpN R0 l k j) ∨ cnt6 R0 < cnt6 R
/-- between rounds -/
structure NO (l : List RRule) (q R i : Nat) : Prop where
  lt : R < 64
  has : bitS R q
  low : ∀ E : Nat → Prop, E q → CloS l E → ∀ i, bitS R i → E i
  up : CloS l (bitS R) ∨ i + 1 ≤ cnt6 R
theorem pow_bit (q i : Nat) : bitS (2 ^ q) i ↔ q = i := by unfold bitS; rw [Nat.testBit_two_pow, decide_eq_true_eq]
theorem no_0 (l : List RRule) {q : Nat} (hq : q < 6) : NO l q (2 ^ q) 0 := by
  refine ⟨by have := Nat.pow_lt_pow_right (a := 2) (by decide) hq; omega, (pow_bit q q).2 rfl, fun E h _ i hi => by rw [← (pow_bit q i).1 hi]; exact h, .inr ?_⟩
  have h0 : ¬ (0 : Nat).testBit q = true := by simp
  have := cnt6_new hq h0
  rw [Nat.zero_or] at this
  omega
theorem nr_0 {l : List RRule} {q R i : Nat} (h : NO l q R i) : NR l q R R 0 0 :=
  ⟨h.lt, h.has, h.low, fun _ => rfl, .inl ⟨rfl, ⟨fun r hr => (by rw [List.take_zero] at hr; cases hr), fun _ b hb => (by rw [List.take_zero] at hb; cases hb)⟩⟩⟩
theorem nr_skip {l : List RRule} {q R0 R k : Nat} (h : NR l q R0 R k 0) (hk : k < l.length) (hn : ¬ bitS R (rR l k).1.1.toNat) : NR l q R0 R (k + 1) 0 := by
  refine ⟨h.lt, h.has, h.low, h.cl, ?_⟩
  rcases h.up with ⟨e, h1, _⟩ | h1
  · refine .inl ⟨e, fun r hr hb => ?_, fun _ b hb => by rw [List.take_zero] at hb; cases hb⟩
    rw [List.take_succ_eq_append_getElem hk, ← rR_get hk] at hr
    rcases List.mem_append.1 hr with hr | hr
    · exact h1 r hr hb
    · rw [List.mem_singleton.1 hr, ← e] at hb; exact absurd hb hn
  · exact .inr h1
theorem nr_next {l : List RRule} {q R0 R k j : Nat} (h : NR l q R0 R k j) (hk : k < l.length) (hj : j = (rR l k).2.length) : NR l q R0 R (k + 1) 0 := by
  refine ⟨h.lt, h.has, h.low, h.cl, ?_⟩
  rcases h.up with ⟨e, h1, h2⟩ | h1
  · refine .inl ⟨e, fun r hr hb => ?_, fun _ b hb => by rw [List.take_zero] at hb; cases hb⟩
    rw [List.take_succ_eq_append_getElem hk, ← rR_get hk] at hr
    rcases List.mem_append.1 hr with hr | hr
    · exact h1 r hr hb
    · rw [List.mem_singleton.1 hr] at hb ⊢
      intro b hb2
      exact h2 hb b (by rw [hj, List.take_length]; exact hb2)
  · exact .inr h1
theorem nr_lit {l : List RRule} {q R0 R k j : Nat} (h : NR l q R0 R k j) (hk : k < l.length) (hj : j < (rR l k).2.length) (hh : bitS R (rR l k).1.1.toNat) (ht : (lL (rR l k).2 j).2.1.toNat < 6) : NR l q R0 (R ||| 2 ^ (lL (rR l k).2 j).2.1.toNat) k (j + 1) := by
  have hr : rR l k ∈ l := by rw [rR_get hk]; exact List.getElem_mem hk
  have hb : lL (rR l k).2 j ∈ (rR l k).2 := by rw [lL_get hj]; exact List.getElem_mem hj
  refine ⟨Nat.or_lt_two_pow (n := 6) h.lt (Nat.pow_lt_pow_right (by decide) ht), (bit_or _ _ _).2 (.inl h.has), fun E hE hc i hi => ?_, fun hc => ?_, ?_⟩
  · rcases (bit_or _ _ _).1 hi with hi | hi
    · exact h.low E hE hc i hi
    · rw [← hi]; exact hc _ hr (h.low E hE hc _ hh) _ hb
  · have e := h.cl hc
    subst e
    exact or_same (hc _ hr hh _ hb)
  · by_cases e2 : bitS R (lL (rR l k).2 j).2.1.toNat
    · rw [or_same e2]
      rcases h.up with ⟨e, h1, h2⟩ | h1
      · refine .inl ⟨e, h1, fun hh2 b hb2 => ?_⟩
        rw [List.take_succ_eq_append_getElem hj, ← lL_get hj] at hb2
        rcases List.mem_append.1 hb2 with hb2 | hb2
        · exact h2 hh2 b hb2
        · rw [List.mem_singleton.1 hb2, ← e]; exact e2
      · exact .inr h1
    · have := cnt6_new ht e2
      rcases h.up with ⟨e, _⟩ | h1
      · subst e; exact .inr this
      · exact .inr (by omega)
theorem nr_end {l : List RRule} {q R0 R i : Nat} (h0 : NO l q R0 i) (h : NR l q R0 R l.length 0) : NO l q R (i + 1) := by
  refine ⟨h.lt, h.has, h.low, ?_⟩
  rcases h.up with ⟨e, h1, _⟩ | h1
  · subst e
    rw [List.take_length] at h1
    exact .inl h1
  · rcases h0.up with h2 | h2
    · rw [h.cl h2] at h1; omega
    · exact .inr (by omega)
theorem no_end {l : List RRule} {q R : Nat} (h : NO l q R 6) : NeedS l q (bitS R) := by
  refine ⟨h.has, ?_, h.low⟩
  rcases h.up with h1 | h1
  · exact h1
  · have := cnt6_le R; omega
/-- the rules that count -/
def ndR (R : Nat) (l : List RRule) : List RRule := l.filter fun r => R.testBit r.1.1.toNat
theorem ndR_snoc {R k : Nat} {l : List RRule} (hk : k < l.length) : ndR R (l.take (k + 1)) = if R.testBit (rR l k).1.1.toNat = true then ndR R (l.take k) ++ [rR l k] else ndR R (l.take k) := by
  unfold ndR
  rw [List.take_succ_eq_append_getElem hk, List.filter_append, ← rR_get hk, List.filter_cons, List.filter_nil]
  split
  · rfl
  · rw [List.append_nil]
#print axioms no_end
theorem nshr_bit (s k : Nat) (h : s < 2 ^ 63) : bits .and .i64 ((s : Int) / 2 ^ k) 1 = ((if s.testBit k then 1 else 0 : Nat) : Int) := by
  have e : ((s : Int) / 2 ^ k) = ((s / 2 ^ k : Nat) : Int) := by simp
  have h1 : s / 2 ^ k ≤ s := Nat.div_le_self _ _
  rw [e, show (1 : Int) = ((1 : Nat) : Int) from rfl, bits_and_nat _ _ (by omega) (by omega), Nat.testBit_eq_decide_div_mod_eq, Nat.and_one_is_mod]
  have := Nat.mod_two_eq_zero_or_one (s / 2 ^ k)
  rcases this with h | h <;> simp [h]
theorem npow_name (i : Nat) (h : i < 6) : ∃ P : Nat, P = 2 ^ i ∧ (2 : Int) ^ i = (P : Int) ∧ P ≤ 32 ∧ 1 ≤ P :=
  ⟨2 ^ i, rfl, by simp, by have := Nat.pow_le_pow_right (n := 2) (by decide) (show i ≤ 5 by omega); simpa using this, Nat.two_pow_pos i⟩
/-- what Needed returns -/
def NdE (l : List RRule) (q : Int) (B : Nat) (w' : World) (e : Ending) : Prop :=
  (¬ (ValR l [] ∧ 0 ≤ q ∧ q ≤ 5) ∧ e = .returned (.tuple #[.slice none 0 0, .int .i64 2])) ∨
  ((ValR l [] ∧ 0 ≤ q ∧ q ≤ 5) ∧ ∃ (R : Nat) (a : Option Addr) (n c : Nat), NeedS l q.toNat (bitS R) ∧ e = .returned (.tuple #[.slice a n c, .int .i64 0]) ∧ ORul B w' (.slice a n c) (ndR R l))
theorem orul_len {B : Nat} {w : World} {a : Option Addr} {n c : Nat} {l : List RRule} (h : ORul B w (.slice a n c) l) : n = l.length := by
  obtain ⟨a', c', e⟩ := RdS.slice h.rules
  injection e
set_option maxRecDepth 100000 in
set_option maxHeartbeats 16000000 in
theorem Needed_any (l : List RRule) (q : Int) (v : Value) (w : World) (hv : Rules w v l) :
    Calls Try.prog 20 #[v, .int .i64 q] w fun e w' => NdE l q w.heap.size w' e ∧ Below w.heap.size w w' := by
  have HR := Lib.hid hv
  obtain ⟨a, b, off, cap, rfl, hle, hia, _, hcs⟩ := Rules.get hv
  obtain ⟨n, hn⟩ : ∃ x, x = l.length := ⟨_, rfl⟩
  have Hn := Lib.hid hn
  rw [← hn] at hle hia hcs HR ⊢
  have Hix := Lib.hid (run_ix (P := Try.prog) (t := 27) (a := a) (len := n) (cap := cap) (b := b) (off := off) (s := 3) Try.underlying27 (by intro w; kernel_rfl) hia)
  have Hc := Lib.hid hcs
  clear hv hia hcs hn
  by_cases hval : ValR l []
  · have HC := Lib.hid (valid_any l [] _ (.slice none 0 0) w HR.out (atoms_nil w) true ⟨fun _ => hval, fun _ => rfl⟩)
    by_cases h0 : q < 0
    · have HE := Lib.hid (show ¬ (ValR l [] ∧ 0 ≤ q ∧ q ≤ 5) from fun h => by omega)
      clear hval
      go_enter Try.func20, Try.ntmps20
      go_wp2_with fail
      refine HC.out.mono ?_
      clear HC
      rintro e w1 ⟨rfl, hb1⟩
      have HB1 := Lib.hid hb1
      clear hb1
      go_wp2_with fail
      go_ret2
      exact ⟨.inl ⟨HE.out, rfl⟩, HB1.out⟩
    · by_cases h6 : q ≥ 6
      · have HE := Lib.hid (show ¬ (ValR l [] ∧ 0 ≤ q ∧ q ≤ 5) from fun h => by omega)
        clear hval
        go_enter Try.func20, Try.ntmps20
        go_wp2_with fail
        refine HC.out.mono ?_
        clear HC
        rintro e w1 ⟨rfl, hb1⟩
        have HB1 := Lib.hid hb1
        clear hb1
        go_wp2_with fail
        go_ret2
        exact ⟨.inl ⟨HE.out, rfl⟩, HB1.out⟩
      · obtain ⟨qn, rfl⟩ : ∃ x : Nat, q = x := ⟨q.toNat, by omega⟩
        have HV := Lib.hid (show ValR l [] ∧ (0 : Int) ≤ (qn : Int) ∧ (qn : Int) ≤ 5 from ⟨hval, by omega, by omega⟩)
        have Hat := Lib.hid hval.ats
        have Hb3 := Lib.hid hval.b3
        have hq6 : qn < 6 := by omega
        have HN0 := Lib.hid (no_0 l hq6)
        obtain ⟨P, hP, p1, p2, p3⟩ := npow_name qn hq6
        rw [← hP] at HN0
        have hn10 : n ≤ 10 := by rw [Hn.out]; exact hval.l10
        clear hval hP
        have hsh : (1 : Int) * 2 ^ qn = (P : Int) := by rw [Int.one_mul]; exact p1
        have hw := wrap_nat P (by omega)
        clear p1
        go_enter Try.func20, Try.ntmps20
        go_wp2_with fail
        refine HC.out.mono ?_
        clear HC
        rintro e w1 ⟨rfl, hb1⟩
        have HB1 := Lib.hid hb1
        clear hb1
        go_wp2_with fail
        clear hsh hw
        go_loopw [6, 27] (fun vr vi wr => ∃ (R i : Nat), vr = .int .i64 (R : Int) ∧ vi = .int .i64 i ∧ i ≤ 6 ∧ NO l qn R i ∧ Below w.heap.size w wr) (fun _ vi _ => 6 - (intOf vi).toNat)
        case atStart => exact ⟨P, 0, rfl, rfl, by omega, HN0.out, HB1.out⟩
        case round =>
          clear HN0 HB1 p2 p3
          generalize wr = wx at *
          obtain ⟨R, i, rfl, rfl, hi, hN, hb⟩ := hrel
          have HN := Lib.hid hN
          have HB := Lib.hid hb
          clear hN hb
          by_cases hi6 : i < 6
          · have hii : (i : Int) < 6 := by omega
            go_wp2_with fail
            go_loopw [6, 31] (fun vr vi wr => ∃ (R' k : Nat), vr = .int .i64 (R' : Int) ∧ vi = .int .i64 k ∧ k ≤ n ∧ NR l qn R R' k 0 ∧ Below w.heap.size w wr) (fun _ vi _ => n - (intOf vi).toNat)
            case atStart => exact ⟨R, 0, rfl, rfl, Nat.zero_le _, nr_0 HN.out, HB.out⟩
            case round =>
              clear HB
              generalize wr = wy at *
              obtain ⟨R', k, rfl, rfl, hk, hR, hb⟩ := hrel
              have HRn := Lib.hid hR
              have HB := Lib.hid hb
              have hR64 := hR.lt
              clear hR hb
              by_cases hlt : k < n
              · obtain ⟨ua, uc, va, vc, hc0, hc1, hc2, hui, hvi⟩ := Hc.out k hlt
                have hc0 := Below.keep HB.out hc0
                have hc1 := Below.keep HB.out hc1
                have hc2 := Below.keep HB.out hc2
                have hixk := Hix.out k
                have hlt2 : k < l.length := by rw [← Hn.out]; exact hlt
                have HMr := Lib.hid (show rR l k ∈ l from by rw [rR_get hlt2]; exact List.getElem_mem hlt2)
                have HSk := Lib.hid (fun (h : ¬ bitS R' (rR l k).1.1.toNat) => nr_skip HRn.out hlt2 h)
                have HNx := Lib.hid (fun R' (h : NR l qn R R' k (rR l k).2.length) => nr_next h hlt2 rfl)
                have HLt := Lib.hid (fun R' j (h : NR l qn R R' k j) (h1 : j < (rR l k).2.length) (h2 : bitS R' (rR l k).1.1.toNat) (h3 : (lL (rR l k).2 j).2.1.toNat < 6) => nr_lit h hlt2 h1 h2 h3)
                obtain ⟨r, hrr⟩ : ∃ x, x = rR l k := ⟨_, rfl⟩
                rw [← hrr] at hc0 hc1 hc2 hvi HMr HSk HNx HLt
                obtain ⟨hr, hhr⟩ : ∃ x, x = r.1.1 := ⟨_, rfl⟩
                rw [← hhr] at hc0 HSk HLt
                obtain ⟨un, hun⟩ : ∃ x, x = r.1.2.length := ⟨_, rfl⟩
                obtain ⟨vn, hvn⟩ : ∃ x, x = r.2.length := ⟨_, rfl⟩
                have Hvn := Lib.hid hvn
                rw [hrr, ← hrr, ← hun] at hc1
                rw [← hvn] at hc2 hvi HNx
                have Hvi := Lib.hid hvi
                have hh := (Hat.out r HMr.out).1.1
                rw [← hhr] at hh
                obtain ⟨hN, rfl⟩ : ∃ x : Nat, hr = x := ⟨hr.toNat, by omega⟩
                rw [Int.toNat_natCast] at HSk HLt
                have hN6 : hN < 6 := by omega
                obtain ⟨w3, hw3⟩ : ∃ x, x = wy.alloc (.cells #[.int .i64 (hN : Int), .slice ua un uc, .slice va vn vc] 98) := ⟨_, rfl⟩
                have hb3 : Below wy.heap.size wy w3 := by rw [hw3]; exact below_alloc _ _
                obtain ⟨bx, hbx⟩ : ∃ x, x = wy.heap.size := ⟨_, rfl⟩
                have HX := Lib.hid (show w3.heap[bx]? = some (.cells #[.int .i64 (hN : Int), .slice ua un uc, .slice va vn vc] 98 (0, 0)) from by rw [hw3, hbx]; exact heap_alloc_new _ _)
                have HB3 := Lib.hid (Below.tr HB.out hb3)
                have Hw3 := Lib.hid hw3
                have Hbx := Lib.hid hbx
                have t1 := nshr_bit R' hN (by omega)
                obtain ⟨P2, hP2, p1, p2, p3⟩ := npow_name hN hN6
                rw [p1] at t1
                clear hrr hun hvn hui hvi hhr hw3 hb3 hbx hlt2 hh hP2
                go_upto_region 9 with fail
                rw [← Hw3.out, ← Hbx.out]
                clear Hw3 hc0 hc1 hc2 hixk
                have g0 := aCell HX.out 0 rfl
                cases hbt : R'.testBit hN
                · rw [hbt, if_neg (by simp)] at t1
                  have HR2 := Lib.hid (HSk.out (by unfold bitS; rw [hbt]; simp))
                  clear hbt HSk HNx HLt
                  go_wp2_with fail
                  go_roundw
                  case rel => exact ⟨R', k + 1, rfl, by go_num, by omega, HR2.out, HB3.out⟩
                  case measure => simp [intOf]; omega
                · rw [hbt, if_pos rfl] at t1
                  have Hbt := Lib.hid hbt
                  have g2 := aCell HX.out 2 rfl
                  clear hbt HSk
                  obtain ⟨a5, b5, off5, cap5, he5, hvl, hia5, _, hcs5⟩ := Lits.get Hvi.out
                  rw [← Hvn.out] at he5 hia5 hcs5 hvl
                  injection he5 with e1 e2 e3
                  subst e1 e3
                  have Hix5 := Lib.hid (run_ix (P := Try.prog) (t := 96) (a := va) (len := vn) (cap := vc) (b := b5) (off := off5) (s := 3) Try.underlying96 (by intro w; kernel_rfl) hia5)
                  have Hc5 := Lib.hid hcs5
                  clear hia5 hcs5 e2
                  go_wp2_with fail
                  clear g0 g2 t1 p1
                  go_loopw [6, 45] (fun vr vi wr => ∃ (R2 j : Nat), vr = .int .i64 (R2 : Int) ∧ vi = .int .i64 j ∧ j ≤ vn ∧ NR l qn R R2 k j ∧ bitS R2 hN ∧ Below w.heap.size w wr) (fun _ vi _ => vn - (intOf vi).toNat)
                  case atStart => exact ⟨R', 0, rfl, rfl, Nat.zero_le _, HRn.out, Hbt.out, HB3.out⟩
                  case round =>
                    clear HRn HB HB3 Hbt HX hR64
                    generalize wr = wz at *
                    obtain ⟨R2, j, rfl, rfl, hj, hR, hbt, hb⟩ := hrel
                    have HRn := Lib.hid hR
                    have Hbt := Lib.hid hbt
                    have HB := Lib.hid hb
                    have hR64 := hR.lt
                    clear hR hbt hb
                    by_cases hlj : j < vn
                    · obtain ⟨xa, xc, hd0, hd1, hd2, hxi⟩ := Hc5.out j hlj
                      have hd0 := Below.keep HB.out hd0
                      have hd1 := Below.keep HB.out hd1
                      have hd2 := Below.keep HB.out hd2
                      have hixj := Hix5.out j
                      have hlj2 : j < r.2.length := by rw [← Hvn.out]; exact hlj
                      have HMb := Lib.hid (show lL r.2 j ∈ r.2 from by rw [lL_get hlj2]; exact List.getElem_mem hlj2)
                      have HLj := Lib.hid (fun h3 => HLt.out R2 j HRn.out hlj2 Hbt.out h3)
                      obtain ⟨⟨N, s, X⟩, hbb⟩ : ∃ x, x = lL r.2 j := ⟨_, rfl⟩
                      rw [← hbb] at hd0 hd1 hd2 HMb HLj
                      simp only at hd0 hd1 hd2
                      obtain ⟨xn, hxn⟩ : ∃ x, x = X.length := ⟨_, rfl⟩
                      rw [← hxn] at hd2
                      have hs := ((Hat.out r HMr.out).2 _ HMb.out).1
                      simp only at hs
                      obtain ⟨sN, rfl⟩ : ∃ x : Nat, s = x := ⟨s.toNat, by omega⟩
                      have hs6 : sN < 6 := by omega
                      obtain ⟨w5, hw5⟩ : ∃ x, x = wz.alloc (.cells #[.bool N, .int .i64 (sN : Int), .slice xa xn xc] 100) := ⟨_, rfl⟩
                      have hb5 : Below wz.heap.size wz w5 := by rw [hw5]; exact below_alloc _ _
                      obtain ⟨bl, hbl⟩ : ∃ x, x = wz.heap.size := ⟨_, rfl⟩
                      have HL := Lib.hid (show w5.heap[bl]? = some (.cells #[.bool N, .int .i64 (sN : Int), .slice xa xn xc] 100 (0, 0)) from by rw [hw5, hbl]; exact heap_alloc_new _ _)
                      have HB5 := Lib.hid (Below.tr HB.out hb5)
                      have Hw5 := Lib.hid hw5
                      have Hbl := Lib.hid hbl
                      have HR3 := Lib.hid (show NR l qn R (R2 ||| 2 ^ sN) k (j + 1) from by
                        have := HLj.out (by simpa using hs6)
                        simpa using this)
                      have hor := bits_or_nat R2 (2 ^ sN) (by omega) (by have := Nat.pow_lt_pow_right (a := 2) (by decide) hs6; omega)
                      have Hb2 := Lib.hid (show bitS (R2 ||| 2 ^ sN) hN from (bit_or _ _ _).2 (.inl Hbt.out))
                      obtain ⟨P4, hP4, q1, q2, q3⟩ := npow_name sN hs6
                      rw [← hP4] at hor HR3 Hb2
                      have hsh : (1 : Int) * 2 ^ sN = (P4 : Int) := by rw [Int.one_mul]; exact q1
                      have hw := wrap_nat P4 (by omega)
                      clear hbb hxn hxi hw5 hb5 hbl hlj2 hs hP4 q1 HLj
                      go_upto_region 13 with fail
                      rw [← Hw5.out, ← Hbl.out]
                      clear Hw5 hd0 hd1 hd2 hixj
                      have g1 := aCell HL.out 1 rfl
                      go_wp2_with fail
                      go_roundw
                      case rel => exact ⟨R2 ||| P4, j + 1, rfl, by go_num, by omega, HR3.out, Hb2.out, HB5.out⟩
                      case measure => simp [intOf]; omega
                    · obtain rfl : j = vn := by omega
                      have HR2 := Lib.hid (HNx.out R2 HRn.out)
                      go_wp2_with fail
                      go_roundw
                      case rel => exact ⟨R2, k + 1, rfl, by go_num, by omega, HR2.out, HB.out⟩
                      case measure => simp [intOf]; omega
              · obtain rfl : k = n := by omega
                have HN2 := Lib.hid (nr_end HN.out (show NR l qn R R' l.length 0 from by rw [← Hn.out]; exact HRn.out))
                go_wp2_with fail
                go_roundw
                case rel => exact ⟨R', i + 1, rfl, by go_num, by omega, HN2.out, HB.out⟩
                case measure => simp [intOf]; omega
          · have HNd := Lib.hid (no_end (show NO l qn R 6 from by
              have e : i = 6 := by omega
              have := HN.out
              rwa [e] at this))
            have hR64 := HN.out.lt
            have hi6' : ¬ (i : Int) < 6 := by omega
            clear HN
            go_wp2_with fail
            go_loopw [11, 60] (fun vo vi wr => ∃ (k : Nat) (oa : Option Addr) (on oc : Nat), vo = .slice oa on oc ∧ vi = .int .i64 k ∧ k ≤ n ∧ Below w.heap.size w wr ∧ ORul w.heap.size wr (.slice oa on oc) (ndR R (l.take k))) (fun _ vi _ => n - (intOf vi).toNat)
            case atStart => exact ⟨0, none, 0, 0, rfl, rfl, Nat.zero_le _, HB.out, ownS_nil _ _ _ _⟩
            case round =>
              clear HB
              generalize wr = wy at *
              obtain ⟨k, oa, on, oc, rfl, rfl, hk, hb, ho⟩ := hrel
              have HB := Lib.hid hb
              have HO := Lib.hid ho
              clear hb ho
              by_cases hlt : k < n
              · obtain ⟨ua, uc, va, vc, hc0, hc1, hc2, hui, hvi⟩ := Hc.out k hlt
                have hc0 := Below.keep HB.out hc0
                have hc1 := Below.keep HB.out hc1
                have hc2 := Below.keep HB.out hc2
                have hixk := Hix.out k
                have hlt2 : k < l.length := by rw [← Hn.out]; exact hlt
                have HMr := Lib.hid (show rR l k ∈ l from by rw [rR_get hlt2]; exact List.getElem_mem hlt2)
                have HTk := Lib.hid (ndR_snoc (R := R) hlt2)
                obtain ⟨⟨⟨hr, A⟩, bd⟩, hrr⟩ : ∃ x, x = rR l k := ⟨_, rfl⟩
                rw [← hrr] at hc0 hc1 hc2 hui hvi HMr HTk
                simp only at hc0 hc1 hc2 hui hvi
                have hh := (Hat.out _ HMr.out).1.1
                simp only at hh
                have hbd := Hb3.out _ HMr.out
                simp only at hbd
                obtain ⟨hN, rfl⟩ : ∃ x : Nat, hr = x := ⟨hr.toNat, by omega⟩
                simp only [Int.toNat_natCast] at HTk
                have hN6 : hN < 6 := by omega
                obtain ⟨un, hun⟩ : ∃ x, x = A.length := ⟨_, rfl⟩
                obtain ⟨bn, hbn⟩ : ∃ x, x = bd.length := ⟨_, rfl⟩
                rw [← hun] at hc1 hui
                have Hbd := Lib.hid (show bd.length ≤ 100 from by omega)
                have HAl := Lib.hid (show A.length ≤ 100 from by have := (Hat.out _ HMr.out).1.2.1.2; simp only at this; omega)
                have HBl := Lib.hid (show ∀ j, j < bd.length → (lL bd j).2.2.length ≤ 100 from fun j hj => by have := ((Hat.out _ HMr.out).2 (lL bd j) (by rw [lL_get hj]; exact List.getElem_mem hj)).2.1.2; omega)
                rw [← hbn] at hc2 hvi
                obtain ⟨w3, hw3⟩ : ∃ x, x = wy.alloc (.cells #[.int .i64 (hN : Int), .slice ua un uc, .slice va bn vc] 98) := ⟨_, rfl⟩
                have hb3 : Below wy.heap.size wy w3 := by rw [hw3]; exact below_alloc _ _
                obtain ⟨bx, hbx⟩ : ∃ x, x = wy.heap.size := ⟨_, rfl⟩
                have HX := Lib.hid (show w3.heap[bx]? = some (.cells #[.int .i64 (hN : Int), .slice ua un uc, .slice va bn vc] 98 (0, 0)) from by rw [hw3, hbx]; exact heap_alloc_new _ _)
                have HB3 := Lib.hid (Below.tr HB.out hb3)
                have HO3 := Lib.hid (HO.out.keep hb3)
                have Hui := Lib.hid (hui.keep HB3.out)
                have Hvi := Lib.hid (hvi.keep HB3.out)
                have Hw3 := Lib.hid hw3
                have Hbx := Lib.hid hbx
                have t1 := nshr_bit R hN (by omega)
                obtain ⟨P2, hP2, p1, p2, p3⟩ := npow_name hN hN6
                rw [p1] at t1
                clear hrr hun hbn hui hvi hw3 hb3 hbx hlt2 hh hbd hP2
                go_upto_region 21 with fail
                rw [← Hw3.out, ← Hbx.out]
                clear Hw3 hc0 hc1 hc2 hixk
                have g0 := aCell HX.out 0 rfl
                cases hbt : R.testBit hN
                · rw [hbt, if_neg (by simp)] at t1
                  have HO4 := Lib.hid (show ORul w.heap.size w3 (.slice oa on oc) (ndR R (l.take (k + 1))) from by rw [HTk.out, if_neg (by rw [hbt]; simp)]; exact HO3.out)
                  clear hbt HTk
                  go_wp2_with fail
                  go_roundw
                  case rel => exact ⟨k + 1, oa, on, oc, rfl, by go_num, by omega, HB3.out, HO4.out⟩
                  case measure => simp [intOf]; omega
                · rw [hbt, if_pos rfl] at t1
                  have HTk2 := Lib.hid (HTk.out.trans (if_pos hbt))
                  clear hbt HTk
                  have g1 := aCell HX.out 1 rfl
                  have g2 := aCell HX.out 2 rfl
                  have HC := Lib.hid (copyRule_any (hN : Int) A bd (.slice ua un uc) (.slice va bn vc) w3 Hui.out Hvi.out Hbd.out HAl.out HBl.out)
                  go_wp2_with fail
                  refine HC.out.mono ?_
                  clear HC
                  rintro e w4 ⟨ha, hn2, hc4, pa, pn, pc, rfl, hhi, hvi, hb4⟩
                  obtain ⟨w8, hw8⟩ : ∃ x, x = w4.alloc (.cells #[.int .i64 (hN : Int), .slice ha hn2 hc4, .slice pa pn pc] 98) := ⟨_, rfl⟩
                  have hb8 : Below w4.heap.size w4 w8 := by rw [hw8]; exact below_alloc _ _
                  obtain ⟨bk, hbk⟩ : ∃ x, x = w4.heap.size := ⟨_, rfl⟩
                  have HK := Lib.hid (show w8.heap[bk]? = some (.cells #[.int .i64 (hN : Int), .slice ha hn2 hc4, .slice pa pn pc] 98 (0, 0)) from by rw [hw8, hbk]; exact heap_alloc_new _ _)
                  have HBw := Lib.hid (show Below w.heap.size w w8 from Below.tr HB3.out (Below.tr hb4 hb8))
                  have HL8 := Lib.hid ((hvi.keep hb8).mono HB3.out.size)
                  have HH8 := Lib.hid ((hhi.keep hb8).base HB3.out.size)
                  obtain ⟨cs, s1, s2, s3⟩ := HO3.out.keep (Below.tr hb4 hb8)
                  have Hs1 := Lib.hid s1
                  have Hs2 := Lib.hid s2
                  have Hs3 := Lib.hid s3
                  have Hw8 := Lib.hid hw8
                  have Hbk := Lib.hid hbk
                  have hl2 : (ndR R (l.take k)).length + 1 ≤ 100000000000 := by
                    have := List.length_filter_le (fun r : RRule => R.testBit r.1.1.toNat) (l.take k)
                    have h2 : (ndR R (l.take k)).length ≤ (l.take k).length := this
                    rw [List.length_take] at h2; omega
                  clear hw8 hb8 hbk s1 s2 s3 g0 g1 g2 hhi hvi hb4 t1 p1
                  go_wp2_with (first | (at_builtin; rw [← Hw8.out, ← Hbk.out]; refine append_own rfl (.tmp 71) (.tmp 74) 27 rfl elemRules rfl Hs3.out (m := 1) [.int .i64 (hN : Int), .slice ha hn2 hc4, .slice pa pn pc] rfl rfl (fun k y hk => aCell HK.out k (by simpa using hk)) (by intro u hu; simp at hu; rcases hu with rfl | rfl | rfl <;> rfl) hl2 HBw.out.size ?_; intro v9 w9 h91 h92 h93))
                  have hapI : ∀ b n u (xs : List Value), w8.ownsRow b 3 1 u n xs → u.ownBlock = none ∨ u.ownBlock ≠ (Value.slice oa on oc).ownBlock := fun b n u xs h => rows_apart h Hs3.out (by decide)
                  have hapL : ∀ {B v l}, OLit B w8 v l → v.ownBlock = none ∨ v.ownBlock ≠ (Value.slice oa on oc).ownBlock := fun {B v l} h => by obtain ⟨_, _, _, h3⟩ := h; exact rows_apart h3 Hs3.out (by decide)
                  have HO9 := Lib.hid (show ORul w.heap.size w9 v9 (ndR R (l.take (k + 1))) from by
                    rw [HTk2.out]
                    refine ownS_snoc Hs1.out (fun i h h' => ⟨?_, (Hs2.out i h h').2⟩) ?_ rfl h91
                    · obtain ⟨⟨u, v, e, k1, k2⟩, _⟩ := Hs2.out i h h'
                      exact ⟨u, v, e, World.ownsRow.kept k1 h93 (hapI _ _ _ _ k1), k2.apart h93 (hapL k2) fun b n u A h => hapI _ _ _ _ h⟩
                    · exact ⟨_, _, rfl, World.ownsRow.kept HH8.out h93 (hapI _ _ _ _ HH8.out), HL8.out.apart h93 (hapL HL8.out) fun b n u A h => hapI _ _ _ _ h⟩)
                  have HB9 := Lib.hid (HBw.out.trans h92)
                  obtain ⟨qa, qn2, qk, rfl⟩ := row_slice h91
                  clear h91 h92 h93 hl2 hapI hapL
                  go_wp2_with fail
                  go_roundw
                  case rel => exact ⟨k + 1, qa, qn2, qk, rfl, by go_num, by omega, HB9.out, HO9.out⟩
                  case measure => simp [intOf]; omega
              · obtain rfl : n = k := by omega
                have HE := Lib.hid (show ORul w.heap.size wy (.slice oa on oc) (ndR R l) from by
                  have := HO.out
                  rw [Hn.out, List.take_length] at this
                  exact this)
                go_wp2_with fail
                go_ret2
                exact ⟨.inr ⟨HV.out, R, oa, on, oc, by rw [Int.toNat_natCast]; exact HNd.out, rfl, HE.out⟩, HB.out⟩
  · have HC := Lib.hid (valid_any l [] _ (.slice none 0 0) w HR.out (atoms_nil w) false ⟨fun h => (by cases h), fun h => absurd h hval⟩)
    have HE := Lib.hid (show ¬ (ValR l [] ∧ 0 ≤ q ∧ q ≤ 5) from fun h => hval h.1)
    clear hval
    go_enter Try.func20, Try.ntmps20
    go_wp2_with fail
    refine HC.out.mono ?_
    clear HC
    rintro e w1 ⟨rfl, hb1⟩
    have HB1 := Lib.hid hb1
    clear hb1
    go_wp2_with fail
    go_ret2
    exact ⟨.inl ⟨HE.out, rfl⟩, HB1.out⟩
#print axioms Needed_any
end Go.Proofs.Ythndplkjhbmfmaa
