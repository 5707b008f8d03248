/- Contracts of copyAtom and copyRule. Needed: math. The least set of relations that has one and is closed, as bits. Contract of Needed. Contract of the reference's Needed. Contract of the laws' own. Contract of the laws' same, at equal rules. -/
import Derived.Test.YthndplkjhbmfmaaRof
import Derived.Test.YthndplkjhbmfmaaRsm
import Derived.Test.YthndplkjhbmfmaaRvc
import Derived.Test.YthndplkjhbmfmaaEqq
namespace Go.Proofs.Ythndplkjhbmfmaa
open Go.RowKit
set_option maxRecDepth 100000 in
set_option maxHeartbeats 8000000 in
theorem copyAtom_any (r : Int) (A : List Int) (u : Value) (w : World) (hu : Ints w u A) (hA : A.length ≤ 100) :
    Calls Try.prog 118 #[.agg #[.int .i64 r, u]] w fun e w' => ∃ a n c, e = .returned (.agg #[.int .i64 r, .slice a n c]) ∧ OwnInts w.heap.size w' (.slice a n c) A ∧ Below w.heap.size w w' := by
  obtain ⟨ua, uc, rfl⟩ := ints_slice hu
  have hm : A.length ≤ maxLen := hu.2.1
  unfold maxLen at hm
  obtain ⟨n, hn⟩ : ∃ x, x = A.length := ⟨_, rfl⟩
  have Hn := Lib.hid hn
  have Hv := Lib.hid hu
  obtain ⟨wa, hwa⟩ : ∃ x, x = w.alloc (.cells #[.int .i64 r, .slice ua n uc] 94) := ⟨_, rfl⟩
  obtain ⟨w1, hw1⟩ : ∃ x, x = wa.alloc (.cells #[.int .i64 0, .slice none 0 0] 94) := ⟨_, rfl⟩
  obtain ⟨b1, hb1⟩ : ∃ x, x = w.heap.size := ⟨_, rfl⟩
  obtain ⟨b2, hb2⟩ : ∃ x, x = w.heap.size + 1 := ⟨_, rfl⟩
  have hba : Below w.heap.size w wa := by rw [hwa]; exact below_alloc _ _
  have hbb : Below wa.heap.size wa w1 := by rw [hw1]; exact below_alloc _ _
  have hsa : wa.heap.size = w.heap.size + 1 := by rw [hwa]; exact Array.size_push _
  have HB1 := Lib.hid (Below.tr hba hbb)
  have HX1 := Lib.hid (show w1.heap[b1]? = some (.cells #[.int .i64 r, .slice ua n uc] 94 (0, 0)) from blk_keep2 (by rw [hwa, hb1]; exact heap_alloc_new _ _) hbb)
  have HX2 := Lib.hid (show w1.heap[b2]? = some (.cells #[.int .i64 0, .slice none 0 0] 94 (0, 0)) from by rw [hw1, hb2, ← hsa]; exact heap_alloc_new _ _)
  have Hwa := Lib.hid hwa
  have Hw1 := Lib.hid hw1
  have Hb1 := Lib.hid hb1
  have Hb2 := Lib.hid hb2
  have Hb2l := Lib.hid (show w.heap.size ≤ b2 from by omega)
  rw [← hn] at hm Hv ⊢
  have HI := Lib.hid (show Ints w1 (.slice ua n uc) A from (Hv.out.keep (Below.tr hba hbb)))
  have hlA : A.length ≤ 1000000 := by omega
  clear hu hn hwa hw1 hb1 hb2 hba hbb hsa
  go_enter Try.func118, Try.ntmps118
  go_upto_region 1 with fail
  rw [← Hwa.out, ← Hw1.out, ← Hb2.out, ← Hb1.out]
  clear Hwa Hw1
  have HB0 := Lib.hid (show Below w.heap.size w w1.drew from HB1.out.drew)
  have HI0 := Lib.hid (show Ints w1.drew (.slice ua n uc) A from HI.out)
  have HS0 := Lib.hid (show w1.drew.heap[b1]? = some (.cells #[.int .i64 r, .slice ua n uc] 94 (0, 0)) from HX1.out)
  have HX0 := Lib.hid (show w1.drew.heap[b2]? = some (.cells #[.int .i64 0, .slice none 0 0] 94 (0, 0)) from HX2.out)
  refine wp_region_held (S := fun w' => w'.heap[b1]? = some (.cells #[.int .i64 r, .slice ua n uc] 94 (0, 0))) wideK ?_
  change wpAnyH _ _ _ _ _ _ _ _ (World.drew _)
  generalize w1.drew = wd0 at *
  refine wpAnyH_take (i := 0) (v := ?_) rfl (by kernel_rfl) (by kernel_rfl) (by kernel_rfl) (fun _ _ _ h => h) (Or.inl ⟨by rfl, ?_⟩) HS0.out ?_
  rotate_left
  focus (intro w hS; clear hS; first | (go_simp; done) | (go_simp; with_reducible rfl))
  simp only [Act.put, List.getElem_toArray, List.getElem_cons_zero, List.setIfInBounds_toArray, List.set_cons_zero, List.set_cons_succ]
  refine wpAnyH_take (i := 1) (v := ?_) rfl (by kernel_rfl) (by kernel_rfl) (by kernel_rfl) (fun _ _ _ h => h) (Or.inl ⟨by rfl, ?_⟩) HS0.out ?_
  rotate_left
  focus (intro w hS; have s0 := aCell hS 0 rfl; clear hS; first | (go_simp; done) | (go_simp; with_reducible rfl))
  simp only [Act.put, List.getElem_toArray, List.getElem_cons_zero, List.getElem_cons_succ, List.setIfInBounds_toArray, List.set_cons_zero, List.set_cons_succ]
  refine wpAnyH_take (i := 2) (v := ?_) rfl (by kernel_rfl) (by kernel_rfl) (by kernel_rfl) (fun _ _ _ h => h) (Or.inl ⟨by rfl, ?_⟩) HS0.out ?_
  rotate_left
  focus (intro w hS; clear hS; first | (go_simp; done) | (go_simp; with_reducible rfl))
  simp only [Act.put, List.getElem_toArray, List.getElem_cons_zero, List.getElem_cons_succ, List.setIfInBounds_toArray, List.set_cons_zero, List.set_cons_succ]
  refine wpAnyH_take (i := 3) (v := ?_) rfl (by kernel_rfl) (by kernel_rfl) (by kernel_rfl) (fun _ _ _ h => h) (Or.inl ⟨by rfl, ?_⟩) HS0.out ?_
  rotate_left
  focus (intro w hS; have s1 := aCell hS 1 rfl; clear hS; first | (go_simp; done) | (go_simp; with_reducible rfl))
  simp only [Act.put, List.getElem_toArray, List.getElem_cons_zero, List.getElem_cons_succ, List.setIfInBounds_toArray, List.set_cons_zero, List.set_cons_succ]
  refine wpAnyH_ready (rs := [4]) (by kernel_rfl) (by simp) ?_
  refine RdyH.cons rfl (fun K2 hK => ?_) RdyH.nil
  go_simp
  go_at_call 90
  refine (cloneI_any _ _ _ hlA HI0.out).mono ?_
  rintro e w6 ⟨v1, rfl, ho, hb⟩
  obtain ⟨x, y, z, rfl⟩ := own_slice ho
  have Ho := Lib.hid ho
  have HS1 := Lib.hid (blk_keep2 HS0.out hb)
  have HX6 := Lib.hid (blk_keep2 HX0.out hb)
  have HB6 := Lib.hid (Below.tr HB0.out hb)
  have Hz0 := Lib.hid HB0.out.size
  have Hlt := Lib.hid (show b2 < wd0.heap.size from (Array.getElem?_eq_some_iff.1 HX0.out).1)
  clear ho hb
  go_simp
  refine hK _ _ HS1.out ?_
  clear hK K2
  refine wpAnyH_take (i := 5) (v := ?_) rfl (by kernel_rfl) (by kernel_rfl) (by kernel_rfl) (fun _ _ _ h => h) (Or.inl ⟨by rfl, ?_⟩) HS1.out ?_
  rotate_left
  focus (intro w hS; clear hS; first | (go_simp; done) | (go_simp; with_reducible rfl))
  simp only [Act.put, List.getElem_toArray, List.getElem_cons_zero, List.getElem_cons_succ, List.setIfInBounds_toArray, List.set_cons_zero, List.set_cons_succ]
  refine wpAnyH_ready (rs := [6]) (by kernel_rfl) (by simp) ?_
  refine RdyH.cons rfl (fun K2 hK => ?_) RdyH.nil
  refine step_store_row rfl 94 (.tmp 2) (.tmp 8) rfl b2 #[.int .i64 r, .slice x y z] rfl rfl 94 _ HX6.out sizeAt rfl (oneAt _) ?_
  have HX9 := Lib.hid (setRow_heap w6 b2 _ #[.int .i64 r, .slice x y z] _ _ HX6.out)
  have HB9 := Lib.hid (below_setRow (b := b2) HB6.out Hb2l.out #[.int .i64 r, .slice x y z])
  have HO9 := Lib.hid (show OwnInts w.heap.size (w6.setRow b2 #[.int .i64 r, .slice x y z]) (.slice x y z) A from by
    refine own_block (owns_mono Ho.out Hz0.out) fun k hk => ?_
    have := (own_lt Ho.out hk).1
    exact setRow_other w6 b2 k _ (by have := Hlt.out; omega))
  have HS9 := Lib.hid (show (w6.setRow b2 #[.int .i64 r, .slice x y z]).heap[b1]? = some (.cells #[.int .i64 r, .slice ua n uc] 94 (0, 0)) from (setRow_other w6 b2 b1 _ (by have := Hb1.out; have := Hb2.out; omega)).trans HS1.out)
  generalize w6.setRow b2 #[.int .i64 r, .slice x y z] = w9 at *
  refine hK _ _ HS9.out ?_
  clear hK K2
  refine wpAnyH_done (by kernel_rfl) ?_ _
  go_wp2_with fail
  refine bodyPost_ret (results_cell_row Try.results118 _ _ b2 94 _ (0, 0) _ rfl HX9.out Try.underlying94 rfl (by kernel_rfl)) rfl ?_
  exact ⟨x, y, z, rfl, HO9.out, HB9.out⟩
theorem sizeRu : (Try.prog.info? 98).map (·.size) = some 3 := by kernel_rfl
theorem oneRu (x : Int) {a b : Option Addr} {n c m d : Nat} : (#[Value.int .i64 x, .slice a n c, .slice b m d] : Array Value).all (·.oneCell') = true := by
  rw [Array.all_eq_true_iff_forall_mem]
  intro u hu
  simp at hu
  rcases hu with rfl | rfl | rfl <;> rfl
set_option maxRecDepth 100000 in
set_option maxHeartbeats 16000000 in
theorem copyRule_any (hr : Int) (A : List Int) (bd : List RLit) (u v : Value) (w : World) (hui : Ints w u A) (hvi : Lits w v bd) (h100 : bd.length ≤ 100) (hA : A.length ≤ 100) (hB : ∀ j, j < bd.length → (lL bd j).2.2.length ≤ 100) :
    Calls Try.prog 65 #[.agg #[.int .i64 hr, u, v]] w fun e w' => ∃ ha hn hc va vn vc, e = .returned (.agg #[.int .i64 hr, .slice ha hn hc, .slice va vn vc]) ∧ OwnInts w.heap.size w' (.slice ha hn hc) A ∧ OLit w.heap.size w' (.slice va vn vc) bd ∧ Below w.heap.size w w' := by
  obtain ⟨ua, uc, rfl⟩ := ints_slice hui
  obtain ⟨va, vc, rfl⟩ := RdS.slice hvi
  obtain ⟨un, hun⟩ : ∃ x, x = A.length := ⟨_, rfl⟩
  obtain ⟨bn, hbn⟩ : ∃ x, x = bd.length := ⟨_, rfl⟩
  have Hbn := Lib.hid hbn
  have hbn100 : bn ≤ 100 := by omega
  have HAl := Lib.hid hA
  have HBl := Lib.hid hB
  clear hA hB
  rw [← hun] at hui ⊢
  rw [← hbn] at hvi ⊢
  obtain ⟨wa, hwa⟩ : ∃ x, x = w.alloc (.cells #[.int .i64 hr, .slice ua un uc, .slice va bn vc] 98) := ⟨_, rfl⟩
  obtain ⟨w3, hw3⟩ : ∃ x, x = wa.alloc (.cells #[.int .i64 0, .slice none 0 0, .slice none 0 0] 98) := ⟨_, rfl⟩
  have hba : Below w.heap.size w wa := by rw [hwa]; exact below_alloc _ _
  have hbb : Below wa.heap.size wa w3 := by rw [hw3]; exact below_alloc _ _
  have hsa : wa.heap.size = w.heap.size + 1 := by rw [hwa]; exact Array.size_push _
  obtain ⟨b5, hb5⟩ : ∃ x, x = w.heap.size := ⟨_, rfl⟩
  obtain ⟨b4, hb4⟩ : ∃ x, x = w.heap.size + 1 := ⟨_, rfl⟩
  have HX := Lib.hid (show w3.heap[b5]? = some (.cells #[.int .i64 hr, .slice ua un uc, .slice va bn vc] 98 (0, 0)) from blk_keep2 (by rw [hwa, hb5]; exact heap_alloc_new _ _) hbb)
  have HZ := Lib.hid (show w3.heap[b4]? = some (.cells #[.int .i64 0, .slice none 0 0, .slice none 0 0] 98 (0, 0)) from by rw [hw3, hb4, ← hsa]; exact heap_alloc_new _ _)
  have Hb3 := Lib.hid (Below.tr hba hbb)
  have Hui := Lib.hid (hui.keep Hb3.out)
  have Hvi := Lib.hid (hvi.keep Hb3.out)
  have H4g := Lib.hid (show w.heap.size ≤ b4 from by omega)
  have Hwa := Lib.hid hwa
  have Hw3 := Lib.hid hw3
  have Hb5 := Lib.hid hb5
  have Hb4 := Lib.hid hb4
  clear hui hvi hwa hw3 hba hbb hsa hb5 hb4 hun hbn
  go_enter Try.func65, Try.ntmps65
  go_upto_region 1 with fail
  rw [← Hwa.out, ← Hw3.out, ← Hb4.out, ← Hb5.out]
  clear Hwa Hw3
  have g0 := aCell HX.out 0 rfl
  have g1 := aCell HX.out 1 rfl
  have HC := Lib.hid (copyAtom_any hr A (.slice ua un uc) w3 Hui.out HAl.out)
  go_upto_region 2 with (first | (refine HC.out.mono ?_; clear HC; rintro e w4 ⟨ha, hn2, hc4, rfl, hhi, hb4⟩))
  obtain ⟨w5, hw5⟩ : ∃ x, x = w4.alloc (.cells #[.int .i64 hr, .slice ha hn2 hc4, .slice none 0 0] 98) := ⟨_, rfl⟩
  have hb5 : Below w4.heap.size w4 w5 := by rw [hw5]; exact below_alloc _ _
  obtain ⟨bx, hbx⟩ : ∃ x, x = w4.heap.size := ⟨_, rfl⟩
  have HXb := Lib.hid (show w5.heap[bx]? = some (.cells #[.int .i64 hr, .slice ha hn2 hc4, .slice none 0 0] 98 (0, 0)) from by rw [hw5, hbx]; exact heap_alloc_new _ _)
  have Hbxg := Lib.hid (show w3.heap.size ≤ bx from by rw [hbx]; exact hb4.size)
  have HH5 := Lib.hid (hhi.keep hb5)
  have HB5 := Lib.hid (Below.tr hb4 hb5)
  have HXk := Lib.hid (blk_keep2 (blk_keep2 HX.out hb4) hb5)
  have Hw5 := Lib.hid hw5
  have Hbx := Lib.hid hbx
  rw [← Hw5.out, ← Hbx.out]
  clear hhi hb4 hw5 hb5 hbx g0 g1 HX
  clear Hw5
  have g2 := aCell HXk.out 2 rfl
  obtain ⟨a6, b6, off6, cap6, he6, hvl, hia6, _, hcs6⟩ := Lits.get Hvi.out
  rw [← Hbn.out] at he6 hvl hia6 hcs6
  injection he6 with e1 e2 e3
  subst e1 e3
  have Hix6 := Lib.hid (run_ix (P := Try.prog) (t := 96) (a := va) (len := bn) (cap := vc) (b := b6) (off := off6) (s := 3) Try.underlying96 (by intro w; kernel_rfl) hia6)
  have Hc6 := Lib.hid hcs6
  have Hvl := Lib.hid hvl
  clear hia6 hcs6 e2
  go_wp2_with fail
  clear g2
  go_loopw [13] (fun vi wr => ∃ (j : Nat) (pa : Option Addr) (pn pc : Nat), vi = .int .i64 j ∧ j ≤ bn ∧ wr.heap[bx]? = some (.cells #[.int .i64 hr, .slice ha hn2 hc4, .slice pa pn pc] 98 (0, 0)) ∧ OwnInts w3.heap.size wr (.slice ha hn2 hc4) A ∧ OLit w3.heap.size wr (.slice pa pn pc) (bd.take j) ∧ Below w3.heap.size w3 wr) (fun vi _ => bn - (intOf vi).toNat)
  case atStart => exact ⟨0, none, 0, 0, rfl, Nat.zero_le _, HXb.out, HH5.out, ownS_nil _ _ _ _, HB5.out⟩
  case round =>
    clear HXb HH5 HB5 HXk
    generalize wr = wy at *
    obtain ⟨j, pa, pn, pc, rfl, hj, hx, hh, hl, hb⟩ := hrel
    have HX := Lib.hid hx
    have HH := Lib.hid hh
    have HL := Lib.hid hl
    have HB := Lib.hid hb
    clear hx hh hl hb
    by_cases hjl : j < bn
    · obtain ⟨xa, xc, hd0, hd1, hd2, hxi⟩ := Hc6.out j hjl
      have hd0 := Below.keep HB.out hd0
      have hd1 := Below.keep HB.out hd1
      have hd2 := Below.keep HB.out hd2
      have hixj := Hix6.out j
      have hj2 : j < bd.length := by rw [← Hbn.out]; exact hjl
      have HT5 := Lib.hid (show bd.take (j + 1) = bd.take j ++ [lL bd j] from by
        rw [List.take_succ_eq_append_getElem hj2, lL_get hj2])
      have HXl := Lib.hid (HBl.out j hj2)
      obtain ⟨⟨N, s, X⟩, hx⟩ : ∃ x, x = lL bd j := ⟨_, rfl⟩
      rw [← hx] at hd0 hd1 hd2 hxi HT5 HXl
      simp only at hd0 hd1 hd2 hxi
      obtain ⟨xn, hxn⟩ : ∃ x, x = X.length := ⟨_, rfl⟩
      rw [← hxn] at hd2 hxi
      obtain ⟨w7, hw7⟩ : ∃ x, x = wy.alloc (.cells #[.bool N, .int .i64 s, .slice xa xn xc] 100) := ⟨_, rfl⟩
      have hb7 : Below wy.heap.size wy w7 := by rw [hw7]; exact below_alloc _ _
      obtain ⟨b8, hb8⟩ : ∃ x, x = wy.heap.size := ⟨_, rfl⟩
      have H8 := Lib.hid (show w7.heap[b8]? = some (.cells #[.bool N, .int .i64 s, .slice xa xn xc] 100 (0, 0)) from by rw [hw7, hb8]; exact heap_alloc_new _ _)
      have HX7 := Lib.hid (blk_keep2 HX.out hb7)
      have HH7 := Lib.hid (HH.out.keep hb7)
      have HL7 := Lib.hid (HL.out.keep hb7)
      have HB7 := Lib.hid (Below.tr HB.out hb7)
      have Hxi := Lib.hid ((hxi.keep HB.out).keep hb7)
      have Hn8 := Lib.hid (show bx ≠ b8 from by have := (Array.getElem?_eq_some_iff.1 HX.out).1; omega)
      have HNb := Lib.hid (show some b8 ≠ (Value.slice pa pn pc).ownBlock from fun e => by
        obtain ⟨_, _, _, h3⟩ := HL.out
        have := (own_lt h3 e.symm).2
        omega)
      have Hw7 := Lib.hid hw7
      have Hb8 := Lib.hid hb8
      clear hx hxn hxi hw7 hb7 hb8 hj2
      go_upto_region 5 with fail
      rw [← Hw7.out, ← Hb8.out]
      clear Hw7 hd0 hd1 hd2 hixj
      have HB0 := Lib.hid (show Below w3.heap.size w3 w7.drew from HB7.out.drew)
      have HX0 := Lib.hid (show w7.drew.heap[bx]? = some (.cells #[.int .i64 hr, .slice ha hn2 hc4, .slice pa pn pc] 98 (0, 0)) from HX7.out)
      have HS0 := Lib.hid (show w7.drew.heap[b8]? = some (.cells #[.bool N, .int .i64 s, .slice xa xn xc] 100 (0, 0)) from H8.out)
      have HH0 := Lib.hid (show OwnInts w3.heap.size w7.drew (.slice ha hn2 hc4) A from HH7.out)
      have HL0 := Lib.hid (show OLit w3.heap.size w7.drew (.slice pa pn pc) (bd.take j) from HL7.out)
      have HI0 := Lib.hid (show Ints w7.drew (.slice xa xn xc) X from Hxi.out)
      refine wp_region_held (S := fun w' => w'.heap[b8]? = some (.cells #[.bool N, .int .i64 s, .slice xa xn xc] 100 (0, 0))) wideK ?_
      change wpAnyH _ _ _ _ _ _ _ _ (World.drew _)
      generalize w7.drew = wd0 at *
      refine wpAnyH_take (i := 0) (v := ?_) rfl (by kernel_rfl) (by kernel_rfl) (by kernel_rfl) (fun _ _ _ h => h) (Or.inl ⟨by rfl, ?_⟩) HS0.out ?_
      rotate_left
      focus (intro w hS; clear hS; first | (go_simp; done) | (go_simp; with_reducible rfl))
      simp only [Act.put, List.getElem_toArray, List.getElem_cons_zero, List.setIfInBounds_toArray, List.set_cons_zero, List.set_cons_succ]
      refine wpAnyH_take (i := 2) (v := ?_) rfl (by kernel_rfl) (by kernel_rfl) (by kernel_rfl) (fun _ _ _ h => h) (Or.inl ⟨by rfl, ?_⟩) HS0.out ?_
      rotate_left
      focus (intro w hS; clear hS; first | (go_simp; done) | (go_simp; with_reducible rfl))
      simp only [Act.put, List.getElem_toArray, List.getElem_cons_zero, List.getElem_cons_succ, List.setIfInBounds_toArray, List.set_cons_zero, List.set_cons_succ]
      refine wpAnyH_take (i := 3) (v := ?_) rfl (by kernel_rfl) (by kernel_rfl) (by kernel_rfl) (fun _ _ _ h => h) (Or.inl ⟨by rfl, ?_⟩) HS0.out ?_
      rotate_left
      focus (intro w hS; have s0 := aCell hS 0 rfl; clear hS; first | (go_simp; done) | (go_simp; with_reducible rfl))
      simp only [Act.put, List.getElem_toArray, List.getElem_cons_zero, List.getElem_cons_succ, List.setIfInBounds_toArray, List.set_cons_zero, List.set_cons_succ]
      refine wpAnyH_take (i := 4) (v := ?_) rfl (by kernel_rfl) (by kernel_rfl) (by kernel_rfl) (fun _ _ _ h => h) (Or.inl ⟨by rfl, ?_⟩) HS0.out ?_
      rotate_left
      focus (intro w hS; clear hS; first | (go_simp; done) | (go_simp; with_reducible rfl))
      simp only [Act.put, List.getElem_toArray, List.getElem_cons_zero, List.getElem_cons_succ, List.setIfInBounds_toArray, List.set_cons_zero, List.set_cons_succ]
      refine wpAnyH_take (i := 5) (v := ?_) rfl (by kernel_rfl) (by kernel_rfl) (by kernel_rfl) (fun _ _ _ h => h) (Or.inl ⟨by rfl, ?_⟩) HS0.out ?_
      rotate_left
      focus (intro w hS; have s1 := aCell hS 1 rfl; have s2 := aCell hS 2 rfl; clear hS; first | (go_simp; done) | (go_simp; with_reducible rfl))
      simp only [Act.put, List.getElem_toArray, List.getElem_cons_zero, List.getElem_cons_succ, List.setIfInBounds_toArray, List.set_cons_zero, List.set_cons_succ]
      refine wpAnyH_ready (rs := [1, 6]) (by kernel_rfl) (by simp) ?_
      refine RdyH.cons rfl (fun K2 hK => ?_) ?_
      · have gx2 := aCell HX0.out 2 rfl
        go_simp
        refine hK _ _ HS0.out ?_
        clear hK K2 gx2
        refine wpAnyH_ready (rs := [6]) (by kernel_rfl) (by simp) ?_
        refine RdyH.cons rfl (fun K2 hK => ?_) RdyH.nil
        go_simp
        go_at_call 118
        refine (copyAtom_any s X (.slice xa xn xc) wd0 HI0.out HXl.out).mono ?_
        rintro e wd1 ⟨y1, y2, y3, rfl, hy, hb⟩
        have HB1 := Lib.hid (Below.tr HB0.out hb)
        have HX1 := Lib.hid (blk_keep2 HX0.out hb)
        have HS1 := Lib.hid (blk_keep2 HS0.out hb)
        have HH1 := Lib.hid (HH0.out.keep hb)
        have HL1 := Lib.hid (HL0.out.keep hb)
        have HI1 := Lib.hid (HI0.out.keep hb)
        have HY := Lib.hid (hy.base HB0.out.size)
        clear hy hb
        go_simp
        refine hK _ _ HS1.out ?_
        clear hK K2
        refine wpAnyH_take (i := 7) (v := ?_) rfl (by kernel_rfl) (by kernel_rfl) (by kernel_rfl) (fun _ _ _ h => h) (Or.inl ⟨by rfl, ?_⟩) HS1.out ?_
        rotate_left
        focus (intro w hS; clear hS; first | (go_simp; done) | (go_simp; with_reducible rfl))
        simp only [Act.put, List.getElem_toArray, List.getElem_cons_zero, List.getElem_cons_succ, List.setIfInBounds_toArray, List.set_cons_zero, List.set_cons_succ]
        refine wpAnyH_ready (rs := [8]) (by kernel_rfl) (by simp) ?_
        refine RdyH.cons rfl (fun K2 hK => ?_) RdyH.nil
        obtain ⟨wd2, hwd⟩ : ∃ x, x = wd1.alloc (.cells #[.bool N, .int .i64 s, .slice y1 y2 y3] 100) := ⟨_, rfl⟩
        have hb : Below wd1.heap.size wd1 wd2 := by rw [hwd]; exact below_alloc _ _
        obtain ⟨bm, hbm⟩ : ∃ x, x = wd1.heap.size := ⟨_, rfl⟩
        have HK := Lib.hid (show wd2.heap[bm]? = some (.cells #[.bool N, .int .i64 s, .slice y1 y2 y3] 100 (0, 0)) from by rw [hwd, hbm]; exact heap_alloc_new _ _)
        have HB2 := Lib.hid (Below.tr HB1.out hb)
        have HX2 := Lib.hid (blk_keep2 HX1.out hb)
        have HS2 := Lib.hid (blk_keep2 HS1.out hb)
        have HH2 := Lib.hid (HH1.out.keep hb)
        have HL2 := Lib.hid (HL1.out.keep hb)
        have HI2 := Lib.hid (HI1.out.keep hb)
        have HY2 := Lib.hid (HY.out.keep hb)
        go_simp
        rw [← hwd, ← hbm]
        clear hwd hbm hb
        refine hK _ _ HS2.out ?_
        clear hK K2
        refine wpAnyH_ready (rs := [9]) (by kernel_rfl) (by simp) ?_
        refine RdyH.cons rfl (fun K2 hK => ?_) RdyH.nil
        obtain ⟨cs, s1, s2, s3⟩ := HL2.out
        have hl2 : (bd.take j).length + 1 ≤ 100000000000 := by rw [List.length_take]; omega
        refine step_append_own_g rfl (.tmp 18) (.tmp 25) 96 rfl elemLits rfl s3 (m := 1) [.bool N, .int .i64 s, .slice y1 y2 y3] rfl rfl (fun k y hk => aCell HK.out k (by simpa using hk)) (by intro u hu; simp at hu; rcases hu with rfl | rfl | rfl <;> rfl) hl2 HB2.out.size ?_
        intro v9 wd3 h1 h2 h3
        have hapI : ∀ b n u (xs : List Value), wd2.ownsRow b 3 1 u n xs → u.ownBlock = none ∨ u.ownBlock ≠ (Value.slice pa pn pc).ownBlock := fun b n u xs h => rows_apart h s3 (by decide)
        have HL3 := Lib.hid (show OLit w3.heap.size wd3 v9 (bd.take (j + 1)) from by
          rw [HT5.out]
          refine ownS_snoc s1 (fun i h h' => ⟨?_, (s2 i h h').2⟩) ?_ rfl h1
          · obtain ⟨⟨u, e, k1⟩, _⟩ := s2 i h h'
            exact ⟨u, e, World.ownsRow.kept k1 h3 (hapI _ _ _ _ k1)⟩
          · exact ⟨_, rfl, World.ownsRow.kept HY2.out h3 (hapI _ _ _ _ HY2.out)⟩)
        have HH3 := Lib.hid (show OwnInts w3.heap.size wd3 (.slice ha hn2 hc4) A from World.ownsRow.kept HH2.out h3 (hapI _ _ _ _ HH2.out))
        have hbx' := block_grown s3 h3 HX2.out (by decide)
        have hb8' := (h3.block b8 (Array.getElem?_eq_some_iff.1 HS2.out).1 HNb.out).trans HS2.out
        have HX3 := Lib.hid hbx'
        have HS3 := Lib.hid hb8'
        have HB3 := Lib.hid (HB2.out.trans h2)
        obtain ⟨za, zn, zc, rfl⟩ := row_slice h1
        clear s1 s2 s3 h1 h2 h3 hapI hbx' hb8' hl2
        refine hK _ _ HS3.out ?_
        clear hK K2
        refine wpAnyH_take (i := 10) (v := ?_) rfl (by kernel_rfl) (by kernel_rfl) (by kernel_rfl) (fun _ _ _ h => h) (Or.inl ⟨by rfl, ?_⟩) HS3.out ?_
        rotate_left
        focus (intro w hS; clear hS; first | (go_simp; done) | (go_simp; with_reducible rfl))
        simp only [Act.put, List.getElem_toArray, List.getElem_cons_zero, List.getElem_cons_succ, List.setIfInBounds_toArray, List.set_cons_zero, List.set_cons_succ]
        refine wpAnyH_ready (rs := [11]) (by kernel_rfl) (by simp) ?_
        refine RdyH.cons rfl (fun K2 hK => ?_) RdyH.nil
        have x1 := aCell HX3.out 2 rfl
        have x2 := frozen_of_row wd3 bx 2 _ _ HX3.out
        have hb8' := (heap_setCell_other wd3 ⟨bx, 2, none⟩ b8 (.slice za zn zc) Hn8.out.symm).trans HS3.out
        have HS4 := Lib.hid hb8'
        have hgr := grown_setCell wd3 bx 2 (.slice za zn zc)
        have HX4 := Lib.hid (show (wd3.setCell ⟨bx, 2, none⟩ (.slice za zn zc)).heap[bx]? = some (.cells #[.int .i64 hr, .slice ha hn2 hc4, .slice za zn zc] 98 (0, 0)) from by rw [heap_setCell_same wd3 bx 2 _ _ (.slice za zn zc) HX3.out]; rfl)
        have HH4 := Lib.hid (show OwnInts w3.heap.size (wd3.setCell ⟨bx, 2, none⟩ (.slice za zn zc)) (.slice ha hn2 hc4) A from World.ownsRow.kept HH3.out hgr (int_apart (by decide) HX3.out _ _ _ _ HH3.out))
        have HL4 := Lib.hid (HL3.out.apart hgr (lit_apart (by decide) HX3.out HL3.out) fun b n u A h => int_apart (by decide) HX3.out _ _ _ _ h)
        have HB4 := Lib.hid (show Below w3.heap.size w3 (wd3.setCell ⟨bx, 2, none⟩ (.slice za zn zc)) from HB3.out.trans ⟨rfl, rfl, rfl, by simp, fun k hk => heap_setCell_other wd3 ⟨bx, 2, none⟩ k _ (by show k ≠ bx; have := Hbxg.out; omega)⟩)
        clear hgr
        go_simp
        refine hK _ _ hb8' ?_
        clear hK K2 x1 x2 hb8'
        generalize wd3.setCell ⟨bx, 2, none⟩ (.slice za zn zc) = wd4 at *
        refine wpAnyH_done (by kernel_rfl) ?_ _
        go_wp2_with fail
        go_roundw
        case rel => exact ⟨j + 1, za, zn, zc, by go_num, by omega, HX4.out, HH4.out, HL4.out, HB4.out⟩
        case measure => simp [intOf]; omega
      · refine RdyH.cons rfl (fun K2 hK => ?_) RdyH.nil
        go_simp
        go_at_call 118
        refine (copyAtom_any s X (.slice xa xn xc) wd0 HI0.out HXl.out).mono ?_
        rintro e wd1 ⟨y1, y2, y3, rfl, hy, hb⟩
        have HB1 := Lib.hid (Below.tr HB0.out hb)
        have HX1 := Lib.hid (blk_keep2 HX0.out hb)
        have HS1 := Lib.hid (blk_keep2 HS0.out hb)
        have HH1 := Lib.hid (HH0.out.keep hb)
        have HL1 := Lib.hid (HL0.out.keep hb)
        have HI1 := Lib.hid (HI0.out.keep hb)
        have HY := Lib.hid (hy.base HB0.out.size)
        clear hy hb
        go_simp
        refine hK _ _ HS1.out ?_
        clear hK K2
        refine wpAnyH_take (i := 7) (v := ?_) rfl (by kernel_rfl) (by kernel_rfl) (by kernel_rfl) (fun _ _ _ h => h) (Or.inl ⟨by rfl, ?_⟩) HS1.out ?_
        rotate_left
        focus (intro w hS; clear hS; first | (go_simp; done) | (go_simp; with_reducible rfl))
        simp only [Act.put, List.getElem_toArray, List.getElem_cons_zero, List.getElem_cons_succ, List.setIfInBounds_toArray, List.set_cons_zero, List.set_cons_succ]
        refine wpAnyH_ready (rs := [1, 8]) (by kernel_rfl) (by simp) ?_
        refine RdyH.cons rfl (fun K2 hK => ?_) ?_
        · have gx2 := aCell HX1.out 2 rfl
          go_simp
          refine hK _ _ HS1.out ?_
          clear hK K2 gx2
          refine wpAnyH_ready (rs := [8]) (by kernel_rfl) (by simp) ?_
          refine RdyH.cons rfl (fun K2 hK => ?_) RdyH.nil
          obtain ⟨wd2, hwd⟩ : ∃ x, x = wd1.alloc (.cells #[.bool N, .int .i64 s, .slice y1 y2 y3] 100) := ⟨_, rfl⟩
          have hb : Below wd1.heap.size wd1 wd2 := by rw [hwd]; exact below_alloc _ _
          obtain ⟨bm, hbm⟩ : ∃ x, x = wd1.heap.size := ⟨_, rfl⟩
          have HK := Lib.hid (show wd2.heap[bm]? = some (.cells #[.bool N, .int .i64 s, .slice y1 y2 y3] 100 (0, 0)) from by rw [hwd, hbm]; exact heap_alloc_new _ _)
          have HB2 := Lib.hid (Below.tr HB1.out hb)
          have HX2 := Lib.hid (blk_keep2 HX1.out hb)
          have HS2 := Lib.hid (blk_keep2 HS1.out hb)
          have HH2 := Lib.hid (HH1.out.keep hb)
          have HL2 := Lib.hid (HL1.out.keep hb)
          have HI2 := Lib.hid (HI1.out.keep hb)
          have HY2 := Lib.hid (HY.out.keep hb)
          go_simp
          rw [← hwd, ← hbm]
          clear hwd hbm hb
          refine hK _ _ HS2.out ?_
          clear hK K2
          refine wpAnyH_ready (rs := [9]) (by kernel_rfl) (by simp) ?_
          refine RdyH.cons rfl (fun K2 hK => ?_) RdyH.nil
          obtain ⟨cs, s1, s2, s3⟩ := HL2.out
          have hl2 : (bd.take j).length + 1 ≤ 100000000000 := by rw [List.length_take]; omega
          refine step_append_own_g rfl (.tmp 18) (.tmp 25) 96 rfl elemLits rfl s3 (m := 1) [.bool N, .int .i64 s, .slice y1 y2 y3] rfl rfl (fun k y hk => aCell HK.out k (by simpa using hk)) (by intro u hu; simp at hu; rcases hu with rfl | rfl | rfl <;> rfl) hl2 HB2.out.size ?_
          intro v9 wd3 h1 h2 h3
          have hapI : ∀ b n u (xs : List Value), wd2.ownsRow b 3 1 u n xs → u.ownBlock = none ∨ u.ownBlock ≠ (Value.slice pa pn pc).ownBlock := fun b n u xs h => rows_apart h s3 (by decide)
          have HL3 := Lib.hid (show OLit w3.heap.size wd3 v9 (bd.take (j + 1)) from by
            rw [HT5.out]
            refine ownS_snoc s1 (fun i h h' => ⟨?_, (s2 i h h').2⟩) ?_ rfl h1
            · obtain ⟨⟨u, e, k1⟩, _⟩ := s2 i h h'
              exact ⟨u, e, World.ownsRow.kept k1 h3 (hapI _ _ _ _ k1)⟩
            · exact ⟨_, rfl, World.ownsRow.kept HY2.out h3 (hapI _ _ _ _ HY2.out)⟩)
          have HH3 := Lib.hid (show OwnInts w3.heap.size wd3 (.slice ha hn2 hc4) A from World.ownsRow.kept HH2.out h3 (hapI _ _ _ _ HH2.out))
          have hbx' := block_grown s3 h3 HX2.out (by decide)
          have hb8' := (h3.block b8 (Array.getElem?_eq_some_iff.1 HS2.out).1 HNb.out).trans HS2.out
          have HX3 := Lib.hid hbx'
          have HS3 := Lib.hid hb8'
          have HB3 := Lib.hid (HB2.out.trans h2)
          obtain ⟨za, zn, zc, rfl⟩ := row_slice h1
          clear s1 s2 s3 h1 h2 h3 hapI hbx' hb8' hl2
          refine hK _ _ HS3.out ?_
          clear hK K2
          refine wpAnyH_take (i := 10) (v := ?_) rfl (by kernel_rfl) (by kernel_rfl) (by kernel_rfl) (fun _ _ _ h => h) (Or.inl ⟨by rfl, ?_⟩) HS3.out ?_
          rotate_left
          focus (intro w hS; clear hS; first | (go_simp; done) | (go_simp; with_reducible rfl))
          simp only [Act.put, List.getElem_toArray, List.getElem_cons_zero, List.getElem_cons_succ, List.setIfInBounds_toArray, List.set_cons_zero, List.set_cons_succ]
          refine wpAnyH_ready (rs := [11]) (by kernel_rfl) (by simp) ?_
          refine RdyH.cons rfl (fun K2 hK => ?_) RdyH.nil
          have x1 := aCell HX3.out 2 rfl
          have x2 := frozen_of_row wd3 bx 2 _ _ HX3.out
          have hb8' := (heap_setCell_other wd3 ⟨bx, 2, none⟩ b8 (.slice za zn zc) Hn8.out.symm).trans HS3.out
          have HS4 := Lib.hid hb8'
          have hgr := grown_setCell wd3 bx 2 (.slice za zn zc)
          have HX4 := Lib.hid (show (wd3.setCell ⟨bx, 2, none⟩ (.slice za zn zc)).heap[bx]? = some (.cells #[.int .i64 hr, .slice ha hn2 hc4, .slice za zn zc] 98 (0, 0)) from by rw [heap_setCell_same wd3 bx 2 _ _ (.slice za zn zc) HX3.out]; rfl)
          have HH4 := Lib.hid (show OwnInts w3.heap.size (wd3.setCell ⟨bx, 2, none⟩ (.slice za zn zc)) (.slice ha hn2 hc4) A from World.ownsRow.kept HH3.out hgr (int_apart (by decide) HX3.out _ _ _ _ HH3.out))
          have HL4 := Lib.hid (HL3.out.apart hgr (lit_apart (by decide) HX3.out HL3.out) fun b n u A h => int_apart (by decide) HX3.out _ _ _ _ h)
          have HB4 := Lib.hid (show Below w3.heap.size w3 (wd3.setCell ⟨bx, 2, none⟩ (.slice za zn zc)) from HB3.out.trans ⟨rfl, rfl, rfl, by simp, fun k hk => heap_setCell_other wd3 ⟨bx, 2, none⟩ k _ (by show k ≠ bx; have := Hbxg.out; omega)⟩)
          clear hgr
          go_simp
          refine hK _ _ hb8' ?_
          clear hK K2 x1 x2 hb8'
          generalize wd3.setCell ⟨bx, 2, none⟩ (.slice za zn zc) = wd4 at *
          refine wpAnyH_done (by kernel_rfl) ?_ _
          go_wp2_with fail
          go_roundw
          case rel => exact ⟨j + 1, za, zn, zc, by go_num, by omega, HX4.out, HH4.out, HL4.out, HB4.out⟩
          case measure => simp [intOf]; omega
        · refine RdyH.cons rfl (fun K2 hK => ?_) RdyH.nil
          obtain ⟨wd2, hwd⟩ : ∃ x, x = wd1.alloc (.cells #[.bool N, .int .i64 s, .slice y1 y2 y3] 100) := ⟨_, rfl⟩
          have hb : Below wd1.heap.size wd1 wd2 := by rw [hwd]; exact below_alloc _ _
          obtain ⟨bm, hbm⟩ : ∃ x, x = wd1.heap.size := ⟨_, rfl⟩
          have HK := Lib.hid (show wd2.heap[bm]? = some (.cells #[.bool N, .int .i64 s, .slice y1 y2 y3] 100 (0, 0)) from by rw [hwd, hbm]; exact heap_alloc_new _ _)
          have HB2 := Lib.hid (Below.tr HB1.out hb)
          have HX2 := Lib.hid (blk_keep2 HX1.out hb)
          have HS2 := Lib.hid (blk_keep2 HS1.out hb)
          have HH2 := Lib.hid (HH1.out.keep hb)
          have HL2 := Lib.hid (HL1.out.keep hb)
          have HI2 := Lib.hid (HI1.out.keep hb)
          have HY2 := Lib.hid (HY.out.keep hb)
          go_simp
          rw [← hwd, ← hbm]
          clear hwd hbm hb
          refine hK _ _ HS2.out ?_
          clear hK K2
          refine wpAnyH_ready (rs := [1]) (by kernel_rfl) (by simp) ?_
          refine RdyH.cons rfl (fun K2 hK => ?_) RdyH.nil
          have gx2 := aCell HX2.out 2 rfl
          go_simp
          refine hK _ _ HS2.out ?_
          clear hK K2 gx2
          refine wpAnyH_ready (rs := [9]) (by kernel_rfl) (by simp) ?_
          refine RdyH.cons rfl (fun K2 hK => ?_) RdyH.nil
          obtain ⟨cs, s1, s2, s3⟩ := HL2.out
          have hl2 : (bd.take j).length + 1 ≤ 100000000000 := by rw [List.length_take]; omega
          refine step_append_own_g rfl (.tmp 18) (.tmp 25) 96 rfl elemLits rfl s3 (m := 1) [.bool N, .int .i64 s, .slice y1 y2 y3] rfl rfl (fun k y hk => aCell HK.out k (by simpa using hk)) (by intro u hu; simp at hu; rcases hu with rfl | rfl | rfl <;> rfl) hl2 HB2.out.size ?_
          intro v9 wd3 h1 h2 h3
          have hapI : ∀ b n u (xs : List Value), wd2.ownsRow b 3 1 u n xs → u.ownBlock = none ∨ u.ownBlock ≠ (Value.slice pa pn pc).ownBlock := fun b n u xs h => rows_apart h s3 (by decide)
          have HL3 := Lib.hid (show OLit w3.heap.size wd3 v9 (bd.take (j + 1)) from by
            rw [HT5.out]
            refine ownS_snoc s1 (fun i h h' => ⟨?_, (s2 i h h').2⟩) ?_ rfl h1
            · obtain ⟨⟨u, e, k1⟩, _⟩ := s2 i h h'
              exact ⟨u, e, World.ownsRow.kept k1 h3 (hapI _ _ _ _ k1)⟩
            · exact ⟨_, rfl, World.ownsRow.kept HY2.out h3 (hapI _ _ _ _ HY2.out)⟩)
          have HH3 := Lib.hid (show OwnInts w3.heap.size wd3 (.slice ha hn2 hc4) A from World.ownsRow.kept HH2.out h3 (hapI _ _ _ _ HH2.out))
          have hbx' := block_grown s3 h3 HX2.out (by decide)
          have hb8' := (h3.block b8 (Array.getElem?_eq_some_iff.1 HS2.out).1 HNb.out).trans HS2.out
          have HX3 := Lib.hid hbx'
          have HS3 := Lib.hid hb8'
          have HB3 := Lib.hid (HB2.out.trans h2)
          obtain ⟨za, zn, zc, rfl⟩ := row_slice h1
          clear s1 s2 s3 h1 h2 h3 hapI hbx' hb8' hl2
          refine hK _ _ HS3.out ?_
          clear hK K2
          refine wpAnyH_take (i := 10) (v := ?_) rfl (by kernel_rfl) (by kernel_rfl) (by kernel_rfl) (fun _ _ _ h => h) (Or.inl ⟨by rfl, ?_⟩) HS3.out ?_
          rotate_left
          focus (intro w hS; clear hS; first | (go_simp; done) | (go_simp; with_reducible rfl))
          simp only [Act.put, List.getElem_toArray, List.getElem_cons_zero, List.getElem_cons_succ, List.setIfInBounds_toArray, List.set_cons_zero, List.set_cons_succ]
          refine wpAnyH_ready (rs := [11]) (by kernel_rfl) (by simp) ?_
          refine RdyH.cons rfl (fun K2 hK => ?_) RdyH.nil
          have x1 := aCell HX3.out 2 rfl
          have x2 := frozen_of_row wd3 bx 2 _ _ HX3.out
          have hb8' := (heap_setCell_other wd3 ⟨bx, 2, none⟩ b8 (.slice za zn zc) Hn8.out.symm).trans HS3.out
          have HS4 := Lib.hid hb8'
          have hgr := grown_setCell wd3 bx 2 (.slice za zn zc)
          have HX4 := Lib.hid (show (wd3.setCell ⟨bx, 2, none⟩ (.slice za zn zc)).heap[bx]? = some (.cells #[.int .i64 hr, .slice ha hn2 hc4, .slice za zn zc] 98 (0, 0)) from by rw [heap_setCell_same wd3 bx 2 _ _ (.slice za zn zc) HX3.out]; rfl)
          have HH4 := Lib.hid (show OwnInts w3.heap.size (wd3.setCell ⟨bx, 2, none⟩ (.slice za zn zc)) (.slice ha hn2 hc4) A from World.ownsRow.kept HH3.out hgr (int_apart (by decide) HX3.out _ _ _ _ HH3.out))
          have HL4 := Lib.hid (HL3.out.apart hgr (lit_apart (by decide) HX3.out HL3.out) fun b n u A h => int_apart (by decide) HX3.out _ _ _ _ h)
          have HB4 := Lib.hid (show Below w3.heap.size w3 (wd3.setCell ⟨bx, 2, none⟩ (.slice za zn zc)) from HB3.out.trans ⟨rfl, rfl, rfl, by simp, fun k hk => heap_setCell_other wd3 ⟨bx, 2, none⟩ k _ (by show k ≠ bx; have := Hbxg.out; omega)⟩)
          clear hgr
          go_simp
          refine hK _ _ hb8' ?_
          clear hK K2 x1 x2 hb8'
          generalize wd3.setCell ⟨bx, 2, none⟩ (.slice za zn zc) = wd4 at *
          refine wpAnyH_done (by kernel_rfl) ?_ _
          go_wp2_with fail
          go_roundw
          case rel => exact ⟨j + 1, za, zn, zc, by go_num, by omega, HX4.out, HH4.out, HL4.out, HB4.out⟩
          case measure => simp [intOf]; omega
    · obtain rfl : bn = j := by omega
      have HLe := Lib.hid (show OLit w.heap.size wy (.slice pa pn pc) bd from by
        have := HL.out
        rw [Hbn.out, List.take_length] at this; exact this.mono Hb3.out.size)
      have HHe := Lib.hid (show OwnInts w.heap.size wy (.slice ha hn2 hc4) A from HH.out.base Hb3.out.size)
      have HBw := Lib.hid (show Below w.heap.size w wy from Below.tr Hb3.out HB.out)
      have HZ8 := Lib.hid (show wy.heap[b4]? = some (.cells #[.int .i64 0, .slice none 0 0, .slice none 0 0] 98 (0, 0)) from blk_keep2 HZ.out HB.out)
      have Hlt := Lib.hid (show b4 < w3.heap.size from (Array.getElem?_eq_some_iff.1 HZ.out).1)
      have gx0 := aCell HX.out 0 rfl
      have gx1 := aCell HX.out 1 rfl
      have gx2 := aCell HX.out 2 rfl
      have HX9 := Lib.hid (setRow_heap wy b4 _ #[.int .i64 hr, .slice ha hn2 hc4, .slice pa pn pc] _ _ HZ8.out)
      have HB9 := Lib.hid (below_setRow (b := b4) HBw.out H4g.out #[.int .i64 hr, .slice ha hn2 hc4, .slice pa pn pc])
      have hap : ∀ k, w3.heap.size ≤ k → k < wy.heap.size → (wy.setRow b4 #[.int .i64 hr, .slice ha hn2 hc4, .slice pa pn pc]).heap[k]? = wy.heap[k]? := fun k hk _ => setRow_other wy b4 k _ (by have := Hlt.out; omega)
      have HH9 := Lib.hid (show OwnInts w.heap.size (wy.setRow b4 #[.int .i64 hr, .slice ha hn2 hc4, .slice pa pn pc]) (.slice ha hn2 hc4) A from by
        refine own_block HHe.out fun k hk => ?_
        have := own_lt HH.out hk
        exact hap k this.1 this.2)
      have HL9 := Lib.hid (show OLit w.heap.size (wy.setRow b4 #[.int .i64 hr, .slice ha hn2 hc4, .slice pa pn pc]) (.slice pa pn pc) bd from by
        have hh := HL.out
        rw [Hbn.out, List.take_length] at hh
        obtain ⟨cs, h1, h2, h3⟩ := hh
        refine ⟨cs, h1, fun i a b => ⟨?_, (h2 i a b).2⟩, ?_⟩
        · obtain ⟨⟨u, e, k⟩, _⟩ := h2 i a b
          refine ⟨u, e, own_block (k.base Hb3.out.size) fun k2 hk => ?_⟩
          have := own_lt k hk
          exact hap k2 this.1 this.2
        · refine own_block (owns_mono h3 Hb3.out.size) fun k hk => ?_
          have := own_lt h3 hk
          exact hap k this.1 this.2)
      clear hap
      go_wp2_with (first | (refine wpList_store_row rfl 98 (.tmp 2) (.tmp 29) rfl b4 #[.int .i64 hr, .slice ha hn2 hc4, .slice pa pn pc] rfl rfl 98 _ HZ8.out sizeRu rfl (oneRu _) ?_))
      generalize wy.setRow b4 #[.int .i64 hr, .slice ha hn2 hc4, .slice pa pn pc] = w9 at *
      refine bodyPost_ret (results_cell_row Try.results65 _ _ b4 98 _ (0, 0) _ rfl HX9.out Try.underlying98 rfl (by kernel_rfl)) rfl ?_
      exact ⟨ha, hn2, hc4, pa, pn, pc, rfl, HH9.out, HL9.out, HB9.out⟩
#print axioms copyRule_any
/-- a set of relations is closed under the rules -/
def CloS (l : List RRule) (D : Nat → Prop) : Prop := ∀ r, r ∈ l → D r.1.1.toNat → ∀ b, b ∈ r.2 → D b.2.1.toNat
def bitS (R : Nat) (i : Nat) : Prop := R.testBit i = true
/-- the needed relations: the least closed set that has q -/
structure NeedS (l : List RRule) (q : Nat) (D : Nat → Prop) : Prop where
  has : D q
  clo : CloS l D
  low : ∀ E : Nat → Prop, E q → CloS l E → ∀ i, D i → E i
theorem NeedS.unique {l : List RRule} {q : Nat} {D E : Nat → Prop} (h : NeedS l q D) (k : NeedS l q E) (i : Nat) : D i ↔ E i := ⟨h.low E k.has k.clo i, k.low D h.has h.clo i⟩
theorem NeedS.congr {l : List RRule} {q : Nat} {D E : Nat → Prop} (h : NeedS l q D) (e : ∀ i, D i ↔ E i) : NeedS l q E := by
  have : D = E := funext fun i => propext (e i)
  exact this ▸ h
def c1 (R i : Nat) : Nat := if R.testBit i = true then 1 else 0
def cnt6 (R : Nat) : Nat := c1 R 0 + c1 R 1 + c1 R 2 + c1 R 3 + c1 R 4 + c1 R 5
theorem c1_le (R i : Nat) : c1 R i ≤ 1 := by unfold c1; split <;> omega
theorem cnt6_le (R : Nat) : cnt6 R ≤ 6 := by
  have := c1_le R 0; have := c1_le R 1; have := c1_le R 2; have := c1_le R 3; have := c1_le R 4; have := c1_le R 5
  unfold cnt6; omega
theorem bit_or (R t i : Nat) : (R ||| 2 ^ t).testBit i = true ↔ R.testBit i = true ∨ t = i := by
  rw [Nat.testBit_or, Bool.or_eq_true, Nat.testBit_two_pow, decide_eq_true_eq]
theorem or_same {R t : Nat} (h : R.testBit t = true) : R ||| 2 ^ t = R := by
  refine Nat.eq_of_testBit_eq fun i => ?_
  have := bit_or R t i
  by_cases e : R.testBit i = true
  · rw [e]; exact this.2 (.inl e)
  · have e2 : ¬ (R ||| 2 ^ t).testBit i = true := fun k => by
      rcases this.1 k with k | k
      · exact e k
      · exact e (k ▸ h)
    rw [Bool.not_eq_true] at e e2
    rw [e, e2]
theorem c1_or (R t i : Nat) : c1 R i ≤ c1 (R ||| 2 ^ t) i := by
  unfold c1
  by_cases e : R.testBit i = true
  · rw [if_pos e, if_pos ((bit_or R t i).2 (.inl e))]; exact Nat.le_refl _
  · rw [if_neg e]; exact Nat.zero_le _
theorem c1_new {R t : Nat} (h : ¬ R.testBit t = true) : c1 R t < c1 (R ||| 2 ^ t) t := by
  unfold c1
  rw [if_neg h, if_pos ((bit_or R t t).2 (.inr rfl))]; omega
theorem cnt6_or (R t : Nat) : cnt6 R ≤ cnt6 (R ||| 2 ^ t) := by
  have := c1_or R t 0; have := c1_or R t 1; have := c1_or R t 2; have := c1_or R t 3; have := c1_or R t 4; have := c1_or R t 5
  unfold cnt6; omega
theorem cnt6_new {R t : Nat} (ht : t < 6) (h : ¬ R.testBit t = true) : cnt6 R < cnt6 (R ||| 2 ^ t) := by
  have := c1_or R t 0; have := c1_or R t 1; have := c1_or R t 2; have := c1_or R t 3; have := c1_or R t 4; have := c1_or R t 5
  have hn := c1_new h
  unfold cnt6
  match t, ht with
  | 0, _ => omega
  | 1, _ => omega
  | 2, _ => omega
  | 3, _ => omega
  | 4, _ => omega
  | 5, _ => omega
/-- all rules before the k-th, and of it the first j literals, have been met -/
def UpN (R : Nat) (l : List RRule) (k j : Nat) : Prop := (∀ r, r ∈ l.take k → bitS R r.1.1.toNat → ∀ b, b ∈ r.2 → bitS R b.2.1.toNat) ∧ (bitS R (rR l k).1.1.toNat → ∀ b, b ∈ (rR l k).2.take j → bitS R b.2.1.toNat)
/-- one round under way -/
structure NR (l : List RRule) (q : Nat) (R0 R k j : Nat) : Prop where
  lt : R < 64
  has : bitS R q
  low : ∀ E : Nat → Prop, E q → CloS l E → ∀ i, bitS R i → E i
  cl : CloS l (bitS R0) → R = R0
  up : (R = R0 ∧ UpN R0 l k j) ∨ cnt6 R0 < cnt6 R
/-- between rounds -/
structure NO (l : List RRule) (q R i : Nat) : Prop where
  lt : R < 64
  has : bitS R q
  low : ∀ E : Nat → Prop, E q → CloS l E → ∀ i, bitS R i → E i
  up : CloS l (bitS R) ∨ i + 1 ≤ cnt6 R
theorem pow_bit (q i : Nat) : bitS (2 ^ q) i ↔ q = i := by unfold bitS; rw [Nat.testBit_two_pow, decide_eq_true_eq]
theorem no_0 (l : List RRule) {q : Nat} (hq : q < 6) : NO l q (2 ^ q) 0 := by
  refine ⟨by have := Nat.pow_lt_pow_right (a := 2) (by decide) hq; omega, (pow_bit q q).2 rfl, fun E h _ i hi => by rw [← (pow_bit q i).1 hi]; exact h, .inr ?_⟩
  have h0 : ¬ (0 : Nat).testBit q = true := by simp
  have := cnt6_new hq h0
  rw [Nat.zero_or] at this
  omega
theorem nr_0 {l : List RRule} {q R i : Nat} (h : NO l q R i) : NR l q R R 0 0 :=
  ⟨h.lt, h.has, h.low, fun _ => rfl, .inl ⟨rfl, ⟨fun r hr => (by rw [List.take_zero] at hr; cases hr), fun _ b hb => (by rw [List.take_zero] at hb; cases hb)⟩⟩⟩
theorem nr_skip {l : List RRule} {q R0 R k : Nat} (h : NR l q R0 R k 0) (hk : k < l.length) (hn : ¬ bitS R (rR l k).1.1.toNat) : NR l q R0 R (k + 1) 0 := by
  refine ⟨h.lt, h.has, h.low, h.cl, ?_⟩
  rcases h.up with ⟨e, h1, _⟩ | h1
  · refine .inl ⟨e, fun r hr hb => ?_, fun _ b hb => by rw [List.take_zero] at hb; cases hb⟩
    rw [List.take_succ_eq_append_getElem hk, ← rR_get hk] at hr
    rcases List.mem_append.1 hr with hr | hr
    · exact h1 r hr hb
    · rw [List.mem_singleton.1 hr, ← e] at hb; exact absurd hb hn
  · exact .inr h1
theorem nr_next {l : List RRule} {q R0 R k j : Nat} (h : NR l q R0 R k j) (hk : k < l.length) (hj : j = (rR l k).2.length) : NR l q R0 R (k + 1) 0 := by
  refine ⟨h.lt, h.has, h.low, h.cl, ?_⟩
  rcases h.up with ⟨e, h1, h2⟩ | h1
  · refine .inl ⟨e, fun r hr hb => ?_, fun _ b hb => by rw [List.take_zero] at hb; cases hb⟩
    rw [List.take_succ_eq_append_getElem hk, ← rR_get hk] at hr
    rcases List.mem_append.1 hr with hr | hr
    · exact h1 r hr hb
    · rw [List.mem_singleton.1 hr] at hb ⊢
      intro b hb2
      exact h2 hb b (by rw [hj, List.take_length]; exact hb2)
  · exact .inr h1
theorem nr_lit {l : List RRule} {q R0 R k j : Nat} (h : NR l q R0 R k j) (hk : k < l.length) (hj : j < (rR l k).2.length) (hh : bitS R (rR l k).1.1.toNat) (ht : (lL (rR l k).2 j).2.1.toNat < 6) : NR l q R0 (R ||| 2 ^ (lL (rR l k).2 j).2.1.toNat) k (j + 1) := by
  have hr : rR l k ∈ l := by rw [rR_get hk]; exact List.getElem_mem hk
  have hb : lL (rR l k).2 j ∈ (rR l k).2 := by rw [lL_get hj]; exact List.getElem_mem hj
  refine ⟨Nat.or_lt_two_pow (n := 6) h.lt (Nat.pow_lt_pow_right (by decide) ht), (bit_or _ _ _).2 (.inl h.has), fun E hE hc i hi => ?_, fun hc => ?_, ?_⟩
  · rcases (bit_or _ _ _).1 hi with hi | hi
    · exact h.low E hE hc i hi
    · rw [← hi]; exact hc _ hr (h.low E hE hc _ hh) _ hb
  · have e := h.cl hc
    subst e
    exact or_same (hc _ hr hh _ hb)
  · by_cases e2 : bitS R (lL (rR l k).2 j).2.1.toNat
    · rw [or_same e2]
      rcases h.up with ⟨e, h1, h2⟩ | h1
      · refine .inl ⟨e, h1, fun hh2 b hb2 => ?_⟩
        rw [List.take_succ_eq_append_getElem hj, ← lL_get hj] at hb2
        rcases List.mem_append.1 hb2 with hb2 | hb2
        · exact h2 hh2 b hb2
        · rw [List.mem_singleton.1 hb2, ← e]; exact e2
      · exact .inr h1
    · have := cnt6_new ht e2
      rcases h.up with ⟨e, _⟩ | h1
      · subst e; exact .inr this
      · exact .inr (by omega)
theorem nr_end {l : List RRule} {q R0 R i : Nat} (h0 : NO l q R0 i) (h : NR l q R0 R l.length 0) : NO l q R (i + 1) := by
  refine ⟨h.lt, h.has, h.low, ?_⟩
  rcases h.up with ⟨e, h1, _⟩ | h1
  · subst e
    rw [List.take_length] at h1
    exact .inl h1
  · rcases h0.up with h2 | h2
    · rw [h.cl h2] at h1; omega
    · exact .inr (by omega)
theorem no_end {l : List RRule} {q R : Nat} (h : NO l q R 6) : NeedS l q (bitS R) := by
  refine ⟨h.has, ?_, h.low⟩
  rcases h.up with h1 | h1
  · exact h1
  · have := cnt6_le R; omega
/-- the rules that count -/
def ndR (R : Nat) (l : List RRule) : List RRule := l.filter fun r => R.testBit r.1.1.toNat
theorem ndR_snoc {R k : Nat} {l : List RRule} (hk : k < l.length) : ndR R (l.take (k + 1)) = if R.testBit (rR l k).1.1.toNat = true then ndR R (l.take k) ++ [rR l k] else ndR R (l.take k) := by
  unfold ndR
  rw [List.take_succ_eq_append_getElem hk, List.filter_append, ← rR_get hk, List.filter_cons, List.filter_nil]
  split
  · rfl
  · rw [List.append_nil]
#print axioms no_end
theorem nshr_bit (s k : Nat) (h : s < 2 ^ 63) : bits .and .i64 ((s : Int) / 2 ^ k) 1 = ((if s.testBit k then 1 else 0 : Nat) : Int) := by
  have e : ((s : Int) / 2 ^ k) = ((s / 2 ^ k : Nat) : Int) := by simp
  have h1 : s / 2 ^ k ≤ s := Nat.div_le_self _ _
  rw [e, show (1 : Int) = ((1 : Nat) : Int) from rfl, bits_and_nat _ _ (by omega) (by omega), Nat.testBit_eq_decide_div_mod_eq, Nat.and_one_is_mod]
  have := Nat.mod_two_eq_zero_or_one (s / 2 ^ k)
  rcases this with h | h <;> simp [h]
theorem npow_name (i : Nat) (h : i < 6) : ∃ P : Nat, P = 2 ^ i ∧ (2 : Int) ^ i = (P : Int) ∧ P ≤ 32 ∧ 1 ≤ P :=
  ⟨2 ^ i, rfl, by simp, by have := Nat.pow_le_pow_right (n := 2) (by decide) (show i ≤ 5 by omega); simpa using this, Nat.two_pow_pos i⟩
/-- what Needed returns -/
def NdE (l : List RRule) (q : Int) (B : Nat) (w' : World) (e : Ending) : Prop :=
  (¬ (ValR l [] ∧ 0 ≤ q ∧ q ≤ 5) ∧ e = .returned (.tuple #[.slice none 0 0, .int .i64 2])) ∨
  ((ValR l [] ∧ 0 ≤ q ∧ q ≤ 5) ∧ ∃ (R : Nat) (a : Option Addr) (n c : Nat), NeedS l q.toNat (bitS R) ∧ e = .returned (.tuple #[.slice a n c, .int .i64 0]) ∧ ORul B w' (.slice a n c) (ndR R l))
theorem orul_len {B : Nat} {w : World} {a : Option Addr} {n c : Nat} {l : List RRule} (h : ORul B w (.slice a n c) l) : n = l.length := by
  obtain ⟨a', c', e⟩ := RdS.slice h.rules
  injection e
set_option maxRecDepth 100000 in
set_option maxHeartbeats 16000000 in
theorem Needed_any (l : List RRule) (q : Int) (v : Value) (w : World) (hv : Rules w v l) :
    Calls Try.prog 20 #[v, .int .i64 q] w fun e w' => NdE l q w.heap.size w' e ∧ Below w.heap.size w w' := by
  have HR := Lib.hid hv
  obtain ⟨a, b, off, cap, rfl, hle, hia, _, hcs⟩ := Rules.get hv
  obtain ⟨n, hn⟩ : ∃ x, x = l.length := ⟨_, rfl⟩
  have Hn := Lib.hid hn
  rw [← hn] at hle hia hcs HR ⊢
  have Hix := Lib.hid (run_ix (P := Try.prog) (t := 27) (a := a) (len := n) (cap := cap) (b := b) (off := off) (s := 3) Try.underlying27 (by intro w; kernel_rfl) hia)
  have Hc := Lib.hid hcs
  clear hv hia hcs hn
  by_cases hval : ValR l []
  · have HC := Lib.hid (valid_any l [] _ (.slice none 0 0) w HR.out (atoms_nil w) true ⟨fun _ => hval, fun _ => rfl⟩)
    by_cases h0 : q < 0
    · have HE := Lib.hid (show ¬ (ValR l [] ∧ 0 ≤ q ∧ q ≤ 5) from fun h => by omega)
      clear hval
      go_enter Try.func20, Try.ntmps20
      go_wp2_with fail
      refine HC.out.mono ?_
      clear HC
      rintro e w1 ⟨rfl, hb1⟩
      have HB1 := Lib.hid hb1
      clear hb1
      go_wp2_with fail
      go_ret2
      exact ⟨.inl ⟨HE.out, rfl⟩, HB1.out⟩
    · by_cases h6 : q ≥ 6
      · have HE := Lib.hid (show ¬ (ValR l [] ∧ 0 ≤ q ∧ q ≤ 5) from fun h => by omega)
        clear hval
        go_enter Try.func20, Try.ntmps20
        go_wp2_with fail
        refine HC.out.mono ?_
        clear HC
        rintro e w1 ⟨rfl, hb1⟩
        have HB1 := Lib.hid hb1
        clear hb1
        go_wp2_with fail
        go_ret2
        exact ⟨.inl ⟨HE.out, rfl⟩, HB1.out⟩
      · obtain ⟨qn, rfl⟩ : ∃ x : Nat, q = x := ⟨q.toNat, by omega⟩
        have HV := Lib.hid (show ValR l [] ∧ (0 : Int) ≤ (qn : Int) ∧ (qn : Int) ≤ 5 from ⟨hval, by omega, by omega⟩)
        have Hat := Lib.hid hval.ats
        have Hb3 := Lib.hid hval.b3
        have hq6 : qn < 6 := by omega
        have HN0 := Lib.hid (no_0 l hq6)
        obtain ⟨P, hP, p1, p2, p3⟩ := npow_name qn hq6
        rw [← hP] at HN0
        have hn10 : n ≤ 10 := by rw [Hn.out]; exact hval.l10
        clear hval hP
        have hsh : (1 : Int) * 2 ^ qn = (P : Int) := by rw [Int.one_mul]; exact p1
        have hw := wrap_nat P (by omega)
        clear p1
        go_enter Try.func20, Try.ntmps20
        go_wp2_with fail
        refine HC.out.mono ?_
        clear HC
        rintro e w1 ⟨rfl, hb1⟩
        have HB1 := Lib.hid hb1
        clear hb1
        go_wp2_with fail
        clear hsh hw
        go_loopw [6, 27] (fun vr vi wr => ∃ (R i : Nat), vr = .int .i64 (R : Int) ∧ vi = .int .i64 i ∧ i ≤ 6 ∧ NO l qn R i ∧ Below w.heap.size w wr) (fun _ vi _ => 6 - (intOf vi).toNat)
        case atStart => exact ⟨P, 0, rfl, rfl, by omega, HN0.out, HB1.out⟩
        case round =>
          clear HN0 HB1 p2 p3
          generalize wr = wx at *
          obtain ⟨R, i, rfl, rfl, hi, hN, hb⟩ := hrel
          have HN := Lib.hid hN
          have HB := Lib.hid hb
          clear hN hb
          by_cases hi6 : i < 6
          · have hii : (i : Int) < 6 := by omega
            go_wp2_with fail
            go_loopw [6, 31] (fun vr vi wr => ∃ (R' k : Nat), vr = .int .i64 (R' : Int) ∧ vi = .int .i64 k ∧ k ≤ n ∧ NR l qn R R' k 0 ∧ Below w.heap.size w wr) (fun _ vi _ => n - (intOf vi).toNat)
            case atStart => exact ⟨R, 0, rfl, rfl, Nat.zero_le _, nr_0 HN.out, HB.out⟩
            case round =>
              clear HB
              generalize wr = wy at *
              obtain ⟨R', k, rfl, rfl, hk, hR, hb⟩ := hrel
              have HRn := Lib.hid hR
              have HB := Lib.hid hb
              have hR64 := hR.lt
              clear hR hb
              by_cases hlt : k < n
              · obtain ⟨ua, uc, va, vc, hc0, hc1, hc2, hui, hvi⟩ := Hc.out k hlt
                have hc0 := Below.keep HB.out hc0
                have hc1 := Below.keep HB.out hc1
                have hc2 := Below.keep HB.out hc2
                have hixk := Hix.out k
                have hlt2 : k < l.length := by rw [← Hn.out]; exact hlt
                have HMr := Lib.hid (show rR l k ∈ l from by rw [rR_get hlt2]; exact List.getElem_mem hlt2)
                have HSk := Lib.hid (fun (h : ¬ bitS R' (rR l k).1.1.toNat) => nr_skip HRn.out hlt2 h)
                have HNx := Lib.hid (fun R' (h : NR l qn R R' k (rR l k).2.length) => nr_next h hlt2 rfl)
                have HLt := Lib.hid (fun R' j (h : NR l qn R R' k j) (h1 : j < (rR l k).2.length) (h2 : bitS R' (rR l k).1.1.toNat) (h3 : (lL (rR l k).2 j).2.1.toNat < 6) => nr_lit h hlt2 h1 h2 h3)
                obtain ⟨r, hrr⟩ : ∃ x, x = rR l k := ⟨_, rfl⟩
                rw [← hrr] at hc0 hc1 hc2 hvi HMr HSk HNx HLt
                obtain ⟨hr, hhr⟩ : ∃ x, x = r.1.1 := ⟨_, rfl⟩
                rw [← hhr] at hc0 HSk HLt
                obtain ⟨un, hun⟩ : ∃ x, x = r.1.2.length := ⟨_, rfl⟩
                obtain ⟨vn, hvn⟩ : ∃ x, x = r.2.length := ⟨_, rfl⟩
                have Hvn := Lib.hid hvn
                rw [hrr, ← hrr, ← hun] at hc1
                rw [← hvn] at hc2 hvi HNx
                have Hvi := Lib.hid hvi
                have hh := (Hat.out r HMr.out).1.1
                rw [← hhr] at hh
                obtain ⟨hN, rfl⟩ : ∃ x : Nat, hr = x := ⟨hr.toNat, by omega⟩
                rw [Int.toNat_natCast] at HSk HLt
                have hN6 : hN < 6 := by omega
                obtain ⟨w3, hw3⟩ : ∃ x, x = wy.alloc (.cells #[.int .i64 (hN : Int), .slice ua un uc, .slice va vn vc] 98) := ⟨_, rfl⟩
                have hb3 : Below wy.heap.size wy w3 := by rw [hw3]; exact below_alloc _ _
                obtain ⟨bx, hbx⟩ : ∃ x, x = wy.heap.size := ⟨_, rfl⟩
                have HX := Lib.hid (show w3.heap[bx]? = some (.cells #[.int .i64 (hN : Int), .slice ua un uc, .slice va vn vc] 98 (0, 0)) from by rw [hw3, hbx]; exact heap_alloc_new _ _)
                have HB3 := Lib.hid (Below.tr HB.out hb3)
                have Hw3 := Lib.hid hw3
                have Hbx := Lib.hid hbx
                have t1 := nshr_bit R' hN (by omega)
                obtain ⟨P2, hP2, p1, p2, p3⟩ := npow_name hN hN6
                rw [p1] at t1
                clear hrr hun hvn hui hvi hhr hw3 hb3 hbx hlt2 hh hP2
                go_upto_region 9 with fail
                rw [← Hw3.out, ← Hbx.out]
                clear Hw3 hc0 hc1 hc2 hixk
                have g0 := aCell HX.out 0 rfl
                cases hbt : R'.testBit hN
                · rw [hbt, if_neg (by simp)] at t1
                  have HR2 := Lib.hid (HSk.out (by unfold bitS; rw [hbt]; simp))
                  clear hbt HSk HNx HLt
                  go_wp2_with fail
                  go_roundw
                  case rel => exact ⟨R', k + 1, rfl, by go_num, by omega, HR2.out, HB3.out⟩
                  case measure => simp [intOf]; omega
                · rw [hbt, if_pos rfl] at t1
                  have Hbt := Lib.hid hbt
                  have g2 := aCell HX.out 2 rfl
                  clear hbt HSk
                  obtain ⟨a5, b5, off5, cap5, he5, hvl, hia5, _, hcs5⟩ := Lits.get Hvi.out
                  rw [← Hvn.out] at he5 hia5 hcs5 hvl
                  injection he5 with e1 e2 e3
                  subst e1 e3
                  have Hix5 := Lib.hid (run_ix (P := Try.prog) (t := 96) (a := va) (len := vn) (cap := vc) (b := b5) (off := off5) (s := 3) Try.underlying96 (by intro w; kernel_rfl) hia5)
                  have Hc5 := Lib.hid hcs5
                  clear hia5 hcs5 e2
                  go_wp2_with fail
                  clear g0 g2 t1 p1
                  go_loopw [6, 45] (fun vr vi wr => ∃ (R2 j : Nat), vr = .int .i64 (R2 : Int) ∧ vi = .int .i64 j ∧ j ≤ vn ∧ NR l qn R R2 k j ∧ bitS R2 hN ∧ Below w.heap.size w wr) (fun _ vi _ => vn - (intOf vi).toNat)
                  case atStart => exact ⟨R', 0, rfl, rfl, Nat.zero_le _, HRn.out, Hbt.out, HB3.out⟩
                  case round =>
                    clear HRn HB HB3 Hbt HX hR64
                    generalize wr = wz at *
                    obtain ⟨R2, j, rfl, rfl, hj, hR, hbt, hb⟩ := hrel
                    have HRn := Lib.hid hR
                    have Hbt := Lib.hid hbt
                    have HB := Lib.hid hb
                    have hR64 := hR.lt
                    clear hR hbt hb
                    by_cases hlj : j < vn
                    · obtain ⟨xa, xc, hd0, hd1, hd2, hxi⟩ := Hc5.out j hlj
                      have hd0 := Below.keep HB.out hd0
                      have hd1 := Below.keep HB.out hd1
                      have hd2 := Below.keep HB.out hd2
                      have hixj := Hix5.out j
                      have hlj2 : j < r.2.length := by rw [← Hvn.out]; exact hlj
                      have HMb := Lib.hid (show lL r.2 j ∈ r.2 from by rw [lL_get hlj2]; exact List.getElem_mem hlj2)
                      have HLj := Lib.hid (fun h3 => HLt.out R2 j HRn.out hlj2 Hbt.out h3)
                      obtain ⟨⟨N, s, X⟩, hbb⟩ : ∃ x, x = lL r.2 j := ⟨_, rfl⟩
                      rw [← hbb] at hd0 hd1 hd2 HMb HLj
                      simp only at hd0 hd1 hd2
                      obtain ⟨xn, hxn⟩ : ∃ x, x = X.length := ⟨_, rfl⟩
                      rw [← hxn] at hd2
                      have hs := ((Hat.out r HMr.out).2 _ HMb.out).1
                      simp only at hs
                      obtain ⟨sN, rfl⟩ : ∃ x : Nat, s = x := ⟨s.toNat, by omega⟩
                      have hs6 : sN < 6 := by omega
                      obtain ⟨w5, hw5⟩ : ∃ x, x = wz.alloc (.cells #[.bool N, .int .i64 (sN : Int), .slice xa xn xc] 100) := ⟨_, rfl⟩
                      have hb5 : Below wz.heap.size wz w5 := by rw [hw5]; exact below_alloc _ _
                      obtain ⟨bl, hbl⟩ : ∃ x, x = wz.heap.size := ⟨_, rfl⟩
                      have HL := Lib.hid (show w5.heap[bl]? = some (.cells #[.bool N, .int .i64 (sN : Int), .slice xa xn xc] 100 (0, 0)) from by rw [hw5, hbl]; exact heap_alloc_new _ _)
                      have HB5 := Lib.hid (Below.tr HB.out hb5)
                      have Hw5 := Lib.hid hw5
                      have Hbl := Lib.hid hbl
                      have HR3 := Lib.hid (show NR l qn R (R2 ||| 2 ^ sN) k (j + 1) from by
                        have := HLj.out (by simpa using hs6)
                        simpa using this)
                      have hor := bits_or_nat R2 (2 ^ sN) (by omega) (by have := Nat.pow_lt_pow_right (a := 2) (by decide) hs6; omega)
                      have Hb2 := Lib.hid (show bitS (R2 ||| 2 ^ sN) hN from (bit_or _ _ _).2 (.inl Hbt.out))
                      obtain ⟨P4, hP4, q1, q2, q3⟩ := npow_name sN hs6
                      rw [← hP4] at hor HR3 Hb2
                      have hsh : (1 : Int) * 2 ^ sN = (P4 : Int) := by rw [Int.one_mul]; exact q1
                      have hw := wrap_nat P4 (by omega)
                      clear hbb hxn hxi hw5 hb5 hbl hlj2 hs hP4 q1 HLj
                      go_upto_region 13 with fail
                      rw [← Hw5.out, ← Hbl.out]
                      clear Hw5 hd0 hd1 hd2 hixj
                      have g1 := aCell HL.out 1 rfl
                      go_wp2_with fail
                      go_roundw
                      case rel => exact ⟨R2 ||| P4, j + 1, rfl, by go_num, by omega, HR3.out, Hb2.out, HB5.out⟩
                      case measure => simp [intOf]; omega
                    · obtain rfl : j = vn := by omega
                      have HR2 := Lib.hid (HNx.out R2 HRn.out)
                      go_wp2_with fail
                      go_roundw
                      case rel => exact ⟨R2, k + 1, rfl, by go_num, by omega, HR2.out, HB.out⟩
                      case measure => simp [intOf]; omega
              · obtain rfl : k = n := by omega
                have HN2 := Lib.hid (nr_end HN.out (show NR l qn R R' l.length 0 from by rw [← Hn.out]; exact HRn.out))
                go_wp2_with fail
                go_roundw
                case rel => exact ⟨R', i + 1, rfl, by go_num, by omega, HN2.out, HB.out⟩
                case measure => simp [intOf]; omega
          · have HNd := Lib.hid (no_end (show NO l qn R 6 from by
              have e : i = 6 := by omega
              have := HN.out
              rwa [e] at this))
            have hR64 := HN.out.lt
            have hi6' : ¬ (i : Int) < 6 := by omega
            clear HN
            go_wp2_with fail
            go_loopw [11, 60] (fun vo vi wr => ∃ (k : Nat) (oa : Option Addr) (on oc : Nat), vo = .slice oa on oc ∧ vi = .int .i64 k ∧ k ≤ n ∧ Below w.heap.size w wr ∧ ORul w.heap.size wr (.slice oa on oc) (ndR R (l.take k))) (fun _ vi _ => n - (intOf vi).toNat)
            case atStart => exact ⟨0, none, 0, 0, rfl, rfl, Nat.zero_le _, HB.out, ownS_nil _ _ _ _⟩
            case round =>
              clear HB
              generalize wr = wy at *
              obtain ⟨k, oa, on, oc, rfl, rfl, hk, hb, ho⟩ := hrel
              have HB := Lib.hid hb
              have HO := Lib.hid ho
              clear hb ho
              by_cases hlt : k < n
              · obtain ⟨ua, uc, va, vc, hc0, hc1, hc2, hui, hvi⟩ := Hc.out k hlt
                have hc0 := Below.keep HB.out hc0
                have hc1 := Below.keep HB.out hc1
                have hc2 := Below.keep HB.out hc2
                have hixk := Hix.out k
                have hlt2 : k < l.length := by rw [← Hn.out]; exact hlt
                have HMr := Lib.hid (show rR l k ∈ l from by rw [rR_get hlt2]; exact List.getElem_mem hlt2)
                have HTk := Lib.hid (ndR_snoc (R := R) hlt2)
                obtain ⟨⟨⟨hr, A⟩, bd⟩, hrr⟩ : ∃ x, x = rR l k := ⟨_, rfl⟩
                rw [← hrr] at hc0 hc1 hc2 hui hvi HMr HTk
                simp only at hc0 hc1 hc2 hui hvi
                have hh := (Hat.out _ HMr.out).1.1
                simp only at hh
                have hbd := Hb3.out _ HMr.out
                simp only at hbd
                obtain ⟨hN, rfl⟩ : ∃ x : Nat, hr = x := ⟨hr.toNat, by omega⟩
                simp only [Int.toNat_natCast] at HTk
                have hN6 : hN < 6 := by omega
                obtain ⟨un, hun⟩ : ∃ x, x = A.length := ⟨_, rfl⟩
                obtain ⟨bn, hbn⟩ : ∃ x, x = bd.length := ⟨_, rfl⟩
                rw [← hun] at hc1 hui
                have Hbd := Lib.hid (show bd.length ≤ 100 from by omega)
                have HAl := Lib.hid (show A.length ≤ 100 from by have := (Hat.out _ HMr.out).1.2.1.2; simp only at this; omega)
                have HBl := Lib.hid (show ∀ j, j < bd.length → (lL bd j).2.2.length ≤ 100 from fun j hj => by have := ((Hat.out _ HMr.out).2 (lL bd j) (by rw [lL_get hj]; exact List.getElem_mem hj)).2.1.2; omega)
                rw [← hbn] at hc2 hvi
                obtain ⟨w3, hw3⟩ : ∃ x, x = wy.alloc (.cells #[.int .i64 (hN : Int), .slice ua un uc, .slice va bn vc] 98) := ⟨_, rfl⟩
                have hb3 : Below wy.heap.size wy w3 := by rw [hw3]; exact below_alloc _ _
                obtain ⟨bx, hbx⟩ : ∃ x, x = wy.heap.size := ⟨_, rfl⟩
                have HX := Lib.hid (show w3.heap[bx]? = some (.cells #[.int .i64 (hN : Int), .slice ua un uc, .slice va bn vc] 98 (0, 0)) from by rw [hw3, hbx]; exact heap_alloc_new _ _)
                have HB3 := Lib.hid (Below.tr HB.out hb3)
                have HO3 := Lib.hid (HO.out.keep hb3)
                have Hui := Lib.hid (hui.keep HB3.out)
                have Hvi := Lib.hid (hvi.keep HB3.out)
                have Hw3 := Lib.hid hw3
                have Hbx := Lib.hid hbx
                have t1 := nshr_bit R hN (by omega)
                obtain ⟨P2, hP2, p1, p2, p3⟩ := npow_name hN hN6
                rw [p1] at t1
                clear hrr hun hbn hui hvi hw3 hb3 hbx hlt2 hh hbd hP2
                go_upto_region 21 with fail
                rw [← Hw3.out, ← Hbx.out]
                clear Hw3 hc0 hc1 hc2 hixk
                have g0 := aCell HX.out 0 rfl
                cases hbt : R.testBit hN
                · rw [hbt, if_neg (by simp)] at t1
                  have HO4 := Lib.hid (show ORul w.heap.size w3 (.slice oa on oc) (ndR R (l.take (k + 1))) from by rw [HTk.out, if_neg (by rw [hbt]; simp)]; exact HO3.out)
                  clear hbt HTk
                  go_wp2_with fail
                  go_roundw
                  case rel => exact ⟨k + 1, oa, on, oc, rfl, by go_num, by omega, HB3.out, HO4.out⟩
                  case measure => simp [intOf]; omega
                · rw [hbt, if_pos rfl] at t1
                  have HTk2 := Lib.hid (HTk.out.trans (if_pos hbt))
                  clear hbt HTk
                  have g1 := aCell HX.out 1 rfl
                  have g2 := aCell HX.out 2 rfl
                  have HC := Lib.hid (copyRule_any (hN : Int) A bd (.slice ua un uc) (.slice va bn vc) w3 Hui.out Hvi.out Hbd.out HAl.out HBl.out)
                  go_wp2_with fail
                  refine HC.out.mono ?_
                  clear HC
                  rintro e w4 ⟨ha, hn2, hc4, pa, pn, pc, rfl, hhi, hvi, hb4⟩
                  obtain ⟨w8, hw8⟩ : ∃ x, x = w4.alloc (.cells #[.int .i64 (hN : Int), .slice ha hn2 hc4, .slice pa pn pc] 98) := ⟨_, rfl⟩
                  have hb8 : Below w4.heap.size w4 w8 := by rw [hw8]; exact below_alloc _ _
                  obtain ⟨bk, hbk⟩ : ∃ x, x = w4.heap.size := ⟨_, rfl⟩
                  have HK := Lib.hid (show w8.heap[bk]? = some (.cells #[.int .i64 (hN : Int), .slice ha hn2 hc4, .slice pa pn pc] 98 (0, 0)) from by rw [hw8, hbk]; exact heap_alloc_new _ _)
                  have HBw := Lib.hid (show Below w.heap.size w w8 from Below.tr HB3.out (Below.tr hb4 hb8))
                  have HL8 := Lib.hid ((hvi.keep hb8).mono HB3.out.size)
                  have HH8 := Lib.hid ((hhi.keep hb8).base HB3.out.size)
                  obtain ⟨cs, s1, s2, s3⟩ := HO3.out.keep (Below.tr hb4 hb8)
                  have Hs1 := Lib.hid s1
                  have Hs2 := Lib.hid s2
                  have Hs3 := Lib.hid s3
                  have Hw8 := Lib.hid hw8
                  have Hbk := Lib.hid hbk
                  have hl2 : (ndR R (l.take k)).length + 1 ≤ 100000000000 := by
                    have := List.length_filter_le (fun r : RRule => R.testBit r.1.1.toNat) (l.take k)
                    have h2 : (ndR R (l.take k)).length ≤ (l.take k).length := this
                    rw [List.length_take] at h2; omega
                  clear hw8 hb8 hbk s1 s2 s3 g0 g1 g2 hhi hvi hb4 t1 p1
                  go_wp2_with (first | (at_builtin; rw [← Hw8.out, ← Hbk.out]; refine append_own rfl (.tmp 71) (.tmp 74) 27 rfl elemRules rfl Hs3.out (m := 1) [.int .i64 (hN : Int), .slice ha hn2 hc4, .slice pa pn pc] rfl rfl (fun k y hk => aCell HK.out k (by simpa using hk)) (by intro u hu; simp at hu; rcases hu with rfl | rfl | rfl <;> rfl) hl2 HBw.out.size ?_; intro v9 w9 h91 h92 h93))
                  have hapI : ∀ b n u (xs : List Value), w8.ownsRow b 3 1 u n xs → u.ownBlock = none ∨ u.ownBlock ≠ (Value.slice oa on oc).ownBlock := fun b n u xs h => rows_apart h Hs3.out (by decide)
                  have hapL : ∀ {B v l}, OLit B w8 v l → v.ownBlock = none ∨ v.ownBlock ≠ (Value.slice oa on oc).ownBlock := fun {B v l} h => by obtain ⟨_, _, _, h3⟩ := h; exact rows_apart h3 Hs3.out (by decide)
                  have HO9 := Lib.hid (show ORul w.heap.size w9 v9 (ndR R (l.take (k + 1))) from by
                    rw [HTk2.out]
                    refine ownS_snoc Hs1.out (fun i h h' => ⟨?_, (Hs2.out i h h').2⟩) ?_ rfl h91
                    · obtain ⟨⟨u, v, e, k1, k2⟩, _⟩ := Hs2.out i h h'
                      exact ⟨u, v, e, World.ownsRow.kept k1 h93 (hapI _ _ _ _ k1), k2.apart h93 (hapL k2) fun b n u A h => hapI _ _ _ _ h⟩
                    · exact ⟨_, _, rfl, World.ownsRow.kept HH8.out h93 (hapI _ _ _ _ HH8.out), HL8.out.apart h93 (hapL HL8.out) fun b n u A h => hapI _ _ _ _ h⟩)
                  have HB9 := Lib.hid (HBw.out.trans h92)
                  obtain ⟨qa, qn2, qk, rfl⟩ := row_slice h91
                  clear h91 h92 h93 hl2 hapI hapL
                  go_wp2_with fail
                  go_roundw
                  case rel => exact ⟨k + 1, qa, qn2, qk, rfl, by go_num, by omega, HB9.out, HO9.out⟩
                  case measure => simp [intOf]; omega
              · obtain rfl : n = k := by omega
                have HE := Lib.hid (show ORul w.heap.size wy (.slice oa on oc) (ndR R l) from by
                  have := HO.out
                  rw [Hn.out, List.take_length] at this
                  exact this)
                go_wp2_with fail
                go_ret2
                exact ⟨.inr ⟨HV.out, R, oa, on, oc, by rw [Int.toNat_natCast]; exact HNd.out, rfl, HE.out⟩, HB.out⟩
  · have HC := Lib.hid (valid_any l [] _ (.slice none 0 0) w HR.out (atoms_nil w) false ⟨fun h => (by cases h), fun h => absurd h hval⟩)
    have HE := Lib.hid (show ¬ (ValR l [] ∧ 0 ≤ q ∧ q ≤ 5) from fun h => hval h.1)
    clear hval
    go_enter Try.func20, Try.ntmps20
    go_wp2_with fail
    refine HC.out.mono ?_
    clear HC
    rintro e w1 ⟨rfl, hb1⟩
    have HB1 := Lib.hid hb1
    clear hb1
    go_wp2_with fail
    go_ret2
    exact ⟨.inl ⟨HE.out, rfl⟩, HB1.out⟩
#print axioms Needed_any
def brow (R : Nat) : Array Value := #[.bool (R.testBit 0), .bool (R.testBit 1), .bool (R.testBit 2), .bool (R.testBit 3), .bool (R.testBit 4), .bool (R.testBit 5)]
theorem brow_at (R : Nat) {t : Nat} (h : t < 6) : (brow R)[t]? = some (.bool (R.testBit t)) := by
  match t, h with
  | 0, _ | 1, _ | 2, _ | 3, _ | 4, _ | 5, _ => rfl
theorem brow_same (R : Nat) {t : Nat} (h : t < 6) {B : Bool} (hB : R.testBit t = B) : (brow R).setIfInBounds t (.bool B) = brow R := by
  subst hB
  match t, h with
  | 0, _ | 1, _ | 2, _ | 3, _ | 4, _ | 5, _ => rfl
theorem brow_set (R : Nat) {t : Nat} (h : t < 6) : (brow R).setIfInBounds t (.bool true) = brow (R ||| 2 ^ t) := by
  unfold brow
  simp only [Nat.testBit_or, Nat.testBit_two_pow]
  match t, h with
  | 0, _ | 1, _ | 2, _ | 3, _ | 4, _ | 5, _ => simp
/-- the wanted relations in a block -/
structure Wk (w wr : World) (g R : Nat) : Prop where
  b : Below w.heap.size w wr
  z : w.heap.size ≤ g
  h : wr.heap[g]? = some (.cells (brow R) 128 (0, 0))
theorem Wk.keep {w wr w' : World} {g R : Nat} (h : Wk w wr g R) (hb : Below wr.heap.size wr w') : Wk w w' g R := ⟨Below.tr h.b hb, h.z, blk_keep2 h.h hb⟩
theorem Wk.lt {w wr : World} {g R : Nat} (h : Wk w wr g R) : g < wr.heap.size := (Array.getElem?_eq_some_iff.1 h.h).1
theorem Wk.set {w wr : World} {g R R' k : Nat} {x : Value} (h : Wk w wr g R) (e : (brow R).setIfInBounds k x = brow R') : Wk w (wr.setCell ⟨g, k, none⟩ x) g R' :=
  ⟨h.b.setCell h.z _, h.z, by rw [heap_setCell_same wr g k _ _ x h.h, e]⟩
theorem Wk.cell {w wr : World} {g R : Nat} (h : Wk w wr g R) {t : Nat} (ht : t < 6) : wr.cell? ⟨g, t, none⟩ = some (.bool (R.testBit t)) := by
  have := brow_at R ht
  exact aCell h.h t this
theorem Wk.fz {w wr : World} {g R : Nat} (h : Wk w wr g R) (t : Nat) : wr.frozen? ⟨g, t, none⟩ = false := frozen_of_row wr g t _ _ h.h
theorem nr_litno {l : List RRule} {q R0 R k j : Nat} (h : NR l q R0 R k j) (hn : ¬ bitS R (rR l k).1.1.toNat) : NR l q R0 R k (j + 1) :=
  ⟨h.lt, h.has, h.low, h.cl, h.up.imp (fun ⟨a, b, _⟩ => ⟨a, b, fun hh => absurd (by rw [a]; exact hh) hn⟩) id⟩
theorem infoRuleR : (Try.prog.info? 86).map (fun i => (i.zero, i.size, i.bytes)) = some (some (.agg #[.int .i64 0, .slice none 0 0, .slice none 0 0]), 3, 56) := by kernel_rfl
theorem elemRulesR : Elem Try.prog 22 86 3 56 := elem_of Try.underlying22 infoRuleR rfl (by omega) (by omega)
theorem ownS_rules {e : TypeId} {B : Nat} {w w' : World} {v : Value} {l : List RRule} (h : OwnS e B w' v (RuC w) l) (hb : Below w.heap.size w w') : Rules w' v l := by
  obtain ⟨cs, h1, h2, h3⟩ := h
  exact ⟨cs, h1, fun i a b => ⟨by obtain ⟨⟨u, v, e, k, k2⟩, _⟩ := h2 i a b; exact ⟨u, v, e, k.keep hb, k2.keep hb⟩, (h2 i a b).2⟩, owns_rd h3⟩
theorem OwnS.keep {e : TypeId} {B : Nat} {w w' : World} {v : Value} {α : Type} {R : α → List Value → Prop} {l : List α} (h : OwnS e B w v R l) (hb : Below w.heap.size w w') : OwnS e B w' v R l := by
  obtain ⟨cs, h1, h2, h3⟩ := h
  exact ⟨cs, h1, h2, owns_keep h3 hb⟩
set_option maxRecDepth 100000 in
set_option maxHeartbeats 16000000 in
theorem NeedR_any (l : List RRule) (hval : ValR l []) (q : Nat) (hq : q < 6) (v : Value) (w : World) (hv : Rules w v l) :
    Calls Try.prog 27 #[v, .int .i64 (q : Int)] w fun e w' => ∃ (R : Nat) (a : Option Addr) (n c : Nat), e = .returned (.slice a n c) ∧ NeedS l q (bitS R) ∧ Rules w' (.slice a n c) (ndR R l) ∧ Below w.heap.size w w' := by
  obtain ⟨a, b, off, cap, rfl, hle, hia, _, hcs⟩ := Rules.get hv
  obtain ⟨n, hn⟩ : ∃ x, x = l.length := ⟨_, rfl⟩
  have Hn := Lib.hid hn
  have hn10 : n ≤ 10 := by rw [hn]; exact hval.l10
  have Hb3 := Lib.hid hval.b3
  have Hat := Lib.hid hval.ats
  rw [← hn] at hle hia hcs ⊢
  have Hix := Lib.hid (run_ix (P := Try.prog) (t := 22) (a := a) (len := n) (cap := cap) (b := b) (off := off) (s := 3) Try.underlying22 (by intro w; kernel_rfl) hia)
  have Hc := Lib.hid hcs
  have HN0 := Lib.hid (no_0 l hq)
  obtain ⟨w1, hw1⟩ : ∃ x, x = w.alloc (.cells #[.bool false, .bool false, .bool false, .bool false, .bool false, .bool false] 128) := ⟨_, rfl⟩
  obtain ⟨g, hg⟩ : ∃ x, x = w.heap.size := ⟨_, rfl⟩
  have HW0 := Lib.hid (show Wk w w1 g 0 from ⟨by rw [hw1]; exact below_alloc _ _, by omega, by rw [hw1, hg]; exact heap_alloc_new _ _⟩)
  have HW1 := Lib.hid (show Wk w (w1.setCell ⟨g, q, none⟩ (.bool true)) g (2 ^ q) from HW0.out.set (by rw [brow_set 0 hq, Nat.zero_or]))
  have Hw1 := Lib.hid hw1
  have Hg := Lib.hid hg
  have gc := HW0.out.cell hq
  have gz := HW0.out.fz q
  have hq6 : (q : Int) < 6 := by omega
  rw [show (0 : Nat).testBit q = false from by simp] at gc
  clear hv hia hcs hn hval hw1 hg HW0
  go_enter Try.func27, Try.ntmps27
  go_upto_region 2 with fail
  rw [← Hw1.out, ← Hg.out]
  clear Hw1
  go_upto_region 3 with fail
  clear gc gz
  generalize w1.setCell ⟨g, q, none⟩ (.bool true) = w2 at *
  obtain ⟨P, hP⟩ : ∃ P, P = 2 ^ q := ⟨_, rfl⟩
  rw [← hP] at HN0 HW1
  clear hP
  go_wp2_with fail
  go_loopw [15] (fun vi wr => ∃ (R i : Nat), vi = .int .i64 i ∧ i ≤ 6 ∧ NO l q R i ∧ Wk w wr g R) (fun vi _ => 6 - (intOf vi).toNat)
  case atStart => exact ⟨P, 0, rfl, by omega, HN0.out, HW1.out⟩
  case round =>
    clear HN0 HW1
    generalize wr = wx at *
    obtain ⟨R, i, rfl, hi, hN, hb⟩ := hrel
    have HN := Lib.hid hN
    have HB := Lib.hid hb
    clear hN hb
    by_cases hi6 : i < 6
    · have hii : (i : Int) < 6 := by omega
      go_wp2_with fail
      go_loopw [19] (fun vi wr => ∃ (R' k : Nat), vi = .int .i64 k ∧ k ≤ n ∧ NR l q R R' k 0 ∧ Wk w wr g R') (fun vi _ => n - (intOf vi).toNat)
      case atStart => exact ⟨R, 0, rfl, Nat.zero_le _, nr_0 HN.out, HB.out⟩
      case round =>
        clear HB
        generalize wr = wy at *
        obtain ⟨R', k, rfl, hk, hR, hb⟩ := hrel
        have HRn := Lib.hid hR
        have HB := Lib.hid hb
        clear hR hb
        by_cases hlt : k < n
        · obtain ⟨ua, uc, va, vc, hc0, hc1, hc2, hui, hvi⟩ := Hc.out k hlt
          have hc0 := Below.keep HB.out.b hc0
          have hc1 := Below.keep HB.out.b hc1
          have hc2 := Below.keep HB.out.b hc2
          have hixk := Hix.out k
          have hlt2 : k < l.length := by rw [← Hn.out]; exact hlt
          have HMr := Lib.hid (show rR l k ∈ l from by rw [rR_get hlt2]; exact List.getElem_mem hlt2)
          have HNx := Lib.hid (fun R' (h : NR l q R R' k (rR l k).2.length) => nr_next h hlt2 rfl)
          have HLn := Lib.hid (fun R' j (h : NR l q R R' k j) (h2 : ¬ bitS R' (rR l k).1.1.toNat) => nr_litno h h2)
          have HLt := Lib.hid (fun R' j (h : NR l q R R' k j) (h1 : j < (rR l k).2.length) (h2 : bitS R' (rR l k).1.1.toNat) (h3 : (lL (rR l k).2 j).2.1.toNat < 6) => nr_lit h hlt2 h1 h2 h3)
          obtain ⟨r, hrr⟩ : ∃ x, x = rR l k := ⟨_, rfl⟩
          rw [← hrr] at hc0 hc1 hc2 hvi HMr HNx HLt HLn
          obtain ⟨hr, hhr⟩ : ∃ x, x = r.1.1 := ⟨_, rfl⟩
          rw [← hhr] at hc0 HLt HLn
          obtain ⟨un, hun⟩ : ∃ x, x = r.1.2.length := ⟨_, rfl⟩
          obtain ⟨vn, hvn⟩ : ∃ x, x = r.2.length := ⟨_, rfl⟩
          have Hvn := Lib.hid hvn
          rw [hrr, ← hrr, ← hun] at hc1
          rw [← hvn] at hc2 hvi HNx
          have Hvi := Lib.hid hvi
          have hh := (Hat.out r HMr.out).1.1
          rw [← hhr] at hh
          obtain ⟨hN, rfl⟩ : ∃ x : Nat, hr = x := ⟨hr.toNat, by omega⟩
          rw [Int.toNat_natCast] at HLt HLn
          have hN6 : hN < 6 := by omega
          obtain ⟨w3, hw3⟩ : ∃ x, x = wy.alloc (.cells #[.int .i64 (hN : Int), .slice ua un uc, .slice va vn vc] 86) := ⟨_, rfl⟩
          have hb3 : Below wy.heap.size wy w3 := by rw [hw3]; exact below_alloc _ _
          obtain ⟨bx, hbx⟩ : ∃ x, x = wy.heap.size := ⟨_, rfl⟩
          have HX := Lib.hid (show w3.heap[bx]? = some (.cells #[.int .i64 (hN : Int), .slice ua un uc, .slice va vn vc] 86 (0, 0)) from by rw [hw3, hbx]; exact heap_alloc_new _ _)
          have Hne := Lib.hid (show bx ≠ g from by have := HB.out.lt; omega)
          have HB3 := Lib.hid (HB.out.keep hb3)
          have Hw3 := Lib.hid hw3
          have Hbx := Lib.hid hbx
          clear hrr hun hvn hui hvi hhr hw3 hb3 hbx hlt2 hh
          go_upto_region 8 with fail
          rw [← Hw3.out, ← Hbx.out]
          clear Hw3 hc0 hc1 hc2 hixk
          have g2 := aCell HX.out 2 rfl
          obtain ⟨a5, b5, off5, cap5, he5, hvl, hia5, _, hcs5⟩ := Lits.get Hvi.out
          rw [← Hvn.out] at he5 hia5 hcs5 hvl
          injection he5 with e1 e2 e3
          subst e1 e3
          have Hix5 := Lib.hid (run_ix (P := Try.prog) (t := 84) (a := va) (len := vn) (cap := vc) (b := b5) (off := off5) (s := 3) Try.underlying84 (by intro w; kernel_rfl) hia5)
          have Hc5 := Lib.hid hcs5
          clear hia5 hcs5 e2
          go_wp2_with fail
          clear g2
          go_loopw [26] (fun vi wr => ∃ (R2 j : Nat), vi = .int .i64 j ∧ j ≤ vn ∧ NR l q R R2 k j ∧ Wk w wr g R2 ∧ wr.heap[bx]? = some (.cells #[.int .i64 (hN : Int), .slice ua un uc, .slice va vn vc] 86 (0, 0))) (fun vi _ => vn - (intOf vi).toNat)
          case atStart => exact ⟨R', 0, rfl, Nat.zero_le _, HRn.out, HB3.out, HX.out⟩
          case round =>
            clear HRn HB HB3 HX
            generalize wr = wz at *
            obtain ⟨R2, j, rfl, hj, hR, hb, hx⟩ := hrel
            have HRn := Lib.hid hR
            have HB := Lib.hid hb
            have HX := Lib.hid hx
            clear hR hb hx
            by_cases hlj : j < vn
            · obtain ⟨xa, xc, hd0, hd1, hd2, hxi⟩ := Hc5.out j hlj
              have hd0 := Below.keep HB.out.b hd0
              have hd1 := Below.keep HB.out.b hd1
              have hd2 := Below.keep HB.out.b hd2
              have hixj := Hix5.out j
              have hlj2 : j < r.2.length := by rw [← Hvn.out]; exact hlj
              have HMb := Lib.hid (show lL r.2 j ∈ r.2 from by rw [lL_get hlj2]; exact List.getElem_mem hlj2)
              have HLj := Lib.hid (fun h2 h3 => HLt.out R2 j HRn.out hlj2 h2 h3)
              have HLo := Lib.hid (fun h2 => HLn.out R2 j HRn.out h2)
              obtain ⟨⟨N, s, X⟩, hbb⟩ : ∃ x, x = lL r.2 j := ⟨_, rfl⟩
              rw [← hbb] at hd0 hd1 hd2 HMb HLj
              simp only at hd0 hd1 hd2 HLj
              obtain ⟨xn, hxn⟩ : ∃ x, x = X.length := ⟨_, rfl⟩
              rw [← hxn] at hd2
              have hs := ((Hat.out r HMr.out).2 _ HMb.out).1
              simp only at hs
              obtain ⟨sN, rfl⟩ : ∃ x : Nat, s = x := ⟨s.toNat, by omega⟩
              have hs6 : sN < 6 := by omega
              rw [Int.toNat_natCast] at HLj
              obtain ⟨w5, hw5⟩ : ∃ x, x = wz.alloc (.cells #[.bool N, .int .i64 (sN : Int), .slice xa xn xc] 88) := ⟨_, rfl⟩
              have hb5 : Below wz.heap.size wz w5 := by rw [hw5]; exact below_alloc _ _
              obtain ⟨bl, hbl⟩ : ∃ x, x = wz.heap.size := ⟨_, rfl⟩
              have HL := Lib.hid (show w5.heap[bl]? = some (.cells #[.bool N, .int .i64 (sN : Int), .slice xa xn xc] 88 (0, 0)) from by rw [hw5, hbl]; exact heap_alloc_new _ _)
              have HB5 := Lib.hid (HB.out.keep hb5)
              have HX5 := Lib.hid (blk_keep2 HX.out hb5)
              have Hw5 := Lib.hid hw5
              have Hbl := Lib.hid hbl
              clear hbb hxn hxi hw5 hb5 hbl hlj2 hs
              go_upto_region 11 with fail
              rw [← Hw5.out, ← Hbl.out]
              clear Hw5 hd0 hd1 hd2 hixj
              have g1 := aCell HL.out 1 rfl
              have gh := aCell HX5.out 0 rfl
              have gcs := HB5.out.cell hs6
              have gch := HB5.out.cell hN6
              have gz := HB5.out.fz sN
              have hs6i : (sN : Int) < 6 := by omega
              have hN6i : (hN : Int) < 6 := by omega
              have HXs := Lib.hid (fun x => show (w5.setCell ⟨g, sN, none⟩ x).heap[bx]? = some (.cells #[.int .i64 (hN : Int), .slice ua un uc, .slice va vn vc] 86 (0, 0)) from (heap_setCell_other w5 ⟨g, sN, none⟩ bx x Hne.out).trans HX5.out)
              have key : ∃ (B1 B2 : Bool) (R3 : Nat), R2.testBit sN = B1 ∧ R2.testBit hN = B2 ∧ (brow R2).setIfInBounds sN (.bool (B1 || B2)) = brow R3 ∧ NR l q R R3 k (j + 1) := by
                cases h1 : R2.testBit sN
                · cases h2 : R2.testBit hN
                  · exact ⟨false, false, R2, rfl, rfl, brow_same R2 hs6 h1, HLo.out (by unfold bitS; rw [h2]; simp)⟩
                  · exact ⟨false, true, R2 ||| 2 ^ sN, rfl, rfl, brow_set R2 hs6, HLj.out h2 hs6⟩
                · refine ⟨true, R2.testBit hN, R2, rfl, rfl, brow_same R2 hs6 h1, ?_⟩
                  by_cases h2 : bitS R2 hN
                  · have := HLj.out h2 hs6
                    rwa [or_same h1] at this
                  · exact HLo.out h2
              obtain ⟨B1, B2, R3, e1, e2, e3, hR3⟩ := key
              rw [e1] at gcs
              rw [e2] at gch
              have HS := Lib.hid (HB5.out.set e3)
              have HR3 := Lib.hid hR3
              clear e1 e2 e3 hR3 HLj HLo
              cases B1
              · cases B2
                · rw [show (false || false) = false from rfl] at HS
                  go_region
                  have HSd := Lib.hid (show Wk w (w5.setCell ⟨g, sN, none⟩ (.bool false)).drew g R3 from ⟨HS.out.b.drew, HS.out.z, HS.out.h⟩)
                  have HXd := Lib.hid (show (w5.setCell ⟨g, sN, none⟩ (.bool false)).drew.heap[bx]? = some (.cells #[.int .i64 (hN : Int), .slice ua un uc, .slice va vn vc] 86 (0, 0)) from HXs.out _)
                  generalize (w5.setCell ⟨g, sN, none⟩ (.bool false)).drew = wd at *
                  clear g1 gh gcs gch gz HXs
                  go_wp2_with fail
                  go_roundw
                  case rel => exact ⟨R3, j + 1, by go_num, by omega, HR3.out, HSd.out, HXd.out⟩
                  case measure => simp [intOf]; omega
                · rw [Bool.false_or] at HS
                  go_region
                  have HSd := Lib.hid (show Wk w (w5.setCell ⟨g, sN, none⟩ (.bool true)).drew g R3 from ⟨HS.out.b.drew, HS.out.z, HS.out.h⟩)
                  have HXd := Lib.hid (show (w5.setCell ⟨g, sN, none⟩ (.bool true)).drew.heap[bx]? = some (.cells #[.int .i64 (hN : Int), .slice ua un uc, .slice va vn vc] 86 (0, 0)) from HXs.out _)
                  generalize (w5.setCell ⟨g, sN, none⟩ (.bool true)).drew = wd at *
                  clear g1 gh gcs gch gz HXs
                  go_wp2_with fail
                  go_roundw
                  case rel => exact ⟨R3, j + 1, by go_num, by omega, HR3.out, HSd.out, HXd.out⟩
                  case measure => simp [intOf]; omega
              · clear gch
                rw [Bool.true_or] at HS
                go_region
                have HSd := Lib.hid (show Wk w (w5.setCell ⟨g, sN, none⟩ (.bool true)).drew g R3 from ⟨HS.out.b.drew, HS.out.z, HS.out.h⟩)
                have HXd := Lib.hid (show (w5.setCell ⟨g, sN, none⟩ (.bool true)).drew.heap[bx]? = some (.cells #[.int .i64 (hN : Int), .slice ua un uc, .slice va vn vc] 86 (0, 0)) from HXs.out _)
                generalize (w5.setCell ⟨g, sN, none⟩ (.bool true)).drew = wd at *
                clear g1 gh gcs gz HXs
                go_wp2_with fail
                go_roundw
                case rel => exact ⟨R3, j + 1, by go_num, by omega, HR3.out, HSd.out, HXd.out⟩
                case measure => simp [intOf]; omega
            · obtain rfl : j = vn := by omega
              have HR2 := Lib.hid (HNx.out R2 HRn.out)
              go_wp2_with fail
              go_roundw
              case rel => exact ⟨R2, k + 1, by go_num, by omega, HR2.out, HB.out⟩
              case measure => simp [intOf]; omega
        · obtain rfl : k = n := by omega
          have HN2 := Lib.hid (nr_end HN.out (show NR l q R R' l.length 0 from by rw [← Hn.out]; exact HRn.out))
          go_wp2_with fail
          go_roundw
          case rel => exact ⟨R', i + 1, by go_num, by omega, HN2.out, HB.out⟩
          case measure => simp [intOf]; omega
    · have HNd := Lib.hid (no_end (show NO l q R 6 from by
        have e : i = 6 := by omega
        have := HN.out
        rwa [e] at this))
      have hi6' : ¬ (i : Int) < 6 := by omega
      clear HN
      go_wp2_with fail
      go_loopw [10, 51] (fun vo vi wr => ∃ (k : Nat) (oa : Option Addr) (on oc : Nat), vo = .slice oa on oc ∧ vi = .int .i64 k ∧ k ≤ n ∧ Wk w wr g R ∧ OwnS 86 w.heap.size wr (.slice oa on oc) (RuC w) (ndR R (l.take k))) (fun _ vi _ => n - (intOf vi).toNat)
      case atStart => exact ⟨0, none, 0, 0, rfl, rfl, Nat.zero_le _, HB.out, ownS_nil _ _ _ _⟩
      case round =>
        clear HB
        generalize wr = wy at *
        obtain ⟨k, oa, on, oc, rfl, rfl, hk, hb, ho⟩ := hrel
        have HB := Lib.hid hb
        have HO := Lib.hid ho
        clear hb ho
        by_cases hlt : k < n
        · obtain ⟨ua, uc, va, vc, hc0, hc1, hc2, hui, hvi⟩ := Hc.out k hlt
          have hc0 := Below.keep HB.out.b hc0
          have hc1 := Below.keep HB.out.b hc1
          have hc2 := Below.keep HB.out.b hc2
          have hixk := Hix.out k
          have hlt2 : k < l.length := by rw [← Hn.out]; exact hlt
          have HMr := Lib.hid (show rR l k ∈ l from by rw [rR_get hlt2]; exact List.getElem_mem hlt2)
          have HTk := Lib.hid (ndR_snoc (R := R) hlt2)
          obtain ⟨⟨⟨hr, A⟩, bd⟩, hrr⟩ : ∃ x, x = rR l k := ⟨_, rfl⟩
          rw [← hrr] at hc0 hc1 hc2 hui hvi HMr HTk
          simp only at hc0 hc1 hc2 hui hvi
          have hh := (Hat.out _ HMr.out).1.1
          simp only at hh
          obtain ⟨hN, rfl⟩ : ∃ x : Nat, hr = x := ⟨hr.toNat, by omega⟩
          simp only [Int.toNat_natCast] at HTk
          have hN6 : hN < 6 := by omega
          obtain ⟨un, hun⟩ : ∃ x, x = A.length := ⟨_, rfl⟩
          obtain ⟨bn, hbn⟩ : ∃ x, x = bd.length := ⟨_, rfl⟩
          rw [← hun] at hc1 hui
          rw [← hbn] at hc2 hvi
          obtain ⟨w3, hw3⟩ : ∃ x, x = wy.alloc (.cells #[.int .i64 (hN : Int), .slice ua un uc, .slice va bn vc] 86) := ⟨_, rfl⟩
          have hb3 : Below wy.heap.size wy w3 := by rw [hw3]; exact below_alloc _ _
          obtain ⟨bx, hbx⟩ : ∃ x, x = wy.heap.size := ⟨_, rfl⟩
          have HX := Lib.hid (show w3.heap[bx]? = some (.cells #[.int .i64 (hN : Int), .slice ua un uc, .slice va bn vc] 86 (0, 0)) from by rw [hw3, hbx]; exact heap_alloc_new _ _)
          have HB3 := Lib.hid (HB.out.keep hb3)
          have HO3 := Lib.hid (HO.out.keep hb3)
          have Hui := Lib.hid hui
          have Hvi := Lib.hid hvi
          have Hw3 := Lib.hid hw3
          have Hbx := Lib.hid hbx
          clear hrr hun hbn hui hvi hw3 hb3 hbx hlt2 hh
          go_upto_region 19 with fail
          rw [← Hw3.out, ← Hbx.out]
          clear Hw3 hc0 hc1 hc2 hixk
          have g0 := aCell HX.out 0 rfl
          have gch := HB3.out.cell hN6
          have hN6i : (hN : Int) < 6 := by omega
          cases hbt : R.testBit hN
          · rw [hbt] at gch
            have HO4 := Lib.hid (show OwnS 86 w.heap.size w3 (.slice oa on oc) (RuC w) (ndR R (l.take (k + 1))) from by rw [HTk.out, if_neg (by rw [hbt]; simp)]; exact HO3.out)
            clear hbt HTk
            go_wp2_with fail
            go_roundw
            case rel => exact ⟨k + 1, oa, on, oc, rfl, by go_num, by omega, HB3.out, HO4.out⟩
            case measure => simp [intOf]; omega
          · rw [hbt] at gch
            have HTk2 := Lib.hid (HTk.out.trans (if_pos hbt))
            clear hbt HTk
            have g1 := aCell HX.out 1 rfl
            have g2 := aCell HX.out 2 rfl
            obtain ⟨w8, hw8⟩ : ∃ x, x = w3.alloc (.cells #[.int .i64 (hN : Int), .slice ua un uc, .slice va bn vc] 86) := ⟨_, rfl⟩
            have hb8 : Below w3.heap.size w3 w8 := by rw [hw8]; exact below_alloc _ _
            obtain ⟨bk, hbk⟩ : ∃ x, x = w3.heap.size := ⟨_, rfl⟩
            have HK := Lib.hid (show w8.heap[bk]? = some (.cells #[.int .i64 (hN : Int), .slice ua un uc, .slice va bn vc] 86 (0, 0)) from by rw [hw8, hbk]; exact heap_alloc_new _ _)
            have HBw := Lib.hid (HB3.out.keep hb8)
            obtain ⟨cs, s1, s2, s3⟩ := HO3.out.keep hb8
            have Hs1 := Lib.hid s1
            have Hs2 := Lib.hid s2
            have Hs3 := Lib.hid s3
            have Hw8 := Lib.hid hw8
            have Hbk := Lib.hid hbk
            have hl2 : (ndR R (l.take k)).length + 1 ≤ 100000000000 := by
              have := List.length_filter_le (fun r : RRule => R.testBit r.1.1.toNat) (l.take k)
              have h2 : (ndR R (l.take k)).length ≤ (l.take k).length := this
              rw [List.length_take] at h2; omega
            clear hw8 hb8 hbk s1 s2 s3
            go_wp2_with (first | (at_builtin; rw [← Hw8.out, ← Hbk.out]; refine append_own rfl (.tmp 60) (.tmp 62) 22 rfl elemRulesR rfl Hs3.out (m := 1) [.int .i64 (hN : Int), .slice ua un uc, .slice va bn vc] rfl rfl (fun k y hk => aCell HK.out k (by simpa using hk)) (by intro u hu; simp at hu; rcases hu with rfl | rfl | rfl <;> rfl) hl2 HBw.out.b.size ?_; intro v9 w9 h91 h92 h93))
            have HO9 := Lib.hid (show OwnS 86 w.heap.size w9 v9 (RuC w) (ndR R (l.take (k + 1))) from by
              rw [HTk2.out]
              exact ownS_snoc Hs1.out Hs2.out ⟨_, _, rfl, Hui.out, Hvi.out⟩ rfl h91)
            have HB9 := Lib.hid (show Wk w w9 g R from ⟨HBw.out.b.trans h92, HBw.out.z, block_grown Hs3.out h93 HBw.out.h (by decide)⟩)
            obtain ⟨qa, qn2, qk, rfl⟩ := row_slice h91
            clear h91 h92 h93 hl2 g0 g1 g2 gch
            go_wp2_with fail
            go_roundw
            case rel => exact ⟨k + 1, qa, qn2, qk, rfl, by go_num, by omega, HB9.out, HO9.out⟩
            case measure => simp [intOf]; omega
        · obtain rfl : n = k := by omega
          have HE := Lib.hid (show Rules wy (.slice oa on oc) (ndR R l) from by
            have := HO.out
            rw [Hn.out, List.take_length] at this
            exact ownS_rules this HB.out.b)
          go_wp2_with fail
          go_ret
          exact ⟨R, oa, on, oc, rfl, HNd.out, HE.out, HB.out.b⟩
#print axioms NeedR_any
theorem infoLitR : (Try.prog.info? 88).map (fun i => (i.zero, i.size, i.bytes)) = some (some (.agg #[.bool false, .int .i64 0, .slice none 0 0]), 3, 40) := by kernel_rfl
theorem elemLitsR : Elem Try.prog 84 88 3 40 := elem_of Try.underlying84 infoLitR rfl (by omega) (by omega)
/-- literals whose arguments lie where they lay in w -/
def WLit (w : World) (B : Nat) (wr : World) (v : Value) (l : List RLit) : Prop := OwnS 88 B wr v (LtC w) l
def RuW (w : World) (B : Nat) (wr : World) (r : RRule) (c : List Value) : Prop := ∃ u v, c = [.int .i64 r.1.1, u, v] ∧ Ints w u r.1.2 ∧ WLit w B wr v r.2
def WRul (w : World) (B : Nat) (wr : World) (v : Value) (l : List RRule) : Prop := OwnS 86 B wr v (RuW w B wr) l
theorem WLit.mono {w : World} {B B' : Nat} {wr : World} {v : Value} {l : List RLit} (h : WLit w B wr v l) (hb : B' ≤ B) : WLit w B' wr v l := by
  obtain ⟨cs, h1, h2, h3⟩ := h
  exact ⟨cs, h1, h2, owns_mono h3 hb⟩
theorem WLit.apart {w : World} {B : Nat} {wr w' : World} {v : Value} {l : List RLit} (h : WLit w B wr v l) {g : Option Nat} (hg : wr.grownBy w' g) (hv : v.ownBlock = none ∨ v.ownBlock ≠ g) : WLit w B w' v l := by
  obtain ⟨cs, h1, h2, h3⟩ := h
  exact ⟨cs, h1, h2, h3.kept hg hv⟩
theorem WLit.lits {w : World} {B : Nat} {wr : World} {v : Value} {l : List RLit} (h : WLit w B wr v l) (hb : Below w.heap.size w wr) : Lits wr v l := by
  obtain ⟨cs, h1, h2, h3⟩ := h
  exact ⟨cs, h1, fun i a b => ⟨by obtain ⟨⟨u, e, k⟩, _⟩ := h2 i a b; exact ⟨u, e, k.keep hb⟩, (h2 i a b).2⟩, owns_rd h3⟩
theorem WRul.keep {w : World} {B : Nat} {wr w' : World} {v : Value} {l : List RRule} (h : WRul w B wr v l) (hb : Below wr.heap.size wr w') : WRul w B w' v l := by
  obtain ⟨cs, h1, h2, h3⟩ := h
  exact ⟨cs, h1, fun i a b => ⟨by obtain ⟨⟨u, v, e, k, k2⟩, _⟩ := h2 i a b; exact ⟨u, v, e, k, OwnS.keep k2 hb⟩, (h2 i a b).2⟩, owns_keep h3 hb⟩
theorem WRul.rules {w : World} {B : Nat} {wr : World} {v : Value} {l : List RRule} (h : WRul w B wr v l) (hb : Below w.heap.size w wr) : Rules wr v l := by
  obtain ⟨cs, h1, h2, h3⟩ := h
  exact ⟨cs, h1, fun i a b => ⟨by obtain ⟨⟨u, v, e, k, k2⟩, _⟩ := h2 i a b; exact ⟨u, v, e, k.keep hb, k2.lits hb⟩, (h2 i a b).2⟩, owns_rd h3⟩
theorem rowT_apart {w : World} {base s n : Nat} {e e' : TypeId} {v : Value} {xs : List Value} (h : w.ownsRow base e' s v n xs) {g : Nat} {cs : Array Value} (hg : w.heap[g]? = some (.cells cs e (0, 0))) (he : e ≠ e') : v.ownBlock = none ∨ v.ownBlock ≠ some g := by
  rcases h.2 with ⟨rfl, _⟩ | ⟨g', cap, cur, rfl, _, hh, _⟩
  · exact .inl rfl
  · refine .inr fun q => he ?_
    have q : g' = g := Option.some.inj q
    subst q
    rw [hg] at hh
    injection hh with hh
    injection hh
set_option maxRecDepth 100000 in
set_option maxHeartbeats 16000000 in
theorem own_any (l : List RRule) (hl : l.length ≤ 100) (hb100 : ∀ r, r ∈ l → r.2.length ≤ 100) (v : Value) (w : World) (hv : Rules w v l) :
    Calls Try.prog 26 #[v] w fun e w' => ∃ a n c, e = .returned (.slice a n c) ∧ Rules w' (.slice a n c) l ∧ Below w.heap.size w w' := by
  obtain ⟨a, b, off, cap, rfl, hle, hia, _, hcs⟩ := Rules.get hv
  obtain ⟨n, hn⟩ : ∃ x, x = l.length := ⟨_, rfl⟩
  have Hn := Lib.hid hn
  have hn100 : n ≤ 100 := by omega
  rw [← hn] at hle hia hcs ⊢
  have Hix := Lib.hid (run_ix (P := Try.prog) (t := 27) (a := a) (len := n) (cap := cap) (b := b) (off := off) (s := 3) Try.underlying27 (by intro w; kernel_rfl) hia)
  have Hc := Lib.hid hcs
  have H100 := Lib.hid hb100
  clear hv hia hcs hn hb100
  go_enter Try.func26, Try.ntmps26
  go_wp2_with fail
  go_loopw [3, 11] (fun vo vi wr => ∃ (k : Nat) (oa : Option Addr) (on oc : Nat), vo = .slice oa on oc ∧ vi = .int .i64 k ∧ k ≤ n ∧ Below w.heap.size w wr ∧ WRul w w.heap.size wr (.slice oa on oc) (l.take k)) (fun _ vi _ => n - (intOf vi).toNat)
  case atStart => exact ⟨0, none, 0, 0, rfl, rfl, Nat.zero_le _, Below.refl _ _, ownS_nil _ _ _ _⟩
  case round =>
    generalize wr = wx at *
    obtain ⟨k, oa, on, oc, rfl, rfl, hk, hb, ho⟩ := hrel
    have Hb := Lib.hid hb
    have HO := Lib.hid ho
    clear hb ho
    by_cases hlt : k < n
    · obtain ⟨ua, uc, va, vc, hc0, hc1, hc2, hui, hvi⟩ := Hc.out k hlt
      have hc0 := Below.keep Hb.out hc0
      have hc1 := Below.keep Hb.out hc1
      have hc2 := Below.keep Hb.out hc2
      have hixk := Hix.out k
      have hlt2 : k < l.length := by rw [← Hn.out]; exact hlt
      have HTk := Lib.hid (show l.take (k + 1) = l.take k ++ [rR l k] from by rw [List.take_succ_eq_append_getElem hlt2, rR_get hlt2])
      have hbd := H100.out (rR l k) (by rw [rR_get hlt2]; exact List.getElem_mem hlt2)
      obtain ⟨⟨⟨hr, A⟩, bd⟩, hrr⟩ : ∃ x, x = rR l k := ⟨_, rfl⟩
      rw [← hrr] at hc0 hc1 hc2 hui hvi HTk hbd
      simp only at hc0 hc1 hc2 hui hvi hbd
      obtain ⟨un, hun⟩ : ∃ x, x = A.length := ⟨_, rfl⟩
      obtain ⟨bn, hbn⟩ : ∃ x, x = bd.length := ⟨_, rfl⟩
      have Hbn := Lib.hid hbn
      have hbn100 : bn ≤ 100 := by omega
      rw [← hun] at hc1 hui
      rw [← hbn] at hc2 hvi
      obtain ⟨wa, hwa⟩ : ∃ x, x = wx.alloc (.cells #[.int .i64 hr, .slice ua un uc, .slice va bn vc] 98) := ⟨_, rfl⟩
      obtain ⟨w3, hw3⟩ : ∃ x, x = wa.alloc (.cells #[.int .i64 hr, .slice ua un uc, .slice none 0 0] 86) := ⟨_, rfl⟩
      have hba : Below wx.heap.size wx wa := by rw [hwa]; exact below_alloc _ _
      have hbb : Below wa.heap.size wa w3 := by rw [hw3]; exact below_alloc _ _
      obtain ⟨b5, hb5⟩ : ∃ x, x = wx.heap.size := ⟨_, rfl⟩
      obtain ⟨bx, hbx⟩ : ∃ x, x = wa.heap.size := ⟨_, rfl⟩
      have HXa := Lib.hid (show wa.heap[b5]? = some (.cells #[.int .i64 hr, .slice ua un uc, .slice va bn vc] 98 (0, 0)) from by rw [hwa, hb5]; exact heap_alloc_new _ _)
      have HX5 := Lib.hid (blk_keep2 HXa.out hbb)
      have HXb := Lib.hid (show w3.heap[bx]? = some (.cells #[.int .i64 hr, .slice ua un uc, .slice none 0 0] 86 (0, 0)) from by rw [hw3, hbx]; exact heap_alloc_new _ _)
      have HB3 := Lib.hid (Below.tr hba hbb)
      have Hb3 := Lib.hid (Below.tr Hb.out HB3.out)
      have Hbxg := Lib.hid (show wx.heap.size ≤ bx from by rw [hbx]; exact hba.size)
      have Hlt3 := Lib.hid (show wx.heap.size ≤ w3.heap.size from HB3.out.size)
      have Hui := Lib.hid hui
      have Hvi := Lib.hid hvi
      have Hwa := Lib.hid hwa
      have Hw3 := Lib.hid hw3
      have Hb5 := Lib.hid hb5
      have Hbx := Lib.hid hbx
      clear hrr hun hbn hui hvi hwa hw3 hba hbb hb5 hbx hlt2 hbd
      go_upto_region 5 with fail
      rw [← Hwa.out, ← Hb5.out]
      clear Hwa hc0 hc1 hc2 hixk
      have g0 := aCell HXa.out 0 rfl
      have g1 := aCell HXa.out 1 rfl
      go_upto_region 6 with fail
      rw [← Hw3.out, ← Hbx.out]
      clear Hw3 g0 g1
      have g2 := aCell HX5.out 2 rfl
      obtain ⟨a6, b6, off6, cap6, he6, hvl, hia6, _, hcs6⟩ := Lits.get Hvi.out
      rw [← Hbn.out] at he6 hvl hia6 hcs6
      injection he6 with e1 e2 e3
      subst e1 e3
      have Hix6 := Lib.hid (run_ix (P := Try.prog) (t := 96) (a := va) (len := bn) (cap := vc) (b := b6) (off := off6) (s := 3) Try.underlying96 (by intro w; kernel_rfl) hia6)
      have Hc6 := Lib.hid hcs6
      clear hia6 hcs6 e2
      go_wp2_with fail
      clear g2
      go_loopw [26] (fun vi wr => ∃ (j : Nat) (pa : Option Addr) (pn pc : Nat), vi = .int .i64 j ∧ j ≤ bn ∧ wr.heap[bx]? = some (.cells #[.int .i64 hr, .slice ua un uc, .slice pa pn pc] 86 (0, 0)) ∧ WLit w w3.heap.size wr (.slice pa pn pc) (bd.take j) ∧ Below wx.heap.size wx wr ∧ w3.heap.size ≤ wr.heap.size) (fun vi _ => bn - (intOf vi).toNat)
      case atStart => exact ⟨0, none, 0, 0, rfl, Nat.zero_le _, HXb.out, ownS_nil _ _ _ _, HB3.out, Nat.le_refl _⟩
      case round =>
        clear HXb HB3 HX5 HXa
        generalize wr = wy at *
        obtain ⟨j, pa, pn, pc, rfl, hj, hx, hl, hb, hz⟩ := hrel
        have HX := Lib.hid hx
        have HL := Lib.hid hl
        have HB := Lib.hid hb
        clear hx hl hb
        by_cases hjl : j < bn
        · obtain ⟨xa, xc, hd0, hd1, hd2, hxi⟩ := Hc6.out j hjl
          have hbw : Below w.heap.size w wy := Below.tr Hb.out HB.out
          have hd0 := Below.keep hbw hd0
          have hd1 := Below.keep hbw hd1
          have hd2 := Below.keep hbw hd2
          have hixj := Hix6.out j
          have hj2 : j < bd.length := by rw [← Hbn.out]; exact hjl
          have HT5 := Lib.hid (show bd.take (j + 1) = bd.take j ++ [lL bd j] from by rw [List.take_succ_eq_append_getElem hj2, lL_get hj2])
          obtain ⟨⟨N, s, X⟩, hx⟩ : ∃ x, x = lL bd j := ⟨_, rfl⟩
          rw [← hx] at hd0 hd1 hd2 hxi HT5
          simp only at hd0 hd1 hd2 hxi
          obtain ⟨xn, hxn⟩ : ∃ x, x = X.length := ⟨_, rfl⟩
          rw [← hxn] at hd2 hxi
          obtain ⟨w7, hw7⟩ : ∃ x, x = wy.alloc (.cells #[.bool N, .int .i64 s, .slice xa xn xc] 100) := ⟨_, rfl⟩
          have hb7 : Below wy.heap.size wy w7 := by rw [hw7]; exact below_alloc _ _
          obtain ⟨b8, hb8⟩ : ∃ x, x = wy.heap.size := ⟨_, rfl⟩
          have H8 := Lib.hid (show w7.heap[b8]? = some (.cells #[.bool N, .int .i64 s, .slice xa xn xc] 100 (0, 0)) from by rw [hw7, hb8]; exact heap_alloc_new _ _)
          obtain ⟨w8, hw8⟩ : ∃ x, x = w7.alloc (.cells #[.bool N, .int .i64 s, .slice xa xn xc] 88) := ⟨_, rfl⟩
          have hbk8 : Below w7.heap.size w7 w8 := by rw [hw8]; exact below_alloc _ _
          obtain ⟨bk, hbk⟩ : ∃ x, x = w7.heap.size := ⟨_, rfl⟩
          have HK := Lib.hid (show w8.heap[bk]? = some (.cells #[.bool N, .int .i64 s, .slice xa xn xc] 88 (0, 0)) from by rw [hw8, hbk]; exact heap_alloc_new _ _)
          have HX7 := Lib.hid (blk_keep2 HX.out hb7)
          have HX8 := Lib.hid (blk_keep2 HX7.out hbk8)
          have HB8 := Lib.hid (Below.tr HB.out (Below.tr hb7 hbk8))
          have HW3 := Lib.hid (show w3.heap.size ≤ w8.heap.size from Nat.le_trans hz (Nat.le_trans hb7.size hbk8.size))
          obtain ⟨cs, s1, s2, s3⟩ := (OwnS.keep (OwnS.keep HL.out hb7) hbk8)
          have Hs1 := Lib.hid s1
          have Hs2 := Lib.hid s2
          have Hs3 := Lib.hid s3
          have Hxi := Lib.hid hxi
          have Hw7 := Lib.hid hw7
          have Hb8 := Lib.hid hb8
          have Hw8 := Lib.hid hw8
          have Hbk := Lib.hid hbk
          have hl2 : (bd.take j).length + 1 ≤ 100000000000 := by rw [List.length_take]; omega
          clear hx hxn hxi hw7 hb7 hb8 hw8 hbk8 hbk hj2 s1 s2 s3 hbw
          go_upto_region 9 with fail
          rw [← Hw7.out, ← Hb8.out]
          clear Hw7 hd0 hd1 hd2 hixj
          have g0 := aCell H8.out 0 rfl
          have g1 := aCell H8.out 1 rfl
          have g2 := aCell H8.out 2 rfl
          have gx2 := aCell HX7.out 2 rfl
          go_wp2_with (first | (at_builtin; rw [← Hw8.out, ← Hbk.out]; refine append_own rfl (.tmp 31) (.tmp 42) 84 rfl elemLitsR rfl Hs3.out (m := 1) [.bool N, .int .i64 s, .slice xa xn xc] rfl rfl (fun k y hk => aCell HK.out k (by simpa using hk)) (by intro u hu; simp at hu; rcases hu with rfl | rfl | rfl <;> rfl) hl2 HW3.out ?_; intro v9 w9 h91 h92 h93; obtain ⟨za, zn, zc, rfl⟩ := row_slice h91; have hbx9 := block_grown Hs3.out h93 HX8.out (by decide); have x2 := aCell hbx9 2 rfl; have xf := frozen_of_row w9 bx 2 _ _ hbx9))
          have HX9 := Lib.hid (show (w9.setCell ⟨bx, 2, none⟩ (.slice za zn zc)).heap[bx]? = some (.cells #[.int .i64 hr, .slice ua un uc, .slice za zn zc] 86 (0, 0)) from by rw [heap_setCell_same w9 bx 2 _ _ (.slice za zn zc) hbx9]; rfl)
          have HL9 := Lib.hid (show WLit w w3.heap.size (w9.setCell ⟨bx, 2, none⟩ (.slice za zn zc)) (.slice za zn zc) (bd.take (j + 1)) from by
            rw [HT5.out]
            have h9 := ownS_snoc Hs1.out Hs2.out (show LtC w (N, s, X) [.bool N, .int .i64 s, .slice xa xn xc] from ⟨_, rfl, Hxi.out⟩) rfl h91
            exact WLit.apart h9 (grown_setCell w9 bx 2 (.slice za zn zc)) (rowT_apart h91 hbx9 (by decide)))
          have HB9 := Lib.hid (show Below wx.heap.size wx (w9.setCell ⟨bx, 2, none⟩ (.slice za zn zc)) from (HB8.out.trans (h92.mono Hlt3.out)).setCell Hbxg.out _)
          have hz9 : w3.heap.size ≤ (w9.setCell ⟨bx, 2, none⟩ (.slice za zn zc)).heap.size := by
            have := h92.size
            have := HW3.out
            simp; omega
          generalize w9.setCell ⟨bx, 2, none⟩ (.slice za zn zc) = w10 at *
          clear h91 h92 h93 hbx9 x2 xf g0 g1 g2 gx2
          go_roundw
          case rel => exact ⟨j + 1, za, zn, zc, by go_num, by omega, HX9.out, HL9.out, HB9.out, hz9⟩
          case measure => simp [intOf]; omega
        · obtain rfl : bn = j := by omega
          have HLe := Lib.hid (show WLit w w3.heap.size wy (.slice pa pn pc) bd from by
            have := HL.out
            rw [Hbn.out, List.take_length] at this; exact this)
          obtain ⟨w8, hw8⟩ : ∃ x, x = wy.alloc (.cells #[.int .i64 hr, .slice ua un uc, .slice pa pn pc] 86) := ⟨_, rfl⟩
          have hb8 : Below wy.heap.size wy w8 := by rw [hw8]; exact below_alloc _ _
          obtain ⟨bk, hbk⟩ : ∃ x, x = wy.heap.size := ⟨_, rfl⟩
          have HK := Lib.hid (show w8.heap[bk]? = some (.cells #[.int .i64 hr, .slice ua un uc, .slice pa pn pc] 86 (0, 0)) from by rw [hw8, hbk]; exact heap_alloc_new _ _)
          have HBw := Lib.hid (show Below w.heap.size w w8 from Below.tr Hb.out (Below.tr HB.out hb8))
          have HL8 := Lib.hid (WLit.mono (OwnS.keep HLe.out hb8) Hb3.out.size)
          obtain ⟨cs, s1, s2, s3⟩ := HO.out.keep (Below.tr HB.out hb8)
          have Hs1 := Lib.hid s1
          have Hs2 := Lib.hid s2
          have Hs3 := Lib.hid s3
          have Hw8 := Lib.hid hw8
          have Hbk := Lib.hid hbk
          have gx0 := aCell HX.out 0 rfl
          have gx1 := aCell HX.out 1 rfl
          have gx2 := aCell HX.out 2 rfl
          have hl2 : (l.take k).length + 1 ≤ 100000000000 := by rw [List.length_take]; omega
          clear hw8 hb8 hbk s1 s2 s3 HL HLe
          go_wp2_with (first | (at_builtin; rw [← Hw8.out, ← Hbk.out]; refine append_own rfl (.tmp 46) (.tmp 48) 22 rfl elemRulesR rfl Hs3.out (m := 1) [.int .i64 hr, .slice ua un uc, .slice pa pn pc] rfl rfl (fun k y hk => aCell HK.out k (by simpa using hk)) (by intro u hu; simp at hu; rcases hu with rfl | rfl | rfl <;> rfl) hl2 HBw.out.size ?_; intro v9 w9 h91 h92 h93))
          have hapL : ∀ {v l}, WLit w w.heap.size w8 v l → v.ownBlock = none ∨ v.ownBlock ≠ (Value.slice oa on oc).ownBlock := fun {v l} h => by obtain ⟨_, _, _, h3⟩ := h; exact rows_apart h3 Hs3.out (by decide)
          have HO9 := Lib.hid (show WRul w w.heap.size w9 v9 (l.take (k + 1)) from by
            rw [HTk.out]
            refine ownS_snoc Hs1.out (fun i h h' => ⟨?_, (Hs2.out i h h').2⟩) ?_ rfl h91
            · obtain ⟨⟨u, v, e, k1, k2⟩, _⟩ := Hs2.out i h h'
              exact ⟨u, v, e, k1, k2.apart h93 (hapL k2)⟩
            · exact ⟨_, _, rfl, Hui.out, HL8.out.apart h93 (hapL HL8.out)⟩)
          have HB9 := Lib.hid (HBw.out.trans h92)
          obtain ⟨qa, qn, qk, rfl⟩ := row_slice h91
          clear h91 h92 h93 hl2 gx0 gx1 gx2 hapL
          go_wp2_with fail
          go_roundw
          case rel => exact ⟨k + 1, qa, qn, qk, rfl, by go_num, by omega, HB9.out, HO9.out⟩
          case measure => simp [intOf]; omega
    · obtain rfl : n = k := by omega
      have HE := Lib.hid (show Rules wx (.slice oa on oc) l from by
        have := HO.out
        rw [Hn.out, List.take_length] at this
        exact this.rules Hb.out)
      go_wp2_with fail
      go_ret
      exact ⟨oa, on, oc, rfl, HE.out, Hb.out⟩
#print axioms own_any
theorem drewW {w w' : World} {n : Nat} (h : w' = w.drewN n) : Below w.heap.size w w' := by rw [h]; exact ⟨rfl, rfl, rfl, Nat.le_refl _, fun _ _ => rfl⟩
set_option maxRecDepth 100000 in
theorem alike_any (r : Int) (A : List Int) (u v : Value) (w : World) (hu : Ints w u A) (hv : Ints w v A) :
    Calls Try.prog 70 #[.agg #[.int .i64 r, u], .agg #[.int .i64 r, v]] w fun e w' => e = .returned (.bool true) ∧ Below w.heap.size w w' := by
  obtain ⟨w1, hw1⟩ : ∃ x, x = w.alloc (.cells #[.int .i64 r, u] 83) := ⟨_, rfl⟩
  obtain ⟨w2, hw2⟩ : ∃ x, x = w1.alloc (.cells #[.int .i64 r, v] 83) := ⟨_, rfl⟩
  have k1 : Below w.heap.size w w1 := by rw [hw1]; exact below_alloc _ _
  have k2 : Below w1.heap.size w1 w2 := by rw [hw2]; exact below_alloc _ _
  obtain ⟨b1, hb1⟩ : ∃ x, x = w.heap.size := ⟨_, rfl⟩
  obtain ⟨b2, hb2⟩ : ∃ x, x = b1 + 1 := ⟨_, rfl⟩
  have z : w1.heap.size = b2 := by rw [hb2, hb1, hw1]; simp
  have h1 : w2.heap[b1]? = some (.cells #[.int .i64 r, u] 83 (0, 0)) := blk_keep2 (by rw [hb1, hw1]; exact heap_alloc_new _ _) k2
  have h2 : w2.heap[b2]? = some (.cells #[.int .i64 r, v] 83 (0, 0)) := by rw [← z, hw2]; exact heap_alloc_new _ _
  have HB := Lib.hid (Below.tr k1 k2)
  have HE := Lib.hid (equal_any A A u v w2 ((hu.keep k1).keep k2) ((hv.keep k1).keep k2))
  rw [decide_eq_true (rfl : A = A)] at HE
  obtain ⟨ua, uc, rfl⟩ := ints_slice hu
  obtain ⟨va, vc, rfl⟩ := ints_slice hv
  obtain ⟨un, hun⟩ : ∃ x, x = A.length := ⟨_, rfl⟩
  rw [← hun] at HE h1 h2 hw1 hw2 ⊢
  have g0 := aCell h1 0 rfl
  have g1 := aCell h1 1 rfl
  have g2 := aCell h2 0 rfl
  have g3 := aCell h2 1 rfl
  have Hw1 := Lib.hid hw1
  have Hw2 := Lib.hid hw2
  have H1 := Lib.hid hb1
  have H2 := Lib.hid hb2
  clear hw1 hw2 k1 k2 hu hv hun h1 h2 z hb1 hb2
  have q : (r == r) = true := by rw [beq_iff_eq]
  go_enter Try.func70, Try.ntmps70
  go_upto_region 1 with fail
  rw [← Hw1.out, ← Hw2.out, ← H1.out, ← H2.out]
  clear Hw1 Hw2
  go_wp2_with fail
  refine HE.out.mono ?_
  rintro e w5 ⟨rfl, m, hm⟩
  have HB5 := Lib.hid (Below.tr HB.out (drewW hm))
  clear hm
  go_wp2_with fail
  go_ret
  exact ⟨rfl, HB5.out⟩
set_option maxRecDepth 100000 in
theorem sameLt_any (N : Bool) (r : Int) (A : List Int) (u v : Value) (w : World) (hu : Ints w u A) (hv : Ints w v A) :
    Calls Try.prog 72 #[.agg #[.bool N, .int .i64 r, u], .agg #[.bool N, .int .i64 r, v]] w fun e w' => e = .returned (.bool true) ∧ Below w.heap.size w w' := by
  obtain ⟨ua, uc, rfl⟩ := ints_slice hu
  obtain ⟨va, vc, rfl⟩ := ints_slice hv
  have q : (N == N) = true := by cases N <;> rfl
  obtain ⟨un, hun⟩ : ∃ x, x = A.length := ⟨_, rfl⟩
  rw [← hun] at hu hv ⊢
  obtain ⟨w1, hw1⟩ : ∃ x, x = w.alloc (.cells #[.bool N, .int .i64 r, .slice ua un uc] 88) := ⟨_, rfl⟩
  obtain ⟨w2, hw2⟩ : ∃ x, x = w1.alloc (.cells #[.bool N, .int .i64 r, .slice va un vc] 88) := ⟨_, rfl⟩
  have k1 : Below w.heap.size w w1 := by rw [hw1]; exact below_alloc _ _
  have k2 : Below w1.heap.size w1 w2 := by rw [hw2]; exact below_alloc _ _
  obtain ⟨b1, hb1⟩ : ∃ x, x = w.heap.size := ⟨_, rfl⟩
  obtain ⟨b2, hb2⟩ : ∃ x, x = b1 + 1 := ⟨_, rfl⟩
  have z : w1.heap.size = b2 := by rw [hb2, hb1, hw1]; simp
  have h1 : w2.heap[b1]? = some (.cells #[.bool N, .int .i64 r, .slice ua un uc] 88 (0, 0)) := blk_keep2 (by rw [hb1, hw1]; exact heap_alloc_new _ _) k2
  have h2 : w2.heap[b2]? = some (.cells #[.bool N, .int .i64 r, .slice va un vc] 88 (0, 0)) := by rw [← z, hw2]; exact heap_alloc_new _ _
  have HB := Lib.hid (Below.tr k1 k2)
  have HE := Lib.hid (alike_any r A _ _ w2 ((hu.keep k1).keep k2) ((hv.keep k1).keep k2))
  have g0 := aCell h1 0 rfl
  have g1 := aCell h1 1 rfl
  have g2 := aCell h1 2 rfl
  have f0 := aCell h2 0 rfl
  have f1 := aCell h2 1 rfl
  have f2 := aCell h2 2 rfl
  clear hu hv k1 k2
  have Hw1 := Lib.hid hw1
  have Hw2 := Lib.hid hw2
  have H1 := Lib.hid hb1
  have H2 := Lib.hid hb2
  clear hw1 hw2 hun h1 h2 z hb1 hb2
  go_enter Try.func72, Try.ntmps72
  go_upto_region 1 with fail
  rw [← Hw1.out, ← Hw2.out, ← H1.out, ← H2.out]
  clear Hw1 Hw2
  go_wp2_with fail
  refine HE.out.mono ?_
  rintro e w5 ⟨rfl, hb5⟩
  have HB5 := Lib.hid (Below.tr HB.out hb5)
  clear hb5
  go_wp2_with fail
  go_ret
  exact ⟨rfl, HB5.out⟩
set_option maxRecDepth 100000 in
set_option maxHeartbeats 8000000 in
theorem eqLits_any (L : List RLit) (u v : Value) (w : World) (hu : Lits w u L) (hv : Lits w v L) :
    Calls Try.prog 71 #[u, v, .func (.func 72) #[] #[]] w fun e w' => e = .returned (.bool true) ∧ Below w.heap.size w w' := by
  obtain ⟨a, b, off, cap, rfl, hle, ha, hcap, hc⟩ := Lits.get hu
  obtain ⟨a', b', off', cap', rfl, hle', ha', hcap', hc'⟩ := Lits.get hv
  have Hix := Lib.hid (run_ix (P := Try.prog) (t := 84) (a := a) (len := L.length) (cap := cap) (b := b) (off := off) (s := 3) Try.underlying84 (by intro w; kernel_rfl) ha)
  have Hix' := Lib.hid (run_ix (P := Try.prog) (t := 84) (a := a') (len := L.length) (cap := cap') (b := b') (off := off') (s := 3) Try.underlying84 (by intro w; kernel_rfl) ha')
  have Hc := Lib.hid hc
  have Hc' := Lib.hid hc'
  clear hu hv ha ha' hc hc' hcap hcap'
  obtain ⟨n, hn⟩ : ∃ x, x = L.length := ⟨_, rfl⟩
  rw [← hn] at Hix Hix' hle hle' Hc Hc' ⊢
  clear hn
  go_enter Try.func71, Try.ntmps71
  go_wp2_with fail
  go_loopw [17] (fun vi wr => ∃ k : Nat, vi = .int .i64 k ∧ k ≤ n ∧ Below w.heap.size w wr) (fun vi _ => n - (intOf vi).toNat)
  case atStart => exact ⟨0, rfl, Nat.zero_le _, Below.refl _ _⟩
  case round =>
    obtain ⟨k, rfl, hk, hb⟩ := hrel
    have Hb := Lib.hid hb
    clear hb
    by_cases hlt : k < n
    · obtain ⟨ua, uc, c0, c1, c2, hi⟩ := Hc.out k hlt
      obtain ⟨va, vc, d0, d1, d2, hj⟩ := Hc'.out k hlt
      have c0 := Below.keep Hb.out c0
      have c1 := Below.keep Hb.out c1
      have c2 := Below.keep Hb.out c2
      have d0 := Below.keep Hb.out d0
      have d1 := Below.keep Hb.out d1
      have d2 := Below.keep Hb.out d2
      obtain ⟨⟨N, r, A⟩, hx⟩ : ∃ x, x = lL L k := ⟨_, rfl⟩
      rw [← hx] at c0 c1 c2 d0 d1 d2 hi hj
      simp only at c0 c1 c2 d0 d1 d2 hi hj
      clear hx
      obtain ⟨un, hun⟩ : ∃ x, x = A.length := ⟨_, rfl⟩
      rw [← hun] at c2 d2 hi hj
      clear hun
      have hixk := Hix.out k
      have hixk' := Hix'.out k
      obtain ⟨w3, hw3⟩ : ∃ x, x = wr.alloc (.cells #[.bool N, .int .i64 r, .slice ua un uc] 88) := ⟨_, rfl⟩
      obtain ⟨w4, hw4⟩ : ∃ x, x = w3.alloc (.cells #[.bool N, .int .i64 r, .slice va un vc] 88) := ⟨_, rfl⟩
      have k3 : Below wr.heap.size wr w3 := by rw [hw3]; exact below_alloc _ _
      have k4 : Below w3.heap.size w3 w4 := by rw [hw4]; exact below_alloc _ _
      obtain ⟨b3, hb3⟩ : ∃ x, x = wr.heap.size := ⟨_, rfl⟩
      obtain ⟨b4, hb4⟩ : ∃ x, x = w3.heap.size := ⟨_, rfl⟩
      have hF : w3.heap[b3]? = some (.cells #[.bool N, .int .i64 r, .slice ua un uc] 88 (0, 0)) := by rw [hb3, hw3]; exact heap_alloc_new _ _
      have hG : w4.heap[b4]? = some (.cells #[.bool N, .int .i64 r, .slice va un vc] 88 (0, 0)) := by rw [hb4, hw4]; exact heap_alloc_new _ _
      have HF := Lib.hid (And.intro (blk_keep2 hF k4) hG)
      have HE := Lib.hid (sameLt_any N r A _ _ w4 (((hi.keep Hb.out).keep k3).keep k4) (((hj.keep Hb.out).keep k3).keep k4))
      have HB4 := Lib.hid (Below.tr Hb.out (Below.tr k3 k4))
      have d0' := Below.keep k3 d0
      have d1' := Below.keep k3 d1
      have d2' := Below.keep k3 d2
      have Hw3 := Lib.hid hw3
      have Hw4 := Lib.hid hw4
      have H3 := Lib.hid hb3
      have H4 := Lib.hid hb4
      clear hw3 hw4 k3 k4 hb3 hb4 hF hG d0 d1 d2
      go_upto_region 6 with fail
      rw [← Hw3.out, ← H3.out]
      clear Hw3 c0 c1 c2
      go_upto_region 7 with fail
      rw [← Hw4.out, ← H4.out]
      clear Hw4 d0' d1' d2' hixk hixk'
      have g0 := aCell HF.out.1 0 rfl
      have g1 := aCell HF.out.1 1 rfl
      have g2 := aCell HF.out.1 2 rfl
      have f0 := aCell HF.out.2 0 rfl
      have f1 := aCell HF.out.2 1 rfl
      have f2 := aCell HF.out.2 2 rfl
      go_wp2_with fail
      refine HE.out.mono ?_
      rintro e w5 ⟨rfl, hb⟩
      have HB5 := Lib.hid (Below.tr HB4.out hb)
      clear hb g0 g1 g2 f0 f1 f2
      go_wp2_with fail
      go_roundw
      case rel => exact ⟨k + 1, by go_num, by omega, HB5.out⟩
      case measure => simp [intOf]; omega
    · obtain rfl : k = n := by omega
      go_wp2_with fail
      go_ret
      exact ⟨rfl, Hb.out⟩
set_option maxRecDepth 100000 in
theorem sameRl_any (r : Int) (A : List Int) (bd : List RLit) (u v p q : Value) (w : World) (hu : Ints w u A) (hv : Ints w v A) (hp : Lits w p bd) (hq : Lits w q bd) :
    Calls Try.prog 69 #[.agg #[.int .i64 r, u, p], .agg #[.int .i64 r, v, q]] w fun e w' => e = .returned (.bool true) ∧ Below w.heap.size w w' := by
  obtain ⟨ua, uc, rfl⟩ := ints_slice hu
  obtain ⟨va, vc, rfl⟩ := ints_slice hv
  obtain ⟨pa, pc, rfl⟩ := RdS.slice hp
  obtain ⟨qa, qc, rfl⟩ := RdS.slice hq
  obtain ⟨bn, hbn⟩ : ∃ x, x = bd.length := ⟨_, rfl⟩
  rw [← hbn] at hp hq ⊢
  clear hbn
  obtain ⟨un, hun⟩ : ∃ x, x = A.length := ⟨_, rfl⟩
  rw [← hun] at hu hv ⊢
  obtain ⟨w1, hw1⟩ : ∃ x, x = w.alloc (.cells #[.int .i64 r, .slice ua un uc, .slice pa bn pc] 86) := ⟨_, rfl⟩
  obtain ⟨w2, hw2⟩ : ∃ x, x = w1.alloc (.cells #[.int .i64 r, .slice va un vc, .slice qa bn qc] 86) := ⟨_, rfl⟩
  have k1 : Below w.heap.size w w1 := by rw [hw1]; exact below_alloc _ _
  have k2 : Below w1.heap.size w1 w2 := by rw [hw2]; exact below_alloc _ _
  obtain ⟨b1, hb1⟩ : ∃ x, x = w.heap.size := ⟨_, rfl⟩
  obtain ⟨b2, hb2⟩ : ∃ x, x = b1 + 1 := ⟨_, rfl⟩
  have z : w1.heap.size = b2 := by rw [hb2, hb1, hw1]; simp
  have h1 : w2.heap[b1]? = some (.cells #[.int .i64 r, .slice ua un uc, .slice pa bn pc] 86 (0, 0)) := blk_keep2 (by rw [hb1, hw1]; exact heap_alloc_new _ _) k2
  have h2 : w2.heap[b2]? = some (.cells #[.int .i64 r, .slice va un vc, .slice qa bn qc] 86 (0, 0)) := by rw [← z, hw2]; exact heap_alloc_new _ _
  have HB := Lib.hid (Below.tr k1 k2)
  have HE := Lib.hid (alike_any r A _ _ w2 ((hu.keep k1).keep k2) ((hv.keep k1).keep k2))
  have HP := Lib.hid ((hp.keep k1).keep k2)
  have HQ := Lib.hid ((hq.keep k1).keep k2)
  have HX1 := Lib.hid h1
  have HX2 := Lib.hid h2
  have g0 := aCell h1 0 rfl
  have g1 := aCell h1 1 rfl
  have f0 := aCell h2 0 rfl
  have f1 := aCell h2 1 rfl
  clear hu hv hp hq k1 k2
  have Hw1 := Lib.hid hw1
  have Hw2 := Lib.hid hw2
  have H1 := Lib.hid hb1
  have H2 := Lib.hid hb2
  clear hw1 hw2 hun h1 h2 z hb1 hb2
  go_enter Try.func69, Try.ntmps69
  go_upto_region 1 with fail
  rw [← Hw1.out, ← Hw2.out, ← H1.out, ← H2.out]
  clear Hw1 Hw2
  go_wp2_with fail
  refine HE.out.mono ?_
  rintro e w5 ⟨rfl, hb5⟩
  have HB5 := Lib.hid (Below.tr HB.out hb5)
  have HX5 := Lib.hid (And.intro (blk_keep2 HX1.out hb5) (blk_keep2 HX2.out hb5))
  have HE2 := Lib.hid (eqLits_any bd _ _ w5 (HP.out.keep hb5) (HQ.out.keep hb5))
  clear hb5 g0 g1 f0 f1
  have g2 := aCell HX5.out.1 2 rfl
  have f2 := aCell HX5.out.2 2 rfl
  go_wp2_with fail
  refine HE2.out.mono ?_
  rintro e w6 ⟨rfl, hb6⟩
  have HB6 := Lib.hid (Below.tr HB5.out hb6)
  clear hb6 g2 f2
  go_wp2_with fail
  go_ret
  exact ⟨rfl, HB6.out⟩
set_option maxRecDepth 100000 in
set_option maxHeartbeats 8000000 in
theorem eqRules_any (L : List RRule) (u v : Value) (w : World) (hu : Rules w u L) (hv : Rules w v L) :
    Calls Try.prog 68 #[u, v, .func (.func 69) #[] #[]] w fun e w' => e = .returned (.bool true) ∧ Below w.heap.size w w' := by
  obtain ⟨a, b, off, cap, rfl, hle, ha, hcap, hc⟩ := Rules.get hu
  obtain ⟨a', b', off', cap', rfl, hle', ha', hcap', hc'⟩ := Rules.get hv
  have Hix := Lib.hid (run_ix (P := Try.prog) (t := 22) (a := a) (len := L.length) (cap := cap) (b := b) (off := off) (s := 3) Try.underlying22 (by intro w; kernel_rfl) ha)
  have Hix' := Lib.hid (run_ix (P := Try.prog) (t := 22) (a := a') (len := L.length) (cap := cap') (b := b') (off := off') (s := 3) Try.underlying22 (by intro w; kernel_rfl) ha')
  have Hc := Lib.hid hc
  have Hc' := Lib.hid hc'
  clear hu hv ha ha' hc hc' hcap hcap'
  obtain ⟨n, hn⟩ : ∃ x, x = L.length := ⟨_, rfl⟩
  rw [← hn] at Hix Hix' hle hle' Hc Hc' ⊢
  clear hn
  go_enter Try.func68, Try.ntmps68
  go_wp2_with fail
  go_loopw [17] (fun vi wr => ∃ k : Nat, vi = .int .i64 k ∧ k ≤ n ∧ Below w.heap.size w wr) (fun vi _ => n - (intOf vi).toNat)
  case atStart => exact ⟨0, rfl, Nat.zero_le _, Below.refl _ _⟩
  case round =>
    obtain ⟨k, rfl, hk, hb⟩ := hrel
    have Hb := Lib.hid hb
    clear hb
    by_cases hlt : k < n
    · obtain ⟨ua, uc, pa, pc, c0, c1, c2, hi, hp⟩ := Hc.out k hlt
      obtain ⟨va, vc, qa, qc, d0, d1, d2, hj, hq⟩ := Hc'.out k hlt
      have c0 := Below.keep Hb.out c0
      have c1 := Below.keep Hb.out c1
      have c2 := Below.keep Hb.out c2
      have d0 := Below.keep Hb.out d0
      have d1 := Below.keep Hb.out d1
      have d2 := Below.keep Hb.out d2
      obtain ⟨⟨⟨r, A⟩, bd⟩, hx⟩ : ∃ x, x = rR L k := ⟨_, rfl⟩
      rw [← hx] at c0 c1 c2 d0 d1 d2 hi hj hp hq
      simp only at c0 c1 c2 d0 d1 d2 hi hj hp hq
      clear hx
      obtain ⟨un, hun⟩ : ∃ x, x = A.length := ⟨_, rfl⟩
      rw [← hun] at c1 d1 hi hj
      clear hun
      obtain ⟨bn, hbn⟩ : ∃ x, x = bd.length := ⟨_, rfl⟩
      rw [← hbn] at c2 d2 hp hq
      clear hbn
      have hixk := Hix.out k
      have hixk' := Hix'.out k
      obtain ⟨w3, hw3⟩ : ∃ x, x = wr.alloc (.cells #[.int .i64 r, .slice ua un uc, .slice pa bn pc] 86) := ⟨_, rfl⟩
      obtain ⟨w4, hw4⟩ : ∃ x, x = w3.alloc (.cells #[.int .i64 r, .slice va un vc, .slice qa bn qc] 86) := ⟨_, rfl⟩
      have k3 : Below wr.heap.size wr w3 := by rw [hw3]; exact below_alloc _ _
      have k4 : Below w3.heap.size w3 w4 := by rw [hw4]; exact below_alloc _ _
      obtain ⟨b3, hb3⟩ : ∃ x, x = wr.heap.size := ⟨_, rfl⟩
      obtain ⟨b4, hb4⟩ : ∃ x, x = w3.heap.size := ⟨_, rfl⟩
      have hF : w3.heap[b3]? = some (.cells #[.int .i64 r, .slice ua un uc, .slice pa bn pc] 86 (0, 0)) := by rw [hb3, hw3]; exact heap_alloc_new _ _
      have hG : w4.heap[b4]? = some (.cells #[.int .i64 r, .slice va un vc, .slice qa bn qc] 86 (0, 0)) := by rw [hb4, hw4]; exact heap_alloc_new _ _
      have HF := Lib.hid (And.intro (blk_keep2 hF k4) hG)
      have HE := Lib.hid (sameRl_any r A bd _ _ _ _ w4 (((hi.keep Hb.out).keep k3).keep k4) (((hj.keep Hb.out).keep k3).keep k4) (((hp.keep Hb.out).keep k3).keep k4) (((hq.keep Hb.out).keep k3).keep k4))
      have HB4 := Lib.hid (Below.tr Hb.out (Below.tr k3 k4))
      have d0' := Below.keep k3 d0
      have d1' := Below.keep k3 d1
      have d2' := Below.keep k3 d2
      have Hw3 := Lib.hid hw3
      have Hw4 := Lib.hid hw4
      have H3 := Lib.hid hb3
      have H4 := Lib.hid hb4
      clear hw3 hw4 k3 k4 hb3 hb4 hF hG d0 d1 d2
      go_upto_region 6 with fail
      rw [← Hw3.out, ← H3.out]
      clear Hw3 c0 c1 c2
      go_upto_region 7 with fail
      rw [← Hw4.out, ← H4.out]
      clear Hw4 d0' d1' d2' hixk hixk'
      have g0 := aCell HF.out.1 0 rfl
      have g1 := aCell HF.out.1 1 rfl
      have g2 := aCell HF.out.1 2 rfl
      have f0 := aCell HF.out.2 0 rfl
      have f1 := aCell HF.out.2 1 rfl
      have f2 := aCell HF.out.2 2 rfl
      go_wp2_with fail
      refine HE.out.mono ?_
      rintro e w5 ⟨rfl, hb⟩
      have HB5 := Lib.hid (Below.tr HB4.out hb)
      clear hb g0 g1 g2 f0 f1 f2
      go_wp2_with fail
      go_roundw
      case rel => exact ⟨k + 1, by go_num, by omega, HB5.out⟩
      case measure => simp [intOf]; omega
    · obtain rfl : k = n := by omega
      go_wp2_with fail
      go_ret
      exact ⟨rfl, Hb.out⟩
theorem sameR_any (L : List RRule) (u v : Value) (w : World) (hu : Rules w u L) (hv : Rules w v L) :
    Calls Try.prog 25 #[u, v] w fun e w' => e = .returned (.bool true) ∧ Below w.heap.size w w' := by
  have H := Lib.hid (eqRules_any L u v w hu hv)
  obtain ⟨ua, uc, rfl⟩ := RdS.slice hu
  obtain ⟨va, vc, rfl⟩ := RdS.slice hv
  clear hu hv
  go_enter Try.func25, Try.ntmps25
  go_wp2_with fail
  refine H.out.mono ?_
  rintro e w5 ⟨rfl, hb⟩
  have Hb := Lib.hid hb
  clear hb
  go_wp2_with fail
  go_ret
  exact ⟨rfl, Hb.out⟩
#print axioms sameR_any
end Go.Proofs.Ythndplkjhbmfmaa
