/- Contract of (binding).code: the number of the fact that numbers give an atom. -/
import Derived.Test.YthndplkjhbmfmaaRbx
namespace Go.Proofs.Ythndplkjhbmfmaa
open Go.RowKit
set_option maxRecDepth 100000 in
set_option maxHeartbeats 8000000 in
theorem bcode_any (v : List Int) (hv8 : v.length = 8) (a0 : RAt) (hat : AtR a0) (hf : FcR (gnd v a0)) (u : Value) (w : World) (hu : Ints w u a0.2) :
    Calls Try.prog 142 #[.agg (vrow v), .agg #[.int .i64 a0.1, u]] w fun e w' => e = .returned (.int .i64 (pcd (gnd v a0))) ∧ Below w.heap.size w w' := by
  obtain ⟨r, A⟩ := a0
  simp only at hu ⊢
  obtain ⟨a5, b5, off5, cap5, rfl, _, hia5, hc5⟩ := Ints.get hu
  obtain ⟨un, hun⟩ : ∃ x, x = A.length := ⟨_, rfl⟩
  have Hun := Lib.hid hun
  have hun2 : un ≤ 2 := by rw [hun]; exact hat.2.1.2
  have Hc5 := Lib.hid (show ∀ k, k < un → w.cell? ⟨b5, off5 + k, none⟩ = some (.int .i64 (A.getD k 0)) from fun k hk => by rw [hc5 k (by omega), List.getD_eq_getElem?_getD, List.getElem?_eq_getElem (by omega)]; rfl)
  rw [← hun] at hia5 ⊢
  have Hix5 := Lib.hid (run_ix (P := Try.prog) (t := 23) (a := a5) (len := un) (cap := cap5) (b := b5) (off := off5) (s := 1) Try.underlying23 (by intro w; kernel_rfl) hia5)
  simp only [Nat.mul_one] at Hix5
  have HR := Lib.hid (show ∀ t, t ∈ A → (-6 ≤ t ∧ t ≤ 7) ∧ 1 ≤ numOf v t ∧ numOf v t ≤ 6 from fun t ht => ⟨hat.2.2 t ht, hf.2.2 _ (List.mem_map.2 ⟨t, ht, rfl⟩)⟩)
  have Hf := Lib.hid hf
  obtain ⟨w1, hw1⟩ : ∃ x, x = w.alloc (.cells (vrow v) 200) := ⟨_, rfl⟩
  obtain ⟨w2, hw2⟩ : ∃ x, x = w1.alloc (.cells #[.int .i64 r, .slice a5 un cap5] 94) := ⟨_, rfl⟩
  obtain ⟨w3, hw3⟩ : ∃ x, x = w2.alloc (.cells #[.int .i64 r, .slice none 0 0] 50) := ⟨_, rfl⟩
  have k1 : Below w.heap.size w w1 := by rw [hw1]; exact below_alloc _ _
  have k2 : Below w1.heap.size w1 w2 := by rw [hw2]; exact below_alloc _ _
  have k3 : Below w2.heap.size w2 w3 := by rw [hw3]; exact below_alloc _ _
  obtain ⟨B, hB⟩ : ∃ x, x = w.heap.size := ⟨_, rfl⟩
  have z1 : w1.heap.size = B + 1 := by rw [hB, hw1]; simp
  have z2 : w2.heap.size = B + 2 := by rw [hw2]; simp; omega
  have z3 : w3.heap.size = B + 3 := by rw [hw3]; simp; omega
  have q1 : w1.heap[B]? = some (.cells (vrow v) 200 (0, 0)) := by rw [hB, hw1]; exact heap_alloc_new _ _
  have q2 : w2.heap[B + 1]? = some (.cells #[.int .i64 r, .slice a5 un cap5] 94 (0, 0)) := by rw [← z1, hw2]; exact heap_alloc_new _ _
  have q3 : w3.heap[B + 2]? = some (.cells #[.int .i64 r, .slice none 0 0] 50 (0, 0)) := by rw [← z2, hw3]; exact heap_alloc_new _ _
  have HV := Lib.hid (blk_keep2 q1 (Below.tr k2 k3))
  have HA2 := Lib.hid q2
  have HA3 := Lib.hid (blk_keep2 q2 k3)
  have HF3 := Lib.hid q3
  have HB3 := Lib.hid (Below.tr k1 (Below.tr k2 k3))
  have Hz2 := Lib.hid z2
  have Hz3 := Lib.hid z3
  have HBe := Lib.hid hB
  have Hw12 := Lib.hid (show w2 = (w.alloc (.cells (vrow v) 200)).alloc (.cells #[.int .i64 r, .slice a5 un cap5] 94) from by rw [hw2, hw1])
  have Hw3 := Lib.hid hw3
  have Hv8 := Lib.hid hv8
  clear hu hia5 hc5 hun hat hf hw1 hw2 hw3 k1 k2 k3 hB z2 z3 q1 q2 q3
  have g0 := aCell HA2.out 0 rfl
  go_enter Try.func142, Try.ntmps142
  go_upto_region 1 with fail
  rw [← Hw12.out, ← HBe.out]
  clear Hw12
  go_upto_region 2 with fail
  rw [← Hw3.out, Hz2.out]
  clear Hw3 g0
  have g1 := aCell HA3.out 1 rfl
  go_wp2_with fail
  clear g1
  go_loopw [14] (fun vi wr => ∃ (j : Nat) (ya : Option Addr) (yn yk : Nat), vi = .int .i64 j ∧ j ≤ un ∧ Below (B + 2) w3 wr ∧ wr.heap[B + 2]? = some (.cells #[.int .i64 r, .slice ya yn yk] 50 (0, 0)) ∧ OwnInts (B + 3) wr (.slice ya yn yk) ((A.take j).map (numOf v))) (fun vi _ => un - (intOf vi).toNat)
  case atStart => exact ⟨0, none, 0, 0, rfl, Nat.zero_le _, Below.refl _ _, HF3.out, ownInts_nil _ _⟩
  case round =>
    generalize wr = wz at *
    clear HF3
    obtain ⟨j, ya, yn, yk, rfl, hj, hb2, hf, ho⟩ := hrel
    have Hz := Lib.hid hb2
    have HF := Lib.hid hf
    have HOz := Lib.hid ho
    clear hf ho
    by_cases hlj : j < un
    · have hcj := Below.keep HB3.out (Hc5.out j hlj)
      have hcl : wz.cell? ⟨b5, off5 + j, none⟩ = some (.int .i64 (A.getD j 0)) := by
        have h1 := cell_lt (Hc5.out j hlj)
        have : b5 < w.heap.size := h1
        rw [World.cell?_of_block (hb2.block b5 (by have := HBe.out; omega))]
        exact hcj
      have hixj := Hix5.out j
      have hlj' : j < A.length := by rw [← Hun.out]; exact hlj
      have e : A.getD j 0 = A[j] := by rw [List.getD_eq_getElem?_getD, List.getElem?_eq_getElem hlj']; rfl
      have HTj := Lib.hid (show (A.take (j + 1)).map (numOf v) = (A.take j).map (numOf v) ++ [numOf v (A.getD j 0)] from by rw [List.take_succ_eq_append_getElem hlj', List.map_append, e]; rfl)
      have hr := HR.out (A.getD j 0) (by rw [e]; exact List.getElem_mem hlj')
      have hln : ((A.take j).map (numOf v)).length + 1 ≤ 100000000000 := by rw [List.length_map, List.length_take]; omega
      obtain ⟨t, ht⟩ : ∃ t, t = A.getD j 0 := ⟨_, rfl⟩
      rw [← ht] at hcl HTj hr
      clear ht e hlj' hcj
      by_cases c : 0 ≤ t
      · obtain ⟨p, rfl⟩ : ∃ p : Nat, t = p := ⟨t.toNat, by omega⟩
        have hZe : numOf v (p : Int) = v.getD p 0 := by unfold numOf; rw [if_pos c, Int.toNat_natCast]
        have hp8 : (p : Int) < 8 := by omega
        have hvb := (hb2.block B (by omega)).trans HV.out
        have hcp := aCell hvb p (vrow_at (by rw [Hv8.out]; omega))
        rw [← hZe] at hcp
        obtain ⟨Z, hZ⟩ : ∃ Z, Z = numOf v (p : Int) := ⟨_, rfl⟩
        rw [← hZ] at HTj hr hcp
        have hz1 : IntKind.i64.wrap (-Z) = -Z := w64 _ (by omega)
        have hz2 : IntKind.i64.wrap (-(-Z)) = Z := by rw [Int.neg_neg]; exact w64 _ (by omega)
        have hz3 : IntKind.i64.wrap Z = Z := w64 _ (by omega)
        have HVr := Lib.hid (isVar_any (p : Int) true (decide_eq_true ⟨c, hp8⟩) wz)
        obtain ⟨w7, hw7⟩ : ∃ x, x = wz.alloc (.cells #[.int .i64 Z] 3) := ⟨_, rfl⟩
        have hb : Below wz.heap.size wz w7 := by rw [hw7]; exact below_alloc _ _
        obtain ⟨bl, hbl⟩ : ∃ x, x = wz.heap.size := ⟨_, rfl⟩
        have HL := Lib.hid (show w7.heap[bl]? = some (.cells #[.int .i64 Z] 3 (0, 0)) from by rw [hw7, hbl]; exact heap_alloc_new _ _)
        have HO7 := Lib.hid (HOz.out.keep hb)
        have HF7 := Lib.hid (blk_keep2 HF.out hb)
        have hwz : B + 3 ≤ wz.heap.size := by have := (Array.getElem?_eq_some_iff.1 HF.out).1; omega
        have hw7s : B + 3 ≤ w7.heap.size := Nat.le_trans hwz hb.size
        have Hz7 := Lib.hid (show Below (B + 2) w3 w7 from Hz.out.trans (hb.mono (by omega)))
        have Hw7 := Lib.hid hw7
        have Hbl := Lib.hid hbl
        have g1 := aCell HF.out 1 rfl
        clear hw7 hb hbl HOz hZ hZe hr hb2
        go_wp2_with fail
        refine HVr.out.mono ?_
        rintro e wq ⟨rfl, rfl⟩
        go_wp2_with (first | (at_builtin; rw [← Hw7.out, ← Hbl.out]; refine append_own rfl (.tmp 25) (.tmp 28) 23 rfl elemInts rfl HO7.out (m := 1) [.int .i64 Z] rfl rfl (fun k y hk => aCell HL.out k (by simpa using hk)) (ints_oneCell [Z]) hln hw7s ?_; intro v9 w9 h91 h92 h93; obtain ⟨pa, pn, pk, rfl⟩ := row_slice h91; have H91 := Lib.hid h91; have H92 := Lib.hid h92; have HF9 := Lib.hid (block_grown HO7.out h93 HF7.out (by decide)); have hx1 := cell_of_row w9 _ 1 _ _ _ HF9.out; have hx2 := frozen_of_row w9 _ 1 _ _ HF9.out; clear h91 h92 h93 g1))
        have HFn := Lib.hid (show (w9.setCell ⟨B + 2, 1, none⟩ (.slice pa pn pk)).heap[B + 2]? = some (.cells #[.int .i64 r, .slice pa pn pk] 50 (0, 0)) from by rw [heap_setCell_same w9 _ 1 _ _ _ HF9.out]; rfl)
        have HOn := Lib.hid (show OwnInts (B + 3) (w9.setCell ⟨B + 2, 1, none⟩ (.slice pa pn pk)) (.slice pa pn pk) ((A.take (j + 1)).map (numOf v)) from by
          rw [HTj.out]
          exact own_setC (OwnInts.snoc H91.out) HF9.out (by decide))
        have Hzn := Lib.hid (show Below (B + 2) w3 (w9.setCell ⟨B + 2, 1, none⟩ (.slice pa pn pk)) from (Hz7.out.trans (H92.out.mono (by omega))).setCell (Nat.le_refl _) _)
        go_roundw
        case rel => exact ⟨j + 1, pa, pn, pk, by go_num, by omega, Hzn.out, HFn.out, HOn.out⟩
        case measure => simp [intOf]; omega
      · have hZe : numOf v t = -t := by unfold numOf; rw [if_neg c]
        obtain ⟨Z, hZ⟩ : ∃ Z, Z = numOf v t := ⟨_, rfl⟩
        rw [← hZ] at HTj hr hZe
        have hz1 : IntKind.i64.wrap (-t) = Z := by rw [← hZe]; exact w64 _ (by omega)
        have HVr := Lib.hid (isVar_any t false (decide_eq_false (fun h => c h.1)) wz)
        obtain ⟨w7, hw7⟩ : ∃ x, x = wz.alloc (.cells #[.int .i64 Z] 3) := ⟨_, rfl⟩
        have hb : Below wz.heap.size wz w7 := by rw [hw7]; exact below_alloc _ _
        obtain ⟨bl, hbl⟩ : ∃ x, x = wz.heap.size := ⟨_, rfl⟩
        have HL := Lib.hid (show w7.heap[bl]? = some (.cells #[.int .i64 Z] 3 (0, 0)) from by rw [hw7, hbl]; exact heap_alloc_new _ _)
        have HO7 := Lib.hid (HOz.out.keep hb)
        have HF7 := Lib.hid (blk_keep2 HF.out hb)
        have hwz : B + 3 ≤ wz.heap.size := by have := (Array.getElem?_eq_some_iff.1 HF.out).1; omega
        have hw7s : B + 3 ≤ w7.heap.size := Nat.le_trans hwz hb.size
        have Hz7 := Lib.hid (show Below (B + 2) w3 w7 from Hz.out.trans (hb.mono (by omega)))
        have Hw7 := Lib.hid hw7
        have Hbl := Lib.hid hbl
        have g1 := aCell HF.out 1 rfl
        clear hw7 hb hbl HOz hZ hZe hr hb2
        go_wp2_with fail
        refine HVr.out.mono ?_
        rintro e wq ⟨rfl, rfl⟩
        go_wp2_with (first | (at_builtin; rw [← Hw7.out, ← Hbl.out]; refine append_own rfl (.tmp 25) (.tmp 28) 23 rfl elemInts rfl HO7.out (m := 1) [.int .i64 Z] rfl rfl (fun k y hk => aCell HL.out k (by simpa using hk)) (ints_oneCell [Z]) hln hw7s ?_; intro v9 w9 h91 h92 h93; obtain ⟨pa, pn, pk, rfl⟩ := row_slice h91; have H91 := Lib.hid h91; have H92 := Lib.hid h92; have HF9 := Lib.hid (block_grown HO7.out h93 HF7.out (by decide)); have hx1 := cell_of_row w9 _ 1 _ _ _ HF9.out; have hx2 := frozen_of_row w9 _ 1 _ _ HF9.out; clear h91 h92 h93 g1))
        have HFn := Lib.hid (show (w9.setCell ⟨B + 2, 1, none⟩ (.slice pa pn pk)).heap[B + 2]? = some (.cells #[.int .i64 r, .slice pa pn pk] 50 (0, 0)) from by rw [heap_setCell_same w9 _ 1 _ _ _ HF9.out]; rfl)
        have HOn := Lib.hid (show OwnInts (B + 3) (w9.setCell ⟨B + 2, 1, none⟩ (.slice pa pn pk)) (.slice pa pn pk) ((A.take (j + 1)).map (numOf v)) from by
          rw [HTj.out]
          exact own_setC (OwnInts.snoc H91.out) HF9.out (by decide))
        have Hzn := Lib.hid (show Below (B + 2) w3 (w9.setCell ⟨B + 2, 1, none⟩ (.slice pa pn pk)) from (Hz7.out.trans (H92.out.mono (by omega))).setCell (Nat.le_refl _) _)
        go_roundw
        case rel => exact ⟨j + 1, pa, pn, pk, by go_num, by omega, Hzn.out, HFn.out, HOn.out⟩
        case measure => simp [intOf]; omega
    · obtain rfl : j = un := by omega
      have HX := Lib.hid (show OwnInts (B + 3) wz (.slice ya yn yk) (gnd v (r, A)).2 from by
        have := HOz.out
        rw [Hun.out, List.take_length] at this
        exact this)
      have HC := Lib.hid (code_any (gnd v (r, A)) Hf.out _ wz HX.out.ints)
      have Hw := Lib.hid (show Below w.heap.size w wz from HB3.out.trans (Hz.out.mono (by have := HBe.out; omega)))
      have g0 := aCell HF.out 0 rfl
      have g1 := aCell HF.out 1 rfl
      clear HOz hb2
      go_wp2_with fail
      refine HC.out.mono ?_
      rintro e w9 ⟨rfl, hb⟩
      have Hw9 := Lib.hid (Below.tr Hw.out hb)
      clear hb g0 g1
      go_wp2_with fail
      go_ret
      exact ⟨rfl, Hw9.out⟩
#print axioms bcode_any
end Go.Proofs.Ythndplkjhbmfmaa
