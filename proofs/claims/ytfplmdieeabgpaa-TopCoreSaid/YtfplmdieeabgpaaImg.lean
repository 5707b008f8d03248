/- Contracts of the reference's image and has. -/
import Derived.Test.YtfplmdieeabgpaaBef
import Derived.Test.YtfplmdieeabgpaaFac
import Derived.Test.YtfplmdieeabgpaaChc
namespace Go.Proofs.Ytfplmdieeabgpaa
open Go.RowKit
theorem row_sliceI {w : World} {base : Nat} {e : TypeId} {size n : Nat} {v : Value} {xs : List Value} (h : w.ownsRow base e size v n xs) : ∃ a m k, v = .slice a m k := by
  obtain ⟨_, _, a, b, off, cap, e, _⟩ := owns_rd h
  exact ⟨_, _, _, e⟩
/-- what the walk of image keeps: B is the first of its blocks -/
structure Ik (B : Nat) (w wr : World) (r : Int) (o : Value) (xs : List Int) : Prop where
  z : B = w.heap.size
  b : Below w.heap.size w wr
  hr : wr.heap[B + 1]? = some (.cells #[.int .i64 0, .slice none 0 0] 80 (0, 0))
  hf : wr.heap[B + 2]? = some (.cells #[.int .i64 r, o] 80 (0, 0))
  own : OwnInts (B + 3) wr o xs
theorem Ik.keep {B : Nat} {w wr w' : World} {r : Int} {o : Value} {xs : List Int} (k : Ik B w wr r o xs) (hb : Below wr.heap.size wr w') : Ik B w w' r o xs :=
  ⟨k.z, Below.tr k.b hb, blk_keep k.hr hb, blk_keep k.hf hb, k.own.keep hb⟩
theorem Ik.put {B : Nat} {w wr w' : World} {r : Int} {o o' : Value} {xs ys : List Int} (k : Ik B w wr r o xs) (hb : Below (B + 3) wr w') (ho : OwnInts (B + 3) w' o' ys) : Ik B w (w'.setCell ⟨B + 2, 1, none⟩ o') r o' ys := by
  have hz := k.z
  have hf' := (hb.block _ (by omega)).trans k.hf
  refine ⟨hz, (k.b.trans (hb.mono (by omega))).setCell (by simp; omega) _, ?_, ?_, ownsRow_setCell_below ho (by simp) _⟩
  · exact (heap_setCell_other w' ⟨B + 2, 1, none⟩ _ _ (by simp)).trans ((hb.block _ (by omega)).trans k.hr)
  · rw [heap_setCell_same w' _ 1 _ _ o' hf']; rfl
set_option maxRecDepth 100000 in
set_option maxHeartbeats 16000000 in
theorem imageR_any (r : Int) (A h : List Int) (hA : ∀ t, t ∈ A → t < h.length) (hl : A.length ≤ 1000) (u uh : Value) (w : World) (hu : Ints w u A) (hh : Ints w uh h) :
    Calls Try.prog 81 #[.agg #[.int .i64 r, u], uh] w fun e w' => ∃ a n k, e = .returned (.agg #[.int .i64 r, .slice a n k]) ∧ Ints w' (.slice a n k) (A.map (app h)) ∧ Below w.heap.size w w' := by
  obtain ⟨a, b, off, cap, rfl, hle, ha, hc⟩ := Ints.get hu
  obtain ⟨a2, b2, off2, cap2, rfl, hle2, ha2, hc2⟩ := Ints.get hh
  obtain ⟨n, hn⟩ : ∃ x, x = A.length := ⟨_, rfl⟩
  obtain ⟨m, hm⟩ : ∃ x, x = h.length := ⟨_, rfl⟩
  have gd : ∀ (l : List Int) (i : Nat) (hi : i < l.length), l[i] = l.getD i 0 := fun l i hi => by rw [List.getD_eq_getElem?_getD, List.getElem?_eq_getElem hi]; rfl
  have Hc := Lib.hid (show ∀ i, i < n → w.cell? ⟨b, off + i, none⟩ = some (.int .i64 (A.getD i 0)) from fun i hi => by rw [hc i (by omega), gd])
  have Hc2 := Lib.hid (show ∀ i, i < m → w.cell? ⟨b2, off2 + i, none⟩ = some (.int .i64 (h.getD i 0)) from fun i hi => by rw [hc2 i (by omega), gd])
  have HA := Lib.hid (show ∀ i, i < n → A.getD i 0 < m from fun i hi => by rw [hm]; exact hA _ (by rw [← gd A i (by omega)]; exact List.getElem_mem _))
  rw [← hn] at ha hl ⊢
  rw [← hm] at ha2 ⊢
  have Hn := Lib.hid hn
  have Hix := Lib.hid (run_ix (P := Try.prog) (t := 22) (a := a) (len := n) (cap := cap) (b := b) (off := off) (s := 1) Try.underlying22 (by intro w; kernel_rfl) ha)
  have Hix2 := Lib.hid (run_ix (P := Try.prog) (t := 22) (a := a2) (len := m) (cap := cap2) (b := b2) (off := off2) (s := 1) Try.underlying22 (by intro w; kernel_rfl) ha2)
  simp only [Nat.mul_one] at Hix Hix2
  clear hu hh ha ha2 hc hc2 hn hm gd hA hle hle2
  obtain ⟨w1, hw1⟩ : ∃ x, x = w.alloc (.cells #[.int .i64 r, .slice a n cap] 80) := ⟨_, rfl⟩
  obtain ⟨w2, hw2⟩ : ∃ x, x = w1.alloc (.cells #[.int .i64 0, .slice none 0 0] 80) := ⟨_, rfl⟩
  obtain ⟨w3, hw3⟩ : ∃ x, x = w2.alloc (.cells #[.int .i64 r, .slice none 0 0] 80) := ⟨_, rfl⟩
  have k1 : Below w.heap.size w w1 := by rw [hw1]; exact below_alloc _ _
  have k2 : Below w1.heap.size w1 w2 := by rw [hw2]; exact below_alloc _ _
  have k3 : Below w2.heap.size w2 w3 := by rw [hw3]; exact below_alloc _ _
  obtain ⟨B, hB⟩ : ∃ x, x = w.heap.size := ⟨_, rfl⟩
  have z1 : w1.heap.size = B + 1 := by rw [hB, hw1]; simp
  have z2 : w2.heap.size = B + 1 + 1 := by rw [← z1, hw2]; simp
  have g1 : w1.heap[B]? = some (.cells #[.int .i64 r, .slice a n cap] 80 (0, 0)) := by rw [hB, hw1]; exact heap_alloc_new _ _
  have g2 : w2.heap[B + 1]? = some (.cells #[.int .i64 0, .slice none 0 0] 80 (0, 0)) := by rw [← z1, hw2]; exact heap_alloc_new _ _
  have g3 : w3.heap[B + 1 + 1]? = some (.cells #[.int .i64 r, .slice none 0 0] 80 (0, 0)) := by rw [← z2, hw3]; exact heap_alloc_new _ _
  have HI := Lib.hid (show Ik B w w3 r (.slice none 0 0) [] from ⟨hB, Below.tr k1 (Below.tr k2 k3), blk_keep g2 k3, g3, ownInts_nil _ _⟩)
  have HG := Lib.hid (show w2.heap[B]? = some (.cells #[.int .i64 r, .slice a n cap] 80 (0, 0)) ∧ w3.heap[B]? = some (.cells #[.int .i64 r, .slice a n cap] 80 (0, 0)) from ⟨blk_keep g1 k2, blk_keep g1 (Below.tr k2 k3)⟩)
  have Hz2 := Lib.hid (show w2.heap.size = B + 2 from z2)
  have Hw1 := Lib.hid hw1
  have Hw2 := Lib.hid hw2
  have Hw3 := Lib.hid hw3
  have HBe := Lib.hid hB
  clear hw1 hw2 hw3 hB k1 k2 k3 z1 z2 g1 g2 g3
  go_enter Try.func81, Try.ntmps81
  go_upto_region 1 with fail
  rw [← Hw1.out, ← Hw2.out, ← HBe.out]
  clear Hw1 Hw2
  have g0 := aCell HG.out.1 0 rfl
  go_upto_region 2 with fail
  rw [← Hw3.out, Hz2.out]
  clear Hw3 g0
  have g1 := aCell HG.out.2 1 rfl
  go_wp2_with fail
  clear g1
  go_loopw [14] (fun vi wr => ∃ (k : Nat) (oa : Option Addr) (on ok : Nat), vi = .int .i64 k ∧ k ≤ n ∧ Ik B w wr r (.slice oa on ok) ((A.take k).map (app h))) (fun vi _ => n - (intOf vi).toNat)
  case atStart => exact ⟨0, none, 0, 0, rfl, Nat.zero_le _, HI.out⟩
  case round =>
    generalize wr = wx at *
    obtain ⟨k, oa, on, ok, rfl, hk, hi⟩ := hrel
    have HI := Lib.hid hi
    clear hi
    by_cases hlt : k < n
    · have hck := Below.keep HI.out.b (Hc.out k hlt)
      have hixk := Hix.out k
      have hlt' : k < A.length := by rw [← Hn.out]; exact hlt
      have e : A.getD k 0 = A[k] := by rw [List.getD_eq_getElem?_getD, List.getElem?_eq_getElem hlt']; rfl
      have HT := Lib.hid (show (A.take (k + 1)).map (app h) = (A.take k).map (app h) ++ [app h (A.getD k 0)] from by rw [List.take_succ_eq_append_getElem hlt', List.map_append, e]; rfl)
      have hr := HA.out k hlt
      obtain ⟨t, ht⟩ : ∃ t, t = A.getD k 0 := ⟨_, rfl⟩
      rw [← ht] at hck HT hr
      clear ht e hlt'
      have hln : ((A.take k).map (app h)).length + 1 ≤ 100000000000 := by rw [List.length_map, List.length_take]; omega
      have g1 := aCell HI.out.hf 1 rfl
      by_cases c : 0 ≤ t
      · obtain ⟨Z, hZ⟩ : ∃ Z, Z = app h t := ⟨_, rfl⟩
        rw [← hZ] at HT
        have hZ2 : Z = h.getD t.toNat 0 := by rw [hZ]; exact if_pos c
        have e2 : ((t.toNat : Nat) : Int) = t := Int.toNat_of_nonneg c
        have hlm : t.toNat < m := by omega
        have hcz := Below.keep HI.out.b (Hc2.out t.toNat hlm)
        rw [← hZ2] at hcz
        have hix2 := Hix2.out t.toNat
        rw [e2] at hix2
        obtain ⟨w7, hw7⟩ : ∃ x, x = wx.alloc (.cells #[.int .i64 Z] 3) := ⟨_, rfl⟩
        have hb : Below wx.heap.size wx w7 := by rw [hw7]; exact below_alloc _ _
        obtain ⟨bl, hbl⟩ : ∃ x, x = wx.heap.size := ⟨_, rfl⟩
        have HL := Lib.hid (show w7.heap[bl]? = some (.cells #[.int .i64 Z] 3 (0, 0)) from by rw [hw7, hbl]; exact heap_alloc_new _ _)
        have HO7 := Lib.hid (HI.out.keep hb)
        have Hz7 := Lib.hid (show B + 3 ≤ w7.heap.size from by have := (Array.getElem?_eq_some_iff.1 HO7.out.hf).1; omega)
        have Hw7 := Lib.hid hw7
        have Hbl := Lib.hid hbl
        clear hw7 hb hbl hZ hZ2 e2
        go_wp2_with (first | (at_builtin; rw [← Hw7.out, ← Hbl.out]; refine append_own rfl (.tmp 25) (.tmp 27) 22 rfl elemInts rfl HO7.out.own (m := 1) [.int .i64 Z] rfl rfl (fun k y hk => aCell HL.out k (by simpa using hk)) (ints_oneCell [Z]) hln Hz7.out ?_; intro v9 w9 h91 h92 h93; obtain ⟨pa, pn, pk, rfl⟩ := row_sliceI h91; have HF9 := (h92.block _ (by omega)).trans HO7.out.hf; have gk := aCell HF9 1 rfl; have gf := frozen_of_row w9 _ 1 _ _ HF9; have H91 := Lib.hid (HO7.out.put h92 (OwnInts.snoc h91)); clear h91 h92 h93 HF9))
        go_roundw
        case rel => exact ⟨k + 1, pa, pn, pk, by go_num, by omega, by rw [HT.out]; exact H91.out⟩
        case measure => simp [intOf]; omega
      · obtain ⟨Z, hZ⟩ : ∃ Z, Z = app h t := ⟨_, rfl⟩
        rw [← hZ] at HT
        have hZ2 : Z = t := by rw [hZ]; exact if_neg c
        subst hZ2
        obtain ⟨w7, hw7⟩ : ∃ x, x = wx.alloc (.cells #[.int .i64 Z] 3) := ⟨_, rfl⟩
        have hb : Below wx.heap.size wx w7 := by rw [hw7]; exact below_alloc _ _
        obtain ⟨bl, hbl⟩ : ∃ x, x = wx.heap.size := ⟨_, rfl⟩
        have HL := Lib.hid (show w7.heap[bl]? = some (.cells #[.int .i64 Z] 3 (0, 0)) from by rw [hw7, hbl]; exact heap_alloc_new _ _)
        have HO7 := Lib.hid (HI.out.keep hb)
        have Hz7 := Lib.hid (show B + 3 ≤ w7.heap.size from by have := (Array.getElem?_eq_some_iff.1 HO7.out.hf).1; omega)
        have Hw7 := Lib.hid hw7
        have Hbl := Lib.hid hbl
        clear hw7 hb hbl hZ
        go_wp2_with (first | (at_builtin; rw [← Hw7.out, ← Hbl.out]; refine append_own rfl (.tmp 25) (.tmp 27) 22 rfl elemInts rfl HO7.out.own (m := 1) [.int .i64 Z] rfl rfl (fun k y hk => aCell HL.out k (by simpa using hk)) (ints_oneCell [Z]) hln Hz7.out ?_; intro v9 w9 h91 h92 h93; obtain ⟨pa, pn, pk, rfl⟩ := row_sliceI h91; have HF9 := (h92.block _ (by omega)).trans HO7.out.hf; have gk := aCell HF9 1 rfl; have gf := frozen_of_row w9 _ 1 _ _ HF9; have H91 := Lib.hid (HO7.out.put h92 (OwnInts.snoc h91)); clear h91 h92 h93 HF9))
        go_roundw
        case rel => exact ⟨k + 1, pa, pn, pk, by go_num, by omega, by rw [HT.out]; exact H91.out⟩
        case measure => simp [intOf]; omega
    · obtain rfl : k = n := by omega
      have c0 := aCell HI.out.hf 0 rfl
      have c1 := aCell HI.out.hf 1 rfl
      have r0 := aCell HI.out.hr 0 rfl
      have r1 := aCell HI.out.hr 1 rfl
      have f0 := frozen_of_row wx _ 0 _ _ HI.out.hr
      have f1 := frozen_of_row wx _ 1 _ _ HI.out.hr
      have HG := Lib.hid (show ((wx.setCell ⟨B + 1, 0, none⟩ (.int .i64 r)).setCell ⟨B + 1, 1, none⟩ (.slice oa on ok)).heap[B + 1]? = some (.cells #[.int .i64 r, .slice oa on ok] 80 (0, 0)) from by
        rw [heap_setCell_same _ _ 1 _ _ _ (heap_setCell_same wx _ 0 _ _ _ HI.out.hr)]; rfl)
      have hz := HI.out.z
      have HB := Lib.hid (show Below w.heap.size w ((wx.setCell ⟨B + 1, 0, none⟩ (.int .i64 r)).setCell ⟨B + 1, 1, none⟩ (.slice oa on ok)) from (HI.out.b.setCell (by simp; omega) _).setCell (by simp; omega) _)
      have HO := Lib.hid (show Ints ((wx.setCell ⟨B + 1, 0, none⟩ (.int .i64 r)).setCell ⟨B + 1, 1, none⟩ (.slice oa on ok)) (.slice oa on ok) (A.map (app h)) from by
        have := HI.out.own
        rw [Hn.out, List.take_length] at this
        exact OwnInts.ints (ownsRow_setCell_below (ownsRow_setCell_below this (by simp) _) (by simp) _))
      clear hz
      go_wp2_with fail
      exact bodyPost_ret (results_cell_row Try.results81 _ _ (B + 1) 80 _ (0, 0) _ rfl HG.out Try.underlying80 rfl (by kernel_rfl)) rfl ⟨_, _, _, rfl, HO.out, HB.out⟩
set_option maxRecDepth 100000 in
set_option maxHeartbeats 16000000 in
theorem hasR_any (r : Int) (A : List Int) (body : List HAt) (h0 ub u : Value) (w : World) (hb : Atoms w ub body) (hu : Ints w u A) (C : Bool) (hC : decide ((r, A) ∈ body) = C) :
    Calls Try.prog 80 #[.agg #[h0, ub], .agg #[.int .i64 r, u]] w fun e w' => e = .returned (.bool C) ∧ Below w.heap.size w w' := by
  obtain ⟨a, b, off, cap, vs, rfl, hle, hia, _, hcl⟩ := Atoms.get hb
  obtain ⟨ua, uc, rfl⟩ := ints_slice hu
  obtain ⟨un, hun⟩ : ∃ x, x = A.length := ⟨_, rfl⟩
  obtain ⟨n, hn⟩ : ∃ x, x = body.length := ⟨_, rfl⟩
  rw [← hun] at hu ⊢
  rw [← hn] at hia hcl hle ⊢
  have Hn := Lib.hid hn
  have Hc := Lib.hid hcl
  have Hix := Lib.hid (run_ix (P := Try.prog) (t := 23) (a := a) (len := n) (cap := cap) (b := b) (off := off) (s := 2) Try.underlying23 (by intro w; kernel_rfl) hia)
  obtain ⟨w1, hw1⟩ : ∃ x, x = w.alloc (.cells #[h0, .slice a n cap] 25) := ⟨_, rfl⟩
  obtain ⟨w2, hw2⟩ : ∃ x, x = w1.alloc (.cells #[.int .i64 r, .slice ua un uc] 80) := ⟨_, rfl⟩
  have k1 : Below w.heap.size w w1 := by rw [hw1]; exact below_alloc _ _
  have k2 : Below w1.heap.size w1 w2 := by rw [hw2]; exact below_alloc _ _
  obtain ⟨b1, hb1⟩ : ∃ x, x = w.heap.size := ⟨_, rfl⟩
  obtain ⟨b2, hb2⟩ : ∃ x, x = b1 + 1 := ⟨_, rfl⟩
  have z : w1.heap.size = b2 := by rw [hb2, hb1, hw1]; simp
  have g1 : w2.heap[b1]? = some (.cells #[h0, .slice a n cap] 25 (0, 0)) := blk_keep (by rw [hb1, hw1]; exact heap_alloc_new _ _) k2
  have g2 : w2.heap[b2]? = some (.cells #[.int .i64 r, .slice ua un uc] 80 (0, 0)) := by rw [← z, hw2]; exact heap_alloc_new _ _
  have HG := Lib.hid (And.intro g1 g2)
  have HB := Lib.hid (Below.tr k1 k2)
  have HU := Lib.hid ((hu.keep k1).keep k2)
  have Hw1 := Lib.hid hw1
  have Hw2 := Lib.hid hw2
  have H1 := Lib.hid hb1
  have H2 := Lib.hid hb2
  clear hw1 hw2 k1 k2 hb1 hb2 z g1 g2 hu hb hn hun hia hcl
  go_enter Try.func80, Try.ntmps80
  go_upto_region 1 with fail
  rw [← Hw1.out, ← Hw2.out, ← H1.out, ← H2.out]
  clear Hw1 Hw2 H1 H2
  have g1 := aCell HG.out.1 1 rfl
  go_wp2_with fail
  clear g1
  go_loopw [10] (fun vi wr => ∃ k : Nat, vi = .int .i64 k ∧ k ≤ n ∧ Below w2.heap.size w2 wr ∧ ∀ j, j < k → body.getD j (0, []) ≠ (r, A)) (fun vi _ => n - (intOf vi).toNat)
  case atStart => exact ⟨0, rfl, Nat.zero_le _, Below.refl _ _, fun j hj => by omega⟩
  case round =>
    generalize wr = wx at *
    obtain ⟨k, rfl, hk, hb, hno⟩ := hrel
    have Hb := Lib.hid hb
    have Hno := Lib.hid hno
    clear hb hno
    by_cases hlt : k < n
    · have hbw := Below.tr HB.out Hb.out
      have hc1 := Below.keep hbw (Hc.out k hlt).1
      have hc2 := Below.keep hbw (Hc.out k hlt).2.1
      have hi := Ints.keep (Hc.out k hlt).2.2 hbw
      have hixk := Hix.out k
      have HD := Lib.hid (show body.getD k (0, []) = (aR body k, aA body k) from rfl)
      have HM := Lib.hid (show body.getD k (0, []) ∈ body from by
        have h : k < body.length := by rw [← Hn.out]; exact hlt
        rw [List.getD_eq_getElem?_getD, List.getElem?_eq_getElem h]; exact List.getElem_mem h)
      obtain ⟨va, vc, hva⟩ := ints_slice hi
      rw [hva] at hc2 hi
      clear hva hbw
      obtain ⟨s, hs⟩ : ∃ t, t = aR body k := ⟨_, rfl⟩
      obtain ⟨D, hD⟩ : ∃ t, t = aA body k := ⟨_, rfl⟩
      rw [← hs, ← hD] at HD
      rw [← hs] at hc1
      rw [← hD] at hc2 hi
      clear hs hD
      obtain ⟨vn, hvn⟩ : ∃ x, x = D.length := ⟨_, rfl⟩
      rw [← hvn] at hc2 hi
      obtain ⟨w3, hw3⟩ : ∃ x, x = wx.alloc (.cells #[.int .i64 s, .slice va vn vc] 80) := ⟨_, rfl⟩
      have k3 : Below wx.heap.size wx w3 := by rw [hw3]; exact below_alloc _ _
      obtain ⟨b3, hb3⟩ : ∃ x, x = wx.heap.size := ⟨_, rfl⟩
      have h3 : w3.heap[b3]? = some (.cells #[.int .i64 s, .slice va vn vc] 80 (0, 0)) := by rw [hb3, hw3]; exact heap_alloc_new _ _
      have HF := Lib.hid h3
      have h4 := blk_keep (blk_keep HG.out.2 Hb.out) k3
      have HB3 := Lib.hid (Below.tr Hb.out k3)
      have g2 := aCell h4 0 rfl
      have g3 := aCell h4 1 rfl
      have g4 := aCell h3 0 rfl
      have g5 := aCell h3 1 rfl
      have HE := Lib.hid (equalQ_any A D _ _ w3 (HU.out.keep HB3.out) (hi.keep k3))
      have Hw3 := Lib.hid hw3
      have Hb3 := Lib.hid hb3
      clear hw3 hb3 k3 h3 h4 hi hvn
      go_upto_region 4 with fail
      rw [← Hw3.out, ← Hb3.out]
      clear Hw3 hc1 hc2 hixk
      by_cases c : r = s
      · have q : (r == s) = true := by rw [beq_iff_eq]; exact c
        by_cases d : A = D
        · have R := Lib.hid (show C = true from by rw [← hC]; exact decide_eq_true (by rw [c, d, ← HD.out]; exact HM.out))
          rw [decide_eq_true d] at HE
          clear c d
          go_wp2_with fail
          refine HE.out.mono ?_
          rintro e w5 ⟨rfl, rfl⟩
          go_wp2_with fail
          go_ret
          exact ⟨by rw [R.out]; rfl, Below.tr HB.out HB3.out⟩
        · have N := Lib.hid (show ∀ j, j < k + 1 → body.getD j (0, []) ≠ (r, A) from fun j hj => by
            by_cases e : j = k
            · subst e; rw [HD.out]; exact fun h => d (by injection h with _ h; exact h.symm)
            · exact Hno.out j (by omega))
          rw [decide_eq_false d] at HE
          clear c d
          go_wp2_with fail
          refine HE.out.mono ?_
          rintro e w5 ⟨rfl, rfl⟩
          go_wp2_with fail
          go_roundw
          case rel => exact ⟨k + 1, by go_num, by omega, HB3.out, N.out⟩
          case measure => simp [intOf]; omega
      · have q : (r == s) = false := by rw [beq_eq_false_iff_ne]; exact c
        have N := Lib.hid (show ∀ j, j < k + 1 → body.getD j (0, []) ≠ (r, A) from fun j hj => by
          by_cases e : j = k
          · subst e; rw [HD.out]; exact fun h => c (by injection h with h _; exact h.symm)
          · exact Hno.out j (by omega))
        clear c
        go_wp2_with fail
        go_roundw
        case rel => exact ⟨k + 1, by go_num, by omega, HB3.out, N.out⟩
        case measure => simp [intOf]; omega
    · obtain rfl : k = n := by omega
      have R := Lib.hid (show C = false from by
        rw [← hC]
        refine decide_eq_false fun h => ?_
        obtain ⟨j, hj, e⟩ := List.getElem_of_mem h
        exact Hno.out j (by rw [Hn.out]; exact hj) (by rw [List.getD_eq_getElem?_getD, List.getElem?_eq_getElem hj, ← e]; rfl))
      go_wp2_with fail
      go_ret
      exact ⟨by rw [R.out]; rfl, Below.tr HB.out Hb.out⟩
#print axioms imageR_any
#print axioms hasR_any
end Go.Proofs.Ytfplmdieeabgpaa
