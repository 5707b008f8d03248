/- Contract of the laws' Same: facts compared one by one. -/
import Derived.Test.YthndplkjhbmfmaaRfs
import Derived.Test.YthndplkjhbmfmaaEqq
namespace Go.Proofs.Ythndplkjhbmfmaa
open Go.RowKit
theorem drewB {w w' : World} {n : Nat} (h : w' = w.drewN n) : Below w.heap.size w w' := by rw [h]; exact ⟨rfl, rfl, rfl, Nat.le_refl _, fun _ _ => rfl⟩
set_option maxRecDepth 100000 in
theorem sameC_any (r s : Int) (A B : List Int) (u v : Value) (w : World) (hu : Ints w u A) (hv : Ints w v B) (C : Bool) (hC : decide ((r, A) = (s, B)) = C) :
    Calls Try.prog 80 #[.agg #[.int .i64 r, u], .agg #[.int .i64 s, v]] w fun e w' => e = .returned (.bool C) ∧ Below w.heap.size w w' := by
  obtain ⟨w1, hw1⟩ : ∃ x, x = w.alloc (.cells #[.int .i64 r, u] 50) := ⟨_, rfl⟩
  obtain ⟨w2, hw2⟩ : ∃ x, x = w1.alloc (.cells #[.int .i64 s, v] 50) := ⟨_, rfl⟩
  have k1 : Below w.heap.size w w1 := by rw [hw1]; exact below_alloc _ _
  have k2 : Below w1.heap.size w1 w2 := by rw [hw2]; exact below_alloc _ _
  obtain ⟨b1, hb1⟩ : ∃ x, x = w.heap.size := ⟨_, rfl⟩
  obtain ⟨b2, hb2⟩ : ∃ x, x = b1 + 1 := ⟨_, rfl⟩
  have z : w1.heap.size = b2 := by rw [hb2, hb1, hw1]; simp
  have h1 : w2.heap[b1]? = some (.cells #[.int .i64 r, u] 50 (0, 0)) := blk_keep2 (by rw [hb1, hw1]; exact heap_alloc_new _ _) k2
  have h2 : w2.heap[b2]? = some (.cells #[.int .i64 s, v] 50 (0, 0)) := by rw [← z, hw2]; exact heap_alloc_new _ _
  have HB := Lib.hid (Below.tr k1 k2)
  have HE := Lib.hid (equal_any A B u v w2 ((hu.keep k1).keep k2) ((hv.keep k1).keep k2))
  obtain ⟨ua, uc, rfl⟩ := ints_slice hu
  obtain ⟨va, vc, rfl⟩ := ints_slice hv
  obtain ⟨un, hun⟩ : ∃ x, x = A.length := ⟨_, rfl⟩
  obtain ⟨vn, hvn⟩ : ∃ x, x = B.length := ⟨_, rfl⟩
  rw [← hun] at HE h1 hw1 ⊢
  rw [← hvn] at HE h2 hw2 ⊢
  have g0 := aCell h1 0 rfl
  have g1 := aCell h1 1 rfl
  have g2 := aCell h2 0 rfl
  have g3 := aCell h2 1 rfl
  have Hw1 := Lib.hid hw1
  have Hw2 := Lib.hid hw2
  have H1 := Lib.hid hb1
  have H2 := Lib.hid hb2
  clear hw1 hw2 k1 k2 hu hv hun hvn h1 h2 z hb1 hb2
  obtain ⟨D, hD⟩ : ∃ D, D = decide (A = B) := ⟨_, rfl⟩
  rw [← hD] at HE
  have HC := Lib.hid (show C = (decide (r = s) && D) from by rw [← hC, hD]; simp)
  clear hD hC
  go_enter Try.func80, Try.ntmps80
  go_upto_region 1 with fail
  rw [← Hw1.out, ← Hw2.out, ← H1.out, ← H2.out]
  clear Hw1 Hw2
  by_cases c : r = s
  · have q : (r == s) = true := by rw [beq_iff_eq]; exact c
    have R := Lib.hid (show C = D by rw [HC.out, decide_eq_true c]; rfl)
    clear c
    go_wp2_with fail
    refine HE.out.mono ?_
    rintro e w5 ⟨rfl, m, hm⟩
    have HB5 := Lib.hid (Below.tr HB.out (drewB hm))
    clear hm
    go_wp2_with fail
    go_ret
    exact ⟨by rw [R.out]; rfl, HB5.out⟩
  · have q : (r == s) = false := by rw [beq_eq_false_iff_ne]; exact c
    have R := Lib.hid (show C = false by rw [HC.out, decide_eq_false c]; rfl)
    clear c
    go_wp2_with fail
    go_ret
    exact ⟨by rw [R.out]; rfl, HB.out⟩
set_option maxRecDepth 100000 in
set_option maxHeartbeats 8000000 in
theorem eqFacts_any (L M : List HAt) (u v : Value) (w : World) (hu : Atoms w u L) (hv : Atoms w v M) (C : Bool) (hC : decide (L = M) = C) :
    Calls Try.prog 79 #[u, v, .func (.func 80) #[] #[]] w fun e w' => e = .returned (.bool C) ∧ Below w.heap.size w w' := by
  obtain ⟨a, b, off, cap, vs, rfl, hle, ha, hcap, hc⟩ := Atoms.get hu
  obtain ⟨a', b', off', cap', vs', rfl, hle', ha', hcap', hc'⟩ := Atoms.get hv
  have Hix := Lib.hid (run_ix (P := Try.prog) (t := 39) (a := a) (len := L.length) (cap := cap) (b := b) (off := off) (s := 2) Try.underlying39 (by intro w; kernel_rfl) ha)
  have Hix' := Lib.hid (run_ix (P := Try.prog) (t := 39) (a := a') (len := M.length) (cap := cap') (b := b') (off := off') (s := 2) Try.underlying39 (by intro w; kernel_rfl) ha')
  have Hc := Lib.hid hc
  have Hc' := Lib.hid hc'
  clear hu hv ha ha' hc hc' hcap hcap'
  by_cases hl : L.length = M.length
  · have Hl := Lib.hid hl
    rw [← hl] at Hix' hle' ⊢
    clear hl
    obtain ⟨n, hn⟩ : ∃ x, x = L.length := ⟨_, rfl⟩
    have Hn := Lib.hid hn
    rw [← hn] at Hix Hix' hle hle' Hc Hl ⊢
    clear hn
    go_enter Try.func79, Try.ntmps79
    go_wp2_with fail
    go_loopw [17] (fun vi wr => ∃ k : Nat, vi = .int .i64 k ∧ k ≤ n ∧ Below w.heap.size w wr ∧ ∀ j, j < k → L.getD j (0, []) = M.getD j (0, [])) (fun vi _ => n - (intOf vi).toNat)
    case atStart => exact ⟨0, rfl, Nat.zero_le _, Below.refl _ _, fun j hj => by omega⟩
    case round =>
      obtain ⟨k, rfl, hk, hb, hin⟩ := hrel
      have Hb := Lib.hid hb
      have Hin := Lib.hid hin
      clear hb hin
      by_cases hlt : k < n
      · have hlt' : k < M.length := by rw [← Hl.out]; exact hlt
        have hc1 := Below.keep Hb.out (Hc.out k hlt).1
        have hc2 := Below.keep Hb.out (Hc.out k hlt).2.1
        have hi := Ints.keep (Hc.out k hlt).2.2 Hb.out
        have hc3 := Below.keep Hb.out (Hc'.out k hlt').1
        have hc4 := Below.keep Hb.out (Hc'.out k hlt').2.1
        have hj := Ints.keep (Hc'.out k hlt').2.2 Hb.out
        have hixk := Hix.out k
        have hixk' := Hix'.out k
        have hD : decide ((aR L k, aA L k) = (aR M k, aA M k)) = decide (L.getD k (0, []) = M.getD k (0, [])) := rfl
        obtain ⟨ua, uc, hua⟩ := ints_slice hi
        obtain ⟨va, vc, hva⟩ := ints_slice hj
        rw [hua] at hc2 hi
        rw [hva] at hc4 hj
        clear hua hva hlt'
        obtain ⟨r, hr⟩ : ∃ t, t = aR L k := ⟨_, rfl⟩
        obtain ⟨A, hA⟩ : ∃ t, t = aA L k := ⟨_, rfl⟩
        obtain ⟨s, hs⟩ : ∃ t, t = aR M k := ⟨_, rfl⟩
        obtain ⟨B, hB⟩ : ∃ t, t = aA M k := ⟨_, rfl⟩
        rw [← hr, ← hA, ← hs, ← hB] at hD
        rw [← hr] at hc1
        rw [← hs] at hc3
        rw [← hA] at hc2 hi
        rw [← hB] at hc4 hj
        clear hr hA hs hB
        obtain ⟨un, hun⟩ : ∃ x, x = A.length := ⟨_, rfl⟩
        obtain ⟨vn, hvn⟩ : ∃ x, x = B.length := ⟨_, rfl⟩
        rw [← hun] at hc2 hi
        rw [← hvn] at hc4 hj
        obtain ⟨w3, hw3⟩ : ∃ x, x = wr.alloc (.cells #[.int .i64 r, .slice ua un uc] 50) := ⟨_, rfl⟩
        obtain ⟨w4, hw4⟩ : ∃ x, x = w3.alloc (.cells #[.int .i64 s, .slice va vn vc] 50) := ⟨_, rfl⟩
        have k3 : Below wr.heap.size wr w3 := by rw [hw3]; exact below_alloc _ _
        have k4 : Below w3.heap.size w3 w4 := by rw [hw4]; exact below_alloc _ _
        obtain ⟨b3, hb3⟩ : ∃ x, x = wr.heap.size := ⟨_, rfl⟩
        obtain ⟨b4, hb4⟩ : ∃ x, x = w3.heap.size := ⟨_, rfl⟩
        have hF : w3.heap[b3]? = some (.cells #[.int .i64 r, .slice ua un uc] 50 (0, 0)) := by rw [hb3, hw3]; exact heap_alloc_new _ _
        have hG : w4.heap[b4]? = some (.cells #[.int .i64 s, .slice va vn vc] 50 (0, 0)) := by rw [hb4, hw4]; exact heap_alloc_new _ _
        have hF4 := blk_keep2 hF k4
        have HF := Lib.hid (And.intro hF4 hG)
        have HE := Lib.hid (fun C hC => sameC_any r s A B _ _ w4 ((hi.keep k3).keep k4) ((hj.keep k3).keep k4) C hC)
        have HB4 := Lib.hid (Below.tr Hb.out (Below.tr k3 k4))
        have hc3' := Below.keep k3 hc3
        have hc4' := Below.keep k3 hc4
        have Hw3 := Lib.hid hw3
        have Hw4 := Lib.hid hw4
        have H3 := Lib.hid hb3
        have H4 := Lib.hid hb4
        have HD := Lib.hid hD
        clear hw3 hw4 k3 k4 hb3 hb4 hF hG hF4 hi hj hc3 hc4 hun hvn hD
        go_upto_region 6 with fail
        rw [← Hw3.out, ← H3.out]
        clear Hw3 hc1 hc2
        go_upto_region 7 with fail
        rw [← Hw4.out, ← H4.out]
        clear Hw4 hc3' hc4' hixk hixk'
        have g0 := aCell HF.out.1 0 rfl
        have g1 := aCell HF.out.1 1 rfl
        have g2 := aCell HF.out.2 0 rfl
        have g3 := aCell HF.out.2 1 rfl
        by_cases e : L.getD k (0, []) = M.getD k (0, [])
        · have HE := Lib.hid (HE.out true (HD.out.trans (decide_eq_true e)))
          have HI := Lib.hid (show ∀ j, j < k + 1 → L.getD j (0, []) = M.getD j (0, []) from fun j hj => by
            by_cases c : j = k
            · subst c; exact e
            · exact Hin.out j (by omega))
          clear e
          go_wp2_with fail
          refine HE.out.mono ?_
          rintro e w5 ⟨rfl, hb⟩
          have HB5 := Lib.hid (Below.tr HB4.out hb)
          clear hb g0 g1 g2 g3
          go_wp2_with fail
          go_roundw
          case rel => exact ⟨k + 1, by go_num, by omega, HB5.out, HI.out⟩
          case measure => simp [intOf]; omega
        · have HE := Lib.hid (HE.out false (HD.out.trans (decide_eq_false e)))
          have R := Lib.hid (show C = false from by rw [← hC]; exact decide_eq_false fun h => e (by rw [h]))
          clear e
          go_wp2_with fail
          refine HE.out.mono ?_
          rintro e w5 ⟨rfl, hb⟩
          have HB5 := Lib.hid (Below.tr HB4.out hb)
          clear hb g0 g1 g2 g3
          go_wp2_with fail
          go_ret
          exact ⟨by rw [R.out]; rfl, HB5.out⟩
      · obtain rfl : k = n := by omega
        have R := Lib.hid (show C = true from by
          rw [← hC]
          exact decide_eq_true (List.ext_getElem (Hn.out.symm.trans Hl.out) fun j h h' => by
            have := Hin.out j (by rw [Hn.out]; exact h)
            rwa [List.getD_eq_getElem?_getD, List.getElem?_eq_getElem h, List.getD_eq_getElem?_getD, List.getElem?_eq_getElem h'] at this))
        go_wp2_with fail
        go_ret
        exact ⟨by rw [R.out]; rfl, Hb.out⟩
  · have Re := Lib.hid (show C = false from by rw [← hC]; exact decide_eq_false fun h => hl (by rw [h]))
    have q1 : ((L.length : Int) != (M.length : Int)) = true := by rw [bne_iff_ne]; omega
    clear hl hC
    go_enter Try.func79, Try.ntmps79
    go_wp2_with fail
    go_ret
    exact ⟨by rw [Re.out]; rfl, Below.refl _ _⟩
theorem same_any (L M : List HAt) (u v : Value) (w : World) (hu : Atoms w u L) (hv : Atoms w v M) (C : Bool) (hC : decide (L = M) = C) :
    Calls Try.prog 31 #[u, v] w fun e w' => e = .returned (.bool C) ∧ Below w.heap.size w w' := by
  have H := Lib.hid (eqFacts_any L M u v w hu hv C hC)
  clear hu hv hC
  go_enter Try.func31, Try.ntmps31
  go_wp2_with fail
  refine H.out.mono ?_
  rintro e w5 ⟨rfl, hb⟩
  have Hb := Lib.hid hb
  clear hb
  go_wp2_with fail
  go_ret
  exact ⟨rfl, Hb.out⟩
#print axioms same_any
end Go.Proofs.Ythndplkjhbmfmaa
