/- The sort of bytes: siftDown, the heap sort. -/
import Derived.Test.YtbnlkmblkokooaaBsa
namespace Go.Proofs.Ytbnlkmblkokooaa
open Go.RowKit
open Go.Sort (PermIn SortedIn swp)
theorem sd_stop {hi first root : Nat} {d : Array Int} (h : hi ≤ 2 * root + 1) : Go.Sort.siftDown ltI hi first root d = d := by
  rw [Go.Sort.siftDown, dif_pos h]
/-- the greater child -/
def Gch (hi first root : Nat) (d : Array Int) (c : Nat) : Prop :=
  (2 * root + 2 < hi ∧ ltI d[first + (2 * root + 1)]! d[first + (2 * root + 2)]! = true ∧ c = 2 * root + 2) ∨
  ((2 * root + 2 < hi → ltI d[first + (2 * root + 1)]! d[first + (2 * root + 2)]! = false) ∧ 2 * root + 1 < hi ∧ c = 2 * root + 1)
theorem sd_ret {hi first root c : Nat} {d : Array Int} (h : Gch hi first root d c) (hl : ltI d[first + root]! d[first + c]! = false) : Go.Sort.siftDown ltI hi first root d = d := by
  rw [Go.Sort.siftDown]
  rcases h with ⟨h1, h2, rfl⟩ | ⟨h1, h2, rfl⟩
  · rw [dif_neg (by omega), if_pos (by simp only [Bool.and_eq_true, decide_eq_true_eq]; exact ⟨h1, h2⟩), if_pos (by rw [hl]; rfl)]
  · rw [dif_neg (by omega)]
    by_cases h3 : 2 * root + 2 < hi
    · rw [if_neg (by simp only [Bool.and_eq_true, decide_eq_true_eq]; exact fun h => by have := h1 h3; rw [show first + (2 * root + 2) = first + (2 * root + 1) + 1 by omega] at this; rw [this] at h; exact absurd h.2 (by simp)), if_pos (by rw [hl]; rfl)]
    · rw [if_neg (by simp only [Bool.and_eq_true, decide_eq_true_eq]; exact fun h => h3 h.1), if_pos (by rw [hl]; rfl)]
theorem sd_go {hi first root c : Nat} {d : Array Int} (h : Gch hi first root d c) (hl : ltI d[first + root]! d[first + c]! = true) : Go.Sort.siftDown ltI hi first root d = Go.Sort.siftDown ltI hi first c (swp d (first + root) (first + c)) := by
  rw [Go.Sort.siftDown]
  rcases h with ⟨h1, h2, rfl⟩ | ⟨h1, h2, rfl⟩
  · rw [dif_neg (by omega), if_pos (by simp only [Bool.and_eq_true, decide_eq_true_eq]; exact ⟨h1, h2⟩), if_neg (by rw [hl]; simp), dif_pos h1]
  · rw [dif_neg (by omega)]
    by_cases h3 : 2 * root + 2 < hi
    · rw [if_neg (by simp only [Bool.and_eq_true, decide_eq_true_eq]; exact fun h => by have := h1 h3; rw [show first + (2 * root + 2) = first + (2 * root + 1) + 1 by omega] at this; rw [this] at h; exact absurd h.2 (by simp)), if_neg (by rw [hl]; simp)]
    · rw [if_neg (by simp only [Bool.and_eq_true, decide_eq_true_eq]; exact fun h => h3 h.1), if_neg (by rw [hl]; simp)]
set_option maxHeartbeats 4000000 in
set_option maxRecDepth 100000 in
theorem sift_b (blk off cap lo hi first : Nat) (d : Array Int) (w : World) (hR : RowAt w blk off d) (hb : first + hi ≤ d.size) (hlo : lo ≤ hi) :
    Calls Try.prog 118 #[.slice (some ⟨blk, off, none⟩) d.size cap, .int .i64 lo, .int .i64 hi, .int .i64 first] w fun e w' =>
      e = .returned (.tuple #[]) ∧ ∃ d', Rw w blk off d' w' ∧ Go.Sort.siftDown ltI hi first lo d = d' ∧ d'.size = d.size := by
  obtain ⟨N, hN⟩ : ∃ N, N = d.size := ⟨_, rfl⟩
  have HR := Lib.hid hR
  have HN := Lib.hid hN
  have hN1 : N < 1000000 := by rw [hN]; exact hR.2.2
  rw [← hN] at hb
  rw [← hN]
  clear hR hN
  go_enter Try.func118, Try.ntmps118
  go_wp2
  go_loopw [8] (fun vi wr => ∃ (root : Nat) (dk : Array Int), vi = .int .i64 root ∧ root ≤ hi ∧ Rw w blk off dk wr ∧ dk.size = N ∧ Go.Sort.siftDown ltI hi first root dk = Go.Sort.siftDown ltI hi first lo d) (fun vi _ => hi - (intOf vi).toNat)
  case atStart => exact ⟨lo, d, rfl, hlo, Rw.start HR.out, HN.out.symm, rfl⟩
  case round =>
    obtain ⟨root, dk, rfl, hri, hrw, hsz, heq⟩ := hrel
    obtain ⟨G, hG⟩ : ∃ G : Nat → Int, ∀ t, G t = dk[t]! := ⟨fun t => dk[t]!, fun _ => rfl⟩
    have hrow := Rw.row HR.out hrw (by rw [hsz, HN.out])
    have hcw : ∀ t, t < N → wr.cell? ⟨blk, off + t, none⟩ = some (.int .u8 (G t)) := fun t ht => by rw [hG]; exact hrow.cell (by omega)
    have hfw : ∀ t, t < N → wr.frozen? ⟨blk, off + t, none⟩ = false := fun t ht => hrow.frozen (by omega)
    have HW := Lib.hid hrw
    have HE := Lib.hid heq
    have HG := Lib.hid hG
    have HZ := Lib.hid hsz
    clear hrw heq hG hrow hsz
    by_cases h0 : hi ≤ 2 * root + 1
    · have h0z : (hi : Int) ≤ 2 * (root : Int) + 1 := by omega
      go_wp2
      go_end0
      exact ⟨rfl, dk, HW.out, by rw [← HE.out]; exact sd_stop h0, HZ.out⟩
    · have h0z : ¬ ((hi : Int) ≤ 2 * (root : Int) + 1) := by omega
      by_cases h1 : 2 * root + 2 < hi
      · have h1z : 2 * (root : Int) + 1 + 1 < (hi : Int) := by omega
        go_wp2_with fail
        go_quiet (first | (go_at_call 96; refine Calls.quiet_of_same (less_b _ _ _)))
        go_wp2_with fail
        · have hL : ltI (G (first + (2 * root + 1))) (G (first + (2 * root + 2))) = true := by
            have : ltI (G (first + 2 * root + 1)) (G (first + 2 * root + 2)) = true := by assumption
            simpa [Nat.add_assoc] using this
          have HC := Lib.hid (show Gch hi first root dk (2 * root + 2) from Or.inl ⟨h1, by rw [← HG.out, ← HG.out]; exact hL, rfl⟩)
          clear hL
          have hQ := hcw
          obtain ⟨W2, hW2⟩ : ∃ W2 : World, W2 = wr.drewN nq := ⟨_, rfl⟩
          have hcw2 : ∀ t, t < N → W2.cell? ⟨blk, off + t, none⟩ = some (.int .u8 (G t)) := fun t ht => by rw [hW2]; exact hcw t ht
          have hfw2 : ∀ t, t < N → W2.frozen? ⟨blk, off + t, none⟩ = false := fun t ht => by rw [hW2]; exact hfw t ht
          have HV := Lib.hid (show Rw w blk off dk W2 from by rw [hW2]; exact HW.out.drewN nq)
          rw [← hW2]
          clear hcw hfw hW2 hQ
          revert nq; intro nq1
          go_quiet (first | (go_at_call 96; refine Calls.quiet_of_same (less_b _ _ _)))
          go_wp2_with fail
          · have hS : ltI (G (first + root)) (G (first + (2 * root + 2))) = false := by
              have : (!ltI (G (first + root)) (G (first + 2 * root + 2))) = true := by assumption
              simpa [Nat.add_assoc] using this
            (try simp only [Exit.inBlock, Exit.then]); refine bodyPost_ret (results_none rfl _ _ _) rfl ?_
            exact ⟨rfl, dk, HV.out.drewN nq, by rw [← HE.out]; exact sd_ret HC.out (by rw [← HG.out, ← HG.out]; exact hS), HZ.out⟩
          · have hS : ltI (G (first + root)) (G (first + (2 * root + 2))) = true := by
              have : (!ltI (G (first + root)) (G (first + 2 * root + 2))) = false := by assumption
              simpa [Nat.add_assoc] using this
            go_region
            all_goals go_wp2
            go_roundw
            case rel =>
              refine ⟨2 * root + 2, swp dk (first + root) (first + (2 * root + 2)), by go_num, by omega, ?_, by rw [Go.Sort.size_swp, HZ.out], ?_⟩
              · have h := (Rw.swap HR.out (HV.out.drewN nq) (i := first + root) (j := first + (2 * root + 2)) (by rw [HZ.out]; omega) (by rw [HZ.out]; omega)).drew
                rw [← HG.out, ← HG.out] at h
                exact h
              · rw [← HE.out]
                exact (sd_go HC.out (by rw [← HG.out, ← HG.out]; exact hS)).symm
            case measure => simp [intOf] <;> omega
        · have hL : ltI (G (first + (2 * root + 1))) (G (first + (2 * root + 2))) = false := by
            have : ltI (G (first + 2 * root + 1)) (G (first + 2 * root + 2)) = false := by assumption
            simpa [Nat.add_assoc] using this
          have HC := Lib.hid (show Gch hi first root dk (2 * root + 1) from Or.inr ⟨fun _ => by rw [← HG.out, ← HG.out]; exact hL, by omega, rfl⟩)
          clear hL
          have hQ := hcw
          obtain ⟨W2, hW2⟩ : ∃ W2 : World, W2 = wr.drewN nq := ⟨_, rfl⟩
          have hcw2 : ∀ t, t < N → W2.cell? ⟨blk, off + t, none⟩ = some (.int .u8 (G t)) := fun t ht => by rw [hW2]; exact hcw t ht
          have hfw2 : ∀ t, t < N → W2.frozen? ⟨blk, off + t, none⟩ = false := fun t ht => by rw [hW2]; exact hfw t ht
          have HV := Lib.hid (show Rw w blk off dk W2 from by rw [hW2]; exact HW.out.drewN nq)
          rw [← hW2]
          clear hcw hfw hW2 hQ
          revert nq; intro nq1
          go_quiet (first | (go_at_call 96; refine Calls.quiet_of_same (less_b _ _ _)))
          go_wp2_with fail
          · have hS : ltI (G (first + root)) (G (first + (2 * root + 1))) = false := by
              have : (!ltI (G (first + root)) (G (first + 2 * root + 1))) = true := by assumption
              simpa [Nat.add_assoc] using this
            (try simp only [Exit.inBlock, Exit.then]); refine bodyPost_ret (results_none rfl _ _ _) rfl ?_
            exact ⟨rfl, dk, HV.out.drewN nq, by rw [← HE.out]; exact sd_ret HC.out (by rw [← HG.out, ← HG.out]; exact hS), HZ.out⟩
          · have hS : ltI (G (first + root)) (G (first + (2 * root + 1))) = true := by
              have : (!ltI (G (first + root)) (G (first + 2 * root + 1))) = false := by assumption
              simpa [Nat.add_assoc] using this
            go_region
            all_goals go_wp2
            go_roundw
            case rel =>
              refine ⟨2 * root + 1, swp dk (first + root) (first + (2 * root + 1)), by go_num, by omega, ?_, by rw [Go.Sort.size_swp, HZ.out], ?_⟩
              · have h := (Rw.swap HR.out (HV.out.drewN nq) (i := first + root) (j := first + (2 * root + 1)) (by rw [HZ.out]; omega) (by rw [HZ.out]; omega)).drew
                rw [← HG.out, ← HG.out] at h
                exact h
              · rw [← HE.out]
                exact (sd_go HC.out (by rw [← HG.out, ← HG.out]; exact hS)).symm
            case measure => simp [intOf] <;> omega
      · have h1z : decide (2 * (root : Int) + 1 + 1 < (hi : Int)) = false := decide_eq_false (by omega)
        go_wp2_with fail
        go_quiet (first | (go_at_call 96; refine Calls.quiet_of_same (less_b _ _ _)))
        go_wp2_with fail
        have HC := Lib.hid (show Gch hi first root dk (2 * root + 1) from Or.inr ⟨fun h => absurd h h1, by omega, rfl⟩)
        have hQ := hcw
        obtain ⟨W2, hW2⟩ : ∃ W2 : World, W2 = wr.drewN nq := ⟨_, rfl⟩
        have hcw2 : ∀ t, t < N → W2.cell? ⟨blk, off + t, none⟩ = some (.int .u8 (G t)) := fun t ht => by rw [hW2]; exact hcw t ht
        have hfw2 : ∀ t, t < N → W2.frozen? ⟨blk, off + t, none⟩ = false := fun t ht => by rw [hW2]; exact hfw t ht
        have HV := Lib.hid (show Rw w blk off dk W2 from by rw [hW2]; exact HW.out.drewN nq)
        rw [← hW2]
        clear hcw hfw hW2 hQ
        revert nq; intro nq1
        go_quiet (first | (go_at_call 96; refine Calls.quiet_of_same (less_b _ _ _)))
        go_wp2_with fail
        · have hS : ltI (G (first + root)) (G (first + (2 * root + 1))) = false := by
            have : (!ltI (G (first + root)) (G (first + 2 * root + 1))) = true := by assumption
            simpa [Nat.add_assoc] using this
          (try simp only [Exit.inBlock, Exit.then]); refine bodyPost_ret (results_none rfl _ _ _) rfl ?_
          exact ⟨rfl, dk, HV.out.drewN nq, by rw [← HE.out]; exact sd_ret HC.out (by rw [← HG.out, ← HG.out]; exact hS), HZ.out⟩
        · have hS : ltI (G (first + root)) (G (first + (2 * root + 1))) = true := by
            have : (!ltI (G (first + root)) (G (first + 2 * root + 1))) = false := by assumption
            simpa [Nat.add_assoc] using this
          go_region
          all_goals go_wp2
          go_roundw
          case rel =>
            refine ⟨2 * root + 1, swp dk (first + root) (first + (2 * root + 1)), by go_num, by omega, ?_, by rw [Go.Sort.size_swp, HZ.out], ?_⟩
            · have h := (Rw.swap HR.out (HV.out.drewN nq) (i := first + root) (j := first + (2 * root + 1)) (by rw [HZ.out]; omega) (by rw [HZ.out]; omega)).drew
              rw [← HG.out, ← HG.out] at h
              exact h
            · rw [← HE.out]
              exact (sd_go HC.out (by rw [← HG.out, ← HG.out]; exact hS)).symm
          case measure => simp [intOf] <;> omega

set_option maxHeartbeats 400000 in
set_option maxRecDepth 100000 in
theorem heap_b (blk off cap a b : Nat) (d : Array Int) (w : World) (hR : RowAt w blk off d) (hab : a < b) (hb : b ≤ d.size) :
    Calls Try.prog 91 #[.slice (some ⟨blk, off, none⟩) d.size cap, .int .i64 a, .int .i64 b] w (SPost w blk off a b d (.tuple #[]) (SortedIn ltI a b)) := by
  obtain ⟨N, hN⟩ : ∃ N, N = d.size := ⟨_, rfl⟩
  have HR := Lib.hid hR
  have HN := Lib.hid hN
  have hN1 : N < 1000000 := by rw [hN]; exact hR.2.2
  have HH := Lib.hid (Go.Sort.heapSort_holds (lt := ltI) swoI d a b (Nat.le_of_lt hab) hb)
  have HB := Lib.hid (show Go.Sort.heapSort ltI d a b = Go.Sort.heapPop ltI a (b - a) (Go.Sort.heapBuild ltI (b - a) a ((b - a - 1) / 2 + 1) d) from rfl)
  rw [← hN] at hb
  rw [← hN]
  obtain ⟨n, hn⟩ : ∃ n, n = b - a := ⟨_, rfl⟩
  have hn0 : 0 < n := by omega
  rw [← hn] at HB
  have hb1 : a + n ≤ b := by omega
  have hb2 : b ≤ a + n := by omega
  have hnz : (b : Int) - (a : Int) = (n : Int) := by omega
  clear hR hN hn
  obtain ⟨m, hm⟩ : ∃ m, m = (n - 1) / 2 := ⟨_, rfl⟩
  have hq : ((n : Int) - 1).tdiv 2 = (m : Int) := by rw [Int.tdiv_eq_ediv_of_nonneg (by omega)]; omega
  rw [← hm] at HB
  have hm1 : m < n := by omega
  go_enter Try.func91, Try.ntmps91
  go_wp2
  go_loopw [9] (fun vi wr => ∃ (k : Nat) (dk : Array Int), vi = .int .i64 ((k : Int) - 1) ∧ k ≤ m + 1 ∧ Rw w blk off dk wr ∧ dk.size = N ∧ Go.Sort.heapPop ltI a n (Go.Sort.heapBuild ltI n a k dk) = Go.Sort.heapSort ltI d a b) (fun vi _ => (intOf vi + 1).toNat)
  case atStart => exact ⟨m + 1, d, by congr 1; omega, Nat.le_refl _, Rw.start HR.out, HN.out.symm, HB.out.symm⟩
  case round =>
    obtain ⟨k, dk, rfl, hk, hrw, hsz, heq⟩ := hrel
    have hrow := Lib.hid (Rw.row HR.out hrw (by rw [hsz, HN.out]))
    have HW := Lib.hid hrw
    have HE := Lib.hid heq
    have HZ := Lib.hid hsz
    clear hrw heq hsz
    cases k with
    | succ k =>
      have hkz : ((k + 1 : Nat) : Int) - 1 = (k : Int) := by omega
      rw [hkz]
      have HC := Lib.hid (sift_b blk off cap k n a dk wr hrow.out (by rw [HZ.out]; omega) (by omega))
      rw [HZ.out] at HC
      go_wp2_with fail
      refine HC.out.mono ?_
      rintro e w1 ⟨rfl, d1, hr1, hs1, hz1⟩
      have HW1 := Lib.hid (Rw.trans HR.out HW.out hr1 (hz1.trans HZ.out.symm))
      have HS1 := Lib.hid hs1
      have HZ1 := Lib.hid hz1
      clear hr1 hs1 hz1
      go_wp2_with fail
      go_roundw
      case rel => exact ⟨k, d1, rfl, by omega, HW1.out, HZ1.out, by rw [← HE.out, ← HS1.out]; rfl⟩
      case measure => simp [intOf] <;> omega
    | zero =>
      have hkz : ((0 : Nat) : Int) - 1 = -1 := by omega
      rw [hkz]
      go_wp2_with fail
      go_loopw [10] (fun vi wr => ∃ (k : Nat) (dk : Array Int), vi = .int .i64 ((k : Int) - 1) ∧ k ≤ n ∧ Rw w blk off dk wr ∧ dk.size = N ∧ Go.Sort.heapPop ltI a k dk = Go.Sort.heapSort ltI d a b) (fun vi _ => (intOf vi + 1).toNat)
      case atStart => exact ⟨n, dk, rfl, Nat.le_refl _, HW.out, HZ.out, HE.out⟩
      case round =>
        clear HW HE HZ hrow
        obtain ⟨k, dk, rfl, hk, hrw, hsz, heq⟩ := hrel
        have hrow := Rw.row HR.out hrw (by rw [hsz, HN.out])
        have HW := Lib.hid hrw
        have HE := Lib.hid heq
        have HZ := Lib.hid hsz
        obtain ⟨G, hG⟩ : ∃ G : Nat → Int, ∀ t, G t = dk[t]! := ⟨fun t => dk[t]!, fun _ => rfl⟩
        have hcw : ∀ t, t < N → wr.cell? ⟨blk, off + t, none⟩ = some (.int .u8 (G t)) := fun t ht => by rw [hG]; exact hrow.cell (by omega)
        have hfw : ∀ t, t < N → wr.frozen? ⟨blk, off + t, none⟩ = false := fun t ht => hrow.frozen (by omega)
        have HG := Lib.hid hG
        clear hrw heq hsz hrow hG
        cases k with
        | succ k =>
          have hkz : ((k + 1 : Nat) : Int) - 1 = (k : Int) := by omega
          rw [hkz]
          go_wp2_with fail
          obtain ⟨v3, hy3⟩ := cell?_setCell_some (w := wr) (p := ⟨blk, off + a, none⟩) (x := .int .u8 (G (a + k))) (q := ⟨blk, off + (a + k), none⟩) (hcw (a + k) (by omega))
          go_region
          all_goals go_wp2_with fail
          have h := (Rw.swap HR.out HW.out (i := a) (j := a + k) (by rw [HZ.out]; omega) (by rw [HZ.out]; omega)).drew
          rw [← HG.out, ← HG.out] at h
          obtain ⟨D, hD⟩ : ∃ D, D = swp dk a (a + k) := ⟨_, rfl⟩
          have hDz : D.size = N := by rw [hD, Go.Sort.size_swp, HZ.out]
          rw [← hD] at h
          have HW1 := Lib.hid h
          have HC := Lib.hid (sift_b blk off cap 0 k a D _ (Rw.row HR.out h (by rw [hDz, HN.out])) (by rw [hDz]; omega) (by omega))
          rw [hDz] at HC
          have HDz := Lib.hid hDz
          have HD := Lib.hid hD
          clear h hDz hD
          refine HC.out.mono ?_
          rintro e w1 ⟨rfl, d1, hr1, hs1, hz1⟩
          have HW2 := Lib.hid (Rw.trans HR.out HW1.out hr1 (hz1.trans HDz.out.symm))
          have HS1 := Lib.hid hs1
          have HZ1 := Lib.hid hz1
          clear hr1 hs1 hz1
          go_wp2_with fail
          go_roundw
          case rel => exact ⟨k, d1, rfl, by omega, HW2.out, HZ1.out, by rw [← HE.out, ← HS1.out, HD.out]; rfl⟩
          case measure => simp [intOf] <;> omega
        | zero =>
          have hkz : ((0 : Nat) : Int) - 1 = -1 := by omega
          rw [hkz]
          go_wp2_with fail
          go_end0
          have he : dk = Go.Sort.heapSort ltI d a b := HE.out
          exact ⟨rfl, dk, HW.out, by rw [he]; exact HH.out.1, by rw [he]; exact HH.out.2⟩
#print axioms heap_b
end Go.Proofs.Ytbnlkmblkokooaa
