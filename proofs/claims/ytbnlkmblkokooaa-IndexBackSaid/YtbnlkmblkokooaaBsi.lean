/- The sort of bytes: breakPatterns. -/
import Derived.Test.YtbnlkmblkokooaaBsh
namespace Go.Proofs.Ytbnlkmblkokooaa
open Go.RowKit
open Go.Sort (PermIn SortedIn swp)
set_option maxHeartbeats 4000000 in
set_option maxRecDepth 100000 in
theorem break_b (blk off cap a L : Nat) (d : Array Int) (w : World) (hR : RowAt w blk off d) (h8 : 8 ≤ L) (hb : a + L ≤ d.size) (B : Int) (hB : B = ((a + L : Nat) : Int)) :
    Calls Try.prog 92 #[.slice (some ⟨blk, off, none⟩) d.size cap, .int .i64 a, .int .i64 B] w (SPost w blk off a (a + L) d (.tuple #[]) (fun _ => True)) := by
  obtain ⟨N, hN⟩ : ∃ N, N = d.size := ⟨_, rfl⟩
  have HR := Lib.hid hR
  have HN := Lib.hid hN
  have hN1 : N < 1000000 := by rw [hN]; exact hR.2.2
  obtain ⟨g, hg⟩ : ∃ g, g = w.heap.size := ⟨_, rfl⟩
  have hnew := heap_alloc_new w (.cells #[.int .u64 L] 114)
  have h0 : Xw w blk off g d (w.alloc (.cells #[.int .u64 L] 114)) := ⟨(Rw.start hR).alloc _, L, by omega, by rw [hg]; exact cell_new _ _ _ 0, by rw [hg]; simp only [World.frozen?, hnew]; rfl⟩
  have HS := Lib.hid h0
  have HNx := Lib.hid (fun dk W hW => next_b w blk off g dk (Nat.le_of_eq hg.symm) W hW)
  have HPw := Lib.hid (npow_b L (by omega) (by omega))
  rw [hg] at HS HNx
  rw [← hN] at hb
  rw [← hN]
  have hlz : B - (a : Int) = (L : Int) := by omega
  have hB0 : 0 ≤ B ∧ B < 1000000 := by omega
  have hB1 := hB0.1
  have hB2 := hB0.2
  clear hR hN hnew h0 hB hB0 hg
  obtain ⟨q, hq⟩ : ∃ q, q = L / 4 := ⟨_, rfl⟩
  have hq1 : 4 * q ≤ L := by omega
  have hq2 : 2 ≤ q := by omega
  have hqz : (L : Int) / 4 = (q : Int) := by omega
  have hqt : (L : Int).tdiv 4 = (q : Int) := by rw [Int.tdiv_eq_ediv_of_nonneg (by omega)]; omega
  obtain ⟨K, hK⟩ : ∃ K, K = a + q * 2 := ⟨_, rfl⟩
  have hKz : (a : Int) + (q : Int) * 2 = (K : Int) := by omega
  obtain ⟨S, hS⟩ : ∃ S, S + 1 = K := ⟨K - 1, by omega⟩
  have hSz : (K : Int) - 1 = (S : Int) := by omega
  obtain ⟨E, hE⟩ : ∃ E, E = K + 1 := ⟨_, rfl⟩
  have hEz : (K : Int) + 1 = (E : Int) := by omega
  have hSa : a ≤ S := by omega
  have hEb : E < a + L := by omega
  have hSE : S ≤ E := by omega
  have hLz : IntKind.u64.wrap (L : Int) = (L : Int) := by rw [IntKind.wrap_u64]; omega
  clear hq hK hS hE
  go_enter Try.func92, Try.ntmps92
  go_wp2_with fail
  refine (HPw.out _).mono ?_
  rintro e w1 ⟨M, rfl, hM1, hM2, rfl⟩
  go_wp2_with fail
  obtain ⟨G0, hG0⟩ : ∃ G0, G0 = w.heap.size := ⟨_, rfl⟩
  rw [← hG0] at HS HNx
  have HG0 := Lib.hid hG0
  go_loopw [9] (fun vi wr => ∃ (i : Nat) (dk : Array Int), vi = .int .i64 i ∧ S ≤ i ∧ i ≤ E + 1 ∧ Xw w blk off G0 dk wr ∧ PermIn a (a + L) d dk) (fun vi _ => E + 1 - (intOf vi).toNat)
  case atStart => exact ⟨S, d, rfl, Nat.le_refl _, by omega, HS.out, Go.Sort.permIn_refl _ _ _⟩
  case round =>
    obtain ⟨i, dk, rfl, hSi, hiE, hxw, hp⟩ := hrel
    have HX := Lib.hid hxw
    have HP := Lib.hid hp
    clear hxw hp
    rw [← hG0]
    clear hG0
    by_cases hlt : i ≤ E
    · go_wp2_with fail
      refine (HNx.out _ _ HX.out).mono ?_
      rintro e w2 ⟨C, rfl, hC, hx2⟩
      obtain ⟨O, hO⟩ : ∃ O : Nat, O = C &&& (M - 1) := ⟨_, rfl⟩
      have hO1 : O ≤ M - 1 := by rw [hO]; exact Nat.and_le_right
      have eAnd : bits .and .u64 (C : Int) ((M : Int) - 1) = (O : Int) := by
        rw [show ((M : Int) - 1) = ((M - 1 : Nat) : Int) by omega, bits_and_u64_nat _ _ hC (by omega), hO]
      have hsz : dk.size = N := by rw [HP.out.1, HN.out]
      obtain ⟨G, hG⟩ : ∃ G : Nat → Int, ∀ t, G t = dk[t]! := ⟨fun t => dk[t]!, fun _ => rfl⟩
      have hrow := Rw.row HR.out hx2.1 (by rw [HP.out.1])
      have hcw : ∀ t, t < N → w2.cell? ⟨blk, off + t, none⟩ = some (.int .u8 (G t)) := fun t ht => by rw [hG]; exact hrow.cell (by omega)
      have hfw : ∀ t, t < N → w2.frozen? ⟨blk, off + t, none⟩ = false := fun t ht => hrow.frozen (by omega)
      have HX2 := Lib.hid hx2
      have HG := Lib.hid hG
      have HZ := Lib.hid hsz
      have hbg : blk < G0 := by rw [HG0.out]; exact HR.out.2.1
      clear hx2 hG hsz hrow hO hC
      have hON : O < 2 * L := by omega
      by_cases hLO : L ≤ O
      · obtain ⟨O2, hO2⟩ : ∃ O2, O2 = O - L := ⟨_, rfl⟩
        have hO2z : (O : Int) - (L : Int) = (O2 : Int) := by omega
        have hO2L : O2 < L := by omega
        clear hO2
        obtain ⟨P, hP⟩ : ∃ P, P = a + O2 := ⟨_, rfl⟩
        have hPz : (a : Int) + (O2 : Int) = (P : Int) := by omega
        have hPa : a ≤ P := by omega
        have hPb : P < a + L := by omega
        clear hP
        obtain ⟨v3, hy3⟩ := cell?_setCell_some (w := w2) (p := ⟨blk, off + i, none⟩) (x := .int .u8 (G P)) (q := ⟨blk, off + P, none⟩) (hcw P (by omega))
        go_wp2_with fail
        go_region
        all_goals go_wp2_with fail
        have h := (Rw.swap HR.out HX2.out.1 (i := i) (j := P) (by rw [HZ.out]; omega) (by rw [HZ.out]; omega)).drew
        rw [← HG.out, ← HG.out] at h
        obtain ⟨X, hX, hc, hf⟩ := HX2.out.2
        go_roundw
        case rel =>
          refine ⟨i + 1, swp dk i P, by go_num, by omega, by omega, ⟨h, X, hX, ?_, ?_⟩, perm_swp HP.out (by omega) (by omega) hPa hPb (by rw [← HN.out]; exact hb)⟩
          · exact (World.cell?_setCell_other _ _ _ _ (by intro e; injection e with e _; have := hbg; omega)).trans ((World.cell?_setCell_other _ _ _ _ (by intro e; injection e with e _; have := hbg; omega)).trans hc)
          · simpa using hf
        case measure => simp [intOf] <;> omega
      · obtain ⟨O2, hO2⟩ : ∃ O2, O2 = O := ⟨_, rfl⟩
        have hO2L : O2 < L := by omega
        have hLO2 : ¬ L ≤ O2 := by omega
        subst hO2
        obtain ⟨P, hP⟩ : ∃ P, P = a + O2 := ⟨_, rfl⟩
        have hPz : (a : Int) + (O2 : Int) = (P : Int) := by omega
        have hPa : a ≤ P := by omega
        have hPb : P < a + L := by omega
        clear hP
        obtain ⟨v3, hy3⟩ := cell?_setCell_some (w := w2) (p := ⟨blk, off + i, none⟩) (x := .int .u8 (G P)) (q := ⟨blk, off + P, none⟩) (hcw P (by omega))
        go_wp2_with fail
        go_region
        all_goals go_wp2_with fail
        have h := (Rw.swap HR.out HX2.out.1 (i := i) (j := P) (by rw [HZ.out]; omega) (by rw [HZ.out]; omega)).drew
        rw [← HG.out, ← HG.out] at h
        obtain ⟨X, hX, hc, hf⟩ := HX2.out.2
        go_roundw
        case rel =>
          refine ⟨i + 1, swp dk i P, by go_num, by omega, by omega, ⟨h, X, hX, ?_, ?_⟩, perm_swp HP.out (by omega) (by omega) hPa hPb (by rw [← HN.out]; exact hb)⟩
          · exact (World.cell?_setCell_other _ _ _ _ (by intro e; injection e with e _; have := hbg; omega)).trans ((World.cell?_setCell_other _ _ _ _ (by intro e; injection e with e _; have := hbg; omega)).trans hc)
          · simpa using hf
        case measure => simp [intOf] <;> omega
    · go_wp2_with fail
      go_end0
      exact ⟨rfl, dk, HX.out.1, HP.out, trivial⟩
#print axioms break_b
end Go.Proofs.Ytbnlkmblkokooaa
