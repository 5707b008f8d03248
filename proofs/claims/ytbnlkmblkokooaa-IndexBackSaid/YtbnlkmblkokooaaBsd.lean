/- The sort of bytes: the median, the pivot. -/
import Derived.Test.YtbnlkmblkokooaaBsc
namespace Go.Proofs.Ytbnlkmblkokooaa
open Go.RowKit
open Go.Sort (PermIn SortedIn swp)
/-- what median returns -/
def MedPost (w : World) (blk off g : Nat) (d : Array Int) (x y z : Nat) (e : Ending) (W' : World) : Prop :=
  ∃ p : Nat, e = .returned (.int .i64 p) ∧ (p = x ∨ p = y ∨ p = z) ∧ Sw w blk off g d W'
set_option maxHeartbeats 2000000 in
set_option maxRecDepth 100000 in
theorem median_b (w : World) (blk off g cap x y z : Nat) (d : Array Int) (hR : RowAt w blk off d) (hg : w.heap.size ≤ g) (hx : x < d.size) (hy : y < d.size) (hz : z < d.size) (W : World) (hW : Sw w blk off g d W) :
    Calls Try.prog 122 #[.slice (some ⟨blk, off, none⟩) d.size cap, .int .i64 x, .int .i64 y, .int .i64 z, .pointer (some ⟨g, 0, none⟩)] W (MedPost w blk off g d x y z) := by
  obtain ⟨N, hN⟩ : ∃ N, N = d.size := ⟨_, rfl⟩
  have HO := Lib.hid (fun x y hx hy W hW => order2_b w blk off g cap x y d hR hg hx hy W hW)
  rw [← hN] at HO
  rw [← hN] at hx hy hz
  rw [← hN]
  have HW := Lib.hid hW
  clear hR hN hW hg
  go_enter Try.func122, Try.ntmps122
  go_wp2_with fail
  refine (HO.out x y hx hy _ HW.out).mono ?_
  rintro e W1 ⟨x1, y1, rfl, h1, hW1⟩
  have hx1 : x1 < N := by omega
  have hy1 : y1 < N := by omega
  have HW1 := Lib.hid hW1
  have H1 := Lib.hid h1
  clear hW1 h1
  go_wp2_with fail
  refine (HO.out y1 z hy1 hz _ HW1.out).mono ?_
  rintro e W2 ⟨y2, z2, rfl, h2, hW2⟩
  have hy2 : y2 < N := by omega
  have hz2 : z2 < N := by omega
  have HW2 := Lib.hid hW2
  have H2 := Lib.hid h2
  clear hW2 h2
  go_wp2_with fail
  refine (HO.out x1 y2 hx1 hy2 _ HW2.out).mono ?_
  rintro e W3 ⟨x3, y3, rfl, h3, hW3⟩
  have HW3 := Lib.hid hW3
  have H3 := Lib.hid h3
  clear hW3 h3
  go_wp2_with fail
  go_ret
  have h1 := H1.out
  have h2 := H2.out
  have h3 := H3.out
  exact ⟨y3, rfl, by omega, HW3.out⟩
set_option maxHeartbeats 2000000 in
set_option maxRecDepth 100000 in
theorem medAdj_b (w : World) (blk off g cap y : Nat) (d : Array Int) (hR : RowAt w blk off d) (hg : w.heap.size ≤ g) (hy0 : 0 < y) (hy : y + 1 < d.size) (W : World) (hW : Sw w blk off g d W) :
    Calls Try.prog 121 #[.slice (some ⟨blk, off, none⟩) d.size cap, .int .i64 y, .pointer (some ⟨g, 0, none⟩)] W (MedPost w blk off g d (y - 1) y (y + 1)) := by
  have HO := Lib.hid (median_b w blk off g cap (y - 1) y (y + 1) d hR hg (by omega) (by omega) hy W hW)
  obtain ⟨N, hN⟩ : ∃ N, N = d.size := ⟨_, rfl⟩
  have hN1 : N < 1000000 := by rw [hN]; exact hR.2.2
  rw [← hN] at HO hy
  rw [← hN]
  clear hR hN hg hW
  have h1 : (y : Int) - 1 = ((y - 1 : Nat) : Int) := by omega
  have h2 : (y : Int) + 1 = ((y + 1 : Nat) : Int) := by omega
  rw [← h1, ← h2] at HO
  clear h1 h2
  go_enter Try.func121, Try.ntmps121
  go_wp2_with fail
  refine HO.out.mono ?_
  rintro e W1 ⟨p, rfl, h1, hW1⟩
  have HW1 := Lib.hid hW1
  have H1 := Lib.hid h1
  clear hW1 h1
  go_wp2_with fail
  go_ret
  exact ⟨p, rfl, H1.out, HW1.out⟩
/-- what choosePivot returns -/
def PivPost (w : World) (blk off a b : Nat) (d : Array Int) (e : Ending) (W' : World) : Prop :=
  ∃ p h : Nat, e = .returned (.tuple #[.int .i64 p, .int .i64 h]) ∧ a ≤ p ∧ p < b ∧ Rw w blk off d W'
set_option maxHeartbeats 4000000 in
set_option maxRecDepth 100000 in
theorem pivot_b (w : World) (blk off cap a L : Nat) (d : Array Int) (hR : RowAt w blk off d) (hL : 0 < L) (hb : a + L ≤ d.size) (W : World) (hW : Rw w blk off d W) :
    Calls Try.prog 93 #[.slice (some ⟨blk, off, none⟩) d.size cap, .int .i64 a, .int .i64 ((a + L : Nat) : Int)] W (PivPost w blk off a (a + L) d) := by
  obtain ⟨g, hg⟩ : ∃ g, g = W.heap.size := ⟨_, rfl⟩
  have hwg : w.heap.size ≤ g := by rw [hg]; exact hW.size
  have HM := Lib.hid (fun x y z hx hy hz W hW => median_b w blk off g cap x y z d hR hwg hx hy hz W hW)
  have HA := Lib.hid (fun y h0 hy W hW => medAdj_b w blk off g cap y d hR hwg h0 hy W hW)
  have HS := Lib.hid (show Sw w blk off g d (W.alloc (.cells #[.int .i64 0] 3)) from ⟨hW.alloc _, 0, by rw [hg]; exact cell_new _ _ _ 0, by rw [hg]; have h := heap_alloc_new W (.cells #[.int .i64 0] 3); simp only [World.frozen?, h]; rfl⟩)
  have HG := Lib.hid hg
  obtain ⟨N, hN⟩ : ∃ N, N = d.size := ⟨_, rfl⟩
  have hN1 : N < 1000000 := by rw [hN]; exact hR.2.2
  rw [← hN] at HM HA hb
  rw [← hN]
  clear hR hN hwg hW hg
  obtain ⟨q, hq⟩ : ∃ q, q = L / 4 := ⟨_, rfl⟩
  have hq1 : 4 * q ≤ L := by omega
  have hq2 : L < 4 * q + 4 := by omega
  have hlz : ((a + L : Nat) : Int) - (a : Int) = (L : Int) := by omega
  have hqz : (L : Int) / 4 = (q : Int) := by omega
  have hqt : (L : Int).tdiv 4 = (q : Int) := by rw [Int.tdiv_eq_ediv_of_nonneg (by omega)]; omega
  have hB : ((a + L : Nat) : Int) < 1000000 := by omega
  obtain ⟨B, hBz⟩ : ∃ B : Int, B = ((a + L : Nat) : Int) := ⟨_, rfl⟩
  rw [← hBz] at hlz hB ⊢
  have hB0 : 0 ≤ B := by omega
  have HB := Lib.hid hBz
  clear hq hBz
  have hg := HG.out
  subst hg
  clear HG
  obtain ⟨I, hI⟩ : ∃ I, I = a + q := ⟨_, rfl⟩
  obtain ⟨J, hJ⟩ : ∃ J, J = a + q * 2 := ⟨_, rfl⟩
  obtain ⟨K, hK⟩ : ∃ K, K = a + q * 3 := ⟨_, rfl⟩
  have hIz : (a : Int) + (q : Int) = (I : Int) := by omega
  have hJz : (a : Int) + (q : Int) * 2 = (J : Int) := by omega
  have hKz : (a : Int) + (q : Int) * 3 = (K : Int) := by omega
  by_cases h8 : 8 ≤ L
  · have h8z : (8 : Int) ≤ (L : Int) := by omega
    have rI : a ≤ I ∧ I < a + L := by omega
    have rJ : a ≤ J ∧ J < a + L := by omega
    have rK : a ≤ K ∧ K < a + L := by omega
    by_cases h50 : 50 ≤ L
    · have h50z : (50 : Int) ≤ (L : Int) := by omega
      have sI : a ≤ I - 1 ∧ 0 < I ∧ I + 1 < a + L := by omega
      have sJ : a ≤ J - 1 ∧ 0 < J ∧ J + 1 < a + L := by omega
      have sK : a ≤ K - 1 ∧ 0 < K ∧ K + 1 < a + L := by omega
      clear hI hJ hK
      go_enter Try.func93, Try.ntmps93
      go_wp2_with fail
      refine (HA.out I sI.2.1 (by omega) _ HS.out).mono ?_
      rintro e W1 ⟨p1, rfl, h1, hW1⟩
      have HW1 := Lib.hid hW1
      have R1 : a ≤ p1 ∧ p1 < a + L := by omega
      clear hW1 h1
      go_wp2_with fail
      refine (HA.out J sJ.2.1 (by omega) _ HW1.out).mono ?_
      rintro e W2 ⟨p2, rfl, h2, hW2⟩
      have HW2 := Lib.hid hW2
      have R2 : a ≤ p2 ∧ p2 < a + L := by omega
      clear hW2 h2
      go_wp2_with fail
      refine (HA.out K sK.2.1 (by omega) _ HW2.out).mono ?_
      rintro e W3 ⟨p3, rfl, h3, hW3⟩
      have HW3 := Lib.hid hW3
      have R3 : a ≤ p3 ∧ p3 < a + L := by omega
      clear hW3 h3
      go_wp2_with fail
      refine (HM.out p1 p2 p3 (by omega) (by omega) (by omega) _ HW3.out).mono ?_
      rintro e W4 ⟨p4, rfl, h4, hW4⟩
      have HW4 := Lib.hid hW4
      have R4 : a ≤ p4 ∧ p4 < a + L := by omega
      clear hW4 h4
      obtain ⟨s, hs, hf⟩ := HW4.out.2
      go_wp2_with fail
      all_goals
        go_ret2
        exact ⟨p4, _, rfl, R4.1, R4.2, HW4.out.1⟩
    · have h50z : ¬ (50 : Int) ≤ (L : Int) := by omega
      clear hI hJ hK
      go_enter Try.func93, Try.ntmps93
      go_wp2_with fail
      refine (HM.out I J K (by omega) (by omega) (by omega) _ HS.out).mono ?_
      rintro e W4 ⟨p4, rfl, h4, hW4⟩
      have HW4 := Lib.hid hW4
      have R4 : a ≤ p4 ∧ p4 < a + L := by omega
      clear hW4 h4
      obtain ⟨s, hs, hf⟩ := HW4.out.2
      go_wp2_with fail
      all_goals
        go_ret2
        exact ⟨p4, _, rfl, R4.1, R4.2, HW4.out.1⟩
  · have h8z : ¬ (8 : Int) ≤ (L : Int) := by omega
    have R4 : a ≤ J ∧ J < a + L := by omega
    have HW4 := HS
    obtain ⟨s, hs, hf⟩ := HW4.out.2
    clear hI hJ hK
    go_enter Try.func93, Try.ntmps93
    go_wp2_with fail
    all_goals
      go_ret2
      exact ⟨J, _, rfl, R4.1, R4.2, HW4.out.1⟩
#print axioms pivot_b
end Go.Proofs.Ytbnlkmblkokooaa
