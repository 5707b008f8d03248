/- slices.Sort of bytes. -/
import Derived.Test.YtbnlkmblkokooaaBsj
namespace Go.Proofs.Ytbnlkmblkokooaa
open Go.RowKit
open Go.Sort (PermIn SortedIn swp permIn_trans permIn_mono permIn_all)
theorem insertion_0 (A : Option Addr) (cap : Nat) (w : World) :
    Calls Try.prog 90 #[.slice A 0 cap, .int .i64 0, .int .i64 0] w fun e w' => e = .returned (.tuple #[]) ∧ w = w' := by
  go_enter Try.func90, Try.ntmps90
  go_wp2
  go_loopw [6] (fun vi wr => vi = .int .i64 1 ∧ wr = w) (fun _ _ => 0)
  case atStart => exact ⟨rfl, rfl⟩
  case round =>
    obtain ⟨rfl, hw⟩ := hrel
    subst hw
    go_wp2
    go_end0
    exact ⟨rfl, rfl⟩
theorem pdq_0 (A : Option Addr) (cap limit : Nat) (w : World) :
    Calls Try.prog 71 #[.slice A 0 cap, .int .i64 0, .int .i64 0, .int .i64 limit] w fun e w' => e = .returned (.tuple #[]) ∧ w = w' := by
  go_enter Try.func71, Try.ntmps71
  go_wp2
  go_loopw [1, 2, 3, 8, 9] (fun v1 v2 v3 v8 v9 wr => v1 = .int .i64 0 ∧ v2 = .int .i64 0 ∧ v3 = .int .i64 limit ∧ v8 = .bool true ∧ v9 = .bool true ∧ wr = w) (fun _ _ _ _ _ _ => 0)
  case atStart => exact ⟨rfl, rfl, rfl, rfl, rfl, rfl⟩
  case round =>
    obtain ⟨rfl, rfl, rfl, rfl, rfl, hw⟩ := hrel
    subst hw
    go_wp2_with fail
    refine (insertion_0 A cap _).mono ?_
    rintro e w1 ⟨rfl, rfl⟩
    go_wp2_with fail
    (try simp only [Exit.inBlock, Exit.then]); refine bodyPost_ret (results_none rfl _ _ _) rfl ?_
    exact ⟨rfl, rfl⟩
theorem sort_0 (A : Option Addr) (cap : Nat) (w : World) :
    Calls Try.prog 49 #[.slice A 0 cap] w fun e w' => e = .returned (.tuple #[]) ∧ w = w' := by
  have hL : ∀ w, Calls Try.prog 72 #[.int .u64 0] w fun e w' => e = .returned (.int .i64 (0 : Nat)) ∧ w' = w := fun w => Try.bits_Len 0 w (by omega) (by omega)
  have HL := Lib.hid hL
  clear hL
  go_enter Try.func49, Try.ntmps49
  go_wp2_with fail
  refine (HL.out _).mono ?_
  rintro e w1 ⟨rfl, rfl⟩
  go_wp2_with fail
  refine (pdq_0 A cap 0 _).mono ?_
  rintro e w1 ⟨rfl, rfl⟩
  go_wp2_with fail
  go_end0
  exact ⟨rfl, rfl⟩
theorem sort_row (blk off cap : Nat) (d : Array Int) (w : World) (hR : RowAt w blk off d) :
    Calls Try.prog 49 #[.slice (some ⟨blk, off, none⟩) d.size cap] w (SPost w blk off 0 d.size d (.tuple #[]) (SortedIn ltI 0 d.size)) := by
  obtain ⟨N, hN⟩ : ∃ N, N = d.size := ⟨_, rfl⟩
  have hN1 : N < 1000000 := by rw [hN]; exact hR.2.2
  obtain ⟨k, hk⟩ : ∃ k, k = Go.Sort.bitsLen N := ⟨_, rfl⟩
  have hk1 : k ≤ 62 := by rw [hk]; exact (Go.Sort.bitsLen_le_iff N 62).2 (by omega)
  have HL := Lib.hid (show ∀ w, Calls Try.prog 72 #[.int .u64 (N : Int)] w fun e w' => e = .returned (.int .i64 (k : Nat)) ∧ w' = w from fun w => by
    have h := Try.bits_Len (N : Int) w (by omega) (by omega)
    rwa [Int.toNat_natCast, bitLen_eq _ (by omega), ← hk] at h)
  have HP := Lib.hid (pdq_b (d.size + 1) blk off cap 0 d.size k d w (by omega) hR (Nat.zero_le _) (Nat.le_refl _) (by omega) (Or.inl rfl))
  rw [← hN] at HP
  rw [← hN]
  clear hR hN hk
  go_enter Try.func49, Try.ntmps49
  go_wp2_with fail
  refine (HL.out _).mono ?_
  rintro e w1 ⟨rfl, rfl⟩
  go_wp2_with fail
  refine HP.out.mono ?_
  rintro e w1 ⟨rfl, d1, h1, h2, h3⟩
  have H1 := Lib.hid h1
  have H2 := Lib.hid h2
  have H3 := Lib.hid h3
  clear h1 h2 h3
  go_wp2_with fail
  go_end0
  exact ⟨rfl, d1, H1.out, H2.out, H3.out⟩
#print axioms sort_row
#print axioms sort_0
end Go.Proofs.Ytbnlkmblkokooaa
