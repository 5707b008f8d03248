/- The sort of bytes: the patterns that are broken. -/
import Derived.Test.YtbnlkmblkokooaaBsg
import Derived.Test.YtbnlkmblkokooaaShelfB
import Derived.Sort.WalkA14
import Derived.Sort.LotD1
import Derived.Laws.Bits64
import Derived.Laws.Bits64b
namespace Go.Proofs.Ytbnlkmblkokooaa
open Go.RowKit
open Go.Sort (PermIn SortedIn swp)
/-- the world of a sort with a box of 64 bits -/
def Xw (w : World) (blk off g : Nat) (d : Array Int) (W : World) : Prop := Rw w blk off d W ∧ ∃ X : Nat, X < 18446744073709551616 ∧ W.cell? ⟨g, 0, none⟩ = some (.int .u64 X) ∧ W.frozen? ⟨g, 0, none⟩ = false
theorem Xw.drewN {w W : World} {blk off g : Nat} {d : Array Int} (h : Xw w blk off g d W) (q : Nat) : Xw w blk off g d (W.drewN q) := ⟨h.1.drewN q, h.2⟩
theorem Xw.set {w W : World} {blk off g X : Nat} {d : Array Int} (h : Xw w blk off g d W) (hg : w.heap.size ≤ g) (hX : X < 18446744073709551616) : Xw w blk off g d (W.setCell ⟨g, 0, none⟩ (.int .u64 X)) := by
  obtain ⟨h1, s0, _, h2, h3⟩ := h
  exact ⟨h1.setNew hg rfl _, X, hX, World.cell?_setCell_same _ _ _ h2, by simpa using h3⟩
theorem set_set (w : World) (b o : Nat) (v v' : Value) : (w.setCell ⟨b, o, none⟩ v).setCell ⟨b, o, none⟩ v' = w.setCell ⟨b, o, none⟩ v' := by
  rw [Go.Sort.setCell_eq, Go.Sort.setCell_eq, Go.Sort.mapBlock_mapBlock, Go.Sort.setCell_eq]
  congr 1
  funext c
  simp
def NextPost (w : World) (blk off g : Nat) (d : Array Int) (e : Ending) (W' : World) : Prop :=
  ∃ C : Nat, e = .returned (.int .u64 C) ∧ C < 18446744073709551616 ∧ Xw w blk off g d W'
set_option maxHeartbeats 2000000 in
set_option maxRecDepth 100000 in
theorem next_b (w : World) (blk off g : Nat) (d : Array Int) (hg : w.heap.size ≤ g) (W : World) (hW : Xw w blk off g d W) :
    Calls Try.prog 120 #[.pointer (some ⟨g, 0, none⟩)] W (NextPost w blk off g d) := by
  obtain ⟨h1, X, hX, hc, hf⟩ := hW
  obtain ⟨A, hA⟩ : ∃ A : Nat, A = X ^^^ (X * 8192 % 18446744073709551616) := ⟨_, rfl⟩
  obtain ⟨B, hB⟩ : ∃ B : Nat, B = A ^^^ (A / 128) := ⟨_, rfl⟩
  obtain ⟨C, hC⟩ : ∃ C : Nat, C = B ^^^ (B * 131072 % 18446744073709551616) := ⟨_, rfl⟩
  have lA : A < 18446744073709551616 := by rw [hA]; exact Nat.xor_lt_two_pow (n := 64) (by omega) (by omega)
  have lB : B < 18446744073709551616 := by rw [hB]; exact Nat.xor_lt_two_pow (n := 64) (by omega) (by omega)
  have lC : C < 18446744073709551616 := by rw [hC]; exact Nat.xor_lt_two_pow (n := 64) (by omega) (by omega)
  have e1 : bits .xor .u64 (X : Int) (IntKind.u64.wrap ((X : Int) * 8192)) = (A : Int) := by
    rw [IntKind.wrap_u64, show ((X : Int) * 8192 % 18446744073709551616) = ((X * 8192 % 18446744073709551616 : Nat) : Int) by omega, bits_xor_u64_nat _ _ hX (by omega), hA]
  have e2 : bits .xor .u64 (A : Int) ((A : Int) / 128) = (B : Int) := by
    rw [show ((A : Int) / 128) = ((A / 128 : Nat) : Int) by omega, bits_xor_u64_nat _ _ lA (by omega), hB]
  have e3 : bits .xor .u64 (B : Int) (IntKind.u64.wrap ((B : Int) * 131072)) = (C : Int) := by
    rw [IntKind.wrap_u64, show ((B : Int) * 131072 % 18446744073709551616) = ((B * 131072 % 18446744073709551616 : Nat) : Int) by omega, bits_xor_u64_nat _ _ lB (by omega), hC]
  clear hA hB hC
  have HX := Lib.hid (show Xw w blk off g d W from ⟨h1, X, hX, hc, hf⟩)
  have Hg := Lib.hid hg
  clear h1 hg
  have hss : ∀ v v', (W.setCell ⟨g, 0, none⟩ v).setCell ⟨g, 0, none⟩ v' = W.setCell ⟨g, 0, none⟩ v' := set_set W g 0
  go_enter Try.func120, Try.ntmps120
  go_wp2
  go_region
  all_goals go_wp2
  all_goals go_region
  all_goals go_wp2
  all_goals go_region
  all_goals go_wp2
  go_ret
  exact ⟨C, rfl, lC, (HX.out.set Hg.out lC).drewN 3⟩
theorem wrap_pow (k : Nat) (hk : k ≤ 62) : IntKind.u64.wrap ((2 : Int) ^ k) = ((1 <<< k : Nat) : Int) := by
  have h : (2 : Nat) ^ k ≤ 2 ^ 62 := Nat.pow_le_pow_right (by decide) hk
  rw [IntKind.wrap_u64, Nat.one_shiftLeft, show ((2 : Int) ^ k) = ((2 ^ k : Nat) : Int) by push_cast; rfl]
  generalize (2 : Nat) ^ k = p at h
  omega
def PowPost (n : Nat) (w : World) (e : Ending) (w' : World) : Prop := ∃ M : Nat, e = .returned (.int .u64 M) ∧ 1 ≤ M ∧ M ≤ 2 * n ∧ w = w'
theorem npow_b (n : Nat) (h0 : 0 < n) (hn : n < 1000000) (w : World) :
    Calls Try.prog 119 #[.int .i64 n] w (PowPost n w) := by
  have hL : ∀ w, Calls Try.prog 72 #[.int .u64 (n : Int)] w fun e w' => e = .returned (.int .i64 (Go.Sort.bitsLen n : Nat)) ∧ w' = w := fun w => by
    have h := Try.bits_Len (n : Int) w (by omega) (by omega)
    rwa [Int.toNat_natCast, bitLen_eq _ (by omega)] at h
  have hk : Go.Sort.bitsLen n ≤ 62 := (Go.Sort.bitsLen_le_iff n 62).2 (by omega)
  have hp := wrap_pow (Go.Sort.bitsLen n) hk
  have h2 := Go.Sort.two_pow_bitsLen_le h0
  have h1 : 1 ≤ 1 <<< Go.Sort.bitsLen n := by rw [Nat.one_shiftLeft]; exact Nat.two_pow_pos _
  rw [← Nat.one_shiftLeft] at h2
  generalize (1 <<< Go.Sort.bitsLen n : Nat) = M at hp h1 h2
  generalize Go.Sort.bitsLen n = k at hL hk hp
  go_enter Try.func119, Try.ntmps119
  go_wp2_with (first | (go_at_call 72; refine (hL _).mono ?_; rintro e w' ⟨rfl, rfl⟩))
  go_ret
  exact ⟨M, rfl, h1, h2, rfl⟩
#print axioms next_b
#print axioms npow_b
end Go.Proofs.Ytbnlkmblkokooaa
