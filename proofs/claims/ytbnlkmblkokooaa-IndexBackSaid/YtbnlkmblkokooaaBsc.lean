/- The sort of bytes: reversal, the pivot. -/
import Derived.Test.YtbnlkmblkokooaaBsa
namespace Go.Proofs.Ytbnlkmblkokooaa
open Go.RowKit
open Go.Sort (PermIn SortedIn swp)
set_option maxHeartbeats 2000000 in
set_option maxRecDepth 100000 in
theorem reverse_b (blk off cap a b : Nat) (d : Array Int) (w : World) (hR : RowAt w blk off d) (hab : a ≤ b) (hb : b ≤ d.size) :
    Calls Try.prog 94 #[.slice (some ⟨blk, off, none⟩) d.size cap, .int .i64 a, .int .i64 b] w (SPost w blk off a b d (.tuple #[]) (fun _ => True)) := by
  obtain ⟨N, hN⟩ : ∃ N, N = d.size := ⟨_, rfl⟩
  have HR := Lib.hid hR
  have HN := Lib.hid hN
  have hN1 : N < 1000000 := by rw [hN]; exact hR.2.2
  rw [← hN] at hb
  rw [← hN]
  clear hR hN
  go_enter Try.func94, Try.ntmps94
  go_wp2
  go_loopw [6, 7] (fun vi vj wr => ∃ (i j : Nat) (dk : Array Int), vi = .int .i64 i ∧ vj = .int .i64 ((j : Int) - 1) ∧ a ≤ i ∧ i ≤ j ∧ j ≤ b ∧ Rw w blk off dk wr ∧ PermIn a b d dk) (fun _ vj _ => (intOf vj + 1).toNat)
  case atStart => exact ⟨a, b, d, rfl, rfl, Nat.le_refl _, hab, Nat.le_refl _, Rw.start HR.out, Go.Sort.permIn_refl _ _ _⟩
  case round =>
    obtain ⟨i, j, dk, rfl, rfl, hai, hij, hjb, hrw, hp⟩ := hrel
    obtain ⟨G, hG⟩ : ∃ G : Nat → Int, ∀ t, G t = dk[t]! := ⟨fun t => dk[t]!, fun _ => rfl⟩
    have hsz : dk.size = N := by rw [hp.1, HN.out]
    have hrow := Rw.row HR.out hrw (by rw [hp.1])
    have hcw : ∀ t, t < N → wr.cell? ⟨blk, off + t, none⟩ = some (.int .u8 (G t)) := fun t ht => by rw [hG]; exact hrow.cell (by omega)
    have hfw : ∀ t, t < N → wr.frozen? ⟨blk, off + t, none⟩ = false := fun t ht => hrow.frozen (by omega)
    have HW := Lib.hid hrw
    have HP := Lib.hid hp
    have HG := Lib.hid hG
    have HZ := Lib.hid hsz
    clear hrw hp hG hrow hsz
    by_cases hlt : i + 1 < j
    · obtain ⟨m, rfl⟩ : ∃ m, j = m + 1 := ⟨j - 1, by omega⟩
      have hjz : ((m + 1 : Nat) : Int) - 1 = (m : Int) := by omega
      rw [hjz]
      go_wp2_with fail
      go_region
      all_goals go_wp2
      go_roundw
      case rel =>
        refine ⟨i + 1, m, swp dk i m, by go_num, rfl, by omega, by omega, by omega, ?_, perm_swp HP.out (by omega) (by omega) (by omega) (by omega) (by rw [← HN.out]; exact hb)⟩
        have h := (Rw.swap HR.out HW.out (i := i) (j := m) (by rw [HZ.out]; omega) (by rw [HZ.out]; omega)).drew
        rw [← HG.out, ← HG.out] at h
        exact h
      case measure => simp [intOf] <;> omega
    · have hlz : ¬ ((i : Int) < (j : Int) - 1) := by omega
      go_wp2_with fail
      go_end0
      exact ⟨rfl, dk, HW.out, HP.out, trivial⟩

/-- the world of a sort with a box that counts -/
def Sw (w : World) (blk off g : Nat) (d : Array Int) (W : World) : Prop := Rw w blk off d W ∧ ∃ s : Int, W.cell? ⟨g, 0, none⟩ = some (.int .i64 s) ∧ W.frozen? ⟨g, 0, none⟩ = false
theorem Sw.drewN {w W : World} {blk off g : Nat} {d : Array Int} (h : Sw w blk off g d W) (q : Nat) : Sw w blk off g d (W.drewN q) := ⟨h.1.drewN q, h.2⟩
theorem Sw.set {w W : World} {blk off g : Nat} {d : Array Int} (h : Sw w blk off g d W) (hg : w.heap.size ≤ g) (s : Int) : Sw w blk off g d (W.setCell ⟨g, 0, none⟩ (.int .i64 s)) := by
  obtain ⟨h1, s0, h2, h3⟩ := h
  refine ⟨h1.setNew hg rfl _, s, ?_, by simpa using h3⟩
  exact World.cell?_setCell_same _ _ _ h2
/-- what order2 returns -/
def OrdPost (w : World) (blk off g : Nat) (d : Array Int) (x y : Nat) (e : Ending) (W' : World) : Prop :=
  ∃ x' y' : Nat, e = .returned (.tuple #[.int .i64 x', .int .i64 y']) ∧ (x' = x ∧ y' = y ∨ x' = y ∧ y' = x) ∧ Sw w blk off g d W'
set_option maxHeartbeats 2000000 in
set_option maxRecDepth 100000 in
theorem order2_b (w : World) (blk off g cap x y : Nat) (d : Array Int) (hR : RowAt w blk off d) (hg : w.heap.size ≤ g) (hx : x < d.size) (hy : y < d.size) (W : World) (hW : Sw w blk off g d W) :
    Calls Try.prog 144 #[.slice (some ⟨blk, off, none⟩) d.size cap, .int .i64 x, .int .i64 y, .pointer (some ⟨g, 0, none⟩)] W (OrdPost w blk off g d x y) := by
  obtain ⟨N, hN⟩ : ∃ N, N = d.size := ⟨_, rfl⟩
  have HN := Lib.hid hN
  have hN1 : N < 1000000 := by rw [hN]; exact hR.2.2
  have hrow := Rw.row hR hW.1 rfl
  rw [← hN] at hx hy
  rw [← hN]
  obtain ⟨G, hG⟩ : ∃ G : Nat → Int, ∀ t, G t = d[t]! := ⟨fun t => d[t]!, fun _ => rfl⟩
  have hcw : ∀ t, t < N → W.cell? ⟨blk, off + t, none⟩ = some (.int .u8 (G t)) := fun t ht => by rw [hG]; exact hrow.cell (by omega)
  obtain ⟨s, hs, hf⟩ := hW.2
  have HW := Lib.hid hW
  have HR := Lib.hid hR
  have HG := Lib.hid hG
  have Hg := Lib.hid hg
  clear hR hN hW hrow hG hg
  go_enter Try.func144, Try.ntmps144
  go_wp2_with fail
  go_quiet (first | (go_at_call 96; refine Calls.quiet_of_same (less_b _ _ _)))
  go_wp2_with fail
  · go_ret2
    exact ⟨y, x, rfl, Or.inr ⟨rfl, rfl⟩, (HW.out.drewN _).set Hg.out _⟩
  · go_ret2
    exact ⟨x, y, rfl, Or.inl ⟨rfl, rfl⟩, HW.out.drewN _⟩
#print axioms order2_b
#print axioms reverse_b
end Go.Proofs.Ytbnlkmblkokooaa
