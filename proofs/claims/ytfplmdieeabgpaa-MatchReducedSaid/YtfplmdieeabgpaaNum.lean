/- Contract of numberOf. -/
import Derived.Test.YtfplmdieeabgpaaQv
import Derived.Test.YtfplmdieeabgpaaMm
namespace Go.Proofs.Ytfplmdieeabgpaa
open Go.RowKit
/-- a match as an array of numbers -/
def vrow (v : List Int) : Array Value := (v.map (Value.int .i64)).toArray
theorem vrow_size (v : List Int) : (vrow v).size = v.length := by simp [vrow]
theorem vrow_at {v : List Int} {i : Nat} (h : i < v.length) : (vrow v)[i]? = some (.int .i64 (v.getD i 0)) := by
  simp [vrow, h]
set_option maxRecDepth 100000 in
set_option maxHeartbeats 4000000 in
theorem numberOf_any (v : List Int) (hv : v.length = 8) (t : Int) (ht : -9 ≤ t ∧ t ≤ 7) (w : World) :
    Calls Try.prog 143 #[.agg (vrow v), .int .i64 t] w fun e w' => e = .returned (.int .i64 (numOf v t)) ∧ Below w.heap.size w w' := by
  obtain ⟨A, hA⟩ : ∃ A, A = vrow v := ⟨_, rfl⟩
  rw [← hA]
  obtain ⟨w1, hw1⟩ : ∃ w1, w1 = w.alloc (.cells A 95) := ⟨_, rfl⟩
  have Hb1 := Lib.hid (show Below w.heap.size w w1 from by rw [hw1]; exact below_alloc _ _)
  have Hw1 := Lib.hid hw1
  by_cases h : isV t
  · have hV := Lib.hid (isVar_any t true (decide_eq_true h) w1)
    unfold isV at h
    have hc : w1.cell? ⟨w.heap.size, t.toNat, none⟩ = some (.int .i64 (numOf v t)) := by
      rw [hw1, cell_new, hA, vrow_at (by omega)]
      unfold numOf; rw [if_pos h.1]
    obtain ⟨N, hN⟩ : ∃ N, N = numOf v t := ⟨_, rfl⟩
    rw [← hN] at hc ⊢
    obtain ⟨n, rfl⟩ : ∃ n : Nat, t = n := ⟨t.toNat, by omega⟩
    rw [Int.toNat_natCast] at hc
    have h0 : (0 : Int) ≤ (n : Int) := by omega
    have h8 : (n : Int) < 8 := by omega
    clear hw1 hA hN hv ht h
    go_enter Try.func143, Try.ntmps143
    go_upto_region 1 with fail
    rw [← Hw1.out]
    go_wp2_with fail
    refine hV.out.mono ?_
    rintro e w2 ⟨rfl, rfl⟩
    go_wp2_with fail
    go_ret
    exact ⟨rfl, Hb1.out⟩
  · have hV := Lib.hid (isVar_any t false (decide_eq_false h) w1)
    have hN : numOf v t = -t := by unfold numOf; rw [if_neg (by unfold isV at h; omega)]
    have hwr : IntKind.i64.wrap (-t) = -t := IntWalk.i64_in _ ⟨by omega, by omega⟩
    rw [hN]
    clear hw1 hA hN hv ht h
    go_enter Try.func143, Try.ntmps143
    go_upto_region 1 with fail
    rw [← Hw1.out]
    go_wp2_with fail
    refine hV.out.mono ?_
    rintro e w2 ⟨rfl, rfl⟩
    go_wp2_with fail
    go_ret
    exact ⟨rfl, Hb1.out⟩
#print axioms numberOf_any
end Go.Proofs.Ytfplmdieeabgpaa
