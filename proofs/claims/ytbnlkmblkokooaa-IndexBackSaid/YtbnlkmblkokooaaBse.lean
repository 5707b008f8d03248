/- The sort of bytes: the partial insertion sort. -/
import Derived.Test.YtbnlkmblkokooaaBsd
import Derived.Deep.DeepCutAuto
namespace Go.Proofs.Ytbnlkmblkokooaa
open Go.RowKit
open Go.Sort (PermIn SortedIn swp Ins)
/-- the row under a sort whose first places are sorted -/
def PiW (w : World) (blk off a b i : Nat) (d : Array Int) (W : World) : Prop := ∃ dk, Rw w blk off dk W ∧ PermIn a b d dk ∧ SortedIn ltI a i dk
theorem PiW.drewN {w W : World} {blk off a b i : Nat} {d : Array Int} (h : PiW w blk off a b i d W) (q : Nat) : PiW w blk off a b i d (W.drewN q) := by
  obtain ⟨dk, h1, h2, h3⟩ := h
  exact ⟨dk, h1.drewN q, h2, h3⟩
/-- what the partial sort returns -/
def ParPost (w : World) (blk off a b : Nat) (d : Array Int) (e : Ending) (w' : World) : Prop :=
  ∃ r, e = .returned (.bool r) ∧ ∃ d', Rw w blk off d' w' ∧ PermIn a b d d' ∧ (r = true → SortedIn ltI a b d')
set_option maxHeartbeats 8000000 in
set_option maxRecDepth 100000 in
theorem partial_b (blk off cap a b : Nat) (d : Array Int) (w : World) (hR : RowAt w blk off d) (hab : a < b) (hb : b ≤ d.size) (hB : Go.Sort.Below ltI a b d) :
    Calls Try.prog 95 #[.slice (some ⟨blk, off, none⟩) d.size cap, .int .i64 a, .int .i64 b] w (ParPost w blk off a b d) := by
  obtain ⟨N, hN⟩ : ∃ N, N = d.size := ⟨_, rfl⟩
  have HR := Lib.hid hR
  have HN := Lib.hid hN
  have HB := Lib.hid hB
  have hN1 : N < 1000000 := by rw [hN]; exact hR.2.2
  rw [← hN] at hb
  rw [← hN]
  clear hR hN hB
  go_enter Try.func95, Try.ntmps95
  go_wp2
  go_loopw [7, 8] (fun vi vk wr => ∃ i k : Nat, vi = .int .i64 i ∧ vk = .int .i64 k ∧ k ≤ 5 ∧ a < i ∧ i ≤ b ∧ PiW w blk off a b i d wr) (fun _ vk _ => 5 - (intOf vk).toNat)
  case atStart => exact ⟨a + 1, 0, by go_num, rfl, by omega, by omega, by omega, d, Rw.start HR.out, Go.Sort.permIn_refl _ _ _, fun i j h1 h2 h3 => by omega⟩
  case round =>
    obtain ⟨i, k, rfl, rfl, hk, hai, hib, hpi⟩ := hrel
    have HP := Lib.hid hpi
    clear hpi
    by_cases hk5 : k < 5
    · have hk5z : (k : Int) < 5 := by omega
      go_wp2_with fail
      go_loopw [7] (fun vi wr => ∃ i : Nat, vi = .int .i64 i ∧ a < i ∧ i ≤ b ∧ PiW w blk off a b i d wr) (fun vi _ => b - (intOf vi).toNat)
      case atStart => exact ⟨i, rfl, hai, hib, HP.out⟩
      case round =>
        clear HP hai hib
        obtain ⟨i, rfl, hai, hib, dk, hrw, hp, hs⟩ := hrel
        obtain ⟨G, hG⟩ : ∃ G : Nat → Int, ∀ t, G t = dk[t]! := ⟨fun t => dk[t]!, fun _ => rfl⟩
        have hsz : dk.size = N := by rw [hp.1, HN.out]
        have hrow := Rw.row HR.out hrw (by rw [hp.1])
        have hcw : ∀ t, t < N → wr.cell? ⟨blk, off + t, none⟩ = some (.int .u8 (G t)) := fun t ht => by rw [hG]; exact hrow.cell (by omega)
        have hfw : ∀ t, t < N → wr.frozen? ⟨blk, off + t, none⟩ = false := fun t ht => hrow.frozen (by omega)
        have HW := Lib.hid hrw
        have HP := Lib.hid hp
        have HS := Lib.hid hs
        have HG := Lib.hid hG
        have HZ := Lib.hid hsz
        clear hrw hp hs hG hrow hsz
        by_cases hlt : i < b
        · go_wp2_with fail
          go_quiet (first | (go_at_call 96; refine Calls.quiet_of_same (less_b _ _ _)))
          go_wp2_with fail
          · have hl : ltI (G i) (G (i - 1)) = false := by
              have h : (!ltI (G i) (G (i - 1))) = true := by assumption
              simpa using h
            go_roundw
            case rel => exact ⟨i + 1, by go_num, by omega, by omega, dk, HW.out.drewN nq, HP.out, HS.out.snoc swoI (by rw [← HG.out, ← HG.out]; exact hl)⟩
            case measure => simp [intOf] <;> omega
          · go_ret
            exact ⟨false, rfl, dk, HW.out.drewN nq, HP.out, fun h => Bool.noConfusion h⟩
          · go_region
            go_upto_if 61 with fail
            have HW1 := Lib.hid (Rw.swap HR.out (HW.out.drewN nq) (i := i) (j := i - 1) (by rw [HZ.out]; omega) (by rw [HZ.out]; omega)).drew
            rw [← HG.out, ← HG.out] at HW1
            have HP1 := Lib.hid (perm_swp HP.out (i := i) (j := i - 1) (by omega) hlt (by omega) (by omega) (by rw [← HN.out]; exact hb))
            have HS1 := Lib.hid (show SortedIn ltI a (i - 1) (swp dk i (i - 1)) from fun p q h1 h2 h3 => by
              rw [Go.Sort.swp_other _ _ _ _ (by omega) (by omega), Go.Sort.swp_other _ _ _ _ (by omega) (by omega)]
              exact HS.out p q h1 h2 (by omega))
            have HW1 := Lib.hid (show Rw w blk off (swp dk i (i - 1)) (((wr.drewN (nq + 1)).setCell ⟨blk, off + i, none⟩ (.int .u8 (G (i - 1)))).setCell ⟨blk, off + (i - 1), none⟩ (.int .u8 (G i))) from HW1.out)
            generalize (((wr.drewN (nq + 1)).setCell ⟨blk, off + i, none⟩ (.int .u8 (G (i - 1)))).setCell ⟨blk, off + (i - 1), none⟩ (.int .u8 (G i))) = w2 at *
            generalize swp dk i (i - 1) = d1 at *
            clear hcw hfw HW HP HS HG HZ
            go_cut [] (fun wc => PiW w blk off a b i d wc)
            case first =>
              by_cases h2 : 2 ≤ i - a
              · have h2z : 2 ≤ (i : Int) - (a : Int) := by omega
                go_wp2_with fail
                go_loopw [9] (fun vj wr => ∃ (j : Nat) (dj : Array Int), vj = .int .i64 j ∧ a ≤ j ∧ j + 1 ≤ i ∧ Rw w blk off dj wr ∧ PermIn a b d dj ∧ Ins ltI a j (i - 1) dj) (fun vj _ => (intOf vj).toNat)
                case atStart => exact ⟨i - 1, d1, by congr 1; omega, by omega, by omega, HW1.out, HP1.out, ins_start HS1.out⟩
                case round =>
                  clear HW1 HP1 HS1
                  obtain ⟨j, dk, rfl, haj, hji, hrw, hp, hs⟩ := hrel
                  obtain ⟨G, hG⟩ : ∃ G : Nat → Int, ∀ t, G t = dk[t]! := ⟨fun t => dk[t]!, fun _ => rfl⟩
                  have hsz : dk.size = N := by rw [hp.1, HN.out]
                  have hrow := Rw.row HR.out hrw (by rw [hp.1])
                  have hcw : ∀ t, t < N → wr.cell? ⟨blk, off + t, none⟩ = some (.int .u8 (G t)) := fun t ht => by rw [hG]; exact hrow.cell (by omega)
                  have hfw : ∀ t, t < N → wr.frozen? ⟨blk, off + t, none⟩ = false := fun t ht => hrow.frozen (by omega)
                  have HW := Lib.hid hrw
                  have HP := Lib.hid hp
                  have HS := Lib.hid hs
                  have HG := Lib.hid hG
                  have HZ := Lib.hid hsz
                  clear hrw hp hs hG hrow hsz
                  by_cases hj1 : 1 ≤ j
                  · have hj1z : 1 ≤ (j : Int) := by omega
                    go_wp2_with fail
                    go_quiet (first | (go_at_call 96; refine Calls.quiet_of_same (less_b _ _ _)))
                    go_wp2_with fail
                    · have hl : ltI (G j) (G (j - 1)) = false := by
                        have h : (!ltI (G j) (G (j - 1))) = true := by assumption
                        simpa using h
                      go_meet
                      case rel => exact ⟨dk, HW.out.drewN nq, HP.out, by have := Ins.stop swoI HS.out (Or.inr (by rw [← HG.out, ← HG.out]; exact hl)); rwa [show i - 1 + 1 = i by omega] at this⟩
                    · have hl : ltI (G j) (G (j - 1)) = true := by
                        have h : (!ltI (G j) (G (j - 1))) = false := by assumption
                        simpa using h
                      have hja : a < j := by
                        rcases Nat.lt_or_ge a j with h | h
                        · exact h
                        · obtain rfl : j = a := by omega
                          rcases Go.Sort.Below.perm HB.out (by rw [← HN.out]; exact hb) HP.out with h0 | h0
                          · omega
                          · have := h0 j (Nat.le_refl _) (by omega)
                            rw [← HG.out, ← HG.out, hl] at this
                            cases this
                      go_region
                      all_goals go_wp2_with fail
                      go_roundw
                      case rel =>
                        refine ⟨j - 1, swp dk j (j - 1), by congr 1; omega, by omega, by omega, ?_, perm_swp HP.out (by omega) (by omega) (by omega) (by omega) (by rw [← HN.out]; exact hb), ?_⟩
                        · have h := (Rw.swap HR.out (HW.out.drewN nq) (i := j) (j := j - 1) (by rw [HZ.out]; omega) (by rw [HZ.out]; omega)).drew
                          rw [← HG.out, ← HG.out] at h
                          exact h
                        · obtain ⟨j', rfl⟩ : ∃ j', j = j' + 1 := ⟨j - 1, by omega⟩
                          exact Ins.step HS.out (by rw [← HG.out, ← HG.out]; exact hl) (by omega) (by rw [HZ.out]; omega)
                      case measure => simp [intOf] <;> omega
                  · have hj1z : ¬ (1 ≤ (j : Int)) := by omega
                    go_wp2_with fail
                    go_meet
                    case rel => exact ⟨dk, HW.out, HP.out, by have := Ins.stop swoI HS.out (Or.inl (by omega)); rwa [show i - 1 + 1 = i by omega] at this⟩
              · have h2z : ¬ (2 ≤ (i : Int) - (a : Int)) := by omega
                go_wp2_with fail
                go_meet
                case rel => exact ⟨d1, HW1.out, HP1.out, fun p q h1 h2 h3 => by omega⟩
            case rest =>
              have HC := Lib.hid hcut
              clear hcut HW1 HP1 HS1
              by_cases h2 : 2 ≤ b - i
              · have h2z : 2 ≤ (b : Int) - (i : Int) := by omega
                go_wp2_with fail
                go_loopw [10] (fun vj wr => ∃ j : Nat, vj = .int .i64 j ∧ i + 1 ≤ j ∧ j ≤ b ∧ PiW w blk off a b i d wr) (fun vj _ => b - (intOf vj).toNat)
                case atStart => exact ⟨i + 1, by go_num, by omega, by omega, HC.out⟩
                case round =>
                  clear HC
                  obtain ⟨j, rfl, hij, hjb, dk, hrw, hp, hs⟩ := hrel
                  obtain ⟨G, hG⟩ : ∃ G : Nat → Int, ∀ t, G t = dk[t]! := ⟨fun t => dk[t]!, fun _ => rfl⟩
                  have hsz : dk.size = N := by rw [hp.1, HN.out]
                  have hrow := Rw.row HR.out hrw (by rw [hp.1])
                  have hcw : ∀ t, t < N → wr.cell? ⟨blk, off + t, none⟩ = some (.int .u8 (G t)) := fun t ht => by rw [hG]; exact hrow.cell (by omega)
                  have hfw : ∀ t, t < N → wr.frozen? ⟨blk, off + t, none⟩ = false := fun t ht => hrow.frozen (by omega)
                  have HW := Lib.hid hrw
                  have HP := Lib.hid hp
                  have HS := Lib.hid hs
                  have HG := Lib.hid hG
                  have HZ := Lib.hid hsz
                  clear hrw hp hs hG hrow hsz
                  by_cases hjb2 : j < b
                  · have hjbz : (j : Int) < (b : Int) := by omega
                    go_wp2_with fail
                    go_quiet (first | (go_at_call 96; refine Calls.quiet_of_same (less_b _ _ _)))
                    go_wp2_with fail
                    · go_roundw
                      case rel => exact ⟨i, k + 1, rfl, by go_num, by omega, hai, hib, ⟨dk, HW.out.drewN nq, HP.out, HS.out⟩⟩
                      case measure => simp [intOf] <;> omega
                    · go_region
                      all_goals go_wp2_with fail
                      go_roundw
                      case rel =>
                        refine ⟨j + 1, by go_num, by omega, by omega, swp dk j (j - 1), ?_, perm_swp HP.out (by omega) (by omega) (by omega) (by omega) (by rw [← HN.out]; exact hb), fun p q h1 h2 h3 => ?_⟩
                        · have h := (Rw.swap HR.out (HW.out.drewN nq) (i := j) (j := j - 1) (by rw [HZ.out]; omega) (by rw [HZ.out]; omega)).drew
                          rw [← HG.out, ← HG.out] at h
                          exact h
                        · rw [Go.Sort.swp_other _ _ _ _ (by omega) (by omega), Go.Sort.swp_other _ _ _ _ (by omega) (by omega)]
                          exact HS.out p q h1 h2 h3
                      case measure => simp [intOf] <;> omega
                  · have hjbz : ¬ ((j : Int) < (b : Int)) := by omega
                    go_wp2_with fail
                    go_roundw
                    case rel => exact ⟨i, k + 1, rfl, by go_num, by omega, hai, hib, ⟨dk, HW.out, HP.out, HS.out⟩⟩
                    case measure => simp [intOf] <;> omega
              · have h2z : ¬ (2 ≤ (b : Int) - (i : Int)) := by omega
                go_wp2_with fail
                go_roundw
                case rel => exact ⟨i, k + 1, rfl, by go_num, by omega, hai, hib, HC.out⟩
                case measure => simp [intOf] <;> omega
        · obtain rfl : i = b := by omega
          have hd : decide ((i : Int) < (i : Int)) = false := by simp
          go_wp2_with fail
          go_quiet (first | (go_at_call 96; refine Calls.quiet_of_same (less_b _ _ _)))
          go_wp2_with fail
          go_ret
          exact ⟨true, rfl, dk, HW.out.drewN nq, HP.out, fun _ => HS.out⟩
    · have hk5z : ¬ (k : Int) < 5 := by omega
      go_wp2_with fail
      go_ret
      obtain ⟨dk, h1, h2, h3⟩ := HP.out
      exact ⟨false, rfl, dk, h1, h2, fun h => Bool.noConfusion h⟩
#print axioms partial_b
end Go.Proofs.Ytbnlkmblkokooaa
