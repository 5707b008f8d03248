/- Contract of lastEar. -/
import Derived.Test.YtfplmdieeabgpaaDrl
import Derived.BigQuiet
namespace Go.Proofs.Ytfplmdieeabgpaa
open Go.RowKit
def EarX (L : Nat) (X : List Nat) (i j : Nat) : Prop := i < X.length ∧ j < X.length ∧ i ≠ j ∧ mem' L i ∧ mem' L j ∧ ndiff (X.getD i 0) (X.getD j 0) = 0
theorem ndiff_eq_int (a b : Nat) : ((ndiff a b : Nat) : Int) = 0 ↔ ndiff a b = 0 := by omega
theorem drew_ex {w w' : World} {q r : Nat} (h : w' = w.drewN q) : ∃ s, w'.drewN r = w.drewN s := ⟨_, by rw [h]; exact World.drewN_drewN _ _ _⟩
theorem drew_at {w w' : World} {q r : Nat} (h : w' = w.drewN q) : w'.drewN r = w.drewN (q + r) := by rw [h]; exact World.drewN_drewN _ _ _
set_option maxRecDepth 100000 in
set_option maxHeartbeats 16000000 in
theorem lastEar_any (X : List Nat) (L : Nat) (hL : L < 32) (hX : ∀ i, X.getD i 0 < 256) (hn : X.length ≤ 5) (u : Value) (w : World) (hu : Ints w u (cz X)) :
    Calls Try.prog 119 #[u, .int .i64 (L : Nat)] w fun e w' => ∃ E H : Int, e = .returned (.tuple #[.int .i64 E, .int .i64 H]) ∧ ((E = -1 ∧ H = -1 ∧ ∀ i j, ¬ EarX L X i j) ∨ ∃ i j : Nat, E = i ∧ H = j ∧ EarX L X i j ∧ ∀ i' j', EarX L X i' j' → i' ≤ i) ∧ ∃ q, w' = w.drewN q := by
  obtain ⟨a, b, off, cap, rfl, hle, hia, hc⟩ := Ints.get hu
  have gd : ∀ (l : List Int) (i : Nat) (hi : i < l.length), l[i] = l.getD i 0 := fun l i hi => by rw [List.getD_eq_getElem?_getD, List.getElem?_eq_getElem hi]; rfl
  have Hc := Lib.hid (show ∀ i, i < X.length → w.cell? ⟨b, off + i, none⟩ = some (.int .i64 (X.getD i 0 : Nat)) from fun i hi => by rw [hc i (by rw [cz_len]; exact hi), gd, cz_get])
  rw [cz_len] at hia ⊢
  have Hix := Lib.hid (run_ix (P := Try.prog) (t := 22) (a := a) (len := X.length) (cap := cap) (b := b) (off := off) (s := 1) Try.underlying22 (by intro w; kernel_rfl) hia)
  simp only [Nat.mul_one] at Hix
  have HX := Lib.hid hX
  obtain ⟨n, hn2⟩ : ∃ x, x = X.length := ⟨_, rfl⟩
  have Hn := Lib.hid hn2
  rw [← hn2] at Hix Hc hn ⊢
  clear hu hX hn2 hia hc gd hle
  go_enter Try.func119, Try.ntmps119
  go_wp2_with fail
  go_loopw [6] (fun vi wr => ∃ (k : Int) (q : Nat), vi = .int .i64 k ∧ -1 ≤ k ∧ k < n ∧ wr = w.drewN q ∧ ∀ i j, k < (i : Nat) → ¬ EarX L X i j) (fun vi _ => (intOf vi + 1).toNat)
  case atStart => exact ⟨(n : Int) - 1, 0, by go_num, by omega, by omega, rfl, fun i j h k => by have := k.1; rw [← Hn.out] at this; omega⟩
  case round =>
    obtain ⟨k, q, rfl, hk1, hkn, hwr, hno⟩ := hrel
    have Hwr := Lib.hid hwr
    have Hno := Lib.hid hno
    clear hwr hno
    by_cases hk0 : 0 ≤ k
    · obtain ⟨i, rfl⟩ : ∃ i : Nat, k = i := ⟨k.toNat, by omega⟩
      have hin : i < n := by omega
      go_wp2_with fail
      go_loopw [17] (fun vi wr => ∃ j q : Nat, vi = .int .i64 j ∧ j ≤ n ∧ wr = w.drewN q ∧ ∀ j', j' < j → ¬ EarX L X i j') (fun vi _ => n - (intOf vi).toNat)
      case atStart => exact ⟨0, q, rfl, Nat.zero_le _, Hwr.out, fun j h => by omega⟩
      case round =>
        clear Hwr
        obtain ⟨j, q, rfl, hj, hwr, hno2⟩ := hrel
        have Hwr := Lib.hid hwr
        have Hno2 := Lib.hid hno2
        clear hwr hno2
        by_cases hlt : j < n
        · have HN := Lib.hid (fun (h : ¬ EarX L X i j) => show ∀ j', j' < j + 1 → ¬ EarX L X i j' from fun j' h1 => by
            rcases Nat.lt_or_ge j' j with h2 | h2
            · exact Hno2.out j' h2
            · rw [show j' = j by omega]; exact h)
          have i0 : (0 : Int) ≤ (i : Int) := by omega
          have i64 : (i : Int) < 64 := by omega
          have j0 : (0 : Int) ≤ (j : Int) := by omega
          have j64 : (j : Int) < 64 := by omega
          have t1 := qshr_bit L i (by omega)
          obtain ⟨P, hP, p1, p2, p3⟩ := qpow_name i (by omega)
          rw [p1] at t1
          have s1 := qshr_bit L j (by omega)
          obtain ⟨R, hR, r1, r2, r3⟩ := qpow_name j (by omega)
          rw [r1] at s1
          clear hP hR
          by_cases hij : i = j
          · have HF := Lib.hid (HN.out fun h => h.2.2.1 hij)
            subst hij
            have hne : ((i : Int) != (i : Int)) = false := by simp
            go_upto_region 7 with fail
            go_quiet (fail)
            go_wp2_with fail
            go_roundw
            case rel => exact ⟨i + 1, _, by go_num, by omega, drew_at Hwr.out, HF.out⟩
            case measure => simp [intOf]; omega
          · have hne : ((i : Int) != (j : Int)) = true := by rw [bne_iff_ne]; omega
            by_cases hi : L.testBit i = true
            · rw [if_pos hi] at t1
              by_cases hjj : L.testBit j = true
              · rw [if_pos hjj] at s1
                have hci := (show wr.cell? ⟨b, off + i, none⟩ = w.cell? ⟨b, off + i, none⟩ by rw [Hwr.out]; rfl).trans (Hc.out i hin)
                have hcj := (show wr.cell? ⟨b, off + j, none⟩ = w.cell? ⟨b, off + j, none⟩ by rw [Hwr.out]; rfl).trans (Hc.out j hlt)
                have hxi := Hix.out i
                have hxj := Hix.out j
                have l1 := HX.out i
                have l2 := HX.out j
                obtain ⟨x, hx⟩ : ∃ x, x = X.getD i 0 := ⟨_, rfl⟩
                obtain ⟨y, hy⟩ : ∃ y, y = X.getD j 0 := ⟨_, rfl⟩
                have HE := Lib.hid (show EarX L X i j ↔ ndiff x y = 0 from by rw [hx, hy]; exact ⟨fun h => h.2.2.2.2.2, fun h => ⟨by rw [← Hn.out]; exact hin, by rw [← Hn.out]; exact hlt, hij, hi, hjj, h⟩⟩)
                rw [← hx] at hci l1
                rw [← hy] at hcj l2
                clear hx hy
                have e1 := bits_andNot_nat x y (by omega) (by omega)
                obtain ⟨N, hN⟩ : ∃ N, N = ndiff x y := ⟨_, rfl⟩
                rw [← hN] at e1 HE
                clear hN
                by_cases hz : N = 0
                · have HEr := Lib.hid (HE.out.2 hz)
                  have hz2 : ((N : Int) == 0) = true := by rw [hz]; rfl
                  have HM := Lib.hid (show ∀ i' j', EarX L X i' j' → i' ≤ i from fun i' j' h => by
                    rcases Nat.lt_or_ge i i' with h1 | h1
                    · exact absurd h (Hno.out i' j' (by omega))
                    · exact h1)
                  clear hz
                  go_upto_region 7 with fail
                  go_quiet (fail)
                  go_wp2_with fail
                  go_ret2
                  exact ⟨_, _, rfl, .inr ⟨i, j, rfl, rfl, HEr.out, HM.out⟩, drew_ex Hwr.out⟩
                · have HF := Lib.hid (HN.out fun h => hz (HE.out.1 h))
                  have hz2 : ((N : Int) == 0) = false := by rw [beq_eq_false_iff_ne]; omega
                  clear hz
                  go_upto_region 7 with fail
                  go_quiet (fail)
                  go_wp2_with fail
                  go_roundw
                  case rel => exact ⟨j + 1, _, by go_num, by omega, drew_at Hwr.out, HF.out⟩
                  case measure => simp [intOf]; omega
              · rw [if_neg hjj] at s1
                have HF := Lib.hid (HN.out fun h => hjj h.2.2.2.2.1)
                go_upto_region 7 with fail
                go_quiet (fail)
                go_wp2_with fail
                go_roundw
                case rel => exact ⟨j + 1, _, by go_num, by omega, drew_at Hwr.out, HF.out⟩
                case measure => simp [intOf]; omega
            · rw [if_neg hi] at t1
              have HF := Lib.hid (HN.out fun h => hi h.2.2.2.1)
              go_upto_region 7 with fail
              go_quiet (fail)
              go_wp2_with fail
              go_roundw
              case rel => exact ⟨j + 1, _, by go_num, by omega, drew_at Hwr.out, HF.out⟩
              case measure => simp [intOf]; omega
        · obtain rfl : n = j := by omega
          have HF := Lib.hid (show ∀ i' j', (i : Int) - 1 < (i' : Nat) → ¬ EarX L X i' j' from fun i' j' h k => by
            by_cases c : i' = i
            · subst c; exact Hno2.out j' (by rw [Hn.out]; exact k.2.1) k
            · exact Hno.out i' j' (by omega) k)
          go_wp2_with fail
          go_roundw
          case rel => exact ⟨(i : Int) - 1, q, by first | rfl | go_num, by omega, by omega, Hwr.out, HF.out⟩
          case measure => first | (simp [intOf]; done) | (simp [intOf]; omega)
    · have HF := Lib.hid (show ∀ i j, ¬ EarX L X i j from fun i j => Hno.out i j (by omega))
      go_wp2_with fail
      go_ret2
      exact ⟨_, _, rfl, .inl ⟨rfl, rfl, HF.out⟩, _, Hwr.out⟩
#print axioms lastEar_any
end Go.Proofs.Ytfplmdieeabgpaa
