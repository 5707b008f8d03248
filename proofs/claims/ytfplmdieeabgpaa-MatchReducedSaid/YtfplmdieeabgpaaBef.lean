/- Contracts of the reference's Before and Equal. -/
import Derived.Test.YtfplmdieeabgpaaCml
import Derived.Test.YtfplmdieeabgpaaOwn
namespace Go.Proofs.Ytfplmdieeabgpaa
open Go.RowKit
set_option maxHeartbeats 2000000 in
theorem before_any (x y : List Int) (v u : Value) (w : World) (hv : Ints w v x) (hu : Ints w u y) :
    Calls Try.prog 109 #[v, u] w fun e w' => e = .returned (.bool (decide (cmpL x y < 0))) ∧ w = w' := by
  obtain ⟨a, b, off, cap, rfl, hle, ha, hc⟩ := Ints.get hv
  have hix := run_ix (P := Try.prog) (t := 22) (a := a) (len := x.length) (cap := cap) (b := b) (off := off) (s := 1) Try.underlying22 (by intro w; kernel_rfl) ha
  simp only [Nat.mul_one] at hix
  have Hc := Lib.hid hc
  obtain ⟨a', b', off', cap', rfl, hle', ha', hc'⟩ := Ints.get hu
  have hix' := run_ix (P := Try.prog) (t := 22) (a := a') (len := y.length) (cap := cap') (b := b') (off := off') (s := 1) Try.underlying22 (by intro w; kernel_rfl) ha'
  simp only [Nat.mul_one] at hix'
  have Hc' := Lib.hid hc'
  have Hix := Lib.hid hix
  have Hix' := Lib.hid hix'
  clear ha hv hc ha' hu hc' hix hix'
  obtain ⟨C, hC⟩ : ∃ C, C = cmpL x y := ⟨_, rfl⟩
  obtain ⟨B, hB⟩ : ∃ B, B = decide (C < 0) := ⟨_, rfl⟩
  rw [← hC, ← hB]
  have HB := Lib.hid hB
  have HC := Lib.hid (show C = cmpL (x.drop 0) (y.drop 0) from by rw [hC]; rfl)
  clear hC hB
  go_enter Try.func109, Try.ntmps109
  go_wp2_with fail
  go_loopw [9] (fun i wr => ∃ k : Nat, i = .int .i64 k ∧ k ≤ x.length ∧ k ≤ y.length ∧ wr = w ∧ C = cmpL (x.drop k) (y.drop k)) (fun i _ => x.length - (intOf i).toNat)
  case atStart => exact ⟨0, rfl, Nat.zero_le _, Nat.zero_le _, rfl, HC.out⟩
  case round =>
    obtain ⟨k, rfl, hk, hky, hwr, hin⟩ := hrel
    subst hwr
    have Hin := Lib.hid hin
    clear hin HC
    by_cases hlt : k < x.length
    · have hck := Hc.out k hlt
      have hixk := Hix.out k
      by_cases hy : k < y.length
      · have hck' := Hc'.out k hy
        have hixk' := Hix'.out k
        have hD := Hin.out.trans (cmpL_drop hlt hy)
        obtain ⟨s, hs⟩ : ∃ s, s = x[k] := ⟨_, rfl⟩
        obtain ⟨t, ht⟩ : ∃ t, t = y[k] := ⟨_, rfl⟩
        rw [← hs] at hck hD
        rw [← ht] at hck' hD
        have HD := Lib.hid hD
        clear hs ht hD
        by_cases h1 : s < t
        · have R := Lib.hid (HD.out.trans (if_pos h1))
          have h2 : ¬ t < s := by omega
          go_wp2_with fail
          go_ret
          exact ⟨by rw [HB.out, R.out]; rfl, rfl⟩
        · by_cases h2 : t < s
          · have R := Lib.hid (HD.out.trans ((if_neg h1).trans (if_pos h2)))
            go_wp2_with fail
            go_ret
            exact ⟨by rw [HB.out, R.out]; rfl, rfl⟩
          · have R := Lib.hid (HD.out.trans ((if_neg h1).trans (if_neg h2)))
            go_wp2_with fail
            go_roundw
            case rel => exact ⟨k + 1, by go_num, by omega, by omega, by first | rfl | trivial, R.out⟩
            case measure => simp [intOf]; omega
      · obtain rfl : k = y.length := by omega
        have R := Lib.hid (show C = 1 from by rw [Hin.out, List.drop_length, List.drop_eq_getElem_cons hlt]; rfl)
        go_wp2_with fail
        go_ret
        exact ⟨by rw [HB.out, R.out]; rfl, rfl⟩
    · obtain rfl : k = x.length := by omega
      by_cases hy : x.length < y.length
      · have R := Lib.hid (show C = -1 from by rw [Hin.out, List.drop_length, List.drop_eq_getElem_cons hy]; rfl)
        go_wp2_with fail
        go_ret
        exact ⟨by rw [HB.out, R.out]; rfl, rfl⟩
      · have R := Lib.hid (show C = 0 from by rw [Hin.out, List.drop_length, List.drop_eq_nil_of_le (by omega)]; rfl)
        go_wp2_with fail
        go_ret
        exact ⟨by rw [HB.out, R.out]; rfl, rfl⟩
theorem equalQ_any (x y : List Int) (v u : Value) (w : World) (hv : Ints w v x) (hu : Ints w u y) :
    Calls Try.prog 82 #[v, u] w fun e w' => e = .returned (.bool (decide (x = y))) ∧ w = w' := by
  have H1 := Lib.hid (before_any x y v u w hv hu)
  have H2 := Lib.hid (before_any y x u v w hu hv)
  have HE := Lib.hid (show decide (x = y) = (!decide (cmpL x y < 0) && !decide (cmpL y x < 0)) from by
    have hs := cmpL_swap x y
    by_cases e : x = y
    · subst e
      have := cmpL_refl x
      simp [this]
    · have h0 : cmpL x y ≠ 0 := fun h => e (cmpL_eq h)
      rw [decide_eq_false e]
      rcases Int.lt_or_gt_of_ne h0 with h | h
      · simp [h]
      · have : cmpL y x < 0 := by omega
        simp [this])
  rw [HE.out]
  clear hv hu HE
  obtain ⟨A, hA⟩ : ∃ A, A = decide (cmpL x y < 0) := ⟨_, rfl⟩
  obtain ⟨B, hB⟩ : ∃ A, A = decide (cmpL y x < 0) := ⟨_, rfl⟩
  rw [← hA] at H1 ⊢
  rw [← hB] at H2 ⊢
  clear hA hB
  go_enter Try.func82, Try.ntmps82
  go_wp2_with fail
  refine H1.out.mono ?_
  rintro e w1 ⟨rfl, rfl⟩
  cases A
  · go_wp2_with fail
    refine H2.out.mono ?_
    rintro e w1 ⟨rfl, rfl⟩
    go_wp2_with fail
    go_ret
    exact ⟨by cases B <;> rfl, rfl⟩
  · go_wp2_with fail
    go_ret
    exact ⟨rfl, rfl⟩
#print axioms before_any
#print axioms equalQ_any
end Go.Proofs.Ytfplmdieeabgpaa
