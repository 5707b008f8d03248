/- Contract of the reference's Proof. -/
import Derived.Test.YtnidalbfmicoiaaWalkSd
import Derived.Test.YtnidalbfmicoiaaWalkS
namespace Go.Proofs.Ytnidalbfmicoiaa
open Go.RowKit

set_option maxRecDepth 100000 in
set_option maxHeartbeats 4000000 in
theorem proofR_any (m : Nat) (hm8 : m ≤ 8) (l : List (Int × Int)) (p : List Stp) (v u : Value) (w : World) (hv : Deps w v l) (hu : Steps w u p) :
    Calls Try.prog 35 #[.int .i64 m, v, u] w fun e w' => e = .returned (.bool (decide (ProofOk m l p))) ∧ Below w.heap.size w w' := by
  obtain ⟨a, b, off, cap, rfl, hle, ha, hc⟩ := Deps.get hv
  obtain ⟨a', b', off', cap', rfl, hle', ha', -, hc'⟩ := Steps.get hu
  have hix := run_ix (P := Try.prog) (t := 22) (a := a) (len := l.length) (cap := cap) (b := b) (off := off) (s := 2) Try.underlying22 (by intro w; kernel_rfl) ha
  have hix' := run_ix (P := Try.prog) (t := 50) (a := a') (len := p.length) (cap := cap') (b := b') (off := off') (s := 5) Try.underlying50 (by intro w; kernel_rfl) ha'
  have Hc := Lib.hid hc
  have Hc' := Lib.hid hc'
  clear ha ha' hv hu hc hc'
  go_enter Try.func35, Try.ntmps35
  go_wp2
  go_loopw [12] (fun i wr => ∃ k : Nat, i = .int .i64 k ∧ k ≤ p.length ∧ Below w.heap.size w wr ∧ ∀ q, q < k → PairOk m (stp p q) ∧ StepOk m l p q (stp p q)) (fun i _ => p.length - (intOf i).toNat)
  case atStart => exact ⟨0, rfl, Nat.zero_le _, Below.refl _ _, fun q hq => by omega⟩
  case round => as_aux_lemma =>
    obtain ⟨k, rfl, hk, hb, hin⟩ := hrel
    have Hin := Lib.hid hin
    have Hb := Lib.hid hb
    clear hin hb
    by_cases hlt : k < p.length
    · obtain ⟨hc1, hc2, hc3, hc4, hc5⟩ := Hc'.out k hlt
      have hc1 := Below.keep Hb.out hc1
      have hc2 := Below.keep Hb.out hc2
      have hc3 := Below.keep Hb.out hc3
      have hc4 := Below.keep Hb.out hc4
      have hc5 := Below.keep Hb.out hc5
      rw [stp_get hlt] at hc1 hc2 hc3 hc4 hc5
      obtain ⟨s, hs⟩ : ∃ s, s = stp p k := ⟨_, rfl⟩
      rw [← hs] at hc1 hc2 hc3 hc4 hc5
      have Hs := Lib.hid hs.symm
      clear hs
      obtain ⟨r, i, j, f, t⟩ := s
      simp only at hc1 hc2 hc3 hc4 hc5
      have hix2 := hix
      clear hix
      by_cases hP : InSet m f ∧ InSet m t
      · have Hno := fun (h : ¬ StepOk m l p k (r, i, j, f, t)) => Lib.hid (proof_no (n := m) (l := l) hlt Hs.out (fun x => h x.2))
        have Hyes := fun (h : StepOk m l p k (r, i, j, f, t)) => Lib.hid (show ∀ q, q < k + 1 → PairOk m (stp p q) ∧ StepOk m l p q (stp p q) from fun q hq => by
          by_cases e : q = k
          · subst e; rw [Hs.out]; exact ⟨hP, h⟩
          · exact Hin.out q (by omega))
        have HNo := Lib.hid Hno
        have HYes := Lib.hid Hyes
        have HP := Lib.hid hP
        clear Hno Hyes hP
        go_wp2_with fail
        refine (pairR_any m _ _ hm8 _).mono ?_
        rintro e w1 ⟨he, hb1⟩
        rw [decide_eq_true HP.out] at he
        subst he
        have hbw : Below wr.heap.size wr w1 := Below.tr (below_alloc _ _) hb1
        have Hbw := Lib.hid (Below.tr Hb.out hbw)
        have d0 : w1.cell? ⟨wr.heap.size, 0, none⟩ = some (.int .i64 r) := Below.keep hb1 (by rw [cell_new]; rfl)
        have d1 : w1.cell? ⟨wr.heap.size, 1, none⟩ = some (.int .i64 i) := Below.keep hb1 (by rw [cell_new]; rfl)
        have d2 : w1.cell? ⟨wr.heap.size, 2, none⟩ = some (.int .i64 j) := Below.keep hb1 (by rw [cell_new]; rfl)
        have d3 : w1.cell? ⟨wr.heap.size, 3, none⟩ = some (.int .i64 f) := Below.keep hb1 (by rw [cell_new]; rfl)
        have d4 : w1.cell? ⟨wr.heap.size, 4, none⟩ = some (.int .i64 t) := Below.keep hb1 (by rw [cell_new]; rfl)
        have Hcl := Lib.hid (show ∀ q, q < l.length → w1.cell? ⟨b, off + q * 2, none⟩ = some (.int .i64 (nth l q).1) ∧ w1.cell? ⟨b, off + q * 2 + 1, none⟩ = some (.int .i64 (nth l q).2) from fun q hq => by rw [← nth_get hq]; exact ⟨Below.keep Hbw.out (Hc.out q hq).1, Below.keep Hbw.out (Hc.out q hq).2⟩)
        have Hcp := Lib.hid (show ∀ q, q < p.length → w1.cell? ⟨b', off' + q * 5 + 3, none⟩ = some (.int .i64 (stp p q).2.2.2.1) ∧ w1.cell? ⟨b', off' + q * 5 + 4, none⟩ = some (.int .i64 (stp p q).2.2.2.2) from fun q hq => by rw [← stp_get hq]; exact ⟨Below.keep Hbw.out (Hc'.out q hq).2.2.2.1, Below.keep Hbw.out (Hc'.out q hq).2.2.2.2⟩)
        have Hz := Lib.hid hbw.size
        have Hix := Lib.hid hix2
        have Hix' := Lib.hid hix'
        clear hb1 hbw hc1 hc2 hc3 hc4 hc5 hix2 hix'
        by_cases h0 : r = 0
        · subst h0
          by_cases hi : 0 ≤ i
          · obtain ⟨ii, rfl⟩ := Int.eq_ofNat_of_zero_le hi
            by_cases hl : ii < l.length
            · obtain ⟨e1, e2⟩ := Hcl.out ii hl
              have hixi := Hix.out ii
              have Hnx := Lib.hid (show nth l (ii : Int).toNat = nth l ii by rw [Int.toNat_natCast])
              generalize hx : nth l ii = x at *
              obtain ⟨x, y⟩ := x
              simp only at e1 e2
              clear hx
              by_cases hj : j = 0
              · subst hj
                by_cases hf : f = x
                · subst hf
                  by_cases ht : t = y
                  · subst ht
                    have R := HYes.out (ok_0.2 ⟨hi, by omega, rfl, by rw [Hnx.out], by rw [Hnx.out]⟩)
                    clear HNo HYes
                    go_wp2_with fail
                    go_quiet (fail)
                    go_wp2_with fail
                    go_roundw
                    case rel => exact ⟨k + 1, by go_num, by omega, bdrewN Hbw.out _, R.out⟩
                    case measure => simp [intOf]; omega
                  · have q : (t == y) = false := by simpa using ht
                    have R := HNo.out (fun h => ht (by have h := (ok_0.1 h).2.2.2.2; rw [Hnx.out] at h; exact h))
                    clear HNo HYes
                    go_wp2_with fail
                    go_quiet (fail)
                    go_wp2_with fail
                    go_ret
                    exact ⟨congrArg (fun b => Ending.returned (.bool b)) R.out.symm, bdrewN Hbw.out _⟩
                · have q : (f == x) = false := by simpa using hf
                  have R := HNo.out (fun h => hf (by have h := (ok_0.1 h).2.2.2.1; rw [Hnx.out] at h; exact h))
                  clear HNo HYes
                  go_wp2_with fail
                  go_quiet (fail)
                  go_wp2_with fail
                  go_ret
                  exact ⟨congrArg (fun b => Ending.returned (.bool b)) R.out.symm, bdrewN Hbw.out _⟩
              · have q : (j == 0) = false := by simpa using hj
                have R := HNo.out (fun h => hj (ok_0.1 h).2.2.1)
                clear HNo HYes
                go_wp2_with fail
                go_quiet (fail)
                go_wp2_with fail
                go_ret
                exact ⟨congrArg (fun b => Ending.returned (.bool b)) R.out.symm, bdrewN Hbw.out _⟩
            · have q : decide (ii < l.length) = false := by simpa using hl
              have R := HNo.out (fun h => hl (by have := (ok_0.1 h).2.1; omega))
              clear HNo HYes
              go_wp2_with fail
              go_quiet (fail)
              go_wp2_with fail
              go_ret
              exact ⟨congrArg (fun b => Ending.returned (.bool b)) R.out.symm, bdrewN Hbw.out _⟩
          · have q : decide ((0 : Int) ≤ i) = false := by simpa using hi
            have R := HNo.out (fun h => hi (ok_0.1 h).1)
            clear HNo HYes
            go_wp2_with fail
            go_quiet (fail)
            go_wp2_with fail
            go_ret
            exact ⟨congrArg (fun b => Ending.returned (.bool b)) R.out.symm, bdrewN Hbw.out _⟩
        · have n0 : (r == 0) = false := by simpa using h0
          by_cases h1 : r = 1
          · subst h1
            clear n0
            by_cases hi : i = 0
            · subst hi
              by_cases hj : j = 0
              · subst hj
                by_cases hs : bits .andNot .i64 t f = 0
                · have q : (bits .andNot .i64 t f == 0) = true := by simpa using hs
                  have R := HYes.out (ok_1.2 ⟨rfl, rfl, hs⟩)
                  clear hs
                  clear HNo HYes
                  go_wp2_with fail
                  go_roundw
                  case rel => exact ⟨k + 1, by go_num, by omega, Hbw.out, R.out⟩
                  case measure => simp [intOf]; omega
                · have q : (bits .andNot .i64 t f == 0) = false := by simpa using hs
                  have R := HNo.out (fun h => hs (ok_1.1 h).2.2)
                  clear hs
                  clear HNo HYes
                  go_wp2_with fail
                  go_ret
                  exact ⟨congrArg (fun b => Ending.returned (.bool b)) R.out.symm, Hbw.out⟩
              · have q : (j == 0) = false := by simpa using hj
                have R := HNo.out (fun h => hj (ok_1.1 h).2.1)
                clear HNo HYes
                go_wp2_with fail
                go_ret
                exact ⟨congrArg (fun b => Ending.returned (.bool b)) R.out.symm, Hbw.out⟩
            · have q : (i == 0) = false := by simpa using hi
              have R := HNo.out (fun h => hi (ok_1.1 h).1)
              clear HNo HYes
              go_wp2_with fail
              go_ret
              exact ⟨congrArg (fun b => Ending.returned (.bool b)) R.out.symm, Hbw.out⟩
          · have n1 : (r == 1) = false := by simpa using h1
            by_cases h2 : r = 2
            · subst h2
              clear n0 n1 h0 h1
              by_cases hi : 0 ≤ i
              · obtain ⟨ii, rfl⟩ := Int.eq_ofNat_of_zero_le hi
                by_cases hl : ii < k
                · obtain ⟨e1, e2⟩ := Hcp.out ii (by omega)
                  have hixi := Hix'.out ii
                  have hlp : ii < p.length := by omega
                  have Hnx := Lib.hid (show stp p (ii : Int).toNat = stp p ii by rw [Int.toNat_natCast])
                  generalize hx : stp p ii = x at *
                  obtain ⟨x1, x2, x3, x, y⟩ := x
                  simp only at e1 e2
                  clear hx
                  by_cases hj : InSet m j
                  · have HJ := Lib.hid hj
                    clear hj
                    by_cases hf : f = bits .or .i64 x j
                    · by_cases ht : t = bits .or .i64 y j
                      have R := HYes.out (ok_2.2 ⟨hi, by omega, HJ.out, by rw [Hnx.out]; exact hf, by rw [Hnx.out]; exact ht⟩)
                      have q1 : (f == bits .or .i64 x j) = true := by simpa using hf
                      have q2 : (t == bits .or .i64 y j) = true := by simpa using ht
                      clear hf ht
                      clear HNo HYes
                      go_wp2_with fail
                      go_quiet (first | (go_at_call 28; exact Calls.quiet_of (setRQ_y m _ hm8 HJ.out _)) | fail)
                      go_wp2_with fail
                      go_roundw
                      case rel => exact ⟨k + 1, by go_num, by omega, bdrewN Hbw.out _, R.out⟩
                      case measure => simp [intOf]; omega
                      · have q1 : (f == bits .or .i64 x j) = true := by simpa using hf
                        have R := HNo.out (fun h => ht (by have h := (ok_2.1 h).2.2.2.2; rw [Hnx.out] at h; exact h))
                        have q2 : (t == bits .or .i64 y j) = false := by simpa using ht
                        clear hf ht
                        clear HNo HYes
                        go_wp2_with fail
                        go_quiet (first | (go_at_call 28; exact Calls.quiet_of (setRQ_y m _ hm8 HJ.out _)) | fail)
                        go_wp2_with fail
                        go_ret
                        exact ⟨congrArg (fun b => Ending.returned (.bool b)) R.out.symm, bdrewN Hbw.out _⟩
                    · have q1 : (f == bits .or .i64 x j) = false := by simpa using hf
                      have R := HNo.out (fun h => hf (by have h := (ok_2.1 h).2.2.2.1; rw [Hnx.out] at h; exact h))
                      clear hf
                      clear HNo HYes
                      go_wp2_with fail
                      go_quiet (first | (go_at_call 28; exact Calls.quiet_of (setRQ_y m _ hm8 HJ.out _)) | fail)
                      go_wp2_with fail
                      go_ret
                      exact ⟨congrArg (fun b => Ending.returned (.bool b)) R.out.symm, bdrewN Hbw.out _⟩
                  · have HJ := Lib.hid hj
                    clear hj
                    have R := HNo.out (fun h => HJ.out (ok_2.1 h).2.2.1)
                    clear HNo HYes
                    go_wp2_with fail
                    go_quiet (first | (go_at_call 28; exact Calls.quiet_of (setRQ_n m _ hm8 HJ.out _)) | fail)
                    go_wp2_with fail
                    go_ret
                    exact ⟨congrArg (fun b => Ending.returned (.bool b)) R.out.symm, bdrewN Hbw.out _⟩
                · have q : decide (ii < k) = false := by simpa using hl
                  have R := HNo.out (fun h => hl (by have := (ok_2.1 h).2.1; omega))
                  clear HNo HYes
                  go_wp2_with fail
                  go_quiet (fail)
                  go_wp2_with fail
                  go_ret
                  exact ⟨congrArg (fun b => Ending.returned (.bool b)) R.out.symm, bdrewN Hbw.out _⟩
              · have q : decide ((0 : Int) ≤ i) = false := by simpa using hi
                have R := HNo.out (fun h => hi (ok_2.1 h).1)
                clear HNo HYes
                go_wp2_with fail
                go_quiet (fail)
                go_wp2_with fail
                go_ret
                exact ⟨congrArg (fun b => Ending.returned (.bool b)) R.out.symm, bdrewN Hbw.out _⟩
            · have n2 : (r == 2) = false := by simpa using h2
              by_cases h3 : r = 3
              · subst h3
                clear n0 n1 n2 h0 h1 h2
                by_cases hi : 0 ≤ i
                · obtain ⟨ii, rfl⟩ := Int.eq_ofNat_of_zero_le hi
                  by_cases hl : ii < k
                  · obtain ⟨e1, e2⟩ := Hcp.out ii (by omega)
                    have hixi := Hix'.out ii
                    have hlp : ii < p.length := by omega
                    by_cases hj : 0 ≤ j
                    · obtain ⟨jj, rfl⟩ := Int.eq_ofNat_of_zero_le hj
                      by_cases hlj : jj < k
                      · obtain ⟨e3, e4⟩ := Hcp.out jj (by omega)
                        have hixj := Hix'.out jj
                        have hljp : jj < p.length := by omega
                        have Hnx := Lib.hid (show stp p (ii : Int).toNat = stp p ii by rw [Int.toNat_natCast])
                        have Hny := Lib.hid (show stp p (jj : Int).toNat = stp p jj by rw [Int.toNat_natCast])
                        generalize hx : (stp p ii).2.2.2.1 = x1 at e1
                        generalize hx2 : (stp p ii).2.2.2.2 = x2 at e2
                        generalize hy : (stp p jj).2.2.2.1 = y1 at e3
                        generalize hy2 : (stp p jj).2.2.2.2 = y2 at e4
                        have Hx := Lib.hid hx
                        have Hx2 := Lib.hid hx2
                        have Hy := Lib.hid hy
                        have Hy2 := Lib.hid hy2
                        clear hx hx2 hy hy2
                        have HI := Lib.hid (show Ok3 p k (ii : Int) (jj : Int) f t ↔ x2 = y1 ∧ f = x1 ∧ t = y2 by unfold Ok3; rw [Hnx.out, Hny.out, Hx.out, Hx2.out, Hy.out, Hy2.out]; constructor; (intro h; exact h.2.2.2.2); (intro h; exact ⟨by omega, by omega, by omega, by omega, h⟩))
                        by_cases hm : x2 = y1
                        · by_cases hf : f = x1
                          · by_cases ht : t = y2
                            have R := HYes.out (ok_3.2 (HI.out.2 ⟨hm, hf, ht⟩))
                            have q0 : (x2 == y1) = true := by simpa using hm
                            have q1 : (f == x1) = true := by simpa using hf
                            have q2 : (t == y2) = true := by simpa using ht
                            clear hm hf ht
                            clear HNo HYes
                            go_wp2_with fail
                            go_quiet (fail)
                            go_wp2_with fail
                            go_roundw
                            case rel => exact ⟨k + 1, by go_num, by omega, bdrewN Hbw.out _, R.out⟩
                            case measure => simp [intOf]; omega
                            · have q2 : (t == y2) = false := by simpa using ht
                              have R := HNo.out (fun h => ht (HI.out.1 (ok_3.1 h)).2.2)
                              have q0 : (x2 == y1) = true := by simpa using hm
                              have q1 : (f == x1) = true := by simpa using hf
                              clear hm hf ht
                              clear HNo HYes
                              go_wp2_with fail
                              go_quiet (fail)
                              go_wp2_with fail
                              go_ret
                              exact ⟨congrArg (fun b => Ending.returned (.bool b)) R.out.symm, bdrewN Hbw.out _⟩
                          · have q2 : (f == x1) = false := by simpa using hf
                            have R := HNo.out (fun h => hf (HI.out.1 (ok_3.1 h)).2.1)
                            have q0 : (x2 == y1) = true := by simpa using hm
                            clear hm hf
                            clear HNo HYes
                            go_wp2_with fail
                            go_quiet (fail)
                            go_wp2_with fail
                            go_ret
                            exact ⟨congrArg (fun b => Ending.returned (.bool b)) R.out.symm, bdrewN Hbw.out _⟩
                        · have q2 : (x2 == y1) = false := by simpa using hm
                          have R := HNo.out (fun h => hm (HI.out.1 (ok_3.1 h)).1)
                          clear hm
                          clear HNo HYes
                          go_wp2_with fail
                          go_quiet (fail)
                          go_wp2_with fail
                          go_ret
                          exact ⟨congrArg (fun b => Ending.returned (.bool b)) R.out.symm, bdrewN Hbw.out _⟩
                      · have q : decide (jj < k) = false := by simpa using hlj
                        have R := HNo.out (fun h => hlj (by have := (ok_3.1 h).2.2.2.1; omega))
                        clear HNo HYes
                        go_wp2_with fail
                        go_quiet (fail)
                        go_wp2_with fail
                        go_ret
                        exact ⟨congrArg (fun b => Ending.returned (.bool b)) R.out.symm, bdrewN Hbw.out _⟩
                    · have q : decide ((0 : Int) ≤ j) = false := by simpa using hj
                      have R := HNo.out (fun h => hj (ok_3.1 h).2.2.1)
                      clear HNo HYes
                      go_wp2_with fail
                      go_quiet (fail)
                      go_wp2_with fail
                      go_ret
                      exact ⟨congrArg (fun b => Ending.returned (.bool b)) R.out.symm, bdrewN Hbw.out _⟩
                  · have q : decide (ii < k) = false := by simpa using hl
                    have R := HNo.out (fun h => hl (by have := (ok_3.1 h).2.1; omega))
                    clear HNo HYes
                    go_wp2_with fail
                    go_quiet (fail)
                    go_wp2_with fail
                    go_ret
                    exact ⟨congrArg (fun b => Ending.returned (.bool b)) R.out.symm, bdrewN Hbw.out _⟩
                · have q : decide ((0 : Int) ≤ i) = false := by simpa using hi
                  have R := HNo.out (fun h => hi (ok_3.1 h).1)
                  clear HNo HYes
                  go_wp2_with fail
                  go_quiet (fail)
                  go_wp2_with fail
                  go_ret
                  exact ⟨congrArg (fun b => Ending.returned (.bool b)) R.out.symm, bdrewN Hbw.out _⟩
              · have n3 : (r == 3) = false := by simpa using h3
                have R := HNo.out (ok_no h0 h1 h2 h3)
                clear h0 h1 h2 h3
                clear HNo HYes
                go_wp2_with fail
                go_ret
                exact ⟨congrArg (fun b => Ending.returned (.bool b)) R.out.symm, Hbw.out⟩
      · have R := Lib.hid (proof_no (n := m) (l := l) hlt Hs.out (fun x => hP x.1))
        have HP := Lib.hid hP
        clear hP
        go_wp2_with (go_at_call 30; refine (pairR_any m _ _ hm8 _).mono ?_; rw [decide_eq_false HP.out]; rintro e w1 ⟨rfl, hb1⟩)
        go_ret
        exact ⟨congrArg (fun b => Ending.returned (.bool b)) R.out.symm, Below.tr Hb.out (Below.tr (below_alloc _ _) hb1)⟩
    · obtain rfl : k = p.length := by omega
      by_cases h1 : 1 ≤ p.length
      · have R := Lib.hid (show decide (p.length ≤ 100) = decide (ProofOk m l p) from decide_eq_decide.2 ⟨fun h => ⟨Hin.out, h1, h⟩, fun h => h.2.2⟩)
        go_wp2
        go_ret
        exact ⟨congrArg (fun b => Ending.returned (.bool b)) (by rw [← R.out]; apply decide_eq_decide.2; omega), Hb.out⟩
      · have R := Lib.hid (show decide (ProofOk m l p) = false from decide_eq_false fun h => h1 h.2.1)
        go_wp2
        go_ret
        exact ⟨congrArg (fun b => Ending.returned (.bool b)) R.out.symm, Hb.out⟩
end Go.Proofs.Ytnidalbfmicoiaa
