/- Contract of (Query).valid. -/
import Derived.Test.YtfplmdieeabgpaaQw
namespace Go.Proofs.Ytfplmdieeabgpaa
open Go.RowKit
theorem qshr_bit (s k : Nat) (h : s < 2 ^ 63) : bits .and .i64 ((s : Int) / 2 ^ k) 1 = ((if s.testBit k then 1 else 0 : Nat) : Int) := by
  have e : ((s : Int) / 2 ^ k) = ((s / 2 ^ k : Nat) : Int) := by simp
  have h1 : s / 2 ^ k ≤ s := Nat.div_le_self _ _
  rw [e, show (1 : Int) = ((1 : Nat) : Int) from rfl, bits_and_nat _ _ (by omega) (by decide), Nat.and_one_is_mod]
  have := Nat.mod_two_eq_zero_or_one (s / 2 ^ k)
  simp only [Nat.testBit_eq_decide_div_mod_eq]
  rcases this with q | q <;> simp [q]
theorem qpow_name (k : Nat) (hk : k ≤ 61) : ∃ P : Nat, P = 2 ^ k ∧ (2 : Int) ^ k = (P : Int) ∧ (P : Int) < 9223372036854775808 ∧ 0 < P :=
  ⟨2 ^ k, rfl, by simp, by have := Nat.pow_lt_pow_right (a := 2) (by decide) (show k < 63 by omega); omega, Nat.two_pow_pos k⟩
set_option maxRecDepth 100000 in
set_option maxHeartbeats 8000000 in
theorem qryValid_any (q : HQ) (v : Value) (w : World) (hq : Qr w v q) (B : Bool) (hB : decide (QrV q) = B) :
    Calls Try.prog 83 #[v] w fun e w' => e = .returned (.bool B) ∧ Below w.heap.size w w' := by
  obtain ⟨h0, b0, rfl, hh, hb⟩ := hq
  have HVr := Lib.hid (fun w' (hw : Below w.heap.size w w') => qryVars_any q.2 h0 b0 w' (hb.keep hw))
  obtain ⟨a, b, off, cap, vs, rfl, hle, ha, hcap, hc⟩ := Atoms.get hb
  obtain ⟨a2, b2, off2, cap2, rfl, hle2, ha2, hc2⟩ := Ints.get hh
  have Hix := Lib.hid (run_ix (P := Try.prog) (t := 31) (a := a) (len := q.2.length) (cap := cap) (b := b) (off := off) (s := 2) Try.underlying31 (by intro w; kernel_rfl) ha)
  have Hix2 := Lib.hid (run_ix (P := Try.prog) (t := 22) (a := a2) (len := q.1.length) (cap := cap2) (b := b2) (off := off2) (s := 1) Try.underlying22 (by intro w; kernel_rfl) ha2)
  simp only [Nat.mul_one] at Hix2
  have Hc := Lib.hid hc
  have Hc2 := Lib.hid hc2
  obtain ⟨w1, hw1⟩ : ∃ w1, w1 = w.alloc (.cells #[.slice a2 q.1.length cap2, .slice a q.2.length cap] 33) := ⟨_, rfl⟩
  have Hb1 := Lib.hid (show Below w.heap.size w w1 from by rw [hw1]; exact below_alloc _ _)
  have g0 : w1.cell? ⟨w.heap.size, 0, none⟩ = some (.slice a2 q.1.length cap2) := by rw [hw1]; exact cell_new w _ _ 0
  have g1 : w1.cell? ⟨w.heap.size, 1, none⟩ = some (.slice a q.2.length cap) := by rw [hw1]; exact cell_new w _ _ 1
  have HG := Lib.hid (And.intro g0 g1)
  have Hw1 := Lib.hid hw1
  have HF := Lib.hid (fun (r : ¬ QrV q) => show false = B from by rw [← hB]; exact (decide_eq_false r).symm)
  have HT := Lib.hid (fun (r : QrV q) => show true = B from by rw [← hB]; exact (decide_eq_true r).symm)
  have Hvl := Lib.hid (show vsQ q.2 < 256 from vsB_lt _ _)
  clear hh hb ha hc hcap ha2 hc2 hw1 hB
  obtain ⟨hd, bd⟩ := q
  obtain ⟨ob, hob⟩ : ∃ ob, ob = w.heap.size := ⟨_, rfl⟩
  rw [← hob] at g0 g1 HG
  go_enter Try.func83, Try.ntmps83
  go_upto_region 1 with fail
  rw [← Hw1.out, ← hob]
  clear Hw1 hob
  simp only at *
  by_cases q1 : (bd.length : Int) < 1
  · have R := Lib.hid (HF.out fun h => by have := h.1.1; simp only at this; omega)
    go_wp2_with fail
    go_ret
    exact ⟨by rw [← R.out]; rfl, Hb1.out⟩
  · by_cases q2 : (bd.length : Int) > 5
    · have R := Lib.hid (HF.out fun h => by have := h.1.2.1; simp only at this; omega)
      go_wp2_with fail
      go_ret
      exact ⟨by rw [← R.out]; rfl, Hb1.out⟩
    · by_cases q3 : (hd.length : Int) > 4
      · have R := Lib.hid (HF.out fun h => by have := h.1.2.2; simp only at this; omega)
        go_wp2_with fail
        go_ret
        exact ⟨by rw [← R.out]; rfl, Hb1.out⟩
      · have Hh := Lib.hid (show 1 ≤ bd.length ∧ bd.length ≤ 5 ∧ hd.length ≤ 4 from by omega)
        go_wp2_with fail
        clear g0 g1 q1 q2 q3
        go_loopw [26] (fun vi wr => ∃ k : Nat, vi = .int .i64 k ∧ k ≤ bd.length ∧ Below w1.heap.size w1 wr ∧ ∀ j, j < k → AtV (aR bd j) (aA bd j)) (fun vi _ => bd.length - (intOf vi).toNat)
        case atStart => exact ⟨0, rfl, Nat.zero_le _, Below.refl _ _, fun j hj => by omega⟩
        case round =>
          obtain ⟨k, rfl, hk, hb, hno⟩ := hrel
          have Hno := Lib.hid hno
          have Hb := Lib.hid hb
          clear hno hb
          have Hbw := Lib.hid (Below.tr Hb1.out Hb.out)
          by_cases hlt : k < bd.length
          · have hc1 := Below.keep Hbw.out (Hc.out k hlt).1
            have hc2 := Below.keep Hbw.out (Hc.out k hlt).2.1
            have hi := Ints.keep (Hc.out k hlt).2.2 Hbw.out
            have hixk := Hix.out k
            obtain ⟨ua, uc, hu⟩ := ints_slice hi
            rw [hu] at hc2 hi
            clear hu
            have HY := Lib.hid (fun (r : AtV (aR bd k) (aA bd k)) => show ∀ j, j < k + 1 → AtV (aR bd j) (aA bd j) from fun j hj => by
              by_cases e2 : j = k
              · subst e2; exact r
              · exact Hno.out j (by omega))
            have HN := Lib.hid (fun (r : ¬ AtV (aR bd k) (aA bd k)) => HF.out fun h => r (h.2.1 k hlt))
            obtain ⟨r, hr⟩ : ∃ t, t = aR bd k := ⟨_, rfl⟩
            obtain ⟨A, hA⟩ : ∃ t, t = aA bd k := ⟨_, rfl⟩
            rw [← hr] at hc1 HY HN
            rw [← hA] at hc2 hi HY HN
            clear hr hA
            have hcap := Ints.cap hi
            have hml := hi.2.1
            obtain ⟨w2, hw2⟩ : ∃ w2, w2 = wr.alloc (.cells #[.int .i64 r, .slice ua A.length uc] 88) := ⟨_, rfl⟩
            have hb2 : Below wr.heap.size wr w2 := by rw [hw2]; exact below_alloc _ _
            have g0 : w2.cell? ⟨wr.heap.size, 0, none⟩ = some (.int .i64 r) := by rw [hw2]; exact cell_new wr _ _ 0
            have g1 : w2.cell? ⟨wr.heap.size, 1, none⟩ = some (.slice ua A.length uc) := by rw [hw2]; exact cell_new wr _ _ 1
            have HV := Lib.hid (fun B hB => atomValid_any r A (.slice ua A.length uc) w2 (hi.keep hb2) B hB)
            have Hb2 := Lib.hid (Below.tr Hb.out hb2)
            have HG2 := Lib.hid (And.intro g0 g1)
            have Hw2 := Lib.hid hw2
            clear hi hb2 hw2 g0 g1
            go_upto_region 6 with fail
            rw [← Hw2.out]
            clear Hw2 hc1 hc2 hixk
            have g0 := HG2.out.1
            have g1 := HG2.out.2
            by_cases e : AtV r A
            · have HV1 := Lib.hid (HV.out true (decide_eq_true e))
              have R := Lib.hid (HY.out e)
              clear e
              go_wp2_with fail
              refine HV1.out.mono ?_
              rintro e w3 ⟨rfl, hb3⟩
              have Hb3 := Lib.hid (Below.tr Hb2.out hb3)
              clear hb3 g0 g1
              go_wp2_with fail
              go_roundw
              case rel => exact ⟨k + 1, by go_num, by omega, Hb3.out, R.out⟩
              case measure => simp [intOf]; omega
            · have HV1 := Lib.hid (HV.out false (decide_eq_false e))
              have R := Lib.hid (HN.out e)
              clear e
              go_wp2_with fail
              refine HV1.out.mono ?_
              rintro e w3 ⟨rfl, hb3⟩
              have Hb3 := Lib.hid (Below.tr Hb1.out (Below.tr Hb2.out hb3))
              clear hb3 g0 g1
              go_wp2_with fail
              go_ret
              exact ⟨by rw [← R.out]; rfl, Hb3.out⟩
          · obtain rfl : k = bd.length := by omega
            have Hall := Lib.hid Hno.out
            clear Hno
            have g0 := Below.keep Hb.out HG.out.1
            have g1 := Below.keep Hb.out HG.out.2
            go_wp2_with fail
            clear g0 g1
            obtain ⟨wo, hwo⟩ : ∃ wo : World, wo = wr := ⟨_, rfl⟩
            clear hwo
            go_loopw [37] (fun vi wr => ∃ k : Nat, vi = .int .i64 k ∧ k ≤ hd.length ∧ Below w1.heap.size w1 wr ∧ ∀ j, j < k → isV (hd.getD j 0) ∧ (vsQ bd).testBit (hd.getD j 0).toNat = true) (fun vi _ => hd.length - (intOf vi).toNat)
            case atStart => exact ⟨0, rfl, Nat.zero_le _, Hb.out, fun j hj => by omega⟩
            case round =>
              clear Hb Hbw
              obtain ⟨k, rfl, hk, hb, hno⟩ := hrel
              have Hno := Lib.hid hno
              have Hb := Lib.hid hb
              clear hno hb
              have Hbw := Lib.hid (Below.tr Hb1.out Hb.out)
              by_cases hlt : k < hd.length
              · have hc1 := Below.keep Hbw.out (Hc2.out k hlt)
                have hixk := Hix2.out k
                have g0 := Below.keep Hb.out HG.out.1
                have g1 := Below.keep Hb.out HG.out.2
                have e : hd.getD k 0 = hd[k] := by rw [List.getD_eq_getElem?_getD, List.getElem?_eq_getElem hlt]; rfl
                have HY := Lib.hid (fun (r : isV (hd.getD k 0) ∧ (vsQ bd).testBit (hd.getD k 0).toNat = true) => show ∀ j, j < k + 1 → isV (hd.getD j 0) ∧ (vsQ bd).testBit (hd.getD j 0).toNat = true from fun j hj => by
                  by_cases e2 : j = k
                  · subst e2; exact r
                  · exact Hno.out j (by omega))
                have HN := Lib.hid (fun (r : ¬ (isV (hd.getD k 0) ∧ (vsQ bd).testBit (hd.getD k 0).toNat = true)) => HF.out fun h => r (h.2.2 _ (by rw [e]; exact List.getElem_mem hlt)))
                rw [← e] at hc1
                obtain ⟨t, ht⟩ : ∃ t, t = hd.getD k 0 := ⟨_, rfl⟩
                rw [← ht] at hc1 HY HN
                clear ht e
                have HV := Lib.hid (fun B hB => isVar_any t B hB wr)
                have HVq := Lib.hid (HVr.out wr Hbw.out)
                obtain ⟨V, hV⟩ : ∃ V, V = vsQ bd := ⟨_, rfl⟩
                rw [← hV] at HVq HY HN Hvl
                have HVe := Lib.hid hV
                clear hV
                by_cases h1 : isV t
                · have HV1 := Lib.hid (HV.out true (decide_eq_true h1))
                  have hvl := Hvl.out
                  obtain ⟨n, rfl⟩ : ∃ n : Nat, t = n := ⟨t.toNat, by unfold isV at h1; omega⟩
                  rw [Int.toNat_natCast] at HY HN
                  have hn8 : n < 8 := by unfold isV at h1; omega
                  have hn0 : (0 : Int) ≤ (n : Int) := by omega
                  have hn64 : (n : Int) < 64 := by omega
                  have t1 := qshr_bit V n (by omega)
                  obtain ⟨P, hP, p1, p2, p3⟩ := qpow_name n (by omega)
                  rw [p1] at t1
                  clear hP
                  by_cases h2 : V.testBit n = true
                  · rw [if_pos h2] at t1
                    have R := Lib.hid (HY.out ⟨h1, h2⟩)
                    clear h1 h2
                    go_wp2_with fail
                    refine HV1.out.mono ?_
                    rintro e w2 ⟨rfl, rfl⟩
                    go_wp2_with fail
                    refine HVq.out.mono ?_
                    rintro e w3 ⟨rfl, hb3⟩
                    have Hb3 := Lib.hid (Below.tr Hb.out hb3)
                    clear hb3 g0 g1 hc1
                    go_wp2_with fail
                    go_roundw
                    case rel => exact ⟨k + 1, by go_num, by omega, Hb3.out, by rw [← HVe.out]; exact R.out⟩
                    case measure => simp [intOf]; omega
                  · rw [if_neg h2] at t1
                    have R := Lib.hid (HN.out (fun r => h2 r.2))
                    clear h1 h2
                    go_wp2_with fail
                    refine HV1.out.mono ?_
                    rintro e w2 ⟨rfl, rfl⟩
                    go_wp2_with fail
                    refine HVq.out.mono ?_
                    rintro e w3 ⟨rfl, hb3⟩
                    have Hb3 := Lib.hid (Below.tr Hb1.out (Below.tr Hb.out hb3))
                    clear hb3 g0 g1 hc1
                    go_wp2_with fail
                    go_ret
                    exact ⟨by rw [← R.out]; rfl, Hb3.out⟩
                · have HV1 := Lib.hid (HV.out false (decide_eq_false h1))
                  have R := Lib.hid (HN.out (fun r => h1 r.1))
                  clear h1
                  go_wp2_with fail
                  refine HV1.out.mono ?_
                  rintro e w2 ⟨rfl, rfl⟩
                  go_wp2_with fail
                  go_ret
                  exact ⟨by rw [← R.out]; rfl, Hbw.out⟩
              · obtain rfl : k = hd.length := by omega
                have R := Lib.hid (HT.out ⟨Hh.out, Hall.out, fun t ht => by
                  obtain ⟨j, hj, rfl⟩ := List.getElem_of_mem ht
                  have := Hno.out j hj
                  rw [List.getD_eq_getElem?_getD, List.getElem?_eq_getElem hj] at this
                  exact this⟩)
                go_wp2_with fail
                go_ret
                exact ⟨by rw [← R.out]; rfl, Hbw.out⟩
#print axioms qryValid_any
end Go.Proofs.Ytfplmdieeabgpaa
