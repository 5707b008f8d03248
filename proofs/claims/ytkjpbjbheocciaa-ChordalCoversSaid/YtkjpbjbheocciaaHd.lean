/- Contract of the reference's IsHole. -/
import Derived.Test.YtkjpbjbheocciaaHc
namespace Go.Proofs.Ytkjpbjbheocciaa
open Go.RowKit

theorem at_nat {l : List Int} {i : Nat} (h : i < l.length) : at' (nat' l) i = (gI l i).toNat := by
  have h' : i < (nat' l).length := by rw [nat_length]; exact h
  rw [← at_get h']
  simp only [nat', List.getElem_map]
  rw [gI_get h]
theorem isHole_no {g : List Nat} {l : List Int} {i : Nat} (hi : i < l.length) (h : ¬ ((0 ≤ gI l i ∧ gI l i < g.length) ∧ RowH g l.length (nat' l) i)) : ¬ IsHoleI g l :=
  fun hh => h ⟨hh.2.1 i hi, hh.2.2.1 i (by rw [nat_length]; exact hi)⟩
set_option maxRecDepth 100000 in
set_option maxHeartbeats 4000000 in
theorem isHoleR_any {g : List Nat} (hg : Gr g) (l : List Int) (v u : Value) (w : World) (hv : Ints w v (castN g)) (hu : Ints w u l) :
    Calls Try.prog 29 #[v, u] w fun e w' => e = .returned (.bool (decide (IsHoleI g l))) ∧ ∃ q, w' = w.drewN q := by
  obtain ⟨a, b, off, cap, rfl, hle, ha, hc⟩ := Ints.graph hv
  have hix := run_ix (P := Try.prog) (t := 23) (a := a) (len := g.length) (cap := cap) (b := b) (off := off) (s := 1) Try.underlying23 (by intro w; kernel_rfl) ha
  simp only [Nat.mul_one] at hix
  have hg12 := hg.le
  have Hu0 := Lib.hid hu
  obtain ⟨a', b', off', cap', rfl, hle', ha', hc'⟩ := Ints.get hu
  have hix' := run_ix (P := Try.prog) (t := 22) (a := a') (len := l.length) (cap := cap') (b := b') (off := off') (s := 1) Try.underlying22 (by intro w; kernel_rfl) ha'
  simp only [Nat.mul_one] at hix'
  have hto := run_to (P := Try.prog) (t := 22) (a := a') (len := l.length) (cap := cap') (s := 1) Try.underlying22 (by intro w; kernel_rfl) (Ints.cap Hu0.out)
  have Hc := Lib.hid hc
  have Hc' := Lib.hid (show ∀ i, i < l.length → w.cell? ⟨b', off' + i, none⟩ = some (.int .i64 (gI l i)) from fun i hi => by rw [hc' i hi, gI_get hi])
  have HG := Lib.hid hg
  have Hix := Lib.hid hix
  have Hix' := Lib.hid hix'
  have Hto := Lib.hid hto
  have Ha' := Lib.hid ha'
  obtain ⟨E, hE⟩ : ∃ E, E = decide (IsHoleI g l) := ⟨_, rfl⟩
  rw [← hE]
  have HE := Lib.hid hE
  have Hno := Lib.hid (show ¬ IsHoleI g l → E = false from fun h => by rw [hE]; exact decide_eq_false h)
  by_cases h4 : 4 ≤ l.length
  · have hix0 : ∀ w, 0 < l.length → (Instr.indexAt 22 (.slice a' l.length cap') (.int .i64 0)).run Try.prog w = .ok (.pointer (some ⟨b', off', none⟩)) w := fun w h => by have := hix' 0 w h; simpa using this
    have hix1 : ∀ w, 1 < l.length → (Instr.indexAt 22 (.slice a' l.length cap') (.int .i64 1)).run Try.prog w = .ok (.pointer (some ⟨b', off' + 1, none⟩)) w := fun w h => by have := hix' 1 w h; simpa using this
    have hl0 : 0 < l.length := by omega
    have hl1 : 1 < l.length := by omega
    have hc0 := Hc'.out 0 (by omega)
    rw [Nat.add_zero] at hc0
    obtain ⟨f0, hf0⟩ : ∃ f, f = gI l 0 := ⟨_, rfl⟩
    rw [← hf0] at hc0
    have Hf0 := Lib.hid hf0
    clear hv hu hg ha hc ha' hc' hix hix' hto hE hf0
    go_enter Try.func29, Try.ntmps29
    go_wp2_with fail
    go_loopw [17] (fun i wr => ∃ k : Nat, i = .int .i64 k ∧ k ≤ l.length ∧ wr = w ∧ ∀ q, q < k → (0 ≤ gI l q ∧ gI l q < g.length) ∧ RowH g l.length (nat' l) q) (fun i _ => l.length - (intOf i).toNat)
    case atStart => exact ⟨0, rfl, Nat.zero_le _, rfl, fun q hq => by omega⟩
    case round =>
      obtain ⟨k, rfl, hk, hwr, hin⟩ := hrel
      subst hwr
      have Hin := Lib.hid hin
      clear hin
      by_cases hlt : k < l.length
      · have hck := Hc'.out k hlt
        have hixk := Hix'.out k
        have htok := fun w => Hto.out k w (by omega)
        obtain ⟨x, hx⟩ : ∃ x, x = gI l k := ⟨_, rfl⟩
        rw [← hx] at hck
        by_cases hx0 : x < 0
        · have R := Lib.hid (Hno.out (isHole_no hlt fun h => by have := h.1.1; omega))
          clear hx
          go_wp2_with fail
          go_ret
          exact ⟨by rw [R.out]; rfl, 0, rfl⟩
        · by_cases hxn : x ≥ (g.length : Int)
          · have R := Lib.hid (Hno.out (isHole_no hlt fun h => by have := h.1.2; omega))
            clear hx
            go_wp2_with fail
            go_ret
            exact ⟨by rw [R.out]; rfl, 0, rfl⟩
          · by_cases hxf : x < f0
            · have R := Lib.hid (Hno.out (isHole_no hlt fun h => by
                have := h.2.1.2
                rw [at_nat hlt, at_nat hl0, ← hx, ← Hf0.out] at this
                omega))
              clear hx
              go_wp2_with fail
              go_ret
              exact ⟨by rw [R.out]; rfl, 0, rfl⟩
            · obtain ⟨y, rfl⟩ := Int.eq_ofNat_of_zero_le (show 0 ≤ x by omega)
              have hy : y < g.length := by omega
              have Hat := Lib.hid (show at' (nat' l) k = y by rw [at_nat hlt, ← hx]; simp)
              have H1 := Lib.hid (show (0 ≤ gI l k ∧ gI l k < g.length) ∧ (at' (nat' l) k < g.length ∧ at' (nat' l) 0 ≤ at' (nat' l) k) from ⟨by rw [← hx]; omega, by rw [Hat.out]; exact hy, by rw [Hat.out, at_nat hl0, ← Hf0.out]; omega⟩)
              have hcy := Hc.out y hy
              have hixy := Hix.out y
              obtain ⟨z, hz⟩ : ∃ z, z = nb g y := ⟨_, rfl⟩
              rw [← hz] at hcy
              have Hz := Lib.hid hz
              clear hx hz
              go_wp2_with fail
              obtain ⟨wo, rfl⟩ : ∃ wo : World, wo = wr := ⟨_, rfl⟩
              go_loopw [41] (fun i wr => ∃ j : Nat, i = .int .i64 j ∧ j ≤ k ∧ wr = wo ∧ ∀ q, q < j → at' (nat' l) k ≠ at' (nat' l) q ∧ (nb g (at' (nat' l) k)).testBit (at' (nat' l) q) = decide (k = q + 1 ∨ k = q + (l.length - 1))) (fun i _ => k - (intOf i).toNat)
              case atStart => exact ⟨0, rfl, Nat.zero_le _, rfl, fun q hq => by omega⟩
              case round =>
                obtain ⟨j, rfl, hj, hwr, hin2⟩ := hrel
                subst hwr
                have Hin2 := Lib.hid hin2
                clear hin2
                by_cases hltj : j < k
                · have hcj := Hc'.out j (by omega)
                  have hixj := run_ix (P := Try.prog) (t := 22) (a := a') (len := k) (cap := cap') (b := b') (off := off') (s := 1) Try.underlying22 (by intro w; kernel_rfl) (fun _ => Ha'.out (by omega)) j
                  simp only [Nat.mul_one] at hixj
                  obtain ⟨s, hs⟩ : ∃ s, s = gI l j := ⟨_, rfl⟩
                  rw [← hs] at hcj
                  obtain ⟨t, ht⟩ := Int.eq_ofNat_of_zero_le (show 0 ≤ s by rw [hs]; exact (Hin.out j hltj).1.1)
                  subst ht
                  have ht12 : t < 12 := by have := (Hin.out j hltj).1.2; rw [← hs] at this; omega
                  have Hat2 := Lib.hid (show at' (nat' l) j = t by rw [at_nat (by omega), ← hs]; simp)
                  clear hs
                  have hi1 : (0 : Int) ≤ (t : Int) := by omega
                  have hi2 : (t : Int) < 64 := by omega
                  have HNX := Lib.hid (show ∃ B1 B2 : Bool, (((k : Int) - (j : Int)) == 1) = B1 ∧ (((k : Int) - (j : Int)) == ((l.length : Int) - 1)) = B2 ∧ (B1 || B2) = decide (k = j + 1 ∨ k = j + (l.length - 1)) from ⟨_, _, rfl, rfl, by
                    rw [Bool.eq_iff_iff, Bool.or_eq_true, beq_iff_eq, beq_iff_eq, decide_eq_true_iff]; omega⟩)
                  obtain ⟨B1, B2, qB1, qB2, hB⟩ := HNX.out
                  have HB := Lib.hid hB
                  clear hB HNX
                  by_cases hxy : y = t
                  · have R := Lib.hid (Hno.out (isHole_no hlt fun h => (h.2.2 j hltj).1 (by rw [Hat.out, Hat2.out]; exact hxy)))
                    have qx : ((y : Int) == (t : Int)) = true := by rw [beq_iff_eq]; omega
                    clear hxy
                    cases B1
                    all_goals
                      go_wp2_with fail
                      go_ret
                      exact ⟨by rw [R.out]; rfl, 0, rfl⟩
                  · have qx : ((y : Int) == (t : Int)) = false := by rw [beq_eq_false_iff_ne]; omega
                    have HXY := Lib.hid hxy
                    clear hxy
                    have Hbit := Lib.hid (show ∀ b : Bool, z.testBit t = b → b ≠ (B1 || B2) → E = false from fun b hb hne => Hno.out (isHole_no hlt fun h => hne (by
                      have := (h.2.2 j hltj).2
                      rw [Hat.out, Hat2.out, ← Hz.out, hb, ← HB.out] at this
                      exact this)))
                    have Hgo := Lib.hid (show ∀ b : Bool, z.testBit t = b → b = (B1 || B2) → ∀ q, q < j + 1 → at' (nat' l) k ≠ at' (nat' l) q ∧ (nb g (at' (nat' l) k)).testBit (at' (nat' l) q) = decide (k = q + 1 ∨ k = q + (l.length - 1)) from fun b hb he q hq => by
                      by_cases e : q = j
                      · subst e; rw [Hat.out, Hat2.out, ← Hz.out, ← HB.out, hb]; exact ⟨HXY.out, he⟩
                      · exact Hin2.out q (by omega))
                    cases hb : z.testBit t with
                    | false =>
                      have t1 := hasB_0 (s := z) (i := t) (by rw [hasB_nat]; exact hb)
                      have Hb := Lib.hid hb
                      clear hb
                      cases B1
                      · cases B2
                        · have R := Lib.hid (Hgo.out false Hb.out rfl)
                          go_wp2_with fail
                          go_roundw
                          case rel => exact ⟨j + 1, by go_num, by omega, trivial, R.out⟩
                          case measure => simp [intOf]; omega
                        · have R := Lib.hid (Hbit.out false Hb.out (by decide))
                          go_wp2_with fail
                          go_ret
                          exact ⟨by rw [R.out]; rfl, 0, rfl⟩
                      · have R := Lib.hid (Hbit.out false Hb.out (by simp))
                        go_wp2_with fail
                        go_ret
                        exact ⟨by rw [R.out]; rfl, 0, rfl⟩
                    | true =>
                      have t1 := hasB_1 (s := z) (i := t) (by rw [hasB_nat]; exact hb)
                      have Hb := Lib.hid hb
                      clear hb
                      cases B1
                      · cases B2
                        · have R := Lib.hid (Hbit.out true Hb.out (by decide))
                          go_wp2_with fail
                          go_ret
                          exact ⟨by rw [R.out]; rfl, 0, rfl⟩
                        · have R := Lib.hid (Hgo.out true Hb.out rfl)
                          go_wp2_with fail
                          go_roundw
                          case rel => exact ⟨j + 1, by go_num, by omega, trivial, R.out⟩
                          case measure => simp [intOf]; omega
                      · have R := Lib.hid (Hgo.out true Hb.out (by simp))
                        go_wp2_with fail
                        go_roundw
                        case rel => exact ⟨j + 1, by go_num, by omega, trivial, R.out⟩
                        case measure => simp [intOf]; omega
                · obtain rfl : j = k := by omega
                  have R := Lib.hid (show ∀ q, q < j + 1 → (0 ≤ gI l q ∧ gI l q < g.length) ∧ RowH g l.length (nat' l) q from fun q hq => by
                    by_cases e : q = j
                    · subst e; exact ⟨H1.out.1, H1.out.2, Hin2.out⟩
                    · exact Hin.out q (by omega))
                  go_wp2_with fail
                  go_roundw
                  case rel => exact ⟨j + 1, by go_num, by omega, trivial, R.out⟩
                  case measure => simp [intOf]; omega
      · obtain rfl : k = l.length := by omega
        obtain ⟨M, hM⟩ : ∃ M, l.length = M + 1 := ⟨l.length - 1, by omega⟩
        have hM12 : M + 1 ≤ 9223372036854775807 := by omega
        have hc1 := Hc'.out 1 hl1
        have hcM := Hc'.out M (by omega)
        have hixM := Hix'.out M
        have f1 : IntKind.i64.wrap ((l.length : Int) - 1) = (M : Int) := by rw [IntWalk.i64_in _ ⟨by omega, by omega⟩]; omega
        have hMl : M < l.length := by omega
        have R := Lib.hid (show decide (gI l 1 < gI l M) = E by
          rw [HE.out]
          apply decide_eq_decide.2
          have e1 : at' (nat' l) 1 = (gI l 1).toNat := at_nat hl1
          have e2 : at' (nat' l) (l.length - 1) = (gI l M).toNat := by rw [show l.length - 1 = M by omega]; exact at_nat hMl
          have p1 := (Hin.out 1 hl1).1.1
          have p2 := (Hin.out M hMl).1.1
          constructor
          · intro h
            exact ⟨h4, fun i hi => (Hin.out i hi).1, fun i hi => (Hin.out i (by rw [nat_length] at hi; exact hi)).2, fun _ => by rw [e1, e2]; omega⟩
          · intro h
            have := h.2.2.2 (nat_length l)
            rw [e1, e2] at this
            omega)
        have HM := Lib.hid hM
        generalize gI l 1 = s1 at *
        generalize gI l M = sM at *
        clear hM
        go_wp2_with fail
        go_quiet (fail)
        go_wp2_with fail
        go_ret
        exact ⟨congrArg (fun b => Ending.returned (.bool b)) R.out, _, rfl⟩
  · have R := Lib.hid (Hno.out fun h => h4 h.1)
    clear hv hu hg ha hc ha' hc' hix hix' hto hE
    go_enter Try.func29, Try.ntmps29
    go_wp2_with fail
    go_ret
    exact ⟨by rw [R.out]; rfl, 0, rfl⟩
#print axioms isHoleR_any
end Go.Proofs.Ytkjpbjbheocciaa
