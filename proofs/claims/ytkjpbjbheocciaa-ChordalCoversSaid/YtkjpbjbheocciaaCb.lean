/- Contracts of the reference's size and Coloured. -/
import Derived.Test.YtkjpbjbheocciaaCa
namespace Go.Proofs.Ytkjpbjbheocciaa
open Go.RowKit

theorem low_bit : ∀ s : Nat, 0 < s → ∃ i q, s = 2 ^ i * (2 * q + 1) := by
  intro s
  induction s using Nat.strongRecOn with
  | _ s ih =>
    intro h
    by_cases e : s % 2 = 1
    · exact ⟨0, s / 2, by omega⟩
    · obtain ⟨i, q, hq⟩ := ih (s / 2) (by omega) (by omega)
      refine ⟨i + 1, q, ?_⟩
      rw [Nat.pow_succ, Nat.mul_comm (2 ^ i) 2, Nat.mul_assoc, ← hq]
      omega
theorem and_pred {s : Nat} (h : 0 < s) : ∃ i, s.testBit i = true ∧ s &&& (s - 1) = ndiff s (2 ^ i) := by
  obtain ⟨i, q, hq⟩ := low_bit s h
  have hp := Nat.two_pow_pos i
  have e1 : s = 2 ^ i * (2 * q + 1) + 0 := by omega
  have e2 : s - 1 = 2 ^ i * (2 * q) + (2 ^ i - 1) := by rw [hq, Nat.mul_add]; omega
  have b1 : ∀ j, s.testBit j = if j < i then Nat.testBit 0 j else (2 * q + 1).testBit (j - i) := fun j => by
    rw [e1, Nat.testBit_two_pow_mul_add _ hp]
  have b2 : ∀ j, (s - 1).testBit j = if j < i then (2 ^ i - 1).testBit j else (2 * q).testBit (j - i) := fun j => by
    rw [e2, Nat.testBit_two_pow_mul_add _ (by omega)]
  refine ⟨i, by rw [b1, if_neg (by omega), Nat.sub_self]; simp, ?_⟩
  apply Nat.eq_of_testBit_eq
  intro j
  rw [Nat.testBit_and, testBit_ndiff, testBit_pow, b1, b2]
  by_cases hj : j < i
  · rw [if_pos hj, if_pos hj]; simp
  · rw [if_neg hj, if_neg hj]
    by_cases e : i = j
    · subst e; rw [Nat.sub_self]; simp
    · obtain ⟨m, hm⟩ : ∃ m, j - i = m + 1 := ⟨j - i - 1, by omega⟩
      rw [hm, decide_eq_false e, Nat.testBit_succ, Nat.testBit_succ, show (2 * q + 1) / 2 = q by omega, show 2 * q / 2 = q by omega]
      simp
theorem pop_pred {s : Nat} (h : 0 < s) (h4 : s < 4096) : pop (s &&& (s - 1)) + 1 = pop s := by
  obtain ⟨i, hi, e⟩ := and_pred h
  rw [e, pop_cnt, pop_cnt]
  exact cnt_erase (by have := bit_lt (n := 12) (by omega) hi; omega) hi
set_option maxHeartbeats 1000000 in
theorem size_any (S : Nat) (hS : S < 4096) (w : World) :
    Calls Try.prog 83 #[.int .i64 S] w fun e w' => e = .returned (.int .i64 (pop S : Nat)) ∧ w = w' := by
  go_enter Try.func83, Try.ntmps83
  go_wp2_with fail
  go_loopw [0, 3] (fun s n wr => ∃ k m : Nat, s = .int .i64 k ∧ n = .int .i64 m ∧ k < 4096 ∧ m ≤ 64 ∧ wr = w ∧ pop k + m = pop S) (fun s _ _ => (intOf s).toNat)
  case atStart => exact ⟨S, 0, rfl, rfl, hS, by omega, rfl, rfl⟩
  case round =>
    obtain ⟨k, m, rfl, rfl, hk, hm, hwr, hp⟩ := hrel
    subst hwr
    have hple := pop_le S
    by_cases h0 : 0 < k
    · have e := pop_pred h0 hk
      have hlt : k &&& (k - 1) < k := by have := Nat.and_le_right (n := k) (m := k - 1); omega
      have hw : IntKind.i64.wrap ((k : Int) - 1) = ((k - 1 : Nat) : Int) := by rw [IntWalk.i64_in _ ⟨by omega, by omega⟩]; omega
      have hand := bits_and_nat k (k - 1) (by omega) (by omega)
      obtain ⟨y, hy⟩ : ∃ y, y = k &&& (k - 1) := ⟨_, rfl⟩
      rw [← hy] at hand e hlt
      have hm2 : m + 1 ≤ 64 := by omega
      have R := Lib.hid (show pop y + (m + 1) = pop S by omega)
      clear hy e hp
      have h0' : (k : Int) > 0 := by omega
      go_wp2_with fail
      go_roundw
      case rel => exact ⟨y, m + 1, rfl, by go_num, by omega, hm2, trivial, R.out⟩
      case measure => simp [intOf]; omega
    · obtain rfl : k = 0 := by omega
      have R := Lib.hid (show m = pop S by
        have : pop 0 = 0 := by decide
        omega)
      clear hp
      go_wp2_with fail
      go_ret
      exact ⟨by rw [← R.out]; rfl, rfl⟩
set_option maxRecDepth 100000 in
set_option maxHeartbeats 4000000 in
theorem coloured_any {g : List Nat} (hg : Gr g) (l : List Int) (v u : Value) (w : World) (hv : Ints w v (castN g)) (hu : Ints w u l) :
    Calls Try.prog 33 #[v, u] w fun e w' => e = .returned (.tuple #[.int .i64 (colN g l : Nat), .bool (decide (IsCol g l))]) ∧ w = w' := by
  obtain ⟨a, b, off, cap, rfl, hle, ha, hc⟩ := Ints.graph hv
  have hix := run_ix (P := Try.prog) (t := 23) (a := a) (len := g.length) (cap := cap) (b := b) (off := off) (s := 1) Try.underlying23 (by intro w; kernel_rfl) ha
  simp only [Nat.mul_one] at hix
  have hg12 := hg.le
  obtain ⟨a', b', off', cap', rfl, hle', ha', hc'⟩ := Ints.get hu
  have hix' := run_ix (P := Try.prog) (t := 22) (a := a') (len := l.length) (cap := cap') (b := b') (off := off') (s := 1) Try.underlying22 (by intro w; kernel_rfl) ha'
  simp only [Nat.mul_one] at hix'
  have Hc := Lib.hid hc
  have Hc' := Lib.hid (show ∀ i, i < l.length → w.cell? ⟨b', off' + i, none⟩ = some (.int .i64 (gI l i)) from fun i hi => by rw [hc' i hi, gI_get hi])
  have HG := Lib.hid hg
  have Hix := Lib.hid hix
  have Hix' := Lib.hid hix'
  obtain ⟨E, hE⟩ : ∃ E, E = decide (IsCol g l) := ⟨_, rfl⟩
  obtain ⟨N, hN⟩ : ∃ N, N = colN g l := ⟨_, rfl⟩
  rw [← hE, ← hN]
  have HE := Lib.hid hE
  have HN := Lib.hid hN
  have Hno := Lib.hid (show ¬ IsCol g l → E = false ∧ N = 0 from fun h => ⟨by rw [hE]; exact decide_eq_false h, by rw [hN]; exact if_neg h⟩)
  clear hv hu hc hc' hix hix' hE hN ha ha' hg
  by_cases hl : l.length = g.length
  · have hl12 : l.length ≤ 12 := by omega
    rw [hl] at Hix' Hc' ⊢
    go_enter Try.func33, Try.ntmps33
    go_wp2_with fail
    go_loopw [6, 17] (fun s i wr => ∃ k U : Nat, i = .int .i64 k ∧ s = .int .i64 U ∧ k ≤ g.length ∧ wr = w ∧ U = setN ((nat' l).take k) ∧ ∀ q, q < k → ColRow g l q) (fun _ i _ => g.length - (intOf i).toNat)
    case atStart => exact ⟨0, 0, rfl, rfl, Nat.zero_le _, rfl, rfl, fun q hq => by omega⟩
    case round =>
      obtain ⟨k, U, rfl, rfl, hk, hwr, hU, hin⟩ := hrel
      subst hwr
      have hU4 : U < 4096 := by rw [hU]; exact used_lt (by omega) fun i hi => (hin i hi).1
      have Hin := Lib.hid hin
      have HU := Lib.hid hU
      clear hin hU
      by_cases hlt : k < g.length
      · have hck := Hc'.out k hlt
        have hixk := Hix'.out k
        have hcg := Hc.out k (by omega)
        have hixg := Hix.out k
        have hnb := HG.out.lt k (by omega)
        obtain ⟨x, hx⟩ : ∃ x, x = gI l k := ⟨_, rfl⟩
        obtain ⟨z, hz⟩ : ∃ z, z = nb g k := ⟨_, rfl⟩
        rw [← hx] at hck
        rw [← hz] at hcg hnb
        have Hz := Lib.hid hz
        have Hnb := Lib.hid (show z < 2 ^ 63 by have := lt63 hnb hg12; omega)
        clear hz hnb
        by_cases hx0 : x < 0
        · have R := Lib.hid (Hno.out (isCol_no (i := k) (by omega) fun h => by have := h.1.1; omega))
          clear hx
          go_wp2_with fail
          go_ret2
          exact ⟨by rw [R.out.1, R.out.2]; rfl, rfl⟩
        · by_cases hxn : x > 11
          · have R := Lib.hid (Hno.out (isCol_no (i := k) (by omega) fun h => by have := h.1.2; omega))
            clear hx
            go_wp2_with fail
            go_ret2
            exact ⟨by rw [R.out.1, R.out.2]; rfl, rfl⟩
          · obtain ⟨y, rfl⟩ := Int.eq_ofNat_of_zero_le (show 0 ≤ x by omega)
            have hy : y < 12 := by omega
            obtain ⟨P, hP, p1, p2, p3⟩ := pow_name y (by omega)
            have Hat := Lib.hid (show at' (nat' l) k = y by rw [at_nat (by omega), ← hx]; simp)
            have Hx := Lib.hid hx
            have RU := Lib.hid (show U ||| P = setN ((nat' l).take (k + 1)) by rw [setN_take (by rw [nat_length]; omega), ← HU.out, Hat.out, hP])
            have hor := bits_or_nat U P (by omega) (by omega)
            have hi1 : (0 : Int) ≤ (y : Int) := by omega
            have hi2 : (y : Int) < 64 := by omega
            clear hx hP
            go_wp2_with fail
            obtain ⟨wo, rfl⟩ : ∃ wo : World, wo = wr := ⟨_, rfl⟩
            go_loopw [30] (fun i wr => ∃ j : Nat, i = .int .i64 j ∧ j ≤ g.length ∧ wr = wo ∧ ∀ q, q < j → ¬ (z.testBit q = true ∧ gI l q = (y : Int))) (fun i _ => g.length - (intOf i).toNat)
            case atStart => exact ⟨0, rfl, Nat.zero_le _, rfl, fun q hq => by omega⟩
            case round =>
              obtain ⟨j, rfl, hj, hwr, hin2⟩ := hrel
              subst hwr
              have Hin2 := Lib.hid hin2
              clear hin2
              by_cases hltj : j < g.length
              · have hcj := Hc'.out j hltj
                have hixj := Hix'.out j
                obtain ⟨s, hs⟩ : ∃ s, s = gI l j := ⟨_, rfl⟩
                rw [← hs] at hcj
                have Hgo := Lib.hid (show ¬ (z.testBit j = true ∧ s = (y : Int)) → ∀ q, q < j + 1 → ¬ (z.testBit q = true ∧ gI l q = (y : Int)) from fun h q hq => by
                  by_cases e : q = j
                  · subst e; rw [← hs]; exact h
                  · exact Hin2.out q (by omega))
                have Hst := Lib.hid (show z.testBit j = true ∧ s = (y : Int) → E = false ∧ N = 0 from fun h => Hno.out fun hr => by
                  have hb : (nb g k).testBit j = true := by rw [← Hz.out]; exact h.1
                  have hjk : gI l j = gI l k := by rw [← hs, ← Hx.out]; exact h.2
                  by_cases e1 : j < k
                  · exact (hr.2 k (by omega)).2 j e1 ⟨hb, hjk⟩
                  · by_cases e2 : k < j
                    · exact (hr.2 j (by omega)).2 k e2 ⟨HG.out.sym k j (by omega) (by omega) hb, hjk.symm⟩
                    · have : j = k := by omega
                      rw [this, HG.out.irr k (by omega)] at hb
                      cases hb)
                have hj64 : j < 64 := by omega
                have hi3 : (0 : Int) ≤ (j : Int) := by omega
                have hi4 : (j : Int) < 64 := by omega
                clear hs
                cases hbit : z.testBit j with
                | false =>
                  have t1 := hasB_0 (s := z) (i := j) (by rw [hasB_nat]; exact hbit)
                  have R := Lib.hid (Hgo.out (fun h => by rw [hbit] at h; cases h.1))
                  clear hbit
                  go_wp2_with fail
                  go_roundw
                  case rel => exact ⟨j + 1, by go_num, by omega, trivial, R.out⟩
                  case measure => simp [intOf]; omega
                | true =>
                  have t1 := hasB_1 (s := z) (i := j) (by rw [hasB_nat]; exact hbit)
                  by_cases hsy : s = (y : Int)
                  · have R := Lib.hid (Hst.out ⟨hbit, hsy⟩)
                    have q : (s == (y : Int)) = true := by rw [beq_iff_eq]; exact hsy
                    clear hbit hsy
                    go_wp2_with fail
                    go_ret2
                    exact ⟨by rw [R.out.1, R.out.2]; rfl, rfl⟩
                  · have R := Lib.hid (Hgo.out (fun h => hsy h.2))
                    have q : (s == (y : Int)) = false := by rw [beq_eq_false_iff_ne]; exact hsy
                    clear hbit hsy
                    go_wp2_with fail
                    go_roundw
                    case rel => exact ⟨j + 1, by go_num, by omega, trivial, R.out⟩
                    case measure => simp [intOf]; omega
              · obtain rfl : j = g.length := by omega
                have R := Lib.hid (show ∀ q, q < k + 1 → ColRow g l q from fun q hq => by
                  by_cases e : q = k
                  · subst e; refine ⟨by rw [← Hx.out]; omega, fun j hj => ?_⟩
                    rw [← Hx.out, ← Hz.out]; exact Hin2.out j (by omega)
                  · exact Hin.out q (by omega))
                go_wp2_with fail
                go_roundw
                case rel => exact ⟨k + 1, U ||| P, by go_num, rfl, by omega, trivial, RU.out, R.out⟩
                case measure => simp [intOf]; omega
      · obtain rfl : k = g.length := by omega
        have hcol : IsCol g l := ⟨hl, fun i hi => Hin.out i (by omega)⟩
        have R := Lib.hid (show E = true ∧ N = pop U from ⟨by rw [HE.out]; exact decide_eq_true hcol, by
          rw [HN.out, colN, if_pos hcol, HU.out, List.take_of_length_le (by rw [nat_length]; omega)]; rfl⟩)
        have Ho := Lib.hid (size_any U hU4)
        clear hcol
        go_wp2_with fail
        refine (Ho.out _).mono ?_
        rintro e w' ⟨rfl, rfl⟩
        go_wp2_with fail
        go_ret2
        exact ⟨by rw [R.out.1, R.out.2]; rfl, rfl⟩
  · have R := Lib.hid (Hno.out fun h => hl h.1)
    go_enter Try.func33, Try.ntmps33
    go_wp2_with fail
    go_ret2
    exact ⟨by rw [R.out.1, R.out.2]; rfl, rfl⟩
#print axioms coloured_any
end Go.Proofs.Ytkjpbjbheocciaa
