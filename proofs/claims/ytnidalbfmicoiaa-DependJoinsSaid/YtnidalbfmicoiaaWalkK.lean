/- Contracts of the reference's agree and Holds. -/
import Derived.Test.YtnidalbfmicoiaaWalkJ
import Derived.Test.YtnidalbfmicoiaaMathArm
namespace Go.Proofs.Ytnidalbfmicoiaa
open Go.RowKit

theorem testBit_lt' {m k a : Nat} (hk : k < 2 ^ m) (h : k.testBit a = true) : a < m := Decidable.byContradiction fun hn => by
  have := Nat.testBit_lt_two_pow (x := k) (i := a) (Nat.lt_of_lt_of_le hk (Nat.pow_le_pow_right (by decide) (by omega)))
  rw [this] at h; cases h
/-- x and y are equal in the first k attributes of s -/
def AgrOn (x y : List Int) (s k : Nat) : Prop := ∀ a, a < k → s.testBit a = true → x.getD a 0 = y.getD a 0
theorem agrOn_iff {x y : List Int} {s : Nat} (hs : s < 2 ^ x.length) : AgrOn x y s x.length ↔ Sub s (agr x y) := by
  unfold agr
  constructor
  · intro h
    refine sub_iff.2 fun i hi => ?_
    have hl := testBit_lt' hs hi
    rw [testBit_agrTo, decide_eq_true hl, decide_eq_true (h i hl hi)]; rfl
  · intro h a ha hb
    have := sub_iff.1 h a hb
    rw [testBit_agrTo] at this
    simp at this
    exact this.2

set_option maxRecDepth 100000 in
theorem agreeR_any (x y : List Int) (h8 : x.length ≤ 8) (hxy : y.length = x.length) (s : Nat) (hs : s < 2 ^ x.length) (u v : Value) (w : World) (hu : Ints w u x) (hv : Ints w v y) :
    Calls Try.prog 86 #[u, v, .int .i64 s] w fun e w' => e = .returned (.bool (decide (Sub s (agr x y)))) ∧ Below w.heap.size w w' := by
  obtain ⟨a, b, off, cap, rfl, hle, ha, hc⟩ := Ints.get hu
  obtain ⟨a', b', off', cap', rfl, hle', ha', hc'⟩ := Ints.get hv
  rw [hxy] at ha'
  have hix := run_ix (P := Try.prog) (t := 56) (a := a) (len := x.length) (cap := cap) (b := b) (off := off) (s := 1) Try.underlying56 (by intro w; kernel_rfl) ha
  have hix' := run_ix (P := Try.prog) (t := 56) (a := a') (len := x.length) (cap := cap') (b := b') (off := off') (s := 1) Try.underlying56 (by intro w; kernel_rfl) ha'
  simp only [Nat.mul_one] at hix hix'
  rw [hxy]
  have Hxy := Lib.hid hxy
  have Hc := Lib.hid hc
  have Hc' := Lib.hid hc'
  have Hs := Lib.hid hs
  have hs' : s < 256 := by have := pow_small x.length h8; omega
  clear ha ha' hu hv hxy hc hc' hs hle'
  go_enter Try.func86, Try.ntmps86
  go_wp2
  go_loopw [10] (fun i wr => ∃ k : Nat, i = .int .i64 k ∧ k ≤ x.length ∧ Below w.heap.size w wr ∧ AgrOn x y s k) (fun i _ => x.length - (intOf i).toNat)
  case atStart => exact ⟨0, rfl, Nat.zero_le _, Below.refl _ _, fun i h => by omega⟩
  case round =>
    obtain ⟨k, rfl, hk, hb, hin⟩ := hrel
    have Hb := Lib.hid hb
    have Hin := Lib.hid hin
    clear hb hin
    by_cases hlt : k < x.length
    · have hlt' : k < y.length := by rw [Hxy.out]; exact hlt
      have hc1 := Below.keep Hb.out (Hc.out k hlt)
      have hc2 := Below.keep Hb.out (Hc'.out k hlt')
      have t1 := shr_bit s k hs'
      have hx : x.getD k 0 = x[k] := by simp [List.getD, hlt]
      have hy : y.getD k 0 = y[k] := by simp [List.getD, hlt']
      cases hbit : s.testBit k with
      | true =>
        rw [hbit] at t1
        simp only [if_true] at t1
        by_cases he : x[k] = y[k]
        · have R := Lib.hid (show AgrOn x y s (k + 1) from fun a ha hb => by
            by_cases e : a = k
            · subst e; rw [hx, hy]; exact he
            · exact Hin.out a (by omega) hb)
          clear hx hy hbit
          go_wp2_with fail
          go_quiet (fail)
          go_wp2_with fail
          go_roundw
          case rel => exact ⟨k + 1, by go_num, by omega, bdrewN Hb.out _, R.out⟩
          case measure => simp [intOf]; omega
        · have R := Lib.hid (show decide (Sub s (agr x y)) = false from decide_eq_false fun h => he (by
            have := (agrOn_iff Hs.out).2 h k hlt hbit
            rwa [hx, hy] at this))
          have t2 : (x[k] != y[k]) = true := by simpa using he
          clear hx hy hbit
          go_wp2_with fail
          go_quiet (fail)
          go_wp2_with fail
          go_ret
          exact ⟨congrArg (fun b => Ending.returned (.bool b)) R.out.symm, bdrewN Hb.out _⟩
      | false =>
        rw [hbit] at t1
        simp only [Bool.false_eq_true, if_false] at t1
        have R := Lib.hid (show AgrOn x y s (k + 1) from fun a ha hb => by
          by_cases e : a = k
          · subst e; rw [hbit] at hb; cases hb
          · exact Hin.out a (by omega) hb)
        clear hx hy hbit
        go_wp2_with fail
        go_quiet (fail)
        go_wp2_with fail
        go_roundw
        case rel => exact ⟨k + 1, by go_num, by omega, bdrewN Hb.out _, R.out⟩
        case measure => simp [intOf]; omega
    · obtain rfl : k = x.length := by omega
      have R := Lib.hid (show decide (Sub s (agr x y)) = true from decide_eq_true ((agrOn_iff Hs.out).1 Hin.out))
      go_wp2
      go_ret
      exact ⟨congrArg (fun b => Ending.returned (.bool b)) R.out.symm, Hb.out⟩

/-- all pairs of rows, the same row twice and both orders with them -/
theorem holdsR_all {R : List (List Int)} {n s t : Nat} (hn : ∀ r ∈ R, r.length = n) (ht : t < 2 ^ n) : HoldsR R s t ↔ ∀ i (hi : i < R.length) j (hj : j < R.length), Sub s (agr R[i] R[j]) → Sub t (agr R[i] R[j]) := by
  have hrow : ∀ i (hi : i < R.length), row R i = R[i] := fun i hi => by simp [row, List.getD, hi]
  constructor
  · intro h i hi j hj hs
    rcases Nat.lt_trichotomy i j with e | e | e
    · have := h _ (agrs_mem hj e)
      rw [hrow i hi, hrow j hj] at this
      exact this hs
    · subst e
      refine sub_iff.2 fun q hq => ?_
      unfold agr
      have := testBit_lt' ht hq
      rw [testBit_agrTo, hn _ (List.getElem_mem hi), decide_eq_true this]
      simp
    · have := h _ (agrs_mem hi e)
      rw [hrow i hi, hrow j hj] at this
      have hc : agr R[j] R[i] = agr R[i] R[j] := by
        apply Nat.eq_of_testBit_eq
        intro q
        unfold agr
        rw [testBit_agrTo, testBit_agrTo, hn _ (List.getElem_mem hi), hn _ (List.getElem_mem hj)]
        congr 1
        exact decide_eq_decide.2 ⟨fun h => h.symm, fun h => h.symm⟩
      rw [hc] at this
      exact this hs
  · intro h e he hs
    obtain ⟨i, j, hi, hj, rfl⟩ := mem_agrs he
    rw [hrow i hi, hrow j (by omega)] at hs ⊢
    exact h j (by omega) i hi hs

set_option maxRecDepth 100000 in
theorem holdsRef_any {n s t : Nat} (h8 : n ≤ 8) (hs : s < 2 ^ n) (ht : t < 2 ^ n) (R : List (List Int)) (hn : ∀ r ∈ R, r.length = n) (v : Value) (w : World) (hv : Rows w v R) :
    Calls Try.prog 51 #[v, .agg #[.int .i64 s, .int .i64 t]] w fun e w' => e = .returned (.bool (decide (HoldsR R s t))) ∧ Below w.heap.size w w' := by
  obtain ⟨a, b, off, cap, vs, rfl, hle, ha, hvs, hc, hr⟩ := Rows.get hv
  have hix := run_ix (P := Try.prog) (t := 34) (a := a) (len := R.length) (cap := cap) (b := b) (off := off) (s := 1) Try.underlying34 (by intro w; kernel_rfl) ha
  simp only [Nat.mul_one] at hix
  have hb0 := below_alloc w (.cells #[.int .i64 (s : Int), .int .i64 (t : Int)] 24)
  have c0 : (w.alloc (.cells #[.int .i64 (s : Int), .int .i64 (t : Int)] 24)).cell? ⟨w.heap.size, 0, none⟩ = some (.int .i64 (s : Int)) := cell_new _ _ _ 0
  have c1 : (w.alloc (.cells #[.int .i64 (s : Int), .int .i64 (t : Int)] 24)).cell? ⟨w.heap.size, 1, none⟩ = some (.int .i64 (t : Int)) := cell_new _ _ _ 1
  have Hc := Lib.hid hc
  have Hr := Lib.hid hr
  have Hvs := Lib.hid hvs
  have Hn := Lib.hid hn
  have Hs := Lib.hid hs
  have Ht := Lib.hid ht
  have Hall := Lib.hid (holdsR_all (s := s) hn ht)
  clear ha hv hc hr hvs hn hs ht
  go_enter Try.func51, Try.ntmps51
  go_wp2_with fail
  generalize w.alloc (.cells #[.int .i64 (s : Int), .int .i64 (t : Int)] 24) = w0 at *
  have Hb0 := Lib.hid hb0
  have C0 := Lib.hid c0
  have C1 := Lib.hid c1
  clear hb0 c0 c1
  go_loopw [11] (fun i wr => ∃ k : Nat, i = .int .i64 k ∧ k ≤ R.length ∧ Below w0.heap.size w0 wr ∧ (∀ i (hi : i < R.length) j (hj : j < R.length), i < k → Sub s (agr R[i] R[j]) → Sub t (agr R[i] R[j]))) (fun i _ => R.length - (intOf i).toNat)
  case atStart => exact ⟨0, rfl, Nat.zero_le _, Below.refl _ _, fun i _ j _ h => by omega⟩
  case round =>
    obtain ⟨k, rfl, hk, hb, hin⟩ := hrel
    have Hb := Lib.hid hb
    have Hin := Lib.hid hin
    clear hb hin
    by_cases hlt : k < R.length
    · have g1 : k < vs.length := by have := Hvs.out; omega
      have hc1 := Below.keep Hb.out (Below.keep Hb0.out (Hc.out k g1))
      go_wp2_with fail
      obtain ⟨wo, rfl⟩ : ∃ wo : World, wo = wr := ⟨_, rfl⟩
      go_loopw [17] (fun i wr => ∃ j : Nat, i = .int .i64 j ∧ j ≤ R.length ∧ Below w0.heap.size w0 wr ∧ (∀ q (hq : q < R.length), q < j → Sub s (agr R[k] R[q]) → Sub t (agr R[k] R[q]))) (fun i _ => R.length - (intOf i).toNat)
      case atStart => exact ⟨0, rfl, Nat.zero_le _, Hb.out, fun q _ h => by omega⟩
      case round =>
        obtain ⟨j, rfl, hj, hb', hin'⟩ := hrel
        have Hb' := Lib.hid hb'
        have Hin' := Lib.hid hin'
        clear hb' hin'
        by_cases hlj : j < R.length
        · have g2 : j < vs.length := by have := Hvs.out; omega
          have hc2 := Below.keep Hb'.out (Below.keep Hb0.out (Hc.out j g2))
          have c0 := Below.keep Hb'.out C0.out
          have c1 := Below.keep Hb'.out C1.out
          have hk8 := Hn.out _ (List.getElem_mem hlt)
          have hj8 := Hn.out _ (List.getElem_mem hlj)
          have H1 := Lib.hid (agreeR_any R[k] R[j] (by omega) (by omega) s (by rw [hk8]; exact Hs.out) _ _ _ ((Hr.out k hlt g1).keep (Below.tr Hb0.out Hb'.out)) ((Hr.out j hlj g2).keep (Below.tr Hb0.out Hb'.out)))
          have H2 := Lib.hid fun w2 (hw2 : Below w0.heap.size w0 w2) =>
            agreeR_any R[k] R[j] (by omega) (by omega) t (by rw [hk8]; exact Ht.out) _ _ _ ((Hr.out k hlt g1).keep (Below.tr Hb0.out hw2)) ((Hr.out j hlj g2).keep (Below.tr Hb0.out hw2))
          clear hk8 hj8
          go_wp2_with fail
          refine H1.out.mono ?_
          rintro e w2 ⟨rfl, hb2⟩
          have Hb2 := Lib.hid (Below.tr Hb'.out hb2)
          replace c0 := Below.keep hb2 c0
          replace c1 := Below.keep hb2 c1
          clear hb2
          by_cases hS : Sub s (agr R[k] R[j])
          · rw [decide_eq_true hS]
            go_wp2_with fail
            refine (H2.out _ Hb2.out).mono ?_
            rintro e w3 ⟨rfl, hb3⟩
            have Hb3 := Lib.hid (Below.tr Hb2.out hb3)
            clear hb3 c0 c1
            by_cases hT : Sub t (agr R[k] R[j])
            · rw [decide_eq_true hT]
              have HR := Lib.hid (show ∀ q (hq : q < R.length), q < j + 1 → Sub s (agr R[k] R[q]) → Sub t (agr R[k] R[q]) from fun q hq hqj hs' => by
                by_cases e : q = j
                · subst e; exact hT
                · exact Hin'.out q hq (by omega) hs')
              clear hS hT
              go_wp2_with fail
              go_roundw
              case rel => exact ⟨j + 1, by go_num, by omega, Hb3.out, HR.out⟩
              case measure => simp [intOf]; omega
            · rw [decide_eq_false hT]
              have HR := Lib.hid (show decide (HoldsR R s t) = false from decide_eq_false fun h => hT (Hall.out.1 h k hlt j hlj hS))
              clear hS hT
              go_wp2_with fail
              go_ret
              exact ⟨congrArg (fun b => Ending.returned (.bool b)) HR.out.symm, Below.tr Hb0.out Hb3.out⟩
          · rw [decide_eq_false hS]
            have HR := Lib.hid (show ∀ q (hq : q < R.length), q < j + 1 → Sub s (agr R[k] R[q]) → Sub t (agr R[k] R[q]) from fun q hq hqj hs' => by
              by_cases e : q = j
              · subst e; exact absurd hs' hS
              · exact Hin'.out q hq (by omega) hs')
            clear hS c0 c1
            go_wp2_with fail
            go_roundw
            case rel => exact ⟨j + 1, by go_num, by omega, Hb2.out, HR.out⟩
            case measure => simp [intOf]; omega
        · obtain rfl : j = R.length := by omega
          have HR := Lib.hid (show ∀ i (hi : i < R.length) j (hj : j < R.length), i < k + 1 → Sub s (agr R[i] R[j]) → Sub t (agr R[i] R[j]) from fun i hi j hj hik hs' => by
            by_cases e : i = k
            · subst e; exact Hin'.out j hj hj hs'
            · exact Hin.out i hi j hj (by omega) hs')
          go_wp2_with fail
          go_roundw
          case rel => exact ⟨k + 1, by go_num, by omega, Hb'.out, HR.out⟩
          case measure => simp [intOf]; omega
    · obtain rfl : k = R.length := by omega
      have HR := Lib.hid (show decide (HoldsR R s t) = true from decide_eq_true (Hall.out.2 fun i hi j hj => Hin.out i hi j hj hi))
      go_wp2_with fail
      go_ret
      exact ⟨congrArg (fun b => Ending.returned (.bool b)) HR.out.symm, Below.tr Hb0.out Hb.out⟩
end Go.Proofs.Ytnidalbfmicoiaa
