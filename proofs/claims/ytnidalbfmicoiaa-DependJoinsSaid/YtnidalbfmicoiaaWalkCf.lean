/- Contracts of Chase and Lossless. -/
import Derived.Test.YtnidalbfmicoiaaWalkCe
namespace Go.Proofs.Ytnidalbfmicoiaa
open Go.RowKit

/-- some row is 0 all over -/
def ZeroRow (T : List (List Int)) (k m : Nat) : Prop := ∃ i, i < k ∧ ∀ a, a < m → cell T i a = 0
theorem agr_zero {x : List Int} {m F : Nat} (hF : F = 2 ^ m) (h : x.length = m) : agr x (List.replicate m 0) = F - 1 ↔ ∀ a, a < m → x.getD a 0 = 0 := by
  have hz : ∀ a, a < m → (List.replicate m (0 : Int)).getD a 0 = 0 := fun a ha => by simp [List.getD, ha]
  constructor
  · intro e a ha
    have : (agr x (List.replicate m 0)).testBit a = true := by rw [e, hF, Nat.testBit_two_pow_sub_one]; simp [ha]
    unfold agr at this
    rw [h, testBit_agrTo] at this
    simp only [ha, decide_true, Bool.true_and, decide_eq_true_eq] at this
    rw [this, hz a ha]
  · intro e
    apply Nat.eq_of_testBit_eq
    intro a
    rw [hF, Nat.testBit_two_pow_sub_one]
    unfold agr
    rw [h, testBit_agrTo]
    by_cases ha : a < m
    · simp only [ha, decide_true, Bool.true_and, decide_eq_true_eq]
      rw [e a ha, hz a ha]
    · simp [ha]
theorem chaseE_bad (n : Int) (l : List (Int × Int)) (ps : List Int) (v u : Value) (w : World) (hv : Deps w v l) (hu : Ints w u ps) (hbad : ¬ (ValidP n l [] ∧ PartsP n ps)) :
    Calls Try.prog 54 #[.int .i64 n, v, u] w fun e w' => e = .returned (.tuple #[.slice none 0 0, .int .i64 2]) ∧ Below w.heap.size w w' := by
  by_cases hval : ValidP n l []
  · have H := Lib.hid (valid_yes hv (ints_nil w) hval)
    have hp : ¬ PartsP n ps := fun h => hbad ⟨hval, h⟩
    have Hp := Lib.hid hp
    have Hu := Lib.hid hu
    clear hv hval hbad hp hu
    go_enter Try.func54, Try.ntmps54
    go_wp2_with fail
    refine H.out.mono ?_
    rintro e w1 ⟨rfl, hb1⟩
    have Hb1 := Lib.hid hb1
    clear hb1 H
    go_wp2_with fail
    refine (validParts_any n ps _ _ (Ints.keep Hu.out Hb1.out)).mono ?_
    rintro e w2 ⟨b, rfl, hb, hb2⟩
    have Hb2 := Lib.hid (Below.tr Hb1.out hb2)
    obtain rfl : b = false := by cases b with | true => exact absurd (hb.1 rfl) Hp.out | false => rfl
    clear hb hb2
    go_wp2_with fail
    go_ret2
    exact ⟨rfl, Hb2.out⟩
  · have H := Lib.hid (valid_no hv (ints_nil w) hval)
    clear hv hval hbad hu
    go_enter Try.func54, Try.ntmps54
    go_wp2_with fail
    refine H.out.mono ?_
    rintro e w1 ⟨rfl, hb1⟩
    go_wp2_with fail
    go_ret2
    exact ⟨rfl, hb1⟩
theorem chaseE_ok {m k : Nat} {l : List DepN} (hok : Okl m l) (q : List Nat) (hk : k = q.length) (hq : PartsN m q) (v u : Value) (w : World) (hv : Deps w v (castD l)) (hu : Ints w u (castN q)) :
    Calls Try.prog 54 #[.int .i64 m, v, u] w fun e w' => ∃ v' T, e = .returned (.tuple #[v', .int .i64 0]) ∧ Rows w' v' T ∧ ChaseEnd l (initTo q m k) k m T ∧ Below w.heap.size w w' := by
  have hgood : ValidP m (castD l) [] := validP_nat hok.h1 hok.h8 hok.h12 hok.hl (t := []) (by simp)
  have H := Lib.hid (valid_yes hv (ints_nil w) hgood)
  have Hp := Lib.hid (show PartsP m (castN q) from ⟨m, q, rfl, rfl, hok.h1, hok.h8, hq⟩)
  have Hv := Lib.hid hv
  have Hu := Lib.hid hu
  have Hk := Lib.hid hk
  have Hok := Lib.hid hok
  have Hq := Lib.hid hq
  clear hv hu hk hok hq hgood
  go_enter Try.func54, Try.ntmps54
  go_wp2_with fail
  refine H.out.mono ?_
  rintro e w1 ⟨rfl, hb1⟩
  have Hb1 := Lib.hid hb1
  clear hb1 H
  go_wp2_with fail
  refine (validParts_any m (castN q) _ _ (Ints.keep Hu.out Hb1.out)).mono ?_
  rintro e w2 ⟨b, rfl, hb, hb2⟩
  have Hb2 := Lib.hid (Below.tr Hb1.out hb2)
  obtain rfl : b = true := hb.2 Hp.out
  clear hb hb2
  go_wp2_with fail
  refine (chase_any Hok.out q Hk.out (by rw [Hk.out]; exact Hq.out.1) (by rw [Hk.out]; exact Hq.out.2.1) Hq.out.2.2.1 _ _ _ (Deps.keep Hv.out Hb2.out) (Ints.keep Hu.out Hb2.out)).mono ?_
  rintro e w3 ⟨v', T, rfl, hr, he, hb3⟩
  have Hr := Lib.hid hr
  have He := Lib.hid he
  have Hb3 := Lib.hid (Below.tr Hb2.out hb3)
  clear hr he hb3
  go_wp2_with fail
  go_ret2
  exact ⟨_, T, rfl, Hr.out, He.out, Hb3.out⟩

theorem lossE_bad (n : Int) (l : List (Int × Int)) (ps : List Int) (v u : Value) (w : World) (hv : Deps w v l) (hu : Ints w u ps) (hbad : ¬ (ValidP n l [] ∧ PartsP n ps)) :
    Calls Try.prog 56 #[.int .i64 n, v, u] w fun e w' => e = .returned (.tuple #[.bool false, .int .i64 2]) ∧ Below w.heap.size w w' := by
  by_cases hval : ValidP n l []
  · have H := Lib.hid (valid_yes hv (ints_nil w) hval)
    have hp : ¬ PartsP n ps := fun h => hbad ⟨hval, h⟩
    have Hp := Lib.hid hp
    have Hu := Lib.hid hu
    clear hv hval hbad hp hu
    go_enter Try.func56, Try.ntmps56
    go_wp2_with fail
    refine H.out.mono ?_
    rintro e w1 ⟨rfl, hb1⟩
    have Hb1 := Lib.hid hb1
    clear hb1 H
    go_wp2_with fail
    refine (validParts_any n ps _ _ (Ints.keep Hu.out Hb1.out)).mono ?_
    rintro e w2 ⟨b, rfl, hb, hb2⟩
    have Hb2 := Lib.hid (Below.tr Hb1.out hb2)
    obtain rfl : b = false := by cases b with | true => exact absurd (hb.1 rfl) Hp.out | false => rfl
    clear hb hb2
    go_wp2_with fail
    go_ret2
    exact ⟨rfl, Hb2.out⟩
  · have H := Lib.hid (valid_no hv (ints_nil w) hval)
    clear hv hval hbad hu
    go_enter Try.func56, Try.ntmps56
    go_wp2_with fail
    refine H.out.mono ?_
    rintro e w1 ⟨rfl, hb1⟩
    go_wp2_with fail
    go_ret2
    exact ⟨rfl, hb1⟩
set_option maxRecDepth 100000 in
theorem lossE_ok {m k : Nat} {l : List DepN} (hok : Okl m l) (q : List Nat) (hk : k = q.length) (hq : PartsN m q) (v u : Value) (w : World) (hv : Deps w v (castD l)) (hu : Ints w u (castN q)) :
    Calls Try.prog 56 #[.int .i64 m, v, u] w fun e w' => ∃ b T, e = .returned (.tuple #[.bool b, .int .i64 0]) ∧ ChaseEnd l (initTo q m k) k m T ∧ (b = true ↔ ZeroRow T k m) ∧ Below w.heap.size w w' := by
  have hgood : ValidP m (castD l) [] := validP_nat hok.h1 hok.h8 hok.h12 hok.hl (t := []) (by simp)
  have H := Lib.hid (valid_yes hv (ints_nil w) hgood)
  have Hp := Lib.hid (show PartsP m (castN q) from ⟨m, q, rfl, rfl, hok.h1, hok.h8, hq⟩)
  have Hv := Lib.hid hv
  have Hu := Lib.hid hu
  have Hk := Lib.hid hk
  have Hok := Lib.hid hok
  have Hq := Lib.hid hq
  have hm8 := hok.h8
  have hk8 : k ≤ 8 := by rw [hk]; exact hq.2.1
  obtain ⟨F, hF⟩ : ∃ F, F = 2 ^ m := ⟨_, rfl⟩
  have p256 := pow_small m hm8
  have hF1 : 1 ≤ F := by rw [hF]; exact Nat.two_pow_pos m
  rw [← hF] at p256
  have HF := Lib.hid hF
  obtain ⟨i0, hi, hz0, hz1, hz2⟩ := info_parts info3
  have Hi := Lib.hid hi
  have Hz0 := Lib.hid hz0
  have Hz1 := Lib.hid hz1
  have hby : i0.bytes * m ≤ 281474976710656 := by rw [hz2]; omega
  have Hby := Lib.hid hby
  obtain ⟨a, b, off, cap, hva, -⟩ := Deps.get hv
  subst hva
  clear hi hz0 hz1 hz2 hby hv hu hk hok hq hgood hF
  go_enter Try.func56, Try.ntmps56
  go_wp2_with fail
  refine H.out.mono ?_
  rintro e w1 ⟨rfl, hb1⟩
  have Hb1 := Lib.hid hb1
  clear hb1 H
  go_wp2_with fail
  refine (validParts_any m (castN q) _ _ (Ints.keep Hu.out Hb1.out)).mono ?_
  rintro e w2 ⟨b, rfl, hb, hb2⟩
  have Hb2 := Lib.hid (Below.tr Hb1.out hb2)
  obtain rfl : b = true := hb.2 Hp.out
  clear hb hb2
  go_wp2_with (refine wpList_make_full _ rfl (.tmp 21) (.tmp 21) 56 rfl w2.heap.size 3 i0 (.int .i64 0) 1 Try.underlying56 Hi.out Hz0.out Hz1.out .i64 .i64 _ _ m rfl rfl rfl rfl Hby.out (by unfold maxLen; omega) (Nat.le_refl _) ?_; intro w3 hown hg)
  have hz : OwnInts w2.heap.size w3 (.slice (some ⟨w2.heap.size, 0, none⟩) m m) (List.replicate m 0) := by
    have e : (madeCells (Value.int IntKind.i64 0).cells (m * 1)).toList = (List.replicate m (0 : Int)).map (Value.int .i64) := by rw [Nat.mul_one]; exact zeros_list m
    rw [e] at hown
    unfold OwnInts
    simpa using hown
  have hb3 : Below w2.heap.size w2 w3 := (Below.refl _ _).grown hg (Nat.le_refl _) (fun k hk => by cases hk)
  have Hz := Lib.hid hz.ints
  have Hb3 := Lib.hid (Below.tr Hb2.out hb3)
  clear hown hg hz hb3
  go_wp2_with fail
  refine (chase_any Hok.out q Hk.out (by rw [Hk.out]; exact Hq.out.1) hk8 Hq.out.2.2.1 _ _ _ (Deps.keep Hv.out Hb3.out) (Ints.keep Hu.out Hb3.out)).mono ?_
  rintro e w4 ⟨v', T, rfl, hr, he, hb4⟩
  have He := Lib.hid he
  have Hb4 := Lib.hid (Below.tr Hb3.out hb4)
  have Hz4 := Lib.hid (Ints.keep Hz.out hb4)
  have hTl : T.length = k := he.1.1.1
  have Hsh := Lib.hid he.1.1
  obtain ⟨ra, rb, roff, rcap, vs, rfl, hrle, hra, hvs, hrc, hri⟩ := Rows.get hr
  rw [hTl] at hrle hra hvs ⊢
  have hix := run_ix (P := Try.prog) (t := 34) (a := ra) (len := k) (cap := rcap) (b := rb) (off := roff) (s := 1) Try.underlying34 (by intro w; kernel_rfl) hra
  have Hrc := Lib.hid hrc
  have Hri := Lib.hid hri
  have Hvs := Lib.hid hvs
  have HTl := Lib.hid hTl
  clear hr he hb4 hra hrc hri hvs hTl
  go_wp2_with fail
  go_loopw [28] (fun i wr => ∃ j : Nat, i = .int .i64 j ∧ j ≤ k ∧ Below w4.heap.size w4 wr ∧ ∀ i, i < j → ¬ ∀ a, a < m → cell T i a = 0) (fun i _ => k - (intOf i).toNat)
  case atStart => exact ⟨0, rfl, Nat.zero_le _, Below.refl _ _, fun i hi => by omega⟩
  case round =>
    obtain ⟨j, rfl, hj, hb, hin⟩ := hrel
    have Hb := Lib.hid hb
    have Hin := Lib.hid hin
    clear hb hin
    by_cases hlt : j < k
    · have hj2 : j < vs.length := by have := Hvs.out; omega
      have hj3 : j < T.length := by have := HTl.out; omega
      have hcell := Below.keep Hb.out (Hrc.out j hj2)
      have HI := Lib.hid (Ints.keep (Hri.out j hj3 hj2) Hb.out)
      have hrow : row T j = T[j] := by unfold row; simp [List.getD, hj3]
      have hlen : T[j].length = m := by rw [← hrow]; exact Hsh.out.2 j hlt
      have Hzero := Lib.hid (agr_zero HF.out hlen)
      have Hcell := Lib.hid (show ∀ a, T[j].getD a 0 = cell T j a from fun a => by unfold cell; rw [hrow])
      have Hlen := Lib.hid hlen
      clear hrow hlen
      generalize vs[j] = vj at *
      go_wp2_with fail
      refine (agreement_any T[j] (List.replicate m 0) (by rw [Hlen.out]; exact hm8) (by rw [Hlen.out]; simp) _ _ _ HI.out (Ints.keep Hz4.out Hb.out)).mono ?_
      rintro e w5 ⟨rfl, hb5⟩
      have Hb5 := Lib.hid (Below.tr Hb.out hb5)
      clear hb5
      go_wp2_with fail
      refine (full_F HF.out hm8 _).mono ?_
      rintro e w6 ⟨rfl, rfl⟩
      by_cases hz : agr T[j] (List.replicate m 0) = F - 1
      · have t1 : (((agr T[j] (List.replicate m 0) : Nat) : Int) == ((F - 1 : Nat) : Int)) = true := by rw [hz]; simp
        have R := Lib.hid (show ZeroRow T k m from ⟨j, hlt, fun a ha => by rw [← Hcell.out a]; exact Hzero.out.1 hz a ha⟩)
        clear hz
        go_wp2_with fail
        go_ret2
        exact ⟨true, T, rfl, He.out, ⟨fun _ => R.out, fun _ => rfl⟩, Below.tr Hb4.out Hb5.out⟩
      · have t1 : (((agr T[j] (List.replicate m 0) : Nat) : Int) == ((F - 1 : Nat) : Int)) = false := by simp; omega
        have R := Lib.hid (show ∀ i, i < j + 1 → ¬ ∀ a, a < m → cell T i a = 0 from fun i hi => by
          rcases Nat.lt_succ_iff_lt_or_eq.1 hi with hi | rfl
          · exact Hin.out i hi
          · intro h; exact hz (Hzero.out.2 fun a ha => by rw [Hcell.out a]; exact h a ha))
        clear hz
        go_wp2_with fail
        go_roundw
        case rel => exact ⟨j + 1, by go_num, by omega, Hb5.out, R.out⟩
        case measure => simp [intOf]; omega
    · obtain rfl : j = k := by omega
      have R := Lib.hid (show ¬ ZeroRow T j m from fun ⟨i, hi, h⟩ => Hin.out i hi h)
      go_wp2_with fail
      go_ret2
      exact ⟨false, T, rfl, He.out, ⟨fun h => (by cases h), fun h => absurd h R.out⟩, Below.tr Hb4.out Hb.out⟩
end Go.Proofs.Ytnidalbfmicoiaa
