/- ChordalPerfect: for every input the law returns true. -/
import Derived.Test.YtkjpbjbheocciaaVc
namespace Go.Proofs.Ytkjpbjbheocciaa
open Go.RowKit

set_option maxRecDepth 100000 in
set_option maxHeartbeats 2000000 in
theorem perfect_bad {l : List Int} (h : ¬ GrI l) (l2 : List Int) (v u : Value) (w : World) (hv : Ints w v l) (hu : Ints w u l2) :
    Calls Try.prog 11 #[v, u] w fun e w' => e = .returned (.bool true) ∧ Below w.heap.size w w' := by
  have V0 := Lib.hid hv
  have U0 := Lib.hid hu
  have H14 := Lib.hid (show ¬ GrI (l.take 14) from fun hh => h (grI_take.1 hh))
  clear h
  clear hv hu
  go_enter Try.func11, Try.ntmps11
  go_wp2_with fail
  refine (of_any _ _ _ V0.out).mono ?_
  rintro e w1 ⟨v1, rfl, hd1, hb1⟩
  have Hd1 := Lib.hid hd1
  clear hd1
  have V_1 := Lib.hid (Ints.keep V0.out hb1)
  clear V0
  have U_1 := Lib.hid (Ints.keep U0.out hb1)
  clear U0
  have Hb1 := Lib.hid hb1
  clear hb1
  go_wp2_with fail
  refine (clique_bad H14.out _ _ (OwnInts.ints Hd1.out)).mono ?_
  rintro e w' ⟨rfl, rfl⟩
  go_wp2_with fail
  refine (of_any _ _ _ V_1.out).mono ?_
  rintro e w2 ⟨v2, rfl, hd2, hb2⟩
  have Hd2 := Lib.hid hd2
  clear hd2
  have V_2 := Lib.hid (Ints.keep V_1.out hb2)
  clear V_1
  have U_2 := Lib.hid (Ints.keep U_1.out hb2)
  clear U_1
  have Hb2 := Lib.hid (Below.tr Hb1.out hb2)
  clear hb2 Hb1
  go_wp2_with fail
  refine (independent_bad H14.out _ _ (OwnInts.ints Hd2.out)).mono ?_
  rintro e w' ⟨rfl, rfl⟩
  go_wp2_with fail
  refine (of_any _ _ _ V_2.out).mono ?_
  rintro e w3 ⟨v3, rfl, hd3, hb3⟩
  have Hd3 := Lib.hid hd3
  clear hd3
  have V_3 := Lib.hid (Ints.keep V_2.out hb3)
  clear V_2
  have U_3 := Lib.hid (Ints.keep U_2.out hb3)
  clear U_2
  have Hb3 := Lib.hid (Below.tr Hb2.out hb3)
  clear hb3 Hb2
  go_wp2_with fail
  refine (coloursE_bad H14.out _ _ (OwnInts.ints Hd3.out)).mono ?_
  rintro e w' ⟨rfl, rfl⟩
  go_wp2_with fail
  refine (of_any _ _ _ V_3.out).mono ?_
  rintro e w4 ⟨v4, rfl, hd4, hb4⟩
  have Hd4 := Lib.hid hd4
  clear hd4
  have V_4 := Lib.hid (Ints.keep V_3.out hb4)
  clear V_3
  have U_4 := Lib.hid (Ints.keep U_3.out hb4)
  clear U_3
  have Hb4 := Lib.hid (Below.tr Hb3.out hb4)
  clear hb4 Hb3
  go_wp2_with fail
  refine (coverE_bad H14.out _ _ (OwnInts.ints Hd4.out)).mono ?_
  rintro e w' ⟨rfl, rfl⟩
  go_wp2_with fail
  refine (of_any _ _ _ V_4.out).mono ?_
  rintro e w5 ⟨v5, rfl, hd5, hb5⟩
  have Hd5 := Lib.hid hd5
  clear hd5
  have V_5 := Lib.hid (Ints.keep V_4.out hb5)
  clear V_4
  have U_5 := Lib.hid (Ints.keep U_4.out hb5)
  clear U_4
  have Hb5 := Lib.hid (Below.tr Hb4.out hb5)
  clear hb5 Hb4
  go_wp2_with fail
  refine (few_any l2 _ _ U_5.out).mono ?_
  rintro e w6 ⟨v6, rfl, hd6, hb6⟩
  have Hd6 := Lib.hid hd6
  clear hd6
  have V_6 := Lib.hid (Ints.keep V_5.out hb6)
  clear V_5
  have U_6 := Lib.hid (Ints.keep U_5.out hb6)
  clear U_5
  have D_6 := Lib.hid (OwnInts.keep Hd5.out hb6)
  clear Hd5
  have Hb6 := Lib.hid (Below.tr Hb5.out hb6)
  clear hb6 Hb5
  go_wp2_with fail
  refine (checkColours_bad H14.out _ _ _ (OwnInts.ints D_6.out)).mono ?_
  rintro e w' ⟨rfl, rfl⟩
  go_wp2_with fail
  refine (awake_any _).mono ?_
  rintro e w7 ⟨rfl, hb7⟩
  have V_7 := Lib.hid (Ints.keep V_6.out hb7)
  clear V_6
  have U_7 := Lib.hid (Ints.keep U_6.out hb7)
  clear U_6
  have D_7 := Lib.hid (OwnInts.keep D_6.out hb7)
  clear D_6
  have Hb7 := Lib.hid (Below.tr Hb6.out hb7)
  clear hb7 Hb6
  go_wp2_with fail
  go_ret
  exact ⟨rfl, Hb7.out⟩
set_option maxRecDepth 100000 in
set_option maxHeartbeats 2000000 in
theorem perfect_no {g : List Nat} (hg : Gr g) (hc : ¬ Chordal g) (l2 : List Int) (v u : Value) (w : World) (hv : Ints w v (castN g)) (hu : Ints w u l2) :
    Calls Try.prog 11 #[v, u] w fun e w' => e = .returned (.bool true) ∧ Below w.heap.size w w' := by
  have V0 := Lib.hid hv
  have U0 := Lib.hid hu
  have HG := Lib.hid hg
  have H14 := Lib.hid (grI_take_eq (grI_of hg))
  have HT := Lib.hid (isCol_take hg l2)
  have hB4 := lt63 (om_lt g) hg.le
  have hA4 := lt63 (bestTo_lt (isI g) (2 ^ g.length) (Nat.two_pow_pos _)) hg.le
  have Hge := Lib.hid (fun h : decide (IsCol g l2) = true => (show pop (bestTo (isC g) (2 ^ g.length)) ≤ colN g l2 from col_ge hg (of_decide_eq_true h)))
  have Hom := Lib.hid (show pop (bestTo (isC g) (2 ^ g.length)) = om g from rfl)
  have Hal := Lib.hid (show pop (bestTo (isI g) (2 ^ g.length)) = al g from rfl)
  have Hcl := Lib.hid (fun v w hv => clique_any hg v w hv)
  have Hin := Lib.hid (fun v w hv => independent_any hg v w hv)
  have Hcc := Lib.hid (fun v u w hv hu => checkColours_any hg (l2.take 14) v u w hv hu)
  rw [HT.out.1, HT.out.2] at Hcc
  generalize bestTo (isC g) (2 ^ g.length) = B at *
  generalize bestTo (isI g) (2 ^ g.length) = A at *
  generalize colN g l2 = N at *
  generalize decide (IsCol g l2) = b at *
  have HcB := Lib.hid (fun w => count_any B hB4 w)
  have HcA := Lib.hid (fun w => count_any A hA4 w)
  clear HT hB4 hA4
  have HC := Lib.hid hc
  clear hc hg
  clear hv hu
  cases hb : b with
  | false =>
    subst hb
    clear Hge
    clear Hom Hal
    go_enter Try.func11, Try.ntmps11
    go_wp2_with fail
    refine (of_any _ _ _ V0.out).mono ?_
    rintro e w1 ⟨v1, rfl, hd1, hb1⟩
    rw [H14.out] at hd1
    have Hd1 := Lib.hid hd1
    clear hd1
    have V_1 := Lib.hid (Ints.keep V0.out hb1)
    clear V0
    have U_1 := Lib.hid (Ints.keep U0.out hb1)
    clear U0
    have Hb1 := Lib.hid hb1
    clear hb1
    go_wp2_with fail
    refine (Hcl.out _ _ (OwnInts.ints Hd1.out)).mono ?_
    rintro e w' ⟨rfl, rfl⟩
    go_wp2_with fail
    refine (of_any _ _ _ V_1.out).mono ?_
    rintro e w2 ⟨v2, rfl, hd2, hb2⟩
    rw [H14.out] at hd2
    have Hd2 := Lib.hid hd2
    clear hd2
    have V_2 := Lib.hid (Ints.keep V_1.out hb2)
    clear V_1
    have U_2 := Lib.hid (Ints.keep U_1.out hb2)
    clear U_1
    have Hb2 := Lib.hid (Below.tr Hb1.out hb2)
    clear hb2 Hb1
    go_wp2_with fail
    refine (Hin.out _ _ (OwnInts.ints Hd2.out)).mono ?_
    rintro e w' ⟨rfl, rfl⟩
    go_wp2_with fail
    refine (of_any _ _ _ V_2.out).mono ?_
    rintro e w3 ⟨v3, rfl, hd3, hb3⟩
    rw [H14.out] at hd3
    have Hd3 := Lib.hid hd3
    clear hd3
    have V_3 := Lib.hid (Ints.keep V_2.out hb3)
    clear V_2
    have U_3 := Lib.hid (Ints.keep U_2.out hb3)
    clear U_2
    have Hb3 := Lib.hid (Below.tr Hb2.out hb3)
    clear hb3 Hb2
    go_wp2_with fail
    refine (coloursE_no HG.out HC.out _ _ (OwnInts.ints Hd3.out)).mono ?_
    rintro e w4 ⟨rfl, hb4⟩
    have V_4 := Lib.hid (Ints.keep V_3.out hb4)
    clear V_3
    have U_4 := Lib.hid (Ints.keep U_3.out hb4)
    clear U_3
    have Hb4 := Lib.hid (Below.tr Hb3.out hb4)
    clear hb4 Hb3
    go_wp2_with fail
    refine (of_any _ _ _ V_4.out).mono ?_
    rintro e w5 ⟨v5, rfl, hd5, hb5⟩
    rw [H14.out] at hd5
    have Hd5 := Lib.hid hd5
    clear hd5
    have V_5 := Lib.hid (Ints.keep V_4.out hb5)
    clear V_4
    have U_5 := Lib.hid (Ints.keep U_4.out hb5)
    clear U_4
    have Hb5 := Lib.hid (Below.tr Hb4.out hb5)
    clear hb5 Hb4
    go_wp2_with fail
    refine (coverE_no HG.out HC.out _ _ (OwnInts.ints Hd5.out)).mono ?_
    rintro e w6 ⟨rfl, hb6⟩
    have V_6 := Lib.hid (Ints.keep V_5.out hb6)
    clear V_5
    have U_6 := Lib.hid (Ints.keep U_5.out hb6)
    clear U_5
    have Hb6 := Lib.hid (Below.tr Hb5.out hb6)
    clear hb6 Hb5
    go_wp2_with fail
    refine (of_any _ _ _ V_6.out).mono ?_
    rintro e w7 ⟨v7, rfl, hd7, hb7⟩
    rw [H14.out] at hd7
    have Hd7 := Lib.hid hd7
    clear hd7
    have V_7 := Lib.hid (Ints.keep V_6.out hb7)
    clear V_6
    have U_7 := Lib.hid (Ints.keep U_6.out hb7)
    clear U_6
    have Hb7 := Lib.hid (Below.tr Hb6.out hb7)
    clear hb7 Hb6
    go_wp2_with fail
    refine (few_any l2 _ _ U_7.out).mono ?_
    rintro e w8 ⟨v8, rfl, hd8, hb8⟩
    have Hd8 := Lib.hid hd8
    clear hd8
    have V_8 := Lib.hid (Ints.keep V_7.out hb8)
    clear V_7
    have U_8 := Lib.hid (Ints.keep U_7.out hb8)
    clear U_7
    have D_8 := Lib.hid (OwnInts.keep Hd7.out hb8)
    clear Hd7
    have Hb8 := Lib.hid (Below.tr Hb7.out hb8)
    clear hb8 Hb7
    go_wp2_with fail
    refine (Hcc.out _ _ _ (OwnInts.ints D_8.out) (OwnInts.ints Hd8.out)).mono ?_
    rintro e w' ⟨rfl, rfl⟩
    go_wp2_with fail
    refine (awake_any _).mono ?_
    rintro e w9 ⟨rfl, hb9⟩
    have V_9 := Lib.hid (Ints.keep V_8.out hb9)
    clear V_8
    have Hb9 := Lib.hid (Below.tr Hb8.out hb9)
    clear hb9 Hb8
    go_wp2_with fail
    go_ret
    exact ⟨rfl, Hb9.out⟩
  | true =>
    have hlt := Hge.out hb
    have hq : ¬ ((N : Int) < ((pop B : Nat) : Int)) := by omega
    have hq2 : decide (N < pop B) = false := decide_eq_false (by omega)
    clear hlt
    subst hb
    clear Hge
    clear Hom Hal
    go_enter Try.func11, Try.ntmps11
    go_wp2_with fail
    refine (of_any _ _ _ V0.out).mono ?_
    rintro e w1 ⟨v1, rfl, hd1, hb1⟩
    rw [H14.out] at hd1
    have Hd1 := Lib.hid hd1
    clear hd1
    have V_1 := Lib.hid (Ints.keep V0.out hb1)
    clear V0
    have U_1 := Lib.hid (Ints.keep U0.out hb1)
    clear U0
    have Hb1 := Lib.hid hb1
    clear hb1
    go_wp2_with fail
    refine (Hcl.out _ _ (OwnInts.ints Hd1.out)).mono ?_
    rintro e w' ⟨rfl, rfl⟩
    go_wp2_with fail
    refine (of_any _ _ _ V_1.out).mono ?_
    rintro e w2 ⟨v2, rfl, hd2, hb2⟩
    rw [H14.out] at hd2
    have Hd2 := Lib.hid hd2
    clear hd2
    have V_2 := Lib.hid (Ints.keep V_1.out hb2)
    clear V_1
    have U_2 := Lib.hid (Ints.keep U_1.out hb2)
    clear U_1
    have Hb2 := Lib.hid (Below.tr Hb1.out hb2)
    clear hb2 Hb1
    go_wp2_with fail
    refine (Hin.out _ _ (OwnInts.ints Hd2.out)).mono ?_
    rintro e w' ⟨rfl, rfl⟩
    go_wp2_with fail
    refine (of_any _ _ _ V_2.out).mono ?_
    rintro e w3 ⟨v3, rfl, hd3, hb3⟩
    rw [H14.out] at hd3
    have Hd3 := Lib.hid hd3
    clear hd3
    have V_3 := Lib.hid (Ints.keep V_2.out hb3)
    clear V_2
    have U_3 := Lib.hid (Ints.keep U_2.out hb3)
    clear U_2
    have Hb3 := Lib.hid (Below.tr Hb2.out hb3)
    clear hb3 Hb2
    go_wp2_with fail
    refine (coloursE_no HG.out HC.out _ _ (OwnInts.ints Hd3.out)).mono ?_
    rintro e w4 ⟨rfl, hb4⟩
    have V_4 := Lib.hid (Ints.keep V_3.out hb4)
    clear V_3
    have U_4 := Lib.hid (Ints.keep U_3.out hb4)
    clear U_3
    have Hb4 := Lib.hid (Below.tr Hb3.out hb4)
    clear hb4 Hb3
    go_wp2_with fail
    refine (of_any _ _ _ V_4.out).mono ?_
    rintro e w5 ⟨v5, rfl, hd5, hb5⟩
    rw [H14.out] at hd5
    have Hd5 := Lib.hid hd5
    clear hd5
    have V_5 := Lib.hid (Ints.keep V_4.out hb5)
    clear V_4
    have U_5 := Lib.hid (Ints.keep U_4.out hb5)
    clear U_4
    have Hb5 := Lib.hid (Below.tr Hb4.out hb5)
    clear hb5 Hb4
    go_wp2_with fail
    refine (coverE_no HG.out HC.out _ _ (OwnInts.ints Hd5.out)).mono ?_
    rintro e w6 ⟨rfl, hb6⟩
    have V_6 := Lib.hid (Ints.keep V_5.out hb6)
    clear V_5
    have U_6 := Lib.hid (Ints.keep U_5.out hb6)
    clear U_5
    have Hb6 := Lib.hid (Below.tr Hb5.out hb6)
    clear hb6 Hb5
    go_wp2_with fail
    refine (of_any _ _ _ V_6.out).mono ?_
    rintro e w7 ⟨v7, rfl, hd7, hb7⟩
    rw [H14.out] at hd7
    have Hd7 := Lib.hid hd7
    clear hd7
    have V_7 := Lib.hid (Ints.keep V_6.out hb7)
    clear V_6
    have U_7 := Lib.hid (Ints.keep U_6.out hb7)
    clear U_6
    have Hb7 := Lib.hid (Below.tr Hb6.out hb7)
    clear hb7 Hb6
    go_wp2_with fail
    refine (few_any l2 _ _ U_7.out).mono ?_
    rintro e w8 ⟨v8, rfl, hd8, hb8⟩
    have Hd8 := Lib.hid hd8
    clear hd8
    have V_8 := Lib.hid (Ints.keep V_7.out hb8)
    clear V_7
    have U_8 := Lib.hid (Ints.keep U_7.out hb8)
    clear U_7
    have D_8 := Lib.hid (OwnInts.keep Hd7.out hb8)
    clear Hd7
    have Hb8 := Lib.hid (Below.tr Hb7.out hb8)
    clear hb8 Hb7
    go_wp2_with fail
    refine (Hcc.out _ _ _ (OwnInts.ints D_8.out) (OwnInts.ints Hd8.out)).mono ?_
    rintro e w' ⟨rfl, rfl⟩
    go_wp2_with fail
    refine (HcB.out _).mono ?_
    rintro e w' ⟨rfl, rfl⟩
    go_wp2_with fail
    refine (awake_any _).mono ?_
    rintro e w9 ⟨rfl, hb9⟩
    have V_9 := Lib.hid (Ints.keep V_8.out hb9)
    clear V_8
    have Hb9 := Lib.hid (Below.tr Hb8.out hb9)
    clear hb9 Hb8
    go_wp2_with fail
    go_ret
    exact ⟨rfl, Hb9.out⟩
set_option maxRecDepth 100000 in
set_option maxHeartbeats 2000000 in
theorem perfect_yes {g : List Nat} (hg : Gr g) (hc : Chordal g) (l2 : List Int) (v u : Value) (w : World) (hv : Ints w v (castN g)) (hu : Ints w u l2) :
    Calls Try.prog 11 #[v, u] w fun e w' => e = .returned (.bool true) ∧ Below w.heap.size w w' := by
  have V0 := Lib.hid hv
  have U0 := Lib.hid hu
  have HG := Lib.hid hg
  have H14 := Lib.hid (grI_take_eq (grI_of hg))
  have HT := Lib.hid (isCol_take hg l2)
  have hB4 := lt63 (om_lt g) hg.le
  have hA4 := lt63 (bestTo_lt (isI g) (2 ^ g.length) (Nat.two_pow_pos _)) hg.le
  have Hge := Lib.hid (fun h : decide (IsCol g l2) = true => (show pop (bestTo (isC g) (2 ^ g.length)) ≤ colN g l2 from col_ge hg (of_decide_eq_true h)))
  have Hom := Lib.hid (show pop (bestTo (isC g) (2 ^ g.length)) = om g from rfl)
  have Hal := Lib.hid (show pop (bestTo (isI g) (2 ^ g.length)) = al g from rfl)
  have Hcl := Lib.hid (fun v w hv => clique_any hg v w hv)
  have Hin := Lib.hid (fun v w hv => independent_any hg v w hv)
  have Hcc := Lib.hid (fun v u w hv hu => checkColours_any hg (l2.take 14) v u w hv hu)
  rw [HT.out.1, HT.out.2] at Hcc
  generalize bestTo (isC g) (2 ^ g.length) = B at *
  generalize bestTo (isI g) (2 ^ g.length) = A at *
  generalize colN g l2 = N at *
  generalize decide (IsCol g l2) = b at *
  have HcB := Lib.hid (fun w => count_any B hB4 w)
  have HcA := Lib.hid (fun w => count_any A hA4 w)
  clear HT hB4 hA4
  have HC := Lib.hid hc
  have HS := Lib.hid (coloursAt hg)
  obtain ⟨r, hr⟩ := cf_chordal hg hc
  have HR := Lib.hid hr
  have HX := Lib.hid (cf_isCol hg hr)
  have HL := Lib.hid (show (srt (castN (cov g))).length = al g by rw [srt_length, castN_length, cov_al hg hc])
  clear hc hr hg
  clear hv hu
  cases hb : b with
  | false =>
    subst hb
    clear Hge
    rw [← Hom.out] at HX
    rw [← Hal.out] at HL
    have qB : ((pop B : Int) == (pop B : Int)) = true := by simp
    have qA : ((pop A : Int) == (pop A : Int)) = true := by simp
    clear Hom Hal
    go_enter Try.func11, Try.ntmps11
    go_wp2_with fail
    refine (of_any _ _ _ V0.out).mono ?_
    rintro e w1 ⟨v1, rfl, hd1, hb1⟩
    rw [H14.out] at hd1
    have Hd1 := Lib.hid hd1
    clear hd1
    have V_1 := Lib.hid (Ints.keep V0.out hb1)
    clear V0
    have U_1 := Lib.hid (Ints.keep U0.out hb1)
    clear U0
    have Hb1 := Lib.hid hb1
    clear hb1
    go_wp2_with fail
    refine (Hcl.out _ _ (OwnInts.ints Hd1.out)).mono ?_
    rintro e w' ⟨rfl, rfl⟩
    go_wp2_with fail
    refine (of_any _ _ _ V_1.out).mono ?_
    rintro e w2 ⟨v2, rfl, hd2, hb2⟩
    rw [H14.out] at hd2
    have Hd2 := Lib.hid hd2
    clear hd2
    have V_2 := Lib.hid (Ints.keep V_1.out hb2)
    clear V_1
    have U_2 := Lib.hid (Ints.keep U_1.out hb2)
    clear U_1
    have Hb2 := Lib.hid (Below.tr Hb1.out hb2)
    clear hb2 Hb1
    go_wp2_with fail
    refine (Hin.out _ _ (OwnInts.ints Hd2.out)).mono ?_
    rintro e w' ⟨rfl, rfl⟩
    go_wp2_with fail
    refine (of_any _ _ _ V_2.out).mono ?_
    rintro e w3 ⟨v3, rfl, hd3, hb3⟩
    rw [H14.out] at hd3
    have Hd3 := Lib.hid hd3
    clear hd3
    have V_3 := Lib.hid (Ints.keep V_2.out hb3)
    clear V_2
    have U_3 := Lib.hid (Ints.keep U_2.out hb3)
    clear U_2
    have Hb3 := Lib.hid (Below.tr Hb2.out hb3)
    clear hb3 Hb2
    go_wp2_with fail
    refine (coloursE_any HG.out HC.out HR.out HS.out _ _ (OwnInts.ints Hd3.out)).mono ?_
    rintro e w4 ⟨a4, rfl, ha4, hb4⟩
    obtain ⟨aa, ac, rfl⟩ := ints_slice ha4
    have Ha4 := Lib.hid ha4
    clear ha4
    have V_4 := Lib.hid (Ints.keep V_3.out hb4)
    clear V_3
    have U_4 := Lib.hid (Ints.keep U_3.out hb4)
    clear U_3
    have Hb4 := Lib.hid (Below.tr Hb3.out hb4)
    clear hb4 Hb3
    go_wp2_with fail
    refine (of_any _ _ _ V_4.out).mono ?_
    rintro e w5 ⟨v5, rfl, hd5, hb5⟩
    rw [H14.out] at hd5
    have Hd5 := Lib.hid hd5
    clear hd5
    have V_5 := Lib.hid (Ints.keep V_4.out hb5)
    clear V_4
    have U_5 := Lib.hid (Ints.keep U_4.out hb5)
    clear U_4
    have A_5 := Lib.hid (Ints.keep Ha4.out hb5)
    clear Ha4
    have Hb5 := Lib.hid (Below.tr Hb4.out hb5)
    clear hb5 Hb4
    go_wp2_with fail
    refine (coverE_any HG.out HC.out _ _ (OwnInts.ints Hd5.out)).mono ?_
    rintro e w6 ⟨c6, rfl, hc6, hb6⟩
    obtain ⟨ca, cc, rfl⟩ := ints_slice (OwnInts.ints hc6)
    clear hc6
    rw [HL.out]
    have V_6 := Lib.hid (Ints.keep V_5.out hb6)
    clear V_5
    have U_6 := Lib.hid (Ints.keep U_5.out hb6)
    clear U_5
    have A_6 := Lib.hid (Ints.keep A_5.out hb6)
    clear A_5
    have Hb6 := Lib.hid (Below.tr Hb5.out hb6)
    clear hb6 Hb5
    go_wp2_with fail
    refine (of_any _ _ _ V_6.out).mono ?_
    rintro e w7 ⟨v7, rfl, hd7, hb7⟩
    rw [H14.out] at hd7
    have Hd7 := Lib.hid hd7
    clear hd7
    have V_7 := Lib.hid (Ints.keep V_6.out hb7)
    clear V_6
    have U_7 := Lib.hid (Ints.keep U_6.out hb7)
    clear U_6
    have A_7 := Lib.hid (Ints.keep A_6.out hb7)
    clear A_6
    have Hb7 := Lib.hid (Below.tr Hb6.out hb7)
    clear hb7 Hb6
    go_wp2_with fail
    refine (few_any l2 _ _ U_7.out).mono ?_
    rintro e w8 ⟨v8, rfl, hd8, hb8⟩
    have Hd8 := Lib.hid hd8
    clear hd8
    have V_8 := Lib.hid (Ints.keep V_7.out hb8)
    clear V_7
    have U_8 := Lib.hid (Ints.keep U_7.out hb8)
    clear U_7
    have A_8 := Lib.hid (Ints.keep A_7.out hb8)
    clear A_7
    have D_8 := Lib.hid (OwnInts.keep Hd7.out hb8)
    clear Hd7
    have Hb8 := Lib.hid (Below.tr Hb7.out hb8)
    clear hb8 Hb7
    go_wp2_with fail
    refine (Hcc.out _ _ _ (OwnInts.ints D_8.out) (OwnInts.ints Hd8.out)).mono ?_
    rintro e w' ⟨rfl, rfl⟩
    go_wp2_with fail
    refine (of_any _ _ _ V_8.out).mono ?_
    rintro e w9 ⟨v9, rfl, hd9, hb9⟩
    rw [H14.out] at hd9
    have Hd9 := Lib.hid hd9
    clear hd9
    have V_9 := Lib.hid (Ints.keep V_8.out hb9)
    clear V_8
    have A_9 := Lib.hid (Ints.keep A_8.out hb9)
    clear A_8
    have Hb9 := Lib.hid (Below.tr Hb8.out hb9)
    clear hb9 Hb8
    go_wp2_with fail
    refine (checkColours_any HG.out _ _ _ _ (OwnInts.ints Hd9.out) A_9.out).mono ?_
    rintro e w' ⟨rfl, rfl⟩
    rw [HX.out.2, decide_eq_true HX.out.1]
    go_wp2_with fail
    refine (HcB.out _).mono ?_
    rintro e w' ⟨rfl, rfl⟩
    go_wp2_with fail
    refine (HcA.out _).mono ?_
    rintro e w' ⟨rfl, rfl⟩
    go_wp2_with fail
    refine (awake_any _).mono ?_
    rintro e w10 ⟨rfl, hb10⟩
    have V_10 := Lib.hid (Ints.keep V_9.out hb10)
    clear V_9
    have Hb10 := Lib.hid (Below.tr Hb9.out hb10)
    clear hb10 Hb9
    go_wp2_with fail
    go_ret
    exact ⟨rfl, Hb10.out⟩
  | true =>
    have hlt := Hge.out hb
    have hq : ¬ ((N : Int) < ((pop B : Nat) : Int)) := by omega
    have hq2 : decide (N < pop B) = false := decide_eq_false (by omega)
    clear hlt
    subst hb
    clear Hge
    rw [← Hom.out] at HX
    rw [← Hal.out] at HL
    have qB : ((pop B : Int) == (pop B : Int)) = true := by simp
    have qA : ((pop A : Int) == (pop A : Int)) = true := by simp
    clear Hom Hal
    go_enter Try.func11, Try.ntmps11
    go_wp2_with fail
    refine (of_any _ _ _ V0.out).mono ?_
    rintro e w1 ⟨v1, rfl, hd1, hb1⟩
    rw [H14.out] at hd1
    have Hd1 := Lib.hid hd1
    clear hd1
    have V_1 := Lib.hid (Ints.keep V0.out hb1)
    clear V0
    have U_1 := Lib.hid (Ints.keep U0.out hb1)
    clear U0
    have Hb1 := Lib.hid hb1
    clear hb1
    go_wp2_with fail
    refine (Hcl.out _ _ (OwnInts.ints Hd1.out)).mono ?_
    rintro e w' ⟨rfl, rfl⟩
    go_wp2_with fail
    refine (of_any _ _ _ V_1.out).mono ?_
    rintro e w2 ⟨v2, rfl, hd2, hb2⟩
    rw [H14.out] at hd2
    have Hd2 := Lib.hid hd2
    clear hd2
    have V_2 := Lib.hid (Ints.keep V_1.out hb2)
    clear V_1
    have U_2 := Lib.hid (Ints.keep U_1.out hb2)
    clear U_1
    have Hb2 := Lib.hid (Below.tr Hb1.out hb2)
    clear hb2 Hb1
    go_wp2_with fail
    refine (Hin.out _ _ (OwnInts.ints Hd2.out)).mono ?_
    rintro e w' ⟨rfl, rfl⟩
    go_wp2_with fail
    refine (of_any _ _ _ V_2.out).mono ?_
    rintro e w3 ⟨v3, rfl, hd3, hb3⟩
    rw [H14.out] at hd3
    have Hd3 := Lib.hid hd3
    clear hd3
    have V_3 := Lib.hid (Ints.keep V_2.out hb3)
    clear V_2
    have U_3 := Lib.hid (Ints.keep U_2.out hb3)
    clear U_2
    have Hb3 := Lib.hid (Below.tr Hb2.out hb3)
    clear hb3 Hb2
    go_wp2_with fail
    refine (coloursE_any HG.out HC.out HR.out HS.out _ _ (OwnInts.ints Hd3.out)).mono ?_
    rintro e w4 ⟨a4, rfl, ha4, hb4⟩
    obtain ⟨aa, ac, rfl⟩ := ints_slice ha4
    have Ha4 := Lib.hid ha4
    clear ha4
    have V_4 := Lib.hid (Ints.keep V_3.out hb4)
    clear V_3
    have U_4 := Lib.hid (Ints.keep U_3.out hb4)
    clear U_3
    have Hb4 := Lib.hid (Below.tr Hb3.out hb4)
    clear hb4 Hb3
    go_wp2_with fail
    refine (of_any _ _ _ V_4.out).mono ?_
    rintro e w5 ⟨v5, rfl, hd5, hb5⟩
    rw [H14.out] at hd5
    have Hd5 := Lib.hid hd5
    clear hd5
    have V_5 := Lib.hid (Ints.keep V_4.out hb5)
    clear V_4
    have U_5 := Lib.hid (Ints.keep U_4.out hb5)
    clear U_4
    have A_5 := Lib.hid (Ints.keep Ha4.out hb5)
    clear Ha4
    have Hb5 := Lib.hid (Below.tr Hb4.out hb5)
    clear hb5 Hb4
    go_wp2_with fail
    refine (coverE_any HG.out HC.out _ _ (OwnInts.ints Hd5.out)).mono ?_
    rintro e w6 ⟨c6, rfl, hc6, hb6⟩
    obtain ⟨ca, cc, rfl⟩ := ints_slice (OwnInts.ints hc6)
    clear hc6
    rw [HL.out]
    have V_6 := Lib.hid (Ints.keep V_5.out hb6)
    clear V_5
    have U_6 := Lib.hid (Ints.keep U_5.out hb6)
    clear U_5
    have A_6 := Lib.hid (Ints.keep A_5.out hb6)
    clear A_5
    have Hb6 := Lib.hid (Below.tr Hb5.out hb6)
    clear hb6 Hb5
    go_wp2_with fail
    refine (of_any _ _ _ V_6.out).mono ?_
    rintro e w7 ⟨v7, rfl, hd7, hb7⟩
    rw [H14.out] at hd7
    have Hd7 := Lib.hid hd7
    clear hd7
    have V_7 := Lib.hid (Ints.keep V_6.out hb7)
    clear V_6
    have U_7 := Lib.hid (Ints.keep U_6.out hb7)
    clear U_6
    have A_7 := Lib.hid (Ints.keep A_6.out hb7)
    clear A_6
    have Hb7 := Lib.hid (Below.tr Hb6.out hb7)
    clear hb7 Hb6
    go_wp2_with fail
    refine (few_any l2 _ _ U_7.out).mono ?_
    rintro e w8 ⟨v8, rfl, hd8, hb8⟩
    have Hd8 := Lib.hid hd8
    clear hd8
    have V_8 := Lib.hid (Ints.keep V_7.out hb8)
    clear V_7
    have U_8 := Lib.hid (Ints.keep U_7.out hb8)
    clear U_7
    have A_8 := Lib.hid (Ints.keep A_7.out hb8)
    clear A_7
    have D_8 := Lib.hid (OwnInts.keep Hd7.out hb8)
    clear Hd7
    have Hb8 := Lib.hid (Below.tr Hb7.out hb8)
    clear hb8 Hb7
    go_wp2_with fail
    refine (Hcc.out _ _ _ (OwnInts.ints D_8.out) (OwnInts.ints Hd8.out)).mono ?_
    rintro e w' ⟨rfl, rfl⟩
    go_wp2_with fail
    refine (HcB.out _).mono ?_
    rintro e w' ⟨rfl, rfl⟩
    go_wp2_with fail
    refine (of_any _ _ _ V_8.out).mono ?_
    rintro e w9 ⟨v9, rfl, hd9, hb9⟩
    rw [H14.out] at hd9
    have Hd9 := Lib.hid hd9
    clear hd9
    have V_9 := Lib.hid (Ints.keep V_8.out hb9)
    clear V_8
    have A_9 := Lib.hid (Ints.keep A_8.out hb9)
    clear A_8
    have Hb9 := Lib.hid (Below.tr Hb8.out hb9)
    clear hb9 Hb8
    go_wp2_with fail
    refine (checkColours_any HG.out _ _ _ _ (OwnInts.ints Hd9.out) A_9.out).mono ?_
    rintro e w' ⟨rfl, rfl⟩
    rw [HX.out.2, decide_eq_true HX.out.1]
    go_wp2_with fail
    refine (HcB.out _).mono ?_
    rintro e w' ⟨rfl, rfl⟩
    go_wp2_with fail
    refine (HcA.out _).mono ?_
    rintro e w' ⟨rfl, rfl⟩
    go_wp2_with fail
    refine (awake_any _).mono ?_
    rintro e w10 ⟨rfl, hb10⟩
    have V_10 := Lib.hid (Ints.keep V_9.out hb10)
    clear V_9
    have Hb10 := Lib.hid (Below.tr Hb9.out hb10)
    clear hb10 Hb9
    go_wp2_with fail
    go_ret
    exact ⟨rfl, Hb10.out⟩
theorem perfect_any (l l2 : List Int) (v u : Value) (w : World) (hv : Ints w v l) (hu : Ints w u l2) :
    Calls Try.prog 11 #[v, u] w fun e w' => e = .returned (.bool true) ∧ Below w.heap.size w w' := by
  by_cases h : GrI l
  · obtain ⟨g, hg, rfl⟩ := grI_nat h
    by_cases hc : Chordal g
    · exact perfect_yes hg hc l2 v u w hv hu
    · exact perfect_no hg hc l2 v u w hv hu
  · exact perfect_bad h l2 v u w hv hu
#print axioms perfect_any
end Go.Proofs.Ytkjpbjbheocciaa
