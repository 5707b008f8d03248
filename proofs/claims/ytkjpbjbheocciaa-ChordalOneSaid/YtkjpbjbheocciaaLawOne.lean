/- ChordalOne: for every input the law returns true. -/
import Derived.Test.YtkjpbjbheocciaaCmp
import Derived.Test.YtkjpbjbheocciaaHf
import Derived.Test.YtkjpbjbheocciaaFrame
import Derived.Test.YtkjpbjbheocciaaRows
namespace Go.Proofs.Ytkjpbjbheocciaa
open Go.RowKit

theorem grI_take {l : List Int} : GrI (l.take 14) ↔ GrI l := by
  by_cases h : l.length ≤ 14
  · rw [List.take_of_length_le h]
  · constructor
    · intro hg; have := hg.1.2; simp at this; omega
    · intro hg; have := hg.1.2; omega
theorem grI_take_eq {l : List Int} (h : GrI l) : l.take 14 = l := List.take_of_length_le (by have := h.1.2; omega)
theorem isOrder_take {g : List Nat} (hg : Gr g) (l : List Int) : decide (IsOrder g (l.take 14)) = decide (IsOrder g l) := by
  by_cases h : l.length ≤ 14
  · rw [List.take_of_length_le h]
  · have := hg.le
    rw [decide_eq_false (fun hh => by have := hh.1; simp at this; omega), decide_eq_false (fun hh => by have := hh.1; omega)]
theorem isHole_take {g : List Nat} (hg : Gr g) (l : List Int) : decide (IsHoleI g (l.take 14)) = decide (IsHoleI g l) := by
  by_cases h : l.length ≤ 14
  · rw [List.take_of_length_le h]
  · have := hg.le
    rw [decide_eq_false (fun hh => by have := isHole_len hh; simp at this; omega), decide_eq_false (fun hh => by have := isHole_len hh; omega)]
set_option maxRecDepth 100000 in
theorem one_bad {l : List Int} (h : ¬ GrI l) (l2 : List Int) (v u : Value) (w : World) (hv : Ints w v l) (hu : Ints w u l2) :
    Calls Try.prog 10 #[v, u] w fun e w' => e = .returned (.bool true) ∧ Below w.heap.size w w' := by
  have Hv := Lib.hid hv
  have Hu := Lib.hid hu
  have H14 := Lib.hid (show ¬ GrI (l.take 14) from fun hh => h (grI_take.1 hh))
  clear hv hu h
  go_enter Try.func10, Try.ntmps10
  go_wp2_with fail
  refine (of_any l _ _ Hv.out).mono ?_
  rintro e w1 ⟨v1, rfl, hd1, hb1⟩
  have Hd1 := Lib.hid hd1
  have Hb1 := Lib.hid hb1
  clear hd1 hb1
  go_wp2_with fail
  refine (orderE_bad H14.out _ _ (OwnInts.ints Hd1.out)).mono ?_
  rintro e w' ⟨rfl, rfl⟩
  go_wp2_with fail
  refine (of_any l _ _ (Ints.keep Hv.out Hb1.out)).mono ?_
  rintro e w2 ⟨v2, rfl, hd2, hb2⟩
  have Hd2 := Lib.hid hd2
  have Hb2 := Lib.hid (Below.tr Hb1.out hb2)
  clear hd2 hb2
  go_wp2_with fail
  refine (holeE_bad H14.out _ _ (OwnInts.ints Hd2.out)).mono ?_
  rintro e w' ⟨rfl, rfl⟩
  go_wp2_with fail
  refine (of_any l _ _ (Ints.keep Hv.out Hb2.out)).mono ?_
  rintro e w3 ⟨v3, rfl, hd3, hb3⟩
  have Hd3 := Lib.hid hd3
  have Hb3 := Lib.hid (Below.tr Hb2.out hb3)
  clear hd3 hb3
  go_wp2_with fail
  refine (few_any l2 _ _ (Ints.keep Hu.out Hb3.out)).mono ?_
  rintro e w4 ⟨v4, rfl, hd4, hb4⟩
  have Hd3b := Lib.hid (Ints.keep (OwnInts.ints Hd3.out) hb4)
  have Hb4 := Lib.hid (Below.tr Hb3.out hb4)
  clear hd4 hb4
  go_wp2_with fail
  refine (checkOrder_bad H14.out _ _ _ Hd3b.out).mono ?_
  rintro e w' ⟨rfl, rfl⟩
  go_wp2_with fail
  refine (of_any l _ _ (Ints.keep Hv.out Hb4.out)).mono ?_
  rintro e w5 ⟨v5, rfl, hd5, hb5⟩
  have Hd5 := Lib.hid hd5
  have Hb5 := Lib.hid (Below.tr Hb4.out hb5)
  clear hd5 hb5
  go_wp2_with fail
  refine (few_any l2 _ _ (Ints.keep Hu.out Hb5.out)).mono ?_
  rintro e w6 ⟨v6, rfl, hd6, hb6⟩
  have Hd5b := Lib.hid (Ints.keep (OwnInts.ints Hd5.out) hb6)
  have Hb6 := Lib.hid (Below.tr Hb5.out hb6)
  clear hd6 hb6
  go_wp2_with fail
  refine (checkHole_bad H14.out _ _ _ Hd5b.out).mono ?_
  rintro e w' ⟨rfl, rfl⟩
  go_wp2_with fail
  refine (awake_any _).mono ?_
  rintro e w7 ⟨rfl, hb7⟩
  have Hb7 := Lib.hid (Below.tr Hb6.out hb7)
  clear hb7
  go_wp2_with fail
  go_ret
  exact ⟨rfl, Hb7.out⟩
set_option maxRecDepth 100000 in
set_option maxHeartbeats 2000000 in
theorem one_chordal {g : List Nat} (hg : Gr g) (hc : Chordal g) (l2 : List Int) (v u : Value) (w : World) (hv : Ints w v (castN g)) (hu : Ints w u l2) :
    Calls Try.prog 10 #[v, u] w fun e w' => e = .returned (.bool true) ∧ Below w.heap.size w w' := by
  have Hv := Lib.hid hv
  have Hu := Lib.hid hu
  have HG := Lib.hid hg
  have H14 := Lib.hid (grI_take_eq (grI_of hg))
  have HTo := Lib.hid (isOrder_take hg l2)
  have HTh := Lib.hid (isHole_take hg l2)
  have HC := Lib.hid hc
  have Hh := Lib.hid (show hole g = none by
    cases e : hole g with
    | none => rfl
    | some r => exact absurd (order_isOrder hc) fun ho => no_order hg (hole_is e).1.1 (hole_is e).1.2 ho)
  have HOk := Lib.hid (decide_eq_true (order_isOrder hc))
  have HNh := Lib.hid (show decide (IsHoleI g l2) = false from decide_eq_false fun h => no_order hg (l := nat' l2) (by rw [nat_length]; exact h.1) (by rw [nat_length]; exact h.2.2) (order_isOrder hc))
  obtain ⟨b1, hb1⟩ : ∃ b, b = decide (IsOrder g l2) := ⟨_, rfl⟩
  have HB1 := Lib.hid hb1
  have HLe := Lib.hid (show b1 = true → Le (castN (order g)) l2 from fun h => order_le hc (of_decide_eq_true (hb1.symm.trans h)))
  have hE : holeErr (none : Option (List Nat)) = 5 := rfl
  clear hc hb1
  clear hv hu hg
  go_enter Try.func10, Try.ntmps10
  go_wp2_with fail
  refine (of_any _ _ _ Hv.out).mono ?_
  rintro e w1 ⟨v1, rfl, hd1, hb1⟩
  rw [H14.out] at hd1
  have Hd1 := Lib.hid hd1
  have Hb1 := Lib.hid hb1
  clear hd1 hb1
  go_wp2_with fail
  refine (orderE_any HG.out _ _ (OwnInts.ints Hd1.out)).mono ?_
  rintro e w2 ⟨a1, rfl, ha1, hb2⟩
  rw [if_pos HC.out] at ha1
  rw [if_pos HC.out]
  obtain ⟨aa, ac, rfl⟩ := ints_slice ha1
  have Ha1 := Lib.hid ha1
  have Hb2 := Lib.hid (Below.tr Hb1.out hb2)
  clear ha1 hb2
  generalize (castN (order g)).length = n1 at *
  go_wp2_with fail
  refine (of_any _ _ _ (Ints.keep Hv.out Hb2.out)).mono ?_
  rintro e w3 ⟨v3, rfl, hd3, hb3⟩
  rw [H14.out] at hd3
  have Hd3 := Lib.hid hd3
  have Ha3 := Lib.hid (Ints.keep Ha1.out hb3)
  have Hb3 := Lib.hid (Below.tr Hb2.out hb3)
  clear hd3 hb3 Ha1
  go_wp2_with fail
  refine (holeE_any HG.out _ _ (OwnInts.ints Hd3.out)).mono ?_
  rintro e w4 ⟨c1, rfl, hc1, hb4⟩
  rw [Hh.out] at hc1
  rw [Hh.out]
  obtain ⟨ca, cc, rfl⟩ := ints_slice hc1
  have Hc4 := Lib.hid hc1
  have Ha4 := Lib.hid (Ints.keep Ha3.out hb4)
  have Hb4 := Lib.hid (Below.tr Hb3.out hb4)
  clear hc1 hb4 Ha3
  rw [hE]; clear hE; generalize (castN ((none : Option (List Nat)).getD [])).length = n2 at *
  go_wp2_with fail
  refine (of_any _ _ _ (Ints.keep Hv.out Hb4.out)).mono ?_
  rintro e w5 ⟨v5, rfl, hd5, hb5⟩
  rw [H14.out] at hd5
  have Hd5 := Lib.hid hd5
  have Ha5 := Lib.hid (Ints.keep Ha4.out hb5)
  have Hc5 := Lib.hid (Ints.keep Hc4.out hb5)
  have Hb5 := Lib.hid (Below.tr Hb4.out hb5)
  clear hd5 hb5 Ha4 Hc4
  go_wp2_with fail
  refine (few_any l2 _ _ (Ints.keep Hu.out Hb5.out)).mono ?_
  rintro e w6 ⟨v6, rfl, hd6, hb6⟩
  have Hd5b := Lib.hid (Ints.keep (OwnInts.ints Hd5.out) hb6)
  have Ha6 := Lib.hid (Ints.keep Ha5.out hb6)
  have Hc6 := Lib.hid (Ints.keep Hc5.out hb6)
  have Hd6 := Lib.hid (OwnInts.ints hd6)
  have Hb6 := Lib.hid (Below.tr Hb5.out hb6)
  clear hd6 hb6 Ha5 Hc5
  go_wp2_with fail
  refine (checkOrder_any HG.out _ _ _ _ Hd5b.out Hd6.out).mono ?_
  rw [HTo.out, ← HB1.out]
  rintro e w' ⟨rfl, rfl⟩
  go_wp2_with fail
  refine (of_any _ _ _ (Ints.keep Hv.out Hb6.out)).mono ?_
  rintro e w7 ⟨v7, rfl, hd7, hb7⟩
  rw [H14.out] at hd7
  have Hd7 := Lib.hid hd7
  have Ha7 := Lib.hid (Ints.keep Ha6.out hb7)
  have Hc7 := Lib.hid (Ints.keep Hc6.out hb7)
  have Hb7 := Lib.hid (Below.tr Hb6.out hb7)
  clear hd7 hb7 Ha6 Hc6
  go_wp2_with fail
  refine (few_any l2 _ _ (Ints.keep Hu.out Hb7.out)).mono ?_
  rintro e w8 ⟨v8, rfl, hd8, hb8⟩
  have Hd7b := Lib.hid (Ints.keep (OwnInts.ints Hd7.out) hb8)
  have Ha8 := Lib.hid (Ints.keep Ha7.out hb8)
  have Hc8 := Lib.hid (Ints.keep Hc7.out hb8)
  have Hd8 := Lib.hid (OwnInts.ints hd8)
  have Hb8 := Lib.hid (Below.tr Hb7.out hb8)
  clear hd8 hb8 Ha7 Hc7
  go_wp2_with fail
  refine (checkHole_any HG.out _ _ _ _ Hd7b.out Hd8.out).mono ?_
  rw [HTh.out, HNh.out]
  rintro e w9 ⟨rfl, q9, hw9⟩
  have Hk9 := Lib.hid (show Below w8.heap.size w8 w9 by rw [hw9]; exact bdrewN (Below.refl _ _) _)
  have Ha9 := Lib.hid (Ints.keep Ha8.out Hk9.out)
  have Hc9 := Lib.hid (Ints.keep Hc8.out Hk9.out)
  have Hb9 := Lib.hid (Below.tr Hb8.out Hk9.out)
  clear hw9 Hk9 Ha8 Hc8
  go_wp2_with fail
  refine (of_any _ _ _ (Ints.keep Hv.out Hb9.out)).mono ?_
  rintro e w10 ⟨v10, rfl, hd10, hb10⟩
  rw [H14.out] at hd10
  have Hd10 := Lib.hid hd10
  have Ha10 := Lib.hid (Ints.keep Ha9.out hb10)
  have Hc10 := Lib.hid (Ints.keep Hc9.out hb10)
  have Hb10 := Lib.hid (Below.tr Hb9.out hb10)
  clear hd10 hb10 Ha9 Hc9
  go_wp2_with fail
  refine (checkOrder_any HG.out _ _ _ _ (OwnInts.ints Hd10.out) Ha10.out).mono ?_
  rw [HOk.out]
  rintro e w' ⟨rfl, rfl⟩
  have Hb11 := Lib.hid Hb10.out
  cases b1
  · go_wp2_with fail
    refine (awake_any _).mono ?_
    rintro e w12 ⟨rfl, hb12⟩
    have Hb12 := Lib.hid (Below.tr Hb11.out hb12)
    clear hb12
    go_wp2_with fail
    go_ret
    exact ⟨rfl, Hb12.out⟩
  · go_wp2_with fail
    refine (compare_any _ l2 _ _ _ Ha10.out (Ints.keep Hu.out Hb10.out)).mono ?_
    rintro e w' ⟨c, rfl, hcl, rfl⟩
    have hc0 : c ≤ 0 := hcl.2 (HLe.out (by trivial))
    clear hcl
    go_wp2_with fail
    refine (awake_any _).mono ?_
    rintro e w12 ⟨rfl, hb12⟩
    have Hb12 := Lib.hid (Below.tr Hb11.out hb12)
    clear hb12
    go_wp2_with fail
    go_ret
    exact ⟨rfl, Hb12.out⟩
set_option maxRecDepth 100000 in
set_option maxHeartbeats 2000000 in
theorem one_hole {g : List Nat} (hg : Gr g) (hc : ¬ Chordal g) {r : List Nat} (hr : hole g = some r) (l2 : List Int) (v u : Value) (w : World) (hv : Ints w v (castN g)) (hu : Ints w u l2) :
    Calls Try.prog 10 #[v, u] w fun e w' => e = .returned (.bool true) ∧ Below w.heap.size w w' := by
  have Hv := Lib.hid hv
  have Hu := Lib.hid hu
  have HG := Lib.hid hg
  have H14 := Lib.hid (grI_take_eq (grI_of hg))
  have HTo := Lib.hid (isOrder_take hg l2)
  have HTh := Lib.hid (isHole_take hg l2)
  have HC := Lib.hid hc
  have Hh := Lib.hid hr
  have his := hole_is hr
  have HOk := Lib.hid (show decide (IsHoleI g (castN r)) = true from decide_eq_true ((isHole_cast rfl his.1.1 (fun x hx => by
    obtain ⟨i, hi, rfl⟩ := mem_at.1 hx
    exact (his.1.2.1 i hi).1.1)).2 his.1.2))
  have HNo := Lib.hid (show decide (IsOrder g l2) = false from decide_eq_false fun h => no_order hg his.1.1 his.1.2 h)
  obtain ⟨b2, hb2⟩ : ∃ b, b = decide (IsHoleI g l2) := ⟨_, rfl⟩
  have HB2 := Lib.hid hb2
  have HLe := Lib.hid (show b2 = true → ((castN r).length : Int) ≤ (l2.length : Int) from fun h => by
    have hi := of_decide_eq_true (hb2.symm.trans h)
    have := his.2 (nat' l2) (by rw [nat_length]; exact hi.1) (by rw [nat_length]; exact hi.2.2)
    rw [nat_length] at this
    rw [castN_length]; omega)
  have hE : holeErr (some r) = 0 := rfl
  clear hc hr his hb2
  clear hv hu hg
  go_enter Try.func10, Try.ntmps10
  go_wp2_with fail
  refine (of_any _ _ _ Hv.out).mono ?_
  rintro e w1 ⟨v1, rfl, hd1, hb1⟩
  rw [H14.out] at hd1
  have Hd1 := Lib.hid hd1
  have Hb1 := Lib.hid hb1
  clear hd1 hb1
  go_wp2_with fail
  refine (orderE_any HG.out _ _ (OwnInts.ints Hd1.out)).mono ?_
  rintro e w2 ⟨a1, rfl, ha1, hb2⟩
  rw [if_neg HC.out] at ha1
  rw [if_neg HC.out]
  obtain ⟨aa, ac, rfl⟩ := ints_slice ha1
  have Ha1 := Lib.hid ha1
  have Hb2 := Lib.hid (Below.tr Hb1.out hb2)
  clear ha1 hb2
  generalize (([] : List Int)).length = n1 at *
  go_wp2_with fail
  refine (of_any _ _ _ (Ints.keep Hv.out Hb2.out)).mono ?_
  rintro e w3 ⟨v3, rfl, hd3, hb3⟩
  rw [H14.out] at hd3
  have Hd3 := Lib.hid hd3
  have Ha3 := Lib.hid (Ints.keep Ha1.out hb3)
  have Hb3 := Lib.hid (Below.tr Hb2.out hb3)
  clear hd3 hb3 Ha1
  go_wp2_with fail
  refine (holeE_any HG.out _ _ (OwnInts.ints Hd3.out)).mono ?_
  rintro e w4 ⟨c1, rfl, hc1, hb4⟩
  rw [Hh.out] at hc1
  change Ints w4 c1 (castN r) at hc1
  rw [Hh.out]
  obtain ⟨ca, cc, rfl⟩ := ints_slice hc1
  have Hc4 := Lib.hid hc1
  have Ha4 := Lib.hid (Ints.keep Ha3.out hb4)
  have Hb4 := Lib.hid (Below.tr Hb3.out hb4)
  clear hc1 hb4 Ha3
  rw [hE]; clear hE
  go_wp2_with fail
  refine (of_any _ _ _ (Ints.keep Hv.out Hb4.out)).mono ?_
  rintro e w5 ⟨v5, rfl, hd5, hb5⟩
  rw [H14.out] at hd5
  have Hd5 := Lib.hid hd5
  have Ha5 := Lib.hid (Ints.keep Ha4.out hb5)
  have Hc5 := Lib.hid (Ints.keep Hc4.out hb5)
  have Hb5 := Lib.hid (Below.tr Hb4.out hb5)
  clear hd5 hb5 Ha4 Hc4
  go_wp2_with fail
  refine (few_any l2 _ _ (Ints.keep Hu.out Hb5.out)).mono ?_
  rintro e w6 ⟨v6, rfl, hd6, hb6⟩
  have Hd5b := Lib.hid (Ints.keep (OwnInts.ints Hd5.out) hb6)
  have Ha6 := Lib.hid (Ints.keep Ha5.out hb6)
  have Hc6 := Lib.hid (Ints.keep Hc5.out hb6)
  have Hd6 := Lib.hid (OwnInts.ints hd6)
  have Hb6 := Lib.hid (Below.tr Hb5.out hb6)
  clear hd6 hb6 Ha5 Hc5
  go_wp2_with fail
  refine (checkOrder_any HG.out _ _ _ _ Hd5b.out Hd6.out).mono ?_
  rw [HTo.out, HNo.out]
  rintro e w' ⟨rfl, rfl⟩
  go_wp2_with fail
  refine (of_any _ _ _ (Ints.keep Hv.out Hb6.out)).mono ?_
  rintro e w7 ⟨v7, rfl, hd7, hb7⟩
  rw [H14.out] at hd7
  have Hd7 := Lib.hid hd7
  have Ha7 := Lib.hid (Ints.keep Ha6.out hb7)
  have Hc7 := Lib.hid (Ints.keep Hc6.out hb7)
  have Hb7 := Lib.hid (Below.tr Hb6.out hb7)
  clear hd7 hb7 Ha6 Hc6
  go_wp2_with fail
  refine (few_any l2 _ _ (Ints.keep Hu.out Hb7.out)).mono ?_
  rintro e w8 ⟨v8, rfl, hd8, hb8⟩
  have Hd7b := Lib.hid (Ints.keep (OwnInts.ints Hd7.out) hb8)
  have Ha8 := Lib.hid (Ints.keep Ha7.out hb8)
  have Hc8 := Lib.hid (Ints.keep Hc7.out hb8)
  have Hd8 := Lib.hid (OwnInts.ints hd8)
  have Hb8 := Lib.hid (Below.tr Hb7.out hb8)
  clear hd8 hb8 Ha7 Hc7
  go_wp2_with fail
  refine (checkHole_any HG.out _ _ _ _ Hd7b.out Hd8.out).mono ?_
  rw [HTh.out, ← HB2.out]
  rintro e w9 ⟨rfl, q9, hw9⟩
  have Hk9 := Lib.hid (show Below w8.heap.size w8 w9 by rw [hw9]; exact bdrewN (Below.refl _ _) _)
  have Ha9 := Lib.hid (Ints.keep Ha8.out Hk9.out)
  have Hc9 := Lib.hid (Ints.keep Hc8.out Hk9.out)
  have Hb9 := Lib.hid (Below.tr Hb8.out Hk9.out)
  clear hw9 Hk9 Ha8 Hc8
  go_wp2_with fail
  refine (of_any _ _ _ (Ints.keep Hv.out Hb9.out)).mono ?_
  rintro e w10 ⟨v10, rfl, hd10, hb10⟩
  rw [H14.out] at hd10
  have Hd10 := Lib.hid hd10
  have Ha10 := Lib.hid (Ints.keep Ha9.out hb10)
  have Hc10 := Lib.hid (Ints.keep Hc9.out hb10)
  have Hb10 := Lib.hid (Below.tr Hb9.out hb10)
  clear hd10 hb10 Ha9 Hc9
  go_wp2_with fail
  refine (checkHole_any HG.out _ _ _ _ (OwnInts.ints Hd10.out) Hc10.out).mono ?_
  rw [HOk.out]
  rintro e w11 ⟨rfl, q11, hw11⟩
  have Hb11 := Lib.hid (show Below w.heap.size w w11 by rw [hw11]; exact bdrewN Hb10.out _)
  clear hw11
  cases b2
  · go_wp2_with fail
    refine (awake_any _).mono ?_
    rintro e w12 ⟨rfl, hb12⟩
    have Hb12 := Lib.hid (Below.tr Hb11.out hb12)
    clear hb12
    go_wp2_with fail
    go_ret
    exact ⟨rfl, Hb12.out⟩
  · have hll : ((castN r).length : Int) ≤ (l2.length : Int) := HLe.out (by trivial)
    obtain ⟨ua, uc, rfl⟩ := ints_slice Hu.out
    go_wp2_with fail
    refine (awake_any _).mono ?_
    rintro e w12 ⟨rfl, hb12⟩
    have Hb12 := Lib.hid (Below.tr Hb11.out hb12)
    clear hb12
    go_wp2_with fail
    go_ret
    exact ⟨rfl, Hb12.out⟩
theorem one_any (l l2 : List Int) (v u : Value) (w : World) (hv : Ints w v l) (hu : Ints w u l2) :
    Calls Try.prog 10 #[v, u] w fun e w' => e = .returned (.bool true) ∧ Below w.heap.size w w' := by
  by_cases h : GrI l
  · obtain ⟨g, hg, rfl⟩ := grI_nat h
    by_cases hc : Chordal g
    · exact one_chordal hg hc l2 v u w hv hu
    · obtain ⟨r, hr⟩ := hole_of hg hc
      exact one_hole hg hc hr l2 v u w hv hu
  · exact one_bad h l2 v u w hv hu

namespace chordalOne
open Go.ChangeShapes Go.WideShapes Go.ChangeAt
set_option maxRecDepth 100000 in
theorem lifted (os : Os) (started : os.Started) (H : Type) (enc : TypeId × Value → H) :
    ReturnsInHanded {} Try.checked os 10 .any (Rows.chordalOneSpec.pre6 enc Try.prog Try.f10 Rows.chordalOneRow.domain false) (Rows.chordalOneSpec.post enc Try.prog Try.f10 false true false false) := by
  refine returnsInHanded_of_change (C := Try.checked) Try.own started (by kernel_rfl) Try.func10
    (ChangeSpec.witness6 (enc := enc) (C := Try.checked) false ⟨#[], #[.slice none 0 0, .slice none 0 0], []⟩ 8 (by kernel_rfl) (by kernel_rfl) (by kernel_rfl) (by kernel_rfl)) ?_
  intro W base args ds gs before hval0 hW _ _
  have hval : ∀ (j : Nat) t v, Try.f10.params[j]? = some t → args[j]? = some v → Value.okWide Try.prog W .any base t v := hval0
  clear hval0
  obtain rfl : gs = [] := by obtain ⟨p, q, _, hV, _⟩ := hW; exact (trodVars_none hV).1
  have hW' := hW
  obtain ⟨p, q, hA0, hV, rfl, hfz, hnd⟩ := hW
  have hA : DataW.TrodAll enc Try.prog W 0 (fun _ => true) true Try.f10.params.toList args.toList ds p := hA0
  rw [Try.params10] at hA hval
  obtain ⟨v0, vs0, d0, ds0, p0, q0, hv0, hd0, hp0, h0, r0⟩ := trodAll_cons hA
  obtain ⟨v1, vs1, d1, ds1, p1, q1, hv1, hd1, hp1, h1, r1⟩ := trodAll_cons r0
  obtain ⟨hvn, hdn, hpn⟩ := trodAll_nil r1
  have ha : args = #[v0, v1] := by cases args; simp_all
  have hdd : ds = [d0, d1] := by simp_all
  rw [ha] at hval
  obtain ⟨a0, k0⟩ := ints_of_trod Try.underlying23 Try.underlying3 Try.cells3 (okWide_slice Try.underlying23 (hval 0 23 v0 rfl rfl)) h0
  obtain ⟨a1, k1⟩ := ints_of_trod Try.underlying22 Try.underlying3 Try.cells3 (okWide_slice Try.underlying22 (hval 1 22 v1 rfl rfl)) h1
  have hw : Calls Try.prog 10 args W (fun e W' => e = .returned (.bool true) ∧ Below W.heap.size W W') := by
    rw [ha]; exact one_any a0 a1 v0 v1 W k0 k1
  exact hw.mono fun e W' ⟨he, hb⟩ => ⟨_, he, law_post Try.laidOut hW' rfl rfl Try.underlying4 (by rw [hdd]; rfl)
    (by kernel_rfl) hb⟩

theorem holds : Rows.ChordalOneSaid :=
  OpenClaim.holds_of_wide 10 Try.f10 rfl rfl rfl rfl rfl rfl rfl ⟨rfl, rfl, rfl, rfl, rfl⟩ rfl rfl rfl rfl rfl (by kernel_rfl) Try.func10 (by kernel_rfl)
    (of_decide_eq_true (by kernel_rfl)) (by unfold Func.isWrapper; first | (rw [if_pos (by decide +kernel)]; kernel_rfl) | (rw [if_neg (by decide +kernel)]; exact ⟨rfl, rfl⟩))
    (fun os started H enc _ => lifted os started H enc)
#print axioms holds
end chordalOne
end Go.Proofs.Ytkjpbjbheocciaa
