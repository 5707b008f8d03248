/- ChordalColours, given the contract of the search. -/
import Derived.Test.YtkjpbjbheocciaaCi
import Derived.Test.YtkjpbjbheocciaaFrame
import Derived.Test.YtkjpbjbheocciaaRows
namespace Go.Proofs.Ytkjpbjbheocciaa
open Go.RowKit

theorem grI_take {l : List Int} : GrI (l.take 14) ↔ GrI l := by
  by_cases h : l.length ≤ 14
  · rw [List.take_of_length_le h]
  · constructor
    · intro hg; have := hg.1.2; simp at this; omega
    · intro hg; have := hg.1.2; omega
theorem grI_take_eq {l : List Int} (h : GrI l) : l.take 14 = l := List.take_of_length_le (by have := h.1.2; omega)
theorem isCol_take {g : List Nat} (hg : Gr g) (l : List Int) : decide (IsCol g (l.take 14)) = decide (IsCol g l) ∧ colN g (l.take 14) = colN g l := by
  by_cases h : l.length ≤ 14
  · rw [List.take_of_length_le h]; exact ⟨rfl, rfl⟩
  · have := hg.le
    have h1 : ¬ IsCol g (l.take 14) := fun hh => by have := hh.1; simp at this; omega
    have h2 : ¬ IsCol g l := fun hh => by have := hh.1; omega
    exact ⟨by rw [decide_eq_false h1, decide_eq_false h2], by rw [colN, colN, if_neg h1, if_neg h2]⟩
set_option maxRecDepth 100000 in
theorem colours_bad {l : List Int} (h : ¬ GrI l) (l2 : List Int) (v u : Value) (w : World) (hv : Ints w v l) (hu : Ints w u l2) :
    Calls Try.prog 5 #[v, u] w fun e w' => e = .returned (.bool true) ∧ Below w.heap.size w w' := by
  have Hv := Lib.hid hv
  have Hu := Lib.hid hu
  have H := Lib.hid h
  have H14 := Lib.hid (show ¬ GrI (l.take 14) from fun hh => h (grI_take.1 hh))
  clear hv hu h
  go_enter Try.func5, Try.ntmps5
  go_wp2_with fail
  refine (of_any _ _ _ Hv.out).mono ?_
  rintro e w1 ⟨v1, rfl, hd1, hb1⟩
  have Hd1 := Lib.hid hd1
  have Hb1 := Lib.hid hb1
  clear hd1 hb1
  go_wp2_with fail
  refine (clique_bad H14.out _ _ (OwnInts.ints Hd1.out)).mono ?_
  rintro e w' ⟨rfl, rfl⟩
  go_wp2_with fail
  refine (of_any _ _ _ (Ints.keep Hv.out Hb1.out)).mono ?_
  rintro e w2 ⟨v2, rfl, hd2, hb2⟩
  have Hd2 := Lib.hid hd2
  have Hb2 := Lib.hid (Below.tr Hb1.out hb2)
  clear hd2 hb2
  go_wp2_with fail
  refine (coloursE_bad H14.out _ _ (OwnInts.ints Hd2.out)).mono ?_
  rintro e w' ⟨rfl, rfl⟩
  go_wp2_with fail
  refine (of_any _ _ _ (Ints.keep Hv.out Hb2.out)).mono ?_
  rintro e w3 ⟨v3, rfl, hd3, hb3⟩
  have Hd3 := Lib.hid hd3
  have Hb3 := Lib.hid (Below.tr Hb2.out hb3)
  clear hd3 hb3
  go_wp2_with fail
  refine (few_any l2 _ _ (Ints.keep Hu.out Hb3.out)).mono ?_
  rintro e w4 ⟨v4, rfl, hd4, hb4⟩
  have Hd3b := Lib.hid (Ints.keep (OwnInts.ints Hd3.out) hb4)
  have Hb4 := Lib.hid (Below.tr Hb3.out hb4)
  clear hd4 hb4
  go_wp2_with fail
  refine (checkColours_bad H14.out _ _ _ Hd3b.out).mono ?_
  rintro e w' ⟨rfl, rfl⟩
  go_wp2_with fail
  refine (validR_b (decide_eq_false H.out) _ _ (Ints.keep Hv.out Hb4.out)).mono ?_
  rintro e w' ⟨rfl, rfl⟩
  go_wp2_with fail
  refine (awake_any _).mono ?_
  rintro e w5 ⟨rfl, hb5⟩
  have Hb5 := Lib.hid (Below.tr Hb4.out hb5)
  clear hb5
  go_wp2_with fail
  go_ret
  exact ⟨rfl, Hb5.out⟩
set_option maxRecDepth 100000 in
set_option maxHeartbeats 2000000 in
theorem colours_no {g : List Nat} (hg : Gr g) (hc : ¬ Chordal g) (l2 : List Int) (v u : Value) (w : World) (hv : Ints w v (castN g)) (hu : Ints w u l2) :
    Calls Try.prog 5 #[v, u] w fun e w' => e = .returned (.bool true) ∧ Below w.heap.size w w' := by
  have Hv := Lib.hid hv
  have Hu := Lib.hid hu
  have HG := Lib.hid hg
  have H14 := Lib.hid (grI_take_eq (grI_of hg))
  have HT := Lib.hid (isCol_take hg l2)
  have Hcl := Lib.hid (fun v w hv => clique_any hg v w hv)
  have HclR := Lib.hid (fun v w hv => cliqueR_best hg v w hv)
  generalize bestTo (isC g) (2 ^ g.length) = B at Hcl HclR
  have Hcc := Lib.hid (fun v u w hv hu => checkColours_any hg (l2.take 14) v u w hv hu)
  have HcR := Lib.hid (fun v u w hv hu => coloured_any hg l2 v u w hv hu)
  rw [HT.out.1, HT.out.2] at Hcc
  generalize colN g l2 = N at Hcc HcR
  generalize decide (IsCol g l2) = b at Hcc HcR
  have HC := Lib.hid hc
  clear hc
  clear hv hu hg HT
  have qB : ((B : Int) != (B : Int)) = false := by simp
  have qN : ((N : Int) != (N : Int)) = false := by simp
  have qb : (b != b) = false := by simp
  go_enter Try.func5, Try.ntmps5
  go_wp2_with fail
  refine (of_any _ _ _ Hv.out).mono ?_
  rintro e w1 ⟨v1, rfl, hd1, hb1⟩
  rw [H14.out] at hd1
  have Hd1 := Lib.hid hd1
  have Hb1 := Lib.hid hb1
  clear hd1 hb1
  go_wp2_with fail
  refine (Hcl.out _ _ (OwnInts.ints Hd1.out)).mono ?_
  rintro e w' ⟨rfl, rfl⟩
  go_wp2_with fail
  refine (of_any _ _ _ (Ints.keep Hv.out Hb1.out)).mono ?_
  rintro e w2 ⟨v2, rfl, hd2, hb2⟩
  rw [H14.out] at hd2
  have Hd2 := Lib.hid hd2
  have Hb2 := Lib.hid (Below.tr Hb1.out hb2)
  clear hd2 hb2
  go_wp2_with fail
  refine (coloursE_no HG.out HC.out _ _ (OwnInts.ints Hd2.out)).mono ?_
  rintro e w3 ⟨rfl, hb3⟩
  have Hb3 := Lib.hid (Below.tr Hb2.out hb3)
  clear hb3
  go_wp2_with fail
  refine (of_any _ _ _ (Ints.keep Hv.out Hb3.out)).mono ?_
  rintro e w4 ⟨v4, rfl, hd4, hb4⟩
  rw [H14.out] at hd4
  have Hd4 := Lib.hid hd4
  have Hb4 := Lib.hid (Below.tr Hb3.out hb4)
  have hk4 := hb4
  clear hd4 hb4
  clear hk4
  go_wp2_with fail
  refine (few_any l2 _ _ (Ints.keep Hu.out Hb4.out)).mono ?_
  rintro e w5 ⟨v5, rfl, hd5, hb5⟩
  have Hd4b := Lib.hid (Ints.keep (OwnInts.ints Hd4.out) hb5)
  have Hd5 := Lib.hid (OwnInts.ints hd5)
  have Hb5 := Lib.hid (Below.tr Hb4.out hb5)
  clear hd5 hb5
  go_wp2_with fail
  refine (Hcc.out _ _ _ Hd4b.out Hd5.out).mono ?_
  rintro e w' ⟨rfl, rfl⟩
  go_wp2_with fail
  refine (validR_b (decide_eq_true (grI_of HG.out)) _ _ (Ints.keep Hv.out Hb5.out)).mono ?_
  rintro e w' ⟨rfl, rfl⟩
  go_wp2_with fail
  refine (HcR.out _ _ _ (Ints.keep Hv.out Hb5.out) (Ints.keep Hu.out Hb5.out)).mono ?_
  rintro e w' ⟨rfl, rfl⟩
  go_wp2_with fail
  refine (HclR.out _ _ (Ints.keep Hv.out Hb5.out)).mono ?_
  rintro e w6 ⟨rfl, q6, hw6⟩
  have hk6 : Below w5.heap.size w5 w6 := by rw [hw6]; exact bdrewN (Below.refl _ _) _
  have Hb6 := Lib.hid (Below.tr Hb5.out hk6)
  clear hw6 hk6
  go_wp2_with fail
  refine (awake_any _).mono ?_
  rintro e w7 ⟨rfl, hb7⟩
  have Hb7 := Lib.hid (Below.tr Hb6.out hb7)
  clear hb7
  go_wp2_with fail
  refine (isR_any HG.out false (decide_eq_false HC.out) _ _ (Ints.keep Hv.out Hb7.out)).mono ?_
  rintro e w8 ⟨rfl, hb8⟩
  have Hb8 := Lib.hid (Below.tr Hb7.out hb8)
  clear hb8
  go_wp2_with fail
  go_ret
  exact ⟨rfl, Hb8.out⟩
set_option maxRecDepth 100000 in
set_option maxHeartbeats 2000000 in
theorem colours_yes {g : List Nat} (hg : Gr g) (hc : Chordal g) (hs : ColoursAt g) (l2 : List Int) (v u : Value) (w : World) (hv : Ints w v (castN g)) (hu : Ints w u l2) :
    Calls Try.prog 5 #[v, u] w fun e w' => e = .returned (.bool true) ∧ Below w.heap.size w w' := by
  have Hv := Lib.hid hv
  have Hu := Lib.hid hu
  have HG := Lib.hid hg
  have H14 := Lib.hid (grI_take_eq (grI_of hg))
  have HT := Lib.hid (isCol_take hg l2)
  have Hcl := Lib.hid (fun v w hv => clique_any hg v w hv)
  have HclR := Lib.hid (fun v w hv => cliqueR_best hg v w hv)
  generalize bestTo (isC g) (2 ^ g.length) = B at Hcl HclR
  have Hcc := Lib.hid (fun v u w hv hu => checkColours_any hg (l2.take 14) v u w hv hu)
  have HcR := Lib.hid (fun v u w hv hu => coloured_any hg l2 v u w hv hu)
  rw [HT.out.1, HT.out.2] at Hcc
  generalize colN g l2 = N at Hcc HcR
  generalize decide (IsCol g l2) = b at Hcc HcR
  have HC := Lib.hid hc
  have HS := Lib.hid hs
  obtain ⟨r, hr⟩ := cf_chordal hg hc
  have HR := Lib.hid hr
  clear hc hs hr
  clear hv hu hg HT
  have qB : ((B : Int) != (B : Int)) = false := by simp
  have qN : ((N : Int) != (N : Int)) = false := by simp
  have qb : (b != b) = false := by simp
  go_enter Try.func5, Try.ntmps5
  go_wp2_with fail
  refine (of_any _ _ _ Hv.out).mono ?_
  rintro e w1 ⟨v1, rfl, hd1, hb1⟩
  rw [H14.out] at hd1
  have Hd1 := Lib.hid hd1
  have Hb1 := Lib.hid hb1
  clear hd1 hb1
  go_wp2_with fail
  refine (Hcl.out _ _ (OwnInts.ints Hd1.out)).mono ?_
  rintro e w' ⟨rfl, rfl⟩
  go_wp2_with fail
  refine (of_any _ _ _ (Ints.keep Hv.out Hb1.out)).mono ?_
  rintro e w2 ⟨v2, rfl, hd2, hb2⟩
  rw [H14.out] at hd2
  have Hd2 := Lib.hid hd2
  have Hb2 := Lib.hid (Below.tr Hb1.out hb2)
  clear hd2 hb2
  go_wp2_with fail
  refine (coloursE_any HG.out HC.out HR.out HS.out _ _ (OwnInts.ints Hd2.out)).mono ?_
  rintro e w3 ⟨a3, rfl, ha3, hb3⟩
  obtain ⟨aa, ac, rfl⟩ := ints_slice ha3
  have Ha3 := Lib.hid ha3
  have Hb3 := Lib.hid (Below.tr Hb2.out hb3)
  clear ha3 hb3
  go_wp2_with fail
  refine (of_any _ _ _ (Ints.keep Hv.out Hb3.out)).mono ?_
  rintro e w4 ⟨v4, rfl, hd4, hb4⟩
  rw [H14.out] at hd4
  have Hd4 := Lib.hid hd4
  have Hb4 := Lib.hid (Below.tr Hb3.out hb4)
  have hk4 := hb4
  clear hd4 hb4
  have Ha4 := Lib.hid (Ints.keep Ha3.out (show Below w3.heap.size w3 w4 from hk4))
  clear hk4
  go_wp2_with fail
  refine (few_any l2 _ _ (Ints.keep Hu.out Hb4.out)).mono ?_
  rintro e w5 ⟨v5, rfl, hd5, hb5⟩
  have Hd4b := Lib.hid (Ints.keep (OwnInts.ints Hd4.out) hb5)
  have Hd5 := Lib.hid (OwnInts.ints hd5)
  have Hb5 := Lib.hid (Below.tr Hb4.out hb5)
  have Ha5 := Lib.hid (Ints.keep Ha4.out hb5)
  clear hd5 hb5
  go_wp2_with fail
  refine (Hcc.out _ _ _ Hd4b.out Hd5.out).mono ?_
  rintro e w' ⟨rfl, rfl⟩
  go_wp2_with fail
  refine (validR_b (decide_eq_true (grI_of HG.out)) _ _ (Ints.keep Hv.out Hb5.out)).mono ?_
  rintro e w' ⟨rfl, rfl⟩
  go_wp2_with fail
  refine (HcR.out _ _ _ (Ints.keep Hv.out Hb5.out) (Ints.keep Hu.out Hb5.out)).mono ?_
  rintro e w' ⟨rfl, rfl⟩
  go_wp2_with fail
  refine (HclR.out _ _ (Ints.keep Hv.out Hb5.out)).mono ?_
  rintro e w6 ⟨rfl, q6, hw6⟩
  have hk6 : Below w5.heap.size w5 w6 := by rw [hw6]; exact bdrewN (Below.refl _ _) _
  have Hb6 := Lib.hid (Below.tr Hb5.out hk6)
  have Ha6 := Lib.hid (Ints.keep Ha5.out hk6)
  clear hw6 hk6
  go_wp2_with fail
  refine (awake_any _).mono ?_
  rintro e w7 ⟨rfl, hb7⟩
  have Hb7 := Lib.hid (Below.tr Hb6.out hb7)
  have Ha7 := Lib.hid (Ints.keep Ha6.out hb7)
  clear hb7
  go_wp2_with fail
  refine (isR_any HG.out true (decide_eq_true HC.out) _ _ (Ints.keep Hv.out Hb7.out)).mono ?_
  rintro e w8 ⟨rfl, hb8⟩
  have Hb8 := Lib.hid (Below.tr Hb7.out hb8)
  have Ha8 := Lib.hid (Ints.keep Ha7.out hb8)
  clear hb8
  go_wp2_with fail
  refine (coloursR_any HG.out HR.out _ _ (Ints.keep Hv.out Hb8.out)).mono ?_
  rintro e w9 ⟨v9, rfl, hi9, hb9⟩
  obtain ⟨a9, c9, rfl⟩ := ints_slice hi9
  have Hi9 := Lib.hid hi9
  have Ha9 := Lib.hid (Ints.keep Ha8.out hb9)
  have Hb9 := Lib.hid (Below.tr Hb8.out hb9)
  clear hi9 hb9
  go_wp2_with fail
  refine (equal_yes rfl _ _ _ Ha9.out Hi9.out).mono ?_
  rintro e w10 ⟨rfl, hb10⟩
  have Hb10 := Lib.hid (Below.tr Hb9.out hb10)
  clear hb10
  go_wp2_with fail
  go_ret
  exact ⟨rfl, Hb10.out⟩
theorem colours_any (hs : ∀ g, Gr g → Chordal g → ColoursAt g) (l l2 : List Int) (v u : Value) (w : World) (hv : Ints w v l) (hu : Ints w u l2) :
    Calls Try.prog 5 #[v, u] w fun e w' => e = .returned (.bool true) ∧ Below w.heap.size w w' := by
  by_cases h : GrI l
  · obtain ⟨g, hg, rfl⟩ := grI_nat h
    by_cases hc : Chordal g
    · exact colours_yes hg hc (hs g hg hc) l2 v u w hv hu
    · exact colours_no hg hc l2 v u w hv hu
  · exact colours_bad h l2 v u w hv hu
#print axioms colours_any
end Go.Proofs.Ytkjpbjbheocciaa
