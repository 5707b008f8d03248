/- ChordalHoles: for every input the law returns true. -/
import Derived.Test.YtkjpbjbheocciaaHf
import Derived.Test.YtkjpbjbheocciaaFrame
import Derived.Test.YtkjpbjbheocciaaRows
namespace Go.Proofs.Ytkjpbjbheocciaa
open Go.RowKit

theorem grI_take {l : List Int} : GrI (l.take 14) ↔ GrI l := by
  by_cases h : l.length ≤ 14
  · rw [List.take_of_length_le h]
  · constructor
    · intro hg; have := hg.1.2; simp at this; omega
    · intro hg; have := hg.1.2; omega
theorem grI_take_eq {l : List Int} (h : GrI l) : l.take 14 = l := List.take_of_length_le (by have := h.1.2; omega)
theorem isHole_take {g : List Nat} (hg : Gr g) (l : List Int) : decide (IsHoleI g (l.take 14)) = decide (IsHoleI g l) := by
  by_cases h : l.length ≤ 14
  · rw [List.take_of_length_le h]
  · have := hg.le
    rw [decide_eq_false (fun hh => by have := isHole_len hh; simp at this; omega), decide_eq_false (fun hh => by have := isHole_len hh; omega)]
set_option maxRecDepth 100000 in
theorem holes_bad {l : List Int} (h : ¬ GrI l) (l2 : List Int) (v u : Value) (w : World) (hv : Ints w v l) (hu : Ints w u l2) :
    Calls Try.prog 4 #[v, u] w fun e w' => e = .returned (.bool true) ∧ Below w.heap.size w w' := by
  have Hv := Lib.hid hv
  have Hu := Lib.hid hu
  have H := Lib.hid h
  have H14 := Lib.hid (show ¬ GrI (l.take 14) from fun hh => h (grI_take.1 hh))
  clear hv hu h
  go_enter Try.func4, Try.ntmps4
  go_wp2_with fail
  refine (of_any l _ _ Hv.out).mono ?_
  rintro e w1 ⟨v1, rfl, hd1, hb1⟩
  have Hd1 := Lib.hid hd1
  have Hb1 := Lib.hid hb1
  clear hd1 hb1
  go_wp2_with fail
  refine (holeE_bad H14.out _ _ (OwnInts.ints Hd1.out)).mono ?_
  rintro e w' ⟨rfl, rfl⟩
  go_wp2_with fail
  refine (of_any l _ _ (Ints.keep Hv.out Hb1.out)).mono ?_
  rintro e w2 ⟨v2, rfl, hd2, hb2⟩
  have Hd2 := Lib.hid hd2
  have Hb2 := Lib.hid (Below.tr Hb1.out hb2)
  clear hd2 hb2
  go_wp2_with fail
  refine (few_any l2 _ _ (Ints.keep Hu.out Hb2.out)).mono ?_
  rintro e w3 ⟨v3, rfl, hd3, hb3⟩
  have Hd2b := Lib.hid (Ints.keep (OwnInts.ints Hd2.out) hb3)
  have Hb3 := Lib.hid (Below.tr Hb2.out hb3)
  clear hd3 hb3
  go_wp2_with fail
  refine (checkHole_bad H14.out _ _ _ Hd2b.out).mono ?_
  rintro e w' ⟨rfl, rfl⟩
  go_wp2_with fail
  refine (validR_b (decide_eq_false H.out) _ _ (Ints.keep Hv.out Hb3.out)).mono ?_
  rintro e w' ⟨rfl, rfl⟩
  go_wp2_with fail
  refine (awake_any _).mono ?_
  rintro e w4 ⟨rfl, hb4⟩
  have Hb4 := Lib.hid (Below.tr Hb3.out hb4)
  clear hb4
  go_wp2_with fail
  go_ret
  exact ⟨rfl, Hb4.out⟩
set_option maxRecDepth 100000 in
theorem holes_good {g : List Nat} (hg : Gr g) (l2 : List Int) (v u : Value) (w : World) (hv : Ints w v (castN g)) (hu : Ints w u l2) :
    Calls Try.prog 4 #[v, u] w fun e w' => e = .returned (.bool true) ∧ Below w.heap.size w w' := by
  have Hv := Lib.hid hv
  have Hu := Lib.hid hu
  have HG := Lib.hid hg
  have H14 := Lib.hid (grI_take_eq (grI_of hg))
  have HT := Lib.hid (isHole_take hg l2)
  clear hv hu hg
  go_enter Try.func4, Try.ntmps4
  go_wp2_with fail
  refine (of_any _ _ _ Hv.out).mono ?_
  rintro e w1 ⟨v1, rfl, hd1, hb1⟩
  rw [H14.out] at hd1
  have Hd1 := Lib.hid hd1
  have Hb1 := Lib.hid hb1
  clear hd1 hb1
  go_wp2_with fail
  refine (holeE_any HG.out _ _ (OwnInts.ints Hd1.out)).mono ?_
  rintro e w1b ⟨a1, rfl, ha1, hb1b⟩
  obtain ⟨aa, ac, rfl⟩ := ints_slice ha1
  have Ha1 := Lib.hid ha1
  have Hb1b := Lib.hid (Below.tr Hb1.out hb1b)
  obtain ⟨c1, hc1⟩ : ∃ c : Int, c = holeErr (hole g) := ⟨_, rfl⟩
  rw [← hc1]
  have Hc1 := Lib.hid hc1
  clear ha1 hb1b hc1
  generalize (castN ((hole g).getD [])).length = n1 at *
  go_wp2_with fail
  refine (of_any _ _ _ (Ints.keep Hv.out Hb1b.out)).mono ?_
  rintro e w2 ⟨v2, rfl, hd2, hb2⟩
  rw [H14.out] at hd2
  have Hd2 := Lib.hid hd2
  have Ha2 := Lib.hid (Ints.keep Ha1.out hb2)
  have Hb2 := Lib.hid (Below.tr Hb1b.out hb2)
  clear hd2 hb2 Ha1
  go_wp2_with fail
  refine (few_any l2 _ _ (Ints.keep Hu.out Hb2.out)).mono ?_
  rintro e w3 ⟨v3, rfl, hd3, hb3⟩
  have Hd2b := Lib.hid (Ints.keep (OwnInts.ints Hd2.out) hb3)
  have Ha3 := Lib.hid (Ints.keep Ha2.out hb3)
  have Hd3 := Lib.hid (OwnInts.ints hd3)
  have Hb3 := Lib.hid (Below.tr Hb2.out hb3)
  clear hd3 hb3 Ha2
  go_wp2_with fail
  refine (checkHole_any HG.out _ _ _ _ Hd2b.out Hd3.out).mono ?_
  rw [HT.out]
  rintro e w3b ⟨rfl, q3, hw3⟩
  have Ha3 := Lib.hid (Ints.keep Ha3.out (show Below w3.heap.size w3 w3b by rw [hw3]; exact bdrewN (Below.refl _ _) _))
  have Hb3 := Lib.hid (show Below w.heap.size w w3b by rw [hw3]; exact bdrewN Hb3.out _)
  clear hw3
  obtain ⟨b1, hb1⟩ : ∃ b : Bool, b = decide (IsHoleI g l2) := ⟨_, rfl⟩
  rw [← hb1]
  have HB1 := Lib.hid hb1
  clear hb1
  go_wp2_with fail
  refine (validR_b (decide_eq_true (grI_of HG.out)) _ _ (Ints.keep Hv.out Hb3.out)).mono ?_
  rintro e w' ⟨rfl, rfl⟩
  go_wp2_with fail
  refine (holeR_any HG.out _ _ (Ints.keep Hv.out Hb3.out)).mono ?_
  rintro e w4 ⟨a4, rfl, ha4, hb4⟩
  obtain ⟨a4a, a4c, rfl⟩ := ints_slice ha4
  rw [← Hc1.out]
  have Ha4 := Lib.hid ha4
  have Ha5 := Lib.hid (Ints.keep Ha3.out hb4)
  have Hb4 := Lib.hid (Below.tr Hb3.out hb4)
  clear ha4 hb4 Ha3
  generalize (castN ((hole g).getD [])).length = n4 at *
  go_wp2_with fail
  refine (equal_yes rfl _ _ _ Ha5.out Ha4.out).mono ?_
  rintro e w5 ⟨rfl, hb5⟩
  have Hb5 := Lib.hid (Below.tr Hb4.out hb5)
  clear hb5
  have q1 : (c1 == c1) = true := by simp
  go_wp2_with fail
  refine (isHoleR_any HG.out l2 _ _ _ (Ints.keep Hv.out Hb5.out) (Ints.keep Hu.out Hb5.out)).mono ?_
  rw [← HB1.out]
  rintro e w6 ⟨rfl, q6, hw6⟩
  have Hb6 := Lib.hid (show Below w.heap.size w w6 by rw [hw6]; exact bdrewN Hb5.out _)
  clear hw6
  have q2 : (b1 == b1) = true := by simp
  go_wp2_with fail
  refine (awake_any _).mono ?_
  rintro e w7 ⟨rfl, hb7⟩
  have Hb7 := Lib.hid (Below.tr Hb6.out hb7)
  clear hb7
  go_wp2_with fail
  go_ret
  exact ⟨rfl, Hb7.out⟩
theorem holes_any (l l2 : List Int) (v u : Value) (w : World) (hv : Ints w v l) (hu : Ints w u l2) :
    Calls Try.prog 4 #[v, u] w fun e w' => e = .returned (.bool true) ∧ Below w.heap.size w w' := by
  by_cases h : GrI l
  · obtain ⟨g, hg, rfl⟩ := grI_nat h
    exact holes_good hg l2 v u w hv hu
  · exact holes_bad h l2 v u w hv hu

namespace chordalHoles
open Go.ChangeShapes Go.WideShapes Go.ChangeAt
set_option maxRecDepth 100000 in
theorem lifted (os : Os) (started : os.Started) (H : Type) (enc : TypeId × Value → H) :
    ReturnsInHanded {} Try.checked os 4 .any (Rows.chordalHolesSpec.pre6 enc Try.prog Try.f4 Rows.chordalHolesRow.domain false) (Rows.chordalHolesSpec.post enc Try.prog Try.f4 false true false false) := by
  refine returnsInHanded_of_change (C := Try.checked) Try.own started (by kernel_rfl) Try.func4
    (ChangeSpec.witness6 (enc := enc) (C := Try.checked) false ⟨#[], #[.slice none 0 0, .slice none 0 0], []⟩ 8 (by kernel_rfl) (by kernel_rfl) (by kernel_rfl) (by kernel_rfl)) ?_
  intro W base args ds gs before hval0 hW _ _
  have hval : ∀ (j : Nat) t v, Try.f4.params[j]? = some t → args[j]? = some v → Value.okWide Try.prog W .any base t v := hval0
  clear hval0
  obtain rfl : gs = [] := by obtain ⟨p, q, _, hV, _⟩ := hW; exact (trodVars_none hV).1
  have hW' := hW
  obtain ⟨p, q, hA0, hV, rfl, hfz, hnd⟩ := hW
  have hA : DataW.TrodAll enc Try.prog W 0 (fun _ => true) true Try.f4.params.toList args.toList ds p := hA0
  rw [Try.params4] at hA hval
  obtain ⟨v0, vs0, d0, ds0, p0, q0, hv0, hd0, hp0, h0, r0⟩ := trodAll_cons hA
  obtain ⟨v1, vs1, d1, ds1, p1, q1, hv1, hd1, hp1, h1, r1⟩ := trodAll_cons r0
  obtain ⟨hvn, hdn, hpn⟩ := trodAll_nil r1
  have ha : args = #[v0, v1] := by cases args; simp_all
  have hdd : ds = [d0, d1] := by simp_all
  rw [ha] at hval
  obtain ⟨a0, k0⟩ := ints_of_trod Try.underlying23 Try.underlying3 Try.cells3 (okWide_slice Try.underlying23 (hval 0 23 v0 rfl rfl)) h0
  obtain ⟨a1, k1⟩ := ints_of_trod Try.underlying22 Try.underlying3 Try.cells3 (okWide_slice Try.underlying22 (hval 1 22 v1 rfl rfl)) h1
  have hw : Calls Try.prog 4 args W (fun e W' => e = .returned (.bool true) ∧ Below W.heap.size W W') := by
    rw [ha]; exact holes_any a0 a1 v0 v1 W k0 k1
  exact hw.mono fun e W' ⟨he, hb⟩ => ⟨_, he, law_post Try.laidOut hW' rfl rfl Try.underlying4 (by rw [hdd]; rfl)
    (by kernel_rfl) hb⟩

theorem holds : Rows.ChordalHolesSaid :=
  OpenClaim.holds_of_wide 4 Try.f4 rfl rfl rfl rfl rfl rfl rfl ⟨rfl, rfl, rfl, rfl, rfl⟩ rfl rfl rfl rfl rfl (by kernel_rfl) Try.func4 (by kernel_rfl)
    (of_decide_eq_true (by kernel_rfl)) (by unfold Func.isWrapper; first | (rw [if_pos (by decide +kernel)]; kernel_rfl) | (rw [if_neg (by decide +kernel)]; exact ⟨rfl, rfl⟩))
    (fun os started H enc _ => lifted os started H enc)
#print axioms holds
end chordalHoles
end Go.Proofs.Ytkjpbjbheocciaa
