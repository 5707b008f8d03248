/- DependChecks: for every input the law returns true. -/
import Derived.Test.YtnidalbfmicoiaaWalkSg
import Derived.Test.YtnidalbfmicoiaaWalkSe
import Derived.Test.YtnidalbfmicoiaaFrameS
import Derived.Test.YtnidalbfmicoiaaRows
namespace Go.Proofs.Ytnidalbfmicoiaa
open Go.RowKit

theorem check_any (m : Nat) (l : List (Int × Int)) (p : List Stp) (v u : Value) (w : World) (hv : Deps w v l) (hu : Steps w u p) (hgood : ValidP m l []) :
    Calls Try.prog 37 #[.int .i64 m, v, u] w fun e w' => e = .returned (.tuple #[.bool (decide (ProofOk m l p)), .int .i64 0]) ∧ Below w.heap.size w w' := by
  by_cases hp : 1 ≤ p.length ∧ p.length ≤ 100
  · exact check_good m l p v u w hv hu hgood hp.1 hp.2
  · refine (check_len m l p v u w hv hu hgood hp).mono fun e w' h => ?_
    rw [decide_eq_false fun h => hp h.2]; exact h
theorem proof_take {n : Int} {l : List (Int × Int)} {p : List Stp} : decide (ProofOk n l (p.take 102)) = decide (ProofOk n l p) := by
  by_cases h : p.length ≤ 102
  · rw [List.take_of_length_le h]
  · rw [decide_eq_false (fun hp => by have := hp.2.2; simp at this; omega), decide_eq_false (fun hp => by have := hp.2.2; omega)]
theorem valid_take2 {n : Int} {l : List (Int × Int)} {s : List Int} : ValidP n (l.take 14) s ↔ ValidP n l s := by
  by_cases h : l.length ≤ 14
  · rw [List.take_of_length_le h]
  · constructor
    · intro hv
      have := hv.1.2.2
      simp at this
      omega
    · intro hv
      have := hv.1.2.2
      omega
set_option maxRecDepth 100000 in
theorem checks_bad (n : Int) (l : List (Int × Int)) (p : List Stp) (v u : Value) (w : World) (hv : Deps w v l) (hu : Steps w u p) (h : ¬ ValidP n l []) :
    Calls Try.prog 5 #[.int .i64 n, v, u] w fun e w' => e = .returned (.bool true) ∧ Below w.heap.size w w' := by
  have Hv := Lib.hid hv
  have Hu := Lib.hid hu
  have H := Lib.hid h
  have H14 := Lib.hid (show ¬ ValidP n (l.take 14) [] from fun hh => h (valid_take2.1 hh))
  clear hv hu h
  go_enter Try.func5, Try.ntmps5
  go_wp2_with fail
  refine (deps_any _ _ _ Hv.out).mono ?_
  rintro e w1 ⟨v1, rfl, hd1, hb1⟩
  have Hb1 := Lib.hid hb1
  have Hd1 := Lib.hid hd1
  clear hb1 hd1
  go_wp2_with fail
  refine (steps_any _ _ _ (Steps.keep Hu.out Hb1.out)).mono ?_
  rintro e w2 ⟨u2, rfl, hs2, hb2⟩
  have Hd2 := Lib.hid (Deps.keep Hd1.out hb2)
  have Hb2 := Lib.hid (Below.tr Hb1.out hb2)
  clear hb2 hs2
  go_wp2_with fail
  refine (check_bad n _ _ _ _ Hd2.out H14.out).mono ?_
  rintro e w3 ⟨rfl, hb3⟩
  have Hb3 := Lib.hid (Below.tr Hb2.out hb3)
  clear hb3
  go_wp2_with fail
  refine (validR_any _ _ _ _ (Deps.keep Hv.out Hb3.out)).mono ?_
  rw [decide_eq_false H.out]
  rintro e w4 ⟨rfl, hb4⟩
  have Hb4 := Lib.hid (Below.tr Hb3.out hb4)
  clear hb4
  go_wp2_with fail
  refine (awake_any _).mono ?_
  rintro e w5 ⟨rfl, hb5⟩
  have Hb5 := Lib.hid (Below.tr Hb4.out hb5)
  clear hb5
  go_wp2_with fail
  go_ret
  exact ⟨rfl, Hb5.out⟩
set_option maxRecDepth 100000 in
theorem checks_good (m : Nat) (l : List (Int × Int)) (p : List Stp) (v u : Value) (w : World) (hv : Deps w v l) (hu : Steps w u p) (h : ValidP m l []) :
    Calls Try.prog 5 #[.int .i64 m, v, u] w fun e w' => e = .returned (.bool true) ∧ Below w.heap.size w w' := by
  have Hv := Lib.hid hv
  have Hu := Lib.hid hu
  have H := Lib.hid h
  have hm8 : m ≤ 8 := by have := h.1.2.1; omega
  have H14 := Lib.hid (show l.take 14 = l from List.take_of_length_le (by have := h.1.2.2; omega))
  have HP := Lib.hid (proof_take (n := m) (l := l) (p := p))
  obtain ⟨b, hb⟩ : ∃ b, b = decide (ProofOk m l p) := ⟨_, rfl⟩
  have HB := Lib.hid hb
  clear hv hu h hb
  go_enter Try.func5, Try.ntmps5
  go_wp2_with fail
  refine (deps_any _ _ _ Hv.out).mono ?_
  rintro e w1 ⟨v1, rfl, hd1, hb1⟩
  rw [H14.out] at hd1
  have Hb1 := Lib.hid hb1
  have Hd1 := Lib.hid hd1
  clear hb1 hd1
  go_wp2_with fail
  refine (steps_any _ _ _ (Steps.keep Hu.out Hb1.out)).mono ?_
  rintro e w2 ⟨u2, rfl, hs2, hb2⟩
  have Hd2 := Lib.hid (Deps.keep Hd1.out hb2)
  have Hb2 := Lib.hid (Below.tr Hb1.out hb2)
  have Hs2 := Lib.hid hs2
  clear hb2 hs2
  go_wp2_with fail
  refine (check_any m _ _ _ _ _ Hd2.out Hs2.out H.out).mono ?_
  rw [HP.out, ← HB.out]
  rintro e w3 ⟨rfl, hb3⟩
  have Hb3 := Lib.hid (Below.tr Hb2.out hb3)
  clear hb3
  go_wp2_with fail
  refine (validR_any _ _ _ _ (Deps.keep Hv.out Hb3.out)).mono ?_
  rw [decide_eq_true H.out]
  rintro e w4 ⟨rfl, hb4⟩
  have Hb4 := Lib.hid (Below.tr Hb3.out hb4)
  clear hb4
  go_wp2_with fail
  refine (proofR_any m hm8 _ _ _ _ _ (Deps.keep Hv.out Hb4.out) (Steps.keep Hu.out Hb4.out)).mono ?_
  rw [← HB.out]
  rintro e w5 ⟨rfl, hb5⟩
  have Hb5 := Lib.hid (Below.tr Hb4.out hb5)
  clear hb5
  have q : (b == b) = true := by simp
  go_wp2_with fail
  refine (awake_any _).mono ?_
  rintro e w6 ⟨rfl, hb6⟩
  have Hb6 := Lib.hid (Below.tr Hb5.out hb6)
  clear hb6
  go_wp2_with fail
  go_ret
  exact ⟨rfl, Hb6.out⟩
theorem checks_any (n : Int) (l : List (Int × Int)) (p : List Stp) (v u : Value) (w : World) (hv : Deps w v l) (hu : Steps w u p) :
    Calls Try.prog 5 #[.int .i64 n, v, u] w fun e w' => e = .returned (.bool true) ∧ Below w.heap.size w w' := by
  by_cases h : ValidP n l []
  · obtain ⟨m, rfl⟩ := Int.eq_ofNat_of_zero_le (show 0 ≤ n by have := h.1.1; omega)
    exact checks_good m l p v u w hv hu h
  · exact checks_bad n l p v u w hv hu h

namespace dependChecks
open Go.ChangeShapes Go.WideShapes Go.ChangeAt
set_option maxRecDepth 100000 in
theorem lifted (os : Os) (started : os.Started) (H : Type) (enc : TypeId × Value → H) :
    ReturnsInHanded {} Try.checked os 5 .any (Rows.dependChecksSpec.pre6 enc Try.prog Try.f5 Rows.dependChecksRow.domain false) (Rows.dependChecksSpec.post enc Try.prog Try.f5 false true false false) := by
  refine returnsInHanded_of_change (C := Try.checked) Try.own started (by kernel_rfl) Try.func5
    (ChangeSpec.witness6 (enc := enc) (C := Try.checked) false ⟨#[], #[.int .i64 0, .slice none 0 0, .slice none 0 0], []⟩ 8 (by kernel_rfl) (by kernel_rfl) (by kernel_rfl) (by kernel_rfl)) ?_
  intro W base args ds gs before hval0 hW _ _
  have hval : ∀ (j : Nat) t v, Try.f5.params[j]? = some t → args[j]? = some v → Value.okWide Try.prog W .any base t v := hval0
  clear hval0
  obtain rfl : gs = [] := by obtain ⟨p, q, _, hV, _⟩ := hW; exact (trodVars_none hV).1
  have hW' := hW
  obtain ⟨p, q, hA0, hV, rfl, hfz, hnd⟩ := hW
  have hA : DataW.TrodAll enc Try.prog W 0 (fun _ => true) true Try.f5.params.toList args.toList ds p := hA0
  rw [Try.params5] at hA hval
  obtain ⟨v0, vs0, d0, ds0, p0, q0, hv0, hd0, hp0, h0, r0⟩ := trodAll_cons hA
  obtain ⟨v1, vs1, d1, ds1, p1, q1, hv1, hd1, hp1, h1, r1⟩ := trodAll_cons r0
  obtain ⟨v2, vs2, d2, ds2, p2, q2, hv2, hd2, hp2, h2, r2⟩ := trodAll_cons r1
  obtain ⟨hvn, hdn, hpn⟩ := trodAll_nil r2
  have ha : args = #[v0, v1, v2] := by cases args; simp_all
  have hdd : ds = [d0, d1, d2] := by simp_all
  rw [ha] at hval
  obtain ⟨a0, e0, -, -, w0⟩ := open_int Try.underlying3 (hval 0 3 v0 rfl rfl) h0
  obtain ⟨a1, k1⟩ := deps_of_trod Try.underlying22 Try.underlying24 ⟨rfl, rfl⟩ ⟨rfl, rfl⟩ Try.underlying3 Try.cells3 Try.cells24 (okWide_slice Try.underlying22 (hval 1 22 v1 rfl rfl)) h1
  obtain ⟨a2, k2⟩ := steps_of_trod_try (okWide_slice Try.underlying50 (hval 2 50 v2 rfl rfl)) h2
  have hw : Calls Try.prog 5 args W (fun e W' => e = .returned (.bool true) ∧ Below W.heap.size W W') := by
    rw [ha, e0]; exact checks_any a0 a1 a2 v1 v2 W k1 k2
  exact hw.mono fun e W' ⟨he, hb⟩ => ⟨_, he, law_post Try.laidOut hW' rfl rfl Try.underlying4 (by rw [hdd]; rfl)
    (by kernel_rfl) hb⟩

theorem holds : Rows.DependChecksSaid :=
  OpenClaim.holds_of_wide 5 Try.f5 rfl rfl rfl rfl rfl rfl rfl ⟨rfl, rfl, rfl, rfl, rfl⟩ rfl rfl rfl rfl rfl (by kernel_rfl) Try.func5 (by kernel_rfl)
    (of_decide_eq_true (by kernel_rfl)) (by unfold Func.isWrapper; first | (rw [if_pos (by decide +kernel)]; kernel_rfl) | (rw [if_neg (by decide +kernel)]; exact ⟨rfl, rfl⟩))
    (fun os started H enc _ => lifted os started H enc)
#print axioms holds
end dependChecks
end Go.Proofs.Ytnidalbfmicoiaa
