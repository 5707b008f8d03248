/- DependKeys: for every input the law returns true. -/
import Derived.Test.YtnidalbfmicoiaaWalkP
import Derived.Test.YtnidalbfmicoiaaFrame
import Derived.Test.YtnidalbfmicoiaaFacts
import Derived.Test.YtnidalbfmicoiaaRows
namespace Go.Proofs.Ytnidalbfmicoiaa
open Go.RowKit

theorem valid_take {n : Int} {l : List (Int × Int)} {s : List Int} : ValidP n (l.take 14) s ↔ ValidP n l s := by
  by_cases h : l.length ≤ 14
  · rw [List.take_of_length_le h]
  · constructor
    · intro hv
      have := hv.1.2.2
      simp at this
      omega
    · intro hv
      have := hv.1.2.2
      omega
set_option maxRecDepth 100000 in
theorem keysLaw_any (n : Int) (l : List (Int × Int)) (v : Value) (w : World) (hv : Deps w v l) :
    Calls Try.prog 6 #[.int .i64 n, v] w fun e w' => e = .returned (.bool true) ∧ Below w.heap.size w w' := by
  have Hv := Lib.hid hv
  by_cases h : ValidP n l []
  · obtain ⟨m, l', q, rfl, h1, h8, rfl, h12, hl, hq, hlt⟩ := h.nat
    have hok : Okl m l' := ⟨h1, h8, h12, hl⟩
    have ht : (castD l').take 14 = castD l' := List.take_of_length_le (by simp [castD]; omega)
    have Hval := Lib.hid (decide_eq_true h)
    have Hok := Lib.hid hok
    have Ht := Lib.hid ht
    have hcl : (castD (critTo (cl l') (2 ^ m))).length ≤ 1000 := by
      have := critTo_length (cl l') (2 ^ m)
      have := hok.pow
      simp only [castD, List.length_map]
      omega
    have Hcl := Lib.hid hcl
    clear hv h h1 h8 h12 hl hq hlt hok ht hcl
    go_enter Try.func6, Try.ntmps6
    go_wp2_with fail
    refine (deps_any _ _ _ Hv.out).mono ?_
    rintro e w1 ⟨v1, rfl, hd1, hb1⟩
    rw [Ht.out] at hd1
    have Hb1 := Lib.hid hb1
    have Hd1 := Lib.hid hd1
    clear hb1 hd1
    go_wp2_with fail
    refine (keys_F Hok.out rfl _ _ Hd1.out).mono ?_
    rintro e w2 ⟨u, rfl, hu, hb2⟩
    have Hb2 := Lib.hid (Below.tr Hb1.out hb2)
    have Hu := Lib.hid hu
    clear hb2 hu
    go_wp2_with fail
    refine (deps_any _ _ _ (Deps.keep Hv.out Hb2.out)).mono ?_
    rintro e w3 ⟨v3, rfl, hd3, hb3⟩
    rw [Ht.out] at hd3
    have Hb3 := Lib.hid (Below.tr Hb2.out hb3)
    have Hu3 := Lib.hid (Ints.keep Hu.out hb3)
    have Hd3 := Lib.hid hd3
    clear hb3 hd3
    go_wp2_with fail
    refine (crit_F Hok.out rfl _ _ Hd3.out).mono ?_
    rintro e w4 ⟨z, rfl, hz, hb4⟩
    have Hb4 := Lib.hid (Below.tr Hb3.out hb4)
    have Hu4 := Lib.hid (Ints.keep Hu3.out hb4)
    have Hz := Lib.hid hz
    clear hb4 hz
    go_wp2_with fail
    refine (validR_any _ _ _ _ (Deps.keep Hv.out Hb4.out)).mono ?_
    rintro e w5 ⟨rfl, hb5⟩
    have Hb5 := Lib.hid (Below.tr Hb4.out hb5)
    have Hu5 := Lib.hid (Ints.keep Hu4.out hb5)
    have Hz5 := Lib.hid (Deps.keep Hz.out hb5)
    clear hb5
    rw [Hval.out]
    go_wp2_with fail
    refine (keysR_F Hok.out rfl _ _ (Deps.keep Hv.out Hb5.out)).mono ?_
    rintro e w6 ⟨u', rfl, hu', hb6⟩
    have Hb6 := Lib.hid (Below.tr Hb5.out hb6)
    have Hu6 := Lib.hid (Ints.keep Hu5.out hb6)
    have Hz6 := Lib.hid (Deps.keep Hz5.out hb6)
    have Hu' := Lib.hid hu'
    clear hb6 hu'
    go_wp2_with fail
    refine (equal_any _ _ _ _ _ Hu6.out Hu'.out).mono ?_
    rintro e w7 ⟨rfl, hb7⟩
    have Hb7 := Lib.hid (Below.tr Hb6.out hb7)
    have Hz7 := Lib.hid (Deps.keep Hz6.out hb7)
    clear hb7
    rw [decide_eq_true rfl]
    go_wp2_with fail
    refine (own_any _ Hcl.out _ _ Hz7.out).mono ?_
    rintro e w8 ⟨z', rfl, hz', hb8⟩
    have Hb8 := Lib.hid (Below.tr Hb7.out hb8)
    have Hz' := Lib.hid hz'
    clear hb8 hz'
    go_wp2_with fail
    refine (critR_F Hok.out rfl _ _ (Deps.keep Hv.out Hb8.out)).mono ?_
    rintro e w9 ⟨x, rfl, hx, hb9⟩
    have Hb9 := Lib.hid (Below.tr Hb8.out hb9)
    have Hz9 := Lib.hid (Deps.keep Hz'.out hb9)
    have Hx := Lib.hid hx
    clear hb9 hx
    go_wp2_with fail
    refine (equalDep_any _ _ _ _ _ Hz9.out Hx.out).mono ?_
    rintro e wa ⟨rfl, hba⟩
    have Hba := Lib.hid (Below.tr Hb9.out hba)
    clear hba
    rw [decide_eq_true rfl]
    go_wp2_with fail
    refine (awake_any _).mono ?_
    rintro e wb ⟨rfl, hbb⟩
    have Hbb := Lib.hid (Below.tr Hba.out hbb)
    clear hbb
    go_wp2_with fail
    go_ret
    exact ⟨rfl, Hbb.out⟩
  · have Hno := Lib.hid (fun hq : ValidP n (l.take 14) [] => h (valid_take.1 hq))
    have Hval := Lib.hid (decide_eq_false h)
    clear hv h
    go_enter Try.func6, Try.ntmps6
    go_wp2_with fail
    refine (deps_any _ _ _ Hv.out).mono ?_
    rintro e w1 ⟨v1, rfl, hd1, hb1⟩
    have Hb1 := Lib.hid hb1
    have Hd1 := Lib.hid hd1
    clear hb1 hd1
    go_wp2_with fail
    refine (keys_bad _ _ _ _ Hd1.out Hno.out).mono ?_
    rintro e w2 ⟨rfl, hb2⟩
    have Hb2 := Lib.hid (Below.tr Hb1.out hb2)
    clear hb2
    go_wp2_with fail
    refine (deps_any _ _ _ (Deps.keep Hv.out Hb2.out)).mono ?_
    rintro e w3 ⟨v3, rfl, hd3, hb3⟩
    have Hb3 := Lib.hid (Below.tr Hb2.out hb3)
    have Hd3 := Lib.hid hd3
    clear hb3 hd3
    go_wp2_with fail
    refine (crit_bad _ _ _ _ Hd3.out Hno.out).mono ?_
    rintro e w4 ⟨rfl, hb4⟩
    have Hb4 := Lib.hid (Below.tr Hb3.out hb4)
    clear hb4
    go_wp2_with fail
    refine (validR_any _ _ _ _ (Deps.keep Hv.out Hb4.out)).mono ?_
    rintro e w5 ⟨rfl, hb5⟩
    have Hb5 := Lib.hid (Below.tr Hb4.out hb5)
    clear hb5
    rw [Hval.out]
    go_wp2_with fail
    refine (awake_any _).mono ?_
    rintro e w6 ⟨rfl, hb6⟩
    have Hb6 := Lib.hid (Below.tr Hb5.out hb6)
    clear hb6
    go_wp2_with fail
    go_ret
    exact ⟨rfl, Hb6.out⟩

namespace dependKeys
open Go.ChangeShapes Go.WideShapes Go.ChangeAt
set_option maxRecDepth 100000 in
theorem lifted (os : Os) (started : os.Started) (H : Type) (enc : TypeId × Value → H) :
    ReturnsInHanded {} Try.checked os 6 .any (Rows.dependKeysSpec.pre6 enc Try.prog Try.f6 Rows.dependKeysRow.domain false) (Rows.dependKeysSpec.post enc Try.prog Try.f6 false true false false) := by
  refine returnsInHanded_of_change (C := Try.checked) Try.own started (by kernel_rfl) Try.func6
    (ChangeSpec.witness6 (enc := enc) (C := Try.checked) false ⟨#[], #[.int .i64 0, .slice none 0 0], []⟩ 8 (by kernel_rfl) (by kernel_rfl) (by kernel_rfl) (by kernel_rfl)) ?_
  intro W base args ds gs before hval0 hW _ _
  have hval : ∀ (j : Nat) t v, Try.f6.params[j]? = some t → args[j]? = some v → Value.okWide Try.prog W .any base t v := hval0
  clear hval0
  obtain rfl : gs = [] := by obtain ⟨p, q, _, hV, _⟩ := hW; exact (trodVars_none hV).1
  have hW' := hW
  obtain ⟨p, q, hA0, hV, rfl, hfz, hnd⟩ := hW
  have hA : DataW.TrodAll enc Try.prog W 0 (fun _ => true) true Try.f6.params.toList args.toList ds p := hA0
  rw [Try.params6] at hA hval
  obtain ⟨v0, vs0, d0, ds0, p0, q0, hv0, hd0, hp0, h0, r0⟩ := trodAll_cons hA
  obtain ⟨v1, vs1, d1, ds1, p1, q1, hv1, hd1, hp1, h1, r1⟩ := trodAll_cons r0
  obtain ⟨hvn, hdn, hpn⟩ := trodAll_nil r1
  have ha : args = #[v0, v1] := by cases args; simp_all
  have hdd : ds = [d0, d1] := by simp_all
  rw [ha] at hval
  obtain ⟨a0, e0, -, -, w0⟩ := open_int Try.underlying3 (hval 0 3 v0 rfl rfl) h0
  obtain ⟨a1, k1⟩ := deps_of_trod Try.underlying22 Try.underlying24 ⟨rfl, rfl⟩ ⟨rfl, rfl⟩ Try.underlying3 Try.cells3 Try.cells24 (okWide_slice Try.underlying22 (hval 1 22 v1 rfl rfl)) h1
  have hw : Calls Try.prog 6 args W (fun e W' => e = .returned (.bool true) ∧ Below W.heap.size W W') := by
    rw [ha, e0]; exact keysLaw_any a0 a1 v1 W k1
  exact hw.mono fun e W' ⟨he, hb⟩ => ⟨_, he, law_post Try.laidOut hW' rfl rfl Try.underlying4 (by rw [hdd]; rfl)
    (by kernel_rfl) hb⟩

theorem holds : Rows.DependKeysSaid :=
  OpenClaim.holds_of_wide 6 Try.f6 rfl rfl rfl rfl rfl rfl rfl ⟨rfl, rfl, rfl, rfl, rfl⟩ rfl rfl rfl rfl rfl (by kernel_rfl) Try.func6 (by kernel_rfl)
    (of_decide_eq_true (by kernel_rfl)) (by unfold Func.isWrapper; first | (rw [if_pos (by decide +kernel)]; kernel_rfl) | (rw [if_neg (by decide +kernel)]; exact ⟨rfl, rfl⟩))
    (fun os started H enc _ => lifted os started H enc)
#print axioms holds
end dependKeys
end Go.Proofs.Ytnidalbfmicoiaa
