/- DependBase: for every input the law returns true. -/
import Derived.Test.YtnidalbfmicoiaaMathBase
import Derived.Test.YtnidalbfmicoiaaWalkQ
import Derived.Test.YtnidalbfmicoiaaFrame
import Derived.Test.YtnidalbfmicoiaaFacts
import Derived.Test.YtnidalbfmicoiaaRows
namespace Go.Proofs.Ytnidalbfmicoiaa
open Go.RowKit

theorem valid_take {n : Int} {l : List (Int × Int)} {s : List Int} : ValidP n (l.take 14) s ↔ ValidP n l s := by
  by_cases h : l.length ≤ 14
  · rw [List.take_of_length_le h]
  · constructor
    · intro hv
      have := hv.1.2.2
      simp at this
      omega
    · intro hv
      have := hv.1.2.2
      omega
set_option maxRecDepth 100000 in
theorem base_any (n : Int) (l o : List (Int × Int)) (v u : Value) (w : World) (hv : Deps w v l) (hu : Deps w u o) :
    Calls Try.prog 13 #[.int .i64 n, v, u] w fun e w' => e = .returned (.bool true) ∧ Below w.heap.size w w' := by
  have Hv := Lib.hid hv
  have Hu := Lib.hid hu
  by_cases h : ValidP n l []
  · obtain ⟨m, l', q, rfl, h1, h8, rfl, h12, hl, hq, hlt⟩ := h.nat
    have hok : Okl m l' := ⟨h1, h8, h12, hl⟩
    have ht : (castD l').take 14 = castD l' := List.take_of_length_le (by simp [castD]; omega)
    obtain ⟨F, hF⟩ : ∃ F : Nat, F = 2 ^ m := ⟨_, rfl⟩
    have hp := hok.pow
    rw [← hF] at hp
    have hic := cl_isCl hok hF
    have hcc : ∀ k, k < F → cl (critTo (cl l') F) k = cl l' k := fun k hk => cl_critTo hF hp.1 hic hk
    have hshort : ∀ B : List DepN, Okl m B → Alike B l' F → (critTo (cl l') F).length ≤ B.length := fun B hB hA => base_shortest hp.1 hic (by rw [hF]; exact hB.hl) hA
    have hll := hshort l' hok (fun _ _ => rfl)
    have Hok := Lib.hid hok
    have Ht := Lib.hid ht
    have HF := Lib.hid hF
    have Hshort := Lib.hid hshort
    have e0 : (castD l').length = l'.length := by simp [castD]
    have e1 : (castD (critTo (cl l') F)).length = (critTo (cl l') F).length := by simp [castD]
    have Halike := Lib.hid (decide_eq_true (show Alike (critTo (cl l') F) l' F from hcc))
    have HA : (critTo (cl l') F).length ≤ 12 → Okl m (critTo (cl l') F) := fun h => ⟨h1, h8, h, by rw [← hF]; exact critTo_lt hic.lt F (Nat.le_refl _)⟩
    have h12' : (critTo (cl l') F).length ≤ 12 := by omega
    have HA := Lib.hid (HA h12')
    obtain ⟨va, vb, vo, vc, rfl, -⟩ := Deps.get hv
    obtain ⟨ua, ub, uo, uc, rfl, hle, -⟩ := Deps.get hu
    rw [e0] at Hv ⊢
    have Hic := Lib.hid hic
    clear hv hu h hl hq hlt hok ht hic hcc hshort hF hp
    go_enter Try.func13, Try.ntmps13
    go_wp2_with fail
    refine (deps_any _ _ _ Hv.out).mono ?_
    rintro e w1 ⟨v1, rfl, hd1, hb1⟩
    rw [Ht.out] at hd1
    have Hb1 := Lib.hid hb1
    have Hd1 := Lib.hid hd1
    clear hb1 hd1
    go_wp2_with fail
    refine (crit_F Hok.out HF.out _ _ Hd1.out).mono ?_
    rintro e w2 ⟨z, rfl, hz, hb2⟩
    have Hb2 := Lib.hid (Below.tr Hb1.out hb2)
    obtain ⟨za, zb, zo, zc, rfl, -⟩ := Deps.get hz
    rw [e1] at hz ⊢
    have Hz := Lib.hid hz
    clear hb2 hz
    go_wp2_with fail
    refine (deps_any _ _ _ (Deps.keep Hv.out Hb2.out)).mono ?_
    rintro e w3 ⟨v3, rfl, hd3, hb3⟩
    rw [Ht.out] at hd3
    have Hb3 := Lib.hid (Below.tr Hb2.out hb3)
    have Hz3 := Lib.hid (Deps.keep Hz.out hb3)
    have Hd3 := Lib.hid hd3
    clear hb3 hd3
    go_wp2_with fail
    refine (alike_F HA.out Hok.out HF.out _ _ _ Hz3.out Hd3.out).mono ?_
    rintro e w4 ⟨rfl, hb4⟩
    rw [Halike.out]
    have Hb4 := Lib.hid (Below.tr Hb3.out hb4)
    clear hb4
    go_wp2_with fail
    refine (deps_any _ _ _ (Deps.keep Hu.out Hb4.out)).mono ?_
    rintro e w5 ⟨v5, rfl, hd5, hb5⟩
    have Hb5 := Lib.hid (Below.tr Hb4.out hb5)
    have Hd5 := Lib.hid hd5
    clear hb5 hd5
    go_wp2_with fail
    refine (deps_any _ _ _ (Deps.keep Hv.out Hb5.out)).mono ?_
    rintro e w6 ⟨v6, rfl, hd6, hb6⟩
    rw [Ht.out] at hd6
    have Hb6 := Lib.hid (Below.tr Hb5.out hb6)
    have Hd56 := Lib.hid (Deps.keep Hd5.out hb6)
    have Hd6 := Lib.hid hd6
    clear hb6 hd6
    by_cases hO : ValidP m (o.take 14) [0]
    · obtain ⟨m', o', q, hm, g1, g8, ho, g12, gl, -, -⟩ := hO.nat
      obtain rfl : m = m' := by omega
      have hokO : Okl m o' := ⟨g1, g8, g12, gl⟩
      have hol : o.length = o'.length := by
        have a1 := congrArg List.length ho
        simp [castD] at a1
        omega
      rw [ho] at Hd56
      have HokO := Lib.hid hokO
      have hsO := Hshort.out o' hokO
      clear hO g1 g8 g12 gl ho hokO hm
      go_wp2_with fail
      refine (alike_F HokO.out Hok.out HF.out _ _ _ Hd56.out Hd6.out).mono ?_
      rintro e w7 ⟨rfl, hb7⟩
      have Hb7 := Lib.hid (Below.tr Hb6.out hb7)
      clear hb7
      by_cases hal : Alike o' l' F
      · have hlo := hsO hal
        rw [decide_eq_true hal]
        clear hal hsO
        go_wp2_with fail
        refine (awake_any _).mono ?_
        rintro e w8 ⟨rfl, hb8⟩
        have Hb8 := Lib.hid (Below.tr Hb7.out hb8)
        clear hb8
        go_wp2_with fail
        go_ret
        exact ⟨rfl, Hb8.out⟩
      · rw [decide_eq_false hal]
        clear hal hsO
        go_wp2_with fail
        refine (awake_any _).mono ?_
        rintro e w8 ⟨rfl, hb8⟩
        have Hb8 := Lib.hid (Below.tr Hb7.out hb8)
        clear hb8
        go_wp2_with fail
        go_ret
        exact ⟨rfl, Hb8.out⟩
    · have HO := Lib.hid hO
      clear hO
      go_wp2_with fail
      refine (alike_bad _ HO.out Hok.out _ _ _ Hd56.out Hd6.out).mono ?_
      rintro e w7 ⟨rfl, hb7⟩
      have Hb7 := Lib.hid (Below.tr Hb6.out hb7)
      clear hb7
      go_wp2_with fail
      refine (awake_any _).mono ?_
      rintro e w8 ⟨rfl, hb8⟩
      have Hb8 := Lib.hid (Below.tr Hb7.out hb8)
      clear hb8
      go_wp2_with fail
      go_ret
      exact ⟨rfl, Hb8.out⟩
  · have Hno := Lib.hid (fun hq : ValidP n (l.take 14) [] => h (valid_take.1 hq))
    clear hv hu h
    go_enter Try.func13, Try.ntmps13
    go_wp2_with fail
    refine (deps_any _ _ _ Hv.out).mono ?_
    rintro e w1 ⟨v1, rfl, hd1, hb1⟩
    have Hb1 := Lib.hid hb1
    have Hd1 := Lib.hid hd1
    clear hb1 hd1
    go_wp2_with fail
    refine (crit_bad _ _ _ _ Hd1.out Hno.out).mono ?_
    rintro e w2 ⟨rfl, hb2⟩
    have Hb2 := Lib.hid (Below.tr Hb1.out hb2)
    clear hb2
    go_wp2_with fail
    refine (awake_any _).mono ?_
    rintro e w3 ⟨rfl, hb3⟩
    have Hb3 := Lib.hid (Below.tr Hb2.out hb3)
    clear hb3
    go_wp2_with fail
    go_ret
    exact ⟨rfl, Hb3.out⟩

namespace dependBase
open Go.ChangeShapes Go.WideShapes Go.ChangeAt
set_option maxRecDepth 100000 in
theorem lifted (os : Os) (started : os.Started) (H : Type) (enc : TypeId × Value → H) :
    ReturnsInHanded {} Try.checked os 13 .any (Rows.dependBaseSpec.pre6 enc Try.prog Try.f13 Rows.dependBaseRow.domain false) (Rows.dependBaseSpec.post enc Try.prog Try.f13 false true false false) := by
  refine returnsInHanded_of_change (C := Try.checked) Try.own started (by kernel_rfl) Try.func13
    (ChangeSpec.witness6 (enc := enc) (C := Try.checked) false ⟨#[], #[.int .i64 0, .slice none 0 0, .slice none 0 0], []⟩ 8 (by kernel_rfl) (by kernel_rfl) (by kernel_rfl) (by kernel_rfl)) ?_
  intro W base args ds gs before hval0 hW _ _
  have hval : ∀ (j : Nat) t v, Try.f13.params[j]? = some t → args[j]? = some v → Value.okWide Try.prog W .any base t v := hval0
  clear hval0
  obtain rfl : gs = [] := by obtain ⟨p, q, _, hV, _⟩ := hW; exact (trodVars_none hV).1
  have hW' := hW
  obtain ⟨p, q, hA0, hV, rfl, hfz, hnd⟩ := hW
  have hA : DataW.TrodAll enc Try.prog W 0 (fun _ => true) true Try.f13.params.toList args.toList ds p := hA0
  rw [Try.params13] at hA hval
  obtain ⟨v0, vs0, d0, ds0, p0, q0, hv0, hd0, hp0, h0, r0⟩ := trodAll_cons hA
  obtain ⟨v1, vs1, d1, ds1, p1, q1, hv1, hd1, hp1, h1, r1⟩ := trodAll_cons r0
  obtain ⟨v2, vs2, d2, ds2, p2, q2, hv2, hd2, hp2, h2, r2⟩ := trodAll_cons r1
  obtain ⟨hvn, hdn, hpn⟩ := trodAll_nil r2
  have ha : args = #[v0, v1, v2] := by cases args; simp_all
  have hdd : ds = [d0, d1, d2] := by simp_all
  rw [ha] at hval
  obtain ⟨a0, e0, -, -, w0⟩ := open_int Try.underlying3 (hval 0 3 v0 rfl rfl) h0
  obtain ⟨a1, k1⟩ := deps_of_trod Try.underlying22 Try.underlying24 ⟨rfl, rfl⟩ ⟨rfl, rfl⟩ Try.underlying3 Try.cells3 Try.cells24 (okWide_slice Try.underlying22 (hval 1 22 v1 rfl rfl)) h1
  obtain ⟨a2, k2⟩ := deps_of_trod Try.underlying22 Try.underlying24 ⟨rfl, rfl⟩ ⟨rfl, rfl⟩ Try.underlying3 Try.cells3 Try.cells24 (okWide_slice Try.underlying22 (hval 2 22 v2 rfl rfl)) h2
  have hw : Calls Try.prog 13 args W (fun e W' => e = .returned (.bool true) ∧ Below W.heap.size W W') := by
    rw [ha, e0]; exact base_any a0 a1 a2 v1 v2 W k1 k2
  exact hw.mono fun e W' ⟨he, hb⟩ => ⟨_, he, law_post Try.laidOut hW' rfl rfl Try.underlying4 (by rw [hdd]; rfl)
    (by kernel_rfl) hb⟩

theorem holds : Rows.DependBaseSaid :=
  OpenClaim.holds_of_wide 13 Try.f13 rfl rfl rfl rfl rfl rfl rfl ⟨rfl, rfl, rfl, rfl, rfl⟩ rfl rfl rfl rfl rfl (by kernel_rfl) Try.func13 (by kernel_rfl)
    (of_decide_eq_true (by kernel_rfl)) (by unfold Func.isWrapper; first | (rw [if_pos (by decide +kernel)]; kernel_rfl) | (rw [if_neg (by decide +kernel)]; exact ⟨rfl, rfl⟩))
    (fun os started H enc _ => lifted os started H enc)
#print axioms holds
end dependBase
end Go.Proofs.Ytnidalbfmicoiaa
