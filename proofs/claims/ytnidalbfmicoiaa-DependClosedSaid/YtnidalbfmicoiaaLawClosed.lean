/- DependClosed: for every input the law returns true. -/
import Derived.Test.YtnidalbfmicoiaaWalkE
import Derived.Test.YtnidalbfmicoiaaFrame
import Derived.Test.YtnidalbfmicoiaaFacts
import Derived.Test.YtnidalbfmicoiaaRows
namespace Go.Proofs.Ytnidalbfmicoiaa
open Go.RowKit

set_option maxRecDepth 100000 in
theorem closed_no (n x y : Int) (l : List (Int × Int)) (v : Value) (w : World) (hv : Deps w v l) (hno : ∀ s, ¬ ValidP n (l.take 14) s) :
    Calls Try.prog 18 #[.int .i64 n, v, .int .i64 x, .int .i64 y] w fun e w' => e = .returned (.bool true) ∧ Below w.heap.size w w' := by
  have Hv := Lib.hid hv
  have Hno := Lib.hid hno
  clear hv hno
  go_enter Try.func18, Try.ntmps18
  go_wp2_with fail
  refine (deps_any l _ _ Hv.out).mono ?_
  rintro e w1 ⟨v1, rfl, hd1, hb1⟩
  have Hd1 := Lib.hid hd1
  have Hb1 := Lib.hid hb1
  clear hd1 hb1
  go_wp2_with fail
  refine (closure_bad n x _ _ _ Hd1.out (Hno.out _)).mono ?_
  rintro e w2 ⟨rfl, hb2⟩
  have Hb2 := Lib.hid (Below.tr Hb1.out hb2)
  clear hb2
  go_wp2_with fail
  refine (deps_any l _ _ (Deps.keep Hv.out Hb2.out)).mono ?_
  rintro e w3 ⟨v3, rfl, hd3, hb3⟩
  have Hd3 := Lib.hid hd3
  have Hb3 := Lib.hid (Below.tr Hb2.out hb3)
  clear hd3 hb3
  go_wp2_with fail
  refine (closure_bad n y _ _ _ Hd3.out (Hno.out _)).mono ?_
  rintro e w4 ⟨rfl, hb4⟩
  have Hb4 := Lib.hid (Below.tr Hb3.out hb4)
  clear hb4
  go_wp2_with fail
  refine (awake_any _).mono ?_
  rintro e w5 ⟨rfl, hb5⟩
  have Hb5 := Lib.hid (Below.tr Hb4.out hb5)
  clear hb5
  go_wp2_with fail
  go_ret
  exact ⟨rfl, Hb5.out⟩

set_option maxRecDepth 100000 in
theorem closed_yes {m : Nat} {l' : List DepN} (hok : Okl m l') (x y : Int) (l : List (Int × Int)) (hl : l.take 14 = castD l') (v : Value) (w : World) (hv : Deps w v l) :
    Calls Try.prog 18 #[.int .i64 m, v, .int .i64 x, .int .i64 y] w fun e w' => e = .returned (.bool true) ∧ Below w.heap.size w w' := by
  have Hv := Lib.hid hv
  have Hl := Lib.hid hl
  clear hv hl
  have hdeps : ∀ (w1 : World), Below w.heap.size w w1 → Calls Try.prog 22 #[v] w1 fun e w' => ∃ v', e = .returned v' ∧ Deps w' v' (castD l') ∧ Below w1.heap.size w1 w' := fun w1 hb => by
    rw [← Hl.out]; exact deps_any l v w1 (Deps.keep Hv.out hb)
  have Hdeps := Lib.hid hdeps
  clear hdeps Hl
  go_enter Try.func18, Try.ntmps18
  go_wp2_with fail
  refine (Hdeps.out _ (Below.refl _ _)).mono ?_
  rintro e w1 ⟨v1, rfl, hd1, hb1⟩
  have Hd1 := Lib.hid hd1
  have Hb1 := Lib.hid hb1
  clear hd1 hb1
  go_wp2_with fail
  refine (closure_set hok x _ _ Hd1.out).mono ?_
  rintro e w2 ⟨c, r, rfl, hc, hb2⟩
  have Hb2 := Lib.hid (Below.tr Hb1.out hb2)
  clear hb2
  rcases hc with ⟨-, rfl, rfl⟩ | ⟨s, rfl, hs, rfl, rfl⟩
  · go_wp2_with fail
    refine (Hdeps.out _ Hb2.out).mono ?_
    rintro e w3 ⟨v3, rfl, hd3, hb3⟩
    have Hd3 := Lib.hid hd3
    have Hb3 := Lib.hid (Below.tr Hb2.out hb3)
    clear hd3 hb3
    go_wp2_with fail
    refine (closure_set hok y _ _ Hd3.out).mono ?_
    rintro e w4 ⟨c', r', rfl, -, hb4⟩
    have Hb4 := Lib.hid (Below.tr Hb3.out hb4)
    clear hb4
    go_wp2_with fail
    refine (awake_any _).mono ?_
    rintro e w5 ⟨rfl, hb5⟩
    have Hb5 := Lib.hid (Below.tr Hb4.out hb5)
    clear hb5
    go_wp2_with fail
    go_ret
    exact ⟨rfl, Hb5.out⟩
  · go_wp2_with fail
    refine (Hdeps.out _ Hb2.out).mono ?_
    rintro e w3 ⟨v3, rfl, hd3, hb3⟩
    have Hd3 := Lib.hid hd3
    have Hb3 := Lib.hid (Below.tr Hb2.out hb3)
    clear hd3 hb3
    go_wp2_with fail
    refine (closure_set hok y _ _ Hd3.out).mono ?_
    rintro e w4 ⟨c', r', rfl, hc, hb4⟩
    have Hb4 := Lib.hid (Below.tr Hb3.out hb4)
    clear hb4
    rcases hc with ⟨-, rfl, rfl⟩ | ⟨t, rfl, ht, rfl, rfl⟩
    · go_wp2_with fail
      refine (awake_any _).mono ?_
      rintro e w5 ⟨rfl, hb5⟩
      have Hb5 := Lib.hid (Below.tr Hb4.out hb5)
      clear hb5
      go_wp2_with fail
      go_ret
      exact ⟨rfl, Hb5.out⟩
    · have hp := hok.pow
      have hlt := hok.lt
      have t1 : cl l' s < 2 ^ m := cl_lt_pow hok.h8 hok.hl hs
      have t2 : s ||| t < 2 ^ m := Nat.or_lt_two_pow hs ht
      have q1 := cl_lt l' s
      have q2 := cl_lt l' t
      have q3 := cl_lt l' (s ||| t)
      have e1 : bits .or .i64 (s : Int) (t : Int) = ((s ||| t : Nat) : Int) := bits_or_nat s t (by omega) (by omega)
      have e2 : (bits .andNot .i64 (s : Int) ((cl l' s : Nat) : Int) == 0) = true := by rw [test_sub _ _ (by omega) (by omega)]; exact decide_eq_true (sub_cl (by omega))
      have e3 : (((cl l' (cl l' s) : Nat) : Int) == ((cl l' s : Nat) : Int)) = true := by rw [cl_idem hlt]; simp
      have e4 : bits .or .i64 ((cl l' s : Nat) : Int) ((cl l' t : Nat) : Int) = ((cl l' s ||| cl l' t : Nat) : Int) := bits_or_nat _ _ (by omega) (by omega)
      have q4 : cl l' s ||| cl l' t < 256 := Nat.or_lt_two_pow (n := 8) q1 q2
      have e5 : (bits .andNot .i64 ((cl l' s ||| cl l' t : Nat) : Int) ((cl l' (s ||| t) : Nat) : Int) == 0) = true := by
        rw [test_sub _ _ (by omega) (by omega)]
        exact decide_eq_true (or_sub (cl_mono hlt (by omega) (sub_or_left _ _)) (cl_mono hlt (by omega) (sub_or_right _ _)))
      have T1 := Lib.hid t1
      have T2 := Lib.hid t2
      clear hp hlt t1 t2 q1 q2 q3 q4
      go_wp2_with fail
      refine (Hdeps.out _ Hb4.out).mono ?_
      rintro e w5 ⟨v5, rfl, hd5, hb5⟩
      have Hd5 := Lib.hid hd5
      have Hb5 := Lib.hid (Below.tr Hb4.out hb5)
      clear hd5 hb5
      go_wp2_with fail
      refine (closure_nat hok T1.out _ _ Hd5.out).mono ?_
      rintro e w6 ⟨rfl, hb6⟩
      have Hb6 := Lib.hid (Below.tr Hb5.out hb6)
      clear hb6
      go_wp2_with fail
      refine (Hdeps.out _ Hb6.out).mono ?_
      rintro e w7 ⟨v7, rfl, hd7, hb7⟩
      have Hd7 := Lib.hid hd7
      have Hb7 := Lib.hid (Below.tr Hb6.out hb7)
      clear hd7 hb7
      go_wp2_with fail
      refine (closure_nat hok T2.out _ _ Hd7.out).mono ?_
      rintro e w8 ⟨rfl, hb8⟩
      have Hb8 := Lib.hid (Below.tr Hb7.out hb8)
      clear hb8
      go_wp2_with fail
      refine (awake_any _).mono ?_
      rintro e w9 ⟨rfl, hb9⟩
      have Hb9 := Lib.hid (Below.tr Hb8.out hb9)
      clear hb9
      go_wp2_with fail
      go_ret
      exact ⟨rfl, Hb9.out⟩

theorem closed_any (n x y : Int) (l : List (Int × Int)) (v : Value) (w : World) (hv : Deps w v l) :
    Calls Try.prog 18 #[.int .i64 n, v, .int .i64 x, .int .i64 y] w fun e w' => e = .returned (.bool true) ∧ Below w.heap.size w w' := by
  rcases deps_cases n (l.take 14) with h | ⟨m, l', rfl, h, hok⟩
  · exact closed_no n x y l v w hv h
  · exact closed_yes hok x y l h v w hv


namespace dependClosed
open Go.ChangeShapes Go.WideShapes Go.ChangeAt
set_option maxRecDepth 100000 in
theorem lifted (os : Os) (started : os.Started) (H : Type) (enc : TypeId × Value → H) :
    ReturnsInHanded {} Try.checked os 18 .any (Rows.dependClosedSpec.pre6 enc Try.prog Try.f18 Rows.dependClosedRow.domain false) (Rows.dependClosedSpec.post enc Try.prog Try.f18 false true false false) := by
  refine returnsInHanded_of_change (C := Try.checked) Try.own started (by kernel_rfl) Try.func18
    (ChangeSpec.witness6 (enc := enc) (C := Try.checked) false ⟨#[], #[.int .i64 0, .slice none 0 0, .int .i64 0, .int .i64 0], []⟩ 8 (by kernel_rfl) (by kernel_rfl) (by kernel_rfl) (by kernel_rfl)) ?_
  intro W base args ds gs before hval0 hW _ _
  have hval : ∀ (j : Nat) t v, Try.f18.params[j]? = some t → args[j]? = some v → Value.okWide Try.prog W .any base t v := hval0
  clear hval0
  obtain rfl : gs = [] := by obtain ⟨p, q, _, hV, _⟩ := hW; exact (trodVars_none hV).1
  have hW' := hW
  obtain ⟨p, q, hA0, hV, rfl, hfz, hnd⟩ := hW
  have hA : DataW.TrodAll enc Try.prog W 0 (fun _ => true) true Try.f18.params.toList args.toList ds p := hA0
  rw [Try.params18] at hA hval
  obtain ⟨v0, vs0, d0, ds0, p0, q0, hargs, hd0, hp0, h0, r0⟩ := trodAll_cons hA
  obtain ⟨v1, vs1, d1, ds1, p1, q1, hv1, hd1, hp1, h1, r1⟩ := trodAll_cons r0
  obtain ⟨v2, vs2, d2, ds2, p2, q2, hv2, hd2, hp2, h2, r2⟩ := trodAll_cons r1
  obtain ⟨v3, vs3, d3, ds3, p3, q3, hv3, hd3, hp3, h3, r3⟩ := trodAll_cons r2
  obtain ⟨hvn, hdn, hpn⟩ := trodAll_nil r3
  have ha : args = #[v0, v1, v2, v3] := by cases args; simp_all
  have hdd : ds = [d0, d1, d2, d3] := by simp_all
  rw [ha] at hval
  obtain ⟨a0, e0, -, -, w0⟩ := open_int Try.underlying3 (hval 0 3 v0 rfl rfl) h0
  obtain ⟨a1, k1⟩ := deps_of_trod Try.underlying22 Try.underlying24 ⟨rfl, rfl⟩ ⟨rfl, rfl⟩ Try.underlying3 Try.cells3 Try.cells24 (okWide_slice Try.underlying22 (hval 1 22 v1 rfl rfl)) h1
  obtain ⟨a2, e2, -, -, w2⟩ := open_int Try.underlying3 (hval 2 3 v2 rfl rfl) h2
  obtain ⟨a3, e3, -, -, w3⟩ := open_int Try.underlying3 (hval 3 3 v3 rfl rfl) h3
  have hw : Calls Try.prog 18 args W (fun e W' => e = .returned (.bool true) ∧ Below W.heap.size W W') := by
    rw [ha, e0, e2, e3]; exact closed_any a0 a2 a3 a1 v1 W k1
  exact hw.mono fun e W' ⟨he, hb⟩ => ⟨_, he, law_post Try.laidOut hW' rfl rfl Try.underlying4 (by rw [hdd]; rfl)
    (by kernel_rfl) hb⟩

theorem holds : Rows.DependClosedSaid :=
  OpenClaim.holds_of_wide 18 Try.f18 rfl rfl rfl rfl rfl rfl rfl ⟨rfl, rfl, rfl, rfl, rfl⟩ rfl rfl rfl rfl rfl (by kernel_rfl) Try.func18 (by kernel_rfl)
    (of_decide_eq_true (by kernel_rfl)) (by unfold Func.isWrapper; first | (rw [if_pos (by decide +kernel)]; kernel_rfl) | (rw [if_neg (by decide +kernel)]; exact ⟨rfl, rfl⟩))
    (fun os started H enc _ => lifted os started H enc)
#print axioms holds
end dependClosed
end Go.Proofs.Ytnidalbfmicoiaa
