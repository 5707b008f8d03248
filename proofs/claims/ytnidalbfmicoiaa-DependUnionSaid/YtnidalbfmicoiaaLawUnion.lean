/- DependUnion: for every input the law returns true. -/
import Derived.Test.YtnidalbfmicoiaaWalkF
import Derived.Test.YtnidalbfmicoiaaFrame
import Derived.Test.YtnidalbfmicoiaaFacts
import Derived.Test.YtnidalbfmicoiaaRows
namespace Go.Proofs.Ytnidalbfmicoiaa
open Go.RowKit

set_option maxRecDepth 100000 in
theorem union_no (n f x y : Int) (l : List (Int × Int)) (v : Value) (w : World) (hv : Deps w v l) (hno : ∀ s, ¬ ValidP n (l.take 14) s) :
    Calls Try.prog 19 #[.int .i64 n, v, .int .i64 f, .int .i64 x, .int .i64 y] w fun e w' => e = .returned (.bool true) ∧ Below w.heap.size w w' := by
  have Hv := Lib.hid hv
  have Hno := Lib.hid hno
  clear hv hno
  go_enter Try.func19, Try.ntmps19
  go_wp2_with fail
  refine (deps_any l _ _ (Deps.keep Hv.out (Below.refl _ _))).mono ?_
  rintro e w1 ⟨v1, rfl, hd1, hb1⟩
  have Hb1 := Lib.hid (Below.tr (Below.refl _ _) hb1)
  have Hd1 := Lib.hid hd1
  clear hb1 hd1
  go_wp2_with fail
  refine (followsE_bad n f x _ _ _ Hd1.out (Hno.out _)).mono ?_
  rintro e w2 ⟨rfl, hb2⟩
  have Hb2 := Lib.hid (Below.tr Hb1.out hb2)
  clear hb2 
  go_wp2_with fail
  refine (deps_any l _ _ (Deps.keep Hv.out Hb2.out)).mono ?_
  rintro e w3 ⟨v3, rfl, hd3, hb3⟩
  have Hb3 := Lib.hid (Below.tr Hb2.out hb3)
  have Hd3 := Lib.hid hd3
  clear hb3 hd3
  go_wp2_with fail
  refine (followsE_bad n f y _ _ _ Hd3.out (Hno.out _)).mono ?_
  rintro e w4 ⟨rfl, hb4⟩
  have Hb4 := Lib.hid (Below.tr Hb3.out hb4)
  clear hb4 
  go_wp2_with fail
  refine (awake_any _).mono ?_
  rintro e w5 ⟨rfl, hb5⟩
  have Hb5 := Lib.hid (Below.tr Hb4.out hb5)
  clear hb5 
  go_wp2_with fail
  go_ret
  exact ⟨rfl, Hb5.out⟩

set_option maxRecDepth 100000 in
theorem union_yes {m : Nat} {l' : List DepN} (hok : Okl m l') (f x y : Int) (l : List (Int × Int)) (hl : l.take 14 = castD l') (v : Value) (w : World) (hv : Deps w v l) :
    Calls Try.prog 19 #[.int .i64 m, v, .int .i64 f, .int .i64 x, .int .i64 y] w fun e w' => e = .returned (.bool true) ∧ Below w.heap.size w w' := by
  have Hv := Lib.hid hv
  have Hl := Lib.hid hl
  clear hv hl
  have hdeps : ∀ (w1 : World), Below w.heap.size w w1 → Calls Try.prog 22 #[v] w1 fun e w' => ∃ v', e = .returned v' ∧ Deps w' v' (castD l') ∧ Below w1.heap.size w1 w' := fun w1 hb => by
    rw [← Hl.out]; exact deps_any l v w1 (Deps.keep Hv.out hb)
  have Hdeps := Lib.hid hdeps
  clear hdeps Hl
  go_enter Try.func19, Try.ntmps19
  go_wp2_with fail
  refine (Hdeps.out _ (Below.refl _ _)).mono ?_
  rintro e w1 ⟨v1, rfl, hd1, hb1⟩
  have Hb1 := Lib.hid (Below.tr (Below.refl _ _) hb1)
  have Hd1 := Lib.hid hd1
  clear hb1 hd1
  go_wp2_with fail
  refine (followsE_set hok f x _ _ Hd1.out).mono ?_
  rintro e w2 ⟨c, r, rfl, hc, hb2⟩
  have Hb2 := Lib.hid (Below.tr Hb1.out hb2)
  clear hb2 
  rcases hc with ⟨-, rfl, rfl⟩ | ⟨s, t, rfl, rfl, hs, ht, rfl, rfl⟩
  · go_wp2_with fail
    refine (Hdeps.out _ Hb2.out).mono ?_
    rintro e w3 ⟨v3, rfl, hd3, hb3⟩
    have Hb3 := Lib.hid (Below.tr Hb2.out hb3)
    have Hd3 := Lib.hid hd3
    clear hb3 hd3
    go_wp2_with fail
    refine (followsE_set hok f y _ _ Hd3.out).mono ?_
    rintro e w4 ⟨c', r', rfl, -, hb4⟩
    have Hb4 := Lib.hid (Below.tr Hb3.out hb4)
    clear hb4 
    go_wp2_with fail
    refine (awake_any _).mono ?_
    rintro e w5 ⟨rfl, hb5⟩
    have Hb5 := Lib.hid (Below.tr Hb4.out hb5)
    clear hb5 
    go_wp2_with fail
    go_ret
    exact ⟨rfl, Hb5.out⟩
  · go_wp2_with fail
    refine (Hdeps.out _ Hb2.out).mono ?_
    rintro e w3 ⟨v3, rfl, hd3, hb3⟩
    have Hb3 := Lib.hid (Below.tr Hb2.out hb3)
    have Hd3 := Lib.hid hd3
    clear hb3 hd3
    go_wp2_with fail
    refine (followsE_set hok (s : Int) y _ _ Hd3.out).mono ?_
    rintro e w4 ⟨c', r', rfl, hc, hb4⟩
    have Hb4 := Lib.hid (Below.tr Hb3.out hb4)
    clear hb4 
    rcases hc with ⟨-, rfl, rfl⟩ | ⟨s', u, hs', rfl, -, hu, rfl, rfl⟩
    · go_wp2_with fail
      refine (awake_any _).mono ?_
      rintro e w5 ⟨rfl, hb5⟩
      have Hb5 := Lib.hid (Below.tr Hb4.out hb5)
      clear hb5 
      go_wp2_with fail
      go_ret
      exact ⟨rfl, Hb5.out⟩
    · obtain rfl : s = s' := by omega
      have hp := hok.pow
      have e1 : bits .or .i64 (t : Int) (u : Int) = ((t ||| u : Nat) : Int) := bits_or_nat t u (by omega) (by omega)
      have e2 : bits .or .i64 (s : Int) (u : Int) = ((s ||| u : Nat) : Int) := bits_or_nat s u (by omega) (by omega)
      have T1 := Lib.hid (show t ||| u < 2 ^ m from Nat.or_lt_two_pow ht hu)
      have T2 := Lib.hid (show s ||| u < 2 ^ m from Nat.or_lt_two_pow hs hu)
      have F2 : Sub t (cl l' s) → Sub (t ||| u) (cl l' (s ||| u)) := fun h => by
        have q1 := hok.lt
        have q2 : s ||| u < 256 := by have := T2.out; omega
        exact or_sub (h.trans (cl_mono q1 q2 (sub_or_left _ _))) ((sub_or_right _ _).trans (sub_cl q2))
      have hq : (Sub t (cl l' s) ∧ Sub u (cl l' s) ∧ Sub (t ||| u) (cl l' s) ∧ Sub (t ||| u) (cl l' (s ||| u))) ∨ (Sub t (cl l' s) ∧ ¬ Sub u (cl l' s) ∧ ¬ Sub (t ||| u) (cl l' s) ∧ Sub (t ||| u) (cl l' (s ||| u))) ∨
          (¬ Sub t (cl l' s) ∧ ¬ Sub (t ||| u) (cl l' s)) := by
        rw [or_sub_iff]
        by_cases hA : Sub t (cl l' s)
        · by_cases hB : Sub u (cl l' s)
          · exact .inl ⟨hA, hB, ⟨hA, hB⟩, F2 hA⟩
          · exact .inr (.inl ⟨hA, hB, fun h => hB h.2, F2 hA⟩)
        · exact .inr (.inr ⟨hA, fun h => hA h.1⟩)
      have Hs := Lib.hid hs
      clear F2 hp hs ht hu hs'
      go_wp2_with fail
      refine (Hdeps.out _ Hb4.out).mono ?_
      rintro e w5 ⟨v5, rfl, hd5, hb5⟩
      have Hb5 := Lib.hid (Below.tr Hb4.out hb5)
      have Hd5 := Lib.hid hd5
      clear hb5 hd5
      go_wp2_with fail
      refine (followsE_ok hok Hs.out T1.out _ _ Hd5.out).mono ?_
      rintro e w6 ⟨rfl, hb6⟩
      have Hb6 := Lib.hid (Below.tr Hb5.out hb6)
      clear hb6 
      go_wp2_with fail
      refine (Hdeps.out _ Hb6.out).mono ?_
      rintro e w7 ⟨v7, rfl, hd7, hb7⟩
      have Hb7 := Lib.hid (Below.tr Hb6.out hb7)
      have Hd7 := Lib.hid hd7
      clear hb7 hd7
      go_wp2_with fail
      refine (followsE_ok hok T2.out T1.out _ _ Hd7.out).mono ?_
      rintro e w8 ⟨rfl, hb8⟩
      have Hb8 := Lib.hid (Below.tr Hb7.out hb8)
      clear hb8 
      rcases hq with ⟨hA, hB, hC, hD⟩ | ⟨hA, hB, hC, hD⟩ | ⟨hA, hC⟩
      all_goals
        go_wp2_with fail
        refine (awake_any _).mono ?_
        rintro e w9 ⟨rfl, hb9⟩
        have Hb9 := Lib.hid (Below.tr Hb8.out hb9)
        clear hb9 
        go_wp2_with fail
        go_ret
        exact ⟨rfl, Hb9.out⟩

theorem union_any (n f x y : Int) (l : List (Int × Int)) (v : Value) (w : World) (hv : Deps w v l) :
    Calls Try.prog 19 #[.int .i64 n, v, .int .i64 f, .int .i64 x, .int .i64 y] w fun e w' => e = .returned (.bool true) ∧ Below w.heap.size w w' := by
  rcases deps_cases n (l.take 14) with h | ⟨m, l', rfl, h, hok⟩
  · exact union_no n f x y l v w hv h
  · exact union_yes hok f x y l h v w hv

namespace dependUnion
open Go.ChangeShapes Go.WideShapes Go.ChangeAt
set_option maxRecDepth 100000 in
theorem lifted (os : Os) (started : os.Started) (H : Type) (enc : TypeId × Value → H) :
    ReturnsInHanded {} Try.checked os 19 .any (Rows.dependUnionSpec.pre6 enc Try.prog Try.f19 Rows.dependUnionRow.domain false) (Rows.dependUnionSpec.post enc Try.prog Try.f19 false true false false) := by
  refine returnsInHanded_of_change (C := Try.checked) Try.own started (by kernel_rfl) Try.func19
    (ChangeSpec.witness6 (enc := enc) (C := Try.checked) false ⟨#[], #[.int .i64 0, .slice none 0 0, .int .i64 0, .int .i64 0, .int .i64 0], []⟩ 8 (by kernel_rfl) (by kernel_rfl) (by kernel_rfl) (by kernel_rfl)) ?_
  intro W base args ds gs before hval0 hW _ _
  have hval : ∀ (j : Nat) t v, Try.f19.params[j]? = some t → args[j]? = some v → Value.okWide Try.prog W .any base t v := hval0
  clear hval0
  obtain rfl : gs = [] := by obtain ⟨p, q, _, hV, _⟩ := hW; exact (trodVars_none hV).1
  have hW' := hW
  obtain ⟨p, q, hA0, hV, rfl, hfz, hnd⟩ := hW
  have hA : DataW.TrodAll enc Try.prog W 0 (fun _ => true) true Try.f19.params.toList args.toList ds p := hA0
  rw [Try.params19] at hA hval
  obtain ⟨v0, vs0, d0, ds0, p0, q0, hv0, hd0, hp0, h0, r0⟩ := trodAll_cons hA
  obtain ⟨v1, vs1, d1, ds1, p1, q1, hv1, hd1, hp1, h1, r1⟩ := trodAll_cons r0
  obtain ⟨v2, vs2, d2, ds2, p2, q2, hv2, hd2, hp2, h2, r2⟩ := trodAll_cons r1
  obtain ⟨v3, vs3, d3, ds3, p3, q3, hv3, hd3, hp3, h3, r3⟩ := trodAll_cons r2
  obtain ⟨v4, vs4, d4, ds4, p4, q4, hv4, hd4, hp4, h4, r4⟩ := trodAll_cons r3
  obtain ⟨hvn, hdn, hpn⟩ := trodAll_nil r4
  have ha : args = #[v0, v1, v2, v3, v4] := by cases args; simp_all
  have hdd : ds = [d0, d1, d2, d3, d4] := by simp_all
  rw [ha] at hval
  obtain ⟨a0, e0, -, -, w0⟩ := open_int Try.underlying3 (hval 0 3 v0 rfl rfl) h0
  obtain ⟨a1, k1⟩ := deps_of_trod Try.underlying22 Try.underlying24 ⟨rfl, rfl⟩ ⟨rfl, rfl⟩ Try.underlying3 Try.cells3 Try.cells24 (okWide_slice Try.underlying22 (hval 1 22 v1 rfl rfl)) h1
  obtain ⟨a2, e2, -, -, w2⟩ := open_int Try.underlying3 (hval 2 3 v2 rfl rfl) h2
  obtain ⟨a3, e3, -, -, w3⟩ := open_int Try.underlying3 (hval 3 3 v3 rfl rfl) h3
  obtain ⟨a4, e4, -, -, w4⟩ := open_int Try.underlying3 (hval 4 3 v4 rfl rfl) h4
  have hw : Calls Try.prog 19 args W (fun e W' => e = .returned (.bool true) ∧ Below W.heap.size W W') := by
    rw [ha, e0, e2, e3, e4]; exact union_any a0 a2 a3 a4 a1 v1 W k1
  exact hw.mono fun e W' ⟨he, hb⟩ => ⟨_, he, law_post Try.laidOut hW' rfl rfl Try.underlying4 (by rw [hdd]; rfl)
    (by kernel_rfl) hb⟩

theorem holds : Rows.DependUnionSaid :=
  OpenClaim.holds_of_wide 19 Try.f19 rfl rfl rfl rfl rfl rfl rfl ⟨rfl, rfl, rfl, rfl, rfl⟩ rfl rfl rfl rfl rfl (by kernel_rfl) Try.func19 (by kernel_rfl)
    (of_decide_eq_true (by kernel_rfl)) (by unfold Func.isWrapper; first | (rw [if_pos (by decide +kernel)]; kernel_rfl) | (rw [if_neg (by decide +kernel)]; exact ⟨rfl, rfl⟩))
    (fun os started H enc _ => lifted os started H enc)
#print axioms holds
end dependUnion
end Go.Proofs.Ytnidalbfmicoiaa
