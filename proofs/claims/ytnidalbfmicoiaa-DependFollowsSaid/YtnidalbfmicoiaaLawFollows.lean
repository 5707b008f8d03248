/- DependFollows: for every input the law returns true. -/
import Derived.Test.YtnidalbfmicoiaaWalkZ
import Derived.Test.YtnidalbfmicoiaaFrame
import Derived.Test.YtnidalbfmicoiaaFacts
import Derived.Test.YtnidalbfmicoiaaRows
namespace Go.Proofs.Ytnidalbfmicoiaa
open Go.RowKit

theorem valid_take {n : Int} {l : List (Int × Int)} {s : List Int} : ValidP n (l.take 14) s ↔ ValidP n l s := by
  by_cases h : l.length ≤ 14
  · rw [List.take_of_length_le h]
  · constructor
    · intro hv
      have := hv.1.2.2
      simp at this
      omega
    · intro hv
      have := hv.1.2.2
      omega
/-- what the three functions answer -/
def FCase (n s t : Int) (l : List (Int × Int)) (c e1 e2 r : Int) (f : Bool) (P : World → Value → Prop) : Prop :=
  (¬ ValidP n l [] ∧ c = 0 ∧ e1 = 2 ∧ f = false ∧ e2 = 2 ∧ r = 2 ∧ P = fun _ u => u = .slice none 0 0) ∨
  ∃ (m : Nat) (l' : List DepN), n = m ∧ l = castD l' ∧ Okl m l' ∧
    ((¬ InSet m s ∧ c = 0 ∧ e1 = 2 ∧ f = false ∧ e2 = 2 ∧ r = 2 ∧ P = fun _ u => u = .slice none 0 0) ∨
     ∃ a : Nat, s = a ∧ a < 2 ^ m ∧ c = (cl l' a : Nat) ∧ e1 = 0 ∧
      ((¬ InSet m t ∧ f = false ∧ e2 = 2 ∧ r = 2 ∧ P = fun _ u => u = .slice none 0 0) ∨
       ∃ b : Nat, t = b ∧ b < 2 ^ m ∧ e2 = 0 ∧
        ((Sub b (cl l' a) ∧ f = true ∧ r = 5 ∧ P = fun _ u => u = .slice none 0 0) ∨
         (¬ Sub b (cl l' a) ∧ f = false ∧ r = 0 ∧ P = fun w u => Rows w u [List.replicate m 0, outRow (cl l' a) 1 m]))))

set_option maxRecDepth 100000 in
theorem follows_gen (n s t : Int) (l : List (Int × Int)) (v : Value) (w : World) (hv : Deps w v l) (c e1 e2 r : Int) (f : Bool) (P : World → Value → Prop)
    (hC : ∀ v' w', Deps w' v' (l.take 14) → Calls Try.prog 21 #[.int .i64 n, v', .int .i64 s] w' fun e w'' => e = .returned (.tuple #[.int .i64 c, .int .i64 e1]) ∧ Below w'.heap.size w' w'')
    (hF : ∀ v' w', Deps w' v' (l.take 14) → Calls Try.prog 23 #[.int .i64 n, v', .agg #[.int .i64 s, .int .i64 t]] w' fun e w'' => e = .returned (.tuple #[.bool f, .int .i64 e2]) ∧ Below w'.heap.size w' w'')
    (hR : ∀ v' w', Deps w' v' (l.take 14) → Calls Try.prog 25 #[.int .i64 n, v', .agg #[.int .i64 s, .int .i64 t]] w' fun e w'' => ∃ u, e = .returned (.tuple #[u, .int .i64 r]) ∧ P w'' u ∧ Below w'.heap.size w' w'')
    (hcase : FCase n s t l c e1 e2 r f P) :
    Calls Try.prog 3 #[.int .i64 n, v, .agg #[.int .i64 s, .int .i64 t]] w fun e w' => e = .returned (.bool true) ∧ Below w.heap.size w w' := by
  have Hv := Lib.hid hv
  have HC := Lib.hid hC
  have HF := Lib.hid hF
  have HR := Lib.hid hR
  have Hcase := Lib.hid hcase
  have hb0 := below_alloc w (.cells #[.int .i64 s, .int .i64 t] 24)
  have c0 := cell_new w #[.int .i64 s, .int .i64 t] 24 0
  have c1 := cell_new w #[.int .i64 s, .int .i64 t] 24 1
  have hz : (w.alloc (.cells #[.int .i64 s, .int .i64 t] 24)).heap.size = w.heap.size + 1 := by simp
  clear hv hC hF hR hcase
  go_enter Try.func3, Try.ntmps3
  go_wp2_with fail
  generalize w.alloc (.cells #[.int .i64 s, .int .i64 t] 24) = w0 at *
  have Hb0 := Lib.hid hb0
  have Hz := Lib.hid hz
  have C0 := Lib.hid c0
  have C1 := Lib.hid c1
  clear hb0 hz c0 c1
  go_region_held3 (fun w' => w'.cell? ⟨w.heap.size, 0, none⟩ = some (.int .i64 s) ∧ w'.cell? ⟨w.heap.size, 1, none⟩ = some (.int .i64 t) ∧ Below w0.heap.size w0 w')
    ((refine hold2 C0.out C1.out ?_; repeat (first | exact Below.refl _ _ | refine Below.drew ?_ | refine Below.tr ?_ (below_alloc _ _) | refine Below.tr ?_ (by assumption))))
    (first | (go_at_call 22; refine (deps_any l _ _ (by exact Deps.keep Hv.out Hb0.out.drew)).mono ?_; rintro e w1 ⟨v1, rfl, hd1, hb1⟩) | (go_at_call 21; refine (HC.out _ _ (by exact hd1)).mono ?_; rintro e w3 ⟨rfl, hb3⟩))
  have Hb3 := Lib.hid (show Below w0.heap.size w0 w3 from (Below.tr (Below.tr (Below.refl _ _).drew hb1) hb3))
  clear hd1 hb1 hb3
  go_wp2_with fail
  go_region_held3 (fun w' => w'.cell? ⟨w.heap.size, 0, none⟩ = some (.int .i64 s) ∧ w'.cell? ⟨w.heap.size, 1, none⟩ = some (.int .i64 t) ∧ Below w3.heap.size w3 w')
    ((refine hold2 (Below.keep Hb3.out C0.out) (Below.keep Hb3.out C1.out) ?_; repeat (first | exact Below.refl _ _ | refine Below.drew ?_ | refine Below.tr ?_ (below_alloc _ _) | refine Below.tr ?_ (by assumption))))
    (first | (go_at_call 22; refine (deps_any l _ _ (by exact Deps.keep Hv.out (Below.tr Hb0.out Hb3.out).drew)).mono ?_; rintro e w4 ⟨v4, rfl, hd4, hb4⟩) | (go_at_call 24; refine (dep_any _ _ _).mono ?_; rintro e w5 ⟨rfl, hb5⟩) | (go_at_call 23; refine (HF.out _ _ (by exact Deps.keep hd4 hb5)).mono ?_; rintro e w6 ⟨rfl, hb6⟩))
  have Hb6 := Lib.hid (show Below w0.heap.size w0 w6 from (Below.tr Hb3.out (Below.tr (Below.tr (Below.tr (Below.refl _ _).drew hb4) hb5) hb6)))
  clear hd4 hb4 hb5 hb6
  go_wp2_with fail
  go_region_held3 (fun w' => w'.cell? ⟨w.heap.size, 0, none⟩ = some (.int .i64 s) ∧ w'.cell? ⟨w.heap.size, 1, none⟩ = some (.int .i64 t) ∧ Below w6.heap.size w6 w')
    ((refine hold2 (Below.keep Hb6.out C0.out) (Below.keep Hb6.out C1.out) ?_; repeat (first | exact Below.refl _ _ | refine Below.drew ?_ | refine Below.tr ?_ (below_alloc _ _) | refine Below.tr ?_ (by assumption))))
    (first | (go_at_call 22; refine (deps_any l _ _ (by exact Deps.keep Hv.out (Below.tr Hb0.out Hb6.out).drew)).mono ?_; rintro e w7 ⟨v7, rfl, hd7, hb7⟩) | (go_at_call 24; refine (dep_any _ _ _).mono ?_; rintro e w8 ⟨rfl, hb8⟩) | (go_at_call 25; refine (HR.out _ _ (by exact Deps.keep hd7 hb8)).mono ?_; rintro e w9 ⟨u, rfl, hP, hb9⟩))
  have Hb9 := Lib.hid (show Below w0.heap.size w0 w9 from (Below.tr Hb6.out (Below.tr (Below.tr (Below.tr (Below.refl _ _).drew hb7) hb8) hb9)))
  have HP := Lib.hid hP
  clear hd7 hb7 hb8 hb9 hP Hb3 Hb6
  go_wp2_with fail
  refine (awake_any _).mono ?_
  rintro e wa ⟨rfl, hba⟩
  have Hba := Lib.hid (Below.tr Hb9.out hba)
  have Hb9a := Lib.hid hba
  have c0 := Below.keep Hba.out C0.out
  have c1 := Below.keep Hba.out C1.out
  clear hba
  go_wp2_with fail
  refine (validR_any n l _ _ (by exact Deps.keep Hv.out (Below.tr Hb0.out Hba.out))).mono ?_
  rintro e wb ⟨rfl, hbb⟩
  have Hbb := Lib.hid (Below.tr Hba.out hbb)
  have Hb9b := Lib.hid (Below.tr Hb9a.out hbb)
  clear hbb
  replace c0 := Below.keep Hbb.out C0.out
  replace c1 := Below.keep Hbb.out C1.out
  rcases Hcase.out with ⟨hbad, rfl, rfl, rfl, rfl, rfl, rfl⟩ | ⟨m, l', rfl, rfl, hok, hcase⟩
  · have hu : u = .slice none 0 0 := HP.out
    subst hu
    rw [decide_eq_false hbad]
    clear HC HF HR Hcase HP hbad
    go_wp2_with fail
    go_ret
    exact ⟨rfl, Below.tr Hb0.out Hbb.out⟩
  · have hval : ValidP m (castD l') [] := validP_nat hok.h1 hok.h8 hok.h12 hok.hl (t := []) (by simp)
    rw [decide_eq_true hval]
    have hm8 := hok.h8
    have Hok := Lib.hid hok
    clear HC HF HR Hcase hval hok
    go_wp2_with fail
    refine (setR_any m s hm8 _).mono ?_
    rintro e wc ⟨rfl, rfl⟩
    rcases hcase with ⟨hbad, rfl, rfl, rfl, rfl, rfl, rfl⟩ | ⟨a, rfl, ha, rfl, rfl, hcase⟩
    · have hu : u = .slice none 0 0 := HP.out
      subst hu
      rw [decide_eq_false hbad]
      clear HP hbad
      go_wp2_with fail
      go_ret
      exact ⟨rfl, Below.tr Hb0.out Hbb.out⟩
    · have hin : InSet m (a : Int) := (inSet_nat m a).2 ⟨by omega, by omega⟩
      rw [decide_eq_true hin]
      have hp := Hok.out.pow
      have Ha := Lib.hid (show a < 256 by omega)
      have Ha2 := Lib.hid ha
      have Hin := Lib.hid hin
      clear hin hp ha
      go_wp2_with fail
      refine (closureR_any l' Hok.out.lt a Ha.out _ _ (Deps.keep Hv.out (Below.tr Hb0.out Hbb.out))).mono ?_
      rintro e wd ⟨rfl, hbd⟩
      have Hbd := Lib.hid (Below.tr Hbb.out hbd)
      have Hb9d := Lib.hid (Below.tr Hb9b.out hbd)
      clear hbd
      replace c0 := Below.keep Hbd.out C0.out
      replace c1 := Below.keep Hbd.out C1.out
      go_wp2_with fail
      refine (pairR_any m _ _ hm8 _).mono ?_
      rintro e we ⟨rfl, hbe⟩
      have Hbe := Lib.hid (Below.tr Hbd.out hbe)
      have Hb9e := Lib.hid (Below.tr Hb9d.out hbe)
      clear hbe
      replace c0 := Below.keep Hbe.out C0.out
      replace c1 := Below.keep Hbe.out C1.out
      rcases hcase with ⟨hbad, rfl, rfl, rfl, rfl⟩ | ⟨b, rfl, hb, rfl, hcase⟩
      · have hu : u = .slice none 0 0 := HP.out
        subst hu
        rw [decide_eq_false (fun h : InSet m (a : Int) ∧ InSet m t => hbad h.2)]
        clear HP hbad
        go_wp2_with fail
        go_ret
        exact ⟨rfl, Below.tr Hb0.out Hbe.out⟩
      · have hinb : InSet m (b : Int) := (inSet_nat m b).2 ⟨by omega, by omega⟩
        rw [decide_eq_true (show InSet m (a : Int) ∧ InSet m (b : Int) from ⟨Hin.out, hinb⟩)]
        have hp := Hok.out.pow
        have Hb := Lib.hid (show b < 256 by omega)
        have Hb2 := Lib.hid hb
        clear hinb hp hb
        go_wp2_with fail
        refine (followsR_any Hok.out.lt a b Ha.out Hb.out _ _ (Deps.keep Hv.out (Below.tr Hb0.out Hbe.out))).mono ?_
        rintro e wf ⟨rfl, hbf⟩
        have Hbf := Lib.hid (Below.tr Hbe.out hbf)
        have Hb9f := Lib.hid (Below.tr Hb9e.out hbf)
        clear hbf
        replace c0 := Below.keep Hbf.out C0.out
        replace c1 := Below.keep Hbf.out C1.out
        rcases hcase with ⟨hS, rfl, rfl, rfl⟩ | ⟨hS, rfl, rfl, rfl⟩
        · have hu : u = .slice none 0 0 := HP.out
          subst hu
          rw [decide_eq_true hS]
          clear HP hS
          go_wp2_with fail
          go_ret
          exact ⟨rfl, Below.tr Hb0.out Hbf.out⟩
        · have hu : Rows w9 u _ := HP.out
          have HU := Lib.hid hu
          rw [decide_eq_false hS]
          clear HP hS hu
          go_wp2_with fail
          refine (refuteR_any Hok.out Ha2.out _ _ (Deps.keep Hv.out (Below.tr Hb0.out Hbf.out))).mono ?_
          rintro e wg ⟨v', rfl, hr, hbg⟩
          have Hbg := Lib.hid (Below.tr Hbf.out hbg)
          have Hb9g := Lib.hid (Below.tr Hb9f.out hbg)
          have Hr := Lib.hid hr
          clear hbg hr
          go_wp2_with fail
          refine (same_any _ _ _ _ _ (Rows.keep HU.out Hb9g.out) Hr.out).mono ?_
          rintro e wh ⟨rfl, hbh⟩
          have Hbh := Lib.hid (Below.tr Hbg.out hbh)
          clear hbh
          rw [decide_eq_true rfl]
          go_wp2_with fail
          go_ret
          exact ⟨rfl, Below.tr Hb0.out Hbh.out⟩
theorem followsLaw_any (n s t : Int) (l : List (Int × Int)) (v : Value) (w : World) (hv : Deps w v l) :
    Calls Try.prog 3 #[.int .i64 n, v, .agg #[.int .i64 s, .int .i64 t]] w fun e w' => e = .returned (.bool true) ∧ Below w.heap.size w w' := by
  by_cases h : ValidP n l []
  · obtain ⟨m, l', q, rfl, h1, h8, rfl, h12, hl, hq, hlt⟩ := h.nat
    have hok : Okl m l' := ⟨h1, h8, h12, hl⟩
    have ht : (castD l').take 14 = castD l' := List.take_of_length_le (by simp [castD]; omega)
    by_cases hs : InSet m s
    · obtain ⟨a, rfl, ha⟩ := hs.nat
      by_cases hts : InSet m t
      · obtain ⟨b, rfl, hb⟩ := hts.nat
        by_cases hS : Sub b (cl l' a)
        · refine follows_gen _ _ _ _ v w hv (cl l' a : Nat) 0 0 5 true (fun _ u => u = .slice none 0 0) ?_ ?_ ?_ (.inr ⟨m, l', rfl, rfl, hok, .inr ⟨a, rfl, ha, rfl, rfl, .inr ⟨b, rfl, hb, rfl, .inl ⟨hS, rfl, rfl, rfl⟩⟩⟩⟩)
          · intro v' w' hv'; rw [ht] at hv'; exact closure_nat hok ha v' w' hv'
          · intro v' w' hv'; rw [ht] at hv'; have := followsE_ok hok ha hb v' w' hv'; rwa [decide_eq_true hS] at this
          · intro v' w' hv'; rw [ht] at hv'; exact (refute_yes hok ha hb hS v' w' hv').mono fun e w'' ⟨he, hbb⟩ => ⟨_, he, rfl, hbb⟩
        · refine follows_gen _ _ _ _ v w hv (cl l' a : Nat) 0 0 0 false (fun w u => Rows w u [List.replicate m 0, outRow (cl l' a) 1 m]) ?_ ?_ ?_ (.inr ⟨m, l', rfl, rfl, hok, .inr ⟨a, rfl, ha, rfl, rfl, .inr ⟨b, rfl, hb, rfl, .inr ⟨hS, rfl, rfl, rfl⟩⟩⟩⟩)
          · intro v' w' hv'; rw [ht] at hv'; exact closure_nat hok ha v' w' hv'
          · intro v' w' hv'; rw [ht] at hv'; have := followsE_ok hok ha hb v' w' hv'; rwa [decide_eq_false hS] at this
          · intro v' w' hv'; rw [ht] at hv'; exact refute_no hok ha hb hS v' w' hv'
      · have hbad : ¬ ValidP m (castD l') [(a : Int), t] := fun hq => hts ((hok.valid2 _ t).1 hq).2
        refine follows_gen _ _ _ _ v w hv (cl l' a : Nat) 0 2 2 false (fun _ u => u = .slice none 0 0) ?_ ?_ ?_ (.inr ⟨m, l', rfl, rfl, hok, .inr ⟨a, rfl, ha, rfl, rfl, .inl ⟨hts, rfl, rfl, rfl, rfl⟩⟩⟩)
        · intro v' w' hv'; rw [ht] at hv'; exact closure_nat hok ha v' w' hv'
        · intro v' w' hv'; rw [ht] at hv'; exact followsE_bad _ _ _ _ v' w' hv' hbad
        · intro v' w' hv'; rw [ht] at hv'; exact (refute_bad _ _ _ _ v' w' hv' hbad).mono fun e w'' ⟨he, hbb⟩ => ⟨_, he, rfl, hbb⟩
    · have hbad : ¬ ValidP m (castD l') [s, t] := fun hq => hs ((hok.valid2 s t).1 hq).1
      refine follows_gen _ _ _ _ v w hv 0 2 2 2 false (fun _ u => u = .slice none 0 0) ?_ ?_ ?_ (.inr ⟨m, l', rfl, rfl, hok, .inl ⟨hs, rfl, rfl, rfl, rfl, rfl, rfl⟩⟩)
      · intro v' w' hv'; rw [ht] at hv'; exact closure_bad _ _ _ v' w' hv' (fun hq => hs ((hok.valid s).1 hq))
      · intro v' w' hv'; rw [ht] at hv'; exact followsE_bad _ _ _ _ v' w' hv' hbad
      · intro v' w' hv'; rw [ht] at hv'; exact (refute_bad _ _ _ _ v' w' hv' hbad).mono fun e w'' ⟨he, hbb⟩ => ⟨_, he, rfl, hbb⟩
  · have hno : ∀ q, ¬ ValidP n (l.take 14) q := fun q hq => h (by
      have hq := valid_take.1 hq
      exact ⟨hq.1, hq.2.1, fun x hx => by simp at hx⟩)
    refine follows_gen _ _ _ _ v w hv 0 2 2 2 false (fun _ u => u = .slice none 0 0) ?_ ?_ ?_ (.inl ⟨h, rfl, rfl, rfl, rfl, rfl, rfl⟩)
    · intro v' w' hv'; exact closure_bad _ _ _ v' w' hv' (hno _)
    · intro v' w' hv'; exact followsE_bad _ _ _ _ v' w' hv' (hno _)
    · intro v' w' hv'; exact (refute_bad _ _ _ _ v' w' hv' (hno _)).mono fun e w'' ⟨he, hbb⟩ => ⟨_, he, rfl, hbb⟩

namespace dependFollows
open Go.ChangeShapes Go.WideShapes Go.ChangeAt
set_option maxRecDepth 100000 in
theorem lifted (os : Os) (started : os.Started) (H : Type) (enc : TypeId × Value → H) :
    ReturnsInHanded {} Try.checked os 3 .any (Rows.dependFollowsSpec.pre6 enc Try.prog Try.f3 Rows.dependFollowsRow.domain false) (Rows.dependFollowsSpec.post enc Try.prog Try.f3 false true false false) := by
  refine returnsInHanded_of_change (C := Try.checked) Try.own started (by kernel_rfl) Try.func3
    (ChangeSpec.witness6 (enc := enc) (C := Try.checked) false ⟨#[], #[.int .i64 0, .slice none 0 0, .agg #[.int .i64 0, .int .i64 0]], []⟩ 8 (by kernel_rfl) (by kernel_rfl) (by kernel_rfl) (by kernel_rfl)) ?_
  intro W base args ds gs before hval0 hW _ _
  have hval : ∀ (j : Nat) t v, Try.f3.params[j]? = some t → args[j]? = some v → Value.okWide Try.prog W .any base t v := hval0
  clear hval0
  obtain rfl : gs = [] := by obtain ⟨p, q, _, hV, _⟩ := hW; exact (trodVars_none hV).1
  have hW' := hW
  obtain ⟨p, q, hA0, hV, rfl, hfz, hnd⟩ := hW
  have hA : DataW.TrodAll enc Try.prog W 0 (fun _ => true) true Try.f3.params.toList args.toList ds p := hA0
  rw [Try.params3] at hA hval
  obtain ⟨v0, vs0, d0, ds0, p0, q0, hv0, hd0, hp0, h0, r0⟩ := trodAll_cons hA
  obtain ⟨v1, vs1, d1, ds1, p1, q1, hv1, hd1, hp1, h1, r1⟩ := trodAll_cons r0
  obtain ⟨v2, vs2, d2, ds2, p2, q2, hv2, hd2, hp2, h2, r2⟩ := trodAll_cons r1
  obtain ⟨hvn, hdn, hpn⟩ := trodAll_nil r2
  have ha : args = #[v0, v1, v2] := by cases args; simp_all
  have hdd : ds = [d0, d1, d2] := by simp_all
  rw [ha] at hval
  obtain ⟨a0, e0, -, -, w0⟩ := open_int Try.underlying3 (hval 0 3 v0 rfl rfl) h0
  obtain ⟨a1, k1⟩ := deps_of_trod Try.underlying22 Try.underlying24 ⟨rfl, rfl⟩ ⟨rfl, rfl⟩ Try.underlying3 Try.cells3 Try.cells24 (okWide_slice Try.underlying22 (hval 1 22 v1 rfl rfl)) h1
  obtain ⟨a2, e2⟩ := pair_arg Try.underlying24 ⟨rfl, rfl⟩ ⟨rfl, rfl⟩ Try.underlying3 Try.cells3 Try.cells24 (hval 2 24 v2 rfl rfl) h2
  have hw : Calls Try.prog 3 args W (fun e W' => e = .returned (.bool true) ∧ Below W.heap.size W W') := by
    rw [ha, e0, e2]; exact followsLaw_any a0 a2.1 a2.2 a1 v1 W k1
  exact hw.mono fun e W' ⟨he, hb⟩ => ⟨_, he, law_post Try.laidOut hW' rfl rfl Try.underlying4 (by rw [hdd]; rfl)
    (by kernel_rfl) hb⟩

theorem holds : Rows.DependFollowsSaid :=
  OpenClaim.holds_of_wide 3 Try.f3 rfl rfl rfl rfl rfl rfl rfl ⟨rfl, rfl, rfl, rfl, rfl⟩ rfl rfl rfl rfl rfl (by kernel_rfl) Try.func3 (by kernel_rfl)
    (of_decide_eq_true (by kernel_rfl)) (by unfold Func.isWrapper; first | (rw [if_pos (by decide +kernel)]; kernel_rfl) | (rw [if_neg (by decide +kernel)]; exact ⟨rfl, rfl⟩))
    (fun os started H enc _ => lifted os started H enc)
#print axioms holds
end dependFollows
end Go.Proofs.Ytnidalbfmicoiaa
