/- DependChases: for every input the law returns true. -/
import Derived.Test.YtnidalbfmicoiaaWalkCh
import Derived.Test.YtnidalbfmicoiaaWalkZ
import Derived.Test.YtnidalbfmicoiaaFrame
import Derived.Test.YtnidalbfmicoiaaFacts
import Derived.Test.YtnidalbfmicoiaaRows
namespace Go.Proofs.Ytnidalbfmicoiaa
open Go.RowKit

theorem valid_take {n : Int} {l : List (Int × Int)} {s : List Int} : ValidP n (l.take 14) s ↔ ValidP n l s := by
  by_cases h : l.length ≤ 14
  · rw [List.take_of_length_le h]
  · constructor
    · intro hv
      have := hv.1.2.2
      simp at this
      omega
    · intro hv
      have := hv.1.2.2
      omega
/-- what the two functions answer -/
def CCase (n : Int) (l : List (Int × Int)) (ps : List Int) (b : Bool) (e1 e2 : Int) (P : World → Value → Prop) : Prop :=
  (¬ (ValidP n l [] ∧ PartsP n ps) ∧ b = false ∧ e1 = 2 ∧ e2 = 2 ∧ P = fun _ u => u = .slice none 0 0) ∨
  ∃ (m k : Nat) (l' : List DepN) (q : List Nat) (T : List (List Int)), n = m ∧ l = castD l' ∧ ps = castN q ∧ Okl m l' ∧ PartsN m q ∧ k = q.length ∧ ChaseEnd l' (initTo q m k) k m T ∧ (b = true ↔ ZeroRow T k m) ∧ e1 = 0 ∧ e2 = 0 ∧ P = fun w u => Rows w u T

set_option maxRecDepth 100000 in
theorem chases_gen (n : Int) (l : List (Int × Int)) (ps : List Int) (v u : Value) (w : World) (hv : Deps w v l) (hu : Ints w u ps) (b : Bool) (e1 e2 : Int) (P : World → Value → Prop)
    (hC : ∀ v' u' w', Deps w' v' (l.take 14) → Ints w' u' (ps.take 10) → Calls Try.prog 54 #[.int .i64 n, v', u'] w' fun e w'' => ∃ r, e = .returned (.tuple #[r, .int .i64 e1]) ∧ P w'' r ∧ Below w'.heap.size w' w'')
    (hL : ∀ v' u' w', Deps w' v' (l.take 14) → Ints w' u' (ps.take 10) → Calls Try.prog 56 #[.int .i64 n, v', u'] w' fun e w'' => e = .returned (.tuple #[.bool b, .int .i64 e2]) ∧ Below w'.heap.size w' w'')
    (hcase : CCase n l ps b e1 e2 P) :
    Calls Try.prog 9 #[.int .i64 n, v, u] w fun e w' => e = .returned (.bool true) ∧ Below w.heap.size w w' := by
  have Hv := Lib.hid hv
  have Hu := Lib.hid hu
  have HC := Lib.hid hC
  have HL := Lib.hid hL
  have Hcase := Lib.hid hcase
  clear hv hu hC hL hcase
  go_enter Try.func9, Try.ntmps9
  go_wp2_with fail
  refine (deps_any l _ _ Hv.out).mono ?_
  rintro e w1 ⟨v1, rfl, hd1, hb1⟩
  have Hb1 := Lib.hid hb1
  have Hd1 := Lib.hid hd1
  clear hb1 hd1
  go_wp2_with fail
  refine (list_any ps _ _ (Ints.keep Hu.out Hb1.out)).mono ?_
  rintro e w2 ⟨u2, rfl, hi2, hb2⟩
  have Hd2 := Lib.hid (Deps.keep Hd1.out hb2)
  have Hi2 := Lib.hid hi2
  have Hb2 := Lib.hid (Below.tr Hb1.out hb2)
  clear hi2 hb2 Hd1 Hb1
  go_wp2_with fail
  refine (HC.out _ _ _ Hd2.out Hi2.out).mono ?_
  rintro e w3 ⟨r, rfl, hP, hb3⟩
  have HP := Lib.hid hP
  have Hb3 := Lib.hid (Below.tr Hb2.out hb3)
  clear hP hb3 Hd2 Hi2 Hb2
  go_wp2_with fail
  refine (deps_any l _ _ (Deps.keep Hv.out Hb3.out)).mono ?_
  rintro e w4 ⟨v4, rfl, hd4, hb4⟩
  have Hb34 := Lib.hid hb4
  have Hb4 := Lib.hid (Below.tr Hb3.out hb4)
  have Hd4 := Lib.hid hd4
  clear hb4 hd4
  go_wp2_with fail
  refine (list_any ps _ _ (Ints.keep Hu.out Hb4.out)).mono ?_
  rintro e w5 ⟨u5, rfl, hi5, hb5⟩
  have Hd5 := Lib.hid (Deps.keep Hd4.out hb5)
  have Hi5 := Lib.hid hi5
  have Hb35 := Lib.hid (Below.tr Hb34.out hb5)
  have Hb5 := Lib.hid (Below.tr Hb4.out hb5)
  clear hi5 hb5 Hd4 Hb4 Hb34
  go_wp2_with fail
  refine (HL.out _ _ _ Hd5.out Hi5.out).mono ?_
  rintro e w6 ⟨rfl, hb6⟩
  have Hb36 := Lib.hid (Below.tr Hb35.out hb6)
  have Hb6 := Lib.hid (Below.tr Hb5.out hb6)
  clear hb6 Hd5 Hi5 Hb5 Hb35
  go_wp2_with fail
  refine (validR_any n l _ _ (Deps.keep Hv.out Hb6.out)).mono ?_
  rintro e w7 ⟨rfl, hb7⟩
  have Hb37 := Lib.hid (Below.tr Hb36.out hb7)
  have Hb7 := Lib.hid (Below.tr Hb6.out hb7)
  clear hb7
  rcases Hcase.out with ⟨hbad, rfl, rfl, rfl, rfl⟩ | ⟨m, k, l', q, T, rfl, rfl, rfl, hok, hq, hk, hend, hb, rfl, rfl, rfl⟩
  · have hr : r = .slice none 0 0 := HP.out
    subst hr
    by_cases hval : ValidP n l []
    · rw [decide_eq_true hval]
      have Hp := Lib.hid (show ¬ PartsP n ps from fun h => hbad ⟨hval, h⟩)
      obtain ⟨m, l', -, rfl, hm1, hm8, -, -, -, -, -⟩ := hval.nat
      clear HC HL Hcase HP hbad hval
      go_wp2_with fail
      refine (partsR_any m _ hm1 hm8 rfl ps _ _ (Ints.keep Hu.out Hb7.out)).mono ?_
      rintro e w8 ⟨b, rfl, hb, hb8⟩
      have Hb8 := Lib.hid (Below.tr Hb7.out hb8)
      obtain rfl : b = false := by cases b with | true => exact absurd (hb.1 rfl) Hp.out | false => rfl
      clear hb hb8
      go_wp2_with fail
      refine (awake_any _).mono ?_
      rintro e w9 ⟨rfl, hb9⟩
      have Hb9 := Lib.hid (Below.tr Hb8.out hb9)
      clear hb9
      go_wp2_with fail
      go_ret
      exact ⟨rfl, Hb9.out⟩
    · rw [decide_eq_false hval]
      clear HC HL Hcase HP hbad hval
      go_wp2_with fail
      refine (awake_any _).mono ?_
      rintro e w9 ⟨rfl, hb9⟩
      have Hb9 := Lib.hid (Below.tr Hb7.out hb9)
      clear hb9
      go_wp2_with fail
      go_ret
      exact ⟨rfl, Hb9.out⟩
  · have hval : ValidP m (castD l') [] := validP_nat hok.h1 hok.h8 hok.h12 hok.hl (t := []) (by simp)
    rw [decide_eq_true hval]
    have Hp := Lib.hid (show PartsP m (castN q) from ⟨m, q, rfl, rfl, hok.h1, hok.h8, hq⟩)
    have hm1 := hok.h1
    have hm8 := hok.h8
    have Hok := Lib.hid hok
    have Hq := Lib.hid hq
    have Hk := Lib.hid hk
    have Hend := Lib.hid hend
    have HB := Lib.hid hb
    have HR := Lib.hid (show Rows w3 r T from HP.out)
    clear HC HL Hcase HP hval hok hq hk hend hb
    go_wp2_with fail
    refine (partsR_any m _ hm1 hm8 rfl (castN q) _ _ (Ints.keep Hu.out Hb7.out)).mono ?_
    rintro e w8 ⟨b8, rfl, hb8', hb8⟩
    have Hb38 := Lib.hid (Below.tr Hb37.out hb8)
    have Hb8 := Lib.hid (Below.tr Hb7.out hb8)
    obtain rfl : b8 = true := hb8'.2 Hp.out
    clear hb8' hb8
    go_wp2_with fail
    refine (chaseR_any Hok.out q Hk.out (by rw [Hk.out]; exact Hq.out.1) (by rw [Hk.out]; exact Hq.out.2.1) Hq.out.2.2.1 _ _ _ (Deps.keep Hv.out Hb8.out) (Ints.keep Hu.out Hb8.out)).mono ?_
    rintro e w9 ⟨r9, T9, rfl, hr9, he9, hb9⟩
    have Hb39 := Lib.hid (Below.tr Hb38.out hb9)
    have Hb9 := Lib.hid (Below.tr Hb8.out hb9)
    obtain rfl : T9 = T := end_unique he9 Hend.out
    have Hr9 := Lib.hid hr9
    clear hr9 he9 hb9
    go_wp2_with fail
    refine (same_any _ _ _ _ _ (Rows.keep HR.out Hb39.out) Hr9.out).mono ?_
    rintro e w10 ⟨rfl, hb10⟩
    have Hb10 := Lib.hid (Below.tr Hb9.out hb10)
    clear hb10
    rw [decide_eq_true rfl]
    go_wp2_with fail
    refine (lossR_any Hok.out q Hk.out Hq.out _ _ _ (Deps.keep Hv.out Hb10.out) (Ints.keep Hu.out Hb10.out)).mono ?_
    rintro e w11 ⟨b11, T11, rfl, he11, hb11', hb11⟩
    have Hb11 := Lib.hid (Below.tr Hb10.out hb11)
    obtain rfl : T11 = T9 := end_unique he11 Hend.out
    obtain rfl : b11 = b := by rw [Bool.eq_iff_iff, hb11', HB.out]
    clear he11 hb11' hb11
    go_wp2_with fail
    refine (awake_any _).mono ?_
    rintro e w12 ⟨rfl, hb12⟩
    have Hb12 := Lib.hid (Below.tr Hb11.out hb12)
    clear hb12
    go_wp2_with fail
    go_ret
    exact ⟨rfl, Hb12.out⟩

theorem chases_any (n : Int) (l : List (Int × Int)) (ps : List Int) (v u : Value) (w : World) (hv : Deps w v l) (hu : Ints w u ps) :
    Calls Try.prog 9 #[.int .i64 n, v, u] w fun e w' => e = .returned (.bool true) ∧ Below w.heap.size w w' := by
  by_cases h : ValidP n l [] ∧ PartsP n ps
  · obtain ⟨h, hp⟩ := h
    obtain ⟨m, l', t, rfl, h1, h8, rfl, h12, hl, ht, hlt⟩ := h.nat
    obtain ⟨m', q, em, rfl, -, -, hq⟩ := hp
    have em : m = m' := by omega
    subst em
    have hok : Okl m l' := ⟨h1, h8, h12, hl⟩
    have e1 : (castD l').take 14 = castD l' := List.take_of_length_le (by simp [castD]; omega)
    have e2 : (castN q).take 10 = castN q := List.take_of_length_le (by have := hq.2.1; simp [castN]; omega)
    obtain ⟨T, hT⟩ := chase_ex hok q rfl hq
    obtain ⟨bz, hbz⟩ : ∃ b : Bool, (b = true ↔ ZeroRow T q.length m) := by
      by_cases hz : ZeroRow T q.length m
      · exact ⟨true, fun _ => hz, fun _ => rfl⟩
      · exact ⟨false, fun h => (by cases h), fun h => absurd h hz⟩
    refine chases_gen _ _ _ v u w hv hu bz 0 0 (fun w u => Rows w u T) ?_ ?_ (.inr ⟨m, q.length, l', q, T, rfl, rfl, rfl, hok, hq, rfl, hT, hbz, rfl, rfl, rfl⟩)
    · intro v' u' w' hv' hu'
      rw [e1] at hv'
      rw [e2] at hu'
      refine (chaseE_ok hok q rfl hq v' u' w' hv' hu').mono ?_
      rintro e w'' ⟨r, T', he, hr, hT', hb⟩
      rw [end_unique hT' hT] at hr
      exact ⟨r, he, hr, hb⟩
    · intro v' u' w' hv' hu'
      rw [e1] at hv'
      rw [e2] at hu'
      refine (lossE_ok hok q rfl hq v' u' w' hv' hu').mono ?_
      rintro e w'' ⟨b, T', he, hT', hb', hb⟩
      rw [end_unique hT' hT] at hb'
      obtain rfl : b = bz := by rw [Bool.eq_iff_iff, hb', hbz]
      exact ⟨he, hb⟩
  · have h' : ¬ (ValidP n (l.take 14) [] ∧ PartsP n (ps.take 10)) := fun q => h ⟨valid_take.1 q.1, partsP_take.1 q.2⟩
    refine chases_gen _ _ _ v u w hv hu false 2 2 (fun _ u => u = .slice none 0 0) ?_ ?_ (.inl ⟨h, rfl, rfl, rfl, rfl⟩)
    · intro v' u' w' hv' hu'; exact (chaseE_bad _ _ _ v' u' w' hv' hu' h').mono fun e w'' ⟨he, hb⟩ => ⟨_, he, rfl, hb⟩
    · intro v' u' w' hv' hu'; exact lossE_bad _ _ _ v' u' w' hv' hu' h'

namespace dependChases
open Go.ChangeShapes Go.WideShapes Go.ChangeAt
set_option maxRecDepth 100000 in
theorem lifted (os : Os) (started : os.Started) (H : Type) (enc : TypeId × Value → H) :
    ReturnsInHanded {} Try.checked os 9 .any (Rows.dependChasesSpec.pre6 enc Try.prog Try.f9 Rows.dependChasesRow.domain false) (Rows.dependChasesSpec.post enc Try.prog Try.f9 false true false false) := by
  refine returnsInHanded_of_change (C := Try.checked) Try.own started (by kernel_rfl) Try.func9
    (ChangeSpec.witness6 (enc := enc) (C := Try.checked) false ⟨#[], #[.int .i64 0, .slice none 0 0, .slice none 0 0], []⟩ 8 (by kernel_rfl) (by kernel_rfl) (by kernel_rfl) (by kernel_rfl)) ?_
  intro W base args ds gs before hval0 hW _ _
  have hval : ∀ (j : Nat) t v, Try.f9.params[j]? = some t → args[j]? = some v → Value.okWide Try.prog W .any base t v := hval0
  clear hval0
  obtain rfl : gs = [] := by obtain ⟨p, q, _, hV, _⟩ := hW; exact (trodVars_none hV).1
  have hW' := hW
  obtain ⟨p, q, hA0, hV, rfl, hfz, hnd⟩ := hW
  have hA : DataW.TrodAll enc Try.prog W 0 (fun _ => true) true Try.f9.params.toList args.toList ds p := hA0
  rw [Try.params9] at hA hval
  obtain ⟨v0, vs0, d0, ds0, p0, q0, hv0, hd0, hp0, h0, r0⟩ := trodAll_cons hA
  obtain ⟨v1, vs1, d1, ds1, p1, q1, hv1, hd1, hp1, h1, r1⟩ := trodAll_cons r0
  obtain ⟨v2, vs2, d2, ds2, p2, q2, hv2, hd2, hp2, h2, r2⟩ := trodAll_cons r1
  obtain ⟨hvn, hdn, hpn⟩ := trodAll_nil r2
  have ha : args = #[v0, v1, v2] := by cases args; simp_all
  have hdd : ds = [d0, d1, d2] := by simp_all
  rw [ha] at hval
  obtain ⟨a0, e0, -, -, w0⟩ := open_int Try.underlying3 (hval 0 3 v0 rfl rfl) h0
  obtain ⟨a1, k1⟩ := deps_of_trod Try.underlying22 Try.underlying24 ⟨rfl, rfl⟩ ⟨rfl, rfl⟩ Try.underlying3 Try.cells3 Try.cells24 (okWide_slice Try.underlying22 (hval 1 22 v1 rfl rfl)) h1
  obtain ⟨a2, k2⟩ := ints_of_trod Try.underlying56 Try.underlying3 Try.cells3 (okWide_slice Try.underlying56 (hval 2 56 v2 rfl rfl)) h2
  have hw : Calls Try.prog 9 args W (fun e W' => e = .returned (.bool true) ∧ Below W.heap.size W W') := by
    rw [ha, e0]; exact chases_any a0 a1 a2 v1 v2 W k1 k2
  exact hw.mono fun e W' ⟨he, hb⟩ => ⟨_, he, law_post Try.laidOut hW' rfl rfl Try.underlying4 (by rw [hdd]; rfl)
    (by kernel_rfl) hb⟩

theorem holds : Rows.DependChasesSaid :=
  OpenClaim.holds_of_wide 9 Try.f9 rfl rfl rfl rfl rfl rfl rfl ⟨rfl, rfl, rfl, rfl, rfl⟩ rfl rfl rfl rfl rfl (by kernel_rfl) Try.func9 (by kernel_rfl)
    (of_decide_eq_true (by kernel_rfl)) (by unfold Func.isWrapper; first | (rw [if_pos (by decide +kernel)]; kernel_rfl) | (rw [if_neg (by decide +kernel)]; exact ⟨rfl, rfl⟩))
    (fun os started H enc _ => lifted os started H enc)
#print axioms holds
end dependChases
end Go.Proofs.Ytnidalbfmicoiaa
