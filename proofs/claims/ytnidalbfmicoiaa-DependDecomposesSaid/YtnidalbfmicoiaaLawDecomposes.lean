/- DependDecomposes: for every input the law returns true. -/
import Derived.Test.YtnidalbfmicoiaaWalkDc
import Derived.Test.YtnidalbfmicoiaaWalkZ
import Derived.Test.YtnidalbfmicoiaaFrame
import Derived.Test.YtnidalbfmicoiaaFacts
import Derived.Test.YtnidalbfmicoiaaRows
namespace Go.Proofs.Ytnidalbfmicoiaa
open Go.RowKit

theorem valid_take {n : Int} {l : List (Int × Int)} {s : List Int} : ValidP n (l.take 14) s ↔ ValidP n l s := by
  by_cases h : l.length ≤ 14
  · rw [List.take_of_length_le h]
  · constructor
    · intro hv
      have := hv.1.2.2
      simp at this
      omega
    · intro hv
      have := hv.1.2.2
      omega
theorem hold4 {w w' : World} {a b c d : Addr} {u v x y : Value} (h1 : w.cell? a = some u) (h2 : w.cell? b = some v) (h3 : w.cell? c = some x) (h4 : w.cell? d = some y) (h : Below w.heap.size w w') : w'.cell? a = some u ∧ w'.cell? b = some v ∧ w'.cell? c = some x ∧ w'.cell? d = some y ∧ Below w.heap.size w w' :=
  ⟨Below.keep h h1, Below.keep h h2, Below.keep h h3, Below.keep h h4, h⟩
/-- what the two functions answer -/
def DCase (n s : Int) (l : List (Int × Int)) (x y e1 e2 : Int) (P : World → Value → Prop) : Prop :=
  (¬ ValidP n l [] ∧ x = 0 ∧ y = 0 ∧ e1 = 2 ∧ e2 = 2 ∧ P = fun _ u => u = .slice none 0 0) ∨
  ∃ (m : Nat) (l' : List DepN) (r : List Nat), n = m ∧ l = castD l' ∧ Okl m l' ∧ e2 = 0 ∧ Run (cl l') [] [2 ^ m - 1] r ∧ (P = fun w u => Ints w u (castN r)) ∧
    ((¬ InSet m s ∧ x = 0 ∧ y = 0 ∧ e1 = 2) ∨
     ∃ S : Nat, s = S ∧ S < 2 ^ m ∧
      ((vioTo (cl l') S = none ∧ x = 0 ∧ y = 0 ∧ e1 = 5) ∨ ∃ d, vioTo (cl l') S = some d ∧ x = (d.1 : Nat) ∧ y = (d.2 : Nat) ∧ e1 = 0))

set_option maxRecDepth 100000 in
theorem dec_gen (n s : Int) (l : List (Int × Int)) (v : Value) (w : World) (hv : Deps w v l) (x y e1 e2 : Int) (P : World → Value → Prop)
    (hV : ∀ v' w', Deps w' v' (l.take 14) → Calls Try.prog 60 #[.int .i64 n, v', .int .i64 s] w' fun e w'' => e = .returned (.tuple #[.agg #[.int .i64 x, .int .i64 y], .int .i64 e1]) ∧ Below w'.heap.size w' w'')
    (hD : ∀ v' w', Deps w' v' (l.take 14) → Calls Try.prog 61 #[.int .i64 n, v'] w' fun e w'' => ∃ u, e = .returned (.tuple #[u, .int .i64 e2]) ∧ P w'' u ∧ Below w'.heap.size w' w'')
    (hcase : DCase n s l x y e1 e2 P) :
    Calls Try.prog 10 #[.int .i64 n, v, .int .i64 s] w fun e w' => e = .returned (.bool true) ∧ Below w.heap.size w w' := by
  have Hv := Lib.hid hv
  have HV := Lib.hid hV
  have HD := Lib.hid hD
  have Hcase := Lib.hid hcase
  clear hv hV hD hcase
  go_enter Try.func10, Try.ntmps10
  go_wp2_with fail
  refine (deps_any l _ _ Hv.out).mono ?_
  rintro e w1 ⟨v1, rfl, hd1, hb1⟩
  have Hb1 := Lib.hid hb1
  have Hd1 := Lib.hid hd1
  clear hb1 hd1
  go_wp2_with fail
  refine (HV.out _ _ Hd1.out).mono ?_
  rintro e w2 ⟨rfl, hb2⟩
  have Hb2 := Lib.hid (Below.tr Hb1.out hb2)
  clear hb2 Hd1 Hb1
  have hb3 := below_alloc w2 (.cells #[.int .i64 x, .int .i64 y] 32)
  have c0 := cell_new w2 #[.int .i64 x, .int .i64 y] 32 0
  have c1 := cell_new w2 #[.int .i64 x, .int .i64 y] 32 1
  go_wp2_with fail
  generalize w2.alloc (.cells #[.int .i64 x, .int .i64 y] 32) = w3 at *
  have Hb3 := Lib.hid (Below.tr Hb2.out hb3)
  have C0 := Lib.hid c0
  have C1 := Lib.hid c1
  clear hb3 c0 c1
  refine (deps_any l _ _ (Deps.keep Hv.out Hb3.out)).mono ?_
  rintro e w4 ⟨v4, rfl, hd4, hb4⟩
  have Hb34 := Lib.hid hb4
  have Hb4 := Lib.hid (Below.tr Hb3.out hb4)
  have Hd4 := Lib.hid hd4
  clear hb4 hd4
  go_wp2_with fail
  refine (HD.out _ _ Hd4.out).mono ?_
  rintro e w5 ⟨u, rfl, hP, hb5⟩
  have Hb35 := Lib.hid (Below.tr Hb34.out hb5)
  have Hb5 := Lib.hid (Below.tr Hb4.out hb5)
  have HP := Lib.hid hP
  clear hb5 hP Hd4 Hb4 Hb34
  go_wp2_with fail
  refine (validR_any n l _ _ (Deps.keep Hv.out Hb5.out)).mono ?_
  rintro e w6 ⟨rfl, hb6⟩
  have Hb56 := Lib.hid hb6
  have Hb36 := Lib.hid (Below.tr Hb35.out hb6)
  have Hb6 := Lib.hid (Below.tr Hb5.out hb6)
  clear hb6
  rcases Hcase.out with ⟨hbad, rfl, rfl, rfl, rfl, rfl⟩ | ⟨m, l', r, rfl, rfl, hok, rfl, hrun, rfl, hcase⟩
  · have hu : u = .slice none 0 0 := HP.out
    subst hu
    rw [decide_eq_false hbad]
    have c0 := Below.keep Hb36.out C0.out
    have c1 := Below.keep Hb36.out C1.out
    clear HV HD Hcase HP hbad
    go_wp2_with fail
    refine (awake_any _).mono ?_
    rintro e w7 ⟨rfl, hb7⟩
    have Hb7 := Lib.hid (Below.tr Hb6.out hb7)
    clear hb7
    go_wp2_with fail
    go_ret
    exact ⟨rfl, Hb7.out⟩
  · have hval : ValidP m (castD l') [] := validP_nat hok.h1 hok.h8 hok.h12 hok.hl (t := []) (by simp)
    have hu : Ints w5 u (castN r) := HP.out
    rw [decide_eq_true hval]
    have hm8 := hok.h8
    have Hok := Lib.hid hok
    have Hrun := Lib.hid hrun
    have Hu := Lib.hid hu
    clear HV HD Hcase HP hval hok hu hrun
    go_wp2_with fail
    refine (decR_F Hok.out rfl r Hrun.out _ _ (Deps.keep Hv.out Hb6.out)).mono ?_
    rintro e w7 ⟨u7, rfl, hu7, hb7⟩
    have Hu7 := Lib.hid hu7
    have Hb57 := Lib.hid (Below.tr Hb56.out hb7)
    have Hb37 := Lib.hid (Below.tr Hb36.out hb7)
    have Hb7 := Lib.hid (Below.tr Hb6.out hb7)
    clear hu7 hb7
    go_wp2_with fail
    refine (equal_any _ _ _ _ _ (Ints.keep Hu.out Hb57.out) Hu7.out).mono ?_
    rintro e w8 ⟨rfl, hb8⟩
    have Hb38 := Lib.hid (Below.tr Hb37.out hb8)
    have Hb8 := Lib.hid (Below.tr Hb7.out hb8)
    clear hb8
    rw [decide_eq_true rfl]
    go_wp2_with fail
    refine (setR_any m s hm8 _).mono ?_
    rintro e w9 ⟨rfl, rfl⟩
    rcases hcase with ⟨hbad, rfl, rfl, rfl⟩ | ⟨S, rfl, hS, hcase⟩
    · rw [decide_eq_false hbad]
      have c0 := Below.keep Hb38.out C0.out
      have c1 := Below.keep Hb38.out C1.out
      clear hbad
      go_wp2_with fail
      refine (awake_any _).mono ?_
      rintro e w10 ⟨rfl, hb10⟩
      have Hb10 := Lib.hid (Below.tr Hb8.out hb10)
      clear hb10
      go_wp2_with fail
      go_ret
      exact ⟨rfl, Hb10.out⟩
    · have hin : InSet m (S : Int) := (inSet_nat m S).2 ⟨by omega, by omega⟩
      rw [decide_eq_true hin]
      have hp := Hok.out.pow
      have HS := Lib.hid (show S < 256 by omega)
      clear hin hp hS
      go_wp2_with fail
      refine (violationR_any l' Hok.out.lt S HS.out _ _ (Deps.keep Hv.out Hb8.out)).mono ?_
      rintro e w10 ⟨hq, hb10⟩
      have he : e = .returned (.tuple #[.agg #[.int .i64 x, .int .i64 y], .int .i64 e1]) := by
        rcases hcase with ⟨h1, rfl, rfl, rfl⟩ | ⟨d, h1, rfl, rfl, rfl⟩
        · rcases hq with ⟨-, h⟩ | ⟨d, h2, -⟩
          · exact h
          · rw [h1] at h2; cases h2
        · rcases hq with ⟨h2, -⟩ | ⟨d', h2, h⟩
          · rw [h1] at h2; cases h2
          · rw [h1] at h2; cases h2; exact h
      subst he
      have Hb310 := Lib.hid (Below.tr Hb38.out hb10)
      have Hb10 := Lib.hid (Below.tr Hb8.out hb10)
      clear hb10 hq hcase
      have hb11 := below_alloc w10 (.cells #[.int .i64 x, .int .i64 y] 24)
      have d0 := cell_new w10 #[.int .i64 x, .int .i64 y] 24 0
      have d1 := cell_new w10 #[.int .i64 x, .int .i64 y] 24 1
      go_wp2_with fail
      generalize w10.alloc (.cells #[.int .i64 x, .int .i64 y] 24) = w11 at *
      have Hb11 := Lib.hid (Below.tr Hb10.out hb11)
      have c0 := Below.keep (Below.tr Hb310.out hb11) C0.out
      have c1 := Below.keep (Below.tr Hb310.out hb11) C1.out
      have E0 := Lib.hid c0
      have E1 := Lib.hid c1
      have D0 := Lib.hid d0
      have D1 := Lib.hid d1
      clear hb11 c0 c1 d0 d1
      go_region_held3 (fun w' => w'.cell? ⟨w2.heap.size, 0, none⟩ = some (.int .i64 x) ∧ w'.cell? ⟨w2.heap.size, 1, none⟩ = some (.int .i64 y) ∧ w'.cell? ⟨w10.heap.size, 0, none⟩ = some (.int .i64 x) ∧ w'.cell? ⟨w10.heap.size, 1, none⟩ = some (.int .i64 y) ∧ Below w11.heap.size w11 w')
        ((refine hold4 E0.out E1.out D0.out D1.out ?_; repeat (first | exact Below.refl _ _ | refine Below.drew ?_ | refine Below.tr ?_ (below_alloc _ _) | refine Below.tr ?_ (by assumption))))
        (first | (go_at_call 24; refine (dep_any _ _ _).mono ?_; rintro e w12 ⟨rfl, hb12⟩) | (go_at_call 26; refine (awake_any _).mono ?_; rintro e w13 ⟨rfl, hb13⟩))
      go_wp2_with fail
      go_ret
      exact ⟨rfl, Below.tr Hb11.out (Below.tr (Below.tr (Below.refl _ _).drew hb12) hb13)⟩

theorem decLaw_any (n s : Int) (l : List (Int × Int)) (v : Value) (w : World) (hv : Deps w v l) :
    Calls Try.prog 10 #[.int .i64 n, v, .int .i64 s] w fun e w' => e = .returned (.bool true) ∧ Below w.heap.size w w' := by
  by_cases h : ValidP n l []
  · obtain ⟨m, l', q, rfl, h1, h8, rfl, h12, hl, hq, hlt⟩ := h.nat
    have hok : Okl m l' := ⟨h1, h8, h12, hl⟩
    have ht : (castD l').take 14 = castD l' := List.take_of_length_le (by simp [castD]; omega)
    have hp := hok.pow
    obtain ⟨r, hr⟩ := dec_ex (c := cl l') (fun x hx => sub_cl hx) (2 ^ m - 1) (by omega)
    have hD : ∀ v' w', Deps w' v' ((castD l').take 14) → Calls Try.prog 61 #[.int .i64 m, v'] w' fun e w'' => ∃ u, e = .returned (.tuple #[u, .int .i64 0]) ∧ (fun w u => Ints w u (castN r)) w'' u ∧ Below w'.heap.size w' w'' := fun v' w' hv' => by
      rw [ht] at hv'; exact dec_F hok rfl r hr v' w' hv'
    by_cases hs : InSet m s
    · obtain ⟨S, rfl, hS⟩ := hs.nat
      cases hvio : vioTo (cl l') S with
      | none =>
        refine dec_gen _ _ _ v w hv 0 0 5 0 _ ?_ hD (.inr ⟨m, l', r, rfl, rfl, hok, rfl, hr, rfl, .inr ⟨S, rfl, hS, .inl ⟨hvio, rfl, rfl, rfl⟩⟩⟩)
        intro v' w' hv'; rw [ht] at hv'
        refine (vioE_ok hok hS v' w' hv').mono fun e w'' ⟨he, hb⟩ => ⟨?_, hb⟩
        rcases he with ⟨-, h⟩ | ⟨d, h2, -⟩
        · exact h
        · rw [hvio] at h2; cases h2
      | some d =>
        refine dec_gen _ _ _ v w hv (d.1 : Nat) (d.2 : Nat) 0 0 _ ?_ hD (.inr ⟨m, l', r, rfl, rfl, hok, rfl, hr, rfl, .inr ⟨S, rfl, hS, .inr ⟨d, hvio, rfl, rfl, rfl⟩⟩⟩)
        intro v' w' hv'; rw [ht] at hv'
        refine (vioE_ok hok hS v' w' hv').mono fun e w'' ⟨he, hb⟩ => ⟨?_, hb⟩
        rcases he with ⟨h2, -⟩ | ⟨d', h2, h⟩
        · rw [hvio] at h2; cases h2
        · rw [hvio] at h2; cases h2; exact h
    · refine dec_gen _ _ _ v w hv 0 0 2 0 _ ?_ hD (.inr ⟨m, l', r, rfl, rfl, hok, rfl, hr, rfl, .inl ⟨hs, rfl, rfl, rfl⟩⟩)
      intro v' w' hv'; rw [ht] at hv'; exact vioE_bad _ _ _ v' w' hv' (fun hq => hs ((hok.valid s).1 hq))
  · have hno : ∀ q, ¬ ValidP n (l.take 14) q := fun q hq => h (by
      have hq := valid_take.1 hq
      exact ⟨hq.1, hq.2.1, fun x hx => by simp at hx⟩)
    refine dec_gen _ _ _ v w hv 0 0 2 2 (fun _ u => u = .slice none 0 0) ?_ ?_ (.inl ⟨h, rfl, rfl, rfl, rfl, rfl⟩)
    · intro v' w' hv'; exact vioE_bad _ _ _ v' w' hv' (hno _)
    · intro v' w' hv'; exact (dec_bad _ _ v' w' hv' (hno _)).mono fun e w'' ⟨he, hb⟩ => ⟨_, he, rfl, hb⟩

namespace dependDecomposes
open Go.ChangeShapes Go.WideShapes Go.ChangeAt
set_option maxRecDepth 100000 in
theorem lifted (os : Os) (started : os.Started) (H : Type) (enc : TypeId × Value → H) :
    ReturnsInHanded {} Try.checked os 10 .any (Rows.dependDecomposesSpec.pre6 enc Try.prog Try.f10 Rows.dependDecomposesRow.domain false) (Rows.dependDecomposesSpec.post enc Try.prog Try.f10 false true false false) := by
  refine returnsInHanded_of_change (C := Try.checked) Try.own started (by kernel_rfl) Try.func10
    (ChangeSpec.witness6 (enc := enc) (C := Try.checked) false ⟨#[], #[.int .i64 0, .slice none 0 0, .int .i64 0], []⟩ 8 (by kernel_rfl) (by kernel_rfl) (by kernel_rfl) (by kernel_rfl)) ?_
  intro W base args ds gs before hval0 hW _ _
  have hval : ∀ (j : Nat) t v, Try.f10.params[j]? = some t → args[j]? = some v → Value.okWide Try.prog W .any base t v := hval0
  clear hval0
  obtain rfl : gs = [] := by obtain ⟨p, q, _, hV, _⟩ := hW; exact (trodVars_none hV).1
  have hW' := hW
  obtain ⟨p, q, hA0, hV, rfl, hfz, hnd⟩ := hW
  have hA : DataW.TrodAll enc Try.prog W 0 (fun _ => true) true Try.f10.params.toList args.toList ds p := hA0
  rw [Try.params10] at hA hval
  obtain ⟨v0, vs0, d0, ds0, p0, q0, hv0, hd0, hp0, h0, r0⟩ := trodAll_cons hA
  obtain ⟨v1, vs1, d1, ds1, p1, q1, hv1, hd1, hp1, h1, r1⟩ := trodAll_cons r0
  obtain ⟨v2, vs2, d2, ds2, p2, q2, hv2, hd2, hp2, h2, r2⟩ := trodAll_cons r1
  obtain ⟨hvn, hdn, hpn⟩ := trodAll_nil r2
  have ha : args = #[v0, v1, v2] := by cases args; simp_all
  have hdd : ds = [d0, d1, d2] := by simp_all
  rw [ha] at hval
  obtain ⟨a0, e0, -, -, w0⟩ := open_int Try.underlying3 (hval 0 3 v0 rfl rfl) h0
  obtain ⟨a1, k1⟩ := deps_of_trod Try.underlying22 Try.underlying24 ⟨rfl, rfl⟩ ⟨rfl, rfl⟩ Try.underlying3 Try.cells3 Try.cells24 (okWide_slice Try.underlying22 (hval 1 22 v1 rfl rfl)) h1
  obtain ⟨a2, e2, -, -, w2⟩ := open_int Try.underlying3 (hval 2 3 v2 rfl rfl) h2
  have hw : Calls Try.prog 10 args W (fun e W' => e = .returned (.bool true) ∧ Below W.heap.size W W') := by
    rw [ha, e0, e2]; exact decLaw_any a0 a2 a1 v1 W k1
  exact hw.mono fun e W' ⟨he, hb⟩ => ⟨_, he, law_post Try.laidOut hW' rfl rfl Try.underlying4 (by rw [hdd]; rfl)
    (by kernel_rfl) hb⟩

theorem holds : Rows.DependDecomposesSaid :=
  OpenClaim.holds_of_wide 10 Try.f10 rfl rfl rfl rfl rfl rfl rfl ⟨rfl, rfl, rfl, rfl, rfl⟩ rfl rfl rfl rfl rfl (by kernel_rfl) Try.func10 (by kernel_rfl)
    (of_decide_eq_true (by kernel_rfl)) (by unfold Func.isWrapper; first | (rw [if_pos (by decide +kernel)]; kernel_rfl) | (rw [if_neg (by decide +kernel)]; exact ⟨rfl, rfl⟩))
    (fun os started H enc _ => lifted os started H enc)
#print axioms holds
end dependDecomposes
end Go.Proofs.Ytnidalbfmicoiaa
