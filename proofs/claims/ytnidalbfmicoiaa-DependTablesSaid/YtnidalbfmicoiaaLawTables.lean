/- DependTables: for every input the law returns true. -/
import Derived.Test.YtnidalbfmicoiaaWalkL
import Derived.Test.YtnidalbfmicoiaaFrame
import Derived.Test.YtnidalbfmicoiaaFacts
import Derived.Test.YtnidalbfmicoiaaRows
namespace Go.Proofs.Ytnidalbfmicoiaa
open Go.RowKit

theorem fewR_tbl {n : Int} {R : List (List Int)} (h : TblP n (fewR R)) : TblP n R := by
  obtain ⟨h1, h60, h2⟩ := h
  have hl : R.length ≤ 60 := by simp [fewR] at h60; omega
  refine ⟨h1, hl, fun r hr => ?_⟩
  have := h2 (r.take 10) (by
    unfold fewR
    rw [List.take_of_length_le (by omega)]
    exact List.mem_map.2 ⟨r, hr, rfl⟩)
  simp at this
  omega
/-- what Holds and Mine answer -/
def TCase (n s t : Int) (R : List (List Int)) (b : Bool) (r2 r1 : Int) (P : World → Value → Prop) : Prop :=
  (¬ TblP n R ∧ b = false ∧ r2 = 2 ∧ r1 = 2 ∧ P = fun _ u => u = .slice none 0 0) ∨
  ∃ m : Nat, n = m ∧ TblP m R ∧ r1 = 0 ∧ (P = fun w u => Deps w u (castD (critTo (tcl R (2 ^ m)) (2 ^ m)))) ∧
    ((¬ (InSet m s ∧ InSet m t) ∧ b = false ∧ r2 = 2) ∨ ∃ s' t' : Nat, s = s' ∧ t = t' ∧ s' < 2 ^ m ∧ t' < 2 ^ m ∧ b = decide (HoldsR R s' t') ∧ r2 = 0)
set_option maxRecDepth 100000 in
theorem tables_gen (n s t : Int) (R : List (List Int)) (v : Value) (w : World) (hv : Rows w v R) (r1 r2 : Int) (b : Bool) (P : World → Value → Prop)
    (hM : ∀ v' w', Rows w' v' (fewR R) → Calls Try.prog 48 #[.int .i64 n, v'] w' fun e w'' => ∃ u, e = .returned (.tuple #[u, .int .i64 r1]) ∧ P w'' u ∧ Below w'.heap.size w' w'')
    (hH : ∀ v' w', Rows w' v' (fewR R) → Calls Try.prog 46 #[.int .i64 n, v', .agg #[.int .i64 s, .int .i64 t]] w' fun e w'' => e = .returned (.tuple #[.bool b, .int .i64 r2]) ∧ Below w'.heap.size w' w'')
    (hcase : TCase n s t R b r2 r1 P) :
    Calls Try.prog 7 #[.int .i64 n, v, .agg #[.int .i64 s, .int .i64 t]] w fun e w' => e = .returned (.bool true) ∧ Below w.heap.size w w' := by
  have Hv := Lib.hid hv
  have HM := Lib.hid hM
  have HH := Lib.hid hH
  have Hcase := Lib.hid hcase
  have hb0 := below_alloc w (.cells #[.int .i64 s, .int .i64 t] 24)
  have c0 := cell_new w #[.int .i64 s, .int .i64 t] 24 0
  have c1 := cell_new w #[.int .i64 s, .int .i64 t] 24 1
  have hz : (w.alloc (.cells #[.int .i64 s, .int .i64 t] 24)).heap.size = w.heap.size + 1 := by simp
  clear hv hM hH hcase
  go_enter Try.func7, Try.ntmps7
  go_wp2_with fail
  generalize w.alloc (.cells #[.int .i64 s, .int .i64 t] 24) = w0 at *
  have Hb0 := Lib.hid hb0
  have Hz := Lib.hid hz
  have C0 := Lib.hid c0
  have C1 := Lib.hid c1
  clear hb0 hz c0 c1
  go_region_held3 (fun w' => w'.cell? ⟨w.heap.size, 0, none⟩ = some (.int .i64 s) ∧ w'.cell? ⟨w.heap.size, 1, none⟩ = some (.int .i64 t) ∧ Below w0.heap.size w0 w')
    ((refine hold2 C0.out C1.out ?_; repeat (first | exact Below.refl _ _ | refine Below.drew ?_ | refine Below.tr ?_ (below_alloc _ _) | refine Below.tr ?_ (by assumption))))
    (first | (go_at_call 47; refine (few_any R _ _ (by exact Rows.keep Hv.out Hb0.out.drew)).mono ?_; rintro e w4 ⟨v4, rfl, hd4, hb4⟩) | (go_at_call 24; refine (dep_any _ _ _).mono ?_; rintro e w5 ⟨rfl, hb5⟩) | (go_at_call 46; refine (HH.out _ _ (by exact Rows.keep hd4 hb5)).mono ?_; rintro e w6 ⟨rfl, hb6⟩))
  have Hb6 := Lib.hid (show Below w0.heap.size w0 w6 from Below.tr (Below.tr (Below.tr (Below.refl _ _).drew hb4) hb5) hb6)
  clear hd4 hb4 hb5 hb6
  go_wp2_with fail
  refine (few_any R _ _ (Rows.keep Hv.out (Below.tr Hb0.out Hb6.out))).mono ?_
  rintro e w1 ⟨v1, rfl, hd1, hb1⟩
  have Hb1 := Lib.hid (Below.tr Hb6.out hb1)
  have Hd1 := Lib.hid hd1
  clear hb1 hd1
  go_wp2_with fail
  refine (HM.out _ _ Hd1.out).mono ?_
  rintro e w3 ⟨u, rfl, hP, hb3⟩
  have Hb3 := Lib.hid (Below.tr Hb1.out hb3)
  have HP := Lib.hid hP
  clear hb3 hP Hd1 Hb1
  go_wp2_with fail
  refine (table_any n R v _ (Rows.keep Hv.out (Below.tr Hb0.out Hb3.out))).mono ?_
  rintro e w2 ⟨rfl, rfl⟩
  rcases Hcase.out with ⟨hbad, rfl, rfl, rfl, rfl⟩ | ⟨m, rfl, hT, rfl, rfl, hcase⟩
  · have hu : u = .slice none 0 0 := HP.out
    subst hu
    rw [decide_eq_false hbad]
    clear HM HH Hcase HP hbad
    go_wp2_with fail
    refine (awake_any _).mono ?_
    rintro e w7 ⟨rfl, hb7⟩
    have Hb7 := Lib.hid (Below.tr Hb3.out hb7)
    clear hb7
    go_wp2_with fail
    go_ret
    exact ⟨rfl, Below.tr Hb0.out Hb7.out⟩
  · have hu : Deps w3 u _ := HP.out
    rw [decide_eq_true hT]
    obtain ⟨⟨h1, h8⟩, hR⟩ := hT
    obtain ⟨h60, hlen⟩ := hR.nat
    have h256 := pow_small m (by omega)
    have hcl : (castD (critTo (tcl R (2 ^ m)) (2 ^ m))).length ≤ 1000 := by
      have := critTo_length (tcl R (2 ^ m)) (2 ^ m)
      simp only [castD, List.length_map]
      omega
    have hm8 : m ≤ 8 := by omega
    have hm1 : 1 ≤ m := by omega
    have Hcl := Lib.hid hcl
    have Hu := Lib.hid hu
    have Hlen := Lib.hid hlen
    clear HM HH Hcase HP hu h256 hcl hlen hR h1 h8
    go_wp2_with fail
    refine (own_any _ Hcl.out _ _ Hu.out).mono ?_
    rintro e w7 ⟨z, rfl, hz, hb7⟩
    have Hb7 := Lib.hid (Below.tr Hb3.out hb7)
    have Hz' := Lib.hid hz
    clear hb7 hz
    go_wp2_with fail
    refine (mineR_F hm1 hm8 rfl R Hlen.out _ _ (Rows.keep Hv.out (Below.tr Hb0.out Hb7.out))).mono ?_
    rintro e w8 ⟨x, rfl, hx, hb8⟩
    have Hb8 := Lib.hid (Below.tr Hb7.out hb8)
    have Hz8 := Lib.hid (Deps.keep Hz'.out hb8)
    have Hx := Lib.hid hx
    clear hb8 hx
    go_wp2_with fail
    refine (equalDep_any _ _ _ _ _ Hz8.out Hx.out).mono ?_
    rintro e w9 ⟨rfl, hb9⟩
    have Hb9 := Lib.hid (Below.tr Hb8.out hb9)
    clear hb9
    rw [decide_eq_true rfl]
    have c0 := Below.keep Hb9.out C0.out
    have c1 := Below.keep Hb9.out C1.out
    go_wp2_with fail
    refine (pairR_any m _ _ hm8 _).mono ?_
    rintro e wa ⟨rfl, hba⟩
    have Hba := Lib.hid (Below.tr Hb9.out hba)
    clear hba
    replace c0 := Below.keep Hba.out C0.out
    replace c1 := Below.keep Hba.out C1.out
    rcases hcase with ⟨hS, rfl, rfl⟩ | ⟨s', t', rfl, rfl, hs, ht, rfl, rfl⟩
    · rw [decide_eq_false hS]
      clear hS c0 c1
      go_wp2_with fail
      refine (awake_any _).mono ?_
      rintro e wb ⟨rfl, hbb⟩
      have Hbb := Lib.hid (Below.tr Hba.out hbb)
      clear hbb
      go_wp2_with fail
      go_ret
      exact ⟨rfl, Below.tr Hb0.out Hbb.out⟩
    · have hi : InSet (m : Int) (s' : Int) ∧ InSet (m : Int) (t' : Int) := ⟨(inSet_nat m s').2 ⟨by omega, by omega⟩, (inSet_nat m t').2 ⟨by omega, by omega⟩⟩
      rw [decide_eq_true hi]
      have Hs := Lib.hid hs
      have Ht := Lib.hid ht
      clear hi hs ht
      go_wp2_with fail
      refine (holdsRef_any hm8 Hs.out Ht.out R Hlen.out _ _ (Rows.keep Hv.out (Below.tr Hb0.out Hba.out))).mono ?_
      rintro e wb ⟨rfl, hbb⟩
      have Hbb := Lib.hid (Below.tr Hba.out hbb)
      clear hbb c0 c1
      generalize decide (HoldsR R s' t') = q
      go_wp2_with fail
      refine (awake_any _).mono ?_
      rintro e wc ⟨rfl, hbc⟩
      have Hbc := Lib.hid (Below.tr Hbb.out hbc)
      clear hbc
      go_wp2_with fail
      go_ret
      exact ⟨rfl, Below.tr Hb0.out Hbc.out⟩

theorem tables_any (n s t : Int) (R : List (List Int)) (v : Value) (w : World) (hv : Rows w v R) :
    Calls Try.prog 7 #[.int .i64 n, v, .agg #[.int .i64 s, .int .i64 t]] w fun e w' => e = .returned (.bool true) ∧ Below w.heap.size w w' := by
  by_cases hT : TblP n R
  · have hfew := fewR_table hT
    have hT' := hT
    obtain ⟨⟨h1, h8⟩, hR⟩ := hT
    obtain ⟨m, rfl⟩ := Int.eq_ofNat_of_zero_le (show 0 ≤ n by omega)
    by_cases hS : InSet m s ∧ InSet m t
    · obtain ⟨s', rfl, hs⟩ := hS.1.nat
      obtain ⟨t', rfl, ht⟩ := hS.2.nat
      refine tables_gen _ _ _ R v w hv 0 0 (decide (HoldsR R s' t')) (fun w u => Deps w u (castD (critTo (tcl R (2 ^ m)) (2 ^ m)))) ?_ ?_ (.inr ⟨m, rfl, hT', rfl, rfl, .inr ⟨s', t', rfl, rfl, hs, ht, rfl, rfl⟩⟩)
      · intro v' w' hv'; rw [hfew] at hv'; exact mine_F (by omega) (by omega) rfl _ hR _ _ hv'
      · intro v' w' hv'; rw [hfew] at hv'; exact holds_ok (by omega) (by omega) hs ht _ hR _ _ hv'
    · refine tables_gen _ _ _ R v w hv 0 2 false (fun w u => Deps w u (castD (critTo (tcl R (2 ^ m)) (2 ^ m)))) ?_ ?_ (.inr ⟨m, rfl, hT', rfl, rfl, .inl ⟨hS, rfl, rfl⟩⟩)
      · intro v' w' hv'; rw [hfew] at hv'; exact mine_F (by omega) (by omega) rfl _ hR _ _ hv'
      · intro v' w' hv'; exact holds_bad _ _ _ _ _ _ hv' (fun h => hS ⟨h.1.2.2 s (by simp), h.1.2.2 t (by simp)⟩)
  · refine tables_gen _ _ _ R v w hv 2 2 false (fun _ u => u = .slice none 0 0) ?_ ?_ (.inl ⟨hT, rfl, rfl, rfl, rfl⟩)
    · intro v' w' hv'; exact (mine_bad _ _ _ _ hv' (fun h => hT (fewR_tbl h))).mono fun e w'' ⟨he, hb⟩ => ⟨_, he, rfl, hb⟩
    · intro v' w' hv'; exact holds_bad _ _ _ _ _ _ hv' (fun h => hT (fewR_tbl ⟨⟨h.1.1.1, h.1.1.2.1⟩, h.2⟩))

namespace dependTables
open Go.ChangeShapes Go.WideShapes Go.ChangeAt
set_option maxRecDepth 100000 in
theorem lifted (os : Os) (started : os.Started) (H : Type) (enc : TypeId × Value → H) :
    ReturnsInHanded {} Try.checked os 7 .any (Rows.dependTablesSpec.pre6 enc Try.prog Try.f7 Rows.dependTablesRow.domain false) (Rows.dependTablesSpec.post enc Try.prog Try.f7 false true false false) := by
  refine returnsInHanded_of_change (C := Try.checked) Try.own started (by kernel_rfl) Try.func7
    (ChangeSpec.witness6 (enc := enc) (C := Try.checked) false ⟨#[], #[.int .i64 0, .slice none 0 0, .agg #[.int .i64 0, .int .i64 0]], []⟩ 8 (by kernel_rfl) (by kernel_rfl) (by kernel_rfl) (by kernel_rfl)) ?_
  intro W base args ds gs before hval0 hW _ _
  have hval : ∀ (j : Nat) t v, Try.f7.params[j]? = some t → args[j]? = some v → Value.okWide Try.prog W .any base t v := hval0
  clear hval0
  obtain rfl : gs = [] := by obtain ⟨p, q, _, hV, _⟩ := hW; exact (trodVars_none hV).1
  have hW' := hW
  obtain ⟨p, q, hA0, hV, rfl, hfz, hnd⟩ := hW
  have hA : DataW.TrodAll enc Try.prog W 0 (fun _ => true) true Try.f7.params.toList args.toList ds p := hA0
  rw [Try.params7] at hA hval
  obtain ⟨v0, vs0, d0, ds0, p0, q0, hv0, hd0, hp0, h0, r0⟩ := trodAll_cons hA
  obtain ⟨v1, vs1, d1, ds1, p1, q1, hv1, hd1, hp1, h1, r1⟩ := trodAll_cons r0
  obtain ⟨v2, vs2, d2, ds2, p2, q2, hv2, hd2, hp2, h2, r2⟩ := trodAll_cons r1
  obtain ⟨hvn, hdn, hpn⟩ := trodAll_nil r2
  have ha : args = #[v0, v1, v2] := by cases args; simp_all
  have hdd : ds = [d0, d1, d2] := by simp_all
  rw [ha] at hval
  obtain ⟨a0, e0, -, -, w0⟩ := open_int Try.underlying3 (hval 0 3 v0 rfl rfl) h0
  obtain ⟨a1, k1⟩ := rows_of_trod Try.underlying34 Try.underlying56 Try.underlying3 Try.cells3 Try.cells56 (okWide_slice Try.underlying34 (hval 1 34 v1 rfl rfl)) h1
  obtain ⟨a2, e2⟩ := pair_arg Try.underlying24 ⟨rfl, rfl⟩ ⟨rfl, rfl⟩ Try.underlying3 Try.cells3 Try.cells24 (hval 2 24 v2 rfl rfl) h2
  have hw : Calls Try.prog 7 args W (fun e W' => e = .returned (.bool true) ∧ Below W.heap.size W W') := by
    rw [ha, e0, e2]; exact tables_any a0 a2.1 a2.2 a1 v1 W k1
  exact hw.mono fun e W' ⟨he, hb⟩ => ⟨_, he, law_post Try.laidOut hW' rfl rfl Try.underlying4 (by rw [hdd]; rfl)
    (by kernel_rfl) hb⟩

theorem holds : Rows.DependTablesSaid :=
  OpenClaim.holds_of_wide 7 Try.f7 rfl rfl rfl rfl rfl rfl rfl ⟨rfl, rfl, rfl, rfl, rfl⟩ rfl rfl rfl rfl rfl (by kernel_rfl) Try.func7 (by kernel_rfl)
    (of_decide_eq_true (by kernel_rfl)) (by unfold Func.isWrapper; first | (rw [if_pos (by decide +kernel)]; kernel_rfl) | (rw [if_neg (by decide +kernel)]; exact ⟨rfl, rfl⟩))
    (fun os started H enc _ => lifted os started H enc)
#print axioms holds
end dependTables
end Go.Proofs.Ytnidalbfmicoiaa
