/- HistorySafe: for every input the law returns true. -/
import Derived.Test.YtpehbffkplmfjaaSaf
import Derived.Test.YtpehbffkplmfjaaSny
import Derived.Test.YtpehbffkplmfjaaSni
import Derived.Test.YtpehbffkplmfjaaAw
import Derived.Test.YtpehbffkplmfjaaFrame
import Derived.Test.YtpehbffkplmfjaaRows
namespace Go.Proofs.Ytpehbffkplmfjaa
open Go.RowKit

theorem valid_take (l : List HOp) : ValidH (l.take 43) ↔ ValidH l := by
  by_cases h : l.length ≤ 43
  · rw [List.take_of_length_le h]
  · constructor
    · intro hv; have := hv.1; rw [List.length_take] at this; omega
    · intro hv; have := hv.1; omega
theorem snap_yes {h : List NOp} (hh : VH h) (hP : AllP h) (v : Value) (w : World) (hv : Ops w v (castO h)) :
    Calls Try.prog 32 #[v] w fun e w' => e = .returned (.tuple #[.bool true, .int .i64 0]) ∧ Below w.heap.size w w' :=
  (snap_any hh v w hv).mono (by rintro e w' ⟨B, rfl, hB, hb⟩; rw [hB.2 hP]; exact ⟨rfl, hb⟩)
theorem snap_no {h : List NOp} (hh : VH h) (hP : ¬ AllP h) (v : Value) (w : World) (hv : Ops w v (castO h)) :
    Calls Try.prog 32 #[v] w fun e w' => e = .returned (.tuple #[.bool false, .int .i64 0]) ∧ Below w.heap.size w w' :=
  (snap_any hh v w hv).mono (by
    rintro e w' ⟨B, rfl, hB, hb⟩
    cases B with
    | true => exact absurd (hB.1 rfl) hP
    | false => exact ⟨rfl, hb⟩)
set_option maxRecDepth 100000 in
set_option maxHeartbeats 8000000 in
theorem safe_bad {l : List HOp} (hn : ¬ ValidH l) (v : Value) (w : World) (hv : Ops w v l) :
    Calls Try.prog 11 #[v] w fun e w' => e = .returned (.bool true) ∧ Below w.heap.size w w' := by
  have HO := Lib.hid (fun w' (hb : Below w.heap.size w w') => of_any l v w' (Ops.keep hv hb))
  have hn2 : ¬ ValidH (l.take 43) := fun h => hn ((valid_take l).1 h)
  generalize l.take 43 = m at *
  have H1 := Lib.hid (fun v' w' (hv' : Ops w' v' m) => snap_bad hn2 v' w' hv')
  have H2 := Lib.hid (fun v' w' (hv' : Ops w' v' m) => snOrder_bad hn2 v' w' hv')
  have H3 := Lib.hid (fun v' w' (hv' : Ops w' v' m) => danger_bad hn2 v' w' hv')
  obtain ⟨a, c, rfl⟩ := ops_slice hv
  clear hv hn hn2
  go_enter Try.func11, Try.ntmps11
  go_wp2_with fail
  refine (HO.out _ (Below.refl _ _)).mono ?_
  rintro e w1 ⟨v1, rfl, ho1, hb1⟩
  obtain ⟨a1, c1, rfl⟩ := own_slice ho1
  have Hb1 := Lib.hid (hb1)
  have o1_1 := Lib.hid (ho1.ops)
  clear hb1
  clear ho1
  go_wp2_with fail
  refine (H1.out _ _ o1_1.out).mono ?_
  rintro e w2 ⟨rfl, hb2⟩
  have Hb2 := Lib.hid (Below.tr Hb1.out hb2)
  clear hb2
  go_wp2_with fail
  refine (HO.out _ Hb2.out).mono ?_
  rintro e w3 ⟨v3, rfl, ho3, hb3⟩
  obtain ⟨a3, c3, rfl⟩ := own_slice ho3
  have Hb3 := Lib.hid (Below.tr Hb2.out hb3)
  have o3_3 := Lib.hid (ho3.ops)
  clear hb3
  clear ho3
  go_wp2_with fail
  refine (H2.out _ _ o3_3.out).mono ?_
  rintro e w4 ⟨rfl, hb4⟩
  have Hb4 := Lib.hid (Below.tr Hb3.out hb4)
  clear hb4
  go_wp2_with fail
  refine (HO.out _ Hb4.out).mono ?_
  rintro e w5 ⟨v5, rfl, ho5, hb5⟩
  obtain ⟨a5, c5, rfl⟩ := own_slice ho5
  have Hb5 := Lib.hid (Below.tr Hb4.out hb5)
  have o5_5 := Lib.hid (ho5.ops)
  clear hb5
  clear ho5
  go_wp2_with fail
  refine (H3.out _ _ o5_5.out).mono ?_
  rintro e w6 ⟨rfl, hb6⟩
  have Hb6 := Lib.hid (Below.tr Hb5.out hb6)
  clear hb6
  go_wp2_with fail
  refine (awake_any _).mono ?_
  rintro e w7 ⟨rfl, hb7⟩
  have Hb7 := Lib.hid (Below.tr Hb6.out hb7)
  clear hb7
  go_wp2_with fail
  go_ret
  exact ⟨rfl, Hb7.out⟩
set_option maxRecDepth 100000 in
set_option maxHeartbeats 8000000 in
theorem safe_all {h : List NOp} (hh : VH h) (hP : AllP h) (v : Value) (w : World) (hv : Ops w v (castO h)) :
    Calls Try.prog 11 #[v] w fun e w' => e = .returned (.bool true) ∧ Below w.heap.size w w' := by
  have htk : (castO h).take 43 = castO h := List.take_of_length_le (by rw [castO_length]; have := hh.le; omega)
  have HO := Lib.hid (fun w' (hb : Below w.heap.size w w') => of_any (castO h) v w' (Ops.keep hv hb))
  rw [htk] at HO
  have H1 := Lib.hid (fun v' w' (hv' : Ops w' v' (castO h)) => snap_yes hh hP v' w' hv')
  have H2 := Lib.hid (fun v' w' (hv' : Ops w' v' (castO h)) => snOrder_all hh hP v' w' hv')
  have H3 := Lib.hid (fun v' w' (hv' : Ops w' v' (castO h)) => danger_all hh hP v' w' hv')
  have hS := safe hh hP
  obtain ⟨O, hO⟩ : ∃ O, O = snOrd h := ⟨_, rfl⟩
  obtain ⟨x2, ht⟩ : ∃ x2, x2 = castO (dgN h) := ⟨_, rfl⟩
  rw [← castO_length, ← ht] at hS
  rw [← hO] at hS H2
  rw [← ht] at H3
  clear hO
  obtain ⟨E1, hE⟩ : ∃ E1 : Int, E1 = if O.isSome then (0 : Int) else 5 := ⟨_, rfl⟩
  obtain ⟨x1, hx⟩ : ∃ x1, x1 = castN (O.getD []) := ⟨_, rfl⟩
  rw [← hE, ← hx] at H2
  obtain ⟨a, c, rfl⟩ := ops_slice hv
  clear hv hh hP htk hx ht
  cases O with
  | some p =>
    have E0 := Lib.hid (hE.trans (if_pos rfl))
    have HSs := Lib.hid hS
    obtain rfl := E0.out
    clear hE E0 hS HSs
    go_enter Try.func11, Try.ntmps11
    go_wp2_with fail
    refine (HO.out _ (Below.refl _ _)).mono ?_
    rintro e w1 ⟨v1, rfl, ho1, hb1⟩
    obtain ⟨a1, c1, rfl⟩ := own_slice ho1
    have Hb1 := Lib.hid (hb1)
    have o1_1 := Lib.hid (ho1.ops)
    clear hb1
    clear ho1
    go_wp2_with fail
    refine (H1.out _ _ o1_1.out).mono ?_
    rintro e w2 ⟨rfl, hb2⟩
    have Hb2 := Lib.hid (Below.tr Hb1.out hb2)
    clear hb2
    go_wp2_with fail
    refine (HO.out _ Hb2.out).mono ?_
    rintro e w3 ⟨v3, rfl, ho3, hb3⟩
    obtain ⟨a3, c3, rfl⟩ := own_slice ho3
    have Hb3 := Lib.hid (Below.tr Hb2.out hb3)
    have o3_3 := Lib.hid (ho3.ops)
    clear hb3
    clear ho3
    go_wp2_with fail
    refine (H2.out _ _ o3_3.out).mono ?_
    rintro e w4 ⟨v4, rfl, hi4, hb4⟩
    obtain ⟨a4, c4, rfl⟩ := ints_slice hi4
    have Hb4 := Lib.hid (Below.tr Hb3.out hb4)
    have i4_4 := Lib.hid (hi4)
    clear hb4
    clear hi4
    go_wp2_with fail
    refine (HO.out _ Hb4.out).mono ?_
    rintro e w5 ⟨v5, rfl, ho5, hb5⟩
    obtain ⟨a5, c5, rfl⟩ := own_slice ho5
    have Hb5 := Lib.hid (Below.tr Hb4.out hb5)
    have i4_5 := Lib.hid (Ints.keep i4_4.out hb5)
    have o5_5 := Lib.hid (ho5.ops)
    clear hb5 i4_4
    clear ho5
    go_wp2_with fail
    refine (H3.out _ _ o5_5.out).mono ?_
    rintro e w6 ⟨v6, rfl, hi6, hb6⟩
    obtain ⟨a6, c6, rfl⟩ := ops_slice hi6
    have Hb6 := Lib.hid (Below.tr Hb5.out hb6)
    have i4_6 := Lib.hid (Ints.keep i4_5.out hb6)
    clear hb6 i4_5
    clear hi6
    go_wp2_with fail
    refine (awake_any _).mono ?_
    rintro e w7 ⟨rfl, hb7⟩
    have Hb7 := Lib.hid (Below.tr Hb6.out hb7)
    have i4_7 := Lib.hid (Ints.keep i4_6.out hb7)
    clear hb7 i4_6
    go_wp2_with fail
    go_ret
    exact ⟨rfl, Hb7.out⟩
  | none =>
    have hS0 := hS rfl
    have q0 : (x2.length : Int) > 0 := by omega
    obtain rfl : E1 = 5 := hE.trans (if_neg (by decide))
    clear hE hS hS0
    go_enter Try.func11, Try.ntmps11
    go_wp2_with fail
    refine (HO.out _ (Below.refl _ _)).mono ?_
    rintro e w1 ⟨v1, rfl, ho1, hb1⟩
    obtain ⟨a1, c1, rfl⟩ := own_slice ho1
    have Hb1 := Lib.hid (hb1)
    have o1_1 := Lib.hid (ho1.ops)
    clear hb1
    clear ho1
    go_wp2_with fail
    refine (H1.out _ _ o1_1.out).mono ?_
    rintro e w2 ⟨rfl, hb2⟩
    have Hb2 := Lib.hid (Below.tr Hb1.out hb2)
    clear hb2
    go_wp2_with fail
    refine (HO.out _ Hb2.out).mono ?_
    rintro e w3 ⟨v3, rfl, ho3, hb3⟩
    obtain ⟨a3, c3, rfl⟩ := own_slice ho3
    have Hb3 := Lib.hid (Below.tr Hb2.out hb3)
    have o3_3 := Lib.hid (ho3.ops)
    clear hb3
    clear ho3
    go_wp2_with fail
    refine (H2.out _ _ o3_3.out).mono ?_
    rintro e w4 ⟨v4, rfl, hi4, hb4⟩
    obtain ⟨a4, c4, rfl⟩ := ints_slice hi4
    have Hb4 := Lib.hid (Below.tr Hb3.out hb4)
    have i4_4 := Lib.hid (hi4)
    clear hb4
    clear hi4
    go_wp2_with fail
    refine (HO.out _ Hb4.out).mono ?_
    rintro e w5 ⟨v5, rfl, ho5, hb5⟩
    obtain ⟨a5, c5, rfl⟩ := own_slice ho5
    have Hb5 := Lib.hid (Below.tr Hb4.out hb5)
    have i4_5 := Lib.hid (Ints.keep i4_4.out hb5)
    have o5_5 := Lib.hid (ho5.ops)
    clear hb5 i4_4
    clear ho5
    go_wp2_with fail
    refine (H3.out _ _ o5_5.out).mono ?_
    rintro e w6 ⟨v6, rfl, hi6, hb6⟩
    obtain ⟨a6, c6, rfl⟩ := ops_slice hi6
    have Hb6 := Lib.hid (Below.tr Hb5.out hb6)
    have i4_6 := Lib.hid (Ints.keep i4_5.out hb6)
    clear hb6 i4_5
    clear hi6
    go_wp2_with fail
    refine (awake_any _).mono ?_
    rintro e w7 ⟨rfl, hb7⟩
    have Hb7 := Lib.hid (Below.tr Hb6.out hb7)
    have i4_7 := Lib.hid (Ints.keep i4_6.out hb7)
    clear hb7 i4_6
    go_wp2_with fail
    go_ret
    exact ⟨rfl, Hb7.out⟩
set_option maxRecDepth 100000 in
set_option maxHeartbeats 8000000 in
theorem safe_not {h : List NOp} (hh : VH h) (hP : ¬ AllP h) (v : Value) (w : World) (hv : Ops w v (castO h)) :
    Calls Try.prog 11 #[v] w fun e w' => e = .returned (.bool true) ∧ Below w.heap.size w w' := by
  have htk : (castO h).take 43 = castO h := List.take_of_length_le (by rw [castO_length]; have := hh.le; omega)
  have HO := Lib.hid (fun w' (hb : Below w.heap.size w w') => of_any (castO h) v w' (Ops.keep hv hb))
  rw [htk] at HO
  have H1 := Lib.hid (fun v' w' (hv' : Ops w' v' (castO h)) => snap_no hh hP v' w' hv')
  have H2 := Lib.hid (fun v' w' (hv' : Ops w' v' (castO h)) => snOrder_not hh hP v' w' hv')
  have H3 := Lib.hid (fun v' w' (hv' : Ops w' v' (castO h)) => danger_not hh hP v' w' hv')
  obtain ⟨a, c, rfl⟩ := ops_slice hv
  clear hv hh hP htk 
  go_enter Try.func11, Try.ntmps11
  go_wp2_with fail
  refine (HO.out _ (Below.refl _ _)).mono ?_
  rintro e w1 ⟨v1, rfl, ho1, hb1⟩
  obtain ⟨a1, c1, rfl⟩ := own_slice ho1
  have Hb1 := Lib.hid (hb1)
  have o1_1 := Lib.hid (ho1.ops)
  clear hb1
  clear ho1
  go_wp2_with fail
  refine (H1.out _ _ o1_1.out).mono ?_
  rintro e w2 ⟨rfl, hb2⟩
  have Hb2 := Lib.hid (Below.tr Hb1.out hb2)
  clear hb2
  go_wp2_with fail
  refine (HO.out _ Hb2.out).mono ?_
  rintro e w3 ⟨v3, rfl, ho3, hb3⟩
  obtain ⟨a3, c3, rfl⟩ := own_slice ho3
  have Hb3 := Lib.hid (Below.tr Hb2.out hb3)
  have o3_3 := Lib.hid (ho3.ops)
  clear hb3
  clear ho3
  go_wp2_with fail
  refine (H2.out _ _ o3_3.out).mono ?_
  rintro e w4 ⟨rfl, hb4⟩
  have Hb4 := Lib.hid (Below.tr Hb3.out hb4)
  clear hb4
  go_wp2_with fail
  refine (HO.out _ Hb4.out).mono ?_
  rintro e w5 ⟨v5, rfl, ho5, hb5⟩
  obtain ⟨a5, c5, rfl⟩ := own_slice ho5
  have Hb5 := Lib.hid (Below.tr Hb4.out hb5)
  have o5_5 := Lib.hid (ho5.ops)
  clear hb5
  clear ho5
  go_wp2_with fail
  refine (H3.out _ _ o5_5.out).mono ?_
  rintro e w6 ⟨rfl, hb6⟩
  have Hb6 := Lib.hid (Below.tr Hb5.out hb6)
  clear hb6
  go_wp2_with fail
  refine (awake_any _).mono ?_
  rintro e w7 ⟨rfl, hb7⟩
  have Hb7 := Lib.hid (Below.tr Hb6.out hb7)
  clear hb7
  go_wp2_with fail
  go_ret
  exact ⟨rfl, Hb7.out⟩
theorem safe_any (l : List HOp) (v : Value) (w : World) (hv : Ops w v l) :
    Calls Try.prog 11 #[v] w fun e w' => e = .returned (.bool true) ∧ Below w.heap.size w w' := by
  by_cases h : ValidH l
  · obtain ⟨g, hg, rfl⟩ := validH_nat h
    by_cases hP : AllP g
    · exact safe_all hg hP v w hv
    · exact safe_not hg hP v w hv
  · exact safe_bad h v w hv

namespace historySafe
open Go.ChangeShapes Go.WideShapes Go.ChangeAt
set_option maxRecDepth 100000 in
theorem lifted (os : Os) (started : os.Started) (H : Type) (enc : TypeId × Value → H) :
    ReturnsInHanded {} Try.checked os 11 .any (Rows.historySafeSpec.pre6 enc Try.prog Try.f11 Rows.historySafeRow.domain false) (Rows.historySafeSpec.post enc Try.prog Try.f11 false true false false) := by
  refine returnsInHanded_of_change (C := Try.checked) Try.own started (by kernel_rfl) Try.func11
    (ChangeSpec.witness6 (enc := enc) (C := Try.checked) false ⟨#[], #[.slice none 0 0], []⟩ 8 (by kernel_rfl) (by kernel_rfl) (by kernel_rfl) (by kernel_rfl)) ?_
  intro W base args ds gs before hval0 hW _ _
  have hval : ∀ (j : Nat) t v, Try.f11.params[j]? = some t → args[j]? = some v → Value.okWide Try.prog W .any base t v := hval0
  clear hval0
  obtain rfl : gs = [] := by obtain ⟨p, q, _, hV, _⟩ := hW; exact (trodVars_none hV).1
  have hW' := hW
  obtain ⟨p, q, hA0, hV, rfl, hfz, hnd⟩ := hW
  have hA : DataW.TrodAll enc Try.prog W 0 (fun _ => true) true Try.f11.params.toList args.toList ds p := hA0
  rw [Try.params11] at hA hval
  obtain ⟨v0, vs0, d0, ds0, p0, q0, hv0, hd0, hp0, h0, r0⟩ := trodAll_cons hA
  obtain ⟨hvn, hdn, hpn⟩ := trodAll_nil r0
  have ha : args = #[v0] := by cases args; simp_all
  have hdd : ds = [d0] := by simp_all
  rw [ha] at hval
  obtain ⟨a0, k0⟩ := ops_of_trod Try.underlying23 Try.underlying55 ⟨rfl, rfl⟩ ⟨rfl, rfl⟩ ⟨rfl, rfl⟩ Try.underlying3 cellsInt cellsOpR (okWide_slice Try.underlying23 (hval 0 23 v0 rfl rfl)) h0
  have hw : Calls Try.prog 11 args W (fun e W' => e = .returned (.bool true) ∧ Below W.heap.size W W') := by
    rw [ha]; exact safe_any a0 v0 W k0
  exact hw.mono fun e W' ⟨he, hb⟩ => ⟨_, he, law_post Try.laidOut hW' rfl rfl Try.underlying4 (by rw [hdd]; rfl)
    (by kernel_rfl) hb⟩

theorem holds : Rows.HistorySafeSaid :=
  OpenClaim.holds_of_wide 11 Try.f11 rfl rfl rfl rfl rfl rfl rfl ⟨rfl, rfl, rfl, rfl, rfl⟩ rfl rfl rfl rfl rfl (by kernel_rfl) Try.func11 (by kernel_rfl)
    (of_decide_eq_true (by kernel_rfl)) (by unfold Func.isWrapper; first | (rw [if_pos (by decide +kernel)]; kernel_rfl) | (rw [if_neg (by decide +kernel)]; exact ⟨rfl, rfl⟩))
    (fun os started H enc _ => lifted os started H enc)
#print axioms holds
end historySafe
end Go.Proofs.Ytpehbffkplmfjaa
