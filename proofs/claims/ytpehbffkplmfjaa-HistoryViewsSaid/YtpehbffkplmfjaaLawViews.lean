/- HistoryViews: for every input the law returns true. -/
import Derived.Test.YtpehbffkplmfjaaVmt
import Derived.Test.YtpehbffkplmfjaaAw
import Derived.Test.YtpehbffkplmfjaaEq
import Derived.Test.YtpehbffkplmfjaaFrame
import Derived.Test.YtpehbffkplmfjaaRows
namespace Go.Proofs.Ytpehbffkplmfjaa
open Go.RowKit

theorem valid_take (l : List HOp) : ValidH (l.take 43) ↔ ValidH l := by
  by_cases h : l.length ≤ 43
  · rw [List.take_of_length_le h]
  · constructor
    · intro hv; have := hv.1; rw [List.length_take] at this; omega
    · intro hv; have := hv.1; omega
set_option maxRecDepth 100000 in
set_option maxHeartbeats 8000000 in
theorem views_bad {l : List HOp} (hn : ¬ ValidH l) (v : Value) (w : World) (hv : Ops w v l) :
    Calls Try.prog 5 #[v] w fun e w' => e = .returned (.bool true) ∧ Below w.heap.size w w' := by
  have HO := Lib.hid (fun w' (hb : Below w.heap.size w w') => of_any l v w' (Ops.keep hv hb))
  have HR := Lib.hid (fun w' (hb : Below w.heap.size w w') => validR_any l v w' (Ops.keep hv hb))
  rw [decide_eq_false hn] at HR
  have hn2 : ¬ ValidH (l.take 43) := fun h => hn ((valid_take l).1 h)
  generalize l.take 43 = m at *
  have HD := Lib.hid (fun v' w' (hv' : Ops w' v' m) => view_bad hn2 v' w' hv')
  obtain ⟨a, c, rfl⟩ := ops_slice hv
  clear hv hn hn2
  go_enter Try.func5, Try.ntmps5
  go_wp2_with fail
  refine (HO.out _ (Below.refl _ _)).mono ?_
  rintro e w1 ⟨v1, rfl, ho1, hb1⟩
  obtain ⟨a1, c1, rfl⟩ := own_slice ho1
  have Hb1 := Lib.hid (hb1)
  have o1_1 := Lib.hid (ho1.ops)
  clear hb1
  clear ho1
  go_wp2_with fail
  refine (HD.out _ _ o1_1.out).mono ?_
  rintro e w2 ⟨rfl, hb2⟩
  have Hb2 := Lib.hid (Below.tr Hb1.out hb2)
  clear hb2
  go_wp2_with fail
  refine (HR.out _ Hb2.out).mono ?_
  rintro e w3 ⟨rfl, hb3⟩
  have Hb3 := Lib.hid (Below.tr Hb2.out hb3)
  clear hb3
  go_wp2_with fail
  refine (awake_any _).mono ?_
  rintro e w4 ⟨rfl, hb4⟩
  have Hb4 := Lib.hid (Below.tr Hb3.out hb4)
  clear hb4
  go_wp2_with fail
  go_ret
  exact ⟨rfl, Hb4.out⟩
set_option maxRecDepth 100000 in
set_option maxHeartbeats 8000000 in
theorem views_good {h : List NOp} (hh : VH h) (v : Value) (w : World) (hv : Ops w v (castO h)) :
    Calls Try.prog 5 #[v] w fun e w' => e = .returned (.bool true) ∧ Below w.heap.size w w' := by
  have htk : (castO h).take 43 = castO h := List.take_of_length_le (by rw [castO_length]; have := hh.le; omega)
  have HO := Lib.hid (fun w' (hb : Below w.heap.size w w') => of_any (castO h) v w' (Ops.keep hv hb))
  rw [htk] at HO
  have HR := Lib.hid (fun w' (hb : Below w.heap.size w w') => validR_any (castO h) v w' (Ops.keep hv hb))
  rw [decide_eq_true (valid_of hh)] at HR
  have HD := Lib.hid (fun v' w' (hv' : Ops w' v' (castO h)) => view_any hh v' w' hv')
  have HDR := Lib.hid (fun w' (hb : Below w.heap.size w w') => viewRef_any hh v w' (Ops.keep hv hb))
  obtain ⟨E1, hE1⟩ : ∃ E1 : Int, E1 = if (vwN h).isSome then (0 : Int) else 5 := ⟨_, rfl⟩
  obtain ⟨x1, hx1⟩ : ∃ x1, x1 = castN ((vwN h).getD []) := ⟨_, rfl⟩
  rw [← hE1, ← hx1] at HD HDR
  obtain ⟨a, c, rfl⟩ := ops_slice hv
  clear hv hh htk hE1 hx1
  go_enter Try.func5, Try.ntmps5
  go_wp2_with fail
  refine (HO.out _ (Below.refl _ _)).mono ?_
  rintro e w1 ⟨v1, rfl, ho1, hb1⟩
  obtain ⟨a1, c1, rfl⟩ := own_slice ho1
  have Hb1 := Lib.hid (hb1)
  have o1_1 := Lib.hid (ho1.ops)
  clear hb1
  clear ho1
  go_wp2_with fail
  refine (HD.out _ _ o1_1.out).mono ?_
  rintro e w2 ⟨v2, rfl, hi2, hb2⟩
  obtain ⟨a2, c2, rfl⟩ := ints_slice hi2
  have Hb2 := Lib.hid (Below.tr Hb1.out hb2)
  have i2_2 := Lib.hid (hi2)
  clear hb2
  clear hi2
  go_wp2_with fail
  refine (HR.out _ Hb2.out).mono ?_
  rintro e w3 ⟨rfl, hb3⟩
  have Hb3 := Lib.hid (Below.tr Hb2.out hb3)
  have i2_3 := Lib.hid (Ints.keep i2_2.out hb3)
  clear hb3 i2_2
  go_wp2_with fail
  refine (HDR.out _ Hb3.out).mono ?_
  rintro e w4 ⟨v6, rfl, hi6, hb4⟩
  obtain ⟨a6, c6, rfl⟩ := ints_slice hi6
  have Hb4 := Lib.hid (Below.tr Hb3.out hb4)
  have i2_4 := Lib.hid (Ints.keep i2_3.out hb4)
  have i6_4 := Lib.hid (hi6)
  clear hb4 i2_3
  clear hi6
  go_wp2_with fail
  refine (equal_yes rfl _ _ _ i2_4.out i6_4.out).mono ?_
  rintro e w5 ⟨rfl, hb5⟩
  have Hb5 := Lib.hid (Below.tr Hb4.out hb5)
  clear hb5
  go_wp2_with fail
  refine (awake_any _).mono ?_
  rintro e w6 ⟨rfl, hb6⟩
  have Hb6 := Lib.hid (Below.tr Hb5.out hb6)
  clear hb6
  go_wp2_with fail
  go_ret
  exact ⟨rfl, Hb6.out⟩
theorem views_any (l : List HOp) (v : Value) (w : World) (hv : Ops w v l) :
    Calls Try.prog 5 #[v] w fun e w' => e = .returned (.bool true) ∧ Below w.heap.size w w' := by
  by_cases h : ValidH l
  · obtain ⟨g, hg, rfl⟩ := validH_nat h
    exact views_good hg v w hv
  · exact views_bad h v w hv

namespace historyViews
open Go.ChangeShapes Go.WideShapes Go.ChangeAt
set_option maxRecDepth 100000 in
theorem lifted (os : Os) (started : os.Started) (H : Type) (enc : TypeId × Value → H) :
    ReturnsInHanded {} Try.checked os 5 .any (Rows.historyViewsSpec.pre6 enc Try.prog Try.f5 Rows.historyViewsRow.domain false) (Rows.historyViewsSpec.post enc Try.prog Try.f5 false true false false) := by
  refine returnsInHanded_of_change (C := Try.checked) Try.own started (by kernel_rfl) Try.func5
    (ChangeSpec.witness6 (enc := enc) (C := Try.checked) false ⟨#[], #[.slice none 0 0], []⟩ 8 (by kernel_rfl) (by kernel_rfl) (by kernel_rfl) (by kernel_rfl)) ?_
  intro W base args ds gs before hval0 hW _ _
  have hval : ∀ (j : Nat) t v, Try.f5.params[j]? = some t → args[j]? = some v → Value.okWide Try.prog W .any base t v := hval0
  clear hval0
  obtain rfl : gs = [] := by obtain ⟨p, q, _, hV, _⟩ := hW; exact (trodVars_none hV).1
  have hW' := hW
  obtain ⟨p, q, hA0, hV, rfl, hfz, hnd⟩ := hW
  have hA : DataW.TrodAll enc Try.prog W 0 (fun _ => true) true Try.f5.params.toList args.toList ds p := hA0
  rw [Try.params5] at hA hval
  obtain ⟨v0, vs0, d0, ds0, p0, q0, hv0, hd0, hp0, h0, r0⟩ := trodAll_cons hA
  obtain ⟨hvn, hdn, hpn⟩ := trodAll_nil r0
  have ha : args = #[v0] := by cases args; simp_all
  have hdd : ds = [d0] := by simp_all
  rw [ha] at hval
  obtain ⟨a0, k0⟩ := ops_of_trod Try.underlying23 Try.underlying55 ⟨rfl, rfl⟩ ⟨rfl, rfl⟩ ⟨rfl, rfl⟩ Try.underlying3 cellsInt cellsOpR (okWide_slice Try.underlying23 (hval 0 23 v0 rfl rfl)) h0
  have hw : Calls Try.prog 5 args W (fun e W' => e = .returned (.bool true) ∧ Below W.heap.size W W') := by
    rw [ha]; exact views_any a0 v0 W k0
  exact hw.mono fun e W' ⟨he, hb⟩ => ⟨_, he, law_post Try.laidOut hW' rfl rfl Try.underlying4 (by rw [hdd]; rfl)
    (by kernel_rfl) hb⟩

theorem holds : Rows.HistoryViewsSaid :=
  OpenClaim.holds_of_wide 5 Try.f5 rfl rfl rfl rfl rfl rfl rfl ⟨rfl, rfl, rfl, rfl, rfl⟩ rfl rfl rfl rfl rfl (by kernel_rfl) Try.func5 (by kernel_rfl)
    (of_decide_eq_true (by kernel_rfl)) (by unfold Func.isWrapper; first | (rw [if_pos (by decide +kernel)]; kernel_rfl) | (rw [if_neg (by decide +kernel)]; exact ⟨rfl, rfl⟩))
    (fun os started H enc _ => lifted os started H enc)
#print axioms holds
end historyViews
end Go.Proofs.Ytpehbffkplmfjaa
