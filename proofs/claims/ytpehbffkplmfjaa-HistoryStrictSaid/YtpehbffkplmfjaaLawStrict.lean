/- HistoryStrict: for every input the law returns true. -/
import Derived.Test.YtpehbffkplmfjaaAw
import Derived.Test.YtpehbffkplmfjaaRec
import Derived.Test.YtpehbffkplmfjaaFrame
import Derived.Test.YtpehbffkplmfjaaRows
namespace Go.Proofs.Ytpehbffkplmfjaa
open Go.RowKit

theorem validS_take (l : List HOp) : ValidH (l.take 43) ↔ ValidH l := by
  by_cases h : l.length ≤ 43
  · rw [List.take_of_length_le h]
  · constructor
    · intro hv; have := hv.1; rw [List.length_take] at this; omega
    · intro hv; have := hv.1; omega
theorem lw_spec (h : List NOp) (i x : Nat) : ∀ m, lw h i x m = 0 ∨ ∃ j, j < m ∧ tK h j = 1 ∧ tI h j = x ∧ i ≤ en h 3 h.length (tT h j) ∧ tT h j = lw h i x m
  | 0 => .inl rfl
  | m + 1 => by
    rw [lw]
    by_cases e : tK h m = 1 ∧ tI h m = x ∧ i ≤ en h 3 h.length (tT h m)
    · rw [if_pos e]; exact .inr ⟨m, by omega, e.1, e.2.1, e.2.2, rfl⟩
    · rw [if_neg e]
      rcases lw_spec h i x m with h1 | ⟨j, hj, hh⟩
      · exact .inl h1
      · exact .inr ⟨j, by omega, hh⟩
/-- a history that avoids cascades is recoverable -/
theorem careful_rec {h : List NOp} (hh : VH h) (hc : carB h h.length = true) : recB h h.length = true := by
  refine decide_eq_true fun i hi hb => ?_
  have hc' := of_decide_eq_true hc i hi
  obtain ⟨h1, h2, h3⟩ := hb
  have h4 : ¬ i < lv h h.length (7 + (frm h i).toNat) := fun e => hc' ⟨h1, e⟩
  have ht := hh.t6 i hi
  rw [lv_com h (show tT h i < 7 by omega)] at h2 h3
  rcases en_spec h 2 (tT h i) h.length hh.le with e | e
  · exact h2 e.1
  · exact hh.once i hi _ (show en h 2 h.length (tT h i) < i by omega) ⟨e.2.1, by rw [e.2.2]; omega⟩
/-- a strict history avoids cascades -/
theorem strict_careful {h : List NOp} (hh : VH h) (hs : strB h h.length = true) : carB h h.length = true := by
  refine decide_eq_true fun i hi hb => ?_
  have hs' := of_decide_eq_true hs i hi
  obtain ⟨⟨h1, h2⟩, h3⟩ := hb
  have hl := hh.le
  unfold frm at h1 h2 h3
  by_cases e0 : tK h i = 0
  · rw [if_pos e0] at h1 h2 h3
    rw [Int.toNat_natCast] at h3
    rcases lw_spec h i (tI h i) i with e | ⟨j, hj, k1, k2, k3, k4⟩
    · omega
    · have htj := hh.t6 j (by omega)
      refine hs' ⟨j, hj, k1, ⟨⟨by omega, by omega⟩, by omega, k2, .inl k1⟩, by rw [k4]; exact h3, ?_⟩
      rw [lv_abo h (show tT h j < 7 by omega)]
      rcases en_spec h 3 (tT h j) h.length hh.le with e | e
      · omega
      · have : en h 3 h.length (tT h j) ≠ i := fun e2 => by rw [e2] at e; omega
        omega
  · rw [if_neg e0] at h1; omega
set_option maxRecDepth 100000 in
set_option maxHeartbeats 8000000 in
theorem strict_bad {l : List HOp} (hn : ¬ ValidH l) (v : Value) (w : World) (hv : Ops w v l) :
    Calls Try.prog 10 #[v] w fun e w' => e = .returned (.bool true) ∧ Below w.heap.size w w' := by
  have HO := Lib.hid (fun w' (hb : Below w.heap.size w w') => of_any l v w' (Ops.keep hv hb))
  have HR := Lib.hid (fun w' (hb : Below w.heap.size w w') => validR_any l v w' (Ops.keep hv hb))
  rw [decide_eq_false hn] at HR
  have hn2 : ¬ ValidH (l.take 43) := fun h => hn ((validS_take l).1 h)
  generalize l.take 43 = m at *
  have HF := Lib.hid (fun v' w' (hv' : Ops w' v' m) => recovery_bad hn2 v' w' hv')
  obtain ⟨a, c, rfl⟩ := ops_slice hv
  clear hv hn hn2
  go_enter Try.func10, Try.ntmps10
  go_wp2_with fail
  refine (HO.out _ (Below.refl _ _)).mono ?_
  rintro e w1 ⟨v1, rfl, ho1, hb1⟩
  obtain ⟨a1, c1, rfl⟩ := own_slice ho1
  have Ho1 := Lib.hid ho1.ops
  have Hb1 := Lib.hid hb1
  clear ho1 hb1
  go_wp2_with fail
  refine (HF.out _ _ Ho1.out).mono ?_
  rintro e w2 ⟨rfl, hb2⟩
  have Hb2 := Lib.hid (Below.tr Hb1.out hb2)
  clear hb2 Ho1
  go_wp2_with fail
  refine (HR.out _ Hb2.out).mono ?_
  rintro e w5 ⟨rfl, hb5⟩
  have Hb5 := Lib.hid (Below.tr Hb2.out hb5)
  clear hb5
  go_wp2_with fail
  refine (awake_any _).mono ?_
  rintro e w6 ⟨rfl, hb6⟩
  have Hb6 := Lib.hid (Below.tr Hb5.out hb6)
  clear hb6
  go_wp2_with fail
  go_ret
  exact ⟨rfl, Hb6.out⟩
set_option maxRecDepth 100000 in
set_option maxHeartbeats 8000000 in
theorem strict_good {h : List NOp} (hh : VH h) (v : Value) (w : World) (hv : Ops w v (castO h)) :
    Calls Try.prog 10 #[v] w fun e w' => e = .returned (.bool true) ∧ Below w.heap.size w w' := by
  have htk : (castO h).take 43 = castO h := List.take_of_length_le (by rw [castO_length]; have := hh.le; omega)
  have HO := Lib.hid (fun w' (hb : Below w.heap.size w w') => of_any (castO h) v w' (Ops.keep hv hb))
  rw [htk] at HO
  have HF := Lib.hid (fun v' w' (hv' : Ops w' v' (castO h)) => recovery_any hh v' w' hv')
  have h1 := careful_rec hh
  have h2 := strict_careful hh
  obtain ⟨a, c, rfl⟩ := ops_slice hv
  clear hv hh htk
  generalize recB h h.length = A at *
  generalize carB h h.length = B at *
  generalize strB h h.length = C at *
  cases A <;> cases B <;> cases C
  all_goals first | (exfalso; simp_all; done) | skip
  all_goals
    clear h1 h2
    go_enter Try.func10, Try.ntmps10
    go_wp2_with fail
    refine (HO.out _ (Below.refl _ _)).mono ?_
    rintro e w1 ⟨v1, rfl, ho1, hb1⟩
    obtain ⟨a1, c1, rfl⟩ := own_slice ho1
    have Ho1 := Lib.hid ho1.ops
    have Hb1 := Lib.hid hb1
    clear ho1 hb1
    go_wp2_with fail
    refine (HF.out _ _ Ho1.out).mono ?_
    rintro e w2 ⟨rfl, hb2⟩
    have Hb2 := Lib.hid (Below.tr Hb1.out hb2)
    clear hb2 Ho1
    go_wp2_with fail
    refine (awake_any _).mono ?_
    rintro e w6 ⟨rfl, hb6⟩
    have Hb6 := Lib.hid (Below.tr Hb2.out hb6)
    clear hb6
    go_wp2_with fail
    go_ret
    exact ⟨rfl, Hb6.out⟩
theorem strict_any (l : List HOp) (v : Value) (w : World) (hv : Ops w v l) :
    Calls Try.prog 10 #[v] w fun e w' => e = .returned (.bool true) ∧ Below w.heap.size w w' := by
  by_cases h : ValidH l
  · obtain ⟨g, hg, rfl⟩ := validH_nat h
    exact strict_good hg v w hv
  · exact strict_bad h v w hv

namespace historyStrict
open Go.ChangeShapes Go.WideShapes Go.ChangeAt
set_option maxRecDepth 100000 in
theorem lifted (os : Os) (started : os.Started) (H : Type) (enc : TypeId × Value → H) :
    ReturnsInHanded {} Try.checked os 10 .any (Rows.historyStrictSpec.pre6 enc Try.prog Try.f10 Rows.historyStrictRow.domain false) (Rows.historyStrictSpec.post enc Try.prog Try.f10 false true false false) := by
  refine returnsInHanded_of_change (C := Try.checked) Try.own started (by kernel_rfl) Try.func10
    (ChangeSpec.witness6 (enc := enc) (C := Try.checked) false ⟨#[], #[.slice none 0 0], []⟩ 8 (by kernel_rfl) (by kernel_rfl) (by kernel_rfl) (by kernel_rfl)) ?_
  intro W base args ds gs before hval0 hW _ _
  have hval : ∀ (j : Nat) t v, Try.f10.params[j]? = some t → args[j]? = some v → Value.okWide Try.prog W .any base t v := hval0
  clear hval0
  obtain rfl : gs = [] := by obtain ⟨p, q, _, hV, _⟩ := hW; exact (trodVars_none hV).1
  have hW' := hW
  obtain ⟨p, q, hA0, hV, rfl, hfz, hnd⟩ := hW
  have hA : DataW.TrodAll enc Try.prog W 0 (fun _ => true) true Try.f10.params.toList args.toList ds p := hA0
  rw [Try.params10] at hA hval
  obtain ⟨v0, vs0, d0, ds0, p0, q0, hv0, hd0, hp0, h0, r0⟩ := trodAll_cons hA
  obtain ⟨hvn, hdn, hpn⟩ := trodAll_nil r0
  have ha : args = #[v0] := by cases args; simp_all
  have hdd : ds = [d0] := by simp_all
  rw [ha] at hval
  obtain ⟨a0, k0⟩ := ops_of_trod Try.underlying23 Try.underlying55 ⟨rfl, rfl⟩ ⟨rfl, rfl⟩ ⟨rfl, rfl⟩ Try.underlying3 cellsInt cellsOpR (okWide_slice Try.underlying23 (hval 0 23 v0 rfl rfl)) h0
  have hw : Calls Try.prog 10 args W (fun e W' => e = .returned (.bool true) ∧ Below W.heap.size W W') := by
    rw [ha]; exact strict_any a0 v0 W k0
  exact hw.mono fun e W' ⟨he, hb⟩ => ⟨_, he, law_post Try.laidOut hW' rfl rfl Try.underlying4 (by rw [hdd]; rfl)
    (by kernel_rfl) hb⟩

theorem holds : Rows.HistoryStrictSaid :=
  OpenClaim.holds_of_wide 10 Try.f10 rfl rfl rfl rfl rfl rfl rfl ⟨rfl, rfl, rfl, rfl, rfl⟩ rfl rfl rfl rfl rfl (by kernel_rfl) Try.func10 (by kernel_rfl)
    (of_decide_eq_true (by kernel_rfl)) (by unfold Func.isWrapper; first | (rw [if_pos (by decide +kernel)]; kernel_rfl) | (rw [if_neg (by decide +kernel)]; exact ⟨rfl, rfl⟩))
    (fun os started H enc _ => lifted os started H enc)
#print axioms holds
end historyStrict
end Go.Proofs.Ytpehbffkplmfjaa
