/- HistoryReads: for every input the law returns true. -/
import Derived.Test.YtpehbffkplmfjaaAw
import Derived.Test.YtpehbffkplmfjaaFrr
import Derived.Test.YtpehbffkplmfjaaFrame
import Derived.Test.YtpehbffkplmfjaaRows
namespace Go.Proofs.Ytpehbffkplmfjaa
open Go.RowKit

theorem valid_take (l : List HOp) : ValidH (l.take 43) ↔ ValidH l := by
  by_cases h : l.length ≤ 43
  · rw [List.take_of_length_le h]
  · constructor
    · intro hv; have := hv.1; rw [List.length_take] at this; omega
    · intro hv; have := hv.1; omega
set_option maxRecDepth 100000 in
set_option maxHeartbeats 8000000 in
theorem reads_bad {l : List HOp} (hn : ¬ ValidH l) (v : Value) (w : World) (hv : Ops w v l) :
    Calls Try.prog 3 #[v] w fun e w' => e = .returned (.bool true) ∧ Below w.heap.size w w' := by
  have HO := Lib.hid (fun w' (hb : Below w.heap.size w w') => of_any l v w' (Ops.keep hv hb))
  have HR := Lib.hid (fun w' (hb : Below w.heap.size w w') => validR_any l v w' (Ops.keep hv hb))
  rw [decide_eq_false hn] at HR
  have hn2 : ¬ ValidH (l.take 43) := fun h => hn ((valid_take l).1 h)
  generalize l.take 43 = m at *
  have HV := Lib.hid (fun v' w' (hv' : Ops w' v' m) => valid_any m v' w' hv')
  rw [decide_eq_false hn2] at HV
  have HF := Lib.hid (fun v' w' (hv' : Ops w' v' m) => fromE_bad hn2 v' w' hv')
  obtain ⟨a, c, rfl⟩ := ops_slice hv
  clear hv hn hn2
  go_enter Try.func3, Try.ntmps3
  go_wp2_with fail
  refine (HO.out _ (Below.refl _ _)).mono ?_
  rintro e w1 ⟨v1, rfl, ho1, hb1⟩
  obtain ⟨a1, c1, rfl⟩ := own_slice ho1
  have Ho1 := Lib.hid ho1.ops
  have Hb1 := Lib.hid hb1
  clear ho1 hb1
  go_wp2_with fail
  refine (HF.out _ _ Ho1.out).mono ?_
  rintro e w2 ⟨rfl, hb2⟩
  have Hb2 := Lib.hid (Below.tr Hb1.out hb2)
  clear hb2 Ho1
  go_wp2_with fail
  refine (HO.out _ Hb2.out).mono ?_
  rintro e w3 ⟨v3, rfl, ho3, hb3⟩
  obtain ⟨a3, c3, rfl⟩ := own_slice ho3
  have Ho3 := Lib.hid ho3.ops
  have Hb3 := Lib.hid (Below.tr Hb2.out hb3)
  clear ho3 hb3
  go_wp2_with fail
  refine (HV.out _ _ Ho3.out).mono ?_
  rintro e w4 ⟨rfl, hb4⟩
  have Hb4 := Lib.hid (Below.tr Hb3.out hb4)
  clear hb4 Ho3
  go_wp2_with fail
  refine (HR.out _ Hb4.out).mono ?_
  rintro e w5 ⟨rfl, hb5⟩
  have Hb5 := Lib.hid (Below.tr Hb4.out hb5)
  clear hb5
  go_wp2_with fail
  refine (awake_any _).mono ?_
  rintro e w6 ⟨rfl, hb6⟩
  have Hb6 := Lib.hid (Below.tr Hb5.out hb6)
  clear hb6
  go_wp2_with fail
  refine (HR.out _ Hb6.out).mono ?_
  rintro e w7 ⟨rfl, hb7⟩
  have Hb7 := Lib.hid (Below.tr Hb6.out hb7)
  clear hb7
  go_wp2_with fail
  go_ret
  exact ⟨rfl, Hb7.out⟩
set_option maxRecDepth 100000 in
set_option maxHeartbeats 8000000 in
theorem reads_good {h : List NOp} (hh : VH h) (v : Value) (w : World) (hv : Ops w v (castO h)) :
    Calls Try.prog 3 #[v] w fun e w' => e = .returned (.bool true) ∧ Below w.heap.size w w' := by
  have htk : (castO h).take 43 = castO h := List.take_of_length_le (by rw [castO_length]; have := hh.le; omega)
  have HO := Lib.hid (fun w' (hb : Below w.heap.size w w') => of_any (castO h) v w' (Ops.keep hv hb))
  rw [htk] at HO
  have HR := Lib.hid (fun w' (hb : Below w.heap.size w w') => validR_any (castO h) v w' (Ops.keep hv hb))
  rw [decide_eq_true (valid_of hh)] at HR
  have HV := Lib.hid (fun v' w' (hv' : Ops w' v' (castO h)) => valid_any (castO h) v' w' hv')
  rw [decide_eq_true (valid_of hh)] at HV
  have HF := Lib.hid (fun v' w' (hv' : Ops w' v' (castO h)) => fromE_any hh v' w' hv')
  have HFR := Lib.hid (fun w' (hb : Below w.heap.size w w') => fromR_any hh v w' (Ops.keep hv hb))
  obtain ⟨a, c, rfl⟩ := ops_slice hv
  clear hv hh htk
  go_enter Try.func3, Try.ntmps3
  go_wp2_with fail
  refine (HO.out _ (Below.refl _ _)).mono ?_
  rintro e w1 ⟨v1, rfl, ho1, hb1⟩
  obtain ⟨a1, c1, rfl⟩ := own_slice ho1
  have Ho1 := Lib.hid ho1.ops
  have Hb1 := Lib.hid hb1
  clear ho1 hb1
  go_wp2_with fail
  refine (HF.out _ _ Ho1.out).mono ?_
  rintro e w2 ⟨v2, rfl, hi2, hb2⟩
  obtain ⟨a2, c2, rfl⟩ := ints_slice hi2
  have Hi2 := Lib.hid hi2
  have Hb2 := Lib.hid (Below.tr Hb1.out hb2)
  clear hb2 hi2 Ho1
  go_wp2_with fail
  refine (HO.out _ Hb2.out).mono ?_
  rintro e w3 ⟨v3, rfl, ho3, hb3⟩
  obtain ⟨a3, c3, rfl⟩ := own_slice ho3
  have Ho3 := Lib.hid ho3.ops
  have Hi3 := Lib.hid (Hi2.out.keep hb3)
  have Hb3 := Lib.hid (Below.tr Hb2.out hb3)
  clear ho3 hb3 Hi2
  go_wp2_with fail
  refine (HV.out _ _ Ho3.out).mono ?_
  rintro e w4 ⟨rfl, hb4⟩
  have Hi4 := Lib.hid (Hi3.out.keep hb4)
  have Hb4 := Lib.hid (Below.tr Hb3.out hb4)
  clear hb4 Ho3 Hi3
  go_wp2_with fail
  refine (HR.out _ Hb4.out).mono ?_
  rintro e w5 ⟨rfl, hb5⟩
  have Hi5 := Lib.hid (Hi4.out.keep hb5)
  have Hb5 := Lib.hid (Below.tr Hb4.out hb5)
  clear hb5 Hi4
  go_wp2_with fail
  refine (awake_any _).mono ?_
  rintro e w6 ⟨rfl, hb6⟩
  have Hi6 := Lib.hid (Hi5.out.keep hb6)
  have Hb6 := Lib.hid (Below.tr Hb5.out hb6)
  clear hb6 Hi5
  go_wp2_with fail
  refine (HR.out _ Hb6.out).mono ?_
  rintro e w7 ⟨rfl, hb7⟩
  have Hi7 := Lib.hid (Hi6.out.keep hb7)
  have Hb7 := Lib.hid (Below.tr Hb6.out hb7)
  clear hb7 Hi6
  go_wp2_with fail
  refine (HFR.out _ Hb7.out).mono ?_
  rintro e w8 ⟨v8, rfl, hi8, hb8⟩
  obtain ⟨a8, c8, rfl⟩ := ints_slice hi8.ints
  have Hi8 := Lib.hid (Hi7.out.keep hb8)
  have Hr8 := Lib.hid hi8.ints
  have Hb8 := Lib.hid (Below.tr Hb7.out hb8)
  clear hb8 hi8 Hi7
  go_wp2_with fail
  refine (equal_yes rfl _ _ _ Hi8.out Hr8.out).mono ?_
  rintro e w9 ⟨rfl, hb9⟩
  have Hb9 := Lib.hid (Below.tr Hb8.out hb9)
  clear hb9
  go_wp2_with fail
  go_ret
  exact ⟨rfl, Hb9.out⟩
theorem reads_any (l : List HOp) (v : Value) (w : World) (hv : Ops w v l) :
    Calls Try.prog 3 #[v] w fun e w' => e = .returned (.bool true) ∧ Below w.heap.size w w' := by
  by_cases h : ValidH l
  · obtain ⟨g, hg, rfl⟩ := validH_nat h
    exact reads_good hg v w hv
  · exact reads_bad h v w hv

namespace historyReads
open Go.ChangeShapes Go.WideShapes Go.ChangeAt
set_option maxRecDepth 100000 in
theorem lifted (os : Os) (started : os.Started) (H : Type) (enc : TypeId × Value → H) :
    ReturnsInHanded {} Try.checked os 3 .any (Rows.historyReadsSpec.pre6 enc Try.prog Try.f3 Rows.historyReadsRow.domain false) (Rows.historyReadsSpec.post enc Try.prog Try.f3 false true false false) := by
  refine returnsInHanded_of_change (C := Try.checked) Try.own started (by kernel_rfl) Try.func3
    (ChangeSpec.witness6 (enc := enc) (C := Try.checked) false ⟨#[], #[.slice none 0 0], []⟩ 8 (by kernel_rfl) (by kernel_rfl) (by kernel_rfl) (by kernel_rfl)) ?_
  intro W base args ds gs before hval0 hW _ _
  have hval : ∀ (j : Nat) t v, Try.f3.params[j]? = some t → args[j]? = some v → Value.okWide Try.prog W .any base t v := hval0
  clear hval0
  obtain rfl : gs = [] := by obtain ⟨p, q, _, hV, _⟩ := hW; exact (trodVars_none hV).1
  have hW' := hW
  obtain ⟨p, q, hA0, hV, rfl, hfz, hnd⟩ := hW
  have hA : DataW.TrodAll enc Try.prog W 0 (fun _ => true) true Try.f3.params.toList args.toList ds p := hA0
  rw [Try.params3] at hA hval
  obtain ⟨v0, vs0, d0, ds0, p0, q0, hv0, hd0, hp0, h0, r0⟩ := trodAll_cons hA
  obtain ⟨hvn, hdn, hpn⟩ := trodAll_nil r0
  have ha : args = #[v0] := by cases args; simp_all
  have hdd : ds = [d0] := by simp_all
  rw [ha] at hval
  obtain ⟨a0, k0⟩ := ops_of_trod Try.underlying23 Try.underlying55 ⟨rfl, rfl⟩ ⟨rfl, rfl⟩ ⟨rfl, rfl⟩ Try.underlying3 cellsInt cellsOpR (okWide_slice Try.underlying23 (hval 0 23 v0 rfl rfl)) h0
  have hw : Calls Try.prog 3 args W (fun e W' => e = .returned (.bool true) ∧ Below W.heap.size W W') := by
    rw [ha]; exact reads_any a0 v0 W k0
  exact hw.mono fun e W' ⟨he, hb⟩ => ⟨_, he, law_post Try.laidOut hW' rfl rfl Try.underlying4 (by rw [hdd]; rfl)
    (by kernel_rfl) hb⟩

theorem holds : Rows.HistoryReadsSaid :=
  OpenClaim.holds_of_wide 3 Try.f3 rfl rfl rfl rfl rfl rfl rfl ⟨rfl, rfl, rfl, rfl, rfl⟩ rfl rfl rfl rfl rfl (by kernel_rfl) Try.func3 (by kernel_rfl)
    (of_decide_eq_true (by kernel_rfl)) (by unfold Func.isWrapper; first | (rw [if_pos (by decide +kernel)]; kernel_rfl) | (rw [if_neg (by decide +kernel)]; exact ⟨rfl, rfl⟩))
    (fun os started H enc _ => lifted os started H enc)
#print axioms holds
end historyReads
end Go.Proofs.Ytpehbffkplmfjaa
