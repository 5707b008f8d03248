/- IndexSorts: for every input the law returns true. -/
import Derived.Test.YtbnlkmblkokooaaRcom
import Derived.Test.YtbnlkmblkokooaaFrame
import Derived.Test.YtbnlkmblkokooaaRows
namespace Go.Proofs.Ytbnlkmblkokooaa
open Go.RowKit

set_option maxRecDepth 100000 in
set_option maxHeartbeats 4000000 in
theorem sorts_any (t0 : ByteArray) (ht : t0.size ≤ maxLen) (w : World) :
    Calls Try.prog 3 #[.string t0] w fun e w' => e = .returned (.bool true) ∧ Below w.heap.size w w' := by
  have HF := Lib.hid (few_any t0 ht w)
  have hs : (fewB t0).size ≤ 1000 := by have := fewB_size t0; omega
  generalize fewB t0 = s at *
  by_cases h : Lab (bs s)
  · have H1 := Lib.hid (sortE_any h)
    have H2 := Lib.hid (commonE_any h)
    have H3 := Lib.hid (label_b s hs true (decide_eq_true h))
    have H4 := Lib.hid (sortR_any s hs)
    have H5 := Lib.hid (commonR_any s hs)
    clear h
    go_enter Try.func3, Try.ntmps3
    go_wp2_with fail
    refine HF.out.mono ?_
    rintro e w' ⟨rfl, rfl⟩
    go_wp2_with fail
    refine (H1.out _).mono ?_
    rintro e w1 ⟨v1, rfl, ho1, hb1⟩
    have Ho1 := Lib.hid (OwnInts.ints ho1)
    have Hb1 := Lib.hid hb1
    clear ho1 hb1
    go_wp2_with fail
    refine (H2.out _).mono ?_
    rintro e w2 ⟨v2, rfl, ho2, hb2⟩
    have Ho2 := Lib.hid (OwnInts.ints ho2)
    have Ho1' := Lib.hid (Ints.keep Ho1.out hb2)
    have Hb2 := Lib.hid (Below.tr Hb1.out hb2)
    clear ho2 hb2
    go_wp2_with fail
    refine (H3.out _).mono ?_
    rintro e w' ⟨rfl, rfl⟩
    go_wp2_with fail
    refine (H4.out _).mono ?_
    rintro e w3 ⟨v3, rfl, ho3, hb3⟩
    have Ho3 := Lib.hid (OwnInts.ints ho3)
    have Ho1'' := Lib.hid (Ints.keep Ho1'.out hb3)
    have Ho2' := Lib.hid (Ints.keep Ho2.out hb3)
    have Hb3 := Lib.hid (Below.tr Hb2.out hb3)
    clear ho3 hb3
    go_wp2_with fail
    refine (equal_yes rfl _ _ _ Ho1''.out Ho3.out).mono ?_
    rintro e w4 ⟨rfl, hb4⟩
    have Ho2'' := Lib.hid (Ints.keep Ho2'.out hb4)
    have Hb4 := Lib.hid (Below.tr Hb3.out hb4)
    clear hb4
    go_wp2_with fail
    refine (H5.out _).mono ?_
    rintro e w5 ⟨v5, rfl, ho5, hb5⟩
    have Ho5 := Lib.hid (OwnInts.ints ho5)
    have Ho2''' := Lib.hid (Ints.keep Ho2''.out hb5)
    have Hb5 := Lib.hid (Below.tr Hb4.out hb5)
    clear ho5 hb5
    go_wp2_with fail
    refine (equal_yes rfl _ _ _ Ho2'''.out Ho5.out).mono ?_
    rintro e w6 ⟨rfl, hb6⟩
    have Hb6 := Lib.hid (Below.tr Hb5.out hb6)
    clear hb6
    go_wp2_with fail
    refine (awake_any _).mono ?_
    rintro e w7 ⟨rfl, hb7⟩
    have Hb7 := Lib.hid (Below.tr Hb6.out hb7)
    clear hb7
    go_wp2_with fail
    go_ret
    exact ⟨rfl, Hb7.out⟩
  · have H1 := Lib.hid (sortE_bad hs h)
    have H2 := Lib.hid (commonE_bad hs h)
    have H3 := Lib.hid (label_b s hs false (decide_eq_false h))
    clear h
    go_enter Try.func3, Try.ntmps3
    go_wp2_with fail
    refine HF.out.mono ?_
    rintro e w' ⟨rfl, rfl⟩
    go_wp2_with fail
    refine (H1.out _).mono ?_
    rintro e w' ⟨rfl, rfl⟩
    go_wp2_with fail
    refine (H2.out _).mono ?_
    rintro e w' ⟨rfl, rfl⟩
    go_wp2_with fail
    refine (H3.out _).mono ?_
    rintro e w' ⟨rfl, rfl⟩
    go_wp2_with fail
    refine (awake_any _).mono ?_
    rintro e w7 ⟨rfl, hb7⟩
    have Hb7 := Lib.hid hb7
    clear hb7
    go_wp2_with fail
    go_ret
    exact ⟨rfl, Hb7.out⟩

namespace indexSorts
open Go.ChangeShapes Go.WideShapes Go.ChangeAt Go.ChangeMaps
set_option maxRecDepth 100000 in
theorem lifted (os : Os) (started : os.Started) (H : Type) (enc : TypeId × Value → H) :
    ReturnsInHanded {} Try.checked os 3 .any (Rows.indexSortsSpec.pre6 enc Try.prog Try.f3 Rows.indexSortsRow.domain false) (Rows.indexSortsSpec.post enc Try.prog Try.f3 false true false false) := by
  refine returnsInHanded_of_change (C := Try.checked) Try.own started (by kernel_rfl) Try.func3
    (ChangeSpec.witness6 (enc := enc) (C := Try.checked) false ⟨#[], #[.string ⟨#[]⟩], []⟩ 8 (by kernel_rfl) (by kernel_rfl) (by kernel_rfl) (by kernel_rfl)) ?_
  intro W base args ds gs before hval0 hW _ hshape
  have hval : ∀ (j : Nat) t v, Try.f3.params[j]? = some t → args[j]? = some v → Value.okWide Try.prog W .any base t v := hval0
  clear hval0
  obtain rfl : gs = [] := by obtain ⟨p, q, _, hV, _⟩ := hW; exact (trodVars_none hV).1
  have hW' := hW
  obtain ⟨p, q, hA0, hV, rfl, hfz, hnd⟩ := hW
  have hA : DataW.TrodAll enc Try.prog W 0 (fun _ => true) true Try.f3.params.toList args.toList ds p := hA0
  rw [Try.params3] at hA hval
  obtain ⟨v0, vs0, d0, ds0, p0, q0, hv0, hd0, hp0, h0, r0⟩ := trodAll_cons hA
  obtain ⟨hvn, hdn, hpn⟩ := trodAll_nil r0
  have ha : args = #[v0] := by cases args; simp_all
  have hdd : ds = [d0] := by simp_all
  rw [ha] at hval
  obtain ⟨a0, e0, -, -, ws0⟩ := open_string Try.underlying9 (hval 0 9 v0 rfl rfl) h0
  have hw : Calls Try.prog 3 args W (fun e W' => e = .returned (.bool true) ∧ Below W.heap.size W W') := by
    rw [ha, e0]; exact sorts_any a0 ws0 W
  exact hw.mono fun e W' ⟨he, hb⟩ => ⟨_, he, law_post Try.laidOut hW' rfl rfl Try.underlying4 (by rw [hdd]; rfl)
    (by kernel_rfl) hb⟩

theorem holds : Rows.IndexSortsSaid :=
  OpenClaim.holds_of_wide 3 Try.f3 rfl rfl rfl rfl rfl rfl rfl ⟨rfl, rfl, rfl, rfl, rfl⟩ rfl rfl rfl rfl rfl (by kernel_rfl) Try.func3 (by kernel_rfl)
    (of_decide_eq_true (by kernel_rfl)) (by unfold Func.isWrapper; first | (rw [if_pos (by decide +kernel)]; kernel_rfl) | (rw [if_neg (by decide +kernel)]; exact ⟨rfl, rfl⟩))
    (fun os started H enc _ => lifted os started H enc)
#print axioms holds
end indexSorts
end Go.Proofs.Ytbnlkmblkokooaa
