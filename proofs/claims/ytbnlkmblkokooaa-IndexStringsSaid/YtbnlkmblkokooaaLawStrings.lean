/- IndexStrings: for every input the law returns true. -/
import Derived.Test.YtbnlkmblkokooaaAbr
import Derived.Test.YtbnlkmblkokooaaFrame
import Derived.Test.YtbnlkmblkokooaaRows
import Derived.HandedShaped
namespace Go.Proofs.Ytbnlkmblkokooaa
open Go.RowKit

set_option maxRecDepth 100000 in
set_option maxHeartbeats 8000000 in
theorem strings_any (t0 : ByteArray) (ht : t0.size ≤ maxLen) (p0 : ByteArray) (hp : p0.size ≤ maxLen) (w : World) (hg : Glob w) :
    Calls Try.prog 8 #[.string t0, .string p0] w fun e w' => e = .returned (.bool true) ∧ Below w.heap.size w w' := by
  have HF := Lib.hid (few_any t0 ht)
  have HF2 := Lib.hid (few_any p0 hp)
  have hs : (fewB t0).size ≤ 1000 := by have := fewB_size t0; omega
  have hs2 : (fewB p0).size ≤ 1000 := by have := fewB_size p0; omega
  have HG := Lib.hid hg
  clear hg
  generalize fewB t0 = s at *
  generalize fewB p0 = p at *
  by_cases h1 : Lab (bs s)
  · have HL := Lib.hid (label_b s hs true (decide_eq_true h1))
    obtain ⟨S, hS⟩ : ∃ S : ByteArray, S = ⟨(lonTo (bs s) (bs s).length).toArray⟩ := ⟨_, rfl⟩
    obtain ⟨E, hE⟩ : ∃ E : Int, E = lonE (lonTo (bs s) (bs s).length) := ⟨_, rfl⟩
    have HA := Lib.hid (longE_any h1)
    have HB := Lib.hid (longR_any h1)
    rw [← lon_eq] at HB
    unfold strV at HA HB
    rw [← hS, ← hE] at HA HB
    have HD := Lib.hid (distinctE_any h1)
    have HE := Lib.hid (distinctR_any s hs)
    generalize disI (bs s) = D at *
    clear hS hE
    by_cases h2 : LetOK (bs p)
    · have HM := Lib.hid (letters_any p hs2 true ⟨fun _ => h2, fun _ => rfl⟩)
      have HX := Lib.hid (absentE_any h1 h2)
      have HY := Lib.hid (absentR_any h1 h2)
      clear h1 h2
      go_enter Try.func8, Try.ntmps8
      go_wp2_with fail
      refine (HF.out _).mono ?_
      rintro e w' ⟨rfl, rfl⟩
      go_wp2_with fail
      refine (HF2.out _).mono ?_
      rintro e w' ⟨rfl, rfl⟩
      go_wp2_with fail
      refine (HA.out _).mono ?_
      rintro e w1 ⟨rfl, hb1⟩
      have Hb1 := Lib.hid (Below.tr (Below.refl _ _) hb1)
      clear hb1
      go_wp2_with fail
      refine (HB.out _).mono ?_
      rintro e w2 ⟨rfl, hb2⟩
      have Hb2 := Lib.hid (Below.tr Hb1.out hb2)
      clear hb2
      go_wp2_with fail
      refine (HD.out _).mono ?_
      rintro e w3 ⟨rfl, hb3⟩
      have Hb3 := Lib.hid (Below.tr Hb2.out hb3)
      clear hb3
      go_wp2_with fail
      refine (HX.out _ (Glob.keep HG.out Hb3.out)).mono ?_
      rintro e w4 ⟨x, rfl, hx, hb4⟩
      have Hx := Lib.hid hx
      have Hb4 := Lib.hid (Below.tr Hb3.out hb4)
      obtain ⟨X, hX⟩ : ∃ X : ByteArray, strV x = .string X := ⟨_, rfl⟩
      rw [hX]
      have HXe := Lib.hid hX
      clear hx hb4 hX
      go_wp2_with fail
      refine (awake_any _).mono ?_
      rintro e w5 ⟨rfl, hb5⟩
      have Hb5 := Lib.hid (Below.tr Hb4.out hb5)
      clear hb5
      go_wp2_with fail
      refine (HL.out _).mono ?_
      rintro e w' ⟨rfl, rfl⟩
      go_wp2_with fail
      refine (HE.out _).mono ?_
      rintro e w6 ⟨rfl, hb6⟩
      have Hb6 := Lib.hid (Below.tr Hb5.out hb6)
      clear hb6
      go_wp2_with fail
      refine (HM.out _).mono ?_
      rintro e w' ⟨rfl, q7, rfl⟩
      have Hb7 := Lib.hid (bdrewN Hb6.out q7)
      generalize World.drewN _ q7 = wq7 at *
      go_wp2_with fail
      refine (HY.out _).mono ?_
      rintro e w8 ⟨y, rfl, hy, hb8⟩
      have Hb8 := Lib.hid (Below.tr Hb7.out hb8)
      obtain rfl : y = x := isAbs_unique hy Hx.out
      rw [HXe.out]
      clear hy hb8
      go_wp2_with fail
      go_ret
      exact ⟨rfl, Hb8.out⟩
    · have HM := Lib.hid (letters_any p hs2 false ⟨fun h => Bool.noConfusion h, fun h => absurd h h2⟩)
      have HX := Lib.hid (absentE_bad hs hs2 (fun h => h2 h.2))
      clear h1 h2
      go_enter Try.func8, Try.ntmps8
      go_wp2_with fail
      refine (HF.out _).mono ?_
      rintro e w' ⟨rfl, rfl⟩
      go_wp2_with fail
      refine (HF2.out _).mono ?_
      rintro e w' ⟨rfl, rfl⟩
      go_wp2_with fail
      refine (HA.out _).mono ?_
      rintro e w1 ⟨rfl, hb1⟩
      have Hb1 := Lib.hid (Below.tr (Below.refl _ _) hb1)
      clear hb1
      go_wp2_with fail
      refine (HB.out _).mono ?_
      rintro e w2 ⟨rfl, hb2⟩
      have Hb2 := Lib.hid (Below.tr Hb1.out hb2)
      clear hb2
      go_wp2_with fail
      refine (HD.out _).mono ?_
      rintro e w3 ⟨rfl, hb3⟩
      have Hb3 := Lib.hid (Below.tr Hb2.out hb3)
      clear hb3
      go_wp2_with fail
      refine (HX.out _).mono ?_
      rintro e w' ⟨rfl, q4, rfl⟩
      have Hb4 := Lib.hid (bdrewN Hb3.out q4)
      generalize World.drewN _ q4 = wq4 at *
      go_wp2_with fail
      refine (awake_any _).mono ?_
      rintro e w5 ⟨rfl, hb5⟩
      have Hb5 := Lib.hid (Below.tr Hb4.out hb5)
      clear hb5
      go_wp2_with fail
      refine (HL.out _).mono ?_
      rintro e w' ⟨rfl, rfl⟩
      go_wp2_with fail
      refine (HE.out _).mono ?_
      rintro e w6 ⟨rfl, hb6⟩
      have Hb6 := Lib.hid (Below.tr Hb5.out hb6)
      clear hb6
      go_wp2_with fail
      refine (HM.out _).mono ?_
      rintro e w' ⟨rfl, q7, rfl⟩
      have Hb7 := Lib.hid (bdrewN Hb6.out q7)
      generalize World.drewN _ q7 = wq7 at *
      go_wp2_with fail
      go_ret
      exact ⟨rfl, Hb7.out⟩
  · have HL := Lib.hid (label_b s hs false (decide_eq_false h1))
    have HA := Lib.hid (longE_bad hs h1)
    have HB := Lib.hid (longR_bad hs h1)
    have HD := Lib.hid (distinctE_bad hs h1)
    have HX := Lib.hid (absentE_bad hs hs2 (fun h => h1 h.1))
    clear h1
    go_enter Try.func8, Try.ntmps8
    go_wp2_with fail
    refine (HF.out _).mono ?_
    rintro e w' ⟨rfl, rfl⟩
    go_wp2_with fail
    refine (HF2.out _).mono ?_
    rintro e w' ⟨rfl, rfl⟩
    go_wp2_with fail
    refine (HA.out _).mono ?_
    rintro e w' ⟨rfl, rfl⟩
    go_wp2_with fail
    refine (HB.out _).mono ?_
    rintro e w' ⟨rfl, rfl⟩
    go_wp2_with fail
    refine (HD.out _).mono ?_
    rintro e w' ⟨rfl, rfl⟩
    go_wp2_with fail
    refine (HX.out _).mono ?_
    rintro e w' ⟨rfl, q1, rfl⟩
    have Hb1 := Lib.hid (show Below w.heap.size w (w.drewN q1) from bdrewN (Below.refl _ _) q1)
    generalize World.drewN _ q1 = wq1 at *
    go_wp2_with fail
    refine (awake_any _).mono ?_
    rintro e w2 ⟨rfl, hb2⟩
    have Hb2 := Lib.hid (Below.tr Hb1.out hb2)
    clear hb2
    go_wp2_with fail
    refine (HL.out _).mono ?_
    rintro e w' ⟨rfl, rfl⟩
    go_wp2_with fail
    go_ret
    exact ⟨rfl, Hb2.out⟩

namespace indexStrings
open Go.ChangeShapes Go.WideShapes Go.ChangeAt Go.ChangeMaps
set_option maxRecDepth 100000 in
theorem lifted (os : Os) (started : os.Started) (H : Type) (enc : TypeId × Value → H) :
    ReturnsInHanded {} Try.checked os 8 .any (Rows.indexStringsSpec.pre6 enc Try.prog Try.f8 Rows.indexStringsRow.domain false) (Rows.indexStringsSpec.post enc Try.prog Try.f8 false true false false) := by
  refine returnsInHanded_of_change_shaped (C := Try.checked) Try.own started (by kernel_rfl) Try.func8
    (ChangeSpec.witness6 (enc := enc) (C := Try.checked) false ⟨#[], #[.string ⟨#[]⟩, .string ⟨#[]⟩], []⟩ 8 (by kernel_rfl) (by kernel_rfl) (by kernel_rfl) (by kernel_rfl)) ?_
  intro W base args ds gs before hval0 hW _ _ hshape _
  have hval : ∀ (j : Nat) t v, Try.f8.params[j]? = some t → args[j]? = some v → Value.okWide Try.prog W .any base t v := hval0
  clear hval0
  obtain rfl : gs = [] := by obtain ⟨p, q, _, hV, _⟩ := hW; exact (trodVars_none hV).1
  have hW' := hW
  obtain ⟨p, q, hA0, hV, rfl, hfz, hnd⟩ := hW
  have hA : DataW.TrodAll enc Try.prog W 0 (fun _ => true) true Try.f8.params.toList args.toList ds p := hA0
  rw [Try.params8] at hA hval
  obtain ⟨v0, vs0, d0, ds0, p0, q0, hv0, hd0, hp0, h0, r0⟩ := trodAll_cons hA
  obtain ⟨v1, vs1, d1, ds1, p1, q1, hv1, hd1, hp1, h1, r1⟩ := trodAll_cons r0
  obtain ⟨hvn, hdn, hpn⟩ := trodAll_nil r1
  have ha : args = #[v0, v1] := by cases args; simp_all
  have hdd : ds = [d0, d1] := by simp_all
  rw [ha] at hval
  obtain ⟨a0, e0, -, -, ws0⟩ := open_string Try.underlying9 (hval 0 9 v0 rfl rfl) h0
  obtain ⟨a1, e1, -, -, ws1⟩ := open_string Try.underlying9 (hval 1 9 v1 rfl rfl) h1
  have hw : Calls Try.prog 8 args W (fun e W' => e = .returned (.bool true) ∧ Below W.heap.size W W') := by
    rw [ha, e0, e1]; exact strings_any a0 ws0 a1 ws1 W (glob_of hshape)
  exact hw.mono fun e W' ⟨he, hb⟩ => ⟨_, he, law_post Try.laidOut hW' rfl rfl Try.underlying4 (by rw [hdd]; rfl)
    (by kernel_rfl) hb⟩

theorem holds : Rows.IndexStringsSaid :=
  OpenClaim.holds_of_wide 8 Try.f8 rfl rfl rfl rfl rfl rfl rfl ⟨rfl, rfl, rfl, rfl, rfl⟩ rfl rfl rfl rfl rfl (by kernel_rfl) Try.func8 (by kernel_rfl)
    (of_decide_eq_true (by kernel_rfl)) (by unfold Func.isWrapper; first | (rw [if_pos (by decide +kernel)]; kernel_rfl) | (rw [if_neg (by decide +kernel)]; exact ⟨rfl, rfl⟩))
    (fun os started H enc _ => lifted os started H enc)
#print axioms holds
end indexStrings
end Go.Proofs.Ytbnlkmblkokooaa
