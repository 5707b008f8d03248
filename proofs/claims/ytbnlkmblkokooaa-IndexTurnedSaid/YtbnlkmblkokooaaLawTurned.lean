/- IndexTurned: for every input the law returns true. -/
import Derived.Test.YtbnlkmblkokooaaTur
import Derived.Test.YtbnlkmblkokooaaRev
import Derived.Test.YtbnlkmblkokooaaCnt
import Derived.Test.YtbnlkmblkokooaaFrame
import Derived.Test.YtbnlkmblkokooaaRows
import Derived.HandedShaped
namespace Go.Proofs.Ytbnlkmblkokooaa
open Go.RowKit
theorem newE_no {s : ByteArray} (hs : s.size ≤ 1000) (h : ¬ Lab (bs s)) (w : World) :
    Calls Try.prog 33 #[.string s] w fun e w' => e = .returned (.tuple #[.pointer none, .int .i64 2]) ∧ w = w' := by
  have H := Lib.hid (isLabel_b s hs false (decide_eq_false h) w)
  clear h
  go_enter Try.func33, Try.ntmps33
  go_wp2_with fail
  refine H.out.mono ?_
  rintro e w1 ⟨rfl, rfl⟩
  go_wp2_with fail
  go_ret2
  exact ⟨rfl, rfl⟩
/-- a string backward -/
theorem back_str (s : ByteArray) : ∃ T : ByteArray, strV (bs s).reverse = .string T ∧ bs T = (bs s).reverse ∧ T.size = s.size :=
  ⟨⟨(bs s).reverse.toArray⟩, rfl, rfl, by rw [← bs_len, ← bs_len]; show ((bs s).reverse.toArray.toList).length = _; simp⟩
#print axioms back_str
set_option maxRecDepth 100000 in
set_option maxHeartbeats 8000000 in
theorem turned_no {t0 p0 s p : ByteArray} (HF : Hid (∀ w, Calls Try.prog 18 #[.string t0] w fun e w' => e = .returned (.string s) ∧ w = w')) (HF2 : Hid (∀ w, Calls Try.prog 18 #[.string p0] w fun e w' => e = .returned (.string p) ∧ w = w')) (hs : s.size ≤ 1000) (h : ¬ Lab (bs s)) (w : World) :
    Calls Try.prog 14 #[.string t0, .string p0] w fun e w' => e = .returned (.bool true) ∧ Below w.heap.size w w' := by
  obtain ⟨T, hT1, hT2, hT3⟩ := back_str s
  have HN := Lib.hid (newE_no hs h)
  have HN2 := Lib.hid (newE_no (s := T) (by omega) (by rw [hT2]; exact fun g => h ((lab_rev _).1 g)))
  have HT := Lib.hid (fun w => by have h := turned_any s hs w; rw [hT1] at h; exact h)
  have HL := Lib.hid (label_b s hs false (decide_eq_false h))
  have HB0 := Lib.hid (Below.refl w.heap.size w)
  clear hs h hT1 hT2 hT3
  go_enter Try.func14, Try.ntmps14
  go_wp2_with fail
  refine (HF.out _).mono ?_
  rintro e w' ⟨rfl, hw'⟩
  subst hw'
  go_wp2_with fail
  refine (HF2.out _).mono ?_
  rintro e w' ⟨rfl, hw'⟩
  subst hw'
  go_wp2_with fail
  refine (HN.out _).mono ?_
  rintro e w' ⟨rfl, hw'⟩
  subst hw'
  go_wp2_with fail
  refine (HT.out _).mono ?_
  rintro e w1 ⟨rfl, hb1⟩
  have HB1 := Lib.hid (Below.tr HB0.out hb1)
  clear hb1
  go_wp2_with fail
  refine (HN2.out _).mono ?_
  rintro e w' ⟨rfl, hw'⟩
  subst hw'
  go_wp2_with fail
  refine (HL.out _).mono ?_
  rintro e w' ⟨rfl, hw'⟩
  subst hw'
  go_wp2_with fail
  refine (awake_any _).mono ?_
  rintro e w2 ⟨rfl, hb2⟩
  have HB2 := Lib.hid (Below.tr HB1.out hb2)
  clear hb2
  go_wp2_with fail
  go_ret
  exact ⟨rfl, HB2.out⟩
#print axioms turned_no
set_option maxRecDepth 100000 in
set_option maxHeartbeats 8000000 in
theorem turned_yes {t0 p0 s p : ByteArray} (HF : Hid (∀ w, Calls Try.prog 18 #[.string t0] w fun e w' => e = .returned (.string s) ∧ w = w')) (HF2 : Hid (∀ w, Calls Try.prog 18 #[.string p0] w fun e w' => e = .returned (.string p) ∧ w = w')) (hp : p.size ≤ 1000) (h : Lab (bs s)) (w : World) :
    Calls Try.prog 14 #[.string t0, .string p0] w fun e w' => e = .returned (.bool true) ∧ Below w.heap.size w w' := by
  obtain ⟨T, hT1, hT2, hT3⟩ := back_str s
  obtain ⟨P, hP1, hP2, hP3⟩ := back_str p
  have hs := lab_size h
  have hLT : Lab (bs T) := by rw [hT2]; exact (lab_rev _).2 h
  have HN := Lib.hid (newE_any h)
  have HN2 := Lib.hid (newE_any hLT)
  have HT := Lib.hid (fun w => by have h := turned_any s (by omega) w; rw [hT1] at h; exact h)
  have HP := Lib.hid (fun w => by have h := turned_any p hp w; rw [hP1] at h; exact h)
  have HD := Lib.hid (distinctE_any h)
  have HD2 := Lib.hid (distinctE_any hLT)
  rw [hT2, disI_rev] at HD2
  have HL := Lib.hid (longE_any h)
  have HL2 := Lib.hid (longE_any hLT)
  rw [hT2, lonE_rev] at HL2
  obtain ⟨S1, hS1⟩ : ∃ S1 : ByteArray, S1 = ⟨(lonTo (bs s) (bs s).length).toArray⟩ := ⟨_, rfl⟩
  obtain ⟨S2, hS2⟩ : ∃ S2 : ByteArray, S2 = ⟨(lonTo (bs s).reverse (bs s).reverse.length).toArray⟩ := ⟨_, rfl⟩
  have hSS : S2.size = S1.size := by
    have := lon_rev (bs s)
    rw [hS1, hS2]
    show (lonTo (bs s).reverse (bs s).reverse.length).toArray.size = (lonTo (bs s) (bs s).length).toArray.size
    simpa using this
  unfold strV at HL HL2
  rw [← hS1] at HL
  rw [← hS2] at HL2
  obtain ⟨N, c, hC1, hC2⟩ : ∃ (N : Nat) (c : Int), (∀ (w' : World) B v, Made B w' v (bs s) → Calls Try.prog 34 #[v, .string p] w' fun e w'' => e = .returned (.tuple #[.int .i64 N, .int .i64 c]) ∧ ∃ q, w'' = w'.drewN q) ∧ ∀ (w' : World) B v, Made B w' v (bs T) → Calls Try.prog 34 #[v, .string P] w' fun e w'' => e = .returned (.tuple #[.int .i64 N, .int .i64 c]) ∧ ∃ q, w'' = w'.drewN q := by
    by_cases hq : Lab (bs p)
    · refine ⟨(occ' (bs s) (bs p)).length, 0, fun w' B v hm => count_yes h hq w' hm, fun w' B v hm => ?_⟩
      have := count_yes hLT (p := P) (by rw [hP2]; exact (lab_rev _).2 hq) w' hm
      rw [hT2, hP2, occ_rev] at this
      exact this
    · refine ⟨0, 2, fun w' B v hm => count_arg hq hp w' hm, fun w' B v hm => ?_⟩
      exact count_arg (p := P) (by rw [hP2]; exact fun g => hq ((lab_rev _).1 g)) (by omega) w' hm
  have HC1 := Lib.hid hC1
  have HC2 := Lib.hid hC2
  have HB0 := Lib.hid (Below.refl w.heap.size w)
  generalize disI (bs s) = D at *
  generalize lonE (lonTo (bs s) (bs s).length) = E at *
  have hSz : (S2.size : Int) = (S1.size : Int) := by omega
  clear h hp hs hLT hT1 hT2 hT3 hP1 hP2 hP3 hS1 hS2 hSS hC1 hC2
  go_enter Try.func14, Try.ntmps14
  go_wp2_with fail
  refine (HF.out _).mono ?_
  rintro e w' ⟨rfl, hw'⟩
  subst hw'
  go_wp2_with fail
  refine (HF2.out _).mono ?_
  rintro e w' ⟨rfl, hw'⟩
  subst hw'
  go_wp2_with fail
  refine (HN.out _).mono ?_
  rintro e w1 ⟨v1, rfl, hm1, hb1⟩
  have HB1 := Lib.hid (Below.tr HB0.out hb1)
  clear hb1
  have HM1 := Lib.hid hm1
  clear hm1
  go_wp2_with fail
  refine (HT.out _).mono ?_
  rintro e w2 ⟨rfl, hb2⟩
  have HM2 := Lib.hid (HM1.out.keep hb2)
  have HB2 := Lib.hid (Below.tr HB1.out hb2)
  clear hb2
  go_wp2_with fail
  refine (HN2.out _).mono ?_
  rintro e w3 ⟨v3, rfl, hm3, hb3⟩
  have HM3 := Lib.hid (HM2.out.keep hb3)
  have HB3 := Lib.hid (Below.tr HB2.out hb3)
  clear hb3
  have HK3 := Lib.hid hm3
  clear hm3
  go_wp2_with fail
  refine (HD.out _).mono ?_
  rintro e w4 ⟨rfl, hb4⟩
  have HM4 := Lib.hid (HM3.out.keep hb4)
  have HK4 := Lib.hid (HK3.out.keep hb4)
  have HB4 := Lib.hid (Below.tr HB3.out hb4)
  clear hb4
  go_wp2_with fail
  refine (HT.out _).mono ?_
  rintro e w5 ⟨rfl, hb5⟩
  have HM5 := Lib.hid (HM4.out.keep hb5)
  have HK5 := Lib.hid (HK4.out.keep hb5)
  have HB5 := Lib.hid (Below.tr HB4.out hb5)
  clear hb5
  go_wp2_with fail
  refine (HD2.out _).mono ?_
  rintro e w6 ⟨rfl, hb6⟩
  have HM6 := Lib.hid (HM5.out.keep hb6)
  have HK6 := Lib.hid (HK5.out.keep hb6)
  have HB6 := Lib.hid (Below.tr HB5.out hb6)
  clear hb6
  go_wp2_with fail
  refine (HL.out _).mono ?_
  rintro e w7 ⟨rfl, hb7⟩
  have HM7 := Lib.hid (HM6.out.keep hb7)
  have HK7 := Lib.hid (HK6.out.keep hb7)
  have HB7 := Lib.hid (Below.tr HB6.out hb7)
  clear hb7
  go_wp2_with fail
  refine (HT.out _).mono ?_
  rintro e w8 ⟨rfl, hb8⟩
  have HM8 := Lib.hid (HM7.out.keep hb8)
  have HK8 := Lib.hid (HK7.out.keep hb8)
  have HB8 := Lib.hid (Below.tr HB7.out hb8)
  clear hb8
  go_wp2_with fail
  refine (HL2.out _).mono ?_
  rintro e w9 ⟨rfl, hb9⟩
  have HM9 := Lib.hid (HM8.out.keep hb9)
  have HK9 := Lib.hid (HK8.out.keep hb9)
  have HB9 := Lib.hid (Below.tr HB8.out hb9)
  clear hb9
  go_wp2_with fail
  refine (HC1.out _ _ _ HM9.out).mono ?_
  rintro e w10 ⟨rfl, q10, hw10⟩
  have HK10 := Lib.hid (show Made _ w10 v3 (bs T) from by rw [hw10]; exact HK9.out.draw q10)
  have HB10 := Lib.hid (show Below w.heap.size w w10 from by rw [hw10]; exact bdrewN HB9.out q10)
  clear hw10
  go_wp2_with fail
  refine (HP.out _).mono ?_
  rintro e w11 ⟨rfl, hb11⟩
  have HK11 := Lib.hid (HK10.out.keep hb11)
  have HB11 := Lib.hid (Below.tr HB10.out hb11)
  clear hb11
  go_wp2_with fail
  refine (HC2.out _ _ _ HK11.out).mono ?_
  rintro e w12 ⟨rfl, q12, hw12⟩
  have HB12 := Lib.hid (show Below w.heap.size w w12 from by rw [hw12]; exact bdrewN HB11.out q12)
  clear hw12
  go_wp2_with fail
  refine (awake_any _).mono ?_
  rintro e w13 ⟨rfl, hb13⟩
  have HB13 := Lib.hid (Below.tr HB12.out hb13)
  clear hb13
  go_wp2_with fail
  go_ret
  exact ⟨rfl, HB13.out⟩
#print axioms turned_yes
theorem turnedLaw_any (t0 : ByteArray) (ht : t0.size ≤ maxLen) (p0 : ByteArray) (hp : p0.size ≤ maxLen) (w : World) :
    Calls Try.prog 14 #[.string t0, .string p0] w fun e w' => e = .returned (.bool true) ∧ Below w.heap.size w w' := by
  have HF := Lib.hid (few_any t0 ht)
  have HF2 := Lib.hid (few_any p0 hp)
  have hs : (fewB t0).size ≤ 1000 := by have := fewB_size t0; omega
  have hs2 : (fewB p0).size ≤ 1000 := by have := fewB_size p0; omega
  by_cases h : Lab (bs (fewB t0))
  · exact turned_yes HF HF2 hs2 h w
  · exact turned_no HF HF2 hs h w

namespace indexTurned
open Go.ChangeShapes Go.WideShapes Go.ChangeAt Go.ChangeMaps
set_option maxRecDepth 100000 in
theorem lifted (os : Os) (started : os.Started) (H : Type) (enc : TypeId × Value → H) :
    ReturnsInHanded {} Try.checked os 14 .any (Rows.indexTurnedSpec.pre6 enc Try.prog Try.f14 Rows.indexTurnedRow.domain false) (Rows.indexTurnedSpec.post enc Try.prog Try.f14 false true false false) := by
  refine returnsInHanded_of_change (C := Try.checked) Try.own started (by kernel_rfl) Try.func14
    (ChangeSpec.witness6 (enc := enc) (C := Try.checked) false ⟨#[], #[.string ⟨#[]⟩, .string ⟨#[]⟩], []⟩ 8 (by kernel_rfl) (by kernel_rfl) (by kernel_rfl) (by kernel_rfl)) ?_
  intro W base args ds gs before hval0 hW _ hshape
  have hval : ∀ (j : Nat) t v, Try.f14.params[j]? = some t → args[j]? = some v → Value.okWide Try.prog W .any base t v := hval0
  clear hval0
  obtain rfl : gs = [] := by obtain ⟨p, q, _, hV, _⟩ := hW; exact (trodVars_none hV).1
  have hW' := hW
  obtain ⟨p, q, hA0, hV, rfl, hfz, hnd⟩ := hW
  have hA : DataW.TrodAll enc Try.prog W 0 (fun _ => true) true Try.f14.params.toList args.toList ds p := hA0
  rw [Try.params14] at hA hval
  obtain ⟨v0, vs0, d0, ds0, p0, q0, hv0, hd0, hp0, h0, r0⟩ := trodAll_cons hA
  obtain ⟨v1, vs1, d1, ds1, p1, q1, hv1, hd1, hp1, h1, r1⟩ := trodAll_cons r0
  obtain ⟨hvn, hdn, hpn⟩ := trodAll_nil r1
  have ha : args = #[v0, v1] := by cases args; simp_all
  have hdd : ds = [d0, d1] := by simp_all
  rw [ha] at hval
  obtain ⟨a0, e0, -, -, ws0⟩ := open_string Try.underlying9 (hval 0 9 v0 rfl rfl) h0
  obtain ⟨a1, e1, -, -, ws1⟩ := open_string Try.underlying9 (hval 1 9 v1 rfl rfl) h1
  have hw : Calls Try.prog 14 args W (fun e W' => e = .returned (.bool true) ∧ Below W.heap.size W W') := by
    rw [ha, e0, e1]; exact turnedLaw_any a0 ws0 a1 ws1 W
  exact hw.mono fun e W' ⟨he, hb⟩ => ⟨_, he, law_post Try.laidOut hW' rfl rfl Try.underlying4 (by rw [hdd]; rfl)
    (by kernel_rfl) hb⟩

theorem holds : Rows.IndexTurnedSaid :=
  OpenClaim.holds_of_wide 14 Try.f14 rfl rfl rfl rfl rfl rfl rfl ⟨rfl, rfl, rfl, rfl, rfl⟩ rfl rfl rfl rfl rfl (by kernel_rfl) Try.func14 (by kernel_rfl)
    (of_decide_eq_true (by kernel_rfl)) (by unfold Func.isWrapper; first | (rw [if_pos (by decide +kernel)]; kernel_rfl) | (rw [if_neg (by decide +kernel)]; exact ⟨rfl, rfl⟩))
    (fun os started H enc _ => lifted os started H enc)
#print axioms holds
end indexTurned
end Go.Proofs.Ytbnlkmblkokooaa
