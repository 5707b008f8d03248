/- IndexTransforms: for every input the law returns true. -/
import Derived.Test.YtbnlkmblkokooaaBkr
import Derived.Test.YtbnlkmblkokooaaFrame
import Derived.Test.YtbnlkmblkokooaaRows
import Derived.HandedShaped
import Derived.Deep.DeepCutAuto
namespace Go.Proofs.Ytbnlkmblkokooaa
open Go.RowKit
theorem tr_inj {a b : Bs} (ha : Lab a) (hb : Lab b) (h : tr a = tr b) : a = b := by
  have h1 : BkSt (tr a) a.length 0 0 (List.replicate a.length 0) := bkSt_start (tr_length a)
  have h2 : b.length = a.length := by have := congrArg List.length h; rw [tr_length, tr_length] at this; omega
  have key : ∀ j, j ≤ a.length → ∃ at' TL, BkSt (tr a) a.length at' j TL := fun j => by
    induction j with
    | zero => intro _; exact ⟨_, _, h1⟩
    | succ j ih =>
      intro hj
      obtain ⟨at', TL, h3⟩ := ih (by omega)
      by_cases hc : (tr a)[at']'h3.at_lt = 10
      · exact absurd ⟨a, ha, rfl⟩ (h3.end' (by omega) hc)
      · refine ⟨_, _, h3.step ⟨by rw [tr_length]; have := ha.1; omega, fun c hm => ?_⟩ (tr_length a) (by omega) hc⟩
        rcases List.mem_cons.1 ((tr_perm a).mem_iff.1 hm) with e | e
        · rw [e]; rfl
        · unfold mayB; rw [ha.2 c e]; rfl
  obtain ⟨at', TL, h3⟩ := key a.length (Nat.le_refl _)
  have e1 := h3.eq (tr_length a) (⟨ha, rfl⟩ : IsBk (tr a) a)
  have e2 := h3.eq (tr_length a) (⟨hb, h.symm⟩ : IsBk (tr a) b)
  rw [← e1, e2]
theorem isBk_unique {l a b : Bs} (ha : IsBk l a) (hb : IsBk l b) : a = b := tr_inj ha.1 hb.1 (ha.2.trans hb.2.symm)
#print axioms tr_inj
/-- what Back and the reference's Back both return -/
def BkBoth (s : ByteArray) (X : ByteArray) (c : Int) : Prop := (∀ w : World, Calls Try.prog 27 #[.string s] w fun e w' => e = .returned (.tuple #[.string X, .int .i64 c]) ∧ Below w.heap.size w w') ∧ ∀ w : World, Calls Try.prog 28 #[.string s] w fun e w' => e = .returned (.tuple #[.string X, .int .i64 c]) ∧ Below w.heap.size w w'
theorem bk_both (s : ByteArray) (hs : s.size ≤ 1000) : ∃ X c, BkBoth s X c := by
  by_cases h : Txt (bs s)
  · by_cases hT : ∃ T, IsBk (bs s) T
    · obtain ⟨T, hT⟩ := hT
      refine ⟨⟨T.toArray⟩, 0, fun w => (backE_any h w).mono ?_, fun w => (backR_any h w).mono ?_⟩
      · rintro e w' ⟨hb, ⟨T', hT', rfl⟩ | ⟨hno, _⟩⟩
        · rw [isBk_unique hT' hT]; exact ⟨rfl, hb⟩
        · exact absurd ⟨T, hT⟩ hno
      · rintro e w' ⟨hb, ⟨T', hT', rfl⟩ | ⟨hno, _⟩⟩
        · rw [isBk_unique hT' hT]; exact ⟨rfl, hb⟩
        · exact absurd ⟨T, hT⟩ hno
    · refine ⟨⟨#[]⟩, 4, fun w => (backE_any h w).mono ?_, fun w => (backR_any h w).mono ?_⟩
      · rintro e w' ⟨hb, ⟨T', hT', rfl⟩ | ⟨_, rfl⟩⟩
        · exact absurd ⟨T', hT'⟩ hT
        · exact ⟨rfl, hb⟩
      · rintro e w' ⟨hb, ⟨T', hT', rfl⟩ | ⟨_, rfl⟩⟩
        · exact absurd ⟨T', hT'⟩ hT
        · exact ⟨rfl, hb⟩
  · refine ⟨⟨#[]⟩, 2, fun w => (backE_bad hs h w).mono ?_, fun w => (backR_bad hs h w).mono ?_⟩
    · rintro e w' ⟨rfl, q, rfl⟩
      exact ⟨rfl, bdrewN (Below.refl _ _) q⟩
    · rintro e w' ⟨rfl, rfl⟩
      exact ⟨rfl, Below.refl _ _⟩
#print axioms bk_both
set_option maxRecDepth 100000 in
set_option maxHeartbeats 8000000 in
theorem transforms_both {t0 p0 s p : ByteArray} (HF : Hid (∀ w, Calls Try.prog 18 #[.string t0] w fun e w' => e = .returned (.string s) ∧ w = w')) (HF2 : Hid (∀ w, Calls Try.prog 18 #[.string p0] w fun e w' => e = .returned (.string p) ∧ w = w')) (hs : s.size ≤ 1000) (hp : p.size ≤ 1000) (w : World) :
    Calls Try.prog 4 #[.string t0, .string p0] w fun e w' => e = .returned (.bool true) ∧ Below w.heap.size w w' := by
  obtain ⟨X, c, hX1, hX2⟩ := bk_both p hp
  have HB := Lib.hid hX1
  have HR := Lib.hid hX2
  clear hX1 hX2 hp
  by_cases h : Lab (bs s)
  · have HL := Lib.hid (label_b s hs true (decide_eq_true h))
    have HT := Lib.hid (transE_any h)
    have HTr := Lib.hid (transformR_any s hs)
    obtain ⟨Y, hY⟩ : ∃ Y : ByteArray, strV (tr (bs s)) = .string Y := ⟨_, rfl⟩
    rw [hY] at HT HTr
    clear h hs hY
    go_enter Try.func4, Try.ntmps4
    go_wp2_with fail
    refine (HF.out _).mono ?_
    rintro e w' ⟨rfl, hw'⟩
    subst hw'
    go_wp2_with fail
    refine (HF2.out _).mono ?_
    rintro e w' ⟨rfl, hw'⟩
    subst hw'
    go_wp2_with fail
    refine (HT.out _).mono ?_
    rintro e w1 ⟨rfl, hb1⟩
    have HB1 := Lib.hid hb1
    clear hb1
    go_wp2_with fail
    refine (HB.out _).mono ?_
    rintro e w2 ⟨rfl, hb2⟩
    have HB2 := Lib.hid (Below.tr HB1.out hb2)
    clear hb2
    go_wp2_with fail
    refine (HR.out _).mono ?_
    rintro e w3 ⟨rfl, hb3⟩
    have HB3 := Lib.hid (Below.tr HB2.out hb3)
    clear hb3
    go_wp2_with fail
    refine (awake_any _).mono ?_
    rintro e w4 ⟨rfl, hb4⟩
    have HB4 := Lib.hid (Below.tr HB3.out hb4)
    clear hb4
    go_wp2_with fail
    refine (HL.out _).mono ?_
    rintro e w' ⟨rfl, hw'⟩
    subst hw'
    go_wp2_with fail
    refine (HTr.out _).mono ?_
    rintro e w5 ⟨rfl, hb5⟩
    have HB5 := Lib.hid (Below.tr HB4.out hb5)
    clear hb5
    go_wp2_with fail
    go_ret
    exact ⟨rfl, HB5.out⟩
  · have HL := Lib.hid (label_b s hs false (decide_eq_false h))
    have HT := Lib.hid (transE_bad hs h)
    clear h hs
    go_enter Try.func4, Try.ntmps4
    go_wp2_with fail
    refine (HF.out _).mono ?_
    rintro e w' ⟨rfl, hw'⟩
    subst hw'
    go_wp2_with fail
    refine (HF2.out _).mono ?_
    rintro e w' ⟨rfl, hw'⟩
    subst hw'
    go_wp2_with fail
    refine (HT.out _).mono ?_
    rintro e w' ⟨rfl, hw'⟩
    subst hw'
    have hsv : strV [] = .string ⟨#[]⟩ := rfl
    rw [hsv]
    go_wp2_with fail
    refine (HB.out _).mono ?_
    rintro e w2 ⟨rfl, hb2⟩
    have HB2 := Lib.hid hb2
    clear hb2
    go_wp2_with fail
    refine (HR.out _).mono ?_
    rintro e w3 ⟨rfl, hb3⟩
    have HB3 := Lib.hid (Below.tr HB2.out hb3)
    clear hb3
    go_wp2_with fail
    refine (awake_any _).mono ?_
    rintro e w4 ⟨rfl, hb4⟩
    have HB4 := Lib.hid (Below.tr HB3.out hb4)
    clear hb4
    go_wp2_with fail
    refine (HL.out _).mono ?_
    rintro e w' ⟨rfl, hw'⟩
    subst hw'
    go_wp2_with fail
    go_ret
    exact ⟨rfl, HB4.out⟩
#print axioms transforms_both
theorem transforms_any (t0 : ByteArray) (ht : t0.size ≤ maxLen) (p0 : ByteArray) (hp : p0.size ≤ maxLen) (w : World) :
    Calls Try.prog 4 #[.string t0, .string p0] w fun e w' => e = .returned (.bool true) ∧ Below w.heap.size w w' := by
  have hs : (fewB t0).size ≤ 1000 := by have := fewB_size t0; omega
  have hs2 : (fewB p0).size ≤ 1000 := by have := fewB_size p0; omega
  exact transforms_both (Lib.hid (few_any t0 ht)) (Lib.hid (few_any p0 hp)) hs hs2 w

namespace indexTransforms
open Go.ChangeShapes Go.WideShapes Go.ChangeAt Go.ChangeMaps
set_option maxRecDepth 100000 in
theorem lifted (os : Os) (started : os.Started) (H : Type) (enc : TypeId × Value → H) :
    ReturnsInHanded {} Try.checked os 4 .any (Rows.indexTransformsSpec.pre6 enc Try.prog Try.f4 Rows.indexTransformsRow.domain false) (Rows.indexTransformsSpec.post enc Try.prog Try.f4 false true false false) := by
  refine returnsInHanded_of_change (C := Try.checked) Try.own started (by kernel_rfl) Try.func4
    (ChangeSpec.witness6 (enc := enc) (C := Try.checked) false ⟨#[], #[.string ⟨#[]⟩, .string ⟨#[]⟩], []⟩ 8 (by kernel_rfl) (by kernel_rfl) (by kernel_rfl) (by kernel_rfl)) ?_
  intro W base args ds gs before hval0 hW _ hshape
  have hval : ∀ (j : Nat) t v, Try.f4.params[j]? = some t → args[j]? = some v → Value.okWide Try.prog W .any base t v := hval0
  clear hval0
  obtain rfl : gs = [] := by obtain ⟨p, q, _, hV, _⟩ := hW; exact (trodVars_none hV).1
  have hW' := hW
  obtain ⟨p, q, hA0, hV, rfl, hfz, hnd⟩ := hW
  have hA : DataW.TrodAll enc Try.prog W 0 (fun _ => true) true Try.f4.params.toList args.toList ds p := hA0
  rw [Try.params4] at hA hval
  obtain ⟨v0, vs0, d0, ds0, p0, q0, hv0, hd0, hp0, h0, r0⟩ := trodAll_cons hA
  obtain ⟨v1, vs1, d1, ds1, p1, q1, hv1, hd1, hp1, h1, r1⟩ := trodAll_cons r0
  obtain ⟨hvn, hdn, hpn⟩ := trodAll_nil r1
  have ha : args = #[v0, v1] := by cases args; simp_all
  have hdd : ds = [d0, d1] := by simp_all
  rw [ha] at hval
  obtain ⟨a0, e0, -, -, ws0⟩ := open_string Try.underlying9 (hval 0 9 v0 rfl rfl) h0
  obtain ⟨a1, e1, -, -, ws1⟩ := open_string Try.underlying9 (hval 1 9 v1 rfl rfl) h1
  have hw : Calls Try.prog 4 args W (fun e W' => e = .returned (.bool true) ∧ Below W.heap.size W W') := by
    rw [ha, e0, e1]; exact transforms_any a0 ws0 a1 ws1 W
  exact hw.mono fun e W' ⟨he, hb⟩ => ⟨_, he, law_post Try.laidOut hW' rfl rfl Try.underlying4 (by rw [hdd]; rfl)
    (by kernel_rfl) hb⟩

theorem holds : Rows.IndexTransformsSaid :=
  OpenClaim.holds_of_wide 4 Try.f4 rfl rfl rfl rfl rfl rfl rfl ⟨rfl, rfl, rfl, rfl, rfl⟩ rfl rfl rfl rfl rfl (by kernel_rfl) Try.func4 (by kernel_rfl)
    (of_decide_eq_true (by kernel_rfl)) (by unfold Func.isWrapper; first | (rw [if_pos (by decide +kernel)]; kernel_rfl) | (rw [if_neg (by decide +kernel)]; exact ⟨rfl, rfl⟩))
    (fun os started H enc _ => lifted os started H enc)
#print axioms holds
end indexTransforms
end Go.Proofs.Ytbnlkmblkokooaa
