/- ChordalTurned: for every input the law returns true. -/
import Derived.Test.YtkjpbjbheocciaaGh
import Derived.Test.YtkjpbjbheocciaaFrame
import Derived.Test.YtkjpbjbheocciaaRows
import Derived.Deep.RegionLaw
namespace Go.Proofs.Ytkjpbjbheocciaa
open Go.RowKit

theorem grI_take {l : List Int} : GrI (l.take 14) ↔ GrI l := by
  by_cases h : l.length ≤ 14
  · rw [List.take_of_length_le h]
  · constructor
    · intro hg; have := hg.1.2; simp at this; omega
    · intro hg; have := hg.1.2; omega
theorem grI_take_eq {l : List Int} (h : GrI l) : l.take 14 = l := List.take_of_length_le (by have := h.1.2; omega)
set_option maxRecDepth 100000 in
theorem turned_bad {l : List Int} (h : ¬ GrI l) (v : Value) (w : World) (hv : Ints w v l) :
    Calls Try.prog 16 #[v] w fun e w' => e = .returned (.bool true) ∧ Below w.heap.size w w' := by
  have Hv := Lib.hid hv
  have H14 := Lib.hid (show ¬ GrI (l.take 14) from fun hh => h (grI_take.1 hh))
  clear hv h
  go_enter Try.func16, Try.ntmps16
  go_wp2_with fail
  refine (of_any l _ _ Hv.out).mono ?_
  rintro e w1 ⟨v1, rfl, hd1, hb1⟩
  have Hd1 := Lib.hid hd1
  have Hb1 := Lib.hid hb1
  clear hd1 hb1
  go_wp2_with fail
  refine (clique_bad H14.out _ _ (OwnInts.ints Hd1.out)).mono ?_
  rintro e w' ⟨rfl, rfl⟩
  go_wp2_with fail
  refine (of_any l _ _ (Ints.keep Hv.out Hb1.out)).mono ?_
  rintro e w2 ⟨v2, rfl, hd2, hb2⟩
  have Hd2 := Lib.hid hd2
  have Hb2 := Lib.hid (Below.tr Hb1.out hb2)
  clear hd2 hb2
  go_wp2_with fail
  refine (independent_bad H14.out _ _ (OwnInts.ints Hd2.out)).mono ?_
  rintro e w' ⟨rfl, rfl⟩
  go_wp2_with fail
  refine (awake_any _).mono ?_
  rintro e w4 ⟨rfl, hb4⟩
  have Hb4 := Lib.hid (Below.tr Hb2.out hb4)
  clear hb4
  go_wp2_with fail
  go_ret
  exact ⟨rfl, Hb4.out⟩
theorem co_take {g : List Nat} {k : Nat} (h : k < g.length) : (co g).take (k + 1) = (co g).take k ++ [ndiff (ndiff (2 ^ g.length - 1) (nb g k)) (2 ^ k)] := by
  have h' : k < (co g).length := by rw [co_length]; exact h
  rw [List.take_succ_eq_append_getElem h', ← nb_get h', nb_co h]
set_option maxRecDepth 100000 in
set_option maxHeartbeats 4000000 in
theorem turned_good {g : List Nat} (hg : Gr g) (v : Value) (w : World) (hv : Ints w v (castN g)) :
    Calls Try.prog 16 #[v] w fun e w' => e = .returned (.bool true) ∧ Below w.heap.size w w' := by
  have Hv := Lib.hid hv
  have HG := Lib.hid hg
  have H14 := Lib.hid (grI_take_eq (grI_of hg))
  have hn12 := hg.le
  obtain ⟨F, hF, f1, f2, f3⟩ := pow_name g.length hn12
  have HF := Lib.hid hF
  have HC := Lib.hid (clique_any hg)
  have HI := Lib.hid (independent_any hg)
  have E1 := Lib.hid (show bestTo (isI (co g)) (2 ^ (co g).length) = bestTo (isC g) (2 ^ g.length) by
    rw [co_length]; exact bestTo_congr _ (fun s hs => decide_eq_decide.2 (indep_co hs)))
  have E2 := Lib.hid (show bestTo (isC (co g)) (2 ^ (co g).length) = bestTo (isI g) (2 ^ g.length) by
    rw [co_length]; exact bestTo_congr _ (fun s hs => decide_eq_decide.2 (cliq_co hg hs)))
  have HIc := Lib.hid (independent_any (co_gr hg))
  have HCc := Lib.hid (clique_any (co_gr hg))
  obtain ⟨A, hA⟩ : ∃ A, A = bestTo (isC g) (2 ^ g.length) := ⟨_, rfl⟩
  obtain ⟨B, hB⟩ : ∃ B, B = bestTo (isI g) (2 ^ g.length) := ⟨_, rfl⟩
  have HA := Lib.hid hA
  have HB := Lib.hid hB
  have hgl : (castN g).length = g.length := castN_length g
  obtain ⟨a, c, rfl⟩ := ints_slice hv
  rw [hgl] at Hv ⊢
  have Hgl := Lib.hid hgl
  clear hv hg hF hA hB hgl
  go_enter Try.func16, Try.ntmps16
  go_wp2_with fail
  refine (of_any _ _ _ Hv.out).mono ?_
  rintro e w1 ⟨v1, rfl, hd1, hb1⟩
  rw [H14.out] at hd1
  have Hd1 := Lib.hid hd1
  have Hb1 := Lib.hid hb1
  clear hd1 hb1
  go_wp2_with fail
  refine (HC.out _ _ (OwnInts.ints Hd1.out)).mono ?_
  rw [← HA.out]
  rintro e w' ⟨rfl, rfl⟩
  go_wp2_with fail
  refine (of_any _ _ _ (Ints.keep Hv.out Hb1.out)).mono ?_
  rintro e w2 ⟨v2, rfl, hd2, hb2⟩
  rw [H14.out] at hd2
  have Hd2 := Lib.hid hd2
  have Hb2 := Lib.hid (Below.tr Hb1.out hb2)
  clear hd2 hb2
  go_wp2_with fail
  refine (HI.out _ _ (OwnInts.ints Hd2.out)).mono ?_
  rw [← HB.out]
  rintro e w' ⟨rfl, rfl⟩
  go_wp2_with fail
  refine (validR_b (decide_eq_true (grI_of HG.out)) _ _ (Ints.keep Hv.out Hb2.out)).mono ?_
  rintro e w' ⟨rfl, rfl⟩
  go_wp2_with fail
  refine (of_any _ _ _ (Ints.keep Hv.out Hb2.out)).mono ?_
  rintro e w3 ⟨v3, rfl, hd3, hb3⟩
  rw [H14.out] at hd3
  obtain ⟨a3, b3, off3, cap3, hv3, hle3, ha3, hc3⟩ := Ints.graph (OwnInts.ints hd3)
  subst hv3
  have hix3 := run_ix (P := Try.prog) (t := 27) (a := a3) (len := g.length) (cap := cap3) (b := b3) (off := off3) (s := 1) Try.underlying27 (by intro w; kernel_rfl) ha3
  simp only [Nat.mul_one] at hix3
  have Hc3 := Lib.hid hc3
  have Hb3 := Lib.hid (Below.tr Hb2.out hb3)
  have hl1 : (0 : Int) ≤ (g.length : Int) := by omega
  have hl2 : (g.length : Int) < 64 := by omega
  clear hd3 hb3 ha3 hc3
  go_wp2_with fail
  go_loopw [7, 47] (fun o i wr => ∃ k : Nat, i = .int .i64 k ∧ k ≤ g.length ∧ Below w3.heap.size w3 wr ∧ OwnInts w3.heap.size wr o (castN ((co g).take k))) (fun _ i _ => g.length - (intOf i).toNat)
  case atStart => exact ⟨0, rfl, Nat.zero_le _, Below.refl _ _, ownInts_nil _ _⟩
  case round =>
    obtain ⟨k, rfl, hk, hb, hown⟩ := hrel
    have Hb := Lib.hid hb
    have Hown := Lib.hid hown
    clear hb hown
    by_cases hlt : k < g.length
    · have hc1 := Below.keep Hb.out (Hc3.out k hlt)
      have hixk := hix3 k
      have hnb := lt63 (HG.out.lt k hlt) hn12
      have hi1 : (0 : Int) ≤ (k : Int) := by omega
      have hi2 : (k : Int) < 64 := by omega
      obtain ⟨P, hP, p1, p2, p3⟩ := pow_name k (by omega)
      obtain ⟨z, hz⟩ : ∃ z, z = nb g k := ⟨_, rfl⟩
      rw [← hz] at hc1 hnb
      have e1 := bits_andNot_nat (F - 1) z (by omega) (by omega)
      have l1 := ndiff_le (F - 1) z
      have e2 := bits_andNot_nat (ndiff (F - 1) z) P (by omega) (by omega)
      have e3 : IntKind.i64.wrap ((F : Int) - 1) = ((F - 1 : Nat) : Int) := by rw [IntWalk.i64_in _ ⟨by omega, by omega⟩]; omega
      have e4 : IntKind.i64.wrap (F : Int) = (F : Int) := IntWalk.i64_in _ ⟨by omega, by omega⟩
      have e5 : IntKind.i64.wrap (P : Int) = (P : Int) := IntWalk.i64_in _ ⟨by omega, by omega⟩
      have HT := Lib.hid (show castN ((co g).take (k + 1)) = castN ((co g).take k) ++ [((ndiff (ndiff (F - 1) z) P : Nat) : Int)] by rw [co_take hlt, castN_append, ← HF.out, ← hz, ← hP]; rfl)
      have HTl := Lib.hid (show (castN ((co g).take k)).length ≤ 12 by rw [castN_length]; simp; omega)
      have hz3 := Hb3.out.size
      have hzb := Hb.out.size
      clear hz hP l1
      go_upto_region 9 with fail
      go_region_law (refine step_append_own (by rfl) (.tmp 52) (.tmp 62) 27 (by rfl) elemGraph (by rfl) (World.ownsRow.alloc (World.ownsRow.drew Hown.out) _) [.int .i64 ((ndiff (ndiff (F - 1) z) P : Nat) : Int)] (by rfl) (by rfl) (by intro q u hq; go_simp) (by intro u hu; simp at hu; subst hu; rfl) (by have := HTl.out; omega) (by simp; omega) ?_; intro v' w7 hown7 hb7)
      have R := Lib.hid (show OwnInts w3.heap.size w7 v' (castN ((co g).take (k + 1))) by rw [HT.out]; exact OwnInts.snoc hown7)
      have hb' := Lib.hid (show Below w3.heap.size w3 w7 from (Below.tr Hb.out (below_alloc _ _).drew).trans hb7)
      clear hown7 hb7
      go_wp2_with fail
      go_roundw
      case rel => exact ⟨k + 1, by go_num, by omega, hb'.out, R.out⟩
      case measure => simp [intOf]; omega
    · obtain rfl : k = g.length := by omega
      have Hh := Lib.hid (show Ints wr u7 (castN (co g)) by have := OwnInts.ints Hown.out; rwa [List.take_of_length_le (by rw [co_length]; exact Nat.le_refl _)] at this)
      have HB4 := Lib.hid (Below.tr Hb3.out Hb.out)
      clear hix3
      go_wp2_with fail
      refine (HIc.out _ _ Hh.out).mono ?_
      rw [E1.out, ← HA.out]
      rintro e w' ⟨rfl, rfl⟩
      go_wp2_with fail
      refine (HCc.out _ _ Hh.out).mono ?_
      rw [E2.out, ← HB.out]
      rintro e w' ⟨rfl, rfl⟩
      have q1 : ((A : Int) == (A : Int)) = true := by simp
      have q2 : ((B : Int) == (B : Int)) = true := by simp
      go_wp2_with fail
      refine (awake_any _).mono ?_
      rintro e w7 ⟨rfl, hb7⟩
      have Hb7 := Lib.hid (Below.tr HB4.out hb7)
      clear hb7
      go_wp2_with fail
      go_ret
      exact ⟨rfl, Hb7.out⟩
theorem turned_any (l : List Int) (v : Value) (w : World) (hv : Ints w v l) :
    Calls Try.prog 16 #[v] w fun e w' => e = .returned (.bool true) ∧ Below w.heap.size w w' := by
  by_cases h : GrI l
  · obtain ⟨g, hg, rfl⟩ := grI_nat h
    exact turned_good hg v w hv
  · exact turned_bad h v w hv

namespace chordalTurned
open Go.ChangeShapes Go.WideShapes Go.ChangeAt
set_option maxRecDepth 100000 in
theorem lifted (os : Os) (started : os.Started) (H : Type) (enc : TypeId × Value → H) :
    ReturnsInHanded {} Try.checked os 16 .any (Rows.chordalTurnedSpec.pre6 enc Try.prog Try.f16 Rows.chordalTurnedRow.domain false) (Rows.chordalTurnedSpec.post enc Try.prog Try.f16 false true false false) := by
  refine returnsInHanded_of_change (C := Try.checked) Try.own started (by kernel_rfl) Try.func16
    (ChangeSpec.witness6 (enc := enc) (C := Try.checked) false ⟨#[], #[.slice none 0 0], []⟩ 8 (by kernel_rfl) (by kernel_rfl) (by kernel_rfl) (by kernel_rfl)) ?_
  intro W base args ds gs before hval0 hW _ _
  have hval : ∀ (j : Nat) t v, Try.f16.params[j]? = some t → args[j]? = some v → Value.okWide Try.prog W .any base t v := hval0
  clear hval0
  obtain rfl : gs = [] := by obtain ⟨p, q, _, hV, _⟩ := hW; exact (trodVars_none hV).1
  have hW' := hW
  obtain ⟨p, q, hA0, hV, rfl, hfz, hnd⟩ := hW
  have hA : DataW.TrodAll enc Try.prog W 0 (fun _ => true) true Try.f16.params.toList args.toList ds p := hA0
  rw [Try.params16] at hA hval
  obtain ⟨v0, vs0, d0, ds0, p0, q0, hv0, hd0, hp0, h0, r0⟩ := trodAll_cons hA
  obtain ⟨hvn, hdn, hpn⟩ := trodAll_nil r0
  have ha : args = #[v0] := by cases args; simp_all
  have hdd : ds = [d0] := by simp_all
  rw [ha] at hval
  obtain ⟨a0, k0⟩ := ints_of_trod Try.underlying23 Try.underlying3 Try.cells3 (okWide_slice Try.underlying23 (hval 0 23 v0 rfl rfl)) h0
  have hw : Calls Try.prog 16 args W (fun e W' => e = .returned (.bool true) ∧ Below W.heap.size W W') := by
    rw [ha]; exact turned_any a0 v0 W k0
  exact hw.mono fun e W' ⟨he, hb⟩ => ⟨_, he, law_post Try.laidOut hW' rfl rfl Try.underlying4 (by rw [hdd]; rfl)
    (by kernel_rfl) hb⟩

theorem holds : Rows.ChordalTurnedSaid :=
  OpenClaim.holds_of_wide 16 Try.f16 rfl rfl rfl rfl rfl rfl rfl ⟨rfl, rfl, rfl, rfl, rfl⟩ rfl rfl rfl rfl rfl (by kernel_rfl) Try.func16 (by kernel_rfl)
    (of_decide_eq_true (by kernel_rfl)) (by unfold Func.isWrapper; first | (rw [if_pos (by decide +kernel)]; kernel_rfl) | (rw [if_neg (by decide +kernel)]; exact ⟨rfl, rfl⟩))
    (fun os started H enc _ => lifted os started H enc)
#print axioms holds
end chordalTurned
end Go.Proofs.Ytkjpbjbheocciaa
