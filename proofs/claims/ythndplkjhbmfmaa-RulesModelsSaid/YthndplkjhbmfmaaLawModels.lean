/- RulesModels: Model returns all facts of the model, or the documented error. For every input. -/
import Derived.Test.YthndplkjhbmfmaaRref

import Derived.Test.YthndplkjhbmfmaaRvo
import Derived.Test.YthndplkjhbmfmaaRvw
import Derived.Test.YthndplkjhbmfmaaRaw
import Derived.Test.YthndplkjhbmfmaaFrame
import Derived.Test.YthndplkjhbmfmaaRows
namespace Go.Proofs.Ythndplkjhbmfmaa
open Go.RowKit
set_option maxRecDepth 100000 in
set_option maxHeartbeats 16000000 in
theorem models_any (l : List RRule) (fs : List RAt) (rl fv : Value) (w : World) (hrl : Rules w rl l) (hfv : Atoms w fv fs) :
    Calls Try.prog 4 #[rl, fv] w fun e w' => e = .returned (.bool true) ∧ Below w.heap.size w w' := by
  have HR := Lib.hid hrl
  have HF := Lib.hid hfv
  obtain ⟨a, cap, rfl⟩ := RdS.slice hrl
  obtain ⟨ua, uc, rfl⟩ := atoms_slice hfv
  obtain ⟨n, hn⟩ : ∃ x, x = l.length := ⟨_, rfl⟩
  obtain ⟨fn, hfn⟩ : ∃ x, x = fs.length := ⟨_, rfl⟩
  rw [← hn] at HR ⊢
  rw [← hfn] at HF ⊢
  clear hn hfn hrl hfv
  have HC := Lib.hid (OfL_any l _ w HR.out)
  go_enter Try.func4, Try.ntmps4
  go_wp2_with fail
  refine HC.out.mono ?_
  clear HC
  rintro e w1 ⟨a1, n1, c1, rfl, ho1, hb1⟩
  have HB1 := Lib.hid hb1
  have HR1 := Lib.hid ho1.rules
  have HC := Lib.hid (factsL_any fs _ w1 (HF.out.keep hb1))
  clear ho1 hb1
  go_wp2_with fail
  refine HC.out.mono ?_
  clear HC
  rintro e w2 ⟨v2, rfl, ho2, hb2⟩
  obtain ⟨a2, c2, hv2⟩ := Atoms.own ho2
  obtain ⟨n2, hn2⟩ : ∃ x, x = (ofF fs).length := ⟨_, rfl⟩
  rw [← hn2] at hv2
  subst hv2
  have HB2 := Lib.hid (Below.tr HB1.out hb2)
  have HR2 := Lib.hid (HR1.out.keep hb2)
  have HC := Lib.hid (Model_any (ofRl l) (ofF fs) _ _ w2 HR2.out ho2.atoms)
  clear ho2 hb2 hn2
  go_wp2_with fail
  refine HC.out.mono ?_
  clear HC
  rintro e w3 ⟨hm, hb3⟩
  have HB3 := Lib.hid (Below.tr HB2.out hb3)
  clear hb3
  rcases hm with ⟨hv, rfl⟩ | ⟨hv, hno, rfl⟩ | ⟨hv, L, m1, m2, m3, cs, hs, rfl, ho3, hsr⟩
  · have HC := Lib.hid (ValidR_any l fs _ _ w3 (HR.out.keep HB3.out) (HF.out.keep HB3.out) false ⟨fun h => (by cases h), fun h => absurd (ofs_val.2 h) hv⟩)
    clear hv
    go_wp2_with fail
    refine HC.out.mono ?_
    clear HC
    rintro e w4 ⟨rfl, hb4⟩
    have HB4 := Lib.hid (Below.tr HB3.out hb4)
    clear hb4
    go_wp2_with fail
    refine (awake_any _).mono ?_
    rintro e wA ⟨rfl, hbA⟩
    have HBA := Lib.hid (Below.tr HB4.out hbA)
    clear hbA
    go_wp2_with fail
    go_ret
    exact ⟨rfl, HBA.out⟩
  · have hvl := ofs_val.1 hv
    have HV := Lib.hid hvl
    have HN := Lib.hid (show NoStr l from by rw [← ofRl_copy hvl]; exact hno)
    have HC := Lib.hid (ValidR_any l fs _ _ w3 (HR.out.keep HB3.out) (HF.out.keep HB3.out) true ⟨fun _ => hvl, fun _ => rfl⟩)
    clear hv hno hvl
    go_wp2_with fail
    refine HC.out.mono ?_
    clear HC
    rintro e w4 ⟨rfl, hb4⟩
    have HB4 := Lib.hid (Below.tr HB3.out hb4)
    clear hb4
    have HC := Lib.hid (ModelR_any l fs HV.out _ _ w4 (HR.out.keep HB4.out) (HF.out.keep HB4.out))
    go_wp2_with fail
    refine HC.out.mono ?_
    clear HC
    rintro e w5 ⟨hm, hb5⟩
    have HB5 := Lib.hid (Below.tr HB4.out hb5)
    clear hb5
    rcases hm with ⟨_, rfl⟩ | ⟨L2, b, h, _⟩
    rotate_left
    · exact (str_no h HN.out).elim
    obtain ⟨b, hbe⟩ : ∃ b : Nat → Bool, b = fun _ => false := ⟨_, rfl⟩
    have Hbe := Lib.hid hbe
    rw [← hbe]
    clear hbe
    go_upto_region 5 with (first | (refine wpList_store_row rfl 44 (.tmp 7) (.tmp 35) rfl w5.heap.size (srow b) rfl rfl 44 Try.zeroCells44 (heap_alloc_new w5 _) (sizeSet2 b) (zero_size b) (srow_one b) ?_))
    have HS6 := Lib.hid (set_new w5 b).1
    have HB6 := Lib.hid (Below.tr HB5.out (set_new w5 b).2)
    obtain ⟨g8, hg8⟩ : ∃ x, x = w5.heap.size := ⟨_, rfl⟩
    rw [← hg8] at HS6 HB6 ⊢
    clear hg8
    generalize (w5.alloc (.cells Try.zeroCells44 44)).setRow g8 (srow b) = w6 at *
    have HC := Lib.hid (ListR_any b w6)
    go_wp2_with (first | (refine wpList_load_row rfl 44 (.tmp 7) rfl g8 rfl 44 (srow b) (0, 0) _ HS6.out undSet rfl (sizeSet2 b) ?_))
    refine HC.out.mono ?_
    clear HC
    rintro e w7 ⟨q1, q2, q3, ds, rfl, hds, hsd, hb7⟩
    have HB7 := Lib.hid (Below.tr HB6.out hb7)
    have HEq := Lib.hid (show ds = [] from by
      cases ds with
      | nil => rfl
      | cons f q =>
        have := ((hsd.mem f).1 (by simp)).2
        rw [Hbe.out] at this; cases this)
    have HC := Lib.hid (same_any [] ds (.slice none 0 0) _ w7 (atoms_nil w7) hds true (decide_eq_true HEq.out.symm))
    clear hds hsd hb7
    go_wp2_with fail
    refine HC.out.mono ?_
    clear HC
    rintro e w8 ⟨rfl, hb8⟩
    have HB8 := Lib.hid (Below.tr HB7.out hb8)
    clear hb8
    go_wp2_with fail
    refine (awake_any _).mono ?_
    rintro e wA ⟨rfl, hbA⟩
    have HBA := Lib.hid (Below.tr HB8.out hbA)
    clear hbA
    go_wp2_with fail
    go_ret
    exact ⟨rfl, HBA.out⟩
  · have hvl := ofs_val.1 hv
    have HV := Lib.hid hvl
    have HSt := Lib.hid (show Str l L from by rw [← ofRl_copy hvl]; exact hs)
    have HSr := Lib.hid (show SrtF cs (mlv l L (fun f => f ∈ fs) 6) from by
      have h1 : SrtF cs (mlv (ofRl l) L (fun f => f ∈ ofF fs) 6) := hsr
      rwa [ofRl_copy hvl, ofF_copy hvl] at h1)
    have HM := Lib.hid ho3.atoms
    have HC := Lib.hid (ValidR_any l fs _ _ w3 (HR.out.keep HB3.out) (HF.out.keep HB3.out) true ⟨fun _ => hvl, fun _ => rfl⟩)
    clear hv hs hsr hvl ho3
    go_wp2_with fail
    refine HC.out.mono ?_
    clear HC
    rintro e w4 ⟨rfl, hb4⟩
    have HB4 := Lib.hid (Below.tr HB3.out hb4)
    have HM4 := Lib.hid (HM.out.keep hb4)
    clear hb4
    have HC := Lib.hid (ModelR_any l fs HV.out _ _ w4 (HR.out.keep HB4.out) (HF.out.keep HB4.out))
    go_wp2_with fail
    refine HC.out.mono ?_
    clear HC
    rintro e w5 ⟨hm, hb5⟩
    have HB5 := Lib.hid (Below.tr HB4.out hb5)
    have HM5 := Lib.hid (HM4.out.keep hb5)
    clear hb5
    rcases hm with ⟨h, _⟩ | ⟨L2, b, h, rfl, hbs⟩
    · exact (str_no HSt.out h).elim
    obtain rfl := str_unique HSt.out h
    have HBS := Lib.hid hbs
    clear h hbs
    go_upto_region 5 with (first | (refine wpList_store_row rfl 44 (.tmp 7) (.tmp 35) rfl w5.heap.size (srow b) rfl rfl 44 Try.zeroCells44 (heap_alloc_new w5 _) (sizeSet2 b) (zero_size b) (srow_one b) ?_))
    have HS6 := Lib.hid (set_new w5 b).1
    have HB6 := Lib.hid (Below.tr HB5.out (set_new w5 b).2)
    have HM6 := Lib.hid (HM5.out.keep (set_new w5 b).2)
    obtain ⟨g8, hg8⟩ : ∃ x, x = w5.heap.size := ⟨_, rfl⟩
    rw [← hg8] at HS6 HB6 HM6 ⊢
    clear hg8
    generalize (w5.alloc (.cells Try.zeroCells44 44)).setRow g8 (srow b) = w6 at *
    have HC := Lib.hid (ListR_any b w6)
    go_wp2_with (first | (refine wpList_load_row rfl 44 (.tmp 7) rfl g8 rfl 44 (srow b) (0, 0) _ HS6.out undSet rfl (sizeSet2 b) ?_))
    refine HC.out.mono ?_
    clear HC
    rintro e w7 ⟨q1, q2, q3, ds, rfl, hds, hsd, hb7⟩
    have HB7 := Lib.hid (Below.tr HB6.out hb7)
    have HEq := Lib.hid (show cs = ds from srtF_eq (HSr.out.congr fun f => by
      have hP := mlv_fc HV.out.ats (L := L) HV.out.fcs 6
      exact ⟨fun h => ⟨hP f h, (bset_at HBS.out hP (hP f h)).2 h⟩, fun h => (bset_at HBS.out hP h.1).1 h.2⟩) hsd)
    have HC := Lib.hid (same_any cs ds _ _ w7 (HM6.out.keep hb7) hds true (decide_eq_true HEq.out))
    clear hds hsd hb7
    go_wp2_with fail
    refine HC.out.mono ?_
    clear HC
    rintro e w8 ⟨rfl, hb8⟩
    have HB8 := Lib.hid (Below.tr HB7.out hb8)
    clear hb8
    go_wp2_with fail
    refine (awake_any _).mono ?_
    rintro e wA ⟨rfl, hbA⟩
    have HBA := Lib.hid (Below.tr HB8.out hbA)
    clear hbA
    go_wp2_with fail
    go_ret
    exact ⟨rfl, HBA.out⟩
#print axioms models_any
namespace rulesModels
open Go.ChangeShapes Go.WideShapes Go.ChangeAt
set_option maxRecDepth 100000 in
theorem lifted (os : Os) (started : os.Started) (H : Type) (enc : TypeId × Value → H) :
    ReturnsInHanded {} Try.checked os 4 .any (Rows.rulesModelsSpec.pre6 enc Try.prog Try.f4 Rows.rulesModelsRow.domain false) (Rows.rulesModelsSpec.post enc Try.prog Try.f4 false true false false) := by
  refine returnsInHanded_of_change (C := Try.checked) Try.own started (by kernel_rfl) Try.func4
    (ChangeSpec.witness6 (enc := enc) (C := Try.checked) false ⟨#[], #[.slice none 0 0, .slice none 0 0], []⟩ 8 (by kernel_rfl) (by kernel_rfl) (by kernel_rfl) (by kernel_rfl)) ?_
  intro W base args ds gs before hval0 hW _ _
  have hval : ∀ (j : Nat) t v, Try.f4.params[j]? = some t → args[j]? = some v → Value.okWide Try.prog W .any base t v := hval0
  clear hval0
  obtain rfl : gs = [] := by obtain ⟨p, q, _, hV, _⟩ := hW; exact (trodVars_none hV).1
  have hW' := hW
  obtain ⟨p, q, hA0, hV, rfl, hfz, hnd⟩ := hW
  have hA : DataW.TrodAll enc Try.prog W 0 (fun _ => true) true Try.f4.params.toList args.toList ds p := hA0
  rw [Try.params4] at hA hval
  obtain ⟨v0, vs0, d0, ds0, p0, q0, hv0, hd0, hp0, h0, r0⟩ := trodAll_cons hA
  obtain ⟨v1, vs1, d1, ds1, p1, q1, hv1, hd1, hp1, h1, r1⟩ := trodAll_cons r0
  obtain ⟨hvn, hdn, hpn⟩ := trodAll_nil r1
  have ha : args = #[v0, v1] := by cases args; simp_all
  have hdd : ds = [d0, d1] := by simp_all
  rw [ha] at hval
  obtain ⟨a0, k0⟩ := rules_of_trod Try.underlying22 Try.underlying86 ⟨rfl, rfl⟩ ⟨rfl, rfl⟩ Try.underlying84 (by kernel_rfl) Try.underlying88 ⟨rfl, rfl⟩ ⟨rfl, rfl⟩ Try.underlying4 (by kernel_rfl) Try.underlying83 ⟨rfl, rfl⟩ ⟨rfl, rfl⟩ Try.underlying3 Try.underlying23 (by kernel_rfl) (by kernel_rfl) (by kernel_rfl) (by kernel_rfl) (by kernel_rfl) (okWide_slice Try.underlying22 (hval 0 22 v0 rfl rfl)) h0
  obtain ⟨a1, k1⟩ := atoms_of_trod Try.underlying39 Try.underlying50 ⟨rfl, rfl⟩ ⟨rfl, rfl⟩ Try.underlying3 Try.underlying23 (by kernel_rfl) (by kernel_rfl) (by kernel_rfl) (okWide_slice Try.underlying39 (hval 1 39 v1 rfl rfl)) h1
  have hw : Calls Try.prog 4 args W (fun e W' => e = .returned (.bool true) ∧ Below W.heap.size W W') := by
    rw [ha]; exact models_any a0 a1 v0 v1 W k0 k1
  exact hw.mono fun e W' ⟨he, hb⟩ => ⟨_, he, law_post Try.laidOut hW' rfl rfl Try.underlying4 (by rw [hdd]; rfl)
    (by kernel_rfl) hb⟩

theorem holds : Rows.RulesModelsSaid :=
  OpenClaim.holds_of_wide 4 Try.f4 rfl rfl rfl rfl rfl rfl rfl ⟨rfl, rfl, rfl, rfl, rfl⟩ rfl rfl rfl rfl rfl (by kernel_rfl) Try.func4 (by kernel_rfl)
    (of_decide_eq_true (by kernel_rfl)) (by unfold Func.isWrapper; first | (rw [if_pos (by decide +kernel)]; kernel_rfl) | (rw [if_neg (by decide +kernel)]; exact ⟨rfl, rfl⟩))
    (fun os started H enc _ => lifted os started H enc)
end rulesModels

end Go.Proofs.Ythndplkjhbmfmaa
