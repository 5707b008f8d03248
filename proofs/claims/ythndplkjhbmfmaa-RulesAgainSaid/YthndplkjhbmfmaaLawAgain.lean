/- RulesAgain: the model of the rules and of all facts of the model, if they may be so many, is the model again, where no Lit has Not. For every input. -/
import Derived.Test.YthndplkjhbmfmaaRpl
import Derived.Test.YthndplkjhbmfmaaFrame
import Derived.Test.YthndplkjhbmfmaaRows
namespace Go.Proofs.Ythndplkjhbmfmaa
open Go.RowKit
set_option maxRecDepth 100000 in
set_option maxHeartbeats 8000000 in
theorem again_any (l : List RRule) (fs : List RAt) (rl fv : Value) (w : World) (hrl : Rules w rl l) (hfv : Atoms w fv fs) :
    Calls Try.prog 11 #[rl, fv] w fun e w' => e = .returned (.bool true) ∧ Below w.heap.size w w' := by
  have HR := Lib.hid hrl
  have HF := Lib.hid hfv
  obtain ⟨a, cap, rfl⟩ := RdS.slice hrl
  obtain ⟨ua, uc, rfl⟩ := atoms_slice hfv
  obtain ⟨n, hn⟩ : ∃ x, x = l.length := ⟨_, rfl⟩
  obtain ⟨fn, hfn⟩ : ∃ x, x = fs.length := ⟨_, rfl⟩
  rw [← hn] at HR ⊢
  rw [← hfn] at HF ⊢
  clear hn hfn hrl hfv
  have HC := Lib.hid (OfL_any l _ w HR.out)
  go_enter Try.func11, Try.ntmps11
  go_wp2_with fail
  refine HC.out.mono ?_
  clear HC
  rintro e w1 ⟨a1, n1, c1, rfl, ho1, hb1⟩
  have HB1 := Lib.hid hb1
  have HR1 := Lib.hid ho1.rules
  have HC := Lib.hid (factsL_any fs _ w1 (HF.out.keep hb1))
  clear ho1 hb1
  go_wp2_with fail
  refine HC.out.mono ?_
  clear HC
  rintro e w2 ⟨v2, rfl, ho2, hb2⟩
  obtain ⟨a2, c2, hv2⟩ := Atoms.own ho2
  obtain ⟨n2, hn2⟩ : ∃ x, x = (ofF fs).length := ⟨_, rfl⟩
  rw [← hn2] at hv2
  subst hv2
  have HB2 := Lib.hid (Below.tr HB1.out hb2)
  have HR2 := Lib.hid (HR1.out.keep hb2)
  have HC := Lib.hid (Model_any (ofRl l) (ofF fs) _ _ w2 HR2.out ho2.atoms)
  clear ho2 hb2 hn2
  go_wp2_with fail
  refine HC.out.mono ?_
  clear HC
  rintro e w3 ⟨hm, hb3⟩
  have HB3 := Lib.hid (Below.tr HB2.out hb3)
  clear hb3
  rcases hm with ⟨_, rfl⟩ | ⟨_, _, rfl⟩ | ⟨hv, L, a3, n3, c3, cs, hs, rfl, ho3, hsr⟩
  · go_wp2_with fail
    refine (awake_any _).mono ?_
    rintro e w4 ⟨rfl, hb4⟩
    have HB4 := Lib.hid (Below.tr HB3.out hb4)
    clear hb4
    go_wp2_with fail
    go_ret
    exact ⟨rfl, HB4.out⟩
  · go_wp2_with fail
    refine (awake_any _).mono ?_
    rintro e w4 ⟨rfl, hb4⟩
    have HB4 := Lib.hid (Below.tr HB3.out hb4)
    clear hb4
    go_wp2_with fail
    go_ret
    exact ⟨rfl, HB4.out⟩
  · have HV := Lib.hid hv
    have HSt := Lib.hid hs
    have HO := Lib.hid ho3
    have HSr := Lib.hid hsr
    have Hn3 := Lib.hid (show n3 = cs.length from by
      obtain ⟨_, _, e⟩ := Atoms.own ho3
      injection e)
    clear hv hs ho3 hsr
    by_cases hp : PlainR l
    · have HPl := Lib.hid (plain_of hp)
      have HC := Lib.hid (Plain_any l _ w3 (HR.out.keep HB3.out) true ⟨fun _ => hp, fun _ => rfl⟩)
      clear hp
      go_wp2_with fail
      refine HC.out.mono ?_
      clear HC
      rintro e w4 ⟨rfl, hb4⟩
      have HB4 := Lib.hid (Below.tr HB3.out hb4)
      have HO4 := Lib.hid (HO.out.keep hb4)
      clear hb4
      by_cases h20 : 20 < n3
      · have h20i : (20 : Int) < (n3 : Int) := by omega
        go_wp2_with fail
        refine (awake_any _).mono ?_
        rintro e w5 ⟨rfl, hb5⟩
        have HB5 := Lib.hid (Below.tr HB4.out hb5)
        clear hb5
        go_wp2_with fail
        go_ret
        exact ⟨rfl, HB5.out⟩
      · have h20i : ¬ (20 : Int) < (n3 : Int) := by omega
        have HC := Lib.hid (OfL_any l _ w4 (HR.out.keep HB4.out))
        go_wp2_with fail
        refine HC.out.mono ?_
        clear HC
        rintro e w5 ⟨a5, n5, c5, rfl, ho5, hb5⟩
        have HB5 := Lib.hid (Below.tr HB4.out hb5)
        have HO5 := Lib.hid (HO4.out.keep hb5)
        have HC := Lib.hid (Model_any (ofRl l) cs _ _ w5 ho5.rules HO5.out.atoms)
        clear ho5 hb5
        go_wp2_with fail
        refine HC.out.mono ?_
        clear HC
        rintro e w6 ⟨hm, hb6⟩
        have HB6 := Lib.hid (Below.tr HB5.out hb6)
        have HO6 := Lib.hid (HO5.out.keep hb6)
        have hm : ∃ (a n c : _) (ds : List RAt), e = .returned (.tuple #[.slice a n c, .int .i64 0]) ∧ Atoms w6 (.slice a n c) ds ∧ ds = cs := by
          have hv2 := val_again HV.out HSr.out (by rw [← Hn3.out]; omega)
          rcases hm with ⟨h, _⟩ | ⟨_, h, _⟩ | ⟨_, L2, a6, n6, c6, ds, hs2, he, ho6, hsr2⟩
          · exact absurd hv2 h
          · exact (str_no HSt.out h).elim
          · have := str_unique hs2 HSt.out
            subst this
            refine ⟨a6, n6, c6, ds, he, ho6.atoms, srtF_eq hsr2 (HSr.out.congr fun f => ?_)⟩
            exact ((mod_again HV.out.ats HPl.out hs2 (G := fun f => f ∈ ofF fs) (M := fun f => f ∈ cs) (fun f => HSr.out.mem f) 6 f).trans (HSr.out.mem f)).symm
        obtain ⟨a6, n6, c6, ds, rfl, ho6, rfl⟩ := hm
        have HC := Lib.hid (same_any ds ds _ _ w6 HO6.out.atoms ho6 true (by simp))
        clear hb6 ho6
        go_wp2_with fail
        refine HC.out.mono ?_
        clear HC
        rintro e w7 ⟨rfl, hb7⟩
        have HB7 := Lib.hid (Below.tr HB6.out hb7)
        clear hb7
        go_wp2_with fail
        refine (awake_any _).mono ?_
        rintro e w8 ⟨rfl, hb8⟩
        have HB8 := Lib.hid (Below.tr HB7.out hb8)
        clear hb8
        go_wp2_with fail
        go_ret
        exact ⟨rfl, HB8.out⟩
    · have HC := Lib.hid (Plain_any l _ w3 (HR.out.keep HB3.out) false ⟨fun h => (by cases h), fun h => absurd h hp⟩)
      clear hp
      go_wp2_with fail
      refine HC.out.mono ?_
      clear HC
      rintro e w4 ⟨rfl, hb4⟩
      have HB4 := Lib.hid (Below.tr HB3.out hb4)
      clear hb4
      go_wp2_with fail
      refine (awake_any _).mono ?_
      rintro e w5 ⟨rfl, hb5⟩
      have HB5 := Lib.hid (Below.tr HB4.out hb5)
      clear hb5
      go_wp2_with fail
      go_ret
      exact ⟨rfl, HB5.out⟩
#print axioms again_any
namespace rulesAgain
open Go.ChangeShapes Go.WideShapes Go.ChangeAt
set_option maxRecDepth 100000 in
theorem lifted (os : Os) (started : os.Started) (H : Type) (enc : TypeId × Value → H) :
    ReturnsInHanded {} Try.checked os 11 .any (Rows.rulesAgainSpec.pre6 enc Try.prog Try.f11 Rows.rulesAgainRow.domain false) (Rows.rulesAgainSpec.post enc Try.prog Try.f11 false true false false) := by
  refine returnsInHanded_of_change (C := Try.checked) Try.own started (by kernel_rfl) Try.func11
    (ChangeSpec.witness6 (enc := enc) (C := Try.checked) false ⟨#[], #[.slice none 0 0, .slice none 0 0], []⟩ 8 (by kernel_rfl) (by kernel_rfl) (by kernel_rfl) (by kernel_rfl)) ?_
  intro W base args ds gs before hval0 hW _ _
  have hval : ∀ (j : Nat) t v, Try.f11.params[j]? = some t → args[j]? = some v → Value.okWide Try.prog W .any base t v := hval0
  clear hval0
  obtain rfl : gs = [] := by obtain ⟨p, q, _, hV, _⟩ := hW; exact (trodVars_none hV).1
  have hW' := hW
  obtain ⟨p, q, hA0, hV, rfl, hfz, hnd⟩ := hW
  have hA : DataW.TrodAll enc Try.prog W 0 (fun _ => true) true Try.f11.params.toList args.toList ds p := hA0
  rw [Try.params11] at hA hval
  obtain ⟨v0, vs0, d0, ds0, p0, q0, hv0, hd0, hp0, h0, r0⟩ := trodAll_cons hA
  obtain ⟨v1, vs1, d1, ds1, p1, q1, hv1, hd1, hp1, h1, r1⟩ := trodAll_cons r0
  obtain ⟨hvn, hdn, hpn⟩ := trodAll_nil r1
  have ha : args = #[v0, v1] := by cases args; simp_all
  have hdd : ds = [d0, d1] := by simp_all
  rw [ha] at hval
  obtain ⟨a0, k0⟩ := rules_of_trod Try.underlying22 Try.underlying86 ⟨rfl, rfl⟩ ⟨rfl, rfl⟩ Try.underlying84 (by kernel_rfl) Try.underlying88 ⟨rfl, rfl⟩ ⟨rfl, rfl⟩ Try.underlying4 (by kernel_rfl) Try.underlying83 ⟨rfl, rfl⟩ ⟨rfl, rfl⟩ Try.underlying3 Try.underlying23 (by kernel_rfl) (by kernel_rfl) (by kernel_rfl) (by kernel_rfl) (by kernel_rfl) (okWide_slice Try.underlying22 (hval 0 22 v0 rfl rfl)) h0
  obtain ⟨a1, k1⟩ := atoms_of_trod Try.underlying39 Try.underlying50 ⟨rfl, rfl⟩ ⟨rfl, rfl⟩ Try.underlying3 Try.underlying23 (by kernel_rfl) (by kernel_rfl) (by kernel_rfl) (okWide_slice Try.underlying39 (hval 1 39 v1 rfl rfl)) h1
  have hw : Calls Try.prog 11 args W (fun e W' => e = .returned (.bool true) ∧ Below W.heap.size W W') := by
    rw [ha]; exact again_any a0 a1 v0 v1 W k0 k1
  exact hw.mono fun e W' ⟨he, hb⟩ => ⟨_, he, law_post Try.laidOut hW' rfl rfl Try.underlying4 (by rw [hdd]; rfl)
    (by kernel_rfl) hb⟩

theorem holds : Rows.RulesAgainSaid :=
  OpenClaim.holds_of_wide 11 Try.f11 rfl rfl rfl rfl rfl rfl rfl ⟨rfl, rfl, rfl, rfl, rfl⟩ rfl rfl rfl rfl rfl (by kernel_rfl) Try.func11 (by kernel_rfl)
    (of_decide_eq_true (by kernel_rfl)) (by unfold Func.isWrapper; first | (rw [if_pos (by decide +kernel)]; kernel_rfl) | (rw [if_neg (by decide +kernel)]; exact ⟨rfl, rfl⟩))
    (fun os started H enc _ => lifted os started H enc)
end rulesAgain

