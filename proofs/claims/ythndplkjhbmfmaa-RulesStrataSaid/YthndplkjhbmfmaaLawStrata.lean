/- RulesStrata: Strata and Needed return the documented results, or the documented error. For every input. -/
import Derived.Test.YthndplkjhbmfmaaRsu
import Derived.Test.YthndplkjhbmfmaaRno
import Derived.Test.YthndplkjhbmfmaaRvo
import Derived.Test.YthndplkjhbmfmaaRvl
import Derived.Test.YthndplkjhbmfmaaRaw
import Derived.Test.YthndplkjhbmfmaaFrame
import Derived.Test.YthndplkjhbmfmaaRows
namespace Go.Proofs.Ythndplkjhbmfmaa
open Go.RowKit
theorem nd_mem2 {R : Nat} {l : List RRule} {r : RRule} (h : r ∈ ndR R l) : r ∈ l := (List.mem_filter.1 h).1
theorem ndR_same {R R2 : Nat} {l : List RRule} (h : ∀ i, bitS R2 i ↔ bitS R i) : ndR R2 l = ndR R l := by
  unfold ndR
  refine List.filter_congr fun r _ => ?_
  rw [Bool.eq_iff_iff]
  exact h _
set_option maxRecDepth 100000 in
set_option maxHeartbeats 16000000 in
theorem strataL_any (l : List RRule) (q : Int) (rl : Value) (w : World) (hrl : Rules w rl l) :
    Calls Try.prog 3 #[rl, .int .i64 q] w fun e w' => e = .returned (.bool true) ∧ Below w.heap.size w w' := by
  have HR := Lib.hid hrl
  obtain ⟨a, cap, rfl⟩ := RdS.slice hrl
  obtain ⟨n, hn⟩ : ∃ x, x = l.length := ⟨_, rfl⟩
  rw [← hn] at HR ⊢
  clear hn hrl
  have HB0 := Lib.hid (Below.refl w.heap.size w)
  go_enter Try.func3, Try.ntmps3
  have HC := Lib.hid (OfL_any l _ w (HR.out.keep HB0.out))
  go_wp2_with fail
  refine HC.out.mono ?_
  clear HC
  rintro e w1 ⟨a1, n1, c1, rfl, ho1, hb1⟩
  have HB1 := Lib.hid (Below.tr HB0.out hb1)
  have HR1 := Lib.hid ho1.rules
  clear ho1
  clear hb1

  have HC := Lib.hid (Strata_any (ofRl l) _ w1 HR1.out)
  go_wp2_with fail
  refine HC.out.mono ?_
  clear HC
  rintro e w2 ⟨hS, hb2⟩
  have HB2 := Lib.hid (Below.tr HB1.out hb2)
  clear hb2

  rcases hS with ⟨hv, rfl⟩ | ⟨hv, hns0, rfl⟩ | ⟨hv, a2, c2, L, rfl, ho2, hst⟩
  · have HV := Lib.hid hv
    clear hv
    have HC := Lib.hid (OfL_any l _ w2 (HR.out.keep HB2.out))
    go_wp2_with fail
    refine HC.out.mono ?_
    clear HC
    rintro e w3 ⟨a3, n3, c3, rfl, ho3, hb3⟩
    have HB3 := Lib.hid (Below.tr HB2.out hb3)
    have HR3 := Lib.hid ho3.rules
    clear ho3
    clear hb3
    have HC := Lib.hid (Needed_any (ofRl l) q _ w3 HR3.out)
    go_wp2_with fail
    refine HC.out.mono ?_
    clear HC
    rintro e w4 ⟨hN, hb4⟩
    have HB4 := Lib.hid (Below.tr HB3.out hb4)
    clear hb4
    rcases hN with ⟨hN, rfl⟩ | ⟨hN, R, s1, s2, s3, hns, rfl, ho⟩
    · have HC := Lib.hid (ValidR_any l [] _ (.slice none 0 0) w4 (HR.out.keep HB4.out) (atoms_nil _) false ⟨fun h => (by cases h), fun h => absurd (ofR_val.2 h) HV.out⟩)
      go_wp2_with fail
      refine HC.out.mono ?_
      clear HC
      rintro e w5 ⟨rfl, hb5⟩
      have HB5 := Lib.hid (Below.tr HB4.out hb5)
      clear hb5
      go_wp2_with fail
      refine (awake_any _).mono ?_
      rintro e wA ⟨rfl, hbA⟩
      have HBA := Lib.hid (Below.tr HB5.out hbA)
      clear hbA
      go_wp2_with fail
      go_ret
      exact ⟨rfl, HBA.out⟩
    · exact absurd hN.1 HV.out
  · have HV := Lib.hid hv
    have HNS := Lib.hid (show NoStr l from by rw [← ofRl_back hv]; exact hns0)
    clear hv hns0
    have HC := Lib.hid (OfL_any l _ w2 (HR.out.keep HB2.out))
    go_wp2_with fail
    refine HC.out.mono ?_
    clear HC
    rintro e w3 ⟨a3, n3, c3, rfl, ho3, hb3⟩
    have HB3 := Lib.hid (Below.tr HB2.out hb3)
    have HR3 := Lib.hid ho3.rules
    clear ho3
    clear hb3
    have HC := Lib.hid (Needed_any (ofRl l) q _ w3 HR3.out)
    go_wp2_with fail
    refine HC.out.mono ?_
    clear HC
    rintro e w4 ⟨hN, hb4⟩
    have HB4 := Lib.hid (Below.tr HB3.out hb4)
    clear hb4
    rcases hN with ⟨hN, rfl⟩ | ⟨hN, R, s1, s2, s3, hns, rfl, ho⟩
    · have HNo := Lib.hid (show ¬ (0 ≤ q ∧ q ≤ 5) from fun h => hN ⟨HV.out, h⟩)
      clear hN
      have HC := Lib.hid (ValidR_any l [] _ (.slice none 0 0) w4 (HR.out.keep HB4.out) (atoms_nil _) true ⟨fun _ => ofR_val.1 HV.out, fun _ => rfl⟩)
      go_wp2_with fail
      refine HC.out.mono ?_
      clear HC
      rintro e w5 ⟨rfl, hb5⟩
      have HB5 := Lib.hid (Below.tr HB4.out hb5)
      clear hb5
      have HC := Lib.hid (StrataR_any l (ofR_val.1 HV.out) _ w5 (HR.out.keep HB5.out))
      go_wp2_with fail
      refine HC.out.mono ?_
      clear HC
      rintro e w6 ⟨hm, hb6⟩
      have HB6 := Lib.hid (Below.tr HB5.out hb6)
      clear hb6
      rcases hm with ⟨_, rfl⟩ | ⟨b1, b2, L2, rfl, _, h⟩
      rotate_left
      · exact (str_no h HNS.out).elim
      have HC := Lib.hid (equal_any [] [] (.slice none 0 0) (.slice none 0 0) w6 (ints_nil w6) (ints_nil w6))
      rw [decide_eq_true (rfl : ([] : List Int) = [])] at HC
      go_wp2_with fail
      refine HC.out.mono ?_
      clear HC
      rintro e w7 ⟨rfl, m, hm⟩
      have hb7 := drewW hm
      clear hm
      have HB7 := Lib.hid (Below.tr HB6.out hb7)
      clear hb7
      have hq : q < 0 ∨ 5 < q := by
        have := HNo.out
        omega
      by_cases c : q < 0
      · clear hq
        go_wp2_with fail
        refine (awake_any _).mono ?_
        rintro e wA ⟨rfl, hbA⟩
        have HBA := Lib.hid (Below.tr HB7.out hbA)
        clear hbA
        go_wp2_with fail
        go_ret
        exact ⟨rfl, HBA.out⟩
      · have c5 : 5 < q := by omega
        clear hq
        go_wp2_with fail
        refine (awake_any _).mono ?_
        rintro e wA ⟨rfl, hbA⟩
        have HBA := Lib.hid (Below.tr HB7.out hbA)
        clear hbA
        go_wp2_with fail
        go_ret
        exact ⟨rfl, HBA.out⟩
    · have HNk := Lib.hid hN.2
      have HNs := Lib.hid hns
      have HO4 := Lib.hid ho
      have H4 := Lib.hid (Below.refl w4.heap.size w4)
      clear hN hns ho
      have HC := Lib.hid (ValidR_any l [] _ (.slice none 0 0) w4 (HR.out.keep HB4.out) (atoms_nil _) true ⟨fun _ => ofR_val.1 HV.out, fun _ => rfl⟩)
      go_wp2_with fail
      refine HC.out.mono ?_
      clear HC
      rintro e w5 ⟨rfl, hb5⟩
      have HB5 := Lib.hid (Below.tr HB4.out hb5)
      have Hb45 := Lib.hid hb5
      clear hb5
      have HC := Lib.hid (StrataR_any l (ofR_val.1 HV.out) _ w5 (HR.out.keep HB5.out))
      go_wp2_with fail
      refine HC.out.mono ?_
      clear HC
      rintro e w6 ⟨hm, hb6⟩
      have HB6 := Lib.hid (Below.tr HB5.out hb6)
      have Hb46 := Lib.hid (Below.tr Hb45.out hb6)
      clear hb6
      rcases hm with ⟨_, rfl⟩ | ⟨b1, b2, L2, rfl, _, h⟩
      rotate_left
      · exact (str_no h HNS.out).elim
      have HC := Lib.hid (equal_any [] [] (.slice none 0 0) (.slice none 0 0) w6 (ints_nil w6) (ints_nil w6))
      rw [decide_eq_true (rfl : ([] : List Int) = [])] at HC
      go_wp2_with fail
      refine HC.out.mono ?_
      clear HC
      rintro e w7 ⟨rfl, m, hm⟩
      have hb7 := drewW hm
      clear hm
      have HB7 := Lib.hid (Below.tr HB6.out hb7)
      have Hb47 := Lib.hid (Below.tr Hb46.out hb7)
      clear hb7
      have c0 : ¬ q < 0 := by have := HNk.out; omega
      have c5 : ¬ 5 < q := by have := HNk.out; omega
      have HC := Lib.hid (own_any (ndR R (ofRl l)) (by have h1 := HV.out.l10; have h2 : (ndR R (ofRl l)).length ≤ (ofRl l).length := List.length_filter_le _ _; omega) (fun r hr => by have := HV.out.b3 r (nd_mem2 hr); omega) _ w7 (HO4.out.rules.keep Hb47.out))
      go_wp2_with fail
      refine HC.out.mono ?_
      clear HC
      rintro e w8 ⟨x1, x2, x3, rfl, hw8, hb8⟩
      have HB8 := Lib.hid (Below.tr HB7.out hb8)
      have HW8 := Lib.hid hw8
      clear hw8
      clear hb8
      obtain ⟨qn, rfl⟩ : ∃ x : Nat, q = x := ⟨q.toNat, by omega⟩
      have HC := Lib.hid (NeedR_any l (ofR_val.1 HV.out) qn (by omega) _ w8 (HR.out.keep HB8.out))
      go_wp2_with fail
      refine HC.out.mono ?_
      clear HC
      rintro e w9 ⟨R2, y1, y2, y3, rfl, hn2, hw9, hb9⟩
      have HB9 := Lib.hid (Below.tr HB8.out hb9)
      have HEq := Lib.hid (show ndR R2 l = ndR R (ofRl l) from by
        rw [ofRl_back HV.out]
        have h1 := HNs.out
        rw [ofRl_back HV.out, Int.toNat_natCast] at h1
        exact ndR_same fun i => hn2.unique h1 i)
      have HW9 := Lib.hid (show Rules w9 (.slice y1 y2 y3) (ndR R (ofRl l)) from by rw [← HEq.out]; exact hw9)
      have HW8b := Lib.hid (HW8.out.keep hb9)
      clear hw9 hn2
      clear hb9
      have HC := Lib.hid (sameR_any (ndR R (ofRl l)) _ _ w9 HW8b.out HW9.out)
      go_wp2_with fail
      refine HC.out.mono ?_
      clear HC
      rintro e wB ⟨rfl, hbB⟩
      have HBB := Lib.hid (Below.tr HB9.out hbB)
      clear hbB
      go_wp2_with fail
      refine (awake_any _).mono ?_
      rintro e wA ⟨rfl, hbA⟩
      have HBA := Lib.hid (Below.tr HBB.out hbA)
      clear hbA
      go_wp2_with fail
      go_ret
      exact ⟨rfl, HBA.out⟩
  · have HV := Lib.hid hv
    have HSt := Lib.hid (show Str l L from by rw [← ofRl_back hv]; exact hst)
    have HI2 := Lib.hid ho2.ints
    have hl6 := hst.sv.len
    clear hv hst ho2
    have HC := Lib.hid (OfL_any l _ w2 (HR.out.keep HB2.out))
    go_wp2_with fail
    refine HC.out.mono ?_
    clear HC
    rintro e w3 ⟨a3, n3, c3, rfl, ho3, hb3⟩
    have HB3 := Lib.hid (Below.tr HB2.out hb3)
    have HR3 := Lib.hid ho3.rules
    clear ho3
    have HI3 := Lib.hid (HI2.out.keep hb3)
    clear hb3
    have HC := Lib.hid (Needed_any (ofRl l) q _ w3 HR3.out)
    go_wp2_with fail
    refine HC.out.mono ?_
    clear HC
    rintro e w4 ⟨hN, hb4⟩
    have HB4 := Lib.hid (Below.tr HB3.out hb4)
    have HI4 := Lib.hid (HI3.out.keep hb4)
    clear hb4
    rcases hN with ⟨hN, rfl⟩ | ⟨hN, R, s1, s2, s3, hns, rfl, ho⟩
    · have HNo := Lib.hid (show ¬ (0 ≤ q ∧ q ≤ 5) from fun h => hN ⟨HV.out, h⟩)
      clear hN
      have HC := Lib.hid (ValidR_any l [] _ (.slice none 0 0) w4 (HR.out.keep HB4.out) (atoms_nil _) true ⟨fun _ => ofR_val.1 HV.out, fun _ => rfl⟩)
      go_wp2_with fail
      refine HC.out.mono ?_
      clear HC
      rintro e w5 ⟨rfl, hb5⟩
      have HB5 := Lib.hid (Below.tr HB4.out hb5)
      have HI5 := Lib.hid (HI4.out.keep hb5)
      clear hb5
      have HC := Lib.hid (StrataR_any l (ofR_val.1 HV.out) _ w5 (HR.out.keep HB5.out))
      go_wp2_with fail
      refine HC.out.mono ?_
      clear HC
      rintro e w6 ⟨hm, hb6⟩
      have HB6 := Lib.hid (Below.tr HB5.out hb6)
      have HI6 := Lib.hid (HI5.out.keep hb6)
      clear hb6
      rcases hm with ⟨h, rfl⟩ | ⟨b1, b2, L2, rfl, ho6, h⟩
      · exact (str_no HSt.out h).elim
      obtain rfl := str_unique HSt.out h
      have HC := Lib.hid (equal_any L L _ _ w6 HI6.out ho6.ints)
      rw [decide_eq_true (rfl : L = L)] at HC
      clear ho6 h
      go_wp2_with fail
      refine HC.out.mono ?_
      clear HC
      rintro e w7 ⟨rfl, m, hm⟩
      have hb7 := drewW hm
      clear hm
      have HB7 := Lib.hid (Below.tr HB6.out hb7)
      clear hb7
      have hq : q < 0 ∨ 5 < q := by
        have := HNo.out
        omega
      by_cases c : q < 0
      · clear hq
        go_wp2_with fail
        refine (awake_any _).mono ?_
        rintro e wA ⟨rfl, hbA⟩
        have HBA := Lib.hid (Below.tr HB7.out hbA)
        clear hbA
        go_wp2_with fail
        go_ret
        exact ⟨rfl, HBA.out⟩
      · have c5 : 5 < q := by omega
        clear hq
        go_wp2_with fail
        refine (awake_any _).mono ?_
        rintro e wA ⟨rfl, hbA⟩
        have HBA := Lib.hid (Below.tr HB7.out hbA)
        clear hbA
        go_wp2_with fail
        go_ret
        exact ⟨rfl, HBA.out⟩
    · have HNk := Lib.hid hN.2
      have HNs := Lib.hid hns
      have HO4 := Lib.hid ho
      have H4 := Lib.hid (Below.refl w4.heap.size w4)
      clear hN hns ho
      have HC := Lib.hid (ValidR_any l [] _ (.slice none 0 0) w4 (HR.out.keep HB4.out) (atoms_nil _) true ⟨fun _ => ofR_val.1 HV.out, fun _ => rfl⟩)
      go_wp2_with fail
      refine HC.out.mono ?_
      clear HC
      rintro e w5 ⟨rfl, hb5⟩
      have HB5 := Lib.hid (Below.tr HB4.out hb5)
      have HI5 := Lib.hid (HI4.out.keep hb5)
      have Hb45 := Lib.hid hb5
      clear hb5
      have HC := Lib.hid (StrataR_any l (ofR_val.1 HV.out) _ w5 (HR.out.keep HB5.out))
      go_wp2_with fail
      refine HC.out.mono ?_
      clear HC
      rintro e w6 ⟨hm, hb6⟩
      have HB6 := Lib.hid (Below.tr HB5.out hb6)
      have HI6 := Lib.hid (HI5.out.keep hb6)
      have Hb46 := Lib.hid (Below.tr Hb45.out hb6)
      clear hb6
      rcases hm with ⟨h, rfl⟩ | ⟨b1, b2, L2, rfl, ho6, h⟩
      · exact (str_no HSt.out h).elim
      obtain rfl := str_unique HSt.out h
      have HC := Lib.hid (equal_any L L _ _ w6 HI6.out ho6.ints)
      rw [decide_eq_true (rfl : L = L)] at HC
      clear ho6 h
      go_wp2_with fail
      refine HC.out.mono ?_
      clear HC
      rintro e w7 ⟨rfl, m, hm⟩
      have hb7 := drewW hm
      clear hm
      have HB7 := Lib.hid (Below.tr HB6.out hb7)
      have Hb47 := Lib.hid (Below.tr Hb46.out hb7)
      clear hb7
      have c0 : ¬ q < 0 := by have := HNk.out; omega
      have c5 : ¬ 5 < q := by have := HNk.out; omega
      have HC := Lib.hid (own_any (ndR R (ofRl l)) (by have h1 := HV.out.l10; have h2 : (ndR R (ofRl l)).length ≤ (ofRl l).length := List.length_filter_le _ _; omega) (fun r hr => by have := HV.out.b3 r (nd_mem2 hr); omega) _ w7 (HO4.out.rules.keep Hb47.out))
      go_wp2_with fail
      refine HC.out.mono ?_
      clear HC
      rintro e w8 ⟨x1, x2, x3, rfl, hw8, hb8⟩
      have HB8 := Lib.hid (Below.tr HB7.out hb8)
      have HW8 := Lib.hid hw8
      clear hw8
      clear hb8
      obtain ⟨qn, rfl⟩ : ∃ x : Nat, q = x := ⟨q.toNat, by omega⟩
      have HC := Lib.hid (NeedR_any l (ofR_val.1 HV.out) qn (by omega) _ w8 (HR.out.keep HB8.out))
      go_wp2_with fail
      refine HC.out.mono ?_
      clear HC
      rintro e w9 ⟨R2, y1, y2, y3, rfl, hn2, hw9, hb9⟩
      have HB9 := Lib.hid (Below.tr HB8.out hb9)
      have HEq := Lib.hid (show ndR R2 l = ndR R (ofRl l) from by
        rw [ofRl_back HV.out]
        have h1 := HNs.out
        rw [ofRl_back HV.out, Int.toNat_natCast] at h1
        exact ndR_same fun i => hn2.unique h1 i)
      have HW9 := Lib.hid (show Rules w9 (.slice y1 y2 y3) (ndR R (ofRl l)) from by rw [← HEq.out]; exact hw9)
      have HW8b := Lib.hid (HW8.out.keep hb9)
      clear hw9 hn2
      clear hb9
      have HC := Lib.hid (sameR_any (ndR R (ofRl l)) _ _ w9 HW8b.out HW9.out)
      go_wp2_with fail
      refine HC.out.mono ?_
      clear HC
      rintro e wB ⟨rfl, hbB⟩
      have HBB := Lib.hid (Below.tr HB9.out hbB)
      clear hbB
      go_wp2_with fail
      refine (awake_any _).mono ?_
      rintro e wA ⟨rfl, hbA⟩
      have HBA := Lib.hid (Below.tr HBB.out hbA)
      clear hbA
      go_wp2_with fail
      go_ret
      exact ⟨rfl, HBA.out⟩

#print axioms strataL_any
namespace rulesStrata
open Go.ChangeShapes Go.WideShapes Go.ChangeAt
set_option maxRecDepth 100000 in
theorem lifted (os : Os) (started : os.Started) (H : Type) (enc : TypeId × Value → H) :
    ReturnsInHanded {} Try.checked os 3 .any (Rows.rulesStrataSpec.pre6 enc Try.prog Try.f3 Rows.rulesStrataRow.domain false) (Rows.rulesStrataSpec.post enc Try.prog Try.f3 false true false false) := by
  refine returnsInHanded_of_change (C := Try.checked) Try.own started (by kernel_rfl) Try.func3
    (ChangeSpec.witness6 (enc := enc) (C := Try.checked) false ⟨#[], #[.slice none 0 0, .int .i64 0], []⟩ 8 (by kernel_rfl) (by kernel_rfl) (by kernel_rfl) (by kernel_rfl)) ?_
  intro W base args ds gs before hval0 hW _ _
  have hval : ∀ (j : Nat) t v, Try.f3.params[j]? = some t → args[j]? = some v → Value.okWide Try.prog W .any base t v := hval0
  clear hval0
  obtain rfl : gs = [] := by obtain ⟨p, q, _, hV, _⟩ := hW; exact (trodVars_none hV).1
  have hW' := hW
  obtain ⟨p, q, hA0, hV, rfl, hfz, hnd⟩ := hW
  have hA : DataW.TrodAll enc Try.prog W 0 (fun _ => true) true Try.f3.params.toList args.toList ds p := hA0
  rw [Try.params3] at hA hval
  obtain ⟨v0, vs0, d0, ds0, p0, q0, hv0, hd0, hp0, h0, r0⟩ := trodAll_cons hA
  obtain ⟨v1, vs1, d1, ds1, p1, q1, hv1, hd1, hp1, h1, r1⟩ := trodAll_cons r0
  obtain ⟨hvn, hdn, hpn⟩ := trodAll_nil r1
  have ha : args = #[v0, v1] := by cases args; simp_all
  have hdd : ds = [d0, d1] := by simp_all
  rw [ha] at hval
  obtain ⟨a0, k0⟩ := rules_of_trod Try.underlying22 Try.underlying86 ⟨rfl, rfl⟩ ⟨rfl, rfl⟩ Try.underlying84 (by kernel_rfl) Try.underlying88 ⟨rfl, rfl⟩ ⟨rfl, rfl⟩ Try.underlying4 (by kernel_rfl) Try.underlying83 ⟨rfl, rfl⟩ ⟨rfl, rfl⟩ Try.underlying3 Try.underlying23 (by kernel_rfl) (by kernel_rfl) (by kernel_rfl) (by kernel_rfl) (by kernel_rfl) (okWide_slice Try.underlying22 (hval 0 22 v0 rfl rfl)) h0
  obtain ⟨a1, e1, -, -, wf1⟩ := open_int Try.underlying3 (hval 1 3 v1 rfl rfl) h1
  have hw : Calls Try.prog 3 args W (fun e W' => e = .returned (.bool true) ∧ Below W.heap.size W W') := by
    rw [ha, e1]; exact strataL_any a0 a1 v0 W k0
  exact hw.mono fun e W' ⟨he, hb⟩ => ⟨_, he, law_post Try.laidOut hW' rfl rfl Try.underlying4 (by rw [hdd]; rfl)
    (by kernel_rfl) hb⟩

theorem holds : Rows.RulesStrataSaid :=
  OpenClaim.holds_of_wide 3 Try.f3 rfl rfl rfl rfl rfl rfl rfl ⟨rfl, rfl, rfl, rfl, rfl⟩ rfl rfl rfl rfl rfl (by kernel_rfl) Try.func3 (by kernel_rfl)
    (of_decide_eq_true (by kernel_rfl)) (by unfold Func.isWrapper; first | (rw [if_pos (by decide +kernel)]; kernel_rfl) | (rw [if_neg (by decide +kernel)]; exact ⟨rfl, rfl⟩))
    (fun os started H enc _ => lifted os started H enc)
end rulesStrata

end Go.Proofs.Ythndplkjhbmfmaa
