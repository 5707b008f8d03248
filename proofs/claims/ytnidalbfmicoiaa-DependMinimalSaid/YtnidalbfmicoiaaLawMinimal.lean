/- DependMinimal: for every input the law returns true. -/
import Derived.Test.YtnidalbfmicoiaaMathKeys
import Derived.Test.YtnidalbfmicoiaaFrame
import Derived.Test.YtnidalbfmicoiaaFacts
import Derived.Test.YtnidalbfmicoiaaRows
namespace Go.Proofs.Ytnidalbfmicoiaa
open Go.RowKit

theorem mod_nat (x : Int) (F : Nat) (h : 1 ≤ F) : ∃ t : Nat, (IntKind.u64.wrap x).tmod F = t ∧ t < F := by
  rw [IntKind.wrap_u64]
  have h1 : 0 ≤ x % 18446744073709551616 := Int.emod_nonneg _ (by omega)
  rw [Int.tmod_eq_emod_of_nonneg h1]
  have h2 : 0 ≤ x % 18446744073709551616 % (F : Int) := Int.emod_nonneg _ (by omega)
  have h3 : x % 18446744073709551616 % (F : Int) < F := Int.emod_lt_of_pos _ (by omega)
  exact ⟨(x % 18446744073709551616 % (F : Int)).toNat, by omega, by omega⟩
theorem hasSub_take (t : Nat) (K : List Nat) (k : Nat) (h : k < K.length) : decide (HasSub t (K.take (k + 1))) = (decide (HasSub t (K.take k)) || decide (Sub K[k] t)) := by
  rw [Bool.eq_iff_iff, decide_eq_true_iff, Bool.or_eq_true, decide_eq_true_iff, decide_eq_true_iff]
  unfold HasSub
  simp only [List.take_succ_eq_append_getElem h, List.mem_append, List.mem_singleton]
  constructor
  · rintro ⟨p, hp | rfl, hs⟩
    · exact .inl ⟨p, hp, hs⟩
    · exact .inr hs
  · rintro (⟨p, hp, hs⟩ | hs)
    · exact ⟨p, .inl hp, hs⟩
    · exact ⟨_, .inr rfl, hs⟩
set_option maxRecDepth 100000 in
theorem minimal_yes {m F : Nat} {l' : List DepN} (hok : Okl m l') (hF : F = 2 ^ m) (x : Int) (l : List (Int × Int)) (hl : l.take 14 = castD l') (v : Value) (w : World) (hv : Deps w v l) :
    Calls Try.prog 17 #[.int .i64 m, v, .int .i64 x] w fun e w' => e = .returned (.bool true) ∧ Below w.heap.size w w' := by
  have Hv := Lib.hid hv
  have Hl := Lib.hid hl
  clear hv hl
  have hdeps : ∀ (w1 : World), Below w.heap.size w w1 → Calls Try.prog 22 #[v] w1 fun e w' => ∃ v', e = .returned v' ∧ Deps w' v' (castD l') ∧ Below w1.heap.size w1 w' := fun w1 hb => by
    rw [← Hl.out]; exact deps_any l v w1 (Deps.keep Hv.out hb)
  have Hdeps := Lib.hid hdeps
  obtain ⟨p1, p2⟩ := hok.pow
  rw [← hF] at p1 p2
  have HF := Lib.hid hF
  have h8 := hok.h8
  have h1 := hok.h1
  have e2 : (2 : Int) ^ m = (F : Int) := by rw [hF]; simp
  obtain ⟨t, e3, htF⟩ := mod_nat x F p2
  have Hfull := Lib.hid (full_iff (l := l') (F := F) (s := t) hok hF htF)
  have e4 : (((F - 1 : Nat) : Int) != (F : Int) - 1) = false := by simp; omega
  have e5 : (((cl l' t : Nat) : Int) == (F : Int) - 1) = decide (cl l' t = F - 1) := by rw [Bool.eq_iff_iff]; simp; omega
  obtain ⟨K, hK⟩ : ∃ K, K = keysTo l' (F - 1) F := ⟨_, rfl⟩
  have HKlt := Lib.hid (show ∀ y ∈ K, y < F by rw [hK]; exact keysTo_lt l' (F - 1) F)
  have HKlen := Lib.hid (show K.length ≤ F by rw [hK]; exact keysTo_length l' (F - 1) F)
  have HKcl := Lib.hid (show ∀ (i : Nat) (h : i < K.length), cl l' K[i] = F - 1 by subst hK; exact fun i h => (mem_keysTo (List.getElem_mem h)).1)
  have HKap := Lib.hid (show ∀ (i j : Nat) (h : i < K.length) (hj : j < i), ¬ Sub K[i] K[j] ∧ ¬ Sub K[j] K[i] by subst hK; exact fun i j h hj => keys_apart h hj)
  have hkeys := fun v1 w1 h => keys_F hok hF v1 w1 h
  rw [← hK] at hkeys Hfull
  have Hkeys := Lib.hid hkeys
  clear hdeps Hl hF hkeys hK
  go_enter Try.func17, Try.ntmps17
  go_wp2_with fail
  refine (Hdeps.out _ (Below.refl _ _)).mono ?_
  rintro e w1 ⟨v1, rfl, hd1, hb1⟩
  have Hb1 := Lib.hid (Below.tr (Below.refl _ _) hb1)
  have Hd1 := Lib.hid hd1
  clear hb1 hd1
  go_wp2_with fail
  refine (Hkeys.out _ _ Hd1.out).mono ?_
  rintro e w2 ⟨ks, rfl, hks, hb2⟩
  have Hb2 := Lib.hid (Below.tr Hb1.out hb2)
  obtain ⟨a, b, off, cap, rfl, hle, ha, hc⟩ := Ints.get hks
  have hcap := hks.cap
  have e0 : (castN K).length = K.length := by simp [castN]
  rw [e0] at hle ha hcap
  have hc' : ∀ i (h : i < K.length), w2.cell? ⟨b, off + i, none⟩ = some (.int .i64 ((K[i] : Nat) : Int)) := fun i hi => by
    have := hc i (by omega); simpa [castN] using this
  have hix := run_ix (P := Try.prog) (t := 56) (a := a) (len := K.length) (cap := cap) (b := b) (off := off) (s := 1) Try.underlying56 (by intro w; kernel_rfl) ha
  simp only [Nat.mul_one] at hix
  have hsl := run_to (P := Try.prog) (t := 56) (a := a) (len := K.length) (cap := cap) (s := 1) Try.underlying56 (by intro w; kernel_rfl) hcap
  have Ha := Lib.hid ha
  have Hcap := Lib.hid hcap
  have Hc := Lib.hid hc'
  rw [e0]
  clear hb2 hks ha hc hc' hcap e0
  go_wp2_with fail
  refine (Hdeps.out _ Hb2.out).mono ?_
  rintro e w3 ⟨v3, rfl, hd3, hb3⟩
  have Hb3 := Lib.hid hb3
  have Hd3 := Lib.hid hd3
  clear hb3 hd3
  go_wp2_with fail
  refine (closure_nat hok (by have := HF.out; omega) _ _ Hd3.out).mono ?_
  rintro e w4 ⟨rfl, hb4⟩
  have Hb4 := Lib.hid (Below.tr Hb3.out hb4)
  clear hb4
  go_wp2_with fail
  go_loopw [10, 56] (fun s i wr => ∃ k : Nat, i = .int .i64 k ∧ s = .bool (decide (HasSub t (K.take k))) ∧ k ≤ K.length ∧ Below w4.heap.size w4 wr) (fun _ i _ => K.length - (intOf i).toNat)
  case atStart => exact ⟨0, rfl, rfl, Nat.zero_le _, Below.refl _ _⟩
  case round =>
    obtain ⟨k, rfl, rfl, hk, hb⟩ := hrel
    have Hb := Lib.hid hb
    clear hb
    by_cases hlt : k < K.length
    · have hc1 := Below.keep (Below.tr Hb4.out Hb.out) (Hc.out k hlt)
      have hkF := HKlt.out _ (List.getElem_mem hlt)
      have Hstep := Lib.hid (hasSub_take t K k hlt)
      have t0 := test_sub K[k] t (by omega) (by omega)
      go_wp2_with fail
      refine (Hdeps.out _ (Below.tr Hb2.out (Below.tr Hb4.out Hb.out))).mono ?_
      rintro e w5 ⟨v5, rfl, hd5, hb5⟩
      have Hb5 := Lib.hid (Below.tr Hb.out hb5)
      have Hd5 := Lib.hid hd5
      clear hb5 hd5 hc1
      go_wp2_with fail
      refine (closure_nat hok (by have := HF.out; omega) _ _ Hd5.out).mono ?_
      rintro e w6 ⟨rfl, hb6⟩
      have Hb6 := Lib.hid (Below.tr Hb5.out hb6)
      clear hb6
      rw [HKcl.out k hlt]
      go_wp2_with fail
      obtain ⟨wo, rfl⟩ : ∃ wo : World, wo = wr := ⟨_, rfl⟩
      have hix2 := run_ix (P := Try.prog) (t := 56) (a := a) (len := k) (cap := cap) (b := b) (off := off) (s := 1) Try.underlying56 (by intro w; kernel_rfl) (fun h => Ha.out (by omega))
      simp only [Nat.mul_one] at hix2
      go_loop [82] (fun i => ∃ j : Nat, i = .int .i64 j ∧ j ≤ k) (fun i => k - (intOf i).toNat)
      case atStart => exact ⟨0, rfl, Nat.zero_le _⟩
      case round =>
        obtain ⟨j, rfl, hj⟩ := hrel
        by_cases hlt2 : j < k
        · have hc2 := Below.keep (Below.tr Hb4.out Hb6.out) (Hc.out j (by omega))
          have hjF := HKlt.out _ (List.getElem_mem (l := K) (n := j) (by omega))
          have t1 : (bits .andNot .i64 (K[k] : Int) (K[j] : Int) == 0) = false := by rw [test_sub _ _ (by omega) (by omega)]; exact decide_eq_false (HKap.out k j hlt hlt2).1
          have t2 : (bits .andNot .i64 (K[j] : Int) (K[k] : Int) == 0) = false := by rw [test_sub _ _ (by omega) (by omega)]; exact decide_eq_false (HKap.out k j hlt hlt2).2
          go_wp2_with fail
          go_round
          case rel => exact ⟨j + 1, by go_num, by omega⟩
          case measure => simp [intOf]; omega
        · obtain rfl : j = k := by omega
          go_wp2_with fail
          · have hn : HasSub t (K.take j) := by assumption
            have R : Value.bool true = Value.bool (decide (HasSub t (K.take (j + 1)))) := by rw [Hstep.out, decide_eq_true hn, Bool.true_or]
            have HR := Lib.hid R
            clear R
            go_roundw
            case rel => exact ⟨j + 1, by go_num, HR.out, by omega, Hb6.out⟩
            case measure => simp [intOf]; omega
          · have hn : ¬ HasSub t (K.take j) := by assumption
            have R : Value.bool (decide (Sub K[j] t)) = Value.bool (decide (HasSub t (K.take (j + 1)))) := by rw [Hstep.out, decide_eq_false hn, Bool.false_or]
            have HR := Lib.hid R
            clear R
            go_roundw
            case rel => exact ⟨j + 1, by go_num, HR.out, by omega, Hb6.out⟩
            case measure => simp [intOf]; omega
    · obtain rfl : k = K.length := by omega
      have e7 : decide (HasSub t (K.take K.length)) = decide (cl l' t = F - 1) := by
        rw [List.take_length, Bool.eq_iff_iff, decide_eq_true_iff, decide_eq_true_iff]; exact Hfull.out
      go_wp2_with fail
      refine (awake_any _).mono ?_
      rintro e w5 ⟨rfl, hb5⟩
      have Hb5 := Lib.hid (Below.tr Hb2.out (Below.tr (Below.tr Hb4.out Hb.out) hb5))
      clear hb5
      go_wp2_with fail
      go_ret
      exact ⟨rfl, Hb5.out⟩

set_option maxRecDepth 100000 in
theorem minimal_no (n x : Int) (l : List (Int × Int)) (v : Value) (w : World) (hv : Deps w v l) (hno : ∀ s, ¬ ValidP n (l.take 14) s) :
    Calls Try.prog 17 #[.int .i64 n, v, .int .i64 x] w fun e w' => e = .returned (.bool true) ∧ Below w.heap.size w w' := by
  have Hv := Lib.hid hv
  have Hno := Lib.hid hno
  clear hv hno
  go_enter Try.func17, Try.ntmps17
  go_wp2_with fail
  refine (deps_any l _ _ (Deps.keep Hv.out (Below.refl _ _))).mono ?_
  rintro e w1 ⟨v1, rfl, hd1, hb1⟩
  have Hb1 := Lib.hid (Below.tr (Below.refl _ _) hb1)
  have Hd1 := Lib.hid hd1
  clear hb1 hd1
  go_wp2_with fail
  refine (keys_bad n _ _ _ Hd1.out (Hno.out _)).mono ?_
  rintro e w2 ⟨rfl, hb2⟩
  have Hb2 := Lib.hid (Below.tr Hb1.out hb2)
  clear hb2 
  go_wp2_with fail
  refine (awake_any _).mono ?_
  rintro e w3 ⟨rfl, hb3⟩
  have Hb3 := Lib.hid (Below.tr Hb2.out hb3)
  clear hb3 
  go_wp2_with fail
  go_ret
  exact ⟨rfl, Hb3.out⟩

theorem minimal_any (n x : Int) (l : List (Int × Int)) (v : Value) (w : World) (hv : Deps w v l) :
    Calls Try.prog 17 #[.int .i64 n, v, .int .i64 x] w fun e w' => e = .returned (.bool true) ∧ Below w.heap.size w w' := by
  rcases deps_cases n (l.take 14) with h | ⟨m, l', rfl, h, hok⟩
  · exact minimal_no n x l v w hv h
  · exact minimal_yes hok rfl x l h v w hv

namespace dependMinimal
open Go.ChangeShapes Go.WideShapes Go.ChangeAt
set_option maxRecDepth 100000 in
theorem lifted (os : Os) (started : os.Started) (H : Type) (enc : TypeId × Value → H) :
    ReturnsInHanded {} Try.checked os 17 .any (Rows.dependMinimalSpec.pre6 enc Try.prog Try.f17 Rows.dependMinimalRow.domain false) (Rows.dependMinimalSpec.post enc Try.prog Try.f17 false true false false) := by
  refine returnsInHanded_of_change (C := Try.checked) Try.own started (by kernel_rfl) Try.func17
    (ChangeSpec.witness6 (enc := enc) (C := Try.checked) false ⟨#[], #[.int .i64 0, .slice none 0 0, .int .i64 0], []⟩ 8 (by kernel_rfl) (by kernel_rfl) (by kernel_rfl) (by kernel_rfl)) ?_
  intro W base args ds gs before hval0 hW _ _
  have hval : ∀ (j : Nat) t v, Try.f17.params[j]? = some t → args[j]? = some v → Value.okWide Try.prog W .any base t v := hval0
  clear hval0
  obtain rfl : gs = [] := by obtain ⟨p, q, _, hV, _⟩ := hW; exact (trodVars_none hV).1
  have hW' := hW
  obtain ⟨p, q, hA0, hV, rfl, hfz, hnd⟩ := hW
  have hA : DataW.TrodAll enc Try.prog W 0 (fun _ => true) true Try.f17.params.toList args.toList ds p := hA0
  rw [Try.params17] at hA hval
  obtain ⟨v0, vs0, d0, ds0, p0, q0, hv0, hd0, hp0, h0, r0⟩ := trodAll_cons hA
  obtain ⟨v1, vs1, d1, ds1, p1, q1, hv1, hd1, hp1, h1, r1⟩ := trodAll_cons r0
  obtain ⟨v2, vs2, d2, ds2, p2, q2, hv2, hd2, hp2, h2, r2⟩ := trodAll_cons r1
  obtain ⟨hvn, hdn, hpn⟩ := trodAll_nil r2
  have ha : args = #[v0, v1, v2] := by cases args; simp_all
  have hdd : ds = [d0, d1, d2] := by simp_all
  rw [ha] at hval
  obtain ⟨a0, e0, -, -, w0⟩ := open_int Try.underlying3 (hval 0 3 v0 rfl rfl) h0
  obtain ⟨a1, k1⟩ := deps_of_trod Try.underlying22 Try.underlying24 ⟨rfl, rfl⟩ ⟨rfl, rfl⟩ Try.underlying3 Try.cells3 Try.cells24 (okWide_slice Try.underlying22 (hval 1 22 v1 rfl rfl)) h1
  obtain ⟨a2, e2, -, -, w2⟩ := open_int Try.underlying3 (hval 2 3 v2 rfl rfl) h2
  have hw : Calls Try.prog 17 args W (fun e W' => e = .returned (.bool true) ∧ Below W.heap.size W W') := by
    rw [ha, e0, e2]; exact minimal_any a0 a2 a1 v1 W k1
  exact hw.mono fun e W' ⟨he, hb⟩ => ⟨_, he, law_post Try.laidOut hW' rfl rfl Try.underlying4 (by rw [hdd]; rfl)
    (by kernel_rfl) hb⟩

theorem holds : Rows.DependMinimalSaid :=
  OpenClaim.holds_of_wide 17 Try.f17 rfl rfl rfl rfl rfl rfl rfl ⟨rfl, rfl, rfl, rfl, rfl⟩ rfl rfl rfl rfl rfl (by kernel_rfl) Try.func17 (by kernel_rfl)
    (of_decide_eq_true (by kernel_rfl)) (by unfold Func.isWrapper; first | (rw [if_pos (by decide +kernel)]; kernel_rfl) | (rw [if_neg (by decide +kernel)]; exact ⟨rfl, rfl⟩))
    (fun os started H enc _ => lifted os started H enc)
#print axioms holds
end dependMinimal
end Go.Proofs.Ytnidalbfmicoiaa
