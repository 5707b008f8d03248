/- DependRefuted: for every input the law returns true. -/
import Derived.Test.YtnidalbfmicoiaaWalkV
import Derived.Test.YtnidalbfmicoiaaFrame
import Derived.Test.YtnidalbfmicoiaaFacts
import Derived.Test.YtnidalbfmicoiaaRows
namespace Go.Proofs.Ytnidalbfmicoiaa
open Go.RowKit

theorem agr_two {C m : Nat} (hC : C < 2 ^ m) : agr (List.replicate m 0) (outRow C 1 m) = C := by
  apply Nat.eq_of_testBit_eq
  intro i
  unfold agr
  rw [testBit_agrTo, List.length_replicate]
  by_cases hi : i < m
  · have h1 : (List.replicate m (0 : Int)).getD i 0 = 0 := by simp [List.getD, hi]
    have h2 : (outRow C 1 m).getD i 0 = if C.testBit i then 0 else 1 := by simp [outRow, List.getD, hi]
    rw [h1, h2, decide_eq_true hi]
    cases C.testBit i <;> simp
  · have := Nat.testBit_lt_two_pow (x := C) (i := i) (Nat.lt_of_lt_of_le hC (Nat.pow_le_pow_right (by decide) (by omega)))
    simp [hi, this]
theorem holdsR_two {C m s t : Nat} (hC : C < 2 ^ m) : HoldsR [List.replicate m 0, outRow C 1 m] s t ↔ (Sub s C → Sub t C) := by
  have e : agrs [List.replicate m 0, outRow C 1 m] ([List.replicate m 0, outRow C 1 m] : List (List Int)).length = [C] := by
    simp [agrs, agrRow, List.range_succ, row, agr_two hC]
  unfold HoldsR
  rw [e]
  simp
theorem tableP_two {C m : Nat} : TableP (m : Int) [List.replicate m 0, outRow C 1 m] := by
  refine ⟨by simp, fun r hr => ?_⟩
  simp only [List.mem_cons, List.not_mem_nil, or_false] at hr
  rcases hr with rfl | rfl <;> simp [outRow]

/-- the three ways of Refute -/
def RefRes (n s t : Int) (l : List (Int × Int)) (w' : World) (v' : Value) (r : Int) : Prop :=
  (v' = .slice none 0 0 ∧ (r = 2 ∨ r = 5)) ∨ ∃ (m a b : Nat) (l' : List DepN), n = m ∧ s = a ∧ t = b ∧ l = castD l' ∧ Okl m l' ∧ a < 2 ^ m ∧ b < 2 ^ m ∧ ¬ Sub b (cl l' a) ∧ r = 0 ∧ Rows w' v' [List.replicate m 0, outRow (cl l' a) 1 m]
theorem refute_any (n s t : Int) (l : List (Int × Int)) (v : Value) (w : World) (hv : Deps w v l) :
    Calls Try.prog 25 #[.int .i64 n, v, .agg #[.int .i64 s, .int .i64 t]] w fun e w' => ∃ v' r, e = .returned (.tuple #[v', .int .i64 r]) ∧ RefRes n s t l w' v' r ∧ Below w.heap.size w w' := by
  by_cases h : ValidP n l [s, t]
  · obtain ⟨m, l', q, rfl, h1, h8, rfl, h12, hl, hq, hlt⟩ := h.nat
    match q, hq with
    | [a, b], hq =>
      simp only [List.map_cons, List.map_nil, List.cons.injEq, and_true] at hq
      obtain ⟨rfl, rfl⟩ := hq
      have hok : Okl m l' := ⟨h1, h8, h12, hl⟩
      have ha := hlt a (by simp)
      have hb := hlt b (by simp)
      by_cases hS : Sub b (cl l' a)
      · exact (refute_yes hok ha hb hS v w hv).mono fun e w' ⟨he, hb⟩ => ⟨_, _, he, .inl ⟨rfl, .inr rfl⟩, hb⟩
      · exact (refute_no hok ha hb hS v w hv).mono fun e w' ⟨v', he, hr, hbb⟩ => ⟨v', _, he, .inr ⟨m, a, b, l', rfl, rfl, rfl, rfl, hok, ha, hb, hS, rfl, hr⟩, hbb⟩
    | [], hq => simp at hq
    | [_], hq => simp at hq
    | _ :: _ :: _ :: _, hq => simp at hq
  · exact (refute_bad n s t l v w hv h).mono fun e w' ⟨he, hb⟩ => ⟨_, _, he, .inl ⟨rfl, .inl rfl⟩, hb⟩

set_option maxRecDepth 100000 in
theorem refuted_any (n s t : Int) (l : List (Int × Int)) (v : Value) (w : World) (hv : Deps w v l) :
    Calls Try.prog 12 #[.int .i64 n, v, .agg #[.int .i64 s, .int .i64 t]] w fun e w' => e = .returned (.bool true) ∧ Below w.heap.size w w' := by
  have Hv := Lib.hid hv
  have hb0 := below_alloc w (.cells #[.int .i64 s, .int .i64 t] 24)
  have c0 := cell_new w #[.int .i64 s, .int .i64 t] 24 0
  have c1 := cell_new w #[.int .i64 s, .int .i64 t] 24 1
  have hz : (w.alloc (.cells #[.int .i64 s, .int .i64 t] 24)).heap.size = w.heap.size + 1 := by simp
  clear hv
  go_enter Try.func12, Try.ntmps12
  go_wp2_with fail
  generalize w.alloc (.cells #[.int .i64 s, .int .i64 t] 24) = w0 at *
  have Hb0 := Lib.hid hb0
  have Hz := Lib.hid hz
  have C0 := Lib.hid c0
  have C1 := Lib.hid c1
  clear hb0 hz c0 c1
  go_region_held3 (fun w' => w'.cell? ⟨w.heap.size, 0, none⟩ = some (.int .i64 s) ∧ w'.cell? ⟨w.heap.size, 1, none⟩ = some (.int .i64 t) ∧ Below w0.heap.size w0 w')
    ((refine hold2 C0.out C1.out ?_; repeat (first | exact Below.refl _ _ | refine Below.drew ?_ | refine Below.tr ?_ (below_alloc _ _) | refine Below.tr ?_ (by assumption))))
    (first | (go_at_call 22; refine (deps_any l _ _ (by exact Deps.keep Hv.out Hb0.out.drew)).mono ?_; rintro e w1 ⟨v1, rfl, hd1, hb1⟩) | (go_at_call 24; refine (dep_any _ _ _).mono ?_; rintro e w2 ⟨rfl, hb2⟩) | (go_at_call 25; refine (refute_any _ _ _ _ _ _ (by exact Deps.keep hd1 hb2)).mono ?_; rintro e w3 ⟨u, r, rfl, hr, hb3⟩))
  have Hb3 := Lib.hid (show Below w0.heap.size w0 w3 from (Below.tr (Below.tr (Below.tr (Below.refl _ _).drew hb1) hb2) hb3))
  have c0 := Below.keep Hb3.out C0.out
  have c1 := Below.keep Hb3.out C1.out
  have Hr := Lib.hid hr
  clear hr hd1 hb1 hb2 hb3
  rcases Hr.out with ⟨rfl, rfl | rfl⟩ | ⟨m, a, b, l', rfl, rfl, rfl, hl, hok, ha, hb, hS, rfl, hrows⟩
  · clear Hr c0 c1
    go_wp2_with fail
    refine (awake_any _).mono ?_
    rintro e w4 ⟨rfl, hb4⟩
    have Hb4 := Lib.hid (Below.tr (Below.tr Hb0.out Hb3.out) hb4)
    clear hb4 
    go_wp2_with fail
    go_ret
    exact ⟨rfl, Hb4.out⟩
  · clear Hr c0 c1
    go_wp2_with fail
    refine (awake_any _).mono ?_
    rintro e w4 ⟨rfl, hb4⟩
    have Hb4 := Lib.hid (Below.tr (Below.tr Hb0.out Hb3.out) hb4)
    clear hb4 
    go_wp2_with fail
    go_ret
    exact ⟨rfl, Hb4.out⟩
  · have Hl := Lib.hid hl
    have HR := Lib.hid hrows
    have Ha := Lib.hid ha
    have Hb := Lib.hid hb
    have HS := Lib.hid hS
    have hC := cl_lt_pow hok.h8 hok.hl ha
    have HC := Lib.hid hC
    clear Hr hl hrows ha hb hS hC c0 c1
    have hdeps : ∀ (w1 : World), Below w.heap.size w w1 → Calls Try.prog 22 #[v] w1 fun e w' => ∃ v', e = .returned v' ∧ Deps w' v' (castD l') ∧ Below w1.heap.size w1 w' := fun w1 hb => by
      rw [← Hl.out]; exact deps_any l v w1 (Deps.keep Hv.out hb)
    have Hdeps := Lib.hid hdeps
    clear hdeps
    go_wp2_with fail
    refine (Hdeps.out _ (Below.tr Hb0.out Hb3.out)).mono ?_
    rintro e w4 ⟨v4, rfl, hd4, hb4⟩
    have Hb4 := Lib.hid (Below.tr Hb3.out hb4)
    have Hb34 := Lib.hid hb4
    obtain ⟨a4, b4, off4, cap4, rfl, hle, hA, hc⟩ := Deps.get hd4
    have e0 : (castD l').length = l'.length := by simp [castD]
    rw [e0] at hle hA
    have hc' : ∀ i (h : i < l'.length), w4.cell? ⟨b4, off4 + i * 2, none⟩ = some (.int .i64 ((l'[i].1 : Nat) : Int)) ∧ w4.cell? ⟨b4, off4 + i * 2 + 1, none⟩ = some (.int .i64 ((l'[i].2 : Nat) : Int)) := by
      intro i hi
      have := hc i (by omega)
      simpa [castD] using this
    have hix := run_ix (P := Try.prog) (t := 28) (a := a4) (len := l'.length) (cap := cap4) (b := b4) (off := off4) (s := 2) Try.underlying28 (by intro w; kernel_rfl) hA
    rw [e0]
    have Hc := Lib.hid hc'
    clear hb4 hd4 hA hc hc' e0
    go_wp2_with fail
    go_loopw [37] (fun i wr => ∃ k : Nat, i = .int .i64 k ∧ k ≤ l'.length ∧ Below w4.heap.size w4 wr) (fun i _ => l'.length - (intOf i).toNat)
    case atStart => exact ⟨0, rfl, Nat.zero_le _, Below.refl _ _⟩
    case round =>
      obtain ⟨k, rfl, hk, hbr⟩ := hrel
      have Hbr := Lib.hid hbr
      clear hbr
      by_cases hlt : k < l'.length
      · have hc1 := Below.keep Hbr.out (Hc.out k hlt).1
        have hc2 := Below.keep Hbr.out (Hc.out k hlt).2
        have hdk := hok.hl _ (List.getElem_mem hlt)
        have hcls : HoldsR [List.replicate m 0, outRow (cl l' a) 1 m] l'[k].1 l'[k].2 := (holdsR_two HC.out).2 (cl_clsd hok.lt _ (List.getElem_mem hlt))
        have Hcls := Lib.hid (decide_eq_true hcls)
        have Hd1 := Lib.hid hdk.1
        have Hd2 := Lib.hid hdk.2
        clear hcls hdk
        go_wp2_with fail
        refine (holds_ok hok.h1 hok.h8 Hd1.out Hd2.out _ tableP_two _ _ (Rows.keep HR.out (Below.tr Hb34.out (Below.tr Hbr.out (below_alloc _ _))))).mono ?_
        rintro e w5 ⟨rfl, hb5⟩
        rw [Hcls.out]
        have Hb5 := Lib.hid (Below.tr (Below.tr Hbr.out (below_alloc _ _)) hb5)
        clear hb5
        go_wp2_with fail
        go_roundw
        case rel => exact ⟨k + 1, by go_num, by omega, Hb5.out⟩
        case measure => simp [intOf]; omega
      · obtain rfl : k = l'.length := by omega
        have Hbx := Lib.hid (Below.tr Hb4.out Hbr.out)
        have c0 := Below.keep Hbx.out C0.out
        have c1 := Below.keep Hbx.out C1.out
        have hfin : ¬ HoldsR [List.replicate m 0, outRow (cl l' a) 1 m] a b := fun h => HS.out ((holdsR_two HC.out).1 h (sub_cl (by have := hok.pow; have := Ha.out; omega)))
        have Hfin := Lib.hid (decide_eq_false hfin)
        clear hfin
        go_wp2_with fail
        refine (dep_any _ _ _).mono ?_
        rintro e w6 ⟨rfl, hb6⟩
        have Hb6 := Lib.hid (Below.tr Hbx.out hb6)
        have Hb6d := Lib.hid hb6
        clear hb6 
        clear c0 c1
        go_wp2_with fail
        refine (holds_ok hok.h1 hok.h8 Ha.out Hb.out _ tableP_two _ _ (Rows.keep HR.out (Below.tr Hb34.out (Below.tr Hbr.out Hb6d.out)))).mono ?_
        rintro e w7 ⟨rfl, hb7⟩
        have Hb7 := Lib.hid (Below.tr Hb6.out hb7)
        clear hb7 
        rw [Hfin.out]
        go_wp2_with fail
        refine (awake_any _).mono ?_
        rintro e w8 ⟨rfl, hb8⟩
        have Hb8 := Lib.hid (Below.tr Hb7.out hb8)
        clear hb8 
        go_wp2_with fail
        go_ret
        exact ⟨rfl, Below.tr Hb0.out Hb8.out⟩

namespace dependRefuted
open Go.ChangeShapes Go.WideShapes Go.ChangeAt
set_option maxRecDepth 100000 in
theorem lifted (os : Os) (started : os.Started) (H : Type) (enc : TypeId × Value → H) :
    ReturnsInHanded {} Try.checked os 12 .any (Rows.dependRefutedSpec.pre6 enc Try.prog Try.f12 Rows.dependRefutedRow.domain false) (Rows.dependRefutedSpec.post enc Try.prog Try.f12 false true false false) := by
  refine returnsInHanded_of_change (C := Try.checked) Try.own started (by kernel_rfl) Try.func12
    (ChangeSpec.witness6 (enc := enc) (C := Try.checked) false ⟨#[], #[.int .i64 0, .slice none 0 0, .agg #[.int .i64 0, .int .i64 0]], []⟩ 8 (by kernel_rfl) (by kernel_rfl) (by kernel_rfl) (by kernel_rfl)) ?_
  intro W base args ds gs before hval0 hW _ _
  have hval : ∀ (j : Nat) t v, Try.f12.params[j]? = some t → args[j]? = some v → Value.okWide Try.prog W .any base t v := hval0
  clear hval0
  obtain rfl : gs = [] := by obtain ⟨p, q, _, hV, _⟩ := hW; exact (trodVars_none hV).1
  have hW' := hW
  obtain ⟨p, q, hA0, hV, rfl, hfz, hnd⟩ := hW
  have hA : DataW.TrodAll enc Try.prog W 0 (fun _ => true) true Try.f12.params.toList args.toList ds p := hA0
  rw [Try.params12] at hA hval
  obtain ⟨v0, vs0, d0, ds0, p0, q0, hv0, hd0, hp0, h0, r0⟩ := trodAll_cons hA
  obtain ⟨v1, vs1, d1, ds1, p1, q1, hv1, hd1, hp1, h1, r1⟩ := trodAll_cons r0
  obtain ⟨v2, vs2, d2, ds2, p2, q2, hv2, hd2, hp2, h2, r2⟩ := trodAll_cons r1
  obtain ⟨hvn, hdn, hpn⟩ := trodAll_nil r2
  have ha : args = #[v0, v1, v2] := by cases args; simp_all
  have hdd : ds = [d0, d1, d2] := by simp_all
  rw [ha] at hval
  obtain ⟨a0, e0, -, -, w0⟩ := open_int Try.underlying3 (hval 0 3 v0 rfl rfl) h0
  obtain ⟨a1, k1⟩ := deps_of_trod Try.underlying22 Try.underlying24 ⟨rfl, rfl⟩ ⟨rfl, rfl⟩ Try.underlying3 Try.cells3 Try.cells24 (okWide_slice Try.underlying22 (hval 1 22 v1 rfl rfl)) h1
  obtain ⟨a2, e2⟩ := pair_arg Try.underlying24 ⟨rfl, rfl⟩ ⟨rfl, rfl⟩ Try.underlying3 Try.cells3 Try.cells24 (hval 2 24 v2 rfl rfl) h2
  have hw : Calls Try.prog 12 args W (fun e W' => e = .returned (.bool true) ∧ Below W.heap.size W W') := by
    rw [ha, e0, e2]; exact refuted_any a0 a2.1 a2.2 a1 v1 W k1
  exact hw.mono fun e W' ⟨he, hb⟩ => ⟨_, he, law_post Try.laidOut hW' rfl rfl Try.underlying4 (by rw [hdd]; rfl)
    (by kernel_rfl) hb⟩

theorem holds : Rows.DependRefutedSaid :=
  OpenClaim.holds_of_wide 12 Try.f12 rfl rfl rfl rfl rfl rfl rfl ⟨rfl, rfl, rfl, rfl, rfl⟩ rfl rfl rfl rfl rfl (by kernel_rfl) Try.func12 (by kernel_rfl)
    (of_decide_eq_true (by kernel_rfl)) (by unfold Func.isWrapper; first | (rw [if_pos (by decide +kernel)]; kernel_rfl) | (rw [if_neg (by decide +kernel)]; exact ⟨rfl, rfl⟩))
    (fun os started H enc _ => lifted os started H enc)
#print axioms holds
end dependRefuted
end Go.Proofs.Ytnidalbfmicoiaa
