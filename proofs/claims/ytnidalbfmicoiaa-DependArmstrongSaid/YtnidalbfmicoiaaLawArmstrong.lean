/- DependArmstrong: for every input the law returns true. -/
import Derived.Test.YtnidalbfmicoiaaWalkZ
import Derived.Test.YtnidalbfmicoiaaFrame
import Derived.Test.YtnidalbfmicoiaaFacts
import Derived.Test.YtnidalbfmicoiaaRows
namespace Go.Proofs.Ytnidalbfmicoiaa
open Go.RowKit

set_option maxRecDepth 100000 in
theorem armR_F {m F : Nat} {l : List DepN} (hok : Okl m l) (hF : F = 2 ^ m) (v : Value) (w : World) (hv : Deps w v (castD l)) :
    Calls Try.prog 53 #[.int .i64 m, v] w fun e w' => ∃ v', e = .returned v' ∧ Rows w' v' (armTo l m (F - 1)) ∧ Below w.heap.size w w' := by
  obtain ⟨p1, p2⟩ := hok.pow
  have pc : (2 : Int) ^ m = (F : Int) := by rw [hF]; simp
  rw [← hF] at p1 p2
  have hlt := hok.lt
  have Hlt := Lib.hid hlt
  have Hv := Lib.hid hv
  obtain ⟨a, b, off, cap, hva, -⟩ := Deps.get hv
  subst hva
  obtain ⟨i0, hi, hz0, hz1, hz2⟩ := info_parts info3
  have Hi := Lib.hid hi
  have Hz0 := Lib.hid hz0
  have Hz1 := Lib.hid hz1
  have hm8 := hok.h8
  have hby : i0.bytes * m ≤ 281474976710656 := by rw [hz2]; omega
  have Hby := Lib.hid hby
  clear hi hz0 hz1 hz2 hby hv hF hlt hok
  go_enter Try.func53, Try.ntmps53
  go_wp2_with (refine wpList_make_full _ rfl (.tmp 9) (.tmp 9) 56 rfl w.heap.size 3 i0 (.int .i64 0) 1 Try.underlying56 Hi.out Hz0.out Hz1.out .i64 .i64 _ _ m rfl rfl rfl rfl Hby.out (by unfold maxLen; omega) (Nat.le_refl _) ?_; intro w3 hown hg)
  have hz : OwnInts w.heap.size w3 (.slice (some ⟨w.heap.size, 0, none⟩) m m) (List.replicate m 0) := by
    have e : (madeCells (Value.int IntKind.i64 0).cells (m * 1)).toList = (List.replicate m (0 : Int)).map (Value.int .i64) := by rw [Nat.mul_one]; exact zeros_list m
    rw [e] at hown
    unfold OwnInts
    simpa using hown
  have hb3 : Below w.heap.size w w3 := (Below.refl _ _).grown hg (Nat.le_refl _) (fun k hk => by cases hk)
  have Hz := Lib.hid hz
  have Hb3 := Lib.hid hb3
  clear hown hg hz hb3
  have hrow0 : OwnRows w.heap.size (w3.alloc (.cells #[.slice (some ⟨w.heap.size, 0, none⟩) m m] 56)) (.slice (some ⟨w3.heap.size, 0, none⟩) 1 1) (armTo l m 0) := by
    refine ⟨[.slice (some ⟨w.heap.size, 0, none⟩) m m], rfl, World.ownsRow_lit w3 #[.slice (some ⟨w.heap.size, 0, none⟩) m m] 1 Hb3.out.size (by unfold maxLen; omega) rfl, fun i h h' => ?_⟩
    match i, h with
    | 0, _ => exact Hz.out.keep (below_alloc _ _)
  have Hrow0 := Lib.hid hrow0
  have Hb4 := Lib.hid (Below.tr Hb3.out (below_alloc w3 (.cells #[.slice (some ⟨w.heap.size, 0, none⟩) m m] 56)))
  clear hrow0
  go_wp2_with fail
  generalize w3.alloc (.cells #[.slice (some ⟨w.heap.size, 0, none⟩) m m] 56) = w4 at *
  go_loopw [5, 15] (fun o i wr => ∃ k : Nat, ∃ (oa : Option Addr) (oc : Nat), o = .slice oa (armTo l m k).length oc ∧ i = .int .i64 k ∧ k ≤ F - 1 ∧ Below w.heap.size w wr ∧ OwnRows w.heap.size wr (.slice oa (armTo l m k).length oc) (armTo l m k)) (fun _ i _ => F - (intOf i).toNat)
  case atStart => exact ⟨0, _, _, rfl, rfl, Nat.zero_le _, Hb4.out, Hrow0.out⟩
  case round =>
    obtain ⟨k, oa, oc, rfl, rfl, hk, hb, hown⟩ := hrel
    have Hown := Lib.hid hown
    have Hb := Lib.hid hb
    clear hown hb
    have hal := armTo_length l m k
    by_cases hlt' : k < F - 1
    · have hks : k < 256 := by omega
      have q1 := cl_lt l k
      have q2 : ((k : Int) < ((F : Int) - 1)) := by omega
      go_wp2_with fail
      refine (closureR_any l Hlt.out k hks _ _ (Deps.keep Hv.out Hb.out)).mono ?_
      rintro e w5 ⟨rfl, hb5⟩
      have Hb5 := Lib.hid (Below.tr Hb.out hb5)
      have Hown5 := Lib.hid (Hown.out.keep hb5)
      clear hb5
      by_cases hc1 : cl l k = k
      · have hc2 : (((cl l k : Nat) : Int) != (k : Int)) = false := by rw [hc1]; simp
        have hstep : armTo l m (k + 1) = armTo l m k ++ [outRow k ((armTo l m k).length : Nat) m] := by rw [armTo, if_pos hc1]
        have Hstep := Lib.hid hstep
        clear hc1 hstep
        go_wp2_with (refine wpList_make_full _ rfl (.tmp 23) (.tmp 23) 56 rfl w5.heap.size 3 i0 (.int .i64 0) 1 Try.underlying56 Hi.out Hz0.out Hz1.out .i64 .i64 _ _ m rfl rfl rfl rfl Hby.out (by unfold maxLen; omega) (Nat.le_refl _) ?_; intro w6 hown hg)
        have hrow : OutRow w6 w5.heap.size w5.heap.size m k ((armTo l m k).length : Nat) 0 := by
          unfold OutRow
          rw [outTo_zero]
          have e : (madeCells (Value.int IntKind.i64 0).cells (m * 1)).toList = List.replicate m (Value.int .i64 0) := by rw [Nat.mul_one]; exact toList_madeCells_one _ _
          rw [e] at hown
          rw [List.map_replicate]
          exact hown
        have hb6 : Below w5.heap.size w5 w6 := (Below.refl _ _).grown hg (Nat.le_refl _) (fun k hk => by cases hk)
        have Hrow := Lib.hid hrow
        have Hb6 := Lib.hid hb6
        clear hrow hb6 hown hg
        go_wp2_with fail
        obtain ⟨wo, rfl⟩ : ∃ wo : World, wo = wr := ⟨_, rfl⟩
        go_loopw [26] (fun i wr => ∃ j : Nat, i = .int .i64 j ∧ j ≤ m ∧ Below w5.heap.size w5 wr ∧ OutRow wr w5.heap.size w5.heap.size m k ((armTo l m k).length : Nat) j) (fun i _ => m - (intOf i).toNat)
        case atStart => exact ⟨0, rfl, Nat.zero_le _, Hb6.out, Hrow.out⟩
        case round =>
          obtain ⟨j, rfl, hj, hb', hown'⟩ := hrel
          have Hb' := Lib.hid hb'
          have Hown' := Lib.hid hown'
          clear hb' hown'
          by_cases hltj : j < m
          · have t1 := shr_bit k j hks
            have hfz := World.ownsRow.frozenAt Hown'.out j
            have hcell := World.ownsRow.cellAt Hown'.out j (by omega)
            rw [List.getElem?_map, List.getElem?_eq_getElem (by simp [outTo]; omega), Option.map_some] at hcell
            cases hbit : k.testBit j with
            | true =>
              have HR := Lib.hid (show OutRow wr w5.heap.size w5.heap.size m k ((armTo l m k).length : Nat) (j + 1) by unfold OutRow; rw [outTo_skip _ m hbit]; exact Hown'.out)
              rw [hbit] at t1
              simp only [if_true] at t1
              go_wp2
              go_roundw
              case rel => exact ⟨j + 1, by go_num, by omega, Hb'.out, HR.out⟩
              case measure => simp [intOf]; omega
            | false =>
              have hst := (World.ownsRow.stored Hown'.out j (.int .i64 ((armTo l m k).length : Nat)))
              have HR := Lib.hid (show OutRow (wr.setCell ⟨w5.heap.size, j, none⟩ (.int .i64 ((armTo l m k).length : Nat))) w5.heap.size w5.heap.size m k ((armTo l m k).length : Nat) (j + 1) by unfold OutRow; rw [outTo_set _ m hbit, List.map_set]; exact hst.1)
              rw [hbit] at t1
              clear hst
              simp only [Bool.false_eq_true, if_false] at t1
              go_wp2
              go_roundw
              case rel => exact ⟨j + 1, by go_num, by omega, Hb'.out.setCell (Nat.le_refl _) _, HR.out⟩
              case measure => simp [intOf]; omega
          · obtain rfl : j = m := by omega
            have ho6 := Hown'.out
            unfold OutRow at ho6
            rw [outTo_full] at ho6
            obtain ⟨vs, h1, h2, h3⟩ := Hown5.out.keep Hb'.out
            have Hu := Lib.hid (rowOwn ho6 Hb5.out.size rfl)
            have H1 := Lib.hid h1
            have H2 := Lib.hid h2
            have H3 := Lib.hid h3
            have Hb7 := Lib.hid (Below.tr Hb5.out Hb'.out)
            clear h1 h2 h3 ho6
            go_wp2_with (at_builtin; refine append_own rfl (.tmp 40) (.tmp 42) 34 rfl elem34 rfl (World.ownsRow.alloc H2.out _) [.slice (some ⟨w5.heap.size, 0, none⟩) j j] rfl rfl (by intro j z hj; go_simp) (by intro z hz; simp at hz; subst hz; rfl) (by omega) (by simp; have := Hb7.out.size; omega) ?_)
            intro v' w7 h1 h2 h3
            have R2 := OwnRows.step H1.out (World.ownsRow.alloc H2.out _) (fun i h h' => World.ownsRow.alloc (H3.out i h h') _) (World.ownsRow.alloc Hu.out _) rfl h1 h3
            rw [← Hstep.out] at R2
            have HB := Lib.hid (show Below w.heap.size w w7 from (Below.tr Hb7.out (below_alloc _ _)).trans h2)
            obtain ⟨na, nc, rfl⟩ := ownRow_slice h1
            have hl1 : (armTo l j k).length + 1 = (armTo l j (k + 1)).length := by rw [Hstep.out]; simp
            rw [hl1] at R2
            rw [hl1]
            have HR := Lib.hid R2
            clear R2 h1 h2 h3 hl1
            go_wp2_with fail
            go_roundw
            case rel => exact ⟨k + 1, _, _, rfl, by go_num, by omega, HB.out, HR.out⟩
            case measure => simp [intOf]; omega
      · have hc2 : (((cl l k : Nat) : Int) != (k : Int)) = true := by simp; omega
        have hstep : armTo l m (k + 1) = armTo l m k := by rw [armTo, if_neg hc1]
        have R2 := Hown5.out
        rw [← hstep] at R2 ⊢
        have HR := Lib.hid R2
        clear R2 hc1 hstep hal
        go_wp2_with fail
        go_roundw
        case rel => exact ⟨k + 1, _, _, rfl, by go_num, by omega, Hb5.out, HR.out⟩
        case measure => simp [intOf]; omega
    · obtain rfl : k = F - 1 := by omega
      have q2 : ¬ ((((F - 1 : Nat) : Int)) < ((F : Int) - 1)) := by omega
      go_wp2_with fail
      go_ret
      exact ⟨_, rfl, Hown.out.rows, Hb.out⟩
theorem valid_take {n : Int} {l : List (Int × Int)} {s : List Int} : ValidP n (l.take 14) s ↔ ValidP n l s := by
  by_cases h : l.length ≤ 14
  · rw [List.take_of_length_le h]
  · constructor
    · intro hv
      have := hv.1.2.2
      simp at this
      omega
    · intro hv
      have := hv.1.2.2
      omega
set_option maxRecDepth 100000 in
theorem armLaw_any (n : Int) (l : List (Int × Int)) (v : Value) (w : World) (hv : Deps w v l) :
    Calls Try.prog 8 #[.int .i64 n, v] w fun e w' => e = .returned (.bool true) ∧ Below w.heap.size w w' := by
  have Hv := Lib.hid hv
  by_cases h : ValidP n l []
  · obtain ⟨m, l', q, rfl, h1, h8, rfl, h12, hl, hq, hlt⟩ := h.nat
    have hok : Okl m l' := ⟨h1, h8, h12, hl⟩
    have ht : (castD l').take 14 = castD l' := List.take_of_length_le (by simp [castD]; omega)
    have Hval := Lib.hid (decide_eq_true h)
    have Hok := Lib.hid hok
    have Ht := Lib.hid ht
    clear hv h h1 h8 h12 hl hq hlt hok ht
    go_enter Try.func8, Try.ntmps8
    go_wp2_with fail
    refine (deps_any _ _ _ Hv.out).mono ?_
    rintro e w1 ⟨v1, rfl, hd1, hb1⟩
    rw [Ht.out] at hd1
    have Hb1 := Lib.hid hb1
    have Hd1 := Lib.hid hd1
    clear hb1 hd1
    go_wp2_with fail
    refine (arm_F Hok.out rfl _ _ Hd1.out).mono ?_
    rintro e w2 ⟨u, rfl, hu, hb2⟩
    have Hb2 := Lib.hid (Below.tr Hb1.out hb2)
    have Hu := Lib.hid hu
    clear hb2 hu
    go_wp2_with fail
    refine (validR_any _ _ _ _ (Deps.keep Hv.out Hb2.out)).mono ?_
    rintro e w3 ⟨rfl, hb3⟩
    have Hb3 := Lib.hid (Below.tr Hb2.out hb3)
    have Hu3 := Lib.hid (Rows.keep Hu.out hb3)
    clear hb3
    rw [Hval.out]
    go_wp2_with fail
    refine (armR_F Hok.out rfl _ _ (Deps.keep Hv.out Hb3.out)).mono ?_
    rintro e w4 ⟨u', rfl, hu', hb4⟩
    have Hb4 := Lib.hid (Below.tr Hb3.out hb4)
    have Hu4 := Lib.hid (Rows.keep Hu3.out hb4)
    have Hu' := Lib.hid hu'
    clear hb4 hu'
    go_wp2_with fail
    refine (same_any _ _ _ _ _ Hu4.out Hu'.out).mono ?_
    rintro e w5 ⟨rfl, hb5⟩
    have Hb5 := Lib.hid (Below.tr Hb4.out hb5)
    clear hb5
    rw [decide_eq_true rfl]
    go_wp2_with fail
    refine (awake_any _).mono ?_
    rintro e w6 ⟨rfl, hb6⟩
    have Hb6 := Lib.hid (Below.tr Hb5.out hb6)
    clear hb6
    go_wp2_with fail
    go_ret
    exact ⟨rfl, Hb6.out⟩
  · have Hno := Lib.hid (fun hq : ValidP n (l.take 14) [] => h (valid_take.1 hq))
    have Hval := Lib.hid (decide_eq_false h)
    clear hv h
    go_enter Try.func8, Try.ntmps8
    go_wp2_with fail
    refine (deps_any _ _ _ Hv.out).mono ?_
    rintro e w1 ⟨v1, rfl, hd1, hb1⟩
    have Hb1 := Lib.hid hb1
    have Hd1 := Lib.hid hd1
    clear hb1 hd1
    go_wp2_with fail
    refine (arm_bad _ _ _ _ Hd1.out Hno.out).mono ?_
    rintro e w2 ⟨rfl, hb2⟩
    have Hb2 := Lib.hid (Below.tr Hb1.out hb2)
    clear hb2
    go_wp2_with fail
    refine (validR_any _ _ _ _ (Deps.keep Hv.out Hb2.out)).mono ?_
    rintro e w3 ⟨rfl, hb3⟩
    have Hb3 := Lib.hid (Below.tr Hb2.out hb3)
    clear hb3
    rw [Hval.out]
    go_wp2_with fail
    refine (awake_any _).mono ?_
    rintro e w6 ⟨rfl, hb6⟩
    have Hb6 := Lib.hid (Below.tr Hb3.out hb6)
    clear hb6
    go_wp2_with fail
    go_ret
    exact ⟨rfl, Hb6.out⟩

namespace dependArmstrong
open Go.ChangeShapes Go.WideShapes Go.ChangeAt
set_option maxRecDepth 100000 in
theorem lifted (os : Os) (started : os.Started) (H : Type) (enc : TypeId × Value → H) :
    ReturnsInHanded {} Try.checked os 8 .any (Rows.dependArmstrongSpec.pre6 enc Try.prog Try.f8 Rows.dependArmstrongRow.domain false) (Rows.dependArmstrongSpec.post enc Try.prog Try.f8 false true false false) := by
  refine returnsInHanded_of_change (C := Try.checked) Try.own started (by kernel_rfl) Try.func8
    (ChangeSpec.witness6 (enc := enc) (C := Try.checked) false ⟨#[], #[.int .i64 0, .slice none 0 0], []⟩ 8 (by kernel_rfl) (by kernel_rfl) (by kernel_rfl) (by kernel_rfl)) ?_
  intro W base args ds gs before hval0 hW _ _
  have hval : ∀ (j : Nat) t v, Try.f8.params[j]? = some t → args[j]? = some v → Value.okWide Try.prog W .any base t v := hval0
  clear hval0
  obtain rfl : gs = [] := by obtain ⟨p, q, _, hV, _⟩ := hW; exact (trodVars_none hV).1
  have hW' := hW
  obtain ⟨p, q, hA0, hV, rfl, hfz, hnd⟩ := hW
  have hA : DataW.TrodAll enc Try.prog W 0 (fun _ => true) true Try.f8.params.toList args.toList ds p := hA0
  rw [Try.params8] at hA hval
  obtain ⟨v0, vs0, d0, ds0, p0, q0, hv0, hd0, hp0, h0, r0⟩ := trodAll_cons hA
  obtain ⟨v1, vs1, d1, ds1, p1, q1, hv1, hd1, hp1, h1, r1⟩ := trodAll_cons r0
  obtain ⟨hvn, hdn, hpn⟩ := trodAll_nil r1
  have ha : args = #[v0, v1] := by cases args; simp_all
  have hdd : ds = [d0, d1] := by simp_all
  rw [ha] at hval
  obtain ⟨a0, e0, -, -, w0⟩ := open_int Try.underlying3 (hval 0 3 v0 rfl rfl) h0
  obtain ⟨a1, k1⟩ := deps_of_trod Try.underlying22 Try.underlying24 ⟨rfl, rfl⟩ ⟨rfl, rfl⟩ Try.underlying3 Try.cells3 Try.cells24 (okWide_slice Try.underlying22 (hval 1 22 v1 rfl rfl)) h1
  have hw : Calls Try.prog 8 args W (fun e W' => e = .returned (.bool true) ∧ Below W.heap.size W W') := by
    rw [ha, e0]; exact armLaw_any a0 a1 v1 W k1
  exact hw.mono fun e W' ⟨he, hb⟩ => ⟨_, he, law_post Try.laidOut hW' rfl rfl Try.underlying4 (by rw [hdd]; rfl)
    (by kernel_rfl) hb⟩

theorem holds : Rows.DependArmstrongSaid :=
  OpenClaim.holds_of_wide 8 Try.f8 rfl rfl rfl rfl rfl rfl rfl ⟨rfl, rfl, rfl, rfl, rfl⟩ rfl rfl rfl rfl rfl (by kernel_rfl) Try.func8 (by kernel_rfl)
    (of_decide_eq_true (by kernel_rfl)) (by unfold Func.isWrapper; first | (rw [if_pos (by decide +kernel)]; kernel_rfl) | (rw [if_neg (by decide +kernel)]; exact ⟨rfl, rfl⟩))
    (fun os started H enc _ => lifted os started H enc)
#print axioms holds
end dependArmstrong
end Go.Proofs.Ytnidalbfmicoiaa
