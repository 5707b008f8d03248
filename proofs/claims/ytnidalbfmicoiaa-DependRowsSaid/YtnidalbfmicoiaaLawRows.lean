/- DependRows: for every input the law returns true. -/
import Derived.Test.YtnidalbfmicoiaaMathKeys
import Derived.Test.YtnidalbfmicoiaaWalkU
import Derived.Test.YtnidalbfmicoiaaWalkX
import Derived.Test.YtnidalbfmicoiaaFrame
import Derived.Test.YtnidalbfmicoiaaRows
namespace Go.Proofs.Ytnidalbfmicoiaa
open Go.RowKit

theorem hold1 {w w' : World} {a : Addr} {u : Value} (h1 : w.cell? a = some u) (h : Below w.heap.size w w') : w'.cell? a = some u ∧ Below w.heap.size w w' := ⟨Below.keep h h1, h⟩
/-- where all dependencies hold, what follows holds -/
theorem holdsR_follows {l : List DepN} {R : List (List Int)} {n s t : Nat} (h8 : n ≤ 8) (hn : ∀ r ∈ R, r.length = n) (hall : ∀ d ∈ l, HoldsR R d.1 d.2) (h : Sub t (cl l s)) : HoldsR R s t := fun e he hs => by
  have h256 : e < 256 := by have := agr_lt hn he; have := pow_small n h8; omega
  exact h.trans (cl_least h256 hs fun d hd h1 => hall d hd e he h1)

set_option maxRecDepth 100000 in
theorem rows_no (n : Int) (l : List (Int × Int)) (v u : Value) (w : World) (hv : Deps w v l) (hno : ∀ s, ¬ ValidP n (l.take 14) s) :
    Calls Try.prog 20 #[.int .i64 n, v, u] w fun e w' => e = .returned (.bool true) ∧ Below w.heap.size w w' := by
  have Hv := Lib.hid hv
  have Hno := Lib.hid hno
  clear hv hno
  go_enter Try.func20, Try.ntmps20
  go_wp2_with fail
  refine (deps_any l _ _ (Deps.keep Hv.out (Below.refl _ _))).mono ?_
  rintro e w1 ⟨v1, rfl, hd1, hb1⟩
  have Hb1 := Lib.hid (Below.tr (Below.refl _ _) hb1)
  have Hd1 := Lib.hid hd1
  clear hb1 hd1
  go_wp2_with fail
  refine (keys_bad n _ _ _ Hd1.out (Hno.out _)).mono ?_
  rintro e w2 ⟨rfl, hb2⟩
  have Hb2 := Lib.hid (Below.tr Hb1.out hb2)
  clear hb2 
  go_wp2_with fail
  refine (awake_any _).mono ?_
  rintro e w3 ⟨rfl, hb3⟩
  have Hb3 := Lib.hid (Below.tr Hb2.out hb3)
  clear hb3 
  go_wp2_with fail
  go_ret
  exact ⟨rfl, Hb3.out⟩

set_option maxRecDepth 100000 in
theorem rows_notable {m : Nat} {l' : List DepN} (hok : Okl m l') (l : List (Int × Int)) (hl : l.take 14 = castD l') (R : List (List Int)) (v u : Value) (w : World) (hv : Deps w v l) (hu : Rows w u R) (hT : ¬ TblP m R) :
    Calls Try.prog 20 #[.int .i64 m, v, u] w fun e w' => e = .returned (.bool true) ∧ Below w.heap.size w w' := by
  have Hv := Lib.hid hv
  have Hu := Lib.hid hu
  have Hl := Lib.hid hl
  clear hv hu hl
  have hdeps : ∀ (w1 : World), Below w.heap.size w w1 → Calls Try.prog 22 #[v] w1 fun e w' => ∃ v', e = .returned v' ∧ Deps w' v' (castD l') ∧ Below w1.heap.size w1 w' := fun w1 hb => by
    rw [← Hl.out]; exact deps_any l v w1 (Deps.keep Hv.out hb)
  have Hdeps := Lib.hid hdeps
  clear hdeps Hl
  have HT := Lib.hid (decide_eq_false hT)
  clear hT
  go_enter Try.func20, Try.ntmps20
  go_wp2_with fail
  refine (Hdeps.out _ (Below.refl _ _)).mono ?_
  rintro e w1 ⟨v1, rfl, hd1, hb1⟩
  have Hb1 := Lib.hid (Below.tr (Below.refl _ _) hb1)
  have Hd1 := Lib.hid hd1
  clear hb1 hd1
  go_wp2_with fail
  refine (keys_F hok rfl _ _ Hd1.out).mono ?_
  rintro e w2 ⟨ks, rfl, hks, hb2⟩
  have Hb2 := Lib.hid (Below.tr Hb1.out hb2)
  have Hks := Lib.hid hks
  clear hb2 hks
  go_wp2_with fail
  refine (table_any (m : Int) R u _ (Rows.keep Hu.out Hb2.out)).mono ?_
  rintro e w3 ⟨rfl, rfl⟩
  rw [HT.out]
  go_wp2_with fail
  refine (awake_any _).mono ?_
  rintro e w3 ⟨rfl, hb3⟩
  have Hb3 := Lib.hid (Below.tr Hb2.out hb3)
  clear hb3 
  go_wp2_with fail
  go_ret
  exact ⟨rfl, Hb3.out⟩

set_option maxRecDepth 100000 in
theorem rows_yes {m F : Nat} {l' : List DepN} (hok : Okl m l') (hF : F = 2 ^ m) (l : List (Int × Int)) (hl : l.take 14 = castD l') (R : List (List Int)) (v u : Value) (w : World) (hv : Deps w v l) (hu : Rows w u R) (hT : TblP m R) :
    Calls Try.prog 20 #[.int .i64 m, v, u] w fun e w' => e = .returned (.bool true) ∧ Below w.heap.size w w' := by
  have Hv := Lib.hid hv
  have Hu := Lib.hid hu
  have Hl := Lib.hid hl
  clear hv hu hl
  have hdeps : ∀ (w1 : World), Below w.heap.size w w1 → Calls Try.prog 22 #[v] w1 fun e w' => ∃ v', e = .returned v' ∧ Deps w' v' (castD l') ∧ Below w1.heap.size w1 w' := fun w1 hb => by
    rw [← Hl.out]; exact deps_any l v w1 (Deps.keep Hv.out hb)
  have Hdeps := Lib.hid hdeps
  clear hdeps Hl
  have HT := Lib.hid (decide_eq_true hT)
  have HTab := Lib.hid hT.2
  have hfew : ∀ (w1 : World), Below w.heap.size w w1 → Calls Try.prog 47 #[u] w1 fun e w' => ∃ v', e = .returned v' ∧ Rows w' v' R ∧ Below w1.heap.size w1 w' := fun w1 hb => by
    have := few_any R u w1 (Rows.keep Hu.out hb)
    rwa [fewR_table hT] at this
  have Hfew := Lib.hid hfew
  obtain ⟨p1, p2⟩ := hok.pow
  rw [← hF] at p1 p2
  have HF := Lib.hid hF
  have h8 := hok.h8
  have h1 := hok.h1
  have e2 : (2 : Int) ^ m = (F : Int) := by rw [hF]; simp
  obtain ⟨K, hK⟩ : ∃ K, K = keysTo l' (F - 1) F := ⟨_, rfl⟩
  have HKlt := Lib.hid (show ∀ y ∈ K, y < F by rw [hK]; exact keysTo_lt l' (F - 1) F)
  have HKcl := Lib.hid (show ∀ (i : Nat) (h : i < K.length), cl l' K[i] = F - 1 by subst hK; exact fun i h => (mem_keysTo (List.getElem_mem h)).1)
  have hKpos : 0 < K.length := by rw [hK]; exact keys_pos hok hF
  have hkeys := fun v1 w1 h => keys_F hok hF v1 w1 h
  rw [← hK] at hkeys
  have Hkeys := Lib.hid hkeys
  clear hfew hT hkeys hK hF
  go_enter Try.func20, Try.ntmps20
  go_wp2_with fail
  refine (Hdeps.out _ (Below.refl _ _)).mono ?_
  rintro e w1 ⟨v1, rfl, hd1, hb1⟩
  have Hb1 := Lib.hid (Below.tr (Below.refl _ _) hb1)
  have Hd1 := Lib.hid hd1
  clear hb1 hd1
  go_wp2_with fail
  refine (Hkeys.out _ _ Hd1.out).mono ?_
  rintro e w2 ⟨ks, rfl, hks, hb2⟩
  have Hb2 := Lib.hid (Below.tr Hb1.out hb2)
  obtain ⟨a, b, off, cap, rfl, hle, ha, hc⟩ := Ints.get hks
  have e0 : (castN K).length = K.length := by simp [castN]
  rw [e0] at hle ha
  have hc' : ∀ i (h : i < K.length), w2.cell? ⟨b, off + i, none⟩ = some (.int .i64 ((K[i] : Nat) : Int)) := fun i hi => by
    have := hc i (by omega); simpa [castN] using this
  have hix := run_ix (P := Try.prog) (t := 56) (a := a) (len := K.length) (cap := cap) (b := b) (off := off) (s := 1) Try.underlying56 (by intro w; kernel_rfl) ha
  simp only [Nat.mul_one] at hix
  have Hc := Lib.hid hc'
  rw [e0]
  clear hb2 hks ha hc hc' e0
  go_wp2_with fail
  refine (table_any (m : Int) R u _ (Rows.keep Hu.out Hb2.out)).mono ?_
  rintro e w3 ⟨rfl, rfl⟩
  rw [HT.out]
  go_wp2_with fail
  refine (Hdeps.out _ Hb2.out).mono ?_
  rintro e w3 ⟨v3, rfl, hd3, hb3⟩
  have Hb3 := Lib.hid hb3
  obtain ⟨a3, b3, off3, cap3, rfl, hle3, ha3, hc3⟩ := Deps.get hd3
  have e0 : (castD l').length = l'.length := by simp [castD]
  rw [e0] at hle3 ha3
  have hc3' : ∀ i (h : i < l'.length), w3.cell? ⟨b3, off3 + i * 2, none⟩ = some (.int .i64 ((l'[i].1 : Nat) : Int)) ∧ w3.cell? ⟨b3, off3 + i * 2 + 1, none⟩ = some (.int .i64 ((l'[i].2 : Nat) : Int)) := by
    intro i hi
    have := hc3 i (by omega)
    simpa [castD] using this
  have hix3 := run_ix (P := Try.prog) (t := 28) (a := a3) (len := l'.length) (cap := cap3) (b := b3) (off := off3) (s := 2) Try.underlying28 (by intro w; kernel_rfl) ha3
  rw [e0]
  have Hc3 := Lib.hid hc3'
  clear hb3 hd3 ha3 hc3 hc3' e0
  go_wp2_with fail
  go_loopw [44] (fun i wr => ∃ k : Nat, i = .int .i64 k ∧ k ≤ l'.length ∧ Below w3.heap.size w3 wr ∧ AllTo (fun d : DepN => HoldsR R d.1 d.2) l' k) (fun i _ => l'.length - (intOf i).toNat)
  case atStart => exact ⟨0, rfl, Nat.zero_le _, Below.refl _ _, fun i _ h => by omega⟩
  case round =>
    obtain ⟨k, rfl, hk, hbr, hin⟩ := hrel
    have Hbr := Lib.hid hbr
    have Hin := Lib.hid hin
    clear hbr hin
    by_cases hlt : k < l'.length
    · have hc1 := Below.keep Hbr.out (Hc3.out k hlt).1
      have hc2 := Below.keep Hbr.out (Hc3.out k hlt).2
      have hdk := hok.hl _ (List.getElem_mem hlt)
      have Hd1 := Lib.hid hdk.1
      have Hd2 := Lib.hid hdk.2
      clear hdk
      have hb0 := below_alloc wr (.cells #[.int .i64 (l'[k].1 : Int), .int .i64 (l'[k].2 : Int)] 32)
      have c0 := cell_new wr #[.int .i64 (l'[k].1 : Int), .int .i64 (l'[k].2 : Int)] 32 0
      have c1 := cell_new wr #[.int .i64 (l'[k].1 : Int), .int .i64 (l'[k].2 : Int)] 32 1
      go_wp2_with fail
      generalize wr.alloc (.cells #[.int .i64 (l'[k].1 : Int), .int .i64 (l'[k].2 : Int)] 32) = w0 at *
      have Hb0 := Lib.hid (Below.tr Hbr.out hb0)
      have C0 := Lib.hid c0
      have C1 := Lib.hid c1
      clear hb0 c0 c1 hc1 hc2
      go_region_held3 (fun w' => w'.cell? ⟨wr.heap.size, 0, none⟩ = some (.int .i64 (l'[k].1 : Int)) ∧ w'.cell? ⟨wr.heap.size, 1, none⟩ = some (.int .i64 (l'[k].2 : Int)) ∧ Below w0.heap.size w0 w')
        ((refine hold2 C0.out C1.out ?_; repeat (first | exact Below.refl _ _ | refine Below.drew ?_ | refine Below.tr ?_ (below_alloc _ _) | refine Below.tr ?_ (by assumption))))
        (first | (go_at_call 47; refine (Hfew.out _ (by exact (Below.tr (Below.tr Hb2.out Hb3.out) Hb0.out).drew)).mono ?_; rintro e w4 ⟨v4, rfl, hr4, hb4⟩) | (go_at_call 46; refine (holds_ok h1 h8 Hd1.out Hd2.out R HTab.out _ _ (by exact hr4)).mono ?_; rintro e w5 ⟨rfl, hb5⟩))
      have Hb5 := Lib.hid (show Below w3.heap.size w3 w5 from Below.tr (Below.tr Hb0.out.drew hb4) hb5)
      clear hr4 hb4 hb5
      by_cases hH : HoldsR R l'[k].1 l'[k].2
      · have HR := Lib.hid (Hin.out.step hlt hH)
        rw [decide_eq_true hH]
        clear hH
        go_wp2_with fail
        go_roundw
        case rel => exact ⟨k + 1, by go_num, by omega, Hb5.out, HR.out⟩
        case measure => simp [intOf]; omega
      · rw [decide_eq_false hH]
        clear hH
        go_wp2_with fail
        refine (awake_any _).mono ?_
        rintro e w6 ⟨rfl, hb6⟩
        have Hb6 := Lib.hid (Below.tr (Below.tr Hb2.out (Below.tr Hb3.out Hb5.out)) hb6)
        clear hb6
        go_wp2_with fail
        go_ret
        exact ⟨rfl, Hb6.out⟩
    · obtain rfl : k = l'.length := by omega
      have Hall := Lib.hid Hin.out.all
      have Hb4 := Lib.hid (Below.tr Hb3.out Hbr.out)
      clear Hin Hbr
      go_wp2_with fail
      obtain ⟨wo, rfl⟩ : ∃ wo : World, wo = wr := ⟨_, rfl⟩
      go_loopw [70] (fun i wr => ∃ k : Nat, i = .int .i64 k ∧ k ≤ K.length ∧ Below wo.heap.size wo wr) (fun i _ => K.length - (intOf i).toNat)
      case atStart => exact ⟨0, rfl, Nat.zero_le _, Below.refl _ _⟩
      case round =>
        obtain ⟨k, rfl, hk, hbr⟩ := hrel
        have Hbr := Lib.hid hbr
        clear hbr
        by_cases hlt : k < K.length
        · have hc1 := Below.keep (Below.tr Hb4.out Hbr.out) (Hc.out k hlt)
          have hkF := HKlt.out _ (List.getElem_mem hlt)
          have HkF := Lib.hid (show K[k] < 2 ^ m by have := HF.out; omega)
          have HfF := Lib.hid (show F - 1 < 2 ^ m by have := HF.out; omega)
          have hH : HoldsR R K[k] (F - 1) := holdsR_follows h8 HTab.out.nat.2 Hall.out (by rw [HKcl.out k hlt]; exact Sub.refl _)
          have HH := Lib.hid (decide_eq_true hH)
          have e3 : IntKind.i64.wrap ((F : Int) - 1) = ((F - 1 : Nat) : Int) := by rw [IntWalk.i64_in _ ⟨by omega, by omega⟩]; omega
          have e4 : IntKind.i64.wrap (F : Int) = (F : Int) := IntWalk.i64_in _ ⟨by omega, by omega⟩
          clear hH
          have hc2 : (wr.cell? ⟨b, off + k, none⟩ = some (.int .i64 ((K[k] : Nat) : Int))) := hc1
          have Hc2 := Lib.hid hc2
          clear hc2
          go_wp2_with fail
          go_region_held3 (fun w' => w'.cell? ⟨b, off + k, none⟩ = some (.int .i64 ((K[k] : Nat) : Int)) ∧ Below wr.heap.size wr w')
            ((refine hold1 Hc2.out ?_; repeat (first | exact Below.refl _ _ | refine Below.drew ?_ | refine Below.tr ?_ (below_alloc _ _) | refine Below.tr ?_ (by assumption))))
            (first | (go_at_call 47; refine (Hfew.out _ (by exact (Below.tr (Below.tr Hb2.out Hb4.out) Hbr.out).drew)).mono ?_; rintro e w4 ⟨v4, rfl, hr4, hb4⟩) | (go_at_call 46; refine (holds_ok h1 h8 HkF.out HfF.out R HTab.out _ _ (by exact hr4)).mono ?_; rintro e w5 ⟨rfl, hb5⟩))
          rw [HH.out]
          have Hb5 := Lib.hid (show Below wo.heap.size wo w5 from Below.tr (Below.tr Hbr.out.drew hb4) hb5)
          clear hr4 hb4 hb5
          go_wp2_with fail
          go_roundw
          case rel => exact ⟨k + 1, by go_num, by omega, Hb5.out⟩
          case measure => simp [intOf]; omega
        · obtain rfl : k = K.length := by omega
          have hKp : (0 : Int) < (K.length : Int) := by omega
          go_wp2_with fail
          refine (awake_any _).mono ?_
          rintro e w6 ⟨rfl, hb6⟩
          have Hb6 := Lib.hid (Below.tr (Below.tr Hb2.out (Below.tr Hb4.out Hbr.out)) hb6)
          clear hb6
          go_wp2_with fail
          go_ret
          exact ⟨rfl, Hb6.out⟩

theorem rows_any (n : Int) (l : List (Int × Int)) (R : List (List Int)) (v u : Value) (w : World) (hv : Deps w v l) (hu : Rows w u R) :
    Calls Try.prog 20 #[.int .i64 n, v, u] w fun e w' => e = .returned (.bool true) ∧ Below w.heap.size w w' := by
  rcases deps_cases n (l.take 14) with h | ⟨m, l', rfl, h, hok⟩
  · exact rows_no n l v u w hv h
  · by_cases hT : TblP m R
    · exact rows_yes hok rfl l h R v u w hv hu hT
    · exact rows_notable hok l h R v u w hv hu hT

namespace dependRows
open Go.ChangeShapes Go.WideShapes Go.ChangeAt
set_option maxRecDepth 100000 in
theorem lifted (os : Os) (started : os.Started) (H : Type) (enc : TypeId × Value → H) :
    ReturnsInHanded {} Try.checked os 20 .any (Rows.dependRowsSpec.pre6 enc Try.prog Try.f20 Rows.dependRowsRow.domain false) (Rows.dependRowsSpec.post enc Try.prog Try.f20 false true false false) := by
  refine returnsInHanded_of_change (C := Try.checked) Try.own started (by kernel_rfl) Try.func20
    (ChangeSpec.witness6 (enc := enc) (C := Try.checked) false ⟨#[], #[.int .i64 0, .slice none 0 0, .slice none 0 0], []⟩ 8 (by kernel_rfl) (by kernel_rfl) (by kernel_rfl) (by kernel_rfl)) ?_
  intro W base args ds gs before hval0 hW _ _
  have hval : ∀ (j : Nat) t v, Try.f20.params[j]? = some t → args[j]? = some v → Value.okWide Try.prog W .any base t v := hval0
  clear hval0
  obtain rfl : gs = [] := by obtain ⟨p, q, _, hV, _⟩ := hW; exact (trodVars_none hV).1
  have hW' := hW
  obtain ⟨p, q, hA0, hV, rfl, hfz, hnd⟩ := hW
  have hA : DataW.TrodAll enc Try.prog W 0 (fun _ => true) true Try.f20.params.toList args.toList ds p := hA0
  rw [Try.params20] at hA hval
  obtain ⟨v0, vs0, d0, ds0, p0, q0, hv0, hd0, hp0, h0, r0⟩ := trodAll_cons hA
  obtain ⟨v1, vs1, d1, ds1, p1, q1, hv1, hd1, hp1, h1, r1⟩ := trodAll_cons r0
  obtain ⟨v2, vs2, d2, ds2, p2, q2, hv2, hd2, hp2, h2, r2⟩ := trodAll_cons r1
  obtain ⟨hvn, hdn, hpn⟩ := trodAll_nil r2
  have ha : args = #[v0, v1, v2] := by cases args; simp_all
  have hdd : ds = [d0, d1, d2] := by simp_all
  rw [ha] at hval
  obtain ⟨a0, e0, -, -, w0⟩ := open_int Try.underlying3 (hval 0 3 v0 rfl rfl) h0
  obtain ⟨a1, k1⟩ := deps_of_trod Try.underlying22 Try.underlying24 ⟨rfl, rfl⟩ ⟨rfl, rfl⟩ Try.underlying3 Try.cells3 Try.cells24 (okWide_slice Try.underlying22 (hval 1 22 v1 rfl rfl)) h1
  obtain ⟨a2, k2⟩ := rows_of_trod Try.underlying34 Try.underlying56 Try.underlying3 Try.cells3 Try.cells56 (okWide_slice Try.underlying34 (hval 2 34 v2 rfl rfl)) h2
  have hw : Calls Try.prog 20 args W (fun e W' => e = .returned (.bool true) ∧ Below W.heap.size W W') := by
    rw [ha, e0]; exact rows_any a0 a1 a2 v1 v2 W k1 k2
  exact hw.mono fun e W' ⟨he, hb⟩ => ⟨_, he, law_post Try.laidOut hW' rfl rfl Try.underlying4 (by rw [hdd]; rfl)
    (by kernel_rfl) hb⟩

theorem holds : Rows.DependRowsSaid :=
  OpenClaim.holds_of_wide 20 Try.f20 rfl rfl rfl rfl rfl rfl rfl ⟨rfl, rfl, rfl, rfl, rfl⟩ rfl rfl rfl rfl rfl (by kernel_rfl) Try.func20 (by kernel_rfl)
    (of_decide_eq_true (by kernel_rfl)) (by unfold Func.isWrapper; first | (rw [if_pos (by decide +kernel)]; kernel_rfl) | (rw [if_neg (by decide +kernel)]; exact ⟨rfl, rfl⟩))
    (fun os started H enc _ => lifted os started H enc)
#print axioms holds
end dependRows
end Go.Proofs.Ytnidalbfmicoiaa
