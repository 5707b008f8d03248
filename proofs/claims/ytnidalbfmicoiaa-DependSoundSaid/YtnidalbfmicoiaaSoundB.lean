/- DependSound, part: the last step follows. -/
import Derived.Test.YtnidalbfmicoiaaSoundA
namespace Go.Proofs.Ytnidalbfmicoiaa
open Go.RowKit
set_option maxRecDepth 100000 in
set_option maxHeartbeats 4000000 in
theorem sound_yes_true {m : Nat} {l : List DepN} (hokl : Okl m l) (p P : List Stp) (hPt : p.take 102 = P) (Q : Nat) (hQ : P.length = Q + 1) (a b : Nat) (hlast : (stp P Q).2.2.2 = ((a : Int), (b : Int))) (ha : a < 2 ^ m) (hbb : b < 2 ^ m) (hfo : Sub b (cl l a)) (hOK : decide (ProofOk m (castD l) P) = true) (R : List (List Int)) (v u x : Value) (w : World) (hv : Deps w v (castD l)) (hu : Steps w u p) (hx : Rows w x R) :
    Calls Try.prog 11 #[.int .i64 m, v, u, x] w fun e w' => e = .returned (.bool true) ∧ Below w.heap.size w w' := by
  have Ha := Lib.hid ha
  have Hbb := Lib.hid hbb
  have Hfo := Lib.hid hfo
  clear ha hbb hfo
  have Hv := Lib.hid hv
  have Hu := Lib.hid hu
  have Hx := Lib.hid hx
  have Hokl := Lib.hid hokl
  have hval : ValidP m (castD l) [] := validP_nat hokl.h1 hokl.h8 hokl.h12 hokl.hl (t := []) (by simp)
  have Hval := Lib.hid hval
  have H14 := Lib.hid (show (castD l).take 14 = castD l from List.take_of_length_le (by simp [castD]; have := hokl.h12; omega))
  have HPt := Lib.hid hPt
  have HQ := Lib.hid hQ
  have HOK := Lib.hid hOK
  have hq102 : Q < 102 := by have : P.length ≤ 102 := by rw [← hPt]; simp; omega
                             omega
  have hp0 : p.length ≠ 0 := fun h => by rw [← hPt] at hQ; simp [h] at hQ
  have q0 : ((p.length : Int) == 0) = false := by rw [beq_eq_false_iff_ne]; omega
  obtain ⟨ua, ub, uoff, uc, rfl, hule, -, -, -⟩ := Steps.get hu
  have Hlast := Lib.hid hlast
  clear hv hu hx hval hPt hQ hOK hp0 hlast hokl
  go_enter Try.func11, Try.ntmps11
  go_wp2_with fail
  refine (deps_any _ _ _ Hv.out).mono ?_
  rintro e w1 ⟨v1, rfl, hd1, hb1⟩
  rw [H14.out] at hd1
  have Hb1 := Lib.hid hb1
  have Hd1 := Lib.hid hd1
  clear hb1 hd1
  go_wp2_with fail
  refine (steps_any _ _ _ (Steps.keep Hu.out Hb1.out)).mono ?_
  rintro e w2 ⟨u2, rfl, hs2, hb2⟩
  rw [HPt.out] at hs2
  have Hd2 := Lib.hid (Deps.keep Hd1.out hb2)
  have Hs2 := Lib.hid hs2
  have Hb2 := Lib.hid (Below.tr Hb1.out hb2)
  clear hb2 hs2
  go_wp2_with fail
  refine (check_any m _ P _ _ _ Hd2.out Hs2.out Hval.out).mono ?_
  rw [HOK.out]
  rintro e w3 ⟨rfl, hb3⟩
  have Hb3 := Lib.hid (Below.tr Hb2.out hb3)
  clear hb3
  go_wp2_with fail
  refine (steps_any _ _ _ (Steps.keep Hu.out Hb3.out)).mono ?_
  rintro e w4 ⟨u4, rfl, hs4, hb4⟩
  rw [HPt.out] at hs4
  have Hb4 := Lib.hid (Below.tr Hb3.out hb4)
  have Hs4 := Lib.hid hs4
  clear hb4 hs4
  go_wp2_with fail
  refine (steps_any _ _ _ (Steps.keep Hu.out Hb4.out)).mono ?_
  rintro e w5 ⟨u5, rfl, hs5, hb5⟩
  rw [HPt.out] at hs5
  have Hb5 := Lib.hid (Below.tr Hb4.out hb5)
  obtain ⟨ya, yb, yoff, yc, rfl, -, -, -, -⟩ := Steps.get hs5
  obtain ⟨xa, xb, xoff, xc, rfl, hxle, hxa, hxcap, hxc⟩ := Steps.get (Steps.keep Hs4.out hb5)
  have hixx := run_ix (P := Try.prog) (t := 46) (a := xa) (len := P.length) (cap := xc) (b := xb) (off := xoff) (s := 5) Try.underlying46 (by intro w; kernel_rfl) hxa Q
  obtain ⟨-, -, -, hx4, hx5⟩ := hxc Q (by have := HQ.out; omega)
  rw [stp_get (by have := HQ.out; omega)] at hx4 hx5
  rw [show (stp P Q).2.2.2.1 = (a : Int) from congrArg (·.1) Hlast.out] at hx4
  rw [show (stp P Q).2.2.2.2 = (b : Int) from congrArg (·.2) Hlast.out] at hx5
  rw [HQ.out] at hixx ⊢
  clear hb5 hs5 hxle hxa hxcap hxc
  go_wp2_with fail
  have d0 := cell_new w5 #[.int .i64 (a : Int), .int .i64 (b : Int)] 32 0
  have d1 := cell_new w5 #[.int .i64 (a : Int), .int .i64 (b : Int)] 32 1
  have hb6 := below_alloc w5 (.cells #[.int .i64 (a : Int), .int .i64 (b : Int)] 32)
  generalize w5.alloc (.cells #[.int .i64 (a : Int), .int .i64 (b : Int)] 32) = w6 at *
  have Hb6 := Lib.hid (Below.tr Hb5.out hb6)
  have D0 := Lib.hid d0
  have D1 := Lib.hid d1
  clear hb6 d0 d1 hx4 hx5 hixx
  have Hfd := Lib.hid (decide_eq_true Hfo.out)
  go_region_held3 (fun w' => w'.cell? ⟨w5.heap.size, 0, none⟩ = some (.int .i64 (a : Int)) ∧ w'.cell? ⟨w5.heap.size, 1, none⟩ = some (.int .i64 (b : Int)))
    ((refine hold2s D0.out D1.out ?_; repeat (first | assumption | exact Below.refl _ _ | refine Below.drew ?_ | refine Below.tr ?_ (below_alloc _ _) | refine Below.tr ?_ (by assumption))))
    (first | (go_at_call 22; refine (deps_any _ _ _ (by exact Deps.keep Hv.out (Below.tr Hb6.out (Below.refl _ _).drew))).mono ?_; rw [H14.out]; rintro e wa ⟨va, rfl, hda, hba⟩) | (go_at_call 23; refine ((followsE_ok Hokl.out Ha.out Hbb.out _ _ hda).mono (fun e w2 h => by rwa [Hfd.out] at h)).mono ?_; rintro e w7 ⟨rfl, hb7⟩))
  have Hc7 := Lib.hid (show Below w6.heap.size w6 w7 from Below.tr (Below.tr (Below.refl _ _).drew hba) hb7)
  clear hda hba hb7
  go_wp2_with fail
  go_region_held3 (fun w' => w'.cell? ⟨w5.heap.size, 0, none⟩ = some (.int .i64 (a : Int)) ∧ w'.cell? ⟨w5.heap.size, 1, none⟩ = some (.int .i64 (b : Int)))
    ((refine hold2s (Below.keep Hc7.out D0.out) (Below.keep Hc7.out D1.out) ?_; repeat (first | assumption | exact Below.refl _ _ | refine Below.drew ?_ | refine Below.tr ?_ (below_alloc _ _) | refine Below.tr ?_ (by assumption))))
    (first | (go_at_call 22; refine (deps_any _ _ _ (by exact Deps.keep Hv.out (Below.tr (Below.tr Hb6.out Hc7.out) (Below.refl _ _).drew))).mono ?_; rw [H14.out]; rintro e wa ⟨va, rfl, hda, hba⟩) | (go_at_call 34; refine (prove_yes Hokl.out Ha.out Hbb.out Hfo.out _ _ hda).mono ?_; rintro e w8 ⟨vq, q, rfl, hq8, hqp, hq27, hq1, hqlast, hb8⟩))
  have Hc8 := Lib.hid (show Below w6.heap.size w6 w8 from Below.tr Hc7.out (Below.tr (Below.tr (Below.refl _ _).drew hba) hb8))
  clear hda hba hb8
  have Hq8 := Lib.hid hq8
  have Hqp := Lib.hid hqp
  obtain ⟨Z, hZ⟩ : ∃ Z, q.length = Z + 1 := ⟨q.length - 1, by omega⟩
  have hz27 : Z < 27 := by omega
  rw [hZ, Nat.add_sub_cancel] at hqlast
  have Hqlast := Lib.hid hqlast
  have HZ := Lib.hid hZ
  obtain ⟨za, zb, zoff, zc, hzv, -, hza, -, hzc⟩ := Steps.get hq8
  subst hzv
  have hixz := run_ix (P := Try.prog) (t := 46) (a := za) (len := q.length) (cap := zc) (b := zb) (off := zoff) (s := 5) Try.underlying46 (by intro w; kernel_rfl) hza Z
  obtain ⟨-, -, -, hz4, hz5⟩ := hzc Z (by omega)
  rw [stp_get (by omega)] at hz4 hz5
  rw [show (stp q Z).2.2.2.1 = (a : Int) from congrArg (·.1) hqlast] at hz4
  rw [show (stp q Z).2.2.2.2 = (b : Int) from congrArg (·.2) hqlast] at hz5
  rw [hZ] at hixz
  have Hq8 := Lib.hid (show Steps w8 (.slice za (Z + 1) zc) q by rw [← hZ]; exact Hq8.out)
  rw [hZ]
  have Hz4 := Lib.hid hz4
  have Hz5 := Lib.hid hz5
  have Hixz := Lib.hid hixz
  clear hq8 hqp hq27 hq1 hqlast hZ hza hzc hixz hz4 hz5
  go_wp2_with fail
  go_region_held3 (fun w' => w'.cell? ⟨w5.heap.size, 0, none⟩ = some (.int .i64 (a : Int)) ∧ w'.cell? ⟨w5.heap.size, 1, none⟩ = some (.int .i64 (b : Int)))
    ((refine hold2s (Below.keep Hc8.out D0.out) (Below.keep Hc8.out D1.out) ?_; repeat (first | assumption | exact Below.refl _ _ | refine Below.drew ?_ | refine Below.tr ?_ (below_alloc _ _) | refine Below.tr ?_ (by assumption))))
    (first | (go_at_call 22; refine (deps_any _ _ _ (by exact Deps.keep Hv.out (Below.tr (Below.tr Hb6.out Hc8.out) (Below.refl _ _).drew))).mono ?_; rw [H14.out]; rintro e wa ⟨va, rfl, hda, hba⟩) | (go_at_call 25; refine (refute_yes Hokl.out Ha.out Hbb.out Hfo.out _ _ hda).mono ?_; rintro e w9 ⟨rfl, hb9⟩))
  have Hc9 := Lib.hid (show Below w6.heap.size w6 w9 from Below.tr Hc8.out (Below.tr (Below.tr (Below.refl _ _).drew hba) hb9))
  have Hq9 := Lib.hid (Steps.keep Hq8.out (Below.tr (Below.tr (Below.refl _ _).drew hba) hb9))
  have Hz9 := Lib.hid (Below.keep (Below.tr (Below.tr (Below.refl _ _).drew hba) hb9) Hz4.out)
  have Hy9 := Lib.hid (Below.keep (Below.tr (Below.tr (Below.refl _ _).drew hba) hb9) Hz5.out)
  clear hda hba hb9
  go_wp2_with fail
  refine (deps_any _ _ _ (Deps.keep Hv.out (Below.tr Hb6.out Hc9.out))).mono ?_
  rw [H14.out]
  rintro e wc ⟨vc, rfl, hdc, hbc⟩
  have Hdc := Lib.hid hdc
  have Hqc := Lib.hid (Steps.keep Hq9.out hbc)
  have Hzc := Lib.hid (Below.keep hbc Hz9.out)
  have Hyc := Lib.hid (Below.keep hbc Hy9.out)
  have Hcc := Lib.hid (Below.tr Hc9.out hbc)
  clear hdc hbc
  go_wp2_with fail
  refine (check_any m _ q _ _ _ Hdc.out Hqc.out Hval.out).mono ?_
  rw [decide_eq_true Hqp.out]
  rintro e wd ⟨rfl, hbd⟩
  have hz4 := Below.keep hbd Hzc.out
  have hz5 := Below.keep hbd Hyc.out
  have Hcd := Lib.hid (Below.tr Hcc.out hbd)
  have hd0 := Below.keep Hcd.out D0.out
  have hd1 := Below.keep Hcd.out D1.out
  clear hbd Hdc
  have f1 : IntKind.i64.wrap ((Z : Int) + 1 - 1) = (Z : Int) := by rw [IntWalk.i64_in _ ⟨by omega, by omega⟩]; omega
  have f3 : IntKind.i64.wrap (Z : Int) = (Z : Int) := IntWalk.i64_in _ ⟨by omega, by omega⟩
  have qa : ((a : Int) == (a : Int)) = true := by simp
  have qb : ((b : Int) == (b : Int)) = true := by simp
  have hixz := Hixz.out
  go_wp2_with fail
  go_quiet (fail)
  clear f1 f3 qa qb hixz hz4 hz5 hd0 hd1
  have Hcd2 := Lib.hid (show ∀ q, Below w6.heap.size w6 (wd.drewN q) from fun q => bdrewN Hcd.out q)
  go_wp2_with fail
  refine (deps_any _ _ _ (Deps.keep Hv.out (Below.tr Hb6.out (Hcd2.out _)))).mono ?_
  rw [H14.out]
  rintro e wL ⟨dv, rfl, hdL, hbL⟩
  have HcL := Lib.hid (Below.tr (Hcd2.out _) hbL)
  have e0 : (castD l).length = l.length := by simp [castD]
  obtain ⟨da, db, doff, dcap, hdv, hdle, hda, hdc⟩ := Deps.get hdL
  subst hdv
  have hixd := run_ix (P := Try.prog) (t := 28) (a := da) (len := (castD l).length) (cap := dcap) (b := db) (off := doff) (s := 2) Try.underlying28 (by intro w; kernel_rfl) hda
  rw [e0] at hixd
  have Hdc := Lib.hid (show ∀ i (h : i < l.length), wL.cell? ⟨db, doff + i * 2, none⟩ = some (.int .i64 ((l[i].1 : Nat) : Int)) ∧ wL.cell? ⟨db, doff + i * 2 + 1, none⟩ = some (.int .i64 ((l[i].2 : Nat) : Int)) from fun i hi => by
    have := hdc i (by omega)
    simpa [castD] using this)
  rw [e0]
  have Hixd := Lib.hid hixd
  have hl12 := Hokl.out.h12
  clear hdL hbL e0 hdle hda hdc hixd
  go_wp2_with fail
  go_loopw [19, 169] (fun al i wr => ∃ (k : Nat) (A : Bool), al = .bool A ∧ i = .int .i64 k ∧ k ≤ l.length ∧ Below wL.heap.size wL wr ∧ (A = true → ∀ j (h : j < l.length), j < k → TableP m (fewR R) ∧ HoldsR (fewR R) l[j].1 l[j].2)) (fun _ i _ => l.length - (intOf i).toNat)
  case atStart => exact ⟨0, true, rfl, rfl, Nat.zero_le _, Below.refl _ _, fun _ j _ hj => by omega⟩
  case round =>
    obtain ⟨k, A, rfl, rfl, hk, hb, hin⟩ := hrel
    have Hin := Lib.hid hin
    have Hb := Lib.hid hb
    clear hin hb
    by_cases hlt : k < l.length
    · have hc1 := Below.keep Hb.out (Hdc.out k hlt).1
      have hc2 := Below.keep Hb.out (Hdc.out k hlt).2
      have hixk := Hixd.out k
      have hlk := Hokl.out.hl _ (List.getElem_mem hlt)
      obtain ⟨g, hg⟩ : ∃ g, g = l[k] := ⟨_, rfl⟩
      rw [← hg] at hc1 hc2 hlk
      have Hg := Lib.hid hg
      have Hlk := Lib.hid hlk
      clear hg hlk
      go_upto_region 20 with fail
      have g0 := cell_new wr #[.int .i64 (g.1 : Int), .int .i64 (g.2 : Int)] 32 0
      have g1 := cell_new wr #[.int .i64 (g.1 : Int), .int .i64 (g.2 : Int)] 32 1
      have hbg := below_alloc wr (.cells #[.int .i64 (g.1 : Int), .int .i64 (g.2 : Int)] 32)
      generalize wr.alloc (.cells #[.int .i64 (g.1 : Int), .int .i64 (g.2 : Int)] 32) = wg at *
      have G0 := Lib.hid g0
      have G1 := Lib.hid g1
      have Hbg := Lib.hid (Below.tr Hb.out hbg)
      clear g0 g1 hbg hc1 hc2 hixk
      have HA := Lib.hid (show ∃ (is : Bool) (er : Int), (∀ v' w', Rows w' v' (fewR R) → Calls Try.prog 46 #[.int .i64 m, v', .agg #[.int .i64 (g.1 : Int), .int .i64 (g.2 : Int)]] w' fun e w'' => e = .returned (.tuple #[.bool is, .int .i64 er]) ∧ Below w'.heap.size w' w'') ∧ ((is = true ∧ er = 0 ∧ TableP m (fewR R) ∧ HoldsR (fewR R) g.1 g.2) ∨ (is = false ∧ (er = 0 ∨ er = 2))) by
        by_cases TV : TableP m (fewR R)
        · by_cases hH : HoldsR (fewR R) g.1 g.2
          · exact ⟨true, 0, fun v' w' hr => (holds_ok Hokl.out.h1 Hokl.out.h8 Hlk.out.1 Hlk.out.2 _ TV v' w' hr).mono fun e w2 h => by rwa [decide_eq_true hH] at h, .inl ⟨rfl, rfl, TV, hH⟩⟩
          · exact ⟨false, 0, fun v' w' hr => (holds_ok Hokl.out.h1 Hokl.out.h8 Hlk.out.1 Hlk.out.2 _ TV v' w' hr).mono fun e w2 h => by rwa [decide_eq_false hH] at h, .inr ⟨rfl, .inl rfl⟩⟩
        · exact ⟨false, 2, fun v' w' hr => holds_bad m _ _ _ v' w' hr (fun h => TV h.2), .inr ⟨rfl, .inr rfl⟩⟩)
      obtain ⟨is, er, hcall, hcases⟩ := HA.out
      have Hcall := Lib.hid hcall
      have Hcases := Lib.hid hcases
      clear hcall hcases HA
      go_region_held3 (fun w' => w'.cell? ⟨wr.heap.size, 0, none⟩ = some (.int .i64 (g.1 : Int)) ∧ w'.cell? ⟨wr.heap.size, 1, none⟩ = some (.int .i64 (g.2 : Int)))
        ((refine hold2s G0.out G1.out ?_; repeat (first | assumption | exact Below.refl _ _ | refine Below.drew ?_ | refine Below.tr ?_ (below_alloc _ _) | refine Below.tr ?_ (by assumption))))
        (first | (go_at_call 47; refine (few_any R _ _ (by exact Rows.keep Hx.out (Below.tr (Below.tr (Below.tr Hb6.out HcL.out) Hbg.out) (Below.refl _ _).drew))).mono ?_; rintro e wh ⟨vh, rfl, hrh, hbh⟩) | (go_at_call 46; refine (Hcall.out _ _ hrh).mono ?_; rintro e wi ⟨rfl, hbi⟩))
      have Hbi := Lib.hid (show Below wL.heap.size wL wi from Below.tr Hbg.out (Below.tr (Below.tr (Below.refl _ _).drew hbh) hbi))
      clear hrh hbh hbi
      rcases Hcases.out with ⟨rfl, rfl, hTV, hH⟩ | ⟨rfl, hE⟩
      · have R1 := Lib.hid (show A = true → ∀ j (h : j < l.length), j < k + 1 → TableP m (fewR R) ∧ HoldsR (fewR R) l[j].1 l[j].2 from fun hA j hj hjk => by
          by_cases e : j = k
          · subst e; rw [← Hg.out]; exact ⟨hTV, hH⟩
          · exact Hin.out hA j hj (by omega))
        clear hTV hH
        cases A
        · go_wp2_with fail
          go_roundw
          case rel => exact ⟨k + 1, false, rfl, by go_num, by omega, Hbi.out, fun h => by cases h⟩
          case measure => simp [intOf]; omega
        · go_wp2_with fail
          go_roundw
          case rel => exact ⟨k + 1, true, rfl, by go_num, by omega, Hbi.out, R1.out⟩
          case measure => simp [intOf]; omega
      · clear hE
        cases A
        · go_wp2_with fail
          go_roundw
          case rel => exact ⟨k + 1, false, rfl, by go_num, by omega, Hbi.out, fun h => by cases h⟩
          case measure => simp [intOf]; omega
        · go_wp2_with fail
          go_roundw
          case rel => exact ⟨k + 1, false, rfl, by go_num, by omega, Hbi.out, fun h => by cases h⟩
          case measure => simp [intOf]; omega
    · obtain rfl : k = l.length := by omega
      go_upto_region 23 with fail
      have Hbl := Lib.hid (Below.tr HcL.out Hb.out)
      have HE := Lib.hid (show ∃ (is : Bool) (er : Int), (∀ v' w', Rows w' v' (fewR R) → Calls Try.prog 46 #[.int .i64 m, v', .agg #[.int .i64 (a : Int), .int .i64 (b : Int)]] w' fun e w'' => e = .returned (.tuple #[.bool is, .int .i64 er]) ∧ Below w'.heap.size w' w'') ∧ ((er = 2 ∧ is = false) ∨ (er = 0 ∧ (A = true → (Sub b (cl l a)) → is = true))) by
        by_cases TV : TableP m (fewR R)
        · refine ⟨decide (HoldsR (fewR R) a b), 0, fun v' w' hr => holds_ok Hokl.out.h1 Hokl.out.h8 Ha.out Hbb.out _ TV v' w' hr, .inr ⟨rfl, fun hA hF => ?_⟩⟩
          refine decide_eq_true (holdsR_follows2 Hokl.out.h8 (fun r hr => by have := TV.2 r hr; omega) (fun d hd => ?_) hF)
          obtain ⟨j, hj, rfl⟩ := List.getElem_of_mem hd
          exact (Hin.out hA j hj hj).2
        · exact ⟨false, 2, fun v' w' hr => holds_bad m _ _ _ v' w' hr (fun h => TV h.2), .inl ⟨rfl, rfl⟩⟩)
      obtain ⟨is, er, hcall, hcases⟩ := HE.out
      have Hcall := Lib.hid hcall
      have Hcases := Lib.hid hcases
      clear hcall hcases HE
      go_region_held3 (fun w' => w'.cell? ⟨w5.heap.size, 0, none⟩ = some (.int .i64 (a : Int)) ∧ w'.cell? ⟨w5.heap.size, 1, none⟩ = some (.int .i64 (b : Int)))
        ((refine hold2s (Below.keep Hbl.out D0.out) (Below.keep Hbl.out D1.out) ?_; repeat (first | assumption | exact Below.refl _ _ | refine Below.drew ?_ | refine Below.tr ?_ (below_alloc _ _) | refine Below.tr ?_ (by assumption))))
        (first | (go_at_call 47; refine (few_any R _ _ (by exact Rows.keep Hx.out (Below.tr (Below.tr Hb6.out Hbl.out) (Below.refl _ _).drew))).mono ?_; rintro e wh ⟨vh, rfl, hrh, hbh⟩) | (go_at_call 46; refine (Hcall.out _ _ hrh).mono ?_; rintro e wi ⟨rfl, hbi⟩))
      have Hbi := Lib.hid (show Below w.heap.size w wi from Below.tr (Below.tr Hb6.out Hbl.out) (Below.tr (Below.tr (Below.refl _ _).drew hbh) hbi))
      clear hrh hbh hbi
      rcases Hcases.out with ⟨rfl, rfl⟩ | ⟨rfl, hI⟩
      · cases A
        all_goals
          go_wp2_with fail
          refine (awake_any _).mono ?_
          rintro e wu ⟨rfl, hbu⟩
          have Hbu := Lib.hid (Below.tr Hbi.out hbu)
          clear hbu
          go_wp2_with fail
          go_ret
          exact ⟨rfl, Hbu.out⟩
      · cases A
        · clear hI
          go_wp2_with fail
          refine (awake_any _).mono ?_
          rintro e wu ⟨rfl, hbu⟩
          have Hbu := Lib.hid (Below.tr Hbi.out hbu)
          clear hbu
          go_wp2_with fail
          go_ret
          exact ⟨rfl, Hbu.out⟩
        · obtain rfl := hI rfl Hfo.out
          go_wp2_with fail
          refine (awake_any _).mono ?_
          rintro e wu ⟨rfl, hbu⟩
          have Hbu := Lib.hid (Below.tr Hbi.out hbu)
          clear hbu
          go_wp2_with fail
          go_ret
          exact ⟨rfl, Hbu.out⟩
end Go.Proofs.Ytnidalbfmicoiaa
