/- DependSound: for every input the law returns true. -/
import Derived.Test.YtnidalbfmicoiaaWalkSi
import Derived.Test.YtnidalbfmicoiaaWalkV
import Derived.Test.YtnidalbfmicoiaaWalkX
import Derived.Test.YtnidalbfmicoiaaFrameS
import Derived.Test.YtnidalbfmicoiaaFacts
import Derived.Test.YtnidalbfmicoiaaRows
namespace Go.Proofs.Ytnidalbfmicoiaa
open Go.RowKit

theorem check_any (m : Nat) (l : List (Int × Int)) (p : List Stp) (v u : Value) (w : World) (hv : Deps w v l) (hu : Steps w u p) (hgood : ValidP m l []) :
    Calls Try.prog 37 #[.int .i64 m, v, u] w fun e w' => e = .returned (.tuple #[.bool (decide (ProofOk m l p)), .int .i64 0]) ∧ Below w.heap.size w w' := by
  by_cases hp : 1 ≤ p.length ∧ p.length ≤ 100
  · exact check_good m l p v u w hv hu hgood hp.1 hp.2
  · refine (check_len m l p v u w hv hu hgood hp).mono fun e w' h => ?_
    rw [decide_eq_false fun h => hp h.2]; exact h
theorem valid_take2 {n : Int} {l : List (Int × Int)} {s : List Int} : ValidP n (l.take 14) s ↔ ValidP n l s := by
  by_cases h : l.length ≤ 14
  · rw [List.take_of_length_le h]
  · constructor
    · intro hv
      have := hv.1.2.2
      simp at this
      omega
    · intro hv
      have := hv.1.2.2
      omega
theorem holdsR_follows2 {l : List DepN} {R : List (List Int)} {n s t : Nat} (h8 : n ≤ 8) (hn : ∀ r ∈ R, r.length = n) (hall : ∀ d ∈ l, HoldsR R d.1 d.2) (h : Sub t (cl l s)) : HoldsR R s t := fun e he hs => by
  have h1 := agr_lt hn he
  have h2 : 2 ^ n ≤ 256 := by have := Nat.pow_le_pow_right (n := 2) (by decide) h8; simpa using this
  exact h.trans (cl_least (by omega) hs fun d hd hd1 => hall d hd e he hd1)
/-- every step of a proof follows -/
theorem proof_sound {m : Nat} {l : List DepN} (hok : Okl m l) {p : List Stp} (h : ProofOk m (castD l) p) : ∀ (N k : Nat), k < N → k < p.length → ∃ a b : Nat, (stp p k).2.2.2 = ((a : Int), (b : Int)) ∧ a < 2 ^ m ∧ b < 2 ^ m ∧ Sub b (cl l a) := by
  have h8 : 2 ^ m ≤ 256 := hok.pow.1
  intro N
  induction N with
  | zero => intro k hk; omega
  | succ N ih =>
    intro k hkN hk
    obtain ⟨hP, hS⟩ := h.1 k hk
    obtain ⟨a, ha, ha2⟩ := hP.1.nat
    obtain ⟨b, hb, hb2⟩ := hP.2.nat
    have hst : (stp p k).2.2.2 = ((a : Int), (b : Int)) := Prod.ext ha hb
    refine ⟨a, b, hst, ha2, hb2, ?_⟩
    rcases hS with ⟨_, q⟩ | ⟨_, q⟩ | ⟨_, q⟩ | ⟨_, q⟩
    · obtain ⟨q1, q2, _, q4, q5⟩ := q
      have hi : (stp p k).2.1.toNat < l.length := by simp [castD] at q2; omega
      rw [nth_cast hi] at q4 q5
      rw [ha] at q4
      rw [hb] at q5
      have e1 : a = l[(stp p k).2.1.toNat].1 := by have : (a : Int) = (l[(stp p k).2.1.toNat].1 : Int) := q4; omega
      have e2 : b = l[(stp p k).2.1.toNat].2 := by have : (b : Int) = (l[(stp p k).2.1.toNat].2 : Int) := q5; omega
      have hd := cl_clsd (s := a) hok.lt _ (List.getElem_mem hi)
      rw [← e1, ← e2] at hd
      exact hd (sub_cl (by omega))
    · obtain ⟨_, _, q3⟩ := q
      rw [ha, hb, bits_andNot_nat b a (by omega) (by omega)] at q3
      have : Sub b a := by have : ((ndiff b a : Nat) : Int) = 0 := q3; unfold Sub; omega
      exact this.trans (sub_cl (by omega))
    · obtain ⟨q1, q2, q3, q4, q5⟩ := q
      obtain ⟨x, y, e, hx, hy, hxy⟩ := ih (stp p k).2.1.toNat (by omega) (by omega)
      obtain ⟨j, hj, hj2⟩ := q3.nat
      rw [hj] at q4 q5
      rw [show (stp p (stp p k).2.1.toNat).2.2.2.1 = (x : Int) from congrArg (·.1) e, ha, bits_or_nat x j (by omega) (by omega)] at q4
      rw [show (stp p (stp p k).2.1.toNat).2.2.2.2 = (y : Int) from congrArg (·.2) e, hb, bits_or_nat y j (by omega) (by omega)] at q5
      obtain rfl : a = x ||| j := by omega
      obtain rfl : b = y ||| j := by omega
      exact or_sub (hxy.trans (cl_mono hok.lt (by omega) (sub_or_left _ _))) ((sub_or_right _ _).trans (sub_cl (by omega)))
    · obtain ⟨q1, q2, q3, q4, q5, q6, q7⟩ := q
      obtain ⟨x, y, e, hx, hy, hxy⟩ := ih (stp p k).2.1.toNat (by omega) (by omega)
      obtain ⟨x', y', e', hx', hy', hxy'⟩ := ih (stp p k).2.2.1.toNat (by omega) (by omega)
      rw [show (stp p (stp p k).2.1.toNat).2.2.2.2 = (y : Int) from congrArg (·.2) e, show (stp p (stp p k).2.2.1.toNat).2.2.2.1 = (x' : Int) from congrArg (·.1) e'] at q5
      rw [show (stp p (stp p k).2.1.toNat).2.2.2.1 = (x : Int) from congrArg (·.1) e, ha] at q6
      rw [show (stp p (stp p k).2.2.1.toNat).2.2.2.2 = (y' : Int) from congrArg (·.2) e', hb] at q7
      obtain rfl : a = x := by omega
      obtain rfl : b = y' := by omega
      obtain rfl : y = x' := by omega
      refine hxy'.trans ?_
      have := cl_mono hok.lt (cl_lt l a) hxy
      rwa [cl_idem hok.lt] at this
theorem hold2s {w w' : World} {a0 a1 : Addr} {v0 v1 : Value} (c0 : w.cell? a0 = some v0) (c1 : w.cell? a1 = some v1) (hb : Below w.heap.size w w') :
    w'.cell? a0 = some v0 ∧ w'.cell? a1 = some v1 := ⟨Below.keep hb c0, Below.keep hb c1⟩
set_option maxRecDepth 100000 in
theorem sound_bad (n : Int) (l : List (Int × Int)) (p : List Stp) (v u x : Value) (w : World) (hv : Deps w v l) (hu : Steps w u p) (h : ¬ ValidP n l []) :
    Calls Try.prog 11 #[.int .i64 n, v, u, x] w fun e w' => e = .returned (.bool true) ∧ Below w.heap.size w w' := by
  have Hv := Lib.hid hv
  have Hu := Lib.hid hu
  have H14 := Lib.hid (show ¬ ValidP n (l.take 14) [] from fun hh => h (valid_take2.1 hh))
  clear hv hu h
  go_enter Try.func11, Try.ntmps11
  go_wp2_with fail
  refine (deps_any _ _ _ Hv.out).mono ?_
  rintro e w1 ⟨v1, rfl, hd1, hb1⟩
  have Hb1 := Lib.hid hb1
  have Hd1 := Lib.hid hd1
  clear hb1 hd1
  go_wp2_with fail
  refine (steps_any _ _ _ (Steps.keep Hu.out Hb1.out)).mono ?_
  rintro e w2 ⟨u2, rfl, hs2, hb2⟩
  have Hd2 := Lib.hid (Deps.keep Hd1.out hb2)
  have Hb2 := Lib.hid (Below.tr Hb1.out hb2)
  clear hb2 hs2
  go_wp2_with fail
  refine (check_bad n _ _ _ _ Hd2.out H14.out).mono ?_
  rintro e w3 ⟨rfl, hb3⟩
  have Hb3 := Lib.hid (Below.tr Hb2.out hb3)
  clear hb3
  go_wp2_with fail
  refine (awake_any _).mono ?_
  rintro e w4 ⟨rfl, hb4⟩
  have Hb4 := Lib.hid (Below.tr Hb3.out hb4)
  clear hb4
  go_wp2_with fail
  go_ret
  exact ⟨rfl, Hb4.out⟩
set_option maxRecDepth 100000 in
theorem sound_nil {m : Nat} {l : List (Int × Int)} (h : ValidP m l []) (v u x : Value) (w : World) (hv : Deps w v l) (hu : Steps w u []) :
    Calls Try.prog 11 #[.int .i64 m, v, u, x] w fun e w' => e = .returned (.bool true) ∧ Below w.heap.size w w' := by
  have Hv := Lib.hid hv
  have Hu := Lib.hid hu
  have H := Lib.hid h
  have H14 := Lib.hid (show l.take 14 = l from List.take_of_length_le (by have := h.1.2.2; omega))
  obtain ⟨ua, ub, uoff, uc, rfl, -, -, -, -⟩ := Steps.get hu
  clear hv hu h
  go_enter Try.func11, Try.ntmps11
  go_wp2_with fail
  refine (deps_any _ _ _ Hv.out).mono ?_
  rintro e w1 ⟨v1, rfl, hd1, hb1⟩
  rw [H14.out] at hd1
  have Hb1 := Lib.hid hb1
  have Hd1 := Lib.hid hd1
  clear hb1 hd1
  go_wp2_with fail
  refine (steps_any _ _ _ (Steps.keep Hu.out Hb1.out)).mono ?_
  rintro e w2 ⟨u2, rfl, hs2, hb2⟩
  have Hd2 := Lib.hid (Deps.keep Hd1.out hb2)
  have Hs2 := Lib.hid hs2
  have Hb2 := Lib.hid (Below.tr Hb1.out hb2)
  clear hb2 hs2
  go_wp2_with fail
  refine (check_len m _ _ _ _ _ Hd2.out Hs2.out H.out (by simp)).mono ?_
  rintro e w3 ⟨rfl, hb3⟩
  have Hb3 := Lib.hid (Below.tr Hb2.out hb3)
  clear hb3
  go_wp2_with fail
  refine (awake_any _).mono ?_
  rintro e w4 ⟨rfl, hb4⟩
  have Hb4 := Lib.hid (Below.tr Hb3.out hb4)
  clear hb4
  go_wp2_with fail
  go_ret
  exact ⟨rfl, Hb4.out⟩
set_option maxRecDepth 100000 in
set_option maxHeartbeats 4000000 in
theorem sound_out {m : Nat} {l : List DepN} (hokl : Okl m l) (p P : List Stp) (hPt : p.take 102 = P) (Q : Nat) (hQ : P.length = Q + 1) (s t : Int) (hlast : (stp P Q).2.2.2 = (s, t)) (hout : ¬ (InSet m s ∧ InSet m t)) (hOK : decide (ProofOk m (castD l) P) = false) (R : List (List Int)) (v u x : Value) (w : World) (hv : Deps w v (castD l)) (hu : Steps w u p) (hx : Rows w x R) :
    Calls Try.prog 11 #[.int .i64 m, v, u, x] w fun e w' => e = .returned (.bool true) ∧ Below w.heap.size w w' := by
  have Hout := Lib.hid (show ¬ ValidP m (castD l) [s, t] from fun hq => hout ((hokl.valid2 s t).1 hq))
  clear hout
  have Hv := Lib.hid hv
  have Hu := Lib.hid hu
  have Hx := Lib.hid hx
  have Hokl := Lib.hid hokl
  have hval : ValidP m (castD l) [] := validP_nat hokl.h1 hokl.h8 hokl.h12 hokl.hl (t := []) (by simp)
  have Hval := Lib.hid hval
  have H14 := Lib.hid (show (castD l).take 14 = castD l from List.take_of_length_le (by simp [castD]; have := hokl.h12; omega))
  have HPt := Lib.hid hPt
  have HQ := Lib.hid hQ
  have HOK := Lib.hid hOK
  have hq102 : Q < 102 := by have : P.length ≤ 102 := by rw [← hPt]; simp; omega
                             omega
  have hp0 : p.length ≠ 0 := fun h => by rw [← hPt] at hQ; simp [h] at hQ
  have q0 : ((p.length : Int) == 0) = false := by rw [beq_eq_false_iff_ne]; omega
  obtain ⟨ua, ub, uoff, uc, rfl, hule, -, -, -⟩ := Steps.get hu
  have Hlast := Lib.hid hlast
  clear hv hu hx hval hPt hQ hOK hp0 hlast hokl
  go_enter Try.func11, Try.ntmps11
  go_wp2_with fail
  refine (deps_any _ _ _ Hv.out).mono ?_
  rintro e w1 ⟨v1, rfl, hd1, hb1⟩
  rw [H14.out] at hd1
  have Hb1 := Lib.hid hb1
  have Hd1 := Lib.hid hd1
  clear hb1 hd1
  go_wp2_with fail
  refine (steps_any _ _ _ (Steps.keep Hu.out Hb1.out)).mono ?_
  rintro e w2 ⟨u2, rfl, hs2, hb2⟩
  rw [HPt.out] at hs2
  have Hd2 := Lib.hid (Deps.keep Hd1.out hb2)
  have Hs2 := Lib.hid hs2
  have Hb2 := Lib.hid (Below.tr Hb1.out hb2)
  clear hb2 hs2
  go_wp2_with fail
  refine (check_any m _ P _ _ _ Hd2.out Hs2.out Hval.out).mono ?_
  rw [HOK.out]
  rintro e w3 ⟨rfl, hb3⟩
  have Hb3 := Lib.hid (Below.tr Hb2.out hb3)
  clear hb3
  go_wp2_with fail
  refine (steps_any _ _ _ (Steps.keep Hu.out Hb3.out)).mono ?_
  rintro e w4 ⟨u4, rfl, hs4, hb4⟩
  rw [HPt.out] at hs4
  have Hb4 := Lib.hid (Below.tr Hb3.out hb4)
  have Hs4 := Lib.hid hs4
  clear hb4 hs4
  go_wp2_with fail
  refine (steps_any _ _ _ (Steps.keep Hu.out Hb4.out)).mono ?_
  rintro e w5 ⟨u5, rfl, hs5, hb5⟩
  rw [HPt.out] at hs5
  have Hb5 := Lib.hid (Below.tr Hb4.out hb5)
  obtain ⟨ya, yb, yoff, yc, rfl, -, -, -, -⟩ := Steps.get hs5
  obtain ⟨xa, xb, xoff, xc, rfl, hxle, hxa, hxcap, hxc⟩ := Steps.get (Steps.keep Hs4.out hb5)
  have hixx := run_ix (P := Try.prog) (t := 46) (a := xa) (len := P.length) (cap := xc) (b := xb) (off := xoff) (s := 5) Try.underlying46 (by intro w; kernel_rfl) hxa Q
  obtain ⟨-, -, -, hx4, hx5⟩ := hxc Q (by have := HQ.out; omega)
  rw [stp_get (by have := HQ.out; omega)] at hx4 hx5
  rw [show (stp P Q).2.2.2.1 = s from congrArg (·.1) Hlast.out] at hx4
  rw [show (stp P Q).2.2.2.2 = t from congrArg (·.2) Hlast.out] at hx5
  rw [HQ.out] at hixx ⊢
  clear hb5 hs5 hxle hxa hxcap hxc
  go_wp2_with fail
  have d0 := cell_new w5 #[.int .i64 s, .int .i64 t] 32 0
  have d1 := cell_new w5 #[.int .i64 s, .int .i64 t] 32 1
  have hb6 := below_alloc w5 (.cells #[.int .i64 s, .int .i64 t] 32)
  generalize w5.alloc (.cells #[.int .i64 s, .int .i64 t] 32) = w6 at *
  have Hb6 := Lib.hid (Below.tr Hb5.out hb6)
  have D0 := Lib.hid d0
  have D1 := Lib.hid d1
  clear hb6 d0 d1 hx4 hx5 hixx
  go_region_held3 (fun w' => w'.cell? ⟨w5.heap.size, 0, none⟩ = some (.int .i64 s) ∧ w'.cell? ⟨w5.heap.size, 1, none⟩ = some (.int .i64 t))
    ((refine hold2s D0.out D1.out ?_; repeat (first | assumption | exact Below.refl _ _ | refine Below.drew ?_ | refine Below.tr ?_ (below_alloc _ _) | refine Below.tr ?_ (by assumption))))
    (first | (go_at_call 22; refine (deps_any _ _ _ (by exact Deps.keep Hv.out (Below.tr Hb6.out (Below.refl _ _).drew))).mono ?_; rw [H14.out]; rintro e wa ⟨va, rfl, hda, hba⟩) | (go_at_call 23; refine (followsE_bad m s t _ _ _ hda Hout.out).mono ?_; rintro e w7 ⟨rfl, hb7⟩))
  have Hc7 := Lib.hid (show Below w6.heap.size w6 w7 from Below.tr (Below.tr (Below.refl _ _).drew hba) hb7)
  clear hda hba hb7
  go_wp2_with fail
  go_region_held3 (fun w' => w'.cell? ⟨w5.heap.size, 0, none⟩ = some (.int .i64 s) ∧ w'.cell? ⟨w5.heap.size, 1, none⟩ = some (.int .i64 t))
    ((refine hold2s (Below.keep Hc7.out D0.out) (Below.keep Hc7.out D1.out) ?_; repeat (first | assumption | exact Below.refl _ _ | refine Below.drew ?_ | refine Below.tr ?_ (below_alloc _ _) | refine Below.tr ?_ (by assumption))))
    (first | (go_at_call 22; refine (deps_any _ _ _ (by exact Deps.keep Hv.out (Below.tr (Below.tr Hb6.out Hc7.out) (Below.refl _ _).drew))).mono ?_; rw [H14.out]; rintro e wa ⟨va, rfl, hda, hba⟩) | (go_at_call 34; refine (prove_bad m s t _ _ _ hda Hout.out).mono ?_; rintro e w8 ⟨rfl, hb8⟩))
  have Hc8 := Lib.hid (show Below w6.heap.size w6 w8 from Below.tr Hc7.out (Below.tr (Below.tr (Below.refl _ _).drew hba) hb8))
  clear hda hba hb8
  go_wp2_with fail
  go_region_held3 (fun w' => w'.cell? ⟨w5.heap.size, 0, none⟩ = some (.int .i64 s) ∧ w'.cell? ⟨w5.heap.size, 1, none⟩ = some (.int .i64 t))
    ((refine hold2s (Below.keep Hc8.out D0.out) (Below.keep Hc8.out D1.out) ?_; repeat (first | assumption | exact Below.refl _ _ | refine Below.drew ?_ | refine Below.tr ?_ (below_alloc _ _) | refine Below.tr ?_ (by assumption))))
    (first | (go_at_call 22; refine (deps_any _ _ _ (by exact Deps.keep Hv.out (Below.tr (Below.tr Hb6.out Hc8.out) (Below.refl _ _).drew))).mono ?_; rw [H14.out]; rintro e wa ⟨va, rfl, hda, hba⟩) | (go_at_call 25; refine (refute_bad m s t _ _ _ hda Hout.out).mono ?_; rintro e w9 ⟨rfl, hb9⟩))
  have Hc9 := Lib.hid (show Below w6.heap.size w6 w9 from Below.tr Hc8.out (Below.tr (Below.tr (Below.refl _ _).drew hba) hb9))
  clear hda hba hb9
  go_wp2_with fail
  refine (awake_any _).mono ?_
  rintro e wu ⟨rfl, hbu⟩
  have Hbu := Lib.hid (Below.tr (Below.tr Hb6.out Hc9.out) hbu)
  clear hbu
  go_wp2_with fail
  go_ret
  exact ⟨rfl, Hbu.out⟩
set_option maxRecDepth 100000 in
set_option maxHeartbeats 4000000 in
theorem sound_not {m : Nat} {l : List DepN} (hokl : Okl m l) (p P : List Stp) (hPt : p.take 102 = P) (Q : Nat) (hQ : P.length = Q + 1) (a b : Nat) (hlast : (stp P Q).2.2.2 = ((a : Int), (b : Int))) (ha : a < 2 ^ m) (hbb : b < 2 ^ m) (hfo : ¬ Sub b (cl l a)) (hOK : decide (ProofOk m (castD l) P) = false) (R : List (List Int)) (v u x : Value) (w : World) (hv : Deps w v (castD l)) (hu : Steps w u p) (hx : Rows w x R) :
    Calls Try.prog 11 #[.int .i64 m, v, u, x] w fun e w' => e = .returned (.bool true) ∧ Below w.heap.size w w' := by
  have Ha := Lib.hid ha
  have Hbb := Lib.hid hbb
  have Hfo := Lib.hid hfo
  clear ha hbb hfo
  have Hv := Lib.hid hv
  have Hu := Lib.hid hu
  have Hx := Lib.hid hx
  have Hokl := Lib.hid hokl
  have hval : ValidP m (castD l) [] := validP_nat hokl.h1 hokl.h8 hokl.h12 hokl.hl (t := []) (by simp)
  have Hval := Lib.hid hval
  have H14 := Lib.hid (show (castD l).take 14 = castD l from List.take_of_length_le (by simp [castD]; have := hokl.h12; omega))
  have HPt := Lib.hid hPt
  have HQ := Lib.hid hQ
  have HOK := Lib.hid hOK
  have hq102 : Q < 102 := by have : P.length ≤ 102 := by rw [← hPt]; simp; omega
                             omega
  have hp0 : p.length ≠ 0 := fun h => by rw [← hPt] at hQ; simp [h] at hQ
  have q0 : ((p.length : Int) == 0) = false := by rw [beq_eq_false_iff_ne]; omega
  obtain ⟨ua, ub, uoff, uc, rfl, hule, -, -, -⟩ := Steps.get hu
  have Hlast := Lib.hid hlast
  clear hv hu hx hval hPt hQ hOK hp0 hlast hokl
  go_enter Try.func11, Try.ntmps11
  go_wp2_with fail
  refine (deps_any _ _ _ Hv.out).mono ?_
  rintro e w1 ⟨v1, rfl, hd1, hb1⟩
  rw [H14.out] at hd1
  have Hb1 := Lib.hid hb1
  have Hd1 := Lib.hid hd1
  clear hb1 hd1
  go_wp2_with fail
  refine (steps_any _ _ _ (Steps.keep Hu.out Hb1.out)).mono ?_
  rintro e w2 ⟨u2, rfl, hs2, hb2⟩
  rw [HPt.out] at hs2
  have Hd2 := Lib.hid (Deps.keep Hd1.out hb2)
  have Hs2 := Lib.hid hs2
  have Hb2 := Lib.hid (Below.tr Hb1.out hb2)
  clear hb2 hs2
  go_wp2_with fail
  refine (check_any m _ P _ _ _ Hd2.out Hs2.out Hval.out).mono ?_
  rw [HOK.out]
  rintro e w3 ⟨rfl, hb3⟩
  have Hb3 := Lib.hid (Below.tr Hb2.out hb3)
  clear hb3
  go_wp2_with fail
  refine (steps_any _ _ _ (Steps.keep Hu.out Hb3.out)).mono ?_
  rintro e w4 ⟨u4, rfl, hs4, hb4⟩
  rw [HPt.out] at hs4
  have Hb4 := Lib.hid (Below.tr Hb3.out hb4)
  have Hs4 := Lib.hid hs4
  clear hb4 hs4
  go_wp2_with fail
  refine (steps_any _ _ _ (Steps.keep Hu.out Hb4.out)).mono ?_
  rintro e w5 ⟨u5, rfl, hs5, hb5⟩
  rw [HPt.out] at hs5
  have Hb5 := Lib.hid (Below.tr Hb4.out hb5)
  obtain ⟨ya, yb, yoff, yc, rfl, -, -, -, -⟩ := Steps.get hs5
  obtain ⟨xa, xb, xoff, xc, rfl, hxle, hxa, hxcap, hxc⟩ := Steps.get (Steps.keep Hs4.out hb5)
  have hixx := run_ix (P := Try.prog) (t := 46) (a := xa) (len := P.length) (cap := xc) (b := xb) (off := xoff) (s := 5) Try.underlying46 (by intro w; kernel_rfl) hxa Q
  obtain ⟨-, -, -, hx4, hx5⟩ := hxc Q (by have := HQ.out; omega)
  rw [stp_get (by have := HQ.out; omega)] at hx4 hx5
  rw [show (stp P Q).2.2.2.1 = (a : Int) from congrArg (·.1) Hlast.out] at hx4
  rw [show (stp P Q).2.2.2.2 = (b : Int) from congrArg (·.2) Hlast.out] at hx5
  rw [HQ.out] at hixx ⊢
  clear hb5 hs5 hxle hxa hxcap hxc
  go_wp2_with fail
  have d0 := cell_new w5 #[.int .i64 (a : Int), .int .i64 (b : Int)] 32 0
  have d1 := cell_new w5 #[.int .i64 (a : Int), .int .i64 (b : Int)] 32 1
  have hb6 := below_alloc w5 (.cells #[.int .i64 (a : Int), .int .i64 (b : Int)] 32)
  generalize w5.alloc (.cells #[.int .i64 (a : Int), .int .i64 (b : Int)] 32) = w6 at *
  have Hb6 := Lib.hid (Below.tr Hb5.out hb6)
  have D0 := Lib.hid d0
  have D1 := Lib.hid d1
  clear hb6 d0 d1 hx4 hx5 hixx
  have Hfd := Lib.hid (decide_eq_false Hfo.out)
  go_region_held3 (fun w' => w'.cell? ⟨w5.heap.size, 0, none⟩ = some (.int .i64 (a : Int)) ∧ w'.cell? ⟨w5.heap.size, 1, none⟩ = some (.int .i64 (b : Int)))
    ((refine hold2s D0.out D1.out ?_; repeat (first | assumption | exact Below.refl _ _ | refine Below.drew ?_ | refine Below.tr ?_ (below_alloc _ _) | refine Below.tr ?_ (by assumption))))
    (first | (go_at_call 22; refine (deps_any _ _ _ (by exact Deps.keep Hv.out (Below.tr Hb6.out (Below.refl _ _).drew))).mono ?_; rw [H14.out]; rintro e wa ⟨va, rfl, hda, hba⟩) | (go_at_call 23; refine ((followsE_ok Hokl.out Ha.out Hbb.out _ _ hda).mono (fun e w2 h => by rwa [Hfd.out] at h)).mono ?_; rintro e w7 ⟨rfl, hb7⟩))
  have Hc7 := Lib.hid (show Below w6.heap.size w6 w7 from Below.tr (Below.tr (Below.refl _ _).drew hba) hb7)
  clear hda hba hb7
  go_wp2_with fail
  go_region_held3 (fun w' => w'.cell? ⟨w5.heap.size, 0, none⟩ = some (.int .i64 (a : Int)) ∧ w'.cell? ⟨w5.heap.size, 1, none⟩ = some (.int .i64 (b : Int)))
    ((refine hold2s (Below.keep Hc7.out D0.out) (Below.keep Hc7.out D1.out) ?_; repeat (first | assumption | exact Below.refl _ _ | refine Below.drew ?_ | refine Below.tr ?_ (below_alloc _ _) | refine Below.tr ?_ (by assumption))))
    (first | (go_at_call 22; refine (deps_any _ _ _ (by exact Deps.keep Hv.out (Below.tr (Below.tr Hb6.out Hc7.out) (Below.refl _ _).drew))).mono ?_; rw [H14.out]; rintro e wa ⟨va, rfl, hda, hba⟩) | (go_at_call 34; refine (prove_none Hokl.out Ha.out Hbb.out Hfo.out _ _ hda).mono ?_; rintro e w8 ⟨rfl, hb8⟩))
  have Hc8 := Lib.hid (show Below w6.heap.size w6 w8 from Below.tr Hc7.out (Below.tr (Below.tr (Below.refl _ _).drew hba) hb8))
  clear hda hba hb8
  go_wp2_with fail
  go_region_held3 (fun w' => w'.cell? ⟨w5.heap.size, 0, none⟩ = some (.int .i64 (a : Int)) ∧ w'.cell? ⟨w5.heap.size, 1, none⟩ = some (.int .i64 (b : Int)))
    ((refine hold2s (Below.keep Hc8.out D0.out) (Below.keep Hc8.out D1.out) ?_; repeat (first | assumption | exact Below.refl _ _ | refine Below.drew ?_ | refine Below.tr ?_ (below_alloc _ _) | refine Below.tr ?_ (by assumption))))
    (first | (go_at_call 22; refine (deps_any _ _ _ (by exact Deps.keep Hv.out (Below.tr (Below.tr Hb6.out Hc8.out) (Below.refl _ _).drew))).mono ?_; rw [H14.out]; rintro e wa ⟨va, rfl, hda, hba⟩) | (go_at_call 25; refine (refute_no Hokl.out Ha.out Hbb.out Hfo.out _ _ hda).mono ?_; rintro e w9 ⟨vr, rfl, hrr, hb9⟩))
  have Hc9 := Lib.hid (show Below w6.heap.size w6 w9 from Below.tr Hc8.out (Below.tr (Below.tr (Below.refl _ _).drew hba) hb9))
  clear hda hba hb9 hrr
  go_wp2_with fail
  refine (deps_any _ _ _ (Deps.keep Hv.out (Below.tr Hb6.out Hc9.out))).mono ?_
  rw [H14.out]
  rintro e wL ⟨dv, rfl, hdL, hbL⟩
  have HcL := Lib.hid (Below.tr Hc9.out hbL)
  have e0 : (castD l).length = l.length := by simp [castD]
  obtain ⟨da, db, doff, dcap, hdv, hdle, hda, hdc⟩ := Deps.get hdL
  subst hdv
  have hixd := run_ix (P := Try.prog) (t := 28) (a := da) (len := (castD l).length) (cap := dcap) (b := db) (off := doff) (s := 2) Try.underlying28 (by intro w; kernel_rfl) hda
  rw [e0] at hixd
  have Hdc := Lib.hid (show ∀ i (h : i < l.length), wL.cell? ⟨db, doff + i * 2, none⟩ = some (.int .i64 ((l[i].1 : Nat) : Int)) ∧ wL.cell? ⟨db, doff + i * 2 + 1, none⟩ = some (.int .i64 ((l[i].2 : Nat) : Int)) from fun i hi => by
    have := hdc i (by omega)
    simpa [castD] using this)
  rw [e0]
  have Hixd := Lib.hid hixd
  have hl12 := Hokl.out.h12
  clear hdL hbL e0 hdle hda hdc hixd
  go_wp2_with fail
  go_loopw [19, 169] (fun al i wr => ∃ (k : Nat) (A : Bool), al = .bool A ∧ i = .int .i64 k ∧ k ≤ l.length ∧ Below wL.heap.size wL wr ∧ (A = true → ∀ j (h : j < l.length), j < k → TableP m (fewR R) ∧ HoldsR (fewR R) l[j].1 l[j].2)) (fun _ i _ => l.length - (intOf i).toNat)
  case atStart => exact ⟨0, true, rfl, rfl, Nat.zero_le _, Below.refl _ _, fun _ j _ hj => by omega⟩
  case round =>
    obtain ⟨k, A, rfl, rfl, hk, hb, hin⟩ := hrel
    have Hin := Lib.hid hin
    have Hb := Lib.hid hb
    clear hin hb
    by_cases hlt : k < l.length
    · have hc1 := Below.keep Hb.out (Hdc.out k hlt).1
      have hc2 := Below.keep Hb.out (Hdc.out k hlt).2
      have hixk := Hixd.out k
      have hlk := Hokl.out.hl _ (List.getElem_mem hlt)
      obtain ⟨g, hg⟩ : ∃ g, g = l[k] := ⟨_, rfl⟩
      rw [← hg] at hc1 hc2 hlk
      have Hg := Lib.hid hg
      have Hlk := Lib.hid hlk
      clear hg hlk
      go_upto_region 20 with fail
      have g0 := cell_new wr #[.int .i64 (g.1 : Int), .int .i64 (g.2 : Int)] 32 0
      have g1 := cell_new wr #[.int .i64 (g.1 : Int), .int .i64 (g.2 : Int)] 32 1
      have hbg := below_alloc wr (.cells #[.int .i64 (g.1 : Int), .int .i64 (g.2 : Int)] 32)
      generalize wr.alloc (.cells #[.int .i64 (g.1 : Int), .int .i64 (g.2 : Int)] 32) = wg at *
      have G0 := Lib.hid g0
      have G1 := Lib.hid g1
      have Hbg := Lib.hid (Below.tr Hb.out hbg)
      clear g0 g1 hbg hc1 hc2 hixk
      have HA := Lib.hid (show ∃ (is : Bool) (er : Int), (∀ v' w', Rows w' v' (fewR R) → Calls Try.prog 46 #[.int .i64 m, v', .agg #[.int .i64 (g.1 : Int), .int .i64 (g.2 : Int)]] w' fun e w'' => e = .returned (.tuple #[.bool is, .int .i64 er]) ∧ Below w'.heap.size w' w'') ∧ ((is = true ∧ er = 0 ∧ TableP m (fewR R) ∧ HoldsR (fewR R) g.1 g.2) ∨ (is = false ∧ (er = 0 ∨ er = 2))) by
        by_cases TV : TableP m (fewR R)
        · by_cases hH : HoldsR (fewR R) g.1 g.2
          · exact ⟨true, 0, fun v' w' hr => (holds_ok Hokl.out.h1 Hokl.out.h8 Hlk.out.1 Hlk.out.2 _ TV v' w' hr).mono fun e w2 h => by rwa [decide_eq_true hH] at h, .inl ⟨rfl, rfl, TV, hH⟩⟩
          · exact ⟨false, 0, fun v' w' hr => (holds_ok Hokl.out.h1 Hokl.out.h8 Hlk.out.1 Hlk.out.2 _ TV v' w' hr).mono fun e w2 h => by rwa [decide_eq_false hH] at h, .inr ⟨rfl, .inl rfl⟩⟩
        · exact ⟨false, 2, fun v' w' hr => holds_bad m _ _ _ v' w' hr (fun h => TV h.2), .inr ⟨rfl, .inr rfl⟩⟩)
      obtain ⟨is, er, hcall, hcases⟩ := HA.out
      have Hcall := Lib.hid hcall
      have Hcases := Lib.hid hcases
      clear hcall hcases HA
      go_region_held3 (fun w' => w'.cell? ⟨wr.heap.size, 0, none⟩ = some (.int .i64 (g.1 : Int)) ∧ w'.cell? ⟨wr.heap.size, 1, none⟩ = some (.int .i64 (g.2 : Int)))
        ((refine hold2s G0.out G1.out ?_; repeat (first | assumption | exact Below.refl _ _ | refine Below.drew ?_ | refine Below.tr ?_ (below_alloc _ _) | refine Below.tr ?_ (by assumption))))
        (first | (go_at_call 47; refine (few_any R _ _ (by exact Rows.keep Hx.out (Below.tr (Below.tr (Below.tr Hb6.out HcL.out) Hbg.out) (Below.refl _ _).drew))).mono ?_; rintro e wh ⟨vh, rfl, hrh, hbh⟩) | (go_at_call 46; refine (Hcall.out _ _ hrh).mono ?_; rintro e wi ⟨rfl, hbi⟩))
      have Hbi := Lib.hid (show Below wL.heap.size wL wi from Below.tr Hbg.out (Below.tr (Below.tr (Below.refl _ _).drew hbh) hbi))
      clear hrh hbh hbi
      rcases Hcases.out with ⟨rfl, rfl, hTV, hH⟩ | ⟨rfl, hE⟩
      · have R1 := Lib.hid (show A = true → ∀ j (h : j < l.length), j < k + 1 → TableP m (fewR R) ∧ HoldsR (fewR R) l[j].1 l[j].2 from fun hA j hj hjk => by
          by_cases e : j = k
          · subst e; rw [← Hg.out]; exact ⟨hTV, hH⟩
          · exact Hin.out hA j hj (by omega))
        clear hTV hH
        cases A
        · go_wp2_with fail
          go_roundw
          case rel => exact ⟨k + 1, false, rfl, by go_num, by omega, Hbi.out, fun h => by cases h⟩
          case measure => simp [intOf]; omega
        · go_wp2_with fail
          go_roundw
          case rel => exact ⟨k + 1, true, rfl, by go_num, by omega, Hbi.out, R1.out⟩
          case measure => simp [intOf]; omega
      · clear hE
        cases A
        · go_wp2_with fail
          go_roundw
          case rel => exact ⟨k + 1, false, rfl, by go_num, by omega, Hbi.out, fun h => by cases h⟩
          case measure => simp [intOf]; omega
        · go_wp2_with fail
          go_roundw
          case rel => exact ⟨k + 1, false, rfl, by go_num, by omega, Hbi.out, fun h => by cases h⟩
          case measure => simp [intOf]; omega
    · obtain rfl : k = l.length := by omega
      go_upto_region 23 with fail
      have Hbl := Lib.hid (Below.tr HcL.out Hb.out)
      have HE := Lib.hid (show ∃ (is : Bool) (er : Int), (∀ v' w', Rows w' v' (fewR R) → Calls Try.prog 46 #[.int .i64 m, v', .agg #[.int .i64 (a : Int), .int .i64 (b : Int)]] w' fun e w'' => e = .returned (.tuple #[.bool is, .int .i64 er]) ∧ Below w'.heap.size w' w'') ∧ ((er = 2 ∧ is = false) ∨ (er = 0 ∧ (A = true → (Sub b (cl l a)) → is = true))) by
        by_cases TV : TableP m (fewR R)
        · refine ⟨decide (HoldsR (fewR R) a b), 0, fun v' w' hr => holds_ok Hokl.out.h1 Hokl.out.h8 Ha.out Hbb.out _ TV v' w' hr, .inr ⟨rfl, fun hA hF => ?_⟩⟩
          refine decide_eq_true (holdsR_follows2 Hokl.out.h8 (fun r hr => by have := TV.2 r hr; omega) (fun d hd => ?_) hF)
          obtain ⟨j, hj, rfl⟩ := List.getElem_of_mem hd
          exact (Hin.out hA j hj hj).2
        · exact ⟨false, 2, fun v' w' hr => holds_bad m _ _ _ v' w' hr (fun h => TV h.2), .inl ⟨rfl, rfl⟩⟩)
      obtain ⟨is, er, hcall, hcases⟩ := HE.out
      have Hcall := Lib.hid hcall
      have Hcases := Lib.hid hcases
      clear hcall hcases HE
      go_region_held3 (fun w' => w'.cell? ⟨w5.heap.size, 0, none⟩ = some (.int .i64 (a : Int)) ∧ w'.cell? ⟨w5.heap.size, 1, none⟩ = some (.int .i64 (b : Int)))
        ((refine hold2s (Below.keep Hbl.out D0.out) (Below.keep Hbl.out D1.out) ?_; repeat (first | assumption | exact Below.refl _ _ | refine Below.drew ?_ | refine Below.tr ?_ (below_alloc _ _) | refine Below.tr ?_ (by assumption))))
        (first | (go_at_call 47; refine (few_any R _ _ (by exact Rows.keep Hx.out (Below.tr (Below.tr Hb6.out Hbl.out) (Below.refl _ _).drew))).mono ?_; rintro e wh ⟨vh, rfl, hrh, hbh⟩) | (go_at_call 46; refine (Hcall.out _ _ hrh).mono ?_; rintro e wi ⟨rfl, hbi⟩))
      have Hbi := Lib.hid (show Below w.heap.size w wi from Below.tr (Below.tr Hb6.out Hbl.out) (Below.tr (Below.tr (Below.refl _ _).drew hbh) hbi))
      clear hrh hbh hbi
      rcases Hcases.out with ⟨rfl, rfl⟩ | ⟨rfl, hI⟩
      · cases A
        all_goals
          go_wp2_with fail
          refine (awake_any _).mono ?_
          rintro e wu ⟨rfl, hbu⟩
          have Hbu := Lib.hid (Below.tr Hbi.out hbu)
          clear hbu
          go_wp2_with fail
          go_ret
          exact ⟨rfl, Hbu.out⟩
      · cases A
        · clear hI
          go_wp2_with fail
          refine (awake_any _).mono ?_
          rintro e wu ⟨rfl, hbu⟩
          have Hbu := Lib.hid (Below.tr Hbi.out hbu)
          clear hbu
          go_wp2_with fail
          go_ret
          exact ⟨rfl, Hbu.out⟩
        · clear hI
          go_wp2_with fail
          refine (awake_any _).mono ?_
          rintro e wu ⟨rfl, hbu⟩
          have Hbu := Lib.hid (Below.tr Hbi.out hbu)
          clear hbu
          go_wp2_with fail
          go_ret
          exact ⟨rfl, Hbu.out⟩
end Go.Proofs.Ytnidalbfmicoiaa
