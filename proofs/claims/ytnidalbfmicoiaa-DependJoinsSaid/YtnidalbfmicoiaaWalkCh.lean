/- Contract of the reference's Lossless. -/
import Derived.Test.YtnidalbfmicoiaaWalkCg
import Derived.Test.YtnidalbfmicoiaaWalkCf
namespace Go.Proofs.Ytnidalbfmicoiaa
open Go.RowKit

theorem end_ex {l : List DepN} {T0 : List (List Int)} {k m : Nat} : ∀ (n : Nat) (T : List (List Int)), tsum T ≤ n → Inv l T0 k m T → ∃ T', ChaseEnd l T0 k m T' := by
  intro n
  induction n with
  | zero =>
    intro T hn hI
    refine ⟨T, hI, fun d hd i j hi hj hag a ha hb => ?_⟩
    apply Classical.byContradiction
    intro hne
    have := (step_all hI hd hi hj hag ha hb hne).2
    omega
  | succ n ih =>
    intro T hn hI
    by_cases hK : Kept l T k m
    · exact ⟨T, hI, hK⟩
    · have : ∃ d ∈ l, ∃ i j a, i < k ∧ j < k ∧ AgreeOn T m d.1 i j ∧ a < m ∧ d.2.testBit a = true ∧ cell T i a ≠ cell T j a := by
        apply Classical.byContradiction
        intro hno
        apply hK
        intro d hd i j hi hj hag a ha hb
        apply Classical.byContradiction
        intro hne
        exact hno ⟨d, hd, i, j, a, hi, hj, hag, ha, hb, hne⟩
      obtain ⟨d, hd, i, j, a, hi, hj, hag, ha, hb, hne⟩ := this
      obtain ⟨s1, s2⟩ := step_all hI hd hi hj hag ha hb hne
      exact ih _ (by omega) s1
theorem chase_ex {m k : Nat} {l : List DepN} (_hok : Okl m l) (q : List Nat) (_hk : k = q.length) (_hq : PartsN m q) : ∃ T, ChaseEnd l (initTo q m k) k m T :=
  end_ex _ _ (Nat.le_refl _) (init_inv l q m k)
theorem zeros_sub {x : List Int} {m F : Nat} (hF : F = 2 ^ m) (h : x.length = m) : Sub (F - 1) (agr x (List.replicate m 0)) ↔ ∀ a, a < m → x.getD a 0 = 0 := by
  rw [← agr_zero hF h]
  constructor
  · intro hs
    apply Sub.antisymm _ hs
    rw [hF]
    apply sub_full
    apply Nat.lt_pow_two_of_testBit
    intro a ha
    unfold agr
    rw [h, testBit_agrTo]
    simp; omega
  · intro e; rw [e]; exact Sub.refl _
set_option maxRecDepth 100000 in
theorem lossR_any {m k : Nat} {l : List DepN} (hok : Okl m l) (q : List Nat) (hk : k = q.length) (hq : PartsN m q) (v u : Value) (w : World) (hv : Deps w v (castD l)) (hu : Ints w u (castN q)) :
    Calls Try.prog 59 #[.int .i64 m, v, u] w fun e w' => ∃ b T, e = .returned (.bool b) ∧ ChaseEnd l (initTo q m k) k m T ∧ (b = true ↔ ZeroRow T k m) ∧ Below w.heap.size w w' := by
  have Hv := Lib.hid hv
  have Hu := Lib.hid hu
  have Hk := Lib.hid hk
  have Hok := Lib.hid hok
  have Hq := Lib.hid hq
  have hm8 := hok.h8
  have hk8 : k ≤ 8 := by rw [hk]; exact hq.2.1
  obtain ⟨F, hF⟩ : ∃ F, F = 2 ^ m := ⟨_, rfl⟩
  have p256 := pow_small m hm8
  have pc : (2 : Int) ^ m = ((2 ^ m : Nat) : Int) := by simp
  have hF1 : 1 ≤ F := by rw [hF]; exact Nat.two_pow_pos m
  rw [← hF] at p256 pc
  have qF : ((F : Int) - 1) = ((F - 1 : Nat) : Int) := by omega
  have HF := Lib.hid hF
  obtain ⟨i0, hi, hz0, hz1, hz2⟩ := info_parts info3
  have Hi := Lib.hid hi
  have Hz0 := Lib.hid hz0
  have Hz1 := Lib.hid hz1
  have hby : i0.bytes * m ≤ 281474976710656 := by rw [hz2]; omega
  have Hby := Lib.hid hby
  obtain ⟨a, b, off, cap, hva, -⟩ := Deps.get hv
  subst hva
  clear hi hz0 hz1 hz2 hby hv hu hk hok hq hF
  go_enter Try.func59, Try.ntmps59
  go_wp2_with (refine wpList_make_full _ rfl (.tmp 10) (.tmp 10) 56 rfl w.heap.size 3 i0 (.int .i64 0) 1 Try.underlying56 Hi.out Hz0.out Hz1.out .i64 .i64 _ _ m rfl rfl rfl rfl Hby.out (by unfold maxLen; omega) (Nat.le_refl _) ?_; intro w3 hown hg)
  have hz : OwnInts w.heap.size w3 (.slice (some ⟨w.heap.size, 0, none⟩) m m) (List.replicate m 0) := by
    have e : (madeCells (Value.int IntKind.i64 0).cells (m * 1)).toList = (List.replicate m (0 : Int)).map (Value.int .i64) := by rw [Nat.mul_one]; exact zeros_list m
    rw [e] at hown
    unfold OwnInts
    simpa using hown
  have hb3 : Below w.heap.size w w3 := (Below.refl _ _).grown hg (Nat.le_refl _) (fun k hk => by cases hk)
  have Hz := Lib.hid hz.ints
  have Hb3 := Lib.hid hb3
  clear hown hg hz hb3
  go_wp2_with fail
  refine (chaseR_any Hok.out q Hk.out (by rw [Hk.out]; exact Hq.out.1) hk8 Hq.out.2.2.1 _ _ _ (Deps.keep Hv.out Hb3.out) (Ints.keep Hu.out Hb3.out)).mono ?_
  rintro e w4 ⟨v', T, rfl, hr, he, hb4⟩
  have He := Lib.hid he
  have Hb4 := Lib.hid (Below.tr Hb3.out hb4)
  have Hz4 := Lib.hid (Ints.keep Hz.out hb4)
  have hTl : T.length = k := he.1.1.1
  have Hsh := Lib.hid he.1.1
  obtain ⟨ra, rb, roff, rcap, vs, rfl, hrle, hra, hvs, hrc, hri⟩ := Rows.get hr
  rw [hTl] at hrle hra hvs ⊢
  have hix := run_ix (P := Try.prog) (t := 34) (a := ra) (len := k) (cap := rcap) (b := rb) (off := roff) (s := 1) Try.underlying34 (by intro w; kernel_rfl) hra
  have Hrc := Lib.hid hrc
  have Hri := Lib.hid hri
  have Hvs := Lib.hid hvs
  have HTl := Lib.hid hTl
  clear hr he hb4 hra hrc hri hvs hTl
  go_wp2_with fail
  go_loopw [17] (fun i wr => ∃ j : Nat, i = .int .i64 j ∧ j ≤ k ∧ Below w4.heap.size w4 wr ∧ ∀ i, i < j → ¬ ∀ a, a < m → cell T i a = 0) (fun i _ => k - (intOf i).toNat)
  case atStart => exact ⟨0, rfl, Nat.zero_le _, Below.refl _ _, fun i hi => by omega⟩
  case round =>
    obtain ⟨j, rfl, hj, hb, hin⟩ := hrel
    have Hb := Lib.hid hb
    have Hin := Lib.hid hin
    clear hb hin
    by_cases hlt : j < k
    · have hj2 : j < vs.length := by have := Hvs.out; omega
      have hj3 : j < T.length := by have := HTl.out; omega
      have hcell := Below.keep Hb.out (Hrc.out j hj2)
      have HI := Lib.hid (Ints.keep (Hri.out j hj3 hj2) Hb.out)
      have hrow : row T j = T[j] := by unfold row; simp [List.getD, hj3]
      have hlen : T[j].length = m := by rw [← hrow]; exact Hsh.out.2 j hlt
      have Hcell := Lib.hid (show ∀ a, T[j].getD a 0 = cell T j a from fun a => by unfold cell; rw [hrow])
      have Hzero := Lib.hid (zeros_sub HF.out hlen)
      have Hlen := Lib.hid hlen
      clear hrow hlen
      generalize vs[j] = vj at *
      go_wp2_with fail
      refine (agreeR_any T[j] (List.replicate m 0) (by rw [Hlen.out]; exact hm8) (by rw [Hlen.out]; simp) (F - 1) (by rw [Hlen.out, ← HF.out]; omega) _ _ _ HI.out (Ints.keep Hz4.out Hb.out)).mono ?_
      rintro e w5 ⟨rfl, hb5⟩
      have Hb5 := Lib.hid (Below.tr Hb.out hb5)
      clear hb5
      by_cases hz : Sub (F - 1) (agr T[j] (List.replicate m 0))
      · rw [decide_eq_true hz]
        have R := Lib.hid (show ZeroRow T k m from ⟨j, hlt, fun a ha => by rw [← Hcell.out a]; exact Hzero.out.1 hz a ha⟩)
        clear hz
        go_wp2_with fail
        go_ret
        exact ⟨true, T, rfl, He.out, ⟨fun _ => R.out, fun _ => rfl⟩, Below.tr Hb4.out Hb5.out⟩
      · rw [decide_eq_false hz]
        have R := Lib.hid (show ∀ i, i < j + 1 → ¬ ∀ a, a < m → cell T i a = 0 from fun i hi => by
          rcases Nat.lt_succ_iff_lt_or_eq.1 hi with hi | rfl
          · exact Hin.out i hi
          · intro h; exact hz (Hzero.out.2 fun a ha => by rw [Hcell.out a]; exact h a ha))
        clear hz
        go_wp2_with fail
        go_roundw
        case rel => exact ⟨j + 1, by go_num, by omega, Hb5.out, R.out⟩
        case measure => simp [intOf]; omega
    · obtain rfl : j = k := by omega
      have R := Lib.hid (show ¬ ZeroRow T j m from fun ⟨i, hi, h⟩ => Hin.out i hi h)
      go_wp2_with fail
      go_ret
      exact ⟨false, T, rfl, He.out, ⟨fun h => (by cases h), fun h => absurd h R.out⟩, Below.tr Hb4.out Hb.out⟩
end Go.Proofs.Ytnidalbfmicoiaa
