/- Contract of the reference's Mine. -/
import Derived.Test.YtnidalbfmicoiaaWalkK
namespace Go.Proofs.Ytnidalbfmicoiaa
open Go.RowKit

theorem mod_succ_bit {x j : Nat} (h : x.testBit j = true) : x % 2 ^ (j + 1) = x % 2 ^ j ||| 2 ^ j := by
  apply Nat.eq_of_testBit_eq; intro i
  rw [Nat.testBit_mod_two_pow, Nat.testBit_or, Nat.testBit_mod_two_pow, Nat.testBit_two_pow]
  by_cases e : i = j
  · subst e; simp [h]
  · have : (i < j + 1) ↔ i < j := by omega
    have e2 : ¬ j = i := fun h => e h.symm
    simp [this, e2]
theorem mod_succ_no {x j : Nat} (h : x.testBit j = false) : x % 2 ^ (j + 1) = x % 2 ^ j := by
  apply Nat.eq_of_testBit_eq; intro i
  rw [Nat.testBit_mod_two_pow, Nat.testBit_mod_two_pow]
  by_cases e : i = j
  · subst e; simp [h]
  · have : (i < j + 1) ↔ i < j := by omega
    simp [this]
theorem sub_bit {x j : Nat} : Sub (2 ^ j) x ↔ x.testBit j = true := by
  constructor
  · exact fun h => sub_iff.1 h j (Nat.testBit_two_pow_self)
  · intro h
    refine sub_iff.2 fun i hi => ?_
    rw [Nat.testBit_two_pow] at hi
    simp at hi
    subst hi; exact h

set_option maxHeartbeats 4000000 in
set_option maxRecDepth 100000 in
theorem mineR_F {m F : Nat} (h1 : 1 ≤ m) (h8 : m ≤ 8) (hF : F = 2 ^ m) (R : List (List Int)) (hlen : ∀ r ∈ R, r.length = m) (v : Value) (w : World) (hv : Rows w v R) :
    Calls Try.prog 50 #[.int .i64 m, v] w fun e w' => ∃ v', e = .returned v' ∧ Deps w' v' (castD (critTo (tcl R F) F)) ∧ Below w.heap.size w w' := by
  have pc : (2 : Int) ^ m = (F : Int) := by rw [hF]; simp
  have p1 := pow_small m h8
  have p2 := Nat.two_pow_pos m
  rw [← hF] at p1 p2
  have Hcl := Lib.hid (tcl_isCl (R := R) hF).lt
  have Hlen := Lib.hid hlen
  have Hv := Lib.hid hv
  have HF := Lib.hid hF
  clear hv hF hlen
  go_enter Try.func50, Try.ntmps50
  go_wp2_with fail
  go_loopw [5, 11] (fun o i wr => ∃ k : Nat, i = .int .i64 k ∧ k ≤ F ∧ Below w.heap.size w wr ∧ wr.ownsRow w.heap.size 3 1 o k (((List.range k).map fun k => ((tcl R F k : Nat) : Int)).map (Value.int .i64))) (fun _ i _ => F - (intOf i).toNat)
  case atStart => exact ⟨0, rfl, Nat.zero_le _, Below.refl _ _, World.ownsRow_nil _ _ _ _⟩
  case round =>
    obtain ⟨k, rfl, hk, hb, hown⟩ := hrel
    have Hb := Lib.hid hb
    have Hown := Lib.hid hown
    clear hb hown
    by_cases hlt : k < F
    · have hkl := Hcl.out k hlt
      go_wp2_with fail
      obtain ⟨wo, rfl⟩ : ∃ wo : World, wo = wr := ⟨_, rfl⟩
      go_loopw [7, 15] (fun x i wr => ∃ j : Nat, x = .int .i64 (tcl R F k % 2 ^ j : Nat) ∧ i = .int .i64 j ∧ j ≤ m ∧ Below wo.heap.size wo wr) (fun _ i _ => m - (intOf i).toNat)
      case atStart => exact ⟨0, by simp [Nat.mod_one], rfl, Nat.zero_le _, Below.refl _ _⟩
      case round =>
        obtain ⟨j, rfl, rfl, hj, hb'⟩ := hrel
        have Hb' := Lib.hid hb'
        clear hb'
        by_cases hlj : j < m
        · obtain ⟨p, hp⟩ : ∃ p : Nat, p = 2 ^ j := ⟨_, rfl⟩
          have q2 := pow_small j (by omega)
          have e1 : (2 : Int) ^ j = (p : Int) := by rw [hp]; simp
          have hpF : p < F := by rw [hp, HF.out]; exact Nat.pow_lt_pow_right (by decide) hlj
          rw [← hp] at q2
          have hst := holdsR_tcl (R := R) (s := k) (t := p) HF.out hpF
          rw [hp, sub_bit, ← hp] at hst
          have hle : tcl R F k % 2 ^ j ≤ tcl R F k := Nat.mod_le _ _
          have b1 : (tcl R F k).testBit j = true → tcl R F k % 2 ^ (j + 1) = tcl R F k % 2 ^ j ||| p := fun h => by rw [mod_succ_bit h, hp]
          have b2 := @mod_succ_no (tcl R F k) j
          have B1 := Lib.hid b1
          have B2 := Lib.hid b2
          have HH := Lib.hid (holdsRef_any (s := k) (t := p) h8 (by rw [← HF.out]; exact hlt) (by rw [← HF.out]; exact hpF) R Hlen.out _ _ (Rows.keep Hv.out (Below.tr Hb.out Hb'.out)))
          clear b1 b2 hp
          obtain ⟨z, hz⟩ : ∃ z, z = tcl R F k % 2 ^ j := ⟨_, rfl⟩
          have t1 := bits_or_nat z p (by omega) (by omega)
          rw [← hz] at B1 B2 ⊢
          clear hz hle
          go_wp2_with fail
          refine HH.out.mono ?_
          rintro e w2 ⟨rfl, hb2⟩
          have Hb2 := Lib.hid (Below.tr Hb'.out hb2)
          clear hb2
          cases hbit : (tcl R F k).testBit j with
          | true =>
            rw [decide_eq_true (hst.2 hbit)]
            have HB := Lib.hid (B1.out hbit)
            clear hst hbit
            go_wp2_with fail
            go_roundw
            case rel => exact ⟨j + 1, by rw [HB.out], by go_num, by omega, Hb2.out⟩
            case measure => simp [intOf]; omega
          | false =>
            rw [decide_eq_false (fun h => by have := hst.1 h; rw [hbit] at this; cases this)]
            have HB := Lib.hid (B2.out hbit)
            clear hst hbit
            go_wp2_with fail
            go_roundw
            case rel => exact ⟨j + 1, by rw [HB.out], by go_num, by omega, Hb2.out⟩
            case measure => simp [intOf]; omega
        · obtain rfl : j = m := by omega
          have hmod : tcl R F k % 2 ^ j = tcl R F k := Nat.mod_eq_of_lt (by rw [← HF.out]; exact hkl)
          rw [hmod]
          have Hb3 := Lib.hid (Below.tr Hb.out Hb'.out)
          have Hown3 := Lib.hid (owns_keep Hown.out Hb'.out)
          clear hmod
          go_wp2_with (at_builtin; refine append_own rfl (.tmp 29) (.tmp 31) 56 rfl elem56 rfl (World.ownsRow.alloc Hown3.out _) [.int .i64 (tcl R F k : Nat)] rfl rfl (by intro j u hj; go_simp) (by intro u hu; simp at hu; subst hu; rfl) (by omega) (by simp; have := Hb3.out.size; omega) ?_)
          intro v' w6 hown6 hb6 _
          have HB := Lib.hid ((Hb3.out.alloc Hb3.out.size _).trans hb6)
          have HO := Lib.hid (show w6.ownsRow w.heap.size 3 1 v' (k + 1) (((List.range (k + 1)).map fun k => ((tcl R F k : Nat) : Int)).map (Value.int .i64)) by
            rw [List.range_succ]; simpa using hown6)
          clear hown6 hb6
          go_wp2_with fail
          go_roundw
          case rel => exact ⟨k + 1, by go_num, by omega, HB.out, HO.out⟩
          case measure => simp [intOf]; omega
    · obtain rfl : k = F := by omega
      have hi := owns_rd Hown.out
      have HI := Lib.hid (show Ints wr _ ((List.range k).map fun q => ((tcl R k q : Nat) : Int)) by unfold Ints; simpa using hi)
      clear hi
      go_wp2_with fail
      refine (criticalR_any (tcl R k) m k h8 HF.out p1 p2 Hcl.out _ _ HI.out).mono ?_
      rintro e w3 ⟨v', rfl, hd, hb3⟩
      go_wp2_with fail
      go_ret
      exact ⟨_, rfl, hd, Below.tr Hb.out hb3⟩
end Go.Proofs.Ytnidalbfmicoiaa
