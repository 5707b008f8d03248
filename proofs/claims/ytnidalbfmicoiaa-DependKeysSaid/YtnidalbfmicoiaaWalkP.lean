/- Contract of the reference's Keys. -/
import Derived.Test.YtnidalbfmicoiaaWalkO
import Derived.Test.YtnidalbfmicoiaaMathKeys
namespace Go.Proofs.Ytnidalbfmicoiaa
open Go.RowKit

theorem ndiff_sub (k p : Nat) : Sub (ndiff k p) k := sub_iff.2 fun i hi => by rw [testBit_ndiff] at hi; cases h : k.testBit i <;> simp_all
theorem testBit_lt {m k a : Nat} (hk : k < 2 ^ m) (h : k.testBit a = true) : a < m := Decidable.byContradiction fun hn => by
  have := Nat.testBit_lt_two_pow (x := k) (i := a) (Nat.lt_of_lt_of_le hk (Nat.pow_le_pow_right (by decide) (by omega)))
  rw [this] at h; cases h
theorem ndiff_bit_lt {k a : Nat} (h : k.testBit a = true) : ndiff k (2 ^ a) < k := by
  have h1 := (ndiff_sub k (2 ^ a)).le
  have h2 : ndiff k (2 ^ a) ≠ k := fun e => by
    have := testBit_ndiff k (2 ^ a) a
    rw [e, h, Nat.testBit_two_pow_self] at this
    simp at this
  omega
theorem sub_ndiff_bit {p k a : Nat} (h : Sub p k) (ha : p.testBit a = false) : Sub p (ndiff k (2 ^ a)) := sub_iff.2 fun i hi => by
  rw [testBit_ndiff, sub_iff.1 h i hi]
  have : i ≠ a := fun e => by subst e; rw [ha] at hi; cases hi
  rw [Nat.testBit_two_pow]
  simp; omega
theorem key_iff {l : List DepN} {m F k : Nat} (hok : Okl m l) (hF : F = 2 ^ m) (hk : k < F) : HasSub k (keysTo l (F - 1) k) ↔ ∃ a, a < m ∧ k.testBit a = true ∧ cl l (ndiff k (2 ^ a)) = F - 1 := by
  have h8 := hok.pow
  constructor
  · rintro ⟨p, hp, h⟩
    have hp' := mem_keysTo hp
    have hpl := keysTo_lt _ _ _ _ hp
    have : ∃ a, k.testBit a = true ∧ p.testBit a = false := by
      by_cases hq : ∃ a, k.testBit a = true ∧ p.testBit a = false
      · exact hq
      · have : Sub k p := sub_iff.2 fun i hi => by
          cases hpi : p.testBit i
          · exact absurd ⟨i, hi, hpi⟩ hq
          · rfl
        have := this.le
        omega
    obtain ⟨a, ha, hpa⟩ := this
    refine ⟨a, testBit_lt (by omega) ha, ha, ?_⟩
    have hl := ndiff_bit_lt ha
    have h1 := cl_mono (l := l) hok.lt (by omega) (sub_ndiff_bit h hpa)
    rw [hp'.1] at h1
    have h2 : Sub (cl l (ndiff k (2 ^ a))) (F - 1) := by rw [hF]; exact sub_full (cl_lt_pow hok.h8 hok.hl (by omega))
    exact h2.antisymm h1
  · rintro ⟨a, _, ha, h⟩
    obtain ⟨p, hp, h1⟩ := hasSub_of (l := l) (F1 := F - 1) (ndiff_bit_lt ha) h
    exact ⟨p, hp, h1.trans (ndiff_sub _ _)⟩

theorem wrap_small {x : Int} (h0 : 0 ≤ x) (h1 : x ≤ 256) : IntKind.i64.wrap x = x := by
  exact IntWalk.i64_in _ ⟨by omega, by omega⟩
theorem wrapF {F : Nat} (p1 : F ≤ 256) (p2 : 1 ≤ F) : IntKind.i64.wrap (IntKind.i64.wrap (F : Int) - 1) = ((F - 1 : Nat) : Int) := by
  rw [wrap_small (x := (F : Int)) (by omega) (by omega), wrap_small (by omega) (by omega)]; omega
/-- the first j attributes tried -/
def keyB (l : List DepN) (F k j : Nat) (b : Bool) : Prop := (b = true ↔ cl l k = F - 1 ∧ ∀ a, a < j → ¬ (k.testBit a = true ∧ cl l (ndiff k (2 ^ a)) = F - 1))
theorem keyB.bad {l : List DepN} {F k j : Nat} (h : k.testBit j = true) (h2 : cl l (ndiff k (2 ^ j)) = F - 1) : keyB l F k (j + 1) false := by
  constructor
  · intro h; cases h
  · intro h'; exact absurd ⟨h, h2⟩ (h'.2 j (by omega))
theorem keyB.good {l : List DepN} {F k j : Nat} {b : Bool} (h : keyB l F k j b) (h2 : ¬ (k.testBit j = true ∧ cl l (ndiff k (2 ^ j)) = F - 1)) : keyB l F k (j + 1) b := by
  unfold keyB at *
  rw [h]
  constructor
  · refine fun h' => ⟨h'.1, fun a ha => ?_⟩
    by_cases e : a = j
    · subst e; exact h2
    · exact h'.2 a (by omega)
  · exact fun h' => ⟨h'.1, fun a ha => h'.2 a (by omega)⟩
theorem keyB.ended {l : List DepN} {m F k : Nat} {b : Bool} (hok : Okl m l) (hF : F = 2 ^ m) (hk : k < F) (h : keyB l F k m b) : keysTo l (F - 1) (k + 1) = if b = true then keysTo l (F - 1) k ++ [k] else keysTo l (F - 1) k := by
  rw [keysTo]
  unfold keyB at h
  have e : (cl l k = F - 1 ∧ ¬ HasSub k (keysTo l (F - 1) k)) ↔ b = true := by
    rw [h]
    constructor
    · refine fun h' => ⟨h'.1, fun a ha hc => h'.2 ((key_iff hok hF hk).2 ⟨a, ha, hc⟩)⟩
    · refine fun h' => ⟨h'.1, fun hc => ?_⟩
      obtain ⟨a, ha, hb⟩ := (key_iff hok hF hk).1 hc
      exact h'.2 a ha hb
  by_cases hb : b = true
  · rw [if_pos (e.2 hb), if_pos hb]
  · rw [if_neg (fun h => hb (e.1 h)), if_neg hb]

set_option maxHeartbeats 4000000 in
set_option maxRecDepth 100000 in
theorem keysR_F {m F : Nat} {l : List DepN} (hok : Okl m l) (hF : F = 2 ^ m) (v : Value) (w : World) (hv : Deps w v (castD l)) :
    Calls Try.prog 42 #[.int .i64 m, v] w fun e w' => ∃ v', e = .returned v' ∧ Ints w' v' (castN (keysTo l (F - 1) F)) ∧ Below w.heap.size w w' := by
  obtain ⟨p1, p2⟩ := hok.pow
  have pc : (2 : Int) ^ m = (F : Int) := by rw [hF]; simp
  rw [← hF] at p1 p2
  have Hlt := Lib.hid hok.lt
  have Hv := Lib.hid hv
  have HF := Lib.hid hF
  have hm8 := hok.h8
  have Hok := Lib.hid hok
  obtain ⟨a, b, off, cap, hva, -⟩ := Deps.get hv
  subst hva
  clear hv hF hok
  go_enter Try.func42, Try.ntmps42
  go_wp2_with fail
  go_loopw [5, 11] (fun o i wr => ∃ k : Nat, ∃ (oa : Option Addr) (oc : Nat), o = .slice oa (keysTo l (F - 1) k).length oc ∧ i = .int .i64 k ∧ k ≤ F ∧ Below w.heap.size w wr ∧ wr.ownsRow w.heap.size 3 1 (.slice oa (keysTo l (F - 1) k).length oc) (keysTo l (F - 1) k).length ((castN (keysTo l (F - 1) k)).map (Value.int .i64))) (fun _ i _ => F - (intOf i).toNat)
  case atStart => exact ⟨0, _, _, rfl, rfl, Nat.zero_le _, Below.refl _ _, World.ownsRow_nil _ _ _ _⟩
  case round =>
    obtain ⟨k, oa, oc, rfl, rfl, hk, hb, hown⟩ := hrel
    have Hb := Lib.hid hb
    have Hown := Lib.hid hown
    have hlen := keysTo_length l (F - 1) k
    clear hb hown
    by_cases hlt : k < F
    · have hq := cl_lt l k
      have e5 : IntKind.i64.wrap (F : Int) = (F : Int) := wrap_small (by omega) (by omega)
      have e6 : IntKind.i64.wrap ((F : Int) - 1) = ((F - 1 : Nat) : Int) := by rw [wrap_small (by omega) (by omega)]; omega
      go_wp2_with fail
      go_region_held3 (fun w' => Below wr.heap.size wr w')
        (first | exact (Below.refl _ _).drew | exact Below.tr (Below.refl _ _).drew hb2 | (trace_state; fail))
        (first | (go_at_call 29; refine (closureR_any l Hlt.out k (by omega) _ _ (by exact Deps.keep Hv.out (Below.tr Hb.out (Below.refl _ _).drew))).mono ?_; rintro e w2 ⟨rfl, hb2⟩))
      have Hb2 := Lib.hid (Below.tr Hb.out (Below.tr (Below.refl _ _).drew hb2))
      have Hown2 := Lib.hid (owns_keep Hown.out (Below.tr (Below.refl _ _).drew hb2))
      have hkb : keyB l F k 0 (((cl l k : Nat) : Int) == ((F - 1 : Nat) : Int)) := by
        unfold keyB
        constructor
        · intro h; simp at h; exact ⟨by omega, fun a ha => by omega⟩
        · intro h; have := h.1; simp; omega
      have Hkb := Lib.hid hkb
      clear hkb hb2
      go_wp2_with fail
      obtain ⟨wo, rfl⟩ : ∃ wo : World, wo = wr := ⟨_, rfl⟩
      go_loopw [7, 22] (fun z i wr => ∃ j : Nat, ∃ z' : Bool, z = .bool z' ∧ i = .int .i64 j ∧ j ≤ m ∧ Below w2.heap.size w2 wr ∧ keyB l F k j z') (fun _ i _ => m - (intOf i).toNat)
      case atStart => exact ⟨0, _, rfl, rfl, Nat.zero_le _, Below.refl _ _, Hkb.out⟩
      case round =>
        obtain ⟨j, z', rfl, rfl, hj, hb', hz⟩ := hrel
        have Hz := Lib.hid hz
        have Hb' := Lib.hid hb'
        clear hz hb'
        by_cases hlj : j < m
        · have t1 := shr_bit k j (by omega)
          obtain ⟨p, hp⟩ : ∃ p : Nat, p = 2 ^ j := ⟨_, rfl⟩
          have q2 := pow_small j (by omega)
          have e1 : (2 : Int) ^ j = (p : Int) := by rw [hp]; simp
          rw [← hp] at q2
          have Hp := Lib.hid hp
          have q3 := ndiff_le k p
          have t2 := bits_andNot_nat k p (by omega) (by omega)
          have hsq : ((k : Int) / 2 ^ j) = ((k : Int) / p) := by rw [e1]
          rw [hsq] at t1
          clear hp hsq
          cases hbit : k.testBit j with
          | true =>
            rw [hbit] at t1
            simp only [if_true] at t1
            have Hbit := Lib.hid hbit
            have hqd := cl_lt l (ndiff k p)
            clear hbit
            have e4 : IntKind.i64.wrap (p : Int) = (p : Int) := wrap_small (by omega) (by omega)
            go_wp2_with fail
            go_region_held3 (fun w' => Below wr.heap.size wr w')
              (first | exact (Below.refl _ _).drew | exact Below.tr (Below.refl _ _).drew hb4 | (trace_state; fail))
              (first | (go_at_call 29; refine (closureR_any l Hlt.out (ndiff k p) (by omega) _ _ (by exact Deps.keep Hv.out (Below.tr Hb2.out (Below.tr Hb'.out (Below.refl _ _).drew)))).mono ?_; rintro e w4 ⟨rfl, hb4⟩))
            have Hb4 := Lib.hid (Below.tr Hb'.out (Below.tr (Below.refl _ _).drew hb4))
            clear hb4
            by_cases hcf : cl l (ndiff k p) = F - 1
            · have t5 : (((cl l (ndiff k p) : Nat) : Int) == ((F - 1 : Nat) : Int)) = true := by rw [hcf]; simp
              have R := Lib.hid (keyB.bad (l := l) (F := F) Hbit.out (by rw [← Hp.out]; exact hcf))
              clear hcf
              go_wp2_with fail
              go_roundw
              case rel => exact ⟨j + 1, _, rfl, by go_num, by omega, Hb4.out, R.out⟩
              case measure => simp [intOf]; omega
            · have t5 : (((cl l (ndiff k p) : Nat) : Int) == ((F - 1 : Nat) : Int)) = false := by simp; omega
              have R := Lib.hid (Hz.out.good (fun h => hcf (by rw [Hp.out]; exact h.2)))
              clear hcf
              go_wp2_with fail
              go_roundw
              case rel => exact ⟨j + 1, _, rfl, by go_num, by omega, Hb4.out, R.out⟩
              case measure => simp [intOf]; omega
          | false =>
            have R := Lib.hid (Hz.out.good (fun h => by rw [hbit] at h; cases h.1))
            rw [hbit] at t1
            simp only [Bool.false_eq_true, if_false] at t1
            clear hbit
            go_wp2_with fail
            go_quiet (fail)
            go_wp2_with fail
            go_roundw
            case rel => exact ⟨j + 1, _, rfl, by go_num, by omega, bdrewN Hb'.out _, R.out⟩
            case measure => simp [intOf]; omega
        · obtain rfl : j = m := by omega
          have R := Hz.out.ended Hok.out HF.out hlt
          have Hb3 := Lib.hid (Below.tr Hb2.out Hb'.out)
          have Hown3 := Lib.hid (owns_keep Hown2.out Hb'.out)
          cases z' with
          | true =>
            rw [if_pos rfl] at R
            have Hstep := Lib.hid R
            clear R
            go_wp2_with (at_builtin; refine append_own rfl (.tmp 44) (.tmp 46) 56 rfl elem56 rfl (World.ownsRow.alloc Hown3.out _) [.int .i64 (k : Nat)] rfl rfl (by intro j u hj; go_simp) (by intro u hu; simp at hu; subst hu; rfl) (by omega) (by simp; have := Hb3.out.size; omega) ?_)
            intro v' w6 hown6 hb6 _
            obtain ⟨na, nc, rfl⟩ := ownRow_slice hown6
            have HB := Lib.hid ((Hb3.out.alloc Hb3.out.size _).trans hb6)
            have hl1 : (keysTo l (F - 1) k).length + 1 = (keysTo l (F - 1) (k + 1)).length := by rw [Hstep.out]; simp
            have R2 : w6.ownsRow w.heap.size 3 1 (.slice na ((keysTo l (F - 1) k).length + 1) nc) ((keysTo l (F - 1) k).length + 1) ((castN (keysTo l (F - 1) (k + 1))).map (Value.int .i64)) := by
              rw [Hstep.out]; simpa [castN] using hown6
            rw [hl1] at R2 ⊢
            have HO := Lib.hid R2
            clear R2 hl1 hown6 hb6
            go_wp2_with fail
            go_roundw
            case rel => exact ⟨k + 1, _, _, rfl, by go_num, by omega, HB.out, HO.out⟩
            case measure => simp [intOf]; omega
          | false =>
            rw [if_neg (by decide)] at R
            have Hstep := Lib.hid R
            clear R
            go_wp2_with fail
            go_roundw
            case rel => exact ⟨k + 1, _, _, by rw [Hstep.out], by go_num, by omega, Hb3.out, by rw [Hstep.out]; exact Hown3.out⟩
            case measure => simp [intOf]; omega
    · obtain rfl : k = F := by omega
      have hi := owns_rd Hown.out
      have HI := Lib.hid (show Ints wr (.slice oa (keysTo l (k - 1) k).length oc) (castN (keysTo l (k - 1) k)) by unfold Ints; simpa [castN] using hi)
      clear hi
      go_wp2_with fail
      go_ret
      exact ⟨_, rfl, HI.out, Hb.out⟩
end Go.Proofs.Ytnidalbfmicoiaa
