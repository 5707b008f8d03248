/- Contracts of the reference's critical. -/
import Derived.Test.YtnidalbfmicoiaaWalkM
import Derived.Test.YtnidalbfmicoiaaWalkY
namespace Go.Proofs.Ytnidalbfmicoiaa
open Go.RowKit

theorem IsCrit.split {c : Nat → Nat} {L : List DepN} {k : Nat} : IsCrit c L k ↔ c k ≠ k ∧ AllTo (fun d : DepN => Sub d.1 k → Sub d.2 k) L L.length := by
  constructor
  · exact fun h => ⟨h.1, fun i hi _ => h.2 _ (List.getElem_mem hi)⟩
  · exact fun h => ⟨h.1, h.2.all⟩
/-- whether k is still critical after the first j of the base -/
def critB (c : Nat → Nat) (L : List DepN) (k j : Nat) (b : Bool) : Prop := (b = true ↔ c k ≠ k ∧ AllTo (fun d : DepN => Sub d.1 k → Sub d.2 k) L j)
theorem critB.bad {c : Nat → Nat} {L : List DepN} {k j : Nat} (hj : j < L.length) (h : Sub L[j].1 k) (h2 : ¬ Sub L[j].2 k) : critB c L k (j + 1) false := by
  constructor
  · intro h; cases h
  · intro h'; exact absurd (h'.2 j hj (by omega) h) h2
theorem critB.good {c : Nat → Nat} {L : List DepN} {k j : Nat} {b : Bool} (h : critB c L k j b) (hj : j < L.length) (h2 : Sub L[j].1 k → Sub L[j].2 k) : critB c L k (j + 1) b := by
  unfold critB at *
  rw [h]
  constructor
  · exact fun h' => ⟨h'.1, h'.2.step hj h2⟩
  · exact fun h' => ⟨h'.1, fun i hi hij => h'.2 i hi (by omega)⟩
theorem critB.ended {c : Nat → Nat} {L : List DepN} {k : Nat} {b : Bool} (h : critB c L k L.length b) : (b = true → IsCrit c L k) ∧ (b = false → ¬ IsCrit c L k) := by
  unfold critB at h
  refine ⟨fun hb => IsCrit.split.2 (h.1 hb), fun hb hc => ?_⟩
  have := h.2 (IsCrit.split.1 hc)
  rw [hb] at this
  cases this
/-- the base, the call's own, of the reference's type -/
def CritRowR (base : Nat) (w : World) (o : Value) (L : List DepN) : Prop := w.ownsRow base 24 2 o L.length (pairCells (castD L))
theorem CritRowR.deps {base : Nat} {w : World} {o : Value} {L : List DepN} (h : CritRowR base w o L) : Deps w o (castD L) := by
  have := owns_rd h
  unfold Deps
  rwa [show (castD L).length = L.length by simp [castD]]
theorem critRO {w6 : World} {base : Nat} {c : Nat → Nat} {k : Nat} {v' : Value} (h : w6.ownsRow base 24 2 v' ((critTo c k).length + 1) (pairCells (castD (critTo c k)) ++ [Value.int .i64 k, Value.int .i64 (c k : Nat)])) (hs : critTo c (k + 1) = critTo c k ++ [(k, c k)]) :
    CritRowR base w6 v' (critTo c (k + 1)) := by
  unfold CritRowR
  rw [hs, castD_append, pairCells_append]
  simpa [castD, pairCells] using h

set_option maxHeartbeats 4000000 in
set_option maxRecDepth 100000 in
theorem criticalR_any (c : Nat → Nat) (m F : Nat) (hm8 : m ≤ 8) (hF : F = 2 ^ m) (h256 : F ≤ 256) (h1 : 1 ≤ F) (hc : ∀ k, k < F → c k < F) (v : Value) (w : World) (hv : Ints w v ((List.range F).map fun k => ((c k : Nat) : Int))) :
    Calls Try.prog 82 #[.int .i64 m, v] w fun e w' => ∃ v', e = .returned v' ∧ Deps w' v' (castD (critTo c F)) ∧ Below w.heap.size w w' := by
  have pc : (2 : Int) ^ m = (F : Int) := by rw [hF]; simp
  obtain ⟨a, b, off, cap, hva, hle, ha, hcc⟩ := Ints.get hv
  have hix := run_ix (P := Try.prog) (t := 56) (a := a) (len := ((List.range F).map fun k => ((c k : Nat) : Int)).length) (cap := cap) (b := b) (off := off) (s := 1) Try.underlying56 (by intro w; kernel_rfl) ha
  have hln : ((List.range F).map fun k => ((c k : Nat) : Int)).length = F := by simp
  rw [hln] at hix hva
  subst hva
  have hcell : ∀ i, i < F → w.cell? ⟨b, off + i, none⟩ = some (.int .i64 (c i : Nat)) := fun i hi => by
    have := hcc i (by rw [hln]; exact hi)
    simpa using this
  have Hcell := Lib.hid hcell
  have Hc := Lib.hid hc
  simp only [Nat.mul_one] at hix
  clear hF hc hv hcc ha hle hln hcell
  go_enter Try.func82, Try.ntmps82
  go_wp2_with fail
  go_loopw [5, 12] (fun o i wr => ∃ k : Nat, ∃ (oa : Option Addr) (oc : Nat), o = .slice oa (critTo c k).length oc ∧ i = .int .i64 k ∧ k ≤ F ∧ Below w.heap.size w wr ∧ CritRowR w.heap.size wr (.slice oa (critTo c k).length oc) (critTo c k)) (fun _ i _ => F - (intOf i).toNat)
  case atStart => exact ⟨0, _, _, rfl, rfl, Nat.zero_le _, Below.refl _ _, World.ownsRow_nil _ _ _ _⟩
  case round =>
    obtain ⟨k, oa, oc, rfl, rfl, hk, hb, hown⟩ := hrel
    have Hb := Lib.hid hb
    have Hown := Lib.hid hown
    have hlen := critTo_length c k
    clear hb hown
    by_cases hlt : k < F
    · have hcl := Below.keep Hb.out (Hcell.out k hlt)
      have hck := Hc.out k hlt
      have hne : critB c (critTo c k) k 0 (((c k : Nat) : Int) != (k : Int)) := by
        unfold critB
        constructor
        · intro h; simp at h; exact ⟨by omega, fun i _ h => by omega⟩
        · intro h; have := h.1; simp; omega
      have Hne := Lib.hid hne
      clear hne
      obtain ⟨a1, b1, off1, cap1, hva1, hle1, ha1, hc1⟩ := Deps.get Hown.out.deps
      have e0 : (castD (critTo c k)).length = (critTo c k).length := by simp [castD]
      rw [e0] at hle1 ha1 hva1
      obtain ⟨rfl, -, rfl⟩ := Value.slice.inj hva1
      have hc1' : ∀ i (h : i < (critTo c k).length), wr.cell? ⟨b1, off1 + i * 2, none⟩ = some (.int .i64 (((critTo c k)[i].1 : Nat) : Int)) ∧ wr.cell? ⟨b1, off1 + i * 2 + 1, none⟩ = some (.int .i64 (((critTo c k)[i].2 : Nat) : Int)) := by
        intro i hi
        have := hc1 i (by omega)
        simpa [castD] using this
      have hix1 := run_ix (P := Try.prog) (t := 22) (a := oa) (len := (critTo c k).length) (cap := oc) (b := b1) (off := off1) (s := 2) Try.underlying22 (by intro w; kernel_rfl) ha1
      have Hc1 := Lib.hid hc1'
      have Hlt := Lib.hid (critTo_lt Hc.out k (by omega))
      clear hle1 ha1 hva1 hc1 e0 hc1'
      go_wp2_with fail
      obtain ⟨wo, rfl⟩ : ∃ wo : World, wo = wr := ⟨_, rfl⟩
      go_loopw [7, 23] (fun z i wr => ∃ j : Nat, ∃ z' : Bool, z = .bool z' ∧ i = .int .i64 j ∧ j ≤ (critTo c k).length ∧ Below wo.heap.size wo wr ∧ critB c (critTo c k) k j z') (fun _ i _ => (critTo c k).length - (intOf i).toNat)
      case atStart => exact ⟨0, _, rfl, rfl, Nat.zero_le _, Below.refl _ _, Hne.out⟩
      case round =>
        obtain ⟨j, z', rfl, rfl, hj, hb', hz⟩ := hrel
        have Hz := Lib.hid hz
        have Hb' := Lib.hid hb'
        clear hz hb'
        by_cases hlj : j < (critTo c k).length
        · have hd1 := Below.keep Hb'.out (Hc1.out j hlj).1
          have hd2 := Below.keep Hb'.out (Hc1.out j hlj).2
          have hlk := Hlt.out _ (List.getElem_mem hlj)
          have t1 := test_sub (critTo c k)[j].1 k (by omega) (by omega)
          have t2 := test_sub (critTo c k)[j].2 k (by omega) (by omega)
          have t3 : (bits .andNot .i64 (((critTo c k)[j].2 : Nat) : Int) (k : Int) != 0) = !decide (Sub (critTo c k)[j].2 k) := by rw [bne, t2]
          go_wp2
          · have h1 : Sub (critTo c k)[j].1 k := by assumption
            have h2 : ¬ Sub (critTo c k)[j].2 k := by have h : (!decide (Sub (critTo c k)[j].2 k)) = true := by assumption
                                                      simpa using h
            have R := critB.bad (c := c) hlj h1 h2
            go_roundw
            case rel => exact ⟨j + 1, _, rfl, by go_num, by omega, Hb'.out.alloc Hb'.out.size _, R⟩
            case measure => simp [intOf]; omega
          · have h2 : Sub (critTo c k)[j].2 k := by have h : (!decide (Sub (critTo c k)[j].2 k)) = false := by assumption
                                                    simpa using h
            have R := Hz.out.good hlj (fun _ => h2)
            go_roundw
            case rel => exact ⟨j + 1, _, rfl, by go_num, by omega, Hb'.out.alloc Hb'.out.size _, R⟩
            case measure => simp [intOf]; omega
          · have h1 : ¬ Sub (critTo c k)[j].1 k := by assumption
            have R := Hz.out.good hlj (fun h => absurd h h1)
            go_roundw
            case rel => exact ⟨j + 1, _, rfl, by go_num, by omega, Hb'.out.alloc Hb'.out.size _, R⟩
            case measure => simp [intOf]; omega
        · obtain rfl : j = (critTo c k).length := by omega
          have R := Hz.out.ended
          have hcl' := Below.keep Hb'.out hcl
          have Hown' := Lib.hid (show CritRowR w.heap.size wr (.slice oa (critTo c k).length oc) (critTo c k) from owns_keep Hown.out Hb'.out)
          have Hb2 := Lib.hid (Below.tr Hb.out Hb'.out)
          cases z' with
          | true =>
            have Hstep := Lib.hid (show critTo c (k + 1) = critTo c k ++ [(k, c k)] by rw [critTo, if_pos (R.1 rfl)])
            clear R
            go_wp2_with (at_builtin; refine append_own rfl (.tmp 41) (.tmp 48) 22 rfl elem22 rfl (Hown'.out.alloc _) [.int .i64 k, .int .i64 (c k : Nat)] rfl rfl (by intro j u hj; go_simp) (by intro u hu; simp at hu; rcases hu with rfl | rfl <;> rfl) (by omega) (by simp; have := Hb2.out.size; omega) ?_)
            intro v' w6 hown6 hb6 _
            obtain ⟨na, nc, rfl⟩ := ownRow_slice hown6
            have HB := Lib.hid ((Hb2.out.alloc Hb2.out.size _).trans hb6)
            have R2 := critRO hown6 Hstep.out
            have hl1 : (critTo c k).length + 1 = (critTo c (k + 1)).length := by rw [Hstep.out]; simp
            rw [hl1] at R2
            rw [hl1]
            have HO := Lib.hid R2
            clear R2 hl1 hown6 hb6
            go_wp2_with fail
            go_roundw
            case rel => exact ⟨k + 1, _, _, rfl, by go_num, by omega, HB.out, HO.out⟩
            case measure => simp [intOf]; omega
          | false =>
            have hstep : critTo c (k + 1) = critTo c k := by rw [critTo, if_neg (R.2 rfl)]
            have R2 := Hown'.out
            have Hstep := Lib.hid hstep
            clear R hstep
            go_wp2_with fail
            go_roundw
            case rel => exact ⟨k + 1, _, _, by rw [Hstep.out], by go_num, by omega, Hb2.out, by rw [Hstep.out]; exact R2⟩
            case measure => simp [intOf]; omega
    · obtain rfl : k = F := by omega
      have HD := Lib.hid Hown.out.deps
      go_wp2_with fail
      go_ret
      exact ⟨_, rfl, HD.out, Hb.out⟩
end Go.Proofs.Ytnidalbfmicoiaa
