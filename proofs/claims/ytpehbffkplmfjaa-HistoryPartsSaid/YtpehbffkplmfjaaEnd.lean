/- Contract of the reference's end. -/
import Derived.Test.YtpehbffkplmfjaaCom
namespace Go.Proofs.Ytpehbffkplmfjaa
open Go.RowKit

def endI (h : List NOp) (q t : Nat) : Int := if en h q h.length t = 40 then -1 else (en h q h.length t : Nat)
theorem Ops.natR {w : World} {v : Value} {h : List NOp} (hv : Ops w v (castO h)) : ∃ a b off cap, v = .slice a h.length cap ∧ h.length ≤ 9223372036854775807 ∧ (0 < h.length → a = some ⟨b, off, none⟩) ∧ h.length ≤ cap ∧
    ∀ i, i < h.length → w.cell? ⟨b, off + i * 3, none⟩ = some (.int .i64 (tT h i : Nat)) ∧ w.cell? ⟨b, off + i * 3 + 1, none⟩ = some (.int .i64 (tK h i : Nat)) ∧ w.cell? ⟨b, off + i * 3 + 2, none⟩ = some (.int .i64 (tI h i : Nat)) := Ops.nat hv
set_option maxRecDepth 100000 in
set_option maxHeartbeats 4000000 in
theorem end_any {h : List NOp} (hh : VH h) {q : Nat} (hq : 1 < q) (t : Nat) (v : Value) (w : World) (hv : Ops w v (castO h)) :
    Calls Try.prog 51 #[v, .int .i64 t, .int .i64 q] w fun e w' => e = .returned (.int .i64 (endI h q t)) ∧ Below w.heap.size w w' := by
  obtain ⟨a, b, off, cap, rfl, hle, ha, hcap, hc⟩ := Ops.nat hv
  have hix := run_ix (P := Try.prog) (t := 23) (a := a) (len := h.length) (cap := cap) (b := b) (off := off) (s := 3) Try.underlying23 (by intro w; kernel_rfl) ha
  have h40 := hh.le
  have Hc := Lib.hid hc
  have Hix := Lib.hid hix
  have HH := Lib.hid hh
  clear ha hv hc hix hcap hh hle
  go_enter Try.func51, Try.ntmps51
  go_wp2_with fail
  go_loopw [11] (fun i wr => ∃ k : Nat, i = .int .i64 k ∧ k ≤ h.length ∧ Below w.heap.size w wr ∧ ∀ j, j < k → ¬ (tT h j = t ∧ tK h j = q)) (fun i _ => h.length - (intOf i).toNat)
  case atStart => exact ⟨0, rfl, Nat.zero_le _, Below.refl _ _, fun j hj => by omega⟩
  case round =>
    obtain ⟨k, rfl, hk, hb, hin⟩ := hrel
    have Hb := Lib.hid hb
    have Hin := Lib.hid hin
    clear hb hin
    by_cases hlt : k < h.length
    · have hc1 := Below.keep Hb.out (Hc.out k hlt).1
      have hc2 := Below.keep Hb.out (Hc.out k hlt).2.1
      have hc3 := Below.keep Hb.out (Hc.out k hlt).2.2
      have hixk := Hix.out k
      have Hy := Lib.hid (show tT h k = t → tK h k = q → endI h q t = (k : Int) from fun e1 e2 => by
        have := en_is HH.out hq hlt e2
        rw [e1] at this
        unfold endI
        rw [this, if_neg (by omega)])
      have Hn := Lib.hid (show ¬ (tT h k = t ∧ tK h k = q) → ∀ j, j < k + 1 → ¬ (tT h j = t ∧ tK h j = q) from fun e j hj => by
        by_cases e2 : j = k
        · subst e2; exact e
        · exact Hin.out j (by omega))
      obtain ⟨s, hs⟩ : ∃ s, s = tT h k := ⟨_, rfl⟩
      obtain ⟨r, hr⟩ : ∃ r, r = tK h k := ⟨_, rfl⟩
      obtain ⟨x, hx⟩ : ∃ x, x = tI h k := ⟨_, rfl⟩
      rw [← hs] at hc1 Hy Hn
      rw [← hr] at hc2 Hy Hn
      rw [← hx] at hc3
      clear hs hr hx
      have Hb1 := Lib.hid (show Below w.heap.size w (wr.alloc (.cells #[.int .i64 s, .int .i64 r, .int .i64 x] 55)) from Below.tr Hb.out (below_alloc _ _))
      by_cases e1 : s = t
      · have q1 : ((s : Int) == (t : Int)) = true := by rw [beq_iff_eq]; omega
        by_cases e2 : r = q
        · have q2 : ((r : Int) == (q : Int)) = true := by rw [beq_iff_eq]; omega
          have R := Lib.hid (Hy.out e1 e2)
          clear e1 e2
          go_wp2_with fail
          go_ret
          exact ⟨by rw [R.out]; rfl, Hb1.out⟩
        · have q2 : ((r : Int) == (q : Int)) = false := by rw [beq_eq_false_iff_ne]; omega
          have R := Lib.hid (Hn.out fun h => e2 h.2)
          clear e1 e2
          go_wp2_with fail
          go_roundw
          case rel => exact ⟨k + 1, by go_num, by omega, Hb1.out, R.out⟩
          case measure => simp [intOf]; omega
      · have q1 : ((s : Int) == (t : Int)) = false := by rw [beq_eq_false_iff_ne]; omega
        have R := Lib.hid (Hn.out fun h => e1 h.1)
        clear e1
        go_wp2_with fail
        go_roundw
        case rel => exact ⟨k + 1, by go_num, by omega, Hb1.out, R.out⟩
        case measure => simp [intOf]; omega
    · obtain rfl : k = h.length := by omega
      have R := Lib.hid (show endI h q t = -1 by
        unfold endI
        rcases en_spec h q t h.length HH.out.le with h1 | h1
        · rw [if_pos h1.1]
        · exact absurd ⟨h1.2.1, h1.2.2⟩ (Hin.out _ h1.1))
      go_wp2_with fail
      go_ret
      exact ⟨by rw [R.out]; rfl, Hb.out⟩
#print axioms end_any
end Go.Proofs.Ytpehbffkplmfjaa
