/- The reference's reads. -/
import Derived.Test.YtpehbffkplmfjaaSnr
namespace Go.Proofs.Ytpehbffkplmfjaa
open Go.RowKit
/-- an operation of t on item x, a read or a write -/
def OnP (h : List NOp) (t x i : Nat) : Prop := tT h i = t ∧ tI h i = x ∧ tK h i < 2
/-- transaction t reads item x, not from its own write -/
def RdP (h : List NOp) (t x : Nat) : Prop := ∃ i, i < h.length ∧ OnP h t x i ∧ tK h i = 0 ∧ ∀ j, j < i → ¬ OnP h t x j
set_option maxRecDepth 100000 in
set_option maxHeartbeats 4000000 in
theorem readsR_any {h : List NOp} (hh : VH h) (t x : Nat) (v : Value) (w : World) (hv : Ops w v (castO h)) :
    Calls Try.prog 103 #[v, .int .i64 t, .int .i64 x] w fun e w' => ∃ B : Bool, e = .returned (.bool B) ∧ (B = true ↔ RdP h t x) ∧ Below w.heap.size w w' := by
  obtain ⟨a, bl, off, cap, rfl, hle, ha, hcap, hc⟩ := Ops.nat hv
  have hix := run_ix (P := Try.prog) (t := 23) (a := a) (len := h.length) (cap := cap) (b := bl) (off := off) (s := 3) Try.underlying23 (by intro w; kernel_rfl) ha
  have h40 := hh.le
  have Hc := Lib.hid hc
  have Hix := Lib.hid hix
  clear hc hix ha hle hcap hv hh
  go_enter Try.func103, Try.ntmps103
  go_wp2_with fail
  go_loopw [11] (fun vk wr => ∃ k : Nat, vk = .int .i64 k ∧ k ≤ h.length ∧ Below w.heap.size w wr ∧ ∀ i, i < k → ¬ OnP h t x i) (fun vk _ => h.length - (intOf vk).toNat)
  case atStart => exact ⟨0, rfl, Nat.zero_le _, Below.refl _ _, fun i hi => by omega⟩
  case round =>
    obtain ⟨k, rfl, hk, hb, hno⟩ := hrel
    obtain ⟨wA, hwA⟩ : ∃ wA : World, wA = wr := ⟨_, rfl⟩
    subst hwA
    have Hb := Lib.hid hb
    have Hno := Lib.hid hno
    clear hb hno
    by_cases hlt : k < h.length
    · have hc1 := Below.keep Hb.out (Hc.out k hlt).1
      have hc2 := Below.keep Hb.out (Hc.out k hlt).2.1
      have hc3 := Below.keep Hb.out (Hc.out k hlt).2.2
      have hixk := Hix.out k
      have HY := Lib.hid (fun (q : tT h k = t ∧ tI h k = x ∧ tK h k < 2) => show (RdP h t x ↔ tK h k = 0) from ⟨fun ⟨i, hi, h1, h2, h3⟩ => by
        rcases Nat.lt_trichotomy i k with c | c | c
        · exact absurd h1 (Hno.out i c)
        · rw [← c]; exact h2
        · exact absurd q (h3 k c), fun e => ⟨k, hlt, q, e, fun j hj => Hno.out j hj⟩⟩)
      have HN := Lib.hid (fun (q : ¬ (tT h k = t ∧ tI h k = x ∧ tK h k < 2)) => show ∀ i, i < k + 1 → ¬ OnP h t x i from fun i hi => by
        by_cases e : i = k
        · subst e; exact q
        · exact Hno.out i (by omega))
      obtain ⟨s, hs⟩ : ∃ s, s = tT h k := ⟨_, rfl⟩
      obtain ⟨q, hq⟩ : ∃ r, r = tK h k := ⟨_, rfl⟩
      obtain ⟨y, hy⟩ : ∃ x, x = tI h k := ⟨_, rfl⟩
      rw [← hs] at hc1 HY HN
      rw [← hq] at hc2 HY HN
      rw [← hy] at hc3 HY HN
      clear hs hq hy
      have Hb2 := Lib.hid (Below.tr Hb.out (below_alloc wA (.cells #[.int .i64 s, .int .i64 q, .int .i64 y] 55)))
      have g0 : (wA.alloc (.cells #[.int .i64 s, .int .i64 q, .int .i64 y] 55)).cell? ⟨wA.heap.size, 0, none⟩ = some (.int .i64 s) := cell_new wA _ _ 0
      have g1 : (wA.alloc (.cells #[.int .i64 s, .int .i64 q, .int .i64 y] 55)).cell? ⟨wA.heap.size, 1, none⟩ = some (.int .i64 q) := cell_new wA _ _ 1
      have g2 : (wA.alloc (.cells #[.int .i64 s, .int .i64 q, .int .i64 y] 55)).cell? ⟨wA.heap.size, 2, none⟩ = some (.int .i64 y) := cell_new wA _ _ 2
      by_cases e1 : s = t
      · have r1 : ((s : Int) == (t : Int)) = true := by rw [beq_iff_eq]; omega
        by_cases e2 : y = x
        · have r2 : ((y : Int) == (x : Int)) = true := by rw [beq_iff_eq]; omega
          by_cases e3 : q < 2
          · have r3 : (q : Int) < 2 := by omega
            have R := Lib.hid (HY.out ⟨e1, e2, e3⟩)
            by_cases e4 : q = 0
            · have r4 : ((q : Int) == 0) = true := by rw [beq_iff_eq]; omega
              have R2 := Lib.hid (R.out.2 e4)
              clear e1 e2 e3 e4
              go_wp2_with fail
              go_ret
              exact ⟨true, rfl, ⟨fun _ => R2.out, fun _ => rfl⟩, Hb2.out⟩
            · have r4 : ((q : Int) == 0) = false := by rw [beq_eq_false_iff_ne]; omega
              have R2 := Lib.hid (show ¬ RdP h t x from fun p => e4 (R.out.1 p))
              clear e1 e2 e3 e4
              go_wp2_with fail
              go_ret
              exact ⟨false, rfl, ⟨fun q => (by cases q), fun q => absurd q R2.out⟩, Hb2.out⟩
          · have r3 : ¬ (q : Int) < 2 := by omega
            have R := Lib.hid (HN.out (fun q => e3 q.2.2))
            clear e1 e2 e3
            go_wp2_with fail
            go_roundw
            case rel => exact ⟨k + 1, by go_num, by omega, Hb2.out, R.out⟩
            case measure => simp [intOf]; omega
        · have r2 : ((y : Int) == (x : Int)) = false := by rw [beq_eq_false_iff_ne]; omega
          have R := Lib.hid (HN.out (fun q => e2 q.2.1))
          clear e1 e2
          go_wp2_with fail
          go_roundw
          case rel => exact ⟨k + 1, by go_num, by omega, Hb2.out, R.out⟩
          case measure => simp [intOf]; omega
      · have r1 : ((s : Int) == (t : Int)) = false := by rw [beq_eq_false_iff_ne]; omega
        have R := Lib.hid (HN.out (fun q => e1 q.1))
        clear e1
        go_wp2_with fail
        go_roundw
        case rel => exact ⟨k + 1, by go_num, by omega, Hb2.out, R.out⟩
        case measure => simp [intOf]; omega
    · obtain rfl : k = h.length := by omega
      have R := Lib.hid (show ¬ RdP h t x from fun ⟨i, hi, q, _⟩ => Hno.out i hi q)
      go_wp2_with fail
      go_ret
      exact ⟨false, rfl, ⟨fun q => (by cases q), fun q => absurd q R.out⟩, Hb.out⟩
#print axioms readsR_any
end Go.Proofs.Ytpehbffkplmfjaa
