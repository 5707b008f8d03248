/- The reference's writes and begin. -/
import Derived.Test.YtpehbffkplmfjaaSnp
namespace Go.Proofs.Ytpehbffkplmfjaa
open Go.RowKit
/-- transaction t writes item x -/
def WrP (h : List NOp) (t x : Nat) : Prop := ∃ i, i < h.length ∧ tT h i = t ∧ tK h i = 1 ∧ tI h i = x
set_option maxRecDepth 100000 in
set_option maxHeartbeats 4000000 in
theorem writesR_any {h : List NOp} (hh : VH h) (t x : Nat) (v : Value) (w : World) (hv : Ops w v (castO h)) :
    Calls Try.prog 76 #[v, .int .i64 t, .int .i64 x] w fun e w' => ∃ B : Bool, e = .returned (.bool B) ∧ (B = true ↔ WrP h t x) ∧ Below w.heap.size w w' := by
  obtain ⟨a, bl, off, cap, rfl, hle, ha, hcap, hc⟩ := Ops.nat hv
  have hix := run_ix (P := Try.prog) (t := 23) (a := a) (len := h.length) (cap := cap) (b := bl) (off := off) (s := 3) Try.underlying23 (by intro w; kernel_rfl) ha
  have h40 := hh.le
  have Hc := Lib.hid hc
  have Hix := Lib.hid hix
  clear hc hix ha hle hcap hv hh
  go_enter Try.func76, Try.ntmps76
  go_wp2_with fail
  go_loopw [11] (fun vk wr => ∃ k : Nat, vk = .int .i64 k ∧ k ≤ h.length ∧ Below w.heap.size w wr ∧ ∀ i, i < k → ¬ (tT h i = t ∧ tK h i = 1 ∧ tI h i = x)) (fun vk _ => h.length - (intOf vk).toNat)
  case atStart => exact ⟨0, rfl, Nat.zero_le _, Below.refl _ _, fun i hi => by omega⟩
  case round =>
    obtain ⟨k, rfl, hk, hb, hno⟩ := hrel
    obtain ⟨wA, hwA⟩ : ∃ wA : World, wA = wr := ⟨_, rfl⟩
    subst hwA
    have Hb := Lib.hid hb
    have Hno := Lib.hid hno
    clear hb hno
    by_cases hlt : k < h.length
    · have hc1 := Below.keep Hb.out (Hc.out k hlt).1
      have hc2 := Below.keep Hb.out (Hc.out k hlt).2.1
      have hc3 := Below.keep Hb.out (Hc.out k hlt).2.2
      have hixk := Hix.out k
      have HY := Lib.hid (fun (q : tT h k = t ∧ tK h k = 1 ∧ tI h k = x) => show WrP h t x from ⟨k, hlt, q⟩)
      have HN := Lib.hid (fun (q : ¬ (tT h k = t ∧ tK h k = 1 ∧ tI h k = x)) => show ∀ i, i < k + 1 → ¬ (tT h i = t ∧ tK h i = 1 ∧ tI h i = x) from fun i hi => by
        by_cases e : i = k
        · subst e; exact q
        · exact Hno.out i (by omega))
      obtain ⟨s, hs⟩ : ∃ s, s = tT h k := ⟨_, rfl⟩
      obtain ⟨q, hq⟩ : ∃ r, r = tK h k := ⟨_, rfl⟩
      obtain ⟨y, hy⟩ : ∃ x, x = tI h k := ⟨_, rfl⟩
      rw [← hs] at hc1 HY HN
      rw [← hq] at hc2 HY HN
      rw [← hy] at hc3 HY HN
      clear hs hq hy
      have Hb2 := Lib.hid (Below.tr Hb.out (below_alloc wA (.cells #[.int .i64 s, .int .i64 q, .int .i64 y] 55)))
      have g0 : (wA.alloc (.cells #[.int .i64 s, .int .i64 q, .int .i64 y] 55)).cell? ⟨wA.heap.size, 0, none⟩ = some (.int .i64 s) := cell_new wA _ _ 0
      have g1 : (wA.alloc (.cells #[.int .i64 s, .int .i64 q, .int .i64 y] 55)).cell? ⟨wA.heap.size, 1, none⟩ = some (.int .i64 q) := cell_new wA _ _ 1
      have g2 : (wA.alloc (.cells #[.int .i64 s, .int .i64 q, .int .i64 y] 55)).cell? ⟨wA.heap.size, 2, none⟩ = some (.int .i64 y) := cell_new wA _ _ 2
      by_cases e1 : s = t
      · have r1 : ((s : Int) == (t : Int)) = true := by rw [beq_iff_eq]; omega
        by_cases e2 : q = 1
        · have r2 : ((q : Int) == 1) = true := by rw [beq_iff_eq]; omega
          by_cases e3 : y = x
          · have r3 : ((y : Int) == (x : Int)) = true := by rw [beq_iff_eq]; omega
            have R := Lib.hid (HY.out ⟨e1, e2, e3⟩)
            clear e1 e2 e3
            go_wp2_with fail
            go_ret
            exact ⟨true, rfl, ⟨fun _ => R.out, fun _ => rfl⟩, Hb2.out⟩
          · have r3 : ((y : Int) == (x : Int)) = false := by rw [beq_eq_false_iff_ne]; omega
            have R := Lib.hid (HN.out (fun q => e3 q.2.2))
            clear e1 e2 e3
            go_wp2_with fail
            go_roundw
            case rel => exact ⟨k + 1, by go_num, by omega, Hb2.out, R.out⟩
            case measure => simp [intOf]; omega
        · have r2 : ((q : Int) == 1) = false := by rw [beq_eq_false_iff_ne]; omega
          have R := Lib.hid (HN.out (fun q => e2 q.2.1))
          clear e1 e2
          go_wp2_with fail
          go_roundw
          case rel => exact ⟨k + 1, by go_num, by omega, Hb2.out, R.out⟩
          case measure => simp [intOf]; omega
      · have r1 : ((s : Int) == (t : Int)) = false := by rw [beq_eq_false_iff_ne]; omega
        have R := Lib.hid (HN.out (fun q => e1 q.1))
        clear e1
        go_wp2_with fail
        go_roundw
        case rel => exact ⟨k + 1, by go_num, by omega, Hb2.out, R.out⟩
        case measure => simp [intOf]; omega
    · obtain rfl : k = h.length := by omega
      have R := Lib.hid (show ¬ WrP h t x from fun ⟨i, hi, q⟩ => Hno.out i hi q)
      go_wp2_with fail
      go_ret
      exact ⟨false, rfl, ⟨fun q => (by cases q), fun q => absurd q R.out⟩, Hb.out⟩
theorem beg_first {h : List NOp} {t k : Nat} (hk : tT h k = t) (hno : ∀ i, i < k → tT h i ≠ t) (hk40 : k ≤ 40) : ∀ n, n ≤ 40 → (n ≤ k → beg h n t = 40) ∧ (k < n → beg h n t = k)
  | 0, _ => ⟨fun _ => rfl, fun h => by omega⟩
  | n + 1, hn => by
    have ih := beg_first hk hno hk40 n (by omega)
    rw [beg]
    refine ⟨fun h1 => ?_, fun h1 => ?_⟩
    · rw [if_neg (hno n (by omega))]; exact ih.1 (by omega)
    · by_cases e : n = k
      · subst e
        rw [if_pos hk, ih.1 (Nat.le_refl _)]; omega
      · rw [ih.2 (by omega)]
        split <;> omega
set_option maxRecDepth 100000 in
set_option maxHeartbeats 4000000 in
theorem beginR_any {h : List NOp} (hh : VH h) {t : Nat} (hex : ∃ i, i < h.length ∧ tT h i = t) (v : Value) (w : World) (hv : Ops w v (castO h)) :
    Calls Try.prog 102 #[v, .int .i64 t] w fun e w' => e = .returned (.int .i64 (beg h h.length t : Nat)) ∧ w' = w := by
  obtain ⟨a, bl, off, cap, rfl, hle, ha, hcap, hc⟩ := Ops.nat hv
  have hix := run_ix (P := Try.prog) (t := 23) (a := a) (len := h.length) (cap := cap) (b := bl) (off := off) (s := 3) Try.underlying23 (by intro w; kernel_rfl) ha
  have h40 := hh.le
  have Hc := Lib.hid hc
  have Hix := Lib.hid hix
  obtain ⟨z, hz, htz⟩ := hex
  have Htz := Lib.hid htz
  have HF := Lib.hid (fun k (hk : k < h.length) (e : tT h k = t) (hno : ∀ i, i < k → tT h i ≠ t) => (beg_first e hno (by omega) h.length h40).2 hk)
  clear hc hix ha hle hcap hv hh htz
  go_enter Try.func102, Try.ntmps102
  go_wp2_with fail
  go_loopw [5] (fun vk wr => ∃ k : Nat, vk = .int .i64 k ∧ k ≤ z ∧ w = wr ∧ ∀ i, i < k → tT h i ≠ t) (fun vk _ => z - (intOf vk).toNat)
  case atStart => exact ⟨0, rfl, Nat.zero_le _, rfl, fun i hi => by omega⟩
  case round =>
    obtain ⟨k, rfl, hk, rfl, hno⟩ := hrel
    have Hno := Lib.hid hno
    clear hno
    have hlt : k < h.length := by omega
    have hc1 := (Hc.out k hlt).1
    have hixk := Hix.out k
    have HFk := Lib.hid (fun e => HF.out k hlt e Hno.out)
    have HN := Lib.hid (fun (q : tT h k ≠ t) => show ∀ i, i < k + 1 → tT h i ≠ t from fun i hi => by
      by_cases e : i = k
      · subst e; exact q
      · exact Hno.out i (by omega))
    have Hkz := Lib.hid (fun (q : tT h k ≠ t) => show k < z from by
      rcases Nat.lt_or_ge k z with h1 | h1
      · exact h1
      · have e : k = z := by omega
        rw [e] at q
        exact absurd Htz.out q)
    obtain ⟨s, hs⟩ : ∃ s, s = tT h k := ⟨_, rfl⟩
    rw [← hs] at hc1 HFk HN Hkz
    clear hs
    by_cases e : s = t
    · have R := Lib.hid (HFk.out e)
      have q : ((s : Int) != (t : Int)) = false := by rw [bne_eq_false_iff_eq]; omega
      clear e
      go_wp2_with fail
      go_ret
      exact ⟨by rw [R.out]; rfl, rfl⟩
    · have R := Lib.hid (HN.out e)
      have hkz := Hkz.out e
      have q : ((s : Int) != (t : Int)) = true := by rw [bne_iff_ne]; omega
      clear e
      go_wp2_with fail
      go_roundw
      case rel => exact ⟨k + 1, by go_num, by omega, (by first | rfl | trivial), R.out⟩
      case measure => simp [intOf]; omega
#print axioms beginR_any
#print axioms writesR_any
end Go.Proofs.Ytpehbffkplmfjaa
