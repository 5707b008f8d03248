/- Contracts of isNode, the reference's IsClique and Valid. -/
import Derived.Test.YtkjpbjbheocciaaGc
namespace Go.Proofs.Ytkjpbjbheocciaa
open Go.RowKit

theorem bdrewN {B : Nat} {a w : World} (h : Below B a w) (n : Nat) : Below B a (w.drewN n) := ⟨h.os, h.tape, h.output, h.size, h.block⟩
theorem isNode_b (a : Option Addr) (n c : Nat) (x : Int) (b : Bool) (hb : decide (0 ≤ x ∧ x < (n : Int)) = b) (w : World) :
    Calls Try.prog 71 #[.slice a n c, .int .i64 x] w fun e w' => e = .returned (.bool b) ∧ w = w' := by
  subst hb
  by_cases h0 : 0 ≤ x
  · have R := Lib.hid (show decide (x < (n : Int)) = decide (0 ≤ x ∧ x < (n : Int)) from decide_eq_decide.2 ⟨fun h => ⟨h0, h⟩, fun h => h.2⟩)
    go_enter Try.func71, Try.ntmps71
    go_wp2
    go_ret
    exact ⟨congrArg (fun b => Ending.returned (.bool b)) R.out, rfl⟩
  · have R := Lib.hid (show decide (0 ≤ x ∧ x < (n : Int)) = false from decide_eq_false fun h => h0 h.1)
    have q : decide ((0 : Int) ≤ x) = false := by simpa using h0
    clear h0
    go_enter Try.func71, Try.ntmps71
    go_wp2
    go_ret
    exact ⟨congrArg (fun b => Ending.returned (.bool b)) R.out.symm, rfl⟩

theorem sub_or_iff {s x p : Nat} : ndiff (ndiff s p) x = 0 ↔ Sub s (x ||| p) := by
  rw [ndiff_eq_zero, sub_iff]
  constructor
  · intro h i hi
    rw [Nat.testBit_or]
    have := h i
    rw [testBit_ndiff, hi] at this
    cases hp : p.testBit i
    · rw [hp] at this; simp [this]
    · simp
  · intro h i hi
    rw [testBit_ndiff, Bool.and_eq_true, Bool.not_eq_true'] at hi
    have := h i hi.1
    rw [Nat.testBit_or, hi.2] at this
    simpa using this
theorem hasB_0 {s : Int} {i : Nat} (h : hasB s i = false) : bits .and .i64 (s / 2 ^ i) 1 = 0 := by have := hasB_eq h; simpa using this
theorem hasB_1 {s : Int} {i : Nat} (h : hasB s i = true) : bits .and .i64 (s / 2 ^ i) 1 = 1 := by have := hasB_eq h; simpa using this

set_option maxHeartbeats 2000000 in
theorem isCliqueR_any {g : List Nat} (hg : Gr g) (s : Nat) (hs : s < 4096) (v : Value) (w : World) (hv : Ints w v (castN g)) :
    Calls Try.prog 75 #[v, .int .i64 s] w fun e w' => e = .returned (.bool (decide (Cliq g s))) ∧ ∃ q, w' = w.drewN q := by
  obtain ⟨a, b, off, cap, rfl, hle, ha, hc⟩ := Ints.graph hv
  have hix := run_ix (P := Try.prog) (t := 23) (a := a) (len := g.length) (cap := cap) (b := b) (off := off) (s := 1) Try.underlying23 (by intro w; kernel_rfl) ha
  simp only [Nat.mul_one] at hix
  have Hc := Lib.hid hc
  have HG := Lib.hid hg
  have hn12 := hg.le
  clear ha hv hc hg
  go_enter Try.func75, Try.ntmps75
  go_wp2
  go_loopw [8] (fun i wr => ∃ k : Nat, i = .int .i64 k ∧ k ≤ g.length ∧ (∃ q, wr = w.drewN q) ∧ ∀ q, q < k → s.testBit q = true → Sub s (nb g q ||| 2 ^ q)) (fun i _ => g.length - (intOf i).toNat)
  case atStart => exact ⟨0, rfl, Nat.zero_le _, ⟨0, rfl⟩, fun q hq => by omega⟩
  case round =>
    obtain ⟨k, rfl, hk, ⟨n0, hwr⟩, hin⟩ := hrel
    have Hwr := Lib.hid hwr
    have Hin := Lib.hid hin
    have Hc2 := Lib.hid (show ∀ i, i < g.length → wr.cell? ⟨b, off + i, none⟩ = some (.int .i64 (nb g i : Nat)) from fun i hi => by rw [hwr, World.cell?_drewN]; exact Hc.out i hi)
    clear hin hwr
    by_cases hlt : k < g.length
    · have hc1 := Hc2.out k hlt
      have hixk := hix k
      have hnb := lt63 (HG.out.lt k hlt) hn12
      have hi1 : (0 : Int) ≤ (k : Int) := by omega
      have hi2 : (k : Int) < 64 := by omega
      obtain ⟨P, hP, p1, p2, p3⟩ := pow_name k (by omega)
      generalize hx : nb g k = x at *
      cases hb : s.testBit k with
      | false =>
        have R := Lib.hid (show ∀ q, q < k + 1 → s.testBit q = true → Sub s (nb g q ||| 2 ^ q) from fun q hq h => by
          by_cases e : q = k
          · subst e; simp [hb] at h
          · exact Hin.out q (by omega) h)
        have t1 := hasB_0 (s := s) (i := k) (by rw [hasB_nat]; exact hb)
        rw [p1] at t1
        clear hb hP hx
        go_wp2_with fail
        go_quiet (fail)
        go_wp2_with fail
        go_roundw
        case rel => exact ⟨k + 1, by go_num, by omega, ⟨_, by rw [Hwr.out, World.drewN_drewN]⟩, R.out⟩
        case measure => simp [intOf]; omega
      | true =>
        have t1 := hasB_1 (s := s) (i := k) (by rw [hasB_nat]; exact hb)
        rw [p1] at t1
        have e1 := bits_andNot_nat s P (by omega) (by omega)
        have l1 := ndiff_le s P
        have e2 := bits_andNot_nat (ndiff s P) x (by omega) (by omega)
        by_cases hsub : Sub s (x ||| P)
        · have R := Lib.hid (show ∀ q, q < k + 1 → s.testBit q = true → Sub s (nb g q ||| 2 ^ q) from fun q hq h => by
            by_cases e : q = k
            · subst e; rw [hx, ← hP]; exact hsub
            · exact Hin.out q (by omega) h)
          rw [sub_or_iff.2 hsub] at e2
          have q0 : (((0 : Nat) : Int) != 0) = false := rfl
          clear hb hP hsub hx l1
          go_wp2_with fail
          go_quiet (fail)
          go_wp2_with fail
          go_roundw
          case rel => exact ⟨k + 1, by go_num, by omega, ⟨_, by rw [Hwr.out, World.drewN_drewN]⟩, R.out⟩
          case measure => simp [intOf]; omega
        · have R := Lib.hid (cliq_no (g := g) hlt hb (by rw [hx, ← hP]; exact hsub))
          have hne : ndiff (ndiff s P) x ≠ 0 := fun h => hsub (sub_or_iff.1 h)
          generalize ndiff (ndiff s P) x = y at *
          have q0 : ((y : Int) != 0) = true := by rw [bne_iff_ne]; omega
          clear hb hP hsub hx l1 hne
          go_wp2_with fail
          go_quiet (fail)
          go_wp2_with fail
          go_ret
          exact ⟨congrArg (fun b => Ending.returned (.bool b)) R.out.symm, _, by rw [Hwr.out, World.drewN_drewN]⟩
    · obtain rfl : k = g.length := by omega
      have R := Lib.hid (show decide (Cliq g s) = true from decide_eq_true fun i hi h => Hin.out i hi h)
      go_wp2
      go_ret
      exact ⟨congrArg (fun b => Ending.returned (.bool b)) R.out.symm, _, Hwr.out⟩

theorem rowOk_no_neg {l : List Int} {i : Nat} (hi : i < l.length) (h : gI l i < 0) : decide (GrI l) = false := grI_no hi fun hr => by have := hr.1.1; omega
set_option maxHeartbeats 2000000 in
theorem validR_any (l : List Int) (v : Value) (w : World) (hv : Ints w v l) :
    Calls Try.prog 21 #[v] w fun e w' => e = .returned (.bool (decide (GrI l))) ∧ w = w' := by
  obtain ⟨a, b, off, cap, rfl, hle, ha, hc⟩ := Ints.get hv
  have hix := run_ix (P := Try.prog) (t := 23) (a := a) (len := l.length) (cap := cap) (b := b) (off := off) (s := 1) Try.underlying23 (by intro w; kernel_rfl) ha
  simp only [Nat.mul_one] at hix
  by_cases hn : 1 ≤ l.length ∧ l.length ≤ 12
  · obtain ⟨hn1, hn12⟩ := hn
    have Hc := Lib.hid (show ∀ i, i < l.length → w.cell? ⟨b, off + i, none⟩ = some (.int .i64 (gI l i)) from fun i hi => by rw [hc i hi, gI_get hi])
    clear ha hv hc
    obtain ⟨F, hF, f1, f2, f3⟩ := pow_name l.length hn12
    have HF := Lib.hid hF
    have hl1 : (0 : Int) ≤ (l.length : Int) := by omega
    have hl2 : (l.length : Int) < 64 := by omega
    clear hF
    go_enter Try.func21, Try.ntmps21
    go_wp2
    go_loopw [16] (fun i wr => ∃ k : Nat, i = .int .i64 k ∧ k ≤ l.length ∧ wr = w ∧ ∀ q, q < k → RowOk l q) (fun i _ => l.length - (intOf i).toNat)
    case atStart => exact ⟨0, rfl, Nat.zero_le _, rfl, fun q hq => by omega⟩
    case round =>
      obtain ⟨k, rfl, hk, hwr, hin⟩ := hrel
      subst hwr
      have Hin := Lib.hid hin
      clear hin
      by_cases hlt : k < l.length
      · have hc1 := Hc.out k hlt
        have hixk := hix k
        have hi1 : (0 : Int) ≤ (k : Int) := by omega
        have hi2 : (k : Int) < 64 := by omega
        obtain ⟨x, hx⟩ : ∃ x, x = gI l k := ⟨_, rfl⟩
        rw [← hx] at hc1
        by_cases hneg : x < 0
        · have R := Lib.hid (rowOk_no_neg hlt (by omega))
          clear hx
          go_wp2_with fail
          go_ret
          exact ⟨congrArg (fun b => Ending.returned (.bool b)) R.out.symm, rfl⟩
        · by_cases hbig : x ≥ (F : Int)
          · have R := Lib.hid (grI_no hlt fun h => by have := h.1.2.1; rw [← HF.out] at this; omega)
            clear hx
            go_wp2_with fail
            go_ret
            exact ⟨congrArg (fun b => Ending.returned (.bool b)) R.out.symm, rfl⟩
          · cases hb : hasB x k with
            | true =>
              have R := Lib.hid (grI_no hlt fun h => by have := h.1.2.2; rw [← hx, hb] at this; simp at this)
              have t1 := hasB_1 hb
              clear hx hb
              go_wp2_with fail
              go_ret
              exact ⟨congrArg (fun b => Ending.returned (.bool b)) R.out.symm, rfl⟩
            | false =>
              have H1 := Lib.hid (show 0 ≤ gI l k ∧ gI l k < ((2 ^ l.length : Nat) : Int) ∧ hasB (gI l k) k = false from ⟨by omega, by rw [← HF.out]; omega, by rw [← hx]; exact hb⟩)
              have t1 := hasB_0 hb
              have Hx := Lib.hid hx
              clear hx hb
              go_wp2_with fail
              obtain ⟨wo, rfl⟩ : ∃ wo : World, wo = wr := ⟨_, rfl⟩
              clear t1
              go_loopw [39] (fun i wr => ∃ j : Nat, i = .int .i64 j ∧ j ≤ l.length ∧ wr = wo ∧ ∀ q, q < j → hasB x q = true → hasB (gI l q) k = true) (fun i _ => l.length - (intOf i).toNat)
              case atStart => exact ⟨0, rfl, Nat.zero_le _, rfl, fun q hq => by omega⟩
              case round =>
                obtain ⟨j, rfl, hj, hwr, hin2⟩ := hrel
                subst hwr
                have Hin2 := Lib.hid hin2
                clear hin2
                by_cases hltj : j < l.length
                · have hc2 := Hc.out j hltj
                  have hixj := hix j
                  have hj1 : (0 : Int) ≤ (j : Int) := by omega
                  have hj2 : (j : Int) < 64 := by omega
                  cases hb1 : hasB x j with
                  | false =>
                    have t1 := hasB_0 hb1
                    have R := Lib.hid (show ∀ q, q < j + 1 → hasB x q = true → hasB (gI l q) k = true from fun q hq h => by
                      by_cases e : q = j
                      · subst e; rw [hb1] at h; simp at h
                      · exact Hin2.out q (by omega) h)
                    clear hb1
                    go_wp2_with fail
                    go_roundw
                    case rel => exact ⟨j + 1, by go_num, by omega, trivial, R.out⟩
                    case measure => simp [intOf]; omega
                  | true =>
                    have t1 := hasB_1 hb1
                    obtain ⟨y, hy⟩ : ∃ y, y = gI l j := ⟨_, rfl⟩
                    rw [← hy] at hc2
                    by_cases hyn : y < 0
                    · have R := Lib.hid (rowOk_no_neg hltj (by omega))
                      clear hb1 hy
                      go_wp2_with fail
                      go_ret
                      exact ⟨congrArg (fun b => Ending.returned (.bool b)) R.out.symm, rfl⟩
                    · cases hb2 : hasB y k with
                      | false =>
                        have t2 := hasB_0 hb2
                        have R := Lib.hid (grI_no hlt fun h => by have := h.2 j hltj (by rw [← Hx.out]; exact hb1); rw [← hy, hb2] at this; simp at this)
                        clear hb1 hb2 hy
                        go_wp2_with fail
                        go_ret
                        exact ⟨congrArg (fun b => Ending.returned (.bool b)) R.out.symm, rfl⟩
                      | true =>
                        have t2 := hasB_1 hb2
                        have R := Lib.hid (show ∀ q, q < j + 1 → hasB x q = true → hasB (gI l q) k = true from fun q hq h => by
                          by_cases e : q = j
                          · subst e; rw [← hy]; exact hb2
                          · exact Hin2.out q (by omega) h)
                        clear hb1 hb2 hy
                        go_wp2_with fail
                        go_roundw
                        case rel => exact ⟨j + 1, by go_num, by omega, trivial, R.out⟩
                        case measure => simp [intOf]; omega
                · obtain rfl : j = l.length := by omega
                  have R := Lib.hid (show ∀ q, q < k + 1 → RowOk l q from fun q hq => by
                    by_cases e : q = k
                    · subst e; exact ⟨H1.out, fun j hj h => Hin2.out j hj (by rw [Hx.out]; exact h)⟩
                    · exact Hin.out q (by omega))
                  go_wp2_with fail
                  go_roundw
                  case rel => exact ⟨k + 1, by go_num, by omega, trivial, R.out⟩
                  case measure => simp [intOf]; omega
      · obtain rfl : k = l.length := by omega
        have R := Lib.hid (show decide (GrI l) = true from decide_eq_true ⟨⟨hn1, hn12⟩, Hin.out⟩)
        go_wp2
        go_ret
        exact ⟨congrArg (fun b => Ending.returned (.bool b)) R.out.symm, rfl⟩
  · have R := Lib.hid (show decide (GrI l) = false from decide_eq_false fun h => hn h.1)
    have q : l.length < 1 ∨ (1 ≤ l.length ∧ (12 : Int) < (l.length : Int)) := by omega
    clear hn hc ha hv hix
    rcases q with q | ⟨q1, q⟩
    all_goals
      go_enter Try.func21, Try.ntmps21
      go_wp2
      go_ret
      exact ⟨congrArg (fun b => Ending.returned (.bool b)) R.out.symm, rfl⟩
#print axioms validR_any
#print axioms isCliqueR_any
end Go.Proofs.Ytkjpbjbheocciaa
