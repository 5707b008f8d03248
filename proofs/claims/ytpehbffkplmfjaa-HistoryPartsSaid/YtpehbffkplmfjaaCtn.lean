/- Contracts of slices.Index and slices.Contains of ints. -/
import Derived.Test.YtpehbffkplmfjaaClo
namespace Go.Proofs.Ytpehbffkplmfjaa
open Go.RowKit
set_option maxRecDepth 100000 in
theorem indexI_any (x : Nat) (l : List Nat) (v : Value) (w : World) (hv : Ints w v (castN l)) :
    Calls Try.prog 83 #[v, .int .i64 x] w fun e w' => ∃ i : Int, e = .returned (.int .i64 i) ∧ (0 ≤ i ↔ x ∈ l) ∧ w' = w := by
  obtain ⟨a, b, off, cap, rfl, hle, ha, hc⟩ := IntsN.get hv
  have hix := run_ix (P := Try.prog) (t := 24) (a := a) (len := l.length) (cap := cap) (b := b) (off := off) (s := 1) Try.underlying24 (by intro w; kernel_rfl) ha
  simp only [Nat.mul_one] at hix
  have Hc := Lib.hid hc
  clear ha hv hc
  go_enter Try.func83, Try.ntmps83
  go_wp2_with fail
  go_loopw [8] (fun i wr => ∃ k : Nat, i = .int .i64 k ∧ k ≤ l.length ∧ w = wr ∧ ∀ q, q < k → l.getD q 0 ≠ x) (fun i _ => l.length - (intOf i).toNat)
  case atStart => exact ⟨0, rfl, Nat.zero_le _, rfl, fun q hq => by omega⟩
  case round =>
    obtain ⟨k, rfl, hk, hwr, hin⟩ := hrel
    subst hwr
    have Hin := Lib.hid hin
    clear hin
    by_cases hlt : k < l.length
    · have hc1 := Hc.out k hlt
      have hixk := hix k
      obtain ⟨y, hy⟩ : ∃ y, y = l.getD k 0 := ⟨_, rfl⟩
      rw [← hy] at hc1
      by_cases e : x = y
      · have R := Lib.hid (show (0 ≤ (k : Int) ↔ x ∈ l) from ⟨fun _ => by rw [e, hy]; exact getD_mem hlt, fun _ => by omega⟩)
        have q : ((x : Int) == (y : Int)) = true := by rw [beq_iff_eq]; omega
        clear e hy
        go_wp2_with fail
        go_ret
        exact ⟨_, rfl, R.out, rfl⟩
      · have R := Lib.hid (show ∀ q, q < k + 1 → l.getD q 0 ≠ x from fun q hq h => by
          by_cases e2 : q = k
          · subst e2; exact e (by rw [hy, h])
          · exact Hin.out q (by omega) h)
        have q : ((x : Int) == (y : Int)) = false := by rw [beq_eq_false_iff_ne]; omega
        clear e hy
        go_wp2_with fail
        go_roundw
        case rel => exact ⟨k + 1, by go_num, by omega, (by first | rfl | trivial), R.out⟩
        case measure => simp [intOf]; omega
    · obtain rfl : k = l.length := by omega
      have R := Lib.hid (show (0 ≤ (-1 : Int) ↔ x ∈ l) from ⟨fun h => by omega, fun h => by
        obtain ⟨i, hi, e⟩ := List.getElem_of_mem h
        have := Hin.out i hi
        rw [List.getD_eq_getElem?_getD, List.getElem?_eq_getElem hi] at this
        exact absurd e this⟩)
      go_wp2_with fail
      go_ret
      exact ⟨_, rfl, R.out, rfl⟩
theorem containsI_any (x : Nat) (l : List Nat) (B : Bool) (hB : decide (x ∈ l) = B) (v : Value) (w : World) (hv : Ints w v (castN l)) :
    Calls Try.prog 45 #[v, .int .i64 x] w fun e w' => e = .returned (.bool B) ∧ w' = w := by
  subst hB
  have H := Lib.hid (indexI_any x l v w hv)
  clear hv
  go_enter Try.func45, Try.ntmps45
  go_wp2_with fail
  refine H.out.mono ?_
  rintro e w' ⟨i, rfl, hi, rfl⟩
  have Hi := Lib.hid (show decide (0 ≤ i) = decide (x ∈ l) from decide_eq_decide.2 hi)
  clear hi H
  go_wp2_with fail
  go_ret
  exact ⟨congrArg (fun b => Ending.returned (.bool b)) Hi.out, rfl⟩
#print axioms containsI_any
end Go.Proofs.Ytpehbffkplmfjaa
