/- The closure that Mine makes. -/
import Derived.Test.YtnidalbfmicoiaaWalkO
import Derived.Test.YtnidalbfmicoiaaWalkU
namespace Go.Proofs.Ytnidalbfmicoiaa
open Go.RowKit

/-- all agreements that contain s, cut together -/
def mclTo (A : List Nat) (F1 s k : Nat) : Nat := (A.take k).foldl (fun x e => if Sub s e then x &&& e else x) F1
def mcl (A : List Nat) (F1 s : Nat) : Nat := mclTo A F1 s A.length
theorem mclTo_zero (A : List Nat) (F1 s : Nat) : mclTo A F1 s 0 = F1 := rfl
theorem mclTo_succ {A : List Nat} {F1 s k : Nat} (hk : k < A.length) : mclTo A F1 s (k + 1) = if Sub s A[k] then mclTo A F1 s k &&& A[k] else mclTo A F1 s k := by
  unfold mclTo
  rw [List.take_succ_eq_append_getElem hk, List.foldl_append]
  rfl
theorem mclTo_le (A : List Nat) (F1 s : Nat) : ∀ k, k ≤ A.length → mclTo A F1 s k ≤ F1
  | 0, _ => by rw [mclTo_zero]; exact Nat.le_refl _
  | k + 1, h => by
    have := mclTo_le A F1 s k (by omega)
    rw [mclTo_succ (by omega)]
    split
    · exact Nat.le_trans Nat.and_le_left this
    · exact this
theorem mcl_le (A : List Nat) (F1 s : Nat) : mcl A F1 s ≤ F1 := mclTo_le A F1 s _ (Nat.le_refl _)

set_option maxRecDepth 100000 in
theorem mine1_any {m F : Nat} (hF : F = 2 ^ m) (hm8 : m ≤ 8) (h256 : F ≤ 256) (A : List Nat) (hA : ∀ e ∈ A, e < 256) (s pb qb : Nat) (hs : s < 256) (v : Value) (w : World)
    (hp : w.cell? ⟨pb, 0, none⟩ = some (.int .i64 (m : Int))) (hq : w.cell? ⟨qb, 0, none⟩ = some v) (hv : Ints w v (castN A)) :
    Calls Try.prog 85 #[.int .i64 s, .pointer (some ⟨pb, 0, none⟩), .pointer (some ⟨qb, 0, none⟩)] w fun e w' => e = .returned (.int .i64 (mcl A (F - 1) s : Nat)) ∧ Below w.heap.size w w' := by
  obtain ⟨a, b, off, cap, rfl, hle, ha, hc⟩ := Ints.get hv
  have e0 : (castN A).length = A.length := by simp [castN]
  have hc' : ∀ i (h : i < A.length), w.cell? ⟨b, off + i, none⟩ = some (.int .i64 ((A[i] : Nat) : Int)) := by
    intro i hi
    have := hc i (by omega)
    simpa [castN] using this
  rw [e0] at hle ha hq
  have hix := run_ix (P := Try.prog) (t := 56) (a := a) (len := A.length) (cap := cap) (b := b) (off := off) (s := 1) Try.underlying56 (by intro w; kernel_rfl) ha
  simp only [Nat.mul_one] at hix
  have Hc := Lib.hid hc'
  have HF := Lib.hid hF
  have HA := Lib.hid hA
  clear ha hc hv e0 hc' hF hA
  go_enter Try.func85, Try.ntmps85
  go_wp2_with fail
  refine (full_F HF.out hm8 _).mono ?_
  rintro e w1 ⟨rfl, rfl⟩
  go_wp2_with fail
  go_loopw [5, 12] (fun x i wr => ∃ k : Nat, x = .int .i64 (mclTo A (F - 1) s k : Nat) ∧ i = .int .i64 k ∧ k ≤ A.length ∧ Below w.heap.size w wr) (fun _ i _ => A.length - (intOf i).toNat)
  case atStart => exact ⟨0, by rw [mclTo_zero], rfl, Nat.zero_le _, Below.refl _ _⟩
  case round =>
    obtain ⟨k, rfl, rfl, hk, hb⟩ := hrel
    by_cases hlt : k < A.length
    · have hcl := Below.keep hb (Hc.out k hlt)
      have hak := HA.out _ (List.getElem_mem hlt)
      have hml := mclTo_le A (F - 1) s k hk
      have t1 := bits_and_nat (mclTo A (F - 1) s k) A[k] (by omega) (by omega)
      have hst := mclTo_succ (F1 := F - 1) (s := s) hlt
      go_wp2_with fail
      refine (contains_any _ _ (by omega) (by omega) _).mono ?_
      rintro e w2 ⟨rfl, rfl⟩
      by_cases hS : Sub s A[k]
      · rw [if_pos hS] at hst
        have Hst := Lib.hid hst
        rw [decide_eq_true hS]
        clear hst hS
        go_wp2_with fail
        go_roundw
        case rel => exact ⟨k + 1, by rw [Hst.out], by go_num, by omega, hb⟩
        case measure => simp [intOf]; omega
      · rw [if_neg hS] at hst
        have Hst := Lib.hid hst
        rw [decide_eq_false hS]
        clear hst hS
        go_wp2_with fail
        go_roundw
        case rel => exact ⟨k + 1, by rw [Hst.out], by go_num, by omega, hb⟩
        case measure => simp [intOf]; omega
    · obtain rfl : k = A.length := by omega
      go_wp2_with fail
      go_ret
      exact ⟨rfl, hb⟩
end Go.Proofs.Ytnidalbfmicoiaa
