/- Contracts of violation (the program's, of any closure) and of the reference's Violation. -/
import Derived.Test.YtnidalbfmicoiaaWalkM
import Derived.Test.YtnidalbfmicoiaaWalkR
import Derived.Test.YtnidalbfmicoiaaMathDec
namespace Go.Proofs.Ytnidalbfmicoiaa
open Go.RowKit

set_option maxRecDepth 100000 in
theorem violation_any (pv : Value) (c : Nat → Nat) (F S : Nat) (hF : F ≤ 256) (hS : S < F) (hc : ∀ k, k < F → c k < F) (w : World) (hfn : ClosFn 94 pv c F w) :
    Calls Try.prog 91 #[.func (.func 94) #[] #[pv], .int .i64 S] w fun e w' => (vioTo c S = none ∧ e = .returned (.tuple #[.agg #[.int .i64 0, .int .i64 0], .bool false]) ∨ ∃ d, vioTo c S = some d ∧ e = .returned (.tuple #[.agg #[.int .i64 (d.1 : Nat), .int .i64 (d.2 : Nat)], .bool true])) ∧ Below w.heap.size w w' := by
  have Hfn := Lib.hid hfn
  have Hc := Lib.hid hc
  clear hfn hc
  go_enter Try.func91, Try.ntmps91
  go_wp2_with fail
  have hb0 : Below w.heap.size w (w.alloc (.cells #[.int .i64 0, .int .i64 0] 32)) := below_alloc _ _
  have hx : (w.alloc (.cells #[.int .i64 0, .int .i64 0] 32)).cell? ⟨w.heap.size, 0, none⟩ = some (.int .i64 0) := by go_simp
  have hy : (w.alloc (.cells #[.int .i64 0, .int .i64 0] 32)).cell? ⟨w.heap.size, 1, none⟩ = some (.int .i64 0) := by go_simp
  have hfz : ∀ j, (w.alloc (.cells #[.int .i64 0, .int .i64 0] 32)).frozen? ⟨w.heap.size, j, none⟩ = false := fun j => World.frozen?_alloc_at _ _ _ _ rfl
  have hsz : (w.alloc (.cells #[.int .i64 0, .int .i64 0] 32)).heap.size = w.heap.size + 1 := by simp
  generalize w.alloc (.cells #[.int .i64 0, .int .i64 0] 32) = w2 at *
  have Hb0 := Lib.hid hb0
  go_loopw [9] (fun i wr => ∃ k : Nat, i = .int .i64 k ∧ k ≤ S ∧ Below w2.heap.size w2 wr ∧ ∀ y, y < k → ¬ IsVio c S y) (fun i _ => S - (intOf i).toNat)
  case atStart => exact ⟨0, rfl, Nat.zero_le _, Below.refl _ _, fun y hy => by omega⟩
  case round =>
    obtain ⟨k, rfl, hk, hb, hin⟩ := hrel
    have Hin := Lib.hid hin
    have Hb := Lib.hid hb
    clear hin hb
    by_cases hlt : k < S
    · have hS2 : S < 256 := by omega
      have hk2 : k < 256 := by omega
      have hck := Hc.out k (by omega)
      go_wp2_with fail
      refine (contains_any S k (by omega) (by omega) _).mono ?_
      rintro e w3 ⟨rfl, rfl⟩
      have Hb3 := Lib.hid Hb.out
      by_cases hs : Sub k S
      · rw [decide_eq_true hs]
        go_wp2_with fail
        refine (Hfn.out k (by omega) _ (Below.tr Hb0.out Hb3.out)).mono ?_
        rintro e w4 ⟨rfl, hb4⟩
        have Hb4 := Lib.hid (Below.tr Hb3.out hb4)
        have ea : bits .and .i64 (c k : Nat) (S : Nat) = ((c k &&& S : Nat) : Int) := bits_and_nat _ _ (by omega) (by omega)
        have hle : c k &&& S ≤ S := Nat.and_le_right
        have eb : bits .andNot .i64 (c k &&& S : Nat) (k : Nat) = ((ndiff (c k &&& S) k : Nat) : Int) := bits_andNot_nat _ _ (by omega) (by omega)
        have hx4 := Below.keep Hb4.out hx
        have hy4 := Below.keep Hb4.out hy
        have hf4 : ∀ j, w4.frozen? ⟨w.heap.size, j, none⟩ = false := fun j => (Below.frozen Hb4.out (p := ⟨w.heap.size, j, none⟩) (by show w.heap.size < w2.heap.size; omega)).trans (hfz j)
        have hg0 := hf4 0
        have hg1 := hf4 1
        by_cases hv : c k &&& S ≠ S ∧ c k &&& S ≠ k
        · have t1 : (((c k &&& S : Nat) : Int) != (S : Int)) = true := by simp; have := hv.1; omega
          have t2 : (((c k &&& S : Nat) : Int) != (k : Int)) = true := by simp; have := hv.2; omega
          have R := Lib.hid (vio_found hlt ⟨hs, hv.1, hv.2⟩ Hin.out)
          clear hv hfz hf4 hb4
          have Hb5 := Lib.hid (Below.tr Hb0.out Hb4.out)
          go_wp2_with fail
          refine bodyPost_ret (v := .tuple #[.agg #[.int .i64 k, .int .i64 (ndiff (c k &&& S) k : Nat)], .bool true]) (by simp [results, Try.results91, go_sem]; go_simp) rfl ⟨.inr ⟨_, R.out, rfl⟩, ?_⟩
          exact (Hb5.out.setCell (Nat.le_refl _) _).setCell (Nat.le_refl _) _
        · have R := Lib.hid (show ∀ y, y < k + 1 → ¬ IsVio c S y from fun y hy h => by
            rcases Nat.lt_succ_iff_lt_or_eq.1 hy with hy | rfl
            · exact Hin.out y hy h
            · exact hv h.2)
          clear hfz hf4 hb4
          by_cases e1 : c k &&& S = S
          · have t1 : (((c k &&& S : Nat) : Int) != (S : Int)) = false := by rw [e1]; simp
            clear hv
            go_wp2_with fail
            go_roundw
            case rel => exact ⟨k + 1, by go_num, by omega, Hb4.out, R.out⟩
            case measure => simp [intOf]; omega
          · have e2 : c k &&& S = k := Classical.byContradiction fun e2 => hv ⟨e1, e2⟩
            have t1 : (((c k &&& S : Nat) : Int) != (S : Int)) = true := by simp; omega
            have t2 : (((c k &&& S : Nat) : Int) != (k : Int)) = false := by rw [e2]; simp
            clear hv e1 e2
            go_wp2_with fail
            go_roundw
            case rel => exact ⟨k + 1, by go_num, by omega, Hb4.out, R.out⟩
            case measure => simp [intOf]; omega
      · rw [decide_eq_false hs]
        have R := Lib.hid (show ∀ y, y < k + 1 → ¬ IsVio c S y from fun y hy h => by
          rcases Nat.lt_succ_iff_lt_or_eq.1 hy with hy | rfl
          · exact Hin.out y hy h
          · exact hs h.1)
        go_wp2_with fail
        go_roundw
        case rel => exact ⟨k + 1, by go_num, by omega, Hb3.out, R.out⟩
        case measure => simp [intOf]; omega
    · obtain rfl : k = S := by omega
      have R := Lib.hid (vio_none Hin.out)
      have hx4 := Below.keep Hb.out hx
      have hy4 := Below.keep Hb.out hy
      have hf4 : ∀ j, wr.frozen? ⟨w.heap.size, j, none⟩ = false := fun j => (Below.frozen Hb.out (p := ⟨w.heap.size, j, none⟩) (by show w.heap.size < w2.heap.size; omega)).trans (hfz j)
      have hg0 := hf4 0
      have hg1 := hf4 1
      have Hb4 := Lib.hid (Below.tr Hb0.out Hb.out)
      clear hfz hf4
      go_wp2_with fail
      refine bodyPost_ret (v := .tuple #[.agg #[.int .i64 0, .int .i64 0], .bool false]) (by simp [results, Try.results91, go_sem]; go_simp) rfl ⟨.inl ⟨R.out, rfl⟩, ?_⟩
      exact (Hb4.out.setCell (Nat.le_refl _) _).setCell (Nat.le_refl _) _

theorem and_full_iff {c S : Nat} : c &&& S = S ↔ ndiff S c = 0 :=
  ⟨fun h => (show Sub S c by have := and_sub_left c S; rwa [h] at this), fun h => by rw [Nat.and_comm]; exact (show Sub S c from h).and_eq⟩
theorem and_part_iff {c S k : Nat} (h1 : Sub k S) (h2 : Sub k c) : c &&& S = k ↔ ndiff (c &&& S) k = 0 :=
  ⟨fun h => by rw [h]; exact Sub.refl k, fun h => (show Sub (c &&& S) k from h).antisymm (sub_and h2 h1)⟩
set_option maxRecDepth 100000 in
theorem violationR_any (l : List DepN) (hl : AllLt l 256) (S : Nat) (hS : S < 256) (v : Value) (w : World) (hv : Deps w v (castD l)) :
    Calls Try.prog 63 #[v, .int .i64 S] w fun e w' => (vioTo (cl l) S = none ∧ e = .returned (.tuple #[.agg #[.int .i64 0, .int .i64 0], .int .i64 5]) ∨ ∃ d, vioTo (cl l) S = some d ∧ e = .returned (.tuple #[.agg #[.int .i64 (d.1 : Nat), .int .i64 (d.2 : Nat)], .int .i64 0])) ∧ Below w.heap.size w w' := by
  have Hv := Lib.hid hv
  have Hl := Lib.hid hl
  obtain ⟨a, b, off, cap, rfl, -⟩ := Deps.get hv
  clear hv hl
  go_enter Try.func63, Try.ntmps63
  go_wp2_with fail
  have hb0 : Below w.heap.size w (w.alloc (.cells #[.int .i64 0, .int .i64 0] 24)) := below_alloc _ _
  have hx : (w.alloc (.cells #[.int .i64 0, .int .i64 0] 24)).cell? ⟨w.heap.size, 0, none⟩ = some (.int .i64 0) := by go_simp
  have hy : (w.alloc (.cells #[.int .i64 0, .int .i64 0] 24)).cell? ⟨w.heap.size, 1, none⟩ = some (.int .i64 0) := by go_simp
  have hfz : ∀ j, (w.alloc (.cells #[.int .i64 0, .int .i64 0] 24)).frozen? ⟨w.heap.size, j, none⟩ = false := fun j => World.frozen?_alloc_at _ _ _ _ rfl
  have hsz : (w.alloc (.cells #[.int .i64 0, .int .i64 0] 24)).heap.size = w.heap.size + 1 := by simp
  generalize w.alloc (.cells #[.int .i64 0, .int .i64 0] 24) = w2 at *
  have Hb0 := Lib.hid hb0
  have q0 : IntKind.i64.wrap ((S : Int) + 1) = ((S + 1 : Nat) : Int) := by rw [show ((S : Int) + 1) = ((S + 1 : Nat) : Int) from by simp]; exact wrap_nat _ (by omega)
  go_loopw [10] (fun i wr => ∃ k : Nat, i = .int .i64 k ∧ k ≤ S + 1 ∧ Below w2.heap.size w2 wr ∧ ∀ y, y < k → ¬ IsVio (cl l) S y) (fun i _ => S + 1 - (intOf i).toNat)
  case atStart => exact ⟨0, rfl, Nat.zero_le _, Below.refl _ _, fun y hy => by omega⟩
  case round =>
    obtain ⟨k, rfl, hk, hb, hin⟩ := hrel
    have Hin := Lib.hid hin
    have Hb := Lib.hid hb
    clear hin hb
    by_cases hlt : k < S + 1
    · have hk2 : k < 256 := by omega
      have hck := cl_lt l k
      have Hsc := Lib.hid (sub_cl (l := l) hk2)
      go_wp2_with fail
      refine (closureR_any l Hl.out k (by omega) _ _ (Deps.keep Hv.out (Below.tr Hb0.out Hb.out))).mono ?_
      rintro e w4 ⟨rfl, hb4⟩
      have Hb4 := Lib.hid (Below.tr Hb.out hb4)
      have ea : bits .and .i64 (cl l k : Nat) (S : Nat) = ((cl l k &&& S : Nat) : Int) := bits_and_nat _ _ (by omega) (by omega)
      have hle : cl l k &&& S ≤ S := Nat.and_le_right
      have eb : bits .andNot .i64 (cl l k &&& S : Nat) (k : Nat) = ((ndiff (cl l k &&& S) k : Nat) : Int) := bits_andNot_nat _ _ (by omega) (by omega)
      have ec : bits .andNot .i64 (k : Nat) (S : Nat) = ((ndiff k S : Nat) : Int) := bits_andNot_nat _ _ (by omega) (by omega)
      have ed : bits .andNot .i64 (S : Nat) (cl l k : Nat) = ((ndiff S (cl l k) : Nat) : Int) := bits_andNot_nat _ _ (by omega) (by omega)
      have hx4 := Below.keep Hb4.out hx
      have hy4 := Below.keep Hb4.out hy
      have hf4 : ∀ j, w4.frozen? ⟨w.heap.size, j, none⟩ = false := fun j => (Below.frozen Hb4.out (p := ⟨w.heap.size, j, none⟩) (by show w.heap.size < w2.heap.size; omega)).trans (hfz j)
      have hg0 := hf4 0
      have hg1 := hf4 1
      by_cases hv : IsVio (cl l) S k
      · have e1 : ndiff k S = 0 := hv.1
        have e2 : ndiff S (cl l k) ≠ 0 := fun h => hv.2.1 (and_full_iff.2 h)
        have e3 : ndiff (cl l k &&& S) k ≠ 0 := fun h => hv.2.2 ((and_part_iff hv.1 Hsc.out).2 h)
        have hks : k < S := Nat.lt_of_le_of_ne (by omega) (fun h => by subst h; exact vio_top Hsc.out hv)
        have R := Lib.hid (vio_found hks hv Hin.out)
        have t1 : (((ndiff k S : Nat) : Int) == 0) = true := by simp; omega
        have t2 : (((ndiff S (cl l k) : Nat) : Int) != 0) = true := by simp; omega
        have t3 : (((ndiff (cl l k &&& S) k : Nat) : Int) != 0) = true := by simp; omega
        clear hv hfz hf4 hb4 e1 e2 e3
        have Hb5 := Lib.hid (Below.tr Hb0.out Hb4.out)
        go_wp2_with fail
        refine bodyPost_ret (v := .tuple #[.agg #[.int .i64 k, .int .i64 (ndiff (cl l k &&& S) k : Nat)], .int .i64 0]) (by simp [results, Try.results63, go_sem]; go_simp) rfl ⟨.inr ⟨_, R.out, rfl⟩, ?_⟩
        exact (Hb5.out.setCell (Nat.le_refl _) _).setCell (Nat.le_refl _) _
      · have R := Lib.hid (show ∀ y, y < k + 1 → ¬ IsVio (cl l) S y from fun y hy h => by
          rcases Nat.lt_succ_iff_lt_or_eq.1 hy with hy | rfl
          · exact Hin.out y hy h
          · exact hv h)
        clear hfz hf4
        by_cases e1 : ndiff k S = 0
        · have t1 : (((ndiff k S : Nat) : Int) == 0) = true := by simp; omega
          by_cases e2 : ndiff S (cl l k) = 0
          · have t2 : (((ndiff S (cl l k) : Nat) : Int) != 0) = false := by rw [e2]; simp
            clear hv
            go_wp2_with fail
            go_roundw
            case rel => exact ⟨k + 1, by go_num, by omega, Hb4.out, R.out⟩
            case measure => simp [intOf]; omega
          · have e3 : ndiff (cl l k &&& S) k = 0 := Classical.byContradiction fun e3 => hv ⟨e1, fun h => e2 (and_full_iff.1 h), fun h => e3 ((and_part_iff e1 Hsc.out).1 h)⟩
            have t2 : (((ndiff S (cl l k) : Nat) : Int) != 0) = true := by simp; omega
            have t3 : (((ndiff (cl l k &&& S) k : Nat) : Int) != 0) = false := by rw [e3]; simp
            clear hv e1 e2 e3
            go_wp2_with fail
            go_roundw
            case rel => exact ⟨k + 1, by go_num, by omega, Hb4.out, R.out⟩
            case measure => simp [intOf]; omega
        · have t1 : (((ndiff k S : Nat) : Int) == 0) = false := by simp; omega
          clear hv e1
          go_wp2_with fail
          go_roundw
          case rel => exact ⟨k + 1, by go_num, by omega, Hb4.out, R.out⟩
          case measure => simp [intOf]; omega
    · obtain rfl : k = S + 1 := by omega
      have R := Lib.hid (vio_none (c := cl l) (S := S) fun y hy => Hin.out y (by omega))
      have hx4 := Below.keep Hb.out hx
      have hy4 := Below.keep Hb.out hy
      have hf4 : ∀ j, wr.frozen? ⟨w.heap.size, j, none⟩ = false := fun j => (Below.frozen Hb.out (p := ⟨w.heap.size, j, none⟩) (by show w.heap.size < w2.heap.size; omega)).trans (hfz j)
      have hg0 := hf4 0
      have hg1 := hf4 1
      have Hb4 := Lib.hid (Below.tr Hb0.out Hb.out)
      clear hfz hf4
      go_wp2_with fail
      refine bodyPost_ret (v := .tuple #[.agg #[.int .i64 0, .int .i64 0], .int .i64 5]) (by simp [results, Try.results63, go_sem]; go_simp) rfl ⟨.inl ⟨R.out, rfl⟩, ?_⟩
      exact (Hb4.out.setCell (Nat.le_refl _) _).setCell (Nat.le_refl _) _
end Go.Proofs.Ytnidalbfmicoiaa
