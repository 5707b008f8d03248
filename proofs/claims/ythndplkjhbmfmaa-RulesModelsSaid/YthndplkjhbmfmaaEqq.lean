/- Contract of slices.Equal of ints: it only draws. -/
import Derived.Test.YthndplkjhbmfmaaOwn
import Derived.BigQuiet
namespace Go.Proofs.Ythndplkjhbmfmaa
open Go.RowKit
theorem equal_any (x y : List Int) (v u : Value) (w : World) (hv : Ints w v x) (hu : Ints w u y) :
    Calls Try.prog 24 #[v, u] w fun e w' => e = .returned (.bool (decide (x = y))) ∧ ∃ n, w' = w.drewN n := by
  obtain ⟨a, b, off, cap, rfl, hle, ha, hc⟩ := Ints.get hv
  obtain ⟨a', b', off', cap', rfl, hle', ha', hc'⟩ := Ints.get hu
  have hix := run_ix (P := Try.prog) (t := 23) (a := a) (len := x.length) (cap := cap) (b := b) (off := off) (s := 1) Try.underlying23 (by intro w; kernel_rfl) ha
  have hix' := run_ix (P := Try.prog) (t := 23) (a := a') (len := y.length) (cap := cap') (b := b') (off := off') (s := 1) Try.underlying23 (by intro w; kernel_rfl) ha'
  simp only [Nat.mul_one] at hix hix'
  clear ha ha' hv hu
  by_cases hxy : x.length = y.length
  · rw [← hxy] at hix' hle' ⊢
    have Hxy := Lib.hid hxy
    clear hxy
    have Hc := Lib.hid hc
    have Hc' := Lib.hid hc'
    clear hc hc'
    go_enter Try.func24, Try.ntmps24
    go_wp2
    go_loopw [13] (fun i wr => ∃ k : Nat, i = .int .i64 k ∧ k ≤ x.length ∧ (∃ n, wr = w.drewN n) ∧ (∀ j (h : j < x.length) (h' : j < y.length), j < k → x[j] = y[j])) (fun i _ => x.length - (intOf i).toNat)
    case atStart => exact ⟨0, rfl, Nat.zero_le _, ⟨0, rfl⟩, fun i _ _ h => by omega⟩
    case round =>
      obtain ⟨k, rfl, hk, ⟨n, hn⟩, hin⟩ := hrel
      have Hn := Lib.hid hn
      clear hn
      have Hin := Lib.hid hin
      clear hin
      by_cases hlt : k < x.length
      · have hlt' : k < y.length := by have := Hxy.out; omega
        have hc1 := (show wr.cell? ⟨b, off + k, none⟩ = w.cell? ⟨b, off + k, none⟩ by rw [Hn.out]; rfl).trans (Hc.out k hlt)
        have hc2 := (show wr.cell? ⟨b', off' + k, none⟩ = w.cell? ⟨b', off' + k, none⟩ by rw [Hn.out]; rfl).trans (Hc'.out k hlt')
        by_cases he : x[k] = y[k]
        · have R : ∀ j (h : j < x.length) (h' : j < y.length), j < k + 1 → x[j] = y[j] := fun j h h' hj => by
            by_cases e : j = k
            · subst e; exact he
            · exact Hin.out j h h' (by omega)
          have R := Lib.hid R
          go_wp2_with fail
          go_quiet (fail)
          go_wp2_with fail
          go_roundw
          case rel => exact ⟨k + 1, by go_num, by omega, ⟨_, by rw [Hn.out]; exact World.drewN_drewN _ _ _⟩, R.out⟩
          case measure => simp [intOf]; omega
        · have R : decide (x = y) = false := decide_eq_false fun h => he (by subst h; rfl)
          have R := Lib.hid R
          go_wp2_with fail
          go_quiet (fail)
          go_wp2_with fail
          go_ret
          exact ⟨congrArg (fun b => Ending.returned (.bool b)) R.out.symm, _, by rw [Hn.out]; exact World.drewN_drewN _ _ _⟩
      · obtain rfl : k = x.length := by omega
        have R : decide (x = y) = true := decide_eq_true (List.ext_getElem Hxy.out fun j h h' => Hin.out j h h' h)
        go_wp2
        go_ret
        exact ⟨congrArg (fun b => Ending.returned (.bool b)) R.symm, n, Hn.out⟩
  · have R : decide (x = y) = false := decide_eq_false fun h => hxy (by rw [h])
    have R := Lib.hid R
    clear hc hc'
    go_enter Try.func24, Try.ntmps24
    go_wp2
    go_ret
    exact ⟨congrArg (fun b => Ending.returned (.bool b)) R.out.symm, 0, rfl⟩
theorem equal_yes {x y : List Int} (h : x = y) (v u : Value) (w : World) (hv : Ints w v x) (hu : Ints w u y) :
    Calls Try.prog 24 #[v, u] w fun e w' => e = .returned (.bool true) ∧ ∃ n, w' = w.drewN n := by
  have := equal_any x y v u w hv hu
  rwa [decide_eq_true h] at this
#print axioms equal_any
end Go.Proofs.Ythndplkjhbmfmaa
